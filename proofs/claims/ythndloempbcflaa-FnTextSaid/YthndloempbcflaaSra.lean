/-
  Contracts of the specification's drawn texts that may have bytes that are none: picking one of some texts, and such a text of a code.
-/
import Derived.Test.YthndloempbcflaaSro
import Derived.RegionTactic
import Derived.RegionCalls
import Derived.Deep.RegionWith
namespace Go.Proofs.Ythndloempbcflaa.sr
open Go.RowKit
open Go.Proofs.Ythndloempbcflaa.ut (scB inB encB cellsOf flat_len)
set_option linter.unusedVariables false

/-- What picking a short text leaves. -/
def Picked (w : World) (b : Nat) (a : Option Addr) (len cap : Nat) (at_ k : Int) (top : Nat) (e : Ending) (w' : World) : Prop :=
  ∃ (s : ByteArray) (at' sd' : Int), e = .returned (.string s) ∧ s.size ≤ top ∧ at_ ≤ at' ∧ at' ≤ at_ + k ∧ 0 ≤ sd' ∧ sd' < 2147483648 ∧ Src w' b a len cap at' sd' ∧ w.grownBy w' (some b)

set_option maxHeartbeats 1000000 in
theorem pick_any (w : World) (b : Nat) (a : Option Addr) (len cap : Nat) (at_ sd : Int) (lb n c2 top : Nat) (hs : Src w b a len cap at_ sd) (hc : Code w b a len) (h0 : 0 ≤ at_) (h1 : at_ ≤ 900000) (s0 : 0 ≤ sd) (s1 : sd < 2147483648)
    (hn : 1 ≤ n) (hn2 : n ≤ 1000) (hne : lb ≠ b) (hcell : ∀ j, j < n → ∃ s : ByteArray, s.size ≤ top ∧ w.cell? ⟨lb, j, none⟩ = some (.string s)) :
    Calls Try.prog 34 #[.pointer (some ⟨b, 0, none⟩), .slice (some ⟨lb, 0, none⟩) n c2] w fun e w' => Picked w b a len cap at_ 3 top e w' := by
  have hz : ((n : Int) == 0) = false := beq_eq_false_iff_ne.2 (by omega)
  go_enter Try.func34, Try.ntmps34
  go_wp2_with fail
  refine (next_any _ b a len cap at_ sd n hs hc h0 h1 s0 s1 (by omega) (by omega)).mono ?_
  rintro e w1 ⟨x, at1, sd1, rfl, x0, x1, a0, a1, d0, d1, hs1, hg1⟩
  obtain ⟨k, rfl⟩ : ∃ k : Nat, x = (k : Int) := ⟨x.toNat, by omega⟩
  obtain ⟨s, hsz, hk⟩ := hcell k (by omega)
  have hk1 : w1.cell? ⟨lb, k, none⟩ = some (.string s) := hg1.cell hk (fun e => hne (by simpa using e))
  have HH : Hid _ := And.intro hs1 hg1
  clear hs1 hg1 hs hc hcell hk
  have hlt : (k : Int) < (n : Int) := by omega
  go_wp2
  go_ret
  exact ⟨s, at1, sd1, rfl, hsz, a0, a1, d0, d1, HH.out.1, HH.out.2⟩

def oddRow : List Value := [.string ⟨#[128]⟩, .string ⟨#[192, 128]⟩, .string ⟨#[237, 160, 128]⟩, .string ⟨#[244, 144, 128, 128]⟩, .string ⟨#[226, 130]⟩, .string ⟨#[255]⟩, .string ⟨#[240, 159]⟩]
theorem odd_at (j : Nat) (h : j < 7) : ∃ s : ByteArray, s.size ≤ 4 ∧ oddRow[j]? = some (.string s) := by
  match j, h with
  | 0, _ => exact ⟨_, by decide, rfl⟩
  | 1, _ => exact ⟨_, by decide, rfl⟩
  | 2, _ => exact ⟨_, by decide, rfl⟩
  | 3, _ => exact ⟨_, by decide, rfl⟩
  | 4, _ => exact ⟨_, by decide, rfl⟩
  | 5, _ => exact ⟨_, by decide, rfl⟩
  | 6, _ => exact ⟨_, by decide, rfl⟩
  | n + 7, h => exact absurd h (by omega)
theorem odd_cells (w : World) (j : Nat) (h : j < 7) : ∃ s : ByteArray, s.size ≤ 4 ∧ (w.alloc (.cells oddRow.toArray 9)).cell? ⟨w.heap.size, j, none⟩ = some (.string s) := by
  obtain ⟨s, h1, h2⟩ := odd_at j h
  exact ⟨s, h1, ow.cell_new w oddRow _ j _ h2⟩

set_option maxHeartbeats 2000000 in
set_option maxRecDepth 100000 in
theorem anyText_any (w : World) (b : Nat) (a : Option Addr) (len cap : Nat) (at_ sd : Int) (hs : Src w b a len cap at_ sd) (hc : Code w b a len) (h0 : 0 ≤ at_) (h1 : at_ ≤ 600000) (s0 : 0 ≤ sd) (s1 : sd < 2147483648) :
    Calls Try.prog 22 #[.pointer (some ⟨b, 0, none⟩)] w fun e w' => Picked w b a len cap at_ 2000 100 e w' := by
  go_enter Try.func22, Try.ntmps22
  go_wp2_with fail
  refine (text_any _ b a len cap at_ sd hs hc h0 (by omega) s0 s1).mono ?_
  rintro e w1 ⟨zs, at1, sd1, rfl, hz, _, a0, a1, d0, d1, hs1, hg1⟩
  have hc1 := code_keep hc hg1
  obtain ⟨s, hse⟩ : ∃ s : ByteArray, s = ⟨(zs.flatMap encB).toArray⟩ := ⟨_, rfl⟩
  have hss : s.size ≤ 44 := by
    rw [hse, Lib.size_eq]
    have := flat_len zs
    show (zs.flatMap encB).length ≤ 44
    omega
  rw [← hse]
  clear hse hs hc
  go_wp2_with fail
  refine (chance_any _ b a len cap at1 sd1 2 hs1 hc1 (by omega) (by omega) d0 d1 (by omega) (by omega)).mono ?_
  rintro e w2 ⟨ch, at2, sd2, rfl, a2, a3, d2, d3, hs2, hg2⟩
  have hc2 := code_keep hc1 hg2
  have hgw2 := ow.grown_trans hg1 hg2
  clear hs1 hc1 hg1 hg2
  cases ch
  · have HH : Hid _ := And.intro hs2 hgw2
    clear hs2 hgw2 hc2
    go_wp2
    go_ret
    exact ⟨s, at2, sd2, rfl, by omega, by omega, by omega, d2, d3, HH.out.1, HH.out.2⟩
  have e1 : (s.size : Int) + 1 ≤ 45 := by omega
  go_wp2_with fail
  refine (next_any _ b a len cap at2 sd2 _ hs2 hc2 (by omega) (by omega) d2 d3 (by omega) (by omega)).mono ?_
  rintro e w3 ⟨x, at3, sd3, rfl, x0, x1, a4, a5, d4, d5, hs3, hg3⟩
  obtain ⟨k, rfl⟩ : ∃ k : Nat, x = (k : Int) := ⟨x.toNat, by omega⟩
  have hc3 := code_keep hc2 hg3
  have hgw3 := ow.grown_trans hgw2 hg3
  have hb3 : b < w3.heap.size := (Array.getElem?_eq_some_iff.1 hs3).1
  clear hs2 hc2 hgw2 hg3
  have hks : (k : Int) ≤ (s.size : Int) := by omega
  have hks2 : k ≤ s.size := by omega
  have hsa : Src (w3.alloc (.cells oddRow.toArray 9)) b a len cap at3 sd3 := src_keep hs3 (World.grownBy_alloc _ _ none) (by simp)
  have hca : Code (w3.alloc (.cells oddRow.toArray 9)) b a len := code_keep hc3 (World.grownBy_alloc _ _ _)
  have hga : w.grownBy (w3.alloc (.cells oddRow.toArray 9)) (some b) := ow.grown_trans hgw3 (World.grownBy_alloc _ _ _)
  have HPH : Hid (Calls Try.prog 34 #[.pointer (some ⟨b, 0, none⟩), .slice (some ⟨w3.heap.size, 0, none⟩) 7 7] ((w3.alloc (.cells #[Value.string { data := #[128] }, Value.string { data := #[192, 128] }, Value.string { data := #[237, 160, 128] }, Value.string { data := #[244, 144, 128, 128] }, Value.string { data := #[226, 130] }, Value.string { data := #[255] }, Value.string { data := #[240, 159] }] 9)).drew) fun e w' => Picked w b a len cap at3 3 4 e w') := by
    unfold Hid
    refine (pick_any ((w3.alloc (.cells oddRow.toArray 9)).drew) b a len cap at3 sd3 w3.heap.size 7 7 4 hsa hca (by omega) (by omega) d4 d5 (by omega) (by omega) (by omega) (fun j hj => odd_cells w3 j hj)).mono ?_
    rintro e w' ⟨x, at4, sd4, rfl, hx, p0, p1, p2, p3, hs4, hg4⟩
    exact ⟨x, at4, sd4, rfl, hx, p0, p1, p2, p3, hs4, ow.grown_trans (⟨hga.os, hga.tape, hga.output, hga.size, hga.block⟩ : w.grownBy ((w3.alloc (.cells oddRow.toArray 9)).drew) (some b)) hg4⟩
  clear hsa hca hga hs3 hc3 hgw3
  go_wp2_with fail
  go_region_with (go_at_call 34; refine (Hid.out HPH).mono ?_; rintro e w4 ⟨y, at4, sd4, rfl, hy, p0, p1, p2, p3, hs4, hg4⟩)
  have HH : Hid _ := And.intro hs4 hg4
  clear hs4 hg4 HPH
  go_wp2
  go_ret
  exact ⟨_, at4, sd4, rfl, by simp only [ByteArray.size_append, ByteArray.size_extract]; omega, by omega, by omega, p2, p3, HH.out.1, HH.out.2⟩

/-- A text of at most a hundred bytes. -/
def ShortIs (e : Ending) : Prop := ∃ s : ByteArray, e = .returned (.string s) ∧ s.size ≤ 100

set_option maxHeartbeats 1000000 in
theorem anyTextOf_any (w : World) (a : Option Addr) (len cap : Nat) (h : Bytes w a len) :
    Calls Try.prog 12 #[.slice a len cap] w fun e w' => ShortIs e ∧ Below w.heap.size w w' := by
  have hl := h.1
  go_enter Try.func12, Try.ntmps12
  go_wp2_with fail
  refine (source_any _ a len cap hl).mono ?_
  rintro e w1 ⟨rfl, rfl⟩
  have hs := src_started w a len cap
  have hc := code_started (cap := cap) h
  have hb : Below w.heap.size w (started w a len cap) := (Below.refl _ _).alloc (Nat.le_refl _) _
  generalize started w a len cap = w1 at hs hc hb ⊢
  go_wp2_with fail
  refine (anyText_any _ _ a len cap 0 _ hs hc (by omega) (by omega) (by omega) (by omega)).mono ?_
  rintro e w2 ⟨s, at2, sd2, rfl, hz, _, _, _, _, _, hg⟩
  have HH : Hid (Below w.heap.size w w2) := Below.grown hb hg hb.size (fun k e => Nat.le_of_eq (Option.some.inj e))
  clear hg hb hs hc h
  go_wp2
  go_ret
  exact ⟨⟨s, rfl, hz⟩, HH.out⟩
end Go.Proofs.Ythndloempbcflaa.sr
