/-
  Contracts of the specification's drawn value of a field: one of eight texts.
-/
import Derived.Test.YtpbmofofigkpjaaDoorSro
import Derived.Test.YtpbmofofigkpjaaDoorFlt
import Derived.Test.YtpbmofofigkpjaaDoorSvw
namespace Go.Proofs.YtpbmofofigkpjaaDoor.sr
open Go.RowKit
open Go.Proofs.YtpbmofofigkpjaaDoor.ut (scB inB encB)
set_option linter.unusedVariables false

/-- A short text of runes. -/
def Short (s : ByteArray) : Prop := ∃ zs : List Int, ut.Runes zs ∧ s = ut.mk (zs.flatMap encB) ∧ (zs.flatMap encB).length ≤ 120
theorem flat_ascii : ∀ (l : List UInt8), (∀ b ∈ l, b.toNat < 128) → (l.map fun b => (b.toNat : Int)).flatMap encB = l ∧ ut.Runes (l.map fun b => (b.toNat : Int))
  | [], _ => ⟨rfl, fun r hr => (by cases hr)⟩
  | c :: l, h => by
    have hc := h c List.mem_cons_self
    have ih := flat_ascii l (fun b hb => h b (List.mem_cons_of_mem _ hb))
    have hsc : scB (c.toNat : Int) = true := by simp [scB, inB]; omega
    have he : encB (c.toNat : Int) = [c] := by
      rcases ut.enc_list hsc (by omega) with ⟨_, e⟩ | ⟨e, _⟩ | ⟨e, _⟩ | ⟨e, _⟩
      · rw [e]; simp
      · omega
      · omega
      · omega
    refine ⟨by rw [List.map_cons, List.flatMap_cons, he, ih.1]; rfl, fun r hr => ?_⟩
    rw [List.map_cons] at hr
    rcases List.mem_cons.1 hr with rfl | hr
    · exact hsc
    · exact ih.2 r hr
theorem short_of (l : List UInt8) (h : ∀ b ∈ l, b.toNat < 128) (hl : l.length ≤ 120) : Short ⟨l.toArray⟩ := by
  have := flat_ascii l h
  exact ⟨_, this.2, by rw [this.1]; rfl, by rw [this.1]; exact hl⟩
/-- What picking a text leaves. -/
def PickedQ (w : World) (b : Nat) (a : Option Addr) (len cap : Nat) (at_ k : Int) (Q : ByteArray → Prop) (e : Ending) (w' : World) : Prop :=
  ∃ (s : ByteArray) (at' sd' : Int), e = .returned (.string s) ∧ Q s ∧ at_ ≤ at' ∧ at' ≤ at_ + k ∧ 0 ≤ sd' ∧ sd' < 2147483648 ∧ Src w' b a len cap at' sd' ∧ w.grownBy w' (some b)

set_option maxHeartbeats 1000000 in
theorem pickQ_any (w : World) (b : Nat) (a : Option Addr) (len cap : Nat) (at_ sd : Int) (lb n c2 : Nat) (Q : ByteArray → Prop) (hs : Src w b a len cap at_ sd) (hc : Code w b a len) (h0 : 0 ≤ at_) (h1 : at_ ≤ 900000) (s0 : 0 ≤ sd) (s1 : sd < 2147483648)
    (hn : 1 ≤ n) (hn2 : n ≤ 1000) (hne : lb ≠ b) (hcell : ∀ j, j < n → ∃ s : ByteArray, Q s ∧ w.cell? ⟨lb, j, none⟩ = some (.string s)) :
    Calls Tryd.prog 54 #[.pointer (some ⟨b, 0, none⟩), .slice (some ⟨lb, 0, none⟩) n c2] w fun e w' => PickedQ w b a len cap at_ 3 Q e w' := by
  have hz : ((n : Int) == 0) = false := beq_eq_false_iff_ne.2 (by omega)
  go_enter Tryd.func54, Tryd.ntmps54
  go_wp2_with fail
  refine (next_any _ b a len cap at_ sd n hs hc h0 h1 s0 s1 (by omega) (by omega)).mono ?_
  rintro e w1 ⟨x, at1, sd1, rfl, x0, x1, a0, a1, d0, d1, hs1, hg1⟩
  obtain ⟨k, rfl⟩ : ∃ k : Nat, x = (k : Int) := ⟨x.toNat, by omega⟩
  obtain ⟨s, hsz, hk⟩ := hcell k (by omega)
  have hk1 : w1.cell? ⟨lb, k, none⟩ = some (.string s) := hg1.cell hk (fun e => hne (by simpa using e))
  have HH : Hid (Src w1 b a len cap at1 sd1 ∧ w.grownBy w1 (some b) ∧ Q s) := ⟨hs1, hg1, hsz⟩
  clear hs1 hg1 hs hc hcell hk hsz
  have hlt : (k : Int) < (n : Int) := by omega
  go_wp2
  go_ret
  exact ⟨s, at1, sd1, rfl, HH.out.2.2, a0, a1, d0, d1, HH.out.1, HH.out.2.1⟩

def valRow : List Value := [.string ⟨#[]⟩, .string ⟨#[97, 32, 118, 97, 108, 117, 101]⟩, .string ⟨#[111, 110, 101, 32, 116, 119, 111, 32, 116, 104, 114, 101, 101]⟩, .string ⟨#[120]⟩, .string ⟨#[97, 61, 63, 98]⟩, .string ⟨#[97, 32, 118, 97, 108, 117, 101, 32, 116, 104, 97, 116, 32, 105, 115, 32, 115, 111, 32, 108, 111, 110, 103, 32, 116, 104, 97, 116, 32, 105, 116, 32, 109, 117, 115, 116, 32, 98, 101, 32, 102, 111, 108, 100, 101, 100, 32, 105, 110, 116, 111, 32, 108, 105, 110, 101, 115, 32, 111, 102, 32, 115, 101, 118, 101, 110, 116, 121, 32, 101, 105, 103, 104, 116, 32, 99, 104, 97, 114, 97, 99, 116, 101, 114, 115, 44, 32, 97, 116, 32, 108, 101, 97, 115, 116, 32, 116, 119, 111]⟩, .string ⟨#[61, 63, 117, 116, 102, 45, 56, 63, 66, 63, 119, 54, 81, 61, 63, 61, 32, 97, 110, 100, 32, 61, 63, 117, 116, 102, 45, 56, 63, 66, 63, 119, 54, 81, 61, 63, 61, 32, 61, 63, 117, 116, 102, 45, 56, 63, 66, 63, 119, 55, 89, 61, 63, 61]⟩, .string ⟨#[119, 111, 114, 100]⟩]
theorem val_at (j : Nat) (h : j < 8) : ∃ s : ByteArray, Short s ∧ valRow[j]? = some (.string s) := by
  match j, h with
  | 0, _ => exact ⟨_, short_of [] (by decide) (by decide), rfl⟩
  | 1, _ => exact ⟨_, short_of [97, 32, 118, 97, 108, 117, 101] (by decide) (by decide), rfl⟩
  | 2, _ => exact ⟨_, short_of [111, 110, 101, 32, 116, 119, 111, 32, 116, 104, 114, 101, 101] (by decide) (by decide), rfl⟩
  | 3, _ => exact ⟨_, short_of [120] (by decide) (by decide), rfl⟩
  | 4, _ => exact ⟨_, short_of [97, 61, 63, 98] (by decide) (by decide), rfl⟩
  | 5, _ => exact ⟨_, short_of [97, 32, 118, 97, 108, 117, 101, 32, 116, 104, 97, 116, 32, 105, 115, 32, 115, 111, 32, 108, 111, 110, 103, 32, 116, 104, 97, 116, 32, 105, 116, 32, 109, 117, 115, 116, 32, 98, 101, 32, 102, 111, 108, 100, 101, 100, 32, 105, 110, 116, 111, 32, 108, 105, 110, 101, 115, 32, 111, 102, 32, 115, 101, 118, 101, 110, 116, 121, 32, 101, 105, 103, 104, 116, 32, 99, 104, 97, 114, 97, 99, 116, 101, 114, 115, 44, 32, 97, 116, 32, 108, 101, 97, 115, 116, 32, 116, 119, 111] (by decide) (by decide), rfl⟩
  | 6, _ => exact ⟨_, short_of [61, 63, 117, 116, 102, 45, 56, 63, 66, 63, 119, 54, 81, 61, 63, 61, 32, 97, 110, 100, 32, 61, 63, 117, 116, 102, 45, 56, 63, 66, 63, 119, 54, 81, 61, 63, 61, 32, 61, 63, 117, 116, 102, 45, 56, 63, 66, 63, 119, 55, 89, 61, 63, 61] (by decide) (by decide), rfl⟩
  | 7, _ => exact ⟨_, short_of [119, 111, 114, 100] (by decide) (by decide), rfl⟩
  | n + 8, h => exact absurd h (by omega)
theorem val_cells (w : World) (j : Nat) (h : j < 8) : ∃ s : ByteArray, Short s ∧ (w.alloc (.cells valRow.toArray 9)).cell? ⟨w.heap.size, j, none⟩ = some (.string s) := by
  obtain ⟨s, h1, h2⟩ := val_at j h
  exact ⟨s, h1, ow.cell_new w valRow _ j _ h2⟩

set_option maxHeartbeats 1000000 in
set_option maxRecDepth 100000 in
theorem value_any (w : World) (b : Nat) (a : Option Addr) (len cap : Nat) (at_ sd : Int) (hs : Src w b a len cap at_ sd) (hc : Code w b a len) (h0 : 0 ≤ at_) (h1 : at_ ≤ 600000) (s0 : 0 ≤ sd) (s1 : sd < 2147483648) :
    Calls Tryd.prog 45 #[.pointer (some ⟨b, 0, none⟩)] w fun e w' => PickedQ w b a len cap at_ 3 Short e w' := by
  have hbw : b < w.heap.size := (Array.getElem?_eq_some_iff.1 hs).1
  have hga : w.grownBy (w.alloc (.cells valRow.toArray 9)) (some b) := World.grownBy_alloc _ _ _
  have hsa : Src (w.alloc (.cells valRow.toArray 9)) b a len cap at_ sd := src_keep hs (World.grownBy_alloc _ _ none) (by simp)
  have hca := code_keep hc hga
  have HP : Hid (Calls Tryd.prog 54 #[.pointer (some ⟨b, 0, none⟩), .slice (some ⟨w.heap.size, 0, none⟩) 8 8] (w.alloc (.cells valRow.toArray 9)) fun e w' => PickedQ (w.alloc (.cells valRow.toArray 9)) b a len cap at_ 3 Short e w') :=
    pickQ_any _ b a len cap at_ sd w.heap.size 8 8 Short hsa hca h0 (by omega) s0 s1 (by omega) (by omega) (by omega) (fun j hj => val_cells w j hj)
  clear hsa hca hs hc
  go_enter Tryd.func45, Tryd.ntmps45
  go_wp2_with fail
  refine HP.out.mono ?_
  rintro e w1 ⟨s, at1, sd1, rfl, hq, a0, a1, d0, d1, hs1, hg1⟩
  have HH : Hid (Src w1 b a len cap at1 sd1 ∧ w.grownBy w1 (some b) ∧ Short s) := ⟨hs1, ow.grown_trans hga hg1, hq⟩
  clear hs1 hg1 hq hga HP
  go_wp2
  go_ret
  exact ⟨s, at1, sd1, rfl, HH.out.2.2, a0, a1, d0, d1, HH.out.1, HH.out.2.1⟩

set_option maxHeartbeats 1000000 in
set_option maxRecDepth 100000 in
theorem valueOf_any (w : World) (a : Option Addr) (len cap : Nat) (h : Bytes w a len) :
    Calls Tryd.prog 19 #[.slice a len cap] w fun e w' => (∃ s, e = .returned (.string s) ∧ Short s ∧ hd.Safe s.data.toList) ∧ Below w.heap.size w w' := by
  have hl := h.1
  go_enter Tryd.func19, Tryd.ntmps19
  go_wp2_with fail
  refine (source_any _ a len cap hl).mono ?_
  rintro e w1 ⟨rfl, rfl⟩
  have hs := src_started w a len cap
  have hc := code_started (cap := cap) h
  have hb : Below w.heap.size w (started w a len cap) := (Below.refl _ _).alloc (Nat.le_refl _) _
  generalize started w a len cap = w1 at hs hc hb ⊢
  go_wp2_with fail
  refine (value_any _ _ a len cap 0 _ hs hc (by omega) (by omega) (by omega) (by omega)).mono ?_
  rintro e w2 ⟨s, at2, sd2, rfl, hq, _, _, _, _, _, hg⟩
  have HH : Hid (Below w.heap.size w w2) := Below.grown hb hg hb.size (fun k e => Nat.le_of_eq (Option.some.inj e))
  have HQ : Hid (Short s) := hq
  have hsz : s.size ≤ maxLen := by
    obtain ⟨zs, _, e, hl⟩ := hq
    rw [e, ut.mk_size]
    unfold maxLen
    omega
  clear hg hb hs hc h hq
  go_wp2_with fail
  refine (sv.spec_any s _ hsz).mono ?_
  rintro e w3 ⟨hsv, rfl⟩
  by_cases hsafe : hd.Safe s.data.toList
  · obtain rfl := sv.says_true hsv hsafe
    have HS : Hid (hd.Safe s.data.toList) := hsafe
    clear hsv hsafe
    go_wp2
    go_ret
    exact ⟨⟨s, rfl, HQ.out, HS.out⟩, HH.out⟩
  · obtain rfl := sv.says_false hsv hsafe
    clear hsv hsafe
    go_wp2
    go_ret
    exact ⟨⟨⟨#[120]⟩, rfl, short_of [120] (by decide) (by decide), ⟨by decide, .inr ⟨1, by decide, by decide⟩⟩⟩, HH.out⟩
end Go.Proofs.YtpbmofofigkpjaaDoor.sr
