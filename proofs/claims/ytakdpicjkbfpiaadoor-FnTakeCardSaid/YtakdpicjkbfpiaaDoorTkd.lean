/-
  Drawn commands: a list of lines.
-/
import Derived.Test.YtakdpicjkbfpiaaDoorTkc
import Derived.Test.YtakdpicjkbfpiaaDoorKya
namespace Go.Proofs.YtakdpicjkbfpiaaDoor.tk
open Go.RowKit
open sr se
set_option linter.unusedVariables false

theorem own_src {w w' : World} {base b e size n : Nat} {v : Value} {xs : List Value} (h : w.ownsRow base e size v n xs) (hb : b < base) (hg : w.grownBy w' (some b)) : w'.ownsRow base e size v n xs := by
  obtain ⟨h1, h2⟩ := h
  refine ⟨h1, ?_⟩
  rcases h2 with h2 | ⟨g, cap, cur, a, b', c, d⟩
  · exact .inl h2
  · have hlt : g < w.heap.size := (Array.getElem?_eq_some_iff.1 c).1
    exact .inr ⟨g, cap, cur, a, b', (hg.block g hlt (by simp; omega)).trans c, d⟩
theorem infoStr : (Tryd.prog.info? 9).map (fun i => (i.zero, i.size, i.bytes)) = some (some (.string ByteArray.empty), 1, 16) := by kernel_rfl
/-- The two lines that come first. -/
def headL : List ByteArray := [⟨#[97, 48, 32, 108, 111, 103, 105, 110, 32, 117, 115, 101, 114, 32, 102, 101, 101, 100]⟩, ⟨#[97, 49, 32, 115, 101, 108, 101, 99, 116, 32, 110, 101, 119, 115]⟩]
theorem head_lt : ∀ s ∈ headL, Lt 64 s := by
  intro s hs
  simp only [headL, List.mem_cons, List.not_mem_nil, or_false] at hs
  rcases hs with rfl | rfl <;> exact lt_of (by decide)
theorem own_head (w : World) : (w.alloc (.cells (headL.map Value.string).toArray 9)).ownsRow w.heap.size 9 1 (.slice (some ⟨w.heap.size, 0, none⟩) 2 2) headL.length (headL.map Value.string) := by
  have h1 : (w.alloc (.cells (headL.map Value.string).toArray 9)).heap[w.heap.size]? = some (.cells (headL.map Value.string).toArray 9) := by
    show (w.heap.push _)[w.heap.size]? = _
    simp
  exact ⟨rfl, .inr ⟨_, 2, _, rfl, Nat.le_refl _, h1, Nat.le_refl _, by unfold maxLen; omega, rfl, rfl⟩⟩
/-- Drawn lines. -/
def Lines (w : World) (b : Nat) (e : Ending) (w' : World) : Prop :=
  ∃ (v : Value) (L : List ByteArray), e = .returned v ∧ L.length ≤ 18 ∧ (∀ s ∈ L, Lt 64 s) ∧ w'.ownsRow w.heap.size 9 1 v L.length (L.map Value.string) ∧ w.grownBy w' (some b)
set_option maxHeartbeats 4000000 in
set_option maxRecDepth 100000 in
theorem lines_any (w : World) (b : Nat) (a : Option Addr) (len cap : Nat) (at_ sd : Int) (hs : Src w b a len cap at_ sd) (hc : sr.Code w b a len) (h0 : 0 ≤ at_) (h1 : at_ ≤ 1000) (s0 : 0 ≤ sd) (s1 : sd < 2147483648) :
    Calls Tryd.prog 26 #[.pointer (some ⟨b, 0, none⟩)] w fun e w' => Lines w b e w' := by
  obtain ⟨i0, hi, hz0, hz1, hz2⟩ := info_parts infoStr
  have hbw : b < w.heap.size := (Array.getElem?_eq_some_iff.1 hs).1
  have hl : len ≤ 1048576 := hc.1
  have hga : w.grownBy (w.alloc (.cells (headL.map Value.string).toArray 9)) (some b) := World.grownBy_alloc _ _ _
  have hsa : Src (w.alloc (.cells (headL.map Value.string).toArray 9)) b a len cap at_ sd := src_keep hs (World.grownBy_alloc _ _ none) (by simp)
  have hca := code_keep hc hga
  have hoa := own_head w
  obtain ⟨W, hW⟩ : ∃ W, W = w.alloc (.cells (headL.map Value.string).toArray 9) := ⟨_, rfl⟩
  rw [← hW] at hga hsa hca hoa
  have HW : Hid (W = w.alloc (.cells (headL.map Value.string).toArray 9)) := hW
  have HSA : Hid (Src W b a len cap at_ sd) := hsa
  have HCA : Hid (sr.Code W b a len) := hca
  have HGA : Hid (w.grownBy W (some b)) := hga
  have HOA : Hid (W.ownsRow w.heap.size 9 1 (.slice (some ⟨w.heap.size, 0, none⟩) 2 2) headL.length (headL.map Value.string)) := hoa
  clear hs hc hga hsa hca hoa hW
  go_enter Tryd.func26, Tryd.ntmps26
  go_wp2_with fail
  generalize hX : w.alloc _ = X
  have hX : X = W := by rw [← hX]; exact HW.out.symm
  subst hX
  refine (size_any X b a len cap at_ sd 14 HSA.out hl (by omega) (by omega)).mono ?_
  rintro e w1 ⟨z, rfl, hz3, hz4, hw1⟩
  have hw1 := hw1.symm
  subst hw1
  go_wp2_with fail
  refine (next_any X b a len cap at_ sd _ HSA.out HCA.out h0 (by omega) s0 s1 (by omega) (by omega)).mono ?_
  rintro e w2 ⟨r, at2, sd2, rfl, r0, r1, a2, a3, d2, d3, hs2, hg2⟩
  have H2 : Hid (Src w2 b a len cap at2 sd2 ∧ sr.Code w2 b a len ∧ w.grownBy w2 (some b) ∧ w2.ownsRow w.heap.size 9 1 (.slice (some ⟨w.heap.size, 0, none⟩) 2 2) headL.length (headL.map Value.string)) := ⟨hs2, code_keep HCA.out hg2, ow.grown_trans HGA.out hg2, own_src HOA.out hbw hg2⟩
  obtain ⟨q, rfl⟩ : ∃ q : Nat, r = (q : Int) := ⟨r.toNat, by omega⟩
  have hq : q ≤ 16 := by omega
  clear HSA HCA HGA HOA HW hs2 hg2
  go_wp2
  go_loopw [3, 4] (fun v i wr => ∃ (j : Nat) (L : List ByteArray) (at3 sd3 : Int), j ≤ q ∧ i = .int .i64 j ∧ L.length + j = q + 2 ∧ (∀ s ∈ L, Lt 64 s) ∧ wr.ownsRow w.heap.size 9 1 v L.length (L.map Value.string) ∧ Src wr b a len cap at3 sd3 ∧ sr.Code wr b a len ∧ w.grownBy wr (some b) ∧ 0 ≤ at3 ∧ at3 + 20 * (j : Int) ≤ 2000 ∧ 0 ≤ sd3 ∧ sd3 < 2147483648) (fun _ i _ => (intOf i).toNat)
  case atStart => exact ⟨q, headL, at2, sd2, Nat.le_refl _, rfl, by show 2 + q = q + 2; omega, head_lt, H2.out.2.2.2, H2.out.1, H2.out.2.1, H2.out.2.2.1, by omega, by omega, d2, d3⟩
  case round =>
    obtain ⟨j, L, at3, sd3, hj, rfl, hLj, hL, hown, hs3, hc3, hg3, b0, b1, b2, b3⟩ := hrel
    have HL : Hid (∀ s ∈ L, Lt 64 s) := hL
    clear hL
    by_cases hlt : 0 < j
    · have hlt' : (0 : Int) < (j : Int) := by omega
      have HC : Hid (Calls Tryd.prog 39 #[.pointer (some ⟨b, 0, none⟩)] wr fun e w' => Cm wr b a len cap at3 e w') := command_any wr b a len cap at3 sd3 hs3 hc3 b0 (by omega) b2 b3
      have HG3 : Hid (w.grownBy wr (some b)) := hg3
      have hsz := hg3.size
      clear hs3 hc3 hg3
      go_wp2_with fail
      refine HC.out.mono ?_
      rintro e w4 ⟨s, at4, sd4, rfl, hs, a4, a5, d4, d5, hs4, hc4, hg4⟩
      have hown4 := own_src hown hbw hg4
      have HS4 : Hid (Lt 64 s) := hs
      have HSR : Hid (Src w4 b a len cap at4 sd4 ∧ sr.Code w4 b a len) := ⟨hs4, hc4⟩
      have HG4 : Hid (w.grownBy w4 (some b)) := ow.grown_trans HG3.out hg4
      have hsz4 := hg4.size
      clear HC hown hs hs4 hc4 hg4 HG3
      go_wp2_with (at_builtin; refine wpList_append_own _ rfl _ _ 25 rfl w.heap.size 9 i0 (.string ByteArray.empty) 1 16 Tryd.underlying25 hi hz0 hz1 hz2 rfl (by decide) _ _ _ rfl (hown4.alloc _) ⟨w4.heap.size, 0, none⟩ 1 1 [.string s] rfl rfl (ow.cells_new _ [.string s] _) (by intro u hu; simp at hu; subst hu; rfl) (by unfold maxLen; omega) (by omega) (by simp; omega) ?_; intro v' w5 hown5 hgrow5 hnil5)
      have HE : Hid (w5.ownsRow w.heap.size 9 1 v' (L ++ [s]).length ((L ++ [s]).map Value.string) ∧ Src w5 b a len cap at4 sd4 ∧ sr.Code w5 b a len ∧ w.grownBy w5 (some b)) := by
        have hne : some b ≠ u3.ownBlock := fun e => by have := ow.own_lt hown4 b e.symm; omega
        have hal : w4.grownBy (w4.alloc (.cells #[.string s] 9)) none := World.grownBy_alloc _ _ _
        have hs5 : Src w5 b a len cap at4 sd4 := src_keep (src_keep HSR.out.1 hal (by simp)) hgrow5 hne
        refine ⟨by rw [List.map_append, List.length_append]; exact hown5, hs5, ?_, ow.grown_new HG4.out hown4 (Nat.le_refl _) _ hgrow5⟩
        exact sr.code_keep' (sr.code_keep' HSR.out.2 hal (fun k e => by cases e)) hgrow5 (fun k e => by have := ow.own_lt hown4 k e; omega)
      clear hown5 hgrow5 hnil5 hown4 HSR HG4
      go_wp2
      go_roundw
      case rel =>
        refine ⟨j - 1, L ++ [s], at4, sd4, by omega, by congr 1; omega, by simp; omega, fun x hx => ?_, HE.out.1, HE.out.2.1, HE.out.2.2.1, HE.out.2.2.2, by omega, by omega, d4, d5⟩
        rcases List.mem_append.1 hx with h | h
        · exact HL.out x h
        · rw [List.mem_singleton.1 h]; exact HS4.out
      case measure => simp [intOf]; omega
    · have hj0 : j = 0 := by omega
      subst hj0
      go_wp2
      go_ret
      exact ⟨u3, L, rfl, by omega, HL.out, hown, hg3⟩
set_option maxRecDepth 100000 in
theorem linesOf_any (w : World) (a : Option Addr) (len cap : Nat) (h : Bytes w a len) :
    Calls Tryd.prog 13 #[.slice a len cap] w fun e w' => (∃ (v : Value) (L : List ByteArray), e = .returned v ∧ L.length ≤ 18 ∧ (∀ s ∈ L, Lt 64 s) ∧ ky.OwnT w' w.heap.size v L) ∧ Below w.heap.size w w' := by
  have hl : len ≤ 1048576 := h.1
  have hss := src_started w a len cap
  have hcs : sr.Code (started w a len cap) w.heap.size a len := code_started h
  have b0 : Below w.heap.size w (started w a len cap) := (Below.refl _ _).alloc (Nat.le_refl _) _
  have hz : w.heap.size < (started w a len cap).heap.size := by unfold started; simp
  have HT : Hid (Calls Tryd.prog 26 #[.pointer (some ⟨w.heap.size, 0, none⟩)] (started w a len cap) fun e w' => Lines (started w a len cap) w.heap.size e w') := lines_any _ _ _ _ _ _ _ hss hcs (by omega) (by omega) (Int.emod_nonneg _ (by omega)) (by have := Int.emod_lt_of_pos (len : Int) (show (0 : Int) < 1000 by omega); omega)
  clear h hss hcs
  go_enter Tryd.func13, Tryd.ntmps13
  go_wp2_with fail
  refine (source_any w a len cap hl).mono ?_
  rintro e w1 ⟨rfl, hw1⟩
  rw [← hw1] at HT b0 hz
  clear hw1
  go_wp2_with fail
  refine HT.out.mono ?_
  rintro e w2 ⟨v, L, rfl, hL, hLt, hown, hg⟩
  have b2 : Below w.heap.size w w2 := b0.grown hg (by omega) (fun k hk => by simp at hk; omega)
  have HR : Hid (L.length ≤ 18 ∧ (∀ s ∈ L, Lt 64 s) ∧ ky.OwnT w2 w.heap.size v L) := ⟨hL, hLt, ow.own_base hown (by omega)⟩
  clear HT hg hown hLt
  go_wp2
  go_ret
  exact ⟨⟨v, L, rfl, HR.out⟩, b2⟩
end Go.Proofs.YtakdpicjkbfpiaaDoor.tk
