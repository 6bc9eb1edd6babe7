/-
  A drawn text of lines.
-/
import Derived.Test.YtcflfejdpjphjaaDoorSrs
import Derived.Test.YtcflfejdpjphjaaDoorDtt
namespace Go.Proofs.YtcflfejdpjphjaaDoor.dt
open Go.RowKit
open sr se
set_option linter.unusedVariables false

/-- The six lines that are drawn. -/
def stfL : List ByteArray := [⟨#[108, 105, 110, 101, 13, 10]⟩, ⟨#[46, 13, 10]⟩, ⟨#[46, 46, 13, 10]⟩, ⟨#[46, 120, 13, 10]⟩, ⟨#[13, 10]⟩, ⟨#[97, 46, 98, 13, 10]⟩]
theorem stf_ok : ∀ s ∈ stfL, s.size ≤ 6 ∧ fin 0 s.data.toList = 0 := by
  intro s hs
  simp only [stfL, List.mem_cons, List.not_mem_nil, or_false] at hs
  rcases hs with rfl | rfl | rfl | rfl | rfl | rfl <;> exact ⟨by decide, by decide⟩
/-- A text of lines, of at most so many bytes. -/
def Stf (n : Nat) (s : ByteArray) : Prop := s.size ≤ n ∧ fin 0 s.data.toList = 0
theorem stf_next {n : Nat} {a s : ByteArray} (h : Stf n a) (hs : s ∈ stfL) : Stf (n + 6) (a ++ s) := by
  obtain ⟨h1, h2⟩ := stf_ok s hs
  refine ⟨by rw [ByteArray.size_append]; have := h.1; omega, ?_⟩
  rw [cat_list, fin_app, h.2, h2]
theorem fin_lines : ∀ (l : List UInt8) (s : Nat), s ≠ 3 → fin s l = 0 → l ≠ [] → (∃ q, l = q ++ [13, 10]) ∨ (s = 2 ∧ l = [10])
  | [], s, _, h, h0 => absurd rfl h0
  | [c], s, h3, h, _ => by
    have h' : go s c = 0 := h
    unfold go at h'
    by_cases hc : c = 13
    · rw [if_pos hc] at h'; cases h'
    · rw [if_neg hc] at h'
      by_cases h2 : s = 2 ∧ c = 10
      · obtain ⟨rfl, rfl⟩ := h2
        exact .inr ⟨rfl, rfl⟩
      · rw [if_neg h2] at h'; cases h'
  | c :: d :: r, s, h3, h, _ => by
    rw [fin] at h
    rcases fin_lines (d :: r) (go s c) (go_lt s c) h (by simp) with ⟨q, hq⟩ | ⟨h2, he⟩
    · exact .inl ⟨c :: q, by rw [hq]; rfl⟩
    · have hc : c = 13 := by
        unfold go at h2
        by_cases hc : c = 13
        · exact hc
        · rw [if_neg hc] at h2
          split at h2 <;> cases h2
      exact .inl ⟨[], by rw [he, hc]; rfl⟩
theorem stf_ln {n : Nat} {s : ByteArray} (h : Stf n s) : lnB s.data.toList = true := by
  unfold lnB
  by_cases h0 : s.data.toList = []
  · rw [h0]; rfl
  · rcases fin_lines s.data.toList 0 (by decide) h.2 h0 with ⟨q, hq⟩ | ⟨h2, _⟩
    · rw [Bool.or_eq_true]
      exact .inr (List.isSuffixOf_iff_suffix.2 ⟨q, hq.symm⟩)
    · cases h2

set_option maxHeartbeats 1000000 in
set_option maxRecDepth 100000 in
theorem stuffing_any (w : World) (b : Nat) (a : Option Addr) (len cap : Nat) (at_ sd : Int) (hs : Src w b a len cap at_ sd) (hc : sr.Code w b a len) (h0 : 0 ≤ at_) (h1 : at_ ≤ 800000) (s0 : 0 ≤ sd) (s1 : sd < 2147483648) :
    Calls Tryd.prog 12 #[.pointer (some ⟨b, 0, none⟩)] w fun e w' => (∃ t, e = .returned (.string t) ∧ Stf 30 t) ∧ w.grownBy w' (some b) := by
  have HC : Hid (sr.Code w b a len) := hc
  clear hc
  go_enter Tryd.func12, Tryd.ntmps12
  go_wp2_with fail
  refine (next_any w b a len cap at_ sd 6 hs HC.out h0 (by omega) s0 s1 (by omega) (by omega)).mono ?_
  rintro e w1 ⟨x, at1, sd1, rfl, x0, x1, a0, a1, d0, d1, hs1, hg1⟩
  have hc1 := code_keep HC.out hg1
  have HG1 : Hid (w.grownBy w1 (some b)) := hg1
  clear hs hg1 HC
  obtain ⟨k0, rfl⟩ : ∃ k : Nat, x = (k : Int) := ⟨x.toNat, by omega⟩
  go_wp2_with fail
  go_loopw [3, 4] (fun q i wr => ∃ (k : Nat) (A : ByteArray) (at' sd' : Int), k ≤ 5 ∧ i = .int .i64 k ∧ q = .string A ∧ Stf (6 * (5 - k)) A ∧ 0 ≤ at' ∧ at' + 3 * k ≤ 810000 ∧ 0 ≤ sd' ∧ sd' < 2147483648 ∧ Src wr b a len cap at' sd' ∧ sr.Code wr b a len ∧ w.grownBy wr (some b)) (fun _ i _ => (intOf i).toNat)
  case atStart => exact ⟨k0, ⟨#[]⟩, at1, sd1, by omega, rfl, rfl, ⟨Nat.zero_le _, rfl⟩, by omega, by omega, d0, d1, hs1, hc1, HG1.out⟩
  case round =>
    obtain ⟨k, A, at', sd', hk, rfl, rfl, hst, t0, t1, e0, e1, hs2, hc2, hg2⟩ := hrel
    clear hs1 hc1 HG1
    have HST : Hid (Stf (6 * (5 - k)) A) := hst
    have hAz : A.size ≤ 30 := by have := hst.1; omega
    have HG2 : Hid (w.grownBy wr (some b)) := hg2
    clear hst hg2
    by_cases hk0 : 0 < k
    · have hk0' : (0 : Int) < (k : Int) := by omega
      have HL : Hid (Calls Tryd.prog 23 #[.pointer (some ⟨b, 0, none⟩), .slice (some ⟨wr.heap.size, 0, none⟩) 6 6] (wr.alloc (.cells (stfL.map Value.string).toArray 9)) fun e w' => Pk wr b a len cap at' stfL e w') := (show Calls _ _ _ _ _ from list_any stfL 6 wr b a len cap at' sd' hs2 hc2 t0 (by omega) e0 e1 rfl (by omega) (by omega))
      clear hs2 hc2
      go_wp2_with fail
      refine HL.out.mono ?_
      rintro e w3 ⟨t, at3, sd3, rfl, ht, a2, a3, d2, d3, hs3, hc3, hg3⟩
      have htz : t.size ≤ 6 := (stf_ok t ht).1
      have HP : Hid (Stf (6 * (5 - k) + 6) (A ++ t) ∧ Src w3 b a len cap at3 sd3 ∧ sr.Code w3 b a len ∧ w.grownBy w3 (some b)) := ⟨stf_next HST.out ht, hs3, hc3, ow.grown_trans HG2.out hg3⟩
      clear ht hs3 hc3 hg3 HL HST HG2
      go_wp2
      go_roundw
      case rel =>
        refine ⟨k - 1, A ++ t, at3, sd3, by omega, ?_, rfl, ?_, by omega, by omega, d2, d3, HP.out.2.1, HP.out.2.2.1, HP.out.2.2.2⟩
        · rw [show ((k - 1 : Nat) : Int) = (k : Int) - 1 by omega]
        · rw [show 6 * (5 - (k - 1)) = 6 * (5 - k) + 6 by omega]; exact HP.out.1
      case measure => simp [intOf]; omega
    · have hk0' : (k : Int) ≤ 0 := by omega
      have HST2 : Hid (Stf 30 A) := ⟨hAz, HST.out.2⟩
      clear hs2 hc2 HST
      go_wp2
      go_ret
      exact ⟨⟨A, rfl, HST2.out⟩, HG2.out⟩
set_option maxRecDepth 100000 in
theorem stuffingOf_any (w : World) (a : Option Addr) (len cap : Nat) (h : Bytes w a len) :
    Calls Tryd.prog 5 #[.slice a len cap] w fun e w' => (∃ t, e = .returned (.string t) ∧ Stf 30 t) ∧ Below w.heap.size w w' := by
  have hl : len ≤ 1048576 := h.1
  have hss := src_started w a len cap
  have hcs : sr.Code (started w a len cap) w.heap.size a len := code_started h
  have b0 : Below w.heap.size w (started w a len cap) := (Below.refl _ _).alloc (Nat.le_refl _) _
  have hz : w.heap.size < (started w a len cap).heap.size := by unfold started; simp
  have HT : Hid (Calls Tryd.prog 12 #[.pointer (some ⟨w.heap.size, 0, none⟩)] (started w a len cap) fun e w' => (∃ t, e = .returned (.string t) ∧ Stf 30 t) ∧ (started w a len cap).grownBy w' (some w.heap.size)) := stuffing_any _ _ _ _ _ _ _ hss hcs (by omega) (by omega) (Int.emod_nonneg _ (by omega)) (by have := Int.emod_lt_of_pos (len : Int) (show (0 : Int) < 1000 by omega); omega)
  clear h hss hcs
  go_enter Tryd.func5, Tryd.ntmps5
  go_wp2_with fail
  refine (source_any w a len cap hl).mono ?_
  rintro e w1 ⟨rfl, hw1⟩
  rw [← hw1] at HT b0 hz
  clear hw1
  go_wp2_with fail
  refine HT.out.mono ?_
  rintro e w2 ⟨⟨t, rfl, ht⟩, hg⟩
  have HB2 : Hid (Below w.heap.size w w2 ∧ Stf 30 t) := ⟨b0.grown hg (by omega) (fun k hk => by simp at hk; omega), ht⟩
  clear HT hg ht
  go_wp2
  go_ret
  exact ⟨⟨t, rfl, HB2.out.2⟩, HB2.out.1⟩
end Go.Proofs.YtcflfejdpjphjaaDoor.dt
