/-
  A set is read back from its text: plain facts.
-/
import Derived.Test.YtofpnabfecimhaaDoorNum
import Derived.Test.YtofpnabfecimhaaDoorStc
import Derived.Test.YtofpnabfecimhaaDoorSrs
namespace Go.Proofs.YtofpnabfecimhaaDoor.nu
open Go.RowKit
open rg sp bl
set_option linter.unusedVariables false

theorem cutS_jn (c : UInt8) : ∀ (V : List (List UInt8)), V ≠ [] → (∀ x ∈ V, ∀ b ∈ x, b ≠ c) → cutS c [] (jn c V) = V
  | [], h, _ => absurd rfl h
  | [x], _, h => by
    have : jn c [x] = x := by simp [jn, tails]
    rw [this, cutS_none c x [] (h x (by simp))]
    rfl
  | x :: y :: r, _, h => by
    have e : jn c (x :: y :: r) = x ++ c :: jn c (y :: r) := by simp [jn, tails]
    rw [e, cutS_at c x [] _ (h x (by simp)), cutS_jn c (y :: r) (by simp) (fun z hz => h z (by simp at hz ⊢; exact .inr hz))]
    rfl
theorem end_of {n : Int} (h : rg.End n) : EndIs (nm1 n) n := by
  unfold nm1
  split
  · rename_i e; exact .inl ⟨rfl, e⟩
  · rename_i e; exact .inr ⟨by have := h.1; omega, h.2, rfl⟩
theorem nm1_sign {n : Int} (h : rg.End n) : ∀ b ∈ nm1 n, b ≠ 58 ∧ b ≠ 44 := by
  intro b hb
  rcases end_of h with ⟨e, _⟩ | ⟨_, _, e⟩
  · rw [e] at hb
    simp at hb
    subst hb
    decide
  · rw [e] at hb
    have := (dec_facts n.toNat).1 b hb
    refine ⟨fun y => ?_, fun y => ?_⟩
    · subst y; exact absurd this (by decide)
    · subst y; exact absurd this (by decide)
theorem rg1_rt {p : Pr} (h0 : rg.End p.1) (h1 : rg.End p.2) : rg1 (rt p) = some p := by
  unfold rt
  split
  · rename_i e
    rw [rg1_one (fun b hb => (nm1_sign h0 b hb).1), one_some (end_of h0)]
    show some (p.1, p.1) = some p
    rw [show p = (p.1, p.2) from rfl, ← e]
  · rw [rg1_two (fun b hb => (nm1_sign h0 b hb).1), one_some (end_of h0), one_some (end_of h1)]
    rfl
theorem rt_sign {p : Pr} (h0 : rg.End p.1) (h1 : rg.End p.2) : ∀ b ∈ rt p, b ≠ 44 := by
  intro b hb
  unfold rt at hb
  split at hb
  · exact (nm1_sign h0 b hb).2
  · rcases List.mem_append.1 hb with hb | hb
    · exact (nm1_sign h0 b hb).2
    · rcases List.mem_cons.1 hb with rfl | hb
      · decide
      · exact (nm1_sign h1 b hb).2
theorem st_rt : ∀ (ps acc : List Pr), (∀ p ∈ ps, rg.End p.1 ∧ rg.End p.2) → acc.length + ps.length ≤ 50 → st (ps.map rt) acc = some (acc ++ ps)
  | [], acc, _, _ => by simp [st]
  | p :: r, acc, h, hl => by
    obtain ⟨e0, e1⟩ := h p (by simp)
    rw [List.length_cons] at hl
    rw [List.map_cons, st_good (rg1_rt e0 e1) (by omega), st_rt r _ (fun q hq => h q (by simp [hq])) (by rw [List.length_append, List.length_singleton]; omega)]
    simp
theorem set_mem {ps : List Pr} (h : SetIs ps) : ∀ p ∈ ps, rg.End p.1 ∧ rg.End p.2 := by
  intro p hp
  obtain ⟨j, hj, e⟩ := List.getElem_of_mem hp
  have := h.2.2 j hj
  rw [show ps.getD j no = p from by rw [← e]; simp [List.getD_eq_getElem?_getD, hj]] at this
  exact this
/-- A set is read back from its text. -/
theorem set_back {ps : List Pr} (h : SetIs ps) (T : ByteArray) (hT : T.data.toList = txl ps ps.length) : RL T = ps ∧ RC T = 0 ∧ T.size ≤ 65536 := by
  have hm := set_mem h
  have ht : ps.take ps.length = ps := List.take_of_length_le (Nat.le_refl _)
  have hst : st (cutS 44 [] T.data.toList) [] = some ps := by
    rw [hT]
    unfold txl
    rw [ht, cutS_jn 44 _ (by have := h.1; intro y; have := congrArg List.length y; rw [List.length_map, List.length_nil] at this; omega) (fun x hx => by
      obtain ⟨p, hp, rfl⟩ := List.mem_map.1 hx
      exact rt_sign (hm p hp).1 (hm p hp).2), st_rt ps [] hm (by have := h.2.1; simpa using this)]
    rfl
  have hs : T.size ≤ 65536 := by
    rw [Lib.size_eq, hT]
    have := txl_len ps ps.length (Nat.le_refl _) h.2.2
    have := h.2.1
    omega
  refine ⟨?_, ?_, hs⟩
  · unfold RL; rw [if_neg (by omega), hst]; rfl
  · unfold RC; rw [if_neg (by omega), if_neg (by rw [hst]; simp)]
/-- The ranges of the nine texts. -/
def nineL : List (ByteArray × List Pr) := [(⟨#[49]⟩, [(1, 1)]), (⟨#[49, 58, 51]⟩, [(1, 3)]), (⟨#[42]⟩, [(0, 0)]), (⟨#[50, 58, 42]⟩, [(2, 0)]), (⟨#[49, 44, 51, 44, 53, 58, 52]⟩, [(1, 1), (3, 3), (5, 4)]), (⟨#[42, 58, 49]⟩, [(0, 1)]), (⟨#[52, 50, 57, 52, 57, 54, 55, 50, 57, 53]⟩, [(4294967295, 4294967295)]), (⟨#[49, 58, 50, 44, 52]⟩, [(1, 2), (4, 4)]), (⟨#[55]⟩, [(7, 7)])]
theorem nm_dig : nm1 0 = [42] ∧ nm1 1 = [49] ∧ nm1 2 = [50] ∧ nm1 3 = [51] ∧ nm1 4 = [52] ∧ nm1 5 = [53] ∧ nm1 7 = [55] := by
  refine ⟨rfl, ?_, ?_, ?_, ?_, ?_, ?_⟩ <;> (unfold nm1; rw [if_neg (by decide)]; exact Lib.decDigits_one (by decide))
theorem nm_great : nm1 4294967295 = [52, 50, 57, 52, 57, 54, 55, 50, 57, 53] := by
  have h := dec_of_val [52, 50, 57, 52, 57, 54, 55, 50, 57, 53] (by simp) (by decide) (.inr (fun b r e => by cases e; decide))
  have e : val 0 [52, 50, 57, 52, 57, 54, 55, 50, 57, 53] = 4294967295 := by decide
  rw [e] at h
  unfold nm1
  rw [if_neg (by decide)]
  exact h
theorem nine_at : ∀ q ∈ nineL, SetIs q.2 ∧ q.1.data.toList = txl q.2 q.2.length := by
  obtain ⟨n0, n1, n2, n3, n4, n5, n7⟩ := nm_dig
  have n9 := nm_great
  intro q hq
  simp only [nineL, List.mem_cons, List.not_mem_nil, or_false] at hq
  rcases hq with rfl | rfl | rfl | rfl | rfl | rfl | rfl | rfl | rfl <;> refine ⟨⟨by simp, by simp, ?_⟩, ?_⟩
  all_goals first
    | (intro j hj; simp only [List.length_cons, List.length_nil] at hj; (match j, hj with | 0, _ => decide | 1, _ => decide | 2, _ => decide | n + 3, h => omega))
    | (simp [txl, jn, tails, rt, n0, n1, n2, n3, n4, n5, n7, n9])
theorem nine_of {T : ByteArray} (h : T ∈ se.setL) : ∃ ps, SetIs ps ∧ T.data.toList = txl ps ps.length := by
  have e : se.setL = nineL.map (·.1) := rfl
  rw [e] at h
  obtain ⟨q, hq, rfl⟩ := List.mem_map.1 h
  exact ⟨q.2, nine_at q hq⟩
end Go.Proofs.YtofpnabfecimhaaDoor.nu
