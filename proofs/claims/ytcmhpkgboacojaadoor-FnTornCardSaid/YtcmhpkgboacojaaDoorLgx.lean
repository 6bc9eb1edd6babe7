/-
  What the operations bring by which a law lets a log crash.
-/
import Derived.Test.YtcmhpkgboacojaaDoorLgw
import Derived.Test.YtcmhpkgboacojaaDoorRrl
import Derived.Test.YtcmhpkgboacojaaDoorLge
namespace Go.Proofs.YtcmhpkgboacojaaDoor.lg
open Go.RowKit
open rr
set_option linter.unusedVariables false

/-- What stands behind each of the operations: D the log's data, S the sure ones, mo the bytes for small numbers, Wb the first new block. -/
def RT (D : ByteArray) (S : Nat) (mo : Value) (Wb : Nat) : Nat → (Nat → Value) → World → Prop
  | 0, f, _ => f 0 = .agg #[.int .i64 2000, .string D, .int .i64 S]
  | 1, f, _ => f 1 = mo
  | 2, f, _ => ∃ z : Int, f 2 = .int .i64 z ∧ 0 ≤ z ∧ z < 90
  | 3, f, _ => ∃ K : Nat, S ≤ K ∧ K ≤ D.size ∧ f 3 = .tuple #[.agg #[.int .i64 2000, .string (D.extract 0 K), .int .i64 K], .int .i64 0]
  | 4, f, _ => ∃ K : Nat, S ≤ K ∧ K ≤ D.size ∧ f 4 = .tuple #[.agg #[.int .i64 2000, .string (D.extract 0 K), .int .i64 K], .int .i64 0]
  | 5, f, _ => ∃ K : Nat, S ≤ K ∧ K ≤ D.size ∧ f 5 = .agg #[.int .i64 2000, .string (D.extract 0 K), .int .i64 K]
  | 6, f, _ => f 6 = .int .i64 0
  | 7, f, w => ∃ g : Nat, Wb ≤ g ∧ f 7 = .pointer (some ⟨g, 0, none⟩) ∧ ∃ a b c, B3 w g 28 a b c
  | 8, f, w => ∃ (g K : Nat), Wb ≤ g ∧ S ≤ K ∧ K ≤ D.size ∧ f 7 = .pointer (some ⟨g, 0, none⟩) ∧ B3 w g 28 (.int .i64 2000) (.string (D.extract 0 K)) (.int .i64 K)
  | 9, f, _ => f 9 = .int .i64 0
  | _, _, _ => True
theorem rt_keep {D : ByteArray} {S : Nat} {mo : Value} {Wb j : Nat} {f : Nat → Value} {w w' : World} (h : RT D S mo Wb j f w) (hb : Below w.heap.size w w') : RT D S mo Wb j f w' := by
  match j, h with
  | 0, h => exact h
  | 1, h => exact h
  | 2, h => exact h
  | 3, h => exact h
  | 4, h => exact h
  | 5, h => exact h
  | 6, h => exact h
  | 7, h =>
    obtain ⟨g, h1, h2, a, b, c, h3⟩ := h
    exact ⟨g, h1, h2, a, b, c, h3.keep hb⟩
  | 8, h =>
    obtain ⟨g, K, h1, h2, h3, h4, h5⟩ := h
    exact ⟨g, K, h1, h2, h3, h4, h5.keep hb⟩
  | 9, h => exact h
  | j + 10, h => trivial
theorem rt_upd {D : ByteArray} {S : Nat} {mo : Value} {Wb j i : Nat} {f : Nat → Value} {w : World} {v : Value} (hj : j ≠ i) (h78 : ¬ (j = 8 ∧ i = 7)) (h : RT D S mo Wb j f w) : RT D S mo Wb j (upd f i v) w := by
  match j, hj, h78, h with
  | 0, hj, _, h => exact (upd_other f i v hj).trans h
  | 1, hj, _, h => exact (upd_other f i v hj).trans h
  | 2, hj, _, h => obtain ⟨z, h1, h2⟩ := h; exact ⟨z, (upd_other f i v hj).trans h1, h2⟩
  | 3, hj, _, h => obtain ⟨K, h1, h2, h3⟩ := h; exact ⟨K, h1, h2, (upd_other f i v hj).trans h3⟩
  | 4, hj, _, h => obtain ⟨K, h1, h2, h3⟩ := h; exact ⟨K, h1, h2, (upd_other f i v hj).trans h3⟩
  | 5, hj, _, h => obtain ⟨K, h1, h2, h3⟩ := h; exact ⟨K, h1, h2, (upd_other f i v hj).trans h3⟩
  | 6, hj, _, h => exact (upd_other f i v hj).trans h
  | 7, hj, _, h => obtain ⟨g, h1, h2, h3⟩ := h; exact ⟨g, h1, (upd_other f i v hj).trans h2, h3⟩
  | 8, hj, h78, h => obtain ⟨g, K, h1, h2, h3, h4, h5⟩ := h; exact ⟨g, K, h1, h2, h3, (upd_other f i v (show 7 ≠ i from fun e => h78 ⟨rfl, e.symm⟩)).trans h4, h5⟩
  | 9, hj, _, h => exact (upd_other f i v hj).trans h
  | j + 10, _, _, h => trivial
theorem rt_put {D : ByteArray} {S : Nat} {mo : Value} {Wb j g : Nat} {f : Nat → Value} {w : World} {x a b c : Value} (hj : j ≠ 8) (h7 : f 7 = .pointer (some ⟨g, 0, none⟩)) (hp : B3 (put w g a b c) g 28 a b c) (h : RT D S mo Wb j f w) : RT D S mo Wb j (upd f 8 x) (put w g a b c) := by
  have h' := rt_upd (v := x) hj (by omega) h
  match j, hj, h, h' with
  | 0, _, _, h' => exact h'
  | 1, _, _, h' => exact h'
  | 2, _, _, h' => exact h'
  | 3, _, _, h' => exact h'
  | 4, _, _, h' => exact h'
  | 5, _, _, h' => exact h'
  | 6, _, _, h' => exact h'
  | 7, hj, h, _ =>
    obtain ⟨g', h1, h2, _⟩ := h
    rw [h7] at h2
    cases h2
    exact ⟨g, h1, (upd_other f 8 x hj).trans h7, a, b, c, hp⟩
  | 8, hj, _, _ => exact absurd rfl hj
  | 9, _, _, h' => exact h'
  | j + 10, _, _, _ => trivial
theorem own_slice {w : World} {base : Nat} {v : Value} {ks : List ByteArray} (h : ky.OwnT w base v ks) : ∃ ao c, v = .slice ao ks.length c := by
  rcases h.2 with ⟨e, h0⟩ | ⟨g, cap, cur, e, _⟩
  · exact ⟨none, 0, by rw [e, h0]⟩
  · exact ⟨_, _, e⟩
theorem take_texts {w : World} {ao : Option Addr} {c n : Nat} {ks : List ByteArray} (h : ky.TextsAt w (.slice ao ks.length c) ks) (hn : n ≤ ks.length) (c' : Nat) : ky.TextsAt w (.slice ao n c') (ks.take n) := by
  obtain ⟨a, cap, e, h⟩ := h
  cases e
  have hl : (ks.take n).length = n := by rw [List.length_take]; omega
  refine ⟨ao, c', by rw [hl], ?_⟩
  rcases h with h | ⟨b, off, e, h⟩
  · left
    rw [h, List.take_nil]
  · refine .inr ⟨b, off, e, fun j hj => ?_⟩
    rw [hl] at hj
    rw [h j (by omega)]
    simp [List.getD_eq_getElem?_getD, hj]
/-- A torn log, repaired. -/
theorem repair_torn {l : List ByteArray} (h : Rights l) {K : Nat} (hK : K ≤ (catR l).size) (h2 : (catR l).size ≤ 2000) :
    repair 2000 ((catR l).extract 0 K) K = RV 2000 (catR (l.take (fits l K))) (catR (l.take (fits l K))).size 0 := by
  have hes : ((catR l).extract 0 K).size = K := by rw [size_ex (by omega) hK]; omega
  obtain ⟨c, hc, hr⟩ := recs_torn h hK
  have hf := fits_size l K
  unfold repair
  rw [if_pos (show ok 2000 ((catR l).extract 0 K).size K = true from decide_eq_true ⟨by omega, by omega, by omega, by omega, by omega⟩)]
  unfold rep1
  rw [hr, if_neg (by simp only; rcases hc with rfl | rfl <;> omega)]
  simp only
  rw [ByteArray.extract_extract, Nat.zero_add, Nat.zero_add, Nat.min_eq_left hf, cat_pre]
theorem recR_take {l : List ByteArray} (h : Rights l) (n : Nat) (h2 : (catR l).size ≤ 2000) : recR 2000 (catR (l.take n)) (catR (l.take n)).size = (l.take n, (catR (l.take n)).size, 0) := by
  have hs := take_size l n
  unfold recR
  rw [if_pos (show ok 2000 (catR (l.take n)).size (catR (l.take n)).size = true from decide_eq_true ⟨by omega, by omega, by omega, by omega, by omega⟩)]
  exact recs_whole fun x hx => h x (List.mem_of_mem_take hx)
end Go.Proofs.YtcmhpkgboacojaaDoor.lg
