/-
  Flags read from a text: the specification's way.
-/
import Derived.Test.YtejmfffapkmjoaaDoorFga
namespace Go.Proofs.YtejmfffapkmjoaaDoor.fg
open Go.RowKit
open lo sl sp gr
set_option linter.unusedVariables false

/-- Names read one behind the other. -/
def go : List (List UInt8) → Int → Int × Int
  | [], o => (o, 0)
  | x :: r, o => if flg ⟨x.toArray⟩ 5 = 0 then (0, 16) else go r (bits .or .i64 o (flg ⟨x.toArray⟩ 5))
theorem go_step {V : List (List UInt8)} {i : Nat} {o : Int} {R : Int × Int} (h : go (V.drop i) o = R) (hi : i < V.length) (hf : flg ⟨(V.getD i []).toArray⟩ 5 ≠ 0) : go (V.drop (i + 1)) (bits .or .i64 o (flg ⟨(V.getD i []).toArray⟩ 5)) = R := by
  have e : V.getD i [] = V[i] := by simp [List.getD_eq_getElem?_getD, hi]
  rw [e] at hf ⊢
  rw [List.drop_eq_getElem_cons hi, go, if_neg hf] at h
  exact h
theorem go_bad {V : List (List UInt8)} {i : Nat} {o : Int} {R : Int × Int} (h : go (V.drop i) o = R) (hi : i < V.length) (hf : flg ⟨(V.getD i []).toArray⟩ 5 = 0) : R = (0, 16) := by
  have e : V.getD i [] = V[i] := by simp [List.getD_eq_getElem?_getD, hi]
  rw [e] at hf
  rw [List.drop_eq_getElem_cons hi, go, if_pos hf] at h
  exact h.symm
theorem go_end {V : List (List UInt8)} {i : Nat} {o : Int} {R : Int × Int} (h : go (V.drop i) o = R) (hi : V.length ≤ i) : R = (o, 0) := by
  rw [List.drop_eq_nil_of_le hi, go] at h
  exact h.symm
/-- What the names looked at so far have made of the flags. -/
def mix (l : ByteArray) (k : Nat) (o : Int) : Int := if flg l k = 0 then o else bits .or .i64 o (flg l k)
theorem mix_hit {l : ByteArray} {k : Nat} (o : Int) (hk : k < 5) (h : sameB l (fn k) = true) : mix l k o = o ∧ mix l (k + 1) o = bits .or .i64 o (pw k) ∧ decide (flg l (k + 1) ≠ 0) = true := by
  have h0 := flg_before hk h k (Nat.le_refl _)
  have h1 := flg_one hk h (k + 1) (by omega) (by omega)
  refine ⟨by unfold mix; rw [if_pos h0], ?_, by rw [h1]; exact decide_eq_true (pw_pos k hk)⟩
  unfold mix
  rw [h1, if_neg (pw_pos k hk)]
theorem mix_miss {l : ByteArray} {k : Nat} (o : Int) (h : sameB l (fn k) = false) : mix l (k + 1) o = mix l k o ∧ decide (flg l (k + 1) ≠ 0) = decide (flg l k ≠ 0) := by
  have e : flg l (k + 1) = flg l k := by rw [flg, if_neg (by rw [h]; simp)]
  unfold mix
  rw [e]
  exact ⟨rfl, rfl⟩

theorem names_any (w : World) : Calls Tryd.prog 30 #[] w fun e w' => ∃ v, e = .returned v ∧ WordsAt tb.fls v w' ∧ Below w.heap.size w w' := by
  go_enter Tryd.func30, Tryd.ntmps30
  go_wp2
  go_ret
  refine ⟨_, rfl, ⟨w.heap.size, 5, rfl, by simp, fun j hj => ?_⟩, (Below.refl _ _).alloc (Nat.le_refl _) _⟩
  rw [cell_of_row _ _ _ _ _ _ (MapKept.heap_alloc w _).1]
  have hj' : j < 5 := hj
  have hc : j = 0 ∨ j = 1 ∨ j = 2 ∨ j = 3 ∨ j = 4 := by omega
  rcases hc with rfl | rfl | rfl | rfl | rfl <;> rfl

/-- What stands between brackets. -/
def Shape (l : List UInt8) : Prop := (∃ q, l = 40 :: (q ++ [41])) ∨ l = [] ∨ (∃ b r, l = b :: r ∧ b ≠ 40) ∨ l = [40] ∨ ∃ q x, l = 40 :: (q ++ [x]) ∧ x ≠ 41
theorem shape (l : List UInt8) : Shape l := by
  cases l with
  | nil => exact .inr (.inl rfl)
  | cons b r =>
    by_cases hb : b = 40
    · subst hb
      rcases List.eq_nil_or_concat r with rfl | ⟨q, x, rfl⟩
      · exact .inr (.inr (.inr (.inl rfl)))
      · by_cases hx : x = 41
        · subst hx; exact .inl ⟨q, by simp⟩
        · exact .inr (.inr (.inr (.inr ⟨q, x, by simp, hx⟩)))
    · exact .inr (.inr (.inl ⟨b, r, rfl, hb⟩))
def rf (l : List UInt8) : Int × Int := match l with
  | 40 :: r => if r.getLast? = some 41 then (if r.dropLast = [] then (0, 0) else go (cutS 32 [] r.dropLast) 0) else (0, 3)
  | _ => (0, 3)
theorem rf_good (q : List UInt8) : rf (40 :: (q ++ [41])) = if q = [] then (0, 0) else go (cutS 32 [] q) 0 := by
  simp [rf]
theorem rf_nil : rf [] = (0, 3) := rfl
theorem rf_open (b : UInt8) (r : List UInt8) (h : b ≠ 40) : rf (b :: r) = (0, 3) := by
  unfold rf
  split
  · rename_i r' e; cases e; exact absurd rfl h
  · rfl
theorem rf_one : rf [40] = (0, 3) := rfl
theorem rf_shut (q : List UInt8) (x : UInt8) (h : x ≠ 41) : rf (40 :: (q ++ [x])) = (0, 3) := by
  simp [rf, h]
theorem at_first (s : ByteArray) (b : UInt8) (r : List UInt8) (h : s.data.toList = b :: r) (wx : World) : (Instr.index 9 (.string s) (.int .i64 0)).run Tryd.prog wx = .ok (.int .u8 (b.toNat : Int)) wx := by
  have hs : s.size = r.length + 1 := by rw [Lib.size_eq, h]; rfl
  rw [run_index_string wx 9 s .i64 0 Tryd.underlying9, dif_pos ⟨by omega, by omega⟩]
  have : s[(0 : Int).toNat]'(by show (0 : Nat) < s.size; omega) = b := by
    show s.data.toList[0]'(by rw [h]; simp) = b
    simp [h]
  rw [this]
theorem at_last (s : ByteArray) (x : UInt8) (r : List UInt8) (h : s.data.toList = r ++ [x]) (wx : World) : (Instr.index 9 (.string s) (.int .i64 ((s.size : Int) - 1))).run Tryd.prog wx = .ok (.int .u8 (x.toNat : Int)) wx := by
  have hs : s.size = r.length + 1 := by rw [Lib.size_eq, h]; simp
  rw [run_index_string wx 9 s .i64 _ Tryd.underlying9, dif_pos ⟨by omega, by omega⟩]
  have e : ((s.size : Int) - 1).toNat = r.length := by omega
  have : s[((s.size : Int) - 1).toNat]'(by omega) = x := by
    show s.data.toList[((s.size : Int) - 1).toNat]'(by rw [h, e]; simp) = x
    simp [h, e]
  rw [this]
theorem mid_text (s : ByteArray) (b x : UInt8) (q : List UInt8) (h : s.data.toList = b :: (q ++ [x])) : s.extract 1 (s.size - 1) = ⟨q.toArray⟩ := by
  have hs : s.size = q.length + 2 := by rw [Lib.size_eq, h]; simp
  apply ByteArray.ext
  rw [← Array.toList_inj, ← Lib.toList_data (s.extract 1 (s.size - 1)), Lib.extract_toList, h, hs]
  simp

end Go.Proofs.YtejmfffapkmjoaaDoor.fg
