/-
  Plain facts on repairing: what is read are runes, what is repaired is right, and what is right stays.
-/
import Derived.Test.YthndloempbcflaaFlt
namespace Go.Proofs.Ythndloempbcflaa.ut
open Go.RowKit
set_option linter.unusedVariables false

theorem F_sc (n k b0 b1 b2 b3 : Nat) : scB (((decF n k b0 b1 b2 b3).1 : Nat) : Int) = true := by
  have hs : ∀ c : Nat, Utf8.valid (c : Int) = true → scB (c : Int) = true := by
    intro c h
    rw [valid_nat] at h
    simp [scB, inB]
    omega
  unfold decF
  split
  · simp [scB, inB]; omega
  split
  · split
    · simp only; simp [scB, inB]; omega
    · rfl
  split
  · split
    · rename_i g; simp only [Bool.and_eq_true] at g; exact hs _ g.2
    · rfl
  split
  · split
    · rename_i g; simp only [Bool.and_eq_true] at g; exact hs _ g.2
    · rfl
  · rfl
theorem runesL_sc (s : ByteArray) (n : Nat) : Runes (runesL s n) := by
  induction n with
  | zero => intro r hr; cases hr
  | succ n ih =>
    intro r hr
    rw [runesL] at hr
    rcases List.mem_append.1 hr with h | h
    · exact ih r h
    · rw [List.mem_singleton.1 h, dec_eq]
      exact F_sc _ _ _ _ _ _
theorem fix_flat (s : ByteArray) (n : Nat) (h : pos s n = s.size) : fixL s n = (runesL s n).flatMap encB := by
  have h1 := runes_fix s n (fun m hm => by rw [← h]; exact pos_lt s hm)
  have h2 := flat_runes (runesL s n)
  rw [h2] at h1
  exact h1.symm
theorem fix_right (s : ByteArray) (hr : Right s) (n : Nat) (h : pos s n ≤ s.size) : fixL s n = s.data.toList.take (pos s n) := by
  induction n with
  | zero => simp [fixL, pos]
  | succ n ih =>
    have hup := pos_up s n
    have hlt : pos s n < s.size := by omega
    rw [fixL, ih (by omega), piece_good (hr n hlt), Lib.extract_data, show pos s n + (Utf8.decode s (pos s n)).2 - pos s n = (Utf8.decode s (pos s n)).2 from by omega]
    rw [show pos s (n + 1) = pos s n + (Utf8.decode s (pos s n)).2 from rfl, List.take_add]
/-- What is known of the repaired text x of s. -/
def FixFacts (s x : ByteArray) : Prop := Right x ∧ (Right s ↔ x = s) ∧ x.size ≤ 3 * s.size ∧ ∀ m, pos x m = x.size → (mk (fixL x m)) = x
theorem fix_facts (s : ByteArray) (n : Nat) (h : pos s n = s.size) : FixFacts s (mk (fixL s n)) := by
  have hf := fix_flat s n h
  have hr : Right (mk (fixL s n)) := by rw [hf]; exact right_flat _ (runesL_sc s n)
  have hall : ∀ (x : ByteArray), Right x → ∀ m, pos x m = x.size → mk (fixL x m) = x := by
    intro x hx m hm
    refine bytes_ext ?_
    rw [mk_list, fix_right x hx m (by omega), hm, Lib.size_eq, List.take_length]
  refine ⟨hr, ⟨fun hs => hall s hs n h, fun e => by rw [← e]; exact hr⟩, ?_, hall _ hr⟩
  rw [mk_size]
  have := fix_len s n
  omega
theorem sum_rsz {r : Int} (h : scB r = true) : rsz r = ((encB r).length : Int) := by
  obtain ⟨c, rfl⟩ : ∃ c : Nat, r = (c : Int) := ⟨r.toNat, by simp [scB, inB] at h; omega⟩
  unfold rsz
  rw [if_pos h]
  rcases enc_list h (by simp [scB, inB] at h; omega) with ⟨_, e⟩ | ⟨_, _, e⟩ | ⟨_, _, e⟩ | ⟨_, e⟩ <;> rw [e] <;> (repeat' split) <;> simp <;> omega
end Go.Proofs.Ythndloempbcflaa.ut
