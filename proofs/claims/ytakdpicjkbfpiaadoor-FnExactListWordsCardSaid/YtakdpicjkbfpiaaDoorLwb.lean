/-
  The words of a list: the model, and the specification's reading.
-/
import Derived.Test.YtakdpicjkbfpiaaDoorLwa
import Derived.Test.YtakdpicjkbfpiaaDoorSpl
import Derived.Test.YtakdpicjkbfpiaaDoorKya
import Derived.Laws.AppendOwn
namespace Go.Proofs.YtakdpicjkbfpiaaDoor.lw
open Go.RowKit
open sp
set_option linter.unusedVariables false

theorem at_and (c : UInt8) : atB c = (decide ((33 : Int) ≤ (c.toNat : Int) ∧ (c.toNat : Int) ≤ 126) && (c != 40 && (c != 41 && (c != 123 && c != 34)))) := by
  unfold atB
  rw [← Bool.and_assoc]
  congr 1
  rw [Bool.eq_iff_iff]
  simp only [Bool.and_eq_true, decide_eq_true_eq]
  omega
theorem ne_int (c k : UInt8) : ((c.toNat : Int) != (k.toNat : Int)) = (c != k) := by
  rw [Bool.eq_iff_iff]
  simp only [bne_iff_ne, ne_eq]
  constructor
  · intro h e
    exact h (by rw [e])
  · intro h e
    exact h (UInt8.toNat_inj.1 (by omega))
set_option maxHeartbeats 1000000 in
theorem in_any (n a b : Int) (w : World) : Calls Tryd.prog 44 #[.int .i64 n, .int .i64 a, .int .i64 b] w fun e w' => e = .returned (.bool (decide (a ≤ n ∧ n ≤ b))) ∧ w' = w := by
  by_cases h1 : a ≤ n
  · have h1' : decide (a ≤ n) = true := decide_eq_true h1
    by_cases h2 : n ≤ b
    · have h2' : decide (n ≤ b) = true := decide_eq_true h2
      rw [show decide (a ≤ n ∧ n ≤ b) = true from decide_eq_true ⟨h1, h2⟩]
      clear h1 h2
      go_enter Tryd.func44, Tryd.ntmps44
      go_wp2
      go_ret
      exact ⟨rfl, rfl⟩
    · have h2' : decide (n ≤ b) = false := decide_eq_false h2
      rw [show decide (a ≤ n ∧ n ≤ b) = false from decide_eq_false (fun h => h2 h.2)]
      clear h1 h2
      go_enter Tryd.func44, Tryd.ntmps44
      go_wp2
      go_ret
      exact ⟨rfl, rfl⟩
  · have h1' : decide (a ≤ n) = false := decide_eq_false h1
    rw [show decide (a ≤ n ∧ n ≤ b) = false from decide_eq_false (fun h => h1 h.1)]
    clear h1
    go_enter Tryd.func44, Tryd.ntmps44
    go_wp2
    go_ret
    exact ⟨rfl, rfl⟩
set_option maxHeartbeats 2000000 in
set_option maxRecDepth 100000 in
theorem atom_any (c : UInt8) (w : World) : Calls Tryd.prog 32 #[.int .u8 (c.toNat : Int)] w fun e w' => e = .returned (.bool (atB c)) ∧ w' = w := by
  have hc : c.toNat ≤ 255 := by have := c.toNat_lt; omega
  have HI : Hid (∀ W, Calls Tryd.prog 44 #[.int .i64 (c.toNat : Int), .int .i64 33, .int .i64 126] W fun e w' => e = .returned (.bool (decide ((33 : Int) ≤ (c.toNat : Int) ∧ (c.toNat : Int) ≤ 126))) ∧ w' = W) := fun W => in_any _ _ _ W
  have HE := at_and c
  have e1 : ((c.toNat : Int) != 40) = (c != 40) := ne_int c 40
  have e2 : ((c.toNat : Int) != 41) = (c != 41) := ne_int c 41
  have e3 : ((c.toNat : Int) != 123) = (c != 123) := ne_int c 123
  have e4 : ((c.toNat : Int) != 34) = (c != 34) := ne_int c 34
  have HE : Hid (atB c = (decide ((33 : Int) ≤ (c.toNat : Int) ∧ (c.toNat : Int) ≤ 126) && (c != 40 && (c != 41 && (c != 123 && c != 34))))) := HE
  generalize decide ((33 : Int) ≤ (c.toNat : Int) ∧ (c.toNat : Int) ≤ 126) = B0 at HI HE
  generalize (c != 40) = B1 at e1 HE
  generalize (c != 41) = B2 at e2 HE
  generalize (c != 123) = B3 at e3 HE
  generalize (c != 34) = B4 at e4 HE
  go_enter Tryd.func32, Tryd.ntmps32
  go_wp2_with fail
  refine (HI.out _).mono ?_
  rintro e w1 ⟨rfl, h1⟩
  have h1 := h1.symm
  subst h1
  clear HI
  cases B0
  · go_wp2
    go_ret
    exact ⟨by rw [HE.out]; rfl, rfl⟩
  cases B1
  · go_wp2
    go_ret
    exact ⟨by rw [HE.out]; rfl, rfl⟩
  cases B2
  · go_wp2
    go_ret
    exact ⟨by rw [HE.out]; rfl, rfl⟩
  cases B3
  · go_wp2
    go_ret
    exact ⟨by rw [HE.out]; rfl, rfl⟩
  go_wp2
  go_ret
  exact ⟨by rw [HE.out]; rfl, rfl⟩
/-- The words of what stands between the brackets. -/
def gw (q : List UInt8) : Bool := (cutS 32 [] q).all wordB && decide ((cutS 32 [] q).length ≤ 30)
def lwR (l : List UInt8) : List (List UInt8) × Int := match l with
  | [] => ([], 3)
  | b :: r => if b = 40 ∧ r.getLast? = some 41 then (if gw r.dropLast then (cutS 32 [] r.dropLast, 0) else ([], 3)) else ([], 3)
theorem lw_good (q : List UInt8) : lwR (40 :: (q ++ [41])) = if gw q then (cutS 32 [] q, 0) else ([], 3) := by
  simp [lwR]
theorem lw_bad {l : List UInt8} (h : ¬ ∃ q, l = 40 :: (q ++ [41])) : lwR l = ([], 3) := by
  cases l with
  | nil => rfl
  | cons b r =>
    unfold lwR
    refine if_neg (fun hb => h ?_)
    obtain ⟨rfl, hl⟩ := hb
    rcases List.eq_nil_or_concat r with rfl | ⟨q, x, rfl⟩
    · simp at hl
    · have hx : x = 41 := by simpa using hl
      exact ⟨q, by rw [hx]; simp⟩
/-- What the words are from one on: those that have come, and the others. -/
def goW : List (List UInt8) → List (List UInt8) → List (List UInt8) × Int
  | acc, [] => (acc, 0)
  | acc, x :: xs => if wordB x && decide (acc.length ≠ 30) then goW (acc ++ [x]) xs else ([], 3)
theorem goW_is : ∀ (xs acc : List (List UInt8)), acc.length ≤ 30 → goW acc xs = if xs.all wordB && decide (acc.length + xs.length ≤ 30) then (acc ++ xs, 0) else ([], 3)
  | [], acc, h => by simp [goW, h]
  | x :: xs, acc, h => by
    rw [goW]
    by_cases hx : wordB x = true
    · by_cases h30 : acc.length = 30
      · rw [if_neg (by simp [h30]), if_neg (by simp; omega)]
      · rw [if_pos (by simp [hx, h30]), goW_is xs (acc ++ [x]) (by simp; omega)]
        simp only [List.all_cons, hx, Bool.true_and, List.length_append, List.length_cons, List.length_nil, List.append_assoc, List.cons_append, List.nil_append]
        rw [show acc.length + (0 + 1) + xs.length = acc.length + (xs.length + 1) from by omega]
    · rw [if_neg (by simp [hx]), if_neg (by simp [hx])]
theorem lw_go (q : List UInt8) : lwR (40 :: (q ++ [41])) = goW [] (cutS 32 [] q) := by
  rw [lw_good, goW_is _ _ (Nat.zero_le _)]
  unfold gw
  simp
end Go.Proofs.YtakdpicjkbfpiaaDoor.lw
