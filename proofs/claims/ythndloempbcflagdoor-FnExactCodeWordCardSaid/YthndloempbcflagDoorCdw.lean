/-
  Contracts of the functions on codes and their words, in every world that holds the table.
-/
import Derived.Test.YthndloempbcflagDoorCdp
namespace Go.Proofs.YthndloempbcflagDoor.cd
open Go.RowKit
set_option linter.unusedVariables false

/-- The word of a number, the empty text of one that is no code. -/
def word (c : Int) : ByteArray := if 0 ≤ c ∧ c < 20 then wd c.toNat else ⟨#[]⟩
theorem word_in (k : Nat) (h : k < 20) : word (k : Int) = wd k := by unfold word; rw [if_pos (by omega)]; rfl
theorem word_out {c : Int} (h : c < 0 ∨ 20 ≤ c) : word c = ⟨#[]⟩ := by unfold word; rw [if_neg (by omega)]

set_option maxHeartbeats 1000000 in
theorem implWord_any (c : Int) (w : World) (h : Tab w) :
    Calls Tryd.prog 6 #[.int .i64 c] w fun e w' => e = .returned (.string (word c)) ∧ w' = w := by
  by_cases h0 : c < 0
  · rw [word_out (.inl h0)]
    clear h
    go_enter Tryd.func6, Tryd.ntmps6
    go_wp2
    go_ret
    exact ⟨rfl, rfl⟩
  by_cases h20 : 20 ≤ c
  · rw [word_out (.inr h20)]
    clear h
    have h20' : decide (20 ≤ c) = true := decide_eq_true h20
    go_enter Tryd.func6, Tryd.ntmps6
    go_wp2
    go_ret
    exact ⟨rfl, rfl⟩
  obtain ⟨k, rfl⟩ : ∃ k : Nat, c = (k : Int) := ⟨c.toNat, by omega⟩
  have hk : k < 20 := by omega
  have hc := tab_cell h k hk
  rw [word_in k hk]
  clear h
  obtain ⟨x, hx⟩ : ∃ x, x = wd k := ⟨_, rfl⟩
  rw [← hx] at hc ⊢
  clear hx
  have h20' : (k : Int) < 20 := by omega
  have h20d : decide (20 ≤ (k : Int)) = false := decide_eq_false (by omega)
  clear h20
  go_enter Tryd.func6, Tryd.ntmps6
  go_wp2
  go_ret
  exact ⟨rfl, rfl⟩

/-- The table of the specification, as a block holds it. -/
def rowS : Array Value := #[Value.string { data := #[111, 107] }, Value.string { data := #[98, 97, 100] }, Value.string { data := #[108, 111, 110, 103] }, Value.string { data := #[102, 111, 114, 109] }, Value.string { data := #[114, 97, 110, 103, 101] }, Value.string { data := #[110, 111, 110, 101] }, Value.string { data := #[109, 97, 110, 121] }, Value.string { data := #[102, 117, 108, 108] }, Value.string { data := #[115, 117, 109] }, Value.string { data := #[116, 119, 105, 99, 101] }, Value.string { data := #[100, 101, 112, 116, 104] }, Value.string { data := #[99, 108, 111, 115, 101] }, Value.string { data := #[101, 110, 116, 105, 116, 121] }, Value.string { data := #[114, 111, 111, 116] }, Value.string { data := #[115, 116, 97, 116, 101] }, Value.string { data := #[114, 101, 97, 100, 111, 110, 108, 121] }, Value.string { data := #[102, 108, 97, 103] }, Value.string { data := #[117, 105, 100] }, Value.string { data := #[109, 111, 114, 101] }, Value.string { data := #[103, 111, 110, 101] }]
theorem row_at (k : Nat) (h : k < 20) : rowS[k]? = some (.string (wd k)) := by
  match k, h with
  | 0, _ => rfl
  | 1, _ => rfl
  | 2, _ => rfl
  | 3, _ => rfl
  | 4, _ => rfl
  | 5, _ => rfl
  | 6, _ => rfl
  | 7, _ => rfl
  | 8, _ => rfl
  | 9, _ => rfl
  | 10, _ => rfl
  | 11, _ => rfl
  | 12, _ => rfl
  | 13, _ => rfl
  | 14, _ => rfl
  | 15, _ => rfl
  | 16, _ => rfl
  | 17, _ => rfl
  | 18, _ => rfl
  | 19, _ => rfl
  | n + 20, h => exact absurd h (by omega)

set_option maxHeartbeats 1000000 in
set_option maxRecDepth 100000 in
theorem specWord_any (c : Int) (w : World) :
    Calls Tryd.prog 5 #[.int .i64 c] w fun e w' => e = .returned (.string (word c)) ∧ Below w.heap.size w w' := by
  by_cases h0 : c < 0
  · rw [word_out (.inl h0)]
    go_enter Tryd.func5, Tryd.ntmps5
    go_wp2
    go_ret
    exact ⟨rfl, (Below.refl _ _).alloc (Nat.le_refl _) _⟩
  by_cases h20 : 20 ≤ c
  · rw [word_out (.inr h20)]
    have h20' : decide (20 ≤ c) = true := decide_eq_true h20
    go_enter Tryd.func5, Tryd.ntmps5
    go_wp2
    go_ret
    exact ⟨rfl, (Below.refl _ _).alloc (Nat.le_refl _) _⟩
  obtain ⟨k, rfl⟩ : ∃ k : Nat, c = (k : Int) := ⟨c.toNat, by omega⟩
  have hk : k < 20 := by omega
  have hc : (w.alloc (.cells #[Value.string { data := #[111, 107] }, Value.string { data := #[98, 97, 100] }, Value.string { data := #[108, 111, 110, 103] }, Value.string { data := #[102, 111, 114, 109] }, Value.string { data := #[114, 97, 110, 103, 101] }, Value.string { data := #[110, 111, 110, 101] }, Value.string { data := #[109, 97, 110, 121] }, Value.string { data := #[102, 117, 108, 108] }, Value.string { data := #[115, 117, 109] }, Value.string { data := #[116, 119, 105, 99, 101] }, Value.string { data := #[100, 101, 112, 116, 104] }, Value.string { data := #[99, 108, 111, 115, 101] }, Value.string { data := #[101, 110, 116, 105, 116, 121] }, Value.string { data := #[114, 111, 111, 116] }, Value.string { data := #[115, 116, 97, 116, 101] }, Value.string { data := #[114, 101, 97, 100, 111, 110, 108, 121] }, Value.string { data := #[102, 108, 97, 103] }, Value.string { data := #[117, 105, 100] }, Value.string { data := #[109, 111, 114, 101] }, Value.string { data := #[103, 111, 110, 101] }] 9)).cell? ⟨w.heap.size, k, none⟩ = some (.string (wd k)) := by
    have h1 : (w.alloc (.cells rowS 9)).heap[w.heap.size]? = some (.cells rowS 9) := by
      show (w.heap.push (.cells rowS 9))[w.heap.size]? = _
      simp
    exact (cell_of_row _ _ k _ _ _ h1).trans (row_at k hk)
  rw [word_in k hk]
  obtain ⟨x, hx⟩ : ∃ x, x = wd k := ⟨_, rfl⟩
  rw [← hx] at hc ⊢
  clear hx
  have h20' : (k : Int) < 20 := by omega
  have h20d : decide (20 ≤ (k : Int)) = false := decide_eq_false (by omega)
  clear h20
  go_enter Tryd.func5, Tryd.ntmps5
  go_wp2
  go_ret
  exact ⟨rfl, (Below.refl _ _).alloc (Nat.le_refl _) _⟩

/-- What both CodeOf functions answer. -/
def CodeRet (s : ByteArray) (e : Ending) : Prop :=
  (∃ k : Nat, k < 20 ∧ (wd k).toList = s.toList ∧ (∀ j, j < k → (wd j).toList ≠ s.toList) ∧ e = .returned (.int .i64 k)) ∨
  ((∀ j, j < 20 → (wd j).toList ≠ s.toList) ∧ e = .returned (.int .i64 (-1)))
theorem code_same {s : ByteArray} {e e' : Ending} (h : CodeRet s e) (h' : CodeRet s e') : ∃ c : Int, e = .returned (.int .i64 c) ∧ e' = .returned (.int .i64 c) := by
  rcases h with ⟨k, hk, he, hn, rfl⟩ | ⟨hn, rfl⟩ <;> rcases h' with ⟨k', hk', he', hn', rfl⟩ | ⟨hn', rfl⟩
  · have : k = k' := by
      rcases Nat.lt_trichotomy k k' with e | e | e
      · exact absurd he (hn' k e)
      · exact e
      · exact absurd he' (hn k' e)
    rw [this]
    exact ⟨_, rfl, rfl⟩
  · exact absurd he (hn' k hk)
  · exact absurd he' (hn k' hk')
  · exact ⟨_, rfl, rfl⟩
theorem step_no {s : ByteArray} {k : Nat} (hg : ∀ j, j < k → (wd j).toList ≠ s.toList) (h : ¬ (wd k).toList = s.toList) : ∀ j, j < k + 1 → (wd j).toList ≠ s.toList := by
  intro j hj
  by_cases e : j = k
  · subst e; exact h
  · exact hg j (by omega)

set_option maxHeartbeats 1000000 in
set_option maxRecDepth 100000 in
theorem specCode_any (s : ByteArray) (w : World) :
    Calls Tryd.prog 7 #[.string s] w fun e w' => CodeRet s e ∧ Below w.heap.size w w' := by
  go_enter Tryd.func7, Tryd.ntmps7
  go_wp2
  go_loopw [3] (fun i wr => ∃ k : Nat, k ≤ 20 ∧ i = .int .i64 k ∧ Below w.heap.size w wr ∧ ∀ j, j < k → (wd j).toList ≠ s.toList) (fun i _ => 20 - (intOf i).toNat)
  case atStart => exact ⟨0, Nat.zero_le _, rfl, Below.refl _ _, fun j hj => absurd hj (Nat.not_lt_zero _)⟩
  case round =>
    obtain ⟨k, hk, rfl, hbw, hg⟩ := hrel
    have HG : Hid (∀ j, j < k → (wd j).toList ≠ s.toList) := hg
    clear hg
    by_cases hlt : k < 20
    · have hlt' : (k : Int) ≤ 19 := by omega
      go_wp2_with fail
      refine (specWord_any _ _).mono ?_
      rintro e w1 ⟨rfl, hb1⟩
      rw [word_in k hlt]
      have hb2 : Below w.heap.size w w1 := hbw.trans (hb1.mono hbw.size)
      clear hb1 hbw
      by_cases he : (wd k).toList = s.toList
      · have heb : ((wd k).toList == s.toList) = true := beq_iff_eq.2 he
        have HE : Hid ((wd k).toList = s.toList) := he
        clear he
        go_wp2
        go_ret
        exact ⟨.inl ⟨k, hlt, HE.out, HG.out, rfl⟩, hb2⟩
      · have heb : ((wd k).toList == s.toList) = false := beq_eq_false_iff_ne.2 he
        have HE : Hid (¬ (wd k).toList = s.toList) := he
        clear he
        go_wp2
        go_roundw
        case rel => exact ⟨k + 1, by omega, by go_num, hb2, step_no HG.out HE.out⟩
        case measure => simp [intOf]; omega
    · have hlt' : 20 ≤ (k : Int) := by omega
      go_wp2
      go_ret
      exact ⟨.inr ⟨fun j hj => HG.out j (by omega), rfl⟩, hbw⟩

theorem ix0 (wx : World) : (Instr.index 27 (.agg (cellsS wordsB).toArray) (.int .i64 0)).run Tryd.prog wx = .ok (.string (wd 0)) wx := by kernel_rfl
theorem ix1 (wx : World) : (Instr.index 27 (.agg (cellsS wordsB).toArray) (.int .i64 1)).run Tryd.prog wx = .ok (.string (wd 1)) wx := by kernel_rfl
theorem ix2 (wx : World) : (Instr.index 27 (.agg (cellsS wordsB).toArray) (.int .i64 2)).run Tryd.prog wx = .ok (.string (wd 2)) wx := by kernel_rfl
theorem ix3 (wx : World) : (Instr.index 27 (.agg (cellsS wordsB).toArray) (.int .i64 3)).run Tryd.prog wx = .ok (.string (wd 3)) wx := by kernel_rfl
theorem ix4 (wx : World) : (Instr.index 27 (.agg (cellsS wordsB).toArray) (.int .i64 4)).run Tryd.prog wx = .ok (.string (wd 4)) wx := by kernel_rfl
theorem ix5 (wx : World) : (Instr.index 27 (.agg (cellsS wordsB).toArray) (.int .i64 5)).run Tryd.prog wx = .ok (.string (wd 5)) wx := by kernel_rfl
theorem ix6 (wx : World) : (Instr.index 27 (.agg (cellsS wordsB).toArray) (.int .i64 6)).run Tryd.prog wx = .ok (.string (wd 6)) wx := by kernel_rfl
theorem ix7 (wx : World) : (Instr.index 27 (.agg (cellsS wordsB).toArray) (.int .i64 7)).run Tryd.prog wx = .ok (.string (wd 7)) wx := by kernel_rfl
theorem ix8 (wx : World) : (Instr.index 27 (.agg (cellsS wordsB).toArray) (.int .i64 8)).run Tryd.prog wx = .ok (.string (wd 8)) wx := by kernel_rfl
theorem ix9 (wx : World) : (Instr.index 27 (.agg (cellsS wordsB).toArray) (.int .i64 9)).run Tryd.prog wx = .ok (.string (wd 9)) wx := by kernel_rfl
theorem ix10 (wx : World) : (Instr.index 27 (.agg (cellsS wordsB).toArray) (.int .i64 10)).run Tryd.prog wx = .ok (.string (wd 10)) wx := by kernel_rfl
theorem ix11 (wx : World) : (Instr.index 27 (.agg (cellsS wordsB).toArray) (.int .i64 11)).run Tryd.prog wx = .ok (.string (wd 11)) wx := by kernel_rfl
theorem ix12 (wx : World) : (Instr.index 27 (.agg (cellsS wordsB).toArray) (.int .i64 12)).run Tryd.prog wx = .ok (.string (wd 12)) wx := by kernel_rfl
theorem ix13 (wx : World) : (Instr.index 27 (.agg (cellsS wordsB).toArray) (.int .i64 13)).run Tryd.prog wx = .ok (.string (wd 13)) wx := by kernel_rfl
theorem ix14 (wx : World) : (Instr.index 27 (.agg (cellsS wordsB).toArray) (.int .i64 14)).run Tryd.prog wx = .ok (.string (wd 14)) wx := by kernel_rfl
theorem ix15 (wx : World) : (Instr.index 27 (.agg (cellsS wordsB).toArray) (.int .i64 15)).run Tryd.prog wx = .ok (.string (wd 15)) wx := by kernel_rfl
theorem ix16 (wx : World) : (Instr.index 27 (.agg (cellsS wordsB).toArray) (.int .i64 16)).run Tryd.prog wx = .ok (.string (wd 16)) wx := by kernel_rfl
theorem ix17 (wx : World) : (Instr.index 27 (.agg (cellsS wordsB).toArray) (.int .i64 17)).run Tryd.prog wx = .ok (.string (wd 17)) wx := by kernel_rfl
theorem ix18 (wx : World) : (Instr.index 27 (.agg (cellsS wordsB).toArray) (.int .i64 18)).run Tryd.prog wx = .ok (.string (wd 18)) wx := by kernel_rfl
theorem ix19 (wx : World) : (Instr.index 27 (.agg (cellsS wordsB).toArray) (.int .i64 19)).run Tryd.prog wx = .ok (.string (wd 19)) wx := by kernel_rfl
theorem index_at (tt : Array Value) (htt : tt = (cellsS wordsB).toArray) (k : Nat) (h : k < 20) (wx : World) : (Instr.index 27 (.agg tt) (.int .i64 (k : Int))).run Tryd.prog wx = .ok (.string (wd k)) wx := by
  subst htt
  match k, h with
  | 0, _ => exact ix0 wx
  | 1, _ => exact ix1 wx
  | 2, _ => exact ix2 wx
  | 3, _ => exact ix3 wx
  | 4, _ => exact ix4 wx
  | 5, _ => exact ix5 wx
  | 6, _ => exact ix6 wx
  | 7, _ => exact ix7 wx
  | 8, _ => exact ix8 wx
  | 9, _ => exact ix9 wx
  | 10, _ => exact ix10 wx
  | 11, _ => exact ix11 wx
  | 12, _ => exact ix12 wx
  | 13, _ => exact ix13 wx
  | 14, _ => exact ix14 wx
  | 15, _ => exact ix15 wx
  | 16, _ => exact ix16 wx
  | 17, _ => exact ix17 wx
  | 18, _ => exact ix18 wx
  | 19, _ => exact ix19 wx
  | n + 20, h => exact absurd h (by omega)

set_option maxHeartbeats 1000000 in
set_option maxRecDepth 100000 in
theorem implCode_any (s : ByteArray) (w : World) (h : Tab w) :
    Calls Tryd.prog 8 #[.string s] w fun e w' => CodeRet s e ∧ w' = w := by
  obtain ⟨t, fr, h⟩ := h
  obtain ⟨tt, htt⟩ : ∃ tt, tt = (cellsS wordsB).toArray := ⟨_, rfl⟩
  rw [← htt] at h
  have hix := index_at tt htt
  have hsz : (Tryd.prog.info? 27).map (·.size) = some tt.size := by rw [htt]; kernel_rfl
  have HIX : Hid (∀ (k : Nat) (h : k < 20) (wx : World), (Instr.index 27 (.agg tt) (.int .i64 (k : Int))).run Tryd.prog wx = .ok (.string (wd k)) wx) := hix
  clear hix htt
  go_enter Tryd.func8, Tryd.ntmps8
  go_wp2_with (refine wpList_load_row rfl 27 _ rfl 0 rfl t tt fr _ h Tryd.underlying27 rfl hsz ?_)
  go_loop [3, 4, 6] (fun _ _ i => ∃ k : Nat, k ≤ 20 ∧ i = .int .i64 k ∧ ∀ j, j < k → (wd j).toList ≠ s.toList) (fun _ _ i => 20 - (intOf i).toNat)
  case atStart => exact ⟨0, Nat.zero_le _, rfl, fun j hj => absurd hj (Nat.not_lt_zero _)⟩
  case round =>
    clear h hsz
    obtain ⟨k, hk, rfl, hg⟩ := hrel
    have HG : Hid (∀ j, j < k → (wd j).toList ≠ s.toList) := hg
    clear hg
    by_cases hlt : k < 20
    · have hlt' : (k : Int) < 20 := by omega
      have hx := HIX.out k hlt
      by_cases he : (wd k).toList = s.toList
      · have heb : ((wd k).toList == s.toList) = true := beq_iff_eq.2 he
        have HE : Hid ((wd k).toList = s.toList) := he
        clear he
        go_wp2
        go_ret
        exact ⟨.inl ⟨k, hlt, HE.out, HG.out, rfl⟩, rfl⟩
      · have heb : ((wd k).toList == s.toList) = false := beq_eq_false_iff_ne.2 he
        have HE : Hid (¬ (wd k).toList = s.toList) := he
        clear he
        go_wp2
        go_round
        case rel => exact ⟨k + 1, by omega, by go_num, step_no HG.out HE.out⟩
        case measure => simp [intOf]; omega
    · have hlt' : 20 ≤ (k : Int) := by omega
      go_wp2
      go_ret
      exact ⟨.inr ⟨fun j hj => HG.out j (by omega), rfl⟩, rfl⟩
end Go.Proofs.YthndloempbcflagDoor.cd
