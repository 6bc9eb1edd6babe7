/-
  Names of flags: plain facts, the program's search for a name, and the specification's names.
-/
import Derived.Test.YtofpnabfecimhaaDoorSml
import Derived.Test.YtofpnabfecimhaaDoorSpl
import Derived.Test.YtofpnabfecimhaaDoorTab
import Derived.Test.YtofpnabfecimhaaDoorGrw
namespace Go.Proofs.YtofpnabfecimhaaDoor.fg
open Go.RowKit
open lo sl sp gr
set_option linter.unusedVariables false

/-- The name of a flag. -/
def fn (k : Nat) : ByteArray := ⟨(tb.fls.getD k []).toArray⟩
def pw : Nat → Int
  | 0 => 1
  | 1 => 2
  | 2 => 4
  | 3 => 8
  | 4 => 16
  | _ => 0
/-- The flag of a name among the first ones, 0 of none. -/
def flg (l : ByteArray) : Nat → Int
  | 0 => 0
  | k + 1 => if sameB l (fn k) = true then pw k else flg l k
theorem apart : ∀ j, j < 5 → ∀ k, k < 5 → lower (tb.fls.getD j []) = lower (tb.fls.getD k []) → j = k := by decide
theorem one_name {l : ByteArray} {j k : Nat} (hj : j < 5) (hk : k < 5) (h : sameB l (fn j) = true) (h' : sameB l (fn k) = true) : j = k := by
  have e1 : lower l.data.toList = lower (tb.fls.getD j []) := of_decide_eq_true h
  have e2 : lower l.data.toList = lower (tb.fls.getD k []) := of_decide_eq_true h'
  exact apart j hj k hk (e1.symm.trans e2)
theorem flg_none {l : ByteArray} : ∀ k, (∀ j, j < k → sameB l (fn j) = false) → flg l k = 0
  | 0, _ => rfl
  | k + 1, h => by
    rw [flg, if_neg (by rw [h k (by omega)]; simp)]
    exact flg_none k (fun j hj => h j (by omega))
theorem flg_before {l : ByteArray} {k : Nat} (hk : k < 5) (h : sameB l (fn k) = true) : ∀ m, m ≤ k → flg l m = 0 := by
  intro m hm
  refine flg_none m (fun j hj => ?_)
  cases e : sameB l (fn j)
  · rfl
  · exact absurd (one_name (by omega) hk e h) (by omega)
theorem flg_one {l : ByteArray} {k : Nat} (hk : k < 5) (h : sameB l (fn k) = true) : ∀ m, k < m → m ≤ 5 → flg l m = pw k
  | 0, h1, _ => absurd h1 (by omega)
  | m + 1, h1, h2 => by
    rw [flg]
    by_cases e : k = m
    · subst e
      rw [if_pos h]
    · rw [if_neg (by intro y; exact e (one_name hk (by omega) h y))]
      exact flg_one hk h m (by omega) (by omega)
theorem pw_pos : ∀ k, k < 5 → pw k ≠ 0 := by decide
theorem fn_size : ∀ k, k < 5 → (fn k).size ≤ 9 := by decide
theorem fls_len : tb.fls.length = 5 := rfl
theorem cells_fls : (tb.fls.map fun l => Value.string ⟨l.toArray⟩) = [.string (fn 0), .string (fn 1), .string (fn 2), .string (fn 3), .string (fn 4)] := rfl

theorem ix0 (wx : World) : (Instr.index 42 (.agg (tb.fls.map fun l => Value.string ⟨l.toArray⟩).toArray) (.int .i64 0)).run Tryd.prog wx = .ok (.string (fn 0)) wx := by kernel_rfl
theorem ix1 (wx : World) : (Instr.index 42 (.agg (tb.fls.map fun l => Value.string ⟨l.toArray⟩).toArray) (.int .i64 1)).run Tryd.prog wx = .ok (.string (fn 1)) wx := by kernel_rfl
theorem ix2 (wx : World) : (Instr.index 42 (.agg (tb.fls.map fun l => Value.string ⟨l.toArray⟩).toArray) (.int .i64 2)).run Tryd.prog wx = .ok (.string (fn 2)) wx := by kernel_rfl
theorem ix3 (wx : World) : (Instr.index 42 (.agg (tb.fls.map fun l => Value.string ⟨l.toArray⟩).toArray) (.int .i64 3)).run Tryd.prog wx = .ok (.string (fn 3)) wx := by kernel_rfl
theorem ix4 (wx : World) : (Instr.index 42 (.agg (tb.fls.map fun l => Value.string ⟨l.toArray⟩).toArray) (.int .i64 4)).run Tryd.prog wx = .ok (.string (fn 4)) wx := by kernel_rfl

set_option maxHeartbeats 2000000 in
set_option maxRecDepth 100000 in
theorem flagOf_any (l : ByteArray) (w : World) (h : tb.TF w) (hs : l.size ≤ 1048576) :
    Calls Tryd.prog 22 #[.string l] w fun e w' => e = .returned (.int .i64 (flg l 5)) ∧ Below w.heap.size w w' := by
  obtain ⟨t, fr, h⟩ := h
  obtain ⟨tt, htt⟩ : ∃ tt, tt = (tb.fls.map fun l => Value.string ⟨l.toArray⟩).toArray := ⟨_, rfl⟩
  rw [← htt] at h
  have HIX : Hid (∀ wx : World, (Instr.index 42 (.agg tt) (.int .i64 0)).run Tryd.prog wx = .ok (.string (fn 0)) wx ∧ (Instr.index 42 (.agg tt) (.int .i64 1)).run Tryd.prog wx = .ok (.string (fn 1)) wx ∧ (Instr.index 42 (.agg tt) (.int .i64 2)).run Tryd.prog wx = .ok (.string (fn 2)) wx ∧ (Instr.index 42 (.agg tt) (.int .i64 3)).run Tryd.prog wx = .ok (.string (fn 3)) wx ∧ (Instr.index 42 (.agg tt) (.int .i64 4)).run Tryd.prog wx = .ok (.string (fn 4)) wx) := by
    rw [htt]
    exact fun wx => ⟨ix0 wx, ix1 wx, ix2 wx, ix3 wx, ix4 wx⟩
  have hsz : (Tryd.prog.info? 42).map (·.size) = some tt.size := by rw [htt]; kernel_rfl
  clear htt
  go_enter Tryd.func22, Tryd.ntmps22
  go_wp2_with (refine wpList_load_row rfl 42 _ rfl 0 rfl t tt fr _ h Tryd.underlying42 rfl hsz ?_)
  go_loopw [6] (fun i wr => ∃ k : Nat, k ≤ 5 ∧ i = .int .i64 k ∧ (∀ j, j < k → sameB l (fn j) = false) ∧ Below w.heap.size w wr) (fun i _ => 5 - (intOf i).toNat)
  case atStart => exact ⟨0, Nat.zero_le _, rfl, fun j hj => absurd hj (Nat.not_lt_zero _), Below.refl _ _⟩
  case round =>
    clear h hsz
    obtain ⟨k, hk, rfl, hno, hbw⟩ := hrel
    have HNO : Hid (∀ j, j < k → sameB l (fn j) = false) := hno
    clear hno
    by_cases hlt : k < 5
    · obtain ⟨hx0, hx1, hx2, hx3, hx4⟩ := HIX.out wr
      have HS : Hid (∀ k, k < 5 → ∀ W, Calls Tryd.prog 39 #[.string l, .string (fn k)] W fun e w' => e = .returned (.bool (sameB l (fn k))) ∧ Below W.heap.size W w') := fun k hk W => same_any l (fn k) W hs (by have := fn_size k hk; omega)
      have hc : k = 0 ∨ k = 1 ∨ k = 2 ∨ k = 3 ∨ k = 4 := by omega
      rcases hc with rfl | rfl | rfl | rfl | rfl
      · clear hx1 hx2 hx3 hx4
        go_wp2_with fail
        refine (HS.out 0 (by omega) _).mono ?_
        rintro e w2 ⟨rfl, hb2⟩
        have b2 := hbw.trans (hb2.mono hbw.size)
        have HK : Hid (sameB l (fn 0) = true → flg l 5 = pw 0) := fun y => flg_one (by omega) y 5 (by omega) (by omega)
        have HN : Hid (sameB l (fn 0) = false → ∀ j, j < 0 + 1 → sameB l (fn j) = false) := fun y j hj => by
          by_cases e : j = 0
          · rw [e]; exact y
          · exact HNO.out j (by omega)
        clear hb2 hbw hx0 HS HNO
        generalize sameB l (fn 0) = B at HK HN ⊢
        cases B
        · have HN2 : Hid (∀ j, j < 0 + 1 → sameB l (fn j) = false) := HN.out (by trivial)
          clear HK HN
          go_wp2
          go_roundw
          case rel => exact ⟨0 + 1, by omega, by go_num, HN2.out, b2⟩
          case measure => simp [intOf]
        · have HK2 : Hid (flg l 5 = pw 0) := HK.out (by trivial)
          clear HK HN
          go_wp2
          go_ret
          exact ⟨by rw [HK2.out]; rfl, b2⟩
      · clear hx0 hx2 hx3 hx4
        go_wp2_with fail
        refine (HS.out 1 (by omega) _).mono ?_
        rintro e w2 ⟨rfl, hb2⟩
        have b2 := hbw.trans (hb2.mono hbw.size)
        have HK : Hid (sameB l (fn 1) = true → flg l 5 = pw 1) := fun y => flg_one (by omega) y 5 (by omega) (by omega)
        have HN : Hid (sameB l (fn 1) = false → ∀ j, j < 1 + 1 → sameB l (fn j) = false) := fun y j hj => by
          by_cases e : j = 1
          · rw [e]; exact y
          · exact HNO.out j (by omega)
        clear hb2 hbw hx1 HS HNO
        generalize sameB l (fn 1) = B at HK HN ⊢
        cases B
        · have HN2 : Hid (∀ j, j < 1 + 1 → sameB l (fn j) = false) := HN.out (by trivial)
          clear HK HN
          go_wp2
          go_roundw
          case rel => exact ⟨1 + 1, by omega, by go_num, HN2.out, b2⟩
          case measure => simp [intOf]
        · have HK2 : Hid (flg l 5 = pw 1) := HK.out (by trivial)
          clear HK HN
          go_wp2
          go_ret
          exact ⟨by rw [HK2.out]; rfl, b2⟩
      · clear hx0 hx1 hx3 hx4
        go_wp2_with fail
        refine (HS.out 2 (by omega) _).mono ?_
        rintro e w2 ⟨rfl, hb2⟩
        have b2 := hbw.trans (hb2.mono hbw.size)
        have HK : Hid (sameB l (fn 2) = true → flg l 5 = pw 2) := fun y => flg_one (by omega) y 5 (by omega) (by omega)
        have HN : Hid (sameB l (fn 2) = false → ∀ j, j < 2 + 1 → sameB l (fn j) = false) := fun y j hj => by
          by_cases e : j = 2
          · rw [e]; exact y
          · exact HNO.out j (by omega)
        clear hb2 hbw hx2 HS HNO
        generalize sameB l (fn 2) = B at HK HN ⊢
        cases B
        · have HN2 : Hid (∀ j, j < 2 + 1 → sameB l (fn j) = false) := HN.out (by trivial)
          clear HK HN
          go_wp2
          go_roundw
          case rel => exact ⟨2 + 1, by omega, by go_num, HN2.out, b2⟩
          case measure => simp [intOf]
        · have HK2 : Hid (flg l 5 = pw 2) := HK.out (by trivial)
          clear HK HN
          go_wp2
          go_ret
          exact ⟨by rw [HK2.out]; rfl, b2⟩
      · clear hx0 hx1 hx2 hx4
        go_wp2_with fail
        refine (HS.out 3 (by omega) _).mono ?_
        rintro e w2 ⟨rfl, hb2⟩
        have b2 := hbw.trans (hb2.mono hbw.size)
        have HK : Hid (sameB l (fn 3) = true → flg l 5 = pw 3) := fun y => flg_one (by omega) y 5 (by omega) (by omega)
        have HN : Hid (sameB l (fn 3) = false → ∀ j, j < 3 + 1 → sameB l (fn j) = false) := fun y j hj => by
          by_cases e : j = 3
          · rw [e]; exact y
          · exact HNO.out j (by omega)
        clear hb2 hbw hx3 HS HNO
        generalize sameB l (fn 3) = B at HK HN ⊢
        cases B
        · have HN2 : Hid (∀ j, j < 3 + 1 → sameB l (fn j) = false) := HN.out (by trivial)
          clear HK HN
          go_wp2
          go_roundw
          case rel => exact ⟨3 + 1, by omega, by go_num, HN2.out, b2⟩
          case measure => simp [intOf]
        · have HK2 : Hid (flg l 5 = pw 3) := HK.out (by trivial)
          clear HK HN
          go_wp2
          go_ret
          exact ⟨by rw [HK2.out]; rfl, b2⟩
      · clear hx0 hx1 hx2 hx3
        go_wp2_with fail
        refine (HS.out 4 (by omega) _).mono ?_
        rintro e w2 ⟨rfl, hb2⟩
        have b2 := hbw.trans (hb2.mono hbw.size)
        have HK : Hid (sameB l (fn 4) = true → flg l 5 = pw 4) := fun y => flg_one (by omega) y 5 (by omega) (by omega)
        have HN : Hid (sameB l (fn 4) = false → ∀ j, j < 4 + 1 → sameB l (fn j) = false) := fun y j hj => by
          by_cases e : j = 4
          · rw [e]; exact y
          · exact HNO.out j (by omega)
        clear hb2 hbw hx4 HS HNO
        generalize sameB l (fn 4) = B at HK HN ⊢
        cases B
        · have HN2 : Hid (∀ j, j < 4 + 1 → sameB l (fn j) = false) := HN.out (by trivial)
          clear HK HN
          go_wp2
          go_roundw
          case rel => exact ⟨4 + 1, by omega, by go_num, HN2.out, b2⟩
          case measure => simp [intOf]
        · have HK2 : Hid (flg l 5 = pw 4) := HK.out (by trivial)
          clear HK HN
          go_wp2
          go_ret
          exact ⟨by rw [HK2.out]; rfl, b2⟩
    · have HE : Hid (flg l 5 = 0) := flg_none 5 (fun j hj => HNO.out j (by omega))
      have hk5 : k = 5 := by omega
      subst hk5
      clear HNO
      go_wp2
      go_ret
      exact ⟨by rw [HE.out]; rfl, hbw⟩
end Go.Proofs.YtofpnabfecimhaaDoor.fg
