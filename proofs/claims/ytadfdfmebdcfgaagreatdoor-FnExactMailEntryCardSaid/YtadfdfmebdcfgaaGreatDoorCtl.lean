/-
  The contract of the specification's parting of a text at each blank: a list of its parts, which the call made.
-/
import Derived.Test.YtadfdfmebdcfgaaGreatDoorOwn
import Derived.Test.YtadfdfmebdcfgaaGreatDoorHdf
import Derived.Test.YtadfdfmebdcfgaaGreatDoorRows
import Derived.WalkKit
import Derived.WalkLawsBesides
import Derived.Laws.AppendOwn
import Derived.Lib.FieldsLaws
namespace Go.Proofs.YtadfdfmebdcfgaaGreatDoor.hd
open Go.RowKit
set_option linter.unusedVariables false

theorem infoStr : (Tryz.prog.info? 9).map (fun i => (i.zero, i.size, i.bytes)) = some (some (.string ByteArray.empty), 1, 16) := by kernel_rfl
/-- A text as a value. -/
def tv (l : List UInt8) : Value := .string ⟨l.toArray⟩
def piece (s : ByteArray) (f i : Nat) : List UInt8 := (s.data.toList.drop f).take (i - f)
theorem tv_piece (s : ByteArray) (f i : Nat) : tv (piece s f i) = .string (s.extract f i) := by
  unfold tv piece
  congr 1
  apply ByteArray.ext
  rw [← Array.toList_inj]
  show (List.take _ _).toArray.toList = _
  rw [List.toList_toArray, ← Lib.toList_data (s.extract f i), Lib.extract_toList]
theorem drop_at (s : ByteArray) (i : Nat) (h : i < s.size) : s.data.toList.drop i = s[i] :: s.data.toList.drop (i + 1) := by
  rw [List.drop_eq_getElem_cons (by simpa using h)]
  rfl
theorem cut_blank {s : ByteArray} {f i : Nat} {ws : List (List UInt8)} (h : ws ++ cutGo (piece s f i) (s.data.toList.drop i) = cutGo [] s.data.toList) (hi : i < s.size) (hb : (s[i]'hi).toNat = 32) :
    (ws ++ [piece s f i]) ++ cutGo (piece s (i + 1) (i + 1)) (s.data.toList.drop (i + 1)) = cutGo [] s.data.toList := by
  rw [drop_at s i hi, cutGo, if_pos hb] at h
  rw [← h, show piece s (i + 1) (i + 1) = [] from by simp [piece], List.append_assoc]
  rfl
theorem cut_sign {s : ByteArray} {f i : Nat} {ws : List (List UInt8)} (h : ws ++ cutGo (piece s f i) (s.data.toList.drop i) = cutGo [] s.data.toList) (hf : f ≤ i) (hi : i < s.size) (hb : (s[i]'hi).toNat ≠ 32) :
    ws ++ cutGo (piece s f (i + 1)) (s.data.toList.drop (i + 1)) = cutGo [] s.data.toList := by
  rw [drop_at s i hi, cutGo, if_neg hb] at h
  rw [← h, show piece s f (i + 1) = piece s f i ++ [s[i]] from Lib.piece_more hf (by rw [List.getElem?_eq_getElem (by simpa using hi)]; rfl)]
theorem cut_end {s : ByteArray} {f i : Nat} {ws : List (List UInt8)} (h : ws ++ cutGo (piece s f i) (s.data.toList.drop i) = cutGo [] s.data.toList) (hi : s.size ≤ i) : ws ++ [piece s f i] = cutGo [] s.data.toList := by
  rw [List.drop_eq_nil_of_le (by rw [← Lib.size_eq]; exact hi)] at h
  exact h

set_option maxHeartbeats 2000000 in
set_option maxRecDepth 100000 in
theorem cut_any (s : ByteArray) (w : World) (hs : s.size ≤ 1048576) :
    Calls Tryz.prog 80 #[.string s, .int .u8 32] w fun e w' => ∃ v, e = .returned v ∧ w'.ownsRow w.heap.size 9 1 v (cutGo [] s.data.toList).length ((cutGo [] s.data.toList).map tv) ∧ Below w.heap.size w w' := by
  obtain ⟨i0, hi, hz0, hz1, hz2⟩ := info_parts infoStr
  go_enter Tryz.func80, Tryz.ntmps80
  go_wp2
  go_loopw [5, 6, 7] (fun v a b wr => ∃ (f i : Nat) (ws : List (List UInt8)), f ≤ i ∧ i ≤ s.size ∧ a = .int .i64 f ∧ b = .int .i64 i ∧ ws.length ≤ i ∧ wr.ownsRow w.heap.size 9 1 v ws.length (ws.map tv) ∧ Below w.heap.size w wr ∧ ws ++ cutGo (piece s f i) (s.data.toList.drop i) = cutGo [] s.data.toList) (fun _ _ b _ => s.size - (intOf b).toNat)
  case atStart => exact ⟨0, 0, [], Nat.le_refl _, Nat.zero_le _, rfl, rfl, Nat.le_refl _, ow.own_empty w _, (Below.refl _ _).alloc (Nat.le_refl _) _, rfl⟩
  case round =>
    obtain ⟨f, i, ws, hfi, his, rfl, rfl, hwl, hown, hbw, hc⟩ := hrel
    have HC : Hid (ws ++ cutGo (piece s f i) (s.data.toList.drop i) = cutGo [] s.data.toList) := hc
    clear hc
    have hBs := hbw.size
    have c1 : (0 : Int) ≤ (f : Int) := by omega
    have c2 : (f : Int) ≤ (i : Int) := by omega
    have c3 : (i : Int) ≤ (s.size : Int) := by omega
    by_cases hlt : i < s.size
    · by_cases hb : (s[i]'hlt).toNat = 32
      · have d1 : (((s[i]'hlt).toNat : Int) == 32) = true := beq_iff_eq.2 (by omega)
        have HB : Hid ((s[i]'hlt).toNat = 32) := hb
        clear hb
        go_wp2_with (at_builtin; refine wpList_append_own _ rfl _ _ 65 rfl w.heap.size 9 i0 (.string ByteArray.empty) 1 16 Tryz.underlying65 hi hz0 hz1 hz2 rfl (by decide) _ _ _ rfl (hown.alloc _) ⟨wr.heap.size, 0, none⟩ 1 1 [.string (s.extract f i)] rfl rfl (ow.cells_new _ [.string (s.extract f i)] _) (by intro u hu; simp at hu; subst hu; rfl) (by unfold maxLen; omega) (by omega) (by simp; omega) ?_; intro v' w3 hown3 hgrow3 hnil3)
        have hb3 := Below.grown (hbw.alloc hBs _) hgrow3 (by simp; omega) (ow.own_lt hown)
        have HA : Hid (w3.ownsRow w.heap.size 9 1 v' (ws ++ [piece s f i]).length ((ws ++ [piece s f i]).map tv) ∧ Below w.heap.size w w3) := ⟨by rw [List.map_append, List.map_cons, tv_piece, List.length_append]; exact hown3, hb3⟩
        clear hown3 hgrow3 hnil3 hb3 hown hbw
        go_wp2
        go_roundw
        case rel => exact ⟨i + 1, i + 1, ws ++ [piece s f i], Nat.le_refl _, by omega, by go_num, by go_num, by simp; omega, HA.out.1, HA.out.2, cut_blank HC.out hlt HB.out⟩
        case measure => simp [intOf]; omega
      · have d1 : (((s[i]'hlt).toNat : Int) == 32) = false := beq_eq_false_iff_ne.2 (by omega)
        go_wp2
        go_roundw
        case rel => exact ⟨f, i + 1, ws, by omega, by omega, rfl, by go_num, by omega, hown, hbw, cut_sign HC.out hfi hlt hb⟩
        case measure => simp [intOf]; omega
    · have c4 : (f : Int) ≤ (s.size : Int) := by omega
      go_wp2_with (at_builtin; refine wpList_append_own _ rfl _ _ 65 rfl w.heap.size 9 i0 (.string ByteArray.empty) 1 16 Tryz.underlying65 hi hz0 hz1 hz2 rfl (by decide) _ _ _ rfl (hown.alloc _) ⟨wr.heap.size, 0, none⟩ 1 1 [.string (s.extract f s.size)] rfl rfl (ow.cells_new _ [.string (s.extract f s.size)] _) (by intro u hu; simp at hu; subst hu; rfl) (by unfold maxLen; omega) (by omega) (by simp; omega) ?_; intro v' w3 hown3 hgrow3 hnil3)
      have hb3 := Below.grown (hbw.alloc hBs _) hgrow3 (by simp; omega) (ow.own_lt hown)
      have HA : Hid (w3.ownsRow w.heap.size 9 1 v' (cutGo [] s.data.toList).length ((cutGo [] s.data.toList).map tv) ∧ Below w.heap.size w w3) := by
        have e : i = s.size := by omega
        have hc := cut_end HC.out (by omega)
        rw [← hc, List.map_append, List.map_cons, tv_piece, List.length_append, e]
        exact ⟨hown3, hb3⟩
      clear hown3 hgrow3 hnil3 hb3 hown hbw HC
      go_wp2
      go_ret
      exact ⟨v', rfl, HA.out⟩
end Go.Proofs.YtadfdfmebdcfgaaGreatDoor.hd
