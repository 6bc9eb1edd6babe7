/-
  The program's reader of XML: a name that is one; an entity of those that the program itself writes.
-/
import Derived.Test.YtjncdnnllaoccaaGreatDoorXra
import Derived.Test.YtjncdnnllaoccaaGreatDoorXmc
namespace Go.Proofs.YtjncdnnllaoccaaGreatDoor.xd
open Go.RowKit
set_option linter.unusedVariables false

theorem clone_any (s : ByteArray) (w : World) (h : s.size ≤ 1048576) : Calls Tryz.prog 31 #[.string s] w fun e w' => e = .returned (.string s) ∧ Below w.heap.size w w' := by
  go_enter Tryz.func31, Tryz.ntmps31
  go_wp2_with fail
  refine (Tryz.stringslite_Clone s _ (by omega)).mono ?_
  rintro e w' ⟨rfl, hb⟩
  go_wp2
  go_ret
  exact ⟨rfl, hb⟩

theorem ext_list (s : ByteArray) (p q : Nat) : (s.extract p q).data.toList = (s.data.toList.drop p).take (q - p) := by
  rw [← Lib.toList_data, Lib.extract_toList]
theorem name_list (q : UInt8 → Bool) (s : ByteArray) (p : Nat) : (s.extract p (run q s.data.toList p)).data.toList = (s.data.toList.drop p).takeWhile q := by
  rw [ext_list]
  unfold run
  rw [Nat.add_sub_cancel_left]
  have h := List.takeWhile_prefix q (l := s.data.toList.drop p)
  exact (List.prefix_iff_eq_take.1 h).symm
theorem run_le (q : UInt8 → Bool) (s : ByteArray) (p : Nat) (h : p ≤ s.size) : run q s.data.toList p ≤ s.size ∧ p ≤ run q s.data.toList p := by
  unfold run
  have h1 := (List.takeWhile_prefix q (l := s.data.toList.drop p)).length_le
  rw [List.length_drop, ← Lib.size_eq] at h1
  omega

set_option maxHeartbeats 2000000 in
set_option maxRecDepth 100000 in
theorem name_yes (b p : Nat) (s : ByteArray) (vT vO : Value) (w : World) (h : Rb w b s p vT vO) (hp : p ≤ s.size) (hs : s.size ≤ 65536) (hok : xm.okName ((s.data.toList.drop p).takeWhile xm.gon) = true) :
    Calls Tryz.prog 103 #[.pointer (some ⟨b, 0, none⟩)] w fun e w' => e = .returned (.tuple #[.string (s.extract p (run xm.gon s.data.toList p)), .nilIface]) ∧ Mv b s (run xm.gon s.data.toList p) vT vO w w' := by
  have c1 := h.c1
  have HOK : Hid (xm.okName ((s.data.toList.drop p).takeWhile xm.gon) = true) := hok
  have hle := run_le xm.gon s p hp
  clear hok
  go_enter Tryz.func103, Tryz.ntmps103
  go_wp2
  go_loopw [] (fun wr => ∃ k : Nat, p ≤ k ∧ k ≤ s.size ∧ run xm.gon s.data.toList k = run xm.gon s.data.toList p ∧ Mv b s k vT vO w wr) (fun wr => s.size - plc wr b)
  case atStart => exact ⟨p, Nat.le_refl _, hp, rfl, Mv.refl h⟩
  case round =>
    clear c1 h
    obtain ⟨k, hpk, hk, hrun, hmv⟩ := hrel
    have HR : Hid (run xm.gon s.data.toList k = run xm.gon s.data.toList p) := hrun
    have HM : Hid (Mv b s k vT vO w wr) := hmv
    have c0 := hmv.1.c0
    have c1 := hmv.1.c1
    have f1 := hmv.1.f 1
    clear hrun hmv
    by_cases hgo : ∃ hlt : k < s.size, xm.gon (s[k]'hlt) = true
    · obtain ⟨hlt, hq⟩ := hgo
      have hlt' : (k : Int) < (s.size : Int) := by omega
      have hk0 : (0 : Int) ≤ (k : Int) := by omega
      have HB : Hid (∀ w, Calls Tryz.prog 30 #[.int .u8 ((s[k]'hlt).toNat : Int)] w fun e w' => e = .returned (.bool true) ∧ w' = w) := fun w => by have := xm.goes_any ((s[k]'hlt).toNat : Int) w; rwa [show xm.gonB ((s[k]'hlt).toNat : Int) = true from hq] at this
      have HE : Hid (run xm.gon s.data.toList k = run xm.gon s.data.toList (k + 1)) := run_step hlt hq
      clear hq
      go_wp2
      go_quiet ((go_at_call 30; exact Calls.quiet_of_same (HB.out _)))
      go_wp2
      go_roundw
      case rel => exact ⟨k + 1, by omega, by omega, HE.out.symm.trans HR.out, by have := (HM.out.drew nq).at (k + 1); simpa using this⟩
      case measure =>
        have e1 : plc wr b = k := HM.out.1.plc
        have e2 : plc ((wr.drewN nq).setCell ⟨b, 1, none⟩ (.int .i64 ((k : Int) + 1))) b = k + 1 := ((HM.out.drew nq).at (k + 1)).1.plc
        rw [e1, e2]
        omega
    · have HE : Hid (run xm.gon s.data.toList p = k) := by
        by_cases hlt : k < s.size
        · have hq : xm.gon (s[k]'hlt) = false := by cases hx : xm.gon (s[k]'hlt); rfl; exact absurd ⟨hlt, hx⟩ hgo
          exact HR.out.symm.trans (run_stop hlt hq)
        · exact HR.out.symm.trans (run_end (by omega))
      have HN : Hid (∀ w, Calls Tryz.prog 11 #[.string (s.extract p k)] w fun e w' => e = .returned (.bool true) ∧ w' = w) := fun w => by
        have := xm.impl_name (s.extract p k) w (by rw [ByteArray.size_extract]; omega)
        rw [← HE.out, name_list, HOK.out] at this
        rw [← HE.out]; exact this
      have hsl := ow.slice_str (P := Tryz.prog) 9 s .i64 .i64 p k Tryz.underlying9 (p : Int) (k : Int) rfl rfl hpk hk
      have hz : (s.extract p k).size ≤ 1048576 := by rw [ByteArray.size_extract]; omega
      have key : ∀ n : Nat, Hid (Mv b s k vT vO w (wr.drewN n)) := fun n => HM.out.drew n
      by_cases hlt : k < s.size
      · have hlt' : (k : Int) < (s.size : Int) := by omega
        have hk0 : (0 : Int) ≤ (k : Int) := by omega
        have hq : xm.gon (s[k]'hlt) = false := by cases hx : xm.gon (s[k]'hlt); rfl; exact absurd ⟨hlt, hx⟩ hgo
        have HB : Hid (∀ w, Calls Tryz.prog 30 #[.int .u8 ((s[k]'hlt).toNat : Int)] w fun e w' => e = .returned (.bool false) ∧ w' = w) := fun w => by have := xm.goes_any ((s[k]'hlt).toNat : Int) w; rwa [show xm.gonB ((s[k]'hlt).toNat : Int) = false from hq] at this
        clear hq hgo
        go_wp2
        go_quiet ((go_at_call 30; exact Calls.quiet_of_same (HB.out _)))
        go_wp2
        go_quiet (fail)
        go_wp2_with fail
        refine (HN.out _).mono ?_
        rintro e w' ⟨rfl, rfl⟩
        go_wp2_with fail
        refine (clone_any _ _ hz).mono ?_
        rintro e w' ⟨rfl, hb2⟩
        go_wp2
        go_ret2
        rw [HE.out]
        refine ⟨rfl, Mv.below ?_ hb2⟩
        first | exact (key _).out | exact ((key _).out.drew _)
      · have hlt' : decide ((k : Int) < (s.size : Int)) = false := decide_eq_false (by omega)
        clear hgo
        go_wp2
        go_quiet (fail)
        go_wp2
        go_quiet (fail)
        go_wp2_with fail
        refine (HN.out _).mono ?_
        rintro e w' ⟨rfl, rfl⟩
        go_wp2_with fail
        refine (clone_any _ _ hz).mono ?_
        rintro e w' ⟨rfl, hb2⟩
        go_wp2
        go_ret2
        rw [HE.out]
        refine ⟨rfl, Mv.below ?_ hb2⟩
        first | exact (key _).out | exact ((key _).out.drew _)
end Go.Proofs.YtjncdnnllaoccaaGreatDoor.xd
