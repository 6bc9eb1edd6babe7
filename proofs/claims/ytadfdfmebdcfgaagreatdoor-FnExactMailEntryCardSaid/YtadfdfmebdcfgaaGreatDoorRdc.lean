/-
  Contracts of the functions that read a zone, and that end a reading.
-/
import Derived.Test.YtadfdfmebdcfgaaGreatDoorRdb
import Derived.Test.YtadfdfmebdcfgaaGreatDoorDwe
import Derived.Lib.Strings
import Derived.Lib.Split
import Derived.Deep.RegionWith
namespace Go.Proofs.YtadfdfmebdcfgaaGreatDoor.rd
open Go.RowKit
open dt
set_option linter.unusedVariables false

theorem ext_list (s : ByteArray) (i j : Nat) : (s.extract i j).data.toList = (s.data.toList.drop i).take (j - i) := by
  rw [← Lib.toList_data (s.extract i j), Lib.extract_toList]
theorem ext_size (s : ByteArray) (i j : Nat) : (s.extract i j).size = min j s.size - i := by
  rw [← len_eq, ext_list, List.length_take, List.length_drop, len_eq]; omega
/-- A zone's answer. -/
def zr : Option Int → Value
  | none => .tuple #[.int .i64 0, .bool false]
  | some a => .tuple #[.int .i64 a, .bool true]
theorem zi_no {f z : List UInt8} (h : z = [] ∨ hf (z.drop 1) f = false) : zi f z = none := by
  unfold zi
  rw [if_neg]
  rintro ⟨h1, h2⟩
  rcases h with h | h
  · exact h1 h
  · rw [h] at h2; cases h2
theorem zi_yes {f z : List UInt8} (h1 : z ≠ []) (h2 : hf (z.drop 1) f = true) : zi f z =
    (if 23 < num ((z.drop 1).take 2) ∨ 59 < num (z.drop (z.length - 2)) then none
     else if z.getD 0 0 = 43 then some (num ((z.drop 1).take 2) * 3600 + num (z.drop (z.length - 2)) * 60)
     else if z.getD 0 0 = 45 then some (-(num ((z.drop 1).take 2) * 3600 + num (z.drop (z.length - 2)) * 60)) else none) := by
  unfold zi
  rw [if_pos ⟨h1, h2⟩]
/-- What a zone of either form has. -/
theorem form_parts {f z : List UInt8} (hF : f = F5 ∨ f = F4) (h1 : z ≠ []) (h : hf (z.drop 1) f = true) : 5 ≤ z.length ∧ z.length ≤ 6 ∧ dgs ((z.drop 1).take 2) = true ∧ dgs (z.drop (z.length - 2)) = true := by
  have hl := hf_len h
  have h0 : z.length ≠ 0 := fun e => h1 (List.eq_nil_of_length_eq_zero e)
  rcases hF with rfl | rfl
  · rw [List.length_drop] at hl
    have hl6 : z.length = 6 := by simp [F5] at hl; omega
    match z, hl6 with
    | [g, a, b, c, d, e], _ =>
      simp [hf, F5] at h
      obtain ⟨i1, i2, i3, i4, i5⟩ := h
      exact ⟨by simp, by simp, by simp [dgs, i1, i2], by simp [dgs, i4, i5]⟩
  · rw [List.length_drop] at hl
    have hl5 : z.length = 5 := by simp [F4] at hl; omega
    match z, hl5 with
    | [g, a, b, d, e], _ =>
      simp [hf, F4] at h
      obtain ⟨i1, i2, i4, i5⟩ := h
      exact ⟨by simp, by simp, by simp [dgs, i1, i2], by simp [dgs, i4, i5]⟩
theorem nat_of_beq {b : UInt8} {n : Nat} (hn : n < 256) : b = UInt8.ofNat n ↔ (b.toNat : Int) = (n : Int) := by
  constructor
  · intro h; rw [h, UInt8.toNat_ofNat_of_lt' (show n < 2 ^ 8 from hn)]
  · intro h; exact UInt8.toNat_inj.1 (by rw [UInt8.toNat_ofNat_of_lt' (show n < 2 ^ 8 from hn)]; omega)

set_option maxHeartbeats 4000000 in
set_option maxRecDepth 100000 in
theorem sec_any (z f : ByteArray) (hz : z.size ≤ 65536) (hF : f.data.toList = F5 ∨ f.data.toList = F4) (w : World) :
    Calls Tryz.prog 123 #[.string z, .string f] w fun e w' => e = .returned (zr (zi f.data.toList z.data.toList)) ∧ Drawn w w' := by
  by_cases h0 : z.data.toList = []
  · rw [zi_no (.inl h0)]
    have e1 : z.toList.isEmpty = true := by rw [Lib.toList_data, h0]; rfl
    clear h0 hF
    go_enter Tryz.func123, Tryz.ntmps123
    go_wp2
    go_ret2
    exact ⟨rfl, 0, rfl⟩
  have e1 : z.toList.isEmpty = false := by rw [Lib.toList_data]; simpa using h0
  have zs : 1 ≤ z.size := by
    rcases Nat.eq_zero_or_pos z.size with q | q
    · exact absurd (List.eq_nil_of_length_eq_zero (by rw [len_eq]; exact q)) h0
    · exact q
  have zs' : (1 : Int) ≤ (z.size : Int) := by omega
  have ed : (z.extract 1 z.size).data.toList = z.data.toList.drop 1 := by rw [ext_list, List.take_of_length_le (by simp)]
  have HH : Hid (∀ w, Calls Tryz.prog 164 #[.string (z.extract 1 z.size), .string f] w fun e w' => e = .returned (.bool (hf (z.data.toList.drop 1) f.data.toList)) ∧ Drawn w w') := fun w => by
    have := hf_any (z.extract 1 z.size) f (by rw [ext_size]; omega) w
    rw [ed] at this
    exact this
  cases hh : hf (z.data.toList.drop 1) f.data.toList
  · rw [zi_no (.inr hh)]
    rw [hh] at HH
    clear h0 hF hh ed
    go_enter Tryz.func123, Tryz.ntmps123
    go_wp2_with fail
    refine (HH.out _).mono ?_
    rintro e w1 ⟨rfl, d1⟩
    go_wp2
    go_ret2
    exact ⟨rfl, d1⟩
  rw [hh] at HH
  obtain ⟨l1, l2, g1, g2⟩ := form_parts hF h0 hh
  rw [zi_yes h0 hh]
  have ex1 : (z.extract 1 3).data.toList = (z.data.toList.drop 1).take 2 := by rw [ext_list]
  have ex2 : (z.extract (z.size - 2) z.size).data.toList = z.data.toList.drop (z.data.toList.length - 2) := by rw [ext_list, len_eq, List.take_of_length_le (by simp)]
  have a0 := num_lo g1
  have a1 := num_hi g1 (by simp; omega)
  have b0 := num_lo g2
  have b1 := num_hi g2 (by simp; omega)
  have HA : Hid (∀ w, Calls Tryz.prog 165 #[.string (z.extract 1 3)] w fun e w' => e = .returned (.int .i64 (num ((z.data.toList.drop 1).take 2))) ∧ w' = w) := fun w => by
    have := num_any (z.extract 1 3) (by rw [ext_size]; omega) (by rw [ex1]; exact g1) w
    rw [ex1] at this
    exact this
  have HB : Hid (∀ w, Calls Tryz.prog 165 #[.string (z.extract (z.size - 2) z.size)] w fun e w' => e = .returned (.int .i64 (num (z.data.toList.drop (z.data.toList.length - 2)))) ∧ w' = w) := fun w => by
    have := num_any (z.extract (z.size - 2) z.size) (by rw [ext_size]; omega) (by rw [ex2]; exact g2) w
    rw [ex2] at this
    exact this
  have h00 : 0 < z.size := zs
  have hg0 : z.data.toList.getD 0 0 = z[0]'h00 := getD_eq z 0 h00
  rw [hg0]
  rw [len_eq] at l1 l2
  generalize num ((z.data.toList.drop 1).take 2) = A at a0 a1 HA ⊢
  generalize num (z.data.toList.drop (z.data.toList.length - 2)) = B at b0 b1 HB ⊢
  clear g1 g2 ex1 ex2 hg0 h0 hF hh ed
  have h56 : z.size = 6 ∨ z.size = 5 := by omega
  clear zs' zs l1 l2
  rcases h56 with hzs | hzs
  · have hzs' : (z.size : Int) = 6 := by omega
    have HB5 : Hid (∀ w, Calls Tryz.prog 165 #[.string (z.extract 4 6)] w fun e w' => e = .returned (.int .i64 B) ∧ w' = w) := by
      have q := HB.out
      rw [hzs] at q
      exact q
    have HH5 : Hid (∀ w, Calls Tryz.prog 164 #[.string (z.extract 1 6), .string f] w fun e w' => e = .returned (.bool true) ∧ Drawn w w') := by
      have q := HH.out
      rw [hzs] at q
      exact q
    clear HB HH
    by_cases c1 : 23 < A
    · rw [if_pos (.inl c1)]
      go_enter Tryz.func123, Tryz.ntmps123
      go_wp2_with fail
      refine (HH5.out _).mono ?_
      rintro e w1 ⟨rfl, d1⟩
      go_wp2_with fail
      go_quiet ((go_at_call 165; first | (go_at_call_of 165 (z.extract 1 3); exact Calls.quiet_of_same (HA.out _)) | (go_at_call_of 165 (z.extract 4 6); exact Calls.quiet_of_same (HB5.out _))))
      go_wp2
      go_ret2
      exact ⟨rfl, drawn_more d1 _⟩
    have c1' : decide (23 < A) = false := decide_eq_false c1
    by_cases c2 : 59 < B
    · rw [if_pos (.inr c2)]
      go_enter Tryz.func123, Tryz.ntmps123
      go_wp2_with fail
      refine (HH5.out _).mono ?_
      rintro e w1 ⟨rfl, d1⟩
      go_wp2_with fail
      go_quiet ((go_at_call 165; first | (go_at_call_of 165 (z.extract 1 3); exact Calls.quiet_of_same (HA.out _)) | (go_at_call_of 165 (z.extract 4 6); exact Calls.quiet_of_same (HB5.out _))))
      go_wp2
      go_ret2
      exact ⟨rfl, drawn_more d1 _⟩
    have c2' : decide (59 < B) = false := decide_eq_false c2
    rw [if_neg (by omega)]
    by_cases c3 : z[0]'h00 = 43
    · rw [if_pos c3]
      have d3 : (((z[0]'h00).toNat : Int) == 43) = true := beq_iff_eq.2 (by rw [c3]; rfl)
      clear c3
      go_enter Tryz.func123, Tryz.ntmps123
      go_wp2_with fail
      refine (HH5.out _).mono ?_
      rintro e w1 ⟨rfl, d1⟩
      go_wp2_with fail
      go_quiet ((go_at_call 165; first | (go_at_call_of 165 (z.extract 1 3); exact Calls.quiet_of_same (HA.out _)) | (go_at_call_of 165 (z.extract 4 6); exact Calls.quiet_of_same (HB5.out _))))
      go_wp2
      go_ret2
      exact ⟨rfl, drawn_more d1 _⟩
    have d3 : (((z[0]'h00).toNat : Int) == 43) = false := beq_eq_false_iff_ne.2 (fun e => c3 ((nat_of_beq (by decide)).2 e))
    rw [if_neg c3]
    by_cases c4 : z[0]'h00 = 45
    · rw [if_pos c4]
      have d4 : (((z[0]'h00).toNat : Int) == 45) = true := beq_iff_eq.2 (by rw [c4]; rfl)
      clear c4
      go_enter Tryz.func123, Tryz.ntmps123
      go_wp2_with fail
      refine (HH5.out _).mono ?_
      rintro e w1 ⟨rfl, d1⟩
      go_wp2_with fail
      go_quiet ((go_at_call 165; first | (go_at_call_of 165 (z.extract 1 3); exact Calls.quiet_of_same (HA.out _)) | (go_at_call_of 165 (z.extract 4 6); exact Calls.quiet_of_same (HB5.out _))))
      go_wp2
      go_ret2
      exact ⟨rfl, drawn_more d1 _⟩
    have d4 : (((z[0]'h00).toNat : Int) == 45) = false := beq_eq_false_iff_ne.2 (fun e => c4 ((nat_of_beq (by decide)).2 e))
    rw [if_neg c4]
    go_enter Tryz.func123, Tryz.ntmps123
    go_wp2_with fail
    refine (HH5.out _).mono ?_
    rintro e w1 ⟨rfl, d1⟩
    go_wp2_with fail
    go_quiet ((go_at_call 165; first | (go_at_call_of 165 (z.extract 1 3); exact Calls.quiet_of_same (HA.out _)) | (go_at_call_of 165 (z.extract 4 6); exact Calls.quiet_of_same (HB5.out _))))
    go_wp2
    go_ret2
    exact ⟨rfl, drawn_more d1 _⟩
  · have hzs' : (z.size : Int) = 5 := by omega
    have HB5 : Hid (∀ w, Calls Tryz.prog 165 #[.string (z.extract 3 5)] w fun e w' => e = .returned (.int .i64 B) ∧ w' = w) := by
      have q := HB.out
      rw [hzs] at q
      exact q
    have HH5 : Hid (∀ w, Calls Tryz.prog 164 #[.string (z.extract 1 5), .string f] w fun e w' => e = .returned (.bool true) ∧ Drawn w w') := by
      have q := HH.out
      rw [hzs] at q
      exact q
    clear HB HH
    by_cases c1 : 23 < A
    · rw [if_pos (.inl c1)]
      go_enter Tryz.func123, Tryz.ntmps123
      go_wp2_with fail
      refine (HH5.out _).mono ?_
      rintro e w1 ⟨rfl, d1⟩
      go_wp2_with fail
      go_quiet ((go_at_call 165; first | (go_at_call_of 165 (z.extract 1 3); exact Calls.quiet_of_same (HA.out _)) | (go_at_call_of 165 (z.extract 3 5); exact Calls.quiet_of_same (HB5.out _))))
      go_wp2
      go_ret2
      exact ⟨rfl, drawn_more d1 _⟩
    have c1' : decide (23 < A) = false := decide_eq_false c1
    by_cases c2 : 59 < B
    · rw [if_pos (.inr c2)]
      go_enter Tryz.func123, Tryz.ntmps123
      go_wp2_with fail
      refine (HH5.out _).mono ?_
      rintro e w1 ⟨rfl, d1⟩
      go_wp2_with fail
      go_quiet ((go_at_call 165; first | (go_at_call_of 165 (z.extract 1 3); exact Calls.quiet_of_same (HA.out _)) | (go_at_call_of 165 (z.extract 3 5); exact Calls.quiet_of_same (HB5.out _))))
      go_wp2
      go_ret2
      exact ⟨rfl, drawn_more d1 _⟩
    have c2' : decide (59 < B) = false := decide_eq_false c2
    rw [if_neg (by omega)]
    by_cases c3 : z[0]'h00 = 43
    · rw [if_pos c3]
      have d3 : (((z[0]'h00).toNat : Int) == 43) = true := beq_iff_eq.2 (by rw [c3]; rfl)
      clear c3
      go_enter Tryz.func123, Tryz.ntmps123
      go_wp2_with fail
      refine (HH5.out _).mono ?_
      rintro e w1 ⟨rfl, d1⟩
      go_wp2_with fail
      go_quiet ((go_at_call 165; first | (go_at_call_of 165 (z.extract 1 3); exact Calls.quiet_of_same (HA.out _)) | (go_at_call_of 165 (z.extract 3 5); exact Calls.quiet_of_same (HB5.out _))))
      go_wp2
      go_ret2
      exact ⟨rfl, drawn_more d1 _⟩
    have d3 : (((z[0]'h00).toNat : Int) == 43) = false := beq_eq_false_iff_ne.2 (fun e => c3 ((nat_of_beq (by decide)).2 e))
    rw [if_neg c3]
    by_cases c4 : z[0]'h00 = 45
    · rw [if_pos c4]
      have d4 : (((z[0]'h00).toNat : Int) == 45) = true := beq_iff_eq.2 (by rw [c4]; rfl)
      clear c4
      go_enter Tryz.func123, Tryz.ntmps123
      go_wp2_with fail
      refine (HH5.out _).mono ?_
      rintro e w1 ⟨rfl, d1⟩
      go_wp2_with fail
      go_quiet ((go_at_call 165; first | (go_at_call_of 165 (z.extract 1 3); exact Calls.quiet_of_same (HA.out _)) | (go_at_call_of 165 (z.extract 3 5); exact Calls.quiet_of_same (HB5.out _))))
      go_wp2
      go_ret2
      exact ⟨rfl, drawn_more d1 _⟩
    have d4 : (((z[0]'h00).toNat : Int) == 45) = false := beq_eq_false_iff_ne.2 (fun e => c4 ((nat_of_beq (by decide)).2 e))
    rw [if_neg c4]
    go_enter Tryz.func123, Tryz.ntmps123
    go_wp2_with fail
    refine (HH5.out _).mono ?_
    rintro e w1 ⟨rfl, d1⟩
    go_wp2_with fail
    go_quiet ((go_at_call 165; first | (go_at_call_of 165 (z.extract 1 3); exact Calls.quiet_of_same (HA.out _)) | (go_at_call_of 165 (z.extract 3 5); exact Calls.quiet_of_same (HB5.out _))))
    go_wp2
    go_ret2
    exact ⟨rfl, drawn_more d1 _⟩
end Go.Proofs.YtadfdfmebdcfgaaGreatDoor.rd
