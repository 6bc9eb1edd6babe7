/-
  Contracts of the functions that read a few digits, and that hold a text against a form.
  Contracts of the function that holds a text against a form, and of those that read a zone.
  Contracts of the functions that read a zone, and that end a reading.
  Contracts of the functions that end a reading, and of the one that passes parts of seconds by.
  Contracts of the specification's zone, and of the program's function that sets a clock.
-/
import Derived.Test.YtadfdfmebdcfgaaGreatDoorPkay
import Derived.Test.YtadfdfmebdcfgaaGreatDoorPkad
import Derived.Test.YtadfdfmebdcfgaaGreatDoorRows
import Derived.Below
import Derived.WalkLawsBesides
import Derived.Deep.QuietTactic
import Derived.BigQuiet
import Derived.BigRegion
import Derived.Test.YtadfdfmebdcfgaaGreatDoorPkaq
import Derived.Test.YtadfdfmebdcfgaaGreatDoorPkat
import Derived.Lib.Strings
import Derived.Lib.Split
import Derived.Deep.RegionWith
import Derived.Test.YtadfdfmebdcfgaaGreatDoorPkab
import Derived.Shelf.Strings.SlTrimAscii

namespace Go.Proofs.YtadfdfmebdcfgaaGreatDoor.rd
open Go.RowKit
set_option linter.unusedVariables false

theorem len_eq (s : ByteArray) : s.data.toList.length = s.size := rfl
theorem at_eq (s : ByteArray) (k : Nat) (h : k < s.size) : s.data.toList[k]'h = s[k]'h := rfl
theorem getD_eq (s : ByteArray) (k : Nat) (h : k < s.size) : s.data.toList.getD k 0 = s[k]'h := by
  rw [List.getD_eq_getElem?_getD, List.getElem?_eq_getElem (show k < s.data.toList.length from h)]
  rfl

set_option maxHeartbeats 400000 in
theorem isD_any (b : UInt8) (w : World) : Calls Tryz.prog 45 #[.int .u8 (b.toNat : Int)] w fun e w' => e = .returned (.bool (isD b)) ∧ w' = w := by
  by_cases h : 48 ≤ (b.toNat : Int)
  · go_enter Tryz.func45, Tryz.ntmps45
    go_wp2
    all_goals (go_ret; exact ⟨by simp [isD, h], rfl⟩)
  · have h' : decide (48 ≤ (b.toNat : Int)) = false := decide_eq_false h
    go_enter Tryz.func45, Tryz.ntmps45
    go_wp2
    all_goals (go_ret; exact ⟨by rw [show isD b = false from decide_eq_false (by omega)]; rfl, rfl⟩)

set_option maxHeartbeats 1000000 in
theorem num_any (s : ByteArray) (hs : s.size ≤ 4) (hd : dgs s.data.toList = true) (w : World) :
    Calls Tryz.prog 165 #[.string s] w fun e w' => e = .returned (.int .i64 (num s.data.toList)) ∧ w' = w := by
  have HD : Hid (dgs s.data.toList = true) := hd
  clear hd
  go_enter Tryz.func165, Tryz.ntmps165
  go_wp2
  go_loop [3, 4, 7] (fun n _ c => ∃ k : Nat, k ≤ s.size ∧ c = .int .i64 k ∧ n = .int .i64 (num (s.data.toList.take k))) (fun _ _ c => s.size - (intOf c).toNat)
  case atStart => exact ⟨0, Nat.zero_le _, rfl, rfl⟩
  case round =>
    obtain ⟨k, hk, rfl, rfl⟩ := hrel
    have dk : dgs (s.data.toList.take k) = true := dgs_iff.2 fun b hb => dgs_iff.1 HD.out b (List.mem_of_mem_take hb)
    have n0 := num_lo dk
    have n1 := num_hi dk (by rw [List.length_take]; omega)
    clear dk
    by_cases hlt : k < s.size
    · have hb := isD_iff.1 (dgs_iff.1 HD.out (s[k]'hlt) (by rw [← at_eq s k hlt]; exact List.getElem_mem hlt))
      have hn : num (s.data.toList.take (k + 1)) = 10 * num (s.data.toList.take k) + (((s[k]'hlt).toNat : Int) - 48) := by rw [take_more hlt, num_snoc, at_eq s k hlt]
      have HN : Hid (num (s.data.toList.take (k + 1)) = 10 * num (s.data.toList.take k) + (((s[k]'hlt).toNat : Int) - 48)) := hn
      clear hn
      obtain ⟨hb1, hb2⟩ := hb
      generalize num (s.data.toList.take k) = N at n0 n1 HN ⊢
      go_wp2
      go_round
      case rel => exact ⟨k + 1, by omega, by go_num, by rw [HN.out]⟩
      case measure => simp [intOf]; omega
    · have e : s.data.toList.take k = s.data.toList := List.take_of_length_le (by rw [len_eq]; omega)
      rw [e]
      go_wp2
      go_ret
      exact ⟨rfl, rfl⟩

end Go.Proofs.YtadfdfmebdcfgaaGreatDoor.rd

namespace Go.Proofs.YtadfdfmebdcfgaaGreatDoor.rd
open Go.RowKit
set_option linter.unusedVariables false

theorem ok1_eq {s f : ByteArray} {k : Nat} (h1 : k < s.size) (h2 : k < f.size) : ok1 s.data.toList f.data.toList k = if (f[k]'h2) = 48 then isD (s[k]'h1) else (s[k]'h1) == (f[k]'h2) := by
  unfold ok1
  rw [getD_eq s k h1, getD_eq f k h2]
theorem u8_nat {a b : UInt8} : a = b ↔ (a.toNat : Int) = (b.toNat : Int) := by
  constructor
  · intro h; rw [h]
  · intro h; exact UInt8.toNat_inj.1 (by omega)

/-- A world behind some draws. -/
def Drawn (w w' : World) : Prop := ∃ m, w' = w.drewN m
theorem drawn_more {w w' : World} (h : Drawn w w') (n : Nat) : Drawn w (w'.drewN n) := by
  obtain ⟨m, rfl⟩ := h
  exact ⟨_, World.drewN_drewN _ _ _⟩
theorem drawn_below {w w' : World} (h : Drawn w w') : Below w.heap.size w w' := by
  obtain ⟨m, rfl⟩ := h
  exact ⟨rfl, rfl, rfl, Nat.le_refl _, fun _ _ => rfl⟩
set_option maxHeartbeats 2000000 in
set_option maxRecDepth 100000 in
theorem hf_any (s f : ByteArray) (hs : s.size ≤ 1048576) (w : World) :
    Calls Tryz.prog 164 #[.string s, .string f] w fun e w' => e = .returned (.bool (hf s.data.toList f.data.toList)) ∧ Drawn w w' := by
  by_cases hl : s.size = f.size
  rotate_left
  · have hl' : ((s.size : Int) == (f.size : Int)) = false := beq_eq_false_iff_ne.2 (by omega)
    rw [hf_no (by rw [len_eq, len_eq]; exact hl)]
    clear hl
    go_enter Tryz.func164, Tryz.ntmps164
    go_wp2
    go_ret
    exact ⟨rfl, ⟨0, rfl⟩⟩
  have hl' : ((s.size : Int) == (f.size : Int)) = true := beq_iff_eq.2 (by omega)
  have HL : Hid (s.size = f.size) := hl
  go_enter Tryz.func164, Tryz.ntmps164
  go_wp2
  go_loopw [5, 13] (fun _ c wr => ∃ k : Nat, k ≤ s.size ∧ c = .int .i64 k ∧ Drawn w wr ∧ ∀ j, j < k → ok1 s.data.toList f.data.toList j = true) (fun _ c _ => s.size - (intOf c).toNat)
  case atStart => exact ⟨0, Nat.zero_le _, rfl, ⟨0, rfl⟩, fun j hj => absurd hj (Nat.not_lt_zero _)⟩
  case round =>
    obtain ⟨k, hk, rfl, hdr, hg⟩ := hrel
    have DR : Hid (Drawn w wr) := hdr
    clear hdr
    have HG : Hid (∀ j, j < k → ok1 s.data.toList f.data.toList j = true) := hg
    clear hg hl
    by_cases hlt : k < s.size
    · have hlf : k < f.size := by have := HL.out; omega
      have hlt' : (k : Int) < (s.size : Int) := by omega
      have hlf' : (k : Int) < (f.size : Int) := by omega
      have h1 := ok1_eq hlt hlf
      have step : ok1 s.data.toList f.data.toList k = true → ∀ j, j < k + 1 → ok1 s.data.toList f.data.toList j = true := fun h j hj => by
        by_cases e : j = k
        · subst e; exact h
        · exact HG.out j (by omega)
      have STEP : Hid (ok1 s.data.toList f.data.toList k = true → ∀ j, j < k + 1 → ok1 s.data.toList f.data.toList j = true) := step
      clear step
      by_cases c1 : (f[k]'hlf) = 48
      · have d1 : (((f[k]'hlf).toNat : Int) == 48) = true := beq_iff_eq.2 (by rw [c1]; rfl)
        have d1' : (((f[k]'hlf).toNat : Int) != 48) = false := by rw [bne, d1]; rfl
        rw [if_pos c1] at h1
        cases c2 : isD (s[k]'hlt)
        · have HB : Hid (hf s.data.toList f.data.toList = false) := hf_bad (k := k) hlt (by rw [h1]; exact c2)
          clear h1 c1
          go_wp2_with fail
          go_quiet ((go_at_call 45; exact Calls.quiet_of_same (isD_any _ _)))
          go_wp2
          go_ret
          exact ⟨by rw [HB.out]; rfl, drawn_more DR.out _⟩
        · have HK : Hid (ok1 s.data.toList f.data.toList k = true) := (show ok1 s.data.toList f.data.toList k = true from by rw [h1]; exact c2)
          clear h1 c1
          go_wp2_with fail
          go_quiet ((go_at_call 45; exact Calls.quiet_of_same (isD_any _ _)))
          go_wp2
          go_roundw
          case rel => exact ⟨k + 1, by omega, by go_num, drawn_more DR.out _, STEP.out HK.out⟩
          case measure => simp [intOf]; omega
      · have d1 : (((f[k]'hlf).toNat : Int) == 48) = false := beq_eq_false_iff_ne.2 (fun h => c1 (u8_nat.2 (by rw [h]; rfl)))
        have d1' : (((f[k]'hlf).toNat : Int) != 48) = true := by rw [bne, d1]; rfl
        rw [if_neg c1] at h1
        by_cases c2 : (s[k]'hlt) = (f[k]'hlf)
        · have d2 : (((s[k]'hlt).toNat : Int) == ((f[k]'hlf).toNat : Int)) = true := beq_iff_eq.2 (by rw [c2])
          have d2' : (((s[k]'hlt).toNat : Int) != ((f[k]'hlf).toNat : Int)) = false := by rw [bne, d2]; rfl
          have HK : Hid (ok1 s.data.toList f.data.toList k = true) := (show ok1 s.data.toList f.data.toList k = true from by rw [h1, c2]; simp)
          clear h1 c1 c2
          go_wp2_with fail
          go_quiet (fail)
          go_wp2
          go_roundw
          case rel => exact ⟨k + 1, by omega, by go_num, drawn_more DR.out _, STEP.out HK.out⟩
          case measure => simp [intOf]; omega
        · have d2 : (((s[k]'hlt).toNat : Int) == ((f[k]'hlf).toNat : Int)) = false := beq_eq_false_iff_ne.2 (fun h => c2 (u8_nat.2 h))
          have d2' : (((s[k]'hlt).toNat : Int) != ((f[k]'hlf).toNat : Int)) = true := by rw [bne, d2]; rfl
          have HB : Hid (hf s.data.toList f.data.toList = false) := hf_bad (k := k) hlt (by rw [h1]; simpa using c2)
          clear h1 c1 c2
          go_wp2_with fail
          go_quiet (fail)
          go_wp2
          go_ret
          exact ⟨by rw [HB.out]; rfl, drawn_more DR.out _⟩
    · have HB : Hid (hf s.data.toList f.data.toList = true) := hf_iff.2 ⟨HL.out, fun j hj => HG.out j (by have hj' : j < s.size := hj; omega)⟩
      have hge : (f.size : Int) ≤ (k : Int) := by have := HL.out; omega
      have hge' : (s.size : Int) ≤ (k : Int) := by omega
      go_wp2
      go_ret
      exact ⟨by rw [HB.out]; rfl, DR.out⟩
end Go.Proofs.YtadfdfmebdcfgaaGreatDoor.rd

namespace Go.Proofs.YtadfdfmebdcfgaaGreatDoor.rd
open Go.RowKit
open dt
set_option linter.unusedVariables false

theorem ext_list (s : ByteArray) (i j : Nat) : (s.extract i j).data.toList = (s.data.toList.drop i).take (j - i) := by
  rw [← Lib.toList_data (s.extract i j), Lib.extract_toList]
theorem ext_size (s : ByteArray) (i j : Nat) : (s.extract i j).size = min j s.size - i := by
  rw [← len_eq, ext_list, List.length_take, List.length_drop, len_eq]; omega
/-- A zone's answer. -/
def zr : Option Int → Value
  | none => .tuple #[.int .i64 0, .bool false]
  | some a => .tuple #[.int .i64 a, .bool true]
theorem zi_no {f z : List UInt8} (h : z = [] ∨ hf (z.drop 1) f = false) : zi f z = none := by
  unfold zi
  rw [if_neg]
  rintro ⟨h1, h2⟩
  rcases h with h | h
  · exact h1 h
  · rw [h] at h2; cases h2
theorem zi_yes {f z : List UInt8} (h1 : z ≠ []) (h2 : hf (z.drop 1) f = true) : zi f z =
    (if 23 < num ((z.drop 1).take 2) ∨ 59 < num (z.drop (z.length - 2)) then none
     else if z.getD 0 0 = 43 then some (num ((z.drop 1).take 2) * 3600 + num (z.drop (z.length - 2)) * 60)
     else if z.getD 0 0 = 45 then some (-(num ((z.drop 1).take 2) * 3600 + num (z.drop (z.length - 2)) * 60)) else none) := by
  unfold zi
  rw [if_pos ⟨h1, h2⟩]
/-- What a zone of either form has. -/
theorem form_parts {f z : List UInt8} (hF : f = F5 ∨ f = F4) (h1 : z ≠ []) (h : hf (z.drop 1) f = true) : 5 ≤ z.length ∧ z.length ≤ 6 ∧ dgs ((z.drop 1).take 2) = true ∧ dgs (z.drop (z.length - 2)) = true := by
  have hl := hf_len h
  have h0 : z.length ≠ 0 := fun e => h1 (List.eq_nil_of_length_eq_zero e)
  rcases hF with rfl | rfl
  · rw [List.length_drop] at hl
    have hl6 : z.length = 6 := by simp [F5] at hl; omega
    match z, hl6 with
    | [g, a, b, c, d, e], _ =>
      simp [hf, F5] at h
      obtain ⟨i1, i2, i3, i4, i5⟩ := h
      exact ⟨by simp, by simp, by simp [dgs, i1, i2], by simp [dgs, i4, i5]⟩
  · rw [List.length_drop] at hl
    have hl5 : z.length = 5 := by simp [F4] at hl; omega
    match z, hl5 with
    | [g, a, b, d, e], _ =>
      simp [hf, F4] at h
      obtain ⟨i1, i2, i4, i5⟩ := h
      exact ⟨by simp, by simp, by simp [dgs, i1, i2], by simp [dgs, i4, i5]⟩
theorem nat_of_beq {b : UInt8} {n : Nat} (hn : n < 256) : b = UInt8.ofNat n ↔ (b.toNat : Int) = (n : Int) := by
  constructor
  · intro h; rw [h, UInt8.toNat_ofNat_of_lt' (show n < 2 ^ 8 from hn)]
  · intro h; exact UInt8.toNat_inj.1 (by rw [UInt8.toNat_ofNat_of_lt' (show n < 2 ^ 8 from hn)]; omega)

set_option maxHeartbeats 4000000 in
set_option maxRecDepth 100000 in
theorem sec_any (z f : ByteArray) (hz : z.size ≤ 65536) (hF : f.data.toList = F5 ∨ f.data.toList = F4) (w : World) :
    Calls Tryz.prog 123 #[.string z, .string f] w fun e w' => e = .returned (zr (zi f.data.toList z.data.toList)) ∧ Drawn w w' := by
  by_cases h0 : z.data.toList = []
  · rw [zi_no (.inl h0)]
    have e1 : z.toList.isEmpty = true := by rw [Lib.toList_data, h0]; rfl
    clear h0 hF
    go_enter Tryz.func123, Tryz.ntmps123
    go_wp2
    go_ret2
    exact ⟨rfl, 0, rfl⟩
  have e1 : z.toList.isEmpty = false := by rw [Lib.toList_data]; simpa using h0
  have zs : 1 ≤ z.size := by
    rcases Nat.eq_zero_or_pos z.size with q | q
    · exact absurd (List.eq_nil_of_length_eq_zero (by rw [len_eq]; exact q)) h0
    · exact q
  have zs' : (1 : Int) ≤ (z.size : Int) := by omega
  have ed : (z.extract 1 z.size).data.toList = z.data.toList.drop 1 := by rw [ext_list, List.take_of_length_le (by simp)]
  have HH : Hid (∀ w, Calls Tryz.prog 164 #[.string (z.extract 1 z.size), .string f] w fun e w' => e = .returned (.bool (hf (z.data.toList.drop 1) f.data.toList)) ∧ Drawn w w') := fun w => by
    have := hf_any (z.extract 1 z.size) f (by rw [ext_size]; omega) w
    rw [ed] at this
    exact this
  cases hh : hf (z.data.toList.drop 1) f.data.toList
  · rw [zi_no (.inr hh)]
    rw [hh] at HH
    clear h0 hF hh ed
    go_enter Tryz.func123, Tryz.ntmps123
    go_wp2_with fail
    refine (HH.out _).mono ?_
    rintro e w1 ⟨rfl, d1⟩
    go_wp2
    go_ret2
    exact ⟨rfl, d1⟩
  rw [hh] at HH
  obtain ⟨l1, l2, g1, g2⟩ := form_parts hF h0 hh
  rw [zi_yes h0 hh]
  have ex1 : (z.extract 1 3).data.toList = (z.data.toList.drop 1).take 2 := by rw [ext_list]
  have ex2 : (z.extract (z.size - 2) z.size).data.toList = z.data.toList.drop (z.data.toList.length - 2) := by rw [ext_list, len_eq, List.take_of_length_le (by simp)]
  have a0 := num_lo g1
  have a1 := num_hi g1 (by simp; omega)
  have b0 := num_lo g2
  have b1 := num_hi g2 (by simp; omega)
  have HA : Hid (∀ w, Calls Tryz.prog 165 #[.string (z.extract 1 3)] w fun e w' => e = .returned (.int .i64 (num ((z.data.toList.drop 1).take 2))) ∧ w' = w) := fun w => by
    have := num_any (z.extract 1 3) (by rw [ext_size]; omega) (by rw [ex1]; exact g1) w
    rw [ex1] at this
    exact this
  have HB : Hid (∀ w, Calls Tryz.prog 165 #[.string (z.extract (z.size - 2) z.size)] w fun e w' => e = .returned (.int .i64 (num (z.data.toList.drop (z.data.toList.length - 2)))) ∧ w' = w) := fun w => by
    have := num_any (z.extract (z.size - 2) z.size) (by rw [ext_size]; omega) (by rw [ex2]; exact g2) w
    rw [ex2] at this
    exact this
  have h00 : 0 < z.size := zs
  have hg0 : z.data.toList.getD 0 0 = z[0]'h00 := getD_eq z 0 h00
  rw [hg0]
  rw [len_eq] at l1 l2
  generalize num ((z.data.toList.drop 1).take 2) = A at a0 a1 HA ⊢
  generalize num (z.data.toList.drop (z.data.toList.length - 2)) = B at b0 b1 HB ⊢
  clear g1 g2 ex1 ex2 hg0 h0 hF hh ed
  have h56 : z.size = 6 ∨ z.size = 5 := by omega
  clear zs' zs l1 l2
  rcases h56 with hzs | hzs
  · have hzs' : (z.size : Int) = 6 := by omega
    have HB5 : Hid (∀ w, Calls Tryz.prog 165 #[.string (z.extract 4 6)] w fun e w' => e = .returned (.int .i64 B) ∧ w' = w) := by
      have q := HB.out
      rw [hzs] at q
      exact q
    have HH5 : Hid (∀ w, Calls Tryz.prog 164 #[.string (z.extract 1 6), .string f] w fun e w' => e = .returned (.bool true) ∧ Drawn w w') := by
      have q := HH.out
      rw [hzs] at q
      exact q
    clear HB HH
    by_cases c1 : 23 < A
    · rw [if_pos (.inl c1)]
      go_enter Tryz.func123, Tryz.ntmps123
      go_wp2_with fail
      refine (HH5.out _).mono ?_
      rintro e w1 ⟨rfl, d1⟩
      go_wp2_with fail
      go_quiet ((go_at_call 165; first | (go_at_call_of 165 (z.extract 1 3); exact Calls.quiet_of_same (HA.out _)) | (go_at_call_of 165 (z.extract 4 6); exact Calls.quiet_of_same (HB5.out _))))
      go_wp2
      go_ret2
      exact ⟨rfl, drawn_more d1 _⟩
    have c1' : decide (23 < A) = false := decide_eq_false c1
    by_cases c2 : 59 < B
    · rw [if_pos (.inr c2)]
      go_enter Tryz.func123, Tryz.ntmps123
      go_wp2_with fail
      refine (HH5.out _).mono ?_
      rintro e w1 ⟨rfl, d1⟩
      go_wp2_with fail
      go_quiet ((go_at_call 165; first | (go_at_call_of 165 (z.extract 1 3); exact Calls.quiet_of_same (HA.out _)) | (go_at_call_of 165 (z.extract 4 6); exact Calls.quiet_of_same (HB5.out _))))
      go_wp2
      go_ret2
      exact ⟨rfl, drawn_more d1 _⟩
    have c2' : decide (59 < B) = false := decide_eq_false c2
    rw [if_neg (by omega)]
    by_cases c3 : z[0]'h00 = 43
    · rw [if_pos c3]
      have d3 : (((z[0]'h00).toNat : Int) == 43) = true := beq_iff_eq.2 (by rw [c3]; rfl)
      clear c3
      go_enter Tryz.func123, Tryz.ntmps123
      go_wp2_with fail
      refine (HH5.out _).mono ?_
      rintro e w1 ⟨rfl, d1⟩
      go_wp2_with fail
      go_quiet ((go_at_call 165; first | (go_at_call_of 165 (z.extract 1 3); exact Calls.quiet_of_same (HA.out _)) | (go_at_call_of 165 (z.extract 4 6); exact Calls.quiet_of_same (HB5.out _))))
      go_wp2
      go_ret2
      exact ⟨rfl, drawn_more d1 _⟩
    have d3 : (((z[0]'h00).toNat : Int) == 43) = false := beq_eq_false_iff_ne.2 (fun e => c3 ((nat_of_beq (by decide)).2 e))
    rw [if_neg c3]
    by_cases c4 : z[0]'h00 = 45
    · rw [if_pos c4]
      have d4 : (((z[0]'h00).toNat : Int) == 45) = true := beq_iff_eq.2 (by rw [c4]; rfl)
      clear c4
      go_enter Tryz.func123, Tryz.ntmps123
      go_wp2_with fail
      refine (HH5.out _).mono ?_
      rintro e w1 ⟨rfl, d1⟩
      go_wp2_with fail
      go_quiet ((go_at_call 165; first | (go_at_call_of 165 (z.extract 1 3); exact Calls.quiet_of_same (HA.out _)) | (go_at_call_of 165 (z.extract 4 6); exact Calls.quiet_of_same (HB5.out _))))
      go_wp2
      go_ret2
      exact ⟨rfl, drawn_more d1 _⟩
    have d4 : (((z[0]'h00).toNat : Int) == 45) = false := beq_eq_false_iff_ne.2 (fun e => c4 ((nat_of_beq (by decide)).2 e))
    rw [if_neg c4]
    go_enter Tryz.func123, Tryz.ntmps123
    go_wp2_with fail
    refine (HH5.out _).mono ?_
    rintro e w1 ⟨rfl, d1⟩
    go_wp2_with fail
    go_quiet ((go_at_call 165; first | (go_at_call_of 165 (z.extract 1 3); exact Calls.quiet_of_same (HA.out _)) | (go_at_call_of 165 (z.extract 4 6); exact Calls.quiet_of_same (HB5.out _))))
    go_wp2
    go_ret2
    exact ⟨rfl, drawn_more d1 _⟩
  · have hzs' : (z.size : Int) = 5 := by omega
    have HB5 : Hid (∀ w, Calls Tryz.prog 165 #[.string (z.extract 3 5)] w fun e w' => e = .returned (.int .i64 B) ∧ w' = w) := by
      have q := HB.out
      rw [hzs] at q
      exact q
    have HH5 : Hid (∀ w, Calls Tryz.prog 164 #[.string (z.extract 1 5), .string f] w fun e w' => e = .returned (.bool true) ∧ Drawn w w') := by
      have q := HH.out
      rw [hzs] at q
      exact q
    clear HB HH
    by_cases c1 : 23 < A
    · rw [if_pos (.inl c1)]
      go_enter Tryz.func123, Tryz.ntmps123
      go_wp2_with fail
      refine (HH5.out _).mono ?_
      rintro e w1 ⟨rfl, d1⟩
      go_wp2_with fail
      go_quiet ((go_at_call 165; first | (go_at_call_of 165 (z.extract 1 3); exact Calls.quiet_of_same (HA.out _)) | (go_at_call_of 165 (z.extract 3 5); exact Calls.quiet_of_same (HB5.out _))))
      go_wp2
      go_ret2
      exact ⟨rfl, drawn_more d1 _⟩
    have c1' : decide (23 < A) = false := decide_eq_false c1
    by_cases c2 : 59 < B
    · rw [if_pos (.inr c2)]
      go_enter Tryz.func123, Tryz.ntmps123
      go_wp2_with fail
      refine (HH5.out _).mono ?_
      rintro e w1 ⟨rfl, d1⟩
      go_wp2_with fail
      go_quiet ((go_at_call 165; first | (go_at_call_of 165 (z.extract 1 3); exact Calls.quiet_of_same (HA.out _)) | (go_at_call_of 165 (z.extract 3 5); exact Calls.quiet_of_same (HB5.out _))))
      go_wp2
      go_ret2
      exact ⟨rfl, drawn_more d1 _⟩
    have c2' : decide (59 < B) = false := decide_eq_false c2
    rw [if_neg (by omega)]
    by_cases c3 : z[0]'h00 = 43
    · rw [if_pos c3]
      have d3 : (((z[0]'h00).toNat : Int) == 43) = true := beq_iff_eq.2 (by rw [c3]; rfl)
      clear c3
      go_enter Tryz.func123, Tryz.ntmps123
      go_wp2_with fail
      refine (HH5.out _).mono ?_
      rintro e w1 ⟨rfl, d1⟩
      go_wp2_with fail
      go_quiet ((go_at_call 165; first | (go_at_call_of 165 (z.extract 1 3); exact Calls.quiet_of_same (HA.out _)) | (go_at_call_of 165 (z.extract 3 5); exact Calls.quiet_of_same (HB5.out _))))
      go_wp2
      go_ret2
      exact ⟨rfl, drawn_more d1 _⟩
    have d3 : (((z[0]'h00).toNat : Int) == 43) = false := beq_eq_false_iff_ne.2 (fun e => c3 ((nat_of_beq (by decide)).2 e))
    rw [if_neg c3]
    by_cases c4 : z[0]'h00 = 45
    · rw [if_pos c4]
      have d4 : (((z[0]'h00).toNat : Int) == 45) = true := beq_iff_eq.2 (by rw [c4]; rfl)
      clear c4
      go_enter Tryz.func123, Tryz.ntmps123
      go_wp2_with fail
      refine (HH5.out _).mono ?_
      rintro e w1 ⟨rfl, d1⟩
      go_wp2_with fail
      go_quiet ((go_at_call 165; first | (go_at_call_of 165 (z.extract 1 3); exact Calls.quiet_of_same (HA.out _)) | (go_at_call_of 165 (z.extract 3 5); exact Calls.quiet_of_same (HB5.out _))))
      go_wp2
      go_ret2
      exact ⟨rfl, drawn_more d1 _⟩
    have d4 : (((z[0]'h00).toNat : Int) == 45) = false := beq_eq_false_iff_ne.2 (fun e => c4 ((nat_of_beq (by decide)).2 e))
    rw [if_neg c4]
    go_enter Tryz.func123, Tryz.ntmps123
    go_wp2_with fail
    refine (HH5.out _).mono ?_
    rintro e w1 ⟨rfl, d1⟩
    go_wp2_with fail
    go_quiet ((go_at_call 165; first | (go_at_call_of 165 (z.extract 1 3); exact Calls.quiet_of_same (HA.out _)) | (go_at_call_of 165 (z.extract 3 5); exact Calls.quiet_of_same (HB5.out _))))
    go_wp2
    go_ret2
    exact ⟨rfl, drawn_more d1 _⟩
end Go.Proofs.YtadfdfmebdcfgaaGreatDoor.rd

namespace Go.Proofs.YtadfdfmebdcfgaaGreatDoor.rd
open Go.RowKit
open dt
set_option linter.unusedVariables false

set_option maxHeartbeats 1000000 in
set_option maxRecDepth 100000 in
theorem in_stamp (y m d h i s a : Int) (k : Ok y m d h i s) (a0 : -90000 ≤ a) (a1 : a ≤ 90000) (w : World) :
    Calls Tryz.prog 124 #[C6 y m d h i s, .int .i64 a] w fun e w' => e = .returned (fin y m d h i s a) ∧ Below w.heap.size w w' := by
  have sb := st_bounds k
  have K : Hid (Ok y m d h i s) := k
  have hst := fun w => dw.impl_st y m d h i s w
  unfold C6 at hst ⊢
  clear k
  cases b : dw.inB (st y m d h i s - a) 0 4102444799
  · rw [fin_out K.out b]
    go_enter Tryz.func124, Tryz.ntmps124
    go_wp2_with fail
    refine (hst _).mono ?_
    rintro e w1 ⟨b1, hw⟩
    rcases hw with ⟨_, rfl⟩ | ⟨no, _⟩
    rotate_left
    · exact absurd K.out no
    have b2 : Below w.heap.size w w1 := (dw.bel_box w _).trans (b1.mono (by simp))
    clear b1 hst
    generalize st y m d h i s = n at sb b ⊢
    go_wp2_with (go_at_call 35; refine (dw.stamp_any _ _).mono ?_; rintro e w' ⟨rfl, rfl⟩)
    go_ret2
    exact ⟨rfl, b2⟩
  · rw [fin_in K.out b]
    go_enter Tryz.func124, Tryz.ntmps124
    go_wp2_with fail
    refine (hst _).mono ?_
    rintro e w1 ⟨b1, hw⟩
    rcases hw with ⟨_, rfl⟩ | ⟨no, _⟩
    rotate_left
    · exact absurd K.out no
    have b2 : Below w.heap.size w w1 := (dw.bel_box w _).trans (b1.mono (by simp))
    clear b1 hst
    go_wp2_with (go_at_call 35; refine (dw.stamp_any _ _).mono ?_; rintro e w' ⟨rfl, rfl⟩)
    go_ret2
    exact ⟨rfl, b2⟩

/-- What stands behind a point and its digits. -/
def fi (r : List UInt8) : List UInt8 × Bool := if Lib.hasPrefix r [46] = true then ((r.drop 1).dropWhile isD, decide (((r.drop 1).dropWhile isD).length < (r.drop 1).length)) else (r, true)
def tens : List UInt8 := [48, 49, 50, 51, 52, 53, 54, 55, 56, 57]

end Go.Proofs.YtadfdfmebdcfgaaGreatDoor.rd

namespace Go.Proofs.YtadfdfmebdcfgaaGreatDoor.rd
open Go.RowKit
open dt
set_option linter.unusedVariables false

set_option maxHeartbeats 2000000 in
set_option maxRecDepth 100000 in
theorem clock_any (w : World) (b : Nat) (y m d h0 i0 s0 : Int) (c : ByteArray) (L : dw.Lies w b y m d h0 i0 s0) (hc : 8 ≤ c.size) (hc' : c.size ≤ 65536)
    (g1 : dgs (c.extract 0 2).data.toList = true) (g2 : dgs (c.extract 3 5).data.toList = true) (g3 : dgs (c.extract 6 8).data.toList = true) :
    Calls Tryz.prog 167 #[.pointer (some ⟨b, 0, none⟩), .string c] w fun e w' => e = .returned (.tuple #[]) ∧ dw.Lies w' b y m d (num (c.extract 0 2).data.toList) (num (c.extract 3 5).data.toList) (num (c.extract 6 8).data.toList) ∧ ∀ B, B ≤ b → Below B w w' := by
  have HL : Hid (dw.Lies w b y m d h0 i0 s0) := L
  have c3 := L.c3
  have c4 := L.c4
  have c5 := L.c5
  have f3 : w.frozen? ⟨b, 3, none⟩ = false := frozen_of_row _ _ _ _ _ L
  have f4 : w.frozen? ⟨b, 4, none⟩ = false := frozen_of_row _ _ _ _ _ L
  have f5 : w.frozen? ⟨b, 5, none⟩ = false := frozen_of_row _ _ _ _ _ L
  have H1 : Hid (∀ w, Calls Tryz.prog 165 #[.string (c.extract 0 2)] w fun e w' => e = .returned (.int .i64 (num (c.extract 0 2).data.toList)) ∧ w' = w) := fun w => num_any _ (by rw [ext_size]; omega) g1 w
  have H2 : Hid (∀ w, Calls Tryz.prog 165 #[.string (c.extract 3 5)] w fun e w' => e = .returned (.int .i64 (num (c.extract 3 5).data.toList)) ∧ w' = w) := fun w => num_any _ (by rw [ext_size]; omega) g2 w
  have H3 : Hid (∀ w, Calls Tryz.prog 165 #[.string (c.extract 6 8)] w fun e w' => e = .returned (.int .i64 (num (c.extract 6 8).data.toList)) ∧ w' = w) := fun w => num_any _ (by rw [ext_size]; omega) g3 w
  generalize num (c.extract 0 2).data.toList = A1 at H1 ⊢
  generalize num (c.extract 3 5).data.toList = A2 at H2 ⊢
  generalize num (c.extract 6 8).data.toList = A3 at H3 ⊢
  clear L g1 g2 g3
  have s8 : (8 : Int) ≤ (c.size : Int) := by omega
  have s2 : (2 : Int) ≤ (c.size : Int) := by omega
  have s5 : (5 : Int) ≤ (c.size : Int) := by omega
  go_enter Tryz.func167, Tryz.ntmps167
  go_wp2_with fail
  go_region_with (first | (go_at_call_of 165 (c.extract 0 2); refine (H1.out _).mono ?_; rintro e w' ⟨rfl, rfl⟩) | (go_at_call_of 165 (c.extract 3 5); refine (H2.out _).mono ?_; rintro e w' ⟨rfl, rfl⟩) | (go_at_call_of 165 (c.extract 6 8); refine (H3.out _).mono ?_; rintro e w' ⟨rfl, rfl⟩))
  all_goals go_wp2
  refine bodyPost_end (v := .tuple #[]) (by simp [results, Tryz.results167, go_sem]) rfl ⟨rfl, ?_, ?_⟩
  · exact heap_setCell_same _ b 5 _ _ _ (heap_setCell_same _ b 4 _ _ _ (heap_setCell_same _ b 3 _ _ _ HL.out))
  · intro B hB
    exact ((((Below.refl B w).setCell (p := ⟨b, 3, none⟩) hB _).setCell (p := ⟨b, 4, none⟩) hB _).setCell (p := ⟨b, 5, none⟩) hB _).drew
end Go.Proofs.YtadfdfmebdcfgaaGreatDoor.rd
