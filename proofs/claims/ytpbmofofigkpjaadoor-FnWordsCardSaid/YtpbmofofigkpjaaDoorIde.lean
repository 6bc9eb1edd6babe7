/-
  Contracts of the program's reading of base 64.
-/
import Derived.Test.YtpbmofofigkpjaaDoorSde
import Derived.Test.YtpbmofofigkpjaaDoorIen
namespace Go.Proofs.YtpbmofofigkpjaaDoor.b6
open Go.RowKit
set_option linter.unusedVariables false

theorem V_lo (c : UInt8) : -1 ≤ V c ∧ V c < 64 := by
  rcases V_cases c with h | ⟨h, h2, _⟩ <;> omega
theorem V_high (c : UInt8) (h : 128 ≤ c.toNat) : V c = -1 := by
  unfold V
  rw [List.getD_eq_getElem?_getD, List.getElem?_eq_none (show vals.length ≤ c.toNat from h)]
  rfl

set_option maxHeartbeats 1000000 in
set_option maxRecDepth 100000 in
theorem value_any (c : UInt8) (w : World) (h : tb.TV w) :
    Calls Tryd.prog 90 #[.int .u8 (c.toNat : Int)] w fun e w' => e = .returned (.int .i64 (V c)) ∧ w' = w := by
  have hc := c.toNat_lt
  by_cases hh : 128 ≤ c.toNat
  · rw [V_high c hh]
    have hd : decide ((128 : Int) ≤ (c.toNat : Int)) = true := decide_eq_true (by omega)
    clear h
    generalize c.toNat = n at hh hd hc ⊢
    have hc2 : (n : Int) ≤ 255 := by omega
    go_enter Tryd.func90, Tryd.ntmps90
    go_wp2
    go_ret
    exact ⟨rfl, rfl⟩
  · have hcell := tb.tv_cell h c (by omega)
    obtain ⟨v0, v1⟩ := V_lo c
    clear h
    generalize c.toNat = n at hh hcell hc ⊢
    have hd : decide ((128 : Int) ≤ (n : Int)) = false := decide_eq_false (by omega)
    have hn : (n : Int) < 128 := by omega
    have hc2 : (n : Int) ≤ 255 := by omega
    go_enter Tryd.func90, Tryd.ntmps90
    go_wp2
    go_ret
    exact ⟨rfl, rfl⟩

set_option maxHeartbeats 1000000 in
set_option maxRecDepth 100000 in
theorem pads_any (s : ByteArray) (w : World) (hs : s.size ≤ 65536) :
    Calls Tryd.prog 89 #[.string s] w fun e w' => e = .returned (.string ⟨(strip s.data.toList).toArray⟩) ∧ w' = w := by
  have h1 : (trim1 s.data.toList).length ≤ s.size := by
    have : ∀ t : List UInt8, (trim1 t).length ≤ t.length := by
      intro t
      unfold trim1
      split
      · simp
      · exact Nat.le_refl _
    exact this _
  have HA := Tryd.strings_TrimSuffix s ⟨#[61]⟩ w (by omega)
  have HB := Tryd.strings_TrimSuffix ⟨(trim1 s.data.toList).toArray⟩ ⟨#[61]⟩ w (by show (trim1 s.data.toList).toArray.size ≤ _; rw [List.size_toArray]; omega)
  have e1 : Lib.trimSuffix s.data.toList (⟨#[61]⟩ : ByteArray).data.toList = trim1 s.data.toList := lib_trim _
  have e2 : Lib.trimSuffix (⟨(trim1 s.data.toList).toArray⟩ : ByteArray).data.toList (⟨#[61]⟩ : ByteArray).data.toList = strip s.data.toList := lib_trim _
  rw [e1] at HA
  rw [e2] at HB
  have HA' : Hid (Calls Tryd.prog 102 #[.string s, .string ⟨#[61]⟩] w fun e w' => e = .returned (.string ⟨(trim1 s.data.toList).toArray⟩) ∧ w' = w) := HA
  have HB' : Hid (Calls Tryd.prog 102 #[.string ⟨(trim1 s.data.toList).toArray⟩, .string ⟨#[61]⟩] w fun e w' => e = .returned (.string ⟨(strip s.data.toList).toArray⟩) ∧ w' = w) := HB
  clear HA HB e1 e2 h1
  generalize (⟨(trim1 s.data.toList).toArray⟩ : ByteArray) = x at HA' HB'
  generalize (⟨(strip s.data.toList).toArray⟩ : ByteArray) = y at HB' ⊢
  go_enter Tryd.func89, Tryd.ntmps89
  go_wp2_with fail
  refine HA'.out.mono ?_
  rintro e w1 ⟨rfl, rfl⟩
  go_wp2_with fail
  refine HB'.out.mono ?_
  rintro e w2 ⟨rfl, rfl⟩
  go_wp2
  go_ret
  exact ⟨rfl, rfl⟩

theorem mores {q : List UInt8} {b : UInt8} {o p : Option (List UInt8)} {r : Option (List UInt8)} (h : o.map (q ++ ·) = r) (e : o = p.map fun x => b :: x) : p.map ((q ++ [b]) ++ ·) = r := by
  rw [← h, e, Option.map_map]
  congr 1
  funext x
  simp
theorem falls {q : List UInt8} {o : Option (List UInt8)} {r : Option (List UInt8)} (h : o.map (q ++ ·) = r) (e : o = none) : r = none := by
  rw [← h, e]
  rfl
theorem got_none {s : ByteArray} {base : Nat} {w : World} {c : Int} (h1 : rl s = []) (h2 : rc s = c) : Got s base (.returned (.tuple #[.slice none 0 0, .int .i64 c])) w :=
  ⟨_, by rw [h2], by rw [h1]; exact World.ownsRow_nil _ _ _ _⟩
theorem rl_none {s : ByteArray} (hl : s.size ≤ 65536) (h : dec s.data.toList = none) : rl s = [] ∧ rc s = 3 := by
  unfold rl rc
  rw [if_pos hl, if_pos hl, h]
  exact ⟨rfl, rfl⟩
theorem rl_some {s : ByteArray} {o : List UInt8} (hl : s.size ≤ 65536) (h : dec s.data.toList = some o) : rl s = o ∧ rc s = 0 := by
  unfold rl rc
  rw [if_pos hl, if_pos hl, h]
  exact ⟨rfl, rfl⟩
theorem start_map' (t : List UInt8) (h : t.drop 0 = t) : (rd 0 0 (t.drop 0)).map ([] ++ ·) = rd 0 0 t := by simp

theorem andm (i : Nat) (z : Int) (n : Nat) (h : z = n) (hn : n < 4294967296) (hi : i ≤ 20) : bits .and .i64 z (2 ^ i - 1) = ((n % 2 ^ i : Nat) : Int) := by
  subst h
  have := bits_mask .i64 62 (by decide) wraps_i64 i (by omega) (n : Int) (by omega) (by omega)
  rw [this]
  exact (Int.natCast_emod n (2 ^ i)).symm ▸ (by rw [Int.natCast_pow]; rfl)

theorem rl_len (s : ByteArray) : (rl s).length ≤ 65536 := by
  unfold rl
  split
  · rename_i h
    cases hd : dec s.data.toList with
    | none => simp
    | some o =>
      have e := congrArg List.length (enc_dec hd)
      rw [enc_length] at e
      have : s.data.toList.length = s.size := rfl
      simp only [Option.getD_some]
      omega
  · simp

set_option maxHeartbeats 4000000 in
set_option maxRecDepth 100000 in
theorem implGet_any (s : ByteArray) (w : World) (hT : tb.TV w) (hs : s.size ≤ maxLen) :
    Calls Tryd.prog 73 #[.string s] w fun e w' => Got s w.heap.size e w' ∧ Below w.heap.size w w' := by
  unfold maxLen at hs
  by_cases hl : s.size ≤ 65536
  case neg =>
    have hd : (65536 : Int) < (s.size : Int) := by omega
    have HX : Hid (rl s = [] ∧ rc s = 2) := ⟨if_neg hl, if_neg hl⟩
    clear hT
    go_enter Tryd.func73, Tryd.ntmps73
    go_wp2
    go_ret2
    exact ⟨got_none HX.out.1 HX.out.2, Below.refl _ _⟩
  have hld : decide (65536 < (s.size : Int)) = false := decide_eq_false (by omega)
  have hl' : (s.size : Int) ≤ 65536 := by omega
  by_cases h4 : s.size % 4 = 0
  case neg =>
    have HX := rl_none hl (dec_short _ _ (Nat.le_refl _) h4)
    have hb : ((s.size : Int) % 4 != 0) = true := by rw [bne_iff_ne]; omega
    have HX : Hid (rl s = [] ∧ rc s = 3) := HX
    clear hT
    go_enter Tryd.func73, Tryd.ntmps73
    go_wp2
    go_ret2
    exact ⟨got_none HX.out.1 HX.out.2, Below.refl _ _⟩
  have hb : ((s.size : Int) % 4 != 0) = false := by rw [bne_eq_false_iff_eq]; omega
  have HRD : Hid (rd 0 0 (strip s.data.toList) = dec s.data.toList) := rd_dec h4
  have hsl : (strip s.data.toList).length ≤ s.size := strip_len _
  have HP : Hid (Calls Tryd.prog 89 #[.string s] w fun e w' => e = .returned (.string ⟨(strip s.data.toList).toArray⟩) ∧ w' = w) := pads_any s w hl
  obtain ⟨r, hr⟩ : ∃ r : ByteArray, r = ⟨(strip s.data.toList).toArray⟩ := ⟨_, rfl⟩
  have hrl : r.data.toList = strip s.data.toList := by rw [hr]
  have hrs : r.size ≤ s.size := by
    have : r.size = (strip s.data.toList).length := by rw [hr]; show (strip s.data.toList).toArray.size = _; rw [List.size_toArray]
    omega
  rw [← hrl] at HRD
  rw [← hr] at HP
  clear hr hsl hrl
  obtain ⟨i0, hi, hz0, hz1, hz2⟩ := info_parts bl.info1
  go_enter Tryd.func73, Tryd.ntmps73
  go_wp2_with fail
  refine HP.out.mono ?_
  rintro e w1 ⟨rfl, rfl⟩
  clear HP
  go_wp2_with (at_make; go_loud (refine wpList_make_own _ rfl _ _ 22 rfl w1.heap.size 5 i0 (.int .u8 0) 1 Tryd.underlying22 hi hz0 hz1 _ _ _ (s.size / 4 * 3) rfl rfl (by go_num) (by rw [hz2]; omega) (by unfold maxLen; omega) (Nat.le_refl _) ?_); intro w2 hown1 hg1)
  have hbw2 : Below w1.heap.size w1 w2 := (Below.refl _ _).grown hg1 (Nat.le_refl _) (fun k hk => by cases hk)
  have HTT : Hid (∀ W, Below w1.heap.size w1 W → tb.TV W) := fun W hW => tb.keep' hT hW
  clear hg1 hT
  go_loopw [5, 6, 7, 26] (fun b h c i wr => ∃ (k hh cc : Nat) (q : List UInt8), k ≤ r.size ∧ i = .int .i64 k ∧ h = .int .i64 hh ∧ c = .int .i64 cc ∧ (cc = 0 ∨ cc = 2 ∨ cc = 4 ∨ cc = 6) ∧ hh < 2 ^ cc ∧ Hid ((rd hh cc (r.data.toList.drop k)).map (q ++ ·) = rd 0 0 r.data.toList) ∧ Hid (q.length ≤ k) ∧ wr.ownsRow w1.heap.size 5 1 b q.length (Lib.byteCells q) ∧ Below w1.heap.size w1 wr) (fun _ _ _ i _ => r.size - (intOf i).toNat)
  case atStart => exact ⟨0, 0, 0, [], Nat.zero_le _, rfl, rfl, rfl, .inl rfl, by decide, start_map' _ rfl, Nat.zero_le _, hown1, hbw2⟩
  case round =>
    clear hown1 hbw2
    obtain ⟨k, hh, cc, q, hk, rfl, rfl, rfl, hcc, hhc, HQ, HL, hown, hbw⟩ := hrel
    by_cases hlt : k < r.size
    · have hlt' : (k : Int) < (r.size : Int) := by omega
      have hx := str_at r (k : Int) k rfl hlt
      obtain ⟨c0, hc0⟩ : ∃ c, c = r.data.toList.getD k 0 := ⟨_, rfl⟩
      have HC : Hid (c0 = r.data.toList.getD k 0) := hc0
      rw [← hc0] at hx
      clear hc0
      have hTV := HTT.out wr hbw
      go_wp2_with fail
      refine (value_any c0 _ hTV).mono ?_
      rintro e wx ⟨rfl, rfl⟩
      clear hTV hx
      rcases V_cases c0 with hv | ⟨hv0, hv1, -⟩
      · have hvn : V c0 < 0 := by omega
        have HX : Hid (rl s = [] ∧ rc s = 3) := rl_none hl (HRD.out ▸ falls HQ.out (by rw [drop_cons (l := r.data.toList) (k := k) hlt, ← HC.out, rd_no hvn]))
        clear HQ HC hown HRD
        go_wp2
        go_ret2
        exact ⟨got_none HX.out.1 HX.out.2, hbw⟩
      obtain ⟨vv, hvv⟩ : ∃ v : Nat, V c0 = (v : Int) := ⟨(V c0).toNat, by omega⟩
      have hvd : decide ((vv : Int) < 0) = false := decide_eq_false (by omega)
      rw [hvv] at hv1 ⊢
      have hv64 : vv < 64 := by omega
      clear hv0
      rcases hcc with rfl | rfl | rfl | rfl
      · obtain rfl : hh = 0 := by simp at hhc; omega
        have eo := or_add 6 0 vv (by omega) (by omega) (by omega) (by omega) (by decide)
        simp only [Int.natCast_zero, Nat.zero_add] at eo
        have HR2 : Hid ((rd vv 6 (r.data.toList.drop (k + 1))).map (q ++ ·) = rd 0 0 r.data.toList) := by
          have h1 := HQ.out
          rw [drop_cons (l := r.data.toList) (k := k) hlt, ← HC.out, rd_part (by rw [hvv]; omega), hvv] at h1
          show Option.map _ _ = _
          simpa using h1
        clear HQ HC hvv
        go_wp2
        go_roundw
        case rel => exact ⟨k + 1, vv, 6, q, by omega, by go_num, rfl, rfl, .inr (.inr (.inr rfl)), by omega, HR2, Nat.le_succ_of_le HL.out, hown, hbw⟩
        case measure => simp [intOf]; omega
      · skip
        have hx6 : hh * 64 + vv < 256 := by omega
        have eo := or_add 6 (hh * 64) vv (by omega) (by omega) (by omega) (by omega) (by decide)
        rw [show (((hh * 64 : Nat)) : Int) = (hh : Int) * 64 from by omega] at eo
        have HR2 : Hid ((rd ((hh * 64 + vv) % 1) 0 (r.data.toList.drop (k + 1))).map ((q ++ [UInt8.ofNat ((hh * 64 + vv) / 1)]) ++ ·) = rd 0 0 r.data.toList) := mores HQ.out (by
          rw [drop_cons (l := r.data.toList) (k := k) hlt, ← HC.out, rd_full (by rw [hvv]; omega) (by decide), hvv]
          rfl)
        have ea := andm 0 ((hh : Int) * 64 + (vv : Int)) (hh * 64 + vv) (by omega) (by omega) (by decide)
        rw [show ((2 : Int) ^ 0 - 1) = 0 from by decide] at ea
        have EA : Hid (bits .and .i64 ((hh : Int) * 64 + (vv : Int)) 0 = (((hh * 64 + vv) % 1 : Nat) : Int)) := ea
        clear ea
        clear HQ HC hvv
        have hx6' : (hh : Int) * 64 + (vv : Int) ≤ 255 := by omega
        have hcell : ((UInt8.ofNat ((hh * 64 + vv) / 1)).toNat : Int) = (hh : Int) * 64 + (vv : Int) := by rw [UInt8.toNat_ofNat']; omega
        have HB : Hid (Lib.byteCells [UInt8.ofNat ((hh * 64 + vv) / 1)] = [Value.int .u8 ((hh : Int) * 64 + (vv : Int))]) := by rw [← hcell]; rfl
        clear hcell
        have hsz := hbw.size
        go_wp2_with (at_builtin; go_loud (refine wpList_append_own _ rfl _ _ 22 rfl w1.heap.size 5 i0 (.int .u8 0) 1 1 Tryd.underlying22 hi hz0 hz1 hz2 rfl (by decide) _ _ _ rfl (hown.alloc _) ⟨wx.heap.size, 0, none⟩ 1 1 [Value.int .u8 ((hh : Int) * 64 + (vv : Int))] rfl rfl (ow.cells_new wx _ 5) (by simp [Value.oneCell']) (by have := HL.out; unfold maxLen; omega) (by have := HL.out; omega) (by simp; omega) ?_); intro v' w3 hown' hgrow _)
        have hbz := (hbw.alloc hsz _).grown hgrow (by simp; omega) (ow.own_lt hown)
        obtain ⟨ao, n', cap', rfl⟩ : ∃ ao n' cap, v' = .slice ao n' cap := by
          rcases hown'.2 with ⟨hv, _⟩ | ⟨g, cap, cur, hv, _⟩
          · exact ⟨_, _, _, hv⟩
          · exact ⟨_, _, _, hv⟩
        rw [← HB.out, ← Lib.byteCells_append] at hown'
        go_wp2
        go_roundw
        case rel => exact ⟨k + 1, (hh * 64 + vv) % 1, 0, _, by omega, by go_num, (by rw [← EA.out]), by go_num, by omega, by omega, HR2, (show (q ++ [UInt8.ofNat ((hh * 64 + vv) / 1)]).length ≤ k + 1 by rw [List.length_append]; have := HL.out; simp; omega), by rw [List.length_append]; exact hown', hbz⟩
        case measure => simp [intOf]; omega
      · skip
        have hx6 : hh * 64 + vv < 1024 := by omega
        have eo := or_add 6 (hh * 64) vv (by omega) (by omega) (by omega) (by omega) (by decide)
        rw [show (((hh * 64 : Nat)) : Int) = (hh : Int) * 64 from by omega] at eo
        have HR2 : Hid ((rd ((hh * 64 + vv) % 4) 2 (r.data.toList.drop (k + 1))).map ((q ++ [UInt8.ofNat ((hh * 64 + vv) / 4)]) ++ ·) = rd 0 0 r.data.toList) := mores HQ.out (by
          rw [drop_cons (l := r.data.toList) (k := k) hlt, ← HC.out, rd_full (by rw [hvv]; omega) (by decide), hvv]
          rfl)
        have ea := andm 2 ((hh : Int) * 64 + (vv : Int)) (hh * 64 + vv) (by omega) (by omega) (by decide)
        rw [show ((2 : Int) ^ 2 - 1) = 3 from by decide] at ea
        have EA : Hid (bits .and .i64 ((hh : Int) * 64 + (vv : Int)) 3 = (((hh * 64 + vv) % 4 : Nat) : Int)) := ea
        clear ea
        clear HQ HC hvv
        have hx6' : (hh : Int) * 64 + (vv : Int) ≤ 1023 := by omega
        have hcell : ((UInt8.ofNat ((hh * 64 + vv) / 4)).toNat : Int) = ((hh : Int) * 64 + (vv : Int)) / 4 := by rw [UInt8.toNat_ofNat']; omega
        have HB : Hid (Lib.byteCells [UInt8.ofNat ((hh * 64 + vv) / 4)] = [Value.int .u8 (((hh : Int) * 64 + (vv : Int)) / 4)]) := by rw [← hcell]; rfl
        clear hcell
        have hsz := hbw.size
        go_wp2_with (at_builtin; go_loud (refine wpList_append_own _ rfl _ _ 22 rfl w1.heap.size 5 i0 (.int .u8 0) 1 1 Tryd.underlying22 hi hz0 hz1 hz2 rfl (by decide) _ _ _ rfl (hown.alloc _) ⟨wx.heap.size, 0, none⟩ 1 1 [Value.int .u8 (((hh : Int) * 64 + (vv : Int)) / 4)] rfl rfl (ow.cells_new wx _ 5) (by simp [Value.oneCell']) (by have := HL.out; unfold maxLen; omega) (by have := HL.out; omega) (by simp; omega) ?_); intro v' w3 hown' hgrow _)
        have hbz := (hbw.alloc hsz _).grown hgrow (by simp; omega) (ow.own_lt hown)
        obtain ⟨ao, n', cap', rfl⟩ : ∃ ao n' cap, v' = .slice ao n' cap := by
          rcases hown'.2 with ⟨hv, _⟩ | ⟨g, cap, cur, hv, _⟩
          · exact ⟨_, _, _, hv⟩
          · exact ⟨_, _, _, hv⟩
        rw [← HB.out, ← Lib.byteCells_append] at hown'
        go_wp2
        go_roundw
        case rel => exact ⟨k + 1, (hh * 64 + vv) % 4, 2, _, by omega, by go_num, (by rw [← EA.out]), by go_num, by omega, by omega, HR2, (show (q ++ [UInt8.ofNat ((hh * 64 + vv) / 4)]).length ≤ k + 1 by rw [List.length_append]; have := HL.out; simp; omega), by rw [List.length_append]; exact hown', hbz⟩
        case measure => simp [intOf]; omega
      · skip
        have hx6 : hh * 64 + vv < 4096 := by omega
        have eo := or_add 6 (hh * 64) vv (by omega) (by omega) (by omega) (by omega) (by decide)
        rw [show (((hh * 64 : Nat)) : Int) = (hh : Int) * 64 from by omega] at eo
        have HR2 : Hid ((rd ((hh * 64 + vv) % 16) 4 (r.data.toList.drop (k + 1))).map ((q ++ [UInt8.ofNat ((hh * 64 + vv) / 16)]) ++ ·) = rd 0 0 r.data.toList) := mores HQ.out (by
          rw [drop_cons (l := r.data.toList) (k := k) hlt, ← HC.out, rd_full (by rw [hvv]; omega) (by decide), hvv]
          rfl)
        have ea := andm 4 ((hh : Int) * 64 + (vv : Int)) (hh * 64 + vv) (by omega) (by omega) (by decide)
        rw [show ((2 : Int) ^ 4 - 1) = 15 from by decide] at ea
        have EA : Hid (bits .and .i64 ((hh : Int) * 64 + (vv : Int)) 15 = (((hh * 64 + vv) % 16 : Nat) : Int)) := ea
        clear ea
        clear HQ HC hvv
        have hx6' : (hh : Int) * 64 + (vv : Int) ≤ 4095 := by omega
        have hcell : ((UInt8.ofNat ((hh * 64 + vv) / 16)).toNat : Int) = ((hh : Int) * 64 + (vv : Int)) / 16 := by rw [UInt8.toNat_ofNat']; omega
        have HB : Hid (Lib.byteCells [UInt8.ofNat ((hh * 64 + vv) / 16)] = [Value.int .u8 (((hh : Int) * 64 + (vv : Int)) / 16)]) := by rw [← hcell]; rfl
        clear hcell
        have hsz := hbw.size
        go_wp2_with (at_builtin; go_loud (refine wpList_append_own _ rfl _ _ 22 rfl w1.heap.size 5 i0 (.int .u8 0) 1 1 Tryd.underlying22 hi hz0 hz1 hz2 rfl (by decide) _ _ _ rfl (hown.alloc _) ⟨wx.heap.size, 0, none⟩ 1 1 [Value.int .u8 (((hh : Int) * 64 + (vv : Int)) / 16)] rfl rfl (ow.cells_new wx _ 5) (by simp [Value.oneCell']) (by have := HL.out; unfold maxLen; omega) (by have := HL.out; omega) (by simp; omega) ?_); intro v' w3 hown' hgrow _)
        have hbz := (hbw.alloc hsz _).grown hgrow (by simp; omega) (ow.own_lt hown)
        obtain ⟨ao, n', cap', rfl⟩ : ∃ ao n' cap, v' = .slice ao n' cap := by
          rcases hown'.2 with ⟨hv, _⟩ | ⟨g, cap, cur, hv, _⟩
          · exact ⟨_, _, _, hv⟩
          · exact ⟨_, _, _, hv⟩
        rw [← HB.out, ← Lib.byteCells_append] at hown'
        go_wp2
        go_roundw
        case rel => exact ⟨k + 1, (hh * 64 + vv) % 16, 4, _, by omega, by go_num, (by rw [← EA.out]), by go_num, by omega, by omega, HR2, (show (q ++ [UInt8.ofNat ((hh * 64 + vv) / 16)]).length ≤ k + 1 by rw [List.length_append]; have := HL.out; simp; omega), by rw [List.length_append]; exact hown', hbz⟩
        case measure => simp [intOf]; omega
    · have hd : r.data.toList.drop k = [] := List.drop_eq_nil_of_le (by show r.size ≤ k; omega)
      have hlt' : (r.size : Int) ≤ (k : Int) := by omega
      by_cases h0 : hh = 0
      · subst h0
        have HX : Hid (rl s = q ∧ rc s = 0) := rl_some hl (by rw [← HRD.out, ← HQ.out, hd, rd_nil, if_pos rfl]; simp)
        clear HQ HRD hd
        go_wp2
        go_ret2
        exact ⟨⟨_, by rw [HX.out.2]; rfl, by rw [HX.out.1]; exact hown⟩, hbw⟩
      · have HX : Hid (rl s = [] ∧ rc s = 3) := rl_none hl (by rw [← HRD.out, ← HQ.out, hd, rd_nil, if_neg h0]; rfl)
        have h0b : ((hh : Int) != 0) = true := by rw [bne_iff_ne]; omega
        clear HQ HRD hd hown
        go_wp2
        go_ret2
        exact ⟨got_none HX.out.1 HX.out.2, hbw⟩
end Go.Proofs.YtpbmofofigkpjaaDoor.b6
