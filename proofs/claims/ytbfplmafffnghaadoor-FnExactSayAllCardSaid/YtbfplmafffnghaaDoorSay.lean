/-
  What a connection is sent: the specification's SayAll.
-/
import Derived.Test.YtbfplmafffnghaaDoorSax
import Derived.Deep.RegionWith
namespace Go.Proofs.YtbfplmafffnghaaDoor.sw
open Go.RowKit
open nu li te
open ky (TextsAt OwnT nt)
set_option linter.unusedVariables false

def L15 (s : ByteArray) (e : Ending) : Prop := ∃ a rest : ByteArray, e = .returned (.tuple #[.string a, .string rest, .bool true]) ∧ ((∀ b ∈ s.data.toList, b ≠ 13) → rest.size = 0)

set_option maxHeartbeats 4000000 in
set_option maxRecDepth 100000 in
theorem line15_any (s : ByteArray) (hs : s.size ≤ 65536) (w : World) :
    Calls Tryd.prog 12 #[.string (ln s)] w fun e w' => L15 s e ∧ Below w.heap.size w w' := by
  have HSZ : Hid ((ln s).size = s.size + 2) := ln_size s
  have hLs := ln_size s
  have HBY : Hid (∀ j, (h : j < s.size) → ∃ h2 : j < (ln s).size, s.data.toList[j]? = some ((ln s)[j]'h2)) := fun j h => by
    have h2 : j < (ln s).size := by omega
    refine ⟨h2, ?_⟩
    have := li.byte_at (ln s) j h2
    rw [ln_list, List.getElem?_append_left (by rw [← Lib.size_eq]; exact h)] at this
    exact this
  have HL1 : Hid (∀ h2 : s.size < (ln s).size, ((ln s)[s.size]'h2) = 13) := fun h2 => by
    have := li.byte_at (ln s) s.size h2
    rw [ln_list, List.getElem?_append_right (by rw [← Lib.size_eq]; exact Nat.le_refl _), ← Lib.size_eq, Nat.sub_self] at this
    injection this with this
    exact this.symm
  have HL2 : Hid (∀ h2 : s.size + 1 < (ln s).size, ((ln s)[s.size + 1]'h2) = 10) := fun h2 => by
    have := li.byte_at (ln s) (s.size + 1) h2
    rw [ln_list, List.getElem?_append_right (by rw [← Lib.size_eq]; omega), ← Lib.size_eq, show s.size + 1 - s.size = 1 by omega] at this
    injection this with this
    exact this.symm
  have HTK := fun k => te.ext_take (ln s) k
  have HDR := fun k => te.ext_drop (ln s) k
  generalize ln s = t at HSZ hLs HBY HL1 HL2 HTK HDR ⊢
  have HTKH : Hid (∀ k, t.extract 0 k = ⟨(t.data.toList.take k).toArray⟩) := HTK
  have HDRH : Hid (∀ k, t.extract k t.size = ⟨(t.data.toList.drop k).toArray⟩) := HDR
  clear HTK HDR
  go_enter Tryd.func12, Tryd.ntmps12
  go_wp2
  go_loopw [5] (fun a wr => ∃ k : Nat, a = .int .i64 k ∧ k ≤ s.size ∧ Below w.heap.size w wr) (fun a _ => t.size - (intOf a).toNat)
  case atStart => exact ⟨0, rfl, Nat.zero_le _, Below.refl _ _⟩
  case round =>
    obtain ⟨k, rfl, hk, hbw⟩ := hrel
    have HBW : Hid (Below w.heap.size w wr) := hbw
    have k0 : (0 : Int) ≤ (k : Int) := by omega
    have hk1 : (k : Int) + 1 < (t.size : Int) := by omega
    have hk1d : decide ((k : Int) + 1 < (t.size : Int)) = true := decide_eq_true hk1
    have hkl : k < t.size := by omega
    have hk2 : k + 1 < t.size := by omega
    have hix : ∀ wx : World, (Instr.index 9 (.string t) (.int .i64 (k : Int))).run Tryd.prog wx = .ok (.int .u8 ((t[k]'hkl).toNat : Int)) wx := fun wx => by
      rw [run_index_string wx 9 t .i64 (k : Int) Tryd.underlying9, dif_pos ⟨by omega, by omega⟩]
      rfl
    have hiy : ∀ wx : World, (Instr.index 9 (.string t) (.int .i64 ((k : Int) + 1))).run Tryd.prog wx = .ok (.int .u8 ((t[k + 1]'hk2).toNat : Int)) wx := fun wx => by
      rw [show ((k : Int) + 1) = ((k + 1 : Nat) : Int) by omega, run_index_string wx 9 t .i64 ((k + 1 : Nat) : Int) Tryd.underlying9, dif_pos ⟨by omega, by omega⟩]
      rfl
    have HX : Hid (k < s.size → s.data.toList[k]? = some (t[k]'hkl)) := fun h => (HBY.out k h).2
    have HE1 : Hid (k = s.size → (t[k]'hkl) = 13) := fun h => by subst h; exact HL1.out hkl
    have HE2 : Hid (k = s.size → (t[k + 1]'hk2) = 10) := fun h => by subst h; exact HL2.out hk2
    have HKS : Hid (k ≤ s.size ∧ t.size = s.size + 2) := ⟨hk, hLs⟩
    generalize t[k]'hkl = x at hix HX HE1
    generalize t[k + 1]'hk2 = y at hiy HE2
    clear hbw
    by_cases hx : x.toNat = 13
    rotate_left
    · have dx : ((x.toNat : Int) == 13) = false := beq_eq_false_iff_ne.2 (by omega)
      have hlt : k < s.size := by
        rcases Nat.lt_or_ge k s.size with g | g
        · exact g
        · exfalso; exact hx (by rw [HE1.out (by omega)]; rfl)
      have HLT : Hid (k < s.size) := hlt
      clear hx hlt
      go_wp2
      go_roundw
      case rel => exact ⟨k + 1, by go_num, HLT.out, HBW.out⟩
      case measure => have := HKS.out; first | (simp [intOf]; done) | (simp [intOf]; omega)
    have dx : ((x.toNat : Int) == 13) = true := beq_iff_eq.2 (by omega)
    by_cases hy : y.toNat = 10
    rotate_left
    · have dy : ((y.toNat : Int) == 10) = false := beq_eq_false_iff_ne.2 (by omega)
      have hlt : k < s.size := by
        rcases Nat.lt_or_ge k s.size with g | g
        · exact g
        · exfalso; exact hy (by rw [HE2.out (by omega)]; rfl)
      have HLT : Hid (k < s.size) := hlt
      clear hx hy hlt
      go_wp2
      go_roundw
      case rel => exact ⟨k + 1, by go_num, HLT.out, HBW.out⟩
      case measure => have := HKS.out; first | (simp [intOf]; done) | (simp [intOf]; omega)
    have dy : ((y.toNat : Int) == 10) = true := beq_iff_eq.2 (by omega)
    have c2 : (k : Int) ≤ (t.size : Int) := by omega
    have c3 : (k : Int) + 2 ≤ (t.size : Int) := by omega
    have e1 := HTKH.out k
    have e2 := HDRH.out (k + 2)
    have HFIN : Hid ((∀ b ∈ s.data.toList, b ≠ 13) → (⟨(t.data.toList.drop (k + 2)).toArray⟩ : ByteArray).size = 0) := fun hno => by
      have hks : k = s.size := by
        rcases Nat.lt_or_ge k s.size with g | g
        · exfalso
          exact hno x (List.mem_of_getElem? (HX.out g)) (UInt8.toNat_inj.1 hx)
        · omega
      rw [← e2, ByteArray.size_extract]
      omega
    generalize (⟨(t.data.toList.take k).toArray⟩ : ByteArray) = u at e1
    generalize (⟨(t.data.toList.drop (k + 2)).toArray⟩ : ByteArray) = r at e2 HFIN
    have HS1 : ∀ wx : World, (Instr.slice 9 (.string t) none (some (.int .i64 (k : Int))) none).run Tryd.prog wx = .ok (.string u) wx := fun wx => by
      rw [run_slice_string_to_if wx 9 t .i64 _ Tryd.underlying9, if_pos ⟨k0, c2⟩]
      rw [Int.toNat_natCast, e1]
    have HS2 : ∀ wx : World, (Instr.slice 9 (.string t) (some (.int .i64 ((k : Int) + 2))) none none).run Tryd.prog wx = .ok (.string r) wx := fun wx => by
      rw [run_slice_string_from_if wx 9 t .i64 _ Tryd.underlying9, if_pos ⟨by omega, c3⟩, show ((k : Int) + 2).toNat = k + 2 from by omega, e2]
    have HD : Hid (Below w.heap.size w wr.drew) := HBW.out.drew
    clear hx hy e1 e2 HX HE1 HE2
    go_wp2_with fail
    go_region
    all_goals
      go_wp2
      go_ret3
      exact ⟨⟨u, r, rfl, HFIN.out⟩, HD.out⟩

theorem own_made (w : World) (base : Nat) (h : base ≤ w.heap.size) : OwnT (w.alloc (.cells #[] 9)) base (.slice (some ⟨w.heap.size, 0, none⟩) 0 0) [] := World.ownsRow_made w #[] 0 h (Nat.zero_le _) rfl
theorem bel_made {w w' : World} (h : Below w.heap.size w w') (o : Obj) : Below w.heap.size w (w'.alloc o) := h.alloc h.size o

set_option maxHeartbeats 8000000 in
set_option maxRecDepth 100000 in
theorem say_spec (v : Value) (ks : List ByteArray) (kind : Int) (w : World) (h : TextsAt w v ks) (hl : ks.length ≤ 1048576) (hz : ∀ j, j < ks.length → (ks.getD j nt).size ≤ 1048576) :
    Calls Tryd.prog 5 #[v, .int .i64 kind] w fun e w' => SayRet ks kind w.heap.size e w' ∧ Below w.heap.size w w' := by
  obtain ⟨a, cap, rfl, hh⟩ := h
  obtain ⟨n, hn⟩ : ∃ n, n = ks.length := ⟨_, rfl⟩
  have HN : Hid (n = ks.length) := hn
  rw [← hn] at hl ⊢
  by_cases hbig : 4096 < n
  · have hb : (4096 : Int) < (n : Int) := by omega
    have HR : Hid (SayIs ks kind [] 2) := .inl ⟨by omega, rfl, rfl⟩
    clear hh hz hn hbig
    go_enter Tryd.func5, Tryd.ntmps5
    go_wp2
    go_ret2
    exact ⟨⟨_, [], 2, rfl, HR.out, own_made _ _ (Nat.le_refl _)⟩, bel_made (Below.refl _ _) _⟩
  have hb : ¬ (4096 : Int) < (n : Int) := by omega
  have hbd : decide ((4096 : Int) < (n : Int)) = false := decide_eq_false hb
  by_cases hk : kind = 1 ∨ kind = 2
  rotate_left
  · have k1 : ((kind : Int) != 1) = true := by rw [bne_iff_ne]; exact fun e => hk (.inl e)
    have k2 : ((kind : Int) != 2) = true := by rw [bne_iff_ne]; exact fun e => hk (.inr e)
    have HR : Hid (SayIs ks kind [] 1) := .inr (.inl ⟨by omega, hk, rfl, rfl⟩)
    clear hh hz hn hbig hk
    go_enter Tryd.func5, Tryd.ntmps5
    go_wp2
    go_ret2
    exact ⟨⟨_, [], 1, rfl, HR.out, own_made _ _ (Nat.le_refl _)⟩, bel_made (Below.refl _ _) _⟩
  have HFIN : Hid (∀ out c, Say kind ks out c → SayIs ks kind out c) := fun out c y => .inr (.inr ⟨by omega, hk, y⟩)
  have HH : Hid (ks = [] ∨ ∃ b off, a = some ⟨b, off, none⟩ ∧ ∀ j, j < ks.length → w.cell? ⟨b, off + j, none⟩ = some (.string (ks.getD j nt))) := hh
  have HZ : Hid (∀ j, j < ks.length → (ks.getD j nt).size ≤ 1048576) := hz
  obtain ⟨i0, hi, hz0, hz1, hz2⟩ := info_parts sp.infoStr
  clear hh hz hn hbig
  rcases hk with rfl | rfl
  · go_enter Tryd.func5, Tryd.ntmps5
    go_wp2
    go_loopw [6, 7] (fun r i wr => ∃ k : Nat, i = .int .i64 k ∧ k ≤ n ∧ (∀ j, j < k → Ok 1 (ks.getD j nt)) ∧ wr.ownsRow w.heap.size 9 1 r k (((ks.take k).map ln).map Value.string) ∧ Below w.heap.size w wr) (fun _ i _ => n - (intOf i).toNat)
    case atStart => exact ⟨0, rfl, Nat.zero_le _, fun j hj => absurd hj (Nat.not_lt_zero _), own_made _ _ (Nat.le_refl _), bel_made (Below.refl _ _) _⟩
    case round =>
      obtain ⟨k, rfl, hkn, hok, hown, hbw⟩ := hrel
      have HOK : Hid (∀ j, j < k → Ok 1 (ks.getD j nt)) := hok
      have hBs := hbw.size
      clear hok
      by_cases hlt : k < n
      · have hkl : k < ks.length := by have := HN.out; omega
        have hlt' : (k : Int) < (n : Int) := by omega
        have hk0 : (0 : Int) ≤ (k : Int) := by omega
        rcases HH.out with e | ⟨b, off, rfl, hcell⟩
        · rw [e] at hkl; simp at hkl
        have HCELL : Hid (∀ W, Below w.heap.size w W → W.cell? ⟨b, off + k, none⟩ = some (.string (ks.getD k nt))) := fun W hW => (hW.cell (p := ⟨b, off + k, none⟩) (World.block_lt_of_cell? w _ (hcell k hkl))).trans (hcell k hkl)
        have hc := HCELL.out wr hbw
        have hsz := HZ.out k hkl
        have HKL : Hid (k < ks.length) := hkl
        have HOUT : Hid (∀ out c, (4000 < (ks.getD k nt).size + 2 ∧ c = 4) ∨ ((ks.getD k nt).size + 2 ≤ 4000 ∧ ¬ Wh 1 (ks.getD k nt).data.toList ∧ c = 3) → out = [] → SayIs ks 1 out c) := fun out c y e => HFIN.out out c (.inr ⟨e, k, HKL.out, HOK.out, y⟩)
        have HNX : Hid (Ok 1 (ks.getD k nt) → ∀ j, j < k + 1 → Ok 1 (ks.getD j nt)) := fun y => ok_next HOK.out y
        have HMT : Hid ((ks.take (k + 1)).map ln = (ks.take k).map ln ++ [ln (ks.getD k nt)]) := map_take hkl
        clear hcell hkl
        generalize ks.getD k nt = t at hc hsz HOUT HNX HMT HCELL
        have hcat := ln_cat t
        have hDs : ¬ 9223372036854775807 < t.size + 2 := by omega
        have hLS : ((ln t).size : Int) = (t.size : Int) + 2 := by rw [ln_size]; rfl
        by_cases ht : t.size + 2 ≤ 4000
        rotate_left
        · have d1 : (4000 : Int) < (t.size : Int) + 2 := by omega
          have HR : Hid (SayIs ks 1 [] 4) := HOUT.out [] 4 (.inl ⟨by omega, rfl⟩) rfl
          have HBW : Hid (Below w.heap.size w wr) := hbw
          clear ht HOUT HNX hown hbw
          go_wp2
          go_ret2
          exact ⟨⟨_, [], 4, rfl, HR.out, own_made _ _ HBW.out.size⟩, bel_made HBW.out _⟩
        have d1 : ¬ (4000 : Int) < (t.size : Int) + 2 := by omega
        have d1d : decide ((4000 : Int) < (t.size : Int) + 2) = false := decide_eq_false d1
        have HTS : Hid (t.size + 2 ≤ 4000) := ht
        have HT : Hid (Calls Tryd.prog 11 #[.string (ln t)] wr fun e w' => TakeRet (ln t).data.toList e ∧ Below wr.heap.size wr w') := take_spec (ln t) (by rw [ln_size]; omega) wr
        clear ht
        go_wp2_with fail
        refine HT.out.mono ?_
        rintro e w1 ⟨hr, b1⟩
        obtain ⟨a', b', code, rfl, hiff⟩ := take_whole hr
        have hown1 := ow.own_below hown b1
        have hbw1 := hbw.trans (b1.mono hBs)
        have HIFF : Hid ((code = 0 ∧ b'.size = 0) ↔ Wh 1 t.data.toList) := by
          show _ ↔ _
          rw [hiff]
          exact ⟨fun h => .inl ⟨rfl, h⟩, fun h => by rcases h with ⟨_, h⟩ | ⟨h, _⟩; exact h; exact absurd h (by decide)⟩
        clear HT hr hiff hown hbw b1
        by_cases hc0 : code = 0
        · subst hc0
          by_cases hb0 : b'.size = 0
          · have hE : (b'.toList == []) = true := by rw [Lib.toList_data]; rw [show b'.data.toList = [] from List.eq_nil_of_length_eq_zero (by rw [← Lib.size_eq]; exact hb0)]; rfl
            have HYW : Hid (Wh 1 t.data.toList) := HIFF.out.1 ⟨rfl, hb0⟩
            clear hb0 HIFF
            have HOK2 : Hid (∀ j, j < k + 1 → Ok 1 (ks.getD j nt)) := HNX.out ⟨HTS.out, HYW.out⟩
            have hBs1 := hbw1.size
            clear HOUT HNX
            go_wp2_with (at_builtin; refine wpList_append_own _ rfl _ _ 22 rfl w.heap.size 9 i0 (.string ByteArray.empty) 1 16 Tryd.underlying22 hi hz0 hz1 hz2 rfl (by decide) _ _ _ rfl (hown1.alloc _) ⟨w1.heap.size, 0, none⟩ 1 1 [.string (ln t)] rfl rfl (ow.cells_new _ [.string (ln t)] _) (by intro u hu; simp at hu; subst hu; rfl) (by unfold maxLen; omega) (by omega) (by simp; omega) ?_; intro v' w3 hown3 hgrow3 hnil3)
            have hb3 := Below.grown (hbw1.alloc hBs1 _) hgrow3 (by simp; omega) (ow.own_lt hown1)
            have HA : Hid (w3.ownsRow w.heap.size 9 1 v' (k + 1) (((ks.take (k + 1)).map ln).map Value.string) ∧ Below w.heap.size w w3) := ⟨by rw [HMT.out, List.map_append]; exact hown3, hb3⟩
            clear hown3 hgrow3 hnil3 hb3 hown1 hbw1
            go_wp2
            go_roundw
            case rel => exact ⟨k + 1, by go_num, by omega, HOK2.out, HA.out.1, HA.out.2⟩
            case measure => first | (simp [intOf]; done) | (simp [intOf]; omega)
          · have hE : (b'.toList == []) = false := by rw [Lib.toList_data]; exact beq_eq_false_iff_ne.2 fun e => hb0 (by rw [Lib.size_eq, e]; rfl)
            have HNW : Hid (¬ Wh 1 t.data.toList) := fun y => hb0 (HIFF.out.2 y).2
            clear hb0 HIFF
            have HR : Hid (SayIs ks 1 [] 3) := HOUT.out [] 3 (.inr ⟨HTS.out, HNW.out, rfl⟩) rfl
            have HBW : Hid (Below w.heap.size w w1) := hbw1
            clear HOUT HNX hown1 hbw1
            go_wp2
            go_ret2
            exact ⟨⟨_, [], 3, rfl, HR.out, own_made _ _ HBW.out.size⟩, bel_made HBW.out _⟩
        · have dc : ((code : Int) == 0) = false := beq_eq_false_iff_ne.2 hc0
          have HNW : Hid (¬ Wh 1 t.data.toList) := fun y => hc0 (HIFF.out.2 y).1
          clear hc0 HIFF
          have HR : Hid (SayIs ks 1 [] 3) := HOUT.out [] 3 (.inr ⟨HTS.out, HNW.out, rfl⟩) rfl
          have HBW : Hid (Below w.heap.size w w1) := hbw1
          clear HOUT HNX hown1 hbw1
          go_wp2
          go_ret2
          exact ⟨⟨_, [], 3, rfl, HR.out, own_made _ _ HBW.out.size⟩, bel_made HBW.out _⟩
      · have hkn2 : k = n := by omega
        have HR : Hid (SayIs ks 1 (ks.map ln) 0) := HFIN.out _ _ (.inl ⟨rfl, fun j hj => HOK.out j (by have := HN.out; omega), rfl⟩)
        have HKN : Hid (k = n) := hkn2
        rw [List.take_of_length_le (by have := HN.out; omega)] at hown
        have hlt' : decide ((k : Int) < (n : Int)) = false := decide_eq_false (by omega)
        have hlt2 : ¬ (k : Int) < (n : Int) := by omega
        have HBW : Hid (Below w.heap.size w wr) := hbw
        clear hbw hlt hkn hkn2
        go_wp2
        go_ret2
        exact ⟨⟨_, _, 0, rfl, HR.out, by unfold OwnT; rw [List.length_map, ← HN.out, ← HKN.out]; exact hown⟩, HBW.out⟩
  · go_enter Tryd.func5, Tryd.ntmps5
    go_wp2
    go_loopw [6, 7] (fun r i wr => ∃ k : Nat, i = .int .i64 k ∧ k ≤ n ∧ (∀ j, j < k → Ok 2 (ks.getD j nt)) ∧ wr.ownsRow w.heap.size 9 1 r k (((ks.take k).map ln).map Value.string) ∧ Below w.heap.size w wr) (fun _ i _ => n - (intOf i).toNat)
    case atStart => exact ⟨0, rfl, Nat.zero_le _, fun j hj => absurd hj (Nat.not_lt_zero _), own_made _ _ (Nat.le_refl _), bel_made (Below.refl _ _) _⟩
    case round =>
      obtain ⟨k, rfl, hkn, hok, hown, hbw⟩ := hrel
      have HOK : Hid (∀ j, j < k → Ok 2 (ks.getD j nt)) := hok
      have hBs := hbw.size
      clear hok
      by_cases hlt : k < n
      · have hkl : k < ks.length := by have := HN.out; omega
        have hlt' : (k : Int) < (n : Int) := by omega
        have hk0 : (0 : Int) ≤ (k : Int) := by omega
        rcases HH.out with e | ⟨b, off, rfl, hcell⟩
        · rw [e] at hkl; simp at hkl
        have HCELL : Hid (∀ W, Below w.heap.size w W → W.cell? ⟨b, off + k, none⟩ = some (.string (ks.getD k nt))) := fun W hW => (hW.cell (p := ⟨b, off + k, none⟩) (World.block_lt_of_cell? w _ (hcell k hkl))).trans (hcell k hkl)
        have hc := HCELL.out wr hbw
        have hsz := HZ.out k hkl
        have HKL : Hid (k < ks.length) := hkl
        have HOUT : Hid (∀ out c, (4000 < (ks.getD k nt).size + 2 ∧ c = 4) ∨ ((ks.getD k nt).size + 2 ≤ 4000 ∧ ¬ Wh 2 (ks.getD k nt).data.toList ∧ c = 3) → out = [] → SayIs ks 2 out c) := fun out c y e => HFIN.out out c (.inr ⟨e, k, HKL.out, HOK.out, y⟩)
        have HNX : Hid (Ok 2 (ks.getD k nt) → ∀ j, j < k + 1 → Ok 2 (ks.getD j nt)) := fun y => ok_next HOK.out y
        have HMT : Hid ((ks.take (k + 1)).map ln = (ks.take k).map ln ++ [ln (ks.getD k nt)]) := map_take hkl
        clear hcell hkl
        generalize ks.getD k nt = t at hc hsz HOUT HNX HMT HCELL
        have hcat := ln_cat t
        have hDs : ¬ 9223372036854775807 < t.size + 2 := by omega
        have hLS : ((ln t).size : Int) = (t.size : Int) + 2 := by rw [ln_size]; rfl
        by_cases ht : t.size + 2 ≤ 4000
        rotate_left
        · have d1 : (4000 : Int) < (t.size : Int) + 2 := by omega
          have HR : Hid (SayIs ks 2 [] 4) := HOUT.out [] 4 (.inl ⟨by omega, rfl⟩) rfl
          have HBW : Hid (Below w.heap.size w wr) := hbw
          clear ht HOUT HNX hown hbw
          go_wp2
          go_ret2
          exact ⟨⟨_, [], 4, rfl, HR.out, own_made _ _ HBW.out.size⟩, bel_made HBW.out _⟩
        have d1 : ¬ (4000 : Int) < (t.size : Int) + 2 := by omega
        have d1d : decide ((4000 : Int) < (t.size : Int) + 2) = false := decide_eq_false d1
        have HTS : Hid (t.size + 2 ≤ 4000) := ht
        have HT : Hid (Calls Tryd.prog 12 #[.string (ln t)] wr fun e w' => L15 t e ∧ Below wr.heap.size wr w') := line15_any t (by omega) wr
        have HL14 : Hid (∀ W, Calls Tryd.prog 13 #[.string t] W fun e w' => Bo (t.data.toList.length ≤ 500 ∧ Sh t.data.toList) e ∧ Below W.heap.size W w') := fun W => line14_any t (by omega) W
        clear ht
        go_wp2_with fail
        refine HT.out.mono ?_
        rintro e w1 ⟨⟨a', b', rfl, hno⟩, b1⟩
        have hown1 := ow.own_below hown b1
        have hbw1 := hbw.trans (b1.mono hBs)
        have HNO : Hid ((∀ b ∈ t.data.toList, b ≠ 13) → b'.size = 0) := hno
        clear HT hno hown hbw b1 hc
        have hc := HCELL.out w1 hbw1
        by_cases hb0 : b'.size = 0
        · have hE : (b'.toList == []) = true := by rw [Lib.toList_data]; rw [show b'.data.toList = [] from List.eq_nil_of_length_eq_zero (by rw [← Lib.size_eq]; exact hb0)]; rfl
          clear hb0
          go_wp2_with fail
          refine (HL14.out _).mono ?_
          rintro e w2 ⟨⟨o, rfl, ho⟩, b2⟩
          have hown2 := ow.own_below hown1 b2
          have hbw2 := hbw1.trans (b2.mono hbw1.size)
          clear hown1 hbw1 b2 hc HL14
          have hown1 := hown2
          have hbw1 := hbw2
          clear hown2 hbw2
          cases o with
          | true =>
            have HYW : Hid (Wh 2 t.data.toList) := .inr ⟨rfl, (ho.1 rfl).1, (ho.1 rfl).2⟩
            clear ho
            have HOK2 : Hid (∀ j, j < k + 1 → Ok 2 (ks.getD j nt)) := HNX.out ⟨HTS.out, HYW.out⟩
            have hBs1 := hbw1.size
            clear HOUT HNX
            go_wp2_with (at_builtin; refine wpList_append_own _ rfl _ _ 22 rfl w.heap.size 9 i0 (.string ByteArray.empty) 1 16 Tryd.underlying22 hi hz0 hz1 hz2 rfl (by decide) _ _ _ rfl (hown1.alloc _) ⟨w2.heap.size, 0, none⟩ 1 1 [.string (ln t)] rfl rfl (ow.cells_new _ [.string (ln t)] _) (by intro u hu; simp at hu; subst hu; rfl) (by unfold maxLen; omega) (by omega) (by simp; omega) ?_; intro v' w3 hown3 hgrow3 hnil3)
            have hb3 := Below.grown (hbw1.alloc hBs1 _) hgrow3 (by simp; omega) (ow.own_lt hown1)
            have HA : Hid (w3.ownsRow w.heap.size 9 1 v' (k + 1) (((ks.take (k + 1)).map ln).map Value.string) ∧ Below w.heap.size w w3) := ⟨by rw [HMT.out, List.map_append]; exact hown3, hb3⟩
            clear hown3 hgrow3 hnil3 hb3 hown1 hbw1
            go_wp2
            go_roundw
            case rel => exact ⟨k + 1, by go_num, by omega, HOK2.out, HA.out.1, HA.out.2⟩
            case measure => first | (simp [intOf]; done) | (simp [intOf]; omega)
          | false =>
            have HNW : Hid (¬ Wh 2 t.data.toList) := fun y => by
              rcases y with ⟨y, _⟩ | ⟨_, y1, y2⟩
              · exact absurd y (by decide)
              · exact absurd (ho.2 ⟨y1, y2⟩) (by decide)
            clear ho
            have HR : Hid (SayIs ks 2 [] 3) := HOUT.out [] 3 (.inr ⟨HTS.out, HNW.out, rfl⟩) rfl
            have HBW : Hid (Below w.heap.size w w2) := hbw1
            clear HOUT HNX hown1 hbw1
            go_wp2
            go_ret2
            exact ⟨⟨_, [], 3, rfl, HR.out, own_made _ _ HBW.out.size⟩, bel_made HBW.out _⟩
        · have hE : (b'.toList == []) = false := by rw [Lib.toList_data]; exact beq_eq_false_iff_ne.2 fun e => hb0 (by rw [Lib.size_eq, e]; rfl)
          have HNW : Hid (¬ Wh 2 t.data.toList) := fun y => by
            rcases y with ⟨y, _⟩ | ⟨_, _, y2⟩
            · exact absurd y (by decide)
            · exact hb0 (HNO.out fun b hb e => by have := y2 b hb; rw [e] at this; exact absurd this (by decide))
          clear hb0 HL14
          have HR : Hid (SayIs ks 2 [] 3) := HOUT.out [] 3 (.inr ⟨HTS.out, HNW.out, rfl⟩) rfl
          have HBW : Hid (Below w.heap.size w w1) := hbw1
          clear HOUT HNX hown1 hbw1
          go_wp2
          go_ret2
          exact ⟨⟨_, [], 3, rfl, HR.out, own_made _ _ HBW.out.size⟩, bel_made HBW.out _⟩
      · have hkn2 : k = n := by omega
        have HR : Hid (SayIs ks 2 (ks.map ln) 0) := HFIN.out _ _ (.inl ⟨rfl, fun j hj => HOK.out j (by have := HN.out; omega), rfl⟩)
        have HKN : Hid (k = n) := hkn2
        rw [List.take_of_length_le (by have := HN.out; omega)] at hown
        have hlt' : decide ((k : Int) < (n : Int)) = false := decide_eq_false (by omega)
        have hlt2 : ¬ (k : Int) < (n : Int) := by omega
        have HBW : Hid (Below w.heap.size w wr) := hbw
        clear hbw hlt hkn hkn2
        go_wp2
        go_ret2
        exact ⟨⟨_, _, 0, rfl, HR.out, by unfold OwnT; rw [List.length_map, ← HN.out, ← HKN.out]; exact hown⟩, HBW.out⟩
end Go.Proofs.YtbfplmafffnghaaDoor.sw
