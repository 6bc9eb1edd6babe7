/-
  Behind a crash, repaired, a log has all records that were sure, and a beginning of the others; for every input.
-/
import Derived.Test.YtcmhpkgboacojaaDoorCards
import Derived.Test.YtcmhpkgboacojaaDoorTie
import Derived.Test.YtcmhpkgboacojaaDoorLgx
import Derived.WalkKit
import Derived.ProofKit
import Derived.OpenShut
import Derived.ShutString
import Derived.OpenVars
import Derived.ChangeOld
import Derived.Below
import Derived.Deep.DeepHandedRow
import Derived.Deep.DeepWitnessRowRef
import Derived.LaidMore
import Derived.Lib.LaidTab
import Derived.Stop.LaidTwo
namespace Go.Proofs.YtcmhpkgboacojaaDoor.fnTorn
open Go.ChangeShapes Go.WideShapes Go.ChangeAt Go.RowKit
open Go.ChangeMaps (open_string shut_string)
set_option linter.unusedVariables false

theorem own : ownKnob Tryd.prog.godebug = none := by kernel_rfl
theorem laidOut : laidOutB Tryd.prog = true := by kernel_rfl

set_option maxHeartbeats 4000000 in
set_option maxRecDepth 100000 in
theorem walk (a0 : Option Addr) (len0 cap0 : Nat) (z0 : List Int) (a1 : Option Addr) (len1 cap1 : Nat) (z1 : List Int) (w : World) (w0 : ag.IsRow .u8 w a0 len0 cap0 z0) (w1 : ag.IsRow .u8 w a1 len1 cap1 z1) (ec eb : Addr) (eca ecb : Array Value) (eta etb : TypeId) (hS : lg.Errs w ec eb eca ecb eta etb) :
    Calls Tryd.prog 6 #[.slice a0 len0 cap0, .slice a1 len1 cap1] w fun e w' => e = .returned (.bool true) ∧ Below w.heap.size w w' := by
  have HS0 : Hid (lg.Errs w ec eb eca ecb eta etb) := hS
  have HW0 : Hid (ag.IsRow .u8 w a0 len0 cap0 z0) := w0
  clear hS
  have HW1 : Hid (ag.IsRow .u8 w a1 len1 cap1 z1) := w1
  by_cases hlen : 1048576 < len0
  · clear w0 w1
    go_enter Tryd.func6, Tryd.ntmps6
    go_wp2
    go_ret
    exact ⟨rfl, Below.refl _ _⟩
  by_cases hlen1 : 1048576 < len1
  · clear w0 w1
    go_enter Tryd.func6, Tryd.ntmps6
    go_wp2
    go_ret
    exact ⟨rfl, Below.refl _ _⟩
  obtain ⟨i0, hi, hz0, hz1, hz2⟩ := info_parts lg.infoT
  obtain ⟨j0, hj, hj0, hj1, hj2⟩ := info_parts sr.infoB
  have HNL : Hid (∀ W, Calls Tryd.prog 23 #[.int .i64 2000] W fun e w' => e = .returned (.tuple #[.agg #[.int .i64 2000, .string ⟨#[]⟩, .int .i64 0], .int .i64 0]) ∧ Below W.heap.size W w') := fun W => lg.spec_new 2000 W
  clear w0 w1
  go_enter Tryd.func6, Tryd.ntmps6
  go_wp2_with fail
  refine (HNL.out w).mono ?_
  rintro e x1 ⟨rfl, k1⟩
  have hge := k1.size
  have G1 := (lg.b3_new x1 28 (.int .i64 2000) (.string ⟨#[]⟩) (.int .i64 0)).keep (lg.new_below _ 9 #[])
  have o1 := ow.own_empty (x1.alloc (.cells #[.int .i64 2000, .string ⟨#[]⟩, .int .i64 0] 28)) 9
  have k2 : Below w.heap.size w ((x1.alloc (.cells #[.int .i64 2000, .string ⟨#[]⟩, .int .i64 0] 28)).alloc (.cells #[] 9)) := k1.trans (((lg.new_below x1 28 #[.int .i64 2000, .string ⟨#[]⟩, .int .i64 0]).trans ((lg.new_below _ 9 #[]).mono (by simp))).mono k1.size)
  rw [show (x1.alloc (.cells #[.int .i64 2000, .string ⟨#[]⟩, .int .i64 0] 28)).heap.size = x1.heap.size + 1 from by simp] at o1
  clear k1 HNL
  go_wp2
  generalize (x1.alloc (.cells #[.int .i64 2000, .string ⟨#[]⟩, .int .i64 0] 28)).alloc (.cells #[] 9) = W2 at G1 o1 k2 ⊢
  obtain ⟨G, hG⟩ : ∃ G, x1.heap.size = G := ⟨_, rfl⟩
  rw [hG] at G1 o1 hge ⊢
  clear hG
  go_loopw [7, 8, 9] (fun v s i wr => ∃ (k j : Nat) (l : List ByteArray), k ≤ 6 ∧ i = .int .i64 k ∧ s = .int .i64 j ∧ l.length = k ∧ j ≤ k ∧ (∀ x ∈ l, sr.Rec x) ∧ lg.B3 wr G 28 (.int .i64 2000) (.string (lg.catR l)) (.int .i64 (lg.catR (l.take j)).size) ∧ ky.OwnT wr (G + 1) v l ∧ Below w.heap.size w wr) (fun _ _ i _ => 6 - (intOf i).toNat)
  case atStart => exact ⟨0, 0, [], by omega, rfl, rfl, rfl, by omega, by simp, G1, o1, k2⟩
  case round =>
    clear G1 o1 k2
    obtain ⟨k, j, l, hk, rfl, rfl, hll, hjk, hrec, hG, hown, hbw⟩ := hrel
    subst hll
    have HRC : Hid (∀ x ∈ l, sr.Rec x) := hrec
    clear hrec
    have hcs := lg.cat_small HRC.out
    have hss : (lg.catR (l.take j)).size ≤ (lg.catR l).size := lg.take_size l j
    obtain ⟨S, hS⟩ : ∃ S, (lg.catR (l.take j)).size = S := ⟨_, rfl⟩
    rw [hS] at hG hss
    have HSS : Hid ((lg.catR (l.take j)).size = S) := hS
    clear hS
    by_cases hlt : l.length < 6
    · have hlt' : (l.length : Int) < 6 := by omega
      have oo := lg.own_one wr 5 (.int .u8 (l.length : Int))
      have hba := hbw.trans ((lg.new_below wr 5 #[.int .u8 (l.length : Int)]).mono hbw.size)
      have hrw : ag.IsRow .u8 (wr.alloc (.cells #[.int .u8 (l.length : Int)] 5)) a0 len0 cap0 z0 := lg.row_below HW0.out hba
      go_wp2_with (at_builtin; refine lg.wp_code rfl _ _ rfl wr.heap.size (l.length : Int) _ a0 len0 cap0 z0 rfl rfl oo ⟨by omega, by omega⟩ hrw (by omega) (by simp) ?_; intro ax cx w3 hB hg3)
      have hb3 : Below wr.heap.size wr w3 := Below.grown (lg.new_below wr 5 #[.int .u8 (l.length : Int)]) hg3 (by simp) (fun j hj => by cases hj; exact Nat.le_refl _)
      have HG3 : Hid (lg.B3 w3 G 28 (.int .i64 2000) (.string (lg.catR l)) (.int .i64 S)) := hG.keep hb3
      have HO3 : Hid (ky.OwnT w3 (G + 1) u7 l) := ow.own_below hown hb3
      have HB3 : Hid (Below w.heap.size w w3) := hbw.trans (hb3.mono hbw.size)
      have HBy : Hid (sr.Bytes w3 ax (1 + len0)) := hB
      clear hB hg3 oo hba hrw hb3 hG hown hbw
      go_wp2_with fail
      refine (sr.recordOf_any w3 ax (1 + len0) cx HBy.out).mono ?_
      rintro e w4 ⟨⟨x, rfl, hrx⟩, k4⟩
      have G4 := HG3.out.keep k4
      have O4 : Hid (ky.OwnT w4 (G + 1) u7 l) := ow.own_below HO3.out k4
      have b4 := HB3.out.trans (k4.mono HB3.out.size)
      clear HG3 HO3 HB3 HBy k4
      obtain ⟨hx1, hx2⟩ := hrx
      have HX : Hid (sr.Rec x) := ⟨hx1, hx2⟩
      have hap : lg.app 2000 (lg.catR l) S x = lg.RV 2000 (lg.catR (l ++ [x])) S 0 := by
        unfold lg.app
        rw [if_neg (by omega), if_neg (by rw [show lg.ok 2000 (lg.catR l).size S = true from decide_eq_true ⟨by omega, by omega, by omega, by omega, by omega⟩]; decide), if_pos ⟨by omega, by omega⟩]
        unfold lg.app1
        rw [if_neg (by omega), lg.catR_app]
      have HP := fun W => lg.spec_app 2000 (lg.catR l) S x W ⟨by omega, by omega⟩ (by omega) ⟨by omega, by omega⟩ (by omega)
      rw [hap] at HP
      have hcs2 : (lg.catR (l ++ [x])).size ≤ 168 := by
        rw [lg.catR_app, ByteArray.size_append, lg.fr_size]
        omega
      have hss2 : S ≤ (lg.catR (l ++ [x])).size := by
        rw [lg.catR_app, ByteArray.size_append]
        omega
      obtain ⟨D2, hD2⟩ : ∃ D, lg.catR (l ++ [x]) = D := ⟨_, rfl⟩
      rw [hD2] at HP hcs2 hss2
      have HSY := fun W => lg.impl_sync 2000 D2 S W ⟨by omega, by omega⟩ (by omega) ⟨by omega, by omega⟩
      have hsy : lg.sync 2000 D2 S = lg.RV 2000 D2 D2.size 0 := if_pos (decide_eq_true ⟨by omega, by omega, by omega, by omega, by omega⟩)
      rw [hsy] at HSY
      have HSY' : Hid _ := HSY
      have HP' : Hid _ := HP
      have HD2 : Hid (lg.catR (l ++ [x]) = D2) := hD2
      clear hD2 HP hap HSY hsy
      have a0' := G4.c0
      have a1' := G4.c1'
      have a2' := G4.c2'
      go_wp2_with fail
      refine (HP'.out w4).mono ?_
      rintro e w7 ⟨rfl, k7⟩
      unfold lg.RV lg.LV
      have G7 := G4.keep k7
      have O7 : Hid (ky.OwnT w7 (G + 1) u7 l) := ow.own_below O4.out k7
      have b7' := b4.trans (k7.mono b4.size)
      clear G4 O4 b4 k7 a0' a1' a2'
      have g0 := G7.c0
      have g1 := G7.c1'
      have g2 := G7.c2'
      have f0 := G7.f 0
      have f1 := G7.f 1
      have f2 := G7.f 2
      have G8 := G7.put (a' := .int .i64 2000) (b' := .string D2) (c' := .int .i64 S)
      have O8 : ky.OwnT (lg.put w7 G (.int .i64 2000) (.string D2) (.int .i64 S)) (G + 1) u7 l := ownsRow_setCell_below (ownsRow_setCell_below (ownsRow_setCell_below O7.out (a := ⟨G, 0, none⟩) (by show G < G + 1; omega) _) (a := ⟨G, 1, none⟩) (by show G < G + 1; omega) _) (a := ⟨G, 2, none⟩) (by show G < G + 1; omega) _
      have b8 : Below w.heap.size w (lg.put w7 G (.int .i64 2000) (.string D2) (.int .i64 S)) := lg.put_below b7' hge
      have hsz8 : (lg.put w7 G (.int .i64 2000) (.string D2) (.int .i64 S)).heap.size = w7.heap.size := lg.put_size
      have hnw := ow.cells_new (lg.put w7 G (.int .i64 2000) (.string D2) (.int .i64 S)) [Value.string x] 9
      rw [hsz8] at hnw
      have HN8 : Hid _ := hnw
      have HG8 : Hid _ := G8
      have HO8 : Hid (ky.OwnT _ _ _ _) := O8
      have HB8 : Hid _ := b8
      have hGlt : G < w7.heap.size := by have := G8.lt; rw [hsz8] at this; exact this
      clear hnw G8 O8 b8 hsz8 O7 b7'
      go_wp2_with (at_builtin; refine wpList_append_own _ rfl _ _ 25 rfl (G + 1) 9 i0 (.string ⟨#[]⟩) 1 16 Tryd.underlying25 hi hz0 hz1 hz2 rfl (by decide) _ _ _ rfl (HO8.out.alloc _) ⟨w7.heap.size, 0, none⟩ 1 1 [.string x] rfl rfl HN8.out (by intro u hu; simp at hu; subst hu; rfl) (by unfold maxLen; omega) (by omega) (by simp; omega) ?_; intro v' w9 hown9 hgrow9 hnil9)
      have hb9 : Below w.heap.size w w9 := Below.grown (HB8.out.alloc HB8.out.size _) hgrow9 (HB8.out.alloc HB8.out.size _).size (fun j hj => Nat.le_trans (by omega) (ow.own_lt HO8.out j hj))
      have hG9 : lg.B3 w9 G 28 (.int .i64 2000) (.string D2) (.int .i64 S) := by
        have h1 := lg.B3.keep HG8.out (lg.new_below _ 9 #[.string x])
        have h1lt := lg.B3.lt h1
        unfold lg.B3 at h1 ⊢
        rw [hgrow9.block G h1lt (fun e => by have := ow.own_lt HO8.out G e.symm; omega)]
        exact h1
      have O9 : Hid (ky.OwnT w9 (G + 1) v' (l ++ [x])) := by
        show w9.ownsRow _ _ _ _ _ _
        rw [List.length_append, List.map_append]
        exact hown9
      obtain ⟨xv, xc, hv'⟩ : ∃ ao c, v' = .slice ao (l.length + 1) c := by
        rcases hown9.2 with ⟨_, h⟩ | ⟨g, cap, cur, e, _⟩
        · omega
        · exact ⟨_, _, e⟩
      subst hv'
      clear hown9 hgrow9 hnil9 HN8 HG8 HO8 HB8 g0 g1 g2 f0 f1 f2 G7
      have HBM : Hid (sr.Bytes w9 a1 len1) := ag.row_bytes (lg.row_below HW1.out hb9) (by omega)
      go_wp2_with fail
      refine (lg.at_any w9 a1 len1 cap1 l.length 3 HBM.out (by omega) (by omega) (by omega) (by omega)).mono ?_
      rintro e w10 ⟨⟨z, rfl, hzz0, hzz3⟩, k10⟩
      have G10 := hG9.keep k10
      have O10 : Hid (ky.OwnT w10 (G + 1) (.slice xv (l.length + 1) xc) (l ++ [x])) := ow.own_below O9.out k10
      have b10 := hb9.trans (k10.mono hb9.size)
      clear hG9 O9 hb9 k10 HBM
      by_cases hzc : z = 0
      · subst hzc
        have g0 := G10.c0
        have g1 := G10.c1'
        have g2 := G10.c2'
        go_wp2_with fail
        refine (HSY'.out w10).mono ?_
        rintro e w11 ⟨rfl, k11⟩
        unfold lg.RV lg.LV
        have G11 := (G10.keep k11).keep (lg.new_below w11 28 #[.int .i64 2000, .string D2, .int .i64 D2.size])
        have M11 := lg.b3_new w11 28 (.int .i64 2000) (.string D2) (.int .i64 D2.size)
        have O11 : ky.OwnT (w11.alloc (.cells #[.int .i64 2000, .string D2, .int .i64 D2.size] 28)) (G + 1) (.slice xv (l.length + 1) xc) (l ++ [x]) := ow.own_below (ow.own_below O10.out k11) (lg.new_below w11 28 #[.int .i64 2000, .string D2, .int .i64 D2.size])
        have b11 := b10.trans (k11.mono b10.size)
        have b11' := b11.trans ((lg.new_below w11 28 #[.int .i64 2000, .string D2, .int .i64 D2.size]).mono b11.size)
        clear G10 O10 b10 k11 b11 g0 g1 g2
        have m0 := M11.c0
        have m1 := M11.c1'
        have m2 := M11.c2'
        have g0 := G11.c0
        have g1 := G11.c1'
        have g2 := G11.c2'
        have f0 := G11.f 0
        have f1 := G11.f 1
        have f2 := G11.f 2
        have HG12 : Hid (lg.B3 (lg.put (w11.alloc (.cells #[.int .i64 2000, .string D2, .int .i64 D2.size] 28)) G (.int .i64 2000) (.string D2) (.int .i64 D2.size)) G 28 (.int .i64 2000) (.string (lg.catR (l ++ [x]))) (.int .i64 (lg.catR ((l ++ [x]).take (l.length + 1))).size)) := by
          rw [List.take_of_length_le (by simp), HD2.out]
          exact G11.put
        have HO12 : Hid (ky.OwnT (lg.put (w11.alloc (.cells #[.int .i64 2000, .string D2, .int .i64 D2.size] 28)) G (.int .i64 2000) (.string D2) (.int .i64 D2.size)) (G + 1) (.slice xv (l.length + 1) xc) (l ++ [x])) := ownsRow_setCell_below (ownsRow_setCell_below (ownsRow_setCell_below O11 (a := ⟨G, 0, none⟩) (by show G < G + 1; omega) _) (a := ⟨G, 1, none⟩) (by show G < G + 1; omega) _) (a := ⟨G, 2, none⟩) (by show G < G + 1; omega) _
        have HB12 : Hid (Below w.heap.size w (lg.put (w11.alloc (.cells #[.int .i64 2000, .string D2, .int .i64 D2.size] 28)) G (.int .i64 2000) (.string D2) (.int .i64 D2.size))) := lg.put_below b11' hge
        clear O11 b11'
        go_wp2
        go_roundw
        case rel => exact ⟨l.length + 1, l.length + 1, l ++ [x], by omega, by go_num, by go_num, by simp, by omega, fun y hy => by
            rcases List.mem_append.1 hy with h | h
            · exact HRC.out y h
            · rw [List.mem_singleton.1 h]; exact HX.out, HG12.out, HO12.out, HB12.out⟩
        case measure => simp [intOf]; omega
      · have hzb : (z == 0) = false := beq_eq_false_iff_ne.2 hzc
        have HG12 : Hid (lg.B3 w10 G 28 (.int .i64 2000) (.string (lg.catR (l ++ [x]))) (.int .i64 (lg.catR ((l ++ [x]).take j)).size)) := by
          rw [List.take_append_of_le_length (by omega), HSS.out, HD2.out]
          exact G10
        clear G10
        go_wp2
        go_roundw
        case rel => exact ⟨l.length + 1, j, l ++ [x], by omega, by go_num, rfl, by simp, by omega, fun y hy => by
            rcases List.mem_append.1 hy with h | h
            · exact HRC.out y h
            · rw [List.mem_singleton.1 h]; exact HX.out, HG12.out, O10.out, b10⟩
        case measure => simp [intOf]; omega
    · have hk6 : l.length = 6 := by omega
      have HRT : Hid (lg.Rights l) := lg.cat_rights HRC.out
      have hcs6 : (lg.catR l).size ≤ 168 := by omega
      obtain ⟨DD, hDD⟩ : ∃ D, lg.catR l = D := ⟨_, rfl⟩
      rw [hDD] at hG hss hcs6
      have HDD : Hid (lg.catR l = DD) := hDD
      have HGR : Hid (lg.B3 wr G 28 (.int .i64 2000) (.string DD) (.int .i64 S)) := hG
      have HOR : Hid (ky.OwnT wr (G + 1) u7 l) := hown
      have HBR : Hid (Below w.heap.size w wr) := hbw
      have HBM : Hid (sr.Bytes wr a1 len1) := ag.row_bytes (lg.row_below HW1.out hbw) (by omega)
      have HK6 : Hid (l.length = 6) := hk6
      clear hcs hDD hG hown hbw hk6
      go_wp2_with fail
      clear hk hlt
      refine rr.region_rel2 (by kernel_rfl) (fun f => { tmps := #[.slice a0 len0 cap0, .slice a1 len1 cap1, undef, undef, u4, .pointer (some ⟨G, 0, none⟩), .int .i64 0, u7, .int .i64 j, .int .i64 l.length, u10, u11, u12, f 7, f 9, undef, undef, undef, undef, undef, .slice a0 len0 cap0, .int .i64 len0, .bool (decide (1048576 < (len0 : Int))), .bool (decide (1048576 < (len0 : Int))), .slice a1 len1 cap1, .int .i64 len1, .bool (decide (1048576 < (len1 : Int))), .bool (decide (1048576 < (len0 : Int)) || decide (1048576 < (len1 : Int))), .tuple #[.agg #[.int .i64 2000, .string ⟨#[]⟩, .int .i64 0], .int .i64 0], .tuple #[.agg #[.int .i64 2000, .string ⟨#[]⟩, .int .i64 0], .int .i64 0], .agg #[.int .i64 2000, .string ⟨#[]⟩, .int .i64 0], .int .i64 0, .slice (some ⟨G + 1, 0, none⟩) 0 0, .int .i64 l.length, .bool (decide ((l.length : Int) < 6)), u35, u36, u37, u38, u39, u40, u41, u42, u43, u44, u45, u46, u47, u48, u49, u50, u51, u52, u53, u54, u55, u56, u57, u58, u59, u60, u61, u62, u63, u64, u65, u66, f 4, f 0, f 1, f 2, f 3, f 5, f 6, undef, undef, undef, undef, undef, undef, undef, undef, undef, undef, undef, undef, undef, undef, undef, undef, undef, undef, undef, undef, undef, undef, undef, undef, undef, undef, undef, undef, undef, undef, undef, undef, undef, undef, undef, undef, undef, undef, undef, undef, undef, undef, undef, undef, undef, undef, undef, undef, undef], defers := [] }) (fun w' => Below wr.heap.size wr w') (lg.RT DD S (.slice a1 len1 cap1) wr.heap.size) (fun _ => undef) rfl ((Below.refl _ _).drew) (rr.deps_of (by kernel_rfl)) ?_ ?_
      · intro i' o ho D f w hc hR hall hni hcl hV
        match i', ho with
        | 0, ho =>
          cases ho
          have HRR : Hid (∀ j, D j → lg.RT DD S (.slice a1 len1 cap1) wr.heap.size j f w) := hR
          have q0 := (HGR.out.keep hc).c0
          have q1 := (HGR.out.keep hc).c1'
          have q2 := (HGR.out.keep hc).c2'
          clear hR hall hcl hV
          refine wpOp_step rfl (fun K' hK => ?_)
          go_simp
          exact hK _ _ ⟨.agg #[.int .i64 2000, .string DD, .int .i64 S], by simp [rr.upd], hc, rr.upd_same f 0 _, fun j hj hd => lg.rt_upd hj (by omega) (HRR.out j hd)⟩
        | 1, ho =>
          cases ho
          have HRR : Hid (∀ j, D j → lg.RT DD S (.slice a1 len1 cap1) wr.heap.size j f w) := hR
          clear hR hall hcl hV
          refine wpOp_step rfl (fun K' hK => ?_)
          go_simp
          exact hK _ _ ⟨.slice a1 len1 cap1, by simp [rr.upd], hc, rr.upd_same f 1 _, fun j hj hd => lg.rt_upd hj (by omega) (HRR.out j hd)⟩
        | 2, ho =>
          cases ho
          have d1 : D 1 := hall { on := 1, ground := Ground.data } (by simp) rfl
          have HRR : Hid (∀ j, D j → lg.RT DD S (.slice a1 len1 cap1) wr.heap.size j f w) := hR
          have h1 : f 1 = .slice a1 len1 cap1 := hR 1 d1
          have HAT : Hid _ := lg.at_any w a1 len1 cap1 9 90 (sr.bytes_below HBM.out hc) (by omega) (by omega) (by omega) (by omega)
          clear hR hall hcl hV
          refine wpOp_step rfl (fun K' hK => ?_)
          simp only [h1]
          go_wp2_with (go_at_call 24; refine Calls.mono HAT.out ?_; rintro e w' ⟨⟨z, rfl, z0, z1⟩, hb⟩)
          exact ⟨.int .i64 z, by simp [rr.upd, h1], hc.trans (hb.mono hc.size), ⟨z, rr.upd_same f 2 _, z0, z1⟩, fun j hj hd => lg.rt_keep (lg.rt_upd hj (by omega) (HRR.out j hd)) hb⟩
        | 3, ho =>
          cases ho
          have d0 : D 0 := hall { on := 0, ground := Ground.data } (by simp) rfl
          have d2 : D 2 := hall { on := 2, ground := Ground.data } (by simp) rfl
          have HRR : Hid (∀ j, D j → lg.RT DD S (.slice a1 len1 cap1) wr.heap.size j f w) := hR
          have h0 : f 0 = .agg #[.int .i64 2000, .string DD, .int .i64 S] := hR 0 d0
          obtain ⟨z, h2, z0, z1⟩ : ∃ z : Int, f 2 = .int .i64 z ∧ 0 ≤ z ∧ z < 90 := hR 2 d2
          have HCR := lg.impl_crash 2000 DD S z w ⟨by omega, by omega⟩ (by omega) ⟨by omega, by omega⟩ ⟨by omega, by omega⟩
          have hok : lg.ok 2000 DD.size S = true := decide_eq_true ⟨by omega, by omega, by omega, by omega, by omega⟩
          have hkk := lg.left_le z hok
          have hcr : lg.crash 2000 DD S z = lg.RV 2000 (DD.extract 0 (lg.left DD.size S z)) (lg.left DD.size S z) 0 := if_pos hok
          rw [hcr] at HCR
          generalize lg.left DD.size S z = K at HCR hkk
          have hKS : S ≤ K ∧ K ≤ DD.size := ⟨by omega, hkk.1⟩
          have HCR' : Hid _ := HCR
          clear hR hall hcl hV hcr HCR hok hkk
          unfold lg.RV lg.LV at HCR'
          refine wpOp_step rfl (fun K' hK => ?_)
          simp only [h0, h2]
          go_wp2_with (go_at_call 26; refine Calls.mono HCR'.out ?_; rintro e w' ⟨rfl, hb⟩)
          exact ⟨.tuple #[.agg #[.int .i64 2000, .string (DD.extract 0 K), .int .i64 K], .int .i64 0], by simp [rr.upd, h0, h2], hc.trans (hb.mono hc.size), ⟨K, hKS.1, hKS.2, rr.upd_same f 3 _⟩, fun j hj hd => lg.rt_keep (lg.rt_upd hj (by omega) (HRR.out j hd)) hb⟩
        | 4, ho =>
          cases ho
          have d3 : D 3 := hall { on := 3, ground := Ground.data } (by simp) rfl
          have HRR : Hid (∀ j, D j → lg.RT DD S (.slice a1 len1 cap1) wr.heap.size j f w) := hR
          obtain ⟨K, k1, k2, h3⟩ : ∃ K : Nat, S ≤ K ∧ K ≤ DD.size ∧ f 3 = .tuple #[.agg #[.int .i64 2000, .string (DD.extract 0 K), .int .i64 K], .int .i64 0] := hR 3 d3
          clear hR hall hcl hV
          refine wpOp_step rfl (fun K' hK => ?_)
          simp only [h3]
          go_simp
          exact hK _ _ ⟨.tuple #[.agg #[.int .i64 2000, .string (DD.extract 0 K), .int .i64 K], .int .i64 0], by simp [rr.upd, h3], hc, ⟨K, k1, k2, rr.upd_same f 4 _⟩, fun j hj hd => lg.rt_upd hj (by omega) (HRR.out j hd)⟩
        | 5, ho =>
          cases ho
          have d4 : D 4 := hall { on := 4, ground := Ground.data } (by simp) rfl
          have HRR : Hid (∀ j, D j → lg.RT DD S (.slice a1 len1 cap1) wr.heap.size j f w) := hR
          obtain ⟨K, k1, k2, h4⟩ : ∃ K : Nat, S ≤ K ∧ K ≤ DD.size ∧ f 4 = .tuple #[.agg #[.int .i64 2000, .string (DD.extract 0 K), .int .i64 K], .int .i64 0] := hR 4 d4
          clear hR hall hcl hV
          refine wpOp_step rfl (fun K' hK => ?_)
          simp only [h4]
          go_simp
          exact hK _ _ ⟨.agg #[.int .i64 2000, .string (DD.extract 0 K), .int .i64 K], by simp [rr.upd, h4], hc, ⟨K, k1, k2, rr.upd_same f 5 _⟩, fun j hj hd => lg.rt_upd hj (by omega) (HRR.out j hd)⟩
        | 6, ho =>
          cases ho
          have d4 : D 4 := hall { on := 4, ground := Ground.data } (by simp) rfl
          have HRR : Hid (∀ j, D j → lg.RT DD S (.slice a1 len1 cap1) wr.heap.size j f w) := hR
          obtain ⟨K, k1, k2, h4⟩ : ∃ K : Nat, S ≤ K ∧ K ≤ DD.size ∧ f 4 = .tuple #[.agg #[.int .i64 2000, .string (DD.extract 0 K), .int .i64 K], .int .i64 0] := hR 4 d4
          clear hR hall hcl hV
          refine wpOp_step rfl (fun K' hK => ?_)
          simp only [h4]
          go_simp
          exact hK _ _ ⟨.int .i64 0, by simp [rr.upd, h4], hc, rr.upd_same f 6 _, fun j hj hd => lg.rt_upd hj (by omega) (HRR.out j hd)⟩
        | 7, ho =>
          cases ho
          have HRR : Hid (∀ j, D j → lg.RT DD S (.slice a1 len1 cap1) wr.heap.size j f w) := hR
          have hnb : ¬ D 8 := fun h8 => hni (hcl 8 _ h8 rfl { on := 7, ground := Ground.data } (by simp) rfl)
          have hnew := lg.b3_new w 28 (.int .i64 0) (.string ⟨#[]⟩) (.int .i64 0)
          have hbn := lg.new_below w 28 #[.int .i64 0, .string ⟨#[]⟩, .int .i64 0]
          have hcs2 := hc.size
          clear hR hall hcl hV
          refine wpOp_step rfl (fun K' hK => ?_)
          go_simp
          exact hK _ _ ⟨.pointer (some ⟨w.heap.size, 0, none⟩), by simp [rr.upd], hc.trans (hbn.mono hc.size), ⟨w.heap.size, hcs2, rr.upd_same f 7 _, _, _, _, hnew⟩, fun j hj hd => lg.rt_keep (lg.rt_upd hj (fun e => hnb (e.1 ▸ hd)) (HRR.out j hd)) hbn⟩
        | 8, ho =>
          cases ho
          have d7 : D 7 := hall { on := 7, ground := Ground.data } (by simp) rfl
          have d5 : D 5 := hall { on := 5, ground := Ground.data } (by simp) rfl
          have HRR : Hid (∀ j, D j → lg.RT DD S (.slice a1 len1 cap1) wr.heap.size j f w) := hR
          obtain ⟨g, g1, h7, za, zb, zc, hbx⟩ : ∃ g : Nat, wr.heap.size ≤ g ∧ f 7 = .pointer (some ⟨g, 0, none⟩) ∧ ∃ a b c, lg.B3 w g 28 a b c := hR 7 d7
          obtain ⟨K, k1, k2, h5⟩ : ∃ K : Nat, S ≤ K ∧ K ≤ DD.size ∧ f 5 = .agg #[.int .i64 2000, .string (DD.extract 0 K), .int .i64 K] := hR 5 d5
          have r0 := hbx.c0
          have r1 := hbx.c1'
          have r2 := hbx.c2'
          have f0 := hbx.f 0
          have f1 := hbx.f 1
          have f2 := hbx.f 2
          have hput := hbx.put (a' := .int .i64 2000) (b' := .string (DD.extract 0 K)) (c' := .int .i64 K)
          have hbp := lg.put_below (g := g) (a := .int .i64 2000) (b := .string (DD.extract 0 K)) (c := .int .i64 K) hc g1
          have HPU : Hid _ := hput
          have HBP : Hid _ := hbp
          clear hR hall hcl hV hput hbp hbx
          refine wpOp_step rfl (fun K' hK => ?_)
          simp only [h7, h5]
          go_simp
          exact hK _ _ ⟨undef, by simp [rr.upd, h7, h5], HBP.out, ⟨g, K, g1, k1, k2, (rr.upd_other f 8 undef (by omega)).trans h7, HPU.out⟩, fun j hj hd => lg.rt_put hj h7 HPU.out (HRR.out j hd)⟩
        | 9, ho =>
          cases ho
          have d6 : D 6 := hall { on := 6, ground := Ground.data } (by simp) rfl
          have HRR : Hid (∀ j, D j → lg.RT DD S (.slice a1 len1 cap1) wr.heap.size j f w) := hR
          have h6 : f 6 = .int .i64 0 := hR 6 d6
          clear hR hall hcl hV
          refine wpOp_step rfl (fun K' hK => ?_)
          simp only [h6]
          go_simp
          exact hK _ _ ⟨.int .i64 0, by simp [rr.upd, h6], hc, rr.upd_same f 9 _, fun j hj hd => lg.rt_upd hj (by omega) (HRR.out j hd)⟩
        | k + 10, ho => simp at ho
      · intro f w5 hc hR
        obtain ⟨g, K, g1, k1, k2, h7, hbx⟩ : ∃ (g K : Nat), wr.heap.size ≤ g ∧ S ≤ K ∧ K ≤ DD.size ∧ f 7 = .pointer (some ⟨g, 0, none⟩) ∧ lg.B3 w5 g 28 (.int .i64 2000) (.string (DD.extract 0 K)) (.int .i64 K) := hR 8 (by simp)
        have h9 : f 9 = .int .i64 0 := hR 9 (by simp)
        clear hR
        have hKl : K ≤ (lg.catR l).size := by rw [HDD.out]; exact k2
        have h2k : (lg.catR l).size ≤ 2000 := by rw [HDD.out]; omega
        have hrp := lg.repair_torn HRT.out hKl h2k
        have hrc := lg.recR_take HRT.out (lg.fits l K) h2k
        have hjm : j ≤ lg.fits l K := lg.fits_max l K j hjk (by rw [HSS.out]; exact k1)
        have hml := lg.fits_le l K
        have hts := lg.take_size l (lg.fits l K)
        have hSz : (DD.extract 0 K).size = K := by rw [lg.size_ex (by omega) k2]; omega
        have HRP := fun (W : World) (hE : lg.Errs W ec eb eca ecb eta etb) => lg.impl_repair 2000 (DD.extract 0 K) K W ec eb eca ecb eta etb ⟨by omega, by omega⟩ (by omega) ⟨by omega, by omega⟩ hE
        rw [HDD.out] at hrp
        rw [hrp] at HRP
        generalize hm : lg.fits l K = m at HRP hrc hjm hml hts
        have hlm : (l.take m).length = m := by rw [List.length_take]; omega
        obtain ⟨Y, hY⟩ : ∃ Y, lg.catR (l.take m) = Y := ⟨_, rfl⟩
        rw [hY] at HRP hrc hts
        have HRC2 := fun (W : World) (hE : lg.Errs W ec eb eca ecb eta etb) => lg.impl_recs 2000 Y Y.size W ec eb eca ecb eta etb ⟨by omega, by omega⟩ (by omega) ⟨by omega, by omega⟩ hE
        rw [hrc] at HRC2
        simp only at HRC2
        have HRP' : Hid _ := HRP
        have HRC' : Hid _ := HRC2
        have HLM : Hid ((l.take m).length = m) := hlm
        have HBX : Hid (lg.B3 w5 g 28 (.int .i64 2000) (.string (DD.extract 0 K)) (.int .i64 K)) := hbx
        have HO5 : Hid (ky.OwnT w5 (G + 1) u7 l) := ow.own_below HOR.out hc
        have HB5 : Hid (Below w.heap.size w w5) := HBR.out.trans (hc.mono HBR.out.size)
        have hm6 : m ≤ 6 := by have := HK6.out; omega
        clear hrp hrc hKl h2k hts hSz HRP HRC2 hlm hbx hc hm hY k1 k2 g1
        obtain ⟨xa, xc, hu7⟩ := lg.own_slice HO5.out
        subst hu7
        generalize hll6 : l.length = n6 at *
        simp only [h7, h9]
        have p0 := HBX.out.c0
        have p1 := HBX.out.c1'
        have p2 := HBX.out.c2'
        go_wp2_with fail
        refine (HRP'.out w5 (HS0.out.keep HB5.out)).mono ?_
        rintro e w6 ⟨rfl, k6⟩
        unfold lg.RV lg.LV
        have M6 := lg.b3_new w6 28 (.int .i64 2000) (.string Y) (.int .i64 Y.size)
        have b6 := HB5.out.trans (k6.mono HB5.out.size)
        have b6' := b6.trans ((lg.new_below w6 28 #[.int .i64 2000, .string Y, .int .i64 Y.size]).mono b6.size)
        have O6 : Hid (ky.OwnT (w6.alloc (.cells #[.int .i64 2000, .string Y, .int .i64 Y.size] 28)) (G + 1) (.slice xa n6 xc) l) := ow.own_below (ow.own_below HO5.out k6) (lg.new_below w6 28 #[.int .i64 2000, .string Y, .int .i64 Y.size])
        clear HO5 HB5 k6 b6 p0 p1 p2 HBX
        have q0 := M6.c0
        have q1 := M6.c1'
        have q2 := M6.c2'
        go_wp2_with fail
        generalize w6.heap.size = N6 at M6 ⊢
        generalize w6.alloc _ = w7 at M6 b6' O6 q0 q1 q2 ⊢
        refine (HRC'.out w7 (HS0.out.keep b6')).mono ?_
        rintro e w8 ⟨⟨v8, rfl, own8⟩, k8⟩
        have M8 := M6.keep k8
        have b8 := b6'.trans (k8.mono b6'.size)
        have T8 : Hid (ky.TextsAt w8 v8 (l.take m)) := ky.own_texts own8
        have O8 : Hid (ky.OwnT w8 (G + 1) (.slice xa n6 xc) l) := ow.own_below O6.out k8
        obtain ⟨va, vc, hv8⟩ := lg.own_slice own8
        rw [HLM.out] at hv8
        subst hv8
        have TL : Hid (∀ c', ky.TextsAt w8 (.slice xa m c') (l.take m)) := fun c' => lg.take_texts (by rw [hll6]; exact ky.own_texts O8.out) (by omega) c'
        have hxc : n6 ≤ xc := by
          rcases O8.out.2 with ⟨e, h0⟩ | ⟨g, cap, cur, e, _, _, h1, _⟩
          · cases e; omega
          · cases e; omega
        clear M6 b6' O6 k8 own8 q0 q1 q2 O8
        have q1 := M8.c1
        have hyy : ((Y.size : Int) == Y.size) = true := by simp
        have hmj : (j : Int) ≤ (m : Int) := by omega
        have hmn : (m : Int) ≤ (n6 : Int) := by omega
        go_wp2_with fail
        refine (lg.sameTexts_any (.slice va m vc) (.slice xa m _) (l.take m) w8 T8.out (TL.out _) (by rw [HLM.out]; omega)).mono ?_
        rintro e w9 ⟨rfl, k9⟩
        go_wp2
        go_ret
        exact ⟨rfl, b8.trans (k9.mono b8.size)⟩

set_option maxRecDepth 100000 in
theorem gC : Tryd.prog.globalNamed ((Rows.fnExactLogRecordsRow.laid.map (·.1)).getD 0 "") = some 1 := by kernel_rfl
theorem gW : Tryd.prog.globalNamed ((Rows.fnExactLogRecordsRow.laid.map (·.1)).getD 1 "") = some 0 := by kernel_rfl
theorem errs_of (W : World) (hL : laidMet Tryd.prog Rows.fnTornRow.laid W) : ∃ (c b : Addr) (ca cb : Array Value) (ta tb : TypeId), lg.Errs W c b ca cb ta tb := by
  obtain ⟨a0, a1, s0, s1, c0, c1, t0, t1, hv0, hv1, hc0, hs0, hz0, hc1, hs1, hz1, hne, hb0, hb1⟩ := laid_sentinels2 (ti := 47) hL gC (by kernel_rfl) gW (by kernel_rfl) Tryd.underlying47 (fun u h => typeName_ptr_named (nm := "errors.errorString") (by kernel_rfl) (by kernel_rfl) (by decide) u (h.trans (congrArg some (by decide)))) Tryd.underlying96 Tryd.underlying118 rfl rfl Tryd.underlying9 (by kernel_rfl) (by kernel_rfl)
  have hg0 : W.cell? ⟨1, 0, none⟩ = some (.iface 96 (.pointer (some a0))) := by simpa using World.var?_cell gC hv0 0
  have hg1 : W.cell? ⟨0, 0, none⟩ = some (.iface 96 (.pointer (some a1))) := by simpa using World.var?_cell gW hv1 0
  exact ⟨a0, a1, c0, c1, t0, t1, hg0, hg1, hne, hb0, hb1⟩

set_option maxRecDepth 100000 in
theorem contract (H : Type) (enc : TypeId × Value → H) (W : World) (base : Nat) (args : Array Value) (ds gs : List (DataW H)) (before : List MemPlace)
    (hval : ∀ (j : Nat) t v, Tryd.f6.params[j]? = some t → args[j]? = some v → Value.okWide Tryd.prog W .any base t v)
    (hW : DataW.Whole enc Tryd.prog Tryd.f6.params.toList Rows.fnTornSpec.vars false W args.toList ds gs before) (hL : laidMetH Tryd.prog Rows.fnTornRow.laid W) (hsh : W.ShapedOpen Tryd.prog) :
    Calls Tryd.prog 6 args W fun e W' => ∃ v, e = .returned v ∧ Rows.fnTornSpec.post enc Tryd.prog Tryd.f6 false true false false W args v W' := by
  have hW' := hW
  obtain ⟨p, q, hA0, hV, rfl, hfz, hnd⟩ := hW
  have hA : DataW.TrodAll enc Tryd.prog W 0 (fun _ => true) true Tryd.f6.params.toList args.toList ds p := hA0
  rw [Tryd.params6] at hA hval
  obtain ⟨v0, vs0, d0, ds0, p0, q0, hargs0, rfl, rfl, h0, r0⟩ := trodAll_cons hA
  obtain ⟨v1, vs1, d1, ds1, p1, q1, hargs1, rfl, rfl, h1, r1⟩ := trodAll_cons r0
  obtain ⟨hnil, rfl, rfl⟩ := trodAll_nil r1
  obtain rfl : args = #[v0, v1] := by cases args; simp_all
  obtain ⟨a0, len0, cap0, rfl⟩ := okWide_slice Tryd.underlying36 (hval 0 36 v0 rfl rfl)
  have k0 := h0
  have lt0 : ∀ x ∈ p0, x.block < W.heap.size := by obtain ⟨m, hm⟩ := k0; exact DataW.trod_lt m _ _ _ hm
  obtain ⟨z0, w0⟩ : ∃ zs, ag.IsRow .u8 W a0 len0 cap0 zs := by
    obtain ⟨fuel, hf⟩ := h0
    rcases open_ints Tryd.underlying36 Tryd.underlying5 (by kernel_rfl) hf with ⟨hcs, _⟩ | ⟨x, l, c, zs, hcs, _, hl, hm, hz, _, hcell, hwz⟩
    · simp [Value.cells] at hcs
      obtain ⟨rfl, rfl, rfl⟩ := hcs
      exact ⟨[], .inl ⟨rfl, rfl, rfl, rfl⟩⟩
    · simp [Value.cells] at hcs
      obtain ⟨rfl, rfl, rfl⟩ := hcs
      exact ⟨zs, .inr ⟨_, rfl, hl, hm, by simpa using hz, hcell, hwz⟩⟩
  obtain ⟨a1, len1, cap1, rfl⟩ := okWide_slice Tryd.underlying36 (hval 1 36 v1 rfl rfl)
  have k1 := h1
  have lt1 : ∀ x ∈ p1, x.block < W.heap.size := by obtain ⟨m, hm⟩ := k1; exact DataW.trod_lt m _ _ _ hm
  obtain ⟨z1, w1⟩ : ∃ zs, ag.IsRow .u8 W a1 len1 cap1 zs := by
    obtain ⟨fuel, hf⟩ := h1
    rcases open_ints Tryd.underlying36 Tryd.underlying5 (by kernel_rfl) hf with ⟨hcs, _⟩ | ⟨x, l, c, zs, hcs, _, hl, hm, hz, _, hcell, hwz⟩
    · simp [Value.cells] at hcs
      obtain ⟨rfl, rfl, rfl⟩ := hcs
      exact ⟨[], .inl ⟨rfl, rfl, rfl, rfl⟩⟩
    · simp [Value.cells] at hcs
      obtain ⟨rfl, rfl, rfl⟩ := hcs
      exact ⟨zs, .inr ⟨_, rfl, hl, hm, by simpa using hz, hcell, hwz⟩⟩
  clear hA0
  simp only [List.append_nil] at hW'
  have hLL : laidMet Tryd.prog Rows.fnTornRow.laid W := hL
  obtain ⟨g, t, cs, fuel, d, pp, g2, t2, cs2, fuel2, d2, pp2, rfl, _⟩ := trodVars_two hV
  have hS := errs_of W hLL
  obtain ⟨ec, eb, eca, ecb, eta, etb, hS⟩ := hS
  refine (walk a0 len0 cap0 z0 a1 len1 cap1 z1 W w0 w1 _ _ _ _ _ _ hS).mono fun e W' ⟨he, bel⟩ => ?_
  subst he
  exact ⟨_, rfl, _, _, _, [], _, _, hW', trodAll_cons_mk (shut_bool Tryd.underlying4 _) trodAll_mk0, (trodAll_cons_mk (Below.trod laidOut (by kernel_rfl) (of_decide_eq_true (by kernel_rfl)) k0 bel lt0) (trodAll_cons_mk (Below.trod laidOut (by kernel_rfl) (of_decide_eq_true (by kernel_rfl)) k1 bel lt1) trodAll_mk0)), Below.trodVars laidOut bel (by kernel_rfl) hV, bel.frame _, fun h => by cases h⟩
set_option maxRecDepth 100000 in
theorem laid_met (os : Os) : laidMet Tryd.prog Rows.fnTornRow.laid ((World.doorLaid Tryd.prog 47 os).forCall (fun _ _ => 0) ⟨#[], #[Value.slice none 0 0, Value.slice none 0 0], []⟩).memory :=
  laidMet_of_run' 8 (by kernel_rfl) (by kernel_rfl)
theorem reads (os : Os) {H : Type} (enc : TypeId × Value → H) : (DataW.whole enc Tryd.prog ((World.doorLaid Tryd.prog 47 os).forCall (fun _ _ => 0) ⟨#[], #[Value.slice none 0 0, Value.slice none 0 0], []⟩).memory Tryd.f6.params.toList Rows.fnTornSpec.vars false #[Value.slice none 0 0, Value.slice none 0 0].toList 8).isSome = true := by kernel_rfl

set_option maxRecDepth 100000 in
theorem lifted (os : Os) (started : os.Started) (H : Type) (enc : TypeId × Value → H) (F : Stop.Interp) :
    ReturnsInHanded {} Tryd.checked os 6 .any ((OpenSpec.ofChange Rows.fnTornSpec).preRow enc Tryd.prog Tryd.f6 Rows.fnTornRow.domain false Rows.fnTornRow.laid) (((OpenSpec.ofChange Rows.fnTornSpec).at F).post enc Tryd.prog Tryd.f6 false true false false) := by
  obtain ⟨x, hx⟩ := Option.isSome_iff_exists.1 (reads os enc)
  refine returnsInHanded_of_row (C := Tryd.checked) (s := OpenSpec.ofChange Rows.fnTornSpec) own started (by kernel_rfl) Tryd.func6
    (witness_row_atRef (enc := enc) (C := Tryd.checked) false (World.doorLaid Tryd.prog 47 os) #[Value.slice none 0 0, Value.slice none 0 0] rfl (by kernel_rfl) (by kernel_rfl) (by kernel_rfl)
      (OpenSpec.preRow_of_cond 8 hx (by kernel_rfl) (fun k hk => by cases hk) (by kernel_rfl) (laid_met os))) ?_
  intro W base args ds gs before hval hW _ _ _ hL hsh _
  exact contract H enc W base args ds gs before hval hW hL hsh

theorem said : Rows.FnTornSaid :=
  OpenClaim.holds_of_cond 6 Tryd.f6 rfl rfl rfl rfl rfl rfl rfl ⟨rfl, rfl, rfl, rfl, rfl⟩ rfl rfl rfl rfl rfl (by kernel_rfl) Tryd.func6 (by kernel_rfl)
    (of_decide_eq_true (by kernel_rfl)) (by unfold Func.isWrapper; first | (rw [if_pos (by decide +kernel)]; kernel_rfl) | (rw [if_neg (by decide +kernel)]; exact ⟨rfl, rfl⟩))
    (fun os started H enc _ F => by rw [OpenClaim.pre_eq_preRow]; exact lifted os started H enc F)

theorem plain (f : FuncId) (fn : Func) (hf : Tryd.pinned.checked.prog.funcNamed Rows.fnTornRow.func = some f) (hfn : Tryd.pinned.checked.prog.funcs[f]? = some fn) :
    true = Tryd.pinned.checked.prog.looks [] ∧ ∀ (j : Nat) t, fn.params[j]? = some t → Tryd.pinned.checked.prog.wantsStandIn t = false := by
  obtain rfl : f = 6 := Option.some.inj ((show Tryd.prog.funcNamed Rows.fnTornRow.func = some 6 by kernel_rfl).symm.trans hf) |>.symm
  obtain rfl : fn = Tryd.f6 := (Option.some.inj (Tryd.func6.symm.trans hfn)).symm
  refine ⟨by kernel_rfl, fun j t ht => ?_⟩
  rw [Tryd.params6] at ht
  obtain rfl : t = 36 := by simpa using Array.mem_of_getElem? ht
  exact (show Tryd.prog.wantsStandIn 36 = false by kernel_rfl)

theorem card : Rows.FnTornCardSaid :=
  Claim7.holds_tied_plain_at .later [] _ _ _ _ said (fun _ h => by cases h) (by kernel_rfl) (fun _ h => by cases h) fnTorn_row_tie rfl ⟨rfl, rfl⟩ (by kernel_rfl) rfl plain (by kernel_rfl)
end Go.Proofs.YtcmhpkgboacojaaDoor.fnTorn
namespace Go.Proofs.YtcmhpkgboacojaaDoor
theorem fnTorn_card : Rows.FnTornCardSaid := fnTorn.card
#print axioms fnTorn_card
end Go.Proofs.YtcmhpkgboacojaaDoor
