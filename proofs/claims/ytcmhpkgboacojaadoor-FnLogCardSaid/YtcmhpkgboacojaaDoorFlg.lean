/-
  A log has the records that were appended, in their order; for every input.
-/
import Derived.Test.YtcmhpkgboacojaaDoorCards
import Derived.Test.YtcmhpkgboacojaaDoorTie
import Derived.Test.YtcmhpkgboacojaaDoorLgv
import Derived.WalkKit
import Derived.ProofKit
import Derived.OpenShut
import Derived.ShutString
import Derived.OpenVars
import Derived.ChangeOld
import Derived.Below
import Derived.Deep.DeepHandedRow
import Derived.Deep.DeepWitnessRowRef
import Derived.LaidMore
import Derived.Lib.LaidTab
import Derived.Stop.LaidTwo
namespace Go.Proofs.YtcmhpkgboacojaaDoor.fnLog
open Go.ChangeShapes Go.WideShapes Go.ChangeAt Go.RowKit
open Go.ChangeMaps (open_string shut_string)
set_option linter.unusedVariables false

theorem own : ownKnob Tryd.prog.godebug = none := by kernel_rfl
theorem laidOut : laidOutB Tryd.prog = true := by kernel_rfl

set_option maxHeartbeats 4000000 in
set_option maxRecDepth 100000 in
theorem walk (a0 : Option Addr) (len0 cap0 : Nat) (z0 : List Int) (w : World) (w0 : ag.IsRow .u8 w a0 len0 cap0 z0) (ec eb : Addr) (eca ecb : Array Value) (eta etb : TypeId) (hS : lg.Errs w ec eb eca ecb eta etb) :
    Calls Tryd.prog 5 #[.slice a0 len0 cap0] w fun e w' => e = .returned (.bool true) ∧ Below w.heap.size w w' := by
  have HS0 : Hid (lg.Errs w ec eb eca ecb eta etb) := hS
  have HW0 : Hid (ag.IsRow .u8 w a0 len0 cap0 z0) := w0
  clear hS
  by_cases hlen : 1048576 < len0
  · clear w0
    go_enter Tryd.func5, Tryd.ntmps5
    go_wp2
    go_ret
    exact ⟨rfl, Below.refl _ _⟩
  obtain ⟨i0, hi, hz0, hz1, hz2⟩ := info_parts lg.infoT
  obtain ⟨j0, hj, hj0, hj1, hj2⟩ := info_parts sr.infoB
  have HNL : Hid (∀ W, Calls Tryd.prog 17 #[.int .i64 2000] W fun e w' => e = .returned (.tuple #[.agg #[.int .i64 2000, .string ⟨#[]⟩, .int .i64 0], .int .i64 0]) ∧ Below W.heap.size W w') := fun W => lg.impl_new 2000 W
  clear w0
  go_enter Tryd.func5, Tryd.ntmps5
  go_wp2_with fail
  refine (HNL.out w).mono ?_
  rintro e w1 ⟨rfl, k1⟩
  have hge := k1.size
  have G1 := (lg.b3_new w1 28 (.int .i64 2000) (.string ⟨#[]⟩) (.int .i64 0)).keep (lg.new_below _ 9 #[])
  have o1 := ow.own_empty (w1.alloc (.cells #[.int .i64 2000, .string ⟨#[]⟩, .int .i64 0] 28)) 9
  have k2 : Below w.heap.size w ((w1.alloc (.cells #[.int .i64 2000, .string ⟨#[]⟩, .int .i64 0] 28)).alloc (.cells #[] 9)) := k1.trans (((lg.new_below w1 28 #[.int .i64 2000, .string ⟨#[]⟩, .int .i64 0]).trans ((lg.new_below _ 9 #[]).mono (by simp))).mono k1.size)
  rw [show (w1.alloc (.cells #[.int .i64 2000, .string ⟨#[]⟩, .int .i64 0] 28)).heap.size = w1.heap.size + 1 from by simp] at o1
  clear k1 HNL
  go_wp2
  generalize (w1.alloc (.cells #[.int .i64 2000, .string ⟨#[]⟩, .int .i64 0] 28)).alloc (.cells #[] 9) = W2 at G1 o1 k2 ⊢
  obtain ⟨G, hG⟩ : ∃ G, w1.heap.size = G := ⟨_, rfl⟩
  rw [hG] at G1 o1 hge ⊢
  clear hG
  go_loopw [5, 6] (fun v i wr => ∃ (k : Nat) (l : List ByteArray), k ≤ 6 ∧ i = .int .i64 k ∧ l.length = k ∧ (∀ x ∈ l, sr.Rec x) ∧ lg.B3 wr G 28 (.int .i64 2000) (.string (lg.catR l)) (.int .i64 0) ∧ ky.OwnT wr (G + 1) v l ∧ Below w.heap.size w wr) (fun _ i _ => 6 - (intOf i).toNat)
  case atStart => exact ⟨0, [], by omega, rfl, rfl, by simp, G1, o1, k2⟩
  case round =>
    clear G1 o1 k2
    obtain ⟨k, l, hk, rfl, hll, hrec, hG, hown, hbw⟩ := hrel
    have HRC : Hid (∀ x ∈ l, sr.Rec x) := hrec
    clear hrec
    have hcs := lg.cat_small HRC.out
    by_cases hlt : k < 6
    · have hlt' : (k : Int) < 6 := by omega
      have oo := lg.own_one wr 5 (.int .u8 (k : Int))
      have hba := hbw.trans ((lg.new_below wr 5 #[.int .u8 (k : Int)]).mono hbw.size)
      have hrw : ag.IsRow .u8 (wr.alloc (.cells #[.int .u8 (k : Int)] 5)) a0 len0 cap0 z0 := lg.row_below HW0.out hba
      go_wp2_with (at_builtin; refine lg.wp_code rfl _ _ rfl wr.heap.size (k : Int) _ a0 len0 cap0 z0 rfl rfl oo ⟨by omega, by omega⟩ hrw (by omega) (by simp) ?_; intro ax cx w3 hB hg3)
      have hb3 : Below wr.heap.size wr w3 := Below.grown (lg.new_below wr 5 #[.int .u8 (k : Int)]) hg3 (by simp) (fun j hj => by cases hj; exact Nat.le_refl _)
      have HG3 : Hid (lg.B3 w3 G 28 (.int .i64 2000) (.string (lg.catR l)) (.int .i64 0)) := hG.keep hb3
      have HO3 : Hid (ky.OwnT w3 (G + 1) u5 l) := ow.own_below hown hb3
      have HB3 : Hid (Below w.heap.size w w3) := hbw.trans (hb3.mono hbw.size)
      have HBy : Hid (sr.Bytes w3 ax (1 + len0)) := hB
      clear hB hg3 oo hba hrw hb3 hG hown hbw
      go_wp2_with fail
      refine (sr.recordOf_any w3 ax (1 + len0) cx HBy.out).mono ?_
      rintro e w4 ⟨⟨x, rfl, hrx⟩, k4⟩
      have G4 := HG3.out.keep k4
      have O4 : Hid (ky.OwnT w4 (G + 1) u5 l) := ow.own_below HO3.out k4
      have b4 := HB3.out.trans (k4.mono HB3.out.size)
      clear HG3 HO3 HB3 HBy k4
      obtain ⟨hx1, hx2⟩ := hrx
      have HX : Hid (sr.Rec x) := ⟨hx1, hx2⟩
      have hap : lg.app 2000 (lg.catR l) 0 x = lg.RV 2000 (lg.catR (l ++ [x])) 0 0 := by
        unfold lg.app
        rw [if_neg (by omega), if_neg (by rw [show lg.ok 2000 (lg.catR l).size 0 = true from decide_eq_true ⟨by omega, by omega, by omega, by omega, by omega⟩]; decide), if_pos ⟨by omega, by omega⟩]
        unfold lg.app1
        rw [if_neg (by omega), lg.catR_app]
      have HI := fun W => lg.impl_app 2000 (lg.catR l) 0 x W ⟨by omega, by omega⟩ (by omega) ⟨by omega, by omega⟩ (by omega)
      have HP := fun W => lg.spec_app 2000 (lg.catR l) 0 x W ⟨by omega, by omega⟩ (by omega) ⟨by omega, by omega⟩ (by omega)
      rw [hap] at HI HP
      have HI' : Hid _ := HI
      have HP' : Hid _ := HP
      clear HI HP hap
      obtain ⟨D2, hD2⟩ : ∃ D, lg.catR (l ++ [x]) = D := ⟨_, rfl⟩
      rw [hD2] at HI' HP'
      have HD2 : Hid (lg.catR (l ++ [x]) = D2) := hD2
      clear hD2
      have a0' := G4.c0
      have a1' := G4.c1'
      have a2' := G4.c2'
      go_wp2_with fail
      refine (HI'.out w4).mono ?_
      rintro e w5 ⟨rfl, k5⟩
      unfold lg.RV lg.LV
      have G5 := (G4.keep k5).keep (lg.new_below w5 28 #[.int .i64 2000, .string D2, .int .i64 0])
      have M5 := lg.b3_new w5 28 (.int .i64 2000) (.string D2) (.int .i64 0)
      have O5 : Hid (ky.OwnT (w5.alloc (.cells #[.int .i64 2000, .string D2, .int .i64 0] 28)) (G + 1) u5 l) := ow.own_below (ow.own_below O4.out k5) (lg.new_below w5 28 #[.int .i64 2000, .string D2, .int .i64 0])
      have b5 := b4.trans (k5.mono b4.size)
      have b5' := b5.trans ((lg.new_below w5 28 #[.int .i64 2000, .string D2, .int .i64 0]).mono b5.size)
      have hN1 : G < w5.heap.size := Nat.lt_of_lt_of_le G4.lt k5.size
      clear G4 O4 b4 k5 a0' a1' a2' b5
      have a0' := G5.c0
      have a1' := G5.c1'
      have a2' := G5.c2'
      go_wp2_with fail
      generalize w5.heap.size = N1 at M5 hN1 ⊢
      generalize w5.alloc _ = w6 at G5 M5 O5 b5' a0' a1' a2' ⊢
      refine (HP'.out w6).mono ?_
      rintro e w7 ⟨rfl, k7⟩
      unfold lg.RV lg.LV
      have G7 := (G5.keep k7).keep (lg.new_below w7 28 #[.int .i64 2000, .string D2, .int .i64 0])
      have M7 := (M5.keep k7).keep (lg.new_below w7 28 #[.int .i64 2000, .string D2, .int .i64 0])
      have O7 : Hid (ky.OwnT (w7.alloc (.cells #[.int .i64 2000, .string D2, .int .i64 0] 28)) (G + 1) u5 l) := ow.own_below (ow.own_below O5.out k7) (lg.new_below w7 28 #[.int .i64 2000, .string D2, .int .i64 0])
      have b7 := b5'.trans (k7.mono b5'.size)
      have b7' := b7.trans ((lg.new_below w7 28 #[.int .i64 2000, .string D2, .int .i64 0]).mono b7.size)
      have L7 := lg.b3_new w7 28 (.int .i64 2000) (.string D2) (.int .i64 0)
      clear G5 M5 O5 b5' k7 a0' a1' a2' b7
      have m0 := M7.c0
      have m1 := M7.c1'
      have m2 := M7.c2'
      have l0 := L7.c0
      have l1 := L7.c1'
      have l2 := L7.c2'
      have g0 := G7.c0
      have g1 := G7.c1'
      have g2 := G7.c2'
      have f0 := G7.f 0
      have f1 := G7.f 1
      have f2 := G7.f 2
      have G8 := G7.put (a' := .int .i64 2000) (b' := .string D2) (c' := .int .i64 0)
      have O8 : ky.OwnT (lg.put (w7.alloc (.cells #[.int .i64 2000, .string D2, .int .i64 0] 28)) G (.int .i64 2000) (.string D2) (.int .i64 0)) (G + 1) u5 l := ownsRow_setCell_below (ownsRow_setCell_below (ownsRow_setCell_below O7.out (a := ⟨G, 0, none⟩) (by show G < G + 1; omega) _) (a := ⟨G, 1, none⟩) (by show G < G + 1; omega) _) (a := ⟨G, 2, none⟩) (by show G < G + 1; omega) _
      have b8 : Below w.heap.size w (lg.put (w7.alloc (.cells #[.int .i64 2000, .string D2, .int .i64 0] 28)) G (.int .i64 2000) (.string D2) (.int .i64 0)) := lg.put_below b7' hge
      have hsz8 : (lg.put (w7.alloc (.cells #[.int .i64 2000, .string D2, .int .i64 0] 28)) G (.int .i64 2000) (.string D2) (.int .i64 0)).heap.size = w7.heap.size + 1 := by rw [lg.put_size]; simp
      have hnw := ow.cells_new (lg.put (w7.alloc (.cells #[.int .i64 2000, .string D2, .int .i64 0] 28)) G (.int .i64 2000) (.string D2) (.int .i64 0)) [Value.string x] 9
      rw [hsz8] at hnw
      have HN8 : Hid _ := hnw
      have HG8 : Hid _ := G8
      have HO8 : Hid (ky.OwnT _ _ _ _) := O8
      have HB8 : Hid _ := b8
      have HS8 : Hid (_ = _) := hsz8
      have hGlt : G < w7.heap.size + 1 := by have := G8.lt; rw [hsz8] at this; exact this
      clear hnw G8 O8 b8 hsz8 O7 b7'
      go_wp2_with (at_builtin; refine wpList_append_own _ rfl _ _ 25 rfl (G + 1) 9 i0 (.string ⟨#[]⟩) 1 16 Tryd.underlying25 hi hz0 hz1 hz2 rfl (by decide) _ _ _ rfl (HO8.out.alloc _) ⟨w7.heap.size + 1, 0, none⟩ 1 1 [.string x] rfl rfl HN8.out (by intro u hu; simp at hu; subst hu; rfl) (by unfold maxLen; omega) (by omega) (by simp; omega) ?_; intro v' w9 hown9 hgrow9 hnil9)
      have hb9 : Below w.heap.size w w9 := Below.grown (HB8.out.alloc HB8.out.size _) hgrow9 (HB8.out.alloc HB8.out.size _).size (fun j hj => Nat.le_trans (by omega) (ow.own_lt HO8.out j hj))
      have hG9 : lg.B3 w9 G 28 (.int .i64 2000) (.string D2) (.int .i64 0) := by
        have h1 := lg.B3.keep HG8.out (lg.new_below _ 9 #[.string x])
        have h1lt := lg.B3.lt h1
        unfold lg.B3 at h1 ⊢
        rw [hgrow9.block G h1lt (fun e => by have := ow.own_lt HO8.out G e.symm; omega)]
        exact h1
      have HA : Hid (Below w.heap.size w w9 ∧ ky.OwnT w9 (G + 1) v' (l ++ [x]) ∧ lg.B3 w9 G 28 (.int .i64 2000) (.string (lg.catR (l ++ [x]))) (.int .i64 0)) := by
        refine ⟨hb9, ?_, by rw [HD2.out]; exact hG9⟩
        unfold ky.OwnT
        rw [List.length_append, List.map_append]
        exact hown9
      clear hb9 hG9 hown9 hgrow9 hnil9 HN8 HG8 HO8 HB8 HS8 m0 m1 m2 l0 l1 l2 g0 g1 g2 f0 f1 f2 G7 M7 L7
      go_wp2
      go_roundw
      case rel => exact ⟨k + 1, l ++ [x], by omega, by go_num, by rw [List.length_append]; simp; omega, fun y hy => by
          rcases List.mem_append.1 hy with h | h
          · exact HRC.out y h
          · rw [List.mem_singleton.1 h]; exact HX.out, HA.out.2.2, HA.out.2.1, HA.out.1⟩
      case measure => simp [intOf]; omega
    · have hk6 : k = 6 := by omega
      subst hk6
      have hW := lg.recs_whole (lg.cat_rights HRC.out)
      have hrr : lg.recR 2000 (lg.catR l) 0 = (l, (lg.catR l).size, 0) := by
        unfold lg.recR
        rw [if_pos (show lg.ok 2000 (lg.catR l).size 0 = true from decide_eq_true ⟨by omega, by omega, by omega, by omega, by omega⟩), hW]
      have HR := fun (W : World) (hE : lg.Errs W ec eb eca ecb eta etb) => lg.impl_recs 2000 (lg.catR l) 0 W ec eb eca ecb eta etb ⟨by omega, by omega⟩ (by omega) ⟨by omega, by omega⟩ hE
      rw [hrr] at HR
      simp only at HR
      have HOK := fun W => lg.impl_ok 2000 (lg.catR l) 0 W ⟨by omega, by omega⟩ (by unfold maxLen; omega) ⟨by omega, by omega⟩
      rw [show lg.ok 2000 (lg.catR l).size 0 = true from decide_eq_true ⟨by omega, by omega, by omega, by omega, by omega⟩] at HOK
      have HR' : Hid _ := HR
      have HOK' : Hid _ := HOK
      clear HR HOK hrr hW
      generalize lg.catR l = D at hG hcs HR' HOK'
      have g0 := hG.c0
      have g1 := hG.c1'
      have g2 := hG.c2'
      go_wp2_with fail
      refine (HR'.out wr (HS0.out.keep hbw)).mono ?_
      rintro e w3 ⟨⟨v3, rfl, own3⟩, k3⟩
      have G3 := hG.keep k3
      have O3 : Hid (ky.OwnT w3 (G + 1) _ l) := ow.own_below hown k3
      have P3 : Hid (ky.OwnT w3 wr.heap.size v3 l) := own3
      have b3 := hbw.trans (k3.mono hbw.size)
      have heq : ((D.size : Int) == D.size) = true := by simp
      clear hG hown k3 own3 hbw g0 g1 g2
      have g0 := G3.c0
      have g1 := G3.c1
      have g1' := G3.c1'
      have g2' := G3.c2'
      go_wp2_with fail
      refine (lg.sameTexts_any v3 _ l w3 (ky.own_texts P3.out) (ky.own_texts O3.out) (by omega)).mono ?_
      rintro e w4 ⟨rfl, k4⟩
      have G4 := G3.keep k4
      have b4 := b3.trans (k4.mono b3.size)
      clear g0 g1 g1' g2' G3 b3 k4
      have g0 := G4.c0
      have g1 := G4.c1'
      have g2 := G4.c2'
      go_wp2_with fail
      refine (HOK'.out w4).mono ?_
      rintro e w5 ⟨rfl, k5⟩
      go_wp2
      go_ret
      exact ⟨rfl, b4.trans (k5.mono b4.size)⟩

set_option maxRecDepth 100000 in
theorem gC : Tryd.prog.globalNamed ((Rows.fnExactLogRecordsRow.laid.map (·.1)).getD 0 "") = some 1 := by kernel_rfl
theorem gW : Tryd.prog.globalNamed ((Rows.fnExactLogRecordsRow.laid.map (·.1)).getD 1 "") = some 0 := by kernel_rfl
theorem errs_of (W : World) (hL : laidMet Tryd.prog Rows.fnLogRow.laid W) : ∃ (c b : Addr) (ca cb : Array Value) (ta tb : TypeId), lg.Errs W c b ca cb ta tb := by
  obtain ⟨a0, a1, s0, s1, c0, c1, t0, t1, hv0, hv1, hc0, hs0, hz0, hc1, hs1, hz1, hne, hb0, hb1⟩ := laid_sentinels2 (ti := 47) hL gC (by kernel_rfl) gW (by kernel_rfl) Tryd.underlying47 (fun u h => typeName_ptr_named (nm := "errors.errorString") (by kernel_rfl) (by kernel_rfl) (by decide) u (h.trans (congrArg some (by decide)))) Tryd.underlying96 Tryd.underlying118 rfl rfl Tryd.underlying9 (by kernel_rfl) (by kernel_rfl)
  have hg0 : W.cell? ⟨1, 0, none⟩ = some (.iface 96 (.pointer (some a0))) := by simpa using World.var?_cell gC hv0 0
  have hg1 : W.cell? ⟨0, 0, none⟩ = some (.iface 96 (.pointer (some a1))) := by simpa using World.var?_cell gW hv1 0
  exact ⟨a0, a1, c0, c1, t0, t1, hg0, hg1, hne, hb0, hb1⟩

set_option maxRecDepth 100000 in
theorem contract (H : Type) (enc : TypeId × Value → H) (W : World) (base : Nat) (args : Array Value) (ds gs : List (DataW H)) (before : List MemPlace)
    (hval : ∀ (j : Nat) t v, Tryd.f5.params[j]? = some t → args[j]? = some v → Value.okWide Tryd.prog W .any base t v)
    (hW : DataW.Whole enc Tryd.prog Tryd.f5.params.toList Rows.fnLogSpec.vars false W args.toList ds gs before) (hL : laidMetH Tryd.prog Rows.fnLogRow.laid W) (hsh : W.ShapedOpen Tryd.prog) :
    Calls Tryd.prog 5 args W fun e W' => ∃ v, e = .returned v ∧ Rows.fnLogSpec.post enc Tryd.prog Tryd.f5 false true false false W args v W' := by
  have hW' := hW
  obtain ⟨p, q, hA0, hV, rfl, hfz, hnd⟩ := hW
  have hA : DataW.TrodAll enc Tryd.prog W 0 (fun _ => true) true Tryd.f5.params.toList args.toList ds p := hA0
  rw [Tryd.params5] at hA hval
  obtain ⟨v0, vs0, d0, ds0, p0, q0, hargs0, rfl, rfl, h0, r0⟩ := trodAll_cons hA
  obtain ⟨hnil, rfl, rfl⟩ := trodAll_nil r0
  obtain rfl : args = #[v0] := by cases args; simp_all
  obtain ⟨a0, len0, cap0, rfl⟩ := okWide_slice Tryd.underlying36 (hval 0 36 v0 rfl rfl)
  have k0 := h0
  have lt0 : ∀ x ∈ p0, x.block < W.heap.size := by obtain ⟨m, hm⟩ := k0; exact DataW.trod_lt m _ _ _ hm
  obtain ⟨z0, w0⟩ : ∃ zs, ag.IsRow .u8 W a0 len0 cap0 zs := by
    obtain ⟨fuel, hf⟩ := h0
    rcases open_ints Tryd.underlying36 Tryd.underlying5 (by kernel_rfl) hf with ⟨hcs, _⟩ | ⟨x, l, c, zs, hcs, _, hl, hm, hz, _, hcell, hwz⟩
    · simp [Value.cells] at hcs
      obtain ⟨rfl, rfl, rfl⟩ := hcs
      exact ⟨[], .inl ⟨rfl, rfl, rfl, rfl⟩⟩
    · simp [Value.cells] at hcs
      obtain ⟨rfl, rfl, rfl⟩ := hcs
      exact ⟨zs, .inr ⟨_, rfl, hl, hm, by simpa using hz, hcell, hwz⟩⟩
  clear hA0
  simp only [List.append_nil] at hW'
  have hLL : laidMet Tryd.prog Rows.fnLogRow.laid W := hL
  obtain ⟨g, t, cs, fuel, d, pp, g2, t2, cs2, fuel2, d2, pp2, rfl, _⟩ := trodVars_two hV
  have hS := errs_of W hLL
  obtain ⟨ec, eb, eca, ecb, eta, etb, hS⟩ := hS
  refine (walk a0 len0 cap0 z0 W w0 _ _ _ _ _ _ hS).mono fun e W' ⟨he, bel⟩ => ?_
  subst he
  exact ⟨_, rfl, _, _, _, [], _, _, hW', trodAll_cons_mk (shut_bool Tryd.underlying4 _) trodAll_mk0, (trodAll_cons_mk (Below.trod laidOut (by kernel_rfl) (of_decide_eq_true (by kernel_rfl)) k0 bel lt0) trodAll_mk0), Below.trodVars laidOut bel (by kernel_rfl) hV, bel.frame _, fun h => by cases h⟩
set_option maxRecDepth 100000 in
theorem laid_met (os : Os) : laidMet Tryd.prog Rows.fnLogRow.laid ((World.doorLaid Tryd.prog 47 os).forCall (fun _ _ => 0) ⟨#[], #[Value.slice none 0 0], []⟩).memory :=
  laidMet_of_run' 8 (by kernel_rfl) (by kernel_rfl)
theorem reads (os : Os) {H : Type} (enc : TypeId × Value → H) : (DataW.whole enc Tryd.prog ((World.doorLaid Tryd.prog 47 os).forCall (fun _ _ => 0) ⟨#[], #[Value.slice none 0 0], []⟩).memory Tryd.f5.params.toList Rows.fnLogSpec.vars false #[Value.slice none 0 0].toList 8).isSome = true := by kernel_rfl

set_option maxRecDepth 100000 in
theorem lifted (os : Os) (started : os.Started) (H : Type) (enc : TypeId × Value → H) (F : Stop.Interp) :
    ReturnsInHanded {} Tryd.checked os 5 .any ((OpenSpec.ofChange Rows.fnLogSpec).preRow enc Tryd.prog Tryd.f5 Rows.fnLogRow.domain false Rows.fnLogRow.laid) (((OpenSpec.ofChange Rows.fnLogSpec).at F).post enc Tryd.prog Tryd.f5 false true false false) := by
  obtain ⟨x, hx⟩ := Option.isSome_iff_exists.1 (reads os enc)
  refine returnsInHanded_of_row (C := Tryd.checked) (s := OpenSpec.ofChange Rows.fnLogSpec) own started (by kernel_rfl) Tryd.func5
    (witness_row_atRef (enc := enc) (C := Tryd.checked) false (World.doorLaid Tryd.prog 47 os) #[Value.slice none 0 0] rfl (by kernel_rfl) (by kernel_rfl) (by kernel_rfl)
      (OpenSpec.preRow_of_cond 8 hx (by kernel_rfl) (fun k hk => by cases hk) (by kernel_rfl) (laid_met os))) ?_
  intro W base args ds gs before hval hW _ _ _ hL hsh _
  exact contract H enc W base args ds gs before hval hW hL hsh

theorem said : Rows.FnLogSaid :=
  OpenClaim.holds_of_cond 5 Tryd.f5 rfl rfl rfl rfl rfl rfl rfl ⟨rfl, rfl, rfl, rfl, rfl⟩ rfl rfl rfl rfl rfl (by kernel_rfl) Tryd.func5 (by kernel_rfl)
    (of_decide_eq_true (by kernel_rfl)) (by unfold Func.isWrapper; first | (rw [if_pos (by decide +kernel)]; kernel_rfl) | (rw [if_neg (by decide +kernel)]; exact ⟨rfl, rfl⟩))
    (fun os started H enc _ F => by rw [OpenClaim.pre_eq_preRow]; exact lifted os started H enc F)

theorem plain (f : FuncId) (fn : Func) (hf : Tryd.pinned.checked.prog.funcNamed Rows.fnLogRow.func = some f) (hfn : Tryd.pinned.checked.prog.funcs[f]? = some fn) :
    true = Tryd.pinned.checked.prog.looks [] ∧ ∀ (j : Nat) t, fn.params[j]? = some t → Tryd.pinned.checked.prog.wantsStandIn t = false := by
  obtain rfl : f = 5 := Option.some.inj ((show Tryd.prog.funcNamed Rows.fnLogRow.func = some 5 by kernel_rfl).symm.trans hf) |>.symm
  obtain rfl : fn = Tryd.f5 := (Option.some.inj (Tryd.func5.symm.trans hfn)).symm
  refine ⟨by kernel_rfl, fun j t ht => ?_⟩
  rw [Tryd.params5] at ht
  obtain rfl : t = 36 := by simpa using Array.mem_of_getElem? ht
  exact (show Tryd.prog.wantsStandIn 36 = false by kernel_rfl)

theorem card : Rows.FnLogCardSaid :=
  Claim7.holds_tied_plain_at .later [] _ _ _ _ said (fun _ h => by cases h) (by kernel_rfl) (fun _ h => by cases h) fnLog_row_tie rfl ⟨rfl, rfl⟩ (by kernel_rfl) rfl plain (by kernel_rfl)
end Go.Proofs.YtcmhpkgboacojaaDoor.fnLog
namespace Go.Proofs.YtcmhpkgboacojaaDoor
theorem fnLog_card : Rows.FnLogCardSaid := fnLog.card
#print axioms fnLog_card
end Go.Proofs.YtcmhpkgboacojaaDoor
