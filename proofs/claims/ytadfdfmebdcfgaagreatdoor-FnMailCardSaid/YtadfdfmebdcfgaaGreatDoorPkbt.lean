/-
  The walk that the card rests on.
-/
import Derived.Test.YtadfdfmebdcfgaaGreatDoorCards
import Derived.Test.YtadfdfmebdcfgaaGreatDoorTie
import Derived.Test.YtadfdfmebdcfgaaGreatDoorPkbs
import Derived.Test.YtadfdfmebdcfgaaGreatDoorPkat
import Derived.WalkKit
import Derived.ProofKit
import Derived.OpenShut
import Derived.ShutString
import Derived.OpenVars
import Derived.ChangeOld
import Derived.Below
import Derived.Deep.DeepHandedRow
import Derived.Deep.DeepWitnessRowRef
import Derived.LaidMore
import Derived.Lib.LaidTab
import Derived.LaidOnce

namespace Go.Proofs.YtadfdfmebdcfgaaGreatDoor.fnMail
open Go.ChangeShapes Go.WideShapes Go.ChangeAt Go.RowKit
open Go.ChangeMaps (open_string shut_string)
set_option linter.unusedVariables false

set_option maxHeartbeats 4000000 in
set_option maxRecDepth 100000 in
theorem walk (a0 : Option Addr) (len0 cap0 : Nat) (z0 : List Int) (w : World) (w0 : ag.IsRow .u8 w a0 len0 cap0 z0) (hP : td.TP w) (hW : td.TW w) (hN : td.TN w) (hC : tb.TC w) (hD : tb.TD w) (hA : tb.TA w) (m : Int) (hm : w.cell? ⟨4, 0, none⟩ = some (.int .i64 m)) (hV : tb.TV w) :
    Calls Tryz.prog 3 #[.slice a0 len0 cap0] w fun e w' => e = .returned (.bool true) ∧ Below w.heap.size w w' := by
  by_cases hbig : 1048576 < len0
  · have hb : (1048576 : Int) < (len0 : Int) := by omega
    clear w0 hm hC hD hP hW hN hA hV
    go_enter Tryz.func3, Tryz.ntmps3
    go_wp2
    go_ret
    exact ⟨rfl, Below.refl _ _⟩
  have hb : (len0 : Int) ≤ 1048576 := by omega
  have HB : Hid (se.Bytes w a0 len0) := me.row_bytes w0 (by omega)
  have hgl := World.block_lt_of_cell? _ _ hm
  have HT : Hid (∀ W, Below w.heap.size w W → (rn.Tabs m W ∧ tb.TA W) ∧ (W.cell? ⟨4, 0, none⟩ = some (.int .i64 m) ∧ tb.TD W ∧ tb.TV W ∧ tb.TA W ∧ td.TN W ∧ td.TW W)) := fun W kW => ⟨⟨⟨(kW.cell (p := ⟨4, 0, none⟩) hgl).trans hm, tb.keep' hC kW, tb.keep' hD kW, td.keep' hP kW, td.keepS hW kW, td.keepS hN kW⟩, tb.keep' hA kW⟩, (kW.cell (p := ⟨4, 0, none⟩) hgl).trans hm, tb.keep' hD kW, tb.keep' hV kW, tb.keep' hA kW, td.keepS hN kW, td.keepS hW kW⟩
  clear w0 hm hC hD hP hW hN hA hV hgl
  go_enter Tryz.func3, Tryz.ntmps3
  go_wp2_with fail
  refine (se.entryOf_any _ a0 len0 cap0 HB.out).mono ?_
  rintro e w1 ⟨⟨i, t, l, a, c, d, rfl, hi, ht, hl, ha, hc, d0, d1⟩, b1⟩
  obtain ⟨s, hT⟩ := me.told_of (en.drawn_ok hi ht hl ha hc d0 d1)
  have HS : Hid (me.Told i t l a d c s) := hT
  have HQ : Hid (∀ w, (Go.binOp .eql 24 (.agg #[.string i, .string t, .string l, .string a, .int .i64 d, .string c]) (.agg #[.string i, .string t, .string l, .string a, .int .i64 d, .string c])).run Tryz.prog w = .ok (.bool true) w) := fun w => me.eqB_run i t l a d c hT.small.1 hT.small.2.1 hT.small.2.2.1 hT.small.2.2.2.1 d0 d1 hT.small.2.2.2.2 w
  have HMO : Hid (∀ W, Below w.heap.size w W → Calls Tryz.prog 11 #[.string s] W fun e w' => e = .returned (.bool true) ∧ Below W.heap.size W w') := fun W hW => (ml.impl_mok s W m (HT.out W hW).2.1 (by have := hT.size; omega)).mono fun e w' ⟨he, n, hn⟩ => ⟨by rw [he, decide_eq_true hT.size, hT.mail]; rfl, by rw [hn]; exact me.bel_drewN (Below.refl _ _) n⟩
  have HLL : Hid (∀ W, Below w.heap.size w W → Calls Tryz.prog 12 #[.string s] W fun e w' => e = .returned (.int .i64 (ln.lret s)) ∧ Below W.heap.size W w') := fun W hW => ln.impl_any s m W (by have := hT.size; unfold maxLen; omega) (HT.out W hW).2.1
  have HEO : Hid (∀ W, Calls Tryz.prog 13 #[.agg #[.string i, .string t, .string l, .string a, .int .i64 d, .string c]] W fun e w' => e = .returned (.bool true) ∧ Below W.heap.size W w') := fun W => (en.impl_eok ⟨i, t, l, a, d, c⟩ W hT.small).mono fun e w' h => ⟨by rw [h.1, hT.ok], h.2⟩
  have hll := hT.long
  clear hi ht hl ha hc d0 d1 hT HB
  unfold se.EV6
  have L1 := me.l6_new w1 (.string i) (.string t) (.string l) (.string a) (.int .i64 d) (.string c)
  have z1 := me.box_below w1 #[.string i, .string t, .string l, .string a, .int .i64 d, .string c] 24
  have b2 := b1.trans (z1.mono b1.size)
  clear z1 b1
  have c0 := L1.c0
  have c1 := L1.c1
  have c2 := L1.c2
  have c3 := L1.c3
  have c4 := L1.c4
  have c5 := L1.c5
  go_wp2_with fail
  generalize w1.alloc _ = w2 at L1 b2 c0 c1 c2 c3 c4 c5 ⊢
  generalize w1.heap.size = G at L1 c0 c1 c2 c3 c4 c5 ⊢
  refine (rn.implRE_any ⟨i, t, l, a, d, c⟩ me.news w2 HS.out.small (by decide) m (fun W hW => (HT.out W (b2.trans (hW.mono b2.size))).1)).mono ?_
  rintro e w3 ⟨h3, hb3⟩
  obtain rfl := HS.out.re _ h3
  have L3 := L1.keep hb3
  have b3 := b2.trans (hb3.mono b2.size)
  clear h3 hb3 L1 b2 c0 c1 c2 c3 c4 c5
  have c0 := L3.c0
  have c1 := L3.c1
  have c2 := L3.c2
  have c3 := L3.c3
  have c4 := L3.c4
  have c5 := L3.c5
  go_wp2_with fail
  refine (rn.specRE_any ⟨i, t, l, a, d, c⟩ me.news w3 HS.out.small (by decide)).mono ?_
  rintro e w4 ⟨h4, hb4⟩
  obtain rfl := HS.out.re _ h4
  have L4 := L3.keep hb4
  have b4 := b3.trans (hb4.mono b3.size)
  clear h4 hb4 L3 b3 c0 c1 c2 c3 c4 c5
  go_wp2_with fail
  refine (me.implMe_any s w4 m (by have := HS.out.size; omega) (fun W hW => (HT.out W (b4.trans (hW.mono b4.size))).2)).mono ?_
  rintro e w5 ⟨h5, hb5⟩
  obtain rfl := HS.out.back _ h5
  have L5 := me.l6_new w5 (.string i) (.string t) (.string l) (.string a) (.int .i64 d) (.string c)
  have z5 := me.box_below w5 #[.string i, .string t, .string l, .string a, .int .i64 d, .string c] 24
  have hb6 := hb5.trans (z5.mono hb5.size)
  have L6 := L4.keep hb6
  have b6 := b4.trans (hb6.mono b4.size)
  clear h5 hb5 z5 hb6 L4 b4
  go_wp2_with fail
  generalize w5.alloc _ = w6 at L5 L6 b6 ⊢
  generalize w5.heap.size = G2 at L5 ⊢
  refine (ml.implLines_any s w6 m (HT.out w6 b6).2.1 (by have := HS.out.size; omega)).mono ?_
  rintro e w7 ⟨h7, hb7⟩
  obtain ⟨n, rfl⟩ := HS.out.lines _ h7
  have HL7 : Hid (ml.MlRet s.data.toList (.returned (.tuple #[.int .i64 n, .int .i64 0]))) := h7
  have L5 := L5.keep hb7
  have L6 := L6.keep hb7
  have b7 := b6.trans (hb7.mono b6.size)
  clear h7 hb7 b6
  go_wp2_with fail
  refine (ml.specLines_any s w7 (by have := HS.out.size; omega)).mono ?_
  rintro e w8 ⟨h8, hb8⟩
  obtain ⟨n', rfl⟩ := HS.out.lines _ h8
  obtain ⟨rfl, _⟩ := ml.ml_same h8 HL7.out
  have L5 := L5.keep hb8
  have L6 := L6.keep hb8
  have b8 := b7.trans (hb8.mono b7.size)
  clear h8 hb8 b7 HL7 HS
  have hss : (s.toList == s.toList) = true := by simp
  have hnn : ((n' : Int) == n') = true := by simp
  generalize hqq : ln.lret s = q at hll HLL
  clear hqq
  have hq : decide (q ≤ 998) = true := decide_eq_true hll
  go_wp2_with fail
  refine (HMO.out w8 b8).mono ?_
  rintro e w9 ⟨rfl, hb9⟩
  have L5 := L5.keep hb9
  have L6 := L6.keep hb9
  have b9 := b8.trans (hb9.mono b8.size)
  clear hb9 b8
  go_wp2_with fail
  refine (HLL.out w9 b9).mono ?_
  rintro e w10 ⟨rfl, hb10⟩
  have L5 := L5.keep hb10
  have L6 := L6.keep hb10
  have b10 := b9.trans (hb10.mono b9.size)
  clear hb10 b9
  have p0 := L5.c0
  have p1 := L5.c1
  have p2 := L5.c2
  have p3 := L5.c3
  have p4 := L5.c4
  have p5 := L5.c5
  have c0 := L6.c0
  have c1 := L6.c1
  have c2 := L6.c2
  have c3 := L6.c3
  have c4 := L6.c4
  have c5 := L6.c5
  have hEq := HQ.out w10
  have hGu : ∀ x y a b, (eqGuard .eql 24 x y (.agg a) (.agg b)).run Tryz.prog w10 = .ok () w10 := fun x y a b => me.guardE_run x y a b w10
  go_wp2_with fail
  refine (HEO.out w10).mono ?_
  rintro e w11 ⟨rfl, hb11⟩
  have b11 := b10.trans (hb11.mono b10.size)
  clear hb11 b10
  go_wp2
  go_ret
  exact ⟨rfl, b11⟩

end Go.Proofs.YtadfdfmebdcfgaaGreatDoor.fnMail
