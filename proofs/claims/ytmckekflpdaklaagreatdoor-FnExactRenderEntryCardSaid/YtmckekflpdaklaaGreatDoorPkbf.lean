/-
  The walk that the card rests on.
-/
import Derived.Test.YtmckekflpdaklaaGreatDoorCards
import Derived.Test.YtmckekflpdaklaaGreatDoorTie
import Derived.Test.YtmckekflpdaklaaGreatDoorPkbe
import Derived.Test.YtmckekflpdaklaaGreatDoorPkau
import Derived.WalkKit
import Derived.ProofKit
import Derived.OpenShut
import Derived.ShutString
import Derived.OpenVars
import Derived.ChangeOld
import Derived.Below
import Derived.Deep.DeepHandedRow
import Derived.Deep.DeepWitnessRowRef
import Derived.LaidMore
import Derived.Lib.LaidTab
import Derived.LaidOnce

namespace Go.Proofs.YtmckekflpdaklaaGreatDoor.fnExactRenderEntry
open Go.ChangeShapes Go.WideShapes Go.ChangeAt Go.RowKit
open Go.ChangeMaps (open_string shut_string)
set_option linter.unusedVariables false

set_option maxHeartbeats 4000000 in
set_option maxRecDepth 100000 in
theorem walk (a0 : en.En) (w0 : en.Held a0) (a1 : ByteArray) (w1 : a1.size ≤ maxLen) (w : World)  (hP : td.TP w) (hW : td.TW w) (hN : td.TN w) (hC : tb.TC w) (hD : tb.TD w) (hA : tb.TA w) (m : Int) (hm : w.cell? ⟨4, 0, none⟩ = some (.int .i64 m)) :
    Calls Tryz.prog 3 #[en.EV a0, .string a1] w fun e w' => e = .returned (.bool true) ∧ Below w.heap.size w w' := by
  have L0 := en.lies_new w 23 a0
  have b0 : Below w.heap.size w (w.alloc (.cells (en.cl a0) 23)) := (Below.refl _ _).alloc (Nat.le_refl _) _
  have hgl := World.block_lt_of_cell? _ _ hm
  have HT : Hid (∀ W, Below w.heap.size w W → rn.Tabs m W ∧ tb.TA W) := fun W kW => ⟨⟨(kW.cell (p := ⟨4, 0, none⟩) hgl).trans hm, tb.keep' hC kW, tb.keep' hD kW, td.keep' hP kW, td.keepS hW kW, td.keepS hN kW⟩, tb.keep' hA kW⟩
  clear hm hC hD hP hW hN hA hgl
  obtain ⟨i, t, l, a, d, c⟩ := a0
  have HS := w0
  clear w0
  unfold en.EV en.cl
  unfold en.cl at L0 b0
  simp only at L0 b0 ⊢
  go_enter Tryz.func3, Tryz.ntmps3
  by_cases hbig : 1048576 < a1.size
  · have hb : (1048576 : Int) < (a1.size : Int) := by omega
    clear L0 HT
    go_wp2
    go_ret
    exact ⟨rfl, b0⟩
  have hb : (a1.size : Int) ≤ 1048576 := by omega
  go_wp2_with fail
  generalize w.alloc _ = wz at L0 b0 ⊢
  refine (en.szEntry_any ⟨i, t, l, a, d, c⟩ 1048576 wz (by omega) (by omega) HS).mono ?_
  rintro r w1' ⟨⟨z, rfl, hz0, hz1, hz2⟩, hb1⟩
  have L1 := L0.keep hb1
  have b1 := b0.trans (hb1.mono b0.size)
  clear hb1 L0 b0 HS
  by_cases hz : z < 0
  · clear HT
    go_wp2
    go_ret
    exact ⟨rfl, b1⟩
  have HSM : Hid (en.Small ⟨i, t, l, a, d, c⟩) := hz2 (by omega)
  clear hz2
  have c0 := L1.c0
  have c1 := L1.c1
  have c2 := L1.c2
  have c3 := L1.c3
  have c4 := L1.c4
  have c5 := L1.c5
  simp only at c0 c1 c2 c3 c4 c5
  go_wp2_with fail
  refine (en.toEntry_any ⟨i, t, l, a, d, c⟩ w1').mono ?_
  rintro r w2 ⟨rfl, hb2⟩
  have L2 := L1.keep hb2
  have b2 := b1.trans (hb2.mono b1.size)
  clear hb2 L1 b1 c0 c1 c2 c3 c4 c5
  go_wp2_with fail
  refine (rn.specRE_any ⟨i, t, l, a, d, c⟩ a1 w2 HSM.out (by omega)).mono ?_
  rintro r w3 ⟨h3, hb3⟩
  obtain ⟨r3, c3', rfl⟩ := rn.re_ex h3
  have H3 : Hid (rn.ReRet ⟨i, t, l, a, d, c⟩ a1 (.returned (.tuple #[.string r3, .int .i64 c3']))) := h3
  have L3 := L2.keep hb3
  have b3 := b2.trans (hb3.mono b2.size)
  clear hb3 L2 b2 h3
  have c0 := L3.c0
  have c1 := L3.c1
  have c2 := L3.c2
  have c3 := L3.c3
  have c4 := L3.c4
  have c5 := L3.c5
  simp only at c0 c1 c2 c3 c4 c5
  go_wp2_with fail
  refine (en.toEntry_any ⟨i, t, l, a, d, c⟩ w3).mono ?_
  rintro r w4 ⟨rfl, hb4⟩
  have b4 := b3.trans (hb4.mono b3.size)
  clear hb4 L3 b3 c0 c1 c2 c3 c4 c5
  go_wp2_with fail
  refine (rn.implRE_any ⟨i, t, l, a, d, c⟩ a1 w4 HSM.out (by omega) m (fun w' h' => HT.out w' (b4.trans (h'.mono b4.size)))).mono ?_
  rintro r w5 ⟨h5, hb5⟩
  have he := h5.det H3.out
  subst he
  have b5 := b4.trans (hb5.mono b4.size)
  clear hb5 b4 h5 H3 HT HSM
  go_wp2
  go_ret
  exact ⟨rfl, b5⟩

end Go.Proofs.YtmckekflpdaklaaGreatDoor.fnExactRenderEntry
