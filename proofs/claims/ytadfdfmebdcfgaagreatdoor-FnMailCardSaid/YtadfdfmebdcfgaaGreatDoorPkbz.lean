/-
  The mail of an entry that is drawn has lines of at most 998 characters, is one, is the one that the specification makes, and says just what the entry does.
-/
import Derived.Test.YtadfdfmebdcfgaaGreatDoorPkbu
import Derived.Test.YtadfdfmebdcfgaaGreatDoorPkbw
import Derived.Test.YtadfdfmebdcfgaaGreatDoorPkbx
import Derived.Test.YtadfdfmebdcfgaaGreatDoorPkby
import Derived.Test.YtadfdfmebdcfgaaGreatDoorCards
import Derived.Test.YtadfdfmebdcfgaaGreatDoorTie
import Derived.Test.YtadfdfmebdcfgaaGreatDoorPkbs
import Derived.Test.YtadfdfmebdcfgaaGreatDoorPkat
import Derived.WalkKit
import Derived.ProofKit
import Derived.OpenShut
import Derived.ShutString
import Derived.OpenVars
import Derived.ChangeOld
import Derived.Below
import Derived.Deep.DeepHandedRow
import Derived.Deep.DeepWitnessRowRef
import Derived.LaidMore
import Derived.Lib.LaidTab
import Derived.LaidOnce

namespace Go.Proofs.YtadfdfmebdcfgaaGreatDoor.fnMail
open Go.ChangeShapes Go.WideShapes Go.ChangeAt Go.RowKit
open Go.ChangeMaps (open_string shut_string)
set_option linter.unusedVariables false

theorem laid_met (os : Os) : laidMet Tryz.prog Rows.fnMailRow.laid (({ World.doorLaid Tryz.prog 83 os with heap := (World.doorLaid Tryz.prog 83 os).heap.modify 6 putF } : World).forCall (fun _ _ => 0) ⟨#[], #[Value.slice none 0 0], []⟩).memory := by
  have h := laid_run os
  have hn := laid_apart os
  have hr := laid_cells os
  generalize hx : (DataW.laidRun Tryz.prog (({ World.doorLaid Tryz.prog 83 os with heap := (World.doorLaid Tryz.prog 83 os).heap.modify 6 putF } : World).forCall (fun _ _ => 0) ⟨#[], #[Value.slice none 0 0], []⟩).memory 8 (Rows.fnMailRow.laid.map (·.1))) = r at h hn hr
  cases r with
  | none => cases h
  | some x =>
    obtain ⟨x1, x2⟩ := x
    simp only [Option.map_some, Option.some.injEq] at h hn hr
    subst h
    exact laidMet_of_run 8 hx (decide_eq_true (nodupBits_sound hn).1) hr
theorem reads (os : Os) {H : Type} (enc : TypeId × Value → H) : ∃ places, DataW.whole enc Tryz.prog (({ World.doorLaid Tryz.prog 83 os with heap := (World.doorLaid Tryz.prog 83 os).heap.modify 6 putF } : World).forCall (fun _ _ => 0) ⟨#[], #[Value.slice none 0 0], []⟩).memory Tryz.f3.params.toList Rows.fnMailSpec.vars false #[Value.slice none 0 0].toList 8 = some ([.nil], [Rows.laid_loop_example_g00268_impl_weekdayNames, Rows.laid_loop_example_g00268_impl_monthNames, Rows.laid_loop_example_g00268_impl_digitChars, Rows.laid_loop_example_g00268_impl_base64Chars, Rows.laid_loop_example_g00268_impl_base64Values], places) :=
  ⟨MemPlace.row ⟨0, 0, none⟩ 7 ++ MemPlace.row ⟨1, 0, none⟩ 13 ++ MemPlace.row ⟨2, 0, none⟩ 16 ++ MemPlace.row ⟨9, 0, none⟩ 64 ++ MemPlace.row ⟨10, 0, none⟩ 128, by kernel_rfl⟩

set_option maxRecDepth 100000 in
theorem lifted (os : Os) (started : os.Started) (H : Type) (enc : TypeId × Value → H) (F : Stop.Interp) :
    ReturnsInHanded {} Tryz.checked os 3 .any ((OpenSpec.ofChange Rows.fnMailSpec).preRow enc Tryz.prog Tryz.f3 Rows.fnMailRow.domain false Rows.fnMailRow.laid) (((OpenSpec.ofChange Rows.fnMailSpec).at F).post enc Tryz.prog Tryz.f3 false true false false) := by
  obtain ⟨places, hx⟩ := reads os enc
  refine returnsInHanded_of_row (C := Tryz.checked) (s := OpenSpec.ofChange Rows.fnMailSpec) own started (by kernel_rfl) Tryz.func3
    (witness_row_atRef (enc := enc) (C := Tryz.checked) false ({ World.doorLaid Tryz.prog 83 os with heap := (World.doorLaid Tryz.prog 83 os).heap.modify 6 putF } : World) #[Value.slice none 0 0] rfl (by kernel_rfl) (by kernel_rfl) (by kernel_rfl)
      (OpenSpec.preRow_of_cond 8 hx (by kernel_rfl) (fun k hk => by cases hk) (by kernel_rfl) (laid_met os))) ?_
  intro W base args ds gs before hval hW _ _ _ hL hsh _
  exact contract H enc W base args ds gs before hval hW hL hsh

theorem said : Rows.FnMailSaid :=
  OpenClaim.holds_of_cond 3 Tryz.f3 rfl rfl rfl rfl rfl rfl rfl ⟨rfl, rfl, rfl, rfl, rfl⟩ rfl rfl rfl rfl rfl (by kernel_rfl) Tryz.func3 (by kernel_rfl)
    (of_decide_eq_true (by kernel_rfl)) (by unfold Func.isWrapper; first | (rw [if_pos (by decide +kernel)]; kernel_rfl) | (rw [if_neg (by decide +kernel)]; exact ⟨rfl, rfl⟩))
    (fun os started H enc _ F => by rw [OpenClaim.pre_eq_preRow]; exact lifted os started H enc F)

theorem plain (f : FuncId) (fn : Func) (hf : Tryz.pinned.checked.prog.funcNamed Rows.fnMailRow.func = some f) (hfn : Tryz.pinned.checked.prog.funcs[f]? = some fn) :
    false = Tryz.pinned.checked.prog.looks [] ∧ ∀ (j : Nat) t, fn.params[j]? = some t → Tryz.pinned.checked.prog.wantsStandIn t = false := by
  obtain rfl : f = 3 := Option.some.inj ((show Tryz.prog.funcNamed Rows.fnMailRow.func = some 3 by kernel_rfl).symm.trans hf) |>.symm
  obtain rfl : fn = Tryz.f3 := (Option.some.inj (Tryz.func3.symm.trans hfn)).symm
  refine ⟨by kernel_rfl, fun j t ht => ?_⟩
  rw [Tryz.params3] at ht
  obtain rfl : t = 22 := by simpa using Array.mem_of_getElem? ht
  exact (show Tryz.prog.wantsStandIn 22 = false by kernel_rfl)

theorem card : Rows.FnMailCardSaid :=
  Claim7.holds_tied_plain_at .later [] _ _ _ _ said (fun _ h => by cases h) (by kernel_rfl) (fun _ h => by cases h) fnMail_row_tie rfl ⟨rfl, rfl⟩ (by kernel_rfl) rfl plain (by kernel_rfl)
end Go.Proofs.YtadfdfmebdcfgaaGreatDoor.fnMail
namespace Go.Proofs.YtadfdfmebdcfgaaGreatDoor
theorem fnMail_card : Rows.FnMailCardSaid := fnMail.card
#print axioms fnMail_card
end Go.Proofs.YtadfdfmebdcfgaaGreatDoor
