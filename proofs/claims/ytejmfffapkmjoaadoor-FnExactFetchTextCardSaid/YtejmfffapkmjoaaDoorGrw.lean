/-
  Regions that draw their order, whose own operations only read and whose callees make new memory alone: one walk in the order of the text.
-/
import Derived.Below
import Derived.WalkKit
import Derived.WalkLawsBesides
import Derived.Deep.QuietTactic
import Derived.BigQuiet
import Derived.BigRegion
namespace Go.Proofs.YtejmfffapkmjoaaDoor.gr
open Go.RowKit
set_option linter.unusedVariables false

/-- What a world may have grown to. -/
def Ext (w : World) : Type := { x : World // Below w.heap.size w x }
def gw {w : World} (x : Ext w) : World := x.1
section
variable {P : Program} {w : World}
theorem gw_below (x : Ext w) : Below w.heap.size w (gw x) := x.2
theorem ext_some (w : World) : Nonempty (Ext w) := ⟨⟨w, Below.refl _ _⟩⟩
theorem gw_cell (x : Ext w) {p : Addr} {v : Value} (h : w.cell? p = some v) : (gw x).cell? p = some v := (x.2.cell (World.block_lt_of_cell? w _ h)).trans h
theorem region_lit {id : Nat} {Q : Exit → Act → World → Prop} {a : Act} {l : List Oper} (hm : P.follows .mixedOrders = true) (hB : Region.lexB .any l.toArray = true)
    (h : wpQuiet P l.toArray (fun w' => ∃ x : Ext w, w' = gw x) (fun a' => ∀ w', (∃ x : Ext w, w' = gw x) → Q .normal a' w') l a) : (Code.region id l.toArray true).wp P Q a w :=
  wp_region_quiet (C := fun w' => ∃ x : Ext w, w' = gw x) hm hB ⟨⟨_, (Below.refl _ w).drew⟩, rfl⟩ (by simpa using h)
theorem grow_of {f : FuncId} {args : Array Value} {x : Ext w} {v : Value} (h : Calls P f args (gw x) fun e w' => e = .returned v ∧ Below (gw x).heap.size (gw x) w') :
    Calls P f args (gw x) fun e w'' => e = .returned v ∧ ∃ y : Ext w, w'' = gw y :=
  h.mono fun e w' ⟨he, hb⟩ => ⟨he, ⟨w', (gw_below x).trans (hb.mono (gw_below x).size)⟩, rfl⟩
theorem grow_same {f : FuncId} {args : Array Value} {x : Ext w} {v : Value} (h : Calls P f args (gw x) fun e w' => e = .returned v ∧ w' = gw x) :
    Calls P f args (gw x) fun e w'' => e = .returned v ∧ ∃ y : Ext w, w'' = gw y :=
  h.mono fun e w' ⟨he, hb⟩ => ⟨he, x, hb⟩
end
end Go.Proofs.YtejmfffapkmjoaaDoor.gr
