/-
  Contracts of errors.Is at the log's own fault, which wraps one of two errors of errors.New.
-/
import Derived.Test.YtcmhpkgboacojaaDoorRows
import Derived.WalkKit
import Derived.WalkLawsBesides
import Derived.LaidEql
import Derived.Stop.Asserts
import Derived.RowKitTokens
import Derived.Below
namespace Go.Proofs.YtcmhpkgboacojaaDoor.er
open Go.RowKit Go.Extern.Stop Go.Stop Go.Extern
set_option linter.unusedVariables false

/-- A fault of a log: where, and why. -/
def FV (p : Int) (v : Value) : Value := .iface 65 (.agg #[.int .i64 p, v])
/-- An error of errors.New. -/
def EV (a : Addr) : Value := .iface 96 (.pointer (some a))

theorem isTypeOf (v : Value) (w : World) : (Extern.ReflectliteType.typeOf #[.iface 96 v]).run Tryd.prog w = .ok (.iface 81 (.agg #[.pointer (some ⟨2, 96, none⟩)])) w := by kernel_rfl
/-- What the model's entry of Comparable does. -/
def cmpr : Array Value → Sem Value := Extern.ReflectliteType.method fun t => do Go.Extern.Rtype.noPackHeld "Comparable" t; pure (.bool (← typeInfo t).comparable)
theorem isComparable (w : World) : (cmpr #[.agg #[.pointer (some ⟨2, 96, none⟩)]]).run Tryd.prog w = .ok (.bool true) w := by kernel_rfl
theorem isMethodComparable (v : Value) (w : World) : (Go.method 230 81 v "Comparable").run Tryd.prog w = .ok (81, v) w := by kernel_rfl
theorem isComp : (Tryd.prog.info? 96).map (·.comparable) = some true := by kernel_rfl
theorem isSize : (Tryd.prog.info? 118).map (·.size) = some 1 := by kernel_rfl
theorem noIsE (v : Value) (xT : TypeId) (w : World) : (Instr.typeAssert (.iface 96 v) xT 83 true).run Tryd.prog w = .ok (.tuple #[.nilIface, .bool false]) w := run_typeAssert_lacksB Tryd.underlying83 (by kernel_rfl) (by kernel_rfl) v xT w
theorem noUnwrapE (v : Value) (xT : TypeId) (w : World) : (Instr.typeAssert (.iface 96 v) xT 86 true).run Tryd.prog w = .ok (.tuple #[.nilIface, .bool false]) w := run_typeAssert_lacksB Tryd.underlying86 (by kernel_rfl) (by kernel_rfl) v xT w
theorem noUnwrapsE (v : Value) (xT : TypeId) (w : World) : (Instr.typeAssert (.iface 96 v) xT 88 true).run Tryd.prog w = .ok (.tuple #[.nilIface, .bool false]) w := run_typeAssert_lacksB Tryd.underlying88 (by kernel_rfl) (by kernel_rfl) v xT w
theorem noIsW (v : Value) (xT : TypeId) (w : World) : (Instr.typeAssert (.iface 65 v) xT 83 true).run Tryd.prog w = .ok (.tuple #[.nilIface, .bool false]) w := run_typeAssert_lacksB Tryd.underlying83 (by kernel_rfl) (by kernel_rfl) v xT w
theorem hasUnwrapW (v : Value) (xT : TypeId) (w : World) : (Instr.typeAssert (.iface 65 v) xT 86 true).run Tryd.prog w = .ok (.tuple #[.iface 65 v, .bool true]) w := run_typeAssert_hasB Tryd.underlying86 (by kernel_rfl) v xT w
theorem methodUnwrap (v : Value) (w : World) : (Go.method 230 65 v "Unwrap").run Tryd.prog w = .ok (77, v) w := by kernel_rfl

theorem unwrap_any (p : Int) (v : Value) (w : World) : Calls Tryd.prog 77 #[.agg #[.int .i64 p, v]] w fun e w' => e = .returned v ∧ Below w.heap.size w w' := by
  go_enter Tryd.func77, Tryd.ntmps77
  go_wp2
  go_ret
  exact ⟨rfl, (Below.refl _ w).alloc (Nat.le_refl _) _⟩

/-- errors.Is(nil, x). -/
theorem is_nil (b : Addr) (w : World) :
    Calls Tryd.prog 33 #[.nilIface, EV b] w fun e w' => e = .returned (.bool false) ∧ Below w.heap.size w w' := by
  have hn := run_eql_iface_nil_left (P := Tryd.prog) w 96 (.pointer (some b)) Tryd.underlying47
  unfold EV
  go_enter Tryd.func33, Tryd.ntmps33
  go_wp2
  go_ret
  exact ⟨rfl, Below.refl _ _⟩

set_option maxHeartbeats 1000000 in
set_option maxRecDepth 100000 in
/-- errors.Is(a fault that wraps x, x). -/
theorem is_same (p : Int) (b : Addr) (w : World) :
    Calls Tryd.prog 33 #[FV p (EV b), EV b] w fun e w' => e = .returned (.bool true) ∧ Below w.heap.size w w' := by
  obtain ⟨i, hi, hcmp⟩ := Option.map_eq_some_iff.1 isComp
  obtain ⟨j, hj, hjs⟩ := Option.map_eq_some_iff.1 isSize
  have h8 := @run_callFunc_extern Tryd.prog 47 _ Extern.ReflectliteType.typeOf Tryd.func47 (by kernel_rfl) (by kernel_rfl) (by kernel_rfl) (by kernel_rfl)
  have h32 := @run_callFunc_extern Tryd.prog 81 _ cmpr Tryd.func81 (by kernel_rfl) (by kernel_rfl) (by kernel_rfl) (by kernel_rfl)
  have tT := isTypeOf
  have cT := isComparable
  have mR := isMethodComparable
  have nE := noIsE
  have uE := noUnwrapE
  have vE := noUnwrapsE
  have nW := noIsW
  have uW := hasUnwrapW
  have mU := methodUnwrap
  have HU : Hid (∀ w, Calls Tryd.prog 77 #[.agg #[.int .i64 p, .iface 96 (.pointer (some b))]] w fun e w' => e = .returned (.iface 96 (.pointer (some b))) ∧ Below w.heap.size w w') := fun w => unwrap_any p _ w
  have hty := fun w => run_eql_iface_types (P := Tryd.prog) 65 96 (.agg #[.int .i64 p, .iface 96 (.pointer (some b))]) (.pointer (some b)) Tryd.underlying47 (by decide) w
  have heq := fun w => run_eql_iface_ptr_same (P := Tryd.prog) w b Tryd.underlying47 Tryd.underlying96 hi hcmp hj
  unfold FV EV
  go_enter Tryd.func33, Tryd.ntmps33
  go_wp2
  refine wp_loop_rounds 2 ?_
  rw [rounds_succ]
  go_wp2_with (go_at_call 77; refine (HU.out _).mono ?_; rintro e w' ⟨rfl, hb⟩)
  rw [rounds_succ]
  go_wp2
  go_ret
  exact ⟨rfl, hb⟩

set_option maxHeartbeats 1000000 in
set_option maxRecDepth 100000 in
/-- errors.Is(a fault that wraps x, y), two different errors of errors.New. -/
theorem is_other (p : Int) (a b : Addr) (ca cb : Array Value) (ta tb : TypeId) (w : World) (hne : a ≠ b) (ha : w.heap[a.block]? = some (.cells ca ta (0, 0))) (hb : w.heap[b.block]? = some (.cells cb tb (0, 0))) :
    Calls Tryd.prog 33 #[FV p (EV a), EV b] w fun e w' => e = .returned (.bool false) ∧ Below w.heap.size w w' := by
  obtain ⟨i, hi, hcmp⟩ := Option.map_eq_some_iff.1 isComp
  obtain ⟨j, hj, hjs⟩ := Option.map_eq_some_iff.1 isSize
  have h8 := @run_callFunc_extern Tryd.prog 47 _ Extern.ReflectliteType.typeOf Tryd.func47 (by kernel_rfl) (by kernel_rfl) (by kernel_rfl) (by kernel_rfl)
  have h32 := @run_callFunc_extern Tryd.prog 81 _ cmpr Tryd.func81 (by kernel_rfl) (by kernel_rfl) (by kernel_rfl) (by kernel_rfl)
  have tT := isTypeOf
  have cT := isComparable
  have mR := isMethodComparable
  have nE := noIsE
  have uE := noUnwrapE
  have vE := noUnwrapsE
  have nW := noIsW
  have uW := hasUnwrapW
  have mU := methodUnwrap
  have HU : Hid (∀ w, Calls Tryd.prog 77 #[.agg #[.int .i64 p, .iface 96 (.pointer (some a))]] w fun e w' => e = .returned (.iface 96 (.pointer (some a))) ∧ Below w.heap.size w w') := fun w => unwrap_any p _ w
  have hty := fun w => run_eql_iface_types (P := Tryd.prog) 65 96 (.agg #[.int .i64 p, .iface 96 (.pointer (some a))]) (.pointer (some b)) Tryd.underlying47 (by decide) w
  have HEQ0 := fun (w' : World) (hbw : Below w.heap.size w w') => run_eql_iface_ptr_other (P := Tryd.prog) w' Tryd.underlying47 Tryd.underlying96 hi hcmp hj (by rw [hjs]; decide) hne ((hbw.block a.block (Array.getElem?_eq_some_iff.1 ha).1).trans ha) ((hbw.block b.block (Array.getElem?_eq_some_iff.1 hb).1).trans hb)
  have HEQ : Hid _ := HEQ0
  clear HEQ0
  clear ha hb
  unfold FV EV
  go_enter Tryd.func33, Tryd.ntmps33
  go_wp2
  refine wp_loop_rounds 2 ?_
  rw [rounds_succ]
  go_wp2_with (go_at_call 77; refine (HU.out _).mono ?_; rintro e w' ⟨rfl, hb⟩)
  have heq := HEQ.out w' hb
  rw [rounds_succ]
  go_wp2
  go_ret
  exact ⟨rfl, hb⟩
end Go.Proofs.YtcmhpkgboacojaaDoor.er
