/-
  Both LogAppend functions.
  Contracts of errors.Is at the log's own fault, which wraps one of two errors of errors.New.
  The number that bytes say: both functions; the first record of a text: the program's.
  The records of a log's data: the program's.
-/
import Derived.Test.YtncnbhekgkemfaaGreatDoorPkbi
import Derived.Deep.RegionWith
import Derived.Test.YtncnbhekgkemfaaGreatDoorRows
import Derived.WalkKit
import Derived.WalkLawsBesides
import Derived.LaidEql
import Derived.Stop.Asserts
import Derived.RowKitTokens
import Derived.Below
import Derived.Laws.BitsAllLaws
import Derived.BigQuiet
import Derived.Deep.QuietTactic
import Derived.BigRegion
import Derived.WideShapes
import Derived.Lib.Strings
import Derived.Test.YtncnbhekgkemfaaGreatDoorPkae
import Derived.Laws.AppendOwn

namespace Go.Proofs.YtncnbhekgkemfaaGreatDoor.lg
open Go.ChangeShapes Go.WideShapes Go.ChangeAt Go.RowKit Go.Deep Go.Joins
set_option linter.unusedVariables false

/-- What is answered to a record that is not too long, at a log that is right. -/
def app1 (r : Int) (d : ByteArray) (s : Int) (x : ByteArray) : Value := if r < (d.size : Int) + 7 + x.size then RV r d s 7 else RV r (d ++ fr x) s 0
/-- What LogAppend answers. -/
def app (r : Int) (d : ByteArray) (s : Int) (x : ByteArray) : Value :=
  if 65536 < x.size then RV 0 ⟨#[]⟩ 0 2 else if ok r d.size s = false then RV 0 ⟨#[]⟩ 0 1 else if 1 ≤ x.size ∧ x.size ≤ 20000 then app1 r d s x else RV r d s 4
theorem app_form (r : Int) (d : ByteArray) (s : Int) (x : ByteArray) : ∃ (r' : Int) (d' : ByteArray) (s' c : Int), app r d s x = RV r' d' s' c := by
  unfold app
  split
  · exact ⟨_, _, _, _, rfl⟩
  · split
    · exact ⟨_, _, _, _, rfl⟩
    · split
      · unfold app1
        split
        · exact ⟨_, _, _, _, rfl⟩
        · exact ⟨_, _, _, _, rfl⟩
      · exact ⟨_, _, _, _, rfl⟩

theorem isLen_any (n : Int) (w : World) : Calls Tryz.prog 111 #[.int .i64 n] w fun e w' => e = .returned (.bool (decide (1 ≤ n ∧ n ≤ 20000))) ∧ w' = w := by
  by_cases h0 : 1 ≤ n
  · by_cases h1 : n ≤ 20000
    · rw [decide_eq_true ⟨h0, h1⟩]
      go_enter Tryz.func111, Tryz.ntmps111
      go_wp2
      go_ret
      exact ⟨rfl, rfl⟩
    · rw [decide_eq_false (by omega)]
      go_enter Tryz.func111, Tryz.ntmps111
      go_wp2
      go_ret
      exact ⟨rfl, rfl⟩
  · rw [decide_eq_false (by omega)]
    go_enter Tryz.func111, Tryz.ntmps111
    go_wp2
    go_ret
    exact ⟨rfl, rfl⟩



end Go.Proofs.YtncnbhekgkemfaaGreatDoor.lg

namespace Go.Proofs.YtncnbhekgkemfaaGreatDoor.er
open Go.RowKit Go.Extern.Stop Go.Stop Go.Extern
set_option linter.unusedVariables false

/-- A fault of a log: where, and why. -/
def FV (p : Int) (v : Value) : Value := .iface 150 (.agg #[.int .i64 p, v])
/-- An error of errors.New. -/
def EV (a : Addr) : Value := .iface 205 (.pointer (some a))

theorem isTypeOf (v : Value) (w : World) : (Extern.ReflectliteType.typeOf #[.iface 205 v]).run Tryz.prog w = .ok (.iface 187 (.agg #[.pointer (some ⟨2, 205, none⟩)])) w := by kernel_rfl
/-- What the model's entry of Comparable does. -/
def cmpr : Array Value → Sem Value := Extern.ReflectliteType.method fun t => do Go.Extern.Rtype.noPackHeld "Comparable" t; pure (.bool (← typeInfo t).comparable)
theorem isComparable (w : World) : (cmpr #[.agg #[.pointer (some ⟨2, 205, none⟩)]]).run Tryz.prog w = .ok (.bool true) w := by kernel_rfl
theorem isMethodComparable (v : Value) (w : World) : (Go.method 347 187 v "Comparable").run Tryz.prog w = .ok (164, v) w := by kernel_rfl
theorem isComp : (Tryz.prog.info? 205).map (·.comparable) = some true := by kernel_rfl
theorem isSize : (Tryz.prog.info? 235).map (·.size) = some 1 := by kernel_rfl
theorem noIsE (v : Value) (xT : TypeId) (w : World) : (Instr.typeAssert (.iface 205 v) xT 189 true).run Tryz.prog w = .ok (.tuple #[.nilIface, .bool false]) w := run_typeAssert_lacksB Tryz.underlying189 (by kernel_rfl) (by kernel_rfl) v xT w
theorem noUnwrapE (v : Value) (xT : TypeId) (w : World) : (Instr.typeAssert (.iface 205 v) xT 192 true).run Tryz.prog w = .ok (.tuple #[.nilIface, .bool false]) w := run_typeAssert_lacksB Tryz.underlying192 (by kernel_rfl) (by kernel_rfl) v xT w
theorem noUnwrapsE (v : Value) (xT : TypeId) (w : World) : (Instr.typeAssert (.iface 205 v) xT 194 true).run Tryz.prog w = .ok (.tuple #[.nilIface, .bool false]) w := run_typeAssert_lacksB Tryz.underlying194 (by kernel_rfl) (by kernel_rfl) v xT w
theorem noIsW (v : Value) (xT : TypeId) (w : World) : (Instr.typeAssert (.iface 150 v) xT 189 true).run Tryz.prog w = .ok (.tuple #[.nilIface, .bool false]) w := run_typeAssert_lacksB Tryz.underlying189 (by kernel_rfl) (by kernel_rfl) v xT w
theorem hasUnwrapW (v : Value) (xT : TypeId) (w : World) : (Instr.typeAssert (.iface 150 v) xT 192 true).run Tryz.prog w = .ok (.tuple #[.iface 150 v, .bool true]) w := run_typeAssert_hasB Tryz.underlying192 (by kernel_rfl) v xT w
theorem methodUnwrap (v : Value) (w : World) : (Go.method 347 150 v "Unwrap").run Tryz.prog w = .ok (160, v) w := by kernel_rfl

theorem unwrap_any (p : Int) (v : Value) (w : World) : Calls Tryz.prog 160 #[.agg #[.int .i64 p, v]] w fun e w' => e = .returned v ∧ Below w.heap.size w w' := by
  go_enter Tryz.func160, Tryz.ntmps160
  go_wp2
  go_ret
  exact ⟨rfl, (Below.refl _ w).alloc (Nat.le_refl _) _⟩

/-- errors.Is(nil, x). -/
theorem is_nil (b : Addr) (w : World) :
    Calls Tryz.prog 94 #[.nilIface, EV b] w fun e w' => e = .returned (.bool false) ∧ Below w.heap.size w w' := by
  have hn := run_eql_iface_nil_left (P := Tryz.prog) w 205 (.pointer (some b)) Tryz.underlying118
  unfold EV
  go_enter Tryz.func94, Tryz.ntmps94
  go_wp2
  go_ret
  exact ⟨rfl, Below.refl _ _⟩

set_option maxHeartbeats 1000000 in
set_option maxRecDepth 100000 in
/-- errors.Is(a fault that wraps x, x). -/
theorem is_same (p : Int) (b : Addr) (w : World) :
    Calls Tryz.prog 94 #[FV p (EV b), EV b] w fun e w' => e = .returned (.bool true) ∧ Below w.heap.size w w' := by
  obtain ⟨i, hi, hcmp⟩ := Option.map_eq_some_iff.1 isComp
  obtain ⟨j, hj, hjs⟩ := Option.map_eq_some_iff.1 isSize
  have h8 := @run_callFunc_extern Tryz.prog 114 _ Extern.ReflectliteType.typeOf Tryz.func114 (by kernel_rfl) (by kernel_rfl) (by kernel_rfl) (by kernel_rfl)
  have h32 := @run_callFunc_extern Tryz.prog 164 _ cmpr Tryz.func164 (by kernel_rfl) (by kernel_rfl) (by kernel_rfl) (by kernel_rfl)
  have tT := isTypeOf
  have cT := isComparable
  have mR := isMethodComparable
  have nE := noIsE
  have uE := noUnwrapE
  have vE := noUnwrapsE
  have nW := noIsW
  have uW := hasUnwrapW
  have mU := methodUnwrap
  have HU : Hid (∀ w, Calls Tryz.prog 160 #[.agg #[.int .i64 p, .iface 205 (.pointer (some b))]] w fun e w' => e = .returned (.iface 205 (.pointer (some b))) ∧ Below w.heap.size w w') := fun w => unwrap_any p _ w
  have hty := fun w => run_eql_iface_types (P := Tryz.prog) 150 205 (.agg #[.int .i64 p, .iface 205 (.pointer (some b))]) (.pointer (some b)) Tryz.underlying118 (by decide) w
  have heq := fun w => run_eql_iface_ptr_same (P := Tryz.prog) w b Tryz.underlying118 Tryz.underlying205 hi hcmp hj
  unfold FV EV
  go_enter Tryz.func94, Tryz.ntmps94
  go_wp2
  refine wp_loop_rounds 2 ?_
  rw [rounds_succ]
  go_wp2_with (go_at_call 160; refine (HU.out _).mono ?_; rintro e w' ⟨rfl, hb⟩)
  rw [rounds_succ]
  go_wp2
  go_ret
  exact ⟨rfl, hb⟩

set_option maxHeartbeats 1000000 in
set_option maxRecDepth 100000 in
/-- errors.Is(a fault that wraps x, y), two different errors of errors.New. -/
theorem is_other (p : Int) (a b : Addr) (ca cb : Array Value) (ta tb : TypeId) (w : World) (hne : a ≠ b) (ha : w.heap[a.block]? = some (.cells ca ta (0, 0))) (hb : w.heap[b.block]? = some (.cells cb tb (0, 0))) :
    Calls Tryz.prog 94 #[FV p (EV a), EV b] w fun e w' => e = .returned (.bool false) ∧ Below w.heap.size w w' := by
  obtain ⟨i, hi, hcmp⟩ := Option.map_eq_some_iff.1 isComp
  obtain ⟨j, hj, hjs⟩ := Option.map_eq_some_iff.1 isSize
  have h8 := @run_callFunc_extern Tryz.prog 114 _ Extern.ReflectliteType.typeOf Tryz.func114 (by kernel_rfl) (by kernel_rfl) (by kernel_rfl) (by kernel_rfl)
  have h32 := @run_callFunc_extern Tryz.prog 164 _ cmpr Tryz.func164 (by kernel_rfl) (by kernel_rfl) (by kernel_rfl) (by kernel_rfl)
  have tT := isTypeOf
  have cT := isComparable
  have mR := isMethodComparable
  have nE := noIsE
  have uE := noUnwrapE
  have vE := noUnwrapsE
  have nW := noIsW
  have uW := hasUnwrapW
  have mU := methodUnwrap
  have HU : Hid (∀ w, Calls Tryz.prog 160 #[.agg #[.int .i64 p, .iface 205 (.pointer (some a))]] w fun e w' => e = .returned (.iface 205 (.pointer (some a))) ∧ Below w.heap.size w w') := fun w => unwrap_any p _ w
  have hty := fun w => run_eql_iface_types (P := Tryz.prog) 150 205 (.agg #[.int .i64 p, .iface 205 (.pointer (some a))]) (.pointer (some b)) Tryz.underlying118 (by decide) w
  have HEQ0 := fun (w' : World) (hbw : Below w.heap.size w w') => run_eql_iface_ptr_other (P := Tryz.prog) w' Tryz.underlying118 Tryz.underlying205 hi hcmp hj (by rw [hjs]; decide) hne ((hbw.block a.block (Array.getElem?_eq_some_iff.1 ha).1).trans ha) ((hbw.block b.block (Array.getElem?_eq_some_iff.1 hb).1).trans hb)
  have HEQ : Hid _ := HEQ0
  clear HEQ0
  clear ha hb
  unfold FV EV
  go_enter Tryz.func94, Tryz.ntmps94
  go_wp2
  refine wp_loop_rounds 2 ?_
  rw [rounds_succ]
  go_wp2_with (go_at_call 160; refine (HU.out _).mono ?_; rintro e w' ⟨rfl, hb⟩)
  have heq := HEQ.out w' hb
  rw [rounds_succ]
  go_wp2
  go_ret
  exact ⟨rfl, hb⟩
end Go.Proofs.YtncnbhekgkemfaaGreatDoor.er

namespace Go.Proofs.YtncnbhekgkemfaaGreatDoor.lg
open Go.RowKit
open er
set_option linter.unusedVariables false

theorem i64o (a b : Nat) (ha : a < 4294967296) (hb : b < 4294967296) : bits .or .i64 (a : Int) (b : Int) = ((a ||| b : Nat) : Int) := by
  have hx : a ||| b < 4294967296 := Nat.or_lt_two_pow (n := 32) ha hb
  show IntKind.i64.wrap ((BitVec.ofInt 64 (a : Int) ||| BitVec.ofInt 64 (b : Int)).toNat : Int) = _
  rw [BitVec.toNat_or, ofInt_u64 a (by omega), ofInt_u64 b (by omega)]
  simp only [IntKind.wrap, IntKind.bits, IntKind.signed]
  simp
  omega
theorem or_add (a : Nat) (b : UInt8) (ha : a < 16777216) : bits .or .i64 ((a : Int) * 256) (b.toNat : Int) = ((a * 256 + b.toNat : Nat) : Int) := by
  have hb := b.toNat_lt
  have h : (a * 256) ||| b.toNat = a * 256 + b.toNat := by
    have := Nat.two_pow_add_eq_or_of_lt (i := 8) (b := b.toNat) (by omega) a
    rw [Nat.mul_comm a 256]
    exact this.symm
  rw [← h, ← i64o (a * 256) b.toNat (by omega) (by omega)]
  rfl

set_option maxHeartbeats 1000000 in
set_option maxRecDepth 100000 in
theorem ofBytes_any (s : ByteArray) (w : World) (hs : s.size ≤ 3) :
    Calls Tryz.prog 110 #[.string s] w fun e w' => e = .returned (.int .i64 (numB s)) ∧ w' = w := by
  go_enter Tryz.func110, Tryz.ntmps110
  go_wp2
  go_loop [3, 7] (fun n i => ∃ k : Nat, k ≤ s.size ∧ i = .int .i64 k ∧ n = .int .i64 (num (s.data.toList.take k) : Nat)) (fun _ i => s.size - (intOf i).toNat)
  case atStart => exact ⟨0, Nat.zero_le _, rfl, rfl⟩
  case round =>
    obtain ⟨k, hk, rfl, rfl⟩ := hrel
    have hq := num_lt (s.data.toList.take k)
    have hlen : (s.data.toList.take k).length = k := by rw [List.length_take]; exact Nat.min_eq_left hk
    rw [hlen] at hq
    by_cases hlt : k < s.size
    · have hst := num_step s.data.toList k hlt
      have hq2 : num (s.data.toList.take k) < 16777216 := Nat.lt_of_lt_of_le hq (Nat.pow_le_pow_right (n := 256) (by omega) (show k ≤ 3 by omega))
      have hb' : (s[k]).toNat < 256 := (s[k]).toNat_lt
      have HO : Hid (bits .or .i64 ((num (s.data.toList.take k) : Int) * 256) ((s[k]).toNat : Int) = ((num (s.data.toList.take k) * 256 + (s[k]).toNat : Nat) : Int)) := or_add (num (s.data.toList.take k)) (s[k]) hq2
      have HS : Hid (num (s.data.toList.take (k + 1)) = num (s.data.toList.take k) * 256 + (s[k]).toNat) := hst
      clear hst
      generalize num (s.data.toList.take k) = q at *
      go_wp2
      go_round
      case rel => exact ⟨k + 1, by omega, by go_num, by rw [HS.out]; exact congrArg (Value.int .i64) HO.out⟩
      case measure => simp [intOf]; omega
    · have hkn : k = s.size := by omega
      subst hkn
      have e : s.data.toList.take s.size = s.data.toList := List.take_length
      rw [e]
      have HN : Hid (num s.data.toList = numB s) := rfl
      rw [HN.out]
      go_wp2
      go_ret
      exact ⟨rfl, rfl⟩

set_option maxHeartbeats 1000000 in
set_option maxRecDepth 100000 in
theorem l08Number_any (s : ByteArray) (w : World) (hs : s.size ≤ 3) :
    Calls Tryz.prog 50 #[.string s] w fun e w' => e = .returned (.int .i64 (numB s)) ∧ w' = w := by
  go_enter Tryz.func50, Tryz.ntmps50
  go_wp2
  go_loop [3, 4] (fun n i => ∃ k : Nat, k ≤ s.size ∧ i = .int .i64 k ∧ n = .int .i64 (num (s.data.toList.take k) : Nat)) (fun _ i => s.size - (intOf i).toNat)
  case atStart => exact ⟨0, Nat.zero_le _, rfl, rfl⟩
  case round =>
    obtain ⟨k, hk, rfl, rfl⟩ := hrel
    have hq := num_lt (s.data.toList.take k)
    have hlen : (s.data.toList.take k).length = k := by rw [List.length_take]; exact Nat.min_eq_left hk
    rw [hlen] at hq
    by_cases hlt : k < s.size
    · have hst := num_step s.data.toList k hlt
      have hq2 : num (s.data.toList.take k) < 16777216 := Nat.lt_of_lt_of_le hq (Nat.pow_le_pow_right (n := 256) (by omega) (show k ≤ 3 by omega))
      have hb := (s.data.toList[k]).toNat_lt
      have hb' : (s[k]).toNat < 256 := (s[k]).toNat_lt
      have HS : Hid (num (s.data.toList.take (k + 1)) = num (s.data.toList.take k) * 256 + (s[k]).toNat) := hst
      clear hst hb
      generalize num (s.data.toList.take k) = q at *
      go_wp2
      go_round
      case rel => exact ⟨k + 1, by omega, by go_num, by rw [HS.out]; rfl⟩
      case measure => simp [intOf]; omega
    · have hkn : k = s.size := by omega
      subst hkn
      have e : s.data.toList.take s.size = s.data.toList := List.take_length
      rw [e]
      have HN : Hid (num s.data.toList = numB s) := rfl
      rw [HN.out]
      go_wp2
      go_ret
      exact ⟨rfl, rfl⟩

theorem below_drewN {B : Nat} {a w : World} (h : Below B a w) (n : Nat) : Below B a (w.drewN n) := ⟨h.os, h.tape, h.output, h.size, h.block⟩
/-- The two errors of a log's records. -/
structure Errs (w : World) (c b : Addr) (ca cb : Array Value) (ta tb : TypeId) : Prop where
  hc : w.cell? ⟨0, 0, none⟩ = some (EV c)
  hw : w.cell? ⟨1, 0, none⟩ = some (EV b)
  hne : c ≠ b
  ha : w.heap[c.block]? = some (.cells ca ta (0, 0))
  hb : w.heap[b.block]? = some (.cells cb tb (0, 0))
theorem Errs.keep {w w' : World} {c b : Addr} {ca cb : Array Value} {ta tb : TypeId} (h : Errs w c b ca cb ta tb) (k : Below w.heap.size w w') : Errs w' c b ca cb ta tb :=
  ⟨(k.cell (p := ⟨0, 0, none⟩) (World.block_lt_of_cell? w _ h.hc)).trans h.hc, (k.cell (p := ⟨1, 0, none⟩) (World.block_lt_of_cell? w _ h.hw)).trans h.hw, h.hne, (k.block _ (Array.getElem?_eq_some_iff.1 h.ha).1).trans h.ha, (k.block _ (Array.getElem?_eq_some_iff.1 h.hb).1).trans h.hb⟩
/-- Why there is no record, as an error. -/
def errv (c b : Addr) (code : Nat) : Value := if code = 0 then .nilIface else if code = 18 then EV c else EV b

set_option maxHeartbeats 1000000 in
set_option maxRecDepth 100000 in
theorem firstRecord_any (T : ByteArray) (w : World) (c b : Addr) (ca cb : Array Value) (ta tb : TypeId) (hT : T.size ≤ 1048576) (hE : Errs w c b ca cb ta tb) :
    Calls Tryz.prog 92 #[.string T] w fun e w' => e = .returned (.tuple #[.string (nextT T).2, errv c b (nextT T).1]) ∧ Below w.heap.size w w' := by
  have hc := hE.hc
  have hw := hE.hw
  have HE : Hid (Errs w c b ca cb ta tb) := hE
  have hn0 : nextT T = if T.size < 7 then (18, nt) else if numB (T.extract 0 3) = 0 ∨ 20000 < numB (T.extract 0 3) then (8, nt) else if T.size - 7 < numB (T.extract 0 3) then (18, nt) else
    if T.extract 3 7 ≠ sb (T.extract 0 3) ((T.extract 7 T.size).extract 0 (numB (T.extract 0 3))) then (8, nt) else (0, (T.extract 7 T.size).extract 0 (numB (T.extract 0 3))) := rfl
  rw [hn0]
  clear hn0
  by_cases h1 : T.size < 7
  · rw [if_pos h1]
    unfold errv EV nt
    simp only [if_neg (show ¬ (18 : Nat) = 0 by decide), if_pos]
    unfold EV at hc hw
    go_enter Tryz.func92, Tryz.ntmps92
    go_wp2_with fail
    go_quiet (fail)
    go_wp2
    go_ret2
    exact ⟨rfl, below_drewN (Below.refl _ _) nq⟩
  rw [if_neg h1]
  have hL3 : (T.extract 0 3).size = 3 := by rw [size_ex (by omega) (by omega)]
  have HF0 := fun W => ofBytes_any (T.extract 0 3) W (by omega)
  have hlt := num_lt (T.extract 0 3).data.toList
  have hlen3 : (T.extract 0 3).data.toList.length = 3 := hL3
  rw [hlen3] at hlt
  have hnlt : numB (T.extract 0 3) < 16777216 := hlt
  have HI0 := fun W => isLen_any (numB (T.extract 0 3)) W
  obtain ⟨n, hn⟩ : ∃ n, numB (T.extract 0 3) = n := ⟨_, rfl⟩
  have hsz7 : (T.extract 7 T.size).size = T.size - 7 := size_ex (by omega) (Nat.le_refl _)
  rw [hn] at HF0 HI0 hnlt ⊢
  have HF : Hid _ := HF0
  clear HF0 hlt hlen3
  by_cases h2 : n = 0 ∨ 20000 < n
  · rw [if_pos h2]
    rw [decide_eq_false (show ¬ (1 ≤ (n : Int) ∧ (n : Int) ≤ 20000) from by omega)] at HI0
    have HI : Hid _ := HI0
    clear HI0
    unfold errv EV nt
    simp only [if_neg (show ¬ (8 : Nat) = 0 by decide), if_neg (show ¬ (8 : Nat) = 18 by decide)]
    go_enter Tryz.func92, Tryz.ntmps92
    go_wp2_with fail
    go_quiet (fail)
    have k1 : Below w.heap.size w (w.drewN nq) := below_drewN (Below.refl _ _) nq
    generalize w.drewN nq = w1 at k1 ⊢
    go_wp2_with fail
    refine (HF.out w1).mono ?_
    rintro e w2 ⟨rfl, rfl⟩
    go_wp2_with fail
    refine (HI.out w2).mono ?_
    rintro e w3 ⟨rfl, rfl⟩
    have hw3 := (HE.out.keep k1).hw
    unfold EV at hw3
    go_wp2_with fail
    go_quiet (fail)
    go_wp2
    go_ret2
    exact ⟨rfl, below_drewN k1 _⟩
  rw [if_neg h2]
  rw [decide_eq_true (show 1 ≤ (n : Int) ∧ (n : Int) ≤ 20000 from by omega)] at HI0
  have HI : Hid _ := HI0
  clear HI0
  by_cases h3 : T.size - 7 < n
  · rw [if_pos h3]
    unfold errv EV nt
    simp only [if_neg (show ¬ (18 : Nat) = 0 by decide), if_pos]
    go_enter Tryz.func92, Tryz.ntmps92
    go_wp2_with fail
    go_quiet (fail)
    have k1 : Below w.heap.size w (w.drewN nq) := below_drewN (Below.refl _ _) nq
    generalize w.drewN nq = w1 at k1 ⊢
    go_wp2_with fail
    refine (HF.out w1).mono ?_
    rintro e w2 ⟨rfl, rfl⟩
    go_wp2_with fail
    refine (HI.out w2).mono ?_
    rintro e w3 ⟨rfl, rfl⟩
    have hw3 := (HE.out.keep k1).hc
    unfold EV at hw3
    go_wp2_with fail
    go_quiet (fail)
    go_wp2
    go_ret2
    exact ⟨rfl, below_drewN k1 _⟩
  rw [if_neg h3]
  have hX : ((T.extract 7 T.size).extract 0 n).size = n := by rw [size_ex (by omega) (by omega)]; omega
  have HR : Hid (∀ W, Calls Tryz.prog 112 #[.string (T.extract 0 3), .string ((T.extract 7 T.size).extract 0 n)] W fun e w' => e = .returned (.string (sb (T.extract 0 3) ((T.extract 7 T.size).extract 0 n))) ∧ Below W.heap.size W w') := fun W => recordSum_any _ _ W (by omega)
  obtain ⟨S, hS⟩ : ∃ S, sb (T.extract 0 3) ((T.extract 7 T.size).extract 0 n) = S := ⟨_, rfl⟩
  rw [hS] at HR ⊢
  clear hS hX
  by_cases h4 : T.extract 3 7 ≠ S
  · rw [if_pos h4]
    have hne : ((T.extract 3 7).toList == S.toList) = false := beq_eq_false_iff_ne.2 fun e => h4 (WideShapes.bytes_inj (by rw [← Lib.toList_data, ← Lib.toList_data]; exact e))
    clear h4
    unfold errv EV nt
    simp only [if_neg (show ¬ (8 : Nat) = 0 by decide), if_neg (show ¬ (8 : Nat) = 18 by decide)]
    go_enter Tryz.func92, Tryz.ntmps92
    go_wp2_with fail
    go_quiet (fail)
    have k1 : Below w.heap.size w (w.drewN nq) := below_drewN (Below.refl _ _) nq
    generalize w.drewN nq = w1 at k1 ⊢
    go_wp2_with fail
    refine (HF.out w1).mono ?_
    rintro e w2 ⟨rfl, rfl⟩
    go_wp2_with fail
    refine (HI.out w2).mono ?_
    rintro e w3 ⟨rfl, rfl⟩
    go_wp2_with fail
    refine (HR.out w3).mono ?_
    rintro e w4 ⟨rfl, k4⟩
    have k5 := k1.trans (k4.mono k1.size)
    have hw3 := (HE.out.keep k5).hw
    unfold EV at hw3
    go_wp2_with fail
    go_quiet (fail)
    go_wp2
    go_ret2
    exact ⟨rfl, below_drewN k5 _⟩
  · have h5 : T.extract 3 7 = S := Classical.not_not.1 h4
    rw [if_neg h4]
    have heq : ((T.extract 3 7).toList == S.toList) = true := by rw [h5]; exact beq_self_eq_true _
    clear h4 h5
    unfold errv
    simp only [if_pos]
    go_enter Tryz.func92, Tryz.ntmps92
    go_wp2_with fail
    go_quiet (fail)
    have k1 : Below w.heap.size w (w.drewN nq) := below_drewN (Below.refl _ _) nq
    generalize w.drewN nq = w1 at k1 ⊢
    go_wp2_with fail
    refine (HF.out w1).mono ?_
    rintro e w2 ⟨rfl, rfl⟩
    go_wp2_with fail
    refine (HI.out w2).mono ?_
    rintro e w3 ⟨rfl, rfl⟩
    go_wp2_with fail
    refine (HR.out w3).mono ?_
    rintro e w4 ⟨rfl, k4⟩
    have k5 := k1.trans (k4.mono k1.size)
    go_wp2
    go_ret2
    exact ⟨rfl, k5⟩
end Go.Proofs.YtncnbhekgkemfaaGreatDoor.lg

namespace Go.Proofs.YtncnbhekgkemfaaGreatDoor.lg
open Go.RowKit
open er
open ky (OwnT TextsAt own_texts texts_below)
set_option linter.unusedVariables false

theorem infoT : (Tryz.prog.info? 9).map (fun i => (i.zero, i.size, i.bytes)) = some (some (.string ⟨#[]⟩), 1, 16) := by kernel_rfl
/-- Why the records of a log end, as an error. -/
def fault (c b : Addr) (p code : Nat) : Value := if code = 0 then .nilIface else FV p (errv c b code)

set_option maxHeartbeats 2000000 in
set_option maxRecDepth 100000 in
theorem recordsOf_any (t : ByteArray) (w : World) (c b : Addr) (ca cb : Array Value) (ta tb : TypeId) (ht : t.size ≤ 1048576) (hE : Errs w c b ca cb ta tb) :
    Calls Tryz.prog 64 #[.string t] w fun e w' => (∃ v, e = .returned (.tuple #[v, .int .i64 (recs t).2.1, fault c b (recs t).2.1 (recs t).2.2]) ∧ OwnT w' w.heap.size v (recs t).1) ∧ Below w.heap.size w w' := by
  obtain ⟨i0, hi, hz0, hz1, hz2⟩ := info_parts infoT
  have HE : Hid (Errs w c b ca cb ta tb) := hE
  clear hE
  obtain ⟨RR, hRR⟩ : ∃ R, recs t = R := ⟨_, rfl⟩
  have HRR : Hid (scan t (t.size + 1) 0 [] = RR) := hRR
  rw [hRR]
  clear hRR
  go_enter Tryz.func64, Tryz.ntmps64
  go_wp2
  go_loopw [5, 6] (fun v i wr => ∃ (p f : Nat) (acc : List ByteArray), p ≤ t.size ∧ i = .int .i64 p ∧ scan t f p acc = RR ∧ t.size - p < f ∧ acc.length ≤ p ∧ OwnT wr w.heap.size v acc ∧ Below w.heap.size w wr) (fun _ i _ => t.size - (intOf i).toNat)
  case atStart => exact ⟨0, t.size + 1, [], Nat.zero_le _, rfl, HRR.out, by omega, Nat.le_refl _, World.ownsRow_nil _ _ _ _, Below.refl _ _⟩
  case round =>
    obtain ⟨p, f, acc, hp, rfl, hsc, hf, hal, hown, hbw⟩ := hrel
    have HSC : Hid (scan t f p acc = RR) := hsc
    clear hsc HRR
    by_cases hlt : p < t.size
    · have hlt' : (p : Int) < (t.size : Int) := by omega
      have hNX := next_eq (Nat.le_of_lt hlt)
      have HFR : Hid (∀ W, Below w.heap.size w W → Calls Tryz.prog 92 #[.string (t.extract p t.size)] W fun e w' => e = .returned (.tuple #[.string (next t p).2, errv c b (next t p).1]) ∧ Below W.heap.size W w') := by
        intro W hW
        have h1 := firstRecord_any (t.extract p t.size) W c b ca cb ta tb (by rw [size_ex (by omega) (Nat.le_refl _)]; omega) (HE.out.keep hW)
        rw [hNX] at h1
        exact h1
      clear hNX
      by_cases hc0 : (next t p).1 = 0
      · obtain ⟨g, hg, hsg⟩ := scan_step (acc := acc) hlt hf hc0
        have hok := next_ok hc0
        have HS2 : Hid (scan t g (p + 7 + (next t p).2.size) (acc ++ [(next t p).2]) = RR) := hsg.symm.trans HSC.out
        rw [hc0] at HFR
        clear hsg HSC
        obtain ⟨x, hx⟩ : ∃ x, (next t p).2 = x := ⟨_, rfl⟩
        rw [hx] at HFR HS2 hok hg
        clear hx hc0
        unfold errv at HFR
        simp only [if_pos] at HFR
        go_wp2_with fail
        refine (HFR.out wr hbw).mono ?_
        rintro e w2 ⟨rfl, k2⟩
        have own2 := ow.own_below hown k2
        have b2 := hbw.trans (k2.mono hbw.size)
        clear hown hbw k2 HFR
        go_wp2_with fail
        refine (clone_any x w2 (by omega)).mono ?_
        rintro e w3 ⟨rfl, k3⟩
        have own3 : OwnT w3 w.heap.size _ acc := ow.own_below own2 k3
        have b3 := b2.trans (k3.mono b2.size)
        have hBs := b3.size
        clear own2 b2 k3
        go_wp2_with (at_builtin; refine wpList_append_own _ rfl _ _ 68 rfl w.heap.size 9 i0 (.string ⟨#[]⟩) 1 16 Tryz.underlying68 hi hz0 hz1 hz2 rfl (by decide) _ _ _ rfl (own3.alloc _) ⟨w3.heap.size, 0, none⟩ 1 1 [.string x] rfl rfl (ow.cells_new _ [.string x] _) (by intro u hu; simp at hu; subst hu; rfl) (by unfold maxLen; omega) (by omega) (by simp; omega) ?_; intro v' w4 hown4 hgrow4 hnil4)
        have hb4 := Below.grown (b3.alloc hBs _) hgrow4 (by simp; omega) (ow.own_lt own3)
        have HA : Hid (Below w.heap.size w w4 ∧ OwnT w4 w.heap.size v' (acc ++ [x])) := by
          refine ⟨hb4, ?_⟩
          unfold OwnT
          rw [List.length_append, List.map_append]
          exact hown4
        clear hb4 hown4 hgrow4 hnil4 own3 b3
        go_wp2
        go_roundw
        case rel => exact ⟨p + 7 + x.size, g, acc ++ [x], by omega, by go_num, HS2.out, hg, by rw [List.length_append]; simp only [List.length_singleton]; omega, HA.out.2, HA.out.1⟩
        case measure => simp [intOf]; omega
      · have hst := scan_stop (acc := acc) hlt hf hc0
        have hR : RR = (acc, p, (next t p).1) := HSC.out.symm.trans hst
        have hnn := next_none hc0
        rw [hnn] at HFR
        have hcd := next_code t p
        obtain ⟨q, hq⟩ : ∃ q, (next t p).1 = q := ⟨_, rfl⟩
        rw [hq] at HFR hcd hc0 hR
        clear HSC hst hq hnn
        subst hR
        obtain ⟨E, hE2⟩ : ∃ E : Addr, errv c b q = EV E := by
          unfold errv
          rw [if_neg hc0]
          split
          · exact ⟨_, rfl⟩
          · exact ⟨_, rfl⟩
        have HF : Hid (fault c b p q = .iface 150 (.agg #[.int .i64 p, .iface 205 (.pointer (some E))])) := by
          show fault c b p q = _
          unfold fault
          rw [if_neg hc0, hE2]
          rfl
        rw [hE2] at HFR
        unfold EV nt at HFR
        clear hE2 hcd
        go_wp2_with fail
        refine (HFR.out wr hbw).mono ?_
        rintro e w2 ⟨rfl, k2⟩
        have own2 : OwnT w2 w.heap.size _ acc := ow.own_below hown k2
        have b2 := hbw.trans (k2.mono hbw.size)
        clear hown hbw k2 HFR
        go_wp2
        go_ret3
        rw [HF.out]
        exact ⟨⟨_, rfl, own2⟩, b2⟩
    · have hR : RR = (acc, p, 0) := HSC.out.symm.trans (scan_end (by omega))
      subst hR
      have HF : Hid (fault c b p 0 = .nilIface) := rfl
      go_wp2
      go_ret3
      rw [HF.out]
      exact ⟨⟨_, rfl, hown⟩, hbw⟩
end Go.Proofs.YtncnbhekgkemfaaGreatDoor.lg
