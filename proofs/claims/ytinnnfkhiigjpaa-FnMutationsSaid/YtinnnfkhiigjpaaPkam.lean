/-
  Contracts of the functions that say whether an entry is right: its lines, its texts of runes of XML, its date; of the program and of the specification.
  Contracts of both EntryOK functions: whether an entry is right.
  Contracts of small functions of dates: whether a number is a stamp, and a stamp's day of the week.
  Contracts of the functions that write numbers of two digits.
  Regions that draw their order, whose own operations only read and whose callees make new memory alone: one walk in the order of the text.
-/
import Derived.Test.YtinnnfkhiigjpaaPkal
import Derived.Test.YtinnnfkhiigjpaaPkaa
import Derived.Test.YtinnnfkhiigjpaaRows
import Derived.WalkKit
import Derived.WalkLawsBesides
import Derived.Below
import Derived.Deep.QuietTactic
import Derived.BigQuiet
import Derived.BigRegion

namespace Go.Proofs.Ytinnnfkhiigjpaa.en
open Go.RowKit
set_option linter.unusedVariables false

theorem pos_far (s : ByteArray) : ∀ n, (∀ m, m < n → ut.pos s m < s.size) → n ≤ ut.pos s n
  | 0, _ => Nat.zero_le _
  | n + 1, h => by
    have h1 := pos_far s n (fun m hm => h m (by omega))
    have h2 := (ut.pos_le s n (h n (by omega))).2
    omega
def dBad (s : ByteArray) (k : Nat) : Decidable (xm.xbad s k) := inferInstanceAs (Decidable (Utf8.decode s k = (65533, 1) ∨ xm.xr ((Utf8.decode s k).1 : Int) = false))
def dAll (s : ByteArray) (n : Nat) : Decidable (∀ m, m < n → ¬ xm.xbad s (ut.pos s m)) := @Nat.decidableBallLT n (fun m _ => ¬ xm.xbad s (ut.pos s m)) (fun m _ => @instDecidableNot _ (dBad s (ut.pos s m)))
/-- The first place at which a text's end is come to. -/
theorem good_first {s : ByteArray} (h : xm.GoodTo s s.size) : ∃ n, n < s.size + 1 ∧ s.size = ut.pos s n ∧ ∀ m, m < n → ¬ xm.xbad s (ut.pos s m) := by
  obtain ⟨n, e, _, hb, _⟩ := h
  have key : ∀ k, s.size = ut.pos s k → (∀ m, m < k → ¬ xm.xbad s (ut.pos s m)) → ∃ n, n < s.size + 1 ∧ s.size = ut.pos s n ∧ ∀ m, m < n → ¬ xm.xbad s (ut.pos s m) := by
    intro k
    induction k using Nat.strongRecOn with
    | _ k ih =>
      intro e hb
      by_cases hx : ∃ m, m < k ∧ s.size ≤ ut.pos s m
      · obtain ⟨m, hm, hle⟩ := hx
        have hmono := ut.pos_mono s m (k - m)
        rw [show m + (k - m) = k from by omega] at hmono
        exact ih m hm (by omega) (fun j hj => hb j (by omega))
      · have := pos_far s k (fun m hm => by
          by_cases h2 : ut.pos s m < s.size
          · exact h2
          · exact absurd ⟨m, hm, by omega⟩ hx)
        exact ⟨k, by omega, e, hb⟩
  exact key n e hb
def dFirst (s : ByteArray) (n : Nat) : Decidable (s.size = ut.pos s n ∧ ∀ m, m < n → ¬ xm.xbad s (ut.pos s m)) := @instDecidableAnd _ _ _ (dAll s n)
def findB (s : ByteArray) : Nat → Bool
  | 0 => @decide _ (dFirst s 0)
  | k + 1 => @decide _ (dFirst s (k + 1)) || findB s k
theorem find_iff (s : ByteArray) : ∀ k, findB s k = true ↔ ∃ n, n < k + 1 ∧ s.size = ut.pos s n ∧ ∀ m, m < n → ¬ xm.xbad s (ut.pos s m)
  | 0 => by
    rw [findB]
    constructor
    · intro h; exact ⟨0, by omega, ow.dof h⟩
    · rintro ⟨n, hn, h⟩
      obtain rfl : n = 0 := by omega
      exact ow.dt h
  | k + 1 => by
    rw [findB, Bool.or_eq_true, find_iff s k]
    constructor
    · rintro (h | ⟨n, hn, h⟩)
      · exact ⟨k + 1, by omega, ow.dof h⟩
      · exact ⟨n, by omega, h⟩
    · rintro ⟨n, hn, h⟩
      by_cases e : n = k + 1
      · subst e; exact .inl (ow.dt h)
      · exact .inr ⟨n, by omega, h⟩
def dGoodTo (s : ByteArray) : Decidable (xm.GoodTo s s.size) := decidable_of_iff (findB s s.size = true) ⟨fun h => by
  obtain ⟨n, _, e, hb⟩ := (find_iff s s.size).1 h
  exact ⟨n, e, Nat.le_refl _, hb, .inl rfl⟩, fun h => (find_iff s s.size).2 (good_first h)⟩
/-- A text of runes of XML, of at most so many bytes. -/
def ofx (s : ByteArray) (n : Nat) : Bool := @decide (s.size ≤ n ∧ xm.GoodTo s s.size) (@instDecidableAnd _ _ _ (dGoodTo s))
/-- Such a text in one line. -/
def fld (s : ByteArray) : Bool := @decide (s.size ≤ 200 ∧ xm.GoodTo s s.size ∧ li.line s.data.toList = s.data.toList) (@instDecidableAnd _ _ _ (@instDecidableAnd _ _ (dGoodTo s) _))
def stamp (d : Int) : Bool := decide (0 ≤ d ∧ d ≤ 4102444799)
theorem ofx_long {s : ByteArray} {n : Nat} (h : n < s.size) : ofx s n = false := ow.df (by omega)
theorem ofx_bad {s : ByteArray} {n g : Nat} (hg : xm.GoodTo s g) (h : g ≠ s.size) : ofx s n = false := ow.df (fun x => h (xm.good_one hg x.2))
theorem ofx_yes {s : ByteArray} {n : Nat} (h : s.size ≤ n) (hg : xm.GoodTo s s.size) : ofx s n = true := ow.dt ⟨h, hg⟩
theorem ofx_cases {s : ByteArray} {n : Nat} (h : ofx s n = true) : s.size ≤ n ∧ xm.GoodTo s s.size := ow.dof h
theorem ofx_no {s : ByteArray} {n : Nat} (h : ofx s n = false) : ¬ (s.size ≤ n ∧ xm.GoodTo s s.size) := ow.dnof h
theorem fld_no {s : ByteArray} (h : ofx s 200 = false) : fld s = false := ow.df (fun x => ofx_no h ⟨x.1, x.2.1⟩)
theorem fld_yes {s : ByteArray} (h : ofx s 200 = true) (hl : li.line s.data.toList = s.data.toList) : fld s = true := ow.dt ⟨(ofx_cases h).1, (ofx_cases h).2, hl⟩
theorem fld_bent {s : ByteArray} (hl : li.line s.data.toList ≠ s.data.toList) : fld s = false := ow.df (fun x => hl x.2.2)
theorem fld_cases {s : ByteArray} (h : fld s = true) : s.size ≤ 200 ∧ xm.GoodTo s s.size ∧ li.line s.data.toList = s.data.toList := ow.dof h
theorem toList_mk (l : List UInt8) : (⟨l.toArray⟩ : ByteArray).toList = l := by rw [Lib.toList_data]
theorem cmp_yes {s : ByteArray} (hl : li.line s.data.toList = s.data.toList) : ((⟨(li.line s.data.toList).toArray⟩ : ByteArray).toList == s.toList) = true := by rw [toList_mk, hl, Lib.toList_data]; simp
theorem cmp_no {s : ByteArray} (hl : li.line s.data.toList ≠ s.data.toList) : ((⟨(li.line s.data.toList).toArray⟩ : ByteArray).toList == s.toList) = false := by rw [toList_mk, Lib.toList_data]; simpa using hl




set_option maxHeartbeats 400000 in
theorem spec_stamp (d : Int) (w : World) : Calls Try.prog 28 #[.int .i64 d, .int .i64 0, .int .i64 4102444799] w fun e w' => e = .returned (.bool (stamp d)) ∧ w' = w := by
  go_enter Try.func28, Try.ntmps28
  go_wp2
  all_goals (go_ret; exact ⟨xm.ret_bool (by rw [Bool.eq_iff_iff]; simp [stamp] <;> omega), rfl⟩)
end Go.Proofs.Ytinnnfkhiigjpaa.en

namespace Go.Proofs.Ytinnnfkhiigjpaa.en
open Go.RowKit
set_option linter.unusedVariables false

/-- An entry. -/
structure En where
  i : ByteArray
  t : ByteArray
  l : ByteArray
  a : ByteArray
  d : Int
  c : ByteArray
def cl (e : En) : Array Value := #[.string e.i, .string e.t, .string e.l, .string e.a, .int .i64 e.d, .string e.c]
def EV (e : En) : Value := .agg (cl e)
def Lies (w : World) (b : Nat) (T : TypeId) (e : En) : Prop := w.heap[b]? = some (.cells (cl e) T (0, 0))
section
variable {w w' : World} {b : Nat} {T : TypeId} {e : En}
theorem Lies.c0 (h : Lies w b T e) : w.cell? ⟨b, 0, none⟩ = some (.string e.i) := by rw [cell_of_row w _ _ _ _ _ h]; rfl
theorem Lies.c1 (h : Lies w b T e) : w.cell? ⟨b, 0 + 1, none⟩ = some (.string e.t) := by rw [cell_of_row w _ _ _ _ _ h]; rfl
theorem Lies.c2 (h : Lies w b T e) : w.cell? ⟨b, 0 + 2, none⟩ = some (.string e.l) := by rw [cell_of_row w _ _ _ _ _ h]; rfl
theorem Lies.c3 (h : Lies w b T e) : w.cell? ⟨b, 0 + 3, none⟩ = some (.string e.a) := by rw [cell_of_row w _ _ _ _ _ h]; rfl
theorem Lies.c4 (h : Lies w b T e) : w.cell? ⟨b, 0 + 4, none⟩ = some (.int .i64 e.d) := by rw [cell_of_row w _ _ _ _ _ h]; rfl
theorem Lies.c5 (h : Lies w b T e) : w.cell? ⟨b, 0 + 5, none⟩ = some (.string e.c) := by rw [cell_of_row w _ _ _ _ _ h]; rfl
theorem Lies.lt (h : Lies w b T e) : b < w.heap.size := World.block_lt_of_cell? w _ h.c0
theorem Lies.keep (h : Lies w b T e) (hb : Below w.heap.size w w') : Lies w' b T e := (hb.block b h.lt).trans h
theorem lies_new (w : World) (T : TypeId) (e : En) : Lies (w.alloc (.cells (cl e) T)) w.heap.size T e := by show (w.heap.push _)[w.heap.size]? = _; simp
end
/-- An entry of a size that a law takes. -/
def Small (e : En) : Prop := e.i.size ≤ 1048576 ∧ e.t.size ≤ 1048576 ∧ e.l.size ≤ 1048576 ∧ e.a.size ≤ 1048576 ∧ e.c.size ≤ 1048576
/-- Whether an entry is right. -/
def eok (e : En) : Bool := !(e.i.size == 0) && fld e.i && fld e.t && fld e.l && fld e.a && ofx e.c 1000 && stamp e.d
theorem empty_list {s : ByteArray} (h : s.size = 0) : s.toList.isEmpty = true := by rw [Lib.size_eq] at h; rw [Lib.toList_data, List.isEmpty_iff]; exact List.eq_nil_of_length_eq_zero h
theorem full_list {s : ByteArray} (h : ¬ s.size = 0) : s.toList.isEmpty = false := by
  rw [Lib.size_eq] at h
  rw [Lib.toList_data]
  cases hl : s.data.toList with
  | nil => rw [hl] at h; exact absurd rfl h
  | cons => rfl
theorem empty_cmp {s : ByteArray} (h : s.size = 0) : (s.toList == (⟨#[]⟩ : ByteArray).toList) = true := by
  have := empty_list h
  rw [List.isEmpty_iff] at this
  rw [this, Lib.toList_data]; rfl
theorem full_cmp {s : ByteArray} (h : ¬ s.size = 0) : (s.toList == (⟨#[]⟩ : ByteArray).toList) = false := by
  have := full_list h
  cases hl : s.toList with
  | nil => rw [hl] at this; cases this
  | cons => rw [Lib.toList_data]; rfl



end Go.Proofs.Ytinnnfkhiigjpaa.en

namespace Go.Proofs.Ytinnnfkhiigjpaa.dw
open Go.RowKit
set_option linter.unusedVariables false

def inB (n a b : Int) : Bool := decide (a ≤ n ∧ n ≤ b)
theorem in_yes {n a b : Int} (h : a ≤ n) (h' : n ≤ b) : inB n a b = true := decide_eq_true ⟨h, h'⟩
theorem in_no {n a b : Int} (h : n < a ∨ b < n) : inB n a b = false := decide_eq_false (by omega)
theorem in_no_iff {n a b : Int} : inB n a b = false ↔ (n < a ∨ b < n) := by simp [inB]; omega
set_option maxHeartbeats 400000 in
theorem in_any (n a b : Int) (w : World) : Calls Try.prog 28 #[.int .i64 n, .int .i64 a, .int .i64 b] w fun e w' => e = .returned (.bool (inB n a b)) ∧ w' = w := by
  by_cases h : a ≤ n
  · go_enter Try.func28, Try.ntmps28
    go_wp2
    all_goals (go_ret; exact ⟨by simp [inB, h], rfl⟩)
  · have h' : decide (a ≤ n) = false := decide_eq_false h
    go_enter Try.func28, Try.ntmps28
    go_wp2
    all_goals (go_ret; exact ⟨by rw [show inB n a b = false from decide_eq_false (by omega)]; rfl, rfl⟩)


/-- A stamp's day of the week and a code. -/
def wd (n : Int) : Value := if inB n 0 4102444799 then .tuple #[.int .i64 ((n / 86400 + 4) % 7), .int .i64 0] else .tuple #[.int .i64 0, .int .i64 4]
theorem wd_in {n : Int} (h : inB n 0 4102444799 = true) : wd n = .tuple #[.int .i64 ((n / 86400 + 4) % 7), .int .i64 0] := by simp [wd, h]
theorem wd_out {n : Int} (h : inB n 0 4102444799 = false) : wd n = .tuple #[.int .i64 0, .int .i64 4] := by simp [wd, h]
theorem wd_form (n : Int) : ∃ x c : Int, wd n = .tuple #[.int .i64 x, .int .i64 c] := by
  cases h : inB n 0 4102444799
  · exact ⟨_, _, wd_out h⟩
  · exact ⟨_, _, wd_in h⟩
theorem in_iff {n a b : Int} : inB n a b = true ↔ (a ≤ n ∧ n ≤ b) := by simp [inB]


end Go.Proofs.Ytinnnfkhiigjpaa.dw

namespace Go.Proofs.Ytinnnfkhiigjpaa.dx
open Go.RowKit
set_option linter.unusedVariables false

/-- A digit's byte. -/
def dg (n : Int) : UInt8 := UInt8.ofNat (48 + n).toNat
theorem dg_nat {n : Int} (h0 : 0 ≤ n) (h1 : n ≤ 9) : ((dg n).toNat : Int) = 48 + n := by
  unfold dg
  rw [UInt8.toNat_ofNat_of_lt' (by show (48 + n).toNat < 256; omega)]
  omega
def two (n : Int) : List UInt8 := [dg (n / 10), dg (n % 10)]
theorem bel_box (w : World) (o : Obj) : Below w.heap.size w (w.alloc o) := (Below.refl _ w).alloc (Nat.le_refl _) _

theorem app (a b : List UInt8) : (⟨a.toArray⟩ : ByteArray) ++ ⟨b.toArray⟩ = ⟨(a ++ b).toArray⟩ := by
  apply ByteArray.ext
  simp
theorem lit (b : UInt8) : (⟨#[b]⟩ : ByteArray) = ⟨[b].toArray⟩ := rfl
/-- A block of bytes that has just been laid, turned into a text. -/
theorem conv_new (w : World) (l : List UInt8) (cs : Array Value) (h : cs.toList = l.map fun b => Value.int .u8 (b.toNat : Int)) :
    (convert 22 9 (.slice (some ⟨w.heap.size, 0, none⟩) l.length l.length)).run Try.prog (w.alloc (.cells cs 5)) = .ok (.string ⟨l.toArray⟩) (w.alloc (.cells cs 5)) := by
  refine run_convert_bytes_back _ 22 9 5 ⟨w.heap.size, 0, none⟩ l.length l Try.underlying22 Try.underlying5 Try.underlying9 (fun j hj => ?_)
  have := ow.cells_new w cs.toList 5 j (.int .u8 (l[j].toNat : Int)) (by rw [h]; simp [hj])
  simpa using this


set_option maxHeartbeats 1000000 in
theorem spec_two (n : Int) (h0 : 0 ≤ n) (h1 : n ≤ 99) (w : World) : Calls Try.prog 54 #[.int .i64 n] w fun e w' => e = .returned (.string ⟨(two n).toArray⟩) ∧ Below w.heap.size w w' := by
  have cv := conv_new w (two n) #[.int .u8 (48 + n / 10 % 10), .int .u8 (48 + n % 10)] (by
    show _ = [Value.int .u8 ((dg (n / 10)).toNat : Int), Value.int .u8 ((dg (n % 10)).toNat : Int)]
    rw [dg_nat (by omega) (by omega), dg_nat (by omega) (by omega), show n / 10 % 10 = n / 10 by omega])
  have e2 : (two n).length = 2 := rfl
  rw [e2] at cv
  go_enter Try.func54, Try.ntmps54
  go_wp2
  go_ret
  exact ⟨rfl, bel_box _ _⟩
end Go.Proofs.Ytinnnfkhiigjpaa.dx

namespace Go.Proofs.Ytinnnfkhiigjpaa.gr
open Go.RowKit
set_option linter.unusedVariables false

/-- What a world may have grown to. -/
def Ext (w : World) : Type := { x : World // Below w.heap.size w x }
def gw {w : World} (x : Ext w) : World := x.1
section
variable {P : Program} {w : World}
theorem gw_below (x : Ext w) : Below w.heap.size w (gw x) := x.2
theorem ext_some (w : World) : Nonempty (Ext w) := ⟨⟨w, Below.refl _ _⟩⟩
theorem gw_cell (x : Ext w) {p : Addr} {v : Value} (h : w.cell? p = some v) : (gw x).cell? p = some v := (x.2.cell (World.block_lt_of_cell? w _ h)).trans h
theorem region_lit {id : Nat} {Q : Exit → Act → World → Prop} {a : Act} {l : List Oper} (hm : P.follows .mixedOrders = true) (hB : Region.lexB .any l.toArray = true)
    (h : wpQuiet P l.toArray (fun w' => ∃ x : Ext w, w' = gw x) (fun a' => ∀ w', (∃ x : Ext w, w' = gw x) → Q .normal a' w') l a) : (Code.region id l.toArray true).wp P Q a w :=
  wp_region_quiet (C := fun w' => ∃ x : Ext w, w' = gw x) hm hB ⟨⟨_, (Below.refl _ w).drew⟩, rfl⟩ (by simpa using h)
theorem grow_of {f : FuncId} {args : Array Value} {x : Ext w} {v : Value} (h : Calls P f args (gw x) fun e w' => e = .returned v ∧ Below (gw x).heap.size (gw x) w') :
    Calls P f args (gw x) fun e w'' => e = .returned v ∧ ∃ y : Ext w, w'' = gw y :=
  h.mono fun e w' ⟨he, hb⟩ => ⟨he, ⟨w', (gw_below x).trans (hb.mono (gw_below x).size)⟩, rfl⟩
theorem grow_same {f : FuncId} {args : Array Value} {x : Ext w} {v : Value} (h : Calls P f args (gw x) fun e w' => e = .returned v ∧ w' = gw x) :
    Calls P f args (gw x) fun e w'' => e = .returned v ∧ ∃ y : Ext w, w'' = gw y :=
  h.mono fun e w' ⟨he, hb⟩ => ⟨he, x, hb⟩
end
end Go.Proofs.Ytinnnfkhiigjpaa.gr
