/-
  Regions that draw their order, whose own operations only read and whose callees make new memory alone: one walk in the order of the text.
  Stored mails as rows: measured, copied and compared by the law's own functions; as an argument, opened.
  Rows of texts: whether a text is among them, of the program's library and of the specification; their comparison by the law's own function.
  Texts as rows: measured and copied by the law's own functions; as an argument, opened.
  A box as an argument: opened; measured, copied and compared by the law's own functions.
-/
import Derived.Below
import Derived.WalkKit
import Derived.WalkLawsBesides
import Derived.Deep.QuietTactic
import Derived.BigQuiet
import Derived.BigRegion
import Derived.Test.YtinnnfkhiigjpaaGreatPkaa
import Derived.Test.YtinnnfkhiigjpaaGreatRows
import Derived.ProofKit
import Derived.OpenShut
import Derived.ChangeOld
import Derived.Laws.OwnMore
import Derived.Lib.SmallJoins
import Derived.Deep.Fields
import Derived.Deep.Slices
import Derived.WideShapes
import Derived.Lib.Strings

namespace Go.Proofs.YtinnnfkhiigjpaaGreat.gr
open Go.RowKit
set_option linter.unusedVariables false

/-- What a world may have grown to. -/
def Ext (w : World) : Type := { x : World // Below w.heap.size w x }
def gw {w : World} (x : Ext w) : World := x.1
section
variable {P : Program} {w : World}
theorem gw_below (x : Ext w) : Below w.heap.size w (gw x) := x.2
theorem ext_some (w : World) : Nonempty (Ext w) := ⟨⟨w, Below.refl _ _⟩⟩
theorem gw_cell (x : Ext w) {p : Addr} {v : Value} (h : w.cell? p = some v) : (gw x).cell? p = some v := (x.2.cell (World.block_lt_of_cell? w _ h)).trans h
theorem region_lit {id : Nat} {Q : Exit → Act → World → Prop} {a : Act} {l : List Oper} (hm : P.follows .mixedOrders = true) (hB : Region.lexB .any l.toArray = true)
    (h : wpQuiet P l.toArray (fun w' => ∃ x : Ext w, w' = gw x) (fun a' => ∀ w', (∃ x : Ext w, w' = gw x) → Q .normal a' w') l a) : (Code.region id l.toArray true).wp P Q a w :=
  wp_region_quiet (C := fun w' => ∃ x : Ext w, w' = gw x) hm hB ⟨⟨_, (Below.refl _ w).drew⟩, rfl⟩ (by simpa using h)
theorem grow_of {f : FuncId} {args : Array Value} {x : Ext w} {v : Value} (h : Calls P f args (gw x) fun e w' => e = .returned v ∧ Below (gw x).heap.size (gw x) w') :
    Calls P f args (gw x) fun e w'' => e = .returned v ∧ ∃ y : Ext w, w'' = gw y :=
  h.mono fun e w' ⟨he, hb⟩ => ⟨he, ⟨w', (gw_below x).trans (hb.mono (gw_below x).size)⟩, rfl⟩
end
end Go.Proofs.YtinnnfkhiigjpaaGreat.gr

namespace Go.Proofs.YtinnnfkhiigjpaaGreat.st
open Go.ChangeShapes Go.WideShapes Go.ChangeAt Go.RowKit Go.Joins Go.Deep
open gr
set_option linter.unusedVariables false

/-- A stored mail: uid, flags, text. -/
structure St where
  u : Int
  f : Int
  t : ByteArray
def noS : St := ⟨0, 0, ⟨#[]⟩⟩
/-- A number that an int can be. -/
def In (z : Int) : Prop := -9223372036854775808 ≤ z ∧ z ≤ 9223372036854775807
def Small (e : St) : Prop := In e.u ∧ In e.f ∧ e.t.size ≤ 1048576
def At3 (w : World) (b o : Nat) (e : St) : Prop :=
  w.cell? ⟨b, o, none⟩ = some (.int .i64 e.u) ∧ w.cell? ⟨b, o + 1, none⟩ = some (.int .i64 e.f) ∧ w.cell? ⟨b, o + 2, none⟩ = some (.string e.t)
theorem At3.lt {w : World} {b o : Nat} {e : St} (h : At3 w b o e) : b < w.heap.size := World.block_lt_of_cell? w _ h.1
theorem At3.keep {w w' : World} {n b o : Nat} {e : St} (h : At3 w b o e) (hb : Below n w w') (hn : b < n) : At3 w' b o e := by
  obtain ⟨h0, h1, h2⟩ := h
  exact ⟨(hb.cell (p := ⟨b, o, none⟩) hn).trans h0, (hb.cell (p := ⟨b, o + 1, none⟩) hn).trans h1, (hb.cell (p := ⟨b, o + 2, none⟩) hn).trans h2⟩
/-- A slice of stored mails, in blocks below n. -/
def MailsIn (w : World) (n : Nat) (v : Value) (es : List St) : Prop :=
  ∃ a cap, v = .slice a es.length cap ∧ (es = [] ∨ ∃ b off, a = some ⟨b, off, none⟩ ∧ b < n ∧ ∀ j, j < es.length → At3 w b (off + j * 3) (es.getD j noS))
theorem mails_below {w w' : World} {n k : Nat} {v : Value} {es : List St} (h : MailsIn w n v es) (hb : Below k w w') (hk : n ≤ k) : MailsIn w' n v es := by
  obtain ⟨a, cap, rfl, h⟩ := h
  refine ⟨a, cap, rfl, ?_⟩
  rcases h with h | ⟨b, off, rfl, hb', h⟩
  · exact .inl h
  · exact .inr ⟨b, off, rfl, hb', fun j hj => (h j hj).keep hb (by omega)⟩
theorem mails_more {w : World} {n k : Nat} {v : Value} {es : List St} (h : MailsIn w n v es) (hk : n ≤ k) : MailsIn w k v es := by
  obtain ⟨a, cap, rfl, h⟩ := h
  refine ⟨a, cap, rfl, ?_⟩
  rcases h with h | ⟨b, off, rfl, hb', h⟩
  · exact .inl h
  · exact .inr ⟨b, off, rfl, by omega, h⟩
def Smalls (es : List St) : Prop := es.length ≤ 1048576 ∧ ∀ j, j < es.length → Small (es.getD j noS)

theorem infoS : (Tryz.prog.info? 46).map (fun i => (i.zero, i.size, i.bytes)) = some (some (.agg #[.int .i64 0, .int .i64 0, .string ⟨#[]⟩]), 3, 32) := by kernel_rfl
def put3 (xs : List Value) (o : Nat) (e : St) : List Value := ((xs.set o (.int .i64 e.u)).set (o + 1) (.int .i64 e.f)).set (o + 2) (.string e.t)
def In3 (xs : List Value) (o : Nat) (e : St) : Prop := xs[o]? = some (.int .i64 e.u) ∧ xs[o + 1]? = some (.int .i64 e.f) ∧ xs[o + 2]? = some (.string e.t)
def Lay (es : List St) (k : Nat) (xs : List Value) : Prop := ∀ j, j < k → In3 xs (j * 3) (es.getD j noS)

section
variable {H : Type} {enc : TypeId × Value → H} {w : World} {base : Nat} {spare : Nat → Bool} {held : Bool}
end
end Go.Proofs.YtinnnfkhiigjpaaGreat.st

namespace Go.Proofs.YtinnnfkhiigjpaaGreat.ky
open Go.RowKit
set_option linter.unusedVariables false

def nt : ByteArray := ⟨#[]⟩
/-- A slice of texts. -/
def TextsAt (w : World) (v : Value) (ks : List ByteArray) : Prop :=
  ∃ a cap, v = .slice a ks.length cap ∧ (ks = [] ∨ ∃ b off, a = some ⟨b, off, none⟩ ∧ ∀ j, j < ks.length → w.cell? ⟨b, off + j, none⟩ = some (.string (ks.getD j nt)))
theorem texts_below {w w' : World} {v : Value} {ks : List ByteArray} (h : TextsAt w v ks) (hb : Below w.heap.size w w') : TextsAt w' v ks := by
  obtain ⟨a, cap, rfl, h⟩ := h
  refine ⟨a, cap, rfl, ?_⟩
  rcases h with h | ⟨b, off, rfl, h⟩
  · exact .inl h
  · exact .inr ⟨b, off, rfl, fun j hj => (hb.cell (p := ⟨b, off + j, none⟩) (World.block_lt_of_cell? w _ (h j hj))).trans (h j hj)⟩
/-- A row of texts that a call made. -/
def OwnT (w : World) (base : Nat) (v : Value) (ks : List ByteArray) : Prop := w.ownsRow base 9 1 v ks.length (ks.map Value.string)
theorem own_texts {w : World} {base : Nat} {v : Value} {ks : List ByteArray} (h : OwnT w base v ks) : TextsAt w v ks := by
  rcases h.2 with ⟨rfl, h0⟩ | ⟨g, cap, cur, rfl, _⟩
  · obtain rfl := List.eq_nil_of_length_eq_zero h0
    exact ⟨none, 0, rfl, .inl rfl⟩
  · refine ⟨_, cap, rfl, .inr ⟨g, 0, rfl, fun j hj => ?_⟩⟩
    rw [Nat.zero_add, h.cellAt j (by omega)]
    simp [List.getD_eq_getElem?_getD, hj]
theorem ne_list {a b : ByteArray} (h : a ≠ b) : (a.toList == b.toList) = false := beq_eq_false_iff_ne.2 fun e => h (WideShapes.bytes_inj (by rw [← Lib.toList_data, ← Lib.toList_data]; exact e))
theorem get_in {ks : List ByteArray} {j : Nat} (h : j < ks.length) : ks.getD j nt ∈ ks := by rw [List.getD_eq_getElem?_getD, List.getElem?_eq_getElem h]; exact List.getElem_mem h
theorem not_in {ks : List ByteArray} {s : ByteArray} (h : ∀ j, j < ks.length → ks.getD j nt ≠ s) : s ∉ ks := by
  intro hm
  obtain ⟨j, hj, e⟩ := List.mem_iff_getElem.1 hm
  apply h j hj
  rw [List.getD_eq_getElem?_getD, List.getElem?_eq_getElem hj]
  exact e
/-- Whether a text is among some. -/
def has (ks : List ByteArray) (s : ByteArray) : Bool := decide (s.data ∈ ks.map fun k => k.data)
theorem has_of {ks : List ByteArray} {s : ByteArray} (h : has ks s = true) : s ∈ ks := by
  obtain ⟨x, hx, e⟩ := List.mem_map.1 (of_decide_eq_true h)
  exact ByteArray.ext e ▸ hx
theorem has_yes {ks : List ByteArray} {s : ByteArray} (h : s ∈ ks) : has ks s = true := decide_eq_true (List.mem_map.2 ⟨s, h, rfl⟩)
theorem has_no {ks : List ByteArray} {s : ByteArray} (h : s ∉ ks) : has ks s = false := by
  cases e : has ks s
  · rfl
  · exact absurd (has_of e) h

set_option maxHeartbeats 1000000 in
set_option maxRecDepth 100000 in
theorem spec_has (v : Value) (ks : List ByteArray) (s : ByteArray) (w : World) (h : TextsAt w v ks) (hn : ks.length ≤ 1048576) :
    Calls Tryz.prog 52 #[v, .string s] w fun e w' => e = .returned (.bool (has ks s)) ∧ w' = w := by
  obtain ⟨a, cap, rfl, hh⟩ := h
  obtain ⟨m, hm⟩ : ∃ m, m = ks.length := ⟨_, rfl⟩
  have HN : Hid (m = ks.length) := hm
  have HH : Hid (ks = [] ∨ ∃ b off, a = some ⟨b, off, none⟩ ∧ ∀ j, j < ks.length → w.cell? ⟨b, off + j, none⟩ = some (.string (ks.getD j nt))) := hh
  rw [← hm] at hn ⊢
  clear hh hm
  go_enter Tryz.func52, Tryz.ntmps52
  go_wp2
  go_loop [5] (fun i => ∃ j : Nat, j ≤ m ∧ i = .int .i64 j ∧ ∀ x, x < j → ks.getD x nt ≠ s) (fun i => m - (intOf i).toNat)
  case atStart => exact ⟨0, Nat.zero_le _, rfl, fun j hj => absurd hj (Nat.not_lt_zero _)⟩
  case round =>
    obtain ⟨j, hj, rfl, hg⟩ := hrel
    have HG : Hid (∀ x, x < j → ks.getD x nt ≠ s) := hg
    clear hg
    by_cases hlt : j < m
    · have hka : j < ks.length := by rw [← HN.out]; exact hlt
      rcases HH.out with e | ⟨b, off, rfl, hcells⟩
      · rw [e] at hka; simp at hka
      have c0 := hcells j hka
      have HM : Hid (ks.getD j nt ∈ ks) := get_in hka
      clear hcells hka
      generalize hx : ks.getD j nt = x at c0 HM
      have HX : Hid (ks.getD j nt = x) := hx
      clear hx
      by_cases hs : x = s
      · have hs' : (x.toList == s.toList) = true := by rw [hs]; simp
        have HR : Hid (has ks s = true) := has_yes (hs ▸ HM.out)
        clear hs
        go_wp2
        go_ret
        exact ⟨by rw [HR.out]; rfl, rfl⟩
      · have hs' : (x.toList == s.toList) = false := ne_list hs
        have HS : Hid (x ≠ s) := hs
        clear hs
        go_wp2
        go_round
        case rel => exact ⟨j + 1, by omega, by go_num, fun y hy => by by_cases hyj : y = j; subst hyj; rw [HX.out]; exact HS.out; exact HG.out y (by omega)⟩
        case measure => simp [intOf]; omega
    · have HR : Hid (has ks s = false) := has_no (not_in fun y hy => HG.out y (by have := HN.out; omega))
      go_wp2
      go_ret
      exact ⟨by rw [HR.out]; rfl, rfl⟩
end Go.Proofs.YtinnnfkhiigjpaaGreat.ky

namespace Go.Proofs.YtinnnfkhiigjpaaGreat.tx
open Go.ChangeShapes Go.WideShapes Go.ChangeAt Go.RowKit Go.Joins Go.Deep
open ky
set_option linter.unusedVariables false

/-- A slice of texts, in a block below n. -/
def TextsIn (w : World) (n : Nat) (v : Value) (ks : List ByteArray) : Prop :=
  ∃ a cap, v = .slice a ks.length cap ∧ (ks = [] ∨ ∃ b off, a = some ⟨b, off, none⟩ ∧ b < n ∧ ∀ j, j < ks.length → w.cell? ⟨b, off + j, none⟩ = some (.string (ks.getD j nt)))
theorem texts_at {w : World} {n : Nat} {v : Value} {ks : List ByteArray} (h : TextsIn w n v ks) : TextsAt w v ks := by
  obtain ⟨a, cap, rfl, h⟩ := h
  refine ⟨a, cap, rfl, ?_⟩
  rcases h with h | ⟨b, off, rfl, hb', h⟩
  · exact .inl h
  · exact .inr ⟨b, off, rfl, h⟩
theorem texts_below {w w' : World} {n k : Nat} {v : Value} {ks : List ByteArray} (h : TextsIn w n v ks) (hb : Below k w w') (hk : n ≤ k) : TextsIn w' n v ks := by
  obtain ⟨a, cap, rfl, h⟩ := h
  refine ⟨a, cap, rfl, ?_⟩
  rcases h with h | ⟨b, off, rfl, hb', h⟩
  · exact .inl h
  · exact .inr ⟨b, off, rfl, hb', fun j hj => (hb.cell (p := ⟨b, off + j, none⟩) (Nat.lt_of_lt_of_le hb' hk)).trans (h j hj)⟩
theorem texts_more {w : World} {n k : Nat} {v : Value} {ks : List ByteArray} (h : TextsIn w n v ks) (hk : n ≤ k) : TextsIn w k v ks := by
  obtain ⟨a, cap, rfl, h⟩ := h
  refine ⟨a, cap, rfl, ?_⟩
  rcases h with h | ⟨b, off, rfl, hb', h⟩
  · exact .inl h
  · exact .inr ⟨b, off, rfl, by omega, h⟩
def Smalls (ks : List ByteArray) : Prop := ks.length ≤ 1048576 ∧ ∀ j, j < ks.length → (ks.getD j nt).size ≤ 1048576

theorem infoT : (Tryz.prog.info? 9).map (fun i => (i.zero, i.size, i.bytes)) = some (some (.string ⟨#[]⟩), 1, 16) := by kernel_rfl
def Lay (ks : List ByteArray) (k : Nat) (xs : List Value) : Prop := ∀ j, j < k → xs[j]? = some (.string (ks.getD j nt))

section
variable {H : Type} {enc : TypeId × Value → H} {w : World} {base : Nat} {spare : Nat → Bool} {held : Bool}
end
end Go.Proofs.YtinnnfkhiigjpaaGreat.tx

namespace Go.Proofs.YtinnnfkhiigjpaaGreat.bx
open Go.ChangeShapes Go.WideShapes Go.ChangeAt Go.RowKit Go.Deep Go.Joins
open st
set_option linter.unusedVariables false

/-- A box: name, valid, next, mails, keys. -/
structure Bx where
  nm : ByteArray
  vd : Int
  nx : Int
  ms : List St
  ks : List ByteArray
/-- It as the program has it, its mails in v, its keys in u. -/
def BV (x : Bx) (v u : Value) : Value := .agg #[.string x.nm, .int .i64 x.vd, .int .i64 x.nx, v, u]
def Ins (x : Bx) : Prop := In x.vd ∧ In x.nx
def Small (x : Bx) : Prop := Ins x ∧ x.nm.size ≤ 1048576 ∧ st.Smalls x.ms ∧ tx.Smalls x.ks
/-- Its rows, in blocks below n. -/
def RowsIn (w : World) (n : Nat) (v u : Value) (ms : List St) (ks : List ByteArray) : Prop := MailsIn w n v ms ∧ tx.TextsIn w n u ks
theorem rows_in_below {w w' : World} {n k : Nat} {v u : Value} {ms : List St} {ks : List ByteArray} (h : RowsIn w n v u ms ks) (hb : Below k w w') (hk : n ≤ k) : RowsIn w' n v u ms ks := ⟨mails_below h.1 hb hk, tx.texts_below h.2 hb hk⟩
theorem rows_more {w : World} {n k : Nat} {v u : Value} {ms : List St} {ks : List ByteArray} (h : RowsIn w n v u ms ks) (hk : n ≤ k) : RowsIn w k v u ms ks := ⟨mails_more h.1 hk, tx.texts_more h.2 hk⟩
/-- Its rows. -/
def RowsAt (w : World) (v u : Value) (ms : List St) (ks : List ByteArray) : Prop := RowsIn w w.heap.size v u ms ks
theorem rows_below {w w' : World} {v u : Value} {ms : List St} {ks : List ByteArray} (h : RowsAt w v u ms ks) (hb : Below w.heap.size w w') : RowsAt w' v u ms ks := rows_more (rows_in_below h hb (Nat.le_refl _)) hb.size

section
variable {H : Type} {enc : TypeId × Value → H} {w : World} {base : Nat} {spare : Nat → Bool} {held : Bool}
end

/-- A box that lies as a variable. -/
def Lies (w : World) (b : Nat) (T : TypeId) (x : Bx) (v u : Value) : Prop := w.heap[b]? = some (.cells #[.string x.nm, .int .i64 x.vd, .int .i64 x.nx, v, u] T (0, 0))
section
variable {w w' : World} {b : Nat} {T : TypeId} {x : Bx} {v u : Value}
theorem Lies.c0 (h : Lies w b T x v u) : w.cell? ⟨b, 0, none⟩ = some (.string x.nm) := by rw [cell_of_row w _ _ _ _ _ h]; rfl
theorem Lies.c1 (h : Lies w b T x v u) : w.cell? ⟨b, 0 + 1, none⟩ = some (.int .i64 x.vd) := by rw [cell_of_row w _ _ _ _ _ h]; rfl
theorem Lies.c2 (h : Lies w b T x v u) : w.cell? ⟨b, 0 + 2, none⟩ = some (.int .i64 x.nx) := by rw [cell_of_row w _ _ _ _ _ h]; rfl
theorem Lies.c3 (h : Lies w b T x v u) : w.cell? ⟨b, 0 + 3, none⟩ = some v := by rw [cell_of_row w _ _ _ _ _ h]; rfl
theorem Lies.c4 (h : Lies w b T x v u) : w.cell? ⟨b, 0 + 4, none⟩ = some u := by rw [cell_of_row w _ _ _ _ _ h]; rfl
theorem Lies.lt (h : Lies w b T x v u) : b < w.heap.size := World.block_lt_of_cell? w _ h.c0
theorem Lies.keep (h : Lies w b T x v u) (hb : Below w.heap.size w w') : Lies w' b T x v u := (hb.block b h.lt).trans h
theorem lies_new (w : World) (T : TypeId) (x : Bx) (v u : Value) : Lies (w.alloc (.cells #[.string x.nm, .int .i64 x.vd, .int .i64 x.nx, v, u] T)) w.heap.size T x v u := by show (w.heap.push _)[w.heap.size]? = _; simp
theorem new_below (w : World) (T : TypeId) (cs : Array Value) : Below w.heap.size w (w.alloc (.cells cs T)) := (Below.refl _ _).alloc (Nat.le_refl _) _
end

end Go.Proofs.YtinnnfkhiigjpaaGreat.bx
