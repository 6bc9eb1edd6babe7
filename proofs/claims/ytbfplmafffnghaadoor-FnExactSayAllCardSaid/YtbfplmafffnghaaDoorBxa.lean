/-
  A box as an argument: opened; measured, copied and compared by the law's own functions.
-/
import Derived.Test.YtbfplmafffnghaaDoorTxa
namespace Go.Proofs.YtbfplmafffnghaaDoor.bx
open Go.ChangeShapes Go.WideShapes Go.ChangeAt Go.RowKit Go.Deep Go.Joins
open st
set_option linter.unusedVariables false

/-- A box: name, valid, next, mails, keys. -/
structure Bx where
  nm : ByteArray
  vd : Int
  nx : Int
  ms : List St
  ks : List ByteArray
/-- It as the program has it, its mails in v, its keys in u. -/
def BV (x : Bx) (v u : Value) : Value := .agg #[.string x.nm, .int .i64 x.vd, .int .i64 x.nx, v, u]
def Ins (x : Bx) : Prop := In x.vd ∧ In x.nx
def Small (x : Bx) : Prop := Ins x ∧ x.nm.size ≤ 1048576 ∧ st.Smalls x.ms ∧ tx.Smalls x.ks
def Held (x : Bx) : Prop := Ins x ∧ x.nm.size ≤ maxLen ∧ (x.ms.length ≤ maxLen ∧ ∀ j, j < x.ms.length → st.Held (x.ms.getD j noS)) ∧ x.ks.length ≤ maxLen ∧ ∀ j, j < x.ks.length → (x.ks.getD j ky.nt).size ≤ maxLen
/-- Its rows, in blocks below n. -/
def RowsIn (w : World) (n : Nat) (v u : Value) (ms : List St) (ks : List ByteArray) : Prop := MailsIn w n v ms ∧ tx.TextsIn w n u ks
theorem rows_in_below {w w' : World} {n k : Nat} {v u : Value} {ms : List St} {ks : List ByteArray} (h : RowsIn w n v u ms ks) (hb : Below k w w') (hk : n ≤ k) : RowsIn w' n v u ms ks := ⟨mails_below h.1 hb hk, tx.texts_below h.2 hb hk⟩
theorem rows_more {w : World} {n k : Nat} {v u : Value} {ms : List St} {ks : List ByteArray} (h : RowsIn w n v u ms ks) (hk : n ≤ k) : RowsIn w k v u ms ks := ⟨mails_more h.1 hk, tx.texts_more h.2 hk⟩
/-- Its rows. -/
def RowsAt (w : World) (v u : Value) (ms : List St) (ks : List ByteArray) : Prop := RowsIn w w.heap.size v u ms ks
theorem rows_below {w w' : World} {v u : Value} {ms : List St} {ks : List ByteArray} (h : RowsAt w v u ms ks) (hb : Below w.heap.size w w') : RowsAt w' v u ms ks := rows_more (rows_in_below h hb (Nat.le_refl _)) hb.size

theorem five_list {α : Type} {l : List α} (h : l.length = 5) : ∃ a b c d e, l = [a, b, c, d, e] := by
  match l, h with
  | [a, b, c, d, e], _ => exact ⟨a, b, c, d, e, rfl⟩
section
variable {H : Type} {enc : TypeId × Value → H} {w : World} {base : Nat} {spare : Nat → Bool} {held : Bool}
end

/-- A box that lies as a variable. -/
def Lies (w : World) (b : Nat) (T : TypeId) (x : Bx) (v u : Value) : Prop := w.heap[b]? = some (.cells #[.string x.nm, .int .i64 x.vd, .int .i64 x.nx, v, u] T (0, 0))
section
variable {w w' : World} {b : Nat} {T : TypeId} {x : Bx} {v u : Value}
theorem Lies.c0 (h : Lies w b T x v u) : w.cell? ⟨b, 0, none⟩ = some (.string x.nm) := by rw [cell_of_row w _ _ _ _ _ h]; rfl
theorem Lies.c1 (h : Lies w b T x v u) : w.cell? ⟨b, 0 + 1, none⟩ = some (.int .i64 x.vd) := by rw [cell_of_row w _ _ _ _ _ h]; rfl
theorem Lies.c2 (h : Lies w b T x v u) : w.cell? ⟨b, 0 + 2, none⟩ = some (.int .i64 x.nx) := by rw [cell_of_row w _ _ _ _ _ h]; rfl
theorem Lies.c3 (h : Lies w b T x v u) : w.cell? ⟨b, 0 + 3, none⟩ = some v := by rw [cell_of_row w _ _ _ _ _ h]; rfl
theorem Lies.c4 (h : Lies w b T x v u) : w.cell? ⟨b, 0 + 4, none⟩ = some u := by rw [cell_of_row w _ _ _ _ _ h]; rfl
theorem Lies.lt (h : Lies w b T x v u) : b < w.heap.size := World.block_lt_of_cell? w _ h.c0
theorem Lies.keep (h : Lies w b T x v u) (hb : Below w.heap.size w w') : Lies w' b T x v u := (hb.block b h.lt).trans h
theorem lies_new (w : World) (T : TypeId) (x : Bx) (v u : Value) : Lies (w.alloc (.cells #[.string x.nm, .int .i64 x.vd, .int .i64 x.nx, v, u] T)) w.heap.size T x v u := by show (w.heap.push _)[w.heap.size]? = _; simp
theorem new_below (w : World) (T : TypeId) (cs : Array Value) : Below w.heap.size w (w.alloc (.cells cs T)) := (Below.refl _ _).alloc (Nat.le_refl _) _
end


end Go.Proofs.YtbfplmafffnghaaDoor.bx
