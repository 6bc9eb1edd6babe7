/-
  Contracts of impl.goodBytes and of the specification's l05Runes: how far a text is made of runes of XML.
  Contracts of impl.inOneLine and of the specification's l06Line, and of both OneLine functions: a text in one line.
  The specification's l06Line: a text in one line.
  Contracts of the functions that say whether an entry is right: its lines, its texts of runes of XML, its date; of the program and of the specification.
  Contracts of both EntryOK functions: whether an entry is right.
-/
import Derived.Test.YtinnnfkhiigjpaaGreatPkba
import Derived.Test.YtinnnfkhiigjpaaGreatPkbc
import Derived.Test.YtinnnfkhiigjpaaGreatPkbi
import Derived.Test.YtinnnfkhiigjpaaGreatPkbf
import Derived.BigRegion
import Derived.Deep.DeepCutAuto
import Derived.Laws.OwnMore
import Derived.Test.YtinnnfkhiigjpaaGreatPkaa
import Derived.Test.YtinnnfkhiigjpaaGreatRows
import Derived.WalkKit
import Derived.WalkLawsBesides

namespace Go.Proofs.YtinnnfkhiigjpaaGreat.xm
open Go.RowKit
set_option linter.unusedVariables false

/-- No rune of XML begins at this place. -/
def xbad (s : ByteArray) (k : Nat) : Prop := ut.badAt s k ∨ xr ((Utf8.decode s k).1 : Int) = false
/-- So far, and no further, a text is made of runes of XML. -/
def GoodTo (s : ByteArray) (g : Nat) : Prop := ∃ n, g = ut.pos s n ∧ g ≤ s.size ∧ (∀ m, m < n → ¬ xbad s (ut.pos s m)) ∧ (g = s.size ∨ (g < s.size ∧ xbad s g))

end Go.Proofs.YtinnnfkhiigjpaaGreat.xm

namespace Go.Proofs.YtinnnfkhiigjpaaGreat.li
open Go.RowKit
set_option linter.unusedVariables false

theorem is32 (c : UInt8) : ((c.toNat : Int) == 32) = (c == 32) := by
  rw [Bool.eq_iff_iff]; simp only [beq_iff_eq]
  constructor
  · intro h; exact UInt8.toNat_inj.1 (by have : ((32 : UInt8).toNat : Int) = 32 := rfl; omega)
  · rintro rfl; rfl

/-- The state behind so many bytes. -/
def sk (s : ByteArray) (k : Nat) : List UInt8 × Bool := st (s.data.toList.take k)

end Go.Proofs.YtinnnfkhiigjpaaGreat.li

namespace Go.Proofs.YtinnnfkhiigjpaaGreat.li
open Go.RowKit
set_option linter.unusedVariables false

end Go.Proofs.YtinnnfkhiigjpaaGreat.li

namespace Go.Proofs.YtinnnfkhiigjpaaGreat.en
open Go.RowKit
set_option linter.unusedVariables false

theorem pos_far (s : ByteArray) : ∀ n, (∀ m, m < n → ut.pos s m < s.size) → n ≤ ut.pos s n
  | 0, _ => Nat.zero_le _
  | n + 1, h => by
    have h1 := pos_far s n (fun m hm => h m (by omega))
    have h2 := (ut.pos_le s n (h n (by omega))).2
    omega
def dBad (s : ByteArray) (k : Nat) : Decidable (xm.xbad s k) := inferInstanceAs (Decidable (Utf8.decode s k = (65533, 1) ∨ xm.xr ((Utf8.decode s k).1 : Int) = false))
def dAll (s : ByteArray) (n : Nat) : Decidable (∀ m, m < n → ¬ xm.xbad s (ut.pos s m)) := @Nat.decidableBallLT n (fun m _ => ¬ xm.xbad s (ut.pos s m)) (fun m _ => @instDecidableNot _ (dBad s (ut.pos s m)))
/-- The first place at which a text's end is come to. -/
theorem good_first {s : ByteArray} (h : xm.GoodTo s s.size) : ∃ n, n < s.size + 1 ∧ s.size = ut.pos s n ∧ ∀ m, m < n → ¬ xm.xbad s (ut.pos s m) := by
  obtain ⟨n, e, _, hb, _⟩ := h
  have key : ∀ k, s.size = ut.pos s k → (∀ m, m < k → ¬ xm.xbad s (ut.pos s m)) → ∃ n, n < s.size + 1 ∧ s.size = ut.pos s n ∧ ∀ m, m < n → ¬ xm.xbad s (ut.pos s m) := by
    intro k
    induction k using Nat.strongRecOn with
    | _ k ih =>
      intro e hb
      by_cases hx : ∃ m, m < k ∧ s.size ≤ ut.pos s m
      · obtain ⟨m, hm, hle⟩ := hx
        have hmono := ut.pos_mono s m (k - m)
        rw [show m + (k - m) = k from by omega] at hmono
        exact ih m hm (by omega) (fun j hj => hb j (by omega))
      · have := pos_far s k (fun m hm => by
          by_cases h2 : ut.pos s m < s.size
          · exact h2
          · exact absurd ⟨m, hm, by omega⟩ hx)
        exact ⟨k, by omega, e, hb⟩
  exact key n e hb
def dFirst (s : ByteArray) (n : Nat) : Decidable (s.size = ut.pos s n ∧ ∀ m, m < n → ¬ xm.xbad s (ut.pos s m)) := @instDecidableAnd _ _ _ (dAll s n)
def findB (s : ByteArray) : Nat → Bool
  | 0 => @decide _ (dFirst s 0)
  | k + 1 => @decide _ (dFirst s (k + 1)) || findB s k
theorem find_iff (s : ByteArray) : ∀ k, findB s k = true ↔ ∃ n, n < k + 1 ∧ s.size = ut.pos s n ∧ ∀ m, m < n → ¬ xm.xbad s (ut.pos s m)
  | 0 => by
    rw [findB]
    constructor
    · intro h; exact ⟨0, by omega, ow.dof h⟩
    · rintro ⟨n, hn, h⟩
      obtain rfl : n = 0 := by omega
      exact ow.dt h
  | k + 1 => by
    rw [findB, Bool.or_eq_true, find_iff s k]
    constructor
    · rintro (h | ⟨n, hn, h⟩)
      · exact ⟨k + 1, by omega, ow.dof h⟩
      · exact ⟨n, by omega, h⟩
    · rintro ⟨n, hn, h⟩
      by_cases e : n = k + 1
      · subst e; exact .inl (ow.dt h)
      · exact .inr ⟨n, by omega, h⟩
def dGoodTo (s : ByteArray) : Decidable (xm.GoodTo s s.size) := decidable_of_iff (findB s s.size = true) ⟨fun h => by
  obtain ⟨n, _, e, hb⟩ := (find_iff s s.size).1 h
  exact ⟨n, e, Nat.le_refl _, hb, .inl rfl⟩, fun h => (find_iff s s.size).2 (good_first h)⟩
/-- A text of runes of XML, of at most so many bytes. -/
def ofx (s : ByteArray) (n : Nat) : Bool := @decide (s.size ≤ n ∧ xm.GoodTo s s.size) (@instDecidableAnd _ _ _ (dGoodTo s))
/-- Such a text in one line. -/
def fld (s : ByteArray) : Bool := @decide (s.size ≤ 200 ∧ xm.GoodTo s s.size ∧ li.line s.data.toList = s.data.toList) (@instDecidableAnd _ _ _ (@instDecidableAnd _ _ (dGoodTo s) _))
def stamp (d : Int) : Bool := decide (0 ≤ d ∧ d ≤ 4102444799)
theorem ofx_cases {s : ByteArray} {n : Nat} (h : ofx s n = true) : s.size ≤ n ∧ xm.GoodTo s s.size := ow.dof h
theorem fld_cases {s : ByteArray} (h : fld s = true) : s.size ≤ 200 ∧ xm.GoodTo s s.size ∧ li.line s.data.toList = s.data.toList := ow.dof h

end Go.Proofs.YtinnnfkhiigjpaaGreat.en

namespace Go.Proofs.YtinnnfkhiigjpaaGreat.en
open Go.RowKit
set_option linter.unusedVariables false

/-- An entry. -/
structure En where
  i : ByteArray
  t : ByteArray
  l : ByteArray
  a : ByteArray
  d : Int
  c : ByteArray
def cl (e : En) : Array Value := #[.string e.i, .string e.t, .string e.l, .string e.a, .int .i64 e.d, .string e.c]
def Lies (w : World) (b : Nat) (T : TypeId) (e : En) : Prop := w.heap[b]? = some (.cells (cl e) T (0, 0))
section
variable {w w' : World} {b : Nat} {T : TypeId} {e : En}
theorem Lies.c0 (h : Lies w b T e) : w.cell? ⟨b, 0, none⟩ = some (.string e.i) := by rw [cell_of_row w _ _ _ _ _ h]; rfl
theorem Lies.c1 (h : Lies w b T e) : w.cell? ⟨b, 0 + 1, none⟩ = some (.string e.t) := by rw [cell_of_row w _ _ _ _ _ h]; rfl
theorem Lies.c2 (h : Lies w b T e) : w.cell? ⟨b, 0 + 2, none⟩ = some (.string e.l) := by rw [cell_of_row w _ _ _ _ _ h]; rfl
theorem Lies.c3 (h : Lies w b T e) : w.cell? ⟨b, 0 + 3, none⟩ = some (.string e.a) := by rw [cell_of_row w _ _ _ _ _ h]; rfl
theorem Lies.c4 (h : Lies w b T e) : w.cell? ⟨b, 0 + 4, none⟩ = some (.int .i64 e.d) := by rw [cell_of_row w _ _ _ _ _ h]; rfl
theorem Lies.c5 (h : Lies w b T e) : w.cell? ⟨b, 0 + 5, none⟩ = some (.string e.c) := by rw [cell_of_row w _ _ _ _ _ h]; rfl
theorem Lies.lt (h : Lies w b T e) : b < w.heap.size := World.block_lt_of_cell? w _ h.c0
theorem Lies.keep (h : Lies w b T e) (hb : Below w.heap.size w w') : Lies w' b T e := (hb.block b h.lt).trans h
theorem lies_new (w : World) (T : TypeId) (e : En) : Lies (w.alloc (.cells (cl e) T)) w.heap.size T e := by show (w.heap.push _)[w.heap.size]? = _; simp
end
/-- An entry of a size that a law takes. -/
def Small (e : En) : Prop := e.i.size ≤ 1048576 ∧ e.t.size ≤ 1048576 ∧ e.l.size ≤ 1048576 ∧ e.a.size ≤ 1048576 ∧ e.c.size ≤ 1048576
/-- Whether an entry is right. -/
def eok (e : En) : Bool := !(e.i.size == 0) && fld e.i && fld e.t && fld e.l && fld e.a && ofx e.c 1000 && stamp e.d

end Go.Proofs.YtinnnfkhiigjpaaGreat.en
