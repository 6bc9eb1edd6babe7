/-
  The laws' own marks: the text of a number; rows of texts, and of entries, marked, and held against the marks.
  Rows of texts, and of entries, marked by the law's own functions, and held against the marks.
  The laws' own copies of items and of mutations: their rows are their own memory.
  The laws' own copies of mails, texts, boxes and lists of boxes: their rows are their own memory.
  The laws' marks, as to their shape: at every number; rows of mails and of texts, a box, and a list of boxes.
-/
import Derived.Test.YtinnnfkhiigjpaaGreatPkaa
import Derived.Test.YtinnnfkhiigjpaaGreatRows
import Derived.WalkKit
import Derived.WalkLawsBesides
import Derived.Below
import Derived.Test.YtinnnfkhiigjpaaGreatPkab
import Derived.Test.YtinnnfkhiigjpaaGreatPkad

namespace Go.Proofs.YtinnnfkhiigjpaaGreat.mk
open Go.RowKit
set_option linter.unusedVariables false

/-- The digit of a number's last place. -/
def ch (k : Int) : UInt8 := UInt8.ofNat (48 + (k % 10).toNat)
/-- A number's digits ahead of a text. -/
def dgs : Nat → Int → ByteArray → ByteArray
  | 0, _, o => o
  | f + 1, k, o => if k ≤ 0 then o else dgs f (k / 10) (⟨#[ch k]⟩ ++ o)
/-- The mark of a number. -/
def mt (k : Int) : ByteArray := ⟨#[109]⟩ ++ dgs 30 k ⟨#[]⟩

theorem one_cell (w : World) (c : UInt8) : ∀ i, i < [c].length → (w.alloc (.cells #[.int .u8 (c.toNat : Int)] 5)).cell? ⟨w.heap.size, i, none⟩ = some (.int .u8 (([c].getD i 0).toNat : Int)) := by
  intro i hi
  have : i = 0 := by simpa using hi
  subst this
  exact ow.cell_new w [.int .u8 (c.toNat : Int)] 5 0 _ rfl
end Go.Proofs.YtinnnfkhiigjpaaGreat.mk

namespace Go.Proofs.YtinnnfkhiigjpaaGreat.mk
open Go.RowKit
open ky gr
set_option linter.unusedVariables false

theorem grown_set (w : World) (g j : Nat) (u : Value) : w.grownBy (w.setCell ⟨g, j, none⟩ u) (some g) :=
  ⟨rfl, rfl, rfl, by simp [World.setCell], fun i hi hr => heap_setCell_other w ⟨g, j, none⟩ i u (fun e => hr (by rw [e]))⟩

end Go.Proofs.YtinnnfkhiigjpaaGreat.mk

namespace Go.Proofs.YtinnnfkhiigjpaaGreat.mu
open Go.RowKit
set_option linter.unusedVariables false
theorem own_lower {w : World} {b base e size n : Nat} {v : Value} {xs : List Value} (h : w.ownsRow base e size v n xs) (hb : b ≤ base) : w.ownsRow b e size v n xs :=
  ⟨h.1, h.2.imp id fun ⟨g, cap, cur, he, hb', r⟩ => ⟨g, cap, cur, he, Nat.le_trans hb hb', r⟩⟩
theorem own_block {w w' : World} {base e size n g m c : Nat} {xs : List Value} (h : w.ownsRow base e size (.slice (some ⟨g, 0, none⟩) m c) n xs) (hb : w'.heap[g]? = w.heap[g]?) : w'.ownsRow base e size (.slice (some ⟨g, 0, none⟩) m c) n xs := by
  obtain ⟨h1, h2⟩ := h
  refine ⟨h1, ?_⟩
  rcases h2 with ⟨e, hz⟩ | ⟨g', cap, cur, e, hB, hh, r⟩
  · exact .inl ⟨e, hz⟩
  · cases e
    exact .inr ⟨g, _, cur, rfl, hB, hb.trans hh, r⟩
end Go.Proofs.YtinnnfkhiigjpaaGreat.mu

namespace Go.Proofs.YtinnnfkhiigjpaaGreat.st
open Go.ChangeShapes Go.WideShapes Go.ChangeAt Go.RowKit Go.Deep Go.Joins
set_option linter.unusedVariables false
end Go.Proofs.YtinnnfkhiigjpaaGreat.st
namespace Go.Proofs.YtinnnfkhiigjpaaGreat.tx
open Go.ChangeShapes Go.WideShapes Go.ChangeAt Go.RowKit Go.Deep Go.Joins
open ky
set_option linter.unusedVariables false
end Go.Proofs.YtinnnfkhiigjpaaGreat.tx
namespace Go.Proofs.YtinnnfkhiigjpaaGreat.bx
open Go.ChangeShapes Go.WideShapes Go.ChangeAt Go.RowKit Go.Deep Go.Joins
open st gr
set_option linter.unusedVariables false
end Go.Proofs.YtinnnfkhiigjpaaGreat.bx

namespace Go.Proofs.YtinnnfkhiigjpaaGreat.mx
open Go.RowKit
open gr mk st bx
set_option linter.unusedVariables false

def Same (o o' : Option Obj) : Prop := o' = o ∨ ∃ c c' e, o = some (.cells c e (0, 0)) ∧ o' = some (.cells c' e (0, 0)) ∧ c'.size = c.size
/-- Only blocks from A up to B are written, and each keeps its kind and its size. -/
structure Mk (A B : Nat) (w w' : World) : Prop where
  os : w'.os = w.os
  tape : w'.tape = w.tape
  output : w'.output = w.output
  size : w.heap.size ≤ w'.heap.size
  block : ∀ k, k < w.heap.size → k < A ∨ B ≤ k → w'.heap[k]? = w.heap[k]?
  like : ∀ k, k < w.heap.size → Same w.heap[k]? w'.heap[k]?
theorem Mk.refl (A B : Nat) (w : World) : Mk A B w w := ⟨rfl, rfl, rfl, Nat.le_refl _, fun _ _ _ => rfl, fun _ _ => .inl rfl⟩
theorem same_trans {a b c : Option Obj} (h : Same a b) (h' : Same b c) : Same a c := by
  rcases h with rfl | ⟨x, y, e, rfl, rfl, hs⟩
  · exact h'
  · rcases h' with rfl | ⟨x', y', e', hx, rfl, hs'⟩
    · exact .inr ⟨x, y, e, rfl, rfl, hs⟩
    · cases hx
      exact .inr ⟨x, y', e, rfl, rfl, hs'.trans hs⟩
theorem Mk.trans {A B : Nat} {a b c : World} (h : Mk A B a b) (h' : Mk A B b c) : Mk A B a c :=
  ⟨h'.os.trans h.os, h'.tape.trans h.tape, h'.output.trans h.output, Nat.le_trans h.size h'.size, fun k hk hd => (h'.block k (Nat.lt_of_lt_of_le hk h.size) hd).trans (h.block k hk hd), fun k hk => same_trans (h.like k hk) (h'.like k (Nat.lt_of_lt_of_le hk h.size))⟩
theorem Mk.bel {A B : Nat} {w w' : World} (h : Mk A B w w') (hA : A ≤ w.heap.size) : Below A w w' := ⟨h.os, h.tape, h.output, h.size, fun k hk => h.block k (Nat.lt_of_lt_of_le hk hA) (.inl hk)⟩

end Go.Proofs.YtinnnfkhiigjpaaGreat.mx
