/-
  Plain facts on rows that a call owns: beside an iterator over a string, behind an append, and turned into a text.
-/
import Derived.WalkKit
import Derived.WalkLawsBesides
import Derived.Lib.OthersKept
import Derived.Laws.Cover4
import Derived.Laws.IdiomStrings
import Derived.Laws.BytesArg
import Derived.Lib.AppendStr
namespace Go.Proofs.YtejmfffapkmjoaaDoor.ow
open Go.RowKit
set_option linter.unusedVariables false

theorem dt {p : Prop} {d : Decidable p} (h : p) : @decide p d = true := decide_eq_true h
theorem df {p : Prop} {d : Decidable p} (h : ¬ p) : @decide p d = false := decide_eq_false h
theorem dof {p : Prop} {d : Decidable p} (h : @decide p d = true) : p := of_decide_eq_true h
theorem dnof {p : Prop} {d : Decidable p} (h : @decide p d = false) : ¬ p := of_decide_eq_false h
/-- Two texts are one, or not. -/
def decB (a b : ByteArray) : Decidable (a = b) := decidable_of_iff (a.data = b.data) ⟨fun h => ByteArray.ext h, fun h => by rw [h]⟩
/-- A call that answers whether something holds. -/
def Says (p : Prop) (e : Ending) : Prop := ∃ b : Bool, e = .returned (.bool b) ∧ (b = true ↔ p)
theorem says_no {p : Prop} (h : ¬ p) : Says p (.returned (.bool false)) := ⟨false, rfl, fun x => (by cases x), fun x => absurd x h⟩
theorem says_yes {p : Prop} (h : p) : Says p (.returned (.bool true)) := ⟨true, rfl, fun _ => h, fun _ => rfl⟩
theorem says_true {p : Prop} {e : Ending} (h : Says p e) (hp : p) : e = .returned (.bool true) := by
  obtain ⟨b, rfl, hb⟩ := h
  rw [hb.2 hp]
theorem says_false {p : Prop} {e : Ending} (h : Says p e) (hp : ¬ p) : e = .returned (.bool false) := by
  obtain ⟨b, rfl, hb⟩ := h
  cases b
  · rfl
  · exact absurd (hb.1 rfl) hp

section
variable {w w' W : World} {base e size n k p : Nat} {v : Value} {xs : List Value} {s : ByteArray}

theorem own_iter (h : w.ownsRow base e size v n xs) (hk : w.heap[k]? = some (.stringIter s p)) (q : Nat) : (w.iterAt k s q).ownsRow base e size v n xs := by
  obtain ⟨h1, h2⟩ := h
  refine ⟨h1, ?_⟩
  rcases h2 with h2 | ⟨g, cap, cur, a, b, c, d⟩
  · exact .inl h2
  · have hne : g ≠ k := by
      intro e
      subst e
      rw [hk] at c
      cases c
    exact .inr ⟨g, cap, cur, a, b, by rw [Lib.iterAt_other _ _ _ _ _ hne]; exact c, d⟩
theorem own_not_iter (h : w.ownsRow base e size v n xs) (hk : w.heap[k]? = some (.stringIter s p)) : some k ≠ v.ownBlock := by
  rcases h.2 with ⟨rfl, _⟩ | ⟨g, cap, cur, rfl, _, c, _⟩
  · exact fun x => by cases x
  · intro x
    have : k = g := by simpa [Value.ownBlock] using x
    subst this
    rw [hk] at c
    cases c
theorem own_lt (h : w.ownsRow base e size v n xs) : ∀ j, v.ownBlock = some j → base ≤ j := by
  intro j hj
  rcases h.2 with ⟨rfl, _⟩ | ⟨g, cap, cur, rfl, b, c, _⟩
  · cases hj
  · have : g = j := by simpa [Value.ownBlock] using hj
    omega
theorem own_base {base' : Nat} (h : w.ownsRow base e size v n xs) (hb : base' ≤ base) : w.ownsRow base' e size v n xs := by
  obtain ⟨h1, h2⟩ := h
  refine ⟨h1, ?_⟩
  rcases h2 with h2 | ⟨g, cap, cur, a, b, c⟩
  · exact .inl h2
  · exact .inr ⟨g, cap, cur, a, Nat.le_trans hb b, c⟩
/-- What a call owns stays as it is behind whatever turns nothing that was there. -/
theorem own_below (h : w.ownsRow base e size v n xs) (hb : Below w.heap.size w w') : w'.ownsRow base e size v n xs := by
  obtain ⟨h1, h2⟩ := h
  refine ⟨h1, ?_⟩
  rcases h2 with h2 | ⟨g, cap, cur, a, b, c, d⟩
  · exact .inl h2
  · have hlt : g < w.heap.size := (Array.getElem?_eq_some_iff.1 c).1
    exact .inr ⟨g, cap, cur, a, b, (hb.block g hlt).trans c, d⟩
/-- Two rows of which the second was made behind the first lie apart. -/
theorem apart {w2 : World} {e2 size2 n2 : Nat} {v2 : Value} {xs2 : List Value} (h : w.ownsRow base e size v n xs) (h2 : w2.ownsRow w.heap.size e2 size2 v2 n2 xs2) : v.ownBlock = none ∨ v.ownBlock ≠ v2.ownBlock := by
  rcases h.2 with ⟨rfl, _⟩ | ⟨g, cap, cur, rfl, b, c, d⟩
  · exact .inl rfl
  · right
    intro e
    have hlt : g < w.heap.size := (Array.getElem?_eq_some_iff.1 c).1
    have := own_lt h2 g e.symm
    omega
/-- Behind an append onto an owned row, of what was laid in a new block: an iterator stands as it stood, and what was below the call's own blocks too. -/
theorem after (h : w.ownsRow base e size v n xs) (hk : w.heap[k]? = some (.stringIter s p)) (hb : Below base W w) (hB : base ≤ w.heap.size) (o : Obj) (hg : (w.alloc o).grownBy w' v.ownBlock) :
    w'.heap[k]? = some (.stringIter s p) ∧ Below base W w' := by
  have hlt : k < w.heap.size := (Array.getElem?_eq_some_iff.1 hk).1
  refine ⟨?_, Below.grown (hb.alloc hB _) hg (by simp; omega) (own_lt h)⟩
  rw [hg.block k (by simp; omega) (own_not_iter h hk), Below.heap_alloc _ _ _ hlt]
  exact hk
theorem own_empty (w : World) (t : TypeId) : (w.alloc (.cells #[] t)).ownsRow w.heap.size t 1 (.slice (some ⟨w.heap.size, 0, none⟩) 0 0) 0 [] := by
  have h1 : (w.alloc (.cells #[] t)).heap[w.heap.size]? = some (.cells #[] t) := by
    show (w.heap.push (.cells #[] t))[w.heap.size]? = _
    simp
  exact ⟨rfl, .inr ⟨_, 0, #[], rfl, Nat.le_refl _, h1, Nat.le_refl _, Nat.zero_le _, rfl, rfl⟩⟩
/-- The cells of a block that has just been laid. -/
theorem cells_new (w : World) (c : List Value) (t : TypeId) : ∀ j u, c[j]? = some u → (w.alloc (.cells c.toArray t)).cell? ((⟨w.heap.size, 0, none⟩ : Addr).add j) = some u := by
  intro j u hj
  have h1 : (w.alloc (.cells c.toArray t)).heap[w.heap.size]? = some (.cells c.toArray t) := by
    show (w.heap.push (.cells c.toArray t))[w.heap.size]? = _
    simp
  rw [show ((⟨w.heap.size, 0, none⟩ : Addr).add j) = ⟨w.heap.size, j, none⟩ from by simp [Addr.add]; omega]
  rw [cell_of_row _ _ j _ t _ h1]
  simpa using hj
theorem add_at (g j : Nat) : (⟨g, 0, none⟩ : Addr).add j = ⟨g, j, none⟩ := by simp [Addr.add]; omega
theorem cell_new (w : World) (c : List Value) (t : TypeId) (j : Nat) (u : Value) (h : c[j]? = some u) : (w.alloc (.cells c.toArray t)).cell? ⟨w.heap.size, j, none⟩ = some u := by
  rw [← add_at]
  exact cells_new w c t j u h
end

section
variable {P : Program} {w : World} {base n : Nat} {src dst e : TypeId} {v : Value}
theorem conv_bytes (l : List UInt8) (h : w.ownsRow base e 1 v n (l.map fun b => Value.int .u8 (b.toNat : Int)))
    (hs : P.underlying src = some (.slice e)) (he : P.underlying e = some (.int .u8)) (hd : P.underlying dst = some .string) :
    (convert src dst v).run P w = .ok (.string ⟨l.toArray⟩) w := by
  have hl : l.length = n := by have := h.1; simpa using this
  rcases h.2 with ⟨rfl, h0⟩ | ⟨g, cap, cur, rfl, _⟩
  · have : l = [] := List.eq_nil_of_length_eq_zero (by omega)
    subst this
    rw [run_convert_bytes_string w src dst e _ _ _ hs he hd]
    rfl
  · subst hl
    refine run_convert_bytes_back w src dst e ⟨g, 0, none⟩ cap l hs he hd (fun j hj => ?_)
    rw [show ((⟨g, 0, none⟩ : Addr).add j) = ⟨g, j, none⟩ from by simp [Addr.add]; omega, h.cellAt j (by omega)]
    simp [hj]
theorem slice_str (t : TypeId) (s : ByteArray) (k k' : IntKind) (p q : Nat) (h : P.underlying t = some .string) (i j : Int) (hi : i = p) (hj : j = q) (h1 : p ≤ q) (h2 : q ≤ s.size) (wx : World) :
    (Instr.slice t (.string s) (some (.int k i)) (some (.int k' j)) none).run P wx = .ok (.string (s.extract p q)) wx := by
  subst hi hj
  rw [run_slice_string (P := P) (w := wx) t s k k' _ _ h (by omega) (by omega) (by omega)]
  rfl
theorem conv_runes (zs : List Int) (h : w.ownsRow base e 1 v n (zs.map (Value.int .i32)))
    (hs : P.underlying src = some (.slice e)) (he : P.underlying e = some (.int .i32)) (hd : P.underlying dst = some .string) :
    (convert src dst v).run P w = .ok (.string (runesBytes zs)) w := by
  have hl : zs.length = n := by have := h.1; simpa using this
  rcases h.2 with ⟨rfl, h0⟩ | ⟨g, cap, cur, rfl, _⟩
  · have : zs = [] := List.eq_nil_of_length_eq_zero (by omega)
    subst this
    exact run_convert_runes_nil w src dst e 0 0 hs he hd
  · subst hl
    have := run_convert_runes (P := P) w src dst e ⟨g, 0, none⟩ zs.length cap zs (Nat.le_refl _) hs he hd (fun j hj => by
      rw [show ((⟨g, 0, none⟩ : Addr).add j) = ⟨g, j, none⟩ from by simp [Addr.add]; omega, h.cellAt j (by omega)]
      simp [hj])
    rw [List.take_length] at this
    exact this
end
/-- A slice value whose elements are these numbers. -/
def Reads (k : IntKind) (w : World) (v : Value) (zs : List Int) : Prop :=
  ∃ (a : Option Addr) (cap : Nat), v = .slice a zs.length cap ∧ (zs = [] ∨ ∃ b off, a = some ⟨b, off, none⟩ ∧ ∀ j, j < zs.length → w.cell? ⟨b, off + j, none⟩ = some (.int k (zs.getD j 0)))

theorem reads_own {k : IntKind} {w : World} {base e n : Nat} {v : Value} {zs : List Int} (h : w.ownsRow base e 1 v n (zs.map (Value.int k))) : Reads k w v zs := by
  have hl : zs.length = n := by have := h.1; simpa using this
  rcases h.2 with ⟨rfl, h0⟩ | ⟨g, cap, cur, rfl, _⟩
  · have : zs = [] := List.eq_nil_of_length_eq_zero (by omega)
    subst this
    exact ⟨none, 0, rfl, .inl rfl⟩
  · subst hl
    refine ⟨_, cap, rfl, .inr ⟨g, 0, rfl, fun j hj => ?_⟩⟩
    rw [Nat.zero_add, h.cellAt j (by omega)]
    simp [hj]
theorem reads_keep {k : IntKind} {w w' : World} {v : Value} {zs : List Int} (h : Reads k w v zs) (hc : ∀ a u, w.cell? a = some u → w'.cell? a = some u) : Reads k w' v zs := by
  obtain ⟨a, cap, rfl, h⟩ := h
  refine ⟨a, cap, rfl, ?_⟩
  rcases h with h | ⟨b, off, rfl, h⟩
  · exact .inl h
  · exact .inr ⟨b, off, rfl, fun j hj => hc _ _ (h j hj)⟩

theorem getD_ext {zs ys : List Int} (hl : zs.length = ys.length) (h : ∀ j, j < zs.length → zs.getD j 0 = ys.getD j 0) : zs = ys := by
  refine List.ext_getElem hl (fun j h1 h2 => ?_)
  have := h j h1
  rw [List.getD_eq_getElem?_getD, List.getD_eq_getElem?_getD, List.getElem?_eq_getElem h1, List.getElem?_eq_getElem h2] at this
  simpa using this

theorem grown_trans {a b c : World} {row : Option Nat} (h : a.grownBy b row) (k : b.grownBy c row) : a.grownBy c row :=
  ⟨k.os.trans h.os, k.tape.trans h.tape, k.output.trans h.output, Nat.le_trans h.size k.size, fun i hi hr => (k.block i (Nat.lt_of_lt_of_le hi h.size) hr).trans (h.block i hi hr)⟩
theorem grown_refl (a : World) (row : Option Nat) : a.grownBy a row := ⟨rfl, rfl, rfl, Nat.le_refl _, fun _ _ _ => rfl⟩

/-- Behind a growth by steps of block b's, an append onto a row of the call's own leaves all but block b as it was. -/
theorem grown_new {w w1 w2 : World} {b base e size n : Nat} {v : Value} {xs : List Value} (h : w.grownBy w1 (some b)) (hown : w1.ownsRow base e size v n xs) (hb : w.heap.size ≤ base) (o : Obj) (hg : (w1.alloc o).grownBy w2 v.ownBlock) : w.grownBy w2 (some b) := by
  refine ⟨hg.os.trans h.os, hg.tape.trans h.tape, hg.output.trans h.output, Nat.le_trans h.size (Nat.le_trans (by simp) hg.size), fun k hk hr => ?_⟩
  have hk1 : k < w1.heap.size := Nat.lt_of_lt_of_le hk h.size
  rw [hg.block k (by simp; omega) (fun x => by have := own_lt hown k x.symm; omega), Below.heap_alloc _ _ _ hk1]
  exact h.block k hk hr
theorem grown_alloc {w w1 : World} {row : Option Nat} (h : w.grownBy w1 row) (o : Obj) : w.grownBy (w1.alloc o) row :=
  ⟨h.os, h.tape, h.output, Nat.le_trans h.size (by simp), fun k hk hr => by rw [Below.heap_alloc _ _ _ (Nat.lt_of_lt_of_le hk h.size)]; exact h.block k hk hr⟩
theorem grown_drewN {w w1 : World} {row : Option Nat} (h : w.grownBy w1 row) (n : Nat) : w.grownBy (w1.drewN n) row := ⟨h.os, h.tape, h.output, h.size, h.block⟩
theorem grown_below {w w1 : World} {row : Option Nat} (h : Below w.heap.size w w1) : w.grownBy w1 row := ⟨h.os, h.tape, h.output, h.size, fun k hk _ => h.block k hk⟩
end Go.Proofs.YtejmfffapkmjoaaDoor.ow
