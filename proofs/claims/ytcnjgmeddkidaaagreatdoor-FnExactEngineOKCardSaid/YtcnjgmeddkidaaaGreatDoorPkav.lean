/-
  A list of boxes one of which is given another: both its rows may have grown.
-/
import Derived.Test.YtcnjgmeddkidaaaGreatDoorPkau

namespace Go.Proofs.YtcnjgmeddkidaaaGreatDoor.bl
open Go.ChangeShapes Go.WideShapes Go.ChangeAt Go.RowKit Go.Deep Go.Joins
open st gr bx mx
set_option linter.unusedVariables false

/-- New blocks, and what lay in two rows' blocks may be another; nothing else is. -/
structure Gr2 (w w' : World) (p q : Option Nat) : Prop where
  os : w'.os = w.os
  tape : w'.tape = w.tape
  output : w'.output = w.output
  size : w.heap.size ≤ w'.heap.size
  block : ∀ k, k < w.heap.size → p ≠ some k → q ≠ some k → w'.heap[k]? = w.heap[k]?
theorem gr2_left {w w' : World} {p : Option Nat} (h : w.grownBy w' p) (q : Option Nat) : Gr2 w w' p q := ⟨h.os, h.tape, h.output, h.size, fun k hk h1 _ => h.block k hk (fun e => h1 e.symm)⟩
theorem gr2_right {w w' : World} {q : Option Nat} (h : w.grownBy w' q) (p : Option Nat) : Gr2 w w' p q := ⟨h.os, h.tape, h.output, h.size, fun k hk _ h1 => h.block k hk (fun e => h1 e.symm)⟩
theorem gr2_below {w w' : World} (h : Below w.heap.size w w') (p q : Option Nat) : Gr2 w w' p q := gr2_left (ow.grown_below h) q
theorem Gr2.trans {w x y : World} {p q : Option Nat} (h : Gr2 w x p q) (h' : Gr2 x y p q) : Gr2 w y p q :=
  ⟨h'.os.trans h.os, h'.tape.trans h.tape, h'.output.trans h.output, Nat.le_trans h.size h'.size, fun k hk h1 h2 => (h'.block k (Nat.lt_of_lt_of_le hk h.size) h1 h2).trans (h.block k hk h1 h2)⟩
theorem row_gr2 {w w' : World} {p q : Option Nat} {b e s n : Nat} {v : Value} {xs : List Value} (h : w.ownsRow b e s v n xs) (hg : Gr2 w w' p q) (h1 : v.ownBlock = none ∨ v.ownBlock ≠ p) (h2 : v.ownBlock = none ∨ v.ownBlock ≠ q) : w'.ownsRow b e s v n xs := by
  refine ⟨h.1, ?_⟩
  rcases h.2 with hn | ⟨g, cap, cur, rfl, hb, hgg, rest⟩
  · exact .inl hn
  · refine .inr ⟨g, cap, cur, rfl, hb, ?_, rest⟩
    rw [hg.block g (Array.getElem?_eq_some_iff.1 hgg).1 (fun e => by rcases h1 with h | h; cases h; exact h e.symm) (fun e => by rcases h2 with h | h; cases h; exact h e.symm)]
    exact hgg
theorem lies_gr2 {w w' : World} {p q : Option Nat} {G : Nat} {T : TypeId} {x : Bx} {v u : Value} (h : Lies w G T x v u) (hg : Gr2 w w' p q) (h1 : p ≠ some G) (h2 : q ≠ some G) : Lies w' G T x v u := (hg.block G h.lt h1 h2).trans h
/-- The rows of a box and the list's row lie apart. -/
theorem list_gr2 {w w' : World} {base : Nat} {L : Value} {xs : List Bx} {us : Nat → Value × Value} {k : Nat} (h : OwnL w base L xs us) (hk : k < xs.length) (hg : Gr2 w w' (us k).1.ownBlock (us k).2.ownBlock) : OwnB w' base L xs us :=
  row_gr2 h.1 hg (rowkinds h.1 (h.2.1 k hk).1 (by decide)) (rowkinds h.1 (h.2.1 k hk).2 (by decide))
theorem dis_sym {us : Nat → Value × Value} {n : Nat} (h : Dis us n) {i j : Nat} (hi : i < n) (hj : j < n) (hne : i ≠ j) : ((us i).1.ownBlock = none ∨ (us i).1.ownBlock ≠ (us j).1.ownBlock) ∧ ((us i).2.ownBlock = none ∨ (us i).2.ownBlock ≠ (us j).2.ownBlock) := by
  by_cases e : i < j
  · exact h i j e hj
  · obtain ⟨h1, h2⟩ := h j i (by omega) hi
    constructor
    · by_cases e1 : (us i).1.ownBlock = none
      · exact .inl e1
      · refine .inr fun e2 => ?_
        rcases h1 with h1 | h1
        · exact e1 (e2.trans h1)
        · exact h1 e2.symm
    · by_cases e1 : (us i).2.ownBlock = none
      · exact .inl e1
      · refine .inr fun e2 => ?_
        rcases h2 with h2 | h2
        · exact e1 (e2.trans h2)
        · exact h2 e2.symm
theorem other_gr2 {w w' : World} {base : Nat} {L : Value} {xs : List Bx} {us : Nat → Value × Value} {k : Nat} (h : OwnL w base L xs us) (hk : k < xs.length) (hg : Gr2 w w' (us k).1.ownBlock (us k).2.ownBlock) {j : Nat} (hj : j < xs.length) (hne : j ≠ k) : OwnM w' base (us j).1 (xs.getD j noB).ms ∧ OwnK w' base (us j).2 (xs.getD j noB).ks :=
  ⟨row_gr2 (h.2.1 j hj).1 hg (dis_sym h.2.2 hj hk hne).1 (rowkinds (h.2.1 j hj).1 (h.2.1 k hk).2 (by decide)), row_gr2 (h.2.1 j hj).2 hg (rowkinds (h.2.1 j hj).2 (h.2.1 k hk).1 (by decide)) (dis_sym h.2.2 hj hk hne).2⟩
theorem getD_set {xs : List Bx} {k j : Nat} {x : Bx} (hk : k < xs.length) : (xs.set k x).getD j noB = if j = k then x else xs.getD j noB := by
  by_cases e : j = k
  · subst e
    rw [if_pos rfl]
    simp [List.getD, hk]
  · rw [if_neg e]
    simp [List.getD, List.getElem?_set_ne (Ne.symm e)]
theorem bcells_set {xs : List Bx} {us : Nat → Value × Value} {n k : Nat} (hk : k < n) (hn : k < xs.length) (x : Bx) (p : Value × Value) : put5 (bcells xs us n) (k * 5) x p = bcells (xs.set k x) (upd us k p) n := by
  refine bcells_ext (by rw [put5_len, bcells_len]) fun j hj => ?_
  rw [getD_set hn]
  by_cases e : j = k
  · subst e
    simp only [upd, if_true]
    exact put5_same (by rw [bcells_len]; omega)
  · simp only [upd, if_neg e]
    exact in5_other (bcells_at xs us n j hj) (by omega)
/-- A slice that lies where it lay, or in a block that is new. -/
def Here (N : Nat) (v v' : Value) : Prop := v'.ownBlock = v.ownBlock ∨ ∀ g, v'.ownBlock = some g → N ≤ g
theorem here_apart {w : World} {b e s n : Nat} {N : Nat} {v v' u : Value} {xs : List Value} (hu : w.ownsRow b e s u n xs) (hN : w.heap.size ≤ N) (h : Here N v v') (hd : u.ownBlock = none ∨ u.ownBlock ≠ v.ownBlock) : u.ownBlock = none ∨ u.ownBlock ≠ v'.ownBlock := by
  rcases h with h | h
  · rw [h]; exact hd
  · cases hb : u.ownBlock with
    | none => exact .inl rfl
    | some g =>
      refine .inr fun e => ?_
      have h1 := h g e.symm
      have h2 := (hu.lt g hb).2
      omega
theorem sym_apart {p q : Option Nat} (h : p = none ∨ p ≠ q) : q = none ∨ q ≠ p := by
  by_cases e : q = none
  · exact .inl e
  · refine .inr fun e2 => ?_
    rcases h with h | h
    · exact e (e2.trans h)
    · exact h e2.symm
/-- The list behind it. -/
theorem list_set {w x y : World} {base : Nat} {L : Value} {xs : List Bx} {us : Nat → Value × Value} {k : Nat} {b : Bx} {v u : Value} (h : OwnL w base L xs us) (hk : k < xs.length) (hg : Gr2 w x (us k).1.ownBlock (us k).2.ownBlock) (hm : OwnM x base v b.ms) (hu : OwnK x base u b.ks) (hv : Here w.heap.size (us k).1 v) (hv2 : Here w.heap.size (us k).2 u)
    (hB : OwnB y base L (xs.set k b) (upd us k (v, u))) (hy : x.grownBy y L.ownBlock) : OwnL y base L (xs.set k b) (upd us k (v, u)) := by
  have hLx := list_gr2 h hk hg
  have hl : (xs.set k b).length = xs.length := by simp
  refine ⟨hB, fun j hj => ?_, fun i j hij hj => ?_⟩
  · rw [hl] at hj
    rw [getD_set hk]
    by_cases e : j = k
    · subst e
      simp only [upd, if_true]
      exact ⟨row_other hm hy (rowkinds hm hLx (by decide)), row_other hu hy (rowkinds hu hLx (by decide))⟩
    · simp only [upd, if_neg e]
      obtain ⟨h1, h2⟩ := other_gr2 h hk hg hj e
      exact ⟨row_other h1 hy (rowkinds h1 hLx (by decide)), row_other h2 hy (rowkinds h2 hLx (by decide))⟩
  · rw [hl] at hj
    have hi : i < xs.length := by omega
    by_cases ei : i = k
    · have ej : j ≠ k := by omega
      subst ei
      simp only [upd, if_true, if_neg ej]
      have d := dis_sym h.2.2 hj hk ej
      exact ⟨sym_apart (here_apart (h.2.1 j hj).1 (Nat.le_refl _) hv d.1), sym_apart (here_apart (h.2.1 j hj).2 (Nat.le_refl _) hv2 d.2)⟩
    · by_cases ej : j = k
      · subst ej
        simp only [upd, if_true, if_neg ei]
        have d := dis_sym h.2.2 hi hk ei
        exact ⟨here_apart (h.2.1 i hi).1 (Nat.le_refl _) hv d.1, here_apart (h.2.1 i hi).2 (Nat.le_refl _) hv2 d.2⟩
      · simp only [upd, if_neg ei, if_neg ej]
        exact h.2.2 i j hij hj
/-- With a code the list is as it was. -/
theorem list_kept {w x : World} {base : Nat} {L : Value} {xs : List Bx} {us : Nat → Value × Value} {k : Nat} (h : OwnL w base L xs us) (hk : k < xs.length) (hg : Gr2 w x (us k).1.ownBlock (us k).2.ownBlock) (hm : OwnM x base (us k).1 (xs.getD k noB).ms) (hu : OwnK x base (us k).2 (xs.getD k noB).ks) : OwnL x base L xs us := by
  refine ⟨list_gr2 h hk hg, fun j hj => ?_, h.2.2⟩
  by_cases e : j = k
  · subst e; exact ⟨hm, hu⟩
  · exact other_gr2 h hk hg hj e
/-- Nothing below the list's own memory is touched. -/
theorem gr2_base {w x : World} {base : Nat} {xs : List Bx} {us : Nat → Value × Value} {k : Nat} (h : OwnR w base xs us xs.length) (hk : k < xs.length) (hb : base ≤ w.heap.size) (hg : Gr2 w x (us k).1.ownBlock (us k).2.ownBlock) : ∀ j, j < base → x.heap[j]? = w.heap[j]? := fun j hj =>
  hg.block j (by omega) (fun e => by have := ((h k hk).1.lt j e).1; omega) (fun e => by have := ((h k hk).2.lt j e).1; omega)
end Go.Proofs.YtcnjgmeddkidaaaGreatDoor.bl
