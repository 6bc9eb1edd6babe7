/-
  A cutter takes a mutation off the front of a text.
-/
import Derived.Test.YtncnbhekgkemfaaGreatDoorPkbk
import Derived.Test.YtncnbhekgkemfaaGreatDoorPkad
import Derived.Test.YtncnbhekgkemfaaGreatDoorPkar
import Derived.Laws.AppendOwn
import Derived.Deep.RegionHeld
import Derived.Deep.DeepCutAuto
import Derived.Deep.Cut
import Derived.Deep.CutRange
import Derived.Deep.RegionWith
import Derived.Deep.RegionLaw

namespace Go.Proofs.YtncnbhekgkemfaaGreatDoor.rm
open Go.RowKit Go.Deep
open it
set_option linter.unusedVariables false

def B6 (w : World) (g : Nat) (T : TypeId) (v0 v1 v2 v3 v4 v5 : Value) : Prop := w.heap[g]? = some (.cells #[v0, v1, v2, v3, v4, v5] T (0, 0))
section
variable {w w' : World} {g b : Nat} {T : TypeId} {v0 v1 v2 v3 v4 v5 : Value}
theorem B6.lt (h : B6 w g T v0 v1 v2 v3 v4 v5) : g < w.heap.size := (Array.getElem?_eq_some_iff.1 h).1
theorem B6.keep (h : B6 w g T v0 v1 v2 v3 v4 v5) (hg : w.grownBy w' (some b)) (hne : b ≠ g) : B6 w' g T v0 v1 v2 v3 v4 v5 := (hg.block g h.lt (by simp; omega)).trans h
theorem B6.cell (h : B6 w g T v0 v1 v2 v3 v4 v5) (j : Nat) (v : Value) (hv : ([v0, v1, v2, v3, v4, v5] : List Value)[j]? = some v) : w.cell? ⟨g, j, none⟩ = some v := by
  rw [cell_of_row w _ _ _ _ _ h]
  simpa using hv
theorem B6.f (h : B6 w g T v0 v1 v2 v3 v4 v5) (j : Nat) : w.frozen? ⟨g, j, none⟩ = false := frozen_of_row _ _ _ _ _ h
theorem B6.put1 (h : B6 w g T v0 v1 v2 v3 v4 v5) (u : Value) : B6 (w.setCell ⟨g, 1, none⟩ u) g T v0 u v2 v3 v4 v5 := heap_setCell_same _ g 1 _ _ _ h
theorem B6.put4 (h : B6 w g T v0 v1 v2 v3 v4 v5) (u : Value) : B6 (w.setCell ⟨g, 4, none⟩ u) g T v0 v1 v2 v3 u v5 := heap_setCell_same _ g 4 _ _ _ h
theorem B6.put5 (h : B6 w g T v0 v1 v2 v3 v4 v5) (u : Value) : B6 (w.setCell ⟨g, 5, none⟩ u) g T v0 v1 v2 v3 v4 u := heap_setCell_same _ g 5 _ _ _ h
theorem B6.other (h : B6 w g T v0 v1 v2 v3 v4 v5) (q j : Nat) (u : Value) (hne : g ≠ q) : B6 (w.setCell ⟨q, j, none⟩ u) g T v0 v1 v2 v3 v4 v5 := by
  unfold B6
  rw [heap_setCell_other _ _ _ _ hne]
  exact h
theorem Cut.other {r : ByteArray} {sh : Bool} (h : Cut w g r sh) (q j : Nat) (u : Value) (hne : g ≠ q) : Cut (w.setCell ⟨q, j, none⟩ u) g r sh := by
  unfold Cut
  rw [heap_setCell_other _ _ _ _ hne]
  exact h
end
theorem grown_in {w w1 w2 : World} {b g : Nat} (h1 : w.grownBy w1 (some b)) (h2 : w1.grownBy w2 (some g)) (hg : w.heap.size ≤ g) : w.grownBy w2 (some b) :=
  ⟨h2.os.trans h1.os, h2.tape.trans h1.tape, h2.output.trans h1.output, Nat.le_trans h1.size h2.size, fun i hi hr => (h2.block i (Nat.lt_of_lt_of_le hi h1.size) (by simp; omega)).trans (h1.block i hi hr)⟩
/-- The state of a cutter, and what taking n bytes makes of it. -/
abbrev Sta := ByteArray × Bool
def nx (s : Sta) (n : Nat) : Sta := (rs s.1 n, s.2 || sx s.1 n)
def nb (s : Sta) (n : Nat) : Nat := numB (tk s.1 n)
theorem cut_nx {w : World} {C n : Nat} {s : Sta} (h : Cut w C (rs s.1 n) (s.2 || sx s.1 n)) : Cut w C (nx s n).1 (nx s n).2 := h
/-- What is read ahead of the items. -/
def s1 (s : Sta) : Sta := nx s 1
def s2 (s : Sta) : Sta := nx (s1 s) 1
def s3 (s : Sta) : Sta := nx (s2 s) 1
def s4 (s : Sta) : Sta := nx (s3 s) 1
def s5 (s : Sta) : Sta := nx (s4 s) 1
def s6 (s : Sta) : Sta := nx (s5 s) 2
def s7 (s : Sta) : Sta := nx (s6 s) (nb (s4 s) 1)
/-- Items, one by one. -/
def its : Nat → Sta → List Pr × Sta
  | 0, s => ([], s)
  | k + 1, s =>
    let p := its k s
    let a := nx (nx p.2 2) 2
    let b := nx a (nb p.2 2)
    (p.1 ++ [(tk a.1 (nb p.2 2), tk b.1 (nb (nx p.2 2) 2))], nx b (nb (nx p.2 2) 2))
/-- The mutation that is read, and the state behind it. -/
def mtn (s : Sta) : mu.Mu := ⟨nb s 1, nb (s5 s) 2, nb (s1 s) 1, nb (s2 s) 1, tk (s6 s).1 (nb (s4 s) 1), (its (nb (s3 s) 1) (s7 s)).1⟩
def fin (s : Sta) : Sta := (its (nb (s3 s) 1) (s7 s)).2
theorem rs_size (r : ByteArray) (n : Nat) : (rs r n).size ≤ r.size := by
  unfold rs
  split
  · exact Nat.le_refl _
  · simp
theorem nx_size (s : Sta) (n : Nat) : (nx s n).1.size ≤ s.1.size := rs_size _ _
theorem its_size (s : Sta) : ∀ k, (its k s).2.1.size ≤ s.1.size
  | 0 => Nat.le_refl _
  | k + 1 => by
    have h := its_size s k
    simp only [its]
    have h1 := nx_size (its k s).2 2
    have h2 := nx_size (nx (its k s).2 2) 2
    have h3 := nx_size (nx (nx (its k s).2 2) 2) (nb (its k s).2 2)
    have h4 := nx_size (nx (nx (nx (its k s).2 2) 2) (nb (its k s).2 2)) (nb (nx (its k s).2 2) 2)
    omega
def icells : List Pr → List Value
  | [] => []
  | x :: ps => .string x.1 :: .string x.2 :: icells ps
theorem icells_snoc (ps : List Pr) (x : Pr) : icells (ps ++ [x]) = icells ps ++ [.string x.1, .string x.2] := by
  induction ps with
  | nil => rfl
  | cons y ps ih => simp [icells, ih]
/-- A row of items that a call made. -/
def Rows2 (w : World) (base : Nat) (v : Value) (ps : List Pr) : Prop := w.ownsRow base 136 2 v ps.length (icells ps)
theorem own_ne {w : World} {base e size n C : Nat} {v : Value} {xs : List Value} (h : w.ownsRow base e size v n xs) (hC : C < base) : v.ownBlock = none ∨ v.ownBlock ≠ some C := by
  right
  intro hk
  have := (h.lt C hk).1
  omega
theorem its_len (s : Sta) : ∀ k, (its k s).1.length = k
  | 0 => rfl
  | k + 1 => by simp [its, its_len s k]
theorem nb_lt (s : Sta) (n : Nat) : nb s n < 256 ^ n := by
  unfold nb numB
  refine Nat.lt_of_lt_of_le (num_lt _) (Nat.pow_le_pow_right (by omega) ?_)
  exact tk_size s.1 n


def put6 (w : World) (g : Nat) (a b c d e f : Value) : World := (((((w.setCell ⟨g, 0, none⟩ a).setCell ⟨g, 1, none⟩ b).setCell ⟨g, 2, none⟩ c).setCell ⟨g, 3, none⟩ d).setCell ⟨g, 4, none⟩ e).setCell ⟨g, 5, none⟩ f
theorem B6.put {w : World} {g : Nat} {T : TypeId} {v0 v1 v2 v3 v4 v5 a b c d e f : Value} (h : B6 w g T v0 v1 v2 v3 v4 v5) : B6 (put6 w g a b c d e f) g T a b c d e f :=
  heap_setCell_same _ g 5 _ _ _ (heap_setCell_same _ g 4 _ _ _ (heap_setCell_same _ g 3 _ _ _ (heap_setCell_same _ g 2 _ _ _ (heap_setCell_same _ g 1 _ _ _ (heap_setCell_same _ g 0 _ _ _ h)))))
theorem put6_grown (w : World) (g : Nat) (a b c d e f : Value) : w.grownBy (put6 w g a b c d e f) (some g) :=
  ow.grown_trans (ow.grown_trans (ow.grown_trans (ow.grown_trans (ow.grown_trans (grown_cell w g 0 a) (grown_cell _ g 1 b)) (grown_cell _ g 2 c)) (grown_cell _ g 3 d)) (grown_cell _ g 4 e)) (grown_cell _ g 5 f)
theorem icells_at (ps : List Pr) : ∀ j, j < ps.length → (icells ps)[j * 2]? = some (.string (ps.getD j no).1) ∧ (icells ps)[j * 2 + 1]? = some (.string (ps.getD j no).2) := by
  induction ps with
  | nil => intro j hj; simp at hj
  | cons x ps ih =>
    intro j hj
    cases j with
    | zero => exact ⟨rfl, rfl⟩
    | succ j =>
      have := ih j (by simpa using hj)
      rw [show (j + 1) * 2 = j * 2 + 1 + 1 from by omega]
      simpa [icells] using this
theorem own_low {w : World} {b base e size n : Nat} {v : Value} {xs : List Value} (h : w.ownsRow base e size v n xs) (hb : b ≤ base) : w.ownsRow b e size v n xs :=
  ⟨h.1, h.2.imp id fun ⟨g, cap, cur, he, hb', r⟩ => ⟨g, cap, cur, he, Nat.le_trans hb hb', r⟩⟩
theorem rows_at {w : World} {base : Nat} {v : Value} {ps : List Pr} (h : Rows2 w base v ps) : AttrsAt w v ps := by
  rcases id h.2 with ⟨e, hx⟩ | ⟨g, cap, cur, e, _⟩
  · have hl : ps = [] := by
      cases ps with
      | nil => rfl
      | cons x ps => simp at hx
    subst hl
    exact ⟨none, 0, e, .inl rfl⟩
  · have h' : w.ownsRow base 136 2 v ps.length (icells ps) := h
    rw [e] at h' ⊢
    exact attrs_lay rfl h' (icells_at ps)
/-- The region that appends an item: what its operations yield, and how far it has come. -/
structure It where
  w : World
  C : Nat
  M : Nat
  m0 : Value
  m1 : Value
  m2 : Value
  m3 : Value
  m4 : Value
  v : Value
  u2 : Sta
  u3 : Sta
  u4 : Sta
  ps : List Pr
  ky : ByteArray
  tx : ByteArray
  na : Nat
  nt : Nat
def Vf (p : It) : Nat → Option Value
  | 0 => some (.pointer (some ⟨p.M, 0 + 5, none⟩))
  | 1 => some p.v
  | 2 => some (.pointer (some ⟨p.C, 0, none⟩))
  | 3 => some (.int .i64 p.na)
  | 4 => some (.string p.ky)
  | 5 => some (.pointer (some ⟨p.C, 0, none⟩))
  | 6 => some (.int .i64 p.nt)
  | 7 => some (.string p.tx)
  | 8 => some (.agg #[.string p.ky, .string p.tx])
  | 11 => some (.pointer (some ⟨p.M, 0 + 5, none⟩))
  | _ => none
def Zero (x : World) (g : Nat) : Prop := B6 x g 104 (.int .i64 0) (.int .i64 0) (.int .i64 0) (.int .i64 0) (.string ⟨#[]⟩) (.slice none 0 0)
def Fa (p : It) (ph : Nat) (f9 f10 : Value) (x : World) : Prop :=
  p.w.grownBy x (some p.C) ∧ Zero x p.w.heap.size ∧ (ph = 0 → Cut x p.C p.u2.1 p.u2.2) ∧ (ph = 1 → Cut x p.C p.u3.1 p.u3.2) ∧ (2 ≤ ph → Cut x p.C p.u4.1 p.u4.2) ∧
  (ph < 5 → B6 x p.M 104 p.m0 p.m1 p.m2 p.m3 p.m4 p.v) ∧ (5 ≤ ph → B6 x p.M 104 p.m0 p.m1 p.m2 p.m3 p.m4 f10) ∧
  (ph ≤ 3 → Rows2 x (p.M + 1) p.v p.ps) ∧ (4 ≤ ph → Rows2 x (p.M + 1) f10 (p.ps ++ [(p.ky, p.tx)])) ∧
  (ph = 3 → ∃ g, f9 = .slice (some ⟨g, 0, none⟩) 1 1 ∧ x.cell? ⟨g, 0, none⟩ = some (.string p.ky) ∧ x.cell? ⟨g, 1, none⟩ = some (.string p.tx))
def J (p : It) (D : Nat → Prop) (f : Nat → Value) (x : World) : Prop :=
  (∀ j, D j → ∀ y, Vf p j = some y → f j = y) ∧ ∃ ph, (D 4 ↔ 1 ≤ ph) ∧ (D 7 ↔ 2 ≤ ph) ∧ (D 9 ↔ 3 ≤ ph) ∧ (D 10 ↔ 4 ≤ ph) ∧ (D 12 ↔ 5 ≤ ph) ∧ Fa p ph (f 9) (f 10) x
theorem vals_of {p : It} {D : Nat → Prop} {f : Nat → Value} {i : Nat} {y : Value} (h : ∀ j, D j → ∀ z, Vf p j = some z → f j = z) (hy : ∀ z, Vf p i = some z → y = z) : ∀ j, (j = i ∨ D j) → ∀ z, Vf p j = some z → rs.upd f i y j = z := by
  intro j hj z hz
  by_cases e : j = i
  · subst e
    rw [rs.upd_same]
    exact hy z hz
  · rw [rs.upd_other f i y e]
    exact h j (hj.resolve_left e) z hz
theorem J.pure {p : It} {D : Nat → Prop} {f : Nat → Value} {x : World} {i : Nat} (y : Value) (h : J p D f x) (hy : ∀ z, Vf p i = some z → y = z) (h4 : 4 ≠ i) (h7 : 7 ≠ i) (h9 : 9 ≠ i) (h10 : 10 ≠ i) (h12 : 12 ≠ i) :
    J p (fun j => j = i ∨ D j) (rs.upd f i y) x := by
  obtain ⟨hv, ph, e4, e7, e9, e10, e12, hf⟩ := h
  refine ⟨vals_of hv hy, ph, ?_, ?_, ?_, ?_, ?_, ?_⟩
  · simpa [h4] using e4
  · simpa [h7] using e7
  · simpa [h9] using e9
  · simpa [h10] using e10
  · simpa [h12] using e12
  · rw [rs.upd_other f i y h9, rs.upd_other f i y h10]
    exact hf
/-- A step of the state, from ph to ph + 1. -/
theorem J.step {p : It} {D : Nat → Prop} {f : Nat → Value} {x' : World} {i ph : Nat} (y : Value) (hv : ∀ j, D j → ∀ z, Vf p j = some z → f j = z) (hy : ∀ z, Vf p i = some z → y = z)
    (e4 : D 4 ↔ 1 ≤ ph) (e7 : D 7 ↔ 2 ≤ ph) (e9 : D 9 ↔ 3 ≤ ph) (e10 : D 10 ↔ 4 ≤ ph) (e12 : D 12 ↔ 5 ≤ ph) (hi : (i = 4 ∧ ph = 0) ∨ (i = 7 ∧ ph = 1) ∨ (i = 9 ∧ ph = 2) ∨ (i = 10 ∧ ph = 3) ∨ (i = 12 ∧ ph = 4))
    (hf : Fa p (ph + 1) (rs.upd f i y 9) (rs.upd f i y 10) x') : J p (fun j => j = i ∨ D j) (rs.upd f i y) x' := by
  refine ⟨vals_of hv hy, ph + 1, ?_, ?_, ?_, ?_, ?_, hf⟩
  · simp only [e4]; omega
  · simp only [e7]; omega
  · simp only [e9]; omega
  · simp only [e10]; omega
  · simp only [e12]; omega

set_option maxHeartbeats 8000000 in
set_option maxRecDepth 100000 in
theorem mutation_any (C : Nat) (s : Sta) (w : World) (h : Cut w C s.1 s.2) (hr : s.1.size ≤ 1048576) :
    Calls Tryz.prog 95 #[.pointer (some ⟨C, 0, none⟩)] w fun e w' => ∃ v, e = .returned (mu.MV (mtn s) v) ∧ Rows2 w' w.heap.size v (mtn s).ps ∧ Cut w' C (fin s).1 (fin s).2 ∧ w.grownBy w' (some C) := by
  have hCl : C < w.heap.size := h.lt
  have G0 : w.grownBy (w.alloc (.cells #[.int .i64 0, .int .i64 0, .int .i64 0, .int .i64 0, .string ⟨#[]⟩, .slice none 0 0] 104)) (some C) := World.grownBy_alloc _ _ _
  have R0 : B6 (w.alloc (.cells #[.int .i64 0, .int .i64 0, .int .i64 0, .int .i64 0, .string ⟨#[]⟩, .slice none 0 0] 104)) w.heap.size 104 (.int .i64 0) (.int .i64 0) (.int .i64 0) (.int .i64 0) (.string ⟨#[]⟩) (.slice none 0 0) := (MapKept.heap_alloc w _).1
  have C0 : Cut (w.alloc (.cells #[.int .i64 0, .int .i64 0, .int .i64 0, .int .i64 0, .string ⟨#[]⟩, .slice none 0 0] 104)) C s.1 s.2 := (Below.heap_alloc _ _ _ hCl).trans h
  have z0 := nx_size s 1
  have z1 := nx_size (s1 s) 1
  have z2 := nx_size (s2 s) 1
  have z3 := nx_size (s3 s) 1
  have z4 := nx_size (s4 s) 1
  have z5 := nx_size (s5 s) 2
  have n3 := nb_lt (s3 s) 1
  have n4 := nb_lt (s4 s) 1
  obtain ⟨k0, e0⟩ : ∃ k, k = nb s 1 := ⟨_, rfl⟩
  obtain ⟨k1, e1⟩ : ∃ k, k = nb (s1 s) 1 := ⟨_, rfl⟩
  obtain ⟨k2, e2⟩ : ∃ k, k = nb (s2 s) 1 := ⟨_, rfl⟩
  obtain ⟨k3, e3⟩ : ∃ k, k = nb (s3 s) 1 := ⟨_, rfl⟩
  obtain ⟨k4, e4⟩ : ∃ k, k = nb (s4 s) 1 := ⟨_, rfl⟩
  obtain ⟨k5, e5⟩ : ∃ k, k = nb (s5 s) 2 := ⟨_, rfl⟩
  have HE : Hid (k0 = nb s 1 ∧ k1 = nb (s1 s) 1 ∧ k2 = nb (s2 s) 1 ∧ k3 = nb (s3 s) 1 ∧ k4 = nb (s4 s) 1 ∧ k5 = nb (s5 s) 2) := ⟨e0, e1, e2, e3, e4, e5⟩
  have HZ : Hid ((s1 s).1.size ≤ 1048576 ∧ (s2 s).1.size ≤ 1048576 ∧ (s3 s).1.size ≤ 1048576 ∧ (s4 s).1.size ≤ 1048576 ∧ (s5 s).1.size ≤ 1048576 ∧ (s6 s).1.size ≤ 1048576) := by
    unfold s6 s5 s4 s3 s2 s1 at *
    exact ⟨by omega, by omega, by omega, by omega, by omega, by omega⟩
  rw [← e3] at n3
  rw [← e4] at n4
  clear z0 z1 z2 z3 z4 z5 e0 e1 e2 e3 e4 e5
  go_enter Tryz.func95, Tryz.ntmps95
  go_wp2_with fail
  generalize w.alloc _ = w0 at G0 R0 C0 ⊢
  refine (number_any C s.1 s.2 1 w0 C0 hr (by omega)).mono ?_
  rintro e w1 ⟨rfl, hc1, hg1⟩
  have C1 := cut_nx hc1
  rw [show nx s 1 = s1 s from rfl] at C1
  rw [show numB (tk s.1 1) = nb s 1 from rfl, ← HE.out.1]
  have R1 := R0.keep hg1 (by omega)
  have G1 := ow.grown_trans G0 hg1
  clear hc1 hg1 C0 R0 G0
  go_wp2_with fail
  refine (number_any C (s1 s).1 (s1 s).2 1 w1 C1 HZ.out.1 (by omega)).mono ?_
  rintro e w2 ⟨rfl, hc2, hg2⟩
  have C2 := cut_nx hc2
  rw [show nx (s1 s) 1 = s2 s from rfl] at C2
  rw [show numB (tk (s1 s).1 1) = nb (s1 s) 1 from rfl, ← HE.out.2.1]
  have R2 := R1.keep hg2 (by omega)
  have G2 := ow.grown_trans G1 hg2
  clear hc2 hg2 C1 R1 G1
  go_wp2_with fail
  refine (number_any C (s2 s).1 (s2 s).2 1 w2 C2 HZ.out.2.1 (by omega)).mono ?_
  rintro e w3 ⟨rfl, hc3, hg3⟩
  have C3 := cut_nx hc3
  rw [show nx (s2 s) 1 = s3 s from rfl] at C3
  rw [show numB (tk (s2 s).1 1) = nb (s2 s) 1 from rfl, ← HE.out.2.2.1]
  have R3 := R2.keep hg3 (by omega)
  have G3 := ow.grown_trans G2 hg3
  clear hc3 hg3 C2 R2 G2
  have hMl : w.heap.size < w3.heap.size := R3.lt
  have M3 : B6 (w3.alloc (.cells #[.int .i64 k0, .int .i64 0, .int .i64 k1, .int .i64 k2, .string ⟨#[]⟩, .slice none 0 0] 104)) w3.heap.size 104 (.int .i64 k0) (.int .i64 0) (.int .i64 k1) (.int .i64 k2) (.string ⟨#[]⟩) (.slice none 0 0) := (MapKept.heap_alloc w3 _).1
  have gM : w3.grownBy (w3.alloc (.cells #[.int .i64 k0, .int .i64 0, .int .i64 k1, .int .i64 k2, .string ⟨#[]⟩, .slice none 0 0] 104)) (some C) := World.grownBy_alloc _ _ _
  have hC3 : C < w3.heap.size := C3.lt
  have C3' : Cut (w3.alloc (.cells #[.int .i64 k0, .int .i64 0, .int .i64 k1, .int .i64 k2, .string ⟨#[]⟩, .slice none 0 0] 104)) C (s3 s).1 (s3 s).2 := (Below.heap_alloc _ _ _ hC3).trans C3
  have R3' := R3.keep gM (by omega)
  have G3' := ow.grown_trans G3 gM
  clear C3 R3 G3 gM
  go_wp2_with fail
  generalize w3.heap.size = M at M3 hMl hC3 ⊢
  generalize w3.alloc _ = w3 at M3 C3' R3' G3' ⊢
  have C3 := C3'
  have R3 := R3'
  have G3 := G3'
  clear C3' R3' G3'
  refine (number_any C (s3 s).1 (s3 s).2 1 w3 C3 HZ.out.2.2.1 (by omega)).mono ?_
  rintro e w4 ⟨rfl, hc4, hg4⟩
  have C4 := cut_nx hc4
  rw [show nx (s3 s) 1 = s4 s from rfl] at C4
  rw [show numB (tk (s3 s).1 1) = nb (s3 s) 1 from rfl, ← HE.out.2.2.2.1]
  have M4 := M3.keep hg4 (by omega)
  clear M3
  have R4 := R3.keep hg4 (by omega)
  have G4 := ow.grown_trans G3 hg4
  clear hc4 hg4 C3 R3 G3
  go_wp2_with fail
  refine (number_any C (s4 s).1 (s4 s).2 1 w4 C4 HZ.out.2.2.2.1 (by omega)).mono ?_
  rintro e w5 ⟨rfl, hc5, hg5⟩
  have C5 := cut_nx hc5
  rw [show nx (s4 s) 1 = s5 s from rfl] at C5
  rw [show numB (tk (s4 s).1 1) = nb (s4 s) 1 from rfl, ← HE.out.2.2.2.2.1]
  have M5 := M4.keep hg5 (by omega)
  clear M4
  have R5 := R4.keep hg5 (by omega)
  have G5 := ow.grown_trans G4 hg5
  clear hc5 hg5 C4 R4 G4
  go_wp2_with fail
  refine (number_any C (s5 s).1 (s5 s).2 2 w5 C5 HZ.out.2.2.2.2.1 (by omega)).mono ?_
  rintro e w6 ⟨rfl, hc6, hg6⟩
  have C6 := cut_nx hc6
  rw [show nx (s5 s) 2 = s6 s from rfl] at C6
  rw [show numB (tk (s5 s).1 2) = nb (s5 s) 2 from rfl, ← HE.out.2.2.2.2.2]
  have M6 := M5.keep hg6 (by omega)
  clear M5
  have R6 := R5.keep hg6 (by omega)
  have G6 := ow.grown_trans G5 hg6
  clear hc6 hg6 C5 R5 G5
  have m1 : w6.cell? ⟨M, 0 + 1, none⟩ = _ := M6.cell 1 _ rfl
  have m1' : w6.cell? ⟨M, 1, none⟩ = _ := M6.cell 1 _ rfl
  have fM := M6.f
  have C7 := C6.other M 1 (.int .i64 k5) (by omega)
  have R7 := R6.other M 1 (.int .i64 k5) (by omega)
  have M7 := M6.put1 (.int .i64 k5)
  have G7 := grown_in G6 (grown_cell w6 M 1 (.int .i64 k5)) (by omega)
  clear C6 R6 M6 G6
  go_wp2_with fail
  clear m1 m1' fM
  generalize w6.setCell _ _ = w7 at C7 R7 M7 G7 ⊢
  refine (text_any C (s6 s).1 (s6 s).2 k4 w7 C7 HZ.out.2.2.2.2.2 (by omega)).mono ?_
  rintro e w8 ⟨rfl, hc8, hg8⟩
  have C8 : Cut w8 C (s7 s).1 (s7 s).2 := by
    have e : nx (s6 s) k4 = s7 s := by unfold s7; rw [HE.out.2.2.2.2.1]
    have := cut_nx hc8
    rw [e] at this
    exact this
  obtain ⟨bx, hbx⟩ : ∃ bx, bx = tk (s6 s).1 k4 := ⟨_, rfl⟩
  have HBX : Hid (bx = tk (s6 s).1 k4) := hbx
  rw [← hbx]
  have R8 := R7.keep hg8 (by omega)
  have M8 := M7.keep hg8 (by omega)
  have G8 := ow.grown_trans G7 hg8
  clear hc8 hg8 C7 R7 M7 G7 hbx
  have m1 : w8.cell? ⟨M, 0 + 4, none⟩ = _ := M8.cell 4 _ rfl
  have m1' : w8.cell? ⟨M, 4, none⟩ = _ := M8.cell 4 _ rfl
  have fM := M8.f
  have C9 := C8.other M 4 (.string bx) (by omega)
  have R9 := R8.other M 4 (.string bx) (by omega)
  have M9 := M8.put4 (.string bx)
  have G9 := grown_in G8 (grown_cell w8 M 4 (.string bx)) (by omega)
  clear C8 R8 M8 G8
  go_wp2
  clear m1 m1' fM
  generalize w8.setCell _ _ = w9 at C9 R9 M9 G9 ⊢
  obtain ⟨i0, hi, hz0, hz1, hz2⟩ := info_parts infoAt
  have hMl9 : M < w9.heap.size := M9.lt
  have HR9 : Hid (B6 w9 w.heap.size 104 (.int .i64 0) (.int .i64 0) (.int .i64 0) (.int .i64 0) (.string ⟨#[]⟩) (.slice none 0 0)) := R9
  clear R9
  go_loopw [27] (fun i wr => ∃ (k : Nat) (v : Value), k ≤ k3 ∧ i = .int .i64 k ∧ Cut wr C (its k (s7 s)).2.1 (its k (s7 s)).2.2 ∧ B6 wr M 104 (.int .i64 k0) (.int .i64 k5) (.int .i64 k1) (.int .i64 k2) (.string bx) v ∧ B6 wr w.heap.size 104 (.int .i64 0) (.int .i64 0) (.int .i64 0) (.int .i64 0) (.string ⟨#[]⟩) (.slice none 0 0) ∧ Rows2 wr (M + 1) v (its k (s7 s)).1 ∧ w.grownBy wr (some C)) (fun i _ => k3 - (intOf i).toNat)
  case atStart => exact ⟨0, _, Nat.zero_le _, rfl, C9, M9, HR9.out, World.ownsRow_nil _ _ _ _, G9⟩
  case round =>
    clear C9 M9 G9 HR9
    obtain ⟨k, v, hk, rfl, hcw, hmw, hrw, hov, hgw⟩ := hrel
    by_cases hlt : k < k3
    · have hlt' : (k : Int) < (k3 : Int) := by omega
      have hsz := its_size (s7 s) k
      have hln := its_len (s7 s) k
      have hst : its (k + 1) (s7 s) = ((its k (s7 s)).1 ++ [(tk (nx (nx (its k (s7 s)).2 2) 2).1 (nb (its k (s7 s)).2 2), tk (nx (nx (nx (its k (s7 s)).2 2) 2) (nb (its k (s7 s)).2 2)).1 (nb (nx (its k (s7 s)).2 2) 2))], nx (nx (nx (nx (its k (s7 s)).2 2) 2) (nb (its k (s7 s)).2 2)) (nb (nx (its k (s7 s)).2 2) 2)) := rfl
      have HST : Hid (its (k + 1) (s7 s) = ((its k (s7 s)).1 ++ [(tk (nx (nx (its k (s7 s)).2 2) 2).1 (nb (its k (s7 s)).2 2), tk (nx (nx (nx (its k (s7 s)).2 2) 2) (nb (its k (s7 s)).2 2)).1 (nb (nx (its k (s7 s)).2 2) 2))], nx (nx (nx (nx (its k (s7 s)).2 2) 2) (nb (its k (s7 s)).2 2)) (nb (nx (its k (s7 s)).2 2) 2))) := hst
      clear hst
      have hs7 : (s7 s).1.size ≤ 1048576 := Nat.le_trans (nx_size (s6 s) _) HZ.out.2.2.2.2.2
      generalize (its k (s7 s)).1 = ps at hov hln HST
      generalize (its k (s7 s)).2 = u0 at hcw hsz HST
      obtain ⟨u1, hu1⟩ : ∃ u, u = nx u0 2 := ⟨_, rfl⟩
      obtain ⟨u2, hu2⟩ : ∃ u, u = nx u1 2 := ⟨_, rfl⟩
      obtain ⟨na, hna⟩ : ∃ n, n = nb u0 2 := ⟨_, rfl⟩
      obtain ⟨nt, hnt⟩ : ∃ n, n = nb u1 2 := ⟨_, rfl⟩
      obtain ⟨u3, hu3⟩ : ∃ u, u = nx u2 na := ⟨_, rfl⟩
      have l0 := nb_lt u0 2
      have l1 := nb_lt u1 2
      rw [← hna] at l0
      rw [← hnt] at l1
      have q0 : u0.1.size ≤ 1048576 := by omega
      have q1 : u1.1.size ≤ 1048576 := by rw [hu1]; exact Nat.le_trans (nx_size _ _) q0
      have q2 : u2.1.size ≤ 1048576 := by rw [hu2]; exact Nat.le_trans (nx_size _ _) q1
      have q3 : u3.1.size ≤ 1048576 := by rw [hu3]; exact Nat.le_trans (nx_size _ _) q2
      rw [← hu1, ← hu2, ← hna, ← hnt, ← hu3] at HST
      have HU : Hid (u1 = nx u0 2 ∧ u2 = nx u1 2 ∧ na = nb u0 2 ∧ nt = nb u1 2 ∧ u3 = nx u2 na) := ⟨hu1, hu2, hna, hnt, hu3⟩
      clear hu1 hu2 hna hnt hu3 hsz hs7
      have HCW : Hid (Cut wr C u0.1 u0.2) := hcw
      have HMW : Hid (B6 wr M 104 (.int .i64 k0) (.int .i64 k5) (.int .i64 k1) (.int .i64 k2) (.string bx) v ∧ B6 wr w.heap.size 104 (.int .i64 0) (.int .i64 0) (.int .i64 0) (.int .i64 0) (.string ⟨#[]⟩) (.slice none 0 0) ∧ Rows2 wr (M + 1) v ps ∧ w.grownBy wr (some C)) := ⟨hmw, hrw, hov, hgw⟩
      clear hcw hmw hrw hov hgw
      go_wp2_with fail
      refine (number_any C u0.1 u0.2 2 wr HCW.out q0 (by omega)).mono ?_
      rintro e wa ⟨rfl, hca, hga⟩
      have CA := cut_nx hca
      rw [← HU.out.1] at CA
      rw [show numB (tk u0.1 2) = nb u0 2 from rfl, ← HU.out.2.2.1]
      have HCA : Hid (Cut wa C u1.1 u1.2 ∧ wr.grownBy wa (some C)) := ⟨CA, hga⟩
      clear hca hga CA HCW
      go_wp2_with fail
      refine (number_any C u1.1 u1.2 2 wa HCA.out.1 q1 (by omega)).mono ?_
      rintro e wb ⟨rfl, hcb, hgb⟩
      have CB := cut_nx hcb
      rw [← HU.out.2.1] at CB
      rw [show numB (tk u1.1 2) = nb u1 2 from rfl, ← HU.out.2.2.2.1]
      have gB := ow.grown_trans HCA.out.2 hgb
      have MB := HMW.out.1.keep gB (by omega)
      have HB : Hid (Cut wb C u2.1 u2.2 ∧ wr.grownBy wb (some C)) := ⟨CB, gB⟩
      clear hcb hgb CB gB HCA
      go_upto_region 8 with fail
      obtain ⟨ky, hky⟩ : ∃ x, x = tk u2.1 na := ⟨_, rfl⟩
      obtain ⟨tx, htx⟩ : ∃ x, x = tk u3.1 nt := ⟨_, rfl⟩
      rw [← hky, ← htx] at HST
      have m5 : wb.cell? ⟨M, 0 + 5, none⟩ = some v := MB.cell 5 _ rfl
      obtain ⟨av, nv, cv, rfl⟩ : ∃ a n c, v = .slice a n c := by
        rcases HMW.out.2.2.1.2 with ⟨rfl, _⟩ | ⟨g, cap, cur, rfl, _⟩
        · exact ⟨_, _, _, rfl⟩
        · exact ⟨_, _, _, rfl⟩
      have hJ0 : ∀ f : Nat → Value, J ⟨w, C, M, .int .i64 k0, .int .i64 k5, .int .i64 k1, .int .i64 k2, .string bx, .slice av nv cv, u2, u3, nx u3 nt, ps, ky, tx, na, nt⟩ (fun _ => False) f wb.drew := fun f => by
        have hgd : wb.grownBy wb.drew (some C) := ⟨rfl, rfl, rfl, Nat.le_refl _, fun _ _ _ => rfl⟩
        have g1 := ow.grown_trans HB.out.2 hgd
        refine ⟨fun j hj => hj.elim, 0, by simp, by simp, by simp, by simp, by simp, ow.grown_trans HMW.out.2.2.2 g1, HMW.out.2.1.keep g1 (by omega), fun _ => HB.out.1, fun h => by omega, fun h => by omega, fun _ => HMW.out.1.keep g1 (by omega), fun h => by omega, fun _ => HMW.out.2.2.1.kept g1 (own_ne HMW.out.2.2.1 (by omega)), fun h => by omega, fun h => by omega⟩
      have HKT : Hid (ky = tk u2.1 na ∧ tx = tk u3.1 nt) := ⟨hky, htx⟩
      have hCw : C ≠ w.heap.size := by omega
      have hCM : C ≠ M := by omega
      have hCM1 : C < M + 1 := by omega
      have hwM : w.heap.size ≠ M := by omega
      have hwle : w.heap.size ≤ M := by omega
      have hwM1 : w.heap.size < M + 1 := by omega
      have keepCut : ∀ {a : World} {r : ByteArray} {sh : Bool} {row : Obj}, Cut a C r sh → a.grownBy (a.alloc row) (some C) → Cut (a.alloc row) C r sh := fun {a r sh row} hc hg => (Below.heap_alloc _ _ _ hc.lt).trans hc
      clear MB m5 hky htx
      refine rs.region_st (by kernel_rfl) (fun f => { tmps := #[.pointer (some ⟨C, 0, none⟩), undef, .pointer (some ⟨w.heap.size, 0, none⟩), .pointer (some ⟨M, 0, none⟩), .int .i64 k3, .int .i64 k4, .int .i64 na, .int .i64 nt, .pointer (some ⟨C, 0, none⟩), .int .i64 k0, .pointer (some ⟨C, 0, none⟩), .int .i64 k1, .pointer (some ⟨C, 0, none⟩), .int .i64 k2, .agg #[.int .i64 k0, .int .i64 0, .int .i64 k1, .int .i64 k2, .string ⟨#[]⟩, .slice none 0 0], .pointer (some ⟨C, 0, none⟩), .int .i64 k3, .pointer (some ⟨C, 0, none⟩), .int .i64 k4, .pointer (some ⟨C, 0, none⟩), .int .i64 k5, .pointer (some ⟨M, 1, none⟩), .pointer (some ⟨C, 0, none⟩), .int .i64 k4, .string bx, .pointer (some ⟨M, 4, none⟩), .int .i64 k3, .int .i64 k, .bool true, .pointer (some ⟨C, 0, none⟩), .int .i64 na, .pointer (some ⟨C, 0, none⟩), .int .i64 nt, f 0, f 1, f 2, f 3, f 4, f 5, f 6, f 7, f 8, f 9, f 10, f 11, u45, undef], defers := [] }) (J ⟨w, C, M, .int .i64 k0, .int .i64 k5, .int .i64 k1, .int .i64 k2, .string bx, .slice av nv cv, u2, u3, nx u3 nt, ps, ky, tx, na, nt⟩) (fun k => ([u33, u34, u35, u36, u37, u38, u39, u40, u41, u42, u43, u44] : List Value).getD k undef) rfl (hJ0 _) (rs.deps_of (by kernel_rfl)) ?_ ?_
      · intro i o ho D f x hJ hall hni hcl
        match i, ho with
        | 0, ho =>
          cases ho
          have HJ : Hid (J ⟨w, C, M, .int .i64 k0, .int .i64 k5, .int .i64 k1, .int .i64 k2, .string bx, .slice av nv cv, u2, u3, nx u3 nt, ps, ky, tx, na, nt⟩ D f x) := hJ
          clear hJ hall hcl hni
          refine wpOp_step rfl (fun K' hK => ?_)
          go_simp
          exact hK _ _ ⟨.pointer (some ⟨M, 0 + 5, none⟩), by simp [rs.upd], HJ.out.pure _ (fun z hz => Option.some.inj hz) (by omega) (by omega) (by omega) (by omega) (by omega)⟩
        | 1, ho =>
          cases ho
          have d0 : D 0 := hall { on := 0, ground := Ground.data } (by simp) rfl
          have h0 : f 0 = .pointer (some ⟨M, 0 + 5, none⟩) := hJ.1 0 d0 _ rfl
          have hn12 : ¬ D 12 := fun h => hni (hcl 12 _ h rfl { on := 1, ground := Ground.phase } (by simp) rfl)
          obtain ⟨hv, ph, e4, e7, e9, e10, e12, hf⟩ := id hJ
          have hB := hf.2.2.2.2.2.1 (by have := mt e12.2 hn12; omega)
          have c5 : x.cell? ⟨M, 0 + 5, none⟩ = some (.slice av nv cv) := hB.cell 5 _ rfl
          have HJ : Hid (J ⟨w, C, M, .int .i64 k0, .int .i64 k5, .int .i64 k1, .int .i64 k2, .string bx, .slice av nv cv, u2, u3, nx u3 nt, ps, ky, tx, na, nt⟩ D f x) := hJ
          clear hJ hall hcl hni hv e4 e7 e9 e10 e12 hf hB
          refine wpOp_step rfl (fun K' hK => ?_)
          simp only [h0]
          go_wp2_with fail
          exact ⟨.slice av nv cv, by simp [rs.upd, h0], HJ.out.pure _ (fun z hz => Option.some.inj hz) (by omega) (by omega) (by omega) (by omega) (by omega)⟩
        | 2, ho =>
          cases ho
          have HJ : Hid (J ⟨w, C, M, .int .i64 k0, .int .i64 k5, .int .i64 k1, .int .i64 k2, .string bx, .slice av nv cv, u2, u3, nx u3 nt, ps, ky, tx, na, nt⟩ D f x) := hJ
          clear hJ hall hcl hni
          refine wpOp_step rfl (fun K' hK => ?_)
          go_simp
          exact hK _ _ ⟨.pointer (some ⟨C, 0, none⟩), by simp [rs.upd], HJ.out.pure _ (fun z hz => Option.some.inj hz) (by omega) (by omega) (by omega) (by omega) (by omega)⟩
        | 3, ho =>
          cases ho
          have HJ : Hid (J ⟨w, C, M, .int .i64 k0, .int .i64 k5, .int .i64 k1, .int .i64 k2, .string bx, .slice av nv cv, u2, u3, nx u3 nt, ps, ky, tx, na, nt⟩ D f x) := hJ
          clear hJ hall hcl hni
          refine wpOp_step rfl (fun K' hK => ?_)
          go_simp
          exact hK _ _ ⟨.int .i64 na, by simp [rs.upd], HJ.out.pure _ (fun z hz => Option.some.inj hz) (by omega) (by omega) (by omega) (by omega) (by omega)⟩
        | 4, ho =>
          cases ho
          have d2 : D 2 := hall { on := 2, ground := Ground.data } (by simp) rfl
          have h2 : f 2 = .pointer (some ⟨C, 0, none⟩) := hJ.1 2 d2 _ rfl
          have d3 : D 3 := hall { on := 3, ground := Ground.data } (by simp) rfl
          have h3 : f 3 = .int .i64 na := hJ.1 3 d3 _ rfl
          obtain ⟨hv, ph, e4, e7, e9, e10, e12, hf⟩ := hJ
          have hp : ph = 0 := by
            have q1 := mt e4.2 hni
            skip
            omega
          subst hp
          obtain ⟨fg, fz, fc0, fc1, fc2, fm, fm', fr, fr', f9⟩ := hf
          have HC : Hid (Calls Tryz.prog 117 #[.pointer (some ⟨C, 0, none⟩), .int .i64 na] x fun e w' => e = .returned (.string ky) ∧ Fa ⟨w, C, M, .int .i64 k0, .int .i64 k5, .int .i64 k1, .int .i64 k2, .string bx, .slice av nv cv, u2, u3, nx u3 nt, ps, ky, tx, na, nt⟩ (0 + 1) (f 9) (f 10) w') := by
            refine (text_any C u2.1 u2.2 na x (fc0 rfl) q2 (by omega)).mono fun e w' ⟨he, hc', hg'⟩ => ⟨by rw [he, HKT.out.1], ?_⟩
            refine ⟨ow.grown_trans fg hg', fz.keep hg' hCw, fun h => by omega, fun h => by have := cut_nx hc'; rw [← HU.out.2.2.2.2] at this; exact this, fun h => by omega, fun h => (fm (by omega)).keep hg' hCM, fun h => by omega, fun h => (fr (by omega)).kept hg' (own_ne (fr (by omega)) hCM1), fun h => by omega, fun h => by omega⟩
          have HF : Hid (∀ w', Fa ⟨w, C, M, .int .i64 k0, .int .i64 k5, .int .i64 k1, .int .i64 k2, .string bx, .slice av nv cv, u2, u3, nx u3 nt, ps, ky, tx, na, nt⟩ (0 + 1) (f 9) (f 10) w' → J ⟨w, C, M, .int .i64 k0, .int .i64 k5, .int .i64 k1, .int .i64 k2, .string bx, .slice av nv cv, u2, u3, nx u3 nt, ps, ky, tx, na, nt⟩ (fun j => j = 4 ∨ D j) (rs.upd f 4 (.string ky)) w') := fun w' h => J.step _ hv (fun z hz => Option.some.inj hz) e4 e7 e9 e10 e12 (by omega) (by rw [rs.upd_other _ _ _ (by omega), rs.upd_other _ _ _ (by omega)]; exact h)
          clear hall hcl hni hv e4 e7 e9 e10 e12 fg fz fc0 fc1 fc2 fm fm' fr fr' f9
          refine wpOp_step rfl (fun K' hK => ?_)
          simp only [h2, h3]
          go_wp2_with (go_at_call 117; refine HC.out.mono ?_; rintro e w' ⟨rfl, hf'⟩)
          exact ⟨.string ky, by simp [rs.upd, h2, h3], HF.out _ hf'⟩
        | 5, ho =>
          cases ho
          have HJ : Hid (J ⟨w, C, M, .int .i64 k0, .int .i64 k5, .int .i64 k1, .int .i64 k2, .string bx, .slice av nv cv, u2, u3, nx u3 nt, ps, ky, tx, na, nt⟩ D f x) := hJ
          clear hJ hall hcl hni
          refine wpOp_step rfl (fun K' hK => ?_)
          go_simp
          exact hK _ _ ⟨.pointer (some ⟨C, 0, none⟩), by simp [rs.upd], HJ.out.pure _ (fun z hz => Option.some.inj hz) (by omega) (by omega) (by omega) (by omega) (by omega)⟩
        | 6, ho =>
          cases ho
          have HJ : Hid (J ⟨w, C, M, .int .i64 k0, .int .i64 k5, .int .i64 k1, .int .i64 k2, .string bx, .slice av nv cv, u2, u3, nx u3 nt, ps, ky, tx, na, nt⟩ D f x) := hJ
          clear hJ hall hcl hni
          refine wpOp_step rfl (fun K' hK => ?_)
          go_simp
          exact hK _ _ ⟨.int .i64 nt, by simp [rs.upd], HJ.out.pure _ (fun z hz => Option.some.inj hz) (by omega) (by omega) (by omega) (by omega) (by omega)⟩
        | 7, ho =>
          cases ho
          have d5 : D 5 := hall { on := 5, ground := Ground.data } (by simp) rfl
          have h5 : f 5 = .pointer (some ⟨C, 0, none⟩) := hJ.1 5 d5 _ rfl
          have d6 : D 6 := hall { on := 6, ground := Ground.data } (by simp) rfl
          have h6 : f 6 = .int .i64 nt := hJ.1 6 d6 _ rfl
          obtain ⟨hv, ph, e4, e7, e9, e10, e12, hf⟩ := hJ
          have hp : ph = 1 := by
            have q1 := mt e7.2 hni
            have q2 := e4.1 (hall { on := 4, ground := Ground.chain } (by simp) rfl)
            omega
          subst hp
          obtain ⟨fg, fz, fc0, fc1, fc2, fm, fm', fr, fr', f9⟩ := hf
          have HC : Hid (Calls Tryz.prog 117 #[.pointer (some ⟨C, 0, none⟩), .int .i64 nt] x fun e w' => e = .returned (.string tx) ∧ Fa ⟨w, C, M, .int .i64 k0, .int .i64 k5, .int .i64 k1, .int .i64 k2, .string bx, .slice av nv cv, u2, u3, nx u3 nt, ps, ky, tx, na, nt⟩ (1 + 1) (f 9) (f 10) w') := by
            refine (text_any C u3.1 u3.2 nt x (fc1 rfl) q3 (by omega)).mono fun e w' ⟨he, hc', hg'⟩ => ⟨by rw [he, HKT.out.2], ?_⟩
            refine ⟨ow.grown_trans fg hg', fz.keep hg' hCw, fun h => by omega, fun h => by omega, fun h => cut_nx hc', fun h => (fm (by omega)).keep hg' hCM, fun h => by omega, fun h => (fr (by omega)).kept hg' (own_ne (fr (by omega)) hCM1), fun h => by omega, fun h => by omega⟩
          have HF : Hid (∀ w', Fa ⟨w, C, M, .int .i64 k0, .int .i64 k5, .int .i64 k1, .int .i64 k2, .string bx, .slice av nv cv, u2, u3, nx u3 nt, ps, ky, tx, na, nt⟩ (1 + 1) (f 9) (f 10) w' → J ⟨w, C, M, .int .i64 k0, .int .i64 k5, .int .i64 k1, .int .i64 k2, .string bx, .slice av nv cv, u2, u3, nx u3 nt, ps, ky, tx, na, nt⟩ (fun j => j = 7 ∨ D j) (rs.upd f 7 (.string tx)) w') := fun w' h => J.step _ hv (fun z hz => Option.some.inj hz) e4 e7 e9 e10 e12 (by omega) (by rw [rs.upd_other _ _ _ (by omega), rs.upd_other _ _ _ (by omega)]; exact h)
          clear hall hcl hni hv e4 e7 e9 e10 e12 fg fz fc0 fc1 fc2 fm fm' fr fr' f9
          refine wpOp_step rfl (fun K' hK => ?_)
          simp only [h5, h6]
          go_wp2_with (go_at_call 117; refine HC.out.mono ?_; rintro e w' ⟨rfl, hf'⟩)
          exact ⟨.string tx, by simp [rs.upd, h5, h6], HF.out _ hf'⟩
        | 8, ho =>
          cases ho
          have d4 : D 4 := hall { on := 4, ground := Ground.data } (by simp) rfl
          have h4 : f 4 = .string ky := hJ.1 4 d4 _ rfl
          have d7 : D 7 := hall { on := 7, ground := Ground.data } (by simp) rfl
          have h7 : f 7 = .string tx := hJ.1 7 d7 _ rfl
          have HJ : Hid (J ⟨w, C, M, .int .i64 k0, .int .i64 k5, .int .i64 k1, .int .i64 k2, .string bx, .slice av nv cv, u2, u3, nx u3 nt, ps, ky, tx, na, nt⟩ D f x) := hJ
          clear hJ hall hcl hni
          refine wpOp_step rfl (fun K' hK => ?_)
          simp only [h4, h7]
          go_simp
          exact hK _ _ ⟨.agg #[.string ky, .string tx], by simp [rs.upd, h4, h7], HJ.out.pure _ (fun z hz => Option.some.inj hz) (by omega) (by omega) (by omega) (by omega) (by omega)⟩
        | 9, ho =>
          cases ho
          have d8 : D 8 := hall { on := 8, ground := Ground.data } (by simp) rfl
          have h8 : f 8 = .agg #[.string ky, .string tx] := hJ.1 8 d8 _ rfl
          have d7 : D 7 := hcl 8 _ d8 rfl { on := 7, ground := Ground.data } (by simp) rfl
          obtain ⟨hv, ph, e4, e7, e9, e10, e12, hf⟩ := hJ
          have hp : ph = 2 := by
            have q1 := mt e9.2 hni
            have q2 := e7.1 d7
            omega
          subst hp
          obtain ⟨fg, fz, fc0, fc1, fc2, fm, fm', fr, fr', f9⟩ := hf
          have HF : Hid (J ⟨w, C, M, .int .i64 k0, .int .i64 k5, .int .i64 k1, .int .i64 k2, .string bx, .slice av nv cv, u2, u3, nx u3 nt, ps, ky, tx, na, nt⟩ (fun j => j = 9 ∨ D j) (rs.upd f 9 (.slice (some ⟨x.heap.size, 0, none⟩) 1 1)) (x.alloc (.cells #[.string ky, .string tx] 136))) := by
            have hg' : x.grownBy (x.alloc (.cells #[.string ky, .string tx] 136)) (some C) := World.grownBy_alloc _ _ _
            have hnew := (MapKept.heap_alloc x (.cells #[.string ky, .string tx] 136)).1
            refine J.step _ hv (fun z hz => by cases hz) e4 e7 e9 e10 e12 (by omega) ?_
            rw [rs.upd_same, rs.upd_other _ _ _ (by omega)]
            refine ⟨ow.grown_trans fg hg', fz.keep hg' hCw, fun h => by omega, fun h => by omega, fun h => keepCut (fc2 (by omega)) hg', fun h => (fm (by omega)).keep hg' hCM, fun h => by omega, fun h => (fr (by omega)).kept hg' (own_ne (fr (by omega)) hCM1), fun h => by omega, fun h => ⟨x.heap.size, rfl, ?_, ?_⟩⟩
            · rw [cell_of_row _ _ _ _ _ _ hnew]; rfl
            · rw [cell_of_row _ _ _ _ _ _ hnew]; rfl
          clear hall hcl hni hv e4 e7 e9 e10 e12 fg fz fc0 fc1 fc2 fm fm' fr fr' f9 d7
          refine wpOp_step rfl (fun K' hK => ?_)
          simp only [h8]
          go_wp2_with fail
          exact ⟨.slice (some ⟨x.heap.size, 0, none⟩) 1 1, by simp [rs.upd, h8], HF.out⟩
        | 10, ho =>
          cases ho
          have d1 : D 1 := hall { on := 1, ground := Ground.data } (by simp) rfl
          have h1 : f 1 = .slice av nv cv := hJ.1 1 d1 _ rfl
          have d9 : D 9 := hall { on := 9, ground := Ground.data } (by simp) rfl
          obtain ⟨hv, ph, e4, e7, e9, e10, e12, hf⟩ := hJ
          have hp : ph = 3 := by
            have q1 := mt e10.2 hni
            have q2 := e9.1 d9
            omega
          subst hp
          obtain ⟨fg, fz, fc0, fc1, fc2, fm, fm', fr, fr', f9⟩ := hf
          obtain ⟨g, h9, hc0, hc1⟩ := f9 rfl
          have fr0 := fr (by omega)
          have HF : Hid (∀ v' w', w'.ownsRow (M + 1) 136 2 v' (ps.length + 1) (icells ps ++ [.string ky, .string tx]) → x.grownBy w' (Value.slice av nv cv).ownBlock → J ⟨w, C, M, .int .i64 k0, .int .i64 k5, .int .i64 k1, .int .i64 k2, .string bx, .slice av nv cv, u2, u3, nx u3 nt, ps, ky, tx, na, nt⟩ (fun j => j = 10 ∨ D j) (rs.upd f 10 v') w') := by
            intro v' w' hown hg
            have off : ∀ q, q < M + 1 → some q ≠ (Value.slice av nv cv).ownBlock := fun q hq e => by have : M + 1 ≤ q := (fr0.lt q e.symm).1; omega
            have hgw : w.grownBy w' (some C) := ⟨hg.os.trans fg.os, hg.tape.trans fg.tape, hg.output.trans fg.output, Nat.le_trans fg.size hg.size, fun i hi hr => (hg.block i (Nat.lt_of_lt_of_le hi fg.size) (off i (by omega))).trans (fg.block i hi hr)⟩
            refine J.step _ hv (fun z hz => by cases hz) e4 e7 e9 e10 e12 (by omega) ?_
            rw [rs.upd_same, rs.upd_other _ _ _ (by omega)]
            refine ⟨hgw, (hg.block _ fz.lt (off w.heap.size hwM1)).trans fz, fun h => by omega, fun h => by omega, fun h => (hg.block _ (fc2 (by omega)).lt (off C hCM1)).trans (fc2 (by omega)), fun h => (hg.block _ (fm (by omega)).lt (off M (Nat.lt_succ_self M))).trans (fm (by omega)), fun h => by omega, fun h => by omega, fun h => ?_, fun h => by omega⟩
            unfold Rows2
            rw [icells_snoc, List.length_append]
            exact hown
          have hbs : M + 1 ≤ x.heap.size := (fm (by omega)).lt
          clear hall hcl hni hv e4 e7 e9 e10 e12 fg fz fc0 fc1 fc2 fm fm' fr fr' f9
          refine wpOp_step rfl (fun K' hK => ?_)
          rw [if_pos (by rfl)]
          refine wp_append_own x (.tmp 34) (.tmp 42) 102 rfl (M + 1) 136 i0 _ 2 32 Tryz.underlying102 hi hz0 hz1 hz2 rfl (by decide) (.slice av nv cv) ps.length (icells ps) (show f 1 = _ from h1) fr0 ⟨g, 0, none⟩ 1 1 [.string ky, .string tx] (show f 9 = _ from h9) rfl ?_ ?_ (by unfold maxLen; omega) (by omega) hbs ?_
          · intro j u hu
            match j, hu with
            | 0, hu => cases hu; exact hc0
            | 1, hu => cases hu; exact hc1
            | j + 2, hu => simp at hu
          · intro u hu
            simp at hu
            rcases hu with rfl | rfl <;> rfl
          · intro v' w' hown hg hnil
            exact hK _ _ ⟨v', rfl, HF.out v' w' hown hg⟩
        | 11, ho =>
          cases ho
          have HJ : Hid (J ⟨w, C, M, .int .i64 k0, .int .i64 k5, .int .i64 k1, .int .i64 k2, .string bx, .slice av nv cv, u2, u3, nx u3 nt, ps, ky, tx, na, nt⟩ D f x) := hJ
          clear hJ hall hcl hni
          refine wpOp_step rfl (fun K' hK => ?_)
          go_simp
          exact hK _ _ ⟨.pointer (some ⟨M, 0 + 5, none⟩), by simp [rs.upd], HJ.out.pure _ (fun z hz => Option.some.inj hz) (by omega) (by omega) (by omega) (by omega) (by omega)⟩
        | 12, ho =>
          cases ho
          have d11 : D 11 := hall { on := 11, ground := Ground.data } (by simp) rfl
          have h11 : f 11 = .pointer (some ⟨M, 0 + 5, none⟩) := hJ.1 11 d11 _ rfl
          have d10 : D 10 := hall { on := 10, ground := Ground.data } (by simp) rfl
          obtain ⟨hv, ph, e4, e7, e9, e10, e12, hf⟩ := hJ
          have hp : ph = 4 := by
            have q1 := mt e12.2 hni
            have q2 := e10.1 d10
            omega
          subst hp
          obtain ⟨fg, fz, fc0, fc1, fc2, fm, fm', fr, fr', f9⟩ := hf
          have fr0 := fr' (by omega)
          obtain ⟨a', n', c', h10⟩ : ∃ a n c, f 10 = .slice a n c := by
            rcases fr0.2 with ⟨e, _⟩ | ⟨g, cap, cur, e, _⟩
            · exact ⟨_, _, _, e⟩
            · exact ⟨_, _, _, e⟩
          have hB := fm (by omega)
          have m5 : x.cell? ⟨M, 0 + 5, none⟩ = _ := hB.cell 5 _ rfl
          have m5' : x.cell? ⟨M, 5, none⟩ = _ := hB.cell 5 _ rfl
          have fM := hB.f
          have HF : Hid (J ⟨w, C, M, .int .i64 k0, .int .i64 k5, .int .i64 k1, .int .i64 k2, .string bx, .slice av nv cv, u2, u3, nx u3 nt, ps, ky, tx, na, nt⟩ (fun j => j = 12 ∨ D j) (rs.upd f 12 undef) (x.setCell ⟨M, 5, none⟩ (.slice a' n' c'))) := by
            have hg' := grown_cell x M 5 (.slice a' n' c')
            refine J.step _ hv (fun z hz => by cases hz) e4 e7 e9 e10 e12 (by omega) ?_
            rw [rs.upd_other _ _ _ (by omega), rs.upd_other _ _ _ (by omega), h10]
            rw [h10] at fr0
            refine ⟨grown_in fg hg' hwle, fz.other M 5 _ hwM, fun h => by omega, fun h => by omega, fun h => (fc2 (by omega)).other M 5 _ hCM, fun h => by omega, fun h => hB.put5 _, fun h => by omega, fun h => fr0.kept hg' (own_ne fr0 (Nat.lt_succ_self M)), fun h => by omega⟩
          clear hall hcl hni hv e4 e7 e9 e10 e12 fg fz fc0 fc1 fc2 fm fm' fr fr' f9 fr0 hB
          refine wpOp_step rfl (fun K' hK => ?_)
          simp only [h11, h10]
          go_wp2_with fail
          exact ⟨undef, by simp [rs.upd, h11, h10], HF.out⟩
        | k + 13, ho => simp at ho
      · intro D f x hD hJ
        obtain ⟨hv, ph, e4, e7, e9, e10, e12, hf⟩ := hJ
        have hp := e12.1 (hD 12 (by decide))
        obtain ⟨fg, fz, fc0, fc1, fc2, fm, fm', fr, fr', f9⟩ := hf
        have HE1 : Hid (w.grownBy x (some C) ∧ Zero x w.heap.size ∧ Cut x C (nx u3 nt).1 (nx u3 nt).2 ∧ B6 x M 104 (.int .i64 k0) (.int .i64 k5) (.int .i64 k1) (.int .i64 k2) (.string bx) (f 10) ∧ Rows2 x (M + 1) (f 10) (ps ++ [(ky, tx)])) := ⟨fg, fz, fc2 (by omega), fm' hp, fr' (by omega)⟩
        clear hv e4 e7 e9 e10 e12 hp fg fz fc0 fc1 fc2 fm fm' fr fr' f9 hJ0
        go_wp2
        go_roundw
        case rel => exact ⟨k + 1, f 10, by omega, by go_num, by rw [HST.out]; exact HE1.out.2.2.1, HE1.out.2.2.2.1, HE1.out.2.1, by rw [HST.out]; exact HE1.out.2.2.2.2, HE1.out.1⟩
        case measure => simp [intOf]; omega
    · have hke : k = k3 := by omega
      rw [hke] at hcw hov
      obtain ⟨av, nv, cv, rfl⟩ : ∃ a n c, v = .slice a n c := by
        rcases hov.2 with ⟨rfl, _⟩ | ⟨g, cap, cur, rfl, _⟩
        · exact ⟨_, _, _, rfl⟩
        · exact ⟨_, _, _, rfl⟩
      have HEND : Hid (mu.MV (mtn s) (.slice av nv cv) = .agg #[.int .i64 k0, .int .i64 k5, .int .i64 k1, .int .i64 k2, .string bx, .slice av nv cv] ∧ (its k3 (s7 s)).1 = (mtn s).ps ∧ (its k3 (s7 s)).2 = fin s) := by
        refine ⟨?_, ?_, ?_⟩
        · unfold mu.MV mtn
          rw [HE.out.1, HE.out.2.1, HE.out.2.2.1, HE.out.2.2.2.2.2, HBX.out, HE.out.2.2.2.2.1]
        · unfold mtn
          rw [HE.out.2.2.2.1]
        · unfold fin
          rw [HE.out.2.2.2.1]
      have HW : Hid (Rows2 (put6 wr w.heap.size (.int .i64 k0) (.int .i64 k5) (.int .i64 k1) (.int .i64 k2) (.string bx) (.slice av nv cv)) w.heap.size (.slice av nv cv) (its k3 (s7 s)).1 ∧ Cut (put6 wr w.heap.size (.int .i64 k0) (.int .i64 k5) (.int .i64 k1) (.int .i64 k2) (.string bx) (.slice av nv cv)) C (its k3 (s7 s)).2.1 (its k3 (s7 s)).2.2 ∧ w.grownBy (put6 wr w.heap.size (.int .i64 k0) (.int .i64 k5) (.int .i64 k1) (.int .i64 k2) (.string bx) (.slice av nv cv)) (some C)) := by
        have hg := put6_grown wr w.heap.size (.int .i64 k0) (.int .i64 k5) (.int .i64 k1) (.int .i64 k2) (.string bx) (.slice av nv cv)
        exact ⟨own_low (hov.kept hg (own_ne hov (by omega))) (by omega), (hg.block C hcw.lt (by simp; omega)).trans hcw, grown_in hgw hg (Nat.le_refl _)⟩
      have A5 := hrw.put (a := .int .i64 k0) (b := .int .i64 k5) (c := .int .i64 k1) (d := .int .i64 k2) (e := .string bx) (f := .slice av nv cv)
      have a0 : wr.cell? ⟨M, 0, none⟩ = _ := hmw.cell 0 _ rfl
      have a1 : wr.cell? ⟨M, 0 + 1, none⟩ = _ := hmw.cell 1 _ rfl
      have a2 : wr.cell? ⟨M, 0 + 2, none⟩ = _ := hmw.cell 2 _ rfl
      have a3 : wr.cell? ⟨M, 0 + 3, none⟩ = _ := hmw.cell 3 _ rfl
      have a4 : wr.cell? ⟨M, 0 + 4, none⟩ = _ := hmw.cell 4 _ rfl
      have a5 : wr.cell? ⟨M, 0 + 5, none⟩ = _ := hmw.cell 5 _ rfl
      have b0 : wr.cell? ⟨w.heap.size, 0, none⟩ = _ := hrw.cell 0 _ rfl
      have b1 : wr.cell? ⟨w.heap.size, 0 + 1, none⟩ = _ := hrw.cell 1 _ rfl
      have b2 : wr.cell? ⟨w.heap.size, 0 + 2, none⟩ = _ := hrw.cell 2 _ rfl
      have b3 : wr.cell? ⟨w.heap.size, 0 + 3, none⟩ = _ := hrw.cell 3 _ rfl
      have b4 : wr.cell? ⟨w.heap.size, 0 + 4, none⟩ = _ := hrw.cell 4 _ rfl
      have b5 : wr.cell? ⟨w.heap.size, 0 + 5, none⟩ = _ := hrw.cell 5 _ rfl
      have fz := hrw.f
      have hlt' : ¬ (k : Int) < (k3 : Int) := by omega
      clear hcw hov hmw hrw hgw hke
      go_wp2
      change bodyPost _ _ _ _ _ (put6 wr w.heap.size (.int .i64 k0) (.int .i64 k5) (.int .i64 k1) (.int .i64 k2) (.string bx) (.slice av nv cv))
      generalize put6 _ _ _ _ _ _ _ _ = W5 at A5 HW ⊢
      have d0 : W5.cell? ⟨w.heap.size, 0, none⟩ = _ := A5.cell 0 _ rfl
      have d1 : W5.cell? ⟨w.heap.size, 0 + 1, none⟩ = _ := A5.cell 1 _ rfl
      have d2 : W5.cell? ⟨w.heap.size, 0 + 2, none⟩ = _ := A5.cell 2 _ rfl
      have d3 : W5.cell? ⟨w.heap.size, 0 + 3, none⟩ = _ := A5.cell 3 _ rfl
      have d4 : W5.cell? ⟨w.heap.size, 0 + 4, none⟩ = _ := A5.cell 4 _ rfl
      have d5 : W5.cell? ⟨w.heap.size, 0 + 5, none⟩ = _ := A5.cell 5 _ rfl
      exact bodyPost_ret (v := .agg #[.int .i64 k0, .int .i64 k5, .int .i64 k1, .int .i64 k2, .string bx, .slice av nv cv]) (by simp [results, Tryz.results95, go_sem, d0, d1, d2, d3, d4, d5]) rfl ⟨_, by rw [HEND.out.1], by rw [← HEND.out.2.1]; exact HW.out.1, by rw [← HEND.out.2.2]; exact HW.out.2.1, HW.out.2.2⟩
end Go.Proofs.YtncnbhekgkemfaaGreatDoor.rm
