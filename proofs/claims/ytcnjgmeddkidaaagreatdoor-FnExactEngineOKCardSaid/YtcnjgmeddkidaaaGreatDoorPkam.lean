/-
  A box, copied by the program into memory of its own.
  The program's own test of a box, as a whole.
-/
import Derived.Test.YtcnjgmeddkidaaaGreatDoorPkaf
import Derived.Test.YtcnjgmeddkidaaaGreatDoorPkal
import Derived.Deep.DeepCutAuto
import Derived.Deep.Cut
import Derived.Deep.CutRange
import Derived.Deep.RegionWith

namespace Go.Proofs.YtcnjgmeddkidaaaGreatDoor.bx
open Go.RowKit Go.Deep
open st
set_option linter.unusedVariables false

theorem list_set_same {α : Type} {l : List α} {i : Nat} {a : α} (h : l[i]? = some a) : l.set i a = l := by
  refine List.ext_getElem? fun j => ?_
  by_cases e : j = i
  · subst e
    rw [List.getElem?_set_self (List.getElem?_eq_some_iff.1 h).1, h]
  · rw [List.getElem?_set_ne (Ne.symm e)]
theorem own_low {w : World} {b base e size n : Nat} {v : Value} {xs : List Value} (h : w.ownsRow base e size v n xs) (hb : b ≤ base) : w.ownsRow b e size v n xs :=
  ⟨h.1, h.2.imp id fun ⟨g, cap, cur, he, hb', r⟩ => ⟨g, cap, cur, he, Nat.le_trans hb hb', r⟩⟩
/-- A box variable that is written: its cells. -/
theorem Lies.put0 {w : World} {b : Nat} {T : TypeId} {x : Bx} {v u : Value} (h : Lies w b T x v u) : Lies (w.setCell ⟨b, 0, none⟩ (.string x.nm)) b T x v u := heap_setCell_same _ b 0 _ _ _ h
theorem Lies.put3 {w : World} {b : Nat} {T : TypeId} {x : Bx} {v u : Value} (h : Lies w b T x v u) (v' : Value) : Lies (w.setCell ⟨b, 3, none⟩ v') b T x v' u := heap_setCell_same _ b 3 _ _ _ h
theorem Lies.put4 {w : World} {b : Nat} {T : TypeId} {x : Bx} {v u : Value} (h : Lies w b T x v u) (u' : Value) : Lies (w.setCell ⟨b, 4, none⟩ u') b T x v u' := heap_setCell_same _ b 4 _ _ _ h
theorem Lies.other {w : World} {b q j : Nat} {T : TypeId} {x : Bx} {v u y : Value} (h : Lies w b T x v u) (hne : b ≠ q) : Lies (w.setCell ⟨q, j, none⟩ y) b T x v u := by
  unfold Lies
  rw [heap_setCell_other _ _ _ _ hne]
  exact h
theorem Lies.f {w : World} {b : Nat} {T : TypeId} {x : Bx} {v u : Value} (h : Lies w b T x v u) (j : Nat) : w.frozen? ⟨b, j, none⟩ = false := frozen_of_row _ _ _ _ _ h
/-- A row and a box's variable lie apart. -/
theorem row_box {x : World} {b1 e1 s1 n1 G : Nat} {v : Value} {xs : List Value} {m : Bx} {v1 u1 : Value} (h : x.ownsRow b1 e1 s1 v n1 xs) (h2 : Lies x G 54 m v1 u1) (hne : e1 ≠ 54) : v.ownBlock ≠ some G := by
  intro hk
  rcases h.2 with ⟨rfl, _⟩ | ⟨g, cap, cur, rfl, _, hb, _⟩
  · simp [Value.ownBlock] at hk
  · have e : g = G := by simpa [Value.ownBlock] using hk
    subst e
    unfold Lies at h2
    rw [h2] at hb
    simp at hb
    exact hne hb.2.symm
theorem own_cell {x : World} {B e s n g m c q j : Nat} {xs : List Value} {y : Value} (h : x.ownsRow B e s (.slice (some ⟨g, 0, none⟩) m c) n xs) (hne : g ≠ q) : (x.setCell ⟨q, j, none⟩ y).ownsRow B e s (.slice (some ⟨g, 0, none⟩) m c) n xs := by
  obtain ⟨h1, h2⟩ := h
  refine ⟨h1, ?_⟩
  rcases h2 with ⟨e, hz⟩ | ⟨g', cap, cur, e, hB, hh, r⟩
  · exact .inl ⟨e, hz⟩
  · cases e
    exact .inr ⟨g, _, cur, rfl, hB, (heap_setCell_other _ _ _ _ hne).trans hh, r⟩
theorem own_var {x : World} {B e s n G j : Nat} {v : Value} {xs : List Value} {y : Value} {m : Bx} {v1 u1 : Value} (h : x.ownsRow B e s v n xs) (h2 : Lies x G 54 m v1 u1) (hne : e ≠ 54) : (x.setCell ⟨G, j, none⟩ y).ownsRow B e s v n xs := by
  have hr := row_box h h2 hne
  obtain ⟨h1, h3⟩ := id h
  rcases h3 with ⟨e, hz⟩ | ⟨g', cap, cur, e, hB, hh, r⟩
  · exact ⟨h1, .inl ⟨e, hz⟩⟩
  · subst e
    exact own_cell h (fun e => hr (by rw [e]; rfl))
theorem own_grown {x x' : World} {B e s n : Nat} {v : Value} {xs : List Value} {G : Nat} (h : x.ownsRow B e s v n xs) (hg : x.grownBy x' (some G)) (hne : v.ownBlock ≠ some G) : x'.ownsRow B e s v n xs := h.kept hg (.inr hne)
/-- All five cells of a box are written. -/
def put5w (w : World) (g : Nat) (a b c d e : Value) : World := ((((w.setCell ⟨g, 0, none⟩ a).setCell ⟨g, 1, none⟩ b).setCell ⟨g, 2, none⟩ c).setCell ⟨g, 3, none⟩ d).setCell ⟨g, 4, none⟩ e
theorem put5w_lies {w : World} {g : Nat} {T : TypeId} {x y : Bx} {v u v' u' : Value} (h : Lies w g T x v u) : Lies (put5w w g (.string y.nm) (.int .i64 y.vd) (.int .i64 y.nx) v' u') g T y v' u' :=
  heap_setCell_same _ g 4 _ _ _ (heap_setCell_same _ g 3 _ _ _ (heap_setCell_same _ g 2 _ _ _ (heap_setCell_same _ g 1 _ _ _ (heap_setCell_same _ g 0 _ _ _ h))))
theorem put5w_below {B : Nat} {w0 w : World} {g : Nat} {a b c d e : Value} (k : Below B w0 w) (hb : B ≤ g) : Below B w0 (put5w w g a b c d e) :=
  ((((k.setCell (p := ⟨g, 0, none⟩) hb _).setCell (p := ⟨g, 1, none⟩) hb _).setCell (p := ⟨g, 2, none⟩) hb _).setCell (p := ⟨g, 3, none⟩) hb _).setCell (p := ⟨g, 4, none⟩) hb _
theorem cell_grown (w : World) (b j : Nat) (u : Value) : w.grownBy (w.setCell ⟨b, j, none⟩ u) (some b) :=
  ⟨rfl, rfl, rfl, by simp, fun k _ hk => heap_setCell_other w ⟨b, j, none⟩ k u (fun e => hk (by simp [e]))⟩
theorem put5w_grown (w : World) (g : Nat) (a b c d e : Value) : w.grownBy (put5w w g a b c d e) (some g) :=
  ow.grown_trans (ow.grown_trans (ow.grown_trans (ow.grown_trans (cell_grown w g 0 a) (cell_grown _ g 1 b)) (cell_grown _ g 2 c)) (cell_grown _ g 3 d)) (cell_grown _ g 4 e)
def B0 : Bx := ⟨⟨#[]⟩, 0, 0, [], []⟩
/-- While mails are copied one by one. -/
def Km (w : World) (y : Bx) (v u : Value) (x : World) : Prop :=
  Below w.heap.size w x ∧ Lies x w.heap.size 54 y v u ∧ Lies x (w.heap.size + 1) 54 B0 (.slice none 0 0) (.slice none 0 0) ∧ OwnM x (w.heap.size + 2) v y.ms
theorem Km.keep {w : World} {y : Bx} {v u : Value} {x x' : World} (h : Km w y v u x) (hb : Below x.heap.size x x') : Km w y v u x' :=
  ⟨h.1.trans (hb.mono h.1.size), h.2.1.keep hb, h.2.2.1.keep hb, ow.own_below h.2.2.2 hb⟩
theorem own_three {x : World} {B g c i : Nat} {ms : List St} (h : OwnM x B (.slice (some ⟨g, 0, none⟩) ms.length c) ms) (hi : i < ms.length) {e : St} (he : ms.getD i noS = e) : OwnM (((x.setCell ⟨g, i * 3, none⟩ (.int .i64 e.u)).setCell ⟨g, i * 3 + 1, none⟩ (.int .i64 e.f)).setCell ⟨g, i * 3 + 2, none⟩ (.string e.t)) B (.slice (some ⟨g, 0, none⟩) ms.length c) ms := by
  obtain ⟨h0, h1, h2⟩ := mc_at ms i hi
  rw [he] at h0 h1 h2
  have h' : x.ownsRow B 85 3 (.slice (some ⟨g, 0, none⟩) ms.length c) ms.length (mc ms) := h
  have s0 := (h'.stored (i * 3) (.int .i64 e.u)).1
  rw [list_set_same h0] at s0
  have s1 := (s0.stored (i * 3 + 1) (.int .i64 e.f)).1
  rw [list_set_same h1] at s1
  have s2 := (s1.stored (i * 3 + 2) (.string e.t)).1
  rw [list_set_same h2] at s2
  exact s2
theorem Km.put {w : World} {y : Bx} {u : Value} {x : World} {g c i : Nat} (h : Km w y (.slice (some ⟨g, 0, none⟩) y.ms.length c) u x) (hi : i < y.ms.length) {e : St} (he : y.ms.getD i noS = e) : Km w y (.slice (some ⟨g, 0, none⟩) y.ms.length c) u (((x.setCell ⟨g, i * 3, none⟩ (.int .i64 e.u)).setCell ⟨g, i * 3 + 1, none⟩ (.int .i64 e.f)).setCell ⟨g, i * 3 + 2, none⟩ (.string e.t)) := by
  have hg : w.heap.size + 2 ≤ g := (h.2.2.2.lt g rfl).1
  have n1 : w.heap.size ≠ g := by omega
  have n2 : w.heap.size + 1 ≠ g := by omega
  have hB : w.heap.size ≤ g := by omega
  exact ⟨((h.1.setCell (p := ⟨g, i * 3, none⟩) hB _).setCell (p := ⟨g, i * 3 + 1, none⟩) hB _).setCell (p := ⟨g, i * 3 + 2, none⟩) hB _, ((h.2.1.other n1).other n1).other n1, ((h.2.2.1.other n2).other n2).other n2, own_three h.2.2.2 hi he⟩
/-- While keys are. -/
def Kk (w : World) (y : Bx) (v u : Value) (x : World) : Prop := Km w y v u x ∧ OwnK x (w.heap.size + 2) u y.ks
theorem Kk.keep {w : World} {y : Bx} {v u : Value} {x x' : World} (h : Kk w y v u x) (hb : Below x.heap.size x x') : Kk w y v u x' := ⟨h.1.keep hb, ow.own_below h.2 hb⟩
theorem own_kinds {x : World} {b1 b2 e1 e2 s1 s2 n1 n2 g g2 m m2 c c2 : Nat} {xs ys : List Value} (h : x.ownsRow b1 e1 s1 (.slice (some ⟨g, 0, none⟩) m c) n1 xs) (h2 : x.ownsRow b2 e2 s2 (.slice (some ⟨g2, 0, none⟩) m2 c2) n2 ys) (hne : e1 ≠ e2) : g ≠ g2 := by
  intro e
  subst e
  rcases h.2 with ⟨e, _⟩ | ⟨g', cap, cur, e, _, hb, _⟩
  · cases e
  · cases e
    rcases h2.2 with ⟨e, _⟩ | ⟨g', cap, cur, e, _, hb', _⟩
    · cases e
    · cases e
      rw [hb] at hb'
      simp at hb'
      exact hne hb'.2
theorem own_far {x : World} {b1 b2 e1 e2 s1 s2 n1 n2 g2 m2 c2 j : Nat} {v y : Value} {xs ys : List Value} (h : x.ownsRow b1 e1 s1 v n1 xs) (h2 : x.ownsRow b2 e2 s2 (.slice (some ⟨g2, 0, none⟩) m2 c2) n2 ys) (hne : e1 ≠ e2) : (x.setCell ⟨g2, j, none⟩ y).ownsRow b1 e1 s1 v n1 xs := by
  rcases id h.2 with ⟨e, hz⟩ | ⟨g', cap, cur, e, _⟩
  · exact ⟨h.1, .inl ⟨e, hz⟩⟩
  · subst e
    exact own_cell h (own_kinds h h2 hne)
theorem Kk.put {w : World} {y : Bx} {v : Value} {x : World} {g c i : Nat} (h : Kk w y v (.slice (some ⟨g, 0, none⟩) y.ks.length c) x) (hi : i < y.ks.length) {s : ByteArray} (hs : y.ks.getD i ky.nt = s) : Kk w y v (.slice (some ⟨g, 0, none⟩) y.ks.length c) (x.setCell ⟨g, i, none⟩ (.string s)) := by
  have hg : w.heap.size + 2 ≤ g := (h.2.lt g rfl).1
  have n1 : w.heap.size ≠ g := by omega
  have n2 : w.heap.size + 1 ≠ g := by omega
  have hB : w.heap.size ≤ g := by omega
  have h0 : (y.ks.map Value.string)[i]? = some (.string s) := by
    rw [← hs]
    simp [List.getD_eq_getElem?_getD, hi]
  have h' : x.ownsRow (w.heap.size + 2) 9 1 (.slice (some ⟨g, 0, none⟩) y.ks.length c) y.ks.length (y.ks.map Value.string) := h.2
  have s0 := (h'.stored i (.string s)).1
  rw [list_set_same h0] at s0
  exact ⟨⟨h.1.1.setCell (p := ⟨g, i, none⟩) hB _, h.1.2.1.other n1, h.1.2.2.1.other n2, own_far h.1.2.2.2 h.2 (by decide)⟩, s0⟩
theorem cells3 {x : World} {B g c i : Nat} {ms : List St} (h : OwnM x B (.slice (some ⟨g, 0, none⟩) ms.length c) ms) (hi : i < ms.length) {e : St} (he : ms.getD i noS = e) : x.cell? ⟨g, i * 3, none⟩ = some (.int .i64 e.u) ∧ x.cell? ⟨g, i * 3 + 1, none⟩ = some (.int .i64 e.f) ∧ x.cell? ⟨g, i * 3 + 2, none⟩ = some (.string e.t) := by
  obtain ⟨h0, h1, h2⟩ := mc_at ms i hi
  rw [he] at h0 h1 h2
  have h' : x.ownsRow B 85 3 (.slice (some ⟨g, 0, none⟩) ms.length c) ms.length (mc ms) := h
  exact ⟨by rw [h'.cellAt _ (by omega), h0], by rw [h'.cellAt _ (by omega), h1], by rw [h'.cellAt _ (by omega), h2]⟩
theorem froz3 {x : World} {B g c : Nat} {ms : List St} (h : OwnM x B (.slice (some ⟨g, 0, none⟩) ms.length c) ms) (j : Nat) : x.frozen? ⟨g, j, none⟩ = false := by
  have h' : x.ownsRow B 85 3 (.slice (some ⟨g, 0, none⟩) ms.length c) ms.length (mc ms) := h
  exact h'.frozenAt j
theorem cell1 {x : World} {B g c i : Nat} {ks : List ByteArray} (h : OwnK x B (.slice (some ⟨g, 0, none⟩) ks.length c) ks) (hi : i < ks.length) {s : ByteArray} (hs : ks.getD i ky.nt = s) : x.cell? ⟨g, i, none⟩ = some (.string s) := by
  have h' : x.ownsRow B 9 1 (.slice (some ⟨g, 0, none⟩) ks.length c) ks.length (ks.map Value.string) := h
  rw [h'.cellAt _ (by omega), ← hs]
  simp [List.getD_eq_getElem?_getD, hi]
theorem froz1 {x : World} {B g c : Nat} {ks : List ByteArray} (h : OwnK x B (.slice (some ⟨g, 0, none⟩) ks.length c) ks) (j : Nat) : x.frozen? ⟨g, j, none⟩ = false := by
  have h' : x.ownsRow B 9 1 (.slice (some ⟨g, 0, none⟩) ks.length c) ks.length (ks.map Value.string) := h
  exact h'.frozenAt j
theorem slice_of {w : World} {B e s n : Nat} {v : Value} {xs : List Value} (h : w.ownsRow B e s v n xs) : ∃ a c, v = .slice a n c ∧ (0 < n → ∃ g, a = some ⟨g, 0, none⟩) := by
  rcases h.2 with ⟨rfl, h0⟩ | ⟨g, cap, cur, rfl, _⟩
  · exact ⟨none, 0, by rw [h0], fun h => by omega⟩
  · exact ⟨_, _, rfl, fun _ => ⟨g, rfl⟩⟩
def Vm (M g i : Nat) (v : Value) (e : St) : Nat → Option Value
  | 0 => some (.pointer (some ⟨M, 0 + 3, none⟩))
  | 1 => some v
  | 2 => some (.int .i64 (i : Nat))
  | 3 => some (.pointer (some ⟨M, 0 + 3, none⟩))
  | 4 => some v
  | 5 => some (.int .i64 (i : Nat))
  | 6 => some (.pointer (some ⟨g, i * 3, none⟩))
  | 7 => some (.agg #[.int .i64 e.u, .int .i64 e.f, .string e.t])
  | 8 => some (.agg #[.int .i64 e.u, .int .i64 e.f, .string e.t])
  | 9 => some (.pointer (some ⟨g, i * 3, none⟩))
  | _ => none
def Vk (M g i : Nat) (u : Value) (s : ByteArray) : Nat → Option Value
  | 0 => some (.pointer (some ⟨M, 0 + 4, none⟩))
  | 1 => some u
  | 2 => some (.int .i64 (i : Nat))
  | 3 => some (.string s)
  | 4 => some (.string s)
  | 5 => some (.pointer (some ⟨g, i, none⟩))
  | _ => none

end Go.Proofs.YtcnjgmeddkidaaaGreatDoor.bx

namespace Go.Proofs.YtcnjgmeddkidaaaGreatDoor.bx
open Go.RowKit
open st
set_option linter.unusedVariables false

theorem bok_of (x : Bx) : bok x = true ↔ mu.nmB x.nm = true ∧ (1 ≤ x.vd ∧ x.vd ≤ 1000000) ∧ (1 ≤ x.nx ∧ x.nx ≤ 1001) ∧ mailsB x.ms x.nx = true ∧ (x.ks.length : Int) = x.nx - 1 ∧ keysB x.ks = true ∧ bk.dist x.ks = true := by
  simp [bok, and_assoc]
theorem bok_last {x : Bx} (h : mu.nmB x.nm = true ∧ (1 ≤ x.vd ∧ x.vd ≤ 1000000) ∧ (1 ≤ x.nx ∧ x.nx ≤ 1001) ∧ mailsB x.ms x.nx = true ∧ (x.ks.length : Int) = x.nx - 1 ∧ keysB x.ks = true) : bok x = bk.dist x.ks := by
  rw [Bool.eq_iff_iff, bok_of]
  exact ⟨fun y => y.2.2.2.2.2.2, fun y => ⟨h.1, h.2.1, h.2.2.1, h.2.2.2.1, h.2.2.2.2.1, h.2.2.2.2.2, y⟩⟩

set_option maxHeartbeats 4000000 in
set_option maxRecDepth 100000 in
theorem isRight_any (x : Bx) (v u : Value) (B n0 N : Nat) (D0 : DataW Unit) (w : World) (h : RowsIn w N v u x.ms x.ks) (hN : N ≤ B) (hown : bk.Own w B n0 D0) (hx : Small x) :
    Calls Tryz.prog 75 #[BV x v u, .map (some B)] w fun e w' => e = .returned (.bool (bok x)) ∧ (∃ n D, bk.Own w' B n D) ∧ Below B w w' := by
  have L0 := lies_new w 54 x v u
  have hlt := hown.lt
  have b0 := (new_below w 54 #[.string x.nm, .int .i64 x.vd, .int .i64 x.nx, v, u]).mono (Nat.le_of_lt hlt)
  have O0 := hown.alloc (.cells #[.string x.nm, .int .i64 x.vd, .int .i64 x.nx, v, u] 54)
  have HA : Hid (RowsIn (w.alloc (.cells #[.string x.nm, .int .i64 x.vd, .int .i64 x.nx, v, u] 54)) N v u x.ms x.ks) := rows_in_below h b0 hN
  have hls : B < (w.alloc (.cells #[.string x.nm, .int .i64 x.vd, .int .i64 x.nx, v, u] 54)).heap.size := by simp; omega
  have HF : Hid (¬ (mu.nmB x.nm = true ∧ (1 ≤ x.vd ∧ x.vd ≤ 1000000) ∧ (1 ≤ x.nx ∧ x.nx ≤ 1001) ∧ mailsB x.ms x.nx = true ∧ (x.ks.length : Int) = x.nx - 1 ∧ keysB x.ks = true) → bok x = false) := fun hh => Bool.eq_false_iff.2 fun y => hh (by have := (bok_of x).1 y; exact ⟨this.1, this.2.1, this.2.2.1, this.2.2.2.1, this.2.2.2.2.1, this.2.2.2.2.2.1⟩)
  have HT : Hid (mu.nmB x.nm = true ∧ (1 ≤ x.vd ∧ x.vd ≤ 1000000) ∧ (1 ≤ x.nx ∧ x.nx ≤ 1001) ∧ mailsB x.ms x.nx = true ∧ (x.ks.length : Int) = x.nx - 1 ∧ keysB x.ks = true → bok x = bk.dist x.ks) := bok_last
  obtain ⟨⟨a, cap, rfl, _⟩, ⟨a1, cap1, rfl, _⟩⟩ := h
  obtain ⟨nm, vd, nx, ms, ks⟩ := x
  obtain ⟨hi, hnm, hms, hks⟩ := hx
  have HMS : Hid (st.Smalls ms) := hms
  have HKS : Hid (tx.Smalls ks) := hks
  have HNX : Hid (In nx) := hi.2
  unfold BV
  simp only at L0 b0 O0 HA hls HF HT hnm ⊢
  have hkl : ks.length ≤ 1048576 := hks.1
  clear hi hms hks hown
  have HNM : Hid (∀ w, Calls Tryz.prog 86 #[.string nm] w fun e w' => e = .returned (.bool (mu.nmB nm)) ∧ w' = w) := fun w => mu.impl_name nm w hnm
  generalize bok ⟨nm, vd, nx, ms, ks⟩ = R at HF HT ⊢
  go_enter Tryz.func75, Tryz.ntmps75
  go_wp2_with fail
  generalize w.alloc _ = w0 at L0 b0 O0 HA hls ⊢
  refine (HNM.out _).mono ?_
  rintro e w' ⟨rfl, rfl⟩
  have O0 : Hid (bk.Own w' B n0 D0) := O0
  have c0 := L0.c0
  have c1 := L0.c1
  have c2 := L0.c2
  have c3 := L0.c3
  have c4 := L0.c4
  simp only at c0 c1 c2 c3 c4
  generalize hq : mu.nmB nm = nb at HF HT ⊢
  clear hq HNM
  cases nb
  · have HZ : Hid (R = false) := HF.out (fun x => by have := x.1; simp at this)
    go_wp2
    go_ret
    exact ⟨mu.ret_bool HZ.out.symm, ⟨_, _, O0.out⟩, b0⟩
  by_cases q1' : vd < 1
  · skip
    have HZ : Hid (R = false) := HF.out (fun x => by have := x.2.1.1; omega)
    go_wp2
    go_ret
    exact ⟨mu.ret_bool HZ.out.symm, ⟨_, _, O0.out⟩, b0⟩
  have q1 : 1 ≤ vd := by omega
  by_cases q2' : 1000000 < vd
  · skip
    have HZ : Hid (R = false) := HF.out (fun x => by have := x.2.1.2; omega)
    go_wp2
    go_ret
    exact ⟨mu.ret_bool HZ.out.symm, ⟨_, _, O0.out⟩, b0⟩
  have q2 : vd ≤ 1000000 := by omega
  by_cases q3' : nx < 1
  · skip
    have HZ : Hid (R = false) := HF.out (fun x => by have := x.2.2.1.1; omega)
    go_wp2
    go_ret
    exact ⟨mu.ret_bool HZ.out.symm, ⟨_, _, O0.out⟩, b0⟩
  have q3 : 1 ≤ nx := by omega
  by_cases q4' : 1001 < nx
  · skip
    have HZ : Hid (R = false) := HF.out (fun x => by have := x.2.2.1.2; omega)
    go_wp2
    go_ret
    exact ⟨mu.ret_bool HZ.out.symm, ⟨_, _, O0.out⟩, b0⟩
  have q4 : nx ≤ 1001 := by omega
  go_wp2_with fail
  refine (areMails_any N _ ms nx _ HA.out.1 (Nat.le_trans hN (Nat.le_of_lt hls)) HMS.out HNX.out).mono ?_
  rintro e w1 ⟨rfl, hb1⟩
  have L1 := L0.keep hb1
  have HO1 : Hid (bk.Own w1 B n0 D0) := bk.own_keep O0.out hb1 hls
  have HA1 : Hid (RowsIn w1 N (.slice a ms.length cap) (.slice a1 ks.length cap1) ms ks) := rows_in_below HA.out hb1 (Nat.le_trans hN (Nat.le_of_lt hls))
  have b1 := b0.trans (hb1.mono (Nat.le_of_lt hls))
  have hls1 : B < w1.heap.size := Nat.lt_of_lt_of_le hls hb1.size
  clear hb1 L0 O0 HA b0 hls c0 c1 c2 c3 c4
  have c2 := L1.c2
  have c4 := L1.c4
  simp only at c2 c4
  generalize hq : mailsB ms nx = mb at HF HT ⊢
  clear hq
  cases mb
  · have HZ : Hid (R = false) := HF.out (fun x => by have := x.2.2.2.1; simp at this)
    go_wp2
    go_ret
    exact ⟨mu.ret_bool HZ.out.symm, ⟨_, _, HO1.out⟩, b1⟩
  by_cases q5 : ¬ (ks.length : Int) = nx - 1
  · have q5' : ((ks.length : Int) == nx - 1) = false := by simp [q5]
    have HZ : Hid (R = false) := HF.out (fun x => q5 x.2.2.2.2.1)
    clear q5
    go_wp2
    go_ret
    exact ⟨mu.ret_bool HZ.out.symm, ⟨_, _, HO1.out⟩, b1⟩
  have q5 : (ks.length : Int) = nx - 1 := by omega
  have q5' : ((ks.length : Int) == nx - 1) = true := by simp [q5]
  have HQ5 : Hid ((ks.length : Int) = nx - 1) := q5
  clear q5
  go_wp2_with fail
  refine (areKeys_any N _ ks _ HA1.out.2 HKS.out).mono ?_
  rintro e w2 ⟨rfl, rfl⟩
  generalize hq : keysB ks = kb at HF HT ⊢
  clear hq
  cases kb
  · have HZ : Hid (R = false) := HF.out (fun x => by have := x.2.2.2.2.2; simp at this)
    go_wp2
    go_ret
    exact ⟨mu.ret_bool HZ.out.symm, ⟨_, _, HO1.out⟩, b1⟩
  go_wp2_with fail
  refine (bk.learn_any B n0 N D0 _ ks _ HO1.out HA1.out.2 hN HKS.out).mono ?_
  rintro e w3 ⟨rfl, ⟨n, D, ho, _⟩, hb3⟩
  have HZ : Hid (R = bk.dist ks) := HT.out ⟨by trivial, ⟨q1, q2⟩, ⟨q3, q4⟩, by trivial, HQ5.out, by trivial⟩
  have HO3 : Hid (bk.Own w3 B n D) := ho
  have b3 := b1.trans hb3
  clear ho hb3 b1 HO1 HA1 c2 c4
  generalize bk.dist ks = dd at HZ ⊢
  cases dd
  · go_wp2
    go_ret
    exact ⟨mu.ret_bool HZ.out.symm, ⟨_, _, HO3.out⟩, b3⟩
  · go_wp2
    go_ret
    exact ⟨mu.ret_bool HZ.out.symm, ⟨_, _, HO3.out⟩, b3⟩

end Go.Proofs.YtcnjgmeddkidaaaGreatDoor.bx
