/-
  A stored mail: copied, and found in a rising row by halves.
  A law on regions that draw their order: one fact, said of the set of those that have come up, is carried on by each operation; whatever the order, it holds of all behind the last.
  Regions that draw their order, where one fact on the world holds all along.
  A box, copied by the program into memory of its own.
  The specification's test of boxes, as a code.
-/
import Derived.Test.YtncnbhekgkemfaaGreatDoorPkai
import Derived.Test.YtncnbhekgkemfaaGreatDoorPkaq
import Derived.Orders
import Derived.RegionTactic
import Derived.Test.YtncnbhekgkemfaaGreatDoorPkap
import Derived.Deep.DeepCutAuto
import Derived.Deep.Cut
import Derived.Deep.CutRange
import Derived.Deep.RegionWith
import Derived.Test.YtncnbhekgkemfaaGreatDoorPkak

namespace Go.Proofs.YtncnbhekgkemfaaGreatDoor.st
open Go.ChangeShapes Go.WideShapes Go.ChangeAt Go.RowKit Go.Deep Go.Joins
set_option linter.unusedVariables false

def B3 (w : World) (g : Nat) (t : TypeId) (a b c : Value) : Prop := w.heap[g]? = some (.cells #[a, b, c] t (0, 0))
section
variable {w w' : World} {g : Nat} {t : TypeId} {a b c a' b' c' : Value}
theorem b3_new (w : World) (t : TypeId) (a b c : Value) : B3 (w.alloc (.cells #[a, b, c] t)) w.heap.size t a b c := by
  show (w.heap.push (.cells #[a, b, c] t))[w.heap.size]? = _
  simp
theorem B3.c0 (h : B3 w g t a b c) : w.cell? ⟨g, 0, none⟩ = some a := by rw [cell_of_row _ _ 0 _ _ _ h]; rfl
theorem B3.c1 (h : B3 w g t a b c) : w.cell? ⟨g, 1, none⟩ = some b := by rw [cell_of_row _ _ 1 _ _ _ h]; rfl
theorem B3.c1' (h : B3 w g t a b c) : w.cell? ⟨g, 0 + 1, none⟩ = some b := by rw [cell_of_row _ _ _ _ _ _ h]; rfl
theorem B3.c2 (h : B3 w g t a b c) : w.cell? ⟨g, 2, none⟩ = some c := by rw [cell_of_row _ _ 2 _ _ _ h]; rfl
theorem B3.c2' (h : B3 w g t a b c) : w.cell? ⟨g, 0 + 2, none⟩ = some c := by rw [cell_of_row _ _ _ _ _ _ h]; rfl
theorem B3.f (h : B3 w g t a b c) (j : Nat) : w.frozen? ⟨g, j, none⟩ = false := frozen_of_row _ _ _ _ _ h
theorem B3.lt (h : B3 w g t a b c) : g < w.heap.size := (Array.getElem?_eq_some_iff.1 h).1
theorem B3.keep (h : B3 w g t a b c) (hb : Below w.heap.size w w') : B3 w' g t a b c := (hb.block g h.lt).trans h
theorem B3.put0 (h : B3 w g t a b c) (u : Value) : B3 (w.setCell ⟨g, 0, none⟩ u) g t u b c := heap_setCell_same _ g 0 _ _ _ h
theorem B3.put1 (h : B3 w g t a b c) (u : Value) : B3 (w.setCell ⟨g, 1, none⟩ u) g t a u c := heap_setCell_same _ g 1 _ _ _ h
theorem B3.put2 (h : B3 w g t a b c) (u : Value) : B3 (w.setCell ⟨g, 2, none⟩ u) g t a b u := heap_setCell_same _ g 2 _ _ _ h
/-- All three cells are written. -/
def put (w : World) (g : Nat) (a b c : Value) : World := ((w.setCell ⟨g, 0, none⟩ a).setCell ⟨g, 1, none⟩ b).setCell ⟨g, 2, none⟩ c
theorem B3.put (h : B3 w g t a b c) : B3 (put w g a' b' c') g t a' b' c' := ((h.put0 a').put1 b').put2 c'
theorem put_below {B : Nat} {w0 : World} (k : Below B w0 w) (hb : B ≤ g) : Below B w0 (put w g a b c) := ((k.setCell (p := ⟨g, 0, none⟩) hb _).setCell (p := ⟨g, 1, none⟩) hb _).setCell (p := ⟨g, 2, none⟩) hb _
theorem put_size : (put w g a b c).heap.size = w.heap.size := by unfold put; simp
theorem B3.other {g' : Nat} (h : B3 w g t a b c) (j : Nat) (u : Value) (hg : g ≠ g') : B3 (w.setCell ⟨g', j, none⟩ u) g t a b c := by
  unfold B3
  rw [heap_setCell_other _ _ _ _ hg]
  exact h
theorem new_below (w : World) (T : TypeId) (cs : Array Value) : Below w.heap.size w (w.alloc (.cells cs T)) := (Below.refl _ _).alloc (Nat.le_refl _) _
end
/-- A stored mail as the program has it. -/
def SV (e : St) : Value := .agg #[.int .i64 e.u, .int .i64 e.f, .string e.t]

theorem clone_any (s : ByteArray) (w : World) (hs : s.size ≤ 1048576) :
    Calls Tryz.prog 93 #[.string s] w fun e w' => e = .returned (.string s) ∧ Below w.heap.size w w' := by
  go_enter Tryz.func93, Tryz.ntmps93
  go_wp2_with fail
  refine (Tryz.stringslite_Clone s _ (by omega)).mono ?_
  rintro e w' ⟨rfl, hb⟩
  go_wp2
  go_ret
  exact ⟨rfl, hb⟩

def cmpI (a b : Int) : Int := if a < b then -1 else if b < a then 1 else 0
theorem nan_any (a : Int) (w : World) : Calls Tryz.prog 137 #[.int .i64 a] w fun e w' => e = .returned (.bool false) ∧ w' = w := by
  have h : ((a : Int) != a) = false := by simp
  go_enter Tryz.func137, Tryz.ntmps137
  go_wp2
  go_ret
  exact ⟨rfl, rfl⟩
theorem compare_any (a b : Int) (w : World) : Calls Tryz.prog 136 #[.int .i64 a, .int .i64 b] w fun e w' => e = .returned (.int .i64 (cmpI a b)) ∧ w' = w := by
  by_cases h1 : a < b
  · have hc : cmpI a b = -1 := by simp [cmpI, h1]
    have HC : Hid (cmpI a b = -1) := hc
    clear hc
    go_enter Tryz.func136, Tryz.ntmps136
    go_wp2_with (go_at_call 137; refine (nan_any _ _).mono ?_; rintro e w' ⟨rfl, rfl⟩)
    go_ret
    exact ⟨by rw [HC.out]; rfl, rfl⟩
  by_cases h2 : b < a
  · have hc : cmpI a b = 1 := by simp [cmpI, h1, h2]
    have HC : Hid (cmpI a b = 1) := hc
    clear hc
    have h1' : b ≤ a := by omega
    go_enter Tryz.func136, Tryz.ntmps136
    go_wp2_with (go_at_call 137; refine (nan_any _ _).mono ?_; rintro e w' ⟨rfl, rfl⟩)
    go_ret
    exact ⟨by rw [HC.out]; rfl, rfl⟩
  · have hc : cmpI a b = 0 := by simp [cmpI, h1, h2]
    have HC : Hid (cmpI a b = 0) := hc
    clear hc
    have h1' : b ≤ a := by omega
    have h2' : a ≤ b := by omega
    go_enter Tryz.func136, Tryz.ntmps136
    go_wp2_with (go_at_call 137; refine (nan_any _ _).mono ?_; rintro e w' ⟨rfl, rfl⟩)
    go_ret
    exact ⟨by rw [HC.out]; rfl, rfl⟩
theorem byUid_any (x : St) (z : Int) (w : World) : Calls Tryz.prog 135 #[SV x, .int .i64 z] w fun e w' => e = .returned (.int .i64 (cmpI x.u z)) ∧ Below w.heap.size w w' := by
  obtain ⟨u, f, t⟩ := x
  have hb := new_below w 110 #[.int .i64 u, .int .i64 f, .string t]
  unfold SV
  simp only
  go_enter Tryz.func135, Tryz.ntmps135
  go_wp2_with fail
  refine (compare_any _ _ _).mono ?_
  rintro e w' ⟨rfl, rfl⟩
  go_wp2
  go_ret
  exact ⟨rfl, hb⟩
end Go.Proofs.YtncnbhekgkemfaaGreatDoor.st

namespace Go.Proofs.YtncnbhekgkemfaaGreatDoor.rs
set_option linter.unusedVariables false

/-- How many have not come up yet. -/
def left (l : Array Bool) : Nat := l.toList.countP (fun b => !b)
theorem count_set : ∀ (l : List Bool) (i : Nat), l[i]? = some false → (l.set i true).countP (fun b => !b) + 1 = l.countP (fun b => !b)
  | [], i, h => by simp at h
  | b :: l, 0, h => by
    have hb : b = false := by simpa using h
    subst hb
    simp
  | b :: l, i + 1, h => by
    have ih := count_set l i (by simpa using h)
    rw [List.set_cons_succ, List.countP_cons, List.countP_cons]
    omega
theorem get_false {l : Array Bool} {i : Nat} (h : l.getD i true = false) : l.toList[i]? = some false := by
  cases hl : l[i]? with
  | none => simp [hl] at h
  | some b =>
    simp [hl] at h
    subst h
    simpa using hl
theorem left_set {l : Array Bool} {i : Nat} (h : l.getD i true = false) : left (l.setIfInBounds i true) + 1 = left l := by
  unfold left
  rw [Array.toList_setIfInBounds]
  exact count_set _ _ (get_false h)
theorem left_zero {l : Array Bool} (h : left l = 0) (i : Nat) : l.getD i true = true := by
  cases hg : l.getD i true with
  | true => rfl
  | false =>
    have := left_set hg
    omega

section
variable {P : Program} {ops : Array Oper} {Q : Exit → Act → World → Prop}
theorem inv {md : Region.Mode} (I : Array Bool → Act → World → Prop)
    (hstep : ∀ listed a w i, I listed a w → i ∈ Region.ready md ops listed → wpOp P ops Q i (fun a' w' => I (listed.setIfInBounds i true) a' w') a w)
    (hend : ∀ listed a w, I listed a w → Region.ready md ops listed = [] → Q .normal a w) :
    ∀ (fuel : Nat) (listed : Array Bool) (a : Act) (w : World), left listed ≤ fuel → I listed a w → wpAny P md ops Q fuel listed a w
  | 0, listed, a, w, hl, h => by
    have hr : Region.ready md ops listed = [] := by
      rw [List.eq_nil_iff_forall_not_mem]
      intro i hi
      have := (mem_ready.1 hi).1
      rw [left_zero (by omega) i] at this
      cases this
    exact ⟨hr, hend listed a w h hr⟩
  | fuel + 1, listed, a, w, hl, h => by
    refine ⟨fun hr => hend listed a w h hr, fun i hi => ?_⟩
    have h1 := left_set (mem_ready.1 hi).1
    exact wpOp_mono (fun a' w' h' => inv I hstep hend fuel _ a' w' (by omega) h') (hstep listed a w i h hi)

def upd (f : Nat → Value) (i : Nat) (v : Value) : Nat → Value := fun j => if j = i then v else f j
theorem upd_same (f : Nat → Value) (i : Nat) (v : Value) : upd f i v i = v := by simp [upd]
theorem upd_other (f : Nat → Value) (i : Nat) (v : Value) {j : Nat} (h : j ≠ i) : upd f i v j = f j := by simp [upd, h]
theorem getD_set {l : Array Bool} {i j : Nat} (h : (l.setIfInBounds i true).getD j false = true) : j = i ∨ l.getD j false = true := by
  by_cases e : j = i
  · exact .inl e
  · right
    simpa [Array.getElem?_setIfInBounds_ne (Ne.symm e)] using h
theorem all_listed {md : Region.Mode} {listed : Array Bool} (hs : listed.size = ops.size) (hdeps : ∀ (i : Nat) (o : Oper), ops[i]? = some o → ∀ e ∈ o.after, Region.binds md e = true → e.on < i) (hr : Region.ready md ops listed = []) : ∀ (k i : Nat), i < k → i < ops.size → listed.getD i false = true
  | 0, i, h, _ => by omega
  | k + 1, i, h, hi => by
    by_cases hk : i < k
    · exact all_listed hs hdeps hr k i hk hi
    · have hik : i = k := by omega
      subst hik
      cases hg : listed.getD i true with
      | true =>
        have hlt : i < listed.size := by omega
        simp [Array.getElem?_eq_getElem hlt] at hg ⊢
        exact hg
      | false =>
        exfalso
        have ho : ops[i]? = some ops[i] := Array.getElem?_eq_getElem hi
        have : i ∈ Region.ready md ops listed := mem_ready.2 ⟨hg, _, ho, fun e he hb => all_listed hs hdeps hr i e.on (hdeps i _ ho e he hb) (Nat.lt_trans (hdeps i _ ho e he hb) hi)⟩
        rw [hr] at this
        cases this
/-- One fact on all of it, said of what has come up: each operation carries it on. -/
theorem region_st {id : Nat} {a : Act} {w : World} (hm : P.follows .mixedOrders = true) (act : (Nat → Value) → Act) (J : (Nat → Prop) → (Nat → Value) → World → Prop) (v0 : Nat → Value)
    (ha : a = act v0) (h0 : J (fun _ => False) v0 w.drew) (hdeps : ∀ (i : Nat) (o : Oper), ops[i]? = some o → ∀ e ∈ o.after, Region.binds .any e = true → e.on < i)
    (hop : ∀ (i : Nat) (o : Oper), ops[i]? = some o → ∀ (D : Nat → Prop) (vals : Nat → Value) (w : World), J D vals w → (∀ e ∈ o.after, Region.binds .any e = true → D e.on) → ¬ D i → (∀ (j : Nat) (oj : Oper), D j → ops[j]? = some oj → ∀ e ∈ oj.after, Region.binds .any e = true → D e.on) →
      wpOp P ops Q i (fun a' w' => ∃ v, a' = act (upd vals i v) ∧ J (fun j => j = i ∨ D j) (upd vals i v) w') (act vals) w)
    (hend : ∀ (D : Nat → Prop) (vals : Nat → Value) (w : World), (∀ i, i < ops.size → D i) → J D vals w → Q .normal (act vals) w) :
    (Code.region id ops true).wp P Q a w := by
  refine wp_region_any hm ?_
  refine inv (fun listed a w => listed.size = ops.size ∧ (∀ (j : Nat) (oj : Oper), listed.getD j false = true → ops[j]? = some oj → ∀ e ∈ oj.after, Region.binds .any e = true → listed.getD e.on false = true) ∧ ∃ vals, a = act vals ∧ J (fun j => listed.getD j false = true) vals w) ?_ ?_ _ _ _ _ ?_ ?_
  · rintro listed a w i ⟨hs, hcl, vals, rfl, hJ⟩ hi
    obtain ⟨hg, o, ho, hall⟩ := mem_ready.1 hi
    have hni : ¬ listed.getD i false = true := by
      have h1 := get_false hg
      have h2 : listed[i]? = some false := by simpa using h1
      simp [h2]
    refine wpOp_mono ?_ (hop i o ho (fun j => listed.getD j false = true) vals w hJ hall hni hcl)
    rintro a' w' ⟨v, rfl, hJ'⟩
    have hup : ∀ k, listed.getD k false = true → (listed.setIfInBounds i true).getD k false = true := fun k hk => by
      by_cases e : k = i
      · subst e; exact absurd hk hni
      · simpa [Array.getElem?_setIfInBounds_ne (Ne.symm e)] using hk
    have hlt : i < listed.size := by
      have h1 := get_false hg
      have h2 : listed[i]? = some false := by simpa using h1
      exact (Array.getElem?_eq_some_iff.1 h2).1
    have hD : (fun j => (listed.setIfInBounds i true).getD j false = true) = (fun j => j = i ∨ listed.getD j false = true) := by
      funext j
      refine propext ⟨fun h => getD_set h, fun h => ?_⟩
      rcases h with h | h
      · subst h
        simp [Array.getElem?_setIfInBounds_self_of_lt hlt]
      · exact hup j h
    refine ⟨by rw [Array.size_setIfInBounds]; exact hs, fun j oj hj hoj e he hb => ?_, _, rfl, by rw [hD]; exact hJ'⟩
    rcases getD_set hj with h | h
    · subst h
      rw [ho] at hoj
      cases hoj
      exact hup _ (hall e he hb)
    · exact hup _ (hcl j oj h hoj e he hb)
  · rintro listed a w ⟨hs, _, vals, rfl, hJ⟩ hr
    exact hend _ vals w (fun i hi => all_listed hs hdeps hr (i + 1) i (Nat.lt_succ_self i) hi) hJ
  · unfold left
    refine Nat.le_trans List.countP_le_length ?_
    simp
  · have hno : ∀ j, ¬ (Array.replicate ops.size false).getD j false = true := fun j hj => by
      by_cases hj2 : j < ops.size
      · simp [hj2] at hj
      · simp [hj2] at hj
    refine ⟨by simp, fun j _ hj => absurd hj (hno j), v0, ha, ?_⟩
    rw [show (fun j => (Array.replicate ops.size false).getD j false = true) = (fun _ => False) from funext fun j => propext ⟨fun h => hno j h, False.elim⟩]
    exact h0
theorem deps_of (h : (ops.toList.zipIdx.all fun x => x.1.after.all fun e => !Region.binds .any e || decide (e.on < x.2)) = true) : ∀ (i : Nat) (o : Oper), ops[i]? = some o → ∀ e ∈ o.after, Region.binds .any e = true → e.on < i := by
  intro i o ho e he hbd
  have h1 : (o, i) ∈ ops.toList.zipIdx := by
    rw [List.mk_mem_zipIdx_iff_getElem?]
    simpa using ho
  have h2 := List.all_eq_true.1 h _ h1
  have h3 := Array.all_eq_true_iff_forall_mem.1 h2 e he
  rw [hbd] at h3
  simpa using h3
end
end Go.Proofs.YtncnbhekgkemfaaGreatDoor.rs

namespace Go.Proofs.YtncnbhekgkemfaaGreatDoor.rk
open rs
set_option linter.unusedVariables false
def JK (V : Nat → Option Value) (K : World → Prop) (D : Nat → Prop) (f : Nat → Value) (x : World) : Prop := (∀ j, D j → ∀ y, V j = some y → f j = y) ∧ K x
theorem JK.step {V : Nat → Option Value} {K : World → Prop} {D : Nat → Prop} {f : Nat → Value} {x x' : World} {i : Nat} (y : Value) (h : JK V K D f x) (hy : ∀ z, V i = some z → y = z) (hk : K x') : JK V K (fun j => j = i ∨ D j) (upd f i y) x' := by
  refine ⟨fun j hj z hz => ?_, hk⟩
  by_cases e : j = i
  · subst e
    rw [upd_same]
    exact hy z hz
  · rw [upd_other f i y e]
    exact h.1 j (hj.resolve_left e) z hz
end Go.Proofs.YtncnbhekgkemfaaGreatDoor.rk

namespace Go.Proofs.YtncnbhekgkemfaaGreatDoor.bx
open Go.RowKit Go.Deep
open st
set_option linter.unusedVariables false

theorem list_set_same {α : Type} {l : List α} {i : Nat} {a : α} (h : l[i]? = some a) : l.set i a = l := by
  refine List.ext_getElem? fun j => ?_
  by_cases e : j = i
  · subst e
    rw [List.getElem?_set_self (List.getElem?_eq_some_iff.1 h).1, h]
  · rw [List.getElem?_set_ne (Ne.symm e)]
theorem own_low {w : World} {b base e size n : Nat} {v : Value} {xs : List Value} (h : w.ownsRow base e size v n xs) (hb : b ≤ base) : w.ownsRow b e size v n xs :=
  ⟨h.1, h.2.imp id fun ⟨g, cap, cur, he, hb', r⟩ => ⟨g, cap, cur, he, Nat.le_trans hb hb', r⟩⟩
/-- A box variable that is written: its cells. -/
theorem Lies.put0 {w : World} {b : Nat} {T : TypeId} {x : Bx} {v u : Value} (h : Lies w b T x v u) : Lies (w.setCell ⟨b, 0, none⟩ (.string x.nm)) b T x v u := heap_setCell_same _ b 0 _ _ _ h
theorem Lies.put3 {w : World} {b : Nat} {T : TypeId} {x : Bx} {v u : Value} (h : Lies w b T x v u) (v' : Value) : Lies (w.setCell ⟨b, 3, none⟩ v') b T x v' u := heap_setCell_same _ b 3 _ _ _ h
theorem Lies.put4 {w : World} {b : Nat} {T : TypeId} {x : Bx} {v u : Value} (h : Lies w b T x v u) (u' : Value) : Lies (w.setCell ⟨b, 4, none⟩ u') b T x v u' := heap_setCell_same _ b 4 _ _ _ h
theorem Lies.other {w : World} {b q j : Nat} {T : TypeId} {x : Bx} {v u y : Value} (h : Lies w b T x v u) (hne : b ≠ q) : Lies (w.setCell ⟨q, j, none⟩ y) b T x v u := by
  unfold Lies
  rw [heap_setCell_other _ _ _ _ hne]
  exact h
theorem Lies.f {w : World} {b : Nat} {T : TypeId} {x : Bx} {v u : Value} (h : Lies w b T x v u) (j : Nat) : w.frozen? ⟨b, j, none⟩ = false := frozen_of_row _ _ _ _ _ h
/-- A row and a box's variable lie apart. -/
theorem row_box {x : World} {b1 e1 s1 n1 G : Nat} {v : Value} {xs : List Value} {m : Bx} {v1 u1 : Value} (h : x.ownsRow b1 e1 s1 v n1 xs) (h2 : Lies x G 99 m v1 u1) (hne : e1 ≠ 99) : v.ownBlock ≠ some G := by
  intro hk
  rcases h.2 with ⟨rfl, _⟩ | ⟨g, cap, cur, rfl, _, hb, _⟩
  · simp [Value.ownBlock] at hk
  · have e : g = G := by simpa [Value.ownBlock] using hk
    subst e
    unfold Lies at h2
    rw [h2] at hb
    simp at hb
    exact hne hb.2.symm
theorem own_cell {x : World} {B e s n g m c q j : Nat} {xs : List Value} {y : Value} (h : x.ownsRow B e s (.slice (some ⟨g, 0, none⟩) m c) n xs) (hne : g ≠ q) : (x.setCell ⟨q, j, none⟩ y).ownsRow B e s (.slice (some ⟨g, 0, none⟩) m c) n xs := by
  obtain ⟨h1, h2⟩ := h
  refine ⟨h1, ?_⟩
  rcases h2 with ⟨e, hz⟩ | ⟨g', cap, cur, e, hB, hh, r⟩
  · exact .inl ⟨e, hz⟩
  · cases e
    exact .inr ⟨g, _, cur, rfl, hB, (heap_setCell_other _ _ _ _ hne).trans hh, r⟩
theorem own_var {x : World} {B e s n G j : Nat} {v : Value} {xs : List Value} {y : Value} {m : Bx} {v1 u1 : Value} (h : x.ownsRow B e s v n xs) (h2 : Lies x G 99 m v1 u1) (hne : e ≠ 99) : (x.setCell ⟨G, j, none⟩ y).ownsRow B e s v n xs := by
  have hr := row_box h h2 hne
  obtain ⟨h1, h3⟩ := id h
  rcases h3 with ⟨e, hz⟩ | ⟨g', cap, cur, e, hB, hh, r⟩
  · exact ⟨h1, .inl ⟨e, hz⟩⟩
  · subst e
    exact own_cell h (fun e => hr (by rw [e]; rfl))
theorem own_grown {x x' : World} {B e s n : Nat} {v : Value} {xs : List Value} {G : Nat} (h : x.ownsRow B e s v n xs) (hg : x.grownBy x' (some G)) (hne : v.ownBlock ≠ some G) : x'.ownsRow B e s v n xs := h.kept hg (.inr hne)
/-- All five cells of a box are written. -/
def put5w (w : World) (g : Nat) (a b c d e : Value) : World := ((((w.setCell ⟨g, 0, none⟩ a).setCell ⟨g, 1, none⟩ b).setCell ⟨g, 2, none⟩ c).setCell ⟨g, 3, none⟩ d).setCell ⟨g, 4, none⟩ e
theorem put5w_lies {w : World} {g : Nat} {T : TypeId} {x y : Bx} {v u v' u' : Value} (h : Lies w g T x v u) : Lies (put5w w g (.string y.nm) (.int .i64 y.vd) (.int .i64 y.nx) v' u') g T y v' u' :=
  heap_setCell_same _ g 4 _ _ _ (heap_setCell_same _ g 3 _ _ _ (heap_setCell_same _ g 2 _ _ _ (heap_setCell_same _ g 1 _ _ _ (heap_setCell_same _ g 0 _ _ _ h))))
theorem put5w_below {B : Nat} {w0 w : World} {g : Nat} {a b c d e : Value} (k : Below B w0 w) (hb : B ≤ g) : Below B w0 (put5w w g a b c d e) :=
  ((((k.setCell (p := ⟨g, 0, none⟩) hb _).setCell (p := ⟨g, 1, none⟩) hb _).setCell (p := ⟨g, 2, none⟩) hb _).setCell (p := ⟨g, 3, none⟩) hb _).setCell (p := ⟨g, 4, none⟩) hb _
theorem cell_grown (w : World) (b j : Nat) (u : Value) : w.grownBy (w.setCell ⟨b, j, none⟩ u) (some b) :=
  ⟨rfl, rfl, rfl, by simp, fun k _ hk => heap_setCell_other w ⟨b, j, none⟩ k u (fun e => hk (by simp [e]))⟩
theorem put5w_grown (w : World) (g : Nat) (a b c d e : Value) : w.grownBy (put5w w g a b c d e) (some g) :=
  ow.grown_trans (ow.grown_trans (ow.grown_trans (ow.grown_trans (cell_grown w g 0 a) (cell_grown _ g 1 b)) (cell_grown _ g 2 c)) (cell_grown _ g 3 d)) (cell_grown _ g 4 e)
def B0 : Bx := ⟨⟨#[]⟩, 0, 0, [], []⟩
/-- While mails are copied one by one. -/
def Km (w : World) (y : Bx) (v u : Value) (x : World) : Prop :=
  Below w.heap.size w x ∧ Lies x w.heap.size 99 y v u ∧ Lies x (w.heap.size + 1) 99 B0 (.slice none 0 0) (.slice none 0 0) ∧ OwnM x (w.heap.size + 2) v y.ms
theorem Km.keep {w : World} {y : Bx} {v u : Value} {x x' : World} (h : Km w y v u x) (hb : Below x.heap.size x x') : Km w y v u x' :=
  ⟨h.1.trans (hb.mono h.1.size), h.2.1.keep hb, h.2.2.1.keep hb, ow.own_below h.2.2.2 hb⟩
theorem own_three {x : World} {B g c i : Nat} {ms : List St} (h : OwnM x B (.slice (some ⟨g, 0, none⟩) ms.length c) ms) (hi : i < ms.length) {e : St} (he : ms.getD i noS = e) : OwnM (((x.setCell ⟨g, i * 3, none⟩ (.int .i64 e.u)).setCell ⟨g, i * 3 + 1, none⟩ (.int .i64 e.f)).setCell ⟨g, i * 3 + 2, none⟩ (.string e.t)) B (.slice (some ⟨g, 0, none⟩) ms.length c) ms := by
  obtain ⟨h0, h1, h2⟩ := mc_at ms i hi
  rw [he] at h0 h1 h2
  have h' : x.ownsRow B 110 3 (.slice (some ⟨g, 0, none⟩) ms.length c) ms.length (mc ms) := h
  have s0 := (h'.stored (i * 3) (.int .i64 e.u)).1
  rw [list_set_same h0] at s0
  have s1 := (s0.stored (i * 3 + 1) (.int .i64 e.f)).1
  rw [list_set_same h1] at s1
  have s2 := (s1.stored (i * 3 + 2) (.string e.t)).1
  rw [list_set_same h2] at s2
  exact s2
theorem Km.put {w : World} {y : Bx} {u : Value} {x : World} {g c i : Nat} (h : Km w y (.slice (some ⟨g, 0, none⟩) y.ms.length c) u x) (hi : i < y.ms.length) {e : St} (he : y.ms.getD i noS = e) : Km w y (.slice (some ⟨g, 0, none⟩) y.ms.length c) u (((x.setCell ⟨g, i * 3, none⟩ (.int .i64 e.u)).setCell ⟨g, i * 3 + 1, none⟩ (.int .i64 e.f)).setCell ⟨g, i * 3 + 2, none⟩ (.string e.t)) := by
  have hg : w.heap.size + 2 ≤ g := (h.2.2.2.lt g rfl).1
  have n1 : w.heap.size ≠ g := by omega
  have n2 : w.heap.size + 1 ≠ g := by omega
  have hB : w.heap.size ≤ g := by omega
  exact ⟨((h.1.setCell (p := ⟨g, i * 3, none⟩) hB _).setCell (p := ⟨g, i * 3 + 1, none⟩) hB _).setCell (p := ⟨g, i * 3 + 2, none⟩) hB _, ((h.2.1.other n1).other n1).other n1, ((h.2.2.1.other n2).other n2).other n2, own_three h.2.2.2 hi he⟩
/-- While keys are. -/
def Kk (w : World) (y : Bx) (v u : Value) (x : World) : Prop := Km w y v u x ∧ OwnK x (w.heap.size + 2) u y.ks
theorem Kk.keep {w : World} {y : Bx} {v u : Value} {x x' : World} (h : Kk w y v u x) (hb : Below x.heap.size x x') : Kk w y v u x' := ⟨h.1.keep hb, ow.own_below h.2 hb⟩
theorem own_kinds {x : World} {b1 b2 e1 e2 s1 s2 n1 n2 g g2 m m2 c c2 : Nat} {xs ys : List Value} (h : x.ownsRow b1 e1 s1 (.slice (some ⟨g, 0, none⟩) m c) n1 xs) (h2 : x.ownsRow b2 e2 s2 (.slice (some ⟨g2, 0, none⟩) m2 c2) n2 ys) (hne : e1 ≠ e2) : g ≠ g2 := by
  intro e
  subst e
  rcases h.2 with ⟨e, _⟩ | ⟨g', cap, cur, e, _, hb, _⟩
  · cases e
  · cases e
    rcases h2.2 with ⟨e, _⟩ | ⟨g', cap, cur, e, _, hb', _⟩
    · cases e
    · cases e
      rw [hb] at hb'
      simp at hb'
      exact hne hb'.2
theorem own_far {x : World} {b1 b2 e1 e2 s1 s2 n1 n2 g2 m2 c2 j : Nat} {v y : Value} {xs ys : List Value} (h : x.ownsRow b1 e1 s1 v n1 xs) (h2 : x.ownsRow b2 e2 s2 (.slice (some ⟨g2, 0, none⟩) m2 c2) n2 ys) (hne : e1 ≠ e2) : (x.setCell ⟨g2, j, none⟩ y).ownsRow b1 e1 s1 v n1 xs := by
  rcases id h.2 with ⟨e, hz⟩ | ⟨g', cap, cur, e, _⟩
  · exact ⟨h.1, .inl ⟨e, hz⟩⟩
  · subst e
    exact own_cell h (own_kinds h h2 hne)
theorem Kk.put {w : World} {y : Bx} {v : Value} {x : World} {g c i : Nat} (h : Kk w y v (.slice (some ⟨g, 0, none⟩) y.ks.length c) x) (hi : i < y.ks.length) {s : ByteArray} (hs : y.ks.getD i ky.nt = s) : Kk w y v (.slice (some ⟨g, 0, none⟩) y.ks.length c) (x.setCell ⟨g, i, none⟩ (.string s)) := by
  have hg : w.heap.size + 2 ≤ g := (h.2.lt g rfl).1
  have n1 : w.heap.size ≠ g := by omega
  have n2 : w.heap.size + 1 ≠ g := by omega
  have hB : w.heap.size ≤ g := by omega
  have h0 : (y.ks.map Value.string)[i]? = some (.string s) := by
    rw [← hs]
    simp [List.getD_eq_getElem?_getD, hi]
  have h' : x.ownsRow (w.heap.size + 2) 9 1 (.slice (some ⟨g, 0, none⟩) y.ks.length c) y.ks.length (y.ks.map Value.string) := h.2
  have s0 := (h'.stored i (.string s)).1
  rw [list_set_same h0] at s0
  exact ⟨⟨h.1.1.setCell (p := ⟨g, i, none⟩) hB _, h.1.2.1.other n1, h.1.2.2.1.other n2, own_far h.1.2.2.2 h.2 (by decide)⟩, s0⟩
theorem cells3 {x : World} {B g c i : Nat} {ms : List St} (h : OwnM x B (.slice (some ⟨g, 0, none⟩) ms.length c) ms) (hi : i < ms.length) {e : St} (he : ms.getD i noS = e) : x.cell? ⟨g, i * 3, none⟩ = some (.int .i64 e.u) ∧ x.cell? ⟨g, i * 3 + 1, none⟩ = some (.int .i64 e.f) ∧ x.cell? ⟨g, i * 3 + 2, none⟩ = some (.string e.t) := by
  obtain ⟨h0, h1, h2⟩ := mc_at ms i hi
  rw [he] at h0 h1 h2
  have h' : x.ownsRow B 110 3 (.slice (some ⟨g, 0, none⟩) ms.length c) ms.length (mc ms) := h
  exact ⟨by rw [h'.cellAt _ (by omega), h0], by rw [h'.cellAt _ (by omega), h1], by rw [h'.cellAt _ (by omega), h2]⟩
theorem froz3 {x : World} {B g c : Nat} {ms : List St} (h : OwnM x B (.slice (some ⟨g, 0, none⟩) ms.length c) ms) (j : Nat) : x.frozen? ⟨g, j, none⟩ = false := by
  have h' : x.ownsRow B 110 3 (.slice (some ⟨g, 0, none⟩) ms.length c) ms.length (mc ms) := h
  exact h'.frozenAt j
theorem cell1 {x : World} {B g c i : Nat} {ks : List ByteArray} (h : OwnK x B (.slice (some ⟨g, 0, none⟩) ks.length c) ks) (hi : i < ks.length) {s : ByteArray} (hs : ks.getD i ky.nt = s) : x.cell? ⟨g, i, none⟩ = some (.string s) := by
  have h' : x.ownsRow B 9 1 (.slice (some ⟨g, 0, none⟩) ks.length c) ks.length (ks.map Value.string) := h
  rw [h'.cellAt _ (by omega), ← hs]
  simp [List.getD_eq_getElem?_getD, hi]
theorem froz1 {x : World} {B g c : Nat} {ks : List ByteArray} (h : OwnK x B (.slice (some ⟨g, 0, none⟩) ks.length c) ks) (j : Nat) : x.frozen? ⟨g, j, none⟩ = false := by
  have h' : x.ownsRow B 9 1 (.slice (some ⟨g, 0, none⟩) ks.length c) ks.length (ks.map Value.string) := h
  exact h'.frozenAt j
theorem slice_of {w : World} {B e s n : Nat} {v : Value} {xs : List Value} (h : w.ownsRow B e s v n xs) : ∃ a c, v = .slice a n c ∧ (0 < n → ∃ g, a = some ⟨g, 0, none⟩) := by
  rcases h.2 with ⟨rfl, h0⟩ | ⟨g, cap, cur, rfl, _⟩
  · exact ⟨none, 0, by rw [h0], fun h => by omega⟩
  · exact ⟨_, _, rfl, fun _ => ⟨g, rfl⟩⟩
def Vm (M g i : Nat) (v : Value) (e : St) : Nat → Option Value
  | 0 => some (.pointer (some ⟨M, 0 + 3, none⟩))
  | 1 => some v
  | 2 => some (.int .i64 (i : Nat))
  | 3 => some (.pointer (some ⟨M, 0 + 3, none⟩))
  | 4 => some v
  | 5 => some (.int .i64 (i : Nat))
  | 6 => some (.pointer (some ⟨g, i * 3, none⟩))
  | 7 => some (.agg #[.int .i64 e.u, .int .i64 e.f, .string e.t])
  | 8 => some (.agg #[.int .i64 e.u, .int .i64 e.f, .string e.t])
  | 9 => some (.pointer (some ⟨g, i * 3, none⟩))
  | _ => none
def Vk (M g i : Nat) (u : Value) (s : ByteArray) : Nat → Option Value
  | 0 => some (.pointer (some ⟨M, 0 + 4, none⟩))
  | 1 => some u
  | 2 => some (.int .i64 (i : Nat))
  | 3 => some (.string s)
  | 4 => some (.string s)
  | 5 => some (.pointer (some ⟨g, i, none⟩))
  | _ => none

end Go.Proofs.YtncnbhekgkemfaaGreatDoor.bx

namespace Go.Proofs.YtncnbhekgkemfaaGreatDoor.sm
open Go.RowKit Go.WideShapes
open st bx
set_option linter.unusedVariables false

def cod (xs : List Bx) : Int := if xs.length ≤ 4096 then (if sok xs = true then 0 else 1) else 2
def Caps (v : Value) (xs : List Bx) (vs : Nat → Value × Value) : Prop := (∀ a n c, v = .slice a n c → n ≤ c) ∧ ∀ j, j < xs.length → ∀ a n c, (vs j).2 = .slice a n c → n ≤ c


end Go.Proofs.YtncnbhekgkemfaaGreatDoor.sm
