/-
  Stored mails as rows: measured, copied and compared by the law's own functions; as an argument, opened.
-/
import Derived.Test.YtejmfffapkmjoaaDoorOwn
import Derived.Test.YtejmfffapkmjoaaDoorRows
import Derived.Test.YtejmfffapkmjoaaDoorGrw
import Derived.WalkKit
import Derived.WalkLawsBesides
import Derived.ProofKit
import Derived.OpenShut
import Derived.ChangeOld
import Derived.Below
import Derived.BigRegion
import Derived.Laws.OwnMore
import Derived.Lib.SmallJoins
import Derived.Deep.Fields
import Derived.Deep.Slices
namespace Go.Proofs.YtejmfffapkmjoaaDoor.st
open Go.ChangeShapes Go.WideShapes Go.ChangeAt Go.RowKit Go.Joins Go.Deep
open gr
set_option linter.unusedVariables false

/-- A stored mail: uid, flags, text. -/
structure St where
  u : Int
  f : Int
  t : ByteArray
def noS : St := ⟨0, 0, ⟨#[]⟩⟩
/-- A number that an int can be. -/
def In (z : Int) : Prop := -9223372036854775808 ≤ z ∧ z ≤ 9223372036854775807
theorem in_of_wf {z : Int} (h : (Lit.int .i64 z).wf = true) : In z := by
  have h1 : IntKind.i64.min = -9223372036854775808 := rfl
  have h2 : IntKind.i64.max = 9223372036854775807 := rfl
  simp [Lit.wf, h1, h2] at h
  exact ⟨by omega, by omega⟩
def Held (e : St) : Prop := In e.u ∧ In e.f ∧ e.t.size ≤ maxLen
def Small (e : St) : Prop := In e.u ∧ In e.f ∧ e.t.size ≤ 1048576
def At3 (w : World) (b o : Nat) (e : St) : Prop :=
  w.cell? ⟨b, o, none⟩ = some (.int .i64 e.u) ∧ w.cell? ⟨b, o + 1, none⟩ = some (.int .i64 e.f) ∧ w.cell? ⟨b, o + 2, none⟩ = some (.string e.t)
theorem At3.lt {w : World} {b o : Nat} {e : St} (h : At3 w b o e) : b < w.heap.size := World.block_lt_of_cell? w _ h.1
theorem At3.keep {w w' : World} {n b o : Nat} {e : St} (h : At3 w b o e) (hb : Below n w w') (hn : b < n) : At3 w' b o e := by
  obtain ⟨h0, h1, h2⟩ := h
  exact ⟨(hb.cell (p := ⟨b, o, none⟩) hn).trans h0, (hb.cell (p := ⟨b, o + 1, none⟩) hn).trans h1, (hb.cell (p := ⟨b, o + 2, none⟩) hn).trans h2⟩
/-- A slice of stored mails, in blocks below n. -/
def MailsIn (w : World) (n : Nat) (v : Value) (es : List St) : Prop :=
  ∃ a cap, v = .slice a es.length cap ∧ (es = [] ∨ ∃ b off, a = some ⟨b, off, none⟩ ∧ b < n ∧ ∀ j, j < es.length → At3 w b (off + j * 3) (es.getD j noS))
theorem mails_below {w w' : World} {n k : Nat} {v : Value} {es : List St} (h : MailsIn w n v es) (hb : Below k w w') (hk : n ≤ k) : MailsIn w' n v es := by
  obtain ⟨a, cap, rfl, h⟩ := h
  refine ⟨a, cap, rfl, ?_⟩
  rcases h with h | ⟨b, off, rfl, hb', h⟩
  · exact .inl h
  · exact .inr ⟨b, off, rfl, hb', fun j hj => (h j hj).keep hb (by omega)⟩
theorem mails_more {w : World} {n k : Nat} {v : Value} {es : List St} (h : MailsIn w n v es) (hk : n ≤ k) : MailsIn w k v es := by
  obtain ⟨a, cap, rfl, h⟩ := h
  refine ⟨a, cap, rfl, ?_⟩
  rcases h with h | ⟨b, off, rfl, hb', h⟩
  · exact .inl h
  · exact .inr ⟨b, off, rfl, by omega, h⟩
def Smalls (es : List St) : Prop := es.length ≤ 1048576 ∧ ∀ j, j < es.length → Small (es.getD j noS)
def SmallsTo (es : List St) (k : Nat) : Prop := es.length ≤ 1048576 ∧ ∀ j, j < k → Small (es.getD j noS)

set_option maxHeartbeats 1000000 in
theorem szStored_any (e : St) (left : Int) (w : World) (h0 : 0 ≤ left) (h1 : left ≤ 1048576) (hh : Held e) :
    Calls Tryd.prog 4 #[.agg #[.int .i64 e.u, .int .i64 e.f, .string e.t], .int .i64 left] w fun r w' => (∃ z : Int, r = .returned (.int .i64 z) ∧ z ≤ left ∧ -1 ≤ z ∧ (0 ≤ z → Small e)) ∧ Below w.heap.size w w' := by
  obtain ⟨u, f, t⟩ := e
  obtain ⟨s0, s1, s2⟩ := hh
  have HI : Hid (In u ∧ In f) := ⟨s0, s1⟩
  unfold maxLen at s2
  simp only at s2 ⊢
  clear s0 s1
  have hbw : Below w.heap.size w (w.alloc (.cells #[.int .i64 u, .int .i64 f, .string t] 23)) := (Below.refl _ _).alloc (Nat.le_refl _) _
  by_cases g0 : left - (t.size : Int) < 0
  · go_enter Tryd.func4, Tryd.ntmps4
    go_wp2
    go_ret
    exact ⟨⟨-1, rfl, by omega, by omega, by omega⟩, hbw⟩
  · go_enter Tryd.func4, Tryd.ntmps4
    go_wp2
    go_ret
    exact ⟨⟨_, rfl, by omega, by omega, fun _ => ⟨HI.out.1, HI.out.2, by show t.size ≤ _; omega⟩⟩, hbw⟩


theorem infoS : (Tryd.prog.info? 29).map (fun i => (i.zero, i.size, i.bytes)) = some (some (.agg #[.int .i64 0, .int .i64 0, .string ⟨#[]⟩]), 3, 32) := by kernel_rfl
def put3 (xs : List Value) (o : Nat) (e : St) : List Value := ((xs.set o (.int .i64 e.u)).set (o + 1) (.int .i64 e.f)).set (o + 2) (.string e.t)
theorem put_len (xs : List Value) (o : Nat) (e : St) : (put3 xs o e).length = xs.length := by simp [put3]
theorem put_other {xs : List Value} {o j : Nat} {e : St} (h : j < o ∨ o + 2 < j) : (put3 xs o e)[j]? = xs[j]? := by
  unfold put3
  rw [List.getElem?_set_ne (by omega), List.getElem?_set_ne (by omega), List.getElem?_set_ne (by omega)]
def In3 (xs : List Value) (o : Nat) (e : St) : Prop := xs[o]? = some (.int .i64 e.u) ∧ xs[o + 1]? = some (.int .i64 e.f) ∧ xs[o + 2]? = some (.string e.t)
theorem put_same {xs : List Value} {o : Nat} {e : St} (h : o + 2 < xs.length) : In3 (put3 xs o e) o e := by
  unfold put3 In3
  refine ⟨?_, ?_, ?_⟩
  · rw [List.getElem?_set_ne (by omega), List.getElem?_set_ne (by omega), List.getElem?_set_self (by omega)]
  · rw [List.getElem?_set_ne (by omega), List.getElem?_set_self (by simp; omega)]
  · rw [List.getElem?_set_self (by simp; omega)]
theorem in_other {xs : List Value} {o p : Nat} {e x : St} (h : In3 xs p x) (hp : p + 2 < o ∨ o + 2 < p) : In3 (put3 xs o e) p x := by
  obtain ⟨h0, h1, h2⟩ := h
  refine ⟨?_, ?_, ?_⟩ <;> (rw [put_other (by omega)]; assumption)
def Lay (es : List St) (k : Nat) (xs : List Value) : Prop := ∀ j, j < k → In3 xs (j * 3) (es.getD j noS)
theorem lay_step {es : List St} {k : Nat} {xs : List Value} (h : Lay es k xs) (hl : k * 3 + 2 < xs.length) {x : St} (hx : es.getD k noS = x) : Lay es (k + 1) (put3 xs (k * 3) x) := by
  intro j hj
  by_cases e : j = k
  · subst e
    rw [hx]
    exact put_same hl
  · exact in_other (h j (by omega)) (by omega)
theorem mails_lay {w : World} {base e g n cap N : Nat} {es : List St} {xs : List Value} (hn : n = es.length) (h : w.ownsRow base e 3 (.slice (some ⟨g, 0, none⟩) n cap) n xs) (hl : Lay es n xs) (hg : g < N) : MailsIn w N (.slice (some ⟨g, 0, none⟩) n cap) es := by
  subst hn
  refine ⟨_, cap, rfl, .inr ⟨g, 0, rfl, hg, fun j hj => ?_⟩⟩
  obtain ⟨h0, h1, h2⟩ := hl j hj
  refine ⟨?_, ?_, ?_⟩
  · rw [Nat.zero_add, h.cellAt _ (by omega), h0]
  · rw [Nat.zero_add, h.cellAt _ (by omega), h1]
  · rw [Nat.zero_add, h.cellAt _ (by omega), h2]

set_option maxHeartbeats 1000000 in
set_option maxRecDepth 100000 in
theorem toStored_any (e : St) (w : World) : Calls Tryd.prog 7 #[.agg #[.int .i64 e.u, .int .i64 e.f, .string e.t]] w fun r w' => r = .returned (.agg #[.int .i64 e.u, .int .i64 e.f, .string e.t]) ∧ Below w.heap.size w w' := by
  obtain ⟨u, f, t⟩ := e
  simp only
  go_enter Tryd.func7, Tryd.ntmps7
  go_wp2
  refine bodyPost_ret (v := .agg #[.int .i64 u, .int .i64 f, .string t]) (by simp [results, Tryd.results7, go_sem]) rfl ⟨rfl, ?_⟩
  exact (((Below.refl _ w).alloc (Nat.le_refl _) _).alloc (by simp) _).alloc (by simp; omega) _



section
variable {H : Type} {enc : TypeId × Value → H} {w : World} {base : Nat} {spare : Nat → Bool} {held : Bool}
theorem trod_cells {T : TypeId} {fs : Array Field} {fuel : Nat} {cs : List Value} {x : DataW H × List MemPlace} (hs : Tryd.prog.underlying T = some (.struct fs)) (hone : oneCellFields Tryd.prog fs = true) (hc : Tryd.prog.cellsOf T = fs.size) (h : DataW.trod enc Tryd.prog w base spare held fuel T cs = some x) :
    cs.length = fs.size ∧ ∃ n, ∀ (j : Nat) (f : Field) (c : Value), fs[j]? = some f → cs[j]? = some c → ∃ y, DataW.trod enc Tryd.prog w base spare held n f.type [c] = some y := by
  obtain ⟨xs, n, _, hx, hcl, hlen, hf⟩ := DataW.trod_struct hs h
  rw [hc] at hcl
  refine ⟨hcl, n, fun j f c hfj hcj => ?_⟩
  have hh := hf j f hfj
  obtain ⟨o, k⟩ := hone_of hone j f hfj
  rw [o, k] at hh
  have hj : j < xs.length := by
    rw [hlen]
    exact (Array.getElem?_eq_some_iff.1 hfj).1
  have ht : (cs.drop j).take 1 = [c] := by
    obtain ⟨hj2, e⟩ := List.getElem?_eq_some_iff.1 hcj
    rw [List.drop_eq_getElem_cons hj2, e]
    rfl
  rw [ht, List.getElem?_eq_getElem hj] at hh
  exact ⟨_, hh⟩
theorem three_list {α : Type} {l : List α} (h : l.length = 3) : ∃ a b c, l = [a, b, c] := by
  match l, h with
  | [a, b, c], _ => exact ⟨a, b, c, rfl⟩
theorem cellsS : Tryd.prog.cellsOf 23 = 3 := by kernel_rfl
set_option maxRecDepth 100000 in
theorem trod_stored {fuel : Nat} {cs : List Value} {x : DataW H × List MemPlace} (h : DataW.trod enc Tryd.prog w base spare held fuel 23 cs = some x) : ∃ e : St, cs = [.int .i64 e.u, .int .i64 e.f, .string e.t] ∧ Held e := by
  obtain ⟨hl, n, hall⟩ := trod_cells Tryd.underlying23 (by kernel_rfl) (by kernel_rfl) h
  obtain ⟨c0, c1, c2, rfl⟩ := three_list hl
  obtain ⟨y0, t0⟩ := hall 0 _ _ rfl rfl
  obtain ⟨y1, t1⟩ := hall 1 _ _ rfl rfl
  obtain ⟨y2, t2⟩ := hall 2 _ _ rfl rfl
  obtain ⟨z0, e0, _, f0⟩ := DataW.trod_int Tryd.underlying3 t0
  obtain ⟨z1, e1, _, f1⟩ := DataW.trod_int Tryd.underlying3 t1
  obtain ⟨s2, e2, _, f2⟩ := DataW.trod_string Tryd.underlying9 t2
  simp only [List.cons.injEq, and_true] at e0 e1 e2
  subst e0 e1 e2
  exact ⟨⟨z0, z1, s2⟩, rfl, in_of_wf f0, in_of_wf f1, f2⟩
end
end Go.Proofs.YtejmfffapkmjoaaDoor.st
