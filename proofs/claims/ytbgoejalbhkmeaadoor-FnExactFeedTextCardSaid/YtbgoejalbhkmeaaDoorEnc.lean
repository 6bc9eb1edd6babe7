/-
  An entry as an argument: opened; measured and copied by the law's own functions.
-/
import Derived.Test.YtbgoejalbhkmeaaDoorEnb
import Derived.ProofKit
import Derived.OpenShut
import Derived.ChangeOld
import Derived.Below
import Derived.Deep.Fields
import Derived.Deep.Slices
namespace Go.Proofs.YtbgoejalbhkmeaaDoor.en
open Go.ChangeShapes Go.WideShapes Go.ChangeAt Go.RowKit Go.Deep
set_option linter.unusedVariables false

theorem six_list {α : Type} {l : List α} (h : l.length = 6) : ∃ a b c d e f, l = [a, b, c, d, e, f] := by
  match l, h with
  | [a, b, c, d, e, f], _ => exact ⟨a, b, c, d, e, f, rfl⟩
theorem six_array {α : Type} {l : Array α} (h : l.size = 6) : ∃ a b c d e f, l = #[a, b, c, d, e, f] := by
  obtain ⟨l⟩ := l
  obtain ⟨a, b, c, d, e, f, rfl⟩ := six_list (show l.length = 6 from h)
  exact ⟨a, b, c, d, e, f, rfl⟩
/-- An entry of texts that a machine can hold. -/
def Held (e : En) : Prop := e.i.size ≤ maxLen ∧ e.t.size ≤ maxLen ∧ e.l.size ≤ maxLen ∧ e.a.size ≤ maxLen ∧ e.c.size ≤ maxLen
theorem cellsE : Tryd.prog.cellsOf 44 = 6 := by kernel_rfl
theorem oneE : ∃ fs : Array Field, Tryd.prog.underlying 44 = some (.struct fs) ∧ fs.size = 6 ∧ oneCellFields Tryd.prog fs = true ∧ ∀ (j : Nat) (f : Field), fs[j]? = some f → f.type = if j = 4 then 3 else 9 := by
  refine ⟨_, Tryd.underlying44, by kernel_rfl, by kernel_rfl, ?_⟩
  intro j f hf
  match j, hf with
  | 0, hf => cases hf; rfl
  | 1, hf => cases hf; rfl
  | 2, hf => cases hf; rfl
  | 3, hf => cases hf; rfl
  | 4, hf => cases hf; rfl
  | 5, hf => cases hf; rfl
  | j + 6, hf => simp at hf
section
variable {H : Type} {enc : TypeId × Value → H} {w : World} {base : Nat} {spare : Nat → Bool} {held : Bool}
set_option maxRecDepth 100000 in
theorem trod_entry {fuel : Nat} {cs : List Value} {x : DataW H × List MemPlace} (h : DataW.trod enc Tryd.prog w base spare held fuel 44 cs = some x) : ∃ e : En, cs = (cl e).toList ∧ Held e := by
  obtain ⟨fs, hs, h6, hone, hty⟩ := oneE
  obtain ⟨xs, n, _, hx, hcl, hlen, hf⟩ := DataW.trod_struct hs h
  rw [cellsE] at hcl
  obtain ⟨c0, c1, c2, c3, c4, c5, rfl⟩ := six_list hcl
  obtain ⟨y0, y1, y2, y3, y4, y5, rfl⟩ := six_list (hlen.trans h6)
  have cell : ∀ (j : Nat) (c : Value) (y : DataW H × List MemPlace), j < 6 → ([c0, c1, c2, c3, c4, c5] : List Value)[j]? = some c → ([y0, y1, y2, y3, y4, y5] : List (DataW H × List MemPlace))[j]? = some y → DataW.trod enc Tryd.prog w base spare held n (if j = 4 then 3 else 9) [c] = some y := by
    intro j c y hj hc hy
    have hfj : fs[j]? = some fs[j] := by simp [h6, hj]
    have hh := hf j _ hfj
    obtain ⟨o, k⟩ := hone_of hone j _ hfj
    rw [o, k, hty j _ hfj, hy] at hh
    have : (([c0, c1, c2, c3, c4, c5] : List Value).drop j).take 1 = [c] := by
      have : j = 0 ∨ j = 1 ∨ j = 2 ∨ j = 3 ∨ j = 4 ∨ j = 5 := by omega
      rcases this with rfl | rfl | rfl | rfl | rfl | rfl
      all_goals
        cases hc
        rfl
    rwa [this] at hh
  have str : ∀ (j : Nat) (c : Value) (y : DataW H × List MemPlace), j < 6 → j ≠ 4 → ([c0, c1, c2, c3, c4, c5] : List Value)[j]? = some c → ([y0, y1, y2, y3, y4, y5] : List (DataW H × List MemPlace))[j]? = some y → ∃ s : ByteArray, c = .string s ∧ s.size ≤ maxLen := by
    intro j c y hj h4 hc hy
    have hh := cell j c y hj hc hy
    rw [if_neg h4] at hh
    obtain ⟨s, e, _, hl⟩ := DataW.trod_string Tryd.underlying9 hh
    simp only [List.cons.injEq, and_true] at e
    exact ⟨s, e, hl⟩
  obtain ⟨s0, rfl, l0⟩ := str 0 _ _ (by omega) (by omega) rfl rfl
  obtain ⟨s1, rfl, l1⟩ := str 1 _ _ (by omega) (by omega) rfl rfl
  obtain ⟨s2, rfl, l2⟩ := str 2 _ _ (by omega) (by omega) rfl rfl
  obtain ⟨s3, rfl, l3⟩ := str 3 _ _ (by omega) (by omega) rfl rfl
  obtain ⟨s5, rfl, l5⟩ := str 5 _ _ (by omega) (by omega) rfl rfl
  have hh := cell 4 _ _ (by omega) rfl rfl
  rw [if_pos rfl] at hh
  obtain ⟨z, e, _, _⟩ := DataW.trod_int Tryd.underlying3 hh
  simp only [List.cons.injEq, and_true] at e
  subst e
  exact ⟨⟨s0, s1, s2, s3, z, s5⟩, rfl, l0, l1, l2, l3, l5⟩
set_option maxRecDepth 100000 in
theorem open_entry {r : Reach} {b0 : Nat} {v : Value} {d : DataW H} {p : List MemPlace} (hv : Value.okWide Tryd.prog w r b0 44 v) (h : DataW.Trod enc Tryd.prog w base spare held 44 v d p) : ∃ e : En, v = EV e ∧ Held e := by
  obtain ⟨fs, hs, h6, hone, hty⟩ := oneE
  obtain ⟨cs, rfl, hsz⟩ := okWide_struct hs hv
  obtain ⟨fuel, hf⟩ := h
  obtain ⟨e, he, hh⟩ := trod_entry hf
  refine ⟨e, ?_, hh⟩
  have : cs.toList = (cl e).toList := by simpa [Value.cells] using he
  exact congrArg Value.agg (Array.toList_inj.1 this)
end

set_option maxHeartbeats 1000000 in
theorem szEntry_any (e : En) (left : Int) (w : World) (h0 : 0 ≤ left) (h1 : left ≤ 1048576) (hh : Held e) :
    Calls Tryd.prog 19 #[EV e, .int .i64 left] w fun r w' => (∃ z : Int, r = .returned (.int .i64 z) ∧ z ≤ left ∧ -1 ≤ z ∧ (0 ≤ z → Small e)) ∧ Below w.heap.size w w' := by
  obtain ⟨i, t, l, a, d, c⟩ := e
  obtain ⟨s0, s1, s2, s3, s5⟩ := hh
  unfold maxLen at s0 s1 s2 s3 s5
  simp only at s0 s1 s2 s3 s5
  have hbw : Below w.heap.size w (w.alloc (.cells #[.string i, .string t, .string l, .string a, .int .i64 d, .string c] 44)) := (Below.refl _ _).alloc (Nat.le_refl _) _
  unfold EV cl
  simp only
  by_cases g0 : left - (i.size : Int) < 0
  · go_enter Tryd.func19, Tryd.ntmps19
    go_wp2
    go_ret
    exact ⟨⟨-1, rfl, by omega, by omega, by omega⟩, hbw⟩
  by_cases g1 : left - (i.size : Int) - (t.size : Int) < 0
  · go_enter Tryd.func19, Tryd.ntmps19
    go_wp2
    go_ret
    exact ⟨⟨-1, rfl, by omega, by omega, by omega⟩, hbw⟩
  by_cases g2 : left - (i.size : Int) - (t.size : Int) - (l.size : Int) < 0
  · go_enter Tryd.func19, Tryd.ntmps19
    go_wp2
    go_ret
    exact ⟨⟨-1, rfl, by omega, by omega, by omega⟩, hbw⟩
  by_cases g3 : left - (i.size : Int) - (t.size : Int) - (l.size : Int) - (a.size : Int) < 0
  · go_enter Tryd.func19, Tryd.ntmps19
    go_wp2
    go_ret
    exact ⟨⟨-1, rfl, by omega, by omega, by omega⟩, hbw⟩
  by_cases g4 : left - (i.size : Int) - (t.size : Int) - (l.size : Int) - (a.size : Int) - (c.size : Int) < 0
  · go_enter Tryd.func19, Tryd.ntmps19
    go_wp2
    go_ret
    exact ⟨⟨-1, rfl, by omega, by omega, by omega⟩, hbw⟩
  · go_enter Tryd.func19, Tryd.ntmps19
    go_wp2
    go_ret
    exact ⟨⟨_, rfl, by omega, by omega, fun _ => ⟨by show i.size ≤ _; omega, by show t.size ≤ _; omega, by show l.size ≤ _; omega, by show a.size ≤ _; omega, by show c.size ≤ _; omega⟩⟩, hbw⟩

set_option maxHeartbeats 1000000 in
set_option maxRecDepth 100000 in
theorem toEntry_any (e : En) (w : World) : Calls Tryd.prog 25 #[EV e] w fun r w' => r = .returned (EV e) ∧ Below w.heap.size w w' := by
  obtain ⟨i, t, l, a, d, c⟩ := e
  unfold EV cl
  simp only
  go_enter Tryd.func25, Tryd.ntmps25
  go_wp2
  refine bodyPost_ret (v := .agg #[.string i, .string t, .string l, .string a, .int .i64 d, .string c]) (by simp [results, Tryd.results25, go_sem]) rfl ⟨rfl, ?_⟩
  exact (((Below.refl _ w).alloc (Nat.le_refl _) _).alloc (by simp) _).alloc (by simp; omega) _
end Go.Proofs.YtbgoejalbhkmeaaDoor.en
