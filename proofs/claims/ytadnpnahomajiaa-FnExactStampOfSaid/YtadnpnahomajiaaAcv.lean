/-
  A calendar as an argument, opened and shut; the contract of the law's own copy of it.
-/
import Derived.Test.YtadnpnahomajiaaDat
import Derived.Test.YtadnpnahomajiaaRows
import Derived.WalkKit
import Derived.WalkLawsBesides
import Derived.ProofKit
import Derived.OpenShut
import Derived.Below
import Derived.Deep.Fields
namespace Go.Proofs.Ytadnpnahomajiaa.ac
open Go.ChangeShapes Go.WideShapes Go.ChangeAt Go.RowKit Go.Deep
open dt
set_option linter.unusedVariables false

theorem six_list {α : Type} {l : List α} (h : l.length = 6) : ∃ a b c d e f, l = [a, b, c, d, e, f] := by
  match l, h with
  | [a, b, c, d, e, f], _ => exact ⟨a, b, c, d, e, f, rfl⟩
theorem six_array {α : Type} {l : Array α} (h : l.size = 6) : ∃ a b c d e f, l = #[a, b, c, d, e, f] := by
  obtain ⟨l⟩ := l
  obtain ⟨a, b, c, d, e, f, rfl⟩ := six_list (show l.length = 6 from h)
  exact ⟨a, b, c, d, e, f, rfl⟩
/-- A number that an int can be. -/
def Fits (n : Int) : Prop := (Lit.int .i64 n).wf = true
def D6 {H : Type} (y m d h i s : Int) : DataW H := .agg [.lit (.int .i64 y), .lit (.int .i64 m), .lit (.int .i64 d), .lit (.int .i64 h), .lit (.int .i64 i), .lit (.int .i64 s)]
theorem cellsC : Try.prog.cellsOf 23 = 6 := by kernel_rfl
theorem oneC : ∃ fs : Array Field, Try.prog.underlying 23 = some (.struct fs) ∧ fs.size = 6 ∧ oneCellFields Try.prog fs = true ∧ ∀ (j : Nat) (f : Field), fs[j]? = some f → f.type = 3 := by
  refine ⟨_, Try.underlying23, by kernel_rfl, by kernel_rfl, ?_⟩
  intro j f hf
  match j, hf with
  | 0, hf => cases hf; rfl
  | 1, hf => cases hf; rfl
  | 2, hf => cases hf; rfl
  | 3, hf => cases hf; rfl
  | 4, hf => cases hf; rfl
  | 5, hf => cases hf; rfl
  | j + 6, hf => simp at hf
section
variable {H : Type} {enc : TypeId × Value → H} {w : World} {base : Nat} {spare : Nat → Bool} {held : Bool} {r : Reach} {b0 : Nat} {v : Value} {d : DataW H} {p : List MemPlace}
theorem open_civil (hv : Value.okWide Try.prog w r b0 23 v) (h : DataW.Trod enc Try.prog w base spare held 23 v d p) :
    ∃ y m dd h i s : Int, v = C6 y m dd h i s ∧ d = D6 y m dd h i s ∧ p = [] ∧ Fits y ∧ Fits m ∧ Fits dd ∧ Fits h ∧ Fits i ∧ Fits s := by
  obtain ⟨fs, hs, h6, hone, hty⟩ := oneC
  obtain ⟨cs, rfl, hsz⟩ := okWide_struct hs hv
  obtain ⟨c0, c1, c2, c3, c4, c5, rfl⟩ := six_array (hsz.trans cellsC)
  obtain ⟨fuel, hf⟩ := h
  obtain ⟨xs, n, _, hx, _, hlen, hf⟩ := DataW.trod_struct hs hf
  obtain ⟨y0, y1, y2, y3, y4, y5, rfl⟩ := six_list (hlen.trans h6)
  have one : ∀ (j : Nat) (c : Value) (y : DataW H × List MemPlace), j < 6 → ([c0, c1, c2, c3, c4, c5] : List Value)[j]? = some c → ([y0, y1, y2, y3, y4, y5] : List (DataW H × List MemPlace))[j]? = some y → ∃ z : Int, c = .int .i64 z ∧ y = (.lit (.int .i64 z), []) ∧ Fits z := by
    intro j c y hj hc hy
    have hfj : fs[j]? = some fs[j] := by simp [h6, hj]
    have hh := hf j _ hfj
    obtain ⟨o, k⟩ := hone_of hone j _ hfj
    rw [hty j _ hfj] at hh k
    rw [o, k, hy] at hh
    obtain ⟨z, e, ey, wz⟩ := DataW.trod_int Try.underlying3 hh
    have : ((Value.agg #[c0, c1, c2, c3, c4, c5]).cells.toList.drop j).take 1 = [c] := by
      have : j = 0 ∨ j = 1 ∨ j = 2 ∨ j = 3 ∨ j = 4 ∨ j = 5 := by omega
      rcases this with rfl | rfl | rfl | rfl | rfl | rfl
      all_goals
        cases hc
        rfl
    rw [this] at e
    cases e
    exact ⟨z, rfl, ey, wz⟩
  obtain ⟨z0, rfl, rfl, w0⟩ := one 0 _ _ (by omega) rfl rfl
  obtain ⟨z1, rfl, rfl, w1⟩ := one 1 _ _ (by omega) rfl rfl
  obtain ⟨z2, rfl, rfl, w2⟩ := one 2 _ _ (by omega) rfl rfl
  obtain ⟨z3, rfl, rfl, w3⟩ := one 3 _ _ (by omega) rfl rfl
  obtain ⟨z4, rfl, rfl, w4⟩ := one 4 _ _ (by omega) rfl rfl
  obtain ⟨z5, rfl, rfl, w5⟩ := one 5 _ _ (by omega) rfl rfl
  cases hx
  exact ⟨z0, z1, z2, z3, z4, z5, rfl, rfl, rfl, w0, w1, w2, w3, w4, w5⟩
theorem shut_civil {y m dd h i s : Int} (w0 : Fits y) (w1 : Fits m) (w2 : Fits dd) (w3 : Fits h) (w4 : Fits i) (w5 : Fits s) :
    DataW.Trod enc Try.prog w base spare held 23 (C6 y m dd h i s) (D6 y m dd h i s) [] := by
  unfold Fits at w0 w1 w2 w3 w4 w5
  have c3 : Try.prog.cellsOf 3 = 1 := by kernel_rfl
  refine ⟨2, ?_⟩
  have := trod_struct_mk (enc := enc) (w := w) (base := base) (spare := spare) (held := held) (n := 1) (cs := [.int .i64 y, .int .i64 m, .int .i64 dd, .int .i64 h, .int .i64 i, .int .i64 s])
    (xs := [(.lit (.int .i64 y), []), (.lit (.int .i64 m), []), (.lit (.int .i64 dd), []), (.lit (.int .i64 h), []), (.lit (.int .i64 i), []), (.lit (.int .i64 s), [])]) Try.underlying23 (by rw [cellsC]; rfl)
    (by simp [DataW.trod, Try.underlying3, c3, w0, w1, w2, w3, w4, w5])
  exact this
end
set_option maxHeartbeats 1000000 in
set_option maxRecDepth 100000 in
theorem to_any (y m d h i s : Int) (w : World) : Calls Try.prog 9 #[C6 y m d h i s] w fun e w' => e = .returned (C6 y m d h i s) ∧ Below w.heap.size w w' := by
  unfold C6
  go_enter Try.func9, Try.ntmps9
  go_wp2
  refine bodyPost_ret (v := .agg #[.int .i64 y, .int .i64 m, .int .i64 d, .int .i64 h, .int .i64 i, .int .i64 s]) (by simp [results, Try.results9, go_sem]) rfl ⟨rfl, ?_⟩
  exact (((Below.refl _ w).alloc (Nat.le_refl _) _).alloc (by simp) _).alloc (by simp; omega) _
end Go.Proofs.Ytadnpnahomajiaa.ac
