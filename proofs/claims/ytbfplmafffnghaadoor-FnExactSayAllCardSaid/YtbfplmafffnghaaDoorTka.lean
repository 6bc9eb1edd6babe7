/-
  Commands that are taken off a buffer whose lines count nothing: plain facts, and the program's TakeCommand there.
-/
import Derived.Test.YtbfplmafffnghaaDoorOwn
import Derived.Test.YtbfplmafffnghaaDoorRows
import Derived.Test.YtbfplmafffnghaaDoorShf
import Derived.Test.YtbfplmafffnghaaDoorGrw
import Derived.WalkKit
import Derived.WalkLawsBesides
import Derived.Below
namespace Go.Proofs.YtbfplmafffnghaaDoor.tk
open Go.RowKit
set_option linter.unusedVariables false

theorem idx_none : ∀ {l : List UInt8}, (∀ b ∈ l, b ≠ 13) → Lib.index l [13, 10] = -1
  | [], _ => rfl
  | b :: l, h => by
    have hb : b ≠ 13 := h b List.mem_cons_self
    have hp : ([13, 10] : List UInt8).isPrefixOf (b :: l) = false := by simp [List.isPrefixOf, Ne.symm hb]
    rw [Lib.index, hp, idx_none (l := l) (fun x hx => h x (List.mem_cons_of_mem _ hx))]
    rfl
theorem idx_half : ∀ {l : List UInt8}, (∀ b ∈ l, b ≠ 13) → Lib.index (l ++ [13]) [13, 10] = -1
  | [], _ => rfl
  | b :: l, h => by
    have hb : b ≠ 13 := h b List.mem_cons_self
    have hp : ([13, 10] : List UInt8).isPrefixOf (b :: (l ++ [13])) = false := by simp [List.isPrefixOf, Ne.symm hb]
    rw [List.cons_append, Lib.index, hp, idx_half (l := l) (fun x hx => h x (List.mem_cons_of_mem _ hx))]
    rfl
theorem idx_at : ∀ {u : List UInt8} (r : List UInt8), (∀ b ∈ u, b ≠ 13) → Lib.index (u ++ 13 :: 10 :: r) [13, 10] = u.length
  | [], r, _ => by
    have hp : ([13, 10] : List UInt8).isPrefixOf (13 :: 10 :: r) = true := by simp [List.isPrefixOf]
    rw [List.nil_append, Lib.index, hp]
    rfl
  | b :: u, r, h => by
    have hb : b ≠ 13 := h b List.mem_cons_self
    have hp : ([13, 10] : List UInt8).isPrefixOf (b :: (u ++ 13 :: 10 :: r)) = false := by simp [List.isPrefixOf, Ne.symm hb]
    rw [List.cons_append, Lib.index, hp, idx_at (u := u) r (fun x hx => h x (List.mem_cons_of_mem _ hx))]
    simp
/-- A line that is taken as it stands. -/
def Ln (l : List UInt8) : Prop := l.length ≤ 120 ∧ ∀ b ∈ l, b ≠ 13 ∧ b ≠ 123
def cat : List (List UInt8) → List UInt8
  | [] => []
  | l :: ls => l ++ 13 :: 10 :: cat ls
theorem part {B A : List UInt8} {ls : List (List UInt8)} (h : B ++ A = cat ls) (hl : ∀ l ∈ ls, Ln l) :
    (Lib.index B [13, 10] = -1 ∧ B.length ≤ 121 ∧ (A = [] → B = [] ∧ ls = [])) ∨ ∃ l ls' B', ls = l :: ls' ∧ B = l ++ 13 :: 10 :: B' ∧ B' ++ A = cat ls' := by
  match ls, h, hl with
  | [], h, _ =>
    have h : B ++ A = [] := h
    have e : B = [] := (List.append_eq_nil_iff.1 h).1
    subst e
    exact .inl ⟨rfl, by simp, fun _ => ⟨rfl, rfl⟩⟩
  | l :: ls, h, hl =>
    have hl0 : Ln l := hl l List.mem_cons_self
    have h : B ++ A = l ++ 13 :: 10 :: cat ls := h
    rcases List.append_eq_append_iff.1 h with ⟨c, e1, e2⟩ | ⟨c, e1, e2⟩
    · left
      have hB : ∀ b ∈ B, b ≠ 13 := fun b hb => (hl0.2 b (by rw [e1]; exact List.mem_append_left _ hb)).1
      refine ⟨idx_none hB, by have := hl0.1; rw [e1] at this; simp at this; omega, fun e => ?_⟩
      subst e
      simp at e2
    · match c, e1, e2 with
      | [], e1, e2 =>
        left
        have e : B = l := by rw [e1]; simp
        refine ⟨by rw [e]; exact idx_none (fun b hb => (hl0.2 b hb).1), by rw [e]; have := hl0.1; omega, fun e => ?_⟩
        subst e
        simp at e2
      | [x], e1, e2 =>
        left
        have e2 : 13 :: 10 :: cat ls = x :: A := e2
        injection e2 with e3 e4
        subst e3
        refine ⟨by rw [e1]; exact idx_half (fun b hb => (hl0.2 b hb).1), by rw [e1]; have := hl0.1; simp; omega, fun e => ?_⟩
        subst e
        simp at e4
      | x :: y :: c, e1, e2 =>
        right
        have e2 : 13 :: 10 :: cat ls = x :: y :: (c ++ A) := e2
        injection e2 with e3 e4
        injection e4 with e5 e6
        subst e3 e5
        exact ⟨l, ls, c, rfl, e1, e6.symm⟩

theorem last_none : ∀ {l : List UInt8}, (∀ b ∈ l, b ≠ 123) → Lib.hasPrefix l [123] = false
  | [], _ => rfl
  | b :: l, h => by
    have hb : b ≠ 123 := h b List.mem_cons_self
    simp [Lib.hasPrefix, List.isPrefixOf, Ne.symm hb]
set_option maxHeartbeats 1000000 in
set_option maxRecDepth 100000 in
theorem said_no (s : ByteArray) (w : World) (hs : s.size ≤ 1048576) (hn : Lib.hasPrefix s.data.toList [123] = false) :
    Calls Tryd.prog 28 #[.string s] w fun e w' => e = .returned (.tuple #[.int .i64 0, .bool false]) ∧ Below w.heap.size w w' := by
  have ht : Lib.trimPrefix s.data.toList [123] = s.data.toList := by unfold Lib.trimPrefix; rw [hn]; rfl
  have HP : Hid (∀ W, Calls Tryd.prog 31 #[.string s, .string ⟨#[123]⟩] W fun e w' => e = .returned (.tuple #[.string s, .bool false]) ∧ w' = W) := fun W => by
    have := Tryd.strings_CutPrefix s ⟨#[123]⟩ W
    rw [show (⟨#[123]⟩ : ByteArray).data.toList = [123] from rfl, hn, ht] at this
    exact this
  have HS : Hid (∀ W, ∃ x c, Calls Tryd.prog 32 #[.string s, .string ⟨#[125]⟩] W fun e w' => e = .returned (.tuple #[.string x, .bool c]) ∧ w' = W) := fun W => ⟨_, _, Tryd.strings_CutSuffix s ⟨#[125]⟩ W (by omega)⟩
  clear ht hn
  obtain ⟨x, c, hcs⟩ := HS.out w
  have HS : Hid (Calls Tryd.prog 32 #[.string s, .string ⟨#[125]⟩] w fun e w' => e = .returned (.tuple #[.string x, .bool c]) ∧ w' = w) := hcs
  clear hcs
  go_enter Tryd.func28, Tryd.ntmps28
  go_wp2_with fail
  refine (HP.out _).mono ?_
  rintro e w1 ⟨rfl, h1⟩
  have h1 := h1.symm
  subst h1
  go_wp2_with fail
  refine HS.out.mono ?_
  rintro e w1 ⟨rfl, h1⟩
  have h1 := h1.symm
  subst h1
  clear HP HS
  go_wp2
  go_ret2
  exact ⟨rfl, Below.refl _ _⟩
end Go.Proofs.YtbfplmafffnghaaDoor.tk
