/-
  An overview of a mail: plain facts, and the specification's functions.
-/
import Derived.Test.YtglgaangkffbiaaDoorFpp
import Derived.Test.YtglgaangkffbiaaDoorPae
import Derived.Test.YtglgaangkffbiaaDoorPaf
import Derived.Test.YtglgaangkffbiaaDoorDig
namespace Go.Proofs.YtglgaangkffbiaaDoor.ov
open Go.RowKit
open fa fo ml fp gr
set_option linter.unusedVariables false

/-- The names of the four fields. -/
def nmL : List ByteArray := [⟨#[83, 117, 98, 106, 101, 99, 116]⟩, ⟨#[70, 114, 111, 109]⟩, ⟨#[68, 97, 116, 101]⟩, ⟨#[77, 101, 115, 115, 97, 103, 101, 45, 73, 68]⟩]
def nmAt (k : Nat) : ByteArray := nmL.getD k ⟨#[]⟩
theorem nm_size (k : Nat) : (nmAt k).size ≤ 10 := by
  match k with
  | 0 => decide
  | 1 => decide
  | 2 => decide
  | 3 => decide
  | k + 4 => exact Nat.zero_le _
/-- The value of the first field of a name, or nothing. -/
def fv (ps : List Pr) (nm : ByteArray) : ByteArray := (find ps nm).getD ⟨#[]⟩
theorem fret (ps : List Pr) (nm : ByteArray) : FRet (find ps nm) = .tuple #[.string (fv ps nm), .bool (find ps nm).isSome] := by
  unfold fv
  cases find ps nm <;> rfl
theorem fv_size {l : B} {fs : List (B × B)} {b : B} (h : IsMail l fs b) (nm : ByteArray) : (fv (prs fs) nm).size ≤ 2000 := by
  unfold fv
  cases hf : find (prs fs) nm with
  | none => exact Nat.zero_le _
  | some x => exact safe_size (find_safe h hf)
/-- The uid and the first fields. -/
def ov1 (u : Nat) (ps : List Pr) : Nat → List UInt8
  | 0 => Lib.decDigits u
  | k + 1 => ov1 u ps k ++ 9 :: (fv ps (nmAt k)).data.toList
/-- The overview. -/
def ovT (u n k : Nat) (ps : List Pr) : List UInt8 := ov1 u ps 4 ++ 9 :: 9 :: (Lib.decDigits n ++ 9 :: Lib.decDigits k)
def OvIs (u : Int) (s : ByteArray) (e : Ending) : Prop :=
  (¬ (1 ≤ u ∧ u ≤ 1000) ∧ e = .returned (.tuple #[.string ⟨#[]⟩, .int .i64 1])) ∨
  ((1 ≤ u ∧ u ≤ 1000) ∧ (¬ ∃ fs b, s.size ≤ 65536 ∧ IsMail s.data.toList fs b) ∧ e = .returned (.tuple #[.string ⟨#[]⟩, .int .i64 3])) ∨
  ((1 ≤ u ∧ u ≤ 1000) ∧ ∃ fs b, s.size ≤ 65536 ∧ IsMail s.data.toList fs b ∧ e = .returned (.tuple #[.string ⟨(ovT u.toNat s.size (tens b) (prs fs)).toArray⟩, .int .i64 0]))
theorem ov_ex {u : Int} {s : ByteArray} {e : Ending} (h : OvIs u s e) : ∃ (a : ByteArray) (c : Int), e = .returned (.tuple #[.string a, .int .i64 c]) := by
  rcases h with ⟨_, rfl⟩ | ⟨_, _, rfl⟩ | ⟨_, _, _, _, _, rfl⟩ <;> exact ⟨_, _, rfl⟩
theorem ov_same {u : Int} {s a a' : ByteArray} {c c' : Int} (h : OvIs u s (.returned (.tuple #[.string a, .int .i64 c]))) (h' : OvIs u s (.returned (.tuple #[.string a', .int .i64 c']))) : a = a' ∧ c = c' := by
  rcases h with ⟨x, h⟩ | ⟨x, x2, h⟩ | ⟨x, fs, b, hs, hf, h⟩ <;>
  rcases h' with ⟨y, h'⟩ | ⟨y, y2, h'⟩ | ⟨y, fs', b', hs', hf', h'⟩ <;>
  cases h <;> cases h' <;>
  first | exact ⟨rfl, rfl⟩ | exact absurd y x | exact absurd x y | exact absurd ⟨_, _, hs', hf'⟩ x2 | exact absurd ⟨_, _, hs, hf⟩ y2 | (obtain ⟨rfl, rfl⟩ := isMail_one hf hf'; exact ⟨rfl, rfl⟩)
theorem par_of {l : B} {fs fs' : List (B × B)} {b b' : B} (h : IsMail l fs b) (h' : Par F fs' l b') : fs' = fs ∧ b' = b := par_one F_one h' h.2.1
theorem cat_list (x y : ByteArray) : (x ++ y).data.toList = x.data.toList ++ y.data.toList := by rw [ByteArray.data_append]; simp
theorem ov1_next {u k : Nat} {ps : List Pr} {A : ByteArray} (h : A.data.toList = ov1 u ps k) : (A ++ (⟨#[9]⟩ ++ fv ps (nmAt k))).data.toList = ov1 u ps (k + 1) := by
  rw [cat_list, cat_list, h]
  rfl
theorem dec_size {n : Nat} (h : n ≤ 4294967295) : (⟨(Lib.decDigits n).toArray⟩ : ByteArray).size ≤ 10 := by
  rw [Lib.size_eq]
  exact dx.dec_small h

set_option maxHeartbeats 4000000 in
set_option maxRecDepth 100000 in
theorem specBig_any (s : ByteArray) (w : World) (hbig : 65536 < s.size) (hs : s.size ≤ 1048576) :
    Calls Tryd.prog 29 #[.string s] w fun e w' => e = .returned (.tuple #[noMV, .bool false]) ∧ Below w.heap.size w w' := by
  have HO1 : Hid (∀ W, Calls Tryd.prog 34 #[.string s] W fun e w' => e = .returned (.bool false) ∧ w' = W) := fun W => by
    have := spec_mok s W (by unfold maxLen; omega)
    rwa [decide_eq_false (by omega), Bool.false_and] at this
  go_enter Tryd.func29, Tryd.ntmps29
  go_wp2_with fail
  generalize hW0 : World.alloc _ _ = W0
  have HL0 : Hid (b2.Box W0 w.heap.size 42 (.slice none 0 0) (.string ⟨#[]⟩)) := (show b2.Box _ _ _ _ _ by rw [← hW0]; exact b2.new _ _ _ _)
  have HB0 : Hid (Below w.heap.size w W0) := (show Below _ _ _ by rw [← hW0]; exact (Below.refl _ w).alloc (Nat.le_refl _) _)
  clear hW0
  refine (specParse_any s W0 hs).mono ?_
  rintro e w2 ⟨hr, hb2⟩
  have hz : w.heap.size ≤ W0.heap.size := HB0.out.size
  have HB2 : Hid (Below w.heap.size w w2) := HB0.out.trans (hb2.mono hz)
  have HL2 : Hid (b2.Box w2 w.heap.size 42 (.slice none 0 0) (.string ⟨#[]⟩)) := HL0.out.below hb2
  clear hb2 HB0 HL0
  obtain ⟨a, n, c, T, bo, rfl⟩ : ∃ a n c T bo, e = .returned (.tuple #[.agg #[.slice a n c, .string T], .bool bo]) := by
    rcases hr with ⟨fs, b, v, hpar, hfl, rfl, hfa⟩ | ⟨hno, a, n, c, b, rfl⟩
    · obtain ⟨a, cap, rfl⟩ := fields_form hfa
      exact ⟨_, _, _, _, _, rfl⟩
    · exact ⟨_, _, _, _, _, rfl⟩
  clear hr
  have L3 : b2.Box (w2.alloc (.cells #[.slice a n c, .string T] 42)) w.heap.size 42 (.slice none 0 0) (.string ⟨#[]⟩) := HL2.out.below ((Below.refl _ _).alloc (Nat.le_refl _) _)
  have c0 := L3.c0
  have c1 := L3.c1
  have f0 := L3.f 0
  have f1 := L3.f 1
  have HL3 : Hid (b2.Box (w2.alloc (.cells #[.slice a n c, .string T] 42)) w.heap.size 42 (.slice none 0 0) (.string ⟨#[]⟩)) := L3
  have HB3 : Hid (Below w.heap.size w (w2.alloc (.cells #[.slice a n c, .string T] 42))) := HB2.out.alloc HB2.out.size _
  clear L3
  cases bo
  all_goals
    go_wp2_with (go_at_call 34; refine (HO1.out _).mono ?_; rintro e w' ⟨rfl, rfl⟩)
    have L4 := HL3.out.put (a' := .slice none 0 0) (b' := .string ⟨#[]⟩)
    have b4 := b2.put_below (a := .slice none 0 0) (b := .string ⟨#[]⟩) HB3.out (Nat.le_refl _)
    clear c0 c1 f0 f1
    unfold b2.put at L4 b4
    generalize hX : World.setCell _ _ _ = X at L4 b4 ⊢
    clear hX
    have c0 := L4.c0
    have c1 := L4.c1
    exact bodyPost_ret (v := .tuple #[noMV, .bool false]) (by simp [results, Tryd.results29, go_sem, noMV, c0, c1]) rfl ⟨rfl, b4⟩
end Go.Proofs.YtglgaangkffbiaaDoor.ov
