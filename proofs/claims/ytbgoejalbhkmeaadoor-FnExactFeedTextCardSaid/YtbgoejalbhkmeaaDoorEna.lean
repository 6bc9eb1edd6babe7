/-
  Contracts of the functions that say whether an entry is right: its lines, its texts of runes of XML, its date; of the program and of the specification.
-/
import Derived.Test.YtbgoejalbhkmeaaDoorLib
import Derived.Test.YtbgoejalbhkmeaaDoorOwn
import Derived.Test.YtbgoejalbhkmeaaDoorRows
import Derived.WalkKit
import Derived.WalkLawsBesides
namespace Go.Proofs.YtbgoejalbhkmeaaDoor.en
open Go.RowKit
set_option linter.unusedVariables false

theorem pos_far (s : ByteArray) : ∀ n, (∀ m, m < n → ut.pos s m < s.size) → n ≤ ut.pos s n
  | 0, _ => Nat.zero_le _
  | n + 1, h => by
    have h1 := pos_far s n (fun m hm => h m (by omega))
    have h2 := (ut.pos_le s n (h n (by omega))).2
    omega
def dBad (s : ByteArray) (k : Nat) : Decidable (xm.xbad s k) := inferInstanceAs (Decidable (Utf8.decode s k = (65533, 1) ∨ xm.xr ((Utf8.decode s k).1 : Int) = false))
def dAll (s : ByteArray) (n : Nat) : Decidable (∀ m, m < n → ¬ xm.xbad s (ut.pos s m)) := @Nat.decidableBallLT n (fun m _ => ¬ xm.xbad s (ut.pos s m)) (fun m _ => @instDecidableNot _ (dBad s (ut.pos s m)))
/-- The first place at which a text's end is come to. -/
theorem good_first {s : ByteArray} (h : xm.GoodTo s s.size) : ∃ n, n < s.size + 1 ∧ s.size = ut.pos s n ∧ ∀ m, m < n → ¬ xm.xbad s (ut.pos s m) := by
  obtain ⟨n, e, _, hb, _⟩ := h
  have key : ∀ k, s.size = ut.pos s k → (∀ m, m < k → ¬ xm.xbad s (ut.pos s m)) → ∃ n, n < s.size + 1 ∧ s.size = ut.pos s n ∧ ∀ m, m < n → ¬ xm.xbad s (ut.pos s m) := by
    intro k
    induction k using Nat.strongRecOn with
    | _ k ih =>
      intro e hb
      by_cases hx : ∃ m, m < k ∧ s.size ≤ ut.pos s m
      · obtain ⟨m, hm, hle⟩ := hx
        have hmono := ut.pos_mono s m (k - m)
        rw [show m + (k - m) = k from by omega] at hmono
        exact ih m hm (by omega) (fun j hj => hb j (by omega))
      · have := pos_far s k (fun m hm => by
          by_cases h2 : ut.pos s m < s.size
          · exact h2
          · exact absurd ⟨m, hm, by omega⟩ hx)
        exact ⟨k, by omega, e, hb⟩
  exact key n e hb
def dFirst (s : ByteArray) (n : Nat) : Decidable (s.size = ut.pos s n ∧ ∀ m, m < n → ¬ xm.xbad s (ut.pos s m)) := @instDecidableAnd _ _ _ (dAll s n)
def findB (s : ByteArray) : Nat → Bool
  | 0 => @decide _ (dFirst s 0)
  | k + 1 => @decide _ (dFirst s (k + 1)) || findB s k
theorem find_iff (s : ByteArray) : ∀ k, findB s k = true ↔ ∃ n, n < k + 1 ∧ s.size = ut.pos s n ∧ ∀ m, m < n → ¬ xm.xbad s (ut.pos s m)
  | 0 => by
    rw [findB]
    constructor
    · intro h; exact ⟨0, by omega, ow.dof h⟩
    · rintro ⟨n, hn, h⟩
      obtain rfl : n = 0 := by omega
      exact ow.dt h
  | k + 1 => by
    rw [findB, Bool.or_eq_true, find_iff s k]
    constructor
    · rintro (h | ⟨n, hn, h⟩)
      · exact ⟨k + 1, by omega, ow.dof h⟩
      · exact ⟨n, by omega, h⟩
    · rintro ⟨n, hn, h⟩
      by_cases e : n = k + 1
      · subst e; exact .inl (ow.dt h)
      · exact .inr ⟨n, by omega, h⟩
def dGoodTo (s : ByteArray) : Decidable (xm.GoodTo s s.size) := decidable_of_iff (findB s s.size = true) ⟨fun h => by
  obtain ⟨n, _, e, hb⟩ := (find_iff s s.size).1 h
  exact ⟨n, e, Nat.le_refl _, hb, .inl rfl⟩, fun h => (find_iff s s.size).2 (good_first h)⟩
/-- A text of runes of XML, of at most so many bytes. -/
def ofx (s : ByteArray) (n : Nat) : Bool := @decide (s.size ≤ n ∧ xm.GoodTo s s.size) (@instDecidableAnd _ _ _ (dGoodTo s))
/-- Such a text in one line. -/
def fld (s : ByteArray) : Bool := @decide (s.size ≤ 200 ∧ xm.GoodTo s s.size ∧ li.line s.data.toList = s.data.toList) (@instDecidableAnd _ _ _ (@instDecidableAnd _ _ (dGoodTo s) _))
def stamp (d : Int) : Bool := decide (0 ≤ d ∧ d ≤ 4102444799)
theorem ofx_long {s : ByteArray} {n : Nat} (h : n < s.size) : ofx s n = false := ow.df (by omega)
theorem ofx_bad {s : ByteArray} {n g : Nat} (hg : xm.GoodTo s g) (h : g ≠ s.size) : ofx s n = false := ow.df (fun x => h (xm.good_one hg x.2))
theorem ofx_yes {s : ByteArray} {n : Nat} (h : s.size ≤ n) (hg : xm.GoodTo s s.size) : ofx s n = true := ow.dt ⟨h, hg⟩
theorem ofx_cases {s : ByteArray} {n : Nat} (h : ofx s n = true) : s.size ≤ n ∧ xm.GoodTo s s.size := ow.dof h
theorem ofx_no {s : ByteArray} {n : Nat} (h : ofx s n = false) : ¬ (s.size ≤ n ∧ xm.GoodTo s s.size) := ow.dnof h
theorem fld_no {s : ByteArray} (h : ofx s 200 = false) : fld s = false := ow.df (fun x => ofx_no h ⟨x.1, x.2.1⟩)
theorem fld_yes {s : ByteArray} (h : ofx s 200 = true) (hl : li.line s.data.toList = s.data.toList) : fld s = true := ow.dt ⟨(ofx_cases h).1, (ofx_cases h).2, hl⟩
theorem fld_bent {s : ByteArray} (hl : li.line s.data.toList ≠ s.data.toList) : fld s = false := ow.df (fun x => hl x.2.2)
theorem fld_cases {s : ByteArray} (h : fld s = true) : s.size ≤ 200 ∧ xm.GoodTo s s.size ∧ li.line s.data.toList = s.data.toList := ow.dof h
theorem toList_mk (l : List UInt8) : (⟨l.toArray⟩ : ByteArray).toList = l := by rw [Lib.toList_data]
theorem cmp_yes {s : ByteArray} (hl : li.line s.data.toList = s.data.toList) : ((⟨(li.line s.data.toList).toArray⟩ : ByteArray).toList == s.toList) = true := by rw [toList_mk, hl, Lib.toList_data]; simp
theorem cmp_no {s : ByteArray} (hl : li.line s.data.toList ≠ s.data.toList) : ((⟨(li.line s.data.toList).toArray⟩ : ByteArray).toList == s.toList) = false := by rw [toList_mk, Lib.toList_data]; simpa using hl

set_option maxHeartbeats 1000000 in
theorem impl_ofx (s : ByteArray) (n : Nat) (w : World) (hs : s.size ≤ 1048576) (hn : n ≤ 1000) :
    Calls Tryd.prog 38 #[.string s, .int .i64 n] w fun e w' => e = .returned (.bool (ofx s n)) ∧ Below w.heap.size w w' := by
  by_cases h : n < s.size
  · have h' : decide ((s.size : Int) ≤ (n : Int)) = false := decide_eq_false (by omega)
    have HR : Hid (ofx s n = false) := ofx_long h
    go_enter Tryd.func38, Tryd.ntmps38
    go_wp2
    go_ret
    exact ⟨by rw [HR.out]; rfl, Below.refl _ _⟩
  have h' : decide ((s.size : Int) ≤ (n : Int)) = true := decide_eq_true (by omega)
  go_enter Tryd.func38, Tryd.ntmps38
  go_wp2_with fail
  refine (xm.impl_good s _ hs).mono ?_
  rintro e w' ⟨g, rfl, hg, p, rfl⟩
  have hbw : Below w.heap.size w (w.iter s p) := (Below.refl _ _).alloc (Nat.le_refl _) _
  generalize w.iter s p = w1 at hbw
  by_cases hz : g = s.size
  · subst hz
    have HR : Hid (ofx s n = true) := ofx_yes (by omega) hg
    clear hg
    go_wp2
    go_ret
    exact ⟨by rw [HR.out]; rfl, hbw⟩
  · have HR : Hid (ofx s n = false) := ofx_bad hg hz
    have hlt : ((g : Int) == (s.size : Int)) = false := beq_eq_false_iff_ne.2 (by omega)
    clear hg
    go_wp2
    go_ret
    exact ⟨by rw [HR.out]; rfl, hbw⟩

set_option maxHeartbeats 1000000 in
theorem impl_fld (s : ByteArray) (w : World) (hs : s.size ≤ 1048576) :
    Calls Tryd.prog 26 #[.string s] w fun e w' => e = .returned (.bool (fld s)) ∧ Below w.heap.size w w' := by
  go_enter Tryd.func26, Tryd.ntmps26
  go_wp2_with fail
  refine (impl_ofx s 200 _ hs (by omega)).mono ?_
  rintro e w1 ⟨rfl, hb1⟩
  cases hx : ofx s 200
  · have HR : Hid (fld s = false) := fld_no hx
    clear hx
    go_wp2
    go_ret
    exact ⟨by rw [HR.out]; rfl, hb1⟩
  · have HX : Hid (ofx s 200 = true) := hx
    clear hx
    go_wp2_with fail
    refine (li.impl_line s _ hs).mono ?_
    rintro e w2 ⟨rfl, hb2⟩
    have hb3 := hb1.trans (hb2.mono hb1.size)
    by_cases hl : li.line s.data.toList = s.data.toList
    · have HR : Hid (fld s = true) := fld_yes HX.out hl
      have hc := cmp_yes hl
      generalize (⟨(li.line s.data.toList).toArray⟩ : ByteArray) = x at hc ⊢
      clear hl
      go_wp2
      go_ret
      exact ⟨by rw [HR.out]; rfl, hb3⟩
    · have HR : Hid (fld s = false) := fld_bent hl
      have hc := cmp_no hl
      generalize (⟨(li.line s.data.toList).toArray⟩ : ByteArray) = x at hc ⊢
      clear hl
      go_wp2
      go_ret
      exact ⟨by rw [HR.out]; rfl, hb3⟩

set_option maxHeartbeats 1000000 in
theorem spec_fld (s : ByteArray) (w : World) (hs : s.size ≤ 1048576) :
    Calls Tryd.prog 20 #[.string s] w fun e w' => e = .returned (.bool (fld s)) ∧ Below w.heap.size w w' := by
  by_cases h : 200 < s.size
  · have h' : decide ((s.size : Int) ≤ 200) = false := decide_eq_false (by omega)
    have HR : Hid (fld s = false) := fld_no (ofx_long h)
    go_enter Tryd.func20, Tryd.ntmps20
    go_wp2
    go_ret
    exact ⟨by rw [HR.out]; rfl, Below.refl _ _⟩
  have h' : decide ((s.size : Int) ≤ 200) = true := decide_eq_true (by omega)
  go_enter Tryd.func20, Tryd.ntmps20
  go_wp2_with fail
  refine (xm.spec_good s _ hs).mono ?_
  rintro e w' ⟨⟨g, hg, rfl⟩, rfl⟩
  by_cases hz : g = s.size
  · rw [if_pos hz]
    subst hz
    have HX : Hid (ofx s 200 = true) := ofx_yes (by omega) hg
    clear hg
    go_wp2_with fail
    refine (li.spec_line s _ hs).mono ?_
    rintro e w2 ⟨rfl, hb2⟩
    by_cases hl : li.line s.data.toList = s.data.toList
    · have HR : Hid (fld s = true) := fld_yes HX.out hl
      have hc := cmp_yes hl
      generalize (⟨(li.line s.data.toList).toArray⟩ : ByteArray) = x at hc ⊢
      clear hl
      go_wp2
      go_ret
      exact ⟨by rw [HR.out]; rfl, hb2⟩
    · have HR : Hid (fld s = false) := fld_bent hl
      have hc := cmp_no hl
      generalize (⟨(li.line s.data.toList).toArray⟩ : ByteArray) = x at hc ⊢
      clear hl
      go_wp2
      go_ret
      exact ⟨by rw [HR.out]; rfl, hb2⟩
  · rw [if_neg hz]
    have HR : Hid (fld s = false) := fld_no (ofx_bad hg hz)
    have hlt : decide ((g : Int) < 0) = false := decide_eq_false (by omega)
    clear hg
    go_wp2
    go_ret
    exact ⟨by rw [HR.out]; rfl, Below.refl _ _⟩

set_option maxHeartbeats 400000 in
theorem impl_stamp (d : Int) (w : World) : Calls Tryd.prog 40 #[.int .i64 d] w fun e w' => e = .returned (.bool (stamp d)) ∧ w' = w := by
  go_enter Tryd.func40, Tryd.ntmps40
  go_wp2
  all_goals (go_ret; exact ⟨xm.ret_bool (by rw [Bool.eq_iff_iff]; simp [stamp] <;> omega), rfl⟩)
set_option maxHeartbeats 400000 in
theorem spec_stamp (d : Int) (w : World) : Calls Tryd.prog 34 #[.int .i64 d, .int .i64 0, .int .i64 4102444799] w fun e w' => e = .returned (.bool (stamp d)) ∧ w' = w := by
  go_enter Tryd.func34, Tryd.ntmps34
  go_wp2
  all_goals (go_ret; exact ⟨xm.ret_bool (by rw [Bool.eq_iff_iff]; simp [stamp] <;> omega), rfl⟩)
end Go.Proofs.YtbgoejalbhkmeaaDoor.en
