/-
  Contracts of both EntryOK functions: whether an entry is right.
  Contracts of small functions of dates: whether a number is a stamp, and a stamp's day of the week.
  Contracts of the functions that write numbers of two digits.
  Regions that draw their order, whose own operations only read and whose callees make new memory alone: one walk in the order of the text.
-/
import Derived.Test.YtmckekflpdaklaaGreatDoorPkaq
import Derived.Test.YtmckekflpdaklaaGreatDoorRows
import Derived.WalkKit
import Derived.WalkLawsBesides
import Derived.Test.YtmckekflpdaklaaGreatDoorPkaf
import Derived.Below
import Derived.Deep.QuietTactic
import Derived.BigQuiet
import Derived.BigRegion

namespace Go.Proofs.YtmckekflpdaklaaGreatDoor.en
open Go.RowKit
set_option linter.unusedVariables false

/-- An entry. -/
structure En where
  i : ByteArray
  t : ByteArray
  l : ByteArray
  a : ByteArray
  d : Int
  c : ByteArray
def cl (e : En) : Array Value := #[.string e.i, .string e.t, .string e.l, .string e.a, .int .i64 e.d, .string e.c]
def EV (e : En) : Value := .agg (cl e)
def Lies (w : World) (b : Nat) (T : TypeId) (e : En) : Prop := w.heap[b]? = some (.cells (cl e) T (0, 0))
section
variable {w w' : World} {b : Nat} {T : TypeId} {e : En}
theorem Lies.c0 (h : Lies w b T e) : w.cell? ⟨b, 0, none⟩ = some (.string e.i) := by rw [cell_of_row w _ _ _ _ _ h]; rfl
theorem Lies.c1 (h : Lies w b T e) : w.cell? ⟨b, 0 + 1, none⟩ = some (.string e.t) := by rw [cell_of_row w _ _ _ _ _ h]; rfl
theorem Lies.c2 (h : Lies w b T e) : w.cell? ⟨b, 0 + 2, none⟩ = some (.string e.l) := by rw [cell_of_row w _ _ _ _ _ h]; rfl
theorem Lies.c3 (h : Lies w b T e) : w.cell? ⟨b, 0 + 3, none⟩ = some (.string e.a) := by rw [cell_of_row w _ _ _ _ _ h]; rfl
theorem Lies.c4 (h : Lies w b T e) : w.cell? ⟨b, 0 + 4, none⟩ = some (.int .i64 e.d) := by rw [cell_of_row w _ _ _ _ _ h]; rfl
theorem Lies.c5 (h : Lies w b T e) : w.cell? ⟨b, 0 + 5, none⟩ = some (.string e.c) := by rw [cell_of_row w _ _ _ _ _ h]; rfl
theorem Lies.lt (h : Lies w b T e) : b < w.heap.size := World.block_lt_of_cell? w _ h.c0
theorem Lies.keep (h : Lies w b T e) (hb : Below w.heap.size w w') : Lies w' b T e := (hb.block b h.lt).trans h
theorem lies_new (w : World) (T : TypeId) (e : En) : Lies (w.alloc (.cells (cl e) T)) w.heap.size T e := by show (w.heap.push _)[w.heap.size]? = _; simp
end
/-- An entry of a size that a law takes. -/
def Small (e : En) : Prop := e.i.size ≤ 1048576 ∧ e.t.size ≤ 1048576 ∧ e.l.size ≤ 1048576 ∧ e.a.size ≤ 1048576 ∧ e.c.size ≤ 1048576
/-- Whether an entry is right. -/
def eok (e : En) : Bool := !(e.i.size == 0) && fld e.i && fld e.t && fld e.l && fld e.a && ofx e.c 1000 && stamp e.d
theorem empty_list {s : ByteArray} (h : s.size = 0) : s.toList.isEmpty = true := by rw [Lib.size_eq] at h; rw [Lib.toList_data, List.isEmpty_iff]; exact List.eq_nil_of_length_eq_zero h
theorem full_list {s : ByteArray} (h : ¬ s.size = 0) : s.toList.isEmpty = false := by
  rw [Lib.size_eq] at h
  rw [Lib.toList_data]
  cases hl : s.data.toList with
  | nil => rw [hl] at h; exact absurd rfl h
  | cons => rfl
theorem empty_cmp {s : ByteArray} (h : s.size = 0) : (s.toList == (⟨#[]⟩ : ByteArray).toList) = true := by
  have := empty_list h
  rw [List.isEmpty_iff] at this
  rw [this, Lib.toList_data]; rfl
theorem full_cmp {s : ByteArray} (h : ¬ s.size = 0) : (s.toList == (⟨#[]⟩ : ByteArray).toList) = false := by
  have := full_list h
  cases hl : s.toList with
  | nil => rw [hl] at this; cases this
  | cons => rw [Lib.toList_data]; rfl

set_option maxHeartbeats 2000000 in
set_option maxRecDepth 100000 in
theorem impl_eok (e : En) (w : World) (hs : Small e) :
    Calls Tryz.prog 15 #[EV e] w fun r w' => r = .returned (.bool (eok e)) ∧ Below w.heap.size w w' := by
  obtain ⟨i, t, l, a, d, c⟩ := e
  obtain ⟨s0, s1, s2, s3, s5⟩ := hs
  simp only at s0 s1 s2 s3 s5
  have K := lies_new w 27 ⟨i, t, l, a, d, c⟩
  have bw : Below w.heap.size w (w.alloc (.cells (cl ⟨i, t, l, a, d, c⟩) 27)) := (Below.refl _ _).alloc (Nat.le_refl _) _
  have c0 := K.c0
  have c1 := K.c1
  have c2 := K.c2
  have c3 := K.c3
  have c4 := K.c4
  have c5 := K.c5
  unfold EV cl
  unfold cl at K bw c0 c1 c2 c3 c4 c5
  simp only at K bw c0 c1 c2 c3 c4 c5
  by_cases h0 : i.size = 0
  · have HR : Hid (eok ⟨i, t, l, a, d, c⟩ = false) := (show eok ⟨i, t, l, a, d, c⟩ = false by simp [eok, h0])
    have e0 := empty_list h0
    have e1 := empty_cmp h0
    clear h0
    go_enter Tryz.func15, Tryz.ntmps15
    go_wp2
    go_ret
    exact ⟨by rw [HR.out]; rfl, bw⟩
  have e0 := full_list h0
  have e1 := full_cmp h0
  have h0' : (i.size == 0) = false := beq_eq_false_iff_ne.2 h0
  have H0 : Hid ((i.size == 0) = false) := h0'
  clear h0 h0'
  cases fi : fld i
  · have Fi : Hid (fld i = false) := fi
    have HR : Hid (eok ⟨i, t, l, a, d, c⟩ = false) := (show eok ⟨i, t, l, a, d, c⟩ = false by simp [eok, H0.out, fi])
    clear fi
    go_enter Tryz.func15, Tryz.ntmps15
    go_wp2_with (go_at_call 39; refine (impl_fld _ _ (by assumption)).mono ?_; rintro e w' ⟨rfl, hb⟩; rw [Fi.out]; have bw := bw.trans (hb.mono bw.size); have K := K.keep hb; have c1 := K.c1; have c2 := K.c2; have c3 := K.c3; have c4 := K.c4; have c5 := K.c5; clear hb)
    go_ret
    exact ⟨by rw [HR.out]; rfl, bw⟩
  have Fi : Hid (fld i = true) := fi
  clear fi
  cases ft : fld t
  · have Ft : Hid (fld t = false) := ft
    have HR : Hid (eok ⟨i, t, l, a, d, c⟩ = false) := (show eok ⟨i, t, l, a, d, c⟩ = false by simp [eok, H0.out, Fi.out, ft])
    clear ft
    go_enter Tryz.func15, Tryz.ntmps15
    go_wp2_with (go_at_call 39; refine (impl_fld _ _ (by assumption)).mono ?_; rintro e w' ⟨rfl, hb⟩; (first | rw [Fi.out] | rw [Ft.out]); have bw := bw.trans (hb.mono bw.size); have K := K.keep hb; have c1 := K.c1; have c2 := K.c2; have c3 := K.c3; have c4 := K.c4; have c5 := K.c5; clear hb)
    go_ret
    exact ⟨by rw [HR.out]; rfl, bw⟩
  have Ft : Hid (fld t = true) := ft
  clear ft
  cases fl : fld l
  · have Fl : Hid (fld l = false) := fl
    have HR : Hid (eok ⟨i, t, l, a, d, c⟩ = false) := (show eok ⟨i, t, l, a, d, c⟩ = false by simp [eok, H0.out, Fi.out, Ft.out, fl])
    clear fl
    go_enter Tryz.func15, Tryz.ntmps15
    go_wp2_with (go_at_call 39; refine (impl_fld _ _ (by assumption)).mono ?_; rintro e w' ⟨rfl, hb⟩; (first | rw [Fi.out] | rw [Ft.out] | rw [Fl.out]); have bw := bw.trans (hb.mono bw.size); have K := K.keep hb; have c1 := K.c1; have c2 := K.c2; have c3 := K.c3; have c4 := K.c4; have c5 := K.c5; clear hb)
    go_ret
    exact ⟨by rw [HR.out]; rfl, bw⟩
  have Fl : Hid (fld l = true) := fl
  clear fl
  cases fa : fld a
  · have Fa : Hid (fld a = false) := fa
    have HR : Hid (eok ⟨i, t, l, a, d, c⟩ = false) := (show eok ⟨i, t, l, a, d, c⟩ = false by simp [eok, H0.out, Fi.out, Ft.out, Fl.out, fa])
    clear fa
    go_enter Tryz.func15, Tryz.ntmps15
    go_wp2_with (go_at_call 39; refine (impl_fld _ _ (by assumption)).mono ?_; rintro e w' ⟨rfl, hb⟩; (first | rw [Fi.out] | rw [Ft.out] | rw [Fl.out] | rw [Fa.out]); have bw := bw.trans (hb.mono bw.size); have K := K.keep hb; have c1 := K.c1; have c2 := K.c2; have c3 := K.c3; have c4 := K.c4; have c5 := K.c5; clear hb)
    go_ret
    exact ⟨by rw [HR.out]; rfl, bw⟩
  have Fa : Hid (fld a = true) := fa
  clear fa
  cases fo : ofx c 1000
  · have Fo : Hid (ofx c 1000 = false) := fo
    have HR : Hid (eok ⟨i, t, l, a, d, c⟩ = false) := (show eok ⟨i, t, l, a, d, c⟩ = false by simp [eok, H0.out, Fi.out, Ft.out, Fl.out, Fa.out, fo])
    clear fo
    go_enter Tryz.func15, Tryz.ntmps15
    go_wp2_with (first | (go_at_call 39; refine (impl_fld _ _ (by assumption)).mono ?_; rintro e w' ⟨rfl, hb⟩; (first | rw [Fi.out] | rw [Ft.out] | rw [Fl.out] | rw [Fa.out]); have bw := bw.trans (hb.mono bw.size); have K := K.keep hb; have c1 := K.c1; have c2 := K.c2; have c3 := K.c3; have c4 := K.c4; have c5 := K.c5; clear hb) | (go_at_call 40; refine (impl_ofx _ 1000 _ (by assumption) (by omega)).mono ?_; rintro e w' ⟨rfl, hb⟩; rw [Fo.out]; have bw := bw.trans (hb.mono bw.size); have K := K.keep hb; have c4 := K.c4; clear hb))
    go_ret
    exact ⟨by rw [HR.out]; rfl, bw⟩
  have Fo : Hid (ofx c 1000 = true) := fo
  have HR : Hid (eok ⟨i, t, l, a, d, c⟩ = stamp d) := (show eok ⟨i, t, l, a, d, c⟩ = stamp d by simp [eok, H0.out, Fi.out, Ft.out, Fl.out, Fa.out, fo])
  clear fo
  go_enter Tryz.func15, Tryz.ntmps15
  go_wp2_with (first | (go_at_call 39; refine (impl_fld _ _ (by assumption)).mono ?_; rintro e w' ⟨rfl, hb⟩; (first | rw [Fi.out] | rw [Ft.out] | rw [Fl.out] | rw [Fa.out]); have bw := bw.trans (hb.mono bw.size); have K := K.keep hb; have c1 := K.c1; have c2 := K.c2; have c3 := K.c3; have c4 := K.c4; have c5 := K.c5; clear hb) | (go_at_call 40; refine (impl_ofx _ 1000 _ (by assumption) (by omega)).mono ?_; rintro e w' ⟨rfl, hb⟩; rw [Fo.out]; have bw := bw.trans (hb.mono bw.size); have K := K.keep hb; have c4 := K.c4; clear hb) | (go_at_call 41; refine (impl_stamp _ _).mono ?_; rintro e w' ⟨rfl, rfl⟩))
  go_ret
  exact ⟨by rw [HR.out]; rfl, bw⟩

set_option maxHeartbeats 2000000 in
set_option maxRecDepth 100000 in
theorem spec_eok (e : En) (w : World) (hs : Small e) :
    Calls Tryz.prog 12 #[EV e] w fun r w' => r = .returned (.bool (eok e)) ∧ Below w.heap.size w w' := by
  obtain ⟨i, t, l, a, d, c⟩ := e
  obtain ⟨s0, s1, s2, s3, s5⟩ := hs
  simp only at s0 s1 s2 s3 s5
  have K := lies_new w 27 ⟨i, t, l, a, d, c⟩
  have bw : Below w.heap.size w (w.alloc (.cells (cl ⟨i, t, l, a, d, c⟩) 27)) := (Below.refl _ _).alloc (Nat.le_refl _) _
  have c0 := K.c0
  have c1 := K.c1
  have c2 := K.c2
  have c3 := K.c3
  have c4 := K.c4
  have c5 := K.c5
  unfold EV cl
  unfold cl at K bw c0 c1 c2 c3 c4 c5
  simp only at K bw c0 c1 c2 c3 c4 c5
  by_cases h0 : i.size = 0
  · have HR : Hid (eok ⟨i, t, l, a, d, c⟩ = false) := (show eok ⟨i, t, l, a, d, c⟩ = false by simp [eok, h0])
    have e0 := empty_list h0
    have e1 := empty_cmp h0
    clear h0
    go_enter Tryz.func12, Tryz.ntmps12
    go_wp2
    go_ret
    exact ⟨by rw [HR.out]; rfl, bw⟩
  have e0 := full_list h0
  have e1 := full_cmp h0
  have h0' : (i.size == 0) = false := beq_eq_false_iff_ne.2 h0
  have H0 : Hid ((i.size == 0) = false) := h0'
  clear h0 h0'
  cases fi : fld i
  · have Fi : Hid (fld i = false) := fi
    have HR : Hid (eok ⟨i, t, l, a, d, c⟩ = false) := (show eok ⟨i, t, l, a, d, c⟩ = false by simp [eok, H0.out, fi])
    clear fi
    go_enter Tryz.func12, Tryz.ntmps12
    go_wp2_with (go_at_call 28; refine (spec_fld _ _ (by assumption)).mono ?_; rintro e w' ⟨rfl, hb⟩; rw [Fi.out]; have bw := bw.trans (hb.mono bw.size); have K := K.keep hb; have c1 := K.c1; have c2 := K.c2; have c3 := K.c3; have c4 := K.c4; have c5 := K.c5; clear hb)
    go_ret
    exact ⟨by rw [HR.out]; rfl, bw⟩
  have Fi : Hid (fld i = true) := fi
  clear fi
  cases ft : fld t
  · have Ft : Hid (fld t = false) := ft
    have HR : Hid (eok ⟨i, t, l, a, d, c⟩ = false) := (show eok ⟨i, t, l, a, d, c⟩ = false by simp [eok, H0.out, Fi.out, ft])
    clear ft
    go_enter Tryz.func12, Tryz.ntmps12
    go_wp2_with (go_at_call 28; refine (spec_fld _ _ (by assumption)).mono ?_; rintro e w' ⟨rfl, hb⟩; (first | rw [Fi.out] | rw [Ft.out]); have bw := bw.trans (hb.mono bw.size); have K := K.keep hb; have c1 := K.c1; have c2 := K.c2; have c3 := K.c3; have c4 := K.c4; have c5 := K.c5; clear hb)
    go_ret
    exact ⟨by rw [HR.out]; rfl, bw⟩
  have Ft : Hid (fld t = true) := ft
  clear ft
  cases fl : fld l
  · have Fl : Hid (fld l = false) := fl
    have HR : Hid (eok ⟨i, t, l, a, d, c⟩ = false) := (show eok ⟨i, t, l, a, d, c⟩ = false by simp [eok, H0.out, Fi.out, Ft.out, fl])
    clear fl
    go_enter Tryz.func12, Tryz.ntmps12
    go_wp2_with (go_at_call 28; refine (spec_fld _ _ (by assumption)).mono ?_; rintro e w' ⟨rfl, hb⟩; (first | rw [Fi.out] | rw [Ft.out] | rw [Fl.out]); have bw := bw.trans (hb.mono bw.size); have K := K.keep hb; have c1 := K.c1; have c2 := K.c2; have c3 := K.c3; have c4 := K.c4; have c5 := K.c5; clear hb)
    go_ret
    exact ⟨by rw [HR.out]; rfl, bw⟩
  have Fl : Hid (fld l = true) := fl
  clear fl
  cases fa : fld a
  · have Fa : Hid (fld a = false) := fa
    have HR : Hid (eok ⟨i, t, l, a, d, c⟩ = false) := (show eok ⟨i, t, l, a, d, c⟩ = false by simp [eok, H0.out, Fi.out, Ft.out, Fl.out, fa])
    clear fa
    go_enter Tryz.func12, Tryz.ntmps12
    go_wp2_with (go_at_call 28; refine (spec_fld _ _ (by assumption)).mono ?_; rintro e w' ⟨rfl, hb⟩; (first | rw [Fi.out] | rw [Ft.out] | rw [Fl.out] | rw [Fa.out]); have bw := bw.trans (hb.mono bw.size); have K := K.keep hb; have c1 := K.c1; have c2 := K.c2; have c3 := K.c3; have c4 := K.c4; have c5 := K.c5; clear hb)
    go_ret
    exact ⟨by rw [HR.out]; rfl, bw⟩
  have Fa : Hid (fld a = true) := fa
  clear fa
  cases fd : stamp d
  · have Fd : Hid (stamp d = false) := fd
    have HR : Hid (eok ⟨i, t, l, a, d, c⟩ = false) := (show eok ⟨i, t, l, a, d, c⟩ = false by simp [eok, fd])
    clear fd
    go_enter Tryz.func12, Tryz.ntmps12
    go_wp2_with (first | (go_at_call 28; refine (spec_fld _ _ (by assumption)).mono ?_; rintro e w' ⟨rfl, hb⟩; (first | rw [Fi.out] | rw [Ft.out] | rw [Fl.out] | rw [Fa.out]); have bw := bw.trans (hb.mono bw.size); have K := K.keep hb; have c1 := K.c1; have c2 := K.c2; have c3 := K.c3; have c4 := K.c4; have c5 := K.c5; clear hb) | (go_at_call 29; refine (spec_stamp _ _).mono ?_; rintro e w' ⟨rfl, rfl⟩; rw [Fd.out]))
    go_ret
    exact ⟨by rw [HR.out]; rfl, bw⟩
  have Fd : Hid (stamp d = true) := fd
  clear fd
  by_cases hc : 1000 < c.size
  · have HR : Hid (eok ⟨i, t, l, a, d, c⟩ = false) := (show eok ⟨i, t, l, a, d, c⟩ = false by simp [eok, ofx_long hc])
    have hc' : decide ((c.size : Int) ≤ 1000) = false := decide_eq_false (by omega)
    go_enter Tryz.func12, Tryz.ntmps12
    go_wp2_with (first | (go_at_call 28; refine (spec_fld _ _ (by assumption)).mono ?_; rintro e w' ⟨rfl, hb⟩; (first | rw [Fi.out] | rw [Ft.out] | rw [Fl.out] | rw [Fa.out]); have bw := bw.trans (hb.mono bw.size); have K := K.keep hb; have c1 := K.c1; have c2 := K.c2; have c3 := K.c3; have c4 := K.c4; have c5 := K.c5; clear hb) | (go_at_call 29; refine (spec_stamp _ _).mono ?_; rintro e w' ⟨rfl, rfl⟩; rw [Fd.out]))
    go_ret
    exact ⟨by rw [HR.out]; rfl, bw⟩
  have hc' : decide ((c.size : Int) ≤ 1000) = true := decide_eq_true (by omega)
  go_enter Tryz.func12, Tryz.ntmps12
  go_wp2_with (first | (go_at_call 28; refine (spec_fld _ _ (by assumption)).mono ?_; rintro e w' ⟨rfl, hb⟩; (first | rw [Fi.out] | rw [Ft.out] | rw [Fl.out] | rw [Fa.out]); have bw := bw.trans (hb.mono bw.size); have K := K.keep hb; have c1 := K.c1; have c2 := K.c2; have c3 := K.c3; have c4 := K.c4; have c5 := K.c5; clear hb) | (go_at_call 29; refine (spec_stamp _ _).mono ?_; rintro e w' ⟨rfl, rfl⟩; rw [Fd.out]) | fail)
  go_at_call 30
  refine (xm.spec_good _ _ (by assumption)).mono ?_
  rintro e w' ⟨⟨g, hg, rfl⟩, rfl⟩
  by_cases hz : g = c.size
  · subst hz
    have HR : Hid (eok ⟨i, t, l, a, d, c⟩ = true) := (show eok ⟨i, t, l, a, d, c⟩ = true by simp [eok, H0.out, Fi.out, Ft.out, Fl.out, Fa.out, Fd.out, ofx_yes (n := 1000) (by omega) hg])
    rw [if_pos rfl]
    clear hg
    go_wp2
    go_ret
    exact ⟨by rw [HR.out]; rfl, bw⟩
  · have HR : Hid (eok ⟨i, t, l, a, d, c⟩ = false) := (show eok ⟨i, t, l, a, d, c⟩ = false by simp [eok, ofx_bad (n := 1000) hg hz])
    rw [if_neg hz]
    have hlt : decide ((g : Int) < 0) = false := decide_eq_false (by omega)
    clear hg
    go_wp2
    go_ret
    exact ⟨by rw [HR.out]; rfl, bw⟩

end Go.Proofs.YtmckekflpdaklaaGreatDoor.en

namespace Go.Proofs.YtmckekflpdaklaaGreatDoor.dw
open Go.RowKit
set_option linter.unusedVariables false

def inB (n a b : Int) : Bool := decide (a ≤ n ∧ n ≤ b)
theorem in_yes {n a b : Int} (h : a ≤ n) (h' : n ≤ b) : inB n a b = true := decide_eq_true ⟨h, h'⟩
theorem in_no {n a b : Int} (h : n < a ∨ b < n) : inB n a b = false := decide_eq_false (by omega)
theorem in_no_iff {n a b : Int} : inB n a b = false ↔ (n < a ∨ b < n) := by simp [inB]; omega
set_option maxHeartbeats 400000 in
theorem in_any (n a b : Int) (w : World) : Calls Tryz.prog 29 #[.int .i64 n, .int .i64 a, .int .i64 b] w fun e w' => e = .returned (.bool (inB n a b)) ∧ w' = w := by
  by_cases h : a ≤ n
  · go_enter Tryz.func29, Tryz.ntmps29
    go_wp2
    all_goals (go_ret; exact ⟨by simp [inB, h], rfl⟩)
  · have h' : decide (a ≤ n) = false := decide_eq_false h
    go_enter Tryz.func29, Tryz.ntmps29
    go_wp2
    all_goals (go_ret; exact ⟨by rw [show inB n a b = false from decide_eq_false (by omega)]; rfl, rfl⟩)

set_option maxHeartbeats 400000 in
theorem stamp_any (n : Int) (w : World) : Calls Tryz.prog 41 #[.int .i64 n] w fun e w' => e = .returned (.bool (inB n 0 4102444799)) ∧ w' = w := by
  by_cases h : 0 ≤ n
  · go_enter Tryz.func41, Tryz.ntmps41
    go_wp2
    all_goals (go_ret; exact ⟨by simp [inB, h], rfl⟩)
  · have h' : decide (0 ≤ n) = false := decide_eq_false h
    go_enter Tryz.func41, Tryz.ntmps41
    go_wp2
    all_goals (go_ret; exact ⟨by rw [show inB n 0 4102444799 = false from decide_eq_false (by omega)]; rfl, rfl⟩)

/-- A stamp's day of the week and a code. -/
def wd (n : Int) : Value := if inB n 0 4102444799 then .tuple #[.int .i64 ((n / 86400 + 4) % 7), .int .i64 0] else .tuple #[.int .i64 0, .int .i64 4]
theorem wd_in {n : Int} (h : inB n 0 4102444799 = true) : wd n = .tuple #[.int .i64 ((n / 86400 + 4) % 7), .int .i64 0] := by simp [wd, h]
theorem wd_out {n : Int} (h : inB n 0 4102444799 = false) : wd n = .tuple #[.int .i64 0, .int .i64 4] := by simp [wd, h]
theorem wd_form (n : Int) : ∃ x c : Int, wd n = .tuple #[.int .i64 x, .int .i64 c] := by
  cases h : inB n 0 4102444799
  · exact ⟨_, _, wd_out h⟩
  · exact ⟨_, _, wd_in h⟩
theorem in_iff {n a b : Int} : inB n a b = true ↔ (a ≤ n ∧ n ≤ b) := by simp [inB]

set_option maxHeartbeats 400000 in
theorem impl_wd (n : Int) (w : World) : Calls Tryz.prog 85 #[.int .i64 n] w fun e w' => e = .returned (wd n) ∧ w' = w := by
  cases h : inB n 0 4102444799
  · rw [wd_out h]
    go_enter Tryz.func85, Tryz.ntmps85
    go_wp2_with (go_at_call 41; refine (stamp_any _ _).mono ?_; rintro e w' ⟨rfl, rfl⟩)
    go_ret2
    exact ⟨rfl, rfl⟩
  · rw [wd_in h]
    obtain ⟨h1, h2⟩ := in_iff.1 h
    go_enter Tryz.func85, Tryz.ntmps85
    go_wp2_with (go_at_call 41; refine (stamp_any _ _).mono ?_; rintro e w' ⟨rfl, rfl⟩)
    go_ret2
    refine ⟨?_, rfl⟩
    go_num

end Go.Proofs.YtmckekflpdaklaaGreatDoor.dw

namespace Go.Proofs.YtmckekflpdaklaaGreatDoor.dx
open Go.RowKit
set_option linter.unusedVariables false

/-- A digit's byte. -/
def dg (n : Int) : UInt8 := UInt8.ofNat (48 + n).toNat
theorem dg_nat {n : Int} (h0 : 0 ≤ n) (h1 : n ≤ 9) : ((dg n).toNat : Int) = 48 + n := by
  unfold dg
  rw [UInt8.toNat_ofNat_of_lt' (by show (48 + n).toNat < 256; omega)]
  omega
def two (n : Int) : List UInt8 := [dg (n / 10), dg (n % 10)]
theorem bel_box (w : World) (o : Obj) : Below w.heap.size w (w.alloc o) := (Below.refl _ w).alloc (Nat.le_refl _) _

theorem app (a b : List UInt8) : (⟨a.toArray⟩ : ByteArray) ++ ⟨b.toArray⟩ = ⟨(a ++ b).toArray⟩ := by
  apply ByteArray.ext
  simp
theorem lit (b : UInt8) : (⟨#[b]⟩ : ByteArray) = ⟨[b].toArray⟩ := rfl
/-- A block of bytes that has just been laid, turned into a text. -/
theorem conv_new (w : World) (l : List UInt8) (cs : Array Value) (h : cs.toList = l.map fun b => Value.int .u8 (b.toNat : Int)) :
    (convert 51 9 (.slice (some ⟨w.heap.size, 0, none⟩) l.length l.length)).run Tryz.prog (w.alloc (.cells cs 5)) = .ok (.string ⟨l.toArray⟩) (w.alloc (.cells cs 5)) := by
  refine run_convert_bytes_back _ 51 9 5 ⟨w.heap.size, 0, none⟩ l.length l Tryz.underlying51 Tryz.underlying5 Tryz.underlying9 (fun j hj => ?_)
  have := ow.cells_new w cs.toList 5 j (.int .u8 (l[j].toNat : Int)) (by rw [h]; simp [hj])
  simpa using this

set_option maxHeartbeats 1000000 in
theorem impl_two (n : Int) (h0 : 0 ≤ n) (h1 : n ≤ 99) (w : World) : Calls Tryz.prog 86 #[.int .i64 n] w fun e w' => e = .returned (.string ⟨(two n).toArray⟩) ∧ Below w.heap.size w w' := by
  have cv := conv_new w (two n) #[.int .u8 (48 + n / 10), .int .u8 (48 + n % 10)] (by
    show _ = [Value.int .u8 ((dg (n / 10)).toNat : Int), Value.int .u8 ((dg (n % 10)).toNat : Int)]
    rw [dg_nat (by omega) (by omega), dg_nat (by omega) (by omega)])
  have e2 : (two n).length = 2 := rfl
  rw [e2] at cv
  go_enter Tryz.func86, Tryz.ntmps86
  go_wp2
  go_ret
  exact ⟨rfl, bel_box _ _⟩

set_option maxHeartbeats 1000000 in
theorem spec_two (n : Int) (h0 : 0 ≤ n) (h1 : n ≤ 99) (w : World) : Calls Tryz.prog 80 #[.int .i64 n] w fun e w' => e = .returned (.string ⟨(two n).toArray⟩) ∧ Below w.heap.size w w' := by
  have cv := conv_new w (two n) #[.int .u8 (48 + n / 10 % 10), .int .u8 (48 + n % 10)] (by
    show _ = [Value.int .u8 ((dg (n / 10)).toNat : Int), Value.int .u8 ((dg (n % 10)).toNat : Int)]
    rw [dg_nat (by omega) (by omega), dg_nat (by omega) (by omega), show n / 10 % 10 = n / 10 by omega])
  have e2 : (two n).length = 2 := rfl
  rw [e2] at cv
  go_enter Tryz.func80, Tryz.ntmps80
  go_wp2
  go_ret
  exact ⟨rfl, bel_box _ _⟩
end Go.Proofs.YtmckekflpdaklaaGreatDoor.dx

namespace Go.Proofs.YtmckekflpdaklaaGreatDoor.gr
open Go.RowKit
set_option linter.unusedVariables false

/-- What a world may have grown to. -/
def Ext (w : World) : Type := { x : World // Below w.heap.size w x }
def gw {w : World} (x : Ext w) : World := x.1
section
variable {P : Program} {w : World}
theorem gw_below (x : Ext w) : Below w.heap.size w (gw x) := x.2
theorem ext_some (w : World) : Nonempty (Ext w) := ⟨⟨w, Below.refl _ _⟩⟩
theorem gw_cell (x : Ext w) {p : Addr} {v : Value} (h : w.cell? p = some v) : (gw x).cell? p = some v := (x.2.cell (World.block_lt_of_cell? w _ h)).trans h
theorem region_lit {id : Nat} {Q : Exit → Act → World → Prop} {a : Act} {l : List Oper} (hm : P.follows .mixedOrders = true) (hB : Region.lexB .any l.toArray = true)
    (h : wpQuiet P l.toArray (fun w' => ∃ x : Ext w, w' = gw x) (fun a' => ∀ w', (∃ x : Ext w, w' = gw x) → Q .normal a' w') l a) : (Code.region id l.toArray true).wp P Q a w :=
  wp_region_quiet (C := fun w' => ∃ x : Ext w, w' = gw x) hm hB ⟨⟨_, (Below.refl _ w).drew⟩, rfl⟩ (by simpa using h)
theorem grow_of {f : FuncId} {args : Array Value} {x : Ext w} {v : Value} (h : Calls P f args (gw x) fun e w' => e = .returned v ∧ Below (gw x).heap.size (gw x) w') :
    Calls P f args (gw x) fun e w'' => e = .returned v ∧ ∃ y : Ext w, w'' = gw y :=
  h.mono fun e w' ⟨he, hb⟩ => ⟨he, ⟨w', (gw_below x).trans (hb.mono (gw_below x).size)⟩, rfl⟩
theorem grow_same {f : FuncId} {args : Array Value} {x : Ext w} {v : Value} (h : Calls P f args (gw x) fun e w' => e = .returned v ∧ w' = gw x) :
    Calls P f args (gw x) fun e w'' => e = .returned v ∧ ∃ y : Ext w, w'' = gw y :=
  h.mono fun e w' ⟨he, hb⟩ => ⟨he, x, hb⟩
end
end Go.Proofs.YtmckekflpdaklaaGreatDoor.gr
