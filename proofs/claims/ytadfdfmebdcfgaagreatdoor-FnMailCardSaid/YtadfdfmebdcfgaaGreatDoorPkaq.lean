/-
  Contracts of both EntryOK functions: whether an entry is right.
  Contracts of small functions of dates: whether a number is a stamp, and a stamp's day of the week.
  Contracts of the functions that write numbers of two digits.
  Plain facts on days, months and years from 1970 to 2099.
  Contracts of the functions that tell how many days a month has, and whether a calendar is right.
-/
import Derived.Test.YtadfdfmebdcfgaaGreatDoorPkap
import Derived.Test.YtadfdfmebdcfgaaGreatDoorRows
import Derived.WalkKit
import Derived.WalkLawsBesides
import Derived.Test.YtadfdfmebdcfgaaGreatDoorPkad
import Derived.Below
import Derived.Deep.QuietTactic
import Derived.BigQuiet
import Derived.BigRegion

namespace Go.Proofs.YtadfdfmebdcfgaaGreatDoor.en
open Go.RowKit
set_option linter.unusedVariables false

/-- An entry. -/
structure En where
  i : ByteArray
  t : ByteArray
  l : ByteArray
  a : ByteArray
  d : Int
  c : ByteArray
def cl (e : En) : Array Value := #[.string e.i, .string e.t, .string e.l, .string e.a, .int .i64 e.d, .string e.c]
def EV (e : En) : Value := .agg (cl e)
def Lies (w : World) (b : Nat) (T : TypeId) (e : En) : Prop := w.heap[b]? = some (.cells (cl e) T (0, 0))
section
variable {w w' : World} {b : Nat} {T : TypeId} {e : En}
theorem Lies.c0 (h : Lies w b T e) : w.cell? ⟨b, 0, none⟩ = some (.string e.i) := by rw [cell_of_row w _ _ _ _ _ h]; rfl
theorem Lies.c1 (h : Lies w b T e) : w.cell? ⟨b, 0 + 1, none⟩ = some (.string e.t) := by rw [cell_of_row w _ _ _ _ _ h]; rfl
theorem Lies.c2 (h : Lies w b T e) : w.cell? ⟨b, 0 + 2, none⟩ = some (.string e.l) := by rw [cell_of_row w _ _ _ _ _ h]; rfl
theorem Lies.c3 (h : Lies w b T e) : w.cell? ⟨b, 0 + 3, none⟩ = some (.string e.a) := by rw [cell_of_row w _ _ _ _ _ h]; rfl
theorem Lies.c4 (h : Lies w b T e) : w.cell? ⟨b, 0 + 4, none⟩ = some (.int .i64 e.d) := by rw [cell_of_row w _ _ _ _ _ h]; rfl
theorem Lies.c5 (h : Lies w b T e) : w.cell? ⟨b, 0 + 5, none⟩ = some (.string e.c) := by rw [cell_of_row w _ _ _ _ _ h]; rfl
theorem Lies.lt (h : Lies w b T e) : b < w.heap.size := World.block_lt_of_cell? w _ h.c0
theorem Lies.keep (h : Lies w b T e) (hb : Below w.heap.size w w') : Lies w' b T e := (hb.block b h.lt).trans h
theorem lies_new (w : World) (T : TypeId) (e : En) : Lies (w.alloc (.cells (cl e) T)) w.heap.size T e := by show (w.heap.push _)[w.heap.size]? = _; simp
end
/-- An entry of a size that a law takes. -/
def Small (e : En) : Prop := e.i.size ≤ 1048576 ∧ e.t.size ≤ 1048576 ∧ e.l.size ≤ 1048576 ∧ e.a.size ≤ 1048576 ∧ e.c.size ≤ 1048576
/-- Whether an entry is right. -/
def eok (e : En) : Bool := !(e.i.size == 0) && fld e.i && fld e.t && fld e.l && fld e.a && ofx e.c 1000 && stamp e.d
theorem empty_list {s : ByteArray} (h : s.size = 0) : s.toList.isEmpty = true := by rw [Lib.size_eq] at h; rw [Lib.toList_data, List.isEmpty_iff]; exact List.eq_nil_of_length_eq_zero h
theorem full_list {s : ByteArray} (h : ¬ s.size = 0) : s.toList.isEmpty = false := by
  rw [Lib.size_eq] at h
  rw [Lib.toList_data]
  cases hl : s.data.toList with
  | nil => rw [hl] at h; exact absurd rfl h
  | cons => rfl
theorem empty_cmp {s : ByteArray} (h : s.size = 0) : (s.toList == (⟨#[]⟩ : ByteArray).toList) = true := by
  have := empty_list h
  rw [List.isEmpty_iff] at this
  rw [this, Lib.toList_data]; rfl
theorem full_cmp {s : ByteArray} (h : ¬ s.size = 0) : (s.toList == (⟨#[]⟩ : ByteArray).toList) = false := by
  have := full_list h
  cases hl : s.toList with
  | nil => rw [hl] at this; cases this
  | cons => rw [Lib.toList_data]; rfl

set_option maxHeartbeats 2000000 in
set_option maxRecDepth 100000 in
theorem impl_eok (e : En) (w : World) (hs : Small e) :
    Calls Tryz.prog 13 #[EV e] w fun r w' => r = .returned (.bool (eok e)) ∧ Below w.heap.size w w' := by
  obtain ⟨i, t, l, a, d, c⟩ := e
  obtain ⟨s0, s1, s2, s3, s5⟩ := hs
  simp only at s0 s1 s2 s3 s5
  have K := lies_new w 24 ⟨i, t, l, a, d, c⟩
  have bw : Below w.heap.size w (w.alloc (.cells (cl ⟨i, t, l, a, d, c⟩) 24)) := (Below.refl _ _).alloc (Nat.le_refl _) _
  have c0 := K.c0
  have c1 := K.c1
  have c2 := K.c2
  have c3 := K.c3
  have c4 := K.c4
  have c5 := K.c5
  unfold EV cl
  unfold cl at K bw c0 c1 c2 c3 c4 c5
  simp only at K bw c0 c1 c2 c3 c4 c5
  by_cases h0 : i.size = 0
  · have HR : Hid (eok ⟨i, t, l, a, d, c⟩ = false) := (show eok ⟨i, t, l, a, d, c⟩ = false by simp [eok, h0])
    have e0 := empty_list h0
    have e1 := empty_cmp h0
    clear h0
    go_enter Tryz.func13, Tryz.ntmps13
    go_wp2
    go_ret
    exact ⟨by rw [HR.out]; rfl, bw⟩
  have e0 := full_list h0
  have e1 := full_cmp h0
  have h0' : (i.size == 0) = false := beq_eq_false_iff_ne.2 h0
  have H0 : Hid ((i.size == 0) = false) := h0'
  clear h0 h0'
  cases fi : fld i
  · have Fi : Hid (fld i = false) := fi
    have HR : Hid (eok ⟨i, t, l, a, d, c⟩ = false) := (show eok ⟨i, t, l, a, d, c⟩ = false by simp [eok, H0.out, fi])
    clear fi
    go_enter Tryz.func13, Tryz.ntmps13
    go_wp2_with (go_at_call 33; refine (impl_fld _ _ (by assumption)).mono ?_; rintro e w' ⟨rfl, hb⟩; rw [Fi.out]; have bw := bw.trans (hb.mono bw.size); have K := K.keep hb; have c1 := K.c1; have c2 := K.c2; have c3 := K.c3; have c4 := K.c4; have c5 := K.c5; clear hb)
    go_ret
    exact ⟨by rw [HR.out]; rfl, bw⟩
  have Fi : Hid (fld i = true) := fi
  clear fi
  cases ft : fld t
  · have Ft : Hid (fld t = false) := ft
    have HR : Hid (eok ⟨i, t, l, a, d, c⟩ = false) := (show eok ⟨i, t, l, a, d, c⟩ = false by simp [eok, H0.out, Fi.out, ft])
    clear ft
    go_enter Tryz.func13, Tryz.ntmps13
    go_wp2_with (go_at_call 33; refine (impl_fld _ _ (by assumption)).mono ?_; rintro e w' ⟨rfl, hb⟩; (first | rw [Fi.out] | rw [Ft.out]); have bw := bw.trans (hb.mono bw.size); have K := K.keep hb; have c1 := K.c1; have c2 := K.c2; have c3 := K.c3; have c4 := K.c4; have c5 := K.c5; clear hb)
    go_ret
    exact ⟨by rw [HR.out]; rfl, bw⟩
  have Ft : Hid (fld t = true) := ft
  clear ft
  cases fl : fld l
  · have Fl : Hid (fld l = false) := fl
    have HR : Hid (eok ⟨i, t, l, a, d, c⟩ = false) := (show eok ⟨i, t, l, a, d, c⟩ = false by simp [eok, H0.out, Fi.out, Ft.out, fl])
    clear fl
    go_enter Tryz.func13, Tryz.ntmps13
    go_wp2_with (go_at_call 33; refine (impl_fld _ _ (by assumption)).mono ?_; rintro e w' ⟨rfl, hb⟩; (first | rw [Fi.out] | rw [Ft.out] | rw [Fl.out]); have bw := bw.trans (hb.mono bw.size); have K := K.keep hb; have c1 := K.c1; have c2 := K.c2; have c3 := K.c3; have c4 := K.c4; have c5 := K.c5; clear hb)
    go_ret
    exact ⟨by rw [HR.out]; rfl, bw⟩
  have Fl : Hid (fld l = true) := fl
  clear fl
  cases fa : fld a
  · have Fa : Hid (fld a = false) := fa
    have HR : Hid (eok ⟨i, t, l, a, d, c⟩ = false) := (show eok ⟨i, t, l, a, d, c⟩ = false by simp [eok, H0.out, Fi.out, Ft.out, Fl.out, fa])
    clear fa
    go_enter Tryz.func13, Tryz.ntmps13
    go_wp2_with (go_at_call 33; refine (impl_fld _ _ (by assumption)).mono ?_; rintro e w' ⟨rfl, hb⟩; (first | rw [Fi.out] | rw [Ft.out] | rw [Fl.out] | rw [Fa.out]); have bw := bw.trans (hb.mono bw.size); have K := K.keep hb; have c1 := K.c1; have c2 := K.c2; have c3 := K.c3; have c4 := K.c4; have c5 := K.c5; clear hb)
    go_ret
    exact ⟨by rw [HR.out]; rfl, bw⟩
  have Fa : Hid (fld a = true) := fa
  clear fa
  cases fo : ofx c 1000
  · have Fo : Hid (ofx c 1000 = false) := fo
    have HR : Hid (eok ⟨i, t, l, a, d, c⟩ = false) := (show eok ⟨i, t, l, a, d, c⟩ = false by simp [eok, H0.out, Fi.out, Ft.out, Fl.out, Fa.out, fo])
    clear fo
    go_enter Tryz.func13, Tryz.ntmps13
    go_wp2_with (first | (go_at_call 33; refine (impl_fld _ _ (by assumption)).mono ?_; rintro e w' ⟨rfl, hb⟩; (first | rw [Fi.out] | rw [Ft.out] | rw [Fl.out] | rw [Fa.out]); have bw := bw.trans (hb.mono bw.size); have K := K.keep hb; have c1 := K.c1; have c2 := K.c2; have c3 := K.c3; have c4 := K.c4; have c5 := K.c5; clear hb) | (go_at_call 34; refine (impl_ofx _ 1000 _ (by assumption) (by omega)).mono ?_; rintro e w' ⟨rfl, hb⟩; rw [Fo.out]; have bw := bw.trans (hb.mono bw.size); have K := K.keep hb; have c4 := K.c4; clear hb))
    go_ret
    exact ⟨by rw [HR.out]; rfl, bw⟩
  have Fo : Hid (ofx c 1000 = true) := fo
  have HR : Hid (eok ⟨i, t, l, a, d, c⟩ = stamp d) := (show eok ⟨i, t, l, a, d, c⟩ = stamp d by simp [eok, H0.out, Fi.out, Ft.out, Fl.out, Fa.out, fo])
  clear fo
  go_enter Tryz.func13, Tryz.ntmps13
  go_wp2_with (first | (go_at_call 33; refine (impl_fld _ _ (by assumption)).mono ?_; rintro e w' ⟨rfl, hb⟩; (first | rw [Fi.out] | rw [Ft.out] | rw [Fl.out] | rw [Fa.out]); have bw := bw.trans (hb.mono bw.size); have K := K.keep hb; have c1 := K.c1; have c2 := K.c2; have c3 := K.c3; have c4 := K.c4; have c5 := K.c5; clear hb) | (go_at_call 34; refine (impl_ofx _ 1000 _ (by assumption) (by omega)).mono ?_; rintro e w' ⟨rfl, hb⟩; rw [Fo.out]; have bw := bw.trans (hb.mono bw.size); have K := K.keep hb; have c4 := K.c4; clear hb) | (go_at_call 35; refine (impl_stamp _ _).mono ?_; rintro e w' ⟨rfl, rfl⟩))
  go_ret
  exact ⟨by rw [HR.out]; rfl, bw⟩

set_option maxHeartbeats 2000000 in
set_option maxRecDepth 100000 in
theorem spec_eok (e : En) (w : World) (hs : Small e) :
    Calls Tryz.prog 21 #[EV e] w fun r w' => r = .returned (.bool (eok e)) ∧ Below w.heap.size w w' := by
  obtain ⟨i, t, l, a, d, c⟩ := e
  obtain ⟨s0, s1, s2, s3, s5⟩ := hs
  simp only at s0 s1 s2 s3 s5
  have K := lies_new w 24 ⟨i, t, l, a, d, c⟩
  have bw : Below w.heap.size w (w.alloc (.cells (cl ⟨i, t, l, a, d, c⟩) 24)) := (Below.refl _ _).alloc (Nat.le_refl _) _
  have c0 := K.c0
  have c1 := K.c1
  have c2 := K.c2
  have c3 := K.c3
  have c4 := K.c4
  have c5 := K.c5
  unfold EV cl
  unfold cl at K bw c0 c1 c2 c3 c4 c5
  simp only at K bw c0 c1 c2 c3 c4 c5
  by_cases h0 : i.size = 0
  · have HR : Hid (eok ⟨i, t, l, a, d, c⟩ = false) := (show eok ⟨i, t, l, a, d, c⟩ = false by simp [eok, h0])
    have e0 := empty_list h0
    have e1 := empty_cmp h0
    clear h0
    go_enter Tryz.func21, Tryz.ntmps21
    go_wp2
    go_ret
    exact ⟨by rw [HR.out]; rfl, bw⟩
  have e0 := full_list h0
  have e1 := full_cmp h0
  have h0' : (i.size == 0) = false := beq_eq_false_iff_ne.2 h0
  have H0 : Hid ((i.size == 0) = false) := h0'
  clear h0 h0'
  cases fi : fld i
  · have Fi : Hid (fld i = false) := fi
    have HR : Hid (eok ⟨i, t, l, a, d, c⟩ = false) := (show eok ⟨i, t, l, a, d, c⟩ = false by simp [eok, H0.out, fi])
    clear fi
    go_enter Tryz.func21, Tryz.ntmps21
    go_wp2_with (go_at_call 54; refine (spec_fld _ _ (by assumption)).mono ?_; rintro e w' ⟨rfl, hb⟩; rw [Fi.out]; have bw := bw.trans (hb.mono bw.size); have K := K.keep hb; have c1 := K.c1; have c2 := K.c2; have c3 := K.c3; have c4 := K.c4; have c5 := K.c5; clear hb)
    go_ret
    exact ⟨by rw [HR.out]; rfl, bw⟩
  have Fi : Hid (fld i = true) := fi
  clear fi
  cases ft : fld t
  · have Ft : Hid (fld t = false) := ft
    have HR : Hid (eok ⟨i, t, l, a, d, c⟩ = false) := (show eok ⟨i, t, l, a, d, c⟩ = false by simp [eok, H0.out, Fi.out, ft])
    clear ft
    go_enter Tryz.func21, Tryz.ntmps21
    go_wp2_with (go_at_call 54; refine (spec_fld _ _ (by assumption)).mono ?_; rintro e w' ⟨rfl, hb⟩; (first | rw [Fi.out] | rw [Ft.out]); have bw := bw.trans (hb.mono bw.size); have K := K.keep hb; have c1 := K.c1; have c2 := K.c2; have c3 := K.c3; have c4 := K.c4; have c5 := K.c5; clear hb)
    go_ret
    exact ⟨by rw [HR.out]; rfl, bw⟩
  have Ft : Hid (fld t = true) := ft
  clear ft
  cases fl : fld l
  · have Fl : Hid (fld l = false) := fl
    have HR : Hid (eok ⟨i, t, l, a, d, c⟩ = false) := (show eok ⟨i, t, l, a, d, c⟩ = false by simp [eok, H0.out, Fi.out, Ft.out, fl])
    clear fl
    go_enter Tryz.func21, Tryz.ntmps21
    go_wp2_with (go_at_call 54; refine (spec_fld _ _ (by assumption)).mono ?_; rintro e w' ⟨rfl, hb⟩; (first | rw [Fi.out] | rw [Ft.out] | rw [Fl.out]); have bw := bw.trans (hb.mono bw.size); have K := K.keep hb; have c1 := K.c1; have c2 := K.c2; have c3 := K.c3; have c4 := K.c4; have c5 := K.c5; clear hb)
    go_ret
    exact ⟨by rw [HR.out]; rfl, bw⟩
  have Fl : Hid (fld l = true) := fl
  clear fl
  cases fa : fld a
  · have Fa : Hid (fld a = false) := fa
    have HR : Hid (eok ⟨i, t, l, a, d, c⟩ = false) := (show eok ⟨i, t, l, a, d, c⟩ = false by simp [eok, H0.out, Fi.out, Ft.out, Fl.out, fa])
    clear fa
    go_enter Tryz.func21, Tryz.ntmps21
    go_wp2_with (go_at_call 54; refine (spec_fld _ _ (by assumption)).mono ?_; rintro e w' ⟨rfl, hb⟩; (first | rw [Fi.out] | rw [Ft.out] | rw [Fl.out] | rw [Fa.out]); have bw := bw.trans (hb.mono bw.size); have K := K.keep hb; have c1 := K.c1; have c2 := K.c2; have c3 := K.c3; have c4 := K.c4; have c5 := K.c5; clear hb)
    go_ret
    exact ⟨by rw [HR.out]; rfl, bw⟩
  have Fa : Hid (fld a = true) := fa
  clear fa
  cases fd : stamp d
  · have Fd : Hid (stamp d = false) := fd
    have HR : Hid (eok ⟨i, t, l, a, d, c⟩ = false) := (show eok ⟨i, t, l, a, d, c⟩ = false by simp [eok, fd])
    clear fd
    go_enter Tryz.func21, Tryz.ntmps21
    go_wp2_with (first | (go_at_call 54; refine (spec_fld _ _ (by assumption)).mono ?_; rintro e w' ⟨rfl, hb⟩; (first | rw [Fi.out] | rw [Ft.out] | rw [Fl.out] | rw [Fa.out]); have bw := bw.trans (hb.mono bw.size); have K := K.keep hb; have c1 := K.c1; have c2 := K.c2; have c3 := K.c3; have c4 := K.c4; have c5 := K.c5; clear hb) | (go_at_call 55; refine (spec_stamp _ _).mono ?_; rintro e w' ⟨rfl, rfl⟩; rw [Fd.out]))
    go_ret
    exact ⟨by rw [HR.out]; rfl, bw⟩
  have Fd : Hid (stamp d = true) := fd
  clear fd
  by_cases hc : 1000 < c.size
  · have HR : Hid (eok ⟨i, t, l, a, d, c⟩ = false) := (show eok ⟨i, t, l, a, d, c⟩ = false by simp [eok, ofx_long hc])
    have hc' : decide ((c.size : Int) ≤ 1000) = false := decide_eq_false (by omega)
    go_enter Tryz.func21, Tryz.ntmps21
    go_wp2_with (first | (go_at_call 54; refine (spec_fld _ _ (by assumption)).mono ?_; rintro e w' ⟨rfl, hb⟩; (first | rw [Fi.out] | rw [Ft.out] | rw [Fl.out] | rw [Fa.out]); have bw := bw.trans (hb.mono bw.size); have K := K.keep hb; have c1 := K.c1; have c2 := K.c2; have c3 := K.c3; have c4 := K.c4; have c5 := K.c5; clear hb) | (go_at_call 55; refine (spec_stamp _ _).mono ?_; rintro e w' ⟨rfl, rfl⟩; rw [Fd.out]))
    go_ret
    exact ⟨by rw [HR.out]; rfl, bw⟩
  have hc' : decide ((c.size : Int) ≤ 1000) = true := decide_eq_true (by omega)
  go_enter Tryz.func21, Tryz.ntmps21
  go_wp2_with (first | (go_at_call 54; refine (spec_fld _ _ (by assumption)).mono ?_; rintro e w' ⟨rfl, hb⟩; (first | rw [Fi.out] | rw [Ft.out] | rw [Fl.out] | rw [Fa.out]); have bw := bw.trans (hb.mono bw.size); have K := K.keep hb; have c1 := K.c1; have c2 := K.c2; have c3 := K.c3; have c4 := K.c4; have c5 := K.c5; clear hb) | (go_at_call 55; refine (spec_stamp _ _).mono ?_; rintro e w' ⟨rfl, rfl⟩; rw [Fd.out]) | fail)
  go_at_call 56
  refine (xm.spec_good _ _ (by assumption)).mono ?_
  rintro e w' ⟨⟨g, hg, rfl⟩, rfl⟩
  by_cases hz : g = c.size
  · subst hz
    have HR : Hid (eok ⟨i, t, l, a, d, c⟩ = true) := (show eok ⟨i, t, l, a, d, c⟩ = true by simp [eok, H0.out, Fi.out, Ft.out, Fl.out, Fa.out, Fd.out, ofx_yes (n := 1000) (by omega) hg])
    rw [if_pos rfl]
    clear hg
    go_wp2
    go_ret
    exact ⟨by rw [HR.out]; rfl, bw⟩
  · have HR : Hid (eok ⟨i, t, l, a, d, c⟩ = false) := (show eok ⟨i, t, l, a, d, c⟩ = false by simp [eok, ofx_bad (n := 1000) hg hz])
    rw [if_neg hz]
    have hlt : decide ((g : Int) < 0) = false := decide_eq_false (by omega)
    clear hg
    go_wp2
    go_ret
    exact ⟨by rw [HR.out]; rfl, bw⟩

end Go.Proofs.YtadfdfmebdcfgaaGreatDoor.en

namespace Go.Proofs.YtadfdfmebdcfgaaGreatDoor.dw
open Go.RowKit
set_option linter.unusedVariables false

def inB (n a b : Int) : Bool := decide (a ≤ n ∧ n ≤ b)
theorem in_yes {n a b : Int} (h : a ≤ n) (h' : n ≤ b) : inB n a b = true := decide_eq_true ⟨h, h'⟩

set_option maxHeartbeats 400000 in
theorem stamp_any (n : Int) (w : World) : Calls Tryz.prog 35 #[.int .i64 n] w fun e w' => e = .returned (.bool (inB n 0 4102444799)) ∧ w' = w := by
  by_cases h : 0 ≤ n
  · go_enter Tryz.func35, Tryz.ntmps35
    go_wp2
    all_goals (go_ret; exact ⟨by simp [inB, h], rfl⟩)
  · have h' : decide (0 ≤ n) = false := decide_eq_false h
    go_enter Tryz.func35, Tryz.ntmps35
    go_wp2
    all_goals (go_ret; exact ⟨by rw [show inB n 0 4102444799 = false from decide_eq_false (by omega)]; rfl, rfl⟩)

/-- A stamp's day of the week and a code. -/
def wd (n : Int) : Value := if inB n 0 4102444799 then .tuple #[.int .i64 ((n / 86400 + 4) % 7), .int .i64 0] else .tuple #[.int .i64 0, .int .i64 4]
theorem wd_in {n : Int} (h : inB n 0 4102444799 = true) : wd n = .tuple #[.int .i64 ((n / 86400 + 4) % 7), .int .i64 0] := by simp [wd, h]
theorem wd_out {n : Int} (h : inB n 0 4102444799 = false) : wd n = .tuple #[.int .i64 0, .int .i64 4] := by simp [wd, h]
theorem in_iff {n a b : Int} : inB n a b = true ↔ (a ≤ n ∧ n ≤ b) := by simp [inB]

set_option maxHeartbeats 400000 in
theorem impl_wd (n : Int) (w : World) : Calls Tryz.prog 91 #[.int .i64 n] w fun e w' => e = .returned (wd n) ∧ w' = w := by
  cases h : inB n 0 4102444799
  · rw [wd_out h]
    go_enter Tryz.func91, Tryz.ntmps91
    go_wp2_with (go_at_call 35; refine (stamp_any _ _).mono ?_; rintro e w' ⟨rfl, rfl⟩)
    go_ret2
    exact ⟨rfl, rfl⟩
  · rw [wd_in h]
    obtain ⟨h1, h2⟩ := in_iff.1 h
    go_enter Tryz.func91, Tryz.ntmps91
    go_wp2_with (go_at_call 35; refine (stamp_any _ _).mono ?_; rintro e w' ⟨rfl, rfl⟩)
    go_ret2
    refine ⟨?_, rfl⟩
    go_num

end Go.Proofs.YtadfdfmebdcfgaaGreatDoor.dw

namespace Go.Proofs.YtadfdfmebdcfgaaGreatDoor.dx
open Go.RowKit
set_option linter.unusedVariables false

/-- A digit's byte. -/
def dg (n : Int) : UInt8 := UInt8.ofNat (48 + n).toNat
theorem dg_nat {n : Int} (h0 : 0 ≤ n) (h1 : n ≤ 9) : ((dg n).toNat : Int) = 48 + n := by
  unfold dg
  rw [UInt8.toNat_ofNat_of_lt' (by show (48 + n).toNat < 256; omega)]
  omega
def two (n : Int) : List UInt8 := [dg (n / 10), dg (n % 10)]
theorem bel_box (w : World) (o : Obj) : Below w.heap.size w (w.alloc o) := (Below.refl _ w).alloc (Nat.le_refl _) _

theorem app (a b : List UInt8) : (⟨a.toArray⟩ : ByteArray) ++ ⟨b.toArray⟩ = ⟨(a ++ b).toArray⟩ := by
  apply ByteArray.ext
  simp
/-- A block of bytes that has just been laid, turned into a text. -/
theorem conv_new (w : World) (l : List UInt8) (cs : Array Value) (h : cs.toList = l.map fun b => Value.int .u8 (b.toNat : Int)) :
    (convert 22 9 (.slice (some ⟨w.heap.size, 0, none⟩) l.length l.length)).run Tryz.prog (w.alloc (.cells cs 5)) = .ok (.string ⟨l.toArray⟩) (w.alloc (.cells cs 5)) := by
  refine run_convert_bytes_back _ 22 9 5 ⟨w.heap.size, 0, none⟩ l.length l Tryz.underlying22 Tryz.underlying5 Tryz.underlying9 (fun j hj => ?_)
  have := ow.cells_new w cs.toList 5 j (.int .u8 (l[j].toNat : Int)) (by rw [h]; simp [hj])
  simpa using this

set_option maxHeartbeats 1000000 in
theorem impl_two (n : Int) (h0 : 0 ≤ n) (h1 : n ≤ 99) (w : World) : Calls Tryz.prog 92 #[.int .i64 n] w fun e w' => e = .returned (.string ⟨(two n).toArray⟩) ∧ Below w.heap.size w w' := by
  have cv := conv_new w (two n) #[.int .u8 (48 + n / 10), .int .u8 (48 + n % 10)] (by
    show _ = [Value.int .u8 ((dg (n / 10)).toNat : Int), Value.int .u8 ((dg (n % 10)).toNat : Int)]
    rw [dg_nat (by omega) (by omega), dg_nat (by omega) (by omega)])
  have e2 : (two n).length = 2 := rfl
  rw [e2] at cv
  go_enter Tryz.func92, Tryz.ntmps92
  go_wp2
  go_ret
  exact ⟨rfl, bel_box _ _⟩

set_option maxHeartbeats 1000000 in
theorem spec_two (n : Int) (h0 : 0 ≤ n) (h1 : n ≤ 99) (w : World) : Calls Tryz.prog 113 #[.int .i64 n] w fun e w' => e = .returned (.string ⟨(two n).toArray⟩) ∧ Below w.heap.size w w' := by
  have cv := conv_new w (two n) #[.int .u8 (48 + n / 10 % 10), .int .u8 (48 + n % 10)] (by
    show _ = [Value.int .u8 ((dg (n / 10)).toNat : Int), Value.int .u8 ((dg (n % 10)).toNat : Int)]
    rw [dg_nat (by omega) (by omega), dg_nat (by omega) (by omega), show n / 10 % 10 = n / 10 by omega])
  have e2 : (two n).length = 2 := rfl
  rw [e2] at cv
  go_enter Tryz.func113, Tryz.ntmps113
  go_wp2
  go_ret
  exact ⟨rfl, bel_box _ _⟩
end Go.Proofs.YtadfdfmebdcfgaaGreatDoor.dx

namespace Go.Proofs.YtadfdfmebdcfgaaGreatDoor.dt
open Go.RowKit
set_option linter.unusedVariables false

def lp (y : Int) : Int := if y % 4 = 0 then 1 else 0
theorem lp_yes {y : Int} (h : y % 4 = 0) : lp y = 1 := if_pos h
theorem lp_no {y : Int} (h : y % 4 ≠ 0) : lp y = 0 := if_neg h
theorem lp_01 (y : Int) : 0 ≤ lp y ∧ lp y ≤ 1 := by unfold lp; split <;> omega
/-- How many days a month has. -/
def dm (y m : Int) : Int := if m = 2 then 28 + lp y else if m = 4 ∨ m = 6 ∨ m = 9 ∨ m = 11 then 30 else 31
theorem dm_two (y : Int) : dm y 2 = 28 + lp y := if_pos rfl
theorem dm_30 {y m : Int} (h : m = 4 ∨ m = 6 ∨ m = 9 ∨ m = 11) : dm y m = 30 := by unfold dm; rw [if_neg (by omega), if_pos h]
theorem dm_31 {y m : Int} (h : m ≠ 2) (h' : ¬ (m = 4 ∨ m = 6 ∨ m = 9 ∨ m = 11)) : dm y m = 31 := by unfold dm; rw [if_neg h, if_neg h']
theorem dm_pos (y m : Int) : 28 ≤ dm y m ∧ dm y m ≤ 31 := by
  have := lp_01 y
  unfold dm
  split
  · omega
  · split <;> omega
/-- How many days have gone when a year begins. -/
def yd (y : Int) : Int := (y - 1970) * 365 + (y - 1970 + 1) / 4
theorem yd_first : yd 1970 = 0 := by decide
theorem yd_step (y : Int) : yd (y + 1) = yd y + 365 + lp y := by unfold yd lp; split <;> omega
theorem yd_le {y : Int} (h : y ≤ 2100) : yd y ≤ 47482 := by unfold yd; omega
theorem yd_pos {y : Int} (h : 1970 ≤ y) : 0 ≤ yd y := by unfold yd; omega
theorem yd_mono {y z : Int} (h : y ≤ z) : yd y ≤ yd z := by unfold yd; omega
/-- How many days of a year have gone when a month begins. -/
def ms (y : Int) : Nat → Int
  | 0 => 0
  | k + 1 => ms y k + dm y ((k : Int) + 1)
theorem ms_succ (y : Int) (k : Nat) : ms y (k + 1) = ms y k + dm y ((k : Int) + 1) := rfl
theorem ms_pos (y : Int) (k : Nat) : 0 ≤ ms y k := by
  induction k with
  | zero => exact Int.le_refl _
  | succ k ih => rw [ms_succ]; have := dm_pos y ((k : Int) + 1); omega
theorem ms_mono {y : Int} {j k : Nat} (h : j ≤ k) : ms y j ≤ ms y k := by
  induction k with
  | zero => have : j = 0 := by omega
            subst this; exact Int.le_refl _
  | succ k ih =>
    by_cases e : j = k + 1
    · subst e; exact Int.le_refl _
    · have := ih (by omega)
      have := dm_pos y ((k : Int) + 1)
      rw [ms_succ]; omega
theorem ms_12 (y : Int) : ms y 12 = 365 + lp y := by
  simp [ms, dm]
  omega
theorem ms_le {y : Int} {k : Nat} (h : k ≤ 12) : ms y k ≤ 366 := by
  have h1 := ms_mono (y := y) h
  have h2 := ms_12 y
  have h3 := lp_01 y
  omega
/-- The month, from 0 on, of a day of a year. -/
def fm (y r : Int) : Nat → Nat
  | 0 => 0
  | f + 1 => if ms y (f + 1) ≤ r then f + 1 else fm y r f
theorem fm_le (y r : Int) (f : Nat) : fm y r f ≤ f := by
  induction f with
  | zero => exact Nat.le_refl _
  | succ f ih => unfold fm; split <;> omega
theorem fm_lo {y r : Int} (h : 0 ≤ r) (f : Nat) : ms y (fm y r f) ≤ r := by
  induction f with
  | zero => exact h
  | succ f ih => unfold fm; split <;> assumption
theorem fm_hi {y r : Int} (f : Nat) (h : r < ms y (f + 1)) : r < ms y (fm y r f + 1) := by
  induction f with
  | zero => exact h
  | succ f ih =>
    unfold fm
    split
    · exact h
    · exact ih (by omega)
def mo (y r : Int) : Nat := fm y r 11
theorem mo_le (y r : Int) : mo y r ≤ 11 := fm_le y r 11
theorem mo_lo {y r : Int} (h : 0 ≤ r) : ms y (mo y r) ≤ r := fm_lo h 11
theorem mo_hi {y r : Int} (h : r < 365 + lp y) : r < ms y (mo y r + 1) := fm_hi 11 (by rw [ms_12]; exact h)
theorem mo_is {y r : Int} {k : Nat} (h0 : 0 ≤ r) (h1 : r < 365 + lp y) (hl : ms y k ≤ r) (hh : r < ms y (k + 1)) : mo y r = k := by
  have a := mo_lo (y := y) h0
  have b := mo_hi (y := y) h1
  rcases Nat.lt_trichotomy (mo y r) k with c | c | c
  · have := ms_mono (y := y) (show mo y r + 1 ≤ k by omega); omega
  · exact c
  · have := ms_mono (y := y) (show k + 1 ≤ mo y r by omega); omega

/-- The year, the day of it, the month, the day of the month and the clock of a stamp. -/
def yr (n : Int) : Int := 1970 + (4 * (n / 86400) + 2) / 1461
def rs (n : Int) : Int := n / 86400 - yd (yr n)
def mn (n : Int) : Int := (mo (yr n) (rs n) : Int) + 1
def dy (n : Int) : Int := rs n - ms (yr n) (mo (yr n) (rs n)) + 1
def hr (n : Int) : Int := n / 3600 % 24
def mt (n : Int) : Int := n / 60 % 60
def sc (n : Int) : Int := n % 60
def C6 (y m d h i s : Int) : Value := .agg #[.int .i64 y, .int .i64 m, .int .i64 d, .int .i64 h, .int .i64 i, .int .i64 s]
def civ (n : Int) : Value := C6 (yr n) (mn n) (dy n) (hr n) (mt n) (sc n)
theorem yr_at (d : Int) (h : 0 ≤ d) : yd (1970 + (4 * d + 2) / 1461) ≤ d ∧ d < yd (1970 + (4 * d + 2) / 1461 + 1) := by
  unfold yd
  omega
theorem yr_lo {n : Int} (h : 0 ≤ n) : yd (yr n) ≤ n / 86400 := (yr_at _ (by omega)).1
theorem yr_hi {n : Int} (h : 0 ≤ n) : n / 86400 < yd (yr n + 1) := (yr_at _ (by omega)).2
theorem yr_is {n y : Int} (h : 0 ≤ n) (hl : yd y ≤ n / 86400) (hh : n / 86400 < yd (y + 1)) : yr n = y := by
  have a := yr_lo h
  have b := yr_hi h
  rcases Int.lt_trichotomy (yr n) y with c | c | c
  · have := yd_mono (show yr n + 1 ≤ y by omega); omega
  · exact c
  · have := yd_mono (show y + 1 ≤ yr n by omega); omega
theorem yr_1970 {n : Int} (h : 0 ≤ n) : 1970 ≤ yr n := by unfold yr; omega
theorem yr_2099 {n : Int} (h : 0 ≤ n) (h' : n ≤ 4102444799) : yr n ≤ 2099 := by unfold yr; omega
theorem rs_lo {n : Int} (h : 0 ≤ n) : 0 ≤ rs n := by have := yr_lo h; unfold rs; omega
theorem rs_hi {n : Int} (h : 0 ≤ n) : rs n < 365 + lp (yr n) := by have := yr_hi h; have := yd_step (yr n); unfold rs; omega
/-- A calendar is right. -/
def Ok (y m d h i s : Int) : Prop := 1970 ≤ y ∧ y ≤ 2099 ∧ 1 ≤ m ∧ m ≤ 12 ∧ 1 ≤ d ∧ d ≤ dm y m ∧ 0 ≤ h ∧ h ≤ 23 ∧ 0 ≤ i ∧ i ≤ 59 ∧ 0 ≤ s ∧ s ≤ 59
theorem civ_ok {n : Int} (h : 0 ≤ n) (h' : n ≤ 4102444799) : Ok (yr n) (mn n) (dy n) (hr n) (mt n) (sc n) := by
  have a := mo_lo (y := yr n) (rs_lo h)
  have b := mo_hi (rs_hi h)
  have c := mo_le (yr n) (rs n)
  rw [ms_succ] at b
  refine ⟨yr_1970 h, yr_2099 h h', ?_, ?_, ?_, ?_, ?_, ?_, ?_, ?_, ?_, ?_⟩
  · unfold mn; omega
  · unfold mn; omega
  · unfold dy; omega
  · unfold dy mn; omega
  all_goals (first | (unfold hr; omega) | (unfold mt; omega) | (unfold sc; omega))
/-- The stamp of a calendar. -/
def st (y m d h i s : Int) : Int := (((yd y + ms y (m - 1).toNat + d - 1) * 24 + h) * 60 + i) * 60 + s
theorem st_civ {n : Int} : st (yr n) (mn n) (dy n) (hr n) (mt n) (sc n) = n := by
  have e : (mn n - 1).toNat = mo (yr n) (rs n) := by unfold mn; omega
  unfold st
  rw [e]
  have e2 : yd (yr n) + ms (yr n) (mo (yr n) (rs n)) + dy n - 1 = n / 86400 := by unfold dy rs; omega
  rw [e2]
  unfold hr mt sc
  omega
theorem days_hi {y m d h i s : Int} (k : Ok y m d h i s) : yd y + ms y (m - 1).toNat + d - 1 < yd (y + 1) := by
  obtain ⟨h1, h2, h3, h4, h5, h6, _⟩ := k
  have a := ms_mono (y := y) (show (m - 1).toNat + 1 ≤ 12 by omega)
  rw [ms_succ, ms_12, show (((m - 1).toNat : Nat) : Int) + 1 = m by omega] at a
  rw [yd_step]
  omega
theorem st_bounds {y m d h i s : Int} (k : Ok y m d h i s) : 0 ≤ st y m d h i s ∧ st y m d h i s ≤ 4102444799 := by
  have a := days_hi k
  obtain ⟨h1, h2, h3, h4, h5, h6, h7, h8, h9, h10, h11, h12⟩ := k
  have b := yd_le (show y + 1 ≤ 2100 by omega)
  have c := yd_pos h1
  have e := ms_pos y (m - 1).toNat
  unfold st
  omega
end Go.Proofs.YtadfdfmebdcfgaaGreatDoor.dt

namespace Go.Proofs.YtadfdfmebdcfgaaGreatDoor.dw
open Go.RowKit
open dt
set_option linter.unusedVariables false

set_option maxHeartbeats 1000000 in
theorem impl_dm (y m : Int) (h1 : 1970 ≤ y) (h2 : y ≤ 2099) (w : World) : Calls Tryz.prog 143 #[.int .i64 y, .int .i64 m] w fun e w' => e = .returned (.int .i64 (dm y m)) ∧ w' = w := by
  by_cases c2 : m = 2
  · subst c2
    rw [dm_two]
    by_cases c : y % 4 = 0
    · have d1 : (y % 4 == 0) = true := beq_iff_eq.2 c
      rw [lp_yes c]
      go_enter Tryz.func143, Tryz.ntmps143
      go_wp2
      go_ret
      exact ⟨rfl, rfl⟩
    · have d1 : (y % 4 == 0) = false := beq_eq_false_iff_ne.2 c
      rw [lp_no c]
      go_enter Tryz.func143, Tryz.ntmps143
      go_wp2
      go_ret
      exact ⟨rfl, rfl⟩
  have d2 : (m == 2) = false := beq_eq_false_iff_ne.2 c2
  by_cases c4 : m = 4
  · have d4 : (m == 4) = true := beq_iff_eq.2 c4
    rw [dm_30 (.inl c4)]
    clear c4
    go_enter Tryz.func143, Tryz.ntmps143
    go_wp2
    go_ret
    exact ⟨rfl, rfl⟩
  have d4 : (m == 4) = false := beq_eq_false_iff_ne.2 c4
  by_cases c6 : m = 6
  · have d6 : (m == 6) = true := beq_iff_eq.2 c6
    rw [dm_30 (.inr (.inl c6))]
    clear c6
    go_enter Tryz.func143, Tryz.ntmps143
    go_wp2
    go_ret
    exact ⟨rfl, rfl⟩
  have d6 : (m == 6) = false := beq_eq_false_iff_ne.2 c6
  by_cases c9 : m = 9
  · have d9 : (m == 9) = true := beq_iff_eq.2 c9
    rw [dm_30 (.inr (.inr (.inl c9)))]
    clear c9
    go_enter Tryz.func143, Tryz.ntmps143
    go_wp2
    go_ret
    exact ⟨rfl, rfl⟩
  have d9 : (m == 9) = false := beq_eq_false_iff_ne.2 c9
  by_cases c11 : m = 11
  · have d11 : (m == 11) = true := beq_iff_eq.2 c11
    rw [dm_30 (.inr (.inr (.inr c11)))]
    clear c11
    go_enter Tryz.func143, Tryz.ntmps143
    go_wp2
    go_ret
    exact ⟨rfl, rfl⟩
  have d11 : (m == 11) = false := beq_eq_false_iff_ne.2 c11
  rw [dm_31 c2 (by omega)]
  go_enter Tryz.func143, Tryz.ntmps143
  go_wp2
  go_ret
  exact ⟨rfl, rfl⟩

/-- Whether a year from 1970 to 2099 has a leap day. -/
def lpB (y : Int) : Bool := y % 4 == 0
theorem lp_bit (y : Int) : lp y = if lpB y then 1 else 0 := by unfold lp lpB; by_cases h : y % 4 = 0 <;> simp [h]
set_option maxHeartbeats 1000000 in
theorem leap_any (y : Int) (h1 : 1970 ≤ y) (h2 : y ≤ 2099) (w : World) : Calls Tryz.prog 138 #[.int .i64 y] w fun e w' => e = .returned (.bool (lpB y)) ∧ w' = w := by
  by_cases c : y % 4 = 0
  · have d1 : (y % 4 == 0) = true := beq_iff_eq.2 c
    by_cases c2 : y % 100 = 0
    · have d2 : (y % 100 == 0) = true := beq_iff_eq.2 c2
      have d3 : (y % 400 == 0) = true := beq_iff_eq.2 (by omega)
      have e : lpB y = true := d1
      rw [e]
      clear e
      go_enter Tryz.func138, Tryz.ntmps138
      go_wp2
      go_ret
      exact ⟨rfl, rfl⟩
    · have d2 : (y % 100 == 0) = false := beq_eq_false_iff_ne.2 c2
      have e : lpB y = true := d1
      rw [e]
      clear e
      go_enter Tryz.func138, Tryz.ntmps138
      go_wp2
      go_ret
      exact ⟨rfl, rfl⟩
  · have d1 : (y % 4 == 0) = false := beq_eq_false_iff_ne.2 c
    have e : lpB y = false := d1
    rw [e]
    clear e
    go_enter Tryz.func138, Tryz.ntmps138
    go_wp2
    go_ret
    exact ⟨rfl, rfl⟩
set_option maxHeartbeats 400000 in
theorem bit_any (b : Bool) (w : World) : Calls Tryz.prog 29 #[.bool b] w fun e w' => e = .returned (.int .i64 (if b then 1 else 0)) ∧ w' = w := by
  cases b
  all_goals
    go_enter Tryz.func29, Tryz.ntmps29
    go_wp2
    go_ret
    exact ⟨rfl, rfl⟩
set_option maxHeartbeats 1000000 in
theorem spec_dm (y m : Int) (h1 : 1970 ≤ y) (h2 : y ≤ 2099) (w : World) : Calls Tryz.prog 137 #[.int .i64 y, .int .i64 m] w fun e w' => e = .returned (.int .i64 (dm y m)) ∧ w' = w := by
  by_cases c2 : m = 2
  · subst c2
    rw [dm_two, lp_bit]
    have u : (0 : Int) ≤ (if lpB y then 1 else 0) ∧ (if lpB y then 1 else 0) ≤ (1 : Int) := by split <;> omega
    generalize hz : (if lpB y then (1 : Int) else 0) = z at u ⊢
    obtain ⟨u1, u2⟩ := u
    go_enter Tryz.func137, Tryz.ntmps137
    go_wp2_with fail
    refine (leap_any y h1 h2 _).mono ?_
    rintro e w' ⟨rfl, rfl⟩
    go_wp2_with fail
    refine (bit_any _ _).mono ?_
    rintro e w' ⟨rfl, rfl⟩
    rw [hz]
    go_wp2
    go_ret
    exact ⟨rfl, rfl⟩
  have d2 : (m == 2) = false := beq_eq_false_iff_ne.2 c2
  by_cases c : m = 4 ∨ m = 6 ∨ m = 9 ∨ m = 11
  · rw [dm_30 c]
    clear c2
    rcases c with rfl | rfl | rfl | rfl
    all_goals
      clear d2
      go_enter Tryz.func137, Tryz.ntmps137
      go_wp2
      go_ret
      exact ⟨rfl, rfl⟩
  · have d4 : (m == 4) = false := beq_eq_false_iff_ne.2 (by omega)
    have d6 : (m == 6) = false := beq_eq_false_iff_ne.2 (by omega)
    have d9 : (m == 9) = false := beq_eq_false_iff_ne.2 (by omega)
    have d11 : (m == 11) = false := beq_eq_false_iff_ne.2 (by omega)
    rw [dm_31 c2 c]
    clear c c2
    go_enter Tryz.func137, Tryz.ntmps137
    go_wp2
    go_ret
    exact ⟨rfl, rfl⟩
end Go.Proofs.YtadfdfmebdcfgaaGreatDoor.dw
