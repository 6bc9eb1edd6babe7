/-
  Contracts of both EntryOK functions: whether an entry is right.
-/
import Derived.Test.YtbgoejalbhkmeaaDoorEna
namespace Go.Proofs.YtbgoejalbhkmeaaDoor.en
open Go.RowKit
set_option linter.unusedVariables false

/-- An entry. -/
structure En where
  i : ByteArray
  t : ByteArray
  l : ByteArray
  a : ByteArray
  d : Int
  c : ByteArray
def cl (e : En) : Array Value := #[.string e.i, .string e.t, .string e.l, .string e.a, .int .i64 e.d, .string e.c]
def EV (e : En) : Value := .agg (cl e)
def Lies (w : World) (b : Nat) (T : TypeId) (e : En) : Prop := w.heap[b]? = some (.cells (cl e) T (0, 0))
section
variable {w w' : World} {b : Nat} {T : TypeId} {e : En}
theorem Lies.c0 (h : Lies w b T e) : w.cell? ⟨b, 0, none⟩ = some (.string e.i) := by rw [cell_of_row w _ _ _ _ _ h]; rfl
theorem Lies.c1 (h : Lies w b T e) : w.cell? ⟨b, 0 + 1, none⟩ = some (.string e.t) := by rw [cell_of_row w _ _ _ _ _ h]; rfl
theorem Lies.c2 (h : Lies w b T e) : w.cell? ⟨b, 0 + 2, none⟩ = some (.string e.l) := by rw [cell_of_row w _ _ _ _ _ h]; rfl
theorem Lies.c3 (h : Lies w b T e) : w.cell? ⟨b, 0 + 3, none⟩ = some (.string e.a) := by rw [cell_of_row w _ _ _ _ _ h]; rfl
theorem Lies.c4 (h : Lies w b T e) : w.cell? ⟨b, 0 + 4, none⟩ = some (.int .i64 e.d) := by rw [cell_of_row w _ _ _ _ _ h]; rfl
theorem Lies.c5 (h : Lies w b T e) : w.cell? ⟨b, 0 + 5, none⟩ = some (.string e.c) := by rw [cell_of_row w _ _ _ _ _ h]; rfl
theorem Lies.lt (h : Lies w b T e) : b < w.heap.size := World.block_lt_of_cell? w _ h.c0
theorem Lies.keep (h : Lies w b T e) (hb : Below w.heap.size w w') : Lies w' b T e := (hb.block b h.lt).trans h
theorem lies_new (w : World) (T : TypeId) (e : En) : Lies (w.alloc (.cells (cl e) T)) w.heap.size T e := by show (w.heap.push _)[w.heap.size]? = _; simp
end
/-- An entry of a size that a law takes. -/
def Small (e : En) : Prop := e.i.size ≤ 1048576 ∧ e.t.size ≤ 1048576 ∧ e.l.size ≤ 1048576 ∧ e.a.size ≤ 1048576 ∧ e.c.size ≤ 1048576
/-- Whether an entry is right. -/
def eok (e : En) : Bool := !(e.i.size == 0) && fld e.i && fld e.t && fld e.l && fld e.a && ofx e.c 1000 && stamp e.d
theorem empty_list {s : ByteArray} (h : s.size = 0) : s.toList.isEmpty = true := by rw [Lib.size_eq] at h; rw [Lib.toList_data, List.isEmpty_iff]; exact List.eq_nil_of_length_eq_zero h
theorem full_list {s : ByteArray} (h : ¬ s.size = 0) : s.toList.isEmpty = false := by
  rw [Lib.size_eq] at h
  rw [Lib.toList_data]
  cases hl : s.data.toList with
  | nil => rw [hl] at h; exact absurd rfl h
  | cons => rfl
theorem empty_cmp {s : ByteArray} (h : s.size = 0) : (s.toList == (⟨#[]⟩ : ByteArray).toList) = true := by
  have := empty_list h
  rw [List.isEmpty_iff] at this
  rw [this, Lib.toList_data]; rfl
theorem full_cmp {s : ByteArray} (h : ¬ s.size = 0) : (s.toList == (⟨#[]⟩ : ByteArray).toList) = false := by
  have := full_list h
  cases hl : s.toList with
  | nil => rw [hl] at this; cases this
  | cons => rw [Lib.toList_data]; rfl

set_option maxHeartbeats 2000000 in
set_option maxRecDepth 100000 in
theorem impl_eok (e : En) (w : World) (hs : Small e) :
    Calls Tryd.prog 27 #[EV e] w fun r w' => r = .returned (.bool (eok e)) ∧ Below w.heap.size w w' := by
  obtain ⟨i, t, l, a, d, c⟩ := e
  obtain ⟨s0, s1, s2, s3, s5⟩ := hs
  simp only at s0 s1 s2 s3 s5
  have K := lies_new w 40 ⟨i, t, l, a, d, c⟩
  have bw : Below w.heap.size w (w.alloc (.cells (cl ⟨i, t, l, a, d, c⟩) 40)) := (Below.refl _ _).alloc (Nat.le_refl _) _
  have c0 := K.c0
  have c1 := K.c1
  have c2 := K.c2
  have c3 := K.c3
  have c4 := K.c4
  have c5 := K.c5
  unfold EV cl
  unfold cl at K bw c0 c1 c2 c3 c4 c5
  simp only at K bw c0 c1 c2 c3 c4 c5
  by_cases h0 : i.size = 0
  · have HR : Hid (eok ⟨i, t, l, a, d, c⟩ = false) := (show eok ⟨i, t, l, a, d, c⟩ = false by simp [eok, h0])
    have e0 := empty_list h0
    have e1 := empty_cmp h0
    clear h0
    go_enter Tryd.func27, Tryd.ntmps27
    go_wp2
    go_ret
    exact ⟨by rw [HR.out]; rfl, bw⟩
  have e0 := full_list h0
  have e1 := full_cmp h0
  have h0' : (i.size == 0) = false := beq_eq_false_iff_ne.2 h0
  have H0 : Hid ((i.size == 0) = false) := h0'
  clear h0 h0'
  cases fi : fld i
  · have Fi : Hid (fld i = false) := fi
    have HR : Hid (eok ⟨i, t, l, a, d, c⟩ = false) := (show eok ⟨i, t, l, a, d, c⟩ = false by simp [eok, H0.out, fi])
    clear fi
    go_enter Tryd.func27, Tryd.ntmps27
    go_wp2_with (go_at_call 26; refine (impl_fld _ _ (by assumption)).mono ?_; rintro e w' ⟨rfl, hb⟩; rw [Fi.out]; have bw := bw.trans (hb.mono bw.size); have K := K.keep hb; have c1 := K.c1; have c2 := K.c2; have c3 := K.c3; have c4 := K.c4; have c5 := K.c5; clear hb)
    go_ret
    exact ⟨by rw [HR.out]; rfl, bw⟩
  have Fi : Hid (fld i = true) := fi
  clear fi
  cases ft : fld t
  · have Ft : Hid (fld t = false) := ft
    have HR : Hid (eok ⟨i, t, l, a, d, c⟩ = false) := (show eok ⟨i, t, l, a, d, c⟩ = false by simp [eok, H0.out, Fi.out, ft])
    clear ft
    go_enter Tryd.func27, Tryd.ntmps27
    go_wp2_with (go_at_call 26; refine (impl_fld _ _ (by assumption)).mono ?_; rintro e w' ⟨rfl, hb⟩; (first | rw [Fi.out] | rw [Ft.out]); have bw := bw.trans (hb.mono bw.size); have K := K.keep hb; have c1 := K.c1; have c2 := K.c2; have c3 := K.c3; have c4 := K.c4; have c5 := K.c5; clear hb)
    go_ret
    exact ⟨by rw [HR.out]; rfl, bw⟩
  have Ft : Hid (fld t = true) := ft
  clear ft
  cases fl : fld l
  · have Fl : Hid (fld l = false) := fl
    have HR : Hid (eok ⟨i, t, l, a, d, c⟩ = false) := (show eok ⟨i, t, l, a, d, c⟩ = false by simp [eok, H0.out, Fi.out, Ft.out, fl])
    clear fl
    go_enter Tryd.func27, Tryd.ntmps27
    go_wp2_with (go_at_call 26; refine (impl_fld _ _ (by assumption)).mono ?_; rintro e w' ⟨rfl, hb⟩; (first | rw [Fi.out] | rw [Ft.out] | rw [Fl.out]); have bw := bw.trans (hb.mono bw.size); have K := K.keep hb; have c1 := K.c1; have c2 := K.c2; have c3 := K.c3; have c4 := K.c4; have c5 := K.c5; clear hb)
    go_ret
    exact ⟨by rw [HR.out]; rfl, bw⟩
  have Fl : Hid (fld l = true) := fl
  clear fl
  cases fa : fld a
  · have Fa : Hid (fld a = false) := fa
    have HR : Hid (eok ⟨i, t, l, a, d, c⟩ = false) := (show eok ⟨i, t, l, a, d, c⟩ = false by simp [eok, H0.out, Fi.out, Ft.out, Fl.out, fa])
    clear fa
    go_enter Tryd.func27, Tryd.ntmps27
    go_wp2_with (go_at_call 26; refine (impl_fld _ _ (by assumption)).mono ?_; rintro e w' ⟨rfl, hb⟩; (first | rw [Fi.out] | rw [Ft.out] | rw [Fl.out] | rw [Fa.out]); have bw := bw.trans (hb.mono bw.size); have K := K.keep hb; have c1 := K.c1; have c2 := K.c2; have c3 := K.c3; have c4 := K.c4; have c5 := K.c5; clear hb)
    go_ret
    exact ⟨by rw [HR.out]; rfl, bw⟩
  have Fa : Hid (fld a = true) := fa
  clear fa
  cases fo : ofx c 1000
  · have Fo : Hid (ofx c 1000 = false) := fo
    have HR : Hid (eok ⟨i, t, l, a, d, c⟩ = false) := (show eok ⟨i, t, l, a, d, c⟩ = false by simp [eok, H0.out, Fi.out, Ft.out, Fl.out, Fa.out, fo])
    clear fo
    go_enter Tryd.func27, Tryd.ntmps27
    go_wp2_with (first | (go_at_call 26; refine (impl_fld _ _ (by assumption)).mono ?_; rintro e w' ⟨rfl, hb⟩; (first | rw [Fi.out] | rw [Ft.out] | rw [Fl.out] | rw [Fa.out]); have bw := bw.trans (hb.mono bw.size); have K := K.keep hb; have c1 := K.c1; have c2 := K.c2; have c3 := K.c3; have c4 := K.c4; have c5 := K.c5; clear hb) | (go_at_call 38; refine (impl_ofx _ 1000 _ (by assumption) (by omega)).mono ?_; rintro e w' ⟨rfl, hb⟩; rw [Fo.out]; have bw := bw.trans (hb.mono bw.size); have K := K.keep hb; have c4 := K.c4; clear hb))
    go_ret
    exact ⟨by rw [HR.out]; rfl, bw⟩
  have Fo : Hid (ofx c 1000 = true) := fo
  have HR : Hid (eok ⟨i, t, l, a, d, c⟩ = stamp d) := (show eok ⟨i, t, l, a, d, c⟩ = stamp d by simp [eok, H0.out, Fi.out, Ft.out, Fl.out, Fa.out, fo])
  clear fo
  go_enter Tryd.func27, Tryd.ntmps27
  go_wp2_with (first | (go_at_call 26; refine (impl_fld _ _ (by assumption)).mono ?_; rintro e w' ⟨rfl, hb⟩; (first | rw [Fi.out] | rw [Ft.out] | rw [Fl.out] | rw [Fa.out]); have bw := bw.trans (hb.mono bw.size); have K := K.keep hb; have c1 := K.c1; have c2 := K.c2; have c3 := K.c3; have c4 := K.c4; have c5 := K.c5; clear hb) | (go_at_call 38; refine (impl_ofx _ 1000 _ (by assumption) (by omega)).mono ?_; rintro e w' ⟨rfl, hb⟩; rw [Fo.out]; have bw := bw.trans (hb.mono bw.size); have K := K.keep hb; have c4 := K.c4; clear hb) | (go_at_call 40; refine (impl_stamp _ _).mono ?_; rintro e w' ⟨rfl, rfl⟩))
  go_ret
  exact ⟨by rw [HR.out]; rfl, bw⟩

set_option maxHeartbeats 2000000 in
set_option maxRecDepth 100000 in
theorem spec_eok (e : En) (w : World) (hs : Small e) :
    Calls Tryd.prog 21 #[EV e] w fun r w' => r = .returned (.bool (eok e)) ∧ Below w.heap.size w w' := by
  obtain ⟨i, t, l, a, d, c⟩ := e
  obtain ⟨s0, s1, s2, s3, s5⟩ := hs
  simp only at s0 s1 s2 s3 s5
  have K := lies_new w 40 ⟨i, t, l, a, d, c⟩
  have bw : Below w.heap.size w (w.alloc (.cells (cl ⟨i, t, l, a, d, c⟩) 40)) := (Below.refl _ _).alloc (Nat.le_refl _) _
  have c0 := K.c0
  have c1 := K.c1
  have c2 := K.c2
  have c3 := K.c3
  have c4 := K.c4
  have c5 := K.c5
  unfold EV cl
  unfold cl at K bw c0 c1 c2 c3 c4 c5
  simp only at K bw c0 c1 c2 c3 c4 c5
  by_cases h0 : i.size = 0
  · have HR : Hid (eok ⟨i, t, l, a, d, c⟩ = false) := (show eok ⟨i, t, l, a, d, c⟩ = false by simp [eok, h0])
    have e0 := empty_list h0
    have e1 := empty_cmp h0
    clear h0
    go_enter Tryd.func21, Tryd.ntmps21
    go_wp2
    go_ret
    exact ⟨by rw [HR.out]; rfl, bw⟩
  have e0 := full_list h0
  have e1 := full_cmp h0
  have h0' : (i.size == 0) = false := beq_eq_false_iff_ne.2 h0
  have H0 : Hid ((i.size == 0) = false) := h0'
  clear h0 h0'
  cases fi : fld i
  · have Fi : Hid (fld i = false) := fi
    have HR : Hid (eok ⟨i, t, l, a, d, c⟩ = false) := (show eok ⟨i, t, l, a, d, c⟩ = false by simp [eok, H0.out, fi])
    clear fi
    go_enter Tryd.func21, Tryd.ntmps21
    go_wp2_with (go_at_call 20; refine (spec_fld _ _ (by assumption)).mono ?_; rintro e w' ⟨rfl, hb⟩; rw [Fi.out]; have bw := bw.trans (hb.mono bw.size); have K := K.keep hb; have c1 := K.c1; have c2 := K.c2; have c3 := K.c3; have c4 := K.c4; have c5 := K.c5; clear hb)
    go_ret
    exact ⟨by rw [HR.out]; rfl, bw⟩
  have Fi : Hid (fld i = true) := fi
  clear fi
  cases ft : fld t
  · have Ft : Hid (fld t = false) := ft
    have HR : Hid (eok ⟨i, t, l, a, d, c⟩ = false) := (show eok ⟨i, t, l, a, d, c⟩ = false by simp [eok, H0.out, Fi.out, ft])
    clear ft
    go_enter Tryd.func21, Tryd.ntmps21
    go_wp2_with (go_at_call 20; refine (spec_fld _ _ (by assumption)).mono ?_; rintro e w' ⟨rfl, hb⟩; (first | rw [Fi.out] | rw [Ft.out]); have bw := bw.trans (hb.mono bw.size); have K := K.keep hb; have c1 := K.c1; have c2 := K.c2; have c3 := K.c3; have c4 := K.c4; have c5 := K.c5; clear hb)
    go_ret
    exact ⟨by rw [HR.out]; rfl, bw⟩
  have Ft : Hid (fld t = true) := ft
  clear ft
  cases fl : fld l
  · have Fl : Hid (fld l = false) := fl
    have HR : Hid (eok ⟨i, t, l, a, d, c⟩ = false) := (show eok ⟨i, t, l, a, d, c⟩ = false by simp [eok, H0.out, Fi.out, Ft.out, fl])
    clear fl
    go_enter Tryd.func21, Tryd.ntmps21
    go_wp2_with (go_at_call 20; refine (spec_fld _ _ (by assumption)).mono ?_; rintro e w' ⟨rfl, hb⟩; (first | rw [Fi.out] | rw [Ft.out] | rw [Fl.out]); have bw := bw.trans (hb.mono bw.size); have K := K.keep hb; have c1 := K.c1; have c2 := K.c2; have c3 := K.c3; have c4 := K.c4; have c5 := K.c5; clear hb)
    go_ret
    exact ⟨by rw [HR.out]; rfl, bw⟩
  have Fl : Hid (fld l = true) := fl
  clear fl
  cases fa : fld a
  · have Fa : Hid (fld a = false) := fa
    have HR : Hid (eok ⟨i, t, l, a, d, c⟩ = false) := (show eok ⟨i, t, l, a, d, c⟩ = false by simp [eok, H0.out, Fi.out, Ft.out, Fl.out, fa])
    clear fa
    go_enter Tryd.func21, Tryd.ntmps21
    go_wp2_with (go_at_call 20; refine (spec_fld _ _ (by assumption)).mono ?_; rintro e w' ⟨rfl, hb⟩; (first | rw [Fi.out] | rw [Ft.out] | rw [Fl.out] | rw [Fa.out]); have bw := bw.trans (hb.mono bw.size); have K := K.keep hb; have c1 := K.c1; have c2 := K.c2; have c3 := K.c3; have c4 := K.c4; have c5 := K.c5; clear hb)
    go_ret
    exact ⟨by rw [HR.out]; rfl, bw⟩
  have Fa : Hid (fld a = true) := fa
  clear fa
  cases fd : stamp d
  · have Fd : Hid (stamp d = false) := fd
    have HR : Hid (eok ⟨i, t, l, a, d, c⟩ = false) := (show eok ⟨i, t, l, a, d, c⟩ = false by simp [eok, fd])
    clear fd
    go_enter Tryd.func21, Tryd.ntmps21
    go_wp2_with (first | (go_at_call 20; refine (spec_fld _ _ (by assumption)).mono ?_; rintro e w' ⟨rfl, hb⟩; (first | rw [Fi.out] | rw [Ft.out] | rw [Fl.out] | rw [Fa.out]); have bw := bw.trans (hb.mono bw.size); have K := K.keep hb; have c1 := K.c1; have c2 := K.c2; have c3 := K.c3; have c4 := K.c4; have c5 := K.c5; clear hb) | (go_at_call 34; refine (spec_stamp _ _).mono ?_; rintro e w' ⟨rfl, rfl⟩; rw [Fd.out]))
    go_ret
    exact ⟨by rw [HR.out]; rfl, bw⟩
  have Fd : Hid (stamp d = true) := fd
  clear fd
  by_cases hc : 1000 < c.size
  · have HR : Hid (eok ⟨i, t, l, a, d, c⟩ = false) := (show eok ⟨i, t, l, a, d, c⟩ = false by simp [eok, ofx_long hc])
    have hc' : decide ((c.size : Int) ≤ 1000) = false := decide_eq_false (by omega)
    go_enter Tryd.func21, Tryd.ntmps21
    go_wp2_with (first | (go_at_call 20; refine (spec_fld _ _ (by assumption)).mono ?_; rintro e w' ⟨rfl, hb⟩; (first | rw [Fi.out] | rw [Ft.out] | rw [Fl.out] | rw [Fa.out]); have bw := bw.trans (hb.mono bw.size); have K := K.keep hb; have c1 := K.c1; have c2 := K.c2; have c3 := K.c3; have c4 := K.c4; have c5 := K.c5; clear hb) | (go_at_call 34; refine (spec_stamp _ _).mono ?_; rintro e w' ⟨rfl, rfl⟩; rw [Fd.out]))
    go_ret
    exact ⟨by rw [HR.out]; rfl, bw⟩
  have hc' : decide ((c.size : Int) ≤ 1000) = true := decide_eq_true (by omega)
  go_enter Tryd.func21, Tryd.ntmps21
  go_wp2_with (first | (go_at_call 20; refine (spec_fld _ _ (by assumption)).mono ?_; rintro e w' ⟨rfl, hb⟩; (first | rw [Fi.out] | rw [Ft.out] | rw [Fl.out] | rw [Fa.out]); have bw := bw.trans (hb.mono bw.size); have K := K.keep hb; have c1 := K.c1; have c2 := K.c2; have c3 := K.c3; have c4 := K.c4; have c5 := K.c5; clear hb) | (go_at_call 34; refine (spec_stamp _ _).mono ?_; rintro e w' ⟨rfl, rfl⟩; rw [Fd.out]) | fail)
  go_at_call 32
  refine (xm.spec_good _ _ (by assumption)).mono ?_
  rintro e w' ⟨⟨g, hg, rfl⟩, rfl⟩
  by_cases hz : g = c.size
  · subst hz
    have HR : Hid (eok ⟨i, t, l, a, d, c⟩ = true) := (show eok ⟨i, t, l, a, d, c⟩ = true by simp [eok, H0.out, Fi.out, Ft.out, Fl.out, Fa.out, Fd.out, ofx_yes (n := 1000) (by omega) hg])
    rw [if_pos rfl]
    clear hg
    go_wp2
    go_ret
    exact ⟨by rw [HR.out]; rfl, bw⟩
  · have HR : Hid (eok ⟨i, t, l, a, d, c⟩ = false) := (show eok ⟨i, t, l, a, d, c⟩ = false by simp [eok, ofx_bad (n := 1000) hg hz])
    rw [if_neg hz]
    have hlt : decide ((g : Int) < 0) = false := decide_eq_false (by omega)
    clear hg
    go_wp2
    go_ret
    exact ⟨by rw [HR.out]; rfl, bw⟩

end Go.Proofs.YtbgoejalbhkmeaaDoor.en
