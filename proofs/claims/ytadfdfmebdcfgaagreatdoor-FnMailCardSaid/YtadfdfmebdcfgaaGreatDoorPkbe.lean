/-
  The contract of the program's (letter).entry: what a mail that has its fields says.
-/
import Derived.Test.YtadfdfmebdcfgaaGreatDoorPkba
import Derived.Test.YtadfdfmebdcfgaaGreatDoorPkbd
import Derived.Test.YtadfdfmebdcfgaaGreatDoorPkad
import Derived.Deep.RegionWith

namespace Go.Proofs.YtadfdfmebdcfgaaGreatDoor.me
open Go.RowKit
open fa fo
open rq (upd upd_same upd_other)
set_option linter.unusedVariables false

/-- A variable of six cells. -/
def L6 (w : World) (g : Nat) (a b c d e f : Value) : Prop := w.heap[g]? = some (.cells #[a, b, c, d, e, f] 24 (0, 0))
section
variable {w w' : World} {g : Nat} {a b c d e fv a' b' c' d' e' f' : Value}
theorem box_below (w : World) (cs : Array Value) (t : TypeId) : Below w.heap.size w (w.alloc (.cells cs t)) := (Below.refl _ _).alloc (Nat.le_refl _) _
theorem l6_new (w : World) (a b c d e f : Value) : L6 (w.alloc (.cells #[a, b, c, d, e, f] 24)) w.heap.size a b c d e f := by
  show (w.heap.push (.cells #[a, b, c, d, e, f] 24))[w.heap.size]? = _
  simp
theorem L6.c0 (h : L6 w g a b c d e fv) : w.cell? ⟨g, 0, none⟩ = some a := by rw [cell_of_row _ _ _ _ _ _ h]; rfl
theorem L6.c1 (h : L6 w g a b c d e fv) : w.cell? ⟨g, 0 + 1, none⟩ = some b := by rw [cell_of_row _ _ _ _ _ _ h]; rfl
theorem L6.c2 (h : L6 w g a b c d e fv) : w.cell? ⟨g, 0 + 2, none⟩ = some c := by rw [cell_of_row _ _ _ _ _ _ h]; rfl
theorem L6.c3 (h : L6 w g a b c d e fv) : w.cell? ⟨g, 0 + 3, none⟩ = some d := by rw [cell_of_row _ _ _ _ _ _ h]; rfl
theorem L6.c4 (h : L6 w g a b c d e fv) : w.cell? ⟨g, 0 + 4, none⟩ = some e := by rw [cell_of_row _ _ _ _ _ _ h]; rfl
theorem L6.c5 (h : L6 w g a b c d e fv) : w.cell? ⟨g, 0 + 5, none⟩ = some fv := by rw [cell_of_row _ _ _ _ _ _ h]; rfl
theorem L6.f (h : L6 w g a b c d e fv) (j : Nat) : w.frozen? ⟨g, j, none⟩ = false := frozen_of_row _ _ _ _ _ h
theorem L6.lt (h : L6 w g a b c d e fv) : g < w.heap.size := (Array.getElem?_eq_some_iff.1 h).1
theorem L6.keep (h : L6 w g a b c d e fv) (hb : Below w.heap.size w w') : L6 w' g a b c d e fv := (hb.block g h.lt).trans h
/-- All six are written. -/
def put6 (w : World) (g : Nat) (a b c d e f : Value) : World := (((((w.setCell ⟨g, 0, none⟩ a).setCell ⟨g, 1, none⟩ b).setCell ⟨g, 2, none⟩ c).setCell ⟨g, 3, none⟩ d).setCell ⟨g, 4, none⟩ e).setCell ⟨g, 5, none⟩ f
theorem L6.put (h : L6 w g a b c d e fv) : L6 (put6 w g a' b' c' d' e' f') g a' b' c' d' e' f' :=
  heap_setCell_same _ g 5 _ _ _ (heap_setCell_same _ g 4 _ _ _ (heap_setCell_same _ g 3 _ _ _ (heap_setCell_same _ g 2 _ _ _ (heap_setCell_same _ g 1 _ _ _ (heap_setCell_same _ g 0 _ _ _ h)))))
theorem put6_below {B : Nat} {w0 : World} (k : Below B w0 w) (hb : B ≤ g) : Below B w0 (put6 w g a b c d e f') :=
  (((((k.setCell (p := ⟨g, 0, none⟩) hb _).setCell (p := ⟨g, 1, none⟩) hb _).setCell (p := ⟨g, 2, none⟩) hb _).setCell (p := ⟨g, 3, none⟩) hb _).setCell (p := ⟨g, 4, none⟩) hb _).setCell (p := ⟨g, 5, none⟩) hb _
end
/-- What stands behind each of the operations that make an entry. -/
def RE (ps : List Pr) (V : Value) (Bx : Nat) (st : Int) (C : ByteArray) (Wb : Nat) : Nat → (Nat → Value) → World → Prop
  | 0, f, _ => f 0 = .pointer (some ⟨Bx, 0, none⟩)
  | 1, f, _ => f 1 = V
  | 2, f, _ => ∃ r, Dv ps nXid r ∧ f 2 = .string r
  | 3, f, _ => f 3 = .pointer (some ⟨Bx, 0, none⟩)
  | 4, f, _ => f 4 = V
  | 5, f, _ => ∃ r, Dv ps nSubj r ∧ f 5 = .string r
  | 6, f, _ => f 6 = .pointer (some ⟨Bx, 0, none⟩)
  | 7, f, _ => f 7 = V
  | 8, f, _ => ∃ r, Dv ps nXlnk r ∧ f 8 = .string r
  | 9, f, _ => f 9 = .pointer (some ⟨Bx, 0, none⟩)
  | 10, f, _ => f 10 = V
  | 11, f, _ => ∃ r, Dv ps nFrom r ∧ f 11 = .string r
  | 12, f, _ => f 12 = .int .i64 st
  | 13, f, _ => f 13 = .string C
  | 14, f, _ => ∃ ri rt rl ra, Dv ps nXid ri ∧ Dv ps nSubj rt ∧ Dv ps nXlnk rl ∧ Dv ps nFrom ra ∧ f 14 = .agg #[.string ri, .string rt, .string rl, .string ra, .int .i64 st, .string C]
  | 15, f, w => ∃ g : Nat, Wb ≤ g ∧ f 15 = .pointer (some ⟨g, 0, none⟩) ∧ ∃ a b c d e f', L6 w g a b c d e f'
  | 16, f, w => ∃ (g : Nat) (ri rt rl ra : ByteArray), Wb ≤ g ∧ Dv ps nXid ri ∧ Dv ps nSubj rt ∧ Dv ps nXlnk rl ∧ Dv ps nFrom ra ∧ f 15 = .pointer (some ⟨g, 0, none⟩) ∧ L6 w g (.string ri) (.string rt) (.string rl) (.string ra) (.int .i64 st) (.string C)
  | _, _, _ => True
section
variable {ps : List Pr} {V : Value} {Bx : Nat} {st : Int} {C : ByteArray} {Wb j i : Nat} {f : Nat → Value} {w w' : World}
set_option maxHeartbeats 2000000 in
theorem re_keep (h : RE ps V Bx st C Wb j f w) (hb : Below w.heap.size w w') : RE ps V Bx st C Wb j f w' := by
  match j, h with
  | 0, h => exact h
  | 1, h => exact h
  | 2, h => exact h
  | 3, h => exact h
  | 4, h => exact h
  | 5, h => exact h
  | 6, h => exact h
  | 7, h => exact h
  | 8, h => exact h
  | 9, h => exact h
  | 10, h => exact h
  | 11, h => exact h
  | 12, h => exact h
  | 13, h => exact h
  | 14, h => exact h
  | 15, h =>
    obtain ⟨g, h1, h2, a, b, c, d, e, f', h3⟩ := h
    exact ⟨g, h1, h2, a, b, c, d, e, f', h3.keep hb⟩
  | 16, h =>
    obtain ⟨g, ri, rt, rl, ra, h1, h2, h3, h4, h5, h6, h7⟩ := h
    exact ⟨g, ri, rt, rl, ra, h1, h2, h3, h4, h5, h6, h7.keep hb⟩
  | j + 17, h => trivial
set_option maxHeartbeats 2000000 in
theorem re_upd {v : Value} (hj : j ≠ i) (h78 : ¬ (j = 16 ∧ i = 15)) (h : RE ps V Bx st C Wb j f w) : RE ps V Bx st C Wb j (upd f i v) w := by
  match j, hj, h78, h with
  | 0, hj, _, h => exact (upd_other f i v hj).trans h
  | 1, hj, _, h => exact (upd_other f i v hj).trans h
  | 2, hj, _, h => obtain ⟨r, h1, h2⟩ := h; exact ⟨r, h1, (upd_other f i v hj).trans h2⟩
  | 3, hj, _, h => exact (upd_other f i v hj).trans h
  | 4, hj, _, h => exact (upd_other f i v hj).trans h
  | 5, hj, _, h => obtain ⟨r, h1, h2⟩ := h; exact ⟨r, h1, (upd_other f i v hj).trans h2⟩
  | 6, hj, _, h => exact (upd_other f i v hj).trans h
  | 7, hj, _, h => exact (upd_other f i v hj).trans h
  | 8, hj, _, h => obtain ⟨r, h1, h2⟩ := h; exact ⟨r, h1, (upd_other f i v hj).trans h2⟩
  | 9, hj, _, h => exact (upd_other f i v hj).trans h
  | 10, hj, _, h => exact (upd_other f i v hj).trans h
  | 11, hj, _, h => obtain ⟨r, h1, h2⟩ := h; exact ⟨r, h1, (upd_other f i v hj).trans h2⟩
  | 12, hj, _, h => exact (upd_other f i v hj).trans h
  | 13, hj, _, h => exact (upd_other f i v hj).trans h
  | 14, hj, _, h =>
    obtain ⟨ri, rt, rl, ra, h1, h2, h3, h4, h5⟩ := h
    exact ⟨ri, rt, rl, ra, h1, h2, h3, h4, (upd_other f i v hj).trans h5⟩
  | 15, hj, _, h => obtain ⟨g, h1, h2, h3⟩ := h; exact ⟨g, h1, (upd_other f i v hj).trans h2, h3⟩
  | 16, hj, h78, h =>
    obtain ⟨g, ri, rt, rl, ra, h1, h2, h3, h4, h5, h6, h7⟩ := h
    exact ⟨g, ri, rt, rl, ra, h1, h2, h3, h4, h5, (upd_other f i v (show 15 ≠ i from fun e => h78 ⟨rfl, e.symm⟩)).trans h6, h7⟩
  | j + 17, _, _, h => trivial
set_option maxHeartbeats 2000000 in
theorem re_world (h1 : j ≠ 15) (h2 : j ≠ 16) (h : RE ps V Bx st C Wb j f w) : RE ps V Bx st C Wb j f w' := by
  match j, h1, h2, h with
  | 0, _, _, h => exact h
  | 1, _, _, h => exact h
  | 2, _, _, h => exact h
  | 3, _, _, h => exact h
  | 4, _, _, h => exact h
  | 5, _, _, h => exact h
  | 6, _, _, h => exact h
  | 7, _, _, h => exact h
  | 8, _, _, h => exact h
  | 9, _, _, h => exact h
  | 10, _, _, h => exact h
  | 11, _, _, h => exact h
  | 12, _, _, h => exact h
  | 13, _, _, h => exact h
  | 14, _, _, h => exact h
  | 15, h1, _, _ => exact absurd rfl h1
  | 16, _, h2, _ => exact absurd rfl h2
  | j + 17, _, _, _ => trivial
theorem re_put {g : Nat} {x a b c d e f' : Value} (hj : j ≠ 16) (h15 : f 15 = .pointer (some ⟨g, 0, none⟩)) (hp : L6 (put6 w g a b c d e f') g a b c d e f') (h : RE ps V Bx st C Wb j f w) : RE ps V Bx st C Wb j (upd f 16 x) (put6 w g a b c d e f') := by
  have h' := re_upd (v := x) hj (by omega) h
  by_cases e15 : j = 15
  · subst e15
    obtain ⟨g', h1, h2, _⟩ := h
    rw [h15] at h2
    cases h2
    exact ⟨g, h1, (upd_other f 16 x hj).trans h15, a, b, c, d, e, f', hp⟩
  · exact re_world e15 hj h'
end
theorem name_size {nm : ByteArray} (h : nm ∈ names) : nm.size ≤ 40 := by
  simp only [names, List.mem_cons, List.not_mem_nil, or_false] at h
  rcases h with rfl | rfl | rfl | rfl | rfl <;> decide
theorem con_size {T : ByteArray} (h : T.size ≤ 65536) : (con T).1.size ≤ 1048576 := by
  unfold con
  split
  · show (lfp.lfr (qu.ul (quoted T))).toArray.size ≤ _
    have h1 := lfp.lfr_len (qu.ul (quoted T))
    have h2 := qu.ul_len (quoted T)
    simp only [List.size_toArray]
    omega
  · exact Nat.zero_le _
/-- What (letter).entry answers. -/
def LeRet (ps : List Pr) (T : ByteArray) (e : Ending) : Prop :=
  ∃ st c : Int, dateR ps = .tuple #[.int .i64 st, .int .i64 c] ∧
    (((c ≠ 0 ∨ (con T).2 = false) ∧ e = .returned (.tuple #[en.EV noEn, .bool false])) ∨
     (c = 0 ∧ (con T).2 = true ∧ ∃ ri rt rl ra, Dv ps nXid ri ∧ Dv ps nSubj rt ∧ Dv ps nXlnk rl ∧ Dv ps nFrom ra ∧ e = .returned (.tuple #[en.EV ⟨ri, rt, rl, ra, st, (con T).1⟩, .bool (en.eok ⟨ri, rt, rl, ra, st, (con T).1⟩)])))

set_option maxHeartbeats 4000000 in
set_option maxRecDepth 100000 in
theorem entry_any (V : Value) (ps : List Pr) (T : ByteArray) (w : World) (m : Int) (h : AttrsAt w V ps) (hsm : fa.Small ps) (hA : AllIn ps) (hT : T.size ≤ 65536)
    (HT : ∀ w', Below w.heap.size w w' → w'.cell? ⟨4, 0, none⟩ = some (.int .i64 m) ∧ tb.TD w' ∧ tb.TV w' ∧ tb.TA w' ∧ td.TN w' ∧ td.TW w') :
    Calls Tryz.prog 26 #[.agg #[V, .string T]] w fun e w' => LeRet ps T e ∧ Below w.heap.size w w' := by
  obtain ⟨st, cd, hdr⟩ := dateR_form ps
  obtain ⟨xd, hxd, hsd⟩ := hA nDate (by simp [names])
  have hxz := safe_size hsd
  have HDR : Hid (dateR ps = .tuple #[.int .i64 st, .int .i64 cd]) := hdr
  have HVD := fun (W : World) (hW : Below w.heap.size w W) => value_any V ps nDate W (fa.at_below h hW) hsm (by decide)
  rw [hxd] at HVD
  have HVD' : Hid _ := HVD
  have HRD : Hid (∀ W, Below w.heap.size w W → Calls Tryz.prog 68 #[.string xd] W fun e w' => e = .returned (.tuple #[.int .i64 st, .int .i64 cd]) ∧ Below W.heap.size W w') := by
    intro W hW
    obtain ⟨t1, t2, t3, t4, t5, t6⟩ := HT W hW
    have h1 := rd.impl_822 xd (by omega) W m t1 t5 t6
    have h2 : rd.r8 xd.data.toList = .tuple #[.int .i64 st, .int .i64 cd] := by
      have := hdr
      unfold dateR at this
      rw [hxd] at this
      exact this
    rw [h2] at h1
    exact h1
  obtain ⟨va, vn, vc, hV⟩ : ∃ a n c, V = .slice a n c := by
    obtain ⟨a, c, e, _⟩ := h
    exact ⟨a, _, c, e⟩
  have HCO : Hid (∀ W, Below w.heap.size w W → Calls Tryz.prog 69 #[.agg #[V, .string T]] W fun e w' => e = .returned (.tuple #[.string (con T).1, .bool (con T).2]) ∧ Below W.heap.size W w') := by
    intro W hW
    rw [hV]
    exact content_any va vn vc T W m hT (fun w' hw' => by
      obtain ⟨t1, t2, _⟩ := HT w' (hW.trans (hw'.mono hW.size))
      exact ⟨t1, t2⟩)
  have HPL0 : Hid (∀ W, Below w.heap.size w W → ∀ nm ∈ names, Calls Tryz.prog 70 #[V, .string nm] W fun e w' => (∃ r, Dv ps nm r ∧ e = .returned (.string r)) ∧ Below W.heap.size W w') := by
    intro W hW nm hnm
    obtain ⟨x, hx, hs⟩ := hA nm hnm
    have hxs := safe_size hs
    refine (plain_any V ps nm W (fa.at_below h hW) hsm (name_size hnm) (by rw [hx]; show x.size ≤ 1048576; omega) (fun w' hw' => ?_)).mono ?_
    · obtain ⟨_, _, t3, t4, _⟩ := HT w' (hW.trans (hw'.mono hW.size))
      exact ⟨t3, t4⟩
    · rintro e w' ⟨⟨r, hr, he⟩, hb⟩
      exact ⟨⟨r, says_dv hx hs hr, he⟩, hb⟩
  have HSZ : Hid (∀ nm ∈ names, ∀ r, Dv ps nm r → r.size ≤ 2001) := by
    intro nm hnm r hr
    obtain ⟨x, hx, hs⟩ := hA nm hnm
    exact dv_size hx hs hr
  have B0 := b2.new w 43 V (.string T)
  have k0 := box_below w #[V, .string T] 43
  have R1 := l6_new (w.alloc (.cells #[V, .string T] 43)) (.string ⟨#[]⟩) (.string ⟨#[]⟩) (.string ⟨#[]⟩) (.string ⟨#[]⟩) (.int .i64 0) (.string ⟨#[]⟩)
  have k1 := k0.trans ((box_below (w.alloc (.cells #[V, .string T] 43)) #[.string ⟨#[]⟩, .string ⟨#[]⟩, .string ⟨#[]⟩, .string ⟨#[]⟩, .int .i64 0, .string ⟨#[]⟩] 24).mono k0.size)
  have B1 := B0.below (box_below (w.alloc (.cells #[V, .string T] 43)) #[.string ⟨#[]⟩, .string ⟨#[]⟩, .string ⟨#[]⟩, .string ⟨#[]⟩, .int .i64 0, .string ⟨#[]⟩] 24)
  rw [show (w.alloc (.cells #[V, .string T] 43)).heap.size = w.heap.size + 1 from by simp] at R1
  clear B0 k0 HVD hdr h hA HT hsm
  subst hV
  go_enter Tryz.func26, Tryz.ntmps26
  have q0 := B1.c0
  go_wp2_with fail
  generalize (w.alloc _).alloc _ = w1 at B1 R1 k1 q0 ⊢
  refine (HVD'.out w1 k1).mono ?_
  rintro e w2 ⟨rfl, j2⟩
  have B2 := B1.below j2
  have R2 := R1.keep j2
  have k2 := k1.trans (j2.mono k1.size)
  clear B1 R1 k1 j2 q0 HVD'
  unfold FRet
  go_wp2_with fail
  refine (HRD.out w2 k2).mono ?_
  rintro e w3 ⟨rfl, j3⟩
  have B3 := B2.below j3
  have R3 := R2.keep j3
  have k3 := k2.trans (j3.mono k2.size)
  clear B2 R2 k2 j3 HRD
  have q0 := B3.c0
  have q1 := B3.c1'
  go_wp2_with fail
  refine (HCO.out w3 k3).mono ?_
  rintro e w4 ⟨rfl, j4⟩
  have B4 := B3.below j4
  have R4 := R3.keep j4
  have k4 := k3.trans (j4.mono k3.size)
  clear B3 R3 k3 j4 q0 q1 HCO
  obtain ⟨C, hC⟩ : ∃ C, (con T).1 = C := ⟨_, rfl⟩
  obtain ⟨ok, hok⟩ : ∃ b, (con T).2 = b := ⟨_, rfl⟩
  rw [hC, hok]
  have HC : Hid ((con T).1 = C) := hC
  have HOK : Hid ((con T).2 = ok) := hok
  have hCs : C.size ≤ 1048576 := by rw [← hC]; exact con_size hT
  clear hC hok
  by_cases hbad : cd ≠ 0 ∨ ok = false
  · have hb1 : ((cd != 0) || !ok) = true := by
      rcases hbad with h | h
      · simp [h]
      · simp [h]
    have r0 := R4.c0
    have r1 := R4.c1
    have r2 := R4.c2
    have r3 := R4.c3
    have r4 := R4.c4
    have r5 := R4.c5
    have f0 := R4.f 0
    have f1 := R4.f 1
    have f2 := R4.f 2
    have f3 := R4.f 3
    have f4 := R4.f 4
    have f5 := R4.f 5
    have HBAD : Hid (cd ≠ 0 ∨ ok = false) := hbad
    have HE : Hid (LeRet ps T (.returned (.tuple #[.agg #[.string ⟨#[]⟩, .string ⟨#[]⟩, .string ⟨#[]⟩, .string ⟨#[]⟩, .int .i64 0, .string ⟨#[]⟩], .bool false]))) := ⟨st, cd, HDR.out, .inl ⟨by rw [HOK.out]; exact hbad, rfl⟩⟩
    clear hbad
    by_cases hcz : cd = 0
    · have hok0 : ok = false := by
        rcases HBAD.out with h | h
        · exact absurd hcz h
        · exact h
      subst hcz hok0
      go_wp2
      have A5 := R4.put (a' := .string ⟨#[]⟩) (b' := .string ⟨#[]⟩) (c' := .string ⟨#[]⟩) (d' := .string ⟨#[]⟩) (e' := .int .i64 0) (f' := .string ⟨#[]⟩)
      have b5 := put6_below (g := w.heap.size + 1) (a := .string ⟨#[]⟩) (b := .string ⟨#[]⟩) (c := .string ⟨#[]⟩) (d := .string ⟨#[]⟩) (e := .int .i64 0) (f' := .string ⟨#[]⟩) k4 (by omega)
      change bodyPost _ _ _ _ _ (put6 w4 (w.heap.size + 1) (.string ⟨#[]⟩) (.string ⟨#[]⟩) (.string ⟨#[]⟩) (.string ⟨#[]⟩) (.int .i64 0) (.string ⟨#[]⟩))
      generalize put6 _ _ _ _ _ _ _ _ = W5 at A5 b5 ⊢
      have d0 := A5.c0
      have d1 := A5.c1
      have d2 := A5.c2
      have d3 := A5.c3
      have d4 := A5.c4
      have d5 := A5.c5
      exact bodyPost_ret (v := .tuple #[.agg #[.string ⟨#[]⟩, .string ⟨#[]⟩, .string ⟨#[]⟩, .string ⟨#[]⟩, .int .i64 0, .string ⟨#[]⟩], .bool false]) (by simp [results, Tryz.results26, go_sem, d0, d1, d2, d3, d4, d5]) rfl ⟨HE.out, b5⟩
    · have hcn : (cd != 0) = true := by simp [hcz]
      go_wp2
      have A5 := R4.put (a' := .string ⟨#[]⟩) (b' := .string ⟨#[]⟩) (c' := .string ⟨#[]⟩) (d' := .string ⟨#[]⟩) (e' := .int .i64 0) (f' := .string ⟨#[]⟩)
      have b5 := put6_below (g := w.heap.size + 1) (a := .string ⟨#[]⟩) (b := .string ⟨#[]⟩) (c := .string ⟨#[]⟩) (d := .string ⟨#[]⟩) (e := .int .i64 0) (f' := .string ⟨#[]⟩) k4 (by omega)
      change bodyPost _ _ _ _ _ (put6 w4 (w.heap.size + 1) (.string ⟨#[]⟩) (.string ⟨#[]⟩) (.string ⟨#[]⟩) (.string ⟨#[]⟩) (.int .i64 0) (.string ⟨#[]⟩))
      generalize put6 _ _ _ _ _ _ _ _ = W5 at A5 b5 ⊢
      have d0 := A5.c0
      have d1 := A5.c1
      have d2 := A5.c2
      have d3 := A5.c3
      have d4 := A5.c4
      have d5 := A5.c5
      exact bodyPost_ret (v := .tuple #[.agg #[.string ⟨#[]⟩, .string ⟨#[]⟩, .string ⟨#[]⟩, .string ⟨#[]⟩, .int .i64 0, .string ⟨#[]⟩], .bool false]) (by simp [results, Tryz.results26, go_sem, d0, d1, d2, d3, d4, d5]) rfl ⟨HE.out, b5⟩
  · have hcz : cd = 0 := by
      apply Classical.byContradiction
      intro h
      exact hbad (.inl h)
    have hok1 : ok = true := by
      cases ok
      · exact absurd (.inr rfl) hbad
      · rfl
    subst hcz hok1
    clear hbad
    have HPLN : Hid (∀ W, Below w4.heap.size w4 W → ∀ nm ∈ names, Calls Tryz.prog 70 #[.slice va vn vc, .string nm] W fun e w' => (∃ r, Dv ps nm r ∧ e = .returned (.string r)) ∧ Below W.heap.size W w') := fun W hW => HPL0.out W (k4.trans (hW.mono k4.size))
    have HK4 : Hid (Below w.heap.size w w4) := k4
    go_wp2_with fail
    obtain ⟨Bx, hBx⟩ : ∃ Bx, w.heap.size = Bx := ⟨_, rfl⟩
    have HBX0 : Hid (w.heap.size = Bx) := hBx
    rw [hBx] at B4 R4 ⊢
    have HBX : Hid (b2.Box w4 Bx 43 (.slice va vn vc) (.string T)) := B4
    have HR4 : Hid (L6 w4 (Bx + 1) (.string ⟨#[]⟩) (.string ⟨#[]⟩) (.string ⟨#[]⟩) (.string ⟨#[]⟩) (.int .i64 0) (.string ⟨#[]⟩)) := R4
    clear hBx B4 R4 k4 HPL0
    generalize hV : Value.slice va vn vc = V at HPLN HBX ⊢
    obtain ⟨wr, hwr⟩ : ∃ wr, w4 = wr := ⟨_, rfl⟩
    rw [hwr] at HPLN HBX HR4 HK4 ⊢
    clear hwr hV
    refine rq.region_rel2 (by kernel_rfl) (fun f => { tmps := #[.agg #[V, .string T], .pointer (some ⟨Bx, 0, none⟩), .pointer (some ⟨Bx + 1, 0, none⟩), .bool false, .string xd, .bool true, .int .i64 st, .int .i64 0, .string C, .bool true, f 15, .tuple #[.string xd, .bool true], .pointer (some ⟨Bx, 0, none⟩), V, .tuple #[.string xd, .bool true], .string xd, .bool true, .tuple #[.int .i64 st, .int .i64 0], .string xd, .tuple #[.int .i64 st, .int .i64 0], .int .i64 st, .int .i64 0, .tuple #[.string C, .bool true], .agg #[V, .string T], .tuple #[.string C, .bool true], .string C, .bool true, .int .i64 0, .bool false, .bool false, .bool true, .bool false, .bool false, undef, f 0, f 1, f 2, f 3, f 4, f 5, f 6, f 7, f 8, f 9, f 10, f 11, f 12, f 13, f 14, undef, undef, undef], defers := [] }) (fun w' => Below wr.heap.size wr w') (RE ps V Bx st C wr.heap.size) (fun _ => undef) rfl ((Below.refl _ _).drew) (rq.deps_of (by kernel_rfl)) ?_ ?_
    · intro i' o ho D f w hc hR hall hni hcl hV
      match i', ho with
      | 0, ho =>
          cases ho
          have HRR : Hid (∀ j, D j → RE ps V Bx st C wr.heap.size j f w) := hR
          clear hR hall hcl hV
          refine wpOp_step rfl (fun K' hK => ?_)
          go_simp
          exact hK _ _ ⟨.pointer (some ⟨Bx, 0, none⟩), by simp [rq.upd], hc, rq.upd_same f 0 _, fun j hj hd => re_upd hj (by omega) (HRR.out j hd)⟩
      | 1, ho =>
          cases ho
          have d0 : D 0 := hall { on := 0, ground := Ground.data } (by simp) rfl
          have HRR : Hid (∀ j, D j → RE ps V Bx st C wr.heap.size j f w) := hR
          have h0 : f 0 = .pointer (some ⟨Bx, 0, none⟩) := hR 0 d0
          have q0 := (HBX.out.below hc).c0
          clear hR hall hcl hV
          refine wpOp_step rfl (fun K' hK => ?_)
          simp only [h0]
          go_simp
          exact hK _ _ ⟨V, by simp [rq.upd, h0], hc, rq.upd_same f 1 _, fun j hj hd => re_upd hj (by omega) (HRR.out j hd)⟩
      | 2, ho =>
          cases ho
          have d1 : D 1 := hall { on := 1, ground := Ground.data } (by simp) rfl
          have HRR : Hid (∀ j, D j → RE ps V Bx st C wr.heap.size j f w) := hR
          have h1 : f 1 = V := hR 1 d1
          have HPL : Hid _ := HPLN.out w hc nXid (by simp [names])
          clear hR hall hcl hV
          refine wpOp_step rfl (fun K' hK => ?_)
          simp only [h1]
          go_wp2_with (go_at_call 70; refine Calls.mono HPL.out ?_; rintro e w' ⟨⟨r, hr, rfl⟩, hb⟩)
          exact ⟨.string r, by simp [rq.upd, h1], hc.trans (hb.mono hc.size), ⟨r, hr, rq.upd_same f 2 _⟩, fun j hj hd => re_keep (re_upd hj (by omega) (HRR.out j hd)) hb⟩
      | 3, ho =>
          cases ho
          have HRR : Hid (∀ j, D j → RE ps V Bx st C wr.heap.size j f w) := hR
          clear hR hall hcl hV
          refine wpOp_step rfl (fun K' hK => ?_)
          go_simp
          exact hK _ _ ⟨.pointer (some ⟨Bx, 0, none⟩), by simp [rq.upd], hc, rq.upd_same f 3 _, fun j hj hd => re_upd hj (by omega) (HRR.out j hd)⟩
      | 4, ho =>
          cases ho
          have d3 : D 3 := hall { on := 3, ground := Ground.data } (by simp) rfl
          have HRR : Hid (∀ j, D j → RE ps V Bx st C wr.heap.size j f w) := hR
          have h3 : f 3 = .pointer (some ⟨Bx, 0, none⟩) := hR 3 d3
          have q0 := (HBX.out.below hc).c0
          clear hR hall hcl hV
          refine wpOp_step rfl (fun K' hK => ?_)
          simp only [h3]
          go_simp
          exact hK _ _ ⟨V, by simp [rq.upd, h3], hc, rq.upd_same f 4 _, fun j hj hd => re_upd hj (by omega) (HRR.out j hd)⟩
      | 5, ho =>
          cases ho
          have d4 : D 4 := hall { on := 4, ground := Ground.data } (by simp) rfl
          have HRR : Hid (∀ j, D j → RE ps V Bx st C wr.heap.size j f w) := hR
          have h4 : f 4 = V := hR 4 d4
          have HPL : Hid _ := HPLN.out w hc nSubj (by simp [names])
          clear hR hall hcl hV
          refine wpOp_step rfl (fun K' hK => ?_)
          simp only [h4]
          go_wp2_with (go_at_call 70; refine Calls.mono HPL.out ?_; rintro e w' ⟨⟨r, hr, rfl⟩, hb⟩)
          exact ⟨.string r, by simp [rq.upd, h4], hc.trans (hb.mono hc.size), ⟨r, hr, rq.upd_same f 5 _⟩, fun j hj hd => re_keep (re_upd hj (by omega) (HRR.out j hd)) hb⟩
      | 6, ho =>
          cases ho
          have HRR : Hid (∀ j, D j → RE ps V Bx st C wr.heap.size j f w) := hR
          clear hR hall hcl hV
          refine wpOp_step rfl (fun K' hK => ?_)
          go_simp
          exact hK _ _ ⟨.pointer (some ⟨Bx, 0, none⟩), by simp [rq.upd], hc, rq.upd_same f 6 _, fun j hj hd => re_upd hj (by omega) (HRR.out j hd)⟩
      | 7, ho =>
          cases ho
          have d6 : D 6 := hall { on := 6, ground := Ground.data } (by simp) rfl
          have HRR : Hid (∀ j, D j → RE ps V Bx st C wr.heap.size j f w) := hR
          have h6 : f 6 = .pointer (some ⟨Bx, 0, none⟩) := hR 6 d6
          have q0 := (HBX.out.below hc).c0
          clear hR hall hcl hV
          refine wpOp_step rfl (fun K' hK => ?_)
          simp only [h6]
          go_simp
          exact hK _ _ ⟨V, by simp [rq.upd, h6], hc, rq.upd_same f 7 _, fun j hj hd => re_upd hj (by omega) (HRR.out j hd)⟩
      | 8, ho =>
          cases ho
          have d7 : D 7 := hall { on := 7, ground := Ground.data } (by simp) rfl
          have HRR : Hid (∀ j, D j → RE ps V Bx st C wr.heap.size j f w) := hR
          have h7 : f 7 = V := hR 7 d7
          have HPL : Hid _ := HPLN.out w hc nXlnk (by simp [names])
          clear hR hall hcl hV
          refine wpOp_step rfl (fun K' hK => ?_)
          simp only [h7]
          go_wp2_with (go_at_call 70; refine Calls.mono HPL.out ?_; rintro e w' ⟨⟨r, hr, rfl⟩, hb⟩)
          exact ⟨.string r, by simp [rq.upd, h7], hc.trans (hb.mono hc.size), ⟨r, hr, rq.upd_same f 8 _⟩, fun j hj hd => re_keep (re_upd hj (by omega) (HRR.out j hd)) hb⟩
      | 9, ho =>
          cases ho
          have HRR : Hid (∀ j, D j → RE ps V Bx st C wr.heap.size j f w) := hR
          clear hR hall hcl hV
          refine wpOp_step rfl (fun K' hK => ?_)
          go_simp
          exact hK _ _ ⟨.pointer (some ⟨Bx, 0, none⟩), by simp [rq.upd], hc, rq.upd_same f 9 _, fun j hj hd => re_upd hj (by omega) (HRR.out j hd)⟩
      | 10, ho =>
          cases ho
          have d9 : D 9 := hall { on := 9, ground := Ground.data } (by simp) rfl
          have HRR : Hid (∀ j, D j → RE ps V Bx st C wr.heap.size j f w) := hR
          have h9 : f 9 = .pointer (some ⟨Bx, 0, none⟩) := hR 9 d9
          have q0 := (HBX.out.below hc).c0
          clear hR hall hcl hV
          refine wpOp_step rfl (fun K' hK => ?_)
          simp only [h9]
          go_simp
          exact hK _ _ ⟨V, by simp [rq.upd, h9], hc, rq.upd_same f 10 _, fun j hj hd => re_upd hj (by omega) (HRR.out j hd)⟩
      | 11, ho =>
          cases ho
          have d10 : D 10 := hall { on := 10, ground := Ground.data } (by simp) rfl
          have HRR : Hid (∀ j, D j → RE ps V Bx st C wr.heap.size j f w) := hR
          have h10 : f 10 = V := hR 10 d10
          have HPL : Hid _ := HPLN.out w hc nFrom (by simp [names])
          clear hR hall hcl hV
          refine wpOp_step rfl (fun K' hK => ?_)
          simp only [h10]
          go_wp2_with (go_at_call 70; refine Calls.mono HPL.out ?_; rintro e w' ⟨⟨r, hr, rfl⟩, hb⟩)
          exact ⟨.string r, by simp [rq.upd, h10], hc.trans (hb.mono hc.size), ⟨r, hr, rq.upd_same f 11 _⟩, fun j hj hd => re_keep (re_upd hj (by omega) (HRR.out j hd)) hb⟩
      | 12, ho =>
          cases ho
          have HRR : Hid (∀ j, D j → RE ps V Bx st C wr.heap.size j f w) := hR
          clear hR hall hcl hV
          refine wpOp_step rfl (fun K' hK => ?_)
          go_simp
          exact hK _ _ ⟨.int .i64 st, by simp [rq.upd], hc, rq.upd_same f 12 _, fun j hj hd => re_upd hj (by omega) (HRR.out j hd)⟩
      | 13, ho =>
          cases ho
          have HRR : Hid (∀ j, D j → RE ps V Bx st C wr.heap.size j f w) := hR
          clear hR hall hcl hV
          refine wpOp_step rfl (fun K' hK => ?_)
          go_simp
          exact hK _ _ ⟨.string C, by simp [rq.upd], hc, rq.upd_same f 13 _, fun j hj hd => re_upd hj (by omega) (HRR.out j hd)⟩
      | 14, ho =>
          cases ho
          have d2 : D 2 := hall { on := 2, ground := Ground.data } (by simp) rfl
          have d5 : D 5 := hall { on := 5, ground := Ground.data } (by simp) rfl
          have d8 : D 8 := hall { on := 8, ground := Ground.data } (by simp) rfl
          have d11 : D 11 := hall { on := 11, ground := Ground.data } (by simp) rfl
          have d12 : D 12 := hall { on := 12, ground := Ground.data } (by simp) rfl
          have d13 : D 13 := hall { on := 13, ground := Ground.data } (by simp) rfl
          have HRR : Hid (∀ j, D j → RE ps V Bx st C wr.heap.size j f w) := hR
          obtain ⟨ri, di, h2⟩ : ∃ r, Dv ps nXid r ∧ f 2 = .string r := hR 2 d2
          obtain ⟨rt, dt, h5⟩ : ∃ r, Dv ps nSubj r ∧ f 5 = .string r := hR 5 d5
          obtain ⟨rl, dl, h8⟩ : ∃ r, Dv ps nXlnk r ∧ f 8 = .string r := hR 8 d8
          obtain ⟨ra, da, h11⟩ : ∃ r, Dv ps nFrom r ∧ f 11 = .string r := hR 11 d11
          have h12 : f 12 = .int .i64 st := hR 12 d12
          have h13 : f 13 = .string C := hR 13 d13
          clear hR hall hcl hV
          refine wpOp_step rfl (fun K' hK => ?_)
          simp only [h2, h5, h8, h11, h12, h13]
          go_simp
          exact hK _ _ ⟨.agg #[.string ri, .string rt, .string rl, .string ra, .int .i64 st, .string C], by simp [rq.upd, h2, h5, h8, h11, h12, h13], hc, ⟨ri, rt, rl, ra, di, dt, dl, da, rq.upd_same f 14 _⟩, fun j hj hd => re_upd hj (by omega) (HRR.out j hd)⟩
      | 15, ho =>
          cases ho
          have HRR : Hid (∀ j, D j → RE ps V Bx st C wr.heap.size j f w) := hR
          have hnb : ¬ D 16 := fun h8 => hni (hcl 16 _ h8 rfl { on := 15, ground := Ground.data } (by simp) rfl)
          have hnew := l6_new w (.string ⟨#[]⟩) (.string ⟨#[]⟩) (.string ⟨#[]⟩) (.string ⟨#[]⟩) (.int .i64 0) (.string ⟨#[]⟩)
          have hbn := box_below w #[.string ⟨#[]⟩, .string ⟨#[]⟩, .string ⟨#[]⟩, .string ⟨#[]⟩, .int .i64 0, .string ⟨#[]⟩] 24
          have hcs2 := hc.size
          clear hR hall hcl hV
          refine wpOp_step rfl (fun K' hK => ?_)
          go_simp
          exact hK _ _ ⟨.pointer (some ⟨w.heap.size, 0, none⟩), by simp [rq.upd], hc.trans (hbn.mono hc.size), ⟨w.heap.size, hcs2, rq.upd_same f 15 _, _, _, _, _, _, _, hnew⟩, fun j hj hd => re_keep (re_upd hj (fun e => hnb (e.1 ▸ hd)) (HRR.out j hd)) hbn⟩
      | 16, ho =>
          cases ho
          have d15 : D 15 := hall { on := 15, ground := Ground.data } (by simp) rfl
          have d14 : D 14 := hall { on := 14, ground := Ground.data } (by simp) rfl
          have HRR : Hid (∀ j, D j → RE ps V Bx st C wr.heap.size j f w) := hR
          obtain ⟨g, g1, h15, z0, z1, z2, z3, z4, z5, hbx⟩ : ∃ g : Nat, wr.heap.size ≤ g ∧ f 15 = .pointer (some ⟨g, 0, none⟩) ∧ ∃ a b c d e f', L6 w g a b c d e f' := hR 15 d15
          obtain ⟨ri, rt, rl, ra, di, dt, dl, da, h14⟩ : ∃ ri rt rl ra, Dv ps nXid ri ∧ Dv ps nSubj rt ∧ Dv ps nXlnk rl ∧ Dv ps nFrom ra ∧ f 14 = .agg #[.string ri, .string rt, .string rl, .string ra, .int .i64 st, .string C] := hR 14 d14
          have r0 := hbx.c0
          have r1 := hbx.c1
          have r2 := hbx.c2
          have r3 := hbx.c3
          have r4 := hbx.c4
          have r5 := hbx.c5
          have f0 := hbx.f 0
          have f1 := hbx.f 1
          have f2 := hbx.f 2
          have f3 := hbx.f 3
          have f4 := hbx.f 4
          have f5 := hbx.f 5
          have HPU : Hid _ := hbx.put (a' := .string ri) (b' := .string rt) (c' := .string rl) (d' := .string ra) (e' := .int .i64 st) (f' := .string C)
          have HBP : Hid _ := put6_below (g := g) (a := .string ri) (b := .string rt) (c := .string rl) (d := .string ra) (e := .int .i64 st) (f' := .string C) hc g1
          clear hR hall hcl hV hbx
          refine wpOp_step rfl (fun K' hK => ?_)
          simp only [h15, h14]
          go_simp
          exact hK _ _ ⟨undef, by simp [rq.upd, h15, h14], HBP.out, ⟨g, ri, rt, rl, ra, g1, di, dt, dl, da, (rq.upd_other f 16 undef (by omega)).trans h15, HPU.out⟩, fun j hj hd => re_put hj h15 HPU.out (HRR.out j hd)⟩
      | k + 17, ho => simp at ho
    · intro f w5 hc hR
      obtain ⟨g, ri, rt, rl, ra, g1, di, dt, dl, da, h15, hbx⟩ : ∃ (g : Nat) (ri rt rl ra : ByteArray), wr.heap.size ≤ g ∧ Dv ps nXid ri ∧ Dv ps nSubj rt ∧ Dv ps nXlnk rl ∧ Dv ps nFrom ra ∧ f 15 = .pointer (some ⟨g, 0, none⟩) ∧ L6 w5 g (.string ri) (.string rt) (.string rl) (.string ra) (.int .i64 st) (.string C) := hR 16 (by simp)
      clear hR
      have HR5 : Hid (L6 w5 (Bx + 1) (.string ⟨#[]⟩) (.string ⟨#[]⟩) (.string ⟨#[]⟩) (.string ⟨#[]⟩) (.int .i64 0) (.string ⟨#[]⟩)) := HR4.out.keep hc
      have HB5 : Hid (Below w.heap.size w w5) := HK4.out.trans (hc.mono HK4.out.size)
      have HG5 : Hid (L6 w5 g (.string ri) (.string rt) (.string rl) (.string ra) (.int .i64 st) (.string C)) := hbx
      have HDS : Hid (Dv ps nXid ri ∧ Dv ps nSubj rt ∧ Dv ps nXlnk rl ∧ Dv ps nFrom ra) := ⟨di, dt, dl, da⟩
      have hSm : en.Small ⟨ri, rt, rl, ra, st, C⟩ := by
        have s1 := HSZ.out nXid (by simp [names]) ri di
        have s2 := HSZ.out nSubj (by simp [names]) rt dt
        have s3 := HSZ.out nXlnk (by simp [names]) rl dl
        have s4 := HSZ.out nFrom (by simp [names]) ra da
        exact ⟨by show ri.size ≤ _; omega, by show rt.size ≤ _; omega, by show rl.size ≤ _; omega, by show ra.size ≤ _; omega, hCs⟩
      have HEK0 := fun W => en.impl_eok ⟨ri, rt, rl, ra, st, C⟩ W hSm
      obtain ⟨ek, hek⟩ : ∃ b, en.eok ⟨ri, rt, rl, ra, st, C⟩ = b := ⟨_, rfl⟩
      rw [hek] at HEK0
      have HEK : Hid _ := HEK0
      unfold en.EV en.cl at HEK
      simp only at HEK
      have HEN : Hid (LeRet ps T (.returned (.tuple #[.agg #[.string ri, .string rt, .string rl, .string ra, .int .i64 st, .string C], .bool ek]))) := ⟨st, 0, HDR.out, .inr ⟨rfl, HOK.out, ri, rt, rl, ra, di, dt, dl, da, by rw [HC.out, hek]; rfl⟩⟩
      clear hc hbx di dt dl da HPLN HR4 HK4 HEK0 hek hSm
      simp only [h15]
      clear h15
      have p0 := HG5.out.c0
      have p1 := HG5.out.c1
      have p2 := HG5.out.c2
      have p3 := HG5.out.c3
      have p4 := HG5.out.c4
      have p5 := HG5.out.c5
      go_wp2_with fail
      go_region_with (go_at_call 13; refine (HEK.out _).mono ?_; rintro e w6 ⟨rfl, k6⟩; have G6 : L6 w6 g (.string ri) (.string rt) (.string rl) (.string ra) (.int .i64 st) (.string C) := L6.keep (w := w5.drew) HG5.out k6; have HR6 : Hid (L6 w6 (Bx + 1) (.string ⟨#[]⟩) (.string ⟨#[]⟩) (.string ⟨#[]⟩) (.string ⟨#[]⟩) (.int .i64 0) (.string ⟨#[]⟩)) := L6.keep (w := w5.drew) HR5.out k6; have HB6 : Hid (Below w.heap.size w w6) := HB5.out.drew.trans (k6.mono HB5.out.size); have y0 := G6.c0; have y1 := G6.c1; have y2 := G6.c2; have y3 := G6.c3; have y4 := G6.c4; have y5 := G6.c5; have v0 := HR6.out.c0; have v1 := HR6.out.c1; have v2 := HR6.out.c2; have v3 := HR6.out.c3; have v4 := HR6.out.c4; have v5 := HR6.out.c5; have f0 := HR6.out.f 0; have f1 := HR6.out.f 1; have f2 := HR6.out.f 2; have f3 := HR6.out.f 3; have f4 := HR6.out.f 4; have f5 := HR6.out.f 5; clear G6 k6)
      all_goals (try go_wp2)
      all_goals
        have A5 := HR6.out.put (a' := .string ri) (b' := .string rt) (c' := .string rl) (d' := .string ra) (e' := .int .i64 st) (f' := .string C)
        have b5 := put6_below (g := Bx + 1) (a := .string ri) (b := .string rt) (c := .string rl) (d := .string ra) (e := .int .i64 st) (f' := .string C) HB6.out (by have := HBX0.out; omega)
        change bodyPost _ _ _ _ _ (put6 w6 (Bx + 1) (.string ri) (.string rt) (.string rl) (.string ra) (.int .i64 st) (.string C))
        generalize put6 _ _ _ _ _ _ _ _ = W5 at A5 b5 ⊢
        have d0 := A5.c0
        have d1 := A5.c1
        have d2 := A5.c2
        have d3 := A5.c3
        have d4 := A5.c4
        have d5 := A5.c5
        exact bodyPost_ret (v := .tuple #[.agg #[.string ri, .string rt, .string rl, .string ra, .int .i64 st, .string C], .bool ek]) (by simp [results, Tryz.results26, go_sem, d0, d1, d2, d3, d4, d5]) rfl ⟨HEN.out, b5⟩
end Go.Proofs.YtadfdfmebdcfgaaGreatDoor.me
