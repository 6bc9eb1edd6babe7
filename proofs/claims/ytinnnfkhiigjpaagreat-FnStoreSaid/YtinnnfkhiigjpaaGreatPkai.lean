/-
  Boxes as rows: copied and compared by the law's own functions.
  The program's own test of a box, as a whole.
  The place of a box among boxes, and the program's own test of boxes.
-/
import Derived.Test.YtinnnfkhiigjpaaGreatPkad
import Derived.Test.YtinnnfkhiigjpaaGreatPkaf

namespace Go.Proofs.YtinnnfkhiigjpaaGreat.bx
open Go.ChangeShapes Go.WideShapes Go.ChangeAt Go.RowKit Go.Deep Go.Joins
open st gr
set_option linter.unusedVariables false

theorem infoB : (Tryz.prog.info? 38).map (fun i => (i.zero, i.size, i.bytes)) = some (some (.agg #[.string ⟨#[]⟩, .int .i64 0, .int .i64 0, .slice none 0 0, .slice none 0 0]), 5, 80) := by kernel_rfl
def put5 (cs : List Value) (o : Nat) (x : Bx) (p : Value × Value) : List Value := ((((cs.set o (.string x.nm)).set (o + 1) (.int .i64 x.vd)).set (o + 2) (.int .i64 x.nx)).set (o + 3) p.1).set (o + 4) p.2
theorem put5_len (cs : List Value) (o : Nat) (x : Bx) (p : Value × Value) : (put5 cs o x p).length = cs.length := by simp [put5]
theorem put5_other {cs : List Value} {o j : Nat} {x : Bx} {p : Value × Value} (h : j < o ∨ o + 4 < j) : (put5 cs o x p)[j]? = cs[j]? := by
  unfold put5
  rw [List.getElem?_set_ne (by omega), List.getElem?_set_ne (by omega), List.getElem?_set_ne (by omega), List.getElem?_set_ne (by omega), List.getElem?_set_ne (by omega)]
def In5 (cs : List Value) (o : Nat) (x : Bx) (p : Value × Value) : Prop := cs[o]? = some (.string x.nm) ∧ cs[o + 1]? = some (.int .i64 x.vd) ∧ cs[o + 2]? = some (.int .i64 x.nx) ∧ cs[o + 3]? = some p.1 ∧ cs[o + 4]? = some p.2
theorem put5_same {cs : List Value} {o : Nat} {x : Bx} {p : Value × Value} (h : o + 4 < cs.length) : In5 (put5 cs o x p) o x p := by
  unfold put5 In5
  refine ⟨?_, ?_, ?_, ?_, ?_⟩
  · rw [List.getElem?_set_ne (by omega), List.getElem?_set_ne (by omega), List.getElem?_set_ne (by omega), List.getElem?_set_ne (by omega), List.getElem?_set_self (by omega)]
  · rw [List.getElem?_set_ne (by omega), List.getElem?_set_ne (by omega), List.getElem?_set_ne (by omega), List.getElem?_set_self (by simp; omega)]
  · rw [List.getElem?_set_ne (by omega), List.getElem?_set_ne (by omega), List.getElem?_set_self (by simp; omega)]
  · rw [List.getElem?_set_ne (by omega), List.getElem?_set_self (by simp; omega)]
  · rw [List.getElem?_set_self (by simp; omega)]
theorem in5_other {cs : List Value} {o q : Nat} {x y : Bx} {p r : Value × Value} (h : In5 cs q y r) (hp : q + 4 < o ∨ o + 4 < q) : In5 (put5 cs o x p) q y r := by
  obtain ⟨h0, h1, h2, h3, h4⟩ := h
  refine ⟨?_, ?_, ?_, ?_, ?_⟩ <;> (rw [put5_other (by omega)]; assumption)
def LayB (xs : List Bx) (vs : Nat → Value × Value) (k : Nat) (cs : List Value) : Prop := ∀ j, j < k → In5 cs (j * 5) (xs.getD j noB) (vs j)
def upd (vs : Nat → Value × Value) (k : Nat) (p : Value × Value) : Nat → Value × Value := fun j => if j = k then p else vs j

end Go.Proofs.YtinnnfkhiigjpaaGreat.bx

namespace Go.Proofs.YtinnnfkhiigjpaaGreat.bx
open Go.RowKit
open st
set_option linter.unusedVariables false

theorem bok_of (x : Bx) : bok x = true ↔ mu.nmB x.nm = true ∧ (1 ≤ x.vd ∧ x.vd ≤ 1000000) ∧ (1 ≤ x.nx ∧ x.nx ≤ 1001) ∧ mailsB x.ms x.nx = true ∧ (x.ks.length : Int) = x.nx - 1 ∧ keysB x.ks = true ∧ bk.dist x.ks = true := by
  simp [bok, and_assoc]
theorem bok_last {x : Bx} (h : mu.nmB x.nm = true ∧ (1 ≤ x.vd ∧ x.vd ≤ 1000000) ∧ (1 ≤ x.nx ∧ x.nx ≤ 1001) ∧ mailsB x.ms x.nx = true ∧ (x.ks.length : Int) = x.nx - 1 ∧ keysB x.ks = true) : bok x = bk.dist x.ks := by
  rw [Bool.eq_iff_iff, bok_of]
  exact ⟨fun y => y.2.2.2.2.2.2, fun y => ⟨h.1, h.2.1, h.2.2.1, h.2.2.2.1, h.2.2.2.2.1, h.2.2.2.2.2, y⟩⟩

set_option maxHeartbeats 4000000 in
set_option maxRecDepth 100000 in
theorem isRight_any (x : Bx) (v u : Value) (B n0 N : Nat) (D0 : DataW Unit) (w : World) (h : RowsIn w N v u x.ms x.ks) (hN : N ≤ B) (hown : bk.Own w B n0 D0) (hx : Small x) :
    Calls Tryz.prog 29 #[BV x v u, .map (some B)] w fun e w' => e = .returned (.bool (bok x)) ∧ (∃ n D, bk.Own w' B n D) ∧ Below B w w' := by
  have L0 := lies_new w 38 x v u
  have hlt := hown.lt
  have b0 := (new_below w 38 #[.string x.nm, .int .i64 x.vd, .int .i64 x.nx, v, u]).mono (Nat.le_of_lt hlt)
  have O0 := hown.alloc (.cells #[.string x.nm, .int .i64 x.vd, .int .i64 x.nx, v, u] 38)
  have HA : Hid (RowsIn (w.alloc (.cells #[.string x.nm, .int .i64 x.vd, .int .i64 x.nx, v, u] 38)) N v u x.ms x.ks) := rows_in_below h b0 hN
  have hls : B < (w.alloc (.cells #[.string x.nm, .int .i64 x.vd, .int .i64 x.nx, v, u] 38)).heap.size := by simp; omega
  have HF : Hid (¬ (mu.nmB x.nm = true ∧ (1 ≤ x.vd ∧ x.vd ≤ 1000000) ∧ (1 ≤ x.nx ∧ x.nx ≤ 1001) ∧ mailsB x.ms x.nx = true ∧ (x.ks.length : Int) = x.nx - 1 ∧ keysB x.ks = true) → bok x = false) := fun hh => Bool.eq_false_iff.2 fun y => hh (by have := (bok_of x).1 y; exact ⟨this.1, this.2.1, this.2.2.1, this.2.2.2.1, this.2.2.2.2.1, this.2.2.2.2.2.1⟩)
  have HT : Hid (mu.nmB x.nm = true ∧ (1 ≤ x.vd ∧ x.vd ≤ 1000000) ∧ (1 ≤ x.nx ∧ x.nx ≤ 1001) ∧ mailsB x.ms x.nx = true ∧ (x.ks.length : Int) = x.nx - 1 ∧ keysB x.ks = true → bok x = bk.dist x.ks) := bok_last
  obtain ⟨⟨a, cap, rfl, _⟩, ⟨a1, cap1, rfl, _⟩⟩ := h
  obtain ⟨nm, vd, nx, ms, ks⟩ := x
  obtain ⟨hi, hnm, hms, hks⟩ := hx
  have HMS : Hid (st.Smalls ms) := hms
  have HKS : Hid (tx.Smalls ks) := hks
  have HNX : Hid (In nx) := hi.2
  unfold BV
  simp only at L0 b0 O0 HA hls HF HT hnm ⊢
  have hkl : ks.length ≤ 1048576 := hks.1
  clear hi hms hks hown
  have HNM : Hid (∀ w, Calls Tryz.prog 43 #[.string nm] w fun e w' => e = .returned (.bool (mu.nmB nm)) ∧ w' = w) := fun w => mu.impl_name nm w hnm
  generalize bok ⟨nm, vd, nx, ms, ks⟩ = R at HF HT ⊢
  go_enter Tryz.func29, Tryz.ntmps29
  go_wp2_with fail
  generalize w.alloc _ = w0 at L0 b0 O0 HA hls ⊢
  refine (HNM.out _).mono ?_
  rintro e w' ⟨rfl, rfl⟩
  have O0 : Hid (bk.Own w' B n0 D0) := O0
  have c0 := L0.c0
  have c1 := L0.c1
  have c2 := L0.c2
  have c3 := L0.c3
  have c4 := L0.c4
  simp only at c0 c1 c2 c3 c4
  generalize hq : mu.nmB nm = nb at HF HT ⊢
  clear hq HNM
  cases nb
  · have HZ : Hid (R = false) := HF.out (fun x => by have := x.1; simp at this)
    go_wp2
    go_ret
    exact ⟨mu.ret_bool HZ.out.symm, ⟨_, _, O0.out⟩, b0⟩
  by_cases q1' : vd < 1
  · skip
    have HZ : Hid (R = false) := HF.out (fun x => by have := x.2.1.1; omega)
    go_wp2
    go_ret
    exact ⟨mu.ret_bool HZ.out.symm, ⟨_, _, O0.out⟩, b0⟩
  have q1 : 1 ≤ vd := by omega
  by_cases q2' : 1000000 < vd
  · skip
    have HZ : Hid (R = false) := HF.out (fun x => by have := x.2.1.2; omega)
    go_wp2
    go_ret
    exact ⟨mu.ret_bool HZ.out.symm, ⟨_, _, O0.out⟩, b0⟩
  have q2 : vd ≤ 1000000 := by omega
  by_cases q3' : nx < 1
  · skip
    have HZ : Hid (R = false) := HF.out (fun x => by have := x.2.2.1.1; omega)
    go_wp2
    go_ret
    exact ⟨mu.ret_bool HZ.out.symm, ⟨_, _, O0.out⟩, b0⟩
  have q3 : 1 ≤ nx := by omega
  by_cases q4' : 1001 < nx
  · skip
    have HZ : Hid (R = false) := HF.out (fun x => by have := x.2.2.1.2; omega)
    go_wp2
    go_ret
    exact ⟨mu.ret_bool HZ.out.symm, ⟨_, _, O0.out⟩, b0⟩
  have q4 : nx ≤ 1001 := by omega
  go_wp2_with fail
  refine (areMails_any N _ ms nx _ HA.out.1 (Nat.le_trans hN (Nat.le_of_lt hls)) HMS.out HNX.out).mono ?_
  rintro e w1 ⟨rfl, hb1⟩
  have L1 := L0.keep hb1
  have HO1 : Hid (bk.Own w1 B n0 D0) := bk.own_keep O0.out hb1 hls
  have HA1 : Hid (RowsIn w1 N (.slice a ms.length cap) (.slice a1 ks.length cap1) ms ks) := rows_in_below HA.out hb1 (Nat.le_trans hN (Nat.le_of_lt hls))
  have b1 := b0.trans (hb1.mono (Nat.le_of_lt hls))
  have hls1 : B < w1.heap.size := Nat.lt_of_lt_of_le hls hb1.size
  clear hb1 L0 O0 HA b0 hls c0 c1 c2 c3 c4
  have c2 := L1.c2
  have c4 := L1.c4
  simp only at c2 c4
  generalize hq : mailsB ms nx = mb at HF HT ⊢
  clear hq
  cases mb
  · have HZ : Hid (R = false) := HF.out (fun x => by have := x.2.2.2.1; simp at this)
    go_wp2
    go_ret
    exact ⟨mu.ret_bool HZ.out.symm, ⟨_, _, HO1.out⟩, b1⟩
  by_cases q5 : ¬ (ks.length : Int) = nx - 1
  · have q5' : ((ks.length : Int) == nx - 1) = false := by simp [q5]
    have HZ : Hid (R = false) := HF.out (fun x => q5 x.2.2.2.2.1)
    clear q5
    go_wp2
    go_ret
    exact ⟨mu.ret_bool HZ.out.symm, ⟨_, _, HO1.out⟩, b1⟩
  have q5 : (ks.length : Int) = nx - 1 := by omega
  have q5' : ((ks.length : Int) == nx - 1) = true := by simp [q5]
  have HQ5 : Hid ((ks.length : Int) = nx - 1) := q5
  clear q5
  go_wp2_with fail
  refine (areKeys_any N _ ks _ HA1.out.2 HKS.out).mono ?_
  rintro e w2 ⟨rfl, rfl⟩
  generalize hq : keysB ks = kb at HF HT ⊢
  clear hq
  cases kb
  · have HZ : Hid (R = false) := HF.out (fun x => by have := x.2.2.2.2.2; simp at this)
    go_wp2
    go_ret
    exact ⟨mu.ret_bool HZ.out.symm, ⟨_, _, HO1.out⟩, b1⟩
  go_wp2_with fail
  refine (bk.learn_any B n0 N D0 _ ks _ HO1.out HA1.out.2 hN HKS.out).mono ?_
  rintro e w3 ⟨rfl, ⟨n, D, ho, _⟩, hb3⟩
  have HZ : Hid (R = bk.dist ks) := HT.out ⟨by trivial, ⟨q1, q2⟩, ⟨q3, q4⟩, by trivial, HQ5.out, by trivial⟩
  have HO3 : Hid (bk.Own w3 B n D) := ho
  have b3 := b1.trans hb3
  clear ho hb3 b1 HO1 HA1 c2 c4
  generalize bk.dist ks = dd at HZ ⊢
  cases dd
  · go_wp2
    go_ret
    exact ⟨mu.ret_bool HZ.out.symm, ⟨_, _, HO3.out⟩, b3⟩
  · go_wp2
    go_ret
    exact ⟨mu.ret_bool HZ.out.symm, ⟨_, _, HO3.out⟩, b3⟩

set_option maxHeartbeats 1000000 in
set_option maxRecDepth 100000 in
theorem impl_bok (x : Bx) (v u : Value) (w : World) (h : RowsAt w v u x.ms x.ks) (hx : Small x) :
    Calls Tryz.prog 15 #[BV x v u] w fun e w' => e = .returned (.bool (bok x)) ∧ Below w.heap.size w w' := by
  have hmm := @run_makeMap Tryz.prog
  have L0 := lies_new w 38 x v u
  have b0 := new_below w 38 #[.string x.nm, .int .i64 x.vd, .int .i64 x.nx, v, u]
  have HA := rows_in_below h b0 (Nat.le_refl _)
  obtain ⟨W, hW⟩ : ∃ W, W = w.alloc (.cells #[.string x.nm, .int .i64 x.vd, .int .i64 x.nx, v, u] 38) := ⟨_, rfl⟩
  rw [← hW] at HA b0
  have O1 := World.ownsMap_made (H := Unit) W Tryz.prog 9 (plainElem Tryz.prog 3)
  have b1 : Below W.heap.size W (W.alloc (.map #[] 0)) := (Below.refl _ _).alloc (Nat.le_refl _) _
  have HA1 : Hid (RowsIn (W.alloc (.map #[] 0)) w.heap.size v u x.ms x.ks) := rows_in_below HA b1 b0.size
  have hsz : W.heap.size = w.heap.size + 1 := by rw [hW]; simp
  rw [hsz] at O1
  have HO1 : Hid (bk.Own (W.alloc (.map #[] 0)) (w.heap.size + 1) 0 (.map [])) := O1
  have b2 := b0.trans (b1.mono b0.size)
  have HX : Hid (Small x) := hx
  clear O1 HA b1 hx
  rw [hW] at HA1 HO1 b2
  obtain ⟨⟨a, cap, rfl, _⟩, ⟨a1, cap1, rfl, _⟩⟩ := h
  obtain ⟨nm, vd, nx, ms, ks⟩ := x
  unfold BV
  simp only at L0 b0 HA1 HO1 b2 ⊢
  go_enter Tryz.func15, Tryz.ntmps15
  go_wp2_with fail
  refine (isRight_any ⟨nm, vd, nx, ms, ks⟩ _ _ (w.heap.size + 1) 0 w.heap.size (.map []) _ HA1.out (by omega) HO1.out HX.out).mono ?_
  rintro e w3 ⟨rfl, _, hb3⟩
  have b3 := b2.trans (hb3.mono (by omega))
  clear b2 hb3 HA1 HO1 L0 hmm
  go_wp2
  go_ret
  exact ⟨rfl, b3⟩
end Go.Proofs.YtinnnfkhiigjpaaGreat.bx

namespace Go.Proofs.YtinnnfkhiigjpaaGreat.bx
open Go.RowKit
open st
set_option linter.unusedVariables false

def SOK (xs : List Bx) (k : Nat) : Prop := ∀ j, j < k → bok (xs.getD j noB) = true ∧ (xs.getD j noB).vd = (j : Int) + 1 ∧ ∀ i, i < j → (xs.getD i noB).nm ≠ (xs.getD j noB).nm
def dSok (xs : List Bx) (k : Nat) : Decidable (SOK xs k) :=
  @decidable_of_iff _ (∀ j, j < k → bok (xs.getD j noB) = true ∧ (xs.getD j noB).vd = (j : Int) + 1 ∧ ∀ i, i < j → (xs.getD i noB).nm.data ≠ (xs.getD j noB).nm.data) ⟨fun h j hj => ⟨(h j hj).1, (h j hj).2.1, fun i hi e => (h j hj).2.2 i hi (by rw [e])⟩, fun h j hj => ⟨(h j hj).1, (h j hj).2.1, fun i hi e => (h j hj).2.2 i hi (ByteArray.ext e)⟩⟩ inferInstance
/-- Boxes are right. -/
def sok (xs : List Bx) : Bool := @decide (xs.length ≤ 4 ∧ SOK xs xs.length) (@instDecidableAnd _ _ _ (dSok xs xs.length))
theorem sok_no {xs : List Bx} (h : ¬ (xs.length ≤ 4 ∧ SOK xs xs.length)) : sok xs = false := ow.df h
theorem sok_yes {xs : List Bx} (h : xs.length ≤ 4) (h2 : SOK xs xs.length) : sok xs = true := ow.dt ⟨h, h2⟩
theorem sok_of {xs : List Bx} (h : sok xs = true) : xs.length ≤ 4 ∧ SOK xs xs.length := ow.dof h
theorem sok_step {xs : List Bx} {k : Nat} (h : SOK xs k) {x : Bx} (hx : xs.getD k noB = x) (h1 : bok x = true) (h2 : x.vd = (k : Int) + 1) (h3 : ∀ i, i < k → (xs.getD i noB).nm ≠ x.nm) : SOK xs (k + 1) := by
  intro j hj
  by_cases e : j = k
  · subst e; rw [hx]; exact ⟨h1, h2, h3⟩
  · exact h j (by omega)
/-- The first box of a name. -/
def Plc (xs : List Bx) (s : ByteArray) (r : Int) : Prop := (∃ k : Nat, r = k ∧ k < xs.length ∧ (xs.getD k noB).nm = s ∧ ∀ j, j < k → (xs.getD j noB).nm ≠ s) ∨ (r = -1 ∧ ∀ j, j < xs.length → (xs.getD j noB).nm ≠ s)

set_option maxHeartbeats 1000000 in
set_option maxRecDepth 100000 in
theorem named_any (x : Bx) (p : Value × Value) (s : ByteArray) (g : Nat) (w : World) (hg : w.cell? ⟨g, 0, none⟩ = some (.string s)) (hp : ∃ a n c a' n' c', p = (.slice a n c, .slice a' n' c')) :
    Calls Tryz.prog 59 #[.agg #[.string x.nm, .int .i64 x.vd, .int .i64 x.nx, p.1, p.2], .pointer (some ⟨g, 0, none⟩)] w fun e w' => (∃ b : Bool, e = .returned (.bool b) ∧ (b = true ↔ x.nm = s)) ∧ Below w.heap.size w w' := by
  obtain ⟨a, n, c, a', n', c', rfl⟩ := hp
  simp only
  have hb := new_below w 38 #[.string x.nm, .int .i64 x.vd, .int .i64 x.nx, .slice a n c, .slice a' n' c']
  have hg2 := (hb.cell (p := ⟨g, 0, none⟩) (World.block_lt_of_cell? w _ hg)).trans hg
  obtain ⟨nm, vd, nx, ms, ks⟩ := x
  simp only at hb hg2 ⊢
  have hgl : g < w.heap.size := World.block_lt_of_cell? w _ hg
  have hgn : w.heap.size ≠ g := by omega
  have hgn2 : g ≠ w.heap.size := by omega
  by_cases he : nm = s
  · have he' : (nm.toList == s.toList) = true := by rw [he]; simp
    have HE : Hid (nm = s) := he
    clear he
    go_enter Tryz.func59, Tryz.ntmps59
    go_wp2
    go_ret
    exact ⟨⟨true, rfl, by simp [HE.out]⟩, hb⟩
  · have he' : (nm.toList == s.toList) = false := ky.ne_list he
    have HE : Hid (¬ nm = s) := he
    clear he
    go_enter Tryz.func59, Tryz.ntmps59
    go_wp2
    go_ret
    exact ⟨⟨false, rfl, by simp [HE.out]⟩, hb⟩

theorem rows_form {w : World} {n : Nat} {v u : Value} {ms : List St} {ks : List ByteArray} (h : RowsIn w n v u ms ks) : ∃ a n c a' n' c', (v, u) = (Value.slice a n c, Value.slice a' n' c') := by
  obtain ⟨⟨a, cap, rfl, _⟩, ⟨a1, cap1, rfl, _⟩⟩ := h
  exact ⟨_, _, _, _, _, _, rfl⟩

set_option maxHeartbeats 2000000 in
set_option maxRecDepth 100000 in
theorem index_any (N : Nat) (v : Value) (xs : List Bx) (vs : Nat → Value × Value) (s : ByteArray) (g : Nat) (w : World) (h : BoxesIn w N v xs vs) (hN : N ≤ w.heap.size) (hg : w.cell? ⟨g, 0, none⟩ = some (.string s)) (hn : xs.length ≤ 1048576) :
    Calls Tryz.prog 58 #[v, .func (Fn.func 59) #[] #[.pointer (some ⟨g, 0, none⟩)]] w fun e w' => (∃ r : Int, e = .returned (.int .i64 r) ∧ Plc xs s r) ∧ Below w.heap.size w w' := by
  have HALL : Hid (BoxesIn w N v xs vs) := h
  obtain ⟨⟨a, cap, rfl, hc⟩, _⟩ := h
  obtain ⟨n, hn'⟩ : ∃ n, n = xs.length := ⟨_, rfl⟩
  have HN : Hid (n = xs.length) := hn'
  have HH : Hid (xs = [] ∨ ∃ b off, a = some ⟨b, off, none⟩ ∧ b < N ∧ ∀ j, j < xs.length → At5 w b (off + j * 5) (xs.getD j noB) (vs j)) := hc
  have HG : Hid (w.cell? ⟨g, 0, none⟩ = some (.string s)) := hg
  have hgl : g < w.heap.size := World.block_lt_of_cell? w _ hg
  rw [← hn'] at hn HALL ⊢
  clear hc hn' hg
  go_enter Tryz.func58, Tryz.ntmps58
  go_wp2
  go_loopw [8] (fun i wr => ∃ k : Nat, k ≤ n ∧ i = .int .i64 k ∧ (∀ j, j < k → (xs.getD j noB).nm ≠ s) ∧ Below w.heap.size w wr) (fun i _ => n - (intOf i).toNat)
  case atStart => exact ⟨0, Nat.zero_le _, rfl, fun j hj => absurd hj (Nat.not_lt_zero _), Below.refl _ _⟩
  case round =>
    obtain ⟨k, hk, rfl, hno, hbw⟩ := hrel
    have HNO : Hid (∀ j, j < k → (xs.getD j noB).nm ≠ s) := hno
    clear hno
    by_cases hlt : k < n
    · have hka : k < xs.length := by rw [← HN.out]; exact hlt
      rcases HH.out with e | ⟨b, off, rfl, hbl, hcells⟩
      · rw [e] at hka; simp at hka
      have hat := (hcells k hka).keep hbw (by omega)
      have hfm := rows_form (HALL.out.2 k hka)
      have HKA : Hid (k < xs.length) := hka
      clear hcells hka
      generalize hx : xs.getD k noB = x at hat
      have HX : Hid (xs.getD k noB = x) := hx
      generalize hq : vs k = q at hat hfm
      clear hx hq
      obtain ⟨q1, q2⟩ := q
      obtain ⟨c0, c1, c2, c3, c4⟩ := hat
      simp only at c0 c1 c2 c3 c4 hfm
      have HC : Hid (wr.cell? ⟨g, 0, none⟩ = some (.string s)) := (hbw.cell (p := ⟨g, 0, none⟩) hgl).trans HG.out
      have HFM : Hid (∃ a n c a' n' c', (q1, q2) = (Value.slice a n c, Value.slice a' n' c')) := hfm
      obtain ⟨_, _, _, _, _, _, e⟩ := hfm
      cases e
      have hlt' : (k : Int) < (n : Int) := by omega
      go_wp2_with fail
      refine (named_any x _ s g wr HC.out HFM.out).mono ?_
      rintro e w2 ⟨⟨bb, rfl, hbb⟩, hb2⟩
      have b2 := hbw.trans (hb2.mono hbw.size)
      have HBB : Hid (bb = true ↔ x.nm = s) := hbb
      clear hb2 hbw c0 c1 c2 c3 c4 HC HFM hbb
      cases bb
      · have HE : Hid (∀ j, j < k + 1 → (xs.getD j noB).nm ≠ s) := fun j hj => by
          by_cases e : j = k
          · rw [e, HX.out]; intro y; have := HBB.out.2 y; simp at this
          · exact HNO.out j (by omega)
        go_wp2
        go_roundw
        case rel => exact ⟨k + 1, by omega, by go_num, HE.out, b2⟩
        case measure => simp [intOf]; omega
      · have HE : Hid (Plc xs s k) := .inl ⟨k, rfl, HKA.out, by rw [HX.out]; exact HBB.out.1 (by trivial), HNO.out⟩
        go_wp2
        go_ret
        exact ⟨⟨k, rfl, HE.out⟩, b2⟩
    · have HE : Hid (Plc xs s (-1)) := .inr ⟨rfl, fun j hj => HNO.out j (by have := HN.out; omega)⟩
      go_wp2
      go_ret
      exact ⟨⟨-1, rfl, HE.out⟩, hbw⟩

set_option maxHeartbeats 1000000 in
set_option maxRecDepth 100000 in
theorem place_any (N : Nat) (v : Value) (xs : List Bx) (vs : Nat → Value × Value) (s : ByteArray) (w : World) (h : BoxesIn w N v xs vs) (hN : N ≤ w.heap.size) (hn : xs.length ≤ 1048576) :
    Calls Tryz.prog 28 #[v, .string s] w fun e w' => (∃ r : Int, e = .returned (.int .i64 r) ∧ Plc xs s r) ∧ Below w.heap.size w w' := by
  have b0 := new_below w 9 #[.string s]
  have HA : Hid (BoxesIn (w.alloc (.cells #[.string s] 9)) N v xs vs) := boxes_in_below h b0 hN
  have hN1 : N ≤ (w.alloc (.cells #[.string s] 9)).heap.size := by simp; omega
  have HC : Hid ((w.alloc (.cells #[.string s] 9)).cell? ⟨w.heap.size, 0, none⟩ = some (.string s)) := by
    have h2 := heap_new w (.cells #[.string s] 9)
    exact (by rw [cell_of_row _ _ _ _ _ _ h2]; rfl : (w.alloc (.cells #[.string s] 9)).cell? ⟨w.heap.size, 0, none⟩ = some (.string s))
  obtain ⟨⟨a, cap, rfl, _⟩, _⟩ := h
  go_enter Tryz.func28, Tryz.ntmps28
  go_wp2_with fail
  generalize w.alloc _ = w0 at b0 HA hN1 HC ⊢
  refine (index_any N _ xs vs s w.heap.size w0 HA.out hN1 HC.out hn).mono ?_
  rintro e w2 ⟨⟨r, rfl, hr⟩, hb2⟩
  have b2 := b0.trans (hb2.mono b0.size)
  have HR : Hid (Plc xs s r) := hr
  clear b0 hb2 hr HA HC
  go_wp2
  go_ret
  exact ⟨⟨r, rfl, HR.out⟩, b2⟩

set_option maxHeartbeats 4000000 in
set_option maxRecDepth 100000 in
theorem impl_sok (v : Value) (xs : List Bx) (vs : Nat → Value × Value) (w : World) (h : BoxesAt w v xs vs) (hs : Smalls xs) :
    Calls Tryz.prog 8 #[v] w fun e w' => e = .returned (.bool (sok xs)) ∧ Below w.heap.size w w' := by
  have hmm := @run_makeMap Tryz.prog
  have O0 := World.ownsMap_made (H := Unit) w Tryz.prog 9 (plainElem Tryz.prog 3)
  have bm : Below w.heap.size w (w.alloc (.map #[] 0)) := (Below.refl _ _).alloc (Nat.le_refl _) _
  have HALL : Hid (BoxesIn w w.heap.size v xs vs) := h
  obtain ⟨⟨a, cap, rfl, hc⟩, _⟩ := h
  obtain ⟨n, hn⟩ : ∃ n, n = xs.length := ⟨_, rfl⟩
  have HN : Hid (n = xs.length) := hn
  have HH : Hid (xs = [] ∨ ∃ b off, a = some ⟨b, off, none⟩ ∧ b < w.heap.size ∧ ∀ j, j < xs.length → At5 w b (off + j * 5) (xs.getD j noB) (vs j)) := hc
  have HS : Hid (Smalls xs) := hs
  have hl : n ≤ 1048576 := by rw [hn]; exact hs.1
  rw [← hn] at HALL ⊢
  clear hc hs hn
  by_cases g0 : 4 < n
  · have g0' : (4 : Int) < (n : Int) := by omega
    have HR : Hid (sok xs = false) := sok_no (by have := HN.out; omega)
    go_enter Tryz.func8, Tryz.ntmps8
    go_wp2
    go_ret
    exact ⟨mu.ret_bool HR.out.symm, Below.refl _ _⟩
  have g0' : (n : Int) ≤ 4 := by omega
  have O0 : Hid (bk.Own (w.alloc (.map #[] 0)) w.heap.size 0 (.map [])) := O0
  have hml : w.heap.size < (w.alloc (.map #[] 0)).heap.size := by simp
  go_enter Tryz.func8, Tryz.ntmps8
  go_wp2
  generalize w.alloc _ = w0 at O0 bm hml ⊢
  go_loopw [12] (fun i wr => ∃ (k m : Nat) (D : DataW Unit), k ≤ n ∧ i = .int .i64 k ∧ SOK xs k ∧ bk.Own wr w.heap.size m D ∧ Below w.heap.size w wr) (fun i _ => n - (intOf i).toNat)
  case atStart => exact ⟨0, 0, _, Nat.zero_le _, rfl, fun j hj => absurd hj (Nat.not_lt_zero _), O0.out, bm⟩
  case round =>
    clear O0 bm hml
    obtain ⟨k, m, D, hk, rfl, hal, hown, hbw⟩ := hrel
    have HAL : Hid (SOK xs k) := hal
    have HO : Hid (bk.Own wr w.heap.size m D) := hown
    have hwl : w.heap.size < wr.heap.size := hown.lt
    clear hal hown
    by_cases hlt : k < n
    · have hka : k < xs.length := by rw [← HN.out]; exact hlt
      rcases HH.out with e | ⟨b, off, rfl, hbl, hcells⟩
      · rw [e] at hka; simp at hka
      have hat := (hcells k hka).keep hbw hbl
      have hrw := (boxes_in_below HALL.out hbw (Nat.le_refl _)).2 k hka
      have HAR : Hid (BoxesIn wr w.heap.size (.slice (some ⟨b, off, none⟩) n cap) xs vs) := boxes_in_below HALL.out hbw (Nat.le_refl _)
      have hsk := HS.out.2 k hka
      have HKA : Hid (k < xs.length) := hka
      clear hcells hka
      generalize hx : xs.getD k noB = x at hat hsk hrw
      have HX : Hid (xs.getD k noB = x) := hx
      generalize vs k = q at hat hrw
      clear hx
      obtain ⟨q1, q2⟩ := q
      obtain ⟨c0, c1, c2, c3, c4⟩ := hat
      simp only at c0 c1 c2 c3 c4 hrw
      have HSK : Hid (Small x) := hsk
      have hin : In x.vd := hsk.1.1
      have hlt' : (k : Int) < (n : Int) := by omega
      have L0 := lies_new wr 38 x q1 q2
      have hb2 := new_below wr 38 #[.string x.nm, .int .i64 x.vd, .int .i64 x.nx, q1, q2]
      have HRW := rows_in_below hrw hb2 (Nat.le_of_lt hwl)
      have HAR2 := boxes_in_below HAR.out hb2 (Nat.le_of_lt hwl)
      have HO2 := bk.own_keep HO.out hb2 hwl
      have hb3 := hbw.trans (hb2.mono hbw.size)
      have hwl2 : w.heap.size < (wr.alloc (.cells #[.string x.nm, .int .i64 x.vd, .int .i64 x.nx, q1, q2] 38)).heap.size := Nat.lt_of_lt_of_le hwl hb2.size
      clear hsk HAR HO hb2 hbw
      obtain ⟨⟨a2, cap2, rfl, _⟩, ⟨a3, cap3, rfl, _⟩⟩ := hrw
      obtain ⟨nm, vd, nx, ms, ks⟩ := x
      simp only at c0 c1 c2 c3 c4 L0 HRW HAR2 HO2 hb3 hwl2 hin
      by_cases r1 : ¬ vd = (k : Int) + 1
      · have r1' : (vd != (k : Int) + 1) = true := by simp [r1]
        have HR : Hid (sok xs = false) := sok_no (fun y => r1 (by have := (y.2 k HKA.out).2.1; rw [HX.out] at this; exact this))
        clear r1
        go_wp2
        go_ret
        exact ⟨mu.ret_bool HR.out.symm, hb3⟩
      have r1 : vd = (k : Int) + 1 := Decidable.of_not_not r1
      have r1' : (vd != (k : Int) + 1) = false := by simp [r1]
      have HR1 : Hid (vd = (k : Int) + 1) := r1
      clear r1
      go_wp2_with fail
      generalize hBB : wr.heap.size = BB at L0 ⊢
      generalize wr.alloc _ = w2 at L0 HRW HAR2 HO2 hb3 hwl2 ⊢
      have HRW : Hid (RowsIn w2 w.heap.size (.slice a2 ms.length cap2) (.slice a3 ks.length cap3) ms ks) := HRW
      have HAR2 : Hid (BoxesIn w2 w.heap.size (.slice (some ⟨b, off, none⟩) n cap) xs vs) := HAR2
      have HO2 : Hid (bk.Own w2 w.heap.size m D) := HO2
      refine (place_any w.heap.size _ xs vs nm w2 HAR2.out (Nat.le_of_lt hwl2) (by have := HN.out; omega)).mono ?_
      rintro e w4 ⟨⟨r, rfl, hr⟩, hb4⟩
      have L4 := L0.keep hb4
      have HRW4 : Hid (RowsIn w4 w.heap.size (.slice a2 ms.length cap2) (.slice a3 ks.length cap3) ms ks) := rows_in_below HRW.out hb4 (Nat.le_of_lt hwl2)
      have HO4 : Hid (bk.Own w4 w.heap.size m D) := bk.own_keep HO2.out hb4 hwl2
      have b4 := hb3.trans (hb4.mono hb3.size)
      have HPL : Hid (Plc xs nm r) := hr
      clear L0 HRW HAR2 HO2 hb3 hb4 hr hwl2 c0 c1 c2 c3 c4 hBB
      have e0 := L4.c0
      have e1 := L4.c1
      have e2 := L4.c2
      have e3 := L4.c3
      have e4 := L4.c4
      simp only at e0 e1 e2
      clear L4
      by_cases r2 : ¬ r = (k : Int)
      · have r2' : (r != (k : Int)) = true := by simp [r2]
        have HR : Hid (sok xs = false) := sok_no (fun y => by
          rcases HPL.out with ⟨j, rfl, hj, hjn, hjf⟩ | ⟨rfl, hno⟩
          · by_cases ejk : j < k
            · exact (y.2 k HKA.out).2.2 j ejk (by rw [HX.out]; exact hjn)
            · have : k < j := by omega
              exact hjf k this (by rw [HX.out])
          · exact hno k HKA.out (by rw [HX.out]))
        clear r2
        go_wp2
        go_ret
        exact ⟨mu.ret_bool HR.out.symm, b4⟩
      have r2 : r = (k : Int) := Decidable.of_not_not r2
      have r2' : (r != (k : Int)) = false := by simp [r2]
      have HFR : Hid (∀ j, j < k → (xs.getD j noB).nm ≠ nm) := by
        rcases HPL.out with ⟨j, hj, _, _, hjf⟩ | ⟨hj, _⟩
        · have : j = k := by omega
          subst this
          exact hjf
        · omega
      clear HPL
      subst r2
      go_wp2_with fail
      refine (isRight_any ⟨nm, vd, nx, ms, ks⟩ _ _ w.heap.size m w.heap.size D w4 HRW4.out (Nat.le_refl _) HO4.out HSK.out).mono ?_
      rintro e w5 ⟨rfl, ⟨m5, D5, ho5⟩, hb5⟩
      have HO5 : Hid (bk.Own w5 w.heap.size m5 D5) := ho5
      have b5 := b4.trans hb5
      clear b4 hb5 ho5 HO4 HRW4 e0 e1 e2 e3 e4
      have HT : Hid (bok ⟨nm, vd, nx, ms, ks⟩ = true → SOK xs (k + 1)) := fun h => sok_step HAL.out HX.out h HR1.out HFR.out
      have HF : Hid (bok ⟨nm, vd, nx, ms, ks⟩ = false → sok xs = false) := fun h => sok_no (fun y => by have := (y.2 k HKA.out).1; rw [HX.out, h] at this; cases this)
      generalize bok ⟨nm, vd, nx, ms, ks⟩ = R at HT HF ⊢
      cases R
      · have HR : Hid (sok xs = false) := HF.out (by trivial)
        go_wp2
        go_ret
        exact ⟨mu.ret_bool HR.out.symm, b5⟩
      · have HR : Hid (SOK xs (k + 1)) := HT.out (by trivial)
        go_wp2
        go_roundw
        case rel => exact ⟨k + 1, m5, D5, by omega, by go_num, HR.out, HO5.out, b5⟩
        case measure => simp [intOf]; omega
    · have HR : Hid (sok xs = true) := sok_yes (by have := HN.out; omega) (fun j hj => HAL.out j (by have := HN.out; omega))
      go_wp2
      go_ret
      exact ⟨mu.ret_bool HR.out.symm, hbw⟩
end Go.Proofs.YtinnnfkhiigjpaaGreat.bx
