/-
  Two boxes are held against each other, and rows of boxes: the program's own way.
-/
import Derived.Test.YtbhjinhedbgmnaaSma
import Derived.Test.YtbhjinhedbgmnaaBwb
namespace Go.Proofs.Ytbhjinhedbgmnaa.sm
open Go.RowKit Go.WideShapes
open st
set_option linter.unusedVariables false

/-- Rows of texts are the same. -/
def SameT (ms ms' : List ByteArray) : Prop := ms.length = ms'.length ∧ ∀ j, j < ms.length → ms.getD j ky.nt = ms'.getD j ky.nt
def dSameTs (ms ms' : List ByteArray) (k : Nat) : Decidable (∀ j, j < k → ms.getD j ky.nt = ms'.getD j ky.nt) := @Nat.decidableBallLT k (fun j _ => ms.getD j ky.nt = ms'.getD j ky.nt) (fun j _ => ow.decB _ _)
def dSameT (ms ms' : List ByteArray) : Decidable (SameT ms ms') := @instDecidableAnd _ _ _ (dSameTs ms ms' ms.length)
def sameT (ms ms' : List ByteArray) : Bool := @decide (SameT ms ms') (dSameT ms ms')
theorem sameT_no {ms ms' : List ByteArray} (h : ¬ SameT ms ms') : sameT ms ms' = false := ow.df h
theorem sameT_yes {ms ms' : List ByteArray} (h : SameT ms ms') : sameT ms ms' = true := ow.dt h

set_option maxHeartbeats 2000000 in
set_option maxRecDepth 100000 in
theorem equalT_any (N M : Nat) (v u : Value) (ms ms' : List ByteArray) (w : World) (h1 : tx.TextsIn w N v ms) (h2 : tx.TextsIn w M u ms') (hs : tx.Smalls ms) (hs' : tx.Smalls ms') :
    Calls Try.prog 77 #[v, u] w fun e w' => e = .returned (.bool (sameT ms ms')) ∧ Below w.heap.size w w' := by
  obtain ⟨a, cap, rfl, h1⟩ := h1
  obtain ⟨c, cap2, rfl, h2⟩ := h2
  obtain ⟨n, hn⟩ : ∃ n, n = ms.length := ⟨_, rfl⟩
  obtain ⟨m, hm⟩ : ∃ m, m = ms'.length := ⟨_, rfl⟩
  have HN : Hid (n = ms.length) := hn
  have HM : Hid (m = ms'.length) := hm
  have hl : n ≤ 1048576 := by rw [hn]; exact hs.1
  have hl2 : m ≤ 1048576 := by rw [hm]; exact hs'.1
  have HS : Hid (tx.Smalls ms ∧ tx.Smalls ms') := ⟨hs, hs'⟩
  have H1 : Hid (ms = [] ∨ ∃ b off, a = some ⟨b, off, none⟩ ∧ b < N ∧ ∀ j, j < ms.length → w.cell? ⟨b, off + j, none⟩ = some (.string (ms.getD j ky.nt))) := h1
  have H2 : Hid (ms' = [] ∨ ∃ b off, c = some ⟨b, off, none⟩ ∧ b < M ∧ ∀ j, j < ms'.length → w.cell? ⟨b, off + j, none⟩ = some (.string (ms'.getD j ky.nt))) := h2
  rw [← hn, ← hm]
  clear h1 h2 hs hs' hn hm
  by_cases hnm : ¬ n = m
  · have hnm' : ((n : Int) != (m : Int)) = true := by simp; omega
    have HR : Hid (sameT ms ms' = false) := sameT_no (fun y => hnm (by have := y.1; have := HN.out; have := HM.out; omega))
    go_enter Try.func77, Try.ntmps77
    go_wp2
    go_ret
    exact ⟨mu.ret_bool HR.out.symm, Below.refl _ _⟩
  have hnm : n = m := Decidable.of_not_not hnm
  subst hnm
  have hnm' : ((n : Int) != (n : Int)) = false := by simp
  go_enter Try.func77, Try.ntmps77
  go_wp2
  go_loopw [13] (fun i wr => ∃ k : Nat, k ≤ n ∧ i = .int .i64 k ∧ (∀ j, j < k → ms.getD j ky.nt = ms'.getD j ky.nt) ∧ Below w.heap.size w wr) (fun i _ => n - (intOf i).toNat)
  case atStart => exact ⟨0, Nat.zero_le _, rfl, fun j hj => absurd hj (Nat.not_lt_zero _), Below.refl _ _⟩
  case round =>
    obtain ⟨k, hk, rfl, hal, hbw⟩ := hrel
    have HAL : Hid (∀ j, j < k → ms.getD j ky.nt = ms'.getD j ky.nt) := hal
    clear hal
    by_cases hlt : k < n
    · have hka : k < ms.length := by rw [← HN.out]; exact hlt
      have hkb : k < ms'.length := by rw [← HM.out]; exact hlt
      rcases H1.out with e | ⟨b, off, rfl, hbN, hcells⟩
      · rw [e] at hka; simp at hka
      rcases H2.out with e | ⟨b2, off2, rfl, hbM, hcells2⟩
      · rw [e] at hkb; simp at hkb
      have c0 := (hbw.cell (p := ⟨b, off + k, none⟩) (World.block_lt_of_cell? w _ (hcells k hka))).trans (hcells k hka)
      have d0 := (hbw.cell (p := ⟨b2, off2 + k, none⟩) (World.block_lt_of_cell? w _ (hcells2 k hkb))).trans (hcells2 k hkb)
      have HNE : Hid (¬ ms.getD k ky.nt = ms'.getD k ky.nt → sameT ms ms' = false) := fun h => sameT_no (fun y => h (y.2 k hka))
      have HEQ : Hid (ms.getD k ky.nt = ms'.getD k ky.nt → ∀ j, j < k + 1 → ms.getD j ky.nt = ms'.getD j ky.nt) := fun h j hj => by
        by_cases e : j = k
        · rw [e]; exact h
        · exact HAL.out j (by omega)
      clear hcells hka hcells2 hkb
      generalize ms.getD k ky.nt = x at c0 HNE HEQ
      generalize ms'.getD k ky.nt = y at d0 HNE HEQ
      have hlt' : (k : Int) < (n : Int) := by omega
      have hk0 : (0 : Int) ≤ (k : Int) := by omega
      by_cases hxy : x = y
      · have HX : Hid (∀ j, j < k + 1 → ms.getD j ky.nt = ms'.getD j ky.nt) := HEQ.out hxy
        have hx' : (x.toList == y.toList) = true := by rw [hxy]; simp
        clear hxy HNE HEQ
        go_wp2_with fail
        go_quiet (fail)
        have b3 := bel_drewN hbw nq
        clear c0 d0 hbw
        go_wp2
        go_roundw
        case rel => exact ⟨k + 1, by omega, by go_num, HX.out, b3⟩
        case measure => simp [intOf]; omega
      · have HR : Hid (sameT ms ms' = false) := HNE.out hxy
        have hx' : (x.toList == y.toList) = false := ky.ne_list hxy
        clear hxy HNE HEQ
        go_wp2_with fail
        go_quiet (fail)
        have b3 := bel_drewN hbw nq
        clear c0 d0 hbw
        go_wp2
        go_ret
        exact ⟨mu.ret_bool HR.out.symm, b3⟩
    · have HR : Hid (sameT ms ms' = true) := sameT_yes ⟨by have := HN.out; have := HM.out; omega, fun j hj => HAL.out j (by have := HN.out; omega)⟩
      go_wp2
      go_ret
      exact ⟨mu.ret_bool HR.out.symm, hbw⟩

open bx
/-- Boxes are the same. -/
def SameB (x y : Bx) : Prop := x.nm = y.nm ∧ x.vd = y.vd ∧ x.nx = y.nx ∧ SameM x.ms y.ms ∧ SameT x.ks y.ks
def dSameB (x y : Bx) : Decidable (SameB x y) := @instDecidableAnd _ _ (ow.decB _ _) (@instDecidableAnd _ _ _ (@instDecidableAnd _ _ _ (@instDecidableAnd _ _ (dSameM x.ms y.ms) (dSameT x.ks y.ks))))
def sameB (x y : Bx) : Bool := @decide (SameB x y) (dSameB x y)
theorem sameB_no {x y : Bx} (h : ¬ SameB x y) : sameB x y = false := ow.df h
theorem sameB_is {x y : Bx} (h1 : x.nm = y.nm) (h2 : x.vd = y.vd) (h3 : x.nx = y.nx) (h4 : sameM x.ms y.ms = true) : sameB x y = sameT x.ks y.ks := by
  have h4' : SameM x.ms y.ms := ow.dof h4
  rw [Bool.eq_iff_iff]
  constructor
  · intro h
    have h' : SameB x y := ow.dof h
    exact sameT_yes h'.2.2.2.2
  · intro h
    have h' : SameT x.ks y.ks := ow.dof h
    exact ow.dt ⟨h1, h2, h3, h4', h'⟩
theorem sameM_of {ms ms' : List St} (h : sameM ms ms' = false) : ¬ SameM ms ms' := fun y => by rw [sameM_yes y] at h; cases h

set_option maxHeartbeats 4000000 in
set_option maxRecDepth 100000 in
theorem sameBox_any (x y : Bx) (v u v' u' : Value) (w : World) (h1 : RowsAt w v u x.ms x.ks) (h2 : RowsAt w v' u' y.ms y.ks) (hx : bx.Small x) (hy : bx.Small y) :
    Calls Try.prog 57 #[BV x v u, BV y v' u'] w fun e w' => e = .returned (.bool (sameB x y)) ∧ Below w.heap.size w w' := by
  have hbw := (bx.new_below w 41 #[.string x.nm, .int .i64 x.vd, .int .i64 x.nx, v, u]).alloc (by simp) (.cells #[.string y.nm, .int .i64 y.vd, .int .i64 y.nx, v', u'] 41)
  have L0 := (lies_new w 41 x v u).keep (bx.new_below _ 41 #[.string y.nm, .int .i64 y.vd, .int .i64 y.nx, v', u'])
  have M0 := lies_new (w.alloc (.cells #[.string x.nm, .int .i64 x.vd, .int .i64 x.nx, v, u] 41)) 41 y v' u'
  have HA := rows_below h1 hbw
  have HB := rows_below h2 hbw
  obtain ⟨⟨a, cap, rfl, _⟩, ⟨a1, cap1, rfl, _⟩⟩ := h1
  obtain ⟨⟨a', cap', rfl, _⟩, ⟨a1', cap1', rfl, _⟩⟩ := h2
  have HX : Hid (bx.Small x ∧ bx.Small y) := ⟨hx, hy⟩
  have HF : Hid (¬ (x.nm = y.nm ∧ x.vd = y.vd ∧ x.nx = y.nx ∧ SameM x.ms y.ms) → sameB x y = false) := fun h => sameB_no fun z => h ⟨z.1, z.2.1, z.2.2.1, z.2.2.2.1⟩
  have HT : Hid (x.nm = y.nm → x.vd = y.vd → x.nx = y.nx → sameM x.ms y.ms = true → sameB x y = sameT x.ks y.ks) := sameB_is
  obtain ⟨nm, vd, nx, ms, ks⟩ := x
  obtain ⟨nm', vd', nx', ms', ks'⟩ := y
  unfold BV
  simp only at hbw L0 M0 HA HB HX HF HT ⊢
  clear hx hy
  rw [show (w.alloc (.cells #[.string nm, .int .i64 vd, .int .i64 nx, .slice a ms.length cap, .slice a1 ks.length cap1] 41)).heap.size = w.heap.size + 1 by simp] at M0
  generalize sameB ⟨nm, vd, nx, ms, ks⟩ ⟨nm', vd', nx', ms', ks'⟩ = R at HF HT ⊢
  by_cases q0 : ¬ nm = nm'
  · have q0' : (nm.toList == nm'.toList) = false := ky.ne_list q0
    have HZ : Hid (R = false) := HF.out fun z => q0 z.1
    clear q0
    go_enter Try.func57, Try.ntmps57
    go_wp2
    go_ret
    exact ⟨mu.ret_bool HZ.out.symm, hbw⟩
  have q0 : nm = nm' := Classical.not_not.1 q0
  have q0' : (nm.toList == nm'.toList) = true := by rw [q0]; simp
  have HQ0 : Hid (nm = nm') := q0
  clear q0
  by_cases q1 : ¬ vd = vd'
  · have q1' : (vd == vd') = false := by simp [q1]
    have HZ : Hid (R = false) := HF.out fun z => q1 z.2.1
    clear q1
    go_enter Try.func57, Try.ntmps57
    go_wp2
    go_ret
    exact ⟨mu.ret_bool HZ.out.symm, hbw⟩
  have q1 : vd = vd' := Decidable.of_not_not q1
  have q1' : (vd == vd') = true := by simp [q1]
  have HQ1 : Hid (vd = vd') := q1
  clear q1
  by_cases q2 : ¬ nx = nx'
  · have q2' : (nx == nx') = false := by simp [q2]
    have HZ : Hid (R = false) := HF.out fun z => q2 z.2.2.1
    clear q2
    go_enter Try.func57, Try.ntmps57
    go_wp2
    go_ret
    exact ⟨mu.ret_bool HZ.out.symm, hbw⟩
  have q2 : nx = nx' := Decidable.of_not_not q2
  have q2' : (nx == nx') = true := by simp [q2]
  have HQ2 : Hid (nx = nx') := q2
  clear q2
  go_enter Try.func57, Try.ntmps57
  go_wp2_with fail
  generalize World.alloc _ _ = w0 at hbw L0 M0 HA HB ⊢
  have HA : Hid (RowsAt w0 (.slice a ms.length cap) (.slice a1 ks.length cap1) ms ks) := HA
  have HB : Hid (RowsAt w0 (.slice a' ms'.length cap') (.slice a1' ks'.length cap1') ms' ks') := HB
  refine (equalM_any _ _ _ _ ms ms' _ HA.out.1 HB.out.1 HX.out.1.2.2.1 HX.out.2.2.2.1).mono ?_
  rintro e w2 ⟨rfl, hb2⟩
  have HA2 : Hid (RowsAt w2 (.slice a ms.length cap) (.slice a1 ks.length cap1) ms ks) := rows_below HA.out hb2
  have HB2 : Hid (RowsAt w2 (.slice a' ms'.length cap') (.slice a1' ks'.length cap1') ms' ks') := rows_below HB.out hb2
  have c4 := (L0.keep hb2).c4
  have d4 := (M0.keep hb2).c4
  have b3 := hbw.trans (hb2.mono hbw.size)
  clear hbw hb2 HA HB L0 M0
  have HSM : Hid (sameM ms ms' = false → ¬ SameM ms ms') := sameM_of
  generalize sameM ms ms' = sm at HT HSM ⊢
  cases sm
  · have HZ : Hid (R = false) := HF.out fun z => HSM.out (by trivial) z.2.2.2
    go_wp2
    go_ret
    exact ⟨mu.ret_bool HZ.out.symm, b3⟩
  have HZ : Hid (R = sameT ks ks') := HT.out HQ0.out HQ1.out HQ2.out (by trivial)
  go_wp2_with fail
  refine (equalT_any _ _ _ _ ks ks' _ HA2.out.2 HB2.out.2 HX.out.1.2.2.2 HX.out.2.2.2.2).mono ?_
  rintro e w3 ⟨rfl, hb3⟩
  have b4 := b3.trans (hb3.mono b3.size)
  clear b3 hb3 HA2 HB2 c4 d4
  generalize sameT ks ks' = st at HZ ⊢
  cases st
  · go_wp2
    go_ret
    exact ⟨mu.ret_bool HZ.out.symm, b4⟩
  · go_wp2
    go_ret
    exact ⟨mu.ret_bool HZ.out.symm, b4⟩
end Go.Proofs.Ytbhjinhedbgmnaa.sm
