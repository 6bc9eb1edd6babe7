/-
  Two boxes are held against each other, and rows of boxes: the program's own way.
  Rows of boxes are held against each other: the program's own way; its SameStore.
  The specification's SameStore.
  An engine is right: both functions.
-/
import Derived.Test.YtnhcbiomkiljpaaGreatDoorPkbg
import Derived.Test.YtnhcbiomkiljpaaGreatDoorPkad
import Derived.Test.YtnhcbiomkiljpaaGreatDoorPkai

namespace Go.Proofs.YtnhcbiomkiljpaaGreatDoor.sm
open Go.RowKit Go.WideShapes
open st
set_option linter.unusedVariables false

/-- Rows of texts are the same. -/
def SameT (ms ms' : List ByteArray) : Prop := ms.length = ms'.length ∧ ∀ j, j < ms.length → ms.getD j ky.nt = ms'.getD j ky.nt
def dSameTs (ms ms' : List ByteArray) (k : Nat) : Decidable (∀ j, j < k → ms.getD j ky.nt = ms'.getD j ky.nt) := @Nat.decidableBallLT k (fun j _ => ms.getD j ky.nt = ms'.getD j ky.nt) (fun j _ => ow.decB _ _)
def dSameT (ms ms' : List ByteArray) : Decidable (SameT ms ms') := @instDecidableAnd _ _ _ (dSameTs ms ms' ms.length)
def sameT (ms ms' : List ByteArray) : Bool := @decide (SameT ms ms') (dSameT ms ms')
theorem sameT_no {ms ms' : List ByteArray} (h : ¬ SameT ms ms') : sameT ms ms' = false := ow.df h
theorem sameT_yes {ms ms' : List ByteArray} (h : SameT ms ms') : sameT ms ms' = true := ow.dt h

set_option maxHeartbeats 2000000 in
set_option maxRecDepth 100000 in
theorem equalT_any (N M : Nat) (v u : Value) (ms ms' : List ByteArray) (w : World) (h1 : tx.TextsIn w N v ms) (h2 : tx.TextsIn w M u ms') (hs : tx.Smalls ms) (hs' : tx.Smalls ms') :
    Calls Tryz.prog 128 #[v, u] w fun e w' => e = .returned (.bool (sameT ms ms')) ∧ Below w.heap.size w w' := by
  obtain ⟨a, cap, rfl, h1⟩ := h1
  obtain ⟨c, cap2, rfl, h2⟩ := h2
  obtain ⟨n, hn⟩ : ∃ n, n = ms.length := ⟨_, rfl⟩
  obtain ⟨m, hm⟩ : ∃ m, m = ms'.length := ⟨_, rfl⟩
  have HN : Hid (n = ms.length) := hn
  have HM : Hid (m = ms'.length) := hm
  have hl : n ≤ 1048576 := by rw [hn]; exact hs.1
  have hl2 : m ≤ 1048576 := by rw [hm]; exact hs'.1
  have HS : Hid (tx.Smalls ms ∧ tx.Smalls ms') := ⟨hs, hs'⟩
  have H1 : Hid (ms = [] ∨ ∃ b off, a = some ⟨b, off, none⟩ ∧ b < N ∧ ∀ j, j < ms.length → w.cell? ⟨b, off + j, none⟩ = some (.string (ms.getD j ky.nt))) := h1
  have H2 : Hid (ms' = [] ∨ ∃ b off, c = some ⟨b, off, none⟩ ∧ b < M ∧ ∀ j, j < ms'.length → w.cell? ⟨b, off + j, none⟩ = some (.string (ms'.getD j ky.nt))) := h2
  rw [← hn, ← hm]
  clear h1 h2 hs hs' hn hm
  by_cases hnm : ¬ n = m
  · have hnm' : ((n : Int) != (m : Int)) = true := by simp; omega
    have HR : Hid (sameT ms ms' = false) := sameT_no (fun y => hnm (by have := y.1; have := HN.out; have := HM.out; omega))
    go_enter Tryz.func128, Tryz.ntmps128
    go_wp2
    go_ret
    exact ⟨mu.ret_bool HR.out.symm, Below.refl _ _⟩
  have hnm : n = m := Decidable.of_not_not hnm
  subst hnm
  have hnm' : ((n : Int) != (n : Int)) = false := by simp
  go_enter Tryz.func128, Tryz.ntmps128
  go_wp2
  go_loopw [13] (fun i wr => ∃ k : Nat, k ≤ n ∧ i = .int .i64 k ∧ (∀ j, j < k → ms.getD j ky.nt = ms'.getD j ky.nt) ∧ Below w.heap.size w wr) (fun i _ => n - (intOf i).toNat)
  case atStart => exact ⟨0, Nat.zero_le _, rfl, fun j hj => absurd hj (Nat.not_lt_zero _), Below.refl _ _⟩
  case round =>
    obtain ⟨k, hk, rfl, hal, hbw⟩ := hrel
    have HAL : Hid (∀ j, j < k → ms.getD j ky.nt = ms'.getD j ky.nt) := hal
    clear hal
    by_cases hlt : k < n
    · have hka : k < ms.length := by rw [← HN.out]; exact hlt
      have hkb : k < ms'.length := by rw [← HM.out]; exact hlt
      rcases H1.out with e | ⟨b, off, rfl, hbN, hcells⟩
      · rw [e] at hka; simp at hka
      rcases H2.out with e | ⟨b2, off2, rfl, hbM, hcells2⟩
      · rw [e] at hkb; simp at hkb
      have c0 := (hbw.cell (p := ⟨b, off + k, none⟩) (World.block_lt_of_cell? w _ (hcells k hka))).trans (hcells k hka)
      have d0 := (hbw.cell (p := ⟨b2, off2 + k, none⟩) (World.block_lt_of_cell? w _ (hcells2 k hkb))).trans (hcells2 k hkb)
      have HNE : Hid (¬ ms.getD k ky.nt = ms'.getD k ky.nt → sameT ms ms' = false) := fun h => sameT_no (fun y => h (y.2 k hka))
      have HEQ : Hid (ms.getD k ky.nt = ms'.getD k ky.nt → ∀ j, j < k + 1 → ms.getD j ky.nt = ms'.getD j ky.nt) := fun h j hj => by
        by_cases e : j = k
        · rw [e]; exact h
        · exact HAL.out j (by omega)
      clear hcells hka hcells2 hkb
      generalize ms.getD k ky.nt = x at c0 HNE HEQ
      generalize ms'.getD k ky.nt = y at d0 HNE HEQ
      have hlt' : (k : Int) < (n : Int) := by omega
      have hk0 : (0 : Int) ≤ (k : Int) := by omega
      by_cases hxy : x = y
      · have HX : Hid (∀ j, j < k + 1 → ms.getD j ky.nt = ms'.getD j ky.nt) := HEQ.out hxy
        have hx' : (x.toList == y.toList) = true := by rw [hxy]; simp
        clear hxy HNE HEQ
        go_wp2_with fail
        go_quiet (fail)
        have b3 := bel_drewN hbw nq
        clear c0 d0 hbw
        go_wp2
        go_roundw
        case rel => exact ⟨k + 1, by omega, by go_num, HX.out, b3⟩
        case measure => simp [intOf]; omega
      · have HR : Hid (sameT ms ms' = false) := HNE.out hxy
        have hx' : (x.toList == y.toList) = false := ky.ne_list hxy
        clear hxy HNE HEQ
        go_wp2_with fail
        go_quiet (fail)
        have b3 := bel_drewN hbw nq
        clear c0 d0 hbw
        go_wp2
        go_ret
        exact ⟨mu.ret_bool HR.out.symm, b3⟩
    · have HR : Hid (sameT ms ms' = true) := sameT_yes ⟨by have := HN.out; have := HM.out; omega, fun j hj => HAL.out j (by have := HN.out; omega)⟩
      go_wp2
      go_ret
      exact ⟨mu.ret_bool HR.out.symm, hbw⟩

open bx
/-- Boxes are the same. -/
def SameB (x y : Bx) : Prop := x.nm = y.nm ∧ x.vd = y.vd ∧ x.nx = y.nx ∧ SameM x.ms y.ms ∧ SameT x.ks y.ks
def dSameB (x y : Bx) : Decidable (SameB x y) := @instDecidableAnd _ _ (ow.decB _ _) (@instDecidableAnd _ _ _ (@instDecidableAnd _ _ _ (@instDecidableAnd _ _ (dSameM x.ms y.ms) (dSameT x.ks y.ks))))
def sameB (x y : Bx) : Bool := @decide (SameB x y) (dSameB x y)
theorem sameB_no {x y : Bx} (h : ¬ SameB x y) : sameB x y = false := ow.df h
theorem sameB_is {x y : Bx} (h1 : x.nm = y.nm) (h2 : x.vd = y.vd) (h3 : x.nx = y.nx) (h4 : sameM x.ms y.ms = true) : sameB x y = sameT x.ks y.ks := by
  have h4' : SameM x.ms y.ms := ow.dof h4
  rw [Bool.eq_iff_iff]
  constructor
  · intro h
    have h' : SameB x y := ow.dof h
    exact sameT_yes h'.2.2.2.2
  · intro h
    have h' : SameT x.ks y.ks := ow.dof h
    exact ow.dt ⟨h1, h2, h3, h4', h'⟩
theorem sameM_of {ms ms' : List St} (h : sameM ms ms' = false) : ¬ SameM ms ms' := fun y => by rw [sameM_yes y] at h; cases h

set_option maxHeartbeats 4000000 in
set_option maxRecDepth 100000 in
theorem sameBox_any (x y : Bx) (v u v' u' : Value) (w : World) (h1 : RowsAt w v u x.ms x.ks) (h2 : RowsAt w v' u' y.ms y.ks) (hx : bx.Small x) (hy : bx.Small y) :
    Calls Tryz.prog 99 #[BV x v u, BV y v' u'] w fun e w' => e = .returned (.bool (sameB x y)) ∧ Below w.heap.size w w' := by
  have hbw := (bx.new_below w 85 #[.string x.nm, .int .i64 x.vd, .int .i64 x.nx, v, u]).alloc (by simp) (.cells #[.string y.nm, .int .i64 y.vd, .int .i64 y.nx, v', u'] 85)
  have L0 := (lies_new w 85 x v u).keep (bx.new_below _ 85 #[.string y.nm, .int .i64 y.vd, .int .i64 y.nx, v', u'])
  have M0 := lies_new (w.alloc (.cells #[.string x.nm, .int .i64 x.vd, .int .i64 x.nx, v, u] 85)) 85 y v' u'
  have HA := rows_below h1 hbw
  have HB := rows_below h2 hbw
  obtain ⟨⟨a, cap, rfl, _⟩, ⟨a1, cap1, rfl, _⟩⟩ := h1
  obtain ⟨⟨a', cap', rfl, _⟩, ⟨a1', cap1', rfl, _⟩⟩ := h2
  have HX : Hid (bx.Small x ∧ bx.Small y) := ⟨hx, hy⟩
  have HF : Hid (¬ (x.nm = y.nm ∧ x.vd = y.vd ∧ x.nx = y.nx ∧ SameM x.ms y.ms) → sameB x y = false) := fun h => sameB_no fun z => h ⟨z.1, z.2.1, z.2.2.1, z.2.2.2.1⟩
  have HT : Hid (x.nm = y.nm → x.vd = y.vd → x.nx = y.nx → sameM x.ms y.ms = true → sameB x y = sameT x.ks y.ks) := sameB_is
  obtain ⟨nm, vd, nx, ms, ks⟩ := x
  obtain ⟨nm', vd', nx', ms', ks'⟩ := y
  unfold BV
  simp only at hbw L0 M0 HA HB HX HF HT ⊢
  clear hx hy
  rw [show (w.alloc (.cells #[.string nm, .int .i64 vd, .int .i64 nx, .slice a ms.length cap, .slice a1 ks.length cap1] 85)).heap.size = w.heap.size + 1 by simp] at M0
  generalize sameB ⟨nm, vd, nx, ms, ks⟩ ⟨nm', vd', nx', ms', ks'⟩ = R at HF HT ⊢
  by_cases q0 : ¬ nm = nm'
  · have q0' : (nm.toList == nm'.toList) = false := ky.ne_list q0
    have HZ : Hid (R = false) := HF.out fun z => q0 z.1
    clear q0
    go_enter Tryz.func99, Tryz.ntmps99
    go_wp2
    go_ret
    exact ⟨mu.ret_bool HZ.out.symm, hbw⟩
  have q0 : nm = nm' := Classical.not_not.1 q0
  have q0' : (nm.toList == nm'.toList) = true := by rw [q0]; simp
  have HQ0 : Hid (nm = nm') := q0
  clear q0
  by_cases q1 : ¬ vd = vd'
  · have q1' : (vd == vd') = false := by simp [q1]
    have HZ : Hid (R = false) := HF.out fun z => q1 z.2.1
    clear q1
    go_enter Tryz.func99, Tryz.ntmps99
    go_wp2
    go_ret
    exact ⟨mu.ret_bool HZ.out.symm, hbw⟩
  have q1 : vd = vd' := Decidable.of_not_not q1
  have q1' : (vd == vd') = true := by simp [q1]
  have HQ1 : Hid (vd = vd') := q1
  clear q1
  by_cases q2 : ¬ nx = nx'
  · have q2' : (nx == nx') = false := by simp [q2]
    have HZ : Hid (R = false) := HF.out fun z => q2 z.2.2.1
    clear q2
    go_enter Tryz.func99, Tryz.ntmps99
    go_wp2
    go_ret
    exact ⟨mu.ret_bool HZ.out.symm, hbw⟩
  have q2 : nx = nx' := Decidable.of_not_not q2
  have q2' : (nx == nx') = true := by simp [q2]
  have HQ2 : Hid (nx = nx') := q2
  clear q2
  go_enter Tryz.func99, Tryz.ntmps99
  go_wp2_with fail
  generalize World.alloc _ _ = w0 at hbw L0 M0 HA HB ⊢
  have HA : Hid (RowsAt w0 (.slice a ms.length cap) (.slice a1 ks.length cap1) ms ks) := HA
  have HB : Hid (RowsAt w0 (.slice a' ms'.length cap') (.slice a1' ks'.length cap1') ms' ks') := HB
  refine (equalM_any _ _ _ _ ms ms' _ HA.out.1 HB.out.1 HX.out.1.2.2.1 HX.out.2.2.2.1).mono ?_
  rintro e w2 ⟨rfl, hb2⟩
  have HA2 : Hid (RowsAt w2 (.slice a ms.length cap) (.slice a1 ks.length cap1) ms ks) := rows_below HA.out hb2
  have HB2 : Hid (RowsAt w2 (.slice a' ms'.length cap') (.slice a1' ks'.length cap1') ms' ks') := rows_below HB.out hb2
  have c4 := (L0.keep hb2).c4
  have d4 := (M0.keep hb2).c4
  have b3 := hbw.trans (hb2.mono hbw.size)
  clear hbw hb2 HA HB L0 M0
  have HSM : Hid (sameM ms ms' = false → ¬ SameM ms ms') := sameM_of
  generalize sameM ms ms' = sm at HT HSM ⊢
  cases sm
  · have HZ : Hid (R = false) := HF.out fun z => HSM.out (by trivial) z.2.2.2
    go_wp2
    go_ret
    exact ⟨mu.ret_bool HZ.out.symm, b3⟩
  have HZ : Hid (R = sameT ks ks') := HT.out HQ0.out HQ1.out HQ2.out (by trivial)
  go_wp2_with fail
  refine (equalT_any _ _ _ _ ks ks' _ HA2.out.2 HB2.out.2 HX.out.1.2.2.2 HX.out.2.2.2.2).mono ?_
  rintro e w3 ⟨rfl, hb3⟩
  have b4 := b3.trans (hb3.mono b3.size)
  clear b3 hb3 HA2 HB2 c4 d4
  generalize sameT ks ks' = st at HZ ⊢
  cases st
  · go_wp2
    go_ret
    exact ⟨mu.ret_bool HZ.out.symm, b4⟩
  · go_wp2
    go_ret
    exact ⟨mu.ret_bool HZ.out.symm, b4⟩
end Go.Proofs.YtnhcbiomkiljpaaGreatDoor.sm

namespace Go.Proofs.YtnhcbiomkiljpaaGreatDoor.sm
open Go.RowKit Go.WideShapes
open st bx
set_option linter.unusedVariables false

/-- Rows of boxes are the same. -/
def SameS (xs ys : List Bx) : Prop := xs.length = ys.length ∧ ∀ j, j < xs.length → SameB (xs.getD j noB) (ys.getD j noB)
def dSameSs (xs ys : List Bx) (k : Nat) : Decidable (∀ j, j < k → SameB (xs.getD j noB) (ys.getD j noB)) := @Nat.decidableBallLT k (fun j _ => SameB (xs.getD j noB) (ys.getD j noB)) (fun j _ => dSameB _ _)
def dSameS (xs ys : List Bx) : Decidable (SameS xs ys) := @instDecidableAnd _ _ _ (dSameSs xs ys xs.length)
def sameS (xs ys : List Bx) : Bool := @decide (SameS xs ys) (dSameS xs ys)
theorem sameS_no {xs ys : List Bx} (h : ¬ SameS xs ys) : sameS xs ys = false := ow.df h
theorem sameS_yes {xs ys : List Bx} (h : SameS xs ys) : sameS xs ys = true := ow.dt h
theorem sameB_of {x y : Bx} (h : sameB x y = true) : SameB x y := ow.dof h
theorem sameB_yes {x y : Bx} (h : SameB x y) : sameB x y = true := ow.dt h
theorem sameB_not {x y : Bx} (h : sameB x y = false) : ¬ SameB x y := fun z => by rw [sameB_yes z] at h; cases h

set_option maxHeartbeats 4000000 in
set_option maxRecDepth 100000 in
theorem equalS_any (v u : Value) (xs ys : List Bx) (vs us : Nat → Value × Value) (w : World) (h1 : BoxesAt w v xs vs) (h2 : BoxesAt w u ys us) (hs : bx.Smalls xs) (hs' : bx.Smalls ys) :
    Calls Tryz.prog 98 #[v, u, .func (Fn.func 99) #[] #[]] w fun e w' => e = .returned (.bool (sameS xs ys)) ∧ Below w.heap.size w w' := by
  have HALL : Hid (BoxesAt w v xs vs ∧ BoxesAt w u ys us) := ⟨h1, h2⟩
  obtain ⟨⟨a, cap, rfl, hc1⟩, _⟩ := h1
  obtain ⟨⟨c, cap2, rfl, hc2⟩, _⟩ := h2
  obtain ⟨n, hn⟩ : ∃ n, n = xs.length := ⟨_, rfl⟩
  obtain ⟨m, hm⟩ : ∃ m, m = ys.length := ⟨_, rfl⟩
  have HN : Hid (n = xs.length) := hn
  have HM : Hid (m = ys.length) := hm
  have hl : n ≤ 1048576 := by rw [hn]; exact hs.1
  have hl2 : m ≤ 1048576 := by rw [hm]; exact hs'.1
  have HS : Hid (bx.Smalls xs ∧ bx.Smalls ys) := ⟨hs, hs'⟩
  have H1 : Hid (xs = [] ∨ ∃ b off, a = some ⟨b, off, none⟩ ∧ b < w.heap.size ∧ ∀ j, j < xs.length → At5 w b (off + j * 5) (xs.getD j noB) (vs j)) := hc1
  have H2 : Hid (ys = [] ∨ ∃ b off, c = some ⟨b, off, none⟩ ∧ b < w.heap.size ∧ ∀ j, j < ys.length → At5 w b (off + j * 5) (ys.getD j noB) (us j)) := hc2
  rw [← hn, ← hm] at HALL
  rw [← hn, ← hm]
  clear hc1 hc2 hs hs' hn hm
  by_cases hnm : ¬ n = m
  · have hnm' : ((n : Int) != (m : Int)) = true := by simp; omega
    have HR : Hid (sameS xs ys = false) := sameS_no (fun y => hnm (by have := y.1; have := HN.out; have := HM.out; omega))
    go_enter Tryz.func98, Tryz.ntmps98
    go_wp2
    go_ret
    exact ⟨mu.ret_bool HR.out.symm, Below.refl _ _⟩
  have hnm : n = m := Decidable.of_not_not hnm
  subst hnm
  have hnm' : ((n : Int) != (n : Int)) = false := by simp
  go_enter Tryz.func98, Tryz.ntmps98
  go_wp2
  go_loopw [17] (fun i wr => ∃ k : Nat, k ≤ n ∧ i = .int .i64 k ∧ (∀ j, j < k → SameB (xs.getD j noB) (ys.getD j noB)) ∧ Below w.heap.size w wr) (fun i _ => n - (intOf i).toNat)
  case atStart => exact ⟨0, Nat.zero_le _, rfl, fun j hj => absurd hj (Nat.not_lt_zero _), Below.refl _ _⟩
  case round =>
    obtain ⟨k, hk, rfl, hal, hbw⟩ := hrel
    have HAL : Hid (∀ j, j < k → SameB (xs.getD j noB) (ys.getD j noB)) := hal
    clear hal
    by_cases hlt : k < n
    · have hka : k < xs.length := by rw [← HN.out]; exact hlt
      have hkb : k < ys.length := by rw [← HM.out]; exact hlt
      rcases H1.out with e | ⟨b, off, rfl, hbl, hcells⟩
      · rw [e] at hka; simp at hka
      rcases H2.out with e | ⟨b2, off2, rfl, hbl2, hcells2⟩
      · rw [e] at hkb; simp at hkb
      have ha := (hcells k hka).keep hbw hbl
      have hb := (hcells2 k hkb).keep hbw hbl2
      have hr1 := rows_more ((boxes_in_below HALL.out.1 hbw (Nat.le_refl _)).2 k hka) hbw.size
      have hr2 := rows_more ((boxes_in_below HALL.out.2 hbw (Nat.le_refl _)).2 k hkb) hbw.size
      have hsa := HS.out.1.2 k hka
      have hsb := HS.out.2.2 k hkb
      have HNE : Hid (sameB (xs.getD k noB) (ys.getD k noB) = false → sameS xs ys = false) := fun h => sameS_no (fun y => sameB_not h (y.2 k hka))
      have HEQ : Hid (sameB (xs.getD k noB) (ys.getD k noB) = true → ∀ j, j < k + 1 → SameB (xs.getD j noB) (ys.getD j noB)) := fun h j hj => by
        by_cases e : j = k
        · rw [e]; exact sameB_of h
        · exact HAL.out j (by omega)
      clear hcells hka hcells2 hkb
      generalize xs.getD k noB = x at ha hsa hr1 HNE HEQ
      generalize ys.getD k noB = y at hb hsb hr2 HNE HEQ
      generalize vs k = q at ha hr1
      generalize us k = r at hb hr2
      obtain ⟨q1, q2⟩ := q
      obtain ⟨r1, r2⟩ := r
      obtain ⟨c0, c1, c2, c3, c4⟩ := ha
      obtain ⟨d0, d1, d2, d3, d4⟩ := hb
      simp only at c0 c1 c2 c3 c4 d0 d1 d2 d3 d4 hr1 hr2
      have HXY : Hid (bx.Small x ∧ bx.Small y) := ⟨hsa, hsb⟩
      have hlt' : (k : Int) < (n : Int) := by omega
      have hk0 : (0 : Int) ≤ (k : Int) := by omega
      have hb2 := (bx.new_below wr 85 #[.string x.nm, .int .i64 x.vd, .int .i64 x.nx, q1, q2]).alloc (by simp) (.cells #[.string y.nm, .int .i64 y.vd, .int .i64 y.nx, r1, r2] 85)
      have hd := bx.new_below wr 85 #[.string x.nm, .int .i64 x.vd, .int .i64 x.nx, q1, q2]
      have e0 := (hd.cell (p := ⟨b2, off2 + k * 5, none⟩) (World.block_lt_of_cell? wr _ d0)).trans d0
      have e1 := (hd.cell (p := ⟨b2, off2 + k * 5 + 1, none⟩) (World.block_lt_of_cell? wr _ d1)).trans d1
      have e2 := (hd.cell (p := ⟨b2, off2 + k * 5 + 2, none⟩) (World.block_lt_of_cell? wr _ d2)).trans d2
      have e3 := (hd.cell (p := ⟨b2, off2 + k * 5 + 3, none⟩) (World.block_lt_of_cell? wr _ d3)).trans d3
      have e4 := (hd.cell (p := ⟨b2, off2 + k * 5 + 4, none⟩) (World.block_lt_of_cell? wr _ d4)).trans d4
      have HR1 : Hid (RowsAt ((wr.alloc (.cells #[.string x.nm, .int .i64 x.vd, .int .i64 x.nx, q1, q2] 85)).alloc (.cells #[.string y.nm, .int .i64 y.vd, .int .i64 y.nx, r1, r2] 85)) q1 q2 x.ms x.ks) := rows_below hr1 hb2
      have HR2 : Hid (RowsAt ((wr.alloc (.cells #[.string x.nm, .int .i64 x.vd, .int .i64 x.nx, q1, q2] 85)).alloc (.cells #[.string y.nm, .int .i64 y.vd, .int .i64 y.nx, r1, r2] 85)) r1 r2 y.ms y.ks) := rows_below hr2 hb2
      have hb3 := hbw.trans (hb2.mono hbw.size)
      obtain ⟨⟨a2, cap2, rfl, _⟩, ⟨a3, cap3, rfl, _⟩⟩ := hr1
      obtain ⟨⟨a4, cap4, rfl, _⟩, ⟨a5, cap5, rfl, _⟩⟩ := hr2
      clear hsa hsb hb2 hd hbw
      go_wp2_with fail
      refine (sameBox_any x y _ _ _ _ _ HR1.out HR2.out HXY.out.1 HXY.out.2).mono ?_
      rintro e w2 ⟨rfl, hb4⟩
      have b4 := hb3.trans (hb4.mono hb3.size)
      clear hb3 hb4 HR1 HR2 c0 c1 c2 c3 c4 d0 d1 d2 d3 d4 e0 e1 e2 e3 e4
      generalize sameB x y = sb at HNE HEQ ⊢
      cases sb
      · have HR : Hid (sameS xs ys = false) := HNE.out (by trivial)
        go_wp2
        go_ret
        exact ⟨mu.ret_bool HR.out.symm, b4⟩
      · have HX : Hid (∀ j, j < k + 1 → SameB (xs.getD j noB) (ys.getD j noB)) := HEQ.out (by trivial)
        go_wp2
        go_roundw
        case rel => exact ⟨k + 1, by omega, by go_num, HX.out, b4⟩
        case measure => simp [intOf]; omega
    · have HR : Hid (sameS xs ys = true) := sameS_yes ⟨by have := HN.out; have := HM.out; omega, fun j hj => HAL.out j (by have := HN.out; omega)⟩
      go_wp2
      go_ret
      exact ⟨mu.ret_bool HR.out.symm, hbw⟩

def ssa (xs ys : List Bx) : Bool := decide (xs.length ≤ 4096 ∧ ys.length ≤ 4096) && sok xs && sok ys && sameS xs ys
def ssb (xs ys : List Bx) : Int := if xs.length ≤ 4096 ∧ ys.length ≤ 4096 then (if sok xs = true ∧ sok ys = true then 0 else 1) else 2

set_option maxHeartbeats 4000000 in
set_option maxRecDepth 100000 in
theorem impl_ss (v u : Value) (xs ys : List Bx) (vs us : Nat → Value × Value) (w : World) (h1 : BoxesAt w v xs vs) (h2 : BoxesAt w u ys us) (hs : bx.Smalls xs) (hs' : bx.Smalls ys) :
    Calls Tryz.prog 52 #[v, u] w fun e w' => e = .returned (.tuple #[.bool (ssa xs ys), .int .i64 (ssb xs ys)]) ∧ Below w.heap.size w w' := by
  have HA : Hid (BoxesAt w v xs vs) := h1
  have HB : Hid (BoxesAt w u ys us) := h2
  obtain ⟨⟨a, cap, rfl, _⟩, _⟩ := h1
  obtain ⟨⟨c, cap2, rfl, _⟩, _⟩ := h2
  have HS : Hid (bx.Smalls xs ∧ bx.Smalls ys) := ⟨hs, hs'⟩
  have HL : Hid (¬ (xs.length ≤ 4096 ∧ ys.length ≤ 4096) → ssa xs ys = false ∧ ssb xs ys = 2) := fun h => by simp [ssa, ssb, h]
  have HB1 : Hid (xs.length ≤ 4096 ∧ ys.length ≤ 4096 → sok xs = false → ssa xs ys = false ∧ ssb xs ys = 1) := fun h h1 => by simp [ssa, ssb, h, h1]
  have HB2 : Hid (xs.length ≤ 4096 ∧ ys.length ≤ 4096 → sok ys = false → ssa xs ys = false ∧ ssb xs ys = 1) := fun h h1 => by simp [ssa, ssb, h, h1]
  have HO : Hid (xs.length ≤ 4096 ∧ ys.length ≤ 4096 → sok xs = true → sok ys = true → ssa xs ys = sameS xs ys ∧ ssb xs ys = 0) := fun h h1 h2 => by simp [ssa, ssb, h, h1, h2]
  have hl1 := hs.1
  have hl2 := hs'.1
  clear hs hs'
  generalize ssa xs ys = RA at HL HB1 HB2 HO ⊢
  generalize ssb xs ys = RB at HL HB1 HB2 HO ⊢
  by_cases g1 : 4096 < xs.length
  · have g1' : (4096 : Int) < (xs.length : Int) := by omega
    obtain ⟨r0, r1⟩ := HL.out (by omega)
    have HR : Hid (RA = false ∧ RB = 2) := ⟨r0, r1⟩
    clear r0 r1
    go_enter Tryz.func52, Tryz.ntmps52
    go_wp2
    go_ret2
    exact ⟨by rw [HR.out.1, HR.out.2]; rfl, Below.refl _ _⟩
  have g1' : (xs.length : Int) ≤ 4096 := by omega
  by_cases g2 : 4096 < ys.length
  · have g2' : (4096 : Int) < (ys.length : Int) := by omega
    obtain ⟨r0, r1⟩ := HL.out (by omega)
    have HR : Hid (RA = false ∧ RB = 2) := ⟨r0, r1⟩
    clear r0 r1
    go_enter Tryz.func52, Tryz.ntmps52
    go_wp2
    go_ret2
    exact ⟨by rw [HR.out.1, HR.out.2]; rfl, Below.refl _ _⟩
  have g2' : (ys.length : Int) ≤ 4096 := by omega
  have HLL : Hid (xs.length ≤ 4096 ∧ ys.length ≤ 4096) := ⟨by omega, by omega⟩
  go_enter Tryz.func52, Tryz.ntmps52
  go_wp2_with fail
  refine (impl_sok _ xs vs w HA.out HS.out.1).mono ?_
  rintro e w1 ⟨rfl, b1⟩
  have HA1 : Hid (BoxesAt w1 (.slice a xs.length cap) xs vs) := boxes_below HA.out b1
  have HB1' : Hid (BoxesAt w1 (.slice c ys.length cap2) ys us) := boxes_below HB.out b1
  clear HA HB
  generalize sok xs = sx at HB1 HO ⊢
  cases sx
  · obtain ⟨r0, r1⟩ := HB1.out HLL.out (by trivial)
    have HR : Hid (RA = false ∧ RB = 1) := ⟨r0, r1⟩
    clear r0 r1
    go_wp2
    go_ret2
    exact ⟨by rw [HR.out.1, HR.out.2]; rfl, b1⟩
  go_wp2_with fail
  refine (impl_sok _ ys us w1 HB1'.out HS.out.2).mono ?_
  rintro e w2 ⟨rfl, hb2⟩
  have HA2 : Hid (BoxesAt w2 (.slice a xs.length cap) xs vs) := boxes_below HA1.out hb2
  have HB2' : Hid (BoxesAt w2 (.slice c ys.length cap2) ys us) := boxes_below HB1'.out hb2
  have b2 := b1.trans (hb2.mono b1.size)
  clear HA1 HB1' b1 hb2
  generalize sok ys = sy at HB2 HO ⊢
  cases sy
  · obtain ⟨r0, r1⟩ := HB2.out HLL.out (by trivial)
    have HR : Hid (RA = false ∧ RB = 1) := ⟨r0, r1⟩
    clear r0 r1
    go_wp2
    go_ret2
    exact ⟨by rw [HR.out.1, HR.out.2]; rfl, b2⟩
  obtain ⟨r0, r1⟩ := HO.out HLL.out (by trivial) (by trivial)
  have HR : Hid (RA = sameS xs ys ∧ RB = 0) := ⟨r0, r1⟩
  clear r0 r1
  go_wp2_with fail
  refine (equalS_any _ _ xs ys vs us w2 HA2.out HB2'.out HS.out.1 HS.out.2).mono ?_
  rintro e w3 ⟨rfl, hb3⟩
  have b3 := b2.trans (hb3.mono b2.size)
  clear HA2 HB2' b2 hb3
  go_wp2
  go_ret2
  exact ⟨by rw [HR.out.1, HR.out.2]; rfl, b3⟩
end Go.Proofs.YtnhcbiomkiljpaaGreatDoor.sm

namespace Go.Proofs.YtnhcbiomkiljpaaGreatDoor.sm
open Go.RowKit Go.WideShapes
open st bx
set_option linter.unusedVariables false

set_option maxHeartbeats 8000000 in
set_option maxRecDepth 100000 in
theorem l09Same_any (v u : Value) (xs ys : List Bx) (vs us : Nat → Value × Value) (w : World) (h1 : BoxesAt w v xs vs) (h2 : BoxesAt w u ys us) (hs : bx.Smalls xs) (hs' : bx.Smalls ys) :
    Calls Tryz.prog 81 #[v, u] w fun e w' => e = .returned (.bool (sameS xs ys)) ∧ Below w.heap.size w w' := by
  have HALL : Hid (BoxesAt w v xs vs ∧ BoxesAt w u ys us) := ⟨h1, h2⟩
  obtain ⟨⟨a, cap, rfl, hc1⟩, _⟩ := h1
  obtain ⟨⟨c, cap2, rfl, hc2⟩, _⟩ := h2
  obtain ⟨n, hn⟩ : ∃ n, n = xs.length := ⟨_, rfl⟩
  obtain ⟨m, hm⟩ : ∃ m, m = ys.length := ⟨_, rfl⟩
  have HN : Hid (n = xs.length) := hn
  have HM : Hid (m = ys.length) := hm
  have hl : n ≤ 1048576 := by rw [hn]; exact hs.1
  have hl2 : m ≤ 1048576 := by rw [hm]; exact hs'.1
  have HS : Hid (bx.Smalls xs ∧ bx.Smalls ys) := ⟨hs, hs'⟩
  have H1 : Hid (xs = [] ∨ ∃ b off, a = some ⟨b, off, none⟩ ∧ b < w.heap.size ∧ ∀ j, j < xs.length → At5 w b (off + j * 5) (xs.getD j noB) (vs j)) := hc1
  have H2 : Hid (ys = [] ∨ ∃ b off, c = some ⟨b, off, none⟩ ∧ b < w.heap.size ∧ ∀ j, j < ys.length → At5 w b (off + j * 5) (ys.getD j noB) (us j)) := hc2
  rw [← hn, ← hm] at HALL
  rw [← hn, ← hm]
  clear hc1 hc2 hs hs' hn hm
  by_cases hnm : ¬ n = m
  · have hnm' : ((n : Int) != (m : Int)) = true := by simp; omega
    have HR : Hid (sameS xs ys = false) := sameS_no (fun y => hnm (by have := y.1; have := HN.out; have := HM.out; omega))
    go_enter Tryz.func81, Tryz.ntmps81
    go_wp2
    go_ret
    exact ⟨mu.ret_bool HR.out.symm, Below.refl _ _⟩
  have hnm : n = m := Decidable.of_not_not hnm
  subst hnm
  have hnm' : ((n : Int) != (n : Int)) = false := by simp
  go_enter Tryz.func81, Tryz.ntmps81
  go_wp2
  go_loopw [5] (fun i wr => ∃ k : Nat, k ≤ n ∧ i = .int .i64 k ∧ (∀ j, j < k → SameB (xs.getD j noB) (ys.getD j noB)) ∧ Below w.heap.size w wr) (fun i _ => n - (intOf i).toNat)
  case atStart => exact ⟨0, Nat.zero_le _, rfl, fun j hj => absurd hj (Nat.not_lt_zero _), Below.refl _ _⟩
  case round =>
    obtain ⟨k, hk, rfl, hal, hbw⟩ := hrel
    have HAL : Hid (∀ j, j < k → SameB (xs.getD j noB) (ys.getD j noB)) := hal
    clear hal
    by_cases hlt : k < n
    · have hka : k < xs.length := by rw [← HN.out]; exact hlt
      have hkb : k < ys.length := by rw [← HM.out]; exact hlt
      rcases H1.out with e | ⟨b, off, rfl, hbl, hcells⟩
      · rw [e] at hka; simp at hka
      rcases H2.out with e | ⟨b2, off2, rfl, hbl2, hcells2⟩
      · rw [e] at hkb; simp at hkb
      have ha := (hcells k hka).keep hbw hbl
      have hb := (hcells2 k hkb).keep hbw hbl2
      have hr1 := rows_more ((boxes_in_below HALL.out.1 hbw (Nat.le_refl _)).2 k hka) hbw.size
      have hr2 := rows_more ((boxes_in_below HALL.out.2 hbw (Nat.le_refl _)).2 k hkb) hbw.size
      have hsa := HS.out.1.2 k hka
      have hsb := HS.out.2.2 k hkb
      have HNE : Hid (¬ SameB (xs.getD k noB) (ys.getD k noB) → sameS xs ys = false) := fun h => sameS_no (fun y => h (y.2 k hka))
      have HEQ : Hid (SameB (xs.getD k noB) (ys.getD k noB) → ∀ j, j < k + 1 → SameB (xs.getD j noB) (ys.getD j noB)) := fun h j hj => by
        by_cases e : j = k
        · rw [e]; exact h
        · exact HAL.out j (by omega)
      clear hcells hka hcells2 hkb
      generalize xs.getD k noB = x at ha hsa hr1 HNE HEQ
      generalize ys.getD k noB = y at hb hsb hr2 HNE HEQ
      generalize vs k = q at ha hr1
      generalize us k = r at hb hr2
      obtain ⟨q1, q2⟩ := q
      obtain ⟨r1, r2⟩ := r
      obtain ⟨c0, c1, c2, c3, c4⟩ := ha
      obtain ⟨d0, d1, d2, d3, d4⟩ := hb
      simp only at c0 c1 c2 c3 c4 d0 d1 d2 d3 d4 hr1 hr2
      have HXY : Hid (bx.Small x ∧ bx.Small y) := ⟨hsa, hsb⟩
      have hlt' : (k : Int) < (n : Int) := by omega
      have hk0 : (0 : Int) ≤ (k : Int) := by omega
      have hd := bx.new_below wr 85 #[.string x.nm, .int .i64 x.vd, .int .i64 x.nx, q1, q2]
      have hb2 := hd.alloc (by simp) (.cells #[.string y.nm, .int .i64 y.vd, .int .i64 y.nx, r1, r2] 85)
      have e0 := (hd.cell (p := ⟨b2, off2 + k * 5, none⟩) (World.block_lt_of_cell? wr _ d0)).trans d0
      have e1 := (hd.cell (p := ⟨b2, off2 + k * 5 + 1, none⟩) (World.block_lt_of_cell? wr _ d1)).trans d1
      have e2 := (hd.cell (p := ⟨b2, off2 + k * 5 + 2, none⟩) (World.block_lt_of_cell? wr _ d2)).trans d2
      have e3 := (hd.cell (p := ⟨b2, off2 + k * 5 + 3, none⟩) (World.block_lt_of_cell? wr _ d3)).trans d3
      have e4 := (hd.cell (p := ⟨b2, off2 + k * 5 + 4, none⟩) (World.block_lt_of_cell? wr _ d4)).trans d4
      have L0 := (lies_new wr 85 x q1 q2).keep (bx.new_below _ 85 #[.string y.nm, .int .i64 y.vd, .int .i64 y.nx, r1, r2])
      have M0 := lies_new (wr.alloc (.cells #[.string x.nm, .int .i64 x.vd, .int .i64 x.nx, q1, q2] 85)) 85 y r1 r2
      rw [show (wr.alloc (.cells #[.string x.nm, .int .i64 x.vd, .int .i64 x.nx, q1, q2] 85)).heap.size = wr.heap.size + 1 by simp] at M0
      have HR1 := rows_below hr1 hb2
      have HR2 := rows_below hr2 hb2
      have hb3 := hbw.trans (hb2.mono hbw.size)
      obtain ⟨⟨a2, cap2, rfl, _⟩, ⟨a3, cap3, rfl, _⟩⟩ := hr1
      obtain ⟨⟨a4, cap4, rfl, _⟩, ⟨a5, cap5, rfl, _⟩⟩ := hr2
      clear hsa hsb hb2 hd hbw
      obtain ⟨nm, vd, nx, ms, ks⟩ := x
      obtain ⟨nm', vd', nx', ms', ks'⟩ := y
      simp only at c0 c1 c2 c3 c4 d0 d1 d2 d3 d4 e0 e1 e2 e3 e4 L0 M0 HR1 HR2 HXY HNE HEQ hb3
      have hm1 : ms.length ≤ 1048576 := HXY.out.1.2.2.1.1
      have hm2 : ms'.length ≤ 1048576 := HXY.out.2.2.2.1.1
      have hk1 : ks.length ≤ 1048576 := HXY.out.1.2.2.2.1
      have hk2 : ks'.length ≤ 1048576 := HXY.out.2.2.2.2.1
      by_cases q0 : ¬ nm = nm'
      · have q0' : (nm.toList == nm'.toList) = false := ky.ne_list q0
        have HZ : Hid (sameS xs ys = false) := HNE.out fun z => q0 z.1
        clear q0
        go_wp2
        go_ret
        exact ⟨mu.ret_bool HZ.out.symm, hb3⟩
      have q0 : nm = nm' := Classical.not_not.1 q0
      have q0' : (nm.toList == nm'.toList) = true := by rw [q0]; simp
      have HQ0 : Hid (nm = nm') := q0
      clear q0
      by_cases q1 : ¬ vd = vd'
      · have q1' : (vd != vd') = true := by simp [q1]
        have HZ : Hid (sameS xs ys = false) := HNE.out fun z => q1 z.2.1
        clear q1
        go_wp2
        go_ret
        exact ⟨mu.ret_bool HZ.out.symm, hb3⟩
      have q1 : vd = vd' := Decidable.of_not_not q1
      have q1' : (vd != vd') = false := by simp [q1]
      have HQ1 : Hid (vd = vd') := q1
      clear q1
      by_cases q2 : ¬ nx = nx'
      · have q2' : (nx != nx') = true := by simp [q2]
        have HZ : Hid (sameS xs ys = false) := HNE.out fun z => q2 z.2.2.1
        clear q2
        go_wp2
        go_ret
        exact ⟨mu.ret_bool HZ.out.symm, hb3⟩
      have q2 : nx = nx' := Decidable.of_not_not q2
      have q2' : (nx != nx') = false := by simp [q2]
      have HQ2 : Hid (nx = nx') := q2
      clear q2
      by_cases q3 : ¬ ms.length = ms'.length
      · have q3' : ((ms.length : Int) != (ms'.length : Int)) = true := by simp; omega
        have HZ : Hid (sameS xs ys = false) := HNE.out fun z => q3 z.2.2.2.1.1
        go_wp2
        go_ret
        exact ⟨mu.ret_bool HZ.out.symm, hb3⟩
      have q3 : ms.length = ms'.length := Decidable.of_not_not q3
      have q3' : ((ms.length : Int) != (ms'.length : Int)) = false := by simp; omega
      have HQ3 : Hid (ms.length = ms'.length) := q3
      clear q3
      by_cases q4 : ¬ ks.length = ks'.length
      · have q4' : ((ks.length : Int) != (ks'.length : Int)) = true := by simp; omega
        have HZ : Hid (sameS xs ys = false) := HNE.out fun z => q4 z.2.2.2.2.1
        go_wp2
        go_ret
        exact ⟨mu.ret_bool HZ.out.symm, hb3⟩
      have q4 : ks.length = ks'.length := Decidable.of_not_not q4
      have q4' : ((ks.length : Int) != (ks'.length : Int)) = false := by simp; omega
      have HQ4 : Hid (ks.length = ks'.length) := q4
      clear q4
      go_wp2
      clear c0 c1 c2 c3 c4 d0 d1 d2 d3 d4 e0 e1 e2 e3 e4 q0' q1' q2' q3' q4'
      generalize (wr.alloc _).alloc _ = W1 at L0 M0 HR1 HR2 hb3 ⊢
      generalize wr.heap.size = B at L0 M0 ⊢
      have HL0 : Hid (∀ wq, Below W1.heap.size W1 wq → Lies wq B 85 ⟨nm, vd, nx, ms, ks⟩ (.slice a2 ms.length cap2) (.slice a3 ks.length cap3)) := fun wq h => L0.keep h
      have HM0 : Hid (∀ wq, Below W1.heap.size W1 wq → Lies wq (B + 1) 85 ⟨nm', vd', nx', ms', ks'⟩ (.slice a4 ms'.length cap4) (.slice a5 ks'.length cap5)) := fun wq h => M0.keep h
      have HR1 : Hid (RowsAt W1 (.slice a2 ms.length cap2) (.slice a3 ks.length cap3) ms ks) := HR1
      have HR2 : Hid (RowsAt W1 (.slice a4 ms'.length cap4) (.slice a5 ks'.length cap5) ms' ks') := HR2
      have HB3 : Hid (∀ wq, Below W1.heap.size W1 wq → Below w.heap.size w wq) := fun wq h => hb3.trans (h.mono hb3.size)
      clear L0 M0 hb3
      go_loopw [8] (fun i wq => ∃ z : Nat, z ≤ ms.length ∧ i = .int .i64 z ∧ (∀ j, j < z → ms.getD j noS = ms'.getD j noS) ∧ Below W1.heap.size W1 wq) (fun i _ => ms.length - (intOf i).toNat)
      case atStart => exact ⟨0, Nat.zero_le _, rfl, fun j hj => absurd hj (Nat.not_lt_zero _), Below.refl _ _⟩
      case round =>
        obtain ⟨z, hz, rfl, hzl, hbq⟩ := hrel
        have HZL : Hid (∀ j, j < z → ms.getD j noS = ms'.getD j noS) := hzl
        clear hzl
        have c3 := (HL0.out _ hbq).c3
        have d3 := (HM0.out _ hbq).c3
        have c4 := (HL0.out _ hbq).c4
        by_cases hzn : z < ms.length
        · have hzn2 : z < ms'.length := by have := HQ3.out; omega
          obtain ⟨b, off, ha, hat⟩ : ∃ b off, a2 = some ⟨b, off, none⟩ ∧ At3 wr b (off + z * 3) (ms.getD z noS) := by
            obtain ⟨a', cap', e, hh⟩ := (rows_below HR1.out hbq).1
            cases e
            rcases hh with e | ⟨b, off, e, hb, hc⟩
            · rw [e] at hzn; simp at hzn
            · exact ⟨b, off, e, hc z hzn⟩
          obtain ⟨b', off', ha', hat'⟩ : ∃ b off, a4 = some ⟨b, off, none⟩ ∧ At3 wr b (off + z * 3) (ms'.getD z noS) := by
            obtain ⟨a', cap', e, hh⟩ := (rows_below HR2.out hbq).1
            cases e
            rcases hh with e | ⟨b, off, e, hb, hc⟩
            · rw [e] at hzn2; simp at hzn2
            · exact ⟨b, off, e, hc z hzn2⟩
          have hsa := HXY.out.1.2.2.1.2 z hzn
          have hsb := HXY.out.2.2.2.1.2 z hzn2
          have HN2 : Hid (¬ ms.getD z noS = ms'.getD z noS → sameS xs ys = false) := fun h => HNE.out fun y => h (y.2.2.2.1.2 z hzn)
          have HE2 : Hid (ms.getD z noS = ms'.getD z noS → ∀ j, j < z + 1 → ms.getD j noS = ms'.getD j noS) := fun h j hj => by
            by_cases e : j = z
            · rw [e]; exact h
            · exact HZL.out j (by omega)
          subst ha ha'
          simp only at hsa hsb
          generalize ms.getD z noS = x at hat hsa HN2 HE2
          generalize ms'.getD z noS = y at hat' hsb HN2 HE2
          have hrun := fun W => ne_run x y hsa hsb W
          have hgd := guard_run
          obtain ⟨g0, g1, g2⟩ := hat
          obtain ⟨f0, f1, f2⟩ := hat'
          clear hsa hsb
          have hz1 : (z : Int) < (ms.length : Int) := by omega
          have hz2 : (z : Int) < (ms'.length : Int) := by omega
          have hz0 : (0 : Int) ≤ (z : Int) := by omega
          by_cases hxy : x = y
          · have HX : Hid (∀ j, j < z + 1 → ms.getD j noS = ms'.getD j noS) := HE2.out hxy
            rw [eqS_yes hxy] at hrun
            simp only [Bool.not_true] at hrun
            clear hxy HN2 HE2
            go_wp2_with fail
            go_quiet (fail)
            have b3 := bel_drewN hbq nq
            clear c3 d3 c4 g0 g1 g2 f0 f1 f2 hrun hbq
            go_wp2
            go_roundw
            case rel => exact ⟨z + 1, by omega, by go_num, HX.out, b3⟩
            case measure => simp [intOf]; omega
          · have HR : Hid (sameS xs ys = false) := HN2.out hxy
            rw [eqS_no hxy] at hrun
            simp only [Bool.not_false] at hrun
            clear hxy HN2 HE2
            go_wp2_with fail
            go_quiet (fail)
            have b3 := bel_drewN hbq nq
            clear c3 d3 c4 g0 g1 g2 f0 f1 f2 hrun hbq
            go_wp2
            go_ret
            exact ⟨mu.ret_bool HR.out.symm, HB3.out _ b3⟩
        have HMM : Hid (SameM ms ms') := ⟨HQ3.out, fun j hj => HZL.out j (by omega)⟩
        have HBQ : Hid (Below W1.heap.size W1 wr) := hbq
        clear HZL hbq
        go_wp2
        clear c3 d3 c4
        go_loopw [9] (fun i wq => ∃ z : Nat, z ≤ ks.length ∧ i = .int .i64 z ∧ (∀ j, j < z → ks.getD j ky.nt = ks'.getD j ky.nt) ∧ Below W1.heap.size W1 wq) (fun i _ => ks.length - (intOf i).toNat)
        case atStart => exact ⟨0, Nat.zero_le _, rfl, fun j hj => absurd hj (Nat.not_lt_zero _), HBQ.out⟩
        case round =>
          clear HBQ
          obtain ⟨z, hz, rfl, hzl, hbq⟩ := hrel
          have HZL : Hid (∀ j, j < z → ks.getD j ky.nt = ks'.getD j ky.nt) := hzl
          clear hzl
          have c4 := (HL0.out _ hbq).c4
          have d4 := (HM0.out _ hbq).c4
          by_cases hzn : z < ks.length
          · have hzn2 : z < ks'.length := by have := HQ4.out; omega
            obtain ⟨b, off, ha, g0⟩ : ∃ b off, a3 = some ⟨b, off, none⟩ ∧ wr.cell? ⟨b, off + z, none⟩ = some (.string (ks.getD z ky.nt)) := by
              obtain ⟨a', cap', e, hh⟩ := (rows_below HR1.out hbq).2
              cases e
              rcases hh with e | ⟨b, off, e, hb, hc⟩
              · rw [e] at hzn; simp at hzn
              · exact ⟨b, off, e, hc z hzn⟩
            obtain ⟨b', off', ha', f0⟩ : ∃ b off, a5 = some ⟨b, off, none⟩ ∧ wr.cell? ⟨b, off + z, none⟩ = some (.string (ks'.getD z ky.nt)) := by
              obtain ⟨a', cap', e, hh⟩ := (rows_below HR2.out hbq).2
              cases e
              rcases hh with e | ⟨b, off, e, hb, hc⟩
              · rw [e] at hzn2; simp at hzn2
              · exact ⟨b, off, e, hc z hzn2⟩
            have HN2 : Hid (¬ ks.getD z ky.nt = ks'.getD z ky.nt → sameS xs ys = false) := fun h => HNE.out fun y => h (y.2.2.2.2.2 z hzn)
            have HE2 : Hid (ks.getD z ky.nt = ks'.getD z ky.nt → ∀ j, j < z + 1 → ks.getD j ky.nt = ks'.getD j ky.nt) := fun h j hj => by
              by_cases e : j = z
              · rw [e]; exact h
              · exact HZL.out j (by omega)
            subst ha ha'
            generalize ks.getD z ky.nt = x at g0 HN2 HE2
            generalize ks'.getD z ky.nt = y at f0 HN2 HE2
            have hz1 : (z : Int) < (ks.length : Int) := by omega
            have hz2 : (z : Int) < (ks'.length : Int) := by omega
            have hz0 : (0 : Int) ≤ (z : Int) := by omega
            by_cases hxy : x = y
            · have HX : Hid (∀ j, j < z + 1 → ks.getD j ky.nt = ks'.getD j ky.nt) := HE2.out hxy
              have hx' : (x.toList == y.toList) = true := by rw [hxy]; simp
              clear hxy HN2 HE2
              go_wp2_with fail
              go_quiet (fail)
              have b3 := bel_drewN hbq nq
              clear c4 d4 g0 f0 hbq
              go_wp2
              go_roundw
              case rel => exact ⟨z + 1, by omega, by go_num, HX.out, b3⟩
              case measure => simp [intOf]; omega
            · have HR : Hid (sameS xs ys = false) := HN2.out hxy
              have hx' : (x.toList == y.toList) = false := ky.ne_list hxy
              clear hxy HN2 HE2
              go_wp2_with fail
              go_quiet (fail)
              have b3 := bel_drewN hbq nq
              clear c4 d4 g0 f0 hbq
              go_wp2
              go_ret
              exact ⟨mu.ret_bool HR.out.symm, HB3.out _ b3⟩
          have HX : Hid (∀ j, j < k + 1 → SameB (xs.getD j noB) (ys.getD j noB)) := HEQ.out ⟨HQ0.out, HQ1.out, HQ2.out, HMM.out, HQ4.out, fun j hj => HZL.out j (by simp only at hj; omega)⟩
          have b3 := HB3.out _ hbq
          go_wp2
          go_roundw
          case rel => exact ⟨k + 1, by omega, by go_num, HX.out, b3⟩
          case measure => simp [intOf]; omega
    · have HR : Hid (sameS xs ys = true) := sameS_yes ⟨by have := HN.out; have := HM.out; omega, fun j hj => HAL.out j (by have := HN.out; omega)⟩
      go_wp2
      go_ret
      exact ⟨mu.ret_bool HR.out.symm, hbw⟩
end Go.Proofs.YtnhcbiomkiljpaaGreatDoor.sm

namespace Go.Proofs.YtnhcbiomkiljpaaGreatDoor.eg
open Go.RowKit
open bx bl
open lg (LV recs recR scan next next_ok Errs)
set_option linter.unusedVariables false

theorem scan_zero (t : ByteArray) : ∀ f p acc, p ≤ t.size → t.size - p < f → (scan t f p acc).2.2 = 0 → (scan t f p acc).2.1 = t.size
  | 0, p, acc, hp, hf, _ => by omega
  | f + 1, p, acc, hp, hf, hc => by
    rw [scan] at hc ⊢
    by_cases h1 : t.size ≤ p
    · rw [if_pos h1]; show p = t.size; omega
    · rw [if_neg h1] at hc ⊢
      by_cases h2 : (next t p).1 = 0
      · rw [if_pos h2] at hc ⊢
        have hk := next_ok h2
        exact scan_zero t f _ _ (by omega) (by omega) hc
      · rw [if_neg h2] at hc
        exact absurd hc h2
theorem recs_zero {t : ByteArray} (h : (recs t).2.2 = 0) : (recs t).2.1 = t.size := scan_zero t _ _ _ (Nat.zero_le _) (by omega) h
/-- When an engine is right. -/
def Cn (r : Int) (d : ByteArray) (s : Int) (bs : List Bx) : Prop := lg.ok r d.size s = true ∧ s = ((d.size : Nat) : Int) ∧ (recs d).2.2 = 0 ∧ ∃ zs, rp.Rp (recs d).1 [] (zs, true) ∧ sok bs = true ∧ sm.sameS zs bs = true
def Ek (r : Int) (d : ByteArray) (s : Int) (bs : List Bx) (o : Bool) : Prop := o = true ↔ Cn r d s bs
theorem ek_one {r : Int} {d : ByteArray} {s : Int} {bs : List Bx} {o o' : Bool} (h : Ek r d s bs o) (h' : Ek r d s bs o') : o = o' := by
  cases o <;> cases o'
  · rfl
  · exact absurd (h.2 (h'.1 rfl)) (by decide)
  · exact absurd (h'.2 (h.1 rfl)) (by decide)
  · rfl
/-- An answer that says it. -/
def Er (r : Int) (d : ByteArray) (s : Int) (bs : List Bx) (e : Ending) : Prop := ∃ o, e = .returned (.bool o) ∧ Ek r d s bs o
theorem ek_no {r : Int} {d : ByteArray} {s : Int} {bs : List Bx} (h : ¬ Cn r d s bs) : Ek r d s bs false := ⟨fun e => absurd e (by decide), fun e => absurd e h⟩

set_option maxHeartbeats 4000000 in
set_option maxRecDepth 100000 in
theorem implEk_any (r : Int) (d : ByteArray) (s : Int) (v : Value) (bs : List Bx) (vs : Nat → Value × Value) (w : World) (c b : Addr) (ca cb : Array Value) (ta tb : TypeId) (hr : lg.In r) (hd : d.size ≤ 1048576) (hs : lg.In s) (hE : Errs w c b ca cb ta tb) (hB : BoxesAt w v bs vs) (hsm : Smalls bs) :
    Calls Tryz.prog 27 #[EV r d s v] w fun e w' => Er r d s bs e ∧ Below w.heap.size w w' := by
  have HBS : Hid (BoxesAt w v bs vs ∧ Smalls bs) := ⟨hB, hsm⟩
  obtain ⟨⟨a, cap, rfl, _⟩, _⟩ := hB
  have L0 := liesE_new w 35 r d s (.slice a bs.length cap)
  have b0 := new_below w 35 #[.int .i64 r, .string d, .int .i64 s, .slice a bs.length cap]
  have HRC : Hid (∀ W, Below w.heap.size w W → Calls Tryz.prog 50 #[LV r d s] W fun e w' => (∃ v, e = .returned (.tuple #[v, .int .i64 (recR r d s).2.1, .int .i64 (recR r d s).2.2]) ∧ ky.OwnT w' W.heap.size v (recR r d s).1) ∧ Below W.heap.size W w') := fun W hW => lg.impl_recs r d s W c b ca cb ta tb hr hd hs (hE.keep hW)
  have c0 := L0.c0
  have c1 := L0.c1
  have c2 := L0.c2
  have HSM : Hid (∀ x ∈ (recR r d s).1, x.size ≤ 20000) := rp.recR_small r d s
  have HLN : Hid ((recR r d s).1.length ≤ 1048576) := Nat.le_trans (lg.recR_len r d s) hd
  have HOK : Hid (lg.ok r d.size s = false → recR r d s = ([], 0, 1)) := fun h => by unfold recR; rw [h]; rfl
  have HYE : Hid (lg.ok r d.size s = true → recR r d s = recs d) := fun h => by unfold recR; rw [if_pos h]
  have hbl := hsm.1
  clear hE hr hs hsm
  unfold EV
  unfold LV at HRC
  go_enter Tryz.func27, Tryz.ntmps27
  go_wp2_with fail
  generalize w.alloc _ = w0 at L0 b0 c0 c1 c2 ⊢
  refine (HRC.out w0 b0).mono ?_
  rintro e w1 ⟨⟨v', rfl, hO⟩, hb1⟩
  have L1 := L0.keep hb1
  have HB1 : Hid (Below w.heap.size w w1) := b0.trans (hb1.mono b0.size)
  have hTX := ky.own_texts hO
  clear HRC c0 c1 c2 hb1 b0 hO L0
  have c2 := L1.c2
  have c3 := L1.c3
  have HL1 : Hid (LiesE w1 w.heap.size 35 r d s (.slice a bs.length cap)) := L1
  clear L1
  cases hk : lg.ok r d.size s with
  | false =>
    rw [HOK.out hk] at hTX ⊢
    obtain ⟨va, vc, rfl, _⟩ := hTX
    have HR : Hid (Ek r d s bs false) := ek_no fun h => by have := h.1; rw [hk] at this; cases this
    clear hk
    simp only
    go_wp2
    go_ret
    exact ⟨⟨false, rfl, HR.out⟩, HB1.out⟩
  | true =>
    have hRe := HYE.out hk
    have HSM' := HSM.out
    have HLN' := HLN.out
    rw [hRe] at HSM' HLN' hTX ⊢
    have HRP := rp.replayed_any v' (recs d).1 w1 hTX HLN' HSM'
    have HZ : Hid ((recs d).2.2 = 0 → (recs d).2.1 = d.size) := recs_zero
    have HCN : Hid (Cn r d s bs ↔ s = ((d.size : Nat) : Int) ∧ (recs d).2.2 = 0 ∧ ∃ zs, rp.Rp (recs d).1 [] (zs, true) ∧ sok bs = true ∧ sm.sameS zs bs = true) := ⟨fun h => h.2, fun h => ⟨hk, h⟩⟩
    clear hk hRe HSM' HSM HLN HOK HYE
    obtain ⟨va, vc, rfl, _⟩ := hTX
    generalize (recs d).2.2 = cd at HZ HCN ⊢
    generalize (recs d).2.1 = sz at HZ ⊢
    generalize (recs d).1 = ts at HRP HLN' HCN ⊢
    have HRP' : Hid (Calls Tryz.prog 51 #[.slice va ts.length vc] w1 fun e w' => (∃ L ys us b, e = .returned (.tuple #[L, .bool b]) ∧ rp.Rp ts [] (ys, b) ∧ OwnL w' w1.heap.size L ys us ∧ Smalls ys ∧ sok ys = true) ∧ Below w1.heap.size w1 w') := HRP
    clear HRP
    by_cases hc0 : cd = 0
    rotate_left
    · have h0 : ((cd : Int) != 0) = true := by rw [bne_iff_ne]; omega
      have HR : Hid (Ek r d s bs false) := ek_no fun h => hc0 (HCN.out.1 h).2.1
      clear hc0 HCN HZ HRP'
      go_wp2
      go_ret
      exact ⟨⟨false, rfl, HR.out⟩, HB1.out⟩
    have hsz := HZ.out hc0
    subst hc0 hsz
    by_cases hS : s = ((d.size : Nat) : Int)
    rotate_left
    · have h0 : ((s : Int) != ((d.size : Nat) : Int)) = true := by rw [bne_iff_ne]; exact hS
      have HR : Hid (Ek r d s bs false) := ek_no fun h => hS (HCN.out.1 h).1
      clear hS HCN HZ HRP'
      go_wp2
      go_ret
      exact ⟨⟨false, rfl, HR.out⟩, HB1.out⟩
    have h0 : ((s : Int) != ((d.size : Nat) : Int)) = false := by rw [bne_eq_false_iff_eq]; exact hS
    have HC2 : Hid (Cn r d s bs ↔ ∃ zs, rp.Rp ts [] (zs, true) ∧ sok bs = true ∧ sm.sameS zs bs = true) := ⟨fun h => (HCN.out.1 h).2.2, fun h => HCN.out.2 ⟨hS, rfl, h⟩⟩
    clear hS HCN HZ
    go_wp2_with fail
    refine HRP'.out.mono ?_
    rintro e w2 ⟨⟨L, ys, us, bo, rfl, hR, hOL, hsy, hso⟩, hb2⟩
    obtain ⟨La, Ln, Lc, rfl⟩ := slice_fine (own_fine hOL.1)
    have HO2 : Hid (BoxesAt w2 (.slice La Ln Lc) ys us ∧ Smalls ys) := ⟨ownL_boxes hOL, hsy⟩
    have HB2 : Hid (Below w.heap.size w w2) := HB1.out.trans (hb2.mono HB1.out.size)
    have d3 := (HL1.out.keep hb2).c3
    have HSA : Hid (sm.ssa ys bs = true ↔ sok bs = true ∧ sm.sameS ys bs = true) := by
      have hy := hso
      show (decide (ys.length ≤ 4096 ∧ bs.length ≤ 4096) && sok ys && sok bs && sm.sameS ys bs) = true ↔ _
      rw [hy]
      constructor
      · intro h
        simp only [Bool.and_eq_true] at h
        exact ⟨h.1.2, h.2⟩
      · rintro ⟨h1, h2⟩
        have l1 := (sok_of hy).1
        have l2 := (sok_of h1).1
        rw [h1, h2, decide_eq_true (by omega : ys.length ≤ 4096 ∧ bs.length ≤ 4096)]
        rfl
    have HRR : Hid (rp.Rp ts [] (ys, bo)) := hR
    clear HRP' hOL hsy hb2 hR hso c2 c3
    go_wp2_with fail
    refine (sm.impl_ss _ _ ys bs us vs w2 HO2.out.1 (boxes_below HBS.out.1 HB2.out) HO2.out.2 HBS.out.2).mono ?_
    rintro e w3 ⟨rfl, hb3⟩
    have HB3 : Hid (Below w.heap.size w w3) := HB2.out.trans (hb3.mono HB2.out.size)
    generalize sm.ssa ys bs = A at HSA ⊢
    generalize sm.ssb ys bs = B
    clear hb3 d3
    cases bo with
    | false =>
      have HR : Hid (Ek r d s bs false) := ek_no fun h => by
        obtain ⟨zs, hz, _⟩ := HC2.out.1 h
        have := rp.rp_one rp.sok_nil HRR.out hz
        cases this
      go_wp2
      go_ret
      exact ⟨⟨false, rfl, HR.out⟩, HB3.out⟩
    | true =>
      have HR : Hid (Ek r d s bs A) := by
        refine ⟨fun h => HC2.out.2 ⟨ys, HRR.out, HSA.out.1 h⟩, fun h => ?_⟩
        obtain ⟨zs, hz, h1⟩ := HC2.out.1 h
        have := rp.rp_one rp.sok_nil HRR.out hz
        cases this
        exact HSA.out.2 h1
      go_wp2
      go_ret
      exact ⟨⟨A, rfl, HR.out⟩, HB3.out⟩

set_option maxHeartbeats 4000000 in
set_option maxRecDepth 100000 in
theorem specEk_any (r : Int) (d : ByteArray) (s : Int) (v : Value) (bs : List Bx) (vs : Nat → Value × Value) (w : World) (hr : lg.In r) (hd : d.size ≤ 1048576) (hs : lg.In s) (hB : BoxesAt w v bs vs) (hsm : Smalls bs) (hcv : ∀ a n c, v = .slice a n c → n ≤ c) (hcu : ∀ j, j < bs.length → ∀ a n c, (vs j).2 = .slice a n c → n ≤ c) :
    Calls Tryz.prog 41 #[EV r d s v] w fun e w' => Er r d s bs e ∧ Below w.heap.size w w' := by
  have HBS : Hid (BoxesAt w v bs vs ∧ Smalls bs ∧ (∀ a n c, v = .slice a n c → n ≤ c) ∧ ∀ j, j < bs.length → ∀ a n c, (vs j).2 = .slice a n c → n ≤ c) := ⟨hB, hsm, hcv, hcu⟩
  obtain ⟨⟨a, cap, rfl, _⟩, _⟩ := hB
  have L0 := liesE_new w 35 r d s (.slice a bs.length cap)
  have b0 := new_below w 35 #[.int .i64 r, .string d, .int .i64 s, .slice a bs.length cap]
  have HOK : Hid (∀ W, Calls Tryz.prog 77 #[LV r d s] W fun e w' => e = .returned (.bool (lg.ok r d.size s)) ∧ Below W.heap.size W w') := fun W => lg.spec_ok r d s W hr (Nat.le_trans hd (by unfold maxLen; omega)) hs
  have c0 := L0.c0
  have c1 := L0.c1
  have c2 := L0.c2
  have hbl := hsm.1
  clear hr hs hsm hcv hcu
  unfold EV
  unfold LV at HOK
  go_enter Tryz.func41, Tryz.ntmps41
  go_wp2_with fail
  generalize w.alloc _ = w0 at L0 b0 c0 c1 c2 ⊢
  refine (HOK.out w0).mono ?_
  rintro e w1 ⟨rfl, hb1⟩
  have HB1 : Hid (Below w.heap.size w w1) := b0.trans (hb1.mono b0.size)
  have HL1 : Hid (LiesE w1 w.heap.size 35 r d s (.slice a bs.length cap)) := L0.keep hb1
  clear HOK c0 c1 c2 b0 hb1 L0
  have c1 := HL1.out.c1
  have c2 := HL1.out.c2
  have c3 := HL1.out.c3
  cases hk : lg.ok r d.size s with
  | false =>
    have HR : Hid (Ek r d s bs false) := ek_no fun h => by have := h.1; rw [hk] at this; cases this
    clear hk
    go_wp2
    go_ret
    exact ⟨⟨false, rfl, HR.out⟩, HB1.out⟩
  | true =>
    by_cases hS : s = ((d.size : Nat) : Int)
    rotate_left
    · have h0 : ((s : Int) != ((d.size : Nat) : Int)) = true := by rw [bne_iff_ne]; exact hS
      have HR : Hid (Ek r d s bs false) := ek_no fun h => hS h.2.1
      clear hS hk
      go_wp2
      go_ret
      exact ⟨⟨false, rfl, HR.out⟩, HB1.out⟩
    have h0 : ((s : Int) != ((d.size : Nat) : Int)) = false := by rw [bne_eq_false_iff_eq]; exact hS
    have HKS : Hid (lg.ok r d.size s = true ∧ s = ((d.size : Nat) : Int)) := ⟨hk, hS⟩
    clear hk hS
    go_wp2_with fail
    refine (spec_sok _ bs vs w1 (boxes_below HBS.out.1 HB1.out) HBS.out.2.1 HBS.out.2.2.1 HBS.out.2.2.2).mono ?_
    rintro e w2 ⟨rfl, hb2⟩
    have HB2 : Hid (Below w.heap.size w w2) := HB1.out.trans (hb2.mono HB1.out.size)
    have HL2 : Hid (LiesE w2 w.heap.size 35 r d s (.slice a bs.length cap)) := HL1.out.keep hb2
    clear c1 c2 c3 hb2 HL1
    have c1 := HL2.out.c1
    cases hso : sok bs with
    | false =>
      have HR : Hid (Ek r d s bs false) := ek_no fun h => by
        obtain ⟨zs, _, h1, _⟩ := h.2.2.2
        rw [hso] at h1
        cases h1
      clear hso
      go_wp2
      go_ret
      exact ⟨⟨false, rfl, HR.out⟩, HB2.out⟩
    | true =>
      have HSO : Hid (sok bs = true) := hso
      clear hso
      go_wp2_with fail
      refine (lg.l08Records_any d w2 hd).mono ?_
      rintro e w3 ⟨⟨v', rfl, hOT⟩, hb3⟩
      have hTX := ky.own_texts hOT
      obtain ⟨va, vc, rfl, _⟩ := hTX
      have HB3 : Hid (Below w.heap.size w w3) := HB2.out.trans (hb3.mono HB2.out.size)
      have HL3 : Hid (LiesE w3 w.heap.size 35 r d s (.slice a bs.length cap)) := HL2.out.keep hb3
      have HZ : Hid ((recs d).2.2 = 0 → (recs d).2.1 = d.size) := recs_zero
      have HCD : Hid (Cn r d s bs → (recs d).2.2 = 0) := fun h => h.2.2.1
      have HRR : Hid ((recs d).2.2 = 0 → ∀ ys n cc, rp.Rr d ys n cc → (cc = 0 ∧ (Cn r d s bs ↔ sm.sameS ys bs = true)) ∨ (cc ≠ 0 ∧ ¬ Cn r d s bs)) := fun hc ys n cc h => by
        obtain ⟨zs, b, hR, h⟩ := h
        rcases h with ⟨rfl, _, _, rfl⟩ | ⟨_, h8, _⟩ | ⟨rfl, _, rfl, _, rfl⟩
        · refine .inr ⟨by decide, fun hn => ?_⟩
          obtain ⟨zs', hz, _⟩ := hn.2.2.2
          cases rp.rp_one rp.sok_nil hR hz
        · rw [hc] at h8; cases h8
        · refine .inl ⟨rfl, fun hn => ?_, fun h => ⟨HKS.out.1, HKS.out.2, hc, _, hR, HSO.out, h⟩⟩
          obtain ⟨zs', hz, _, h1⟩ := hn.2.2.2
          cases rp.rp_one rp.sok_nil hR hz
          exact h1
      generalize (recs d).2.2 = cd at HZ HCD HRR ⊢
      generalize (recs d).2.1 = sz at HZ ⊢
      generalize (recs d).1.length = tl
      clear hOT hb3 c1 HL2
      have c1 := HL3.out.c1
      by_cases hc0 : cd = 0
      rotate_left
      · have h0 : ((cd : Int) != 0) = true := by rw [bne_iff_ne]; omega
        have HR : Hid (Ek r d s bs false) := ek_no fun h => hc0 (HCD.out h)
        clear hc0 HZ HCD HRR
        go_wp2
        go_ret
        exact ⟨⟨false, rfl, HR.out⟩, HB3.out⟩
      have hsz := HZ.out hc0
      have HR2 : Hid (∀ ys n cc, rp.Rr d ys n cc → (cc = 0 ∧ (Cn r d s bs ↔ sm.sameS ys bs = true)) ∨ (cc ≠ 0 ∧ ¬ Cn r d s bs)) := HRR.out hc0
      clear HZ HCD HRR
      subst hc0 hsz
      go_wp2_with fail
      refine (rp.specRp_any d w3 hd).mono ?_
      rintro e w4 ⟨⟨L, ys, us, n, cc, rfl, hR, hLB, hF, hsy, hsoy⟩, hb4⟩
      have HY : Hid (BoxesAt w4 L ys us ∧ Smalls ys) := ⟨hLB, hsy⟩
      obtain ⟨⟨La, Lc, rfl, _⟩, _⟩ := hLB
      have HB4 : Hid (Below w.heap.size w w4) := HB3.out.trans (hb4.mono HB3.out.size)
      have c3 := (HL3.out.keep hb4).c3
      have hyl := hsy.1
      have hX := HR2.out _ _ _ hR
      clear hF hsy hsoy hb4 hR HR2 c1
      rcases hX with ⟨rfl, hX⟩ | ⟨hn0, hX⟩
      · have HX : Hid (Cn r d s bs ↔ sm.sameS ys bs = true) := hX
        clear hX
        go_wp2_with fail
        refine (sm.l09Same_any _ _ ys bs us vs w4 HY.out.1 (boxes_below HBS.out.1 HB4.out) HY.out.2 HBS.out.2.1).mono ?_
        rintro e w5 ⟨rfl, hb5⟩
        have HB5 : Hid (Below w.heap.size w w5) := HB4.out.trans (hb5.mono HB4.out.size)
        have HR : Hid (Ek r d s bs (sm.sameS ys bs)) := HX.out.symm
        generalize sm.sameS ys bs = A at HR ⊢
        clear hb5 c3
        go_wp2
        go_ret
        exact ⟨⟨A, rfl, HR.out⟩, HB5.out⟩
      · have h0 : ((cc : Int) == 0) = false := by rw [beq_eq_false_iff_ne]; exact hn0
        have HR : Hid (Ek r d s bs false) := ek_no hX
        clear hX hn0
        go_wp2
        go_ret
        exact ⟨⟨false, rfl, HR.out⟩, HB4.out⟩
end Go.Proofs.YtnhcbiomkiljpaaGreatDoor.eg
