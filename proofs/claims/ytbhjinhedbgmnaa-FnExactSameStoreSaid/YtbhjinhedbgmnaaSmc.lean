/-
  Rows of boxes are held against each other: the program's own way; its SameStore.
-/
import Derived.Test.YtbhjinhedbgmnaaSmb
import Derived.Test.YtbhjinhedbgmnaaBwc
namespace Go.Proofs.Ytbhjinhedbgmnaa.sm
open Go.RowKit Go.WideShapes
open st bx
set_option linter.unusedVariables false

/-- Rows of boxes are the same. -/
def SameS (xs ys : List Bx) : Prop := xs.length = ys.length ∧ ∀ j, j < xs.length → SameB (xs.getD j noB) (ys.getD j noB)
def dSameSs (xs ys : List Bx) (k : Nat) : Decidable (∀ j, j < k → SameB (xs.getD j noB) (ys.getD j noB)) := @Nat.decidableBallLT k (fun j _ => SameB (xs.getD j noB) (ys.getD j noB)) (fun j _ => dSameB _ _)
def dSameS (xs ys : List Bx) : Decidable (SameS xs ys) := @instDecidableAnd _ _ _ (dSameSs xs ys xs.length)
def sameS (xs ys : List Bx) : Bool := @decide (SameS xs ys) (dSameS xs ys)
theorem sameS_no {xs ys : List Bx} (h : ¬ SameS xs ys) : sameS xs ys = false := ow.df h
theorem sameS_yes {xs ys : List Bx} (h : SameS xs ys) : sameS xs ys = true := ow.dt h
theorem sameB_of {x y : Bx} (h : sameB x y = true) : SameB x y := ow.dof h
theorem sameB_yes {x y : Bx} (h : SameB x y) : sameB x y = true := ow.dt h
theorem sameB_not {x y : Bx} (h : sameB x y = false) : ¬ SameB x y := fun z => by rw [sameB_yes z] at h; cases h

set_option maxHeartbeats 4000000 in
set_option maxRecDepth 100000 in
theorem equalS_any (v u : Value) (xs ys : List Bx) (vs us : Nat → Value × Value) (w : World) (h1 : BoxesAt w v xs vs) (h2 : BoxesAt w u ys us) (hs : bx.Smalls xs) (hs' : bx.Smalls ys) :
    Calls Try.prog 56 #[v, u, .func (Fn.func 57) #[] #[]] w fun e w' => e = .returned (.bool (sameS xs ys)) ∧ Below w.heap.size w w' := by
  have HALL : Hid (BoxesAt w v xs vs ∧ BoxesAt w u ys us) := ⟨h1, h2⟩
  obtain ⟨⟨a, cap, rfl, hc1⟩, _⟩ := h1
  obtain ⟨⟨c, cap2, rfl, hc2⟩, _⟩ := h2
  obtain ⟨n, hn⟩ : ∃ n, n = xs.length := ⟨_, rfl⟩
  obtain ⟨m, hm⟩ : ∃ m, m = ys.length := ⟨_, rfl⟩
  have HN : Hid (n = xs.length) := hn
  have HM : Hid (m = ys.length) := hm
  have hl : n ≤ 1048576 := by rw [hn]; exact hs.1
  have hl2 : m ≤ 1048576 := by rw [hm]; exact hs'.1
  have HS : Hid (bx.Smalls xs ∧ bx.Smalls ys) := ⟨hs, hs'⟩
  have H1 : Hid (xs = [] ∨ ∃ b off, a = some ⟨b, off, none⟩ ∧ b < w.heap.size ∧ ∀ j, j < xs.length → At5 w b (off + j * 5) (xs.getD j noB) (vs j)) := hc1
  have H2 : Hid (ys = [] ∨ ∃ b off, c = some ⟨b, off, none⟩ ∧ b < w.heap.size ∧ ∀ j, j < ys.length → At5 w b (off + j * 5) (ys.getD j noB) (us j)) := hc2
  rw [← hn, ← hm] at HALL
  rw [← hn, ← hm]
  clear hc1 hc2 hs hs' hn hm
  by_cases hnm : ¬ n = m
  · have hnm' : ((n : Int) != (m : Int)) = true := by simp; omega
    have HR : Hid (sameS xs ys = false) := sameS_no (fun y => hnm (by have := y.1; have := HN.out; have := HM.out; omega))
    go_enter Try.func56, Try.ntmps56
    go_wp2
    go_ret
    exact ⟨mu.ret_bool HR.out.symm, Below.refl _ _⟩
  have hnm : n = m := Decidable.of_not_not hnm
  subst hnm
  have hnm' : ((n : Int) != (n : Int)) = false := by simp
  go_enter Try.func56, Try.ntmps56
  go_wp2
  go_loopw [17] (fun i wr => ∃ k : Nat, k ≤ n ∧ i = .int .i64 k ∧ (∀ j, j < k → SameB (xs.getD j noB) (ys.getD j noB)) ∧ Below w.heap.size w wr) (fun i _ => n - (intOf i).toNat)
  case atStart => exact ⟨0, Nat.zero_le _, rfl, fun j hj => absurd hj (Nat.not_lt_zero _), Below.refl _ _⟩
  case round =>
    obtain ⟨k, hk, rfl, hal, hbw⟩ := hrel
    have HAL : Hid (∀ j, j < k → SameB (xs.getD j noB) (ys.getD j noB)) := hal
    clear hal
    by_cases hlt : k < n
    · have hka : k < xs.length := by rw [← HN.out]; exact hlt
      have hkb : k < ys.length := by rw [← HM.out]; exact hlt
      rcases H1.out with e | ⟨b, off, rfl, hbl, hcells⟩
      · rw [e] at hka; simp at hka
      rcases H2.out with e | ⟨b2, off2, rfl, hbl2, hcells2⟩
      · rw [e] at hkb; simp at hkb
      have ha := (hcells k hka).keep hbw hbl
      have hb := (hcells2 k hkb).keep hbw hbl2
      have hr1 := rows_more ((boxes_in_below HALL.out.1 hbw (Nat.le_refl _)).2 k hka) hbw.size
      have hr2 := rows_more ((boxes_in_below HALL.out.2 hbw (Nat.le_refl _)).2 k hkb) hbw.size
      have hsa := HS.out.1.2 k hka
      have hsb := HS.out.2.2 k hkb
      have HNE : Hid (sameB (xs.getD k noB) (ys.getD k noB) = false → sameS xs ys = false) := fun h => sameS_no (fun y => sameB_not h (y.2 k hka))
      have HEQ : Hid (sameB (xs.getD k noB) (ys.getD k noB) = true → ∀ j, j < k + 1 → SameB (xs.getD j noB) (ys.getD j noB)) := fun h j hj => by
        by_cases e : j = k
        · rw [e]; exact sameB_of h
        · exact HAL.out j (by omega)
      clear hcells hka hcells2 hkb
      generalize xs.getD k noB = x at ha hsa hr1 HNE HEQ
      generalize ys.getD k noB = y at hb hsb hr2 HNE HEQ
      generalize vs k = q at ha hr1
      generalize us k = r at hb hr2
      obtain ⟨q1, q2⟩ := q
      obtain ⟨r1, r2⟩ := r
      obtain ⟨c0, c1, c2, c3, c4⟩ := ha
      obtain ⟨d0, d1, d2, d3, d4⟩ := hb
      simp only at c0 c1 c2 c3 c4 d0 d1 d2 d3 d4 hr1 hr2
      have HXY : Hid (bx.Small x ∧ bx.Small y) := ⟨hsa, hsb⟩
      have hlt' : (k : Int) < (n : Int) := by omega
      have hk0 : (0 : Int) ≤ (k : Int) := by omega
      have hb2 := (bx.new_below wr 41 #[.string x.nm, .int .i64 x.vd, .int .i64 x.nx, q1, q2]).alloc (by simp) (.cells #[.string y.nm, .int .i64 y.vd, .int .i64 y.nx, r1, r2] 41)
      have hd := bx.new_below wr 41 #[.string x.nm, .int .i64 x.vd, .int .i64 x.nx, q1, q2]
      have e0 := (hd.cell (p := ⟨b2, off2 + k * 5, none⟩) (World.block_lt_of_cell? wr _ d0)).trans d0
      have e1 := (hd.cell (p := ⟨b2, off2 + k * 5 + 1, none⟩) (World.block_lt_of_cell? wr _ d1)).trans d1
      have e2 := (hd.cell (p := ⟨b2, off2 + k * 5 + 2, none⟩) (World.block_lt_of_cell? wr _ d2)).trans d2
      have e3 := (hd.cell (p := ⟨b2, off2 + k * 5 + 3, none⟩) (World.block_lt_of_cell? wr _ d3)).trans d3
      have e4 := (hd.cell (p := ⟨b2, off2 + k * 5 + 4, none⟩) (World.block_lt_of_cell? wr _ d4)).trans d4
      have HR1 : Hid (RowsAt ((wr.alloc (.cells #[.string x.nm, .int .i64 x.vd, .int .i64 x.nx, q1, q2] 41)).alloc (.cells #[.string y.nm, .int .i64 y.vd, .int .i64 y.nx, r1, r2] 41)) q1 q2 x.ms x.ks) := rows_below hr1 hb2
      have HR2 : Hid (RowsAt ((wr.alloc (.cells #[.string x.nm, .int .i64 x.vd, .int .i64 x.nx, q1, q2] 41)).alloc (.cells #[.string y.nm, .int .i64 y.vd, .int .i64 y.nx, r1, r2] 41)) r1 r2 y.ms y.ks) := rows_below hr2 hb2
      have hb3 := hbw.trans (hb2.mono hbw.size)
      obtain ⟨⟨a2, cap2, rfl, _⟩, ⟨a3, cap3, rfl, _⟩⟩ := hr1
      obtain ⟨⟨a4, cap4, rfl, _⟩, ⟨a5, cap5, rfl, _⟩⟩ := hr2
      clear hsa hsb hb2 hd hbw
      go_wp2_with fail
      refine (sameBox_any x y _ _ _ _ _ HR1.out HR2.out HXY.out.1 HXY.out.2).mono ?_
      rintro e w2 ⟨rfl, hb4⟩
      have b4 := hb3.trans (hb4.mono hb3.size)
      clear hb3 hb4 HR1 HR2 c0 c1 c2 c3 c4 d0 d1 d2 d3 d4 e0 e1 e2 e3 e4
      generalize sameB x y = sb at HNE HEQ ⊢
      cases sb
      · have HR : Hid (sameS xs ys = false) := HNE.out (by trivial)
        go_wp2
        go_ret
        exact ⟨mu.ret_bool HR.out.symm, b4⟩
      · have HX : Hid (∀ j, j < k + 1 → SameB (xs.getD j noB) (ys.getD j noB)) := HEQ.out (by trivial)
        go_wp2
        go_roundw
        case rel => exact ⟨k + 1, by omega, by go_num, HX.out, b4⟩
        case measure => simp [intOf]; omega
    · have HR : Hid (sameS xs ys = true) := sameS_yes ⟨by have := HN.out; have := HM.out; omega, fun j hj => HAL.out j (by have := HN.out; omega)⟩
      go_wp2
      go_ret
      exact ⟨mu.ret_bool HR.out.symm, hbw⟩

def ssa (xs ys : List Bx) : Bool := decide (xs.length ≤ 4096 ∧ ys.length ≤ 4096) && sok xs && sok ys && sameS xs ys
def ssb (xs ys : List Bx) : Int := if xs.length ≤ 4096 ∧ ys.length ≤ 4096 then (if sok xs = true ∧ sok ys = true then 0 else 1) else 2

set_option maxHeartbeats 4000000 in
set_option maxRecDepth 100000 in
theorem impl_ss (v u : Value) (xs ys : List Bx) (vs us : Nat → Value × Value) (w : World) (h1 : BoxesAt w v xs vs) (h2 : BoxesAt w u ys us) (hs : bx.Smalls xs) (hs' : bx.Smalls ys) :
    Calls Try.prog 30 #[v, u] w fun e w' => e = .returned (.tuple #[.bool (ssa xs ys), .int .i64 (ssb xs ys)]) ∧ Below w.heap.size w w' := by
  have HA : Hid (BoxesAt w v xs vs) := h1
  have HB : Hid (BoxesAt w u ys us) := h2
  obtain ⟨⟨a, cap, rfl, _⟩, _⟩ := h1
  obtain ⟨⟨c, cap2, rfl, _⟩, _⟩ := h2
  have HS : Hid (bx.Smalls xs ∧ bx.Smalls ys) := ⟨hs, hs'⟩
  have HL : Hid (¬ (xs.length ≤ 4096 ∧ ys.length ≤ 4096) → ssa xs ys = false ∧ ssb xs ys = 2) := fun h => by simp [ssa, ssb, h]
  have HB1 : Hid (xs.length ≤ 4096 ∧ ys.length ≤ 4096 → sok xs = false → ssa xs ys = false ∧ ssb xs ys = 1) := fun h h1 => by simp [ssa, ssb, h, h1]
  have HB2 : Hid (xs.length ≤ 4096 ∧ ys.length ≤ 4096 → sok ys = false → ssa xs ys = false ∧ ssb xs ys = 1) := fun h h1 => by simp [ssa, ssb, h, h1]
  have HO : Hid (xs.length ≤ 4096 ∧ ys.length ≤ 4096 → sok xs = true → sok ys = true → ssa xs ys = sameS xs ys ∧ ssb xs ys = 0) := fun h h1 h2 => by simp [ssa, ssb, h, h1, h2]
  have hl1 := hs.1
  have hl2 := hs'.1
  clear hs hs'
  generalize ssa xs ys = RA at HL HB1 HB2 HO ⊢
  generalize ssb xs ys = RB at HL HB1 HB2 HO ⊢
  by_cases g1 : 4096 < xs.length
  · have g1' : (4096 : Int) < (xs.length : Int) := by omega
    obtain ⟨r0, r1⟩ := HL.out (by omega)
    have HR : Hid (RA = false ∧ RB = 2) := ⟨r0, r1⟩
    clear r0 r1
    go_enter Try.func30, Try.ntmps30
    go_wp2
    go_ret2
    exact ⟨by rw [HR.out.1, HR.out.2]; rfl, Below.refl _ _⟩
  have g1' : (xs.length : Int) ≤ 4096 := by omega
  by_cases g2 : 4096 < ys.length
  · have g2' : (4096 : Int) < (ys.length : Int) := by omega
    obtain ⟨r0, r1⟩ := HL.out (by omega)
    have HR : Hid (RA = false ∧ RB = 2) := ⟨r0, r1⟩
    clear r0 r1
    go_enter Try.func30, Try.ntmps30
    go_wp2
    go_ret2
    exact ⟨by rw [HR.out.1, HR.out.2]; rfl, Below.refl _ _⟩
  have g2' : (ys.length : Int) ≤ 4096 := by omega
  have HLL : Hid (xs.length ≤ 4096 ∧ ys.length ≤ 4096) := ⟨by omega, by omega⟩
  go_enter Try.func30, Try.ntmps30
  go_wp2_with fail
  refine (impl_sok _ xs vs w HA.out HS.out.1).mono ?_
  rintro e w1 ⟨rfl, b1⟩
  have HA1 : Hid (BoxesAt w1 (.slice a xs.length cap) xs vs) := boxes_below HA.out b1
  have HB1' : Hid (BoxesAt w1 (.slice c ys.length cap2) ys us) := boxes_below HB.out b1
  clear HA HB
  generalize sok xs = sx at HB1 HO ⊢
  cases sx
  · obtain ⟨r0, r1⟩ := HB1.out HLL.out (by trivial)
    have HR : Hid (RA = false ∧ RB = 1) := ⟨r0, r1⟩
    clear r0 r1
    go_wp2
    go_ret2
    exact ⟨by rw [HR.out.1, HR.out.2]; rfl, b1⟩
  go_wp2_with fail
  refine (impl_sok _ ys us w1 HB1'.out HS.out.2).mono ?_
  rintro e w2 ⟨rfl, hb2⟩
  have HA2 : Hid (BoxesAt w2 (.slice a xs.length cap) xs vs) := boxes_below HA1.out hb2
  have HB2' : Hid (BoxesAt w2 (.slice c ys.length cap2) ys us) := boxes_below HB1'.out hb2
  have b2 := b1.trans (hb2.mono b1.size)
  clear HA1 HB1' b1 hb2
  generalize sok ys = sy at HB2 HO ⊢
  cases sy
  · obtain ⟨r0, r1⟩ := HB2.out HLL.out (by trivial)
    have HR : Hid (RA = false ∧ RB = 1) := ⟨r0, r1⟩
    clear r0 r1
    go_wp2
    go_ret2
    exact ⟨by rw [HR.out.1, HR.out.2]; rfl, b2⟩
  obtain ⟨r0, r1⟩ := HO.out HLL.out (by trivial) (by trivial)
  have HR : Hid (RA = sameS xs ys ∧ RB = 0) := ⟨r0, r1⟩
  clear r0 r1
  go_wp2_with fail
  refine (equalS_any _ _ xs ys vs us w2 HA2.out HB2'.out HS.out.1 HS.out.2).mono ?_
  rintro e w3 ⟨rfl, hb3⟩
  have b3 := b2.trans (hb3.mono b2.size)
  clear HA2 HB2' b2 hb3
  go_wp2
  go_ret2
  exact ⟨by rw [HR.out.1, HR.out.2]; rfl, b3⟩
end Go.Proofs.Ytbhjinhedbgmnaa.sm
