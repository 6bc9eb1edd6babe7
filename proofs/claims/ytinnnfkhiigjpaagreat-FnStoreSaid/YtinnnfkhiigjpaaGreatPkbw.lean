/-
  The specification's ApplyMutation, as a whole.
  The program's ApplyMutation, as a whole.
  Two boxes are held against each other, and rows of boxes: the program's own way.
  Rows of boxes are held against each other: the program's own way; its SameStore.
-/
import Derived.Test.YtinnnfkhiigjpaaGreatPkaw
import Derived.Test.YtinnnfkhiigjpaaGreatPkak
import Derived.Test.YtinnnfkhiigjpaaGreatPkbv
import Derived.Test.YtinnnfkhiigjpaaGreatPkad
import Derived.Test.YtinnnfkhiigjpaaGreatPkai

namespace Go.Proofs.YtinnnfkhiigjpaaGreat.sa
open Go.ChangeShapes Go.WideShapes Go.ChangeAt Go.RowKit Go.Deep Go.Joins
open st gr bx mx bl wi
set_option linter.unusedVariables false

/-- What ApplyMutation comes to. -/
def Ap (xs : List Bx) (m : mu.Mu) (ys : List Bx) (c : Int) : Prop :=
  (4096 < xs.length ∧ ys = [] ∧ c = 2) ∨ (xs.length ≤ 4096 ∧ ¬ (sok xs = true ∧ mu.mok m = true) ∧ ys = [] ∧ c = 1) ∨ (xs.length ≤ 4096 ∧ (sok xs = true ∧ mu.mok m = true) ∧ Am xs m ys c)
theorem ap_one {xs : List Bx} {m : mu.Mu} {ys ys' : List Bx} {c c' : Int} (h : Ap xs m ys c) (h' : Ap xs m ys' c') : ys = ys' ∧ c = c' := by
  rcases h with ⟨h1, e1, e2⟩ | ⟨h1, h2, e1, e2⟩ | ⟨h1, h2, h3⟩
  · rcases h' with ⟨_, e1', e2'⟩ | ⟨h1', _⟩ | ⟨h1', _⟩
    · rw [e1, e1', e2, e2']; exact ⟨rfl, rfl⟩
    · omega
    · omega
  · rcases h' with ⟨h1', _⟩ | ⟨_, _, e1', e2'⟩ | ⟨_, h2', _⟩
    · omega
    · rw [e1, e1', e2, e2']; exact ⟨rfl, rfl⟩
    · exact absurd h2' h2
  · rcases h' with ⟨h1', _⟩ | ⟨_, h2', _⟩ | ⟨_, _, h3'⟩
    · omega
    · exact absurd h2 h2'
    · exact am_one (fun k hk => (sok_box h2.1 hk).2.2.2.1) h3 h3'
def ApRet (xs : List Bx) (m : mu.Mu) (base : Nat) (e : Ending) (w : World) : Prop := ∃ L ys us c, e = .returned (.tuple #[L, .int .i64 c]) ∧ Ap xs m ys c ∧ OwnL w base L ys us
theorem own_none (w : World) (base : Nat) (us : Nat → Value × Value) (h : base ≤ w.heap.size) : OwnL (w.alloc (.cells #[] 38)) base (.slice (some ⟨w.heap.size, 0, none⟩) 0 0) [] us :=
  ⟨World.ownsRow_made w #[] 0 h (Nat.zero_le _) rfl, fun j hj => absurd hj (Nat.not_lt_zero _), fun i j _ hj => absurd hj (Nat.not_lt_zero _)⟩
set_option maxHeartbeats 4000000 in
set_option maxRecDepth 100000 in
theorem spec_am (v : Value) (xs : List Bx) (vs : Nat → Value × Value) (m : mu.Mu) (iv : Value) (w : World) (h : BoxesAt w v xs vs) (hf : Fines xs vs) (hs : bx.Smalls xs) (hc : sm.Caps v xs vs) (hi : it.AttrsAt w iv m.ps) (hm : mu.Small m) :
    Calls Tryz.prog 6 #[v, mu.MV m iv] w fun e w' => ApRet xs m w.heap.size e w' ∧ Below w.heap.size w w' := by
  have HA : Hid (∀ W, Below w.heap.size w W → BoxesAt W v xs vs ∧ it.AttrsAt W iv m.ps) := fun W hW => ⟨boxes_below h hW, it.at_below hi hW⟩
  have HS : Hid (bx.Smalls xs ∧ Fines xs vs ∧ sm.Caps v xs vs ∧ mu.Small m) := ⟨hs, hf, hc, hm⟩
  obtain ⟨⟨a, cap, rfl, hd1⟩, hd2⟩ := h
  obtain ⟨ia, ic, rfl, hd3⟩ := hi
  clear hd1 hd2 hd3
  have hl := hs.1
  obtain ⟨W, hW⟩ : ∃ W, W = w.alloc (.cells #[.int .i64 m.k, .int .i64 m.u, .int .i64 m.m, .int .i64 m.f, .string m.b, .slice ia m.ps.length ic] 30) := ⟨_, rfl⟩
  have b1 : Below w.heap.size w W := by rw [hW]; exact bx.new_below w _ _
  have k1 : mu.Lies W w.heap.size 30 m (.slice ia m.ps.length ic) := by rw [hW]; exact mu.lies_new _ _ _ _
  have E0 : Hid (∀ X c, Below w.heap.size w X → Ap xs m [] c → ApRet xs m w.heap.size (.returned (.tuple #[.slice (some ⟨X.heap.size, 0, none⟩) 0 0, .int .i64 c])) (X.alloc (.cells #[] 38)) ∧ Below w.heap.size w (X.alloc (.cells #[] 38))) := fun X c hX hA => ⟨⟨_, [], fun _ => (.slice none 0 0, .slice none 0 0), c, rfl, hA, own_none X _ _ hX.size⟩, hX.alloc hX.size _⟩
  have BW : Hid (Below w.heap.size w W ∧ mu.Lies W w.heap.size 30 m (.slice ia m.ps.length ic)) := ⟨b1, k1⟩
  clear b1 k1 hs hf hc hm
  by_cases g1 : 4096 < xs.length
  · have g1' : (4096 : Int) < (xs.length : Int) := by omega
    have HX : Hid (Ap xs m [] 2) := .inl ⟨g1, rfl, rfl⟩
    unfold mu.MV
    go_enter Tryz.func6, Tryz.ntmps6
    go_wp2
    go_ret2
    have hh := E0.out _ _ BW.out.1 HX.out
    have e1 : W.heap.size = w.heap.size + 1 := by rw [hW]; simp
    rw [e1, hW] at hh
    exact hh
  have g1' : (xs.length : Int) ≤ 4096 := by omega
  have g1n : ¬ (4096 : Int) < (xs.length : Int) := by omega
  by_cases g2 : sok xs = true
  · have HCO : Hid (Calls Tryz.prog 22 #[.slice a xs.length cap] W fun e w' => e = .returned (.int .i64 0) ∧ Below W.heap.size W w') := by
      have hh := sm.code_any (.slice a xs.length cap) xs vs W (HA.out W BW.out.1).1 HS.out.1 HS.out.2.2.1
      rw [show sm.cod xs = 0 by simp [sm.cod, g2]; omega] at hh
      exact hh
    have HMO : Hid (∀ X, Below w.heap.size w X → Calls Tryz.prog 23 #[.agg #[.int .i64 m.k, .int .i64 m.u, .int .i64 m.m, .int .i64 m.f, .string m.b, .slice ia m.ps.length ic]] X fun e w' => e = .returned (.bool (mu.mok m)) ∧ Below X.heap.size X w') := fun X hX => mu.spec_mok m _ X (HA.out X hX).2 HS.out.2.2.2
    unfold mu.MV
    go_enter Tryz.func6, Tryz.ntmps6
    go_wp2_with (rw [← hW])
    refine HCO.out.mono ?_
    rintro e w1 ⟨rfl, hb1⟩
    have HB1 : Hid (Below w.heap.size w w1) := BW.out.1.trans (hb1.mono BW.out.1.size)
    have hL1 := BW.out.2.keep hb1
    have c0 := hL1.c0
    have c1 := hL1.c1
    have c2 := hL1.c2
    have c3 := hL1.c3
    have c4 := hL1.c4
    have c5 := hL1.c5
    have HL1 : Hid (mu.Lies w1 w.heap.size 30 m (.slice ia m.ps.length ic)) := hL1
    clear HCO hb1 hL1 hW
    go_wp2_with fail
    refine (HMO.out _ HB1.out).mono ?_
    rintro e w2 ⟨rfl, hb2⟩
    have HB2 : Hid (Below w.heap.size w w2) := HB1.out.trans (hb2.mono HB1.out.size)
    have hL2 := HL1.out.keep hb2
    clear c0 c1 c2 c3 c4 c5
    have c0 := hL2.c0
    have c1 := hL2.c1
    have c2 := hL2.c2
    have c3 := hL2.c3
    have c4 := hL2.c4
    have c5 := hL2.c5
    clear HMO hb2 hL2 HL1 HB1 BW
    cases g3 : mu.mok m
    · have HX : Hid (Ap xs m [] 1) := .inr (.inl ⟨by omega, fun hh => by rw [g3] at hh; exact absurd hh.2 (by decide), rfl, rfl⟩)
      clear g3
      go_wp2
      go_ret2
      exact E0.out _ _ HB2.out HX.out
    · have HAP : Hid (Calls Tryz.prog 24 #[.slice a xs.length cap, .agg #[.int .i64 m.k, .int .i64 m.u, .int .i64 m.m, .int .i64 m.f, .string m.b, .slice ia m.ps.length ic]] w2 fun e w' => Ls (Am xs m) e w' ∧ Below w2.heap.size w2 w') := apply_any _ xs vs m _ w2 (HA.out w2 HB2.out).1 HS.out.2.1 HS.out.1 (HA.out w2 HB2.out).2 HS.out.2.2.2 g2 g3
      have HG : Hid (sok xs = true ∧ mu.mok m = true) := ⟨g2, g3⟩
      clear g3 g2
      go_wp2_with fail
      refine HAP.out.mono ?_
      rintro e w3 ⟨⟨L', ys, us, c, rfl, hAm, hB, hF⟩, hb3⟩
      have HB3 : Hid (Below w.heap.size w w3) := HB2.out.trans (hb3.mono HB2.out.size)
      have HOW : Hid (Calls Tryz.prog 25 #[L'] w3 fun e w' => (∃ L us, e = .returned L ∧ OwnL w' w3.heap.size L ys us) ∧ Below w3.heap.size w3 w') := spec_own L' ys us w3 hB hF (am_small HS.out.1 HS.out.2.2.2 HG.out.1 HG.out.2 hAm)
      have HX : Hid (Ap xs m ys c) := .inr (.inr ⟨by omega, HG.out, hAm⟩)
      obtain ⟨⟨La, Lc, rfl, hd1⟩, hd2⟩ := hB
      clear hAm hd1 hd2 hF hb3 HAP c0 c1 c2 c3 c4 c5
      go_wp2_with fail
      refine HOW.out.mono ?_
      rintro e w4 ⟨⟨L4, us4, rfl, hO⟩, hb4⟩
      have HQ : Hid (ApRet xs m w.heap.size (.returned (.tuple #[L4, .int .i64 c])) w4 ∧ Below w.heap.size w w4) := ⟨⟨L4, ys, us4, c, rfl, HX.out, ownL_le hO HB3.out.size⟩, HB3.out.trans (hb4.mono HB3.out.size)⟩
      obtain ⟨Ma, Mn, Mc, rfl⟩ := slice_fine (own_fine hO.1)
      clear hO hb4 HOW HX
      go_wp2
      go_ret2
      exact HQ.out
  · have HCO : Hid (Calls Tryz.prog 22 #[.slice a xs.length cap] W fun e w' => e = .returned (.int .i64 1) ∧ Below W.heap.size W w') := by
      have hh := sm.code_any (.slice a xs.length cap) xs vs W (HA.out W BW.out.1).1 HS.out.1 HS.out.2.2.1
      rw [show sm.cod xs = 1 by simp [sm.cod, g2]; omega] at hh
      exact hh
    have HX : Hid (Ap xs m [] 1) := .inr (.inl ⟨by omega, fun hh => g2 hh.1, rfl, rfl⟩)
    unfold mu.MV
    go_enter Tryz.func6, Tryz.ntmps6
    go_wp2_with (rw [← hW])
    refine HCO.out.mono ?_
    rintro e w1 ⟨rfl, hb1⟩
    have HB1 : Hid (Below w.heap.size w w1) := BW.out.1.trans (hb1.mono BW.out.1.size)
    clear HCO hb1 hW BW
    go_wp2
    go_ret2
    exact E0.out _ _ HB1.out HX.out
end Go.Proofs.YtinnnfkhiigjpaaGreat.sa

namespace Go.Proofs.YtinnnfkhiigjpaaGreat.sa
open Go.ChangeShapes Go.WideShapes Go.ChangeAt Go.RowKit Go.Deep Go.Joins
open st gr bx mx bl wi
set_option linter.unusedVariables false

theorem own_nil (w : World) (base : Nat) (us : Nat → Value × Value) : OwnL w base (.slice none 0 0) [] us :=
  ⟨World.ownsRow_nil _ _ _ _, fun j hj => absurd hj (Nat.not_lt_zero _), fun i j _ hj => absurd hj (Nat.not_lt_zero _)⟩
set_option maxHeartbeats 4000000 in
set_option maxRecDepth 100000 in
theorem impl_am (v : Value) (xs : List Bx) (vs : Nat → Value × Value) (m : mu.Mu) (iv : Value) (w : World) (h : BoxesAt w v xs vs) (hv : Fine v) (hf : Fines xs vs) (hs : bx.Smalls xs) (hi : it.AttrsAt w iv m.ps) (hm : mu.Small m) :
    Calls Tryz.prog 5 #[v, mu.MV m iv] w fun e w' => ApRet xs m w.heap.size e w' ∧ Below w.heap.size w w' := by
  have HA : Hid (∀ W, Below w.heap.size w W → BoxesAt W v xs vs ∧ it.AttrsAt W iv m.ps) := fun W hW => ⟨boxes_below h hW, it.at_below hi hW⟩
  have HS : Hid (bx.Smalls xs ∧ Fines xs vs ∧ Fine v ∧ mu.Small m) := ⟨hs, hf, hv, hm⟩
  have HI : Hid (ItemsIn w w.heap.size iv m.ps) := items_of hi
  obtain ⟨⟨a, cap, rfl, hd1⟩, hd2⟩ := h
  obtain ⟨ia, ic, rfl, hd3⟩ := hi
  clear hd1 hd2 hd3
  have hl := hs.1
  obtain ⟨W, hW⟩ : ∃ W, W = w.alloc (.cells #[.int .i64 m.k, .int .i64 m.u, .int .i64 m.m, .int .i64 m.f, .string m.b, .slice ia m.ps.length ic] 30) := ⟨_, rfl⟩
  have b1 : Below w.heap.size w W := by rw [hW]; exact bx.new_below w _ _
  have k1 : mu.Lies W w.heap.size 30 m (.slice ia m.ps.length ic) := by rw [hW]; exact mu.lies_new _ _ _ _
  have E0 : Hid (∀ X c, Below w.heap.size w X → Ap xs m [] c → ApRet xs m w.heap.size (.returned (.tuple #[.slice none 0 0, .int .i64 c])) X ∧ Below w.heap.size w X) := fun X c hX hA => ⟨⟨_, [], fun _ => (.slice none 0 0, .slice none 0 0), c, rfl, hA, own_nil X _ _⟩, hX⟩
  have BW : Hid (Below w.heap.size w W ∧ mu.Lies W w.heap.size 30 m (.slice ia m.ps.length ic)) := ⟨b1, k1⟩
  clear b1 k1 hs hf hv hm
  by_cases g1 : 4096 < xs.length
  · have g1' : (4096 : Int) < (xs.length : Int) := by omega
    have HX : Hid (Ap xs m [] 2) := .inl ⟨g1, rfl, rfl⟩
    unfold mu.MV
    go_enter Tryz.func5, Tryz.ntmps5
    go_wp2
    go_ret2
    have hh := E0.out _ _ BW.out.1 HX.out
    rw [hW] at hh
    exact hh
  have g1' : (xs.length : Int) ≤ 4096 := by omega
  have g1n : ¬ (4096 : Int) < (xs.length : Int) := by omega
  have HCO : Hid (Calls Tryz.prog 8 #[.slice a xs.length cap] W fun e w' => e = .returned (.bool (sok xs)) ∧ Below W.heap.size W w') := impl_sok _ xs vs W (HA.out W BW.out.1).1 HS.out.1
  have HMO : Hid (∀ X, Below w.heap.size w X → Calls Tryz.prog 19 #[.agg #[.int .i64 m.k, .int .i64 m.u, .int .i64 m.m, .int .i64 m.f, .string m.b, .slice ia m.ps.length ic]] X fun e w' => e = .returned (.bool (mu.mok m)) ∧ Below X.heap.size X w') := fun X hX => mu.impl_mok m _ X (HA.out X hX).2 HS.out.2.2.2
  unfold mu.MV
  go_enter Tryz.func5, Tryz.ntmps5
  go_wp2_with (rw [← hW])
  refine HCO.out.mono ?_
  rintro e w1 ⟨rfl, hb1⟩
  have HB1 : Hid (Below w.heap.size w w1) := BW.out.1.trans (hb1.mono BW.out.1.size)
  have hL1 := BW.out.2.keep hb1
  have c0 := hL1.c0
  have c1 := hL1.c1
  have c2 := hL1.c2
  have c3 := hL1.c3
  have c4 := hL1.c4
  have c5 := hL1.c5
  have HL1 : Hid (mu.Lies w1 w.heap.size 30 m (.slice ia m.ps.length ic)) := hL1
  clear HCO hb1 hL1 hW
  cases g2 : sok xs
  · have HX : Hid (Ap xs m [] 1) := .inr (.inl ⟨by omega, fun hh => by rw [g2] at hh; exact absurd hh.1 (by decide), rfl, rfl⟩)
    clear g2 c0 c1 c2 c3 c4 c5
    go_wp2
    go_ret2
    exact E0.out _ _ HB1.out HX.out
  · go_wp2_with fail
    refine (HMO.out _ HB1.out).mono ?_
    rintro e w2 ⟨rfl, hb2⟩
    have HB2 : Hid (Below w.heap.size w w2) := HB1.out.trans (hb2.mono HB1.out.size)
    have hL2 := HL1.out.keep hb2
    clear c0 c1 c2 c3 c4 c5
    have c0 := hL2.c0
    have c1 := hL2.c1
    have c2 := hL2.c2
    have c3 := hL2.c3
    have c4 := hL2.c4
    have c5 := hL2.c5
    have HL2 : Hid (mu.Lies w2 w.heap.size 30 m (.slice ia m.ps.length ic)) := hL2
    clear HMO hb2 hL2 HL1 HB1 BW
    cases g3 : mu.mok m
    · have HX : Hid (Ap xs m [] 1) := .inr (.inl ⟨by omega, fun hh => by rw [g3] at hh; exact absurd hh.2 (by decide), rfl, rfl⟩)
      clear g3 c0 c1 c2 c3 c4 c5
      go_wp2
      go_ret2
      exact E0.out _ _ HB2.out HX.out
    · have HCP : Hid (∀ X, Below w2.heap.size w2 X → Calls Tryz.prog 21 #[.slice a xs.length cap] X fun e w' => (∃ L us, e = .returned L ∧ Hid (OwnL w' w.heap.size L xs us)) ∧ Below w2.heap.size w2 w') := fun X hX => (copied_all _ xs vs X (HA.out X (HB2.out.trans (hX.mono HB2.out.size))).1 HS.out.2.2.1 HS.out.2.1 HS.out.1).mono (by
          rintro e w' ⟨⟨L, us, e1, h1⟩, h2⟩
          exact ⟨⟨L, us, e1, ownL_le h1 (Nat.le_trans HB2.out.size hX.size)⟩, hX.trans (h2.mono hX.size)⟩)
      have HMU : Hid (∀ X L us, Below w.heap.size w X → OwnL X w.heap.size L xs us → Calls Tryz.prog 20 #[L, .agg #[.int .i64 m.k, .int .i64 m.u, .int .i64 m.m, .int .i64 m.f, .string m.b, .slice ia m.ps.length ic]] X fun e w' => ApRet xs m w.heap.size e w' ∧ Below w.heap.size w w') := fun X L us hX hO => (mutated_any L w.heap.size xs us m _ X hO hX.size HS.out.1 (by_in (items_below HI.out hX (Nat.le_refl _))) HS.out.2.2.2 g2 g3).mono (by
          rintro e w' ⟨⟨L', ys, us', c, e1, hAm, ho⟩, hb⟩
          exact ⟨⟨L', ys, us', c, e1, .inr (.inr ⟨by omega, ⟨g2, g3⟩, hAm⟩), ho⟩, hX.trans (hb.mono (Nat.le_refl _))⟩)
      clear g3
      go_upto_region 5 with fail
      have hdr : Below w2.heap.size w2 w2.drew := (Below.refl _ _).drew
      have HDR : Hid (Below w.heap.size w w2.drew) := HB2.out.drew
      go_region_with (first
        | (go_at_call 21; refine (HCP.out _ hdr).mono ?_; rintro e w3 ⟨⟨L, us, rfl, hO⟩, hb3⟩; have HB3 : Hid (Below w.heap.size w w3) := HB2.out.trans (hb3.mono HB2.out.size); have hL3 := HL2.out.keep hb3; have x0 := hL3.c0; have x1 := hL3.c1; have x2 := hL3.c2; have x3 := hL3.c3; have x4 := hL3.c4; have x5 := hL3.c5; clear hL3)
        | (go_at_call 20; refine (HMU.out _ _ _ HB3.out hO.out).mono ?_; rintro e w4 ⟨⟨L4, ys, us4, c, rfl, hAp, hO4⟩, hb4⟩; obtain ⟨Ma, Mn, Mc, rfl⟩ := slice_fine (own_fine hO4.1); have HQ : Hid (ApRet xs m w.heap.size (.returned (.tuple #[.slice Ma Mn Mc, .int .i64 c])) w4 ∧ Below w.heap.size w w4) := ⟨⟨_, ys, us4, c, rfl, hAp, hO4⟩, hb4⟩; clear hAp hO4 hb4))
      all_goals
        clear HCP HMU hdr HDR
        go_simp
        go_wp2
        go_ret2
        exact HQ.out
end Go.Proofs.YtinnnfkhiigjpaaGreat.sa

namespace Go.Proofs.YtinnnfkhiigjpaaGreat.sm
open Go.RowKit Go.WideShapes
open st
set_option linter.unusedVariables false

/-- Rows of texts are the same. -/
def SameT (ms ms' : List ByteArray) : Prop := ms.length = ms'.length ∧ ∀ j, j < ms.length → ms.getD j ky.nt = ms'.getD j ky.nt
def dSameTs (ms ms' : List ByteArray) (k : Nat) : Decidable (∀ j, j < k → ms.getD j ky.nt = ms'.getD j ky.nt) := @Nat.decidableBallLT k (fun j _ => ms.getD j ky.nt = ms'.getD j ky.nt) (fun j _ => ow.decB _ _)
def dSameT (ms ms' : List ByteArray) : Decidable (SameT ms ms') := @instDecidableAnd _ _ _ (dSameTs ms ms' ms.length)
def sameT (ms ms' : List ByteArray) : Bool := @decide (SameT ms ms') (dSameT ms ms')
theorem sameT_no {ms ms' : List ByteArray} (h : ¬ SameT ms ms') : sameT ms ms' = false := ow.df h
theorem sameT_yes {ms ms' : List ByteArray} (h : SameT ms ms') : sameT ms ms' = true := ow.dt h

set_option maxHeartbeats 2000000 in
set_option maxRecDepth 100000 in
theorem equalT_any (N M : Nat) (v u : Value) (ms ms' : List ByteArray) (w : World) (h1 : tx.TextsIn w N v ms) (h2 : tx.TextsIn w M u ms') (hs : tx.Smalls ms) (hs' : tx.Smalls ms') :
    Calls Tryz.prog 57 #[v, u] w fun e w' => e = .returned (.bool (sameT ms ms')) ∧ Below w.heap.size w w' := by
  obtain ⟨a, cap, rfl, h1⟩ := h1
  obtain ⟨c, cap2, rfl, h2⟩ := h2
  obtain ⟨n, hn⟩ : ∃ n, n = ms.length := ⟨_, rfl⟩
  obtain ⟨m, hm⟩ : ∃ m, m = ms'.length := ⟨_, rfl⟩
  have HN : Hid (n = ms.length) := hn
  have HM : Hid (m = ms'.length) := hm
  have hl : n ≤ 1048576 := by rw [hn]; exact hs.1
  have hl2 : m ≤ 1048576 := by rw [hm]; exact hs'.1
  have HS : Hid (tx.Smalls ms ∧ tx.Smalls ms') := ⟨hs, hs'⟩
  have H1 : Hid (ms = [] ∨ ∃ b off, a = some ⟨b, off, none⟩ ∧ b < N ∧ ∀ j, j < ms.length → w.cell? ⟨b, off + j, none⟩ = some (.string (ms.getD j ky.nt))) := h1
  have H2 : Hid (ms' = [] ∨ ∃ b off, c = some ⟨b, off, none⟩ ∧ b < M ∧ ∀ j, j < ms'.length → w.cell? ⟨b, off + j, none⟩ = some (.string (ms'.getD j ky.nt))) := h2
  rw [← hn, ← hm]
  clear h1 h2 hs hs' hn hm
  by_cases hnm : ¬ n = m
  · have hnm' : ((n : Int) != (m : Int)) = true := by simp; omega
    have HR : Hid (sameT ms ms' = false) := sameT_no (fun y => hnm (by have := y.1; have := HN.out; have := HM.out; omega))
    go_enter Tryz.func57, Tryz.ntmps57
    go_wp2
    go_ret
    exact ⟨mu.ret_bool HR.out.symm, Below.refl _ _⟩
  have hnm : n = m := Decidable.of_not_not hnm
  subst hnm
  have hnm' : ((n : Int) != (n : Int)) = false := by simp
  go_enter Tryz.func57, Tryz.ntmps57
  go_wp2
  go_loopw [13] (fun i wr => ∃ k : Nat, k ≤ n ∧ i = .int .i64 k ∧ (∀ j, j < k → ms.getD j ky.nt = ms'.getD j ky.nt) ∧ Below w.heap.size w wr) (fun i _ => n - (intOf i).toNat)
  case atStart => exact ⟨0, Nat.zero_le _, rfl, fun j hj => absurd hj (Nat.not_lt_zero _), Below.refl _ _⟩
  case round =>
    obtain ⟨k, hk, rfl, hal, hbw⟩ := hrel
    have HAL : Hid (∀ j, j < k → ms.getD j ky.nt = ms'.getD j ky.nt) := hal
    clear hal
    by_cases hlt : k < n
    · have hka : k < ms.length := by rw [← HN.out]; exact hlt
      have hkb : k < ms'.length := by rw [← HM.out]; exact hlt
      rcases H1.out with e | ⟨b, off, rfl, hbN, hcells⟩
      · rw [e] at hka; simp at hka
      rcases H2.out with e | ⟨b2, off2, rfl, hbM, hcells2⟩
      · rw [e] at hkb; simp at hkb
      have c0 := (hbw.cell (p := ⟨b, off + k, none⟩) (World.block_lt_of_cell? w _ (hcells k hka))).trans (hcells k hka)
      have d0 := (hbw.cell (p := ⟨b2, off2 + k, none⟩) (World.block_lt_of_cell? w _ (hcells2 k hkb))).trans (hcells2 k hkb)
      have HNE : Hid (¬ ms.getD k ky.nt = ms'.getD k ky.nt → sameT ms ms' = false) := fun h => sameT_no (fun y => h (y.2 k hka))
      have HEQ : Hid (ms.getD k ky.nt = ms'.getD k ky.nt → ∀ j, j < k + 1 → ms.getD j ky.nt = ms'.getD j ky.nt) := fun h j hj => by
        by_cases e : j = k
        · rw [e]; exact h
        · exact HAL.out j (by omega)
      clear hcells hka hcells2 hkb
      generalize ms.getD k ky.nt = x at c0 HNE HEQ
      generalize ms'.getD k ky.nt = y at d0 HNE HEQ
      have hlt' : (k : Int) < (n : Int) := by omega
      have hk0 : (0 : Int) ≤ (k : Int) := by omega
      by_cases hxy : x = y
      · have HX : Hid (∀ j, j < k + 1 → ms.getD j ky.nt = ms'.getD j ky.nt) := HEQ.out hxy
        have hx' : (x.toList == y.toList) = true := by rw [hxy]; simp
        clear hxy HNE HEQ
        go_wp2_with fail
        go_quiet (fail)
        have b3 := bel_drewN hbw nq
        clear c0 d0 hbw
        go_wp2
        go_roundw
        case rel => exact ⟨k + 1, by omega, by go_num, HX.out, b3⟩
        case measure => simp [intOf]; omega
      · have HR : Hid (sameT ms ms' = false) := HNE.out hxy
        have hx' : (x.toList == y.toList) = false := ky.ne_list hxy
        clear hxy HNE HEQ
        go_wp2_with fail
        go_quiet (fail)
        have b3 := bel_drewN hbw nq
        clear c0 d0 hbw
        go_wp2
        go_ret
        exact ⟨mu.ret_bool HR.out.symm, b3⟩
    · have HR : Hid (sameT ms ms' = true) := sameT_yes ⟨by have := HN.out; have := HM.out; omega, fun j hj => HAL.out j (by have := HN.out; omega)⟩
      go_wp2
      go_ret
      exact ⟨mu.ret_bool HR.out.symm, hbw⟩

open bx
/-- Boxes are the same. -/
def SameB (x y : Bx) : Prop := x.nm = y.nm ∧ x.vd = y.vd ∧ x.nx = y.nx ∧ SameM x.ms y.ms ∧ SameT x.ks y.ks
def dSameB (x y : Bx) : Decidable (SameB x y) := @instDecidableAnd _ _ (ow.decB _ _) (@instDecidableAnd _ _ _ (@instDecidableAnd _ _ _ (@instDecidableAnd _ _ (dSameM x.ms y.ms) (dSameT x.ks y.ks))))
def sameB (x y : Bx) : Bool := @decide (SameB x y) (dSameB x y)
theorem sameB_no {x y : Bx} (h : ¬ SameB x y) : sameB x y = false := ow.df h
theorem sameB_is {x y : Bx} (h1 : x.nm = y.nm) (h2 : x.vd = y.vd) (h3 : x.nx = y.nx) (h4 : sameM x.ms y.ms = true) : sameB x y = sameT x.ks y.ks := by
  have h4' : SameM x.ms y.ms := ow.dof h4
  rw [Bool.eq_iff_iff]
  constructor
  · intro h
    have h' : SameB x y := ow.dof h
    exact sameT_yes h'.2.2.2.2
  · intro h
    have h' : SameT x.ks y.ks := ow.dof h
    exact ow.dt ⟨h1, h2, h3, h4', h'⟩
theorem sameM_of {ms ms' : List St} (h : sameM ms ms' = false) : ¬ SameM ms ms' := fun y => by rw [sameM_yes y] at h; cases h

set_option maxHeartbeats 4000000 in
set_option maxRecDepth 100000 in
theorem sameBox_any (x y : Bx) (v u v' u' : Value) (w : World) (h1 : RowsAt w v u x.ms x.ks) (h2 : RowsAt w v' u' y.ms y.ks) (hx : bx.Small x) (hy : bx.Small y) :
    Calls Tryz.prog 27 #[BV x v u, BV y v' u'] w fun e w' => e = .returned (.bool (sameB x y)) ∧ Below w.heap.size w w' := by
  have hbw := (bx.new_below w 38 #[.string x.nm, .int .i64 x.vd, .int .i64 x.nx, v, u]).alloc (by simp) (.cells #[.string y.nm, .int .i64 y.vd, .int .i64 y.nx, v', u'] 38)
  have L0 := (lies_new w 38 x v u).keep (bx.new_below _ 38 #[.string y.nm, .int .i64 y.vd, .int .i64 y.nx, v', u'])
  have M0 := lies_new (w.alloc (.cells #[.string x.nm, .int .i64 x.vd, .int .i64 x.nx, v, u] 38)) 38 y v' u'
  have HA := rows_below h1 hbw
  have HB := rows_below h2 hbw
  obtain ⟨⟨a, cap, rfl, _⟩, ⟨a1, cap1, rfl, _⟩⟩ := h1
  obtain ⟨⟨a', cap', rfl, _⟩, ⟨a1', cap1', rfl, _⟩⟩ := h2
  have HX : Hid (bx.Small x ∧ bx.Small y) := ⟨hx, hy⟩
  have HF : Hid (¬ (x.nm = y.nm ∧ x.vd = y.vd ∧ x.nx = y.nx ∧ SameM x.ms y.ms) → sameB x y = false) := fun h => sameB_no fun z => h ⟨z.1, z.2.1, z.2.2.1, z.2.2.2.1⟩
  have HT : Hid (x.nm = y.nm → x.vd = y.vd → x.nx = y.nx → sameM x.ms y.ms = true → sameB x y = sameT x.ks y.ks) := sameB_is
  obtain ⟨nm, vd, nx, ms, ks⟩ := x
  obtain ⟨nm', vd', nx', ms', ks'⟩ := y
  unfold BV
  simp only at hbw L0 M0 HA HB HX HF HT ⊢
  clear hx hy
  rw [show (w.alloc (.cells #[.string nm, .int .i64 vd, .int .i64 nx, .slice a ms.length cap, .slice a1 ks.length cap1] 38)).heap.size = w.heap.size + 1 by simp] at M0
  generalize sameB ⟨nm, vd, nx, ms, ks⟩ ⟨nm', vd', nx', ms', ks'⟩ = R at HF HT ⊢
  by_cases q0 : ¬ nm = nm'
  · have q0' : (nm.toList == nm'.toList) = false := ky.ne_list q0
    have HZ : Hid (R = false) := HF.out fun z => q0 z.1
    clear q0
    go_enter Tryz.func27, Tryz.ntmps27
    go_wp2
    go_ret
    exact ⟨mu.ret_bool HZ.out.symm, hbw⟩
  have q0 : nm = nm' := Classical.not_not.1 q0
  have q0' : (nm.toList == nm'.toList) = true := by rw [q0]; simp
  have HQ0 : Hid (nm = nm') := q0
  clear q0
  by_cases q1 : ¬ vd = vd'
  · have q1' : (vd == vd') = false := by simp [q1]
    have HZ : Hid (R = false) := HF.out fun z => q1 z.2.1
    clear q1
    go_enter Tryz.func27, Tryz.ntmps27
    go_wp2
    go_ret
    exact ⟨mu.ret_bool HZ.out.symm, hbw⟩
  have q1 : vd = vd' := Decidable.of_not_not q1
  have q1' : (vd == vd') = true := by simp [q1]
  have HQ1 : Hid (vd = vd') := q1
  clear q1
  by_cases q2 : ¬ nx = nx'
  · have q2' : (nx == nx') = false := by simp [q2]
    have HZ : Hid (R = false) := HF.out fun z => q2 z.2.2.1
    clear q2
    go_enter Tryz.func27, Tryz.ntmps27
    go_wp2
    go_ret
    exact ⟨mu.ret_bool HZ.out.symm, hbw⟩
  have q2 : nx = nx' := Decidable.of_not_not q2
  have q2' : (nx == nx') = true := by simp [q2]
  have HQ2 : Hid (nx = nx') := q2
  clear q2
  go_enter Tryz.func27, Tryz.ntmps27
  go_wp2_with fail
  generalize World.alloc _ _ = w0 at hbw L0 M0 HA HB ⊢
  have HA : Hid (RowsAt w0 (.slice a ms.length cap) (.slice a1 ks.length cap1) ms ks) := HA
  have HB : Hid (RowsAt w0 (.slice a' ms'.length cap') (.slice a1' ks'.length cap1') ms' ks') := HB
  refine (equalM_any _ _ _ _ ms ms' _ HA.out.1 HB.out.1 HX.out.1.2.2.1 HX.out.2.2.2.1).mono ?_
  rintro e w2 ⟨rfl, hb2⟩
  have HA2 : Hid (RowsAt w2 (.slice a ms.length cap) (.slice a1 ks.length cap1) ms ks) := rows_below HA.out hb2
  have HB2 : Hid (RowsAt w2 (.slice a' ms'.length cap') (.slice a1' ks'.length cap1') ms' ks') := rows_below HB.out hb2
  have c4 := (L0.keep hb2).c4
  have d4 := (M0.keep hb2).c4
  have b3 := hbw.trans (hb2.mono hbw.size)
  clear hbw hb2 HA HB L0 M0
  have HSM : Hid (sameM ms ms' = false → ¬ SameM ms ms') := sameM_of
  generalize sameM ms ms' = sm at HT HSM ⊢
  cases sm
  · have HZ : Hid (R = false) := HF.out fun z => HSM.out (by trivial) z.2.2.2
    go_wp2
    go_ret
    exact ⟨mu.ret_bool HZ.out.symm, b3⟩
  have HZ : Hid (R = sameT ks ks') := HT.out HQ0.out HQ1.out HQ2.out (by trivial)
  go_wp2_with fail
  refine (equalT_any _ _ _ _ ks ks' _ HA2.out.2 HB2.out.2 HX.out.1.2.2.2 HX.out.2.2.2.2).mono ?_
  rintro e w3 ⟨rfl, hb3⟩
  have b4 := b3.trans (hb3.mono b3.size)
  clear b3 hb3 HA2 HB2 c4 d4
  generalize sameT ks ks' = st at HZ ⊢
  cases st
  · go_wp2
    go_ret
    exact ⟨mu.ret_bool HZ.out.symm, b4⟩
  · go_wp2
    go_ret
    exact ⟨mu.ret_bool HZ.out.symm, b4⟩
end Go.Proofs.YtinnnfkhiigjpaaGreat.sm

namespace Go.Proofs.YtinnnfkhiigjpaaGreat.sm
open Go.RowKit Go.WideShapes
open st bx
set_option linter.unusedVariables false

/-- Rows of boxes are the same. -/
def SameS (xs ys : List Bx) : Prop := xs.length = ys.length ∧ ∀ j, j < xs.length → SameB (xs.getD j noB) (ys.getD j noB)
def dSameSs (xs ys : List Bx) (k : Nat) : Decidable (∀ j, j < k → SameB (xs.getD j noB) (ys.getD j noB)) := @Nat.decidableBallLT k (fun j _ => SameB (xs.getD j noB) (ys.getD j noB)) (fun j _ => dSameB _ _)
def dSameS (xs ys : List Bx) : Decidable (SameS xs ys) := @instDecidableAnd _ _ _ (dSameSs xs ys xs.length)
def sameS (xs ys : List Bx) : Bool := @decide (SameS xs ys) (dSameS xs ys)
theorem sameS_no {xs ys : List Bx} (h : ¬ SameS xs ys) : sameS xs ys = false := ow.df h
theorem sameS_yes {xs ys : List Bx} (h : SameS xs ys) : sameS xs ys = true := ow.dt h
theorem sameB_of {x y : Bx} (h : sameB x y = true) : SameB x y := ow.dof h
theorem sameB_yes {x y : Bx} (h : SameB x y) : sameB x y = true := ow.dt h
theorem sameB_not {x y : Bx} (h : sameB x y = false) : ¬ SameB x y := fun z => by rw [sameB_yes z] at h; cases h

set_option maxHeartbeats 4000000 in
set_option maxRecDepth 100000 in
theorem equalS_any (v u : Value) (xs ys : List Bx) (vs us : Nat → Value × Value) (w : World) (h1 : BoxesAt w v xs vs) (h2 : BoxesAt w u ys us) (hs : bx.Smalls xs) (hs' : bx.Smalls ys) :
    Calls Tryz.prog 26 #[v, u, .func (Fn.func 27) #[] #[]] w fun e w' => e = .returned (.bool (sameS xs ys)) ∧ Below w.heap.size w w' := by
  have HALL : Hid (BoxesAt w v xs vs ∧ BoxesAt w u ys us) := ⟨h1, h2⟩
  obtain ⟨⟨a, cap, rfl, hc1⟩, _⟩ := h1
  obtain ⟨⟨c, cap2, rfl, hc2⟩, _⟩ := h2
  obtain ⟨n, hn⟩ : ∃ n, n = xs.length := ⟨_, rfl⟩
  obtain ⟨m, hm⟩ : ∃ m, m = ys.length := ⟨_, rfl⟩
  have HN : Hid (n = xs.length) := hn
  have HM : Hid (m = ys.length) := hm
  have hl : n ≤ 1048576 := by rw [hn]; exact hs.1
  have hl2 : m ≤ 1048576 := by rw [hm]; exact hs'.1
  have HS : Hid (bx.Smalls xs ∧ bx.Smalls ys) := ⟨hs, hs'⟩
  have H1 : Hid (xs = [] ∨ ∃ b off, a = some ⟨b, off, none⟩ ∧ b < w.heap.size ∧ ∀ j, j < xs.length → At5 w b (off + j * 5) (xs.getD j noB) (vs j)) := hc1
  have H2 : Hid (ys = [] ∨ ∃ b off, c = some ⟨b, off, none⟩ ∧ b < w.heap.size ∧ ∀ j, j < ys.length → At5 w b (off + j * 5) (ys.getD j noB) (us j)) := hc2
  rw [← hn, ← hm] at HALL
  rw [← hn, ← hm]
  clear hc1 hc2 hs hs' hn hm
  by_cases hnm : ¬ n = m
  · have hnm' : ((n : Int) != (m : Int)) = true := by simp; omega
    have HR : Hid (sameS xs ys = false) := sameS_no (fun y => hnm (by have := y.1; have := HN.out; have := HM.out; omega))
    go_enter Tryz.func26, Tryz.ntmps26
    go_wp2
    go_ret
    exact ⟨mu.ret_bool HR.out.symm, Below.refl _ _⟩
  have hnm : n = m := Decidable.of_not_not hnm
  subst hnm
  have hnm' : ((n : Int) != (n : Int)) = false := by simp
  go_enter Tryz.func26, Tryz.ntmps26
  go_wp2
  go_loopw [17] (fun i wr => ∃ k : Nat, k ≤ n ∧ i = .int .i64 k ∧ (∀ j, j < k → SameB (xs.getD j noB) (ys.getD j noB)) ∧ Below w.heap.size w wr) (fun i _ => n - (intOf i).toNat)
  case atStart => exact ⟨0, Nat.zero_le _, rfl, fun j hj => absurd hj (Nat.not_lt_zero _), Below.refl _ _⟩
  case round =>
    obtain ⟨k, hk, rfl, hal, hbw⟩ := hrel
    have HAL : Hid (∀ j, j < k → SameB (xs.getD j noB) (ys.getD j noB)) := hal
    clear hal
    by_cases hlt : k < n
    · have hka : k < xs.length := by rw [← HN.out]; exact hlt
      have hkb : k < ys.length := by rw [← HM.out]; exact hlt
      rcases H1.out with e | ⟨b, off, rfl, hbl, hcells⟩
      · rw [e] at hka; simp at hka
      rcases H2.out with e | ⟨b2, off2, rfl, hbl2, hcells2⟩
      · rw [e] at hkb; simp at hkb
      have ha := (hcells k hka).keep hbw hbl
      have hb := (hcells2 k hkb).keep hbw hbl2
      have hr1 := rows_more ((boxes_in_below HALL.out.1 hbw (Nat.le_refl _)).2 k hka) hbw.size
      have hr2 := rows_more ((boxes_in_below HALL.out.2 hbw (Nat.le_refl _)).2 k hkb) hbw.size
      have hsa := HS.out.1.2 k hka
      have hsb := HS.out.2.2 k hkb
      have HNE : Hid (sameB (xs.getD k noB) (ys.getD k noB) = false → sameS xs ys = false) := fun h => sameS_no (fun y => sameB_not h (y.2 k hka))
      have HEQ : Hid (sameB (xs.getD k noB) (ys.getD k noB) = true → ∀ j, j < k + 1 → SameB (xs.getD j noB) (ys.getD j noB)) := fun h j hj => by
        by_cases e : j = k
        · rw [e]; exact sameB_of h
        · exact HAL.out j (by omega)
      clear hcells hka hcells2 hkb
      generalize xs.getD k noB = x at ha hsa hr1 HNE HEQ
      generalize ys.getD k noB = y at hb hsb hr2 HNE HEQ
      generalize vs k = q at ha hr1
      generalize us k = r at hb hr2
      obtain ⟨q1, q2⟩ := q
      obtain ⟨r1, r2⟩ := r
      obtain ⟨c0, c1, c2, c3, c4⟩ := ha
      obtain ⟨d0, d1, d2, d3, d4⟩ := hb
      simp only at c0 c1 c2 c3 c4 d0 d1 d2 d3 d4 hr1 hr2
      have HXY : Hid (bx.Small x ∧ bx.Small y) := ⟨hsa, hsb⟩
      have hlt' : (k : Int) < (n : Int) := by omega
      have hk0 : (0 : Int) ≤ (k : Int) := by omega
      have hb2 := (bx.new_below wr 38 #[.string x.nm, .int .i64 x.vd, .int .i64 x.nx, q1, q2]).alloc (by simp) (.cells #[.string y.nm, .int .i64 y.vd, .int .i64 y.nx, r1, r2] 38)
      have hd := bx.new_below wr 38 #[.string x.nm, .int .i64 x.vd, .int .i64 x.nx, q1, q2]
      have e0 := (hd.cell (p := ⟨b2, off2 + k * 5, none⟩) (World.block_lt_of_cell? wr _ d0)).trans d0
      have e1 := (hd.cell (p := ⟨b2, off2 + k * 5 + 1, none⟩) (World.block_lt_of_cell? wr _ d1)).trans d1
      have e2 := (hd.cell (p := ⟨b2, off2 + k * 5 + 2, none⟩) (World.block_lt_of_cell? wr _ d2)).trans d2
      have e3 := (hd.cell (p := ⟨b2, off2 + k * 5 + 3, none⟩) (World.block_lt_of_cell? wr _ d3)).trans d3
      have e4 := (hd.cell (p := ⟨b2, off2 + k * 5 + 4, none⟩) (World.block_lt_of_cell? wr _ d4)).trans d4
      have HR1 : Hid (RowsAt ((wr.alloc (.cells #[.string x.nm, .int .i64 x.vd, .int .i64 x.nx, q1, q2] 38)).alloc (.cells #[.string y.nm, .int .i64 y.vd, .int .i64 y.nx, r1, r2] 38)) q1 q2 x.ms x.ks) := rows_below hr1 hb2
      have HR2 : Hid (RowsAt ((wr.alloc (.cells #[.string x.nm, .int .i64 x.vd, .int .i64 x.nx, q1, q2] 38)).alloc (.cells #[.string y.nm, .int .i64 y.vd, .int .i64 y.nx, r1, r2] 38)) r1 r2 y.ms y.ks) := rows_below hr2 hb2
      have hb3 := hbw.trans (hb2.mono hbw.size)
      obtain ⟨⟨a2, cap2, rfl, _⟩, ⟨a3, cap3, rfl, _⟩⟩ := hr1
      obtain ⟨⟨a4, cap4, rfl, _⟩, ⟨a5, cap5, rfl, _⟩⟩ := hr2
      clear hsa hsb hb2 hd hbw
      go_wp2_with fail
      refine (sameBox_any x y _ _ _ _ _ HR1.out HR2.out HXY.out.1 HXY.out.2).mono ?_
      rintro e w2 ⟨rfl, hb4⟩
      have b4 := hb3.trans (hb4.mono hb3.size)
      clear hb3 hb4 HR1 HR2 c0 c1 c2 c3 c4 d0 d1 d2 d3 d4 e0 e1 e2 e3 e4
      generalize sameB x y = sb at HNE HEQ ⊢
      cases sb
      · have HR : Hid (sameS xs ys = false) := HNE.out (by trivial)
        go_wp2
        go_ret
        exact ⟨mu.ret_bool HR.out.symm, b4⟩
      · have HX : Hid (∀ j, j < k + 1 → SameB (xs.getD j noB) (ys.getD j noB)) := HEQ.out (by trivial)
        go_wp2
        go_roundw
        case rel => exact ⟨k + 1, by omega, by go_num, HX.out, b4⟩
        case measure => simp [intOf]; omega
    · have HR : Hid (sameS xs ys = true) := sameS_yes ⟨by have := HN.out; have := HM.out; omega, fun j hj => HAL.out j (by have := HN.out; omega)⟩
      go_wp2
      go_ret
      exact ⟨mu.ret_bool HR.out.symm, hbw⟩

def ssa (xs ys : List Bx) : Bool := decide (xs.length ≤ 4096 ∧ ys.length ≤ 4096) && sok xs && sok ys && sameS xs ys
def ssb (xs ys : List Bx) : Int := if xs.length ≤ 4096 ∧ ys.length ≤ 4096 then (if sok xs = true ∧ sok ys = true then 0 else 1) else 2

set_option maxHeartbeats 4000000 in
set_option maxRecDepth 100000 in
theorem impl_ss (v u : Value) (xs ys : List Bx) (vs us : Nat → Value × Value) (w : World) (h1 : BoxesAt w v xs vs) (h2 : BoxesAt w u ys us) (hs : bx.Smalls xs) (hs' : bx.Smalls ys) :
    Calls Tryz.prog 7 #[v, u] w fun e w' => e = .returned (.tuple #[.bool (ssa xs ys), .int .i64 (ssb xs ys)]) ∧ Below w.heap.size w w' := by
  have HA : Hid (BoxesAt w v xs vs) := h1
  have HB : Hid (BoxesAt w u ys us) := h2
  obtain ⟨⟨a, cap, rfl, _⟩, _⟩ := h1
  obtain ⟨⟨c, cap2, rfl, _⟩, _⟩ := h2
  have HS : Hid (bx.Smalls xs ∧ bx.Smalls ys) := ⟨hs, hs'⟩
  have HL : Hid (¬ (xs.length ≤ 4096 ∧ ys.length ≤ 4096) → ssa xs ys = false ∧ ssb xs ys = 2) := fun h => by simp [ssa, ssb, h]
  have HB1 : Hid (xs.length ≤ 4096 ∧ ys.length ≤ 4096 → sok xs = false → ssa xs ys = false ∧ ssb xs ys = 1) := fun h h1 => by simp [ssa, ssb, h, h1]
  have HB2 : Hid (xs.length ≤ 4096 ∧ ys.length ≤ 4096 → sok ys = false → ssa xs ys = false ∧ ssb xs ys = 1) := fun h h1 => by simp [ssa, ssb, h, h1]
  have HO : Hid (xs.length ≤ 4096 ∧ ys.length ≤ 4096 → sok xs = true → sok ys = true → ssa xs ys = sameS xs ys ∧ ssb xs ys = 0) := fun h h1 h2 => by simp [ssa, ssb, h, h1, h2]
  have hl1 := hs.1
  have hl2 := hs'.1
  clear hs hs'
  generalize ssa xs ys = RA at HL HB1 HB2 HO ⊢
  generalize ssb xs ys = RB at HL HB1 HB2 HO ⊢
  by_cases g1 : 4096 < xs.length
  · have g1' : (4096 : Int) < (xs.length : Int) := by omega
    obtain ⟨r0, r1⟩ := HL.out (by omega)
    have HR : Hid (RA = false ∧ RB = 2) := ⟨r0, r1⟩
    clear r0 r1
    go_enter Tryz.func7, Tryz.ntmps7
    go_wp2
    go_ret2
    exact ⟨by rw [HR.out.1, HR.out.2]; rfl, Below.refl _ _⟩
  have g1' : (xs.length : Int) ≤ 4096 := by omega
  by_cases g2 : 4096 < ys.length
  · have g2' : (4096 : Int) < (ys.length : Int) := by omega
    obtain ⟨r0, r1⟩ := HL.out (by omega)
    have HR : Hid (RA = false ∧ RB = 2) := ⟨r0, r1⟩
    clear r0 r1
    go_enter Tryz.func7, Tryz.ntmps7
    go_wp2
    go_ret2
    exact ⟨by rw [HR.out.1, HR.out.2]; rfl, Below.refl _ _⟩
  have g2' : (ys.length : Int) ≤ 4096 := by omega
  have HLL : Hid (xs.length ≤ 4096 ∧ ys.length ≤ 4096) := ⟨by omega, by omega⟩
  go_enter Tryz.func7, Tryz.ntmps7
  go_wp2_with fail
  refine (impl_sok _ xs vs w HA.out HS.out.1).mono ?_
  rintro e w1 ⟨rfl, b1⟩
  have HA1 : Hid (BoxesAt w1 (.slice a xs.length cap) xs vs) := boxes_below HA.out b1
  have HB1' : Hid (BoxesAt w1 (.slice c ys.length cap2) ys us) := boxes_below HB.out b1
  clear HA HB
  generalize sok xs = sx at HB1 HO ⊢
  cases sx
  · obtain ⟨r0, r1⟩ := HB1.out HLL.out (by trivial)
    have HR : Hid (RA = false ∧ RB = 1) := ⟨r0, r1⟩
    clear r0 r1
    go_wp2
    go_ret2
    exact ⟨by rw [HR.out.1, HR.out.2]; rfl, b1⟩
  go_wp2_with fail
  refine (impl_sok _ ys us w1 HB1'.out HS.out.2).mono ?_
  rintro e w2 ⟨rfl, hb2⟩
  have HA2 : Hid (BoxesAt w2 (.slice a xs.length cap) xs vs) := boxes_below HA1.out hb2
  have HB2' : Hid (BoxesAt w2 (.slice c ys.length cap2) ys us) := boxes_below HB1'.out hb2
  have b2 := b1.trans (hb2.mono b1.size)
  clear HA1 HB1' b1 hb2
  generalize sok ys = sy at HB2 HO ⊢
  cases sy
  · obtain ⟨r0, r1⟩ := HB2.out HLL.out (by trivial)
    have HR : Hid (RA = false ∧ RB = 1) := ⟨r0, r1⟩
    clear r0 r1
    go_wp2
    go_ret2
    exact ⟨by rw [HR.out.1, HR.out.2]; rfl, b2⟩
  obtain ⟨r0, r1⟩ := HO.out HLL.out (by trivial) (by trivial)
  have HR : Hid (RA = sameS xs ys ∧ RB = 0) := ⟨r0, r1⟩
  clear r0 r1
  go_wp2_with fail
  refine (equalS_any _ _ xs ys vs us w2 HA2.out HB2'.out HS.out.1 HS.out.2).mono ?_
  rintro e w3 ⟨rfl, hb3⟩
  have b3 := b2.trans (hb3.mono b2.size)
  clear HA2 HB2' b2 hb3
  go_wp2
  go_ret2
  exact ⟨by rw [HR.out.1, HR.out.2]; rfl, b3⟩
end Go.Proofs.YtinnnfkhiigjpaaGreat.sm
