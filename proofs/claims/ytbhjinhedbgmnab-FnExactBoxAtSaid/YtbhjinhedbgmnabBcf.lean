/-
  Both BoxAt functions, as wholes.
-/
import Derived.Test.YtbhjinhedbgmnabBce
namespace Go.Proofs.Ytbhjinhedbgmnab.bx
open Go.RowKit Go.Deep
open st
set_option linter.unusedVariables false
theorem put5w_zero {w : World} {g : Nat} {T : TypeId} {x : Bx} {v u : Value} (h : Lies w g T x v u) : Lies (put5w w g (.string ⟨#[]⟩) (.int .i64 0) (.int .i64 0) (.slice none 0 0) (.slice none 0 0)) g T B0 (.slice none 0 0) (.slice none 0 0) :=
  heap_setCell_same _ g 4 _ _ _ (heap_setCell_same _ g 3 _ _ _ (heap_setCell_same _ g 2 _ _ _ (heap_setCell_same _ g 1 _ _ _ (heap_setCell_same _ g 0 _ _ _ h))))

set_option maxHeartbeats 4000000 in
set_option maxRecDepth 100000 in
theorem impl_ba (v : Value) (xs : List Bx) (vs : Nat → Value × Value) (s : ByteArray) (w : World) (h : BoxesAt w v xs vs) (hs : Smalls xs) (hf : Fines xs vs) (hss : s.size ≤ 1048576) :
    Calls Try.prog 9 #[v, .string s] w fun e w' => BaRet xs s w.heap.size e w' ∧ Below w.heap.size w w' := by
  have R0 : Lies (w.alloc (.cells #[.string ⟨#[]⟩, .int .i64 0, .int .i64 0, .slice none 0 0, .slice none 0 0] 27)) w.heap.size 27 B0 (.slice none 0 0) (.slice none 0 0) := lies_new w 27 B0 (.slice none 0 0) (.slice none 0 0)
  have b0 := new_below w 27 #[.string ⟨#[]⟩, .int .i64 0, .int .i64 0, .slice none 0 0, .slice none 0 0]
  have HA : Hid (∀ W, Below w.heap.size w W → BoxesAt W v xs vs) := fun W hW => boxes_below h hW
  have HS : Hid (Smalls xs) := hs
  have HF : Hid (Fines xs vs) := hf
  obtain ⟨⟨a, cap, rfl, _⟩, _⟩ := h
  have hl := hs.1
  have B2 : Hid (¬ (xs.length ≤ 4096 ∧ s.size ≤ 65536) → Ba xs s B0 2) := fun h => .inl ⟨h, rfl, rfl⟩
  have B1 : Hid ((xs.length ≤ 4096 ∧ s.size ≤ 65536) → sok xs = false → Ba xs s B0 1) := fun h h1 => .inr (.inl ⟨h, h1, rfl, rfl⟩)
  have B5 : Hid ((xs.length ≤ 4096 ∧ s.size ≤ 65536) → sok xs = true → Plc xs s (-1) → Ba xs s B0 5) := fun h h1 h2 => .inr (.inr (.inl ⟨h, h1, h2, rfl, rfl⟩))
  have BK : Hid ((xs.length ≤ 4096 ∧ s.size ≤ 65536) → sok xs = true → ∀ k : Nat, k < xs.length → Plc xs s k → Ba xs s (xs.getD k noB) 0) := fun h h1 k hk h2 => .inr (.inr (.inr ⟨h, h1, k, hk, h2, rfl, rfl⟩))
  clear hs hf
  by_cases g1 : 4096 < xs.length
  · have g1' : (4096 : Int) < (xs.length : Int) := by omega
    have HB : Hid (Ba xs s B0 2) := B2.out (by omega)
    go_enter Try.func9, Try.ntmps9
    go_upto_region 2 with fail
    generalize w.alloc _ = W at R0 b0 ⊢
    have r0 := R0.c0
    have r1 := R0.c1
    have r2 := R0.c2
    have r3 := R0.c3
    have r4 := R0.c4
    have fr := R0.f
    go_wp2
    have A5 : Lies (put5w W w.heap.size (.string ⟨#[]⟩) (.int .i64 0) (.int .i64 0) (.slice none 0 0) (.slice none 0 0)) w.heap.size 27 B0 (.slice none 0 0) (.slice none 0 0) := put5w_zero R0
    have b5 : Below w.heap.size w (put5w W w.heap.size (.string ⟨#[]⟩) (.int .i64 0) (.int .i64 0) (.slice none 0 0) (.slice none 0 0)) := put5w_below b0 (Nat.le_refl _)
    change bodyPost _ _ _ _ _ (put5w W w.heap.size (.string ⟨#[]⟩) (.int .i64 0) (.int .i64 0) (.slice none 0 0) (.slice none 0 0))
    generalize put5w _ _ _ _ _ _ _ = W9 at A5 b5 ⊢
    have d0 : W9.cell? ⟨w.heap.size, 0, none⟩ = some (.string ⟨#[]⟩) := A5.c0
    have d1 : W9.cell? ⟨w.heap.size, 0 + 1, none⟩ = some (.int .i64 0) := A5.c1
    have d2 : W9.cell? ⟨w.heap.size, 0 + 2, none⟩ = some (.int .i64 0) := A5.c2
    have d3 := A5.c3
    have d4 := A5.c4
    exact bodyPost_ret (v := .tuple #[.agg #[.string ⟨#[]⟩, .int .i64 0, .int .i64 0, .slice none 0 0, .slice none 0 0], .int .i64 2]) (by simp [results, Try.results9, go_sem, d0, d1, d2, d3, d4]) rfl ⟨ba_ret HB.out, b5⟩
  have g1' : (xs.length : Int) ≤ 4096 := by omega
  by_cases g2 : 65536 < s.size
  · have g2' : (65536 : Int) < (s.size : Int) := by omega
    have HB : Hid (Ba xs s B0 2) := B2.out (by omega)
    go_enter Try.func9, Try.ntmps9
    go_upto_region 2 with fail
    generalize w.alloc _ = W at R0 b0 ⊢
    have r0 := R0.c0
    have r1 := R0.c1
    have r2 := R0.c2
    have r3 := R0.c3
    have r4 := R0.c4
    have fr := R0.f
    go_wp2
    have A5 : Lies (put5w W w.heap.size (.string ⟨#[]⟩) (.int .i64 0) (.int .i64 0) (.slice none 0 0) (.slice none 0 0)) w.heap.size 27 B0 (.slice none 0 0) (.slice none 0 0) := put5w_zero R0
    have b5 : Below w.heap.size w (put5w W w.heap.size (.string ⟨#[]⟩) (.int .i64 0) (.int .i64 0) (.slice none 0 0) (.slice none 0 0)) := put5w_below b0 (Nat.le_refl _)
    change bodyPost _ _ _ _ _ (put5w W w.heap.size (.string ⟨#[]⟩) (.int .i64 0) (.int .i64 0) (.slice none 0 0) (.slice none 0 0))
    generalize put5w _ _ _ _ _ _ _ = W9 at A5 b5 ⊢
    have d0 : W9.cell? ⟨w.heap.size, 0, none⟩ = some (.string ⟨#[]⟩) := A5.c0
    have d1 : W9.cell? ⟨w.heap.size, 0 + 1, none⟩ = some (.int .i64 0) := A5.c1
    have d2 : W9.cell? ⟨w.heap.size, 0 + 2, none⟩ = some (.int .i64 0) := A5.c2
    have d3 := A5.c3
    have d4 := A5.c4
    exact bodyPost_ret (v := .tuple #[.agg #[.string ⟨#[]⟩, .int .i64 0, .int .i64 0, .slice none 0 0, .slice none 0 0], .int .i64 2]) (by simp [results, Try.results9, go_sem, d0, d1, d2, d3, d4]) rfl ⟨ba_ret HB.out, b5⟩
  have g2' : (s.size : Int) ≤ 65536 := by omega
  have gg : xs.length ≤ 4096 ∧ s.size ≤ 65536 := ⟨by omega, by omega⟩
  have HB1 := B1.out gg
  have HB5 := B5.out gg
  have HBK := BK.out gg
  clear B1 B2 B5 BK gg
  have HB1 : Hid (sok xs = false → Ba xs s B0 1) := HB1
  have HB5 : Hid (sok xs = true → Plc xs s (-1) → Ba xs s B0 5) := HB5
  have HBK : Hid (sok xs = true → ∀ k : Nat, k < xs.length → Plc xs s k → Ba xs s (xs.getD k noB) 0) := HBK
  go_enter Try.func9, Try.ntmps9
  go_wp2_with fail
  generalize w.alloc _ = W0 at R0 b0 ⊢
  refine (impl_sok _ xs vs W0 (HA.out W0 b0) HS.out).mono ?_
  rintro e W1 ⟨rfl, k1⟩
  have R1 := R0.keep k1
  have b1 := b0.trans (k1.mono b0.size)
  clear R0 b0 k1
  generalize hsk : sok xs = sk at HB1 HB5 HBK ⊢
  clear hsk
  cases sk
  · have HB : Hid (Ba xs s B0 1) := HB1.out rfl
    go_upto_region 4 with fail
    have r0 := R1.c0
    have r1 := R1.c1
    have r2 := R1.c2
    have r3 := R1.c3
    have r4 := R1.c4
    have fr := R1.f
    go_wp2
    have A5 : Lies (put5w W1 w.heap.size (.string ⟨#[]⟩) (.int .i64 0) (.int .i64 0) (.slice none 0 0) (.slice none 0 0)) w.heap.size 27 B0 (.slice none 0 0) (.slice none 0 0) := put5w_zero R1
    have b5 : Below w.heap.size w (put5w W1 w.heap.size (.string ⟨#[]⟩) (.int .i64 0) (.int .i64 0) (.slice none 0 0) (.slice none 0 0)) := put5w_below b1 (Nat.le_refl _)
    change bodyPost _ _ _ _ _ (put5w W1 w.heap.size (.string ⟨#[]⟩) (.int .i64 0) (.int .i64 0) (.slice none 0 0) (.slice none 0 0))
    generalize put5w _ _ _ _ _ _ _ = W9 at A5 b5 ⊢
    have d0 : W9.cell? ⟨w.heap.size, 0, none⟩ = some (.string ⟨#[]⟩) := A5.c0
    have d1 : W9.cell? ⟨w.heap.size, 0 + 1, none⟩ = some (.int .i64 0) := A5.c1
    have d2 : W9.cell? ⟨w.heap.size, 0 + 2, none⟩ = some (.int .i64 0) := A5.c2
    have d3 := A5.c3
    have d4 := A5.c4
    exact bodyPost_ret (v := .tuple #[.agg #[.string ⟨#[]⟩, .int .i64 0, .int .i64 0, .slice none 0 0, .slice none 0 0], .int .i64 1]) (by simp [results, Try.results9, go_sem, d0, d1, d2, d3, d4]) rfl ⟨ba_ret HB.out, b5⟩
  go_wp2_with fail
  refine (place_any _ _ xs vs s W1 (HA.out W1 b1) (Nat.le_refl _) hl).mono ?_
  rintro e W2 ⟨⟨r, rfl, hr⟩, k2⟩
  have R2 := R1.keep k2
  have b2 := b1.trans (k2.mono b1.size)
  clear R1 b1 k2
  rcases plc_nat hr with rfl | ⟨k, rfl, hk⟩
  · have HB : Hid (Ba xs s B0 5) := HB5.out (by trivial) hr
    clear hr
    go_upto_region 7 with fail
    have r0 := R2.c0
    have r1 := R2.c1
    have r2 := R2.c2
    have r3 := R2.c3
    have r4 := R2.c4
    have fr := R2.f
    go_wp2
    have A5 : Lies (put5w W2 w.heap.size (.string ⟨#[]⟩) (.int .i64 0) (.int .i64 0) (.slice none 0 0) (.slice none 0 0)) w.heap.size 27 B0 (.slice none 0 0) (.slice none 0 0) := put5w_zero R2
    have b5 : Below w.heap.size w (put5w W2 w.heap.size (.string ⟨#[]⟩) (.int .i64 0) (.int .i64 0) (.slice none 0 0) (.slice none 0 0)) := put5w_below b2 (Nat.le_refl _)
    change bodyPost _ _ _ _ _ (put5w W2 w.heap.size (.string ⟨#[]⟩) (.int .i64 0) (.int .i64 0) (.slice none 0 0) (.slice none 0 0))
    generalize put5w _ _ _ _ _ _ _ = W9 at A5 b5 ⊢
    have d0 : W9.cell? ⟨w.heap.size, 0, none⟩ = some (.string ⟨#[]⟩) := A5.c0
    have d1 : W9.cell? ⟨w.heap.size, 0 + 1, none⟩ = some (.int .i64 0) := A5.c1
    have d2 : W9.cell? ⟨w.heap.size, 0 + 2, none⟩ = some (.int .i64 0) := A5.c2
    have d3 := A5.c3
    have d4 := A5.c4
    exact bodyPost_ret (v := .tuple #[.agg #[.string ⟨#[]⟩, .int .i64 0, .int .i64 0, .slice none 0 0, .slice none 0 0], .int .i64 5]) (by simp [results, Try.results9, go_sem, d0, d1, d2, d3, d4]) rfl ⟨ba_ret HB.out, b5⟩
  have HB : Hid (Ba xs s (xs.getD k noB) 0) := HBK.out (by trivial) k hk hr
  have hat := HA.out W2 b2
  have hfk := HF.out k hk
  have hsk := HS.out.2 k hk
  have hrw := hat.2 k hk
  obtain ⟨⟨a', cap', e', hh⟩, _⟩ := hat
  cases e'
  rcases hh with e | ⟨bb, off, rfl, hbl, hcells⟩
  · rw [e] at hk; simp at hk
  have hck := hcells k hk
  clear hcells hr HB1 HB5 HBK
  generalize xs.getD k noB = y at HB hsk hrw hck
  generalize vs k = p at hfk hrw hck
  obtain ⟨p1, p2⟩ := p
  simp only at hfk hrw hck
  obtain ⟨q0, q1, q2, q3, q4⟩ := hck
  simp only at q3 q4
  have HRW : Hid (RowsIn W2 W2.heap.size p1 p2 y.ms y.ks) := hrw
  have HFK : Hid (Fine p1 ∧ Fine p2) := hfk
  have HSK : Hid (Small y) := hsk
  obtain ⟨⟨pa, pc, rfl, _⟩, ⟨ra, rc, rfl, _⟩⟩ := hrw
  clear hfk hsk
  have hk' : (k : Int) < (xs.length : Int) := by omega
  have hk0 : (0 : Int) ≤ (k : Int) := by omega
  go_wp2_with fail
  clear q0 q1 q2 q3 q4
  refine (copiedB_any y _ _ _ W2 HRW.out (Nat.le_refl _) HFK.out.1 HFK.out.2 HSK.out).mono ?_
  rintro e W3 ⟨⟨v', u', rfl, ho1, ho2⟩, k3⟩
  have R3 := R2.keep k3
  have b3 := b2.trans (k3.mono b2.size)
  have HO : Hid (OwnM W3 w.heap.size v' y.ms ∧ OwnK W3 w.heap.size u' y.ks) := ⟨own_low ho1 b2.size, own_low ho2 b2.size⟩
  obtain ⟨va, vc, rfl, _⟩ := slice_of ho1
  obtain ⟨ua, uc, rfl, _⟩ := slice_of ho2
  clear ho1 ho2 R2 b2 k3 HRW
  unfold BV
  have r0 := R3.c0
  have r1 := R3.c1
  have r2 := R3.c2
  have r3 := R3.c3
  have r4 := R3.c4
  have fr := R3.f
  have HE : Hid (Lies (put5w W3 w.heap.size (.string y.nm) (.int .i64 y.vd) (.int .i64 y.nx) (.slice va y.ms.length vc) (.slice ua y.ks.length uc)) w.heap.size 27 y (.slice va y.ms.length vc) (.slice ua y.ks.length uc) ∧ Below w.heap.size w (put5w W3 w.heap.size (.string y.nm) (.int .i64 y.vd) (.int .i64 y.nx) (.slice va y.ms.length vc) (.slice ua y.ks.length uc)) ∧ OwnM (put5w W3 w.heap.size (.string y.nm) (.int .i64 y.vd) (.int .i64 y.nx) (.slice va y.ms.length vc) (.slice ua y.ks.length uc)) w.heap.size (.slice va y.ms.length vc) y.ms ∧ OwnK (put5w W3 w.heap.size (.string y.nm) (.int .i64 y.vd) (.int .i64 y.nx) (.slice va y.ms.length vc) (.slice ua y.ks.length uc)) w.heap.size (.slice ua y.ks.length uc) y.ks) :=
    ⟨put5w_lies R3, put5w_below b3 (Nat.le_refl _), own_grown HO.out.1 (put5w_grown _ _ _ _ _ _ _) (row_box HO.out.1 R3 (by decide)), own_grown HO.out.2 (put5w_grown _ _ _ _ _ _ _) (row_box HO.out.2 R3 (by decide))⟩
  clear R3 b3 HO
  go_wp2
  change bodyPost _ _ _ _ _ (put5w W3 w.heap.size (.string y.nm) (.int .i64 y.vd) (.int .i64 y.nx) (.slice va y.ms.length vc) (.slice ua y.ks.length uc))
  generalize put5w _ _ _ _ _ _ _ = W9 at HE ⊢
  have d0 := HE.out.1.c0
  have d1 := HE.out.1.c1
  have d2 := HE.out.1.c2
  have d3 := HE.out.1.c3
  have d4 := HE.out.1.c4
  exact bodyPost_ret (v := .tuple #[.agg #[.string y.nm, .int .i64 y.vd, .int .i64 y.nx, .slice va y.ms.length vc, .slice ua y.ks.length uc], .int .i64 0]) (by simp [results, Try.results9, go_sem, d0, d1, d2, d3, d4]) rfl ⟨⟨y, 0, _, _, rfl, HB.out, HE.out.2.2.1, HE.out.2.2.2⟩, HE.out.2.1⟩

set_option maxHeartbeats 4000000 in
set_option maxRecDepth 100000 in
theorem spec_ba (v : Value) (xs : List Bx) (vs : Nat → Value × Value) (s : ByteArray) (w : World) (h : BoxesAt w v xs vs) (hs : Smalls xs) (hf : Fines xs vs) (hss : s.size ≤ 1048576) (hc : sm.Caps v xs vs) :
    Calls Try.prog 7 #[v, .string s] w fun e w' => BaRet xs s w.heap.size e w' ∧ Below w.heap.size w w' := by
  have HC : Hid (sm.Caps v xs vs) := hc
  have R0 : Lies (w.alloc (.cells #[.string ⟨#[]⟩, .int .i64 0, .int .i64 0, .slice none 0 0, .slice none 0 0] 27)) w.heap.size 27 B0 (.slice none 0 0) (.slice none 0 0) := lies_new w 27 B0 (.slice none 0 0) (.slice none 0 0)
  have b0 := new_below w 27 #[.string ⟨#[]⟩, .int .i64 0, .int .i64 0, .slice none 0 0, .slice none 0 0]
  have HA : Hid (∀ W, Below w.heap.size w W → BoxesAt W v xs vs) := fun W hW => boxes_below h hW
  have HS : Hid (Smalls xs) := hs
  have HF : Hid (Fines xs vs) := hf
  obtain ⟨⟨a, cap, rfl, _⟩, _⟩ := h
  have hl := hs.1
  have B2 : Hid (¬ (xs.length ≤ 4096 ∧ s.size ≤ 65536) → Ba xs s B0 2) := fun h => .inl ⟨h, rfl, rfl⟩
  have B1 : Hid ((xs.length ≤ 4096 ∧ s.size ≤ 65536) → sok xs = false → Ba xs s B0 1) := fun h h1 => .inr (.inl ⟨h, h1, rfl, rfl⟩)
  have B5 : Hid ((xs.length ≤ 4096 ∧ s.size ≤ 65536) → sok xs = true → Plc xs s (-1) → Ba xs s B0 5) := fun h h1 h2 => .inr (.inr (.inl ⟨h, h1, h2, rfl, rfl⟩))
  have BK : Hid ((xs.length ≤ 4096 ∧ s.size ≤ 65536) → sok xs = true → ∀ k : Nat, k < xs.length → Plc xs s k → Ba xs s (xs.getD k noB) 0) := fun h h1 k hk h2 => .inr (.inr (.inr ⟨h, h1, k, hk, h2, rfl, rfl⟩))
  clear hs hf
  by_cases g1 : 4096 < xs.length
  · have g1' : (4096 : Int) < (xs.length : Int) := by omega
    have HB : Hid (Ba xs s B0 2) := B2.out (by omega)
    go_enter Try.func7, Try.ntmps7
    go_upto_region 2 with fail
    generalize w.alloc _ = W at R0 b0 ⊢
    have r0 := R0.c0
    have r1 := R0.c1
    have r2 := R0.c2
    have r3 := R0.c3
    have r4 := R0.c4
    have fr := R0.f
    go_wp2
    have A5 : Lies (put5w W w.heap.size (.string ⟨#[]⟩) (.int .i64 0) (.int .i64 0) (.slice none 0 0) (.slice none 0 0)) w.heap.size 27 B0 (.slice none 0 0) (.slice none 0 0) := put5w_zero R0
    have b5 : Below w.heap.size w (put5w W w.heap.size (.string ⟨#[]⟩) (.int .i64 0) (.int .i64 0) (.slice none 0 0) (.slice none 0 0)) := put5w_below b0 (Nat.le_refl _)
    change bodyPost _ _ _ _ _ (put5w W w.heap.size (.string ⟨#[]⟩) (.int .i64 0) (.int .i64 0) (.slice none 0 0) (.slice none 0 0))
    generalize put5w _ _ _ _ _ _ _ = W9 at A5 b5 ⊢
    have d0 : W9.cell? ⟨w.heap.size, 0, none⟩ = some (.string ⟨#[]⟩) := A5.c0
    have d1 : W9.cell? ⟨w.heap.size, 0 + 1, none⟩ = some (.int .i64 0) := A5.c1
    have d2 : W9.cell? ⟨w.heap.size, 0 + 2, none⟩ = some (.int .i64 0) := A5.c2
    have d3 := A5.c3
    have d4 := A5.c4
    exact bodyPost_ret (v := .tuple #[.agg #[.string ⟨#[]⟩, .int .i64 0, .int .i64 0, .slice none 0 0, .slice none 0 0], .int .i64 2]) (by simp [results, Try.results7, go_sem, d0, d1, d2, d3, d4]) rfl ⟨ba_ret HB.out, b5⟩
  have g1' : (xs.length : Int) ≤ 4096 := by omega
  by_cases g2 : 65536 < s.size
  · have g2' : (65536 : Int) < (s.size : Int) := by omega
    have HB : Hid (Ba xs s B0 2) := B2.out (by omega)
    go_enter Try.func7, Try.ntmps7
    go_upto_region 2 with fail
    generalize w.alloc _ = W at R0 b0 ⊢
    have r0 := R0.c0
    have r1 := R0.c1
    have r2 := R0.c2
    have r3 := R0.c3
    have r4 := R0.c4
    have fr := R0.f
    go_wp2
    have A5 : Lies (put5w W w.heap.size (.string ⟨#[]⟩) (.int .i64 0) (.int .i64 0) (.slice none 0 0) (.slice none 0 0)) w.heap.size 27 B0 (.slice none 0 0) (.slice none 0 0) := put5w_zero R0
    have b5 : Below w.heap.size w (put5w W w.heap.size (.string ⟨#[]⟩) (.int .i64 0) (.int .i64 0) (.slice none 0 0) (.slice none 0 0)) := put5w_below b0 (Nat.le_refl _)
    change bodyPost _ _ _ _ _ (put5w W w.heap.size (.string ⟨#[]⟩) (.int .i64 0) (.int .i64 0) (.slice none 0 0) (.slice none 0 0))
    generalize put5w _ _ _ _ _ _ _ = W9 at A5 b5 ⊢
    have d0 : W9.cell? ⟨w.heap.size, 0, none⟩ = some (.string ⟨#[]⟩) := A5.c0
    have d1 : W9.cell? ⟨w.heap.size, 0 + 1, none⟩ = some (.int .i64 0) := A5.c1
    have d2 : W9.cell? ⟨w.heap.size, 0 + 2, none⟩ = some (.int .i64 0) := A5.c2
    have d3 := A5.c3
    have d4 := A5.c4
    exact bodyPost_ret (v := .tuple #[.agg #[.string ⟨#[]⟩, .int .i64 0, .int .i64 0, .slice none 0 0, .slice none 0 0], .int .i64 2]) (by simp [results, Try.results7, go_sem, d0, d1, d2, d3, d4]) rfl ⟨ba_ret HB.out, b5⟩
  have g2' : (s.size : Int) ≤ 65536 := by omega
  have gg : xs.length ≤ 4096 ∧ s.size ≤ 65536 := ⟨by omega, by omega⟩
  have HB1 := B1.out gg
  have HB5 := B5.out gg
  have HBK := BK.out gg
  clear B1 B2 B5 BK gg
  have HB1 : Hid (sok xs = false → Ba xs s B0 1) := HB1
  have HB5 : Hid (sok xs = true → Plc xs s (-1) → Ba xs s B0 5) := HB5
  have HBK : Hid (sok xs = true → ∀ k : Nat, k < xs.length → Plc xs s k → Ba xs s (xs.getD k noB) 0) := HBK
  go_enter Try.func7, Try.ntmps7
  go_wp2_with fail
  generalize w.alloc _ = W0 at R0 b0 ⊢
  refine (sm.code_any _ xs vs W0 (HA.out W0 b0) HS.out HC.out).mono ?_
  rintro e W1 ⟨rfl, k1⟩
  have hcd : (sm.cod xs = 0 ∧ sok xs = true) ∨ (sm.cod xs = 1 ∧ sok xs = false) := by
    have h4 : xs.length ≤ 4096 := by omega
    cases e : sok xs
    · exact .inr ⟨by simp [sm.cod, h4, e], rfl⟩
    · exact .inl ⟨by simp [sm.cod, h4, e], rfl⟩
  have R1 := R0.keep k1
  have b1 := b0.trans (k1.mono b0.size)
  clear R0 b0 k1
  rcases hcd with ⟨hc0, hsk⟩ | ⟨hc1, hsk⟩
  case inr =>
    rw [hc1]
    have HB : Hid (Ba xs s B0 1) := HB1.out hsk
    clear hc1 hsk
    go_upto_region 5 with fail
    have r0 := R1.c0
    have r1 := R1.c1
    have r2 := R1.c2
    have r3 := R1.c3
    have r4 := R1.c4
    have fr := R1.f
    go_wp2
    have A5 : Lies (put5w W1 w.heap.size (.string ⟨#[]⟩) (.int .i64 0) (.int .i64 0) (.slice none 0 0) (.slice none 0 0)) w.heap.size 27 B0 (.slice none 0 0) (.slice none 0 0) := put5w_zero R1
    have b5 : Below w.heap.size w (put5w W1 w.heap.size (.string ⟨#[]⟩) (.int .i64 0) (.int .i64 0) (.slice none 0 0) (.slice none 0 0)) := put5w_below b1 (Nat.le_refl _)
    change bodyPost _ _ _ _ _ (put5w W1 w.heap.size (.string ⟨#[]⟩) (.int .i64 0) (.int .i64 0) (.slice none 0 0) (.slice none 0 0))
    generalize put5w _ _ _ _ _ _ _ = W9 at A5 b5 ⊢
    have d0 : W9.cell? ⟨w.heap.size, 0, none⟩ = some (.string ⟨#[]⟩) := A5.c0
    have d1 : W9.cell? ⟨w.heap.size, 0 + 1, none⟩ = some (.int .i64 0) := A5.c1
    have d2 : W9.cell? ⟨w.heap.size, 0 + 2, none⟩ = some (.int .i64 0) := A5.c2
    have d3 := A5.c3
    have d4 := A5.c4
    exact bodyPost_ret (v := .tuple #[.agg #[.string ⟨#[]⟩, .int .i64 0, .int .i64 0, .slice none 0 0, .slice none 0 0], .int .i64 1]) (by simp [results, Try.results7, go_sem, d0, d1, d2, d3, d4]) rfl ⟨ba_ret HB.out, b5⟩
  rw [hc0]
  rw [hsk] at HB5 HBK
  clear hc0 hsk
  go_wp2_with fail
  obtain ⟨r, hr⟩ := plc_ex xs s
  refine (find_any _ _ xs vs s W1 (HA.out W1 b1).1 hl hr).mono ?_
  rintro e W2 ⟨rfl, hw2⟩
  have k2 : Below W1.heap.size W1 W2 := by rw [hw2]; exact Below.refl _ _
  clear hw2
  have R2 := R1.keep k2
  have b2 := b1.trans (k2.mono b1.size)
  clear R1 b1 k2
  rcases plc_nat hr with rfl | ⟨k, rfl, hk⟩
  · have HB : Hid (Ba xs s B0 5) := HB5.out (by trivial) hr
    clear hr
    go_upto_region 8 with fail
    have r0 := R2.c0
    have r1 := R2.c1
    have r2 := R2.c2
    have r3 := R2.c3
    have r4 := R2.c4
    have fr := R2.f
    go_wp2
    have A5 : Lies (put5w W2 w.heap.size (.string ⟨#[]⟩) (.int .i64 0) (.int .i64 0) (.slice none 0 0) (.slice none 0 0)) w.heap.size 27 B0 (.slice none 0 0) (.slice none 0 0) := put5w_zero R2
    have b5 : Below w.heap.size w (put5w W2 w.heap.size (.string ⟨#[]⟩) (.int .i64 0) (.int .i64 0) (.slice none 0 0) (.slice none 0 0)) := put5w_below b2 (Nat.le_refl _)
    change bodyPost _ _ _ _ _ (put5w W2 w.heap.size (.string ⟨#[]⟩) (.int .i64 0) (.int .i64 0) (.slice none 0 0) (.slice none 0 0))
    generalize put5w _ _ _ _ _ _ _ = W9 at A5 b5 ⊢
    have d0 : W9.cell? ⟨w.heap.size, 0, none⟩ = some (.string ⟨#[]⟩) := A5.c0
    have d1 : W9.cell? ⟨w.heap.size, 0 + 1, none⟩ = some (.int .i64 0) := A5.c1
    have d2 : W9.cell? ⟨w.heap.size, 0 + 2, none⟩ = some (.int .i64 0) := A5.c2
    have d3 := A5.c3
    have d4 := A5.c4
    exact bodyPost_ret (v := .tuple #[.agg #[.string ⟨#[]⟩, .int .i64 0, .int .i64 0, .slice none 0 0, .slice none 0 0], .int .i64 5]) (by simp [results, Try.results7, go_sem, d0, d1, d2, d3, d4]) rfl ⟨ba_ret HB.out, b5⟩
  have HB : Hid (Ba xs s (xs.getD k noB) 0) := HBK.out (by trivial) k hk hr
  have hat := HA.out W2 b2
  have hfk := HF.out k hk
  have hsk := HS.out.2 k hk
  have hrw := hat.2 k hk
  obtain ⟨⟨a', cap', e', hh⟩, _⟩ := hat
  cases e'
  rcases hh with e | ⟨bb, off, rfl, hbl, hcells⟩
  · rw [e] at hk; simp at hk
  have hck := hcells k hk
  clear hcells hr HB1 HB5 HBK
  generalize xs.getD k noB = y at HB hsk hrw hck
  generalize vs k = p at hfk hrw hck
  obtain ⟨p1, p2⟩ := p
  simp only at hfk hrw hck
  obtain ⟨q0, q1, q2, q3, q4⟩ := hck
  simp only at q3 q4
  have HRW : Hid (RowsIn W2 W2.heap.size p1 p2 y.ms y.ks) := hrw
  have HFK : Hid (Fine p1 ∧ Fine p2) := hfk
  have HSK : Hid (Small y) := hsk
  obtain ⟨⟨pa, pc, rfl, _⟩, ⟨ra, rc, rfl, _⟩⟩ := hrw
  clear hfk hsk
  have hk' : (k : Int) < (xs.length : Int) := by omega
  have hk0 : (0 : Int) ≤ (k : Int) := by omega
  go_wp2_with fail
  clear q0 q1 q2 q3 q4
  refine (l09Box_any y _ _ _ W2 HRW.out (Nat.le_refl _) HFK.out.1 HFK.out.2 HSK.out.2.2.1.1 HSK.out.2.2.2.1).mono ?_
  rintro e W3 ⟨⟨v', u', rfl, ho1, ho2⟩, k3⟩
  have R3 := R2.keep k3
  have b3 := b2.trans (k3.mono b2.size)
  have HO : Hid (OwnM W3 w.heap.size v' y.ms ∧ OwnK W3 w.heap.size u' y.ks) := ⟨own_low ho1 b2.size, own_low ho2 b2.size⟩
  obtain ⟨va, vc, rfl, _⟩ := slice_of ho1
  obtain ⟨ua, uc, rfl, _⟩ := slice_of ho2
  clear ho1 ho2 R2 b2 k3 HRW
  unfold BV
  have r0 := R3.c0
  have r1 := R3.c1
  have r2 := R3.c2
  have r3 := R3.c3
  have r4 := R3.c4
  have fr := R3.f
  have HE : Hid (Lies (put5w W3 w.heap.size (.string y.nm) (.int .i64 y.vd) (.int .i64 y.nx) (.slice va y.ms.length vc) (.slice ua y.ks.length uc)) w.heap.size 27 y (.slice va y.ms.length vc) (.slice ua y.ks.length uc) ∧ Below w.heap.size w (put5w W3 w.heap.size (.string y.nm) (.int .i64 y.vd) (.int .i64 y.nx) (.slice va y.ms.length vc) (.slice ua y.ks.length uc)) ∧ OwnM (put5w W3 w.heap.size (.string y.nm) (.int .i64 y.vd) (.int .i64 y.nx) (.slice va y.ms.length vc) (.slice ua y.ks.length uc)) w.heap.size (.slice va y.ms.length vc) y.ms ∧ OwnK (put5w W3 w.heap.size (.string y.nm) (.int .i64 y.vd) (.int .i64 y.nx) (.slice va y.ms.length vc) (.slice ua y.ks.length uc)) w.heap.size (.slice ua y.ks.length uc) y.ks) :=
    ⟨put5w_lies R3, put5w_below b3 (Nat.le_refl _), own_grown HO.out.1 (put5w_grown _ _ _ _ _ _ _) (row_box HO.out.1 R3 (by decide)), own_grown HO.out.2 (put5w_grown _ _ _ _ _ _ _) (row_box HO.out.2 R3 (by decide))⟩
  clear R3 b3 HO
  go_wp2
  change bodyPost _ _ _ _ _ (put5w W3 w.heap.size (.string y.nm) (.int .i64 y.vd) (.int .i64 y.nx) (.slice va y.ms.length vc) (.slice ua y.ks.length uc))
  generalize put5w _ _ _ _ _ _ _ = W9 at HE ⊢
  have d0 := HE.out.1.c0
  have d1 := HE.out.1.c1
  have d2 := HE.out.1.c2
  have d3 := HE.out.1.c3
  have d4 := HE.out.1.c4
  exact bodyPost_ret (v := .tuple #[.agg #[.string y.nm, .int .i64 y.vd, .int .i64 y.nx, .slice va y.ms.length vc, .slice ua y.ks.length uc], .int .i64 0]) (by simp [results, Try.results7, go_sem, d0, d1, d2, d3, d4]) rfl ⟨⟨y, 0, _, _, rfl, HB.out, HE.out.2.2.1, HE.out.2.2.2⟩, HE.out.2.1⟩
end Go.Proofs.Ytbhjinhedbgmnab.bx
