/-
  A box, copied by the specification; both BoxAt functions.
-/
import Derived.Test.YtbhjinhedbgmnabBcb
import Derived.Test.YtbhjinhedbgmnabBcd
namespace Go.Proofs.Ytbhjinhedbgmnab.bx
open Go.RowKit Go.Deep
open st
set_option linter.unusedVariables false

theorem rowkinds {x : World} {b1 b2 e1 e2 s1 s2 n1 n2 : Nat} {v u : Value} {xs ys : List Value} (h : x.ownsRow b1 e1 s1 v n1 xs) (h2 : x.ownsRow b2 e2 s2 u n2 ys) (hne : e1 ≠ e2) : v.ownBlock = none ∨ v.ownBlock ≠ u.ownBlock := by
  rcases h.2 with ⟨rfl, _⟩ | ⟨g, cap, cur, rfl, _, hb, _⟩
  · exact .inl rfl
  · right
    intro hk
    rcases h2.2 with ⟨rfl, _⟩ | ⟨g', cap', cur', rfl, _, hb', _⟩
    · simp [Value.ownBlock] at hk
    · have e : g = g' := by simpa [Value.ownBlock] using hk
      subst e
      rw [hb] at hb'
      simp at hb'
      exact hne hb'.2
theorem lies_row {x x' : World} {G : Nat} {m : Bx} {v1 u1 : Value} {b e s n : Nat} {v : Value} {xs : List Value} (h : Lies x G 27 m v1 u1) (ho : x.ownsRow b e s v n xs) (hg : x.grownBy x' v.ownBlock) (hne : e ≠ 27) : Lies x' G 27 m v1 u1 :=
  (hg.block G h.lt (fun e => row_box ho h hne e.symm)).trans h
set_option maxHeartbeats 4000000 in
set_option maxRecDepth 100000 in
theorem l09Box_any (y : Bx) (v u : Value) (N : Nat) (w : World) (h : RowsIn w N v u y.ms y.ks) (hN : N ≤ w.heap.size) (hv : Fine v) (hu : Fine u) (hm : y.ms.length ≤ 1048576) (hk : y.ks.length ≤ 1048576) :
    Calls Try.prog 31 #[BV y v u] w fun e w' => (∃ v' u', e = .returned (BV y v' u') ∧ OwnM w' w.heap.size v' y.ms ∧ OwnK w' w.heap.size u' y.ks) ∧ Below w.heap.size w w' := by
  obtain ⟨i0, hi, hz0, hz1, hz2⟩ := info_parts infoS
  obtain ⟨j0, hj, hy0, hy1, hy2⟩ := info_parts infoT
  have L0 := (lies_new w 27 y v u).keep (new_below _ 27 #[.string ⟨#[]⟩, .int .i64 0, .int .i64 0, .slice none 0 0, .slice none 0 0])
  have R0 : Lies ((w.alloc (.cells #[.string y.nm, .int .i64 y.vd, .int .i64 y.nx, v, u] 27)).alloc (.cells #[.string ⟨#[]⟩, .int .i64 0, .int .i64 0, .slice none 0 0, .slice none 0 0] 27)) (w.alloc (.cells #[.string y.nm, .int .i64 y.vd, .int .i64 y.nx, v, u] 27)).heap.size 27 B0 (.slice none 0 0) (.slice none 0 0) := lies_new (w.alloc (.cells #[.string y.nm, .int .i64 y.vd, .int .i64 y.nx, v, u] 27)) 27 B0 (.slice none 0 0) (.slice none 0 0)
  have b0 : Below w.heap.size w ((w.alloc (.cells #[.string y.nm, .int .i64 y.vd, .int .i64 y.nx, v, u] 27)).alloc (.cells #[.string ⟨#[]⟩, .int .i64 0, .int .i64 0, .slice none 0 0, .slice none 0 0] 27)) := (new_below w _ _).trans ((new_below _ _ _).mono (by simp))
  have s0 : ((w.alloc (.cells #[.string y.nm, .int .i64 y.vd, .int .i64 y.nx, v, u] 27)).alloc (.cells #[.string ⟨#[]⟩, .int .i64 0, .int .i64 0, .slice none 0 0, .slice none 0 0] 27)).heap.size = w.heap.size + 2 := by simp
  rw [show (w.alloc (.cells #[.string y.nm, .int .i64 y.vd, .int .i64 y.nx, v, u] 27)).heap.size = w.heap.size + 1 by simp] at R0
  have HR : Hid (∀ W, Below w.heap.size w W → RowsIn W N v u y.ms y.ks) := fun W hW => rows_in_below h hW hN
  have HFV : Hid (Fine v ∧ Fine u) := ⟨hv, hu⟩
  have HF2 : Hid (∃ a n c a' n' c', v = .slice a n c ∧ u = .slice a' n' c') := by
    obtain ⟨⟨a, cap, e1, _⟩, ⟨a1, cap1, e2, _⟩⟩ := h
    exact ⟨_, _, _, _, _, _, e1, e2⟩
  clear hv hu h
  unfold BV
  go_enter Try.func31, Try.ntmps31
  go_upto_region 1 with fail
  generalize World.alloc _ _ = W0 at L0 R0 b0 s0 ⊢
  have HZ0 : Hid (W0.heap.size = w.heap.size + 2) := s0
  clear s0
  have c3 := L0.c3
  have f3 := L0.f 3
  have kE := new_below W0 97 #[]
  have HRW : Hid (RowsIn (W0.alloc (.cells #[] 97)) N v u y.ms y.ks) := HR.out _ (b0.trans (kE.mono b0.size))
  have HO : Hid ((W0.alloc (.cells #[] 97)).ownsRow (w.heap.size + 2) 97 3 (.slice (some ⟨W0.heap.size, 0, none⟩) 0 0) 0 []) := World.ownsRow_made W0 #[] 0 (Nat.le_of_eq HZ0.out.symm) (Nat.zero_le _) rfl
  have LE := L0.keep kE
  have RE := R0.keep kE
  have bE := b0.trans (kE.mono b0.size)
  have hszE : w.heap.size + 2 ≤ (W0.alloc (.cells #[] 97)).heap.size := by have := HZ0.out; simp; omega
  have c3' := LE.c3
  go_upto_region 2 with (at_builtin; refine wpList_append_any rfl _ _ 24 rfl (w.heap.size + 2) 97 i0 _ 3 32 Try.underlying24 hi hz0 hz1 hz2 rfl (by decide) _ _ _ rfl HO.out v y.ms.length (mc y.ms) rfl (mails_src HRW.out.1 HFV.out.1) (mc_one y.ms) (by unfold maxLen; omega) (by omega) hszE ?_; intro v1 w1 hown1 hg1; have HE1 : Hid (OwnM w1 (w.heap.size + 2) v1 y.ms ∧ Lies w1 w.heap.size 27 y v u ∧ Lies w1 (w.heap.size + 1) 27 B0 (.slice none 0 0) (.slice none 0 0) ∧ Below w.heap.size w w1 ∧ w.heap.size + 2 ≤ w1.heap.size) := ⟨by simpa [OwnM] using hown1, lies_row LE HO.out hg1 (by decide), lies_row RE HO.out hg1 (by decide), bE.grown hg1 (Nat.le_trans (by omega) hszE) (fun k hk => Nat.le_trans (by omega) (HO.out.lt k hk).1), Nat.le_trans hszE hg1.size⟩; have k3 := HE1.out.2.1.c3; have k3f := HE1.out.2.1.f 3; obtain ⟨va, vc, rfl, _⟩ := slice_of HE1.out.1)
  have HK : Hid (Lies (w1.setCell ⟨w.heap.size, 3, none⟩ (.slice va y.ms.length vc)) w.heap.size 27 y (.slice va y.ms.length vc) u ∧ Lies (w1.setCell ⟨w.heap.size, 3, none⟩ (.slice va y.ms.length vc)) (w.heap.size + 1) 27 B0 (.slice none 0 0) (.slice none 0 0) ∧ OwnM (w1.setCell ⟨w.heap.size, 3, none⟩ (.slice va y.ms.length vc)) (w.heap.size + 2) (.slice va y.ms.length vc) y.ms ∧ Below w.heap.size w (w1.setCell ⟨w.heap.size, 3, none⟩ (.slice va y.ms.length vc)) ∧ w.heap.size + 2 ≤ (w1.setCell ⟨w.heap.size, 3, none⟩ (.slice va y.ms.length vc)).heap.size) :=
    ⟨HE1.out.2.1.put3 _, HE1.out.2.2.1.other (by omega), own_var HE1.out.1 HE1.out.2.1 (by decide), HE1.out.2.2.2.1.setCell (p := ⟨w.heap.size, 3, none⟩) (Nat.le_refl _) _, by simp; exact HE1.out.2.2.2.2⟩
  clear HE1 hg1 hown1 L0 R0 b0 HZ0 c3 f3 kE HRW HO LE RE bE hszE c3' k3 k3f
  generalize w1.setCell _ _ = W2 at HK ⊢
  have c4 := HK.out.1.c4
  have kE := new_below W2 9 #[]
  have bE := HK.out.2.2.2.1.trans (kE.mono HK.out.2.2.2.1.size)
  have HRW : Hid (RowsIn (W2.alloc (.cells #[] 9)) N v u y.ms y.ks) := HR.out _ bE
  have HO : Hid ((W2.alloc (.cells #[] 9)).ownsRow (w.heap.size + 2) 9 1 (.slice (some ⟨W2.heap.size, 0, none⟩) 0 0) 0 []) := World.ownsRow_made W2 #[] 0 HK.out.2.2.2.2 (Nat.zero_le _) rfl
  have LE := HK.out.1.keep kE
  have RE := HK.out.2.1.keep kE
  have OE : OwnM (W2.alloc (.cells #[] 9)) (w.heap.size + 2) (.slice va y.ms.length vc) y.ms := ow.own_below HK.out.2.2.1 kE
  have hszE : w.heap.size + 2 ≤ (W2.alloc (.cells #[] 9)).heap.size := by have := HK.out.2.2.2.2; simp; omega
  have c4' := LE.c4
  go_upto_region 3 with (at_builtin; refine wpList_append_any rfl _ _ 25 rfl (w.heap.size + 2) 9 j0 _ 1 16 Try.underlying25 hj hy0 hy1 hy2 rfl (by decide) _ _ _ rfl HO.out u y.ks.length (y.ks.map Value.string) rfl (texts_src HRW.out.2 HFV.out.2) (str_one y.ks) (by unfold maxLen; omega) (by omega) hszE ?_; intro u1 w3 hown3 hg3; have HE3 : Hid (OwnK w3 (w.heap.size + 2) u1 y.ks ∧ Lies w3 w.heap.size 27 y (.slice va y.ms.length vc) u ∧ Lies w3 (w.heap.size + 1) 27 B0 (.slice none 0 0) (.slice none 0 0) ∧ OwnM w3 (w.heap.size + 2) (.slice va y.ms.length vc) y.ms ∧ Below w.heap.size w w3) := ⟨by simpa [OwnK] using hown3, lies_row LE HO.out hg3 (by decide), lies_row RE HO.out hg3 (by decide), OE.kept hg3 (rowkinds OE HO.out (by decide)), bE.grown hg3 (Nat.le_trans (by omega) hszE) (fun k hk => Nat.le_trans (by omega) (HO.out.lt k hk).1)⟩; have k4 := HE3.out.2.1.c4; have k4f := HE3.out.2.1.f 4; obtain ⟨ua, uc, rfl, _⟩ := slice_of HE3.out.1)
  have L := HE3.out.2.1.put4 (.slice ua y.ks.length uc)
  have R : Lies (w3.setCell ⟨w.heap.size, 4, none⟩ (.slice ua y.ks.length uc)) (w.heap.size + 1) 27 B0 (.slice none 0 0) (.slice none 0 0) := HE3.out.2.2.1.other (by omega)
  have OM : OwnM (w3.setCell ⟨w.heap.size, 4, none⟩ (.slice ua y.ks.length uc)) (w.heap.size + 2) (.slice va y.ms.length vc) y.ms := own_var HE3.out.2.2.2.1 HE3.out.2.1 (by decide)
  have OK : OwnK (w3.setCell ⟨w.heap.size, 4, none⟩ (.slice ua y.ks.length uc)) (w.heap.size + 2) (.slice ua y.ks.length uc) y.ks := own_var HE3.out.1 HE3.out.2.1 (by decide)
  have b3 := HE3.out.2.2.2.2.setCell (p := ⟨w.heap.size, 4, none⟩) (Nat.le_refl _) (.slice ua y.ks.length uc)
  clear HE3 hown3 hg3 kE bE HRW HO LE RE OE hszE c4' k4 k4f HK c4
  generalize w3.setCell _ _ = W4 at L R OM OK b3 ⊢
  have c0 := L.c0
  have c1 := L.c1
  have c2 := L.c2
  have c3 := L.c3
  have c4 := L.c4
  have r0 := R.c0
  have r1 := R.c1
  have r2 := R.c2
  have r3 := R.c3
  have r4 := R.c4
  have fr := R.f
  have HE : Hid (Lies (put5w W4 (w.heap.size + 1) (.string y.nm) (.int .i64 y.vd) (.int .i64 y.nx) (.slice va y.ms.length vc) (.slice ua y.ks.length uc)) (w.heap.size + 1) 27 y (.slice va y.ms.length vc) (.slice ua y.ks.length uc) ∧ Below w.heap.size w (put5w W4 (w.heap.size + 1) (.string y.nm) (.int .i64 y.vd) (.int .i64 y.nx) (.slice va y.ms.length vc) (.slice ua y.ks.length uc)) ∧ OwnM (put5w W4 (w.heap.size + 1) (.string y.nm) (.int .i64 y.vd) (.int .i64 y.nx) (.slice va y.ms.length vc) (.slice ua y.ks.length uc)) w.heap.size (.slice va y.ms.length vc) y.ms ∧ OwnK (put5w W4 (w.heap.size + 1) (.string y.nm) (.int .i64 y.vd) (.int .i64 y.nx) (.slice va y.ms.length vc) (.slice ua y.ks.length uc)) w.heap.size (.slice ua y.ks.length uc) y.ks) :=
    ⟨put5w_lies R, put5w_below b3 (by omega), own_low (own_grown OM (put5w_grown _ _ _ _ _ _ _) (row_box OM R (by decide))) (by omega), own_low (own_grown OK (put5w_grown _ _ _ _ _ _ _) (row_box OK R (by decide))) (by omega)⟩
  clear L R OM OK b3
  go_wp2
  change bodyPost _ _ _ _ _ (put5w W4 (w.heap.size + 1) (.string y.nm) (.int .i64 y.vd) (.int .i64 y.nx) (.slice va y.ms.length vc) (.slice ua y.ks.length uc))
  generalize put5w _ _ _ _ _ _ _ = W9 at HE ⊢
  have d0 := HE.out.1.c0
  have d1 := HE.out.1.c1
  have d2 := HE.out.1.c2
  have d3 := HE.out.1.c3
  have d4 := HE.out.1.c4
  exact bodyPost_ret (v := .agg #[.string y.nm, .int .i64 y.vd, .int .i64 y.nx, .slice va y.ms.length vc, .slice ua y.ks.length uc]) (by simp [results, Try.results31, go_sem, d0, d1, d2, d3, d4]) rfl ⟨⟨_, _, rfl, HE.out.2.2.1, HE.out.2.2.2⟩, HE.out.2.1⟩

/-- What BoxAt answers. -/
def Ba (xs : List Bx) (s : ByteArray) (y : Bx) (c : Int) : Prop :=
  (¬ (xs.length ≤ 4096 ∧ s.size ≤ 65536) ∧ y = B0 ∧ c = 2) ∨ ((xs.length ≤ 4096 ∧ s.size ≤ 65536) ∧ sok xs = false ∧ y = B0 ∧ c = 1) ∨ ((xs.length ≤ 4096 ∧ s.size ≤ 65536) ∧ sok xs = true ∧ Plc xs s (-1) ∧ y = B0 ∧ c = 5) ∨ ((xs.length ≤ 4096 ∧ s.size ≤ 65536) ∧ sok xs = true ∧ ∃ k : Nat, k < xs.length ∧ Plc xs s k ∧ y = xs.getD k noB ∧ c = 0)
theorem ba_one {xs : List Bx} {s : ByteArray} {y y' : Bx} {c c' : Int} (h : Ba xs s y c) (h' : Ba xs s y' c') : y = y' ∧ c = c' := by
  rcases h with ⟨h1, rfl, rfl⟩ | ⟨h1, h2, rfl, rfl⟩ | ⟨h1, h2, h3, rfl, rfl⟩ | ⟨h1, h2, k, hk, h3, rfl, rfl⟩
  · rcases h' with ⟨_, rfl, rfl⟩ | ⟨g1, _⟩ | ⟨g1, _⟩ | ⟨g1, _⟩
    · exact ⟨rfl, rfl⟩
    · exact absurd g1 h1
    · exact absurd g1 h1
    · exact absurd g1 h1
  · rcases h' with ⟨g1, _⟩ | ⟨_, _, rfl, rfl⟩ | ⟨_, g2, _⟩ | ⟨_, g2, _⟩
    · exact absurd h1 g1
    · exact ⟨rfl, rfl⟩
    · rw [h2] at g2; cases g2
    · rw [h2] at g2; cases g2
  · rcases h' with ⟨g1, _⟩ | ⟨_, g2, _⟩ | ⟨_, _, _, rfl, rfl⟩ | ⟨_, _, k, hk, g3, _⟩
    · exact absurd h1 g1
    · rw [h2] at g2; cases g2
    · exact ⟨rfl, rfl⟩
    · have := plc_one h3 g3; omega
  · rcases h' with ⟨g1, _⟩ | ⟨_, g2, _⟩ | ⟨_, _, g3, _⟩ | ⟨_, _, k', hk', g3, rfl, rfl⟩
    · exact absurd h1 g1
    · rw [h2] at g2; cases g2
    · have := plc_one h3 g3; omega
    · have e := plc_one h3 g3
      have : k = k' := by omega
      subst this
      exact ⟨rfl, rfl⟩
theorem plc_nat {xs : List Bx} {s : ByteArray} {r : Int} (h : Plc xs s r) : r = -1 ∨ ∃ k : Nat, r = k ∧ k < xs.length := by
  rcases h with ⟨k, rfl, hk, _⟩ | ⟨rfl, _⟩
  · exact .inr ⟨k, rfl, hk⟩
  · exact .inl rfl
def Fines (xs : List Bx) (vs : Nat → Value × Value) : Prop := ∀ j, j < xs.length → Fine (vs j).1 ∧ Fine (vs j).2
def BaRet (xs : List Bx) (s : ByteArray) (base : Nat) (e : Ending) (w : World) : Prop := ∃ y c v u, e = .returned (.tuple #[BV y v u, .int .i64 c]) ∧ Ba xs s y c ∧ OwnM w base v y.ms ∧ OwnK w base u y.ks
theorem own_nilM (w : World) (B : Nat) : OwnM w B (.slice none 0 0) B0.ms := World.ownsRow_nil _ _ _ _
theorem own_nilK (w : World) (B : Nat) : OwnK w B (.slice none 0 0) B0.ks := World.ownsRow_nil _ _ _ _
theorem ba_ret {xs : List Bx} {s : ByteArray} {base : Nat} {w : World} {c : Int} (h : Ba xs s B0 c) : BaRet xs s base (.returned (.tuple #[.agg #[.string ⟨#[]⟩, .int .i64 0, .int .i64 0, .slice none 0 0, .slice none 0 0], .int .i64 c])) w := ⟨B0, c, _, _, rfl, h, own_nilM _ _, own_nilK _ _⟩
end Go.Proofs.Ytbhjinhedbgmnab.bx
