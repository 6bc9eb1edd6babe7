/-
  A box, copied by the specification; both BoxAt functions.
  A list of boxes, marked by the law's own function, as to its shape; a box, marked and held against its marks.
  A list of boxes that is one's own memory, all of it; slices.Clone of a list of boxes.
  copiedBoxes: a list of boxes, copied all of it.
  l09Own: a list of boxes, copied all of it.
-/
import Derived.Test.YtncnbhekgkemfaaGreatDoorPkar
import Derived.Test.YtncnbhekgkemfaaGreatDoorPkap
import Derived.Test.YtncnbhekgkemfaaGreatDoorPkam

namespace Go.Proofs.YtncnbhekgkemfaaGreatDoor.bx
open Go.RowKit Go.Deep
open st
set_option linter.unusedVariables false

theorem rowkinds {x : World} {b1 b2 e1 e2 s1 s2 n1 n2 : Nat} {v u : Value} {xs ys : List Value} (h : x.ownsRow b1 e1 s1 v n1 xs) (h2 : x.ownsRow b2 e2 s2 u n2 ys) (hne : e1 ≠ e2) : v.ownBlock = none ∨ v.ownBlock ≠ u.ownBlock := by
  rcases h.2 with ⟨rfl, _⟩ | ⟨g, cap, cur, rfl, _, hb, _⟩
  · exact .inl rfl
  · right
    intro hk
    rcases h2.2 with ⟨rfl, _⟩ | ⟨g', cap', cur', rfl, _, hb', _⟩
    · simp [Value.ownBlock] at hk
    · have e : g = g' := by simpa [Value.ownBlock] using hk
      subst e
      rw [hb] at hb'
      simp at hb'
      exact hne hb'.2
theorem lies_row {x x' : World} {G : Nat} {m : Bx} {v1 u1 : Value} {b e s n : Nat} {v : Value} {xs : List Value} (h : Lies x G 99 m v1 u1) (ho : x.ownsRow b e s v n xs) (hg : x.grownBy x' v.ownBlock) (hne : e ≠ 99) : Lies x' G 99 m v1 u1 :=
  (hg.block G h.lt (fun e => row_box ho h hne e.symm)).trans h
set_option maxHeartbeats 4000000 in
set_option maxRecDepth 100000 in
theorem l09Box_any (y : Bx) (v u : Value) (N : Nat) (w : World) (h : RowsIn w N v u y.ms y.ks) (hN : N ≤ w.heap.size) (hv : Fine v) (hu : Fine u) (hm : y.ms.length ≤ 1048576) (hk : y.ks.length ≤ 1048576) :
    Calls Tryz.prog 106 #[BV y v u] w fun e w' => (∃ v' u', e = .returned (BV y v' u') ∧ OwnM w' w.heap.size v' y.ms ∧ OwnK w' w.heap.size u' y.ks) ∧ Below w.heap.size w w' := by
  obtain ⟨i0, hi, hz0, hz1, hz2⟩ := info_parts infoS
  obtain ⟨j0, hj, hy0, hy1, hy2⟩ := info_parts infoT
  have L0 := (lies_new w 99 y v u).keep (new_below _ 99 #[.string ⟨#[]⟩, .int .i64 0, .int .i64 0, .slice none 0 0, .slice none 0 0])
  have R0 : Lies ((w.alloc (.cells #[.string y.nm, .int .i64 y.vd, .int .i64 y.nx, v, u] 99)).alloc (.cells #[.string ⟨#[]⟩, .int .i64 0, .int .i64 0, .slice none 0 0, .slice none 0 0] 99)) (w.alloc (.cells #[.string y.nm, .int .i64 y.vd, .int .i64 y.nx, v, u] 99)).heap.size 99 B0 (.slice none 0 0) (.slice none 0 0) := lies_new (w.alloc (.cells #[.string y.nm, .int .i64 y.vd, .int .i64 y.nx, v, u] 99)) 99 B0 (.slice none 0 0) (.slice none 0 0)
  have b0 : Below w.heap.size w ((w.alloc (.cells #[.string y.nm, .int .i64 y.vd, .int .i64 y.nx, v, u] 99)).alloc (.cells #[.string ⟨#[]⟩, .int .i64 0, .int .i64 0, .slice none 0 0, .slice none 0 0] 99)) := (new_below w _ _).trans ((new_below _ _ _).mono (by simp))
  have s0 : ((w.alloc (.cells #[.string y.nm, .int .i64 y.vd, .int .i64 y.nx, v, u] 99)).alloc (.cells #[.string ⟨#[]⟩, .int .i64 0, .int .i64 0, .slice none 0 0, .slice none 0 0] 99)).heap.size = w.heap.size + 2 := by simp
  rw [show (w.alloc (.cells #[.string y.nm, .int .i64 y.vd, .int .i64 y.nx, v, u] 99)).heap.size = w.heap.size + 1 by simp] at R0
  have HR : Hid (∀ W, Below w.heap.size w W → RowsIn W N v u y.ms y.ks) := fun W hW => rows_in_below h hW hN
  have HFV : Hid (Fine v ∧ Fine u) := ⟨hv, hu⟩
  have HF2 : Hid (∃ a n c a' n' c', v = .slice a n c ∧ u = .slice a' n' c') := by
    obtain ⟨⟨a, cap, e1, _⟩, ⟨a1, cap1, e2, _⟩⟩ := h
    exact ⟨_, _, _, _, _, _, e1, e2⟩
  clear hv hu h
  unfold BV
  go_enter Tryz.func106, Tryz.ntmps106
  go_upto_region 1 with fail
  generalize World.alloc _ _ = W0 at L0 R0 b0 s0 ⊢
  have HZ0 : Hid (W0.heap.size = w.heap.size + 2) := s0
  clear s0
  have c3 := L0.c3
  have f3 := L0.f 3
  have kE := new_below W0 110 #[]
  have HRW : Hid (RowsIn (W0.alloc (.cells #[] 110)) N v u y.ms y.ks) := HR.out _ (b0.trans (kE.mono b0.size))
  have HO : Hid ((W0.alloc (.cells #[] 110)).ownsRow (w.heap.size + 2) 110 3 (.slice (some ⟨W0.heap.size, 0, none⟩) 0 0) 0 []) := World.ownsRow_made W0 #[] 0 (Nat.le_of_eq HZ0.out.symm) (Nat.zero_le _) rfl
  have LE := L0.keep kE
  have RE := R0.keep kE
  have bE := b0.trans (kE.mono b0.size)
  have hszE : w.heap.size + 2 ≤ (W0.alloc (.cells #[] 110)).heap.size := by have := HZ0.out; simp; omega
  have c3' := LE.c3
  go_upto_region 2 with (at_builtin; refine wpList_append_any rfl _ _ 97 rfl (w.heap.size + 2) 110 i0 _ 3 32 Tryz.underlying97 hi hz0 hz1 hz2 rfl (by decide) _ _ _ rfl HO.out v y.ms.length (mc y.ms) rfl (mails_src HRW.out.1 HFV.out.1) (mc_one y.ms) (by unfold maxLen; omega) (by omega) hszE ?_; intro v1 w1 hown1 hg1; have HE1 : Hid (OwnM w1 (w.heap.size + 2) v1 y.ms ∧ Lies w1 w.heap.size 99 y v u ∧ Lies w1 (w.heap.size + 1) 99 B0 (.slice none 0 0) (.slice none 0 0) ∧ Below w.heap.size w w1 ∧ w.heap.size + 2 ≤ w1.heap.size) := ⟨by simpa [OwnM] using hown1, lies_row LE HO.out hg1 (by decide), lies_row RE HO.out hg1 (by decide), bE.grown hg1 (Nat.le_trans (by omega) hszE) (fun k hk => Nat.le_trans (by omega) (HO.out.lt k hk).1), Nat.le_trans hszE hg1.size⟩; have k3 := HE1.out.2.1.c3; have k3f := HE1.out.2.1.f 3; obtain ⟨va, vc, rfl, _⟩ := slice_of HE1.out.1)
  have HK : Hid (Lies (w1.setCell ⟨w.heap.size, 3, none⟩ (.slice va y.ms.length vc)) w.heap.size 99 y (.slice va y.ms.length vc) u ∧ Lies (w1.setCell ⟨w.heap.size, 3, none⟩ (.slice va y.ms.length vc)) (w.heap.size + 1) 99 B0 (.slice none 0 0) (.slice none 0 0) ∧ OwnM (w1.setCell ⟨w.heap.size, 3, none⟩ (.slice va y.ms.length vc)) (w.heap.size + 2) (.slice va y.ms.length vc) y.ms ∧ Below w.heap.size w (w1.setCell ⟨w.heap.size, 3, none⟩ (.slice va y.ms.length vc)) ∧ w.heap.size + 2 ≤ (w1.setCell ⟨w.heap.size, 3, none⟩ (.slice va y.ms.length vc)).heap.size) :=
    ⟨HE1.out.2.1.put3 _, HE1.out.2.2.1.other (by omega), own_var HE1.out.1 HE1.out.2.1 (by decide), HE1.out.2.2.2.1.setCell (p := ⟨w.heap.size, 3, none⟩) (Nat.le_refl _) _, by simp; exact HE1.out.2.2.2.2⟩
  clear HE1 hg1 hown1 L0 R0 b0 HZ0 c3 f3 kE HRW HO LE RE bE hszE c3' k3 k3f
  generalize w1.setCell _ _ = W2 at HK ⊢
  have c4 := HK.out.1.c4
  have kE := new_below W2 9 #[]
  have bE := HK.out.2.2.2.1.trans (kE.mono HK.out.2.2.2.1.size)
  have HRW : Hid (RowsIn (W2.alloc (.cells #[] 9)) N v u y.ms y.ks) := HR.out _ bE
  have HO : Hid ((W2.alloc (.cells #[] 9)).ownsRow (w.heap.size + 2) 9 1 (.slice (some ⟨W2.heap.size, 0, none⟩) 0 0) 0 []) := World.ownsRow_made W2 #[] 0 HK.out.2.2.2.2 (Nat.zero_le _) rfl
  have LE := HK.out.1.keep kE
  have RE := HK.out.2.1.keep kE
  have OE : OwnM (W2.alloc (.cells #[] 9)) (w.heap.size + 2) (.slice va y.ms.length vc) y.ms := ow.own_below HK.out.2.2.1 kE
  have hszE : w.heap.size + 2 ≤ (W2.alloc (.cells #[] 9)).heap.size := by have := HK.out.2.2.2.2; simp; omega
  have c4' := LE.c4
  go_upto_region 3 with (at_builtin; refine wpList_append_any rfl _ _ 68 rfl (w.heap.size + 2) 9 j0 _ 1 16 Tryz.underlying68 hj hy0 hy1 hy2 rfl (by decide) _ _ _ rfl HO.out u y.ks.length (y.ks.map Value.string) rfl (texts_src HRW.out.2 HFV.out.2) (str_one y.ks) (by unfold maxLen; omega) (by omega) hszE ?_; intro u1 w3 hown3 hg3; have HE3 : Hid (OwnK w3 (w.heap.size + 2) u1 y.ks ∧ Lies w3 w.heap.size 99 y (.slice va y.ms.length vc) u ∧ Lies w3 (w.heap.size + 1) 99 B0 (.slice none 0 0) (.slice none 0 0) ∧ OwnM w3 (w.heap.size + 2) (.slice va y.ms.length vc) y.ms ∧ Below w.heap.size w w3) := ⟨by simpa [OwnK] using hown3, lies_row LE HO.out hg3 (by decide), lies_row RE HO.out hg3 (by decide), OE.kept hg3 (rowkinds OE HO.out (by decide)), bE.grown hg3 (Nat.le_trans (by omega) hszE) (fun k hk => Nat.le_trans (by omega) (HO.out.lt k hk).1)⟩; have k4 := HE3.out.2.1.c4; have k4f := HE3.out.2.1.f 4; obtain ⟨ua, uc, rfl, _⟩ := slice_of HE3.out.1)
  have L := HE3.out.2.1.put4 (.slice ua y.ks.length uc)
  have R : Lies (w3.setCell ⟨w.heap.size, 4, none⟩ (.slice ua y.ks.length uc)) (w.heap.size + 1) 99 B0 (.slice none 0 0) (.slice none 0 0) := HE3.out.2.2.1.other (by omega)
  have OM : OwnM (w3.setCell ⟨w.heap.size, 4, none⟩ (.slice ua y.ks.length uc)) (w.heap.size + 2) (.slice va y.ms.length vc) y.ms := own_var HE3.out.2.2.2.1 HE3.out.2.1 (by decide)
  have OK : OwnK (w3.setCell ⟨w.heap.size, 4, none⟩ (.slice ua y.ks.length uc)) (w.heap.size + 2) (.slice ua y.ks.length uc) y.ks := own_var HE3.out.1 HE3.out.2.1 (by decide)
  have b3 := HE3.out.2.2.2.2.setCell (p := ⟨w.heap.size, 4, none⟩) (Nat.le_refl _) (.slice ua y.ks.length uc)
  clear HE3 hown3 hg3 kE bE HRW HO LE RE OE hszE c4' k4 k4f HK c4
  generalize w3.setCell _ _ = W4 at L R OM OK b3 ⊢
  have c0 := L.c0
  have c1 := L.c1
  have c2 := L.c2
  have c3 := L.c3
  have c4 := L.c4
  have r0 := R.c0
  have r1 := R.c1
  have r2 := R.c2
  have r3 := R.c3
  have r4 := R.c4
  have fr := R.f
  have HE : Hid (Lies (put5w W4 (w.heap.size + 1) (.string y.nm) (.int .i64 y.vd) (.int .i64 y.nx) (.slice va y.ms.length vc) (.slice ua y.ks.length uc)) (w.heap.size + 1) 99 y (.slice va y.ms.length vc) (.slice ua y.ks.length uc) ∧ Below w.heap.size w (put5w W4 (w.heap.size + 1) (.string y.nm) (.int .i64 y.vd) (.int .i64 y.nx) (.slice va y.ms.length vc) (.slice ua y.ks.length uc)) ∧ OwnM (put5w W4 (w.heap.size + 1) (.string y.nm) (.int .i64 y.vd) (.int .i64 y.nx) (.slice va y.ms.length vc) (.slice ua y.ks.length uc)) w.heap.size (.slice va y.ms.length vc) y.ms ∧ OwnK (put5w W4 (w.heap.size + 1) (.string y.nm) (.int .i64 y.vd) (.int .i64 y.nx) (.slice va y.ms.length vc) (.slice ua y.ks.length uc)) w.heap.size (.slice ua y.ks.length uc) y.ks) :=
    ⟨put5w_lies R, put5w_below b3 (by omega), own_low (own_grown OM (put5w_grown _ _ _ _ _ _ _) (row_box OM R (by decide))) (by omega), own_low (own_grown OK (put5w_grown _ _ _ _ _ _ _) (row_box OK R (by decide))) (by omega)⟩
  clear L R OM OK b3
  go_wp2
  change bodyPost _ _ _ _ _ (put5w W4 (w.heap.size + 1) (.string y.nm) (.int .i64 y.vd) (.int .i64 y.nx) (.slice va y.ms.length vc) (.slice ua y.ks.length uc))
  generalize put5w _ _ _ _ _ _ _ = W9 at HE ⊢
  have d0 := HE.out.1.c0
  have d1 := HE.out.1.c1
  have d2 := HE.out.1.c2
  have d3 := HE.out.1.c3
  have d4 := HE.out.1.c4
  exact bodyPost_ret (v := .agg #[.string y.nm, .int .i64 y.vd, .int .i64 y.nx, .slice va y.ms.length vc, .slice ua y.ks.length uc]) (by simp [results, Tryz.results106, go_sem, d0, d1, d2, d3, d4]) rfl ⟨⟨_, _, rfl, HE.out.2.2.1, HE.out.2.2.2⟩, HE.out.2.1⟩

/-- What BoxAt answers. -/
def Ba (xs : List Bx) (s : ByteArray) (y : Bx) (c : Int) : Prop :=
  (¬ (xs.length ≤ 4096 ∧ s.size ≤ 65536) ∧ y = B0 ∧ c = 2) ∨ ((xs.length ≤ 4096 ∧ s.size ≤ 65536) ∧ sok xs = false ∧ y = B0 ∧ c = 1) ∨ ((xs.length ≤ 4096 ∧ s.size ≤ 65536) ∧ sok xs = true ∧ Plc xs s (-1) ∧ y = B0 ∧ c = 5) ∨ ((xs.length ≤ 4096 ∧ s.size ≤ 65536) ∧ sok xs = true ∧ ∃ k : Nat, k < xs.length ∧ Plc xs s k ∧ y = xs.getD k noB ∧ c = 0)
theorem ba_one {xs : List Bx} {s : ByteArray} {y y' : Bx} {c c' : Int} (h : Ba xs s y c) (h' : Ba xs s y' c') : y = y' ∧ c = c' := by
  rcases h with ⟨h1, rfl, rfl⟩ | ⟨h1, h2, rfl, rfl⟩ | ⟨h1, h2, h3, rfl, rfl⟩ | ⟨h1, h2, k, hk, h3, rfl, rfl⟩
  · rcases h' with ⟨_, rfl, rfl⟩ | ⟨g1, _⟩ | ⟨g1, _⟩ | ⟨g1, _⟩
    · exact ⟨rfl, rfl⟩
    · exact absurd g1 h1
    · exact absurd g1 h1
    · exact absurd g1 h1
  · rcases h' with ⟨g1, _⟩ | ⟨_, _, rfl, rfl⟩ | ⟨_, g2, _⟩ | ⟨_, g2, _⟩
    · exact absurd h1 g1
    · exact ⟨rfl, rfl⟩
    · rw [h2] at g2; cases g2
    · rw [h2] at g2; cases g2
  · rcases h' with ⟨g1, _⟩ | ⟨_, g2, _⟩ | ⟨_, _, _, rfl, rfl⟩ | ⟨_, _, k, hk, g3, _⟩
    · exact absurd h1 g1
    · rw [h2] at g2; cases g2
    · exact ⟨rfl, rfl⟩
    · have := plc_one h3 g3; omega
  · rcases h' with ⟨g1, _⟩ | ⟨_, g2, _⟩ | ⟨_, _, g3, _⟩ | ⟨_, _, k', hk', g3, rfl, rfl⟩
    · exact absurd h1 g1
    · rw [h2] at g2; cases g2
    · have := plc_one h3 g3; omega
    · have e := plc_one h3 g3
      have : k = k' := by omega
      subst this
      exact ⟨rfl, rfl⟩
theorem plc_nat {xs : List Bx} {s : ByteArray} {r : Int} (h : Plc xs s r) : r = -1 ∨ ∃ k : Nat, r = k ∧ k < xs.length := by
  rcases h with ⟨k, rfl, hk, _⟩ | ⟨rfl, _⟩
  · exact .inr ⟨k, rfl, hk⟩
  · exact .inl rfl
def Fines (xs : List Bx) (vs : Nat → Value × Value) : Prop := ∀ j, j < xs.length → Fine (vs j).1 ∧ Fine (vs j).2
def BaRet (xs : List Bx) (s : ByteArray) (base : Nat) (e : Ending) (w : World) : Prop := ∃ y c v u, e = .returned (.tuple #[BV y v u, .int .i64 c]) ∧ Ba xs s y c ∧ OwnM w base v y.ms ∧ OwnK w base u y.ks
theorem own_nilM (w : World) (B : Nat) : OwnM w B (.slice none 0 0) B0.ms := World.ownsRow_nil _ _ _ _
theorem own_nilK (w : World) (B : Nat) : OwnK w B (.slice none 0 0) B0.ks := World.ownsRow_nil _ _ _ _
theorem ba_ret {xs : List Bx} {s : ByteArray} {base : Nat} {w : World} {c : Int} (h : Ba xs s B0 c) : BaRet xs s base (.returned (.tuple #[.agg #[.string ⟨#[]⟩, .int .i64 0, .int .i64 0, .slice none 0 0, .slice none 0 0], .int .i64 c])) w := ⟨B0, c, _, _, rfl, h, own_nilM _ _, own_nilK _ _⟩
end Go.Proofs.YtncnbhekgkemfaaGreatDoor.bx

namespace Go.Proofs.YtncnbhekgkemfaaGreatDoor.mx
open Go.RowKit
open gr mk st bx
open ky (TextsAt OwnT own_texts)
set_option linter.unusedVariables false

theorem mine_below {w w' : World} {A : Nat} {xs : List Bx} {vs : Nat → Value × Value} (h : Mine w A xs vs) (hb : Below w.heap.size w w') : Mine w' A xs vs := by
  obtain ⟨⟨cs, h1, h2⟩, h3⟩ := h
  exact ⟨⟨cs, ow.own_below h1 hb, h2⟩, rws_below h3 hb⟩
/-- The rows lie ahead of B. -/
def Ahead (A B : Nat) (xs : List Bx) (vs : Nat → Value × Value) : Prop := A < B ∧ ∀ j, j < xs.length → (∀ b, (vs j).1.ownBlock = some b → b < B) ∧ (∀ b, (vs j).2.ownBlock = some b → b < B)
theorem mine_ahead {w : World} {A : Nat} {xs : List Bx} {vs : Nat → Value × Value} (h : Mine w A xs vs) : Ahead A w.heap.size xs vs := by
  obtain ⟨⟨cs, h1, h2⟩, h3⟩ := h
  refine ⟨own_lt h1 A rfl, fun j hj => ?_⟩
  obtain ⟨g, g', e, _, _, ⟨c1, o1⟩, ⟨c2, o2⟩⟩ := h3 j hj
  rw [e]
  exact ⟨fun b hb => own_lt o1 b hb, fun b hb => own_lt o2 b hb⟩
theorem mine_fines {w : World} {A : Nat} {xs : List Bx} {vs : Nat → Value × Value} (h : Mine w A xs vs) : Fines xs vs := fun j hj => by
  obtain ⟨g, g', e, _⟩ := h.2 j hj
  rw [e]
  exact ⟨.inr ⟨_, _, _, rfl⟩, .inr ⟨_, _, _, rfl⟩⟩

def Kept (cs : List Value) (n : Nat) (vs : Nat → Value × Value) : Prop := ∀ j, j < n → cs[j * 5 + 3]? = some (vs j).1 ∧ cs[j * 5 + 4]? = some (vs j).2
theorem kept_set {cs : List Value} {n j : Nat} {vs : Nat → Value × Value} (h : Kept cs n vs) (a b c : Value) : Kept (((cs.set (j * 5) a).set (j * 5 + 1) b).set (j * 5 + 2) c) n vs := fun i hi => by
  obtain ⟨h3, h4⟩ := h i hi
  refine ⟨?_, ?_⟩
  · rw [List.getElem?_set_ne (by omega), List.getElem?_set_ne (by omega), List.getElem?_set_ne (by omega), h3]
  · rw [List.getElem?_set_ne (by omega), List.getElem?_set_ne (by omega), List.getElem?_set_ne (by omega), h4]

theorem row_other {w w' : World} {b e s n : Nat} {v u : Value} {xs : List Value} (h : w.ownsRow b e s v n xs) (hg : w.grownBy w' u.ownBlock) (hd : v.ownBlock = none ∨ v.ownBlock ≠ u.ownBlock) : w'.ownsRow b e s v n xs := by
  rcases h.2 with ⟨rfl, hz⟩ | ⟨g, cap, cur, rfl, hB, hh, r⟩
  · exact ⟨h.1, .inl ⟨rfl, hz⟩⟩
  · refine mu.own_block h (hg.block g (Array.getElem?_eq_some_iff.1 hh).1 ?_)
    rcases hd with e | e
    · cases e
    · exact e

end Go.Proofs.YtncnbhekgkemfaaGreatDoor.mx

namespace Go.Proofs.YtncnbhekgkemfaaGreatDoor.bl
open Go.ChangeShapes Go.WideShapes Go.ChangeAt Go.RowKit Go.Deep Go.Joins
open st gr bx mx
set_option linter.unusedVariables false

/-- The cells of the first n boxes. -/
def bcells (xs : List Bx) (vs : Nat → Value × Value) : Nat → List Value
  | 0 => []
  | n + 1 => bcells xs vs n ++ [.string (xs.getD n noB).nm, .int .i64 (xs.getD n noB).vd, .int .i64 (xs.getD n noB).nx, (vs n).1, (vs n).2]
theorem bcells_len (xs : List Bx) (vs : Nat → Value × Value) : ∀ n, (bcells xs vs n).length = n * 5
  | 0 => rfl
  | n + 1 => by simp [bcells, bcells_len xs vs n]; omega
theorem bcells_at (xs : List Bx) (vs : Nat → Value × Value) : ∀ n j, j < n → In5 (bcells xs vs n) (j * 5) (xs.getD j noB) (vs j)
  | 0, j, hj => absurd hj (Nat.not_lt_zero _)
  | n + 1, j, hj => by
    have hl := bcells_len xs vs n
    unfold In5
    by_cases e : j < n
    · obtain ⟨h0, h1, h2, h3, h4⟩ := bcells_at xs vs n j e
      rw [bcells, List.getElem?_append_left (by omega), List.getElem?_append_left (by omega), List.getElem?_append_left (by omega), List.getElem?_append_left (by omega), List.getElem?_append_left (by omega)]
      exact ⟨h0, h1, h2, h3, h4⟩
    · obtain rfl : j = n := by omega
      rw [bcells, List.getElem?_append_right (by omega), List.getElem?_append_right (by omega), List.getElem?_append_right (by omega), List.getElem?_append_right (by omega), List.getElem?_append_right (by omega), hl]
      rw [show j * 5 - j * 5 = 0 by omega, show j * 5 + 1 - j * 5 = 1 by omega, show j * 5 + 2 - j * 5 = 2 by omega, show j * 5 + 3 - j * 5 = 3 by omega, show j * 5 + 4 - j * 5 = 4 by omega]
      exact ⟨rfl, rfl, rfl, rfl, rfl⟩
theorem bcells_ext {xs : List Bx} {vs : Nat → Value × Value} {n : Nat} {cs : List Value} (hl : cs.length = n * 5) (h : LayB xs vs n cs) : cs = bcells xs vs n := by
  refine List.ext_getElem? fun i => ?_
  by_cases hi : i < n * 5
  · have hq : i / 5 < n := by omega
    obtain ⟨a0, a1, a2, a3, a4⟩ := h (i / 5) hq
    obtain ⟨b0, b1, b2, b3, b4⟩ := bcells_at xs vs n (i / 5) hq
    have hr : i % 5 = 0 ∨ i % 5 = 1 ∨ i % 5 = 2 ∨ i % 5 = 3 ∨ i % 5 = 4 := by omega
    rcases hr with hr | hr | hr | hr | hr
    · rw [show i = i / 5 * 5 by omega, a0, b0]
    · rw [show i = i / 5 * 5 + 1 by omega, a1, b1]
    · rw [show i = i / 5 * 5 + 2 by omega, a2, b2]
    · rw [show i = i / 5 * 5 + 3 by omega, a3, b3]
    · rw [show i = i / 5 * 5 + 4 by omega, a4, b4]
  · rw [List.getElem?_eq_none (by omega), List.getElem?_eq_none (by rw [bcells_len]; omega)]
theorem bcells_one {xs : List Bx} {vs : Nat → Value × Value} : ∀ {n : Nat}, (∀ j, j < n → (vs j).1.oneCell' = true ∧ (vs j).2.oneCell' = true) → ∀ u ∈ bcells xs vs n, u.oneCell' = true
  | 0, _, u, hu => by simp [bcells] at hu
  | n + 1, h, u, hu => by
    rw [bcells, List.mem_append] at hu
    rcases hu with hu | hu
    · exact bcells_one (fun j hj => h j (by omega)) u hu
    · have hn := h n (by omega)
      simp only [List.mem_cons, List.not_mem_nil, or_false] at hu
      rcases hu with rfl | rfl | rfl | rfl | rfl
      · rfl
      · rfl
      · rfl
      · exact hn.1
      · exact hn.2
theorem fine_one {v : Value} (h : Fine v) : v.oneCell' = true := by
  rcases h with rfl | ⟨ad, n, c, rfl⟩
  · rfl
  · rfl
/-- The list's row alone. -/
def OwnB (w : World) (base : Nat) (v : Value) (xs : List Bx) (vs : Nat → Value × Value) : Prop := w.ownsRow base 99 5 v xs.length (bcells xs vs xs.length)
/-- No two rows lie in one block. -/
def Dis (vs : Nat → Value × Value) (n : Nat) : Prop := ∀ i j, i < j → j < n → ((vs i).1.ownBlock = none ∨ (vs i).1.ownBlock ≠ (vs j).1.ownBlock) ∧ ((vs i).2.ownBlock = none ∨ (vs i).2.ownBlock ≠ (vs j).2.ownBlock)
/-- The rows of the first n boxes are owned. -/
def OwnR (w : World) (base : Nat) (xs : List Bx) (vs : Nat → Value × Value) (n : Nat) : Prop := ∀ j, j < n → OwnM w base (vs j).1 (xs.getD j noB).ms ∧ OwnK w base (vs j).2 (xs.getD j noB).ks
/-- A list of boxes that is one's own, all of it. -/
def OwnL (w : World) (base : Nat) (v : Value) (xs : List Bx) (vs : Nat → Value × Value) : Prop := OwnB w base v xs vs ∧ OwnR w base xs vs xs.length ∧ Dis vs xs.length
theorem ownR_below {w w' : World} {base : Nat} {xs : List Bx} {vs : Nat → Value × Value} {n : Nat} (h : OwnR w base xs vs n) (hb : Below w.heap.size w w') : OwnR w' base xs vs n := fun j hj => ⟨ow.own_below (h j hj).1 hb, ow.own_below (h j hj).2 hb⟩
theorem ownL_below {w w' : World} {base : Nat} {v : Value} {xs : List Bx} {vs : Nat → Value × Value} (h : OwnL w base v xs vs) (hb : Below w.heap.size w w') : OwnL w' base v xs vs := ⟨ow.own_below h.1 hb, ownR_below h.2.1 hb, h.2.2⟩
theorem ownL_boxes {w : World} {base : Nat} {v : Value} {xs : List Bx} {vs : Nat → Value × Value} (h : OwnL w base v xs vs) : BoxesAt w v xs vs := by
  refine ⟨?_, fun j hj => ⟨ownM_in (h.2.1 j hj).1 (Nat.le_refl _), ownK_in (h.2.1 j hj).2 (Nat.le_refl _)⟩⟩
  have ho : w.ownsRow base 99 5 v xs.length (bcells xs vs xs.length) := h.1
  rcases ho.2 with ⟨rfl, hz⟩ | ⟨g, cap, cur, rfl, _, hh, _⟩
  · exact ⟨none, 0, by rw [hz], .inl (List.eq_nil_of_length_eq_zero hz)⟩
  · refine ⟨_, cap, rfl, .inr ⟨g, 0, rfl, (Array.getElem?_eq_some_iff.1 hh).1, fun j hj => ?_⟩⟩
    obtain ⟨h0, h1, h2, h3, h4⟩ := bcells_at xs vs xs.length j hj
    refine ⟨?_, ?_, ?_, ?_, ?_⟩
    · rw [Nat.zero_add, ho.cellAt _ (by omega), h0]
    · rw [Nat.zero_add, ho.cellAt _ (by omega), h1]
    · rw [Nat.zero_add, ho.cellAt _ (by omega), h2]
    · rw [Nat.zero_add, ho.cellAt _ (by omega), h3]
    · rw [Nat.zero_add, ho.cellAt _ (by omega), h4]
theorem ownL_fines {w : World} {base : Nat} {v : Value} {xs : List Bx} {vs : Nat → Value × Value} (h : OwnL w base v xs vs) : Fine v ∧ Fines xs vs := ⟨own_fine h.1, fun j hj => ⟨own_fine (h.2.1 j hj).1, own_fine (h.2.1 j hj).2⟩⟩
theorem src_boxes {w : World} {ad : Addr} {n c : Nat} {xs : List Bx} {vs : Nat → Value × Value} (h : BoxesAt w (.slice (some ad) n c) xs vs) : n = xs.length ∧ ∀ j u, (bcells xs vs xs.length)[j]? = some u → w.cell? (ad.add j) = some u := by
  obtain ⟨⟨a, cap, e, h⟩, _⟩ := h
  cases e
  refine ⟨rfl, fun i u hu => ?_⟩
  have hi : i < xs.length * 5 := by
    have := (List.getElem?_eq_some_iff.1 hu).1
    rwa [bcells_len] at this
  rcases h with h | ⟨b, off, e, _, h⟩
  · rw [h] at hi; simp at hi
  · cases e
    rw [show ((⟨b, off, none⟩ : Addr).add i) = ⟨b, off + i, none⟩ from by simp [Addr.add]]
    have hq : i / 5 < xs.length := by omega
    obtain ⟨a0, a1, a2, a3, a4⟩ := h (i / 5) hq
    obtain ⟨b0, b1, b2, b3, b4⟩ := bcells_at xs vs xs.length (i / 5) hq
    have hr : i % 5 = 0 ∨ i % 5 = 1 ∨ i % 5 = 2 ∨ i % 5 = 3 ∨ i % 5 = 4 := by omega
    rcases hr with hr | hr | hr | hr | hr
    · rw [show i = i / 5 * 5 by omega, b0] at hu; cases hu
      rw [show off + i = off + i / 5 * 5 by omega, a0]
    · rw [show i = i / 5 * 5 + 1 by omega, b1] at hu; cases hu
      rw [show off + i = off + i / 5 * 5 + 1 by omega, a1]
    · rw [show i = i / 5 * 5 + 2 by omega, b2] at hu; cases hu
      rw [show off + i = off + i / 5 * 5 + 2 by omega, a2]
    · rw [show i = i / 5 * 5 + 3 by omega, b3] at hu; cases hu
      rw [show off + i = off + i / 5 * 5 + 3 by omega, a3]
    · rw [show i = i / 5 * 5 + 4 by omega, b4] at hu; cases hu
      rw [show off + i = off + i / 5 * 5 + 4 by omega, a4]

end Go.Proofs.YtncnbhekgkemfaaGreatDoor.bl

namespace Go.Proofs.YtncnbhekgkemfaaGreatDoor.bl
open Go.ChangeShapes Go.WideShapes Go.ChangeAt Go.RowKit Go.Deep Go.Joins
open st gr bx mx
set_option linter.unusedVariables false

theorem bcells_put {xs : List Bx} {us : Nat → Value × Value} {n k : Nat} (hk : k < n) {x : Bx} (hx : xs.getD k noB = x) (p : Value × Value) : put5 (bcells xs us n) (k * 5) x p = bcells xs (upd us k p) n := by
  refine bcells_ext (by rw [put5_len, bcells_len]) fun j hj => ?_
  by_cases e : j = k
  · subst e
    simp only [upd, if_true]
    rw [hx]
    exact put5_same (by rw [bcells_len]; omega)
  · simp only [upd, if_neg e]
    exact in5_other (bcells_at xs us n j hj) (by omega)
theorem ownR_row {w w' : World} {base b e s n m : Nat} {v : Value} {cs : List Value} {xs : List Bx} {us : Nat → Value × Value} (h : OwnR w base xs us n) (ho : w.ownsRow b e s v m cs) (hg : w.grownBy w' v.ownBlock) (h1 : 110 ≠ e) (h2 : 9 ≠ e) : OwnR w' base xs us n := fun j hj =>
  ⟨row_other (h j hj).1 hg (rowkinds (h j hj).1 ho h1), row_other (h j hj).2 hg (rowkinds (h j hj).2 ho h2)⟩
theorem ownR_step {w : World} {base : Nat} {xs : List Bx} {us : Nat → Value × Value} {k : Nat} {x : Bx} {p q : Value} (h : OwnR w base xs us k) (hx : xs.getD k noB = x) (h1 : OwnM w base p x.ms) (h2 : OwnK w base q x.ks) : OwnR w base xs (upd us k (p, q)) (k + 1) := by
  intro j hj
  by_cases e : j = k
  · subst e
    simp only [upd, if_true]
    rw [hx]
    exact ⟨h1, h2⟩
  · simp only [upd, if_neg e]
    exact h j (by omega)
theorem dis_step {w w2 : World} {base : Nat} {xs : List Bx} {us : Nat → Value × Value} {k : Nat} {x : Bx} {p q : Value} (hd : Dis us k) (h : OwnR w base xs us k) (h1 : OwnM w2 w.heap.size p x.ms) (h2 : OwnK w2 w.heap.size q x.ks) : Dis (upd us k (p, q)) (k + 1) := by
  intro i j hij hj
  have hi : i ≠ k := by omega
  by_cases e : j = k
  · subst e
    simp only [upd, if_true, if_neg hi]
    exact ⟨ow.apart (h i hij).1 h1, ow.apart (h i hij).2 h2⟩
  · simp only [upd, if_neg e, if_neg hi]
    exact hd i j hij (by omega)

end Go.Proofs.YtncnbhekgkemfaaGreatDoor.bl

namespace Go.Proofs.YtncnbhekgkemfaaGreatDoor.bl
open Go.ChangeShapes Go.WideShapes Go.ChangeAt Go.RowKit Go.Deep Go.Joins
open st gr bx mx
set_option linter.unusedVariables false

theorem bcells_congr {xs : List Bx} {us vs : Nat → Value × Value} : ∀ {n : Nat}, (∀ j, j < n → us j = vs j) → bcells xs us n = bcells xs vs n
  | 0, _ => rfl
  | n + 1, h => by rw [bcells, bcells, bcells_congr (fun j hj => h j (by omega)), h n (by omega)]
theorem bcells_snoc {xs : List Bx} {us : Nat → Value × Value} {k : Nat} {x : Bx} (hx : xs.getD k noB = x) (p q : Value) : bcells xs us k ++ [.string x.nm, .int .i64 x.vd, .int .i64 x.nx, p, q] = bcells xs (upd us k (p, q)) (k + 1) := by
  rw [bcells, hx]
  rw [bcells_congr (us := upd us k (p, q)) (vs := us) (fun j hj => by simp only [upd, if_neg (show j ≠ k by omega)])]
  simp only [upd, if_true]
theorem slice_fine {v : Value} (h : Fine v) : ∃ a n c, v = .slice a n c := by
  rcases h with rfl | ⟨ad, n, c, rfl⟩
  · exact ⟨_, _, _, rfl⟩
  · exact ⟨_, _, _, rfl⟩

set_option maxHeartbeats 4000000 in
set_option maxRecDepth 100000 in
theorem spec_own (v : Value) (xs : List Bx) (vs : Nat → Value × Value) (w : World) (h : BoxesAt w v xs vs) (hf : Fines xs vs) (hs : bx.Smalls xs) :
    Calls Tryz.prog 81 #[v] w fun e w' => (∃ L us, e = .returned L ∧ OwnL w' w.heap.size L xs us) ∧ Below w.heap.size w w' := by
  have HALL : Hid (BoxesIn w w.heap.size v xs vs) := h
  obtain ⟨⟨a, cap, rfl, hc⟩, _⟩ := h
  obtain ⟨i0, hi, hz0, hz1, hz2⟩ := info_parts infoB
  obtain ⟨n, hn⟩ : ∃ n, n = xs.length := ⟨_, rfl⟩
  have HN : Hid (n = xs.length) := hn
  have HH : Hid (xs = [] ∨ ∃ b off, a = some ⟨b, off, none⟩ ∧ b < w.heap.size ∧ ∀ j, j < xs.length → At5 w b (off + j * 5) (xs.getD j noB) (vs j)) := hc
  have HS : Hid (bx.Smalls xs) := hs
  have HF : Hid (Fines xs vs) := hf
  have hl : n ≤ 1048576 := by rw [hn]; exact hs.1
  rw [← hn] at HALL ⊢
  have hb0 := bx.new_below w 99 #[]
  have HO0 : Hid ((w.alloc (.cells #[] 99)).ownsRow w.heap.size 99 5 (.slice (some ⟨w.heap.size, 0, none⟩) 0 0) 0 []) := World.ownsRow_made w #[] 0 (Nat.le_refl _) (Nat.zero_le _) rfl
  clear hc hs hn hf
  go_enter Tryz.func81, Tryz.ntmps81
  go_wp2
  go_loopw [3, 4] (fun o i wr => ∃ (k : Nat) (us : Nat → Value × Value), k ≤ n ∧ i = .int .i64 k ∧ wr.ownsRow w.heap.size 99 5 o k (bcells xs us k) ∧ OwnR wr w.heap.size xs us k ∧ Dis us k ∧ Below w.heap.size w wr) (fun _ i _ => n - (intOf i).toNat)
  case atStart => exact ⟨0, vs, Nat.zero_le _, rfl, HO0.out, fun j hj => absurd hj (Nat.not_lt_zero _), fun i j hij hj => absurd hj (Nat.not_lt_zero _), hb0⟩
  case round =>
    clear HO0 hb0
    obtain ⟨k, us, hk, rfl, hown, hor, hd, hbw⟩ := hrel
    have HR : Hid (OwnR wr w.heap.size xs us k ∧ Dis us k) := ⟨hor, hd⟩
    clear hor hd
    by_cases hlt : k < n
    · have hka : k < xs.length := by rw [← HN.out]; exact hlt
      rcases HH.out with e | ⟨b, off, rfl, hbl, hcells⟩
      · rw [e] at hka; simp at hka
      have hat := (hcells k hka).keep hbw hbl
      have hrw := (boxes_in_below HALL.out hbw (Nat.le_refl _)).2 k hka
      have hsk := HS.out.2 k hka
      have hfk := HF.out k hka
      clear hcells hka
      generalize hx : xs.getD k noB = x at hat hrw hsk
      have HX : Hid (xs.getD k noB = x) := hx
      generalize vs k = q at hat hrw hfk
      obtain ⟨p1, p2⟩ := q
      obtain ⟨c0, c1, c2, c3, c4⟩ := hat
      simp only at c0 c1 c2 c3 c4 hrw hfk
      have HRW : Hid (bx.RowsIn wr w.heap.size p1 p2 x.ms x.ks ∧ Fine p1 ∧ Fine p2 ∧ x.ms.length ≤ 1048576 ∧ x.ks.length ≤ 1048576) := ⟨hrw, hfk.1, hfk.2, hsk.2.2.1.1, hsk.2.2.2.1⟩
      obtain ⟨⟨a2, cap2, rfl, _⟩, ⟨a3, cap3, rfl, _⟩⟩ := hrw
      obtain ⟨oa, on, oc, ho⟩ := slice_fine (own_fine hown)
      subst ho
      have hlt' : (k : Int) < (n : Int) := by omega
      clear hx hsk hfk
      go_wp2_with fail
      refine (l09Box_any x _ _ w.heap.size wr HRW.out.1 hbw.size HRW.out.2.1 HRW.out.2.2.1 HRW.out.2.2.2.1 HRW.out.2.2.2.2).mono ?_
      rintro e w2 ⟨⟨v', u', rfl, hm2, hk2⟩, hb2⟩
      have hown2 := ow.own_below hown hb2
      have hbw2 := hbw.trans (hb2.mono hbw.size)
      have HR2 : Hid (OwnR w2 w.heap.size xs (upd us k (v', u')) (k + 1) ∧ Dis (upd us k (v', u')) (k + 1)) := ⟨ownR_step (ownR_below HR.out.1 hb2) HX.out (mu.own_lower hm2 hbw.size) (mu.own_lower hk2 hbw.size), dis_step HR.out.2 HR.out.1 hm2 hk2⟩
      obtain ⟨va, vn, vc, rfl⟩ := slice_fine (own_fine hm2)
      obtain ⟨ua, un, uc, rfl⟩ := slice_fine (own_fine hk2)
      clear hb2 hbw hown c0 c1 c2 c3 c4 HRW HR hm2 hk2
      have HO2 : Hid ((w2.alloc (.cells #[.string x.nm, .int .i64 x.vd, .int .i64 x.nx, .slice va vn vc, .slice ua un uc] 99)).ownsRow w.heap.size 99 5 (.slice oa on oc) k (bcells xs us k)) := hown2.alloc _
      have HR3 : Hid (OwnR (w2.alloc (.cells #[.string x.nm, .int .i64 x.vd, .int .i64 x.nx, .slice va vn vc, .slice ua un uc] 99)) w.heap.size xs (upd us k (.slice va vn vc, .slice ua un uc)) (k + 1)) := ownR_below HR2.out.1 (bx.new_below _ _ _)
      have HB3 : Hid (Below w.heap.size w (w2.alloc (.cells #[.string x.nm, .int .i64 x.vd, .int .i64 x.nx, .slice va vn vc, .slice ua un uc] 99)) ∧ w.heap.size ≤ (w2.alloc (.cells #[.string x.nm, .int .i64 x.vd, .int .i64 x.nx, .slice va vn vc, .slice ua un uc] 99)).heap.size) := ⟨hbw2.alloc hbw2.size _, (hbw2.alloc hbw2.size _).size⟩
      clear hown2 hbw2
      unfold BV
      go_wp2_with (at_builtin; refine wpList_append_own _ rfl _ _ 33 rfl w.heap.size 99 i0 _ 5 80 Tryz.underlying33 hi hz0 hz1 hz2 rfl (by decide) _ _ _ rfl HO2.out ⟨w2.heap.size, 0, none⟩ 1 1 [.string x.nm, .int .i64 x.vd, .int .i64 x.nx, .slice va vn vc, .slice ua un uc] rfl rfl (ow.cells_new _ [.string x.nm, .int .i64 x.vd, .int .i64 x.nx, .slice va vn vc, .slice ua un uc] _) (by intro u hu; simp at hu; rcases hu with rfl | rfl | rfl | rfl | rfl <;> rfl) (by unfold maxLen; omega) (by omega) HB3.out.2 ?_; intro v3 w3 hown hgrow hnil)
      have HE : Hid (w3.ownsRow w.heap.size 99 5 v3 (k + 1) (bcells xs (upd us k (.slice va vn vc, .slice ua un uc)) (k + 1)) ∧ OwnR w3 w.heap.size xs (upd us k (.slice va vn vc, .slice ua un uc)) (k + 1) ∧ Below w.heap.size w w3) := by
        refine ⟨?_, ownR_row HR3.out HO2.out hgrow (by decide) (by decide), HB3.out.1.grown hgrow HB3.out.2 (fun j hj => (HO2.out.lt j hj).1)⟩
        rw [← bcells_snoc HX.out]
        exact hown
      clear hown hgrow hnil HO2 HR3 HB3
      go_wp2
      go_roundw
      case rel => exact ⟨k + 1, _, by omega, by go_num, HE.out.1, HE.out.2.1, HR2.out.2, HE.out.2.2⟩
      case measure => simp [intOf]; omega
    · obtain rfl : k = n := by omega
      obtain ⟨oa, on, oc, ho⟩ := slice_fine (own_fine hown)
      subst ho
      have HQ : Hid (OwnL wr w.heap.size (.slice oa on oc) xs us) := by
        refine ⟨?_, ?_, ?_⟩
        · unfold OwnB; rw [← HN.out]; exact hown
        · rw [← HN.out]; exact HR.out.1
        · rw [← HN.out]; exact HR.out.2
      go_wp2
      go_ret
      exact ⟨⟨_, _, rfl, HQ.out⟩, hbw⟩
end Go.Proofs.YtncnbhekgkemfaaGreatDoor.bl
