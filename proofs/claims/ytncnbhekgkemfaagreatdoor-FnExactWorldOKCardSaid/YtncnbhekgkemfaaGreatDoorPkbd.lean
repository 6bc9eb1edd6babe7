/-
  The specification's l09Apply where a mail's flags change.
-/
import Derived.Test.YtncnbhekgkemfaaGreatDoorPkbc

namespace Go.Proofs.YtncnbhekgkemfaaGreatDoor.sa
open Go.ChangeShapes Go.WideShapes Go.ChangeAt Go.RowKit Go.Deep Go.Joins
open st gr bx mx bl wi
set_option linter.unusedVariables false

/-- What has come up of a region that ends in a store. -/
def JS (V : Nat → Option Value) (K : World → Prop) (iS : Nat) (Z : World → Prop) (D : Nat → Prop) (f : Nat → Value) (x : World) : Prop := (∀ j, D j → ∀ y, V j = some y → f j = y) ∧ (¬ D iS → K x) ∧ (D iS → Z x)
theorem JS.pure {V : Nat → Option Value} {K : World → Prop} {iS : Nat} {Z : World → Prop} {D : Nat → Prop} {f : Nat → Value} {x : World} {i : Nat} (y : Value) (h : JS V K iS Z D f x) (hy : ∀ z, V i = some z → y = z) (hi : iS ≠ i) : JS V K iS Z (fun j => j = i ∨ D j) (rs.upd f i y) x :=
  ⟨rf.vals h.1 hy, fun n => h.2.1 (fun d => n (.inr d)), fun d => h.2.2 (d.resolve_left hi)⟩
theorem JS.store {V : Nat → Option Value} {K : World → Prop} {iS : Nat} {Z : World → Prop} {D : Nat → Prop} {f : Nat → Value} {x x' : World} {i : Nat} (y : Value) (h : JS V K iS Z D f x) (hi : i = iS) (hy : ∀ z, V i = some z → y = z) (hz : Z x') : JS V K iS Z (fun j => j = i ∨ D j) (rs.upd f i y) x' :=
  ⟨rf.vals h.1 hy, fun n => absurd (.inl hi.symm) n, fun _ => hz⟩
def V37 (S g r k j : Nat) (v : Value) (f0 mm mf fn : Int) : Nat → Option Value
  | 0 => some (.pointer (some ⟨g, k * 5, none⟩))
  | 1 => some (.pointer (some ⟨g, k * 5, none⟩))
  | 2 => some (.pointer (some ⟨g, k * 5 + 3, none⟩))
  | 3 => some v
  | 4 => some (.int .i64 (j : Int))
  | 5 => some (.pointer (some ⟨g, k * 5, none⟩))
  | 6 => some (.pointer (some ⟨g, k * 5, none⟩))
  | 7 => some (.pointer (some ⟨g, k * 5 + 3, none⟩))
  | 8 => some v
  | 9 => some (.int .i64 (j : Int))
  | 10 => some (.pointer (some ⟨r, j * 3, none⟩))
  | 11 => some (.pointer (some ⟨r, j * 3 + 1, none⟩))
  | 12 => some (.int .i64 f0)
  | 13 => some (.pointer (some ⟨S, 0 + 2, none⟩))
  | 14 => some (.int .i64 mm)
  | 15 => some (.pointer (some ⟨S, 0 + 3, none⟩))
  | 16 => some (.int .i64 mf)
  | 17 => some (.int .i64 fn)
  | 18 => some (.pointer (some ⟨r, j * 3, none⟩))
  | 19 => some (.pointer (some ⟨r, j * 3 + 1, none⟩))
  | _ => none
/-- One mail of one box is given its flags. -/
theorem grow_flags {x : World} {base g c r vc j : Nat} {xs : List Bx} {us : Nat → Value × Value} {k : Nat} {b : Bx} (h : OwnL x base (.slice (some ⟨g, 0, none⟩) xs.length c) xs us) (hk : k < xs.length) (hb : xs.getD k noB = b) (hv : (us k).1 = .slice (some ⟨r, 0, none⟩) b.ms.length vc) (hj : j < b.ms.length) (f : Int) :
    OwnL (x.setCell ⟨r, j * 3 + 1, none⟩ (.int .i64 f)) base (.slice (some ⟨g, 0, none⟩) xs.length c) (xs.set k ⟨b.nm, b.vd, b.nx, setF b.ms j f, b.ks⟩) (upd us k ((us k).1, (us k).2)) ∧ Below base x (x.setCell ⟨r, j * 3 + 1, none⟩ (.int .i64 f)) := by
  subst hb
  obtain ⟨om, ok⟩ := h.2.1 k hk
  have g1 : x.grownBy (x.setCell ⟨r, j * 3 + 1, none⟩ (.int .i64 f)) (us k).1.ownBlock := by rw [hv]; exact mk.grown_set x r _ _
  have g2 := gr2_left g1 (us k).2.ownBlock
  have ok2 := row_other ok g1 (rowkinds ok om (by decide))
  have om' := om
  rw [hv] at om'
  have om2 := ownM_setF om' hj f
  have hL2 := list_gr2 h hk g2
  have hrb : base ≤ r := (om'.lt r rfl).1
  refine ⟨list_set h hk g2 (by rw [hv]; exact om2) ok2 (.inl rfl) (.inl rfl) ?_ (ow.grown_refl _ _), (Below.refl _ _).setCell (p := ⟨r, _, none⟩) hrb _⟩
  unfold OwnB
  rw [show (xs.set k ⟨(xs.getD k noB).nm, (xs.getD k noB).vd, (xs.getD k noB).nx, setF (xs.getD k noB).ms j f, (xs.getD k noB).ks⟩).length = xs.length by simp, ← bset (us := us) hk ⟨(xs.getD k noB).nm, (xs.getD k noB).vd, (xs.getD k noB).nx, setF (xs.getD k noB).ms j f, (xs.getD k noB).ks⟩ ((us k).1, (us k).2) rfl rfl]
  obtain ⟨i0, i1, i2, i3, i4⟩ := bcells_at xs us xs.length k hk
  simp only
  rw [set_same i2, set_same i3, set_same i4]
  exact hL2
set_option maxHeartbeats 1000000 in
theorem spec_flags (was mode f : Int) (w : World) (hm : mode = 1 ∨ mode = 2 ∨ mode = 3) :
    Calls Tryz.prog 83 #[.int .i64 was, .int .i64 mode, .int .i64 f] w fun e w' => e = .returned (.int .i64 (flg mode was f)) ∧ w' = w := by
  rcases hm with rfl | rfl | rfl
  · rw [flg_set rfl]
    go_enter Tryz.func83, Tryz.ntmps83
    go_wp2
    go_ret
    exact ⟨rfl, rfl⟩
  · rw [flg_add rfl]
    go_enter Tryz.func83, Tryz.ntmps83
    go_wp2
    go_ret
    exact ⟨rfl, rfl⟩
  · rw [flg_less rfl]
    go_enter Tryz.func83, Tryz.ntmps83
    go_wp2
    go_ret
    exact ⟨rfl, rfl⟩
set_option maxHeartbeats 8000000 in
set_option maxRecDepth 100000 in
theorem apply_flags (v : Value) (xs : List Bx) (vs : Nat → Value × Value) (m : mu.Mu) (iv : Value) (w : World) (h : BoxesAt w v xs vs) (hf : Fines xs vs) (hs : bx.Smalls xs) (hiv : ∃ a n c, iv = .slice a n c) (hmb : m.b.size ≤ 1048576) (k : Nat) (hk : k < xs.length) (b : Bx) (hbb : xs.getD k noB = b) (hp : Plc xs m.b (k : Int)) (hlm : b.ms.length ≤ 30) (hmo : m.m = 1 ∨ m.m = 2 ∨ m.m = 3) (hmk : m.k = 3) :
    Calls Tryz.prog 53 #[v, mu.MV m iv] w fun e w' => Ar xs k (fun y' c => Wf b m y' c) e w' ∧ Below w.heap.size w w' := by
  have HA : Hid (BoxesAt w v xs vs) := h
  have HBB : Hid (xs.getD k noB = b) := hbb
  clear hbb
  have HF : Hid (Fines xs vs) := hf
  obtain ⟨ia, inn, ic, rfl⟩ := hiv
  obtain ⟨⟨a, cap, rfl, hd2⟩, hd3⟩ := h
  clear hd2 hd3
  obtain ⟨W, hW⟩ : ∃ W, W = w.alloc (.cells #[.int .i64 3, .int .i64 m.u, .int .i64 m.m, .int .i64 m.f, .string m.b, .slice ia inn ic] 104) := ⟨_, rfl⟩
  have b1 : Below w.heap.size w W := by rw [hW]; exact bx.new_below w _ _
  have k1 : mu.Lies W w.heap.size 104 m (.slice ia inn ic) := by rw [hW, ← hmk]; exact mu.lies_new _ _ _ _
  have HAW : Hid (BoxesAt W (.slice a xs.length cap) xs vs) := boxes_below HA.out b1
  have HFI : Hid (Calls Tryz.prog 30 #[.slice a xs.length cap, .string m.b] W fun e w' => e = .returned (.int .i64 (k : Int)) ∧ w' = W) := find_any W.heap.size _ xs vs m.b W HAW.out.1 hs.1 hp
  have HOW : Hid (Calls Tryz.prog 81 #[.slice a xs.length cap] W fun e w' => (∃ L us, e = .returned L ∧ OwnL w' W.heap.size L xs us) ∧ Below W.heap.size W w') := spec_own _ xs vs W HAW.out HF.out hs
  have HKP : Hid (∀ X, Below W.heap.size W X → mu.Lies X w.heap.size 104 m (.slice ia inn ic) ∧ BoxesAt X (.slice a xs.length cap) xs vs ∧ Below w.heap.size w X) := fun X hX => by
    have hb : Below w.heap.size w X := b1.trans (hX.mono b1.size)
    exact ⟨k1.keep hX, boxes_below HA.out hb, hb⟩
  have d0 : W.cell? ⟨w.heap.size, 0, none⟩ = some (.int .i64 3) := by rw [← hmk]; exact k1.c0
  have d4 := k1.c4
  have hxl := hs.1
  have HWW : Hid (w.heap.size ≤ W.heap.size) := b1.size
  unfold mu.MV
  rw [hmk]
  clear b1 k1 hs HA HAW hp
  have hk0 : ¬ (k : Int) < 0 := by omega
  go_enter Tryz.func53, Tryz.ntmps53
  go_wp2_with (rw [← hW])
  clear hW
  refine HFI.out.mono ?_
  rintro e w' ⟨rfl, hw'⟩
  have hw' := hw'.symm
  subst hw'
  clear HFI
  go_wp2_with fail
  refine HOW.out.mono ?_
  rintro e w2 ⟨⟨L, us0, rfl, hO⟩, hb2⟩
  clear HOW d0 d4
  obtain ⟨g, c, rfl⟩ : ∃ g c, L = .slice (some ⟨g, 0, none⟩) xs.length c := by
    rcases hO.1.2 with ⟨_, h0⟩ | ⟨g, cap, cur, rfl, _⟩
    · omega
    · exact ⟨g, cap, rfl⟩
  obtain ⟨hM, hBX, hBW⟩ := HKP.out w2 hb2
  have HBX : Hid (BoxesAt w2 (.slice a xs.length cap) xs vs ∧ Below w.heap.size w w2) := ⟨hBX, hBW⟩
  have hat := at5 hO hk
  have hrows := hO.2.1 k hk
  rw [HBB.out] at hat hrows
  obtain ⟨t0, t1, t2, t3, t4, tf⟩ := hat
  obtain ⟨om, ok⟩ := hrows
  obtain ⟨⟨va, vn, vc, hv1⟩, ⟨ua, un, uc, hu1⟩⟩ := (⟨slice_fine (own_fine om), slice_fine (own_fine ok)⟩ : (∃ a n c, (us0 k).1 = Value.slice a n c) ∧ (∃ a n c, (us0 k).2 = Value.slice a n c))
  rw [hv1] at om t3
  rw [hu1] at ok t4
  obtain rfl : un = b.ks.length := by rcases ok.2 with ⟨e, h0⟩ | ⟨g, cap, cur, e, _⟩ <;> cases e <;> omega
  obtain rfl : vn = b.ms.length := by rcases om.2 with ⟨e, h0⟩ | ⟨g, cap, cur, e, _⟩ <;> cases e <;> omega
  have d0 : w2.cell? ⟨w.heap.size, 0, none⟩ = some (.int .i64 3) := by rw [← hmk]; exact hM.c0
  have d1 := hM.c1
  have d2 := hM.c2
  have d3 := hM.c3
  have hkx : (k : Int) < (xs.length : Int) := by omega
  have HO : Hid (OwnL w2 W.heap.size (.slice (some ⟨g, 0, none⟩) xs.length c) xs us0 ∧ Below W.heap.size W w2) := ⟨hO, hb2⟩
  have HOM : Hid (OwnM w2 W.heap.size (.slice va b.ms.length vc) b.ms ∧ OwnK w2 W.heap.size (.slice ua b.ks.length uc) b.ks) := ⟨om, ok⟩
  have HUV : Hid ((us0 k).1 = .slice va b.ms.length vc ∧ (us0 k).2 = .slice ua b.ks.length uc) := ⟨hv1, hu1⟩
  clear hO hb2 hM hv1 hu1 om ok hBX hBW
  have HRA : Hid (RowsAt w2 (.slice va b.ms.length vc) (.slice ua b.ks.length uc) b.ms b.ks) := by
    have hh := (ownL_boxes HO.out.1).2 k hk
    rw [HBB.out, HUV.out.1, HUV.out.2] at hh
    exact hh
  have HMA : Hid (∀ X, Below w2.heap.size w2 X → Calls Tryz.prog 82 #[.agg #[.string b.nm, .int .i64 b.vd, .int .i64 b.nx, .slice va b.ms.length vc, .slice ua b.ks.length uc], .int .i64 m.u] X fun e w' => (∃ i : Int, e = .returned (.int .i64 i) ∧ Hid ((∃ j : Nat, i = j ∧ j < b.ms.length ∧ (b.ms.getD j noS).u = m.u) ∨ (i = -1 ∧ ∀ j, j < b.ms.length → (b.ms.getD j noS).u ≠ m.u))) ∧ Below w2.heap.size w2 w') := fun X hX => by
    refine (bx.spec_mail b _ _ m.u X (bx.rows_below HRA.out hX) hlm).mono ?_
    rintro e w' ⟨⟨i, he, hf⟩, hb⟩
    exact ⟨⟨i, he, hf⟩, hX.trans (hb.mono hX.size)⟩
  have hdr : Below w2.heap.size w2 w2.drew := (Below.refl _ _).drew
  clear HRA
  go_upto_region 34 with fail
  go_region_with (go_at_call 82; refine (HMA.out _ hdr).mono ?_; rintro e w3 ⟨⟨i, rfl, hf⟩, hb3⟩)
  all_goals
    have HO3 : Hid (OwnL w3 W.heap.size (.slice (some ⟨g, 0, none⟩) xs.length c) xs us0 ∧ Below W.heap.size W w3) := ⟨ownL_below HO.out.1 hb3, HO.out.2.trans (hb3.mono HO.out.2.size)⟩
    have kp : ∀ {ad : Addr} {u : Value}, w2.cell? ad = some u → w3.cell? ad = some u := fun {ad u} hh => (hb3.cell (p := ad) (World.block_lt_of_cell? w2 _ hh)).trans hh
    have s3 := kp t3
    have s1 := kp d1
    have s2 := kp d2
    have s4 := kp d3
    have HZ : Hid (BoxesAt w3 (.slice a xs.length cap) xs vs ∧ Below w.heap.size w w3) := ⟨boxes_below HBX.out.1 hb3, HBX.out.2.trans (hb3.mono HBX.out.2.size)⟩
    clear HMA HO hdr t0 t1 t2 t3 t4 tf d0 d1 d2 d3 kp HBX hb3
    rcases hf.out with ⟨j, rfl, hj, hu⟩ | ⟨rfl, hno⟩
    · have hj0 : ¬ (j : Int) < 0 := by omega
      obtain ⟨r, hva⟩ : ∃ r, va = some ⟨r, 0, none⟩ := by
        rcases HOM.out.1.2 with ⟨e, h0⟩ | ⟨g, cap, cur, e, _⟩
        · omega
        · cases e; exact ⟨_, rfl⟩
      subst hva
      have hom : OwnM w3 W.heap.size (.slice (some ⟨r, 0, none⟩) b.ms.length vc) b.ms := by
        have hh := (HO3.out.1.2.1 k hk).1
        rw [HBB.out, HUV.out.1] at hh
        exact hh
      obtain ⟨F0, hF0⟩ : ∃ F0, F0 = (b.ms.getD j noS).f := ⟨_, rfl⟩
      have rc : w3.cell? ⟨r, j * 3 + 1, none⟩ = some (.int .i64 F0) := by rw [hF0]; exact (hom.cellAt _ (by omega)).trans (mc_at b.ms j hj).2.1
      have rf : w3.frozen? ⟨r, j * 3 + 1, none⟩ = false := hom.frozenAt _
      have HWF : Hid (Wf b m ⟨b.nm, b.vd, b.nx, setF b.ms j (flg m.m F0 m.f), b.ks⟩ 0) := .inl ⟨j, hj, hu, by rw [hF0], rfl⟩
      have HFL : Hid (∀ X, Calls Tryz.prog 83 #[.int .i64 F0, .int .i64 m.m, .int .i64 m.f] X fun e w' => e = .returned (.int .i64 (flg m.m F0 m.f)) ∧ w' = X) := fun X => spec_flags _ _ _ X hmo
      have hjl : (j : Int) < (b.ms.length : Int) := by omega
      have hjp : (0 : Int) ≤ (j : Int) := by omega
      clear hom hF0 hf
      go_upto_region 37 with fail
      rename_i K2 hK2
      refine rs.region_st (by kernel_rfl) (fun f => { tmps := List.toArray ((.slice a xs.length cap : Value) :: .agg #[.int .i64 3, .int .i64 m.u, .int .i64 m.m, .int .i64 m.f, .string m.b, .slice ia inn ic] :: undef :: .pointer (some ⟨w.heap.size, 0, none⟩) :: .slice none 0 0 :: .int .i64 0 :: .int .i64 (k : Int) :: .slice (some ⟨g, 0, none⟩) xs.length c :: .pointer (some ⟨g, k * 5, none⟩) :: undef :: .int .i64 (j : Int) :: undef :: undef :: .slice a xs.length cap :: .pointer (some ⟨w.heap.size, 4, none⟩) :: .string m.b :: .int .i64 (k : Int) :: .pointer (some ⟨w.heap.size, 0, none⟩) :: .int .i64 3 :: .bool false :: undef :: undef :: undef :: undef :: undef :: undef :: undef :: undef :: undef :: undef :: undef :: undef :: undef :: undef :: undef :: undef :: undef :: undef :: undef :: undef :: undef :: .int .i64 (k : Int) :: .bool (decide ((k : Int) < 0)) :: undef :: .slice a xs.length cap :: .slice (some ⟨g, 0, none⟩) xs.length c :: .slice (some ⟨g, 0, none⟩) xs.length c :: .int .i64 (k : Int) :: .pointer (some ⟨g, k * 5, none⟩) :: .pointer (some ⟨w.heap.size, 0, none⟩) :: .int .i64 3 :: undef :: undef :: undef :: undef :: undef :: undef :: undef :: undef :: undef :: undef :: undef :: undef :: undef :: undef :: undef :: undef :: undef :: undef :: undef :: undef :: undef :: undef :: undef :: undef :: undef :: undef :: undef :: undef :: undef :: undef :: undef :: undef :: undef :: undef :: .bool false :: .bool false :: undef :: undef :: undef :: undef :: undef :: undef :: undef :: undef :: undef :: undef :: undef :: undef :: undef :: undef :: undef :: undef :: undef :: undef :: undef :: undef :: undef :: undef :: undef :: undef :: undef :: undef :: undef :: undef :: undef :: undef :: undef :: undef :: undef :: undef :: undef :: undef :: undef :: undef :: undef :: undef :: undef :: undef :: undef :: undef :: undef :: undef :: undef :: undef :: undef :: undef :: undef :: undef :: undef :: undef :: undef :: undef :: undef :: undef :: undef :: undef :: undef :: undef :: undef :: undef :: undef :: undef :: undef :: undef :: undef :: undef :: undef :: undef :: undef :: undef :: undef :: undef :: undef :: undef :: .bool true :: .bool true :: .pointer (some ⟨g, k * 5, none⟩) :: .pointer (some ⟨g, k * 5, none⟩) :: .agg #[.string b.nm, .int .i64 b.vd, .int .i64 b.nx, .slice (some ⟨r, 0, none⟩) b.ms.length vc, .slice ua b.ks.length uc] :: .pointer (some ⟨w.heap.size, 1, none⟩) :: .int .i64 m.u :: .int .i64 (j : Int) :: .int .i64 (j : Int) :: .bool false :: undef :: f 0 :: f 1 :: f 2 :: f 3 :: f 4 :: f 5 :: f 6 :: f 7 :: f 8 :: f 9 :: f 10 :: f 11 :: f 12 :: f 13 :: f 14 :: f 15 :: f 16 :: f 17 :: f 18 :: f 19 :: undef :: []), defers := [] }) (JS (V37 w.heap.size g r k j (.slice (some ⟨r, 0, none⟩) b.ms.length vc) F0 m.m m.f (flg m.m F0 m.f)) (Below w3.heap.size w3) 20 (fun x => ∃ x2, Below w3.heap.size w3 x2 ∧ x = x2.setCell ⟨r, j * 3 + 1, none⟩ (.int .i64 (flg m.m F0 m.f)))) (fun j => undef) rfl ⟨fun j hj => hj.elim, fun _ => (Below.refl _ _).drew, fun d => d.elim⟩ (rs.deps_of (by kernel_rfl)) ?_ ?_
      · intro i o ho D f x hJ hall hni hcl
        match i, ho with
        | 0, ho =>
          cases ho
          have HN : Hid ((JS (V37 w.heap.size g r k j (.slice (some ⟨r, 0, none⟩) b.ms.length vc) F0 m.m m.f (flg m.m F0 m.f)) (Below w3.heap.size w3) 20 (fun x => ∃ x2, Below w3.heap.size w3 x2 ∧ x = x2.setCell ⟨r, j * 3 + 1, none⟩ (.int .i64 (flg m.m F0 m.f)))) (fun j => j = 0 ∨ D j) (rs.upd f 0 (.pointer (some ⟨g, k * 5, none⟩))) x) := hJ.pure _ (fun z hz => Option.some.inj hz) (show (20 : Nat) ≠ 0 by decide)
          clear hJ hall hcl hni
          refine wpOp_step rfl (fun K' hK => ?_)
          go_simp
          exact hK _ _ ⟨.pointer (some ⟨g, k * 5, none⟩), by simp [rs.upd], HN.out⟩
        | 1, ho =>
          cases ho
          have d0 : D 0 := hall { on := 0, ground := Ground.data } (by simp) rfl
          have h0 : f 0 = .pointer (some ⟨g, k * 5, none⟩) := hJ.1 0 d0 _ rfl
          have HN : Hid ((JS (V37 w.heap.size g r k j (.slice (some ⟨r, 0, none⟩) b.ms.length vc) F0 m.m m.f (flg m.m F0 m.f)) (Below w3.heap.size w3) 20 (fun x => ∃ x2, Below w3.heap.size w3 x2 ∧ x = x2.setCell ⟨r, j * 3 + 1, none⟩ (.int .i64 (flg m.m F0 m.f)))) (fun j => j = 1 ∨ D j) (rs.upd f 1 (.pointer (some ⟨g, k * 5, none⟩))) x) := hJ.pure _ (fun z hz => Option.some.inj hz) (show (20 : Nat) ≠ 1 by decide)
          clear hJ hall hcl hni
          refine wpOp_step rfl (fun K' hK => ?_)
          simp only [h0]
          go_wp2_with fail
          exact ⟨.pointer (some ⟨g, k * 5, none⟩), by simp [rs.upd, h0], HN.out⟩
        | 2, ho =>
          cases ho
          have d1 : D 1 := hall { on := 1, ground := Ground.data } (by simp) rfl
          have h1 : f 1 = .pointer (some ⟨g, k * 5, none⟩) := hJ.1 1 d1 _ rfl
          have HN : Hid ((JS (V37 w.heap.size g r k j (.slice (some ⟨r, 0, none⟩) b.ms.length vc) F0 m.m m.f (flg m.m F0 m.f)) (Below w3.heap.size w3) 20 (fun x => ∃ x2, Below w3.heap.size w3 x2 ∧ x = x2.setCell ⟨r, j * 3 + 1, none⟩ (.int .i64 (flg m.m F0 m.f)))) (fun j => j = 2 ∨ D j) (rs.upd f 2 (.pointer (some ⟨g, k * 5 + 3, none⟩))) x) := hJ.pure _ (fun z hz => Option.some.inj hz) (show (20 : Nat) ≠ 2 by decide)
          clear hJ hall hcl hni
          refine wpOp_step rfl (fun K' hK => ?_)
          simp only [h1]
          go_simp
          exact hK _ _ ⟨.pointer (some ⟨g, k * 5 + 3, none⟩), by simp [rs.upd, h1], HN.out⟩
        | 3, ho =>
          cases ho
          have d2 : D 2 := hall { on := 2, ground := Ground.data } (by simp) rfl
          have h2 : f 2 = .pointer (some ⟨g, k * 5 + 3, none⟩) := hJ.1 2 d2 _ rfl
          have nA : ¬ D 20 := fun h => hni (hcl 18 _ (hcl 19 _ (hcl 20 _ (h) rfl { on := 19, ground := Ground.data } (by simp) rfl) rfl { on := 18, ground := Ground.data } (by simp) rfl) rfl { on := 3, ground := Ground.data } (by simp) rfl)
          have hbx : Below w3.heap.size w3 x := hJ.2.1 nA
          have cL := (hbx.cell (p := ⟨g, k * 5 + 3, none⟩) (World.block_lt_of_cell? w3 _ s3)).trans s3
          have HN : Hid ((JS (V37 w.heap.size g r k j (.slice (some ⟨r, 0, none⟩) b.ms.length vc) F0 m.m m.f (flg m.m F0 m.f)) (Below w3.heap.size w3) 20 (fun x => ∃ x2, Below w3.heap.size w3 x2 ∧ x = x2.setCell ⟨r, j * 3 + 1, none⟩ (.int .i64 (flg m.m F0 m.f)))) (fun j => j = 3 ∨ D j) (rs.upd f 3 (.slice (some ⟨r, 0, none⟩) b.ms.length vc)) x) := hJ.pure _ (fun z hz => Option.some.inj hz) (show (20 : Nat) ≠ 3 by decide)
          clear hJ hall hcl hni hbx nA
          refine wpOp_step rfl (fun K' hK => ?_)
          simp only [h2]
          go_wp2_with fail
          exact ⟨.slice (some ⟨r, 0, none⟩) b.ms.length vc, by simp [rs.upd, h2], HN.out⟩
        | 4, ho =>
          cases ho
          have HN : Hid ((JS (V37 w.heap.size g r k j (.slice (some ⟨r, 0, none⟩) b.ms.length vc) F0 m.m m.f (flg m.m F0 m.f)) (Below w3.heap.size w3) 20 (fun x => ∃ x2, Below w3.heap.size w3 x2 ∧ x = x2.setCell ⟨r, j * 3 + 1, none⟩ (.int .i64 (flg m.m F0 m.f)))) (fun j => j = 4 ∨ D j) (rs.upd f 4 (.int .i64 (j : Int))) x) := hJ.pure _ (fun z hz => Option.some.inj hz) (show (20 : Nat) ≠ 4 by decide)
          clear hJ hall hcl hni
          refine wpOp_step rfl (fun K' hK => ?_)
          go_simp
          exact hK _ _ ⟨.int .i64 (j : Int), by simp [rs.upd], HN.out⟩
        | 5, ho =>
          cases ho
          have HN : Hid ((JS (V37 w.heap.size g r k j (.slice (some ⟨r, 0, none⟩) b.ms.length vc) F0 m.m m.f (flg m.m F0 m.f)) (Below w3.heap.size w3) 20 (fun x => ∃ x2, Below w3.heap.size w3 x2 ∧ x = x2.setCell ⟨r, j * 3 + 1, none⟩ (.int .i64 (flg m.m F0 m.f)))) (fun j => j = 5 ∨ D j) (rs.upd f 5 (.pointer (some ⟨g, k * 5, none⟩))) x) := hJ.pure _ (fun z hz => Option.some.inj hz) (show (20 : Nat) ≠ 5 by decide)
          clear hJ hall hcl hni
          refine wpOp_step rfl (fun K' hK => ?_)
          go_simp
          exact hK _ _ ⟨.pointer (some ⟨g, k * 5, none⟩), by simp [rs.upd], HN.out⟩
        | 6, ho =>
          cases ho
          have d5 : D 5 := hall { on := 5, ground := Ground.data } (by simp) rfl
          have h5 : f 5 = .pointer (some ⟨g, k * 5, none⟩) := hJ.1 5 d5 _ rfl
          have HN : Hid ((JS (V37 w.heap.size g r k j (.slice (some ⟨r, 0, none⟩) b.ms.length vc) F0 m.m m.f (flg m.m F0 m.f)) (Below w3.heap.size w3) 20 (fun x => ∃ x2, Below w3.heap.size w3 x2 ∧ x = x2.setCell ⟨r, j * 3 + 1, none⟩ (.int .i64 (flg m.m F0 m.f)))) (fun j => j = 6 ∨ D j) (rs.upd f 6 (.pointer (some ⟨g, k * 5, none⟩))) x) := hJ.pure _ (fun z hz => Option.some.inj hz) (show (20 : Nat) ≠ 6 by decide)
          clear hJ hall hcl hni
          refine wpOp_step rfl (fun K' hK => ?_)
          simp only [h5]
          go_wp2_with fail
          exact ⟨.pointer (some ⟨g, k * 5, none⟩), by simp [rs.upd, h5], HN.out⟩
        | 7, ho =>
          cases ho
          have d6 : D 6 := hall { on := 6, ground := Ground.data } (by simp) rfl
          have h6 : f 6 = .pointer (some ⟨g, k * 5, none⟩) := hJ.1 6 d6 _ rfl
          have HN : Hid ((JS (V37 w.heap.size g r k j (.slice (some ⟨r, 0, none⟩) b.ms.length vc) F0 m.m m.f (flg m.m F0 m.f)) (Below w3.heap.size w3) 20 (fun x => ∃ x2, Below w3.heap.size w3 x2 ∧ x = x2.setCell ⟨r, j * 3 + 1, none⟩ (.int .i64 (flg m.m F0 m.f)))) (fun j => j = 7 ∨ D j) (rs.upd f 7 (.pointer (some ⟨g, k * 5 + 3, none⟩))) x) := hJ.pure _ (fun z hz => Option.some.inj hz) (show (20 : Nat) ≠ 7 by decide)
          clear hJ hall hcl hni
          refine wpOp_step rfl (fun K' hK => ?_)
          simp only [h6]
          go_simp
          exact hK _ _ ⟨.pointer (some ⟨g, k * 5 + 3, none⟩), by simp [rs.upd, h6], HN.out⟩
        | 8, ho =>
          cases ho
          have d7 : D 7 := hall { on := 7, ground := Ground.data } (by simp) rfl
          have h7 : f 7 = .pointer (some ⟨g, k * 5 + 3, none⟩) := hJ.1 7 d7 _ rfl
          have nA : ¬ D 20 := fun h => hni (hcl 10 _ (hcl 11 _ (hcl 12 _ (hcl 17 _ (hcl 20 _ (h) rfl { on := 17, ground := Ground.data } (by simp) rfl) rfl { on := 12, ground := Ground.data } (by simp) rfl) rfl { on := 11, ground := Ground.data } (by simp) rfl) rfl { on := 10, ground := Ground.data } (by simp) rfl) rfl { on := 8, ground := Ground.data } (by simp) rfl)
          have hbx : Below w3.heap.size w3 x := hJ.2.1 nA
          have cL := (hbx.cell (p := ⟨g, k * 5 + 3, none⟩) (World.block_lt_of_cell? w3 _ s3)).trans s3
          have HN : Hid ((JS (V37 w.heap.size g r k j (.slice (some ⟨r, 0, none⟩) b.ms.length vc) F0 m.m m.f (flg m.m F0 m.f)) (Below w3.heap.size w3) 20 (fun x => ∃ x2, Below w3.heap.size w3 x2 ∧ x = x2.setCell ⟨r, j * 3 + 1, none⟩ (.int .i64 (flg m.m F0 m.f)))) (fun j => j = 8 ∨ D j) (rs.upd f 8 (.slice (some ⟨r, 0, none⟩) b.ms.length vc)) x) := hJ.pure _ (fun z hz => Option.some.inj hz) (show (20 : Nat) ≠ 8 by decide)
          clear hJ hall hcl hni hbx nA
          refine wpOp_step rfl (fun K' hK => ?_)
          simp only [h7]
          go_wp2_with fail
          exact ⟨.slice (some ⟨r, 0, none⟩) b.ms.length vc, by simp [rs.upd, h7], HN.out⟩
        | 9, ho =>
          cases ho
          have HN : Hid ((JS (V37 w.heap.size g r k j (.slice (some ⟨r, 0, none⟩) b.ms.length vc) F0 m.m m.f (flg m.m F0 m.f)) (Below w3.heap.size w3) 20 (fun x => ∃ x2, Below w3.heap.size w3 x2 ∧ x = x2.setCell ⟨r, j * 3 + 1, none⟩ (.int .i64 (flg m.m F0 m.f)))) (fun j => j = 9 ∨ D j) (rs.upd f 9 (.int .i64 (j : Int))) x) := hJ.pure _ (fun z hz => Option.some.inj hz) (show (20 : Nat) ≠ 9 by decide)
          clear hJ hall hcl hni
          refine wpOp_step rfl (fun K' hK => ?_)
          go_simp
          exact hK _ _ ⟨.int .i64 (j : Int), by simp [rs.upd], HN.out⟩
        | 10, ho =>
          cases ho
          have d8 : D 8 := hall { on := 8, ground := Ground.data } (by simp) rfl
          have h8 : f 8 = .slice (some ⟨r, 0, none⟩) b.ms.length vc := hJ.1 8 d8 _ rfl
          have d9 : D 9 := hall { on := 9, ground := Ground.data } (by simp) rfl
          have h9 : f 9 = .int .i64 (j : Int) := hJ.1 9 d9 _ rfl
          have HN : Hid ((JS (V37 w.heap.size g r k j (.slice (some ⟨r, 0, none⟩) b.ms.length vc) F0 m.m m.f (flg m.m F0 m.f)) (Below w3.heap.size w3) 20 (fun x => ∃ x2, Below w3.heap.size w3 x2 ∧ x = x2.setCell ⟨r, j * 3 + 1, none⟩ (.int .i64 (flg m.m F0 m.f)))) (fun j => j = 10 ∨ D j) (rs.upd f 10 (.pointer (some ⟨r, j * 3, none⟩))) x) := hJ.pure _ (fun z hz => Option.some.inj hz) (show (20 : Nat) ≠ 10 by decide)
          clear hJ hall hcl hni
          refine wpOp_step rfl (fun K' hK => ?_)
          simp only [h8, h9]
          go_wp2_with fail
          exact ⟨.pointer (some ⟨r, j * 3, none⟩), by simp [rs.upd, h8, h9], HN.out⟩
        | 11, ho =>
          cases ho
          have d10 : D 10 := hall { on := 10, ground := Ground.data } (by simp) rfl
          have h10 : f 10 = .pointer (some ⟨r, j * 3, none⟩) := hJ.1 10 d10 _ rfl
          have HN : Hid ((JS (V37 w.heap.size g r k j (.slice (some ⟨r, 0, none⟩) b.ms.length vc) F0 m.m m.f (flg m.m F0 m.f)) (Below w3.heap.size w3) 20 (fun x => ∃ x2, Below w3.heap.size w3 x2 ∧ x = x2.setCell ⟨r, j * 3 + 1, none⟩ (.int .i64 (flg m.m F0 m.f)))) (fun j => j = 11 ∨ D j) (rs.upd f 11 (.pointer (some ⟨r, j * 3 + 1, none⟩))) x) := hJ.pure _ (fun z hz => Option.some.inj hz) (show (20 : Nat) ≠ 11 by decide)
          clear hJ hall hcl hni
          refine wpOp_step rfl (fun K' hK => ?_)
          simp only [h10]
          go_simp
          exact hK _ _ ⟨.pointer (some ⟨r, j * 3 + 1, none⟩), by simp [rs.upd, h10], HN.out⟩
        | 12, ho =>
          cases ho
          have d11 : D 11 := hall { on := 11, ground := Ground.data } (by simp) rfl
          have h11 : f 11 = .pointer (some ⟨r, j * 3 + 1, none⟩) := hJ.1 11 d11 _ rfl
          have nA : ¬ D 20 := fun h => hni (hcl 17 _ (hcl 20 _ (h) rfl { on := 17, ground := Ground.data } (by simp) rfl) rfl { on := 12, ground := Ground.data } (by simp) rfl)
          have hbx : Below w3.heap.size w3 x := hJ.2.1 nA
          have cL := (hbx.cell (p := ⟨r, j * 3 + 1, none⟩) (World.block_lt_of_cell? w3 _ rc)).trans rc
          have HN : Hid ((JS (V37 w.heap.size g r k j (.slice (some ⟨r, 0, none⟩) b.ms.length vc) F0 m.m m.f (flg m.m F0 m.f)) (Below w3.heap.size w3) 20 (fun x => ∃ x2, Below w3.heap.size w3 x2 ∧ x = x2.setCell ⟨r, j * 3 + 1, none⟩ (.int .i64 (flg m.m F0 m.f)))) (fun j => j = 12 ∨ D j) (rs.upd f 12 (.int .i64 F0)) x) := hJ.pure _ (fun z hz => Option.some.inj hz) (show (20 : Nat) ≠ 12 by decide)
          clear hJ hall hcl hni hbx nA
          refine wpOp_step rfl (fun K' hK => ?_)
          simp only [h11]
          go_wp2_with fail
          exact ⟨.int .i64 F0, by simp [rs.upd, h11], HN.out⟩
        | 13, ho =>
          cases ho
          have HN : Hid ((JS (V37 w.heap.size g r k j (.slice (some ⟨r, 0, none⟩) b.ms.length vc) F0 m.m m.f (flg m.m F0 m.f)) (Below w3.heap.size w3) 20 (fun x => ∃ x2, Below w3.heap.size w3 x2 ∧ x = x2.setCell ⟨r, j * 3 + 1, none⟩ (.int .i64 (flg m.m F0 m.f)))) (fun j => j = 13 ∨ D j) (rs.upd f 13 (.pointer (some ⟨w.heap.size, 0 + 2, none⟩))) x) := hJ.pure _ (fun z hz => Option.some.inj hz) (show (20 : Nat) ≠ 13 by decide)
          clear hJ hall hcl hni
          refine wpOp_step rfl (fun K' hK => ?_)
          go_simp
          exact hK _ _ ⟨.pointer (some ⟨w.heap.size, 0 + 2, none⟩), by simp [rs.upd], HN.out⟩
        | 14, ho =>
          cases ho
          have d13 : D 13 := hall { on := 13, ground := Ground.data } (by simp) rfl
          have h13 : f 13 = .pointer (some ⟨w.heap.size, 0 + 2, none⟩) := hJ.1 13 d13 _ rfl
          have nA : ¬ D 20 := fun h => hni (hcl 17 _ (hcl 20 _ (h) rfl { on := 17, ground := Ground.data } (by simp) rfl) rfl { on := 14, ground := Ground.data } (by simp) rfl)
          have hbx : Below w3.heap.size w3 x := hJ.2.1 nA
          have cL := (hbx.cell (p := ⟨w.heap.size, 0 + 2, none⟩) (World.block_lt_of_cell? w3 _ s2)).trans s2
          have HN : Hid ((JS (V37 w.heap.size g r k j (.slice (some ⟨r, 0, none⟩) b.ms.length vc) F0 m.m m.f (flg m.m F0 m.f)) (Below w3.heap.size w3) 20 (fun x => ∃ x2, Below w3.heap.size w3 x2 ∧ x = x2.setCell ⟨r, j * 3 + 1, none⟩ (.int .i64 (flg m.m F0 m.f)))) (fun j => j = 14 ∨ D j) (rs.upd f 14 (.int .i64 m.m)) x) := hJ.pure _ (fun z hz => Option.some.inj hz) (show (20 : Nat) ≠ 14 by decide)
          clear hJ hall hcl hni hbx nA
          refine wpOp_step rfl (fun K' hK => ?_)
          simp only [h13]
          go_wp2_with fail
          exact ⟨.int .i64 m.m, by simp [rs.upd, h13], HN.out⟩
        | 15, ho =>
          cases ho
          have HN : Hid ((JS (V37 w.heap.size g r k j (.slice (some ⟨r, 0, none⟩) b.ms.length vc) F0 m.m m.f (flg m.m F0 m.f)) (Below w3.heap.size w3) 20 (fun x => ∃ x2, Below w3.heap.size w3 x2 ∧ x = x2.setCell ⟨r, j * 3 + 1, none⟩ (.int .i64 (flg m.m F0 m.f)))) (fun j => j = 15 ∨ D j) (rs.upd f 15 (.pointer (some ⟨w.heap.size, 0 + 3, none⟩))) x) := hJ.pure _ (fun z hz => Option.some.inj hz) (show (20 : Nat) ≠ 15 by decide)
          clear hJ hall hcl hni
          refine wpOp_step rfl (fun K' hK => ?_)
          go_simp
          exact hK _ _ ⟨.pointer (some ⟨w.heap.size, 0 + 3, none⟩), by simp [rs.upd], HN.out⟩
        | 16, ho =>
          cases ho
          have d15 : D 15 := hall { on := 15, ground := Ground.data } (by simp) rfl
          have h15 : f 15 = .pointer (some ⟨w.heap.size, 0 + 3, none⟩) := hJ.1 15 d15 _ rfl
          have nA : ¬ D 20 := fun h => hni (hcl 17 _ (hcl 20 _ (h) rfl { on := 17, ground := Ground.data } (by simp) rfl) rfl { on := 16, ground := Ground.data } (by simp) rfl)
          have hbx : Below w3.heap.size w3 x := hJ.2.1 nA
          have cL := (hbx.cell (p := ⟨w.heap.size, 0 + 3, none⟩) (World.block_lt_of_cell? w3 _ s4)).trans s4
          have HN : Hid ((JS (V37 w.heap.size g r k j (.slice (some ⟨r, 0, none⟩) b.ms.length vc) F0 m.m m.f (flg m.m F0 m.f)) (Below w3.heap.size w3) 20 (fun x => ∃ x2, Below w3.heap.size w3 x2 ∧ x = x2.setCell ⟨r, j * 3 + 1, none⟩ (.int .i64 (flg m.m F0 m.f)))) (fun j => j = 16 ∨ D j) (rs.upd f 16 (.int .i64 m.f)) x) := hJ.pure _ (fun z hz => Option.some.inj hz) (show (20 : Nat) ≠ 16 by decide)
          clear hJ hall hcl hni hbx nA
          refine wpOp_step rfl (fun K' hK => ?_)
          simp only [h15]
          go_wp2_with fail
          exact ⟨.int .i64 m.f, by simp [rs.upd, h15], HN.out⟩
        | 17, ho =>
          cases ho
          have d12 : D 12 := hall { on := 12, ground := Ground.data } (by simp) rfl
          have h12 : f 12 = .int .i64 F0 := hJ.1 12 d12 _ rfl
          have d14 : D 14 := hall { on := 14, ground := Ground.data } (by simp) rfl
          have h14 : f 14 = .int .i64 m.m := hJ.1 14 d14 _ rfl
          have d16 : D 16 := hall { on := 16, ground := Ground.data } (by simp) rfl
          have h16 : f 16 = .int .i64 m.f := hJ.1 16 d16 _ rfl
          have HN : Hid ((JS (V37 w.heap.size g r k j (.slice (some ⟨r, 0, none⟩) b.ms.length vc) F0 m.m m.f (flg m.m F0 m.f)) (Below w3.heap.size w3) 20 (fun x => ∃ x2, Below w3.heap.size w3 x2 ∧ x = x2.setCell ⟨r, j * 3 + 1, none⟩ (.int .i64 (flg m.m F0 m.f)))) (fun j => j = 17 ∨ D j) (rs.upd f 17 (.int .i64 (flg m.m F0 m.f))) x) := hJ.pure _ (fun z hz => Option.some.inj hz) (show (20 : Nat) ≠ 17 by decide)
          clear hJ hall hcl hni
          refine wpOp_step rfl (fun K' hK => ?_)
          simp only [h12, h14, h16]
          go_wp2_with (go_at_call 83; refine (HFL.out _).mono ?_; rintro e w' ⟨rfl, hw'⟩; have hw' := hw'.symm; subst hw')
          exact ⟨.int .i64 (flg m.m F0 m.f), by simp [rs.upd, h12, h14, h16], HN.out⟩
        | 18, ho =>
          cases ho
          have d3 : D 3 := hall { on := 3, ground := Ground.data } (by simp) rfl
          have h3 : f 3 = .slice (some ⟨r, 0, none⟩) b.ms.length vc := hJ.1 3 d3 _ rfl
          have d4 : D 4 := hall { on := 4, ground := Ground.data } (by simp) rfl
          have h4 : f 4 = .int .i64 (j : Int) := hJ.1 4 d4 _ rfl
          have HN : Hid ((JS (V37 w.heap.size g r k j (.slice (some ⟨r, 0, none⟩) b.ms.length vc) F0 m.m m.f (flg m.m F0 m.f)) (Below w3.heap.size w3) 20 (fun x => ∃ x2, Below w3.heap.size w3 x2 ∧ x = x2.setCell ⟨r, j * 3 + 1, none⟩ (.int .i64 (flg m.m F0 m.f)))) (fun j => j = 18 ∨ D j) (rs.upd f 18 (.pointer (some ⟨r, j * 3, none⟩))) x) := hJ.pure _ (fun z hz => Option.some.inj hz) (show (20 : Nat) ≠ 18 by decide)
          clear hJ hall hcl hni
          refine wpOp_step rfl (fun K' hK => ?_)
          simp only [h3, h4]
          go_wp2_with fail
          exact ⟨.pointer (some ⟨r, j * 3, none⟩), by simp [rs.upd, h3, h4], HN.out⟩
        | 19, ho =>
          cases ho
          have d18 : D 18 := hall { on := 18, ground := Ground.data } (by simp) rfl
          have h18 : f 18 = .pointer (some ⟨r, j * 3, none⟩) := hJ.1 18 d18 _ rfl
          have HN : Hid ((JS (V37 w.heap.size g r k j (.slice (some ⟨r, 0, none⟩) b.ms.length vc) F0 m.m m.f (flg m.m F0 m.f)) (Below w3.heap.size w3) 20 (fun x => ∃ x2, Below w3.heap.size w3 x2 ∧ x = x2.setCell ⟨r, j * 3 + 1, none⟩ (.int .i64 (flg m.m F0 m.f)))) (fun j => j = 19 ∨ D j) (rs.upd f 19 (.pointer (some ⟨r, j * 3 + 1, none⟩))) x) := hJ.pure _ (fun z hz => Option.some.inj hz) (show (20 : Nat) ≠ 19 by decide)
          clear hJ hall hcl hni
          refine wpOp_step rfl (fun K' hK => ?_)
          simp only [h18]
          go_simp
          exact hK _ _ ⟨.pointer (some ⟨r, j * 3 + 1, none⟩), by simp [rs.upd, h18], HN.out⟩
        | 20, ho =>
          cases ho
          have d19 : D 19 := hall { on := 19, ground := Ground.data } (by simp) rfl
          have h19 : f 19 = .pointer (some ⟨r, j * 3 + 1, none⟩) := hJ.1 19 d19 _ rfl
          have d17 : D 17 := hall { on := 17, ground := Ground.data } (by simp) rfl
          have h17 : f 17 = .int .i64 (flg m.m F0 m.f) := hJ.1 17 d17 _ rfl
          have hbx : Below w3.heap.size w3 x := hJ.2.1 hni
          have hrl : r < w3.heap.size := World.block_lt_of_cell? w3 _ rc
          have hblk : x.heap[r]? = w3.heap[r]? := hbx.block r hrl
          have cX := (World.cell?_of_block (a := ⟨r, j * 3 + 1, none⟩) hblk).trans rc
          have eX := (World.frozen?_of_block (a := ⟨r, j * 3 + 1, none⟩) hblk).trans rf
          have HN : Hid ((JS (V37 w.heap.size g r k j (.slice (some ⟨r, 0, none⟩) b.ms.length vc) F0 m.m m.f (flg m.m F0 m.f)) (Below w3.heap.size w3) 20 (fun x => ∃ x2, Below w3.heap.size w3 x2 ∧ x = x2.setCell ⟨r, j * 3 + 1, none⟩ (.int .i64 (flg m.m F0 m.f)))) (fun j => j = 20 ∨ D j) (rs.upd f 20 undef) (x.setCell ⟨r, j * 3 + 1, none⟩ (.int .i64 (flg m.m F0 m.f)))) := hJ.store undef rfl (fun z hz => by cases hz) ⟨x, hbx, rfl⟩
          clear hJ hall hcl hni hbx hblk
          refine wpOp_step rfl (fun K' hK => ?_)
          simp only [h19, h17]
          go_wp2_with fail
          exact ⟨undef, by simp [rs.upd, h19, h17], HN.out⟩
        | k + 21, ho => simp at ho
      · intro D f x hD hJ
        obtain ⟨x2, hb2, hx⟩ := hJ.2.2 (hD 20 (by decide))
        have hgf := grow_flags (ownL_below HO3.out.1 hb2) hk HBB.out HUV.out.1 hj (flg m.m F0 m.f)
        have HO4 : Hid (OwnL x W.heap.size (.slice (some ⟨g, 0, none⟩) xs.length c) (xs.set k ⟨b.nm, b.vd, b.nx, setF b.ms j (flg m.m F0 m.f), b.ks⟩) (upd us0 k ((us0 k).1, (us0 k).2)) ∧ Below w.heap.size w x) := by
          rw [hx]
          exact ⟨hgf.1, HZ.out.2.trans ((hb2.mono HZ.out.2.size).trans (hgf.2.mono HWW.out))⟩
        clear hJ hx hD hgf hb2 HO3 rc rf s1 s2 s3 s4
        generalize f 0 = e_0
        generalize f 1 = e_1
        generalize f 2 = e_2
        generalize f 3 = e_3
        generalize f 4 = e_4
        generalize f 5 = e_5
        generalize f 6 = e_6
        generalize f 7 = e_7
        generalize f 8 = e_8
        generalize f 9 = e_9
        generalize f 10 = e_10
        generalize f 11 = e_11
        generalize f 12 = e_12
        generalize f 13 = e_13
        generalize f 14 = e_14
        generalize f 15 = e_15
        generalize f 16 = e_16
        generalize f 17 = e_17
        generalize f 18 = e_18
        generalize f 19 = e_19
        clear f D
        go_wp2
        go_ret2
        exact ⟨⟨_, _, _, 0, _, rfl, HWF.out, .inl ⟨rfl, rfl⟩, ownL_boxes HO4.out.1, (ownL_fines HO4.out.1).2⟩, HO4.out.2⟩
    · have HE : Hid (Wf b m B0 17) := .inr ⟨hno, rfl, rfl⟩
      clear hno hf HO3 s1 s2 s3 s4
      go_wp2
      go_ret2
      exact ⟨⟨_, xs, vs, 17, B0, rfl, HE.out, .inr ⟨by decide, rfl⟩, HZ.out.1, HF.out⟩, HZ.out.2⟩
end Go.Proofs.YtncnbhekgkemfaaGreatDoor.sa
