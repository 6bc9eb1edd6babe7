/-
  The specification's l09Apply where mails go.
-/
import Derived.Test.YtncnbhekgkemfaaGreatDoorPkbd

namespace Go.Proofs.YtncnbhekgkemfaaGreatDoor.sa
open Go.ChangeShapes Go.WideShapes Go.ChangeAt Go.RowKit Go.Deep Go.Joins
open st gr bx mx bl wi
set_option linter.unusedVariables false

theorem and8 (n : Nat) (h : n < 32) : (bits .and .i64 (n : Int) 8 == 0) = !(bits .and .i64 (n : Int) 8 == 8) := by
  have : ∀ k : Fin 32, (bits .and .i64 (k.val : Int) 8 == 0) = !(bits .and .i64 (k.val : Int) 8 == 8) := by decide
  exact this ⟨n, h⟩
theorem del_zero {f u : Int} {t : ByteArray} (h0 : 0 ≤ f) (h1 : f ≤ 31) : (bits .and .i64 f 8 == 0) = !del ⟨u, f, t⟩ := by
  obtain ⟨n, rfl⟩ := Int.eq_ofNat_of_zero_le h0
  exact and8 n (by omega)
/-- A box is given another row of mails. -/
theorem give_mails {x : World} {base B g c : Nat} {xs : List Bx} {us : Nat → Value × Value} {k : Nat} {b : Bx} {v : Value} {ms : List St} {w0 : World} (h : OwnL w0 base (.slice (some ⟨g, 0, none⟩) xs.length c) xs us) (hk : k < xs.length) (hb : xs.getD k noB = b) (hx : Below w0.heap.size w0 x) (hbs : base ≤ w0.heap.size) (hm : OwnM x w0.heap.size v ms) :
    OwnL (x.setCell ⟨g, k * 5 + 3, none⟩ v) base (.slice (some ⟨g, 0, none⟩) xs.length c) (xs.set k ⟨b.nm, b.vd, b.nx, ms, b.ks⟩) (upd us k (v, (us k).2)) ∧ Below base w0 (x.setCell ⟨g, k * 5 + 3, none⟩ v) := by
  subst hb
  have hg2 : Gr2 w0 x (us k).1.ownBlock (us k).2.ownBlock := gr2_below hx _ _
  obtain ⟨om, ok⟩ := h.2.1 k hk
  have ok2 := ow.own_below ok hx
  have hL2 := list_gr2 h hk hg2
  have hgb : base ≤ g := (hL2.lt g rfl).1
  have hm2 : OwnM x base v ms := ⟨hm.1, by
    rcases hm.2 with e | ⟨g', cap, cur, e, hB, rest⟩
    · exact .inl e
    · exact .inr ⟨g', cap, cur, e, Nat.le_trans hbs hB, rest⟩⟩
  refine ⟨list_set h hk hg2 hm2 ok2 (.inr fun q hq => (hm.lt q hq).1) (.inl rfl) ?_ (mk.grown_set _ _ _ _), (hx.mono hbs).setCell (p := ⟨g, _, none⟩) hgb _⟩
  have hst := ((show x.ownsRow base 99 5 (.slice (some ⟨g, 0, none⟩) xs.length c) xs.length (bcells xs us xs.length) from hL2).stored (k * 5 + 3) v).1
  unfold OwnB
  rw [show (xs.set k ⟨(xs.getD k noB).nm, (xs.getD k noB).vd, (xs.getD k noB).nx, ms, (xs.getD k noB).ks⟩).length = xs.length by simp, ← bset (us := us) hk ⟨(xs.getD k noB).nm, (xs.getD k noB).vd, (xs.getD k noB).nx, ms, (xs.getD k noB).ks⟩ (v, (us k).2) rfl rfl]
  obtain ⟨i0, i1, i2, i3, i4⟩ := bcells_at xs us xs.length k hk
  simp only
  rw [set_same i2]
  have i4' : ((bcells xs us xs.length).set (k * 5 + 3) v)[k * 5 + 4]? = some (us k).2 := by rw [List.getElem?_set_ne (by omega)]; exact i4
  rw [set_same i4']
  exact hst
set_option maxHeartbeats 8000000 in
set_option maxRecDepth 100000 in
theorem apply_gone (v : Value) (xs : List Bx) (vs : Nat → Value × Value) (m : mu.Mu) (iv : Value) (w : World) (h : BoxesAt w v xs vs) (hf : Fines xs vs) (hs : bx.Smalls xs) (hiv : ∃ a n c, iv = .slice a n c) (hmb : m.b.size ≤ 1048576) (k : Nat) (hk : k < xs.length) (b : Bx) (hbb : xs.getD k noB = b) (hp : Plc xs m.b (k : Int)) (hlm : b.ms.length ≤ 30) (hfl : ∀ j, j < b.ms.length → 0 ≤ (b.ms.getD j noS).f ∧ (b.ms.getD j noS).f ≤ 31) (hmk : m.k = 4) :
    Calls Tryz.prog 53 #[v, mu.MV m iv] w fun e w' => Ar xs k (fun y' c => c = 0 ∧ y' = ⟨b.nm, b.vd, b.nx, kept b.ms, b.ks⟩) e w' ∧ Below w.heap.size w w' := by
  have HA : Hid (BoxesAt w v xs vs) := h
  have HBB : Hid (xs.getD k noB = b) := hbb
  clear hbb
  have HF : Hid (Fines xs vs) := hf
  obtain ⟨ia, inn, ic, rfl⟩ := hiv
  obtain ⟨⟨a, cap, rfl, hd2⟩, hd3⟩ := h
  clear hd2 hd3
  obtain ⟨W, hW⟩ : ∃ W, W = w.alloc (.cells #[.int .i64 4, .int .i64 m.u, .int .i64 m.m, .int .i64 m.f, .string m.b, .slice ia inn ic] 104) := ⟨_, rfl⟩
  have b1 : Below w.heap.size w W := by rw [hW]; exact bx.new_below w _ _
  have k1 : mu.Lies W w.heap.size 104 m (.slice ia inn ic) := by rw [hW, ← hmk]; exact mu.lies_new _ _ _ _
  have HAW : Hid (BoxesAt W (.slice a xs.length cap) xs vs) := boxes_below HA.out b1
  have HFI : Hid (Calls Tryz.prog 30 #[.slice a xs.length cap, .string m.b] W fun e w' => e = .returned (.int .i64 (k : Int)) ∧ w' = W) := find_any W.heap.size _ xs vs m.b W HAW.out.1 hs.1 hp
  have HOW : Hid (Calls Tryz.prog 81 #[.slice a xs.length cap] W fun e w' => (∃ L us, e = .returned L ∧ OwnL w' W.heap.size L xs us) ∧ Below W.heap.size W w') := spec_own _ xs vs W HAW.out HF.out hs
  have HKP : Hid (∀ X, Below W.heap.size W X → mu.Lies X w.heap.size 104 m (.slice ia inn ic) ∧ BoxesAt X (.slice a xs.length cap) xs vs ∧ Below w.heap.size w X) := fun X hX => by
    have hb : Below w.heap.size w X := b1.trans (hX.mono b1.size)
    exact ⟨k1.keep hX, boxes_below HA.out hb, hb⟩
  have d0 : W.cell? ⟨w.heap.size, 0, none⟩ = some (.int .i64 4) := by rw [← hmk]; exact k1.c0
  have d4 := k1.c4
  have hxl := hs.1
  have HWW : Hid (w.heap.size ≤ W.heap.size) := b1.size
  unfold mu.MV
  rw [hmk]
  clear b1 k1 hs HA HAW hp
  have hk0 : ¬ (k : Int) < 0 := by omega
  go_enter Tryz.func53, Tryz.ntmps53
  go_wp2_with (rw [← hW])
  clear hW
  refine HFI.out.mono ?_
  rintro e w' ⟨rfl, hw'⟩
  have hw' := hw'.symm
  subst hw'
  clear HFI
  go_wp2_with fail
  refine HOW.out.mono ?_
  rintro e w2 ⟨⟨L, us0, rfl, hO⟩, hb2⟩
  clear HOW d0 d4
  obtain ⟨g, c, rfl⟩ : ∃ g c, L = .slice (some ⟨g, 0, none⟩) xs.length c := by
    rcases hO.1.2 with ⟨_, h0⟩ | ⟨g, cap, cur, rfl, _⟩
    · omega
    · exact ⟨g, cap, rfl⟩
  obtain ⟨hM, hBX, hBW⟩ := HKP.out w2 hb2
  have HBX : Hid (BoxesAt w2 (.slice a xs.length cap) xs vs ∧ Below w.heap.size w w2) := ⟨hBX, hBW⟩
  have hat := at5 hO hk
  have hrows := hO.2.1 k hk
  rw [HBB.out] at hat hrows
  obtain ⟨t0, t1, t2, t3, t4, tf⟩ := hat
  obtain ⟨om, ok⟩ := hrows
  obtain ⟨⟨va, vn, vc, hv1⟩, ⟨ua, un, uc, hu1⟩⟩ := (⟨slice_fine (own_fine om), slice_fine (own_fine ok)⟩ : (∃ a n c, (us0 k).1 = Value.slice a n c) ∧ (∃ a n c, (us0 k).2 = Value.slice a n c))
  rw [hv1] at om t3
  rw [hu1] at ok t4
  obtain rfl : un = b.ks.length := by rcases ok.2 with ⟨e, h0⟩ | ⟨g, cap, cur, e, _⟩ <;> cases e <;> omega
  obtain rfl : vn = b.ms.length := by rcases om.2 with ⟨e, h0⟩ | ⟨g, cap, cur, e, _⟩ <;> cases e <;> omega
  have d0 : w2.cell? ⟨w.heap.size, 0, none⟩ = some (.int .i64 4) := by rw [← hmk]; exact hM.c0
  have d1 := hM.c1
  have d2 := hM.c2
  have d3 := hM.c3
  have hkx : (k : Int) < (xs.length : Int) := by omega
  have HO : Hid (OwnL w2 W.heap.size (.slice (some ⟨g, 0, none⟩) xs.length c) xs us0 ∧ Below W.heap.size W w2) := ⟨hO, hb2⟩
  have HOM : Hid (OwnM w2 W.heap.size (.slice va b.ms.length vc) b.ms ∧ OwnK w2 W.heap.size (.slice ua b.ks.length uc) b.ks) := ⟨om, ok⟩
  have HUV : Hid ((us0 k).1 = .slice va b.ms.length vc ∧ (us0 k).2 = .slice ua b.ks.length uc) := ⟨hv1, hu1⟩
  clear hO hb2 hM hv1 hu1 om ok hBX hBW
  obtain ⟨j0, hj0, hy0, hy1, hy2⟩ := info_parts infoS
  have HO0 : Hid (OwnM (w2.alloc (.cells #[] 110)) w2.heap.size (.slice (some ⟨w2.heap.size, 0, none⟩) 0 0) (kept (b.ms.take 0)) ∧ Below w2.heap.size w2 (w2.alloc (.cells #[] 110))) := ⟨World.ownsRow_made w2 #[] 0 (Nat.le_refl _) (Nat.zero_le _) rfl, (Below.refl _ _).alloc (Nat.le_refl _) _⟩
  go_wp2_with fail
  generalize w2.alloc _ = X1 at HO0 ⊢
  go_loopw [11, 12] (fun v i wr => ∃ (j : Nat), j ≤ b.ms.length ∧ i = .int .i64 j ∧ OwnM wr w2.heap.size v (kept (b.ms.take j)) ∧ Below w2.heap.size w2 wr) (fun _ i _ => b.ms.length - (intOf i).toNat)
  case atStart => exact ⟨0, Nat.zero_le _, rfl, HO0.out⟩
  case round =>
    clear HO0
    obtain ⟨j, hj, rfl, hom, hbr⟩ := hrel
    obtain ⟨ra, rn, rc, rfl⟩ := slice_fine (own_fine hom)
    obtain rfl : rn = (kept (b.ms.take j)).length := by rcases hom.2 with ⟨e, h0⟩ | ⟨g, cap, cur, e, _⟩ <;> cases e <;> omega
    have hrl : (kept (b.ms.take j)).length ≤ 30 := Nat.le_trans (List.length_filter_le _ _) (by simp; omega)
    have HOM2 : Hid (OwnM wr w2.heap.size (.slice ra (kept (b.ms.take j)).length rc) (kept (b.ms.take j)) ∧ Below w2.heap.size w2 wr) := ⟨hom, hbr⟩
    have kp : ∀ {ad : Addr} {u : Value}, w2.cell? ad = some u → wr.cell? ad = some u := fun {ad u} hh => (hbr.cell (p := ad) (World.block_lt_of_cell? w2 _ hh)).trans hh
    have s3 := kp t3
    have sf : ∀ q, wr.frozen? ⟨g, q, none⟩ = false := fun q => by rw [← tf q]; exact World.frozen?_of_block (hbr.block g (World.block_lt_of_cell? w2 _ t0))
    by_cases hlt : j < b.ms.length
    · obtain ⟨r, hva⟩ : ∃ r, va = some ⟨r, 0, none⟩ := by
        rcases HOM.out.1.2 with ⟨e, h0⟩ | ⟨g, cap, cur, e, _⟩
        · omega
        · cases e; exact ⟨_, rfl⟩
      subst hva
      have hmr : OwnM wr W.heap.size (.slice (some ⟨r, 0, none⟩) b.ms.length vc) b.ms := ow.own_below HOM.out.1 hbr
      obtain ⟨m0, m1, m2⟩ := mc_at b.ms j hlt
      have c0 := (hmr.cellAt (j * 3) (by omega)).trans m0
      have c1 := (hmr.cellAt (j * 3 + 1) (by omega)).trans m1
      have c2 := (hmr.cellAt (j * 3 + 2) (by omega)).trans m2
      obtain ⟨E, hE⟩ : ∃ E, E = b.ms.getD j noS := ⟨_, rfl⟩
      have hff := hfl j hlt
      have HKT := kept_take hlt
      rw [← hE] at c0 c1 c2 hff HKT
      have HKT : Hid (kept (b.ms.take (j + 1)) = if del E = true then kept (b.ms.take j) else kept (b.ms.take j) ++ [E]) := HKT
      have hd0 : (bits .and .i64 E.f 8 == 0) = !del E := del_zero hff.1 hff.2
      have hlt' : (j : Int) < (b.ms.length : Int) := by omega
      have hj0' : (0 : Int) ≤ (j : Int) := by omega
      clear hmr m0 m1 m2 hE hom hbr kp t0 t1 t2 t3 t4 tf d0 d1 d2 d3 sf
      generalize hRR : kept (b.ms.take j) = R at *
      cases hdd : del E
      · rw [hdd] at hd0 HKT
        have hd1 : (bits .and .i64 E.f 8 == 0) = true := hd0
        have HKN : Hid (kept (b.ms.take (j + 1)) = R ++ [E]) := HKT.out.trans (if_neg (by simp))
        clear hd0 HKT hdd
        have hA : Below wr.heap.size wr (wr.alloc (.cells #[.int .i64 E.u, .int .i64 E.f, .string E.t] 110)) := (Below.refl _ _).alloc (Nat.le_refl _) _
        have hrow : (wr.alloc (.cells #[.int .i64 E.u, .int .i64 E.f, .string E.t] 110)).ownsRow w2.heap.size 110 3 (.slice ra R.length rc) R.length (mc R) := ow.own_below HOM2.out.1 hA
        have hszB : w2.heap.size ≤ (wr.alloc (.cells #[.int .i64 E.u, .int .i64 E.f, .string E.t] 110)).heap.size := Nat.le_trans HOM2.out.2.size hA.size
        have HBA : Hid (Below w2.heap.size w2 (wr.alloc (.cells #[.int .i64 E.u, .int .i64 E.f, .string E.t] 110))) := HOM2.out.2.trans (hA.mono HOM2.out.2.size)
        clear hA
        go_wp2_with (at_builtin; refine apk.wpList_append_keep _ rfl _ _ 97 rfl w2.heap.size 110 j0 (.agg #[.int .i64 0, .int .i64 0, .string ⟨#[]⟩]) 3 32 Tryz.underlying97 hj0 hy0 hy1 hy2 rfl (by decide) _ _ _ rfl hrow ⟨wr.heap.size, 0, none⟩ 1 1 (mc [E]) rfl rfl (ow.cells_new wr [.int .i64 E.u, .int .i64 E.f, .string E.t] _) (mc_one _) (by unfold maxLen; omega) (by omega) hszB ?_; intro v' w4 ho4 hg4 hk4)
        have HO5 : Hid (OwnM w4 w2.heap.size v' (R ++ [E]) ∧ Below w2.heap.size w2 w4) := by
          refine ⟨?_, HBA.out.trans ⟨hg4.os, hg4.tape, hg4.output, hg4.size, fun q hq => hg4.block q (by omega) (fun e => by have := (hrow.lt q e.symm).1; omega)⟩⟩
          unfold OwnM
          rw [mc_app, List.length_append]
          exact ho4
        clear ho4 hg4 hk4 hrow hszB HBA HOM2 c0 c1 c2 s3
        go_wp2
        go_roundw
        case rel => exact ⟨j + 1, by omega, by go_num, by rw [HKN.out]; exact HO5.out.1, HO5.out.2⟩
        case measure => simp [intOf]; omega
      · rw [hdd] at hd0 HKT
        have hd1 : (bits .and .i64 E.f 8 == 0) = false := hd0
        have HKN : Hid (kept (b.ms.take (j + 1)) = R) := HKT.out.trans (if_pos rfl)
        clear hd0 HKT hdd
        go_wp2
        go_roundw
        case rel => exact ⟨j + 1, by omega, by go_num, by rw [HKN.out]; exact HOM2.out.1, HOM2.out.2⟩
        case measure => simp [intOf]; omega
    · have hjn : j = b.ms.length := by omega
      have HKE : Hid (kept (b.ms.take j) = kept b.ms) := (show _ = _ by rw [hjn, List.take_length])
      have HGM : Hid (OwnL (wr.setCell ⟨g, k * 5 + 3, none⟩ (.slice ra (kept (b.ms.take j)).length rc)) W.heap.size (.slice (some ⟨g, 0, none⟩) xs.length c) (xs.set k ⟨b.nm, b.vd, b.nx, kept b.ms, b.ks⟩) (upd us0 k (.slice ra (kept (b.ms.take j)).length rc, (us0 k).2)) ∧ Below w.heap.size w (wr.setCell ⟨g, k * 5 + 3, none⟩ (.slice ra (kept (b.ms.take j)).length rc))) := by
        have hh := give_mails (v := .slice ra (kept (b.ms.take j)).length rc) HO.out.1 hk HBB.out HOM2.out.2 HO.out.2.size (ms := kept b.ms) (B := 0) (by rw [← HKE.out]; exact HOM2.out.1)
        exact ⟨hh.1, HBX.out.2.trans (hh.2.mono HWW.out)⟩
      have sf3 := sf (k * 5 + 3)
      generalize (kept (b.ms.take j)).length = ln at *
      clear HOM2 HKE hom hbr kp t0 t1 t2 t3 t4 tf d0 d1 d2 d3 sf HBX HO HOM
      go_wp2
      go_ret2
      exact ⟨⟨_, _, _, 0, _, rfl, ⟨rfl, rfl⟩, .inl ⟨rfl, rfl⟩, ownL_boxes HGM.out.1, (ownL_fines HGM.out.1).2⟩, HGM.out.2⟩
end Go.Proofs.YtncnbhekgkemfaaGreatDoor.sa
