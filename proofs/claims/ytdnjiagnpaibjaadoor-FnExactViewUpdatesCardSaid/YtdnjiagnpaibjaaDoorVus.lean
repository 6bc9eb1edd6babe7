/-
  The specification's updates of a view.
-/
import Derived.Test.YtdnjiagnpaibjaaDoorVuj
namespace Go.Proofs.YtdnjiagnpaibjaaDoor.vu
open Go.RowKit
open ow (Reads)
set_option linter.unusedVariables false

theorem cl_parts (n : Nat) (wd : List UInt8) : (⟨#[42, 32]⟩ : ByteArray) ++ ⟨(Lib.decDigits n).toArray⟩ ++ ⟨(32 :: (wd ++ [13, 10])).toArray⟩ = ⟨(cl n wd).toArray⟩ := by
  show (⟨[42, 32].toArray⟩ : ByteArray) ++ ⟨(Lib.decDigits n).toArray⟩ ++ ⟨(32 :: (wd ++ [13, 10])).toArray⟩ = _
  rw [appB, appB]
  congr 2
  simp [cl]
/-- The row of a view. -/
structure Sts (W : World) (S : Nat) (L : List Int) (v : Value) (x : World) : Prop where
  row : x.ownsRow S 3 1 v L.length (L.map (Value.int .i64))
  bel : Below S W x
theorem Sts.below {W x x' : World} {S : Nat} {L : List Int} {v : Value} (h : Sts W S L v x) (hS : S ≤ W.heap.size) (hb : Below x.heap.size x x') : Sts W S L v x' := ⟨ow.own_below h.row hb, h.bel.trans (hb.mono (Nat.le_trans hS h.bel.size))⟩
theorem Sts.app {W x x' : World} {S : Nat} {L : List Int} {v v' : Value} {z : Int} (h : Sts W S L v x) (hS : S ≤ W.heap.size) (ho : x'.ownsRow S 3 1 v' (L.length + 1) (L.map (Value.int .i64) ++ [.int .i64 z])) (hg : x.grownBy x' v.ownBlock) : Sts W S (L ++ [z]) v' x' := by
  refine ⟨?_, h.bel.grown hg (Nat.le_trans hS h.bel.size) (fun k hk => ow.own_lt h.row k hk)⟩
  rw [List.map_append, List.length_append]
  exact ho

set_option maxHeartbeats 8000000 in
set_option maxRecDepth 100000 in
theorem spec_up (x : bx.Bx) (p q v : Value) (zs : List Int) (w : World) (h : bx.RowsAt w p q x.ms x.ks) (hl : x.ms.length ≤ 30) (hr : Ris (uo x.ms)) (hz : Reads .i64 w v zs) (hzl : zs.length ≤ 1000) :
    Calls Tryd.prog 28 #[bx.BV x p q, v] w fun e w' => (∃ V, e = .returned (.tuple #[.string ⟨(sd (uo x.ms) zs).toArray⟩, V]) ∧ w'.ownsRow w.heap.size 3 1 V (al (uo x.ms) zs).length ((al (uo x.ms) zs).map (Value.int .i64))) ∧ Below w.heap.size w w' := by
  obtain ⟨i0, hi, hz0, hz1, hz2⟩ := info_parts ow.Tryd.infoNum
  obtain ⟨W0, hW0⟩ : ∃ W, W = w.alloc (.cells #[.string x.nm, .int .i64 x.vd, .int .i64 x.nx, p, q] 32) := ⟨_, rfl⟩
  have hs0 : W0.heap.size = w.heap.size + 1 := by rw [hW0]; simp
  have L0 : bx.Lies W0 w.heap.size 32 x p q := by rw [hW0]; exact bx.lies_new w 32 x p q
  have b0 : Below w.heap.size w W0 := by rw [hW0]; exact bx.new_below w _ _
  have b1 : Below (w.heap.size + 1) W0 (W0.alloc (.cells #[] 3)) := (Below.refl _ _).alloc (by omega) _
  have R0 : (W0.alloc (.cells #[] 3)).ownsRow (w.heap.size + 1) 3 1 (.slice (some ⟨w.heap.size + 1, 0, none⟩) 0 0) 0 [] := by
    refine ⟨rfl, .inr ⟨w.heap.size + 1, 0, #[], rfl, Nat.le_refl _, ?_, Nat.le_refl _, by unfold maxLen; omega, rfl, rfl⟩⟩
    rw [← hs0]
    exact bx.heap_new _ _
  have HS0 : Hid (Sts W0 (w.heap.size + 1) [] (.slice (some ⟨w.heap.size + 1, 0, none⟩) 0 0) (W0.alloc (.cells #[] 3))) := ⟨R0, b1⟩
  have HSZ : Hid (w.heap.size + 1 = W0.heap.size) := hs0.symm
  have HK : Hid (∀ X, Below (w.heap.size + 1) W0 X → bx.Lies X w.heap.size 32 x p q ∧ bx.RowsAt X p q x.ms x.ks ∧ Reads .i64 X v zs ∧ Below w.heap.size w X) := fun X hX => by
    have hb : Below w.heap.size w X := b0.trans (hX.mono (by omega))
    exact ⟨(hX.block _ (by omega)).trans L0, bx.rows_below h hb, reads_below hz hb, hb⟩
  have HRI : Hid (Ris (uo x.ms)) := hr
  obtain ⟨⟨a, cap, rfl, hd1⟩, ⟨a1, cap1, rfl, hd2⟩⟩ := h
  obtain ⟨av, cv, rfl, hd3⟩ := hz
  clear hd1 hd2 hd3 hr b1 L0 b0 R0
  obtain ⟨n, hn⟩ : ∃ n, n = zs.length := ⟨_, rfl⟩
  have HN : Hid (n = zs.length) := hn
  obtain ⟨us, hus⟩ : ∃ us, us = uo x.ms := ⟨_, rfl⟩
  have HUS : Hid (us = uo x.ms) := hus
  have hul : us.length ≤ 30 := by rw [hus, uo_len]; exact hl
  have HUL : Hid (us.length = x.ms.length) := (show _ = _ by rw [hus, uo_len])
  rw [← hus] at HRI ⊢
  rw [← hn] at HK hzl ⊢
  clear hn hus
  obtain ⟨nm, vd, nx, ms, ks⟩ := x
  unfold bx.BV
  simp only at *
  have HE : Hid ((⟨#[]⟩ : ByteArray) = ⟨(s1 us zs 0).toArray⟩) := rfl
  go_enter Tryd.func28, Tryd.ntmps28
  go_wp2_with (rw [← hW0])
  clear hs0
  generalize W0.alloc _ = W1 at HS0 ⊢
  go_loopw [6, 7, 8, 9] (fun o l g i wr => ∃ (k m : Nat), k ≤ n ∧ i = .int .i64 k ∧ g = .int .i64 m ∧ m + (l1 us zs k).length = k ∧ o = .string ⟨(s1 us zs k).toArray⟩ ∧ Sts W0 (w.heap.size + 1) (l1 us zs k) l wr) (fun _ _ _ i _ => n - (intOf i).toNat)
  case atStart => exact ⟨0, 0, Nat.zero_le _, rfl, rfl, rfl, by rw [HE.out], HS0.out⟩
  case round =>
    clear HS0 hW0 HE
    obtain ⟨k, g, hk, rfl, rfl, hgm, rfl, hst⟩ := hrel
    obtain ⟨aV, cV, rfl⟩ := own_form hst.row
    have hlk := l1_len us zs k
    have hsk := s1_len us zs k (by omega)
    have HST : Hid (Sts W0 (w.heap.size + 1) (l1 us zs k) (.slice aV (l1 us zs k).length cV) wr) := hst
    obtain ⟨hL, hR, hZ, hB⟩ := HK.out wr hst.bel
    clear hst
    obtain ⟨O, hO⟩ : ∃ O : ByteArray, O = ⟨(s1 us zs k).toArray⟩ := ⟨_, rfl⟩
    have HO : Hid (O = ⟨(s1 us zs k).toArray⟩) := hO
    have hOs : O.size ≤ 22000 := by rw [hO]; show (s1 us zs k).toArray.size ≤ 22000; simp; omega
    rw [← hO]
    clear hO
    by_cases hlt : k < n
    · have hka : k < zs.length := by rw [← HN.out]; exact hlt
      obtain ⟨b, off, hav, hcell⟩ : ∃ b off, av = some ⟨b, off, none⟩ ∧ wr.cell? ⟨b, off + k, none⟩ = some (.int .i64 (zs.getD k 0)) := by
        obtain ⟨a', c', e, hh⟩ := hZ
        cases e
        rcases hh with e | ⟨b, off, e, hc⟩
        · rw [e] at hka; simp at hka
        · exact ⟨b, off, e, hc k hka⟩
      subst hav
      have HS1 : Hid (s1 us zs (k + 1) = s1 us zs k ++ (if fnd us (zs.getD k 0) = true then [] else cl ((l1 us zs k).length + 1) wGone)) := rfl
      have HL1 : Hid (l1 us zs (k + 1) = l1 us zs k ++ (if fnd us (zs.getD k 0) = true then [zs.getD k 0] else [])) := rfl
      generalize zs.getD k 0 = z at hcell HS1 HL1
      clear hka hZ
      have c0 := hL.c0
      have c1 := hL.c1
      have c2 := hL.c2
      have c3 := hL.c3
      have c4 := hL.c4
      simp only at c0 c1 c2
      have HR : Hid (bx.RowsAt wr (.slice a ms.length cap) (.slice a1 ks.length cap1) ms ks) := hR
      clear hL hR hB
      have hlt' : (k : Int) < (n : Int) := by omega
      have hk0 : (0 : Int) ≤ (k : Int) := by omega
      have HMA : Hid (∀ X, Below wr.heap.size wr X → Calls Tryd.prog 49 #[.agg #[.string nm, .int .i64 vd, .int .i64 nx, .slice a ms.length cap, .slice a1 ks.length cap1], .int .i64 z] X fun e w' => (∃ i : Int, e = .returned (.int .i64 i) ∧ Hid ((0 ≤ i ∧ fnd us z = true) ∨ (i = -1 ∧ fnd us z = false))) ∧ Below wr.heap.size wr w') := fun X hX => by
        refine (bx.spec_mail ⟨nm, vd, nx, ms, ks⟩ _ _ z X (bx.rows_below HR.out hX) hl).mono ?_
        rintro e w' ⟨⟨i, he, hf⟩, hb⟩
        refine ⟨⟨i, he, (show _ ∨ _ from ?_)⟩, hX.trans (hb.mono hX.size)⟩
        rcases hf with ⟨j, rfl, h2, h3⟩ | ⟨rfl, h2⟩
        · exact .inl ⟨by omega, (fnd_iff us z).2 ⟨j, by rw [HUL.out]; exact h2, by rw [HUS.out, uo_at h2]; exact h3⟩⟩
        · refine .inr ⟨rfl, Bool.eq_false_iff.2 fun y => ?_⟩
          obtain ⟨j, hj, e⟩ := (fnd_iff us z).1 y
          rw [HUL.out] at hj
          rw [HUS.out, uo_at hj] at e
          exact h2 j hj e
      have hdr : Below wr.heap.size wr wr.drew := (Below.refl _ _).drew
      clear HR
      go_upto_region 7 with fail
      go_region_with (go_at_call 49; refine (HMA.out _ hdr).mono ?_; rintro e w1 ⟨⟨i, rfl, hf⟩, hb1⟩)
      all_goals
        have HST1 : Hid (Sts W0 (w.heap.size + 1) (l1 us zs k) (.slice aV (l1 us zs k).length cV) w1) := HST.out.below (by have := HSZ.out; omega) hb1
        have hcell1 := (hb1.cell (p := ⟨b, off + k, none⟩) (World.block_lt_of_cell? wr _ hcell)).trans hcell
        clear HMA HST hdr hcell hb1 c0 c1 c2 c3 c4
        rcases hf.out with ⟨h0, hF⟩ | ⟨rfl, hF⟩
        · have hdi : decide (i < 0) = false := decide_eq_false (by omega)
          rw [hF] at HS1 HL1
          clear hf hF
          have HSN : Hid (s1 us zs (k + 1) = s1 us zs k ∧ l1 us zs (k + 1) = l1 us zs k ++ [z]) := ⟨(HS1.out).trans (List.append_nil _), HL1.out⟩
          clear HS1 HL1
          have HGM : Hid (g + (l1 us zs (k + 1)).length = k + 1) := (show _ = _ by rw [HSN.out.2, List.length_append]; simp; omega)
          generalize hm : (l1 us zs k).length = m at *
          have HM : Hid ((l1 us zs k).length = m) := hm
          clear hm
          have hA := bx.new_below w1 3 #[.int .i64 z]
          have HST2 : Hid (Sts W0 (w.heap.size + 1) (l1 us zs k) (.slice aV m cV) (w1.alloc (.cells #[.int .i64 z] 3))) := HST1.out.below (by have := HSZ.out; omega) hA
          have hrow := HST2.out.row
          rw [HM.out] at hrow
          have hszB : w.heap.size + 1 ≤ (w1.alloc (.cells #[.int .i64 z] 3)).heap.size := by have := HST2.out.bel.size; have := HSZ.out; omega
          clear hA HST1
          go_wp2_with (at_builtin; refine apk.wpList_append_keep _ rfl _ _ 26 rfl (w.heap.size + 1) 3 i0 (.int .i64 0) 1 8 Tryd.underlying26 hi hz0 hz1 hz2 rfl (by decide) _ _ _ rfl hrow ⟨w1.heap.size, 0, none⟩ 1 1 [.int .i64 z] rfl rfl (ow.cells_new _ [.int .i64 z] _) (by intro u hu; simp at hu; subst hu; rfl) (by unfold maxLen; omega) (by omega) hszB ?_; intro v' w2 ho2 hg2 hk2)
          have HST3 : Hid (Sts W0 (w.heap.size + 1) (l1 us zs (k + 1)) v' w2) := by rw [HSN.out.2]; exact HST2.out.app (by have := HSZ.out; omega) (by rw [HM.out]; exact ho2) hg2
          clear HST2 ho2 hg2 hk2 hrow hszB hcell1
          go_wp2
          go_roundw
          case rel => exact ⟨k + 1, g, by omega, by go_num, rfl, HGM.out, by rw [HSN.out.1, ← HO.out], HST3.out⟩
          case measure => simp [intOf]; omega
        · rw [hF] at HS1 HL1
          clear hf hF
          have HSN : Hid (s1 us zs (k + 1) = s1 us zs k ++ cl ((l1 us zs k).length + 1) wGone ∧ l1 us zs (k + 1) = l1 us zs k) := ⟨HS1.out, (HL1.out).trans (List.append_nil _)⟩
          clear HS1 HL1
          have HGM : Hid (g + 1 + (l1 us zs (k + 1)).length = k + 1) := (show _ = _ by rw [HSN.out.2]; omega)
          have HDG : Hid (Calls Tryd.prog 50 #[.int .i64 ((k : Int) + 1 - (g : Int))] w1 fun e w' => e = .returned (.string ⟨(Lib.decDigits ((l1 us zs k).length + 1)).toArray⟩) ∧ Below w1.heap.size w1 w') := by
            have h1 := dx.digs_any ((l1 us zs k).length + 1) (by omega) w1
            have h2 : (((l1 us zs k).length + 1 : Nat) : Int) = (k : Int) + 1 - (g : Int) := by omega
            rw [h2] at h1
            exact h1
          have hdl := dx.dec_small (n := (l1 us zs k).length + 1) (by omega)
          obtain ⟨D, hD⟩ : ∃ D : ByteArray, D = ⟨(Lib.decDigits ((l1 us zs k).length + 1)).toArray⟩ := ⟨_, rfl⟩
          have hDs : D.size ≤ 10 := by rw [hD, Lib.size_eq]; simpa using hdl
          have HT : Hid (O ++ ((⟨#[42, 32]⟩ : ByteArray) ++ D ++ ⟨#[32, 69, 88, 80, 85, 78, 71, 69, 13, 10]⟩) = ⟨(s1 us zs (k + 1)).toArray⟩) := by
            have h1 := cl_parts ((l1 us zs k).length + 1) wGone
            rw [HSN.out.1, HO.out, hD, ← appB, ← h1]
            rfl
          rw [← hD] at HDG
          clear hD hdl
          have q1 : ((⟨#[42, 32]⟩ : ByteArray) ++ D).size ≤ 20 := by rw [ByteArray.size_append]; show 2 + D.size ≤ 20; omega
          have q2 : ((⟨#[42, 32]⟩ : ByteArray) ++ D ++ ⟨#[32, 69, 88, 80, 85, 78, 71, 69, 13, 10]⟩).size ≤ 40 := by rw [ByteArray.size_append]; show _ + 10 ≤ 40; omega
          have q3 : (O ++ ((⟨#[42, 32]⟩ : ByteArray) ++ D ++ ⟨#[32, 69, 88, 80, 85, 78, 71, 69, 13, 10]⟩)).size ≤ 23000 := by rw [ByteArray.size_append]; omega
          go_wp2_with fail
          refine HDG.out.mono ?_
          rintro e w2 ⟨rfl, hb2⟩
          have HST2 : Hid (Sts W0 (w.heap.size + 1) (l1 us zs (k + 1)) (.slice aV (l1 us zs k).length cV) w2) := by rw [HSN.out.2]; exact HST1.out.below (by have := HSZ.out; omega) hb2
          clear HST1 hb2 HDG hcell1
          go_wp2
          go_roundw
          case rel => exact ⟨k + 1, g + 1, by omega, by go_num, by go_num, HGM.out, by rw [← HT.out], HST2.out⟩
          case measure => simp [intOf]; omega
    · have hkn : k = n := by omega
      subst hkn
      rw [HN.out] at HST hlk hsk HO
      obtain ⟨LL, hLL⟩ : ∃ LL, LL = l1 us zs zs.length := ⟨_, rfl⟩
      obtain ⟨SS, hSS⟩ : ∃ SS, SS = s1 us zs zs.length := ⟨_, rfl⟩
      have HSD : Hid (sd us zs = SS ++ (if LL.length < (l2 us LL (lst LL) us.length).length then cl (l2 us LL (lst LL) us.length).length wThere else [])) := by rw [hLL, hSS]; exact rfl
      have HAL : Hid (al us zs = l2 us LL (lst LL) us.length) := by rw [hLL]; exact rfl
      have hzn : zs.length ≤ 1000 := by rw [← HN.out]; exact hzl
      rw [← hLL] at HST hlk
      rw [← hSS] at HO hsk
      rw [HN.out, ← hLL]
      clear hLL hSS hlt hgm
      have hLL : LL.length ≤ 1000 := by omega
      have hSS : SS.length ≤ 22000 := by omega
      clear hlk hsk hzl hL hR hZ hB
      have HI0 : Hid (Sts W0 (w.heap.size + 1) (l2 us LL (lst LL) 0) (.slice aV LL.length cV) wr) := HST.out
      clear HST
      obtain ⟨N, hN⟩ : ∃ N, N = ms.length := ⟨_, rfl⟩
      have HNM : Hid (N = ms.length) := hN
      have HNU : Hid (N = us.length) := (show _ = _ by rw [hN, HUL.out])
      have hcond : Hid (∀ j, j < us.length → (((l2 us LL (lst LL) j).length = 0 ∨ lst (l2 us LL (lst LL) j) < us.getD j 0) ↔ lst LL < us.getD j 0)) := fun j hj => l2_cond HRI.out hj
      rw [← hN] at HK hl ⊢
      clear hN hul
      generalize hla : lst LL = la at *
      clear hla
      go_wp2_with fail
      go_loopw [7, 11] (fun l i wr => ∃ (k : Nat), k ≤ N ∧ i = .int .i64 k ∧ Sts W0 (w.heap.size + 1) (l2 us LL la k) l wr) (fun _ i _ => N - (intOf i).toNat)
      case atStart => exact ⟨0, Nat.zero_le _, rfl, HI0.out⟩
      case round =>
        clear HI0
        obtain ⟨k, hk, rfl, hst⟩ := hrel
        obtain ⟨aX, cX, rfl⟩ := own_form hst.row
        have hln := l2_len us LL la k
        have HST : Hid (Sts W0 (w.heap.size + 1) (l2 us LL la k) (.slice aX (l2 us LL la k).length cX) wr) := hst
        obtain ⟨hL, hR, hZ, hB⟩ := HK.out wr hst.bel
        clear hst hZ
        have c3 := hL.c3
        clear hL
        have HL2 : Hid (l2 us LL la (k + 1) = l2 us LL la k ++ (if la < us.getD k 0 then [us.getD k 0] else [])) := rfl
        have HLS : Hid (∀ m', (l2 us LL la k).length = m' + 1 → ∃ b off, aX = some ⟨b, off, none⟩ ∧ wr.cell? ⟨b, off + m', none⟩ = some (.int .i64 (lst (l2 us LL la k)))) := fun m' hm' => by
          obtain ⟨a', c', e, hh⟩ := ow.reads_own HST.out.row
          cases e
          rcases hh with e | ⟨b, off, e, hc⟩
          · rw [e] at hm'; simp at hm'
          · refine ⟨b, off, e, ?_⟩
            have h1 := hc m' (by omega)
            have h2 : lst (l2 us LL la k) = (l2 us LL la k).getD m' 0 := by unfold lst; rw [hm']; rfl
            rw [h2]
            exact h1
        by_cases hlt : k < N
        · have hka : k < ms.length := by rw [← HNM.out]; exact hlt
          have hkb : k < us.length := by rw [← HNU.out]; exact hlt
          obtain ⟨b, off, ha, hat⟩ : ∃ b off, a = some ⟨b, off, none⟩ ∧ st.At3 wr b (off + k * 3) (ms.getD k st.noS) := by
            obtain ⟨a', cap', e, hh⟩ := hR.1
            cases e
            rcases hh with e | ⟨b, off, e, hb, hc⟩
            · rw [e] at hka; simp at hka
            · exact ⟨b, off, e, hc k hka⟩
          subst ha
          have HX : Hid (us.getD k 0 = (ms.getD k st.noS).u) := (show _ = _ by rw [HUS.out]; exact uo_at hka)
          have HCO := hcond.out k hkb
          have HCO : Hid (((l2 us LL la k).length = 0 ∨ lst (l2 us LL la k) < us.getD k 0) ↔ la < us.getD k 0) := HCO
          obtain ⟨d0, _, _⟩ := hat
          rw [← HX.out] at d0
          generalize us.getD k 0 = z at d0 HL2 HCO
          clear hka hkb hR hB HX
          generalize hls : lst (l2 us LL la k) = ls at *
          clear hls
          have hlt' : (k : Int) < (N : Int) := by omega
          generalize hm : (l2 us LL la k).length = m at *
          have HM : Hid ((l2 us LL la k).length = m) := hm
          clear hm
          by_cases hm0 : m = 0
          · have e0 : ((m : Int) == 0) = true := beq_iff_eq.2 (by omega)
            have HC : Hid (la < z) := HCO.out.1 (.inl hm0)
            clear HLS HCO
            have hA := bx.new_below wr 3 #[.int .i64 z]
            have HST2 : Hid (Sts W0 (w.heap.size + 1) (l2 us LL la k) (.slice aX m cX) (wr.alloc (.cells #[.int .i64 z] 3))) := HST.out.below (by have := HSZ.out; omega) hA
            have hrow := HST2.out.row
            rw [HM.out] at hrow
            have hszB : w.heap.size + 1 ≤ (wr.alloc (.cells #[.int .i64 z] 3)).heap.size := by have := HST2.out.bel.size; have := HSZ.out; omega
            clear hA HST
            go_wp2_with (at_builtin; refine apk.wpList_append_keep _ rfl _ _ 26 rfl (w.heap.size + 1) 3 i0 (.int .i64 0) 1 8 Tryd.underlying26 hi hz0 hz1 hz2 rfl (by decide) _ _ _ rfl hrow ⟨wr.heap.size, 0, none⟩ 1 1 [.int .i64 z] rfl rfl (ow.cells_new _ [.int .i64 z] _) (by intro u hu; simp at hu; subst hu; rfl) (by unfold maxLen; omega) (by omega) hszB ?_; intro v' w2 ho2 hg2 hk2)
            have HST3 : Hid (Sts W0 (w.heap.size + 1) (l2 us LL la (k + 1)) v' w2) := by rw [HL2.out, if_pos HC.out]; exact HST2.out.app (by have := HSZ.out; omega) (by rw [HM.out]; exact ho2) hg2
            clear HST2 ho2 hg2 hk2 hrow hszB
            go_wp2
            go_roundw
            case rel => exact ⟨k + 1, by omega, by go_num, HST3.out⟩
            case measure => simp [intOf]; omega
          obtain ⟨m', rfl⟩ : ∃ m', m = m' + 1 := ⟨m - 1, by omega⟩
          obtain ⟨b2, off2, hax, hlast⟩ := HLS.out m' rfl
          subst hax
          have e0 : (((m' + 1 : Nat) : Int) == 0) = false := beq_eq_false_iff_ne.2 (by omega)
          have e0' : (((m' : Int) + 1) == 0) = false := beq_eq_false_iff_ne.2 (by omega)
          have e1 : (m' : Int) + 1 - 1 = (m' : Int) := by omega
          have e1' : ((m' + 1 : Nat) : Int) - 1 = (m' : Int) := by omega
          have hm1 : (m' : Int) < ((m' + 1 : Nat) : Int) := by omega
          have hm2 : (m' : Int) < (m' : Int) + 1 := by omega
          by_cases hzz : ls < z
          · have HC : Hid (la < z) := HCO.out.1 (.inr hzz)
            clear HLS HCO
            have hA := bx.new_below wr 3 #[.int .i64 z]
            have HST2 : Hid (Sts W0 (w.heap.size + 1) (l2 us LL la k) (.slice (some ⟨b2, off2, none⟩) (m' + 1) cX) (wr.alloc (.cells #[.int .i64 z] 3))) := HST.out.below (by have := HSZ.out; omega) hA
            have hrow := HST2.out.row
            rw [HM.out] at hrow
            have hszB : w.heap.size + 1 ≤ (wr.alloc (.cells #[.int .i64 z] 3)).heap.size := by have := HST2.out.bel.size; have := HSZ.out; omega
            clear hA HST
            go_wp2_with (at_builtin; refine apk.wpList_append_keep _ rfl _ _ 26 rfl (w.heap.size + 1) 3 i0 (.int .i64 0) 1 8 Tryd.underlying26 hi hz0 hz1 hz2 rfl (by decide) _ _ _ rfl hrow ⟨wr.heap.size, 0, none⟩ 1 1 [.int .i64 z] rfl rfl (ow.cells_new _ [.int .i64 z] _) (by intro u hu; simp at hu; subst hu; rfl) (by unfold maxLen; omega) (by omega) hszB ?_; intro v' w2 ho2 hg2 hk2)
            have HST3 : Hid (Sts W0 (w.heap.size + 1) (l2 us LL la (k + 1)) v' w2) := by rw [HL2.out, if_pos HC.out]; exact HST2.out.app (by have := HSZ.out; omega) (by rw [HM.out]; exact ho2) hg2
            clear HST2 ho2 hg2 hk2 hrow hszB
            go_wp2
            go_roundw
            case rel => exact ⟨k + 1, by omega, by go_num, HST3.out⟩
            case measure => simp [intOf]; omega
          · have HC : Hid (¬ la < z) := fun y => by rcases HCO.out.2 y with h | h; simp at h; exact hzz h
            have hzd : decide (ls < z) = false := decide_eq_false hzz
            have HST3 : Hid (Sts W0 (w.heap.size + 1) (l2 us LL la (k + 1)) (.slice (some ⟨b2, off2, none⟩) (m' + 1) cX) wr) := by rw [HL2.out, if_neg HC.out, List.append_nil]; exact HST.out
            clear HLS HCO HST
            go_wp2
            go_roundw
            case rel => exact ⟨k + 1, by omega, by go_num, HST3.out⟩
            case measure => simp [intOf]; omega
        · have hkn : k = N := by omega
          subst hkn
          clear HL2 hlt HLS hR
          rw [← HNU.out] at HAL HSD
          generalize hm : (l2 us LL la k).length = m at *
          have HM : Hid ((l2 us LL la k).length = m) := hm
          clear hm
          have HF : Hid (∀ X, Below wr.heap.size wr X → X.ownsRow w.heap.size 3 1 (.slice aX m cX) (al us zs).length ((al us zs).map (Value.int .i64)) ∧ Below w.heap.size w X) := fun X hX => by
            refine ⟨?_, hB.trans (hX.mono hB.size)⟩
            rw [HAL.out, HM.out]
            have hrow := HST.out.row
            rw [HM.out] at hrow
            exact own_mono (ow.own_below hrow hX) (by omega)
          clear HST hB
          by_cases hgt : LL.length < m
          · have hne : ((m : Int) != (LL.length : Int)) = true := by rw [bne_iff_ne]; omega
            have HDG : Hid (Calls Tryd.prog 50 #[.int .i64 (m : Int)] wr fun e w' => e = .returned (.string ⟨(Lib.decDigits m).toArray⟩) ∧ Below wr.heap.size wr w') := dx.digs_any m (by omega) wr
            have hdl := dx.dec_small (n := m) (by omega)
            obtain ⟨D, hD⟩ : ∃ D : ByteArray, D = ⟨(Lib.decDigits m).toArray⟩ := ⟨_, rfl⟩
            have hDs : D.size ≤ 10 := by rw [hD, Lib.size_eq]; simpa using hdl
            have HT : Hid (O ++ ((⟨#[42, 32]⟩ : ByteArray) ++ D ++ ⟨#[32, 69, 88, 73, 83, 84, 83, 13, 10]⟩) = ⟨(sd us zs).toArray⟩) := by
              have h1 := cl_parts m wThere
              rw [HSD.out, if_pos hgt, HO.out, hD, ← appB, ← h1]
              rfl
            rw [← hD] at HDG
            clear hD hdl
            have q1 : ((⟨#[42, 32]⟩ : ByteArray) ++ D).size ≤ 20 := by rw [ByteArray.size_append]; show 2 + D.size ≤ 20; omega
            have q2 : ((⟨#[42, 32]⟩ : ByteArray) ++ D ++ ⟨#[32, 69, 88, 73, 83, 84, 83, 13, 10]⟩).size ≤ 40 := by rw [ByteArray.size_append]; show _ + 9 ≤ 40; omega
            have q3 : (O ++ ((⟨#[42, 32]⟩ : ByteArray) ++ D ++ ⟨#[32, 69, 88, 73, 83, 84, 83, 13, 10]⟩)).size ≤ 23000 := by rw [ByteArray.size_append]; omega
            go_wp2_with fail
            refine HDG.out.mono ?_
            rintro e w2 ⟨rfl, hb2⟩
            have HF2 : Hid (w2.ownsRow w.heap.size 3 1 (.slice aX m cX) (al us zs).length ((al us zs).map (Value.int .i64)) ∧ Below w.heap.size w w2) := HF.out _ hb2
            clear HF HDG hb2 c3
            go_wp2
            go_ret2
            exact ⟨⟨.slice aX m cX, congrArg (fun t : ByteArray => Ending.returned (Value.tuple #[Value.string t, Value.slice aX m cX])) HT.out, HF2.out.1⟩, HF2.out.2⟩
          · have hne : ((m : Int) != (LL.length : Int)) = false := by have : m = LL.length := by { omega }; rw [this]; simp
            have HT : Hid (O = ⟨(sd us zs).toArray⟩) := by rw [HSD.out, if_neg hgt, HO.out, List.append_nil]; exact rfl
            have HF2 : Hid (wr.ownsRow w.heap.size 3 1 (.slice aX m cX) (al us zs).length ((al us zs).map (Value.int .i64)) ∧ Below w.heap.size w wr) := HF.out _ (Below.refl _ _)
            clear HF
            go_wp2
            go_ret2
            exact ⟨⟨.slice aX m cX, congrArg (fun t : ByteArray => Ending.returned (Value.tuple #[Value.string t, Value.slice aX m cX])) HT.out, HF2.out.1⟩, HF2.out.2⟩
end Go.Proofs.YtdnjiagnpaibjaaDoor.vu
