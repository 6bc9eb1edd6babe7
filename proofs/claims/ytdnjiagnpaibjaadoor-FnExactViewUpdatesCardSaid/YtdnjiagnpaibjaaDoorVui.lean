/-
  The program's updates of a view, and its ViewUpdates.
-/
import Derived.Test.YtdnjiagnpaibjaaDoorVuc
import Derived.Test.YtdnjiagnpaibjaaDoorApk
import Derived.Shelf.Strings.BuilderK
namespace Go.Proofs.YtdnjiagnpaibjaaDoor.vu
open Go.RowKit
open ow (Reads)
set_option linter.unusedVariables false

theorem reads_below {w w' : World} {v : Value} {zs : List Int} (h : Reads .i64 w v zs) (hb : Below w.heap.size w w') : Reads .i64 w' v zs := ow.reads_keep h (fun a u h => (hb.cell (p := a) (World.block_lt_of_cell? w _ h)).trans h)
theorem own_form {w : World} {base e size n : Nat} {v : Value} {xs : List Value} (h : w.ownsRow base e size v n xs) : ∃ a cap, v = .slice a n cap := by
  rcases h.2 with ⟨rfl, h0⟩ | ⟨g, cap, cur, rfl, _⟩
  · exact ⟨none, 0, by rw [h0]⟩
  · exact ⟨_, _, rfl⟩
theorem own_mono {w : World} {base base' e size n : Nat} {v : Value} {xs : List Value} (h : w.ownsRow base e size v n xs) (hb : base' ≤ base) : w.ownsRow base' e size v n xs := by
  obtain ⟨h1, h2⟩ := h
  refine ⟨h1, ?_⟩
  rcases h2 with h2 | ⟨g, cap, cur, a, b, c, d⟩
  · exact .inl h2
  · exact .inr ⟨g, cap, cur, a, Nat.le_trans hb b, c, d⟩
open Go.Shelf in
theorem saidK (B b : Nat) (l : List UInt8) (w : World) (h : bl.Bd B b l w) (hBw : B ≤ w.heap.size) :
    Calls Tryd.prog 57 #[.pointer (some ⟨b, 0, none⟩)] w fun e w' => e = .returned (.string ⟨l.toArray⟩) ∧ Below B w w' ∧ Lib.OthersKept 5 (some b) w w' :=
  (Any.Builder_String_any_k Tryd.lays169 Tryd.Builder_Extra_169 B b l w (Lib.IsBuilderF.of h) hBw).mono fun e w' h => ⟨h.1, h.2.2.1, h.2.2.2⟩
theorem row_kept {b base n : Nat} {w w' : World} {v : Value} {xs : List Value} (h : w.ownsRow base 3 1 v n xs) (ho : Lib.OthersKept 5 (some b) w w') (hb : v.ownBlock ≠ some b) : w'.ownsRow base 3 1 v n xs := by
  refine ⟨h.1, ?_⟩
  rcases h.2 with hz | ⟨g, cap, cur, rfl, h1, h2, h3⟩
  · exact .inl hz
  · exact .inr ⟨g, cap, cur, rfl, h1, ho g _ h2 (fun e => hb (by rw [← e]; rfl)) (fun c fz e => by cases e), h3⟩
/-- The row of a view, and what is said so far. -/
structure Stt (W : World) (S : Nat) (l : List UInt8) (L : List Int) (v : Value) (x : World) : Prop where
  bd : bl.Bd S S l x
  row : x.ownsRow S 3 1 v L.length (L.map (Value.int .i64))
  bel : Below S W x
section
variable {W x x' : World} {S : Nat} {l : List UInt8} {L : List Int} {v : Value}
theorem Stt.below (h : Stt W S l L v x) (hS : S ≤ W.heap.size) (hb : Below x.heap.size x x') : Stt W S l L v x' := ⟨bl.keep h.bd hb, ow.own_below h.row hb, h.bel.trans (hb.mono (Nat.le_trans hS h.bel.size))⟩
theorem Stt.app {v' : Value} {z : Int} (h : Stt W S l L v x) (hS : S ≤ W.heap.size) (ho : x'.ownsRow S 3 1 v' (L.length + 1) (L.map (Value.int .i64) ++ [.int .i64 z])) (hg : x.grownBy x' v.ownBlock) : Stt W S l (L ++ [z]) v' x' := by
  refine ⟨bd_row h.bd h.row hg, ?_, h.bel.grown hg (Nat.le_trans hS h.bel.size) (fun k hk => ow.own_lt h.row k hk)⟩
  rw [List.map_append, List.length_append]
  exact ho
theorem Stt.say {t : ByteArray} (h : Stt W S l L v x) (h1 : bl.Bd S S (l ++ t.data.toList) x') (h2 : Below S x x') (h3 : bl.Others S x x') : Stt W S (l ++ t.data.toList) L v x' :=
  ⟨h1, row_others h.row h3 (row_bd h.row h.bd), h.bel.trans (h2.mono (Nat.le_refl _))⟩
end

set_option maxHeartbeats 8000000 in
set_option maxRecDepth 100000 in
theorem impl_up (x : bx.Bx) (p q v : Value) (zs : List Int) (w : World) (hT : tb.TP w) (h : bx.RowsAt w p q x.ms x.ks) (hl : x.ms.length ≤ 30) (hr : st.Rising x.ms) (hz : Reads .i64 w v zs) (hzl : zs.length ≤ 1000) :
    Calls Tryd.prog 32 #[bx.BV x p q, v] w fun e w' => (∃ V, e = .returned (.tuple #[.string ⟨(sd (uo x.ms) zs).toArray⟩, V]) ∧ w'.ownsRow w.heap.size 3 1 V (al (uo x.ms) zs).length ((al (uo x.ms) zs).map (Value.int .i64))) ∧ Below w.heap.size w w' := by
  obtain ⟨i0, hi, hz0, hz1, hz2⟩ := info_parts ow.Tryd.infoNum
  obtain ⟨W0, hW0⟩ : ∃ W, W = w.alloc (.cells #[.string x.nm, .int .i64 x.vd, .int .i64 x.nx, p, q] 32) := ⟨_, rfl⟩
  have hs0 : W0.heap.size = w.heap.size + 1 := by rw [hW0]; simp
  have L0 : bx.Lies W0 w.heap.size 32 x p q := by rw [hW0]; exact bx.lies_new w 32 x p q
  have b0 : Below w.heap.size w W0 := by rw [hW0]; exact bx.new_below w _ _
  have F1 := bl.fresh W0
  rw [hs0] at F1
  have b1 : Below (w.heap.size + 1) W0 (W0.alloc (.cells #[.pointer none, .slice none 0 0] 90)) := (Below.refl _ _).alloc (by omega) _
  have HS0 : Hid (Stt W0 (w.heap.size + 1) [] [] (.slice none 0 0) (W0.alloc (.cells #[.pointer none, .slice none 0 0] 90))) := ⟨F1, World.ownsRow_nil _ _ _ _, b1⟩
  have HSZ : Hid (w.heap.size + 1 = W0.heap.size) := hs0.symm
  have HK : Hid (∀ X, Below (w.heap.size + 1) W0 X → bx.Lies X w.heap.size 32 x p q ∧ bx.RowsAt X p q x.ms x.ks ∧ Reads .i64 X v zs ∧ tb.TP X ∧ Below w.heap.size w X) := fun X hX => by
    have hb : Below w.heap.size w X := b0.trans (hX.mono (by omega))
    exact ⟨(hX.block _ (by omega)).trans L0, bx.rows_below h hb, reads_below hz hb, tb.keep' hT hb, hb⟩
  have HRI : Hid (st.Rising x.ms) := hr
  obtain ⟨⟨a, cap, rfl, hd1⟩, ⟨a1, cap1, rfl, hd2⟩⟩ := h
  obtain ⟨av, cv, rfl, hd3⟩ := hz
  clear hd1 hd2 hd3 hT hr F1 b1 L0 b0 hs0
  obtain ⟨n, hn⟩ : ∃ n, n = zs.length := ⟨_, rfl⟩
  have HN : Hid (n = zs.length) := hn
  obtain ⟨us, hus⟩ : ∃ us, us = uo x.ms := ⟨_, rfl⟩
  have HUS : Hid (us = uo x.ms) := hus
  have hul : us.length ≤ 30 := by rw [hus, uo_len]; exact hl
  have HUL : Hid (us.length = x.ms.length) := (show _ = _ by rw [hus, uo_len])
  rw [← hus]
  rw [← hn] at HK hzl ⊢
  clear hn hus
  obtain ⟨nm, vd, nx, ms, ks⟩ := x
  unfold bx.BV
  simp only at *
  go_enter Tryd.func32, Tryd.ntmps32
  go_wp2_with (rw [← hW0])
  generalize W0.alloc _ = W1 at HS0 ⊢
  go_loopw [7, 18] (fun l i wr => ∃ (k : Nat), k ≤ n ∧ i = .int .i64 k ∧ Stt W0 (w.heap.size + 1) (s1 us zs k) (l1 us zs k) l wr) (fun _ i _ => n - (intOf i).toNat)
  case atStart => exact ⟨0, Nat.zero_le _, rfl, HS0.out⟩
  case round =>
    clear HS0 hW0
    obtain ⟨k, hk, rfl, hst⟩ := hrel
    obtain ⟨aV, cV, rfl⟩ := own_form hst.row
    have hlk := l1_len us zs k
    have hsk := s1_len us zs k (by omega)
    have HST : Hid (Stt W0 (w.heap.size + 1) (s1 us zs k) (l1 us zs k) (.slice aV (l1 us zs k).length cV) wr) := hst
    obtain ⟨hL, hR, hZ, hTP, hB⟩ := HK.out wr hst.bel
    clear hst
    by_cases hlt : k < n
    · have hka : k < zs.length := by rw [← HN.out]; exact hlt
      obtain ⟨b, off, hav, hcell⟩ : ∃ b off, av = some ⟨b, off, none⟩ ∧ wr.cell? ⟨b, off + k, none⟩ = some (.int .i64 (zs.getD k 0)) := by
        obtain ⟨a', c', e, hh⟩ := hZ
        cases e
        rcases hh with e | ⟨b, off, e, hc⟩
        · rw [e] at hka; simp at hka
        · exact ⟨b, off, e, hc k hka⟩
      subst hav
      have HS1 : Hid (s1 us zs (k + 1) = s1 us zs k ++ (if fnd us (zs.getD k 0) = true then [] else cl ((l1 us zs k).length + 1) wGone)) := rfl
      have HL1 : Hid (l1 us zs (k + 1) = l1 us zs k ++ (if fnd us (zs.getD k 0) = true then [zs.getD k 0] else [])) := rfl
      generalize zs.getD k 0 = z at hcell HS1 HL1
      clear hka hZ
      have c0 := hL.c0
      have c1 := hL.c1
      have c2 := hL.c2
      have c3 := hL.c3
      have c4 := hL.c4
      simp only at c0 c1 c2
      have HMA : Hid (Calls Tryd.prog 52 #[.agg #[.string nm, .int .i64 vd, .int .i64 nx, .slice a ms.length cap, .slice a1 ks.length cap1], .int .i64 z] wr fun e w' => (∃ (i : Nat) (b : Bool), e = .returned (.tuple #[.int .i64 i, .bool b]) ∧ st.Fnd ms z i b ∧ i ≤ ms.length) ∧ Below wr.heap.size wr w') := st.mailAt_any ⟨nm, vd, nx, ms, ks⟩ _ _ z wr hR hl HRI.out
      have HTP : Hid (tb.TP wr) := hTP
      clear hL hR hTP hB
      have hlt' : (k : Int) < (n : Int) := by omega
      go_wp2_with fail
      refine HMA.out.mono ?_
      rintro e w1 ⟨⟨i, bb, rfl, hf, hi'⟩, hb1⟩
      have HF : Hid (fnd us z = bb) := by
        have h1 := fnd_iff us z
        rcases hf with ⟨rfl, h2, h3⟩ | ⟨rfl, h2⟩
        · exact h1.2 ⟨i, by rw [HUL.out]; exact h2, by rw [HUS.out, uo_at h2]; exact h3⟩
        · refine Bool.eq_false_iff.2 fun y => ?_
          obtain ⟨j, hj, e⟩ := h1.1 y
          rw [HUL.out] at hj
          rw [HUS.out, uo_at hj] at e
          exact h2 j hj e
      have HST1 : Hid (Stt W0 (w.heap.size + 1) (s1 us zs k) (l1 us zs k) (.slice aV (l1 us zs k).length cV) w1) := HST.out.below (by have := HSZ.out; omega) hb1
      have HTP1 : Hid (tb.TP w1) := tb.keep' HTP.out hb1
      clear HMA HST HTP hf hi' hb1 hcell c0 c1 c2 c3 c4
      rw [HF.out] at HS1 HL1
      generalize hm : (l1 us zs k).length = m at *
      have HM : Hid ((l1 us zs k).length = m) := hm
      clear hm
      cases bb
      · have HC : Hid (Calls Tryd.prog 54 #[.int .i64 ((m : Int) + 1), .string ⟨#[69, 88, 80, 85, 78, 71, 69]⟩] w1 fun e w' => e = .returned (.string ⟨(cl (m + 1) wGone).toArray⟩) ∧ Below w1.heap.size w1 w') := count_any (m + 1) wGone w1 HTP1.out (by omega) (by decide)
        have hcs := cl_len (n := m + 1) (wd := wGone) (by omega) (by decide)
        have hcs2 : (⟨(cl (m + 1) wGone).toArray⟩ : ByteArray).size ≤ 22 := hcs
        have HSN : Hid (s1 us zs (k + 1) = s1 us zs k ++ (⟨(cl (m + 1) wGone).toArray⟩ : ByteArray).data.toList ∧ l1 us zs (k + 1) = l1 us zs k) := ⟨HS1.out, (HL1.out).trans (List.append_nil _)⟩
        clear HS1 HL1
        generalize (⟨(cl (m + 1) wGone).toArray⟩ : ByteArray) = T at HC HSN hcs2
        go_wp2_with fail
        refine HC.out.mono ?_
        rintro e w2 ⟨rfl, hb2⟩
        have hst2 := HST1.out.below (by have := HSZ.out; omega) hb2
        have HST2 : Hid (Stt W0 (w.heap.size + 1) (s1 us zs k) (l1 us zs k) (.slice aV m cV) w2) := hst2
        have HW : Hid (Calls Tryd.prog 53 #[.pointer (some ⟨w.heap.size + 1, 0, none⟩), .string T] w2 fun e w' => (∃ v, e = .returned (.tuple v)) ∧ bl.Bd (w.heap.size + 1) (w.heap.size + 1) (s1 us zs k ++ T.data.toList) w' ∧ Below (w.heap.size + 1) w2 w' ∧ bl.Others (w.heap.size + 1) w2 w') := bl.textK _ _ _ T w2 hst2.bd (by omega) (by have := hst2.bel.size; have := HSZ.out; omega)
        clear HC HST1 HTP1 hb2 hst2
        go_wp2_with fail
        refine HW.out.mono ?_
        rintro e w3 ⟨⟨vv, rfl⟩, h1, h2, h3⟩
        have HST3 : Hid (Stt W0 (w.heap.size + 1) (s1 us zs (k + 1)) (l1 us zs (k + 1)) (.slice aV m cV) w3) := by rw [HSN.out.1, HSN.out.2]; exact HST2.out.say h1 h2 h3
        clear HW HST2 h1 h2 h3 HSN
        go_wp2
        go_roundw
        case rel => exact ⟨k + 1, by omega, by go_num, HST3.out⟩
        case measure => simp [intOf]; omega
      · have HSN : Hid (s1 us zs (k + 1) = s1 us zs k ∧ l1 us zs (k + 1) = l1 us zs k ++ [z]) := ⟨(HS1.out).trans (List.append_nil _), HL1.out⟩
        clear HS1 HL1
        have hA := bx.new_below w1 3 #[.int .i64 z]
        have hst2 := HST1.out.below (by have := HSZ.out; omega) hA
        have HST2 : Hid (Stt W0 (w.heap.size + 1) (s1 us zs k) (l1 us zs k) (.slice aV m cV) (w1.alloc (.cells #[.int .i64 z] 3))) := hst2
        have hrow := hst2.row
        rw [HM.out] at hrow
        have hszB : w.heap.size + 1 ≤ (w1.alloc (.cells #[.int .i64 z] 3)).heap.size := by have := hst2.bel.size; have := HSZ.out; omega
        clear hst2 hA HST1 HTP1
        go_wp2_with (at_builtin; refine apk.wpList_append_keep _ rfl _ _ 26 rfl (w.heap.size + 1) 3 i0 (.int .i64 0) 1 8 Tryd.underlying26 hi hz0 hz1 hz2 rfl (by decide) _ _ _ rfl hrow ⟨w1.heap.size, 0, none⟩ 1 1 [.int .i64 z] rfl rfl (ow.cells_new _ [.int .i64 z] _) (by intro u hu; simp at hu; subst hu; rfl) (by unfold maxLen; omega) (by omega) hszB ?_; intro v' w2 ho2 hg2 hk2)
        have HST3 : Hid (Stt W0 (w.heap.size + 1) (s1 us zs (k + 1)) (l1 us zs (k + 1)) v' w2) := by rw [HSN.out.1, HSN.out.2]; exact HST2.out.app (by have := HSZ.out; omega) (by rw [HM.out]; exact ho2) hg2
        clear HST2 HSN ho2 hg2 hk2 hrow hszB
        go_wp2
        go_roundw
        case rel => exact ⟨k + 1, by omega, by go_num, HST3.out⟩
        case measure => simp [intOf]; omega
    · have hkn : k = n := by omega
      subst hkn
      rw [HN.out] at HST hlk hsk
      obtain ⟨LL, hLL⟩ : ∃ LL, LL = l1 us zs zs.length := ⟨_, rfl⟩
      obtain ⟨SS, hSS⟩ : ∃ SS, SS = s1 us zs zs.length := ⟨_, rfl⟩
      have HSD : Hid (sd us zs = SS ++ (if LL.length < (l2 us LL (lst LL) us.length).length then cl (l2 us LL (lst LL) us.length).length wThere else [])) := by rw [hLL, hSS]; exact rfl
      have HAL : Hid (al us zs = l2 us LL (lst LL) us.length) := by rw [hLL]; exact rfl
      have hzn : zs.length ≤ 1000 := by rw [← HN.out]; exact hzl
      rw [← hLL] at HST hlk
      rw [← hSS] at HST hsk
      rw [HN.out, ← hLL]
      clear hLL hSS hlt
      have hLL : LL.length ≤ 1000 := by omega
      have hSS : SS.length ≤ 22000 := by omega
      clear hlk hsk hzl
      have HRL : Hid (Calls Tryd.prog 55 #[.slice aV LL.length cV] wr fun e w' => e = .returned (.int .i64 (lst LL)) ∧ w' = wr) := last_any _ LL wr (ow.reads_own HST.out.row) (by omega)
      have HUI : Hid (Calls Tryd.prog 56 #[.agg #[.string nm, .int .i64 vd, .int .i64 nx, .slice a ms.length cap, .slice a1 ks.length cap1]] wr fun e w' => (∃ v', e = .returned v' ∧ w'.ownsRow wr.heap.size 3 1 v' ms.length ((uo ms).map (Value.int .i64))) ∧ Below wr.heap.size wr w') := uids_any ⟨nm, vd, nx, ms, ks⟩ _ _ wr hR hl
      have c0 := hL.c0
      have c1 := hL.c1
      have c2 := hL.c2
      have c3 := hL.c3
      have c4 := hL.c4
      simp only at c0 c1 c2
      clear hL hR hTP hB hZ
      go_wp2_with fail
      refine HRL.out.mono ?_
      rintro e w' ⟨rfl, hw'⟩
      have hw' := hw'.symm
      subst hw'
      clear HRL
      go_wp2_with fail
      refine HUI.out.mono ?_
      rintro e w1 ⟨⟨U, rfl, hU⟩, hb1⟩
      rw [← HUS.out, ← HUL.out] at hU
      obtain ⟨aU, cU, rfl⟩ := own_form hU
      have hst1 := HST.out.below (by have := HSZ.out; omega) hb1
      have HI0 : Hid (Stt W0 (w.heap.size + 1) SS (l2 us LL (lst LL) 0) (.slice aV LL.length cV) w1 ∧ w1.ownsRow 0 3 1 (.slice aU us.length cU) us.length (us.map (Value.int .i64)) ∧ ((Value.slice aU us.length cU).ownBlock = none ∨ (Value.slice aU us.length cU).ownBlock ≠ (Value.slice aV LL.length cV).ownBlock)) := by
        refine ⟨hst1, own_mono hU (Nat.zero_le _), ?_⟩
        cases hb : (Value.slice aU us.length cU).ownBlock with
        | none => exact .inl rfl
        | some g =>
          right
          intro e
          have h1 := ow.own_lt hU g hb
          have h2 := (HST.out.row.lt g e.symm).2
          omega
      have HLE : Hid (LL.length = (l2 us LL (lst LL) 0).length) := rfl
      clear HUI hU hb1 hst1 HST c0 c1 c2 c3 c4
      obtain ⟨N, hN⟩ : ∃ N, N = us.length := ⟨_, rfl⟩
      have HNU : Hid (N = us.length) := hN
      rw [← HUL.out, ← hN]
      rw [← hN] at HI0 hul
      clear hN
      generalize hla : lst LL = la at *
      clear hla
      go_wp2_with fail
      go_loopw [7, 46] (fun l i wr => ∃ (k : Nat), k ≤ N ∧ i = .int .i64 k ∧ Stt W0 (w.heap.size + 1) SS (l2 us LL la k) l wr ∧ wr.ownsRow 0 3 1 (.slice aU N cU) N (us.map (Value.int .i64)) ∧ ((Value.slice aU N cU).ownBlock = none ∨ (Value.slice aU N cU).ownBlock ≠ l.ownBlock)) (fun _ i _ => N - (intOf i).toNat)
      case atStart => exact ⟨0, Nat.zero_le _, rfl, HI0.out⟩
      case round =>
        clear HI0
        obtain ⟨k, hk, rfl, hst, hU, hap⟩ := hrel
        obtain ⟨aX, cX, rfl⟩ := own_form hst.row
        have hln := l2_len us LL la k
        have HST : Hid (Stt W0 (w.heap.size + 1) SS (l2 us LL la k) (.slice aX (l2 us LL la k).length cX) wr ∧ wr.ownsRow 0 3 1 (.slice aU N cU) N (us.map (Value.int .i64)) ∧ ((Value.slice aU N cU).ownBlock = none ∨ (Value.slice aU N cU).ownBlock ≠ (Value.slice aX (l2 us LL la k).length cX).ownBlock)) := ⟨hst, hU, hap⟩
        obtain ⟨hL, hR, hZ, hTP, hB⟩ := HK.out wr hst.bel
        clear hst hU hap hL hR hZ
        have HL2 : Hid (l2 us LL la (k + 1) = l2 us LL la k ++ (if la < us.getD k 0 then [us.getD k 0] else [])) := rfl
        by_cases hlt : k < N
        · have hka : k < us.length := by rw [← HNU.out]; exact hlt
          obtain ⟨b, off, hav, hcell⟩ : ∃ b off, aU = some ⟨b, off, none⟩ ∧ wr.cell? ⟨b, off + k, none⟩ = some (.int .i64 (us.getD k 0)) := by
            obtain ⟨a', c', e, hh⟩ := ow.reads_own HST.out.2.1
            cases e
            rcases hh with e | ⟨b, off, e, hc⟩
            · rw [e] at hka; simp at hka
            · exact ⟨b, off, e, hc k hka⟩
          subst hav
          generalize us.getD k 0 = z at hcell HL2
          clear hka hTP hB
          have hlt' : (k : Int) < (N : Int) := by omega
          by_cases hz : la < z
          · have HLN : Hid (l2 us LL la (k + 1) = l2 us LL la k ++ [z]) := by rw [HL2.out, if_pos hz]; exact rfl
            clear HL2
            generalize hm : (l2 us LL la k).length = m at *
            have HM : Hid ((l2 us LL la k).length = m) := hm
            clear hm
            have hA := bx.new_below wr 3 #[.int .i64 z]
            have HST2 : Hid (Stt W0 (w.heap.size + 1) SS (l2 us LL la k) (.slice aX m cX) (wr.alloc (.cells #[.int .i64 z] 3)) ∧ (wr.alloc (.cells #[.int .i64 z] 3)).ownsRow 0 3 1 (.slice (some ⟨b, off, none⟩) N cU) N (us.map (Value.int .i64)) ∧ ((Value.slice (some ⟨b, off, none⟩) N cU).ownBlock = none ∨ (Value.slice (some ⟨b, off, none⟩) N cU).ownBlock ≠ (Value.slice aX m cX).ownBlock)) := ⟨HST.out.1.below (by have := HSZ.out; omega) hA, ow.own_below HST.out.2.1 hA, HST.out.2.2⟩
            have hrow := HST2.out.1.row
            rw [HM.out] at hrow
            have hszB : w.heap.size + 1 ≤ (wr.alloc (.cells #[.int .i64 z] 3)).heap.size := by have := HST2.out.1.bel.size; have := HSZ.out; omega
            clear hA HST
            go_wp2_with (at_builtin; refine apk.wpList_append_keep _ rfl _ _ 26 rfl (w.heap.size + 1) 3 i0 (.int .i64 0) 1 8 Tryd.underlying26 hi hz0 hz1 hz2 rfl (by decide) _ _ _ rfl hrow ⟨wr.heap.size, 0, none⟩ 1 1 [.int .i64 z] rfl rfl (ow.cells_new _ [.int .i64 z] _) (by intro u hu; simp at hu; subst hu; rfl) (by unfold maxLen; omega) (by omega) hszB ?_; intro v' w2 ho2 hg2 hk2)
            have HST3 : Hid (Stt W0 (w.heap.size + 1) SS (l2 us LL la (k + 1)) v' w2 ∧ w2.ownsRow 0 3 1 (.slice (some ⟨b, off, none⟩) N cU) N (us.map (Value.int .i64)) ∧ ((Value.slice (some ⟨b, off, none⟩) N cU).ownBlock = none ∨ (Value.slice (some ⟨b, off, none⟩) N cU).ownBlock ≠ v'.ownBlock)) := by
              refine ⟨?_, HST2.out.2.1.kept hg2 HST2.out.2.2, ?_⟩
              · rw [HLN.out]
                exact HST2.out.1.app (by have := HSZ.out; omega) (by rw [HM.out]; exact ho2) hg2
              · rcases HST2.out.2.2 with h | h
                · exact .inl h
                · right
                  rcases hk2.1 with e | e
                  · rw [e]; exact h
                  · rw [e]
                    intro e2
                    have := (HST2.out.2.1.lt _ e2).2
                    omega
            clear HST2 HLN ho2 hg2 hk2 hrow hszB hcell
            go_wp2
            go_roundw
            case rel => exact ⟨k + 1, by omega, by go_num, HST3.out⟩
            case measure => simp [intOf]; omega
          · have HLN : Hid (l2 us LL la (k + 1) = l2 us LL la k) := by rw [HL2.out, if_neg hz, List.append_nil]; exact rfl
            clear HL2
            have HST3 : Hid (Stt W0 (w.heap.size + 1) SS (l2 us LL la (k + 1)) (.slice aX (l2 us LL la k).length cX) wr ∧ wr.ownsRow 0 3 1 (.slice (some ⟨b, off, none⟩) N cU) N (us.map (Value.int .i64)) ∧ ((Value.slice (some ⟨b, off, none⟩) N cU).ownBlock = none ∨ (Value.slice (some ⟨b, off, none⟩) N cU).ownBlock ≠ (Value.slice aX (l2 us LL la k).length cX).ownBlock)) := by rw [HLN.out]; exact HST.out
            clear HST
            go_wp2
            go_roundw
            case rel => exact ⟨k + 1, by omega, by go_num, HST3.out⟩
            case measure => simp [intOf]; omega
        · have hkn : k = N := by omega
          subst hkn
          clear HL2 hlt
          rw [← HNU.out] at HAL HSD
          generalize hm : (l2 us LL la k).length = m at *
          have HM : Hid ((l2 us LL la k).length = m) := hm
          clear hm
          by_cases hgt : LL.length < m
          · have hgt' : (LL.length : Int) < (m : Int) := by omega
            have hdec : decide ((LL.length : Int) < (m : Int)) = true := decide_eq_true hgt'
            have HSF : Hid (sd us zs = SS ++ cl m wThere) := by rw [HSD.out, if_pos hgt]; exact rfl
            have HC : Hid (Calls Tryd.prog 54 #[.int .i64 (m : Int), .string ⟨#[69, 88, 73, 83, 84, 83]⟩] wr fun e w' => e = .returned (.string ⟨(cl m wThere).toArray⟩) ∧ Below wr.heap.size wr w') := count_any m wThere wr hTP (by omega) (by decide)
            have hcs := cl_len (n := m) (wd := wThere) (by omega) (by decide)
            have hcs2 : (⟨(cl m wThere).toArray⟩ : ByteArray).size ≤ 22 := hcs
            have HT : Hid ((⟨(cl m wThere).toArray⟩ : ByteArray).data.toList = cl m wThere) := rfl
            generalize (⟨(cl m wThere).toArray⟩ : ByteArray) = T at HC HT hcs2
            clear hTP hB
            go_wp2_with fail
            refine HC.out.mono ?_
            rintro e w2 ⟨rfl, hb2⟩
            have hst2 := HST.out.1.below (by have := HSZ.out; omega) hb2
            have HST2 : Hid (Stt W0 (w.heap.size + 1) SS (l2 us LL la k) (.slice aX m cX) w2) := hst2
            have HW : Hid (Calls Tryd.prog 53 #[.pointer (some ⟨w.heap.size + 1, 0, none⟩), .string T] w2 fun e w' => (∃ v, e = .returned (.tuple v)) ∧ bl.Bd (w.heap.size + 1) (w.heap.size + 1) (SS ++ T.data.toList) w' ∧ Below (w.heap.size + 1) w2 w' ∧ bl.Others (w.heap.size + 1) w2 w') := bl.textK _ _ _ T w2 hst2.bd (by omega) (by have := hst2.bel.size; have := HSZ.out; omega)
            clear HC HST hb2 hst2
            go_wp2_with fail
            refine HW.out.mono ?_
            rintro e w3 ⟨⟨vv, rfl⟩, h1, h2, h3⟩
            have hst3 := HST2.out.say h1 h2 h3
            rw [HT.out] at hst3
            have HST3 : Hid (Stt W0 (w.heap.size + 1) (SS ++ cl m wThere) (l2 us LL la k) (.slice aX m cX) w3) := hst3
            have HSA : Hid (Calls Tryd.prog 57 #[.pointer (some ⟨w.heap.size + 1, 0, none⟩)] w3 fun e w' => e = .returned (.string ⟨(SS ++ cl m wThere).toArray⟩) ∧ Below (w.heap.size + 1) w3 w' ∧ Lib.OthersKept 5 (some (w.heap.size + 1)) w3 w') := saidK _ _ _ w3 hst3.bd (by have := hst3.bel.size; have := HSZ.out; omega)
            clear HW HST2 h1 h2 h3 hst3 HT
            go_wp2_with fail
            refine HSA.out.mono ?_
            rintro e w4 ⟨rfl, hb4, ho4⟩
            have HF : Hid (w4.ownsRow w.heap.size 3 1 (.slice aX m cX) (al us zs).length ((al us zs).map (Value.int .i64)) ∧ Below w.heap.size w w4) := by
              refine ⟨?_, ?_⟩
              · rw [HAL.out, HM.out]
                have hrow := HST3.out.row
                rw [HM.out] at hrow
                exact own_mono (row_kept hrow ho4 (row_bd HST3.out.row HST3.out.bd)) (by omega)
              · have hbel := HST3.out.bel
                exact (HK.out w4 (hbel.trans (hb4.mono (Nat.le_refl _)))).2.2.2.2
            clear HSA hb4 ho4
            go_wp2
            go_ret2
            exact ⟨⟨.slice aX m cX, congrArg (fun t : List UInt8 => Ending.returned (Value.tuple #[Value.string ⟨t.toArray⟩, Value.slice aX m cX])) HSF.out.symm, HF.out.1⟩, HF.out.2⟩
          · have hgt' : ¬ (LL.length : Int) < (m : Int) := by omega
            have hdec : decide ((LL.length : Int) < (m : Int)) = false := decide_eq_false hgt'
            have HSF : Hid (sd us zs = SS) := by rw [HSD.out, if_neg hgt, List.append_nil]; exact rfl
            clear hTP hB
            have HSA : Hid (Calls Tryd.prog 57 #[.pointer (some ⟨w.heap.size + 1, 0, none⟩)] wr fun e w' => e = .returned (.string ⟨SS.toArray⟩) ∧ Below (w.heap.size + 1) wr w' ∧ Lib.OthersKept 5 (some (w.heap.size + 1)) wr w') := saidK _ _ _ wr HST.out.1.bd (by have := HST.out.1.bel.size; have := HSZ.out; omega)
            go_wp2_with fail
            refine HSA.out.mono ?_
            rintro e w4 ⟨rfl, hb4, ho4⟩
            have HF : Hid (w4.ownsRow w.heap.size 3 1 (.slice aX m cX) (al us zs).length ((al us zs).map (Value.int .i64)) ∧ Below w.heap.size w w4) := by
              refine ⟨?_, ?_⟩
              · rw [HAL.out, HM.out]
                have hrow := HST.out.1.row
                rw [HM.out] at hrow
                exact own_mono (row_kept hrow ho4 (row_bd HST.out.1.row HST.out.1.bd)) (by omega)
              · have hbel := HST.out.1.bel
                exact (HK.out w4 (hbel.trans (hb4.mono (Nat.le_refl _)))).2.2.2.2
            clear HSA hb4 ho4
            go_wp2
            go_ret2
            exact ⟨⟨.slice aX m cX, congrArg (fun t : List UInt8 => Ending.returned (Value.tuple #[Value.string ⟨t.toArray⟩, Value.slice aX m cX])) HSF.out.symm, HF.out.1⟩, HF.out.2⟩

end Go.Proofs.YtdnjiagnpaibjaaDoor.vu
