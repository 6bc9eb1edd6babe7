/-
  An engine is right: both functions.
-/
import Derived.Test.YtncnbhekgkemfaaGreatDoorPkbp
import Derived.Test.YtncnbhekgkemfaaGreatDoorPkan
import Derived.Test.YtncnbhekgkemfaaGreatDoorPkbr

namespace Go.Proofs.YtncnbhekgkemfaaGreatDoor.eg
open Go.RowKit
open bx bl
open lg (LV recs recR scan next next_ok Errs)
set_option linter.unusedVariables false

theorem scan_zero (t : ByteArray) : ∀ f p acc, p ≤ t.size → t.size - p < f → (scan t f p acc).2.2 = 0 → (scan t f p acc).2.1 = t.size
  | 0, p, acc, hp, hf, _ => by omega
  | f + 1, p, acc, hp, hf, hc => by
    rw [scan] at hc ⊢
    by_cases h1 : t.size ≤ p
    · rw [if_pos h1]; show p = t.size; omega
    · rw [if_neg h1] at hc ⊢
      by_cases h2 : (next t p).1 = 0
      · rw [if_pos h2] at hc ⊢
        have hk := next_ok h2
        exact scan_zero t f _ _ (by omega) (by omega) hc
      · rw [if_neg h2] at hc
        exact absurd hc h2
theorem recs_zero {t : ByteArray} (h : (recs t).2.2 = 0) : (recs t).2.1 = t.size := scan_zero t _ _ _ (Nat.zero_le _) (by omega) h
/-- When an engine is right. -/
def Cn (r : Int) (d : ByteArray) (s : Int) (bs : List Bx) : Prop := lg.ok r d.size s = true ∧ s = ((d.size : Nat) : Int) ∧ (recs d).2.2 = 0 ∧ ∃ zs, rp.Rp (recs d).1 [] (zs, true) ∧ sok bs = true ∧ sm.sameS zs bs = true
def Ek (r : Int) (d : ByteArray) (s : Int) (bs : List Bx) (o : Bool) : Prop := o = true ↔ Cn r d s bs
theorem ek_one {r : Int} {d : ByteArray} {s : Int} {bs : List Bx} {o o' : Bool} (h : Ek r d s bs o) (h' : Ek r d s bs o') : o = o' := by
  cases o <;> cases o'
  · rfl
  · exact absurd (h.2 (h'.1 rfl)) (by decide)
  · exact absurd (h'.2 (h.1 rfl)) (by decide)
  · rfl
/-- An answer that says it. -/
def Er (r : Int) (d : ByteArray) (s : Int) (bs : List Bx) (e : Ending) : Prop := ∃ o, e = .returned (.bool o) ∧ Ek r d s bs o
theorem ek_no {r : Int} {d : ByteArray} {s : Int} {bs : List Bx} (h : ¬ Cn r d s bs) : Ek r d s bs false := ⟨fun e => absurd e (by decide), fun e => absurd e h⟩

set_option maxHeartbeats 4000000 in
set_option maxRecDepth 100000 in
theorem implEk_any (r : Int) (d : ByteArray) (s : Int) (v : Value) (bs : List Bx) (vs : Nat → Value × Value) (w : World) (c b : Addr) (ca cb : Array Value) (ta tb : TypeId) (hr : lg.In r) (hd : d.size ≤ 1048576) (hs : lg.In s) (hE : Errs w c b ca cb ta tb) (hB : BoxesAt w v bs vs) (hsm : Smalls bs) :
    Calls Tryz.prog 18 #[EV r d s v] w fun e w' => Er r d s bs e ∧ Below w.heap.size w w' := by
  have HBS : Hid (BoxesAt w v bs vs ∧ Smalls bs) := ⟨hB, hsm⟩
  obtain ⟨⟨a, cap, rfl, _⟩, _⟩ := hB
  have L0 := liesE_new w 35 r d s (.slice a bs.length cap)
  have b0 := new_below w 35 #[.int .i64 r, .string d, .int .i64 s, .slice a bs.length cap]
  have HRC : Hid (∀ W, Below w.heap.size w W → Calls Tryz.prog 39 #[LV r d s] W fun e w' => (∃ v, e = .returned (.tuple #[v, .int .i64 (recR r d s).2.1, .int .i64 (recR r d s).2.2]) ∧ ky.OwnT w' W.heap.size v (recR r d s).1) ∧ Below W.heap.size W w') := fun W hW => lg.impl_recs r d s W c b ca cb ta tb hr hd hs (hE.keep hW)
  have c0 := L0.c0
  have c1 := L0.c1
  have c2 := L0.c2
  have HSM : Hid (∀ x ∈ (recR r d s).1, x.size ≤ 20000) := rp.recR_small r d s
  have HLN : Hid ((recR r d s).1.length ≤ 1048576) := Nat.le_trans (lg.recR_len r d s) hd
  have HOK : Hid (lg.ok r d.size s = false → recR r d s = ([], 0, 1)) := fun h => by unfold recR; rw [h]; rfl
  have HYE : Hid (lg.ok r d.size s = true → recR r d s = recs d) := fun h => by unfold recR; rw [if_pos h]
  have hbl := hsm.1
  clear hE hr hs hsm
  unfold EV
  unfold LV at HRC
  go_enter Tryz.func18, Tryz.ntmps18
  go_wp2_with fail
  generalize w.alloc _ = w0 at L0 b0 c0 c1 c2 ⊢
  refine (HRC.out w0 b0).mono ?_
  rintro e w1 ⟨⟨v', rfl, hO⟩, hb1⟩
  have L1 := L0.keep hb1
  have HB1 : Hid (Below w.heap.size w w1) := b0.trans (hb1.mono b0.size)
  have hTX := ky.own_texts hO
  clear HRC c0 c1 c2 hb1 b0 hO L0
  have c2 := L1.c2
  have c3 := L1.c3
  have HL1 : Hid (LiesE w1 w.heap.size 35 r d s (.slice a bs.length cap)) := L1
  clear L1
  cases hk : lg.ok r d.size s with
  | false =>
    rw [HOK.out hk] at hTX ⊢
    obtain ⟨va, vc, rfl, _⟩ := hTX
    have HR : Hid (Ek r d s bs false) := ek_no fun h => by have := h.1; rw [hk] at this; cases this
    clear hk
    simp only
    go_wp2
    go_ret
    exact ⟨⟨false, rfl, HR.out⟩, HB1.out⟩
  | true =>
    have hRe := HYE.out hk
    have HSM' := HSM.out
    have HLN' := HLN.out
    rw [hRe] at HSM' HLN' hTX ⊢
    have HRP := rp.replayed_any v' (recs d).1 w1 hTX HLN' HSM'
    have HZ : Hid ((recs d).2.2 = 0 → (recs d).2.1 = d.size) := recs_zero
    have HCN : Hid (Cn r d s bs ↔ s = ((d.size : Nat) : Int) ∧ (recs d).2.2 = 0 ∧ ∃ zs, rp.Rp (recs d).1 [] (zs, true) ∧ sok bs = true ∧ sm.sameS zs bs = true) := ⟨fun h => h.2, fun h => ⟨hk, h⟩⟩
    clear hk hRe HSM' HSM HLN HOK HYE
    obtain ⟨va, vc, rfl, _⟩ := hTX
    generalize (recs d).2.2 = cd at HZ HCN ⊢
    generalize (recs d).2.1 = sz at HZ ⊢
    generalize (recs d).1 = ts at HRP HLN' HCN ⊢
    have HRP' : Hid (Calls Tryz.prog 40 #[.slice va ts.length vc] w1 fun e w' => (∃ L ys us b, e = .returned (.tuple #[L, .bool b]) ∧ rp.Rp ts [] (ys, b) ∧ OwnL w' w1.heap.size L ys us ∧ Smalls ys ∧ sok ys = true) ∧ Below w1.heap.size w1 w') := HRP
    clear HRP
    by_cases hc0 : cd = 0
    rotate_left
    · have h0 : ((cd : Int) != 0) = true := by rw [bne_iff_ne]; omega
      have HR : Hid (Ek r d s bs false) := ek_no fun h => hc0 (HCN.out.1 h).2.1
      clear hc0 HCN HZ HRP'
      go_wp2
      go_ret
      exact ⟨⟨false, rfl, HR.out⟩, HB1.out⟩
    have hsz := HZ.out hc0
    subst hc0 hsz
    by_cases hS : s = ((d.size : Nat) : Int)
    rotate_left
    · have h0 : ((s : Int) != ((d.size : Nat) : Int)) = true := by rw [bne_iff_ne]; exact hS
      have HR : Hid (Ek r d s bs false) := ek_no fun h => hS (HCN.out.1 h).1
      clear hS HCN HZ HRP'
      go_wp2
      go_ret
      exact ⟨⟨false, rfl, HR.out⟩, HB1.out⟩
    have h0 : ((s : Int) != ((d.size : Nat) : Int)) = false := by rw [bne_eq_false_iff_eq]; exact hS
    have HC2 : Hid (Cn r d s bs ↔ ∃ zs, rp.Rp ts [] (zs, true) ∧ sok bs = true ∧ sm.sameS zs bs = true) := ⟨fun h => (HCN.out.1 h).2.2, fun h => HCN.out.2 ⟨hS, rfl, h⟩⟩
    clear hS HCN HZ
    go_wp2_with fail
    refine HRP'.out.mono ?_
    rintro e w2 ⟨⟨L, ys, us, bo, rfl, hR, hOL, hsy, hso⟩, hb2⟩
    obtain ⟨La, Ln, Lc, rfl⟩ := slice_fine (own_fine hOL.1)
    have HO2 : Hid (BoxesAt w2 (.slice La Ln Lc) ys us ∧ Smalls ys) := ⟨ownL_boxes hOL, hsy⟩
    have HB2 : Hid (Below w.heap.size w w2) := HB1.out.trans (hb2.mono HB1.out.size)
    have d3 := (HL1.out.keep hb2).c3
    have HSA : Hid (sm.ssa ys bs = true ↔ sok bs = true ∧ sm.sameS ys bs = true) := by
      have hy := hso
      show (decide (ys.length ≤ 4096 ∧ bs.length ≤ 4096) && sok ys && sok bs && sm.sameS ys bs) = true ↔ _
      rw [hy]
      constructor
      · intro h
        simp only [Bool.and_eq_true] at h
        exact ⟨h.1.2, h.2⟩
      · rintro ⟨h1, h2⟩
        have l1 := (sok_of hy).1
        have l2 := (sok_of h1).1
        rw [h1, h2, decide_eq_true (by omega : ys.length ≤ 4096 ∧ bs.length ≤ 4096)]
        rfl
    have HRR : Hid (rp.Rp ts [] (ys, bo)) := hR
    clear HRP' hOL hsy hb2 hR hso c2 c3
    go_wp2_with fail
    refine (sm.impl_ss _ _ ys bs us vs w2 HO2.out.1 (boxes_below HBS.out.1 HB2.out) HO2.out.2 HBS.out.2).mono ?_
    rintro e w3 ⟨rfl, hb3⟩
    have HB3 : Hid (Below w.heap.size w w3) := HB2.out.trans (hb3.mono HB2.out.size)
    generalize sm.ssa ys bs = A at HSA ⊢
    generalize sm.ssb ys bs = B
    clear hb3 d3
    cases bo with
    | false =>
      have HR : Hid (Ek r d s bs false) := ek_no fun h => by
        obtain ⟨zs, hz, _⟩ := HC2.out.1 h
        have := rp.rp_one rp.sok_nil HRR.out hz
        cases this
      go_wp2
      go_ret
      exact ⟨⟨false, rfl, HR.out⟩, HB3.out⟩
    | true =>
      have HR : Hid (Ek r d s bs A) := by
        refine ⟨fun h => HC2.out.2 ⟨ys, HRR.out, HSA.out.1 h⟩, fun h => ?_⟩
        obtain ⟨zs, hz, h1⟩ := HC2.out.1 h
        have := rp.rp_one rp.sok_nil HRR.out hz
        cases this
        exact HSA.out.2 h1
      go_wp2
      go_ret
      exact ⟨⟨A, rfl, HR.out⟩, HB3.out⟩

set_option maxHeartbeats 4000000 in
set_option maxRecDepth 100000 in
theorem specEk_any (r : Int) (d : ByteArray) (s : Int) (v : Value) (bs : List Bx) (vs : Nat → Value × Value) (w : World) (hr : lg.In r) (hd : d.size ≤ 1048576) (hs : lg.In s) (hB : BoxesAt w v bs vs) (hsm : Smalls bs) (hcv : ∀ a n c, v = .slice a n c → n ≤ c) (hcu : ∀ j, j < bs.length → ∀ a n c, (vs j).2 = .slice a n c → n ≤ c) :
    Calls Tryz.prog 11 #[EV r d s v] w fun e w' => Er r d s bs e ∧ Below w.heap.size w w' := by
  have HBS : Hid (BoxesAt w v bs vs ∧ Smalls bs ∧ (∀ a n c, v = .slice a n c → n ≤ c) ∧ ∀ j, j < bs.length → ∀ a n c, (vs j).2 = .slice a n c → n ≤ c) := ⟨hB, hsm, hcv, hcu⟩
  obtain ⟨⟨a, cap, rfl, _⟩, _⟩ := hB
  have L0 := liesE_new w 35 r d s (.slice a bs.length cap)
  have b0 := new_below w 35 #[.int .i64 r, .string d, .int .i64 s, .slice a bs.length cap]
  have HOK : Hid (∀ W, Calls Tryz.prog 24 #[LV r d s] W fun e w' => e = .returned (.bool (lg.ok r d.size s)) ∧ Below W.heap.size W w') := fun W => lg.spec_ok r d s W hr (Nat.le_trans hd (by unfold maxLen; omega)) hs
  have c0 := L0.c0
  have c1 := L0.c1
  have c2 := L0.c2
  have hbl := hsm.1
  clear hr hs hsm hcv hcu
  unfold EV
  unfold LV at HOK
  go_enter Tryz.func11, Tryz.ntmps11
  go_wp2_with fail
  generalize w.alloc _ = w0 at L0 b0 c0 c1 c2 ⊢
  refine (HOK.out w0).mono ?_
  rintro e w1 ⟨rfl, hb1⟩
  have HB1 : Hid (Below w.heap.size w w1) := b0.trans (hb1.mono b0.size)
  have HL1 : Hid (LiesE w1 w.heap.size 35 r d s (.slice a bs.length cap)) := L0.keep hb1
  clear HOK c0 c1 c2 b0 hb1 L0
  have c1 := HL1.out.c1
  have c2 := HL1.out.c2
  have c3 := HL1.out.c3
  cases hk : lg.ok r d.size s with
  | false =>
    have HR : Hid (Ek r d s bs false) := ek_no fun h => by have := h.1; rw [hk] at this; cases this
    clear hk
    go_wp2
    go_ret
    exact ⟨⟨false, rfl, HR.out⟩, HB1.out⟩
  | true =>
    by_cases hS : s = ((d.size : Nat) : Int)
    rotate_left
    · have h0 : ((s : Int) != ((d.size : Nat) : Int)) = true := by rw [bne_iff_ne]; exact hS
      have HR : Hid (Ek r d s bs false) := ek_no fun h => hS h.2.1
      clear hS hk
      go_wp2
      go_ret
      exact ⟨⟨false, rfl, HR.out⟩, HB1.out⟩
    have h0 : ((s : Int) != ((d.size : Nat) : Int)) = false := by rw [bne_eq_false_iff_eq]; exact hS
    have HKS : Hid (lg.ok r d.size s = true ∧ s = ((d.size : Nat) : Int)) := ⟨hk, hS⟩
    clear hk hS
    go_wp2_with fail
    refine (spec_sok _ bs vs w1 (boxes_below HBS.out.1 HB1.out) HBS.out.2.1 HBS.out.2.2.1 HBS.out.2.2.2).mono ?_
    rintro e w2 ⟨rfl, hb2⟩
    have HB2 : Hid (Below w.heap.size w w2) := HB1.out.trans (hb2.mono HB1.out.size)
    have HL2 : Hid (LiesE w2 w.heap.size 35 r d s (.slice a bs.length cap)) := HL1.out.keep hb2
    clear c1 c2 c3 hb2 HL1
    have c1 := HL2.out.c1
    cases hso : sok bs with
    | false =>
      have HR : Hid (Ek r d s bs false) := ek_no fun h => by
        obtain ⟨zs, _, h1, _⟩ := h.2.2.2
        rw [hso] at h1
        cases h1
      clear hso
      go_wp2
      go_ret
      exact ⟨⟨false, rfl, HR.out⟩, HB2.out⟩
    | true =>
      have HSO : Hid (sok bs = true) := hso
      clear hso
      go_wp2_with fail
      refine (lg.l08Records_any d w2 hd).mono ?_
      rintro e w3 ⟨⟨v', rfl, hOT⟩, hb3⟩
      have hTX := ky.own_texts hOT
      obtain ⟨va, vc, rfl, _⟩ := hTX
      have HB3 : Hid (Below w.heap.size w w3) := HB2.out.trans (hb3.mono HB2.out.size)
      have HL3 : Hid (LiesE w3 w.heap.size 35 r d s (.slice a bs.length cap)) := HL2.out.keep hb3
      have HZ : Hid ((recs d).2.2 = 0 → (recs d).2.1 = d.size) := recs_zero
      have HCD : Hid (Cn r d s bs → (recs d).2.2 = 0) := fun h => h.2.2.1
      have HRR : Hid ((recs d).2.2 = 0 → ∀ ys n cc, rp.Rr d ys n cc → (cc = 0 ∧ (Cn r d s bs ↔ sm.sameS ys bs = true)) ∨ (cc ≠ 0 ∧ ¬ Cn r d s bs)) := fun hc ys n cc h => by
        obtain ⟨zs, b, hR, h⟩ := h
        rcases h with ⟨rfl, _, _, rfl⟩ | ⟨_, h8, _⟩ | ⟨rfl, _, rfl, _, rfl⟩
        · refine .inr ⟨by decide, fun hn => ?_⟩
          obtain ⟨zs', hz, _⟩ := hn.2.2.2
          cases rp.rp_one rp.sok_nil hR hz
        · rw [hc] at h8; cases h8
        · refine .inl ⟨rfl, fun hn => ?_, fun h => ⟨HKS.out.1, HKS.out.2, hc, _, hR, HSO.out, h⟩⟩
          obtain ⟨zs', hz, _, h1⟩ := hn.2.2.2
          cases rp.rp_one rp.sok_nil hR hz
          exact h1
      generalize (recs d).2.2 = cd at HZ HCD HRR ⊢
      generalize (recs d).2.1 = sz at HZ ⊢
      generalize (recs d).1.length = tl
      clear hOT hb3 c1 HL2
      have c1 := HL3.out.c1
      by_cases hc0 : cd = 0
      rotate_left
      · have h0 : ((cd : Int) != 0) = true := by rw [bne_iff_ne]; omega
        have HR : Hid (Ek r d s bs false) := ek_no fun h => hc0 (HCD.out h)
        clear hc0 HZ HCD HRR
        go_wp2
        go_ret
        exact ⟨⟨false, rfl, HR.out⟩, HB3.out⟩
      have hsz := HZ.out hc0
      have HR2 : Hid (∀ ys n cc, rp.Rr d ys n cc → (cc = 0 ∧ (Cn r d s bs ↔ sm.sameS ys bs = true)) ∨ (cc ≠ 0 ∧ ¬ Cn r d s bs)) := HRR.out hc0
      clear HZ HCD HRR
      subst hc0 hsz
      go_wp2_with fail
      refine (rp.specRp_any d w3 hd).mono ?_
      rintro e w4 ⟨⟨L, ys, us, n, cc, rfl, hR, hLB, hF, hsy, hsoy⟩, hb4⟩
      have HY : Hid (BoxesAt w4 L ys us ∧ Smalls ys) := ⟨hLB, hsy⟩
      obtain ⟨⟨La, Lc, rfl, _⟩, _⟩ := hLB
      have HB4 : Hid (Below w.heap.size w w4) := HB3.out.trans (hb4.mono HB3.out.size)
      have c3 := (HL3.out.keep hb4).c3
      have hyl := hsy.1
      have hX := HR2.out _ _ _ hR
      clear hF hsy hsoy hb4 hR HR2 c1
      rcases hX with ⟨rfl, hX⟩ | ⟨hn0, hX⟩
      · have HX : Hid (Cn r d s bs ↔ sm.sameS ys bs = true) := hX
        clear hX
        go_wp2_with fail
        refine (sm.l09Same_any _ _ ys bs us vs w4 HY.out.1 (boxes_below HBS.out.1 HB4.out) HY.out.2 HBS.out.2.1).mono ?_
        rintro e w5 ⟨rfl, hb5⟩
        have HB5 : Hid (Below w.heap.size w w5) := HB4.out.trans (hb5.mono HB4.out.size)
        have HR : Hid (Ek r d s bs (sm.sameS ys bs)) := HX.out.symm
        generalize sm.sameS ys bs = A at HR ⊢
        clear hb5 c3
        go_wp2
        go_ret
        exact ⟨⟨A, rfl, HR.out⟩, HB5.out⟩
      · have h0 : ((cc : Int) == 0) = false := by rw [beq_eq_false_iff_ne]; exact hn0
        have HR : Hid (Ek r d s bs false) := ek_no hX
        clear hX hn0
        go_wp2
        go_ret
        exact ⟨⟨false, rfl, HR.out⟩, HB4.out⟩
end Go.Proofs.YtncnbhekgkemfaaGreatDoor.eg
