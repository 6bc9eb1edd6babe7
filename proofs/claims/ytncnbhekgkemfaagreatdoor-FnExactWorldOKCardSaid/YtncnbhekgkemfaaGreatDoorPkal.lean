/-
  Connections that are right: the specification's way.
-/
import Derived.Test.YtncnbhekgkemfaaGreatDoorPkak

namespace Go.Proofs.YtncnbhekgkemfaaGreatDoor.cn
open Go.RowKit
open im (Im Right Bare IV)
open wk (Nn NV NRight Fit Has)
open ow (Reads Says)
set_option linter.unusedVariables false

theorem right0 {x : Im} (h : x.st = 0) : Right x ↔ (x.bx.size = 0 ∧ x.ro = false ∧ x.vw.length = 0) := by
  constructor
  · rintro (⟨a, _⟩ | ⟨_, b⟩)
    · omega
    · exact b
  · intro b
    exact .inr ⟨⟨by omega, by omega⟩, b⟩
theorem plc_ex (xs : List bx.Bx) (s : ByteArray) : ∃ r, bx.Plc xs s r := by
  by_cases h : ∃ k, k < xs.length ∧ (xs.getD k bx.noB).nm = s
  · have hs : ∀ n, (∀ j, j < n → (xs.getD j bx.noB).nm ≠ s) ∨ ∃ k, k < n ∧ (xs.getD k bx.noB).nm = s ∧ ∀ j, j < k → (xs.getD j bx.noB).nm ≠ s := by
      intro n
      induction n with
      | zero => exact .inl fun j hj => absurd hj (Nat.not_lt_zero _)
      | succ n ih =>
        rcases ih with ih | ⟨k, h1, h2, h3⟩
        · by_cases e : (xs.getD n bx.noB).nm = s
          · exact .inr ⟨n, by omega, e, ih⟩
          · refine .inl fun j hj => ?_
            by_cases ej : j = n
            · rw [ej]; exact e
            · exact ih j (by omega)
        · exact .inr ⟨k, by omega, h2, h3⟩
    rcases hs xs.length with hn | ⟨k, h1, h2, h3⟩
    · obtain ⟨k, hk, e⟩ := h
      exact absurd e (hn k hk)
    · exact ⟨k, .inl ⟨k, rfl, h1, h2, h3⟩⟩
  · exact ⟨-1, .inr ⟨rfl, fun j hj e => h ⟨j, hj, e⟩⟩⟩

set_option maxHeartbeats 16000000 in
set_option maxRecDepth 100000 in
theorem spec_right (x : Cn) (v bv : Value) (xs : List bx.Bx) (vs : Nat → Value × Value) (w : World) (h : Reads .i64 w v x.vw) (hs : Small x) (hB : bx.BoxesAt w bv xs vs) (hxl : xs.length ≤ 1048576) :
    Calls Tryz.prog 12 #[CV x v, bv] w fun e w' => Says (CRight xs x) e ∧ Below w.heap.size w w' := by
  have b0 := new_below w 52 (cells x v)
  have HL0 : Hid (Lies (w.alloc (.cells (cells x v) 52)) w.heap.size 52 x v) := lies_new w 52 x v
  have HR : Hid (∀ W, Below w.heap.size w W → Reads .i64 W v x.vw) := fun W hW => im.reads_below h hW
  have HBX : Hid (∀ W, Below w.heap.size w W → bx.BoxesAt W bv xs vs) := fun W hW => bx.boxes_below hB hW
  have HIO : Hid (∀ W, Below w.heap.size w W → Calls Tryz.prog 29 #[.agg #[.int .i64 x.st, .string x.bx, .bool x.ro, v]] W fun e w' => Says (Right x.im) e ∧ Below W.heap.size W w') := fun W hW => im.spec_iok x.im v W (HR.out W hW) hs.2.2.1 hs.2.1
  have HNO : Hid (∀ W, Calls Tryz.prog 31 #[.agg #[.string x.g, .int .i64 x.n, .bool x.o]] W fun e w' => Says (NRight x.nn) e ∧ Below W.heap.size W w') := fun W => wk.spec_nok x.nn W hs.2.2.2
  obtain ⟨rr, hrr⟩ := plc_ex xs x.bx
  have HFD : Hid (∀ W, Below w.heap.size w W → Calls Tryz.prog 30 #[bv, .string x.bx] W fun e w' => e = .returned (.int .i64 rr) ∧ w' = W) := fun W hW => bx.find_any W.heap.size bv xs vs x.bx W (HBX.out W hW).1 hxl hrr
  have HF : Hid (Fit xs x.im ↔ (Right x.im ∧ (x.st = 3 → 0 ≤ rr))) := (show _ ↔ _ by rw [wk.plc_has hrr]; exact Iff.rfl)
  have HC0 : Hid (x.kd = 0 → (CRight xs x ↔ (x.bf.size = 0 ∧ x.st = 0 ∧ x.bx.size = 0 ∧ x.ro = false ∧ x.vw.length = 0 ∧ nz x = true))) := fun k => by
    rw [nz_iff]
    constructor
    · rintro (⟨_, a, b, c, d⟩ | ⟨a, _⟩ | ⟨a, _⟩)
      · have b' := (right0 (x := x.im) a).1 b
        exact ⟨d, a, b'.1, b'.2.1, b'.2.2, c⟩
      · omega
      · omega
    · rintro ⟨d, a, b1, b2, b3, c⟩
      exact .inl ⟨k, a, (right0 (x := x.im) a).2 ⟨b1, b2, b3⟩, c, d⟩
  have HC1 : Hid (x.kd = 1 → (CRight xs x ↔ (x.bf.size ≤ 8000 ∧ Right x.im ∧ ¬ x.st = 0 ∧ nz x = true ∧ (x.st = 3 → 0 ≤ rr)))) := fun k => by
    rw [nz_iff]
    constructor
    · rintro (⟨a, _⟩ | ⟨_, a, b, c, d⟩ | ⟨a, _⟩)
      · omega
      · have b' := HF.out.1 b
        exact ⟨d, b'.1, a, c, b'.2⟩
      · omega
    · rintro ⟨d, b1, a, c, b2⟩
      exact .inr (.inl ⟨k, a, HF.out.2 ⟨b1, b2⟩, c, d⟩)
  have HC2 : Hid (x.kd = 2 → (CRight xs x ↔ (x.bf.size ≤ 8000 ∧ NRight x.nn ∧ x.o = false ∧ x.st = 0 ∧ x.bx.size = 0 ∧ x.ro = false ∧ x.vw.length = 0))) := fun k => by
    constructor
    · rintro (⟨a, _⟩ | ⟨a, _⟩ | ⟨_, a, b, c, d, e⟩)
      · omega
      · omega
      · have b' := (right0 (x := x.im) a).1 b
        exact ⟨e, d, c, a, b'.1, b'.2.1, b'.2.2⟩
    · rintro ⟨e, d, c, a, b1, b2, b3⟩
      exact .inr (.inr ⟨k, a, (right0 (x := x.im) a).2 ⟨b1, b2, b3⟩, c, d, e⟩)
  have HCN : Hid (¬ x.kd = 0 → ¬ x.kd = 1 → ¬ x.kd = 2 → ¬ CRight xs x) := fun k0 k1 k2 y => by
    rcases y with ⟨a, _⟩ | ⟨a, _⟩ | ⟨a, _⟩
    · exact k0 a
    · exact k1 a
    · exact k2 a
  have HZ : Hid (nz x = (decide (x.g.size = 0) && decide (x.n = 0) && !x.o)) := rfl
  obtain ⟨a, cap, rfl, _⟩ := h
  obtain ⟨⟨ba, bc, rfl, _⟩, _⟩ := hB
  clear hs hxl HR HBX HF hrr
  generalize CRight xs x = C at HC0 HC1 HC2 HCN ⊢
  generalize Right x.im = R at HIO HC1
  generalize NRight x.nn = M at HNO HC2
  generalize nz x = Z at HC0 HC1 HZ
  unfold CV
  obtain ⟨kd, bf, st, bx, ro, vw, g, n, o⟩ := x
  simp only [cells] at *
  have HLT : Hid (∀ W, Below (w.alloc (.cells #[.int .i64 kd, .string bf, .int .i64 st, .string bx, .bool ro, .slice a vw.length cap, .string g, .int .i64 n, .bool o] 52)).heap.size (w.alloc (.cells #[.int .i64 kd, .string bf, .int .i64 st, .string bx, .bool ro, .slice a vw.length cap, .string g, .int .i64 n, .bool o] 52)) W → Lies W w.heap.size 52 ⟨kd, bf, st, bx, ro, vw, g, n, o⟩ (.slice a vw.length cap)) := fun W hW => HL0.out.keep hW
  clear HL0
  go_enter Tryz.func12, Tryz.ntmps12
  go_upto_region 1 with fail
  generalize w.alloc _ = w0 at b0 HLT ⊢
  have HB0 : Hid (Below w.heap.size w w0) := b0
  have HBW : Hid (∀ W, Below w0.heap.size w0 W → Below w.heap.size w W) := fun W hW => HB0.out.trans (hW.mono HB0.out.size)
  have L1 := HLT.out w0 (Below.refl _ _)
  have c0 := L1.c 0
  have c1 := L1.c 1
  have c2 := L1.c 2
  have c3 := L1.c 3
  have c4 := L1.c 4
  have c5 := L1.c 5
  have c6 := L1.c 6
  have c7 := L1.c 7
  have c8 := L1.c 8
  simp only [cells] at c0 c1 c2 c3 c4 c5 c6 c7 c8
  clear b0 L1
  obtain ⟨sb, hsb⟩ : ∃ sb, sb = decide ((bf.size : Int) ≤ 8000) := ⟨_, rfl⟩
  have hds : decide ((bf.size : Int) ≤ 8000) = sb := hsb.symm
  have HSB : Hid (sb = true ↔ bf.size ≤ 8000) := (show _ ↔ _ by rw [hsb, decide_eq_true_iff]; omega)
  clear hsb
  by_cases k0 : kd = 0
  · have HX := HC0.out k0
    have HXH : Hid (C ↔ (bf.size = 0 ∧ st = 0 ∧ bx.size = 0 ∧ ro = false ∧ vw.length = 0 ∧ Z = true)) := HX
    subst k0
    clear HX HC0 HC1 HC2 HCN HIO HNO HFD HSB hds
    by_cases e0 : bf.size = 0
    rotate_left
    · have ee := im.full_list e0
      have HN : Hid (¬ C) := fun y => e0 (HXH.out.1 y).1
      clear HXH e0
      go_wp2
      go_ret
      exact ⟨ow.says_no HN.out, HB0.out⟩
    have ee := im.empty_list e0
    have HE : Hid (bf.size = 0) := e0
    clear e0
    by_cases s0 : st = 0
    rotate_left
    · have qs : (st == 0) = false := beq_eq_false_iff_ne.2 s0
      have HN : Hid (¬ C) := fun y => s0 (HXH.out.1 y).2.1
      clear HXH s0
      go_wp2
      go_ret
      exact ⟨ow.says_no HN.out, HB0.out⟩
    subst s0
    by_cases x0 : bx.size = 0
    rotate_left
    · have ex := im.full_list x0
      have HN : Hid (¬ C) := fun y => x0 (HXH.out.1 y).2.2.1
      clear HXH x0
      go_wp2
      go_ret
      exact ⟨ow.says_no HN.out, HB0.out⟩
    have ex := im.empty_list x0
    have HBX0 : Hid (bx.size = 0) := x0
    clear x0
    cases ro with
    | true =>
      have HN : Hid (¬ C) := fun y => by have := (HXH.out.1 y).2.2.2.1; cases this
      clear HXH
      go_wp2
      go_ret
      exact ⟨ow.says_no HN.out, HB0.out⟩
    | false =>
      by_cases v0 : vw.length = 0
      rotate_left
      · have qv : ((vw.length : Int) == 0) = false := beq_eq_false_iff_ne.2 (by omega)
        have HN : Hid (¬ C) := fun y => v0 (HXH.out.1 y).2.2.2.2.1
        clear HXH v0
        go_wp2
        go_ret
        exact ⟨ow.says_no HN.out, HB0.out⟩
      have qv : ((vw.length : Int) == 0) = true := beq_iff_eq.2 (by omega)
      have HV0 : Hid (vw.length = 0) := v0
      clear v0
      by_cases g0 : g.size = 0
      rotate_left
      · have ge := im.full_list g0
        have hz : Z = false := by rw [HZ.out, decide_eq_false g0]; simp
        have HN : Hid (¬ C) := fun y => by have := (HXH.out.1 y).2.2.2.2.2; rw [hz] at this; cases this
        clear HXH g0 hz
        go_wp2
        go_ret
        exact ⟨ow.says_no HN.out, HB0.out⟩
      have ge := im.empty_list g0
      by_cases n0 : n = 0
      rotate_left
      · have ne : (n == 0) = false := beq_eq_false_iff_ne.2 n0
        have hz : Z = false := by rw [HZ.out, decide_eq_false n0]; simp
        have HN : Hid (¬ C) := fun y => by have := (HXH.out.1 y).2.2.2.2.2; rw [hz] at this; cases this
        clear HXH g0 n0 hz
        go_wp2
        go_ret
        exact ⟨ow.says_no HN.out, HB0.out⟩
      subst n0
      cases o with
      | true =>
        have hz : Z = false := by rw [HZ.out]; simp
        have HN : Hid (¬ C) := fun y => by have := (HXH.out.1 y).2.2.2.2.2; rw [hz] at this; cases this
        clear HXH g0 hz
        go_wp2
        go_ret
        exact ⟨ow.says_no HN.out, HB0.out⟩
      | false =>
        have hz : Z = true := by rw [HZ.out, decide_eq_true g0]; simp
        have HY : Hid C := HXH.out.2 ⟨HE.out, rfl, HBX0.out, rfl, HV0.out, hz⟩
        clear HXH g0 hz
        go_wp2
        go_ret
        exact ⟨ow.says_yes HY.out, HB0.out⟩
  have q0 : (kd == 0) = false := beq_eq_false_iff_ne.2 k0
  by_cases k1 : kd = 1
  · have HX := HC1.out k1
    have HXH : Hid (C ↔ (bf.size ≤ 8000 ∧ R ∧ ¬ st = 0 ∧ Z = true ∧ (st = 3 → 0 ≤ rr))) := HX
    subst k1
    clear HX HC0 HC1 HC2 HCN HNO k0 q0
    cases sb with
    | false =>
      have HN : Hid (¬ C) := fun y => by have := HSB.out.2 (HXH.out.1 y).1; cases this
      clear HXH
      go_wp2
      go_ret
      exact ⟨ow.says_no HN.out, HB0.out⟩
    | true =>
      have HS8 : Hid (bf.size ≤ 8000) := HSB.out.1 rfl
      clear HSB
      go_wp2_with fail
      refine (HIO.out w0 HB0.out).mono ?_
      rintro e w1 ⟨⟨br, rfl, hbr⟩, b1⟩
      have HBR : Hid (br = true ↔ R) := hbr
      have HB1 : Hid (Below w.heap.size w w1) := HBW.out _ b1
      have L1 := HLT.out w1 b1
      have c0 := L1.c 0
      have c1 := L1.c 1
      have c2 := L1.c 2
      have c3 := L1.c 3
      have c4 := L1.c 4
      have c5 := L1.c 5
      have c6 := L1.c 6
      have c7 := L1.c 7
      have c8 := L1.c 8
      simp only [cells] at c0 c1 c2 c3 c4 c5 c6 c7 c8
      clear hbr b1 L1 HIO HBW HLT
      cases br with
      | false =>
        have HN : Hid (¬ C) := fun y => by have := HBR.out.2 (HXH.out.1 y).2.1; cases this
        clear HXH
        go_wp2
        go_ret
        exact ⟨ow.says_no HN.out, HB1.out⟩
      | true =>
        have HRT : Hid R := HBR.out.1 rfl
        clear HBR
        by_cases s0 : st = 0
        · subst s0
          have HN : Hid (¬ C) := fun y => (HXH.out.1 y).2.2.1 rfl
          clear HXH
          go_wp2
          go_ret
          exact ⟨ow.says_no HN.out, HB1.out⟩
        have qs : (st != 0) = true := bne_iff_ne.2 s0
        have HS0 : Hid (¬ st = 0) := s0
        clear s0
        by_cases g0 : g.size = 0
        rotate_left
        · have ge := im.full_list g0
          have hz : Z = false := by rw [HZ.out, decide_eq_false g0]; simp
          have HN : Hid (¬ C) := fun y => by have := (HXH.out.1 y).2.2.2.1; rw [hz] at this; cases this
          clear HXH g0 hz
          go_wp2
          go_ret
          exact ⟨ow.says_no HN.out, HB1.out⟩
        have ge := im.empty_list g0
        by_cases n0 : n = 0
        rotate_left
        · have ne : (n == 0) = false := beq_eq_false_iff_ne.2 n0
          have hz : Z = false := by rw [HZ.out, decide_eq_false n0]; simp
          have HN : Hid (¬ C) := fun y => by have := (HXH.out.1 y).2.2.2.1; rw [hz] at this; cases this
          clear HXH g0 n0 hz
          go_wp2
          go_ret
          exact ⟨ow.says_no HN.out, HB1.out⟩
        subst n0
        cases o with
        | true =>
          have hz : Z = false := by rw [HZ.out]; simp
          have HN : Hid (¬ C) := fun y => by have := (HXH.out.1 y).2.2.2.1; rw [hz] at this; cases this
          clear HXH g0 hz
          go_wp2
          go_ret
          exact ⟨ow.says_no HN.out, HB1.out⟩
        | false =>
          have HZT : Hid (Z = true) := (show _ = _ by rw [HZ.out, decide_eq_true g0]; simp)
          clear g0
          by_cases s3 : st = 3
          rotate_left
          · have q3 : (st != 3) = true := bne_iff_ne.2 s3
            have HY : Hid C := HXH.out.2 ⟨HS8.out, HRT.out, HS0.out, HZT.out, fun z => absurd z s3⟩
            clear HXH s3
            go_wp2
            go_ret
            exact ⟨ow.says_yes HY.out, HB1.out⟩
          have H3 : Hid (st = 3) := s3
          have q3 : (st != 3) = false := by rw [bne_eq_false_iff_eq]; exact s3
          clear s3
          go_wp2_with fail
          refine (HFD.out w1 HB1.out).mono ?_
          rintro e w2 ⟨rfl, hw2⟩
          have hw2 := hw2.symm
          subst hw2
          by_cases r0 : 0 ≤ rr
          rotate_left
          · have rd : decide (0 ≤ rr) = false := decide_eq_false r0
            have HN : Hid (¬ C) := fun y => r0 ((HXH.out.1 y).2.2.2.2 H3.out)
            clear HXH r0
            go_wp2
            go_ret
            exact ⟨ow.says_no HN.out, HB1.out⟩
          have rd : decide (0 ≤ rr) = true := decide_eq_true r0
          have HY : Hid C := HXH.out.2 ⟨HS8.out, HRT.out, HS0.out, HZT.out, fun _ => r0⟩
          clear HXH r0
          go_wp2
          go_ret
          exact ⟨ow.says_yes HY.out, HB1.out⟩
  have q1 : (kd == 1) = false := beq_eq_false_iff_ne.2 k1
  by_cases k2 : kd = 2
  · have HX := HC2.out k2
    have HXH : Hid (C ↔ (bf.size ≤ 8000 ∧ M ∧ o = false ∧ st = 0 ∧ bx.size = 0 ∧ ro = false ∧ vw.length = 0)) := HX
    subst k2
    clear HX HC0 HC1 HC2 HCN HIO HFD k0 q0 k1 q1 HZ
    cases sb with
    | false =>
      have HN : Hid (¬ C) := fun y => by have := HSB.out.2 (HXH.out.1 y).1; cases this
      clear HXH
      go_wp2
      go_ret
      exact ⟨ow.says_no HN.out, HB0.out⟩
    | true =>
      have HS8 : Hid (bf.size ≤ 8000) := HSB.out.1 rfl
      clear HSB
      go_wp2_with fail
      refine (HNO.out w0).mono ?_
      rintro e w1 ⟨⟨bm, rfl, hbm⟩, b1⟩
      have HBM : Hid (bm = true ↔ M) := hbm
      have HB1 : Hid (Below w.heap.size w w1) := HBW.out _ b1
      have L1 := HLT.out w1 b1
      have c0 := L1.c 0
      have c1 := L1.c 1
      have c2 := L1.c 2
      have c3 := L1.c 3
      have c4 := L1.c 4
      have c5 := L1.c 5
      have c6 := L1.c 6
      have c7 := L1.c 7
      have c8 := L1.c 8
      simp only [cells] at c0 c1 c2 c3 c4 c5 c6 c7 c8
      clear hbm b1 L1 HNO HBW HLT
      cases bm with
      | false =>
        have HN : Hid (¬ C) := fun y => by have := HBM.out.2 (HXH.out.1 y).2.1; cases this
        clear HXH
        go_wp2
        go_ret
        exact ⟨ow.says_no HN.out, HB1.out⟩
      | true =>
        have HMT : Hid M := HBM.out.1 rfl
        clear HBM
        cases o with
        | true =>
          have HN : Hid (¬ C) := fun y => by have := (HXH.out.1 y).2.2.1; cases this
          clear HXH
          go_wp2
          go_ret
          exact ⟨ow.says_no HN.out, HB1.out⟩
        | false =>
          by_cases s0 : st = 0
          rotate_left
          · have qs : (st == 0) = false := beq_eq_false_iff_ne.2 s0
            have HN : Hid (¬ C) := fun y => s0 (HXH.out.1 y).2.2.2.1
            clear HXH s0
            go_wp2
            go_ret
            exact ⟨ow.says_no HN.out, HB1.out⟩
          subst s0
          by_cases x0 : bx.size = 0
          rotate_left
          · have ex := im.full_list x0
            have HN : Hid (¬ C) := fun y => x0 (HXH.out.1 y).2.2.2.2.1
            clear HXH x0
            go_wp2
            go_ret
            exact ⟨ow.says_no HN.out, HB1.out⟩
          have ex := im.empty_list x0
          have HBX0 : Hid (bx.size = 0) := x0
          clear x0
          cases ro with
          | true =>
            have HN : Hid (¬ C) := fun y => by have := (HXH.out.1 y).2.2.2.2.2.1; cases this
            clear HXH
            go_wp2
            go_ret
            exact ⟨ow.says_no HN.out, HB1.out⟩
          | false =>
            by_cases v0 : vw.length = 0
            rotate_left
            · have qv : ((vw.length : Int) == 0) = false := beq_eq_false_iff_ne.2 (by omega)
              have HN : Hid (¬ C) := fun y => v0 (HXH.out.1 y).2.2.2.2.2.2
              clear HXH v0
              go_wp2
              go_ret
              exact ⟨ow.says_no HN.out, HB1.out⟩
            have qv : ((vw.length : Int) == 0) = true := beq_iff_eq.2 (by omega)
            have HY : Hid C := HXH.out.2 ⟨HS8.out, HMT.out, rfl, rfl, HBX0.out, rfl, v0⟩
            clear HXH v0
            go_wp2
            go_ret
            exact ⟨ow.says_yes HY.out, HB1.out⟩
  have q2 : (kd == 2) = false := beq_eq_false_iff_ne.2 k2
  have HN : Hid (¬ C) := HCN.out k0 k1 k2
  clear HC0 HC1 HC2 HCN k0 k1 k2 HIO HNO HFD
  go_wp2
  go_ret
  exact ⟨ow.says_no HN.out, HB0.out⟩
end Go.Proofs.YtncnbhekgkemfaaGreatDoor.cn
