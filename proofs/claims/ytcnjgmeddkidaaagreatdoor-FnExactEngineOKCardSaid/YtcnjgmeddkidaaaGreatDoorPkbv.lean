/-
  Both ReplayLog functions.
-/
import Derived.Test.YtcnjgmeddkidaaaGreatDoorPkbt
import Derived.Test.YtcnjgmeddkidaaaGreatDoorPkbu

namespace Go.Proofs.YtcnjgmeddkidaaaGreatDoor.rp
open Go.RowKit
open st gr bx mx bl wi ml sa lg
set_option linter.unusedVariables false

/-- What ReplayLog answers. -/
def RlIs (r : Int) (d : ByteArray) (s : Int) (ys : List Bx) (n c : Int) : Prop := (ok r d.size s = false ∧ ys = [] ∧ n = 0 ∧ c = 1) ∨ (ok r d.size s = true ∧ Rr d ys n c)
theorem rl_one {r s : Int} {d : ByteArray} {ys ys' : List Bx} {n n' c c' : Int} (h : RlIs r d s ys n c) (h' : RlIs r d s ys' n' c') : ys = ys' ∧ n = n' ∧ c = c' := by
  rcases h with ⟨e, rfl, rfl, rfl⟩ | ⟨e, h⟩ <;> rcases h' with ⟨e', rfl, rfl, rfl⟩ | ⟨e', h'⟩
  · exact ⟨rfl, rfl, rfl⟩
  · rw [e] at e'; cases e'
  · rw [e] at e'; cases e'
  · exact rr_one h h'
def RlRet (r : Int) (d : ByteArray) (s : Int) (base : Nat) (e : Ending) (w : World) : Prop := ∃ L ys us n c, e = .returned (.tuple #[L, .int .i64 n, .int .i64 c]) ∧ RlIs r d s ys n c ∧ OwnL w base L ys us ∧ bx.Smalls ys ∧ sok ys = true
theorem few_sok {ys : List Bx} (h : sok ys = true) : Few ys := by
  obtain ⟨h1, h2⟩ := sok_of h
  refine ⟨by omega, fun j hj => ?_⟩
  have := bok_iff.1 (h2 j hj).1
  exact ⟨by have := this.2.2.2.1.1; omega, by have := this.2.2.2.2.2.1.1; omega⟩

set_option maxHeartbeats 4000000 in
set_option maxRecDepth 100000 in
theorem implRl_any (r : Int) (d : ByteArray) (s : Int) (w : World) (c b : Addr) (ca cb : Array Value) (ta tb : TypeId) (hr : lg.In r) (hd : d.size ≤ 1048576) (hs : lg.In s) (hE : Errs w c b ca cb ta tb) :
    Calls Tryz.prog 8 #[LV r d s] w fun e w' => RlRet r d s w.heap.size e w' ∧ Below w.heap.size w w' := by
  have L0 := lg.lies_new w 28 r d s
  have b0 := lg.new_below w 28 #[.int .i64 r, .string d, .int .i64 s]
  have HRC : Hid (Calls Tryz.prog 20 #[LV r d s] (w.alloc (.cells #[.int .i64 r, .string d, .int .i64 s] 28)) fun e w' => (∃ v, e = .returned (.tuple #[v, .int .i64 (recR r d s).2.1, .int .i64 (recR r d s).2.2]) ∧ ky.OwnT w' (w.alloc (.cells #[.int .i64 r, .string d, .int .i64 s] 28)).heap.size v (recR r d s).1) ∧ Below (w.alloc (.cells #[.int .i64 r, .string d, .int .i64 s] 28)).heap.size (w.alloc (.cells #[.int .i64 r, .string d, .int .i64 s] 28)) w') := (show Calls _ _ _ _ _ from impl_recs r d s _ c b ca cb ta tb hr hd hs (hE.keep b0))
  have q0 := L0.c0
  have q1 := L0.c1
  have q2 := L0.c2
  have HSM : Hid (∀ x ∈ (recR r d s).1, x.size ≤ 20000) := recR_small r d s
  have HLN : Hid ((recR r d s).1.length ≤ 1048576) := Nat.le_trans (recR_len r d s) hd
  have HOK : Hid (ok r d.size s = false → recR r d s = ([], 0, 1)) := fun h => by unfold recR; rw [h]; rfl
  have HYE : Hid (ok r d.size s = true → recR r d s = recs d) := fun h => by unfold recR; rw [if_pos h]
  have HCD := (recs_le d).2.2
  clear hE hr hs L0
  unfold LV at HRC ⊢
  go_enter Tryz.func8, Tryz.ntmps8
  go_wp2_with fail
  generalize w.alloc _ = w0 at HRC b0 q0 q1 q2 ⊢
  refine HRC.out.mono ?_
  rintro e w1 ⟨⟨v, rfl, hO⟩, hb1⟩
  have hb01 := b0.trans (hb1.mono b0.size)
  have HB1 : Hid (Below w.heap.size w w1) := hb01
  have hTX := ky.own_texts hO
  clear HRC q0 q1 q2 hb1 b0 hO hb01
  cases hk : ok r d.size s with
  | false =>
    rw [HOK.out hk] at hTX ⊢
    obtain ⟨va, vc, rfl, _⟩ := hTX
    have HR : Hid (RlIs r d s [] 0 1) := .inl ⟨hk, rfl, rfl, rfl⟩
    clear hk HCD
    simp only
    go_wp2
    go_ret3
    exact ⟨⟨_, [], nv, 0, 1, rfl, HR.out, ownL_nil _ _ _, smalls_nil, sok_nil⟩, HB1.out⟩
  | true =>
    have hRe := HYE.out hk
    have HSM' := HSM.out
    have HLN' := HLN.out
    rw [hRe] at HSM' HLN' hTX ⊢
    have HRP := replayed_any v (recs d).1 w1 hTX HLN' HSM'
    have HRR : Hid (∀ zs b ys n c, Rp (recs d).1 [] (zs, b) → ((b = false ∧ ys = [] ∧ n = 0 ∧ c = 3) ∨ (b = true ∧ (recs d).2.2 = 8 ∧ ys = [] ∧ n = 0 ∧ c = 8) ∨ (b = true ∧ (recs d).2.2 ≠ 8 ∧ ys = zs ∧ n = (((recs d).1.length : Nat) : Int) ∧ c = 0)) → RlIs r d s ys n c) := fun zs b ys n c h1 h2 => .inr ⟨hk, zs, b, h1, h2⟩
    clear hk hRe HSM' HSM HLN HOK HYE
    obtain ⟨va, vc, rfl, _⟩ := hTX
    generalize (recs d).2.2 = cd at HCD HRR ⊢
    generalize (recs d).2.1 = sz
    generalize (recs d).1 = ts at HRP HRR HLN' ⊢
    have h1c : ((cd : Int) == 1) = false := by rw [beq_eq_false_iff_ne]; omega
    have HRP' : Hid (Calls Tryz.prog 21 #[.slice va ts.length vc] w1 fun e w' => (∃ L ys us b, e = .returned (.tuple #[L, .bool b]) ∧ Rp ts [] (ys, b) ∧ OwnL w' w1.heap.size L ys us ∧ bx.Smalls ys ∧ sok ys = true) ∧ Below w1.heap.size w1 w') := HRP
    clear HRP
    go_wp2_with fail
    refine HRP'.out.mono ?_
    rintro e w2 ⟨⟨L, ys, us, bo, rfl, hR, hOL, hsm, hso⟩, hb2⟩
    obtain ⟨La, Ln, Lc, rfl⟩ := slice_fine (own_fine hOL.1)
    have HO2 : Hid (OwnL w2 w.heap.size (.slice La Ln Lc) ys us ∧ bx.Smalls ys ∧ sok ys = true) := ⟨ownL_le hOL HB1.out.size, hsm, hso⟩
    have HB2 : Hid (Below w.heap.size w w2) := HB1.out.trans (hb2.mono HB1.out.size)
    clear HRP' hOL hsm hso hb2
    cases bo with
    | false =>
      have HR : Hid (RlIs r d s [] 0 3) := HRR.out _ _ _ _ _ hR (.inl ⟨rfl, rfl, rfl, rfl⟩)
      clear hR HRR
      go_wp2
      go_ret3
      exact ⟨⟨_, [], nv, 0, 3, rfl, HR.out, ownL_nil _ _ _, smalls_nil, sok_nil⟩, HB2.out⟩
    | true =>
      by_cases h8 : cd = 8
      · have h8' : ((cd : Int) == 8) = true := by rw [beq_iff_eq]; omega
        have HR : Hid (RlIs r d s [] 0 8) := HRR.out _ _ _ _ _ hR (.inr (.inl ⟨rfl, h8, rfl, rfl, rfl⟩))
        clear hR HRR h8 HCD
        go_wp2
        go_ret3
        exact ⟨⟨_, [], nv, 0, 8, rfl, HR.out, ownL_nil _ _ _, smalls_nil, sok_nil⟩, HB2.out⟩
      · have h8' : ((cd : Int) == 8) = false := by rw [beq_eq_false_iff_ne]; omega
        have HR : Hid (RlIs r d s ys ((ts.length : Nat) : Int) 0) := HRR.out _ _ _ _ _ hR (.inr (.inr ⟨rfl, h8, rfl, rfl, rfl⟩))
        clear hR HRR h8 HCD
        go_wp2
        go_ret3
        exact ⟨⟨_, ys, us, _, 0, rfl, HR.out, HO2.out.1, HO2.out.2.1, HO2.out.2.2⟩, HB2.out⟩

theorem ownL_made (w : World) (base : Nat) (h : base ≤ w.heap.size) : OwnL (w.alloc (.cells #[] 54)) base (.slice (some ⟨w.heap.size, 0, none⟩) 0 0) [] nv := ⟨World.ownsRow_made w #[] 0 h (Nat.zero_le _) rfl, fun j hj => absurd hj (Nat.not_lt_zero _), fun i j _ hj => absurd hj (Nat.not_lt_zero _)⟩
set_option maxHeartbeats 4000000 in
set_option maxRecDepth 100000 in
theorem specRl_any (r : Int) (d : ByteArray) (s : Int) (w : World) (hr : lg.In r) (hd : d.size ≤ 1048576) (hs : lg.In s) :
    Calls Tryz.prog 6 #[LV r d s] w fun e w' => RlRet r d s w.heap.size e w' ∧ Below w.heap.size w w' := by
  have L0 := lg.lies_new w 28 r d s
  have b0 := lg.new_below w 28 #[.int .i64 r, .string d, .int .i64 s]
  have HOK : Hid (∀ W, Calls Tryz.prog 17 #[LV r d s] W fun e w' => e = .returned (.bool (ok r d.size s)) ∧ Below W.heap.size W w') := fun W => spec_ok r d s W hr (Nat.le_trans hd (by unfold maxLen; omega)) hs
  have q0 := L0.c0
  have q1 := L0.c1
  have q2 := L0.c2
  have HL0 : Hid (∀ W, Below (w.alloc (.cells #[.int .i64 r, .string d, .int .i64 s] 28)).heap.size (w.alloc (.cells #[.int .i64 r, .string d, .int .i64 s] 28)) W → LiesL W w.heap.size 28 r d s) := fun W hW => L0.keep hW
  clear hr hs L0
  unfold LV at HOK ⊢
  go_enter Tryz.func6, Tryz.ntmps6
  go_wp2_with fail
  generalize w.alloc _ = w0 at HL0 b0 q0 q1 q2 ⊢
  refine (HOK.out w0).mono ?_
  rintro e w1 ⟨rfl, hb1⟩
  have HB1 : Hid (Below w.heap.size w w1) := b0.trans (hb1.mono b0.size)
  have c1 := (HL0.out w1 hb1).c1
  clear HOK q0 q1 q2 b0
  cases hk : ok r d.size s with
  | false =>
    have HR : Hid (RlIs r d s [] 0 1) := .inl ⟨hk, rfl, rfl, rfl⟩
    have HO : Hid (OwnL (w1.alloc (.cells #[] 54)) w.heap.size (.slice (some ⟨w1.heap.size, 0, none⟩) 0 0) [] nv) := ownL_made w1 _ HB1.out.size
    have HE : Hid (Below w.heap.size w (w1.alloc (.cells #[] 54))) := HB1.out.alloc HB1.out.size _
    clear hk
    go_wp2
    go_ret3
    exact ⟨⟨_, [], nv, 0, 1, rfl, HR.out, HO.out, smalls_nil, sok_nil⟩, HE.out⟩
  | true =>
    have HK : Hid (ok r d.size s = true) := hk
    clear hk
    go_wp2_with fail
    refine (specRp_any d w1 hd).mono ?_
    rintro e w2 ⟨⟨L, ys, vs, n, c, rfl, hR, hB, hF, hsm, hso⟩, hb2⟩
    have HR : Hid (RlIs r d s ys n c) := .inr ⟨HK.out, hR⟩
    have HB2 : Hid (Below w.heap.size w w2) := HB1.out.trans (hb2.mono HB1.out.size)
    have HSO : Hid (Calls Tryz.prog 19 #[L] w2 fun e w' => (∃ L us, e = .returned L ∧ OwnL w' w2.heap.size L ys us) ∧ Below w2.heap.size w2 w') := (show Calls _ _ _ _ _ from spec_own L ys vs w2 hB hF hsm)
    have HX : Hid (bx.Smalls ys ∧ sok ys = true) := ⟨hsm, hso⟩
    obtain ⟨⟨La, Lc, rfl, _⟩, _⟩ := hB
    have hyl := hsm.1
    clear hR hF hsm hso hb2 c1
    go_wp2_with fail
    refine HSO.out.mono ?_
    rintro e w3 ⟨⟨L', us, rfl, hO⟩, hb3⟩
    obtain ⟨La', Ln', Lc', rfl⟩ := slice_fine (own_fine hO.1)
    have HO : Hid (OwnL w3 w.heap.size (.slice La' Ln' Lc') ys us) := ownL_le hO HB2.out.size
    have HB3 : Hid (Below w.heap.size w w3) := HB2.out.trans (hb3.mono HB2.out.size)
    clear HSO hO hb3
    go_wp2
    go_ret3
    exact ⟨⟨_, ys, us, n, c, rfl, HR.out, HO.out, HX.out.1, HX.out.2⟩, HB3.out⟩
end Go.Proofs.YtcnjgmeddkidaaaGreatDoor.rp
