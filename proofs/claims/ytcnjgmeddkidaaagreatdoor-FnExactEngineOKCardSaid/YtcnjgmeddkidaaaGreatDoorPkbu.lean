/-
  The specification's l10Replay.
-/
import Derived.Test.YtcnjgmeddkidaaaGreatDoorPkbs

namespace Go.Proofs.YtcnjgmeddkidaaaGreatDoor.rp
open Go.RowKit
open st gr bx mx bl wi ml sa lg
set_option linter.unusedVariables false

/-- What a log's text makes: the boxes, how many mutations, a code. -/
def Rr (t : ByteArray) (ys : List Bx) (n c : Int) : Prop :=
  ∃ zs b, Rp (recs t).1 [] (zs, b) ∧ ((b = false ∧ ys = [] ∧ n = 0 ∧ c = 3) ∨ (b = true ∧ (recs t).2.2 = 8 ∧ ys = [] ∧ n = 0 ∧ c = 8) ∨ (b = true ∧ (recs t).2.2 ≠ 8 ∧ ys = zs ∧ n = ((recs t).1.length : Nat) ∧ c = 0))
theorem rr_one {t : ByteArray} {ys ys' : List Bx} {n n' c c' : Int} (h : Rr t ys n c) (h' : Rr t ys' n' c') : ys = ys' ∧ n = n' ∧ c = c' := by
  obtain ⟨zs, b, hR, h⟩ := h
  obtain ⟨zs', b', hR', h'⟩ := h'
  have e := rp_one sok_nil hR hR'
  cases e
  rcases h with ⟨e1, rfl, rfl, rfl⟩ | ⟨e1, e2, rfl, rfl, rfl⟩ | ⟨e1, e2, rfl, rfl, rfl⟩ <;>
  rcases h' with ⟨f1, rfl, rfl, rfl⟩ | ⟨f1, f2, rfl, rfl, rfl⟩ | ⟨f1, f2, rfl, rfl, rfl⟩ <;>
  first | exact ⟨rfl, rfl, rfl⟩ | exact absurd (e1.symm.trans f1) (by decide) | exact absurd e2 f2 | exact absurd f2 e2

theorem boxes_nil (w : World) (vs : Nat → Value × Value) : BoxesAt (w.alloc (.cells #[] 54)) (.slice (some ⟨w.heap.size, 0, none⟩) 0 0) [] vs := ownL_boxes (⟨World.ownsRow_made w #[] 0 (Nat.le_refl _) (Nat.zero_le _) rfl, fun j hj => absurd hj (Nat.not_lt_zero _), fun i j _ hj => absurd hj (Nat.not_lt_zero _)⟩ : OwnL _ w.heap.size _ [] vs)
theorem fines_nil (vs : Nat → Value × Value) : Fines [] vs := fun j hj => absurd hj (Nat.not_lt_zero _)
def nv : Nat → Value × Value := fun _ => (.slice none 0 0, .slice none 0 0)

set_option maxHeartbeats 4000000 in
set_option maxRecDepth 100000 in
theorem specRp_any (T : ByteArray) (w : World) (hT : T.size ≤ 1048576) :
    Calls Tryz.prog 18 #[.string T] w fun e w' => (∃ L ys vs n c, e = .returned (.tuple #[L, .int .i64 n, .int .i64 c]) ∧ Rr T ys n c ∧ BoxesAt w' L ys vs ∧ Fines ys vs ∧ bx.Smalls ys ∧ sok ys = true) ∧ Below w.heap.size w w' := by
  go_enter Tryz.func18, Tryz.ntmps18
  go_wp2_with fail
  refine (l08Records_any T w hT).mono ?_
  rintro e w1 ⟨⟨v, rfl, hOT⟩, hb1⟩
  obtain ⟨ts, hts⟩ : ∃ ts, ts = (recs T).1 := ⟨_, rfl⟩
  obtain ⟨cd, hcd⟩ : ∃ cd, cd = (recs T).2.2 := ⟨_, rfl⟩
  have HS : Hid (∀ x ∈ ts, x.size ≤ 20000) := by rw [hts]; exact recs_small T
  have HRR : Hid (∀ zs b ys n c, Rp ts [] (zs, b) → ((b = false ∧ ys = [] ∧ n = 0 ∧ c = 3) ∨ (b = true ∧ cd = 8 ∧ ys = [] ∧ n = 0 ∧ c = 8) ∨ (b = true ∧ cd ≠ 8 ∧ ys = zs ∧ n = ((ts.length : Nat) : Int) ∧ c = 0)) → Rr T ys n c) := fun zs b ys n c h1 h2 => ⟨zs, b, by rw [← hts]; exact h1, by rw [← hcd, ← hts]; exact h2⟩
  have htl : ts.length ≤ T.size := by rw [hts]; exact (recs_le T).2.1
  rw [← hts] at hOT
  rw [← hcd]
  clear hts hcd
  obtain ⟨n, hn⟩ : ∃ n, n = ts.length := ⟨_, rfl⟩
  have HN : Hid (n = ts.length) := hn
  have hTX := ky.own_texts hOT
  obtain ⟨a, cap, rfl, hc⟩ := hTX
  have HC : Hid (ts = [] ∨ ∃ b off, a = some ⟨b, off, none⟩ ∧ ∀ j, j < ts.length → w1.cell? ⟨b, off + j, none⟩ = some (.string (ts.getD j ky.nt))) := hc
  have hnl : n ≤ 1048576 := by omega
  rw [← hn]
  have HB1 : Hid (Below w.heap.size w w1) := hb1
  have bb1 : Below w1.heap.size w1 (w1.alloc (.cells #[] 54)) := (Below.refl _ _).alloc (Nat.le_refl _) _
  have hbx := boxes_nil w1 nv
  clear hn hc hOT hb1 htl
  generalize (recs T).2.1 = sz
  go_wp2_with fail
  generalize w1.alloc _ = w1' at bb1 hbx ⊢
  go_loopw [8, 9] (fun L i wr => ∃ (k : Nat) (xs : List Bx) (vs : Nat → Value × Value), k ≤ n ∧ i = .int .i64 k ∧ BoxesAt wr L xs vs ∧ Fines xs vs ∧ bx.Smalls xs ∧ sok xs = true ∧ Below w1.heap.size w1 wr ∧ Hid (Go ts k xs)) (fun _ i _ => n - (intOf i).toNat)
  case atStart => exact ⟨0, [], nv, Nat.zero_le _, rfl, hbx, fines_nil _, smalls_nil, sok_nil, bb1, go_start ts⟩
  case round =>
    clear hbx bb1
    obtain ⟨k, xs, vs, hk, rfl, hB, hF, hsm, hso, hbw, HG⟩ := hrel
    have HBX : Hid (BoxesAt wr u8 xs vs ∧ Fines xs vs) := ⟨hB, hF⟩
    obtain ⟨⟨La, Lc, rfl, _⟩, _⟩ := hB
    have hBs := hbw.size
    have HX : Hid (bx.Smalls xs ∧ sok xs = true) := ⟨hsm, hso⟩
    have HBW : Hid (Below w.heap.size w wr) := HB1.out.trans (hbw.mono HB1.out.size)
    have hxl := hsm.1
    clear hF hsm hso
    by_cases hlt : k < n
    · have hlt' : (k : Int) < (n : Int) := by omega
      have hk0 : (0 : Int) ≤ (k : Int) := by omega
      have HKL : Hid (k < ts.length) := by rw [← HN.out]; exact hlt
      obtain ⟨t, ht⟩ : ∃ t, ts.getD k ky.nt = t := ⟨_, rfl⟩
      have hts : t.size ≤ 20000 := by
        rw [← ht, List.getD_eq_getElem?_getD, List.getElem?_eq_getElem HKL.out]
        exact HS.out _ (List.getElem_mem _)
      rcases HC.out with e | ⟨b, off, rfl, hcells⟩
      · have := HKL.out; rw [e] at this; simp at this
      have c0 : wr.cell? ⟨b, off + k, none⟩ = some (.string t) := by
        have := hcells k HKL.out
        rw [ht] at this
        exact (hbw.cell (p := ⟨b, off + k, none⟩) (World.block_lt_of_cell? w1 _ this)).trans this
      have HT : Hid (ts.getD k ky.nt = t) := ht
      clear hcells ht
      go_wp2_with fail
      refine (rm.read_any t wr (by omega)).mono ?_
      rintro e w2 ⟨⟨M, u, rfl, hxm, hru⟩, hb2⟩
      have hbw2 := hbw.trans (hb2.mono hBs)
      have HBW2 : Hid (Below w1.heap.size w1 w2 ∧ Below wr.heap.size wr w2) := ⟨hbw2, hb2⟩
      have HE2 : Hid (Below w.heap.size w w2) := HB1.out.trans (hbw2.mono HB1.out.size)
      obtain ⟨ua, uc, rfl, _⟩ := rm.rows_at hru
      have HIT : Hid (it.AttrsAt w2 (.slice ua M.ps.length uc) M.ps) := rm.rows_at hru
      clear c0 hbw hbw2 hb2 hru
      cases hr : rm.rok t with
      | false =>
        have HR : Hid (Rr T [] 0 3) := HRR.out _ _ _ _ _ (go_bad HG.out HKL.out HT.out hr) (.inl ⟨rfl, rfl, rfl, rfl⟩)
        have HE : Hid (Below w.heap.size w (w2.alloc (.cells #[.int .i64 M.k, .int .i64 M.u, .int .i64 M.m, .int .i64 M.f, .string M.b, .slice ua M.ps.length uc] 68))) := HE2.out.alloc HE2.out.size _
        unfold mu.MV
        clear hr hxm HG
        have hz3 : (w2.alloc (.cells #[.int .i64 M.k, .int .i64 M.u, .int .i64 M.m, .int .i64 M.f, .string M.b, .slice ua M.ps.length uc] 68)).heap.size = w2.heap.size + 1 := by simp
        go_wp2_with fail
        generalize w2.alloc _ = w3 at HE hz3 ⊢
        have hbn := boxes_nil w3 nv
        rw [hz3] at hbn
        have HE4 : Hid (Below w.heap.size w (w3.alloc (.cells #[] 54))) := HE.out.alloc HE.out.size _
        go_wp2
        go_ret3
        exact ⟨⟨_, [], nv, 0, 3, rfl, HR.out, hbn, fines_nil _, smalls_nil, sok_nil⟩, HE4.out⟩
      | true =>
        have hM : M = mt t := hxm hr
        have HR : Hid (rm.rok t = true) := hr
        have hsm := mt_small t
        have hmo := mt_ok hr
        rw [← hM] at hsm hmo
        have HM : Hid (M = mt t) := hM
        clear hr hxm hM
        have hb3 := mu.new_below w2 68 #[.int .i64 M.k, .int .i64 M.u, .int .i64 M.m, .int .i64 M.f, .string M.b, .slice ua M.ps.length uc]
        have L3 := mu.lies_new w2 68 M (.slice ua M.ps.length uc)
        have hb23 := HBW2.out.2.trans (hb3.mono HBW2.out.2.size)
        have HMU : Hid (Calls Tryz.prog 37 #[.slice La xs.length Lc, mu.MV M (.slice ua M.ps.length uc)] (w2.alloc (.cells #[.int .i64 M.k, .int .i64 M.u, .int .i64 M.m, .int .i64 M.f, .string M.b, .slice ua M.ps.length uc] 68)) fun e w' => Ls (Am xs M) e w' ∧ Below (w2.alloc (.cells #[.int .i64 M.k, .int .i64 M.u, .int .i64 M.m, .int .i64 M.f, .string M.b, .slice ua M.ps.length uc] 68)).heap.size (w2.alloc (.cells #[.int .i64 M.k, .int .i64 M.u, .int .i64 M.m, .int .i64 M.f, .string M.b, .slice ua M.ps.length uc] 68)) w') := (show Calls _ _ _ _ _ from apply_any _ xs vs M _ _ (boxes_below HBX.out.1 hb23) HBX.out.2 HX.out.1 (it.at_below HIT.out hb3) hsm HX.out.2 hmo)
        have HBW3 : Hid (Below w1.heap.size w1 (w2.alloc (.cells #[.int .i64 M.k, .int .i64 M.u, .int .i64 M.m, .int .i64 M.f, .string M.b, .slice ua M.ps.length uc] 68))) := HBW2.out.1.alloc HBW2.out.1.size _
        have q0 := L3.c0
        have q1 := L3.c1
        have q2 := L3.c2
        have q3 := L3.c3
        have q4 := L3.c4
        have q5 := L3.c5
        have HMS : Hid (mu.Small M ∧ mu.mok M = true) := ⟨hsm, hmo⟩
        clear hb3 L3 HIT hsm hmo hb23
        unfold mu.MV at HMU ⊢
        go_wp2_with fail
        generalize w2.heap.size = P at q0 q1 q2 q3 q4 q5 ⊢
        generalize w2.alloc _ = w3 at HMU HBW3 q0 q1 q2 q3 q4 q5 ⊢
        refine HMU.out.mono ?_
        rintro e w4 ⟨⟨L', ys, us', c, rfl, hA, hB', hF'⟩, hb4⟩
        have HO4 : Hid (BoxesAt w4 L' ys us' ∧ Fines ys us') := ⟨hB', hF'⟩
        obtain ⟨⟨La', Lc', rfl, _⟩, _⟩ := hB'
        have HB4 : Hid (Below w1.heap.size w1 w4) := HBW3.out.trans (hb4.mono HBW3.out.size)
        have HE4 : Hid (Below w.heap.size w w4) := HB1.out.trans (HB4.out.mono HB1.out.size)
        have HA : Hid (Am xs (mt t) ys c) := by rw [← HM.out]; exact hA
        have HYS : Hid (bx.Smalls ys) := am_small HX.out.1 HMS.out.1 HX.out.2 HMS.out.2 hA
        clear HMU HBW3 q0 q1 q2 q3 q4 q5 hF' hb4 hA
        by_cases hc0 : c = 0
        · subst hc0
          have HG2 : Hid (Go ts (k + 1) ys) := go_next HG.out HKL.out HT.out HR.out HA.out
          have HSY : Hid (sok ys = true) := am_ok HX.out.2 (by rw [← HM.out]; exact HMS.out.2 : mu.mok (mt t) = true) HA.out
          clear HG HA
          go_wp2
          go_roundw
          case rel => exact ⟨k + 1, ys, us', by omega, by go_num, HO4.out.1, HO4.out.2, HYS.out, HSY.out, HB4.out, HG2⟩
          case measure => simp [intOf]; omega
        · have hc1 : (c != 0) = true := by rw [bne_iff_ne]; exact hc0
          have HRR2 : Hid (Rr T [] 0 3) := HRR.out _ _ _ _ _ (go_code HG.out HKL.out HT.out HR.out HA.out hc0) (.inl ⟨rfl, rfl, rfl, rfl⟩)
          have hbn := boxes_nil w4 nv
          have HE5 : Hid (Below w.heap.size w (w4.alloc (.cells #[] 54))) := HE4.out.alloc HE4.out.size _
          clear HG HA hc0
          go_wp2
          go_ret3
          exact ⟨⟨_, [], nv, 0, 3, rfl, HRR2.out, hbn, fines_nil _, smalls_nil, sok_nil⟩, HE5.out⟩
    · have hlt' : (n : Int) ≤ (k : Int) := by omega
      have HR : Hid (Rp ts [] (xs, true)) := go_end HG.out (by rw [← HN.out]; omega)
      clear HG hbw
      by_cases h8 : cd = 8
      · have h8' : ((cd : Int) == 8) = true := by rw [beq_iff_eq]; omega
        have HR2 : Hid (Rr T [] 0 8) := HRR.out _ _ _ _ _ HR.out (.inr (.inl ⟨rfl, h8, rfl, rfl, rfl⟩))
        have hbn := boxes_nil wr nv
        have HE5 : Hid (Below w.heap.size w (wr.alloc (.cells #[] 54))) := HBW.out.alloc HBW.out.size _
        subst h8
        go_wp2
        go_ret3
        exact ⟨⟨_, [], nv, 0, 8, rfl, HR2.out, hbn, fines_nil _, smalls_nil, sok_nil⟩, HE5.out⟩
      · have h8' : ((cd : Int) == 8) = false := by rw [beq_eq_false_iff_ne]; omega
        have HR2 : Hid (Rr T xs (n : Int) 0) := HRR.out _ _ _ _ _ HR.out (.inr (.inr ⟨rfl, h8, rfl, by rw [HN.out], rfl⟩))
        clear h8
        go_wp2
        go_ret3
        exact ⟨⟨_, xs, vs, _, 0, rfl, HR2.out, HBX.out.1, HBX.out.2, HX.out.1, HX.out.2⟩, HBW.out⟩
end Go.Proofs.YtcnjgmeddkidaaaGreatDoor.rp
