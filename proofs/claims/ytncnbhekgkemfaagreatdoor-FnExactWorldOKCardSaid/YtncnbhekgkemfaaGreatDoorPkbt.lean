/-
  Worlds that are right: both functions.
-/
import Derived.Test.YtncnbhekgkemfaaGreatDoorPkak
import Derived.Test.YtncnbhekgkemfaaGreatDoorPkal
import Derived.Test.YtncnbhekgkemfaaGreatDoorPkap
import Derived.Test.YtncnbhekgkemfaaGreatDoorPkbs
import Derived.Test.YtncnbhekgkemfaaGreatDoorPkab

namespace Go.Proofs.YtncnbhekgkemfaaGreatDoor.cn
open Go.RowKit
open gr
open bx (Bx BoxesAt noB)
open ow (Reads Says)
set_option linter.unusedVariables false

/-- When a world is right. -/
def WK (r : Int) (d : ByteArray) (s : Int) (xs : List Bx) (cs : List Cn) : Prop := cs.length = 4 ∧ (∀ j, j < cs.length → CRight xs (cs.getD j noC)) ∧ eg.Cn r d s xs
theorem few {r : Int} {d : ByteArray} {s : Int} {xs : List Bx} (h : eg.Cn r d s xs) : xs.length ≤ 4 := by
  obtain ⟨_, _, _, zs, _, h, _⟩ := h
  exact (ow.dof h).1

set_option maxHeartbeats 2000000 in
set_option maxRecDepth 100000 in
theorem wrong_any (x : Cn) (v bv : Value) (xs : List Bx) (vs : Nat → Value × Value) (g : Nat) (w : World) (h : Reads .i64 w v x.vw) (hs : Small x) (hB : BoxesAt w bv xs vs) (hxl : xs.length ≤ 1048576) (hg : w.cell? ⟨g, 3, none⟩ = some bv) :
    Calls Tryz.prog 15 #[CV x v, .pointer (some ⟨g, 0, none⟩)] w fun e w' => Says (¬ CRight xs x) e ∧ Below w.heap.size w w' := by
  have b0 := new_below w 52 (cells x v)
  have L0 := lies_new w 52 x v
  have k3 : (w.alloc (.cells (cells x v) 52)).cell? ⟨g, 3, none⟩ = some bv := (b0.cell (p := ⟨g, 3, none⟩) (World.block_lt_of_cell? w _ hg)).trans hg
  have k3' : (w.alloc (.cells (cells x v) 52)).cell? ⟨g, 0 + 3, none⟩ = some bv := by rw [Nat.zero_add]; exact k3
  have HI : Hid (∀ W, Below w.heap.size w W → Calls Tryz.prog 16 #[.agg (cells x v), bv] W fun e w' => Says (CRight xs x) e ∧ Below W.heap.size W w') := fun W hW => impl_right x v bv xs vs W (im.reads_below h hW) hs (bx.boxes_below hB hW) hxl
  obtain ⟨a, cap, rfl, _⟩ := h
  obtain ⟨⟨ba, bc, rfl, _⟩, _⟩ := hB
  clear hs hxl hg
  generalize CRight xs x = C at HI ⊢
  unfold CV
  obtain ⟨kd, bf, st, bx, ro, vw, g1, n, o⟩ := x
  have c0 := L0.c 0
  have c1 := L0.c 1
  have c2 := L0.c 2
  have c3 := L0.c 3
  have c4 := L0.c 4
  have c5 := L0.c 5
  have c6 := L0.c 6
  have c7 := L0.c 7
  have c8 := L0.c 8
  simp only [cells] at *
  go_enter Tryz.func15, Tryz.ntmps15
  go_wp2_with fail
  generalize w.alloc _ = w0 at b0 k3 k3' c0 c1 c2 c3 c4 c5 c6 c7 c8 L0 ⊢
  refine (HI.out w0 b0).mono ?_
  rintro e w1 ⟨⟨b, rfl, hb⟩, b1⟩
  have HB : Hid (b = true ↔ C) := hb
  have b2 := b0.trans (b1.mono b0.size)
  clear hb b1 HI L0 k3 k3' c0 c1 c2 c3 c4 c5 c6 c7 c8
  have HS : Hid (Says (¬ C) (.returned (.bool (!b)))) := ⟨_, rfl, by rw [← HB.out]; cases b <;> simp⟩
  clear HB
  cases b
  · go_wp2
    go_ret
    exact ⟨HS.out, b2⟩
  · go_wp2
    go_ret
    exact ⟨HS.out, b2⟩

set_option maxHeartbeats 4000000 in
set_option maxRecDepth 100000 in
theorem cindex_any (c bv : Value) (cs : List Cn) (us : Nat → Value) (xs : List Bx) (vs : Nat → Value × Value) (g : Nat) (w : World) (h : ConnsAt w c cs us) (hs : Smalls cs) (hB : BoxesAt w bv xs vs) (hxl : xs.length ≤ 1048576) (hg : w.cell? ⟨g, 3, none⟩ = some bv) :
    Calls Tryz.prog 38 #[c, .func (Fn.func 15) #[] #[.pointer (some ⟨g, 0, none⟩)]] w fun e w' => (∃ r : Int, e = .returned (.int .i64 r) ∧ (0 ≤ r ↔ ∃ j, j < cs.length ∧ ¬ CRight xs (cs.getD j noC))) ∧ Below w.heap.size w w' := by
  have HALL : Hid (∀ W, Below w.heap.size w W → ConnsAt W c cs us) := fun W hW => conns_below h hW
  have HWR : Hid (∀ x v W, Below w.heap.size w W → Reads .i64 W v x.vw → Small x → Calls Tryz.prog 15 #[.agg (cells x v), .pointer (some ⟨g, 0, none⟩)] W fun e w' => Says (¬ CRight xs x) e ∧ Below W.heap.size W w') := fun x v W hW h1 h2 => wrong_any x v bv xs vs g W h1 h2 (bx.boxes_below hB hW) hxl ((hW.cell (p := ⟨g, 3, none⟩) (World.block_lt_of_cell? w _ hg)).trans hg)
  obtain ⟨⟨a, cap, rfl, hc⟩, _⟩ := h
  obtain ⟨m, hm⟩ : ∃ m, m = cs.length := ⟨_, rfl⟩
  have HM : Hid (m = cs.length) := hm
  have HH : Hid (cs = [] ∨ ∃ b off, a = some ⟨b, off, none⟩ ∧ ∀ j, j < cs.length → At9 w b (off + j * 9) (cs.getD j noC) (us j)) := hc
  have HS : Hid (Smalls cs) := hs
  have hl : m ≤ 1048576 := by rw [hm]; exact hs.1
  rw [← hm] at HALL ⊢
  clear hc hm hs hB hxl hg
  go_enter Tryz.func38, Tryz.ntmps38
  go_wp2
  go_loopw [8] (fun i wr => ∃ k : Nat, k ≤ m ∧ i = .int .i64 k ∧ (∀ j, j < k → CRight xs (cs.getD j noC)) ∧ Below w.heap.size w wr) (fun i _ => m - (intOf i).toNat)
  case atStart => exact ⟨0, Nat.zero_le _, rfl, fun j hj => absurd hj (Nat.not_lt_zero _), Below.refl _ _⟩
  case round =>
    obtain ⟨k, hk, rfl, hno, hbw⟩ := hrel
    have HNO : Hid (∀ j, j < k → CRight xs (cs.getD j noC)) := hno
    clear hno
    by_cases hlt : k < m
    · have hka : k < cs.length := by rw [← HM.out]; exact hlt
      have HKA : Hid (k < cs.length) := hka
      rcases HH.out with e | ⟨b, off, rfl, hcells⟩
      · rw [e] at hka; simp at hka
      have hat := (hcells k hka).keep hbw (hcells k hka).lt
      have hr1 := (HALL.out wr hbw).2 k hka
      have hsm := HS.out.2 k hka
      clear hcells hka
      generalize hx : cs.getD k noC = x at hat hr1 hsm
      have HX : Hid (cs.getD k noC = x) := hx
      clear hx
      generalize us k = q at hat hr1
      have HW1 : Hid (Calls Tryz.prog 15 #[.agg (cells x q), .pointer (some ⟨g, 0, none⟩)] wr fun e w' => Says (¬ CRight xs x) e ∧ Below wr.heap.size wr w') := HWR.out x q wr hbw hr1 hsm
      have c0 := hat 0 (by omega)
      have c1 := hat 1 (by omega)
      have c2 := hat 2 (by omega)
      have c3 := hat 3 (by omega)
      have c4 := hat 4 (by omega)
      have c5 := hat 5 (by omega)
      have c6 := hat 6 (by omega)
      have c7 := hat 7 (by omega)
      have c8 := hat 8 (by omega)
      obtain ⟨a2, cap2, rfl, _⟩ := hr1
      generalize hcc : CRight xs x = C at HW1
      have HCC : Hid (CRight xs x = C) := hcc
      clear hcc hat hsm
      obtain ⟨kd, bf, st, bx, ro, vw, g1, n, o⟩ := x
      simp only [cells, Nat.add_zero] at c0 c1 c2 c3 c4 c5 c6 c7 c8 HW1
      have hlt' : (k : Int) < (m : Int) := by omega
      go_wp2_with fail
      refine HW1.out.mono ?_
      rintro e w2 ⟨⟨bb, rfl, hbb⟩, hb2⟩
      have b2 := hbw.trans (hb2.mono hbw.size)
      have HBB : Hid (bb = true ↔ ¬ CRight xs (cs.getD k noC)) := (show _ ↔ _ by rw [hbb, HX.out, HCC.out])
      clear hb2 hbw hbb HW1 HCC HX c0 c1 c2 c3 c4 c5 c6 c7 c8
      cases bb
      · have HE : Hid (∀ j, j < k + 1 → CRight xs (cs.getD j noC)) := fun j hj => by
          by_cases e : j = k
          · subst e
            exact Classical.byContradiction fun y => by have := HBB.out.2 y; cases this
          · exact HNO.out j (by omega)
        clear HBB
        go_wp2
        go_roundw
        case rel => exact ⟨k + 1, by omega, by go_num, HE.out, b2⟩
        case measure => simp [intOf]; omega
      · have HE : Hid (0 ≤ (k : Int) ↔ ∃ j, j < cs.length ∧ ¬ CRight xs (cs.getD j noC)) := ⟨fun _ => ⟨k, HKA.out, HBB.out.1 rfl⟩, fun _ => by omega⟩
        have HEm : Hid (0 ≤ (k : Int) ↔ ∃ j, j < m ∧ ¬ CRight xs (cs.getD j noC)) := (show _ ↔ _ by rw [HM.out]; exact HE.out)
        clear HBB HE
        go_wp2
        go_ret
        exact ⟨⟨k, rfl, HEm.out⟩, b2⟩
    · have HE : Hid (0 ≤ (-1 : Int) ↔ ∃ j, j < m ∧ ¬ CRight xs (cs.getD j noC)) := ⟨fun y => by omega, fun ⟨j, hj, y⟩ => absurd (HNO.out j (by omega)) y⟩
      go_wp2
      go_ret
      exact ⟨⟨-1, rfl, HE.out⟩, hbw⟩

set_option maxHeartbeats 2000000 in
set_option maxRecDepth 100000 in
theorem ccontains_any (c bv : Value) (cs : List Cn) (us : Nat → Value) (xs : List Bx) (vs : Nat → Value × Value) (g : Nat) (w : World) (h : ConnsAt w c cs us) (hs : Smalls cs) (hB : BoxesAt w bv xs vs) (hxl : xs.length ≤ 1048576) (hg : w.cell? ⟨g, 3, none⟩ = some bv) :
    Calls Tryz.prog 17 #[c, .func (Fn.func 15) #[] #[.pointer (some ⟨g, 0, none⟩)]] w fun e w' => Says (∃ j, j < cs.length ∧ ¬ CRight xs (cs.getD j noC)) e ∧ Below w.heap.size w w' := by
  have HC : Hid (Calls Tryz.prog 38 #[c, .func (Fn.func 15) #[] #[.pointer (some ⟨g, 0, none⟩)]] w fun e w' => (∃ r : Int, e = .returned (.int .i64 r) ∧ (0 ≤ r ↔ ∃ j, j < cs.length ∧ ¬ CRight xs (cs.getD j noC))) ∧ Below w.heap.size w w') := cindex_any c bv cs us xs vs g w h hs hB hxl hg
  obtain ⟨⟨a, cap, rfl, _⟩, _⟩ := h
  clear hs hB hxl hg
  generalize (∃ j, j < cs.length ∧ ¬ CRight xs (cs.getD j noC)) = B at HC ⊢
  go_enter Tryz.func17, Tryz.ntmps17
  go_wp2_with fail
  refine HC.out.mono ?_
  rintro e w2 ⟨⟨r, rfl, hr⟩, hb2⟩
  have HR : Hid (Says B (.returned (.bool (decide (0 ≤ r))))) := ⟨_, rfl, by rw [decide_eq_true_iff]; exact hr⟩
  clear hr HC
  go_wp2
  all_goals (go_ret; exact ⟨HR.out, hb2⟩)

set_option maxHeartbeats 4000000 in
set_option maxRecDepth 100000 in
theorem impl_world (r : Int) (d : ByteArray) (s : Int) (v c : Value) (xs : List Bx) (vs : Nat → Value × Value) (cs : List Cn) (us : Nat → Value) (w : World) (ec eb : Addr) (ca cb : Array Value) (ta tb : TypeId) (hr : lg.In r) (hd : d.size ≤ 1048576) (hs : lg.In s) (hE : lg.Errs w ec eb ca cb ta tb) (hB : BoxesAt w v xs vs) (hsm : bx.Smalls xs) (hc : ConnsAt w c cs us) (hcs : Smalls cs) :
    Calls Tryz.prog 7 #[WV r d s v c] w fun e w' => Says (WK r d s xs cs) e ∧ Below w.heap.size w w' := by
  have b0 := new_below w 38 #[.int .i64 r, .string d, .int .i64 s, v, c]
  have L0 := liesW_new w 38 r d s v c
  have HEN : Hid (∀ W, Below w.heap.size w W → Calls Tryz.prog 18 #[.agg #[.int .i64 r, .string d, .int .i64 s, v]] W fun e w' => eg.Er r d s xs e ∧ Below W.heap.size W w') := fun W hW => eg.implEk_any r d s v xs vs W ec eb ca cb ta tb hr hd hs (hE.keep hW) (bx.boxes_below hB hW) hsm
  have HCO : Hid (∀ W g, Below w.heap.size w W → W.cell? ⟨g, 3, none⟩ = some v → Calls Tryz.prog 17 #[c, .func (Fn.func 15) #[] #[.pointer (some ⟨g, 0, none⟩)]] W fun e w' => Says (∃ j, j < cs.length ∧ ¬ CRight xs (cs.getD j noC)) e ∧ Below W.heap.size W w') := fun W g hW hg => ccontains_any c v cs us xs vs g W (conns_below hc hW) hcs (bx.boxes_below hB hW) hsm.1 hg
  obtain ⟨⟨a, cap, rfl, _⟩, _⟩ := hB
  obtain ⟨⟨a2, cap2, rfl, _⟩, _⟩ := hc
  have HWK : Hid (WK r d s xs cs ↔ (cs.length = 4 ∧ (∀ j, j < cs.length → CRight xs (cs.getD j noC)) ∧ eg.Cn r d s xs)) := Iff.rfl
  generalize WK r d s xs cs = C at HWK ⊢
  obtain ⟨m, hm⟩ : ∃ m, m = cs.length := ⟨_, rfl⟩
  rw [← hm] at L0 b0 HCO HWK ⊢
  clear hr hd hs hE hsm hcs hm
  unfold WV
  by_cases h4 : m = 4
  rotate_left
  · have q4 : ((m : Int) == 4) = false := beq_eq_false_iff_ne.2 (by omega)
    have HN : Hid (¬ C) := fun y => h4 (HWK.out.1 y).1
    clear h4 HWK HCO HEN L0
    go_enter Tryz.func7, Tryz.ntmps7
    go_wp2
    go_ret
    exact ⟨ow.says_no HN.out, b0⟩
  have q4 : ((m : Int) == 4) = true := beq_iff_eq.2 (by omega)
  have H4 : Hid (m = 4) := h4
  clear h4
  have c3 : (w.alloc (.cells #[.int .i64 r, .string d, .int .i64 s, .slice a xs.length cap, .slice a2 m cap2] 38)).cell? ⟨w.heap.size, 3, none⟩ = some (.slice a xs.length cap) := by have := L0.c3; rwa [Nat.zero_add] at this
  go_enter Tryz.func7, Tryz.ntmps7
  go_wp2_with fail
  generalize w.alloc _ = w0 at b0 L0 c3 ⊢
  refine (HCO.out w0 w.heap.size b0 c3).mono ?_
  rintro e w1 ⟨⟨bb, rfl, hbb⟩, hb1⟩
  have HBB : Hid (bb = true ↔ ∃ j, j < m ∧ ¬ CRight xs (cs.getD j noC)) := hbb
  have b1 := b0.trans (hb1.mono b0.size)
  have L1 := L0.keep hb1
  have c0 := L1.c0
  have c1 := L1.c1
  have c2 := L1.c2
  have c4 := L1.c3
  clear hbb b0 hb1 L0 L1 c3 HCO
  cases bb
  rotate_left
  · have HN : Hid (¬ C) := fun y => by
      obtain ⟨j, hj, hn⟩ := HBB.out.1 rfl
      exact hn ((HWK.out.1 y).2.1 j hj)
    clear HWK HBB HEN
    go_wp2
    go_ret
    exact ⟨ow.says_no HN.out, b1⟩
  have HAL : Hid (∀ j, j < m → CRight xs (cs.getD j noC)) := fun j hj => Classical.byContradiction fun y => by
    have := HBB.out.2 ⟨j, hj, y⟩
    cases this
  clear HBB
  go_wp2_with fail
  refine (HEN.out w1 b1).mono ?_
  rintro e w2 ⟨⟨o, rfl, ho⟩, hb2⟩
  have b2 := b1.trans (hb2.mono b1.size)
  have HS : Hid (Says C (.returned (.bool o))) := ⟨o, rfl, (show (o = true ↔ eg.Cn r d s xs) from ho).trans ⟨fun y => HWK.out.2 ⟨H4.out, HAL.out, y⟩, fun y => (HWK.out.1 y).2.2⟩⟩
  clear ho hb2 b1 c0 c1 c2 c4 HEN HWK HAL
  go_wp2
  all_goals (go_ret; exact ⟨HS.out, b2⟩)

set_option maxHeartbeats 8000000 in
set_option maxRecDepth 100000 in
theorem spec_world (r : Int) (d : ByteArray) (s : Int) (v c : Value) (xs : List Bx) (vs : Nat → Value × Value) (cs : List Cn) (us : Nat → Value) (w : World) (hr : lg.In r) (hd : d.size ≤ 1048576) (hs : lg.In s) (hB : BoxesAt w v xs vs) (hsm : bx.Smalls xs) (hcv : ∀ a n c, v = .slice a n c → n ≤ c) (hcu : ∀ j, j < xs.length → ∀ a n c, (vs j).2 = .slice a n c → n ≤ c) (hc : ConnsAt w c cs us) (hcs : Smalls cs) :
    Calls Tryz.prog 5 #[WV r d s v c] w fun e w' => Says (WK r d s xs cs) e ∧ Below w.heap.size w w' := by
  have b0 := new_below w 38 #[.int .i64 r, .string d, .int .i64 s, v, c]
  have L0 := liesW_new w 38 r d s v c
  have HEN : Hid (∀ W, Below w.heap.size w W → Calls Tryz.prog 11 #[.agg #[.int .i64 r, .string d, .int .i64 s, v]] W fun e w' => eg.Er r d s xs e ∧ Below W.heap.size W w') := fun W hW => eg.specEk_any r d s v xs vs W hr hd hs (bx.boxes_below hB hW) hsm hcv hcu
  have HRT : Hid (∀ x q W, Below w.heap.size w W → Reads .i64 W q x.vw → Small x → Calls Tryz.prog 12 #[.agg (cells x q), v] W fun e w' => Says (CRight xs x) e ∧ Below W.heap.size W w') := fun x q W hW h1 h2 => spec_right x q v xs vs W h1 h2 (bx.boxes_below hB hW) hsm.1
  have HALL : Hid (∀ W, Below w.heap.size w W → ConnsAt W c cs us) := fun W hW => conns_below hc hW
  obtain ⟨⟨a, cap, rfl, _⟩, _⟩ := hB
  obtain ⟨⟨a2, cap2, rfl, hcc⟩, _⟩ := hc
  have HH : Hid (cs = [] ∨ ∃ b off, a2 = some ⟨b, off, none⟩ ∧ ∀ j, j < cs.length → At9 w b (off + j * 9) (cs.getD j noC) (us j)) := hcc
  have HS : Hid (Smalls cs) := hcs
  have HWK : Hid (WK r d s xs cs ↔ (cs.length = 4 ∧ (∀ j, j < cs.length → CRight xs (cs.getD j noC)) ∧ eg.Cn r d s xs)) := Iff.rfl
  generalize WK r d s xs cs = C at HWK ⊢
  obtain ⟨m, hm⟩ : ∃ m, m = cs.length := ⟨_, rfl⟩
  have HM : Hid (m = cs.length) := hm
  rw [← hm] at L0 b0 HALL HWK ⊢
  obtain ⟨nb, hnb⟩ : ∃ nb, nb = xs.length := ⟨_, rfl⟩
  have HNB : Hid (nb = xs.length) := hnb
  rw [← hnb] at L0 b0 HEN HRT ⊢
  clear hr hd hs hsm hcs hm hcc hcv hcu hnb
  unfold WV
  by_cases h4 : m = 4
  rotate_left
  · have q4 : ((m : Int) != 4) = true := bne_iff_ne.2 (by omega)
    have HN : Hid (¬ C) := fun y => h4 (HWK.out.1 y).1
    clear h4 HWK HRT HEN L0 HALL
    go_enter Tryz.func5, Tryz.ntmps5
    go_wp2
    go_ret
    exact ⟨ow.says_no HN.out, b0⟩
  have q4 : ((m : Int) != 4) = false := by rw [bne_eq_false_iff_eq]; omega
  have H4 : Hid (m = 4) := h4
  clear h4
  by_cases h5 : 4096 < nb
  · have q5 : (4096 : Int) < (nb : Int) := by omega
    have HN : Hid (¬ C) := fun y => by have := few (HWK.out.1 y).2.2; have := HNB.out; omega
    clear h5 HWK HRT HEN L0 HALL
    go_enter Tryz.func5, Tryz.ntmps5
    go_wp2
    go_ret
    exact ⟨ow.says_no HN.out, b0⟩
  have q5 : ¬ (4096 : Int) < (nb : Int) := by omega
  clear h5
  go_enter Tryz.func5, Tryz.ntmps5
  go_wp2_with fail
  generalize w.alloc _ = w0 at b0 L0 ⊢
  refine (HEN.out w0 b0).mono ?_
  rintro e w1 ⟨⟨o, rfl, ho⟩, hb1⟩
  have b1 := b0.trans (hb1.mono b0.size)
  have HL : Hid (∀ W, Below w1.heap.size w1 W → LiesW W w.heap.size 38 r d s (.slice a nb cap) (.slice a2 m cap2)) := fun W hW => (L0.keep hb1).keep hW
  have HO : Hid (o = true ↔ eg.Cn r d s xs) := ho
  have HB1 : Hid (Below w.heap.size w w1) := b1
  clear ho b0 hb1 L0 HEN b1
  cases o
  · have HN : Hid (¬ C) := fun y => by have := HO.out.2 (HWK.out.1 y).2.2; cases this
    clear HWK HO HRT HALL
    go_wp2
    go_ret
    exact ⟨ow.says_no HN.out, HB1.out⟩
  have HCN : Hid (eg.Cn r d s xs) := HO.out.1 rfl
  clear HO
  go_wp2_with fail
  go_loopw [3] (fun i wr => ∃ k : Nat, k ≤ 4 ∧ i = .int .i64 k ∧ (∀ j, j < k → CRight xs (cs.getD j noC)) ∧ Below w1.heap.size w1 wr) (fun i _ => 4 - (intOf i).toNat)
  case atStart => exact ⟨0, by omega, rfl, fun j hj => absurd hj (Nat.not_lt_zero _), Below.refl _ _⟩
  case round =>
    obtain ⟨k, hk, rfl, hno, hbw⟩ := hrel
    have HNO : Hid (∀ j, j < k → CRight xs (cs.getD j noC)) := hno
    have HBW : Hid (Below w.heap.size w wr) := HB1.out.trans (hbw.mono HB1.out.size)
    clear hno
    by_cases hlt : k < 4
    · have hka : k < cs.length := by rw [← HM.out, H4.out]; exact hlt
      have HKA : Hid (k < m) := (show k < m by rw [H4.out]; exact hlt)
      rcases HH.out with e | ⟨b, off, rfl, hcells⟩
      · rw [e] at hka; simp at hka
      have hat := (hcells k hka).keep HBW.out (hcells k hka).lt
      have hr1 := (HALL.out wr HBW.out).2 k hka
      have hsm := HS.out.2 k hka
      have L1 := HL.out wr hbw
      have e3 := L1.c3
      have e4 := L1.c4
      have e3' : wr.cell? ⟨w.heap.size, 3, none⟩ = some (.slice a nb cap) := by have := e3; rwa [Nat.zero_add] at this
      have e4' : wr.cell? ⟨w.heap.size, 4, none⟩ = some (.slice (some ⟨b, off, none⟩) m cap2) := by have := e4; rwa [Nat.zero_add] at this
      clear hcells hka L1
      generalize hx : cs.getD k noC = x at hat hr1 hsm
      have HX : Hid (cs.getD k noC = x) := hx
      clear hx
      generalize us k = q at hat hr1
      obtain ⟨bb, hbb⟩ : ∃ bb : Bool, bb = true ↔ CRight xs x := by
        by_cases h : CRight xs x
        · exact ⟨true, by simp [h]⟩
        · exact ⟨false, by simp [h]⟩
      have HBB : Hid (bb = true ↔ CRight xs (cs.getD k noC)) := (show _ ↔ _ by rw [hbb, HX.out])
      have HR1 : Hid (∀ y : Ext wr, Calls Tryz.prog 12 #[.agg (cells x q), .slice a nb cap] (gw y) fun e w' => e = .returned (.bool bb) ∧ Below (gw y).heap.size (gw y) w') := fun y => (HRT.out x q (gw y) (HBW.out.trans ((gw_below y).mono HBW.out.size)) (im.reads_below hr1 (gw_below y)) hsm).mono fun e w' ⟨⟨b2, he, hb2⟩, hb⟩ => ⟨by rw [he]; congr 2; exact Bool.eq_iff_iff.2 (hb2.trans hbb.symm), hb⟩
      have c0 := hat 0 (by omega)
      have c1 := hat 1 (by omega)
      have c2 := hat 2 (by omega)
      have c3 := hat 3 (by omega)
      have c4 := hat 4 (by omega)
      have c5 := hat 5 (by omega)
      have c6 := hat 6 (by omega)
      have c7 := hat 7 (by omega)
      have c8 := hat 8 (by omega)
      obtain ⟨a3, cap3, rfl, _⟩ := hr1
      clear hat hsm hbb HX
      obtain ⟨kd, bf, st, bx, ro, vw, g1, n, o⟩ := x
      simp only [cells, Nat.add_zero] at c0 c1 c2 c3 c4 c5 c6 c7 c8 HR1
      have hlt' : (k : Int) < (m : Int) := by have := HKA.out; omega
      have hlt4 : (k : Int) < 4 := by omega
      have hk0 : (0 : Int) ≤ (k : Int) := by omega
      go_wp2_with fail
      have ne := ext_some wr
      have e3 := fun y : Ext wr => gw_cell y e3
      have e4 := fun y : Ext wr => gw_cell y e4
      have e3' := fun y : Ext wr => gw_cell y e3'
      have e4' := fun y : Ext wr => gw_cell y e4'
      have c0 := fun y : Ext wr => gw_cell y c0
      have c1 := fun y : Ext wr => gw_cell y c1
      have c2 := fun y : Ext wr => gw_cell y c2
      have c3 := fun y : Ext wr => gw_cell y c3
      have c4 := fun y : Ext wr => gw_cell y c4
      have c5 := fun y : Ext wr => gw_cell y c5
      have c6 := fun y : Ext wr => gw_cell y c6
      have c7 := fun y : Ext wr => gw_cell y c7
      have c8 := fun y : Ext wr => gw_cell y c8
      refine region_lit (by kernel_rfl) (by kernel_rfl) ?_
      repeat (go_big_quiet_step ((go_at_call 12; exact grow_of (HR1.out _))))
      refine wpQuiet_nil ?_
      rintro W' ⟨y, rfl⟩
      have b2 := hbw.trans ((gw_below y).mono hbw.size)
      generalize gw y = W' at b2 ⊢
      clear hbw e3 e4 e3' e4' c0 c1 c2 c3 c4 c5 c6 c7 c8 HR1
      cases bb
      · have HN : Hid (¬ C) := fun y => by have := HBB.out.2 ((HWK.out.1 y).2.1 k HKA.out); cases this
        have B2 : Hid (Below w.heap.size w W') := HB1.out.trans (b2.mono HB1.out.size)
        clear HBB
        go_wp2
        go_ret
        exact ⟨ow.says_no HN.out, B2.out⟩
      · have HE : Hid (∀ j, j < k + 1 → CRight xs (cs.getD j noC)) := fun j hj => by
          by_cases e : j = k
          · subst e; exact HBB.out.1 rfl
          · exact HNO.out j (by omega)
        clear HBB
        go_wp2
        go_roundw
        case rel => exact ⟨k + 1, by omega, by go_num, HE.out, b2⟩
        case measure => simp [intOf]; omega
    · have HY : Hid C := HWK.out.2 ⟨H4.out, fun j hj => HNO.out j (by have := H4.out; omega), HCN.out⟩
      have hk4 : ¬ (k : Int) < 4 := by omega
      go_wp2
      go_ret
      exact ⟨ow.says_yes HY.out, HBW.out⟩
end Go.Proofs.YtncnbhekgkemfaaGreatDoor.cn
