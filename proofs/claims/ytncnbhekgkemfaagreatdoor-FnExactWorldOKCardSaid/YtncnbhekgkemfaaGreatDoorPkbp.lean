/-
  What the records of a log make: each is a mutation, done to the boxes that those ahead of it made.
  The program's replayed.
  The specification's l10Replay.
  Both ReplayLog functions.
-/
import Derived.Test.YtncnbhekgkemfaaGreatDoorPkbg
import Derived.Test.YtncnbhekgkemfaaGreatDoorPkbk
import Derived.Test.YtncnbhekgkemfaaGreatDoorPkbm
import Derived.Test.YtncnbhekgkemfaaGreatDoorPkbo

namespace Go.Proofs.YtncnbhekgkemfaaGreatDoor.ml
end Go.Proofs.YtncnbhekgkemfaaGreatDoor.ml
namespace Go.Proofs.YtncnbhekgkemfaaGreatDoor.rp
open Go.RowKit
open st gr bx mx bl wi ml sa lg
set_option linter.unusedVariables false

theorem scan_small (t : ByteArray) : ∀ f p acc, (∀ x ∈ acc, x.size ≤ 20000) → ∀ x ∈ (scan t f p acc).1, x.size ≤ 20000
  | 0, p, acc, h => h
  | f + 1, p, acc, h => by
    rw [scan]
    split
    · exact h
    · split
      · rename_i h0 h1
        refine scan_small t f _ _ fun x hx => ?_
        rcases List.mem_append.1 hx with hx | hx
        · exact h x hx
        · rw [List.mem_singleton] at hx
          subst hx
          exact (next_ok h1).2.2
      · exact h
theorem recs_small (t : ByteArray) : ∀ x ∈ (recs t).1, x.size ≤ 20000 := scan_small t _ _ _ (fun x hx => absurd hx List.not_mem_nil)
theorem recR_small (r : Int) (d : ByteArray) (s : Int) : ∀ x ∈ (recR r d s).1, x.size ≤ 20000 := by
  unfold recR
  split
  · exact recs_small d
  · exact fun x hx => absurd hx List.not_mem_nil
/-- The mutation that bytes say. -/
def mt (t : ByteArray) : mu.Mu := rm.mtn (t, false)
theorem mt_small (t : ByteArray) : mu.Small (mt t) := rm.mtn_small _
theorem mt_ok {t : ByteArray} (h : rm.rok t = true) : mu.mok (mt t) = true := by
  unfold rm.rok at h
  simp only [Bool.and_eq_true] at h
  exact h.2.2
theorem mk_self (t : ByteArray) : (⟨t.data.toList.toArray⟩ : ByteArray) = t := by cases t; simp
theorem rm_yes {t : ByteArray} (hs : t.size ≤ 20000) (h : rm.rok t = true) : rm.rmx t.data.toList = mt t ∧ rm.rmc t.data.toList = 0 := by
  have := rm.rm_ok (l := t.data.toList) (by rw [← Lib.size_eq]; exact hs) (by rw [mk_self]; exact h)
  rw [mk_self] at this
  exact this
theorem rm_no {t : ByteArray} (hs : t.size ≤ 20000) (h : rm.rok t = false) : rm.rmx t.data.toList = rm.noM ∧ rm.rmc t.data.toList = 3 :=
  rm.rm_form (by rw [← Lib.size_eq]; omega) (by rw [mk_self, h]; simp)
/-- What records make of boxes: the boxes, and whether all could be done. -/
def Rp : List ByteArray → List Bx → List Bx × Bool → Prop
  | [], xs, r => r = (xs, true)
  | t :: ts, xs, r => (rm.rok t = false ∧ r = ([], false)) ∨ (rm.rok t = true ∧ ∃ ys c, Am xs (mt t) ys c ∧ ((c ≠ 0 ∧ r = ([], false)) ∨ (c = 0 ∧ Rp ts ys r)))
theorem rising_sok {xs : List Bx} (h : sok xs = true) : ∀ k, k < xs.length → Rising (xs.getD k noB).ms := fun k hk => rising_of (bok_iff.1 ((sok_of h).2 k hk).1).2.2.2.1.2
theorem rp_one : ∀ {ts : List ByteArray} {xs : List Bx} {r r' : List Bx × Bool}, sok xs = true → Rp ts xs r → Rp ts xs r' → r = r'
  | [], xs, r, r', _, h, h' => by rw [h, h']
  | t :: ts, xs, r, r', hs, h, h' => by
    rcases h with ⟨h1, e⟩ | ⟨h1, ys, c, hA, hc⟩
    · rcases h' with ⟨_, e'⟩ | ⟨h1', _⟩
      · rw [e, e']
      · rw [h1] at h1'; cases h1'
    · rcases h' with ⟨h1', _⟩ | ⟨_, ys', c', hA', hc'⟩
      · rw [h1] at h1'; cases h1'
      · obtain ⟨rfl, rfl⟩ := am_one (rising_sok hs) hA hA'
        rcases hc with ⟨c0, e⟩ | ⟨rfl, hR⟩
        · rcases hc' with ⟨_, e'⟩ | ⟨c1, _⟩
          · rw [e, e']
          · exact absurd c1 c0
        · rcases hc' with ⟨c1, _⟩ | ⟨_, hR'⟩
          · exact absurd rfl c1
          · exact rp_one (am_ok hs (mt_ok h1) hA) hR hR'
theorem drop_getD {ts : List ByteArray} {k : Nat} (h : k < ts.length) : ts.drop k = ts.getD k ky.nt :: ts.drop (k + 1) := by
  rw [List.drop_eq_getElem_cons h]
  simp [List.getD_eq_getElem?_getD, h]
/-- What is made of the records from k on is what is made of all. -/
def Go (ts : List ByteArray) (k : Nat) (xs : List Bx) : Prop := ∀ r, Rp (ts.drop k) xs r → Rp ts [] r
theorem go_start (ts : List ByteArray) : Go ts 0 [] := fun r h => h
theorem go_end {ts : List ByteArray} {xs : List Bx} {k : Nat} (h : Go ts k xs) (hk : ts.length ≤ k) : Rp ts [] (xs, true) := h _ (by rw [List.drop_eq_nil_of_le hk]; rfl)
theorem go_bad {ts : List ByteArray} {xs : List Bx} {k : Nat} {t : ByteArray} (h : Go ts k xs) (hk : k < ts.length) (ht : ts.getD k ky.nt = t) (hr : rm.rok t = false) : Rp ts [] ([], false) := h _ (by rw [drop_getD hk, ht]; exact .inl ⟨hr, rfl⟩)
theorem go_code {ts : List ByteArray} {xs ys : List Bx} {k : Nat} {t : ByteArray} {c : Int} (h : Go ts k xs) (hk : k < ts.length) (ht : ts.getD k ky.nt = t) (hr : rm.rok t = true) (hA : Am xs (mt t) ys c) (hc : c ≠ 0) : Rp ts [] ([], false) := h _ (by rw [drop_getD hk, ht]; exact .inr ⟨hr, ys, c, hA, .inl ⟨hc, rfl⟩⟩)
theorem go_next {ts : List ByteArray} {xs ys : List Bx} {k : Nat} {t : ByteArray} (h : Go ts k xs) (hk : k < ts.length) (ht : ts.getD k ky.nt = t) (hr : rm.rok t = true) (hA : Am xs (mt t) ys 0) : Go ts (k + 1) ys := fun r hR => h r (by rw [drop_getD hk, ht]; exact .inr ⟨hr, ys, 0, hA, .inr ⟨rfl, hR⟩⟩)
theorem sok_nil : sok [] = true := sok_yes (Nat.zero_le _) (fun j hj => absurd hj (Nat.not_lt_zero _))
theorem smalls_nil : bx.Smalls [] := ⟨Nat.zero_le _, fun j hj => absurd hj (Nat.not_lt_zero _)⟩
theorem ownL_nil (w : World) (base : Nat) (us : Nat → Value × Value) : OwnL w base (.slice none 0 0) [] us := ⟨World.ownsRow_nil _ _ _ _, fun j hj => absurd hj (Nat.not_lt_zero _), fun i j _ hj => absurd hj (Nat.not_lt_zero _)⟩
/-- A mutation's own row of items. -/
theorem items_by {w : World} {base N : Nat} {u : Value} {ps : List it.Pr} (h : rm.Rows2 w base u ps) : ItemsBy w N u ps := by
  have ha := rm.rows_at h
  obtain ⟨a, cap, rfl, h2⟩ := ha
  refine ⟨a, cap, rfl, ?_⟩
  rcases h2 with h2 | ⟨b, off, rfl, h2⟩
  · exact .inl h2
  · refine .inr ⟨b, off, rfl, .inr ?_, h2⟩
    rcases h.2 with ⟨e, _⟩ | ⟨g, c, cur, e, _, hh, _⟩
    · cases e
    · cases e
      exact ⟨_, _, hh⟩
end Go.Proofs.YtncnbhekgkemfaaGreatDoor.rp

namespace Go.Proofs.YtncnbhekgkemfaaGreatDoor.rp
open Go.RowKit
open st gr bx mx bl wi ml sa lg
set_option linter.unusedVariables false

set_option maxHeartbeats 4000000 in
set_option maxRecDepth 100000 in
theorem replayed_any (v : Value) (ts : List ByteArray) (w : World) (h : ky.TextsAt w v ts) (hl : ts.length ≤ 1048576) (hs : ∀ x ∈ ts, x.size ≤ 20000) :
    Calls Tryz.prog 40 #[v] w fun e w' => (∃ L ys us b, e = .returned (.tuple #[L, .bool b]) ∧ Rp ts [] (ys, b) ∧ OwnL w' w.heap.size L ys us ∧ bx.Smalls ys ∧ sok ys = true) ∧ Below w.heap.size w w' := by
  obtain ⟨n, hn⟩ : ∃ n, n = ts.length := ⟨_, rfl⟩
  have HN : Hid (n = ts.length) := hn
  obtain ⟨a, cap, rfl, hc⟩ := h
  have HC : Hid (ts = [] ∨ ∃ b off, a = some ⟨b, off, none⟩ ∧ ∀ j, j < ts.length → w.cell? ⟨b, off + j, none⟩ = some (.string (ts.getD j ky.nt))) := hc
  have HS : Hid (∀ x ∈ ts, x.size ≤ 20000) := hs
  rw [← hn] at hl ⊢
  clear hn hc hs
  go_enter Tryz.func40, Tryz.ntmps40
  go_wp2_with fail
  go_loopw [4, 11] (fun L i wr => ∃ (k : Nat) (xs : List Bx) (us : Nat → Value × Value), k ≤ n ∧ i = .int .i64 k ∧ OwnL wr w.heap.size L xs us ∧ bx.Smalls xs ∧ sok xs = true ∧ Below w.heap.size w wr ∧ Hid (Go ts k xs)) (fun _ i _ => n - (intOf i).toNat)
  case atStart => exact ⟨0, [], fun _ => (.slice none 0 0, .slice none 0 0), Nat.zero_le _, rfl, ownL_nil _ _ _, smalls_nil, sok_nil, Below.refl _ _, go_start ts⟩
  case round =>
    obtain ⟨k, xs, us, hk, rfl, hO, hsm, hso, hbw, HG⟩ := hrel
    obtain ⟨La, Ln, Lc, rfl⟩ := slice_fine (own_fine hO.1)
    have hBs := hbw.size
    have HO : Hid (OwnL wr w.heap.size (.slice La Ln Lc) xs us) := hO
    have HX : Hid (bx.Smalls xs ∧ sok xs = true) := ⟨hsm, hso⟩
    clear hO hsm hso
    by_cases hlt : k < n
    · have hlt' : (k : Int) < (n : Int) := by omega
      have hk0 : (0 : Int) ≤ (k : Int) := by omega
      have HKL : Hid (k < ts.length) := by rw [← HN.out]; exact hlt
      obtain ⟨t, ht⟩ : ∃ t, ts.getD k ky.nt = t := ⟨_, rfl⟩
      have hts : t.size ≤ 20000 := by
        rw [← ht, List.getD_eq_getElem?_getD, List.getElem?_eq_getElem HKL.out]
        exact HS.out _ (List.getElem_mem _)
      rcases HC.out with e | ⟨b, off, rfl, hcells⟩
      · have := HKL.out; rw [e] at this; simp at this
      have c0 : wr.cell? ⟨b, off + k, none⟩ = some (.string t) := by
        have := hcells k HKL.out
        rw [ht] at this
        exact (hbw.cell (p := ⟨b, off + k, none⟩) (World.block_lt_of_cell? w _ this)).trans this
      have HT : Hid (ts.getD k ky.nt = t) := ht
      clear hcells ht
      have hcv := Lib.run_convert_string_bytes (P := Tryz.prog) wr 9 124 5 t Tryz.underlying9 Tryz.underlying124 Tryz.underlying5
      have hlc := ow.lies_conv wr 5 t
      have hbc := ow.below_conv wr 5 t
      generalize grownCap wr t.size 0 5 = gc at hcv hlc
      generalize Lib.bytesWorld wr 5 t = W1 at hcv hlc hbc
      have HRM : Hid (Calls Tryz.prog 66 #[.slice (some ⟨wr.heap.size, 0, none⟩) t.size gc] W1 fun e w' => rm.RmRet t.data.toList W1.heap.size e w' ∧ Below W1.heap.size W1 w') := (show Calls _ _ _ _ _ from rm.impl_rm _ t.data.toList W1 (ow.reads_lies hlc) (by rw [← Lib.size_eq]; omega))
      clear hlc
      go_wp2_with fail
      refine HRM.out.mono ?_
      rintro e w2 ⟨⟨u, rfl, hru⟩, hb2⟩
      have hb12 := hbc.trans (hb2.mono hbc.size)
      have HO2 : Hid (OwnL w2 w.heap.size (.slice La Ln Lc) xs us) := ownL_below HO.out hb12
      have hbw2 := hbw.trans (hb12.mono hBs)
      have hBs2 := hbw2.size
      have HBW2 : Hid (Below w.heap.size w w2) := hbw2
      clear HRM c0 hcv hbc hb2 hb12 HO hbw hbw2
      cases hr : rm.rok t with
      | false =>
        obtain ⟨e1, e2⟩ := rm_no hts hr
        rw [e1] at hru
        have HR : Hid (Rp ts [] ([], false)) := go_bad HG.out HKL.out HT.out hr
        obtain ⟨ua, uc, rfl, _⟩ := rm.rows_at hru
        rw [e1, e2]
        unfold mu.MV rm.noM
        clear hr e1 e2 hru HG
        have HE : Hid (Below w.heap.size w (w2.alloc (.cells #[.int .i64 0, .int .i64 0, .int .i64 0, .int .i64 0, .string ⟨#[]⟩, .slice ua 0 uc] 104))) := HBW2.out.alloc hBs2 _
        go_wp2
        go_ret2
        exact ⟨⟨_, [], fun _ => (.slice none 0 0, .slice none 0 0), false, rfl, HR.out, ownL_nil _ _ _, smalls_nil, sok_nil⟩, HE.out⟩
      | true =>
        obtain ⟨e1, e2⟩ := rm_yes hts hr
        rw [e1] at hru
        have HR : Hid (rm.rok t = true) := hr
        have HIT : Hid (rm.Rows2 w2 W1.heap.size u (mt t).ps) := hru
        have hsm := mt_small t
        have hmo := mt_ok hr
        rw [e1, e2]
        obtain ⟨ua, uc, rfl, _⟩ := rm.rows_at hru
        generalize hM : mt t = M at HIT hsm hmo ⊢
        have HM : Hid (mt t = M) := hM
        clear hr e1 e2 hru hM
        have hb3 := mu.new_below w2 104 #[.int .i64 M.k, .int .i64 M.u, .int .i64 M.m, .int .i64 M.f, .string M.b, .slice ua M.ps.length uc]
        have L3 := mu.lies_new w2 104 M (.slice ua M.ps.length uc)
        have HMU : Hid (Calls Tryz.prog 67 #[.slice La Ln Lc, mu.MV M (.slice ua M.ps.length uc)] (w2.alloc (.cells #[.int .i64 M.k, .int .i64 M.u, .int .i64 M.m, .int .i64 M.f, .string M.b, .slice ua M.ps.length uc] 104)) fun e w' => (∃ L' ys us' c, e = .returned (.tuple #[L', .int .i64 c]) ∧ Am xs M ys c ∧ OwnL w' w.heap.size L' ys us') ∧ Below w.heap.size (w2.alloc (.cells #[.int .i64 M.k, .int .i64 M.u, .int .i64 M.m, .int .i64 M.f, .string M.b, .slice ua M.ps.length uc] 104)) w') := (show Calls _ _ _ _ _ from mutated_any _ w.heap.size xs us M _ _ (ownL_below HO2.out hb3) (Nat.le_trans hBs2 hb3.size) HX.out.1 (by_keep (items_by HIT.out) hb3) hsm HX.out.2 hmo)
        have HBW3 : Hid (Below w.heap.size w (w2.alloc (.cells #[.int .i64 M.k, .int .i64 M.u, .int .i64 M.m, .int .i64 M.f, .string M.b, .slice ua M.ps.length uc] 104))) := HBW2.out.alloc hBs2 _
        have q0 := L3.c0
        have q1 := L3.c1
        have q2 := L3.c2
        have q3 := L3.c3
        have q4 := L3.c4
        have q5 := L3.c5
        have HMS : Hid (mu.Small M ∧ mu.mok M = true) := ⟨hsm, hmo⟩
        clear hb3 L3 HO2 HIT hsm hmo
        unfold mu.MV at HMU ⊢
        go_wp2_with fail
        generalize hP : w2.heap.size = P at q0 q1 q2 q3 q4 q5 hBs2 ⊢
        clear hP
        generalize w2.alloc _ = w3 at HMU HBW3 q0 q1 q2 q3 q4 q5 ⊢
        refine HMU.out.mono ?_
        rintro e w4 ⟨⟨L', ys, us', c, rfl, hA, hO'⟩, hb4⟩
        obtain ⟨La', Ln', Lc', rfl⟩ := slice_fine (own_fine hO'.1)
        have HO4 : Hid (OwnL w4 w.heap.size (.slice La' Ln' Lc') ys us') := hO'
        have HB4 : Hid (Below w.heap.size w w4) := HBW3.out.trans hb4
        have HA : Hid (Am xs (mt t) ys c) := by rw [HM.out]; exact hA
        have HYS : Hid (bx.Smalls ys) := am_small HX.out.1 HMS.out.1 HX.out.2 HMS.out.2 hA
        clear HMU HBW3 q0 q1 q2 q3 q4 q5 hO' hb4 hA
        by_cases hc0 : c = 0
        · subst hc0
          have HG2 : Hid (Go ts (k + 1) ys) := go_next HG.out HKL.out HT.out HR.out HA.out
          have HSY : Hid (sok ys = true) := am_ok HX.out.2 (by rw [HM.out]; exact HMS.out.2 : mu.mok (mt t) = true) HA.out
          clear HG HA
          go_wp2
          go_roundw
          case rel => exact ⟨k + 1, ys, us', by omega, by go_num, HO4.out, HYS.out, HSY.out, HB4.out, HG2⟩
          case measure => simp [intOf]; omega
        · have hc1 : (c != 0) = true := by rw [bne_iff_ne]; exact hc0
          have HRR : Hid (Rp ts [] ([], false)) := go_code HG.out HKL.out HT.out HR.out HA.out hc0
          clear HG HA hc0
          go_wp2
          go_ret2
          exact ⟨⟨_, [], fun _ => (.slice none 0 0, .slice none 0 0), false, rfl, HRR.out, ownL_nil _ _ _, smalls_nil, sok_nil⟩, HB4.out⟩
    · have hlt' : (n : Int) ≤ (k : Int) := by omega
      have HR : Hid (Rp ts [] (xs, true)) := go_end HG.out (by rw [← HN.out]; omega)
      have HB : Hid (Below w.heap.size w wr) := hbw
      clear HG hbw
      go_wp2
      go_ret2
      exact ⟨⟨_, xs, us, true, rfl, HR.out, HO.out, HX.out.1, HX.out.2⟩, HB.out⟩
end Go.Proofs.YtncnbhekgkemfaaGreatDoor.rp

namespace Go.Proofs.YtncnbhekgkemfaaGreatDoor.rp
open Go.RowKit
open st gr bx mx bl wi ml sa lg
set_option linter.unusedVariables false

/-- What a log's text makes: the boxes, how many mutations, a code. -/
def Rr (t : ByteArray) (ys : List Bx) (n c : Int) : Prop :=
  ∃ zs b, Rp (recs t).1 [] (zs, b) ∧ ((b = false ∧ ys = [] ∧ n = 0 ∧ c = 3) ∨ (b = true ∧ (recs t).2.2 = 8 ∧ ys = [] ∧ n = 0 ∧ c = 8) ∨ (b = true ∧ (recs t).2.2 ≠ 8 ∧ ys = zs ∧ n = ((recs t).1.length : Nat) ∧ c = 0))
theorem rr_one {t : ByteArray} {ys ys' : List Bx} {n n' c c' : Int} (h : Rr t ys n c) (h' : Rr t ys' n' c') : ys = ys' ∧ n = n' ∧ c = c' := by
  obtain ⟨zs, b, hR, h⟩ := h
  obtain ⟨zs', b', hR', h'⟩ := h'
  have e := rp_one sok_nil hR hR'
  cases e
  rcases h with ⟨e1, rfl, rfl, rfl⟩ | ⟨e1, e2, rfl, rfl, rfl⟩ | ⟨e1, e2, rfl, rfl, rfl⟩ <;>
  rcases h' with ⟨f1, rfl, rfl, rfl⟩ | ⟨f1, f2, rfl, rfl, rfl⟩ | ⟨f1, f2, rfl, rfl, rfl⟩ <;>
  first | exact ⟨rfl, rfl, rfl⟩ | exact absurd (e1.symm.trans f1) (by decide) | exact absurd e2 f2 | exact absurd f2 e2

theorem boxes_nil (w : World) (vs : Nat → Value × Value) : BoxesAt (w.alloc (.cells #[] 99)) (.slice (some ⟨w.heap.size, 0, none⟩) 0 0) [] vs := ownL_boxes (⟨World.ownsRow_made w #[] 0 (Nat.le_refl _) (Nat.zero_le _) rfl, fun j hj => absurd hj (Nat.not_lt_zero _), fun i j _ hj => absurd hj (Nat.not_lt_zero _)⟩ : OwnL _ w.heap.size _ [] vs)
theorem fines_nil (vs : Nat → Value × Value) : Fines [] vs := fun j hj => absurd hj (Nat.not_lt_zero _)
def nv : Nat → Value × Value := fun _ => (.slice none 0 0, .slice none 0 0)

set_option maxHeartbeats 4000000 in
set_option maxRecDepth 100000 in
theorem specRp_any (T : ByteArray) (w : World) (hT : T.size ≤ 1048576) :
    Calls Tryz.prog 27 #[.string T] w fun e w' => (∃ L ys vs n c, e = .returned (.tuple #[L, .int .i64 n, .int .i64 c]) ∧ Rr T ys n c ∧ BoxesAt w' L ys vs ∧ Fines ys vs ∧ bx.Smalls ys ∧ sok ys = true) ∧ Below w.heap.size w w' := by
  go_enter Tryz.func27, Tryz.ntmps27
  go_wp2_with fail
  refine (l08Records_any T w hT).mono ?_
  rintro e w1 ⟨⟨v, rfl, hOT⟩, hb1⟩
  obtain ⟨ts, hts⟩ : ∃ ts, ts = (recs T).1 := ⟨_, rfl⟩
  obtain ⟨cd, hcd⟩ : ∃ cd, cd = (recs T).2.2 := ⟨_, rfl⟩
  have HS : Hid (∀ x ∈ ts, x.size ≤ 20000) := by rw [hts]; exact recs_small T
  have HRR : Hid (∀ zs b ys n c, Rp ts [] (zs, b) → ((b = false ∧ ys = [] ∧ n = 0 ∧ c = 3) ∨ (b = true ∧ cd = 8 ∧ ys = [] ∧ n = 0 ∧ c = 8) ∨ (b = true ∧ cd ≠ 8 ∧ ys = zs ∧ n = ((ts.length : Nat) : Int) ∧ c = 0)) → Rr T ys n c) := fun zs b ys n c h1 h2 => ⟨zs, b, by rw [← hts]; exact h1, by rw [← hcd, ← hts]; exact h2⟩
  have htl : ts.length ≤ T.size := by rw [hts]; exact (recs_le T).2.1
  rw [← hts] at hOT
  rw [← hcd]
  clear hts hcd
  obtain ⟨n, hn⟩ : ∃ n, n = ts.length := ⟨_, rfl⟩
  have HN : Hid (n = ts.length) := hn
  have hTX := ky.own_texts hOT
  obtain ⟨a, cap, rfl, hc⟩ := hTX
  have HC : Hid (ts = [] ∨ ∃ b off, a = some ⟨b, off, none⟩ ∧ ∀ j, j < ts.length → w1.cell? ⟨b, off + j, none⟩ = some (.string (ts.getD j ky.nt))) := hc
  have hnl : n ≤ 1048576 := by omega
  rw [← hn]
  have HB1 : Hid (Below w.heap.size w w1) := hb1
  have bb1 : Below w1.heap.size w1 (w1.alloc (.cells #[] 99)) := (Below.refl _ _).alloc (Nat.le_refl _) _
  have hbx := boxes_nil w1 nv
  clear hn hc hOT hb1 htl
  generalize (recs T).2.1 = sz
  go_wp2_with fail
  generalize w1.alloc _ = w1' at bb1 hbx ⊢
  go_loopw [8, 9] (fun L i wr => ∃ (k : Nat) (xs : List Bx) (vs : Nat → Value × Value), k ≤ n ∧ i = .int .i64 k ∧ BoxesAt wr L xs vs ∧ Fines xs vs ∧ bx.Smalls xs ∧ sok xs = true ∧ Below w1.heap.size w1 wr ∧ Hid (Go ts k xs)) (fun _ i _ => n - (intOf i).toNat)
  case atStart => exact ⟨0, [], nv, Nat.zero_le _, rfl, hbx, fines_nil _, smalls_nil, sok_nil, bb1, go_start ts⟩
  case round =>
    clear hbx bb1
    obtain ⟨k, xs, vs, hk, rfl, hB, hF, hsm, hso, hbw, HG⟩ := hrel
    have HBX : Hid (BoxesAt wr u8 xs vs ∧ Fines xs vs) := ⟨hB, hF⟩
    obtain ⟨⟨La, Lc, rfl, _⟩, _⟩ := hB
    have hBs := hbw.size
    have HX : Hid (bx.Smalls xs ∧ sok xs = true) := ⟨hsm, hso⟩
    have HBW : Hid (Below w.heap.size w wr) := HB1.out.trans (hbw.mono HB1.out.size)
    have hxl := hsm.1
    clear hF hsm hso
    by_cases hlt : k < n
    · have hlt' : (k : Int) < (n : Int) := by omega
      have hk0 : (0 : Int) ≤ (k : Int) := by omega
      have HKL : Hid (k < ts.length) := by rw [← HN.out]; exact hlt
      obtain ⟨t, ht⟩ : ∃ t, ts.getD k ky.nt = t := ⟨_, rfl⟩
      have hts : t.size ≤ 20000 := by
        rw [← ht, List.getD_eq_getElem?_getD, List.getElem?_eq_getElem HKL.out]
        exact HS.out _ (List.getElem_mem _)
      rcases HC.out with e | ⟨b, off, rfl, hcells⟩
      · have := HKL.out; rw [e] at this; simp at this
      have c0 : wr.cell? ⟨b, off + k, none⟩ = some (.string t) := by
        have := hcells k HKL.out
        rw [ht] at this
        exact (hbw.cell (p := ⟨b, off + k, none⟩) (World.block_lt_of_cell? w1 _ this)).trans this
      have HT : Hid (ts.getD k ky.nt = t) := ht
      clear hcells ht
      go_wp2_with fail
      refine (rm.read_any t wr (by omega)).mono ?_
      rintro e w2 ⟨⟨M, u, rfl, hxm, hru⟩, hb2⟩
      have hbw2 := hbw.trans (hb2.mono hBs)
      have HBW2 : Hid (Below w1.heap.size w1 w2 ∧ Below wr.heap.size wr w2) := ⟨hbw2, hb2⟩
      have HE2 : Hid (Below w.heap.size w w2) := HB1.out.trans (hbw2.mono HB1.out.size)
      obtain ⟨ua, uc, rfl, _⟩ := rm.rows_at hru
      have HIT : Hid (it.AttrsAt w2 (.slice ua M.ps.length uc) M.ps) := rm.rows_at hru
      clear c0 hbw hbw2 hb2 hru
      cases hr : rm.rok t with
      | false =>
        have HR : Hid (Rr T [] 0 3) := HRR.out _ _ _ _ _ (go_bad HG.out HKL.out HT.out hr) (.inl ⟨rfl, rfl, rfl, rfl⟩)
        have HE : Hid (Below w.heap.size w (w2.alloc (.cells #[.int .i64 M.k, .int .i64 M.u, .int .i64 M.m, .int .i64 M.f, .string M.b, .slice ua M.ps.length uc] 104))) := HE2.out.alloc HE2.out.size _
        unfold mu.MV
        clear hr hxm HG
        have hz3 : (w2.alloc (.cells #[.int .i64 M.k, .int .i64 M.u, .int .i64 M.m, .int .i64 M.f, .string M.b, .slice ua M.ps.length uc] 104)).heap.size = w2.heap.size + 1 := by simp
        go_wp2_with fail
        generalize w2.alloc _ = w3 at HE hz3 ⊢
        have hbn := boxes_nil w3 nv
        rw [hz3] at hbn
        have HE4 : Hid (Below w.heap.size w (w3.alloc (.cells #[] 99))) := HE.out.alloc HE.out.size _
        go_wp2
        go_ret3
        exact ⟨⟨_, [], nv, 0, 3, rfl, HR.out, hbn, fines_nil _, smalls_nil, sok_nil⟩, HE4.out⟩
      | true =>
        have hM : M = mt t := hxm hr
        have HR : Hid (rm.rok t = true) := hr
        have hsm := mt_small t
        have hmo := mt_ok hr
        rw [← hM] at hsm hmo
        have HM : Hid (M = mt t) := hM
        clear hr hxm hM
        have hb3 := mu.new_below w2 104 #[.int .i64 M.k, .int .i64 M.u, .int .i64 M.m, .int .i64 M.f, .string M.b, .slice ua M.ps.length uc]
        have L3 := mu.lies_new w2 104 M (.slice ua M.ps.length uc)
        have hb23 := HBW2.out.2.trans (hb3.mono HBW2.out.2.size)
        have HMU : Hid (Calls Tryz.prog 53 #[.slice La xs.length Lc, mu.MV M (.slice ua M.ps.length uc)] (w2.alloc (.cells #[.int .i64 M.k, .int .i64 M.u, .int .i64 M.m, .int .i64 M.f, .string M.b, .slice ua M.ps.length uc] 104)) fun e w' => Ls (Am xs M) e w' ∧ Below (w2.alloc (.cells #[.int .i64 M.k, .int .i64 M.u, .int .i64 M.m, .int .i64 M.f, .string M.b, .slice ua M.ps.length uc] 104)).heap.size (w2.alloc (.cells #[.int .i64 M.k, .int .i64 M.u, .int .i64 M.m, .int .i64 M.f, .string M.b, .slice ua M.ps.length uc] 104)) w') := (show Calls _ _ _ _ _ from apply_any _ xs vs M _ _ (boxes_below HBX.out.1 hb23) HBX.out.2 HX.out.1 (it.at_below HIT.out hb3) hsm HX.out.2 hmo)
        have HBW3 : Hid (Below w1.heap.size w1 (w2.alloc (.cells #[.int .i64 M.k, .int .i64 M.u, .int .i64 M.m, .int .i64 M.f, .string M.b, .slice ua M.ps.length uc] 104))) := HBW2.out.1.alloc HBW2.out.1.size _
        have q0 := L3.c0
        have q1 := L3.c1
        have q2 := L3.c2
        have q3 := L3.c3
        have q4 := L3.c4
        have q5 := L3.c5
        have HMS : Hid (mu.Small M ∧ mu.mok M = true) := ⟨hsm, hmo⟩
        clear hb3 L3 HIT hsm hmo hb23
        unfold mu.MV at HMU ⊢
        go_wp2_with fail
        generalize w2.heap.size = P at q0 q1 q2 q3 q4 q5 ⊢
        generalize w2.alloc _ = w3 at HMU HBW3 q0 q1 q2 q3 q4 q5 ⊢
        refine HMU.out.mono ?_
        rintro e w4 ⟨⟨L', ys, us', c, rfl, hA, hB', hF'⟩, hb4⟩
        have HO4 : Hid (BoxesAt w4 L' ys us' ∧ Fines ys us') := ⟨hB', hF'⟩
        obtain ⟨⟨La', Lc', rfl, _⟩, _⟩ := hB'
        have HB4 : Hid (Below w1.heap.size w1 w4) := HBW3.out.trans (hb4.mono HBW3.out.size)
        have HE4 : Hid (Below w.heap.size w w4) := HB1.out.trans (HB4.out.mono HB1.out.size)
        have HA : Hid (Am xs (mt t) ys c) := by rw [← HM.out]; exact hA
        have HYS : Hid (bx.Smalls ys) := am_small HX.out.1 HMS.out.1 HX.out.2 HMS.out.2 hA
        clear HMU HBW3 q0 q1 q2 q3 q4 q5 hF' hb4 hA
        by_cases hc0 : c = 0
        · subst hc0
          have HG2 : Hid (Go ts (k + 1) ys) := go_next HG.out HKL.out HT.out HR.out HA.out
          have HSY : Hid (sok ys = true) := am_ok HX.out.2 (by rw [← HM.out]; exact HMS.out.2 : mu.mok (mt t) = true) HA.out
          clear HG HA
          go_wp2
          go_roundw
          case rel => exact ⟨k + 1, ys, us', by omega, by go_num, HO4.out.1, HO4.out.2, HYS.out, HSY.out, HB4.out, HG2⟩
          case measure => simp [intOf]; omega
        · have hc1 : (c != 0) = true := by rw [bne_iff_ne]; exact hc0
          have HRR2 : Hid (Rr T [] 0 3) := HRR.out _ _ _ _ _ (go_code HG.out HKL.out HT.out HR.out HA.out hc0) (.inl ⟨rfl, rfl, rfl, rfl⟩)
          have hbn := boxes_nil w4 nv
          have HE5 : Hid (Below w.heap.size w (w4.alloc (.cells #[] 99))) := HE4.out.alloc HE4.out.size _
          clear HG HA hc0
          go_wp2
          go_ret3
          exact ⟨⟨_, [], nv, 0, 3, rfl, HRR2.out, hbn, fines_nil _, smalls_nil, sok_nil⟩, HE5.out⟩
    · have hlt' : (n : Int) ≤ (k : Int) := by omega
      have HR : Hid (Rp ts [] (xs, true)) := go_end HG.out (by rw [← HN.out]; omega)
      clear HG hbw
      by_cases h8 : cd = 8
      · have h8' : ((cd : Int) == 8) = true := by rw [beq_iff_eq]; omega
        have HR2 : Hid (Rr T [] 0 8) := HRR.out _ _ _ _ _ HR.out (.inr (.inl ⟨rfl, h8, rfl, rfl, rfl⟩))
        have hbn := boxes_nil wr nv
        have HE5 : Hid (Below w.heap.size w (wr.alloc (.cells #[] 99))) := HBW.out.alloc HBW.out.size _
        subst h8
        go_wp2
        go_ret3
        exact ⟨⟨_, [], nv, 0, 8, rfl, HR2.out, hbn, fines_nil _, smalls_nil, sok_nil⟩, HE5.out⟩
      · have h8' : ((cd : Int) == 8) = false := by rw [beq_eq_false_iff_ne]; omega
        have HR2 : Hid (Rr T xs (n : Int) 0) := HRR.out _ _ _ _ _ HR.out (.inr (.inr ⟨rfl, h8, rfl, by rw [HN.out], rfl⟩))
        clear h8
        go_wp2
        go_ret3
        exact ⟨⟨_, xs, vs, _, 0, rfl, HR2.out, HBX.out.1, HBX.out.2, HX.out.1, HX.out.2⟩, HBW.out⟩
end Go.Proofs.YtncnbhekgkemfaaGreatDoor.rp

namespace Go.Proofs.YtncnbhekgkemfaaGreatDoor.rp
open Go.RowKit
open st gr bx mx bl wi ml sa lg
set_option linter.unusedVariables false

/-- What ReplayLog answers. -/
def RlIs (r : Int) (d : ByteArray) (s : Int) (ys : List Bx) (n c : Int) : Prop := (ok r d.size s = false ∧ ys = [] ∧ n = 0 ∧ c = 1) ∨ (ok r d.size s = true ∧ Rr d ys n c)
theorem rl_one {r s : Int} {d : ByteArray} {ys ys' : List Bx} {n n' c c' : Int} (h : RlIs r d s ys n c) (h' : RlIs r d s ys' n' c') : ys = ys' ∧ n = n' ∧ c = c' := by
  rcases h with ⟨e, rfl, rfl, rfl⟩ | ⟨e, h⟩ <;> rcases h' with ⟨e', rfl, rfl, rfl⟩ | ⟨e', h'⟩
  · exact ⟨rfl, rfl, rfl⟩
  · rw [e] at e'; cases e'
  · rw [e] at e'; cases e'
  · exact rr_one h h'
def RlRet (r : Int) (d : ByteArray) (s : Int) (base : Nat) (e : Ending) (w : World) : Prop := ∃ L ys us n c, e = .returned (.tuple #[L, .int .i64 n, .int .i64 c]) ∧ RlIs r d s ys n c ∧ OwnL w base L ys us ∧ bx.Smalls ys ∧ sok ys = true

theorem ownL_made (w : World) (base : Nat) (h : base ≤ w.heap.size) : OwnL (w.alloc (.cells #[] 99)) base (.slice (some ⟨w.heap.size, 0, none⟩) 0 0) [] nv := ⟨World.ownsRow_made w #[] 0 h (Nat.zero_le _) rfl, fun j hj => absurd hj (Nat.not_lt_zero _), fun i j _ hj => absurd hj (Nat.not_lt_zero _)⟩
end Go.Proofs.YtncnbhekgkemfaaGreatDoor.rp
