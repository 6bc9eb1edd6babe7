/-
  Lists of boxes held against each other by the laws; what one keeps of another.
-/
import Derived.Test.YtinnnfkhiigjpaaGreatPkad
import Derived.Test.YtinnnfkhiigjpaaGreatPkax
import Derived.Test.YtinnnfkhiigjpaaGreatPkai
import Derived.Deep.DeepCutAuto
import Derived.Deep.Cut
import Derived.Deep.CutRange
import Derived.Deep.RegionWith

namespace Go.Proofs.YtinnnfkhiigjpaaGreat.kp
open Go.RowKit Go.WideShapes Go.Deep
open bx gr
open st (St noS At3)
open ky (TextsAt)
set_option linter.unusedVariables false

set_option maxHeartbeats 4000000 in
set_option maxRecDepth 100000 in
theorem sameBoxes_any (v u : Value) (xs : List Bx) (vs us : Nat → Value × Value) (w : World) (h1 : BoxesAt w v xs vs) (h2 : BoxesAt w u xs us) (hs : Smalls xs) :
    Calls Tryz.prog 10 #[v, u] w fun e w' => e = .returned (.bool true) ∧ Below w.heap.size w w' := by
  have HALL : Hid (BoxesAt w v xs vs ∧ BoxesAt w u xs us) := ⟨h1, h2⟩
  obtain ⟨⟨a, cap, rfl, hc1⟩, _⟩ := h1
  obtain ⟨⟨c, cap2, rfl, hc2⟩, _⟩ := h2
  obtain ⟨n, hn⟩ : ∃ n, n = xs.length := ⟨_, rfl⟩
  have HN : Hid (n = xs.length) := hn
  have H1 : Hid (xs = [] ∨ ∃ b off, a = some ⟨b, off, none⟩ ∧ b < w.heap.size ∧ ∀ j, j < xs.length → At5 w b (off + j * 5) (xs.getD j noB) (vs j)) := hc1
  have H2 : Hid (xs = [] ∨ ∃ b off, c = some ⟨b, off, none⟩ ∧ b < w.heap.size ∧ ∀ j, j < xs.length → At5 w b (off + j * 5) (xs.getD j noB) (us j)) := hc2
  have HS : Hid (Smalls xs) := hs
  have hl : n ≤ 1048576 := by rw [hn]; exact hs.1
  rw [← hn] at HALL ⊢
  clear hc1 hc2 hs hn
  have hnn : ((n : Int) != (n : Int)) = false := by simp
  go_enter Tryz.func10, Tryz.ntmps10
  go_wp2
  go_loopw [5] (fun i wr => ∃ k : Nat, k ≤ n ∧ i = .int .i64 k ∧ Below w.heap.size w wr) (fun i _ => n - (intOf i).toNat)
  case atStart => exact ⟨0, Nat.zero_le _, rfl, Below.refl _ _⟩
  case round =>
    obtain ⟨k, hk, rfl, hbw⟩ := hrel
    by_cases hlt : k < n
    · have hka : k < xs.length := by rw [← HN.out]; exact hlt
      rcases H1.out with e | ⟨b, off, rfl, hb1, hcells⟩
      · rw [e] at hka; simp at hka
      rcases H2.out with e | ⟨b2, off2, rfl, hb2, hcells2⟩
      · rw [e] at hka; simp at hka
      have ha := (hcells k hka).keep hbw hb1
      have hb := (hcells2 k hka).keep hbw hb2
      have hr1 := rows_more ((boxes_in_below HALL.out.1 hbw (Nat.le_refl _)).2 k hka) hbw.size
      have hr2 := rows_more ((boxes_in_below HALL.out.2 hbw (Nat.le_refl _)).2 k hka) hbw.size
      have hsk := HS.out.2 k hka
      clear hcells hka hcells2
      generalize xs.getD k noB = x at ha hb hr1 hr2 hsk
      generalize vs k = q at ha hr1
      generalize us k = r at hb hr2
      obtain ⟨q1, q2⟩ := q
      obtain ⟨r1, r2⟩ := r
      obtain ⟨c0, c1, c2, c3, c4⟩ := ha
      obtain ⟨d0, d1, d2, d3, d4⟩ := hb
      simp only at c0 c1 c2 c3 c4 d0 d1 d2 d3 d4 hr1 hr2
      have hpl : x.ms.length ≤ 1048576 ∧ x.ks.length ≤ 1048576 := ⟨hsk.2.2.1.1, hsk.2.2.2.1⟩
      have HE : Hid (∀ y : Ext wr, Calls Tryz.prog 14 #[.agg #[.string x.nm, .int .i64 x.vd, .int .i64 x.nx, q1, q2], .agg #[.string x.nm, .int .i64 x.vd, .int .i64 x.nx, r1, r2]] (gw y) fun e w' => e = .returned (.bool true) ∧ Below (gw y).heap.size (gw y) w') := fun y => sameBox_any x q1 q2 r1 r2 (gw y) (rows_below hr1 (gw_below y)) (rows_below hr2 (gw_below y)) hsk
      obtain ⟨⟨a2, cap2, rfl, _⟩, ⟨a3, cap3, rfl, _⟩⟩ := hr1
      obtain ⟨⟨a4, cap4, rfl, _⟩, ⟨a5, cap5, rfl, _⟩⟩ := hr2
      clear hsk hpl
      have hlt' : (k : Int) < (n : Int) := by omega
      have hk0 : (0 : Int) ≤ (k : Int) := by omega
      go_wp2_with fail
      have ne := ext_some wr
      have c0 := fun y : Ext wr => gw_cell y c0
      have c1 := fun y : Ext wr => gw_cell y c1
      have c2 := fun y : Ext wr => gw_cell y c2
      have c3 := fun y : Ext wr => gw_cell y c3
      have c4 := fun y : Ext wr => gw_cell y c4
      have d0 := fun y : Ext wr => gw_cell y d0
      have d1 := fun y : Ext wr => gw_cell y d1
      have d2 := fun y : Ext wr => gw_cell y d2
      have d3 := fun y : Ext wr => gw_cell y d3
      have d4 := fun y : Ext wr => gw_cell y d4
      refine region_lit (by kernel_rfl) (by kernel_rfl) ?_
      repeat (go_big_quiet_step ((go_at_call 14; exact grow_of (HE.out _))))
      refine wpQuiet_nil ?_
      rintro W' ⟨y, rfl⟩
      have b3 := hbw.trans ((gw_below y).mono hbw.size)
      generalize gw y = W' at b3 ⊢
      clear c0 c1 c2 c3 c4 d0 d1 d2 d3 d4 hbw HE
      go_wp2
      go_roundw
      case rel => exact ⟨k + 1, by omega, by go_num, b3⟩
      case measure => simp [intOf]; omega
    · go_wp2
      go_ret
      exact ⟨rfl, hbw⟩

theorem texts_pre {w : World} {a : Option Addr} {cap : Nat} {ks ks' : List ByteArray} (h : TextsAt w (.slice a ks'.length cap) ks') (hp : ks <+: ks') : TextsAt w (.slice a ks.length cap) ks := by
  obtain ⟨a', cp, e, h⟩ := h
  injection e with e1 _ e3
  subst e1 e3
  refine ⟨a, cap, rfl, ?_⟩
  rcases h with h | ⟨b, off, rfl, h⟩
  · subst h
    exact .inl (List.prefix_nil.1 hp)
  · refine .inr ⟨b, off, rfl, fun j hj => ?_⟩
    obtain ⟨r, rfl⟩ := hp
    have := h j (by simp; omega)
    rw [this]
    rw [List.getD_eq_getElem?_getD, List.getElem?_append_left hj, ← List.getD_eq_getElem?_getD]
/-- Whether one of the first mails has the uid. -/
def Fnd (ms : List St) (z : Int) (k : Nat) (v : Value) : Prop := ∃ B : Bool, v = .bool B ∧ (B = true ↔ ∃ j, j < k ∧ (ms.getD j noS).u = z)
theorem fnd_start (ms : List St) (z : Int) : Fnd ms z 0 (.bool false) := ⟨false, rfl, ⟨fun h => absurd h (by simp), fun ⟨j, hj, _⟩ => absurd hj (Nat.not_lt_zero _)⟩⟩
theorem fnd_step {ms : List St} {z : Int} {k : Nat} {B C : Bool} {s : St} (h : B = true ↔ ∃ j, j < k ∧ (ms.getD j noS).u = z) (hs : ms.getD k noS = s) (hc : C = true ↔ (B = true ∨ s.u = z)) : Fnd ms z (k + 1) (.bool C) := by
  refine ⟨C, rfl, ?_⟩
  rw [hc, h]
  constructor
  · rintro (⟨j, hj, e⟩ | e)
    · exact ⟨j, by omega, e⟩
    · exact ⟨k, by omega, by rw [hs]; exact e⟩
  · rintro ⟨j, hj, e⟩
    by_cases ek : j = k
    · subst ek; right; rw [← hs]; exact e
    · left; exact ⟨j, by omega, e⟩
theorem fnd_end {ms : List St} {z : Int} {B : Bool} (h : B = true ↔ ∃ j, j < ms.length ∧ (ms.getD j noS).u = z) (hf : ∃ s ∈ ms, s.u = z) : B = true := by
  obtain ⟨s, hs, e⟩ := hf
  obtain ⟨j, hj, rfl⟩ := List.getElem_of_mem hs
  exact h.2 ⟨j, hj, by simpa [List.getD_eq_getElem?_getD, hj] using e⟩
set_option maxHeartbeats 8000000 in
set_option maxRecDepth 100000 in
theorem keeps_any (v u : Value) (xs ys : List Bx) (vs us : Nat → Value × Value) (w : World) (h1 : BoxesAt w v xs vs) (h2 : BoxesAt w u ys us) (hs : Smalls xs) (hs' : Smalls ys) (hk : KP xs ys) (hcap : ∀ j, j < ys.length → ∀ a n c, (us j).2 = .slice a n c → n ≤ c) :
    Calls Tryz.prog 9 #[v, u] w fun e w' => e = .returned (.bool true) ∧ Below w.heap.size w w' := by
  have HALL : Hid (BoxesAt w v xs vs ∧ BoxesAt w u ys us) := ⟨h1, h2⟩
  obtain ⟨⟨a, cap, rfl, hc1⟩, _⟩ := h1
  obtain ⟨⟨c, cap2, rfl, hc2⟩, _⟩ := h2
  obtain ⟨n, hn⟩ : ∃ n, n = xs.length := ⟨_, rfl⟩
  obtain ⟨n2, hn2⟩ : ∃ n, n = ys.length := ⟨_, rfl⟩
  have HN : Hid (n = xs.length ∧ n2 = ys.length ∧ KP xs ys) := ⟨hn, hn2, hk⟩
  have H1 : Hid (xs = [] ∨ ∃ b off, a = some ⟨b, off, none⟩ ∧ b < w.heap.size ∧ ∀ j, j < xs.length → At5 w b (off + j * 5) (xs.getD j noB) (vs j)) := hc1
  have H2 : Hid (ys = [] ∨ ∃ b off, c = some ⟨b, off, none⟩ ∧ b < w.heap.size ∧ ∀ j, j < ys.length → At5 w b (off + j * 5) (ys.getD j noB) (us j)) := hc2
  have HS : Hid (Smalls xs ∧ Smalls ys) := ⟨hs, hs'⟩
  have HC : Hid (∀ j, j < ys.length → ∀ a n c, (us j).2 = .slice a n c → n ≤ c) := hcap
  have hl : n ≤ 1048576 := by rw [hn]; exact hs.1
  have hl2 : n2 ≤ 1048576 := by rw [hn2]; exact hs'.1
  have hle : n ≤ n2 := by rw [hn, hn2]; exact hk.1
  rw [← hn, ← hn2] at HALL
  rw [← hn, ← hn2]
  clear hc1 hc2 hs hs' hn hn2 hk hcap
  have hnn : decide ((n2 : Int) < (n : Int)) = false := decide_eq_false (by omega)
  have hnn' : ¬ (n2 : Int) < (n : Int) := by omega
  go_enter Tryz.func9, Tryz.ntmps9
  go_wp2
  go_loopw [5] (fun i wr => ∃ k : Nat, k ≤ n ∧ i = .int .i64 k ∧ Below w.heap.size w wr) (fun i _ => n - (intOf i).toNat)
  case atStart => exact ⟨0, Nat.zero_le _, rfl, Below.refl _ _⟩
  case round =>
    clear hnn hnn'
    obtain ⟨k, hk, rfl, hbw⟩ := hrel
    by_cases hlt : k < n
    · have hka : k < xs.length := by rw [← HN.out.1]; exact hlt
      have hkb : k < ys.length := by rw [← HN.out.2.1]; omega
      have hKB := HN.out.2.2.2 k hka
      have hcp := HC.out k hkb
      rcases H1.out with e | ⟨b, off, rfl, hb1, hcells⟩
      · rw [e] at hka; simp at hka
      rcases H2.out with e | ⟨b2, off2, rfl, hb2, hcells2⟩
      · rw [e] at hkb; simp at hkb
      have ha := (hcells k hka).keep hbw hb1
      have hb := (hcells2 k hkb).keep hbw hb2
      have hr1 := rows_more ((boxes_in_below HALL.out.1 hbw (Nat.le_refl _)).2 k hka) hbw.size
      have hr2 := rows_more ((boxes_in_below HALL.out.2 hbw (Nat.le_refl _)).2 k hkb) hbw.size
      have hsk := HS.out.1.2 k hka
      have hsk2 := HS.out.2.2 k hkb
      clear hcells hka hcells2 hkb
      generalize xs.getD k noB = x at ha hr1 hsk hKB
      generalize ys.getD k noB = y at hb hr2 hsk2 hKB
      generalize vs k = q at ha hr1
      generalize us k = r at hb hr2 hcp
      obtain ⟨q1, q2⟩ := q
      obtain ⟨r1, r2⟩ := r
      obtain ⟨c0, c1, c2, c3, c4⟩ := ha
      obtain ⟨d0, d1, d2, d3, d4⟩ := hb
      simp only at c0 c1 c2 c3 c4 d0 d1 d2 d3 d4 hr1 hr2 hcp
      have hlt' : (k : Int) < (n : Int) := by omega
      have hk0 : (0 : Int) ≤ (k : Int) := by omega
      have hk2 : (k : Int) < (n2 : Int) := by omega
      have hbl : b < wr.heap.size := World.block_lt_of_cell? _ _ c0
      have hbl2 : b2 < wr.heap.size := World.block_lt_of_cell? _ _ d0
      have bX := new_below wr 38 #[.string x.nm, .int .i64 x.vd, .int .i64 x.nx, q1, q2]
      have LX := lies_new wr 38 x q1 q2
      have bY := new_below (wr.alloc (.cells #[.string x.nm, .int .i64 x.vd, .int .i64 x.nx, q1, q2] 38)) 38 #[.string y.nm, .int .i64 y.vd, .int .i64 y.nx, r1, r2]
      have LY := lies_new (wr.alloc (.cells #[.string x.nm, .int .i64 x.vd, .int .i64 x.nx, q1, q2] 38)) 38 y r1 r2
      rw [show (wr.alloc (.cells #[.string x.nm, .int .i64 x.vd, .int .i64 x.nx, q1, q2] 38)).heap.size = wr.heap.size + 1 by simp] at LY
      have bXY := bX.trans (bY.mono bX.size)
      obtain ⟨W, hW⟩ : ∃ W, W = (wr.alloc (.cells #[.string x.nm, .int .i64 x.vd, .int .i64 x.nx, q1, q2] 38)).alloc (.cells #[.string y.nm, .int .i64 y.vd, .int .i64 y.nx, r1, r2] 38) := ⟨_, rfl⟩
      have LX := LX.keep bY
      rw [← hW] at bXY LX LY
      have HW : Hid (W = (wr.alloc (.cells #[.string x.nm, .int .i64 x.vd, .int .i64 x.nx, q1, q2] 38)).alloc (.cells #[.string y.nm, .int .i64 y.vd, .int .i64 y.nx, r1, r2] 38)) := hW
      have HX : Hid (Lies W wr.heap.size 38 x q1 q2 ∧ Lies W (wr.heap.size + 1) 38 y r1 r2 ∧ RowsAt W q1 q2 x.ms x.ks ∧ RowsAt W r1 r2 y.ms y.ks ∧ Small x ∧ Small y ∧ KB x y ∧ Below w.heap.size w W) := ⟨LX, LY, rows_below hr1 bXY, rows_below hr2 bXY, hsk, hsk2, hKB, hbw.trans (bXY.mono hbw.size)⟩
      obtain ⟨⟨a2, cap2, rfl, _⟩, ⟨a3, cap3, rfl, _⟩⟩ := hr1
      obtain ⟨⟨a4, cap4, rfl, _⟩, ⟨a5, cap5, rfl, _⟩⟩ := hr2
      have hcap5 := hcp _ _ _ rfl
      clear bX bY bXY LX LY hW hsk hsk2 hKB hcp hbw
      go_upto_region 8 with fail
      rw [← HW.out]
      clear HW c0 c1 c2 c3 c4 d0 d1 d2 d3 d4 hbl hbl2
      generalize wr.heap.size = X at HX ⊢
      obtain ⟨nm, vd, nx, ms, ks⟩ := x
      obtain ⟨nm2, vd2, nx2, ms2, ks2⟩ := y
      simp only at HX hcap5 ⊢
      have hKB := HX.out.2.2.2.2.2.2.1
      obtain rfl : nm = nm2 := hKB.nm
      obtain rfl : vd = vd2 := hKB.vd
      have hnx : nx ≤ nx2 := hKB.nx
      have hkl : ks.length ≤ ks2.length := hKB.ks.length_le
      have hms1 : ms.length ≤ 1048576 := HX.out.2.2.2.2.1.2.2.1.1
      have hms2 : ms2.length ≤ 1048576 := HX.out.2.2.2.2.2.1.2.2.1.1
      have LX := HX.out.1
      have LY := HX.out.2.1
      have ne := ext_some W
      have c0 := fun y : Ext W => gw_cell y LX.c0
      have c1 := fun y : Ext W => gw_cell y LX.c1
      have c2 := fun y : Ext W => gw_cell y LX.c2
      have c4 := fun y : Ext W => gw_cell y LX.c4
      have d0 := fun y : Ext W => gw_cell y LY.c0
      have d1 := fun y : Ext W => gw_cell y LY.c1
      have d2 := fun y : Ext W => gw_cell y LY.c2
      have d4 := fun y : Ext W => gw_cell y LY.c4
      simp only at c0 c1 c2 c4 d0 d1 d2 d4
      have e0 : (nm.toList != nm.toList) = false := by simp
      have e1 : (vd != vd) = false := by simp
      have e2 : decide (nx2 < nx) = false := decide_eq_false (by omega)
      have e3 : decide ((ks2.length : Int) < (ks.length : Int)) = false := decide_eq_false (by omega)
      have e4 : decide (ks2.length < ks.length) = false := decide_eq_false (by omega)
      have HE : Hid (∀ y : Ext W, Calls Tryz.prog 30 #[.slice a5 ks.length cap5, .slice a3 ks.length cap3] (gw y) fun e w' => e = .returned (.bool true) ∧ Below (gw y).heap.size (gw y) w') := fun y =>
        sameTexts_any _ _ ks (gw y) (texts_pre (ky.texts_below (tx.texts_at HX.out.2.2.2.1.2) (gw_below y)) hKB.ks) (ky.texts_below (tx.texts_at HX.out.2.2.1.2) (gw_below y)) HX.out.2.2.2.2.1.2.2.2.1
      clear LX LY hKB
      have hkl' : (ks.length : Int) ≤ (cap5 : Int) := by omega
      refine region_lit (by kernel_rfl) (by kernel_rfl) ?_
      repeat (go_big_quiet_step ((go_at_call 30; exact grow_of (HE.out _))))
      refine wpQuiet_nil ?_
      rintro W' ⟨yy, rfl⟩
      have b3 := gw_below yy
      generalize gw yy = W' at b3 ⊢
      clear c0 c1 c2 c4 d0 d1 d2 d4 HE e0 e1 e2 e3 e4 ne
      have HB3 : Hid (Below W.heap.size W W') := b3
      clear b3
      go_wp2
      go_loopw [8] (fun i wr => ∃ k2 : Nat, k2 ≤ ms2.length ∧ i = .int .i64 k2 ∧ Below W.heap.size W wr) (fun i _ => ms2.length - (intOf i).toNat)
      case atStart => exact ⟨0, Nat.zero_le _, rfl, HB3.out⟩
      case round =>
        clear HB3
        obtain ⟨k2, hk3, rfl, hbw⟩ := hrel
        have ly := (HX.out.2.1.keep hbw).c3
        by_cases hlt2 : k2 < ms2.length
        · have hlt2' : (k2 : Int) < (ms2.length : Int) := by omega
          have hk20 : (0 : Int) ≤ (k2 : Int) := by omega
          have hin : ms2.getD k2 noS ∈ ms2 := sa.mem_getD hlt2
          obtain ⟨⟨ay, cpy, ey, hY⟩, _⟩ := HX.out.2.2.2.1
          injection ey with ey1 ey2 ey3
          subst ey1 ey3
          rcases hY with e | ⟨by_, oy, rfl, _, hcy⟩
          · rw [e] at hlt2; simp at hlt2
          obtain ⟨y0, y1, y2⟩ := hcy k2 hlt2
          have hyl : by_ < wr.heap.size := Nat.lt_of_lt_of_le (World.block_lt_of_cell? W _ y0) hbw.size
          have y0 := (hbw.cell (p := ⟨by_, oy + k2 * 3, none⟩) (World.block_lt_of_cell? W _ y0)).trans y0
          have y1 := (hbw.cell (p := ⟨by_, oy + k2 * 3 + 1, none⟩) (World.block_lt_of_cell? W _ y1)).trans y1
          have y2 := (hbw.cell (p := ⟨by_, oy + k2 * 3 + 2, none⟩) (World.block_lt_of_cell? W _ y2)).trans y2
          obtain ⟨hm1, hm2⟩ := HX.out.2.2.2.2.2.2.1.ms _ hin
          generalize ms2.getD k2 noS = m at y0 y1 y2 hm1 hm2
          obtain ⟨mu_, mf, mt⟩ := m
          simp only at y0 y1 y2 hm1 hm2
          have HM : Hid ((∀ s ∈ ms, s.u = mu_ → s.t = mt) ∧ (mu_ < nx → ∃ s ∈ ms, s.u = mu_)) := ⟨hm1, hm2⟩
          have hA : Below wr.heap.size wr (wr.alloc (.cells #[.int .i64 mu_, .int .i64 mf, .string mt] 46)) := (Below.refl _ _).alloc (Nat.le_refl _) _
          have hM3 : (wr.alloc (.cells #[.int .i64 mu_, .int .i64 mf, .string mt] 46)).heap[wr.heap.size]? = some (.cells #[.int .i64 mu_, .int .i64 mf, .string mt] 46 (0, 0)) := (MapKept.heap_alloc _ _).1
          have HB4 : Hid (Below W.heap.size W (wr.alloc (.cells #[.int .i64 mu_, .int .i64 mf, .string mt] 46))) := hbw.trans (hA.mono hbw.size)
          have HMB : Hid ((wr.alloc (.cells #[.int .i64 mu_, .int .i64 mf, .string mt] 46)).heap[wr.heap.size]? = some (.cells #[.int .i64 mu_, .int .i64 mf, .string mt] 46 (0, 0))) := hM3
          clear hm1 hm2 hin hbw hA hM3 hcy
          go_wp2
          obtain ⟨W3, hW3⟩ : ∃ W3, W3 = wr.alloc (.cells #[.int .i64 mu_, .int .i64 mf, .string mt] 46) := ⟨_, rfl⟩
          rw [← hW3] at HB4 HMB ⊢
          clear hW3 y0 y1 y2 hyl ly
          generalize wr.heap.size = G at HMB ⊢
          go_loopw [10] (fun i wr => ∃ j : Nat, j ≤ ms.length ∧ i = .int .i64 j ∧ Below W3.heap.size W3 wr) (fun i _ => ms.length - (intOf i).toNat)
          case atStart => exact ⟨0, Nat.zero_le _, rfl, Below.refl _ _⟩
          case round =>
            obtain ⟨j, hj, rfl, hb5⟩ := hrel
            have hb6 := HB4.out.trans (hb5.mono HB4.out.size)
            have lx := (HX.out.1.keep hb6).c3
            have hGl : G < W3.heap.size := (Array.getElem?_eq_some_iff.1 HMB.out).1
            have hmb : wr.heap[G]? = some (.cells #[.int .i64 mu_, .int .i64 mf, .string mt] 46 (0, 0)) := (hb5.block G hGl).trans HMB.out
            have m0 : wr.cell? ⟨G, 0, none⟩ = some (.int .i64 mu_) := by rw [cell_of_row _ _ _ _ _ _ hmb]; rfl
            have m2 : wr.cell? ⟨G, 0 + 2, none⟩ = some (.string mt) := by rw [cell_of_row _ _ _ _ _ _ hmb]; rfl
            by_cases hlt3 : j < ms.length
            · have hlt3' : (j : Int) < (ms.length : Int) := by omega
              have hj0 : (0 : Int) ≤ (j : Int) := by omega
              have hinx : ms.getD j noS ∈ ms := sa.mem_getD hlt3
              obtain ⟨⟨ax, cpx, ex, hXm⟩, _⟩ := HX.out.2.2.1
              injection ex with ex1 ex2 ex3
              subst ex1 ex3
              rcases hXm with e | ⟨bx_, ox, rfl, _, hcx⟩
              · rw [e] at hlt3; simp at hlt3
              obtain ⟨x0, x1, x2⟩ := hcx j hlt3
              have x0 := (hb6.cell (p := ⟨bx_, ox + j * 3, none⟩) (World.block_lt_of_cell? W _ x0)).trans x0
              have x2 := (hb6.cell (p := ⟨bx_, ox + j * 3 + 2, none⟩) (World.block_lt_of_cell? W _ x2)).trans x2
              have hsame := HM.out.1 _ hinx
              generalize ms.getD j noS = s at x0 x2 hsame
              clear hcx hinx x1 hmb
              have HWR : Hid (∀ z, Below W3.heap.size W3 (wr.drewN z)) := fun z => below_drewN hb5 z
              clear hb5 hb6
              by_cases hu : s.u = mu_
              · have hst := hsame hu
                rw [hu] at x0
                rw [hst] at x2
                have e0 : (mu_ == mu_) = true := by simp
                have e1 : (mt.toList != mt.toList) = false := by simp
                clear hsame hu hst
                go_wp2_with fail
                go_quiet (fail)
                clear e0 e1
                go_wp2
                go_roundw
                case rel => exact ⟨j + 1, by omega, by go_num, HWR.out _⟩
                case measure => simp [intOf]; omega
              · have e0 : (s.u == mu_) = false := beq_eq_false_iff_ne.2 hu
                clear hsame hu
                go_wp2_with fail
                go_quiet (fail)
                clear e0
                go_wp2
                go_roundw
                case rel => exact ⟨j + 1, by omega, by go_num, HWR.out _⟩
                case measure => simp [intOf]; omega
            · have hjn : j = ms.length := by omega
              subst hjn
              have lx2 := (HX.out.1.keep hb6).c2
              have HB7 : Hid (Below W3.heap.size W3 wr) := hb5
              clear hmb hb5
              by_cases hun : mu_ < nx
              · have HF : Hid (∃ s ∈ ms, s.u = mu_) := HM.out.2 hun
                clear m2
                go_wp2
                clear lx lx2 m0
                go_loopw [11, 12] (fun f i wr4 => ∃ j4 : Nat, j4 ≤ ms.length ∧ i = .int .i64 j4 ∧ Fnd ms mu_ j4 f ∧ Below W3.heap.size W3 wr4) (fun _ i _ => ms.length - (intOf i).toNat)
                case atStart => exact ⟨0, Nat.zero_le _, rfl, fnd_start _ _, HB7.out⟩
                case round =>
                  obtain ⟨j4, hj4, rfl, ⟨B0, rfl, hB0⟩, hb8⟩ := hrel
                  have HBB : Hid (B0 = true ↔ ∃ j, j < j4 ∧ (ms.getD j noS).u = mu_) := hB0
                  have hb9 := HB4.out.trans (hb8.mono HB4.out.size)
                  have lx := (HX.out.1.keep hb9).c3
                  have hmb : wr.heap[G]? = some (.cells #[.int .i64 mu_, .int .i64 mf, .string mt] 46 (0, 0)) := (hb8.block G hGl).trans HMB.out
                  have m0 : wr.cell? ⟨G, 0, none⟩ = some (.int .i64 mu_) := by rw [cell_of_row _ _ _ _ _ _ hmb]; rfl
                  clear hB0 hmb
                  by_cases hlt4 : j4 < ms.length
                  · have hlt4' : (j4 : Int) < (ms.length : Int) := by omega
                    have hj40 : (0 : Int) ≤ (j4 : Int) := by omega
                    obtain ⟨⟨ax, cpx, ex, hXm⟩, _⟩ := HX.out.2.2.1
                    injection ex with ex1 ex2 ex3
                    subst ex1 ex3
                    rcases hXm with e | ⟨bx_, ox, rfl, _, hcx⟩
                    · rw [e] at hlt4; simp at hlt4
                    obtain ⟨x0, _, _⟩ := hcx j4 hlt4
                    have x0 := (hb9.cell (p := ⟨bx_, ox + j4 * 3, none⟩) (World.block_lt_of_cell? W _ x0)).trans x0
                    obtain ⟨s, hs⟩ : ∃ s, ms.getD j4 noS = s := ⟨_, rfl⟩
                    have HSS : Hid (ms.getD j4 noS = s) := hs
                    rw [hs] at x0
                    have HWR : Hid (∀ z, Below W3.heap.size W3 (wr.drewN z)) := fun z => below_drewN hb8 z
                    clear hcx hs hb8 hb9
                    cases B0
                    · obtain ⟨E, hE⟩ : ∃ E, E = (s.u == mu_) := ⟨_, rfl⟩
                      have HE2 : Hid (E = true ↔ s.u = mu_) := by rw [hE]; exact beq_iff_eq
                      have hE' : (s.u == mu_) = E := hE.symm
                      clear hE
                      go_wp2_with fail
                      go_quiet (fail)
                      clear hE'
                      go_wp2
                      go_roundw
                      case rel => exact ⟨j4 + 1, by omega, by go_num, fnd_step HBB.out HSS.out (by rw [HE2.out]; simp), HWR.out _⟩
                      case measure => simp [intOf]; omega
                    · go_wp2_with fail
                      go_quiet (fail)
                      go_wp2
                      go_roundw
                      case rel => exact ⟨j4 + 1, by omega, by go_num, fnd_step (B := true) (by have h := HBB.out; simpa using h) HSS.out (by simp), HWR.out _⟩
                      case measure => simp [intOf]; omega
                  · have hj4n : j4 = ms.length := by omega
                    subst hj4n
                    obtain rfl : B0 = true := fnd_end HBB.out HF.out
                    go_wp2
                    go_roundw
                    case rel => exact ⟨k2 + 1, by omega, by go_num, hb9⟩
                    case measure => simp [intOf]; omega
              · go_wp2
                go_roundw
                case rel => exact ⟨k2 + 1, by omega, by go_num, hb6⟩
                case measure => simp [intOf]; omega
        · have hk2n : k2 = ms2.length := by omega
          subst hk2n
          go_wp2
          go_roundw
          case rel => exact ⟨k + 1, by omega, by go_num, HX.out.2.2.2.2.2.2.2.trans (hbw.mono HX.out.2.2.2.2.2.2.2.size)⟩
          case measure => simp [intOf]; omega
    · go_wp2
      go_ret
      exact ⟨rfl, hbw⟩
end Go.Proofs.YtinnnfkhiigjpaaGreat.kp
