/-
  The laws' own copies of items and of mutations: their rows are their own memory.
-/
import Derived.Test.YtgjjeabjnkenkaaMua
namespace Go.Proofs.Ytgjjeabjnkenkaa.it
open Go.RowKit
set_option linter.unusedVariables false
set_option maxHeartbeats 1000000 in
set_option maxRecDepth 100000 in
theorem toAttrS_own (v : Value) (ps : List Pr) (w : World) (h : AttrsAt w v ps) (hn : ps.length ≤ 1048576) :
    Calls Try.prog 35 #[v] w fun e w' => e = .returned (.slice (some ⟨w.heap.size, 0, none⟩) ps.length ps.length) ∧ AttrsAt w' (.slice (some ⟨w.heap.size, 0, none⟩) ps.length ps.length) ps ∧ Below w.heap.size w w' ∧ ∃ xs, w'.ownsRow w.heap.size 75 2 (.slice (some ⟨w.heap.size, 0, none⟩) ps.length ps.length) ps.length xs := by
  obtain ⟨a, cap, rfl, h⟩ := h
  obtain ⟨i0, hi, hz0, hz1, hz2⟩ := info_parts infoAt
  obtain ⟨n, hn'⟩ : ∃ n, n = ps.length := ⟨_, rfl⟩
  have HN : Hid (n = ps.length) := hn'
  have HH : Hid (ps = [] ∨ ∃ b off, a = some ⟨b, off, none⟩ ∧ ∀ j, j < ps.length → w.cell? ⟨b, off + j * 2, none⟩ = some (.string (ps.getD j no).1) ∧ w.cell? ⟨b, off + j * 2 + 1, none⟩ = some (.string (ps.getD j no).2)) := h
  rw [← hn'] at hn ⊢
  clear h hn'
  go_enter Try.func35, Try.ntmps35
  go_wp2_with (at_make; refine wpList_make_full _ rfl _ _ 32 rfl w.heap.size 75 i0 _ 2 Try.underlying32 hi hz0 hz1 _ _ _ _ n rfl rfl rfl rfl (by rw [hz2]; omega) (by unfold maxLen; omega) (Nat.le_refl _) ?_; intro w1 hown1 hg1)
  have hb1 : Below w.heap.size w w1 := (Below.refl _ _).grown hg1 (Nat.le_refl _) (fun k hk => by cases hk)
  clear hg1
  go_loopw [4] (fun i wr => ∃ (k : Nat) (xs : List Value), k ≤ n ∧ i = .int .i64 k ∧ xs.length = n * 2 ∧ Lay ps k xs ∧ wr.ownsRow w.heap.size 75 2 (.slice (some ⟨w.heap.size, 0, none⟩) n n) n xs ∧ Below w.heap.size w wr) (fun i _ => n - (intOf i).toNat)
  case atStart => exact ⟨0, _, Nat.zero_le _, rfl, hown1.1.symm ▸ rfl, fun j hj => absurd hj (Nat.not_lt_zero _), hown1, hb1⟩
  case round =>
    clear hown1 hb1
    obtain ⟨k, xs, hk, rfl, hxl, hm, hown, hbw⟩ := hrel
    have HM : Hid (Lay ps k xs) := hm
    have HL : Hid (xs.length = n * 2) := hxl
    clear hm hxl
    by_cases hlt : k < n
    · have hka : k < ps.length := by rw [← HN.out]; exact hlt
      rcases HH.out with e | ⟨b, off, rfl, hcells⟩
      · rw [e] at hka; simp at hka
      obtain ⟨v0, v1⟩ := hcells k hka
      have hblt : b < w.heap.size := World.block_lt_of_cell? w _ v0
      have c0 := (hbw.cell (p := ⟨b, off + k * 2, none⟩) hblt).trans v0
      have c1 := (hbw.cell (p := ⟨b, off + k * 2 + 1, none⟩) hblt).trans v1
      clear hcells v0 v1 hka
      generalize hn1 : (ps.getD k no).1 = nm at c0
      generalize hv1 : (ps.getD k no).2 = vl at c1
      have HN1 : Hid ((ps.getD k no).1 = nm) := hn1
      have HV1 : Hid ((ps.getD k no).2 = vl) := hv1
      clear hn1 hv1
      go_wp2_with fail
      refine (toAttr_any nm vl _).mono ?_
      rintro e w2 ⟨rfl, hb2⟩
      have hown2 := ow.own_below hown hb2
      have hbw2 := hbw.trans (hb2.mono hbw.size)
      clear hb2 hbw hown c0 c1
      have HO : Hid (w2.ownsRow w.heap.size 75 2 (.slice (some ⟨w.heap.size, 0, none⟩) n n) n xs) := hown2
      have q0 := hown2.cellAt (k * 2) (by omega)
      have q1 := hown2.cellAt (k * 2 + 1) (by omega)
      rw [List.getElem?_eq_getElem (by rw [HL.out]; omega)] at q0 q1
      have f0 := hown2.frozenAt (k * 2)
      have f1 := hown2.frozenAt (k * 2 + 1)
      clear hown2
      generalize xs[k * 2]'(by rw [HL.out]; omega) = u0 at q0
      generalize xs[k * 2 + 1]'(by rw [HL.out]; omega) = u1 at q1
      have hlt' : (k : Int) < (n : Int) := by omega
      go_wp2
      go_roundw
      case rel => exact ⟨k + 1, (xs.set (k * 2) (.string nm)).set (k * 2 + 1) (.string vl), by omega, by go_num, by rw [List.length_set, List.length_set]; exact HL.out, lay_step HM.out (by rw [HL.out]; omega) HN1.out HV1.out, ((HO.out.stored _ _).1.stored _ _).1, (hbw2.setCell (Nat.le_refl _) _).setCell (Nat.le_refl _) _⟩
      case measure => simp [intOf]; omega
    · have HQ : Hid (AttrsAt wr (.slice (some ⟨w.heap.size, 0, none⟩) n n) ps) := attrs_lay HN.out hown (fun j hj => HM.out j (by omega))
      have HOX : Hid (∃ xs, wr.ownsRow w.heap.size 75 2 (.slice (some ⟨w.heap.size, 0, none⟩) n n) n xs) := ⟨xs, hown⟩
      go_wp2
      go_ret
      exact ⟨rfl, HQ.out, hbw, HOX.out⟩
end Go.Proofs.Ytgjjeabjnkenkaa.it
namespace Go.Proofs.Ytgjjeabjnkenkaa.mu
open Go.ChangeShapes Go.WideShapes Go.ChangeAt Go.RowKit Go.Deep Go.Joins
open it
set_option linter.unusedVariables false
theorem own_lower {w : World} {b base e size n : Nat} {v : Value} {xs : List Value} (h : w.ownsRow base e size v n xs) (hb : b ≤ base) : w.ownsRow b e size v n xs :=
  ⟨h.1, h.2.imp id fun ⟨g, cap, cur, he, hb', r⟩ => ⟨g, cap, cur, he, Nat.le_trans hb hb', r⟩⟩
theorem own_block {w w' : World} {base e size n g m c : Nat} {xs : List Value} (h : w.ownsRow base e size (.slice (some ⟨g, 0, none⟩) m c) n xs) (hb : w'.heap[g]? = w.heap[g]?) : w'.ownsRow base e size (.slice (some ⟨g, 0, none⟩) m c) n xs := by
  obtain ⟨h1, h2⟩ := h
  refine ⟨h1, ?_⟩
  rcases h2 with ⟨e, hz⟩ | ⟨g', cap, cur, e, hB, hh, r⟩
  · exact .inl ⟨e, hz⟩
  · cases e
    exact .inr ⟨g, _, cur, rfl, hB, hb.trans hh, r⟩
set_option maxHeartbeats 2000000 in
set_option maxRecDepth 100000 in
theorem toMut_own (x : Mu) (v : Value) (w : World) (h : AttrsAt w v x.ps) (hn : x.ps.length ≤ 1048576) :
    Calls Try.prog 11 #[MV x v] w fun e w' => ∃ g, e = .returned (MV x (.slice (some ⟨g, 0, none⟩) x.ps.length x.ps.length)) ∧ AttrsAt w' (.slice (some ⟨g, 0, none⟩) x.ps.length x.ps.length) x.ps ∧ Below w.heap.size w w' ∧ ∃ xs, w'.ownsRow w.heap.size 75 2 (.slice (some ⟨g, 0, none⟩) x.ps.length x.ps.length) x.ps.length xs := by
  have HB : Hid (AttrsAt w v x.ps) := h
  obtain ⟨a, cap, rfl, _⟩ := h
  obtain ⟨W, hW⟩ : ∃ W, W = (((w.alloc (.cells #[.int .i64 x.k, .int .i64 x.u, .int .i64 x.m, .int .i64 x.f, .string x.b, .slice a x.ps.length cap] 25)).alloc (.cells #[.int .i64 0, .int .i64 0, .int .i64 0, .int .i64 0, .string ⟨#[]⟩, .slice none 0 0] 34)).alloc (.cells #[.int .i64 x.k, .int .i64 x.u, .int .i64 x.m, .int .i64 x.f, .string x.b, .slice none 0 0] 34)) := ⟨_, rfl⟩
  unfold MV
  obtain ⟨k, u, m, f, b, ps⟩ := x
  simp only at *
  go_enter Try.func11, Try.ntmps11
  go_wp2_with fail
  have b3 : Below w.heap.size w W := by rw [hW]; exact ((new_below w _ _).alloc (by simp) _).alloc (by simp; omega) _
  have sz : W.heap.size = w.heap.size + 3 := by rw [hW]; simp
  have k1 : W.heap[w.heap.size + 1]? = some (.cells #[.int .i64 0, .int .i64 0, .int .i64 0, .int .i64 0, .string ⟨#[]⟩, .slice none 0 0] 34 (0, 0)) := by rw [hW]; exact new1 _ _ _ _
  have k2 : Lies W (w.heap.size + 1 + 1) 34 ⟨k, u, m, f, b, ps⟩ (.slice none 0 0) := by rw [hW]; exact new2 _ _ _ _
  rw [← hW]
  have HA : Hid (AttrsAt W (.slice a ps.length cap) ps) := at_below HB.out b3
  clear HB hW
  refine (toAttrS_own _ ps _ HA.out hn).mono ?_
  rintro e w2 ⟨rfl, hv', hb2, hox⟩
  have HOX : Hid (∃ xs, w2.ownsRow W.heap.size 75 2 (.slice (some ⟨W.heap.size, 0, none⟩) ps.length ps.length) ps.length xs) := hox
  clear hox
  have HV : Hid (AttrsAt w2 (.slice (some ⟨W.heap.size, 0, none⟩) ps.length ps.length) ps) := hv'
  clear hv'
  have m1 := (hb2.block (w.heap.size + 1) (by omega)).trans k1
  have m2 := k2.keep hb2
  have b4 := b3.trans (hb2.mono b3.size)
  clear k1 k2 HA hb2 b3
  have c10 : w2.cell? ⟨w.heap.size + 1, 0, none⟩ = some (.int .i64 0) := by rw [cell_of_row w2 _ _ _ _ _ m1]; rfl
  have c11 : w2.cell? ⟨w.heap.size + 1, 0 + 1, none⟩ = some (.int .i64 0) := by rw [cell_of_row w2 _ _ _ _ _ m1]; rfl
  have c12 : w2.cell? ⟨w.heap.size + 1, 0 + 2, none⟩ = some (.int .i64 0) := by rw [cell_of_row w2 _ _ _ _ _ m1]; rfl
  have c13 : w2.cell? ⟨w.heap.size + 1, 0 + 3, none⟩ = some (.int .i64 0) := by rw [cell_of_row w2 _ _ _ _ _ m1]; rfl
  have c14 : w2.cell? ⟨w.heap.size + 1, 0 + 4, none⟩ = some (.string ⟨#[]⟩) := by rw [cell_of_row w2 _ _ _ _ _ m1]; rfl
  have c15 : w2.cell? ⟨w.heap.size + 1, 0 + 5, none⟩ = some (.slice none 0 0) := by rw [cell_of_row w2 _ _ _ _ _ m1]; rfl
  have c20 := m2.c0
  have c21 := m2.c1
  have c22 := m2.c2
  have c23 := m2.c3
  have c24 := m2.c4
  have c25 := m2.c5
  have f1 : ∀ j, w2.frozen? ⟨w.heap.size + 1, j, none⟩ = false := fun j => frozen_of_row w2 _ j _ _ m1
  have f2 : ∀ j, w2.frozen? ⟨w.heap.size + 1 + 1, j, none⟩ = false := fun j => frozen_of_row w2 _ j _ _ m2
  have HM1 : Hid (w2.heap[w.heap.size + 1]? = some (.cells #[.int .i64 0, .int .i64 0, .int .i64 0, .int .i64 0, .string ⟨#[]⟩, .slice none 0 0] 34 (0, 0))) := m1
  have HSZ : Hid (W.heap.size = w.heap.size + 3) := sz
  clear m1 m2 sz
  simp only at c20 c21 c22 c23 c24 c25
  go_wp2
  have M5 := fin_block HM1.out ⟨k, u, m, f, b, ps⟩ (.slice (some ⟨W.heap.size, 0, none⟩) ps.length ps.length)
  have b5 := fin_below b4 ⟨k, u, m, f, b, ps⟩ (.slice (some ⟨W.heap.size, 0, none⟩) ps.length ps.length)
  have hat := at_other HV.out (fin_other w2 w.heap.size W.heap.size ⟨k, u, m, f, b, ps⟩ (.slice (some ⟨W.heap.size, 0, none⟩) ps.length ps.length) (by rw [HSZ.out]; omega) (by rw [HSZ.out]; omega))
  have hxo : ∃ xs, (fin w2 w.heap.size ⟨k, u, m, f, b, ps⟩ (.slice (some ⟨W.heap.size, 0, none⟩) ps.length ps.length)).ownsRow w.heap.size 75 2 (.slice (some ⟨W.heap.size, 0, none⟩) ps.length ps.length) ps.length xs := by
    obtain ⟨xs, ho⟩ := HOX.out
    exact ⟨xs, own_block (own_lower ho (by rw [HSZ.out]; omega)) (fin_other w2 w.heap.size W.heap.size ⟨k, u, m, f, b, ps⟩ (.slice (some ⟨W.heap.size, 0, none⟩) ps.length ps.length) (by rw [HSZ.out]; omega) (by rw [HSZ.out]; omega))⟩
  clear c10 c11 c12 c13 c14 c15 c20 c21 c22 c23 c24 c25 f1 f2 HV b4 HM1
  change bodyPost _ _ _ _ _ (fin w2 w.heap.size ⟨k, u, m, f, b, ps⟩ (.slice (some ⟨W.heap.size, 0, none⟩) ps.length ps.length))
  generalize fin w2 w.heap.size ⟨k, u, m, f, b, ps⟩ (.slice (some ⟨W.heap.size, 0, none⟩) ps.length ps.length) = X at M5 b5 hat hxo ⊢
  have x0 : X.cell? ⟨w.heap.size + 1, 0, none⟩ = some (.int .i64 k) := M5.c0
  have x1 : X.cell? ⟨w.heap.size + 1, 1, none⟩ = some (.int .i64 u) := M5.c1
  have x2 : X.cell? ⟨w.heap.size + 1, 2, none⟩ = some (.int .i64 m) := M5.c2
  have x3 : X.cell? ⟨w.heap.size + 1, 3, none⟩ = some (.int .i64 f) := M5.c3
  have x4 : X.cell? ⟨w.heap.size + 1, 4, none⟩ = some (.string b) := M5.c4
  have x5 : X.cell? ⟨w.heap.size + 1, 5, none⟩ = some (.slice (some ⟨W.heap.size, 0, none⟩) ps.length ps.length) := M5.c5
  exact bodyPost_ret (v := .agg #[.int .i64 k, .int .i64 u, .int .i64 m, .int .i64 f, .string b, .slice (some ⟨W.heap.size, 0, none⟩) ps.length ps.length]) (by simp [results, Try.results11, go_sem, x0, x1, x2, x3, x4, x5]) rfl ⟨_, rfl, hat, b5, hxo⟩
end Go.Proofs.Ytgjjeabjnkenkaa.mu
