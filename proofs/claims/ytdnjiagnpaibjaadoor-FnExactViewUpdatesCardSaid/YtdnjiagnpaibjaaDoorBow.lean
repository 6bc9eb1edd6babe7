/-
  The laws' own copies of mails, texts, boxes and lists of boxes: their rows are their own memory.
-/
import Derived.Test.YtdnjiagnpaibjaaDoorBxb
import Derived.Test.YtdnjiagnpaibjaaDoorMuo
namespace Go.Proofs.YtdnjiagnpaibjaaDoor.st
open Go.ChangeShapes Go.WideShapes Go.ChangeAt Go.RowKit Go.Deep Go.Joins
set_option linter.unusedVariables false
set_option maxHeartbeats 4000000 in
set_option maxRecDepth 100000 in
theorem toStoredS_own (N : Nat) (v : Value) (es : List St) (w : World) (h : MailsIn w N v es) (hN : N ≤ w.heap.size) (hn : es.length ≤ 1048576) :
    Calls Tryd.prog 29 #[v] w fun e w' => e = .returned (.slice (some ⟨w.heap.size, 0, none⟩) es.length es.length) ∧ MailsIn w' w'.heap.size (.slice (some ⟨w.heap.size, 0, none⟩) es.length es.length) es ∧ Below w.heap.size w w' ∧ ∃ xs, w'.ownsRow w.heap.size 49 3 (.slice (some ⟨w.heap.size, 0, none⟩) es.length es.length) es.length xs := by
  obtain ⟨a, cap, rfl, h⟩ := h
  obtain ⟨i0, hi, hz0, hz1, hz2⟩ := info_parts infoS
  obtain ⟨n, hn'⟩ : ∃ n, n = es.length := ⟨_, rfl⟩
  have HN : Hid (n = es.length) := hn'
  have HH : Hid (es = [] ∨ ∃ b off, a = some ⟨b, off, none⟩ ∧ b < N ∧ ∀ j, j < es.length → At3 w b (off + j * 3) (es.getD j noS)) := h
  rw [← hn'] at hn ⊢
  clear h hn'
  go_enter Tryd.func29, Tryd.ntmps29
  go_wp2_with (at_make; refine wpList_make_full _ rfl _ _ 30 rfl w.heap.size 49 i0 _ 3 Tryd.underlying30 hi hz0 hz1 _ _ _ _ n rfl rfl rfl rfl (by rw [hz2]; omega) (by unfold maxLen; omega) (Nat.le_refl _) ?_; intro w1 hown1 hg1)
  have hb1 : Below w.heap.size w w1 := (Below.refl _ _).grown hg1 (Nat.le_refl _) (fun k hk => by cases hk)
  clear hg1
  go_loopw [4] (fun i wr => ∃ (k : Nat) (xs : List Value), k ≤ n ∧ i = .int .i64 k ∧ xs.length = n * 3 ∧ Lay es k xs ∧ wr.ownsRow w.heap.size 49 3 (.slice (some ⟨w.heap.size, 0, none⟩) n n) n xs ∧ Below w.heap.size w wr) (fun i _ => n - (intOf i).toNat)
  case atStart => exact ⟨0, _, Nat.zero_le _, rfl, hown1.1.symm ▸ rfl, fun j hj => absurd hj (Nat.not_lt_zero _), hown1, hb1⟩
  case round =>
    clear hown1 hb1
    obtain ⟨k, xs, hk, rfl, hxl, hm, hown, hbw⟩ := hrel
    have HM : Hid (Lay es k xs) := hm
    have HL : Hid (xs.length = n * 3) := hxl
    clear hm hxl
    by_cases hlt : k < n
    · have hka : k < es.length := by rw [← HN.out]; exact hlt
      rcases HH.out with e | ⟨b, off, rfl, _, hcells⟩
      · rw [e] at hka; simp at hka
      have hat := (hcells k hka).keep hbw (hcells k hka).lt
      clear hcells hka
      generalize hx : es.getD k noS = x at hat
      have HX : Hid (es.getD k noS = x) := hx
      obtain ⟨c0, c1, c2⟩ := hat
      clear hx
      have HE : Hid (∀ w, Calls Tryd.prog 21 #[.agg #[.int .i64 x.u, .int .i64 x.f, .string x.t]] w fun r w' => r = .returned (.agg #[.int .i64 x.u, .int .i64 x.f, .string x.t]) ∧ Below w.heap.size w w') := fun w => toStored_any x w
      go_wp2_with fail
      refine (HE.out _).mono ?_
      rintro e w2 ⟨rfl, hb2⟩
      have hown2 := ow.own_below hown hb2
      have hbw2 := hbw.trans (hb2.mono hbw.size)
      clear hb2 hbw hown c0 c1 c2 HE
      have HO : Hid (w2.ownsRow w.heap.size 49 3 (.slice (some ⟨w.heap.size, 0, none⟩) n n) n xs) := hown2
      have q0 := hown2.cellAt (k * 3) (by omega)
      have q1 := hown2.cellAt (k * 3 + 1) (by omega)
      have q2 := hown2.cellAt (k * 3 + 2) (by omega)
      rw [List.getElem?_eq_getElem (by rw [HL.out]; omega)] at q0 q1 q2
      have f0 := hown2.frozenAt (k * 3)
      have f1 := hown2.frozenAt (k * 3 + 1)
      have f2 := hown2.frozenAt (k * 3 + 2)
      clear hown2
      generalize xs[k * 3]'(by rw [HL.out]; omega) = u0 at q0
      generalize xs[k * 3 + 1]'(by rw [HL.out]; omega) = u1 at q1
      generalize xs[k * 3 + 2]'(by rw [HL.out]; omega) = u2 at q2
      have hlt' : (k : Int) < (n : Int) := by omega
      go_wp2
      go_roundw
      case rel => exact ⟨k + 1, put3 xs (k * 3) x, by omega, by go_num, by rw [put_len]; exact HL.out, lay_step HM.out (by rw [HL.out]; omega) HX.out, (((HO.out.stored _ _).1.stored _ _).1.stored _ _).1, ((hbw2.setCell (Nat.le_refl _) _).setCell (Nat.le_refl _) _).setCell (Nat.le_refl _) _⟩
      case measure => simp [intOf]; omega
    · have hgl : w.heap.size < wr.heap.size := by
        rcases hown.2 with ⟨hv, _⟩ | ⟨g', cap', cur, hv, _, hb', _⟩
        · cases hv
        · cases hv
          exact (Array.getElem?_eq_some_iff.1 hb').1
      have HQ : Hid (MailsIn wr wr.heap.size (.slice (some ⟨w.heap.size, 0, none⟩) n n) es) := mails_lay HN.out hown (fun j hj => HM.out j (by omega)) hgl
      have HOX : Hid (∃ xs, wr.ownsRow w.heap.size 49 3 (.slice (some ⟨w.heap.size, 0, none⟩) n n) n xs) := ⟨xs, hown⟩
      go_wp2
      go_ret
      exact ⟨rfl, HQ.out, hbw, HOX.out⟩
end Go.Proofs.YtdnjiagnpaibjaaDoor.st
namespace Go.Proofs.YtdnjiagnpaibjaaDoor.tx
open Go.ChangeShapes Go.WideShapes Go.ChangeAt Go.RowKit Go.Deep Go.Joins
open ky
set_option linter.unusedVariables false
set_option maxHeartbeats 4000000 in
set_option maxRecDepth 100000 in
theorem toTexts_own (N : Nat) (v : Value) (ks : List ByteArray) (w : World) (h : TextsIn w N v ks) (hN : N ≤ w.heap.size) (hn : ks.length ≤ 1048576) :
    Calls Tryd.prog 22 #[v] w fun e w' => e = .returned (.slice (some ⟨w.heap.size, 0, none⟩) ks.length ks.length) ∧ TextsIn w' w'.heap.size (.slice (some ⟨w.heap.size, 0, none⟩) ks.length ks.length) ks ∧ Below w.heap.size w w' ∧ ∃ xs, w'.ownsRow w.heap.size 9 1 (.slice (some ⟨w.heap.size, 0, none⟩) ks.length ks.length) ks.length xs := by
  obtain ⟨a, cap, rfl, h⟩ := h
  obtain ⟨i0, hi, hz0, hz1, hz2⟩ := info_parts infoT
  obtain ⟨n, hn'⟩ : ∃ n, n = ks.length := ⟨_, rfl⟩
  have HN : Hid (n = ks.length) := hn'
  have HH : Hid (ks = [] ∨ ∃ b off, a = some ⟨b, off, none⟩ ∧ b < N ∧ ∀ j, j < ks.length → w.cell? ⟨b, off + j, none⟩ = some (.string (ks.getD j nt))) := h
  rw [← hn'] at hn ⊢
  clear h hn'
  go_enter Tryd.func22, Tryd.ntmps22
  go_wp2_with (at_make; refine wpList_make_full _ rfl _ _ 23 rfl w.heap.size 9 i0 _ 1 Tryd.underlying23 hi hz0 hz1 _ _ _ _ n rfl rfl rfl rfl (by rw [hz2]; omega) (by unfold maxLen; omega) (Nat.le_refl _) ?_; intro w1 hown1 hg1)
  have hb1 : Below w.heap.size w w1 := (Below.refl _ _).grown hg1 (Nat.le_refl _) (fun k hk => by cases hk)
  clear hg1
  go_loopw [4] (fun i wr => ∃ (k : Nat) (xs : List Value), k ≤ n ∧ i = .int .i64 k ∧ xs.length = n ∧ Lay ks k xs ∧ wr.ownsRow w.heap.size 9 1 (.slice (some ⟨w.heap.size, 0, none⟩) n n) n xs ∧ Below w.heap.size w wr) (fun i _ => n - (intOf i).toNat)
  case atStart => exact ⟨0, _, Nat.zero_le _, rfl, by have := hown1.1; omega, fun j hj => absurd hj (Nat.not_lt_zero _), hown1, hb1⟩
  case round =>
    clear hown1 hb1
    obtain ⟨k, xs, hk, rfl, hxl, hm, hown, hbw⟩ := hrel
    have HM : Hid (Lay ks k xs) := hm
    have HL : Hid (xs.length = n) := hxl
    clear hm hxl
    by_cases hlt : k < n
    · have hka : k < ks.length := by rw [← HN.out]; exact hlt
      rcases HH.out with e | ⟨b, off, rfl, hbN, hcells⟩
      · rw [e] at hka; simp at hka
      have c0 := (hbw.cell (p := ⟨b, off + k, none⟩) (Nat.lt_of_lt_of_le hbN hN)).trans (hcells k hka)
      clear hcells hka
      generalize hx : ks.getD k nt = x at c0
      have HX : Hid (ks.getD k nt = x) := hx
      clear hx
      have HO : Hid (wr.ownsRow w.heap.size 9 1 (.slice (some ⟨w.heap.size, 0, none⟩) n n) n xs) := hown
      have q0 := hown.cellAt k (by omega)
      rw [List.getElem?_eq_getElem (by rw [HL.out]; omega)] at q0
      have f0 := hown.frozenAt k
      clear hown
      generalize xs[k]'(by rw [HL.out]; omega) = u0 at q0
      have hlt' : (k : Int) < (n : Int) := by omega
      go_wp2
      go_roundw
      case rel => exact ⟨k + 1, xs.set k (.string x), by omega, by go_num, by rw [List.length_set]; exact HL.out, lay_step HM.out (by rw [HL.out]; omega) HX.out, (HO.out.stored _ _).1, hbw.setCell (Nat.le_refl _) _⟩
      case measure => simp [intOf]; omega
    · have hgl : w.heap.size < wr.heap.size := by
        rcases hown.2 with ⟨hv, _⟩ | ⟨g', cap', cur, hv, _, hb', _⟩
        · cases hv
        · cases hv
          exact (Array.getElem?_eq_some_iff.1 hb').1
      have HQ : Hid (TextsIn wr wr.heap.size (.slice (some ⟨w.heap.size, 0, none⟩) n n) ks) := texts_lay HN.out hown (fun j hj => HM.out j (by omega)) hgl
      have HOX : Hid (∃ xs, wr.ownsRow w.heap.size 9 1 (.slice (some ⟨w.heap.size, 0, none⟩) n n) n xs) := ⟨xs, hown⟩
      go_wp2
      go_ret
      exact ⟨rfl, HQ.out, hbw, HOX.out⟩
end Go.Proofs.YtdnjiagnpaibjaaDoor.tx
namespace Go.Proofs.YtdnjiagnpaibjaaDoor.bx
open Go.ChangeShapes Go.WideShapes Go.ChangeAt Go.RowKit Go.Deep Go.Joins
open st gr
set_option linter.unusedVariables false
set_option maxHeartbeats 4000000 in
set_option maxRecDepth 100000 in
theorem toBox_own (x : Bx) (v u : Value) (w : World) (h : RowsAt w v u x.ms x.ks) (hn : x.ms.length ≤ 1048576 ∧ x.ks.length ≤ 1048576) :
    Calls Tryd.prog 8 #[BV x v u] w fun e w' => ∃ g g', e = .returned (BV x (.slice (some ⟨g, 0, none⟩) x.ms.length x.ms.length) (.slice (some ⟨g', 0, none⟩) x.ks.length x.ks.length)) ∧ RowsAt w' (.slice (some ⟨g, 0, none⟩) x.ms.length x.ms.length) (.slice (some ⟨g', 0, none⟩) x.ks.length x.ks.length) x.ms x.ks ∧ Below w.heap.size w w' ∧ w.heap.size ≤ g ∧ w.heap.size ≤ g' ∧ (∃ xs, w'.ownsRow w.heap.size 49 3 (.slice (some ⟨g, 0, none⟩) x.ms.length x.ms.length) x.ms.length xs) ∧ (∃ xs, w'.ownsRow w.heap.size 9 1 (.slice (some ⟨g', 0, none⟩) x.ks.length x.ks.length) x.ks.length xs) := by
  have HB : Hid (RowsAt w v u x.ms x.ks) := h
  obtain ⟨⟨a, cap, rfl, _⟩, ⟨a1, cap1, rfl, _⟩⟩ := h
  obtain ⟨W, hW⟩ : ∃ W, W = (((w.alloc (.cells #[.string x.nm, .int .i64 x.vd, .int .i64 x.nx, .slice a x.ms.length cap, .slice a1 x.ks.length cap1] 25)).alloc (.cells #[.string ⟨#[]⟩, .int .i64 0, .int .i64 0, .slice none 0 0, .slice none 0 0] 32)).alloc (.cells #[.string x.nm, .int .i64 x.vd, .int .i64 x.nx, .slice none 0 0, .slice none 0 0] 32)) := ⟨_, rfl⟩
  obtain ⟨nm, vd, nx, ms, ks⟩ := x
  unfold BV
  simp only at HB hn hW ⊢
  go_enter Tryd.func8, Tryd.ntmps8
  go_wp2_with fail
  have b3 : Below w.heap.size w W := by rw [hW]; exact ((new_below w _ _).alloc (by simp) _).alloc (by simp; omega) _
  have sz : W.heap.size = w.heap.size + 3 := by rw [hW]; simp
  have k0 : Lies W w.heap.size 25 ⟨nm, vd, nx, ms, ks⟩ (.slice a ms.length cap) (.slice a1 ks.length cap1) := by
    rw [hW]; exact ((lies_new w 25 ⟨nm, vd, nx, ms, ks⟩ (.slice a ms.length cap) (.slice a1 ks.length cap1)).keep (new_below _ _ _)).keep (new_below _ _ _)
  have k1 : W.heap[w.heap.size + 1]? = some (.cells #[.string ⟨#[]⟩, .int .i64 0, .int .i64 0, .slice none 0 0, .slice none 0 0] 32 (0, 0)) := by rw [hW]; exact new1 _ _ _ _
  have k2 : Lies W (w.heap.size + 1 + 1) 32 ⟨nm, vd, nx, ms, ks⟩ (.slice none 0 0) (.slice none 0 0) := by rw [hW]; exact new2 _ _ _ _
  rw [← hW]
  have HA : Hid (RowsAt W (.slice a ms.length cap) (.slice a1 ks.length cap1) ms ks) := rows_below HB.out b3
  have HB0 : Hid (tx.TextsIn w w.heap.size (.slice a1 ks.length cap1) ks) := HB.out.2
  clear HB hW
  refine (toStoredS_own _ _ ms _ HA.out.1 (Nat.le_refl _) hn.1).mono ?_
  rintro e w2 ⟨rfl, hv', hb2, hox⟩
  have HOX2 : Hid (∃ xs, w2.ownsRow w.heap.size 49 3 (.slice (some ⟨W.heap.size, 0, none⟩) ms.length ms.length) ms.length xs) := hox.imp fun _ h => mu.own_lower h (by rw [sz]; omega)
  clear hox
  have HV : Hid (MailsIn w2 w2.heap.size (.slice (some ⟨W.heap.size, 0, none⟩) ms.length ms.length) ms) := hv'
  clear hv'
  have m0 := k0.keep hb2
  have m1 := (hb2.block (w.heap.size + 1) (by omega)).trans k1
  have m2 := k2.keep hb2
  have b4 := b3.trans (hb2.mono b3.size)
  have HA2 : Hid (RowsAt w2 (.slice a ms.length cap) (.slice a1 ks.length cap1) ms ks) := rows_below HA.out hb2
  have HSZ : Hid (W.heap.size = w.heap.size + 3) := sz
  have HS2 : Hid (W.heap.size ≤ w2.heap.size) := hb2.size
  clear k0 k1 k2 hb2 b3 sz
  have c04 := m0.c4
  have c23 := m2.c3
  have f2 : w2.frozen? ⟨w.heap.size + 1 + 1, 3, none⟩ = false := frozen_of_row w2 _ 3 _ _ m2
  have f2' : w2.frozen? ⟨w.heap.size + 1 + 1, 0 + 3, none⟩ = false := f2
  have HW2 : Hid (w2.heap[w.heap.size + 1 + 1]? = some (.cells #[.string nm, .int .i64 vd, .int .i64 nx, .slice none 0 0, .slice none 0 0] 32 (0, 0))) := m2
  have HW1 : Hid (w2.heap[w.heap.size + 1]? = some (.cells #[.string ⟨#[]⟩, .int .i64 0, .int .i64 0, .slice none 0 0, .slice none 0 0] 32 (0, 0))) := m1
  clear m0 m1 m2
  go_wp2_with fail
  obtain ⟨V, hV⟩ : ∃ V, V = Value.slice (some ⟨W.heap.size, 0, none⟩) ms.length ms.length := ⟨_, rfl⟩
  obtain ⟨w3, hw3⟩ : ∃ w3, w3 = w2.setCell ⟨w.heap.size + 1 + 1, 3, none⟩ V := ⟨_, rfl⟩
  have b5 : Below w.heap.size w w3 := by rw [hw3]; exact b4.setCell (by simp; omega) _
  have s3 : w3.heap.size = w2.heap.size := by rw [hw3]; simp
  have n2 : Lies w3 (w.heap.size + 1 + 1) 32 ⟨nm, vd, nx, ms, ks⟩ V (.slice none 0 0) := by rw [hw3]; exact heap_setCell_same _ _ 3 _ _ _ HW2.out
  have n1 : w3.heap[w.heap.size + 1]? = some (.cells #[.string ⟨#[]⟩, .int .i64 0, .int .i64 0, .slice none 0 0, .slice none 0 0] 32 (0, 0)) := by rw [hw3, heap_setCell_other _ _ _ _ (by simp)]; exact HW1.out
  have HV3 : Hid (MailsIn w3 w3.heap.size (.slice (some ⟨W.heap.size, 0, none⟩) ms.length ms.length) ms) := mails_other HV.out (by rw [hw3, heap_setCell_other _ _ _ _ (by rw [HSZ.out]; simp)]) (fun h => by rw [s3]; exact h)
  have HA3 : Hid (tx.TextsIn w3 w.heap.size (.slice a1 ks.length cap1) ks) := tx.texts_below HB0.out b5 (Nat.le_refl _)
  have HOX3 : Hid (∃ xs, w3.ownsRow w.heap.size 49 3 (.slice (some ⟨W.heap.size, 0, none⟩) ms.length ms.length) ms.length xs) := HOX2.out.imp fun _ h => mu.own_block h (by rw [hw3, heap_setCell_other _ _ _ _ (by rw [HSZ.out]; simp)])
  clear HOX2
  rw [← hV, ← hw3]
  have HVH : Hid (V = Value.slice (some ⟨W.heap.size, 0, none⟩) ms.length ms.length) := hV
  clear hV
  clear HV HA2 c04 c23 f2 f2' HW1 HW2 b4
  refine (tx.toTexts_own _ _ ks _ HA3.out b5.size hn.2).mono ?_
  rintro e w4 ⟨rfl, hv4, hb4, hoy⟩
  have HOY4 : Hid (∃ xs, w4.ownsRow w.heap.size 9 1 (.slice (some ⟨w3.heap.size, 0, none⟩) ks.length ks.length) ks.length xs) := hoy.imp fun _ h => mu.own_lower h b5.size
  have HOX4 : Hid (∃ xs, w4.ownsRow w.heap.size 49 3 (.slice (some ⟨W.heap.size, 0, none⟩) ms.length ms.length) ms.length xs) := HOX3.out.imp fun _ h => ow.own_below h hb4
  clear hoy HOX3
  have HU : Hid (tx.TextsIn w4 w4.heap.size (.slice (some ⟨w3.heap.size, 0, none⟩) ks.length ks.length) ks) := hv4
  have HV4 : Hid (MailsIn w4 w4.heap.size (.slice (some ⟨W.heap.size, 0, none⟩) ms.length ms.length) ms) := mails_more (mails_below HV3.out hb4 (Nat.le_refl _)) hb4.size
  have q1 := (hb4.block (w.heap.size + 1) (by have := HSZ.out; have := HS2.out; omega)).trans n1
  have q2 := n2.keep hb4
  have b6 := b5.trans (hb4.mono b5.size)
  have HS3 : Hid (w.heap.size + 3 ≤ w3.heap.size) := by have := HSZ.out; have := HS2.out; exact (by omega : w.heap.size + 3 ≤ w3.heap.size)
  clear hv4 hb4 n1 n2 b5 HV3 HA3 s3 hw3
  have c10 : w4.cell? ⟨w.heap.size + 1, 0, none⟩ = some (.string ⟨#[]⟩) := by rw [cell_of_row w4 _ _ _ _ _ q1]; rfl
  have c11 : w4.cell? ⟨w.heap.size + 1, 0 + 1, none⟩ = some (.int .i64 0) := by rw [cell_of_row w4 _ _ _ _ _ q1]; rfl
  have c12 : w4.cell? ⟨w.heap.size + 1, 0 + 2, none⟩ = some (.int .i64 0) := by rw [cell_of_row w4 _ _ _ _ _ q1]; rfl
  have c13 : w4.cell? ⟨w.heap.size + 1, 0 + 3, none⟩ = some (.slice none 0 0) := by rw [cell_of_row w4 _ _ _ _ _ q1]; rfl
  have c14 : w4.cell? ⟨w.heap.size + 1, 0 + 4, none⟩ = some (.slice none 0 0) := by rw [cell_of_row w4 _ _ _ _ _ q1]; rfl
  have c20 := q2.c0
  have c21 := q2.c1
  have c22 := q2.c2
  have c23 := q2.c3
  have c24 := q2.c4
  have f1 : ∀ j, w4.frozen? ⟨w.heap.size + 1, j, none⟩ = false := fun j => frozen_of_row w4 _ j _ _ q1
  have f2 : ∀ j, w4.frozen? ⟨w.heap.size + 1 + 1, j, none⟩ = false := fun j => frozen_of_row w4 _ j _ _ q2
  have HQ1 : Hid (w4.heap[w.heap.size + 1]? = some (.cells #[.string ⟨#[]⟩, .int .i64 0, .int .i64 0, .slice none 0 0, .slice none 0 0] 32 (0, 0))) := q1
  clear q1 q2
  simp only at c20 c21 c22
  obtain rfl := HVH.out
  clear HVH
  go_wp2
  have M5 := fin_block HQ1.out ⟨nm, vd, nx, ms, ks⟩ (.slice (some ⟨W.heap.size, 0, none⟩) ms.length ms.length) (.slice (some ⟨w3.heap.size, 0, none⟩) ks.length ks.length)
  have b7 := fin_below b6 ⟨nm, vd, nx, ms, ks⟩ (.slice (some ⟨W.heap.size, 0, none⟩) ms.length ms.length) (.slice (some ⟨w3.heap.size, 0, none⟩) ks.length ks.length)
  have hsz : (fin w4 w.heap.size ⟨nm, vd, nx, ms, ks⟩ (.slice (some ⟨W.heap.size, 0, none⟩) ms.length ms.length) (.slice (some ⟨w3.heap.size, 0, none⟩) ks.length ks.length)).heap.size = w4.heap.size := by simp [fin]
  have hat : MailsIn (fin w4 w.heap.size ⟨nm, vd, nx, ms, ks⟩ (.slice (some ⟨W.heap.size, 0, none⟩) ms.length ms.length) (.slice (some ⟨w3.heap.size, 0, none⟩) ks.length ks.length)) (fin w4 w.heap.size ⟨nm, vd, nx, ms, ks⟩ (.slice (some ⟨W.heap.size, 0, none⟩) ms.length ms.length) (.slice (some ⟨w3.heap.size, 0, none⟩) ks.length ks.length)).heap.size (.slice (some ⟨W.heap.size, 0, none⟩) ms.length ms.length) ms := mails_other HV4.out (fin_other _ _ _ _ _ _ (by rw [HSZ.out]; omega) (by rw [HSZ.out]; omega)) (fun h => by rw [hsz]; exact h)
  have hau : tx.TextsIn (fin w4 w.heap.size ⟨nm, vd, nx, ms, ks⟩ (.slice (some ⟨W.heap.size, 0, none⟩) ms.length ms.length) (.slice (some ⟨w3.heap.size, 0, none⟩) ks.length ks.length)) (fin w4 w.heap.size ⟨nm, vd, nx, ms, ks⟩ (.slice (some ⟨W.heap.size, 0, none⟩) ms.length ms.length) (.slice (some ⟨w3.heap.size, 0, none⟩) ks.length ks.length)).heap.size (.slice (some ⟨w3.heap.size, 0, none⟩) ks.length ks.length) ks := texts_other HU.out (fin_other _ _ _ _ _ _ (by have := HS3.out; omega) (by have := HS3.out; omega)) (fun h => by rw [hsz]; exact h)
  have hox : ∃ xs, (fin w4 w.heap.size ⟨nm, vd, nx, ms, ks⟩ (.slice (some ⟨W.heap.size, 0, none⟩) ms.length ms.length) (.slice (some ⟨w3.heap.size, 0, none⟩) ks.length ks.length)).ownsRow w.heap.size 49 3 (.slice (some ⟨W.heap.size, 0, none⟩) ms.length ms.length) ms.length xs := HOX4.out.imp fun _ h => mu.own_block h (fin_other _ _ _ _ _ _ (by rw [HSZ.out]; omega) (by rw [HSZ.out]; omega))
  have hoy : ∃ xs, (fin w4 w.heap.size ⟨nm, vd, nx, ms, ks⟩ (.slice (some ⟨W.heap.size, 0, none⟩) ms.length ms.length) (.slice (some ⟨w3.heap.size, 0, none⟩) ks.length ks.length)).ownsRow w.heap.size 9 1 (.slice (some ⟨w3.heap.size, 0, none⟩) ks.length ks.length) ks.length xs := HOY4.out.imp fun _ h => mu.own_block h (fin_other _ _ _ _ _ _ (by have := HS3.out; omega) (by have := HS3.out; omega))
  clear HOX4 HOY4
  clear c10 c11 c12 c13 c14 c20 c21 c22 c23 c24 f1 f2 HV4 HU b6 HQ1 hsz
  change bodyPost _ _ _ _ _ (fin w4 w.heap.size ⟨nm, vd, nx, ms, ks⟩ (.slice (some ⟨W.heap.size, 0, none⟩) ms.length ms.length) (.slice (some ⟨w3.heap.size, 0, none⟩) ks.length ks.length))
  generalize fin w4 w.heap.size ⟨nm, vd, nx, ms, ks⟩ (.slice (some ⟨W.heap.size, 0, none⟩) ms.length ms.length) (.slice (some ⟨w3.heap.size, 0, none⟩) ks.length ks.length) = X at M5 b7 hat hau hox hoy ⊢
  have x0 : X.cell? ⟨w.heap.size + 1, 0, none⟩ = some (.string nm) := M5.c0
  have x1 : X.cell? ⟨w.heap.size + 1, 1, none⟩ = some (.int .i64 vd) := M5.c1
  have x2 : X.cell? ⟨w.heap.size + 1, 2, none⟩ = some (.int .i64 nx) := M5.c2
  have x3 : X.cell? ⟨w.heap.size + 1, 3, none⟩ = some (.slice (some ⟨W.heap.size, 0, none⟩) ms.length ms.length) := M5.c3
  have x4 : X.cell? ⟨w.heap.size + 1, 4, none⟩ = some (.slice (some ⟨w3.heap.size, 0, none⟩) ks.length ks.length) := M5.c4
  exact bodyPost_ret (v := .agg #[.string nm, .int .i64 vd, .int .i64 nx, (.slice (some ⟨W.heap.size, 0, none⟩) ms.length ms.length), (.slice (some ⟨w3.heap.size, 0, none⟩) ks.length ks.length)]) (by simp [results, Tryd.results8, go_sem, x0, x1, x2, x3, x4]) rfl ⟨_, _, rfl, ⟨hat, hau⟩, b7, by rw [HSZ.out]; omega, by have := HS3.out; omega, hox, hoy⟩
end Go.Proofs.YtdnjiagnpaibjaaDoor.bx
