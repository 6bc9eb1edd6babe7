/-
  The laws' own copies of items and of mutations: their rows are their own memory.
  The laws' own copies of mails, texts, boxes and lists of boxes: their rows are their own memory.
-/
import Derived.Test.YtncnbhekgkemfaaGreatDoorPkaa
import Derived.Test.YtncnbhekgkemfaaGreatDoorRows
import Derived.WalkKit
import Derived.WalkLawsBesides
import Derived.Below
import Derived.Test.YtncnbhekgkemfaaGreatDoorPkah
import Derived.Test.YtncnbhekgkemfaaGreatDoorPkag

namespace Go.Proofs.YtncnbhekgkemfaaGreatDoor.mu
open Go.RowKit
set_option linter.unusedVariables false
theorem own_lower {w : World} {b base e size n : Nat} {v : Value} {xs : List Value} (h : w.ownsRow base e size v n xs) (hb : b ≤ base) : w.ownsRow b e size v n xs :=
  ⟨h.1, h.2.imp id fun ⟨g, cap, cur, he, hb', r⟩ => ⟨g, cap, cur, he, Nat.le_trans hb hb', r⟩⟩
theorem own_block {w w' : World} {base e size n g m c : Nat} {xs : List Value} (h : w.ownsRow base e size (.slice (some ⟨g, 0, none⟩) m c) n xs) (hb : w'.heap[g]? = w.heap[g]?) : w'.ownsRow base e size (.slice (some ⟨g, 0, none⟩) m c) n xs := by
  obtain ⟨h1, h2⟩ := h
  refine ⟨h1, ?_⟩
  rcases h2 with ⟨e, hz⟩ | ⟨g', cap, cur, e, hB, hh, r⟩
  · exact .inl ⟨e, hz⟩
  · cases e
    exact .inr ⟨g, _, cur, rfl, hB, hb.trans hh, r⟩
end Go.Proofs.YtncnbhekgkemfaaGreatDoor.mu

namespace Go.Proofs.YtncnbhekgkemfaaGreatDoor.st
open Go.ChangeShapes Go.WideShapes Go.ChangeAt Go.RowKit Go.Deep Go.Joins
set_option linter.unusedVariables false
set_option maxHeartbeats 4000000 in
set_option maxRecDepth 100000 in
theorem toStoredS_own (N : Nat) (v : Value) (es : List St) (w : World) (h : MailsIn w N v es) (hN : N ≤ w.heap.size) (hn : es.length ≤ 1048576) :
    Calls Tryz.prog 85 #[v] w fun e w' => e = .returned (.slice (some ⟨w.heap.size, 0, none⟩) es.length es.length) ∧ MailsIn w' w'.heap.size (.slice (some ⟨w.heap.size, 0, none⟩) es.length es.length) es ∧ Below w.heap.size w w' ∧ ∃ xs, w'.ownsRow w.heap.size 110 3 (.slice (some ⟨w.heap.size, 0, none⟩) es.length es.length) es.length xs := by
  obtain ⟨a, cap, rfl, h⟩ := h
  obtain ⟨i0, hi, hz0, hz1, hz2⟩ := info_parts infoS
  obtain ⟨n, hn'⟩ : ∃ n, n = es.length := ⟨_, rfl⟩
  have HN : Hid (n = es.length) := hn'
  have HH : Hid (es = [] ∨ ∃ b off, a = some ⟨b, off, none⟩ ∧ b < N ∧ ∀ j, j < es.length → At3 w b (off + j * 3) (es.getD j noS)) := h
  rw [← hn'] at hn ⊢
  clear h hn'
  go_enter Tryz.func85, Tryz.ntmps85
  go_wp2_with (at_make; refine wpList_make_full _ rfl _ _ 97 rfl w.heap.size 110 i0 _ 3 Tryz.underlying97 hi hz0 hz1 _ _ _ _ n rfl rfl rfl rfl (by rw [hz2]; omega) (by unfold maxLen; omega) (Nat.le_refl _) ?_; intro w1 hown1 hg1)
  have hb1 : Below w.heap.size w w1 := (Below.refl _ _).grown hg1 (Nat.le_refl _) (fun k hk => by cases hk)
  clear hg1
  go_loopw [4] (fun i wr => ∃ (k : Nat) (xs : List Value), k ≤ n ∧ i = .int .i64 k ∧ xs.length = n * 3 ∧ Lay es k xs ∧ wr.ownsRow w.heap.size 110 3 (.slice (some ⟨w.heap.size, 0, none⟩) n n) n xs ∧ Below w.heap.size w wr) (fun i _ => n - (intOf i).toNat)
  case atStart => exact ⟨0, _, Nat.zero_le _, rfl, hown1.1.symm ▸ rfl, fun j hj => absurd hj (Nat.not_lt_zero _), hown1, hb1⟩
  case round =>
    clear hown1 hb1
    obtain ⟨k, xs, hk, rfl, hxl, hm, hown, hbw⟩ := hrel
    have HM : Hid (Lay es k xs) := hm
    have HL : Hid (xs.length = n * 3) := hxl
    clear hm hxl
    by_cases hlt : k < n
    · have hka : k < es.length := by rw [← HN.out]; exact hlt
      rcases HH.out with e | ⟨b, off, rfl, _, hcells⟩
      · rw [e] at hka; simp at hka
      have hat := (hcells k hka).keep hbw (hcells k hka).lt
      clear hcells hka
      generalize hx : es.getD k noS = x at hat
      have HX : Hid (es.getD k noS = x) := hx
      obtain ⟨c0, c1, c2⟩ := hat
      clear hx
      have HE : Hid (∀ w, Calls Tryz.prog 109 #[.agg #[.int .i64 x.u, .int .i64 x.f, .string x.t]] w fun r w' => r = .returned (.agg #[.int .i64 x.u, .int .i64 x.f, .string x.t]) ∧ Below w.heap.size w w') := fun w => toStored_any x w
      go_wp2_with fail
      refine (HE.out _).mono ?_
      rintro e w2 ⟨rfl, hb2⟩
      have hown2 := ow.own_below hown hb2
      have hbw2 := hbw.trans (hb2.mono hbw.size)
      clear hb2 hbw hown c0 c1 c2 HE
      have HO : Hid (w2.ownsRow w.heap.size 110 3 (.slice (some ⟨w.heap.size, 0, none⟩) n n) n xs) := hown2
      have q0 := hown2.cellAt (k * 3) (by omega)
      have q1 := hown2.cellAt (k * 3 + 1) (by omega)
      have q2 := hown2.cellAt (k * 3 + 2) (by omega)
      rw [List.getElem?_eq_getElem (by rw [HL.out]; omega)] at q0 q1 q2
      have f0 := hown2.frozenAt (k * 3)
      have f1 := hown2.frozenAt (k * 3 + 1)
      have f2 := hown2.frozenAt (k * 3 + 2)
      clear hown2
      generalize xs[k * 3]'(by rw [HL.out]; omega) = u0 at q0
      generalize xs[k * 3 + 1]'(by rw [HL.out]; omega) = u1 at q1
      generalize xs[k * 3 + 2]'(by rw [HL.out]; omega) = u2 at q2
      have hlt' : (k : Int) < (n : Int) := by omega
      go_wp2
      go_roundw
      case rel => exact ⟨k + 1, put3 xs (k * 3) x, by omega, by go_num, by rw [put_len]; exact HL.out, lay_step HM.out (by rw [HL.out]; omega) HX.out, (((HO.out.stored _ _).1.stored _ _).1.stored _ _).1, ((hbw2.setCell (Nat.le_refl _) _).setCell (Nat.le_refl _) _).setCell (Nat.le_refl _) _⟩
      case measure => simp [intOf]; omega
    · have hgl : w.heap.size < wr.heap.size := by
        rcases hown.2 with ⟨hv, _⟩ | ⟨g', cap', cur, hv, _, hb', _⟩
        · cases hv
        · cases hv
          exact (Array.getElem?_eq_some_iff.1 hb').1
      have HQ : Hid (MailsIn wr wr.heap.size (.slice (some ⟨w.heap.size, 0, none⟩) n n) es) := mails_lay HN.out hown (fun j hj => HM.out j (by omega)) hgl
      have HOX : Hid (∃ xs, wr.ownsRow w.heap.size 110 3 (.slice (some ⟨w.heap.size, 0, none⟩) n n) n xs) := ⟨xs, hown⟩
      go_wp2
      go_ret
      exact ⟨rfl, HQ.out, hbw, HOX.out⟩
end Go.Proofs.YtncnbhekgkemfaaGreatDoor.st
namespace Go.Proofs.YtncnbhekgkemfaaGreatDoor.tx
open Go.ChangeShapes Go.WideShapes Go.ChangeAt Go.RowKit Go.Deep Go.Joins
open ky
set_option linter.unusedVariables false
set_option maxHeartbeats 4000000 in
set_option maxRecDepth 100000 in
theorem toTexts_own (N : Nat) (v : Value) (ks : List ByteArray) (w : World) (h : TextsIn w N v ks) (hN : N ≤ w.heap.size) (hn : ks.length ≤ 1048576) :
    Calls Tryz.prog 86 #[v] w fun e w' => e = .returned (.slice (some ⟨w.heap.size, 0, none⟩) ks.length ks.length) ∧ TextsIn w' w'.heap.size (.slice (some ⟨w.heap.size, 0, none⟩) ks.length ks.length) ks ∧ Below w.heap.size w w' ∧ ∃ xs, w'.ownsRow w.heap.size 9 1 (.slice (some ⟨w.heap.size, 0, none⟩) ks.length ks.length) ks.length xs := by
  obtain ⟨a, cap, rfl, h⟩ := h
  obtain ⟨i0, hi, hz0, hz1, hz2⟩ := info_parts infoT
  obtain ⟨n, hn'⟩ : ∃ n, n = ks.length := ⟨_, rfl⟩
  have HN : Hid (n = ks.length) := hn'
  have HH : Hid (ks = [] ∨ ∃ b off, a = some ⟨b, off, none⟩ ∧ b < N ∧ ∀ j, j < ks.length → w.cell? ⟨b, off + j, none⟩ = some (.string (ks.getD j nt))) := h
  rw [← hn'] at hn ⊢
  clear h hn'
  go_enter Tryz.func86, Tryz.ntmps86
  go_wp2_with (at_make; refine wpList_make_full _ rfl _ _ 68 rfl w.heap.size 9 i0 _ 1 Tryz.underlying68 hi hz0 hz1 _ _ _ _ n rfl rfl rfl rfl (by rw [hz2]; omega) (by unfold maxLen; omega) (Nat.le_refl _) ?_; intro w1 hown1 hg1)
  have hb1 : Below w.heap.size w w1 := (Below.refl _ _).grown hg1 (Nat.le_refl _) (fun k hk => by cases hk)
  clear hg1
  go_loopw [4] (fun i wr => ∃ (k : Nat) (xs : List Value), k ≤ n ∧ i = .int .i64 k ∧ xs.length = n ∧ Lay ks k xs ∧ wr.ownsRow w.heap.size 9 1 (.slice (some ⟨w.heap.size, 0, none⟩) n n) n xs ∧ Below w.heap.size w wr) (fun i _ => n - (intOf i).toNat)
  case atStart => exact ⟨0, _, Nat.zero_le _, rfl, by have := hown1.1; omega, fun j hj => absurd hj (Nat.not_lt_zero _), hown1, hb1⟩
  case round =>
    clear hown1 hb1
    obtain ⟨k, xs, hk, rfl, hxl, hm, hown, hbw⟩ := hrel
    have HM : Hid (Lay ks k xs) := hm
    have HL : Hid (xs.length = n) := hxl
    clear hm hxl
    by_cases hlt : k < n
    · have hka : k < ks.length := by rw [← HN.out]; exact hlt
      rcases HH.out with e | ⟨b, off, rfl, hbN, hcells⟩
      · rw [e] at hka; simp at hka
      have c0 := (hbw.cell (p := ⟨b, off + k, none⟩) (Nat.lt_of_lt_of_le hbN hN)).trans (hcells k hka)
      clear hcells hka
      generalize hx : ks.getD k nt = x at c0
      have HX : Hid (ks.getD k nt = x) := hx
      clear hx
      have HO : Hid (wr.ownsRow w.heap.size 9 1 (.slice (some ⟨w.heap.size, 0, none⟩) n n) n xs) := hown
      have q0 := hown.cellAt k (by omega)
      rw [List.getElem?_eq_getElem (by rw [HL.out]; omega)] at q0
      have f0 := hown.frozenAt k
      clear hown
      generalize xs[k]'(by rw [HL.out]; omega) = u0 at q0
      have hlt' : (k : Int) < (n : Int) := by omega
      go_wp2
      go_roundw
      case rel => exact ⟨k + 1, xs.set k (.string x), by omega, by go_num, by rw [List.length_set]; exact HL.out, lay_step HM.out (by rw [HL.out]; omega) HX.out, (HO.out.stored _ _).1, hbw.setCell (Nat.le_refl _) _⟩
      case measure => simp [intOf]; omega
    · have hgl : w.heap.size < wr.heap.size := by
        rcases hown.2 with ⟨hv, _⟩ | ⟨g', cap', cur, hv, _, hb', _⟩
        · cases hv
        · cases hv
          exact (Array.getElem?_eq_some_iff.1 hb').1
      have HQ : Hid (TextsIn wr wr.heap.size (.slice (some ⟨w.heap.size, 0, none⟩) n n) ks) := texts_lay HN.out hown (fun j hj => HM.out j (by omega)) hgl
      have HOX : Hid (∃ xs, wr.ownsRow w.heap.size 9 1 (.slice (some ⟨w.heap.size, 0, none⟩) n n) n xs) := ⟨xs, hown⟩
      go_wp2
      go_ret
      exact ⟨rfl, HQ.out, hbw, HOX.out⟩
end Go.Proofs.YtncnbhekgkemfaaGreatDoor.tx
namespace Go.Proofs.YtncnbhekgkemfaaGreatDoor.bx
open Go.ChangeShapes Go.WideShapes Go.ChangeAt Go.RowKit Go.Deep Go.Joins
open st gr
set_option linter.unusedVariables false
set_option maxHeartbeats 4000000 in
set_option maxRecDepth 100000 in
theorem toBox_own (x : Bx) (v u : Value) (w : World) (h : RowsAt w v u x.ms x.ks) (hn : x.ms.length ≤ 1048576 ∧ x.ks.length ≤ 1048576) :
    Calls Tryz.prog 56 #[BV x v u] w fun e w' => ∃ g g', e = .returned (BV x (.slice (some ⟨g, 0, none⟩) x.ms.length x.ms.length) (.slice (some ⟨g', 0, none⟩) x.ks.length x.ks.length)) ∧ RowsAt w' (.slice (some ⟨g, 0, none⟩) x.ms.length x.ms.length) (.slice (some ⟨g', 0, none⟩) x.ks.length x.ks.length) x.ms x.ks ∧ Below w.heap.size w w' ∧ w.heap.size ≤ g ∧ w.heap.size ≤ g' ∧ (∃ xs, w'.ownsRow w.heap.size 110 3 (.slice (some ⟨g, 0, none⟩) x.ms.length x.ms.length) x.ms.length xs) ∧ (∃ xs, w'.ownsRow w.heap.size 9 1 (.slice (some ⟨g', 0, none⟩) x.ks.length x.ks.length) x.ks.length xs) := by
  have HB : Hid (RowsAt w v u x.ms x.ks) := h
  obtain ⟨⟨a, cap, rfl, _⟩, ⟨a1, cap1, rfl, _⟩⟩ := h
  obtain ⟨W, hW⟩ : ∃ W, W = (((w.alloc (.cells #[.string x.nm, .int .i64 x.vd, .int .i64 x.nx, .slice a x.ms.length cap, .slice a1 x.ks.length cap1] 92)).alloc (.cells #[.string ⟨#[]⟩, .int .i64 0, .int .i64 0, .slice none 0 0, .slice none 0 0] 99)).alloc (.cells #[.string x.nm, .int .i64 x.vd, .int .i64 x.nx, .slice none 0 0, .slice none 0 0] 99)) := ⟨_, rfl⟩
  obtain ⟨nm, vd, nx, ms, ks⟩ := x
  unfold BV
  simp only at HB hn hW ⊢
  go_enter Tryz.func56, Tryz.ntmps56
  go_wp2_with fail
  have b3 : Below w.heap.size w W := by rw [hW]; exact ((new_below w _ _).alloc (by simp) _).alloc (by simp; omega) _
  have sz : W.heap.size = w.heap.size + 3 := by rw [hW]; simp
  have k0 : Lies W w.heap.size 92 ⟨nm, vd, nx, ms, ks⟩ (.slice a ms.length cap) (.slice a1 ks.length cap1) := by
    rw [hW]; exact ((lies_new w 92 ⟨nm, vd, nx, ms, ks⟩ (.slice a ms.length cap) (.slice a1 ks.length cap1)).keep (new_below _ _ _)).keep (new_below _ _ _)
  have k1 : W.heap[w.heap.size + 1]? = some (.cells #[.string ⟨#[]⟩, .int .i64 0, .int .i64 0, .slice none 0 0, .slice none 0 0] 99 (0, 0)) := by rw [hW]; exact new1 _ _ _ _
  have k2 : Lies W (w.heap.size + 1 + 1) 99 ⟨nm, vd, nx, ms, ks⟩ (.slice none 0 0) (.slice none 0 0) := by rw [hW]; exact new2 _ _ _ _
  rw [← hW]
  have HA : Hid (RowsAt W (.slice a ms.length cap) (.slice a1 ks.length cap1) ms ks) := rows_below HB.out b3
  have HB0 : Hid (tx.TextsIn w w.heap.size (.slice a1 ks.length cap1) ks) := HB.out.2
  clear HB hW
  refine (toStoredS_own _ _ ms _ HA.out.1 (Nat.le_refl _) hn.1).mono ?_
  rintro e w2 ⟨rfl, hv', hb2, hox⟩
  have HOX2 : Hid (∃ xs, w2.ownsRow w.heap.size 110 3 (.slice (some ⟨W.heap.size, 0, none⟩) ms.length ms.length) ms.length xs) := hox.imp fun _ h => mu.own_lower h (by rw [sz]; omega)
  clear hox
  have HV : Hid (MailsIn w2 w2.heap.size (.slice (some ⟨W.heap.size, 0, none⟩) ms.length ms.length) ms) := hv'
  clear hv'
  have m0 := k0.keep hb2
  have m1 := (hb2.block (w.heap.size + 1) (by omega)).trans k1
  have m2 := k2.keep hb2
  have b4 := b3.trans (hb2.mono b3.size)
  have HA2 : Hid (RowsAt w2 (.slice a ms.length cap) (.slice a1 ks.length cap1) ms ks) := rows_below HA.out hb2
  have HSZ : Hid (W.heap.size = w.heap.size + 3) := sz
  have HS2 : Hid (W.heap.size ≤ w2.heap.size) := hb2.size
  clear k0 k1 k2 hb2 b3 sz
  have c04 := m0.c4
  have c23 := m2.c3
  have f2 : w2.frozen? ⟨w.heap.size + 1 + 1, 3, none⟩ = false := frozen_of_row w2 _ 3 _ _ m2
  have f2' : w2.frozen? ⟨w.heap.size + 1 + 1, 0 + 3, none⟩ = false := f2
  have HW2 : Hid (w2.heap[w.heap.size + 1 + 1]? = some (.cells #[.string nm, .int .i64 vd, .int .i64 nx, .slice none 0 0, .slice none 0 0] 99 (0, 0))) := m2
  have HW1 : Hid (w2.heap[w.heap.size + 1]? = some (.cells #[.string ⟨#[]⟩, .int .i64 0, .int .i64 0, .slice none 0 0, .slice none 0 0] 99 (0, 0))) := m1
  clear m0 m1 m2
  go_wp2_with fail
  obtain ⟨V, hV⟩ : ∃ V, V = Value.slice (some ⟨W.heap.size, 0, none⟩) ms.length ms.length := ⟨_, rfl⟩
  obtain ⟨w3, hw3⟩ : ∃ w3, w3 = w2.setCell ⟨w.heap.size + 1 + 1, 3, none⟩ V := ⟨_, rfl⟩
  have b5 : Below w.heap.size w w3 := by rw [hw3]; exact b4.setCell (by simp; omega) _
  have s3 : w3.heap.size = w2.heap.size := by rw [hw3]; simp
  have n2 : Lies w3 (w.heap.size + 1 + 1) 99 ⟨nm, vd, nx, ms, ks⟩ V (.slice none 0 0) := by rw [hw3]; exact heap_setCell_same _ _ 3 _ _ _ HW2.out
  have n1 : w3.heap[w.heap.size + 1]? = some (.cells #[.string ⟨#[]⟩, .int .i64 0, .int .i64 0, .slice none 0 0, .slice none 0 0] 99 (0, 0)) := by rw [hw3, heap_setCell_other _ _ _ _ (by simp)]; exact HW1.out
  have HV3 : Hid (MailsIn w3 w3.heap.size (.slice (some ⟨W.heap.size, 0, none⟩) ms.length ms.length) ms) := mails_other HV.out (by rw [hw3, heap_setCell_other _ _ _ _ (by rw [HSZ.out]; simp)]) (fun h => by rw [s3]; exact h)
  have HA3 : Hid (tx.TextsIn w3 w.heap.size (.slice a1 ks.length cap1) ks) := tx.texts_below HB0.out b5 (Nat.le_refl _)
  have HOX3 : Hid (∃ xs, w3.ownsRow w.heap.size 110 3 (.slice (some ⟨W.heap.size, 0, none⟩) ms.length ms.length) ms.length xs) := HOX2.out.imp fun _ h => mu.own_block h (by rw [hw3, heap_setCell_other _ _ _ _ (by rw [HSZ.out]; simp)])
  clear HOX2
  rw [← hV, ← hw3]
  have HVH : Hid (V = Value.slice (some ⟨W.heap.size, 0, none⟩) ms.length ms.length) := hV
  clear hV
  clear HV HA2 c04 c23 f2 f2' HW1 HW2 b4
  refine (tx.toTexts_own _ _ ks _ HA3.out b5.size hn.2).mono ?_
  rintro e w4 ⟨rfl, hv4, hb4, hoy⟩
  have HOY4 : Hid (∃ xs, w4.ownsRow w.heap.size 9 1 (.slice (some ⟨w3.heap.size, 0, none⟩) ks.length ks.length) ks.length xs) := hoy.imp fun _ h => mu.own_lower h b5.size
  have HOX4 : Hid (∃ xs, w4.ownsRow w.heap.size 110 3 (.slice (some ⟨W.heap.size, 0, none⟩) ms.length ms.length) ms.length xs) := HOX3.out.imp fun _ h => ow.own_below h hb4
  clear hoy HOX3
  have HU : Hid (tx.TextsIn w4 w4.heap.size (.slice (some ⟨w3.heap.size, 0, none⟩) ks.length ks.length) ks) := hv4
  have HV4 : Hid (MailsIn w4 w4.heap.size (.slice (some ⟨W.heap.size, 0, none⟩) ms.length ms.length) ms) := mails_more (mails_below HV3.out hb4 (Nat.le_refl _)) hb4.size
  have q1 := (hb4.block (w.heap.size + 1) (by have := HSZ.out; have := HS2.out; omega)).trans n1
  have q2 := n2.keep hb4
  have b6 := b5.trans (hb4.mono b5.size)
  have HS3 : Hid (w.heap.size + 3 ≤ w3.heap.size) := by have := HSZ.out; have := HS2.out; exact (by omega : w.heap.size + 3 ≤ w3.heap.size)
  clear hv4 hb4 n1 n2 b5 HV3 HA3 s3 hw3
  have c10 : w4.cell? ⟨w.heap.size + 1, 0, none⟩ = some (.string ⟨#[]⟩) := by rw [cell_of_row w4 _ _ _ _ _ q1]; rfl
  have c11 : w4.cell? ⟨w.heap.size + 1, 0 + 1, none⟩ = some (.int .i64 0) := by rw [cell_of_row w4 _ _ _ _ _ q1]; rfl
  have c12 : w4.cell? ⟨w.heap.size + 1, 0 + 2, none⟩ = some (.int .i64 0) := by rw [cell_of_row w4 _ _ _ _ _ q1]; rfl
  have c13 : w4.cell? ⟨w.heap.size + 1, 0 + 3, none⟩ = some (.slice none 0 0) := by rw [cell_of_row w4 _ _ _ _ _ q1]; rfl
  have c14 : w4.cell? ⟨w.heap.size + 1, 0 + 4, none⟩ = some (.slice none 0 0) := by rw [cell_of_row w4 _ _ _ _ _ q1]; rfl
  have c20 := q2.c0
  have c21 := q2.c1
  have c22 := q2.c2
  have c23 := q2.c3
  have c24 := q2.c4
  have f1 : ∀ j, w4.frozen? ⟨w.heap.size + 1, j, none⟩ = false := fun j => frozen_of_row w4 _ j _ _ q1
  have f2 : ∀ j, w4.frozen? ⟨w.heap.size + 1 + 1, j, none⟩ = false := fun j => frozen_of_row w4 _ j _ _ q2
  have HQ1 : Hid (w4.heap[w.heap.size + 1]? = some (.cells #[.string ⟨#[]⟩, .int .i64 0, .int .i64 0, .slice none 0 0, .slice none 0 0] 99 (0, 0))) := q1
  clear q1 q2
  simp only at c20 c21 c22
  obtain rfl := HVH.out
  clear HVH
  go_wp2
  have M5 := fin_block HQ1.out ⟨nm, vd, nx, ms, ks⟩ (.slice (some ⟨W.heap.size, 0, none⟩) ms.length ms.length) (.slice (some ⟨w3.heap.size, 0, none⟩) ks.length ks.length)
  have b7 := fin_below b6 ⟨nm, vd, nx, ms, ks⟩ (.slice (some ⟨W.heap.size, 0, none⟩) ms.length ms.length) (.slice (some ⟨w3.heap.size, 0, none⟩) ks.length ks.length)
  have hsz : (fin w4 w.heap.size ⟨nm, vd, nx, ms, ks⟩ (.slice (some ⟨W.heap.size, 0, none⟩) ms.length ms.length) (.slice (some ⟨w3.heap.size, 0, none⟩) ks.length ks.length)).heap.size = w4.heap.size := by simp [fin]
  have hat : MailsIn (fin w4 w.heap.size ⟨nm, vd, nx, ms, ks⟩ (.slice (some ⟨W.heap.size, 0, none⟩) ms.length ms.length) (.slice (some ⟨w3.heap.size, 0, none⟩) ks.length ks.length)) (fin w4 w.heap.size ⟨nm, vd, nx, ms, ks⟩ (.slice (some ⟨W.heap.size, 0, none⟩) ms.length ms.length) (.slice (some ⟨w3.heap.size, 0, none⟩) ks.length ks.length)).heap.size (.slice (some ⟨W.heap.size, 0, none⟩) ms.length ms.length) ms := mails_other HV4.out (fin_other _ _ _ _ _ _ (by rw [HSZ.out]; omega) (by rw [HSZ.out]; omega)) (fun h => by rw [hsz]; exact h)
  have hau : tx.TextsIn (fin w4 w.heap.size ⟨nm, vd, nx, ms, ks⟩ (.slice (some ⟨W.heap.size, 0, none⟩) ms.length ms.length) (.slice (some ⟨w3.heap.size, 0, none⟩) ks.length ks.length)) (fin w4 w.heap.size ⟨nm, vd, nx, ms, ks⟩ (.slice (some ⟨W.heap.size, 0, none⟩) ms.length ms.length) (.slice (some ⟨w3.heap.size, 0, none⟩) ks.length ks.length)).heap.size (.slice (some ⟨w3.heap.size, 0, none⟩) ks.length ks.length) ks := texts_other HU.out (fin_other _ _ _ _ _ _ (by have := HS3.out; omega) (by have := HS3.out; omega)) (fun h => by rw [hsz]; exact h)
  have hox : ∃ xs, (fin w4 w.heap.size ⟨nm, vd, nx, ms, ks⟩ (.slice (some ⟨W.heap.size, 0, none⟩) ms.length ms.length) (.slice (some ⟨w3.heap.size, 0, none⟩) ks.length ks.length)).ownsRow w.heap.size 110 3 (.slice (some ⟨W.heap.size, 0, none⟩) ms.length ms.length) ms.length xs := HOX4.out.imp fun _ h => mu.own_block h (fin_other _ _ _ _ _ _ (by rw [HSZ.out]; omega) (by rw [HSZ.out]; omega))
  have hoy : ∃ xs, (fin w4 w.heap.size ⟨nm, vd, nx, ms, ks⟩ (.slice (some ⟨W.heap.size, 0, none⟩) ms.length ms.length) (.slice (some ⟨w3.heap.size, 0, none⟩) ks.length ks.length)).ownsRow w.heap.size 9 1 (.slice (some ⟨w3.heap.size, 0, none⟩) ks.length ks.length) ks.length xs := HOY4.out.imp fun _ h => mu.own_block h (fin_other _ _ _ _ _ _ (by have := HS3.out; omega) (by have := HS3.out; omega))
  clear HOX4 HOY4
  clear c10 c11 c12 c13 c14 c20 c21 c22 c23 c24 f1 f2 HV4 HU b6 HQ1 hsz
  change bodyPost _ _ _ _ _ (fin w4 w.heap.size ⟨nm, vd, nx, ms, ks⟩ (.slice (some ⟨W.heap.size, 0, none⟩) ms.length ms.length) (.slice (some ⟨w3.heap.size, 0, none⟩) ks.length ks.length))
  generalize fin w4 w.heap.size ⟨nm, vd, nx, ms, ks⟩ (.slice (some ⟨W.heap.size, 0, none⟩) ms.length ms.length) (.slice (some ⟨w3.heap.size, 0, none⟩) ks.length ks.length) = X at M5 b7 hat hau hox hoy ⊢
  have x0 : X.cell? ⟨w.heap.size + 1, 0, none⟩ = some (.string nm) := M5.c0
  have x1 : X.cell? ⟨w.heap.size + 1, 1, none⟩ = some (.int .i64 vd) := M5.c1
  have x2 : X.cell? ⟨w.heap.size + 1, 2, none⟩ = some (.int .i64 nx) := M5.c2
  have x3 : X.cell? ⟨w.heap.size + 1, 3, none⟩ = some (.slice (some ⟨W.heap.size, 0, none⟩) ms.length ms.length) := M5.c3
  have x4 : X.cell? ⟨w.heap.size + 1, 4, none⟩ = some (.slice (some ⟨w3.heap.size, 0, none⟩) ks.length ks.length) := M5.c4
  exact bodyPost_ret (v := .agg #[.string nm, .int .i64 vd, .int .i64 nx, (.slice (some ⟨W.heap.size, 0, none⟩) ms.length ms.length), (.slice (some ⟨w3.heap.size, 0, none⟩) ks.length ks.length)]) (by simp [results, Tryz.results56, go_sem, x0, x1, x2, x3, x4]) rfl ⟨_, _, rfl, ⟨hat, hau⟩, b7, by rw [HSZ.out]; omega, by have := HS3.out; omega, hox, hoy⟩
/-- The rows of the first k boxes are owned rows, in blocks behind B. -/
def Rws (w : World) (B : Nat) (xs : List Bx) (vs : Nat → Value × Value) (k : Nat) : Prop :=
  ∀ j, j < k → ∃ g g', vs j = (.slice (some ⟨g, 0, none⟩) (xs.getD j noB).ms.length (xs.getD j noB).ms.length, .slice (some ⟨g', 0, none⟩) (xs.getD j noB).ks.length (xs.getD j noB).ks.length) ∧ B < g ∧ B < g' ∧ (∃ cs, w.ownsRow B 110 3 (.slice (some ⟨g, 0, none⟩) (xs.getD j noB).ms.length (xs.getD j noB).ms.length) (xs.getD j noB).ms.length cs) ∧ (∃ cs, w.ownsRow B 9 1 (.slice (some ⟨g', 0, none⟩) (xs.getD j noB).ks.length (xs.getD j noB).ks.length) (xs.getD j noB).ks.length cs)
/-- A list of boxes all of whose rows are owned, behind B; the list's own is at B. -/
def Mine (w : World) (B : Nat) (xs : List Bx) (vs : Nat → Value × Value) : Prop :=
  (∃ cs, w.ownsRow B 99 5 (.slice (some ⟨B, 0, none⟩) xs.length xs.length) xs.length cs ∧ ∀ j, j < xs.length → cs[j * 5 + 3]? = some (vs j).1 ∧ cs[j * 5 + 4]? = some (vs j).2) ∧ Rws w B xs vs xs.length
theorem rws_below {w w' : World} {B : Nat} {xs : List Bx} {vs : Nat → Value × Value} {k : Nat} (h : Rws w B xs vs k) (hb : Below w.heap.size w w') : Rws w' B xs vs k := fun j hj => by
  obtain ⟨g, g', e, h1, h2, ⟨c1, h3⟩, ⟨c2, h4⟩⟩ := h j hj
  exact ⟨g, g', e, h1, h2, ⟨c1, ow.own_below h3 hb⟩, ⟨c2, ow.own_below h4 hb⟩⟩
theorem rws_set {w w' : World} {B : Nat} {xs : List Bx} {vs : Nat → Value × Value} {k : Nat} (h : Rws w B xs vs k) (hw : ∀ q, q ≠ B → w'.heap[q]? = w.heap[q]?) : Rws w' B xs vs k := fun j hj => by
  obtain ⟨g, g', e, h1, h2, ⟨c1, h3⟩, ⟨c2, h4⟩⟩ := h j hj
  exact ⟨g, g', e, h1, h2, ⟨c1, mu.own_block h3 (hw g (by omega))⟩, ⟨c2, mu.own_block h4 (hw g' (by omega))⟩⟩
theorem rws_step {w : World} {B : Nat} {xs : List Bx} {vs : Nat → Value × Value} {k : Nat} (h : Rws w B xs vs k) {x : Bx} (hx : xs.getD k noB = x) {g g' : Nat} (hg : B < g) (hg' : B < g') (h1 : ∃ cs, w.ownsRow B 110 3 (.slice (some ⟨g, 0, none⟩) x.ms.length x.ms.length) x.ms.length cs) (h2 : ∃ cs, w.ownsRow B 9 1 (.slice (some ⟨g', 0, none⟩) x.ks.length x.ks.length) x.ks.length cs) :
    Rws w B xs (upd vs k (.slice (some ⟨g, 0, none⟩) x.ms.length x.ms.length, .slice (some ⟨g', 0, none⟩) x.ks.length x.ks.length)) (k + 1) := by
  intro j hj
  by_cases e : j = k
  · subst e
    simp only [upd, if_true]
    rw [hx]
    exact ⟨g, g', rfl, hg, hg', h1, h2⟩
  · simp only [upd, if_neg e]
    exact h j (by omega)
set_option maxHeartbeats 4000000 in
set_option maxRecDepth 100000 in
theorem toBoxS_own (v : Value) (xs : List Bx) (vs : Nat → Value × Value) (w : World) (h : BoxesAt w v xs vs) (hs : Smalls xs) :
    Calls Tryz.prog 33 #[v] w fun e w' => e = .returned (.slice (some ⟨w.heap.size, 0, none⟩) xs.length xs.length) ∧ (∃ vs', BoxesAt w' (.slice (some ⟨w.heap.size, 0, none⟩) xs.length xs.length) xs vs' ∧ Mine w' w.heap.size xs vs' ∧ ∀ j, j < xs.length → ∀ a n c, (vs' j).2 = .slice a n c → n ≤ c) ∧ Below w.heap.size w w' := by
  have HALL : Hid (BoxesAt w v xs vs) := h
  obtain ⟨⟨a, cap, rfl, hc⟩, _⟩ := h
  obtain ⟨i0, hi, hz0, hz1, hz2⟩ := info_parts infoB
  obtain ⟨n, hn⟩ : ∃ n, n = xs.length := ⟨_, rfl⟩
  have HN : Hid (n = xs.length) := hn
  have HH : Hid (xs = [] ∨ ∃ b off, a = some ⟨b, off, none⟩ ∧ b < w.heap.size ∧ ∀ j, j < xs.length → At5 w b (off + j * 5) (xs.getD j noB) (vs j)) := hc
  have HS : Hid (Smalls xs) := hs
  have hl : n ≤ 1048576 := by rw [hn]; exact hs.1
  rw [← hn] at HALL ⊢
  clear hc hs hn
  go_enter Tryz.func33, Tryz.ntmps33
  go_wp2_with (at_make; refine wpList_make_full _ rfl _ _ 33 rfl w.heap.size 99 i0 _ 5 Tryz.underlying33 hi hz0 hz1 _ _ _ _ n rfl rfl rfl rfl (by rw [hz2]; omega) (by unfold maxLen; omega) (Nat.le_refl _) ?_; intro w1 hown1 hg1)
  have hb1 : Below w.heap.size w w1 := (Below.refl _ _).grown hg1 (Nat.le_refl _) (fun k hk => by cases hk)
  have hgl1 : w.heap.size < w1.heap.size := by
    rcases hown1.2 with ⟨hv, _⟩ | ⟨g', cap', cur, hv, _, hb', _⟩
    · cases hv
    · cases hv
      exact (Array.getElem?_eq_some_iff.1 hb').1
  clear hg1
  go_loopw [4] (fun i wr => ∃ (k : Nat) (cs : List Value) (vs' : Nat → Value × Value), k ≤ n ∧ i = .int .i64 k ∧ cs.length = n * 5 ∧ LayB xs vs' k cs ∧ Made wr w.heap.size xs vs' k ∧ Rws wr w.heap.size xs vs' k ∧ wr.ownsRow w.heap.size 99 5 (.slice (some ⟨w.heap.size, 0, none⟩) n n) n cs ∧ Below w.heap.size w wr ∧ w.heap.size < wr.heap.size) (fun i _ => n - (intOf i).toNat)
  case atStart => exact ⟨0, _, vs, Nat.zero_le _, rfl, hown1.1.symm ▸ rfl, fun j hj => absurd hj (Nat.not_lt_zero _), fun j hj => absurd hj (Nat.not_lt_zero _), fun j hj => absurd hj (Nat.not_lt_zero _), hown1, hb1, hgl1⟩
  case round =>
    clear hown1 hb1 hgl1
    obtain ⟨k, cs, vs', hk, rfl, hxl, hm, hmd, hrs, hown, hbw, hgl⟩ := hrel
    have HRS : Hid (Rws wr w.heap.size xs vs' k) := hrs
    clear hrs
    have HM : Hid (LayB xs vs' k cs) := hm
    have HL : Hid (cs.length = n * 5) := hxl
    have HMD : Hid (Made wr w.heap.size xs vs' k) := hmd
    clear hm hxl hmd
    by_cases hlt : k < n
    · have hka : k < xs.length := by rw [← HN.out]; exact hlt
      rcases HH.out with e | ⟨b, off, rfl, hbl, hcells⟩
      · rw [e] at hka; simp at hka
      have hat := (hcells k hka).keep hbw hbl
      have hrw := rows_more ((boxes_in_below HALL.out hbw (Nat.le_refl _)).2 k hka) hbw.size
      have hsk := HS.out.2 k hka
      clear hcells hka
      generalize hx : xs.getD k noB = x at hat hsk hrw
      have HX : Hid (xs.getD k noB = x) := hx
      generalize vs k = q at hat hrw
      obtain ⟨q1, q2⟩ := q
      obtain ⟨c0, c1, c2, c3, c4⟩ := hat
      simp only at c0 c1 c2 c3 c4 hrw
      clear hx
      have hpl : x.ms.length ≤ 1048576 ∧ x.ks.length ≤ 1048576 := ⟨hsk.2.2.1.1, hsk.2.2.2.1⟩
      have HRW : Hid (RowsAt wr q1 q2 x.ms x.ks) := hrw
      obtain ⟨⟨a2, cap2, rfl, _⟩, ⟨a3, cap3, rfl, _⟩⟩ := hrw
      clear hsk
      go_wp2_with fail
      refine (toBox_own x _ _ wr HRW.out hpl).mono ?_
      rintro e w2 ⟨g, g', rfl, hr2, hb2, hg, hg', hox, hoy⟩
      have HOX : Hid ((∃ xs, w2.ownsRow w.heap.size 110 3 (.slice (some ⟨g, 0, none⟩) x.ms.length x.ms.length) x.ms.length xs) ∧ (∃ xs, w2.ownsRow w.heap.size 9 1 (.slice (some ⟨g', 0, none⟩) x.ks.length x.ks.length) x.ks.length xs)) := ⟨hox.imp fun _ h => mu.own_lower h hbw.size, hoy.imp fun _ h => mu.own_lower h hbw.size⟩
      have HRS2 : Hid (Rws w2 w.heap.size xs vs' k) := rws_below HRS.out hb2
      clear hox hoy HRS
      have HR2 : Hid (RowsAt w2 (.slice (some ⟨g, 0, none⟩) x.ms.length x.ms.length) (.slice (some ⟨g', 0, none⟩) x.ks.length x.ks.length) x.ms x.ks) := hr2
      have HMD2 : Hid (Made w2 w.heap.size xs vs' k) := made_below HMD.out hb2
      have hown2 := ow.own_below hown hb2
      have hbw2 := hbw.trans (hb2.mono hbw.size)
      have hgl2 : w.heap.size < w2.heap.size := Nat.lt_of_lt_of_le hgl hb2.size
      have hgB : w.heap.size < g := by omega
      have hgB' : w.heap.size < g' := by omega
      clear hb2 hbw hown c0 c1 c2 c3 c4 HRW HMD hr2 hg hg'
      have HO : Hid (w2.ownsRow w.heap.size 99 5 (.slice (some ⟨w.heap.size, 0, none⟩) n n) n cs) := hown2
      have q0 := hown2.cellAt (k * 5) (by omega)
      have q1 := hown2.cellAt (k * 5 + 1) (by omega)
      have q2 := hown2.cellAt (k * 5 + 2) (by omega)
      have q3 := hown2.cellAt (k * 5 + 3) (by omega)
      have q4 := hown2.cellAt (k * 5 + 4) (by omega)
      rw [List.getElem?_eq_getElem (by rw [HL.out]; omega)] at q0 q1 q2 q3 q4
      have f0 := hown2.frozenAt (k * 5)
      have f1 := hown2.frozenAt (k * 5 + 1)
      have f2 := hown2.frozenAt (k * 5 + 2)
      have f3 := hown2.frozenAt (k * 5 + 3)
      have f4 := hown2.frozenAt (k * 5 + 4)
      clear hown2
      generalize cs[k * 5]'(by rw [HL.out]; omega) = u0 at q0
      generalize cs[k * 5 + 1]'(by rw [HL.out]; omega) = u1 at q1
      generalize cs[k * 5 + 2]'(by rw [HL.out]; omega) = u2 at q2
      generalize cs[k * 5 + 3]'(by rw [HL.out]; omega) = u3 at q3
      generalize cs[k * 5 + 4]'(by rw [HL.out]; omega) = u4 at q4
      have hlt' : (k : Int) < (n : Int) := by omega
      unfold BV
      go_wp2
      go_roundw
      case rel =>
        refine ⟨k + 1, put5 cs (k * 5) x (.slice (some ⟨g, 0, none⟩) x.ms.length x.ms.length, .slice (some ⟨g', 0, none⟩) x.ks.length x.ks.length), upd vs' k (.slice (some ⟨g, 0, none⟩) x.ms.length x.ms.length, .slice (some ⟨g', 0, none⟩) x.ks.length x.ks.length), by omega, by go_num, by rw [put5_len]; exact HL.out, layB_step HM.out (by rw [HL.out]; omega) HX.out _, ?_, ?_, (((((HO.out.stored _ _).1.stored _ _).1.stored _ _).1.stored _ _).1.stored _ _).1, ((((hbw2.setCell (Nat.le_refl _) _).setCell (Nat.le_refl _) _).setCell (Nat.le_refl _) _).setCell (Nat.le_refl _) _).setCell (Nat.le_refl _) _, by rw [set5_size]; exact hgl2⟩
        · exact made_set (made_step HMD2.out HX.out hgB hgB' HR2.out) (fun q hq => set5_other _ _ _ _ _ _ _ _ _ _ _ _ _ hq) (set5_size _ _ _ _ _ _ _ _ _ _ _ _)
        · exact rws_set (rws_step HRS2.out HX.out hgB hgB' HOX.out.1 HOX.out.2) (fun q hq => set5_other _ _ _ _ _ _ _ _ _ _ _ _ _ hq)
      case measure => simp [intOf]; omega
    · have hkn : k = n := by omega
      subst hkn
      have HQ : Hid (∃ vs', BoxesAt wr (.slice (some ⟨w.heap.size, 0, none⟩) k k) xs vs' ∧ Mine wr w.heap.size xs vs' ∧ ∀ j, j < k → ∀ a n c, (vs' j).2 = .slice a n c → n ≤ c) := by
        refine ⟨vs', ⟨⟨_, k, by rw [← HN.out], .inr ⟨w.heap.size, 0, rfl, hgl, fun j hj => ?_⟩⟩, fun j hj => ?_⟩, ⟨⟨cs, ?_, fun j hj => ?_⟩, fun j hj => ?_⟩, fun j hj a n c e => ?_⟩
        · obtain ⟨h0, h1, h2, h3, h4⟩ := HM.out j (by have := HN.out; omega)
          have hjl : j < k := by have := HN.out; omega
          refine ⟨?_, ?_, ?_, ?_, ?_⟩
          · rw [Nat.zero_add, hown.cellAt _ (by omega), h0]
          · rw [Nat.zero_add, hown.cellAt _ (by omega), h1]
          · rw [Nat.zero_add, hown.cellAt _ (by omega), h2]
          · rw [Nat.zero_add, hown.cellAt _ (by omega), h3]
          · rw [Nat.zero_add, hown.cellAt _ (by omega), h4]
        · obtain ⟨g, g', e, _, _, hr⟩ := HMD.out j (by have := HN.out; omega)
          exact hr
        · rw [← HN.out]; exact hown
        · obtain ⟨h0, h1, h2, h3, h4⟩ := HM.out j (by have := HN.out; omega)
          exact ⟨h3, h4⟩
        · exact HRS.out j (by have := HN.out; omega)
        · obtain ⟨g, g', e', _, _, hr⟩ := HMD.out j hj
          rw [e'] at e
          cases e
          exact Nat.le_refl _
      go_wp2
      go_ret
      exact ⟨rfl, HQ.out, hbw⟩
end Go.Proofs.YtncnbhekgkemfaaGreatDoor.bx
