/-
  Ranges read: plain facts, an end the specification's way, a range the program's way.
-/
import Derived.Test.YtofpnabfecimhaaDoorNus
import Derived.Test.YtofpnabfecimhaaDoorSpl
namespace Go.Proofs.YtofpnabfecimhaaDoor.nu
open Go.RowKit
open rg sp
set_option linter.unusedVariables false

def pr2 (a b : Option Int) : Option Pr := match a, b with
  | some x, some y => some (x, y)
  | _, _ => none
/-- A range's text read. -/
def rg1 (l : List UInt8) : Option Pr := match cutS 58 [] l with
  | [a] => pr2 (one a) (one a)
  | [a, b] => pr2 (one a) (one b)
  | _ => none
/-- Ranges' texts read one behind the other. -/
def st : List (List UInt8) → List Pr → Option (List Pr)
  | [], acc => some acc
  | x :: r, acc => match rg1 x with
    | none => none
    | some p => if acc.length = 50 then none else st r (acc ++ [p])
theorem st_bad {x : List UInt8} {r : List (List UInt8)} {acc : List Pr} (h : rg1 x = none ∨ acc.length = 50) : st (x :: r) acc = none := by
  rw [st]
  rcases h with h | h
  · rw [h]
  · cases rg1 x with
    | none => rfl
    | some p => simp only; rw [if_pos h]
theorem st_good {x : List UInt8} {r : List (List UInt8)} {acc : List Pr} {p : Pr} (h : rg1 x = some p) (hl : acc.length ≠ 50) : st (x :: r) acc = st r (acc ++ [p]) := by
  rw [st, h]
  simp only
  rw [if_neg hl]
theorem rg1_one {l : List UInt8} (h : ∀ b ∈ l, b ≠ 58) : rg1 l = pr2 (one l) (one l) := by
  unfold rg1
  rw [cutS_none 58 l [] h]
  rfl
theorem rg1_two {u r : List UInt8} (h : ∀ b ∈ u, b ≠ 58) : rg1 (u ++ 58 :: r) = pr2 (one u) (one r) := by
  unfold rg1
  rw [cutS_at 58 u [] r h, List.nil_append]
  by_cases hr : ∀ b ∈ r, b ≠ 58
  · rw [cutS_none 58 r [] hr]
    rfl
  · have hn : one r = none := one_none (fun n y => hr (end_sign y))
    have hx : ∃ b ∈ r, b = 58 := by
      apply Classical.byContradiction
      intro y
      exact hr (fun b hb e => y ⟨b, hb, e⟩)
    obtain ⟨b, hb, rfl⟩ := hx
    obtain ⟨a, c, e⟩ := List.append_of_mem hb
    have hc : ∃ y z t, cutS 58 [] r = y :: z :: t := by
      rcases index_c 58 r with ⟨_, h2⟩ | ⟨u', r', e', h2, _⟩
      · exact absurd rfl (h2 58 hb)
      · rw [e', cutS_at 58 u' [] r' h2]
        cases hq : cutS 58 [] r' with
        | nil => exact absurd hq (cutS_ne 58 _ _)
        | cons z t => exact ⟨_, z, t, rfl⟩
    obtain ⟨y, z, t, e'⟩ := hc
    rw [e', hn]
    cases one u <;> rfl
/-- What reading a range answers. -/
def RgRet (l : List UInt8) (e : Ending) : Prop := ∃ (x y : Int) (B : Bool), e = .returned (.tuple #[.agg #[.int .i64 x, .int .i64 y], .bool B]) ∧ ((B = true ∧ rg1 l = some (x, y)) ∨ (B = false ∧ rg1 l = none))

set_option maxHeartbeats 2000000 in
set_option maxRecDepth 100000 in
theorem one_any (s : ByteArray) (hs : s.size ≤ 1048576) (w : World) : Calls Tryd.prog 44 #[.string s] w fun e w' => OneRet s.data.toList e ∧ w' = w := by
  by_cases hst : s.data.toList = [42]
  · have heq : (s.toList == [42]) = true := by rw [Lib.toList_data, hst]; rfl
    have HR : Hid (one s.data.toList = some 0) := one_some (.inl ⟨hst, rfl⟩)
    clear hst
    go_enter Tryd.func44, Tryd.ntmps44
    go_wp2
    go_ret2
    exact ⟨⟨0, true, rfl, .inl ⟨rfl, HR.out⟩⟩, rfl⟩
  have heq : (s.toList == [42]) = false := by rw [Lib.toList_data]; exact beq_eq_false_iff_ne.2 hst
  have HST : Hid (¬ s.data.toList = [42]) := hst
  clear hst
  go_enter Tryd.func44, Tryd.ntmps44
  go_wp2_with fail
  refine (number_any s w hs).mono ?_
  rintro e w ⟨⟨v, B, rfl, hg⟩, rfl⟩
  have HG : Hid (Gets s.data.toList v B) := hg
  clear hg heq
  cases B
  · have HR : Hid (one s.data.toList = none) := one_none (fun n y => by
      rcases y with ⟨y, _⟩ | ⟨y1, y2, y3⟩
      · exact HST.out y
      · rcases HG.out with ⟨h, _⟩ | ⟨_, h⟩
        · cases h
        · exact h n.toNat (by omega) (by omega) y3)
    go_wp2
    go_ret2
    exact ⟨⟨v, false, rfl, .inr ⟨rfl, HR.out⟩⟩, rfl⟩
  · by_cases hn : 1 ≤ v ∧ v ≤ 4294967295
    · have hd : decide (1 ≤ v ∧ v ≤ 4294967295) = true := decide_eq_true hn
      have HR : Hid (one s.data.toList = some v) := one_some (by
        rcases HG.out with ⟨_, h1, h2⟩ | ⟨h, _⟩
        · exact .inr ⟨hn.1, hn.2, h2⟩
        · rcases h with h | h
          · cases h
          · exact absurd hn.1 (by omega))
      go_wp2_with fail
      refine (in_any _ _ _ _).mono ?_
      rintro e w ⟨rfl, rfl⟩
      rw [hd]
      go_wp2
      go_ret2
      exact ⟨⟨v, true, rfl, .inl ⟨rfl, HR.out⟩⟩, rfl⟩
    · have hd : decide (1 ≤ v ∧ v ≤ 4294967295) = false := decide_eq_false hn
      have HR : Hid (one s.data.toList = none) := one_none (fun n y => by
        rcases y with ⟨y, _⟩ | ⟨y1, y2, y3⟩
        · exact HST.out y
        · rcases HG.out with ⟨_, h1, h2⟩ | ⟨_, h⟩
          · have e := dec_inj (h2.symm.trans y3)
            exact hn ⟨h1, by omega⟩
          · exact h n.toNat (by omega) (by omega) y3)
      go_wp2_with fail
      refine (in_any _ _ _ _).mono ?_
      rintro e w ⟨rfl, rfl⟩
      rw [hd]
      go_wp2
      go_ret2
      exact ⟨⟨v, false, rfl, .inr ⟨rfl, HR.out⟩⟩, rfl⟩
theorem pr2_ret {a b : List UInt8} {va vb : Int} {Ba Bb : Bool} (ha : (Ba = true ∧ one a = some va) ∨ (Ba = false ∧ one a = none)) (hb : (Bb = true ∧ one b = some vb) ∨ (Bb = false ∧ one b = none)) :
    ((Ba && Bb) = true ∧ pr2 (one a) (one b) = some (va, vb)) ∨ ((Ba && Bb) = false ∧ pr2 (one a) (one b) = none) := by
  rcases ha with ⟨rfl, ha⟩ | ⟨rfl, ha⟩
  · rcases hb with ⟨rfl, hb⟩ | ⟨rfl, hb⟩
    · exact .inl ⟨rfl, by rw [ha, hb]; rfl⟩
    · exact .inr ⟨rfl, by rw [ha, hb]; rfl⟩
  · exact .inr ⟨rfl, by rw [ha]; cases one b <;> rfl⟩
set_option maxHeartbeats 2000000 in
set_option maxRecDepth 100000 in
theorem rangeOf_any (s : ByteArray) (hs : s.size ≤ 1048576) (w : World) (mx : Int) (hm : w.cell? ⟨1, 0, none⟩ = some (.int .i64 mx)) (h : Sents w) (hT : tb.TP w) :
    Calls Tryd.prog 41 #[.string s] w fun e w' => RgRet s.data.toList e ∧ Below w.heap.size w w' := by
  have b0 := new_below w 38 #[.int .i64 0, .int .i64 0]
  have HM : Hid ((w.alloc (.cells #[.int .i64 0, .int .i64 0] 38)).cell? ⟨1, 0, none⟩ = some (.int .i64 mx)) := (b0.cell (p := ⟨1, 0, none⟩) (World.block_lt_of_cell? w _ hm)).trans hm
  have HS : Hid (Sents (w.alloc (.cells #[.int .i64 0, .int .i64 0] 38))) := sents_keep h b0
  have HT : Hid (tb.TP (w.alloc (.cells #[.int .i64 0, .int .i64 0] 38))) := tb.keep' hT b0
  clear h hT hm
  go_enter Tryd.func41, Tryd.ntmps41
  go_wp2_with fail
  have hL0 : (w.alloc (.cells #[.int .i64 0, .int .i64 0] 38)).heap[w.heap.size]? = some (.cells #[.int .i64 0, .int .i64 0] 38) := (MapKept.heap_alloc w _).1
  have hlt0 : w.heap.size < (w.alloc (.cells #[.int .i64 0, .int .i64 0] 38)).heap.size := by simp
  generalize w.alloc _ = w0 at b0 HM HS HT hL0 hlt0 ⊢
  refine (cut1_any 58 s hs w0 mx HM.out).mono ?_
  rintro e wd ⟨u, r, B, rfl, hcut, nd, hwd⟩
  have bd0 : Below w0.heap.size w0 wd := by rw [hwd]; exact below_drewN (Below.refl _ _) nd
  have bd := b0.trans (bd0.mono b0.size)
  have HSd : Hid (Sents wd) := sents_keep HS.out bd0
  have HTd : Hid (tb.TP wd) := tb.keep' HT.out bd0
  have hLd : wd.heap[w.heap.size]? = some (.cells #[.int .i64 0, .int .i64 0] 38) := (bd0.block w.heap.size hlt0).trans hL0
  have hlt : w.heap.size < wd.heap.size := by have := bd0.size; omega
  obtain ⟨U, hU⟩ : ∃ U : ByteArray, U = ⟨u.toArray⟩ := ⟨_, rfl⟩
  obtain ⟨R, hR⟩ : ∃ R : ByteArray, R = ⟨r.toArray⟩ := ⟨_, rfl⟩
  have HUL : Hid (U.data.toList = u) := (show U.data.toList = u from by rw [hU])
  have HRL : Hid (R.data.toList = r) := (show R.data.toList = r from by rw [hR])
  rw [← hU, ← hR]
  have hsz := Lib.size_eq s
  clear hU hR hwd bd0 b0 HM HS HT hL0 hlt0
  rcases hcut with ⟨rfl, e, hno⟩ | ⟨rfl, e, er, hno⟩
  · have HRG : Hid (rg1 s.data.toList = pr2 (one u) (one r)) := by rw [e]; exact rg1_two hno
    rw [e, List.length_append, List.length_cons] at hsz
    have HUS : Hid (U.size ≤ 1048576) := (show U.size ≤ 1048576 by rw [Lib.size_eq, HUL.out]; omega)
    have HRS : Hid (R.size ≤ 1048576) := (show R.size ≤ 1048576 by rw [Lib.size_eq, HRL.out]; omega)
    clear e hno hsz
    go_wp2_with fail
    refine (endOf_any U HUS.out _ HSd.out HTd.out).mono ?_
    rintro e w1 ⟨⟨va, Ba, rfl, ha⟩, b1⟩
    have HA : Hid ((Ba = true ∧ one u = some va) ∨ (Ba = false ∧ one u = none)) := by rw [HUL.out] at ha; exact ha
    have HS1 : Hid (Sents w1) := sents_keep HSd.out b1
    have HT1 : Hid (tb.TP w1) := tb.keep' HTd.out b1
    have bb1 := bd.trans (b1.mono bd.size)
    have hL1 := (b1.block w.heap.size hlt).trans hLd
    have hlt1 : w.heap.size < w1.heap.size := by have := b1.size; omega
    clear ha b1 HSd HTd hLd
    go_wp2_with fail
    refine (endOf_any R HRS.out _ HS1.out HT1.out).mono ?_
    rintro e w2 ⟨⟨vb, Bb, rfl, hb⟩, b2⟩
    have HB : Hid ((Bb = true ∧ one r = some vb) ∨ (Bb = false ∧ one r = none)) := by rw [HRL.out] at hb; exact hb
    have bb2 := bb1.trans (b2.mono bb1.size)
    have hL2 := (b2.block w.heap.size hlt1).trans hL1
    clear hb b2 HS1 HT1 hL1 bb1
    have HRR : Hid (((Ba && Bb) = true ∧ rg1 s.data.toList = some (va, vb)) ∨ ((Ba && Bb) = false ∧ rg1 s.data.toList = none)) := by rw [HRG.out]; exact pr2_ret HA.out HB.out
    have c0 : w2.cell? ⟨w.heap.size, 0, none⟩ = some (.int .i64 0) := by rw [cell_of_row _ _ _ _ _ _ hL2]; rfl
    have c1 : w2.cell? ⟨w.heap.size, 0 + 1, none⟩ = some (.int .i64 0) := by rw [cell_of_row _ _ _ _ _ _ hL2]; rfl
    have f0 : w2.frozen? ⟨w.heap.size, 0, none⟩ = false := Lib.frozen_of_heap hL2 0
    have f1 : w2.frozen? ⟨w.heap.size, 0 + 1, none⟩ = false := Lib.frozen_of_heap hL2 1
    have bf := ((bb2.setCell (p := ⟨w.heap.size, 0, none⟩) (Nat.le_refl _) (.int .i64 va)).setCell (p := ⟨w.heap.size, 0 + 1, none⟩) (Nat.le_refl _) (.int .i64 vb))
    have d0 : ((w2.setCell ⟨w.heap.size, 0, none⟩ (.int .i64 va)).setCell ⟨w.heap.size, 1, none⟩ (.int .i64 vb)).cell? ⟨w.heap.size, 0, none⟩ = some (.int .i64 va) := by
      rw [World.cell?_setCell_other _ _ _ _ (by simp), World.cell?_setCell_same _ _ _ c0]
    have d1 : ((w2.setCell ⟨w.heap.size, 0, none⟩ (.int .i64 va)).setCell ⟨w.heap.size, 1, none⟩ (.int .i64 vb)).cell? ⟨w.heap.size, 1, none⟩ = some (.int .i64 vb) :=
      World.cell?_setCell_same _ _ _ ((World.cell?_setCell_other _ _ _ _ (by simp)).trans c1)
    have HD : Hid (((w2.setCell ⟨w.heap.size, 0, none⟩ (.int .i64 va)).setCell ⟨w.heap.size, 1, none⟩ (.int .i64 vb)).cell? ⟨w.heap.size, 0, none⟩ = some (.int .i64 va) ∧ ((w2.setCell ⟨w.heap.size, 0, none⟩ (.int .i64 va)).setCell ⟨w.heap.size, 1, none⟩ (.int .i64 vb)).cell? ⟨w.heap.size, 1, none⟩ = some (.int .i64 vb) ∧ Below w.heap.size w ((w2.setCell ⟨w.heap.size, 0, none⟩ (.int .i64 va)).setCell ⟨w.heap.size, 1, none⟩ (.int .i64 vb))) := ⟨d0, d1, bf⟩
    clear HA HB hL2 bb2 d0 d1 bf
    cases Ba
    · go_wp2
      obtain ⟨d0, d1, bf⟩ := HD.out
      generalize (w2.setCell ⟨w.heap.size, 0, none⟩ (.int .i64 va)).setCell ⟨w.heap.size, 1, none⟩ (.int .i64 vb) = W at d0 d1 bf ⊢
      exact bodyPost_ret (v := .tuple #[.agg #[.int .i64 va, .int .i64 vb], .bool false]) (by simp [results, Tryd.results41, go_sem, d0, d1]) rfl ⟨⟨va, vb, _, rfl, HRR.out⟩, bf⟩
    · go_wp2
      obtain ⟨d0, d1, bf⟩ := HD.out
      generalize (w2.setCell ⟨w.heap.size, 0, none⟩ (.int .i64 va)).setCell ⟨w.heap.size, 1, none⟩ (.int .i64 vb) = W at d0 d1 bf ⊢
      exact bodyPost_ret (v := .tuple #[.agg #[.int .i64 va, .int .i64 vb], .bool Bb]) (by simp [results, Tryd.results41, go_sem, d0, d1]) rfl ⟨⟨va, vb, _, rfl, HRR.out⟩, bf⟩
  · have HRG : Hid (rg1 s.data.toList = pr2 (one u) (one u)) := by rw [e]; exact rg1_one hno
    rw [e] at hsz
    have HUS : Hid (U.size ≤ 1048576) := (show U.size ≤ 1048576 by rw [Lib.size_eq, HUL.out]; omega)
    clear e hno hsz er
    go_wp2_with fail
    refine (endOf_any U HUS.out _ HSd.out HTd.out).mono ?_
    rintro e w1 ⟨⟨va, Ba, rfl, ha⟩, b1⟩
    have HA : Hid ((Ba = true ∧ one u = some va) ∨ (Ba = false ∧ one u = none)) := by rw [HUL.out] at ha; exact ha
    have HS1 : Hid (Sents w1) := sents_keep HSd.out b1
    have HT1 : Hid (tb.TP w1) := tb.keep' HTd.out b1
    have bb1 := bd.trans (b1.mono bd.size)
    have hL1 := (b1.block w.heap.size hlt).trans hLd
    have hlt1 : w.heap.size < w1.heap.size := by have := b1.size; omega
    clear ha b1 HSd HTd hLd
    go_wp2_with fail
    refine (endOf_any U HUS.out _ HS1.out HT1.out).mono ?_
    rintro e w2 ⟨⟨vb, Bb, rfl, hb⟩, b2⟩
    have HB : Hid ((Bb = true ∧ one u = some vb) ∨ (Bb = false ∧ one u = none)) := by rw [HUL.out] at hb; exact hb
    have bb2 := bb1.trans (b2.mono bb1.size)
    have hL2 := (b2.block w.heap.size hlt1).trans hL1
    clear hb b2 HS1 HT1 hL1 bb1
    have HRR : Hid (((Ba && Bb) = true ∧ rg1 s.data.toList = some (va, vb)) ∨ ((Ba && Bb) = false ∧ rg1 s.data.toList = none)) := by rw [HRG.out]; exact pr2_ret HA.out HB.out
    have c0 : w2.cell? ⟨w.heap.size, 0, none⟩ = some (.int .i64 0) := by rw [cell_of_row _ _ _ _ _ _ hL2]; rfl
    have c1 : w2.cell? ⟨w.heap.size, 0 + 1, none⟩ = some (.int .i64 0) := by rw [cell_of_row _ _ _ _ _ _ hL2]; rfl
    have f0 : w2.frozen? ⟨w.heap.size, 0, none⟩ = false := Lib.frozen_of_heap hL2 0
    have f1 : w2.frozen? ⟨w.heap.size, 0 + 1, none⟩ = false := Lib.frozen_of_heap hL2 1
    have bf := ((bb2.setCell (p := ⟨w.heap.size, 0, none⟩) (Nat.le_refl _) (.int .i64 va)).setCell (p := ⟨w.heap.size, 0 + 1, none⟩) (Nat.le_refl _) (.int .i64 vb))
    have d0 : ((w2.setCell ⟨w.heap.size, 0, none⟩ (.int .i64 va)).setCell ⟨w.heap.size, 1, none⟩ (.int .i64 vb)).cell? ⟨w.heap.size, 0, none⟩ = some (.int .i64 va) := by
      rw [World.cell?_setCell_other _ _ _ _ (by simp), World.cell?_setCell_same _ _ _ c0]
    have d1 : ((w2.setCell ⟨w.heap.size, 0, none⟩ (.int .i64 va)).setCell ⟨w.heap.size, 1, none⟩ (.int .i64 vb)).cell? ⟨w.heap.size, 1, none⟩ = some (.int .i64 vb) :=
      World.cell?_setCell_same _ _ _ ((World.cell?_setCell_other _ _ _ _ (by simp)).trans c1)
    have HD : Hid (((w2.setCell ⟨w.heap.size, 0, none⟩ (.int .i64 va)).setCell ⟨w.heap.size, 1, none⟩ (.int .i64 vb)).cell? ⟨w.heap.size, 0, none⟩ = some (.int .i64 va) ∧ ((w2.setCell ⟨w.heap.size, 0, none⟩ (.int .i64 va)).setCell ⟨w.heap.size, 1, none⟩ (.int .i64 vb)).cell? ⟨w.heap.size, 1, none⟩ = some (.int .i64 vb) ∧ Below w.heap.size w ((w2.setCell ⟨w.heap.size, 0, none⟩ (.int .i64 va)).setCell ⟨w.heap.size, 1, none⟩ (.int .i64 vb))) := ⟨d0, d1, bf⟩
    clear HA HB hL2 bb2 d0 d1 bf
    cases Ba
    · go_wp2
      obtain ⟨d0, d1, bf⟩ := HD.out
      generalize (w2.setCell ⟨w.heap.size, 0, none⟩ (.int .i64 va)).setCell ⟨w.heap.size, 1, none⟩ (.int .i64 vb) = W at d0 d1 bf ⊢
      exact bodyPost_ret (v := .tuple #[.agg #[.int .i64 va, .int .i64 vb], .bool false]) (by simp [results, Tryd.results41, go_sem, d0, d1]) rfl ⟨⟨va, vb, _, rfl, HRR.out⟩, bf⟩
    · go_wp2
      obtain ⟨d0, d1, bf⟩ := HD.out
      generalize (w2.setCell ⟨w.heap.size, 0, none⟩ (.int .i64 va)).setCell ⟨w.heap.size, 1, none⟩ (.int .i64 vb) = W at d0 d1 bf ⊢
      exact bodyPost_ret (v := .tuple #[.agg #[.int .i64 va, .int .i64 vb], .bool Bb]) (by simp [results, Tryd.results41, go_sem, d0, d1]) rfl ⟨⟨va, vb, _, rfl, HRR.out⟩, bf⟩
end Go.Proofs.YtofpnabfecimhaaDoor.nu
