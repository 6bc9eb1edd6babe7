/-
  The contracts of what is sent of a text: the specification's functions and the program's.
-/
import Derived.Test.YtcflfejdpjphjaaDoorDtq
import Derived.Test.YtcflfejdpjphjaaDoorDus
import Derived.Test.YtcflfejdpjphjaaDoorShf
namespace Go.Proofs.YtcflfejdpjphjaaDoor.dt
open Go.RowKit
set_option linter.unusedVariables false

/-- A text is empty, or ends with an end of a line. -/
def lnB (l : List UInt8) : Bool := l.isEmpty || [13, 10].isSuffixOf l
def sfR (a : ByteArray) : Int × List UInt8 := if 32765 < a.size then (2, []) else if lnB a.data.toList = true then (0, sf 0 a.data.toList ++ tl) else (3, [])
def SfIs (a : ByteArray) (e : Ending) : Prop := e = .returned (.tuple #[.string ⟨(sfR a).2.toArray⟩, .int .i64 (sfR a).1])
theorem suf_drop {l : List UInt8} (h : 2 ≤ l.length) : [13, 10].isSuffixOf l = decide (l.drop (l.length - 2) = [13, 10]) := by
  rw [Bool.eq_iff_iff, List.isSuffixOf_iff_suffix, decide_eq_true_iff]
  constructor
  · rintro ⟨q, rfl⟩
    simp
  · intro e
    exact ⟨l.take (l.length - 2), by rw [← e, List.take_append_drop]⟩
theorem suf_short {l : List UInt8} (h : l.length < 2) : [13, 10].isSuffixOf l = false := by
  rw [Bool.eq_false_iff]
  intro e
  obtain ⟨q, rfl⟩ := List.isSuffixOf_iff_suffix.1 e
  simp at h
  omega
theorem step_sf {l out : List UInt8} {s : Nat} {c : UInt8} {r : List UInt8} (h : sf 0 l = out ++ sf s (c :: r)) (h0 : ¬ (s = 0 ∧ c = 46)) : sf 0 l = (out ++ [c]) ++ sf (go s c) r := by
  rw [h, sf_on h0]
  simp

theorem cv_end {w : World} {base n : Nat} {v : Value} {out : List UInt8} (h : w.ownsRow base 5 1 v n (Lib.byteCells out ++ Lib.strCells (⟨#[46, 13, 10]⟩ : ByteArray))) : (convert 22 9 v).run Tryd.prog w = .ok (.string ⟨(out ++ tl).toArray⟩) w := by
  have e : Lib.byteCells out ++ Lib.strCells (⟨#[46, 13, 10]⟩ : ByteArray) = (out ++ tl).map (fun b => Value.int .u8 (b.toNat : Int)) := by
    rw [Lib.strCells_eq, ← Lib.byteCells_append]
    rfl
  rw [e] at h
  exact ow.conv_bytes (P := Tryd.prog) (src := 22) (dst := 9) (out ++ tl) h Tryd.underlying22 Tryd.underlying5 Tryd.underlying9

set_option maxHeartbeats 1000000 in
set_option maxRecDepth 100000 in
theorem specSf_any (a : ByteArray) (w : World) (hs : a.size ≤ 1048576) :
    Calls Tryd.prog 16 #[.string a] w fun e w' => e = .returned (.string ⟨(sf 0 a.data.toList ++ tl).toArray⟩) ∧ Below w.heap.size w w' := by
  have h' : (a.size : Int) ≤ 1048576 := by omega
  obtain ⟨i0, hi, hz0, hz1, hz2⟩ := info_parts info1
  go_enter Tryd.func16, Tryd.ntmps16
  go_wp2_with fail
  go_loopw [3, 4, 5] (fun v st i wr => ∃ (j s : Nat) (out : List UInt8), j ≤ a.size ∧ i = .int .i64 j ∧ st = .bool (decide (s = 0)) ∧ St a j s ∧ out.length ≤ 2 * j ∧ wr.ownsRow w.heap.size 5 1 v out.length (Lib.byteCells out) ∧ Below w.heap.size w wr ∧ Hid (sf 0 a.data.toList = out ++ sf s (a.data.toList.drop j))) (fun _ _ i _ => a.size - (intOf i).toNat)
  case atStart =>
    refine ⟨0, 0, [], Nat.zero_le _, rfl, rfl, ⟨.inl rfl, by simp⟩, Nat.le_refl _, ow.own_empty _ _, (Below.refl _ _).alloc (Nat.le_refl _) _, ?_⟩
    exact (rfl : _ = _)
  case round =>
    obtain ⟨j, s, out, hj, rfl, rfl, hst, hol, hown, hbw, HU⟩ := hrel
    have hBs := hbw.size
    have HST : Hid (St a j s) := hst
    clear hst
    have hbl : (Lib.byteCells out).length = out.length := Lib.byteCells_length out
    by_cases hlt : j < a.size
    case neg =>
      have hlt' : (a.size : Int) ≤ (j : Int) := by omega
      have HR : Hid (sf 0 a.data.toList = out) := (show _ = _ by rw [HU.out, drop_out a j (by omega)]; simp [sf])
      clear HU HST
      go_wp2_with (at_builtin; go_loud (refine Lib.wpList_append_own_string _ rfl _ _ 22 9 rfl w.heap.size 5 i0 Tryd.underlying22 Tryd.underlying9 hi hz0 hz1 hz2 _ _ _ rfl hown (⟨#[46, 13, 10]⟩ : ByteArray) rfl (by have e3 : (⟨#[46, 13, 10]⟩ : ByteArray).size = 3 := rfl; unfold maxLen; omega) (by have e3 : (⟨#[46, 13, 10]⟩ : ByteArray).size = 3 := rfl; omega) (by omega) ?_; intro v' w3 hown3 hgrow3 hnil3; have cv := cv_end hown3))
      have hb3 := Below.grown hbw hgrow3 (by omega) (ow.own_lt hown)
      go_ret
      exact ⟨by rw [HR.out]; rfl, hb3⟩
    have hlt' : (j : Int) < (a.size : Int) := by omega
    have hj0 : (0 : Int) ≤ (j : Int) := by omega
    have ub : ((a[j]'hlt).toNat : Int) ≤ 255 := by have := (a[j]'hlt).toNat_lt; omega
    have hd := drop_at a j hlt
    by_cases hA : s = 0 ∧ ((a[j]'hlt).toNat : Int) = 46
    · obtain ⟨rfl, hc⟩ := hA
      have d1 : (((a[j]'hlt).toNat : Int) == 46) = true := beq_iff_eq.2 hc
      have d2 : (((a[j]'hlt).toNat : Int) == 10) = false := beq_eq_false_iff_ne.2 (by omega)
      have hc2 : a[j]'hlt = 46 := ch46.1 hc
      have HST2 : Hid (St a (j + 1) 1) := (show St _ _ _ by have := st_next hlt HST.out; rw [hc2] at this; exact this)
      have HU2 : Hid (sf 0 a.data.toList = (out ++ [46]) ++ [a[j]'hlt] ++ sf 1 (a.data.toList.drop (j + 1))) := (show _ = _ by rw [HU.out, hd, hc2, sf_dot]; simp)
      clear HU HST hd hc hc2
      go_upto_region 8 with (at_builtin; refine wpList_append_own _ rfl _ _ 22 rfl w.heap.size 5 i0 (.int .u8 0) 1 1 Tryd.underlying22 hi hz0 hz1 hz2 rfl (by decide) _ _ _ rfl (hown.alloc _) ⟨wr.heap.size, 0, none⟩ 1 1 [.int .u8 (46)] rfl rfl (ow.cells_new _ [.int .u8 (46)] _) (by intro u hu; simp at hu; subst hu; rfl) (by unfold maxLen; omega) (by omega) (by simp; omega) ?_; intro v2 w2 hown2 hgrow2 hnil2)
      have hb2 := Below.grown (hbw.alloc hBs _) hgrow2 (by simp; omega) (ow.own_lt hown)
      have hown2' : w2.ownsRow w.heap.size 5 1 v2 (out ++ [46]).length (Lib.byteCells (out ++ [46])) := by rw [Lib.byteCells_append, List.length_append]; exact hown2
      have hBs2 := hb2.size
      have hol2 : (out ++ [46]).length ≤ 2 * j + 1 := by simp; omega
      have hbl2 : (Lib.byteCells (out ++ [46])).length = (out ++ [46]).length := Lib.byteCells_length _
      clear hown2 hgrow2 hnil2 hown hbw hbl
      generalize out ++ [46] = ou2 at hown2' HU2 hol2 hbl2
      go_wp2_with (at_builtin; refine wpList_append_own _ rfl _ _ 22 rfl w.heap.size 5 i0 (.int .u8 0) 1 1 Tryd.underlying22 hi hz0 hz1 hz2 rfl (by decide) _ _ _ rfl (hown2'.alloc _) ⟨w2.heap.size, 0, none⟩ 1 1 [.int .u8 (((a[j]'hlt).toNat : Int))] rfl rfl (ow.cells_new _ [.int .u8 (((a[j]'hlt).toNat : Int))] _) (by intro u hu; simp at hu; subst hu; rfl) (by unfold maxLen; omega) (by omega) (by simp; omega) ?_; intro v' w3 hown3 hgrow3 hnil3)
      have hb3 := Below.grown (hb2.alloc hBs2 _) hgrow3 (by simp; omega) (ow.own_lt hown2')
      have HA : Hid (w3.ownsRow w.heap.size 5 1 v' (ou2 ++ [a[j]'hlt]).length (Lib.byteCells (ou2 ++ [a[j]'hlt])) ∧ Below w.heap.size w w3) := ⟨by rw [Lib.byteCells_append, List.length_append]; exact hown3, hb3⟩
      clear hown3 hgrow3 hnil3 hb3 hown2' hb2
      go_wp2
      go_roundw
      case rel => exact ⟨j + 1, 1, ou2 ++ [a[j]'hlt], by omega, by go_num, rfl, HST2.out, by simp; omega, HA.out.1, HA.out.2, HU2⟩
      case measure => simp [intOf]; omega
    · have hA' : ¬ (s = 0 ∧ a[j]'hlt = 46) := fun x => hA ⟨x.1, ch46.2 x.2⟩
      have hs3 : True := trivial
      have HU2 : Hid (sf 0 a.data.toList = (out ++ [a[j]'hlt]) ++ sf (go s (a[j]'hlt)) (a.data.toList.drop (j + 1))) := step_sf (by rw [← hd]; exact HU.out) hA'
      have HST2 : Hid (St a (j + 1) (go s (a[j]'hlt))) := st_next hlt HST.out
      have hor : decide (s = 0) = false ∨ (((a[j]'hlt).toNat : Int) == 46) = false := by
        by_cases h0 : s = 0
        · exact .inr (beq_eq_false_iff_ne.2 fun x => hA ⟨h0, x⟩)
        · exact .inl (decide_eq_false h0)
      have hb : ∃ b : Bool, b = decide (go s (a[j]'hlt) = 0) ∧ ((((a[j]'hlt).toNat : Int) == 10) = false ∧ b = false ∨ (((a[j]'hlt).toNat : Int) == 10) = true ∧ (j = 0 ∧ b = false ∨ 0 < j ∧ ∃ h : j - 1 < a.size, (((a[j - 1]'h).toNat : Int) == 13) = b)) := by
        refine ⟨_, rfl, ?_⟩
        by_cases h10 : ((a[j]'hlt).toNat : Int) = 10
        · refine .inr ⟨beq_iff_eq.2 h10, ?_⟩
          have e10 : a[j]'hlt = 10 := ch10.1 h10
          have hg : go s (a[j]'hlt) = if s = 2 then 0 else 1 := by unfold go; rw [e10]; simp
          rw [hg]
          by_cases hj00 : j = 0
          · refine .inl ⟨hj00, ?_⟩
            have : s ≠ 2 := fun e => by have := (HST.out.2.1 e).1; omega
            rw [if_neg this]
            rfl
          · have hj1 : j - 1 < a.size := by omega
            refine .inr ⟨by omega, hj1, ?_⟩
            have := st_prev HST.out (by omega) hj1
            by_cases e : s = 2
            · rw [if_pos e, beq_iff_eq.2 (this.1 e)]; rfl
            · rw [if_neg e, beq_eq_false_iff_ne.2 (fun x => e (this.2 x))]; rfl
        · refine .inl ⟨beq_eq_false_iff_ne.2 h10, ?_⟩
          have e10 : ¬ a[j]'hlt = 10 := fun x => h10 (ch10.2 x)
          unfold go
          by_cases h13 : a[j]'hlt = 13
          · rw [if_pos h13]; rfl
          · rw [if_neg h13, if_neg (fun x => e10 x.2)]; rfl
      obtain ⟨b, hbe, hbo⟩ := hb
      have HB : Hid (b = decide (go s (a[j]'hlt) = 0)) := hbe
      clear hbe hA hA' hs3 hd HU HST
      generalize decide (s = 0) = st at hor ⊢
      cases st with
      | false =>
        clear hor
        rcases hbo with ⟨g1, rfl⟩ | ⟨g1, ⟨hj00, rfl⟩ | ⟨hjp, hj1, g2⟩⟩
        · go_wp2_with (at_builtin; refine wpList_append_own _ rfl _ _ 22 rfl w.heap.size 5 i0 (.int .u8 0) 1 1 Tryd.underlying22 hi hz0 hz1 hz2 rfl (by decide) _ _ _ rfl (hown.alloc _) ⟨wr.heap.size, 0, none⟩ 1 1 [.int .u8 (((a[j]'hlt).toNat : Int))] rfl rfl (ow.cells_new _ [.int .u8 (((a[j]'hlt).toNat : Int))] _) (by intro u hu; simp at hu; subst hu; rfl) (by unfold maxLen; omega) (by omega) (by simp; omega) ?_; intro v' w3 hown3 hgrow3 hnil3)
          have hb3 := Below.grown (hbw.alloc hBs _) hgrow3 (by simp; omega) (ow.own_lt hown)
          have HA : Hid (w3.ownsRow w.heap.size 5 1 v' (out ++ [a[j]'hlt]).length (Lib.byteCells (out ++ [a[j]'hlt])) ∧ Below w.heap.size w w3) := ⟨by rw [Lib.byteCells_append, List.length_append]; exact hown3, hb3⟩
          clear hown3 hgrow3 hnil3 hb3 hown hbw
          go_wp2
          go_roundw
          case rel => exact ⟨j + 1, go s (a[j]'hlt), out ++ [a[j]'hlt], by omega, by go_num, by rw [← HB.out], HST2.out, by simp; omega, HA.out.1, HA.out.2, HU2⟩
          case measure => simp [intOf]; omega
        · have hj00' : decide (0 < j) = false := decide_eq_false (by omega)
          clear hj00
          go_wp2_with (at_builtin; refine wpList_append_own _ rfl _ _ 22 rfl w.heap.size 5 i0 (.int .u8 0) 1 1 Tryd.underlying22 hi hz0 hz1 hz2 rfl (by decide) _ _ _ rfl (hown.alloc _) ⟨wr.heap.size, 0, none⟩ 1 1 [.int .u8 (((a[j]'hlt).toNat : Int))] rfl rfl (ow.cells_new _ [.int .u8 (((a[j]'hlt).toNat : Int))] _) (by intro u hu; simp at hu; subst hu; rfl) (by unfold maxLen; omega) (by omega) (by simp; omega) ?_; intro v' w3 hown3 hgrow3 hnil3)
          have hb3 := Below.grown (hbw.alloc hBs _) hgrow3 (by simp; omega) (ow.own_lt hown)
          have HA : Hid (w3.ownsRow w.heap.size 5 1 v' (out ++ [a[j]'hlt]).length (Lib.byteCells (out ++ [a[j]'hlt])) ∧ Below w.heap.size w w3) := ⟨by rw [Lib.byteCells_append, List.length_append]; exact hown3, hb3⟩
          clear hown3 hgrow3 hnil3 hb3 hown hbw
          go_wp2
          go_roundw
          case rel => exact ⟨j + 1, go s (a[j]'hlt), out ++ [a[j]'hlt], by omega, by go_num, by rw [← HB.out], HST2.out, by simp; omega, HA.out.1, HA.out.2, HU2⟩
          case measure => simp [intOf]; omega
        · have hjp' : (0 : Int) < (j : Int) := by omega
          have ub3 : ((a[j - 1]'hj1).toNat : Int) ≤ 255 := by have := (a[j - 1]'hj1).toNat_lt; omega
          go_wp2_with (at_builtin; refine wpList_append_own _ rfl _ _ 22 rfl w.heap.size 5 i0 (.int .u8 0) 1 1 Tryd.underlying22 hi hz0 hz1 hz2 rfl (by decide) _ _ _ rfl (hown.alloc _) ⟨wr.heap.size, 0, none⟩ 1 1 [.int .u8 (((a[j]'hlt).toNat : Int))] rfl rfl (ow.cells_new _ [.int .u8 (((a[j]'hlt).toNat : Int))] _) (by intro u hu; simp at hu; subst hu; rfl) (by unfold maxLen; omega) (by omega) (by simp; omega) ?_; intro v' w3 hown3 hgrow3 hnil3)
          have hb3 := Below.grown (hbw.alloc hBs _) hgrow3 (by simp; omega) (ow.own_lt hown)
          have HA : Hid (w3.ownsRow w.heap.size 5 1 v' (out ++ [a[j]'hlt]).length (Lib.byteCells (out ++ [a[j]'hlt])) ∧ Below w.heap.size w w3) := ⟨by rw [Lib.byteCells_append, List.length_append]; exact hown3, hb3⟩
          clear hown3 hgrow3 hnil3 hb3 hown hbw
          go_wp2
          go_roundw
          case rel => exact ⟨j + 1, go s (a[j]'hlt), out ++ [a[j]'hlt], by omega, by go_num, by rw [← HB.out], HST2.out, by simp; omega, HA.out.1, HA.out.2, HU2⟩
          case measure => simp [intOf]; omega
      | true =>
        have hne : (((a[j]'hlt).toNat : Int) == 46) = false := hor.resolve_left (by decide)
        clear hor
        rcases hbo with ⟨g1, rfl⟩ | ⟨g1, ⟨hj00, rfl⟩ | ⟨hjp, hj1, g2⟩⟩
        · go_wp2_with (at_builtin; refine wpList_append_own _ rfl _ _ 22 rfl w.heap.size 5 i0 (.int .u8 0) 1 1 Tryd.underlying22 hi hz0 hz1 hz2 rfl (by decide) _ _ _ rfl (hown.alloc _) ⟨wr.heap.size, 0, none⟩ 1 1 [.int .u8 (((a[j]'hlt).toNat : Int))] rfl rfl (ow.cells_new _ [.int .u8 (((a[j]'hlt).toNat : Int))] _) (by intro u hu; simp at hu; subst hu; rfl) (by unfold maxLen; omega) (by omega) (by simp; omega) ?_; intro v' w3 hown3 hgrow3 hnil3)
          have hb3 := Below.grown (hbw.alloc hBs _) hgrow3 (by simp; omega) (ow.own_lt hown)
          have HA : Hid (w3.ownsRow w.heap.size 5 1 v' (out ++ [a[j]'hlt]).length (Lib.byteCells (out ++ [a[j]'hlt])) ∧ Below w.heap.size w w3) := ⟨by rw [Lib.byteCells_append, List.length_append]; exact hown3, hb3⟩
          clear hown3 hgrow3 hnil3 hb3 hown hbw
          go_wp2
          go_roundw
          case rel => exact ⟨j + 1, go s (a[j]'hlt), out ++ [a[j]'hlt], by omega, by go_num, by rw [← HB.out], HST2.out, by simp; omega, HA.out.1, HA.out.2, HU2⟩
          case measure => simp [intOf]; omega
        · have hj00' : decide (0 < j) = false := decide_eq_false (by omega)
          clear hj00
          go_wp2_with (at_builtin; refine wpList_append_own _ rfl _ _ 22 rfl w.heap.size 5 i0 (.int .u8 0) 1 1 Tryd.underlying22 hi hz0 hz1 hz2 rfl (by decide) _ _ _ rfl (hown.alloc _) ⟨wr.heap.size, 0, none⟩ 1 1 [.int .u8 (((a[j]'hlt).toNat : Int))] rfl rfl (ow.cells_new _ [.int .u8 (((a[j]'hlt).toNat : Int))] _) (by intro u hu; simp at hu; subst hu; rfl) (by unfold maxLen; omega) (by omega) (by simp; omega) ?_; intro v' w3 hown3 hgrow3 hnil3)
          have hb3 := Below.grown (hbw.alloc hBs _) hgrow3 (by simp; omega) (ow.own_lt hown)
          have HA : Hid (w3.ownsRow w.heap.size 5 1 v' (out ++ [a[j]'hlt]).length (Lib.byteCells (out ++ [a[j]'hlt])) ∧ Below w.heap.size w w3) := ⟨by rw [Lib.byteCells_append, List.length_append]; exact hown3, hb3⟩
          clear hown3 hgrow3 hnil3 hb3 hown hbw
          go_wp2
          go_roundw
          case rel => exact ⟨j + 1, go s (a[j]'hlt), out ++ [a[j]'hlt], by omega, by go_num, by rw [← HB.out], HST2.out, by simp; omega, HA.out.1, HA.out.2, HU2⟩
          case measure => simp [intOf]; omega
        · have hjp' : (0 : Int) < (j : Int) := by omega
          have ub3 : ((a[j - 1]'hj1).toNat : Int) ≤ 255 := by have := (a[j - 1]'hj1).toNat_lt; omega
          go_wp2_with (at_builtin; refine wpList_append_own _ rfl _ _ 22 rfl w.heap.size 5 i0 (.int .u8 0) 1 1 Tryd.underlying22 hi hz0 hz1 hz2 rfl (by decide) _ _ _ rfl (hown.alloc _) ⟨wr.heap.size, 0, none⟩ 1 1 [.int .u8 (((a[j]'hlt).toNat : Int))] rfl rfl (ow.cells_new _ [.int .u8 (((a[j]'hlt).toNat : Int))] _) (by intro u hu; simp at hu; subst hu; rfl) (by unfold maxLen; omega) (by omega) (by simp; omega) ?_; intro v' w3 hown3 hgrow3 hnil3)
          have hb3 := Below.grown (hbw.alloc hBs _) hgrow3 (by simp; omega) (ow.own_lt hown)
          have HA : Hid (w3.ownsRow w.heap.size 5 1 v' (out ++ [a[j]'hlt]).length (Lib.byteCells (out ++ [a[j]'hlt])) ∧ Below w.heap.size w w3) := ⟨by rw [Lib.byteCells_append, List.length_append]; exact hown3, hb3⟩
          clear hown3 hgrow3 hnil3 hb3 hown hbw
          go_wp2
          go_roundw
          case rel => exact ⟨j + 1, go s (a[j]'hlt), out ++ [a[j]'hlt], by omega, by go_num, by rw [← HB.out], HST2.out, by simp; omega, HA.out.1, HA.out.2, HU2⟩
          case measure => simp [intOf]; omega

theorem drop_is (a : ByteArray) (h : 2 ≤ a.size) : ((a.extract (a.size - 2) a.size).toList == [13, 10]) = [13, 10].isSuffixOf a.data.toList := by
  rw [suf_drop (by rw [← Lib.size_eq]; exact h), Lib.toList_data, ext_tail, ← Lib.size_eq, Bool.eq_iff_iff, beq_iff_eq, decide_eq_true_iff]
set_option maxHeartbeats 1000000 in
theorem specLn_any (a : ByteArray) (w : World) (hs : a.size ≤ 1048576) :
    Calls Tryd.prog 15 #[.string a] w fun e w' => e = .returned (.bool (lnB a.data.toList)) ∧ w' = w := by
  have h' : (a.size : Int) ≤ 1048576 := by omega
  by_cases h0 : a.data.toList = []
  · have ha : a = ⟨#[]⟩ := by rw [← Array.toList_inj.1 (show a.data.toList = (#[] : Array UInt8).toList from h0)]
    subst ha
    go_enter Tryd.func15, Tryd.ntmps15
    go_wp2
    go_ret
    exact ⟨rfl, rfl⟩
  have he : a.data.toList.isEmpty = false := by cases hl : a.data.toList with | nil => exact absurd hl h0 | cons => rfl
  have he2 : a.toList.isEmpty = false := by rw [Lib.toList_data]; exact he
  have hl : lnB a.data.toList = [13, 10].isSuffixOf a.data.toList := by unfold lnB; rw [he, Bool.false_or]
  rw [hl]
  clear h0 he hl
  by_cases h2 : 2 ≤ a.size
  · have h2' : (2 : Int) ≤ (a.size : Int) := by omega
    have hd := drop_is a h2
    generalize [13, 10].isSuffixOf a.data.toList = X at hd ⊢
    go_enter Tryd.func15, Tryd.ntmps15
    go_wp2
    go_ret
    exact ⟨rfl, rfl⟩
  · have h2' : (a.size : Int) < 2 := by omega
    rw [suf_short (by rw [← Lib.size_eq]; omega)]
    go_enter Tryd.func15, Tryd.ntmps15
    go_wp2
    go_ret
    exact ⟨rfl, rfl⟩
theorem sf_big {a : ByteArray} (h : 32765 < a.size) : SfIs a (.returned (.tuple #[.string ⟨#[]⟩, .int .i64 2])) := by unfold SfIs sfR; rw [if_pos h]
theorem sf_bad {a : ByteArray} (h : ¬ 32765 < a.size) (h2 : lnB a.data.toList = false) : SfIs a (.returned (.tuple #[.string ⟨#[]⟩, .int .i64 3])) := by unfold SfIs sfR; rw [if_neg h, h2, if_neg (by decide)]
theorem sf_is {a : ByteArray} (h : ¬ 32765 < a.size) (h2 : lnB a.data.toList = true) : SfIs a (.returned (.tuple #[.string ⟨(sf 0 a.data.toList ++ tl).toArray⟩, .int .i64 0])) := by unfold SfIs sfR; rw [if_neg h, if_pos h2]
set_option maxHeartbeats 1000000 in
theorem specDs_any (a : ByteArray) (w : World) (hs : a.size ≤ 1048576) :
    Calls Tryd.prog 7 #[.string a] w fun e w' => SfIs a e ∧ Below w.heap.size w w' := by
  by_cases hbig : 32765 < a.size
  · have h' : (32765 : Int) < (a.size : Int) := by omega
    have HR : Hid (SfIs a (.returned (.tuple #[.string ⟨#[]⟩, .int .i64 2]))) := sf_big hbig
    clear hbig
    go_enter Tryd.func7, Tryd.ntmps7
    go_wp2
    go_ret2
    exact ⟨HR.out, Below.refl _ _⟩
  have h' : (a.size : Int) ≤ 32765 := by omega
  have HL : Hid (∀ W, Calls Tryd.prog 15 #[.string a] W fun e w' => e = .returned (.bool (lnB a.data.toList)) ∧ w' = W) := fun W => specLn_any a W hs
  have H0 : Hid (lnB a.data.toList = false → SfIs a (.returned (.tuple #[.string ⟨#[]⟩, .int .i64 3]))) := sf_bad hbig
  have H1 : Hid (lnB a.data.toList = true → SfIs a (.returned (.tuple #[.string ⟨(sf 0 a.data.toList ++ tl).toArray⟩, .int .i64 0]))) := sf_is hbig
  clear hbig
  generalize lnB a.data.toList = X at HL H0 H1
  cases X with
  | false =>
    go_enter Tryd.func7, Tryd.ntmps7
    go_wp2_with fail
    refine (HL.out _).mono ?_
    rintro e w' ⟨rfl, rfl⟩
    go_wp2
    go_ret2
    exact ⟨H0.out (by trivial), Below.refl _ _⟩
  | true =>
    go_enter Tryd.func7, Tryd.ntmps7
    go_wp2_with fail
    refine (HL.out _).mono ?_
    rintro e w' ⟨rfl, rfl⟩
    go_wp2_with fail
    refine (specSf_any a _ hs).mono ?_
    rintro e w2 ⟨rfl, hb⟩
    go_wp2
    go_ret2
    exact ⟨H1.out (by trivial), hb⟩
/-- The program's block of lines. -/
theorem cat_list (x y : ByteArray) : (x ++ y).data.toList = x.data.toList ++ y.data.toList := by rw [ByteArray.data_append]; simp
set_option maxHeartbeats 1000000 in
set_option maxRecDepth 100000 in
theorem block_any (a : ByteArray) (w : World) (m : Int) (hm : w.cell? ⟨0, 0, none⟩ = some (.int .i64 m)) (hs : a.size ≤ 1048576) :
    Calls Tryd.prog 14 #[.string a] w fun e w' => e = .returned (.string ⟨(sf 0 a.data.toList ++ tl).toArray⟩) ∧ Below w.heap.size w w' := by
  have h' : (a.size : Int) ≤ 1048576 := by omega
  have hsf := sf_len a.data.toList 0
  rw [← Lib.size_eq] at hsf
  obtain ⟨X, hX⟩ : ∃ X : ByteArray, X = (⟨#[13, 10]⟩ : ByteArray) ++ a := ⟨_, rfl⟩
  have hXl : X.data.toList = 13 :: 10 :: a.data.toList := by rw [hX, cat_list]; rfl
  have hXs : X.size = a.size + 2 := by rw [Lib.size_eq, hXl, Lib.size_eq]; rfl
  obtain ⟨V, hV⟩ : ∃ V : ByteArray, V = ⟨(13 :: 10 :: sf 0 a.data.toList).toArray⟩ := ⟨_, rfl⟩
  have hVl : V.data.toList = 13 :: 10 :: sf 0 a.data.toList := by rw [hV]
  have hVs : V.size = (sf 0 a.data.toList).length + 2 := by rw [Lib.size_eq, hVl]; rfl
  have HC : Hid (Calls Tryd.prog 25 #[.string X, .string ⟨#[13, 10, 46]⟩, .string ⟨#[13, 10, 46, 46]⟩] w fun e w' => e = .returned (.string V) ∧ Below w.heap.size w w') := (show Calls _ _ _ _ _ by
    have := Tryd.strings_ReplaceAll X ⟨#[13, 10, 46]⟩ ⟨#[13, 10, 46, 46]⟩ m w (by omega) hm (by decide) (by have := Lib.countB_mul_le ⟨#[13, 10, 46]⟩ (by decide) X.size X (Nat.le_refl _); have e1 : (⟨#[13, 10, 46]⟩ : ByteArray).size = 3 := rfl; have e2 : (⟨#[13, 10, 46, 46]⟩ : ByteArray).size = 4 := rfl; rw [e1] at this; rw [e2]; omega)
    rw [show (⟨#[13, 10, 46]⟩ : ByteArray).data.toList = fw from rfl, show (⟨#[13, 10, 46, 46]⟩ : ByteArray).data.toList = nw from rfl, hXl, replaceAll_rep, rep_lines, ← hV] at this
    exact this)
  have HE : Hid ((V.extract 2 V.size) ++ (⟨#[46]⟩ : ByteArray) ++ (⟨#[13, 10]⟩ : ByteArray) = ⟨(sf 0 a.data.toList ++ tl).toArray⟩) := (show _ = _ by
    apply ByteArray.ext
    rw [← Array.toList_inj, cat_list, cat_list, ext_tail, hVl]
    simp [tl])
  have hVb : (V.size : Int) ≤ 3000000 := by omega
  have hV2 : (2 : Int) ≤ (V.size : Int) := by omega
  clear hVl hV hXl hXs hVs hsf hm
  go_enter Tryd.func14, Tryd.ntmps14
  go_wp2_with fail
  rw [← hX]
  clear hX
  refine HC.out.mono ?_
  rintro e w1 ⟨rfl, hb⟩
  go_wp2
  go_ret
  exact ⟨by rw [← HE.out]; rfl, hb⟩
set_option maxHeartbeats 1000000 in
theorem implDs_any (a : ByteArray) (w : World) (m : Int) (hm : w.cell? ⟨0, 0, none⟩ = some (.int .i64 m)) (hs : a.size ≤ 1048576) :
    Calls Tryd.prog 6 #[.string a] w fun e w' => SfIs a e ∧ Below w.heap.size w w' := by
  by_cases hbig : 32765 < a.size
  · have h' : (32765 : Int) < (a.size : Int) := by omega
    have HR : Hid (SfIs a (.returned (.tuple #[.string ⟨#[]⟩, .int .i64 2]))) := sf_big hbig
    clear hbig hm
    go_enter Tryd.func6, Tryd.ntmps6
    go_wp2
    go_ret2
    exact ⟨HR.out, Below.refl _ _⟩
  have h' : (a.size : Int) ≤ 32765 := by omega
  have HBL : Hid (Calls Tryd.prog 14 #[.string a] w fun e w' => e = .returned (.string ⟨(sf 0 a.data.toList ++ tl).toArray⟩) ∧ Below w.heap.size w w') := (show Calls _ _ _ _ _ from block_any a w m hm hs)
  have H0 : Hid (lnB a.data.toList = false → SfIs a (.returned (.tuple #[.string ⟨#[]⟩, .int .i64 3]))) := sf_bad hbig
  have H1 : Hid (lnB a.data.toList = true → SfIs a (.returned (.tuple #[.string ⟨(sf 0 a.data.toList ++ tl).toArray⟩, .int .i64 0]))) := sf_is hbig
  clear hbig hm
  by_cases h0 : a.data.toList = []
  · have ha : a = ⟨#[]⟩ := by rw [← Array.toList_inj.1 (show a.data.toList = (#[] : Array UInt8).toList from h0)]
    have H1' : Hid (SfIs a (.returned (.tuple #[.string ⟨(sf 0 a.data.toList ++ tl).toArray⟩, .int .i64 0]))) := H1.out (by rw [h0]; rfl)
    clear H0 H1 h0
    generalize (⟨(sf 0 a.data.toList ++ tl).toArray⟩ : ByteArray) = Y at HBL H1'
    subst ha
    go_enter Tryd.func6, Tryd.ntmps6
    go_wp2_with fail
    refine HBL.out.mono ?_
    rintro e w2 ⟨rfl, hb⟩
    go_wp2
    go_ret2
    exact ⟨H1'.out, hb⟩
  have he : a.data.toList.isEmpty = false := by cases hl : a.data.toList with | nil => exact absurd hl h0 | cons => rfl
  have he2 : a.toList.isEmpty = false := by rw [Lib.toList_data]; exact he
  have hl : Lib.hasSuffix a.data.toList [13, 10] = lnB a.data.toList := by unfold lnB Lib.hasSuffix; rw [he, Bool.false_or]
  have HS : Hid (∀ W, Calls Tryd.prog 13 #[.string a, .string ⟨#[13, 10]⟩] W fun e w' => e = .returned (.bool (lnB a.data.toList)) ∧ w' = W) := fun W => by
    have := Tryd.strings_HasSuffix a ⟨#[13, 10]⟩ W (by omega)
    rw [show (⟨#[13, 10]⟩ : ByteArray).data.toList = [13, 10] from rfl, hl] at this
    exact this
  clear h0 he hl
  generalize lnB a.data.toList = X at HS H0 H1
  cases X with
  | false =>
    go_enter Tryd.func6, Tryd.ntmps6
    go_wp2_with fail
    refine (HS.out _).mono ?_
    rintro e w' ⟨rfl, rfl⟩
    go_wp2
    go_ret2
    exact ⟨H0.out (by trivial), Below.refl _ _⟩
  | true =>
    go_enter Tryd.func6, Tryd.ntmps6
    go_wp2_with fail
    refine (HS.out _).mono ?_
    rintro e w' ⟨rfl, rfl⟩
    go_wp2_with fail
    refine HBL.out.mono ?_
    rintro e w2 ⟨rfl, hb⟩
    go_wp2
    go_ret2
    exact ⟨H1.out (by trivial), hb⟩
end Go.Proofs.YtcflfejdpjphjaaDoor.dt
