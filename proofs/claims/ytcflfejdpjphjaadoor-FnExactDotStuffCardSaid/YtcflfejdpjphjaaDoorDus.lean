/-
  The contract of the specification's DotUnstuff.
-/
import Derived.Test.YtcflfejdpjphjaaDoorDtp
import Derived.Test.YtcflfejdpjphjaaDoorOwn
import Derived.Test.YtcflfejdpjphjaaDoorProg
import Derived.Laws.AppendOwn
import Derived.Deep.DeepCutAuto
import Derived.Deep.Cut
import Derived.Deep.CutRange
namespace Go.Proofs.YtcflfejdpjphjaaDoor.dt
open Go.RowKit
set_option linter.unusedVariables false

theorem ch {c : UInt8} (d : UInt8) : (c.toNat : Int) = (d.toNat : Int) ↔ c = d := ⟨fun h => UInt8.toNat_inj.1 (by omega), fun h => by rw [h]⟩
theorem ch46 {c : UInt8} : (c.toNat : Int) = 46 ↔ c = 46 := ch 46
theorem ch13 {c : UInt8} : (c.toNat : Int) = 13 ↔ c = 13 := ch 13
theorem ch10 {c : UInt8} : (c.toNat : Int) = 10 ↔ c = 10 := ch 10
theorem info1 : (Tryd.prog.info? 5).map (fun i => (i.zero, i.size, i.bytes)) = some (some (.int .u8 0), 1, 1) := by kernel_rfl
theorem drop_at (a : ByteArray) (j : Nat) (h : j < a.size) : a.data.toList.drop j = a[j]'h :: a.data.toList.drop (j + 1) := by
  have h2 : j < a.data.toList.length := by rw [← Lib.size_eq]; exact h
  rw [List.drop_eq_getElem_cons h2]
  rfl
theorem drop_out (a : ByteArray) (j : Nat) (h : a.size ≤ j) : a.data.toList.drop j = [] := List.drop_eq_nil_of_le (by rw [← Lib.size_eq]; exact h)
theorem ext_tail (s : ByteArray) (a : Nat) : (s.extract a s.size).data.toList = s.data.toList.drop a := by
  rw [← Lib.toList_data, Lib.extract_toList, List.take_of_length_le (by rw [List.length_drop, ← Lib.size_eq]; omega)]
/-- What both DotUnstuff functions answer. -/
def unR (a : ByteArray) : Int × List UInt8 := if 65536 < a.size then (2, []) else un 0 a.data.toList
def UnIs (a : ByteArray) (e : Ending) : Prop := e = .returned (.tuple #[.string ⟨(unR a).2.toArray⟩, .int .i64 (unR a).1])
theorem un_is {a : ByteArray} {c : Int} {l : List UInt8} (hs : a.size ≤ 65536) (h : un 0 a.data.toList = (c, l)) : UnIs a (.returned (.tuple #[.string ⟨l.toArray⟩, .int .i64 c])) := by
  unfold UnIs unR
  rw [if_neg (by omega), h]
/-- The state at a place of a text. -/
def St (a : ByteArray) (j s : Nat) : Prop := (s = 0 ∨ s = 1 ∨ s = 2) ∧ (s = 2 ↔ 0 < j ∧ a.data.toList[j - 1]? = some 13)
theorem st_next {a : ByteArray} {j s : Nat} (h : j < a.size) (hs : St a j s) : St a (j + 1) (go s (a[j]'h)) := by
  have e : a.data.toList[j]? = some (a[j]'h) := by
    have h2 : j < a.data.toList.length := by rw [← Lib.size_eq]; exact h
    rw [List.getElem?_eq_getElem h2]
    rfl
  unfold St go
  rw [Nat.add_sub_cancel, e]
  by_cases hc : a[j]'h = 13
  · rw [if_pos hc, hc]
    simp
  · rw [if_neg hc]
    split <;> simp [hc]
theorem st_prev {a : ByteArray} {j s : Nat} (hs : St a j s) (h0 : 0 < j) (h : j - 1 < a.size) : s = 2 ↔ ((a[j - 1]'h).toNat : Int) = 13 := by
  rw [hs.2, ch13]
  have h2 : j - 1 < a.data.toList.length := by rw [← Lib.size_eq]; exact h
  rw [List.getElem?_eq_getElem h2, Option.some.injEq]
  exact ⟨fun x => x.2, fun x => ⟨h0, x⟩⟩
theorem step_on {l out : List UInt8} {s : Nat} {c : UInt8} {r : List UInt8} (h : un 0 l = pre out (un s (c :: r))) (h3 : s ≠ 3) (h0 : ¬ (s = 0 ∧ c = 46)) : un 0 l = pre (out ++ [c]) (un (go s c) r) := by
  rw [h, un_on h3 h0, pre_pre]

set_option maxHeartbeats 1000000 in
set_option maxRecDepth 100000 in
theorem specUn_any (a : ByteArray) (w : World) (hs : a.size ≤ 1048576) :
    Calls Tryd.prog 10 #[.string a] w fun e w' => UnIs a e ∧ Below w.heap.size w w' := by
  by_cases hbig : 65536 < a.size
  · have h' : (65536 : Int) < (a.size : Int) := by omega
    have HR : Hid (UnIs a (.returned (.tuple #[.string ⟨#[]⟩, .int .i64 2]))) := (show UnIs _ _ by unfold UnIs unR; rw [if_pos hbig])
    clear hbig
    go_enter Tryd.func10, Tryd.ntmps10
    go_wp2
    go_ret2
    exact ⟨HR.out, Below.refl _ _⟩
  have hn : a.size ≤ 65536 := by omega
  have h' : (a.size : Int) ≤ 65536 := by omega
  obtain ⟨i0, hi, hz0, hz1, hz2⟩ := info_parts info1
  clear hbig hs
  go_enter Tryd.func10, Tryd.ntmps10
  go_wp2_with fail
  go_loopw [4, 5, 6] (fun v st i wr => ∃ (j s : Nat) (out : List UInt8), j ≤ a.size ∧ i = .int .i64 j ∧ st = .bool (decide (s = 0)) ∧ St a j s ∧ out.length ≤ j ∧ wr.ownsRow w.heap.size 5 1 v out.length (Lib.byteCells out) ∧ Below w.heap.size w wr ∧ Hid (un 0 a.data.toList = pre out (un s (a.data.toList.drop j)))) (fun _ _ i _ => a.size - (intOf i).toNat)
  case atStart =>
    refine ⟨0, 0, [], Nat.zero_le _, rfl, rfl, ⟨.inl rfl, by simp⟩, Nat.le_refl _, ow.own_empty _ _, (Below.refl _ _).alloc (Nat.le_refl _) _, ?_⟩
    rw [List.drop_zero, pre_nil]
    exact (rfl : _ = _)
  case round =>
    obtain ⟨j, s, out, hj, rfl, rfl, hst, hol, hown, hbw, HU⟩ := hrel
    have hBs := hbw.size
    have HST : Hid (St a j s) := hst
    clear hst
    by_cases hlt : j < a.size
    case neg =>
      have hlt' : (a.size : Int) ≤ (j : Int) := by omega
      have HR : Hid (UnIs a (.returned (.tuple #[.string ⟨#[]⟩, .int .i64 18]))) := un_is (l := []) hn (show un 0 a.data.toList = (18, []) by rw [HU.out, drop_out a j (by omega), un_nil]; rfl)
      clear HU HST hown
      go_wp2
      go_ret2
      exact ⟨HR.out, hbw⟩
    have hlt' : (j : Int) < (a.size : Int) := by omega
    have hj0 : (0 : Int) ≤ (j : Int) := by omega
    have ub : ((a[j]'hlt).toNat : Int) ≤ 255 := by have := (a[j]'hlt).toNat_lt; omega
    have hd := drop_at a j hlt
    by_cases hA : s = 0 ∧ ((a[j]'hlt).toNat : Int) = 46
    · obtain ⟨rfl, hc⟩ := hA
      have d1 : (((a[j]'hlt).toNat : Int) == 46) = true := beq_iff_eq.2 hc
      have HC : Hid (a[j]'hlt = 46) := ch46.1 hc
      clear hc
      by_cases hE : a.data.toList.drop j = [46, 13, 10]
      · have e1 : ((a.extract j a.size).toList == [46, 13, 10]) = true := by rw [Lib.toList_data, ext_tail, hE]; rfl
        have cv := ow.conv_bytes (P := Tryd.prog) (src := 22) (dst := 9) out hown Tryd.underlying22 Tryd.underlying5 Tryd.underlying9
        have HR : Hid (UnIs a (.returned (.tuple #[.string ⟨out.toArray⟩, .int .i64 0]))) := un_is hn (show un 0 a.data.toList = (0, out) by rw [HU.out, hE, un_end]; simp [pre])
        clear HU HST hE hd hown
        go_wp2
        go_ret2
        exact ⟨HR.out, hbw⟩
      have e1 : ((a.extract j a.size).toList == [46, 13, 10]) = false := by rw [Lib.toList_data, ext_tail]; exact beq_eq_false_iff_ne.2 hE
      have HE : Hid (a.data.toList.drop (j + 1) ≠ nl) := fun e => hE (by rw [hd, HC.out, e]; rfl)
      clear hE
      by_cases hl2 : j + 1 < a.size
      case neg =>
        have e2 : (((j : Int) + 1) == (a.size : Int)) = true := beq_iff_eq.2 (by omega)
        have HR : Hid (UnIs a (.returned (.tuple #[.string ⟨#[]⟩, .int .i64 3]))) := un_is (l := []) hn (show un 0 a.data.toList = (3, []) by rw [HU.out, hd, HC.out, un_bad HE.out (by rw [drop_out a (j + 1) (by omega)]; simp)]; rfl)
        clear HU HST hd hown
        go_wp2
        go_ret2
        exact ⟨HR.out, hbw⟩
      have e2 : (((j : Int) + 1) == (a.size : Int)) = false := beq_eq_false_iff_ne.2 (by omega)
      have hd2 := drop_at a (j + 1) hl2
      by_cases h2 : ((a[j + 1]'hl2).toNat : Int) = 46
      case neg =>
        have f1 : (((a[j + 1]'hl2).toNat : Int) == 46) = false := beq_eq_false_iff_ne.2 h2
        have f2 : (((a[j + 1]'hl2).toNat : Int) != 46) = true := by rw [bne_iff_ne]; exact h2
        have HR : Hid (UnIs a (.returned (.tuple #[.string ⟨#[]⟩, .int .i64 3]))) := un_is (l := []) hn (show un 0 a.data.toList = (3, []) by rw [HU.out, hd, HC.out, un_bad HE.out (by rw [hd2]; simp only [List.head?_cons, ne_eq, Option.some.injEq]; exact fun e => h2 (ch46.2 e))]; rfl)
        clear HU HST hd hd2 hown
        go_wp2
        go_ret2
        exact ⟨HR.out, hbw⟩
      have f1 : (((a[j + 1]'hl2).toNat : Int) == 46) = true := beq_iff_eq.2 h2
      have f2 : (((a[j + 1]'hl2).toNat : Int) != 46) = false := by rw [bne_eq_false_iff_eq]; exact h2
      have f3 : (((a[j + 1]'hl2).toNat : Int) == 10) = false := beq_eq_false_iff_ne.2 (by omega)
      have hc2 : a[j + 1]'hl2 = 46 := ch46.1 h2
      have HST2 : Hid (St a (j + 2) 1) := (show St _ _ _ by
        refine ⟨.inr (.inl rfl), ?_⟩
        have h3 : j + 1 < a.data.toList.length := by rw [← Lib.size_eq]; exact hl2
        have h4 : a.data.toList[j + 1]? = some (a[j + 1]'hl2) := by rw [List.getElem?_eq_getElem h3]; rfl
        rw [show j + 2 - 1 = j + 1 from rfl, h4, hc2]
        simp)
      have HU2 : Hid (un 0 a.data.toList = pre (out ++ [a[j + 1]'hl2]) (un 1 (a.data.toList.drop (j + 2)))) := (show _ = _ by
        rw [HU.out, hd, HC.out, un_dot HE.out (by rw [hd2, hc2]; rfl), hd2, hc2, un_two, pre_pre])
      have ub2 : ((a[j + 1]'hl2).toNat : Int) ≤ 255 := by have := (a[j + 1]'hl2).toNat_lt; omega
      have hl2' : (j : Int) + 1 < (a.size : Int) := by omega
      clear HU HST hd hd2 h2 hc2
      go_wp2_with (at_builtin; refine wpList_append_own _ rfl _ _ 22 rfl w.heap.size 5 i0 (.int .u8 0) 1 1 Tryd.underlying22 hi hz0 hz1 hz2 rfl (by decide) _ _ _ rfl (hown.alloc _) ⟨wr.heap.size, 0, none⟩ 1 1 [.int .u8 ((a[j + 1]'hl2).toNat : Int)] rfl rfl (ow.cells_new _ [.int .u8 ((a[j + 1]'hl2).toNat : Int)] _) (by intro u hu; simp at hu; subst hu; rfl) (by unfold maxLen; omega) (by omega) (by simp; omega) ?_; intro v' w3 hown3 hgrow3 hnil3)
      have hb3 := Below.grown (hbw.alloc hBs _) hgrow3 (by simp; omega) (ow.own_lt hown)
      have HA : Hid (w3.ownsRow w.heap.size 5 1 v' (out ++ [a[j + 1]'hl2]).length (Lib.byteCells (out ++ [a[j + 1]'hl2])) ∧ Below w.heap.size w w3) := ⟨by rw [Lib.byteCells_append, List.length_append]; exact hown3, hb3⟩
      clear hown3 hgrow3 hnil3 hb3 hown hbw
      go_wp2
      go_roundw
      case rel => exact ⟨j + 2, 1, out ++ [a[j + 1]'hl2], by omega, by go_num, rfl, HST2.out, by simp; omega, HA.out.1, HA.out.2, HU2⟩
      case measure => simp [intOf]; omega
    · have hA' : ¬ (s = 0 ∧ a[j]'hlt = 46) := fun x => hA ⟨x.1, ch46.2 x.2⟩
      have hs3 : s ≠ 3 := by rintro rfl; rcases HST.out.1 with h | h | h <;> cases h
      have HU2 : Hid (un 0 a.data.toList = pre (out ++ [a[j]'hlt]) (un (go s (a[j]'hlt)) (a.data.toList.drop (j + 1)))) := step_on (by rw [← hd]; exact HU.out) hs3 hA'
      have HST2 : Hid (St a (j + 1) (go s (a[j]'hlt))) := st_next hlt HST.out
      have hor : decide (s = 0) = false ∨ (((a[j]'hlt).toNat : Int) == 46) = false := by
        by_cases h0 : s = 0
        · exact .inr (beq_eq_false_iff_ne.2 fun x => hA ⟨h0, x⟩)
        · exact .inl (decide_eq_false h0)
      have hb : ∃ b : Bool, b = decide (go s (a[j]'hlt) = 0) ∧ ((((a[j]'hlt).toNat : Int) == 10) = false ∧ b = false ∨ (((a[j]'hlt).toNat : Int) == 10) = true ∧ (j = 0 ∧ b = false ∨ 0 < j ∧ ∃ h : j - 1 < a.size, (((a[j - 1]'h).toNat : Int) == 13) = b)) := by
        refine ⟨_, rfl, ?_⟩
        by_cases h10 : ((a[j]'hlt).toNat : Int) = 10
        · refine .inr ⟨beq_iff_eq.2 h10, ?_⟩
          have e10 : a[j]'hlt = 10 := ch10.1 h10
          have hg : go s (a[j]'hlt) = if s = 2 then 0 else 1 := by unfold go; rw [e10]; simp
          rw [hg]
          by_cases hj00 : j = 0
          · refine .inl ⟨hj00, ?_⟩
            have : s ≠ 2 := fun e => by have := (HST.out.2.1 e).1; omega
            rw [if_neg this]
            rfl
          · have hj1 : j - 1 < a.size := by omega
            refine .inr ⟨by omega, hj1, ?_⟩
            have := st_prev HST.out (by omega) hj1
            by_cases e : s = 2
            · rw [if_pos e, beq_iff_eq.2 (this.1 e)]; rfl
            · rw [if_neg e, beq_eq_false_iff_ne.2 (fun x => e (this.2 x))]; rfl
        · refine .inl ⟨beq_eq_false_iff_ne.2 h10, ?_⟩
          have e10 : ¬ a[j]'hlt = 10 := fun x => h10 (ch10.2 x)
          unfold go
          by_cases h13 : a[j]'hlt = 13
          · rw [if_pos h13]; rfl
          · rw [if_neg h13, if_neg (fun x => e10 x.2)]; rfl
      obtain ⟨b, hbe, hbo⟩ := hb
      have HB : Hid (b = decide (go s (a[j]'hlt) = 0)) := hbe
      clear hbe hA hA' hs3 hd HU HST
      generalize decide (s = 0) = st at hor ⊢
      cases st with
      | false =>
        clear hor
        rcases hbo with ⟨g1, rfl⟩ | ⟨g1, ⟨hj00, rfl⟩ | ⟨hjp, hj1, g2⟩⟩
        · go_wp2_with (at_builtin; refine wpList_append_own _ rfl _ _ 22 rfl w.heap.size 5 i0 (.int .u8 0) 1 1 Tryd.underlying22 hi hz0 hz1 hz2 rfl (by decide) _ _ _ rfl (hown.alloc _) ⟨wr.heap.size, 0, none⟩ 1 1 [.int .u8 ((a[j]'hlt).toNat : Int)] rfl rfl (ow.cells_new _ [.int .u8 ((a[j]'hlt).toNat : Int)] _) (by intro u hu; simp at hu; subst hu; rfl) (by unfold maxLen; omega) (by omega) (by simp; omega) ?_; intro v' w3 hown3 hgrow3 hnil3)
          have hb3 := Below.grown (hbw.alloc hBs _) hgrow3 (by simp; omega) (ow.own_lt hown)
          have HA : Hid (w3.ownsRow w.heap.size 5 1 v' (out ++ [a[j]'hlt]).length (Lib.byteCells (out ++ [a[j]'hlt])) ∧ Below w.heap.size w w3) := ⟨by rw [Lib.byteCells_append, List.length_append]; exact hown3, hb3⟩
          clear hown3 hgrow3 hnil3 hb3 hown hbw
          go_wp2
          go_roundw
          case rel => exact ⟨j + 1, go s (a[j]'hlt), out ++ [a[j]'hlt], by omega, by go_num, by rw [← HB.out], HST2.out, by simp; omega, HA.out.1, HA.out.2, HU2⟩
          case measure => simp [intOf]; omega
        · have hj00' : decide (0 < j) = false := decide_eq_false (by omega)
          clear hj00
          go_wp2_with (at_builtin; refine wpList_append_own _ rfl _ _ 22 rfl w.heap.size 5 i0 (.int .u8 0) 1 1 Tryd.underlying22 hi hz0 hz1 hz2 rfl (by decide) _ _ _ rfl (hown.alloc _) ⟨wr.heap.size, 0, none⟩ 1 1 [.int .u8 ((a[j]'hlt).toNat : Int)] rfl rfl (ow.cells_new _ [.int .u8 ((a[j]'hlt).toNat : Int)] _) (by intro u hu; simp at hu; subst hu; rfl) (by unfold maxLen; omega) (by omega) (by simp; omega) ?_; intro v' w3 hown3 hgrow3 hnil3)
          have hb3 := Below.grown (hbw.alloc hBs _) hgrow3 (by simp; omega) (ow.own_lt hown)
          have HA : Hid (w3.ownsRow w.heap.size 5 1 v' (out ++ [a[j]'hlt]).length (Lib.byteCells (out ++ [a[j]'hlt])) ∧ Below w.heap.size w w3) := ⟨by rw [Lib.byteCells_append, List.length_append]; exact hown3, hb3⟩
          clear hown3 hgrow3 hnil3 hb3 hown hbw
          go_wp2
          go_roundw
          case rel => exact ⟨j + 1, go s (a[j]'hlt), out ++ [a[j]'hlt], by omega, by go_num, by rw [← HB.out], HST2.out, by simp; omega, HA.out.1, HA.out.2, HU2⟩
          case measure => simp [intOf]; omega
        · have hjp' : (0 : Int) < (j : Int) := by omega
          have ub3 : ((a[j - 1]'hj1).toNat : Int) ≤ 255 := by have := (a[j - 1]'hj1).toNat_lt; omega
          go_wp2_with (at_builtin; refine wpList_append_own _ rfl _ _ 22 rfl w.heap.size 5 i0 (.int .u8 0) 1 1 Tryd.underlying22 hi hz0 hz1 hz2 rfl (by decide) _ _ _ rfl (hown.alloc _) ⟨wr.heap.size, 0, none⟩ 1 1 [.int .u8 ((a[j]'hlt).toNat : Int)] rfl rfl (ow.cells_new _ [.int .u8 ((a[j]'hlt).toNat : Int)] _) (by intro u hu; simp at hu; subst hu; rfl) (by unfold maxLen; omega) (by omega) (by simp; omega) ?_; intro v' w3 hown3 hgrow3 hnil3)
          have hb3 := Below.grown (hbw.alloc hBs _) hgrow3 (by simp; omega) (ow.own_lt hown)
          have HA : Hid (w3.ownsRow w.heap.size 5 1 v' (out ++ [a[j]'hlt]).length (Lib.byteCells (out ++ [a[j]'hlt])) ∧ Below w.heap.size w w3) := ⟨by rw [Lib.byteCells_append, List.length_append]; exact hown3, hb3⟩
          clear hown3 hgrow3 hnil3 hb3 hown hbw
          go_wp2
          go_roundw
          case rel => exact ⟨j + 1, go s (a[j]'hlt), out ++ [a[j]'hlt], by omega, by go_num, by rw [← HB.out], HST2.out, by simp; omega, HA.out.1, HA.out.2, HU2⟩
          case measure => simp [intOf]; omega
      | true =>
        have hne : (((a[j]'hlt).toNat : Int) == 46) = false := hor.resolve_left (by decide)
        clear hor
        rcases hbo with ⟨g1, rfl⟩ | ⟨g1, ⟨hj00, rfl⟩ | ⟨hjp, hj1, g2⟩⟩
        · go_wp2_with (at_builtin; refine wpList_append_own _ rfl _ _ 22 rfl w.heap.size 5 i0 (.int .u8 0) 1 1 Tryd.underlying22 hi hz0 hz1 hz2 rfl (by decide) _ _ _ rfl (hown.alloc _) ⟨wr.heap.size, 0, none⟩ 1 1 [.int .u8 ((a[j]'hlt).toNat : Int)] rfl rfl (ow.cells_new _ [.int .u8 ((a[j]'hlt).toNat : Int)] _) (by intro u hu; simp at hu; subst hu; rfl) (by unfold maxLen; omega) (by omega) (by simp; omega) ?_; intro v' w3 hown3 hgrow3 hnil3)
          have hb3 := Below.grown (hbw.alloc hBs _) hgrow3 (by simp; omega) (ow.own_lt hown)
          have HA : Hid (w3.ownsRow w.heap.size 5 1 v' (out ++ [a[j]'hlt]).length (Lib.byteCells (out ++ [a[j]'hlt])) ∧ Below w.heap.size w w3) := ⟨by rw [Lib.byteCells_append, List.length_append]; exact hown3, hb3⟩
          clear hown3 hgrow3 hnil3 hb3 hown hbw
          go_wp2
          go_roundw
          case rel => exact ⟨j + 1, go s (a[j]'hlt), out ++ [a[j]'hlt], by omega, by go_num, by rw [← HB.out], HST2.out, by simp; omega, HA.out.1, HA.out.2, HU2⟩
          case measure => simp [intOf]; omega
        · have hj00' : decide (0 < j) = false := decide_eq_false (by omega)
          clear hj00
          go_wp2_with (at_builtin; refine wpList_append_own _ rfl _ _ 22 rfl w.heap.size 5 i0 (.int .u8 0) 1 1 Tryd.underlying22 hi hz0 hz1 hz2 rfl (by decide) _ _ _ rfl (hown.alloc _) ⟨wr.heap.size, 0, none⟩ 1 1 [.int .u8 ((a[j]'hlt).toNat : Int)] rfl rfl (ow.cells_new _ [.int .u8 ((a[j]'hlt).toNat : Int)] _) (by intro u hu; simp at hu; subst hu; rfl) (by unfold maxLen; omega) (by omega) (by simp; omega) ?_; intro v' w3 hown3 hgrow3 hnil3)
          have hb3 := Below.grown (hbw.alloc hBs _) hgrow3 (by simp; omega) (ow.own_lt hown)
          have HA : Hid (w3.ownsRow w.heap.size 5 1 v' (out ++ [a[j]'hlt]).length (Lib.byteCells (out ++ [a[j]'hlt])) ∧ Below w.heap.size w w3) := ⟨by rw [Lib.byteCells_append, List.length_append]; exact hown3, hb3⟩
          clear hown3 hgrow3 hnil3 hb3 hown hbw
          go_wp2
          go_roundw
          case rel => exact ⟨j + 1, go s (a[j]'hlt), out ++ [a[j]'hlt], by omega, by go_num, by rw [← HB.out], HST2.out, by simp; omega, HA.out.1, HA.out.2, HU2⟩
          case measure => simp [intOf]; omega
        · have hjp' : (0 : Int) < (j : Int) := by omega
          have ub3 : ((a[j - 1]'hj1).toNat : Int) ≤ 255 := by have := (a[j - 1]'hj1).toNat_lt; omega
          go_wp2_with (at_builtin; refine wpList_append_own _ rfl _ _ 22 rfl w.heap.size 5 i0 (.int .u8 0) 1 1 Tryd.underlying22 hi hz0 hz1 hz2 rfl (by decide) _ _ _ rfl (hown.alloc _) ⟨wr.heap.size, 0, none⟩ 1 1 [.int .u8 ((a[j]'hlt).toNat : Int)] rfl rfl (ow.cells_new _ [.int .u8 ((a[j]'hlt).toNat : Int)] _) (by intro u hu; simp at hu; subst hu; rfl) (by unfold maxLen; omega) (by omega) (by simp; omega) ?_; intro v' w3 hown3 hgrow3 hnil3)
          have hb3 := Below.grown (hbw.alloc hBs _) hgrow3 (by simp; omega) (ow.own_lt hown)
          have HA : Hid (w3.ownsRow w.heap.size 5 1 v' (out ++ [a[j]'hlt]).length (Lib.byteCells (out ++ [a[j]'hlt])) ∧ Below w.heap.size w w3) := ⟨by rw [Lib.byteCells_append, List.length_append]; exact hown3, hb3⟩
          clear hown3 hgrow3 hnil3 hb3 hown hbw
          go_wp2
          go_roundw
          case rel => exact ⟨j + 1, go s (a[j]'hlt), out ++ [a[j]'hlt], by omega, by go_num, by rw [← HB.out], HST2.out, by simp; omega, HA.out.1, HA.out.2, HU2⟩
          case measure => simp [intOf]; omega
end Go.Proofs.YtcflfejdpjphjaaDoor.dt
