/-
  The program's reader of XML: the attributes of a beginning that has just one.
-/
import Derived.Test.YtjncdnnllaoccaaGreatDoorXri
namespace Go.Proofs.YtjncdnnllaoccaaGreatDoor.xd
open Go.RowKit
set_option linter.unusedVariables false

theorem infoAttr : (Tryz.prog.info? 59).map (fun i => (i.zero, i.size, i.bytes)) = some (some (.agg #[.string ⟨#[]⟩, .string ⟨#[]⟩]), 2, 32) := by kernel_rfl

set_option maxHeartbeats 1000000 in
theorem index_nil (f : Value) (w : World) : Calls Tryz.prog 134 #[.slice none 0 0, f] w fun e w' => e = .returned (.int .i64 (-1)) ∧ w' = w := by
  go_enter Tryz.func134, Tryz.ntmps134
  go_wp2
  go_loop [8] (fun i => i = .int .i64 0) (fun i => 0)
  case atStart => rfl
  case round =>
    subst hrel
    go_wp2
    go_ret
    exact ⟨rfl, rfl⟩
set_option maxHeartbeats 1000000 in
theorem contains_nil (f : Value) (w : World) : Calls Tryz.prog 120 #[.slice none 0 0, f] w fun e w' => e = .returned (.bool false) ∧ w' = w := by
  go_enter Tryz.func120, Tryz.ntmps120
  go_wp2_with fail
  refine (index_nil f _).mono ?_
  rintro e w' ⟨rfl, rfl⟩
  go_wp2
  go_ret
  exact ⟨rfl, rfl⟩

/-- A slice of one attribute, in memory that is new. -/
def OneAt (B : Nat) (w : World) (a : Option Addr) (len cap : Nat) (nm v : ByteArray) : Prop := w.ownsRow B 59 2 (.slice a len cap) 1 [.string nm, .string v]

set_option maxHeartbeats 4000000 in
set_option maxRecDepth 100000 in
theorem attrs_one (b p p0 p1 p2 p3 p4 : Nat) (s nm : ByteArray) (vT vO : Value) (w : World) (h : Rb w b s p vT vO) (hp : p ≤ s.size) (hs : s.size ≤ 65536) (hG : Gl w) (c0 c4 q : UInt8) (us : List U) (tail rest r0 r4 : List UInt8)
    (h0 : run blank s.data.toList p = p0) (h00 : p < p0) (hc0 : s.data.toList.drop p0 = c0 :: r0) (n47 : c0 ≠ 47) (n62 : c0 ≠ 62)
    (hnm : xm.okName ((s.data.toList.drop p0).takeWhile xm.gon) = true) (h1 : run xm.gon s.data.toList p0 = p1) (hN : s.extract p0 p1 = nm) (h2 : run blank s.data.toList p1 = p2) (he : s.data.toList.drop p2 = 61 :: rest) (h3 : run blank s.data.toList (p2 + 1) = p3)
    (hok : ∀ u ∈ us, U.ok q u) (hq : q = 34 ∨ q = 39) (hrest : s.data.toList.drop p3 = q :: (inps us ++ q :: tail)) (h4 : p3 + (inps us).length + 2 = p4) (h5 : run blank s.data.toList p4 = p4) (h6 : p4 ≤ s.size) :
    Calls Tryz.prog 106 #[.pointer (some ⟨b, 0, none⟩)] w fun e w' => ∃ a len cap, e = .returned (.tuple #[.slice a len cap, .nilIface]) ∧ OneAt w.heap.size w' a len cap nm ⟨(outs us).toArray⟩ ∧ Mv b s p4 vT vO w w' := by
  obtain ⟨i0, hi, hz0, hz1, hz2⟩ := info_parts infoAttr
  have l0 := run_le blank s p hp
  rw [h0] at l0
  have HR : Hid (Rb w b s p vT vO) := h
  have HG : Hid (Gl w) := hG
  have hbl := h.lt
  have S0 : Hid (∀ w', Rb w' b s p vT vO → Calls Tryz.prog 104 #[.pointer (some ⟨b, 0, none⟩)] w' fun e w'' => e = .returned (.bool true) ∧ Mv b s p0 vT vO w' w'') := fun w' hr => by
    have := skip_any b p s vT vO w' hr hp hs
    rw [h0, show decide (p < p0) = true from decide_eq_true h00] at this
    exact this.mono fun e w'' ⟨x, _, y⟩ => ⟨x, y⟩
  have S1 : Hid (∀ w', Rb w' b s p0 vT vO → Calls Tryz.prog 80 #[.pointer (some ⟨b, 0, none⟩), .string ⟨#[47]⟩] w' fun e w'' => e = .returned (.bool false) ∧ ∃ n, w'' = w'.drewN n) := fun w' hr => by
    have := stands_any b p0 s ⟨#[47]⟩ vT vO w' hr l0.1 hs
    rwa [hc0, show ((⟨#[47]⟩ : ByteArray).data.toList) = [47] from rfl, hp1, show ((47 : UInt8) == c0) = false from beq_eq_false_iff_ne.2 n47.symm] at this
  have S2 : Hid (∀ w', Rb w' b s p0 vT vO → Calls Tryz.prog 80 #[.pointer (some ⟨b, 0, none⟩), .string ⟨#[62]⟩] w' fun e w'' => e = .returned (.bool false) ∧ ∃ n, w'' = w'.drewN n) := fun w' hr => by
    have := stands_any b p0 s ⟨#[62]⟩ vT vO w' hr l0.1 hs
    rwa [hc0, show ((⟨#[62]⟩ : ByteArray).data.toList) = [62] from rfl, hp1, show ((62 : UInt8) == c0) = false from beq_eq_false_iff_ne.2 n62.symm] at this
  have S3 : Hid (∀ w', Rb w' b s p0 vT vO → Gl w' → Calls Tryz.prog 119 #[.pointer (some ⟨b, 0, none⟩)] w' fun e w'' => e = .returned (.tuple #[.agg #[.string nm, .string ⟨(outs us).toArray⟩], .nilIface]) ∧ Mv b s p4 vT vO w' w'') := fun w' hr hg => by
    have := attr_yes b p0 p1 p2 p3 s vT vO w' hr l0.1 hs hg q us tail rest hnm h1 h2 he h3 hok hq hrest
    rwa [hN, h4] at this
  have S4 : Hid (∀ w', Rb w' b s p4 vT vO → Calls Tryz.prog 104 #[.pointer (some ⟨b, 0, none⟩)] w' fun e w'' => e = .returned (.bool false) ∧ Mv b s p4 vT vO w' w'') := fun w' hr => by
    have := skip_any b p4 s vT vO w' hr h6 hs
    rw [h5, show decide (p4 < p4) = false from decide_eq_false (by omega)] at this
    exact this.mono fun e w'' ⟨x, _, y⟩ => ⟨x, y⟩
  clear h hG hnm h1 hN h2 he h3 hok hq hrest h4 h5 h0 hc0
  generalize (⟨(outs us).toArray⟩ : ByteArray) = T at S3 ⊢
  go_enter Tryz.func106, Tryz.ntmps106
  go_wp2
  go_loopw [4] (fun o wr => (o = .slice none 0 0 ∧ Mv b s p vT vO w wr) ∨ (∃ a len cap, o = .slice (some a) len cap ∧ OneAt w.heap.size wr (some a) len cap nm T ∧ Mv b s p4 vT vO w wr)) (fun o _ => match o with | .slice none _ _ => 1 | _ => 0)
  case atStart => exact .inl ⟨rfl, Mv.refl HR.out⟩
  case round =>
    rcases hrel with ⟨rfl, hmv⟩ | ⟨a, len, cap, rfl, hone, hmv⟩
    · have HM : Hid (Mv b s p vT vO w wr) := hmv
      clear hmv
      go_wp2_with fail
      refine (S0.out _ HM.out.1).mono ?_
      rintro e w1 ⟨rfl, m1⟩
      have HM1 : Hid (Mv b s p0 vT vO w w1) := HM.out.trans m1
      clear m1
      go_wp2_with fail
      refine (S1.out _ HM1.out.1).mono ?_
      rintro e w2 ⟨rfl, n2, rfl⟩
      go_wp2_with fail
      refine (S2.out _ (HM1.out.1.drew n2)).mono ?_
      rintro e w3 ⟨rfl, n3, rfl⟩
      have M3 : Mv b s p0 vT vO w ((w1.drewN n2).drewN n3) := (HM1.out.drew n2).drew n3
      generalize (w1.drewN n2).drewN n3 = w3 at M3 ⊢
      have HM3 : Hid (Mv b s p0 vT vO w w3) := M3
      have c1 := M3.1.c1
      clear M3
      go_wp2_with fail
      refine (S3.out _ HM3.out.1 (HG.out.mv HR.out HM3.out.2)).mono ?_
      rintro e w4 ⟨rfl, m4⟩
      have HM4 : Hid (Mv b s p4 vT vO w w4) := HM3.out.trans m4
      clear m4 c1
      go_wp2_with fail
      refine (contains_nil _ _).mono ?_
      rintro e w5 ⟨rfl, rfl⟩
      have hsz4 : w.heap.size ≤ w4.heap.size := HM4.out.2.size
      go_wp2_with (at_builtin; go_loud (refine wpList_append_own _ rfl _ _ 32 rfl w.heap.size 59 i0 _ 2 32 Tryz.underlying32 hi hz0 hz1 hz2 rfl (by decide) (.slice none 0 0) 0 [] rfl (World.ownsRow_nil _ _ _ _) ⟨w4.heap.size + 1, 0, none⟩ 1 1 [Value.string nm, Value.string T] rfl rfl (by have hh := ow.cells_new (w4.alloc (.cells #[.string nm, .string T] 59)) [Value.string nm, Value.string T] 59; simpa using hh) (by simp [Value.oneCell']) (by unfold maxLen; omega) (by omega) (by simp; omega) ?_); intro v' w6 hown' hgrow _)
      obtain ⟨g, cap, rfl⟩ := row_some (m := 0) hown'
      have HM6 : Hid (Mv b s p4 vT vO w w6) := by
        have m5 := (HM4.out.below ((Below.refl _ w4).alloc (Nat.le_refl _) (.cells #[.string nm, .string T] 59))).below ((Below.refl _ _).alloc (Nat.le_refl _) (.cells #[.string nm, .string T] 59))
        have hl := m5.1.lt
        exact ⟨(hgrow.block b hl (by simp [Value.ownBlock])).trans m5.1, ow.grown_trans m5.2 ⟨hgrow.os, hgrow.tape, hgrow.output, hgrow.size, fun k hk _ => hgrow.block k hk (by simp [Value.ownBlock])⟩⟩
      have HO : Hid (OneAt w.heap.size w6 (some ⟨g, 0, none⟩) 1 cap nm T) := hown'
      clear hown' hgrow
      go_wp2
      go_roundw
      case rel => exact .inr ⟨_, _, _, rfl, HO.out, HM6.out⟩
      case measure => simp
    · have HM : Hid (Mv b s p4 vT vO w wr) := hmv
      have HO : Hid (OneAt w.heap.size wr (some a) len cap nm T) := hone
      clear hmv hone
      go_wp2_with fail
      refine (S4.out _ HM.out.1).mono ?_
      rintro e w1 ⟨rfl, m1⟩
      have HM1 : Hid (Mv b s p4 vT vO w w1) := HM.out.trans m1
      have HO1 : Hid (OneAt w.heap.size w1 (some a) len cap nm T) := own_mv HO.out m1 hbl
      clear m1
      go_wp2
      go_ret2
      exact ⟨_, _, _, rfl, HO1.out, HM1.out⟩
end Go.Proofs.YtjncdnnllaoccaaGreatDoor.xd
