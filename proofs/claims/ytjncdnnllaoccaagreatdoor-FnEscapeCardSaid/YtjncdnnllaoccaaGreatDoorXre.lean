/-
  The program's reader of XML: text up to a sign, made of plain bytes and of entities that the program itself writes.
-/
import Derived.Test.YtjncdnnllaoccaaGreatDoorXrd
import Derived.WalkMore
namespace Go.Proofs.YtjncdnnllaoccaaGreatDoor.xd
open Go.RowKit
set_option linter.unusedVariables false

/-- What a text is made of: a plain byte, or an entity and its sign. -/
abbrev U := Sum UInt8 (List UInt8 × UInt8)
def U.inp : U → List UInt8
  | .inl c => [c]
  | .inr (nm, r) => 38 :: (nm ++ [59])
def U.out : U → UInt8
  | .inl c => c
  | .inr (nm, r) => r
def U.ok (sign : UInt8) : U → Prop
  | .inl c => c ≠ sign ∧ c ≠ 38 ∧ c ≠ 13
  | .inr (nm, r) => entR nm r
def inps (us : List U) : List UInt8 := us.flatMap U.inp
def outs (us : List U) : List UInt8 := us.map U.out

theorem at_cons {s : ByteArray} {k : Nat} {c : UInt8} {r : List UInt8} (h : s.data.toList.drop k = c :: r) : ∃ hlt : k < s.size, s[k]'hlt = c ∧ s.data.toList.drop (k + 1) = r := by
  have hl : k < s.data.toList.length := by
    have := congrArg List.length h
    rw [List.length_drop] at this
    simp only [List.length_cons] at this
    omega
  rw [List.drop_eq_getElem_cons hl] at h
  injection h with h1 h2
  exact ⟨by rw [Lib.size_eq]; exact hl, h1, h2⟩
theorem drop_more {s : ByteArray} {k : Nat} {a r : List UInt8} (h : s.data.toList.drop k = a ++ r) : s.data.toList.drop (k + a.length) = r := by
  rw [← List.drop_drop, h, List.drop_left]
theorem drop_nil {s : ByteArray} {k : Nat} (h : s.data.toList.drop k = []) : s.size ≤ k := by
  have := congrArg List.length h
  rw [List.length_drop, ← Lib.size_eq] at this
  simp at this
  omega
theorem drop_len {s : ByteArray} {k : Nat} {a r : List UInt8} (h : s.data.toList.drop k = a ++ r) (hk : k ≤ s.size) : k + a.length ≤ s.size := by
  have := congrArg List.length h
  rw [List.length_drop, ← Lib.size_eq, List.length_append] at this
  omega

theorem bd_grown {B bb b : Nat} {l : List UInt8} {w w' : World} (h : bl.Bd B bb l w) (hg : w.grownBy w' (some b)) (hb : b < B) : bl.Bd B bb l w' := by
  have key : ∀ v : Value, w.ownsRow B 5 1 v (Lib.byteCells l).length (Lib.byteCells l) → w'.ownsRow B 5 1 v (Lib.byteCells l).length (Lib.byteCells l) := fun v hown =>
    hown.kept hg (by
      cases hv : v.ownBlock with
      | none => exact .inl rfl
      | some j => right; intro e; injection e with e; have := ow.own_lt hown j hv; omega)
  rcases h with ⟨hB, v, hbk, hown, hne⟩ | ⟨hB, v, hbk, hown, hne⟩
  · exact .inl ⟨hB, v, (hg.block bb (Array.getElem?_eq_some_iff.1 hbk).1 (by simp; omega)).trans hbk, key v hown, hne⟩
  · exact .inr ⟨hB, v, (hg.block bb (Array.getElem?_eq_some_iff.1 hbk).1 (by simp; omega)).trans hbk, key v hown, hne⟩
theorem Mv.belowB {b p : Nat} {s : ByteArray} {vT vO : Value} {w w' w'' : World} (h : Mv b s p vT vO w w') (hb : Below w.heap.size w' w'') (hlt : b < w.heap.size) : Mv b s p vT vO w w'' :=
  ⟨(hb.block b hlt).trans h.1, ⟨hb.os.trans h.2.os, hb.tape.trans h.2.tape, hb.output.trans h.2.output, Nat.le_trans h.2.size hb.size, fun k hk hr => (hb.block k hk).trans (h.2.block k hk hr)⟩⟩
theorem byte_ne {a b : UInt8} (h : a ≠ b) : ((a.toNat : Int) == (b.toNat : Int)) = false := by
  rw [beq_eq_false_iff_ne]
  intro e
  exact h (UInt8.toNat_inj.1 (by omega))

set_option maxHeartbeats 4000000 in
set_option maxRecDepth 100000 in
theorem upto_yes (b p : Nat) (s : ByteArray) (vT vO : Value) (w : World) (h : Rb w b s p vT vO) (hp : p ≤ s.size) (hs : s.size ≤ 65536) (hG : Gl w) (sign : UInt8) (us : List U) (tail : List UInt8)
    (hok : ∀ u ∈ us, U.ok sign u) (hsg : sign ≠ 38) (hrest : s.data.toList.drop p = inps us ++ tail) (ht : tail = [] ∨ ∃ r, tail = sign :: r) :
    Calls Tryz.prog 107 #[.pointer (some ⟨b, 0, none⟩), .int .u8 (sign.toNat : Int)] w fun e w' => e = .returned (.tuple #[.string ⟨(outs us).toArray⟩, .nilIface]) ∧ Mv b s (p + (inps us).length) vT vO w w' := by
  have hbl := h.lt
  have HR : Hid (Rb w b s p vT vO) := h
  have HG : Hid (Gl w) := hG
  have HOK : Hid (∀ u ∈ us, U.ok sign u) := hok
  have HT : Hid (tail = [] ∨ ∃ r, tail = sign :: r) := ht
  have HD : Hid (s.data.toList.drop p = inps us ++ tail) := hrest
  clear h hG hok ht hrest
  go_enter Tryz.func107, Tryz.ntmps107
  go_wp2
  go_step3
  go_wp2
  go_step3
  go_wp2
  go_loopw [] (fun wr => ∃ (u1 u2 : List U) (k : Nat), us = u1 ++ u2 ∧ k = p + (inps u1).length ∧ k ≤ s.size ∧ (outs u1).length ≤ k ∧ s.data.toList.drop k = inps u2 ++ tail ∧ bl.Bd w.heap.size w.heap.size (outs u1) wr ∧ Mv b s k vT vO w wr) (fun wr => s.size - plc wr b)
  case atStart => exact ⟨[], us, p, rfl, rfl, hp, by simp [outs], HD.out, bl.fresh w, (Mv.refl HR.out).below ((Below.refl _ _).alloc (Nat.le_refl _) _)⟩
  case round =>
    obtain ⟨u1, u2, k, hus, hkp, hk, hol, hrest, hbd, hmv⟩ := hrel
    have HU : Hid (us = u1 ++ u2) := hus
    have HK : Hid (k = p + (inps u1).length) := hkp
    have HM : Hid (Mv b s k vT vO w wr) := hmv
    have HB : Hid (bl.Bd w.heap.size w.heap.size (outs u1) wr) := hbd
    have hwsz : w.heap.size ≤ wr.heap.size := hmv.2.size
    have c0 := hmv.1.c0
    have c1 := hmv.1.c1
    have f1 := hmv.1.f 1
    clear hus hkp hmv hbd
    cases u2 with
    | nil =>
      have HE : Hid (us = u1) := by rw [HU.out]; exact (List.append_nil _)
      have hrest' : s.data.toList.drop k = tail := hrest
      clear hrest
      rcases HT.out with rfl | ⟨r, rfl⟩
      · have hge := drop_nil hrest'
        have hlt' : decide ((k : Int) < (s.size : Int)) = false := decide_eq_false (by omega)
        clear hrest'
        go_wp2
        go_quiet (fail)
        go_wp2_with fail
        refine (bl.said w.heap.size w.heap.size (outs u1) _ (bd_grown HB.out (ow.grown_drewN (ow.grown_refl _ (some b)) _) hbl) (by simpa using hwsz)).mono ?_
        rintro e w2 ⟨rfl, hb2⟩
        go_wp2
        rw [Exit.noGoto_ret]
        go_ret2
        rw [HE.out]
        refine ⟨rfl, ?_⟩
        rw [← HK.out]
        exact (HM.out.drew _).belowB hb2 hbl
      · obtain ⟨hlt, hc, _⟩ := at_cons hrest'
        have hlt' : (k : Int) < (s.size : Int) := by omega
        have hk0 : (0 : Int) ≤ (k : Int) := by omega
        have hb0 : (((s[k]'hlt).toNat : Int) == (sign.toNat : Int)) = true := by rw [hc]; simp
        clear hrest' hc
        go_wp2
        go_quiet (fail)
        go_wp2
        go_quiet (fail)
        go_wp2_with fail
        refine (bl.said w.heap.size w.heap.size (outs u1) _ (bd_grown HB.out (ow.grown_drewN (ow.grown_refl _ (some b)) _) hbl) (by simpa using hwsz)).mono ?_
        rintro e w2 ⟨rfl, hb2⟩
        go_wp2
        rw [Exit.noGoto_ret]
        go_ret2
        rw [HE.out]
        refine ⟨rfl, ?_⟩
        rw [← HK.out]
        exact (HM.out.drew _).belowB hb2 hbl
    | cons u u2 =>
      have HO : Hid (U.ok sign u) := HOK.out u (by rw [HU.out]; simp)
      have HU2 : Hid (us = (u1 ++ [u]) ++ u2) := by rw [HU.out]; exact (List.append_cons u1 u u2)
      clear HU
      cases u with
      | inl c =>
        obtain ⟨hlt, hc, hnext⟩ := at_cons (show s.data.toList.drop k = c :: (inps u2 ++ tail) from hrest)
        obtain ⟨n0, n1, n2⟩ := HO.out
        have hlt' : (k : Int) < (s.size : Int) := by omega
        have hk0 : (0 : Int) ≤ (k : Int) := by omega
        have b0 : (((s[k]'hlt).toNat : Int) == (sign.toNat : Int)) = false := by rw [hc]; exact byte_ne n0
        have b1 : (((s[k]'hlt).toNat : Int) == 38) = false := by rw [hc]; exact byte_ne n1
        have b2 : (((s[k]'hlt).toNat : Int) == 13) = false := by rw [hc]; exact byte_ne n2
        have HC : Hid (s[k]'hlt = c) := hc
        have HN : Hid (s.data.toList.drop (k + 1) = inps u2 ++ tail) := hnext
        have hmv2 : Hid (∀ n, Mv b s (k + 1) vT vO w ((wr.drewN n).setCell ⟨b, 1, none⟩ (.int .i64 ((k : Int) + 1)))) := fun n => (HM.out.drew n).at (k + 1)
        have hbd2 : Hid (∀ n, bl.Bd w.heap.size w.heap.size (outs u1) ((wr.drewN n).setCell ⟨b, 1, none⟩ (.int .i64 ((k : Int) + 1)))) := fun n => bd_grown HB.out (ow.grown_trans (ow.grown_drewN (ow.grown_refl _ (some b)) n) (grown_at _ _ _ _)) hbl
        clear hrest hc hnext n0 n1 n2
        go_wp2
        go_quiet (fail)
        go_wp2
        go_quiet (fail)
        go_wp2_with fail
        refine (bl.byte w.heap.size w.heap.size (outs u1) (s[k]'hlt) _ (hbd2.out _) (by omega) (hmv2.out _).2.size).mono ?_
        rintro e w2 ⟨⟨v, rfl⟩, hb2, hbw2⟩
        have HM2 : Hid (Mv b s (k + 1) vT vO w w2) := (hmv2.out _).belowB hbw2 hbl
        have HB2 : Hid (bl.Bd w.heap.size w.heap.size (outs (u1 ++ [.inl c])) w2) := by
          have : outs (u1 ++ [.inl c]) = outs u1 ++ [s[k]'hlt] := by rw [HC.out]; simp [outs, U.out]
          rw [this]; exact hb2
        clear hb2 hbw2 hmv2 hbd2
        go_wp2
        go_roundw
        case rel => exact ⟨u1 ++ [.inl c], u2, k + 1, HU2.out, by rw [HK.out]; simp [inps, U.inp]; omega, by omega, by simp [outs] at hol ⊢; omega, HN.out, HB2.out, HM2.out⟩
        case measure => rw [HM2.out.1.plc, HM.out.1.plc]; omega
      | inr y =>
        obtain ⟨nm, r⟩ := y
        have hr2 : s.data.toList.drop k = 38 :: (nm ++ 59 :: (inps u2 ++ tail)) := by rw [hrest]; simp [inps, U.inp]
        obtain ⟨hlt, hc, _⟩ := at_cons hr2
        have hlt' : (k : Int) < (s.size : Int) := by omega
        have hk0 : (0 : Int) ≤ (k : Int) := by omega
        have b0 : (((s[k]'hlt).toNat : Int) == (sign.toNat : Int)) = false := by rw [hc]; exact byte_ne hsg.symm
        have b1 : (((s[k]'hlt).toNat : Int) == 38) = true := by rw [hc]; rfl
        have hln : k + (nm.length + 2) ≤ s.size := by
          have := drop_len (a := 38 :: (nm ++ [59])) (r := inps u2 ++ tail) (by rw [hr2]; simp) hk
          simp at this
          omega
        have HN : Hid (s.data.toList.drop (k + nm.length + 2) = inps u2 ++ tail) := by
          have := drop_more (a := 38 :: (nm ++ [59])) (r := inps u2 ++ tail) (by rw [hr2]; simp)
          show s.data.toList.drop (k + nm.length + 2) = inps u2 ++ tail
          simpa [Nat.add_assoc] using this
        have HY : Hid (∀ n, Calls Tryz.prog 122 #[.pointer (some ⟨b, 0, none⟩)] (wr.drewN n) fun e w' => e = .returned (.tuple #[.string ⟨#[r]⟩, .nilIface]) ∧ Mv b s (k + nm.length + 2) vT vO (wr.drewN n) w') := fun n =>
          entity_yes b k s vT vO (wr.drewN n) (HM.out.1.drew n) hs ((HG.out.mv HR.out (HM.out.drew n).2)) nm _ r HO.out hr2
        clear hrest hc hr2
        go_wp2
        go_quiet (fail)
        go_wp2
        go_quiet (fail)
        go_wp2_with fail
        refine (HY.out _).mono ?_
        rintro e w2 ⟨rfl, hmv2⟩
        have HM2 : Hid (Mv b s (k + nm.length + 2) vT vO w w2) := (HM.out.drew _).trans hmv2
        have hbd2 := bd_grown (bd_grown HB.out (ow.grown_drewN (ow.grown_refl _ (some b)) _) hbl) hmv2.2 hbl
        have hsz2 := HM2.out.2.size
        clear hmv2 HY
        go_wp2_with fail
        refine (bl.text w.heap.size w.heap.size (outs u1) ⟨#[r]⟩ _ hbd2 (by show _ + 1 ≤ _; omega) hsz2).mono ?_
        rintro e w3 ⟨⟨v, rfl⟩, hb3, hbw3⟩
        have HM3 : Hid (Mv b s (k + nm.length + 2) vT vO w w3) := HM2.out.belowB hbw3 hbl
        have HB3 : Hid (bl.Bd w.heap.size w.heap.size (outs (u1 ++ [.inr (nm, r)])) w3) := by
          have : outs (u1 ++ [.inr (nm, r)]) = outs u1 ++ [r] := by simp [outs, U.out]
          rw [this]; exact hb3
        clear hb3 hbw3 hbd2
        go_wp2
        go_roundw
        case rel => exact ⟨u1 ++ [.inr (nm, r)], u2, k + nm.length + 2, HU2.out, by rw [HK.out]; simp [inps, U.inp]; omega, by omega, by simp [outs] at hol ⊢; omega, HN.out, HB3.out, HM3.out⟩
        case measure => rw [HM3.out.1.plc, HM.out.1.plc]; omega
end Go.Proofs.YtjncdnnllaoccaaGreatDoor.xd
