/-
  The contract of the specification's UnfoldHeader.
  The contract of the specification's l07Parse: a mail's fields and its body.
  The contracts of the specification's ParseMail and of both MailLines functions.
  The contract of the specification's ReadRfc822 at every text.
  The contract of the specification's l07Lf: each 13 ahead of a 10 left out.
-/
import Derived.Test.YtadfdfmebdcfgaaGreatDoorPgi
import Derived.Test.YtadfdfmebdcfgaaGreatDoorPga
import Derived.Deep.QuietTactic
import Derived.BigQuiet
import Derived.BigRegion
import Derived.Laws.AppendOwn
import Derived.Deep.DeepCutAuto
import Derived.Deep.Cut
import Derived.Deep.CutRange
import Derived.Deep.RegionHeld
import Derived.Deep.RegionLaw
import Derived.Deep.RegionWith
import Derived.Test.YtadfdfmebdcfgaaGreatDoorRdt
import Derived.Test.YtadfdfmebdcfgaaGreatDoorRdu
import Derived.Test.YtadfdfmebdcfgaaGreatDoorPgh
import Derived.Test.YtadfdfmebdcfgaaGreatDoorPgb
import Derived.Laws.Cover4
import Derived.Test.YtadfdfmebdcfgaaGreatDoorOwn
import Derived.Test.YtadfdfmebdcfgaaGreatDoorPge
import Derived.Test.YtadfdfmebdcfgaaGreatDoorPgd
import Derived.Test.YtadfdfmebdcfgaaGreatDoorUtx
import Derived.Test.YtadfdfmebdcfgaaGreatDoorCtl
import Derived.Test.YtadfdfmebdcfgaaGreatDoorShf
import Derived.Test.YtadfdfmebdcfgaaGreatDoorPgf
import Derived.Test.YtadfdfmebdcfgaaGreatDoorDxe
import Derived.Test.YtadfdfmebdcfgaaGreatDoorDxc
import Derived.Lib.ItoaNum
import Derived.Test.YtadfdfmebdcfgaaGreatDoorRows
import Derived.WalkKit
import Derived.WalkLawsBesides
import Derived.Test.YtadfdfmebdcfgaaGreatDoorPgg
import Derived.Test.YtadfdfmebdcfgaaGreatDoorPgc
import Derived.ProofKit
import Derived.OpenShut
import Derived.Laws.BitsAllLaws
import Derived.Lib.ReplaceLaws
import Derived.Lib.IndexLaws
import Derived.Orders
import Derived.RegionTactic
import Derived.Test.YtadfdfmebdcfgaaGreatDoorGrw

namespace Go.Proofs.YtadfdfmebdcfgaaGreatDoor.uf
open Go.RowKit
set_option linter.unusedVariables false

theorem infoB : (Tryz.prog.info? 5).map (fun i => (i.zero, i.size, i.bytes)) = some (some (.int .u8 0), 1, 1) := by kernel_rfl
theorem ext_list (s : ByteArray) (a b : Nat) : (s.extract a b).data.toList = (s.data.toList.drop a).take (b - a) := by rw [← Lib.toList_data, Lib.extract_toList]
theorem at_some (s : ByteArray) (k : Nat) (h : k < s.size) : s.data.toList[k]? = some s[k] := by
  rw [List.getElem?_eq_getElem (by simpa using h)]; rfl
theorem byte_is {c : UInt8} {n : Nat} (hn : n < 256) (h : (c.toNat : Int) = n) : c = UInt8.ofNat n := by
  rw [← UInt8.toNat_inj, UInt8.toNat_ofNat']; omega
theorem byte_not {c : UInt8} {n : Nat} (h : (c.toNat : Int) ≠ n) : c ≠ UInt8.ofNat n ∨ 256 ≤ n := by
  by_cases hn : n < 256
  · left
    intro e
    rw [e, UInt8.toNat_ofNat'] at h
    omega
  · right; omega
def NoCol (s : ByteArray) (k : Nat) : Prop := 58 ∉ s.data.toList.take k
theorem nocol_step {s : ByteArray} {k : Nat} (h : NoCol s k) (hk : k < s.size) (hx : ((s[k]'hk).toNat : Int) ≠ 58) : NoCol s (k + 1) := by
  unfold NoCol
  rw [hd.take_snoc s k hk]
  intro hm
  rcases List.mem_append.1 hm with e | e
  · exact h e
  · rw [List.mem_singleton] at e
    rw [← e] at hx
    exact hx rfl
/-- A text with a colon at a place. -/
theorem col_at {s : ByteArray} {k : Nat} (hk : k < s.size) (hx : ((s[k]'hk).toNat : Int) = 58) : s.data.toList = s.data.toList.take k ++ 58 :: s.data.toList.drop (k + 1) := by
  have h1 : s[k] = 58 := byte_is (n := 58) (by decide) hx
  have h2 := List.take_append_drop k s.data.toList
  rw [show s.data.toList.drop k = s[k] :: s.data.toList.drop (k + 1) from by rw [List.drop_eq_getElem_cons (by simpa using hk)]; rfl, h1] at h2
  exact h2.symm
theorem fld {P : ByteArray → Prop} {l a r : List UInt8} (h : l = a ++ 58 :: r) (ha : 58 ∉ a) (hF : ∃ nm v, Field P l nm v) : ∃ x, r = 32 :: (x ++ [13, 10]) ∧ P ⟨a.toArray⟩ ∧ ∃ v, unf false x = some v ∧ hd.Safe v := by
  obtain ⟨nm, v, x, ⟨hx, hm⟩, hP, hu, hs⟩ := hF
  obtain ⟨rfl, h2⟩ := colon_one _ _ _ _ ha hm (h.symm.trans hx)
  exact ⟨x, h2, hP, v, hu, hs⟩
theorem ext_take (s : ByteArray) (k : Nat) : s.extract 0 k = ⟨(s.data.toList.take k).toArray⟩ := by
  apply ByteArray.ext
  rw [← Array.toList_inj, ext_list]
  simp
theorem cr_at (s : ByteArray) (h : 2 ≤ s.size) : ((s.extract (s.size - 2) s.size).toList == [13, 10]) = decide (s.data.toList.drop (s.size - 2) = [13, 10]) := by
  rw [Lib.toList_data, ext_list, List.take_of_length_le (by rw [List.length_drop, ← Lib.size_eq]; omega), Bool.eq_iff_iff, beq_iff_eq, decide_eq_true_iff]
section
variable {P : ByteArray → Prop} {s : ByteArray} {k : Nat}
theorem tail_len (hk : k < s.size) : (s.data.toList.drop (k + 1)).length = s.size - (k + 1) := by rw [List.length_drop, ← Lib.size_eq]
theorem short_no (hk : k < s.size) (hx : ((s[k]'hk).toNat : Int) = 58) (hn : NoCol s k) (h : s.size < k + 3) : ¬ ∃ nm v, Field P s.data.toList nm v := fun hF => by
  obtain ⟨x, h1, _⟩ := fld (col_at hk hx) hn hF
  have := congrArg List.length h1
  rw [tail_len hk] at this
  simp at this
  omega
theorem end_no (hk : k < s.size) (hx : ((s[k]'hk).toNat : Int) = 58) (hn : NoCol s k) (h : s.data.toList.drop (s.size - 2) ≠ [13, 10]) : ¬ ∃ nm v, Field P s.data.toList nm v := fun hF => by
  obtain ⟨x, h1, _⟩ := fld (col_at hk hx) hn hF
  apply h
  have h2 := col_at hk hx
  rw [h1] at h2
  have h3 : s.data.toList = (s.data.toList.take k ++ 58 :: 32 :: x) ++ [13, 10] := by rw [List.append_assoc]; exact h2
  have h4 := congrArg List.length h3
  rw [← Lib.size_eq, List.length_append] at h4
  rw [h3, List.drop_append_of_le_length (by simp at h4 ⊢; omega), List.drop_eq_nil_of_le (by simp at h4 ⊢; omega)]
  rfl
theorem name_no (hk : k < s.size) (hx : ((s[k]'hk).toNat : Int) = 58) (hn : NoCol s k) (h : ¬ P (s.extract 0 k)) : ¬ ∃ nm v, Field P s.data.toList nm v := fun hF => by
  obtain ⟨x, h1, h2, _⟩ := fld (col_at hk hx) hn hF
  rw [ext_take] at h
  exact h h2
theorem blank_no (hk : k < s.size) (hx : ((s[k]'hk).toNat : Int) = 58) (hn : NoCol s k) (hk1 : k + 1 < s.size) (h : ((s[k + 1]'hk1).toNat : Int) ≠ 32) : ¬ ∃ nm v, Field P s.data.toList nm v := fun hF => by
  obtain ⟨x, h1, _⟩ := fld (col_at hk hx) hn hF
  have h2 := at_some s (k + 1) hk1
  rw [show s.data.toList[k + 1]? = (s.data.toList.drop (k + 1))[0]? from by simp, h1] at h2
  have h3 : (32 : UInt8) = s[k + 1] := Option.some.inj h2
  rw [← h3] at h
  exact h rfl
/-- What is between the colon and the end of the line. -/
theorem rest_is (hk : k < s.size) (hx : ((s[k]'hk).toNat : Int) = 58) (hn : NoCol s k) (h3 : k + 3 ≤ s.size) (he : s.data.toList.drop (s.size - 2) = [13, 10]) (hb : ((s[k + 1]'(by omega)).toNat : Int) = 32) :
    ∃ x, (s.extract (k + 1) (s.size - 2)).data.toList = 32 :: x ∧ Parts s.data.toList (s.data.toList.take k) x := by
  have h1 : s[k + 1] = 32 := byte_is (n := 32) (by decide) hb
  have hr : s.data.toList.drop (k + 1) = (s.extract (k + 1) (s.size - 2)).data.toList ++ [13, 10] := by
    rw [ext_list, ← he]
    have := List.take_append_drop (s.size - 2 - (k + 1)) (s.data.toList.drop (k + 1))
    rw [List.drop_drop, show k + 1 + (s.size - 2 - (k + 1)) = s.size - 2 from by omega] at this
    exact this.symm
  have h2 : (s.data.toList.drop (k + 1))[0]? = some 32 := by
    rw [show (s.data.toList.drop (k + 1))[0]? = s.data.toList[k + 1]? from by simp, at_some s (k + 1) (by omega), h1]
  rw [hr] at h2
  match hq : (s.extract (k + 1) (s.size - 2)).data.toList with
  | [] => rw [hq] at h2; cases h2
  | c :: x =>
    rw [hq] at h2 hr
    obtain rfl : c = 32 := Option.some.inj h2
    refine ⟨x, rfl, ?_, hn⟩
    rw [← List.cons_append, ← hr]
    exact col_at hk hx
end
theorem drop_at (s : ByteArray) (i : Nat) (h : i < s.size) : s.data.toList.drop i = s[i] :: s.data.toList.drop (i + 1) := by
  rw [List.drop_eq_getElem_cons (by simpa using h)]
  rfl
section
variable {s : ByteArray} {i : Nat} {out : List UInt8} {o : Option (List UInt8)}
theorem go_on (h : (unf false (s.data.toList.drop i)).map (out ++ ·) = o) (hi : i < s.size) (hc : ((s[i]'hi).toNat : Int) ≠ 13) : (unf false (s.data.toList.drop (i + 1))).map ((out ++ [s[i]]) ++ ·) = o := by
  rw [drop_at s i hi, unf, if_neg (fun e => by rw [e] at hc; exact hc rfl)] at h
  rw [← h]
  cases unf false (s.data.toList.drop (i + 1)) <;> simp
theorem go_end (h : (unf false (s.data.toList.drop i)).map (out ++ ·) = o) (hi : i < s.size) (hc : ((s[i]'hi).toNat : Int) = 13) (h2 : i + 2 < s.size) (hc1 : ((s[i + 1]'(by omega)).toNat : Int) = 10) (hc2 : ((s[i + 2]'h2).toNat : Int) = 32) : (unf false (s.data.toList.drop (i + 2))).map (out ++ ·) = o := by
  have e0 : s[i] = 13 := byte_is (n := 13) (by decide) hc
  have e1 : s[i + 1] = 10 := byte_is (n := 10) (by decide) hc1
  have e2 : s[i + 2] = 32 := byte_is (n := 32) (by decide) hc2
  rw [drop_at s i hi, drop_at s (i + 1) (by omega), drop_at s (i + 2) h2, e0, e1, e2, unf_fw] at h
  rw [drop_at s (i + 2) h2, e2, unf, if_neg (by decide)]
  exact h
theorem go_bad (h : (unf false (s.data.toList.drop i)).map (out ++ ·) = o) (hi : i < s.size) (hc : ((s[i]'hi).toNat : Int) = 13) (hx : s.size ≤ i + 2 ∨ (∃ h1 : i + 1 < s.size, ((s[i + 1]'h1).toNat : Int) ≠ 10) ∨ (∃ h2 : i + 2 < s.size, ((s[i + 2]'h2).toNat : Int) ≠ 32)) : o = none := by
  have e0 : s[i] = 13 := byte_is (n := 13) (by decide) hc
  rw [drop_at s i hi, e0, unf, if_pos rfl, if_neg, Option.map_none] at h
  · exact h.symm
  · rintro ⟨g1, g2⟩
    have h1 : i + 1 < s.size := by
      rw [List.head?_eq_getElem?, List.getElem?_drop] at g1
      have := (List.getElem?_eq_some_iff.1 g1).1
      rw [← Lib.size_eq] at this
      omega
    rw [drop_at s (i + 1) h1] at g1 g2
    have h2 : i + 2 < s.size := by
      rw [List.tail_cons, List.head?_eq_getElem?, List.getElem?_drop] at g2
      have := (List.getElem?_eq_some_iff.1 g2).1
      rw [← Lib.size_eq] at this
      omega
    rw [List.tail_cons, drop_at s (i + 2) h2] at g2
    have k1 : s[i + 1] = 10 := Option.some.inj g1
    have k2 : s[i + 2] = 32 := Option.some.inj g2
    rcases hx with hx | ⟨_, hx⟩ | ⟨_, hx⟩
    · omega
    · rw [k1] at hx; exact hx rfl
    · rw [k2] at hx; exact hx rfl
theorem go_stop (h : (unf false (s.data.toList.drop i)).map (out ++ ·) = o) (hi : s.size ≤ i) : o = some out := by
  rw [List.drop_eq_nil_of_le (by rw [← Lib.size_eq]; exact hi)] at h
  rw [← h]
  simp [unf]
end
theorem unf_blank (x : List UInt8) : unf false (32 :: x) = (unf false x).map (32 :: ·) := by rw [unf, if_neg (by decide)]

/-- What the specification's unfolding answers. -/
def UsRet (s : ByteArray) (e : Ending) : Prop :=
  (∃ nm v : List UInt8, Field hn.IsName s.data.toList nm v ∧ e = .returned (.tuple #[.string ⟨nm.toArray⟩, .string ⟨v.toArray⟩, .bool true])) ∨
  ((¬ ∃ nm v, Field hn.IsName s.data.toList nm v) ∧ ∃ a b : ByteArray, e = .returned (.tuple #[.string a, .string b, .bool false]))

set_option maxHeartbeats 8000000 in
set_option maxRecDepth 100000 in
theorem specUn_any (s : ByteArray) (w : World) (hs : s.size ≤ 1048576) :
    Calls Tryz.prog 130 #[.string s] w fun e w' => UsRet s e ∧ Below w.heap.size w w' := by
  obtain ⟨i0, hi, hz0, hz1, hz2⟩ := info_parts infoB
  go_enter Tryz.func130, Tryz.ntmps130
  go_wp2
  go_loop [5] (fun i => ∃ k : Nat, k ≤ s.size ∧ i = .int .i64 k ∧ NoCol s k) (fun i => s.size - (intOf i).toNat)
  case atStart => exact ⟨0, Nat.zero_le _, rfl, by simp [NoCol]⟩
  case round =>
    obtain ⟨k, hk, rfl, hg⟩ := hrel
    have HG : Hid (NoCol s k) := hg
    clear hg
    by_cases hlt : k < s.size
    case neg =>
      have hlt' : decide ((k : Int) < (s.size : Int)) = false := decide_eq_false (by omega)
      have hz : (s.size : Int) < (k : Int) + 3 := by omega
      have HN : Hid (¬ ∃ nm v, Field hn.IsName s.data.toList nm v) := no_colon (by have := HG.out; unfold NoCol at this; rwa [hd.take_all s k (by omega)] at this)
      go_wp2
      go_ret3
      exact ⟨.inr ⟨HN.out, _, _, rfl⟩, Below.refl _ _⟩
    by_cases hc : ((s[k]'hlt).toNat : Int) = 58
    case neg =>
      have d1 : (((s[k]'hlt).toNat : Int) == 58) = false := beq_eq_false_iff_ne.2 hc
      have d2 : (((s[k]'hlt).toNat : Int) != 58) = true := by rw [bne_iff_ne]; exact hc
      go_wp2
      go_round
      case rel => exact ⟨k + 1, by omega, by go_num, nocol_step HG.out hlt hc⟩
      case measure => simp [intOf]; omega
    have d1 : (((s[k]'hlt).toNat : Int) == 58) = true := beq_iff_eq.2 hc
    have d2 : (((s[k]'hlt).toNat : Int) != 58) = false := by rw [bne_eq_false_iff_eq]; exact hc
    have HC : Hid (((s[k]'hlt).toNat : Int) = 58) := hc
    clear hc
    by_cases h3 : k + 3 ≤ s.size
    case neg =>
      have hz : (s.size : Int) < (k : Int) + 3 := by omega
      have HN : Hid (¬ ∃ nm v, Field hn.IsName s.data.toList nm v) := short_no hlt HC.out HG.out (by omega)
      go_wp2
      go_ret3
      exact ⟨.inr ⟨HN.out, _, _, rfl⟩, Below.refl _ _⟩
    have hz : decide ((s.size : Int) < (k : Int) + 3) = false := decide_eq_false (by omega)
    have z2 : (2 : Int) ≤ (s.size : Int) := by omega
    have z3 : (k : Int) ≤ (s.size : Int) := by omega
    have z4 : (0 : Int) ≤ (k : Int) := by omega
    have hcr := cr_at s (by omega)
    by_cases he : s.data.toList.drop (s.size - 2) = [13, 10]
    case neg =>
      rw [decide_eq_false he] at hcr
      have HN : Hid (¬ ∃ nm v, Field hn.IsName s.data.toList nm v) := end_no hlt HC.out HG.out he
      clear he
      go_wp2
      go_ret3
      exact ⟨.inr ⟨HN.out, _, _, rfl⟩, Below.refl _ _⟩
    rw [decide_eq_true he] at hcr
    have HE : Hid (s.data.toList.drop (s.size - 2) = [13, 10]) := he
    clear he
    have hez : (s.extract 0 k).size ≤ maxLen := by rw [ByteArray.size_extract]; unfold maxLen; omega
    go_wp2_with fail
    refine (hn.spec_any (s.extract 0 k) _ hez).mono ?_
    rintro e w1 ⟨hsn, hw1⟩
    rw [hw1]
    clear hw1
    by_cases hname : hn.IsName (s.extract 0 k)
    case neg =>
      obtain rfl := name_false hsn hname
      have HN : Hid (¬ ∃ nm v, Field hn.IsName s.data.toList nm v) := name_no hlt HC.out HG.out hname
      clear hsn hname
      go_wp2
      go_ret3
      exact ⟨.inr ⟨HN.out, _, _, rfl⟩, Below.refl _ _⟩
    obtain rfl := name_true hsn hname
    have HNM : Hid (hn.IsName (s.extract 0 k)) := hname
    clear hsn hname
    have hk1 : k + 1 < s.size := by omega
    by_cases hb : ((s[k + 1]'hk1).toNat : Int) = 32
    case neg =>
      have e1 : (((s[k + 1]'hk1).toNat : Int) == 32) = false := beq_eq_false_iff_ne.2 hb
      have e2 : (((s[k + 1]'hk1).toNat : Int) != 32) = true := by rw [bne_iff_ne]; exact hb
      have HN : Hid (¬ ∃ nm v, Field hn.IsName s.data.toList nm v) := blank_no hlt HC.out HG.out hk1 hb
      go_wp2
      go_ret3
      exact ⟨.inr ⟨HN.out, _, _, rfl⟩, Below.refl _ _⟩
    have e1 : (((s[k + 1]'hk1).toNat : Int) == 32) = true := beq_iff_eq.2 hb
    have e2 : (((s[k + 1]'hk1).toNat : Int) != 32) = false := by rw [bne_eq_false_iff_eq]; exact hb
    obtain ⟨x, hR, hP⟩ := rest_is hlt HC.out HG.out h3 HE.out hb
    have HPA : Hid (Parts s.data.toList (s.data.toList.take k) x) := hP
    clear hb hP
    have hsl := ow.slice_str (P := Tryz.prog) 9 s .i64 .i64 (k + 1) (s.size - 2) Tryz.underlying9 ((k : Int) + 1) ((s.size : Int) - 2) (by omega) (by omega) (by omega) (by omega)
    obtain ⟨R, hRR⟩ : ∃ R, R = s.extract (k + 1) (s.size - 2) := ⟨_, rfl⟩
    rw [← hRR] at hR hsl
    have hRs : R.size ≤ 1048576 := by rw [hRR, ByteArray.size_extract]; omega
    have HR : Hid (R.data.toList = 32 :: x) := hR
    clear hR hRR
    go_wp2_with fail
    go_loopw [7, 8] (fun v i wr => ∃ (j : Nat) (out : List UInt8), j ≤ R.size ∧ i = .int .i64 j ∧ out.length ≤ j ∧ wr.ownsRow w.heap.size 5 1 v out.length (Lib.byteCells out) ∧ Below w.heap.size w wr ∧ Hid ((unf false (R.data.toList.drop j)).map (out ++ ·) = unf false R.data.toList)) (fun _ i _ => R.size - (intOf i).toNat)
    case atStart => exact ⟨0, [], Nat.zero_le _, rfl, Nat.le_refl _, ow.own_empty _ _, (Below.refl _ _).alloc (Nat.le_refl _) _, by show Option.map _ _ = _; simp⟩
    case round =>
      obtain ⟨j, out, hj, rfl, hol, hown, hbw, HU⟩ := hrel
      have hBs := hbw.size
      by_cases hjl : j < R.size
      · have hjl' : (j : Int) < (R.size : Int) := by omega
        have ub : ((R[j]'hjl).toNat : Int) ≤ 255 := by have := (R[j]'hjl).toNat_lt; omega
        by_cases hc : ((R[j]'hjl).toNat : Int) = 13
        · have f1 : (((R[j]'hjl).toNat : Int) == 13) = true := beq_iff_eq.2 hc
          have HC3 : Hid (((R[j]'hjl).toNat : Int) = 13) := hc
          clear hc
          have HNO : Hid (unf false R.data.toList = none → ¬ ∃ nm v, Field hn.IsName s.data.toList nm v) := fun hn => no_value HPA.out (by
            rintro ⟨v, hv, _⟩
            rw [HR.out, unf_blank, hv] at hn
            cases hn)
          by_cases h2 : j + 2 < R.size
          case neg =>
            have g1 : decide ((R.size : Int) ≤ (j : Int) + 2) = true := decide_eq_true (by omega)
            have HN := HNO.out (go_bad HU.out hjl HC3.out (.inl (by omega)))
            have HN2 : Hid (¬ ∃ nm v, Field hn.IsName s.data.toList nm v) := HN
            clear HN
            go_wp2
            go_ret3
            exact ⟨.inr ⟨HN2.out, _, _, rfl⟩, hbw⟩
          have g1 : decide ((R.size : Int) ≤ (j : Int) + 2) = false := decide_eq_false (by omega)
          have hj1 : j + 1 < R.size := by omega
          by_cases hc1 : ((R[j + 1]'hj1).toNat : Int) = 10
          case neg =>
            have f2 : (((R[j + 1]'hj1).toNat : Int) == 10) = false := beq_eq_false_iff_ne.2 hc1
            have f3 : (((R[j + 1]'hj1).toNat : Int) != 10) = true := by rw [bne_iff_ne]; exact hc1
            have HN2 : Hid (¬ ∃ nm v, Field hn.IsName s.data.toList nm v) := HNO.out (go_bad HU.out hjl HC3.out (.inr (.inl ⟨hj1, hc1⟩)))
            go_wp2
            go_ret3
            exact ⟨.inr ⟨HN2.out, _, _, rfl⟩, hbw⟩
          have f2 : (((R[j + 1]'hj1).toNat : Int) == 10) = true := beq_iff_eq.2 hc1
          have f3 : (((R[j + 1]'hj1).toNat : Int) != 10) = false := by rw [bne_eq_false_iff_eq]; exact hc1
          have HC4 : Hid (((R[j + 1]'hj1).toNat : Int) = 10) := hc1
          clear hc1
          by_cases hc2 : ((R[j + 2]'h2).toNat : Int) = 32
          case neg =>
            have f4 : (((R[j + 2]'h2).toNat : Int) == 32) = false := beq_eq_false_iff_ne.2 hc2
            have f5 : (((R[j + 2]'h2).toNat : Int) != 32) = true := by rw [bne_iff_ne]; exact hc2
            have HN2 : Hid (¬ ∃ nm v, Field hn.IsName s.data.toList nm v) := HNO.out (go_bad HU.out hjl HC3.out (.inr (.inr ⟨h2, hc2⟩)))
            go_wp2
            go_ret3
            exact ⟨.inr ⟨HN2.out, _, _, rfl⟩, hbw⟩
          have f4 : (((R[j + 2]'h2).toNat : Int) == 32) = true := beq_iff_eq.2 hc2
          have f5 : (((R[j + 2]'h2).toNat : Int) != 32) = false := by rw [bne_eq_false_iff_eq]; exact hc2
          have HC5 : Hid (((R[j + 2]'h2).toNat : Int) = 32) := hc2
          clear hc2
          go_wp2
          go_roundw
          case rel => exact ⟨j + 2, out, by omega, by go_num, by omega, hown, hbw, go_end HU.out hjl HC3.out h2 HC4.out HC5.out⟩
          case measure => simp [intOf]; omega
        · have f1 : (((R[j]'hjl).toNat : Int) == 13) = false := beq_eq_false_iff_ne.2 hc
          go_wp2_with (at_builtin; refine wpList_append_own _ rfl _ _ 22 rfl w.heap.size 5 i0 (.int .u8 0) 1 1 Tryz.underlying22 hi hz0 hz1 hz2 rfl (by decide) _ _ _ rfl (hown.alloc _) ⟨wr.heap.size, 0, none⟩ 1 1 [.int .u8 ((R[j]'hjl).toNat : Int)] rfl rfl (ow.cells_new _ [.int .u8 ((R[j]'hjl).toNat : Int)] _) (by intro u hu; simp at hu; subst hu; rfl) (by unfold maxLen; omega) (by omega) (by simp; omega) ?_; intro v' w3 hown3 hgrow3 hnil3)
          have hb3 := Below.grown (hbw.alloc hBs _) hgrow3 (by simp; omega) (ow.own_lt hown)
          have HA : Hid (w3.ownsRow w.heap.size 5 1 v' (out ++ [R[j]'hjl]).length (Lib.byteCells (out ++ [R[j]'hjl])) ∧ Below w.heap.size w w3) := ⟨by rw [Lib.byteCells_append, List.length_append]; exact hown3, hb3⟩
          clear hown3 hgrow3 hnil3 hb3 hown hbw
          go_wp2
          go_roundw
          case rel => exact ⟨j + 1, out ++ [R[j]'hjl], by omega, by go_num, by simp; omega, HA.out.1, HA.out.2, go_on HU.out hjl hc⟩
          case measure => simp [intOf]; omega
      · have hjl' : (R.size : Int) ≤ (j : Int) := by omega
        have hst := go_stop HU.out (by omega)
        rw [HR.out, unf_blank] at hst
        obtain ⟨v, hv, hout⟩ : ∃ v, unf false x = some v ∧ out = 32 :: v := by
          cases hu : unf false x with
          | none => rw [hu] at hst; cases hst
          | some v => rw [hu] at hst; exact ⟨v, rfl, (Option.some.inj hst).symm⟩
        have HV : Hid (unf false x = some v) := hv
        rw [hout] at hown hol
        clear hst hv hout HU
        obtain ⟨g, cap, rfl, hcap, hcells⟩ : ∃ g cap, u7 = Value.slice (some ⟨g, 0, none⟩) (v.length + 1) cap ∧ v.length + 1 ≤ cap ∧ ∀ i, i < v.length → wr.cell? ⟨g, 1 + i, none⟩ = some (.int .u8 ((v.getD i 0).toNat : Int)) := by
          rcases hown.2 with ⟨_, h0⟩ | ⟨g, cap, cur, hv, _, _, hc, _⟩
          · simp at h0
          · refine ⟨g, cap, hv, hc, fun i hi => ?_⟩
            have := hown.cells (g := g) (by rw [hv]; rfl) (1 + i) (.int .u8 ((v.getD i 0).toNat : Int)) (by rw [Nat.add_comm]; simp [Lib.byteCells, hi])
            rwa [ow.add_at] at this
        clear hown
        obtain ⟨V, hV⟩ : ∃ V : ByteArray, V = ⟨v.toArray⟩ := ⟨_, rfl⟩
        have hVl : V.data.toList = v := by rw [hV]
        have hVs : V.size ≤ maxLen := by rw [Lib.size_eq, hVl]; simp at hol; unfold maxLen; omega
        have HVV : Hid (V = ⟨v.toArray⟩) := hV
        by_cases hc1 : cap = 1
        · have hv0 : v.length = 0 := by omega
          have cvA : (convert 22 9 (.slice (some ⟨g, 0, none⟩) v.length 0)).run Tryz.prog wr = .ok (.string V) wr := by
            rw [hV]
            exact run_convert_bytes_back wr 22 9 5 ⟨g, 0, none⟩ 0 v Tryz.underlying22 Tryz.underlying5 Tryz.underlying9 (fun j hj => by omega)
          clear hv0 hV
          by_cases hsafe : hd.Safe v
          · have CV : Hid (∀ n, Calls Tryz.prog 157 #[.string V] (wr.drewN n) fun e w' => e = .returned (.bool true) ∧ w' = wr.drewN n) := fun n => (sv.spec_any V _ hVs).mono fun e w' h => ⟨sv.says_true h.1 (by rw [hVl]; exact hsafe), h.2⟩
            have HS : Hid (hd.Safe v) := hsafe
            clear hsafe
            go_wp2_with fail
            go_quiet ((go_at_call 157; exact Calls.quiet_of_same (CV.out _)))
            go_wp2
            go_ret3
            refine ⟨.inl ⟨s.data.toList.take k, v, ⟨x, HPA.out, by rw [← ext_take]; exact HNM.out, HV.out, HS.out⟩, ?_⟩, bdrew hbw _⟩
            rw [← ext_take, ← HVV.out]
            rfl
          · have CV : Hid (∀ n, Calls Tryz.prog 157 #[.string V] (wr.drewN n) fun e w' => e = .returned (.bool false) ∧ w' = wr.drewN n) := fun n => (sv.spec_any V _ hVs).mono fun e w' h => ⟨sv.says_false h.1 (by rw [hVl]; exact hsafe), h.2⟩
            have HN : Hid (¬ ∃ nm v, Field hn.IsName s.data.toList nm v) := no_value HPA.out (by
              rintro ⟨v', hv', hs'⟩
              rw [HV.out] at hv'
              cases hv'
              exact hsafe hs')
            clear hsafe
            go_wp2_with fail
            go_quiet ((go_at_call 157; exact Calls.quiet_of_same (CV.out _)))
            go_wp2
            go_ret3
            exact ⟨.inr ⟨HN.out, _, _, rfl⟩, bdrew hbw _⟩
        · have cvB : (convert 22 9 (.slice (some ⟨g, 1, none⟩) v.length (cap - 1))).run Tryz.prog wr = .ok (.string V) wr := by
            rw [hV]
            refine run_convert_bytes_back wr 22 9 5 ⟨g, 1, none⟩ (cap - 1) v Tryz.underlying22 Tryz.underlying5 Tryz.underlying9 (fun j hj => ?_)
            rw [show (⟨g, 1, none⟩ : Addr).add j = ⟨g, 1 + j, none⟩ from by simp [Addr.add], hcells j hj]
            simp [List.getD_eq_getElem?_getD, hj]
          clear hV
          by_cases hsafe : hd.Safe v
          · have CV : Hid (∀ n, Calls Tryz.prog 157 #[.string V] (wr.drewN n) fun e w' => e = .returned (.bool true) ∧ w' = wr.drewN n) := fun n => (sv.spec_any V _ hVs).mono fun e w' h => ⟨sv.says_true h.1 (by rw [hVl]; exact hsafe), h.2⟩
            have HS : Hid (hd.Safe v) := hsafe
            clear hsafe
            go_wp2_with fail
            go_quiet ((go_at_call 157; exact Calls.quiet_of_same (CV.out _)))
            go_wp2
            go_ret3
            refine ⟨.inl ⟨s.data.toList.take k, v, ⟨x, HPA.out, by rw [← ext_take]; exact HNM.out, HV.out, HS.out⟩, ?_⟩, bdrew hbw _⟩
            rw [← ext_take, ← HVV.out]
            rfl
          · have CV : Hid (∀ n, Calls Tryz.prog 157 #[.string V] (wr.drewN n) fun e w' => e = .returned (.bool false) ∧ w' = wr.drewN n) := fun n => (sv.spec_any V _ hVs).mono fun e w' h => ⟨sv.says_false h.1 (by rw [hVl]; exact hsafe), h.2⟩
            have HN : Hid (¬ ∃ nm v, Field hn.IsName s.data.toList nm v) := no_value HPA.out (by
              rintro ⟨v', hv', hs'⟩
              rw [HV.out] at hv'
              cases hv'
              exact hsafe hs')
            clear hsafe
            go_wp2_with fail
            go_quiet ((go_at_call 157; exact Calls.quiet_of_same (CV.out _)))
            go_wp2
            go_ret3
            exact ⟨.inr ⟨HN.out, _, _, rfl⟩, bdrew hbw _⟩

end Go.Proofs.YtadfdfmebdcfgaaGreatDoor.uf

namespace Go.Proofs.YtadfdfmebdcfgaaGreatDoor.ml
open Go.RowKit
set_option linter.unusedVariables false

def preB (l : B) : Bool := l.take 2 == nl
def endB (l : B) (k : Nat) : Bool := preB (l.drop k) && !((l.drop (k + 2)).head? == some 32)
theorem preB_iff {l : B} : preB l = true ↔ Pre l := by unfold preB Pre; rw [beq_iff_eq]
theorem endB_iff {l : B} {k : Nat} : endB l k = true ↔ EndAt l k := by
  unfold endB EndAt
  rw [Bool.and_eq_true, preB_iff]
  unfold Pre
  simp
theorem preB_ext (s : ByteArray) (k : Nat) : ((s.extract k (k + 2)).toList == [13, 10]) = preB (s.data.toList.drop k) := by
  rw [Lib.toList_data, ext_list, show k + 2 - k = 2 from by omega]
  rfl
theorem preB_short {l : B} {k : Nat} (h : l.length < k + 2) : preB (l.drop k) = false := by
  rw [Bool.eq_false_iff]
  intro e
  have := len_end (preB_iff.1 e)
  omega
theorem head_drop (s : ByteArray) (k : Nat) (h : k < s.size) : (s.data.toList.drop k).head? = some s[k] := by
  rw [drop_at s k h]
  rfl
theorem head_beq (s : ByteArray) (k : Nat) (h : k < s.size) : ((s.data.toList.drop k).head? == some 32) = (((s[k]'h).toNat : Int) == 32) := by
  rw [head_drop s k h, Bool.eq_iff_iff, beq_iff_eq, beq_iff_eq, Option.some.injEq, ← UInt8.toNat_inj]
  show (s[k]).toNat = 32 ↔ _
  omega
theorem end_shift {l : B} {p j : Nat} : EndAt (l.drop p) j ↔ EndAt l (p + j) := by
  unfold EndAt
  rw [List.drop_drop, List.drop_drop, Nat.add_assoc]
/-- A box of another type stays where a row is appended to. -/
theorem box_grown {w w' : World} {g base e size n : Nat} {t : TypeId} {a b v : Value} {xs : List Value} (h : b2.Box w g t a b) (ho : w.ownsRow base e size v n xs) (hne : e ≠ t) (o : Obj) (hg : (w.alloc o).grownBy w' v.ownBlock) : b2.Box w' g t a b := by
  have hlt := h.lt
  have hk : some g ≠ v.ownBlock := by
    rcases ho.2 with ⟨rfl, _⟩ | ⟨k, cap, cur, rfl, hb, hc, _⟩
    · exact fun x => by cases x
    · intro x
      have e : g = k := by simpa [Value.ownBlock] using x
      subst e
      rw [h] at hc
      cases hc
      exact hne rfl
  unfold b2.Box
  rw [hg.block g (by simp; omega) hk, Below.heap_alloc _ _ _ hlt]
  exact h
theorem box_grown0 {w w' : World} {g base e size n : Nat} {t : TypeId} {a b v : Value} {xs : List Value} (h : b2.Box w g t a b) (ho : w.ownsRow base e size v n xs) (hne : e ≠ t) (hg : w.grownBy w' v.ownBlock) : b2.Box w' g t a b := by
  have hk : some g ≠ v.ownBlock := by
    rcases ho.2 with ⟨rfl, _⟩ | ⟨k, cap, cur, rfl, hb, hc, _⟩
    · exact fun x => by cases x
    · intro x
      have e : g = k := by simpa [Value.ownBlock] using x
      subst e
      rw [h] at hc
      cases hc
      exact hne rfl
  unfold b2.Box
  rw [hg.block g h.lt hk]
  exact h
theorem own_put0 {w : World} {g base e size n : Nat} {t : TypeId} {a b v u : Value} {xs : List Value} {j : Nat} (h : b2.Box w g t a b) (hne : e ≠ t) (ho : w.ownsRow base e size v n xs) : (w.setCell ⟨g, j, none⟩ u).ownsRow base e size v n xs := by
  obtain ⟨h1, h2⟩ := ho
  refine ⟨h1, ?_⟩
  rcases h2 with h2 | ⟨k, cap, cur, rfl, hk, hc, hd⟩
  · exact .inl h2
  · have hkg : k ≠ g := by
      intro ee
      subst ee
      rw [h] at hc
      cases hc
      exact hne rfl
    exact .inr ⟨k, cap, cur, rfl, hk, by rw [heap_setCell_other _ _ _ _ hkg]; exact hc, hd⟩

theorem empty_row (w : World) (t : TypeId) (k : Nat) : (w.alloc (.cells #[] t)).ownsRow w.heap.size t k (.slice (some ⟨w.heap.size, 0, none⟩) 0 0) 0 [] := by
  have h1 : (w.alloc (.cells #[] t)).heap[w.heap.size]? = some (.cells #[] t) := by
    show (w.heap.push (.cells #[] t))[w.heap.size]? = _
    simp
  exact ⟨by simp, .inr ⟨_, 0, #[], rfl, Nat.le_refl _, h1, Nat.le_refl _, by simp, by simp, by simp⟩⟩
theorem slice_form {w : World} {base e size n : Nat} {v : Value} {xs : List Value} (h : w.ownsRow base e size v n xs) : ∃ a cap, v = .slice a n cap := by
  rcases h.2 with ⟨rfl, h0⟩ | ⟨g, cap, cur, rfl, _⟩
  · exact ⟨none, 0, by rw [h0]⟩
  · exact ⟨_, cap, rfl⟩
/-- What the specification's parse answers. -/
def SpRet (l : B) (base : Nat) (e : Ending) (w' : World) : Prop :=
  (∃ fs b v, Par F fs l b ∧ fs.length ≤ 40 ∧ e = .returned (.tuple #[MV v b, .bool true]) ∧ FieldsAt w' base v fs) ∨
  ((¬ ∃ fs b, Par F fs l b ∧ fs.length ≤ 40) ∧ ∃ a n c b, e = .returned (.tuple #[.agg #[.slice a n c, .string b], .bool false]))

theorem step_app {P : Program} {ops : Array Oper} {o : Oper} {a : Act} {w : World} {K : Act → World → Prop} {Q : Exit → Act → World → Prop} {E : Prop}
    (hg : o.guard = none) (s x : Operand) (t : TypeId) (hop : o.op = Op.call { callee := Callee.builtin Builtin.append, args := #[s, x], argTypes := #[t, t] }) (ty : TypeId) (hty : o.type = ty)
    (v u : Value) (hs : a.eval s = v) (hx : a.eval x = u) (W0 : World) (hw : w = W0) {v' : Value} {w' : World} (hr : (Builtin.append_ #[t, t] ty #[v, u]).run P W0 = .ok v' w') (hK : K (a.put o.dst v') w') :
    if Region.wanted o (yielded ops a.tmps) = true then Oper.wp P o a w K Q else E := by
  subst hw hty
  have hw : Region.wanted o (yielded ops a.tmps) = true := by simp [Region.wanted, hg]
  rw [if_pos hw]
  unfold Oper.wp
  simp [execOp, hop, resolve, invoke, builtin, hs, hx, hr, Result.andThen]
  exact hK

/-- The state between two fields. -/
def St (w wr : World) (v : Value) (fs : List (B × B)) : Prop :=
  b2.Box wr (w.heap.size + 1 + 1) 54 v (.string ⟨#[]⟩) ∧ b2.Box wr w.heap.size 54 (.slice none 0 0) (.string ⟨#[]⟩) ∧ FieldsAt wr w.heap.size v fs ∧ Below w.heap.size w wr
theorem St.below {w wr W : World} {v : Value} {fs : List (B × B)} (h : St w wr v fs) (hb : Below wr.heap.size wr W) : St w W v fs :=
  ⟨h.1.below hb, h.2.1.below hb, ow.own_below h.2.2.1 hb, h.2.2.2.trans (hb.mono h.2.2.2.size)⟩

set_option maxHeartbeats 8000000 in
set_option maxRecDepth 100000 in
theorem specParse_any (s : ByteArray) (w : World) (hs : s.size ≤ 1048576) :
    Calls Tryz.prog 73 #[.string s] w fun e w' => SpRet s.data.toList w.heap.size e w' ∧ Below w.heap.size w w' := by
  obtain ⟨i0, hi, hz0, hz1, hz2⟩ := info_parts infoField
  have hs' : (s.size : Int) ≤ 1048576 := by omega
  go_enter Tryz.func73, Tryz.ntmps73
  go_wp2
  go_loopw [5] (fun i wr => ∃ (p : Nat) (fs : List (B × B)) (v : Value), i = .int .i64 p ∧ p ≤ s.size ∧ St w wr v fs ∧ fs.length ≤ 40 ∧ Run F fs s.data.toList (s.data.toList.drop p)) (fun i _ => s.size - (intOf i).toNat)
  case atStart =>
    have hz1 : (w.alloc (.cells #[.slice none 0 0, .string ⟨#[]⟩] 54)).heap.size = w.heap.size + 1 := by simp
    refine ⟨0, [], .slice (some ⟨w.heap.size + 1, 0, none⟩) 0 0, rfl, Nat.zero_le _, ⟨?_, ?_, ?_, ?_⟩, by simp, rfl⟩
    · have := b2.new ((w.alloc (.cells #[.slice none 0 0, .string ⟨#[]⟩] 54)).alloc (.cells #[] 81)) 54 (.slice (some ⟨w.heap.size + 1, 0, none⟩) 0 0) (.string ⟨#[]⟩)
      simpa using this
    · exact ((b2.new w 54 (.slice none 0 0) (.string ⟨#[]⟩)).below ((Below.refl _ _).alloc (Nat.le_refl _) _)).below ((Below.refl _ _).alloc (Nat.le_refl _) _)
    · have h1 := empty_row (w.alloc (.cells #[.slice none 0 0, .string ⟨#[]⟩] 54)) 81 2
      rw [hz1] at h1
      exact ow.own_base (ow.own_below h1 ((Below.refl _ _).alloc (Nat.le_refl _) _)) (Nat.le_succ _)
    · exact (((Below.refl _ w).alloc (Nat.le_refl _) _).alloc (by simp) _).alloc (by simp; omega) _
  case round =>
    obtain ⟨p, fs, v, rfl, hp, hst, hfl, hrun⟩ := hrel
    have HST : Hid (St w wr v fs) := hst
    have HRUN : Hid (Run F fs s.data.toList (s.data.toList.drop p)) := hrun
    obtain ⟨a, cap, rfl⟩ := fields_form hst.2.2.1
    have hlen : s.data.toList.length = s.size := (Lib.size_eq s).symm
    have HLEN : Hid (s.data.toList.length = s.size) := hlen
    have hsz := hst.2.2.2.size
    have hp0 : (0 : Int) ≤ (p : Int) := by omega
    have hp1 : (p : Int) ≤ (s.size : Int) := by omega
    clear hst hrun hlen
    go_upto_region 3 with fail
    go_cut [24] (fun t wx => t = .bool (preB (s.data.toList.drop p)) ∧ wx = wr)
    case first =>
      by_cases h2 : p + 2 ≤ s.size
      · have h2' : (p : Int) + 2 ≤ (s.size : Int) := by omega
        have h2d : decide ((p : Int) + 2 ≤ (s.size : Int)) = true := decide_eq_true h2'
        have hsl := ow.slice_str (P := Tryz.prog) 9 s .i64 .i64 p (p + 2) Tryz.underlying9 (p : Int) ((p : Int) + 2) rfl (by omega) (by omega) h2
        have hx := preB_ext s p
        obtain ⟨X, hX⟩ : ∃ X, X = preB (s.data.toList.drop p) := ⟨_, rfl⟩
        rw [← hX] at hx
        have HX : Hid (X = preB (s.data.toList.drop p)) := hX
        clear hX
        go_wp2_with fail
        go_meet
        exact ⟨by rw [HX.out], rfl⟩
      · have h2d : decide ((p : Int) + 2 ≤ (s.size : Int)) = false := decide_eq_false (by omega)
        have HX : Hid (preB (s.data.toList.drop p) = false) := (show preB _ = false from preB_short (by rw [HLEN.out]; omega))
        go_wp2_with fail
        go_meet
        exact ⟨by rw [HX.out], rfl⟩
    case rest =>
      obtain ⟨rfl, rfl⟩ := hcut
      go_at_K
      cases hpb : preB (s.data.toList.drop p) with
      | true =>
        have HPB : Hid (Pre (s.data.toList.drop p)) := preB_iff.1 hpb
        clear hpb
        have hp2 : p + 2 ≤ s.size := by have := len_end (k := p) HPB.out; rw [HLEN.out] at this; exact this
        have hp2' : (p : Int) + 2 ≤ (s.size : Int) := by omega
        have c0 := HST.out.1.c0
        have c1 := HST.out.1.c1
        have f1 := HST.out.1.f 1
        go_upto_region 5 with fail
        have L1 := HST.out.1.put1 (.string (s.extract (p + 2) s.size))
        have r1 : b2.Box (wc.setCell ⟨w.heap.size + 1 + 1, 1, none⟩ (.string (s.extract (p + 2) s.size))) w.heap.size 54 (.slice none 0 0) (.string ⟨#[]⟩) := (heap_setCell_other _ _ _ _ (show w.heap.size ≠ w.heap.size + 1 + 1 by omega)).trans HST.out.2.1
        have o1 : FieldsAt (wc.setCell ⟨w.heap.size + 1 + 1, 1, none⟩ (.string (s.extract (p + 2) s.size))) w.heap.size (.slice a fs.length cap) fs := own_put0 HST.out.1 (by decide) HST.out.2.2.1
        have bb1 : Below w.heap.size w (wc.setCell ⟨w.heap.size + 1 + 1, 1, none⟩ (.string (s.extract (p + 2) s.size))) := HST.out.2.2.2.setCell (p := ⟨w.heap.size + 1 + 1, 1, none⟩) (show w.heap.size ≤ w.heap.size + 1 + 1 by omega) _
        clear c0 c1 f1
        generalize hX : World.setCell _ _ _ = X at L1 r1 o1 bb1 ⊢
        clear hX
        have c0 := L1.c0
        have c1 := L1.c1
        have e0 := r1.c0
        have e1 := r1.c1
        have g0 := r1.f 0
        have g1 := r1.f 1
        have HO : Hid (FieldsAt X w.heap.size (.slice a fs.length cap) fs) := o1
        have HR1 : Hid (b2.Box X w.heap.size 54 (.slice none 0 0) (.string ⟨#[]⟩)) := r1
        have HBB : Hid (Below w.heap.size w X) := bb1
        clear L1 r1 o1 bb1
        generalize hln : fs.length = ln at *
        go_wp2
        have L2 := HR1.out.put (a' := .slice a ln cap) (b' := .string (s.extract (p + 2) s.size))
        have b3 := b2.put_below (a := .slice a ln cap) (b := .string (s.extract (p + 2) s.size)) HBB.out (Nat.le_refl _)
        have o3 : FieldsAt (b2.put X w.heap.size (.slice a ln cap) (.string (s.extract (p + 2) s.size))) w.heap.size (.slice a ln cap) fs := b2.own_put HR1.out (by decide) HO.out
        clear c0 c1 e0 e1 g0 g1
        unfold b2.put at L2 b3 o3
        generalize hY : World.setCell _ _ _ = Y at L2 b3 o3 ⊢
        clear hY
        have c0 := L2.c0
        have c1 := L2.c1
        have eb : tv (s.data.toList.drop (p + 2)) = .string (s.extract (p + 2) s.size) := by
          unfold tv
          rw [← ext_tail, ← mk_list]
        have HPA : Hid (Par F fs s.data.toList (s.data.toList.drop (p + 2))) := (show Par _ _ _ _ from ⟨_, HRUN.out, HPB.out, by rw [List.drop_drop]⟩)
        refine bodyPost_ret (v := .tuple #[MV (.slice a ln cap) (s.data.toList.drop (p + 2)), .bool true]) (by simp [results, Tryz.results73, go_sem, MV, eb, c0, c1]) rfl ⟨.inl ⟨fs, _, _, HPA.out, by omega, rfl, o3⟩, b3⟩
      | false =>
        have HNP : Hid (¬ Pre (s.data.toList.drop p)) := (show ¬ _ from fun h => by rw [preB_iff.2 h] at hpb; cases hpb)
        clear hpb
        go_wp2_with fail
        go_loop [6] (fun q => ∃ k : Nat, q = .int .i64 k ∧ p ≤ k ∧ k ≤ s.size ∧ ∀ j, p ≤ j → j < k → ¬ EndAt s.data.toList j) (fun q => s.size - (intOf q).toNat)
        case atStart => exact ⟨p, rfl, Nat.le_refl _, hp, fun j h1 h2 => by omega⟩
        case round =>
          obtain ⟨k, rfl, hpk, hks, hno⟩ := hrel
          have HNO : Hid (∀ j, p ≤ j → j < k → ¬ EndAt s.data.toList j) := hno
          clear hno
          obtain ⟨E, hE⟩ : ∃ E, E = endB s.data.toList k := ⟨_, rfl⟩
          have HE : Hid (E = endB s.data.toList k) := hE
          clear hE
          go_upto_region 7 with fail
          go_cut [59] (fun t wx => t = .bool (decide (k + 1 < s.size) && !E) ∧ wx = wc)
          case first =>
            by_cases h1 : k + 1 < s.size
            · have h1' : (k : Int) + 1 < (s.size : Int) := by omega
              have h1d : decide ((k : Int) + 1 < (s.size : Int)) = true := decide_eq_true h1'
              have hsl := ow.slice_str (P := Tryz.prog) 9 s .i64 .i64 k (k + 2) Tryz.underlying9 (k : Int) ((k : Int) + 2) rfl (by omega) (by omega) (by omega)
              have hx := preB_ext s k
              obtain ⟨X, hX⟩ : ∃ X, X = preB (s.data.toList.drop k) := ⟨_, rfl⟩
              rw [← hX] at hx
              have hEX : E = (X && !((s.data.toList.drop (k + 2)).head? == some 32)) := by rw [HE.out, hX]; rfl
              clear hX
              cases X with
              | false =>
                have HR : Hid ((decide (k + 1 < s.size) && !E) = true) := (show _ = _ by rw [hEX, decide_eq_true h1]; rfl)
                clear hEX
                go_wp2_with fail
                go_meet
                exact ⟨by rw [HR.out], rfl⟩
              | true =>
                by_cases h2 : k + 2 = s.size
                · have h2d : (((k : Int) + 2) == (s.size : Int)) = true := beq_iff_eq.2 (by omega)
                  have HR : Hid ((decide (k + 1 < s.size) && !E) = false) := (show _ = _ by rw [hEX, decide_eq_true h1, drop_end s (k + 2) (by omega)]; rfl)
                  clear hEX h2
                  go_wp2_with fail
                  go_meet
                  exact ⟨by rw [HR.out], rfl⟩
                · have h2d : (((k : Int) + 2) == (s.size : Int)) = false := beq_eq_false_iff_ne.2 (by omega)
                  have h3 : k + 2 < s.size := by omega
                  have h3' : (k : Int) + 2 < (s.size : Int) := by omega
                  rw [head_beq s (k + 2) h3] at hEX
                  by_cases h32 : ((s[k + 2]'h3).toNat : Int) = 32
                  · have d32 : (((s[k + 2]'h3).toNat : Int) != 32) = false := by simp [h32]
                    have HR : Hid ((decide (k + 1 < s.size) && !E) = true) := (show _ = _ by rw [hEX, decide_eq_true h1, h32]; rfl)
                    clear hEX h32
                    go_wp2_with fail
                    go_meet
                    exact ⟨by rw [HR.out], rfl⟩
                  · have d32 : (((s[k + 2]'h3).toNat : Int) != 32) = true := by simp [h32]
                    have HR : Hid ((decide (k + 1 < s.size) && !E) = false) := (show _ = _ by rw [hEX, decide_eq_true h1, beq_eq_false_iff_ne.2 h32]; rfl)
                    clear hEX h32
                    go_wp2_with fail
                    go_meet
                    exact ⟨by rw [HR.out], rfl⟩
            · have h1d : decide ((k : Int) + 1 < (s.size : Int)) = false := decide_eq_false (by omega)
              have HR : Hid ((decide (k + 1 < s.size) && !E) = false) := (show _ = _ by rw [decide_eq_false h1]; rfl)
              go_wp2_with fail
              go_meet
              exact ⟨by rw [HR.out], rfl⟩
          case rest =>
            obtain ⟨rfl, rfl⟩ := hcut
            go_at_K
            cases hgo : (decide (k + 1 < s.size) && !E) with
            | true =>
              rw [Bool.and_eq_true, decide_eq_true_iff] at hgo
              have HNE : Hid (¬ EndAt s.data.toList k) := (show ¬ _ from fun h => by have := hgo.2; rw [HE.out, endB_iff.2 h] at this; cases this)
              have hk1 : k + 1 < s.size := hgo.1
              clear hgo
              go_wp2
              go_round
              case rel => exact ⟨k + 1, by go_num, by omega, by omega, fun j h1 h2 => by
                by_cases e : j = k
                · subst e; exact HNE.out
                · exact HNO.out j h1 (by omega)⟩
              case measure => simp [intOf]; omega
            | false =>
              have HSTOP : Hid (k + 1 < s.size → EndAt s.data.toList k) := fun h => by
                rw [decide_eq_true h, Bool.true_and] at hgo
                apply endB_iff.1
                rw [← HE.out]
                cases E
                · cases hgo
                · rfl
              clear hgo
              by_cases hk2 : k + 2 ≤ s.size
              case neg =>
                have hk2' : (s.size : Int) < (k : Int) + 2 := by omega
                have HBAD : Hid (¬ ∃ fs b, Par F fs s.data.toList b ∧ fs.length ≤ 40) := no_par F_one HRUN.out HNP.out (.inr (fun f q ⟨j, _, _, hEj, _⟩ => by
                  exfalso
                  have h1 := len_end hEj.1
                  rw [end_shift] at hEj
                  rw [List.length_drop, HLEN.out] at h1
                  by_cases hj : p + j < k
                  · exact HNO.out _ (by omega) hj hEj
                  · omega))
                have c0 := HST.out.1.c0
                have c1 := HST.out.1.c1
                have e0 := HST.out.2.1.c0
                have e1 := HST.out.2.1.c1
                have g0 := HST.out.2.1.f 0
                have g1 := HST.out.2.1.f 1
                generalize hln : fs.length = ln at *
                go_wp2
                have L2 := HST.out.2.1.put (a' := .slice a ln cap) (b' := .string ⟨#[]⟩)
                have b3 := b2.put_below (a := .slice a ln cap) (b := .string ⟨#[]⟩) HST.out.2.2.2 (Nat.le_refl _)
                clear c0 c1 e0 e1 g0 g1
                unfold b2.put at L2 b3
                generalize hY : World.setCell _ _ _ = Y at L2 b3 ⊢
                clear hY
                have c0 := L2.c0
                have c1 := L2.c1
                refine bodyPost_ret (v := .tuple #[.agg #[.slice a ln cap, .string ⟨#[]⟩], .bool false]) (by simp [results, Tryz.results73, go_sem, c0, c1]) rfl ⟨.inr ⟨HBAD.out, _, _, _, _, rfl⟩, b3⟩
              have hk2' : (k : Int) + 2 ≤ (s.size : Int) := by omega
              have hEk := HSTOP.out (by omega)
              have HCH : Hid (Chunk (s.data.toList.drop p) (s.extract p (k + 2)).data.toList (s.data.toList.drop (k + 2))) := (show Chunk _ _ _ from ⟨k - p, by rw [ext_list]; congr 1; omega, by rw [List.drop_drop]; congr 1; omega, end_shift.2 (by rw [show p + (k - p) = k from by omega]; exact hEk), fun j hj hEj => HNO.out (p + j) (by omega) (by omega) (end_shift.1 hEj)⟩)
              clear hEk
              have hsl := ow.slice_str (P := Tryz.prog) 9 s .i64 .i64 p (k + 2) Tryz.underlying9 (p : Int) ((k : Int) + 2) rfl (by omega) (by omega) hk2
              have hes : (s.extract p (k + 2)).size ≤ 1048576 := by rw [ext_size _ _ _ hk2]; omega
              generalize hT : s.extract p (k + 2) = T at hsl hes HCH
              clear hT
              go_wp2_with fail
              refine (uf.specUn_any T wc hes).mono ?_
              rintro e w2 ⟨hur, hb2⟩
              have HS2 : Hid (St w w2 (.slice a fs.length cap) fs) := HST.out.below hb2
              clear hb2
              rcases hur with ⟨nm, v, hf, rfl⟩ | ⟨hno, x, y, rfl⟩
              · have HFF : Hid (F T.data.toList nm v) := hf
                clear hf
                have c0 := HS2.out.1.c0
                have c1 := HS2.out.1.c1
                have m0 := HS2.out.1.f 0
                by_cases h40 : fs.length = 40
                · have d40 : ((fs.length : Int) == 40) = true := beq_iff_eq.2 (by omega)
                  have HBAD : Hid (¬ ∃ fs b, Par F fs s.data.toList b ∧ fs.length ≤ 40) := no_par F_one HRUN.out HNP.out (.inl h40)
                  clear h40
                  have e0 := HS2.out.2.1.c0
                  have e1 := HS2.out.2.1.c1
                  have g0 := HS2.out.2.1.f 0
                  have g1 := HS2.out.2.1.f 1
                  generalize hln : fs.length = ln at *
                  go_wp2
                  have L2 := HS2.out.2.1.put (a' := .slice a ln cap) (b' := .string ⟨#[]⟩)
                  have b3 := b2.put_below (a := .slice a ln cap) (b := .string ⟨#[]⟩) HS2.out.2.2.2 (Nat.le_refl _)
                  clear c0 c1 e0 e1 g0 g1
                  unfold b2.put at L2 b3
                  generalize hY : World.setCell _ _ _ = Y at L2 b3 ⊢
                  clear hY
                  have c0 := L2.c0
                  have c1 := L2.c1
                  refine bodyPost_ret (v := .tuple #[.agg #[.slice a ln cap, .string ⟨#[]⟩], .bool false]) (by simp [results, Tryz.results73, go_sem, c0, c1]) rfl ⟨.inr ⟨HBAD.out, _, _, _, _, rfl⟩, b3⟩
                · have d40 : ((fs.length : Int) == 40) = false := beq_eq_false_iff_ne.2 (by omega)
                  generalize hnb' : (⟨nm.toArray⟩ : ByteArray) = NM
                  generalize hvb' : (⟨v.toArray⟩ : ByteArray) = VV
                  have HNM : Hid (tv nm = .string NM ∧ tv v = .string VV) := (show _ ∧ _ by rw [← hnb', ← hvb']; exact ⟨rfl, rfl⟩)
                  clear hnb' hvb'
                  have hown : w2.ownsRow w.heap.size 81 2 (.slice a fs.length cap) fs.length (fcells fs) := HS2.out.2.2.1
                  have hsz2 := HS2.out.2.2.2.size
                  have hmlt : w.heap.size + 1 + 1 < w2.heap.size := HS2.out.1.lt
                  have HRUN2 : Hid (Run F (fs ++ [(nm, v)]) s.data.toList (s.data.toList.drop (k + 2))) := run_snoc HRUN.out HNP.out HCH.out HFF.out
                  go_upto_region 14 with fail
                  go_wp2_with (at_builtin; go_loud (refine wpList_append_own _ rfl _ _ 40 rfl w.heap.size 81 i0 _ 2 32 Tryz.underlying40 hi hz0 hz1 hz2 rfl (by decide) _ _ _ rfl (hown.alloc _) ⟨w2.heap.size, 0, none⟩ 1 1 [Value.string NM, Value.string VV] rfl rfl (by have hh := ow.cells_new w2 [Value.string NM, Value.string VV] 81; simpa using hh) (by simp [Value.oneCell']) (by unfold maxLen; omega) (by omega) (by simp; omega) ?_); intro v' w3 T3 g3 _; obtain ⟨aN, capN, rfl⟩ := slice_form T3; have X3 : b2.Box w3 (w.heap.size + 1 + 1) 54 (.slice a fs.length cap) (.string ⟨#[]⟩) := box_grown HS2.out.1 hown (by decide) _ g3; have d2 := X3.c0; have f2 := X3.f 0)
                  have F3 : FieldsAt w3 w.heap.size (.slice aN (fs.length + 1) capN) (fs ++ [(nm, v)]) := by
                    unfold FieldsAt
                    rw [fcells_snoc, List.length_append, HNM.out.1, HNM.out.2]
                    exact T3
                  have Y3 : b2.Box w3 w.heap.size 54 (.slice none 0 0) (.string ⟨#[]⟩) := box_grown HS2.out.2.1 hown (by decide) _ g3
                  have B3 : Below w.heap.size w w3 := Below.grown (HS2.out.2.2.2.alloc hsz2 _) g3 (by simp; omega) (ow.own_lt hown)
                  have S4 : St w (w3.setCell ⟨w.heap.size + 1 + 1, 0, none⟩ (.slice aN (fs.length + 1) capN)) (.slice aN (fs.length + 1) capN) (fs ++ [(nm, v)]) :=
                    ⟨X3.put0 _, (heap_setCell_other _ _ _ _ (show w.heap.size ≠ w.heap.size + 1 + 1 by omega)).trans Y3, own_put0 X3 (by decide) F3, B3.setCell (p := ⟨w.heap.size + 1 + 1, 0, none⟩) (show w.heap.size ≤ w.heap.size + 1 + 1 by omega) _⟩
                  have HS4 : Hid (St w (w3.setCell ⟨w.heap.size + 1 + 1, 0, none⟩ (.slice aN (fs.length + 1) capN)) (.slice aN (fs.length + 1) capN) (fs ++ [(nm, v)])) := S4
                  clear g3 T3 F3 X3 Y3 B3 S4 hown c0 c1 m0
                  go_roundw
                  case rel => exact ⟨k + 2, fs ++ [(nm, v)], _, by go_num, by omega, HS4.out, by simp; omega, HRUN2.out⟩
                  case measure => simp [intOf]; omega
              · have HBAD : Hid (¬ ∃ fs b, Par F fs s.data.toList b ∧ fs.length ≤ 40) := no_par F_one HRUN.out HNP.out (.inr (fun f q hc => by
                  obtain ⟨rfl, rfl⟩ := chunk_one HCH.out hc
                  exact hno))
                clear hno
                have c0 := HS2.out.1.c0
                have c1 := HS2.out.1.c1
                have e0 := HS2.out.2.1.c0
                have e1 := HS2.out.2.1.c1
                have g0 := HS2.out.2.1.f 0
                have g1 := HS2.out.2.1.f 1
                generalize hln : fs.length = ln at *
                go_wp2
                have L2 := HS2.out.2.1.put (a' := .slice a ln cap) (b' := .string ⟨#[]⟩)
                have b3 := b2.put_below (a := .slice a ln cap) (b := .string ⟨#[]⟩) HS2.out.2.2.2 (Nat.le_refl _)
                clear c0 c1 e0 e1 g0 g1
                unfold b2.put at L2 b3
                generalize hY : World.setCell _ _ _ = Y at L2 b3 ⊢
                clear hY
                have c0 := L2.c0
                have c1 := L2.c1
                refine bodyPost_ret (v := .tuple #[.agg #[.slice a ln cap, .string ⟨#[]⟩], .bool false]) (by simp [results, Tryz.results73, go_sem, c0, c1]) rfl ⟨.inr ⟨HBAD.out, _, _, _, _, rfl⟩, b3⟩
end Go.Proofs.YtadfdfmebdcfgaaGreatDoor.ml

namespace Go.Proofs.YtadfdfmebdcfgaaGreatDoor.ml
open Go.RowKit
set_option linter.unusedVariables false

set_option maxHeartbeats 4000000 in
set_option maxRecDepth 100000 in
theorem specMail_any (s : ByteArray) (w : World) (hs : s.size ≤ 1048576) :
    Calls Tryz.prog 28 #[.string s] w fun e w' => RlRet s.data.toList w.heap.size e w' ∧ Below w.heap.size w w' := by
  by_cases hl : s.size ≤ 65536
  case neg =>
    have hl' : (65536 : Int) < (s.size : Int) := by omega
    go_enter Tryz.func28, Tryz.ntmps28
    go_wp2
    refine bodyPost_ret (v := .tuple #[noMV, .int .i64 2]) (by simp [results, Tryz.results28, go_sem, noMV]) rfl ⟨.inl ⟨by rw [← Lib.size_eq]; omega, rfl⟩, ?_⟩
    exact (Below.refl _ w).alloc (Nat.le_refl _) _
  have hl' : (s.size : Int) ≤ 65536 := by omega
  have HL : Hid (s.data.toList.length ≤ 65536) := (show _ ≤ _ by rw [← Lib.size_eq]; exact hl)
  have HOK : Hid (∀ W, Calls Tryz.prog 72 #[.string s] W fun e w' => e = .returned (.bool (mok 0 s.data.toList)) ∧ w' = W) := fun W => by
    have := spec_mok s W (by unfold maxLen; omega)
    rwa [decide_eq_true hl, Bool.true_and] at this
  go_enter Tryz.func28, Tryz.ntmps28
  go_wp2_with fail
  generalize hW0 : World.alloc _ _ = W0
  have L0 : b2.Box W0 w.heap.size 54 (.slice none 0 0) (.string ⟨#[]⟩) := by rw [← hW0]; exact b2.new _ _ _ _
  have b0 : Below w.heap.size w W0 := by rw [← hW0]; exact (Below.refl _ w).alloc (Nat.le_refl _) _
  clear hW0
  have HB0 : Hid (Below w.heap.size w W0) := b0
  have HL0 : Hid (b2.Box W0 w.heap.size 54 (.slice none 0 0) (.string ⟨#[]⟩)) := L0
  have HO0 := HOK.out W0
  clear b0 HOK
  cases hmk : mok 0 s.data.toList with
  | false =>
    rw [hmk] at HO0
    have HNO : Hid (¬ ∃ fs b, IsMail s.data.toList fs b) := (show ¬ _ from fun ⟨fs, b, h⟩ => by have := h.1; rw [hmk] at this; cases this)
    clear hmk
    refine HO0.mono ?_
    rintro e w1 ⟨rfl, rfl⟩
    have c0 := L0.c0
    have c1 := L0.c1
    have f0 := L0.f 0
    have f1 := L0.f 1
    clear HO0 L0
    go_wp2
    have L2 := HL0.out.put (a' := .slice none 0 0) (b' := .string ⟨#[]⟩)
    have b3 := b2.put_below (a := .slice none 0 0) (b := .string ⟨#[]⟩) HB0.out (Nat.le_refl _)
    clear c0 c1 f0 f1
    unfold b2.put at L2 b3
    generalize hX : World.setCell _ _ _ = X at L2 b3 ⊢
    clear hX
    have c0 := L2.c0
    have c1 := L2.c1
    refine bodyPost_ret (v := .tuple #[noMV, .int .i64 3]) (by simp [results, Tryz.results28, go_sem, noMV, c0, c1]) rfl ⟨.inr (.inl ⟨HL.out, HNO.out, rfl⟩), b3⟩
  | true =>
    rw [hmk] at HO0
    have HMK : Hid (mok 0 s.data.toList = true) := hmk
    clear hmk
    refine HO0.mono ?_
    rintro e w1 ⟨rfl, rfl⟩
    clear HO0 L0
    go_wp2_with fail
    refine (specParse_any s _ hs).mono ?_
    rintro e w2 ⟨hr, hb2⟩
    have hz : w.heap.size ≤ w1.heap.size := HB0.out.size
    have HB2 : Hid (Below w.heap.size w w2) := HB0.out.trans (hb2.mono hz)
    have HL2 : Hid (b2.Box w2 w.heap.size 54 (.slice none 0 0) (.string ⟨#[]⟩)) := HL0.out.below hb2
    clear hb2
    rcases hr with ⟨fs, b, v, hpar, hfl, rfl, hfa⟩ | ⟨hno, a, n, c, b, rfl⟩
    · have HP : Hid (IsMail s.data.toList fs b) := (show IsMail _ _ _ from ⟨HMK.out, hpar, hfl⟩)
      obtain ⟨a, cap, rfl⟩ := fields_form hfa
      have HFA : Hid (FieldsAt w2 w.heap.size (.slice a fs.length cap) fs) := ow.own_base hfa hz
      clear hpar hfl hfa
      unfold MV
      generalize hln : fs.length = ln at *
      generalize htb : tv b = tb
      have htb' : ∃ T : ByteArray, tb = .string T := ⟨_, htb.symm⟩
      obtain ⟨T, rfl⟩ := htb'
      have HTB : Hid (tv b = .string T) := htb
      clear htb
      have L3 : b2.Box (w2.alloc (.cells #[.slice a ln cap, .string T] 54)) w.heap.size 54 (.slice none 0 0) (.string ⟨#[]⟩) := HL2.out.below ((Below.refl _ _).alloc (Nat.le_refl _) _)
      have c0 := L3.c0
      have c1 := L3.c1
      have f0 := L3.f 0
      have f1 := L3.f 1
      have HL3 : Hid (b2.Box (w2.alloc (.cells #[.slice a ln cap, .string T] 54)) w.heap.size 54 (.slice none 0 0) (.string ⟨#[]⟩)) := L3
      clear L3
      go_wp2
      have L4 := HL3.out.put (a' := .slice a ln cap) (b' := .string T)
      have b4 := b2.put_below (a := .slice a ln cap) (b := .string T) (HB2.out.alloc HB2.out.size (.cells #[.slice a ln cap, .string T] 54)) (Nat.le_refl _)
      have o4 : FieldsAt (b2.put (w2.alloc (.cells #[.slice a ln cap, .string T] 54)) w.heap.size (.slice a ln cap) (.string T)) w.heap.size (.slice a ln cap) fs := b2.own_put HL3.out (by decide) (ow.own_below HFA.out ((Below.refl _ _).alloc (Nat.le_refl _) _))
      clear c0 c1 f0 f1
      unfold b2.put at L4 b4 o4
      generalize hX : World.setCell _ _ _ = X at L4 b4 o4 ⊢
      clear hX
      have c0 := L4.c0
      have c1 := L4.c1
      refine bodyPost_ret (v := .tuple #[MV (.slice a ln cap) b, .int .i64 0]) (by simp [results, Tryz.results28, go_sem, MV, HTB.out, c0, c1]) rfl ⟨.inr (.inr ⟨HL.out, fs, _, _, HP.out, rfl, o4⟩), b4⟩
    · have HNO : Hid (¬ ∃ fs b, IsMail s.data.toList fs b) := (show ¬ _ from fun ⟨fs, b, h⟩ => hno ⟨fs, b, h.2.1, h.2.2⟩)
      clear hno
      have L3 : b2.Box (w2.alloc (.cells #[.slice a n c, .string b] 54)) w.heap.size 54 (.slice none 0 0) (.string ⟨#[]⟩) := HL2.out.below ((Below.refl _ _).alloc (Nat.le_refl _) _)
      have c0 := L3.c0
      have c1 := L3.c1
      have f0 := L3.f 0
      have f1 := L3.f 1
      have HL3 : Hid (b2.Box (w2.alloc (.cells #[.slice a n c, .string b] 54)) w.heap.size 54 (.slice none 0 0) (.string ⟨#[]⟩)) := L3
      clear L3
      go_wp2
      have L4 := HL3.out.put (a' := .slice none 0 0) (b' := .string ⟨#[]⟩)
      have b4 := b2.put_below (a := .slice none 0 0) (b := .string ⟨#[]⟩) (HB2.out.alloc HB2.out.size (.cells #[.slice a n c, .string b] 54)) (Nat.le_refl _)
      clear c0 c1 f0 f1
      unfold b2.put at L4 b4
      generalize hX : World.setCell _ _ _ = X at L4 b4 ⊢
      clear hX
      have c0 := L4.c0
      have c1 := L4.c1
      refine bodyPost_ret (v := .tuple #[noMV, .int .i64 3]) (by simp [results, Tryz.results28, go_sem, noMV, c0, c1]) rfl ⟨.inr (.inl ⟨HL.out, HNO.out, rfl⟩), b4⟩

/-- How many ends of lines a text has. -/
def tens (l : B) : Nat := (l.filter (· == 10)).length
theorem tens_app (a b : B) : tens (a ++ b) = tens a + tens b := by simp [tens]
theorem tens_good {l : B} (h : good l = true) : tens l = 0 := by
  unfold tens
  rw [List.length_eq_zero_iff, List.filter_eq_nil_iff]
  intro c hc h10
  have := good_iff.1 h c hc
  rw [beq_iff_eq] at h10
  subst h10
  cases this
theorem count_tens : ∀ (n : Nat) (l : B), l.length ≤ n → mok 0 l = true → Lib.count l nl = tens l
  | n, l, hn, hm => by
    rcases Lib.index_spec l nl with ⟨h, _⟩ | ⟨i, h, _⟩
    · by_cases h0 : l = []
      · subst h0
        rw [Lib.count_miss h]
        rfl
      · rw [mok_none l 0 h (.inr h0)] at hm
        cases hm
    · have hr := Lib.index_room l nl (by rw [h]; omega)
      rw [h] at hr
      have e2 : nl.length = 2 := rfl
      match n with
      | 0 => omega
      | n + 1 =>
        rw [mok_zero h, Bool.and_eq_true, decide_eq_true_iff] at hm
        have ih := count_tens n (l.drop (i + 2)) (by rw [List.length_drop]; omega) hm.2
        have hc := Lib.count_hit (s := l) (sub := nl) (i := i) (by simp [nl]) h
        have hs : l = l.take i ++ (nl ++ l.drop (i + 2)) := by
          have h1 := List.take_append_drop i l
          have h2 := List.take_append_drop 2 (l.drop i)
          rw [(index_at h).1, List.drop_drop] at h2
          rw [h2, h1]
        rw [hc, show i + nl.length = i + 2 from rfl, ih]
        have : tens l = tens (l.take i ++ (nl ++ l.drop (i + 2))) := by rw [← hs]
        rw [this, tens_app, tens_app, tens_good hm.1.1]
        show _ = 0 + (1 + _)
        omega
theorem tens_take (s : ByteArray) (k : Nat) (h : k < s.size) : tens (s.data.toList.take (k + 1)) = tens (s.data.toList.take k) + (if ((s[k]'h).toNat : Int) = 10 then 1 else 0) := by
  rw [take_snoc s k h, tens_app]
  congr 1
  by_cases e : ((s[k]'h).toNat : Int) = 10
  · rw [if_pos e, is_byte (n := 10) (by decide) e]
    rfl
  · rw [if_neg e]
    unfold tens
    rw [List.length_eq_zero_iff, List.filter_eq_nil_iff]
    intro c hc
    rw [List.mem_singleton] at hc
    subst hc
    intro h10
    rw [beq_iff_eq] at h10
    rw [h10] at e
    exact e rfl
theorem tens_le (l : B) : tens l ≤ l.length := List.length_filter_le _ _
def MlRet (l : B) (e : Ending) : Prop :=
  (65536 < l.length ∧ e = .returned (.tuple #[.int .i64 0, .int .i64 2])) ∨
  (l.length ≤ 65536 ∧ (¬ ∃ fs b, IsMail l fs b) ∧ e = .returned (.tuple #[.int .i64 0, .int .i64 3])) ∨
  (l.length ≤ 65536 ∧ ∃ fs b, IsMail l fs b ∧ e = .returned (.tuple #[.int .i64 (tens b : Nat), .int .i64 0]))
theorem ml_ex {l : B} {e : Ending} (h : MlRet l e) : ∃ a c : Int, e = .returned (.tuple #[.int .i64 a, .int .i64 c]) := by
  rcases h with ⟨_, rfl⟩ | ⟨_, _, rfl⟩ | ⟨_, _, _, _, rfl⟩ <;> exact ⟨_, _, rfl⟩
theorem ml_same {l : B} {a c a' c' : Int} (h : MlRet l (.returned (.tuple #[.int .i64 a, .int .i64 c]))) (h' : MlRet l (.returned (.tuple #[.int .i64 a', .int .i64 c']))) : a = a' ∧ c = c' := by
  rcases h with ⟨x, h⟩ | ⟨x, x2, h⟩ | ⟨x, fs, b, hf, h⟩ <;>
  rcases h' with ⟨y, h'⟩ | ⟨y, y2, h'⟩ | ⟨y, fs', b', hf', h'⟩ <;>
  cases h <;> cases h' <;>
  first | exact ⟨rfl, rfl⟩ | (exfalso; omega) | (exfalso; exact x2 ⟨_, _, hf'⟩) | (exfalso; exact y2 ⟨_, _, hf⟩) | (obtain ⟨rfl, rfl⟩ := isMail_one hf hf'; exact ⟨rfl, rfl⟩)
theorem isMail_body {l b : B} {fs : List (B × B)} (h : IsMail l fs b) (hl : l.length ≤ 65536) : mok 0 b = true ∧ b.length ≤ 65536 := by
  obtain ⟨n, h1, h2⟩ := par_len h.2.1
  refine ⟨par_mok h.2.1 h.1, ?_⟩
  rw [h2, List.length_drop]
  omega
theorem countB_tens (s : ByteArray) (h : mok 0 s.data.toList = true) : Lib.countB s ⟨#[13, 10]⟩ = (tens s.data.toList : Nat) := by
  rw [← count_tens _ s.data.toList (Nat.le_refl _) h]
  rfl
set_option maxHeartbeats 1000000 in
theorem lines_any (a : Option Addr) (n c : Nat) (T : ByteArray) (w : World) (m : Int) (hm : w.cell? ⟨4, 0, none⟩ = some (.int .i64 m)) (hs : T.size ≤ 1048576) (hk : mok 0 T.data.toList = true) :
    Calls Tryz.prog 27 #[.agg #[.slice a n c, .string T]] w fun e w' => e = .returned (.int .i64 ((tens T.data.toList : Nat) : Int)) ∧ Below w.heap.size w w' := by
  have hgl := World.block_lt_of_cell? _ _ hm
  have hb : Below w.heap.size w (w.alloc (.cells #[.slice a n c, .string T] 43)) := (Below.refl _ _).alloc (Nat.le_refl _) _
  have HCT := Tryz.strings_Count T ⟨#[13, 10]⟩ m (w.alloc (.cells #[.slice a n c, .string T] 43)) (by omega) ((hb.cell (p := ⟨4, 0, none⟩) hgl).trans hm) (by decide)
  rw [countB_tens T hk] at HCT
  clear hm hgl
  go_enter Tryz.func27, Tryz.ntmps27
  go_wp2_with fail
  refine HCT.mono ?_
  rintro e w2 ⟨rfl, rfl⟩
  go_wp2
  go_ret
  exact ⟨rfl, hb⟩
set_option maxHeartbeats 4000000 in
set_option maxRecDepth 100000 in
theorem implLines_any (s : ByteArray) (w : World) (m : Int) (hm : w.cell? ⟨4, 0, none⟩ = some (.int .i64 m)) (hs : s.size ≤ 1048576) :
    Calls Tryz.prog 9 #[.string s] w fun e w' => MlRet s.data.toList e ∧ Below w.heap.size w w' := by
  have hgl := World.block_lt_of_cell? _ _ hm
  have HM : Hid (∀ W, Below w.heap.size w W → W.cell? ⟨4, 0, none⟩ = some (.int .i64 m)) := fun W hW => (hW.cell (p := ⟨4, 0, none⟩) hgl).trans hm
  have HRL := readLetter_any s w m hm hs
  clear hm hgl
  go_enter Tryz.func9, Tryz.ntmps9
  go_wp2_with fail
  refine HRL.mono ?_
  rintro e w1 ⟨hr, hb1⟩
  have HB1 : Hid (Below w.heap.size w w1) := hb1
  clear HRL hb1
  rcases hr with ⟨hl, rfl⟩ | ⟨hl, hno, rfl⟩ | ⟨hl, fs, b, v, hmail, rfl, hfa⟩
  · unfold noMV
    go_wp2
    go_ret2
    exact ⟨.inl ⟨hl, rfl⟩, HB1.out.alloc HB1.out.size _⟩
  · have HNO : Hid (¬ ∃ fs b, IsMail s.data.toList fs b) := hno
    clear hno
    unfold noMV
    go_wp2
    go_ret2
    exact ⟨.inr (.inl ⟨hl, HNO.out, rfl⟩), HB1.out.alloc HB1.out.size _⟩
  · obtain ⟨a, cap, rfl⟩ := fields_form hfa
    obtain ⟨hbm, hbl⟩ := isMail_body hmail hl
    have HMA : Hid (IsMail s.data.toList fs b) := hmail
    clear hmail hfa
    unfold MV
    generalize hln : fs.length = ln at *
    obtain ⟨T, hT⟩ : ∃ T : ByteArray, T = ⟨b.toArray⟩ := ⟨_, rfl⟩
    have hTl : T.data.toList = b := by rw [hT]
    have hTs : T.size ≤ 65536 := by rw [Lib.size_eq, hTl]; exact hbl
    rw [show tv b = .string T from by rw [hT]; rfl]
    have HLN : Hid (∀ W, Below w.heap.size w W → Calls Tryz.prog 27 #[.agg #[.slice a ln cap, .string T]] W fun e w' => e = .returned (.int .i64 ((tens b : Nat) : Int)) ∧ Below W.heap.size W w') := fun W hW => by
      have := lines_any a ln cap T W m (HM.out _ hW) (by omega) (by rw [hTl]; exact hbm)
      rw [hTl] at this
      exact this
    clear hT hTl hbm
    go_wp2_with fail
    refine (HLN.out _ (HB1.out.alloc HB1.out.size _)).mono ?_
    rintro e w2 ⟨rfl, hb2⟩
    have HB2 : Hid (Below w.heap.size w w2) := (HB1.out.alloc HB1.out.size _).trans (hb2.mono (HB1.out.alloc HB1.out.size _).size)
    clear hb2
    go_wp2
    go_ret2
    exact ⟨.inr (.inr ⟨hl, fs, b, HMA.out, rfl⟩), HB2.out⟩
theorem bit_any (b : Bool) (w : World) : Calls Tryz.prog 29 #[.bool b] w fun e w' => e = .returned (.int .i64 (if b then 1 else 0)) ∧ w' = w := by
  cases b
  all_goals
    go_enter Tryz.func29, Tryz.ntmps29
    go_wp2
    go_ret
    exact ⟨rfl, rfl⟩
set_option maxHeartbeats 4000000 in
set_option maxRecDepth 100000 in
theorem specLines_any (s : ByteArray) (w : World) (hs : s.size ≤ 1048576) :
    Calls Tryz.prog 10 #[.string s] w fun e w' => MlRet s.data.toList e ∧ Below w.heap.size w w' := by
  by_cases hl0 : s.size ≤ 65536
  case neg =>
    have hl' : (65536 : Int) < (s.size : Int) := by omega
    go_enter Tryz.func10, Tryz.ntmps10
    go_wp2
    go_ret2
    exact ⟨.inl ⟨by rw [← Lib.size_eq]; omega, rfl⟩, Below.refl _ _⟩
  have hl' : (s.size : Int) ≤ 65536 := by omega
  go_enter Tryz.func10, Tryz.ntmps10
  go_wp2_with fail
  refine (specMail_any s w hs).mono ?_
  rintro e w1 ⟨hr, hb1⟩
  have HB1 : Hid (Below w.heap.size w w1) := hb1
  clear hb1
  rcases hr with ⟨hl, rfl⟩ | ⟨hl, hno, rfl⟩ | ⟨hl, fs, b, v, hmail, rfl, hfa⟩
  · unfold noMV
    go_wp2
    go_ret2
    exact ⟨.inl ⟨hl, rfl⟩, HB1.out.alloc HB1.out.size _⟩
  · have HNO : Hid (¬ ∃ fs b, IsMail s.data.toList fs b) := hno
    clear hno
    unfold noMV
    go_wp2
    go_ret2
    exact ⟨.inr (.inl ⟨hl, HNO.out, rfl⟩), HB1.out.alloc HB1.out.size _⟩
  · obtain ⟨a, cap, rfl⟩ := fields_form hfa
    obtain ⟨hbm, hbl⟩ := isMail_body hmail hl
    have HMA : Hid (IsMail s.data.toList fs b) := hmail
    clear hmail hfa hbm
    unfold MV
    generalize hln : fs.length = ln at *
    obtain ⟨T, hT⟩ : ∃ T : ByteArray, T = ⟨b.toArray⟩ := ⟨_, rfl⟩
    have hTl : T.data.toList = b := by rw [hT]
    have hTs : T.size ≤ 65536 := by rw [Lib.size_eq, hTl]; exact hbl
    rw [show tv b = .string T from by rw [hT]; rfl]
    have HTL : Hid (T.data.toList = b) := hTl
    clear hT hTl
    go_wp2_with fail
    generalize hW0 : World.alloc _ _ = W0
    have L0 : b2.Box W0 w1.heap.size 54 (.slice a ln cap) (.string T) := by rw [← hW0]; exact b2.new _ _ _ _
    have HB0 : Hid (Below w.heap.size w W0) := (show Below _ _ _ by rw [← hW0]; exact HB1.out.alloc HB1.out.size _)
    have c1 := L0.c1
    clear hW0 L0 HB1
    go_loop [6, 7] (fun q i => ∃ k : Nat, k ≤ T.size ∧ i = .int .i64 k ∧ q = .int .i64 ((tens (T.data.toList.take k) : Nat) : Int)) (fun _ i => T.size - (intOf i).toNat)
    case atStart => exact ⟨0, Nat.zero_le _, rfl, rfl⟩
    case round =>
      obtain ⟨k, hk, rfl, rfl⟩ := hrel
      have hq : tens (T.data.toList.take k) ≤ 65536 := Nat.le_trans (tens_le _) (by rw [List.length_take]; omega)
      by_cases hlt : k < T.size
      · have hlt' : (k : Int) < (T.size : Int) := by omega
        have HT1 := tens_take T k hlt
        obtain ⟨q, hqe⟩ : ∃ q, q = tens (T.data.toList.take k) := ⟨_, rfl⟩
        rw [← hqe] at hq HT1 ⊢
        clear hqe
        by_cases h10 : ((T[k]'hlt).toNat : Int) = 10
        · have d10 : (((T[k]'hlt).toNat : Int) == 10) = true := beq_iff_eq.2 h10
          rw [if_pos h10] at HT1
          have HT2 : Hid (tens (T.data.toList.take (k + 1)) = q + 1) := HT1
          clear HT1 h10
          have HBIT : Hid (∀ W, Calls Tryz.prog 29 #[.bool true] W fun e w' => e = .returned (.int .i64 1) ∧ w' = W) := fun W => bit_any true W
          go_wp2_with (go_at_call 29; refine (HBIT.out _).mono ?_; rintro e w' ⟨rfl, rfl⟩)
          go_round
          case rel => exact ⟨k + 1, by omega, by go_num, by rw [HT2.out]; go_num⟩
          case measure => simp [intOf]; omega
        · have d10 : (((T[k]'hlt).toNat : Int) == 10) = false := beq_eq_false_iff_ne.2 h10
          rw [if_neg h10] at HT1
          have HT2 : Hid (tens (T.data.toList.take (k + 1)) = q) := HT1
          clear HT1
          have HBIT : Hid (∀ W, Calls Tryz.prog 29 #[.bool false] W fun e w' => e = .returned (.int .i64 0) ∧ w' = W) := fun W => bit_any false W
          go_wp2_with (go_at_call 29; refine (HBIT.out _).mono ?_; rintro e w' ⟨rfl, rfl⟩)
          go_round
          case rel => exact ⟨k + 1, by omega, by go_num, by rw [HT2.out]⟩
          case measure => simp [intOf]; omega
      · have hlt' : ¬ (k : Int) < (T.size : Int) := by omega
        have e : tens (T.data.toList.take k) = tens b := by rw [take_all T k (by omega), HTL.out]
        rw [e]
        clear e hq
        go_wp2
        go_ret2
        exact ⟨.inr (.inr ⟨hl, fs, b, HMA.out, rfl⟩), HB0.out⟩
end Go.Proofs.YtadfdfmebdcfgaaGreatDoor.ml

namespace Go.Proofs.YtadfdfmebdcfgaaGreatDoor.rd
open Go.RowKit
set_option linter.unusedVariables false
set_option maxHeartbeats 4000000 in
set_option maxRecDepth 100000 in
theorem spec_822 (s : ByteArray) (w : World) (hs : s.size ≤ 1048576) : Calls Tryz.prog 37 #[.string s] w fun e w' => e = .returned (r8 s.data.toList) ∧ Below w.heap.size w w' := by
  by_cases hbig : 65536 < s.size
  · have hb : (65536 : Int) < (s.size : Int) := by omega
    have hb2 : (s.size : Int) ≤ 1048576 := by omega
    rw [show r8 s.data.toList = .tuple #[.int .i64 0, .int .i64 2] from if_pos hbig]
    go_enter Tryz.func37, Tryz.ntmps37
    go_wp2
    go_ret2
    exact ⟨rfl, Below.refl _ _⟩
  rw [show r8 s.data.toList = implR s.data.toList from if_neg hbig]
  by_cases hah : rd.ahead s.data.toList
  · exact rdb.spec_822_ahead s (by omega) w hah
  · rw [spec_plain hah]
    exact spec_822_plain s (by omega) w hah
end Go.Proofs.YtadfdfmebdcfgaaGreatDoor.rd

namespace Go.Proofs.YtadfdfmebdcfgaaGreatDoor.lfp
open Go.RowKit
open gr
set_option linter.unusedVariables false

theorem infoB : (Tryz.prog.info? 5).map (fun i => (i.zero, i.size, i.bytes)) = some (some (.int .u8 0), 1, 1) := by kernel_rfl
theorem bz_getD (l : List UInt8) (k : Nat) : (b6.bz l).getD k 0 = ((l.getD k 0).toNat : Int) := b6.bz_at l k

set_option maxHeartbeats 4000000 in
set_option maxRecDepth 100000 in
theorem lf_any (v : Value) (l : List UInt8) (w : World) (h : ow.Reads .u8 w v (b6.bz l)) (hl : l.length ≤ 1048576) :
    Calls Tryz.prog 40 #[v] w fun e w' => e = .returned (.string ⟨(lfr l).toArray⟩) ∧ Below w.heap.size w w' := by
  obtain ⟨a, cap, rfl, h⟩ := h
  obtain ⟨i0, hi, hz0, hz1, hz2⟩ := info_parts infoB
  obtain ⟨n, hn⟩ : ∃ n, n = l.length := ⟨_, rfl⟩
  have HN0 : Hid (n = l.length) := hn
  have HC : Hid (∀ j, j < l.length → ∃ b off, a = some ⟨b, off, none⟩ ∧ b < w.heap.size ∧ ∀ i, i < l.length → w.cell? ⟨b, off + i, none⟩ = some (.int .u8 ((l.getD i 0).toNat : Int))) := fun j hj => by
    rcases h with h | ⟨b, off, ha, hc⟩
    · have := congrArg List.length h
      rw [b6.bz_len] at this
      simp at this
      subst this
      simp at hj
    · refine ⟨b, off, ha, World.block_lt_of_cell? w _ (hc j (by rw [b6.bz_len]; exact hj)), fun i hi => ?_⟩
      rw [hc i (by rw [b6.bz_len]; exact hi), bz_getD]
  rw [b6.bz_len, ← hn]
  have hln : n ≤ 1048576 := by omega
  clear h hn hl
  go_enter Tryz.func40, Tryz.ntmps40
  go_wp2
  go_loopw [3, 4] (fun v i wr => ∃ (k : Nat) (q : List UInt8), k ≤ n ∧ i = .int .i64 k ∧ q = upto l k ∧ q.length ≤ k ∧ wr.ownsRow w.heap.size 5 1 v q.length (Lib.byteCells q) ∧ Below w.heap.size w wr) (fun _ i _ => n - (intOf i).toNat)
  case atStart => exact ⟨0, [], Nat.zero_le _, rfl, rfl, by simp, ow.own_empty w _, (Below.refl _ _).alloc (Nat.le_refl _) _⟩
  case round =>
    obtain ⟨k, q, hk, rfl, hq, hql, hown, hbw⟩ := hrel
    have HQ : Hid (q = upto l k) := hq
    clear hq
    have hBs := hbw.size
    by_cases hlt : k < n
    · have hlt' : (k : Int) < (n : Int) := by omega
      have hk0 : (0 : Int) ≤ (k : Int) := by omega
      obtain ⟨b, off, rfl, hblt, hcs⟩ := HC.out k (by rw [← HN0.out]; exact hlt)
      have c0 := (hbw.cell (p := ⟨b, off + k, none⟩) hblt).trans (hcs k (by rw [← HN0.out]; exact hlt))
      have hc1 : k + 1 < n → wr.cell? ⟨b, off + (k + 1), none⟩ = some (.int .u8 ((l.getD (k + 1) 0).toNat : Int)) := fun h => (hbw.cell (p := ⟨b, off + (k + 1), none⟩) hblt).trans (hcs (k + 1) (by rw [← HN0.out]; exact h))
      have hnx : ∀ y, l[k + 1]? = some y ↔ k + 1 < n ∧ l.getD (k + 1) 0 = y := fun y => by
        rw [HN0.out]
        by_cases hh : k + 1 < l.length
        · simp [List.getD_eq_getElem?_getD, hh]
        · simp [hh]
      clear hcs
      obtain ⟨x, hx⟩ : ∃ x, x = l.getD k 0 := ⟨_, rfl⟩
      rw [← hx] at c0
      by_cases h13 : (x.toNat : Int) = 13
      · have d13 : ((x.toNat : Int) == 13) = true := beq_iff_eq.2 h13
        have HX13 : x = 13 := by rw [← UInt8.toNat_inj]; show x.toNat = 13; omega
        by_cases hk1 : k + 1 < n
        · have hk1' : (k : Int) + 1 < (n : Int) := by omega
          have c1 := hc1 hk1
          by_cases h10 : ((l.getD (k + 1) 0).toNat : Int) = 10
          · have d10 : (((l.getD (k + 1) 0).toNat : Int) == 10) = true := beq_iff_eq.2 h10
            have HN : Hid (q = upto l (k + 1)) := (show _ = _ by
              rw [upto_succ, ← HQ.out, if_pos ⟨by rw [← hx, ← UInt8.toNat_inj]; show x.toNat = 13; omega, (hnx 10).2 ⟨hk1, by rw [← UInt8.toNat_inj]; show _ = 10; omega⟩⟩]
              simp)
            generalize l.getD (k + 1) 0 = y at c1 d10 h10
            clear hx hnx hc1
            go_wp2
            go_roundw
            case rel => exact ⟨k + 1, q, by omega, by go_num, HN.out, by omega, hown, hbw⟩
            case measure => simp [intOf]; omega
          · have d10 : (((l.getD (k + 1) 0).toNat : Int) == 10) = false := beq_eq_false_iff_ne.2 h10
            have HNG : ¬ (x = 13 ∧ l[k + 1]? = some 10) := fun e => h10 (by rw [((hnx 10).1 e.2).2]; rfl)
            generalize l.getD (k + 1) 0 = y at c1 d10 h10 hnx hc1
            clear hc1 hnx
            have HN : Hid (q ++ [13] = upto l (k + 1)) := (show _ = _ by rw [upto_succ, ← HQ.out, ← hx, if_neg HNG, HX13])
            clear hx
            go_wp2_with (at_builtin; go_loud (refine wpList_append_own _ rfl _ _ 22 rfl w.heap.size 5 i0 (.int .u8 0) 1 1 Tryz.underlying22 hi hz0 hz1 hz2 rfl (by decide) _ _ _ rfl (hown.alloc _) ⟨wr.heap.size, 0, none⟩ 1 1 [.int .u8 13] rfl rfl (ow.cells_new _ [.int .u8 13] _) (by simp [Value.oneCell']) (by unfold maxLen; omega) (by omega) (by simp; omega) ?_); intro v' w3 hown3 hg3 _)
            have hb3 := Below.grown (hbw.alloc hBs _) hg3 (by simp; omega) (ow.own_lt hown)
            have HO3 : Hid (w3.ownsRow w.heap.size 5 1 v' (q ++ [13]).length (Lib.byteCells (q ++ [13]))) := (show w3.ownsRow _ _ _ _ _ _ by
              rw [List.length_append, Lib.byteCells_append]; exact hown3)
            clear hown hbw hown3 hg3
            go_roundw
            case rel => exact ⟨k + 1, q ++ [13], by omega, by go_num, HN.out, by simp; omega, HO3.out, hb3⟩
            case measure => simp [intOf]; omega
        · have hk1' : ¬ (k : Int) + 1 < (n : Int) := by omega
          have HNG : ¬ (x = 13 ∧ l[k + 1]? = some 10) := fun e => hk1 ((hnx 10).1 e.2).1
          clear hc1 hnx
          have HN : Hid (q ++ [13] = upto l (k + 1)) := (show _ = _ by rw [upto_succ, ← HQ.out, ← hx, if_neg HNG, HX13])
          clear hx
          go_wp2_with (at_builtin; go_loud (refine wpList_append_own _ rfl _ _ 22 rfl w.heap.size 5 i0 (.int .u8 0) 1 1 Tryz.underlying22 hi hz0 hz1 hz2 rfl (by decide) _ _ _ rfl (hown.alloc _) ⟨wr.heap.size, 0, none⟩ 1 1 [.int .u8 13] rfl rfl (ow.cells_new _ [.int .u8 13] _) (by simp [Value.oneCell']) (by unfold maxLen; omega) (by omega) (by simp; omega) ?_); intro v' w3 hown3 hg3 _)
          have hb3 := Below.grown (hbw.alloc hBs _) hg3 (by simp; omega) (ow.own_lt hown)
          have HO3 : Hid (w3.ownsRow w.heap.size 5 1 v' (q ++ [13]).length (Lib.byteCells (q ++ [13]))) := (show w3.ownsRow _ _ _ _ _ _ by
            rw [List.length_append, Lib.byteCells_append]; exact hown3)
          clear hown hbw hown3 hg3
          go_roundw
          case rel => exact ⟨k + 1, q ++ [13], by omega, by go_num, HN.out, by simp; omega, HO3.out, hb3⟩
          case measure => simp [intOf]; omega
      · have d13 : ((x.toNat : Int) == 13) = false := beq_eq_false_iff_ne.2 h13
        have HNG : ¬ (x = 13 ∧ l[k + 1]? = some 10) := fun e => h13 (by rw [e.1]; rfl)
        clear hc1 hnx
        have HN : Hid (q ++ [x] = upto l (k + 1)) := (show _ = _ by rw [upto_succ, ← HQ.out, ← hx, if_neg HNG])
        clear hx
        go_wp2_with (at_builtin; go_loud (refine wpList_append_own _ rfl _ _ 22 rfl w.heap.size 5 i0 (.int .u8 0) 1 1 Tryz.underlying22 hi hz0 hz1 hz2 rfl (by decide) _ _ _ rfl (hown.alloc _) ⟨wr.heap.size, 0, none⟩ 1 1 [.int .u8 (x.toNat : Int)] rfl rfl (ow.cells_new _ [.int .u8 (x.toNat : Int)] _) (by simp [Value.oneCell']) (by unfold maxLen; omega) (by omega) (by simp; omega) ?_); intro v' w3 hown3 hg3 _)
        have hb3 := Below.grown (hbw.alloc hBs _) hg3 (by simp; omega) (ow.own_lt hown)
        have HO3 : Hid (w3.ownsRow w.heap.size 5 1 v' (q ++ [x]).length (Lib.byteCells (q ++ [x]))) := (show w3.ownsRow _ _ _ _ _ _ by
          rw [List.length_append, Lib.byteCells_append]; exact hown3)
        clear hown hbw hown3 hg3
        go_roundw
        case rel => exact ⟨k + 1, q ++ [x], by omega, by go_num, HN.out, by simp; omega, HO3.out, hb3⟩
        case measure => simp [intOf]; omega
    · have hlt' : ¬ (k : Int) < (n : Int) := by omega
      have e : q = lfr l := by rw [HQ.out, ← upto_all, ← HN0.out]; congr 1; omega
      subst e
      have cv := ow.conv_bytes (P := Tryz.prog) (src := 22) (dst := 9) (lfr l) hown Tryz.underlying22 Tryz.underlying5 Tryz.underlying9
      go_wp2
      go_ret
      exact ⟨rfl, hbw⟩
end Go.Proofs.YtadfdfmebdcfgaaGreatDoor.lfp
