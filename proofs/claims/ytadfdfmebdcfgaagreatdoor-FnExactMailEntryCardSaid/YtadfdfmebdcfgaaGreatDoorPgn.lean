/-
  The contract of the specification's MailEntry.
  The contract of the law's eqEntry on one entry twice; every answer of MailEntry is an entry and a code.
  The walk that the card rests on.
  What the card rests on: the row's contract.
-/
import Derived.Test.YtadfdfmebdcfgaaGreatDoorPgk
import Derived.Test.YtadfdfmebdcfgaaGreatDoorPgl
import Derived.Test.YtadfdfmebdcfgaaGreatDoorPgm
import Derived.Deep.RegionHeld
import Derived.Test.YtadfdfmebdcfgaaGreatDoorCards
import Derived.Test.YtadfdfmebdcfgaaGreatDoorTie
import Derived.Test.YtadfdfmebdcfgaaGreatDoorTbd
import Derived.WalkKit
import Derived.ProofKit
import Derived.OpenShut
import Derived.ShutString
import Derived.OpenVars
import Derived.ChangeOld
import Derived.Below
import Derived.Deep.DeepHandedRow
import Derived.Deep.DeepWitnessRowRef
import Derived.LaidMore
import Derived.Lib.LaidTab
import Derived.LaidOnce

namespace Go.Proofs.YtadfdfmebdcfgaaGreatDoor.me
open Go.RowKit
open fa fo ml
open rq (upd upd_same upd_other)
set_option linter.unusedVariables false

def nt : ByteArray := ⟨#[]⟩
theorem uq_bound (l : List UInt8) : ((qu.uq l).getD []).length ≤ l.length := by
  cases h : qu.uq l with
  | none => exact Nat.zero_le _
  | some o => exact qu.uq_len h
theorem con_short {T : ByteArray} (h : T.size < 2) : (con T).2 = false := by
  rw [con_no]
  rintro ⟨h1, _⟩
  unfold ended Lib.hasSuffix at h1
  have h2 := (List.isSuffixOf_iff_suffix.1 h1).length_le
  have h3 : lfp.cr.length = 2 := rfl
  rw [h3] at h2
  rw [Lib.size_eq] at h
  omega
theorem con_body {T : ByteArray} (he : ml.Ends T.data.toList) (h : 2 ≤ T.size) (h65 : T.size ≤ 65536) : con T = match qu.uq (T.extract 0 (T.size - 2)).data.toList with | some o => (⟨(lfp.lfr o).toArray⟩, true) | none => (⟨#[]⟩, false) := by
  obtain ⟨x, hx⟩ : ∃ x, T.data.toList = x ++ nl := by
    rcases he with e | e
    · rw [Lib.size_eq, e] at h; cases h
    · exact e
  have hend : ended T = true := by
    unfold ended Lib.hasSuffix
    rw [List.isSuffixOf_iff_suffix, hx]
    exact List.suffix_append x nl
  have hq : quoted T = T.extract 0 (T.size - 2) := by
    have hl : T.size = x.length + 2 := by rw [Lib.size_eq, hx, List.length_append]; rfl
    have h1 : (T.extract 0 (T.size - 2)).data.toList = x := by
      rw [ByteArray.data_extract, Array.toList_extract, hx, hl]
      simp
    have h2 : (quoted T).data.toList = x := by
      show Lib.trimSuffix T.data.toList lfp.cr = x
      unfold Lib.trimSuffix
      rw [show Lib.hasSuffix T.data.toList lfp.cr = true from hend, if_pos rfl, hx]
      simp [lfp.cr, nl]
    exact ByteArray.ext (Array.toList_inj.1 (h2.trans h1.symm))
  have hs2 : (quoted T).size ≤ 65536 := Nat.le_trans (quoted_len T) h65
  rw [← hq]
  cases hu : qu.uq (quoted T).data.toList with
  | none =>
    rw [con_no]
    rintro ⟨_, h⟩
    unfold qu.uc at h
    rw [if_pos hs2, hu] at h
    cases h
  | some o =>
    rw [con_yes hend (by unfold qu.uc; rw [if_pos hs2, hu]; rfl)]
    unfold qu.ul
    rw [if_pos hs2, hu]
    rfl
theorem hasAll_all {ps : List Pr} {xs : List ByteArray} (hl : xs.length = 5) (h : ∀ j, j < 5 → find ps (names.getD j nt) = some (xs.getD j nt)) : hasAll ps names = true := by
  unfold hasAll
  rw [List.all_eq_true]
  intro nm hnm
  obtain ⟨j, hj, rfl⟩ := List.mem_iff_getElem.1 hnm
  have hj5 : j < 5 := hj
  have := h j hj5
  rw [List.getD_eq_getElem?_getD, List.getElem?_eq_getElem hj] at this
  simp only [Option.getD_some] at this
  rw [this]
  rfl
theorem hasAll_none {ps : List Pr} {k : Nat} (hk : k < 5) (h : find ps (names.getD k nt) = none) : hasAll ps names = false := by
  have hj : k < names.length := hk
  refine hasAll_no hj ?_
  rw [List.getD_eq_getElem?_getD, List.getElem?_eq_getElem hj] at h
  exact h

/-- What stands behind each of the operations that make the entry. -/
def RS (ps : List Pr) (gv cv : Nat) (x0 x2 x3 x4 : ByteArray) (bv : Value) (st : Int) (C : ByteArray) (Wb : Nat) : Nat → (Nat → Value) → World → Prop
  | 0, f, _ => f 0 = .slice (some ⟨gv, 0, none⟩) 5 cv
  | 1, f, _ => f 1 = .pointer (some ⟨gv, 0, none⟩)
  | 2, f, _ => f 2 = .string x0
  | 3, f, _ => ∃ r, Dv ps nFrom r ∧ f 3 = .string r
  | 4, f, _ => f 4 = .int .i64 st
  | 5, f, _ => f 5 = .slice (some ⟨gv, 0, none⟩) 5 cv
  | 6, f, _ => f 6 = .pointer (some ⟨gv, 2, none⟩)
  | 7, f, _ => f 7 = .string x2
  | 8, f, _ => ∃ r, Dv ps nSubj r ∧ f 8 = .string r
  | 9, f, _ => f 9 = .slice (some ⟨gv, 0, none⟩) 5 cv
  | 10, f, _ => f 10 = .pointer (some ⟨gv, 3, none⟩)
  | 11, f, _ => f 11 = .string x3
  | 12, f, _ => ∃ r, Dv ps nXid r ∧ f 12 = .string r
  | 13, f, _ => f 13 = .slice (some ⟨gv, 0, none⟩) 5 cv
  | 14, f, _ => f 14 = .pointer (some ⟨gv, 4, none⟩)
  | 15, f, _ => f 15 = .string x4
  | 16, f, _ => ∃ r, Dv ps nXlnk r ∧ f 16 = .string r
  | 17, f, _ => f 17 = bv
  | 18, f, _ => f 18 = .string C
  | 19, f, _ => ∃ ri rt rl ra, Dv ps nXid ri ∧ Dv ps nSubj rt ∧ Dv ps nXlnk rl ∧ Dv ps nFrom ra ∧ f 19 = .agg #[.string ri, .string rt, .string rl, .string ra, .int .i64 st, .string C]
  | 20, f, w => ∃ g : Nat, Wb ≤ g ∧ f 20 = .pointer (some ⟨g, 0, none⟩) ∧ ∃ a b c d e f', L6 w g a b c d e f'
  | 21, f, w => ∃ (g : Nat) (ri rt rl ra : ByteArray), Wb ≤ g ∧ Dv ps nXid ri ∧ Dv ps nSubj rt ∧ Dv ps nXlnk rl ∧ Dv ps nFrom ra ∧ f 20 = .pointer (some ⟨g, 0, none⟩) ∧ L6 w g (.string ri) (.string rt) (.string rl) (.string ra) (.int .i64 st) (.string C)
  | _, _, _ => True
section
variable {ps : List Pr} {gv cv : Nat} {x0 x2 x3 x4 : ByteArray} {bv : Value} {st : Int} {C : ByteArray} {Wb j i : Nat} {f : Nat → Value} {w w' : World}
set_option maxHeartbeats 2000000 in
theorem rs_keep (h : RS ps gv cv x0 x2 x3 x4 bv st C Wb j f w) (hb : Below w.heap.size w w') : RS ps gv cv x0 x2 x3 x4 bv st C Wb j f w' := by
  match j, h with
  | 0, h => exact h
  | 1, h => exact h
  | 2, h => exact h
  | 3, h => exact h
  | 4, h => exact h
  | 5, h => exact h
  | 6, h => exact h
  | 7, h => exact h
  | 8, h => exact h
  | 9, h => exact h
  | 10, h => exact h
  | 11, h => exact h
  | 12, h => exact h
  | 13, h => exact h
  | 14, h => exact h
  | 15, h => exact h
  | 16, h => exact h
  | 17, h => exact h
  | 18, h => exact h
  | 19, h => exact h
  | 20, h =>
    obtain ⟨g, h1, h2, a, b, c, d, e, f', h3⟩ := h
    exact ⟨g, h1, h2, a, b, c, d, e, f', h3.keep hb⟩
  | 21, h =>
    obtain ⟨g, ri, rt, rl, ra, h1, h2, h3, h4, h5, h6, h7⟩ := h
    exact ⟨g, ri, rt, rl, ra, h1, h2, h3, h4, h5, h6, h7.keep hb⟩
  | j + 22, h => trivial
set_option maxHeartbeats 2000000 in
theorem rs_upd {v : Value} (hj : j ≠ i) (h78 : ¬ (j = 21 ∧ i = 20)) (h : RS ps gv cv x0 x2 x3 x4 bv st C Wb j f w) : RS ps gv cv x0 x2 x3 x4 bv st C Wb j (upd f i v) w := by
  match j, hj, h78, h with
  | 0, hj, _, h => exact (upd_other f i v hj).trans h
  | 1, hj, _, h => exact (upd_other f i v hj).trans h
  | 2, hj, _, h => exact (upd_other f i v hj).trans h
  | 3, hj, _, h => obtain ⟨r, h1, h2⟩ := h; exact ⟨r, h1, (upd_other f i v hj).trans h2⟩
  | 4, hj, _, h => exact (upd_other f i v hj).trans h
  | 5, hj, _, h => exact (upd_other f i v hj).trans h
  | 6, hj, _, h => exact (upd_other f i v hj).trans h
  | 7, hj, _, h => exact (upd_other f i v hj).trans h
  | 8, hj, _, h => obtain ⟨r, h1, h2⟩ := h; exact ⟨r, h1, (upd_other f i v hj).trans h2⟩
  | 9, hj, _, h => exact (upd_other f i v hj).trans h
  | 10, hj, _, h => exact (upd_other f i v hj).trans h
  | 11, hj, _, h => exact (upd_other f i v hj).trans h
  | 12, hj, _, h => obtain ⟨r, h1, h2⟩ := h; exact ⟨r, h1, (upd_other f i v hj).trans h2⟩
  | 13, hj, _, h => exact (upd_other f i v hj).trans h
  | 14, hj, _, h => exact (upd_other f i v hj).trans h
  | 15, hj, _, h => exact (upd_other f i v hj).trans h
  | 16, hj, _, h => obtain ⟨r, h1, h2⟩ := h; exact ⟨r, h1, (upd_other f i v hj).trans h2⟩
  | 17, hj, _, h => exact (upd_other f i v hj).trans h
  | 18, hj, _, h => exact (upd_other f i v hj).trans h
  | 19, hj, _, h =>
    obtain ⟨ri, rt, rl, ra, h1, h2, h3, h4, h5⟩ := h
    exact ⟨ri, rt, rl, ra, h1, h2, h3, h4, (upd_other f i v hj).trans h5⟩
  | 20, hj, _, h => obtain ⟨g, h1, h2, h3⟩ := h; exact ⟨g, h1, (upd_other f i v hj).trans h2, h3⟩
  | 21, hj, h78, h =>
    obtain ⟨g, ri, rt, rl, ra, h1, h2, h3, h4, h5, h6, h7⟩ := h
    exact ⟨g, ri, rt, rl, ra, h1, h2, h3, h4, h5, (upd_other f i v (show 20 ≠ i from fun e => h78 ⟨rfl, e.symm⟩)).trans h6, h7⟩
  | j + 22, _, _, h => trivial
set_option maxHeartbeats 2000000 in
theorem rs_world (h1 : j ≠ 20) (h2 : j ≠ 21) (h : RS ps gv cv x0 x2 x3 x4 bv st C Wb j f w) : RS ps gv cv x0 x2 x3 x4 bv st C Wb j f w' := by
  match j, h1, h2, h with
  | 0, _, _, h => exact h
  | 1, _, _, h => exact h
  | 2, _, _, h => exact h
  | 3, _, _, h => exact h
  | 4, _, _, h => exact h
  | 5, _, _, h => exact h
  | 6, _, _, h => exact h
  | 7, _, _, h => exact h
  | 8, _, _, h => exact h
  | 9, _, _, h => exact h
  | 10, _, _, h => exact h
  | 11, _, _, h => exact h
  | 12, _, _, h => exact h
  | 13, _, _, h => exact h
  | 14, _, _, h => exact h
  | 15, _, _, h => exact h
  | 16, _, _, h => exact h
  | 17, _, _, h => exact h
  | 18, _, _, h => exact h
  | 19, _, _, h => exact h
  | 20, h1, _, _ => exact absurd rfl h1
  | 21, _, h2, _ => exact absurd rfl h2
  | j + 22, _, _, _ => trivial
theorem rs_put {g : Nat} {x a b c d e f' : Value} (hj : j ≠ 21) (h15 : f 20 = .pointer (some ⟨g, 0, none⟩)) (hp : L6 (put6 w g a b c d e f') g a b c d e f') (h : RS ps gv cv x0 x2 x3 x4 bv st C Wb j f w) : RS ps gv cv x0 x2 x3 x4 bv st C Wb j (upd f 21 x) (put6 w g a b c d e f') := by
  have h' := rs_upd (v := x) hj (by omega) h
  by_cases e15 : j = 20
  · subst e15
    obtain ⟨g', h1, h2, _⟩ := h
    rw [h15] at h2
    cases h2
    exact ⟨g, h1, (upd_other f 21 x hj).trans h15, a, b, c, d, e, f', hp⟩
  · exact rs_world e15 hj h'
end

set_option maxHeartbeats 8000000 in
set_option maxRecDepth 100000 in
theorem specMe_any (s : ByteArray) (w : World) (hs : s.size ≤ 1048576) :
    Calls Tryz.prog 14 #[.string s] w fun e w' => MeRet s.data.toList e ∧ Below w.heap.size w w' := by
  have R1 := l6_new w (.string ⟨#[]⟩) (.string ⟨#[]⟩) (.string ⟨#[]⟩) (.string ⟨#[]⟩) (.int .i64 0) (.string ⟨#[]⟩)
  have k1 := box_below w #[.string ⟨#[]⟩, .string ⟨#[]⟩, .string ⟨#[]⟩, .string ⟨#[]⟩, .int .i64 0, .string ⟨#[]⟩] 24
  by_cases hbig : 65536 < s.size
  · have HE : Hid (MeRet s.data.toList (.returned (.tuple #[.agg #[.string ⟨#[]⟩, .string ⟨#[]⟩, .string ⟨#[]⟩, .string ⟨#[]⟩, .int .i64 0, .string ⟨#[]⟩], .int .i64 2]))) := .inl ⟨hbig, rfl⟩
    clear R1
    go_enter Tryz.func14, Tryz.ntmps14
    go_wp2
    exact bodyPost_ret (v := .tuple #[.agg #[.string ⟨#[]⟩, .string ⟨#[]⟩, .string ⟨#[]⟩, .string ⟨#[]⟩, .int .i64 0, .string ⟨#[]⟩], .int .i64 2]) (by simp [results, Tryz.results14, go_sem]) rfl ⟨HE.out, k1⟩
  have hbig' : (s.size : Int) ≤ 65536 := by omega
  go_enter Tryz.func14, Tryz.ntmps14
  go_wp2_with fail
  generalize w.alloc _ = w1 at R1 k1 ⊢
  refine (specMail_any s w1 hs).mono ?_
  rintro e w2 ⟨hret, j2⟩
  have R2 := R1.keep j2
  have k2 := k1.trans (j2.mono k1.size)
  have hk1 := k1.size
  clear R1 j2 k1
  rcases hret with ⟨hb2, rfl⟩ | ⟨hle, hno, rfl⟩ | ⟨hle, fs, b, v, hmail, rfl, hfs⟩
  · exact absurd hb2 hbig
  · have HE : Hid (MeRet s.data.toList (.returned (.tuple #[.agg #[.string ⟨#[]⟩, .string ⟨#[]⟩, .string ⟨#[]⟩, .string ⟨#[]⟩, .int .i64 0, .string ⟨#[]⟩], .int .i64 3]))) := .inr (.inl ⟨hle, hno, rfl⟩)
    have R3 := R2.keep (box_below w2 #[.slice none 0 0, .string ⟨#[]⟩] 54)
    have k3 := k2.trans ((box_below w2 #[.slice none 0 0, .string ⟨#[]⟩] 54).mono k2.size)
    clear R2 k2 hno
    unfold noMV
    have r0 := R3.c0
    have r1 := R3.c1
    have r2 := R3.c2
    have r3 := R3.c3
    have r4 := R3.c4
    have r5 := R3.c5
    have f0 := R3.f 0
    have f1 := R3.f 1
    have f2 := R3.f 2
    have f3 := R3.f 3
    have f4 := R3.f 4
    have f5 := R3.f 5
    go_wp2
    have A5 := R3.put (a' := .string ⟨#[]⟩) (b' := .string ⟨#[]⟩) (c' := .string ⟨#[]⟩) (d' := .string ⟨#[]⟩) (e' := .int .i64 0) (f' := .string ⟨#[]⟩)
    have b5 := put6_below (g := w.heap.size) (a := .string ⟨#[]⟩) (b := .string ⟨#[]⟩) (c := .string ⟨#[]⟩) (d := .string ⟨#[]⟩) (e := .int .i64 0) (f' := .string ⟨#[]⟩) k3 (Nat.le_refl _)
    change bodyPost _ _ _ _ _ (put6 (w2.alloc (.cells #[.slice none 0 0, .string ⟨#[]⟩] 54)) w.heap.size (.string ⟨#[]⟩) (.string ⟨#[]⟩) (.string ⟨#[]⟩) (.string ⟨#[]⟩) (.int .i64 0) (.string ⟨#[]⟩))
    generalize put6 _ _ _ _ _ _ _ _ = W5 at A5 b5 ⊢
    have d0 := A5.c0
    have d1 := A5.c1
    have d2 := A5.c2
    have d3 := A5.c3
    have d4 := A5.c4
    have d5 := A5.c5
    exact bodyPost_ret (v := .tuple #[.agg #[.string ⟨#[]⟩, .string ⟨#[]⟩, .string ⟨#[]⟩, .string ⟨#[]⟩, .int .i64 0, .string ⟨#[]⟩], .int .i64 3]) (by simp [results, Tryz.results14, go_sem, d0, d1, d2, d3, d4, d5]) rfl ⟨HE.out, b5⟩
  · obtain ⟨T, hT⟩ : ∃ T : ByteArray, (⟨b.toArray⟩ : ByteArray) = T := ⟨_, rfl⟩
    have HM : Hid (IsMail s.data.toList fs b) := hmail
    have HTb : Hid ((⟨b.toArray⟩ : ByteArray) = T) := hT
    have hTs : T.size ≤ 65536 := by
      rw [← hT]
      show b.toArray.size ≤ _
      simp only [List.size_toArray]
      have := body_len hmail
      omega
    have HSM : Hid (fa.Small (prs fs)) := small_of hmail
    have HAT : Hid (AttrsAt w2 v (prs fs)) := attrs_of hfs
    obtain ⟨va, vn, vc, hV⟩ : ∃ a n c, v = .slice a n c := by
      obtain ⟨a, c, e, _⟩ := HAT.out
      exact ⟨a, _, c, e⟩
    unfold MV tv
    rw [hT]
    subst hV
    have B3 := b2.new w2 54 (.slice va vn vc) (.string T)
    have z1 := box_below w2 #[.slice va vn vc, .string T] 54
    have z2 := box_below (w2.alloc (.cells #[.slice va vn vc, .string T] 54)) #[] 9
    have z3 := box_below ((w2.alloc (.cells #[.slice va vn vc, .string T] 54)).alloc (.cells #[] 9)) #[.string ⟨#[70, 114, 111, 109]⟩, .string ⟨#[68, 97, 116, 101]⟩, .string ⟨#[83, 117, 98, 106, 101, 99, 116]⟩, .string ⟨#[88, 45, 73, 100]⟩, .string ⟨#[88, 45, 76, 105, 110, 107]⟩] 9
    have z12 := z1.trans (z2.mono z1.size)
    have z13 := z12.trans (z3.mono z12.size)
    have R4 := R2.keep z13
    have k4 := k2.trans (z13.mono k2.size)
    have HA4 : Hid (AttrsAt _ (.slice va vn vc) (prs fs)) := fa.at_below HAT.out z13
    have B4 := (B3.below z2).below z3
    have TX := names_at ((w2.alloc (.cells #[.slice va vn vc, .string T] 54)).alloc (.cells #[] 9))
    rw [show ((w2.alloc (.cells #[.slice va vn vc, .string T] 54)).alloc (.cells #[] 9)).heap.size = w2.heap.size + 2 from by simp] at TX
    have HTX : Hid (TxtsAt _ (w2.heap.size + 2) 0 names) := TX
    clear R2 k2 hmail hT hfs HAT B3 z1 z2 z3 z12 z13 TX
    go_wp2
    generalize ((w2.alloc (.cells #[.slice va vn vc, .string T] 54)).alloc (.cells #[] 9)).alloc (.cells #[.string ⟨#[70, 114, 111, 109]⟩, .string ⟨#[68, 97, 116, 101]⟩, .string ⟨#[83, 117, 98, 106, 101, 99, 116]⟩, .string ⟨#[88, 45, 73, 100]⟩, .string ⟨#[88, 45, 76, 105, 110, 107]⟩] 9) = W3 at R4 k4 HA4 B4 HTX ⊢
    obtain ⟨Mb, hMb⟩ : ∃ M, w2.heap.size = M := ⟨_, rfl⟩
    rw [hMb] at B4 HTX ⊢
    clear hMb
    have HR4 : Hid (L6 W3 w.heap.size (.string ⟨#[]⟩) (.string ⟨#[]⟩) (.string ⟨#[]⟩) (.string ⟨#[]⟩) (.int .i64 0) (.string ⟨#[]⟩)) := R4
    have HK4 : Hid (Below w.heap.size w W3) := k4
    have HB4 : Hid (b2.Box W3 Mb 54 (.slice va vn vc) (.string T)) := B4
    clear R4 k4 B4
    go_loopw [6, 8] (fun v i wr => ∃ (k : Nat) (xs : List ByteArray), k ≤ 5 ∧ i = .int .i64 k ∧ xs.length = k ∧ (∀ j, j < k → find (prs fs) (names.getD j nt) = some (xs.getD j nt)) ∧ OwnV wr W3.heap.size (Mb + 1) v xs ∧ Below W3.heap.size W3 wr) (fun _ i _ => 5 - (intOf i).toNat)
    case atStart => exact ⟨0, [], by omega, rfl, rfl, fun j hj => absurd hj (Nat.not_lt_zero _), .inl ⟨rfl, rfl⟩, Below.refl _ _⟩
    case round =>
      obtain ⟨k, xs, hk, rfl, hxl, hfd, hown, hbw⟩ := hrel
      have HFD : Hid (∀ j, j < k → find (prs fs) (names.getD j nt) = some (xs.getD j nt)) := hfd
      have HOW : Hid (OwnV wr W3.heap.size (Mb + 1) _ xs) := hown
      have HBW : Hid (Below W3.heap.size W3 wr) := hbw
      have HR : Hid (L6 wr w.heap.size (.string ⟨#[]⟩) (.string ⟨#[]⟩) (.string ⟨#[]⟩) (.string ⟨#[]⟩) (.int .i64 0) (.string ⟨#[]⟩)) := HR4.out.keep hbw
      have HKR : Hid (Below w.heap.size w wr) := HK4.out.trans (hbw.mono HK4.out.size)
      have HBX : Hid (b2.Box wr Mb 54 (.slice va vn vc) (.string T)) := HB4.out.below hbw
      have HAR : Hid (AttrsAt wr (.slice va vn vc) (prs fs)) := fa.at_below HA4.out hbw
      clear hfd hown
      by_cases hlt : k < 5
      · have hlt' : (k : Int) < 5 := by omega
        have hnl : k < names.length := hlt
        have hn0 := HTX.out k hnl
        have hn1 := (hbw.cell (p := ⟨Mb + 2, 0 + k, none⟩) (World.block_lt_of_cell? W3 _ hn0)).trans hn0
        obtain ⟨nm, hnm⟩ : ∃ nm, names[k] = nm := ⟨_, rfl⟩
        rw [hnm] at hn1
        rw [Nat.zero_add] at hn1
        have HNM : Hid (names.getD k nt = nm) := by
          show names.getD k nt = nm
          rw [List.getD_eq_getElem?_getD, List.getElem?_eq_getElem hnl]
          exact hnm
        have hns : nm.size ≤ 40 := by rw [← hnm]; exact name_small _ (List.getElem_mem hnl)
        clear hn0 hnm hnl hbw
        have m0 := HBX.out.c0
        have m1 := HBX.out.c1'
        have HF : Hid (∀ W, Below wr.heap.size wr W → Calls Tryz.prog 36 #[.agg #[.slice va vn vc, .string T], .string nm] W fun e w' => e = .returned (FRet (find (prs fs) nm)) ∧ Below wr.heap.size wr w' ∧ w'.cell? ⟨Mb, 0, none⟩ = some (.slice va vn vc) ∧ w'.cell? ⟨Mb, 0 + 1, none⟩ = some (.string T) ∧ w'.cell? ⟨Mb + 2, k, none⟩ = some (.string nm)) := by
          intro W hW
          refine (specField_any (.slice va vn vc) T (prs fs) nm W (fa.at_below HAR.out hW) HSM.out (by omega)).mono ?_
          rintro e w' ⟨he, hb⟩
          have hb' := hW.trans (hb.mono hW.size)
          exact ⟨he, hb', (HBX.out.below hb').c0, (HBX.out.below hb').c1', (hb'.cell (p := ⟨Mb + 2, k, none⟩) (World.block_lt_of_cell? wr _ hn1)).trans hn1⟩
        have hdd : Below wr.heap.size wr wr.drew := (Below.refl _ _).drew
        cases hfn : find (prs fs) nm with
        | none =>
          have HE : Hid (MeRet s.data.toList (.returned (.tuple #[.agg #[.string ⟨#[]⟩, .string ⟨#[]⟩, .string ⟨#[]⟩, .string ⟨#[]⟩, .int .i64 0, .string ⟨#[]⟩], .int .i64 5]))) := .inr (.inr ⟨hle, fs, b, HM.out, .inl ⟨hasAll_none hlt (by rw [HNM.out]; exact hfn), rfl⟩⟩)
          rw [hfn] at HF
          unfold FRet at HF
          simp only at HF
          go_wp2_with fail
          go_region_held (fun w' => Below wr.heap.size wr w' ∧ w'.cell? ⟨Mb, 0, none⟩ = some (.slice va vn vc) ∧ w'.cell? ⟨Mb, 0 + 1, none⟩ = some (.string T) ∧ w'.cell? ⟨Mb + 2, k, none⟩ = some (.string nm)) (go_keep) (first | (go_at_call 36; refine (HF.out _ (by assumption)).mono ?_; rintro e w3 ⟨rfl, hb3, p0, p1, p2⟩))
          have R5 := HR.out.keep hb3
          have k5 := HKR.out.trans (hb3.mono HKR.out.size)
          clear p0 p1 p2 m0 m1 hdd hn1
          have r0 := R5.c0
          have r1 := R5.c1
          have r2 := R5.c2
          have r3 := R5.c3
          have r4 := R5.c4
          have r5 := R5.c5
          have f0 := R5.f 0
          have f1 := R5.f 1
          have f2 := R5.f 2
          have f3 := R5.f 3
          have f4 := R5.f 4
          have f5 := R5.f 5
          go_wp2
          have A5 := R5.put (a' := .string ⟨#[]⟩) (b' := .string ⟨#[]⟩) (c' := .string ⟨#[]⟩) (d' := .string ⟨#[]⟩) (e' := .int .i64 0) (f' := .string ⟨#[]⟩)
          have b5 := put6_below (g := w.heap.size) (a := .string ⟨#[]⟩) (b := .string ⟨#[]⟩) (c := .string ⟨#[]⟩) (d := .string ⟨#[]⟩) (e := .int .i64 0) (f' := .string ⟨#[]⟩) k5 (Nat.le_refl _)
          change bodyPost _ _ _ _ _ (put6 w3 w.heap.size (.string ⟨#[]⟩) (.string ⟨#[]⟩) (.string ⟨#[]⟩) (.string ⟨#[]⟩) (.int .i64 0) (.string ⟨#[]⟩))
          generalize put6 _ _ _ _ _ _ _ _ = W5 at A5 b5 ⊢
          have d0 := A5.c0
          have d1 := A5.c1
          have d2 := A5.c2
          have d3 := A5.c3
          have d4 := A5.c4
          have d5 := A5.c5
          exact bodyPost_ret (v := .tuple #[.agg #[.string ⟨#[]⟩, .string ⟨#[]⟩, .string ⟨#[]⟩, .string ⟨#[]⟩, .int .i64 0, .string ⟨#[]⟩], .int .i64 5]) (by simp [results, Tryz.results14, go_sem, d0, d1, d2, d3, d4, d5]) rfl ⟨HE.out, b5⟩
        | some x =>
          have HFX : Hid (find (prs fs) nm = some x) := hfn
          rw [hfn] at HF
          unfold FRet at HF
          simp only at HF
          go_wp2_with fail
          go_region_held (fun w' => Below wr.heap.size wr w' ∧ w'.cell? ⟨Mb, 0, none⟩ = some (.slice va vn vc) ∧ w'.cell? ⟨Mb, 0 + 1, none⟩ = some (.string T) ∧ w'.cell? ⟨Mb + 2, k, none⟩ = some (.string nm)) (go_keep) (first | (go_at_call 36; refine (HF.out _ (by assumption)).mono ?_; rintro e w3 ⟨rfl, hb3, p0, p1, p2⟩))
          have HO5 : OwnV w3 W3.heap.size (Mb + 1) _ xs := ownV_keep HOW.out hb3
          have hk5 := HBW.out.trans (hb3.mono HBW.out.size)
          have bx := box_below w3 #[.string x] 9
          have HO6 : Hid (OwnV (w3.alloc (.cells #[.string x] 9)) W3.heap.size (Mb + 1) _ xs) := ownV_keep HO5 bx
          have HC6 : Hid ((w3.alloc (.cells #[.string x] 9)).cell? ⟨w3.heap.size, 0, none⟩ = some (.string x)) := ow.cell_new w3 [.string x] _ 0 _ rfl
          have HK6 : Hid (Below W3.heap.size W3 (w3.alloc (.cells #[.string x] 9))) := hk5.trans (bx.mono hk5.size)
          clear p0 p1 p2 m0 m1 hdd hn1 HO5 bx hk5 hb3 hfn
          go_wp2_with (at_builtin; refine wp_ownv rfl _ _ rfl W3.heap.size (Mb + 1) _ xs x w3.heap.size rfl rfl HO6.out HC6.out (by omega) HK6.out.size ?_; intro v' w7 hown7 hb7)
          have HN : Hid (OwnV w7 W3.heap.size (Mb + 1) v' (xs ++ [x]) ∧ Below W3.heap.size W3 w7) := by
            refine ⟨.inr ?_, HK6.out.trans hb7⟩
            rw [List.length_append]
            exact hown7
          clear hown7 hb7
          go_wp2
          go_roundw
          case rel => exact ⟨k + 1, xs ++ [x], by omega, by go_num, by rw [List.length_append]; simp; omega, fun j hj => by
              by_cases e : j = k
              · subst e
                rw [HNM.out, HFX.out]
                simp [List.getD_eq_getElem?_getD, hxl]
              · rw [HFD.out j (by omega)]
                simp only [List.getD_eq_getElem?_getD]
                rw [List.getElem?_append_left (by omega)], HN.out.1, HN.out.2⟩
          case measure => simp [intOf]; omega
      · have hk5 : k = 5 := by omega
        subst hk5
        have HAL : Hid (hasAll (prs fs) names = true) := hasAll_all hxl HFD.out
        have hv : ∃ gv cv, (wr.ownsRow W3.heap.size 9 1 u6 5 (xs.map Value.string)) ∧ u6 = .slice (some ⟨gv, 0, none⟩) 5 cv := by
          rcases HOW.out with ⟨e, _⟩ | h
          · rw [e] at hxl; cases hxl
          · rw [hxl] at h
            rcases h.2 with ⟨_, h0⟩ | ⟨g, cap, cur, e, _⟩
            · omega
            · exact ⟨g, cap, h, e⟩
        obtain ⟨gv, cv, hvo, rfl⟩ := hv
        have hcells : ∀ j, j < 5 → wr.cell? ⟨gv, j, none⟩ = some (.string (xs.getD j nt)) := by
          intro j hj
          have := hvo.cellAt j (by omega)
          rw [this]
          simp [List.getD_eq_getElem?_getD, show j < xs.length from by omega]
        have HCE : Hid (∀ j, j < 5 → wr.cell? ⟨gv, j, none⟩ = some (.string (xs.getD j nt))) := hcells
        have hx1 := hcells 1 (by omega)
        have hf1 := HFD.out 1 (by omega)
        have hsafe : ∀ j, j < 5 → hd.Safe (xs.getD j nt).data.toList := fun j hj => find_safe HM.out (HFD.out j hj)
        have HSF : Hid (∀ j, j < 5 → hd.Safe (xs.getD j nt).data.toList) := hsafe
        have hs1 := safe_size (hsafe 1 (by omega))
        obtain ⟨st, cd, hdr⟩ := dateR_form (prs fs)
        have hr8 : rd.r8 (xs.getD 1 nt).data.toList = .tuple #[.int .i64 st, .int .i64 cd] := by
          have h2 := hdr
          unfold dateR at h2
          have h3 : find (prs fs) nDate = some (xs.getD 1 nt) := hf1
          rw [h3] at h2
          exact h2
        have HDR : Hid (dateR (prs fs) = .tuple #[.int .i64 st, .int .i64 cd]) := hdr
        have HRD := rd.spec_822 (xs.getD 1 nt) wr (by omega)
        rw [hr8] at HRD
        have HRD' : Hid _ := HRD
        clear HRD hr8 hdr hf1 hcells hsafe hvo HOW
        generalize hX1 : xs.getD 1 nt = x1 at hx1 HRD'
        clear hX1 hs1
        go_wp2_with fail
        refine Calls.mono HRD'.out ?_
        rintro e wa ⟨rfl, ja⟩
        have Ra := HR.out.keep ja
        have ka := HKR.out.trans (ja.mono HKR.out.size)
        have Ba := HBX.out.below ja
        have HE3 : Hid (∀ (h : cd ≠ 0 ∨ (con T).2 = false), MeRet s.data.toList (.returned (.tuple #[.agg #[.string ⟨#[]⟩, .string ⟨#[]⟩, .string ⟨#[]⟩, .string ⟨#[]⟩, .int .i64 0, .string ⟨#[]⟩], .int .i64 3]))) := fun h => .inr (.inr ⟨hle, fs, b, HM.out, .inr ⟨HAL.out, st, cd, HDR.out, .inl ⟨by rw [HTb.out]; exact h, rfl⟩⟩⟩)
        have HCA : Hid (∀ j, j < 5 → wa.cell? ⟨gv, j, none⟩ = some (.string (xs.getD j nt))) := fun j hj => (ja.cell (p := ⟨gv, j, none⟩) (World.block_lt_of_cell? wr _ (HCE.out j hj))).trans (HCE.out j hj)
        clear ja HRD' hx1 HCE HR HKR HBX HBW
        by_cases hcz : cd = 0
        case neg =>
          have hcn : (cd != 0) = true := by simp [hcz]
          have HE : Hid (MeRet s.data.toList (.returned (.tuple #[.agg #[.string ⟨#[]⟩, .string ⟨#[]⟩, .string ⟨#[]⟩, .string ⟨#[]⟩, .int .i64 0, .string ⟨#[]⟩], .int .i64 3]))) := HE3.out (.inl hcz)
          have r0 := Ra.c0
          have r1 := Ra.c1
          have r2 := Ra.c2
          have r3 := Ra.c3
          have r4 := Ra.c4
          have r5 := Ra.c5
          have f0 := Ra.f 0
          have f1 := Ra.f 1
          have f2 := Ra.f 2
          have f3 := Ra.f 3
          have f4 := Ra.f 4
          have f5 := Ra.f 5
          go_wp2
          have A5 := Ra.put (a' := .string ⟨#[]⟩) (b' := .string ⟨#[]⟩) (c' := .string ⟨#[]⟩) (d' := .string ⟨#[]⟩) (e' := .int .i64 0) (f' := .string ⟨#[]⟩)
          have b5 := put6_below (g := w.heap.size) (a := .string ⟨#[]⟩) (b := .string ⟨#[]⟩) (c := .string ⟨#[]⟩) (d := .string ⟨#[]⟩) (e := .int .i64 0) (f' := .string ⟨#[]⟩) ka (Nat.le_refl _)
          change bodyPost _ _ _ _ _ (put6 wa w.heap.size (.string ⟨#[]⟩) (.string ⟨#[]⟩) (.string ⟨#[]⟩) (.string ⟨#[]⟩) (.int .i64 0) (.string ⟨#[]⟩))
          generalize put6 _ _ _ _ _ _ _ _ = W5 at A5 b5 ⊢
          have d0 := A5.c0
          have d1 := A5.c1
          have d2 := A5.c2
          have d3 := A5.c3
          have d4 := A5.c4
          have d5 := A5.c5
          exact bodyPost_ret (v := .tuple #[.agg #[.string ⟨#[]⟩, .string ⟨#[]⟩, .string ⟨#[]⟩, .string ⟨#[]⟩, .int .i64 0, .string ⟨#[]⟩], .int .i64 3]) (by simp [results, Tryz.results14, go_sem, d0, d1, d2, d3, d4, d5]) rfl ⟨HE.out, b5⟩
        subst hcz
        have q1 := Ba.c1
        by_cases h2 : T.size < 2
        · have HE : Hid (MeRet s.data.toList (.returned (.tuple #[.agg #[.string ⟨#[]⟩, .string ⟨#[]⟩, .string ⟨#[]⟩, .string ⟨#[]⟩, .int .i64 0, .string ⟨#[]⟩], .int .i64 3]))) := HE3.out (.inr (con_short h2))
          have h2' : (T.size : Int) < 2 := by omega
          have r0 := Ra.c0
          have r1 := Ra.c1
          have r2 := Ra.c2
          have r3 := Ra.c3
          have r4 := Ra.c4
          have r5 := Ra.c5
          have f0 := Ra.f 0
          have f1 := Ra.f 1
          have f2 := Ra.f 2
          have f3 := Ra.f 3
          have f4 := Ra.f 4
          have f5 := Ra.f 5
          go_wp2
          have A5 := Ra.put (a' := .string ⟨#[]⟩) (b' := .string ⟨#[]⟩) (c' := .string ⟨#[]⟩) (d' := .string ⟨#[]⟩) (e' := .int .i64 0) (f' := .string ⟨#[]⟩)
          have b5 := put6_below (g := w.heap.size) (a := .string ⟨#[]⟩) (b := .string ⟨#[]⟩) (c := .string ⟨#[]⟩) (d := .string ⟨#[]⟩) (e := .int .i64 0) (f' := .string ⟨#[]⟩) ka (Nat.le_refl _)
          change bodyPost _ _ _ _ _ (put6 wa w.heap.size (.string ⟨#[]⟩) (.string ⟨#[]⟩) (.string ⟨#[]⟩) (.string ⟨#[]⟩) (.int .i64 0) (.string ⟨#[]⟩))
          generalize put6 _ _ _ _ _ _ _ _ = W5 at A5 b5 ⊢
          have d0 := A5.c0
          have d1 := A5.c1
          have d2 := A5.c2
          have d3 := A5.c3
          have d4 := A5.c4
          have d5 := A5.c5
          exact bodyPost_ret (v := .tuple #[.agg #[.string ⟨#[]⟩, .string ⟨#[]⟩, .string ⟨#[]⟩, .string ⟨#[]⟩, .int .i64 0, .string ⟨#[]⟩], .int .i64 3]) (by simp [results, Tryz.results14, go_sem, d0, d1, d2, d3, d4, d5]) rfl ⟨HE.out, b5⟩
        have h2' : ¬ (T.size : Int) < 2 := by omega
        have hcb := con_body (T := T) (by rw [← HTb.out]; simpa using body_ends HM.out) (by omega) hTs
        have HUN := qu.specUn_any (T.extract 0 (T.size - 2)) wa (by rw [ByteArray.size_extract]; omega)
        have HUN' : Hid _ := HUN
        have HCB : Hid (con T = match qu.uq (T.extract 0 (T.size - 2)).data.toList with | some o => (⟨(lfp.lfr o).toArray⟩, true) | none => (⟨#[]⟩, false)) := hcb
        clear HUN hcb
        have hlen := uq_bound (T.extract 0 (T.size - 2)).data.toList
        have hex : (T.extract 0 (T.size - 2)).size ≤ 65536 := by rw [ByteArray.size_extract]; omega
        have hex2 : (T.extract 0 (T.size - 2)).data.toList.length ≤ 65536 := hex
        obtain ⟨o, ho⟩ : ∃ o, qu.uq (T.extract 0 (T.size - 2)).data.toList = o := ⟨_, rfl⟩
        rw [ho] at HUN' HCB hlen
        have hms : (T.size : Int) - 2 = ((T.size - 2 : Nat) : Int) := by omega
        go_wp2_with fail
        refine Calls.mono HUN'.out ?_
        rintro e wb ⟨⟨bv, rfl, hbo⟩, jb⟩
        have Rb := Ra.keep jb
        have kb := ka.trans (jb.mono ka.size)
        have HCBb : Hid (∀ j, j < 5 → wb.cell? ⟨gv, j, none⟩ = some (.string (xs.getD j nt))) := fun j hj => (jb.cell (p := ⟨gv, j, none⟩) (World.block_lt_of_cell? wa _ (HCA.out j hj))).trans (HCA.out j hj)
        have HRDb : Hid (ow.Reads .u8 wb bv (b6.bz (o.getD []))) := ow.reads_lies (ow.lies_own hbo)
        obtain ⟨ob, hob⟩ : ∃ b, o.isSome = b := ⟨_, rfl⟩
        rw [hob]
        clear HUN' HCA Ra ka Ba q1 jb hbo ho hms
        go_wp2_with fail
        have hf0 := HFD.out 0 (by omega)
        have hf2 := HFD.out 2 (by omega)
        have hf3 := HFD.out 3 (by omega)
        have hf4 := HFD.out 4 (by omega)
        have D : ∀ (j : Nat) (hj : j < 5) (nm : ByteArray) (hn : names.getD j nt = nm), Hid (∀ W, Calls Tryz.prog 39 #[.string (xs.getD j nt)] W fun e w' => (∃ r, Dv (prs fs) nm r ∧ e = .returned (.string r)) ∧ Below W.heap.size W w') := by
          intro j hj nm hn W
          refine (hd.specDecode_any (xs.getD j nt) W (safe_size (HSF.out j hj))).mono ?_
          rintro e w' ⟨⟨r, he, hr⟩, hb⟩
          refine ⟨⟨r, ?_, he⟩, hb⟩
          unfold Dv
          rw [← hn, HFD.out j hj]
          exact hr
        have D0 := D 0 (by omega) nFrom rfl
        have D2 := D 2 (by omega) nSubj rfl
        have D3 := D 3 (by omega) nXid rfl
        have D4 := D 4 (by omega) nXlnk rfl
        have SZ : Hid (∀ nm ∈ names, ∀ r, Dv (prs fs) nm r → r.size ≤ 2001) := by
          intro nm hnm r hr
          obtain ⟨j, hj, rfl⟩ := List.mem_iff_getElem.1 hnm
          have hj5 : j < 5 := hj
          have h1 := HFD.out j hj5
          rw [List.getD_eq_getElem?_getD, List.getElem?_eq_getElem hj] at h1
          exact dv_size h1 (HSF.out j hj5) hr
        have C0 : Hid _ := HCBb.out 0 (by omega)
        have C2 : Hid _ := HCBb.out 2 (by omega)
        have C3 : Hid _ := HCBb.out 3 (by omega)
        have C4 : Hid _ := HCBb.out 4 (by omega)
        clear D hf0 hf2 hf3 hf4 HFD HSF HCBb
        generalize xs.getD 0 nt = x0 at D0 C0
        generalize xs.getD 2 nt = x2 at D2 C2
        generalize xs.getD 3 nt = x3 at D3 C3
        generalize xs.getD 4 nt = x4 at D4 C4
        obtain ⟨C, hC⟩ : ∃ C : ByteArray, (⟨(lfp.lfr (o.getD [])).toArray⟩ : ByteArray) = C := ⟨_, rfl⟩
        have hCs : C.size ≤ 1048576 := by
          rw [← hC]
          show (lfp.lfr (o.getD [])).toArray.size ≤ _
          have h1 := lfp.lfr_len (o.getD [])
          simp only [List.size_toArray]
          omega
        have DL : Hid (∀ W, Below wb.heap.size wb W → Calls Tryz.prog 40 #[bv] W fun e w' => e = .returned (.string C) ∧ Below W.heap.size W w') := by
          intro W hW
          rw [← hC]
          exact lfp.lf_any bv (o.getD []) W (ow.reads_below HRDb.out hW) (by omega)
        have HCT : Hid (ob = true → con T = (C, true)) := by
          intro h
          have h1 := HCB.out
          cases o with
          | none => rw [← hob] at h; cases h
          | some y => rw [h1, ← hC]; rfl
        have HCF : Hid (ob = false → (con T).2 = false) := by
          intro h
          have h1 := HCB.out
          cases o with
          | none => rw [h1]
          | some y => rw [← hob] at h; cases h
        have HR4 : Hid (L6 wb w.heap.size (.string ⟨#[]⟩) (.string ⟨#[]⟩) (.string ⟨#[]⟩) (.string ⟨#[]⟩) (.int .i64 0) (.string ⟨#[]⟩)) := Rb
        have HK4 : Hid (Below w.heap.size w wb) := kb
        clear HRDb hC hlen hex hex2 HCB hob Rb kb
        obtain ⟨wr, hwr⟩ : ∃ wr, wb = wr := ⟨_, rfl⟩
        rw [hwr] at C0 C2 C3 C4 DL HR4 HK4 ⊢
        clear hwr
        obtain ⟨ps, hps⟩ : ∃ ps, prs fs = ps := ⟨_, rfl⟩
        have HPS : Hid (prs fs = ps) := hps
        rw [hps] at D0 D2 D3 D4 SZ
        clear hps
        refine rq.region_rel2 (by kernel_rfl) (fun f => { tmps := List.toArray ((.string s) :: (undef) :: (.pointer (some ⟨w.heap.size, 0, none⟩)) :: (u3) :: (.pointer (some ⟨Mb, 0, none⟩)) :: (.int .i64 0) :: (.slice (some ⟨gv, 0, none⟩) 5 cv) :: (.slice (some ⟨Mb + 1 + 1, 0, none⟩) 5 5) :: (.int .i64 5) :: (u9) :: (u10) :: (.int .i64 st) :: (bv) :: (.bool ob) :: (f 20) :: (.string s) :: (.int .i64 s.size) :: (.bool (decide (65536 < (s.size : Int)))) :: (undef) :: (.tuple #[.agg #[.slice va vn vc, .string T], .int .i64 0]) :: (.string s) :: (.tuple #[.agg #[.slice va vn vc, .string T], .int .i64 0]) :: (.agg #[.slice va vn vc, .string T]) :: (.int .i64 0) :: (.int .i64 0) :: (.bool false) :: (undef) :: (undef) :: (.slice (some ⟨Mb + 1, 0, none⟩) 0 0) :: (.slice (some ⟨Mb + 1 + 1, 0, none⟩) 5 5) :: (.int .i64 5) :: (.bool false) :: (u32) :: (u33) :: (u34) :: (u35) :: (u36) :: (u37) :: (u38) :: (u39) :: (u40) :: (u41) :: (u42) :: (u43) :: (u44) :: (u45) :: (u46) :: (u47) :: (u48) :: (u49) :: (.tuple #[.int .i64 st, .int .i64 0]) :: (.slice (some ⟨gv, 0, none⟩) 5 cv) :: (.pointer (some ⟨gv, 1, none⟩)) :: (.string x1) :: (.tuple #[.int .i64 st, .int .i64 0]) :: (.int .i64 st) :: (.int .i64 0) :: (.int .i64 0) :: (.bool false) :: (undef) :: (.pointer (some ⟨Mb, 1, none⟩)) :: (.string T) :: (.int .i64 T.size) :: (.bool (decide ((T.size : Int) < 2))) :: (undef) :: (.tuple #[bv, .bool ob]) :: (.pointer (some ⟨Mb, 1, none⟩)) :: (.string T) :: (.pointer (some ⟨Mb, 1, none⟩)) :: (.string T) :: (.int .i64 T.size) :: (.int .i64 ((T.size - 2 : Nat) : Int)) :: (.string (T.extract 0 (T.size - 2))) :: (.tuple #[bv, .bool ob]) :: (bv) :: (.bool ob) :: (f 0) :: (f 1) :: (f 2) :: (f 3) :: (f 4) :: (f 5) :: (f 6) :: (f 7) :: (f 8) :: (f 9) :: (f 10) :: (f 11) :: (f 12) :: (f 13) :: (f 14) :: (f 15) :: (f 16) :: (f 17) :: (f 18) :: (f 19) :: (undef) :: (undef) :: (undef) :: (undef) :: (undef) :: (undef) :: (undef) :: (undef) :: (undef) :: []), defers := [] }) (fun w' => Below wr.heap.size wr w') (RS ps gv cv x0 x2 x3 x4 bv st C wr.heap.size) (fun _ => undef) rfl ((Below.refl _ _).drew) (rq.deps_of (by kernel_rfl)) ?_ ?_

        · intro i' o' ho D f w hc hR hall hni hcl hV
          match i', ho with
          | 0, ho =>
              cases ho
              have HRR : Hid (∀ j, D j → RS ps gv cv x0 x2 x3 x4 bv st C wr.heap.size j f w) := hR
              clear hR hall hcl hV
              refine wpOp_step rfl (fun K' hK => ?_)
              go_simp
              exact hK _ _ ⟨.slice (some ⟨gv, 0, none⟩) 5 cv, by simp [rq.upd], hc, rq.upd_same f 0 _, fun j hj hd => rs_upd hj (by omega) (HRR.out j hd)⟩
          | 1, ho =>
              cases ho
              have d0 : D 0 := hall { on := 0, ground := Ground.data } (by simp) rfl
              have HRR : Hid (∀ j, D j → RS ps gv cv x0 x2 x3 x4 bv st C wr.heap.size j f w) := hR
              have h0 : f 0 = .slice (some ⟨gv, 0, none⟩) 5 cv := hR 0 d0
              clear hR hall hcl hV
              refine wpOp_step rfl (fun K' hK => ?_)
              simp only [h0]
              go_simp
              exact hK _ _ ⟨.pointer (some ⟨gv, 0, none⟩), by simp [rq.upd, h0], hc, rq.upd_same f 1 _, fun j hj hd => rs_upd hj (by omega) (HRR.out j hd)⟩
          | 2, ho =>
              cases ho
              have d1 : D 1 := hall { on := 1, ground := Ground.data } (by simp) rfl
              have HRR : Hid (∀ j, D j → RS ps gv cv x0 x2 x3 x4 bv st C wr.heap.size j f w) := hR
              have h1 : f 1 = .pointer (some ⟨gv, 0, none⟩) := hR 1 d1
              have q0 := (hc.cell (p := ⟨gv, 0, none⟩) (World.block_lt_of_cell? wr _ C0.out)).trans C0.out
              clear hR hall hcl hV
              refine wpOp_step rfl (fun K' hK => ?_)
              simp only [h1]
              go_simp
              exact hK _ _ ⟨.string x0, by simp [rq.upd, h1], hc, rq.upd_same f 2 _, fun j hj hd => rs_upd hj (by omega) (HRR.out j hd)⟩
          | 3, ho =>
              cases ho
              have d2 : D 2 := hall { on := 2, ground := Ground.data } (by simp) rfl
              have HRR : Hid (∀ j, D j → RS ps gv cv x0 x2 x3 x4 bv st C wr.heap.size j f w) := hR
              have h2 : f 2 = .string x0 := hR 2 d2
              have HPL : Hid _ := D0.out w
              clear hR hall hcl hV
              refine wpOp_step rfl (fun K' hK => ?_)
              simp only [h2]
              go_wp2_with (go_at_call 39; refine Calls.mono HPL.out ?_; rintro e w' ⟨⟨r, hr, rfl⟩, hb⟩)
              exact ⟨.string r, by simp [rq.upd, h2], hc.trans (hb.mono hc.size), ⟨r, hr, rq.upd_same f 3 _⟩, fun j hj hd => rs_keep (rs_upd hj (by omega) (HRR.out j hd)) hb⟩
          | 4, ho =>
              cases ho
              have HRR : Hid (∀ j, D j → RS ps gv cv x0 x2 x3 x4 bv st C wr.heap.size j f w) := hR
              clear hR hall hcl hV
              refine wpOp_step rfl (fun K' hK => ?_)
              go_simp
              exact hK _ _ ⟨.int .i64 st, by simp [rq.upd], hc, rq.upd_same f 4 _, fun j hj hd => rs_upd hj (by omega) (HRR.out j hd)⟩
          | 5, ho =>
              cases ho
              have HRR : Hid (∀ j, D j → RS ps gv cv x0 x2 x3 x4 bv st C wr.heap.size j f w) := hR
              clear hR hall hcl hV
              refine wpOp_step rfl (fun K' hK => ?_)
              go_simp
              exact hK _ _ ⟨.slice (some ⟨gv, 0, none⟩) 5 cv, by simp [rq.upd], hc, rq.upd_same f 5 _, fun j hj hd => rs_upd hj (by omega) (HRR.out j hd)⟩
          | 6, ho =>
              cases ho
              have d5 : D 5 := hall { on := 5, ground := Ground.data } (by simp) rfl
              have HRR : Hid (∀ j, D j → RS ps gv cv x0 x2 x3 x4 bv st C wr.heap.size j f w) := hR
              have h5 : f 5 = .slice (some ⟨gv, 0, none⟩) 5 cv := hR 5 d5
              clear hR hall hcl hV
              refine wpOp_step rfl (fun K' hK => ?_)
              simp only [h5]
              go_simp
              exact hK _ _ ⟨.pointer (some ⟨gv, 2, none⟩), by simp [rq.upd, h5], hc, rq.upd_same f 6 _, fun j hj hd => rs_upd hj (by omega) (HRR.out j hd)⟩
          | 7, ho =>
              cases ho
              have d6 : D 6 := hall { on := 6, ground := Ground.data } (by simp) rfl
              have HRR : Hid (∀ j, D j → RS ps gv cv x0 x2 x3 x4 bv st C wr.heap.size j f w) := hR
              have h6 : f 6 = .pointer (some ⟨gv, 2, none⟩) := hR 6 d6
              have q0 := (hc.cell (p := ⟨gv, 2, none⟩) (World.block_lt_of_cell? wr _ C2.out)).trans C2.out
              clear hR hall hcl hV
              refine wpOp_step rfl (fun K' hK => ?_)
              simp only [h6]
              go_simp
              exact hK _ _ ⟨.string x2, by simp [rq.upd, h6], hc, rq.upd_same f 7 _, fun j hj hd => rs_upd hj (by omega) (HRR.out j hd)⟩
          | 8, ho =>
              cases ho
              have d7 : D 7 := hall { on := 7, ground := Ground.data } (by simp) rfl
              have HRR : Hid (∀ j, D j → RS ps gv cv x0 x2 x3 x4 bv st C wr.heap.size j f w) := hR
              have h7 : f 7 = .string x2 := hR 7 d7
              have HPL : Hid _ := D2.out w
              clear hR hall hcl hV
              refine wpOp_step rfl (fun K' hK => ?_)
              simp only [h7]
              go_wp2_with (go_at_call 39; refine Calls.mono HPL.out ?_; rintro e w' ⟨⟨r, hr, rfl⟩, hb⟩)
              exact ⟨.string r, by simp [rq.upd, h7], hc.trans (hb.mono hc.size), ⟨r, hr, rq.upd_same f 8 _⟩, fun j hj hd => rs_keep (rs_upd hj (by omega) (HRR.out j hd)) hb⟩
          | 9, ho =>
              cases ho
              have HRR : Hid (∀ j, D j → RS ps gv cv x0 x2 x3 x4 bv st C wr.heap.size j f w) := hR
              clear hR hall hcl hV
              refine wpOp_step rfl (fun K' hK => ?_)
              go_simp
              exact hK _ _ ⟨.slice (some ⟨gv, 0, none⟩) 5 cv, by simp [rq.upd], hc, rq.upd_same f 9 _, fun j hj hd => rs_upd hj (by omega) (HRR.out j hd)⟩
          | 10, ho =>
              cases ho
              have d9 : D 9 := hall { on := 9, ground := Ground.data } (by simp) rfl
              have HRR : Hid (∀ j, D j → RS ps gv cv x0 x2 x3 x4 bv st C wr.heap.size j f w) := hR
              have h9 : f 9 = .slice (some ⟨gv, 0, none⟩) 5 cv := hR 9 d9
              clear hR hall hcl hV
              refine wpOp_step rfl (fun K' hK => ?_)
              simp only [h9]
              go_simp
              exact hK _ _ ⟨.pointer (some ⟨gv, 3, none⟩), by simp [rq.upd, h9], hc, rq.upd_same f 10 _, fun j hj hd => rs_upd hj (by omega) (HRR.out j hd)⟩
          | 11, ho =>
              cases ho
              have d10 : D 10 := hall { on := 10, ground := Ground.data } (by simp) rfl
              have HRR : Hid (∀ j, D j → RS ps gv cv x0 x2 x3 x4 bv st C wr.heap.size j f w) := hR
              have h10 : f 10 = .pointer (some ⟨gv, 3, none⟩) := hR 10 d10
              have q0 := (hc.cell (p := ⟨gv, 3, none⟩) (World.block_lt_of_cell? wr _ C3.out)).trans C3.out
              clear hR hall hcl hV
              refine wpOp_step rfl (fun K' hK => ?_)
              simp only [h10]
              go_simp
              exact hK _ _ ⟨.string x3, by simp [rq.upd, h10], hc, rq.upd_same f 11 _, fun j hj hd => rs_upd hj (by omega) (HRR.out j hd)⟩
          | 12, ho =>
              cases ho
              have d11 : D 11 := hall { on := 11, ground := Ground.data } (by simp) rfl
              have HRR : Hid (∀ j, D j → RS ps gv cv x0 x2 x3 x4 bv st C wr.heap.size j f w) := hR
              have h11 : f 11 = .string x3 := hR 11 d11
              have HPL : Hid _ := D3.out w
              clear hR hall hcl hV
              refine wpOp_step rfl (fun K' hK => ?_)
              simp only [h11]
              go_wp2_with (go_at_call 39; refine Calls.mono HPL.out ?_; rintro e w' ⟨⟨r, hr, rfl⟩, hb⟩)
              exact ⟨.string r, by simp [rq.upd, h11], hc.trans (hb.mono hc.size), ⟨r, hr, rq.upd_same f 12 _⟩, fun j hj hd => rs_keep (rs_upd hj (by omega) (HRR.out j hd)) hb⟩
          | 13, ho =>
              cases ho
              have HRR : Hid (∀ j, D j → RS ps gv cv x0 x2 x3 x4 bv st C wr.heap.size j f w) := hR
              clear hR hall hcl hV
              refine wpOp_step rfl (fun K' hK => ?_)
              go_simp
              exact hK _ _ ⟨.slice (some ⟨gv, 0, none⟩) 5 cv, by simp [rq.upd], hc, rq.upd_same f 13 _, fun j hj hd => rs_upd hj (by omega) (HRR.out j hd)⟩
          | 14, ho =>
              cases ho
              have d13 : D 13 := hall { on := 13, ground := Ground.data } (by simp) rfl
              have HRR : Hid (∀ j, D j → RS ps gv cv x0 x2 x3 x4 bv st C wr.heap.size j f w) := hR
              have h13 : f 13 = .slice (some ⟨gv, 0, none⟩) 5 cv := hR 13 d13
              clear hR hall hcl hV
              refine wpOp_step rfl (fun K' hK => ?_)
              simp only [h13]
              go_simp
              exact hK _ _ ⟨.pointer (some ⟨gv, 4, none⟩), by simp [rq.upd, h13], hc, rq.upd_same f 14 _, fun j hj hd => rs_upd hj (by omega) (HRR.out j hd)⟩
          | 15, ho =>
              cases ho
              have d14 : D 14 := hall { on := 14, ground := Ground.data } (by simp) rfl
              have HRR : Hid (∀ j, D j → RS ps gv cv x0 x2 x3 x4 bv st C wr.heap.size j f w) := hR
              have h14 : f 14 = .pointer (some ⟨gv, 4, none⟩) := hR 14 d14
              have q0 := (hc.cell (p := ⟨gv, 4, none⟩) (World.block_lt_of_cell? wr _ C4.out)).trans C4.out
              clear hR hall hcl hV
              refine wpOp_step rfl (fun K' hK => ?_)
              simp only [h14]
              go_simp
              exact hK _ _ ⟨.string x4, by simp [rq.upd, h14], hc, rq.upd_same f 15 _, fun j hj hd => rs_upd hj (by omega) (HRR.out j hd)⟩
          | 16, ho =>
              cases ho
              have d15 : D 15 := hall { on := 15, ground := Ground.data } (by simp) rfl
              have HRR : Hid (∀ j, D j → RS ps gv cv x0 x2 x3 x4 bv st C wr.heap.size j f w) := hR
              have h15 : f 15 = .string x4 := hR 15 d15
              have HPL : Hid _ := D4.out w
              clear hR hall hcl hV
              refine wpOp_step rfl (fun K' hK => ?_)
              simp only [h15]
              go_wp2_with (go_at_call 39; refine Calls.mono HPL.out ?_; rintro e w' ⟨⟨r, hr, rfl⟩, hb⟩)
              exact ⟨.string r, by simp [rq.upd, h15], hc.trans (hb.mono hc.size), ⟨r, hr, rq.upd_same f 16 _⟩, fun j hj hd => rs_keep (rs_upd hj (by omega) (HRR.out j hd)) hb⟩
          | 17, ho =>
              cases ho
              have HRR : Hid (∀ j, D j → RS ps gv cv x0 x2 x3 x4 bv st C wr.heap.size j f w) := hR
              clear hR hall hcl hV
              refine wpOp_step rfl (fun K' hK => ?_)
              go_simp
              exact hK _ _ ⟨bv, by simp [rq.upd], hc, rq.upd_same f 17 _, fun j hj hd => rs_upd hj (by omega) (HRR.out j hd)⟩
          | 18, ho =>
              cases ho
              have d17 : D 17 := hall { on := 17, ground := Ground.data } (by simp) rfl
              have HRR : Hid (∀ j, D j → RS ps gv cv x0 x2 x3 x4 bv st C wr.heap.size j f w) := hR
              have h17 : f 17 = bv := hR 17 d17
              have HPL : Hid _ := DL.out w hc
              clear hR hall hcl hV
              refine wpOp_step rfl (fun K' hK => ?_)
              simp only [h17]
              go_wp2_with (go_at_call 40; refine Calls.mono HPL.out ?_; rintro e w' ⟨rfl, hb⟩)
              exact ⟨.string C, by simp [rq.upd, h17], hc.trans (hb.mono hc.size), rq.upd_same f 18 _, fun j hj hd => rs_keep (rs_upd hj (by omega) (HRR.out j hd)) hb⟩
          | 19, ho =>
              cases ho
              have d3 : D 3 := hall { on := 3, ground := Ground.data } (by simp) rfl
              have d4 : D 4 := hall { on := 4, ground := Ground.data } (by simp) rfl
              have d8 : D 8 := hall { on := 8, ground := Ground.data } (by simp) rfl
              have d12 : D 12 := hall { on := 12, ground := Ground.data } (by simp) rfl
              have d16 : D 16 := hall { on := 16, ground := Ground.data } (by simp) rfl
              have d18 : D 18 := hall { on := 18, ground := Ground.data } (by simp) rfl
              have HRR : Hid (∀ j, D j → RS ps gv cv x0 x2 x3 x4 bv st C wr.heap.size j f w) := hR
              obtain ⟨ra, da, h3⟩ : ∃ r, Dv ps nFrom r ∧ f 3 = .string r := hR 3 d3
              have h4 : f 4 = .int .i64 st := hR 4 d4
              obtain ⟨rt, dt, h8⟩ : ∃ r, Dv ps nSubj r ∧ f 8 = .string r := hR 8 d8
              obtain ⟨ri, di, h12⟩ : ∃ r, Dv ps nXid r ∧ f 12 = .string r := hR 12 d12
              obtain ⟨rl, dl, h16⟩ : ∃ r, Dv ps nXlnk r ∧ f 16 = .string r := hR 16 d16
              have h18 : f 18 = .string C := hR 18 d18
              clear hR hall hcl hV
              refine wpOp_step rfl (fun K' hK => ?_)
              simp only [h3, h4, h8, h12, h16, h18]
              go_simp
              exact hK _ _ ⟨.agg #[.string ri, .string rt, .string rl, .string ra, .int .i64 st, .string C], by simp [rq.upd, h3, h4, h8, h12, h16, h18], hc, ⟨ri, rt, rl, ra, di, dt, dl, da, rq.upd_same f 19 _⟩, fun j hj hd => rs_upd hj (by omega) (HRR.out j hd)⟩
          | 20, ho =>
              cases ho
              have HRR : Hid (∀ j, D j → RS ps gv cv x0 x2 x3 x4 bv st C wr.heap.size j f w) := hR
              have hnb : ¬ D 21 := fun h8 => hni (hcl 21 _ h8 rfl { on := 20, ground := Ground.data } (by simp) rfl)
              have hnew := l6_new w (.string ⟨#[]⟩) (.string ⟨#[]⟩) (.string ⟨#[]⟩) (.string ⟨#[]⟩) (.int .i64 0) (.string ⟨#[]⟩)
              have hbn := box_below w #[.string ⟨#[]⟩, .string ⟨#[]⟩, .string ⟨#[]⟩, .string ⟨#[]⟩, .int .i64 0, .string ⟨#[]⟩] 24
              have hcs2 := hc.size
              clear hR hall hcl hV
              refine wpOp_step rfl (fun K' hK => ?_)
              go_simp
              exact hK _ _ ⟨.pointer (some ⟨w.heap.size, 0, none⟩), by simp [rq.upd], hc.trans (hbn.mono hc.size), ⟨w.heap.size, hcs2, rq.upd_same f 20 _, _, _, _, _, _, _, hnew⟩, fun j hj hd => rs_keep (rs_upd hj (fun e => hnb (e.1 ▸ hd)) (HRR.out j hd)) hbn⟩
          | 21, ho =>
              cases ho
              have d20 : D 20 := hall { on := 20, ground := Ground.data } (by simp) rfl
              have d19 : D 19 := hall { on := 19, ground := Ground.data } (by simp) rfl
              have HRR : Hid (∀ j, D j → RS ps gv cv x0 x2 x3 x4 bv st C wr.heap.size j f w) := hR
              obtain ⟨g, g1, h20, z0, z1, z2, z3, z4, z5, hbx⟩ : ∃ g : Nat, wr.heap.size ≤ g ∧ f 20 = .pointer (some ⟨g, 0, none⟩) ∧ ∃ a b c d e f', L6 w g a b c d e f' := hR 20 d20
              obtain ⟨ri, rt, rl, ra, di, dt, dl, da, h19⟩ : ∃ ri rt rl ra, Dv ps nXid ri ∧ Dv ps nSubj rt ∧ Dv ps nXlnk rl ∧ Dv ps nFrom ra ∧ f 19 = .agg #[.string ri, .string rt, .string rl, .string ra, .int .i64 st, .string C] := hR 19 d19
              have r0 := hbx.c0
              have r1 := hbx.c1
              have r2 := hbx.c2
              have r3 := hbx.c3
              have r4 := hbx.c4
              have r5 := hbx.c5
              have f0 := hbx.f 0
              have f1 := hbx.f 1
              have f2 := hbx.f 2
              have f3 := hbx.f 3
              have f4 := hbx.f 4
              have f5 := hbx.f 5
              have HPU : Hid _ := hbx.put (a' := .string ri) (b' := .string rt) (c' := .string rl) (d' := .string ra) (e' := .int .i64 st) (f' := .string C)
              have HBP : Hid _ := put6_below (g := g) (a := .string ri) (b := .string rt) (c := .string rl) (d := .string ra) (e := .int .i64 st) (f' := .string C) hc g1
              clear hR hall hcl hV hbx
              refine wpOp_step rfl (fun K' hK => ?_)
              simp only [h20, h19]
              go_simp
              exact hK _ _ ⟨undef, by simp [rq.upd, h20, h19], HBP.out, ⟨g, ri, rt, rl, ra, g1, di, dt, dl, da, (rq.upd_other f 21 undef (by omega)).trans h20, HPU.out⟩, fun j hj hd => rs_put hj h20 HPU.out (HRR.out j hd)⟩
          | k + 22, ho => simp at ho
        · intro f w5 hc hR
          obtain ⟨g, ri, rt, rl, ra, g1, di, dt, dl, da, h20, hbx⟩ : ∃ (g : Nat) (ri rt rl ra : ByteArray), wr.heap.size ≤ g ∧ Dv ps nXid ri ∧ Dv ps nSubj rt ∧ Dv ps nXlnk rl ∧ Dv ps nFrom ra ∧ f 20 = .pointer (some ⟨g, 0, none⟩) ∧ L6 w5 g (.string ri) (.string rt) (.string rl) (.string ra) (.int .i64 st) (.string C) := hR 21 (by simp)
          clear hR
          have HR5 : Hid (L6 w5 w.heap.size (.string ⟨#[]⟩) (.string ⟨#[]⟩) (.string ⟨#[]⟩) (.string ⟨#[]⟩) (.int .i64 0) (.string ⟨#[]⟩)) := HR4.out.keep hc
          have HB5 : Hid (Below w.heap.size w w5) := HK4.out.trans (hc.mono HK4.out.size)
          have HG5 : Hid (L6 w5 g (.string ri) (.string rt) (.string rl) (.string ra) (.int .i64 st) (.string C)) := hbx
          have HDS : Hid (Dv ps nXid ri ∧ Dv ps nSubj rt ∧ Dv ps nXlnk rl ∧ Dv ps nFrom ra) := ⟨di, dt, dl, da⟩
          have hSm : en.Small ⟨ri, rt, rl, ra, st, C⟩ := by
            have s1 := SZ.out nXid (by simp [names]) ri di
            have s2 := SZ.out nSubj (by simp [names]) rt dt
            have s3 := SZ.out nXlnk (by simp [names]) rl dl
            have s4 := SZ.out nFrom (by simp [names]) ra da
            exact ⟨by show ri.size ≤ _; omega, by show rt.size ≤ _; omega, by show rl.size ≤ _; omega, by show ra.size ≤ _; omega, hCs⟩
          simp only [h20]
          clear h20 hc hbx di dt dl da D0 D2 D3 D4 SZ C0 C2 C3 C4 DL
          cases ob with
          | false =>
            have HE : Hid (MeRet s.data.toList (.returned (.tuple #[.agg #[.string ⟨#[]⟩, .string ⟨#[]⟩, .string ⟨#[]⟩, .string ⟨#[]⟩, .int .i64 0, .string ⟨#[]⟩], .int .i64 3]))) := HE3.out (.inr (HCF.out rfl))
            clear HCT HCF HE3
            have r0 := HR5.out.c0
            have r1 := HR5.out.c1
            have r2 := HR5.out.c2
            have r3 := HR5.out.c3
            have r4 := HR5.out.c4
            have r5 := HR5.out.c5
            have f0 := HR5.out.f 0
            have f1 := HR5.out.f 1
            have f2 := HR5.out.f 2
            have f3 := HR5.out.f 3
            have f4 := HR5.out.f 4
            have f5 := HR5.out.f 5
            go_wp2
            have A5 := HR5.out.put (a' := .string ⟨#[]⟩) (b' := .string ⟨#[]⟩) (c' := .string ⟨#[]⟩) (d' := .string ⟨#[]⟩) (e' := .int .i64 0) (f' := .string ⟨#[]⟩)
            have b5 := put6_below (g := w.heap.size) (a := .string ⟨#[]⟩) (b := .string ⟨#[]⟩) (c := .string ⟨#[]⟩) (d := .string ⟨#[]⟩) (e := .int .i64 0) (f' := .string ⟨#[]⟩) HB5.out (Nat.le_refl _)
            change bodyPost _ _ _ _ _ (put6 w5 w.heap.size (.string ⟨#[]⟩) (.string ⟨#[]⟩) (.string ⟨#[]⟩) (.string ⟨#[]⟩) (.int .i64 0) (.string ⟨#[]⟩))
            generalize put6 _ _ _ _ _ _ _ _ = W5 at A5 b5 ⊢
            have d0 := A5.c0
            have d1 := A5.c1
            have d2 := A5.c2
            have d3 := A5.c3
            have d4 := A5.c4
            have d5 := A5.c5
            exact bodyPost_ret (v := .tuple #[.agg #[.string ⟨#[]⟩, .string ⟨#[]⟩, .string ⟨#[]⟩, .string ⟨#[]⟩, .int .i64 0, .string ⟨#[]⟩], .int .i64 3]) (by simp [results, Tryz.results14, go_sem, d0, d1, d2, d3, d4, d5]) rfl ⟨HE.out, b5⟩
          | true =>
            have HEK0 := fun W => en.spec_eok ⟨ri, rt, rl, ra, st, C⟩ W hSm
            have hcon := HCT.out rfl
            cases hek : en.eok ⟨ri, rt, rl, ra, st, C⟩ with
            | false =>
              rw [hek] at HEK0
              have HEK : Hid _ := HEK0
              unfold en.EV en.cl at HEK
              simp only at HEK
              have HE : Hid (MeRet s.data.toList (.returned (.tuple #[.agg #[.string ⟨#[]⟩, .string ⟨#[]⟩, .string ⟨#[]⟩, .string ⟨#[]⟩, .int .i64 0, .string ⟨#[]⟩], .int .i64 3]))) := .inr (.inr ⟨hle, fs, b, HM.out, .inr ⟨HAL.out, st, 0, HDR.out, .inr ⟨rfl, by rw [HTb.out, hcon], ri, rt, rl, ra, by rw [HPS.out]; exact HDS.out.1, by rw [HPS.out]; exact HDS.out.2.1, by rw [HPS.out]; exact HDS.out.2.2.1, by rw [HPS.out]; exact HDS.out.2.2.2, .inr ⟨by rw [HTb.out, hcon]; exact hek, rfl⟩⟩⟩⟩)
              clear HCT HCF HE3 HEK0 hcon hek hSm
              have p0 := HG5.out.c0
              have p1 := HG5.out.c1
              have p2 := HG5.out.c2
              have p3 := HG5.out.c3
              have p4 := HG5.out.c4
              have p5 := HG5.out.c5
              go_wp2_with (go_at_call 21; refine Calls.mono (HEK.out _) ?_; rintro e w6 ⟨rfl, k6⟩; have HR6 : Hid (L6 w6 w.heap.size (.string ⟨#[]⟩) (.string ⟨#[]⟩) (.string ⟨#[]⟩) (.string ⟨#[]⟩) (.int .i64 0) (.string ⟨#[]⟩)) := HR5.out.keep k6; have HB6 : Hid (Below w.heap.size w w6) := HB5.out.trans (k6.mono HB5.out.size); have r0 := HR6.out.c0; have r1 := HR6.out.c1; have r2 := HR6.out.c2; have r3 := HR6.out.c3; have r4 := HR6.out.c4; have r5 := HR6.out.c5; have f0 := HR6.out.f 0; have f1 := HR6.out.f 1; have f2 := HR6.out.f 2; have f3 := HR6.out.f 3; have f4 := HR6.out.f 4; have f5 := HR6.out.f 5; clear k6 p0 p1 p2 p3 p4 p5)
              have A5 := HR6.out.put (a' := .string ⟨#[]⟩) (b' := .string ⟨#[]⟩) (c' := .string ⟨#[]⟩) (d' := .string ⟨#[]⟩) (e' := .int .i64 0) (f' := .string ⟨#[]⟩)
              have b5 := put6_below (g := w.heap.size) (a := .string ⟨#[]⟩) (b := .string ⟨#[]⟩) (c := .string ⟨#[]⟩) (d := .string ⟨#[]⟩) (e := .int .i64 0) (f' := .string ⟨#[]⟩) HB6.out (Nat.le_refl _)
              change bodyPost _ _ _ _ _ (put6 w6 w.heap.size (.string ⟨#[]⟩) (.string ⟨#[]⟩) (.string ⟨#[]⟩) (.string ⟨#[]⟩) (.int .i64 0) (.string ⟨#[]⟩))
              generalize put6 _ _ _ _ _ _ _ _ = W5 at A5 b5 ⊢
              have d0 := A5.c0
              have d1 := A5.c1
              have d2 := A5.c2
              have d3 := A5.c3
              have d4 := A5.c4
              have d5 := A5.c5
              exact bodyPost_ret (v := .tuple #[.agg #[.string ⟨#[]⟩, .string ⟨#[]⟩, .string ⟨#[]⟩, .string ⟨#[]⟩, .int .i64 0, .string ⟨#[]⟩], .int .i64 3]) (by simp [results, Tryz.results14, go_sem, d0, d1, d2, d3, d4, d5]) rfl ⟨HE.out, b5⟩
            | true =>
              rw [hek] at HEK0
              have HEK : Hid _ := HEK0
              unfold en.EV en.cl at HEK
              simp only at HEK
              have HE : Hid (MeRet s.data.toList (.returned (.tuple #[.agg #[.string ri, .string rt, .string rl, .string ra, .int .i64 st, .string C], .int .i64 0]))) := .inr (.inr ⟨hle, fs, b, HM.out, .inr ⟨HAL.out, st, 0, HDR.out, .inr ⟨rfl, by rw [HTb.out, hcon], ri, rt, rl, ra, by rw [HPS.out]; exact HDS.out.1, by rw [HPS.out]; exact HDS.out.2.1, by rw [HPS.out]; exact HDS.out.2.2.1, by rw [HPS.out]; exact HDS.out.2.2.2, .inl ⟨by rw [HTb.out, hcon]; exact hek, by rw [HTb.out, hcon]; rfl⟩⟩⟩⟩)
              clear HCT HCF HE3 HEK0 hcon hek hSm
              have p0 := HG5.out.c0
              have p1 := HG5.out.c1
              have p2 := HG5.out.c2
              have p3 := HG5.out.c3
              have p4 := HG5.out.c4
              have p5 := HG5.out.c5
              go_wp2_with (go_at_call 21; refine Calls.mono (HEK.out _) ?_; rintro e w6 ⟨rfl, k6⟩; have HR6 : Hid (L6 w6 w.heap.size (.string ⟨#[]⟩) (.string ⟨#[]⟩) (.string ⟨#[]⟩) (.string ⟨#[]⟩) (.int .i64 0) (.string ⟨#[]⟩)) := HR5.out.keep k6; have G6 := HG5.out.keep k6; have HB6 : Hid (Below w.heap.size w w6) := HB5.out.trans (k6.mono HB5.out.size); have y0 := G6.c0; have y1 := G6.c1; have y2 := G6.c2; have y3 := G6.c3; have y4 := G6.c4; have y5 := G6.c5; have r0 := HR6.out.c0; have r1 := HR6.out.c1; have r2 := HR6.out.c2; have r3 := HR6.out.c3; have r4 := HR6.out.c4; have r5 := HR6.out.c5; have f0 := HR6.out.f 0; have f1 := HR6.out.f 1; have f2 := HR6.out.f 2; have f3 := HR6.out.f 3; have f4 := HR6.out.f 4; have f5 := HR6.out.f 5; clear k6 p0 p1 p2 p3 p4 p5 G6)
              have A5 := HR6.out.put (a' := .string ri) (b' := .string rt) (c' := .string rl) (d' := .string ra) (e' := .int .i64 st) (f' := .string C)
              have b5 := put6_below (g := w.heap.size) (a := .string ri) (b := .string rt) (c := .string rl) (d := .string ra) (e := .int .i64 st) (f' := .string C) HB6.out (Nat.le_refl _)
              change bodyPost _ _ _ _ _ (put6 w6 w.heap.size (.string ri) (.string rt) (.string rl) (.string ra) (.int .i64 st) (.string C))
              generalize put6 _ _ _ _ _ _ _ _ = W5 at A5 b5 ⊢
              have d0 := A5.c0
              have d1 := A5.c1
              have d2 := A5.c2
              have d3 := A5.c3
              have d4 := A5.c4
              have d5 := A5.c5
              exact bodyPost_ret (v := .tuple #[.agg #[.string ri, .string rt, .string rl, .string ra, .int .i64 st, .string C], .int .i64 0]) (by simp [results, Tryz.results14, go_sem, d0, d1, d2, d3, d4, d5]) rfl ⟨HE.out, b5⟩
end Go.Proofs.YtadfdfmebdcfgaaGreatDoor.me

namespace Go.Proofs.YtadfdfmebdcfgaaGreatDoor.me
open Go.RowKit
open fa fo ml
set_option linter.unusedVariables false

set_option maxHeartbeats 1000000 in
set_option maxRecDepth 100000 in
theorem eqEntry_same (i t l a : ByteArray) (d : Int) (c : ByteArray) (w : World) : Calls Tryz.prog 15 #[.agg #[.string i, .string t, .string l, .string a, .int .i64 d, .string c], .agg #[.string i, .string t, .string l, .string a, .int .i64 d, .string c]] w fun e w' => e = .returned (.bool true) ∧ Below w.heap.size w w' := by
  have dd : ((d : Int) != d) = false := by simp
  go_enter Tryz.func15, Tryz.ntmps15
  go_wp2
  go_ret
  exact ⟨rfl, ((Below.refl _ w).alloc (Nat.le_refl _) _).alloc (by simp) _⟩

theorem meRet_form {s : List UInt8} {e : Ending} (h : MeRet s e) : ∃ (i t l a : ByteArray) (d : Int) (c : ByteArray) (k : Int), e = .returned (.tuple #[.agg #[.string i, .string t, .string l, .string a, .int .i64 d, .string c], .int .i64 k]) := by
  rcases h with ⟨_, rfl⟩ | ⟨_, _, rfl⟩ | ⟨_, fs, b, _, ⟨_, rfl⟩ | ⟨_, st, c, _, ⟨_, rfl⟩ | ⟨_, _, ri, rt, rl, ra, _, _, _, _, ⟨_, rfl⟩ | ⟨_, rfl⟩⟩⟩⟩
  all_goals exact ⟨_, _, _, _, _, _, _, rfl⟩
end Go.Proofs.YtadfdfmebdcfgaaGreatDoor.me

namespace Go.Proofs.YtadfdfmebdcfgaaGreatDoor.fnExactMailEntry
open Go.ChangeShapes Go.WideShapes Go.ChangeAt Go.RowKit
open Go.ChangeMaps (open_string shut_string)
set_option linter.unusedVariables false

set_option maxHeartbeats 4000000 in
set_option maxRecDepth 100000 in
theorem walk (a0 : ByteArray) (w0 : a0.size ≤ maxLen) (w : World)  (m : Int) (hm : w.cell? ⟨4, 0, none⟩ = some (.int .i64 m)) (hD : tb.TD w) (hV : tb.TV w) (hA : tb.TA w) (hN : td.TN w) (hW : td.TW w) :
    Calls Tryz.prog 4 #[.string a0] w fun e w' => e = .returned (.bool true) ∧ Below w.heap.size w w' := by
  by_cases hbig : 1048576 < a0.size
  · have hb : (1048576 : Int) < (a0.size : Int) := by omega
    clear hm hD hV hA hN hW
    go_enter Tryz.func4, Tryz.ntmps4
    go_wp2
    go_ret
    exact ⟨rfl, Below.refl _ _⟩
  have hb : (a0.size : Int) ≤ 1048576 := by omega
  have hgl := World.block_lt_of_cell? _ _ hm
  have HT : Hid (∀ W, Below w.heap.size w W → W.cell? ⟨4, 0, none⟩ = some (.int .i64 m) ∧ tb.TD W ∧ tb.TV W ∧ tb.TA W ∧ td.TN W ∧ td.TW W) := fun W kW =>
    ⟨(kW.cell (p := ⟨4, 0, none⟩) hgl).trans hm, tb.keep' hD kW, tb.keep' hV kW, tb.keep' hA kW, td.keepS hN kW, td.keepS hW kW⟩
  clear hm hD hV hA hN hW hgl
  go_enter Tryz.func4, Tryz.ntmps4
  go_wp2_with fail
  refine (me.specMe_any a0 _ (by omega)).mono ?_
  rintro e w1 ⟨h1, b1⟩
  have H1 : Hid (me.MeRet a0.data.toList e) := h1
  obtain ⟨i, t, l, a, d, c, k, he⟩ := me.meRet_form h1
  subst he
  clear h1
  have L1 := me.l6_new w1 (.string i) (.string t) (.string l) (.string a) (.int .i64 d) (.string c)
  have z1 := me.box_below w1 #[.string i, .string t, .string l, .string a, .int .i64 d, .string c] 24
  have b1' := b1.trans (z1.mono b1.size)
  clear z1 b1
  go_wp2_with fail
  generalize w1.alloc _ = w1a at L1 b1' ⊢
  refine (me.implMe_any a0 _ m (by omega) (fun W hW => HT.out W (b1'.trans (hW.mono b1'.size)))).mono ?_
  rintro e w2 ⟨h2, b2⟩
  have he2 := me.meRet_one h2 H1.out
  subst he2
  have L2 := L1.keep b2
  have b3 := b1'.trans (b2.mono b1'.size)
  clear b1' b2 h2 H1 HT L1
  have L3 := me.l6_new w2 (.string i) (.string t) (.string l) (.string a) (.int .i64 d) (.string c)
  have z1 := me.box_below w2 #[.string i, .string t, .string l, .string a, .int .i64 d, .string c] 24
  have L2' := L2.keep z1
  have b4 := b3.trans (z1.mono b3.size)
  clear z1 b3 L2
  have hk : ((k : Int) != k) = false := by simp
  have p0 := L3.c0
  have p1 := L3.c1
  have p2 := L3.c2
  have p3 := L3.c3
  have p4 := L3.c4
  have p5 := L3.c5
  have q0 := L2'.c0
  have q1 := L2'.c1
  have q2 := L2'.c2
  have q3 := L2'.c3
  have q4 := L2'.c4
  have q5 := L2'.c5
  go_wp2_with (go_at_call 15; refine (me.eqEntry_same i t l a d c _).mono ?_; rintro e w4 ⟨rfl, b5⟩; have b6 := b4.trans (b5.mono b4.size); clear b5 b4 p0 p1 p2 p3 p4 p5 q0 q1 q2 q3 q4 q5 L2' L3)
  go_ret
  exact ⟨rfl, b6⟩

end Go.Proofs.YtadfdfmebdcfgaaGreatDoor.fnExactMailEntry

namespace Go.Proofs.YtadfdfmebdcfgaaGreatDoor.fnExactMailEntry
open Go.ChangeShapes Go.WideShapes Go.ChangeAt Go.RowKit
open Go.ChangeMaps (open_string shut_string)
set_option linter.unusedVariables false

theorem own : ownKnob Tryz.prog.godebug = none := by kernel_rfl
theorem laidOut : laidOutB Tryz.prog = true := by kernel_rfl

theorem vars_len {H : Type} {enc : TypeId × Value → H} {P : Program} {w : World} {spare : Nat → Bool} : ∀ (ns : List String) (gs : List (DataW H)) (ps : List MemPlace), DataW.TrodVars enc P w spare ns gs ps → gs.length = ns.length
  | [], [], _, _ => rfl
  | [], d :: ds, _, h => by simp [DataW.TrodVars] at h
  | n :: ns, [], _, h => by simp [DataW.TrodVars] at h
  | n :: ns, d :: ds, _, h => by
    obtain ⟨g, t, cs, f, p, q, _, _, _, _, hs, _⟩ := h
    simp [vars_len ns ds q hs]
set_option maxRecDepth 100000 in
theorem contract (H : Type) (enc : TypeId × Value → H) (W : World) (base : Nat) (args : Array Value) (ds gs : List (DataW H)) (before : List MemPlace)
    (hval : ∀ (j : Nat) t v, Tryz.f4.params[j]? = some t → args[j]? = some v → Value.okWide Tryz.prog W .any base t v)
    (hW : DataW.Whole enc Tryz.prog Tryz.f4.params.toList Rows.fnExactMailEntrySpec.vars false W args.toList ds gs before) (hL : laidMetH Tryz.prog Rows.fnExactMailEntryRow.laid W) (hsh : W.ShapedOpen Tryz.prog) :
    Calls Tryz.prog 4 args W fun e W' => ∃ v, e = .returned v ∧ Rows.fnExactMailEntrySpec.post enc Tryz.prog Tryz.f4 false true false false W args v W' := by
  have hW' := hW
  obtain ⟨p, q, hA0, hV, rfl, hfz, hnd⟩ := hW
  have hA : DataW.TrodAll enc Tryz.prog W 0 (fun _ => true) true Tryz.f4.params.toList args.toList ds p := hA0
  rw [Tryz.params4] at hA hval
  obtain ⟨v0, vs0, d0, ds0, p0, q0, hargs0, rfl, rfl, h0, tl0⟩ := trodAll_cons hA
  obtain ⟨hnil, rfl, rfl⟩ := trodAll_nil tl0
  obtain rfl : args = #[v0] := by cases args; simp_all
  obtain ⟨a0, rfl, rfl, rfl, w0⟩ := open_string Tryz.underlying9 (hval 0 9 v0 rfl rfl) h0
  clear hA0
  simp only [List.append_nil] at hW'
  obtain ⟨x0, x1, x2, x3, rfl⟩ : ∃ x0 x1 x2 x3, gs = [x0, x1, x2, x3] := by
    have hl : gs.length = 4 := vars_len _ _ _ hV
    match gs, hl with
    | [x0, x1, x2, x3], _ => exact ⟨x0, x1, x2, x3, rfl⟩
  have hLL : laidMet Tryz.prog Rows.fnExactMailEntryRow.laid W := hL
  obtain ⟨ps, hLV, _⟩ := hLL
  obtain ⟨m, hm⟩ := Tryz.laysM219.s1_3 W hsh
  refine (walk a0 w0 W  m hm (tb.td_of (List.mem_of_getElem? (i := 4) (by kernel_rfl)) hLV) (tb.tv_of (List.mem_of_getElem? (i := 3) (by kernel_rfl)) hLV) (tb.ta_of (List.mem_of_getElem? (i := 2) (by kernel_rfl)) hLV) (td.tn_of (List.mem_of_getElem? (i := 6) (by kernel_rfl)) hLV) (td.tw_of (List.mem_of_getElem? (i := 5) (by kernel_rfl)) hLV)).mono fun e W' ⟨he, bel⟩ => ?_
  subst he
  exact ⟨_, rfl, _, _, _, [], [], _, hW', trodAll_cons_mk (shut_bool Tryz.underlying4 _) trodAll_mk0, (trodAll_cons_mk (shut_string Tryz.underlying9 w0) trodAll_mk0), Below.trodVars laidOut bel (by kernel_rfl) hV, bel.frame _, fun h => by cases h⟩
end Go.Proofs.YtadfdfmebdcfgaaGreatDoor.fnExactMailEntry
