/-
  The contract of the program's UnfoldHeader.
  Plain facts on rows that a call owns: beside an iterator over a string, behind an append, and turned into a text.
  The contract of the program's fieldsOf: the fields of a header.
-/
import Derived.Test.YtbokolpjdaamiaaGreatDoorPkad
import Derived.Test.YtbokolpjdaamiaaGreatDoorPkab
import Derived.WalkKit
import Derived.WalkLawsBesides
import Derived.Lib.OthersKept
import Derived.Laws.Cover4
import Derived.Laws.IdiomStrings
import Derived.Laws.BytesArg
import Derived.Lib.AppendStr
import Derived.Test.YtbokolpjdaamiaaGreatDoorPkac
import Derived.Laws.AppendOwn

namespace Go.Proofs.YtbokolpjdaamiaaGreatDoor.uf
open Go.RowKit
set_option linter.unusedVariables false

/-- What both UnfoldHeader functions answer. -/
def UhRet (s : ByteArray) (e : Ending) : Prop :=
  (65536 < s.size ∧ e = .returned (.tuple #[.string ⟨#[]⟩, .string ⟨#[]⟩, .int .i64 2])) ∨
  (s.size ≤ 65536 ∧ (¬ ∃ nm v, Field hn.IsName s.data.toList nm v) ∧ e = .returned (.tuple #[.string ⟨#[]⟩, .string ⟨#[]⟩, .int .i64 3])) ∨
  (s.size ≤ 65536 ∧ ∃ nm v : List UInt8, Field hn.IsName s.data.toList nm v ∧ e = .returned (.tuple #[.string ⟨nm.toArray⟩, .string ⟨v.toArray⟩, .int .i64 0]))
theorem uh_ex {s : ByteArray} {e : Ending} (h : UhRet s e) : ∃ (a b : ByteArray) (c : Int), e = .returned (.tuple #[.string a, .string b, .int .i64 c]) := by
  rcases h with ⟨_, rfl⟩ | ⟨_, _, rfl⟩ | ⟨_, _, _, _, rfl⟩ <;> exact ⟨_, _, _, rfl⟩
theorem uh_same {s a b a' b' : ByteArray} {c c' : Int} (h : UhRet s (.returned (.tuple #[.string a, .string b, .int .i64 c]))) (h' : UhRet s (.returned (.tuple #[.string a', .string b', .int .i64 c']))) : a = a' ∧ b = b' ∧ c = c' := by
  rcases h with ⟨x, h⟩ | ⟨x, x2, h⟩ | ⟨x, nm, v, hf, h⟩ <;>
  rcases h' with ⟨y, h'⟩ | ⟨y, y2, h'⟩ | ⟨y, nm', v', hf', h'⟩ <;>
  cases h <;> cases h' <;>
  first | exact ⟨rfl, rfl, rfl⟩ | (exfalso; omega) | (exfalso; exact x2 ⟨_, _, hf'⟩) | (exfalso; exact y2 ⟨_, _, hf⟩) | (obtain ⟨rfl, rfl⟩ := field_one hf hf'; exact ⟨rfl, rfl, rfl⟩)
theorem index_colon : ∀ (l : List UInt8), (Lib.index l [58] = -1 ∧ 58 ∉ l) ∨ ∃ i : Nat, Lib.index l [58] = i ∧ l = l.take i ++ 58 :: l.drop (i + 1) ∧ 58 ∉ l.take i
  | [] => .inl ⟨rfl, by simp⟩
  | c :: r => by
    by_cases hc : c = 58
    · refine .inr ⟨0, ?_, by rw [hc]; rfl, by simp⟩
      rw [Lib.index, if_pos (by simp [hc])]
      rfl
    · have hp : ¬ [58].isPrefixOf (c :: r) = true := by simp; exact fun e => hc e.symm
      rcases index_colon r with ⟨h1, h2⟩ | ⟨i, h1, h2, h3⟩
      · refine .inl ⟨?_, ?_⟩
        · rw [Lib.index, if_neg hp, if_pos (by rw [h1]; rfl)]
        · intro hm
          rcases List.mem_cons.1 hm with e | e
          · exact hc e.symm
          · exact h2 e
      · refine .inr ⟨i + 1, ?_, ?_, ?_⟩
        · rw [Lib.index, if_neg hp, if_neg (by rw [h1]; simp), h1]
          simp
        · simp only [List.take_succ_cons, List.drop_succ_cons, List.cons_append, List.cons.injEq, true_and]
          exact h2
        · intro hm
          rw [List.take_succ_cons] at hm
          rcases List.mem_cons.1 hm with e | e
          · exact hc e.symm
          · exact h3 e
/-- What a cut at the first colon gives. -/
def CutIs (l a r : List UInt8) (b : Bool) : Prop := (b = true ∧ l = a ++ 58 :: r ∧ 58 ∉ a) ∨ (b = false ∧ 58 ∉ l ∧ r = [])
theorem cut_is (l : List UInt8) : CutIs l (Lib.cut l [58]).1 (Lib.cut l [58]).2.1 (Lib.cut l [58]).2.2 := by
  rcases index_colon l with ⟨h1, h2⟩ | ⟨i, h1, h2, h3⟩
  · have e : Lib.cut l [58] = (l, [], false) := by
      unfold Lib.cut
      rw [if_neg (by rw [h1]; decide)]
    rw [e]
    exact .inr ⟨rfl, h2, rfl⟩
  · have e : Lib.cut l [58] = (l.take i, l.drop (i + 1), true) := by
      unfold Lib.cut
      rw [if_pos (by rw [h1]; omega), h1]
      rfl
    rw [e]
    exact .inl ⟨rfl, h2, h3⟩
def PreIs (l r : List UInt8) (b : Bool) : Prop := (b = true ∧ l = 32 :: r) ∨ (b = false ∧ ∀ q, l ≠ 32 :: q)
theorem pre_is (l : List UInt8) : PreIs l (Lib.trimPrefix l [32]) (Lib.hasPrefix l [32]) := by
  unfold Lib.trimPrefix Lib.hasPrefix
  match l with
  | [] => exact .inr ⟨rfl, fun q h => by cases h⟩
  | c :: r =>
    by_cases hc : c = 32
    · subst hc
      exact .inl ⟨rfl, rfl⟩
    · have hp : [32].isPrefixOf (c :: r) = false := by
        rw [Bool.eq_false_iff]
        intro h
        simp only [List.isPrefixOf, Bool.and_true, beq_iff_eq] at h
        exact hc h.symm
      rw [hp]
      exact .inr ⟨rfl, fun q h => hc (List.cons.inj h).1⟩
def SufIs (l r : List UInt8) (b : Bool) : Prop := (b = true ∧ l = r ++ [13, 10]) ∨ (b = false ∧ ∀ q, l ≠ q ++ [13, 10])
theorem suf_is (l : List UInt8) : SufIs l (Lib.trimSuffix l [13, 10]) (Lib.hasSuffix l [13, 10]) := by
  unfold Lib.trimSuffix Lib.hasSuffix
  cases h : [13, 10].isSuffixOf l with
  | false =>
    refine .inr ⟨rfl, fun q hq => ?_⟩
    have : [13, 10].isSuffixOf l = true := List.isSuffixOf_iff_suffix.2 ⟨q, hq.symm⟩
    rw [h] at this
    cases this
  | true =>
    obtain ⟨q, hq⟩ := List.isSuffixOf_iff_suffix.1 h
    refine .inl ⟨rfl, ?_⟩
    rw [if_pos rfl, ← hq]
    simp
theorem no_colon {P : ByteArray → Prop} {l : List UInt8} (h : 58 ∉ l) : ¬ ∃ nm v, Field P l nm v := by
  rintro ⟨nm, v, x, ⟨hx, _⟩, _⟩
  rw [hx] at h
  simp at h
theorem no_blank {P : ByteArray → Prop} {l a r : List UInt8} (h : l = a ++ 58 :: r) (ha : 58 ∉ a) (hr : ∀ q, r ≠ 32 :: q) : ¬ ∃ nm v, Field P l nm v := by
  rintro ⟨nm, v, x, ⟨hx, hm⟩, _⟩
  exact hr _ (colon_one _ _ _ _ ha hm (h.symm.trans hx)).2
theorem no_end {P : ByteArray → Prop} {l a r : List UInt8} (h : l = a ++ 58 :: 32 :: r) (ha : 58 ∉ a) (hr : ∀ q, r ≠ q ++ [13, 10]) : ¬ ∃ nm v, Field P l nm v := by
  rintro ⟨nm, v, x, ⟨hx, hm⟩, _⟩
  have := (colon_one _ _ _ _ ha hm (h.symm.trans hx)).2
  exact hr _ (List.cons.inj this).2
theorem no_name {P : ByteArray → Prop} {l a x : List UInt8} (h : Parts l a x) (hn : ¬ P ⟨a.toArray⟩) : ¬ ∃ nm v, Field P l nm v := by
  rintro ⟨nm, v, x', hx, hP, _⟩
  obtain ⟨rfl, rfl⟩ := parts_one h hx
  exact hn hP
theorem no_value {P : ByteArray → Prop} {l a x : List UInt8} (h : Parts l a x) (hn : ¬ ∃ v, unf false x = some v ∧ hd.Safe v) : ¬ ∃ nm v, Field P l nm v := by
  rintro ⟨nm, v, x', hx, _, hu, hs⟩
  obtain ⟨rfl, rfl⟩ := parts_one h hx
  exact hn ⟨v, hu, hs⟩

theorem name_true {p : Prop} {e : Ending} (h : hn.Says p e) (hp : p) : e = .returned (.bool true) := by
  obtain ⟨b, rfl, hb⟩ := h
  rw [hb.2 hp]
theorem name_false {p : Prop} {e : Ending} (h : hn.Says p e) (hp : ¬ p) : e = .returned (.bool false) := by
  obtain ⟨b, rfl, hb⟩ := h
  cases b
  · rfl
  · exact absurd (hb.1 rfl) hp
theorem bdrew {B : Nat} {a w : World} (h : Below B a w) (n : Nat) : Below B a (w.drewN n) := ⟨h.os, h.tape, h.output, h.size, h.block⟩

theorem clone_uf (s : ByteArray) (w : World) (hs : s.size ≤ 1048576) :
    Calls Tryz.prog 84 #[.string s] w fun e w' => e = .returned (.string s) ∧ Below w.heap.size w w' := by
  go_enter Tryz.func84, Tryz.ntmps84
  go_wp2_with fail
  refine (Tryz.stringslite_Clone s _ (by omega)).mono ?_
  rintro e w' ⟨rfl, hb⟩
  go_wp2
  go_ret
  exact ⟨rfl, hb⟩

set_option maxHeartbeats 4000000 in
set_option maxRecDepth 100000 in
theorem implUh_any (s : ByteArray) (w : World) (m : Int) (hm : w.cell? ⟨1, 0, none⟩ = some (.int .i64 m)) (hs : s.size ≤ 1048576) :
    Calls Tryz.prog 110 #[.string s] w fun e w' => UhRet s e ∧ Below w.heap.size w w' := by
  by_cases h : s.size ≤ 65536
  case neg =>
    have h' : (65536 : Int) < (s.size : Int) := by omega
    clear hm
    go_enter Tryz.func110, Tryz.ntmps110
    go_wp2
    go_ret3
    exact ⟨.inl ⟨by omega, rfl⟩, Below.refl _ _⟩
  have h' : (s.size : Int) ≤ 65536 := by omega
  have hgl := World.block_lt_of_cell? _ _ hm
  have HM : Hid (∀ W, Below w.heap.size w W → W.cell? ⟨1, 0, none⟩ = some (.int .i64 m)) := fun W hW => (hW.cell (p := ⟨1, 0, none⟩) hgl).trans hm
  clear hm hgl
  go_enter Tryz.func110, Tryz.ntmps110
  go_wp2_with fail
  refine (Tryz.strings_Cut s ⟨#[58]⟩ m _ (by omega) (HM.out _ (Below.refl _ _))).mono ?_
  rw [show (⟨#[58]⟩ : ByteArray).data.toList = [58] from rfl]
  have hC := cut_is s.data.toList
  obtain ⟨a, ha⟩ : ∃ a, a = (Lib.cut s.data.toList [58]).1 := ⟨_, rfl⟩
  obtain ⟨r1, hr1⟩ : ∃ r, r = (Lib.cut s.data.toList [58]).2.1 := ⟨_, rfl⟩
  obtain ⟨b1, hb1⟩ : ∃ b, b = (Lib.cut s.data.toList [58]).2.2 := ⟨_, rfl⟩
  rw [← ha, ← hr1, ← hb1] at hC ⊢
  rintro e w1 ⟨rfl, q1, hw1⟩
  have bw1 : Below w.heap.size w w1 := by rw [hw1]; exact bdrew (Below.refl _ _) _
  clear hw1 ha hr1 hb1
  have hl1 : r1.length ≤ 65536 := by
    rcases hC with ⟨_, hC, _⟩ | ⟨_, _, hC⟩
    · have := congrArg List.length hC
      rw [← Lib.size_eq] at this
      simp at this
      omega
    · rw [hC]; simp
  have hla : b1 = true → a.length ≤ 65536 := fun hb => by
    rcases hC with ⟨_, hC, _⟩ | ⟨hC, _⟩
    · have := congrArg List.length hC
      rw [← Lib.size_eq] at this
      simp at this
      omega
    · rw [hb] at hC; cases hC
  have HC : Hid (CutIs s.data.toList a r1 b1) := hC
  have HLA : Hid (b1 = true → a.length ≤ 65536) := hla
  clear hC hla
  obtain ⟨A, hA⟩ : ∃ A : ByteArray, A = ⟨a.toArray⟩ := ⟨_, rfl⟩
  obtain ⟨R1, hR1⟩ : ∃ R : ByteArray, R = ⟨r1.toArray⟩ := ⟨_, rfl⟩
  have hR1l : R1.data.toList = r1 := by rw [hR1]
  rw [← hA, ← hR1]
  have HA : Hid (A = ⟨a.toArray⟩) := hA
  clear hA hR1
  go_wp2_with fail
  refine (Tryz.strings_CutPrefix R1 ⟨#[32]⟩ _).mono ?_
  rw [show (⟨#[32]⟩ : ByteArray).data.toList = [32] from rfl, hR1l]
  have hC := pre_is r1
  obtain ⟨r2, hr2⟩ : ∃ r, r = Lib.trimPrefix r1 [32] := ⟨_, rfl⟩
  obtain ⟨b2, hb2⟩ : ∃ b, b = Lib.hasPrefix r1 [32] := ⟨_, rfl⟩
  have hl2 : r2.length ≤ 65536 := by rw [hr2]; unfold Lib.trimPrefix; split; rw [List.length_drop]; omega; exact hl1
  rw [← hr2, ← hb2] at hC ⊢
  rintro e w2 ⟨rfl, hw2⟩
  rw [hw2]
  have HP : Hid (PreIs r1 r2 b2) := hC
  obtain ⟨R2, hR2⟩ : ∃ R : ByteArray, R = ⟨r2.toArray⟩ := ⟨_, rfl⟩
  have hR2l : R2.data.toList = r2 := by rw [hR2]
  have hR2s : R2.size ≤ 65536 := by rw [Lib.size_eq, hR2l]; exact hl2
  rw [← hR2]
  clear hw2 hC hr2 hb2 hR2 hR1l hl1
  go_wp2_with fail
  refine (Tryz.strings_CutSuffix R2 ⟨#[13, 10]⟩ _ (by omega)).mono ?_
  rw [show (⟨#[13, 10]⟩ : ByteArray).data.toList = [13, 10] from rfl, hR2l]
  have hC := suf_is r2
  obtain ⟨x, hx⟩ : ∃ r, r = Lib.trimSuffix r2 [13, 10] := ⟨_, rfl⟩
  obtain ⟨b3, hb3⟩ : ∃ b, b = Lib.hasSuffix r2 [13, 10] := ⟨_, rfl⟩
  have hlx : x.length ≤ 65536 := by rw [hx]; unfold Lib.trimSuffix; split; rw [List.length_take]; omega; exact hl2
  rw [← hx, ← hb3] at hC ⊢
  rintro e w3 ⟨rfl, hw3⟩
  rw [hw3]
  have HF : Hid (SufIs r2 x b3) := hC
  obtain ⟨X, hX⟩ : ∃ R : ByteArray, R = ⟨x.toArray⟩ := ⟨_, rfl⟩
  have hXl : X.data.toList = x := by rw [hX]
  have hXs : X.size ≤ 65536 := by rw [Lib.size_eq, hXl]; exact hlx
  rw [← hX]
  clear hw3 hC hx hb3 hX hR2l hl2
  cases b1 with
  | false =>
    have HN : Hid (¬ ∃ nm v, Field hn.IsName s.data.toList nm v) := no_colon (by rcases HC.out with ⟨e, _⟩ | ⟨_, e, _⟩; cases e; exact e)
    go_wp2
    go_ret3
    exact ⟨.inr (.inl ⟨h, HN.out, rfl⟩), bw1⟩
  | true =>
    have HC1 : Hid (s.data.toList = a ++ 58 :: r1 ∧ 58 ∉ a) := by rcases HC.out with ⟨_, e⟩ | ⟨e, _⟩; exact e; cases e
    have hal := HLA.out rfl
    cases b2 with
    | false =>
      have HN : Hid (¬ ∃ nm v, Field hn.IsName s.data.toList nm v) := no_blank HC1.out.1 HC1.out.2 (by rcases HP.out with ⟨e, _⟩ | ⟨_, e⟩; cases e; exact e)
      go_wp2
      go_ret3
      exact ⟨.inr (.inl ⟨h, HN.out, rfl⟩), bw1⟩
    | true =>
      have HP1 : Hid (r1 = 32 :: r2) := by rcases HP.out with ⟨_, e⟩ | ⟨e, _⟩; exact e; cases e
      cases b3 with
      | false =>
        have HN : Hid (¬ ∃ nm v, Field hn.IsName s.data.toList nm v) := no_end (by rw [HC1.out.1, HP1.out]) HC1.out.2 (by rcases HF.out with ⟨e, _⟩ | ⟨_, e⟩; cases e; exact e)
        go_wp2
        go_ret3
        exact ⟨.inr (.inl ⟨h, HN.out, rfl⟩), bw1⟩
      | true =>
        have HF1 : Hid (r2 = x ++ [13, 10]) := by rcases HF.out with ⟨_, e⟩ | ⟨e, _⟩; exact e; cases e
        have HPA : Hid (Parts s.data.toList a x) := ⟨by rw [HC1.out.1, HP1.out, HF1.out], HC1.out.2⟩
        clear HC HP HF HC1 HP1 HF1
        go_wp2_with fail
        refine (Tryz.strings_ReplaceAll X ⟨#[13, 10, 32]⟩ ⟨#[32]⟩ m _ (by omega) (HM.out _ bw1) (by decide) (by have := Lib.countB_mul_le ⟨#[13, 10, 32]⟩ (by decide) X.size X (Nat.le_refl _); have e1 : (⟨#[13, 10, 32]⟩ : ByteArray).size = 3 := rfl; have e2 : (⟨#[32]⟩ : ByteArray).size = 1 := rfl; rw [e1] at this; rw [e2]; omega)).mono ?_
        rw [show (⟨#[13, 10, 32]⟩ : ByteArray).data.toList = fw from rfl, show (⟨#[32]⟩ : ByteArray).data.toList = [32] from rfl, hXl]
        rintro e w4 ⟨rfl, b4⟩
        have bw4 := bw1.trans (b4.mono bw1.size)
        obtain ⟨V, hV⟩ : ∃ V : ByteArray, V = ⟨(Lib.replaceAll x fw [32]).toArray⟩ := ⟨_, rfl⟩
        have hVl : V.data.toList = Lib.replaceAll x fw [32] := by rw [hV]
        rw [← hV]
        have HV : Hid (V = ⟨(Lib.replaceAll x fw [32]).toArray⟩) := hV
        have HVL : Hid (V.data.toList = Lib.replaceAll x fw [32]) := hVl
        clear hV hVl b4
        have hAs : A.size ≤ 65536 := by rw [HA.out, Lib.size_eq]; exact hal
        go_wp2_with fail
        refine (hn.impl_any A _ (by unfold maxLen; omega)).mono ?_
        rintro e w5 ⟨hsn, hw5⟩
        rw [hw5]
        clear hw5
        by_cases hname : hn.IsName A
        case neg =>
          obtain rfl := name_false hsn hname
          have HN : Hid (¬ ∃ nm v, Field hn.IsName s.data.toList nm v) := no_name HPA.out (by rw [← HA.out]; exact hname)
          clear hsn hname
          go_wp2
          go_ret3
          exact ⟨.inr (.inl ⟨h, HN.out, rfl⟩), bw4⟩
        obtain rfl := name_true hsn hname
        have HNM : Hid (hn.IsName A) := hname
        clear hsn hname
        by_cases hVs : V.size ≤ maxLen
        case neg =>
          exfalso
          apply hVs
          rw [Lib.size_eq, HVL.out, replaceAll_rep]
          have := rep_len x.length x (Nat.le_refl _)
          unfold maxLen
          omega
        go_wp2_with fail
        refine (sv.impl_any V _ hVs).mono ?_
        rintro e w6 ⟨hsv, hw6⟩
        rw [hw6]
        clear hw6
        rw [HVL.out] at hsv
        by_cases hsafe : hd.Safe (Lib.replaceAll x fw [32])
        case neg =>
          obtain rfl := sv.says_false hsv hsafe
          have HN : Hid (¬ ∃ nm v, Field hn.IsName s.data.toList nm v) := no_value HPA.out (fun e => hsafe ((value_iff x).2 e))
          clear hsv hsafe
          go_wp2
          go_ret3
          exact ⟨.inr (.inl ⟨h, HN.out, rfl⟩), bw4⟩
        obtain rfl := sv.says_true hsv hsafe
        have hVz : V.size ≤ 2000 := by rw [Lib.size_eq, HVL.out]; exact hsafe.1
        obtain ⟨v, hu, hvs⟩ := (value_iff x).1 hsafe
        have HU : Hid (unf false x = some v ∧ hd.Safe v) := ⟨hu, hvs⟩
        clear hsv hsafe hu hvs
        go_wp2_with fail
        refine (clone_uf A _ (by omega)).mono ?_
        rintro e w7 ⟨rfl, b7⟩
        go_wp2_with fail
        refine (clone_uf V _ (by omega)).mono ?_
        rintro e w8 ⟨rfl, b8⟩
        have bw8 := (bw4.trans (b7.mono bw4.size)).trans (b8.mono (bw4.trans (b7.mono bw4.size)).size)
        go_wp2
        go_ret3
        refine ⟨.inr (.inr ⟨h, a, v, ⟨x, HPA.out, by rw [← HA.out]; exact HNM.out, HU.out.1, HU.out.2⟩, ?_⟩), bw8⟩
        rw [HA.out, HV.out, value_eq HU.out.1]
        rfl
end Go.Proofs.YtbokolpjdaamiaaGreatDoor.uf

namespace Go.Proofs.YtbokolpjdaamiaaGreatDoor.ow
open Go.RowKit
set_option linter.unusedVariables false

theorem dt {p : Prop} {d : Decidable p} (h : p) : @decide p d = true := decide_eq_true h
theorem df {p : Prop} {d : Decidable p} (h : ¬ p) : @decide p d = false := decide_eq_false h
theorem dof {p : Prop} {d : Decidable p} (h : @decide p d = true) : p := of_decide_eq_true h
theorem dnof {p : Prop} {d : Decidable p} (h : @decide p d = false) : ¬ p := of_decide_eq_false h
/-- Two texts are one, or not. -/
def decB (a b : ByteArray) : Decidable (a = b) := decidable_of_iff (a.data = b.data) ⟨fun h => ByteArray.ext h, fun h => by rw [h]⟩
/-- A call that answers whether something holds. -/
def Says (p : Prop) (e : Ending) : Prop := ∃ b : Bool, e = .returned (.bool b) ∧ (b = true ↔ p)
theorem says_no {p : Prop} (h : ¬ p) : Says p (.returned (.bool false)) := ⟨false, rfl, fun x => (by cases x), fun x => absurd x h⟩
theorem says_yes {p : Prop} (h : p) : Says p (.returned (.bool true)) := ⟨true, rfl, fun _ => h, fun _ => rfl⟩
theorem says_true {p : Prop} {e : Ending} (h : Says p e) (hp : p) : e = .returned (.bool true) := by
  obtain ⟨b, rfl, hb⟩ := h
  rw [hb.2 hp]
theorem says_false {p : Prop} {e : Ending} (h : Says p e) (hp : ¬ p) : e = .returned (.bool false) := by
  obtain ⟨b, rfl, hb⟩ := h
  cases b
  · rfl
  · exact absurd (hb.1 rfl) hp

section
variable {w w' W : World} {base e size n k p : Nat} {v : Value} {xs : List Value} {s : ByteArray}

theorem own_iter (h : w.ownsRow base e size v n xs) (hk : w.heap[k]? = some (.stringIter s p)) (q : Nat) : (w.iterAt k s q).ownsRow base e size v n xs := by
  obtain ⟨h1, h2⟩ := h
  refine ⟨h1, ?_⟩
  rcases h2 with h2 | ⟨g, cap, cur, a, b, c, d⟩
  · exact .inl h2
  · have hne : g ≠ k := by
      intro e
      subst e
      rw [hk] at c
      cases c
    exact .inr ⟨g, cap, cur, a, b, by rw [Lib.iterAt_other _ _ _ _ _ hne]; exact c, d⟩
theorem own_not_iter (h : w.ownsRow base e size v n xs) (hk : w.heap[k]? = some (.stringIter s p)) : some k ≠ v.ownBlock := by
  rcases h.2 with ⟨rfl, _⟩ | ⟨g, cap, cur, rfl, _, c, _⟩
  · exact fun x => by cases x
  · intro x
    have : k = g := by simpa [Value.ownBlock] using x
    subst this
    rw [hk] at c
    cases c
theorem own_lt (h : w.ownsRow base e size v n xs) : ∀ j, v.ownBlock = some j → base ≤ j := by
  intro j hj
  rcases h.2 with ⟨rfl, _⟩ | ⟨g, cap, cur, rfl, b, c, _⟩
  · cases hj
  · have : g = j := by simpa [Value.ownBlock] using hj
    omega
theorem own_base {base' : Nat} (h : w.ownsRow base e size v n xs) (hb : base' ≤ base) : w.ownsRow base' e size v n xs := by
  obtain ⟨h1, h2⟩ := h
  refine ⟨h1, ?_⟩
  rcases h2 with h2 | ⟨g, cap, cur, a, b, c⟩
  · exact .inl h2
  · exact .inr ⟨g, cap, cur, a, Nat.le_trans hb b, c⟩
/-- What a call owns stays as it is behind whatever turns nothing that was there. -/
theorem own_below (h : w.ownsRow base e size v n xs) (hb : Below w.heap.size w w') : w'.ownsRow base e size v n xs := by
  obtain ⟨h1, h2⟩ := h
  refine ⟨h1, ?_⟩
  rcases h2 with h2 | ⟨g, cap, cur, a, b, c, d⟩
  · exact .inl h2
  · have hlt : g < w.heap.size := (Array.getElem?_eq_some_iff.1 c).1
    exact .inr ⟨g, cap, cur, a, b, (hb.block g hlt).trans c, d⟩
/-- Two rows of which the second was made behind the first lie apart. -/
theorem apart {w2 : World} {e2 size2 n2 : Nat} {v2 : Value} {xs2 : List Value} (h : w.ownsRow base e size v n xs) (h2 : w2.ownsRow w.heap.size e2 size2 v2 n2 xs2) : v.ownBlock = none ∨ v.ownBlock ≠ v2.ownBlock := by
  rcases h.2 with ⟨rfl, _⟩ | ⟨g, cap, cur, rfl, b, c, d⟩
  · exact .inl rfl
  · right
    intro e
    have hlt : g < w.heap.size := (Array.getElem?_eq_some_iff.1 c).1
    have := own_lt h2 g e.symm
    omega
/-- Behind an append onto an owned row, of what was laid in a new block: an iterator stands as it stood, and what was below the call's own blocks too. -/
theorem after (h : w.ownsRow base e size v n xs) (hk : w.heap[k]? = some (.stringIter s p)) (hb : Below base W w) (hB : base ≤ w.heap.size) (o : Obj) (hg : (w.alloc o).grownBy w' v.ownBlock) :
    w'.heap[k]? = some (.stringIter s p) ∧ Below base W w' := by
  have hlt : k < w.heap.size := (Array.getElem?_eq_some_iff.1 hk).1
  refine ⟨?_, Below.grown (hb.alloc hB _) hg (by simp; omega) (own_lt h)⟩
  rw [hg.block k (by simp; omega) (own_not_iter h hk), Below.heap_alloc _ _ _ hlt]
  exact hk
theorem own_empty (w : World) (t : TypeId) : (w.alloc (.cells #[] t)).ownsRow w.heap.size t 1 (.slice (some ⟨w.heap.size, 0, none⟩) 0 0) 0 [] := by
  have h1 : (w.alloc (.cells #[] t)).heap[w.heap.size]? = some (.cells #[] t) := by
    show (w.heap.push (.cells #[] t))[w.heap.size]? = _
    simp
  exact ⟨rfl, .inr ⟨_, 0, #[], rfl, Nat.le_refl _, h1, Nat.le_refl _, Nat.zero_le _, rfl, rfl⟩⟩
/-- The cells of a block that has just been laid. -/
theorem cells_new (w : World) (c : List Value) (t : TypeId) : ∀ j u, c[j]? = some u → (w.alloc (.cells c.toArray t)).cell? ((⟨w.heap.size, 0, none⟩ : Addr).add j) = some u := by
  intro j u hj
  have h1 : (w.alloc (.cells c.toArray t)).heap[w.heap.size]? = some (.cells c.toArray t) := by
    show (w.heap.push (.cells c.toArray t))[w.heap.size]? = _
    simp
  rw [show ((⟨w.heap.size, 0, none⟩ : Addr).add j) = ⟨w.heap.size, j, none⟩ from by simp [Addr.add]; omega]
  rw [cell_of_row _ _ j _ t _ h1]
  simpa using hj
theorem add_at (g j : Nat) : (⟨g, 0, none⟩ : Addr).add j = ⟨g, j, none⟩ := by simp [Addr.add]; omega
theorem cell_new (w : World) (c : List Value) (t : TypeId) (j : Nat) (u : Value) (h : c[j]? = some u) : (w.alloc (.cells c.toArray t)).cell? ⟨w.heap.size, j, none⟩ = some u := by
  rw [← add_at]
  exact cells_new w c t j u h
end

section
variable {P : Program} {w : World} {base n : Nat} {src dst e : TypeId} {v : Value}
theorem conv_bytes (l : List UInt8) (h : w.ownsRow base e 1 v n (l.map fun b => Value.int .u8 (b.toNat : Int)))
    (hs : P.underlying src = some (.slice e)) (he : P.underlying e = some (.int .u8)) (hd : P.underlying dst = some .string) :
    (convert src dst v).run P w = .ok (.string ⟨l.toArray⟩) w := by
  have hl : l.length = n := by have := h.1; simpa using this
  rcases h.2 with ⟨rfl, h0⟩ | ⟨g, cap, cur, rfl, _⟩
  · have : l = [] := List.eq_nil_of_length_eq_zero (by omega)
    subst this
    rw [run_convert_bytes_string w src dst e _ _ _ hs he hd]
    rfl
  · subst hl
    refine run_convert_bytes_back w src dst e ⟨g, 0, none⟩ cap l hs he hd (fun j hj => ?_)
    rw [show ((⟨g, 0, none⟩ : Addr).add j) = ⟨g, j, none⟩ from by simp [Addr.add]; omega, h.cellAt j (by omega)]
    simp [hj]
theorem slice_str (t : TypeId) (s : ByteArray) (k k' : IntKind) (p q : Nat) (h : P.underlying t = some .string) (i j : Int) (hi : i = p) (hj : j = q) (h1 : p ≤ q) (h2 : q ≤ s.size) (wx : World) :
    (Instr.slice t (.string s) (some (.int k i)) (some (.int k' j)) none).run P wx = .ok (.string (s.extract p q)) wx := by
  subst hi hj
  rw [run_slice_string (P := P) (w := wx) t s k k' _ _ h (by omega) (by omega) (by omega)]
  rfl
theorem conv_runes (zs : List Int) (h : w.ownsRow base e 1 v n (zs.map (Value.int .i32)))
    (hs : P.underlying src = some (.slice e)) (he : P.underlying e = some (.int .i32)) (hd : P.underlying dst = some .string) :
    (convert src dst v).run P w = .ok (.string (runesBytes zs)) w := by
  have hl : zs.length = n := by have := h.1; simpa using this
  rcases h.2 with ⟨rfl, h0⟩ | ⟨g, cap, cur, rfl, _⟩
  · have : zs = [] := List.eq_nil_of_length_eq_zero (by omega)
    subst this
    exact run_convert_runes_nil w src dst e 0 0 hs he hd
  · subst hl
    have := run_convert_runes (P := P) w src dst e ⟨g, 0, none⟩ zs.length cap zs (Nat.le_refl _) hs he hd (fun j hj => by
      rw [show ((⟨g, 0, none⟩ : Addr).add j) = ⟨g, j, none⟩ from by simp [Addr.add]; omega, h.cellAt j (by omega)]
      simp [hj])
    rw [List.take_length] at this
    exact this
end
/-- A slice value whose elements are these numbers. -/
def Reads (k : IntKind) (w : World) (v : Value) (zs : List Int) : Prop :=
  ∃ (a : Option Addr) (cap : Nat), v = .slice a zs.length cap ∧ (zs = [] ∨ ∃ b off, a = some ⟨b, off, none⟩ ∧ ∀ j, j < zs.length → w.cell? ⟨b, off + j, none⟩ = some (.int k (zs.getD j 0)))

theorem reads_own {k : IntKind} {w : World} {base e n : Nat} {v : Value} {zs : List Int} (h : w.ownsRow base e 1 v n (zs.map (Value.int k))) : Reads k w v zs := by
  have hl : zs.length = n := by have := h.1; simpa using this
  rcases h.2 with ⟨rfl, h0⟩ | ⟨g, cap, cur, rfl, _⟩
  · have : zs = [] := List.eq_nil_of_length_eq_zero (by omega)
    subst this
    exact ⟨none, 0, rfl, .inl rfl⟩
  · subst hl
    refine ⟨_, cap, rfl, .inr ⟨g, 0, rfl, fun j hj => ?_⟩⟩
    rw [Nat.zero_add, h.cellAt j (by omega)]
    simp [hj]
theorem reads_keep {k : IntKind} {w w' : World} {v : Value} {zs : List Int} (h : Reads k w v zs) (hc : ∀ a u, w.cell? a = some u → w'.cell? a = some u) : Reads k w' v zs := by
  obtain ⟨a, cap, rfl, h⟩ := h
  refine ⟨a, cap, rfl, ?_⟩
  rcases h with h | ⟨b, off, rfl, h⟩
  · exact .inl h
  · exact .inr ⟨b, off, rfl, fun j hj => hc _ _ (h j hj)⟩

theorem getD_ext {zs ys : List Int} (hl : zs.length = ys.length) (h : ∀ j, j < zs.length → zs.getD j 0 = ys.getD j 0) : zs = ys := by
  refine List.ext_getElem hl (fun j h1 h2 => ?_)
  have := h j h1
  rw [List.getD_eq_getElem?_getD, List.getD_eq_getElem?_getD, List.getElem?_eq_getElem h1, List.getElem?_eq_getElem h2] at this
  simpa using this

theorem grown_trans {a b c : World} {row : Option Nat} (h : a.grownBy b row) (k : b.grownBy c row) : a.grownBy c row :=
  ⟨k.os.trans h.os, k.tape.trans h.tape, k.output.trans h.output, Nat.le_trans h.size k.size, fun i hi hr => (k.block i (Nat.lt_of_lt_of_le hi h.size) hr).trans (h.block i hi hr)⟩
theorem grown_refl (a : World) (row : Option Nat) : a.grownBy a row := ⟨rfl, rfl, rfl, Nat.le_refl _, fun _ _ _ => rfl⟩

/-- Behind a growth by steps of block b's, an append onto a row of the call's own leaves all but block b as it was. -/
theorem grown_new {w w1 w2 : World} {b base e size n : Nat} {v : Value} {xs : List Value} (h : w.grownBy w1 (some b)) (hown : w1.ownsRow base e size v n xs) (hb : w.heap.size ≤ base) (o : Obj) (hg : (w1.alloc o).grownBy w2 v.ownBlock) : w.grownBy w2 (some b) := by
  refine ⟨hg.os.trans h.os, hg.tape.trans h.tape, hg.output.trans h.output, Nat.le_trans h.size (Nat.le_trans (by simp) hg.size), fun k hk hr => ?_⟩
  have hk1 : k < w1.heap.size := Nat.lt_of_lt_of_le hk h.size
  rw [hg.block k (by simp; omega) (fun x => by have := own_lt hown k x.symm; omega), Below.heap_alloc _ _ _ hk1]
  exact h.block k hk hr
theorem grown_alloc {w w1 : World} {row : Option Nat} (h : w.grownBy w1 row) (o : Obj) : w.grownBy (w1.alloc o) row :=
  ⟨h.os, h.tape, h.output, Nat.le_trans h.size (by simp), fun k hk hr => by rw [Below.heap_alloc _ _ _ (Nat.lt_of_lt_of_le hk h.size)]; exact h.block k hk hr⟩
theorem grown_drewN {w w1 : World} {row : Option Nat} (h : w.grownBy w1 row) (n : Nat) : w.grownBy (w1.drewN n) row := ⟨h.os, h.tape, h.output, h.size, h.block⟩
theorem grown_below {w w1 : World} {row : Option Nat} (h : Below w.heap.size w w1) : w.grownBy w1 row := ⟨h.os, h.tape, h.output, h.size, fun k hk _ => h.block k hk⟩
end Go.Proofs.YtbokolpjdaamiaaGreatDoor.ow

namespace Go.Proofs.YtbokolpjdaamiaaGreatDoor.ml
open Go.RowKit
set_option linter.unusedVariables false

theorem infoField : (Tryz.prog.info? 123).map (fun i => (i.zero, i.size, i.bytes)) = some (some (.agg #[.string ⟨#[]⟩, .string ⟨#[]⟩]), 2, 32) := by kernel_rfl
/-- A field of a name and a value. -/
def F : B → B → B → Prop := uf.Field hn.IsName
theorem F_one : One F := fun l a b a' b' h h' => uf.field_one h h'
/-- A text as a value, the cells of fields. -/
def tv (l : B) : Value := .string ⟨l.toArray⟩
def fcells : List (B × B) → List Value
  | [] => []
  | x :: fs => tv x.1 :: tv x.2 :: fcells fs
theorem fcells_snoc (fs : List (B × B)) (x : B × B) : fcells (fs ++ [x]) = fcells fs ++ [tv x.1, tv x.2] := by
  induction fs with
  | nil => rfl
  | cons y fs ih => simp [fcells, ih]
theorem fcells_len (fs : List (B × B)) : (fcells fs).length = fs.length * 2 := by
  induction fs with
  | nil => rfl
  | cons y fs ih => simp [fcells, ih]; omega
/-- Fields in memory that the call made. -/
def FieldsAt (w : World) (base : Nat) (v : Value) (fs : List (B × B)) : Prop := w.ownsRow base 123 2 v fs.length (fcells fs)
theorem fields_form {w : World} {base : Nat} {v : Value} {fs : List (B × B)} (h : FieldsAt w base v fs) : ∃ a cap, v = .slice a fs.length cap := by
  rcases h.2 with ⟨rfl, h0⟩ | ⟨g, cap, cur, rfl, _⟩
  · exact ⟨none, 0, by rw [h0]⟩
  · exact ⟨_, cap, rfl⟩
theorem fields_nil (w : World) (base : Nat) : FieldsAt w base (.slice none 0 0) [] := World.ownsRow_nil _ _ _ _

def FoRet (l : B) (base : Nat) (e : Ending) (w' : World) : Prop :=
  (∃ fs v, e = .returned (.tuple #[v, .bool true]) ∧ RunE F fs l [] ∧ fs.length ≤ 40 ∧ FieldsAt w' base v fs) ∨
  (e = .returned (.tuple #[.slice none 0 0, .bool false]) ∧ ∃ fs r f q, RunE F fs l r ∧ Chunk r f q ∧ (fs.length = 40 ∨ ¬ ∃ a v, F f a v))

set_option maxHeartbeats 4000000 in
set_option maxRecDepth 100000 in
theorem fieldsOf_any (s : ByteArray) (w : World) (m : Int) (hm : w.cell? ⟨1, 0, none⟩ = some (.int .i64 m)) (hs : s.size ≤ 65536) (hE : Ends s.data.toList) :
    Calls Tryz.prog 94 #[.string s] w fun e w' => FoRet s.data.toList w.heap.size e w' ∧ Below w.heap.size w w' := by
  obtain ⟨i0, hi, hz0, hz1, hz2⟩ := info_parts infoField
  have hgl := World.block_lt_of_cell? _ _ hm
  have HM : Hid (∀ W, Below w.heap.size w W → W.cell? ⟨1, 0, none⟩ = some (.int .i64 m)) := fun W hW => (hW.cell (p := ⟨1, 0, none⟩) hgl).trans hm
  have HE : Hid (Ends s.data.toList) := hE
  clear hm hgl hE
  go_enter Tryz.func94, Tryz.ntmps94
  go_wp2
  go_loopw [0, 4] (fun t v wr => ∃ (r : ByteArray) (fs : List (B × B)), t = .string r ∧ r.size ≤ 65536 ∧ Ends r.data.toList ∧ RunE F fs s.data.toList r.data.toList ∧ fs.length ≤ 40 ∧ FieldsAt wr w.heap.size v fs ∧ Below w.heap.size w wr) (fun t _ _ => (match t with | .string r => r.size | _ => 0))
  case atStart => exact ⟨s, [], rfl, hs, HE.out, rfl, by simp, fields_nil _ _, Below.refl _ _⟩
  case round =>
    obtain ⟨r, fs, rfl, hrl, hEr, hrun, hfl, hfa, hbw⟩ := hrel
    have HRUN : Hid (RunE F fs s.data.toList r.data.toList) := hrun
    have HBW : Hid (Below w.heap.size w wr) := hbw
    have hBs := hbw.size
    obtain ⟨a, cap, rfl⟩ := fields_form hfa
    have HFA : Hid (FieldsAt wr w.heap.size (.slice a fs.length cap) fs) := hfa
    clear hrun hfa
    by_cases h0 : r.data.toList = []
    · have hr0 : r = ⟨#[]⟩ := by rw [mk_list r, h0]
      subst hr0
      go_wp2
      go_ret2
      exact ⟨.inl ⟨fs, _, rfl, HRUN.out, hfl, HFA.out⟩, HBW.out⟩
    have he : r.toList.isEmpty = false := by rw [Lib.toList_data]; exact isEmpty_no h0
    have HFS : Hid (Calls Tryz.prog 109 #[.string r] wr fun e w' => (∃ p : Nat, e = .returned (.int .i64 p) ∧ Seek r.data.toList p ∧ (r.data.toList.drop p).head? ≠ some 32) ∧ ∃ n, w' = wr.drewN n) := (show Calls _ _ _ _ _ from fieldSize_any r wr m (HM.out _ hbw) hrl hEr h0)
    have HEr : Hid (Ends r.data.toList) := hEr
    clear hbw hEr h0
    go_wp2_with fail
    refine HFS.out.mono ?_
    rintro e w1 ⟨⟨p, rfl, hsk, hnb⟩, n1, hw1⟩
    have hple := seek_le hsk
    rw [← Lib.size_eq] at hple
    have hch := seek_end hsk hnb
    have hpz : 2 ≤ p := by obtain ⟨j, hj, _⟩ := hsk; omega
    have hE2 := seek_ends hsk HEr.out
    have HB1 : Hid (Below w.heap.size w w1) := (show Below _ _ _ by rw [hw1]; exact uf.bdrew HBW.out n1)
    have HF1 : Hid (FieldsAt w1 w.heap.size (.slice a fs.length cap) fs) := (show FieldsAt _ _ _ _ by rw [hw1]; exact ow.own_below HFA.out (uf.bdrew (Below.refl _ _) n1))
    have hBs1 : w.heap.size ≤ w1.heap.size := HB1.out.size
    have hp1 : (0 : Int) ≤ (p : Int) := by omega
    have hp2 : (p : Int) ≤ (r.size : Int) := by omega
    have HUN := uf.implUh_any (r.extract 0 p) w1 m (HM.out _ HB1.out) (by rw [ext_size _ _ _ hple]; omega)
    have HCH : Hid (Chunk r.data.toList (r.data.toList.take p) (r.data.toList.drop p)) := hch
    have HE2 : Hid (Ends (r.data.toList.drop p)) := hE2
    clear hw1 hsk hnb hch hE2 HFS HFA HBW
    go_wp2_with fail
    refine HUN.mono ?_
    rintro e w2 ⟨hur, hb2⟩
    have HB2 : Hid (Below w.heap.size w w2) := HB1.out.trans (hb2.mono hBs1)
    have HF2 : Hid (FieldsAt w2 w.heap.size (.slice a fs.length cap) fs) := ow.own_below HF1.out hb2
    have hBs2 : w.heap.size ≤ w2.heap.size := HB2.out.size
    clear hb2 HUN HB1 HF1
    rcases hur with ⟨hbig, _⟩ | ⟨_, hno, rfl⟩ | ⟨_, nm, v, hf, rfl⟩
    · rw [ext_size _ _ _ hple] at hbig
      omega
    · have HN : Hid (¬ ∃ a v, F (r.data.toList.take p) a v) := (show ¬ _ by rw [ext_front] at hno; exact hno)
      clear hno
      go_wp2
      go_ret2
      exact ⟨.inr ⟨rfl, fs, _, _, _, HRUN.out, HCH.out, .inr HN.out⟩, HB2.out⟩
    · have HFF : Hid (F (r.data.toList.take p) nm v) := (show F _ _ _ by rw [ext_front] at hf; exact hf)
      clear hf
      by_cases h40 : fs.length = 40
      · have d40 : ((fs.length : Int) == 40) = true := beq_iff_eq.2 (by omega)
        have H40 : Hid (fs.length = 40) := h40
        clear h40
        go_wp2
        go_ret2
        exact ⟨.inr ⟨rfl, fs, _, _, _, HRUN.out, HCH.out, .inl H40.out⟩, HB2.out⟩
      · have d40 : ((fs.length : Int) == 40) = false := beq_eq_false_iff_ne.2 (by omega)
        have hown := HF2.out
        unfold FieldsAt at hown
        generalize hnb' : (⟨nm.toArray⟩ : ByteArray) = NM
        generalize hvb' : (⟨v.toArray⟩ : ByteArray) = VV
        have HNM : Hid (tv nm = .string NM ∧ tv v = .string VV) := (show _ ∧ _ by rw [← hnb', ← hvb']; exact ⟨rfl, rfl⟩)
        clear hnb' hvb'
        go_wp2_with (at_builtin; go_loud (refine wpList_append_own _ rfl _ _ 98 rfl w.heap.size 123 i0 _ 2 32 Tryz.underlying98 hi hz0 hz1 hz2 rfl (by decide) _ _ _ rfl (hown.alloc _) ⟨w2.heap.size, 0, none⟩ 1 1 [Value.string NM, Value.string VV] rfl rfl (by have hh := ow.cells_new w2 [Value.string NM, Value.string VV] 123; simpa using hh) (by simp [Value.oneCell']) (by unfold maxLen; omega) (by omega) (by simp; omega) ?_); intro v' w6 hown' hgrow _)
        have hb6 : Below w.heap.size w w6 := Below.grown (HB2.out.alloc hBs2 _) hgrow (by simp; omega) (ow.own_lt hown)
        have HB6 : Hid (Below w.heap.size w w6) := hb6
        have HF6 : Hid (FieldsAt w6 w.heap.size v' (fs ++ [(nm, v)])) := (show FieldsAt _ _ _ _ by
          unfold FieldsAt
          rw [fcells_snoc, List.length_append, HNM.out.1, HNM.out.2]
          exact hown')
        clear hown' hgrow hb6 hown
        go_wp2
        go_roundw
        case rel =>
          refine ⟨r.extract p r.size, fs ++ [(nm, v)], rfl, by rw [ext_size _ _ _ (Nat.le_refl _)]; omega, by rw [ext_tail]; exact HE2.out, ?_, by simp; omega, HF6.out, HB6.out⟩
          rw [ext_tail]
          exact runE_snoc HRUN.out HCH.out HFF.out
        case measure => simp [ext_size r p r.size (Nat.le_refl _)]; omega
end Go.Proofs.YtbokolpjdaamiaaGreatDoor.ml
