/-
  The contract of the program's UnfoldHeader.
-/
import Derived.Test.YtejmfffapkmjoaaDoorUfp
import Derived.Test.YtejmfffapkmjoaaDoorSvw
import Derived.Test.YtejmfffapkmjoaaDoorHdw
import Derived.Test.YtejmfffapkmjoaaDoorShf
namespace Go.Proofs.YtejmfffapkmjoaaDoor.uf
open Go.RowKit
set_option linter.unusedVariables false

/-- What both UnfoldHeader functions answer. -/
def UhRet (s : ByteArray) (e : Ending) : Prop :=
  (65536 < s.size ∧ e = .returned (.tuple #[.string ⟨#[]⟩, .string ⟨#[]⟩, .int .i64 2])) ∨
  (s.size ≤ 65536 ∧ (¬ ∃ nm v, Field hn.IsName s.data.toList nm v) ∧ e = .returned (.tuple #[.string ⟨#[]⟩, .string ⟨#[]⟩, .int .i64 3])) ∨
  (s.size ≤ 65536 ∧ ∃ nm v : List UInt8, Field hn.IsName s.data.toList nm v ∧ e = .returned (.tuple #[.string ⟨nm.toArray⟩, .string ⟨v.toArray⟩, .int .i64 0]))
theorem uh_ex {s : ByteArray} {e : Ending} (h : UhRet s e) : ∃ (a b : ByteArray) (c : Int), e = .returned (.tuple #[.string a, .string b, .int .i64 c]) := by
  rcases h with ⟨_, rfl⟩ | ⟨_, _, rfl⟩ | ⟨_, _, _, _, rfl⟩ <;> exact ⟨_, _, _, rfl⟩
theorem uh_same {s a b a' b' : ByteArray} {c c' : Int} (h : UhRet s (.returned (.tuple #[.string a, .string b, .int .i64 c]))) (h' : UhRet s (.returned (.tuple #[.string a', .string b', .int .i64 c']))) : a = a' ∧ b = b' ∧ c = c' := by
  rcases h with ⟨x, h⟩ | ⟨x, x2, h⟩ | ⟨x, nm, v, hf, h⟩ <;>
  rcases h' with ⟨y, h'⟩ | ⟨y, y2, h'⟩ | ⟨y, nm', v', hf', h'⟩ <;>
  cases h <;> cases h' <;>
  first | exact ⟨rfl, rfl, rfl⟩ | (exfalso; omega) | (exfalso; exact x2 ⟨_, _, hf'⟩) | (exfalso; exact y2 ⟨_, _, hf⟩) | (obtain ⟨rfl, rfl⟩ := field_one hf hf'; exact ⟨rfl, rfl, rfl⟩)
theorem index_colon : ∀ (l : List UInt8), (Lib.index l [58] = -1 ∧ 58 ∉ l) ∨ ∃ i : Nat, Lib.index l [58] = i ∧ l = l.take i ++ 58 :: l.drop (i + 1) ∧ 58 ∉ l.take i
  | [] => .inl ⟨rfl, by simp⟩
  | c :: r => by
    by_cases hc : c = 58
    · refine .inr ⟨0, ?_, by rw [hc]; rfl, by simp⟩
      rw [Lib.index, if_pos (by simp [hc])]
      rfl
    · have hp : ¬ [58].isPrefixOf (c :: r) = true := by simp; exact fun e => hc e.symm
      rcases index_colon r with ⟨h1, h2⟩ | ⟨i, h1, h2, h3⟩
      · refine .inl ⟨?_, ?_⟩
        · rw [Lib.index, if_neg hp, if_pos (by rw [h1]; rfl)]
        · intro hm
          rcases List.mem_cons.1 hm with e | e
          · exact hc e.symm
          · exact h2 e
      · refine .inr ⟨i + 1, ?_, ?_, ?_⟩
        · rw [Lib.index, if_neg hp, if_neg (by rw [h1]; simp), h1]
          simp
        · simp only [List.take_succ_cons, List.drop_succ_cons, List.cons_append, List.cons.injEq, true_and]
          exact h2
        · intro hm
          rw [List.take_succ_cons] at hm
          rcases List.mem_cons.1 hm with e | e
          · exact hc e.symm
          · exact h3 e
/-- What a cut at the first colon gives. -/
def CutIs (l a r : List UInt8) (b : Bool) : Prop := (b = true ∧ l = a ++ 58 :: r ∧ 58 ∉ a) ∨ (b = false ∧ 58 ∉ l ∧ r = [])
theorem cut_is (l : List UInt8) : CutIs l (Lib.cut l [58]).1 (Lib.cut l [58]).2.1 (Lib.cut l [58]).2.2 := by
  rcases index_colon l with ⟨h1, h2⟩ | ⟨i, h1, h2, h3⟩
  · have e : Lib.cut l [58] = (l, [], false) := by
      unfold Lib.cut
      rw [if_neg (by rw [h1]; decide)]
    rw [e]
    exact .inr ⟨rfl, h2, rfl⟩
  · have e : Lib.cut l [58] = (l.take i, l.drop (i + 1), true) := by
      unfold Lib.cut
      rw [if_pos (by rw [h1]; omega), h1]
      rfl
    rw [e]
    exact .inl ⟨rfl, h2, h3⟩
def PreIs (l r : List UInt8) (b : Bool) : Prop := (b = true ∧ l = 32 :: r) ∨ (b = false ∧ ∀ q, l ≠ 32 :: q)
theorem pre_is (l : List UInt8) : PreIs l (Lib.trimPrefix l [32]) (Lib.hasPrefix l [32]) := by
  unfold Lib.trimPrefix Lib.hasPrefix
  match l with
  | [] => exact .inr ⟨rfl, fun q h => by cases h⟩
  | c :: r =>
    by_cases hc : c = 32
    · subst hc
      exact .inl ⟨rfl, rfl⟩
    · have hp : [32].isPrefixOf (c :: r) = false := by
        rw [Bool.eq_false_iff]
        intro h
        simp only [List.isPrefixOf, Bool.and_true, beq_iff_eq] at h
        exact hc h.symm
      rw [hp]
      exact .inr ⟨rfl, fun q h => hc (List.cons.inj h).1⟩
def SufIs (l r : List UInt8) (b : Bool) : Prop := (b = true ∧ l = r ++ [13, 10]) ∨ (b = false ∧ ∀ q, l ≠ q ++ [13, 10])
theorem suf_is (l : List UInt8) : SufIs l (Lib.trimSuffix l [13, 10]) (Lib.hasSuffix l [13, 10]) := by
  unfold Lib.trimSuffix Lib.hasSuffix
  cases h : [13, 10].isSuffixOf l with
  | false =>
    refine .inr ⟨rfl, fun q hq => ?_⟩
    have : [13, 10].isSuffixOf l = true := List.isSuffixOf_iff_suffix.2 ⟨q, hq.symm⟩
    rw [h] at this
    cases this
  | true =>
    obtain ⟨q, hq⟩ := List.isSuffixOf_iff_suffix.1 h
    refine .inl ⟨rfl, ?_⟩
    rw [if_pos rfl, ← hq]
    simp
theorem no_colon {P : ByteArray → Prop} {l : List UInt8} (h : 58 ∉ l) : ¬ ∃ nm v, Field P l nm v := by
  rintro ⟨nm, v, x, ⟨hx, _⟩, _⟩
  rw [hx] at h
  simp at h
theorem no_blank {P : ByteArray → Prop} {l a r : List UInt8} (h : l = a ++ 58 :: r) (ha : 58 ∉ a) (hr : ∀ q, r ≠ 32 :: q) : ¬ ∃ nm v, Field P l nm v := by
  rintro ⟨nm, v, x, ⟨hx, hm⟩, _⟩
  exact hr _ (colon_one _ _ _ _ ha hm (h.symm.trans hx)).2
theorem no_end {P : ByteArray → Prop} {l a r : List UInt8} (h : l = a ++ 58 :: 32 :: r) (ha : 58 ∉ a) (hr : ∀ q, r ≠ q ++ [13, 10]) : ¬ ∃ nm v, Field P l nm v := by
  rintro ⟨nm, v, x, ⟨hx, hm⟩, _⟩
  have := (colon_one _ _ _ _ ha hm (h.symm.trans hx)).2
  exact hr _ (List.cons.inj this).2
theorem no_name {P : ByteArray → Prop} {l a x : List UInt8} (h : Parts l a x) (hn : ¬ P ⟨a.toArray⟩) : ¬ ∃ nm v, Field P l nm v := by
  rintro ⟨nm, v, x', hx, hP, _⟩
  obtain ⟨rfl, rfl⟩ := parts_one h hx
  exact hn hP
theorem no_value {P : ByteArray → Prop} {l a x : List UInt8} (h : Parts l a x) (hn : ¬ ∃ v, unf false x = some v ∧ hd.Safe v) : ¬ ∃ nm v, Field P l nm v := by
  rintro ⟨nm, v, x', hx, _, hu, hs⟩
  obtain ⟨rfl, rfl⟩ := parts_one h hx
  exact hn ⟨v, hu, hs⟩

theorem name_true {p : Prop} {e : Ending} (h : hn.Says p e) (hp : p) : e = .returned (.bool true) := by
  obtain ⟨b, rfl, hb⟩ := h
  rw [hb.2 hp]
theorem name_false {p : Prop} {e : Ending} (h : hn.Says p e) (hp : ¬ p) : e = .returned (.bool false) := by
  obtain ⟨b, rfl, hb⟩ := h
  cases b
  · rfl
  · exact absurd (hb.1 rfl) hp
theorem bdrew {B : Nat} {a w : World} (h : Below B a w) (n : Nat) : Below B a (w.drewN n) := ⟨h.os, h.tape, h.output, h.size, h.block⟩

theorem clone_uf (s : ByteArray) (w : World) (hs : s.size ≤ 1048576) :
    Calls Tryd.prog 49 #[.string s] w fun e w' => e = .returned (.string s) ∧ Below w.heap.size w w' := by
  go_enter Tryd.func49, Tryd.ntmps49
  go_wp2_with fail
  refine (Tryd.stringslite_Clone s _ (by omega)).mono ?_
  rintro e w' ⟨rfl, hb⟩
  go_wp2
  go_ret
  exact ⟨rfl, hb⟩

set_option maxHeartbeats 4000000 in
set_option maxRecDepth 100000 in
theorem implUh_any (s : ByteArray) (w : World) (m : Int) (hm : w.cell? ⟨1, 0, none⟩ = some (.int .i64 m)) (hs : s.size ≤ 1048576) :
    Calls Tryd.prog 75 #[.string s] w fun e w' => UhRet s e ∧ Below w.heap.size w w' := by
  by_cases h : s.size ≤ 65536
  case neg =>
    have h' : (65536 : Int) < (s.size : Int) := by omega
    clear hm
    go_enter Tryd.func75, Tryd.ntmps75
    go_wp2
    go_ret3
    exact ⟨.inl ⟨by omega, rfl⟩, Below.refl _ _⟩
  have h' : (s.size : Int) ≤ 65536 := by omega
  have hgl := World.block_lt_of_cell? _ _ hm
  have HM : Hid (∀ W, Below w.heap.size w W → W.cell? ⟨1, 0, none⟩ = some (.int .i64 m)) := fun W hW => (hW.cell (p := ⟨1, 0, none⟩) hgl).trans hm
  clear hm hgl
  go_enter Tryd.func75, Tryd.ntmps75
  go_wp2_with fail
  refine (Tryd.strings_Cut s ⟨#[58]⟩ m _ (by omega) (HM.out _ (Below.refl _ _))).mono ?_
  rw [show (⟨#[58]⟩ : ByteArray).data.toList = [58] from rfl]
  have hC := cut_is s.data.toList
  obtain ⟨a, ha⟩ : ∃ a, a = (Lib.cut s.data.toList [58]).1 := ⟨_, rfl⟩
  obtain ⟨r1, hr1⟩ : ∃ r, r = (Lib.cut s.data.toList [58]).2.1 := ⟨_, rfl⟩
  obtain ⟨b1, hb1⟩ : ∃ b, b = (Lib.cut s.data.toList [58]).2.2 := ⟨_, rfl⟩
  rw [← ha, ← hr1, ← hb1] at hC ⊢
  rintro e w1 ⟨rfl, q1, hw1⟩
  have bw1 : Below w.heap.size w w1 := by rw [hw1]; exact bdrew (Below.refl _ _) _
  clear hw1 ha hr1 hb1
  have hl1 : r1.length ≤ 65536 := by
    rcases hC with ⟨_, hC, _⟩ | ⟨_, _, hC⟩
    · have := congrArg List.length hC
      rw [← Lib.size_eq] at this
      simp at this
      omega
    · rw [hC]; simp
  have hla : b1 = true → a.length ≤ 65536 := fun hb => by
    rcases hC with ⟨_, hC, _⟩ | ⟨hC, _⟩
    · have := congrArg List.length hC
      rw [← Lib.size_eq] at this
      simp at this
      omega
    · rw [hb] at hC; cases hC
  have HC : Hid (CutIs s.data.toList a r1 b1) := hC
  have HLA : Hid (b1 = true → a.length ≤ 65536) := hla
  clear hC hla
  obtain ⟨A, hA⟩ : ∃ A : ByteArray, A = ⟨a.toArray⟩ := ⟨_, rfl⟩
  obtain ⟨R1, hR1⟩ : ∃ R : ByteArray, R = ⟨r1.toArray⟩ := ⟨_, rfl⟩
  have hR1l : R1.data.toList = r1 := by rw [hR1]
  rw [← hA, ← hR1]
  have HA : Hid (A = ⟨a.toArray⟩) := hA
  clear hA hR1
  go_wp2_with fail
  refine (Tryd.strings_CutPrefix R1 ⟨#[32]⟩ _).mono ?_
  rw [show (⟨#[32]⟩ : ByteArray).data.toList = [32] from rfl, hR1l]
  have hC := pre_is r1
  obtain ⟨r2, hr2⟩ : ∃ r, r = Lib.trimPrefix r1 [32] := ⟨_, rfl⟩
  obtain ⟨b2, hb2⟩ : ∃ b, b = Lib.hasPrefix r1 [32] := ⟨_, rfl⟩
  have hl2 : r2.length ≤ 65536 := by rw [hr2]; unfold Lib.trimPrefix; split; rw [List.length_drop]; omega; exact hl1
  rw [← hr2, ← hb2] at hC ⊢
  rintro e w2 ⟨rfl, hw2⟩
  rw [hw2]
  have HP : Hid (PreIs r1 r2 b2) := hC
  obtain ⟨R2, hR2⟩ : ∃ R : ByteArray, R = ⟨r2.toArray⟩ := ⟨_, rfl⟩
  have hR2l : R2.data.toList = r2 := by rw [hR2]
  have hR2s : R2.size ≤ 65536 := by rw [Lib.size_eq, hR2l]; exact hl2
  rw [← hR2]
  clear hw2 hC hr2 hb2 hR2 hR1l hl1
  go_wp2_with fail
  refine (Tryd.strings_CutSuffix R2 ⟨#[13, 10]⟩ _ (by omega)).mono ?_
  rw [show (⟨#[13, 10]⟩ : ByteArray).data.toList = [13, 10] from rfl, hR2l]
  have hC := suf_is r2
  obtain ⟨x, hx⟩ : ∃ r, r = Lib.trimSuffix r2 [13, 10] := ⟨_, rfl⟩
  obtain ⟨b3, hb3⟩ : ∃ b, b = Lib.hasSuffix r2 [13, 10] := ⟨_, rfl⟩
  have hlx : x.length ≤ 65536 := by rw [hx]; unfold Lib.trimSuffix; split; rw [List.length_take]; omega; exact hl2
  rw [← hx, ← hb3] at hC ⊢
  rintro e w3 ⟨rfl, hw3⟩
  rw [hw3]
  have HF : Hid (SufIs r2 x b3) := hC
  obtain ⟨X, hX⟩ : ∃ R : ByteArray, R = ⟨x.toArray⟩ := ⟨_, rfl⟩
  have hXl : X.data.toList = x := by rw [hX]
  have hXs : X.size ≤ 65536 := by rw [Lib.size_eq, hXl]; exact hlx
  rw [← hX]
  clear hw3 hC hx hb3 hX hR2l hl2
  cases b1 with
  | false =>
    have HN : Hid (¬ ∃ nm v, Field hn.IsName s.data.toList nm v) := no_colon (by rcases HC.out with ⟨e, _⟩ | ⟨_, e, _⟩; cases e; exact e)
    go_wp2
    go_ret3
    exact ⟨.inr (.inl ⟨h, HN.out, rfl⟩), bw1⟩
  | true =>
    have HC1 : Hid (s.data.toList = a ++ 58 :: r1 ∧ 58 ∉ a) := by rcases HC.out with ⟨_, e⟩ | ⟨e, _⟩; exact e; cases e
    have hal := HLA.out rfl
    cases b2 with
    | false =>
      have HN : Hid (¬ ∃ nm v, Field hn.IsName s.data.toList nm v) := no_blank HC1.out.1 HC1.out.2 (by rcases HP.out with ⟨e, _⟩ | ⟨_, e⟩; cases e; exact e)
      go_wp2
      go_ret3
      exact ⟨.inr (.inl ⟨h, HN.out, rfl⟩), bw1⟩
    | true =>
      have HP1 : Hid (r1 = 32 :: r2) := by rcases HP.out with ⟨_, e⟩ | ⟨e, _⟩; exact e; cases e
      cases b3 with
      | false =>
        have HN : Hid (¬ ∃ nm v, Field hn.IsName s.data.toList nm v) := no_end (by rw [HC1.out.1, HP1.out]) HC1.out.2 (by rcases HF.out with ⟨e, _⟩ | ⟨_, e⟩; cases e; exact e)
        go_wp2
        go_ret3
        exact ⟨.inr (.inl ⟨h, HN.out, rfl⟩), bw1⟩
      | true =>
        have HF1 : Hid (r2 = x ++ [13, 10]) := by rcases HF.out with ⟨_, e⟩ | ⟨e, _⟩; exact e; cases e
        have HPA : Hid (Parts s.data.toList a x) := ⟨by rw [HC1.out.1, HP1.out, HF1.out], HC1.out.2⟩
        clear HC HP HF HC1 HP1 HF1
        go_wp2_with fail
        refine (Tryd.strings_ReplaceAll X ⟨#[13, 10, 32]⟩ ⟨#[32]⟩ m _ (by omega) (HM.out _ bw1) (by decide) (by have := Lib.countB_mul_le ⟨#[13, 10, 32]⟩ (by decide) X.size X (Nat.le_refl _); have e1 : (⟨#[13, 10, 32]⟩ : ByteArray).size = 3 := rfl; have e2 : (⟨#[32]⟩ : ByteArray).size = 1 := rfl; rw [e1] at this; rw [e2]; omega)).mono ?_
        rw [show (⟨#[13, 10, 32]⟩ : ByteArray).data.toList = fw from rfl, show (⟨#[32]⟩ : ByteArray).data.toList = [32] from rfl, hXl]
        rintro e w4 ⟨rfl, b4⟩
        have bw4 := bw1.trans (b4.mono bw1.size)
        obtain ⟨V, hV⟩ : ∃ V : ByteArray, V = ⟨(Lib.replaceAll x fw [32]).toArray⟩ := ⟨_, rfl⟩
        have hVl : V.data.toList = Lib.replaceAll x fw [32] := by rw [hV]
        rw [← hV]
        have HV : Hid (V = ⟨(Lib.replaceAll x fw [32]).toArray⟩) := hV
        have HVL : Hid (V.data.toList = Lib.replaceAll x fw [32]) := hVl
        clear hV hVl b4
        have hAs : A.size ≤ 65536 := by rw [HA.out, Lib.size_eq]; exact hal
        go_wp2_with fail
        refine (hn.impl_any A _ (by unfold maxLen; omega)).mono ?_
        rintro e w5 ⟨hsn, hw5⟩
        rw [hw5]
        clear hw5
        by_cases hname : hn.IsName A
        case neg =>
          obtain rfl := name_false hsn hname
          have HN : Hid (¬ ∃ nm v, Field hn.IsName s.data.toList nm v) := no_name HPA.out (by rw [← HA.out]; exact hname)
          clear hsn hname
          go_wp2
          go_ret3
          exact ⟨.inr (.inl ⟨h, HN.out, rfl⟩), bw4⟩
        obtain rfl := name_true hsn hname
        have HNM : Hid (hn.IsName A) := hname
        clear hsn hname
        by_cases hVs : V.size ≤ maxLen
        case neg =>
          exfalso
          apply hVs
          rw [Lib.size_eq, HVL.out, replaceAll_rep]
          have := rep_len x.length x (Nat.le_refl _)
          unfold maxLen
          omega
        go_wp2_with fail
        refine (sv.impl_any V _ hVs).mono ?_
        rintro e w6 ⟨hsv, hw6⟩
        rw [hw6]
        clear hw6
        rw [HVL.out] at hsv
        by_cases hsafe : hd.Safe (Lib.replaceAll x fw [32])
        case neg =>
          obtain rfl := sv.says_false hsv hsafe
          have HN : Hid (¬ ∃ nm v, Field hn.IsName s.data.toList nm v) := no_value HPA.out (fun e => hsafe ((value_iff x).2 e))
          clear hsv hsafe
          go_wp2
          go_ret3
          exact ⟨.inr (.inl ⟨h, HN.out, rfl⟩), bw4⟩
        obtain rfl := sv.says_true hsv hsafe
        have hVz : V.size ≤ 2000 := by rw [Lib.size_eq, HVL.out]; exact hsafe.1
        obtain ⟨v, hu, hvs⟩ := (value_iff x).1 hsafe
        have HU : Hid (unf false x = some v ∧ hd.Safe v) := ⟨hu, hvs⟩
        clear hsv hsafe hu hvs
        go_wp2_with fail
        refine (clone_uf A _ (by omega)).mono ?_
        rintro e w7 ⟨rfl, b7⟩
        go_wp2_with fail
        refine (clone_uf V _ (by omega)).mono ?_
        rintro e w8 ⟨rfl, b8⟩
        have bw8 := (bw4.trans (b7.mono bw4.size)).trans (b8.mono (bw4.trans (b7.mono bw4.size)).size)
        go_wp2
        go_ret3
        refine ⟨.inr (.inr ⟨h, a, v, ⟨x, HPA.out, by rw [← HA.out]; exact HNM.out, HU.out.1, HU.out.2⟩, ?_⟩), bw8⟩
        rw [HA.out, HV.out, value_eq HU.out.1]
        rfl
end Go.Proofs.YtejmfffapkmjoaaDoor.uf
