/-
  What a fetch tells of a mail: both functions.
-/
import Derived.Test.YtbokolpjdaamiaaGreatDoorPkbo
import Derived.Test.YtbokolpjdaamiaaGreatDoorPkbl
import Derived.Test.YtbokolpjdaamiaaGreatDoorPkbp

namespace Go.Proofs.YtbokolpjdaamiaaGreatDoor.fq
open Go.RowKit
open gr bl
open ky (TextsAt nt)
set_option linter.unusedVariables false

/-- The arguments that may be told of. -/
def Fits (u f : Int) (t : ByteArray) (ks : List ByteArray) : Prop := ks.length ≤ 30 ∧ (1 ≤ u ∧ u ≤ 1000) ∧ (0 ≤ f ∧ f ≤ 31) ∧ t.size ≤ 4000
/-- The mail that is told of. -/
def Of (x : Fm) (u f : Int) (t : ByteArray) : Prop := x.l = t.data.toList ∧ x.u = u.toNat ∧ x.f = f.toNat ∧ x.Is
theorem fm_ex (u f : Int) (t : ByteArray) : ∃ x : Fm, Of x u f t := by
  by_cases h : ∃ b fs, ml.IsMail t.data.toList fs b
  · obtain ⟨b, fs, h⟩ := h
    exact ⟨⟨t.data.toList, u.toNat, f.toNat, some b⟩, rfl, rfl, rfl, .inl ⟨b, fs, rfl, h⟩⟩
  · exact ⟨⟨t.data.toList, u.toNat, f.toNat, none⟩, rfl, rfl, rfl, .inr ⟨rfl, fun ⟨fs, b, y⟩ => h ⟨b, fs, y⟩⟩⟩
def FtV (x : Fm) (u f : Int) (t : ByteArray) (q : Int) (ks : List ByteArray) (wu : Bool) (A : ByteArray) (s : Bool) (c : Int) : Prop :=
  (4096 < ks.length ∧ A = ⟨#[]⟩ ∧ s = false ∧ c = 2) ∨
  (ks.length ≤ 4096 ∧ ¬ Fits u f t ks ∧ A = ⟨#[]⟩ ∧ s = false ∧ c = 1) ∨
  (Fits u f t ks ∧ ¬ (1 ≤ q ∧ q ≤ 4294967295) ∧ A = ⟨#[]⟩ ∧ s = false ∧ c = 4) ∨
  (Fits u f t ks ∧ (1 ≤ q ∧ q ≤ 4294967295) ∧ Fr x q.toNat ks wu A s c)
/-- What FetchText answers. -/
def FtRet (x : Fm) (u f : Int) (t : ByteArray) (q : Int) (ks : List ByteArray) (wu : Bool) (e : Ending) : Prop :=
  ∃ (A : ByteArray) (s : Bool) (c : Int), e = .returned (.tuple #[.string A, .bool s, .int .i64 c]) ∧ FtV x u f t q ks wu A s c
theorem ft_ex {x : Fm} {u f : Int} {t : ByteArray} {q : Int} {ks : List ByteArray} {wu : Bool} {e : Ending} (h : FtRet x u f t q ks wu e) : ∃ (A : ByteArray) (s : Bool) (c : Int), e = .returned (.tuple #[.string A, .bool s, .int .i64 c]) := by
  obtain ⟨A, s, c, rfl, _⟩ := h
  exact ⟨_, _, _, rfl⟩
theorem ftv_same {x : Fm} {u f : Int} {t : ByteArray} {q : Int} {ks : List ByteArray} {wu : Bool} {A A' : ByteArray} {s s' : Bool} {c c' : Int} (h : FtV x u f t q ks wu A s c) (h' : FtV x u f t q ks wu A' s' c') : A = A' ∧ s = s' ∧ c = c' := by
  have hF : Fits u f t ks → ks.length ≤ 30 := fun y => y.1
  rcases h with ⟨a1, rfl, rfl, rfl⟩ | ⟨a1, a2, rfl, rfl, rfl⟩ | ⟨a1, a2, rfl, rfl, rfl⟩ | ⟨a1, a2, a3⟩ <;> rcases h' with ⟨b1, rfl, rfl, rfl⟩ | ⟨b1, b2, rfl, rfl, rfl⟩ | ⟨b1, b2, rfl, rfl, rfl⟩ | ⟨b1, b2, b3⟩
  all_goals first
    | exact ⟨rfl, rfl, rfl⟩
    | exact fr_one a3 b3
    | exact absurd b1 a2
    | exact absurd a1 b2
    | exact absurd b2 a2
    | exact absurd a2 b2
    | (exfalso; omega)
    | (exfalso; have := hF b1; omega)
    | (exfalso; have := hF a1; omega)
theorem ft_same {x : Fm} {u f : Int} {t : ByteArray} {q : Int} {ks : List ByteArray} {wu : Bool} {A A' : ByteArray} {s s' : Bool} {c c' : Int} (h : FtRet x u f t q ks wu (.returned (.tuple #[.string A, .bool s, .int .i64 c]))) (h' : FtRet x u f t q ks wu (.returned (.tuple #[.string A', .bool s', .int .i64 c']))) : A = A' ∧ s = s' ∧ c = c' := by
  obtain ⟨B, r, d, e, h⟩ := h
  obtain ⟨B', r', d', e', h'⟩ := h'
  simp only [Ending.returned.injEq, Value.tuple.injEq, Array.mk.injEq, List.cons.injEq, Value.string.injEq, Value.bool.injEq, Value.int.injEq, and_true, true_and] at e e'
  obtain ⟨rfl, rfl, rfl⟩ := e
  obtain ⟨rfl, rfl, rfl⟩ := e'
  exact ftv_same h h'
theorem ok_of {x : Fm} {u f : Int} {t : ByteArray} {ks : List ByteArray} (h : Of x u f t) (g : Fits u f t ks) : x.Ok ∧ (x.u : Int) = u ∧ (x.f : Int) = f := by
  obtain ⟨h1, h2, h3, h4⟩ := h
  obtain ⟨g1, g2, g3, g4⟩ := g
  exact ⟨⟨h4, by rw [h1, ← Lib.size_eq]; exact g4, by omega, by omega⟩, by omega, by omega⟩
theorem isUid_any (n : Int) (w : World) : Calls Tryz.prog 14 #[.int .i64 n] w fun e w' => e = .returned (.bool (decide (1 ≤ n ∧ n ≤ 1000))) ∧ w' = w := by
  go_enter Tryz.func14, Tryz.ntmps14
  go_wp2
  all_goals (go_ret; exact ⟨ret_bool' (by rw [Bool.eq_iff_iff]; simp; try omega), rfl⟩)
theorem isNum_any (n : Int) (w : World) : Calls Tryz.prog 16 #[.int .i64 n] w fun e w' => e = .returned (.bool (decide (1 ≤ n ∧ n ≤ 4294967295))) ∧ w' = w := by
  go_enter Tryz.func16, Tryz.ntmps16
  go_wp2
  all_goals (go_ret; exact ⟨ret_bool' (by rw [Bool.eq_iff_iff]; simp; try omega), rfl⟩)
theorem in_any (n a b : Int) (w : World) : Calls Tryz.prog 20 #[.int .i64 n, .int .i64 a, .int .i64 b] w fun e w' => e = .returned (.bool (decide (a ≤ n ∧ n ≤ b))) ∧ w' = w := by
  go_enter Tryz.func20, Tryz.ntmps20
  go_wp2
  all_goals (go_ret; exact ⟨ret_bool' (by rw [Bool.eq_iff_iff]; simp; try omega), rfl⟩)

set_option maxHeartbeats 8000000 in
set_option maxRecDepth 100000 in
theorem fetch_spec (x : Fm) (u f : Int) (t : ByteArray) (q : Int) (ks : List ByteArray) (wu : Bool) (hof : Of x u f t) (W : World) (v : Value) (hks : tx.Smalls ks) (h : TextsAt W v ks) :
    Calls Tryz.prog 8 #[.agg #[.int .i64 u, .int .i64 f, .string t], .int .i64 q, v, .bool wu] W fun e w' => FtRet x u f t q ks wu e ∧ Below W.heap.size W w' := by
  have hz := hks.2
  have hlen := hks.1
  have b0 : Below W.heap.size W (W.alloc (.cells #[.int .i64 u, .int .i64 f, .string t] 30)) := (Below.refl _ _).alloc (Nat.le_refl _) _
  have HB0 : Hid (Below W.heap.size W (W.alloc (.cells #[.int .i64 u, .int .i64 f, .string t] 30))) := b0
  have hat := ky.texts_below h b0
  obtain ⟨a, cap, rfl, hh⟩ := h
  obtain ⟨n, hn⟩ : ∃ n, n = ks.length := ⟨_, rfl⟩
  have HN : Hid (n = ks.length) := hn
  have HAT : Hid (TextsAt (W.alloc (.cells #[.int .i64 u, .int .i64 f, .string t] 30)) (.slice a n cap) ks) := (show TextsAt _ _ _ by rw [hn]; exact hat)
  rw [← hn] at hlen ⊢
  clear hh hat hn hks
  by_cases g0 : 4096 < n
  · have HR : Hid (FtRet x u f t q ks wu (.returned (.tuple #[.string ⟨#[]⟩, .bool false, .int .i64 2]))) := ⟨_, _, _, rfl, .inl ⟨by have := HN.out; omega, rfl, rfl, rfl⟩⟩
    have g0i : (4096 : Int) < (n : Int) := by omega
    clear hz hof HAT b0
    go_enter Tryz.func8, Tryz.ntmps8
    go_wp2
    go_ret3
    exact ⟨HR.out, HB0.out⟩
  have g0i : ¬ (4096 : Int) < (n : Int) := by omega
  have HBAD : Hid (¬ Fits u f t ks → FtRet x u f t q ks wu (.returned (.tuple #[.string ⟨#[]⟩, .bool false, .int .i64 1]))) := fun y => ⟨_, _, _, rfl, .inr (.inl ⟨by have := HN.out; omega, y, rfl, rfl, rfl⟩)⟩
  by_cases g1 : 30 < n
  · have HR := HBAD.out (fun y => by have := y.1; have := HN.out; omega)
    have HRH : Hid (FtRet x u f t q ks wu (.returned (.tuple #[.string ⟨#[]⟩, .bool false, .int .i64 1]))) := HR
    have g1i : (30 : Int) < (n : Int) := by omega
    clear hz hof HAT b0 HR HBAD
    go_enter Tryz.func8, Tryz.ntmps8
    go_wp2
    go_ret3
    exact ⟨HRH.out, HB0.out⟩
  have g1i : ¬ (30 : Int) < (n : Int) := by omega
  by_cases gf : 0 ≤ f ∧ f ≤ 31
  rotate_left
  · clear g0
    have HF : Hid (decide (0 ≤ f ∧ f ≤ 31) = false) := decide_eq_false gf
    have HRH : Hid (FtRet x u f t q ks wu (.returned (.tuple #[.string ⟨#[]⟩, .bool false, .int .i64 1]))) := HBAD.out (fun y => gf y.2.2.1)
    clear hz hof HAT b0 HBAD
    go_enter Tryz.func8, Tryz.ntmps8
    go_wp2_with (first | (go_at_call 20; refine (in_any _ _ _ _).mono ?_; rintro e w' ⟨rfl, rfl⟩; first | rw [HF.out]))
    go_ret3
    exact ⟨HRH.out, HB0.out⟩
  have HF : Hid (decide (0 ≤ f ∧ f ≤ 31) = true) := decide_eq_true gf
  by_cases gu : 1 ≤ u ∧ u ≤ 1000
  rotate_left
  · clear g0
    have HU : Hid (decide (1 ≤ u ∧ u ≤ 1000) = false) := decide_eq_false gu
    have HRH : Hid (FtRet x u f t q ks wu (.returned (.tuple #[.string ⟨#[]⟩, .bool false, .int .i64 1]))) := HBAD.out (fun y => gu y.2.1)
    clear hz hof HAT b0 HBAD
    go_enter Tryz.func8, Tryz.ntmps8
    go_wp2_with (first | (go_at_call 20; refine (in_any _ _ _ _).mono ?_; rintro e w' ⟨rfl, rfl⟩; first | rw [HF.out] | rw [HU.out]))
    go_ret3
    exact ⟨HRH.out, HB0.out⟩
  have HU : Hid (decide (1 ≤ u ∧ u ≤ 1000) = true) := decide_eq_true gu
  by_cases g4 : 4000 < t.size
  · have g4i : (4000 : Int) < (t.size : Int) := by omega
    have HRH : Hid (FtRet x u f t q ks wu (.returned (.tuple #[.string ⟨#[]⟩, .bool false, .int .i64 1]))) := HBAD.out (fun y => by have := y.2.2.2; omega)
    clear hz hof HAT b0 HBAD
    go_enter Tryz.func8, Tryz.ntmps8
    go_wp2_with (first | (go_at_call 20; refine (in_any _ _ _ _).mono ?_; rintro e w' ⟨rfl, rfl⟩; first | rw [HF.out] | rw [HU.out]))
    go_ret3
    exact ⟨HRH.out, HB0.out⟩
  have g4i : ¬ (4000 : Int) < (t.size : Int) := by omega
  have hfit : Fits u f t ks := ⟨by have := HN.out; omega, gu, gf, by omega⟩
  by_cases gq : 1 ≤ q ∧ q ≤ 4294967295
  rotate_left
  · have HRG : Hid (FtRet x u f t q ks wu (.returned (.tuple #[.string ⟨#[]⟩, .bool false, .int .i64 4]))) := ⟨_, _, _, rfl, .inr (.inr (.inl ⟨hfit, gq, rfl, rfl, rfl⟩))⟩
    have HQ : Hid (decide (1 ≤ q ∧ q ≤ 4294967295) = false) := decide_eq_false gq
    have HRH : Hid (FtRet x u f t q ks wu (.returned (.tuple #[.string ⟨#[]⟩, .bool false, .int .i64 4]))) := HRG.out
    clear hz hof HAT b0 HBAD  HRG hfit
    go_enter Tryz.func8, Tryz.ntmps8
    go_wp2_with (first | (go_at_call 20; refine (in_any _ _ _ _).mono ?_; rintro e w' ⟨rfl, rfl⟩; first | rw [HF.out] | rw [HU.out] | rw [HQ.out]))
    go_ret3
    exact ⟨HRH.out, HB0.out⟩
  have HQ : Hid (decide (1 ≤ q ∧ q ≤ 4294967295) = true) := decide_eq_true gq
  have HFV : Hid (∀ (A : ByteArray) (s : Bool) (c : Int), Fr x q.toNat ks wu A s c → FtRet x u f t q ks wu (.returned (.tuple #[.string A, .bool s, .int .i64 c]))) := fun A s c y => ⟨A, s, c, rfl, .inr (.inr (.inr ⟨hfit, gq, y⟩))⟩
  obtain ⟨hok, hxu, hxf⟩ := ok_of hof hfit
  have hxl := hof.1
  obtain ⟨m, rfl⟩ : ∃ m : Nat, q = m := ⟨q.toNat, by omega⟩
  have hmq : m ≤ 4294967295 := by omega
  have hkl : ks.length ≤ 30 := hfit.1
  rw [show ((m : Int)).toNat = m by omega] at HFV
  subst hxu
  subst hxf
  have HL : Hid (Calls Tryz.prog 21 #[.agg #[.int .i64 (x.u : Int), .int .i64 (x.f : Int), .string t], .int .i64 (m : Int), .slice a n cap, .bool wu] (W.alloc (.cells #[.int .i64 (x.u : Int), .int .i64 (x.f : Int), .string t] 30)) fun e w' => L13 x m ks wu e ∧ Below (W.alloc (.cells #[.int .i64 (x.u : Int), .int .i64 (x.f : Int), .string t] 30)).heap.size (W.alloc (.cells #[.int .i64 (x.u : Int), .int .i64 (x.f : Int), .string t] 30)) w') := l13_any x t hxl hok (.slice a n cap) ks m wu _ HAT.out hkl hz hmq
  clear hz hof HAT b0 HBAD hfit hok hxl hkl
  generalize hw0 : W.alloc (.cells #[.int .i64 (x.u : Int), .int .i64 (x.f : Int), .string t] 30) = w0 at HL HB0
  have HW0 : Hid (W.alloc (.cells #[.int .i64 (x.u : Int), .int .i64 (x.f : Int), .string t] 30) = w0) := hw0
  clear hw0
  go_enter Tryz.func8, Tryz.ntmps8
  go_wp2_with (first | (go_at_call 20; refine (in_any _ _ _ _).mono ?_; rintro e w' ⟨rfl, rfl⟩; first | rw [HF.out] | rw [HU.out] | rw [HQ.out]) | (go_at_call 21; fail))
  rw [HW0.out]
  refine HL.out.mono ?_
  rintro e w2 ⟨h2, b2⟩
  have HB2 : Hid (Below W.heap.size W w2) := HB0.out.trans (b2.mono HB0.out.size)
  obtain ⟨X, s, c, rfl, hfr⟩ := h2
  have hc : c = 0 ∨ (c = 3 ∧ X = ⟨#[]⟩ ∧ s = false) := by
    rcases hfr with ⟨_, _, _, h⟩ | ⟨_, h1, h2, h3⟩
    · exact .inl h
    · exact .inr ⟨h3, h1, h2⟩
  have HR : Hid (FtRet x (x.u : Int) (x.f : Int) t (m : Int) ks wu (.returned (.tuple #[.string X, .bool s, .int .i64 c]))) := HFV.out _ _ _ hfr
  clear hfr b2 HL HB0 HW0
  rcases hc with rfl | ⟨rfl, rfl, rfl⟩
  · rw [show decide ((0 : Int) = 0) = true from rfl]
    go_wp2
    go_ret3
    exact ⟨HR.out, HB2.out⟩
  · rw [show decide ((3 : Int) = 0) = false from rfl]
    go_wp2
    go_ret3
    exact ⟨HR.out, HB2.out⟩

set_option maxHeartbeats 8000000 in
set_option maxRecDepth 100000 in
theorem fetch_impl (x : Fm) (u f : Int) (t : ByteArray) (q : Int) (ks : List ByteArray) (wu : Bool) (hof : Of x u f t) (W : World) (v : Value) (hks : tx.Smalls ks) (h : TextsAt W v ks) (mx : Int) (hm : W.cell? ⟨1, 0, none⟩ = some (.int .i64 mx)) (hP : tb.TP W) (hF : tb.TF W) :
    Calls Tryz.prog 7 #[.agg #[.int .i64 u, .int .i64 f, .string t], .int .i64 q, v, .bool wu] W fun e w' => FtRet x u f t q ks wu e ∧ Below W.heap.size W w' := by
  have hz := hks.2
  have hlen := hks.1
  have b0 : Below W.heap.size W (W.alloc (.cells #[.int .i64 u, .int .i64 f, .string t] 30)) := (Below.refl _ _).alloc (Nat.le_refl _) _
  have HB0 : Hid (Below W.heap.size W (W.alloc (.cells #[.int .i64 u, .int .i64 f, .string t] 30))) := b0
  have hat := ky.texts_below h b0
  obtain ⟨a, cap, rfl, hh⟩ := h
  obtain ⟨n, hn⟩ : ∃ n, n = ks.length := ⟨_, rfl⟩
  have HN : Hid (n = ks.length) := hn
  have HAT : Hid (TextsAt (W.alloc (.cells #[.int .i64 u, .int .i64 f, .string t] 30)) (.slice a n cap) ks) := (show TextsAt _ _ _ by rw [hn]; exact hat)
  rw [← hn] at hlen ⊢
  clear hh hat hn hks
  by_cases g0 : 4096 < n
  · have HR : Hid (FtRet x u f t q ks wu (.returned (.tuple #[.string ⟨#[]⟩, .bool false, .int .i64 2]))) := ⟨_, _, _, rfl, .inl ⟨by have := HN.out; omega, rfl, rfl, rfl⟩⟩
    have g0i : (4096 : Int) < (n : Int) := by omega
    clear hz hof HAT b0 hm hP hF
    go_enter Tryz.func7, Tryz.ntmps7
    go_wp2
    go_ret3
    exact ⟨HR.out, HB0.out⟩
  have g0i : ¬ (4096 : Int) < (n : Int) := by omega
  have HBAD : Hid (¬ Fits u f t ks → FtRet x u f t q ks wu (.returned (.tuple #[.string ⟨#[]⟩, .bool false, .int .i64 1]))) := fun y => ⟨_, _, _, rfl, .inr (.inl ⟨by have := HN.out; omega, y, rfl, rfl, rfl⟩)⟩
  by_cases g1 : 30 < n
  · have HR := HBAD.out (fun y => by have := y.1; have := HN.out; omega)
    have HRH : Hid (FtRet x u f t q ks wu (.returned (.tuple #[.string ⟨#[]⟩, .bool false, .int .i64 1]))) := HR
    have g1i : (30 : Int) < (n : Int) := by omega
    clear hz hof HAT b0 HR HBAD hm hP hF
    go_enter Tryz.func7, Tryz.ntmps7
    go_wp2
    go_ret3
    exact ⟨HRH.out, HB0.out⟩
  have g1i : ¬ (30 : Int) < (n : Int) := by omega
  by_cases gu : 1 ≤ u ∧ u ≤ 1000
  rotate_left
  · clear g0
    have HU : Hid (∀ W, Calls Tryz.prog 14 #[.int .i64 u] W fun e w' => e = .returned (.bool false) ∧ w' = W) := fun W => by
      have := isUid_any u W
      rwa [decide_eq_false gu] at this
    have HRH : Hid (FtRet x u f t q ks wu (.returned (.tuple #[.string ⟨#[]⟩, .bool false, .int .i64 1]))) := HBAD.out (fun y => gu y.2.1)
    clear hz hof HAT b0 HBAD hm hP hF
    go_enter Tryz.func7, Tryz.ntmps7
    go_wp2_with (first | (go_at_call 14; refine (HU.out _).mono ?_; rintro e w' ⟨rfl, rfl⟩))
    go_ret3
    exact ⟨HRH.out, HB0.out⟩
  have HU : Hid (∀ W, Calls Tryz.prog 14 #[.int .i64 u] W fun e w' => e = .returned (.bool true) ∧ w' = W) := fun W => by
    have := isUid_any u W
    rwa [decide_eq_true gu] at this
  by_cases gf : 0 ≤ f ∧ f ≤ 31
  rotate_left
  · clear g0
    have HF : Hid (∀ W, Calls Tryz.prog 15 #[.int .i64 f] W fun e w' => e = .returned (.bool false) ∧ w' = W) := fun W => by
      have := fg.areFlags_any f W
      rwa [decide_eq_false gf] at this
    have HRH : Hid (FtRet x u f t q ks wu (.returned (.tuple #[.string ⟨#[]⟩, .bool false, .int .i64 1]))) := HBAD.out (fun y => gf y.2.2.1)
    clear hz hof HAT b0 HBAD hm hP hF
    go_enter Tryz.func7, Tryz.ntmps7
    go_wp2_with (first | (go_at_call 14; refine (HU.out _).mono ?_; rintro e w' ⟨rfl, rfl⟩) | (go_at_call 15; refine (HF.out _).mono ?_; rintro e w' ⟨rfl, rfl⟩))
    go_ret3
    exact ⟨HRH.out, HB0.out⟩
  have HF : Hid (∀ W, Calls Tryz.prog 15 #[.int .i64 f] W fun e w' => e = .returned (.bool true) ∧ w' = W) := fun W => by
    have := fg.areFlags_any f W
    rwa [decide_eq_true gf] at this
  by_cases g4 : 4000 < t.size
  · have g4i : (4000 : Int) < (t.size : Int) := by omega
    have HRH : Hid (FtRet x u f t q ks wu (.returned (.tuple #[.string ⟨#[]⟩, .bool false, .int .i64 1]))) := HBAD.out (fun y => by have := y.2.2.2; omega)
    clear hz hof HAT b0 HBAD hm hP hF
    go_enter Tryz.func7, Tryz.ntmps7
    go_wp2_with (first | (go_at_call 14; refine (HU.out _).mono ?_; rintro e w' ⟨rfl, rfl⟩) | (go_at_call 15; refine (HF.out _).mono ?_; rintro e w' ⟨rfl, rfl⟩))
    go_ret3
    exact ⟨HRH.out, HB0.out⟩
  have g4i : ¬ (4000 : Int) < (t.size : Int) := by omega
  have hfit : Fits u f t ks := ⟨by have := HN.out; omega, gu, gf, by omega⟩
  by_cases gq : 1 ≤ q ∧ q ≤ 4294967295
  rotate_left
  · have HRG : Hid (FtRet x u f t q ks wu (.returned (.tuple #[.string ⟨#[]⟩, .bool false, .int .i64 4]))) := ⟨_, _, _, rfl, .inr (.inr (.inl ⟨hfit, gq, rfl, rfl, rfl⟩))⟩
    have HQ : Hid (∀ W, Calls Tryz.prog 16 #[.int .i64 q] W fun e w' => e = .returned (.bool false) ∧ w' = W) := fun W => by
      have := isNum_any q W
      rwa [decide_eq_false gq] at this
    have HRH : Hid (FtRet x u f t q ks wu (.returned (.tuple #[.string ⟨#[]⟩, .bool false, .int .i64 4]))) := HRG.out
    clear hz hof HAT b0 HBAD hm hP hF HRG hfit
    go_enter Tryz.func7, Tryz.ntmps7
    go_wp2_with (first | (go_at_call 14; refine (HU.out _).mono ?_; rintro e w' ⟨rfl, rfl⟩) | (go_at_call 15; refine (HF.out _).mono ?_; rintro e w' ⟨rfl, rfl⟩) | (go_at_call 16; refine (HQ.out _).mono ?_; rintro e w' ⟨rfl, rfl⟩))
    go_ret3
    exact ⟨HRH.out, HB0.out⟩
  have HQ : Hid (∀ W, Calls Tryz.prog 16 #[.int .i64 q] W fun e w' => e = .returned (.bool true) ∧ w' = W) := fun W => by
    have := isNum_any q W
    rwa [decide_eq_true gq] at this
  have HFV : Hid (∀ (A : ByteArray) (s : Bool) (c : Int), Fr x q.toNat ks wu A s c → FtRet x u f t q ks wu (.returned (.tuple #[.string A, .bool s, .int .i64 c]))) := fun A s c y => ⟨A, s, c, rfl, .inr (.inr (.inr ⟨hfit, gq, y⟩))⟩
  obtain ⟨hok, hxu, hxf⟩ := ok_of hof hfit
  have hxl := hof.1
  obtain ⟨m, rfl⟩ : ∃ m : Nat, q = m := ⟨q.toNat, by omega⟩
  have hmq : m ≤ 4294967295 := by omega
  have hkl : ks.length ≤ 30 := hfit.1
  rw [show ((m : Int)).toNat = m by omega] at HFV
  subst hxu
  subst hxf
  have c0 := cell3 W #[.int .i64 (x.u : Int), .int .i64 (x.f : Int), .string t] 30 0 _ rfl
  have c1 := cell3 W #[.int .i64 (x.u : Int), .int .i64 (x.f : Int), .string t] 30 1 _ rfl
  have c2 := cell3 W #[.int .i64 (x.u : Int), .int .i64 (x.f : Int), .string t] 30 2 _ rfl
  have hg : 1 < W.heap.size := World.block_lt_of_cell? W _ hm
  have HMX : Hid (∀ V, Below W.heap.size W V → V.cell? ⟨1, 0, none⟩ = some (.int .i64 mx)) := fun V hV => (hV.cell (p := ⟨1, 0, none⟩) hg).trans hm
  have HIO : Hid (Calls Tryz.prog 17 #[.slice a n cap] (W.alloc (.cells #[.int .i64 (x.u : Int), .int .i64 (x.f : Int), .string t] 30)) fun e w' => IsRet ks e w' ∧ Below (W.alloc (.cells #[.int .i64 (x.u : Int), .int .i64 (x.f : Int), .string t] 30)).heap.size (W.alloc (.cells #[.int .i64 (x.u : Int), .int .i64 (x.f : Int), .string t] 30)) w') := itemsOf_any (.slice a n cap) ks _ mx (HMX.out _ b0) HAT.out hkl hz
  have HFE : Hid (∀ V vv, AllIt ks ks.length → Below W.heap.size W V → ItAt V vv (its ks) → Calls Tryz.prog 18 #[.agg #[.int .i64 (x.u : Int), .int .i64 (x.f : Int), .string t], .int .i64 (m : Int), vv, .bool wu] V fun e w' => FdRet x m ks wu e ∧ Below V.heap.size V w') := fun V vv h1 h2 h3 => fetched_any x t hxl hok vv ks h1 m wu V h3 hkl hmq (tb.keep' hP h2) (tb.keepS hF h2) mx (HMX.out V h2)
  have HHA : Hid (∀ V vv, AllIt ks ks.length → ItAt V vv (its ks) → Calls Tryz.prog 19 #[vv, .string ⟨#[66, 79, 68, 89]⟩] V fun e w' => e = .returned (.bool (ks.any isSn)) ∧ Below V.heap.size V w') := fun V vv h1 h2 => by
    have := has_any vv (its ks) kBo V h2 (by rw [its_len]; omega)
    rwa [has_sn h1] at this
  have HCE : Hid (∀ V, Below (W.alloc (.cells #[.int .i64 (x.u : Int), .int .i64 (x.f : Int), .string t] 30)).heap.size (W.alloc (.cells #[.int .i64 (x.u : Int), .int .i64 (x.f : Int), .string t] 30)) V → V.cell? ⟨W.heap.size, 0, none⟩ = some (.int .i64 (x.u : Int)) ∧ V.cell? ⟨W.heap.size, 1, none⟩ = some (.int .i64 (x.f : Int)) ∧ V.cell? ⟨W.heap.size, 2, none⟩ = some (.string t)) := fun V hV => ⟨kq hV c0, kq hV c1, kq hV c2⟩
  clear hz hof HAT b0 HBAD hfit hok hxl hkl hm hP hF hg c0 c1 c2
  generalize hw0 : W.alloc (.cells #[.int .i64 (x.u : Int), .int .i64 (x.f : Int), .string t] 30) = w0 at HIO HB0 HCE
  have HW0 : Hid (W.alloc (.cells #[.int .i64 (x.u : Int), .int .i64 (x.f : Int), .string t] 30) = w0) := hw0
  clear hw0
  go_enter Tryz.func7, Tryz.ntmps7
  go_wp2_with (first | (go_at_call 14; refine (HU.out _).mono ?_; rintro e w' ⟨rfl, rfl⟩) | (go_at_call 15; refine (HF.out _).mono ?_; rintro e w' ⟨rfl, rfl⟩) | (go_at_call 16; refine (HQ.out _).mono ?_; rintro e w' ⟨rfl, rfl⟩) | (go_at_call 17; fail))
  rw [HW0.out]
  refine HIO.out.mono ?_
  rintro e w2 ⟨h2, b2⟩
  have HB2 : Hid (Below W.heap.size W w2) := HB0.out.trans (b2.mono HB0.out.size)
  have HBB2 : Hid (Below w0.heap.size w0 w2) := b2
  clear b2 HIO HW0
  rcases h2 with ⟨hall, vv, rfl, hit⟩ | ⟨⟨j, hj, hno⟩, rfl⟩
  rotate_left
  · have HR : Hid (FtRet x (x.u : Int) (x.f : Int) t (m : Int) ks wu (.returned (.tuple #[.string ⟨#[]⟩, .bool false, .int .i64 3]))) := HFV.out _ _ _ (.inr ⟨⟨j, hj, tx1_none hno⟩, rfl, rfl, rfl⟩)
    clear hno hj
    go_wp2
    go_ret3
    exact ⟨HR.out, HB2.out⟩
  have hfe := HFE.out w2 vv hall HB2.out hit
  have HHB : Hid (∀ V, Below w2.heap.size w2 V → Calls Tryz.prog 19 #[vv, .string ⟨#[66, 79, 68, 89]⟩] V fun e w' => e = .returned (.bool (ks.any isSn)) ∧ Below V.heap.size V w') := fun V hV => HHA.out V vv hall (it_below hit hV)
  obtain ⟨b3, off3, cap3, rfl, hcc⟩ := hit
  have HFH : Hid (Calls Tryz.prog 18 #[.agg #[.int .i64 (x.u : Int), .int .i64 (x.f : Int), .string t], .int .i64 (m : Int), .slice (some ⟨b3, off3, none⟩) (its ks).length cap3, .bool wu] w2 fun e w' => FdRet x m ks wu e ∧ Below w2.heap.size w2 w') := hfe
  obtain ⟨k0, k1, k2⟩ := HCE.out w2 HBB2.out
  clear hall hfe HFE HHA hcc HCE
  go_wp2_with (first | (go_at_call 18; fail))
  refine HFH.out.mono ?_
  rintro e w3 ⟨h3, b3'⟩
  have HBB3 : Hid (Below w2.heap.size w2 w3) := b3'
  have HB3 : Hid (Below W.heap.size W w3) := HB2.out.trans (b3'.mono HB2.out.size)
  clear b3' HFH k0 k1 k2
  rcases h3 with ⟨htl, rfl⟩ | ⟨hno, rfl⟩
  rotate_left
  · have HR : Hid (FtRet x (x.u : Int) (x.f : Int) t (m : Int) ks wu (.returned (.tuple #[.string ⟨#[]⟩, .bool false, .int .i64 3]))) := HFV.out _ _ _ (.inr ⟨hno, rfl, rfl, rfl⟩)
    clear hno
    go_wp2
    go_ret3
    exact ⟨HR.out, HB3.out⟩
  have HR : Hid (FtRet x (x.u : Int) (x.f : Int) t (m : Int) ks wu (.returned (.tuple #[.string ⟨(fin x m ks wu).toArray⟩, .bool (ks.any isSn), .int .i64 0]))) := HFV.out _ _ _ (.inl ⟨htl, rfl, rfl, rfl⟩)
  clear htl
  go_wp2_with (first | (go_at_call 19; fail))
  refine (HHB.out w3 HBB3.out).mono ?_
  rintro e w4 ⟨rfl, b4⟩
  have HB4 : Hid (Below W.heap.size W w4) := HB3.out.trans (b4.mono HB3.out.size)
  clear b4 HHB
  generalize (⟨(fin x m ks wu).toArray⟩ : ByteArray) = FI at HR ⊢
  generalize ks.any isSn = SN at HR ⊢
  go_wp2
  go_ret3
  exact ⟨HR.out, HB4.out⟩
end Go.Proofs.YtbokolpjdaamiaaGreatDoor.fq
