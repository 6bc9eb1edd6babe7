/-
  The contract of the program's readLetter: a mail's fields and its body.
-/
import Derived.Test.YtejmfffapkmjoaaDoorPab
import Derived.Test.YtejmfffapkmjoaaDoorBxt
namespace Go.Proofs.YtejmfffapkmjoaaDoor.ml
open Go.RowKit
set_option linter.unusedVariables false

/-- A text is a mail of these fields and this body. -/
def IsMail (l : B) (fs : List (B × B)) (b : B) : Prop := mok 0 l = true ∧ Par F fs l b ∧ fs.length ≤ 40
theorem isMail_one {l : B} {fs fs' : List (B × B)} {b b' : B} (h : IsMail l fs b) (h' : IsMail l fs' b') : fs = fs' ∧ b = b' := par_one F_one h.2.1 h'.2.1
/-- A mail as a value. -/
def MV (v : Value) (b : B) : Value := .agg #[v, tv b]
def noMV : Value := .agg #[.slice none 0 0, .string ⟨#[]⟩]
def RlRet (l : B) (base : Nat) (e : Ending) (w' : World) : Prop :=
  (65536 < l.length ∧ e = .returned (.tuple #[noMV, .int .i64 2])) ∨
  (l.length ≤ 65536 ∧ (¬ ∃ fs b, IsMail l fs b) ∧ e = .returned (.tuple #[noMV, .int .i64 3])) ∨
  (l.length ≤ 65536 ∧ ∃ fs b v, IsMail l fs b ∧ e = .returned (.tuple #[MV v b, .int .i64 0]) ∧ FieldsAt w' base v fs)

theorem box_cell (w : World) (xs : Array Value) (t : TypeId) (j : Nat) (u : Value) (h : xs[j]? = some u) : (w.alloc (.cells xs t)).cell? ⟨w.heap.size, j, none⟩ = some u := by
  have := ow.cell_new w xs.toList t j u (by simpa using h)
  simpa using this
theorem kept {w W W' : World} {b : Nat} {j : Nat} {u : Value} (hb : Below W.heap.size W W') (h : W.cell? ⟨b, j, none⟩ = some u) : W'.cell? ⟨b, j, none⟩ = some u :=
  (hb.cell (p := ⟨b, j, none⟩) (World.block_lt_of_cell? W _ h)).trans h
theorem app_list (a b : ByteArray) : (a ++ b).data.toList = a.data.toList ++ b.data.toList := by rw [ByteArray.data_append, Array.toList_append]

set_option maxHeartbeats 1000000 in
theorem newLetter_any (b : ByteArray) (a : Option Addr) (n c : Nat) (w : World) : Calls Tryd.prog 59 #[.string b, .slice a n c] w fun e w' => e = .returned (.agg #[.slice a n c, .string b]) ∧ Below w.heap.size w w' := by
  go_enter Tryd.func59, Tryd.ntmps59
  go_wp2
  refine bodyPost_ret (v := .agg #[.slice a n c, .string b]) (by simp [results, Tryd.results59, go_sem]) rfl ⟨rfl, ?_⟩
  exact (Below.refl _ w).alloc (Nat.le_refl _) _

set_option maxHeartbeats 4000000 in
set_option maxRecDepth 100000 in
theorem readLetter_any (s : ByteArray) (w : World) (m : Int) (hm : w.cell? ⟨1, 0, none⟩ = some (.int .i64 m)) (hs : s.size ≤ 1048576) :
    Calls Tryd.prog 48 #[.string s] w fun e w' => RlRet s.data.toList w.heap.size e w' ∧ Below w.heap.size w w' := by
  by_cases hl : s.size ≤ 65536
  case neg =>
    have hl' : (65536 : Int) < (s.size : Int) := by omega
    clear hm
    go_enter Tryd.func48, Tryd.ntmps48
    go_wp2
    refine bodyPost_ret (v := .tuple #[noMV, .int .i64 2]) (by simp [results, Tryd.results48, go_sem, noMV]) rfl ⟨.inl ⟨by rw [← Lib.size_eq]; omega, rfl⟩, ?_⟩
    exact (Below.refl _ w).alloc (Nat.le_refl _) _
  have hl' : (s.size : Int) ≤ 65536 := by omega
  have HL : Hid (s.data.toList.length ≤ 65536) := (show _ ≤ _ by rw [← Lib.size_eq]; exact hl)
  have hgl := World.block_lt_of_cell? _ _ hm
  have HM : Hid (∀ W, Below w.heap.size w W → W.cell? ⟨1, 0, none⟩ = some (.int .i64 m)) := fun W hW => (hW.cell (p := ⟨1, 0, none⟩) hgl).trans hm
  clear hm hgl
  go_enter Tryd.func48, Tryd.ntmps48
  go_wp2_with fail
  generalize hW0 : World.alloc _ _ = W0
  have L0 : b2.Box W0 w.heap.size 83 (.slice none 0 0) (.string ⟨#[]⟩) := by rw [← hW0]; exact b2.new _ _ _ _
  have b0 : Below w.heap.size w W0 := by rw [← hW0]; exact (Below.refl _ w).alloc (Nat.le_refl _) _
  clear hW0
  have HB0 : Hid (Below w.heap.size w W0) := b0
  have HL0 : Hid (b2.Box W0 w.heap.size 83 (.slice none 0 0) (.string ⟨#[]⟩)) := L0
  have hIX := Tryd.strings_Index (⟨#[13, 10]⟩ ++ s) ⟨#[13, 10, 13, 10]⟩ m W0 (by rw [ByteArray.size_append]; show 2 + _ < _; omega) (HM.out _ b0)
  rw [app_list, show (⟨#[13, 10]⟩ : ByteArray).data.toList = nl from rfl, show (⟨#[13, 10, 13, 10]⟩ : ByteArray).data.toList = nl ++ nl from rfl] at hIX
  have HOK : Hid (∀ W, Below w.heap.size w W → Calls Tryd.prog 57 #[.string s] W fun e w' => e = .returned (.bool (mok 0 s.data.toList)) ∧ ∃ n, w' = W.drewN n) := fun W hW => by
    have := impl_mok s W m (HM.out W hW) (by omega)
    rwa [decide_eq_true hl, Bool.true_and] at this
  rcases Lib.index_spec (nl ++ s.data.toList) (nl ++ nl) with ⟨hi, _⟩ | ⟨n, hi, hnl, _⟩
  · rw [hi] at hIX
    have HNO : Hid (¬ ∃ fs b, IsMail s.data.toList fs b) := (show ¬ _ from fun ⟨fs, b, h⟩ => no_empty_line hi ⟨fs, b, h.2.1, h.2.2⟩)
    have HIX : Hid (Calls Tryd.prog 56 #[.string (⟨#[13, 10]⟩ ++ s), .string ⟨#[13, 10, 13, 10]⟩] W0 fun e w' => e = .returned (.int .i64 (-1)) ∧ w' = W0) := hIX
    clear hIX hi b0
    refine HIX.out.mono ?_
    rintro e w1 ⟨rfl, rfl⟩
    have c0 := HL0.out.c0
    have c1 := HL0.out.c1
    have f0 := HL0.out.f 0
    have f1 := HL0.out.f 1
    clear L0
    go_wp2
    have L2 := HL0.out.put (a' := .slice none 0 0) (b' := .string ⟨#[]⟩)
    have b3 := b2.put_below (a := .slice none 0 0) (b := .string ⟨#[]⟩) HB0.out (Nat.le_refl _)
    clear c0 c1 f0 f1
    unfold b2.put at L2 b3
    generalize hX : World.setCell _ _ _ = X at L2 b3 ⊢
    clear hX
    have c0 := L2.c0
    have c1 := L2.c1
    refine bodyPost_ret (v := .tuple #[noMV, .int .i64 3]) (by simp [results, Tryd.results48, go_sem, noMV, c0, c1]) rfl ⟨.inr (.inl ⟨HL.out, HNO.out, rfl⟩), b3⟩
  · rw [hi] at hIX
    have hh := head_at hi
    have HIX : Hid (Calls Tryd.prog 56 #[.string (⟨#[13, 10]⟩ ++ s), .string ⟨#[13, 10, 13, 10]⟩] W0 fun e w' => e = .returned (.int .i64 (n : Int)) ∧ w' = W0) := hIX
    have hns : n + 2 ≤ s.size := by have := len_end (k := n) hh.2.1; rwa [← Lib.size_eq] at this
    have HH : Hid (HeadAt s.data.toList n) := hh
    have HO0 := HOK.out W0 b0
    clear hIX hi b0 hh hnl
    have hn0 : ¬ (n : Int) < 0 := by omega
    cases hmk : mok 0 s.data.toList with
    | false =>
      rw [hmk] at HO0
      have HO1 : Hid (Calls Tryd.prog 57 #[.string s] W0 fun e w' => e = .returned (.bool false) ∧ ∃ n, w' = W0.drewN n) := HO0
      have HNO : Hid (¬ ∃ fs b, IsMail s.data.toList fs b) := (show ¬ _ from fun ⟨fs, b, h⟩ => by have := h.1; rw [hmk] at this; cases this)
      clear HO0 hmk HOK
      refine HIX.out.mono ?_
      rintro e w1 ⟨rfl, rfl⟩
      go_wp2_with (go_at_call 57; refine HO1.out.mono ?_; rintro e w2 ⟨rfl, k2, rfl⟩; have c0 := HL0.out.c0; have c1 := HL0.out.c1; have f0 := HL0.out.f 0; have f1 := HL0.out.f 1)
      have L2 := (HL0.out.below (uf.bdrew (Below.refl _ _) k2)).put (a' := .slice none 0 0) (b' := .string ⟨#[]⟩)
      have b3 := b2.put_below (a := .slice none 0 0) (b := .string ⟨#[]⟩) (uf.bdrew HB0.out k2) (Nat.le_refl _)
      unfold b2.put at L2 b3
      generalize hX : World.setCell _ _ _ = X at L2 b3 ⊢
      clear hX
      have c0 := L2.c0
      have c1 := L2.c1
      refine bodyPost_ret (v := .tuple #[noMV, .int .i64 3]) (by simp [results, Tryd.results48, go_sem, noMV, c0, c1]) rfl ⟨.inr (.inl ⟨HL.out, HNO.out, rfl⟩), b3⟩
    | true =>
      rw [hmk] at HO0
      have HO1 : Hid (Calls Tryd.prog 57 #[.string s] W0 fun e w' => e = .returned (.bool true) ∧ ∃ n, w' = W0.drewN n) := HO0
      have HMK : Hid (mok 0 s.data.toList = true) := hmk
      clear HO0 hmk HOK
      refine HIX.out.mono ?_
      rintro e w1 ⟨rfl, rfl⟩
      have hn1 : (0 : Int) ≤ (n : Int) := by omega
      have hn2 : (n : Int) ≤ (s.size : Int) := by omega
      clear L0
      go_wp2_with (go_at_call 57; refine HO1.out.mono ?_; rintro e w2 ⟨rfl, k2, hw2⟩; have HB2 : Hid (Below w.heap.size w w2) := (show Below _ _ _ by rw [hw2]; exact uf.bdrew HB0.out k2); have HL2 : Hid (b2.Box w2 w.heap.size 83 (.slice none 0 0) (.string ⟨#[]⟩)) := (show b2.Box _ _ _ _ _ by rw [hw2]; exact HL0.out.below (uf.bdrew (Below.refl _ _) k2)); clear hw2)
      have hFO := fieldsOf_any (s.extract 0 n) w2 m (HM.out _ HB2.out) (by rw [ext_size _ _ _ (by omega)]; omega) (by rw [ext_front]; exact HH.out.2.2.1)
      rw [ext_front] at hFO
      refine hFO.mono ?_
      rintro e w3 ⟨hr, hb3⟩
      have HB3 : Hid (Below w.heap.size w w3) := HB2.out.trans (hb3.mono HB2.out.size)
      have HL3 : Hid (b2.Box w3 w.heap.size 83 (.slice none 0 0) (.string ⟨#[]⟩)) := HL2.out.below hb3
      have hz2 := HB2.out.size
      clear hFO hb3 HL2 HB2 HL0 HB0
      rcases hr with ⟨fs, v, rfl, hrun, hfl, hfa⟩ | ⟨rfl, fs, r, f, q, hrun, hch, hwhy⟩
      · have HP : Hid (IsMail s.data.toList fs (s.data.toList.drop (n + 2))) := (show IsMail _ _ _ from ⟨HMK.out, par_of HH.out hrun, hfl⟩)
        have HFA : Hid (FieldsAt w3 w.heap.size v fs) := ow.own_base hfa hz2
        obtain ⟨a, cap, rfl⟩ := fields_form hfa
        clear hrun hfl hfa
        have hn3 : (n : Int) + 2 ≤ (s.size : Int) := by omega
        generalize hln : fs.length = ln at *
        go_wp2_with fail
        refine (newLetter_any (s.extract (n + 2) s.size) a ln cap w3).mono ?_
        rintro e w4 ⟨rfl, hb4⟩
        have HB4 : Hid (Below w.heap.size w w4) := HB3.out.trans (hb4.mono HB3.out.size)
        have L4 := HL3.out.below hb4
        have HFA4 : Hid (FieldsAt w4 w.heap.size (.slice a ln cap) fs) := ow.own_below HFA.out hb4
        have c0 := L4.c0
        have c1 := L4.c1
        have f0 := L4.f 0
        have f1 := L4.f 1
        have HL4 : Hid (b2.Box w4 w.heap.size 83 (.slice none 0 0) (.string ⟨#[]⟩)) := L4
        clear L4 hb4
        go_wp2
        have L5 := HL4.out.put (a' := .slice a ln cap) (b' := .string (s.extract (n + 2) s.size))
        have b5 := b2.put_below (a := .slice a ln cap) (b := .string (s.extract (n + 2) s.size)) HB4.out (Nat.le_refl _)
        have o5 : FieldsAt (b2.put w4 w.heap.size (.slice a ln cap) (.string (s.extract (n + 2) s.size))) w.heap.size (.slice a ln cap) fs := b2.own_put HL4.out (by decide) HFA4.out
        clear c0 c1 f0 f1
        unfold b2.put at L5 b5 o5
        generalize hX : World.setCell _ _ _ = X at L5 b5 o5 ⊢
        clear hX
        have c0 := L5.c0
        have c1 := L5.c1
        have eb : tv (s.data.toList.drop (n + 2)) = .string (s.extract (n + 2) s.size) := by
          unfold tv
          rw [← ext_tail, ← mk_list]
        refine bodyPost_ret (v := .tuple #[MV (.slice a ln cap) (s.data.toList.drop (n + 2)), .int .i64 0]) (by simp [results, Tryd.results48, go_sem, MV, eb, c0, c1]) rfl ⟨.inr (.inr ⟨HL.out, fs, _, _, HP.out, rfl, o5⟩), b5⟩
      · have HNO : Hid (¬ ∃ fs b, IsMail s.data.toList fs b) := (show ¬ _ from fun ⟨fs, b, h⟩ => no_par_of F_one HH.out hrun hch hwhy ⟨fs, b, h.2.1, h.2.2⟩)
        clear hrun hch hwhy
        have c0 := HL3.out.c0
        have c1 := HL3.out.c1
        have f0 := HL3.out.f 0
        have f1 := HL3.out.f 1
        go_wp2
        have L2 := HL3.out.put (a' := .slice none 0 0) (b' := .string ⟨#[]⟩)
        have b3 := b2.put_below (a := .slice none 0 0) (b := .string ⟨#[]⟩) HB3.out (Nat.le_refl _)
        clear c0 c1 f0 f1
        unfold b2.put at L2 b3
        generalize hX : World.setCell _ _ _ = X at L2 b3 ⊢
        clear hX
        have c0 := L2.c0
        have c1 := L2.c1
        refine bodyPost_ret (v := .tuple #[noMV, .int .i64 3]) (by simp [results, Tryd.results48, go_sem, noMV, c0, c1]) rfl ⟨.inr (.inl ⟨HL.out, HNO.out, rfl⟩), b3⟩
end Go.Proofs.YtejmfffapkmjoaaDoor.ml
