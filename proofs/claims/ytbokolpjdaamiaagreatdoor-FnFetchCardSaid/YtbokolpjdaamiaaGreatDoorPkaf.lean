/-
  Plain facts on a variable of two cells that a call laid.
  The contract of the program's readLetter: a mail's fields and its body.
  Plain facts on a row that a call owns while another block is laid and written.
  Contracts of the text builder's methods at this program: the check of its place, writing a text, writing bytes.
-/
import Derived.Test.YtbokolpjdaamiaaGreatDoorPkae
import Derived.Lib.Builder
import Derived.Lib.ConvBytes
import Derived.Lib.AtoiErrMem
import Derived.Lib.Strings
import Derived.Test.YtbokolpjdaamiaaGreatDoorPkab
import Derived.Laws.AppendOwn

namespace Go.Proofs.YtbokolpjdaamiaaGreatDoor.b2
open Go.RowKit
set_option linter.unusedVariables false

def Box (w : World) (g : Nat) (t : TypeId) (a b : Value) : Prop := w.heap[g]? = some (.cells #[a, b] t (0, 0))
section
variable {w w' : World} {g : Nat} {t : TypeId} {a b a' b' : Value}
theorem new (w : World) (t : TypeId) (a b : Value) : Box (w.alloc (.cells #[a, b] t)) w.heap.size t a b := by
  show (w.heap.push (.cells #[a, b] t))[w.heap.size]? = _
  simp
theorem Box.c0 (h : Box w g t a b) : w.cell? ⟨g, 0, none⟩ = some a := by rw [cell_of_row _ _ 0 _ _ _ h]; rfl
theorem Box.c1 (h : Box w g t a b) : w.cell? ⟨g, 1, none⟩ = some b := by rw [cell_of_row _ _ 1 _ _ _ h]; rfl
theorem Box.c1' (h : Box w g t a b) : w.cell? ⟨g, 0 + 1, none⟩ = some b := by rw [cell_of_row _ _ _ _ _ _ h]; rfl
theorem Box.f (h : Box w g t a b) (j : Nat) : w.frozen? ⟨g, j, none⟩ = false := frozen_of_row _ _ _ _ _ h
theorem Box.lt (h : Box w g t a b) : g < w.heap.size := (Array.getElem?_eq_some_iff.1 h).1
theorem Box.below (h : Box w g t a b) (hb : Below w.heap.size w w') : Box w' g t a b := (hb.block g h.lt).trans h
theorem Box.keep {B : Nat} (h : Box w g t a b) (hB : g < B) (hb : Below B w w') : Box w' g t a b := (hb.block g hB).trans h
theorem Box.put0 (h : Box w g t a b) (u : Value) : Box (w.setCell ⟨g, 0, none⟩ u) g t u b := heap_setCell_same _ g 0 _ _ _ h
theorem Box.put1 (h : Box w g t a b) (u : Value) : Box (w.setCell ⟨g, 1, none⟩ u) g t a u := heap_setCell_same _ g 1 _ _ _ h
/-- Both cells are written. -/
def put (w : World) (g : Nat) (a b : Value) : World := (w.setCell ⟨g, 0, none⟩ a).setCell ⟨g, 1, none⟩ b
theorem Box.put (h : Box w g t a b) : Box (put w g a' b') g t a' b' := (h.put0 a').put1 b'
theorem put_below {B : Nat} {w0 : World} (k : Below B w0 w) (hb : B ≤ g) : Below B w0 (put w g a b) := (k.setCell (p := ⟨g, 0, none⟩) hb _).setCell (p := ⟨g, 1, none⟩) hb _
theorem put_size : (put w g a b).heap.size = w.heap.size := by unfold put; simp
/-- A row of another element type stays where the box is written. -/
theorem own_put {base e size n : Nat} {v : Value} {xs : List Value} (h : Box w g t a b) (hne : e ≠ t) (ho : w.ownsRow base e size v n xs) : (put w g a' b').ownsRow base e size v n xs := by
  obtain ⟨h1, h2⟩ := ho
  refine ⟨h1, ?_⟩
  rcases h2 with h2 | ⟨k, cap, cur, rfl, hk, hc, hd⟩
  · exact .inl h2
  · have hkg : k ≠ g := by
      intro ee
      subst ee
      rw [h] at hc
      cases hc
      exact hne rfl
    refine .inr ⟨k, cap, cur, rfl, hk, ?_, hd⟩
    unfold put
    rw [heap_setCell_other _ _ _ _ hkg, heap_setCell_other _ _ _ _ hkg]
    exact hc
end
end Go.Proofs.YtbokolpjdaamiaaGreatDoor.b2

namespace Go.Proofs.YtbokolpjdaamiaaGreatDoor.ml
open Go.RowKit
set_option linter.unusedVariables false

/-- A text is a mail of these fields and this body. -/
def IsMail (l : B) (fs : List (B × B)) (b : B) : Prop := mok 0 l = true ∧ Par F fs l b ∧ fs.length ≤ 40
theorem isMail_one {l : B} {fs fs' : List (B × B)} {b b' : B} (h : IsMail l fs b) (h' : IsMail l fs' b') : fs = fs' ∧ b = b' := par_one F_one h.2.1 h'.2.1
/-- A mail as a value. -/
def MV (v : Value) (b : B) : Value := .agg #[v, tv b]
def noMV : Value := .agg #[.slice none 0 0, .string ⟨#[]⟩]
def RlRet (l : B) (base : Nat) (e : Ending) (w' : World) : Prop :=
  (65536 < l.length ∧ e = .returned (.tuple #[noMV, .int .i64 2])) ∨
  (l.length ≤ 65536 ∧ (¬ ∃ fs b, IsMail l fs b) ∧ e = .returned (.tuple #[noMV, .int .i64 3])) ∨
  (l.length ≤ 65536 ∧ ∃ fs b v, IsMail l fs b ∧ e = .returned (.tuple #[MV v b, .int .i64 0]) ∧ FieldsAt w' base v fs)

theorem box_cell (w : World) (xs : Array Value) (t : TypeId) (j : Nat) (u : Value) (h : xs[j]? = some u) : (w.alloc (.cells xs t)).cell? ⟨w.heap.size, j, none⟩ = some u := by
  have := ow.cell_new w xs.toList t j u (by simpa using h)
  simpa using this
theorem kept {w W W' : World} {b : Nat} {j : Nat} {u : Value} (hb : Below W.heap.size W W') (h : W.cell? ⟨b, j, none⟩ = some u) : W'.cell? ⟨b, j, none⟩ = some u :=
  (hb.cell (p := ⟨b, j, none⟩) (World.block_lt_of_cell? W _ h)).trans h
theorem app_list (a b : ByteArray) : (a ++ b).data.toList = a.data.toList ++ b.data.toList := by rw [ByteArray.data_append, Array.toList_append]

set_option maxHeartbeats 1000000 in
theorem newLetter_any (b : ByteArray) (a : Option Addr) (n c : Nat) (w : World) : Calls Tryz.prog 95 #[.string b, .slice a n c] w fun e w' => e = .returned (.agg #[.slice a n c, .string b]) ∧ Below w.heap.size w w' := by
  go_enter Tryz.func95, Tryz.ntmps95
  go_wp2
  refine bodyPost_ret (v := .agg #[.slice a n c, .string b]) (by simp [results, Tryz.results95, go_sem]) rfl ⟨rfl, ?_⟩
  exact (Below.refl _ w).alloc (Nat.le_refl _) _

set_option maxHeartbeats 4000000 in
set_option maxRecDepth 100000 in
theorem readLetter_any (s : ByteArray) (w : World) (m : Int) (hm : w.cell? ⟨1, 0, none⟩ = some (.int .i64 m)) (hs : s.size ≤ 1048576) :
    Calls Tryz.prog 83 #[.string s] w fun e w' => RlRet s.data.toList w.heap.size e w' ∧ Below w.heap.size w w' := by
  by_cases hl : s.size ≤ 65536
  case neg =>
    have hl' : (65536 : Int) < (s.size : Int) := by omega
    clear hm
    go_enter Tryz.func83, Tryz.ntmps83
    go_wp2
    refine bodyPost_ret (v := .tuple #[noMV, .int .i64 2]) (by simp [results, Tryz.results83, go_sem, noMV]) rfl ⟨.inl ⟨by rw [← Lib.size_eq]; omega, rfl⟩, ?_⟩
    exact (Below.refl _ w).alloc (Nat.le_refl _) _
  have hl' : (s.size : Int) ≤ 65536 := by omega
  have HL : Hid (s.data.toList.length ≤ 65536) := (show _ ≤ _ by rw [← Lib.size_eq]; exact hl)
  have hgl := World.block_lt_of_cell? _ _ hm
  have HM : Hid (∀ W, Below w.heap.size w W → W.cell? ⟨1, 0, none⟩ = some (.int .i64 m)) := fun W hW => (hW.cell (p := ⟨1, 0, none⟩) hgl).trans hm
  clear hm hgl
  go_enter Tryz.func83, Tryz.ntmps83
  go_wp2_with fail
  generalize hW0 : World.alloc _ _ = W0
  have L0 : b2.Box W0 w.heap.size 108 (.slice none 0 0) (.string ⟨#[]⟩) := by rw [← hW0]; exact b2.new _ _ _ _
  have b0 : Below w.heap.size w W0 := by rw [← hW0]; exact (Below.refl _ w).alloc (Nat.le_refl _) _
  clear hW0
  have HB0 : Hid (Below w.heap.size w W0) := b0
  have HL0 : Hid (b2.Box W0 w.heap.size 108 (.slice none 0 0) (.string ⟨#[]⟩)) := L0
  have hIX := Tryz.strings_Index (⟨#[13, 10]⟩ ++ s) ⟨#[13, 10, 13, 10]⟩ m W0 (by rw [ByteArray.size_append]; show 2 + _ < _; omega) (HM.out _ b0)
  rw [app_list, show (⟨#[13, 10]⟩ : ByteArray).data.toList = nl from rfl, show (⟨#[13, 10, 13, 10]⟩ : ByteArray).data.toList = nl ++ nl from rfl] at hIX
  have HOK : Hid (∀ W, Below w.heap.size w W → Calls Tryz.prog 93 #[.string s] W fun e w' => e = .returned (.bool (mok 0 s.data.toList)) ∧ ∃ n, w' = W.drewN n) := fun W hW => by
    have := impl_mok s W m (HM.out W hW) (by omega)
    rwa [decide_eq_true hl, Bool.true_and] at this
  rcases Lib.index_spec (nl ++ s.data.toList) (nl ++ nl) with ⟨hi, _⟩ | ⟨n, hi, hnl, _⟩
  · rw [hi] at hIX
    have HNO : Hid (¬ ∃ fs b, IsMail s.data.toList fs b) := (show ¬ _ from fun ⟨fs, b, h⟩ => no_empty_line hi ⟨fs, b, h.2.1, h.2.2⟩)
    have HIX : Hid (Calls Tryz.prog 92 #[.string (⟨#[13, 10]⟩ ++ s), .string ⟨#[13, 10, 13, 10]⟩] W0 fun e w' => e = .returned (.int .i64 (-1)) ∧ w' = W0) := hIX
    clear hIX hi b0
    refine HIX.out.mono ?_
    rintro e w1 ⟨rfl, rfl⟩
    have c0 := HL0.out.c0
    have c1 := HL0.out.c1
    have f0 := HL0.out.f 0
    have f1 := HL0.out.f 1
    clear L0
    go_wp2
    have L2 := HL0.out.put (a' := .slice none 0 0) (b' := .string ⟨#[]⟩)
    have b3 := b2.put_below (a := .slice none 0 0) (b := .string ⟨#[]⟩) HB0.out (Nat.le_refl _)
    clear c0 c1 f0 f1
    unfold b2.put at L2 b3
    generalize hX : World.setCell _ _ _ = X at L2 b3 ⊢
    clear hX
    have c0 := L2.c0
    have c1 := L2.c1
    refine bodyPost_ret (v := .tuple #[noMV, .int .i64 3]) (by simp [results, Tryz.results83, go_sem, noMV, c0, c1]) rfl ⟨.inr (.inl ⟨HL.out, HNO.out, rfl⟩), b3⟩
  · rw [hi] at hIX
    have hh := head_at hi
    have HIX : Hid (Calls Tryz.prog 92 #[.string (⟨#[13, 10]⟩ ++ s), .string ⟨#[13, 10, 13, 10]⟩] W0 fun e w' => e = .returned (.int .i64 (n : Int)) ∧ w' = W0) := hIX
    have hns : n + 2 ≤ s.size := by have := len_end (k := n) hh.2.1; rwa [← Lib.size_eq] at this
    have HH : Hid (HeadAt s.data.toList n) := hh
    have HO0 := HOK.out W0 b0
    clear hIX hi b0 hh hnl
    have hn0 : ¬ (n : Int) < 0 := by omega
    cases hmk : mok 0 s.data.toList with
    | false =>
      rw [hmk] at HO0
      have HO1 : Hid (Calls Tryz.prog 93 #[.string s] W0 fun e w' => e = .returned (.bool false) ∧ ∃ n, w' = W0.drewN n) := HO0
      have HNO : Hid (¬ ∃ fs b, IsMail s.data.toList fs b) := (show ¬ _ from fun ⟨fs, b, h⟩ => by have := h.1; rw [hmk] at this; cases this)
      clear HO0 hmk HOK
      refine HIX.out.mono ?_
      rintro e w1 ⟨rfl, rfl⟩
      go_wp2_with (go_at_call 93; refine HO1.out.mono ?_; rintro e w2 ⟨rfl, k2, rfl⟩; have c0 := HL0.out.c0; have c1 := HL0.out.c1; have f0 := HL0.out.f 0; have f1 := HL0.out.f 1)
      have L2 := (HL0.out.below (uf.bdrew (Below.refl _ _) k2)).put (a' := .slice none 0 0) (b' := .string ⟨#[]⟩)
      have b3 := b2.put_below (a := .slice none 0 0) (b := .string ⟨#[]⟩) (uf.bdrew HB0.out k2) (Nat.le_refl _)
      unfold b2.put at L2 b3
      generalize hX : World.setCell _ _ _ = X at L2 b3 ⊢
      clear hX
      have c0 := L2.c0
      have c1 := L2.c1
      refine bodyPost_ret (v := .tuple #[noMV, .int .i64 3]) (by simp [results, Tryz.results83, go_sem, noMV, c0, c1]) rfl ⟨.inr (.inl ⟨HL.out, HNO.out, rfl⟩), b3⟩
    | true =>
      rw [hmk] at HO0
      have HO1 : Hid (Calls Tryz.prog 93 #[.string s] W0 fun e w' => e = .returned (.bool true) ∧ ∃ n, w' = W0.drewN n) := HO0
      have HMK : Hid (mok 0 s.data.toList = true) := hmk
      clear HO0 hmk HOK
      refine HIX.out.mono ?_
      rintro e w1 ⟨rfl, rfl⟩
      have hn1 : (0 : Int) ≤ (n : Int) := by omega
      have hn2 : (n : Int) ≤ (s.size : Int) := by omega
      clear L0
      go_wp2_with (go_at_call 93; refine HO1.out.mono ?_; rintro e w2 ⟨rfl, k2, hw2⟩; have HB2 : Hid (Below w.heap.size w w2) := (show Below _ _ _ by rw [hw2]; exact uf.bdrew HB0.out k2); have HL2 : Hid (b2.Box w2 w.heap.size 108 (.slice none 0 0) (.string ⟨#[]⟩)) := (show b2.Box _ _ _ _ _ by rw [hw2]; exact HL0.out.below (uf.bdrew (Below.refl _ _) k2)); clear hw2)
      have hFO := fieldsOf_any (s.extract 0 n) w2 m (HM.out _ HB2.out) (by rw [ext_size _ _ _ (by omega)]; omega) (by rw [ext_front]; exact HH.out.2.2.1)
      rw [ext_front] at hFO
      refine hFO.mono ?_
      rintro e w3 ⟨hr, hb3⟩
      have HB3 : Hid (Below w.heap.size w w3) := HB2.out.trans (hb3.mono HB2.out.size)
      have HL3 : Hid (b2.Box w3 w.heap.size 108 (.slice none 0 0) (.string ⟨#[]⟩)) := HL2.out.below hb3
      have hz2 := HB2.out.size
      clear hFO hb3 HL2 HB2 HL0 HB0
      rcases hr with ⟨fs, v, rfl, hrun, hfl, hfa⟩ | ⟨rfl, fs, r, f, q, hrun, hch, hwhy⟩
      · have HP : Hid (IsMail s.data.toList fs (s.data.toList.drop (n + 2))) := (show IsMail _ _ _ from ⟨HMK.out, par_of HH.out hrun, hfl⟩)
        have HFA : Hid (FieldsAt w3 w.heap.size v fs) := ow.own_base hfa hz2
        obtain ⟨a, cap, rfl⟩ := fields_form hfa
        clear hrun hfl hfa
        have hn3 : (n : Int) + 2 ≤ (s.size : Int) := by omega
        generalize hln : fs.length = ln at *
        go_wp2_with fail
        refine (newLetter_any (s.extract (n + 2) s.size) a ln cap w3).mono ?_
        rintro e w4 ⟨rfl, hb4⟩
        have HB4 : Hid (Below w.heap.size w w4) := HB3.out.trans (hb4.mono HB3.out.size)
        have L4 := HL3.out.below hb4
        have HFA4 : Hid (FieldsAt w4 w.heap.size (.slice a ln cap) fs) := ow.own_below HFA.out hb4
        have c0 := L4.c0
        have c1 := L4.c1
        have f0 := L4.f 0
        have f1 := L4.f 1
        have HL4 : Hid (b2.Box w4 w.heap.size 108 (.slice none 0 0) (.string ⟨#[]⟩)) := L4
        clear L4 hb4
        go_wp2
        have L5 := HL4.out.put (a' := .slice a ln cap) (b' := .string (s.extract (n + 2) s.size))
        have b5 := b2.put_below (a := .slice a ln cap) (b := .string (s.extract (n + 2) s.size)) HB4.out (Nat.le_refl _)
        have o5 : FieldsAt (b2.put w4 w.heap.size (.slice a ln cap) (.string (s.extract (n + 2) s.size))) w.heap.size (.slice a ln cap) fs := b2.own_put HL4.out (by decide) HFA4.out
        clear c0 c1 f0 f1
        unfold b2.put at L5 b5 o5
        generalize hX : World.setCell _ _ _ = X at L5 b5 o5 ⊢
        clear hX
        have c0 := L5.c0
        have c1 := L5.c1
        have eb : tv (s.data.toList.drop (n + 2)) = .string (s.extract (n + 2) s.size) := by
          unfold tv
          rw [← ext_tail, ← mk_list]
        refine bodyPost_ret (v := .tuple #[MV (.slice a ln cap) (s.data.toList.drop (n + 2)), .int .i64 0]) (by simp [results, Tryz.results83, go_sem, MV, eb, c0, c1]) rfl ⟨.inr (.inr ⟨HL.out, fs, _, _, HP.out, rfl, o5⟩), b5⟩
      · have HNO : Hid (¬ ∃ fs b, IsMail s.data.toList fs b) := (show ¬ _ from fun ⟨fs, b, h⟩ => no_par_of F_one HH.out hrun hch hwhy ⟨fs, b, h.2.1, h.2.2⟩)
        clear hrun hch hwhy
        have c0 := HL3.out.c0
        have c1 := HL3.out.c1
        have f0 := HL3.out.f 0
        have f1 := HL3.out.f 1
        go_wp2
        have L2 := HL3.out.put (a' := .slice none 0 0) (b' := .string ⟨#[]⟩)
        have b3 := b2.put_below (a := .slice none 0 0) (b := .string ⟨#[]⟩) HB3.out (Nat.le_refl _)
        clear c0 c1 f0 f1
        unfold b2.put at L2 b3
        generalize hX : World.setCell _ _ _ = X at L2 b3 ⊢
        clear hX
        have c0 := L2.c0
        have c1 := L2.c1
        refine bodyPost_ret (v := .tuple #[noMV, .int .i64 3]) (by simp [results, Tryz.results83, go_sem, noMV, c0, c1]) rfl ⟨.inr (.inl ⟨HL.out, HNO.out, rfl⟩), b3⟩
end Go.Proofs.YtbokolpjdaamiaaGreatDoor.ml

namespace Go.Proofs.YtbokolpjdaamiaaGreatDoor.ow
open Go.RowKit
set_option linter.unusedVariables false

theorem own_ne_block {w : World} {base e size n g : Nat} {v : Value} {xs : List Value} (h : w.ownsRow base e size v n xs) (hg : w.heap.size ≤ g) : v.ownBlock ≠ some g := by
  rcases h.2 with ⟨rfl, _⟩ | ⟨b, cap, cur, rfl, _, c, _⟩
  · exact fun x => by cases x
  · intro x
    have e : b = g := by simpa [Value.ownBlock] using x
    have := (Array.getElem?_eq_some_iff.1 c).1
    omega
/-- A block was laid, and an order drawn. -/
theorem built {w wr W : World} {base e size n : Nat} {v : Value} {xs : List Value} {cs : Array Value} {t : TypeId} (hW : W = (wr.alloc (.cells cs t)).drew) (hown : wr.ownsRow base e size v n xs) (hbw : Below base w wr) (hB : base ≤ wr.heap.size) :
    W.ownsRow base e size v n xs ∧ Below base w W ∧ W.heap[wr.heap.size]? = some (.cells cs t (0, 0)) ∧ v.ownBlock ≠ some wr.heap.size ∧ W.heap.size = wr.heap.size + 1 := by
  subst hW
  refine ⟨own_below hown (((Below.refl _ _).alloc (Nat.le_refl _) _).drew), (hbw.alloc hB _).drew, ?_, own_ne_block hown (Nat.le_refl _), ?_⟩
  · show (wr.heap.push (.cells cs t))[wr.heap.size]? = _
    simp
  · show (wr.heap.push (.cells cs t)).size = _
    simp
theorem laid {w wr W : World} {base e size n : Nat} {v : Value} {xs : List Value} {cs : Array Value} {t : TypeId} (hW : W = wr.alloc (.cells cs t)) (hown : wr.ownsRow base e size v n xs) (hbw : Below base w wr) (hB : base ≤ wr.heap.size) :
    W.ownsRow base e size v n xs ∧ Below base w W ∧ W.heap[wr.heap.size]? = some (.cells cs t (0, 0)) ∧ v.ownBlock ≠ some wr.heap.size ∧ W.heap.size = wr.heap.size + 1 := by
  subst hW
  refine ⟨own_below hown ((Below.refl _ _).alloc (Nat.le_refl _) _), hbw.alloc hB _, ?_, own_ne_block hown (Nat.le_refl _), ?_⟩
  · show (wr.heap.push (.cells cs t))[wr.heap.size]? = _
    simp
  · show (wr.heap.push (.cells cs t)).size = _
    simp
/-- A cell of that block is written. -/
theorem wrote {w W : World} {base e size n g : Nat} {v : Value} {xs : List Value} {cs : Array Value} {t : TypeId} (j : Nat) (u : Value) (hown : W.ownsRow base e size v n xs) (hbw : Below base w W) (hg : base ≤ g) (hblk : W.heap[g]? = some (.cells cs t (0, 0))) (hne : v.ownBlock ≠ some g) :
    (W.setCell ⟨g, j, none⟩ u).ownsRow base e size v n xs ∧ Below base w (W.setCell ⟨g, j, none⟩ u) ∧ (W.setCell ⟨g, j, none⟩ u).heap[g]? = some (.cells (cs.setIfInBounds j u) t (0, 0)) ∧ (W.setCell ⟨g, j, none⟩ u).heap.size = W.heap.size := by
  refine ⟨?_, hbw.setCell (p := ⟨g, j, none⟩) hg _, ?_, ?_⟩
  · refine hown.kept (row := some g) ⟨rfl, rfl, rfl, by simp [World.setCell], fun k _ hk => Below.heap_setCell _ _ _ _ (fun e => hk (by simp [e]))⟩ (Or.inr hne)
  · simp [World.setCell, Array.getElem?_modify, hblk]
  · simp [World.setCell]
theorem set_blk {W : World} {g : Nat} {cs : Array Value} {t : TypeId} (hblk : W.heap[g]? = some (.cells cs t (0, 0))) (j : Nat) (u : Value) : (W.setCell ⟨g, j, none⟩ u).heap[g]? = some (.cells (cs.setIfInBounds j u) t (0, 0)) := by
  simp [World.setCell, Array.getElem?_modify, hblk]
theorem cell_blk {W : World} {g : Nat} {cs : Array Value} {t : TypeId} (hblk : W.heap[g]? = some (.cells cs t (0, 0))) (j : Nat) : W.cell? ⟨g, j, none⟩ = cs[j]? := Lib.cell_of_heap hblk j
theorem frozen_blk {W : World} {g : Nat} {cs : Array Value} {t : TypeId} (hblk : W.heap[g]? = some (.cells cs t (0, 0))) (j : Nat) : W.frozen? ⟨g, j, none⟩ = false := Lib.frozen_of_heap hblk j
theorem news_blk {W : World} {g : Nat} {cs : Array Value} {t : TypeId} {xs : List Value} (hblk : W.heap[g]? = some (.cells cs t (0, 0))) (hxs : ∀ (j : Nat) (u : Value), xs[j]? = some u → cs[j]? = some u) : ∀ (j : Nat) (u : Value), xs[j]? = some u → W.cell? ((⟨g, 0, none⟩ : Addr).add j) = some u := by
  intro j u hj
  rw [add_at, cell_blk hblk]
  exact hxs j u hj
theorem reads_below {k : IntKind} {w w' : World} {v : Value} {zs : List Int} (h : Reads k w v zs) (hb : Below w.heap.size w w') : Reads k w' v zs :=
  reads_keep h fun a u ha => (hb.cell (World.block_lt_of_cell? w _ ha)).trans ha
theorem one_bytes (l : List UInt8) : ∀ u ∈ Lib.byteCells l, u.oneCell' = true := by
  intro u hu
  obtain ⟨x, _, rfl⟩ := List.mem_map.1 hu
  rfl
/-- A slice value under which these bytes lie. -/
def Lies (w : World) (v : Value) (l : List UInt8) : Prop :=
  ∃ ao cap, v = .slice ao l.length cap ∧ (l = [] ∨ ∃ b, ao = some ⟨b, 0, none⟩ ∧ l.length ≤ cap ∧ ∀ j, j < l.length → w.cell? ⟨b, j, none⟩ = some (.int .u8 ((l.getD j 0).toNat : Int)))
theorem lies_own {w : World} {base e : Nat} {v : Value} {l : List UInt8} (h : w.ownsRow base e 1 v l.length (Lib.byteCells l)) : Lies w v l := by
  rcases h.2 with ⟨hv, h0⟩ | ⟨g, cap, cur, hv, _, _, hc, _⟩
  · exact ⟨none, 0, by rw [hv, h0], .inl (List.eq_nil_of_length_eq_zero h0)⟩
  · refine ⟨_, cap, hv, .inr ⟨g, rfl, hc, fun j hj => ?_⟩⟩
    subst hv
    rw [h.cellAt j (by omega)]
    simp [Lib.byteCells, hj]
/-- The bytes of a text, behind its conversion. -/
theorem lies_conv (w : World) (e : TypeId) (s : ByteArray) : Lies (Lib.bytesWorld w e s) (.slice (some ⟨w.heap.size, 0, none⟩) s.size (grownCap w s.size 0 e)) s.data.toList := by
  refine ⟨_, _, by rw [← Lib.size_eq], .inr ⟨_, rfl, by rw [← Lib.size_eq]; exact grownCap_ge _ _ _ _, fun j hj => ?_⟩⟩
  rw [Lib.bytesWorld_cell w e s j (by rw [Lib.size_eq]; exact hj)]
theorem reads_lies {w : World} {v : Value} {l : List UInt8} (h : Lies w v l) : Reads .u8 w v (l.map fun b => (b.toNat : Int)) := by
  obtain ⟨ao, cap, rfl, h⟩ := h
  refine ⟨ao, cap, by rw [List.length_map], ?_⟩
  rcases h with rfl | ⟨b, rfl, _, hc⟩
  · exact .inl rfl
  · refine .inr ⟨b, 0, rfl, fun j hj => ?_⟩
    rw [List.length_map] at hj
    rw [Nat.zero_add, hc j hj]
    simp [List.getD_eq_getElem?_getD, hj]
theorem below_conv (w : World) (e : TypeId) (s : ByteArray) : Below w.heap.size w (Lib.bytesWorld w e s) := Lib.bytesWorld_below w e s
end Go.Proofs.YtbokolpjdaamiaaGreatDoor.ow

namespace Go.Proofs.YtbokolpjdaamiaaGreatDoor.bl
open Go.RowKit
set_option linter.unusedVariables false

/-- A builder at block b that holds these bytes; all that it made lies at or beyond B. -/
def Bd (B b : Nat) (l : List UInt8) (w : World) : Prop := Lib.IsBuilder 89 5 B b (Lib.byteCells l) w
theorem size2 : (Tryz.prog.info? 89).map (·.size) = some 2 := by kernel_rfl
theorem lies : liesAt Tryz.prog Tryz.prog.depth 89 (2 / Tryz.prog.cellsOf 89) 0 89 1 = true := by kernel_rfl
theorem info1 : (Tryz.prog.info? 5).map (fun i => (i.zero, i.size, i.bytes)) = some (some (.int .u8 0), 1, 1) := by kernel_rfl
theorem kinds : (89 : TypeId) ≠ 5 := by decide

set_option maxHeartbeats 1000000 in
set_option maxRecDepth 100000 in
theorem place_used (b : Nat) (w : World) (h0 : w.cell? ⟨b, 0, none⟩ = some (.pointer (some ⟨b, 0, none⟩))) :
    Calls Tryz.prog 85 #[.pointer (some ⟨b, 0, none⟩)] w fun e w' => e = .returned (.tuple #[]) ∧ w' = w := by
  obtain ⟨j, hj, _⟩ := Option.map_eq_some_iff.1 size2
  go_enter Tryz.func85, Tryz.ntmps85
  go_wp2
  rw [Lib.run_neq_ptr_same w _ Tryz.underlying87 hj]
  go_wp2
  go_end0
  exact ⟨rfl, rfl⟩

set_option maxHeartbeats 1000000 in
set_option maxRecDepth 100000 in
theorem place_fresh (b : Nat) (w : World) (h0 : w.cell? ⟨b, 0, none⟩ = some (.pointer none)) (hsh : w.shape? b = some (89, 2)) (hfz : w.frozen? ⟨b, 0, none⟩ = false) :
    Calls Tryz.prog 85 #[.pointer (some ⟨b, 0, none⟩)] w fun e w' => e = .returned (.tuple #[]) ∧ w' = w.setCell ⟨b, 0, none⟩ (.pointer (some ⟨b, 0, none⟩)) := by
  obtain ⟨j, hj, hjs⟩ := Option.map_eq_some_iff.1 size2
  go_enter Tryz.func85, Tryz.ntmps85
  go_wp2
  rw [Lib.run_to_unsafe w ⟨b, 0, none⟩ Tryz.underlying87 Tryz.underlying118 hj (by rw [hjs]; decide) hsh (Nat.zero_lt_succ 1)]
  simp only [Result.andThen]
  rw [Oper.upon_value]
  go_wp2
  rw [run_callFunc_extern Tryz.func97 (by kernel_rfl) (by kernel_rfl) (by kernel_rfl) (e := Extern.AbiNoEscape.same) (by kernel_rfl)]
  rw [Lib.run_noEscape]
  simp only [Result.andThen]
  rw [Oper.upon_value]
  go_wp2
  rw [Lib.run_from_unsafe w ⟨b, 0, none⟩ Tryz.underlying118 Tryz.underlying87 hj hsh lies]
  simp only [Result.andThen]
  rw [Oper.upon_value]
  go_wp2
  go_end0
  exact ⟨rfl, rfl⟩

theorem place (B b : Nat) (l : List UInt8) (w : World) (h : Bd B b l w) :
    Calls Tryz.prog 85 #[.pointer (some ⟨b, 0, none⟩)] w fun e w' => e = .returned (.tuple #[]) ∧ (Lib.BuilderAt 89 5 B b (.pointer (some ⟨b, 0, none⟩)) (Lib.byteCells l) w' ∧ Below B w w' ∧ ∀ k, k ≠ b → w'.heap[k]? = w.heap[k]?) := by
  rcases h with h | h
  · refine (place_fresh b w h.cell0 h.shape h.frozen0).mono ?_
    rintro e w' ⟨rfl, rfl⟩
    exact ⟨rfl, h.used _, (Below.refl B w).setCell (p := ⟨b, 0, none⟩) h.1 _, fun k hk => Below.heap_setCell _ _ _ _ (fun e => hk (by simp [e]))⟩
  · refine (place_used b w h.cell0).mono ?_
    rintro e w' ⟨rfl, rfl⟩
    exact ⟨rfl, h, Below.refl B _, fun _ _ => rfl⟩

/-- Blocks of another kind than bytes, other than the builder's own, stay as they are. -/
def Others (b : Nat) (w w' : World) : Prop := ∀ (k : Nat) (cs : Array Value) (t : TypeId) (fr : Nat × Nat), k ≠ b → t ≠ 5 → w.heap[k]? = some (.cells cs t fr) → w'.heap[k]? = some (.cells cs t fr)
theorem others_own {w : World} {B n k : Nat} {v : Value} {xs : List Value} {cs : Array Value} {t : TypeId} {fr : Nat × Nat} (h : w.ownsRow B 5 1 v n xs) (hk : w.heap[k]? = some (.cells cs t fr)) (ht : t ≠ 5) : some k ≠ v.ownBlock := by
  intro e
  rcases h.2 with ⟨rfl, _⟩ | ⟨g, cap, cur, rfl, _, hg, _⟩
  · cases e
  · have : k = g := by simpa [Value.ownBlock] using e
    subst this
    rw [hk] at hg
    cases hg
    exact ht rfl

set_option maxHeartbeats 2000000 in
set_option maxRecDepth 100000 in
theorem textK (B b : Nat) (l : List UInt8) (s : ByteArray) (w : World) (h : Bd B b l w) (hlen : l.length + s.size ≤ 140737488355328) (hBw : B ≤ w.heap.size) :
    Calls Tryz.prog 67 #[.pointer (some ⟨b, 0, none⟩), .string s] w fun e w' => (∃ v, e = .returned (.tuple v)) ∧ Bd B b (l ++ s.data.toList) w' ∧ Below B w w' ∧ Others b w w' := by
  have hl : (Lib.byteCells l).length = l.length := Lib.byteCells_length l
  obtain ⟨i0, hi, hz0, hz1, hz2⟩ := info_parts info1
  go_enter Tryz.func67, Tryz.ntmps67
  go_wp2_with fail
  refine (place B b l _ h).mono ?_
  rintro e w1 ⟨rfl, ⟨hB, v, hbk, hown, hne⟩, hb1, hk1⟩
  have HK : Hid (∀ k, k ≠ b → w1.heap[k]? = w.heap[k]?) := hk1
  clear hk1
  have c0 : w1.cell? ⟨b, 0, none⟩ = some (.pointer (some ⟨b, 0, none⟩)) := by rw [Lib.cell_of_heap hbk]; rfl
  have c1 : w1.cell? ⟨b, 1, none⟩ = some v := by rw [Lib.cell_of_heap hbk]; rfl
  go_wp2_with (at_builtin; refine Lib.wpList_append_own_string _ rfl _ _ 22 9 rfl B 5 i0 Tryz.underlying22 Tryz.underlying9 hi hz0 hz1 hz2 _ _ _ rfl hown s rfl ?c3 ?c4 ?c5 ?_)
  case c3 => unfold maxLen; omega
  case c4 => omega
  case c5 => have := hb1.size; omega
  intro v' w2 hown' hgrow _
  have hlt : b < w1.heap.size := (Array.getElem?_eq_some_iff.1 hbk).1
  have hb2 : w2.heap[b]? = some (.cells #[.pointer (some ⟨b, 0, none⟩), v] 89 (0, 0)) := by
    rw [hgrow.block b hlt (fun e => hne e.symm)]
    exact hbk
  have d0 : w2.cell? ⟨b, 0, none⟩ = some (.pointer (some ⟨b, 0, none⟩)) := by rw [Lib.cell_of_heap hb2]; rfl
  have d1 : w2.cell? ⟨b, 1, none⟩ = some v := by rw [Lib.cell_of_heap hb2]; rfl
  have f1 : w2.frozen? ⟨b, 1, none⟩ = false := Lib.frozen_of_heap hb2 1
  obtain ⟨ao, n', cap, rfl⟩ : ∃ ao n' cap, v' = .slice ao n' cap := by
    rcases hown'.2 with ⟨hv, _⟩ | ⟨g, cap, cur, hv, _⟩
    · exact ⟨_, _, _, hv⟩
    · exact ⟨_, _, _, hv⟩
  go_wp2
  go_ret2
  refine ⟨⟨_, rfl⟩, ?_, ?_, ?_⟩
  · have hc : Lib.byteCells l ++ Lib.strCells s = Lib.byteCells (l ++ s.data.toList) := by rw [Lib.byteCells_append, Lib.strCells_eq]
    rw [hc] at hown'
    exact .inr (Lib.BuilderAt.put (T := 89) (e := 5) hB hb2 (bs' := Lib.byteCells (l ++ s.data.toList)) (by have h1 := hown'.1; simp only [Nat.mul_one] at h1; rw [h1]; exact hown') kinds)
  · exact (hb1.grown hgrow (by have := hb1.size; omega) (fun k hk => (hown.lt k hk).1)).setCell (p := ⟨b, 1, none⟩) hB _
  · intro k cs t fr hk ht hc
    have h1 : w1.heap[k]? = some (.cells cs t fr) := (HK.out k hk).trans hc
    have h2 := (hgrow.block k (Array.getElem?_eq_some_iff.1 h1).1 (others_own hown h1 ht)).trans h1
    exact (Below.heap_setCell _ _ _ _ (fun e => hk (by simp [e]))).trans h2

theorem text (B b : Nat) (l : List UInt8) (s : ByteArray) (w : World) (h : Bd B b l w) (hlen : l.length + s.size ≤ 140737488355328) (hBw : B ≤ w.heap.size) :
    Calls Tryz.prog 67 #[.pointer (some ⟨b, 0, none⟩), .string s] w fun e w' => (∃ v, e = .returned (.tuple v)) ∧ Bd B b (l ++ s.data.toList) w' ∧ Below B w w' :=
  (textK B b l s w h hlen hBw).mono fun _ _ h => ⟨h.1, h.2.1, h.2.2.1⟩

/-- A builder that has just been laid holds nothing. -/
theorem fresh (w : World) : Bd w.heap.size w.heap.size [] (w.alloc (.cells #[.pointer none, .slice none 0 0] 89)) := Lib.fresh_isBuilder _ _ w
theorem said (B b : Nat) (l : List UInt8) (w : World) (h : Bd B b l w) (hBw : B ≤ w.heap.size) :
    Calls Tryz.prog 68 #[.pointer (some ⟨b, 0, none⟩)] w fun e w' => e = .returned (.string ⟨l.toArray⟩) ∧ Below B w w' := Tryz.Builder_String_any B b l w h hBw
/-- What turns no block that is there leaves a builder as it is. -/
theorem keep {B b : Nat} {l : List UInt8} {w w' : World} (h : Bd B b l w) (hb : Below w.heap.size w w') : Bd B b l w' := by
  rcases h with ⟨hB, v, hbk, hown, hne⟩ | ⟨hB, v, hbk, hown, hne⟩
  · exact .inl ⟨hB, v, (hb.block b (Array.getElem?_eq_some_iff.1 hbk).1).trans hbk, ow.own_below hown hb, hne⟩
  · exact .inr ⟨hB, v, (hb.block b (Array.getElem?_eq_some_iff.1 hbk).1).trans hbk, ow.own_below hown hb, hne⟩
theorem inside {B b : Nat} {l : List UInt8} {w : World} (h : Bd B b l w) : B ≤ b ∧ b < w.heap.size := by
  rcases h with h | h
  · exact ⟨h.1, h.lt⟩
  · exact ⟨h.1, h.lt⟩
end Go.Proofs.YtbokolpjdaamiaaGreatDoor.bl
