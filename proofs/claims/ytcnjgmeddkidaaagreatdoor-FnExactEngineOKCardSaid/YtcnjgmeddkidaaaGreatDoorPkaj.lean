/-
  The laws' marks, as to their shape: at every number; rows of mails and of texts, a box, and a list of boxes.
  A book of keys: cleared, filled with a box's keys, counted.
  Items as rows of pairs of texts: read by the law's own measure, copy and comparison.
  The laws' own copy of items, and their comparison of items that are the same.
  Items as an argument, opened.
-/
import Derived.Test.YtcnjgmeddkidaaaGreatDoorPkag
import Derived.Test.YtcnjgmeddkidaaaGreatDoorPkai
import Derived.Test.YtcnjgmeddkidaaaGreatDoorPkae
import Derived.Maps.Own
import Derived.Maps.OwnOps
import Derived.Maps.OwnSet
import Derived.Maps.Views
import Derived.Test.YtcnjgmeddkidaaaGreatDoorRows
import Derived.Test.YtcnjgmeddkidaaaGreatDoorPkaa
import Derived.WalkKit
import Derived.WalkLawsBesides
import Derived.Below
import Derived.BigRegion
import Derived.ProofKit
import Derived.OpenShut
import Derived.ChangeOld
import Derived.Lib.SmallJoins
import Derived.Deep.SlicePairs

namespace Go.Proofs.YtcnjgmeddkidaaaGreatDoor.mx
open Go.RowKit
open gr mk st bx
set_option linter.unusedVariables false

def Same (o o' : Option Obj) : Prop := o' = o ∨ ∃ c c' e, o = some (.cells c e (0, 0)) ∧ o' = some (.cells c' e (0, 0)) ∧ c'.size = c.size
/-- Only blocks from A up to B are written, and each keeps its kind and its size. -/
structure Mk (A B : Nat) (w w' : World) : Prop where
  os : w'.os = w.os
  tape : w'.tape = w.tape
  output : w'.output = w.output
  size : w.heap.size ≤ w'.heap.size
  block : ∀ k, k < w.heap.size → k < A ∨ B ≤ k → w'.heap[k]? = w.heap[k]?
  like : ∀ k, k < w.heap.size → Same w.heap[k]? w'.heap[k]?
theorem Mk.refl (A B : Nat) (w : World) : Mk A B w w := ⟨rfl, rfl, rfl, Nat.le_refl _, fun _ _ _ => rfl, fun _ _ => .inl rfl⟩
theorem same_trans {a b c : Option Obj} (h : Same a b) (h' : Same b c) : Same a c := by
  rcases h with rfl | ⟨x, y, e, rfl, rfl, hs⟩
  · exact h'
  · rcases h' with rfl | ⟨x', y', e', hx, rfl, hs'⟩
    · exact .inr ⟨x, y, e, rfl, rfl, hs⟩
    · cases hx
      exact .inr ⟨x, y', e, rfl, rfl, hs'.trans hs⟩
theorem Mk.trans {A B : Nat} {a b c : World} (h : Mk A B a b) (h' : Mk A B b c) : Mk A B a c :=
  ⟨h'.os.trans h.os, h'.tape.trans h.tape, h'.output.trans h.output, Nat.le_trans h.size h'.size, fun k hk hd => (h'.block k (Nat.lt_of_lt_of_le hk h.size) hd).trans (h.block k hk hd), fun k hk => same_trans (h.like k hk) (h'.like k (Nat.lt_of_lt_of_le hk h.size))⟩
theorem mk_below {A B : Nat} {w w' : World} (h : Below w.heap.size w w') : Mk A B w w' := ⟨h.os, h.tape, h.output, h.size, fun k hk _ => h.block k hk, fun k hk => .inl (h.block k hk)⟩
theorem Mk.bel {A B : Nat} {w w' : World} (h : Mk A B w w') (hA : A ≤ w.heap.size) : Below A w w' := ⟨h.os, h.tape, h.output, h.size, fun k hk => h.block k (Nat.lt_of_lt_of_le hk hA) (.inl hk)⟩
theorem mk_grown {A B : Nat} {w w' : World} {b b' e s n n' c g : Nat} {xs xs' : List Value} (h : w.grownBy w' (some g)) (o : w.ownsRow b e s (.slice (some ⟨g, 0, none⟩) n c) n xs) (o' : w'.ownsRow b' e s (.slice (some ⟨g, 0, none⟩) n' c) n' xs') (hA : A ≤ g) (hB : g < B) : Mk A B w w' := by
  refine ⟨h.os, h.tape, h.output, h.size, fun k hk hd => h.block k hk (by intro e; cases e; omega), fun k hk => ?_⟩
  by_cases ek : k = g
  · subst ek
    rcases o.2 with ⟨e, _⟩ | ⟨g1, cap, cur, e, _, hh, _, _, hz, _⟩
    · cases e
    cases e
    rcases o'.2 with ⟨e, _⟩ | ⟨g1, cap, cur', e, _, hh', _, _, hz', _⟩
    · cases e
    cases e
    exact .inr ⟨cur, cur', _, hh, hh', hz'.trans hz.symm⟩
  · exact .inl (h.block k hk (by intro e; cases e; exact ek rfl))
theorem own_like {A B : Nat} {w w' : World} {b e s n c g : Nat} (h : Mk A B w w') (o : ∃ cs, w.ownsRow b e s (.slice (some ⟨g, 0, none⟩) n c) n cs) : ∃ cs, w'.ownsRow b e s (.slice (some ⟨g, 0, none⟩) n c) n cs := by
  obtain ⟨cs, h1, h2⟩ := o
  rcases h2 with ⟨e, _⟩ | ⟨g1, cap, cur, e, hb, hh, hn, hm, hz, ht⟩
  · cases e
  cases e
  have hlt : g < w.heap.size := (Array.getElem?_eq_some_iff.1 hh).1
  rcases h.like g hlt with e | ⟨x, y, e', hx, hy, hs⟩
  · exact ⟨cs, h1, .inr ⟨g, c, cur, rfl, hb, e.trans hh, hn, hm, hz, ht⟩⟩
  · rw [hh] at hx
    cases hx
    refine ⟨y.toList.take (n * s), ?_, .inr ⟨g, c, y, rfl, hb, hy, hn, hm, hs.trans hz, rfl⟩⟩
    rw [List.length_take, Array.length_toList, hs, hz]
    exact Nat.min_eq_left (Nat.mul_le_mul_right _ hn)

set_option maxHeartbeats 1000000 in
set_option maxRecDepth 100000 in
theorem mark_some (k : Int) (w : World) (h0 : 0 < k) (h1 : k ≤ 1000000000000000000) :
    Calls Tryz.prog 23 #[.int .i64 k] w fun e w' => (∃ s, e = .returned (.string s)) ∧ Below w.heap.size w w' := by
  go_enter Tryz.func23, Tryz.ntmps23
  go_wp2
  go_loopw [0, 3] (fun i o wr => ∃ (f : Nat) (j : Int) (s : ByteArray), i = .int .i64 j ∧ o = .string s ∧ 0 ≤ j ∧ j ≤ 1000000000000000000 ∧ j < 2 ^ f ∧ s.size + f ≤ 60 ∧ Below w.heap.size w wr) (fun i _ _ => (intOf i).toNat)
  case atStart => exact ⟨60, k, ⟨#[]⟩, rfl, rfl, by omega, h1, by omega, by show 0 + 60 ≤ 60; omega, Below.refl _ _⟩
  case round =>
    obtain ⟨f, j, s, rfl, rfl, hj0, hj1, hf, hsz, hbw⟩ := hrel
    by_cases hj : 0 < j
    · obtain ⟨g, rfl⟩ := fuel_pos hj hf
      have hf2 := fuel_next hj hf
      have HF : Hid (j / 10 < 2 ^ g) := hf2
      have hmod : j.tmod 10 = j % 10 := by rw [Int.tmod_eq_emod_of_nonneg hj0]
      have hdiv : j.tdiv 10 = j / 10 := by rw [Int.tdiv_eq_ediv_of_nonneg hj0]
      have hw : IntKind.u8.wrap (48 + j % 10) = ((ch j).toNat : Int) := by
        rw [ch_num j hj0]
        have h256 : (2 : Int) ^ IntKind.u8.bits = 256 := rfl
        unfold IntKind.wrap
        simp only [h256, show IntKind.u8.signed = false from rfl, Bool.false_and, Bool.false_eq_true, if_false]
        omega
      have hcv := conv_part (P := Tryz.prog) (w := wr.alloc (.cells #[.int .u8 ((ch j).toNat : Int)] 5)) (g := wr.heap.size) (cap := 1) [ch j] Tryz.underlying81 Tryz.underlying5 Tryz.underlying9 (one_cell wr (ch j))
      rw [List.length_singleton] at hcv
      clear hf hf2
      have hm0 : 0 ≤ j % 10 := by omega
      have hm1 : j % 10 < 10 := by omega
      go_wp2
      go_roundw
      case rel => exact ⟨g, j / 10, ⟨#[ch j]⟩ ++ s, rfl, rfl, by omega, by omega, HF.out, by rw [ByteArray.size_append]; show 1 + s.size + g ≤ 60; omega, hbw.alloc hbw.size _⟩
      case measure => simp [intOf]; omega
    · clear hf
      go_wp2
      go_ret
      exact ⟨⟨_, rfl⟩, hbw⟩

set_option maxHeartbeats 2000000 in
set_option maxRecDepth 100000 in
theorem markM_some (base n g cap : Nat) (xs0 : List Value) (k : Int) (w : World) (h : w.ownsRow base 85 3 (.slice (some ⟨g, 0, none⟩) n cap) n xs0) (hn : n ≤ 1048576) (h0 : 0 < k) (h1 : k ≤ 100000000000000000) :
    Calls Tryz.prog 24 #[.slice (some ⟨g, 0, none⟩) n cap, .int .i64 k] w fun e w' => e = .returned (.int .i64 (k + 3 * (n : Int))) ∧ (∃ xs, w'.ownsRow base 85 3 (.slice (some ⟨g, 0, none⟩) n cap) n xs) ∧ w.grownBy w' (some g) := by
  have hxl := h.1
  have HO : Hid (w.ownsRow base 85 3 (.slice (some ⟨g, 0, none⟩) n cap) n xs0) := h
  clear h
  go_enter Tryz.func24, Tryz.ntmps24
  go_wp2
  go_loopw [1, 5] (fun z i wr => ∃ (j : Nat) (xs : List Value), j ≤ n ∧ z = .int .i64 (k + 3 * (j : Int)) ∧ i = .int .i64 j ∧ xs.length = n * 3 ∧ wr.ownsRow base 85 3 (.slice (some ⟨g, 0, none⟩) n cap) n xs ∧ w.grownBy wr (some g)) (fun _ i _ => n - (intOf i).toNat)
  case atStart => exact ⟨0, xs0, Nat.zero_le _, by simp, rfl, hxl, HO.out, ow.grown_refl _ _⟩
  case round =>
    clear HO
    obtain ⟨j, xs, hj, rfl, rfl, hxl2, hown, hgr⟩ := hrel
    have HL : Hid (xs.length = n * 3) := hxl2
    have HG : Hid (w.grownBy wr (some g)) := hgr
    clear hxl2 hgr
    by_cases hlt : j < n
    · have hlt' : (j : Int) < (n : Int) := by omega
      have hj0 : (0 : Int) ≤ (j : Int) := by omega
      generalize hK : k + 3 * (j : Int) = K
      have hK0 : 0 < K := by omega
      have hK1 : K ≤ 110000000000000000 := by omega
      have HKN : Hid (k + 3 * ((j + 1 : Nat) : Int) = K + 1 + 1 + 1) := (show _ = _ by omega)
      clear hK
      have HO0 : Hid (wr.ownsRow base 85 3 (.slice (some ⟨g, 0, none⟩) n cap) n xs) := hown
      have q0 := hown.cellAt (j * 3) (by omega)
      have q1 := hown.cellAt (j * 3 + 1) (by omega)
      have q2 := hown.cellAt (j * 3 + 2) (by omega)
      rw [List.getElem?_eq_getElem (by rw [HL.out]; omega)] at q0 q1 q2
      have f0 := hown.frozenAt (j * 3)
      have f1 := hown.frozenAt (j * 3 + 1)
      have f2 := hown.frozenAt (j * 3 + 2)
      generalize xs[j * 3]'(by rw [HL.out]; omega) = u0 at q0
      generalize xs[j * 3 + 1]'(by rw [HL.out]; omega) = u1 at q1
      generalize xs[j * 3 + 2]'(by rw [HL.out]; omega) = u2 at q2
      clear hown
      go_wp2_with fail
      have HX : Hid (((wr.setCell ⟨g, j * 3, none⟩ (.int .i64 K)).setCell ⟨g, j * 3 + 1, none⟩ (.int .i64 (K + 1))).ownsRow base 85 3 (.slice (some ⟨g, 0, none⟩) n cap) n ((xs.set (j * 3) (.int .i64 K)).set (j * 3 + 1) (.int .i64 (K + 1))) ∧ w.grownBy ((wr.setCell ⟨g, j * 3, none⟩ (.int .i64 K)).setCell ⟨g, j * 3 + 1, none⟩ (.int .i64 (K + 1))) (some g)) := ⟨((HO0.out.stored _ _).1.stored _ _).1, ow.grown_trans (ow.grown_trans HG.out (grown_set _ _ _ _)) (grown_set _ _ _ _)⟩
      clear q0 q1 q2 f0 f1 f2 HO0
      generalize hX : World.setCell _ _ _ = X at HX ⊢
      clear hX
      refine (mark_some (K + 1 + 1) _ (by omega) (by omega)).mono ?_
      rintro e w1 ⟨⟨s, rfl⟩, hb⟩
      have o1 := ow.own_below HX.out.1 hb
      have HG1 : Hid (w.grownBy w1 (some g)) := ow.grown_trans HX.out.2 (ow.grown_below hb)
      have q2 := o1.cellAt (j * 3 + 2) (by omega)
      rw [List.getElem?_eq_getElem (by rw [List.length_set, List.length_set, HL.out]; omega)] at q2
      have f2 := o1.frozenAt (j * 3 + 2)
      have HY : Hid ((w1.setCell ⟨g, j * 3 + 2, none⟩ (.string s)).ownsRow base 85 3 (.slice (some ⟨g, 0, none⟩) n cap) n (((xs.set (j * 3) (.int .i64 K)).set (j * 3 + 1) (.int .i64 (K + 1))).set (j * 3 + 2) (.string s)) ∧ w.grownBy (w1.setCell ⟨g, j * 3 + 2, none⟩ (.string s)) (some g)) := ⟨(o1.stored _ _).1, ow.grown_trans HG1.out (grown_set _ _ _ _)⟩
      clear o1 HX hb HG1
      generalize ((xs.set (j * 3) (Value.int .i64 K)).set (j * 3 + 1) (Value.int .i64 (K + 1)))[j * 3 + 2]'(by rw [List.length_set, List.length_set, HL.out]; omega) = u2 at q2
      go_wp2
      go_roundw
      case rel => exact ⟨j + 1, _, by omega, by rw [HKN.out], by go_num, by rw [List.length_set, List.length_set, List.length_set]; exact HL.out, HY.out.1, HY.out.2⟩
      case measure => simp [intOf]; omega
    · obtain rfl : j = n := by omega
      have HX : Hid (∃ xs, wr.ownsRow base 85 3 (.slice (some ⟨g, 0, none⟩) j cap) j xs) := ⟨xs, hown⟩
      go_wp2
      go_ret
      exact ⟨rfl, HX.out, HG.out⟩

set_option maxHeartbeats 1000000 in
set_option maxRecDepth 100000 in
theorem markT_some (base n g cap : Nat) (xs0 : List Value) (k : Int) (w : World) (h : w.ownsRow base 9 1 (.slice (some ⟨g, 0, none⟩) n cap) n xs0) (hn : n ≤ 1048576) (h0 : 0 < k) (h1 : k ≤ 100000000000000000) :
    Calls Tryz.prog 25 #[.slice (some ⟨g, 0, none⟩) n cap, .int .i64 k] w fun e w' => e = .returned (.int .i64 (k + (n : Int))) ∧ (∃ xs, w'.ownsRow base 9 1 (.slice (some ⟨g, 0, none⟩) n cap) n xs) ∧ w.grownBy w' (some g) := by
  have hxl := h.1
  have HO : Hid (w.ownsRow base 9 1 (.slice (some ⟨g, 0, none⟩) n cap) n xs0) := h
  clear h
  go_enter Tryz.func25, Tryz.ntmps25
  go_wp2
  go_loopw [1, 5] (fun z i wr => ∃ (j : Nat) (xs : List Value), j ≤ n ∧ z = .int .i64 (k + (j : Int)) ∧ i = .int .i64 j ∧ xs.length = n ∧ wr.ownsRow base 9 1 (.slice (some ⟨g, 0, none⟩) n cap) n xs ∧ w.grownBy wr (some g)) (fun _ i _ => n - (intOf i).toNat)
  case atStart => exact ⟨0, xs0, Nat.zero_le _, by simp, rfl, by omega, HO.out, ow.grown_refl _ _⟩
  case round =>
    clear HO
    obtain ⟨j, xs, hj, rfl, rfl, hxl, hown, hgr⟩ := hrel
    have HL : Hid (xs.length = n) := hxl
    have HG : Hid (w.grownBy wr (some g)) := hgr
    clear hxl hgr
    by_cases hlt : j < n
    · have hlt' : (j : Int) < (n : Int) := by omega
      have hj0 : (0 : Int) ≤ (j : Int) := by omega
      go_wp2_with fail
      refine (mark_some (k + (j : Int)) wr (by omega) (by omega)).mono ?_
      rintro e w2 ⟨⟨s, rfl⟩, hb2⟩
      have hown2 := ow.own_below hown hb2
      have HG2 : Hid (w.grownBy w2 (some g)) := ow.grown_trans HG.out (ow.grown_below hb2)
      have HO2 : Hid (w2.ownsRow base 9 1 (.slice (some ⟨g, 0, none⟩) n cap) n xs) := hown2
      have q0 := hown2.cellAt j (by omega)
      rw [List.getElem?_eq_getElem (by rw [HL.out]; omega)] at q0
      have f0 := hown2.frozenAt j
      clear hown2 hown HG hb2
      generalize xs[j]'(by rw [HL.out]; omega) = u0 at q0
      go_wp2
      go_roundw
      case rel => exact ⟨j + 1, xs.set j (.string s), by omega, by go_num, by go_num, by rw [List.length_set]; exact HL.out, (HO2.out.stored _ _).1, ow.grown_trans HG2.out (grown_set _ _ _ _)⟩
      case measure => simp [intOf]; omega
    · obtain rfl : j = n := by omega
      have HX : Hid (∃ xs, wr.ownsRow base 9 1 (.slice (some ⟨g, 0, none⟩) j cap) j xs) := ⟨xs, hown⟩
      go_wp2
      go_ret
      exact ⟨rfl, HX.out, HG.out⟩
end Go.Proofs.YtcnjgmeddkidaaaGreatDoor.mx

namespace Go.Proofs.YtcnjgmeddkidaaaGreatDoor.bk
open Go.RowKit Go.Maps Go.ChangeMaps Go.WideMaps
open ky tx
set_option linter.unusedVariables false

theorem law : Keyed Tryz.prog 9 := string_keyed Tryz.underlying9
abbrev Own (w : World) (B n : Nat) (D : DataW Unit) : Prop := w.ownsMap Tryz.prog 9 (plainElem Tryz.prog 3) B n D
theorem own_keep {w w' : World} {B n k : Nat} {D : DataW Unit} (h : Own w B n D) (hb : Below k w w') (hk : B < k) : Own w' B n D := by
  obtain ⟨es, clock, hb', F, hs, hD⟩ := h
  exact ⟨es, clock, (hb.block B hk).trans hb', F, hs, hD⟩
theorem clear_own {w : World} {B n : Nat} {D : DataW Unit} (h : Own w B n D) (ty : TypeId) :
    ∃ w', (Builtin.clear_ #[122] ty #[.map (some B)]).run Tryz.prog w = .ok (.tuple #[]) w' ∧ Own w' B 0 (.map []) ∧ w.mapTurned w' B := by
  obtain ⟨es, clock, hb, F, hs, rfl⟩ := h
  refine ⟨setBlock w B (.map #[] clock), ?_, ⟨#[], clock, heap_setBlock_same hb _, ⟨by simp, MapKept.stamped_empty clock, by simp⟩, Nat.le_refl _, rfl⟩, ⟨es, clock, #[], clock, hb, rfl⟩⟩
  simp [Builtin.clear_, run_underlying Tryz.underlying122, MapKept.run_getObj_map hb, MapKept.run_setObj_map _ hb, Result.andThen, setBlock]
theorem wpList_clear_own {w : World} {ops : Array Oper} {rest : List Oper} {o : Oper} {a : Act} {Q : Exit → Act → World → Prop}
    (hg : o.guard = none) (m : Operand) (hop : o.op = Op.call { callee := Callee.builtin Builtin.clear, args := #[m], argTypes := #[122] }) (B n : Nat) (D : DataW Unit)
    (hm : a.eval m = .map (some B)) (hown : Own w B n D)
    (hK : ∀ w', Own w' B 0 (.map []) → w.mapTurned w' B → wpList Tryz.prog ops Q rest (a.put o.dst (.tuple #[])) w') :
    wpList Tryz.prog ops Q (o :: rest) a w := by
  refine wpList_plain hg fun K' hK' => ?_
  obtain ⟨w', hrun, r1, r2⟩ := clear_own hown o.type
  unfold Oper.wp
  simp [execOp, hop, resolve, invoke, builtin, hm, hrun, Result.andThen]
  exact hK' _ _ (hK w' r1 r2)

/-- The first k are all different. -/
def Dist (ks : List ByteArray) (k : Nat) : Prop := ∀ i j, i < j → j < k → ks.getD i nt ≠ ks.getD j nt
def dDist (ks : List ByteArray) (k : Nat) : Decidable (Dist ks k) :=
  @decidable_of_iff _ (∀ j, j < k → ∀ i, i < j → (ks.getD i nt).data ≠ (ks.getD j nt).data) ⟨fun h i j hij hj e => h j hj i hij (by rw [e]), fun h j hj i hij e => h i j hij hj (ByteArray.ext e)⟩ inferInstance
def dist (ks : List ByteArray) : Bool := @decide (Dist ks ks.length) (dDist ks ks.length)
def lit (s : ByteArray) : Lit := .string s.data.toList
theorem lit_inj {a b : ByteArray} (h : lit a = lit b) : a = b := by
  unfold lit at h
  injection h with h
  exact WideShapes.bytes_inj h
/-- The book has the first k keys. -/
def Inv (D : DataW Unit) (ks : List ByteArray) (k : Nat) : Prop :=
  (∀ s, Maps.has D (lit s) = true ↔ ∃ j, j < k ∧ ks.getD j nt = s) ∧ Maps.size D ≤ k ∧ (Maps.size D = k ↔ Dist ks k)
theorem inv_start (ks : List ByteArray) : Inv (.map []) ks 0 := by
  refine ⟨fun s => ⟨fun h => by simp [Maps.has] at h, fun ⟨j, h, _⟩ => absurd h (Nat.not_lt_zero _)⟩, by simp [Maps.size], ⟨fun _ i j _ h => absurd h (Nat.not_lt_zero _), fun _ => by simp [Maps.size]⟩⟩
theorem inv_step {D : DataW Unit} {ks : List ByteArray} {k : Nat} (hD : Tidy D) (h : Inv D ks k) {s : ByteArray} (hs : ks.getD k nt = s) (d : DataW Unit) : Inv (D.put (lit s) d) ks (k + 1) := by
  obtain ⟨h1, h2, h3⟩ := h
  have hkl : WideAt.IsKeyLit (lit s) := by unfold lit; simp [WideAt.IsKeyLit]
  have hsz := size_put (k := lit s) hD d
  refine ⟨fun t => ?_, ?_, ?_⟩
  · by_cases e : t = s
    · subst e
      rw [has_put_same hD.isMap hkl]
      simp
      exact ⟨k, by omega, hs⟩
    · rw [has_put_other (fun x => e (lit_inj x)), h1]
      constructor
      · rintro ⟨j, hj, ej⟩
        exact ⟨j, by omega, ej⟩
      · rintro ⟨j, hj, ej⟩
        by_cases ejk : j = k
        · subst ejk
          exact absurd (ej.symm.trans hs) e
        · exact ⟨j, by omega, ej⟩
  · rw [hsz]
    split <;> omega
  · rw [hsz]
    by_cases hh : Maps.has D (lit s) = true
    · rw [if_pos hh]
      obtain ⟨j, hj, ej⟩ := (h1 s).1 hh
      constructor
      · intro x; omega
      · intro x
        exact absurd (ej.trans hs.symm) (x j k hj (by omega))
    · rw [if_neg hh]
      constructor
      · intro x i j hij hj
        by_cases ejk : j = k
        · subst ejk
          intro y
          exact hh ((h1 s).2 ⟨i, hij, y.trans hs⟩)
        · exact h3.1 (by omega) i j hij (by omega)
      · intro x
        have := h3.2 (fun i j hij hj => x i j hij (by omega))
        omega
theorem dist_eq {D : DataW Unit} {ks : List ByteArray} {k : Nat} (hk : k = ks.length) (h : Inv D ks k) : ((Maps.size D : Int) == (k : Int)) = dist ks := by
  subst hk
  unfold dist
  by_cases e : Maps.size D = ks.length
  · rw [ow.dt (h.2.2.1 e)]
    simp [e]
  · rw [ow.df (fun x => e (h.2.2.2 x))]
    simp
    omega

set_option maxHeartbeats 2000000 in
set_option maxRecDepth 100000 in
theorem learn_any (B n0 N : Nat) (D0 : DataW Unit) (v : Value) (ks : List ByteArray) (w : World) (hown : Own w B n0 D0) (h : TextsIn w N v ks) (hN : N ≤ B) (hs : Smalls ks) :
    Calls Tryz.prog 102 #[.map (some B), v] w fun e w' => e = .returned (.bool (dist ks)) ∧ (∃ n D, Own w' B n D ∧ Inv D ks ks.length) ∧ Below B w w' := by
  obtain ⟨a, cap, rfl, h⟩ := h
  obtain ⟨n, hn⟩ : ∃ n, n = ks.length := ⟨_, rfl⟩
  have HN : Hid (n = ks.length) := hn
  have HH : Hid (ks = [] ∨ ∃ b off, a = some ⟨b, off, none⟩ ∧ b < N ∧ ∀ j, j < ks.length → w.cell? ⟨b, off + j, none⟩ = some (.string (ks.getD j nt))) := h
  have HS : Hid (Smalls ks) := hs
  have hl : n ≤ 1048576 := by rw [hn]; exact hs.1
  rw [← hn]
  clear h hs hn
  go_enter Tryz.func102, Tryz.ntmps102
  go_wp2_with (refine wpList_clear_own rfl _ rfl B n0 D0 rfl hown ?_; intro w1 hown1 hturn1)
  have hb1 : Below B w w1 := (Below.refl _ _).grown hturn1.grown (Nat.le_of_lt hown.lt) (fun j hj => by cases hj; exact Nat.le_refl _)
  clear hturn1 hown
  go_loopw [10] (fun i wr => ∃ (k : Nat) (D : DataW Unit), k ≤ n ∧ i = .int .i64 k ∧ Own wr B k D ∧ Inv D ks k ∧ Below B w wr) (fun i _ => n - (intOf i).toNat)
  case atStart => exact ⟨0, _, Nat.zero_le _, rfl, hown1, inv_start ks, hb1⟩
  case round =>
    clear hown1 hb1
    obtain ⟨k, D, hk, rfl, hown, hinv, hbw⟩ := hrel
    have HI : Hid (Inv D ks k) := hinv
    clear hinv
    by_cases hlt : k < n
    · have hka : k < ks.length := by rw [← HN.out]; exact hlt
      rcases HH.out with e | ⟨b, off, rfl, hbN, hcells⟩
      · rw [e] at hka; simp at hka
      have c0 := (hbw.cell (p := ⟨b, off + k, none⟩) (Nat.lt_of_lt_of_le hbN hN)).trans (hcells k hka)
      have hsz := HS.out.2 k hka
      clear hcells hka
      generalize hx : ks.getD k nt = x at c0 hsz
      have HX : Hid (ks.getD k nt = x) := hx
      clear hx
      have hkey : keyOf Tryz.prog 9 (.string x) = some (lit x) := keyOf_string_mk Tryz.underlying9 (by unfold maxLen; omega)
      have HO : Hid (Own wr B k D) := hown
      have htd := hown.tidy law
      have HT : Hid (Tidy D) := htd
      have HWS : Hid (B ≤ wr.heap.size) := Nat.le_of_lt hown.lt
      clear htd hown
      have hlt' : (k : Int) < (n : Int) := by omega
      go_wp2_with (at_mapUpdate; refine wpList_mapUpdate_own _ rfl _ _ _ 122 rfl 9 3 law Tryz.underlying122 _ B k _ rfl HO.out (by unfold maxLen; omega) _ _ _ rfl rfl hkey _ [] (plainElem_int Tryz.underlying3 (WalkArith.wf_i64 (by omega))) ?_; intro w2 hown2 hgrow2)
      have hbw2 : Below B w w2 := hbw.grown hgrow2 HWS.out (fun j hj => by cases hj; exact Nat.le_refl _)
      clear hgrow2 c0
      go_wp2
      go_roundw
      case rel => exact ⟨k + 1, _, by omega, by go_num, hown2, inv_step HT.out HI.out HX.out _, hbw2⟩
      case measure => simp [intOf]; omega
    · have hkn : k = n := by omega
      subst hkn
      have HD : Hid (((Maps.size D : Int) == (k : Int)) = dist ks) := dist_eq HN.out HI.out
      have HF : Hid (∃ n D, Own wr B n D ∧ Inv D ks k) := ⟨k, D, hown, HI.out⟩
      go_wp2_with (at_len; refine wpList_len_own _ rfl _ 122 rfl 9 3 Tryz.underlying122 _ B k D rfl hown ?_)
      go_wp2
      go_ret
      exact ⟨by rw [← HD.out]; first | rfl | (congr 2; rw [Bool.eq_iff_iff]; simp), HF.out, hbw⟩
end Go.Proofs.YtcnjgmeddkidaaaGreatDoor.bk

namespace Go.Proofs.YtcnjgmeddkidaaaGreatDoor.it
open Go.RowKit
set_option linter.unusedVariables false

abbrev Pr := ByteArray × ByteArray
def no : Pr := (⟨#[]⟩, ⟨#[]⟩)
/-- A slice of attributes. -/
def AttrsAt (w : World) (v : Value) (ps : List Pr) : Prop :=
  ∃ a cap, v = .slice a ps.length cap ∧ (ps = [] ∨ ∃ b off, a = some ⟨b, off, none⟩ ∧ ∀ j, j < ps.length → w.cell? ⟨b, off + j * 2, none⟩ = some (.string (ps.getD j no).1) ∧ w.cell? ⟨b, off + j * 2 + 1, none⟩ = some (.string (ps.getD j no).2))
theorem at_below {w w' : World} {v : Value} {ps : List Pr} (h : AttrsAt w v ps) (hb : Below w.heap.size w w') : AttrsAt w' v ps := by
  obtain ⟨a, cap, rfl, h⟩ := h
  refine ⟨a, cap, rfl, ?_⟩
  rcases h with h | ⟨b, off, rfl, h⟩
  · exact .inl h
  · refine .inr ⟨b, off, rfl, fun j hj => ?_⟩
    obtain ⟨h0, h1⟩ := h j hj
    have hl := World.block_lt_of_cell? w _ h0
    exact ⟨(hb.cell (p := ⟨b, off + j * 2, none⟩) hl).trans h0, (hb.cell (p := ⟨b, off + j * 2 + 1, none⟩) hl).trans h1⟩

/-- Attributes of a size that a law takes. -/
def Small (ps : List Pr) : Prop := ps.length ≤ 1048576 ∧ ∀ j, j < ps.length → (ps.getD j no).1.size ≤ 1048576 ∧ (ps.getD j no).2.size ≤ 1048576
def SmallTo (ps : List Pr) (k : Nat) : Prop := ps.length ≤ 1048576 ∧ ∀ j, j < k → (ps.getD j no).1.size ≤ 1048576 ∧ (ps.getD j no).2.size ≤ 1048576

end Go.Proofs.YtcnjgmeddkidaaaGreatDoor.it

namespace Go.Proofs.YtcnjgmeddkidaaaGreatDoor.it
open Go.RowKit
set_option linter.unusedVariables false

theorem infoAt : (Tryz.prog.info? 97).map (fun i => (i.zero, i.size, i.bytes)) = some (some (.agg #[.string ⟨#[]⟩, .string ⟨#[]⟩]), 2, 32) := by kernel_rfl

def Lay (ps : List Pr) (k : Nat) (xs : List Value) : Prop := ∀ j, j < k → xs[j * 2]? = some (.string (ps.getD j no).1) ∧ xs[j * 2 + 1]? = some (.string (ps.getD j no).2)
theorem lay_step {ps : List Pr} {k : Nat} {xs : List Value} (h : Lay ps k xs) (hl : k * 2 + 1 < xs.length) {a b : ByteArray} (ha : (ps.getD k no).1 = a) (hb : (ps.getD k no).2 = b) : Lay ps (k + 1) ((xs.set (k * 2) (.string a)).set (k * 2 + 1) (.string b)) := by
  intro j hj
  by_cases e : j = k
  · subst e
    rw [ha, hb]
    refine ⟨?_, ?_⟩
    · rw [List.getElem?_set_ne (by omega), List.getElem?_set_self (by omega)]
    · rw [List.getElem?_set_self (by rw [List.length_set]; omega)]
  · obtain ⟨h0, h1⟩ := h j (by omega)
    refine ⟨?_, ?_⟩
    · rw [List.getElem?_set_ne (by omega), List.getElem?_set_ne (by omega)]; exact h0
    · rw [List.getElem?_set_ne (by omega), List.getElem?_set_ne (by omega)]; exact h1
theorem attrs_lay {w : World} {base e g n cap : Nat} {ps : List Pr} {xs : List Value} (hn : n = ps.length) (h : w.ownsRow base e 2 (.slice (some ⟨g, 0, none⟩) n cap) n xs) (hl : Lay ps n xs) : AttrsAt w (.slice (some ⟨g, 0, none⟩) n cap) ps := by
  subst hn
  refine ⟨_, cap, rfl, .inr ⟨g, 0, rfl, fun j hj => ?_⟩⟩
  obtain ⟨h0, h1⟩ := hl j hj
  refine ⟨?_, ?_⟩
  · rw [Nat.zero_add, h.cellAt (j * 2) (by omega), h0]
  · rw [Nat.zero_add, h.cellAt (j * 2 + 1) (by omega), h1]

open gr
end Go.Proofs.YtcnjgmeddkidaaaGreatDoor.it

namespace Go.Proofs.YtcnjgmeddkidaaaGreatDoor.it
open Go.ChangeShapes Go.WideShapes Go.ChangeAt Go.RowKit Go.Joins Go.Deep
set_option linter.unusedVariables false

def str : Value → ByteArray
  | .string s => s
  | _ => ⟨#[]⟩
section
variable {H : Type} {enc : TypeId × Value → H} {w : World} {base : Nat} {spare : Nat → Bool} {held : Bool}
end
end Go.Proofs.YtcnjgmeddkidaaaGreatDoor.it
