/-
  The laws' marks, as to their shape: at every number; rows of mails and of texts, a box, and a list of boxes.
-/
import Derived.Test.YtbfplmafffnghaaDoorMrl
import Derived.Test.YtbfplmafffnghaaDoorBow
namespace Go.Proofs.YtbfplmafffnghaaDoor.mx
open Go.RowKit
open gr mk st bx
set_option linter.unusedVariables false

def Same (o o' : Option Obj) : Prop := o' = o ∨ ∃ c c' e, o = some (.cells c e (0, 0)) ∧ o' = some (.cells c' e (0, 0)) ∧ c'.size = c.size
/-- Only blocks from A up to B are written, and each keeps its kind and its size. -/
structure Mk (A B : Nat) (w w' : World) : Prop where
  os : w'.os = w.os
  tape : w'.tape = w.tape
  output : w'.output = w.output
  size : w.heap.size ≤ w'.heap.size
  block : ∀ k, k < w.heap.size → k < A ∨ B ≤ k → w'.heap[k]? = w.heap[k]?
  like : ∀ k, k < w.heap.size → Same w.heap[k]? w'.heap[k]?
theorem Mk.refl (A B : Nat) (w : World) : Mk A B w w := ⟨rfl, rfl, rfl, Nat.le_refl _, fun _ _ _ => rfl, fun _ _ => .inl rfl⟩
theorem same_trans {a b c : Option Obj} (h : Same a b) (h' : Same b c) : Same a c := by
  rcases h with rfl | ⟨x, y, e, rfl, rfl, hs⟩
  · exact h'
  · rcases h' with rfl | ⟨x', y', e', hx, rfl, hs'⟩
    · exact .inr ⟨x, y, e, rfl, rfl, hs⟩
    · cases hx
      exact .inr ⟨x, y', e, rfl, rfl, hs'.trans hs⟩
theorem Mk.trans {A B : Nat} {a b c : World} (h : Mk A B a b) (h' : Mk A B b c) : Mk A B a c :=
  ⟨h'.os.trans h.os, h'.tape.trans h.tape, h'.output.trans h.output, Nat.le_trans h.size h'.size, fun k hk hd => (h'.block k (Nat.lt_of_lt_of_le hk h.size) hd).trans (h.block k hk hd), fun k hk => same_trans (h.like k hk) (h'.like k (Nat.lt_of_lt_of_le hk h.size))⟩
theorem mk_below {A B : Nat} {w w' : World} (h : Below w.heap.size w w') : Mk A B w w' := ⟨h.os, h.tape, h.output, h.size, fun k hk _ => h.block k hk, fun k hk => .inl (h.block k hk)⟩
theorem Mk.bel {A B : Nat} {w w' : World} (h : Mk A B w w') (hA : A ≤ w.heap.size) : Below A w w' := ⟨h.os, h.tape, h.output, h.size, fun k hk => h.block k (Nat.lt_of_lt_of_le hk hA) (.inl hk)⟩
theorem mk_grown {A B : Nat} {w w' : World} {b b' e s n n' c g : Nat} {xs xs' : List Value} (h : w.grownBy w' (some g)) (o : w.ownsRow b e s (.slice (some ⟨g, 0, none⟩) n c) n xs) (o' : w'.ownsRow b' e s (.slice (some ⟨g, 0, none⟩) n' c) n' xs') (hA : A ≤ g) (hB : g < B) : Mk A B w w' := by
  refine ⟨h.os, h.tape, h.output, h.size, fun k hk hd => h.block k hk (by intro e; cases e; omega), fun k hk => ?_⟩
  by_cases ek : k = g
  · subst ek
    rcases o.2 with ⟨e, _⟩ | ⟨g1, cap, cur, e, _, hh, _, _, hz, _⟩
    · cases e
    cases e
    rcases o'.2 with ⟨e, _⟩ | ⟨g1, cap, cur', e, _, hh', _, _, hz', _⟩
    · cases e
    cases e
    exact .inr ⟨cur, cur', _, hh, hh', hz'.trans hz.symm⟩
  · exact .inl (h.block k hk (by intro e; cases e; exact ek rfl))
theorem own_like {A B : Nat} {w w' : World} {b e s n c g : Nat} (h : Mk A B w w') (o : ∃ cs, w.ownsRow b e s (.slice (some ⟨g, 0, none⟩) n c) n cs) : ∃ cs, w'.ownsRow b e s (.slice (some ⟨g, 0, none⟩) n c) n cs := by
  obtain ⟨cs, h1, h2⟩ := o
  rcases h2 with ⟨e, _⟩ | ⟨g1, cap, cur, e, hb, hh, hn, hm, hz, ht⟩
  · cases e
  cases e
  have hlt : g < w.heap.size := (Array.getElem?_eq_some_iff.1 hh).1
  rcases h.like g hlt with e | ⟨x, y, e', hx, hy, hs⟩
  · exact ⟨cs, h1, .inr ⟨g, c, cur, rfl, hb, e.trans hh, hn, hm, hz, ht⟩⟩
  · rw [hh] at hx
    cases hx
    refine ⟨y.toList.take (n * s), ?_, .inr ⟨g, c, y, rfl, hb, hy, hn, hm, hs.trans hz, rfl⟩⟩
    rw [List.length_take, Array.length_toList, hs, hz]
    exact Nat.min_eq_left (Nat.mul_le_mul_right _ hn)

set_option maxHeartbeats 1000000 in
set_option maxRecDepth 100000 in
theorem mark_some (k : Int) (w : World) (h0 : 0 < k) (h1 : k ≤ 1000000000000000000) :
    Calls Tryd.prog 15 #[.int .i64 k] w fun e w' => (∃ s, e = .returned (.string s)) ∧ Below w.heap.size w w' := by
  go_enter Tryd.func15, Tryd.ntmps15
  go_wp2
  go_loopw [0, 3] (fun i o wr => ∃ (f : Nat) (j : Int) (s : ByteArray), i = .int .i64 j ∧ o = .string s ∧ 0 ≤ j ∧ j ≤ 1000000000000000000 ∧ j < 2 ^ f ∧ s.size + f ≤ 60 ∧ Below w.heap.size w wr) (fun i _ _ => (intOf i).toNat)
  case atStart => exact ⟨60, k, ⟨#[]⟩, rfl, rfl, by omega, h1, by omega, by show 0 + 60 ≤ 60; omega, Below.refl _ _⟩
  case round =>
    obtain ⟨f, j, s, rfl, rfl, hj0, hj1, hf, hsz, hbw⟩ := hrel
    by_cases hj : 0 < j
    · obtain ⟨g, rfl⟩ := fuel_pos hj hf
      have hf2 := fuel_next hj hf
      have HF : Hid (j / 10 < 2 ^ g) := hf2
      have hmod : j.tmod 10 = j % 10 := by rw [Int.tmod_eq_emod_of_nonneg hj0]
      have hdiv : j.tdiv 10 = j / 10 := by rw [Int.tdiv_eq_ediv_of_nonneg hj0]
      have hw : IntKind.u8.wrap (48 + j % 10) = ((ch j).toNat : Int) := by
        rw [ch_num j hj0]
        have h256 : (2 : Int) ^ IntKind.u8.bits = 256 := rfl
        unfold IntKind.wrap
        simp only [h256, show IntKind.u8.signed = false from rfl, Bool.false_and, Bool.false_eq_true, if_false]
        omega
      have hcv := conv_part (P := Tryd.prog) (w := wr.alloc (.cells #[.int .u8 ((ch j).toNat : Int)] 5)) (g := wr.heap.size) (cap := 1) [ch j] Tryd.underlying39 Tryd.underlying5 Tryd.underlying9 (one_cell wr (ch j))
      rw [List.length_singleton] at hcv
      clear hf hf2
      have hm0 : 0 ≤ j % 10 := by omega
      have hm1 : j % 10 < 10 := by omega
      go_wp2
      go_roundw
      case rel => exact ⟨g, j / 10, ⟨#[ch j]⟩ ++ s, rfl, rfl, by omega, by omega, HF.out, by rw [ByteArray.size_append]; show 1 + s.size + g ≤ 60; omega, hbw.alloc hbw.size _⟩
      case measure => simp [intOf]; omega
    · clear hf
      go_wp2
      go_ret
      exact ⟨⟨_, rfl⟩, hbw⟩


set_option maxHeartbeats 1000000 in
set_option maxRecDepth 100000 in
theorem markT_some (base n g cap : Nat) (xs0 : List Value) (k : Int) (w : World) (h : w.ownsRow base 9 1 (.slice (some ⟨g, 0, none⟩) n cap) n xs0) (hn : n ≤ 1048576) (h0 : 0 < k) (h1 : k ≤ 100000000000000000) :
    Calls Tryd.prog 9 #[.slice (some ⟨g, 0, none⟩) n cap, .int .i64 k] w fun e w' => e = .returned (.int .i64 (k + (n : Int))) ∧ (∃ xs, w'.ownsRow base 9 1 (.slice (some ⟨g, 0, none⟩) n cap) n xs) ∧ w.grownBy w' (some g) := by
  have hxl := h.1
  have HO : Hid (w.ownsRow base 9 1 (.slice (some ⟨g, 0, none⟩) n cap) n xs0) := h
  clear h
  go_enter Tryd.func9, Tryd.ntmps9
  go_wp2
  go_loopw [1, 5] (fun z i wr => ∃ (j : Nat) (xs : List Value), j ≤ n ∧ z = .int .i64 (k + (j : Int)) ∧ i = .int .i64 j ∧ xs.length = n ∧ wr.ownsRow base 9 1 (.slice (some ⟨g, 0, none⟩) n cap) n xs ∧ w.grownBy wr (some g)) (fun _ i _ => n - (intOf i).toNat)
  case atStart => exact ⟨0, xs0, Nat.zero_le _, by simp, rfl, by omega, HO.out, ow.grown_refl _ _⟩
  case round =>
    clear HO
    obtain ⟨j, xs, hj, rfl, rfl, hxl, hown, hgr⟩ := hrel
    have HL : Hid (xs.length = n) := hxl
    have HG : Hid (w.grownBy wr (some g)) := hgr
    clear hxl hgr
    by_cases hlt : j < n
    · have hlt' : (j : Int) < (n : Int) := by omega
      have hj0 : (0 : Int) ≤ (j : Int) := by omega
      go_wp2_with fail
      refine (mark_some (k + (j : Int)) wr (by omega) (by omega)).mono ?_
      rintro e w2 ⟨⟨s, rfl⟩, hb2⟩
      have hown2 := ow.own_below hown hb2
      have HG2 : Hid (w.grownBy w2 (some g)) := ow.grown_trans HG.out (ow.grown_below hb2)
      have HO2 : Hid (w2.ownsRow base 9 1 (.slice (some ⟨g, 0, none⟩) n cap) n xs) := hown2
      have q0 := hown2.cellAt j (by omega)
      rw [List.getElem?_eq_getElem (by rw [HL.out]; omega)] at q0
      have f0 := hown2.frozenAt j
      clear hown2 hown HG hb2
      generalize xs[j]'(by rw [HL.out]; omega) = u0 at q0
      go_wp2
      go_roundw
      case rel => exact ⟨j + 1, xs.set j (.string s), by omega, by go_num, by go_num, by rw [List.length_set]; exact HL.out, (HO2.out.stored _ _).1, ow.grown_trans HG2.out (grown_set _ _ _ _)⟩
      case measure => simp [intOf]; omega
    · obtain rfl : j = n := by omega
      have HX : Hid (∃ xs, wr.ownsRow base 9 1 (.slice (some ⟨g, 0, none⟩) j cap) j xs) := ⟨xs, hown⟩
      go_wp2
      go_ret
      exact ⟨rfl, HX.out, HG.out⟩
end Go.Proofs.YtbfplmafffnghaaDoor.mx
