/-
  The laws' comparison of a token with itself, and both AttrOf functions.
-/
import Derived.Test.YtjncdnnllaoccaaGreatDoorXac
import Derived.Test.YtjncdnnllaoccaaGreatDoorShf
namespace Go.Proofs.YtjncdnnllaoccaaGreatDoor.xa
open Go.RowKit
open gr
set_option linter.unusedVariables false

set_option maxHeartbeats 1000000 in
set_option maxRecDepth 100000 in
theorem eqToken_any (k : Int) (n t : ByteArray) (v u : Value) (ps : List Pr) (w : World) (h1 : AttrsAt w v ps) (h2 : AttrsAt w u ps) (hn : ps.length ≤ 1048576) :
    Calls Tryz.prog 42 #[TV k n v t, TV k n u t] w fun e w' => e = .returned (.bool true) ∧ Below w.heap.size w w' := by
  unfold TV
  have hbw : Below w.heap.size w ((w.alloc (.cells #[.int .i64 k, .string n, v, .string t] 34)).alloc (.cells #[.int .i64 k, .string n, u, .string t] 34)) := ((Below.refl _ _).alloc (Nat.le_refl _) _).alloc (by simp) _
  have HA : Hid (AttrsAt ((w.alloc (.cells #[.int .i64 k, .string n, v, .string t] 34)).alloc (.cells #[.int .i64 k, .string n, u, .string t] 34)) v ps) := at_below h1 hbw
  have HB : Hid (AttrsAt ((w.alloc (.cells #[.int .i64 k, .string n, v, .string t] 34)).alloc (.cells #[.int .i64 k, .string n, u, .string t] 34)) u ps) := at_below h2 hbw
  have k0 := new0 w (.cells #[.int .i64 k, .string n, v, .string t] 34) (.cells #[.int .i64 k, .string n, u, .string t] 34) (.cells #[] 0)
  obtain ⟨a, cap, rfl, _⟩ := h1
  obtain ⟨a', cap', rfl, _⟩ := h2
  clear k0
  have kk : ((k : Int) != k) = false := by simp
  go_enter Tryz.func42, Tryz.ntmps42
  go_wp2_with fail
  obtain ⟨W, hW⟩ : ∃ W, W = ((w.alloc (.cells #[.int .i64 k, .string n, .slice a ps.length cap, .string t] 34)).alloc (.cells #[.int .i64 k, .string n, .slice a' ps.length cap', .string t] 34)) := ⟨_, rfl⟩
  have k0 : W.heap[w.heap.size]? = some (.cells #[.int .i64 k, .string n, .slice a ps.length cap, .string t] 34 (0, 0)) := by rw [hW, Below.heap_alloc _ _ _ (by simp), heap_new]
  have k1 : W.heap[w.heap.size + 1]? = some (.cells #[.int .i64 k, .string n, .slice a' ps.length cap', .string t] 34 (0, 0)) := by
    have h := heap_new (w.alloc (.cells #[.int .i64 k, .string n, .slice a ps.length cap, .string t] 34)) (.cells #[.int .i64 k, .string n, .slice a' ps.length cap', .string t] 34)
    rw [show (w.alloc (.cells #[.int .i64 k, .string n, .slice a ps.length cap, .string t] 34)).heap.size = w.heap.size + 1 by simp] at h
    rw [hW]; exact h
  have sz : W.heap.size = w.heap.size + 2 := by rw [hW]; simp
  rw [← hW] at HA HB hbw ⊢
  clear hW
  refine (eqAttrS_any _ _ ps _ HA.out HB.out hn).mono ?_
  rintro e w2 ⟨rfl, hb2⟩
  have m0 := (hb2.block w.heap.size (by omega)).trans k0
  have m1 := (hb2.block (w.heap.size + 1) (by omega)).trans k1
  have b3 := hbw.trans (hb2.mono hbw.size)
  have c0 : w2.cell? ⟨w.heap.size, 0 + 3, none⟩ = some (.string t) := by rw [cell_of_row w2 _ _ _ _ _ m0]; rfl
  have c1 : w2.cell? ⟨w.heap.size + 1, 0 + 3, none⟩ = some (.string t) := by rw [cell_of_row w2 _ _ _ _ _ m1]; rfl
  clear m0 m1 k0 k1 hbw hb2 HA HB
  go_wp2
  go_ret
  exact ⟨rfl, b3⟩

theorem ne_list {a b : ByteArray} (h : a ≠ b) : (a.toList == b.toList) = false := beq_eq_false_iff_ne.2 fun e => h (WideShapes.bytes_inj (by rw [← Lib.toList_data, ← Lib.toList_data]; exact e))

/-- What a call of AttrOf answers. -/
def AttrRet (ps : List Pr) (nm : ByteArray) (e : Ending) : Prop :=
  (65536 < nm.size ∧ e = .returned (.tuple #[.string ⟨#[]⟩, .int .i64 2])) ∨
  (nm.size ≤ 65536 ∧ ((∃ k, k < ps.length ∧ (ps.getD k no).1 = nm ∧ (∀ j, j < k → (ps.getD j no).1 ≠ nm) ∧ e = .returned (.tuple #[.string (ps.getD k no).2, .int .i64 0])) ∨
    ((∀ j, j < ps.length → (ps.getD j no).1 ≠ nm) ∧ e = .returned (.tuple #[.string ⟨#[]⟩, .int .i64 5]))))
theorem attr_same {ps : List Pr} {nm : ByteArray} {e e' : Ending} (h : AttrRet ps nm e) (h' : AttrRet ps nm e') : e = e' := by
  rcases h with ⟨h, rfl⟩ | ⟨h, ⟨k, hk, e1, e2, rfl⟩ | ⟨e1, rfl⟩⟩ <;> rcases h' with ⟨h', rfl⟩ | ⟨h', ⟨k', hk', f1, f2, rfl⟩ | ⟨f1, rfl⟩⟩
  · rfl
  · omega
  · omega
  · omega
  · have : k = k' := by
      rcases Nat.lt_trichotomy k k' with hl | hl | hl
      · exact absurd e1 (f2 k hl)
      · exact hl
      · exact absurd f1 (e2 k' hl)
    rw [this]
  · exact absurd e1 (f1 k hk)
  · omega
  · exact absurd f1 (e1 k' hk')
  · rfl
theorem attr_form {ps : List Pr} {nm : ByteArray} {e : Ending} (h : AttrRet ps nm e) : ∃ (t : ByteArray) (c : Int), e = .returned (.tuple #[.string t, .int .i64 c]) := by
  rcases h with ⟨h, rfl⟩ | ⟨h, ⟨k, hk, e1, e2, rfl⟩ | ⟨e1, rfl⟩⟩ <;> exact ⟨_, _, rfl⟩


theorem clone_any (s : ByteArray) (w : World) (h : s.size ≤ 1048576) : Calls Tryz.prog 31 #[.string s] w fun e w' => e = .returned (.string s) ∧ Below w.heap.size w w' := by
  go_enter Tryz.func31, Tryz.ntmps31
  go_wp2_with fail
  refine (Tryz.stringslite_Clone s _ (by omega)).mono ?_
  rintro e w' ⟨rfl, hb⟩
  go_wp2
  go_ret
  exact ⟨rfl, hb⟩

set_option maxHeartbeats 1000000 in
set_option maxRecDepth 100000 in
theorem impl_attr (k : Int) (n t nm : ByteArray) (v : Value) (ps : List Pr) (w : World) (h : AttrsAt w v ps) (hsm : Small ps) :
    Calls Tryz.prog 12 #[TV k n v t, .string nm] w fun e w' => AttrRet ps nm e ∧ Below w.heap.size w w' := by
  unfold TV
  have hn := hsm.1
  have HSM : Hid (Small ps) := hsm
  clear hsm
  obtain ⟨W, hW⟩ : ∃ W, W = w.alloc (.cells #[.int .i64 k, .string n, v, .string t] 34) := ⟨_, rfl⟩
  have hbw : Below w.heap.size w W := by rw [hW]; exact (Below.refl _ _).alloc (Nat.le_refl _) _
  have HA := at_below h hbw
  clear h
  obtain ⟨a, cap, rfl, hh⟩ := HA
  obtain ⟨m, hm⟩ : ∃ m, m = ps.length := ⟨_, rfl⟩
  have HN : Hid (m = ps.length) := hm
  have HH : Hid (ps = [] ∨ ∃ b off, a = some ⟨b, off, none⟩ ∧ ∀ j, j < ps.length → W.cell? ⟨b, off + j * 2, none⟩ = some (.string (ps.getD j no).1) ∧ W.cell? ⟨b, off + j * 2 + 1, none⟩ = some (.string (ps.getD j no).2)) := hh
  rw [← hm] at hn hW ⊢
  clear hh hm
  by_cases hb : 65536 < nm.size
  · have hb' : (65536 : Int) < (nm.size : Int) := by omega
    go_enter Tryz.func12, Tryz.ntmps12
    go_wp2
    go_ret2
    exact ⟨.inl ⟨hb, rfl⟩, by rw [← hW]; exact hbw⟩
  have hb' : (nm.size : Int) ≤ 65536 := by omega
  go_enter Tryz.func12, Tryz.ntmps12
  go_wp2
  rw [← hW]
  clear hW
  go_loopw [14] (fun i wr => ∃ j : Nat, j ≤ m ∧ i = .int .i64 j ∧ (∀ x, x < j → (ps.getD x no).1 ≠ nm) ∧ Below W.heap.size W wr) (fun i _ => m - (intOf i).toNat)
  case atStart => exact ⟨0, Nat.zero_le _, rfl, fun j hj => absurd hj (Nat.not_lt_zero _), Below.refl _ _⟩
  case round =>
    obtain ⟨j, hj, rfl, hg, hbr⟩ := hrel
    have HG : Hid (∀ x, x < j → (ps.getD x no).1 ≠ nm) := hg
    clear hg
    by_cases hlt : j < m
    · have hka : j < ps.length := by rw [← HN.out]; exact hlt
      rcases HH.out with e | ⟨b, off, rfl, hcells⟩
      · rw [e] at hka; simp at hka
      obtain ⟨v0, v1⟩ := hcells j hka
      have hs1 := (HSM.out.2 j hka).2
      have hblt : b < W.heap.size := World.block_lt_of_cell? W _ v0
      have c0 := (hbr.cell (p := ⟨b, off + j * 2, none⟩) hblt).trans v0
      have c1 := (hbr.cell (p := ⟨b, off + j * 2 + 1, none⟩) hblt).trans v1
      clear hcells hka v0 v1
      generalize hn1 : (ps.getD j no).1 = x0 at c0
      generalize hv1 : (ps.getD j no).2 = x1 at c1 hs1
      have HN1 : Hid ((ps.getD j no).1 = x0) := hn1
      have HV1 : Hid ((ps.getD j no).2 = x1) := hv1
      clear hn1 hv1
      have hb3 : Below W.heap.size W (wr.alloc (.cells #[.string x0, .string x1] 59)) := hbr.alloc hbr.size _
      by_cases hx : x0 = nm
      · have hx' : (x0.toList == nm.toList) = true := by rw [hx]; simp
        have HX : Hid (x0 = nm) := hx
        clear hx
        go_wp2_with fail
        refine (clone_any x1 _ hs1).mono ?_
        rintro e w3 ⟨rfl, hb4⟩
        have hb5 := hbw.trans ((hb3.trans (hb4.mono hb3.size)).mono hbw.size)
        clear hb4 hb3 hbr c0 c1
        go_wp2
        go_ret2
        exact ⟨.inr ⟨by omega, .inl ⟨j, by rw [← HN.out]; exact hlt, HN1.out.trans HX.out, HG.out, by rw [HV1.out]; rfl⟩⟩, hb5⟩
      · have hx' : (x0.toList == nm.toList) = false := ne_list hx
        have HX : Hid (x0 ≠ nm) := hx
        clear hx
        go_wp2
        go_roundw
        case rel => exact ⟨j + 1, by omega, by go_num, fun y hy => by by_cases hyj : y = j; subst hyj; rw [HN1.out]; exact HX.out; exact HG.out y (by omega), hb3⟩
        case measure => simp [intOf]; omega
    · go_wp2
      go_ret2
      exact ⟨.inr ⟨by omega, .inr ⟨fun y hy => HG.out y (by have := HN.out; omega), rfl⟩⟩, hbw.trans (hbr.mono hbw.size)⟩
end Go.Proofs.YtjncdnnllaoccaaGreatDoor.xa
