/-
  The contract of impl.TextOfRunes at every list of numbers that can be read.
-/
import Derived.Test.YthndloempbcflaaTew
namespace Go.Proofs.Ythndloempbcflaa.ut
open Go.RowKit
set_option linter.unusedVariables false

theorem Try.infoRuneT : (Try.prog.info? 21).map (fun i => (i.zero, i.size, i.bytes)) = some (some (.int .i32 0), 1, 4) := by kernel_rfl

set_option maxHeartbeats 2000000 in
set_option maxRecDepth 100000 in
theorem implText_any (v : Value) (zs : List Int) (w : World) (h : ow.Reads .i64 w v zs) (hn : zs.length ≤ 1048576) :
    Calls Try.prog 8 #[v] w fun e w' => TextRet zs e ∧ Below w.heap.size w w' := by
  obtain ⟨a, cap, rfl, h⟩ := h
  have H1 : Hid (zs = [] ∨ ∃ b off, a = some ⟨b, off, none⟩ ∧ ∀ j, j < zs.length → w.cell? ⟨b, off + j, none⟩ = some (.int .i64 (zs.getD j 0))) := h
  clear h
  by_cases hbig : zs.length ≤ 4096
  case neg =>
    have hb : (4096 : Int) < (zs.length : Int) := by omega
    go_enter Try.func8, Try.ntmps8
    go_wp2
    go_ret2
    exact ⟨.inl ⟨by omega, rfl⟩, Below.refl _ _⟩
  have hb : (zs.length : Int) ≤ 4096 := by omega
  obtain ⟨i0, hi, hz0, hz1, hz2⟩ := info_parts Try.infoRuneT
  go_enter Try.func8, Try.ntmps8
  go_wp2_with (at_make; refine wpList_make_own _ rfl _ _ 41 rfl w.heap.size 21 i0 (.int .i32 0) 1 Try.underlying41 hi hz0 hz1 _ _ _ zs.length rfl rfl rfl (by rw [hz2]; omega) (by unfold maxLen; omega) (Nat.le_refl _) ?_; intro w1 hown1 hg1)
  have hb1 : Below w.heap.size w w1 := (Below.refl _ _).grown hg1 (Nat.le_refl _) (fun k hk => by cases hk)
  clear hg1
  go_loopw [4, 6, 15] (fun v _ i wr => ∃ k : Nat, k ≤ zs.length ∧ i = .int .i64 k ∧ wr.ownsRow w.heap.size 21 1 v k ((zs.take k).map (Value.int .i32)) ∧ Below w.heap.size w wr ∧ ∀ j, j < k → scB (zs.getD j 0) = true) (fun _ _ i _ => zs.length - (intOf i).toNat)
  case atStart => exact ⟨0, Nat.zero_le _, rfl, hown1, hb1, fun j hj => absurd hj (Nat.not_lt_zero _)⟩
  case round =>
    clear hown1 hb1
    obtain ⟨k, hk, rfl, hown, hbw, hg⟩ := hrel
    have HG : Hid (∀ j, j < k → scB (zs.getD j 0) = true) := hg
    clear hg
    have hBs := hbw.size
    by_cases hlt : k < zs.length
    · have hzne : zs ≠ [] := by intro e; rw [e] at hlt; simp at hlt
      rcases H1.out with e | ⟨b, off, rfl, hcells⟩
      · exact absurd e hzne
      clear hzne
      have c0 := hcells k hlt
      have hblt : b < w.heap.size := World.block_lt_of_cell? w _ c0
      have c1 : wr.cell? ⟨b, off + k, none⟩ = some (.int .i64 (zs.getD k 0)) := (hbw.cell (p := ⟨b, off + k, none⟩) hblt).trans c0
      clear hcells c0
      obtain ⟨x, hx⟩ : ∃ x, x = zs.getD k 0 := ⟨_, rfl⟩
      rw [← hx] at c1
      have HX : Hid (x = zs.getD k 0) := hx
      clear hx
      have hlt' : (k : Int) < (zs.length : Int) := by omega
      cases hsc : scB x
      · have hr : rsz x = 0 := (rsz_zero x).2 hsc
        go_wp2_with fail
        refine (implSize_any _ _).mono ?_
        rintro e w' ⟨rfl, rfl⟩
        rw [hr]
        go_wp2
        go_ret2
        exact ⟨.inr (.inl ⟨hbig, ⟨k, hlt, by rw [← HX.out]; exact hsc⟩, rfl⟩), hbw⟩
      · have hr : (rsz x == 0) = false := by
          rw [beq_eq_false_iff_ne]
          intro e
          rw [(rsz_zero x).1 e] at hsc
          cases hsc
        have hx0 : 0 ≤ x := by simp [scB, inB] at hsc; omega
        have hx1 : x ≤ 1114111 := by simp [scB, inB] at hsc; omega
        have HSC : Hid (scB x = true) := hsc
        clear hsc
        go_wp2_with fail
        refine (implSize_any _ _).mono ?_
        rintro e w' ⟨rfl, rfl⟩
        go_wp2_with (at_builtin; refine wpList_append_own _ rfl _ _ 41 rfl w.heap.size 21 i0 (.int .i32 0) 1 4 Try.underlying41 hi hz0 hz1 hz2 rfl (by decide) _ _ _ rfl (hown.alloc _) ⟨w'.heap.size, 0, none⟩ 1 1 [.int .i32 x] rfl rfl (ow.cells_new _ [.int .i32 x] _) (by intro u hu; simp at hu; subst hu; rfl) (by unfold maxLen; omega) (by omega) (by simp; omega) ?_; intro v' w3 hown3 hgrow3 hnil3)
        have hb3 := Below.grown (hbw.alloc hBs _) hgrow3 (by simp; omega) (ow.own_lt hown)
        have HA : Hid (w3.ownsRow w.heap.size 21 1 v' (k + 1) ((zs.take (k + 1)).map (Value.int .i32)) ∧ Below w.heap.size w w3) := by
          refine ⟨?_, hb3⟩
          rw [take_step zs k hlt, List.map_append, ← HX.out]
          exact hown3
        clear hb3 hown3 hgrow3 hnil3 hown hbw c1 hr
        go_wp2
        go_roundw
        case rel => exact ⟨k + 1, by omega, by go_num, HA.out.1, HA.out.2, fun j hj => by
          by_cases e : j = k
          · rw [e, ← HX.out]; exact HSC.out
          · exact HG.out j (by omega)⟩
        case measure => simp [intOf]; omega
    · have hcv := ow.conv_runes (P := Try.prog) (zs.take k) hown Try.underlying41 Try.underlying21 Try.underlying9
      have hkz : k = zs.length := by omega
      rw [show zs.take k = zs from by rw [hkz, List.take_length], flat_runes zs] at hcv
      obtain ⟨bs, hbs⟩ : ∃ bs : ByteArray, bs = ⟨(zs.flatMap encB).toArray⟩ := ⟨_, rfl⟩
      rw [← hbs] at hcv
      have HBS : Hid (bs = ⟨(zs.flatMap encB).toArray⟩) := hbs
      clear hbs hkz
      go_wp2
      go_ret2
      exact ⟨.inr (.inr ⟨hbig, fun j hj => HG.out j (by omega), by rw [← HBS.out]; rfl⟩), hbw⟩
end Go.Proofs.Ythndloempbcflaa.ut
