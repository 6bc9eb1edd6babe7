/-
  The contract of the laws' helper that copies a list of bytes: a new list of the same bytes.
-/
import Derived.Test.YtgjjeabjnkenkaaByt
namespace Go.Proofs.Ytgjjeabjnkenkaa.ow
open Go.RowKit
set_option linter.unusedVariables false

theorem Try.infoByt : (Try.prog.info? 5).map (fun i => (i.zero, i.size, i.bytes)) = some (some (.int .u8 0), 1, 1) := by kernel_rfl

theorem getD_set {ys : List Int} {k : Nat} {x : Int} (h : k < ys.length) (j : Nat) : (ys.set k x).getD j 0 = if j = k then x else ys.getD j 0 := by
  by_cases e : j = k
  · subst e
    simp [List.getD_eq_getElem?_getD, h]
  · rw [if_neg e, List.getD_eq_getElem?_getD, List.getD_eq_getElem?_getD, List.getElem?_set_ne (by omega)]

set_option maxHeartbeats 1000000 in
set_option maxRecDepth 100000 in
theorem toBytes_any (v : Value) (zs : List Int) (w : World) (h : Reads .u8 w v zs) (hn : zs.length ≤ 1048576) :
    Calls Try.prog 26 #[v] w fun e w' => ∃ v', e = .returned v' ∧ w'.ownsRow w.heap.size 5 1 v' zs.length (zs.map (Value.int .u8)) ∧ Below w.heap.size w w' := by
  obtain ⟨a, cap, rfl, h⟩ := h
  obtain ⟨i0, hi, hz0, hz1, hz2⟩ := info_parts Try.infoByt
  have H1 : Hid (zs = [] ∨ ∃ b off, a = some ⟨b, off, none⟩ ∧ ∀ j, j < zs.length → w.cell? ⟨b, off + j, none⟩ = some (.int .u8 (zs.getD j 0))) := h
  clear h
  obtain ⟨n, hn'⟩ : ∃ n, n = zs.length := ⟨_, rfl⟩
  rw [← hn'] at hn ⊢
  have HN : Hid (n = zs.length) := hn'
  clear hn'
  go_enter Try.func26, Try.ntmps26
  go_wp2_with (at_make; refine wpList_make_full _ rfl _ _ 43 rfl w.heap.size 5 i0 (.int .u8 0) 1 Try.underlying43 hi hz0 hz1 _ _ _ _ n rfl rfl rfl rfl (by rw [hz2]; omega) (by unfold maxLen; omega) (Nat.le_refl _) ?_; intro w1 hown1 hg1)
  have hb1 : Below w.heap.size w w1 := (Below.refl _ _).grown hg1 (Nat.le_refl _) (fun k hk => by cases hk)
  have hrep : (madeCells (Value.cells (.int .u8 0)) (n * 1)).toList = (List.replicate n (0 : Int)).map (Value.int .u8) := by
    rw [Nat.mul_one, List.map_replicate]
    exact toList_madeCells_one _ _
  rw [hrep] at hown1
  clear hg1 hrep
  go_loopw [4] (fun i wr => ∃ (k : Nat) (ys : List Int), k ≤ n ∧ i = .int .i64 k ∧ ys.length = n ∧ (∀ j, j < k → ys.getD j 0 = zs.getD j 0) ∧ wr.ownsRow w.heap.size 5 1 (.slice (some ⟨w.heap.size, 0, none⟩) n n) n (ys.map (Value.int .u8)) ∧ Below w.heap.size w wr) (fun i _ => n - (intOf i).toNat)
  case atStart => exact ⟨0, List.replicate n 0, Nat.zero_le _, rfl, List.length_replicate, fun j hj => absurd hj (Nat.not_lt_zero _), hown1, hb1⟩
  case round =>
    clear hown1 hb1
    obtain ⟨k, ys, hk, rfl, hyl, hm, hown, hbw⟩ := hrel
    have HM : Hid (∀ j, j < k → ys.getD j 0 = zs.getD j 0) := hm
    have HL : Hid (ys.length = n) := hyl
    clear hm hyl
    by_cases hlt : k < n
    · have hzne : zs ≠ [] := by
        intro e
        have := HN.out
        rw [e] at this
        simp at this
        omega
      rcases H1.out with e | ⟨b, off, rfl, hcells⟩
      · exact absurd e hzne
      clear hzne
      have c0 := hcells k (by rw [← HN.out]; exact hlt)
      have hblt : b < w.heap.size := World.block_lt_of_cell? w _ c0
      have c1 : wr.cell? ⟨b, off + k, none⟩ = some (.int .u8 (zs.getD k 0)) := (hbw.cell (p := ⟨b, off + k, none⟩) hblt).trans c0
      clear hcells c0
      have hc := hown.cellAt k (by omega)
      have hyk : (ys.map (Value.int .u8))[k]? = some (.int .u8 (ys.getD k 0)) := by have := HL.out; simp [show k < ys.length from by omega]
      rw [hyk] at hc
      obtain ⟨x, hx⟩ : ∃ x, x = zs.getD k 0 := ⟨_, rfl⟩
      rw [← hx] at c1
      have HX : Hid (x = zs.getD k 0) := hx
      clear hx
      have hf := hown.frozenAt k
      have hst := hown.stored k (.int .u8 x)
      rw [← List.map_set] at hst
      have HS : Hid ((wr.setCell ⟨w.heap.size, k, none⟩ (.int .u8 x)).ownsRow w.heap.size 5 1 (.slice (some ⟨w.heap.size, 0, none⟩) n n) n ((ys.set k x).map (Value.int .u8)) ∧ Below w.heap.size w (wr.setCell ⟨w.heap.size, k, none⟩ (.int .u8 x))) := ⟨hst.1, hbw.setCell (Nat.le_refl _) _⟩
      clear hst hbw hown hyk
      have hlt' : (k : Int) < (n : Int) := by omega
      go_wp2
      go_roundw
      case rel => exact ⟨k + 1, ys.set k x, by omega, by go_num, by rw [List.length_set]; exact HL.out, fun j hj => by
          rw [getD_set (by rw [HL.out]; exact hlt)]
          by_cases e : j = k
          · rw [if_pos e, HX.out, e]
          · rw [if_neg e]; exact HM.out j (by omega), HS.out.1, HS.out.2⟩
      case measure => simp [intOf]; omega
    · have hyz : ys = zs := getD_ext (by rw [HL.out, HN.out]) (fun j hj => HM.out j (by have := HL.out; omega))
      subst hyz
      go_wp2
      go_ret
      exact ⟨_, rfl, hown, hbw⟩
end Go.Proofs.Ytgjjeabjnkenkaa.ow
