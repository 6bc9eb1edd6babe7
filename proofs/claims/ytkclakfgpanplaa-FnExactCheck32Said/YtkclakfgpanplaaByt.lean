/-
  Contracts of the laws' own helpers over lists of bytes: whether two lists are alike, marking a list, asking for the marks.
-/
import Derived.Test.YtkclakfgpanplaaOwn
import Derived.Test.YtkclakfgpanplaaRows
import Derived.WalkKit
import Derived.WalkLawsBesides
import Derived.Deep.QuietTactic
import Derived.BigQuiet
namespace Go.Proofs.Ytkclakfgpanplaa.ow
open Go.RowKit
set_option linter.unusedVariables false

set_option maxHeartbeats 1000000 in
set_option maxRecDepth 100000 in
theorem eqBytes_any (v u : Value) (zs ys : List Int) (w : World) (h1 : Reads .u8 w v zs) (h2 : Reads .u8 w u ys) (hz : zs.length ≤ 1048576) (hy : ys.length ≤ 1048576) :
    Calls Try.prog 11 #[v, u] w fun e w' => Says (zs = ys) e ∧ ∃ m, w' = w.drewN m := by
  obtain ⟨a, cap, rfl, h1⟩ := h1
  obtain ⟨c, cap2, rfl, h2⟩ := h2
  by_cases hne : zs.length = ys.length
  case neg =>
    have hb : ((zs.length : Int) != (ys.length : Int)) = true := by rw [bne_iff_ne]; omega
    go_enter Try.func11, Try.ntmps11
    go_wp2
    go_ret
    exact ⟨says_no (fun x => hne (congrArg List.length x)), 0, rfl⟩
  rw [← hne]
  have HNE : Hid (zs.length = ys.length) := hne
  clear hne hy
  by_cases h0 : zs = []
  · have hy0 : ys = [] := List.eq_nil_of_length_eq_zero (by rw [← HNE.out, h0]; rfl)
    have hl0 : zs.length = 0 := by rw [h0]; rfl
    rw [hl0]
    clear h1 h2
    go_enter Try.func11, Try.ntmps11
    go_wp2
    refine wp_loop_rounds 1 ?_
    rw [rounds_succ]
    go_wp2
    go_ret
    exact ⟨says_yes (by rw [h0, hy0]), 0, rfl⟩
  rcases h1 with h1 | ⟨b1, o1, rfl, h1⟩
  · exact absurd h1 h0
  rcases h2 with h2 | ⟨b2, o2, rfl, h2⟩
  · exact absurd (List.eq_nil_of_length_eq_zero (by rw [HNE.out, h2]; rfl)) h0
  rw [← HNE.out] at h2
  have H1 : Hid (∀ j, j < zs.length → w.cell? ⟨b1, o1 + j, none⟩ = some (.int .u8 (zs.getD j 0))) := h1
  have H2 : Hid (∀ j, j < zs.length → w.cell? ⟨b2, o2 + j, none⟩ = some (.int .u8 (ys.getD j 0))) := h2
  clear h1 h2
  obtain ⟨n, hn⟩ : ∃ n, n = zs.length := ⟨_, rfl⟩
  rw [← hn] at hz H1 H2 HNE ⊢
  have HN : Hid (n = zs.length) := hn
  clear hn h0
  have hnn : ((n : Int) != (n : Int)) = false := by simp
  go_enter Try.func11, Try.ntmps11
  go_wp2
  go_loopw [5] (fun i wr => ∃ k m : Nat, k ≤ n ∧ i = .int .i64 k ∧ wr = w.drewN m ∧ ∀ j, j < k → zs.getD j 0 = ys.getD j 0) (fun i _ => n - (intOf i).toNat)
  case atStart => exact ⟨0, 0, Nat.zero_le _, rfl, rfl, fun j hj => absurd hj (Nat.not_lt_zero _)⟩
  case round =>
    obtain ⟨k, m, hk, rfl, rfl, hg⟩ := hrel
    have HG : Hid (∀ j, j < k → zs.getD j 0 = ys.getD j 0) := hg
    clear hg
    by_cases hlt : k < n
    · have c1 := H1.out k hlt
      have c2 := H2.out k hlt
      have hlt' : (k : Int) < (n : Int) := by omega
      have hk0 : (0 : Int) ≤ (k : Int) := by omega
      obtain ⟨x, hx⟩ : ∃ x, x = zs.getD k 0 := ⟨_, rfl⟩
      obtain ⟨y, hy⟩ : ∃ y, y = ys.getD k 0 := ⟨_, rfl⟩
      rw [← hx] at c1
      rw [← hy] at c2
      have HX : Hid (x = zs.getD k 0) := hx
      have HY : Hid (y = ys.getD k 0) := hy
      clear hx hy
      go_wp2
      go_quiet (fail)
      go_wp2
      · go_ret
        have hxy : x ≠ y := bne_iff_ne.1 ‹_›
        exact ⟨says_no (fun e => hxy (by rw [HX.out, HY.out, e])), m + nq, by simp⟩
      · go_roundw
        have hxy : x = y := by rename_i h; simpa using h
        case rel => exact ⟨k + 1, _, by omega, by go_num, rfl, fun j hj => by
          by_cases e : j = k
          · rw [e, ← HX.out, ← HY.out, hxy]
          · exact HG.out j (by omega)⟩
        case measure => simp [intOf]; omega
    · go_wp2
      go_ret
      exact ⟨says_yes (getD_ext (by rw [← HN.out, HNE.out]) (fun j hj => HG.out j (by have := HN.out; omega))), m, rfl⟩

end Go.Proofs.Ytkclakfgpanplaa.ow
