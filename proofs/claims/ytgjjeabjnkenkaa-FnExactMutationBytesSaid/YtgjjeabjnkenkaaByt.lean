/-
  Contracts of the laws' own helpers over lists of bytes: whether two lists are alike, marking a list, asking for the marks.
-/
import Derived.Test.YtgjjeabjnkenkaaOwn
import Derived.Test.YtgjjeabjnkenkaaRows
import Derived.WalkKit
import Derived.WalkLawsBesides
import Derived.Deep.QuietTactic
import Derived.BigQuiet
namespace Go.Proofs.Ytgjjeabjnkenkaa.ow
open Go.RowKit
set_option linter.unusedVariables false

set_option maxHeartbeats 1000000 in
set_option maxRecDepth 100000 in
theorem eqBytes_any (v u : Value) (zs ys : List Int) (w : World) (h1 : Reads .u8 w v zs) (h2 : Reads .u8 w u ys) (hz : zs.length ≤ 1048576) (hy : ys.length ≤ 1048576) :
    Calls Try.prog 22 #[v, u] w fun e w' => Says (zs = ys) e ∧ ∃ m, w' = w.drewN m := by
  obtain ⟨a, cap, rfl, h1⟩ := h1
  obtain ⟨c, cap2, rfl, h2⟩ := h2
  by_cases hne : zs.length = ys.length
  case neg =>
    have hb : ((zs.length : Int) != (ys.length : Int)) = true := by rw [bne_iff_ne]; omega
    go_enter Try.func22, Try.ntmps22
    go_wp2
    go_ret
    exact ⟨says_no (fun x => hne (congrArg List.length x)), 0, rfl⟩
  rw [← hne]
  have HNE : Hid (zs.length = ys.length) := hne
  clear hne hy
  by_cases h0 : zs = []
  · have hy0 : ys = [] := List.eq_nil_of_length_eq_zero (by rw [← HNE.out, h0]; rfl)
    have hl0 : zs.length = 0 := by rw [h0]; rfl
    rw [hl0]
    clear h1 h2
    go_enter Try.func22, Try.ntmps22
    go_wp2
    refine wp_loop_rounds 1 ?_
    rw [rounds_succ]
    go_wp2
    go_ret
    exact ⟨says_yes (by rw [h0, hy0]), 0, rfl⟩
  rcases h1 with h1 | ⟨b1, o1, rfl, h1⟩
  · exact absurd h1 h0
  rcases h2 with h2 | ⟨b2, o2, rfl, h2⟩
  · exact absurd (List.eq_nil_of_length_eq_zero (by rw [HNE.out, h2]; rfl)) h0
  rw [← HNE.out] at h2
  have H1 : Hid (∀ j, j < zs.length → w.cell? ⟨b1, o1 + j, none⟩ = some (.int .u8 (zs.getD j 0))) := h1
  have H2 : Hid (∀ j, j < zs.length → w.cell? ⟨b2, o2 + j, none⟩ = some (.int .u8 (ys.getD j 0))) := h2
  clear h1 h2
  obtain ⟨n, hn⟩ : ∃ n, n = zs.length := ⟨_, rfl⟩
  rw [← hn] at hz H1 H2 HNE ⊢
  have HN : Hid (n = zs.length) := hn
  clear hn h0
  have hnn : ((n : Int) != (n : Int)) = false := by simp
  go_enter Try.func22, Try.ntmps22
  go_wp2
  go_loopw [5] (fun i wr => ∃ k m : Nat, k ≤ n ∧ i = .int .i64 k ∧ wr = w.drewN m ∧ ∀ j, j < k → zs.getD j 0 = ys.getD j 0) (fun i _ => n - (intOf i).toNat)
  case atStart => exact ⟨0, 0, Nat.zero_le _, rfl, rfl, fun j hj => absurd hj (Nat.not_lt_zero _)⟩
  case round =>
    obtain ⟨k, m, hk, rfl, rfl, hg⟩ := hrel
    have HG : Hid (∀ j, j < k → zs.getD j 0 = ys.getD j 0) := hg
    clear hg
    by_cases hlt : k < n
    · have c1 := H1.out k hlt
      have c2 := H2.out k hlt
      have hlt' : (k : Int) < (n : Int) := by omega
      have hk0 : (0 : Int) ≤ (k : Int) := by omega
      obtain ⟨x, hx⟩ : ∃ x, x = zs.getD k 0 := ⟨_, rfl⟩
      obtain ⟨y, hy⟩ : ∃ y, y = ys.getD k 0 := ⟨_, rfl⟩
      rw [← hx] at c1
      rw [← hy] at c2
      have HX : Hid (x = zs.getD k 0) := hx
      have HY : Hid (y = ys.getD k 0) := hy
      clear hx hy
      go_wp2
      go_quiet (fail)
      go_wp2
      · go_ret
        have hxy : x ≠ y := bne_iff_ne.1 ‹_›
        exact ⟨says_no (fun e => hxy (by rw [HX.out, HY.out, e])), m + nq, by simp⟩
      · go_roundw
        have hxy : x = y := by rename_i h; simpa using h
        case rel => exact ⟨k + 1, _, by omega, by go_num, rfl, fun j hj => by
          by_cases e : j = k
          · rw [e, ← HX.out, ← HY.out, hxy]
          · exact HG.out j (by omega)⟩
        case measure => simp [intOf]; omega
    · go_wp2
      go_ret
      exact ⟨says_yes (getD_ext (by rw [← HN.out, HNE.out]) (fun j hj => HG.out j (by have := HN.out; omega))), m, rfl⟩

/-- The numbers of a list rise from k by one. -/
def MarksB (k : Int) (ys : List Int) (n : Nat) : Prop := ∀ j, j < n → ys.getD j 0 = (k + (j : Int)) % 256

set_option maxHeartbeats 1000000 in
set_option maxRecDepth 100000 in
theorem markB_any (v : Value) (n base : Nat) (xs : List Int) (k0 : Int) (w : World) (h : w.ownsRow base 5 1 v n (xs.map (Value.int .u8))) (hn : n ≤ 1048576) (hk0 : 0 ≤ k0) (hk1 : k0 ≤ 1048576) :
    Calls Try.prog 23 #[v, .int .i64 k0] w fun e w' => e = .returned (.int .i64 (k0 + n)) ∧ (∃ ys : List Int, ys.length = n ∧ MarksB k0 ys n ∧ w'.ownsRow base 5 1 v n (ys.map (Value.int .u8))) ∧ w.grownBy w' v.ownBlock := by
  rcases h.2 with ⟨rfl, rfl⟩ | ⟨g, cap, cur, rfl, _⟩
  · go_enter Try.func23, Try.ntmps23
    go_wp2
    refine wp_loop_rounds 1 ?_
    rw [rounds_succ]
    go_wp2
    go_ret
    exact ⟨by simp, ⟨xs, by have := h.1; simpa using this, fun j hj => absurd hj (Nat.not_lt_zero _), h⟩, grown_refl _ _⟩
  go_enter Try.func23, Try.ntmps23
  go_wp2
  go_loopw [1, 5] (fun q i wr => ∃ (k : Nat) (ys : List Int), k ≤ n ∧ i = .int .i64 k ∧ q = .int .i64 (k0 + k) ∧ ys.length = n ∧ MarksB k0 ys k ∧ wr.ownsRow base 5 1 (.slice (some ⟨g, 0, none⟩) n cap) n (ys.map (Value.int .u8)) ∧ w.grownBy wr (some g)) (fun _ i _ => n - (intOf i).toNat)
  case atStart => exact ⟨0, xs, Nat.zero_le _, rfl, by simp, by have := h.1; simpa using this, fun j hj => absurd hj (Nat.not_lt_zero _), h, grown_refl _ _⟩
  case round =>
    obtain ⟨k, ys, hk, rfl, rfl, hyl, hm, hown, hg⟩ := hrel
    have HM : Hid (MarksB k0 ys k) := hm
    have HL : Hid (ys.length = n) := hyl
    clear hm hyl h
    by_cases hlt : k < n
    · have hc := hown.cellAt k (by omega)
      have hyk : (ys.map (Value.int .u8))[k]? = some (.int .u8 (ys.getD k 0)) := by have := HL.out; simp [show k < ys.length from by omega]
      rw [hyk] at hc
      have hf := hown.frozenAt k
      have hst := hown.stored k (.int .u8 ((k0 + k) % 256))
      rw [← List.map_set] at hst
      have HS : Hid ((wr.setCell ⟨g, k, none⟩ (.int .u8 ((k0 + k) % 256))).ownsRow base 5 1 (.slice (some ⟨g, 0, none⟩) n cap) n ((ys.set k ((k0 + k) % 256)).map (Value.int .u8)) ∧ w.grownBy (wr.setCell ⟨g, k, none⟩ (.int .u8 ((k0 + k) % 256))) (some g)) := ⟨hst.1, grown_trans hg hst.2⟩
      clear hst hg hown hyk
      have hlt' : (k : Int) < (n : Int) := by omega
      go_wp2
      go_roundw
      case rel => exact ⟨k + 1, ys.set k ((k0 + k) % 256), by omega, by go_num, by go_num, by rw [List.length_set]; exact HL.out, fun j hj => by
          have hl := HL.out
          by_cases e : j = k
          · subst e
            simp [List.getD_eq_getElem?_getD, show j < ys.length from by omega]
          · have := HM.out j (by omega)
            rw [List.getD_eq_getElem?_getD] at this ⊢
            rw [List.getElem?_set_ne (by omega)]
            exact this, HS.out.1, HS.out.2⟩
      case measure => simp [intOf]; omega
    · have hkn : k = n := by omega
      subst hkn
      go_wp2
      go_ret
      exact ⟨rfl, ⟨ys, HL.out, HM.out, hown⟩, hg⟩

set_option maxHeartbeats 1000000 in
set_option maxRecDepth 100000 in
theorem heldB_any (v : Value) (ys : List Int) (k0 : Int) (w : World) (h : Reads .u8 w v ys) (hm : MarksB k0 ys ys.length) (hn : ys.length ≤ 1048576) (hk0 : 0 ≤ k0) (hk1 : k0 ≤ 1048576) :
    Calls Try.prog 24 #[v, .int .i64 k0] w fun e w' => e = .returned (.int .i64 (k0 + ys.length)) ∧ w' = w := by
  obtain ⟨a, cap, rfl, h⟩ := h
  have HM : Hid (MarksB k0 ys ys.length) := hm
  clear hm
  by_cases h0 : ys = []
  · subst h0
    clear h
    go_enter Try.func24, Try.ntmps24
    go_wp2
    refine wp_loop_rounds 1 ?_
    rw [rounds_succ]
    go_wp2
    go_ret
    exact ⟨by simp, rfl⟩
  rcases h with h | ⟨b, off, rfl, h⟩
  · exact absurd h h0
  have H1 : Hid (∀ j, j < ys.length → w.cell? ⟨b, off + j, none⟩ = some (.int .u8 (ys.getD j 0))) := h
  clear h h0
  obtain ⟨n, hn'⟩ : ∃ n, n = ys.length := ⟨_, rfl⟩
  rw [← hn'] at H1 HM hn ⊢
  clear hn'
  go_enter Try.func24, Try.ntmps24
  go_wp2
  go_loop [1, 5] (fun q i => ∃ (k : Nat), k ≤ n ∧ i = .int .i64 k ∧ q = .int .i64 (k0 + k)) (fun _ i => n - (intOf i).toNat)
  case atStart => exact ⟨0, Nat.zero_le _, rfl, by simp⟩
  case round =>
    obtain ⟨k, hk, rfl, rfl⟩ := hrel
    by_cases hlt : k < n
    · have hc := H1.out k hlt
      rw [HM.out k hlt] at hc
      have hlt' : (k : Int) < (n : Int) := by omega
      go_wp2
      go_round
      case rel => exact ⟨k + 1, by omega, by go_num, by go_num⟩
      case measure => simp [intOf]; omega
    · have hkn : k = n := by omega
      subst hkn
      go_wp2
      go_ret
      exact ⟨rfl, rfl⟩
end Go.Proofs.Ytgjjeabjnkenkaa.ow
