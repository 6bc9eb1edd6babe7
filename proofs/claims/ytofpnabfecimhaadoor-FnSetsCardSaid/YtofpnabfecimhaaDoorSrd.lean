/-
  The drawn text of a set is told by the code's first byte.
-/
import Derived.Test.YtofpnabfecimhaaDoorSrs
namespace Go.Proofs.YtofpnabfecimhaaDoor.se
open Go.RowKit
open sr
set_option linter.unusedVariables false

/-- The first byte of a code, 0 of an empty one. -/
def First (w : World) (a : Option Addr) (len : Nat) (r : Int) : Prop := (len = 0 ∧ r = 0) ∨ (0 < len ∧ 0 ≤ r ∧ r ≤ 255 ∧ ∃ cb off, a = some ⟨cb, off, none⟩ ∧ w.cell? ⟨cb, off, none⟩ = some (.int .u8 r))
theorem first_some {w : World} {a : Option Addr} {len : Nat} (h : Bytes w a len) : ∃ r, First w a len r := by
  rcases h.2 with h0 | ⟨cb, off, rfl, hc⟩
  · exact ⟨0, .inl ⟨h0, rfl⟩⟩
  · by_cases h0 : len = 0
    · exact ⟨0, .inl ⟨h0, rfl⟩⟩
    · obtain ⟨z, z0, z1, hz⟩ := hc 0 (by omega)
      exact ⟨z, .inr ⟨by omega, z0, z1, cb, off, rfl, hz⟩⟩
theorem first_below {w w' : World} {a : Option Addr} {len : Nat} {r : Int} (h : First w a len r) (hb : Below w.heap.size w w') : First w' a len r := by
  rcases h with h | ⟨h0, h1, h2, cb, off, rfl, hc⟩
  · exact .inl h
  · exact .inr ⟨h0, h1, h2, cb, off, rfl, (hb.cell (p := ⟨cb, off, none⟩) (World.block_lt_of_cell? w _ hc)).trans hc⟩
theorem first_bounds {w : World} {a : Option Addr} {len : Nat} {r : Int} (h : First w a len r) : 0 ≤ r ∧ r ≤ 255 := by
  rcases h with ⟨_, rfl⟩ | ⟨_, h1, h2, _⟩
  · omega
  · exact ⟨h1, h2⟩

set_option maxHeartbeats 2000000 in
theorem byte_none (w : World) (b : Nat) (a : Option Addr) (cap : Nat) (hs : Src w b a 0 cap 0 0) :
    Calls Tryd.prog 70 #[.pointer (some ⟨b, 0, none⟩)] w fun e w' => e = .returned (.int .i64 0) ∧ w.grownBy w' (some b) := by
  have c0 := hs.c0
  have c1 := hs.c1
  have c2 := hs.c2
  have f1 := hs.f 1
  have f2 := hs.f 2
  clear hs
  go_enter Tryd.func70, Tryd.ntmps70
  go_wp2
  go_quiet (fail)
  go_wp2
  go_ret
  exact ⟨rfl, grown_d2 _ _ _ _ _⟩
set_option maxHeartbeats 2000000 in
theorem byte_first (w : World) (b cb off : Nat) (len cap : Nat) (sd z : Int) (hs : Src w b (some ⟨cb, off, none⟩) len cap 0 sd) (hx : 0 < len) (hl : len ≤ 1048576) (s0 : 0 ≤ sd) (s1 : sd < 2147483648)
    (hne : cb ≠ b) (hz : w.cell? ⟨cb, off, none⟩ = some (.int .u8 z)) (z0 : 0 ≤ z) (z1 : z ≤ 255) :
    Calls Tryd.prog 70 #[.pointer (some ⟨b, 0, none⟩)] w fun e w' => e = .returned (.int .i64 z) ∧ w.grownBy w' (some b) := by
  have c0 := hs.c0
  have c1 := hs.c1
  have c2 := hs.c2
  have f1 := hs.f 1
  have f2 := hs.f 2
  clear hs
  have hx' : (1 : Int) ≤ (len : Int) := by omega
  have hx2 : (0 : Int) < (len : Int) := by omega
  go_enter Tryd.func70, Tryd.ntmps70
  go_wp2
  go_quiet (fail)
  go_wp2
  go_region
  all_goals go_wp2
  all_goals go_quiet (fail)
  all_goals go_wp2
  all_goals go_ret
  all_goals exact ⟨rfl, grown_d3 _ _ _ _ _ _⟩
theorem byte_det (w : World) (b : Nat) (a : Option Addr) (len cap : Nat) (r : Int) (hs : Src w b a len cap 0 ((len : Int) % 1000)) (hf : First w a len r) (hl : len ≤ 1048576) (hb : 0 < len → ∀ cb off, a = some ⟨cb, off, none⟩ → cb ≠ b) :
    Calls Tryd.prog 70 #[.pointer (some ⟨b, 0, none⟩)] w fun e w' => e = .returned (.int .i64 r) ∧ w.grownBy w' (some b) := by
  rcases hf with ⟨rfl, rfl⟩ | ⟨h0, h1, h2, cb, off, rfl, hc⟩
  · exact byte_none w b a cap hs
  · exact byte_first w b cb off len cap _ r hs h0 hl (Int.emod_nonneg _ (by omega)) (by have := Int.emod_lt_of_pos (len : Int) (show (0 : Int) < 1000 by omega); omega) (hb h0 cb off rfl) hc h1 h2
theorem next_det (w : World) (b : Nat) (a : Option Addr) (len cap : Nat) (r : Int) (hs : Src w b a len cap 0 ((len : Int) % 1000)) (hf : First w a len r) (hl : len ≤ 1048576) (hb : 0 < len → ∀ cb off, a = some ⟨cb, off, none⟩ → cb ≠ b) :
    Calls Tryd.prog 59 #[.pointer (some ⟨b, 0, none⟩), .int .i64 9] w fun e w' => e = .returned (.int .i64 (r % 9)) ∧ w.grownBy w' (some b) := by
  have hr := first_bounds hf
  go_enter Tryd.func59, Tryd.ntmps59
  go_wp2_with fail
  refine (byte_det _ b a len cap r hs hf hl hb).mono ?_
  rintro e w1 ⟨rfl, hg⟩
  have HG : Hid (w.grownBy w1 (some b)) := hg
  clear hg hs hf
  go_wp2
  go_ret
  exact ⟨rfl, HG.out⟩
def drawn (r : Int) : ByteArray := setL.getD (r % 9).toNat ⟨#[]⟩
theorem drawn_mem (r : Int) : drawn r ∈ setL := by
  have h9 : (r % 9).toNat < setL.length := by
    have h1 := Int.emod_nonneg r (show (9 : Int) ≠ 0 by omega)
    have h2 := Int.emod_lt_of_pos r (show (0 : Int) < 9 by omega)
    show (r % 9).toNat < 9
    omega
  unfold drawn
  rw [List.getD_eq_getElem?_getD, List.getElem?_eq_getElem h9]
  exact List.getElem_mem _
set_option maxRecDepth 100000 in
theorem pick_det (w : World) (b : Nat) (a : Option Addr) (len cap lb : Nat) (r : Int) (hs : Src w b a len cap 0 ((len : Int) % 1000)) (hf : First w a len r) (hl : len ≤ 1048576) (hb : 0 < len → ∀ cb off, a = some ⟨cb, off, none⟩ → cb ≠ b) (hne : lb ≠ b)
    (hcell : ∀ j, j < 9 → w.cell? ⟨lb, j, none⟩ = some (.string (setL.getD j ⟨#[]⟩))) :
    Calls Tryd.prog 42 #[.pointer (some ⟨b, 0, none⟩), .slice (some ⟨lb, 0, none⟩) 9 9] w fun e w' => e = .returned (.string (drawn r)) ∧ w.grownBy w' (some b) := by
  go_enter Tryd.func42, Tryd.ntmps42
  go_wp2_with fail
  refine (next_det w b a len cap r hs hf hl hb).mono ?_
  rintro e w1 ⟨rfl, hg1⟩
  have h1 := Int.emod_nonneg r (show (9 : Int) ≠ 0 by omega)
  have h2 := Int.emod_lt_of_pos r (show (0 : Int) < 9 by omega)
  have HD : Hid (drawn r = setL.getD (r % 9).toNat ⟨#[]⟩) := rfl
  obtain ⟨k, hk⟩ : ∃ k : Nat, r % 9 = (k : Int) := ⟨(r % 9).toNat, by omega⟩
  rw [hk] at h1 h2 HD ⊢
  have hc := hg1.cell (hcell k (by omega)) (fun e => hne (by simpa using e))
  have HG : Hid (w.grownBy w1 (some b)) := hg1
  generalize hX : setL.getD k ⟨#[]⟩ = X at hc
  have HX : Hid (drawn r = X) := by rw [HD.out]; show setL.getD k ⟨#[]⟩ = X; exact hX
  clear hcell hg1 hs hf hX HD hk
  go_wp2
  go_ret
  exact ⟨by rw [HX.out]; rfl, HG.out⟩
set_option maxHeartbeats 2000000 in
set_option maxRecDepth 100000 in
theorem setText_det (w : World) (b : Nat) (a : Option Addr) (len cap : Nat) (r : Int) (hs : Src w b a len cap 0 ((len : Int) % 1000)) (hf : First w a len r) (hl : len ≤ 1048576) (hb : 0 < len → ∀ cb off, a = some ⟨cb, off, none⟩ → cb ≠ b) :
    Calls Tryd.prog 25 #[.pointer (some ⟨b, 0, none⟩)] w fun e w' => e = .returned (.string (drawn r)) ∧ w.grownBy w' (some b) := by
  have hbw : b < w.heap.size := (Array.getElem?_eq_some_iff.1 hs).1
  have hga : w.grownBy (w.alloc (.cells (setL.map Value.string).toArray 9)) (some b) := World.grownBy_alloc _ _ _
  have hsa : Src (w.alloc (.cells (setL.map Value.string).toArray 9)) b a len cap 0 ((len : Int) % 1000) := src_keep hs (World.grownBy_alloc _ _ none) (by simp)
  have hfa := first_below hf ((Below.refl w.heap.size w).alloc (Nat.le_refl _) (.cells (setL.map Value.string).toArray 9))
  have hp := pick_det (w.alloc (.cells (setL.map Value.string).toArray 9)) b a len cap w.heap.size r hsa hfa hl hb (by omega) (fun j hj => by
    rw [cell_of_row _ _ _ _ _ _ (MapKept.heap_alloc w _).1]
    have hj' : j < setL.length := hj
    simp [List.getD_eq_getElem?_getD, hj'])
  have HL : Hid (Calls Tryd.prog 42 #[.pointer (some ⟨b, 0, none⟩), .slice (some ⟨w.heap.size, 0, none⟩) 9 9] (w.alloc (.cells (setL.map Value.string).toArray 9)) fun e w' => e = .returned (.string (drawn r)) ∧ w.grownBy w' (some b)) := hp.mono fun e w' ⟨he, hg⟩ => ⟨he, ow.grown_trans hga hg⟩
  clear hp hsa hfa hga hs hf
  go_enter Tryd.func25, Tryd.ntmps25
  go_wp2_with fail
  refine HL.out.mono ?_
  rintro e w' ⟨rfl, hg⟩
  have HG : Hid (w.grownBy w' (some b)) := hg
  clear hg HL
  go_wp2
  go_ret
  exact ⟨rfl, HG.out⟩
set_option maxHeartbeats 2000000 in
set_option maxRecDepth 100000 in
theorem setTextOf_det (w : World) (a : Option Addr) (len cap : Nat) (r : Int) (hl : len ≤ 1048576) (hf : First w a len r) :
    Calls Tryd.prog 10 #[.slice a len cap] w fun e w' => e = .returned (.string (drawn r)) ∧ Below w.heap.size w w' := by
  have hbne : 0 < len → ∀ cb off, a = some ⟨cb, off, none⟩ → cb ≠ w.heap.size := by
    intro h0 cb off e
    rcases hf with ⟨h1, _⟩ | ⟨_, _, _, cb', off', e', hc⟩
    · omega
    · rw [e] at e'
      cases e'
      have := World.block_lt_of_cell? w _ hc
      simp at this
      omega
  have b0 : Below w.heap.size w (started w a len cap) := (Below.refl _ _).alloc (Nat.le_refl _) _
  have hz : w.heap.size < (started w a len cap).heap.size := by unfold started; simp
  have HT : Hid (Calls Tryd.prog 25 #[.pointer (some ⟨w.heap.size, 0, none⟩)] (started w a len cap) fun e w' => e = .returned (.string (drawn r)) ∧ (started w a len cap).grownBy w' (some w.heap.size)) := setText_det _ _ _ _ _ r (src_started w a len cap) (first_below hf b0) hl hbne
  clear hf hbne
  go_enter Tryd.func10, Tryd.ntmps10
  go_wp2_with fail
  refine (source_any w a len cap hl).mono ?_
  rintro e w1 ⟨rfl, hw1⟩
  rw [← hw1] at HT b0 hz
  clear hw1
  go_wp2_with fail
  refine HT.out.mono ?_
  rintro e w2 ⟨rfl, hg⟩
  have b2 : Below w.heap.size w w2 := b0.grown hg (by omega) (fun k hk => by simp at hk; omega)
  clear HT hg
  go_wp2
  go_ret
  exact ⟨rfl, b2⟩
end Go.Proofs.YtofpnabfecimhaaDoor.se
