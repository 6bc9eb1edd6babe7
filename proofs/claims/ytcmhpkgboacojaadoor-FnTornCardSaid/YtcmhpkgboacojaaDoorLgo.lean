/-
  Both LogRecords functions.
-/
import Derived.Test.YtcmhpkgboacojaaDoorLgn
namespace Go.Proofs.YtcmhpkgboacojaaDoor.lg
open Go.RowKit
open er
open ky (OwnT TextsAt own_texts texts_below)
set_option linter.unusedVariables false

set_option maxHeartbeats 1000000 in
set_option maxRecDepth 100000 in
theorem codeOfLog_any (p code : Nat) (w : World) (c b : Addr) (ca cb : Array Value) (ta tb : TypeId) (hE : Errs w c b ca cb ta tb) (hcd : code = 0 ∨ code = 18 ∨ code = 8) :
    Calls Tryd.prog 30 #[fault c b p code] w fun e w' => e = .returned (.int .i64 code) ∧ Below w.heap.size w w' := by
  have HE : Hid (Errs w c b ca cb ta tb) := hE
  have hc := hE.hc
  clear hE
  unfold EV at hc
  rcases hcd with rfl | rfl | rfl
  · show Calls Tryd.prog 30 #[.nilIface] w fun e w' => e = .returned (.int .i64 ((0 : Nat) : Int)) ∧ Below w.heap.size w w'
    go_enter Tryd.func30, Tryd.ntmps30
    go_wp2_with fail
    refine (is_nil c w).mono ?_
    rintro e w2 ⟨rfl, k2⟩
    have hw2 := (HE.out.keep k2).hw
    unfold EV at hw2
    go_wp2_with fail
    refine (is_nil b w2).mono ?_
    rintro e w3 ⟨rfl, k3⟩
    go_wp2
    go_ret
    exact ⟨rfl, k2.trans (k3.mono k2.size)⟩
  · show Calls Tryd.prog 30 #[FV p (EV c)] w fun e w' => e = .returned (.int .i64 ((18 : Nat) : Int)) ∧ Below w.heap.size w w'
    have H1 : Hid _ := is_same p c w
    unfold FV EV at H1 ⊢
    go_enter Tryd.func30, Tryd.ntmps30
    go_wp2_with fail
    refine Calls.mono H1.out ?_
    rintro e w2 ⟨rfl, k2⟩
    go_wp2
    go_ret
    exact ⟨rfl, k2⟩
  · show Calls Tryd.prog 30 #[FV p (EV b)] w fun e w' => e = .returned (.int .i64 ((8 : Nat) : Int)) ∧ Below w.heap.size w w'
    have H1 : Hid _ := is_other p b c cb ca tb ta w (Ne.symm HE.out.hne) HE.out.hb HE.out.ha
    have H2 : Hid _ := fun W => is_same p b W
    unfold FV EV at H1 H2 ⊢
    go_enter Tryd.func30, Tryd.ntmps30
    go_wp2_with fail
    refine Calls.mono H1.out ?_
    rintro e w2 ⟨rfl, k2⟩
    have hw2 := (HE.out.keep k2).hw
    unfold EV at hw2
    go_wp2_with fail
    refine (H2.out w2).mono ?_
    rintro e w3 ⟨rfl, k3⟩
    go_wp2
    go_ret
    exact ⟨rfl, k2.trans (k3.mono k2.size)⟩

/-- What LogRecords answers: the records, how many bytes these are, what is behind. -/
def recR (r : Int) (d : ByteArray) (s : Int) : List ByteArray × Nat × Nat := if ok r d.size s = true then recs d else ([], 0, 1)
theorem recR_len (r : Int) (d : ByteArray) (s : Int) : (recR r d s).1.length ≤ d.size := by
  unfold recR
  split
  · exact (recs_le d).2.1
  · exact Nat.zero_le _

set_option maxHeartbeats 1000000 in
set_option maxRecDepth 100000 in
theorem impl_recs (r : Int) (d : ByteArray) (s : Int) (w : World) (c b : Addr) (ca cb : Array Value) (ta tb : TypeId) (hr : In r) (hd : d.size ≤ 1048576) (hs : In s) (hE : Errs w c b ca cb ta tb) :
    Calls Tryd.prog 10 #[LV r d s] w fun e w' => (∃ v, e = .returned (.tuple #[v, .int .i64 (recR r d s).2.1, .int .i64 (recR r d s).2.2]) ∧ OwnT w' w.heap.size v (recR r d s).1) ∧ Below w.heap.size w w' := by
  have A1 := b3_new w 28 (.int .i64 r) (.string d) (.int .i64 s)
  have b1 := new_below w 28 #[.int .i64 r, .string d, .int .i64 s]
  have HO := fun W => impl_ok r d s W hr (Nat.le_trans hd (by unfold maxLen; omega)) hs
  have HE : Hid (Errs w c b ca cb ta tb) := hE
  clear hE hr hs
  unfold recR LV
  by_cases ho : ok r d.size s = true
  · rw [if_pos ho]
    rw [ho] at HO
    have HO' : Hid _ := HO
    have hcd := (recs_le d).2.2
    have HR : Hid (∀ W, Errs W c b ca cb ta tb → Calls Tryd.prog 29 #[.string d] W fun e w' => (∃ v, e = .returned (.tuple #[v, .int .i64 (recs d).2.1, fault c b (recs d).2.1 (recs d).2.2]) ∧ OwnT w' W.heap.size v (recs d).1) ∧ Below W.heap.size W w') := fun W hW => recordsOf_any d W c b ca cb ta tb hd hW
    have HC : Hid (∀ W, Errs W c b ca cb ta tb → Calls Tryd.prog 30 #[fault c b (recs d).2.1 (recs d).2.2] W fun e w' => e = .returned (.int .i64 (recs d).2.2) ∧ Below W.heap.size W w') := fun W hW => codeOfLog_any (recs d).2.1 (recs d).2.2 W c b ca cb ta tb hW hcd
    clear HO ho hcd
    obtain ⟨⟨L, P, Q⟩, hRR⟩ : ∃ R, recs d = R := ⟨_, rfl⟩
    rw [hRR] at HR HC ⊢
    clear hRR
    simp only at HR HC ⊢
    generalize fault c b P Q = FF at HR HC
    go_enter Tryd.func10, Tryd.ntmps10
    go_wp2_with fail
    generalize w.alloc _ = w1 at A1 b1 ⊢
    refine (HO'.out w1).mono ?_
    rintro e w2 ⟨rfl, k2⟩
    have A2 := A1.keep k2
    have b2 := b1.trans (k2.mono b1.size)
    clear A1 k2 b1
    have a1 := A2.c1
    go_wp2_with fail
    refine (HR.out w2 (HE.out.keep b2)).mono ?_
    rintro e w3 ⟨⟨v, rfl, own3⟩, k3⟩
    have b3 := b2.trans (k3.mono b2.size)
    have hB2 := b2.size
    clear k3 A2 a1 HR
    go_wp2_with fail
    refine (HC.out w3 (HE.out.keep b3)).mono ?_
    rintro e w4 ⟨rfl, k4⟩
    go_wp2
    go_ret3
    exact ⟨⟨_, rfl, ow.own_base (ow.own_below own3 k4) hB2⟩, b3.trans (k4.mono b3.size)⟩
  · have ho' : ok r d.size s = false := by simpa using ho
    rw [if_neg ho]
    rw [ho'] at HO
    have HO' : Hid _ := HO
    clear HO ho ho'
    go_enter Tryd.func10, Tryd.ntmps10
    go_wp2_with fail
    generalize w.alloc _ = w1 at A1 b1 ⊢
    refine (HO'.out w1).mono ?_
    rintro e w2 ⟨rfl, k2⟩
    have b2 := b1.trans (k2.mono b1.size)
    go_wp2
    go_ret3
    exact ⟨⟨_, rfl, World.ownsRow_nil _ _ _ _⟩, b2⟩

set_option maxHeartbeats 1000000 in
set_option maxRecDepth 100000 in
theorem spec_recs (r : Int) (d : ByteArray) (s : Int) (w : World) (hr : In r) (hd : d.size ≤ 1048576) (hs : In s) :
    Calls Tryd.prog 8 #[LV r d s] w fun e w' => (∃ v, e = .returned (.tuple #[v, .int .i64 (recR r d s).2.1, .int .i64 (recR r d s).2.2]) ∧ OwnT w' w.heap.size v (recR r d s).1) ∧ Below w.heap.size w w' := by
  have A1 := b3_new w 28 (.int .i64 r) (.string d) (.int .i64 s)
  have b1 := new_below w 28 #[.int .i64 r, .string d, .int .i64 s]
  have HO := fun W => spec_ok r d s W hr (Nat.le_trans hd (by unfold maxLen; omega)) hs
  clear hr hs
  unfold recR LV
  by_cases ho : ok r d.size s = true
  · rw [if_pos ho]
    rw [ho] at HO
    have HO' : Hid _ := HO
    have HR : Hid _ := fun W => l08Records_any d W hd
    clear HO ho
    go_enter Tryd.func8, Tryd.ntmps8
    go_wp2_with fail
    generalize w.alloc _ = w1 at A1 b1 ⊢
    refine (HO'.out w1).mono ?_
    rintro e w2 ⟨rfl, k2⟩
    have A2 := A1.keep k2
    have b2 := b1.trans (k2.mono b1.size)
    clear A1 k2 b1
    have a1 := A2.c1
    have hB2 := b2.size
    go_wp2_with fail
    refine (HR.out w2).mono ?_
    rintro e w3 ⟨⟨v, rfl, own3⟩, k3⟩
    have b3 := b2.trans (k3.mono b2.size)
    go_wp2
    go_ret3
    exact ⟨⟨_, rfl, ow.own_base own3 hB2⟩, b3⟩
  · have ho' : ok r d.size s = false := by simpa using ho
    rw [if_neg ho]
    rw [ho'] at HO
    have HO' : Hid _ := HO
    clear HO ho ho'
    go_enter Tryd.func8, Tryd.ntmps8
    go_wp2_with fail
    generalize w.alloc _ = w1 at A1 b1 ⊢
    refine (HO'.out w1).mono ?_
    rintro e w2 ⟨rfl, k2⟩
    have b2 := b1.trans (k2.mono b1.size)
    have hoe := ow.own_base (ow.own_empty w2 9) b2.size
    have hbe := b2.trans ((new_below w2 9 #[]).mono b2.size)
    go_wp2
    go_ret3
    exact ⟨⟨_, rfl, hoe⟩, hbe⟩
end Go.Proofs.YtcmhpkgboacojaaDoor.lg
