/-
  Contracts of the specification's source of choices: the next byte, the next number, a chance.
-/
import Derived.Test.YtcflfejdpjphjaaDoorOwn
import Derived.Test.YtcflfejdpjphjaaDoorRows
import Derived.WalkKit
import Derived.WalkLawsBesides
import Derived.Deep.QuietTactic
import Derived.BigQuiet
import Derived.BigRegion
namespace Go.Proofs.YtcflfejdpjphjaaDoor.sr
open Go.RowKit
set_option linter.unusedVariables false

/-- A source of choices lies in block b: the code, how much of it was taken, the seed. -/
def Src (w : World) (b : Nat) (a : Option Addr) (len cap : Nat) (at_ sd : Int) : Prop :=
  w.heap[b]? = some (.cells #[.slice a len cap, .int .i64 at_, .int .i64 sd] 46 (0, 0))
/-- The code's bytes, in memory that is not the source's. -/
def Code (w : World) (b : Nat) (a : Option Addr) (len : Nat) : Prop :=
  len ≤ 1048576 ∧ (len = 0 ∨ ∃ cb off, a = some ⟨cb, off, none⟩ ∧ cb < b ∧ ∀ j, j < len → ∃ z : Int, 0 ≤ z ∧ z ≤ 255 ∧ w.cell? ⟨cb, off + j, none⟩ = some (.int .u8 z))

section
variable {w : World} {b : Nat} {a : Option Addr} {len cap : Nat} {at_ sd : Int}
theorem Src.c0 (h : Src w b a len cap at_ sd) : w.cell? ⟨b, 0, none⟩ = some (.slice a len cap) := by rw [cell_of_row w b 0 _ _ _ h]; rfl
theorem Src.c1 (h : Src w b a len cap at_ sd) : w.cell? ⟨b, 0 + 1, none⟩ = some (.int .i64 at_) := by rw [cell_of_row w b _ _ _ _ h]; rfl
theorem Src.c2 (h : Src w b a len cap at_ sd) : w.cell? ⟨b, 0 + 2, none⟩ = some (.int .i64 sd) := by rw [cell_of_row w b _ _ _ _ h]; rfl
theorem Src.f (h : Src w b a len cap at_ sd) (j : Nat) : w.frozen? ⟨b, j, none⟩ = false := frozen_of_row w b j _ _ h
end

theorem src_one {w : World} {b : Nat} {a : Option Addr} {len cap : Nat} {at_ sd x : Int} (h : Src w b a len cap at_ sd) : Src (w.setCell ⟨b, 1, none⟩ (.int .i64 x)) b a len cap x sd := heap_setCell_same w b 1 _ _ _ h
theorem src_two {w : World} {b : Nat} {a : Option Addr} {len cap : Nat} {at_ sd x y : Int} (h : Src w b a len cap at_ sd) : Src ((w.setCell ⟨b, 1, none⟩ (.int .i64 x)).setCell ⟨b, 2, none⟩ (.int .i64 y)) b a len cap x y := heap_setCell_same _ b 2 _ _ _ (src_one h)
theorem grown_set (w : World) (b j : Nat) (u : Value) : w.grownBy (w.setCell ⟨b, j, none⟩ u) (some b) :=
  ⟨rfl, rfl, rfl, by simp, fun k _ hk => heap_setCell_other w ⟨b, j, none⟩ k u (fun e => hk (by simp [e]))⟩
theorem grown_two (w : World) (b : Nat) (u v : Value) : w.grownBy ((w.setCell ⟨b, 1, none⟩ u).setCell ⟨b, 2, none⟩ v) (some b) := by
  have h1 := grown_set w b 1 u
  have h2 := grown_set (w.setCell ⟨b, 1, none⟩ u) b 2 v
  exact ⟨h2.os.trans h1.os, h2.tape.trans h1.tape, h2.output.trans h1.output, Nat.le_trans h1.size h2.size, fun i hi hr => (h2.block i (Nat.lt_of_lt_of_le hi h1.size) hr).trans (h1.block i hi hr)⟩

theorem grown_d1 (w : World) (b : Nat) (u : Value) (n : Nat) : w.grownBy ((w.setCell ⟨b, 1, none⟩ u).drewN n) (some b) := ow.grown_drewN (grown_set w b 1 u) n
theorem grown_d2 (w : World) (b : Nat) (u v : Value) (n : Nat) : w.grownBy (((w.setCell ⟨b, 1, none⟩ u).drewN n).setCell ⟨b, 2, none⟩ v) (some b) :=
  ow.grown_trans (grown_d1 w b u n) (grown_set _ b 2 v)
theorem grown_d3 (w : World) (b : Nat) (u v : Value) (n m : Nat) : w.grownBy ((((w.setCell ⟨b, 1, none⟩ u).drewN n).setCell ⟨b, 2, none⟩ v).drewN m) (some b) := ow.grown_drewN (grown_d2 w b u v n) m

/-- What a step of the source leaves: a number from lo to hi, the source a little further on, all else as it was. -/
def Step (w : World) (b : Nat) (a : Option Addr) (len cap : Nat) (at_ k : Int) (lo hi : Int) (e : Ending) (w' : World) : Prop :=
  ∃ r at' sd' : Int, e = .returned (.int .i64 r) ∧ lo ≤ r ∧ r ≤ hi ∧ at_ ≤ at' ∧ at' ≤ at_ + k ∧ 0 ≤ sd' ∧ sd' < 2147483648 ∧ Src w' b a len cap at' sd' ∧ w.grownBy w' (some b)

set_option maxHeartbeats 1000000 in
set_option maxRecDepth 100000 in
theorem byte_zero (w : World) (b : Nat) (a : Option Addr) (len cap : Nat) (at_ sd : Int) (hs : Src w b a len cap at_ sd) (h0 : 0 ≤ at_) (h1 : at_ ≤ 1000000) (hx : (len : Int) < at_ + 1) (hy : 3000 < at_ + 1) (s0 : 0 ≤ sd) (s1 : sd < 2147483648) :
    Calls Tryd.prog 30 #[.pointer (some ⟨b, 0, none⟩)] w fun e w' => Step w b a len cap at_ 1 0 255 e w' := by
  have c0 := hs.c0
  have c1 := hs.c1
  have c2 := hs.c2
  have f1 := hs.f 1
  have HS : Hid _ := hs
  clear hs
  go_enter Tryd.func30, Tryd.ntmps30
  go_wp2
  go_quiet (fail)
  go_wp2
  go_ret
  exact ⟨0, at_ + 1, sd, rfl, by omega, by omega, by omega, by omega, s0, s1, src_one HS.out, grown_d1 _ _ _ _⟩

set_option maxHeartbeats 1000000 in
set_option maxRecDepth 100000 in
theorem byte_seed (w : World) (b : Nat) (a : Option Addr) (len cap : Nat) (at_ sd : Int) (hs : Src w b a len cap at_ sd) (h0 : 0 ≤ at_) (h1 : at_ ≤ 1000000) (hx : (len : Int) < at_ + 1) (hy : at_ + 1 ≤ 3000) (s0 : 0 ≤ sd) (s1 : sd < 2147483648) :
    Calls Tryd.prog 30 #[.pointer (some ⟨b, 0, none⟩)] w fun e w' => Step w b a len cap at_ 1 0 255 e w' := by
  have c0 := hs.c0
  have c1 := hs.c1
  have c2 := hs.c2
  have f1 := hs.f 1
  have f2 := hs.f 2
  have HS : Hid _ := hs
  clear hs
  go_enter Tryd.func30, Tryd.ntmps30
  go_wp2
  go_quiet (fail)
  go_wp2
  go_ret
  exact ⟨_, at_ + 1, _, rfl, by omega, by omega, by omega, by omega, by omega, by omega, src_two HS.out, grown_d2 _ _ _ _ _⟩

set_option maxHeartbeats 2000000 in
set_option maxRecDepth 100000 in
theorem byte_code (w : World) (b cb off : Nat) (len cap : Nat) (at_ : Nat) (sd z : Int) (hs : Src w b (some ⟨cb, off, none⟩) len cap at_ sd) (h1 : at_ ≤ 1000000) (hx : at_ < len) (hl : len ≤ 1048576) (s0 : 0 ≤ sd) (s1 : sd < 2147483648)
    (hne : cb ≠ b) (hz : w.cell? ⟨cb, off + at_, none⟩ = some (.int .u8 z)) (z0 : 0 ≤ z) (z1 : z ≤ 255) :
    Calls Tryd.prog 30 #[.pointer (some ⟨b, 0, none⟩)] w fun e w' => Step w b (some ⟨cb, off, none⟩) len cap at_ 1 0 255 e w' := by
  have c0 := hs.c0
  have c1 := hs.c1
  have c2 := hs.c2
  have f1 := hs.f 1
  have f2 := hs.f 2
  have HS : Hid _ := hs
  clear hs
  have hx' : (at_ : Int) + 1 ≤ (len : Int) := by omega
  have hx2 : (at_ : Int) < (len : Int) := by omega
  have hx3 : (0 : Int) ≤ (at_ : Int) := by omega
  go_enter Tryd.func30, Tryd.ntmps30
  go_wp2
  go_quiet (fail)
  go_wp2
  go_region
  all_goals go_wp2
  all_goals go_quiet (fail)
  all_goals go_wp2
  all_goals go_ret
  all_goals exact ⟨z, at_ + 1, _, rfl, z0, z1, by omega, by omega, by omega, by omega, src_two HS.out, grown_d3 _ _ _ _ _ _⟩

theorem byte_any (w : World) (b : Nat) (a : Option Addr) (len cap : Nat) (at_ sd : Int) (hs : Src w b a len cap at_ sd) (hc : Code w b a len) (h0 : 0 ≤ at_) (h1 : at_ ≤ 1000000) (s0 : 0 ≤ sd) (s1 : sd < 2147483648) :
    Calls Tryd.prog 30 #[.pointer (some ⟨b, 0, none⟩)] w fun e w' => Step w b a len cap at_ 1 0 255 e w' := by
  by_cases hx : (len : Int) < at_ + 1
  · by_cases hy : 3000 < at_ + 1
    · exact byte_zero w b a len cap at_ sd hs h0 h1 hx hy s0 s1
    · exact byte_seed w b a len cap at_ sd hs h0 h1 hx (by omega) s0 s1
  · obtain ⟨n, rfl⟩ : ∃ n : Nat, at_ = (n : Int) := ⟨at_.toNat, by omega⟩
    obtain ⟨hl, hc⟩ := hc
    rcases hc with e | ⟨cb, off, rfl, hne, hcell⟩
    · omega
    obtain ⟨z, z0, z1, hz⟩ := hcell n (by omega)
    exact byte_code w b cb off len cap n sd z hs (by omega) (by omega) hl s0 s1 (by omega) hz z0 z1

theorem code_keep' {w w' : World} {b : Nat} {a : Option Addr} {len : Nat} {row : Option Nat} (h : Code w b a len) (hg : w.grownBy w' row) (hr : ∀ k, row = some k → b ≤ k) : Code w' b a len := by
  obtain ⟨hl, h⟩ := h
  refine ⟨hl, ?_⟩
  rcases h with h | ⟨cb, off, rfl, hne, hc⟩
  · exact .inl h
  · refine .inr ⟨cb, off, rfl, hne, fun j hj => ?_⟩
    obtain ⟨z, z0, z1, hz⟩ := hc j hj
    exact ⟨z, z0, z1, hg.cell hz (fun e => by have := hr cb e.symm; omega)⟩
theorem code_keep {w w' : World} {b : Nat} {a : Option Addr} {len : Nat} (h : Code w b a len) (hg : w.grownBy w' (some b)) : Code w' b a len :=
  code_keep' h hg (fun k e => by have : b = k := by simpa using e
                                 omega)
theorem src_keep {w w' : World} {b : Nat} {a : Option Addr} {len cap : Nat} {at_ sd : Int} {row : Option Nat} (h : Src w b a len cap at_ sd) (hg : w.grownBy w' row) (hne : some b ≠ row) : Src w' b a len cap at_ sd := by
  unfold Src at h ⊢
  rw [hg.block b (Array.getElem?_eq_some_iff.1 h).1 hne]
  exact h

set_option maxHeartbeats 1000000 in
theorem next_any (w : World) (b : Nat) (a : Option Addr) (len cap : Nat) (at_ sd n : Int) (hs : Src w b a len cap at_ sd) (hc : Code w b a len) (h0 : 0 ≤ at_) (h1 : at_ ≤ 900000) (s0 : 0 ≤ sd) (s1 : sd < 2147483648) (n1 : 1 ≤ n) (n2 : n ≤ 1000000) :
    Calls Tryd.prog 22 #[.pointer (some ⟨b, 0, none⟩), .int .i64 n] w fun e w' => Step w b a len cap at_ 3 0 (n - 1) e w' := by
  by_cases hn : n ≤ 1
  · have HS : Hid _ := hs
    clear hs
    go_enter Tryd.func22, Tryd.ntmps22
    go_wp2
    go_ret
    exact ⟨0, at_, sd, rfl, by omega, by omega, by omega, by omega, s0, s1, HS.out, ow.grown_refl _ _⟩
  by_cases hn2 : n ≤ 256
  · go_enter Tryd.func22, Tryd.ntmps22
    go_wp2_with fail
    refine (byte_any _ b a len cap at_ sd hs hc h0 (by omega) s0 s1).mono ?_
    rintro e w1 ⟨r, at1, sd1, rfl, r0, r1, a0, a1, d0, d1, hs1, hg1⟩
    have HH : Hid _ := And.intro hs1 hg1
    clear hs1 hg1 hs hc
    go_wp2
    go_ret
    exact ⟨_, at1, sd1, rfl, Int.emod_nonneg _ (by omega), by have := Int.emod_lt_of_pos r (show 0 < n by omega); omega, a0, by omega, d0, d1, HH.out.1, HH.out.2⟩
  go_enter Tryd.func22, Tryd.ntmps22
  go_wp2_with fail
  refine (byte_any _ b a len cap at_ sd hs hc h0 (by omega) s0 s1).mono ?_
  rintro e w1 ⟨r, at1, sd1, rfl, r0, r1, a0, a1, d0, d1, hs1, hg1⟩
  have hc1 := code_keep hc hg1
  go_wp2_with fail
  refine (byte_any _ b a len cap at1 sd1 hs1 hc1 (by omega) (by omega) d0 d1).mono ?_
  rintro e w2 ⟨q, at2, sd2, rfl, q0, q1, a2, a3, d2, d3, hs2, hg2⟩
  have hc2 := code_keep hc1 hg2
  go_wp2_with fail
  refine (byte_any _ b a len cap at2 sd2 hs2 hc2 (by omega) (by omega) d2 d3).mono ?_
  rintro e w3 ⟨p, at3, sd3, rfl, p0, p1, a4, a5, d4, d5, hs3, hg3⟩
  have HH : Hid _ := And.intro hs3 (ow.grown_trans (ow.grown_trans hg1 hg2) hg3)
  clear hs1 hg1 hs hc hc1 hc2 hs2 hs3 hg2 hg3
  go_wp2
  go_ret
  exact ⟨_, at3, sd3, rfl, Int.emod_nonneg _ (by omega), by have := Int.emod_lt_of_pos (r * 65536 + q * 256 + p) (show 0 < n by omega); omega, by omega, by omega, d4, d5, HH.out.1, HH.out.2⟩

end Go.Proofs.YtcflfejdpjphjaaDoor.sr
