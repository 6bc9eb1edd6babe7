/-
  Contracts of the specification's source of choices: the next byte, the next number, a chance.
  A drawn entry: its texts are picked out of rows of texts, its stamp is drawn.
  A drawn entry, as a whole.
-/
import Derived.Test.YtinnnfkhiigjpaaGreatPkaa
import Derived.Test.YtinnnfkhiigjpaaGreatRows
import Derived.WalkKit
import Derived.WalkLawsBesides
import Derived.Deep.QuietTactic
import Derived.BigQuiet
import Derived.BigRegion

namespace Go.Proofs.YtinnnfkhiigjpaaGreat.sr
open Go.RowKit
set_option linter.unusedVariables false

/-- A source of choices lies in block b: the code, how much of it was taken, the seed. -/
def Src (w : World) (b : Nat) (a : Option Addr) (len cap : Nat) (at_ sd : Int) : Prop :=
  w.heap[b]? = some (.cells #[.slice a len cap, .int .i64 at_, .int .i64 sd] 70 (0, 0))
/-- The code's bytes, in memory that is not the source's. -/
def Code (w : World) (b : Nat) (a : Option Addr) (len : Nat) : Prop :=
  len ≤ 1048576 ∧ (len = 0 ∨ ∃ cb off, a = some ⟨cb, off, none⟩ ∧ cb < b ∧ ∀ j, j < len → ∃ z : Int, 0 ≤ z ∧ z ≤ 255 ∧ w.cell? ⟨cb, off + j, none⟩ = some (.int .u8 z))

section
variable {w : World} {b : Nat} {a : Option Addr} {len cap : Nat} {at_ sd : Int}
theorem Src.c0 (h : Src w b a len cap at_ sd) : w.cell? ⟨b, 0, none⟩ = some (.slice a len cap) := by rw [cell_of_row w b 0 _ _ _ h]; rfl
theorem Src.c1 (h : Src w b a len cap at_ sd) : w.cell? ⟨b, 0 + 1, none⟩ = some (.int .i64 at_) := by rw [cell_of_row w b _ _ _ _ h]; rfl
theorem Src.c2 (h : Src w b a len cap at_ sd) : w.cell? ⟨b, 0 + 2, none⟩ = some (.int .i64 sd) := by rw [cell_of_row w b _ _ _ _ h]; rfl
theorem Src.f (h : Src w b a len cap at_ sd) (j : Nat) : w.frozen? ⟨b, j, none⟩ = false := frozen_of_row w b j _ _ h
end

theorem src_one {w : World} {b : Nat} {a : Option Addr} {len cap : Nat} {at_ sd x : Int} (h : Src w b a len cap at_ sd) : Src (w.setCell ⟨b, 1, none⟩ (.int .i64 x)) b a len cap x sd := heap_setCell_same w b 1 _ _ _ h
theorem src_two {w : World} {b : Nat} {a : Option Addr} {len cap : Nat} {at_ sd x y : Int} (h : Src w b a len cap at_ sd) : Src ((w.setCell ⟨b, 1, none⟩ (.int .i64 x)).setCell ⟨b, 2, none⟩ (.int .i64 y)) b a len cap x y := heap_setCell_same _ b 2 _ _ _ (src_one h)
theorem grown_set (w : World) (b j : Nat) (u : Value) : w.grownBy (w.setCell ⟨b, j, none⟩ u) (some b) :=
  ⟨rfl, rfl, rfl, by simp, fun k _ hk => heap_setCell_other w ⟨b, j, none⟩ k u (fun e => hk (by simp [e]))⟩

theorem grown_d1 (w : World) (b : Nat) (u : Value) (n : Nat) : w.grownBy ((w.setCell ⟨b, 1, none⟩ u).drewN n) (some b) := ow.grown_drewN (grown_set w b 1 u) n
theorem grown_d2 (w : World) (b : Nat) (u v : Value) (n : Nat) : w.grownBy (((w.setCell ⟨b, 1, none⟩ u).drewN n).setCell ⟨b, 2, none⟩ v) (some b) :=
  ow.grown_trans (grown_d1 w b u n) (grown_set _ b 2 v)
theorem grown_d3 (w : World) (b : Nat) (u v : Value) (n m : Nat) : w.grownBy ((((w.setCell ⟨b, 1, none⟩ u).drewN n).setCell ⟨b, 2, none⟩ v).drewN m) (some b) := ow.grown_drewN (grown_d2 w b u v n) m

/-- What a step of the source leaves: a number from lo to hi, the source a little further on, all else as it was. -/
def Step (w : World) (b : Nat) (a : Option Addr) (len cap : Nat) (at_ k : Int) (lo hi : Int) (e : Ending) (w' : World) : Prop :=
  ∃ r at' sd' : Int, e = .returned (.int .i64 r) ∧ lo ≤ r ∧ r ≤ hi ∧ at_ ≤ at' ∧ at' ≤ at_ + k ∧ 0 ≤ sd' ∧ sd' < 2147483648 ∧ Src w' b a len cap at' sd' ∧ w.grownBy w' (some b)

set_option maxHeartbeats 1000000 in
set_option maxRecDepth 100000 in
theorem byte_zero (w : World) (b : Nat) (a : Option Addr) (len cap : Nat) (at_ sd : Int) (hs : Src w b a len cap at_ sd) (h0 : 0 ≤ at_) (h1 : at_ ≤ 1000000) (hx : (len : Int) < at_ + 1) (hy : 3000 < at_ + 1) (s0 : 0 ≤ sd) (s1 : sd < 2147483648) :
    Calls Tryz.prog 69 #[.pointer (some ⟨b, 0, none⟩)] w fun e w' => Step w b a len cap at_ 1 0 255 e w' := by
  have c0 := hs.c0
  have c1 := hs.c1
  have c2 := hs.c2
  have f1 := hs.f 1
  have HS : Hid _ := hs
  clear hs
  go_enter Tryz.func69, Tryz.ntmps69
  go_wp2
  go_quiet (fail)
  go_wp2
  go_ret
  exact ⟨0, at_ + 1, sd, rfl, by omega, by omega, by omega, by omega, s0, s1, src_one HS.out, grown_d1 _ _ _ _⟩

set_option maxHeartbeats 1000000 in
set_option maxRecDepth 100000 in
theorem byte_seed (w : World) (b : Nat) (a : Option Addr) (len cap : Nat) (at_ sd : Int) (hs : Src w b a len cap at_ sd) (h0 : 0 ≤ at_) (h1 : at_ ≤ 1000000) (hx : (len : Int) < at_ + 1) (hy : at_ + 1 ≤ 3000) (s0 : 0 ≤ sd) (s1 : sd < 2147483648) :
    Calls Tryz.prog 69 #[.pointer (some ⟨b, 0, none⟩)] w fun e w' => Step w b a len cap at_ 1 0 255 e w' := by
  have c0 := hs.c0
  have c1 := hs.c1
  have c2 := hs.c2
  have f1 := hs.f 1
  have f2 := hs.f 2
  have HS : Hid _ := hs
  clear hs
  go_enter Tryz.func69, Tryz.ntmps69
  go_wp2
  go_quiet (fail)
  go_wp2
  go_ret
  exact ⟨_, at_ + 1, _, rfl, by omega, by omega, by omega, by omega, by omega, by omega, src_two HS.out, grown_d2 _ _ _ _ _⟩

set_option maxHeartbeats 2000000 in
set_option maxRecDepth 100000 in
theorem byte_code (w : World) (b cb off : Nat) (len cap : Nat) (at_ : Nat) (sd z : Int) (hs : Src w b (some ⟨cb, off, none⟩) len cap at_ sd) (h1 : at_ ≤ 1000000) (hx : at_ < len) (hl : len ≤ 1048576) (s0 : 0 ≤ sd) (s1 : sd < 2147483648)
    (hne : cb ≠ b) (hz : w.cell? ⟨cb, off + at_, none⟩ = some (.int .u8 z)) (z0 : 0 ≤ z) (z1 : z ≤ 255) :
    Calls Tryz.prog 69 #[.pointer (some ⟨b, 0, none⟩)] w fun e w' => Step w b (some ⟨cb, off, none⟩) len cap at_ 1 0 255 e w' := by
  have c0 := hs.c0
  have c1 := hs.c1
  have c2 := hs.c2
  have f1 := hs.f 1
  have f2 := hs.f 2
  have HS : Hid _ := hs
  clear hs
  have hx' : (at_ : Int) + 1 ≤ (len : Int) := by omega
  have hx2 : (at_ : Int) < (len : Int) := by omega
  have hx3 : (0 : Int) ≤ (at_ : Int) := by omega
  go_enter Tryz.func69, Tryz.ntmps69
  go_wp2
  go_quiet (fail)
  go_wp2
  go_region
  all_goals go_wp2
  all_goals go_quiet (fail)
  all_goals go_wp2
  all_goals go_ret
  all_goals exact ⟨z, at_ + 1, _, rfl, z0, z1, by omega, by omega, by omega, by omega, src_two HS.out, grown_d3 _ _ _ _ _ _⟩

theorem byte_any (w : World) (b : Nat) (a : Option Addr) (len cap : Nat) (at_ sd : Int) (hs : Src w b a len cap at_ sd) (hc : Code w b a len) (h0 : 0 ≤ at_) (h1 : at_ ≤ 1000000) (s0 : 0 ≤ sd) (s1 : sd < 2147483648) :
    Calls Tryz.prog 69 #[.pointer (some ⟨b, 0, none⟩)] w fun e w' => Step w b a len cap at_ 1 0 255 e w' := by
  by_cases hx : (len : Int) < at_ + 1
  · by_cases hy : 3000 < at_ + 1
    · exact byte_zero w b a len cap at_ sd hs h0 h1 hx hy s0 s1
    · exact byte_seed w b a len cap at_ sd hs h0 h1 hx (by omega) s0 s1
  · obtain ⟨n, rfl⟩ : ∃ n : Nat, at_ = (n : Int) := ⟨at_.toNat, by omega⟩
    obtain ⟨hl, hc⟩ := hc
    rcases hc with e | ⟨cb, off, rfl, hne, hcell⟩
    · omega
    obtain ⟨z, z0, z1, hz⟩ := hcell n (by omega)
    exact byte_code w b cb off len cap n sd z hs (by omega) (by omega) hl s0 s1 (by omega) hz z0 z1

theorem code_keep' {w w' : World} {b : Nat} {a : Option Addr} {len : Nat} {row : Option Nat} (h : Code w b a len) (hg : w.grownBy w' row) (hr : ∀ k, row = some k → b ≤ k) : Code w' b a len := by
  obtain ⟨hl, h⟩ := h
  refine ⟨hl, ?_⟩
  rcases h with h | ⟨cb, off, rfl, hne, hc⟩
  · exact .inl h
  · refine .inr ⟨cb, off, rfl, hne, fun j hj => ?_⟩
    obtain ⟨z, z0, z1, hz⟩ := hc j hj
    exact ⟨z, z0, z1, hg.cell hz (fun e => by have := hr cb e.symm; omega)⟩
theorem code_keep {w w' : World} {b : Nat} {a : Option Addr} {len : Nat} (h : Code w b a len) (hg : w.grownBy w' (some b)) : Code w' b a len :=
  code_keep' h hg (fun k e => by have : b = k := by simpa using e
                                 omega)
theorem src_keep {w w' : World} {b : Nat} {a : Option Addr} {len cap : Nat} {at_ sd : Int} {row : Option Nat} (h : Src w b a len cap at_ sd) (hg : w.grownBy w' row) (hne : some b ≠ row) : Src w' b a len cap at_ sd := by
  unfold Src at h ⊢
  rw [hg.block b (Array.getElem?_eq_some_iff.1 h).1 hne]
  exact h

set_option maxHeartbeats 1000000 in
theorem next_any (w : World) (b : Nat) (a : Option Addr) (len cap : Nat) (at_ sd n : Int) (hs : Src w b a len cap at_ sd) (hc : Code w b a len) (h0 : 0 ≤ at_) (h1 : at_ ≤ 900000) (s0 : 0 ≤ sd) (s1 : sd < 2147483648) (n1 : 1 ≤ n) (n2 : n ≤ 1000000) :
    Calls Tryz.prog 39 #[.pointer (some ⟨b, 0, none⟩), .int .i64 n] w fun e w' => Step w b a len cap at_ 3 0 (n - 1) e w' := by
  by_cases hn : n ≤ 1
  · have HS : Hid _ := hs
    clear hs
    go_enter Tryz.func39, Tryz.ntmps39
    go_wp2
    go_ret
    exact ⟨0, at_, sd, rfl, by omega, by omega, by omega, by omega, s0, s1, HS.out, ow.grown_refl _ _⟩
  by_cases hn2 : n ≤ 256
  · go_enter Tryz.func39, Tryz.ntmps39
    go_wp2_with fail
    refine (byte_any _ b a len cap at_ sd hs hc h0 (by omega) s0 s1).mono ?_
    rintro e w1 ⟨r, at1, sd1, rfl, r0, r1, a0, a1, d0, d1, hs1, hg1⟩
    have HH : Hid _ := And.intro hs1 hg1
    clear hs1 hg1 hs hc
    go_wp2
    go_ret
    exact ⟨_, at1, sd1, rfl, Int.emod_nonneg _ (by omega), by have := Int.emod_lt_of_pos r (show 0 < n by omega); omega, a0, by omega, d0, d1, HH.out.1, HH.out.2⟩
  go_enter Tryz.func39, Tryz.ntmps39
  go_wp2_with fail
  refine (byte_any _ b a len cap at_ sd hs hc h0 (by omega) s0 s1).mono ?_
  rintro e w1 ⟨r, at1, sd1, rfl, r0, r1, a0, a1, d0, d1, hs1, hg1⟩
  have hc1 := code_keep hc hg1
  go_wp2_with fail
  refine (byte_any _ b a len cap at1 sd1 hs1 hc1 (by omega) (by omega) d0 d1).mono ?_
  rintro e w2 ⟨q, at2, sd2, rfl, q0, q1, a2, a3, d2, d3, hs2, hg2⟩
  have hc2 := code_keep hc1 hg2
  go_wp2_with fail
  refine (byte_any _ b a len cap at2 sd2 hs2 hc2 (by omega) (by omega) d2 d3).mono ?_
  rintro e w3 ⟨p, at3, sd3, rfl, p0, p1, a4, a5, d4, d5, hs3, hg3⟩
  have HH : Hid _ := And.intro hs3 (ow.grown_trans (ow.grown_trans hg1 hg2) hg3)
  clear hs1 hg1 hs hc hc1 hc2 hs2 hs3 hg2 hg3
  go_wp2
  go_ret
  exact ⟨_, at3, sd3, rfl, Int.emod_nonneg _ (by omega), by have := Int.emod_lt_of_pos (r * 65536 + q * 256 + p) (show 0 < n by omega); omega, by omega, by omega, d4, d5, HH.out.1, HH.out.2⟩

/-- What a chance leaves. -/
def Chance (w : World) (b : Nat) (a : Option Addr) (len cap : Nat) (at_ k : Int) (e : Ending) (w' : World) : Prop :=
  ∃ (c : Bool) (at' sd' : Int), e = .returned (.bool c) ∧ at_ ≤ at' ∧ at' ≤ at_ + k ∧ 0 ≤ sd' ∧ sd' < 2147483648 ∧ Src w' b a len cap at' sd' ∧ w.grownBy w' (some b)

set_option maxHeartbeats 1000000 in
theorem chance_any (w : World) (b : Nat) (a : Option Addr) (len cap : Nat) (at_ sd n : Int) (hs : Src w b a len cap at_ sd) (hc : Code w b a len) (h0 : 0 ≤ at_) (h1 : at_ ≤ 900000) (s0 : 0 ≤ sd) (s1 : sd < 2147483648) (n1 : 1 ≤ n) (n2 : n ≤ 1000000) :
    Calls Tryz.prog 42 #[.pointer (some ⟨b, 0, none⟩), .int .i64 n] w fun e w' => Chance w b a len cap at_ 3 e w' := by
  go_enter Tryz.func42, Tryz.ntmps42
  go_wp2_with fail
  refine (next_any _ b a len cap at_ sd n hs hc h0 h1 s0 s1 n1 n2).mono ?_
  rintro e w1 ⟨r, at1, sd1, rfl, r0, r1, a0, a1, d0, d1, hs1, hg1⟩
  have HH : Hid _ := And.intro hs1 hg1
  clear hs1 hg1 hs hc
  go_wp2
  go_ret
  exact ⟨_, at1, sd1, rfl, a0, a1, d0, d1, HH.out.1, HH.out.2⟩
end Go.Proofs.YtinnnfkhiigjpaaGreat.sr

namespace Go.Proofs.YtinnnfkhiigjpaaGreat.se
open Go.RowKit
open sr
set_option linter.unusedVariables false

/-- Bytes that came in: a slice of them, each from 0 to 255. -/
def Bytes (w : World) (a : Option Addr) (len : Nat) : Prop :=
  len ≤ 1048576 ∧ (len = 0 ∨ ∃ cb off, a = some ⟨cb, off, none⟩ ∧ ∀ j, j < len → ∃ z : Int, 0 ≤ z ∧ z ≤ 255 ∧ w.cell? ⟨cb, off + j, none⟩ = some (.int .u8 z))
/-- The world with a new source. -/
def started (w : World) (a : Option Addr) (len cap : Nat) : World := w.alloc (.cells #[.slice a len cap, .int .i64 0, .int .i64 ((len : Int) % 1000)] 70)
theorem src_started (w : World) (a : Option Addr) (len cap : Nat) : Src (started w a len cap) w.heap.size a len cap 0 ((len : Int) % 1000) := by
  show (w.heap.push _)[w.heap.size]? = _
  simp
theorem code_started {w : World} {a : Option Addr} {len cap : Nat} (h : Bytes w a len) : sr.Code (started w a len cap) w.heap.size a len := by
  obtain ⟨hl, h⟩ := h
  refine ⟨hl, ?_⟩
  rcases h with h | ⟨cb, off, rfl, hc⟩
  · exact .inl h
  · by_cases h0 : len = 0
    · exact .inl h0
    obtain ⟨z, _, _, hz⟩ := hc 0 (by omega)
    have hlt : cb < w.heap.size := World.block_lt_of_cell? w _ hz
    refine .inr ⟨cb, off, rfl, hlt, fun j hj => ?_⟩
    obtain ⟨z, z0, z1, hz⟩ := hc j hj
    have hb : Below w.heap.size w (started w (some ⟨cb, off, none⟩) len cap) := (Below.refl _ _).alloc (Nat.le_refl _) _
    exact ⟨z, z0, z1, (hb.cell (p := ⟨cb, off + j, none⟩) hlt).trans hz⟩

set_option maxHeartbeats 1000000 in
theorem source_any (w : World) (a : Option Addr) (len cap : Nat) (h : len ≤ 1048576) :
    Calls Tryz.prog 17 #[.slice a len cap] w fun e w' => e = .returned (.pointer (some ⟨w.heap.size, 0, none⟩)) ∧ w' = started w a len cap := by
  go_enter Tryz.func17, Tryz.ntmps17
  go_wp2
  go_ret
  exact ⟨rfl, rfl⟩

theorem grown_alloc (w : World) (o : Obj) : w.grownBy (w.alloc o) none := ⟨rfl, rfl, rfl, by simp, fun k hk _ => Below.heap_alloc _ _ _ hk⟩
theorem grown_none {w w1 w2 : World} {row : Option Nat} (h1 : w.grownBy w1 row) (h2 : w1.grownBy w2 none) : w.grownBy w2 row :=
  ⟨h2.os.trans h1.os, h2.tape.trans h1.tape, h2.output.trans h1.output, Nat.le_trans h1.size h2.size, fun i hi hr => (h2.block i (Nat.lt_of_lt_of_le hi h1.size) (by simp)).trans (h1.block i hi hr)⟩

set_option maxHeartbeats 2000000 in
set_option maxRecDepth 100000 in
theorem stamp_any (w : World) (b : Nat) (a : Option Addr) (len cap : Nat) (at_ sd : Int) (hs : Src w b a len cap at_ sd) (hc : sr.Code w b a len) (h0 : 0 ≤ at_) (h1 : at_ ≤ 800000) (s0 : 0 ≤ sd) (s1 : sd < 2147483648) :
    Calls Tryz.prog 86 #[.pointer (some ⟨b, 0, none⟩)] w fun e w' => ∃ n at' sd' : Int, e = .returned (.int .i64 n) ∧ 0 ≤ n ∧ n ≤ 4102444799 ∧ at_ ≤ at' ∧ at' ≤ at_ + 9 ∧ 0 ≤ sd' ∧ sd' < 2147483648 ∧ Src w' b a len cap at' sd' ∧ sr.Code w' b a len ∧ w.grownBy w' (some b) := by
  go_enter Tryz.func86, Tryz.ntmps86
  go_wp2_with fail
  refine (next_any _ b a len cap at_ sd 1000000 hs hc h0 (by omega) s0 s1 (by omega) (by omega)).mono ?_
  rintro e w1 ⟨r, at1, sd1, rfl, r0, r1, a0, a1, d0, d1, hs1, hg1⟩
  have hc1 := code_keep hc hg1
  go_wp2_with fail
  refine (next_any _ b a len cap at1 sd1 1000000 hs1 hc1 (by omega) (by omega) d0 d1 (by omega) (by omega)).mono ?_
  rintro e w2 ⟨q, at2, sd2, rfl, q0, q1, a2, a3, d2, d3, hs2, hg2⟩
  have hc2 := code_keep hc1 hg2
  have hg12 := ow.grown_trans hg1 hg2
  have hlt : b < w2.heap.size := (Array.getElem?_eq_some_iff.1 hs2).1
  clear hs hc hs1 hc1 hg1 hg2
  go_wp2_with fail
  have ga := grown_alloc w2 (.cells #[.int .i64 (r * 4102), .int .i64 (q * 4000 + 86399), .int .i64 0, .int .i64 4102444799, .int .i64 951782400, .int .i64 1709164800] 3)
  have hnew : (w2.alloc (.cells #[.int .i64 (r * 4102), .int .i64 (q * 4000 + 86399), .int .i64 0, .int .i64 4102444799, .int .i64 951782400, .int .i64 1709164800] 3)).heap[w2.heap.size]? = some (.cells #[.int .i64 (r * 4102), .int .i64 (q * 4000 + 86399), .int .i64 0, .int .i64 4102444799, .int .i64 951782400, .int .i64 1709164800] 3) := by
    show (w2.heap.push _)[w2.heap.size]? = _
    simp
  have hs3 := src_keep hs2 ga (by simp)
  have hc3 := code_keep' hc2 ga (fun k e => by cases e)
  have hlt3 : w2.heap.size < (w2.alloc (.cells #[.int .i64 (r * 4102), .int .i64 (q * 4000 + 86399), .int .i64 0, .int .i64 4102444799, .int .i64 951782400, .int .i64 1709164800] 3)).heap.size := by simp
  have hg3 := grown_none hg12 ga
  clear ga hs2 hc2 hg12
  generalize w2.alloc _ = w3 at hnew hs3 hc3 hg3 hlt3 ⊢
  refine (next_any _ b a len cap at2 sd2 6 hs3 hc3 (by omega) (by omega) d2 d3 (by omega) (by omega)).mono ?_
  rintro e w4 ⟨p, at4, sd4, rfl, p0, p1, a4, a5, d4, d5, hs4, hg4⟩
  have hcells : w4.heap[w2.heap.size]? = some (.cells #[.int .i64 (r * 4102), .int .i64 (q * 4000 + 86399), .int .i64 0, .int .i64 4102444799, .int .i64 951782400, .int .i64 1709164800] 3) := by
    rw [hg4.block _ hlt3 (by simp; omega)]
    exact hnew
  have HG : Hid (Src w4 b a len cap at4 sd4 ∧ sr.Code w4 b a len ∧ w.grownBy w4 (some b)) := ⟨hs4, code_keep hc3 hg4, ow.grown_trans hg3 hg4⟩
  clear hs3 hc3 hnew hg3 hg4 hs4 hlt3
  have hp : p = 0 ∨ p = 1 ∨ p = 2 ∨ p = 3 ∨ p = 4 ∨ p = 5 := by omega
  have hcell : ∀ (j : Nat) (v : Int), ([r * 4102, q * 4000 + 86399, 0, 4102444799, 951782400, 1709164800] : List Int)[j]? = some v → w4.cell? ⟨w2.heap.size, j, none⟩ = some (.int .i64 v) := by
    intro j v hv
    rw [cell_of_row _ _ _ _ _ _ hcells]
    match j, hv with
    | 0, hv => cases hv; rfl
    | 1, hv => cases hv; rfl
    | 2, hv => cases hv; rfl
    | 3, hv => cases hv; rfl
    | 4, hv => cases hv; rfl
    | 5, hv => cases hv; rfl
    | j + 6, hv => simp at hv
  clear hcells
  rcases hp with rfl | rfl | rfl | rfl | rfl | rfl
  · have c := hcell 0 _ rfl
    clear hcell
    go_wp2
    go_ret
    exact ⟨_, at4, sd4, rfl, by omega, by omega, by omega, by omega, d4, d5, HG.out⟩
  · have c := hcell 1 _ rfl
    clear hcell
    go_wp2
    go_ret
    exact ⟨_, at4, sd4, rfl, by omega, by omega, by omega, by omega, d4, d5, HG.out⟩
  · have c := hcell 2 _ rfl
    clear hcell
    go_wp2
    go_ret
    exact ⟨_, at4, sd4, rfl, by omega, by omega, by omega, by omega, d4, d5, HG.out⟩
  · have c := hcell 3 _ rfl
    clear hcell
    go_wp2
    go_ret
    exact ⟨_, at4, sd4, rfl, by omega, by omega, by omega, by omega, d4, d5, HG.out⟩
  · have c := hcell 4 _ rfl
    clear hcell
    go_wp2
    go_ret
    exact ⟨_, at4, sd4, rfl, by omega, by omega, by omega, by omega, d4, d5, HG.out⟩
  · have c := hcell 5 _ rfl
    clear hcell
    go_wp2
    go_ret
    exact ⟨_, at4, sd4, rfl, by omega, by omega, by omega, by omega, d4, d5, HG.out⟩

def idL : List ByteArray := [⟨#[105, 100, 49]⟩, ⟨#[105, 100, 50]⟩, ⟨#[105, 100, 51]⟩, ⟨#[117, 114, 110, 58, 120, 32, 38, 32, 121]⟩, ⟨#[105, 100, 32, 195, 164]⟩]
def fldL : List ByteArray := [⟨#[]⟩, ⟨#[116, 105, 116, 108, 101]⟩, ⟨#[97, 32, 38, 32, 98]⟩, ⟨#[195, 164, 195, 182, 32, 226, 130, 172]⟩, ⟨#[60, 120, 62]⟩, ⟨#[111, 110, 101, 32, 116, 119, 111]⟩, ⟨#[61, 63, 117, 116, 102, 45, 56, 63, 81, 63, 120, 63, 61]⟩, ⟨#[240, 159, 152, 128]⟩]
def linkL : List ByteArray := [⟨#[]⟩, ⟨#[104, 116, 116, 112, 58, 47, 47, 97, 47, 98, 63, 99, 61, 100, 38, 101]⟩, ⟨#[108, 105, 110, 107]⟩]
def conL : List ByteArray := [⟨#[]⟩, ⟨#[116, 101, 120, 116]⟩, ⟨#[116, 119, 111, 10, 108, 105, 110, 101, 115, 10]⟩, ⟨#[97, 13, 98, 13, 10]⟩, ⟨#[46, 10, 46, 46, 10]⟩, ⟨#[195, 164, 32, 60, 98, 62]⟩, ⟨#[116, 114, 97, 105, 108, 105, 110, 103, 32, 10, 61, 32, 120]⟩, ⟨#[48, 49, 50, 51, 52, 53, 54, 55, 56, 57, 48, 49, 50, 51, 52, 53, 54, 55, 56, 57, 48, 49, 50, 51, 52, 53, 54, 55, 56, 57, 48, 49, 50, 51, 52, 53, 54, 55, 56, 57, 48, 49, 50, 51, 52, 53, 54, 55, 56, 57, 48, 49, 50, 51, 52, 53, 54, 55, 56, 57, 48, 49, 50, 51, 52, 53, 54, 55, 56, 57, 48, 49, 50, 51, 52, 53, 54, 55, 56, 57, 48, 49, 50, 51, 52, 53, 54, 55, 56, 57, 48]⟩]
theorem row_cells (w : World) (L : List ByteArray) (j : Nat) (h : j < L.length) : ∃ s : ByteArray, s ∈ L ∧ (w.alloc (.cells (L.map Value.string).toArray 9)).cell? ⟨w.heap.size, j, none⟩ = some (.string s) :=
  ⟨L[j], List.getElem_mem h, ow.cell_new w (L.map Value.string) _ j _ (by simp [h])⟩
set_option maxHeartbeats 1000000 in
theorem pick_any (w : World) (b : Nat) (a : Option Addr) (len cap : Nat) (at_ sd : Int) (lb n c2 : Nat) (Q : ByteArray → Prop) (hs : Src w b a len cap at_ sd) (hc : sr.Code w b a len) (h0 : 0 ≤ at_) (h1 : at_ ≤ 900000) (s0 : 0 ≤ sd) (s1 : sd < 2147483648)
    (hn : 1 ≤ n) (hn2 : n ≤ 1000) (hne : lb ≠ b) (hcell : ∀ j, j < n → ∃ s : ByteArray, Q s ∧ w.cell? ⟨lb, j, none⟩ = some (.string s)) :
    Calls Tryz.prog 84 #[.pointer (some ⟨b, 0, none⟩), .slice (some ⟨lb, 0, none⟩) n c2] w fun e w' => ∃ (s : ByteArray) (at' sd' : Int), e = .returned (.string s) ∧ Q s ∧ at_ ≤ at' ∧ at' ≤ at_ + 3 ∧ 0 ≤ sd' ∧ sd' < 2147483648 ∧ Src w' b a len cap at' sd' ∧ w.grownBy w' (some b) := by
  have hz : ((n : Int) == 0) = false := beq_eq_false_iff_ne.2 (by omega)
  go_enter Tryz.func84, Tryz.ntmps84
  go_wp2_with fail
  refine (next_any _ b a len cap at_ sd n hs hc h0 h1 s0 s1 (by omega) (by omega)).mono ?_
  rintro e w1 ⟨x, at1, sd1, rfl, x0, x1, a0, a1, d0, d1, hs1, hg1⟩
  obtain ⟨k, rfl⟩ : ∃ k : Nat, x = (k : Int) := ⟨x.toNat, by omega⟩
  obtain ⟨s, hsz, hk⟩ := hcell k (by omega)
  have hk1 : w1.cell? ⟨lb, k, none⟩ = some (.string s) := hg1.cell hk (fun e => hne (by simpa using e))
  have HH : Hid (Src w1 b a len cap at1 sd1 ∧ w.grownBy w1 (some b) ∧ Q s) := ⟨hs1, hg1, hsz⟩
  clear hs1 hg1 hs hc hcell hk hsz
  have hlt : (k : Int) < (n : Int) := by omega
  go_wp2
  go_ret
  exact ⟨s, at1, sd1, rfl, HH.out.2.2, a0, a1, d0, d1, HH.out.1, HH.out.2.1⟩
/-- One of some texts. -/
def Pk (w : World) (b : Nat) (a : Option Addr) (len cap : Nat) (at_ : Int) (L : List ByteArray) (e : Ending) (w' : World) : Prop :=
  ∃ (s : ByteArray) (at' sd' : Int), e = .returned (.string s) ∧ s ∈ L ∧ at_ ≤ at' ∧ at' ≤ at_ + 3 ∧ 0 ≤ sd' ∧ sd' < 2147483648 ∧ Src w' b a len cap at' sd' ∧ sr.Code w' b a len ∧ w.grownBy w' (some b)
theorem list_any (L : List ByteArray) (n : Nat) (w : World) (b : Nat) (a : Option Addr) (len cap : Nat) (at_ sd : Int) (hs : Src w b a len cap at_ sd) (hc : sr.Code w b a len) (h0 : 0 ≤ at_) (h1 : at_ ≤ 900000) (s0 : 0 ≤ sd) (s1 : sd < 2147483648) (hL : n = L.length) (hn : 1 ≤ n) (hn2 : n ≤ 1000) :
    Calls Tryz.prog 84 #[.pointer (some ⟨b, 0, none⟩), .slice (some ⟨w.heap.size, 0, none⟩) n n] (w.alloc (.cells (L.map Value.string).toArray 9)) fun e w' => Pk w b a len cap at_ L e w' := by
  have hbw : b < w.heap.size := (Array.getElem?_eq_some_iff.1 hs).1
  have hga : w.grownBy (w.alloc (.cells (L.map Value.string).toArray 9)) (some b) := World.grownBy_alloc _ _ _
  have hsa : Src (w.alloc (.cells (L.map Value.string).toArray 9)) b a len cap at_ sd := src_keep hs (World.grownBy_alloc _ _ none) (by simp)
  have hca := code_keep hc hga
  refine (pick_any _ b a len cap at_ sd w.heap.size n n (· ∈ L) hsa hca h0 h1 s0 s1 hn hn2 (by omega) (fun j hj => row_cells w L j (by omega))).mono ?_
  rintro e w1 ⟨s, at1, sd1, he, hq, a0, a1, d0, d1, hs1, hg1⟩
  exact ⟨s, at1, sd1, he, hq, a0, a1, d0, d1, hs1, code_keep hca hg1, ow.grown_trans hga hg1⟩

set_option maxHeartbeats 1000000 in
set_option maxRecDepth 100000 in
theorem field_any (w : World) (b : Nat) (a : Option Addr) (len cap : Nat) (at_ sd : Int) (hs : Src w b a len cap at_ sd) (hc : sr.Code w b a len) (h0 : 0 ≤ at_) (h1 : at_ ≤ 900000) (s0 : 0 ≤ sd) (s1 : sd < 2147483648) :
    Calls Tryz.prog 85 #[.pointer (some ⟨b, 0, none⟩)] w fun e w' => Pk w b a len cap at_ fldL e w' := by
  have HP : Hid (Calls Tryz.prog 84 #[.pointer (some ⟨b, 0, none⟩), .slice (some ⟨w.heap.size, 0, none⟩) 8 8] (w.alloc (.cells (fldL.map Value.string).toArray 9)) fun e w' => Pk w b a len cap at_ fldL e w') := list_any fldL 8 w b a len cap at_ sd hs hc h0 h1 s0 s1 rfl (by omega) (by omega)
  clear hs hc
  go_enter Tryz.func85, Tryz.ntmps85
  go_wp2_with fail
  refine HP.out.mono ?_
  rintro e w1 ⟨s, at1, sd1, rfl, hq⟩
  have HH : Hid (s ∈ fldL ∧ at_ ≤ at1 ∧ at1 ≤ at_ + 3 ∧ 0 ≤ sd1 ∧ sd1 < 2147483648 ∧ Src w1 b a len cap at1 sd1 ∧ sr.Code w1 b a len ∧ w.grownBy w1 (some b)) := hq
  clear HP hq
  go_wp2
  go_ret
  exact ⟨s, at1, sd1, rfl, HH.out⟩
end Go.Proofs.YtinnnfkhiigjpaaGreat.se

namespace Go.Proofs.YtinnnfkhiigjpaaGreat.se
open Go.RowKit
open sr
set_option linter.unusedVariables false

/-- An entry as the program has it. -/
def EV6 (i t l au : ByteArray) (d : Int) (c : ByteArray) : Value := .agg #[.string i, .string t, .string l, .string au, .int .i64 d, .string c]
/-- What a drawn entry is. -/
def DrawnE (w : World) (b : Nat) (a : Option Addr) (len cap : Nat) (at_ : Int) (e : Ending) (w' : World) : Prop :=
  ∃ (i t l au c : ByteArray) (d at' sd' : Int), e = .returned (EV6 i t l au d c) ∧ (i ∈ idL ∧ t ∈ fldL ∧ l ∈ linkL ∧ au ∈ fldL ∧ c ∈ conL ∧ 0 ≤ d ∧ d ≤ 4102444799) ∧ at_ ≤ at' ∧ at' ≤ at_ + 24 ∧ 0 ≤ sd' ∧ sd' < 2147483648 ∧ Src w' b a len cap at' sd' ∧ sr.Code w' b a len ∧ w.grownBy w' (some b)
def B6 (w : World) (g : Nat) (T : TypeId) (v0 v1 v2 v3 v4 v5 : Value) : Prop := w.heap[g]? = some (.cells #[v0, v1, v2, v3, v4, v5] T (0, 0))
theorem B6.keep {w w' : World} {g b : Nat} {T : TypeId} {v0 v1 v2 v3 v4 v5 : Value} (h : B6 w g T v0 v1 v2 v3 v4 v5) (hg : w.grownBy w' (some b)) (hne : b ≠ g) : B6 w' g T v0 v1 v2 v3 v4 v5 :=
  (hg.block g (Array.getElem?_eq_some_iff.1 h).1 (by simp; omega)).trans h
theorem B6.cell {w : World} {g : Nat} {T : TypeId} {v0 v1 v2 v3 v4 v5 : Value} (h : B6 w g T v0 v1 v2 v3 v4 v5) (j : Nat) (v : Value) (hv : ([v0, v1, v2, v3, v4, v5] : List Value)[j]? = some v) : w.cell? ⟨g, j, none⟩ = some v := by
  rw [cell_of_row w _ _ _ _ _ h]
  simpa using hv
theorem B6.f {w : World} {g : Nat} {T : TypeId} {v0 v1 v2 v3 v4 v5 : Value} (h : B6 w g T v0 v1 v2 v3 v4 v5) (j : Nat) : w.frozen? ⟨g, j, none⟩ = false := frozen_of_row _ _ _ _ _ h
def fill (w : World) (g : Nat) (i t l au : ByteArray) (d : Int) (c : ByteArray) : World := (((((w.setCell ⟨g, 0, none⟩ (.string i)).setCell ⟨g, 1, none⟩ (.string t)).setCell ⟨g, 2, none⟩ (.string l)).setCell ⟨g, 3, none⟩ (.string au)).setCell ⟨g, 4, none⟩ (.int .i64 d)).setCell ⟨g, 5, none⟩ (.string c)
theorem fill_block {w : World} {g : Nat} {T : TypeId} {v0 v1 v2 v3 v4 v5 : Value} (h : B6 w g T v0 v1 v2 v3 v4 v5) (i t l au : ByteArray) (d : Int) (c : ByteArray) : B6 (fill w g i t l au d c) g T (.string i) (.string t) (.string l) (.string au) (.int .i64 d) (.string c) := by
  have M2 := heap_setCell_same _ g 0 _ _ (.string i) h
  have M3 := heap_setCell_same _ g 1 _ _ (.string t) M2
  have M4 := heap_setCell_same _ g 2 _ _ (.string l) M3
  have M5 := heap_setCell_same _ g 3 _ _ (.string au) M4
  have M6 := heap_setCell_same _ g 4 _ _ (.int .i64 d) M5
  exact heap_setCell_same _ g 5 _ _ (.string c) M6
theorem fill_grown (w : World) (g : Nat) (i t l au : ByteArray) (d : Int) (c : ByteArray) : w.grownBy (fill w g i t l au d c) (some g) := by
  unfold fill
  exact ow.grown_trans (ow.grown_trans (ow.grown_trans (ow.grown_trans (ow.grown_trans (grown_set _ _ _ _) (grown_set _ _ _ _)) (grown_set _ _ _ _)) (grown_set _ _ _ _)) (grown_set _ _ _ _)) (grown_set _ _ _ _)
theorem grown_in {w w1 w2 : World} {b g : Nat} (h1 : w.grownBy w1 (some b)) (h2 : w1.grownBy w2 (some g)) (hg : w.heap.size ≤ g) : w.grownBy w2 (some b) :=
  ⟨h2.os.trans h1.os, h2.tape.trans h1.tape, h2.output.trans h1.output, Nat.le_trans h1.size h2.size, fun i hi hr => (h2.block i (Nat.lt_of_lt_of_le hi h1.size) (by simp; omega)).trans (h1.block i hi hr)⟩

set_option maxHeartbeats 4000000 in
set_option maxRecDepth 100000 in
theorem entry_any (w : World) (b : Nat) (a : Option Addr) (len cap : Nat) (at_ sd : Int) (hs : Src w b a len cap at_ sd) (hc : sr.Code w b a len) (h0 : 0 ≤ at_) (h1 : at_ ≤ 700000) (s0 : 0 ≤ sd) (s1 : sd < 2147483648) :
    Calls Tryz.prog 71 #[.pointer (some ⟨b, 0, none⟩)] w fun e w' => DrawnE w b a len cap at_ e w' := by
  have hbw : b < w.heap.size := (Array.getElem?_eq_some_iff.1 hs).1
  have ga : w.grownBy (w.alloc (.cells #[.string ⟨#[]⟩, .string ⟨#[]⟩, .string ⟨#[]⟩, .string ⟨#[]⟩, .int .i64 0, .string ⟨#[]⟩] 97)) (some b) := World.grownBy_alloc _ _ _
  have hs0 := src_keep hs (World.grownBy_alloc w (.cells #[.string ⟨#[]⟩, .string ⟨#[]⟩, .string ⟨#[]⟩, .string ⟨#[]⟩, .int .i64 0, .string ⟨#[]⟩] 97) none) (by simp)
  have hc0 := code_keep hc ga
  have R0 : B6 (w.alloc (.cells #[.string ⟨#[]⟩, .string ⟨#[]⟩, .string ⟨#[]⟩, .string ⟨#[]⟩, .int .i64 0, .string ⟨#[]⟩] 97)) w.heap.size 97 (.string ⟨#[]⟩) (.string ⟨#[]⟩) (.string ⟨#[]⟩) (.string ⟨#[]⟩) (.int .i64 0) (.string ⟨#[]⟩) := (MapKept.heap_alloc w _).1
  obtain ⟨W0, hW0⟩ : ∃ W0, W0 = w.alloc (.cells #[.string ⟨#[]⟩, .string ⟨#[]⟩, .string ⟨#[]⟩, .string ⟨#[]⟩, .int .i64 0, .string ⟨#[]⟩] 97) := ⟨_, rfl⟩
  have hsz : W0.heap.size = w.heap.size + 1 := by rw [hW0]; simp
  rw [← hW0] at ga hs0 hc0 R0
  have HP : Hid (Calls Tryz.prog 84 #[.pointer (some ⟨b, 0, none⟩), .slice (some ⟨W0.heap.size, 0, none⟩) 5 5] (W0.alloc (.cells (idL.map Value.string).toArray 9)) fun e w' => Pk W0 b a len cap at_ idL e w') := list_any idL 5 W0 b a len cap at_ sd hs0 hc0 h0 (by omega) s0 s1 rfl (by omega) (by omega)
  rw [hsz, hW0] at HP
  clear hs hc hs0 hc0
  go_enter Tryz.func71, Tryz.ntmps71
  go_wp2_with fail
  refine HP.out.mono ?_
  rintro e w1 ⟨i, at1, sd1, rfl, hm_i, a10, a11, d10, d11, hs1, hc1, hg1⟩
  have HM_i : Hid (i ∈ idL) := hm_i
  clear hm_i
  rw [← hW0] at hg1
  have R1 := R0.keep hg1 (by omega)
  have G1 := ow.grown_trans ga hg1
  clear ga hg1 R0 HP hsz hW0
  go_wp2_with fail
  refine (field_any w1 b a len cap at1 sd1 hs1 hc1 (by omega) (by omega) d10 d11).mono ?_
  rintro e w2 ⟨t, at2, sd2, rfl, hm_t, a20, a21, d20, d21, hs2, hc2, hg2⟩
  have HM_t : Hid (t ∈ fldL) := hm_t
  clear hm_t
  have R2 := R1.keep hg2 (by omega)
  have G2 := ow.grown_trans G1 hg2
  clear hs1 hc1 R1 G1 hg2
  go_wp2_with fail
  refine (list_any linkL 3 w2 b a len cap at2 sd2 hs2 hc2 (by omega) (by omega) d20 d21 rfl (by omega) (by omega)).mono ?_
  rintro e w3 ⟨l, at3, sd3, rfl, hm_l, a30, a31, d30, d31, hs3, hc3, hg3⟩
  have HM_l : Hid (l ∈ linkL) := hm_l
  clear hm_l
  have R3 := R2.keep hg3 (by omega)
  have G3 := ow.grown_trans G2 hg3
  clear hs2 hc2 R2 G2 hg3
  go_wp2_with fail
  refine (field_any w3 b a len cap at3 sd3 hs3 hc3 (by omega) (by omega) d30 d31).mono ?_
  rintro e w4 ⟨au, at4, sd4, rfl, hm_au, a40, a41, d40, d41, hs4, hc4, hg4⟩
  have HM_au : Hid (au ∈ fldL) := hm_au
  clear hm_au
  have R4 := R3.keep hg4 (by omega)
  have G4 := ow.grown_trans G3 hg4
  clear hs3 hc3 R3 G3 hg4
  go_wp2_with fail
  refine (stamp_any w4 b a len cap at4 sd4 hs4 hc4 (by omega) (by omega) d40 d41).mono ?_
  rintro e w5 ⟨d, at5, sd5, rfl, n0, n1, a50, a51, d50, d51, hs5, hc5, hg5⟩
  have R5 := R4.keep hg5 (by omega)
  have G5 := ow.grown_trans G4 hg5
  clear hs4 hc4 R4 G4 hg5
  go_wp2_with fail
  refine (list_any conL 8 w5 b a len cap at5 sd5 hs5 hc5 (by omega) (by omega) d50 d51 rfl (by omega) (by omega)).mono ?_
  rintro e w6 ⟨c, at6, sd6, rfl, hm_c, a60, a61, d60, d61, hs6, hc6, hg6⟩
  have HM_c : Hid (c ∈ conL) := hm_c
  clear hm_c
  have R6 := R5.keep hg6 (by omega)
  have G6 := ow.grown_trans G5 hg6
  clear hs5 hc5 R5 G5 hg6
  have gE : w6.grownBy (w6.alloc (.cells #[.string i, .string t, .string l, .string au, .int .i64 d, .string c] 97)) (some b) := World.grownBy_alloc _ _ _
  have R7 := R6.keep gE (by omega)
  have G7 := ow.grown_trans G6 gE
  have hs7 := src_keep hs6 (World.grownBy_alloc w6 (.cells #[.string i, .string t, .string l, .string au, .int .i64 d, .string c] 97) none) (by simp)
  have hc7 := code_keep hc6 gE
  have r0 := R7.cell 0 _ rfl
  have r1 : (w6.alloc (.cells #[.string i, .string t, .string l, .string au, .int .i64 d, .string c] 97)).cell? ⟨w.heap.size, 0 + 1, none⟩ = _ := R7.cell 1 _ rfl
  have r2 : (w6.alloc (.cells #[.string i, .string t, .string l, .string au, .int .i64 d, .string c] 97)).cell? ⟨w.heap.size, 0 + 2, none⟩ = _ := R7.cell 2 _ rfl
  have r3 : (w6.alloc (.cells #[.string i, .string t, .string l, .string au, .int .i64 d, .string c] 97)).cell? ⟨w.heap.size, 0 + 3, none⟩ = _ := R7.cell 3 _ rfl
  have r4 : (w6.alloc (.cells #[.string i, .string t, .string l, .string au, .int .i64 d, .string c] 97)).cell? ⟨w.heap.size, 0 + 4, none⟩ = _ := R7.cell 4 _ rfl
  have r5 : (w6.alloc (.cells #[.string i, .string t, .string l, .string au, .int .i64 d, .string c] 97)).cell? ⟨w.heap.size, 0 + 5, none⟩ = _ := R7.cell 5 _ rfl
  have f := R7.f
  have HH : Hid (Src (w6.alloc (.cells #[.string i, .string t, .string l, .string au, .int .i64 d, .string c] 97)) b a len cap at6 sd6 ∧ sr.Code (w6.alloc (.cells #[.string i, .string t, .string l, .string au, .int .i64 d, .string c] 97)) b a len ∧ w.grownBy (w6.alloc (.cells #[.string i, .string t, .string l, .string au, .int .i64 d, .string c] 97)) (some b) ∧ B6 (w6.alloc (.cells #[.string i, .string t, .string l, .string au, .int .i64 d, .string c] 97)) w.heap.size 97 (.string ⟨#[]⟩) (.string ⟨#[]⟩) (.string ⟨#[]⟩) (.string ⟨#[]⟩) (.int .i64 0) (.string ⟨#[]⟩)) := ⟨hs7, hc7, G7, R7⟩
  have h67 : w6.heap.size ≠ w.heap.size := by have := G6.size; have := (Array.getElem?_eq_some_iff.1 R6).1; omega
  clear hs6 hc6 R6 G6 gE R7 G7 hs7 hc7
  go_wp2_with fail
  clear r0 r1 r2 r3 r4 r5 f h67
  change bodyPost _ _ _ _ _ (fill (w6.alloc (.cells #[.string i, .string t, .string l, .string au, .int .i64 d, .string c] 97)) w.heap.size i t l au d c)
  obtain ⟨hs7, hc7, G7, R7⟩ := HH.out
  have A5 := fill_block R7 i t l au d c
  have gf := fill_grown (w6.alloc (.cells #[.string i, .string t, .string l, .string au, .int .i64 d, .string c] 97)) w.heap.size i t l au d c
  have G8 := grown_in G7 gf (Nat.le_refl _)
  have hs8 := src_keep hs7 gf (by simp; omega)
  have hc8 := code_keep' hc7 gf (fun k e => by cases e; omega)
  clear HH hs7 hc7 G7 R7 gf
  generalize fill _ _ _ _ _ _ _ _ = X at A5 G8 hs8 hc8 ⊢
  have x0 := A5.cell 0 _ rfl
  have x1 := A5.cell 1 _ rfl
  have x2 := A5.cell 2 _ rfl
  have x3 := A5.cell 3 _ rfl
  have x4 := A5.cell 4 _ rfl
  have x5 := A5.cell 5 _ rfl
  exact bodyPost_ret (v := .agg #[.string i, .string t, .string l, .string au, .int .i64 d, .string c]) (by simp [results, Tryz.results71, go_sem, x0, x1, x2, x3, x4, x5]) rfl ⟨i, t, l, au, c, d, at6, sd6, rfl, ⟨HM_i.out, HM_t.out, HM_l.out, HM_au.out, HM_c.out, n0, n1⟩, by omega, by omega, d60, d61, hs8, hc8, G8⟩

end Go.Proofs.YtinnnfkhiigjpaaGreat.se
