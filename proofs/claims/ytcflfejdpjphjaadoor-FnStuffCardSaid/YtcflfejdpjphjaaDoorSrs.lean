/-
  A drawn entry: its texts are picked out of rows of texts, its stamp is drawn.
-/
import Derived.Test.YtcflfejdpjphjaaDoorSrc
namespace Go.Proofs.YtcflfejdpjphjaaDoor.se
open Go.RowKit
open sr
set_option linter.unusedVariables false

/-- Bytes that came in: a slice of them, each from 0 to 255. -/
def Bytes (w : World) (a : Option Addr) (len : Nat) : Prop :=
  len ≤ 1048576 ∧ (len = 0 ∨ ∃ cb off, a = some ⟨cb, off, none⟩ ∧ ∀ j, j < len → ∃ z : Int, 0 ≤ z ∧ z ≤ 255 ∧ w.cell? ⟨cb, off + j, none⟩ = some (.int .u8 z))
theorem bytes_below {w w' : World} {a : Option Addr} {len : Nat} (h : Bytes w a len) (hb : Below w.heap.size w w') : Bytes w' a len := by
  obtain ⟨hl, h⟩ := h
  refine ⟨hl, ?_⟩
  rcases h with h | ⟨cb, off, rfl, hc⟩
  · exact .inl h
  · refine .inr ⟨cb, off, rfl, fun j hj => ?_⟩
    obtain ⟨z, z0, z1, hz⟩ := hc j hj
    exact ⟨z, z0, z1, (hb.cell (p := ⟨cb, off + j, none⟩) (World.block_lt_of_cell? w _ hz)).trans hz⟩
/-- The world with a new source. -/
def started (w : World) (a : Option Addr) (len cap : Nat) : World := w.alloc (.cells #[.slice a len cap, .int .i64 0, .int .i64 ((len : Int) % 1000)] 46)
theorem src_started (w : World) (a : Option Addr) (len cap : Nat) : Src (started w a len cap) w.heap.size a len cap 0 ((len : Int) % 1000) := by
  show (w.heap.push _)[w.heap.size]? = _
  simp
theorem code_started {w : World} {a : Option Addr} {len cap : Nat} (h : Bytes w a len) : sr.Code (started w a len cap) w.heap.size a len := by
  obtain ⟨hl, h⟩ := h
  refine ⟨hl, ?_⟩
  rcases h with h | ⟨cb, off, rfl, hc⟩
  · exact .inl h
  · by_cases h0 : len = 0
    · exact .inl h0
    obtain ⟨z, _, _, hz⟩ := hc 0 (by omega)
    have hlt : cb < w.heap.size := World.block_lt_of_cell? w _ hz
    refine .inr ⟨cb, off, rfl, hlt, fun j hj => ?_⟩
    obtain ⟨z, z0, z1, hz⟩ := hc j hj
    have hb : Below w.heap.size w (started w (some ⟨cb, off, none⟩) len cap) := (Below.refl _ _).alloc (Nat.le_refl _) _
    exact ⟨z, z0, z1, (hb.cell (p := ⟨cb, off + j, none⟩) hlt).trans hz⟩

set_option maxHeartbeats 1000000 in
theorem source_any (w : World) (a : Option Addr) (len cap : Nat) (h : len ≤ 1048576) :
    Calls Tryd.prog 11 #[.slice a len cap] w fun e w' => e = .returned (.pointer (some ⟨w.heap.size, 0, none⟩)) ∧ w' = started w a len cap := by
  go_enter Tryd.func11, Tryd.ntmps11
  go_wp2
  go_ret
  exact ⟨rfl, rfl⟩

theorem grown_alloc (w : World) (o : Obj) : w.grownBy (w.alloc o) none := ⟨rfl, rfl, rfl, by simp, fun k hk _ => Below.heap_alloc _ _ _ hk⟩
theorem grown_none {w w1 w2 : World} {row : Option Nat} (h1 : w.grownBy w1 row) (h2 : w1.grownBy w2 none) : w.grownBy w2 row :=
  ⟨h2.os.trans h1.os, h2.tape.trans h1.tape, h2.output.trans h1.output, Nat.le_trans h1.size h2.size, fun i hi hr => (h2.block i (Nat.lt_of_lt_of_le hi h1.size) (by simp)).trans (h1.block i hi hr)⟩
theorem row_cells (w : World) (L : List ByteArray) (j : Nat) (h : j < L.length) : ∃ s : ByteArray, s ∈ L ∧ (w.alloc (.cells (L.map Value.string).toArray 9)).cell? ⟨w.heap.size, j, none⟩ = some (.string s) :=
  ⟨L[j], List.getElem_mem h, ow.cell_new w (L.map Value.string) _ j _ (by simp [h])⟩
set_option maxHeartbeats 1000000 in
theorem pick_any (w : World) (b : Nat) (a : Option Addr) (len cap : Nat) (at_ sd : Int) (lb n c2 : Nat) (Q : ByteArray → Prop) (hs : Src w b a len cap at_ sd) (hc : sr.Code w b a len) (h0 : 0 ≤ at_) (h1 : at_ ≤ 900000) (s0 : 0 ≤ sd) (s1 : sd < 2147483648)
    (hn : 1 ≤ n) (hn2 : n ≤ 1000) (hne : lb ≠ b) (hcell : ∀ j, j < n → ∃ s : ByteArray, Q s ∧ w.cell? ⟨lb, j, none⟩ = some (.string s)) :
    Calls Tryd.prog 23 #[.pointer (some ⟨b, 0, none⟩), .slice (some ⟨lb, 0, none⟩) n c2] w fun e w' => ∃ (s : ByteArray) (at' sd' : Int), e = .returned (.string s) ∧ Q s ∧ at_ ≤ at' ∧ at' ≤ at_ + 3 ∧ 0 ≤ sd' ∧ sd' < 2147483648 ∧ Src w' b a len cap at' sd' ∧ w.grownBy w' (some b) := by
  have hz : ((n : Int) == 0) = false := beq_eq_false_iff_ne.2 (by omega)
  go_enter Tryd.func23, Tryd.ntmps23
  go_wp2_with fail
  refine (next_any _ b a len cap at_ sd n hs hc h0 h1 s0 s1 (by omega) (by omega)).mono ?_
  rintro e w1 ⟨x, at1, sd1, rfl, x0, x1, a0, a1, d0, d1, hs1, hg1⟩
  obtain ⟨k, rfl⟩ : ∃ k : Nat, x = (k : Int) := ⟨x.toNat, by omega⟩
  obtain ⟨s, hsz, hk⟩ := hcell k (by omega)
  have hk1 : w1.cell? ⟨lb, k, none⟩ = some (.string s) := hg1.cell hk (fun e => hne (by simpa using e))
  have HH : Hid (Src w1 b a len cap at1 sd1 ∧ w.grownBy w1 (some b) ∧ Q s) := ⟨hs1, hg1, hsz⟩
  clear hs1 hg1 hs hc hcell hk hsz
  have hlt : (k : Int) < (n : Int) := by omega
  go_wp2
  go_ret
  exact ⟨s, at1, sd1, rfl, HH.out.2.2, a0, a1, d0, d1, HH.out.1, HH.out.2.1⟩
/-- One of some texts. -/
def Pk (w : World) (b : Nat) (a : Option Addr) (len cap : Nat) (at_ : Int) (L : List ByteArray) (e : Ending) (w' : World) : Prop :=
  ∃ (s : ByteArray) (at' sd' : Int), e = .returned (.string s) ∧ s ∈ L ∧ at_ ≤ at' ∧ at' ≤ at_ + 3 ∧ 0 ≤ sd' ∧ sd' < 2147483648 ∧ Src w' b a len cap at' sd' ∧ sr.Code w' b a len ∧ w.grownBy w' (some b)
theorem list_any (L : List ByteArray) (n : Nat) (w : World) (b : Nat) (a : Option Addr) (len cap : Nat) (at_ sd : Int) (hs : Src w b a len cap at_ sd) (hc : sr.Code w b a len) (h0 : 0 ≤ at_) (h1 : at_ ≤ 900000) (s0 : 0 ≤ sd) (s1 : sd < 2147483648) (hL : n = L.length) (hn : 1 ≤ n) (hn2 : n ≤ 1000) :
    Calls Tryd.prog 23 #[.pointer (some ⟨b, 0, none⟩), .slice (some ⟨w.heap.size, 0, none⟩) n n] (w.alloc (.cells (L.map Value.string).toArray 9)) fun e w' => Pk w b a len cap at_ L e w' := by
  have hbw : b < w.heap.size := (Array.getElem?_eq_some_iff.1 hs).1
  have hga : w.grownBy (w.alloc (.cells (L.map Value.string).toArray 9)) (some b) := World.grownBy_alloc _ _ _
  have hsa : Src (w.alloc (.cells (L.map Value.string).toArray 9)) b a len cap at_ sd := src_keep hs (World.grownBy_alloc _ _ none) (by simp)
  have hca := code_keep hc hga
  refine (pick_any _ b a len cap at_ sd w.heap.size n n (· ∈ L) hsa hca h0 h1 s0 s1 hn hn2 (by omega) (fun j hj => row_cells w L j (by omega))).mono ?_
  rintro e w1 ⟨s, at1, sd1, he, hq, a0, a1, d0, d1, hs1, hg1⟩
  exact ⟨s, at1, sd1, he, hq, a0, a1, d0, d1, hs1, code_keep hca hg1, ow.grown_trans hga hg1⟩

/-- The nine texts of sets that are drawn. -/
def setL : List ByteArray := [⟨#[49]⟩, ⟨#[49, 58, 51]⟩, ⟨#[42]⟩, ⟨#[50, 58, 42]⟩, ⟨#[49, 44, 51, 44, 53, 58, 52]⟩, ⟨#[42, 58, 49]⟩, ⟨#[52, 50, 57, 52, 57, 54, 55, 50, 57, 53]⟩, ⟨#[49, 58, 50, 44, 52]⟩, ⟨#[55]⟩]

end Go.Proofs.YtcflfejdpjphjaaDoor.se
