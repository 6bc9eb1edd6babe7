/-
  Two mutations held against each other by the laws; a drawn mutation, as a whole.
  Regions that draw their order and append to a row of bytes: what has come up, what the row holds, what lies beside it.
  A log as an argument: opened; measured and copied by the law's own functions; both LogOK functions.
  A number in so many bytes, the higher ones first: the program's.
-/
import Derived.Test.YtinnnfkhiigjpaaPkaz
import Derived.DeepKeys
import Derived.Deep.QuietTactic
import Derived.BigQuiet
import Derived.Test.YtinnnfkhiigjpaaPkax
import Derived.Test.YtinnnfkhiigjpaaPkaa
import Derived.Test.YtinnnfkhiigjpaaRows
import Derived.Below
import Derived.WalkKit
import Derived.Laws.AppendOwn
import Derived.Lib.AppendStr
import Derived.Lib.UnsafeStr
import Derived.WalkLawsBesides
import Derived.ProofKit
import Derived.OpenShut
import Derived.ChangeOld
import Derived.Deep.Fields
import Derived.Lib.SmallJoins
import Derived.Test.YtinnnfkhiigjpaaPkas
import Derived.Test.YtinnnfkhiigjpaaPkah
import Derived.Laws.MakeOwn

namespace Go.Proofs.Ytinnnfkhiigjpaa.dm
open Go.RowKit Go.WideShapes Go.Deep
open it
set_option linter.unusedVariables false

set_option maxRecDepth 100000 in
theorem lits_of (a b : ByteArray) (ha : a.size ≤ 1048576) (hb : b.size ≤ 1048576) : Try.prog.keyLits 2 39 [.string a, .string b] = some [.string a.data.toList, .string b.data.toList] := by
  have hc : Try.prog.cellsOf 39 = 2 := by kernel_rfl
  have hs : Try.prog.cellsOf 9 = 1 := by kernel_rfl
  simp [Program.keyLits, Try.underlying39, Try.underlying9, hc, hs, show a.size ≤ maxLen by unfold maxLen; omega, show b.size ≤ maxLen by unfold maxLen; omega]
theorem formed_of (a b : ByteArray) : (Value.agg #[.string a, .string b]).formed Try.prog 39 = true := by
  have hc : Try.prog.cellsOf 39 = 2 := by kernel_rfl
  simp [Value.formed, Try.underlying39, hc]
theorem key_at : Try.prog.keyTypeAt 2 39 = true := by kernel_rfl
theorem eq_run (a b : ByteArray) (ha : a.size ≤ 1048576) (hb : b.size ≤ 1048576) (w : World) : (Op.equal 39 (.agg #[.string a, .string b]) (.agg #[.string a, .string b])).run Try.prog w = .ok true w := by
  obtain ⟨r, h1, h2⟩ := run_equalIn_deep (P := Try.prog) 9998 2 39 key_at w 2 2 (.agg #[.string a, .string b]) (.agg #[.string a, .string b]) _ _ (formed_of a b) (formed_of a b) (by simpa [Value.cells] using lits_of a b ha hb) (by simpa [Value.cells] using lits_of a b ha hb)
  have hr : r = true := h2.2 rfl
  rw [← hr]
  exact h1
theorem ne_run (a b : ByteArray) (ha : a.size ≤ 1048576) (hb : b.size ≤ 1048576) (w : World) : (Go.binOp .neq 39 (.agg #[.string a, .string b]) (.agg #[.string a, .string b])).run Try.prog w = .ok (.bool false) w := by
  simp [Go.binOp, eq_run a b ha hb w, Result.andThen]
theorem guard_run (x y : Operand) (a b : Array Value) (w : World) : (eqGuard .neq 39 x y (.agg a) (.agg b)).run Try.prog w = .ok () w := by
  have h : Try.prog.eqGuardType Try.prog.depth 39 = false := by kernel_rfl
  simp [eqGuard, h, Result.andThen]
set_option maxHeartbeats 4000000 in
set_option maxRecDepth 100000 in
theorem sameMut_any (x : mu.Mu) (v u : Value) (w : World) (h1 : AttrsAt w v x.ps) (h2 : AttrsAt w u x.ps) (hs : mu.Small x) :
    Calls Try.prog 8 #[mu.MV x v, mu.MV x u] w fun e w' => e = .returned (.bool true) ∧ Below w.heap.size w w' := by
  obtain ⟨k0, u0, m0, f0, bx, ps⟩ := x
  have HS : Hid (ps.length ≤ 1048576 ∧ ∀ j, j < ps.length → (ps.getD j no).1.size ≤ 1048576 ∧ (ps.getD j no).2.size ≤ 1048576) := hs.2.2
  clear hs
  have b0 := mu.new_below w 25 #[.int .i64 k0, .int .i64 u0, .int .i64 m0, .int .i64 f0, .string bx, v]
  have b1 := mu.new_below (w.alloc (.cells #[.int .i64 k0, .int .i64 u0, .int .i64 m0, .int .i64 f0, .string bx, v] 25)) 25 #[.int .i64 k0, .int .i64 u0, .int .i64 m0, .int .i64 f0, .string bx, u]
  have L0 := (mu.lies_new w 25 ⟨k0, u0, m0, f0, bx, ps⟩ v).keep b1
  have L1 := mu.lies_new (w.alloc (.cells #[.int .i64 k0, .int .i64 u0, .int .i64 m0, .int .i64 f0, .string bx, v] 25)) 25 ⟨k0, u0, m0, f0, bx, ps⟩ u
  have bel := b0.trans (b1.mono b0.size)
  have A1 := at_below h1 bel
  have A2 := at_below h2 bel
  rw [show (w.alloc (.cells #[.int .i64 k0, .int .i64 u0, .int .i64 m0, .int .i64 f0, .string bx, v] 25)).heap.size = w.heap.size + 1 by simp] at L1
  clear h1 h2 b0 b1
  obtain ⟨a, cap, rfl, q1⟩ := A1
  obtain ⟨c, cap2, rfl, q2⟩ := A2
  obtain ⟨n, hn⟩ : ∃ n, n = ps.length := ⟨_, rfl⟩
  simp only at q1 q2
  rw [← hn] at L0 L1 bel q1 q2
  unfold mu.MV
  simp only
  rw [← hn]
  have HN : Hid (n = ps.length) := hn
  have hn2 : n ≤ 1048576 := by rw [hn]; exact HS.out.1
  clear hn
  obtain ⟨W, hW⟩ : ∃ W, W = (w.alloc (.cells #[.int .i64 k0, .int .i64 u0, .int .i64 m0, .int .i64 f0, .string bx, .slice a n cap] 25)).alloc (.cells #[.int .i64 k0, .int .i64 u0, .int .i64 m0, .int .i64 f0, .string bx, .slice c n cap2] 25) := ⟨_, rfl⟩
  rw [← hW] at L0 L1 bel q1 q2
  have HL0 : Hid (mu.Lies W w.heap.size 25 ⟨k0, u0, m0, f0, bx, ps⟩ (.slice a n cap)) := L0
  have HL1 : Hid (mu.Lies W (w.heap.size + 1) 25 ⟨k0, u0, m0, f0, bx, ps⟩ (.slice c n cap2)) := L1
  have HB : Hid (Below w.heap.size w W) := bel
  have H1 : Hid (ps = [] ∨ ∃ b off, a = some ⟨b, off, none⟩ ∧ ∀ j, j < n → W.cell? ⟨b, off + j * 2, none⟩ = some (.string (ps.getD j no).1) ∧ W.cell? ⟨b, off + j * 2 + 1, none⟩ = some (.string (ps.getD j no).2)) := q1
  have H2 : Hid (ps = [] ∨ ∃ b off, c = some ⟨b, off, none⟩ ∧ ∀ j, j < n → W.cell? ⟨b, off + j * 2, none⟩ = some (.string (ps.getD j no).1) ∧ W.cell? ⟨b, off + j * 2 + 1, none⟩ = some (.string (ps.getD j no).2)) := q2
  have HW : Hid (W = (w.alloc (.cells #[.int .i64 k0, .int .i64 u0, .int .i64 m0, .int .i64 f0, .string bx, .slice a n cap] 25)).alloc (.cells #[.int .i64 k0, .int .i64 u0, .int .i64 m0, .int .i64 f0, .string bx, .slice c n cap2] 25)) := hW
  clear q1 q2 L0 L1 bel hW
  have e0 : (k0 != k0) = false := by simp
  have e1 : (u0 != u0) = false := by simp
  have e2 : (m0 != m0) = false := by simp
  have e3 : (f0 != f0) = false := by simp
  have e4 : (bx.toList != bx.toList) = false := by simp
  have e5 : ((n : Int) != (n : Int)) = false := by simp
  go_enter Try.func8, Try.ntmps8
  go_wp2
  clear e0 e1 e2 e3 e4 e5
  rw [← HW.out]
  go_loopw [5] (fun i wr => ∃ k : Nat, k ≤ n ∧ i = .int .i64 k ∧ Below W.heap.size W wr) (fun i _ => n - (intOf i).toNat)
  case atStart => exact ⟨0, Nat.zero_le _, rfl, Below.refl _ _⟩
  case round =>
    clear HW
    obtain ⟨k, hk, rfl, hbw⟩ := hrel
    have l0 := (HL0.out.keep hbw).c5
    have l1 := (HL1.out.keep hbw).c5
    by_cases hlt : k < n
    · have hka : k < ps.length := by rw [← HN.out]; exact hlt
      obtain ⟨e0, e1⟩ := HS.out.2 k hka
      rcases H1.out with e | ⟨b, off, rfl, hcells⟩
      · rw [e] at hka; simp at hka
      rcases H2.out with e | ⟨b2, off2, rfl, hcells2⟩
      · rw [e] at hka; simp at hka
      obtain ⟨v0, v1⟩ := hcells k hlt
      obtain ⟨y0, y1⟩ := hcells2 k hlt
      have hblt : b < W.heap.size := World.block_lt_of_cell? W _ v0
      have hblt2 : b2 < W.heap.size := World.block_lt_of_cell? W _ y0
      have c0 := (hbw.cell (p := ⟨b, off + k * 2, none⟩) hblt).trans v0
      have c1 := (hbw.cell (p := ⟨b, off + k * 2 + 1, none⟩) hblt).trans v1
      have d0 := (hbw.cell (p := ⟨b2, off2 + k * 2, none⟩) hblt2).trans y0
      have d1 := (hbw.cell (p := ⟨b2, off2 + k * 2 + 1, none⟩) hblt2).trans y1
      clear hcells hcells2 hka v0 v1 y0 y1
      generalize (ps.getD k no).1 = x at c0 d0 e0
      generalize (ps.getD k no).2 = y at c1 d1 e1
      have hr := ne_run x y e0 e1
      have hg := guard_run
      have hlt' : (k : Int) < (n : Int) := by omega
      have hk0 : (0 : Int) ≤ (k : Int) := by omega
      have HWR : Hid (∀ z, Below W.heap.size W (wr.drewN z)) := fun z => below_drewN hbw z
      clear hbw e0 e1
      go_wp2_with fail
      go_quiet (fail)
      clear hr hg
      go_wp2
      go_roundw
      case rel => exact ⟨k + 1, by omega, by go_num, HWR.out _⟩
      case measure => simp [intOf]; omega
    · have hkn : k = n := by omega
      subst hkn
      go_wp2
      go_ret
      exact ⟨rfl, HB.out.trans (hbw.mono HB.out.size)⟩
set_option maxHeartbeats 2000000 in
set_option maxRecDepth 100000 in
theorem mutationOf_any (w : World) (a : Option Addr) (len cap : Nat) (h : se.Bytes w a len) :
    Calls Try.prog 4 #[.slice a len cap] w fun e w' => (∃ (x : mu.Mu) (v : Value), e = .returned (mu.MV x v) ∧ mu.mok x = true ∧ x.ps.length ≤ 3 ∧ AttrsAt w' v x.ps) ∧ Below w.heap.size w w' := by
  have hl := h.1
  have b0 : Below w.heap.size w (w.alloc (.cells #[.int .i64 0, .int .i64 0, .int .i64 0, .int .i64 0, .string ⟨#[]⟩, .slice none 0 0] 25)) := (Below.refl _ _).alloc (Nat.le_refl _) _
  have R0 : Zero (w.alloc (.cells #[.int .i64 0, .int .i64 0, .int .i64 0, .int .i64 0, .string ⟨#[]⟩, .slice none 0 0] 25)) w.heap.size := (MapKept.heap_alloc w _).1
  have h0 := se.bytes_below h b0
  go_enter Try.func4, Try.ntmps4
  go_wp2_with fail
  generalize w.alloc _ = w0 at b0 R0 h0 ⊢
  refine (se.source_any _ a len cap hl).mono ?_
  rintro e w1 ⟨rfl, rfl⟩
  have hs := se.src_started w0 a len cap
  have hc := se.code_started (cap := cap) h0
  have hb : Below w0.heap.size w0 (se.started w0 a len cap) := (Below.refl _ _).alloc (Nat.le_refl _) _
  have hrl : w.heap.size < w0.heap.size := B6.lt R0
  have R1 : Zero (se.started w0 a len cap) w.heap.size := (hb.block _ hrl).trans R0
  have b1 := b0.trans (hb.mono b0.size)
  generalize se.started w0 a len cap = w1 at hs hc R1 b1 ⊢
  clear hb R0 b0 h0 h
  have hB1 : w0.heap.size < w1.heap.size := (Array.getElem?_eq_some_iff.1 hs).1
  generalize w0.heap.size = B at hs hc hrl hB1 ⊢
  go_wp2_with fail
  refine (mutation_any _ _ a len cap 0 _ hs hc (by omega) (by omega) (Int.emod_nonneg _ (by omega)) (by have := Int.emod_lt_of_pos (len : Int) (show (0 : Int) < 1000 by omega); omega)).mono ?_
  rintro e w2 ⟨x, v, at', sd', rfl, hm, hp, hr, a0, a1, d0, d1, hs2, hc2, hg⟩
  have R2 : Zero w2 w.heap.size := B6.grow R1 hg (fun e => by have := Option.some.inj e; omega)
  have b2 : Below w.heap.size w w2 := Below.grown b1 hg b1.size (fun k e => by cases e; omega)
  have HM : Hid (mu.mok x = true ∧ x.ps.length ≤ 3 ∧ Rows2 w2 w1.heap.size v x.ps) := ⟨hm, hp, hr⟩
  obtain ⟨av, nv, cv, rfl⟩ : ∃ a n c, v = .slice a n c := by
    rcases hr.2 with ⟨rfl, _⟩ | ⟨g, cap, cur, rfl, _⟩
    · exact ⟨_, _, _, rfl⟩
    · exact ⟨_, _, _, rfl⟩
  clear hm hp hr hs hc hs2 hc2 hg R1 b1
  obtain ⟨k0, u0, m0, f0, bx, ps⟩ := x
  have r0 : w2.cell? ⟨w.heap.size, 0, none⟩ = _ := R2.cell 0 _ rfl
  have r1 : w2.cell? ⟨w.heap.size, 0 + 1, none⟩ = _ := R2.cell 1 _ rfl
  have r2 : w2.cell? ⟨w.heap.size, 0 + 2, none⟩ = _ := R2.cell 2 _ rfl
  have r3 : w2.cell? ⟨w.heap.size, 0 + 3, none⟩ = _ := R2.cell 3 _ rfl
  have r4 : w2.cell? ⟨w.heap.size, 0 + 4, none⟩ = _ := R2.cell 4 _ rfl
  have r5 : w2.cell? ⟨w.heap.size, 0 + 5, none⟩ = _ := R2.cell 5 _ rfl
  have f := R2.f
  have HR : Hid (Zero w2 w.heap.size) := R2
  have HB : Hid (w.heap.size < w1.heap.size ∧ Below w.heap.size w w2) := ⟨by omega, b2⟩
  clear R2 b2 hB1 hrl
  unfold mu.MV
  simp only
  go_wp2_with fail
  clear r0 r1 r2 r3 r4 r5 f
  change bodyPost _ _ _ _ _ (put6 w2 w.heap.size (.int .i64 k0) (.int .i64 u0) (.int .i64 m0) (.int .i64 f0) (.string bx) (.slice av nv cv))
  have hg := put6_grown w2 w.heap.size (.int .i64 k0) (.int .i64 u0) (.int .i64 m0) (.int .i64 f0) (.string bx) (.slice av nv cv)
  have A5 := B6.put (a := .int .i64 k0) (b := .int .i64 u0) (c := .int .i64 m0) (d := .int .i64 f0) (e := .string bx) (f := .slice av nv cv) HR.out
  have b3 : Below w.heap.size w (put6 w2 w.heap.size (.int .i64 k0) (.int .i64 u0) (.int .i64 m0) (.int .i64 f0) (.string bx) (.slice av nv cv)) := Below.grown HB.out.2 hg HB.out.2.size (fun k e => by cases e; exact Nat.le_refl _)
  have hr : AttrsAt (put6 w2 w.heap.size (.int .i64 k0) (.int .i64 u0) (.int .i64 m0) (.int .i64 f0) (.string bx) (.slice av nv cv)) (.slice av nv cv) ps := rows_at (own_grow HM.out.2.2 hg (fun k e => by cases e; exact HB.out.1))
  generalize put6 _ _ _ _ _ _ _ _ = W5 at A5 b3 hr ⊢
  have d0 : W5.cell? ⟨w.heap.size, 0, none⟩ = _ := A5.cell 0 _ rfl
  have d1 : W5.cell? ⟨w.heap.size, 0 + 1, none⟩ = _ := A5.cell 1 _ rfl
  have d2 : W5.cell? ⟨w.heap.size, 0 + 2, none⟩ = _ := A5.cell 2 _ rfl
  have d3 : W5.cell? ⟨w.heap.size, 0 + 3, none⟩ = _ := A5.cell 3 _ rfl
  have d4 : W5.cell? ⟨w.heap.size, 0 + 4, none⟩ = _ := A5.cell 4 _ rfl
  have d5 : W5.cell? ⟨w.heap.size, 0 + 5, none⟩ = _ := A5.cell 5 _ rfl
  exact bodyPost_ret (v := .agg #[.int .i64 k0, .int .i64 u0, .int .i64 m0, .int .i64 f0, .string bx, .slice av nv cv]) (by simp [results, Try.results4, go_sem, d0, d1, d2, d3, d4, d5]) rfl ⟨⟨_, _, rfl, HM.out.1, HM.out.2.1, hr⟩, b3⟩
end Go.Proofs.Ytinnnfkhiigjpaa.dm

namespace Go.Proofs.Ytinnnfkhiigjpaa.ra
open Go.RowKit
set_option linter.unusedVariables false

/-- A row of bytes that a call made. -/
def Own (x : World) (B : Nat) (v : Value) (l : List UInt8) : Prop := x.ownsRow B 5 1 v l.length (Lib.byteCells l)
theorem own_form {x : World} {B : Nat} {v : Value} {l : List UInt8} (h : Own x B v l) : ∃ a n c, v = .slice a n c := by
  rcases h.2 with ⟨rfl, _⟩ | ⟨g, cap, cur, rfl, _⟩
  · exact ⟨_, _, _, rfl⟩
  · exact ⟨_, _, _, rfl⟩
theorem own_len {x : World} {B : Nat} {v : Value} {l : List UInt8} (h : Own x B v l) : ∃ a c, v = .slice a l.length c := by
  rcases h.2 with ⟨rfl, h0⟩ | ⟨g, cap, cur, rfl, _⟩
  · exact ⟨none, 0, by rw [h0]⟩
  · exact ⟨_, _, rfl⟩
/-- Bytes that another row holds, in a block from Bc on. -/
def Src (Bc : Nat) (x : World) (v : Value) (s : List UInt8) : Prop := ∃ g c, v = .slice (some ⟨g, 0, none⟩) s.length c ∧ Bc ≤ g ∧ g < x.heap.size ∧ ∀ j u, (Lib.byteCells s)[j]? = some u → x.cell? ⟨g, j, none⟩ = some u
structure Q2 where
  V : Nat → Option Value
  K : World → Prop
  B1 : Nat
  Bc : Nat
  v0 : Value
  l0 : List UInt8
  s1 : List UInt8
  s2 : List UInt8
  a1 : Nat
  a2 : Nat
  c1 : Nat
  c2 : Nat
def J2 (q : Q2) (D : Nat → Prop) (f : Nat → Value) (x : World) : Prop :=
  (∀ j, D j → ∀ y, q.V j = some y → f j = y) ∧ q.K x ∧ q.Bc ≤ x.heap.size ∧ (¬ D q.a1 → Own x q.B1 q.v0 q.l0) ∧ (D q.a1 → ¬ D q.a2 → Own x q.B1 (f q.a1) (q.l0 ++ q.s1)) ∧ (D q.a2 → Own x q.B1 (f q.a2) (q.l0 ++ q.s1 ++ q.s2)) ∧
  (D q.c1 → ¬ D q.a1 → Src q.Bc x (f q.c1) q.s1) ∧ (D q.c2 → ¬ D q.a2 → Src q.Bc x (f q.c2) q.s2)
structure Q2.Good (q : Q2) : Prop where
  below : ∀ x x', q.K x → Below x.heap.size x x' → q.K x'
  row : ∀ x x' v l, q.K x → Own x q.B1 v l → x.grownBy x' v.ownBlock → q.K x'
  far : ∀ k, q.v0.ownBlock = some k → k < q.Bc
  n12 : q.a1 ≠ q.a2
  n13 : q.a1 ≠ q.c1
  n14 : q.a1 ≠ q.c2
  n23 : q.a2 ≠ q.c1
  n24 : q.a2 ≠ q.c2
  n34 : q.c1 ≠ q.c2
theorem vals {V : Nat → Option Value} {D : Nat → Prop} {f : Nat → Value} {i : Nat} {y : Value} (h : ∀ j, D j → ∀ z, V j = some z → f j = z) (hy : ∀ z, V i = some z → y = z) : ∀ j, (j = i ∨ D j) → ∀ z, V j = some z → rs.upd f i y j = z := by
  intro j hj z hz
  by_cases e : j = i
  · subst e
    rw [rs.upd_same]
    exact hy z hz
  · rw [rs.upd_other f i y e]
    exact h j (hj.resolve_left e) z hz
theorem Src.keep {Bc : Nat} {x x' : World} {v : Value} {s : List UInt8} (h : Src Bc x v s) (hb : Below x.heap.size x x') : Src Bc x' v s := by
  obtain ⟨g, c, e, h1, h2, h3⟩ := h
  exact ⟨g, c, e, h1, Nat.lt_of_lt_of_le h2 hb.size, fun j u hu => (hb.cell (p := ⟨g, j, none⟩) h2).trans (h3 j u hu)⟩
section
variable {q : Q2} {D : Nat → Prop} {f : Nat → Value} {x x' : World} {i : Nat}
theorem J2.pure (y : Value) (h : J2 q D f x) (hy : ∀ z, q.V i = some z → y = z) (h1 : q.a1 ≠ i) (h2 : q.a2 ≠ i) (h3 : q.c1 ≠ i) (h4 : q.c2 ≠ i) : J2 q (fun j => j = i ∨ D j) (rs.upd f i y) x := by
  obtain ⟨hv, hk, hb, ha, hb1, hb2, hc1, hc2⟩ := h
  refine ⟨vals hv hy, hk, hb, fun n => ha (fun d => n (.inr d)), fun d n => ?_, fun d => ?_, fun d n => ?_, fun d n => ?_⟩
  · rw [rs.upd_other f i y h1]; exact hb1 (d.resolve_left h1) (fun d => n (.inr d))
  · rw [rs.upd_other f i y h2]; exact hb2 (d.resolve_left h2)
  · rw [rs.upd_other f i y h3]; exact hc1 (d.resolve_left h3) (fun d => n (.inr d))
  · rw [rs.upd_other f i y h4]; exact hc2 (d.resolve_left h4) (fun d => n (.inr d))
/-- The world grows. -/
theorem J2.grow (h : J2 q D f x) (hq : q.Good) (hbx : Below x.heap.size x x') : J2 q D f x' := by
  obtain ⟨hv, hk, hb, ha, hb1, hb2, hc1, hc2⟩ := h
  exact ⟨hv, hq.below x x' hk hbx, Nat.le_trans hb hbx.size, fun n => ow.own_below (ha n) hbx, fun d n => ow.own_below (hb1 d n) hbx, fun d => ow.own_below (hb2 d) hbx, fun d n => (hc1 d n).keep hbx, fun d n => (hc2 d n).keep hbx⟩
theorem src_of {B n : Nat} {v : Value} {s : List UInt8} {cs : List Value} (h : x'.ownsRow B 5 1 v n cs) (hn : n = s.length) (hcs : cs = Lib.byteCells s) (h0 : 0 < s.length) : Src B x' v s := by
  subst hn hcs
  rcases h.2 with ⟨_, hz⟩ | ⟨g, cap, cur, rfl, hB, hb, _⟩
  · omega
  · refine ⟨g, cap, rfl, hB, (Array.getElem?_eq_some_iff.1 hb).1, fun j u hu => ?_⟩
    have hj : j < s.length := by
      have := (List.getElem?_eq_some_iff.1 hu).1
      simpa [Lib.byteCells] using this
    rw [h.cellAt j (by omega), hu]
theorem Src.low {B Bc : Nat} {v : Value} {s : List UInt8} (h : Src B x v s) (hB : Bc ≤ B) : Src Bc x v s := by
  obtain ⟨g, c, e, h1, h2⟩ := h
  exact ⟨g, c, e, Nat.le_trans hB h1, h2⟩
theorem J2.call1 (y : Value) (h : J2 q D f x) (hq : q.Good) (hbx : Below x.heap.size x x') (hs : Src x.heap.size x' y q.s1) (hV : q.V q.c1 = none) : J2 q (fun j => j = q.c1 ∨ D j) (rs.upd f q.c1 y) x' := by
  have hb0 := h.2.2.1
  obtain ⟨hv, hk, hb, ha, hb1, hb2, hc1, hc2⟩ := h.grow hq hbx
  refine ⟨vals hv (fun z hz => by rw [hV] at hz; cases hz), hk, hb, fun n => ha (fun d => n (.inr d)), fun d n => ?_, fun d => ?_, fun d n => ?_, fun d n => ?_⟩
  · rw [rs.upd_other f _ y hq.n13]; exact hb1 (d.resolve_left hq.n13) (fun d => n (.inr d))
  · rw [rs.upd_other f _ y hq.n23]; exact hb2 (d.resolve_left hq.n23)
  · rw [rs.upd_same]; exact hs.low hb0
  · rw [rs.upd_other f _ y hq.n34.symm]; exact hc2 (d.resolve_left hq.n34.symm) (fun d => n (.inr d))
theorem J2.call2 (y : Value) (h : J2 q D f x) (hq : q.Good) (hbx : Below x.heap.size x x') (hs : Src x.heap.size x' y q.s2) (hV : q.V q.c2 = none) : J2 q (fun j => j = q.c2 ∨ D j) (rs.upd f q.c2 y) x' := by
  have hb0 := h.2.2.1
  obtain ⟨hv, hk, hb, ha, hb1, hb2, hc1, hc2⟩ := h.grow hq hbx
  refine ⟨vals hv (fun z hz => by rw [hV] at hz; cases hz), hk, hb, fun n => ha (fun d => n (.inr d)), fun d n => ?_, fun d => ?_, fun d n => ?_, fun d n => ?_⟩
  · rw [rs.upd_other f _ y hq.n14]; exact hb1 (d.resolve_left hq.n14) (fun d => n (.inr d))
  · rw [rs.upd_other f _ y hq.n24]; exact hb2 (d.resolve_left hq.n24)
  · rw [rs.upd_other f _ y hq.n34]; exact hc1 (d.resolve_left hq.n34) (fun d => n (.inr d))
  · rw [rs.upd_same]; exact hs.low hb0
theorem J2.app1 (y : Value) (h : J2 q D f x) (hq : q.Good) (hn : ¬ D q.a1) (hn2 : ¬ D q.a2) (hg : x.grownBy x' q.v0.ownBlock) (ho : Own x' q.B1 y (q.l0 ++ q.s1)) (hV : q.V q.a1 = none) : J2 q (fun j => j = q.a1 ∨ D j) (rs.upd f q.a1 y) x' := by
  obtain ⟨hv, hk, hb, ha, hb1, hb2, hc1, hc2⟩ := h
  refine ⟨vals hv (fun z hz => by rw [hV] at hz; cases hz), hq.row x x' _ _ hk (ha hn) hg, Nat.le_trans hb hg.size, fun n => absurd (.inl rfl) n, fun d n => ?_, fun d => absurd (d.resolve_left hq.n12.symm) hn2, fun d n => absurd (.inl rfl) n, fun d n => ?_⟩
  · rw [rs.upd_same]; exact ho
  · rw [rs.upd_other f _ y hq.n14.symm]
    obtain ⟨g, c, e, h1, h2, h3⟩ := hc2 (d.resolve_left hq.n14.symm) (fun d => n (.inr d))
    refine ⟨g, c, e, h1, Nat.lt_of_lt_of_le h2 hg.size, fun j u hu => ?_⟩
    have hne : some g ≠ q.v0.ownBlock := fun e => by have := hq.far g e.symm; omega
    rw [← h3 j u hu]
    simp only [World.cell?, hg.block g h2 hne]
theorem J2.app2 (y : Value) (h : J2 q D f x) (hq : q.Good) (d1 : D q.a1) (hn2 : ¬ D q.a2) (hg : x.grownBy x' (f q.a1).ownBlock) (ho : Own x' q.B1 y (q.l0 ++ q.s1 ++ q.s2)) (hV : q.V q.a2 = none) : J2 q (fun j => j = q.a2 ∨ D j) (rs.upd f q.a2 y) x' := by
  obtain ⟨hv, hk, hb, ha, hb1, hb2, hc1, hc2⟩ := h
  refine ⟨vals hv (fun z hz => by rw [hV] at hz; cases hz), hq.row x x' _ _ hk (hb1 d1 hn2) hg, Nat.le_trans hb hg.size, fun n => absurd (.inr d1) n, fun d n => absurd (.inl rfl) n, fun d => ?_, fun d n => absurd (.inr d1) n, fun d n => absurd (.inl rfl) n⟩
  rw [rs.upd_same]; exact ho
end
structure Q1 where
  V : Nat → Option Value
  K : World → Prop
  B1 : Nat
  v0 : Value
  l0 : List UInt8
  s1 : List UInt8
  a1 : Nat
def J1 (q : Q1) (D : Nat → Prop) (f : Nat → Value) (x : World) : Prop :=
  (∀ j, D j → ∀ y, q.V j = some y → f j = y) ∧ q.K x ∧ q.B1 ≤ x.heap.size ∧ (¬ D q.a1 → Own x q.B1 q.v0 q.l0) ∧ (D q.a1 → Own x q.B1 (f q.a1) (q.l0 ++ q.s1))
structure Q1.Good (q : Q1) : Prop where
  below : ∀ x x', q.K x → Below x.heap.size x x' → q.K x'
  row : ∀ x x' v l, q.K x → Own x q.B1 v l → x.grownBy x' v.ownBlock → q.K x'
section
variable {q : Q1} {D : Nat → Prop} {f : Nat → Value} {x x' : World} {i : Nat}
theorem J1.step (y : Value) (h : J1 q D f x) (hq : q.Good) (hy : ∀ z, q.V i = some z → y = z) (h1 : q.a1 ≠ i) (hbx : Below x.heap.size x x') : J1 q (fun j => j = i ∨ D j) (rs.upd f i y) x' := by
  obtain ⟨hv, hk, hb, ha, hb1⟩ := h
  refine ⟨vals hv hy, hq.below x x' hk hbx, Nat.le_trans hb hbx.size, fun n => ow.own_below (ha (fun d => n (.inr d))) hbx, fun d => ?_⟩
  rw [rs.upd_other f i y h1]; exact ow.own_below (hb1 (d.resolve_left h1)) hbx
theorem J1.app (y : Value) (h : J1 q D f x) (hq : q.Good) (hn : ¬ D q.a1) (hg : x.grownBy x' q.v0.ownBlock) (ho : Own x' q.B1 y (q.l0 ++ q.s1)) (hV : q.V q.a1 = none) : J1 q (fun j => j = q.a1 ∨ D j) (rs.upd f q.a1 y) x' := by
  obtain ⟨hv, hk, hb, ha, hb1⟩ := h
  refine ⟨vals hv (fun z hz => by rw [hV] at hz; cases hz), hq.row x x' _ _ hk (ha hn) hg, Nat.le_trans hb hg.size, fun n => absurd (.inl rfl) n, fun _ => ?_⟩
  rw [rs.upd_same]; exact ho
end
section
variable {P : Program} {w : World}
theorem wp_append_str {o : Oper} {a : Act} {K : Act → World → Prop} {Q : Exit → Act → World → Prop} (sl x : Operand) (t u : TypeId)
    (ho : o.op = .call { callee := .builtin .append, args := #[sl, x], argTypes := #[t, u] })
    (base : Nat) (e : TypeId) (i : TypeInfo) (ht : P.underlying t = some (.slice e)) (hu : P.underlying u = some .string) (hi : P.info? e = some i) (hz : i.zero = some (.int .u8 0))
    (hsize : i.size = 1) (hby : i.bytes = 1)
    (v : Value) (n : Nat) (xs : List Value) (hs : a.eval sl = v) (hown : w.ownsRow base e 1 v n xs) (s : ByteArray) (hx : a.eval x = .string s)
    (h63 : n + s.size ≤ maxLen) (hbytes : n + s.size ≤ 140737488355328) (hbase : base ≤ w.heap.size)
    (h : ∀ v' w', w'.ownsRow base e 1 v' (n + s.size) (xs ++ Lib.strCells s) → w.grownBy w' v.ownBlock → K (a.put o.dst v') w') : o.wp P a w K Q := by
  obtain ⟨v', w', hr, h2, h3, h4⟩ := Lib.run_append_own_string (P := P) w base t u o.type e i ht hu hi hz hsize hby v n xs hown s h63 hbytes hbase
  unfold Oper.wp execOp
  simp only [ho, resolve, invoke, builtin, Sem.run_bind, Sem.run_pure, Result.andThen_ok, List.map_toArray, List.map_cons, List.map_nil, hs, hx, hr]
  exact h v' w' h2 h3
end
theorem cells_app (l s : List UInt8) : Lib.byteCells (l ++ s) = Lib.byteCells l ++ Lib.byteCells s := by simp [Lib.byteCells]
theorem own_app {x : World} {B : Nat} {v : Value} {l : List UInt8} {n : Nat} {cs : List Value} (s : List UInt8) (h : x.ownsRow B 5 1 v (l.length + n) (Lib.byteCells l ++ cs)) (hn : n = s.length) (hcs : cs = Lib.byteCells s) : Own x B v (l ++ s) := by
  subst hn hcs
  unfold Own
  rw [List.length_append, cells_app]
  exact h
theorem add0 (g j : Nat) : (⟨g, 0, none⟩ : Addr).add j = ⟨g, j, none⟩ := by simp [Addr.add]; omega
theorem one_cells (s : List UInt8) : ∀ u ∈ Lib.byteCells s, u.oneCell' = true := by
  intro u hu
  simp [Lib.byteCells] at hu
  obtain ⟨b, _, rfl⟩ := hu
  rfl
theorem infoB8 : (Try.prog.info? 5).map (fun i => (i.zero, i.size, i.bytes)) = some (some (.int .u8 0), 1, 1) := by kernel_rfl
section
variable {q : Q2} {D : Nat → Prop} {f : Nat → Value} {x : World} {o : Oper} {a : Act} {K : Act → World → Prop} {Q : Exit → Act → World → Prop}
/-- The first append, of bytes in another row. -/
theorem app1_src (s y : Operand) (ho : o.op = .call { callee := .builtin .append, args := #[s, y], argTypes := #[22, 22] }) (h : J2 q D f x) (hq : q.Good) (hn : ¬ D q.a1) (hn2 : ¬ D q.a2) (dc : D q.c1) (hs : a.eval s = q.v0) (hy : a.eval y = f q.c1) (hV : q.V q.a1 = none) (hB : q.B1 ≤ q.Bc) (hl : q.l0.length + q.s1.length ≤ 1048576)
    (hK : ∀ v' w', J2 q (fun j => j = q.a1 ∨ D j) (rs.upd f q.a1 v') w' → K (a.put o.dst v') w') : o.wp Try.prog a x K Q := by
  obtain ⟨i0, hi, hz0, hz1, hz2⟩ := info_parts infoB8
  obtain ⟨g, c, e, h1, h2, h3⟩ := h.2.2.2.2.2.2.1 dc hn
  refine wp_append_own x s y 22 ho q.B1 5 i0 _ 1 1 Try.underlying22 hi hz0 hz1 hz2 rfl (by decide) q.v0 q.l0.length (Lib.byteCells q.l0) hs (h.2.2.2.1 hn) ⟨g, 0, none⟩ q.s1.length c (Lib.byteCells q.s1) (hy.trans e) (by simp [Lib.byteCells]) (fun j u hu => by rw [add0]; exact h3 j u hu) (one_cells _) (by unfold maxLen; omega) (by omega) (Nat.le_trans hB h.2.2.1) ?_
  intro v' w' hown hg _
  exact hK v' w' (h.app1 v' hq hn hn2 hg (own_app _ hown rfl rfl) hV)
theorem app1_str (s y : Operand) (b : ByteArray) (ho : o.op = .call { callee := .builtin .append, args := #[s, y], argTypes := #[22, 9] }) (h : J2 q D f x) (hq : q.Good) (hn : ¬ D q.a1) (hn2 : ¬ D q.a2) (hs : a.eval s = q.v0) (hy : a.eval y = .string b) (hb : q.s1 = b.data.toList) (hV : q.V q.a1 = none) (hB : q.B1 ≤ q.Bc) (hl : q.l0.length + b.size ≤ 1048576)
    (hK : ∀ v' w', J2 q (fun j => j = q.a1 ∨ D j) (rs.upd f q.a1 v') w' → K (a.put o.dst v') w') : o.wp Try.prog a x K Q := by
  obtain ⟨i0, hi, hz0, hz1, hz2⟩ := info_parts infoB8
  refine wp_append_str s y 22 9 ho q.B1 5 i0 Try.underlying22 Try.underlying9 hi hz0 hz1 hz2 q.v0 q.l0.length (Lib.byteCells q.l0) hs (h.2.2.2.1 hn) b hy (by unfold maxLen; omega) (by omega) (Nat.le_trans hB h.2.2.1) ?_
  intro v' w' hown hg
  exact hK v' w' (h.app1 v' hq hn hn2 hg (own_app _ hown (by rw [hb]; rfl) (by rw [hb]; rfl)) hV)
theorem app2_src (s y : Operand) (ho : o.op = .call { callee := .builtin .append, args := #[s, y], argTypes := #[22, 22] }) (h : J2 q D f x) (hq : q.Good) (d1 : D q.a1) (hn2 : ¬ D q.a2) (dc : D q.c2) (hs : a.eval s = f q.a1) (hy : a.eval y = f q.c2) (hV : q.V q.a2 = none) (hB : q.B1 ≤ q.Bc) (hl : q.l0.length + q.s1.length + q.s2.length ≤ 1048576)
    (hK : ∀ v' w', J2 q (fun j => j = q.a2 ∨ D j) (rs.upd f q.a2 v') w' → K (a.put o.dst v') w') : o.wp Try.prog a x K Q := by
  obtain ⟨i0, hi, hz0, hz1, hz2⟩ := info_parts infoB8
  obtain ⟨g, c, e, h1, h2, h3⟩ := h.2.2.2.2.2.2.2 dc hn2
  refine wp_append_own x s y 22 ho q.B1 5 i0 _ 1 1 Try.underlying22 hi hz0 hz1 hz2 rfl (by decide) (f q.a1) (q.l0 ++ q.s1).length (Lib.byteCells (q.l0 ++ q.s1)) hs (h.2.2.2.2.1 d1 hn2) ⟨g, 0, none⟩ q.s2.length c (Lib.byteCells q.s2) (hy.trans e) (by simp [Lib.byteCells]) (fun j u hu => by rw [add0]; exact h3 j u hu) (one_cells _) (by rw [List.length_append]; unfold maxLen; omega) (by rw [List.length_append]; omega) (Nat.le_trans hB h.2.2.1) ?_
  intro v' w' hown hg _
  exact hK v' w' (h.app2 v' hq d1 hn2 hg (own_app _ hown rfl rfl) hV)
theorem app2_str (s y : Operand) (b : ByteArray) (ho : o.op = .call { callee := .builtin .append, args := #[s, y], argTypes := #[22, 9] }) (h : J2 q D f x) (hq : q.Good) (d1 : D q.a1) (hn2 : ¬ D q.a2) (hs : a.eval s = f q.a1) (hy : a.eval y = .string b) (hb : q.s2 = b.data.toList) (hV : q.V q.a2 = none) (hB : q.B1 ≤ q.Bc) (hl : q.l0.length + q.s1.length + b.size ≤ 1048576)
    (hK : ∀ v' w', J2 q (fun j => j = q.a2 ∨ D j) (rs.upd f q.a2 v') w' → K (a.put o.dst v') w') : o.wp Try.prog a x K Q := by
  obtain ⟨i0, hi, hz0, hz1, hz2⟩ := info_parts infoB8
  refine wp_append_str s y 22 9 ho q.B1 5 i0 Try.underlying22 Try.underlying9 hi hz0 hz1 hz2 (f q.a1) (q.l0 ++ q.s1).length (Lib.byteCells (q.l0 ++ q.s1)) hs (h.2.2.2.2.1 d1 hn2) b hy (by rw [List.length_append]; unfold maxLen; omega) (by rw [List.length_append]; omega) (Nat.le_trans hB h.2.2.1) ?_
  intro v' w' hown hg
  exact hK v' w' (h.app2 v' hq d1 hn2 hg (own_app _ hown (by rw [hb]; rfl) (by rw [hb]; rfl)) hV)
end
theorem app_str {q : Q1} {D : Nat → Prop} {f : Nat → Value} {x : World} {o : Oper} {a : Act} {K : Act → World → Prop} {Q : Exit → Act → World → Prop} (s y : Operand) (b : ByteArray) (ho : o.op = .call { callee := .builtin .append, args := #[s, y], argTypes := #[22, 9] }) (h : J1 q D f x) (hq : q.Good) (hn : ¬ D q.a1) (hs : a.eval s = q.v0) (hy : a.eval y = .string b) (hb : q.s1 = b.data.toList) (hV : q.V q.a1 = none) (hl : q.l0.length + b.size ≤ 1048576)
    (hK : ∀ v' w', J1 q (fun j => j = q.a1 ∨ D j) (rs.upd f q.a1 v') w' → K (a.put o.dst v') w') : o.wp Try.prog a x K Q := by
  obtain ⟨i0, hi, hz0, hz1, hz2⟩ := info_parts infoB8
  refine wp_append_str s y 22 9 ho q.B1 5 i0 Try.underlying22 Try.underlying9 hi hz0 hz1 hz2 q.v0 q.l0.length (Lib.byteCells q.l0) hs (h.2.2.2.1 hn) b hy (by unfold maxLen; omega) (by omega) h.2.2.1 ?_
  intro v' w' hown hg
  exact hK v' w' (h.app v' hq hn hg (own_app _ hown (by rw [hb]; rfl) (by rw [hb]; rfl)) hV)
/-- A slot that takes another's value, and held v ahead. -/
def Tie (z a : Nat) (v : Value) (D : Nat → Prop) (f : Nat → Value) : Prop := (D z → f z = f a) ∧ (¬ D z → f z = v)
theorem tie_other {z a i : Nat} {v : Value} {D : Nat → Prop} {f : Nat → Value} {y : Value} (h : Tie z a v D f) (hz : z ≠ i) (ha : a ≠ i) : Tie z a v (fun j => j = i ∨ D j) (rs.upd f i y) := by
  refine ⟨fun d => ?_, fun n => ?_⟩
  · rw [rs.upd_other f i y hz, rs.upd_other f i y ha]
    exact h.1 (d.resolve_left hz)
  · rw [rs.upd_other f i y hz]
    exact h.2 (fun d => n (.inr d))
theorem tie_none {z a i : Nat} {v : Value} {D : Nat → Prop} {f : Nat → Value} {y : Value} (h : Tie z a v D f) (hn : ¬ D z) (hz : z ≠ i) : Tie z a v (fun j => j = i ∨ D j) (rs.upd f i y) := by
  refine ⟨fun d => absurd (d.resolve_left hz) hn, fun n => ?_⟩
  rw [rs.upd_other f i y hz]
  exact h.2 hn
theorem tie_self {z a : Nat} {v : Value} {D : Nat → Prop} {f : Nat → Value} (hza : a ≠ z) : Tie z a v (fun j => j = z ∨ D j) (rs.upd f z (f a)) := by
  refine ⟨fun _ => ?_, fun n => absurd (.inl rfl) n⟩
  rw [rs.upd_same, rs.upd_other f z _ hza]
end Go.Proofs.Ytinnnfkhiigjpaa.ra

namespace Go.Proofs.Ytinnnfkhiigjpaa.lg
open Go.ChangeShapes Go.WideShapes Go.ChangeAt Go.RowKit Go.Deep Go.Joins
set_option linter.unusedVariables false

/-- A log of room r, data d, of which s bytes are sure. -/
def LV (r : Int) (d : ByteArray) (s : Int) : Value := .agg #[.int .i64 r, .string d, .int .i64 s]
/-- A number that an int can be. -/
def In (z : Int) : Prop := -9223372036854775808 ≤ z ∧ z ≤ 9223372036854775807
/-- What LogOK says. -/
def ok (r : Int) (n : Nat) (s : Int) : Bool := decide (0 ≤ r ∧ r ≤ 60000 ∧ (n : Int) ≤ r ∧ 0 ≤ s ∧ s ≤ (n : Int))
theorem in_of_wf {z : Int} (h : (Lit.int .i64 z).wf = true) : In z := by
  have h1 : IntKind.i64.min = -9223372036854775808 := rfl
  have h2 : IntKind.i64.max = 9223372036854775807 := rfl
  simp [Lit.wf, h1, h2] at h
  exact ⟨by omega, by omega⟩
/-- A log that lies as a variable. -/
def LiesL (w : World) (b : Nat) (T : TypeId) (r : Int) (d : ByteArray) (s : Int) : Prop := w.heap[b]? = some (.cells #[.int .i64 r, .string d, .int .i64 s] T (0, 0))
section
variable {w w' : World} {b : Nat} {T : TypeId} {r : Int} {d : ByteArray} {s : Int}
theorem LiesL.c0 (h : LiesL w b T r d s) : w.cell? ⟨b, 0, none⟩ = some (.int .i64 r) := by rw [cell_of_row w _ _ _ _ _ h]; rfl
theorem LiesL.c1 (h : LiesL w b T r d s) : w.cell? ⟨b, 0 + 1, none⟩ = some (.string d) := by rw [cell_of_row w _ _ _ _ _ h]; rfl
theorem LiesL.c2 (h : LiesL w b T r d s) : w.cell? ⟨b, 0 + 2, none⟩ = some (.int .i64 s) := by rw [cell_of_row w _ _ _ _ _ h]; rfl
theorem LiesL.lt (h : LiesL w b T r d s) : b < w.heap.size := World.block_lt_of_cell? w _ h.c0
theorem LiesL.keep (h : LiesL w b T r d s) (hb : Below w.heap.size w w') : LiesL w' b T r d s := (hb.block b h.lt).trans h
theorem lies_new (w : World) (T : TypeId) (r : Int) (d : ByteArray) (s : Int) : LiesL (w.alloc (.cells #[.int .i64 r, .string d, .int .i64 s] T)) w.heap.size T r d s := by show (w.heap.push _)[w.heap.size]? = _; simp
end
theorem new_below (w : World) (T : TypeId) (cs : Array Value) : Below w.heap.size w (w.alloc (.cells cs T)) := (Below.refl _ _).alloc (Nat.le_refl _) _




theorem spec_in (n a b : Int) (w : World) : Calls Try.prog 28 #[.int .i64 n, .int .i64 a, .int .i64 b] w fun e w' => e = .returned (.bool (decide (a ≤ n ∧ n ≤ b))) ∧ w' = w := by
  by_cases h0 : a ≤ n
  · by_cases h1 : n ≤ b
    · rw [decide_eq_true ⟨h0, h1⟩]
      go_enter Try.func28, Try.ntmps28
      go_wp2
      go_ret
      exact ⟨rfl, rfl⟩
    · rw [decide_eq_false (by omega)]
      go_enter Try.func28, Try.ntmps28
      go_wp2
      go_ret
      exact ⟨rfl, rfl⟩
  · rw [decide_eq_false (by omega)]
    go_enter Try.func28, Try.ntmps28
    go_wp2
    go_ret
    exact ⟨rfl, rfl⟩

end Go.Proofs.Ytinnnfkhiigjpaa.lg

namespace Go.Proofs.Ytinnnfkhiigjpaa.lg
open Go.RowKit
set_option linter.unusedVariables false

/-- The bytes of a number, the higher ones first. -/
def be : Nat → Nat → List UInt8
  | 0, _ => []
  | k + 1, n => UInt8.ofNat (n / 256 ^ k) :: be k n
theorem be_len : ∀ k n, (be k n).length = k
  | 0, _ => rfl
  | k + 1, n => by simp [be, be_len k n]
def bz (k n : Nat) : List Int := (be k n).map fun b => (b.toNat : Int)
theorem bz_len (k n : Nat) : (bz k n).length = k := by simp [bz, be_len]
theorem bz_succ (k n : Nat) : bz (k + 1) n = ((n / 256 ^ k % 256 : Nat) : Int) :: bz k n := by simp [bz, be]
theorem set_mid (x : Int) (l : List Int) : ∀ m, (List.replicate (m + 1) (0 : Int) ++ l).set m x = List.replicate m 0 ++ x :: l
  | 0 => by simp
  | m + 1 => by
    have h := set_mid x l m
    rw [List.replicate_succ, List.cons_append, List.set_cons_succ, h, List.replicate_succ, List.cons_append]
theorem infoB : (Try.prog.info? 5).map (fun i => (i.zero, i.size, i.bytes)) = some (some (.int .u8 0), 1, 1) := by kernel_rfl

set_option maxHeartbeats 1000000 in
set_option maxRecDepth 100000 in
theorem inBytes_any (N n : Nat) (w : World) (hn : n ≤ 8) (hN : N < 4294967296) :
    Calls Try.prog 13 #[.int .i64 N, .int .i64 n] w fun e w' => e = .returned (.string ⟨(be n N).toArray⟩) ∧ Below w.heap.size w w' := by
  obtain ⟨i0, hi, hz0, hz1, hz2⟩ := info_parts infoB
  go_enter Try.func13, Try.ntmps13
  go_wp2_with (at_make; refine wpList_make_full _ rfl _ _ 22 rfl w.heap.size 5 i0 (.int .u8 0) 1 Try.underlying22 hi hz0 hz1 _ _ _ _ n rfl rfl rfl rfl (by rw [hz2]; omega) (by unfold maxLen; omega) (Nat.le_refl _) ?_; intro w1 hown1 hg1)
  have hb1 : Below w.heap.size w w1 := (Below.refl _ _).grown hg1 (Nat.le_refl _) (fun k hk => by cases hk)
  have hrep : (madeCells (Value.cells (.int .u8 0)) (n * 1)).toList = (List.replicate n (0 : Int)).map (Value.int .u8) := by
    rw [Nat.mul_one, List.map_replicate]
    exact toList_madeCells_one _ _
  rw [hrep] at hown1
  clear hg1 hrep hi hz0 hz1 hz2
  go_loopw [0, 11] (fun nm i wr => ∃ k : Nat, k ≤ n ∧ i = .int .i64 k ∧ nm = .int .i64 ((N / 256 ^ k : Nat) : Int) ∧ wr.ownsRow w.heap.size 5 1 (.slice (some ⟨w.heap.size, 0, none⟩) n n) n ((List.replicate (n - k) (0 : Int) ++ bz k N).map (Value.int .u8)) ∧ Below w.heap.size w wr) (fun _ i _ => n - (intOf i).toNat)
  case atStart => exact ⟨0, Nat.zero_le _, rfl, by simp, by simpa [bz, be] using hown1, hb1⟩
  case round =>
    clear hown1 hb1
    obtain ⟨k, hk, rfl, rfl, hown, hbw⟩ := hrel
    by_cases hlt : k < n
    · have hc := hown.cellAt (n - 1 - k) (by omega)
      have hll : (List.replicate (n - k) (0 : Int) ++ bz k N).length = n := by simp [bz_len]; omega
      have hyk : ((List.replicate (n - k) (0 : Int) ++ bz k N).map (Value.int .u8))[n - 1 - k]? = some (.int .u8 ((List.replicate (n - k) (0 : Int) ++ bz k N).getD (n - 1 - k) 0)) := by
        simp only [List.getElem?_map, List.getD_eq_getElem?_getD]
        rw [List.getElem?_eq_getElem (by omega)]
        rfl
      rw [hyk] at hc
      have hf := hown.frozenAt (n - 1 - k)
      have hst := hown.stored (n - 1 - k) (.int .u8 ((N / 256 ^ k % 256 : Nat) : Int))
      have hset : ((List.replicate (n - k) (0 : Int) ++ bz k N).map (Value.int .u8)).set (n - 1 - k) (.int .u8 ((N / 256 ^ k % 256 : Nat) : Int)) = (List.replicate (n - (k + 1)) (0 : Int) ++ bz (k + 1) N).map (Value.int .u8) := by
        rw [← List.map_set, bz_succ, show n - k = (n - 1 - k) + 1 from by omega, set_mid, show n - (k + 1) = n - 1 - k from by omega]
      rw [hset] at hst
      have hdiv : N / 256 ^ k / 256 = N / 256 ^ (k + 1) := by rw [Nat.div_div_eq_div_mul, Nat.pow_succ]
      have hle : N / 256 ^ k ≤ N := Nat.div_le_self _ _
      obtain ⟨Q, hQ⟩ : ∃ Q, N / 256 ^ k = Q := ⟨_, rfl⟩
      obtain ⟨m, hm⟩ : ∃ m, n - 1 - k = m := ⟨_, rfl⟩
      have HS : Hid ((wr.setCell ⟨w.heap.size, m, none⟩ (.int .u8 ((Q % 256 : Nat) : Int))).ownsRow w.heap.size 5 1 (.slice (some ⟨w.heap.size, 0, none⟩) n n) n ((List.replicate (n - (k + 1)) (0 : Int) ++ bz (k + 1) N).map (Value.int .u8)) ∧ Below w.heap.size w (wr.setCell ⟨w.heap.size, m, none⟩ (.int .u8 ((Q % 256 : Nat) : Int)))) := by
        rw [← hm, ← hQ]
        exact ⟨hst.1, hbw.setCell (Nat.le_refl _) _⟩
      rw [hQ] at hdiv hle ⊢
      rw [hm] at hc hf
      generalize (List.replicate (n - k) (0 : Int) ++ bz k N).getD m 0 = old at hc
      have HD : Hid (Q / 256 = N / 256 ^ (k + 1)) := hdiv
      clear hst hbw hown hyk hset hll hdiv
      have hlt' : (k : Int) < (n : Int) := by omega
      have hmi : (n : Int) - 1 - (k : Int) = (m : Int) := by omega
      go_wp2
      go_roundw
      case rel => exact ⟨k + 1, by omega, by go_num, by rw [← HD.out]; go_num, HS.out.1, HS.out.2⟩
      case measure => simp [intOf]; omega
    · have hkn : k = n := by omega
      subst hkn
      rw [Nat.sub_self, List.replicate_zero, List.nil_append] at hown
      have hcv := ow.conv_bytes (P := Try.prog) (src := 22) (dst := 9) (be k N) (by unfold bz at hown; rw [List.map_map] at hown; exact hown) Try.underlying22 Try.underlying5 Try.underlying9
      go_wp2
      go_ret
      exact ⟨rfl, hbw⟩
end Go.Proofs.Ytinnnfkhiigjpaa.lg
