/-
  What the law on ReadMutation holds: its variables, rows that lie apart by their kinds.
-/
import Derived.Test.YtgjjeabjnkenkaaRmg
import Derived.Test.YtgjjeabjnkenkaaMki
import Derived.Test.YtgjjeabjnkenkaaByc
import Derived.ProofKit
import Derived.OpenShut
namespace Go.Proofs.Ytgjjeabjnkenkaa.rm
open Go.RowKit
open it
set_option linter.unusedVariables false

/-- Rows of different kinds lie apart. -/
theorem row_row {x : World} {b1 b2 e1 e2 s1 s2 n1 n2 : Nat} {v u : Value} {xs ys : List Value} (h : x.ownsRow b1 e1 s1 v n1 xs) (h2 : x.ownsRow b2 e2 s2 u n2 ys) (hne : e1 ≠ e2) : v.ownBlock = none ∨ v.ownBlock ≠ u.ownBlock := by
  rcases h.2 with ⟨rfl, _⟩ | ⟨g, cap, cur, rfl, _, hb, _⟩
  · exact .inl rfl
  · right
    intro hk
    rcases h2.2 with ⟨rfl, _⟩ | ⟨g', cap', cur', rfl, _, hb', _⟩
    · simp [Value.ownBlock] at hk
    · have e : g = g' := by simpa [Value.ownBlock] using hk
      subst e
      rw [hb] at hb'
      simp at hb'
      exact hne hb'.2
/-- A row and a variable of another kind lie apart. -/
theorem row_lies {x : World} {b1 e1 s1 n1 G : Nat} {v : Value} {xs : List Value} {m : mu.Mu} {u : Value} (h : x.ownsRow b1 e1 s1 v n1 xs) (h2 : mu.Lies x G 34 m u) (hne : e1 ≠ 34) : v.ownBlock ≠ some G := by
  intro hk
  rcases h.2 with ⟨rfl, _⟩ | ⟨g, cap, cur, rfl, _, hb, _⟩
  · simp [Value.ownBlock] at hk
  · have e : g = G := by simpa [Value.ownBlock] using hk
    subst e
    unfold mu.Lies at h2
    rw [h2] at hb
    simp at hb
    exact hne hb.2.symm
theorem lies_grown {x y : World} {G : Nat} {m : mu.Mu} {u : Value} {r : Option Nat} (h : mu.Lies x G 34 m u) (hg : x.grownBy y r) (hne : r ≠ some G) : mu.Lies y G 34 m u := (hg.block G h.lt (fun e => hne e.symm)).trans h
theorem bytes {w : World} {a : Option Addr} {len cap : Nat} {zs : List Int} (h : (a = none ∧ len = 0 ∧ cap = 0 ∧ zs = []) ∨
    ∃ x, a = some x ∧ len ≤ cap ∧ cap ≤ maxLen ∧ zs.length = cap ∧ (∀ i, i < zs.length → w.cell? (x.add i) = some (.int .u8 (zs.getD i 0))) ∧ ∀ n ∈ zs, (Lit.int .u8 n).wf = true) : ∃ l : List UInt8, l.length = len ∧ ow.Reads .u8 w (.slice a len cap) (bz l) := by
  rcases h with ⟨rfl, rfl, rfl, rfl⟩ | ⟨x, rfl, hlc, hm, hz, hcell, hwz⟩
  · exact ⟨[], rfl, none, 0, rfl, .inl rfl⟩
  · refine ⟨(zs.take len).map fun z => UInt8.ofNat z.toNat, by simp; omega, some x, cap, by rw [bz_len]; simp; omega, ?_⟩
    by_cases h0 : len = 0
    · left
      rw [h0]
      rfl
    · right
      obtain ⟨b, off, spot⟩ := x
      have hc := hcell 0 (by omega)
      have hspot : spot = none := by simpa [Addr.add] using World.cell?_spot hc
      subst hspot
      refine ⟨b, off, rfl, fun j hj => ?_⟩
      have hj' : j < len := by
        rw [bz_len] at hj
        simp at hj
        omega
      have hj2 : j < zs.length := by omega
      have hb := bounds_u8 (hwz (zs.getD j 0) (by rw [List.getD_eq_getElem?_getD, List.getElem?_eq_getElem hj2]; exact List.getElem_mem hj2))
      have hcj := hcell j hj2
      rw [show ((⟨b, off, none⟩ : Addr).add j) = ⟨b, off + j, none⟩ from by simp [Addr.add]] at hcj
      rw [hcj, bz_at]
      congr 2
      have e : ((zs.take len).map fun z => UInt8.ofNat z.toNat).getD j 0 = UInt8.ofNat (zs.getD j 0).toNat := by
        simp [List.getD_eq_getElem?_getD, hj2, hj']
      rw [e, UInt8.toNat_ofNat']
      omega
theorem rows_form {w : World} {base : Nat} {v : Value} {ps : List Pr} (h : Rows2 w base v ps) : ∃ a n c, v = .slice a n c := by
  rcases h.2 with ⟨rfl, _⟩ | ⟨g, cap, cur, rfl, _⟩
  · exact ⟨_, _, _, rfl⟩
  · exact ⟨_, _, _, rfl⟩
/-- The two variables, and the rows behind them. -/
def Two (w W : World) (G3 G6 B1 B3 : Nat) (m : mu.Mu) (us ui : Value) : Prop :=
  Below w.heap.size w W ∧ mu.Lies W G3 34 m us ∧ mu.Lies W G6 34 m ui ∧ Rows2 W B1 us m.ps ∧ w.heap.size ≤ B3 ∧ (∀ k, us.ownBlock = some k → k < B3)
theorem Two.keep {w W W' : World} {G3 G6 B1 B3 : Nat} {m : mu.Mu} {us ui : Value} (h : Two w W G3 G6 B1 B3 m us ui) (hb : Below W.heap.size W W') : Two w W' G3 G6 B1 B3 m us ui :=
  ⟨h.1.trans (hb.mono h.1.size), h.2.1.keep hb, h.2.2.1.keep hb, ow.own_below h.2.2.2.1 hb, h.2.2.2.2⟩
/-- A row of bytes is marked. -/
theorem Two.bytes {w W W' : World} {G3 G6 B1 B3 : Nat} {m : mu.Mu} {us ui : Value} (h : Two w W G3 G6 B1 B3 m us ui) {b n : Nat} {v : Value} {xs : List Value} (ho : W.ownsRow b 5 1 v n xs) (hb : w.heap.size ≤ b) (hg : W.grownBy W' v.ownBlock) : Two w W' G3 G6 B1 B3 m us ui :=
  ⟨h.1.grown hg h.1.size (fun k hk => Nat.le_trans hb (ho.lt k hk).1), lies_grown h.2.1 hg (row_lies ho h.2.1 (by decide)), lies_grown h.2.2.1 hg (row_lies ho h.2.2.1 (by decide)), h.2.2.2.1.kept hg (row_row h.2.2.2.1 ho (by decide)), h.2.2.2.2⟩
/-- The row of the second is marked. -/
theorem Two.items {w W W' : World} {G3 G6 B1 B3 : Nat} {m : mu.Mu} {us ui : Value} (h : Two w W G3 G6 B1 B3 m us ui) {n : Nat} {xs : List Value} (ho : W.ownsRow B3 75 2 ui n xs) (hg : W.grownBy W' ui.ownBlock) : Two w W' G3 G6 B1 B3 m us ui := by
  refine ⟨h.1.grown hg h.1.size (fun k hk => Nat.le_trans h.2.2.2.2.1 (ho.lt k hk).1), lies_grown h.2.1 hg (row_lies ho h.2.1 (by decide)), lies_grown h.2.2.1 hg (row_lies ho h.2.2.1 (by decide)), h.2.2.2.1.kept hg ?_, h.2.2.2.2⟩
  cases e : us.ownBlock with
  | none => exact .inl rfl
  | some k =>
    right
    intro hk
    have h1 := h.2.2.2.2.2 k e
    have h2 := (ho.lt k hk.symm).1
    omega
end Go.Proofs.Ytgjjeabjnkenkaa.rm
