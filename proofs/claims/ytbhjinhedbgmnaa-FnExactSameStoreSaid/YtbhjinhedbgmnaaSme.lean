/-
  The specification's SameStore, as a whole.
-/
import Derived.Test.YtbhjinhedbgmnaaSmd
namespace Go.Proofs.Ytbhjinhedbgmnaa.sm
open Go.RowKit Go.WideShapes
open st bx
set_option linter.unusedVariables false

def cod (xs : List Bx) : Int := if xs.length ≤ 4096 then (if sok xs = true then 0 else 1) else 2
def Caps (v : Value) (xs : List Bx) (vs : Nat → Value × Value) : Prop := (∀ a n c, v = .slice a n c → n ≤ c) ∧ ∀ j, j < xs.length → ∀ a n c, (vs j).2 = .slice a n c → n ≤ c

set_option maxHeartbeats 2000000 in
set_option maxRecDepth 100000 in
theorem code_any (v : Value) (xs : List Bx) (vs : Nat → Value × Value) (w : World) (h : BoxesAt w v xs vs) (hs : bx.Smalls xs) (hc : Caps v xs vs) :
    Calls Try.prog 54 #[v] w fun e w' => e = .returned (.int .i64 (cod xs)) ∧ Below w.heap.size w w' := by
  have HA : Hid (BoxesAt w v xs vs) := h
  have HC : Hid (Caps v xs vs) := hc
  have HS : Hid (bx.Smalls xs) := hs
  obtain ⟨⟨a, cap, rfl, _⟩, _⟩ := h
  have hl := hs.1
  have H2 : Hid (¬ xs.length ≤ 4096 → cod xs = 2) := fun h => by simp [cod, h]
  have H1 : Hid (xs.length ≤ 4096 → sok xs = false → cod xs = 1) := fun h h2 => by simp [cod, h, h2]
  have H0 : Hid (xs.length ≤ 4096 → sok xs = true → cod xs = 0) := fun h h2 => by simp [cod, h, h2]
  clear hs hc
  generalize cod xs = R at H2 H1 H0 ⊢
  by_cases g1 : 4096 < xs.length
  · have g1' : (4096 : Int) < (xs.length : Int) := by omega
    have HR : Hid (R = 2) := H2.out (by omega)
    go_enter Try.func54, Try.ntmps54
    go_wp2
    go_ret
    exact ⟨by rw [HR.out]; rfl, Below.refl _ _⟩
  have g1' : (xs.length : Int) ≤ 4096 := by omega
  have hle : xs.length ≤ 4096 := by omega
  go_enter Try.func54, Try.ntmps54
  go_wp2_with fail
  refine (spec_sok _ xs vs w HA.out HS.out HC.out.1 HC.out.2).mono ?_
  rintro e w1 ⟨rfl, b1⟩
  clear HA HC
  generalize sok xs = sx at H1 H0 ⊢
  cases sx
  · have HR : Hid (R = 1) := H1.out hle (by trivial)
    go_wp2
    go_ret
    exact ⟨by rw [HR.out]; rfl, b1⟩
  · have HR : Hid (R = 0) := H0.out hle (by trivial)
    go_wp2
    go_ret
    exact ⟨by rw [HR.out]; rfl, b1⟩

set_option maxHeartbeats 4000000 in
set_option maxRecDepth 100000 in
theorem spec_ss (v u : Value) (xs ys : List Bx) (vs us : Nat → Value × Value) (w : World) (h1 : BoxesAt w v xs vs) (h2 : BoxesAt w u ys us) (hs : bx.Smalls xs) (hs' : bx.Smalls ys) (hc : Caps v xs vs) (hc' : Caps u ys us) :
    Calls Try.prog 29 #[v, u] w fun e w' => e = .returned (.tuple #[.bool (ssa xs ys), .int .i64 (ssb xs ys)]) ∧ Below w.heap.size w w' := by
  have HA : Hid (BoxesAt w v xs vs) := h1
  have HB : Hid (BoxesAt w u ys us) := h2
  have HC : Hid (Caps v xs vs ∧ Caps u ys us) := ⟨hc, hc'⟩
  obtain ⟨⟨a, cap, rfl, _⟩, _⟩ := h1
  obtain ⟨⟨c, cap2, rfl, _⟩, _⟩ := h2
  have HS : Hid (bx.Smalls xs ∧ bx.Smalls ys) := ⟨hs, hs'⟩
  have HL : Hid (¬ (xs.length ≤ 4096 ∧ ys.length ≤ 4096) → ssa xs ys = false ∧ ssb xs ys = 2) := fun h => by simp [ssa, ssb, h]
  have HK : Hid (∀ zs : List Bx, zs.length ≤ 4096 → (cod zs = 0 ∧ sok zs = true) ∨ (cod zs = 1 ∧ sok zs = false)) := fun zs h => by
    cases e : sok zs
    · exact .inr ⟨by simp [cod, h, e], rfl⟩
    · exact .inl ⟨by simp [cod, h, e], rfl⟩
  have HB1 : Hid (xs.length ≤ 4096 ∧ ys.length ≤ 4096 → sok xs = false → ssa xs ys = false ∧ ssb xs ys = 1) := fun h h1 => by simp [ssa, ssb, h, h1]
  have HB2 : Hid (xs.length ≤ 4096 ∧ ys.length ≤ 4096 → sok ys = false → ssa xs ys = false ∧ ssb xs ys = 1) := fun h h1 => by simp [ssa, ssb, h, h1]
  have HO : Hid (xs.length ≤ 4096 ∧ ys.length ≤ 4096 → sok xs = true → sok ys = true → ssa xs ys = sameS xs ys ∧ ssb xs ys = 0) := fun h h1 h2 => by simp [ssa, ssb, h, h1, h2]
  have hl1 := hs.1
  have hl2 := hs'.1
  clear hs hs' hc hc'
  generalize ssa xs ys = RA at HL HB1 HB2 HO ⊢
  generalize ssb xs ys = RB at HL HB1 HB2 HO ⊢
  by_cases g1 : 4096 < xs.length
  · have g1' : (4096 : Int) < (xs.length : Int) := by omega
    obtain ⟨r0, r1⟩ := HL.out (by omega)
    have HR : Hid (RA = false ∧ RB = 2) := ⟨r0, r1⟩
    clear r0 r1
    go_enter Try.func29, Try.ntmps29
    go_wp2
    go_ret2
    exact ⟨by rw [HR.out.1, HR.out.2]; rfl, Below.refl _ _⟩
  have g1' : (xs.length : Int) ≤ 4096 := by omega
  by_cases g2 : 4096 < ys.length
  · have g2' : (4096 : Int) < (ys.length : Int) := by omega
    obtain ⟨r0, r1⟩ := HL.out (by omega)
    have HR : Hid (RA = false ∧ RB = 2) := ⟨r0, r1⟩
    clear r0 r1
    go_enter Try.func29, Try.ntmps29
    go_wp2
    go_ret2
    exact ⟨by rw [HR.out.1, HR.out.2]; rfl, Below.refl _ _⟩
  have g2' : (ys.length : Int) ≤ 4096 := by omega
  have HLL : Hid (xs.length ≤ 4096 ∧ ys.length ≤ 4096) := ⟨by omega, by omega⟩
  go_enter Try.func29, Try.ntmps29
  go_wp2_with fail
  refine (code_any _ xs vs w HA.out HS.out.1 HC.out.1).mono ?_
  rintro e w1 ⟨rfl, b1⟩
  have HA1 : Hid (BoxesAt w1 (.slice a xs.length cap) xs vs) := boxes_below HA.out b1
  have HB1' : Hid (BoxesAt w1 (.slice c ys.length cap2) ys us) := boxes_below HB.out b1
  clear HA HB
  have hkx := HK.out xs HLL.out.1
  generalize cod xs = cx at hkx ⊢
  rcases hkx with ⟨rfl, hsx⟩ | ⟨rfl, hsx⟩
  rotate_left
  · obtain ⟨r0, r1⟩ := HB1.out HLL.out hsx
    have HR : Hid (RA = false ∧ RB = 1) := ⟨r0, r1⟩
    clear r0 r1
    go_wp2
    go_ret2
    exact ⟨by rw [HR.out.1, HR.out.2]; rfl, b1⟩
  have HSX : Hid (sok xs = true) := hsx
  clear hsx
  go_wp2_with fail
  refine (code_any _ ys us w1 HB1'.out HS.out.2 HC.out.2).mono ?_
  rintro e w2 ⟨rfl, hb2⟩
  have HA2 : Hid (BoxesAt w2 (.slice a xs.length cap) xs vs) := boxes_below HA1.out hb2
  have HB2' : Hid (BoxesAt w2 (.slice c ys.length cap2) ys us) := boxes_below HB1'.out hb2
  have b2 := b1.trans (hb2.mono b1.size)
  clear HA1 HB1' b1 hb2
  have hky := HK.out ys HLL.out.2
  generalize cod ys = cy at hky ⊢
  rcases hky with ⟨rfl, hsy⟩ | ⟨rfl, hsy⟩
  rotate_left
  · obtain ⟨r0, r1⟩ := HB2.out HLL.out hsy
    have HR : Hid (RA = false ∧ RB = 1) := ⟨r0, r1⟩
    clear r0 r1
    go_wp2
    go_ret2
    exact ⟨by rw [HR.out.1, HR.out.2]; rfl, b2⟩
  obtain ⟨r0, r1⟩ := HO.out HLL.out HSX.out hsy
  have HR : Hid (RA = sameS xs ys ∧ RB = 0) := ⟨r0, r1⟩
  clear r0 r1 hsy
  go_wp2_with fail
  refine (l09Same_any _ _ xs ys vs us w2 HA2.out HB2'.out HS.out.1 HS.out.2).mono ?_
  rintro e w3 ⟨rfl, hb3⟩
  have b3 := b2.trans (hb3.mono b2.size)
  clear HA2 HB2' b2 hb3
  go_wp2
  go_ret2
  exact ⟨by rw [HR.out.1, HR.out.2]; rfl, b3⟩
end Go.Proofs.Ytbhjinhedbgmnaa.sm
