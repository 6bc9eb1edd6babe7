/-
  For all codes, what impl.CutRunes cuts off a drawn right text is right, a beginning of it, and the longest one that fits (the law FnCut returns true), with no condition.
-/
import Derived.Test.YthndloempbcflaaSro
import Derived.Test.YthndloempbcflaaFlc
import Derived.Test.YthndloempbcflaaRows
import Derived.WalkKit
import Derived.ProofKit
import Derived.OpenShut
import Derived.ShutString
import Derived.ChangeOld
import Derived.Below
namespace Go.Proofs.Ythndloempbcflaa.fnCut
open Go.ChangeShapes Go.WideShapes Go.ChangeAt Go.RowKit
open Go.ChangeMaps (open_string shut_string)
set_option linter.unusedVariables false

theorem own : ownKnob Try.prog.godebug = none := by kernel_rfl
theorem laidOut : laidOutB Try.prog = true := by kernel_rfl

/-- WHAT THE WALK IS TOLD OF A SLICE OF INTEGERS THAT CAME IN: it is nil; or it leads to a row of 'cap' cells, the numbers 'zs' (the first 'len' are its elements, the rest its spare room), each fitting its kind. -/
def IsRow (k : IntKind) (w : World) (a : Option Addr) (len cap : Nat) (zs : List Int) : Prop :=
  (a = none ∧ len = 0 ∧ cap = 0 ∧ zs = []) ∨
  ∃ x, a = some x ∧ len ≤ cap ∧ cap ≤ maxLen ∧ zs.length = cap ∧ (∀ i, i < zs.length → w.cell? (x.add i) = some (.int k (zs.getD i 0))) ∧ ∀ n ∈ zs, (Lit.int k n).wf = true

theorem walk (a0 : Option Addr) (len0 cap0 : Nat) (z0 : List Int) (a1 : Option Addr) (len1 cap1 : Nat) (z1 : List Int) (w : World) (w0 : IsRow .u8 w a0 len0 cap0 z0) (w1 : IsRow .u8 w a1 len1 cap1 z1) :
    Calls Try.prog 4 #[.slice a0 len0 cap0, .slice a1 len1 cap1] w fun e w' => e = .returned (.bool true) ∧ Below w.heap.size w w' := by
  have key : ∀ {a : Option Addr} {len cap : Nat} {zs : List Int}, IsRow .u8 w a len cap zs → len ≤ 1048576 → sr.Bytes w a len := by
    intro a len cap zs h hl
    refine ⟨hl, ?_⟩
    rcases h with ⟨rfl, rfl, rfl, rfl⟩ | ⟨x, rfl, hlc, hm, hz, hcell, hwz⟩
    · exact .inl rfl
    · by_cases h0 : len = 0
      · exact .inl h0
      · right
        obtain ⟨b, off, spot⟩ := x
        have hc := hcell 0 (by omega)
        have hspot : spot = none := by simpa [Addr.add] using World.cell?_spot hc
        subst hspot
        refine ⟨b, off, rfl, fun j hj => ?_⟩
        have hj2 : j < zs.length := by omega
        have hb := bounds_u8 (hwz (zs.getD j 0) (by rw [List.getD_eq_getElem?_getD, List.getElem?_eq_getElem hj2]; exact List.getElem_mem hj2))
        refine ⟨zs.getD j 0, hb.1, hb.2, ?_⟩
        rw [← hcell j hj2]
        congr 1
        simp [Addr.add]
  by_cases hbig : 1048576 < len0
  · have hb : (1048576 : Int) < (len0 : Int) := by omega
    clear key w0 w1
    go_enter Try.func4, Try.ntmps4
    go_wp2
    go_ret
    exact ⟨rfl, Below.refl _ _⟩
  by_cases hbig1 : 1048576 < len1
  · have hb : ¬ (1048576 : Int) < (len0 : Int) := by omega
    have hb1 : (1048576 : Int) < (len1 : Int) := by omega
    have hbd : decide ((1048576 : Int) < (len0 : Int)) = false := decide_eq_false hb
    have hbd1 : decide ((1048576 : Int) < (len1 : Int)) = true := decide_eq_true hb1
    clear key w0 w1
    go_enter Try.func4, Try.ntmps4
    go_wp2
    go_ret
    exact ⟨rfl, Below.refl _ _⟩
  have hb : decide ((1048576 : Int) < (len0 : Int)) = false := decide_eq_false (by omega)
  have hb1 : decide ((1048576 : Int) < (len1 : Int)) = false := decide_eq_false (by omega)
  have B0 := key w0 (by omega)
  have B1 := key w1 (by omega)
  clear key w0 w1
  go_enter Try.func4, Try.ntmps4
  go_wp2_with fail
  refine (sr.textOf_any _ a0 len0 cap0 B0).mono ?_
  rintro e w2 ⟨⟨zs, rfl, hzl, hall⟩, b2⟩
  have B1' := sr.bytes_below B1 b2
  have hval := ut.valid_flat zs hall (by omega)
  have hfacts := fun n k => ut.cut_facts zs hall (by omega) n k
  have e0 : (⟨(zs.flatMap ut.encB).toArray⟩ : ByteArray) = ut.mk (zs.flatMap ut.encB) := rfl
  rw [e0]
  generalize ut.mk (zs.flatMap ut.encB) = s at hval hfacts ⊢
  have hs := hval.1
  clear e0 hall hzl
  go_wp2_with fail
  refine (sr.at_any _ a1 len1 cap1 0 30 B1' (by omega) (by omega) (by omega) (by omega)).mono ?_
  rintro e w3 ⟨⟨n, rfl, n0, n1⟩, m, rfl⟩
  have b3 : Below w.heap.size w (w2.drewN m) := below_drewN b2 m
  clear B0 B1 B1' b2
  generalize w2.drewN m = w3 at b3 ⊢
  go_wp2_with fail
  refine (ut.implCut_any s n _ (by omega)).mono ?_
  rintro e w4 ⟨hi, b4⟩
  obtain ⟨k, hk, rfl⟩ := ut.cut_ok hi hval n0
  have hf := hfacts n k hk
  have b4' : Below w.heap.size w w4 := b3.trans (b4.mono b3.size)
  clear hi b3 b4
  go_wp2_with fail
  refine (ut.specCut_any s n _ (by omega)).mono ?_
  rintro e w5 ⟨hi, rfl⟩
  obtain ⟨k', hk', rfl⟩ := ut.cut_ok hi hval n0
  obtain rfl := ut.cut_one hk hk'
  clear hi hk hk' hfacts
  generalize s.extract 0 k = x at hf ⊢
  obtain ⟨hvx, hx1, hx2, hx3, hx4⟩ := hf
  have hcmp : ((s.extract 0 x.size).toList == x.toList) = true := by rw [hx3]; simp
  have hxb : decide (n < (x.size : Int)) = false := decide_eq_false (by omega)
  have hxc : decide ((s.size : Int) < (x.size : Int)) = false := decide_eq_false (by omega)
  have hxs : (x.size : Int) ≤ (s.size : Int) := by omega
  have HX4 : Hid (x = s ∨ n < (x.size : Int) + 4) := hx4
  have HV : Hid (ut.Valid x) := hvx
  have hxl : x.size ≤ 1048576 := by omega
  clear hx3 hx4 hvx hval
  go_wp2_with fail
  refine (ut.implValid_any x _ hxl).mono ?_
  rintro e w6 ⟨hsay, b6⟩
  obtain ⟨b, rfl⟩ := ut.says_ex hsay
  obtain rfl : b = true := (ut.says_iff hsay).2 HV.out
  have bz : Below w.heap.size w w6 := b4'.trans (b6.mono b4'.size)
  clear hsay b4' b6 HV
  by_cases he : x.toList = s.toList
  · have heb : (x.toList == s.toList) = true := beq_iff_eq.2 he
    clear he HX4
    go_wp2
    go_ret
    exact ⟨rfl, bz⟩
  · have heb : (x.toList == s.toList) = false := beq_eq_false_iff_ne.2 he
    have hlast : n < (x.size : Int) + 4 := by
      rcases HX4.out with e | e
      · exact absurd (by rw [e]) he
      · exact e
    have hld : decide (n < (x.size : Int) + 4) = true := decide_eq_true hlast
    clear he HX4
    go_wp2
    go_ret
    exact ⟨rfl, bz⟩

set_option maxRecDepth 100000 in
theorem lifted (os : Os) (started : os.Started) (H : Type) (enc : TypeId × Value → H) :
    ReturnsInHanded {} Try.checked os 4 .any (Rows.fnCutSpec.pre6 enc Try.prog Try.f4 Rows.fnCutRow.domain false) (Rows.fnCutSpec.post enc Try.prog Try.f4 false true false false) := by
  refine returnsInHanded_of_change (C := Try.checked) own started (by kernel_rfl) Try.func4
    (ChangeSpec.witness6 (enc := enc) (C := Try.checked) false ⟨#[], #[.slice none 0 0, .slice none 0 0], []⟩ 8 (by kernel_rfl) (by kernel_rfl) (by kernel_rfl) (by kernel_rfl)) ?_
  intro W base args ds gs before hval0 hW hcnd _
  have hval : ∀ (j : Nat) t v, Try.f4.params[j]? = some t → args[j]? = some v → Value.okWide Try.prog W .any base t v := hval0
  have hW' := hW
  obtain ⟨p, q, hA0, hV, rfl, hfz, hnd⟩ := hW
  have hA : DataW.TrodAll enc Try.prog W 0 (fun _ => true) true Try.f4.params.toList args.toList ds p := hA0
  rw [Try.params4] at hA hval
  obtain ⟨v0, vs0, d0, ds0, p0, q0, hargs, rfl, rfl, h0, r0⟩ := trodAll_cons hA
  obtain ⟨v1, vs1, d1, ds1, p1, q1, rfl, rfl, rfl, h1, r1⟩ := trodAll_cons r0
  obtain ⟨rfl, rfl, rfl⟩ := trodAll_nil r1
  obtain rfl : args = #[v0, v1] := by cases args; simp_all
  obtain ⟨rfl, rfl⟩ := trodVars_none hV
  obtain ⟨a0, len0, cap0, rfl⟩ := okWide_slice Try.underlying22 (hval 0 22 v0 rfl rfl)
  have k0 := h0
  have lt0 : ∀ x ∈ p0, x.block < W.heap.size := by obtain ⟨m, hm⟩ := k0; exact DataW.trod_lt m _ _ _ hm
  obtain ⟨z0, w0⟩ : ∃ zs, IsRow .u8 W a0 len0 cap0 zs := by
    obtain ⟨fuel, hf⟩ := h0
    rcases open_ints Try.underlying22 Try.underlying5 (by kernel_rfl) hf with ⟨hcs, _⟩ | ⟨x, l, c, zs, hcs, _, hl, hm, hz, _, hcell, hwz⟩
    · simp [Value.cells] at hcs
      obtain ⟨rfl, rfl, rfl⟩ := hcs
      exact ⟨[], .inl ⟨rfl, rfl, rfl, rfl⟩⟩
    · simp [Value.cells] at hcs
      obtain ⟨rfl, rfl, rfl⟩ := hcs
      exact ⟨zs, .inr ⟨_, rfl, hl, hm, by simpa using hz, hcell, hwz⟩⟩
  obtain ⟨a1, len1, cap1, rfl⟩ := okWide_slice Try.underlying22 (hval 1 22 v1 rfl rfl)
  have k1 := h1
  have lt1 : ∀ x ∈ p1, x.block < W.heap.size := by obtain ⟨m, hm⟩ := k1; exact DataW.trod_lt m _ _ _ hm
  obtain ⟨z1, w1⟩ : ∃ zs, IsRow .u8 W a1 len1 cap1 zs := by
    obtain ⟨fuel, hf⟩ := h1
    rcases open_ints Try.underlying22 Try.underlying5 (by kernel_rfl) hf with ⟨hcs, _⟩ | ⟨x, l, c, zs, hcs, _, hl, hm, hz, _, hcell, hwz⟩
    · simp [Value.cells] at hcs
      obtain ⟨rfl, rfl, rfl⟩ := hcs
      exact ⟨[], .inl ⟨rfl, rfl, rfl, rfl⟩⟩
    · simp [Value.cells] at hcs
      obtain ⟨rfl, rfl, rfl⟩ := hcs
      exact ⟨zs, .inr ⟨_, rfl, hl, hm, by simpa using hz, hcell, hwz⟩⟩
  clear hA0 hval0
  refine (walk a0 len0 cap0 z0 a1 len1 cap1 z1 W w0 w1).mono fun e W' ⟨he, bel⟩ => ?_
  subst he
  exact ⟨_, rfl, _, _, _, [], _, [], hW', trodAll_mk1 (shut_bool Try.underlying4 _), (trodAll_cons_mk (Below.trod laidOut (by kernel_rfl) (of_decide_eq_true (by kernel_rfl)) k0 bel lt0) (trodAll_cons_mk (Below.trod laidOut (by kernel_rfl) (of_decide_eq_true (by kernel_rfl)) k1 bel lt1) trodAll_mk0)), rfl, bel.frame _, fun h => by cases h⟩

theorem over : Rows.fnCutRow.holds Try.pinned (OpenSpec.ofChange Rows.fnCutSpec) :=
  OpenClaim.holds_of_wide 4 Try.f4 rfl rfl rfl rfl rfl rfl rfl ⟨rfl, rfl, rfl, rfl, rfl⟩ rfl rfl rfl rfl rfl (by kernel_rfl) Try.func4 (by kernel_rfl)
    (of_decide_eq_true (by kernel_rfl)) (by unfold Func.isWrapper; first | (rw [if_pos (by decide +kernel)]; kernel_rfl) | (rw [if_neg (by decide +kernel)]; exact ⟨rfl, rfl⟩))
    (fun os started H enc _ => lifted os started H enc)

theorem proved : Rows.FnCutSaid := over
end Go.Proofs.Ythndloempbcflaa.fnCut
namespace Go.Proofs.Ythndloempbcflaa
theorem fnCut_holds : Rows.FnCutSaid := fnCut.proved
#print axioms fnCut_holds
end Go.Proofs.Ythndloempbcflaa
