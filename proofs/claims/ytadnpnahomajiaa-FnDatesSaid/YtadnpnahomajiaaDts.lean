/-
  A drawn stamp's day and clock lead back to it, as the specification's do, and the next day is the next one of the week.
-/
import Derived.Test.YtadnpnahomajiaaDwh
import Derived.Test.YtadnpnahomajiaaSrs
import Derived.Test.YtadnpnahomajiaaRows
import Derived.WalkKit
import Derived.ProofKit
import Derived.OpenShut
import Derived.ShutString
import Derived.ChangeOld
import Derived.Below
namespace Go.Proofs.Ytadnpnahomajiaa.fnDates
open Go.ChangeShapes Go.WideShapes Go.ChangeAt Go.RowKit
open Go.ChangeMaps (open_string shut_string)
set_option linter.unusedVariables false

theorem own : ownKnob Try.prog.godebug = none := by kernel_rfl
theorem laidOut : laidOutB Try.prog = true := by kernel_rfl

/-- WHAT THE WALK IS TOLD OF A SLICE OF INTEGERS THAT CAME IN: it is nil; or it leads to a row of 'cap' cells, the numbers 'zs' (the first 'len' are its elements, the rest its spare room), each fitting its kind. -/
def IsRow (k : IntKind) (w : World) (a : Option Addr) (len cap : Nat) (zs : List Int) : Prop :=
  (a = none ∧ len = 0 ∧ cap = 0 ∧ zs = []) ∨
  ∃ x, a = some x ∧ len ≤ cap ∧ cap ≤ maxLen ∧ zs.length = cap ∧ (∀ i, i < zs.length → w.cell? (x.add i) = some (.int k (zs.getD i 0))) ∧ ∀ n ∈ zs, (Lit.int k n).wf = true

theorem walk (a0 : Option Addr) (len0 cap0 : Nat) (z0 : List Int) (w : World) (w0 : IsRow .u8 w a0 len0 cap0 z0) :
    Calls Try.prog 7 #[.slice a0 len0 cap0] w fun e w' => e = .returned (.bool true) ∧ Below w.heap.size w w' := by
  have key : ∀ {a : Option Addr} {len cap : Nat} {zs : List Int}, IsRow .u8 w a len cap zs → len ≤ 1048576 → sr.Bytes w a len := by
    intro a len cap zs h hl
    refine ⟨hl, ?_⟩
    rcases h with ⟨rfl, rfl, rfl, rfl⟩ | ⟨x, rfl, hlc, hm, hz, hcell, hwz⟩
    · exact .inl rfl
    · by_cases h0 : len = 0
      · exact .inl h0
      · right
        obtain ⟨b, off, spot⟩ := x
        have hc := hcell 0 (by omega)
        have hspot : spot = none := by simpa [Addr.add] using World.cell?_spot hc
        subst hspot
        refine ⟨b, off, rfl, fun j hj => ?_⟩
        have hj2 : j < zs.length := by omega
        have hb := bounds_u8 (hwz (zs.getD j 0) (by rw [List.getD_eq_getElem?_getD, List.getElem?_eq_getElem hj2]; exact List.getElem_mem hj2))
        refine ⟨zs.getD j 0, hb.1, hb.2, ?_⟩
        rw [← hcell j hj2]
        congr 1
        simp [Addr.add]
  by_cases hbig : 1048576 < len0
  · have hb : (1048576 : Int) < (len0 : Int) := by omega
    clear key w0
    go_enter Try.func7, Try.ntmps7
    go_wp2
    go_ret
    exact ⟨rfl, Below.refl _ _⟩
  have hb : decide ((1048576 : Int) < (len0 : Int)) = false := decide_eq_false (by omega)
  have B0 := key w0 (by omega)
  clear key w0
  go_enter Try.func7, Try.ntmps7
  go_wp2_with fail
  refine (sr.stampOf_any _ a0 len0 cap0 B0).mono ?_
  rintro e w1 ⟨⟨n, rfl, n0, n1⟩, b1⟩
  clear B0
  obtain ⟨y, m, d, h, i, s, hx, hok, hst, hnext⟩ := dw.day_is n0 n1
  have HOK : Hid (dt.Ok y m d h i s) := hok
  have HST : Hid (dt.st y m d h i s = n) := hst
  clear hok hst
  go_wp2_with fail
  refine (dw.impl_cv n _).mono ?_
  rintro e w2 ⟨rfl, b2⟩
  rw [hx]
  unfold dt.C6
  go_wp2_with fail
  refine (dw.spec_cv n _).mono ?_
  rintro e w3 ⟨rfl, b3⟩
  rw [hx]
  unfold dt.C6
  have L := ((dw.lies_new w2 y m d h i s).below b3).below (dw.bel_box w3 (.cells #[.int .i64 y, .int .i64 m, .int .i64 d, .int .i64 h, .int .i64 i, .int .i64 s] 25))
  have c0 := L.c0
  have c1 := L.c1
  have c2 := L.c2
  have c3 := L.c3
  have c4 := L.c4
  have c5 := L.c5
  go_wp2_with fail
  refine (dw.impl_st y m d h i s _).mono ?_
  rintro e w4 ⟨b4, hw4⟩
  have L4 := L.below b4
  have K4 := (dw.lies_new w3 y m d h i s).below b4
  have bb : Below w.heap.size w w4 := by
    have q1 := b1.trans (b2.mono b1.size)
    have q2 := q1.trans ((dw.bel_box w2 (.cells #[.int .i64 y, .int .i64 m, .int .i64 d, .int .i64 h, .int .i64 i, .int .i64 s] 25)).mono q1.size)
    have q3 := q2.trans (b3.mono q2.size)
    have q4 := q3.trans ((dw.bel_box w3 (.cells #[.int .i64 y, .int .i64 m, .int .i64 d, .int .i64 h, .int .i64 i, .int .i64 s] 25)).mono q3.size)
    exact q4.trans (b4.mono q4.size)
  clear c0 c1 c2 c3 c4 c5 L b1 b2 b3 b4
  rcases hw4 with ⟨_, rfl⟩ | ⟨no, _⟩
  rotate_left
  · exact absurd HOK.out no
  rw [HST.out]
  have c0 := L4.c0
  have c1 := L4.c1
  have c2 := L4.c2
  have c3 := L4.c3
  have c4 := L4.c4
  have c5 := L4.c5
  have k0 := K4.c0
  have k1 := K4.c1
  have k2 := K4.c2
  have k3 := K4.c3
  have k4 := K4.c4
  have k5 := K4.c5
  clear K4 hx
  go_wp2_with fail
  refine (dw.impl_ok y m d h i s _).mono ?_
  rintro e w5 ⟨a, rfl, ha, b5⟩
  obtain rfl : a = true := ha.2 HOK.out
  clear ha c0 c1 c2 c3 c4 c5 k0 k1 k2 k3 k4 k5
  have L5 := L4.below b5
  have b6 := bb.trans (b5.mono bb.size)
  clear L4 b5 bb
  by_cases hend : 4102444799 < n + 86400
  · clear hnext
    go_wp2
    go_ret
    exact ⟨rfl, b6⟩
  obtain ⟨y', m', d', i', hx', hd, a, b, ha, hb', a0, a1, rfl⟩ := hnext (by omega)
  clear hnext
  go_wp2_with fail
  refine (dw.impl_wd n _).mono ?_
  rintro e w' ⟨rfl, rfl⟩
  rw [ha]
  go_wp2_with fail
  refine (dw.impl_wd (n + 86400) _).mono ?_
  rintro e w' ⟨rfl, rfl⟩
  rw [hb']
  go_wp2_with fail
  refine (dw.impl_cv (n + 86400) _).mono ?_
  rintro e w6 ⟨rfl, b7⟩
  rw [hx']
  unfold dt.C6
  have L6 := (L5.below b7).below (dw.bel_box w6 (.cells #[.int .i64 y', .int .i64 m', .int .i64 d', .int .i64 h, .int .i64 i', .int .i64 s] 25))
  have b8 := b6.trans (b7.mono b6.size)
  have b9 := b8.trans ((dw.bel_box w6 (.cells #[.int .i64 y', .int .i64 m', .int .i64 d', .int .i64 h, .int .i64 i', .int .i64 s] 25)).mono b8.size)
  clear b6 b7 b8 ha hb' hx' L5
  have c0 := L6.c0
  have c1 := L6.c1
  have c2 := L6.c2
  have c3 := L6.c3
  have c4 := L6.c4
  have c5 := L6.c5
  have u := HOK.out.2.2.2.2.1
  have u2 := HOK.out.2.2.2.2.2.1
  have u3 := dt.dm_pos y m
  by_cases h2 : d' = d + 1
  · have e2 : (d' == d + 1) = true := beq_iff_eq.2 h2
    clear hd h2
    go_wp2
    go_ret
    exact ⟨rfl, b9⟩
  · have e2 : (d' == d + 1) = false := beq_eq_false_iff_ne.2 h2
    obtain rfl : d' = 1 := by omega
    clear hd
    go_wp2
    go_ret
    exact ⟨rfl, b9⟩

set_option maxRecDepth 100000 in
theorem lifted (os : Os) (started : os.Started) (H : Type) (enc : TypeId × Value → H) :
    ReturnsInHanded {} Try.checked os 7 .any (Rows.fnDatesSpec.pre6 enc Try.prog Try.f7 Rows.fnDatesRow.domain false) (Rows.fnDatesSpec.post enc Try.prog Try.f7 false true false false) := by
  refine returnsInHanded_of_change (C := Try.checked) own started (by kernel_rfl) Try.func7
    (ChangeSpec.witness6 (enc := enc) (C := Try.checked) false ⟨#[], #[.slice none 0 0], []⟩ 8 (by kernel_rfl) (by kernel_rfl) (by kernel_rfl) (by kernel_rfl)) ?_
  intro W base args ds gs before hval0 hW hcnd _
  have hval : ∀ (j : Nat) t v, Try.f7.params[j]? = some t → args[j]? = some v → Value.okWide Try.prog W .any base t v := hval0
  have hW' := hW
  obtain ⟨p, q, hA0, hV, rfl, hfz, hnd⟩ := hW
  have hA : DataW.TrodAll enc Try.prog W 0 (fun _ => true) true Try.f7.params.toList args.toList ds p := hA0
  rw [Try.params7] at hA hval
  obtain ⟨v0, vs0, d0, ds0, p0, q0, hargs, rfl, rfl, h0, r0⟩ := trodAll_cons hA
  obtain ⟨rfl, rfl, rfl⟩ := trodAll_nil r0
  obtain rfl : args = #[v0] := by cases args; simp_all
  obtain ⟨rfl, rfl⟩ := trodVars_none hV
  obtain ⟨a0, len0, cap0, rfl⟩ := okWide_slice Try.underlying35 (hval 0 35 v0 rfl rfl)
  have k0 := h0
  have lt0 : ∀ x ∈ p0, x.block < W.heap.size := by obtain ⟨m, hm⟩ := k0; exact DataW.trod_lt m _ _ _ hm
  obtain ⟨z0, w0⟩ : ∃ zs, IsRow .u8 W a0 len0 cap0 zs := by
    obtain ⟨fuel, hf⟩ := h0
    rcases open_ints Try.underlying35 Try.underlying5 (by kernel_rfl) hf with ⟨hcs, _⟩ | ⟨x, l, c, zs, hcs, _, hl, hm, hz, _, hcell, hwz⟩
    · simp [Value.cells] at hcs
      obtain ⟨rfl, rfl, rfl⟩ := hcs
      exact ⟨[], .inl ⟨rfl, rfl, rfl, rfl⟩⟩
    · simp [Value.cells] at hcs
      obtain ⟨rfl, rfl, rfl⟩ := hcs
      exact ⟨zs, .inr ⟨_, rfl, hl, hm, by simpa using hz, hcell, hwz⟩⟩
  clear hA0 hval0
  refine (walk a0 len0 cap0 z0 W w0).mono fun e W' ⟨he, bel⟩ => ?_
  subst he
  exact ⟨_, rfl, _, _, _, [], _, [], hW', trodAll_mk1 (shut_bool Try.underlying4 _), (trodAll_cons_mk (Below.trod laidOut (by kernel_rfl) (of_decide_eq_true (by kernel_rfl)) k0 bel lt0) trodAll_mk0), rfl, bel.frame _, fun h => by cases h⟩

theorem over : Rows.fnDatesRow.holds Try.pinned (OpenSpec.ofChange Rows.fnDatesSpec) :=
  OpenClaim.holds_of_wide 7 Try.f7 rfl rfl rfl rfl rfl rfl rfl ⟨rfl, rfl, rfl, rfl, rfl⟩ rfl rfl rfl rfl rfl (by kernel_rfl) Try.func7 (by kernel_rfl)
    (of_decide_eq_true (by kernel_rfl)) (by unfold Func.isWrapper; first | (rw [if_pos (by decide +kernel)]; kernel_rfl) | (rw [if_neg (by decide +kernel)]; exact ⟨rfl, rfl⟩))
    (fun os started H enc _ => lifted os started H enc)

theorem proved : Rows.FnDatesSaid := over
end Go.Proofs.Ytadnpnahomajiaa.fnDates
namespace Go.Proofs.Ytadnpnahomajiaa
theorem fnDates_holds : Rows.FnDatesSaid := fnDates.proved
#print axioms fnDates_holds
end Go.Proofs.Ytadnpnahomajiaa
