/-
  The two Check32 functions answer alike at every row of bytes; the argument stays as it was.
-/
import Derived.Test.YtkclakfgpanplaaChk
import Derived.Test.YtkclakfgpanplaaByc
import Derived.Test.YtkclakfgpanplaaRows
import Derived.WalkKit
import Derived.ProofKit
import Derived.OpenShut
import Derived.ShutString
import Derived.ChangeOld
import Derived.Below
namespace Go.Proofs.Ytkclakfgpanplaa.fnExactCheck32
open Go.ChangeShapes Go.WideShapes Go.ChangeAt Go.RowKit
open Go.ChangeMaps (open_string shut_string)
set_option linter.unusedVariables false

theorem own : ownKnob Try.prog.godebug = none := by kernel_rfl
theorem laidOut : laidOutB Try.prog = true := by kernel_rfl

/-- WHAT THE WALK IS TOLD OF A SLICE OF INTEGERS THAT CAME IN: it is nil; or it leads to a row of 'cap' cells, the numbers 'zs' (the first 'len' are its elements, the rest its spare room), each fitting its kind. -/
def IsRow (k : IntKind) (w : World) (a : Option Addr) (len cap : Nat) (zs : List Int) : Prop :=
  (a = none ∧ len = 0 ∧ cap = 0 ∧ zs = []) ∨
  ∃ x, a = some x ∧ len ≤ cap ∧ cap ≤ maxLen ∧ zs.length = cap ∧ (∀ i, i < zs.length → w.cell? (x.add i) = some (.int k (zs.getD i 0))) ∧ ∀ n ∈ zs, (Lit.int k n).wf = true

theorem walk (a0 : Option Addr) (len0 cap0 : Nat) (z0 : List Int) (w : World) (w0 : IsRow .u8 w a0 len0 cap0 z0) :
    Calls Try.prog 4 #[.slice a0 len0 cap0] w fun e w' => e = .returned (.bool true) ∧ Below w.heap.size w w' := by
  have hr : ow.Reads .u8 w (.slice a0 len0 cap0) (z0.take len0) ∧ (z0.take len0).length = len0 ∧ ck.Bytes (z0.take len0) := by
    rcases w0 with ⟨rfl, rfl, rfl, rfl⟩ | ⟨x, rfl, hl, hm, hz, hcell, hwz⟩
    · exact ⟨⟨none, 0, rfl, .inl rfl⟩, rfl, fun j hj => absurd hj (Nat.not_lt_zero _)⟩
    · have hlen : (z0.take len0).length = len0 := by rw [List.length_take]; omega
      have hget : ∀ j, j < len0 → (z0.take len0).getD j 0 = z0.getD j 0 := fun j hj => by rw [List.getD_eq_getElem?_getD, List.getD_eq_getElem?_getD, List.getElem?_take, if_pos hj]
      refine ⟨⟨some x, cap0, by rw [hlen], ?_⟩, hlen, fun j hj => ?_⟩
      · by_cases h0 : len0 = 0
        · left; subst h0; rfl
        · right
          obtain ⟨b, off, spot⟩ := x
          have hc := hcell 0 (by omega)
          have hspot : spot = none := by simpa [Addr.add] using World.cell?_spot hc
          subst hspot
          refine ⟨b, off, rfl, fun j hj => ?_⟩
          rw [hlen] at hj
          have := hcell j (by omega)
          rw [hget j hj, ← this]
          congr 1
          simp [Addr.add]
      · rw [hlen] at hj
        have hj2 : j < z0.length := by omega
        rw [hget j hj]
        have hb := bounds_u8 (hwz (z0.getD j 0) (by rw [List.getD_eq_getElem?_getD, List.getElem?_eq_getElem hj2]; exact List.getElem_mem hj2))
        exact ⟨hb.1, by omega⟩
  obtain ⟨hr, hzl, hby⟩ := hr
  generalize hzs : z0.take len0 = zs at hr hzl hby
  clear hzs w0
  subst hzl
  by_cases hbig : 1048576 < zs.length
  · have hb : (1048576 : Int) < (zs.length : Int) := by omega
    clear hby hr
    go_enter Try.func4, Try.ntmps4
    go_wp2
    go_ret
    exact ⟨rfl, Below.refl _ _⟩
  have hb : (zs.length : Int) ≤ 1048576 := by omega
  have HB : Hid (ck.Bytes zs) := hby
  clear hby
  have HT : Hid (∀ W, Below w.heap.size w W → ow.Reads .u8 W (.slice a0 zs.length cap0) zs) := fun W hbel => ow.reads_keep hr (fun a u h => (hbel.cell (p := a) (World.block_lt_of_cell? w _ h)).trans h)
  clear hr
  go_enter Try.func4, Try.ntmps4
  go_wp2_with fail
  refine (ow.toBytes_any _ zs _ (HT.out w (Below.refl _ _)) (by omega)).mono ?_
  rintro e w1 ⟨v1, rfl, own1, b1⟩
  go_wp2_with fail
  refine (ck.spec_any v1 zs _ (ow.reads_own own1) HB.out (by omega)).mono ?_
  rintro e w2 ⟨rfl, rfl⟩
  generalize hXX : (if zs.length ≤ 65536 then ((ck.sum zs : Nat) : Int) else 0) = X
  have HX : Hid ((if zs.length ≤ 65536 then ((ck.sum zs : Nat) : Int) else 0) = X) := hXX
  clear hXX
  clear own1
  go_wp2_with fail
  refine (ow.toBytes_any _ zs _ (HT.out _ b1) (by omega)).mono ?_
  rintro e w3 ⟨v3, rfl, own3, b3⟩
  have b3' := b1.trans (b3.mono b1.size)
  go_wp2_with fail
  refine (ck.impl_any v3 zs _ (ow.reads_own own3) HB.out (by omega)).mono ?_
  rintro e w4 ⟨rfl, rfl⟩
  rw [HX.out]
  have hX : (X != X) = false := by simp
  go_wp2_with fail
  refine (ow.toBytes_any _ zs _ (HT.out _ b3') (by omega)).mono ?_
  rintro e w5 ⟨v5, rfl, own5, b5⟩
  have b5' := b3'.trans (b5.mono b3'.size)
  have own6 := ow.own_below own3 b5
  go_wp2_with fail
  refine (ow.eqBytes_any v3 v5 zs zs _ (ow.reads_own own6) (ow.reads_own own5) (by omega) (by omega)).mono ?_
  rintro e w6 ⟨hs, m, rfl⟩
  obtain rfl := ow.says_true hs rfl
  have b6' := below_drewN b5' m
  clear own3 own5 own6 hs HT
  go_wp2
  go_ret
  exact ⟨rfl, b6'⟩

set_option maxRecDepth 100000 in
theorem lifted (os : Os) (started : os.Started) (H : Type) (enc : TypeId × Value → H) :
    ReturnsInHanded {} Try.checked os 4 .any (Rows.fnExactCheck32Spec.pre6 enc Try.prog Try.f4 Rows.fnExactCheck32Row.domain false) (Rows.fnExactCheck32Spec.post enc Try.prog Try.f4 false true false false) := by
  refine returnsInHanded_of_change (C := Try.checked) own started (by kernel_rfl) Try.func4
    (ChangeSpec.witness6 (enc := enc) (C := Try.checked) false ⟨#[], #[.slice none 0 0], []⟩ 8 (by kernel_rfl) (by kernel_rfl) (by kernel_rfl) (by kernel_rfl)) ?_
  intro W base args ds gs before hval0 hW hcnd _
  have hval : ∀ (j : Nat) t v, Try.f4.params[j]? = some t → args[j]? = some v → Value.okWide Try.prog W .any base t v := hval0
  have hW' := hW
  obtain ⟨p, q, hA0, hV, rfl, hfz, hnd⟩ := hW
  have hA : DataW.TrodAll enc Try.prog W 0 (fun _ => true) true Try.f4.params.toList args.toList ds p := hA0
  rw [Try.params4] at hA hval
  obtain ⟨v0, vs0, d0, ds0, p0, q0, hargs, rfl, rfl, h0, r0⟩ := trodAll_cons hA
  obtain ⟨rfl, rfl, rfl⟩ := trodAll_nil r0
  obtain rfl : args = #[v0] := by cases args; simp_all
  obtain ⟨rfl, rfl⟩ := trodVars_none hV
  obtain ⟨a0, len0, cap0, rfl⟩ := okWide_slice Try.underlying23 (hval 0 23 v0 rfl rfl)
  have k0 := h0
  have lt0 : ∀ x ∈ p0, x.block < W.heap.size := by obtain ⟨m, hm⟩ := k0; exact DataW.trod_lt m _ _ _ hm
  obtain ⟨z0, w0⟩ : ∃ zs, IsRow .u8 W a0 len0 cap0 zs := by
    obtain ⟨fuel, hf⟩ := h0
    rcases open_ints Try.underlying23 Try.underlying5 (by kernel_rfl) hf with ⟨hcs, _⟩ | ⟨x, l, c, zs, hcs, _, hl, hm, hz, _, hcell, hwz⟩
    · simp [Value.cells] at hcs
      obtain ⟨rfl, rfl, rfl⟩ := hcs
      exact ⟨[], .inl ⟨rfl, rfl, rfl, rfl⟩⟩
    · simp [Value.cells] at hcs
      obtain ⟨rfl, rfl, rfl⟩ := hcs
      exact ⟨zs, .inr ⟨_, rfl, hl, hm, by simpa using hz, hcell, hwz⟩⟩
  clear hA0 hval0
  refine (walk a0 len0 cap0 z0 W w0).mono fun e W' ⟨he, bel⟩ => ?_
  subst he
  exact ⟨_, rfl, _, _, _, [], _, [], hW', trodAll_mk1 (shut_bool Try.underlying4 _), (trodAll_cons_mk (Below.trod laidOut (by kernel_rfl) (of_decide_eq_true (by kernel_rfl)) k0 bel lt0) trodAll_mk0), rfl, bel.frame _, fun h => by cases h⟩

theorem over : Rows.fnExactCheck32Row.holds Try.pinned (OpenSpec.ofChange Rows.fnExactCheck32Spec) :=
  OpenClaim.holds_of_wide 4 Try.f4 rfl rfl rfl rfl rfl rfl rfl ⟨rfl, rfl, rfl, rfl, rfl⟩ rfl rfl rfl rfl rfl (by kernel_rfl) Try.func4 (by kernel_rfl)
    (of_decide_eq_true (by kernel_rfl)) (by unfold Func.isWrapper; first | (rw [if_pos (by decide +kernel)]; kernel_rfl) | (rw [if_neg (by decide +kernel)]; exact ⟨rfl, rfl⟩))
    (fun os started H enc _ => lifted os started H enc)

theorem proved : Rows.FnExactCheck32Said := over
end Go.Proofs.Ytkclakfgpanplaa.fnExactCheck32
namespace Go.Proofs.Ytkclakfgpanplaa
theorem fnExactCheck32_holds : Rows.FnExactCheck32Said := fnExactCheck32.proved
#print axioms fnExactCheck32_holds
end Go.Proofs.Ytkclakfgpanplaa
