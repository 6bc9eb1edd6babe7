/-
  Both ImapOK functions answer alike at every session, and the session that was handed in is as it was; for every input.
-/
import Derived.Test.YtihiphoblmjpcaaImb
import Derived.WalkKit
import Derived.ProofKit
import Derived.OpenShut
import Derived.ChangeOld
import Derived.Below
import Derived.Carry
import Derived.Lib.SmallJoins
import Derived.Deep.RegionHeld
namespace Go.Proofs.Ytihiphoblmjpcaa.fnExactImapOK
open Go.ChangeShapes Go.WideShapes Go.ChangeAt Go.RowKit Go.Joins Go.Deep
set_option linter.unusedVariables false

theorem own : ownKnob Try.prog.godebug = none := by kernel_rfl
theorem laidOut : laidOutB Try.prog = true := by kernel_rfl

open im
set_option maxHeartbeats 1000000 in
set_option maxRecDepth 100000 in
theorem walk (x : Im) (v : Value) (w : World) (h : ow.Reads .i64 w v x.vw) (hl : x.vw.length ≤ maxLen) (hb : x.bx.size ≤ maxLen) :
    Calls Try.prog 4 #[IV x v] w fun e w' => e = .returned (.bool true) ∧ Below w.heap.size w w' := by
  have L0 := lies_new w 29 x v
  have b0 := new_below w 29 #[.int .i64 x.st, .string x.bx, .bool x.ro, v]
  have HA : Hid (ow.Reads .i64 (w.alloc (.cells #[.int .i64 x.st, .string x.bx, .bool x.ro, v] 29)) v x.vw) := reads_below h b0
  obtain ⟨a, cap, rfl, _⟩ := h
  obtain ⟨st, bx, ro, vw⟩ := x
  unfold IV
  simp only at *
  go_enter Try.func4, Try.ntmps4
  go_wp2_with fail
  generalize w.alloc _ = w0 at L0 b0 HA ⊢
  refine (szImap_any ⟨st, bx, ro, vw⟩ _ w0 HA.out hl hb).mono ?_
  rintro e w1 ⟨⟨z, rfl, hz0, hz1, hz2⟩, hb1⟩
  have L1 := L0.keep hb1
  have HA1 : Hid (ow.Reads .i64 w1 (.slice a vw.length cap) vw) := reads_below HA.out hb1
  have b1 := b0.trans (hb1.mono b0.size)
  clear hb1 L0 b0 HA
  by_cases hz : z < 0
  · go_wp2
    go_ret
    exact ⟨rfl, b1⟩
  obtain ⟨hl2, hb2⟩ := hz2 (by omega)
  simp only at hl2 hb2
  clear hz2 hl hb
  have c0 := L1.c0
  have c1 := L1.c1
  have c2 := L1.c2
  have c3 := L1.c3
  simp only at c0 c1 c2
  go_wp2_with fail
  refine (toImap_any ⟨st, bx, ro, vw⟩ _ w1 HA1.out hl2).mono ?_
  rintro e w2 ⟨V, rfl, ho, hb3⟩
  have HV : Hid (ow.Reads .i64 w2 V vw) := ow.reads_own ho
  obtain ⟨aV, cV, rfl⟩ := own_form ho
  have L2 := L1.keep hb3
  have HA2 : Hid (ow.Reads .i64 w2 (.slice a vw.length cap) vw) := reads_below HA1.out hb3
  have b2 := b1.trans (hb3.mono b1.size)
  clear hb3 L1 b1 HA1 c0 c1 c2 c3 ho
  unfold IV
  simp only
  go_wp2_with fail
  refine (spec_iok ⟨st, bx, ro, vw⟩ _ w2 HV.out hl2 hb2).mono ?_
  rintro e w3 ⟨⟨o, rfl, ho⟩, hb4⟩
  have HO : Hid (o = true ↔ Right ⟨st, bx, ro, vw⟩) := ho
  have L3 := L2.keep hb4
  have HA3 : Hid (ow.Reads .i64 w3 (.slice a vw.length cap) vw) := reads_below HA2.out hb4
  have b3 := b2.trans (hb4.mono b2.size)
  clear hb4 L2 b2 HA2 HV ho
  have c0 := L3.c0
  have c1 := L3.c1
  have c2 := L3.c2
  have c3 := L3.c3
  simp only at c0 c1 c2
  go_wp2_with fail
  refine (toImap_any ⟨st, bx, ro, vw⟩ _ w3 HA3.out hl2).mono ?_
  rintro e w4 ⟨V, rfl, ho, hb5⟩
  have HV : Hid (ow.Reads .i64 w4 V vw) := ow.reads_own ho
  obtain ⟨aW, cW, rfl⟩ := own_form ho
  have L4 := L3.keep hb5
  have HA4 : Hid (ow.Reads .i64 w4 (.slice a vw.length cap) vw) := reads_below HA3.out hb5
  have b4 := b3.trans (hb5.mono b3.size)
  clear hb5 L3 b3 HA3 c0 c1 c2 c3 ho
  unfold IV
  simp only
  have hb6 := new_below w4 24 #[.int .i64 st, .string bx, .bool ro, .slice aW vw.length cW]
  have M5 := lies_new w4 24 ⟨st, bx, ro, vw⟩ (.slice aW vw.length cW)
  simp only at M5
  have L5 := L4.keep hb6
  have HA5 := reads_below HA4.out hb6
  have HV5 := reads_below HV.out hb6
  have b5 := b4.trans (hb6.mono b4.size)
  clear hb6 L4 HA4 b4 HV
  go_wp2_with fail
  generalize w4.alloc _ = w5 at M5 L5 HA5 HV5 b5 ⊢
  have HA5 : Hid (ow.Reads .i64 w5 (.slice a vw.length cap) vw) := HA5
  have HV5 : Hid (ow.Reads .i64 w5 (.slice aW vw.length cW) vw) := HV5
  refine (impl_iok ⟨st, bx, ro, vw⟩ _ w5 HV5.out hl2 hb2).mono ?_
  rintro e w6 ⟨⟨o2, rfl, ho2⟩, hb6⟩
  obtain rfl : o2 = o := Bool.eq_iff_iff.2 (ho2.trans HO.out.symm)
  have M6 := M5.keep hb6
  have L6 := L5.keep hb6
  have HA6 : Hid (ow.Reads .i64 w6 (.slice a vw.length cap) vw) := reads_below HA5.out hb6
  have HV6 : Hid (ow.Reads .i64 w6 (.slice aW vw.length cW) vw) := reads_below HV5.out hb6
  have b6 := b5.trans (hb6.mono b5.size)
  clear hb6 M5 L5 HA5 HV5 b5 HO ho2
  have cc : (o2 != o2) = false := by simp
  go_wp2_with fail
  have HK : Hid (∀ x, Below w6.heap.size w6 x → x.cell? ⟨w.heap.size, 0, none⟩ = some (.int .i64 st) ∧ x.cell? ⟨w.heap.size, 0 + 1, none⟩ = some (.string bx) ∧ x.cell? ⟨w.heap.size, 0 + 2, none⟩ = some (.bool ro) ∧ x.cell? ⟨w.heap.size, 0 + 3, none⟩ = some (.slice a vw.length cap) ∧ x.cell? ⟨w4.heap.size, 0, none⟩ = some (.int .i64 st) ∧ x.cell? ⟨w4.heap.size, 0 + 1, none⟩ = some (.string bx) ∧ x.cell? ⟨w4.heap.size, 0 + 2, none⟩ = some (.bool ro) ∧ x.cell? ⟨w4.heap.size, 0 + 3, none⟩ = some (.slice aW vw.length cW)) := fun x hx => ⟨(L6.keep hx).c0, (L6.keep hx).c1, (L6.keep hx).c2, (L6.keep hx).c3, (M6.keep hx).c0, (M6.keep hx).c1, (M6.keep hx).c2, (M6.keep hx).c3⟩
  have HT : Hid (∀ x, Below w6.heap.size w6 x → Calls Try.prog 13 #[.agg #[.int .i64 st, .string bx, .bool ro, .slice a vw.length cap]] x fun e w' => ∃ a2 c2, e = .returned (.agg #[.int .i64 st, .string bx, .bool ro, .slice a2 vw.length c2]) ∧ ow.Reads .i64 w' (.slice a2 vw.length c2) vw ∧ Below w6.heap.size w6 w' ∧ w'.cell? ⟨w.heap.size, 0, none⟩ = some (.int .i64 st) ∧ w'.cell? ⟨w.heap.size, 0 + 1, none⟩ = some (.string bx) ∧ w'.cell? ⟨w.heap.size, 0 + 2, none⟩ = some (.bool ro) ∧ w'.cell? ⟨w.heap.size, 0 + 3, none⟩ = some (.slice a vw.length cap) ∧ w'.cell? ⟨w4.heap.size, 0, none⟩ = some (.int .i64 st) ∧ w'.cell? ⟨w4.heap.size, 0 + 1, none⟩ = some (.string bx) ∧ w'.cell? ⟨w4.heap.size, 0 + 2, none⟩ = some (.bool ro) ∧ w'.cell? ⟨w4.heap.size, 0 + 3, none⟩ = some (.slice aW vw.length cW)) := fun x hx =>
    (toImap_any ⟨st, bx, ro, vw⟩ _ x (reads_below HA6.out hx) hl2).mono fun e w' ⟨V, he, ho, hb'⟩ => by
      obtain ⟨a2, c2, rfl⟩ := own_form ho
      exact ⟨a2, c2, he, ow.reads_own ho, hx.trans (hb'.mono hx.size), HK.out _ (hx.trans (hb'.mono hx.size))⟩
  have HE : Hid (∀ x a2 c2, ow.Reads .i64 x (.slice a2 vw.length c2) vw → Below w6.heap.size w6 x → Calls Try.prog 8 #[.agg #[.int .i64 st, .string bx, .bool ro, .slice aW vw.length cW], .agg #[.int .i64 st, .string bx, .bool ro, .slice a2 vw.length c2]] x fun e w' => e = .returned (.bool true) ∧ Below w6.heap.size w6 w' ∧ w'.cell? ⟨w.heap.size, 0, none⟩ = some (.int .i64 st) ∧ w'.cell? ⟨w.heap.size, 0 + 1, none⟩ = some (.string bx) ∧ w'.cell? ⟨w.heap.size, 0 + 2, none⟩ = some (.bool ro) ∧ w'.cell? ⟨w.heap.size, 0 + 3, none⟩ = some (.slice a vw.length cap) ∧ w'.cell? ⟨w4.heap.size, 0, none⟩ = some (.int .i64 st) ∧ w'.cell? ⟨w4.heap.size, 0 + 1, none⟩ = some (.string bx) ∧ w'.cell? ⟨w4.heap.size, 0 + 2, none⟩ = some (.bool ro) ∧ w'.cell? ⟨w4.heap.size, 0 + 3, none⟩ = some (.slice aW vw.length cW)) := fun x a2 c2 h2 hx =>
    (eqImap_same ⟨st, bx, ro, vw⟩ _ _ x (reads_below HV6.out hx) h2 hl2).mono fun e w' ⟨he, hb'⟩ => ⟨he, hx.trans (hb'.mono hx.size), HK.out _ (hx.trans (hb'.mono hx.size))⟩
  have hd : Below w6.heap.size w6 w6.drew := (Below.refl _ _).drew
  have hM : w4.heap.size < w6.heap.size := M6.lt
  have hL : w.heap.size < w6.heap.size := L6.lt
  have c0 := L6.c0
  have c1 := L6.c1
  have c2 := L6.c2
  have c3 := L6.c3
  have d0 := M6.c0
  have d1 := M6.c1
  have d2 := M6.c2
  have d3 := M6.c3
  simp only at c0 c1 c2 d0 d1 d2
  clear HA6 HV6 L6 M6
  go_region_held (fun w' => w'.cell? ⟨w.heap.size, 0, none⟩ = some (.int .i64 st) ∧ w'.cell? ⟨w.heap.size, 0 + 1, none⟩ = some (.string bx) ∧ w'.cell? ⟨w.heap.size, 0 + 2, none⟩ = some (.bool ro) ∧ w'.cell? ⟨w.heap.size, 0 + 3, none⟩ = some (.slice a vw.length cap) ∧ w'.cell? ⟨w4.heap.size, 0, none⟩ = some (.int .i64 st) ∧ w'.cell? ⟨w4.heap.size, 0 + 1, none⟩ = some (.string bx) ∧ w'.cell? ⟨w4.heap.size, 0 + 2, none⟩ = some (.bool ro) ∧ w'.cell? ⟨w4.heap.size, 0 + 3, none⟩ = some (.slice aW vw.length cW))
    (go_keep)
    (first | (go_at_call 13; refine (HT.out _ hd).mono ?_; rintro e w7 ⟨q0, q1, rfl, h2, hb7, p0, p1, p2, p3, p4, p5, p6, p7⟩) | (go_at_call 8; refine (HE.out _ _ _ h2 hb7).mono ?_; rintro e w8 ⟨rfl, hb8, p0, p1, p2, p3, p4, p5, p6, p7⟩))
  go_wp2
  go_ret
  exact ⟨rfl, b6.trans (Below.mono (by assumption) b6.size)⟩

set_option maxRecDepth 100000 in
theorem lifted (os : Os) (started : os.Started) (H : Type) (enc : TypeId × Value → H) :
    ReturnsInHanded {} Try.checked os 4 .any (Rows.fnExactImapOKSpec.pre6 enc Try.prog Try.f4 Rows.fnExactImapOKRow.domain false) (Rows.fnExactImapOKSpec.post enc Try.prog Try.f4 false true false false) := by
  refine returnsInHanded_of_change (C := Try.checked) own started (by kernel_rfl) Try.func4
    (ChangeSpec.witness6 (enc := enc) (C := Try.checked) false ⟨#[], #[.agg #[.int .i64 0, .string ⟨#[]⟩, .bool false, .slice none 0 0]], []⟩ 8 (by kernel_rfl) (by kernel_rfl) (by kernel_rfl) (by kernel_rfl)) ?_
  intro W base args ds gs before hval0 hW hcnd _
  have hval : ∀ (j : Nat) t v, Try.f4.params[j]? = some t → args[j]? = some v → Value.okWide Try.prog W .any base t v := hval0
  have hW' := hW
  obtain ⟨p, q, hA0, hV, rfl, hfz, hnd⟩ := hW
  have hA : DataW.TrodAll enc Try.prog W 0 (fun _ => true) true Try.f4.params.toList args.toList ds p := hA0
  rw [Try.params4] at hA hval
  obtain ⟨v0, vs0, d0, ds0, p0, q0, hargs, rfl, rfl, h0, r0⟩ := trodAll_cons hA
  obtain ⟨rfl, rfl, rfl⟩ := trodAll_nil r0
  obtain rfl : args = #[v0] := by cases args; simp_all
  obtain ⟨rfl, rfl⟩ := trodVars_none hV
  have k0 := h0
  have lt0 : ∀ x ∈ p0, x.block < W.heap.size := by obtain ⟨m, hm⟩ := k0; exact DataW.trod_lt m _ _ _ hm
  obtain ⟨x, u, rfl, hr, hl, hb⟩ := im.open_imap (hval 0 29 v0 rfl rfl) h0
  clear hA0 hval0
  refine (walk x u W hr hl hb).mono fun e W' ⟨he, bel⟩ => ?_
  subst he
  exact ⟨_, rfl, _, _, _, [], _, [], hW', trodAll_mk1 (shut_bool Try.underlying4 _), (trodAll_cons_mk (Below.trod laidOut (by kernel_rfl) (of_decide_eq_true (by kernel_rfl)) k0 bel lt0) trodAll_mk0), rfl, bel.frame _, fun h => by cases h⟩

theorem over : Rows.fnExactImapOKRow.holds Try.pinned (OpenSpec.ofChange Rows.fnExactImapOKSpec) :=
  OpenClaim.holds_of_wide 4 Try.f4 rfl rfl rfl rfl rfl rfl rfl ⟨rfl, rfl, rfl, rfl, rfl⟩ rfl rfl rfl rfl rfl (by kernel_rfl) Try.func4 (by kernel_rfl)
    (of_decide_eq_true (by kernel_rfl)) (by unfold Func.isWrapper; first | (rw [if_pos (by decide +kernel)]; kernel_rfl) | (rw [if_neg (by decide +kernel)]; exact ⟨rfl, rfl⟩))
    (fun os started H enc _ => lifted os started H enc)

theorem proved : Rows.FnExactImapOKSaid := over
end Go.Proofs.Ytihiphoblmjpcaa.fnExactImapOK
namespace Go.Proofs.Ytihiphoblmjpcaa
theorem fnExactImapOK_holds : Rows.FnExactImapOKSaid := fnExactImapOK.proved
#print axioms fnExactImapOK_holds
end Go.Proofs.Ytihiphoblmjpcaa
