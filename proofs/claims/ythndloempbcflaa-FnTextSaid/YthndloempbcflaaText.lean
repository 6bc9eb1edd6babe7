/-
  For all codes, a drawn right text is put together again out of its runes, what is repaired is right, and what was right stays (the law FnText returns true), with no condition.
-/
import Derived.Test.YthndloempbcflaaSra
import Derived.Test.YthndloempbcflaaSam
import Derived.Test.YthndloempbcflaaTim
import Derived.Test.YthndloempbcflaaVaw
import Derived.Test.YthndloempbcflaaFlc
import Derived.Test.YthndloempbcflaaFlx
import Derived.Test.YthndloempbcflaaRows
import Derived.WalkKit
import Derived.ProofKit
import Derived.OpenShut
import Derived.ShutString
import Derived.ChangeOld
import Derived.Below
namespace Go.Proofs.Ythndloempbcflaa.fnText
open Go.ChangeShapes Go.WideShapes Go.ChangeAt Go.RowKit
open Go.ChangeMaps (open_string shut_string)
set_option linter.unusedVariables false

theorem own : ownKnob Try.prog.godebug = none := by kernel_rfl
theorem laidOut : laidOutB Try.prog = true := by kernel_rfl

/-- WHAT THE WALK IS TOLD OF A SLICE OF INTEGERS THAT CAME IN: it is nil; or it leads to a row of 'cap' cells, the numbers 'zs' (the first 'len' are its elements, the rest its spare room), each fitting its kind. -/
def IsRow (k : IntKind) (w : World) (a : Option Addr) (len cap : Nat) (zs : List Int) : Prop :=
  (a = none ∧ len = 0 ∧ cap = 0 ∧ zs = []) ∨
  ∃ x, a = some x ∧ len ≤ cap ∧ cap ≤ maxLen ∧ zs.length = cap ∧ (∀ i, i < zs.length → w.cell? (x.add i) = some (.int k (zs.getD i 0))) ∧ ∀ n ∈ zs, (Lit.int k n).wf = true

theorem walk (a0 : Option Addr) (len0 cap0 : Nat) (z0 : List Int) (a1 : Option Addr) (len1 cap1 : Nat) (z1 : List Int) (w : World) (w0 : IsRow .u8 w a0 len0 cap0 z0) (w1 : IsRow .u8 w a1 len1 cap1 z1) :
    Calls Try.prog 3 #[.slice a0 len0 cap0, .slice a1 len1 cap1] w fun e w' => e = .returned (.bool true) ∧ Below w.heap.size w w' := by
  have key : ∀ {a : Option Addr} {len cap : Nat} {zs : List Int}, IsRow .u8 w a len cap zs → len ≤ 1048576 → sr.Bytes w a len := by
    intro a len cap zs h hl
    refine ⟨hl, ?_⟩
    rcases h with ⟨rfl, rfl, rfl, rfl⟩ | ⟨x, rfl, hlc, hm, hz, hcell, hwz⟩
    · exact .inl rfl
    · by_cases h0 : len = 0
      · exact .inl h0
      · right
        obtain ⟨b, off, spot⟩ := x
        have hc := hcell 0 (by omega)
        have hspot : spot = none := by simpa [Addr.add] using World.cell?_spot hc
        subst hspot
        refine ⟨b, off, rfl, fun j hj => ?_⟩
        have hj2 : j < zs.length := by omega
        have hb := bounds_u8 (hwz (zs.getD j 0) (by rw [List.getD_eq_getElem?_getD, List.getElem?_eq_getElem hj2]; exact List.getElem_mem hj2))
        refine ⟨zs.getD j 0, hb.1, hb.2, ?_⟩
        rw [← hcell j hj2]
        congr 1
        simp [Addr.add]
  by_cases hbig : 1048576 < len0
  · have hb : (1048576 : Int) < (len0 : Int) := by omega
    clear key w0 w1
    go_enter Try.func3, Try.ntmps3
    go_wp2
    go_ret
    exact ⟨rfl, Below.refl _ _⟩
  by_cases hbig1 : 1048576 < len1
  · have hb : ¬ (1048576 : Int) < (len0 : Int) := by omega
    have hb1 : (1048576 : Int) < (len1 : Int) := by omega
    have hbd : decide ((1048576 : Int) < (len0 : Int)) = false := decide_eq_false hb
    have hbd1 : decide ((1048576 : Int) < (len1 : Int)) = true := decide_eq_true hb1
    clear key w0 w1
    go_enter Try.func3, Try.ntmps3
    go_wp2
    go_ret
    exact ⟨rfl, Below.refl _ _⟩
  have hb : decide ((1048576 : Int) < (len0 : Int)) = false := decide_eq_false (by omega)
  have hb1 : decide ((1048576 : Int) < (len1 : Int)) = false := decide_eq_false (by omega)
  have B0 := key w0 (by omega)
  have B1 := key w1 (by omega)
  clear key w0 w1
  go_enter Try.func3, Try.ntmps3
  go_wp2_with fail
  refine (sr.textOf_any _ a0 len0 cap0 B0).mono ?_
  rintro e w2 ⟨⟨zs, rfl, hzl, hall⟩, b2⟩
  have B1' := sr.bytes_below B1 b2
  have hval := ut.valid_flat zs hall (by omega)
  have hrunes := ut.runes_flat zs hall (by omega)
  have htext := ut.text_flat zs hall (by omega)
  have e0 : (⟨(zs.flatMap ut.encB).toArray⟩ : ByteArray) = ut.mk (zs.flatMap ut.encB) := rfl
  have hsz : (ut.mk (zs.flatMap ut.encB)).size = (zs.flatMap ut.encB).length := ut.mk_size _
  rw [e0]
  rw [e0] at htext
  generalize ut.mk (zs.flatMap ut.encB) = s at hval hrunes htext hsz ⊢
  have hs := hval.1
  clear e0
  go_wp2_with fail
  refine (ut.implRunes_any s _ (by omega)).mono ?_
  rintro e w3 ⟨⟨v1, zs1, c1, rfl, hr1, own1⟩, b3⟩
  obtain ⟨rfl, rfl⟩ := hrunes zs1 c1 hr1
  have hlen1 := hzl
  have b3' : Below w.heap.size w w3 := b2.trans (b3.mono b2.size)
  go_wp2_with fail
  refine (ut.specRunes_any s _ (by omega)).mono ?_
  rintro e w4 ⟨⟨v2, zs2, c2, rfl, hr2, own2⟩, b4⟩
  obtain ⟨rfl, rfl⟩ := hrunes zs2 c2 hr2
  have b4' : Below w.heap.size w w4 := b3'.trans (b4.mono b3'.size)
  have own1' := ow.own_below own1 b4
  go_wp2_with fail
  refine (ut.implText_any v1 zs _ (ow.reads_own own1') (by omega)).mono ?_
  rintro e w5 ⟨ht, b5⟩
  obtain rfl := htext e ht
  have b5' : Below w.heap.size w w5 := b4'.trans (b5.mono b4'.size)
  have own1e := ow.own_below own1' b5
  have own2e := ow.own_below own2 b5
  go_wp2_with fail
  refine (ow.sameInts_any v1 v2 zs zs _ (ow.reads_own own1e) (ow.reads_own own2e) (by omega) (by omega)).mono ?_
  rintro e w6 ⟨hsay, m, rfl⟩
  obtain rfl := ow.says_true hsay rfl
  have b6' : Below w.heap.size w (w5.drewN m) := below_drewN b5' m
  have r6 : ow.Reads .i64 (w5.drewN m) v1 zs := ow.reads_own (by exact own1e)
  clear own1 own1' own1e own2 own2e hsay ht hr1 hr2 b2 b3 b3' b4 b4' b5 b5' hrunes htext
  generalize w5.drewN m = w6 at b6' r6 ⊢
  go_wp2_with fail
  refine (ut.implValid_any s _ (by omega)).mono ?_
  rintro e w7 ⟨hsay, b7⟩
  obtain ⟨bb, rfl⟩ := ut.says_ex hsay
  obtain rfl : bb = true := (ut.says_iff hsay).2 hval
  have b7' : Below w.heap.size w w7 := b6'.trans (b7.mono b6'.size)
  have r7 : ow.Reads .i64 w7 v1 zs := ow.reads_keep r6 (fun a u h => (b7.cell (p := a) (World.block_lt_of_cell? _ _ h)).trans h)
  clear hsay b6' b7 r6 hval
  have B1' := sr.bytes_below B1 b7'
  obtain ⟨va, vcap, rfl, hrd⟩ := r7
  have HRD : Hid (zs = [] ∨ ∃ b off, va = some ⟨b, off, none⟩ ∧ ∀ j, j < zs.length → w7.cell? ⟨b, off + j, none⟩ = some (.int .i64 (zs.getD j 0))) := hrd
  have HALL : Hid (ut.Runes zs) := hall
  have HSZ : Hid (s.size = (zs.flatMap ut.encB).length) := hsz
  clear hrd hall hsz B0 B1
  go_wp2_with fail
  go_loop [12, 13] (fun q i => ∃ k : Nat, k ≤ zs.length ∧ i = .int .i64 k ∧ q = .int .i64 (((zs.take k).flatMap ut.encB).length : Int)) (fun _ i => zs.length - (intOf i).toNat)
  case atStart => exact ⟨0, Nat.zero_le _, rfl, rfl⟩
  case round =>
    obtain ⟨k, hk, rfl, rfl⟩ := hrel
    have hfl := ut.flat_len (zs.take k)
    have htl : (zs.take k).length ≤ k := List.length_take_le _ _
    by_cases hlt : k < zs.length
    · have hzne : zs ≠ [] := by intro e; rw [e] at hlt; simp at hlt
      rcases HRD.out with e | ⟨b, off, rfl, hcells⟩
      · exact absurd e hzne
      clear hzne
      have c1 := hcells k hlt
      clear hcells
      have hsc : ut.scB (zs.getD k 0) = true := HALL.out _ (by rw [List.getD_eq_getElem?_getD, List.getElem?_eq_getElem hlt]; exact List.getElem_mem hlt)
      have hrs := ut.sum_rsz hsc
      have hel := ut.enc_len (zs.getD k 0)
      have HST : Hid (((zs.take (k + 1)).flatMap ut.encB).length = ((zs.take k).flatMap ut.encB).length + (ut.encB (zs.getD k 0)).length) := by
        show _ = _
        rw [ut.take_step zs k hlt, List.flatMap_append, List.length_append, List.flatMap_cons, List.flatMap_nil, List.append_nil]
      generalize zs.getD k 0 = x at c1 hsc hrs hel HST
      generalize hnk : ((zs.take k).flatMap ut.encB).length = nk at hfl HST ⊢
      clear hnk
      have hlt' : (k : Int) < (zs.length : Int) := by omega
      clear hsc
      go_wp2_with fail
      refine (ut.implSize_any _ _).mono ?_
      rintro e w' ⟨rfl, rfl⟩
      rw [hrs]
      clear hrs
      generalize hne : (ut.encB x).length = ne at hel HST ⊢
      clear hne
      go_wp2
      go_round
      case rel => exact ⟨k + 1, by omega, by go_num, by rw [HST.out]; go_num⟩
      case measure => simp [intOf]; omega
    · have hkz : zs.take k = zs := List.take_of_length_le (by omega)
      have hsum : (zs.flatMap ut.encB).length = s.size := HSZ.out.symm
      rw [hkz, hsum]
      clear hkz hsum hfl htl
      go_wp2_with fail
      refine (sr.anyTextOf_any _ a1 len1 cap1 B1').mono ?_
      rintro e w8 ⟨⟨t, rfl, ht⟩, b8⟩
      have b8' : Below w.heap.size w w8 := b7'.trans (b8.mono b7'.size)
      clear b7' b8 B1'
      go_wp2_with fail
      refine (ut.implRepair_any t _ (by omega)).mono ?_
      rintro e w9 ⟨hr9, b9⟩
      obtain ⟨n9, hn9, rfl⟩ := ut.rep_ok hr9 (by omega)
      have hf := ut.fix_facts t n9 hn9
      have b9' : Below w.heap.size w w9 := b8'.trans (b9.mono b8'.size)
      clear hr9 b8' b9
      go_wp2_with fail
      refine (ut.specRepair_any t _ (by omega)).mono ?_
      rintro e w10 ⟨hr10, b10⟩
      obtain ⟨n10, hn10, rfl⟩ := ut.rep_ok hr10 (by omega)
      obtain rfl := ut.pos_inj t (hn9.trans hn10.symm)
      have b10' : Below w.heap.size w w10 := b9'.trans (b10.mono b9'.size)
      clear hr10 b9' b10
      have e1 : (⟨(ut.fixL t n9).toArray⟩ : ByteArray) = ut.mk (ut.fixL t n9) := rfl
      rw [e1]
      generalize ut.mk (ut.fixL t n9) = x at hf ⊢
      clear e1
      obtain ⟨hxr, hxi, hx3, hxf⟩ := hf
      go_wp2_with fail
      refine (ut.implRepair_any x _ (by omega)).mono ?_
      rintro e w11 ⟨hr11, b11⟩
      obtain ⟨n11, hn11, rfl⟩ := ut.rep_ok hr11 (by omega)
      have e2 : (⟨(ut.fixL x n11).toArray⟩ : ByteArray) = x := hxf n11 hn11
      rw [e2]
      have b11' : Below w.heap.size w w11 := b10'.trans (b11.mono b10'.size)
      clear e2 hxf hr11 hn11 hn9 hn10 b10' b11
      have HXI : Hid (ut.Right t ↔ x = t) := hxi
      have HXR : Hid (ut.Right x) := hxr
      clear hxi hxr
      go_wp2_with fail
      refine (ut.implValid_any x _ (by omega)).mono ?_
      rintro e w12 ⟨hsay, b12⟩
      obtain ⟨bb, rfl⟩ := ut.says_ex hsay
      obtain rfl : bb = true := (ut.says_iff hsay).2 ⟨by omega, HXR.out⟩
      have b12' : Below w.heap.size w w12 := b11'.trans (b12.mono b11'.size)
      clear hsay b11' b12
      go_wp2_with fail
      refine (ut.implValid_any t _ (by omega)).mono ?_
      rintro e w13 ⟨hsay, b13⟩
      obtain ⟨bb, rfl⟩ := ut.says_ex hsay
      have hbb : bb = true ↔ x = t := (ut.says_iff hsay).trans (Iff.trans ⟨fun h => h.2, fun h => ⟨by omega, h⟩⟩ HXI.out)
      have b13' : Below w.heap.size w w13 := b12'.trans (b13.mono b12'.size)
      have hlast : (bb == (x.toList == t.toList)) = true := by
        rw [beq_iff_eq, Bool.eq_iff_iff, hbb, beq_iff_eq]
        exact ⟨fun h => by rw [h], fun h => ut.bytes_ext (by rw [← Lib.toList_data, ← Lib.toList_data, h])⟩
      clear hsay b12' b13 hbb
      go_wp2
      go_ret
      exact ⟨rfl, b13'⟩

set_option maxRecDepth 100000 in
theorem lifted (os : Os) (started : os.Started) (H : Type) (enc : TypeId × Value → H) :
    ReturnsInHanded {} Try.checked os 3 .any (Rows.fnTextSpec.pre6 enc Try.prog Try.f3 Rows.fnTextRow.domain false) (Rows.fnTextSpec.post enc Try.prog Try.f3 false true false false) := by
  refine returnsInHanded_of_change (C := Try.checked) own started (by kernel_rfl) Try.func3
    (ChangeSpec.witness6 (enc := enc) (C := Try.checked) false ⟨#[], #[.slice none 0 0, .slice none 0 0], []⟩ 8 (by kernel_rfl) (by kernel_rfl) (by kernel_rfl) (by kernel_rfl)) ?_
  intro W base args ds gs before hval0 hW hcnd _
  have hval : ∀ (j : Nat) t v, Try.f3.params[j]? = some t → args[j]? = some v → Value.okWide Try.prog W .any base t v := hval0
  have hW' := hW
  obtain ⟨p, q, hA0, hV, rfl, hfz, hnd⟩ := hW
  have hA : DataW.TrodAll enc Try.prog W 0 (fun _ => true) true Try.f3.params.toList args.toList ds p := hA0
  rw [Try.params3] at hA hval
  obtain ⟨v0, vs0, d0, ds0, p0, q0, hargs, rfl, rfl, h0, r0⟩ := trodAll_cons hA
  obtain ⟨v1, vs1, d1, ds1, p1, q1, rfl, rfl, rfl, h1, r1⟩ := trodAll_cons r0
  obtain ⟨rfl, rfl, rfl⟩ := trodAll_nil r1
  obtain rfl : args = #[v0, v1] := by cases args; simp_all
  obtain ⟨rfl, rfl⟩ := trodVars_none hV
  obtain ⟨a0, len0, cap0, rfl⟩ := okWide_slice Try.underlying22 (hval 0 22 v0 rfl rfl)
  have k0 := h0
  have lt0 : ∀ x ∈ p0, x.block < W.heap.size := by obtain ⟨m, hm⟩ := k0; exact DataW.trod_lt m _ _ _ hm
  obtain ⟨z0, w0⟩ : ∃ zs, IsRow .u8 W a0 len0 cap0 zs := by
    obtain ⟨fuel, hf⟩ := h0
    rcases open_ints Try.underlying22 Try.underlying5 (by kernel_rfl) hf with ⟨hcs, _⟩ | ⟨x, l, c, zs, hcs, _, hl, hm, hz, _, hcell, hwz⟩
    · simp [Value.cells] at hcs
      obtain ⟨rfl, rfl, rfl⟩ := hcs
      exact ⟨[], .inl ⟨rfl, rfl, rfl, rfl⟩⟩
    · simp [Value.cells] at hcs
      obtain ⟨rfl, rfl, rfl⟩ := hcs
      exact ⟨zs, .inr ⟨_, rfl, hl, hm, by simpa using hz, hcell, hwz⟩⟩
  obtain ⟨a1, len1, cap1, rfl⟩ := okWide_slice Try.underlying22 (hval 1 22 v1 rfl rfl)
  have k1 := h1
  have lt1 : ∀ x ∈ p1, x.block < W.heap.size := by obtain ⟨m, hm⟩ := k1; exact DataW.trod_lt m _ _ _ hm
  obtain ⟨z1, w1⟩ : ∃ zs, IsRow .u8 W a1 len1 cap1 zs := by
    obtain ⟨fuel, hf⟩ := h1
    rcases open_ints Try.underlying22 Try.underlying5 (by kernel_rfl) hf with ⟨hcs, _⟩ | ⟨x, l, c, zs, hcs, _, hl, hm, hz, _, hcell, hwz⟩
    · simp [Value.cells] at hcs
      obtain ⟨rfl, rfl, rfl⟩ := hcs
      exact ⟨[], .inl ⟨rfl, rfl, rfl, rfl⟩⟩
    · simp [Value.cells] at hcs
      obtain ⟨rfl, rfl, rfl⟩ := hcs
      exact ⟨zs, .inr ⟨_, rfl, hl, hm, by simpa using hz, hcell, hwz⟩⟩
  clear hA0 hval0
  refine (walk a0 len0 cap0 z0 a1 len1 cap1 z1 W w0 w1).mono fun e W' ⟨he, bel⟩ => ?_
  subst he
  exact ⟨_, rfl, _, _, _, [], _, [], hW', trodAll_mk1 (shut_bool Try.underlying4 _), (trodAll_cons_mk (Below.trod laidOut (by kernel_rfl) (of_decide_eq_true (by kernel_rfl)) k0 bel lt0) (trodAll_cons_mk (Below.trod laidOut (by kernel_rfl) (of_decide_eq_true (by kernel_rfl)) k1 bel lt1) trodAll_mk0)), rfl, bel.frame _, fun h => by cases h⟩

theorem over : Rows.fnTextRow.holds Try.pinned (OpenSpec.ofChange Rows.fnTextSpec) :=
  OpenClaim.holds_of_wide 3 Try.f3 rfl rfl rfl rfl rfl rfl rfl ⟨rfl, rfl, rfl, rfl, rfl⟩ rfl rfl rfl rfl rfl (by kernel_rfl) Try.func3 (by kernel_rfl)
    (of_decide_eq_true (by kernel_rfl)) (by unfold Func.isWrapper; first | (rw [if_pos (by decide +kernel)]; kernel_rfl) | (rw [if_neg (by decide +kernel)]; exact ⟨rfl, rfl⟩))
    (fun os started H enc _ => lifted os started H enc)

theorem proved : Rows.FnTextSaid := over
end Go.Proofs.Ythndloempbcflaa.fnText
namespace Go.Proofs.Ythndloempbcflaa
theorem fnText_holds : Rows.FnTextSaid := fnText.proved
#print axioms fnText_holds
end Go.Proofs.Ythndloempbcflaa
