/-
  A drawn text in one line is in one line, as the specification says, and stays as it is; for every input.
-/
import Derived.Test.YtlnocoppljldbaaLic
import Derived.Test.YtlnocoppljldbaaSro
import Derived.Test.YtlnocoppljldbaaRows
import Derived.WalkKit
import Derived.ProofKit
import Derived.OpenShut
import Derived.ShutString
import Derived.ChangeOld
import Derived.Below
namespace Go.Proofs.Ytlnocoppljldbaa.fnLine
open Go.ChangeShapes Go.WideShapes Go.ChangeAt Go.RowKit
open Go.ChangeMaps (open_string shut_string)
set_option linter.unusedVariables false

theorem own : ownKnob Try.prog.godebug = none := by kernel_rfl
theorem laidOut : laidOutB Try.prog = true := by kernel_rfl

/-- WHAT THE WALK IS TOLD OF A SLICE OF INTEGERS THAT CAME IN: it is nil; or it leads to a row of 'cap' cells, the numbers 'zs' (the first 'len' are its elements, the rest its spare room), each fitting its kind. -/
def IsRow (k : IntKind) (w : World) (a : Option Addr) (len cap : Nat) (zs : List Int) : Prop :=
  (a = none ∧ len = 0 ∧ cap = 0 ∧ zs = []) ∨
  ∃ x, a = some x ∧ len ≤ cap ∧ cap ≤ maxLen ∧ zs.length = cap ∧ (∀ i, i < zs.length → w.cell? (x.add i) = some (.int k (zs.getD i 0))) ∧ ∀ n ∈ zs, (Lit.int k n).wf = true

theorem walk (a0 : Option Addr) (len0 cap0 : Nat) (z0 : List Int) (a1 : Option Addr) (len1 cap1 : Nat) (z1 : List Int) (w : World) (w0 : IsRow .u8 w a0 len0 cap0 z0) (w1 : IsRow .u8 w a1 len1 cap1 z1) :
    Calls Try.prog 3 #[.slice a0 len0 cap0, .slice a1 len1 cap1] w fun e w' => e = .returned (.bool true) ∧ Below w.heap.size w w' := by
  have key : ∀ {a : Option Addr} {len cap : Nat} {zs : List Int}, IsRow .u8 w a len cap zs → len ≤ 1048576 → sr.Bytes w a len := by
    intro a len cap zs h hl
    refine ⟨hl, ?_⟩
    rcases h with ⟨rfl, rfl, rfl, rfl⟩ | ⟨x, rfl, hlc, hm, hz, hcell, hwz⟩
    · exact .inl rfl
    · by_cases h0 : len = 0
      · exact .inl h0
      · right
        obtain ⟨b, off, spot⟩ := x
        have hc := hcell 0 (by omega)
        have hspot : spot = none := by simpa [Addr.add] using World.cell?_spot hc
        subst hspot
        refine ⟨b, off, rfl, fun j hj => ?_⟩
        have hj2 : j < zs.length := by omega
        have hb := bounds_u8 (hwz (zs.getD j 0) (by rw [List.getD_eq_getElem?_getD, List.getElem?_eq_getElem hj2]; exact List.getElem_mem hj2))
        refine ⟨zs.getD j 0, hb.1, hb.2, ?_⟩
        rw [← hcell j hj2]
        congr 1
        simp [Addr.add]
  by_cases hbig : 1048576 < len0
  · have hb : (1048576 : Int) < (len0 : Int) := by omega
    clear key w0 w1
    go_enter Try.func3, Try.ntmps3
    go_wp2
    go_ret
    exact ⟨rfl, Below.refl _ _⟩
  by_cases hbig1 : 1048576 < len1
  · have hb : ¬ (1048576 : Int) < (len0 : Int) := by omega
    have hb1 : (1048576 : Int) < (len1 : Int) := by omega
    have hbd : decide ((1048576 : Int) < (len0 : Int)) = false := decide_eq_false hb
    have hbd1 : decide ((1048576 : Int) < (len1 : Int)) = true := decide_eq_true hb1
    clear key w0 w1
    go_enter Try.func3, Try.ntmps3
    go_wp2
    go_ret
    exact ⟨rfl, Below.refl _ _⟩
  have hb : decide ((1048576 : Int) < (len0 : Int)) = false := decide_eq_false (by omega)
  have hb1 : decide ((1048576 : Int) < (len1 : Int)) = false := decide_eq_false (by omega)
  have B0 := key w0 (by omega)
  have B1 := key w1 (by omega)
  clear key w0 w1
  go_enter Try.func3, Try.ntmps3
  go_wp2_with fail
  refine (sr.textOf_any _ a0 len0 cap0 B0).mono ?_
  rintro e w2 ⟨⟨zs, rfl, hzl, hall⟩, b2⟩
  have B1' := sr.bytes_below B1 b2
  have hf1 := ut.flat_len zs
  have e0 : (⟨(zs.flatMap ut.encB).toArray⟩ : ByteArray).size ≤ 44 := by show (zs.flatMap ut.encB).toArray.size ≤ 44; simp; simp at hf1; omega
  generalize (⟨(zs.flatMap ut.encB).toArray⟩ : ByteArray) = s1 at e0 ⊢
  clear hf1 hall hzl B0 B1
  go_wp2_with fail
  refine (sr.textOf_any _ a1 len1 cap1 B1').mono ?_
  rintro e w3 ⟨⟨zs, rfl, hzl, hall⟩, b3⟩
  have hf1 := ut.flat_len zs
  have e1 : (⟨(zs.flatMap ut.encB).toArray⟩ : ByteArray).size ≤ 44 := by show (zs.flatMap ut.encB).toArray.size ≤ 44; simp; simp at hf1; omega
  generalize (⟨(zs.flatMap ut.encB).toArray⟩ : ByteArray) = s2 at e1 ⊢
  have b4 := b2.trans (b3.mono b2.size)
  clear hf1 hall hzl B1' b2 b3
  go_wp2_with fail
  generalize hT : s1 ++ (⟨#[32, 10]⟩ : ByteArray) ++ s2 = T
  have hTs : T.size ≤ 1000 := by
    rw [← hT, ByteArray.size_append, ByteArray.size_append]
    have : (⟨#[32, 10]⟩ : ByteArray).size = 2 := rfl
    omega
  clear hT e0 e1
  refine (li.impl_one T _ (by omega)).mono ?_
  rintro e w5 ⟨h5, b5⟩
  obtain rfl := li.one_yes h5 (by omega)
  have b6 := b4.trans (b5.mono b4.size)
  clear h5 b4 b5
  go_wp2_with fail
  refine (li.spec_one T _ (by omega)).mono ?_
  rintro e w7 ⟨h7, b7⟩
  obtain rfl := li.one_yes h7 (by omega)
  have b8 := b6.trans (b7.mono b6.size)
  clear h7 b6 b7
  have hx : (⟨(li.line T.data.toList).toArray⟩ : ByteArray).data.toList = li.line T.data.toList := by simp
  have hxs : (⟨(li.line T.data.toList).toArray⟩ : ByteArray).size ≤ 1000 := by
    have := li.line_len T.data.toList
    rw [← Lib.size_eq] at this
    rw [Lib.size_eq, hx]
    omega
  have HN : Hid (li.Nice (⟨(li.line T.data.toList).toArray⟩ : ByteArray).data.toList) := by rw [hx]; exact li.nice_line _
  generalize (⟨(li.line T.data.toList).toArray⟩ : ByteArray) = x at hxs HN ⊢
  clear hx hTs
  have HLL : Hid ((⟨(li.line x.data.toList).toArray⟩ : ByteArray) = x) := by rw [li.line_nice HN.out]; exact congrArg ByteArray.mk (Array.toArray_toList)
  go_wp2_with fail
  refine (li.impl_one x _ (by omega)).mono ?_
  rintro e w9 ⟨h9, b9⟩
  obtain rfl := li.one_yes h9 (by omega)
  have b10 := b8.trans (b9.mono b8.size)
  clear h9 b8 b9
  rw [HLL.out]
  clear HLL
  have hxx : (x.toList == x.toList) = true := by simp
  go_wp2
  go_loop [12] (fun i => ∃ k : Nat, k ≤ x.size ∧ i = .int .i64 k) (fun i => x.size - (intOf i).toNat)
  case atStart => exact ⟨0, Nat.zero_le _, rfl⟩
  case round =>
    obtain ⟨k, hk, rfl⟩ := hrel
    by_cases hlt : k < x.size
    · have hg : x.data.toList.getD k 0 = x[k]'hlt := li.get_at x k hlt
      have hn := HN.out k (by rw [← Lib.size_eq]; exact hlt)
      rw [hg] at hn
      cases hb : li.blk (x[k]'hlt)
      · have h9 : (((x[k]'hlt).toNat : Int) == 9) = false := li.no9 hb
        have h10 : (((x[k]'hlt).toNat : Int) == 10) = false := li.no10 hb
        have h13 : (((x[k]'hlt).toNat : Int) == 13) = false := li.no13 hb
        have h32 : (((x[k]'hlt).toNat : Int) == 32) = false := li.no32 hb
        clear hn hg hb
        go_wp2
        go_round
        case rel => exact ⟨k + 1, by omega, by go_num⟩
        case measure => simp [intOf]; omega
      · obtain ⟨n1, n2, n3, n4⟩ := hn hb
        obtain ⟨j, rfl⟩ : ∃ j, k = j + 1 := ⟨k - 1, by omega⟩
        rw [← Lib.size_eq] at n3
        have hj : j < x.size := by omega
        rw [Nat.add_sub_cancel, li.get_at x j hj] at n4
        have hcz : ((x[j + 1]'hlt).toNat : Int) = 32 := by rw [n1]; rfl
        have h32 : (((x[j]'hj).toNat : Int) == 32) = false := li.no32 n4
        have hend : (((j : Int) + 1 + 1) == (x.size : Int)) = false := beq_eq_false_iff_ne.2 (by omega)
        have hz : (((j : Int) + 1) == 0) = false := beq_eq_false_iff_ne.2 (by omega)
        clear hn hg hb n1 n2 n4
        go_wp2
        go_round
        case rel => exact ⟨j + 1 + 1, by omega, by go_num⟩
        case measure => simp [intOf]; omega
    · go_wp2
      go_ret
      exact ⟨rfl, b10⟩

set_option maxRecDepth 100000 in
theorem lifted (os : Os) (started : os.Started) (H : Type) (enc : TypeId × Value → H) :
    ReturnsInHanded {} Try.checked os 3 .any (Rows.fnLineSpec.pre6 enc Try.prog Try.f3 Rows.fnLineRow.domain false) (Rows.fnLineSpec.post enc Try.prog Try.f3 false true false false) := by
  refine returnsInHanded_of_change (C := Try.checked) own started (by kernel_rfl) Try.func3
    (ChangeSpec.witness6 (enc := enc) (C := Try.checked) false ⟨#[], #[.slice none 0 0, .slice none 0 0], []⟩ 8 (by kernel_rfl) (by kernel_rfl) (by kernel_rfl) (by kernel_rfl)) ?_
  intro W base args ds gs before hval0 hW hcnd _
  have hval : ∀ (j : Nat) t v, Try.f3.params[j]? = some t → args[j]? = some v → Value.okWide Try.prog W .any base t v := hval0
  have hW' := hW
  obtain ⟨p, q, hA0, hV, rfl, hfz, hnd⟩ := hW
  have hA : DataW.TrodAll enc Try.prog W 0 (fun _ => true) true Try.f3.params.toList args.toList ds p := hA0
  rw [Try.params3] at hA hval
  obtain ⟨v0, vs0, d0, ds0, p0, q0, hargs, rfl, rfl, h0, r0⟩ := trodAll_cons hA
  obtain ⟨v1, vs1, d1, ds1, p1, q1, rfl, rfl, rfl, h1, r1⟩ := trodAll_cons r0
  obtain ⟨rfl, rfl, rfl⟩ := trodAll_nil r1
  obtain rfl : args = #[v0, v1] := by cases args; simp_all
  obtain ⟨rfl, rfl⟩ := trodVars_none hV
  obtain ⟨a0, len0, cap0, rfl⟩ := okWide_slice Try.underlying22 (hval 0 22 v0 rfl rfl)
  have k0 := h0
  have lt0 : ∀ x ∈ p0, x.block < W.heap.size := by obtain ⟨m, hm⟩ := k0; exact DataW.trod_lt m _ _ _ hm
  obtain ⟨z0, w0⟩ : ∃ zs, IsRow .u8 W a0 len0 cap0 zs := by
    obtain ⟨fuel, hf⟩ := h0
    rcases open_ints Try.underlying22 Try.underlying5 (by kernel_rfl) hf with ⟨hcs, _⟩ | ⟨x, l, c, zs, hcs, _, hl, hm, hz, _, hcell, hwz⟩
    · simp [Value.cells] at hcs
      obtain ⟨rfl, rfl, rfl⟩ := hcs
      exact ⟨[], .inl ⟨rfl, rfl, rfl, rfl⟩⟩
    · simp [Value.cells] at hcs
      obtain ⟨rfl, rfl, rfl⟩ := hcs
      exact ⟨zs, .inr ⟨_, rfl, hl, hm, by simpa using hz, hcell, hwz⟩⟩
  obtain ⟨a1, len1, cap1, rfl⟩ := okWide_slice Try.underlying22 (hval 1 22 v1 rfl rfl)
  have k1 := h1
  have lt1 : ∀ x ∈ p1, x.block < W.heap.size := by obtain ⟨m, hm⟩ := k1; exact DataW.trod_lt m _ _ _ hm
  obtain ⟨z1, w1⟩ : ∃ zs, IsRow .u8 W a1 len1 cap1 zs := by
    obtain ⟨fuel, hf⟩ := h1
    rcases open_ints Try.underlying22 Try.underlying5 (by kernel_rfl) hf with ⟨hcs, _⟩ | ⟨x, l, c, zs, hcs, _, hl, hm, hz, _, hcell, hwz⟩
    · simp [Value.cells] at hcs
      obtain ⟨rfl, rfl, rfl⟩ := hcs
      exact ⟨[], .inl ⟨rfl, rfl, rfl, rfl⟩⟩
    · simp [Value.cells] at hcs
      obtain ⟨rfl, rfl, rfl⟩ := hcs
      exact ⟨zs, .inr ⟨_, rfl, hl, hm, by simpa using hz, hcell, hwz⟩⟩
  clear hA0 hval0
  refine (walk a0 len0 cap0 z0 a1 len1 cap1 z1 W w0 w1).mono fun e W' ⟨he, bel⟩ => ?_
  subst he
  exact ⟨_, rfl, _, _, _, [], _, [], hW', trodAll_mk1 (shut_bool Try.underlying4 _), (trodAll_cons_mk (Below.trod laidOut (by kernel_rfl) (of_decide_eq_true (by kernel_rfl)) k0 bel lt0) (trodAll_cons_mk (Below.trod laidOut (by kernel_rfl) (of_decide_eq_true (by kernel_rfl)) k1 bel lt1) trodAll_mk0)), rfl, bel.frame _, fun h => by cases h⟩

theorem over : Rows.fnLineRow.holds Try.pinned (OpenSpec.ofChange Rows.fnLineSpec) :=
  OpenClaim.holds_of_wide 3 Try.f3 rfl rfl rfl rfl rfl rfl rfl ⟨rfl, rfl, rfl, rfl, rfl⟩ rfl rfl rfl rfl rfl (by kernel_rfl) Try.func3 (by kernel_rfl)
    (of_decide_eq_true (by kernel_rfl)) (by unfold Func.isWrapper; first | (rw [if_pos (by decide +kernel)]; kernel_rfl) | (rw [if_neg (by decide +kernel)]; exact ⟨rfl, rfl⟩))
    (fun os started H enc _ => lifted os started H enc)

theorem proved : Rows.FnLineSaid := over
end Go.Proofs.Ytlnocoppljldbaa.fnLine
namespace Go.Proofs.Ytlnocoppljldbaa
theorem fnLine_holds : Rows.FnLineSaid := fnLine.proved
#print axioms fnLine_holds
end Go.Proofs.Ytlnocoppljldbaa
