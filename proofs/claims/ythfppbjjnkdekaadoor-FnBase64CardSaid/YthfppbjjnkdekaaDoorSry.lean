/-
  The contract of the laws' drawn bytes.
-/
import Derived.Test.YthfppbjjnkdekaaDoorSrm
import Derived.Test.YthfppbjjnkdekaaDoorBld
namespace Go.Proofs.YthfppbjjnkdekaaDoor.sr
open Go.RowKit
set_option linter.unusedVariables false

/-- What drawn bytes leave. -/
def Byted (w : World) (b : Nat) (top : Nat) (e : Ending) (w' : World) : Prop :=
  ∃ (v : Value) (l : List UInt8), e = .returned v ∧ l.length ≤ top ∧ w'.ownsRow w.heap.size 5 1 v l.length (Lib.byteCells l) ∧ w.grownBy w' (some b)

theorem own_src {w w' : World} {base b e size n : Nat} {v : Value} {xs : List Value} (h : w.ownsRow base e size v n xs) (hb : b < base) (hg : w.grownBy w' (some b)) : w'.ownsRow base e size v n xs := by
  refine h.kept hg ?_
  rcases h.2 with ⟨rfl, _⟩ | ⟨g, cp, cur, rfl, hge, _⟩
  · exact .inl rfl
  · right; simp [Value.ownBlock]; omega

set_option maxHeartbeats 2000000 in
set_option maxRecDepth 100000 in
theorem bytes_any (w : World) (b : Nat) (a : Option Addr) (len cap : Nat) (at_ sd : Int) (top : Nat) (hs : Src w b a len cap at_ sd) (hc : Code w b a len) (h0 : 0 ≤ at_) (h1 : at_ ≤ 1000) (s0 : 0 ≤ sd) (s1 : sd < 2147483648) (ht : top ≤ 1000) :
    Calls Tryd.prog 26 #[.pointer (some ⟨b, 0, none⟩), .int .i64 top] w fun e w' => Byted w b top e w' := by
  obtain ⟨i0, hi, hz0, hz1, hz2⟩ := info_parts bl.info1
  have hbw : b < w.heap.size := (Array.getElem?_eq_some_iff.1 hs).1
  have hga : w.grownBy (w.alloc (.cells #[] 5)) (some b) := World.grownBy_alloc _ _ _
  have hsa : Src (w.alloc (.cells #[] 5)) b a len cap at_ sd := src_keep hs (World.grownBy_alloc _ _ none) (by simp)
  have hca := code_keep hc hga
  have hoa := ow.own_empty w 5
  go_enter Tryd.func26, Tryd.ntmps26
  go_wp2_with fail
  refine (next_any _ b a len cap at_ sd ((top : Int) + 1) (by exact hsa) (by exact hca) h0 (by omega) s0 s1 (by omega) (by omega)).mono ?_
  rintro e w1 ⟨x, at1, sd1, rfl, x0, x1, a0, a1, d0, d1, hs1, hg1⟩
  have hc1 := code_keep hca hg1
  have ho1 := own_src hoa hbw hg1
  have hgw := ow.grown_trans hga hg1
  clear hga hsa hca hoa hg1 hs hc
  obtain ⟨n0, rfl⟩ : ∃ n0 : Nat, x = (n0 : Int) := ⟨x.toNat, by omega⟩
  go_wp2
  go_loopw [5, 6] (fun v i wr => ∃ (k : Nat) (l : List UInt8) (at2 sd2 : Int), i = .int .i64 k ∧ l.length + k ≤ top ∧ at_ ≤ at2 ∧ at2 ≤ at_ + 3 + 3 * l.length ∧ 0 ≤ sd2 ∧ sd2 < 2147483648 ∧ Src wr b a len cap at2 sd2 ∧ w.grownBy wr (some b) ∧ Code wr b a len ∧
      wr.ownsRow w.heap.size 5 1 v l.length (Lib.byteCells l)) (fun _ i _ => (intOf i).toNat)
  case atStart => exact ⟨n0, [], at1, sd1, rfl, by simp; omega, a0, by simp; omega, d0, d1, hs1, hgw, hc1, ho1⟩
  case round =>
    clear hs1 hgw hc1 ho1
    obtain ⟨k, l, at2, sd2, rfl, hk, e0, e1, f0, f1, hs2, hg2, hc2, hown⟩ := hrel
    by_cases hpos : 0 < k
    case neg =>
      have hk0 : ¬ (0 : Int) < (k : Int) := by omega
      go_wp2
      go_ret
      exact ⟨_, l, rfl, by omega, hown, hg2⟩
    have hk0 : (0 : Int) < (k : Int) := by omega
    go_wp2_with fail
    refine (next_any _ b a len cap at2 sd2 256 hs2 hc2 (by omega) (by omega) f0 f1 (by omega) (by omega)).mono ?_
    rintro e w3 ⟨y, at3, sd3, rfl, y0, y1, g0, g1, d2, d3, hs3, hg3⟩
    have hc3 := code_keep hc2 hg3
    have hgw3 := ow.grown_trans hg2 hg3
    have hown3 := own_src hown hbw hg3
    have hsz3 := hgw3.size
    clear hs2 hc2 hg2 hg3 hown
    obtain ⟨c, rfl⟩ : ∃ c : Nat, y = (c : Int) := ⟨y.toNat, by omega⟩
    have hc256 : c < 256 := by omega
    have HB : Hid (Lib.byteCells [UInt8.ofNat c] = [Value.int .u8 (c : Int)]) := by
      have : ((UInt8.ofNat c).toNat : Int) = (c : Int) := by rw [UInt8.toNat_ofNat']; omega
      show [Value.int .u8 ((UInt8.ofNat c).toNat : Int)] = _
      rw [this]
    have hS4 := src_keep hs3 (World.grownBy_alloc w3 (.cells #[Value.int .u8 (c : Int)] 5) none) (by simp)
    go_wp2_with (at_builtin; go_loud (refine wpList_append_own _ rfl _ _ 22 rfl w.heap.size 5 i0 (.int .u8 0) 1 1 Tryd.underlying22 hi hz0 hz1 hz2 rfl (by decide) _ _ _ rfl (hown3.alloc _) ⟨w3.heap.size, 0, none⟩ 1 1 [Value.int .u8 (c : Int)] rfl rfl (ow.cells_new w3 _ 5) (by simp [Value.oneCell']) (by unfold maxLen; omega) (by omega) (by simp; omega) ?_); intro v' w4 hown' hgrow _)
    have hgz := ow.grown_new hgw3 hown3 (Nat.le_refl _) _ hgrow
    have hcz := code_keep' hc3 (ow.grown_alloc (ow.grown_refl w3 none) (.cells #[Value.int .u8 (c : Int)] 5)) (fun k hk => by cases hk)
    have hcz2 := code_keep' hcz hgrow (fun j hj => Nat.le_trans (Nat.le_of_lt hbw) (ow.own_lt hown3 j hj))
    have hsz4 := src_keep hS4 hgrow (fun x => by have := ow.own_lt hown3 b x.symm; omega)
    obtain ⟨ao, n', cap', rfl⟩ : ∃ ao n' cap, v' = .slice ao n' cap := by
      rcases hown'.2 with ⟨hv, _⟩ | ⟨g, cap, cur, hv, _⟩
      · exact ⟨_, _, _, hv⟩
      · exact ⟨_, _, _, hv⟩
    rw [← HB.out, ← Lib.byteCells_append] at hown'
    clear hs3 hc3 hown3 hgw3 hS4 hcz hgrow
    go_wp2
    go_roundw
    case rel => exact ⟨k - 1, l ++ [UInt8.ofNat c], at3, sd3, by go_num, by rw [List.length_append]; simp; omega, by omega, by rw [List.length_append]; simp; omega, d2, d3, hsz4, hgz, hcz2, by rw [List.length_append]; exact hown'⟩
    case measure => simp [intOf]; omega

/-- Drawn bytes, in memory of their own. -/
def BytesIs (w : World) (top : Nat) (e : Ending) (w' : World) : Prop :=
  ∃ (v : Value) (l : List UInt8), e = .returned v ∧ l.length ≤ top ∧ w'.ownsRow w.heap.size 5 1 v l.length (Lib.byteCells l)

set_option maxHeartbeats 1000000 in
theorem bytesOf_any (w : World) (a : Option Addr) (len cap : Nat) (top : Nat) (h : Bytes w a len) (ht : top ≤ 1000) :
    Calls Tryd.prog 9 #[.slice a len cap, .int .i64 top] w fun e w' => BytesIs w top e w' ∧ Below w.heap.size w w' := by
  have hl := h.1
  go_enter Tryd.func9, Tryd.ntmps9
  go_wp2_with fail
  refine (source_any _ a len cap hl).mono ?_
  rintro e w1 ⟨rfl, rfl⟩
  have hs := src_started w a len cap
  have hc := code_started (cap := cap) h
  have hb : Below w.heap.size w (started w a len cap) := (Below.refl _ _).alloc (Nat.le_refl _) _
  generalize started w a len cap = w1 at hs hc hb ⊢
  go_wp2_with fail
  refine (bytes_any _ _ a len cap 0 _ top hs hc (by omega) (by omega) (by omega) (by omega) ht).mono ?_
  rintro e w2 ⟨v, l, rfl, hz, hown, hg⟩
  have HH : Hid (Below w.heap.size w w2) := Below.grown hb hg hb.size (fun k e => Nat.le_of_eq (Option.some.inj e))
  have hown2 := ow.own_base hown hb.size
  clear hg hb hs hc h hown
  go_wp2
  go_ret
  exact ⟨⟨_, l, rfl, hz, hown2⟩, HH.out⟩
end Go.Proofs.YthfppbjjnkdekaaDoor.sr
