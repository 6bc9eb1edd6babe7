/-
  Contracts of the specification's drawn body: up to seven of twelve texts.
-/
import Derived.Test.YtpbmofofigkpjaaDoorSrv
import Derived.Test.YtpbmofofigkpjaaDoorBld
import Derived.Test.YtpbmofofigkpjaaDoorOwm
namespace Go.Proofs.YtpbmofofigkpjaaDoor.sr
open Go.RowKit
set_option linter.unusedVariables false

def Piece (s : ByteArray) : Prop := s.size ≤ 40
def bodyRow : List Value := [.string ⟨#[119, 111, 114, 100]⟩, .string ⟨#[32]⟩, .string ⟨#[13, 10]⟩, .string ⟨#[61]⟩, .string ⟨#[108, 111, 110, 103]⟩, .string ⟨#[195, 164]⟩, .string ⟨#[32, 13, 10]⟩, .string ⟨#[10]⟩, .string ⟨#[13]⟩, .string ⟨#[46]⟩, .string ⟨#[13, 10, 46]⟩, .string ⟨#[48, 49, 50, 51, 52, 53, 54, 55, 56, 57, 48, 49, 50, 51, 52, 53, 54, 55, 56, 57, 48, 49, 50, 51, 52, 53, 54, 55, 56, 57, 48, 49, 50, 51, 52, 53, 54, 55, 56, 57]⟩]
theorem body_at (j : Nat) (h : j < 12) : ∃ s : ByteArray, Piece s ∧ bodyRow[j]? = some (.string s) := by
  match j, h with
  | 0, _ => exact ⟨_, by unfold Piece; decide, rfl⟩
  | 1, _ => exact ⟨_, by unfold Piece; decide, rfl⟩
  | 2, _ => exact ⟨_, by unfold Piece; decide, rfl⟩
  | 3, _ => exact ⟨_, by unfold Piece; decide, rfl⟩
  | 4, _ => exact ⟨_, by unfold Piece; decide, rfl⟩
  | 5, _ => exact ⟨_, by unfold Piece; decide, rfl⟩
  | 6, _ => exact ⟨_, by unfold Piece; decide, rfl⟩
  | 7, _ => exact ⟨_, by unfold Piece; decide, rfl⟩
  | 8, _ => exact ⟨_, by unfold Piece; decide, rfl⟩
  | 9, _ => exact ⟨_, by unfold Piece; decide, rfl⟩
  | 10, _ => exact ⟨_, by unfold Piece; decide, rfl⟩
  | 11, _ => exact ⟨_, by unfold Piece; decide, rfl⟩
  | n + 12, h => exact absurd h (by omega)
theorem body_cells (w : World) (j : Nat) (h : j < 12) : ∃ s : ByteArray, Piece s ∧ (w.alloc (.cells bodyRow.toArray 9)).cell? ⟨w.heap.size, j, none⟩ = some (.string s) := by
  obtain ⟨s, h1, h2⟩ := body_at j h
  exact ⟨s, h1, ow.cell_new w bodyRow _ j _ h2⟩
theorem own_src {w w' : World} {base b e size n : Nat} {v : Value} {xs : List Value} (h : w.ownsRow base e size v n xs) (hb : b < base) (hg : w.grownBy w' (some b)) : w'.ownsRow base e size v n xs := by
  refine h.kept hg ?_
  rcases h.2 with ⟨rfl, _⟩ | ⟨g, cp, cur, rfl, hge, _⟩
  · exact .inl rfl
  · right; simp [Value.ownBlock]; omega

theorem grown_own {w w1 w2 : World} {b base e size n : Nat} {v : Value} {xs : List Value} (h : w.grownBy w1 (some b)) (hown : w1.ownsRow base e size v n xs) (hb : w.heap.size ≤ base) (hg : w1.grownBy w2 v.ownBlock) : w.grownBy w2 (some b) := by
  refine ⟨hg.os.trans h.os, hg.tape.trans h.tape, hg.output.trans h.output, Nat.le_trans h.size hg.size, fun k hk hr => ?_⟩
  rw [hg.block k (Nat.lt_of_lt_of_le hk h.size) (fun x => by have := ow.own_lt hown k x.symm; omega)]
  exact h.block k hk hr
/-- What a drawn body leaves. -/
def Bodied (w : World) (b : Nat) (e : Ending) (w' : World) : Prop :=
  ∃ (v : Value) (l : List UInt8), e = .returned v ∧ l.length ≤ 280 ∧ w'.ownsRow w.heap.size 5 1 v l.length (Lib.byteCells l) ∧ w.grownBy w' (some b)

set_option maxHeartbeats 2000000 in
set_option maxRecDepth 100000 in
theorem body_any (w : World) (b : Nat) (a : Option Addr) (len cap : Nat) (at_ sd : Int) (hs : Src w b a len cap at_ sd) (hc : Code w b a len) (h0 : 0 ≤ at_) (h1 : at_ ≤ 1000) (s0 : 0 ≤ sd) (s1 : sd < 2147483648) :
    Calls Tryd.prog 26 #[.pointer (some ⟨b, 0, none⟩)] w fun e w' => Bodied w b e w' := by
  obtain ⟨i0, hi, hz0, hz1, hz2⟩ := info_parts bl.info1
  have hbw : b < w.heap.size := (Array.getElem?_eq_some_iff.1 hs).1
  have hga : w.grownBy (w.alloc (.cells #[] 5)) (some b) := World.grownBy_alloc _ _ _
  have hsa : Src (w.alloc (.cells #[] 5)) b a len cap at_ sd := src_keep hs (World.grownBy_alloc _ _ none) (by simp)
  have hca := code_keep hc hga
  have hoa := ow.own_empty w 5
  go_enter Tryd.func26, Tryd.ntmps26
  go_wp2_with fail
  refine (next_any _ b a len cap at_ sd 8 (by exact hsa) (by exact hca) h0 (by omega) s0 s1 (by omega) (by omega)).mono ?_
  rintro e w1 ⟨x, at1, sd1, rfl, x0, x1, a0, a1, d0, d1, hs1, hg1⟩
  have hc1 := code_keep hca hg1
  have ho1 := own_src hoa hbw hg1
  have hgw := ow.grown_trans hga hg1
  clear hga hsa hca hoa hg1 hs hc
  obtain ⟨n0, rfl⟩ : ∃ n0 : Nat, x = (n0 : Int) := ⟨x.toNat, by omega⟩
  go_wp2
  go_loopw [3, 4] (fun v i wr => ∃ (k : Nat) (l : List UInt8) (at2 sd2 : Int), i = .int .i64 k ∧ l.length + 40 * k ≤ 280 ∧ at_ ≤ at2 ∧ at2 + 3 * k ≤ at_ + 24 ∧ 0 ≤ sd2 ∧ sd2 < 2147483648 ∧ Src wr b a len cap at2 sd2 ∧ w.grownBy wr (some b) ∧ Code wr b a len ∧
      wr.ownsRow w.heap.size 5 1 v l.length (Lib.byteCells l)) (fun _ i _ => (intOf i).toNat)
  case atStart => exact ⟨n0, [], at1, sd1, rfl, by simp; omega, a0, by omega, d0, d1, hs1, hgw, hc1, ho1⟩
  case round =>
    clear hs1 hgw hc1 ho1
    obtain ⟨k, l, at2, sd2, rfl, hk, e0, e1, f0, f1, hs2, hg2, hc2, hown⟩ := hrel
    by_cases hpos : 0 < k
    case neg =>
      have hk0 : ¬ (0 : Int) < (k : Int) := by omega
      go_wp2
      go_ret
      exact ⟨_, l, rfl, by omega, hown, hg2⟩
    have hk0 : (0 : Int) < (k : Int) := by omega
    have hlt : b < wr.heap.size := (Array.getElem?_eq_some_iff.1 hs2).1
    have hga : wr.grownBy (wr.alloc (.cells bodyRow.toArray 9)) (some b) := World.grownBy_alloc _ _ _
    have hsa : Src (wr.alloc (.cells bodyRow.toArray 9)) b a len cap at2 sd2 := src_keep hs2 (World.grownBy_alloc _ _ none) (by simp)
    have hca := code_keep hc2 hga
    have HP : Hid (Calls Tryd.prog 54 #[.pointer (some ⟨b, 0, none⟩), .slice (some ⟨wr.heap.size, 0, none⟩) 12 12] (wr.alloc (.cells bodyRow.toArray 9)) fun e w' => PickedQ (wr.alloc (.cells bodyRow.toArray 9)) b a len cap at2 3 Piece e w') :=
      pickQ_any _ b a len cap at2 sd2 wr.heap.size 12 12 Piece hsa hca (by omega) (by omega) f0 f1 (by omega) (by omega) (by omega) (fun j hj => body_cells wr j hj)
    have howna := own_src hown hbw hga
    have hgwa := ow.grown_trans hg2 hga
    clear hsa hs2 hc2 hg2 hga hown
    go_wp2_with fail
    refine HP.out.mono ?_
    rintro e w3 ⟨s, at3, sd3, rfl, hq, g0, g1, d2, d3, hs3, hg3⟩
    have hc3 := code_keep hca hg3
    have hgw3 := ow.grown_trans hgwa hg3
    have hown3 := own_src howna hbw hg3
    have hsz3 := hgw3.size
    have hq' : s.size ≤ 40 := hq
    clear hca hgwa hg3 howna HP hq
    go_wp2_with (at_builtin; go_loud (refine Lib.wpList_append_own_string _ rfl _ _ 22 9 rfl w.heap.size 5 i0 Tryd.underlying22 Tryd.underlying9 hi hz0 hz1 hz2 _ _ _ rfl hown3 s rfl (by unfold maxLen; omega) (by omega) hsz3 ?_); intro v' w4 hown' hgrow _)
    have hgz := grown_own hgw3 hown3 (Nat.le_refl _) hgrow
    have hcz := code_keep' hc3 hgrow (fun j hj => Nat.le_trans (Nat.le_of_lt hbw) (ow.own_lt hown3 j hj))
    have hsz4 := src_keep hs3 hgrow (fun x => by have := ow.own_lt hown3 b x.symm; omega)
    obtain ⟨ao, n', cap', rfl⟩ : ∃ ao n' cap, v' = .slice ao n' cap := by
      rcases hown'.2 with ⟨hv, _⟩ | ⟨g, cap, cur, hv, _⟩
      · exact ⟨_, _, _, hv⟩
      · exact ⟨_, _, _, hv⟩
    rw [Lib.strCells_eq, ← Lib.byteCells_append] at hown'
    clear hs3 hc3 hown3 hgw3 hgrow
    go_wp2
    go_roundw
    case rel => exact ⟨k - 1, l ++ s.data.toList, at3, sd3, by go_num, by rw [List.length_append, ← Lib.size_eq]; omega, by omega, by omega, d2, d3, hsz4, hgz, hcz, by rw [List.length_append, ← Lib.size_eq]; exact hown'⟩
    case measure => simp [intOf]; omega

set_option maxHeartbeats 1000000 in
theorem bodyOf_any (w : World) (a : Option Addr) (len cap : Nat) (h : Bytes w a len) :
    Calls Tryd.prog 8 #[.slice a len cap] w fun e w' => (∃ (v : Value) (l : List UInt8), e = .returned v ∧ l.length ≤ 280 ∧ w'.ownsRow w.heap.size 5 1 v l.length (Lib.byteCells l)) ∧ Below w.heap.size w w' := by
  have hl := h.1
  go_enter Tryd.func8, Tryd.ntmps8
  go_wp2_with fail
  refine (source_any _ a len cap hl).mono ?_
  rintro e w1 ⟨rfl, rfl⟩
  have hs := src_started w a len cap
  have hc := code_started (cap := cap) h
  have hb : Below w.heap.size w (started w a len cap) := (Below.refl _ _).alloc (Nat.le_refl _) _
  generalize started w a len cap = w1 at hs hc hb ⊢
  go_wp2_with fail
  refine (body_any _ _ a len cap 0 _ hs hc (by omega) (by omega) (by omega) (by omega)).mono ?_
  rintro e w2 ⟨v, l, rfl, hz, hown, hg⟩
  have HH : Hid (Below w.heap.size w w2) := Below.grown hb hg hb.size (fun k e => Nat.le_of_eq (Option.some.inj e))
  have hown2 := ow.own_base hown hb.size
  clear hg hb hs hc h hown
  go_wp2
  go_ret
  exact ⟨⟨_, l, rfl, hz, hown2⟩, HH.out⟩
end Go.Proofs.YtpbmofofigkpjaaDoor.sr
