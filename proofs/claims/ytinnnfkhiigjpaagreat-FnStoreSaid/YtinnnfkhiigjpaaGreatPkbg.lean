/-
  The contract of the specification's base 64 text: it is the text of the bytes.
  Plain facts on the program's tables: what their blocks hold when they read as listed.
  The contract of the program's base 64 text: it is the text of the bytes.
  The contract of the program's encoded words: what a text is encoded to.
  The contract of the specification's encoding of a text for a field.
-/
import Derived.Test.YtinnnfkhiigjpaaGreatRows
import Derived.WalkKit
import Derived.WalkLawsBesides
import Derived.Deep.QuietTactic
import Derived.BigQuiet
import Derived.Test.YtinnnfkhiigjpaaGreatPkbf
import Derived.Test.YtinnnfkhiigjpaaGreatPkbd
import Derived.BigRegion
import Derived.Laws.AppendOwn
import Derived.Lib.LaidTab
import Derived.Lib.Space
import Derived.Laws.IdiomCopy
import Derived.Laws.CopyRow
import Derived.Laws.CopyOwn
import Derived.Laws.BitsAll
import Derived.Test.YtinnnfkhiigjpaaGreatPkbe
import Derived.Test.YtinnnfkhiigjpaaGreatPkbc

namespace Go.Proofs.YtinnnfkhiigjpaaGreat.b6
open Go.RowKit
set_option linter.unusedVariables false

/-- The numbers of bytes. -/
def bz (l : List UInt8) : List Int := l.map fun b => (b.toNat : Int)
theorem bz_len (l : List UInt8) : (bz l).length = l.length := List.length_map _
theorem bz_at (l : List UInt8) (j : Nat) : (bz l).getD j 0 = ((l.getD j 0).toNat : Int) := by
  simp only [bz, List.getD_eq_getElem?_getD, List.getElem?_map]
  cases l[j]? <;> simp

/-- The first k bytes from i on, as one number; 0 where none is. -/
def nv (l : List UInt8) (i : Nat) : Nat → Nat
  | 0 => 0
  | k + 1 => nv l i k * 256 + (if i + k < l.length then (l.getD (i + k) 0).toNat else 0)
theorem nv_lt (l : List UInt8) (i k : Nat) : nv l i k < 256 ^ k := by
  induction k with
  | zero => simp [nv]
  | succ k ih =>
    have := (l.getD (i + k) 0).toNat_lt
    simp only [nv, Nat.pow_succ]
    split <;> omega
def lets : ByteArray := ⟨#[65, 66, 67, 68, 69, 70, 71, 72, 73, 74, 75, 76, 77, 78, 79, 80, 81, 82, 83, 84, 85, 86, 87, 88, 89, 90, 97, 98, 99, 100, 101, 102, 103, 104, 105, 106, 107, 108, 109, 110, 111, 112, 113, 114, 115, 116, 117, 118, 119, 120, 121, 122, 48, 49, 50, 51, 52, 53, 54, 55, 56, 57, 43, 47]⟩
theorem lets_at_all : ∀ n : Fin 64, ((lets.data.toList)[n.val]?).map (·.toNat) = some (L n.val).toNat := by decide +kernel

theorem ix_lets (z : Int) (m : Nat) (h : z = m) (hm : m < 64) (wx : World) : (Instr.index 9 (.string { data := #[65, 66, 67, 68, 69, 70, 71, 72, 73, 74, 75, 76, 77, 78, 79, 80, 81, 82, 83, 84, 85, 86, 87, 88, 89, 90, 97, 98, 99, 100, 101, 102, 103, 104, 105, 106, 107, 108, 109, 110, 111, 112, 113, 114, 115, 116, 117, 118, 119, 120, 121, 122, 48, 49, 50, 51, 52, 53, 54, 55, 56, 57, 43, 47] }) (.int .i64 z)).run Tryz.prog wx = .ok (.int .u8 ((L m).toNat : Int)) wx := by
  subst h
  have hs : m < lets.size := hm
  have e := lets_at_all ⟨m, hm⟩
  have hb : lets[(m : Int).toNat]'(by simpa using hs) = lets[m]'hs := by simp
  have hc : (lets.data.toList)[m]? = some (lets[m]'hs) := by
    rw [Array.getElem?_toList]
    exact Array.getElem?_eq_getElem hs
  simp only [hc, Option.map_some, Option.some.injEq] at e
  show (Instr.index 9 (.string lets) (.int .i64 (m : Int))).run Tryz.prog wx = _
  rw [run_index_string wx 9 lets .i64 (m : Int) Tryz.underlying9, dif_pos ⟨by omega, by omega⟩, hb, e]

theorem drop_cons {l : List UInt8} {k : Nat} (h : k < l.length) : l.drop k = l.getD k 0 :: l.drop (k + 1) := by
  rw [List.drop_eq_getElem_cons h]
  simp [List.getD_eq_getElem?_getD, h]
theorem nv3 {l : List UInt8} {k : Nat} (h : k + 2 < l.length) : nv l k 3 = (l.getD k 0).toNat * 65536 + (l.getD (k + 1) 0).toNat * 256 + (l.getD (k + 2) 0).toNat := by
  simp only [nv, Nat.add_zero]
  rw [if_pos (by omega), if_pos (by omega), if_pos (by omega)]
  omega
theorem nv2 {l : List UInt8} {k : Nat} (h : k + 2 = l.length) : nv l k 3 = (l.getD k 0).toNat * 65536 + (l.getD (k + 1) 0).toNat * 256 := by
  simp only [nv, Nat.add_zero]
  rw [if_pos (by omega), if_pos (by omega), if_neg (by omega)]
  omega
theorem nv1 {l : List UInt8} {k : Nat} (h : k + 1 = l.length) : nv l k 3 = (l.getD k 0).toNat * 65536 := by
  simp only [nv, Nat.add_zero]
  rw [if_pos (by omega), if_neg (by omega), if_neg (by omega)]
  omega
theorem step3 {l : List UInt8} {k x : Nat} (h : k + 2 < l.length) (hx : x = nv l k 3) : enc (l.drop k) = [L (x / 262144), L (x / 4096 % 64), L (x / 64 % 64), L (x % 64)] ++ enc (l.drop (k + 3)) := by
  have e := nv3 h
  rw [drop_cons (l := l) (k := k) (by omega), drop_cons (l := l) (k := k + 1) (by omega), drop_cons (l := l) (k := k + 1 + 1) (by omega)]
  have h0 := (l.getD k 0).toNat_lt
  have h1 := (l.getD (k + 1) 0).toNat_lt
  have h2 := (l.getD (k + 2) 0).toNat_lt
  have q0 : x / 262144 = (l.getD k 0).toNat / 4 := by omega
  have q1 : x / 4096 % 64 = (l.getD k 0).toNat % 4 * 16 + (l.getD (k + 1) 0).toNat / 16 := by omega
  have q2 : x / 64 % 64 = (l.getD (k + 1) 0).toNat % 16 * 4 + (l.getD (k + 2) 0).toNat / 64 := by omega
  have q3 : x % 64 = (l.getD (k + 2) 0).toNat % 64 := by omega
  rw [q0, q1, q2, q3]
  rfl
theorem step2 {l : List UInt8} {k x : Nat} (h : k + 2 = l.length) (hx : x = nv l k 3) : enc (l.drop k) = [L (x / 262144), L (x / 4096 % 64), L (x / 64 % 64), 61] ++ enc (l.drop (k + 3)) := by
  have e := nv2 h
  rw [drop_cons (l := l) (k := k) (by omega), drop_cons (l := l) (k := k + 1) (by omega), List.drop_eq_nil_of_le (i := k + 1 + 1) (by omega), List.drop_eq_nil_of_le (i := k + 3) (by omega)]
  have h0 := (l.getD k 0).toNat_lt
  have h1 := (l.getD (k + 1) 0).toNat_lt
  have q0 : x / 262144 = (l.getD k 0).toNat / 4 := by omega
  have q1 : x / 4096 % 64 = (l.getD k 0).toNat % 4 * 16 + (l.getD (k + 1) 0).toNat / 16 := by omega
  have q2 : x / 64 % 64 = (l.getD (k + 1) 0).toNat % 16 * 4 := by omega
  rw [q0, q1, q2]
  rfl
theorem step1 {l : List UInt8} {k x : Nat} (h : k + 1 = l.length) (hx : x = nv l k 3) : enc (l.drop k) = [L (x / 262144), L (x / 4096 % 64), 61, 61] ++ enc (l.drop (k + 3)) := by
  have e := nv1 h
  rw [drop_cons (l := l) (k := k) (by omega), List.drop_eq_nil_of_le (i := k + 1) (by omega), List.drop_eq_nil_of_le (i := k + 3) (by omega)]
  have h0 := (l.getD k 0).toNat_lt
  have q0 : x / 262144 = (l.getD k 0).toNat / 4 := by omega
  have q1 : x / 4096 % 64 = (l.getD k 0).toNat % 4 * 16 := by omega
  rw [q0, q1]
  rfl
/-- A round of the walk: four characters come to what stands there. -/
theorem grow4 {l q four : List UInt8} {k : Nat} (h : q ++ enc (l.drop k) = enc l) (e : enc (l.drop k) = four ++ enc (l.drop (k + 3))) : (q ++ four) ++ enc (l.drop (k + 3)) = enc l := by
  rw [List.append_assoc, ← e, h]

set_option maxHeartbeats 1000000 in
set_option maxRecDepth 100000 in
theorem specEnc_any (v : Value) (l : List UInt8) (w : World) (h : ow.Reads .u8 w v (bz l)) (hn : l.length ≤ 1048576) :
    Calls Tryz.prog 99 #[v] w fun e w' => e = .returned (.string ⟨(enc l).toArray⟩) ∧ Below w.heap.size w w' := by
  obtain ⟨a, cap, rfl, h⟩ := h
  rw [bz_len] at h ⊢
  have H1 : Hid (bz l = [] ∨ ∃ b off, a = some ⟨b, off, none⟩ ∧ ∀ j, j < l.length → w.cell? ⟨b, off + j, none⟩ = some (.int .u8 ((bz l).getD j 0))) := h
  clear h
  obtain ⟨n, hn'⟩ : ∃ n, n = l.length := ⟨_, rfl⟩
  rw [← hn'] at hn H1 ⊢
  have HN : Hid (n = l.length) := hn'
  clear hn'
  go_enter Tryz.func99, Tryz.ntmps99
  go_wp2
  go_loopw [3, 4] (fun o i wr => ∃ (k : Nat) (q : List UInt8), k ≤ n + 2 ∧ i = .int .i64 k ∧ Hid (q ++ enc (l.drop k) = enc l) ∧ wr.ownsRow w.heap.size 5 1 o q.length (Lib.byteCells q) ∧ Below w.heap.size w wr) (fun _ i _ => n + 2 - (intOf i).toNat)
  case atStart => exact ⟨0, [], Nat.zero_le _, rfl, rfl, ow.own_empty _ _, (Below.refl _ _).alloc (Nat.le_refl _) _⟩
  case round =>
    obtain ⟨k, q, hk, rfl, HQ, hown, hbw⟩ := hrel
    by_cases hlt : k < n
    · have hzne : bz l ≠ [] := by
        intro e
        have := congrArg List.length e
        rw [bz_len, ← HN.out] at this
        simp at this
        omega
      rcases H1.out with e | ⟨b, off, rfl, hcells⟩
      · exact absurd e hzne
      clear hzne
      have hblt : b < w.heap.size := World.block_lt_of_cell? w _ (hcells k hlt)
      have HC : Hid (∀ j, j < n → wr.cell? ⟨b, off + j, none⟩ = some (.int .u8 ((l.getD j 0).toNat : Int))) := fun j hj => by
        rw [← bz_at]
        exact (hbw.cell (p := ⟨b, off + j, none⟩) hblt).trans (hcells j hj)
      clear hcells
      go_wp2
      go_loop [5, 6] (fun x j => ∃ m : Nat, m ≤ 3 ∧ j = .int .i64 m ∧ x = .int .i64 (nv l k m : Nat)) (fun _ j => 3 - (intOf j).toNat)
      case atStart => exact ⟨0, Nat.zero_le _, rfl, rfl⟩
      case round =>
        obtain ⟨m, hm, rfl, rfl⟩ := hrel
        have hv := nv_lt l k m
        have hs : nv l k (m + 1) = nv l k m * 256 + (if k + m < l.length then (l.getD (k + m) 0).toNat else 0) := rfl
        rw [← HN.out] at hs
        have HS : Hid (nv l k (m + 1) = nv l k m * 256 + (if k + m < n then (l.getD (k + m) 0).toNat else 0)) := hs
        clear hs
        obtain ⟨x, hx⟩ : ∃ x, x = nv l k m := ⟨_, rfl⟩
        rw [← hx] at hv HS ⊢
        by_cases hm3 : m < 3
        · have hx6 : x < 65536 := by
            have : 256 ^ m ≤ 256 ^ 2 := Nat.pow_le_pow_right (by decide) (by omega)
            omega
          clear hv hx
          have hx6' : (x : Int) ≤ 65535 := by omega
          by_cases hin : k + m < n
          · have c0 := HC.out (k + m) hin
            have hby := (l.getD (k + m) 0).toNat_lt
            have e : nv l k (m + 1) = x * 256 + (l.getD (k + m) 0).toNat := by rw [HS.out, if_pos hin]
            obtain ⟨y, hy⟩ : ∃ y, y = (l.getD (k + m) 0).toNat := ⟨_, rfl⟩
            rw [← hy] at c0 hby e
            clear hy
            have E : Hid (nv l k (m + 1) = x * 256 + y) := e
            clear e HS
            have hy2 : (y : Int) ≤ 255 := by omega
            have hin' : (k : Int) + (m : Int) < (n : Int) := by omega
            go_wp2
            go_round
            case rel => exact ⟨m + 1, by omega, by go_num, by rw [E.out]; go_num⟩
            case measure => simp [intOf]; omega
          · have e : nv l k (m + 1) = x * 256 := by rw [HS.out, if_neg hin]; rfl
            have E : Hid (nv l k (m + 1) = x * 256) := e
            clear e HS
            have hin' : (n : Int) ≤ (k : Int) + (m : Int) := by omega
            go_wp2
            go_round
            case rel => exact ⟨m + 1, by omega, by go_num, by rw [E.out]; go_num⟩
            case measure => simp [intOf]; omega
        · have hm3' : m = 3 := by omega
          subst hm3'
          have hx6 : x < 16777216 := by simpa using hv
          have HX : Hid (x = nv l k 3) := hx
          clear hv hx HS
          have hx6' : (x : Int) ≤ 16777215 := by omega
          clear HC H1
          have g0 := ix_lets ((x : Int) / 262144) (x / 262144) (by omega) (by omega)
          have g1 := ix_lets ((x : Int) / 4096 % 64) (x / 4096 % 64) (by omega) (by omega)
          have g2 := ix_lets ((x : Int) / 64 % 64) (x / 64 % 64) (by omega) (by omega)
          have g3 := ix_lets ((x : Int) % 64) (x % 64) (by omega) (by omega)
          obtain ⟨d0, hd0⟩ : ∃ d, d = L (x / 262144) := ⟨_, rfl⟩
          obtain ⟨d1, hd1⟩ : ∃ d, d = L (x / 4096 % 64) := ⟨_, rfl⟩
          obtain ⟨d2, hd2⟩ : ∃ d, d = L (x / 64 % 64) := ⟨_, rfl⟩
          obtain ⟨d3, hd3⟩ : ∃ d, d = L (x % 64) := ⟨_, rfl⟩
          rw [← hd0] at g0
          rw [← hd1] at g1
          rw [← hd2] at g2
          rw [← hd3] at g3
          have HD : Hid (d0 = L (x / 262144) ∧ d1 = L (x / 4096 % 64) ∧ d2 = L (x / 64 % 64) ∧ d3 = L (x % 64)) := ⟨hd0, hd1, hd2, hd3⟩
          clear hd0 hd1 hd2 hd3
          go_wp2
          go_region
          clear g0 g1 g2 g3
          have hlq : q.length ≤ 2097152 := by
            have e1 := congrArg List.length HQ.out
            rw [List.length_append, enc_length l, ← HN.out] at e1
            omega
          have HLQ : Hid (q.length ≤ 2097152) := hlq
          clear hlq
          have hg1 : w.heap.size ≤ wr.heap.size := hbw.size
          obtain ⟨w1, hw1⟩ : ∃ W, W = (wr.alloc (.cells #[Value.int .u8 (d0.toNat : Int), Value.int .u8 (d1.toNat : Int), Value.int .u8 (d2.toNat : Int), Value.int .u8 (d3.toNat : Int)] 5)).drew := ⟨_, rfl⟩
          rw [← hw1]
          obtain ⟨own1, bel1, blk1, ne1, sz1⟩ := ow.built hw1 hown hbw hg1
          clear hw1 hown hbw
          obtain ⟨g, hg⟩ : ∃ g, g = wr.heap.size := ⟨_, rfl⟩
          rw [← hg] at blk1 ne1 sz1 hg1 ⊢
          clear hg
          obtain ⟨i0, hi, hz0, hz1, hz2⟩ := info_parts bl.info1
          by_cases h3 : k + 2 < n
          · have h3' : (k : Int) + 2 < (n : Int) := by omega
            have h3d : decide ((n : Int) ≤ (k : Int) + 2) = false := decide_eq_false (by omega)
            have h4d : decide ((n : Int) ≤ (k : Int) + 1) = false := decide_eq_false (by omega)
            have HG : Hid ((q ++ [d0, d1, d2, d3]) ++ enc (l.drop (k + 3)) = enc l) := by
              obtain ⟨e0, e1, e2, e3⟩ := HD.out
              rw [e0, e1, e2, e3]
              exact grow4 HQ.out (step3 (by rw [← HN.out]; exact h3) HX.out)
            clear HD HX HQ
            have HNW : Hid (∀ (j : Nat) (u : Value), (Lib.byteCells [d0, d1, d2, d3])[j]? = some u → World.cell? _ ((⟨g, 0, none⟩ : Addr).add j) = some u) := ow.news_blk blk1 (fun j u hj => by simpa [Lib.byteCells] using hj)
            go_wp2_with (at_builtin; go_loud (refine wpList_append_own _ rfl _ _ 22 rfl w.heap.size 5 i0 (.int .u8 0) 1 1 Tryz.underlying22 hi hz0 hz1 hz2 rfl (by decide) _ _ _ rfl own1 ⟨g, 0, none⟩ 4 4 (Lib.byteCells [d0, d1, d2, d3]) rfl rfl HNW.out (ow.one_bytes _) (by have := HLQ.out; unfold maxLen; omega) (by have := HLQ.out; omega) (by have := hg1; have := sz1; omega) ?_); intro v' w2 hown' hgrow _)
            have hbz := bel1.grown hgrow (by have := hg1; have := sz1; omega) (ow.own_lt own1)
            obtain ⟨ao, n', cap', rfl⟩ : ∃ ao n' cap, v' = .slice ao n' cap := by
              rcases hown'.2 with ⟨hv, _⟩ | ⟨g, cap, cur, hv, _⟩
              · exact ⟨_, _, _, hv⟩
              · exact ⟨_, _, _, hv⟩
            rw [← Lib.byteCells_append] at hown'
            go_wp2
            go_roundw
            case rel => exact ⟨k + 3, q ++ [d0, d1, d2, d3], by omega, by go_num, HG.out, by rw [List.length_append]; exact hown', hbz⟩
            case measure => simp [intOf]; omega
          by_cases h4 : k + 2 = n
          · have h3d : decide ((n : Int) ≤ (k : Int) + 2) = true := decide_eq_true (by omega)
            have h4d : decide ((n : Int) ≤ (k : Int) + 1) = false := decide_eq_false (by omega)
            have HG : Hid ((q ++ [d0, d1, d2, 61]) ++ enc (l.drop (k + 3)) = enc l) := by
              obtain ⟨e0, e1, e2, e3⟩ := HD.out
              rw [e0, e1, e2]
              exact grow4 HQ.out (step2 (by rw [← HN.out]; exact h4) HX.out)
            clear HD HX HQ
            have c3 := ow.cell_blk blk1 3
            have f3 := ow.frozen_blk blk1 3
            obtain ⟨own2, bel2, blk2, sz2⟩ := ow.wrote 3 (.int .u8 61) own1 bel1 hg1 blk1 ne1
            rw [sz1] at sz2
            clear own1 bel1 blk1
            have HNW : Hid (∀ (j : Nat) (u : Value), (Lib.byteCells [d0, d1, d2, 61])[j]? = some u → World.cell? _ ((⟨g, 0, none⟩ : Addr).add j) = some u) := ow.news_blk blk2 (fun j u hj => by simpa [Lib.byteCells] using hj)
            go_wp2_with (at_builtin; go_loud (refine wpList_append_own _ rfl _ _ 22 rfl w.heap.size 5 i0 (.int .u8 0) 1 1 Tryz.underlying22 hi hz0 hz1 hz2 rfl (by decide) _ _ _ rfl own2 ⟨g, 0, none⟩ 4 4 (Lib.byteCells [d0, d1, d2, 61]) rfl rfl HNW.out (ow.one_bytes _) (by have := HLQ.out; unfold maxLen; omega) (by have := HLQ.out; omega) (by have := hg1; have := sz2; omega) ?_); intro v' w2 hown' hgrow _)
            have hbz := bel2.grown hgrow (by have := hg1; have := sz2; omega) (ow.own_lt own2)
            obtain ⟨ao, n', cap', rfl⟩ : ∃ ao n' cap, v' = .slice ao n' cap := by
              rcases hown'.2 with ⟨hv, _⟩ | ⟨g, cap, cur, hv, _⟩
              · exact ⟨_, _, _, hv⟩
              · exact ⟨_, _, _, hv⟩
            rw [← Lib.byteCells_append] at hown'
            go_wp2
            go_roundw
            case rel => exact ⟨k + 3, q ++ [d0, d1, d2, 61], by omega, by go_num, HG.out, by rw [List.length_append]; exact hown', hbz⟩
            case measure => simp [intOf]; omega
          · have h5 : k + 1 = n := by omega
            have h3d : decide ((n : Int) ≤ (k : Int) + 2) = true := decide_eq_true (by omega)
            have h4d : decide ((n : Int) ≤ (k : Int) + 1) = true := decide_eq_true (by omega)
            have HG : Hid ((q ++ [d0, d1, 61, 61]) ++ enc (l.drop (k + 3)) = enc l) := by
              obtain ⟨e0, e1, e2, e3⟩ := HD.out
              rw [e0, e1]
              exact grow4 HQ.out (step1 (by rw [← HN.out]; exact h5) HX.out)
            clear HD HX HQ
            have c3 := ow.cell_blk blk1 3
            have f3 := ow.frozen_blk blk1 3
            obtain ⟨own2, bel2, blk2, sz2⟩ := ow.wrote 3 (.int .u8 61) own1 bel1 hg1 blk1 ne1
            have c2 := ow.cell_blk blk2 2
            have f2 := ow.frozen_blk blk2 2
            obtain ⟨own3, bel3, blk3, sz3⟩ := ow.wrote 2 (.int .u8 61) own2 bel2 hg1 blk2 ne1
            rw [sz2, sz1] at sz3
            clear own1 bel1 blk1 own2 bel2 blk2 sz2
            have HNW : Hid (∀ (j : Nat) (u : Value), (Lib.byteCells [d0, d1, 61, 61])[j]? = some u → World.cell? _ ((⟨g, 0, none⟩ : Addr).add j) = some u) := ow.news_blk blk3 (fun j u hj => by simpa [Lib.byteCells] using hj)
            go_wp2_with (at_builtin; go_loud (refine wpList_append_own _ rfl _ _ 22 rfl w.heap.size 5 i0 (.int .u8 0) 1 1 Tryz.underlying22 hi hz0 hz1 hz2 rfl (by decide) _ _ _ rfl own3 ⟨g, 0, none⟩ 4 4 (Lib.byteCells [d0, d1, 61, 61]) rfl rfl HNW.out (ow.one_bytes _) (by have := HLQ.out; unfold maxLen; omega) (by have := HLQ.out; omega) (by have := hg1; have := sz3; omega) ?_); intro v' w2 hown' hgrow _)
            have hbz := bel3.grown hgrow (by have := hg1; have := sz3; omega) (ow.own_lt own3)
            obtain ⟨ao, n', cap', rfl⟩ : ∃ ao n' cap, v' = .slice ao n' cap := by
              rcases hown'.2 with ⟨hv, _⟩ | ⟨g, cap, cur, hv, _⟩
              · exact ⟨_, _, _, hv⟩
              · exact ⟨_, _, _, hv⟩
            rw [← Lib.byteCells_append] at hown'
            go_wp2
            go_roundw
            case rel => exact ⟨k + 3, q ++ [d0, d1, 61, 61], by omega, by go_num, HG.out, by rw [List.length_append]; exact hown', hbz⟩
            case measure => simp [intOf]; omega
    · have hd : l.drop k = [] := List.drop_eq_nil_of_le (by rw [← HN.out]; omega)
      have hq : q = enc l := by have := HQ.out; rw [hd] at this; simpa [enc] using this
      subst hq
      have hcv := fun h1 h2 h3 => ow.conv_bytes (P := Tryz.prog) (src := 22) (dst := 9) (enc l) hown h1 h2 h3
      have hcv2 := hcv Tryz.underlying22 Tryz.underlying5 Tryz.underlying9
      clear hcv hd HQ H1 hown
      go_wp2
      go_ret
      exact ⟨rfl, hbw⟩
end Go.Proofs.YtinnnfkhiigjpaaGreat.b6

namespace Go.Proofs.YtinnnfkhiigjpaaGreat.tb
open Go.RowKit
set_option linter.unusedVariables false

def digs : List UInt8 := [48, 49, 50, 51, 52, 53, 54, 55, 56, 57, 65, 66, 67, 68, 69, 70]
/-- A block holds these numbers. -/
def Holds (k : IntKind) (g : Nat) (zs : List Int) (w : World) : Prop := ∃ t fr, w.heap[g]? = some (.cells (zs.map (Value.int k)).toArray t fr)

theorem cell {k : IntKind} {g : Nat} {zs : List Int} {w : World} (h : Holds k g zs w) (j : Nat) (hj : j < zs.length) : w.cell? ⟨g, j, none⟩ = some (.int k (zs.getD j 0)) := by
  obtain ⟨t, fr, h⟩ := h
  rw [cell_of_row w g j _ t fr h]
  simp [List.getD_eq_getElem?_getD, hj]
theorem keep {k : IntKind} {g : Nat} {zs : List Int} {w w' : World} {B : Nat} (h : Holds k g zs w) (hb : Below B w w') (hg : g < B) : Holds k g zs w' := by
  obtain ⟨t, fr, h⟩ := h
  exact ⟨t, fr, (hb.block g hg).trans h⟩
theorem lt {k : IntKind} {g : Nat} {zs : List Int} {w : World} (h : Holds k g zs w) : g < w.heap.size := by
  obtain ⟨t, fr, h⟩ := h
  exact (Array.getElem?_eq_some_iff.1 h).1

end Go.Proofs.YtinnnfkhiigjpaaGreat.tb

namespace Go.Proofs.YtinnnfkhiigjpaaGreat.b6
open Go.RowKit
set_option linter.unusedVariables false

end Go.Proofs.YtinnnfkhiigjpaaGreat.b6

namespace Go.Proofs.YtinnnfkhiigjpaaGreat.hd
open Go.RowKit
set_option linter.unusedVariables false

theorem empty_iff (s : ByteArray) : s.toList.isEmpty = decide (s.size = 0) := by
  rw [Bool.eq_iff_iff, List.isEmpty_iff, decide_eq_true_iff]
  refine ⟨fun h => ?_, fun h => ?_⟩
  · have := Lib.size_eq s; rw [← Lib.toList_data, h] at this; exact this
  · have := Lib.size_eq s; rw [h] at this; rw [Lib.toList_data]; exact List.eq_nil_of_length_eq_zero this.symm
theorem F_wide4 (n k b0 b1 b2 b3 : Nat) : (ut.decF n k b0 b1 b2 b3).2 ≤ 4 := by
  unfold ut.decF
  repeat' split
  all_goals simp
theorem wide4 (s : ByteArray) (k : Nat) : (Utf8.decode s k).2 ≤ 4 := by rw [ut.dec_eq]; exact F_wide4 _ _ _ _ _ _
theorem cut_pos {s : ByteArray} {k : Nat} (h : s.size ≠ 0) (hk : ut.CutAt s 45 k) : 0 < k ∧ k ≤ s.size ∧ k ≤ 45 := by
  obtain ⟨j, rfl, h1, h2, h3⟩ := hk
  refine ⟨?_, h1, by omega⟩
  rcases Nat.eq_zero_or_pos j with rfl | hj
  · rcases h3 with h3 | h3
    · exfalso
      have := wide4 s 0
      simp only [ut.pos, Nat.zero_add] at h3
      omega
    · simp only [ut.pos] at h3 ⊢
      omega
  · have := ut.pos_ge s j
    omega
theorem word_len (l : List UInt8) : (wordL l).length = 12 + (l.length + 2) / 3 * 4 := by
  unfold wordL head tail
  rw [List.length_append, List.length_append, b6.enc_length]
  simp
  omega

end Go.Proofs.YtinnnfkhiigjpaaGreat.hd

namespace Go.Proofs.YtinnnfkhiigjpaaGreat.hd
open Go.RowKit
set_option linter.unusedVariables false

/-- What a text is encoded to. -/
def EncIs (s r : ByteArray) : Prop := (Plain s.data.toList ∧ r = s) ∨ (¬ Plain s.data.toList ∧ EndsAny s [] r.data.toList)
theorem rune_parts {s : ByteArray} {k : Nat} {e : Ending} (h : ut.RuneRet s k e) : ∃ (r : Int) (b : Bool), e = .returned (.tuple #[.int .i64 r, .int .i64 ((Utf8.decode s k).2 : Int), .bool b]) := by
  rcases h with ⟨hb, rfl⟩ | ⟨_, rfl⟩
  · exact ⟨0, false, by rw [ut.bad_wide hb]; rfl⟩
  · exact ⟨_, true, rfl⟩

set_option maxHeartbeats 4000000 in
set_option maxRecDepth 100000 in
theorem specEncode_any (s : ByteArray) (w : World) (hs : s.size ≤ 1000) :
    Calls Tryz.prog 88 #[.string s] w fun e w' => (∃ r, e = .returned (.string r) ∧ EncIs s r) ∧ Below w.heap.size w w' := by
  by_cases hp : Plain s.data.toList
  · go_enter Tryz.func88, Tryz.ntmps88
    go_wp2_with fail
    refine (plain_any s _ (by omega)).mono ?_
    rintro e w' ⟨h1, rfl⟩
    obtain rfl := sv.says_true h1 hp
    go_wp2
    go_ret
    exact ⟨⟨s, rfl, .inl ⟨hp, rfl⟩⟩, Below.refl _ _⟩
  have HP : Hid (¬ Plain s.data.toList) := hp
  clear hp
  go_enter Tryz.func88, Tryz.ntmps88
  go_wp2_with fail
  refine (plain_any s _ (by omega)).mono ?_
  rintro e w' ⟨h1, rfl⟩
  obtain rfl := sv.says_false h1 HP.out
  clear h1
  go_wp2
  go_loopw [0, 3] (fun t o wr => ∃ c out : ByteArray, t = .string c ∧ o = .string out ∧ c.size ≤ 1000 ∧ out.size + 200 * c.size ≤ 200000 ∧ Below w'.heap.size w' wr ∧ Hid (∀ r, EndsAny c out.data.toList r → EndsAny s [] r)) (fun t _ _ => (match t with | .string c => c.size | _ => 0))
  case atStart => exact ⟨s, ⟨#[]⟩, rfl, rfl, hs, by show 0 + _ ≤ _; omega, Below.refl _ _, fun r h => h⟩
  case round =>
    obtain ⟨c, out, rfl, rfl, hc, hlen, hbw, HE⟩ := hrel
    by_cases h0 : c.size = 0
    · have z : c.toList.isEmpty = true := by rw [empty_iff]; simp [h0]
      go_wp2
      go_ret
      exact ⟨⟨out, rfl, .inr ⟨HP.out, HE.out _ (ends_nil _ h0)⟩⟩, hbw⟩
    have z : c.toList.isEmpty = false := by rw [empty_iff]; simp [h0]
    have hB := hbw.size
    go_wp2
    go_loop [4] (fun i => ∃ j : Nat, ut.pos c j ≤ c.size ∧ ut.pos c j ≤ 45 ∧ i = .int .i64 (ut.pos c j)) (fun i => c.size - (intOf i).toNat)
    case atStart => exact ⟨0, Nat.zero_le _, Nat.zero_le _, rfl⟩
    case round =>
      obtain ⟨j, hj1, hj2, rfl⟩ := hrel
      obtain ⟨p, hp⟩ : ∃ p, p = ut.pos c j := ⟨_, rfl⟩
      rw [← hp] at hj1 hj2 ⊢
      have HPJ : Hid (p = ut.pos c j) := hp
      clear hp
      have cp0 : (0 : Int) ≤ (p : Int) := by omega
      have cp1 : (p : Int) ≤ (c.size : Int) := by omega
      by_cases hlt : p < c.size
      · have hwd := ut.wide c p hlt
        have hw4 := wide4 c p
        go_wp2_with fail
        refine (ut.rune_any c p _ (by omega) hlt).mono ?_
        rintro e w1 ⟨hr, rfl⟩
        obtain ⟨r, b, rfl⟩ := rune_parts hr
        clear hr
        obtain ⟨m, hm⟩ : ∃ m, m = (Utf8.decode c p).2 := ⟨_, rfl⟩
        rw [← hm] at hwd hw4 ⊢
        have HM : Hid (m = (Utf8.decode c p).2) := hm
        clear hm
        by_cases hbr : 45 < p + m
        · have hbr' : (45 : Int) < (p : Int) + (m : Int) := by omega
          have hcut : ut.CutAt c 45 p := ⟨j, HPJ.out, hj1, by omega, .inl (by rw [ut.pos, ← HPJ.out, ← HM.out]; omega)⟩
          have hcp := cut_pos h0 hcut
          obtain ⟨k0, k1, k2⟩ := hcp
          have HK : Hid (ut.CutAt c 45 p) := hcut
          clear hcut
          by_cases ho : out.size = 0
          all_goals
            first
            | (have zo : out.toList.isEmpty = true := by rw [empty_iff]; exact decide_eq_true ho
               obtain ⟨o2, ho2⟩ : ∃ o2, o2 = out := ⟨_, rfl⟩
               have HO : Hid (o2.data.toList = out.data.toList ++ sep out.data.toList) := by
                 rw [ho2, show out.data.toList = [] from List.eq_nil_of_length_eq_zero (by rw [← Lib.size_eq]; exact ho)]
                 exact rfl
               have ho3 : o2.size ≤ out.size + 1 := by rw [ho2]; omega
               go_wp2_with fail
               rw [← ho2]
               clear ho2 ho)
            | (have zo : out.toList.isEmpty = false := by rw [empty_iff]; exact decide_eq_false ho
               obtain ⟨o2, ho2⟩ : ∃ o2, o2 = out ++ { data := #[32] } := ⟨_, rfl⟩
               have HO : Hid (o2.data.toList = out.data.toList ++ sep out.data.toList) := by
                 rw [ho2]
                 unfold sep
                 rw [if_neg (fun e => ho (by rw [Lib.size_eq, e]; rfl))]
                 exact (by simp : (out ++ { data := #[32] } : ByteArray).data.toList = out.data.toList ++ [32])
               have ho3 : o2.size ≤ out.size + 1 := by rw [ho2, ByteArray.size_append]; exact Nat.le_refl _
               go_wp2_with fail
               rw [← ho2]
               clear ho2 ho)
          all_goals
            have hql : (c.extract 0 p).data.toList.length = p := by rw [← Lib.size_eq, ByteArray.size_extract]; omega
            obtain ⟨W3, cap, hcv, hlies, hb3⟩ : ∃ W3 cap, (convert 9 22 (.string (c.extract 0 p))).run Tryz.prog w1 = .ok (.slice (some ⟨w1.heap.size, 0, none⟩) p cap) W3 ∧ ow.Lies W3 (.slice (some ⟨w1.heap.size, 0, none⟩) p cap) (c.extract 0 p).data.toList ∧ Below w1.heap.size w1 W3 := by
              have e : (c.extract 0 p).size = p := by rw [ByteArray.size_extract]; omega
              have h1 := Lib.run_convert_string_bytes (P := Tryz.prog) w1 9 22 5 (c.extract 0 p) Tryz.underlying9 Tryz.underlying22 Tryz.underlying5
              have h2 := ow.lies_conv w1 5 (c.extract 0 p)
              rw [e] at h1 h2
              exact ⟨_, _, h1, h2, ow.below_conv _ _ _⟩
            have hbw3 := hbw.trans (hb3.mono hbw.size)
            have HL : Hid (ow.Reads .u8 W3 (.slice (some ⟨w1.heap.size, 0, none⟩) p cap) (b6.bz (c.extract 0 p).data.toList)) := ow.reads_lies hlies
            obtain ⟨q, hq⟩ : ∃ q, q = (c.extract 0 p).data.toList := ⟨_, rfl⟩
            rw [← hq] at hql HL
            have HQ : Hid (q = (c.extract 0 p).data.toList) := hq
            clear hlies hb3 hq
            rw [hcv]
            simp only [Result.andThen]
            rw [Oper.upon_value]
            go_wp2_with fail
            refine (b6.specEnc_any _ q _ HL.out (by omega)).mono ?_
            rintro e W4 ⟨rfl, hb4⟩
            have hbw4 := hbw3.trans (hb4.mono hbw3.size)
            clear HL hbw3 hb4 hcv hbw
            obtain ⟨E, hE⟩ : ∃ E : ByteArray, E = ⟨(b6.enc q).toArray⟩ := ⟨_, rfl⟩
            have hEs : E.size ≤ 64 := by rw [Lib.size_eq, hE]; show (b6.enc q).length ≤ 64; rw [b6.enc_length]; omega
            have hEs' : (E.size : Int) ≤ 64 := by omega
            have ho4 : (o2.size : Int) ≤ 200001 := by omega
            rw [← hE]
            have HE2 : Hid (E = ⟨(b6.enc q).toArray⟩) := hE
            clear hE
            go_wp2
            go_roundw
            case rel =>
              have e2 : (o2 ++ (({ data := #[61, 63, 117, 116, 102, 45, 56, 63, 66, 63] } : ByteArray) ++ E ++ { data := #[63, 61] })).data.toList = out.data.toList ++ sep out.data.toList ++ wordL q := by
                rw [← HO.out, HE2.out]
                simp [wordL, head, tail]
              refine ⟨c.extract p c.size, _, rfl, rfl, by rw [ByteArray.size_extract]; omega, ?_, hbw4, fun r hr => HE.out r (ends_step h0 HK.out (by rw [← HQ.out, ← e2]; exact hr))⟩
              rw [ByteArray.size_append, ByteArray.size_append, ByteArray.size_append, ByteArray.size_extract]
              show _ + (10 + E.size + 2) + _ ≤ _
              omega
            case measure =>
              simp only [ByteArray.size_extract]
              simp
              omega
        · have hbr' : (p : Int) + (m : Int) ≤ 45 := by omega
          go_wp2
          go_round
          case rel => exact ⟨j + 1, by rw [ut.pos, ← HPJ.out, ← HM.out]; omega, by rw [ut.pos, ← HPJ.out, ← HM.out]; omega, by rw [ut.pos, ← HPJ.out, ← HM.out]; go_num⟩
          case measure => simp [intOf]; omega
      · have hcut : ut.CutAt c 45 p := ⟨j, HPJ.out, hj1, by omega, .inr (by omega)⟩
        have hcp := cut_pos h0 hcut
        obtain ⟨k0, k1, k2⟩ := hcp
        have HK : Hid (ut.CutAt c 45 p) := hcut
        clear hcut
        by_cases ho : out.size = 0
        all_goals
          first
          | (have zo : out.toList.isEmpty = true := by rw [empty_iff]; exact decide_eq_true ho
             obtain ⟨o2, ho2⟩ : ∃ o2, o2 = out := ⟨_, rfl⟩
             have HO : Hid (o2.data.toList = out.data.toList ++ sep out.data.toList) := by
               rw [ho2, show out.data.toList = [] from List.eq_nil_of_length_eq_zero (by rw [← Lib.size_eq]; exact ho)]
               exact rfl
             have ho3 : o2.size ≤ out.size + 1 := by rw [ho2]; omega
             go_wp2_with fail
             rw [← ho2]
             clear ho2 ho)
          | (have zo : out.toList.isEmpty = false := by rw [empty_iff]; exact decide_eq_false ho
             obtain ⟨o2, ho2⟩ : ∃ o2, o2 = out ++ { data := #[32] } := ⟨_, rfl⟩
             have HO : Hid (o2.data.toList = out.data.toList ++ sep out.data.toList) := by
               rw [ho2]
               unfold sep
               rw [if_neg (fun e => ho (by rw [Lib.size_eq, e]; rfl))]
               exact (by simp : (out ++ { data := #[32] } : ByteArray).data.toList = out.data.toList ++ [32])
             have ho3 : o2.size ≤ out.size + 1 := by rw [ho2, ByteArray.size_append]; exact Nat.le_refl _
             go_wp2_with fail
             rw [← ho2]
             clear ho2 ho)
        all_goals
          have hql : (c.extract 0 p).data.toList.length = p := by rw [← Lib.size_eq, ByteArray.size_extract]; omega
          obtain ⟨W3, cap, hcv, hlies, hb3⟩ : ∃ W3 cap, (convert 9 22 (.string (c.extract 0 p))).run Tryz.prog wr = .ok (.slice (some ⟨wr.heap.size, 0, none⟩) p cap) W3 ∧ ow.Lies W3 (.slice (some ⟨wr.heap.size, 0, none⟩) p cap) (c.extract 0 p).data.toList ∧ Below wr.heap.size wr W3 := by
            have e : (c.extract 0 p).size = p := by rw [ByteArray.size_extract]; omega
            have h1 := Lib.run_convert_string_bytes (P := Tryz.prog) wr 9 22 5 (c.extract 0 p) Tryz.underlying9 Tryz.underlying22 Tryz.underlying5
            have h2 := ow.lies_conv wr 5 (c.extract 0 p)
            rw [e] at h1 h2
            exact ⟨_, _, h1, h2, ow.below_conv _ _ _⟩
          have hbw3 := hbw.trans (hb3.mono hbw.size)
          have HL : Hid (ow.Reads .u8 W3 (.slice (some ⟨wr.heap.size, 0, none⟩) p cap) (b6.bz (c.extract 0 p).data.toList)) := ow.reads_lies hlies
          obtain ⟨q, hq⟩ : ∃ q, q = (c.extract 0 p).data.toList := ⟨_, rfl⟩
          rw [← hq] at hql HL
          have HQ : Hid (q = (c.extract 0 p).data.toList) := hq
          clear hlies hb3 hq
          rw [hcv]
          simp only [Result.andThen]
          rw [Oper.upon_value]
          go_wp2_with fail
          refine (b6.specEnc_any _ q _ HL.out (by omega)).mono ?_
          rintro e W4 ⟨rfl, hb4⟩
          have hbw4 := hbw3.trans (hb4.mono hbw3.size)
          clear HL hbw3 hb4 hcv hbw
          obtain ⟨E, hE⟩ : ∃ E : ByteArray, E = ⟨(b6.enc q).toArray⟩ := ⟨_, rfl⟩
          have hEs : E.size ≤ 64 := by rw [Lib.size_eq, hE]; show (b6.enc q).length ≤ 64; rw [b6.enc_length]; omega
          have hEs' : (E.size : Int) ≤ 64 := by omega
          have ho4 : (o2.size : Int) ≤ 200001 := by omega
          rw [← hE]
          have HE2 : Hid (E = ⟨(b6.enc q).toArray⟩) := hE
          clear hE
          go_wp2
          go_roundw
          case rel =>
            have e2 : (o2 ++ (({ data := #[61, 63, 117, 116, 102, 45, 56, 63, 66, 63] } : ByteArray) ++ E ++ { data := #[63, 61] })).data.toList = out.data.toList ++ sep out.data.toList ++ wordL q := by
              rw [← HO.out, HE2.out]
              simp [wordL, head, tail]
            refine ⟨c.extract p c.size, _, rfl, rfl, by rw [ByteArray.size_extract]; omega, ?_, hbw4, fun r hr => HE.out r (ends_step h0 HK.out (by rw [← HQ.out, ← e2]; exact hr))⟩
            rw [ByteArray.size_append, ByteArray.size_append, ByteArray.size_append, ByteArray.size_extract]
            show _ + (10 + E.size + 2) + _ ≤ _
            omega
          case measure =>
            simp only [ByteArray.size_extract]
            simp
            omega
end Go.Proofs.YtinnnfkhiigjpaaGreat.hd
