/-
  The contract of the specification's base 64 text: it is the text of the bytes.
  Contracts of the specification's reading of base 64.
-/
import Derived.Test.YtadfdfmebdcfgaaGreatDoorRows
import Derived.WalkKit
import Derived.WalkLawsBesides
import Derived.Deep.QuietTactic
import Derived.BigQuiet
import Derived.Test.YtadfdfmebdcfgaaGreatDoorPga
import Derived.Test.YtadfdfmebdcfgaaGreatDoorPgb
import Derived.BigRegion
import Derived.Laws.AppendOwn

namespace Go.Proofs.YtadfdfmebdcfgaaGreatDoor.b6
open Go.RowKit
set_option linter.unusedVariables false

/-- The numbers of bytes. -/
def bz (l : List UInt8) : List Int := l.map fun b => (b.toNat : Int)
theorem bz_len (l : List UInt8) : (bz l).length = l.length := List.length_map _
theorem bz_at (l : List UInt8) (j : Nat) : (bz l).getD j 0 = ((l.getD j 0).toNat : Int) := by
  simp only [bz, List.getD_eq_getElem?_getD, List.getElem?_map]
  cases l[j]? <;> simp
theorem bz_cells (l : List UInt8) : (bz l).map (Value.int .u8) = Lib.byteCells l := by simp [bz, Lib.byteCells]

/-- The first k bytes from i on, as one number; 0 where none is. -/
def nv (l : List UInt8) (i : Nat) : Nat → Nat
  | 0 => 0
  | k + 1 => nv l i k * 256 + (if i + k < l.length then (l.getD (i + k) 0).toNat else 0)
theorem nv_lt (l : List UInt8) (i k : Nat) : nv l i k < 256 ^ k := by
  induction k with
  | zero => simp [nv]
  | succ k ih =>
    have := (l.getD (i + k) 0).toNat_lt
    simp only [nv, Nat.pow_succ]
    split <;> omega
def lets : ByteArray := ⟨#[65, 66, 67, 68, 69, 70, 71, 72, 73, 74, 75, 76, 77, 78, 79, 80, 81, 82, 83, 84, 85, 86, 87, 88, 89, 90, 97, 98, 99, 100, 101, 102, 103, 104, 105, 106, 107, 108, 109, 110, 111, 112, 113, 114, 115, 116, 117, 118, 119, 120, 121, 122, 48, 49, 50, 51, 52, 53, 54, 55, 56, 57, 43, 47]⟩
theorem lets_at_all : ∀ n : Fin 64, ((lets.data.toList)[n.val]?).map (·.toNat) = some (L n.val).toNat := by decide +kernel
theorem lets_size : lets.size = 64 := rfl

theorem ix_lets (z : Int) (m : Nat) (h : z = m) (hm : m < 64) (wx : World) : (Instr.index 9 (.string { data := #[65, 66, 67, 68, 69, 70, 71, 72, 73, 74, 75, 76, 77, 78, 79, 80, 81, 82, 83, 84, 85, 86, 87, 88, 89, 90, 97, 98, 99, 100, 101, 102, 103, 104, 105, 106, 107, 108, 109, 110, 111, 112, 113, 114, 115, 116, 117, 118, 119, 120, 121, 122, 48, 49, 50, 51, 52, 53, 54, 55, 56, 57, 43, 47] }) (.int .i64 z)).run Tryz.prog wx = .ok (.int .u8 ((L m).toNat : Int)) wx := by
  subst h
  have hs : m < lets.size := hm
  have e := lets_at_all ⟨m, hm⟩
  have hb : lets[(m : Int).toNat]'(by simpa using hs) = lets[m]'hs := by simp
  have hc : (lets.data.toList)[m]? = some (lets[m]'hs) := by
    rw [Array.getElem?_toList]
    exact Array.getElem?_eq_getElem hs
  simp only [hc, Option.map_some, Option.some.injEq] at e
  show (Instr.index 9 (.string lets) (.int .i64 (m : Int))).run Tryz.prog wx = _
  rw [run_index_string wx 9 lets .i64 (m : Int) Tryz.underlying9, dif_pos ⟨by omega, by omega⟩, hb, e]

theorem drop_cons {l : List UInt8} {k : Nat} (h : k < l.length) : l.drop k = l.getD k 0 :: l.drop (k + 1) := by
  rw [List.drop_eq_getElem_cons h]
  simp [List.getD_eq_getElem?_getD, h]
theorem nv3 {l : List UInt8} {k : Nat} (h : k + 2 < l.length) : nv l k 3 = (l.getD k 0).toNat * 65536 + (l.getD (k + 1) 0).toNat * 256 + (l.getD (k + 2) 0).toNat := by
  simp only [nv, Nat.add_zero]
  rw [if_pos (by omega), if_pos (by omega), if_pos (by omega)]
  omega
theorem nv2 {l : List UInt8} {k : Nat} (h : k + 2 = l.length) : nv l k 3 = (l.getD k 0).toNat * 65536 + (l.getD (k + 1) 0).toNat * 256 := by
  simp only [nv, Nat.add_zero]
  rw [if_pos (by omega), if_pos (by omega), if_neg (by omega)]
  omega
theorem nv1 {l : List UInt8} {k : Nat} (h : k + 1 = l.length) : nv l k 3 = (l.getD k 0).toNat * 65536 := by
  simp only [nv, Nat.add_zero]
  rw [if_pos (by omega), if_neg (by omega), if_neg (by omega)]
  omega
theorem step3 {l : List UInt8} {k x : Nat} (h : k + 2 < l.length) (hx : x = nv l k 3) : enc (l.drop k) = [L (x / 262144), L (x / 4096 % 64), L (x / 64 % 64), L (x % 64)] ++ enc (l.drop (k + 3)) := by
  have e := nv3 h
  rw [drop_cons (l := l) (k := k) (by omega), drop_cons (l := l) (k := k + 1) (by omega), drop_cons (l := l) (k := k + 1 + 1) (by omega)]
  have h0 := (l.getD k 0).toNat_lt
  have h1 := (l.getD (k + 1) 0).toNat_lt
  have h2 := (l.getD (k + 2) 0).toNat_lt
  have q0 : x / 262144 = (l.getD k 0).toNat / 4 := by omega
  have q1 : x / 4096 % 64 = (l.getD k 0).toNat % 4 * 16 + (l.getD (k + 1) 0).toNat / 16 := by omega
  have q2 : x / 64 % 64 = (l.getD (k + 1) 0).toNat % 16 * 4 + (l.getD (k + 2) 0).toNat / 64 := by omega
  have q3 : x % 64 = (l.getD (k + 2) 0).toNat % 64 := by omega
  rw [q0, q1, q2, q3]
  rfl
theorem step2 {l : List UInt8} {k x : Nat} (h : k + 2 = l.length) (hx : x = nv l k 3) : enc (l.drop k) = [L (x / 262144), L (x / 4096 % 64), L (x / 64 % 64), 61] ++ enc (l.drop (k + 3)) := by
  have e := nv2 h
  rw [drop_cons (l := l) (k := k) (by omega), drop_cons (l := l) (k := k + 1) (by omega), List.drop_eq_nil_of_le (i := k + 1 + 1) (by omega), List.drop_eq_nil_of_le (i := k + 3) (by omega)]
  have h0 := (l.getD k 0).toNat_lt
  have h1 := (l.getD (k + 1) 0).toNat_lt
  have q0 : x / 262144 = (l.getD k 0).toNat / 4 := by omega
  have q1 : x / 4096 % 64 = (l.getD k 0).toNat % 4 * 16 + (l.getD (k + 1) 0).toNat / 16 := by omega
  have q2 : x / 64 % 64 = (l.getD (k + 1) 0).toNat % 16 * 4 := by omega
  rw [q0, q1, q2]
  rfl
theorem step1 {l : List UInt8} {k x : Nat} (h : k + 1 = l.length) (hx : x = nv l k 3) : enc (l.drop k) = [L (x / 262144), L (x / 4096 % 64), 61, 61] ++ enc (l.drop (k + 3)) := by
  have e := nv1 h
  rw [drop_cons (l := l) (k := k) (by omega), List.drop_eq_nil_of_le (i := k + 1) (by omega), List.drop_eq_nil_of_le (i := k + 3) (by omega)]
  have h0 := (l.getD k 0).toNat_lt
  have q0 : x / 262144 = (l.getD k 0).toNat / 4 := by omega
  have q1 : x / 4096 % 64 = (l.getD k 0).toNat % 4 * 16 := by omega
  rw [q0, q1]
  rfl
/-- A round of the walk: four characters come to what stands there. -/
theorem grow4 {l q four : List UInt8} {k : Nat} (h : q ++ enc (l.drop k) = enc l) (e : enc (l.drop k) = four ++ enc (l.drop (k + 3))) : (q ++ four) ++ enc (l.drop (k + 3)) = enc l := by
  rw [List.append_assoc, ← e, h]

set_option maxHeartbeats 1000000 in
set_option maxRecDepth 100000 in
theorem specEnc_any (v : Value) (l : List UInt8) (w : World) (h : ow.Reads .u8 w v (bz l)) (hn : l.length ≤ 1048576) :
    Calls Tryz.prog 111 #[v] w fun e w' => e = .returned (.string ⟨(enc l).toArray⟩) ∧ Below w.heap.size w w' := by
  obtain ⟨a, cap, rfl, h⟩ := h
  rw [bz_len] at h ⊢
  have H1 : Hid (bz l = [] ∨ ∃ b off, a = some ⟨b, off, none⟩ ∧ ∀ j, j < l.length → w.cell? ⟨b, off + j, none⟩ = some (.int .u8 ((bz l).getD j 0))) := h
  clear h
  obtain ⟨n, hn'⟩ : ∃ n, n = l.length := ⟨_, rfl⟩
  rw [← hn'] at hn H1 ⊢
  have HN : Hid (n = l.length) := hn'
  clear hn'
  go_enter Tryz.func111, Tryz.ntmps111
  go_wp2
  go_loopw [3, 4] (fun o i wr => ∃ (k : Nat) (q : List UInt8), k ≤ n + 2 ∧ i = .int .i64 k ∧ Hid (q ++ enc (l.drop k) = enc l) ∧ wr.ownsRow w.heap.size 5 1 o q.length (Lib.byteCells q) ∧ Below w.heap.size w wr) (fun _ i _ => n + 2 - (intOf i).toNat)
  case atStart => exact ⟨0, [], Nat.zero_le _, rfl, rfl, ow.own_empty _ _, (Below.refl _ _).alloc (Nat.le_refl _) _⟩
  case round =>
    obtain ⟨k, q, hk, rfl, HQ, hown, hbw⟩ := hrel
    by_cases hlt : k < n
    · have hzne : bz l ≠ [] := by
        intro e
        have := congrArg List.length e
        rw [bz_len, ← HN.out] at this
        simp at this
        omega
      rcases H1.out with e | ⟨b, off, rfl, hcells⟩
      · exact absurd e hzne
      clear hzne
      have hblt : b < w.heap.size := World.block_lt_of_cell? w _ (hcells k hlt)
      have HC : Hid (∀ j, j < n → wr.cell? ⟨b, off + j, none⟩ = some (.int .u8 ((l.getD j 0).toNat : Int))) := fun j hj => by
        rw [← bz_at]
        exact (hbw.cell (p := ⟨b, off + j, none⟩) hblt).trans (hcells j hj)
      clear hcells
      go_wp2
      go_loop [5, 6] (fun x j => ∃ m : Nat, m ≤ 3 ∧ j = .int .i64 m ∧ x = .int .i64 (nv l k m : Nat)) (fun _ j => 3 - (intOf j).toNat)
      case atStart => exact ⟨0, Nat.zero_le _, rfl, rfl⟩
      case round =>
        obtain ⟨m, hm, rfl, rfl⟩ := hrel
        have hv := nv_lt l k m
        have hs : nv l k (m + 1) = nv l k m * 256 + (if k + m < l.length then (l.getD (k + m) 0).toNat else 0) := rfl
        rw [← HN.out] at hs
        have HS : Hid (nv l k (m + 1) = nv l k m * 256 + (if k + m < n then (l.getD (k + m) 0).toNat else 0)) := hs
        clear hs
        obtain ⟨x, hx⟩ : ∃ x, x = nv l k m := ⟨_, rfl⟩
        rw [← hx] at hv HS ⊢
        by_cases hm3 : m < 3
        · have hx6 : x < 65536 := by
            have : 256 ^ m ≤ 256 ^ 2 := Nat.pow_le_pow_right (by decide) (by omega)
            omega
          clear hv hx
          have hx6' : (x : Int) ≤ 65535 := by omega
          by_cases hin : k + m < n
          · have c0 := HC.out (k + m) hin
            have hby := (l.getD (k + m) 0).toNat_lt
            have e : nv l k (m + 1) = x * 256 + (l.getD (k + m) 0).toNat := by rw [HS.out, if_pos hin]
            obtain ⟨y, hy⟩ : ∃ y, y = (l.getD (k + m) 0).toNat := ⟨_, rfl⟩
            rw [← hy] at c0 hby e
            clear hy
            have E : Hid (nv l k (m + 1) = x * 256 + y) := e
            clear e HS
            have hy2 : (y : Int) ≤ 255 := by omega
            have hin' : (k : Int) + (m : Int) < (n : Int) := by omega
            go_wp2
            go_round
            case rel => exact ⟨m + 1, by omega, by go_num, by rw [E.out]; go_num⟩
            case measure => simp [intOf]; omega
          · have e : nv l k (m + 1) = x * 256 := by rw [HS.out, if_neg hin]; rfl
            have E : Hid (nv l k (m + 1) = x * 256) := e
            clear e HS
            have hin' : (n : Int) ≤ (k : Int) + (m : Int) := by omega
            go_wp2
            go_round
            case rel => exact ⟨m + 1, by omega, by go_num, by rw [E.out]; go_num⟩
            case measure => simp [intOf]; omega
        · have hm3' : m = 3 := by omega
          subst hm3'
          have hx6 : x < 16777216 := by simpa using hv
          have HX : Hid (x = nv l k 3) := hx
          clear hv hx HS
          have hx6' : (x : Int) ≤ 16777215 := by omega
          clear HC H1
          have g0 := ix_lets ((x : Int) / 262144) (x / 262144) (by omega) (by omega)
          have g1 := ix_lets ((x : Int) / 4096 % 64) (x / 4096 % 64) (by omega) (by omega)
          have g2 := ix_lets ((x : Int) / 64 % 64) (x / 64 % 64) (by omega) (by omega)
          have g3 := ix_lets ((x : Int) % 64) (x % 64) (by omega) (by omega)
          obtain ⟨d0, hd0⟩ : ∃ d, d = L (x / 262144) := ⟨_, rfl⟩
          obtain ⟨d1, hd1⟩ : ∃ d, d = L (x / 4096 % 64) := ⟨_, rfl⟩
          obtain ⟨d2, hd2⟩ : ∃ d, d = L (x / 64 % 64) := ⟨_, rfl⟩
          obtain ⟨d3, hd3⟩ : ∃ d, d = L (x % 64) := ⟨_, rfl⟩
          rw [← hd0] at g0
          rw [← hd1] at g1
          rw [← hd2] at g2
          rw [← hd3] at g3
          have HD : Hid (d0 = L (x / 262144) ∧ d1 = L (x / 4096 % 64) ∧ d2 = L (x / 64 % 64) ∧ d3 = L (x % 64)) := ⟨hd0, hd1, hd2, hd3⟩
          clear hd0 hd1 hd2 hd3
          go_wp2
          go_region
          clear g0 g1 g2 g3
          have hlq : q.length ≤ 2097152 := by
            have e1 := congrArg List.length HQ.out
            rw [List.length_append, enc_length l, ← HN.out] at e1
            omega
          have HLQ : Hid (q.length ≤ 2097152) := hlq
          clear hlq
          have hg1 : w.heap.size ≤ wr.heap.size := hbw.size
          obtain ⟨w1, hw1⟩ : ∃ W, W = (wr.alloc (.cells #[Value.int .u8 (d0.toNat : Int), Value.int .u8 (d1.toNat : Int), Value.int .u8 (d2.toNat : Int), Value.int .u8 (d3.toNat : Int)] 5)).drew := ⟨_, rfl⟩
          rw [← hw1]
          obtain ⟨own1, bel1, blk1, ne1, sz1⟩ := ow.built hw1 hown hbw hg1
          clear hw1 hown hbw
          obtain ⟨g, hg⟩ : ∃ g, g = wr.heap.size := ⟨_, rfl⟩
          rw [← hg] at blk1 ne1 sz1 hg1 ⊢
          clear hg
          obtain ⟨i0, hi, hz0, hz1, hz2⟩ := info_parts bl.info1
          by_cases h3 : k + 2 < n
          · have h3' : (k : Int) + 2 < (n : Int) := by omega
            have h3d : decide ((n : Int) ≤ (k : Int) + 2) = false := decide_eq_false (by omega)
            have h4d : decide ((n : Int) ≤ (k : Int) + 1) = false := decide_eq_false (by omega)
            have HG : Hid ((q ++ [d0, d1, d2, d3]) ++ enc (l.drop (k + 3)) = enc l) := by
              obtain ⟨e0, e1, e2, e3⟩ := HD.out
              rw [e0, e1, e2, e3]
              exact grow4 HQ.out (step3 (by rw [← HN.out]; exact h3) HX.out)
            clear HD HX HQ
            have HNW : Hid (∀ (j : Nat) (u : Value), (Lib.byteCells [d0, d1, d2, d3])[j]? = some u → World.cell? _ ((⟨g, 0, none⟩ : Addr).add j) = some u) := ow.news_blk blk1 (fun j u hj => by simpa [Lib.byteCells] using hj)
            go_wp2_with (at_builtin; go_loud (refine wpList_append_own _ rfl _ _ 22 rfl w.heap.size 5 i0 (.int .u8 0) 1 1 Tryz.underlying22 hi hz0 hz1 hz2 rfl (by decide) _ _ _ rfl own1 ⟨g, 0, none⟩ 4 4 (Lib.byteCells [d0, d1, d2, d3]) rfl rfl HNW.out (ow.one_bytes _) (by have := HLQ.out; unfold maxLen; omega) (by have := HLQ.out; omega) (by have := hg1; have := sz1; omega) ?_); intro v' w2 hown' hgrow _)
            have hbz := bel1.grown hgrow (by have := hg1; have := sz1; omega) (ow.own_lt own1)
            obtain ⟨ao, n', cap', rfl⟩ : ∃ ao n' cap, v' = .slice ao n' cap := by
              rcases hown'.2 with ⟨hv, _⟩ | ⟨g, cap, cur, hv, _⟩
              · exact ⟨_, _, _, hv⟩
              · exact ⟨_, _, _, hv⟩
            rw [← Lib.byteCells_append] at hown'
            go_wp2
            go_roundw
            case rel => exact ⟨k + 3, q ++ [d0, d1, d2, d3], by omega, by go_num, HG.out, by rw [List.length_append]; exact hown', hbz⟩
            case measure => simp [intOf]; omega
          by_cases h4 : k + 2 = n
          · have h3d : decide ((n : Int) ≤ (k : Int) + 2) = true := decide_eq_true (by omega)
            have h4d : decide ((n : Int) ≤ (k : Int) + 1) = false := decide_eq_false (by omega)
            have HG : Hid ((q ++ [d0, d1, d2, 61]) ++ enc (l.drop (k + 3)) = enc l) := by
              obtain ⟨e0, e1, e2, e3⟩ := HD.out
              rw [e0, e1, e2]
              exact grow4 HQ.out (step2 (by rw [← HN.out]; exact h4) HX.out)
            clear HD HX HQ
            have c3 := ow.cell_blk blk1 3
            have f3 := ow.frozen_blk blk1 3
            obtain ⟨own2, bel2, blk2, sz2⟩ := ow.wrote 3 (.int .u8 61) own1 bel1 hg1 blk1 ne1
            rw [sz1] at sz2
            clear own1 bel1 blk1
            have HNW : Hid (∀ (j : Nat) (u : Value), (Lib.byteCells [d0, d1, d2, 61])[j]? = some u → World.cell? _ ((⟨g, 0, none⟩ : Addr).add j) = some u) := ow.news_blk blk2 (fun j u hj => by simpa [Lib.byteCells] using hj)
            go_wp2_with (at_builtin; go_loud (refine wpList_append_own _ rfl _ _ 22 rfl w.heap.size 5 i0 (.int .u8 0) 1 1 Tryz.underlying22 hi hz0 hz1 hz2 rfl (by decide) _ _ _ rfl own2 ⟨g, 0, none⟩ 4 4 (Lib.byteCells [d0, d1, d2, 61]) rfl rfl HNW.out (ow.one_bytes _) (by have := HLQ.out; unfold maxLen; omega) (by have := HLQ.out; omega) (by have := hg1; have := sz2; omega) ?_); intro v' w2 hown' hgrow _)
            have hbz := bel2.grown hgrow (by have := hg1; have := sz2; omega) (ow.own_lt own2)
            obtain ⟨ao, n', cap', rfl⟩ : ∃ ao n' cap, v' = .slice ao n' cap := by
              rcases hown'.2 with ⟨hv, _⟩ | ⟨g, cap, cur, hv, _⟩
              · exact ⟨_, _, _, hv⟩
              · exact ⟨_, _, _, hv⟩
            rw [← Lib.byteCells_append] at hown'
            go_wp2
            go_roundw
            case rel => exact ⟨k + 3, q ++ [d0, d1, d2, 61], by omega, by go_num, HG.out, by rw [List.length_append]; exact hown', hbz⟩
            case measure => simp [intOf]; omega
          · have h5 : k + 1 = n := by omega
            have h3d : decide ((n : Int) ≤ (k : Int) + 2) = true := decide_eq_true (by omega)
            have h4d : decide ((n : Int) ≤ (k : Int) + 1) = true := decide_eq_true (by omega)
            have HG : Hid ((q ++ [d0, d1, 61, 61]) ++ enc (l.drop (k + 3)) = enc l) := by
              obtain ⟨e0, e1, e2, e3⟩ := HD.out
              rw [e0, e1]
              exact grow4 HQ.out (step1 (by rw [← HN.out]; exact h5) HX.out)
            clear HD HX HQ
            have c3 := ow.cell_blk blk1 3
            have f3 := ow.frozen_blk blk1 3
            obtain ⟨own2, bel2, blk2, sz2⟩ := ow.wrote 3 (.int .u8 61) own1 bel1 hg1 blk1 ne1
            have c2 := ow.cell_blk blk2 2
            have f2 := ow.frozen_blk blk2 2
            obtain ⟨own3, bel3, blk3, sz3⟩ := ow.wrote 2 (.int .u8 61) own2 bel2 hg1 blk2 ne1
            rw [sz2, sz1] at sz3
            clear own1 bel1 blk1 own2 bel2 blk2 sz2
            have HNW : Hid (∀ (j : Nat) (u : Value), (Lib.byteCells [d0, d1, 61, 61])[j]? = some u → World.cell? _ ((⟨g, 0, none⟩ : Addr).add j) = some u) := ow.news_blk blk3 (fun j u hj => by simpa [Lib.byteCells] using hj)
            go_wp2_with (at_builtin; go_loud (refine wpList_append_own _ rfl _ _ 22 rfl w.heap.size 5 i0 (.int .u8 0) 1 1 Tryz.underlying22 hi hz0 hz1 hz2 rfl (by decide) _ _ _ rfl own3 ⟨g, 0, none⟩ 4 4 (Lib.byteCells [d0, d1, 61, 61]) rfl rfl HNW.out (ow.one_bytes _) (by have := HLQ.out; unfold maxLen; omega) (by have := HLQ.out; omega) (by have := hg1; have := sz3; omega) ?_); intro v' w2 hown' hgrow _)
            have hbz := bel3.grown hgrow (by have := hg1; have := sz3; omega) (ow.own_lt own3)
            obtain ⟨ao, n', cap', rfl⟩ : ∃ ao n' cap, v' = .slice ao n' cap := by
              rcases hown'.2 with ⟨hv, _⟩ | ⟨g, cap, cur, hv, _⟩
              · exact ⟨_, _, _, hv⟩
              · exact ⟨_, _, _, hv⟩
            rw [← Lib.byteCells_append] at hown'
            go_wp2
            go_roundw
            case rel => exact ⟨k + 3, q ++ [d0, d1, 61, 61], by omega, by go_num, HG.out, by rw [List.length_append]; exact hown', hbz⟩
            case measure => simp [intOf]; omega
    · have hd : l.drop k = [] := List.drop_eq_nil_of_le (by rw [← HN.out]; omega)
      have hq : q = enc l := by have := HQ.out; rw [hd] at this; simpa [enc] using this
      subst hq
      have hcv := fun h1 h2 h3 => ow.conv_bytes (P := Tryz.prog) (src := 22) (dst := 9) (enc l) hown h1 h2 h3
      have hcv2 := hcv Tryz.underlying22 Tryz.underlying5 Tryz.underlying9
      clear hcv hd HQ H1 hown
      go_wp2
      go_ret
      exact ⟨rfl, hbw⟩
end Go.Proofs.YtadfdfmebdcfgaaGreatDoor.b6

namespace Go.Proofs.YtadfdfmebdcfgaaGreatDoor.b6
open Go.RowKit
set_option linter.unusedVariables false

theorem letter_all : ∀ n : Fin 256, (∀ j : Fin 64, L j.val ≠ UInt8.ofNat n.val) → V (UInt8.ofNat n.val) = -1 := by decide +kernel
theorem letter_none (c : UInt8) (h : ∀ j, j < 64 → L j ≠ c) : V c = -1 :=
  byte_all (p := fun c => (∀ j : Fin 64, L j.val ≠ c) → V c = -1) letter_all c (fun j => h j.val j.isLt)

set_option maxHeartbeats 1000000 in
set_option maxRecDepth 100000 in
theorem letter_any (c : UInt8) (w : World) :
    Calls Tryz.prog 176 #[.int .u8 (c.toNat : Int)] w fun e w' => e = .returned (.int .i64 (V c)) ∧ w' = w := by
  go_enter Tryz.func176, Tryz.ntmps176
  go_wp2
  go_loop [3] (fun i => ∃ k : Nat, k ≤ 64 ∧ i = .int .i64 k ∧ Hid (∀ j, j < k → L j ≠ c)) (fun i => 64 - (intOf i).toNat)
  case atStart => exact ⟨0, Nat.zero_le _, rfl, fun j hj => absurd hj (Nat.not_lt_zero _)⟩
  case round =>
    obtain ⟨k, hk, rfl, HG⟩ := hrel
    by_cases hlt : k < 64
    · have hx := ix_lets (k : Int) k rfl hlt
      have hlt' : (k : Int) ≤ 63 := by omega
      by_cases he : L k = c
      · have hv : V c = (k : Int) := by rw [← he]; exact V_L k hlt
        rw [he] at hx
        clear he
        have hbe : ((c.toNat : Int) == (c.toNat : Int)) = true := beq_self_eq_true _
        have HV : Hid (V c = (k : Int)) := hv
        clear hv
        go_wp2
        go_ret
        exact ⟨by rw [HV.out]; rfl, rfl⟩
      · have hne : (((L k).toNat : Int) == (c.toNat : Int)) = false := by
          rw [beq_eq_false_iff_ne]
          intro e
          exact he (UInt8.toNat_inj.1 (by omega))
        have hne2 : ¬ (L k).toNat = c.toNat := fun e => he (UInt8.toNat_inj.1 e)
        have HE : Hid (L k ≠ c) := he
        clear he
        generalize (L k).toNat = x at hx hne hne2
        go_wp2
        go_round
        case rel => exact ⟨k + 1, by omega, by go_num, fun j hj => by
          by_cases e : j = k
          · subst e; exact HE.out
          · exact HG.out j (by omega)⟩
        case measure => simp [intOf]; omega
    · go_wp2
      go_ret
      exact ⟨by rw [letter_none c (fun j hj => HG.out j (by omega))]; rfl, rfl⟩
theorem gst_iff {p q : Prop} [Decidable p] [Decidable q] (h : p ↔ q) (ch : Nat → UInt8) : ∀ m, gst p ch m = gst q ch m := by
  intro m
  induction m with
  | zero => rfl
  | succ m ih => rw [gst_succ, gst_succ, ih]; simp only [h]
theorem dec_short : ∀ (n : Nat) (t : List UInt8), t.length ≤ n → t.length % 4 ≠ 0 → dec t = none := by
  intro n
  induction n with
  | zero => intro t h h4; exact absurd (by omega) h4
  | succ n ih =>
    intro t h h4
    match t, h, h4 with
    | [], _, h4 => exact absurd rfl h4
    | [_], _, _ => rfl
    | [_, _], _, _ => rfl
    | [_, _, _], _, _ => rfl
    | a :: b :: c :: d :: r, h, h4 =>
      have hr : r.length % 4 ≠ 0 := by simp at h4; omega
      have hn : r ≠ [] := by intro e; rw [e] at hr; exact hr rfl
      simp only [dec]
      rw [ih r (by simp at h; omega) hr]
      repeat' split
      all_goals first
        | rfl
        | (rename_i hh; exact absurd hh.1 hn)
        | simp_all
/-- What a reading answers: the bytes and whether there are such. -/
def ReadRet (base : Nat) (o : Option (List UInt8)) (e : Ending) (w' : World) : Prop :=
  ∃ v, e = .returned (.tuple #[v, .bool o.isSome]) ∧ w'.ownsRow base 5 1 v (o.getD []).length (Lib.byteCells (o.getD []))
theorem ret_none {base : Nat} {o : Option (List UInt8)} {w : World} (h : o = none) (hb : base ≤ w.heap.size) : ReadRet base o (.returned (.tuple #[.slice (some ⟨w.heap.size, 0, none⟩) 0 0, .bool false])) (w.alloc (.cells #[] 5)) := by
  subst h
  exact ⟨_, rfl, ow.own_base (ow.own_empty _ _) hb⟩
theorem drop4 {t : List UInt8} {k : Nat} (h : k + 4 ≤ t.length) : t.drop k = t.getD k 0 :: t.getD (k + 1) 0 :: t.getD (k + 2) 0 :: t.getD (k + 3) 0 :: t.drop (k + 4) := by
  rw [drop_cons (l := t) (k := k) (by omega), drop_cons (l := t) (k := k + 1) (by omega), drop_cons (l := t) (k := k + 1 + 1) (by omega), drop_cons (l := t) (k := k + 1 + 1 + 1) (by omega)]
/-- The group at k, in the words of its number and signs. -/
theorem dec_at {t : List UInt8} {k n : Nat} (hn : n = t.length) (h : k + 4 ≤ n) : dec (t.drop k) = (gst (k + 4 = n) (fun m => t.getD (k + m) 0) 4).bind fun p => grp p.1 p.2 (t.drop (k + 4)) := by
  have := dec_gst (t.getD k 0) (t.getD (k + 1) 0) (t.getD (k + 2) 0) (t.getD (k + 3) 0) (t.drop (k + 4)) (fun m => t.getD (k + m) 0) rfl rfl rfl rfl
  rw [drop4 (by omega), this]
  rw [gst_iff (p := t.drop (k + 4) = []) (q := k + 4 = n)]
  rw [List.drop_eq_nil_iff]
  omega

theorem gst_none4 {last : Prop} [Decidable last] {ch : Nat → UInt8} {m : Nat} (hm : m < 4) (h : gst last ch (m + 1) = none) : gst last ch 4 = none := by
  have := gst_none h (3 - m)
  rwa [show m + 1 + (3 - m) = 4 from by omega] at this
theorem start_map (t : List UInt8) : (dec (t.drop 0)).map ([] ++ ·) = dec t := by simp
theorem str_at (s : ByteArray) (z : Int) (j : Nat) (hz : z = j) (hj : j < s.size) (wx : World) : (Instr.index 9 (.string s) (.int .i64 z)).run Tryz.prog wx = .ok (.int .u8 ((s.data.toList.getD j 0).toNat : Int)) wx := by
  subst hz
  have hb : s[(j : Int).toNat]'(by simpa using hj) = s[j]'hj := by simp
  have hc : s.data.toList.getD j 0 = s[j]'hj := by
    rw [List.getD_eq_getElem?_getD, Array.getElem?_toList, Array.getElem?_eq_getElem (show j < s.data.size from hj)]
    rfl
  rw [run_index_string wx 9 s .i64 (j : Int) Tryz.underlying9, dif_pos ⟨by omega, by omega⟩, hb, hc]
theorem more {q out : List UInt8} {t : List UInt8} {k : Nat} {o : Option (List UInt8)} (h : (dec (t.drop k)).map (q ++ ·) = o) (e : dec (t.drop k) = (dec (t.drop (k + 4))).map (out ++ ·)) : (dec (t.drop (k + 4))).map ((q ++ out) ++ ·) = o := by
  rw [← h, e, Option.map_map]
  congr 1
  funext x
  simp [List.append_assoc]
theorem fall {q : List UInt8} {t : List UInt8} {k : Nat} (h : (dec (t.drop k)).map (q ++ ·) = dec t) (e : dec (t.drop k) = none) : dec t = none := by
  rw [← h, e]
  rfl

set_option maxHeartbeats 4000000 in
set_option maxRecDepth 100000 in
theorem specRead_any (s : ByteArray) (w : World) (hn : s.size ≤ 65536) :
    Calls Tryz.prog 139 #[.string s] w fun e w' => ReadRet w.heap.size (dec s.data.toList) e w' ∧ Below w.heap.size w w' := by
  have hsz : (s.size : Int) ≤ 65536 := by omega
  by_cases h4 : s.size % 4 = 0
  case neg =>
    have hd : dec s.data.toList = none := dec_short _ _ (Nat.le_refl _) h4
    have hb : ((s.size : Int) % 4 != 0) = true := by rw [bne_iff_ne]; omega
    go_enter Tryz.func139, Tryz.ntmps139
    go_wp2
    go_ret2
    exact ⟨ret_none hd (Nat.le_refl _), (Below.refl _ _).alloc (Nat.le_refl _) _⟩
  have hb : ((s.size : Int) % 4 != 0) = false := by rw [bne_eq_false_iff_eq]; omega
  go_enter Tryz.func139, Tryz.ntmps139
  go_wp2
  go_loopw [4, 5] (fun o i wr => ∃ (k : Nat) (q : List UInt8), k ≤ s.size ∧ k % 4 = 0 ∧ i = .int .i64 k ∧ Hid ((dec (s.data.toList.drop k)).map (q ++ ·) = dec s.data.toList) ∧ Hid (q.length ≤ k) ∧ wr.ownsRow w.heap.size 5 1 o q.length (Lib.byteCells q) ∧ Below w.heap.size w wr) (fun _ i _ => s.size - (intOf i).toNat)
  case atStart => exact ⟨0, [], Nat.zero_le _, rfl, rfl, start_map _, Nat.zero_le _, ow.own_empty _ _, (Below.refl _ _).alloc (Nat.le_refl _) _⟩
  case round =>
    obtain ⟨k, q, hk, hk4, rfl, HQ, HL, hown, hbw⟩ := hrel
    by_cases hlt : k < s.size
    · have hlt4 : k + 4 ≤ s.size := by omega
      have hlt' : (k : Int) < (s.size : Int) := by omega
      have hD := dec_at (t := s.data.toList) (k := k) (n := s.size) rfl hlt4
      have HD : Hid (dec (s.data.toList.drop k) = (gst (k + 4 = s.size) (fun m => s.data.toList.getD (k + m) 0) 4).bind fun p => grp p.1 p.2 (s.data.toList.drop (k + 4))) := hD
      clear hD
      go_wp2
      go_loop [6, 7, 8] (fun x f j => ∃ m nn ff : Nat, m ≤ 4 ∧ j = .int .i64 m ∧ x = .int .i64 nn ∧ f = .int .i64 ff ∧ Hid (gst (k + 4 = s.size) (fun m => s.data.toList.getD (k + m) 0) m = some (nn, ff))) (fun _ _ j => 4 - (intOf j).toNat)
      case atStart => exact ⟨0, 0, 0, Nat.zero_le _, rfl, rfl, rfl, rfl⟩
      case round =>
        obtain ⟨m, nn, ff, hm, rfl, rfl, rfl, HS⟩ := hrel
        obtain ⟨gl, gf, gp⟩ := gst_lt _ _ _ HS.out
        clear gp
        by_cases hm4 : m < 4
        · have hix : k + m < s.size := by omega
          have hnn : nn < 16777216 := by
            have : 64 ^ m ≤ 64 ^ 4 := Nat.pow_le_pow_right (by decide) (by omega)
            omega
          clear gl
          have hx := str_at s ((k : Int) + (m : Int)) (k + m) (by omega) hix
          obtain ⟨c0, hc0⟩ : ∃ c, c = s.data.toList.getD (k + m) 0 := ⟨_, rfl⟩
          have HCH : Hid (c0 = s.data.toList.getD (k + m) 0) := hc0
          rw [← hc0] at hx
          clear hc0
          by_cases hpad : c0 = 61 ∧ k + 4 = s.size ∧ 2 ≤ m
          · obtain ⟨rfl, he, hm2⟩ := hpad
            have HS2 : Hid (gst (k + 4 = s.size) (fun m => s.data.toList.getD (k + m) 0) (m + 1) = some (nn * 64, ff + 1)) := gst_pad HS.out HCH.out.symm he hm2
            have he' : (k : Int) + 4 = (s.size : Int) := by omega
            have heb : ((k : Int) + 4 == (s.size : Int)) = true := beq_iff_eq.2 he'
            have hm2' : (2 : Int) ≤ (m : Int) := by omega
            have hff : (ff : Int) ≤ 2 := by omega
            clear HS HCH HQ HD hown
            go_wp2
            go_round
            case rel => exact ⟨m + 1, _, _, by omega, by go_num, by go_num, by go_num, HS2⟩
            case measure => simp [intOf]; omega
          have HNP : Hid (¬ (s.data.toList.getD (k + m) 0 = 61 ∧ k + 4 = s.size ∧ 2 ≤ m)) := HCH.out ▸ hpad
          have hff2 : (ff : Int) ≤ 2 := by omega
          by_cases hc61 : c0 = 61
          · have hcb : ((c0.toNat : Int) == 61) = true := by rw [hc61]; rfl
            by_cases hl4 : k + 4 = s.size
            · have hl4' : (k : Int) + 4 = (s.size : Int) := by omega
              have heb : ((k : Int) + 4 == (s.size : Int)) = true := beq_iff_eq.2 hl4'
              have hmd : decide ((2 : Int) ≤ (m : Int)) = false := decide_eq_false (fun h => hpad ⟨hc61, hl4, by omega⟩)
              clear hpad hc61
              go_wp2_with fail
              refine (letter_any c0 _).mono ?_
              rintro e wx ⟨rfl, rfl⟩
              rcases V_cases c0 with hv | ⟨hv0, hv1, -⟩
              · have hvn : V c0 < 0 := by omega
                have HX : Hid (dec s.data.toList = none) := fall HQ.out (by
                  rw [HD.out, gst_none4 hm4 (gst_no HS.out HNP.out (.inl (HCH.out ▸ hvn)))]
                  rfl)
                clear HD HQ HS HNP HCH hown
                go_wp2
                go_ret2
                exact ⟨ret_none HX.out hbw.size, hbw.alloc hbw.size _⟩
              have hvp : ¬ V c0 < 0 := by omega
              have hvd : decide (V c0 < 0) = false := decide_eq_false hvp
              by_cases hff : 0 < ff
              · have hff' : (0 : Int) < (ff : Int) := by omega
                have HX : Hid (dec s.data.toList = none) := fall HQ.out (by
                  rw [HD.out, gst_none4 hm4 (gst_no HS.out HNP.out (.inr hff))]
                  rfl)
                clear HD HQ HS HNP HCH hown
                go_wp2
                go_ret2
                exact ⟨ret_none HX.out hbw.size, hbw.alloc hbw.size _⟩
              have hff0 : ff = 0 := by omega
              subst hff0
              have HS2 : Hid (gst (k + 4 = s.size) (fun m => s.data.toList.getD (k + m) 0) (m + 1) = some (nn * 64 + (V c0).toNat, 0)) := by
                have := gst_on HS.out HNP.out (show ¬ (V (s.data.toList.getD (k + m) 0) < 0 ∨ 0 < 0) from by rw [← HCH.out]; omega)
                refine this.trans ?_
                show some (nn * 64 + (V (s.data.toList.getD (k + m) 0)).toNat, 0) = _
                rw [← HCH.out]
              obtain ⟨vv, hvv⟩ : ∃ v : Nat, V c0 = (v : Int) := ⟨(V c0).toNat, by omega⟩
              rw [hvv] at HS2 hv1 hvd ⊢
              have hvv64 : (vv : Int) < 64 := hv1
              clear hv0 hvp HS HNP HCH hvv hff
              have hvd2 : decide ((vv : Int) < 0) = false := decide_eq_false (by omega)
              go_wp2
              go_round
              case rel => exact ⟨m + 1, _, 0, by omega, by go_num, by simp, rfl, HS2⟩
              case measure => simp [intOf]; omega
            · have hl4b : ((k : Int) + 4 == (s.size : Int)) = false := by rw [beq_eq_false_iff_ne]; omega
              clear hpad hc61
              go_wp2_with fail
              refine (letter_any c0 _).mono ?_
              rintro e wx ⟨rfl, rfl⟩
              rcases V_cases c0 with hv | ⟨hv0, hv1, -⟩
              · have hvn : V c0 < 0 := by omega
                have HX : Hid (dec s.data.toList = none) := fall HQ.out (by
                  rw [HD.out, gst_none4 hm4 (gst_no HS.out HNP.out (.inl (HCH.out ▸ hvn)))]
                  rfl)
                clear HD HQ HS HNP HCH hown
                go_wp2
                go_ret2
                exact ⟨ret_none HX.out hbw.size, hbw.alloc hbw.size _⟩
              have hvp : ¬ V c0 < 0 := by omega
              have hvd : decide (V c0 < 0) = false := decide_eq_false hvp
              by_cases hff : 0 < ff
              · have hff' : (0 : Int) < (ff : Int) := by omega
                have HX : Hid (dec s.data.toList = none) := fall HQ.out (by
                  rw [HD.out, gst_none4 hm4 (gst_no HS.out HNP.out (.inr hff))]
                  rfl)
                clear HD HQ HS HNP HCH hown
                go_wp2
                go_ret2
                exact ⟨ret_none HX.out hbw.size, hbw.alloc hbw.size _⟩
              have hff0 : ff = 0 := by omega
              subst hff0
              have HS2 : Hid (gst (k + 4 = s.size) (fun m => s.data.toList.getD (k + m) 0) (m + 1) = some (nn * 64 + (V c0).toNat, 0)) := by
                have := gst_on HS.out HNP.out (show ¬ (V (s.data.toList.getD (k + m) 0) < 0 ∨ 0 < 0) from by rw [← HCH.out]; omega)
                refine this.trans ?_
                show some (nn * 64 + (V (s.data.toList.getD (k + m) 0)).toNat, 0) = _
                rw [← HCH.out]
              obtain ⟨vv, hvv⟩ : ∃ v : Nat, V c0 = (v : Int) := ⟨(V c0).toNat, by omega⟩
              rw [hvv] at HS2 hv1 hvd ⊢
              have hvv64 : (vv : Int) < 64 := hv1
              clear hv0 hvp HS HNP HCH hvv hff
              have hvd2 : decide ((vv : Int) < 0) = false := decide_eq_false (by omega)
              go_wp2
              go_round
              case rel => exact ⟨m + 1, _, 0, by omega, by go_num, by simp, rfl, HS2⟩
              case measure => simp [intOf]; omega
          · have hcb : ((c0.toNat : Int) == 61) = false := by
              rw [beq_eq_false_iff_ne]
              intro e
              exact hc61 (UInt8.toNat_inj.1 (by simpa using (show c0.toNat = 61 by omega)))
            clear hpad hc61
            go_wp2_with fail
            refine (letter_any c0 _).mono ?_
            rintro e wx ⟨rfl, rfl⟩
            rcases V_cases c0 with hv | ⟨hv0, hv1, -⟩
            · have hvn : V c0 < 0 := by omega
              have HX : Hid (dec s.data.toList = none) := fall HQ.out (by
                rw [HD.out, gst_none4 hm4 (gst_no HS.out HNP.out (.inl (HCH.out ▸ hvn)))]
                rfl)
              clear HD HQ HS HNP HCH hown
              go_wp2
              go_ret2
              exact ⟨ret_none HX.out hbw.size, hbw.alloc hbw.size _⟩
            have hvp : ¬ V c0 < 0 := by omega
            have hvd : decide (V c0 < 0) = false := decide_eq_false hvp
            by_cases hff : 0 < ff
            · have hff' : (0 : Int) < (ff : Int) := by omega
              have HX : Hid (dec s.data.toList = none) := fall HQ.out (by
                rw [HD.out, gst_none4 hm4 (gst_no HS.out HNP.out (.inr hff))]
                rfl)
              clear HD HQ HS HNP HCH hown
              go_wp2
              go_ret2
              exact ⟨ret_none HX.out hbw.size, hbw.alloc hbw.size _⟩
            have hff0 : ff = 0 := by omega
            subst hff0
            have HS2 : Hid (gst (k + 4 = s.size) (fun m => s.data.toList.getD (k + m) 0) (m + 1) = some (nn * 64 + (V c0).toNat, 0)) := by
              have := gst_on HS.out HNP.out (show ¬ (V (s.data.toList.getD (k + m) 0) < 0 ∨ 0 < 0) from by rw [← HCH.out]; omega)
              refine this.trans ?_
              show some (nn * 64 + (V (s.data.toList.getD (k + m) 0)).toNat, 0) = _
              rw [← HCH.out]
            obtain ⟨vv, hvv⟩ : ∃ v : Nat, V c0 = (v : Int) := ⟨(V c0).toNat, by omega⟩
            rw [hvv] at HS2 hv1 hvd ⊢
            have hvv64 : (vv : Int) < 64 := hv1
            clear hv0 hvp HS HNP HCH hvv hff
            have hvd2 : decide ((vv : Int) < 0) = false := decide_eq_false (by omega)
            go_wp2
            go_round
            case rel => exact ⟨m + 1, _, 0, by omega, by go_num, by simp, rfl, HS2⟩
            case measure => simp [intOf]; omega
        · obtain rfl : m = 4 := by omega
          have hnn : nn < 16777216 := by simpa using gl
          have hnn' : (nn : Int) ≤ 16777215 := by omega
          have HD2 : Hid (dec (s.data.toList.drop k) = grp nn ff (s.data.toList.drop (k + 4))) := by
            rw [HD.out, HS.out]
            rfl
          clear HD HS gl
          have hg1 : w.heap.size ≤ wr.heap.size := hbw.size
          have hff : ff = 0 ∨ ff = 1 ∨ ff = 2 := by omega
          clear gf
          have e2 : (nn : Int) / 65536 = ((by2 nn).toNat : Int) := by rw [by2, UInt8.toNat_ofNat']; omega
          have e1 : (nn : Int) / 256 % 256 = ((by1 nn).toNat : Int) := by rw [by1, UInt8.toNat_ofNat']; omega
          have e0 : (nn : Int) % 256 = ((by0 nn).toNat : Int) := by rw [by0, UInt8.toNat_ofNat']; omega
          obtain ⟨i0, hi, hz0, hz1, hz2⟩ := info_parts bl.info1
          rcases hff with rfl | rfl | rfl
          · skip
            go_wp2
            clear e2 e1 e0
            obtain ⟨W, hW⟩ : ∃ W, W = wr.alloc (Obj.cells #[Value.int .u8 ((by2 nn).toNat : Int), Value.int .u8 ((by1 nn).toNat : Int), Value.int .u8 ((by0 nn).toNat : Int)] 5) := ⟨_, rfl⟩
            rw [← hW]
            obtain ⟨own1, bel1, blk1, ne1, sz1⟩ := ow.laid hW hown hbw hg1
            have HNW : Hid (∀ (j : Nat) (u : Value), (Lib.byteCells [by2 nn, by1 nn, by0 nn])[j]? = some u → World.cell? W ((⟨wr.heap.size, 0, none⟩ : Addr).add j) = some u) := ow.news_blk blk1 (fun j u hj => by
              match j, hj with
              | 0, hj => simpa [Lib.byteCells] using hj
              | 1, hj => simpa [Lib.byteCells] using hj
              | 2, hj => simpa [Lib.byteCells] using hj
              | j + 3, hj => simp [Lib.byteCells] at hj)
            clear hW hown hbw
            obtain ⟨g, hg⟩ : ∃ g, g = wr.heap.size := ⟨_, rfl⟩
            rw [← hg] at blk1 ne1 sz1 hg1 HNW ⊢
            clear hg
            have HM : Hid ((dec (s.data.toList.drop (k + 4))).map ((q ++ [by2 nn, by1 nn, by0 nn]) ++ ·) = dec s.data.toList) := more HQ.out (by rw [HD2.out]; exact if_pos ⟨.inl rfl, .inl (by decide)⟩)
            clear HQ HD2
            refine wp_loop_rounds 1 ?_
            rw [rounds_succ]
            go_wp2_with (at_builtin; go_loud (refine wpList_append_own _ rfl _ _ 22 rfl w.heap.size 5 i0 (.int .u8 0) 1 1 Tryz.underlying22 hi hz0 hz1 hz2 rfl (by decide) _ _ _ rfl own1 ⟨g, 0, none⟩ 3 3 (Lib.byteCells [by2 nn, by1 nn, by0 nn]) rfl rfl HNW.out (ow.one_bytes _) (by have := HL.out; unfold maxLen; omega) (by have := HL.out; omega) (by omega) ?_); intro v' w2 hown' hgrow _)
            have hbz := bel1.grown hgrow (by omega) (ow.own_lt own1)
            obtain ⟨ao, n', cap', rfl⟩ : ∃ ao n' cap, v' = .slice ao n' cap := by
              rcases hown'.2 with ⟨hv, _⟩ | ⟨g, cap, cur, hv, _⟩
              · exact ⟨_, _, _, hv⟩
              · exact ⟨_, _, _, hv⟩
            rw [← Lib.byteCells_append] at hown'
            go_wp2
            go_roundw
            case rel => exact ⟨k + 4, q ++ [by2 nn, by1 nn, by0 nn], by omega, by omega, by go_num, HM, (show (q ++ [by2 nn, by1 nn, by0 nn]).length ≤ k + 4 by rw [List.length_append]; have := HL.out; simp; omega), by rw [List.length_append]; exact hown', hbz⟩
            case measure => simp [intOf]; omega
          · skip
            go_wp2
            clear e2 e1 e0
            obtain ⟨W, hW⟩ : ∃ W, W = wr.alloc (Obj.cells #[Value.int .u8 ((by2 nn).toNat : Int), Value.int .u8 ((by1 nn).toNat : Int), Value.int .u8 ((by0 nn).toNat : Int)] 5) := ⟨_, rfl⟩
            rw [← hW]
            obtain ⟨own1, bel1, blk1, ne1, sz1⟩ := ow.laid hW hown hbw hg1
            have HNW : Hid (∀ (j : Nat) (u : Value), (Lib.byteCells [by2 nn, by1 nn])[j]? = some u → World.cell? W ((⟨wr.heap.size, 0, none⟩ : Addr).add j) = some u) := ow.news_blk blk1 (fun j u hj => by
              match j, hj with
              | 0, hj => simpa [Lib.byteCells] using hj
              | 1, hj => simpa [Lib.byteCells] using hj
              | j + 2, hj => simp [Lib.byteCells] at hj)
            clear hW hown hbw
            obtain ⟨g, hg⟩ : ∃ g, g = wr.heap.size := ⟨_, rfl⟩
            rw [← hg] at blk1 ne1 sz1 hg1 HNW ⊢
            clear hg
            have c2 := ow.cell_blk blk1 2
            refine wp_loop_rounds 2 ?_
            rw [rounds_succ]
            by_cases hzby0 : by0 nn = 0
            case neg =>
              have hzb : (((by0 nn).toNat : Int) != 0) = true := by
                rw [bne_iff_ne]
                intro e
                exact hzby0 (UInt8.toNat_inj.1 (by simpa using (show (by0 nn).toNat = 0 by omega)))
              have HX : Hid (dec s.data.toList = none) := fall HQ.out (by rw [HD2.out]; exact if_neg (fun x => by rcases x.1 with y | y; exact absurd y (by decide); exact hzby0 y))
              have hbW : w.heap.size ≤ W.heap.size := by omega
              clear HQ HD2 own1 blk1 HNW
              go_wp2
              go_ret2
              exact ⟨(by have h1 := ret_none HX.out hbW; rw [sz1] at h1; exact h1), bel1.alloc hbW _⟩
            have hzbby0 : (((by0 nn).toNat : Int) != 0) = false := by rw [hzby0]; rfl
            have HM : Hid ((dec (s.data.toList.drop (k + 4))).map ((q ++ [by2 nn, by1 nn]) ++ ·) = dec s.data.toList) := more HQ.out (by rw [HD2.out]; exact if_pos ⟨.inr hzby0, .inl (by decide)⟩)
            clear HQ HD2
            go_wp2
            rw [rounds_succ]
            go_wp2_with (at_builtin; go_loud (refine wpList_append_own _ rfl _ _ 22 rfl w.heap.size 5 i0 (.int .u8 0) 1 1 Tryz.underlying22 hi hz0 hz1 hz2 rfl (by decide) _ _ _ rfl own1 ⟨g, 0, none⟩ 2 3 (Lib.byteCells [by2 nn, by1 nn]) rfl rfl HNW.out (ow.one_bytes _) (by have := HL.out; unfold maxLen; omega) (by have := HL.out; omega) (by omega) ?_); intro v' w2 hown' hgrow _)
            have hbz := bel1.grown hgrow (by omega) (ow.own_lt own1)
            obtain ⟨ao, n', cap', rfl⟩ : ∃ ao n' cap, v' = .slice ao n' cap := by
              rcases hown'.2 with ⟨hv, _⟩ | ⟨g, cap, cur, hv, _⟩
              · exact ⟨_, _, _, hv⟩
              · exact ⟨_, _, _, hv⟩
            rw [← Lib.byteCells_append] at hown'
            go_wp2
            go_roundw
            case rel => exact ⟨k + 4, q ++ [by2 nn, by1 nn], by omega, by omega, by go_num, HM, (show (q ++ [by2 nn, by1 nn]).length ≤ k + 4 by rw [List.length_append]; have := HL.out; simp; omega), by rw [List.length_append]; exact hown', hbz⟩
            case measure => simp [intOf]; omega
          · skip
            go_wp2
            clear e2 e1 e0
            obtain ⟨W, hW⟩ : ∃ W, W = wr.alloc (Obj.cells #[Value.int .u8 ((by2 nn).toNat : Int), Value.int .u8 ((by1 nn).toNat : Int), Value.int .u8 ((by0 nn).toNat : Int)] 5) := ⟨_, rfl⟩
            rw [← hW]
            obtain ⟨own1, bel1, blk1, ne1, sz1⟩ := ow.laid hW hown hbw hg1
            have HNW : Hid (∀ (j : Nat) (u : Value), (Lib.byteCells [by2 nn])[j]? = some u → World.cell? W ((⟨wr.heap.size, 0, none⟩ : Addr).add j) = some u) := ow.news_blk blk1 (fun j u hj => by
              match j, hj with
              | 0, hj => simpa [Lib.byteCells] using hj
              | j + 1, hj => simp [Lib.byteCells] at hj)
            clear hW hown hbw
            obtain ⟨g, hg⟩ : ∃ g, g = wr.heap.size := ⟨_, rfl⟩
            rw [← hg] at blk1 ne1 sz1 hg1 HNW ⊢
            clear hg
            have c1 := ow.cell_blk blk1 1
            have c2 := ow.cell_blk blk1 2
            refine wp_loop_rounds 3 ?_
            rw [rounds_succ]
            by_cases hzby1 : by1 nn = 0
            case neg =>
              have hzb : (((by1 nn).toNat : Int) != 0) = true := by
                rw [bne_iff_ne]
                intro e
                exact hzby1 (UInt8.toNat_inj.1 (by simpa using (show (by1 nn).toNat = 0 by omega)))
              have HX : Hid (dec s.data.toList = none) := fall HQ.out (by rw [HD2.out]; exact if_neg (fun x => by rcases x.2 with y | y; exact absurd y (by decide); exact hzby1 y))
              have hbW : w.heap.size ≤ W.heap.size := by omega
              clear HQ HD2 own1 blk1 HNW
              go_wp2
              go_ret2
              exact ⟨(by have h1 := ret_none HX.out hbW; rw [sz1] at h1; exact h1), bel1.alloc hbW _⟩
            have hzbby1 : (((by1 nn).toNat : Int) != 0) = false := by rw [hzby1]; rfl
            go_wp2
            rw [rounds_succ]
            by_cases hzby0 : by0 nn = 0
            case neg =>
              have hzb : (((by0 nn).toNat : Int) != 0) = true := by
                rw [bne_iff_ne]
                intro e
                exact hzby0 (UInt8.toNat_inj.1 (by simpa using (show (by0 nn).toNat = 0 by omega)))
              have HX : Hid (dec s.data.toList = none) := fall HQ.out (by rw [HD2.out]; exact if_neg (fun x => by rcases x.1 with y | y; exact absurd y (by decide); exact hzby0 y))
              have hbW : w.heap.size ≤ W.heap.size := by omega
              clear HQ HD2 own1 blk1 HNW
              go_wp2
              go_ret2
              exact ⟨(by have h1 := ret_none HX.out hbW; rw [sz1] at h1; exact h1), bel1.alloc hbW _⟩
            have hzbby0 : (((by0 nn).toNat : Int) != 0) = false := by rw [hzby0]; rfl
            have HM : Hid ((dec (s.data.toList.drop (k + 4))).map ((q ++ [by2 nn]) ++ ·) = dec s.data.toList) := more HQ.out (by rw [HD2.out]; exact if_pos ⟨.inr hzby0, .inr hzby1⟩)
            clear HQ HD2
            go_wp2
            rw [rounds_succ]
            go_wp2_with (at_builtin; go_loud (refine wpList_append_own _ rfl _ _ 22 rfl w.heap.size 5 i0 (.int .u8 0) 1 1 Tryz.underlying22 hi hz0 hz1 hz2 rfl (by decide) _ _ _ rfl own1 ⟨g, 0, none⟩ 1 3 (Lib.byteCells [by2 nn]) rfl rfl HNW.out (ow.one_bytes _) (by have := HL.out; unfold maxLen; omega) (by have := HL.out; omega) (by omega) ?_); intro v' w2 hown' hgrow _)
            have hbz := bel1.grown hgrow (by omega) (ow.own_lt own1)
            obtain ⟨ao, n', cap', rfl⟩ : ∃ ao n' cap, v' = .slice ao n' cap := by
              rcases hown'.2 with ⟨hv, _⟩ | ⟨g, cap, cur, hv, _⟩
              · exact ⟨_, _, _, hv⟩
              · exact ⟨_, _, _, hv⟩
            rw [← Lib.byteCells_append] at hown'
            go_wp2
            go_roundw
            case rel => exact ⟨k + 4, q ++ [by2 nn], by omega, by omega, by go_num, HM, (show (q ++ [by2 nn]).length ≤ k + 4 by rw [List.length_append]; have := HL.out; simp; omega), by rw [List.length_append]; exact hown', hbz⟩
            case measure => simp [intOf]; omega
    · have hd : s.data.toList.drop k = [] := List.drop_eq_nil_of_le (by show s.size ≤ k; omega)
      have hq : dec s.data.toList = some q := by rw [← HQ.out, hd]; simp [dec]
      have HQQ : Hid (dec s.data.toList = some q) := hq
      have hlt' : (s.size : Int) ≤ (k : Int) := by omega
      clear hd HQ hq
      go_wp2
      go_ret2
      exact ⟨⟨_, by rw [HQQ.out]; rfl, by rw [HQQ.out]; exact hown⟩, hbw⟩
/-- The bytes and the code that are answered to a text. -/
def rl (s : ByteArray) : List UInt8 := if s.size ≤ 65536 then (dec s.data.toList).getD [] else []
def rc (s : ByteArray) : Int := if s.size ≤ 65536 then (if (dec s.data.toList).isSome then 0 else 3) else 2
/-- What both readings answer. -/
def Got (s : ByteArray) (base : Nat) (e : Ending) (w' : World) : Prop :=
  ∃ v, e = .returned (.tuple #[v, .int .i64 (rc s)]) ∧ w'.ownsRow base 5 1 v (rl s).length (Lib.byteCells (rl s))

end Go.Proofs.YtadfdfmebdcfgaaGreatDoor.b6
