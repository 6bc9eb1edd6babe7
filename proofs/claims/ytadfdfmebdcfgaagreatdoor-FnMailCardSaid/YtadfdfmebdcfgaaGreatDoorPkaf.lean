/-
  The contract of the specification's base 64 text: it is the text of the bytes.
  Plain facts on the program's tables: what their blocks hold when they read as listed.
  Plain facts on quoted text: what a line's bytes come to, step by step.
  Plain facts on reading quoted text, step by step.
  Plain facts on quoted text: bytes are read back from it.
-/
import Derived.Test.YtadfdfmebdcfgaaGreatDoorRows
import Derived.WalkKit
import Derived.WalkLawsBesides
import Derived.Deep.QuietTactic
import Derived.BigQuiet
import Derived.Test.YtadfdfmebdcfgaaGreatDoorPkae
import Derived.BigRegion
import Derived.Laws.AppendOwn
import Derived.Lib.LaidTab
import Derived.Lib.Space

namespace Go.Proofs.YtadfdfmebdcfgaaGreatDoor.b6
open Go.RowKit
set_option linter.unusedVariables false

/-- The numbers of bytes. -/
def bz (l : List UInt8) : List Int := l.map fun b => (b.toNat : Int)
theorem bz_len (l : List UInt8) : (bz l).length = l.length := List.length_map _
theorem bz_at (l : List UInt8) (j : Nat) : (bz l).getD j 0 = ((l.getD j 0).toNat : Int) := by
  simp only [bz, List.getD_eq_getElem?_getD, List.getElem?_map]
  cases l[j]? <;> simp

/-- The first k bytes from i on, as one number; 0 where none is. -/
def nv (l : List UInt8) (i : Nat) : Nat → Nat
  | 0 => 0
  | k + 1 => nv l i k * 256 + (if i + k < l.length then (l.getD (i + k) 0).toNat else 0)
theorem nv_lt (l : List UInt8) (i k : Nat) : nv l i k < 256 ^ k := by
  induction k with
  | zero => simp [nv]
  | succ k ih =>
    have := (l.getD (i + k) 0).toNat_lt
    simp only [nv, Nat.pow_succ]
    split <;> omega
def lets : ByteArray := ⟨#[65, 66, 67, 68, 69, 70, 71, 72, 73, 74, 75, 76, 77, 78, 79, 80, 81, 82, 83, 84, 85, 86, 87, 88, 89, 90, 97, 98, 99, 100, 101, 102, 103, 104, 105, 106, 107, 108, 109, 110, 111, 112, 113, 114, 115, 116, 117, 118, 119, 120, 121, 122, 48, 49, 50, 51, 52, 53, 54, 55, 56, 57, 43, 47]⟩
theorem lets_at_all : ∀ n : Fin 64, ((lets.data.toList)[n.val]?).map (·.toNat) = some (L n.val).toNat := by decide +kernel

theorem ix_lets (z : Int) (m : Nat) (h : z = m) (hm : m < 64) (wx : World) : (Instr.index 9 (.string { data := #[65, 66, 67, 68, 69, 70, 71, 72, 73, 74, 75, 76, 77, 78, 79, 80, 81, 82, 83, 84, 85, 86, 87, 88, 89, 90, 97, 98, 99, 100, 101, 102, 103, 104, 105, 106, 107, 108, 109, 110, 111, 112, 113, 114, 115, 116, 117, 118, 119, 120, 121, 122, 48, 49, 50, 51, 52, 53, 54, 55, 56, 57, 43, 47] }) (.int .i64 z)).run Tryz.prog wx = .ok (.int .u8 ((L m).toNat : Int)) wx := by
  subst h
  have hs : m < lets.size := hm
  have e := lets_at_all ⟨m, hm⟩
  have hb : lets[(m : Int).toNat]'(by simpa using hs) = lets[m]'hs := by simp
  have hc : (lets.data.toList)[m]? = some (lets[m]'hs) := by
    rw [Array.getElem?_toList]
    exact Array.getElem?_eq_getElem hs
  simp only [hc, Option.map_some, Option.some.injEq] at e
  show (Instr.index 9 (.string lets) (.int .i64 (m : Int))).run Tryz.prog wx = _
  rw [run_index_string wx 9 lets .i64 (m : Int) Tryz.underlying9, dif_pos ⟨by omega, by omega⟩, hb, e]

theorem drop_cons {l : List UInt8} {k : Nat} (h : k < l.length) : l.drop k = l.getD k 0 :: l.drop (k + 1) := by
  rw [List.drop_eq_getElem_cons h]
  simp [List.getD_eq_getElem?_getD, h]
theorem nv3 {l : List UInt8} {k : Nat} (h : k + 2 < l.length) : nv l k 3 = (l.getD k 0).toNat * 65536 + (l.getD (k + 1) 0).toNat * 256 + (l.getD (k + 2) 0).toNat := by
  simp only [nv, Nat.add_zero]
  rw [if_pos (by omega), if_pos (by omega), if_pos (by omega)]
  omega
theorem nv2 {l : List UInt8} {k : Nat} (h : k + 2 = l.length) : nv l k 3 = (l.getD k 0).toNat * 65536 + (l.getD (k + 1) 0).toNat * 256 := by
  simp only [nv, Nat.add_zero]
  rw [if_pos (by omega), if_pos (by omega), if_neg (by omega)]
  omega
theorem nv1 {l : List UInt8} {k : Nat} (h : k + 1 = l.length) : nv l k 3 = (l.getD k 0).toNat * 65536 := by
  simp only [nv, Nat.add_zero]
  rw [if_pos (by omega), if_neg (by omega), if_neg (by omega)]
  omega
theorem step3 {l : List UInt8} {k x : Nat} (h : k + 2 < l.length) (hx : x = nv l k 3) : enc (l.drop k) = [L (x / 262144), L (x / 4096 % 64), L (x / 64 % 64), L (x % 64)] ++ enc (l.drop (k + 3)) := by
  have e := nv3 h
  rw [drop_cons (l := l) (k := k) (by omega), drop_cons (l := l) (k := k + 1) (by omega), drop_cons (l := l) (k := k + 1 + 1) (by omega)]
  have h0 := (l.getD k 0).toNat_lt
  have h1 := (l.getD (k + 1) 0).toNat_lt
  have h2 := (l.getD (k + 2) 0).toNat_lt
  have q0 : x / 262144 = (l.getD k 0).toNat / 4 := by omega
  have q1 : x / 4096 % 64 = (l.getD k 0).toNat % 4 * 16 + (l.getD (k + 1) 0).toNat / 16 := by omega
  have q2 : x / 64 % 64 = (l.getD (k + 1) 0).toNat % 16 * 4 + (l.getD (k + 2) 0).toNat / 64 := by omega
  have q3 : x % 64 = (l.getD (k + 2) 0).toNat % 64 := by omega
  rw [q0, q1, q2, q3]
  rfl
theorem step2 {l : List UInt8} {k x : Nat} (h : k + 2 = l.length) (hx : x = nv l k 3) : enc (l.drop k) = [L (x / 262144), L (x / 4096 % 64), L (x / 64 % 64), 61] ++ enc (l.drop (k + 3)) := by
  have e := nv2 h
  rw [drop_cons (l := l) (k := k) (by omega), drop_cons (l := l) (k := k + 1) (by omega), List.drop_eq_nil_of_le (i := k + 1 + 1) (by omega), List.drop_eq_nil_of_le (i := k + 3) (by omega)]
  have h0 := (l.getD k 0).toNat_lt
  have h1 := (l.getD (k + 1) 0).toNat_lt
  have q0 : x / 262144 = (l.getD k 0).toNat / 4 := by omega
  have q1 : x / 4096 % 64 = (l.getD k 0).toNat % 4 * 16 + (l.getD (k + 1) 0).toNat / 16 := by omega
  have q2 : x / 64 % 64 = (l.getD (k + 1) 0).toNat % 16 * 4 := by omega
  rw [q0, q1, q2]
  rfl
theorem step1 {l : List UInt8} {k x : Nat} (h : k + 1 = l.length) (hx : x = nv l k 3) : enc (l.drop k) = [L (x / 262144), L (x / 4096 % 64), 61, 61] ++ enc (l.drop (k + 3)) := by
  have e := nv1 h
  rw [drop_cons (l := l) (k := k) (by omega), List.drop_eq_nil_of_le (i := k + 1) (by omega), List.drop_eq_nil_of_le (i := k + 3) (by omega)]
  have h0 := (l.getD k 0).toNat_lt
  have q0 : x / 262144 = (l.getD k 0).toNat / 4 := by omega
  have q1 : x / 4096 % 64 = (l.getD k 0).toNat % 4 * 16 := by omega
  rw [q0, q1]
  rfl
/-- A round of the walk: four characters come to what stands there. -/
theorem grow4 {l q four : List UInt8} {k : Nat} (h : q ++ enc (l.drop k) = enc l) (e : enc (l.drop k) = four ++ enc (l.drop (k + 3))) : (q ++ four) ++ enc (l.drop (k + 3)) = enc l := by
  rw [List.append_assoc, ← e, h]

set_option maxHeartbeats 1000000 in
set_option maxRecDepth 100000 in
theorem specEnc_any (v : Value) (l : List UInt8) (w : World) (h : ow.Reads .u8 w v (bz l)) (hn : l.length ≤ 1048576) :
    Calls Tryz.prog 111 #[v] w fun e w' => e = .returned (.string ⟨(enc l).toArray⟩) ∧ Below w.heap.size w w' := by
  obtain ⟨a, cap, rfl, h⟩ := h
  rw [bz_len] at h ⊢
  have H1 : Hid (bz l = [] ∨ ∃ b off, a = some ⟨b, off, none⟩ ∧ ∀ j, j < l.length → w.cell? ⟨b, off + j, none⟩ = some (.int .u8 ((bz l).getD j 0))) := h
  clear h
  obtain ⟨n, hn'⟩ : ∃ n, n = l.length := ⟨_, rfl⟩
  rw [← hn'] at hn H1 ⊢
  have HN : Hid (n = l.length) := hn'
  clear hn'
  go_enter Tryz.func111, Tryz.ntmps111
  go_wp2
  go_loopw [3, 4] (fun o i wr => ∃ (k : Nat) (q : List UInt8), k ≤ n + 2 ∧ i = .int .i64 k ∧ Hid (q ++ enc (l.drop k) = enc l) ∧ wr.ownsRow w.heap.size 5 1 o q.length (Lib.byteCells q) ∧ Below w.heap.size w wr) (fun _ i _ => n + 2 - (intOf i).toNat)
  case atStart => exact ⟨0, [], Nat.zero_le _, rfl, rfl, ow.own_empty _ _, (Below.refl _ _).alloc (Nat.le_refl _) _⟩
  case round =>
    obtain ⟨k, q, hk, rfl, HQ, hown, hbw⟩ := hrel
    by_cases hlt : k < n
    · have hzne : bz l ≠ [] := by
        intro e
        have := congrArg List.length e
        rw [bz_len, ← HN.out] at this
        simp at this
        omega
      rcases H1.out with e | ⟨b, off, rfl, hcells⟩
      · exact absurd e hzne
      clear hzne
      have hblt : b < w.heap.size := World.block_lt_of_cell? w _ (hcells k hlt)
      have HC : Hid (∀ j, j < n → wr.cell? ⟨b, off + j, none⟩ = some (.int .u8 ((l.getD j 0).toNat : Int))) := fun j hj => by
        rw [← bz_at]
        exact (hbw.cell (p := ⟨b, off + j, none⟩) hblt).trans (hcells j hj)
      clear hcells
      go_wp2
      go_loop [5, 6] (fun x j => ∃ m : Nat, m ≤ 3 ∧ j = .int .i64 m ∧ x = .int .i64 (nv l k m : Nat)) (fun _ j => 3 - (intOf j).toNat)
      case atStart => exact ⟨0, Nat.zero_le _, rfl, rfl⟩
      case round =>
        obtain ⟨m, hm, rfl, rfl⟩ := hrel
        have hv := nv_lt l k m
        have hs : nv l k (m + 1) = nv l k m * 256 + (if k + m < l.length then (l.getD (k + m) 0).toNat else 0) := rfl
        rw [← HN.out] at hs
        have HS : Hid (nv l k (m + 1) = nv l k m * 256 + (if k + m < n then (l.getD (k + m) 0).toNat else 0)) := hs
        clear hs
        obtain ⟨x, hx⟩ : ∃ x, x = nv l k m := ⟨_, rfl⟩
        rw [← hx] at hv HS ⊢
        by_cases hm3 : m < 3
        · have hx6 : x < 65536 := by
            have : 256 ^ m ≤ 256 ^ 2 := Nat.pow_le_pow_right (by decide) (by omega)
            omega
          clear hv hx
          have hx6' : (x : Int) ≤ 65535 := by omega
          by_cases hin : k + m < n
          · have c0 := HC.out (k + m) hin
            have hby := (l.getD (k + m) 0).toNat_lt
            have e : nv l k (m + 1) = x * 256 + (l.getD (k + m) 0).toNat := by rw [HS.out, if_pos hin]
            obtain ⟨y, hy⟩ : ∃ y, y = (l.getD (k + m) 0).toNat := ⟨_, rfl⟩
            rw [← hy] at c0 hby e
            clear hy
            have E : Hid (nv l k (m + 1) = x * 256 + y) := e
            clear e HS
            have hy2 : (y : Int) ≤ 255 := by omega
            have hin' : (k : Int) + (m : Int) < (n : Int) := by omega
            go_wp2
            go_round
            case rel => exact ⟨m + 1, by omega, by go_num, by rw [E.out]; go_num⟩
            case measure => simp [intOf]; omega
          · have e : nv l k (m + 1) = x * 256 := by rw [HS.out, if_neg hin]; rfl
            have E : Hid (nv l k (m + 1) = x * 256) := e
            clear e HS
            have hin' : (n : Int) ≤ (k : Int) + (m : Int) := by omega
            go_wp2
            go_round
            case rel => exact ⟨m + 1, by omega, by go_num, by rw [E.out]; go_num⟩
            case measure => simp [intOf]; omega
        · have hm3' : m = 3 := by omega
          subst hm3'
          have hx6 : x < 16777216 := by simpa using hv
          have HX : Hid (x = nv l k 3) := hx
          clear hv hx HS
          have hx6' : (x : Int) ≤ 16777215 := by omega
          clear HC H1
          have g0 := ix_lets ((x : Int) / 262144) (x / 262144) (by omega) (by omega)
          have g1 := ix_lets ((x : Int) / 4096 % 64) (x / 4096 % 64) (by omega) (by omega)
          have g2 := ix_lets ((x : Int) / 64 % 64) (x / 64 % 64) (by omega) (by omega)
          have g3 := ix_lets ((x : Int) % 64) (x % 64) (by omega) (by omega)
          obtain ⟨d0, hd0⟩ : ∃ d, d = L (x / 262144) := ⟨_, rfl⟩
          obtain ⟨d1, hd1⟩ : ∃ d, d = L (x / 4096 % 64) := ⟨_, rfl⟩
          obtain ⟨d2, hd2⟩ : ∃ d, d = L (x / 64 % 64) := ⟨_, rfl⟩
          obtain ⟨d3, hd3⟩ : ∃ d, d = L (x % 64) := ⟨_, rfl⟩
          rw [← hd0] at g0
          rw [← hd1] at g1
          rw [← hd2] at g2
          rw [← hd3] at g3
          have HD : Hid (d0 = L (x / 262144) ∧ d1 = L (x / 4096 % 64) ∧ d2 = L (x / 64 % 64) ∧ d3 = L (x % 64)) := ⟨hd0, hd1, hd2, hd3⟩
          clear hd0 hd1 hd2 hd3
          go_wp2
          go_region
          clear g0 g1 g2 g3
          have hlq : q.length ≤ 2097152 := by
            have e1 := congrArg List.length HQ.out
            rw [List.length_append, enc_length l, ← HN.out] at e1
            omega
          have HLQ : Hid (q.length ≤ 2097152) := hlq
          clear hlq
          have hg1 : w.heap.size ≤ wr.heap.size := hbw.size
          obtain ⟨w1, hw1⟩ : ∃ W, W = (wr.alloc (.cells #[Value.int .u8 (d0.toNat : Int), Value.int .u8 (d1.toNat : Int), Value.int .u8 (d2.toNat : Int), Value.int .u8 (d3.toNat : Int)] 5)).drew := ⟨_, rfl⟩
          rw [← hw1]
          obtain ⟨own1, bel1, blk1, ne1, sz1⟩ := ow.built hw1 hown hbw hg1
          clear hw1 hown hbw
          obtain ⟨g, hg⟩ : ∃ g, g = wr.heap.size := ⟨_, rfl⟩
          rw [← hg] at blk1 ne1 sz1 hg1 ⊢
          clear hg
          obtain ⟨i0, hi, hz0, hz1, hz2⟩ := info_parts bl.info1
          by_cases h3 : k + 2 < n
          · have h3' : (k : Int) + 2 < (n : Int) := by omega
            have h3d : decide ((n : Int) ≤ (k : Int) + 2) = false := decide_eq_false (by omega)
            have h4d : decide ((n : Int) ≤ (k : Int) + 1) = false := decide_eq_false (by omega)
            have HG : Hid ((q ++ [d0, d1, d2, d3]) ++ enc (l.drop (k + 3)) = enc l) := by
              obtain ⟨e0, e1, e2, e3⟩ := HD.out
              rw [e0, e1, e2, e3]
              exact grow4 HQ.out (step3 (by rw [← HN.out]; exact h3) HX.out)
            clear HD HX HQ
            have HNW : Hid (∀ (j : Nat) (u : Value), (Lib.byteCells [d0, d1, d2, d3])[j]? = some u → World.cell? _ ((⟨g, 0, none⟩ : Addr).add j) = some u) := ow.news_blk blk1 (fun j u hj => by simpa [Lib.byteCells] using hj)
            go_wp2_with (at_builtin; go_loud (refine wpList_append_own _ rfl _ _ 22 rfl w.heap.size 5 i0 (.int .u8 0) 1 1 Tryz.underlying22 hi hz0 hz1 hz2 rfl (by decide) _ _ _ rfl own1 ⟨g, 0, none⟩ 4 4 (Lib.byteCells [d0, d1, d2, d3]) rfl rfl HNW.out (ow.one_bytes _) (by have := HLQ.out; unfold maxLen; omega) (by have := HLQ.out; omega) (by have := hg1; have := sz1; omega) ?_); intro v' w2 hown' hgrow _)
            have hbz := bel1.grown hgrow (by have := hg1; have := sz1; omega) (ow.own_lt own1)
            obtain ⟨ao, n', cap', rfl⟩ : ∃ ao n' cap, v' = .slice ao n' cap := by
              rcases hown'.2 with ⟨hv, _⟩ | ⟨g, cap, cur, hv, _⟩
              · exact ⟨_, _, _, hv⟩
              · exact ⟨_, _, _, hv⟩
            rw [← Lib.byteCells_append] at hown'
            go_wp2
            go_roundw
            case rel => exact ⟨k + 3, q ++ [d0, d1, d2, d3], by omega, by go_num, HG.out, by rw [List.length_append]; exact hown', hbz⟩
            case measure => simp [intOf]; omega
          by_cases h4 : k + 2 = n
          · have h3d : decide ((n : Int) ≤ (k : Int) + 2) = true := decide_eq_true (by omega)
            have h4d : decide ((n : Int) ≤ (k : Int) + 1) = false := decide_eq_false (by omega)
            have HG : Hid ((q ++ [d0, d1, d2, 61]) ++ enc (l.drop (k + 3)) = enc l) := by
              obtain ⟨e0, e1, e2, e3⟩ := HD.out
              rw [e0, e1, e2]
              exact grow4 HQ.out (step2 (by rw [← HN.out]; exact h4) HX.out)
            clear HD HX HQ
            have c3 := ow.cell_blk blk1 3
            have f3 := ow.frozen_blk blk1 3
            obtain ⟨own2, bel2, blk2, sz2⟩ := ow.wrote 3 (.int .u8 61) own1 bel1 hg1 blk1 ne1
            rw [sz1] at sz2
            clear own1 bel1 blk1
            have HNW : Hid (∀ (j : Nat) (u : Value), (Lib.byteCells [d0, d1, d2, 61])[j]? = some u → World.cell? _ ((⟨g, 0, none⟩ : Addr).add j) = some u) := ow.news_blk blk2 (fun j u hj => by simpa [Lib.byteCells] using hj)
            go_wp2_with (at_builtin; go_loud (refine wpList_append_own _ rfl _ _ 22 rfl w.heap.size 5 i0 (.int .u8 0) 1 1 Tryz.underlying22 hi hz0 hz1 hz2 rfl (by decide) _ _ _ rfl own2 ⟨g, 0, none⟩ 4 4 (Lib.byteCells [d0, d1, d2, 61]) rfl rfl HNW.out (ow.one_bytes _) (by have := HLQ.out; unfold maxLen; omega) (by have := HLQ.out; omega) (by have := hg1; have := sz2; omega) ?_); intro v' w2 hown' hgrow _)
            have hbz := bel2.grown hgrow (by have := hg1; have := sz2; omega) (ow.own_lt own2)
            obtain ⟨ao, n', cap', rfl⟩ : ∃ ao n' cap, v' = .slice ao n' cap := by
              rcases hown'.2 with ⟨hv, _⟩ | ⟨g, cap, cur, hv, _⟩
              · exact ⟨_, _, _, hv⟩
              · exact ⟨_, _, _, hv⟩
            rw [← Lib.byteCells_append] at hown'
            go_wp2
            go_roundw
            case rel => exact ⟨k + 3, q ++ [d0, d1, d2, 61], by omega, by go_num, HG.out, by rw [List.length_append]; exact hown', hbz⟩
            case measure => simp [intOf]; omega
          · have h5 : k + 1 = n := by omega
            have h3d : decide ((n : Int) ≤ (k : Int) + 2) = true := decide_eq_true (by omega)
            have h4d : decide ((n : Int) ≤ (k : Int) + 1) = true := decide_eq_true (by omega)
            have HG : Hid ((q ++ [d0, d1, 61, 61]) ++ enc (l.drop (k + 3)) = enc l) := by
              obtain ⟨e0, e1, e2, e3⟩ := HD.out
              rw [e0, e1]
              exact grow4 HQ.out (step1 (by rw [← HN.out]; exact h5) HX.out)
            clear HD HX HQ
            have c3 := ow.cell_blk blk1 3
            have f3 := ow.frozen_blk blk1 3
            obtain ⟨own2, bel2, blk2, sz2⟩ := ow.wrote 3 (.int .u8 61) own1 bel1 hg1 blk1 ne1
            have c2 := ow.cell_blk blk2 2
            have f2 := ow.frozen_blk blk2 2
            obtain ⟨own3, bel3, blk3, sz3⟩ := ow.wrote 2 (.int .u8 61) own2 bel2 hg1 blk2 ne1
            rw [sz2, sz1] at sz3
            clear own1 bel1 blk1 own2 bel2 blk2 sz2
            have HNW : Hid (∀ (j : Nat) (u : Value), (Lib.byteCells [d0, d1, 61, 61])[j]? = some u → World.cell? _ ((⟨g, 0, none⟩ : Addr).add j) = some u) := ow.news_blk blk3 (fun j u hj => by simpa [Lib.byteCells] using hj)
            go_wp2_with (at_builtin; go_loud (refine wpList_append_own _ rfl _ _ 22 rfl w.heap.size 5 i0 (.int .u8 0) 1 1 Tryz.underlying22 hi hz0 hz1 hz2 rfl (by decide) _ _ _ rfl own3 ⟨g, 0, none⟩ 4 4 (Lib.byteCells [d0, d1, 61, 61]) rfl rfl HNW.out (ow.one_bytes _) (by have := HLQ.out; unfold maxLen; omega) (by have := HLQ.out; omega) (by have := hg1; have := sz3; omega) ?_); intro v' w2 hown' hgrow _)
            have hbz := bel3.grown hgrow (by have := hg1; have := sz3; omega) (ow.own_lt own3)
            obtain ⟨ao, n', cap', rfl⟩ : ∃ ao n' cap, v' = .slice ao n' cap := by
              rcases hown'.2 with ⟨hv, _⟩ | ⟨g, cap, cur, hv, _⟩
              · exact ⟨_, _, _, hv⟩
              · exact ⟨_, _, _, hv⟩
            rw [← Lib.byteCells_append] at hown'
            go_wp2
            go_roundw
            case rel => exact ⟨k + 3, q ++ [d0, d1, 61, 61], by omega, by go_num, HG.out, by rw [List.length_append]; exact hown', hbz⟩
            case measure => simp [intOf]; omega
    · have hd : l.drop k = [] := List.drop_eq_nil_of_le (by rw [← HN.out]; omega)
      have hq : q = enc l := by have := HQ.out; rw [hd] at this; simpa [enc] using this
      subst hq
      have hcv := fun h1 h2 h3 => ow.conv_bytes (P := Tryz.prog) (src := 22) (dst := 9) (enc l) hown h1 h2 h3
      have hcv2 := hcv Tryz.underlying22 Tryz.underlying5 Tryz.underlying9
      clear hcv hd HQ H1 hown
      go_wp2
      go_ret
      exact ⟨rfl, hbw⟩
end Go.Proofs.YtadfdfmebdcfgaaGreatDoor.b6

namespace Go.Proofs.YtadfdfmebdcfgaaGreatDoor.tb
open Go.RowKit
set_option linter.unusedVariables false

def digs : List UInt8 := [48, 49, 50, 51, 52, 53, 54, 55, 56, 57, 65, 66, 67, 68, 69, 70]
/-- A block holds these numbers. -/
def Holds (k : IntKind) (g : Nat) (zs : List Int) (w : World) : Prop := ∃ t fr, w.heap[g]? = some (.cells (zs.map (Value.int k)).toArray t fr)
def TC (w : World) : Prop := Holds .u8 9 (b6.bz b6.alpha) w
def TV (w : World) : Prop := Holds .i8 10 b6.vals w
def TD (w : World) : Prop := Holds .u8 2 (b6.bz digs) w
def TA (w : World) : Prop := Holds .u8 3 Lib.asciiSpaceTab w

theorem cell {k : IntKind} {g : Nat} {zs : List Int} {w : World} (h : Holds k g zs w) (j : Nat) (hj : j < zs.length) : w.cell? ⟨g, j, none⟩ = some (.int k (zs.getD j 0)) := by
  obtain ⟨t, fr, h⟩ := h
  rw [cell_of_row w g j _ t fr h]
  simp [List.getD_eq_getElem?_getD, hj]
theorem keep {k : IntKind} {g : Nat} {zs : List Int} {w w' : World} {B : Nat} (h : Holds k g zs w) (hb : Below B w w') (hg : g < B) : Holds k g zs w' := by
  obtain ⟨t, fr, h⟩ := h
  exact ⟨t, fr, (hb.block g hg).trans h⟩
theorem lt {k : IntKind} {g : Nat} {zs : List Int} {w : World} (h : Holds k g zs w) : g < w.heap.size := by
  obtain ⟨t, fr, h⟩ := h
  exact (Array.getElem?_eq_some_iff.1 h).1
theorem keep' {k : IntKind} {g : Nat} {zs : List Int} {w w' : World} (h : Holds k g zs w) (hb : Below w.heap.size w w') : Holds k g zs w' := keep h hb (lt h)

theorem of_laid {P : Program} {W : World} {name : String} {k : IntKind} {zs : List Int} {g : Nat} {t e : TypeId} {n : Nat}
    (hg : P.globalNamed name = some g) (hty : (P.globals[g]?).map (·.type) = some t) (ht : P.underlying t = some (.array n e)) (he : P.underlying e = some (.int k)) (hce : P.cellsOf e = 1) (hct : P.cellsOf t = n) :
    ∀ {laid : List (String × DataW Unit)} {ps : List MemPlace}, (name, Lib.tabData k zs) ∈ laid → DataW.LaidVars P W laid ps → Holds k g zs W := by
  intro laid
  induction laid with
  | nil => intro ps h; cases h
  | cons x xs ih =>
    intro ps hm hl
    obtain ⟨g', t', cs, fuel, p, q, hg', ht', hvar, hd, hr, _⟩ := hl
    rcases List.mem_cons.1 hm with e1 | e1
    · subst e1
      obtain rfl := Option.some.inj (hg.symm.trans hg')
      obtain rfl := Option.some.inj (hty.symm.trans ht')
      have hc := Lib.cells_of_tab ht he hce hct hd
      simp only [World.var?, hg, Option.bind_some] at hvar
      split at hvar
      · rename_i c t fr hh
        obtain rfl := Option.some.inj hvar
        refine ⟨t, fr, ?_⟩
        rw [hh]
        congr 2
        rw [← Array.toArray_toList (xs := c), hc]
      · cases hvar
    · exact ih e1 hr

def nmC : String := ((Rows.fnMailRow.laid.map (·.1)).getD 6 "")
theorem gC : Tryz.prog.globalNamed nmC = some 9 := by kernel_rfl
theorem yC : (Tryz.prog.globals[9]?).map (·.type) = some 196 := by kernel_rfl
theorem nC : Tryz.prog.cellsOf 196 = 64 := by kernel_rfl
theorem eC : Tryz.prog.cellsOf 5 = 1 := by kernel_rfl
set_option maxRecDepth 100000 in
theorem lC : (Rows.laid_loop_example_g00268_impl_base64Chars : DataW Unit) = Lib.tabData .u8 (b6.bz b6.alpha) := rfl
theorem tc_of {W : World} {laid : List (String × DataW Unit)} {ps : List MemPlace} (hm : (nmC, Rows.laid_loop_example_g00268_impl_base64Chars) ∈ laid) (h : DataW.LaidVars Tryz.prog W laid ps) : TC W :=
  of_laid gC yC Tryz.underlying196 Tryz.underlying5 eC nC (lC ▸ hm) h
def nmV : String := ((Rows.fnMailRow.laid.map (·.1)).getD 7 "")
theorem gV : Tryz.prog.globalNamed nmV = some 10 := by kernel_rfl
theorem yV : (Tryz.prog.globals[10]?).map (·.type) = some 201 := by kernel_rfl
theorem nV : Tryz.prog.cellsOf 201 = 128 := by kernel_rfl
theorem eV : Tryz.prog.cellsOf 200 = 1 := by kernel_rfl
set_option maxRecDepth 100000 in
theorem lV : (Rows.laid_loop_example_g00268_impl_base64Values : DataW Unit) = Lib.tabData .i8 (b6.vals) := rfl
theorem tv_of {W : World} {laid : List (String × DataW Unit)} {ps : List MemPlace} (hm : (nmV, Rows.laid_loop_example_g00268_impl_base64Values) ∈ laid) (h : DataW.LaidVars Tryz.prog W laid ps) : TV W :=
  of_laid gV yV Tryz.underlying201 Tryz.underlying200 eV nV (lV ▸ hm) h
def nmD : String := ((Rows.fnMailRow.laid.map (·.1)).getD 8 "")
theorem gD : Tryz.prog.globalNamed nmD = some 2 := by kernel_rfl
theorem yD : (Tryz.prog.globals[2]?).map (·.type) = some 145 := by kernel_rfl
theorem nD : Tryz.prog.cellsOf 145 = 16 := by kernel_rfl
theorem eD : Tryz.prog.cellsOf 5 = 1 := by kernel_rfl
set_option maxRecDepth 100000 in
theorem lD : (Rows.laid_loop_example_g00268_impl_digitChars : DataW Unit) = Lib.tabData .u8 (b6.bz digs) := rfl
theorem td_of {W : World} {laid : List (String × DataW Unit)} {ps : List MemPlace} (hm : (nmD, Rows.laid_loop_example_g00268_impl_digitChars) ∈ laid) (h : DataW.LaidVars Tryz.prog W laid ps) : TD W :=
  of_laid gD yD Tryz.underlying145 Tryz.underlying5 eD nD (lD ▸ hm) h
def nmA : String := ((Rows.fnMailRow.laid.map (·.1)).getD 5 "")
theorem gA : Tryz.prog.globalNamed nmA = some 3 := by kernel_rfl
theorem yA : (Tryz.prog.globals[3]?).map (·.type) = some 150 := by kernel_rfl
theorem nA : Tryz.prog.cellsOf 150 = 256 := by kernel_rfl
theorem eA : Tryz.prog.cellsOf 5 = 1 := by kernel_rfl
set_option maxRecDepth 100000 in
theorem lA : (Rows.laid_strings_asciiSpace : DataW Unit) = Lib.tabData .u8 (Lib.asciiSpaceTab) := rfl
theorem ta_of {W : World} {laid : List (String × DataW Unit)} {ps : List MemPlace} (hm : (nmA, Rows.laid_strings_asciiSpace) ∈ laid) (h : DataW.LaidVars Tryz.prog W laid ps) : TA W :=
  of_laid gA yA Tryz.underlying150 Tryz.underlying5 eA nA (lA ▸ hm) h
theorem tc_cell {w : World} (h : TC w) (j : Nat) (hj : j < 64) : w.cell? ⟨9, j, none⟩ = some (.int .u8 ((b6.L j).toNat : Int)) := by
  rw [cell h j hj, b6.bz_at]
  rfl
theorem tv_cell {w : World} (h : TV w) (c : UInt8) (hj : c.toNat < 128) : w.cell? ⟨10, c.toNat, none⟩ = some (.int .i8 (b6.V c)) := by
  rw [cell h c.toNat hj]
  unfold b6.V
  rw [List.getD_eq_getElem?_getD, List.getD_eq_getElem?_getD, List.getElem?_eq_getElem (show c.toNat < b6.vals.length from hj)]
  rfl
theorem td_cell {w : World} (h : TD w) (j : Nat) (hj : j < 16) : w.cell? ⟨2, j, none⟩ = some (.int .u8 ((digs.getD j 0).toNat : Int)) := by
  rw [cell h j hj, b6.bz_at]
theorem ta_is {w : World} (h : TA w) : Lib.TabIs Tryz.prog w nmA .u8 Lib.asciiSpaceTab := by
  obtain ⟨t, fr, h⟩ := h
  unfold Lib.TabIs World.var?
  rw [gA]
  simp only [Option.bind_some, h]
end Go.Proofs.YtadfdfmebdcfgaaGreatDoor.tb

namespace Go.Proofs.YtadfdfmebdcfgaaGreatDoor.qu
set_option linter.unusedVariables false

/-- The end of a line stands here. -/
def crlf (l : List UInt8) : Bool := l.head? == some 13 && l.tail.head? == some 10
/-- The byte ahead of this is the last one of its line. -/
def lastb (r : List UInt8) : Bool := r.isEmpty || crlf r
def hx (n : Nat) : UInt8 := tb.digs.getD n 0
def plain (c : UInt8) (la : Bool) : Bool := (decide (33 ≤ c.toNat) && decide (c.toNat ≤ 126) && c != 61) || (c == 32 && !la)
def form (c : UInt8) (la : Bool) : List UInt8 := if plain c la then [c] else [61, hx (c.toNat / 16), hx (c.toNat % 16)]
def lim (la : Bool) : Nat := if la then 76 else 75
/-- The quoted text of bytes, behind w characters of a line; of an end of line the second byte is passed by. -/
def qtS : Bool → Nat → List UInt8 → List UInt8
  | _, _, [] => []
  | true, _, _ :: r => qtS false 0 r
  | false, w, c :: r => if crlf (c :: r) then 13 :: 10 :: qtS true 0 r
    else if lim (lastb r) < w + (form c (lastb r)).length then 61 :: 13 :: 10 :: (form c (lastb r) ++ qtS false (form c (lastb r)).length r)
    else form c (lastb r) ++ qtS false (w + (form c (lastb r)).length) r
def qt (w : Nat) (l : List UInt8) : List UInt8 := qtS false w l

theorem qt_nil (w : Nat) : qt w [] = [] := by rw [qt, qtS]
theorem qt_crlf (w : Nat) (r : List UInt8) : qt w (13 :: 10 :: r) = 13 :: 10 :: qt 0 r := by
  rw [qt, qtS, if_pos (by simp [crlf]), qtS, qt]
theorem qt_soft {w : Nat} {c : UInt8} {r : List UInt8} (h : crlf (c :: r) = false) (h2 : lim (lastb r) < w + (form c (lastb r)).length) : qt w (c :: r) = 61 :: 13 :: 10 :: (form c (lastb r) ++ qt (form c (lastb r)).length r) := by
  rw [qt, qtS, if_neg (by rw [h]; decide), if_pos h2, qt]
theorem qt_on {w : Nat} {c : UInt8} {r : List UInt8} (h : crlf (c :: r) = false) (h2 : ¬ lim (lastb r) < w + (form c (lastb r)).length) : qt w (c :: r) = form c (lastb r) ++ qt (w + (form c (lastb r)).length) r := by
  rw [qt, qtS, if_neg (by rw [h]; decide), if_neg h2, qt]
theorem form_len (c : UInt8) (la : Bool) : 1 ≤ (form c la).length ∧ (form c la).length ≤ 3 := by
  unfold form
  split <;> simp
theorem crlf_iff {l : List UInt8} : crlf l = true ↔ ∃ r, l = 13 :: 10 :: r := by
  match l with
  | [] => simp [crlf]
  | [a] => simp [crlf]
  | a :: b :: r => simp [crlf]
theorem crlf_at (l : List UInt8) (i : Nat) : crlf (l.drop i) = (l.getD i 0 == 13 && l.getD (i + 1) 0 == 10) := by
  by_cases h : i < l.length
  · rw [b6.drop_cons h]
    by_cases h2 : i + 1 < l.length
    · rw [b6.drop_cons h2]
      simp [crlf]
    · rw [List.drop_eq_nil_of_le (i := i + 1) (by omega)]
      have e : l.getD (i + 1) 0 = 0 := by rw [List.getD_eq_getElem?_getD, List.getElem?_eq_none (by omega)]; rfl
      rw [e]
      simp [crlf]
  · rw [List.drop_eq_nil_of_le (by omega)]
    have e : l.getD i 0 = 0 := by rw [List.getD_eq_getElem?_getD, List.getElem?_eq_none (by omega)]; rfl
    rw [e]
    simp [crlf]
theorem last_at (l : List UInt8) (i : Nat) : lastb (l.drop i) = (decide (l.length ≤ i) || (l.getD i 0 == 13 && l.getD (i + 1) 0 == 10)) := by
  unfold lastb
  rw [crlf_at]
  congr 1
  by_cases h : l.length ≤ i
  · rw [List.drop_eq_nil_of_le h]
    simp [h]
  · rw [b6.drop_cons (by omega)]
    simp [h]
theorem at_crlf {l : List UInt8} {i w : Nat} (h : crlf (l.drop i) = true) : qt w (l.drop i) = [13, 10] ++ qt 0 (l.drop (i + 2)) := by
  obtain ⟨r, hr⟩ := crlf_iff.1 h
  have e : l.drop (i + 2) = r := by rw [← List.drop_drop, hr]; rfl
  rw [hr, qt_crlf, e]
  rfl
theorem at_soft {l : List UInt8} {i w : Nat} {la : Bool} {f : List UInt8} (hi : i < l.length) (h : crlf (l.drop i) = false) (hla : la = lastb (l.drop (i + 1))) (hf : f = form (l.getD i 0) la) (h2 : lim la < w + f.length) : qt w (l.drop i) = ([61, 13, 10] ++ f) ++ qt f.length (l.drop (i + 1)) := by
  subst hla hf
  rw [b6.drop_cons hi] at h ⊢
  rw [qt_soft h h2]
  simp
theorem at_on {l : List UInt8} {i w : Nat} {la : Bool} {f : List UInt8} (hi : i < l.length) (h : crlf (l.drop i) = false) (hla : la = lastb (l.drop (i + 1))) (hf : f = form (l.getD i 0) la) (h2 : ¬ lim la < w + f.length) : qt w (l.drop i) = f ++ qt (w + f.length) (l.drop (i + 1)) := by
  subst hla hf
  rw [b6.drop_cons hi] at h ⊢
  rw [qt_on h h2]
theorem grow {q p : List UInt8} {l : List UInt8} {i j w w' : Nat} (h : q ++ qt w (l.drop i) = qt 0 l) (e : qt w (l.drop i) = p ++ qt w' (l.drop j)) : (q ++ p) ++ qt w' (l.drop j) = qt 0 l := by
  rw [List.append_assoc, ← e, h]
theorem qt_len_n : ∀ (n : Nat) (w : Nat) (l : List UInt8), l.length ≤ n → (qt w l).length ≤ 6 * l.length := by
  intro n
  induction n with
  | zero =>
    intro w l h
    obtain rfl : l = [] := List.eq_nil_of_length_eq_zero (by omega)
    rw [qt_nil]
    simp
  | succ n ih =>
    intro w l h
    match l, h with
    | [], _ => rw [qt_nil]; simp
    | c :: r, h =>
      have hr : r.length ≤ n := by simp at h; omega
      by_cases hc : crlf (c :: r) = true
      · obtain ⟨r', hr'⟩ := crlf_iff.1 hc
        obtain ⟨rfl, rfl⟩ := List.cons.inj hr'
        rw [qt_crlf]
        have := ih 0 r' (by simp at hr; omega)
        simp
        omega
      · have hcf : crlf (c :: r) = false := by simpa using hc
        have hf := form_len c (lastb r)
        by_cases h2 : lim (lastb r) < w + (form c (lastb r)).length
        · rw [qt_soft hcf h2]
          have := ih (form c (lastb r)).length r hr
          simp
          omega
        · rw [qt_on hcf h2]
          have := ih (w + (form c (lastb r)).length) r hr
          simp
          omega
theorem qt_len (w : Nat) (l : List UInt8) : (qt w l).length ≤ 6 * l.length := qt_len_n l.length w l (Nat.le_refl _)
end Go.Proofs.YtadfdfmebdcfgaaGreatDoor.qu

namespace Go.Proofs.YtadfdfmebdcfgaaGreatDoor.qu
set_option linter.unusedVariables false

/-- The value of a digit, -1 of what is none. -/
def hv (c : UInt8) : Int := if 48 ≤ c.toNat ∧ c.toNat ≤ 57 then (c.toNat : Int) - 48 else if 65 ≤ c.toNat ∧ c.toNat ≤ 70 then (c.toNat : Int) - 55 else -1
theorem hv_cases (c : UInt8) : hv c = -1 ∨ (0 ≤ hv c ∧ hv c < 16) := by
  unfold hv
  split
  · right; omega
  · split
    · right; omega
    · left; rfl
def soft (l : List UInt8) : Bool := l.head? == some 61 && crlf l.tail
/-- What the beginning stands for, and how many bytes say it. -/
def fq (l : List UInt8) : Option (List UInt8 × Nat) :=
  if soft l then some ([], 3)
  else if crlf l then some ([13, 10], 2)
  else if l.getD 0 0 = 61 then (if l.length < 3 ∨ hv (l.getD 1 0) < 0 ∨ hv (l.getD 2 0) < 0 then none else some ([UInt8.ofNat ((hv (l.getD 1 0)).toNat * 16 + (hv (l.getD 2 0)).toNat)], 3))
  else if 32 ≤ (l.getD 0 0).toNat ∧ (l.getD 0 0).toNat ≤ 126 then some ([l.getD 0 0], 1)
  else none
/-- The bytes of a quoted text; the number bounds the steps. -/
def uqn : Nat → List UInt8 → Option (List UInt8)
  | _, [] => some []
  | 0, _ => none
  | n + 1, l => (fq l).bind fun p => (uqn n (l.drop p.2)).map (p.1 ++ ·)
def uq (l : List UInt8) : Option (List UInt8) := uqn l.length l

theorem soft_iff {l : List UInt8} : soft l = true ↔ ∃ r, l = 61 :: 13 :: 10 :: r := by
  match l with
  | [] => simp [soft]
  | a :: t =>
    unfold soft
    rw [Bool.and_eq_true]
    simp only [List.tail_cons, List.head?_cons, beq_iff_eq, Option.some.injEq, crlf_iff]
    constructor
    · rintro ⟨rfl, r, rfl⟩
      exact ⟨r, rfl⟩
    · rintro ⟨r, hr⟩
      obtain ⟨rfl, rfl⟩ := List.cons.inj hr
      exact ⟨rfl, r, rfl⟩
theorem fq_size {l : List UInt8} {p : List UInt8} {n : Nat} (h : fq l = some (p, n)) (hl : l ≠ []) : 1 ≤ n ∧ n ≤ l.length ∧ p.length ≤ n := by
  have h1 : 1 ≤ l.length := by
    cases l with
    | nil => exact absurd rfl hl
    | cons => simp
  unfold fq at h
  split at h
  · rename_i hs
    obtain ⟨r, rfl⟩ := soft_iff.1 hs
    simp only [Option.some.injEq, Prod.mk.injEq] at h
    obtain ⟨rfl, rfl⟩ := h
    simp
  · split at h
    · rename_i hs
      obtain ⟨r, rfl⟩ := crlf_iff.1 hs
      simp only [Option.some.injEq, Prod.mk.injEq] at h
      obtain ⟨rfl, rfl⟩ := h
      simp
    · split at h
      · split at h
        · cases h
        · rename_i h3
          simp only [Option.some.injEq, Prod.mk.injEq] at h
          obtain ⟨rfl, rfl⟩ := h
          simp
          omega
      · split at h
        · simp only [Option.some.injEq, Prod.mk.injEq] at h
          obtain ⟨rfl, rfl⟩ := h
          simp
          omega
        · cases h
theorem uqn_more : ∀ (m n : Nat) (l : List UInt8), l.length ≤ m → l.length ≤ n → uqn m l = uqn n l := by
  intro m
  induction m with
  | zero =>
    intro n l h1 h2
    obtain rfl : l = [] := List.eq_nil_of_length_eq_zero (by omega)
    cases n <;> rfl
  | succ m ih =>
    intro n l h1 h2
    cases l with
    | nil => cases n <;> rfl
    | cons a t =>
      cases n with
      | zero => simp at h2
      | succ n =>
        show ((fq (a :: t)).bind fun p => (uqn m ((a :: t).drop p.2)).map (p.1 ++ ·)) = ((fq (a :: t)).bind fun p => (uqn n ((a :: t).drop p.2)).map (p.1 ++ ·))
        cases hf : fq (a :: t) with
        | none => rfl
        | some p =>
          obtain ⟨p, k⟩ := p
          obtain ⟨k1, k2, _⟩ := fq_size hf (by simp)
          simp only [Option.bind_some]
          rw [ih n _ (by rw [List.length_drop]; omega) (by rw [List.length_drop]; omega)]
theorem uq_nil : uq [] = some [] := rfl
theorem uq_none {l : List UInt8} (hl : l ≠ []) (h : fq l = none) : uq l = none := by
  unfold uq
  cases l with
  | nil => exact absurd rfl hl
  | cons a t =>
    show ((fq (a :: t)).bind fun p => (uqn t.length ((a :: t).drop p.2)).map (p.1 ++ ·)) = none
    rw [h]
    rfl
theorem uq_some {l p : List UInt8} {n : Nat} (hl : l ≠ []) (h : fq l = some (p, n)) : uq l = (uq (l.drop n)).map (p ++ ·) := by
  obtain ⟨k1, k2, _⟩ := fq_size h hl
  unfold uq
  cases l with
  | nil => exact absurd rfl hl
  | cons a t =>
    show ((fq (a :: t)).bind fun p => (uqn t.length ((a :: t).drop p.2)).map (p.1 ++ ·)) = _
    rw [h]
    simp only [Option.bind_some]
    rw [uqn_more t.length ((a :: t).drop n).length _ (by rw [List.length_drop]; simp at k2 ⊢; omega) (Nat.le_refl _)]
theorem uq_len_n : ∀ (m : Nat) (l o : List UInt8), l.length ≤ m → uq l = some o → o.length ≤ l.length := by
  intro m
  induction m with
  | zero =>
    intro l o h hu
    obtain rfl : l = [] := List.eq_nil_of_length_eq_zero (by omega)
    rw [uq_nil] at hu
    cases hu
    exact Nat.le_refl _
  | succ m ih =>
    intro l o h hu
    by_cases hl : l = []
    · subst hl
      rw [uq_nil] at hu
      cases hu
      exact Nat.le_refl _
    cases hf : fq l with
    | none => rw [uq_none hl hf] at hu; cases hu
    | some p =>
      obtain ⟨p, n⟩ := p
      obtain ⟨k1, k2, k3⟩ := fq_size hf hl
      rw [uq_some hl hf] at hu
      obtain ⟨x, hx, rfl⟩ := Option.map_eq_some_iff.1 hu
      have := ih (l.drop n) x (by rw [List.length_drop]; omega) hx
      rw [List.length_drop] at this
      rw [List.length_append]
      omega
theorem uq_len {l o : List UInt8} (h : uq l = some o) : o.length ≤ l.length := uq_len_n l.length l o (Nat.le_refl _) h
theorem u_more {q p : List UInt8} {l : List UInt8} {n : Nat} {r : Option (List UInt8)} (hl : l ≠ []) (h : (uq l).map (q ++ ·) = r) (e : fq l = some (p, n)) : (uq (l.drop n)).map ((q ++ p) ++ ·) = r := by
  rw [← h, uq_some hl e, Option.map_map]
  congr 1
  funext x
  simp
theorem u_fall {q : List UInt8} {l : List UInt8} {r : Option (List UInt8)} (hl : l ≠ []) (h : (uq l).map (q ++ ·) = r) (e : fq l = none) : r = none := by
  rw [← h, uq_none hl e]
  rfl
/-- The bytes and the code that are answered to a text. -/
def ul (s : ByteArray) : List UInt8 := if s.size ≤ 65536 then (uq s.data.toList).getD [] else []
def uc (s : ByteArray) : Int := if s.size ≤ 65536 then (if (uq s.data.toList).isSome then 0 else 3) else 2
theorem ul_none {s : ByteArray} (hl : s.size ≤ 65536) (h : uq s.data.toList = none) : ul s = [] ∧ uc s = 3 := by
  unfold ul uc
  rw [if_pos hl, if_pos hl, h]
  exact ⟨rfl, rfl⟩
theorem ul_some {s : ByteArray} {o : List UInt8} (hl : s.size ≤ 65536) (h : uq s.data.toList = some o) : ul s = o ∧ uc s = 0 := by
  unfold ul uc
  rw [if_pos hl, if_pos hl, h]
  exact ⟨rfl, rfl⟩
theorem ul_len (s : ByteArray) : (ul s).length ≤ 65536 := by
  unfold ul
  split
  · rename_i h
    cases hd : uq s.data.toList with
    | none => simp
    | some o =>
      have e := uq_len hd
      have : s.data.toList.length = s.size := rfl
      simp only [Option.getD_some]
      omega
  · simp
end Go.Proofs.YtadfdfmebdcfgaaGreatDoor.qu

namespace Go.Proofs.YtadfdfmebdcfgaaGreatDoor.qu
set_option linter.unusedVariables false

theorem hv_hx' : ∀ k : Fin 16, hv (hx k.val) = (k.val : Int) ∧ hx k.val ≠ 13 ∧ hx k.val ≠ 10 ∧ 48 ≤ (hx k.val).toNat ∧ (hx k.val).toNat ≤ 70 := by decide +kernel
theorem fq_soft (r : List UInt8) : fq (61 :: 13 :: 10 :: r) = some ([], 3) := by
  unfold fq
  rw [if_pos (soft_iff.2 ⟨r, rfl⟩)]
theorem fq_crlf (r : List UInt8) : fq (13 :: 10 :: r) = some ([13, 10], 2) := by
  unfold fq
  rw [if_neg (by rw [soft_iff]; rintro ⟨t, ht⟩; have := (List.cons.inj ht).1; exact absurd this (by decide)), if_pos (crlf_iff.2 ⟨r, rfl⟩)]
theorem fq_plain {c : UInt8} {la : Bool} (h : plain c la = true) (r : List UInt8) : fq (c :: r) = some ([c], 1) := by
  have hc : 32 ≤ c.toNat ∧ c.toNat ≤ 126 ∧ c ≠ 61 := by
    unfold plain at h
    rw [Bool.or_eq_true] at h
    rcases h with h | h
    · simp only [Bool.and_eq_true, decide_eq_true_eq, bne_iff_ne] at h
      exact ⟨by omega, h.1.2, h.2⟩
    · simp only [Bool.and_eq_true, beq_iff_eq] at h
      rw [h.1]
      decide
  unfold fq
  rw [if_neg (by rw [soft_iff]; rintro ⟨t, ht⟩; exact hc.2.2 (List.cons.inj ht).1), if_neg (by rw [crlf_iff]; rintro ⟨t, ht⟩; have h1 := (List.cons.inj ht).1; rw [h1] at hc; exact absurd hc.1 (by decide))]
  rw [if_neg (show ¬ (c :: r).getD 0 0 = 61 from hc.2.2), if_pos (show 32 ≤ ((c :: r).getD 0 0).toNat ∧ ((c :: r).getD 0 0).toNat ≤ 126 from ⟨hc.1, hc.2.1⟩)]
  rfl
theorem fq_hex (c : UInt8) (r : List UInt8) : fq (61 :: hx (c.toNat / 16) :: hx (c.toNat % 16) :: r) = some ([c], 3) := by
  have hl := c.toNat_lt
  obtain ⟨a1, a2, _, _⟩ := hv_hx' ⟨c.toNat / 16, by omega⟩
  obtain ⟨b1, _, _, _⟩ := hv_hx' ⟨c.toNat % 16, by omega⟩
  simp only at a1 a2 b1
  unfold fq
  rw [if_neg (by rw [soft_iff]; rintro ⟨t, ht⟩; exact a2 (List.cons.inj (List.cons.inj ht).2).1), if_neg (by rw [crlf_iff]; rintro ⟨t, ht⟩; have := (List.cons.inj ht).1; exact absurd this (by decide))]
  rw [if_pos (show (61 :: hx (c.toNat / 16) :: hx (c.toNat % 16) :: r).getD 0 0 = 61 from rfl)]
  show (if (61 :: hx (c.toNat / 16) :: hx (c.toNat % 16) :: r).length < 3 ∨ hv (hx (c.toNat / 16)) < 0 ∨ hv (hx (c.toNat % 16)) < 0 then none else some ([UInt8.ofNat ((hv (hx (c.toNat / 16))).toNat * 16 + (hv (hx (c.toNat % 16))).toNat)], 3)) = some ([c], 3)
  rw [a1, b1, if_neg (by simp; omega)]
  congr 3
  apply UInt8.toNat_inj.1
  rw [UInt8.toNat_ofNat']
  simp only [Int.toNat_natCast]
  omega
theorem uq_form (c : UInt8) (la : Bool) (x : List UInt8) : uq (form c la ++ x) = (uq x).map ([c] ++ ·) := by
  unfold form
  by_cases h : plain c la = true
  · rw [if_pos h]
    exact uq_some (by simp) (fq_plain h x)
  · rw [if_neg h]
    exact uq_some (l := 61 :: hx (c.toNat / 16) :: hx (c.toNat % 16) :: x) (by simp) (fq_hex c x)
theorem uq_qt_n : ∀ (n : Nat) (w : Nat) (l : List UInt8), l.length ≤ n → uq (qt w l) = some l := by
  intro n
  induction n with
  | zero =>
    intro w l h
    obtain rfl : l = [] := List.eq_nil_of_length_eq_zero (by omega)
    rw [qt_nil]
    rfl
  | succ n ih =>
    intro w l h
    match l, h with
    | [], _ => rw [qt_nil]; rfl
    | c :: r, h =>
      have hr : r.length ≤ n := by simp at h; omega
      by_cases hc : crlf (c :: r) = true
      · obtain ⟨r', hr'⟩ := crlf_iff.1 hc
        obtain ⟨rfl, rfl⟩ := List.cons.inj hr'
        rw [qt_crlf, uq_some (by simp) (fq_crlf _)]
        show (uq (qt 0 r')).map ([13, 10] ++ ·) = _
        rw [ih 0 r' (by simp at hr; omega)]
        rfl
      · have hcf : crlf (c :: r) = false := by simpa using hc
        by_cases h2 : lim (lastb r) < w + (form c (lastb r)).length
        · rw [qt_soft hcf h2, uq_some (by simp) (fq_soft _)]
          show (uq (form c (lastb r) ++ qt (form c (lastb r)).length r)).map ([] ++ ·) = _
          rw [uq_form, ih _ r hr]
          rfl
        · rw [qt_on hcf h2, uq_form, ih _ r hr]
          rfl
/-- Bytes are read back from their quoted text. -/
theorem uq_qt (w : Nat) (l : List UInt8) : uq (qt w l) = some l := uq_qt_n l.length w l (Nat.le_refl _)
end Go.Proofs.YtadfdfmebdcfgaaGreatDoor.qu
