/-
  The contract of the program's base 64 text: it is the text of the bytes.
-/
import Derived.Test.YtmckekflpdaklaaGreatDoorPkai
import Derived.Test.YtmckekflpdaklaaGreatDoorPkah
import Derived.Laws.IdiomCopy
import Derived.Laws.CopyRow
import Derived.Laws.CopyOwn
import Derived.Laws.BitsAll
import Derived.BigRegion

namespace Go.Proofs.YtmckekflpdaklaaGreatDoor.b6
open Go.RowKit
set_option linter.unusedVariables false

theorem wraps_i64 (n : Int) (h0 : 0 ≤ n) (h1 : n < 2 ^ 62) : IntKind.i64.wrap n = n := by rw [IntKind.wrap_i64]; omega
theorem or_add (i A B : Nat) (h : A % 2 ^ i = 0) (hB : B < 2 ^ i) (hA : A < 4294967296) (hB2 : B < 4294967296) (hi : i ≤ 62) : bits .or .i64 (A : Int) (B : Int) = ((A + B : Nat) : Int) := by
  have := bits_nat .i64 62 (by decide) wraps_i64 A B (by omega) (by omega)
  rw [this.2, nat_join i A B h hB]
theorem and63 (z : Int) (n : Nat) (h : z = n) (hn : n < 4294967296) : bits .and .i64 z 63 = ((n % 64 : Nat) : Int) := by
  subst h
  have := bits_mask .i64 62 (by decide) wraps_i64 6 (by decide) (n : Int) (by omega) (by omega)
  have e : ((2 : Int) ^ 6 - 1) = 63 := by decide
  rw [e] at this
  rw [this]
  omega
theorem or_three (a b c x : Nat) (hx : x = a * 65536 + b * 256 + c) (ha : a < 256) (hb : b < 256) (hc : c < 256) : bits .or .i64 (bits .or .i64 ((a : Int) * 65536) ((b : Int) * 256)) (c : Int) = (x : Int) := by
  rw [show ((a : Int) * 65536) = ((a * 65536 : Nat) : Int) from by omega, show ((b : Int) * 256) = ((b * 256 : Nat) : Int) from by omega]
  rw [or_add 16 (a * 65536) (b * 256) (by omega) (by omega) (by omega) (by omega) (by omega), or_add 8 _ c (by omega) (by omega) (by omega) (by omega) (by omega), hx]

set_option maxHeartbeats 2000000 in
set_option maxRecDepth 100000 in
theorem four_any (a b c : Nat) (x : Nat) (hx : x = a * 65536 + b * 256 + c) (ha : a < 256) (hb : b < 256) (hc : c < 256) (w : World) (h : tb.TC w) :
    Calls Tryz.prog 182 #[.agg #[.int .u8 a, .int .u8 b, .int .u8 c]] w fun e w' => e = .returned (.agg #[.int .u8 ((L (x / 262144)).toNat : Int), .int .u8 ((L (x / 4096 % 64)).toNat : Int), .int .u8 ((L (x / 64 % 64)).toNat : Int), .int .u8 ((L (x % 64)).toNat : Int)]) ∧ Below w.heap.size w w' := by
  obtain ⟨d0, hd0⟩ : ∃ d, d = L (x / 262144) := ⟨_, rfl⟩
  obtain ⟨d1, hd1⟩ : ∃ d, d = L (x / 4096 % 64) := ⟨_, rfl⟩
  obtain ⟨d2, hd2⟩ : ∃ d, d = L (x / 64 % 64) := ⟨_, rfl⟩
  obtain ⟨d3, hd3⟩ : ∃ d, d = L (x % 64) := ⟨_, rfl⟩
  rw [← hd0]
  rw [← hd1]
  rw [← hd2]
  rw [← hd3]
  go_enter Tryz.func182, Tryz.ntmps182
  go_wp2
  rw [or_three a b c x hx ha hb hc]
  have hx6 : x < 16777216 := by omega
  have hx6' : (x : Int) ≤ 16777215 := by omega
  have hb2 : Below w.heap.size w ((w.alloc (Obj.cells #[Value.int IntKind.u8 (a : Int), Value.int IntKind.u8 (b : Int), Value.int IntKind.u8 (c : Int)] 169)).alloc (Obj.cells #[Value.int IntKind.u8 0, Value.int IntKind.u8 0, Value.int IntKind.u8 0, Value.int IntKind.u8 0] 170)) := ((Below.refl _ _).alloc (Nat.le_refl _) _).alloc (by simp) _
  have h2 := tb.keep' h hb2
  obtain ⟨W, hW⟩ : ∃ W, W = ((w.alloc (Obj.cells #[Value.int IntKind.u8 (a : Int), Value.int IntKind.u8 (b : Int), Value.int IntKind.u8 (c : Int)] 169)).alloc (Obj.cells #[Value.int IntKind.u8 0, Value.int IntKind.u8 0, Value.int IntKind.u8 0, Value.int IntKind.u8 0] 170)) := ⟨_, rfl⟩
  have hblk : W.heap[w.heap.size + 1]? = some (.cells #[Value.int IntKind.u8 0, Value.int IntKind.u8 0, Value.int IntKind.u8 0, Value.int IntKind.u8 0] 170 (0, 0)) := by
    rw [hW]
    have := heap_alloc_new (w.alloc (Obj.cells #[Value.int IntKind.u8 (a : Int), Value.int IntKind.u8 (b : Int), Value.int IntKind.u8 (c : Int)] 169)) (Obj.cells #[Value.int IntKind.u8 0, Value.int IntKind.u8 0, Value.int IntKind.u8 0, Value.int IntKind.u8 0] 170)
    simpa using this
  rw [← hW] at h2 hb2 ⊢
  clear hW h
  have c0 := tb.tc_cell h2 (x / 262144) (by omega)
  have c1 := tb.tc_cell h2 (x / 4096 % 64) (by omega)
  have c2 := tb.tc_cell h2 (x / 64 % 64) (by omega)
  have c3 := tb.tc_cell h2 (x % 64) (by omega)
  rw [← hd0] at c0
  rw [← hd1] at c1
  rw [← hd2] at c2
  rw [← hd3] at c3
  clear hd0 hd1 hd2 hd3 hx h2
  have r0 := ow.cell_blk hblk 0
  have r1 := ow.cell_blk hblk 1
  have r2 := ow.cell_blk hblk 2
  have r3 := ow.cell_blk hblk 3
  have f0 := ow.frozen_blk hblk 0
  have f1 := ow.frozen_blk hblk 1
  have f2 := ow.frozen_blk hblk 2
  have f3 := ow.frozen_blk hblk 3
  have e0 : (x : Int) / 262144 = ((x / 262144 : Nat) : Int) := by omega
  have e1 := and63 ((x : Int) / 4096) (x / 4096) (by omega) (by omega)
  have e2 := and63 ((x : Int) / 64) (x / 64) (by omega) (by omega)
  have e3 := and63 (x : Int) x rfl (by omega)
  have k0 : x / 262144 < 64 := by omega
  have k1 : x / 4096 % 64 < 64 := by omega
  have k2 : x / 64 % 64 < 64 := by omega
  have k3 : x % 64 < 64 := by omega
  obtain ⟨y0, hy0⟩ : ∃ y, y = x / 262144 := ⟨_, rfl⟩
  obtain ⟨y1, hy1⟩ : ∃ y, y = x / 4096 % 64 := ⟨_, rfl⟩
  obtain ⟨y2, hy2⟩ : ∃ y, y = x / 64 % 64 := ⟨_, rfl⟩
  obtain ⟨y3, hy3⟩ : ∃ y, y = x % 64 := ⟨_, rfl⟩
  rw [← hy0] at e0 c0 k0
  rw [← hy1] at e1 c1 k1
  rw [← hy2] at e2 c2 k2
  rw [← hy3] at e3 c3 k3
  clear hy0 hy1 hy2 hy3
  have k0' : (y0 : Int) < 64 := by omega
  have k1' : (y1 : Int) < 64 := by omega
  have k2' : (y2 : Int) < 64 := by omega
  have k3' : (y3 : Int) < 64 := by omega
  go_region
  have hF := ow.set_blk (ow.set_blk (ow.set_blk (ow.set_blk hblk 0 (.int .u8 (d0.toNat : Int))) 1 (.int .u8 (d1.toNat : Int))) 2 (.int .u8 (d2.toNat : Int))) 3 (.int .u8 (d3.toNat : Int))
  have hbF := (((hb2.setCell (p := ⟨w.heap.size + 1, 0, none⟩) (Nat.le_succ _) (.int .u8 (d0.toNat : Int))).setCell (p := ⟨w.heap.size + 1, 1, none⟩) (Nat.le_succ _) (.int .u8 (d1.toNat : Int))).setCell (p := ⟨w.heap.size + 1, 2, none⟩) (Nat.le_succ _) (.int .u8 (d2.toNat : Int))).setCell (p := ⟨w.heap.size + 1, 3, none⟩) (Nat.le_succ _) (.int .u8 (d3.toNat : Int))
  obtain ⟨F, hFe⟩ : ∃ F, F = (((W.setCell ⟨w.heap.size + 1, 0, none⟩ (.int .u8 (d0.toNat : Int))).setCell ⟨w.heap.size + 1, 1, none⟩ (.int .u8 (d1.toNat : Int))).setCell ⟨w.heap.size + 1, 2, none⟩ (.int .u8 (d2.toNat : Int))).setCell ⟨w.heap.size + 1, 3, none⟩ (.int .u8 (d3.toNat : Int)) := ⟨_, rfl⟩
  rw [← hFe] at hF hbF ⊢
  clear hFe c0 c1 c2 c3 r0 r1 r2 r3 f0 f1 f2 f3 e0 e1 e2 e3 hblk hb2
  have hF2 : F.drew.heap[w.heap.size + 1]? = some (.cells #[.int .u8 (d0.toNat : Int), .int .u8 (d1.toNat : Int), .int .u8 (d2.toNat : Int), .int .u8 (d3.toNat : Int)] 170 (0, 0)) := hF
  clear hF
  go_wp2
  refine bodyPost_ret (results_cell_row rfl _ _ (w.heap.size + 1) _ _ _ _ rfl hF2 Tryz.underlying170 rfl (by kernel_rfl)) rfl ?_
  exact ⟨rfl, hbF.drew⟩

/-- What a text builder of the program has been told, at the k-th byte. -/
def Went (l q : List UInt8) (k : Nat) : Prop := q ++ enc (l.drop k) = enc l

/-- The cells of three bytes, nought where one lacks. -/
def fill3 (xs : List UInt8) : Array Value := (Lib.byteCells xs ++ [Value.int .u8 0, Value.int .u8 0, Value.int .u8 0].drop xs.length).toArray
theorem size8 : (Tryz.prog.info? 5).map (·.size) = some 1 := by kernel_rfl
theorem copied {wr W : World} {g b k s cap : Nat} (xs : List UInt8) (hm : xs.length = Nat.min s 3)
    (hcells : ∀ j, j < xs.length → W.cell? ⟨b, k + j, none⟩ = some (.int .u8 ((xs.getD j 0).toNat : Int))) (hblk : W.heap[g]? = some (.cells #[Value.int .u8 0, Value.int .u8 0, Value.int .u8 0] 169 (0, 0))) (hB : Below g wr W) :
    ∃ F, (∀ ty, (Builtin.copy_ #[51, 51] ty #[.slice (some ⟨g, 0, none⟩) 3 3, .slice (some ⟨b, k, none⟩) s cap]).run Tryz.prog W.drew = .ok (.int .i64 xs.length) F) ∧ F.heap[g]? = some (.cells (fill3 xs) 169 (0, 0)) ∧ Below g wr F ∧ F.heap.size = W.heap.size := by
  have h3 : xs.length ≤ 3 := by rw [hm]; exact Nat.min_le_right _ _
  have hr := fun ty => run_copy_row (P := Tryz.prog) W.drew 51 51 ty 5 g 0 3 3 ⟨b, k, none⟩ s cap #[Value.int .u8 0, Value.int .u8 0, Value.int .u8 0] 169 (Lib.byteCells xs) Tryz.underlying51 size8 hblk (by rw [Lib.byteCells_length]; exact hm)
    (fun j v hj => by
      have hlt : j < xs.length := by
        have := (List.getElem?_eq_some_iff.1 hj).1
        rwa [Lib.byteCells_length] at this
      have hc := hcells j hlt
      rw [show ((⟨b, k, none⟩ : Addr).add j) = ⟨b, k + j, none⟩ from by simp [Addr.add]]
      refine Eq.trans hc ?_
      rw [← hj]
      simp [Lib.byteCells, hlt]) (by rw [Lib.byteCells_length]; simpa using h3) (ow.one_bytes xs)
  refine ⟨_, fun ty => (hr ty).trans (by rw [Lib.byteCells_length]; rfl), ?_, ?_, ?_⟩
  · have := setRow_heap W.drew g _ ((#[Value.int .u8 0, Value.int .u8 0, Value.int .u8 0] : Array Value).toList.take 0 ++ Lib.byteCells xs ++ (#[Value.int .u8 0, Value.int .u8 0, Value.int .u8 0] : Array Value).toList.drop (0 + xs.length)).toArray _ _ hblk
    rw [this]
    simp [fill3]
  · exact below_setRow hB.drew (Nat.le_refl _) _
  · rw [size_setRow]
    rfl
set_option maxHeartbeats 2000000 in
set_option maxRecDepth 100000 in
theorem implEncR_any (v : Value) (l : List UInt8) (w : World) (h : ow.Lies w v l) (hT : tb.TC w) (hn : l.length ≤ 65536) :
    Calls Tryz.prog 168 #[v] w fun e w' => e = .returned (.tuple #[.string ⟨(enc l).toArray⟩, .int .i64 0]) ∧ Below w.heap.size w w' := by
  obtain ⟨ao, cap, rfl, H1⟩ : ∃ ao cap, v = .slice ao l.length cap ∧ Hid (l = [] ∨ ∃ b, ao = some ⟨b, 0, none⟩ ∧ l.length ≤ cap ∧ ∀ j, j < l.length → w.cell? ⟨b, j, none⟩ = some (.int .u8 ((l.getD j 0).toNat : Int))) := h
  obtain ⟨n, hn'⟩ : ∃ n, n = l.length := ⟨_, rfl⟩
  rw [← hn'] at hn H1 ⊢
  have HN : Hid (n = l.length) := hn'
  clear hn'
  have hn2 : (n : Int) ≤ 65536 := by omega
  have hnd : decide (65536 < (n : Int)) = false := decide_eq_false (by omega)
  go_enter Tryz.func168, Tryz.ntmps168
  go_wp2
  go_loopw [5] (fun i wr => ∃ (k : Nat) (q : List UInt8), k ≤ n + 2 ∧ i = .int .i64 k ∧ Hid (Went l q k) ∧ bl.Bd w.heap.size w.heap.size q wr ∧ Below w.heap.size w wr) (fun i _ => n + 2 - (intOf i).toNat)
  case atStart => exact ⟨0, [], Nat.zero_le _, rfl, rfl, bl.fresh w, (Below.refl _ _).alloc (Nat.le_refl _) _⟩
  case round =>
    obtain ⟨k, q, hk, rfl, HQ, hbd, hbw⟩ := hrel
    by_cases hlt : k < n
    · have hlt' : (k : Int) < (n : Int) := by omega
      rcases H1.out with e | ⟨b, rfl, hcap, hcells⟩
      · exact absurd hlt (by have := HN.out; rw [e] at this; simp at this; omega)
      have hck : ¬ cap = k := by omega
      have hkn : k ≤ n := by omega
      have hblt : b < w.heap.size := World.block_lt_of_cell? w _ (hcells k hlt)
      have hg1 : w.heap.size ≤ wr.heap.size := hbw.size
      have hlq : q.length ≤ 131072 := by
        have e1 := congrArg List.length HQ.out
        rw [List.length_append, enc_length l, ← HN.out] at e1
        omega
      have HLQ : Hid (q.length ≤ 131072) := hlq
      clear hlq
      have hbw1 := (Below.refl wr.heap.size wr).alloc (Nat.le_refl _) (Obj.cells #[Value.int .u8 0, Value.int .u8 0, Value.int .u8 0] 169)
      have hblk := heap_alloc_new wr (Obj.cells #[Value.int .u8 0, Value.int .u8 0, Value.int .u8 0] 169)
      have hsz : (wr.alloc (Obj.cells #[Value.int .u8 0, Value.int .u8 0, Value.int .u8 0] 169)).heap.size = wr.heap.size + 1 := by simp
      have HC : Hid (∀ j, j < n → (wr.alloc (Obj.cells #[Value.int .u8 0, Value.int .u8 0, Value.int .u8 0] 169)).cell? ⟨b, j, none⟩ = some (.int .u8 ((l.getD j 0).toNat : Int))) := fun j hj => ((hbw1.cell (p := ⟨b, j, none⟩) (show b < wr.heap.size by omega)).trans (hbw.cell (p := ⟨b, j, none⟩) hblt)).trans (hcells j hj)
      clear hcells
      have hinb := (bl.inside hbd).2
      go_wp2
      obtain ⟨W, hW⟩ : ∃ W, W = wr.alloc (Obj.cells #[Value.int .u8 0, Value.int .u8 0, Value.int .u8 0] 169) := ⟨_, rfl⟩
      rw [← hW] at hbw1 hblk hsz HC ⊢
      clear hW
      obtain ⟨g, hg⟩ : ∃ g, g = wr.heap.size := ⟨_, rfl⟩
      rw [← hg] at hblk hsz hg1 hinb hbw1 ⊢
      have HGW : Hid (g = wr.heap.size) := hg
      clear hg
      have HF : Hid (∀ F, Below g wr F → bl.Bd w.heap.size w.heap.size q F ∧ Below w.heap.size w F ∧ tb.TC F) := fun F hF => by
        have e := HGW.out
        have hF' : Below wr.heap.size wr F := e ▸ hF
        have h2 := hbw.trans (hF'.mono (by omega))
        exact ⟨bl.keep hbd hF', h2, tb.keep' hT h2⟩
      clear hbd hbw HGW
      clear H1
      by_cases h3 : k + 2 < n
      · skip
        have HG : Hid (Went l (q ++ [L (nv l k 3 / 262144), L (nv l k 3 / 4096 % 64), L (nv l k 3 / 64 % 64), L (nv l k 3 % 64)]) (k + 3)) := grow4 HQ.out (step3 (by rw [← HN.out]; exact h3) rfl)
        have hx := nv3 (l := l) (k := k) (by rw [← HN.out]; exact h3)
        obtain ⟨F, hrun, hFb, hFB, hFs⟩ := copied (s := n - k) (cap := cap - k) [l.getD k 0, l.getD (k + 1) 0, l.getD (k + 2) 0] (show 3 = Nat.min (n - k) 3 from (Nat.min_eq_right (by omega)).symm)
          (fun j hj => by
            have : j = 0 ∨ j = 1 ∨ j = 2 := by simp at hj; omega
            rcases this with rfl | rfl | rfl
            · exact HC.out k (by omega)
            · exact HC.out (k + 1) (by omega)
            · exact HC.out (k + 2) (by omega)) hblk hbw1
        have hrun' := hrun 3
        clear hrun HC hblk HQ
        go_region
        clear hrun'
        obtain ⟨hbdF, hbwF, hTF⟩ := HF.out F hFB
        have hF3 : F.heap[g]? = some (.cells #[.int .u8 ((l.getD k 0).toNat : Int), .int .u8 ((l.getD (k + 1) 0).toNat : Int), .int .u8 ((l.getD (k + 2) 0).toNat : Int)] 169 (0, 0)) := hFb
        clear hFb
        have C4 : Hid (Calls Tryz.prog 182 #[.agg #[.int .u8 ((l.getD k 0).toNat : Int), .int .u8 ((l.getD (k + 1) 0).toNat : Int), .int .u8 ((l.getD (k + 2) 0).toNat : Int)]] F fun e w' => e = .returned (.agg #[.int .u8 ((L (nv l k 3 / 262144)).toNat : Int), .int .u8 ((L (nv l k 3 / 4096 % 64)).toNat : Int), .int .u8 ((L (nv l k 3 / 64 % 64)).toNat : Int), .int .u8 ((L (nv l k 3 % 64)).toNat : Int)]) ∧ Below F.heap.size F w') :=
          four_any _ _ _ (nv l k 3) hx ((l.getD k 0).toNat_lt) ((l.getD (k + 1) 0).toNat_lt) ((l.getD (k + 2) 0).toNat_lt) F hTF
        generalize L (nv l k 3 / 262144) = d0 at C4 HG
        generalize L (nv l k 3 / 4096 % 64) = d1 at C4 HG
        generalize L (nv l k 3 / 64 % 64) = d2 at C4 HG
        generalize L (nv l k 3 % 64) = d3 at C4 HG
        clear hx
        generalize (l.getD k 0).toNat = A at C4 hF3
        generalize (l.getD (k + 1) 0).toNat = B at C4 hF3
        generalize (l.getD (k + 2) 0).toNat = C at C4 hF3
        go_wp2_with (refine wpList_load_row rfl 169 _ rfl g rfl 169 _ (0, 0) _ hF3 Tryz.underlying169 rfl (by kernel_rfl) ?_)
        refine C4.out.mono ?_
        rintro e w1 ⟨rfl, hb1⟩
        clear C4 hF3
        have hbd1 := bl.keep hbdF hb1
        have hbd2 := bl.keep hbd1 ((Below.refl _ _).alloc (Nat.le_refl _) (Obj.cells #[Value.int .u8 (d0.toNat : Int), Value.int .u8 (d1.toNat : Int), Value.int .u8 (d2.toNat : Int), Value.int .u8 (d3.toNat : Int)] 170))
        have hsF : w.heap.size ≤ F.heap.size := hbwF.size
        have hs1 : w.heap.size ≤ w1.heap.size := Nat.le_trans hsF hb1.size
        have hbw2 := (hbwF.trans (hb1.mono hsF)).alloc hs1 (Obj.cells #[Value.int .u8 (d0.toNat : Int), Value.int .u8 (d1.toNat : Int), Value.int .u8 (d2.toNat : Int), Value.int .u8 (d3.toNat : Int)] 170)
        have hin1 := (bl.inside hbd1).2
        go_wp2_with fail
        refine (bl.bytes w.heap.size w.heap.size q w1.heap.size 4 4 [d0, d1, d2, d3] _ hbd2 rfl (by omega) (fun j u hj => by
          have := ow.cell_new w1 [Value.int .u8 (d0.toNat : Int), Value.int .u8 (d1.toNat : Int), Value.int .u8 (d2.toNat : Int), Value.int .u8 (d3.toNat : Int)] 170 j u
          exact this (by match j, hj with
            | 0, hj => simpa [Lib.byteCells] using hj
            | 1, hj => simpa [Lib.byteCells] using hj
            | 2, hj => simpa [Lib.byteCells] using hj
            | 3, hj => simpa [Lib.byteCells] using hj
            | j + 4, hj => simp [Lib.byteCells] at hj)) (by have := HLQ.out; omega) (by simp; omega)).mono ?_
        rintro e w2 ⟨⟨vv, rfl⟩, hbd3, hbw3⟩
        have hbw4 := hbw2.trans hbw3
        clear hbd1 hbd2 hbdF hbw2 hbwF hTF hb1
        go_wp2_with fail
        refine (bl.text w.heap.size w.heap.size _ _ _ hbd3 (by have := HLQ.out; simp; omega) (by have := hbw4.size; omega)).mono ?_
        rintro e w3 ⟨⟨vv2, rfl⟩, hbd5, hbw5⟩
        go_wp2
        go_roundw
        case rel => exact ⟨k + 3, _, by omega, by go_num, HG, (by rw [List.append_assoc] at hbd5; exact hbd5), hbw4.trans hbw5⟩
        case measure => simp [intOf]; omega
      by_cases h4 : k + 2 = n
      · skip
        have HG : Hid (Went l (q ++ [L (nv l k 3 / 262144), L (nv l k 3 / 4096 % 64), L (nv l k 3 / 64 % 64), 61]) (k + 3)) := grow4 HQ.out (step2 (by rw [← HN.out]; exact h4) rfl)
        have hx := nv2 (l := l) (k := k) (by rw [← HN.out]; exact h4)
        obtain ⟨F, hrun, hFb, hFB, hFs⟩ := copied (s := n - k) (cap := cap - k) [l.getD k 0, l.getD (k + 1) 0] (show 2 = Nat.min (n - k) 3 from by rw [show n - k = 2 by omega]; rfl)
          (fun j hj => by
            have : j = 0 ∨ j = 1 := by simp at hj; omega
            rcases this with rfl | rfl
            · exact HC.out k (by omega)
            · exact HC.out (k + 1) (by omega)) hblk hbw1
        have hrun' := hrun 3
        clear hrun HC hblk HQ
        go_region
        clear hrun'
        obtain ⟨hbdF, hbwF, hTF⟩ := HF.out F hFB
        have hF3 : F.heap[g]? = some (.cells #[.int .u8 ((l.getD k 0).toNat : Int), .int .u8 ((l.getD (k + 1) 0).toNat : Int), .int .u8 ((0 : Nat) : Int)] 169 (0, 0)) := hFb
        clear hFb
        have C4 : Hid (Calls Tryz.prog 182 #[.agg #[.int .u8 ((l.getD k 0).toNat : Int), .int .u8 ((l.getD (k + 1) 0).toNat : Int), .int .u8 ((0 : Nat) : Int)]] F fun e w' => e = .returned (.agg #[.int .u8 ((L (nv l k 3 / 262144)).toNat : Int), .int .u8 ((L (nv l k 3 / 4096 % 64)).toNat : Int), .int .u8 ((L (nv l k 3 / 64 % 64)).toNat : Int), .int .u8 ((L (nv l k 3 % 64)).toNat : Int)]) ∧ Below F.heap.size F w') :=
          four_any (l.getD k 0).toNat (l.getD (k + 1) 0).toNat 0 (nv l k 3) (hx.trans (Nat.add_zero _).symm) ((l.getD k 0).toNat_lt) ((l.getD (k + 1) 0).toNat_lt) (by decide) F hTF
        generalize L (nv l k 3 / 262144) = d0 at C4 HG
        generalize L (nv l k 3 / 4096 % 64) = d1 at C4 HG
        generalize L (nv l k 3 / 64 % 64) = d2 at C4 HG
        generalize L (nv l k 3 % 64) = d3 at C4
        clear hx
        generalize (l.getD k 0).toNat = A at C4 hF3
        generalize (l.getD (k + 1) 0).toNat = B at C4 hF3
        go_wp2_with (refine wpList_load_row rfl 169 _ rfl g rfl 169 _ (0, 0) _ hF3 Tryz.underlying169 rfl (by kernel_rfl) ?_)
        refine C4.out.mono ?_
        rintro e w1 ⟨rfl, hb1⟩
        clear C4 hF3
        have hbd1 := bl.keep hbdF hb1
        have hbd2 := bl.keep hbd1 ((Below.refl _ _).alloc (Nat.le_refl _) (Obj.cells #[Value.int .u8 (d0.toNat : Int), Value.int .u8 (d1.toNat : Int), Value.int .u8 (d2.toNat : Int), Value.int .u8 (d3.toNat : Int)] 170))
        have hsF : w.heap.size ≤ F.heap.size := hbwF.size
        have hs1 : w.heap.size ≤ w1.heap.size := Nat.le_trans hsF hb1.size
        have hbw2 := (hbwF.trans (hb1.mono hsF)).alloc hs1 (Obj.cells #[Value.int .u8 (d0.toNat : Int), Value.int .u8 (d1.toNat : Int), Value.int .u8 (d2.toNat : Int), Value.int .u8 (d3.toNat : Int)] 170)
        have hin1 := (bl.inside hbd1).2
        go_wp2_with fail
        refine (bl.bytes w.heap.size w.heap.size q w1.heap.size 3 4 [d0, d1, d2] _ hbd2 rfl (by omega) (fun j u hj => by
          have := ow.cell_new w1 [Value.int .u8 (d0.toNat : Int), Value.int .u8 (d1.toNat : Int), Value.int .u8 (d2.toNat : Int), Value.int .u8 (d3.toNat : Int)] 170 j u
          exact this (by match j, hj with
            | 0, hj => simpa [Lib.byteCells] using hj
            | 1, hj => simpa [Lib.byteCells] using hj
            | 2, hj => simpa [Lib.byteCells] using hj
            | j + 3, hj => simp [Lib.byteCells] at hj)) (by have := HLQ.out; omega) (by simp; omega)).mono ?_
        rintro e w2 ⟨⟨vv, rfl⟩, hbd3, hbw3⟩
        have hbw4 := hbw2.trans hbw3
        clear hbd1 hbd2 hbdF hbw2 hbwF hTF hb1
        go_wp2_with fail
        refine (bl.text w.heap.size w.heap.size _ _ _ hbd3 (by have := HLQ.out; simp [ByteArray.size_extract]; omega) (by have := hbw4.size; omega)).mono ?_
        rintro e w3 ⟨⟨vv2, rfl⟩, hbd5, hbw5⟩
        go_wp2
        go_roundw
        case rel => exact ⟨k + 3, _, by omega, by go_num, HG, (by rw [List.append_assoc] at hbd5; exact hbd5), hbw4.trans hbw5⟩
        case measure => simp [intOf]; omega
      · have h5 : k + 1 = n := by omega
        have HG : Hid (Went l (q ++ [L (nv l k 3 / 262144), L (nv l k 3 / 4096 % 64), 61, 61]) (k + 3)) := grow4 HQ.out (step1 (by rw [← HN.out]; exact h5) rfl)
        have hx := nv1 (l := l) (k := k) (by rw [← HN.out]; exact h5)
        obtain ⟨F, hrun, hFb, hFB, hFs⟩ := copied (s := n - k) (cap := cap - k) [l.getD k 0] (show 1 = Nat.min (n - k) 3 from by rw [show n - k = 1 by omega]; rfl)
          (fun j hj => by
            have : j = 0 := by simp at hj; omega
            subst this
            exact HC.out k (by omega)) hblk hbw1
        have hrun' := hrun 3
        clear hrun HC hblk HQ
        go_region
        clear hrun'
        obtain ⟨hbdF, hbwF, hTF⟩ := HF.out F hFB
        have hF3 : F.heap[g]? = some (.cells #[.int .u8 ((l.getD k 0).toNat : Int), .int .u8 ((0 : Nat) : Int), .int .u8 ((0 : Nat) : Int)] 169 (0, 0)) := hFb
        clear hFb
        have C4 : Hid (Calls Tryz.prog 182 #[.agg #[.int .u8 ((l.getD k 0).toNat : Int), .int .u8 ((0 : Nat) : Int), .int .u8 ((0 : Nat) : Int)]] F fun e w' => e = .returned (.agg #[.int .u8 ((L (nv l k 3 / 262144)).toNat : Int), .int .u8 ((L (nv l k 3 / 4096 % 64)).toNat : Int), .int .u8 ((L (nv l k 3 / 64 % 64)).toNat : Int), .int .u8 ((L (nv l k 3 % 64)).toNat : Int)]) ∧ Below F.heap.size F w') :=
          four_any (l.getD k 0).toNat 0 0 (nv l k 3) (hx.trans (by simp)) ((l.getD k 0).toNat_lt) (by decide) (by decide) F hTF
        generalize L (nv l k 3 / 262144) = d0 at C4 HG
        generalize L (nv l k 3 / 4096 % 64) = d1 at C4 HG
        generalize L (nv l k 3 / 64 % 64) = d2 at C4
        generalize L (nv l k 3 % 64) = d3 at C4
        clear hx
        generalize (l.getD k 0).toNat = A at C4 hF3
        go_wp2_with (refine wpList_load_row rfl 169 _ rfl g rfl 169 _ (0, 0) _ hF3 Tryz.underlying169 rfl (by kernel_rfl) ?_)
        refine C4.out.mono ?_
        rintro e w1 ⟨rfl, hb1⟩
        clear C4 hF3
        have hbd1 := bl.keep hbdF hb1
        have hbd2 := bl.keep hbd1 ((Below.refl _ _).alloc (Nat.le_refl _) (Obj.cells #[Value.int .u8 (d0.toNat : Int), Value.int .u8 (d1.toNat : Int), Value.int .u8 (d2.toNat : Int), Value.int .u8 (d3.toNat : Int)] 170))
        have hsF : w.heap.size ≤ F.heap.size := hbwF.size
        have hs1 : w.heap.size ≤ w1.heap.size := Nat.le_trans hsF hb1.size
        have hbw2 := (hbwF.trans (hb1.mono hsF)).alloc hs1 (Obj.cells #[Value.int .u8 (d0.toNat : Int), Value.int .u8 (d1.toNat : Int), Value.int .u8 (d2.toNat : Int), Value.int .u8 (d3.toNat : Int)] 170)
        have hin1 := (bl.inside hbd1).2
        go_wp2_with fail
        refine (bl.bytes w.heap.size w.heap.size q w1.heap.size 2 4 [d0, d1] _ hbd2 rfl (by omega) (fun j u hj => by
          have := ow.cell_new w1 [Value.int .u8 (d0.toNat : Int), Value.int .u8 (d1.toNat : Int), Value.int .u8 (d2.toNat : Int), Value.int .u8 (d3.toNat : Int)] 170 j u
          exact this (by match j, hj with
            | 0, hj => simpa [Lib.byteCells] using hj
            | 1, hj => simpa [Lib.byteCells] using hj
            | j + 2, hj => simp [Lib.byteCells] at hj)) (by have := HLQ.out; omega) (by simp; omega)).mono ?_
        rintro e w2 ⟨⟨vv, rfl⟩, hbd3, hbw3⟩
        have hbw4 := hbw2.trans hbw3
        clear hbd1 hbd2 hbdF hbw2 hbwF hTF hb1
        go_wp2_with fail
        refine (bl.text w.heap.size w.heap.size _ _ _ hbd3 (by have := HLQ.out; simp [ByteArray.size_extract]; omega) (by have := hbw4.size; omega)).mono ?_
        rintro e w3 ⟨⟨vv2, rfl⟩, hbd5, hbw5⟩
        go_wp2
        go_roundw
        case rel => exact ⟨k + 3, _, by omega, by go_num, HG, (by rw [List.append_assoc] at hbd5; exact hbd5), hbw4.trans hbw5⟩
        case measure => simp [intOf]; omega
    · have hd : l.drop k = [] := List.drop_eq_nil_of_le (by rw [← HN.out]; omega)
      have hq : q = enc l := by have := HQ.out; unfold Went at this; rw [hd] at this; simpa [enc] using this
      subst hq
      have hlt' : (n : Int) ≤ (k : Int) := by omega
      clear hd HQ H1
      go_wp2_with fail
      refine (bl.said w.heap.size w.heap.size _ _ hbd hbw.size).mono ?_
      rintro e w1 ⟨rfl, hb1⟩
      go_wp2
      go_ret2
      exact ⟨rfl, hbw.trans hb1⟩
theorem implEnc_any (v : Value) (l : List UInt8) (base : Nat) (w : World) (h : w.ownsRow base 5 1 v l.length (Lib.byteCells l)) (hT : tb.TC w) (hn : l.length ≤ 65536) :
    Calls Tryz.prog 168 #[v] w fun e w' => e = .returned (.tuple #[.string ⟨(enc l).toArray⟩, .int .i64 0]) ∧ Below w.heap.size w w' :=
  implEncR_any v l w (ow.lies_own h) hT hn
end Go.Proofs.YtmckekflpdaklaaGreatDoor.b6
