/-
  Plain facts on reading base 64 group by group: what a group's number and signs say of the whole.
  Contracts of the specification's reading of base 64.
  The contract of the program's base 64 text: it is the text of the bytes.
  Contracts of the program's reading of base 64.
  The contract of impl.ValidText: whether a text is right and of at most 65536 bytes.
-/
import Derived.Test.YtadfdfmebdcfgaaGreatDoorPkaj
import Derived.Test.YtadfdfmebdcfgaaGreatDoorPkaf
import Derived.Test.YtadfdfmebdcfgaaGreatDoorPkae
import Derived.Laws.IdiomCopy
import Derived.Laws.CopyRow
import Derived.Laws.CopyOwn
import Derived.Laws.BitsAll
import Derived.BigRegion

namespace Go.Proofs.YtadfdfmebdcfgaaGreatDoor.b6
set_option linter.unusedVariables false

end Go.Proofs.YtadfdfmebdcfgaaGreatDoor.b6

namespace Go.Proofs.YtadfdfmebdcfgaaGreatDoor.b6
open Go.RowKit
set_option linter.unusedVariables false

theorem dec_short : ∀ (n : Nat) (t : List UInt8), t.length ≤ n → t.length % 4 ≠ 0 → dec t = none := by
  intro n
  induction n with
  | zero => intro t h h4; exact absurd (by omega) h4
  | succ n ih =>
    intro t h h4
    match t, h, h4 with
    | [], _, h4 => exact absurd rfl h4
    | [_], _, _ => rfl
    | [_, _], _, _ => rfl
    | [_, _, _], _, _ => rfl
    | a :: b :: c :: d :: r, h, h4 =>
      have hr : r.length % 4 ≠ 0 := by simp at h4; omega
      have hn : r ≠ [] := by intro e; rw [e] at hr; exact hr rfl
      simp only [dec]
      rw [ih r (by simp at h; omega) hr]
      repeat' split
      all_goals first
        | rfl
        | (rename_i hh; exact absurd hh.1 hn)
        | simp_all

theorem str_at (s : ByteArray) (z : Int) (j : Nat) (hz : z = j) (hj : j < s.size) (wx : World) : (Instr.index 9 (.string s) (.int .i64 z)).run Tryz.prog wx = .ok (.int .u8 ((s.data.toList.getD j 0).toNat : Int)) wx := by
  subst hz
  have hb : s[(j : Int).toNat]'(by simpa using hj) = s[j]'hj := by simp
  have hc : s.data.toList.getD j 0 = s[j]'hj := by
    rw [List.getD_eq_getElem?_getD, Array.getElem?_toList, Array.getElem?_eq_getElem (show j < s.data.size from hj)]
    rfl
  rw [run_index_string wx 9 s .i64 (j : Int) Tryz.underlying9, dif_pos ⟨by omega, by omega⟩, hb, hc]

/-- The bytes and the code that are answered to a text. -/
def rl (s : ByteArray) : List UInt8 := if s.size ≤ 65536 then (dec s.data.toList).getD [] else []
def rc (s : ByteArray) : Int := if s.size ≤ 65536 then (if (dec s.data.toList).isSome then 0 else 3) else 2
/-- What both readings answer. -/
def Got (s : ByteArray) (base : Nat) (e : Ending) (w' : World) : Prop :=
  ∃ v, e = .returned (.tuple #[v, .int .i64 (rc s)]) ∧ w'.ownsRow base 5 1 v (rl s).length (Lib.byteCells (rl s))

end Go.Proofs.YtadfdfmebdcfgaaGreatDoor.b6

namespace Go.Proofs.YtadfdfmebdcfgaaGreatDoor.b6
open Go.RowKit
set_option linter.unusedVariables false

theorem wraps_i64 (n : Int) (h0 : 0 ≤ n) (h1 : n < 2 ^ 62) : IntKind.i64.wrap n = n := by rw [IntKind.wrap_i64]; omega
theorem or_add (i A B : Nat) (h : A % 2 ^ i = 0) (hB : B < 2 ^ i) (hA : A < 4294967296) (hB2 : B < 4294967296) (hi : i ≤ 62) : bits .or .i64 (A : Int) (B : Int) = ((A + B : Nat) : Int) := by
  have := bits_nat .i64 62 (by decide) wraps_i64 A B (by omega) (by omega)
  rw [this.2, nat_join i A B h hB]
theorem and63 (z : Int) (n : Nat) (h : z = n) (hn : n < 4294967296) : bits .and .i64 z 63 = ((n % 64 : Nat) : Int) := by
  subst h
  have := bits_mask .i64 62 (by decide) wraps_i64 6 (by decide) (n : Int) (by omega) (by omega)
  have e : ((2 : Int) ^ 6 - 1) = 63 := by decide
  rw [e] at this
  rw [this]
  omega
theorem or_three (a b c x : Nat) (hx : x = a * 65536 + b * 256 + c) (ha : a < 256) (hb : b < 256) (hc : c < 256) : bits .or .i64 (bits .or .i64 ((a : Int) * 65536) ((b : Int) * 256)) (c : Int) = (x : Int) := by
  rw [show ((a : Int) * 65536) = ((a * 65536 : Nat) : Int) from by omega, show ((b : Int) * 256) = ((b * 256 : Nat) : Int) from by omega]
  rw [or_add 16 (a * 65536) (b * 256) (by omega) (by omega) (by omega) (by omega) (by omega), or_add 8 _ c (by omega) (by omega) (by omega) (by omega) (by omega), hx]

set_option maxHeartbeats 2000000 in
set_option maxRecDepth 100000 in
theorem four_any (a b c : Nat) (x : Nat) (hx : x = a * 65536 + b * 256 + c) (ha : a < 256) (hb : b < 256) (hc : c < 256) (w : World) (h : tb.TC w) :
    Calls Tryz.prog 195 #[.agg #[.int .u8 a, .int .u8 b, .int .u8 c]] w fun e w' => e = .returned (.agg #[.int .u8 ((L (x / 262144)).toNat : Int), .int .u8 ((L (x / 4096 % 64)).toNat : Int), .int .u8 ((L (x / 64 % 64)).toNat : Int), .int .u8 ((L (x % 64)).toNat : Int)]) ∧ Below w.heap.size w w' := by
  obtain ⟨d0, hd0⟩ : ∃ d, d = L (x / 262144) := ⟨_, rfl⟩
  obtain ⟨d1, hd1⟩ : ∃ d, d = L (x / 4096 % 64) := ⟨_, rfl⟩
  obtain ⟨d2, hd2⟩ : ∃ d, d = L (x / 64 % 64) := ⟨_, rfl⟩
  obtain ⟨d3, hd3⟩ : ∃ d, d = L (x % 64) := ⟨_, rfl⟩
  rw [← hd0]
  rw [← hd1]
  rw [← hd2]
  rw [← hd3]
  go_enter Tryz.func195, Tryz.ntmps195
  go_wp2
  rw [or_three a b c x hx ha hb hc]
  have hx6 : x < 16777216 := by omega
  have hx6' : (x : Int) ≤ 16777215 := by omega
  have hb2 : Below w.heap.size w ((w.alloc (Obj.cells #[Value.int IntKind.u8 (a : Int), Value.int IntKind.u8 (b : Int), Value.int IntKind.u8 (c : Int)] 178)).alloc (Obj.cells #[Value.int IntKind.u8 0, Value.int IntKind.u8 0, Value.int IntKind.u8 0, Value.int IntKind.u8 0] 179)) := ((Below.refl _ _).alloc (Nat.le_refl _) _).alloc (by simp) _
  have h2 := tb.keep' h hb2
  obtain ⟨W, hW⟩ : ∃ W, W = ((w.alloc (Obj.cells #[Value.int IntKind.u8 (a : Int), Value.int IntKind.u8 (b : Int), Value.int IntKind.u8 (c : Int)] 178)).alloc (Obj.cells #[Value.int IntKind.u8 0, Value.int IntKind.u8 0, Value.int IntKind.u8 0, Value.int IntKind.u8 0] 179)) := ⟨_, rfl⟩
  have hblk : W.heap[w.heap.size + 1]? = some (.cells #[Value.int IntKind.u8 0, Value.int IntKind.u8 0, Value.int IntKind.u8 0, Value.int IntKind.u8 0] 179 (0, 0)) := by
    rw [hW]
    have := heap_alloc_new (w.alloc (Obj.cells #[Value.int IntKind.u8 (a : Int), Value.int IntKind.u8 (b : Int), Value.int IntKind.u8 (c : Int)] 178)) (Obj.cells #[Value.int IntKind.u8 0, Value.int IntKind.u8 0, Value.int IntKind.u8 0, Value.int IntKind.u8 0] 179)
    simpa using this
  rw [← hW] at h2 hb2 ⊢
  clear hW h
  have c0 := tb.tc_cell h2 (x / 262144) (by omega)
  have c1 := tb.tc_cell h2 (x / 4096 % 64) (by omega)
  have c2 := tb.tc_cell h2 (x / 64 % 64) (by omega)
  have c3 := tb.tc_cell h2 (x % 64) (by omega)
  rw [← hd0] at c0
  rw [← hd1] at c1
  rw [← hd2] at c2
  rw [← hd3] at c3
  clear hd0 hd1 hd2 hd3 hx h2
  have r0 := ow.cell_blk hblk 0
  have r1 := ow.cell_blk hblk 1
  have r2 := ow.cell_blk hblk 2
  have r3 := ow.cell_blk hblk 3
  have f0 := ow.frozen_blk hblk 0
  have f1 := ow.frozen_blk hblk 1
  have f2 := ow.frozen_blk hblk 2
  have f3 := ow.frozen_blk hblk 3
  have e0 : (x : Int) / 262144 = ((x / 262144 : Nat) : Int) := by omega
  have e1 := and63 ((x : Int) / 4096) (x / 4096) (by omega) (by omega)
  have e2 := and63 ((x : Int) / 64) (x / 64) (by omega) (by omega)
  have e3 := and63 (x : Int) x rfl (by omega)
  have k0 : x / 262144 < 64 := by omega
  have k1 : x / 4096 % 64 < 64 := by omega
  have k2 : x / 64 % 64 < 64 := by omega
  have k3 : x % 64 < 64 := by omega
  obtain ⟨y0, hy0⟩ : ∃ y, y = x / 262144 := ⟨_, rfl⟩
  obtain ⟨y1, hy1⟩ : ∃ y, y = x / 4096 % 64 := ⟨_, rfl⟩
  obtain ⟨y2, hy2⟩ : ∃ y, y = x / 64 % 64 := ⟨_, rfl⟩
  obtain ⟨y3, hy3⟩ : ∃ y, y = x % 64 := ⟨_, rfl⟩
  rw [← hy0] at e0 c0 k0
  rw [← hy1] at e1 c1 k1
  rw [← hy2] at e2 c2 k2
  rw [← hy3] at e3 c3 k3
  clear hy0 hy1 hy2 hy3
  have k0' : (y0 : Int) < 64 := by omega
  have k1' : (y1 : Int) < 64 := by omega
  have k2' : (y2 : Int) < 64 := by omega
  have k3' : (y3 : Int) < 64 := by omega
  go_region
  have hF := ow.set_blk (ow.set_blk (ow.set_blk (ow.set_blk hblk 0 (.int .u8 (d0.toNat : Int))) 1 (.int .u8 (d1.toNat : Int))) 2 (.int .u8 (d2.toNat : Int))) 3 (.int .u8 (d3.toNat : Int))
  have hbF := (((hb2.setCell (p := ⟨w.heap.size + 1, 0, none⟩) (Nat.le_succ _) (.int .u8 (d0.toNat : Int))).setCell (p := ⟨w.heap.size + 1, 1, none⟩) (Nat.le_succ _) (.int .u8 (d1.toNat : Int))).setCell (p := ⟨w.heap.size + 1, 2, none⟩) (Nat.le_succ _) (.int .u8 (d2.toNat : Int))).setCell (p := ⟨w.heap.size + 1, 3, none⟩) (Nat.le_succ _) (.int .u8 (d3.toNat : Int))
  obtain ⟨F, hFe⟩ : ∃ F, F = (((W.setCell ⟨w.heap.size + 1, 0, none⟩ (.int .u8 (d0.toNat : Int))).setCell ⟨w.heap.size + 1, 1, none⟩ (.int .u8 (d1.toNat : Int))).setCell ⟨w.heap.size + 1, 2, none⟩ (.int .u8 (d2.toNat : Int))).setCell ⟨w.heap.size + 1, 3, none⟩ (.int .u8 (d3.toNat : Int)) := ⟨_, rfl⟩
  rw [← hFe] at hF hbF ⊢
  clear hFe c0 c1 c2 c3 r0 r1 r2 r3 f0 f1 f2 f3 e0 e1 e2 e3 hblk hb2
  have hF2 : F.drew.heap[w.heap.size + 1]? = some (.cells #[.int .u8 (d0.toNat : Int), .int .u8 (d1.toNat : Int), .int .u8 (d2.toNat : Int), .int .u8 (d3.toNat : Int)] 179 (0, 0)) := hF
  clear hF
  go_wp2
  refine bodyPost_ret (results_cell_row rfl _ _ (w.heap.size + 1) _ _ _ _ rfl hF2 Tryz.underlying179 rfl (by kernel_rfl)) rfl ?_
  exact ⟨rfl, hbF.drew⟩

/-- What a text builder of the program has been told, at the k-th byte. -/
def Went (l q : List UInt8) (k : Nat) : Prop := q ++ enc (l.drop k) = enc l

/-- The cells of three bytes, nought where one lacks. -/
def fill3 (xs : List UInt8) : Array Value := (Lib.byteCells xs ++ [Value.int .u8 0, Value.int .u8 0, Value.int .u8 0].drop xs.length).toArray
theorem size8 : (Tryz.prog.info? 5).map (·.size) = some 1 := by kernel_rfl
theorem copied {wr W : World} {g b k s cap : Nat} (xs : List UInt8) (hm : xs.length = Nat.min s 3)
    (hcells : ∀ j, j < xs.length → W.cell? ⟨b, k + j, none⟩ = some (.int .u8 ((xs.getD j 0).toNat : Int))) (hblk : W.heap[g]? = some (.cells #[Value.int .u8 0, Value.int .u8 0, Value.int .u8 0] 178 (0, 0))) (hB : Below g wr W) :
    ∃ F, (∀ ty, (Builtin.copy_ #[22, 22] ty #[.slice (some ⟨g, 0, none⟩) 3 3, .slice (some ⟨b, k, none⟩) s cap]).run Tryz.prog W.drew = .ok (.int .i64 xs.length) F) ∧ F.heap[g]? = some (.cells (fill3 xs) 178 (0, 0)) ∧ Below g wr F ∧ F.heap.size = W.heap.size := by
  have h3 : xs.length ≤ 3 := by rw [hm]; exact Nat.min_le_right _ _
  have hr := fun ty => run_copy_row (P := Tryz.prog) W.drew 22 22 ty 5 g 0 3 3 ⟨b, k, none⟩ s cap #[Value.int .u8 0, Value.int .u8 0, Value.int .u8 0] 178 (Lib.byteCells xs) Tryz.underlying22 size8 hblk (by rw [Lib.byteCells_length]; exact hm)
    (fun j v hj => by
      have hlt : j < xs.length := by
        have := (List.getElem?_eq_some_iff.1 hj).1
        rwa [Lib.byteCells_length] at this
      have hc := hcells j hlt
      rw [show ((⟨b, k, none⟩ : Addr).add j) = ⟨b, k + j, none⟩ from by simp [Addr.add]]
      refine Eq.trans hc ?_
      rw [← hj]
      simp [Lib.byteCells, hlt]) (by rw [Lib.byteCells_length]; simpa using h3) (ow.one_bytes xs)
  refine ⟨_, fun ty => (hr ty).trans (by rw [Lib.byteCells_length]; rfl), ?_, ?_, ?_⟩
  · have := setRow_heap W.drew g _ ((#[Value.int .u8 0, Value.int .u8 0, Value.int .u8 0] : Array Value).toList.take 0 ++ Lib.byteCells xs ++ (#[Value.int .u8 0, Value.int .u8 0, Value.int .u8 0] : Array Value).toList.drop (0 + xs.length)).toArray _ _ hblk
    rw [this]
    simp [fill3]
  · exact below_setRow hB.drew (Nat.le_refl _) _
  · rw [size_setRow]
    rfl
set_option maxHeartbeats 2000000 in
set_option maxRecDepth 100000 in
theorem implEncR_any (v : Value) (l : List UInt8) (w : World) (h : ow.Lies w v l) (hT : tb.TC w) (hn : l.length ≤ 65536) :
    Calls Tryz.prog 181 #[v] w fun e w' => e = .returned (.tuple #[.string ⟨(enc l).toArray⟩, .int .i64 0]) ∧ Below w.heap.size w w' := by
  obtain ⟨ao, cap, rfl, H1⟩ : ∃ ao cap, v = .slice ao l.length cap ∧ Hid (l = [] ∨ ∃ b, ao = some ⟨b, 0, none⟩ ∧ l.length ≤ cap ∧ ∀ j, j < l.length → w.cell? ⟨b, j, none⟩ = some (.int .u8 ((l.getD j 0).toNat : Int))) := h
  obtain ⟨n, hn'⟩ : ∃ n, n = l.length := ⟨_, rfl⟩
  rw [← hn'] at hn H1 ⊢
  have HN : Hid (n = l.length) := hn'
  clear hn'
  have hn2 : (n : Int) ≤ 65536 := by omega
  have hnd : decide (65536 < (n : Int)) = false := decide_eq_false (by omega)
  go_enter Tryz.func181, Tryz.ntmps181
  go_wp2
  go_loopw [5] (fun i wr => ∃ (k : Nat) (q : List UInt8), k ≤ n + 2 ∧ i = .int .i64 k ∧ Hid (Went l q k) ∧ bl.Bd w.heap.size w.heap.size q wr ∧ Below w.heap.size w wr) (fun i _ => n + 2 - (intOf i).toNat)
  case atStart => exact ⟨0, [], Nat.zero_le _, rfl, rfl, bl.fresh w, (Below.refl _ _).alloc (Nat.le_refl _) _⟩
  case round =>
    obtain ⟨k, q, hk, rfl, HQ, hbd, hbw⟩ := hrel
    by_cases hlt : k < n
    · have hlt' : (k : Int) < (n : Int) := by omega
      rcases H1.out with e | ⟨b, rfl, hcap, hcells⟩
      · exact absurd hlt (by have := HN.out; rw [e] at this; simp at this; omega)
      have hck : ¬ cap = k := by omega
      have hkn : k ≤ n := by omega
      have hblt : b < w.heap.size := World.block_lt_of_cell? w _ (hcells k hlt)
      have hg1 : w.heap.size ≤ wr.heap.size := hbw.size
      have hlq : q.length ≤ 131072 := by
        have e1 := congrArg List.length HQ.out
        rw [List.length_append, enc_length l, ← HN.out] at e1
        omega
      have HLQ : Hid (q.length ≤ 131072) := hlq
      clear hlq
      have hbw1 := (Below.refl wr.heap.size wr).alloc (Nat.le_refl _) (Obj.cells #[Value.int .u8 0, Value.int .u8 0, Value.int .u8 0] 178)
      have hblk := heap_alloc_new wr (Obj.cells #[Value.int .u8 0, Value.int .u8 0, Value.int .u8 0] 178)
      have hsz : (wr.alloc (Obj.cells #[Value.int .u8 0, Value.int .u8 0, Value.int .u8 0] 178)).heap.size = wr.heap.size + 1 := by simp
      have HC : Hid (∀ j, j < n → (wr.alloc (Obj.cells #[Value.int .u8 0, Value.int .u8 0, Value.int .u8 0] 178)).cell? ⟨b, j, none⟩ = some (.int .u8 ((l.getD j 0).toNat : Int))) := fun j hj => ((hbw1.cell (p := ⟨b, j, none⟩) (show b < wr.heap.size by omega)).trans (hbw.cell (p := ⟨b, j, none⟩) hblt)).trans (hcells j hj)
      clear hcells
      have hinb := (bl.inside hbd).2
      go_wp2
      obtain ⟨W, hW⟩ : ∃ W, W = wr.alloc (Obj.cells #[Value.int .u8 0, Value.int .u8 0, Value.int .u8 0] 178) := ⟨_, rfl⟩
      rw [← hW] at hbw1 hblk hsz HC ⊢
      clear hW
      obtain ⟨g, hg⟩ : ∃ g, g = wr.heap.size := ⟨_, rfl⟩
      rw [← hg] at hblk hsz hg1 hinb hbw1 ⊢
      have HGW : Hid (g = wr.heap.size) := hg
      clear hg
      have HF : Hid (∀ F, Below g wr F → bl.Bd w.heap.size w.heap.size q F ∧ Below w.heap.size w F ∧ tb.TC F) := fun F hF => by
        have e := HGW.out
        have hF' : Below wr.heap.size wr F := e ▸ hF
        have h2 := hbw.trans (hF'.mono (by omega))
        exact ⟨bl.keep hbd hF', h2, tb.keep' hT h2⟩
      clear hbd hbw HGW
      clear H1
      by_cases h3 : k + 2 < n
      · skip
        have HG : Hid (Went l (q ++ [L (nv l k 3 / 262144), L (nv l k 3 / 4096 % 64), L (nv l k 3 / 64 % 64), L (nv l k 3 % 64)]) (k + 3)) := grow4 HQ.out (step3 (by rw [← HN.out]; exact h3) rfl)
        have hx := nv3 (l := l) (k := k) (by rw [← HN.out]; exact h3)
        obtain ⟨F, hrun, hFb, hFB, hFs⟩ := copied (s := n - k) (cap := cap - k) [l.getD k 0, l.getD (k + 1) 0, l.getD (k + 2) 0] (show 3 = Nat.min (n - k) 3 from (Nat.min_eq_right (by omega)).symm)
          (fun j hj => by
            have : j = 0 ∨ j = 1 ∨ j = 2 := by simp at hj; omega
            rcases this with rfl | rfl | rfl
            · exact HC.out k (by omega)
            · exact HC.out (k + 1) (by omega)
            · exact HC.out (k + 2) (by omega)) hblk hbw1
        have hrun' := hrun 3
        clear hrun HC hblk HQ
        go_region
        clear hrun'
        obtain ⟨hbdF, hbwF, hTF⟩ := HF.out F hFB
        have hF3 : F.heap[g]? = some (.cells #[.int .u8 ((l.getD k 0).toNat : Int), .int .u8 ((l.getD (k + 1) 0).toNat : Int), .int .u8 ((l.getD (k + 2) 0).toNat : Int)] 178 (0, 0)) := hFb
        clear hFb
        have C4 : Hid (Calls Tryz.prog 195 #[.agg #[.int .u8 ((l.getD k 0).toNat : Int), .int .u8 ((l.getD (k + 1) 0).toNat : Int), .int .u8 ((l.getD (k + 2) 0).toNat : Int)]] F fun e w' => e = .returned (.agg #[.int .u8 ((L (nv l k 3 / 262144)).toNat : Int), .int .u8 ((L (nv l k 3 / 4096 % 64)).toNat : Int), .int .u8 ((L (nv l k 3 / 64 % 64)).toNat : Int), .int .u8 ((L (nv l k 3 % 64)).toNat : Int)]) ∧ Below F.heap.size F w') :=
          four_any _ _ _ (nv l k 3) hx ((l.getD k 0).toNat_lt) ((l.getD (k + 1) 0).toNat_lt) ((l.getD (k + 2) 0).toNat_lt) F hTF
        generalize L (nv l k 3 / 262144) = d0 at C4 HG
        generalize L (nv l k 3 / 4096 % 64) = d1 at C4 HG
        generalize L (nv l k 3 / 64 % 64) = d2 at C4 HG
        generalize L (nv l k 3 % 64) = d3 at C4 HG
        clear hx
        generalize (l.getD k 0).toNat = A at C4 hF3
        generalize (l.getD (k + 1) 0).toNat = B at C4 hF3
        generalize (l.getD (k + 2) 0).toNat = C at C4 hF3
        go_wp2_with (refine wpList_load_row rfl 178 _ rfl g rfl 178 _ (0, 0) _ hF3 Tryz.underlying178 rfl (by kernel_rfl) ?_)
        refine C4.out.mono ?_
        rintro e w1 ⟨rfl, hb1⟩
        clear C4 hF3
        have hbd1 := bl.keep hbdF hb1
        have hbd2 := bl.keep hbd1 ((Below.refl _ _).alloc (Nat.le_refl _) (Obj.cells #[Value.int .u8 (d0.toNat : Int), Value.int .u8 (d1.toNat : Int), Value.int .u8 (d2.toNat : Int), Value.int .u8 (d3.toNat : Int)] 179))
        have hsF : w.heap.size ≤ F.heap.size := hbwF.size
        have hs1 : w.heap.size ≤ w1.heap.size := Nat.le_trans hsF hb1.size
        have hbw2 := (hbwF.trans (hb1.mono hsF)).alloc hs1 (Obj.cells #[Value.int .u8 (d0.toNat : Int), Value.int .u8 (d1.toNat : Int), Value.int .u8 (d2.toNat : Int), Value.int .u8 (d3.toNat : Int)] 179)
        have hin1 := (bl.inside hbd1).2
        go_wp2_with fail
        refine (bl.bytes w.heap.size w.heap.size q w1.heap.size 4 4 [d0, d1, d2, d3] _ hbd2 rfl (by omega) (fun j u hj => by
          have := ow.cell_new w1 [Value.int .u8 (d0.toNat : Int), Value.int .u8 (d1.toNat : Int), Value.int .u8 (d2.toNat : Int), Value.int .u8 (d3.toNat : Int)] 179 j u
          exact this (by match j, hj with
            | 0, hj => simpa [Lib.byteCells] using hj
            | 1, hj => simpa [Lib.byteCells] using hj
            | 2, hj => simpa [Lib.byteCells] using hj
            | 3, hj => simpa [Lib.byteCells] using hj
            | j + 4, hj => simp [Lib.byteCells] at hj)) (by have := HLQ.out; omega) (by simp; omega)).mono ?_
        rintro e w2 ⟨⟨vv, rfl⟩, hbd3, hbw3⟩
        have hbw4 := hbw2.trans hbw3
        clear hbd1 hbd2 hbdF hbw2 hbwF hTF hb1
        go_wp2_with fail
        refine (bl.text w.heap.size w.heap.size _ _ _ hbd3 (by have := HLQ.out; simp; omega) (by have := hbw4.size; omega)).mono ?_
        rintro e w3 ⟨⟨vv2, rfl⟩, hbd5, hbw5⟩
        go_wp2
        go_roundw
        case rel => exact ⟨k + 3, _, by omega, by go_num, HG, (by rw [List.append_assoc] at hbd5; exact hbd5), hbw4.trans hbw5⟩
        case measure => simp [intOf]; omega
      by_cases h4 : k + 2 = n
      · skip
        have HG : Hid (Went l (q ++ [L (nv l k 3 / 262144), L (nv l k 3 / 4096 % 64), L (nv l k 3 / 64 % 64), 61]) (k + 3)) := grow4 HQ.out (step2 (by rw [← HN.out]; exact h4) rfl)
        have hx := nv2 (l := l) (k := k) (by rw [← HN.out]; exact h4)
        obtain ⟨F, hrun, hFb, hFB, hFs⟩ := copied (s := n - k) (cap := cap - k) [l.getD k 0, l.getD (k + 1) 0] (show 2 = Nat.min (n - k) 3 from by rw [show n - k = 2 by omega]; rfl)
          (fun j hj => by
            have : j = 0 ∨ j = 1 := by simp at hj; omega
            rcases this with rfl | rfl
            · exact HC.out k (by omega)
            · exact HC.out (k + 1) (by omega)) hblk hbw1
        have hrun' := hrun 3
        clear hrun HC hblk HQ
        go_region
        clear hrun'
        obtain ⟨hbdF, hbwF, hTF⟩ := HF.out F hFB
        have hF3 : F.heap[g]? = some (.cells #[.int .u8 ((l.getD k 0).toNat : Int), .int .u8 ((l.getD (k + 1) 0).toNat : Int), .int .u8 ((0 : Nat) : Int)] 178 (0, 0)) := hFb
        clear hFb
        have C4 : Hid (Calls Tryz.prog 195 #[.agg #[.int .u8 ((l.getD k 0).toNat : Int), .int .u8 ((l.getD (k + 1) 0).toNat : Int), .int .u8 ((0 : Nat) : Int)]] F fun e w' => e = .returned (.agg #[.int .u8 ((L (nv l k 3 / 262144)).toNat : Int), .int .u8 ((L (nv l k 3 / 4096 % 64)).toNat : Int), .int .u8 ((L (nv l k 3 / 64 % 64)).toNat : Int), .int .u8 ((L (nv l k 3 % 64)).toNat : Int)]) ∧ Below F.heap.size F w') :=
          four_any (l.getD k 0).toNat (l.getD (k + 1) 0).toNat 0 (nv l k 3) (hx.trans (Nat.add_zero _).symm) ((l.getD k 0).toNat_lt) ((l.getD (k + 1) 0).toNat_lt) (by decide) F hTF
        generalize L (nv l k 3 / 262144) = d0 at C4 HG
        generalize L (nv l k 3 / 4096 % 64) = d1 at C4 HG
        generalize L (nv l k 3 / 64 % 64) = d2 at C4 HG
        generalize L (nv l k 3 % 64) = d3 at C4
        clear hx
        generalize (l.getD k 0).toNat = A at C4 hF3
        generalize (l.getD (k + 1) 0).toNat = B at C4 hF3
        go_wp2_with (refine wpList_load_row rfl 178 _ rfl g rfl 178 _ (0, 0) _ hF3 Tryz.underlying178 rfl (by kernel_rfl) ?_)
        refine C4.out.mono ?_
        rintro e w1 ⟨rfl, hb1⟩
        clear C4 hF3
        have hbd1 := bl.keep hbdF hb1
        have hbd2 := bl.keep hbd1 ((Below.refl _ _).alloc (Nat.le_refl _) (Obj.cells #[Value.int .u8 (d0.toNat : Int), Value.int .u8 (d1.toNat : Int), Value.int .u8 (d2.toNat : Int), Value.int .u8 (d3.toNat : Int)] 179))
        have hsF : w.heap.size ≤ F.heap.size := hbwF.size
        have hs1 : w.heap.size ≤ w1.heap.size := Nat.le_trans hsF hb1.size
        have hbw2 := (hbwF.trans (hb1.mono hsF)).alloc hs1 (Obj.cells #[Value.int .u8 (d0.toNat : Int), Value.int .u8 (d1.toNat : Int), Value.int .u8 (d2.toNat : Int), Value.int .u8 (d3.toNat : Int)] 179)
        have hin1 := (bl.inside hbd1).2
        go_wp2_with fail
        refine (bl.bytes w.heap.size w.heap.size q w1.heap.size 3 4 [d0, d1, d2] _ hbd2 rfl (by omega) (fun j u hj => by
          have := ow.cell_new w1 [Value.int .u8 (d0.toNat : Int), Value.int .u8 (d1.toNat : Int), Value.int .u8 (d2.toNat : Int), Value.int .u8 (d3.toNat : Int)] 179 j u
          exact this (by match j, hj with
            | 0, hj => simpa [Lib.byteCells] using hj
            | 1, hj => simpa [Lib.byteCells] using hj
            | 2, hj => simpa [Lib.byteCells] using hj
            | j + 3, hj => simp [Lib.byteCells] at hj)) (by have := HLQ.out; omega) (by simp; omega)).mono ?_
        rintro e w2 ⟨⟨vv, rfl⟩, hbd3, hbw3⟩
        have hbw4 := hbw2.trans hbw3
        clear hbd1 hbd2 hbdF hbw2 hbwF hTF hb1
        go_wp2_with fail
        refine (bl.text w.heap.size w.heap.size _ _ _ hbd3 (by have := HLQ.out; simp [ByteArray.size_extract]; omega) (by have := hbw4.size; omega)).mono ?_
        rintro e w3 ⟨⟨vv2, rfl⟩, hbd5, hbw5⟩
        go_wp2
        go_roundw
        case rel => exact ⟨k + 3, _, by omega, by go_num, HG, (by rw [List.append_assoc] at hbd5; exact hbd5), hbw4.trans hbw5⟩
        case measure => simp [intOf]; omega
      · have h5 : k + 1 = n := by omega
        have HG : Hid (Went l (q ++ [L (nv l k 3 / 262144), L (nv l k 3 / 4096 % 64), 61, 61]) (k + 3)) := grow4 HQ.out (step1 (by rw [← HN.out]; exact h5) rfl)
        have hx := nv1 (l := l) (k := k) (by rw [← HN.out]; exact h5)
        obtain ⟨F, hrun, hFb, hFB, hFs⟩ := copied (s := n - k) (cap := cap - k) [l.getD k 0] (show 1 = Nat.min (n - k) 3 from by rw [show n - k = 1 by omega]; rfl)
          (fun j hj => by
            have : j = 0 := by simp at hj; omega
            subst this
            exact HC.out k (by omega)) hblk hbw1
        have hrun' := hrun 3
        clear hrun HC hblk HQ
        go_region
        clear hrun'
        obtain ⟨hbdF, hbwF, hTF⟩ := HF.out F hFB
        have hF3 : F.heap[g]? = some (.cells #[.int .u8 ((l.getD k 0).toNat : Int), .int .u8 ((0 : Nat) : Int), .int .u8 ((0 : Nat) : Int)] 178 (0, 0)) := hFb
        clear hFb
        have C4 : Hid (Calls Tryz.prog 195 #[.agg #[.int .u8 ((l.getD k 0).toNat : Int), .int .u8 ((0 : Nat) : Int), .int .u8 ((0 : Nat) : Int)]] F fun e w' => e = .returned (.agg #[.int .u8 ((L (nv l k 3 / 262144)).toNat : Int), .int .u8 ((L (nv l k 3 / 4096 % 64)).toNat : Int), .int .u8 ((L (nv l k 3 / 64 % 64)).toNat : Int), .int .u8 ((L (nv l k 3 % 64)).toNat : Int)]) ∧ Below F.heap.size F w') :=
          four_any (l.getD k 0).toNat 0 0 (nv l k 3) (hx.trans (by simp)) ((l.getD k 0).toNat_lt) (by decide) (by decide) F hTF
        generalize L (nv l k 3 / 262144) = d0 at C4 HG
        generalize L (nv l k 3 / 4096 % 64) = d1 at C4 HG
        generalize L (nv l k 3 / 64 % 64) = d2 at C4
        generalize L (nv l k 3 % 64) = d3 at C4
        clear hx
        generalize (l.getD k 0).toNat = A at C4 hF3
        go_wp2_with (refine wpList_load_row rfl 178 _ rfl g rfl 178 _ (0, 0) _ hF3 Tryz.underlying178 rfl (by kernel_rfl) ?_)
        refine C4.out.mono ?_
        rintro e w1 ⟨rfl, hb1⟩
        clear C4 hF3
        have hbd1 := bl.keep hbdF hb1
        have hbd2 := bl.keep hbd1 ((Below.refl _ _).alloc (Nat.le_refl _) (Obj.cells #[Value.int .u8 (d0.toNat : Int), Value.int .u8 (d1.toNat : Int), Value.int .u8 (d2.toNat : Int), Value.int .u8 (d3.toNat : Int)] 179))
        have hsF : w.heap.size ≤ F.heap.size := hbwF.size
        have hs1 : w.heap.size ≤ w1.heap.size := Nat.le_trans hsF hb1.size
        have hbw2 := (hbwF.trans (hb1.mono hsF)).alloc hs1 (Obj.cells #[Value.int .u8 (d0.toNat : Int), Value.int .u8 (d1.toNat : Int), Value.int .u8 (d2.toNat : Int), Value.int .u8 (d3.toNat : Int)] 179)
        have hin1 := (bl.inside hbd1).2
        go_wp2_with fail
        refine (bl.bytes w.heap.size w.heap.size q w1.heap.size 2 4 [d0, d1] _ hbd2 rfl (by omega) (fun j u hj => by
          have := ow.cell_new w1 [Value.int .u8 (d0.toNat : Int), Value.int .u8 (d1.toNat : Int), Value.int .u8 (d2.toNat : Int), Value.int .u8 (d3.toNat : Int)] 179 j u
          exact this (by match j, hj with
            | 0, hj => simpa [Lib.byteCells] using hj
            | 1, hj => simpa [Lib.byteCells] using hj
            | j + 2, hj => simp [Lib.byteCells] at hj)) (by have := HLQ.out; omega) (by simp; omega)).mono ?_
        rintro e w2 ⟨⟨vv, rfl⟩, hbd3, hbw3⟩
        have hbw4 := hbw2.trans hbw3
        clear hbd1 hbd2 hbdF hbw2 hbwF hTF hb1
        go_wp2_with fail
        refine (bl.text w.heap.size w.heap.size _ _ _ hbd3 (by have := HLQ.out; simp [ByteArray.size_extract]; omega) (by have := hbw4.size; omega)).mono ?_
        rintro e w3 ⟨⟨vv2, rfl⟩, hbd5, hbw5⟩
        go_wp2
        go_roundw
        case rel => exact ⟨k + 3, _, by omega, by go_num, HG, (by rw [List.append_assoc] at hbd5; exact hbd5), hbw4.trans hbw5⟩
        case measure => simp [intOf]; omega
    · have hd : l.drop k = [] := List.drop_eq_nil_of_le (by rw [← HN.out]; omega)
      have hq : q = enc l := by have := HQ.out; unfold Went at this; rw [hd] at this; simpa [enc] using this
      subst hq
      have hlt' : (n : Int) ≤ (k : Int) := by omega
      clear hd HQ H1
      go_wp2_with fail
      refine (bl.said w.heap.size w.heap.size _ _ hbd hbw.size).mono ?_
      rintro e w1 ⟨rfl, hb1⟩
      go_wp2
      go_ret2
      exact ⟨rfl, hbw.trans hb1⟩
end Go.Proofs.YtadfdfmebdcfgaaGreatDoor.b6

namespace Go.Proofs.YtadfdfmebdcfgaaGreatDoor.b6
open Go.RowKit
set_option linter.unusedVariables false

theorem V_lo (c : UInt8) : -1 ≤ V c ∧ V c < 64 := by
  rcases V_cases c with h | ⟨h, h2, _⟩ <;> omega
theorem V_high (c : UInt8) (h : 128 ≤ c.toNat) : V c = -1 := by
  unfold V
  rw [List.getD_eq_getElem?_getD, List.getElem?_eq_none (show vals.length ≤ c.toNat from h)]
  rfl

set_option maxHeartbeats 1000000 in
set_option maxRecDepth 100000 in
theorem value_any (c : UInt8) (w : World) (h : tb.TV w) :
    Calls Tryz.prog 206 #[.int .u8 (c.toNat : Int)] w fun e w' => e = .returned (.int .i64 (V c)) ∧ w' = w := by
  have hc := c.toNat_lt
  by_cases hh : 128 ≤ c.toNat
  · rw [V_high c hh]
    have hd : decide ((128 : Int) ≤ (c.toNat : Int)) = true := decide_eq_true (by omega)
    clear h
    generalize c.toNat = n at hh hd hc ⊢
    have hc2 : (n : Int) ≤ 255 := by omega
    go_enter Tryz.func206, Tryz.ntmps206
    go_wp2
    go_ret
    exact ⟨rfl, rfl⟩
  · have hcell := tb.tv_cell h c (by omega)
    obtain ⟨v0, v1⟩ := V_lo c
    clear h
    generalize c.toNat = n at hh hcell hc ⊢
    have hd : decide ((128 : Int) ≤ (n : Int)) = false := decide_eq_false (by omega)
    have hn : (n : Int) < 128 := by omega
    have hc2 : (n : Int) ≤ 255 := by omega
    go_enter Tryz.func206, Tryz.ntmps206
    go_wp2
    go_ret
    exact ⟨rfl, rfl⟩

set_option maxHeartbeats 1000000 in
set_option maxRecDepth 100000 in
theorem pads_any (s : ByteArray) (w : World) (hs : s.size ≤ 65536) :
    Calls Tryz.prog 205 #[.string s] w fun e w' => e = .returned (.string ⟨(strip s.data.toList).toArray⟩) ∧ w' = w := by
  have h1 : (trim1 s.data.toList).length ≤ s.size := by
    have : ∀ t : List UInt8, (trim1 t).length ≤ t.length := by
      intro t
      unfold trim1
      split
      · simp
      · exact Nat.le_refl _
    exact this _
  have HA := Tryz.strings_TrimSuffix s ⟨#[61]⟩ w (by omega)
  have HB := Tryz.strings_TrimSuffix ⟨(trim1 s.data.toList).toArray⟩ ⟨#[61]⟩ w (by show (trim1 s.data.toList).toArray.size ≤ _; rw [List.size_toArray]; omega)
  have e1 : Lib.trimSuffix s.data.toList (⟨#[61]⟩ : ByteArray).data.toList = trim1 s.data.toList := lib_trim _
  have e2 : Lib.trimSuffix (⟨(trim1 s.data.toList).toArray⟩ : ByteArray).data.toList (⟨#[61]⟩ : ByteArray).data.toList = strip s.data.toList := lib_trim _
  rw [e1] at HA
  rw [e2] at HB
  have HA' : Hid (Calls Tryz.prog 209 #[.string s, .string ⟨#[61]⟩] w fun e w' => e = .returned (.string ⟨(trim1 s.data.toList).toArray⟩) ∧ w' = w) := HA
  have HB' : Hid (Calls Tryz.prog 209 #[.string ⟨(trim1 s.data.toList).toArray⟩, .string ⟨#[61]⟩] w fun e w' => e = .returned (.string ⟨(strip s.data.toList).toArray⟩) ∧ w' = w) := HB
  clear HA HB e1 e2 h1
  generalize (⟨(trim1 s.data.toList).toArray⟩ : ByteArray) = x at HA' HB'
  generalize (⟨(strip s.data.toList).toArray⟩ : ByteArray) = y at HB' ⊢
  go_enter Tryz.func205, Tryz.ntmps205
  go_wp2_with fail
  refine HA'.out.mono ?_
  rintro e w1 ⟨rfl, rfl⟩
  go_wp2_with fail
  refine HB'.out.mono ?_
  rintro e w2 ⟨rfl, rfl⟩
  go_wp2
  go_ret
  exact ⟨rfl, rfl⟩

theorem mores {q : List UInt8} {b : UInt8} {o p : Option (List UInt8)} {r : Option (List UInt8)} (h : o.map (q ++ ·) = r) (e : o = p.map fun x => b :: x) : p.map ((q ++ [b]) ++ ·) = r := by
  rw [← h, e, Option.map_map]
  congr 1
  funext x
  simp
theorem falls {q : List UInt8} {o : Option (List UInt8)} {r : Option (List UInt8)} (h : o.map (q ++ ·) = r) (e : o = none) : r = none := by
  rw [← h, e]
  rfl
theorem got_none {s : ByteArray} {base : Nat} {w : World} {c : Int} (h1 : rl s = []) (h2 : rc s = c) : Got s base (.returned (.tuple #[.slice none 0 0, .int .i64 c])) w :=
  ⟨_, by rw [h2], by rw [h1]; exact World.ownsRow_nil _ _ _ _⟩
theorem rl_none {s : ByteArray} (hl : s.size ≤ 65536) (h : dec s.data.toList = none) : rl s = [] ∧ rc s = 3 := by
  unfold rl rc
  rw [if_pos hl, if_pos hl, h]
  exact ⟨rfl, rfl⟩
theorem rl_some {s : ByteArray} {o : List UInt8} (hl : s.size ≤ 65536) (h : dec s.data.toList = some o) : rl s = o ∧ rc s = 0 := by
  unfold rl rc
  rw [if_pos hl, if_pos hl, h]
  exact ⟨rfl, rfl⟩
theorem start_map' (t : List UInt8) (h : t.drop 0 = t) : (rd 0 0 (t.drop 0)).map ([] ++ ·) = rd 0 0 t := by simp

theorem andm (i : Nat) (z : Int) (n : Nat) (h : z = n) (hn : n < 4294967296) (hi : i ≤ 20) : bits .and .i64 z (2 ^ i - 1) = ((n % 2 ^ i : Nat) : Int) := by
  subst h
  have := bits_mask .i64 62 (by decide) wraps_i64 i (by omega) (n : Int) (by omega) (by omega)
  rw [this]
  exact (Int.natCast_emod n (2 ^ i)).symm ▸ (by rw [Int.natCast_pow]; rfl)

theorem rl_len (s : ByteArray) : (rl s).length ≤ 65536 := by
  unfold rl
  split
  · rename_i h
    cases hd : dec s.data.toList with
    | none => simp
    | some o =>
      have e := congrArg List.length (enc_dec hd)
      rw [enc_length] at e
      have : s.data.toList.length = s.size := rfl
      simp only [Option.getD_some]
      omega
  · simp

set_option maxHeartbeats 4000000 in
set_option maxRecDepth 100000 in
theorem implGet_any (s : ByteArray) (w : World) (hT : tb.TV w) (hs : s.size ≤ maxLen) :
    Calls Tryz.prog 193 #[.string s] w fun e w' => Got s w.heap.size e w' ∧ Below w.heap.size w w' := by
  unfold maxLen at hs
  by_cases hl : s.size ≤ 65536
  case neg =>
    have hd : (65536 : Int) < (s.size : Int) := by omega
    have HX : Hid (rl s = [] ∧ rc s = 2) := ⟨if_neg hl, if_neg hl⟩
    clear hT
    go_enter Tryz.func193, Tryz.ntmps193
    go_wp2
    go_ret2
    exact ⟨got_none HX.out.1 HX.out.2, Below.refl _ _⟩
  have hld : decide (65536 < (s.size : Int)) = false := decide_eq_false (by omega)
  have hl' : (s.size : Int) ≤ 65536 := by omega
  by_cases h4 : s.size % 4 = 0
  case neg =>
    have HX := rl_none hl (dec_short _ _ (Nat.le_refl _) h4)
    have hb : ((s.size : Int) % 4 != 0) = true := by rw [bne_iff_ne]; omega
    have HX : Hid (rl s = [] ∧ rc s = 3) := HX
    clear hT
    go_enter Tryz.func193, Tryz.ntmps193
    go_wp2
    go_ret2
    exact ⟨got_none HX.out.1 HX.out.2, Below.refl _ _⟩
  have hb : ((s.size : Int) % 4 != 0) = false := by rw [bne_eq_false_iff_eq]; omega
  have HRD : Hid (rd 0 0 (strip s.data.toList) = dec s.data.toList) := rd_dec h4
  have hsl : (strip s.data.toList).length ≤ s.size := strip_len _
  have HP : Hid (Calls Tryz.prog 205 #[.string s] w fun e w' => e = .returned (.string ⟨(strip s.data.toList).toArray⟩) ∧ w' = w) := pads_any s w hl
  obtain ⟨r, hr⟩ : ∃ r : ByteArray, r = ⟨(strip s.data.toList).toArray⟩ := ⟨_, rfl⟩
  have hrl : r.data.toList = strip s.data.toList := by rw [hr]
  have hrs : r.size ≤ s.size := by
    have : r.size = (strip s.data.toList).length := by rw [hr]; show (strip s.data.toList).toArray.size = _; rw [List.size_toArray]
    omega
  rw [← hrl] at HRD
  rw [← hr] at HP
  clear hr hsl hrl
  obtain ⟨i0, hi, hz0, hz1, hz2⟩ := info_parts bl.info1
  go_enter Tryz.func193, Tryz.ntmps193
  go_wp2_with fail
  refine HP.out.mono ?_
  rintro e w1 ⟨rfl, rfl⟩
  clear HP
  go_wp2_with (at_make; go_loud (refine wpList_make_own _ rfl _ _ 22 rfl w1.heap.size 5 i0 (.int .u8 0) 1 Tryz.underlying22 hi hz0 hz1 _ _ _ (s.size / 4 * 3) rfl rfl (by go_num) (by rw [hz2]; omega) (by unfold maxLen; omega) (Nat.le_refl _) ?_); intro w2 hown1 hg1)
  have hbw2 : Below w1.heap.size w1 w2 := (Below.refl _ _).grown hg1 (Nat.le_refl _) (fun k hk => by cases hk)
  have HTT : Hid (∀ W, Below w1.heap.size w1 W → tb.TV W) := fun W hW => tb.keep' hT hW
  clear hg1 hT
  go_loopw [5, 6, 7, 26] (fun b h c i wr => ∃ (k hh cc : Nat) (q : List UInt8), k ≤ r.size ∧ i = .int .i64 k ∧ h = .int .i64 hh ∧ c = .int .i64 cc ∧ (cc = 0 ∨ cc = 2 ∨ cc = 4 ∨ cc = 6) ∧ hh < 2 ^ cc ∧ Hid ((rd hh cc (r.data.toList.drop k)).map (q ++ ·) = rd 0 0 r.data.toList) ∧ Hid (q.length ≤ k) ∧ wr.ownsRow w1.heap.size 5 1 b q.length (Lib.byteCells q) ∧ Below w1.heap.size w1 wr) (fun _ _ _ i _ => r.size - (intOf i).toNat)
  case atStart => exact ⟨0, 0, 0, [], Nat.zero_le _, rfl, rfl, rfl, .inl rfl, by decide, start_map' _ rfl, Nat.zero_le _, hown1, hbw2⟩
  case round =>
    clear hown1 hbw2
    obtain ⟨k, hh, cc, q, hk, rfl, rfl, rfl, hcc, hhc, HQ, HL, hown, hbw⟩ := hrel
    by_cases hlt : k < r.size
    · have hlt' : (k : Int) < (r.size : Int) := by omega
      have hx := str_at r (k : Int) k rfl hlt
      obtain ⟨c0, hc0⟩ : ∃ c, c = r.data.toList.getD k 0 := ⟨_, rfl⟩
      have HC : Hid (c0 = r.data.toList.getD k 0) := hc0
      rw [← hc0] at hx
      clear hc0
      have hTV := HTT.out wr hbw
      go_wp2_with fail
      refine (value_any c0 _ hTV).mono ?_
      rintro e wx ⟨rfl, rfl⟩
      clear hTV hx
      rcases V_cases c0 with hv | ⟨hv0, hv1, -⟩
      · have hvn : V c0 < 0 := by omega
        have HX : Hid (rl s = [] ∧ rc s = 3) := rl_none hl (HRD.out ▸ falls HQ.out (by rw [drop_cons (l := r.data.toList) (k := k) hlt, ← HC.out, rd_no hvn]))
        clear HQ HC hown HRD
        go_wp2
        go_ret2
        exact ⟨got_none HX.out.1 HX.out.2, hbw⟩
      obtain ⟨vv, hvv⟩ : ∃ v : Nat, V c0 = (v : Int) := ⟨(V c0).toNat, by omega⟩
      have hvd : decide ((vv : Int) < 0) = false := decide_eq_false (by omega)
      rw [hvv] at hv1 ⊢
      have hv64 : vv < 64 := by omega
      clear hv0
      rcases hcc with rfl | rfl | rfl | rfl
      · obtain rfl : hh = 0 := by simp at hhc; omega
        have eo := or_add 6 0 vv (by omega) (by omega) (by omega) (by omega) (by decide)
        simp only [Int.natCast_zero, Nat.zero_add] at eo
        have HR2 : Hid ((rd vv 6 (r.data.toList.drop (k + 1))).map (q ++ ·) = rd 0 0 r.data.toList) := by
          have h1 := HQ.out
          rw [drop_cons (l := r.data.toList) (k := k) hlt, ← HC.out, rd_part (by rw [hvv]; omega), hvv] at h1
          show Option.map _ _ = _
          simpa using h1
        clear HQ HC hvv
        go_wp2
        go_roundw
        case rel => exact ⟨k + 1, vv, 6, q, by omega, by go_num, rfl, rfl, .inr (.inr (.inr rfl)), by omega, HR2, Nat.le_succ_of_le HL.out, hown, hbw⟩
        case measure => simp [intOf]; omega
      · skip
        have hx6 : hh * 64 + vv < 256 := by omega
        have eo := or_add 6 (hh * 64) vv (by omega) (by omega) (by omega) (by omega) (by decide)
        rw [show (((hh * 64 : Nat)) : Int) = (hh : Int) * 64 from by omega] at eo
        have HR2 : Hid ((rd ((hh * 64 + vv) % 1) 0 (r.data.toList.drop (k + 1))).map ((q ++ [UInt8.ofNat ((hh * 64 + vv) / 1)]) ++ ·) = rd 0 0 r.data.toList) := mores HQ.out (by
          rw [drop_cons (l := r.data.toList) (k := k) hlt, ← HC.out, rd_full (by rw [hvv]; omega) (by decide), hvv]
          rfl)
        have ea := andm 0 ((hh : Int) * 64 + (vv : Int)) (hh * 64 + vv) (by omega) (by omega) (by decide)
        rw [show ((2 : Int) ^ 0 - 1) = 0 from by decide] at ea
        have EA : Hid (bits .and .i64 ((hh : Int) * 64 + (vv : Int)) 0 = (((hh * 64 + vv) % 1 : Nat) : Int)) := ea
        clear ea
        clear HQ HC hvv
        have hx6' : (hh : Int) * 64 + (vv : Int) ≤ 255 := by omega
        have hcell : ((UInt8.ofNat ((hh * 64 + vv) / 1)).toNat : Int) = (hh : Int) * 64 + (vv : Int) := by rw [UInt8.toNat_ofNat']; omega
        have HB : Hid (Lib.byteCells [UInt8.ofNat ((hh * 64 + vv) / 1)] = [Value.int .u8 ((hh : Int) * 64 + (vv : Int))]) := by rw [← hcell]; rfl
        clear hcell
        have hsz := hbw.size
        go_wp2_with (at_builtin; go_loud (refine wpList_append_own _ rfl _ _ 22 rfl w1.heap.size 5 i0 (.int .u8 0) 1 1 Tryz.underlying22 hi hz0 hz1 hz2 rfl (by decide) _ _ _ rfl (hown.alloc _) ⟨wx.heap.size, 0, none⟩ 1 1 [Value.int .u8 ((hh : Int) * 64 + (vv : Int))] rfl rfl (ow.cells_new wx _ 5) (by simp [Value.oneCell']) (by have := HL.out; unfold maxLen; omega) (by have := HL.out; omega) (by simp; omega) ?_); intro v' w3 hown' hgrow _)
        have hbz := (hbw.alloc hsz _).grown hgrow (by simp; omega) (ow.own_lt hown)
        obtain ⟨ao, n', cap', rfl⟩ : ∃ ao n' cap, v' = .slice ao n' cap := by
          rcases hown'.2 with ⟨hv, _⟩ | ⟨g, cap, cur, hv, _⟩
          · exact ⟨_, _, _, hv⟩
          · exact ⟨_, _, _, hv⟩
        rw [← HB.out, ← Lib.byteCells_append] at hown'
        go_wp2
        go_roundw
        case rel => exact ⟨k + 1, (hh * 64 + vv) % 1, 0, _, by omega, by go_num, (by rw [← EA.out]), by go_num, by omega, by omega, HR2, (show (q ++ [UInt8.ofNat ((hh * 64 + vv) / 1)]).length ≤ k + 1 by rw [List.length_append]; have := HL.out; simp; omega), by rw [List.length_append]; exact hown', hbz⟩
        case measure => simp [intOf]; omega
      · skip
        have hx6 : hh * 64 + vv < 1024 := by omega
        have eo := or_add 6 (hh * 64) vv (by omega) (by omega) (by omega) (by omega) (by decide)
        rw [show (((hh * 64 : Nat)) : Int) = (hh : Int) * 64 from by omega] at eo
        have HR2 : Hid ((rd ((hh * 64 + vv) % 4) 2 (r.data.toList.drop (k + 1))).map ((q ++ [UInt8.ofNat ((hh * 64 + vv) / 4)]) ++ ·) = rd 0 0 r.data.toList) := mores HQ.out (by
          rw [drop_cons (l := r.data.toList) (k := k) hlt, ← HC.out, rd_full (by rw [hvv]; omega) (by decide), hvv]
          rfl)
        have ea := andm 2 ((hh : Int) * 64 + (vv : Int)) (hh * 64 + vv) (by omega) (by omega) (by decide)
        rw [show ((2 : Int) ^ 2 - 1) = 3 from by decide] at ea
        have EA : Hid (bits .and .i64 ((hh : Int) * 64 + (vv : Int)) 3 = (((hh * 64 + vv) % 4 : Nat) : Int)) := ea
        clear ea
        clear HQ HC hvv
        have hx6' : (hh : Int) * 64 + (vv : Int) ≤ 1023 := by omega
        have hcell : ((UInt8.ofNat ((hh * 64 + vv) / 4)).toNat : Int) = ((hh : Int) * 64 + (vv : Int)) / 4 := by rw [UInt8.toNat_ofNat']; omega
        have HB : Hid (Lib.byteCells [UInt8.ofNat ((hh * 64 + vv) / 4)] = [Value.int .u8 (((hh : Int) * 64 + (vv : Int)) / 4)]) := by rw [← hcell]; rfl
        clear hcell
        have hsz := hbw.size
        go_wp2_with (at_builtin; go_loud (refine wpList_append_own _ rfl _ _ 22 rfl w1.heap.size 5 i0 (.int .u8 0) 1 1 Tryz.underlying22 hi hz0 hz1 hz2 rfl (by decide) _ _ _ rfl (hown.alloc _) ⟨wx.heap.size, 0, none⟩ 1 1 [Value.int .u8 (((hh : Int) * 64 + (vv : Int)) / 4)] rfl rfl (ow.cells_new wx _ 5) (by simp [Value.oneCell']) (by have := HL.out; unfold maxLen; omega) (by have := HL.out; omega) (by simp; omega) ?_); intro v' w3 hown' hgrow _)
        have hbz := (hbw.alloc hsz _).grown hgrow (by simp; omega) (ow.own_lt hown)
        obtain ⟨ao, n', cap', rfl⟩ : ∃ ao n' cap, v' = .slice ao n' cap := by
          rcases hown'.2 with ⟨hv, _⟩ | ⟨g, cap, cur, hv, _⟩
          · exact ⟨_, _, _, hv⟩
          · exact ⟨_, _, _, hv⟩
        rw [← HB.out, ← Lib.byteCells_append] at hown'
        go_wp2
        go_roundw
        case rel => exact ⟨k + 1, (hh * 64 + vv) % 4, 2, _, by omega, by go_num, (by rw [← EA.out]), by go_num, by omega, by omega, HR2, (show (q ++ [UInt8.ofNat ((hh * 64 + vv) / 4)]).length ≤ k + 1 by rw [List.length_append]; have := HL.out; simp; omega), by rw [List.length_append]; exact hown', hbz⟩
        case measure => simp [intOf]; omega
      · skip
        have hx6 : hh * 64 + vv < 4096 := by omega
        have eo := or_add 6 (hh * 64) vv (by omega) (by omega) (by omega) (by omega) (by decide)
        rw [show (((hh * 64 : Nat)) : Int) = (hh : Int) * 64 from by omega] at eo
        have HR2 : Hid ((rd ((hh * 64 + vv) % 16) 4 (r.data.toList.drop (k + 1))).map ((q ++ [UInt8.ofNat ((hh * 64 + vv) / 16)]) ++ ·) = rd 0 0 r.data.toList) := mores HQ.out (by
          rw [drop_cons (l := r.data.toList) (k := k) hlt, ← HC.out, rd_full (by rw [hvv]; omega) (by decide), hvv]
          rfl)
        have ea := andm 4 ((hh : Int) * 64 + (vv : Int)) (hh * 64 + vv) (by omega) (by omega) (by decide)
        rw [show ((2 : Int) ^ 4 - 1) = 15 from by decide] at ea
        have EA : Hid (bits .and .i64 ((hh : Int) * 64 + (vv : Int)) 15 = (((hh * 64 + vv) % 16 : Nat) : Int)) := ea
        clear ea
        clear HQ HC hvv
        have hx6' : (hh : Int) * 64 + (vv : Int) ≤ 4095 := by omega
        have hcell : ((UInt8.ofNat ((hh * 64 + vv) / 16)).toNat : Int) = ((hh : Int) * 64 + (vv : Int)) / 16 := by rw [UInt8.toNat_ofNat']; omega
        have HB : Hid (Lib.byteCells [UInt8.ofNat ((hh * 64 + vv) / 16)] = [Value.int .u8 (((hh : Int) * 64 + (vv : Int)) / 16)]) := by rw [← hcell]; rfl
        clear hcell
        have hsz := hbw.size
        go_wp2_with (at_builtin; go_loud (refine wpList_append_own _ rfl _ _ 22 rfl w1.heap.size 5 i0 (.int .u8 0) 1 1 Tryz.underlying22 hi hz0 hz1 hz2 rfl (by decide) _ _ _ rfl (hown.alloc _) ⟨wx.heap.size, 0, none⟩ 1 1 [Value.int .u8 (((hh : Int) * 64 + (vv : Int)) / 16)] rfl rfl (ow.cells_new wx _ 5) (by simp [Value.oneCell']) (by have := HL.out; unfold maxLen; omega) (by have := HL.out; omega) (by simp; omega) ?_); intro v' w3 hown' hgrow _)
        have hbz := (hbw.alloc hsz _).grown hgrow (by simp; omega) (ow.own_lt hown)
        obtain ⟨ao, n', cap', rfl⟩ : ∃ ao n' cap, v' = .slice ao n' cap := by
          rcases hown'.2 with ⟨hv, _⟩ | ⟨g, cap, cur, hv, _⟩
          · exact ⟨_, _, _, hv⟩
          · exact ⟨_, _, _, hv⟩
        rw [← HB.out, ← Lib.byteCells_append] at hown'
        go_wp2
        go_roundw
        case rel => exact ⟨k + 1, (hh * 64 + vv) % 16, 4, _, by omega, by go_num, (by rw [← EA.out]), by go_num, by omega, by omega, HR2, (show (q ++ [UInt8.ofNat ((hh * 64 + vv) / 16)]).length ≤ k + 1 by rw [List.length_append]; have := HL.out; simp; omega), by rw [List.length_append]; exact hown', hbz⟩
        case measure => simp [intOf]; omega
    · have hd : r.data.toList.drop k = [] := List.drop_eq_nil_of_le (by show r.size ≤ k; omega)
      have hlt' : (r.size : Int) ≤ (k : Int) := by omega
      by_cases h0 : hh = 0
      · subst h0
        have HX : Hid (rl s = q ∧ rc s = 0) := rl_some hl (by rw [← HRD.out, ← HQ.out, hd, rd_nil, if_pos rfl]; simp)
        clear HQ HRD hd
        go_wp2
        go_ret2
        exact ⟨⟨_, by rw [HX.out.2]; rfl, by rw [HX.out.1]; exact hown⟩, hbw⟩
      · have HX : Hid (rl s = [] ∧ rc s = 3) := rl_none hl (by rw [← HRD.out, ← HQ.out, hd, rd_nil, if_neg h0]; rfl)
        have h0b : ((hh : Int) != 0) = true := by rw [bne_iff_ne]; omega
        clear HQ HRD hd hown
        go_wp2
        go_ret2
        exact ⟨got_none HX.out.1 HX.out.2, hbw⟩
end Go.Proofs.YtadfdfmebdcfgaaGreatDoor.b6

namespace Go.Proofs.YtadfdfmebdcfgaaGreatDoor.ut
open Go.RowKit
set_option linter.unusedVariables false

end Go.Proofs.YtadfdfmebdcfgaaGreatDoor.ut
