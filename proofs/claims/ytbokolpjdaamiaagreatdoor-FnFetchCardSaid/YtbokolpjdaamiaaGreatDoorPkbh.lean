/-
  Texts put together with a sign between: the library's Join.
  Flags written as a text: both functions.
-/
import Derived.Test.YtbokolpjdaamiaaGreatDoorPkbg
import Derived.Test.YtbokolpjdaamiaaGreatDoorPkbf

namespace Go.Proofs.YtbokolpjdaamiaaGreatDoor.bl
open Go.RowKit
open sp
set_option linter.unusedVariables false

set_option maxHeartbeats 4000000 in
set_option maxRecDepth 100000 in
theorem grow_any (n : Nat) (w : World) (hn : n ≤ 1048576) :
    Calls Tryz.prog 66 #[.pointer (some ⟨w.heap.size, 0, none⟩), .int .i64 n] (w.alloc (.cells #[.pointer none, .slice none 0 0] 89)) fun e w' => e = .returned (.tuple #[]) ∧ Bd w.heap.size w.heap.size [] w' ∧ Below w.heap.size w w' := by
  have hbk : (w.alloc (.cells #[.pointer none, .slice none 0 0] 89)).heap[w.heap.size]? = some (.cells #[.pointer none, .slice none 0 0] 89 (0, 0)) := (MapKept.heap_alloc w _).1
  have b0 : Below w.heap.size w (w.alloc (.cells #[.pointer none, .slice none 0 0] 89)) := (Below.refl _ _).alloc (Nat.le_refl _) _
  have hsz : w.heap.size ≤ (w.alloc (.cells #[.pointer none, .slice none 0 0] 89)).heap.size := by simp
  generalize w.alloc (.cells #[.pointer none, .slice none 0 0] 89) = w0 at hbk b0 hsz ⊢
  generalize w.heap.size = b at hbk b0 hsz ⊢
  have hbk1 : (w0.setCell ⟨b, 0, none⟩ (.pointer (some ⟨b, 0, none⟩))).heap[b]? = some (.cells #[.pointer (some ⟨b, 0, none⟩), .slice none 0 0] 89 (0, 0)) := by
    simp [World.setCell, Array.getElem?_modify, hbk]
  have hb1 : Below b w (w0.setCell ⟨b, 0, none⟩ (.pointer (some ⟨b, 0, none⟩))) := b0.setCell (p := ⟨b, 0, none⟩) (Nat.le_refl _) _
  have c1 : (w0.setCell ⟨b, 0, none⟩ (.pointer (some ⟨b, 0, none⟩))).cell? ⟨b, 1, none⟩ = some (.slice none 0 0) := by rw [Lib.cell_of_heap hbk1]; rfl
  have hU : Lib.BuilderAt 89 5 b b (.pointer (some ⟨b, 0, none⟩)) [] (w0.setCell ⟨b, 0, none⟩ (.pointer (some ⟨b, 0, none⟩))) := ⟨Nat.le_refl _, .slice none 0 0, hbk1, World.ownsRow_nil _ _ _ _, by simp [Value.ownBlock]⟩
  have HBK : Hid (w0.heap[b]? = some (.cells #[.pointer none, .slice none 0 0] 89 (0, 0))) := hbk
  have hs1 : b ≤ (w0.setCell ⟨b, 0, none⟩ (.pointer (some ⟨b, 0, none⟩))).heap.size := by simpa [World.setCell] using hsz
  clear hbk hsz b0
  go_enter Tryz.func66, Tryz.ntmps66
  go_wp2_with fail
  refine (place_fresh b w0 (by rw [Lib.cell_of_heap HBK.out]; rfl) (by simp [World.shape?, HBK.out]) (Lib.frozen_of_heap HBK.out 0)).mono ?_
  rintro e w1 ⟨rfl, hw1⟩
  rw [← hw1] at hb1 hbk1 c1 hU hs1
  clear hw1 HBK
  go_wp2_with fail
  go_quiet (fail)
  have HR : Hid (∀ q, Calls Tryz.prog 86 #[.pointer (some ⟨b, 0, none⟩), .int .i64 n] (w1.drewN q) fun e w' => e = .returned (.tuple #[]) ∧ (Lib.BuilderAt 89 5 b b (.pointer (some ⟨b, 0, none⟩)) [] w' ∧ Below b (w1.drewN q) w')) := fun q => roomy b b n _ (Nat.le_refl _) hbk1 hs1 hn
  have HU : Hid (∀ q, Lib.BuilderAt 89 5 b b (.pointer (some ⟨b, 0, none⟩)) [] (w1.drewN q)) := fun q => hU
  have HB1 : Hid (∀ q, Below b w (w1.drewN q)) := fun q => below_drewN hb1 q
  clear hU hb1 hbk1 c1
  try rw [show IntKind.i64.wrap 0 = 0 from rfl]
  by_cases h0 : n = 0
  · subst h0
    go_wp2
    go_end0
    exact ⟨rfl, .inr (HU.out _), HB1.out _⟩
  · have h0' : (0 : Int) < (n : Int) := by omega
    go_wp2_with fail
    refine (HR.out _).mono ?_
    rintro e w2 ⟨rfl, h1, h2⟩
    have HZ : Hid (Bd b b [] w2 ∧ Below b w w2) := ⟨.inr h1, (HB1.out _).trans h2⟩
    clear HR HU HB1 h1 h2
    go_wp2
    go_end0
    exact ⟨rfl, HZ.out⟩

/-- Texts with a sign between. -/
def tails (c : UInt8) (r : List (List UInt8)) : List UInt8 := r.flatMap fun y => c :: y
def jn (c : UInt8) : List (List UInt8) → List UInt8
  | [] => []
  | x :: r => x ++ tails c r
def lens (V : List (List UInt8)) : Nat := V.foldr (fun x n => x.length + n) 0
theorem tails_snoc (c : UInt8) (r : List (List UInt8)) (k : Nat) (h : k < r.length) : tails c (r.take (k + 1)) = tails c (r.take k) ++ (c :: r[k]) := by
  unfold tails
  rw [List.take_succ_eq_append_getElem h, List.flatMap_append, List.flatMap_cons, List.flatMap_nil, List.append_nil]
theorem lens_snoc (V : List (List UInt8)) (k : Nat) (h : k < V.length) : lens (V.take (k + 1)) = lens (V.take k) + (V.getD k []).length := by
  rw [List.take_succ_eq_append_getElem h]
  have e : V.getD k [] = V[k] := by simp [List.getD_eq_getElem?_getD, h]
  rw [e]
  generalize V.take k = l
  induction l with
  | nil => simp [lens]
  | cons a l ih => simp [lens] at ih ⊢; omega
theorem lens_take_le (V : List (List UInt8)) (k : Nat) : lens (V.take k) ≤ lens V := by
  induction V generalizing k with
  | nil => simp [lens]
  | cons a V ih =>
    cases k with
    | zero => simp [lens]
    | succ k => have := ih k; simp [lens] at this ⊢; omega
theorem tails_len (c : UInt8) (r : List (List UInt8)) : (tails c r).length = r.length + lens r := by
  induction r with
  | nil => rfl
  | cons a r ih => simp [tails, lens] at ih ⊢; omega

theorem join_none (a : Option Addr) (cap : Nat) (c : UInt8) (w : World) :
    Calls Tryz.prog 38 #[.slice a 0 cap, .string ⟨#[c]⟩] w fun e w' => e = .returned (.string ⟨#[]⟩) ∧ w' = w := by
  go_enter Tryz.func38, Tryz.ntmps38
  go_wp2
  go_ret
  exact ⟨rfl, rfl⟩
set_option maxHeartbeats 2000000 in
set_option maxRecDepth 100000 in
theorem join_one (b off cap : Nat) (x : ByteArray) (c : UInt8) (w : World) (h : w.cell? ⟨b, off, none⟩ = some (.string x)) :
    Calls Tryz.prog 38 #[.slice (some ⟨b, off, none⟩) 1 cap, .string ⟨#[c]⟩] w fun e w' => e = .returned (.string x) ∧ w' = w := by
  go_enter Tryz.func38, Tryz.ntmps38
  go_wp2
  go_ret
  exact ⟨rfl, rfl⟩

set_option maxHeartbeats 4000000 in
set_option maxRecDepth 100000 in
theorem join_many (b cap : Nat) (V : List (List UInt8)) (c : UInt8) (w : World) (hb : b < w.heap.size) (hc : ∀ j, j < V.length → w.cell? ⟨b, j, none⟩ = some (.string ⟨(V.getD j []).toArray⟩)) (h2 : 2 ≤ V.length) (hcap : V.length ≤ cap) (hl : V.length + lens V ≤ 1048576) :
    Calls Tryz.prog 38 #[.slice (some ⟨b, 0, none⟩) V.length cap, .string ⟨#[c]⟩] w fun e w' => e = .returned (.string ⟨(jn c V).toArray⟩) ∧ Below w.heap.size w w' := by
  have HC : Hid (∀ j, j < V.length → w.cell? ⟨b, j, none⟩ = some (.string ⟨(V.getD j []).toArray⟩)) := hc
  obtain ⟨n, hn⟩ : ∃ n, n = V.length := ⟨_, rfl⟩
  have HN : Hid (n = V.length) := hn
  have hll : ∀ k, lens (V.take k) ≤ 1048576 - n := fun k => by have := lens_take_le V k; omega
  have HLL : Hid (∀ k, lens (V.take k) ≤ 1048576 - n) := hll
  have hnl : n ≤ 1048576 := by omega
  rw [← hn] at h2 hcap ⊢
  have hS : (⟨#[c]⟩ : ByteArray).size = 1 := rfl
  have HSL : Hid ((⟨#[c]⟩ : ByteArray).data.toList = [c]) := rfl
  generalize (⟨#[c]⟩ : ByteArray) = S at hS HSL ⊢
  have hne0 : ((n : Int) == 0) = false := beq_eq_false_iff_ne.2 (by omega)
  have hne1 : ((n : Int) == 1) = false := beq_eq_false_iff_ne.2 (by omega)
  have hS1 : (S.size : Int) = 1 := by omega
  have hdv : ¬ (9223372036854775807 / ((n : Int) - 1) ≤ (1 : Int)) := by
    have h1 : (1 : Int) < 9223372036854775807 / ((n : Int) - 1) := by
      have : (2 : Int) ≤ 9223372036854775807 / ((n : Int) - 1) := by
        rw [Int.le_ediv_iff_mul_le (by omega)]
        omega
      omega
    omega
  clear hc hl hn hll
  go_enter Tryz.func38, Tryz.ntmps38
  go_wp2_with fail
  go_loopw [5, 41] (fun z i wr => ∃ k : Nat, k ≤ n ∧ i = .int .i64 k ∧ z = .int .i64 ((n : Int) - 1 + (lens (V.take k) : Int)) ∧ wr = w) (fun _ i _ => n - (intOf i).toNat)
  case atStart => exact ⟨0, Nat.zero_le _, rfl, by simp [lens], rfl⟩
  case round =>
    obtain ⟨k, hk, rfl, rfl, hwr⟩ := hrel
    have hwr := hwr.symm
    subst hwr
    by_cases hlt : k < n
    · have hlt' : (k : Int) < (n : Int) := by omega
      have hkv : k < V.length := by rw [← HN.out]; exact hlt
      have hcx := HC.out k hkv
      have hsn := lens_snoc V k hkv
      have hb1 := HLL.out (k + 1)
      obtain ⟨x, hx⟩ : ∃ x : ByteArray, x = ⟨(V.getD k []).toArray⟩ := ⟨_, rfl⟩
      rw [← hx] at hcx
      have hxs : x.size = (V.getD k []).length := by rw [Lib.size_eq, hx]
      rw [← hxs] at hsn
      generalize hA : lens (V.take (k + 1)) = A1 at hsn hb1
      generalize lens (V.take k) = A0 at hsn ⊢
      have HA : Hid (lens (V.take (k + 1)) = A1) := hA
      have HSN : Hid (A1 = A0 + x.size) := hsn
      have hq : (x.size : Int) ≤ 9223372036854775807 - ((n : Int) - 1 + (A0 : Int)) := by omega
      have hq0 : (A0 : Int) ≤ 1048576 := by omega
      have hq1 : (x.size : Int) ≤ 1048576 := by omega
      clear hA hsn hx hxs hkv hb1
      go_wp2
      go_roundw
      case rel => exact ⟨k + 1, by omega, by go_num, by rw [HA.out, HSN.out]; congr 1; omega, by trivial⟩
      case measure => simp [intOf]; omega
    · have hkn : k = n := by omega
      subst hkn
      obtain ⟨x0, r, hV⟩ : ∃ x0 r, V = x0 :: r := by
        cases V with
        | nil => have := HN.out; simp at this; omega
        | cons a t => exact ⟨a, t, rfl⟩
      have HV : Hid (V = x0 :: r) := hV
      have HRL : Hid (r.length + 1 = k) := by rw [HN.out, hV]; rfl
      have hall : V.take k = V := by rw [HN.out]; exact List.take_of_length_le (Nat.le_refl _)
      rw [hall]
      have hT := HLL.out k
      rw [hall] at hT
      have HJ : Hid (jn c V = x0 ++ tails c r) := by rw [hV]; rfl
      have HLE : Hid (∀ m, (x0 ++ tails c (r.take m)).length ≤ 1048576) := fun m => by
        have e1 := tails_len c (r.take m)
        have e2 := lens_take_le r m
        have e3 : lens V = x0.length + lens r := by rw [hV]; rfl
        have e4 : (r.take m).length ≤ r.length := by rw [List.length_take]; omega
        have e5 := HRL.out
        rw [List.length_append]
        omega
      clear hall hV
      generalize hTT : lens V = T at hT ⊢
      clear hTT
      go_wp2_with fail
      rw [show ((k : Int) - 1 + (T : Int)) = ((k - 1 + T : Nat) : Int) by omega]
      refine (grow_any (k - 1 + T) w (by omega)).mono ?_
      rintro e w1 ⟨rfl, h1, hb1⟩
      have HB1 : Hid (Bd w.heap.size w.heap.size [] w1) := h1
      have hc0 : w1.cell? ⟨b, 0, none⟩ = some (.string ⟨x0.toArray⟩) := by
        rw [hb1.cell (p := ⟨b, 0, none⟩) hb]
        have := HC.out 0 (by rw [← HN.out]; omega)
        rw [HV.out] at this
        exact this
      have hxl := HLE.out 0
      obtain ⟨X0, hX0⟩ : ∃ X0 : ByteArray, X0 = ⟨x0.toArray⟩ := ⟨_, rfl⟩
      rw [← hX0] at hc0
      have hx0 : X0.data.toList = x0 := by rw [hX0]
      have HX0 : Hid (X0.data.toList = x0) := hx0
      have hX0s : X0.size ≤ 1048576 := by rw [Lib.size_eq, hx0]; simp [tails] at hxl; exact hxl
      have hB1 : w.heap.size ≤ w1.heap.size := hb1.size
      clear h1 hx0 hxl hX0
      go_wp2_with fail
      refine (text w.heap.size w.heap.size [] X0 w1 HB1.out (by simp; omega) hB1).mono ?_
      rintro e w2 ⟨⟨vv, rfl⟩, h2', hb2⟩
      rw [List.nil_append, HX0.out] at h2'
      have HB2 : Hid (Bd w.heap.size w.heap.size (x0 ++ tails c (r.take 0)) w2) := (show Bd w.heap.size w.heap.size (x0 ++ tails c (r.take 0)) w2 from by simpa [tails] using h2')
      have b2 := hb1.trans hb2
      have HB1b : Hid (Below w.heap.size w w2) := b2
      clear h2' hb2 hc0 hb1 b2 HB1
      go_wp2_with fail
      go_loopw [65] (fun i wr => ∃ j : Nat, j ≤ r.length ∧ i = .int .i64 j ∧ Hid (Bd w.heap.size w.heap.size (x0 ++ tails c (r.take j)) wr) ∧ Hid (Below w.heap.size w wr)) (fun i _ => r.length - (intOf i).toNat)
      case atStart => exact ⟨0, Nat.zero_le _, rfl, HB2, HB1b⟩
      case round =>
        obtain ⟨j, hj, rfl, HBJ, HWJ⟩ := hrel
        have hrk := HRL.out
        by_cases hjr : j < r.length
        · have hjr' : (j : Int) < (k : Int) - 1 := by omega
          have hcy : wr.cell? ⟨b, 1 + j, none⟩ = some (.string ⟨(r[j]).toArray⟩) := by
            rw [HWJ.out.cell (p := ⟨b, 1 + j, none⟩) hb]
            have := HC.out (1 + j) (by rw [← HN.out]; omega)
            rw [this, HV.out]
            simp [List.getD_eq_getElem?_getD, Nat.add_comm 1 j, hjr]
          have HSN : Hid (tails c (r.take (j + 1)) = tails c (r.take j) ++ (c :: r[j])) := tails_snoc c r j hjr
          have hle := HLE.out (j + 1)
          rw [HSN.out] at hle
          simp only [List.length_append, List.length_cons] at hle
          obtain ⟨Y, hY⟩ : ∃ Y : ByteArray, Y = ⟨(r[j]).toArray⟩ := ⟨_, rfl⟩
          rw [← hY] at hcy
          have HY : Hid (Y.data.toList = r[j]) := (show Y.data.toList = r[j] from by rw [hY])
          have hYs : Y.size = (r[j]).length := by rw [Lib.size_eq, HY.out]
          have hBw : w.heap.size ≤ wr.heap.size := HWJ.out.size
          have HJL : Hid ((x0 ++ tails c (r.take j)).length + 1 + Y.size ≤ 1048576) := by rw [hYs, List.length_append]; exact (show _ ≤ 1048576 by omega)
          clear hY hYs hle
          go_wp2_with fail
          refine (text w.heap.size w.heap.size _ S wr HBJ.out (by have := HJL.out; omega) hBw).mono ?_
          rintro e w3 ⟨⟨vv3, rfl⟩, h3, hb3⟩
          rw [HSL.out] at h3
          have HB3 : Hid (Bd w.heap.size w.heap.size ((x0 ++ tails c (r.take j)) ++ [c]) w3) := h3
          have HW3 : Hid (Below w.heap.size w w3) := HWJ.out.trans hb3
          have hBw3 : w.heap.size ≤ w3.heap.size := Nat.le_trans hBw hb3.size
          have hcy3 := hcy
          clear h3 hb3
          go_wp2_with fail
          refine (text w.heap.size w.heap.size _ Y w3 HB3.out (by have := HJL.out; rw [List.length_append, List.length_singleton]; omega) hBw3).mono ?_
          rintro e w4 ⟨⟨vv4, rfl⟩, h4, hb4⟩
          have HB4 : Hid (Bd w.heap.size w.heap.size (x0 ++ tails c (r.take (j + 1))) w4) := (show Bd w.heap.size w.heap.size (x0 ++ tails c (r.take (j + 1))) w4 from by
            rw [HSN.out]
            rw [HY.out] at h4
            simpa using h4)
          have HW4 : Hid (Below w.heap.size w w4) := HW3.out.trans hb4
          clear h4 hb4 hcy hcy3
          go_wp2
          go_roundw
          case rel => exact ⟨j + 1, by omega, by go_num, HB4, HW4⟩
          case measure => simp [intOf]; omega
        · have hjn : j = r.length := by omega
          have HBF : Hid (Bd w.heap.size w.heap.size (jn c V) wr) := by
            rw [HJ.out]
            have := HBJ.out
            rw [hjn, List.take_of_length_le (Nat.le_refl _)] at this
            exact this
          have hBw : w.heap.size ≤ wr.heap.size := HWJ.out.size
          have hjr' : ¬ (j : Int) < (k : Int) - 1 := by omega
          clear hjn
          go_wp2_with fail
          refine (said w.heap.size w.heap.size _ wr HBF.out hBw).mono ?_
          rintro e w5 ⟨rfl, hb5⟩
          have HW5 : Hid (Below w.heap.size w w5) := HWJ.out.trans hb5
          clear hb5 HBF HBJ
          go_wp2
          go_ret
          exact ⟨rfl, HW5.out⟩
/-- Join at every list of texts. -/
theorem join_any (v : Value) (V : List (List UInt8)) (c : UInt8) (w : World) (hv : (V = [] ∧ ∃ a cap, v = .slice a 0 cap) ∨ ∃ b cap, v = .slice (some ⟨b, 0, none⟩) V.length cap ∧ V.length ≤ cap ∧ b < w.heap.size ∧ ∀ j, j < V.length → w.cell? ⟨b, j, none⟩ = some (.string ⟨(V.getD j []).toArray⟩)) (hl : V.length + lens V ≤ 1048576) :
    Calls Tryz.prog 38 #[v, .string ⟨#[c]⟩] w fun e w' => e = .returned (.string ⟨(jn c V).toArray⟩) ∧ Below w.heap.size w w' := by
  have hv : (V = [] ∧ ∃ a cap, v = .slice a 0 cap) ∨ (V ≠ [] ∧ ∃ b cap, v = .slice (some ⟨b, 0, none⟩) V.length cap ∧ V.length ≤ cap ∧ b < w.heap.size ∧ ∀ j, j < V.length → w.cell? ⟨b, j, none⟩ = some (.string ⟨(V.getD j []).toArray⟩)) := by
    rcases hv with h | ⟨b, cap, rfl, h⟩
    · exact .inl h
    · by_cases e : V = []
      · subst e; exact .inl ⟨rfl, _, _, rfl⟩
      · exact .inr ⟨e, b, cap, rfl, h⟩
  rcases hv with ⟨rfl, a, cap, rfl⟩ | ⟨hne, b, cap, rfl, hcap, hb, hc⟩
  · exact (join_none a cap c w).mono fun e w' ⟨he, hw⟩ => ⟨he, hw ▸ Below.refl _ _⟩
  · match V, hne, hcap, hc, hl with
    | [x], _, _, hc, _ => exact (join_one b 0 cap _ c w (hc 0 (by simp))).mono fun e w' ⟨he, hw⟩ => ⟨by rw [he]; simp [jn, tails], hw ▸ Below.refl _ _⟩
    | x :: y :: r, _, hcap, hc, hl => exact join_many b cap (x :: y :: r) c w hb hc (by simp) hcap hl
end Go.Proofs.YtbokolpjdaamiaaGreatDoor.bl

namespace Go.Proofs.YtbokolpjdaamiaaGreatDoor.fg
open Go.RowKit
open lo sl sp gr bl
set_option linter.unusedVariables false

/-- A flag is set. -/
def bit (f : Nat) (i : Nat) : Bool := (f / 2 ^ i) % 2 == 1
/-- The names of the flags that are set, among the first ones. -/
def sel (f : Nat) : Nat → List (List UInt8)
  | 0 => []
  | k + 1 => sel f k ++ (if bit f k = true then [tb.fls.getD k []] else [])
def FT (f : Nat) : ByteArray := ⟨(40 :: (jn 32 (sel f 5) ++ [41])).toArray⟩
theorem jn_snoc (c : UInt8) (V : List (List UInt8)) (x : List UInt8) (h : V ≠ []) : jn c (V ++ [x]) = jn c V ++ (c :: x) := by
  cases V with
  | nil => exact absurd rfl h
  | cons a r => simp [jn, tails]
theorem fls_small : ∀ k, k < 5 → (tb.fls.getD k []).length ≤ 9 ∧ tb.fls.getD k [] ≠ [] := by decide
theorem mk_app (a b : List UInt8) : (⟨a.toArray⟩ : ByteArray) ++ ⟨b.toArray⟩ = ⟨(a ++ b).toArray⟩ := by
  apply ByteArray.ext
  rw [ByteArray.data_append]
  simp
/-- The text so far. -/
def tx (f k : Nat) : ByteArray := ⟨(jn 32 (sel f k)).toArray⟩
theorem tx_none {f k : Nat} (h : bit f k = false) : tx f (k + 1) = tx f k := by
  unfold tx
  rw [sel, if_neg (by rw [h]; simp), List.append_nil]
theorem tx_first {f k : Nat} (h : bit f k = true) (he : sel f k = []) : tx f (k + 1) = tx f k ++ fn k := by
  unfold tx fn
  rw [mk_app, sel, if_pos h, he]
  simp [jn, tails]
theorem tx_more {f k : Nat} (h : bit f k = true) (he : sel f k ≠ []) : tx f (k + 1) = tx f k ++ ⟨#[32]⟩ ++ fn k := by
  have e : (⟨#[32]⟩ : ByteArray) = ⟨([32] : List UInt8).toArray⟩ := rfl
  unfold tx fn
  rw [e, mk_app, mk_app, sel, if_pos h, jn_snoc 32 _ _ he]
  simp
theorem sel_len : ∀ (f k : Nat), k ≤ 5 → (sel f k).length ≤ k ∧ lens (sel f k) ≤ 9 * k ∧ ∀ x ∈ sel f k, x ≠ []
  | f, 0, _ => ⟨Nat.le_refl _, Nat.le_refl _, fun x hx => by cases hx⟩
  | f, k + 1, hk => by
    obtain ⟨h1, h2, h3⟩ := sel_len f k (by omega)
    obtain ⟨s1, s2⟩ := fls_small k (by omega)
    have hap : ∀ (a b : List (List UInt8)), lens (a ++ b) = lens a + lens b := fun a b => by
      induction a with
      | nil => simp [lens]
      | cons x a ih => simp [lens] at ih ⊢; omega
    rw [sel]
    split
    · refine ⟨by rw [List.length_append, List.length_singleton]; omega, by rw [hap]; have e : lens [tb.fls.getD k []] = (tb.fls.getD k []).length := Nat.add_zero _; omega, fun x hx => ?_⟩
      rcases List.mem_append.1 hx with hx | hx
      · exact h3 x hx
      · rw [List.mem_singleton] at hx
        rw [hx]
        exact s2
    · rw [List.append_nil]
      exact ⟨by omega, by omega, h3⟩
theorem jn_len (c : UInt8) (V : List (List UInt8)) : (jn c V).length ≤ V.length + lens V := by
  cases V with
  | nil => simp [jn]
  | cons a r =>
    have := tails_len c r
    rw [jn, List.length_append, this]
    simp [lens]
    omega
theorem tx_size {f k : Nat} (hk : k ≤ 5) : (tx f k).size ≤ 50 := by
  obtain ⟨h1, h2, _⟩ := sel_len f k hk
  have := jn_len 32 (sel f k)
  rw [Lib.size_eq]
  show (jn 32 (sel f k)).length ≤ 50
  omega
theorem tx_empty {f k : Nat} (hk : k ≤ 5) : ((tx f k).toList.isEmpty = true ↔ sel f k = []) := by
  obtain ⟨_, _, h3⟩ := sel_len f k hk
  rw [Lib.toList_data]
  show (jn 32 (sel f k)).isEmpty = true ↔ sel f k = []
  cases hs : sel f k with
  | nil => simp [jn]
  | cons a r =>
    have ha : a ≠ [] := h3 a (by rw [hs]; exact List.mem_cons_self)
    cases a with
    | nil => exact absurd rfl ha
    | cons b t => simp [jn]
theorem FT_is (f : Nat) : FT f = (⟨#[40]⟩ ++ tx f 5) ++ ⟨#[41]⟩ := by
  have e : (⟨#[40]⟩ : ByteArray) = ⟨([40] : List UInt8).toArray⟩ := rfl
  have e' : (⟨#[41]⟩ : ByteArray) = ⟨([41] : List UInt8).toArray⟩ := rfl
  unfold FT tx
  rw [e, e', mk_app, mk_app]
  simp
def OutIs (f k : Nat) (z : Value) : Prop := z = .string (tx f k)
theorem sb0 : ∀ f : Nat, f < 32 → (bits .and .i64 (f : Int) 1 == 0) = !bit f 0 := by decide
theorem sb1 : ∀ f : Nat, f < 32 → (bits .and .i64 ((f : Int) / 2) 1 == 0) = !bit f 1 := by decide
theorem sb2 : ∀ f : Nat, f < 32 → (bits .and .i64 ((f : Int) / 4) 1 == 0) = !bit f 2 := by decide
theorem sb3 : ∀ f : Nat, f < 32 → (bits .and .i64 ((f : Int) / 8) 1 == 0) = !bit f 3 := by decide
theorem sb4 : ∀ f : Nat, f < 32 → (bits .and .i64 ((f : Int) / 16) 1 == 0) = !bit f 4 := by decide
theorem ib0 : ∀ f : Nat, f < 32 → (bits .and .i64 (f : Int) 1 != 0) = bit f 0 := by decide
theorem ib1 : ∀ f : Nat, f < 32 → (bits .and .i64 (f : Int) 2 != 0) = bit f 1 := by decide
theorem ib2 : ∀ f : Nat, f < 32 → (bits .and .i64 (f : Int) 4 != 0) = bit f 2 := by decide
theorem ib3 : ∀ f : Nat, f < 32 → (bits .and .i64 (f : Int) 8 != 0) = bit f 3 := by decide
theorem ib4 : ∀ f : Nat, f < 32 → (bits .and .i64 (f : Int) 16 != 0) = bit f 4 := by decide

set_option maxHeartbeats 4000000 in
set_option maxRecDepth 100000 in
theorem specFlags (f : Nat) (w : World) (hf : f < 32) :
    Calls Tryz.prog 42 #[.int .i64 (f : Int)] w fun e w' => e = .returned (.string (FT f)) ∧ Below w.heap.size w w' := by
  have hf' : (f : Int) < 32 := by omega
  have HF : Hid (f < 32) := hf
  rw [FT_is]
  go_enter Tryz.func42, Tryz.ntmps42
  go_wp2_with fail
  refine (names_any _).mono ?_
  rintro e w2 ⟨u, rfl, hw2, b2⟩
  obtain ⟨g2, cap2, rfl, hgl2, hcl2⟩ := hw2
  rw [fls_len]
  have HC2 : Hid (∀ j, j < 5 → w2.cell? ⟨g2, j, none⟩ = some (.string (fn j))) := hcl2
  clear hcl2
  go_wp2
  go_loopw [3, 5] (fun z i wr => ∃ k : Nat, k ≤ 5 ∧ OutIs f k z ∧ i = .int .i64 k ∧ wr = w2) (fun _ i _ => 5 - (intOf i).toNat)
  case atStart => exact ⟨0, Nat.zero_le _, rfl, rfl, rfl⟩
  case round =>
    obtain ⟨k, hk, hz, rfl, hwr⟩ := hrel
    obtain rfl : _ = _ := hz
    have hwr := hwr.symm
    subst hwr
    by_cases hlt : k < 5
    · have c2 := HC2.out k hlt
      have hts := tx_size (f := f) hk
      have hes := tx_empty (f := f) hk
      have hfs := fn_size k hlt
      have HT0 : Hid (bit f k = false → tx f (k + 1) = tx f k) := tx_none
      have HT1 : Hid (bit f k = true → sel f k = [] → tx f (k + 1) = tx f k ++ fn k) := tx_first
      have HT2 : Hid (bit f k = true → sel f k ≠ [] → tx f (k + 1) = tx f k ++ ⟨#[32]⟩ ++ fn k) := tx_more
      have hc : k = 0 ∨ k = 1 ∨ k = 2 ∨ k = 3 ∨ k = 4 := by omega
      generalize tx f k = T at hts hes HT0 HT1 HT2 ⊢
      generalize fn k = Y at c2 hfs HT1 HT2
      by_cases he : sel f k = []
      · have hem : T.toList.isEmpty = true := hes.2 he
        have HT1 : Hid (bit f k = true → tx f (k + 1) = T ++ Y) := fun y => HT1.out y he
        clear hes he HT2
        rcases hc with rfl | rfl | rfl | rfl | rfl
        · have hb := sb0 f HF.out
          cases hbt : bit f 0
          · rw [hbt] at hb
            simp only [Bool.not_false] at hb
            have HZ : Hid (tx f (0 + 1) = T) := HT0.out hbt
            clear HT0 HT1 hbt
            go_wp2
            go_roundw
            case rel => exact ⟨0 + 1, by omega, by unfold OutIs; rw [HZ.out], by go_num, by trivial⟩
            case measure => simp [intOf]
          · rw [hbt] at hb
            simp only [Bool.not_true] at hb
            have HZ := HT1.out hbt
            have HZ : Hid (tx f (0 + 1) = _) := HZ
            clear HT0 HT1 hbt
            go_wp2
            go_roundw
            case rel => exact ⟨0 + 1, by omega, by unfold OutIs; rw [HZ.out], by go_num, by trivial⟩
            case measure => simp [intOf]
        · have hb := sb1 f HF.out
          cases hbt : bit f 1
          · rw [hbt] at hb
            simp only [Bool.not_false] at hb
            have HZ : Hid (tx f (1 + 1) = T) := HT0.out hbt
            clear HT0 HT1 hbt
            go_wp2
            go_roundw
            case rel => exact ⟨1 + 1, by omega, by unfold OutIs; rw [HZ.out], by go_num, by trivial⟩
            case measure => simp [intOf]
          · rw [hbt] at hb
            simp only [Bool.not_true] at hb
            have HZ := HT1.out hbt
            have HZ : Hid (tx f (1 + 1) = _) := HZ
            clear HT0 HT1 hbt
            go_wp2
            go_roundw
            case rel => exact ⟨1 + 1, by omega, by unfold OutIs; rw [HZ.out], by go_num, by trivial⟩
            case measure => simp [intOf]
        · have hb := sb2 f HF.out
          cases hbt : bit f 2
          · rw [hbt] at hb
            simp only [Bool.not_false] at hb
            have HZ : Hid (tx f (2 + 1) = T) := HT0.out hbt
            clear HT0 HT1 hbt
            go_wp2
            go_roundw
            case rel => exact ⟨2 + 1, by omega, by unfold OutIs; rw [HZ.out], by go_num, by trivial⟩
            case measure => simp [intOf]
          · rw [hbt] at hb
            simp only [Bool.not_true] at hb
            have HZ := HT1.out hbt
            have HZ : Hid (tx f (2 + 1) = _) := HZ
            clear HT0 HT1 hbt
            go_wp2
            go_roundw
            case rel => exact ⟨2 + 1, by omega, by unfold OutIs; rw [HZ.out], by go_num, by trivial⟩
            case measure => simp [intOf]
        · have hb := sb3 f HF.out
          cases hbt : bit f 3
          · rw [hbt] at hb
            simp only [Bool.not_false] at hb
            have HZ : Hid (tx f (3 + 1) = T) := HT0.out hbt
            clear HT0 HT1 hbt
            go_wp2
            go_roundw
            case rel => exact ⟨3 + 1, by omega, by unfold OutIs; rw [HZ.out], by go_num, by trivial⟩
            case measure => simp [intOf]
          · rw [hbt] at hb
            simp only [Bool.not_true] at hb
            have HZ := HT1.out hbt
            have HZ : Hid (tx f (3 + 1) = _) := HZ
            clear HT0 HT1 hbt
            go_wp2
            go_roundw
            case rel => exact ⟨3 + 1, by omega, by unfold OutIs; rw [HZ.out], by go_num, by trivial⟩
            case measure => simp [intOf]
        · have hb := sb4 f HF.out
          cases hbt : bit f 4
          · rw [hbt] at hb
            simp only [Bool.not_false] at hb
            have HZ : Hid (tx f (4 + 1) = T) := HT0.out hbt
            clear HT0 HT1 hbt
            go_wp2
            go_roundw
            case rel => exact ⟨4 + 1, by omega, by unfold OutIs; rw [HZ.out], by go_num, by trivial⟩
            case measure => simp [intOf]
          · rw [hbt] at hb
            simp only [Bool.not_true] at hb
            have HZ := HT1.out hbt
            have HZ : Hid (tx f (4 + 1) = _) := HZ
            clear HT0 HT1 hbt
            go_wp2
            go_roundw
            case rel => exact ⟨4 + 1, by omega, by unfold OutIs; rw [HZ.out], by go_num, by trivial⟩
            case measure => simp [intOf]
      · have hem : T.toList.isEmpty = false := by
          cases h : T.toList.isEmpty
          · rfl
          · exact absurd (hes.1 h) he
        have HT1 : Hid (bit f k = true → tx f (k + 1) = T ++ ⟨#[32]⟩ ++ Y) := fun y => HT2.out y he
        clear hes he HT2
        rcases hc with rfl | rfl | rfl | rfl | rfl
        · have hb := sb0 f HF.out
          cases hbt : bit f 0
          · rw [hbt] at hb
            simp only [Bool.not_false] at hb
            have HZ : Hid (tx f (0 + 1) = T) := HT0.out hbt
            clear HT0 HT1 hbt
            go_wp2
            go_roundw
            case rel => exact ⟨0 + 1, by omega, by unfold OutIs; rw [HZ.out], by go_num, by trivial⟩
            case measure => simp [intOf]
          · rw [hbt] at hb
            simp only [Bool.not_true] at hb
            have HZ := HT1.out hbt
            have HZ : Hid (tx f (0 + 1) = _) := HZ
            clear HT0 HT1 hbt
            go_wp2
            go_roundw
            case rel => exact ⟨0 + 1, by omega, by unfold OutIs; rw [HZ.out], by go_num, by trivial⟩
            case measure => simp [intOf]
        · have hb := sb1 f HF.out
          cases hbt : bit f 1
          · rw [hbt] at hb
            simp only [Bool.not_false] at hb
            have HZ : Hid (tx f (1 + 1) = T) := HT0.out hbt
            clear HT0 HT1 hbt
            go_wp2
            go_roundw
            case rel => exact ⟨1 + 1, by omega, by unfold OutIs; rw [HZ.out], by go_num, by trivial⟩
            case measure => simp [intOf]
          · rw [hbt] at hb
            simp only [Bool.not_true] at hb
            have HZ := HT1.out hbt
            have HZ : Hid (tx f (1 + 1) = _) := HZ
            clear HT0 HT1 hbt
            go_wp2
            go_roundw
            case rel => exact ⟨1 + 1, by omega, by unfold OutIs; rw [HZ.out], by go_num, by trivial⟩
            case measure => simp [intOf]
        · have hb := sb2 f HF.out
          cases hbt : bit f 2
          · rw [hbt] at hb
            simp only [Bool.not_false] at hb
            have HZ : Hid (tx f (2 + 1) = T) := HT0.out hbt
            clear HT0 HT1 hbt
            go_wp2
            go_roundw
            case rel => exact ⟨2 + 1, by omega, by unfold OutIs; rw [HZ.out], by go_num, by trivial⟩
            case measure => simp [intOf]
          · rw [hbt] at hb
            simp only [Bool.not_true] at hb
            have HZ := HT1.out hbt
            have HZ : Hid (tx f (2 + 1) = _) := HZ
            clear HT0 HT1 hbt
            go_wp2
            go_roundw
            case rel => exact ⟨2 + 1, by omega, by unfold OutIs; rw [HZ.out], by go_num, by trivial⟩
            case measure => simp [intOf]
        · have hb := sb3 f HF.out
          cases hbt : bit f 3
          · rw [hbt] at hb
            simp only [Bool.not_false] at hb
            have HZ : Hid (tx f (3 + 1) = T) := HT0.out hbt
            clear HT0 HT1 hbt
            go_wp2
            go_roundw
            case rel => exact ⟨3 + 1, by omega, by unfold OutIs; rw [HZ.out], by go_num, by trivial⟩
            case measure => simp [intOf]
          · rw [hbt] at hb
            simp only [Bool.not_true] at hb
            have HZ := HT1.out hbt
            have HZ : Hid (tx f (3 + 1) = _) := HZ
            clear HT0 HT1 hbt
            go_wp2
            go_roundw
            case rel => exact ⟨3 + 1, by omega, by unfold OutIs; rw [HZ.out], by go_num, by trivial⟩
            case measure => simp [intOf]
        · have hb := sb4 f HF.out
          cases hbt : bit f 4
          · rw [hbt] at hb
            simp only [Bool.not_false] at hb
            have HZ : Hid (tx f (4 + 1) = T) := HT0.out hbt
            clear HT0 HT1 hbt
            go_wp2
            go_roundw
            case rel => exact ⟨4 + 1, by omega, by unfold OutIs; rw [HZ.out], by go_num, by trivial⟩
            case measure => simp [intOf]
          · rw [hbt] at hb
            simp only [Bool.not_true] at hb
            have HZ := HT1.out hbt
            have HZ : Hid (tx f (4 + 1) = _) := HZ
            clear HT0 HT1 hbt
            go_wp2
            go_roundw
            case rel => exact ⟨4 + 1, by omega, by unfold OutIs; rw [HZ.out], by go_num, by trivial⟩
            case measure => simp [intOf]
    · have hk5 : k = 5 := by omega
      subst hk5
      have hts := tx_size (f := f) hk
      generalize hT : tx f 5 = T at hts ⊢
      have HT : Hid (tx f 5 = T) := hT
      clear hT
      go_wp2
      go_ret
      exact ⟨by rw [HT.out]; rfl, b2⟩
theorem ret_bool {a b : Bool} (h : a = b) : (Ending.returned (.bool a)) = .returned (.bool b) := by rw [h]
/-- What FlagsText answers. -/
def FR (z : Int) : ByteArray × Int := if 0 ≤ z ∧ z ≤ 31 then (FT z.toNat, 0) else (⟨#[]⟩, 4)
end Go.Proofs.YtbokolpjdaamiaaGreatDoor.fg
