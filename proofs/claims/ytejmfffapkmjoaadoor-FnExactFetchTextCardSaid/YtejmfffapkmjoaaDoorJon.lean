/-
  Texts put together with a sign between: the library's Join.
-/
import Derived.Test.YtejmfffapkmjoaaDoorJog
namespace Go.Proofs.YtejmfffapkmjoaaDoor.bl
open Go.RowKit
open sp
set_option linter.unusedVariables false

set_option maxHeartbeats 4000000 in
set_option maxRecDepth 100000 in
theorem grow_any (n : Nat) (w : World) (hn : n ≤ 1048576) :
    Calls Tryd.prog 39 #[.pointer (some ⟨w.heap.size, 0, none⟩), .int .i64 n] (w.alloc (.cells #[.pointer none, .slice none 0 0] 72)) fun e w' => e = .returned (.tuple #[]) ∧ Bd w.heap.size w.heap.size [] w' ∧ Below w.heap.size w w' := by
  have hbk : (w.alloc (.cells #[.pointer none, .slice none 0 0] 72)).heap[w.heap.size]? = some (.cells #[.pointer none, .slice none 0 0] 72 (0, 0)) := (MapKept.heap_alloc w _).1
  have b0 : Below w.heap.size w (w.alloc (.cells #[.pointer none, .slice none 0 0] 72)) := (Below.refl _ _).alloc (Nat.le_refl _) _
  have hsz : w.heap.size ≤ (w.alloc (.cells #[.pointer none, .slice none 0 0] 72)).heap.size := by simp
  generalize w.alloc (.cells #[.pointer none, .slice none 0 0] 72) = w0 at hbk b0 hsz ⊢
  generalize w.heap.size = b at hbk b0 hsz ⊢
  have hbk1 : (w0.setCell ⟨b, 0, none⟩ (.pointer (some ⟨b, 0, none⟩))).heap[b]? = some (.cells #[.pointer (some ⟨b, 0, none⟩), .slice none 0 0] 72 (0, 0)) := by
    simp [World.setCell, Array.getElem?_modify, hbk]
  have hb1 : Below b w (w0.setCell ⟨b, 0, none⟩ (.pointer (some ⟨b, 0, none⟩))) := b0.setCell (p := ⟨b, 0, none⟩) (Nat.le_refl _) _
  have c1 : (w0.setCell ⟨b, 0, none⟩ (.pointer (some ⟨b, 0, none⟩))).cell? ⟨b, 1, none⟩ = some (.slice none 0 0) := by rw [Lib.cell_of_heap hbk1]; rfl
  have hU : Lib.BuilderAt 72 5 b b (.pointer (some ⟨b, 0, none⟩)) [] (w0.setCell ⟨b, 0, none⟩ (.pointer (some ⟨b, 0, none⟩))) := ⟨Nat.le_refl _, .slice none 0 0, hbk1, World.ownsRow_nil _ _ _ _, by simp [Value.ownBlock]⟩
  have HBK : Hid (w0.heap[b]? = some (.cells #[.pointer none, .slice none 0 0] 72 (0, 0))) := hbk
  have hs1 : b ≤ (w0.setCell ⟨b, 0, none⟩ (.pointer (some ⟨b, 0, none⟩))).heap.size := by simpa [World.setCell] using hsz
  clear hbk hsz b0
  go_enter Tryd.func39, Tryd.ntmps39
  go_wp2_with fail
  refine (place_fresh b w0 (by rw [Lib.cell_of_heap HBK.out]; rfl) (by simp [World.shape?, HBK.out]) (Lib.frozen_of_heap HBK.out 0)).mono ?_
  rintro e w1 ⟨rfl, hw1⟩
  rw [← hw1] at hb1 hbk1 c1 hU hs1
  clear hw1 HBK
  go_wp2_with fail
  go_quiet (fail)
  have HR : Hid (∀ q, Calls Tryd.prog 51 #[.pointer (some ⟨b, 0, none⟩), .int .i64 n] (w1.drewN q) fun e w' => e = .returned (.tuple #[]) ∧ (Lib.BuilderAt 72 5 b b (.pointer (some ⟨b, 0, none⟩)) [] w' ∧ Below b (w1.drewN q) w')) := fun q => roomy b b n _ (Nat.le_refl _) hbk1 hs1 hn
  have HU : Hid (∀ q, Lib.BuilderAt 72 5 b b (.pointer (some ⟨b, 0, none⟩)) [] (w1.drewN q)) := fun q => hU
  have HB1 : Hid (∀ q, Below b w (w1.drewN q)) := fun q => below_drewN hb1 q
  clear hU hb1 hbk1 c1
  rw [show IntKind.i64.wrap 0 = 0 from rfl]
  by_cases h0 : n = 0
  · subst h0
    go_wp2
    go_end0
    exact ⟨rfl, .inr (HU.out _), HB1.out _⟩
  · have h0' : (0 : Int) < (n : Int) := by omega
    go_wp2_with fail
    refine (HR.out _).mono ?_
    rintro e w2 ⟨rfl, h1, h2⟩
    have HZ : Hid (Bd b b [] w2 ∧ Below b w w2) := ⟨.inr h1, (HB1.out _).trans h2⟩
    clear HR HU HB1 h1 h2
    go_wp2
    go_end0
    exact ⟨rfl, HZ.out⟩

/-- Texts with a sign between. -/
def tails (c : UInt8) (r : List (List UInt8)) : List UInt8 := r.flatMap fun y => c :: y
def jn (c : UInt8) : List (List UInt8) → List UInt8
  | [] => []
  | x :: r => x ++ tails c r
def lens (V : List (List UInt8)) : Nat := V.foldr (fun x n => x.length + n) 0
theorem tails_snoc (c : UInt8) (r : List (List UInt8)) (k : Nat) (h : k < r.length) : tails c (r.take (k + 1)) = tails c (r.take k) ++ (c :: r[k]) := by
  unfold tails
  rw [List.take_succ_eq_append_getElem h, List.flatMap_append, List.flatMap_cons, List.flatMap_nil, List.append_nil]
theorem lens_snoc (V : List (List UInt8)) (k : Nat) (h : k < V.length) : lens (V.take (k + 1)) = lens (V.take k) + (V.getD k []).length := by
  rw [List.take_succ_eq_append_getElem h]
  have e : V.getD k [] = V[k] := by simp [List.getD_eq_getElem?_getD, h]
  rw [e]
  generalize V.take k = l
  induction l with
  | nil => simp [lens]
  | cons a l ih => simp [lens] at ih ⊢; omega
theorem lens_take_le (V : List (List UInt8)) (k : Nat) : lens (V.take k) ≤ lens V := by
  induction V generalizing k with
  | nil => simp [lens]
  | cons a V ih =>
    cases k with
    | zero => simp [lens]
    | succ k => have := ih k; simp [lens] at this ⊢; omega
theorem tails_len (c : UInt8) (r : List (List UInt8)) : (tails c r).length = r.length + lens r := by
  induction r with
  | nil => rfl
  | cons a r ih => simp [tails, lens] at ih ⊢; omega

theorem join_none (a : Option Addr) (cap : Nat) (c : UInt8) (w : World) :
    Calls Tryd.prog 27 #[.slice a 0 cap, .string ⟨#[c]⟩] w fun e w' => e = .returned (.string ⟨#[]⟩) ∧ w' = w := by
  go_enter Tryd.func27, Tryd.ntmps27
  go_wp2
  go_ret
  exact ⟨rfl, rfl⟩
set_option maxHeartbeats 2000000 in
set_option maxRecDepth 100000 in
theorem join_one (b off cap : Nat) (x : ByteArray) (c : UInt8) (w : World) (h : w.cell? ⟨b, off, none⟩ = some (.string x)) :
    Calls Tryd.prog 27 #[.slice (some ⟨b, off, none⟩) 1 cap, .string ⟨#[c]⟩] w fun e w' => e = .returned (.string x) ∧ w' = w := by
  go_enter Tryd.func27, Tryd.ntmps27
  go_wp2
  go_ret
  exact ⟨rfl, rfl⟩

set_option maxHeartbeats 4000000 in
set_option maxRecDepth 100000 in
theorem join_many (b cap : Nat) (V : List (List UInt8)) (c : UInt8) (w : World) (hb : b < w.heap.size) (hc : ∀ j, j < V.length → w.cell? ⟨b, j, none⟩ = some (.string ⟨(V.getD j []).toArray⟩)) (h2 : 2 ≤ V.length) (hcap : V.length ≤ cap) (hl : V.length + lens V ≤ 1048576) :
    Calls Tryd.prog 27 #[.slice (some ⟨b, 0, none⟩) V.length cap, .string ⟨#[c]⟩] w fun e w' => e = .returned (.string ⟨(jn c V).toArray⟩) ∧ Below w.heap.size w w' := by
  have HC : Hid (∀ j, j < V.length → w.cell? ⟨b, j, none⟩ = some (.string ⟨(V.getD j []).toArray⟩)) := hc
  obtain ⟨n, hn⟩ : ∃ n, n = V.length := ⟨_, rfl⟩
  have HN : Hid (n = V.length) := hn
  have hll : ∀ k, lens (V.take k) ≤ 1048576 - n := fun k => by have := lens_take_le V k; omega
  have HLL : Hid (∀ k, lens (V.take k) ≤ 1048576 - n) := hll
  have hnl : n ≤ 1048576 := by omega
  rw [← hn] at h2 hcap ⊢
  have hS : (⟨#[c]⟩ : ByteArray).size = 1 := rfl
  have HSL : Hid ((⟨#[c]⟩ : ByteArray).data.toList = [c]) := rfl
  generalize (⟨#[c]⟩ : ByteArray) = S at hS HSL ⊢
  have hne0 : ((n : Int) == 0) = false := beq_eq_false_iff_ne.2 (by omega)
  have hne1 : ((n : Int) == 1) = false := beq_eq_false_iff_ne.2 (by omega)
  have hS1 : (S.size : Int) = 1 := by omega
  have hdv : ¬ (9223372036854775807 / ((n : Int) - 1) ≤ (1 : Int)) := by
    have h1 : (1 : Int) < 9223372036854775807 / ((n : Int) - 1) := by
      have : (2 : Int) ≤ 9223372036854775807 / ((n : Int) - 1) := by
        rw [Int.le_ediv_iff_mul_le (by omega)]
        omega
      omega
    omega
  clear hc hl hn hll
  go_enter Tryd.func27, Tryd.ntmps27
  go_wp2_with fail
  go_loopw [5, 41] (fun z i wr => ∃ k : Nat, k ≤ n ∧ i = .int .i64 k ∧ z = .int .i64 ((n : Int) - 1 + (lens (V.take k) : Int)) ∧ wr = w) (fun _ i _ => n - (intOf i).toNat)
  case atStart => exact ⟨0, Nat.zero_le _, rfl, by simp [lens], rfl⟩
  case round =>
    obtain ⟨k, hk, rfl, rfl, hwr⟩ := hrel
    have hwr := hwr.symm
    subst hwr
    by_cases hlt : k < n
    · have hlt' : (k : Int) < (n : Int) := by omega
      have hkv : k < V.length := by rw [← HN.out]; exact hlt
      have hcx := HC.out k hkv
      have hsn := lens_snoc V k hkv
      have hb1 := HLL.out (k + 1)
      obtain ⟨x, hx⟩ : ∃ x : ByteArray, x = ⟨(V.getD k []).toArray⟩ := ⟨_, rfl⟩
      rw [← hx] at hcx
      have hxs : x.size = (V.getD k []).length := by rw [Lib.size_eq, hx]
      rw [← hxs] at hsn
      generalize hA : lens (V.take (k + 1)) = A1 at hsn hb1
      generalize lens (V.take k) = A0 at hsn ⊢
      have HA : Hid (lens (V.take (k + 1)) = A1) := hA
      have HSN : Hid (A1 = A0 + x.size) := hsn
      have hq : (x.size : Int) ≤ 9223372036854775807 - ((n : Int) - 1 + (A0 : Int)) := by omega
      have hq0 : (A0 : Int) ≤ 1048576 := by omega
      have hq1 : (x.size : Int) ≤ 1048576 := by omega
      clear hA hsn hx hxs hkv hb1
      go_wp2
      go_roundw
      case rel => exact ⟨k + 1, by omega, by go_num, by rw [HA.out, HSN.out]; congr 1; omega, by trivial⟩
      case measure => simp [intOf]; omega
    · have hkn : k = n := by omega
      subst hkn
      obtain ⟨x0, r, hV⟩ : ∃ x0 r, V = x0 :: r := by
        cases V with
        | nil => have := HN.out; simp at this; omega
        | cons a t => exact ⟨a, t, rfl⟩
      have HV : Hid (V = x0 :: r) := hV
      have HRL : Hid (r.length + 1 = k) := by rw [HN.out, hV]; rfl
      have hall : V.take k = V := by rw [HN.out]; exact List.take_of_length_le (Nat.le_refl _)
      rw [hall]
      have hT := HLL.out k
      rw [hall] at hT
      have HJ : Hid (jn c V = x0 ++ tails c r) := by rw [hV]; rfl
      have HLE : Hid (∀ m, (x0 ++ tails c (r.take m)).length ≤ 1048576) := fun m => by
        have e1 := tails_len c (r.take m)
        have e2 := lens_take_le r m
        have e3 : lens V = x0.length + lens r := by rw [hV]; rfl
        have e4 : (r.take m).length ≤ r.length := by rw [List.length_take]; omega
        have e5 := HRL.out
        rw [List.length_append]
        omega
      clear hall hV
      generalize hTT : lens V = T at hT ⊢
      clear hTT
      go_wp2_with fail
      rw [show ((k : Int) - 1 + (T : Int)) = ((k - 1 + T : Nat) : Int) by omega]
      refine (grow_any (k - 1 + T) w (by omega)).mono ?_
      rintro e w1 ⟨rfl, h1, hb1⟩
      have HB1 : Hid (Bd w.heap.size w.heap.size [] w1) := h1
      have hc0 : w1.cell? ⟨b, 0, none⟩ = some (.string ⟨x0.toArray⟩) := by
        rw [hb1.cell (p := ⟨b, 0, none⟩) hb]
        have := HC.out 0 (by rw [← HN.out]; omega)
        rw [HV.out] at this
        exact this
      have hxl := HLE.out 0
      obtain ⟨X0, hX0⟩ : ∃ X0 : ByteArray, X0 = ⟨x0.toArray⟩ := ⟨_, rfl⟩
      rw [← hX0] at hc0
      have hx0 : X0.data.toList = x0 := by rw [hX0]
      have HX0 : Hid (X0.data.toList = x0) := hx0
      have hX0s : X0.size ≤ 1048576 := by rw [Lib.size_eq, hx0]; simp [tails] at hxl; exact hxl
      have hB1 : w.heap.size ≤ w1.heap.size := hb1.size
      clear h1 hx0 hxl hX0
      go_wp2_with fail
      refine (text w.heap.size w.heap.size [] X0 w1 HB1.out (by simp; omega) hB1).mono ?_
      rintro e w2 ⟨⟨vv, rfl⟩, h2', hb2⟩
      rw [List.nil_append, HX0.out] at h2'
      have HB2 : Hid (Bd w.heap.size w.heap.size (x0 ++ tails c (r.take 0)) w2) := (show Bd w.heap.size w.heap.size (x0 ++ tails c (r.take 0)) w2 from by simpa [tails] using h2')
      have b2 := hb1.trans hb2
      have HB1b : Hid (Below w.heap.size w w2) := b2
      clear h2' hb2 hc0 hb1 b2 HB1
      go_wp2_with fail
      go_loopw [65] (fun i wr => ∃ j : Nat, j ≤ r.length ∧ i = .int .i64 j ∧ Hid (Bd w.heap.size w.heap.size (x0 ++ tails c (r.take j)) wr) ∧ Hid (Below w.heap.size w wr)) (fun i _ => r.length - (intOf i).toNat)
      case atStart => exact ⟨0, Nat.zero_le _, rfl, HB2, HB1b⟩
      case round =>
        obtain ⟨j, hj, rfl, HBJ, HWJ⟩ := hrel
        have hrk := HRL.out
        by_cases hjr : j < r.length
        · have hjr' : (j : Int) < (k : Int) - 1 := by omega
          have hcy : wr.cell? ⟨b, 1 + j, none⟩ = some (.string ⟨(r[j]).toArray⟩) := by
            rw [HWJ.out.cell (p := ⟨b, 1 + j, none⟩) hb]
            have := HC.out (1 + j) (by rw [← HN.out]; omega)
            rw [this, HV.out]
            simp [List.getD_eq_getElem?_getD, Nat.add_comm 1 j, hjr]
          have HSN : Hid (tails c (r.take (j + 1)) = tails c (r.take j) ++ (c :: r[j])) := tails_snoc c r j hjr
          have hle := HLE.out (j + 1)
          rw [HSN.out] at hle
          simp only [List.length_append, List.length_cons] at hle
          obtain ⟨Y, hY⟩ : ∃ Y : ByteArray, Y = ⟨(r[j]).toArray⟩ := ⟨_, rfl⟩
          rw [← hY] at hcy
          have HY : Hid (Y.data.toList = r[j]) := (show Y.data.toList = r[j] from by rw [hY])
          have hYs : Y.size = (r[j]).length := by rw [Lib.size_eq, HY.out]
          have hBw : w.heap.size ≤ wr.heap.size := HWJ.out.size
          have HJL : Hid ((x0 ++ tails c (r.take j)).length + 1 + Y.size ≤ 1048576) := by rw [hYs, List.length_append]; exact (show _ ≤ 1048576 by omega)
          clear hY hYs hle
          go_wp2_with fail
          refine (text w.heap.size w.heap.size _ S wr HBJ.out (by have := HJL.out; omega) hBw).mono ?_
          rintro e w3 ⟨⟨vv3, rfl⟩, h3, hb3⟩
          rw [HSL.out] at h3
          have HB3 : Hid (Bd w.heap.size w.heap.size ((x0 ++ tails c (r.take j)) ++ [c]) w3) := h3
          have HW3 : Hid (Below w.heap.size w w3) := HWJ.out.trans hb3
          have hBw3 : w.heap.size ≤ w3.heap.size := Nat.le_trans hBw hb3.size
          have hcy3 := hcy
          clear h3 hb3
          go_wp2_with fail
          refine (text w.heap.size w.heap.size _ Y w3 HB3.out (by have := HJL.out; rw [List.length_append, List.length_singleton]; omega) hBw3).mono ?_
          rintro e w4 ⟨⟨vv4, rfl⟩, h4, hb4⟩
          have HB4 : Hid (Bd w.heap.size w.heap.size (x0 ++ tails c (r.take (j + 1))) w4) := (show Bd w.heap.size w.heap.size (x0 ++ tails c (r.take (j + 1))) w4 from by
            rw [HSN.out]
            rw [HY.out] at h4
            simpa using h4)
          have HW4 : Hid (Below w.heap.size w w4) := HW3.out.trans hb4
          clear h4 hb4 hcy hcy3
          go_wp2
          go_roundw
          case rel => exact ⟨j + 1, by omega, by go_num, HB4, HW4⟩
          case measure => simp [intOf]; omega
        · have hjn : j = r.length := by omega
          have HBF : Hid (Bd w.heap.size w.heap.size (jn c V) wr) := by
            rw [HJ.out]
            have := HBJ.out
            rw [hjn, List.take_of_length_le (Nat.le_refl _)] at this
            exact this
          have hBw : w.heap.size ≤ wr.heap.size := HWJ.out.size
          have hjr' : ¬ (j : Int) < (k : Int) - 1 := by omega
          clear hjn
          go_wp2_with fail
          refine (said w.heap.size w.heap.size _ wr HBF.out hBw).mono ?_
          rintro e w5 ⟨rfl, hb5⟩
          have HW5 : Hid (Below w.heap.size w w5) := HWJ.out.trans hb5
          clear hb5 HBF HBJ
          go_wp2
          go_ret
          exact ⟨rfl, HW5.out⟩
/-- Join at every list of texts. -/
theorem join_any (v : Value) (V : List (List UInt8)) (c : UInt8) (w : World) (hv : (V = [] ∧ ∃ a cap, v = .slice a 0 cap) ∨ ∃ b cap, v = .slice (some ⟨b, 0, none⟩) V.length cap ∧ V.length ≤ cap ∧ b < w.heap.size ∧ ∀ j, j < V.length → w.cell? ⟨b, j, none⟩ = some (.string ⟨(V.getD j []).toArray⟩)) (hl : V.length + lens V ≤ 1048576) :
    Calls Tryd.prog 27 #[v, .string ⟨#[c]⟩] w fun e w' => e = .returned (.string ⟨(jn c V).toArray⟩) ∧ Below w.heap.size w w' := by
  have hv : (V = [] ∧ ∃ a cap, v = .slice a 0 cap) ∨ (V ≠ [] ∧ ∃ b cap, v = .slice (some ⟨b, 0, none⟩) V.length cap ∧ V.length ≤ cap ∧ b < w.heap.size ∧ ∀ j, j < V.length → w.cell? ⟨b, j, none⟩ = some (.string ⟨(V.getD j []).toArray⟩)) := by
    rcases hv with h | ⟨b, cap, rfl, h⟩
    · exact .inl h
    · by_cases e : V = []
      · subst e; exact .inl ⟨rfl, _, _, rfl⟩
      · exact .inr ⟨e, b, cap, rfl, h⟩
  rcases hv with ⟨rfl, a, cap, rfl⟩ | ⟨hne, b, cap, rfl, hcap, hb, hc⟩
  · exact (join_none a cap c w).mono fun e w' ⟨he, hw⟩ => ⟨he, hw ▸ Below.refl _ _⟩
  · match V, hne, hcap, hc, hl with
    | [x], _, _, hc, _ => exact (join_one b 0 cap _ c w (hc 0 (by simp))).mono fun e w' ⟨he, hw⟩ => ⟨by rw [he]; simp [jn, tails], hw ▸ Below.refl _ _⟩
    | x :: y :: r, _, hcap, hc, hl => exact join_many b cap (x :: y :: r) c w hb hc (by simp) hcap hl
end Go.Proofs.YtejmfffapkmjoaaDoor.bl
