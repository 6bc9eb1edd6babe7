/-
  Contracts of both Check32 functions: the sum of 32 bits of a row of bytes.
  Plain facts on a row that a call owns while another block is laid and written.
  A number in so many bytes, the higher ones first: the program's.
  A number in so many bytes, the higher ones first: the specification's.
  Both NewLog functions.
-/
import Derived.Test.YtncnbhekgkemfaaGreatDoorPkaa
import Derived.Test.YtncnbhekgkemfaaGreatDoorRows
import Derived.WalkKit
import Derived.WalkLawsBesides
import Derived.Laws.BitsAllLaws
import Derived.Lib.Builder
import Derived.Lib.ConvBytes
import Derived.Lib.AtoiErrMem
import Derived.Lib.Strings
import Derived.Test.YtncnbhekgkemfaaGreatDoorPkan
import Derived.Laws.MakeOwn
import Derived.Laws.AppendOwn

namespace Go.Proofs.YtncnbhekgkemfaaGreatDoor.ck
open Go.RowKit
set_option linter.unusedVariables false

/-- One turn of the register. -/
def one (n : Nat) : Nat := if n % 2 = 1 then (n / 2) ^^^ 3988292384 else n / 2
def rep : Nat → Nat → Nat
  | 0, n => n
  | k + 1, n => one (rep k n)
def byte (n : Nat) (z : Int) : Nat := rep 8 (n ^^^ z.toNat)
def crc (zs : List Int) : Nat := zs.foldl byte 4294967295
/-- The sum of bytes. -/
def sum (zs : List Int) : Nat := crc zs ^^^ 4294967295

theorem xor_lt {a b : Nat} (ha : a < 4294967296) (hb : b < 4294967296) : a ^^^ b < 4294967296 := Nat.xor_lt_two_pow (n := 32) ha hb
theorem one_lt {n : Nat} (h : n < 4294967296) : one n < 4294967296 := by
  unfold one
  split
  · exact xor_lt (by omega) (by omega)
  · omega
theorem rep_lt {n : Nat} (h : n < 4294967296) : ∀ k, rep k n < 4294967296
  | 0 => h
  | k + 1 => one_lt (rep_lt h k)
def Bytes (zs : List Int) : Prop := ∀ j, j < zs.length → 0 ≤ zs.getD j 0 ∧ zs.getD j 0 ≤ 255
theorem byte_lt {n : Nat} {z : Int} (h : n < 4294967296) (h1 : z ≤ 255) : byte n z < 4294967296 := rep_lt (xor_lt h (by omega)) 8
theorem take_one (o : List Int) (k : Nat) (h : k < o.length) : o.take (k + 1) = o.take k ++ [o.getD k 0] := by
  rw [List.take_add_one, List.getElem?_eq_getElem h]
  simp [List.getD_eq_getElem?_getD, h]
theorem crc_step {zs : List Int} {k : Nat} (h : k < zs.length) : crc (zs.take (k + 1)) = byte (crc (zs.take k)) (zs.getD k 0) := by
  rw [take_one _ _ h]
  simp [crc]
theorem crc_lt {zs : List Int} (h : Bytes zs) : ∀ k, k ≤ zs.length → crc (zs.take k) < 4294967296 := by
  intro k
  induction k with
  | zero => intro _; simp [crc]
  | succ k ih =>
    intro hk
    rw [crc_step (by omega)]
    exact byte_lt (ih (by omega)) (h k (by omega)).2
theorem sum_lt {zs : List Int} (h : Bytes zs) : sum zs < 4294967296 := by
  have := crc_lt h zs.length (Nat.le_refl _)
  rw [List.take_length] at this
  exact xor_lt this (by omega)

theorem u32x (a b : Nat) (ha : a < 4294967296) (hb : b < 4294967296) : bits .xor .u32 (a : Int) (b : Int) = ((a ^^^ b : Nat) : Int) := u32_xor_nat a b ha hb
theorem i64x (a b : Nat) (ha : a < 4294967296) (hb : b < 4294967296) : bits .xor .i64 (a : Int) (b : Int) = ((a ^^^ b : Nat) : Int) := by
  have hx := xor_lt ha hb
  show IntKind.i64.wrap ((BitVec.ofInt 64 (a : Int) ^^^ BitVec.ofInt 64 (b : Int)).toNat : Int) = _
  rw [BitVec.toNat_xor, ofInt_u64 a (by omega), ofInt_u64 b (by omega)]
  simp only [IntKind.wrap, IntKind.bits, IntKind.signed]
  simp
  omega
theorem i64q (r : Nat) (h : r < 4294967296) : bits .xor .i64 ((r : Int) / 2) 3988292384 = (((r / 2) ^^^ 3988292384 : Nat) : Int) := by
  have := i64x (r / 2) 3988292384 (by omega) (by omega)
  rw [← this]
  rfl
theorem i64n (r : Nat) (h : r < 4294967296) : bits .xor .i64 (r : Int) 4294967295 = ((r ^^^ 4294967295 : Nat) : Int) := i64x r 4294967295 h (by omega)
theorem u32q (r : Nat) (h : r < 4294967296) : bits .xor .u32 ((r : Int) / 2) 3988292384 = (((r / 2) ^^^ 3988292384 : Nat) : Int) := by
  have := u32x (r / 2) 3988292384 (by omega) (by omega)
  rw [← this]
  rfl
theorem u32n (r : Nat) (h : r < 4294967296) : bits .xor .u32 IntKind.u32.max (r : Int) = ((r ^^^ 4294967295 : Nat) : Int) := by
  rw [Nat.xor_comm, show IntKind.u32.max = 4294967295 from by decide]
  exact u32x 4294967295 r (by omega) h
theorem xor_comm (a b : Nat) : a ^^^ b = b ^^^ a := Nat.xor_comm a b

set_option maxHeartbeats 2000000 in
set_option maxRecDepth 100000 in
theorem spec_l07Check (v : Value) (zs : List Int) (w : World) (h : ow.Reads .u8 w v zs) (hb : Bytes zs) (hz : zs.length ≤ 1048576) :
    Calls Tryz.prog 79 #[v] w fun e w' => e = .returned (.int .i64 ((sum zs : Nat) : Int)) ∧ w' = w := by
  obtain ⟨a, cap, rfl, h⟩ := h
  have HR : Hid (zs = [] ∨ ∃ b off, a = some ⟨b, off, none⟩ ∧ ∀ j, j < zs.length → w.cell? ⟨b, off + j, none⟩ = some (.int .u8 (zs.getD j 0))) := h
  have HB : Hid (Bytes zs) := hb
  clear h hb
  obtain ⟨n, hn⟩ : ∃ n, n = zs.length := ⟨_, rfl⟩
  have HN : Hid (n = zs.length) := hn
  rw [← hn] at hz ⊢
  clear hn
  go_enter Tryz.func79, Tryz.ntmps79
  go_wp2
  go_loop [3, 4] (fun q i => ∃ k : Nat, k ≤ n ∧ i = .int .i64 k ∧ q = .int .i64 ((crc (zs.take k) : Nat) : Int)) (fun _ i => n - (intOf i).toNat)
  case atStart => exact ⟨0, Nat.zero_le _, rfl, by simp [crc]⟩
  case round =>
    obtain ⟨k, hk, rfl, rfl⟩ := hrel
    have hc0 : crc (zs.take k) < 4294967296 := crc_lt HB.out k (by rw [← HN.out]; exact hk)
    obtain ⟨c, hc⟩ : ∃ c, c = crc (zs.take k) := ⟨_, rfl⟩
    rw [← hc] at hc0 ⊢
    have HC : Hid (c = crc (zs.take k)) := hc
    clear hc
    by_cases hlt : k < n
    · obtain ⟨b, off, hab, hcell⟩ : ∃ b off, a = some ⟨b, off, none⟩ ∧ w.cell? ⟨b, off + k, none⟩ = some (.int .u8 (zs.getD k 0)) := by
        rcases HR.out with h0 | ⟨b, off, e, h⟩
        · have := HN.out; rw [h0] at this; simp at this; omega
        · exact ⟨b, off, e, h k (by rw [← HN.out]; exact hlt)⟩
      subst hab
      obtain ⟨hz0, hz1⟩ := HB.out k (by rw [← HN.out]; exact hlt)
      obtain ⟨z, hze⟩ : ∃ z : Nat, zs.getD k 0 = (z : Int) := ⟨(zs.getD k 0).toNat, by omega⟩
      rw [hze] at hz0 hz1 hcell
      have HZ : Hid (zs.getD k 0 = (z : Int)) := hze
      clear hze
      have hx := i64x c z hc0 (by omega)
      have hm0 : c ^^^ z < 4294967296 := xor_lt hc0 (by omega)
      obtain ⟨m, hm⟩ : ∃ m, m = c ^^^ z := ⟨_, rfl⟩
      rw [← hm] at hx hm0
      have HM : Hid (m = c ^^^ z) := hm
      clear hm
      have hlt' : (k : Int) < (n : Int) := by omega
      go_wp2
      go_loop [3, 5] (fun q i => ∃ j : Nat, j ≤ 8 ∧ i = .int .i64 j ∧ q = .int .i64 ((rep j m : Nat) : Int)) (fun _ i => 8 - (intOf i).toNat)
      case atStart => exact ⟨0, Nat.zero_le _, rfl, rfl⟩
      case round =>
        obtain ⟨j, hj, rfl, rfl⟩ := hrel
        have hr0 : rep j m < 4294967296 := rep_lt hm0 j
        obtain ⟨r, hr⟩ : ∃ r, r = rep j m := ⟨_, rfl⟩
        rw [← hr] at hr0 ⊢
        have HRR : Hid (r = rep j m) := hr
        clear hr
        by_cases hj8 : j < 8
        · have hj8' : (j : Int) < 8 := by omega
          by_cases hodd : r % 2 = 1
          · have ht : (r : Int).tmod 2 = 1 := by rw [Int.tmod_eq_emod_of_nonneg (by omega)]; omega
            have hq : (r : Int).tdiv 2 = ((r / 2 : Nat) : Int) := by rw [Int.tdiv_eq_ediv_of_nonneg (by omega)]; omega
            have hx2 := i64q r hr0
            have HO : Hid (r % 2 = 1) := hodd
            clear hodd
            go_wp2
            go_round
            case rel => exact ⟨j + 1, by omega, by go_num, by show _ = Value.int .i64 ((one (rep j m) : Nat) : Int); rw [← HRR.out]; unfold one; rw [if_pos HO.out]⟩
            case measure => simp [intOf]; omega
          · have ht : (r : Int).tmod 2 = 0 := by rw [Int.tmod_eq_emod_of_nonneg (by omega)]; omega
            have hq : (r : Int).tdiv 2 = ((r / 2 : Nat) : Int) := by rw [Int.tdiv_eq_ediv_of_nonneg (by omega)]; omega
            have HO : Hid (¬ r % 2 = 1) := hodd
            clear hodd
            go_wp2
            go_round
            case rel => exact ⟨j + 1, by omega, by go_num, by show _ = Value.int .i64 ((one (rep j m) : Nat) : Int); rw [← HRR.out]; unfold one; rw [if_neg HO.out]; rfl⟩
            case measure => simp [intOf]; omega
        · have hj8' : ¬ (j : Int) < 8 := by omega
          go_wp2
          go_round
          case rel =>
            refine ⟨k + 1, by omega, by go_num, ?_⟩
            rw [crc_step (by rw [← HN.out]; exact hlt), ← HC.out, HZ.out]
            unfold byte
            rw [show (z : Int).toNat = z from rfl, ← HM.out, HRR.out, show j = 8 from by omega]
          case measure => simp [intOf]; omega
    · have hlt' : ¬ (k : Int) < (n : Int) := by omega
      have hx := i64n c hc0
      go_wp2
      go_ret
      refine ⟨?_, rfl⟩
      have e : sum zs = c ^^^ 4294967295 := by
        unfold sum
        rw [HC.out, show k = zs.length from by have := HN.out; omega, List.take_length]
      rw [e]
      rfl

set_option maxHeartbeats 2000000 in
set_option maxRecDepth 100000 in
theorem impl_any (v : Value) (zs : List Int) (w : World) (h : ow.Reads .u8 w v zs) (hb : Bytes zs) (hz : zs.length ≤ 1048576) :
    Calls Tryz.prog 130 #[v] w fun e w' => e = .returned (.int .i64 (if zs.length ≤ 65536 then ((sum zs : Nat) : Int) else 0)) ∧ w' = w := by
  obtain ⟨a, cap, rfl, h⟩ := h
  by_cases hl : zs.length ≤ 65536
  case neg =>
    have hl' : (65536 : Int) < (zs.length : Int) := by omega
    rw [if_neg hl]
    go_enter Tryz.func130, Tryz.ntmps130
    go_wp2
    go_ret
    exact ⟨rfl, rfl⟩
  rw [if_pos hl]
  have HR : Hid (zs = [] ∨ ∃ b off, a = some ⟨b, off, none⟩ ∧ ∀ j, j < zs.length → w.cell? ⟨b, off + j, none⟩ = some (.int .u8 (zs.getD j 0))) := h
  have HB : Hid (Bytes zs) := hb
  clear h hb
  obtain ⟨n, hn⟩ : ∃ n, n = zs.length := ⟨_, rfl⟩
  have HN : Hid (n = zs.length) := hn
  rw [← hn] at hz hl ⊢
  clear hn
  have hl' : (n : Int) ≤ 65536 := by omega
  go_enter Tryz.func130, Tryz.ntmps130
  go_wp2
  go_loop [3, 12] (fun q i => ∃ k : Nat, k ≤ n ∧ i = .int .i64 k ∧ q = .int .u32 ((crc (zs.take k) : Nat) : Int)) (fun _ i => n - (intOf i).toNat)
  case atStart => exact ⟨0, Nat.zero_le _, rfl, by simp [crc]⟩
  case round =>
    obtain ⟨k, hk, rfl, rfl⟩ := hrel
    have hc0 : crc (zs.take k) < 4294967296 := crc_lt HB.out k (by rw [← HN.out]; exact hk)
    obtain ⟨c, hc⟩ : ∃ c, c = crc (zs.take k) := ⟨_, rfl⟩
    rw [← hc] at hc0 ⊢
    have HC : Hid (c = crc (zs.take k)) := hc
    clear hc
    by_cases hlt : k < n
    · obtain ⟨b, off, hab, hcell⟩ : ∃ b off, a = some ⟨b, off, none⟩ ∧ w.cell? ⟨b, off + k, none⟩ = some (.int .u8 (zs.getD k 0)) := by
        rcases HR.out with h0 | ⟨b, off, e, h⟩
        · have := HN.out; rw [h0] at this; simp at this; omega
        · exact ⟨b, off, e, h k (by rw [← HN.out]; exact hlt)⟩
      subst hab
      obtain ⟨hz0, hz1⟩ := HB.out k (by rw [← HN.out]; exact hlt)
      obtain ⟨z, hze⟩ : ∃ z : Nat, zs.getD k 0 = (z : Int) := ⟨(zs.getD k 0).toNat, by omega⟩
      rw [hze] at hz0 hz1 hcell
      have HZ : Hid (zs.getD k 0 = (z : Int)) := hze
      clear hze
      have hx := u32x c z hc0 (by omega)
      have hm0 : c ^^^ z < 4294967296 := xor_lt hc0 (by omega)
      obtain ⟨m, hm⟩ : ∃ m, m = c ^^^ z := ⟨_, rfl⟩
      rw [← hm] at hx hm0
      have HM : Hid (m = c ^^^ z) := hm
      clear hm
      have hlt' : (k : Int) < (n : Int) := by omega
      go_wp2
      go_loop [3, 20] (fun q i => ∃ j : Nat, j ≤ 8 ∧ i = .int .i64 j ∧ q = .int .u32 ((rep j m : Nat) : Int)) (fun _ i => 8 - (intOf i).toNat)
      case atStart => exact ⟨0, Nat.zero_le _, rfl, rfl⟩
      case round =>
        obtain ⟨j, hj, rfl, rfl⟩ := hrel
        have hr0 : rep j m < 4294967296 := rep_lt hm0 j
        obtain ⟨r, hr⟩ : ∃ r, r = rep j m := ⟨_, rfl⟩
        rw [← hr] at hr0 ⊢
        have HRR : Hid (r = rep j m) := hr
        clear hr
        by_cases hj8 : j < 8
        · have hj8' : (j : Int) < 8 := by omega
          by_cases hodd : r % 2 = 1
          · have ht : (r : Int).tmod 2 = 1 := by rw [Int.tmod_eq_emod_of_nonneg (by omega)]; omega
            have hq : (r : Int).tdiv 2 = ((r / 2 : Nat) : Int) := by rw [Int.tdiv_eq_ediv_of_nonneg (by omega)]; omega
            have hm1 : (r : Int) % 2 = 1 := by omega
            have hx2 := u32q r hr0
            have HO : Hid (r % 2 = 1) := hodd
            clear hodd
            go_wp2
            go_round
            case rel => exact ⟨j + 1, by omega, by go_num, by show _ = Value.int .u32 ((one (rep j m) : Nat) : Int); rw [← HRR.out]; unfold one; rw [if_pos HO.out]⟩
            case measure => simp [intOf]; omega
          · have ht : (r : Int).tmod 2 = 0 := by rw [Int.tmod_eq_emod_of_nonneg (by omega)]; omega
            have hq : (r : Int).tdiv 2 = ((r / 2 : Nat) : Int) := by rw [Int.tdiv_eq_ediv_of_nonneg (by omega)]; omega
            have hm1 : (r : Int) % 2 = 0 := by omega
            have HO : Hid (¬ r % 2 = 1) := hodd
            clear hodd
            go_wp2
            go_round
            case rel => exact ⟨j + 1, by omega, by go_num, by show _ = Value.int .u32 ((one (rep j m) : Nat) : Int); rw [← HRR.out]; unfold one; rw [if_neg HO.out]; rfl⟩
            case measure => simp [intOf]; omega
        · have hj8' : ¬ (j : Int) < 8 := by omega
          go_wp2
          go_round
          case rel =>
            refine ⟨k + 1, by omega, by go_num, ?_⟩
            rw [crc_step (by rw [← HN.out]; exact hlt), ← HC.out, HZ.out]
            unfold byte
            rw [show (z : Int).toNat = z from rfl, ← HM.out, HRR.out, show j = 8 from by omega]
          case measure => simp [intOf]; omega
    · have hlt' : ¬ (k : Int) < (n : Int) := by omega
      have hx := u32n c hc0
      have hx2 : c ^^^ 4294967295 < 4294967296 := xor_lt hc0 (by omega)
      obtain ⟨s, hs⟩ : ∃ s, s = c ^^^ 4294967295 := ⟨_, rfl⟩
      rw [← hs] at hx hx2
      have HS : Hid (s = c ^^^ 4294967295) := hs
      clear hs
      go_wp2
      go_ret
      refine ⟨?_, rfl⟩
      have e : sum zs = s := by
        unfold sum
        rw [HS.out, HC.out, show k = zs.length from by have := HN.out; omega, List.take_length]
      rw [e]
      show Ending.returned (Value.int .i64 (wrap64 (s : Int))) = _
      rw [show wrap64 (s : Int) = (s : Int) from by unfold wrap64; omega]
end Go.Proofs.YtncnbhekgkemfaaGreatDoor.ck

namespace Go.Proofs.YtncnbhekgkemfaaGreatDoor.ow
open Go.RowKit
set_option linter.unusedVariables false

theorem own_ne_block {w : World} {base e size n g : Nat} {v : Value} {xs : List Value} (h : w.ownsRow base e size v n xs) (hg : w.heap.size ≤ g) : v.ownBlock ≠ some g := by
  rcases h.2 with ⟨rfl, _⟩ | ⟨b, cap, cur, rfl, _, c, _⟩
  · exact fun x => by cases x
  · intro x
    have e : b = g := by simpa [Value.ownBlock] using x
    have := (Array.getElem?_eq_some_iff.1 c).1
    omega
/-- A block was laid, and an order drawn. -/
theorem built {w wr W : World} {base e size n : Nat} {v : Value} {xs : List Value} {cs : Array Value} {t : TypeId} (hW : W = (wr.alloc (.cells cs t)).drew) (hown : wr.ownsRow base e size v n xs) (hbw : Below base w wr) (hB : base ≤ wr.heap.size) :
    W.ownsRow base e size v n xs ∧ Below base w W ∧ W.heap[wr.heap.size]? = some (.cells cs t (0, 0)) ∧ v.ownBlock ≠ some wr.heap.size ∧ W.heap.size = wr.heap.size + 1 := by
  subst hW
  refine ⟨own_below hown (((Below.refl _ _).alloc (Nat.le_refl _) _).drew), (hbw.alloc hB _).drew, ?_, own_ne_block hown (Nat.le_refl _), ?_⟩
  · show (wr.heap.push (.cells cs t))[wr.heap.size]? = _
    simp
  · show (wr.heap.push (.cells cs t)).size = _
    simp
theorem laid {w wr W : World} {base e size n : Nat} {v : Value} {xs : List Value} {cs : Array Value} {t : TypeId} (hW : W = wr.alloc (.cells cs t)) (hown : wr.ownsRow base e size v n xs) (hbw : Below base w wr) (hB : base ≤ wr.heap.size) :
    W.ownsRow base e size v n xs ∧ Below base w W ∧ W.heap[wr.heap.size]? = some (.cells cs t (0, 0)) ∧ v.ownBlock ≠ some wr.heap.size ∧ W.heap.size = wr.heap.size + 1 := by
  subst hW
  refine ⟨own_below hown ((Below.refl _ _).alloc (Nat.le_refl _) _), hbw.alloc hB _, ?_, own_ne_block hown (Nat.le_refl _), ?_⟩
  · show (wr.heap.push (.cells cs t))[wr.heap.size]? = _
    simp
  · show (wr.heap.push (.cells cs t)).size = _
    simp
/-- A cell of that block is written. -/
theorem wrote {w W : World} {base e size n g : Nat} {v : Value} {xs : List Value} {cs : Array Value} {t : TypeId} (j : Nat) (u : Value) (hown : W.ownsRow base e size v n xs) (hbw : Below base w W) (hg : base ≤ g) (hblk : W.heap[g]? = some (.cells cs t (0, 0))) (hne : v.ownBlock ≠ some g) :
    (W.setCell ⟨g, j, none⟩ u).ownsRow base e size v n xs ∧ Below base w (W.setCell ⟨g, j, none⟩ u) ∧ (W.setCell ⟨g, j, none⟩ u).heap[g]? = some (.cells (cs.setIfInBounds j u) t (0, 0)) ∧ (W.setCell ⟨g, j, none⟩ u).heap.size = W.heap.size := by
  refine ⟨?_, hbw.setCell (p := ⟨g, j, none⟩) hg _, ?_, ?_⟩
  · refine hown.kept (row := some g) ⟨rfl, rfl, rfl, by simp [World.setCell], fun k _ hk => Below.heap_setCell _ _ _ _ (fun e => hk (by simp [e]))⟩ (Or.inr hne)
  · simp [World.setCell, Array.getElem?_modify, hblk]
  · simp [World.setCell]
theorem set_blk {W : World} {g : Nat} {cs : Array Value} {t : TypeId} (hblk : W.heap[g]? = some (.cells cs t (0, 0))) (j : Nat) (u : Value) : (W.setCell ⟨g, j, none⟩ u).heap[g]? = some (.cells (cs.setIfInBounds j u) t (0, 0)) := by
  simp [World.setCell, Array.getElem?_modify, hblk]
theorem cell_blk {W : World} {g : Nat} {cs : Array Value} {t : TypeId} (hblk : W.heap[g]? = some (.cells cs t (0, 0))) (j : Nat) : W.cell? ⟨g, j, none⟩ = cs[j]? := Lib.cell_of_heap hblk j
theorem frozen_blk {W : World} {g : Nat} {cs : Array Value} {t : TypeId} (hblk : W.heap[g]? = some (.cells cs t (0, 0))) (j : Nat) : W.frozen? ⟨g, j, none⟩ = false := Lib.frozen_of_heap hblk j
theorem news_blk {W : World} {g : Nat} {cs : Array Value} {t : TypeId} {xs : List Value} (hblk : W.heap[g]? = some (.cells cs t (0, 0))) (hxs : ∀ (j : Nat) (u : Value), xs[j]? = some u → cs[j]? = some u) : ∀ (j : Nat) (u : Value), xs[j]? = some u → W.cell? ((⟨g, 0, none⟩ : Addr).add j) = some u := by
  intro j u hj
  rw [add_at, cell_blk hblk]
  exact hxs j u hj
theorem reads_below {k : IntKind} {w w' : World} {v : Value} {zs : List Int} (h : Reads k w v zs) (hb : Below w.heap.size w w') : Reads k w' v zs :=
  reads_keep h fun a u ha => (hb.cell (World.block_lt_of_cell? w _ ha)).trans ha
theorem one_bytes (l : List UInt8) : ∀ u ∈ Lib.byteCells l, u.oneCell' = true := by
  intro u hu
  obtain ⟨x, _, rfl⟩ := List.mem_map.1 hu
  rfl
/-- A slice value under which these bytes lie. -/
def Lies (w : World) (v : Value) (l : List UInt8) : Prop :=
  ∃ ao cap, v = .slice ao l.length cap ∧ (l = [] ∨ ∃ b, ao = some ⟨b, 0, none⟩ ∧ l.length ≤ cap ∧ ∀ j, j < l.length → w.cell? ⟨b, j, none⟩ = some (.int .u8 ((l.getD j 0).toNat : Int)))
theorem lies_own {w : World} {base e : Nat} {v : Value} {l : List UInt8} (h : w.ownsRow base e 1 v l.length (Lib.byteCells l)) : Lies w v l := by
  rcases h.2 with ⟨hv, h0⟩ | ⟨g, cap, cur, hv, _, _, hc, _⟩
  · exact ⟨none, 0, by rw [hv, h0], .inl (List.eq_nil_of_length_eq_zero h0)⟩
  · refine ⟨_, cap, hv, .inr ⟨g, rfl, hc, fun j hj => ?_⟩⟩
    subst hv
    rw [h.cellAt j (by omega)]
    simp [Lib.byteCells, hj]
/-- The bytes of a text, behind its conversion. -/
theorem lies_conv (w : World) (e : TypeId) (s : ByteArray) : Lies (Lib.bytesWorld w e s) (.slice (some ⟨w.heap.size, 0, none⟩) s.size (grownCap w s.size 0 e)) s.data.toList := by
  refine ⟨_, _, by rw [← Lib.size_eq], .inr ⟨_, rfl, by rw [← Lib.size_eq]; exact grownCap_ge _ _ _ _, fun j hj => ?_⟩⟩
  rw [Lib.bytesWorld_cell w e s j (by rw [Lib.size_eq]; exact hj)]
theorem reads_lies {w : World} {v : Value} {l : List UInt8} (h : Lies w v l) : Reads .u8 w v (l.map fun b => (b.toNat : Int)) := by
  obtain ⟨ao, cap, rfl, h⟩ := h
  refine ⟨ao, cap, by rw [List.length_map], ?_⟩
  rcases h with rfl | ⟨b, rfl, _, hc⟩
  · exact .inl rfl
  · refine .inr ⟨b, 0, rfl, fun j hj => ?_⟩
    rw [List.length_map] at hj
    rw [Nat.zero_add, hc j hj]
    simp [List.getD_eq_getElem?_getD, hj]
theorem below_conv (w : World) (e : TypeId) (s : ByteArray) : Below w.heap.size w (Lib.bytesWorld w e s) := Lib.bytesWorld_below w e s
end Go.Proofs.YtncnbhekgkemfaaGreatDoor.ow

namespace Go.Proofs.YtncnbhekgkemfaaGreatDoor.lg
open Go.RowKit
set_option linter.unusedVariables false

/-- The bytes of a number, the higher ones first. -/
def be : Nat → Nat → List UInt8
  | 0, _ => []
  | k + 1, n => UInt8.ofNat (n / 256 ^ k) :: be k n
theorem be_len : ∀ k n, (be k n).length = k
  | 0, _ => rfl
  | k + 1, n => by simp [be, be_len k n]
def bz (k n : Nat) : List Int := (be k n).map fun b => (b.toNat : Int)
theorem bz_len (k n : Nat) : (bz k n).length = k := by simp [bz, be_len]
theorem bz_succ (k n : Nat) : bz (k + 1) n = ((n / 256 ^ k % 256 : Nat) : Int) :: bz k n := by simp [bz, be]
theorem set_mid (x : Int) (l : List Int) : ∀ m, (List.replicate (m + 1) (0 : Int) ++ l).set m x = List.replicate m 0 ++ x :: l
  | 0 => by simp
  | m + 1 => by
    have h := set_mid x l m
    rw [List.replicate_succ, List.cons_append, List.set_cons_succ, h, List.replicate_succ, List.cons_append]
theorem infoB : (Tryz.prog.info? 5).map (fun i => (i.zero, i.size, i.bytes)) = some (some (.int .u8 0), 1, 1) := by kernel_rfl

set_option maxHeartbeats 1000000 in
set_option maxRecDepth 100000 in
theorem inBytes_any (N n : Nat) (w : World) (hn : n ≤ 8) (hN : N < 4294967296) :
    Calls Tryz.prog 129 #[.int .i64 N, .int .i64 n] w fun e w' => e = .returned (.string ⟨(be n N).toArray⟩) ∧ Below w.heap.size w w' := by
  obtain ⟨i0, hi, hz0, hz1, hz2⟩ := info_parts infoB
  go_enter Tryz.func129, Tryz.ntmps129
  go_wp2_with (at_make; refine wpList_make_full _ rfl _ _ 124 rfl w.heap.size 5 i0 (.int .u8 0) 1 Tryz.underlying124 hi hz0 hz1 _ _ _ _ n rfl rfl rfl rfl (by rw [hz2]; omega) (by unfold maxLen; omega) (Nat.le_refl _) ?_; intro w1 hown1 hg1)
  have hb1 : Below w.heap.size w w1 := (Below.refl _ _).grown hg1 (Nat.le_refl _) (fun k hk => by cases hk)
  have hrep : (madeCells (Value.cells (.int .u8 0)) (n * 1)).toList = (List.replicate n (0 : Int)).map (Value.int .u8) := by
    rw [Nat.mul_one, List.map_replicate]
    exact toList_madeCells_one _ _
  rw [hrep] at hown1
  clear hg1 hrep hi hz0 hz1 hz2
  go_loopw [0, 11] (fun nm i wr => ∃ k : Nat, k ≤ n ∧ i = .int .i64 k ∧ nm = .int .i64 ((N / 256 ^ k : Nat) : Int) ∧ wr.ownsRow w.heap.size 5 1 (.slice (some ⟨w.heap.size, 0, none⟩) n n) n ((List.replicate (n - k) (0 : Int) ++ bz k N).map (Value.int .u8)) ∧ Below w.heap.size w wr) (fun _ i _ => n - (intOf i).toNat)
  case atStart => exact ⟨0, Nat.zero_le _, rfl, by simp, by simpa [bz, be] using hown1, hb1⟩
  case round =>
    clear hown1 hb1
    obtain ⟨k, hk, rfl, rfl, hown, hbw⟩ := hrel
    by_cases hlt : k < n
    · have hc := hown.cellAt (n - 1 - k) (by omega)
      have hll : (List.replicate (n - k) (0 : Int) ++ bz k N).length = n := by simp [bz_len]; omega
      have hyk : ((List.replicate (n - k) (0 : Int) ++ bz k N).map (Value.int .u8))[n - 1 - k]? = some (.int .u8 ((List.replicate (n - k) (0 : Int) ++ bz k N).getD (n - 1 - k) 0)) := by
        simp only [List.getElem?_map, List.getD_eq_getElem?_getD]
        rw [List.getElem?_eq_getElem (by omega)]
        rfl
      rw [hyk] at hc
      have hf := hown.frozenAt (n - 1 - k)
      have hst := hown.stored (n - 1 - k) (.int .u8 ((N / 256 ^ k % 256 : Nat) : Int))
      have hset : ((List.replicate (n - k) (0 : Int) ++ bz k N).map (Value.int .u8)).set (n - 1 - k) (.int .u8 ((N / 256 ^ k % 256 : Nat) : Int)) = (List.replicate (n - (k + 1)) (0 : Int) ++ bz (k + 1) N).map (Value.int .u8) := by
        rw [← List.map_set, bz_succ, show n - k = (n - 1 - k) + 1 from by omega, set_mid, show n - (k + 1) = n - 1 - k from by omega]
      rw [hset] at hst
      have hdiv : N / 256 ^ k / 256 = N / 256 ^ (k + 1) := by rw [Nat.div_div_eq_div_mul, Nat.pow_succ]
      have hle : N / 256 ^ k ≤ N := Nat.div_le_self _ _
      obtain ⟨Q, hQ⟩ : ∃ Q, N / 256 ^ k = Q := ⟨_, rfl⟩
      obtain ⟨m, hm⟩ : ∃ m, n - 1 - k = m := ⟨_, rfl⟩
      have HS : Hid ((wr.setCell ⟨w.heap.size, m, none⟩ (.int .u8 ((Q % 256 : Nat) : Int))).ownsRow w.heap.size 5 1 (.slice (some ⟨w.heap.size, 0, none⟩) n n) n ((List.replicate (n - (k + 1)) (0 : Int) ++ bz (k + 1) N).map (Value.int .u8)) ∧ Below w.heap.size w (wr.setCell ⟨w.heap.size, m, none⟩ (.int .u8 ((Q % 256 : Nat) : Int)))) := by
        rw [← hm, ← hQ]
        exact ⟨hst.1, hbw.setCell (Nat.le_refl _) _⟩
      rw [hQ] at hdiv hle ⊢
      rw [hm] at hc hf
      generalize (List.replicate (n - k) (0 : Int) ++ bz k N).getD m 0 = old at hc
      have HD : Hid (Q / 256 = N / 256 ^ (k + 1)) := hdiv
      clear hst hbw hown hyk hset hll hdiv
      have hlt' : (k : Int) < (n : Int) := by omega
      have hmi : (n : Int) - 1 - (k : Int) = (m : Int) := by omega
      go_wp2
      go_roundw
      case rel => exact ⟨k + 1, by omega, by go_num, by rw [← HD.out]; go_num, HS.out.1, HS.out.2⟩
      case measure => simp [intOf]; omega
    · have hkn : k = n := by omega
      subst hkn
      rw [Nat.sub_self, List.replicate_zero, List.nil_append] at hown
      have hcv := ow.conv_bytes (P := Tryz.prog) (src := 124) (dst := 9) (be k N) (by unfold bz at hown; rw [List.map_map] at hown; exact hown) Tryz.underlying124 Tryz.underlying5 Tryz.underlying9
      go_wp2
      go_ret
      exact ⟨rfl, hbw⟩
end Go.Proofs.YtncnbhekgkemfaaGreatDoor.lg

namespace Go.Proofs.YtncnbhekgkemfaaGreatDoor.lg
open Go.RowKit
set_option linter.unusedVariables false

set_option maxHeartbeats 2000000 in
set_option maxRecDepth 100000 in
theorem l08Bytes_any (N n : Nat) (w : World) (hn : n ≤ 4) (hN : N < 4294967296) :
    Calls Tryz.prog 78 #[.int .i64 N, .int .i64 n] w fun e w' => (∃ v, e = .returned v ∧ w'.ownsRow w.heap.size 5 1 v n ((bz n N).map (Value.int .u8))) ∧ Below w.heap.size w w' := by
  obtain ⟨i0, hi, hz0, hz1, hz2⟩ := info_parts infoB
  have hoe := ow.own_empty w 5
  have hbe := new_below w 5 #[]
  go_enter Tryz.func78, Tryz.ntmps78
  go_wp2
  go_loopw [5, 6] (fun v i wr => ∃ (k : Nat) (zs : List Int), k ≤ n ∧ i = .int .i64 ((k : Int) - 1) ∧ zs ++ bz k N = bz n N ∧ wr.ownsRow w.heap.size 5 1 v zs.length (zs.map (Value.int .u8)) ∧ Below w.heap.size w wr) (fun _ i _ => (intOf i + 1).toNat)
  case atStart => exact ⟨n, [], Nat.le_refl _, rfl, rfl, hoe, hbe⟩
  case round =>
    clear hoe hbe
    obtain ⟨k, zs, hk, rfl, hzs, hown, hbw⟩ := hrel
    have hBs := hbw.size
    have hzl : zs.length + k = n := by have := congrArg List.length hzs; simpa [bz_len] using this
    have HZ : Hid (zs ++ bz k N = bz n N) := hzs
    clear hzs
    by_cases hlt : k = 0
    · subst hlt
      have hzz : zs = bz n N := by have := HZ.out; simpa [bz, be] using this
      have hzn : zs.length = n := by omega
      rw [hzz, bz_len] at hown
      go_wp2
      go_ret
      exact ⟨⟨_, rfl, hown⟩, hbw⟩
    · have hcs : k = 1 ∨ k = 2 ∨ k = 3 ∨ k = 4 := by omega
      rcases hcs with rfl | rfl | rfl | rfl
      · have hx : Hid (bz 1 N = ((N : Int) % 256) :: bz 0 N) := by
          show bz 1 N = ((N : Int) % 256) :: bz 0 N
          rw [bz_succ]
          refine congrArg (· :: bz 0 N) ?_
          rw [show 256 ^ 0 = 1 from rfl]
          omega
        generalize hX : ((N : Int) % 256) = X at hx
        have HX : Hid (X = ((N : Int) % 256)) := hX.symm
        clear hX
        go_wp2_with (at_builtin; rw [← HX.out]; refine wpList_append_own _ rfl _ _ 124 rfl w.heap.size 5 i0 (.int .u8 0) 1 1 Tryz.underlying124 hi hz0 hz1 hz2 rfl (by decide) _ _ _ rfl (hown.alloc _) ⟨wr.heap.size, 0, none⟩ 1 1 [.int .u8 X] rfl rfl (ow.cells_new _ [.int .u8 X] _) (by intro u hu; simp at hu; subst hu; rfl) (by unfold maxLen; omega) (by omega) (by simp; omega) ?_; intro v' w3 hown3 hgrow3 hnil3)
        have hb3 := Below.grown (hbw.alloc hBs _) hgrow3 (by simp; omega) (ow.own_lt hown)
        have HA : Hid (Below w.heap.size w w3 ∧ w3.ownsRow w.heap.size 5 1 v' (zs.length + 1) (zs.map (Value.int .u8) ++ [.int .u8 X])) := ⟨hb3, hown3⟩
        clear hb3 hown3 hgrow3 hnil3 hown hbw
        go_wp2
        go_roundw
        case rel => exact ⟨0, zs ++ [X], by omega, by go_num, by rw [List.append_assoc, List.singleton_append, ← hx.out]; exact HZ.out, by rw [List.length_append, List.map_append]; exact HA.out.2, HA.out.1⟩
        case measure => simp [intOf]
      · have hx : Hid (bz 2 N = ((N : Int) / 256 % 256) :: bz 1 N) := by
          show bz 2 N = ((N : Int) / 256 % 256) :: bz 1 N
          rw [bz_succ]
          refine congrArg (· :: bz 1 N) ?_
          rw [show 256 ^ 1 = 256 from rfl]
          omega
        generalize hX : ((N : Int) / 256 % 256) = X at hx
        have HX : Hid (X = ((N : Int) / 256 % 256)) := hX.symm
        clear hX
        go_wp2_with (at_builtin; rw [← HX.out]; refine wpList_append_own _ rfl _ _ 124 rfl w.heap.size 5 i0 (.int .u8 0) 1 1 Tryz.underlying124 hi hz0 hz1 hz2 rfl (by decide) _ _ _ rfl (hown.alloc _) ⟨wr.heap.size, 0, none⟩ 1 1 [.int .u8 X] rfl rfl (ow.cells_new _ [.int .u8 X] _) (by intro u hu; simp at hu; subst hu; rfl) (by unfold maxLen; omega) (by omega) (by simp; omega) ?_; intro v' w3 hown3 hgrow3 hnil3)
        have hb3 := Below.grown (hbw.alloc hBs _) hgrow3 (by simp; omega) (ow.own_lt hown)
        have HA : Hid (Below w.heap.size w w3 ∧ w3.ownsRow w.heap.size 5 1 v' (zs.length + 1) (zs.map (Value.int .u8) ++ [.int .u8 X])) := ⟨hb3, hown3⟩
        clear hb3 hown3 hgrow3 hnil3 hown hbw
        go_wp2
        go_roundw
        case rel => exact ⟨1, zs ++ [X], by omega, by go_num, by rw [List.append_assoc, List.singleton_append, ← hx.out]; exact HZ.out, by rw [List.length_append, List.map_append]; exact HA.out.2, HA.out.1⟩
        case measure => simp [intOf]
      · have hx : Hid (bz 3 N = ((N : Int) / 65536 % 256) :: bz 2 N) := by
          show bz 3 N = ((N : Int) / 65536 % 256) :: bz 2 N
          rw [bz_succ]
          refine congrArg (· :: bz 2 N) ?_
          rw [show 256 ^ 2 = 65536 from rfl]
          omega
        generalize hX : ((N : Int) / 65536 % 256) = X at hx
        have HX : Hid (X = ((N : Int) / 65536 % 256)) := hX.symm
        clear hX
        go_wp2_with (at_builtin; rw [← HX.out]; refine wpList_append_own _ rfl _ _ 124 rfl w.heap.size 5 i0 (.int .u8 0) 1 1 Tryz.underlying124 hi hz0 hz1 hz2 rfl (by decide) _ _ _ rfl (hown.alloc _) ⟨wr.heap.size, 0, none⟩ 1 1 [.int .u8 X] rfl rfl (ow.cells_new _ [.int .u8 X] _) (by intro u hu; simp at hu; subst hu; rfl) (by unfold maxLen; omega) (by omega) (by simp; omega) ?_; intro v' w3 hown3 hgrow3 hnil3)
        have hb3 := Below.grown (hbw.alloc hBs _) hgrow3 (by simp; omega) (ow.own_lt hown)
        have HA : Hid (Below w.heap.size w w3 ∧ w3.ownsRow w.heap.size 5 1 v' (zs.length + 1) (zs.map (Value.int .u8) ++ [.int .u8 X])) := ⟨hb3, hown3⟩
        clear hb3 hown3 hgrow3 hnil3 hown hbw
        go_wp2
        go_roundw
        case rel => exact ⟨2, zs ++ [X], by omega, by go_num, by rw [List.append_assoc, List.singleton_append, ← hx.out]; exact HZ.out, by rw [List.length_append, List.map_append]; exact HA.out.2, HA.out.1⟩
        case measure => simp [intOf]
      · have hx : Hid (bz 4 N = ((N : Int) / 16777216) :: bz 3 N) := by
          show bz 4 N = ((N : Int) / 16777216) :: bz 3 N
          rw [bz_succ]
          refine congrArg (· :: bz 3 N) ?_
          rw [show 256 ^ 3 = 16777216 from rfl]
          omega
        generalize hX : ((N : Int) / 16777216) = X at hx
        have HX : Hid (X = ((N : Int) / 16777216)) := hX.symm
        clear hX
        go_wp2_with (at_builtin; rw [← HX.out]; refine wpList_append_own _ rfl _ _ 124 rfl w.heap.size 5 i0 (.int .u8 0) 1 1 Tryz.underlying124 hi hz0 hz1 hz2 rfl (by decide) _ _ _ rfl (hown.alloc _) ⟨wr.heap.size, 0, none⟩ 1 1 [.int .u8 X] rfl rfl (ow.cells_new _ [.int .u8 X] _) (by intro u hu; simp at hu; subst hu; rfl) (by unfold maxLen; omega) (by omega) (by simp; omega) ?_; intro v' w3 hown3 hgrow3 hnil3)
        have hb3 := Below.grown (hbw.alloc hBs _) hgrow3 (by simp; omega) (ow.own_lt hown)
        have HA : Hid (Below w.heap.size w w3 ∧ w3.ownsRow w.heap.size 5 1 v' (zs.length + 1) (zs.map (Value.int .u8) ++ [.int .u8 X])) := ⟨hb3, hown3⟩
        clear hb3 hown3 hgrow3 hnil3 hown hbw
        go_wp2
        go_roundw
        case rel => exact ⟨3, zs ++ [X], by omega, by go_num, by rw [List.append_assoc, List.singleton_append, ← hx.out]; exact HZ.out, by rw [List.length_append, List.map_append]; exact HA.out.2, HA.out.1⟩
        case measure => simp [intOf]
end Go.Proofs.YtncnbhekgkemfaaGreatDoor.lg

namespace Go.Proofs.YtncnbhekgkemfaaGreatDoor.lg
open Go.ChangeShapes Go.WideShapes Go.ChangeAt Go.RowKit Go.Deep Go.Joins
set_option linter.unusedVariables false

/-- A log and a code, as an answer. -/
def RV (r : Int) (d : ByteArray) (s c : Int) : Value := .tuple #[LV r d s, .int .i64 c]
def newLog (room : Int) : Value := if 0 ≤ room ∧ room ≤ 60000 then RV room ⟨#[]⟩ 0 0 else RV 0 ⟨#[]⟩ 0 4
theorem newLog_form (room : Int) : ∃ (r : Int) (d : ByteArray) (s c : Int), newLog room = RV r d s c := by
  unfold newLog
  split
  · exact ⟨_, _, _, _, rfl⟩
  · exact ⟨_, _, _, _, rfl⟩


end Go.Proofs.YtncnbhekgkemfaaGreatDoor.lg
