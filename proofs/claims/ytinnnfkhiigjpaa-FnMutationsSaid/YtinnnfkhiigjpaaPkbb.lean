/-
  A number in so many bytes, the higher ones first: the specification's.
  Plain facts on a mutation's bytes.
  The number that bytes say: both functions; a cutter that takes pieces off the front of a text.
-/
import Derived.Test.YtinnnfkhiigjpaaPkba
import Derived.Laws.AppendOwn
import Derived.Test.YtinnnfkhiigjpaaPkax
import Derived.Test.YtinnnfkhiigjpaaPkaa
import Derived.Test.YtinnnfkhiigjpaaRows
import Derived.WalkKit
import Derived.WalkLawsBesides
import Derived.Below
import Derived.Laws.BitsAllLaws
import Derived.BigQuiet
import Derived.Deep.QuietTactic
import Derived.BigRegion
import Derived.WideShapes
import Derived.Lib.Strings

namespace Go.Proofs.Ytinnnfkhiigjpaa.lg
open Go.RowKit
set_option linter.unusedVariables false

set_option maxHeartbeats 2000000 in
set_option maxRecDepth 100000 in
theorem l08Bytes_any (N n : Nat) (w : World) (hn : n ≤ 4) (hN : N < 4294967296) :
    Calls Try.prog 29 #[.int .i64 N, .int .i64 n] w fun e w' => (∃ v, e = .returned v ∧ w'.ownsRow w.heap.size 5 1 v n ((bz n N).map (Value.int .u8))) ∧ Below w.heap.size w w' := by
  obtain ⟨i0, hi, hz0, hz1, hz2⟩ := info_parts infoB
  have hoe := ow.own_empty w 5
  have hbe := new_below w 5 #[]
  go_enter Try.func29, Try.ntmps29
  go_wp2
  go_loopw [5, 6] (fun v i wr => ∃ (k : Nat) (zs : List Int), k ≤ n ∧ i = .int .i64 ((k : Int) - 1) ∧ zs ++ bz k N = bz n N ∧ wr.ownsRow w.heap.size 5 1 v zs.length (zs.map (Value.int .u8)) ∧ Below w.heap.size w wr) (fun _ i _ => (intOf i + 1).toNat)
  case atStart => exact ⟨n, [], Nat.le_refl _, rfl, rfl, hoe, hbe⟩
  case round =>
    clear hoe hbe
    obtain ⟨k, zs, hk, rfl, hzs, hown, hbw⟩ := hrel
    have hBs := hbw.size
    have hzl : zs.length + k = n := by have := congrArg List.length hzs; simpa [bz_len] using this
    have HZ : Hid (zs ++ bz k N = bz n N) := hzs
    clear hzs
    by_cases hlt : k = 0
    · subst hlt
      have hzz : zs = bz n N := by have := HZ.out; simpa [bz, be] using this
      have hzn : zs.length = n := by omega
      rw [hzz, bz_len] at hown
      go_wp2
      go_ret
      exact ⟨⟨_, rfl, hown⟩, hbw⟩
    · have hcs : k = 1 ∨ k = 2 ∨ k = 3 ∨ k = 4 := by omega
      rcases hcs with rfl | rfl | rfl | rfl
      · have hx : Hid (bz 1 N = ((N : Int) % 256) :: bz 0 N) := by
          show bz 1 N = ((N : Int) % 256) :: bz 0 N
          rw [bz_succ]
          refine congrArg (· :: bz 0 N) ?_
          rw [show 256 ^ 0 = 1 from rfl]
          omega
        generalize hX : ((N : Int) % 256) = X at hx
        have HX : Hid (X = ((N : Int) % 256)) := hX.symm
        clear hX
        go_wp2_with (at_builtin; rw [← HX.out]; refine wpList_append_own _ rfl _ _ 22 rfl w.heap.size 5 i0 (.int .u8 0) 1 1 Try.underlying22 hi hz0 hz1 hz2 rfl (by decide) _ _ _ rfl (hown.alloc _) ⟨wr.heap.size, 0, none⟩ 1 1 [.int .u8 X] rfl rfl (ow.cells_new _ [.int .u8 X] _) (by intro u hu; simp at hu; subst hu; rfl) (by unfold maxLen; omega) (by omega) (by simp; omega) ?_; intro v' w3 hown3 hgrow3 hnil3)
        have hb3 := Below.grown (hbw.alloc hBs _) hgrow3 (by simp; omega) (ow.own_lt hown)
        have HA : Hid (Below w.heap.size w w3 ∧ w3.ownsRow w.heap.size 5 1 v' (zs.length + 1) (zs.map (Value.int .u8) ++ [.int .u8 X])) := ⟨hb3, hown3⟩
        clear hb3 hown3 hgrow3 hnil3 hown hbw
        go_wp2
        go_roundw
        case rel => exact ⟨0, zs ++ [X], by omega, by go_num, by rw [List.append_assoc, List.singleton_append, ← hx.out]; exact HZ.out, by rw [List.length_append, List.map_append]; exact HA.out.2, HA.out.1⟩
        case measure => simp [intOf]
      · have hx : Hid (bz 2 N = ((N : Int) / 256 % 256) :: bz 1 N) := by
          show bz 2 N = ((N : Int) / 256 % 256) :: bz 1 N
          rw [bz_succ]
          refine congrArg (· :: bz 1 N) ?_
          rw [show 256 ^ 1 = 256 from rfl]
          omega
        generalize hX : ((N : Int) / 256 % 256) = X at hx
        have HX : Hid (X = ((N : Int) / 256 % 256)) := hX.symm
        clear hX
        go_wp2_with (at_builtin; rw [← HX.out]; refine wpList_append_own _ rfl _ _ 22 rfl w.heap.size 5 i0 (.int .u8 0) 1 1 Try.underlying22 hi hz0 hz1 hz2 rfl (by decide) _ _ _ rfl (hown.alloc _) ⟨wr.heap.size, 0, none⟩ 1 1 [.int .u8 X] rfl rfl (ow.cells_new _ [.int .u8 X] _) (by intro u hu; simp at hu; subst hu; rfl) (by unfold maxLen; omega) (by omega) (by simp; omega) ?_; intro v' w3 hown3 hgrow3 hnil3)
        have hb3 := Below.grown (hbw.alloc hBs _) hgrow3 (by simp; omega) (ow.own_lt hown)
        have HA : Hid (Below w.heap.size w w3 ∧ w3.ownsRow w.heap.size 5 1 v' (zs.length + 1) (zs.map (Value.int .u8) ++ [.int .u8 X])) := ⟨hb3, hown3⟩
        clear hb3 hown3 hgrow3 hnil3 hown hbw
        go_wp2
        go_roundw
        case rel => exact ⟨1, zs ++ [X], by omega, by go_num, by rw [List.append_assoc, List.singleton_append, ← hx.out]; exact HZ.out, by rw [List.length_append, List.map_append]; exact HA.out.2, HA.out.1⟩
        case measure => simp [intOf]
      · have hx : Hid (bz 3 N = ((N : Int) / 65536 % 256) :: bz 2 N) := by
          show bz 3 N = ((N : Int) / 65536 % 256) :: bz 2 N
          rw [bz_succ]
          refine congrArg (· :: bz 2 N) ?_
          rw [show 256 ^ 2 = 65536 from rfl]
          omega
        generalize hX : ((N : Int) / 65536 % 256) = X at hx
        have HX : Hid (X = ((N : Int) / 65536 % 256)) := hX.symm
        clear hX
        go_wp2_with (at_builtin; rw [← HX.out]; refine wpList_append_own _ rfl _ _ 22 rfl w.heap.size 5 i0 (.int .u8 0) 1 1 Try.underlying22 hi hz0 hz1 hz2 rfl (by decide) _ _ _ rfl (hown.alloc _) ⟨wr.heap.size, 0, none⟩ 1 1 [.int .u8 X] rfl rfl (ow.cells_new _ [.int .u8 X] _) (by intro u hu; simp at hu; subst hu; rfl) (by unfold maxLen; omega) (by omega) (by simp; omega) ?_; intro v' w3 hown3 hgrow3 hnil3)
        have hb3 := Below.grown (hbw.alloc hBs _) hgrow3 (by simp; omega) (ow.own_lt hown)
        have HA : Hid (Below w.heap.size w w3 ∧ w3.ownsRow w.heap.size 5 1 v' (zs.length + 1) (zs.map (Value.int .u8) ++ [.int .u8 X])) := ⟨hb3, hown3⟩
        clear hb3 hown3 hgrow3 hnil3 hown hbw
        go_wp2
        go_roundw
        case rel => exact ⟨2, zs ++ [X], by omega, by go_num, by rw [List.append_assoc, List.singleton_append, ← hx.out]; exact HZ.out, by rw [List.length_append, List.map_append]; exact HA.out.2, HA.out.1⟩
        case measure => simp [intOf]
      · have hx : Hid (bz 4 N = ((N : Int) / 16777216) :: bz 3 N) := by
          show bz 4 N = ((N : Int) / 16777216) :: bz 3 N
          rw [bz_succ]
          refine congrArg (· :: bz 3 N) ?_
          rw [show 256 ^ 3 = 16777216 from rfl]
          omega
        generalize hX : ((N : Int) / 16777216) = X at hx
        have HX : Hid (X = ((N : Int) / 16777216)) := hX.symm
        clear hX
        go_wp2_with (at_builtin; rw [← HX.out]; refine wpList_append_own _ rfl _ _ 22 rfl w.heap.size 5 i0 (.int .u8 0) 1 1 Try.underlying22 hi hz0 hz1 hz2 rfl (by decide) _ _ _ rfl (hown.alloc _) ⟨wr.heap.size, 0, none⟩ 1 1 [.int .u8 X] rfl rfl (ow.cells_new _ [.int .u8 X] _) (by intro u hu; simp at hu; subst hu; rfl) (by unfold maxLen; omega) (by omega) (by simp; omega) ?_; intro v' w3 hown3 hgrow3 hnil3)
        have hb3 := Below.grown (hbw.alloc hBs _) hgrow3 (by simp; omega) (ow.own_lt hown)
        have HA : Hid (Below w.heap.size w w3 ∧ w3.ownsRow w.heap.size 5 1 v' (zs.length + 1) (zs.map (Value.int .u8) ++ [.int .u8 X])) := ⟨hb3, hown3⟩
        clear hb3 hown3 hgrow3 hnil3 hown hbw
        go_wp2
        go_roundw
        case rel => exact ⟨3, zs ++ [X], by omega, by go_num, by rw [List.append_assoc, List.singleton_append, ← hx.out]; exact HZ.out, by rw [List.length_append, List.map_append]; exact HA.out.2, HA.out.1⟩
        case measure => simp [intOf]
end Go.Proofs.Ytinnnfkhiigjpaa.lg

namespace Go.Proofs.Ytinnnfkhiigjpaa.mb
open Go.RowKit
open it mu
open lg (be be_len)
set_option linter.unusedVariables false

/-- A number's byte. -/
def u8 (z : Int) : UInt8 := UInt8.ofNat z.toNat
theorem wrap8 {z : Int} (h0 : 0 ≤ z) (h1 : z < 256) : IntKind.u8.wrap z = ((u8 z).toNat : Int) := by
  have e : (u8 z).toNat = z.toNat := by
    unfold u8
    rw [UInt8.toNat_ofNat']
    omega
  rw [e]
  have h256 : (2 : Int) ^ IntKind.u8.bits = 256 := rfl
  unfold IntKind.wrap
  simp only [h256, show IntKind.u8.signed = false from rfl, Bool.false_and, Bool.false_eq_true, if_false]
  omega
def hdB (x : Mu) : List UInt8 := [u8 x.k, u8 x.m, u8 x.f, u8 (x.ps.length : Int), u8 (x.b.size : Int)]
def itB (p : Pr) : List UInt8 := be 2 p.1.size ++ be 2 p.2.size ++ p.1.data.toList ++ p.2.data.toList
def itsB (ps : List Pr) (k : Nat) : List UInt8 := (ps.take k).flatMap itB
theorem itsB_step {ps : List Pr} {k : Nat} (h : k < ps.length) : itsB ps (k + 1) = itsB ps k ++ itB (ps.getD k no) := by
  unfold itsB
  rw [List.take_succ_eq_append_getElem h, List.flatMap_append]
  simp [List.getD_eq_getElem?_getD, h]
/-- A mutation's bytes. -/
def mB (x : Mu) : List UInt8 := hdB x ++ be 2 x.u.toNat ++ x.b.data.toList ++ itsB x.ps x.ps.length
theorem size_list (b : ByteArray) : b.data.toList.length = b.size := rfl
theorem itB_len (p : Pr) : (itB p).length = 4 + p.1.size + p.2.size := by
  simp [itB, be_len]
  omega
/-- What a right mutation's parts are. -/
structure Fits (x : Mu) : Prop where
  k : 0 ≤ x.k ∧ x.k < 256
  u : 0 ≤ x.u ∧ x.u < 65536
  m : 0 ≤ x.m ∧ x.m < 256
  f : 0 ≤ x.f ∧ x.f < 256
  b : x.b.size ≤ 40
  n : x.ps.length ≤ 20
  i : ∀ j, j < x.ps.length → (x.ps.getD j no).1.size ≤ 200 ∧ (x.ps.getD j no).2.size ≤ 4000
theorem fits_of {x : Mu} (h : mok x = true) : Fits x := by
  unfold mok at h
  rw [Bool.and_eq_true, Bool.and_eq_true] at h
  obtain ⟨⟨h1, h2⟩, h3⟩ := h
  have hn : nm.IsName x.b := by
    unfold nmB at h1
    exact ow.dof h1
  have hi := its_of h2
  have hk := of_decide_eq_true h3
  refine ⟨by omega, by omega, by omega, by omega, hn.2.1, hi.1, fun j hj => ?_⟩
  have := of_decide_eq_true (hi.2 j hj)
  exact ⟨this.1.2, this.2⟩
theorem itsB_len {x : Mu} (h : Fits x) : ∀ k, k ≤ x.ps.length → (itsB x.ps k).length ≤ k * 4204
  | 0, _ => by simp [itsB]
  | k + 1, hk => by
    have h1 := itsB_len h k (by omega)
    have h2 := h.i k (by omega)
    rw [itsB_step (by omega), List.length_append, itB_len]
    omega
theorem mB_len {x : Mu} (h : Fits x) : (mB x).length ≤ 100000 := by
  have h1 := itsB_len h x.ps.length (Nat.le_refl _)
  have h2 := h.n
  have h3 := h.b
  simp only [mB, List.length_append, be_len, size_list, hdB, List.length_cons, List.length_nil]
  omega
theorem bz_cells (n N : Nat) : (lg.bz n N).map (Value.int .u8) = Lib.byteCells (be n N) := by
  simp [lg.bz, Lib.byteCells]
theorem cells_str (b : ByteArray) : Lib.strCells b = Lib.byteCells b.data.toList := rfl
/-- A variable of two texts. -/
def IVar (x : World) (G : Nat) (a b : ByteArray) : Prop := x.heap[G]? = some (.cells #[.string a, .string b] 39 (0, 0))
section
variable {x x' : World} {G : Nat} {a b : ByteArray}
theorem IVar.c0 (h : IVar x G a b) : x.cell? ⟨G, 0, none⟩ = some (.string a) := by rw [cell_of_row _ _ 0 _ _ _ h]; rfl
theorem IVar.c1 (h : IVar x G a b) : x.cell? ⟨G, 0 + 1, none⟩ = some (.string b) := by rw [cell_of_row _ _ _ _ _ _ h]; rfl
theorem IVar.lt (h : IVar x G a b) : G < x.heap.size := (Array.getElem?_eq_some_iff.1 h).1
theorem IVar.below (h : IVar x G a b) (hb : Below x.heap.size x x') : IVar x' G a b := (hb.block G h.lt).trans h
theorem IVar.row {B : Nat} {v : Value} {l : List UInt8} (h : IVar x G a b) (ho : ra.Own x B v l) (hg : x.grownBy x' v.ownBlock) : IVar x' G a b := by
  refine (hg.block G h.lt (fun e => ?_)).trans h
  rcases ho.2 with ⟨rfl, _⟩ | ⟨g, cap, cur, rfl, _, hb, _⟩
  · simp [Value.ownBlock] at e
  · have e : G = g := by simpa [Value.ownBlock] using e
    subst e
    unfold IVar at h
    rw [h] at hb
    simp at hb
end
/-- What lies below stays. -/
def K0 (w1 : World) (x : World) : Prop := Below w1.heap.size w1 x
theorem K0.below {w1 x x' : World} (h : K0 w1 x) (hb : Below x.heap.size x x') : K0 w1 x' := Below.trans h (hb.mono (Below.size h))
theorem K0.row {w1 x x' : World} {v : Value} {l : List UInt8} (h : K0 w1 x) (ho : ra.Own x w1.heap.size v l) (hg : x.grownBy x' v.ownBlock) : K0 w1 x' := Below.grown h hg (Below.size h) (fun k hk => (ho.lt k hk).1)
theorem own_five (x : World) (B : Nat) (c0 c1 c2 c3 c4 : UInt8) (hB : B ≤ x.heap.size) : ra.Own (x.alloc (.cells #[.int .u8 (c0.toNat : Int), .int .u8 (c1.toNat : Int), .int .u8 (c2.toNat : Int), .int .u8 (c3.toNat : Int), .int .u8 (c4.toNat : Int)] 5)) B (.slice (some ⟨x.heap.size, 0, none⟩) 5 5) [c0, c1, c2, c3, c4] :=
  ⟨by simp [Lib.byteCells], .inr ⟨x.heap.size, 5, _, rfl, hB, (MapKept.heap_alloc x _).1, Nat.le_refl _, by unfold maxLen; omega, rfl, rfl⟩⟩
end Go.Proofs.Ytinnnfkhiigjpaa.mb

namespace Go.Proofs.Ytinnnfkhiigjpaa.rm
open Go.RowKit
set_option linter.unusedVariables false

/-- The number that bytes say, the higher ones first. -/
def num (l : List UInt8) : Nat := l.foldl (fun n b => n * 256 + b.toNat) 0
def numB (s : ByteArray) : Nat := num s.data.toList
theorem num_step (l : List UInt8) (k : Nat) (h : k < l.length) : num (l.take (k + 1)) = num (l.take k) * 256 + (l[k]).toNat := by
  unfold num
  rw [List.take_succ_eq_append_getElem h, List.foldl_append]
  rfl
theorem num_lt : ∀ (l : List UInt8), num l < 256 ^ l.length := by
  intro l
  have h : ∀ k, k ≤ l.length → num (l.take k) < 256 ^ k := by
    intro k
    induction k with
    | zero => intro _; simp [num]
    | succ k ih =>
      intro hk
      rw [num_step l k (by omega)]
      have h1 := ih (by omega)
      have h2 := (l[k]).toNat_lt
      have h3 : 256 ^ (k + 1) = 256 ^ k * 256 := Nat.pow_succ ..
      omega
  have := h l.length (Nat.le_refl _)
  rwa [List.take_length] at this
theorem i64o (a b : Nat) (ha : a < 4294967296) (hb : b < 4294967296) : bits .or .i64 (a : Int) (b : Int) = ((a ||| b : Nat) : Int) := by
  have hx : a ||| b < 4294967296 := Nat.or_lt_two_pow (n := 32) ha hb
  show IntKind.i64.wrap ((BitVec.ofInt 64 (a : Int) ||| BitVec.ofInt 64 (b : Int)).toNat : Int) = _
  rw [BitVec.toNat_or, ofInt_u64 a (by omega), ofInt_u64 b (by omega)]
  simp only [IntKind.wrap, IntKind.bits, IntKind.signed]
  simp
  omega
theorem or_add (a : Nat) (b : UInt8) (ha : a < 16777216) : bits .or .i64 ((a : Int) * 256) (b.toNat : Int) = ((a * 256 + b.toNat : Nat) : Int) := by
  have hb := b.toNat_lt
  have h : (a * 256) ||| b.toNat = a * 256 + b.toNat := by
    have := Nat.two_pow_add_eq_or_of_lt (i := 8) (b := b.toNat) (by omega) a
    rw [Nat.mul_comm a 256]
    exact this.symm
  rw [← h, ← i64o (a * 256) b.toNat (by omega) (by omega)]
  rfl

set_option maxHeartbeats 1000000 in
set_option maxRecDepth 100000 in
theorem ofBytes_any (s : ByteArray) (w : World) (hs : s.size ≤ 3) :
    Calls Try.prog 47 #[.string s] w fun e w' => e = .returned (.int .i64 (numB s)) ∧ w' = w := by
  go_enter Try.func47, Try.ntmps47
  go_wp2
  go_loop [3, 7] (fun n i => ∃ k : Nat, k ≤ s.size ∧ i = .int .i64 k ∧ n = .int .i64 (num (s.data.toList.take k) : Nat)) (fun _ i => s.size - (intOf i).toNat)
  case atStart => exact ⟨0, Nat.zero_le _, rfl, rfl⟩
  case round =>
    obtain ⟨k, hk, rfl, rfl⟩ := hrel
    have hq := num_lt (s.data.toList.take k)
    have hlen : (s.data.toList.take k).length = k := by rw [List.length_take]; exact Nat.min_eq_left hk
    rw [hlen] at hq
    by_cases hlt : k < s.size
    · have hst := num_step s.data.toList k hlt
      have hq2 : num (s.data.toList.take k) < 16777216 := Nat.lt_of_lt_of_le hq (Nat.pow_le_pow_right (n := 256) (by omega) (show k ≤ 3 by omega))
      have hb' : (s[k]).toNat < 256 := (s[k]).toNat_lt
      have HO : Hid (bits .or .i64 ((num (s.data.toList.take k) : Int) * 256) ((s[k]).toNat : Int) = ((num (s.data.toList.take k) * 256 + (s[k]).toNat : Nat) : Int)) := or_add (num (s.data.toList.take k)) (s[k]) hq2
      have HS : Hid (num (s.data.toList.take (k + 1)) = num (s.data.toList.take k) * 256 + (s[k]).toNat) := hst
      clear hst
      generalize num (s.data.toList.take k) = q at *
      go_wp2
      go_round
      case rel => exact ⟨k + 1, by omega, by go_num, by rw [HS.out]; exact congrArg (Value.int .i64) HO.out⟩
      case measure => simp [intOf]; omega
    · have hkn : k = s.size := by omega
      subst hkn
      have e : s.data.toList.take s.size = s.data.toList := List.take_length
      rw [e]
      have HN : Hid (num s.data.toList = numB s) := rfl
      rw [HN.out]
      go_wp2
      go_ret
      exact ⟨rfl, rfl⟩

set_option maxHeartbeats 1000000 in
set_option maxRecDepth 100000 in
theorem l08Number_any (s : ByteArray) (w : World) (hs : s.size ≤ 3) :
    Calls Try.prog 35 #[.string s] w fun e w' => e = .returned (.int .i64 (numB s)) ∧ w' = w := by
  go_enter Try.func35, Try.ntmps35
  go_wp2
  go_loop [3, 4] (fun n i => ∃ k : Nat, k ≤ s.size ∧ i = .int .i64 k ∧ n = .int .i64 (num (s.data.toList.take k) : Nat)) (fun _ i => s.size - (intOf i).toNat)
  case atStart => exact ⟨0, Nat.zero_le _, rfl, rfl⟩
  case round =>
    obtain ⟨k, hk, rfl, rfl⟩ := hrel
    have hq := num_lt (s.data.toList.take k)
    have hlen : (s.data.toList.take k).length = k := by rw [List.length_take]; exact Nat.min_eq_left hk
    rw [hlen] at hq
    by_cases hlt : k < s.size
    · have hst := num_step s.data.toList k hlt
      have hq2 : num (s.data.toList.take k) < 16777216 := Nat.lt_of_lt_of_le hq (Nat.pow_le_pow_right (n := 256) (by omega) (show k ≤ 3 by omega))
      have hb := (s.data.toList[k]).toNat_lt
      have hb' : (s[k]).toNat < 256 := (s[k]).toNat_lt
      have HS : Hid (num (s.data.toList.take (k + 1)) = num (s.data.toList.take k) * 256 + (s[k]).toNat) := hst
      clear hst hb
      generalize num (s.data.toList.take k) = q at *
      go_wp2
      go_round
      case rel => exact ⟨k + 1, by omega, by go_num, by rw [HS.out]; rfl⟩
      case measure => simp [intOf]; omega
    · have hkn : k = s.size := by omega
      subst hkn
      have e : s.data.toList.take s.size = s.data.toList := List.take_length
      rw [e]
      have HN : Hid (num s.data.toList = numB s) := rfl
      rw [HN.out]
      go_wp2
      go_ret
      exact ⟨rfl, rfl⟩


/-- A cutter: what is left, and whether it was asked for more. -/
def Cut (w : World) (g : Nat) (r : ByteArray) (sh : Bool) : Prop := w.heap[g]? = some (.cells #[.string r, .bool sh] 42 (0, 0))
section
variable {w w' : World} {g : Nat} {r : ByteArray} {sh : Bool}
theorem Cut.c0 (h : Cut w g r sh) : w.cell? ⟨g, 0, none⟩ = some (.string r) := by rw [cell_of_row _ _ 0 _ _ _ h]; rfl
theorem Cut.c1 (h : Cut w g r sh) : w.cell? ⟨g, 1, none⟩ = some (.bool sh) := by rw [cell_of_row _ _ 1 _ _ _ h]; rfl
theorem Cut.f (h : Cut w g r sh) (j : Nat) : w.frozen? ⟨g, j, none⟩ = false := frozen_of_row _ _ _ _ _ h
theorem Cut.lt (h : Cut w g r sh) : g < w.heap.size := (Array.getElem?_eq_some_iff.1 h).1
theorem Cut.keep {b : Nat} (h : Cut w g r sh) (hg : w.grownBy w' (some b)) (hne : g ≠ b) : Cut w' g r sh := (hg.block g h.lt (by simp; omega)).trans h
theorem Cut.put0 (h : Cut w g r sh) (u : ByteArray) : Cut (w.setCell ⟨g, 0, none⟩ (.string u)) g u sh := heap_setCell_same _ g 0 _ _ _ h
theorem Cut.put1 (h : Cut w g r sh) (u : Bool) : Cut (w.setCell ⟨g, 1, none⟩ (.bool u)) g r u := heap_setCell_same _ g 1 _ _ _ h
end
theorem grown_cell (w : World) (b j : Nat) (u : Value) : w.grownBy (w.setCell ⟨b, j, none⟩ u) (some b) :=
  ⟨rfl, rfl, rfl, by simp, fun k _ hk => heap_setCell_other w ⟨b, j, none⟩ k u (fun e => hk (by simp [e]))⟩
/-- What is taken, what is left, whether it was too much. -/
def tk (r : ByteArray) (n : Nat) : ByteArray := if r.size < n then ⟨#[]⟩ else r.extract 0 n
def rs (r : ByteArray) (n : Nat) : ByteArray := if r.size < n then r else r.extract n r.size
def sx (r : ByteArray) (n : Nat) : Bool := decide (r.size < n)

set_option maxHeartbeats 1000000 in
set_option maxRecDepth 100000 in
theorem text_any (g : Nat) (r : ByteArray) (sh : Bool) (n : Nat) (w : World) (h : Cut w g r sh) (hr : r.size ≤ 1048576) (hn : n ≤ 1048576) :
    Calls Try.prog 31 #[.pointer (some ⟨g, 0, none⟩), .int .i64 n] w fun e w' => e = .returned (.string (tk r n)) ∧ Cut w' g (rs r n) (sh || sx r n) ∧ w.grownBy w' (some g) := by
  have c0 := h.c0
  have f0 := h.f 0
  have f1 := h.f 1
  have c1 := h.c1
  by_cases q : r.size < n
  · have q' : (r.size : Int) < (n : Int) := by omega
    have e1 : tk r n = ⟨#[]⟩ := if_pos q
    have e2 : rs r n = r := if_pos q
    have e3 : sx r n = true := decide_eq_true q
    have HC := h.put1 true
    have HG := grown_cell w g 1 (.bool true)
    have HE : Hid (tk r n = ⟨#[]⟩ ∧ rs r n = r ∧ sx r n = true ∧ Cut (w.setCell ⟨g, 1, none⟩ (.bool true)) g r true ∧ w.grownBy (w.setCell ⟨g, 1, none⟩ (.bool true)) (some g)) := ⟨e1, e2, e3, HC, HG⟩
    clear e1 e2 e3 HC HG h
    go_enter Try.func31, Try.ntmps31
    go_wp2
    go_ret
    obtain ⟨e1, e2, e3, hc, hg⟩ := HE.out
    exact ⟨by rw [e1]; rfl, by rw [e2, e3, Bool.or_true]; exact hc, hg⟩
  · have q' : (n : Int) ≤ (r.size : Int) := by omega
    have e1 : tk r n = r.extract 0 n := if_neg q
    have e2 : rs r n = r.extract n r.size := if_neg q
    have e3 : sx r n = false := decide_eq_false q
    have HC := h.put0 (r.extract n r.size)
    have HG := grown_cell w g 0 (.string (r.extract n r.size))
    have HE : Hid (tk r n = r.extract 0 n ∧ rs r n = r.extract n r.size ∧ sx r n = false ∧ Cut (w.setCell ⟨g, 0, none⟩ (.string (r.extract n r.size))) g (r.extract n r.size) sh ∧ w.grownBy (w.setCell ⟨g, 0, none⟩ (.string (r.extract n r.size))) (some g)) := ⟨e1, e2, e3, HC, HG⟩
    clear e1 e2 e3 HC HG h
    have hn0 : (0 : Int) ≤ (n : Int) := by omega
    go_enter Try.func31, Try.ntmps31
    go_wp2
    go_ret
    obtain ⟨e1, e2, e3, hc, hg⟩ := HE.out
    exact ⟨by rw [e1]; rfl, by rw [e2, e3, Bool.or_false]; exact hc, hg⟩

theorem tk_size (r : ByteArray) (n : Nat) : (tk r n).size ≤ n := by
  unfold tk
  split
  · exact Nat.zero_le _
  · simp; omega
set_option maxHeartbeats 1000000 in
theorem number_any (g : Nat) (r : ByteArray) (sh : Bool) (n : Nat) (w : World) (h : Cut w g r sh) (hr : r.size ≤ 1048576) (hn : n ≤ 3) :
    Calls Try.prog 30 #[.pointer (some ⟨g, 0, none⟩), .int .i64 n] w fun e w' => e = .returned (.int .i64 (numB (tk r n))) ∧ Cut w' g (rs r n) (sh || sx r n) ∧ w.grownBy w' (some g) := by
  have HC : Hid (Cut w g r sh) := h
  clear h
  go_enter Try.func30, Try.ntmps30
  go_wp2_with fail
  refine (text_any g r sh n w HC.out hr (by omega)).mono ?_
  rintro e w1 ⟨rfl, hc1, hg1⟩
  have HH : Hid (Cut w1 g (rs r n) (sh || sx r n) ∧ w.grownBy w1 (some g)) := ⟨hc1, hg1⟩
  clear hc1 hg1 HC
  go_wp2_with fail
  refine (ofBytes_any _ w1 (Nat.le_trans (tk_size r n) hn)).mono ?_
  rintro e w2 ⟨rfl, rfl⟩
  go_wp2
  go_ret
  exact ⟨rfl, HH.out⟩
end Go.Proofs.Ytinnnfkhiigjpaa.rm
