/-
  A number in so many bytes, the higher ones first: the program's.
-/
import Derived.Test.YtgjjeabjnkenkaaLga
import Derived.Test.YtgjjeabjnkenkaaChk
import Derived.Test.YtgjjeabjnkenkaaOwm
import Derived.Laws.MakeOwn
namespace Go.Proofs.Ytgjjeabjnkenkaa.lg
open Go.RowKit
set_option linter.unusedVariables false

/-- The bytes of a number, the higher ones first. -/
def be : Nat → Nat → List UInt8
  | 0, _ => []
  | k + 1, n => UInt8.ofNat (n / 256 ^ k) :: be k n
theorem be_len : ∀ k n, (be k n).length = k
  | 0, _ => rfl
  | k + 1, n => by simp [be, be_len k n]
def bz (k n : Nat) : List Int := (be k n).map fun b => (b.toNat : Int)
theorem bz_len (k n : Nat) : (bz k n).length = k := by simp [bz, be_len]
theorem bz_succ (k n : Nat) : bz (k + 1) n = ((n / 256 ^ k % 256 : Nat) : Int) :: bz k n := by simp [bz, be]
theorem set_mid (x : Int) (l : List Int) : ∀ m, (List.replicate (m + 1) (0 : Int) ++ l).set m x = List.replicate m 0 ++ x :: l
  | 0 => by simp
  | m + 1 => by
    have h := set_mid x l m
    rw [List.replicate_succ, List.cons_append, List.set_cons_succ, h, List.replicate_succ, List.cons_append]
theorem infoB : (Try.prog.info? 5).map (fun i => (i.zero, i.size, i.bytes)) = some (some (.int .u8 0), 1, 1) := by kernel_rfl

set_option maxHeartbeats 1000000 in
set_option maxRecDepth 100000 in
theorem inBytes_any (N n : Nat) (w : World) (hn : n ≤ 8) (hN : N < 4294967296) :
    Calls Try.prog 54 #[.int .i64 N, .int .i64 n] w fun e w' => e = .returned (.string ⟨(be n N).toArray⟩) ∧ Below w.heap.size w w' := by
  obtain ⟨i0, hi, hz0, hz1, hz2⟩ := info_parts infoB
  go_enter Try.func54, Try.ntmps54
  go_wp2_with (at_make; refine wpList_make_full _ rfl _ _ 43 rfl w.heap.size 5 i0 (.int .u8 0) 1 Try.underlying43 hi hz0 hz1 _ _ _ _ n rfl rfl rfl rfl (by rw [hz2]; omega) (by unfold maxLen; omega) (Nat.le_refl _) ?_; intro w1 hown1 hg1)
  have hb1 : Below w.heap.size w w1 := (Below.refl _ _).grown hg1 (Nat.le_refl _) (fun k hk => by cases hk)
  have hrep : (madeCells (Value.cells (.int .u8 0)) (n * 1)).toList = (List.replicate n (0 : Int)).map (Value.int .u8) := by
    rw [Nat.mul_one, List.map_replicate]
    exact toList_madeCells_one _ _
  rw [hrep] at hown1
  clear hg1 hrep hi hz0 hz1 hz2
  go_loopw [0, 11] (fun nm i wr => ∃ k : Nat, k ≤ n ∧ i = .int .i64 k ∧ nm = .int .i64 ((N / 256 ^ k : Nat) : Int) ∧ wr.ownsRow w.heap.size 5 1 (.slice (some ⟨w.heap.size, 0, none⟩) n n) n ((List.replicate (n - k) (0 : Int) ++ bz k N).map (Value.int .u8)) ∧ Below w.heap.size w wr) (fun _ i _ => n - (intOf i).toNat)
  case atStart => exact ⟨0, Nat.zero_le _, rfl, by simp, by simpa [bz, be] using hown1, hb1⟩
  case round =>
    clear hown1 hb1
    obtain ⟨k, hk, rfl, rfl, hown, hbw⟩ := hrel
    by_cases hlt : k < n
    · have hc := hown.cellAt (n - 1 - k) (by omega)
      have hll : (List.replicate (n - k) (0 : Int) ++ bz k N).length = n := by simp [bz_len]; omega
      have hyk : ((List.replicate (n - k) (0 : Int) ++ bz k N).map (Value.int .u8))[n - 1 - k]? = some (.int .u8 ((List.replicate (n - k) (0 : Int) ++ bz k N).getD (n - 1 - k) 0)) := by
        simp only [List.getElem?_map, List.getD_eq_getElem?_getD]
        rw [List.getElem?_eq_getElem (by omega)]
        rfl
      rw [hyk] at hc
      have hf := hown.frozenAt (n - 1 - k)
      have hst := hown.stored (n - 1 - k) (.int .u8 ((N / 256 ^ k % 256 : Nat) : Int))
      have hset : ((List.replicate (n - k) (0 : Int) ++ bz k N).map (Value.int .u8)).set (n - 1 - k) (.int .u8 ((N / 256 ^ k % 256 : Nat) : Int)) = (List.replicate (n - (k + 1)) (0 : Int) ++ bz (k + 1) N).map (Value.int .u8) := by
        rw [← List.map_set, bz_succ, show n - k = (n - 1 - k) + 1 from by omega, set_mid, show n - (k + 1) = n - 1 - k from by omega]
      rw [hset] at hst
      have hdiv : N / 256 ^ k / 256 = N / 256 ^ (k + 1) := by rw [Nat.div_div_eq_div_mul, Nat.pow_succ]
      have hle : N / 256 ^ k ≤ N := Nat.div_le_self _ _
      obtain ⟨Q, hQ⟩ : ∃ Q, N / 256 ^ k = Q := ⟨_, rfl⟩
      obtain ⟨m, hm⟩ : ∃ m, n - 1 - k = m := ⟨_, rfl⟩
      have HS : Hid ((wr.setCell ⟨w.heap.size, m, none⟩ (.int .u8 ((Q % 256 : Nat) : Int))).ownsRow w.heap.size 5 1 (.slice (some ⟨w.heap.size, 0, none⟩) n n) n ((List.replicate (n - (k + 1)) (0 : Int) ++ bz (k + 1) N).map (Value.int .u8)) ∧ Below w.heap.size w (wr.setCell ⟨w.heap.size, m, none⟩ (.int .u8 ((Q % 256 : Nat) : Int)))) := by
        rw [← hm, ← hQ]
        exact ⟨hst.1, hbw.setCell (Nat.le_refl _) _⟩
      rw [hQ] at hdiv hle ⊢
      rw [hm] at hc hf
      generalize (List.replicate (n - k) (0 : Int) ++ bz k N).getD m 0 = old at hc
      have HD : Hid (Q / 256 = N / 256 ^ (k + 1)) := hdiv
      clear hst hbw hown hyk hset hll hdiv
      have hlt' : (k : Int) < (n : Int) := by omega
      have hmi : (n : Int) - 1 - (k : Int) = (m : Int) := by omega
      go_wp2
      go_roundw
      case rel => exact ⟨k + 1, by omega, by go_num, by rw [← HD.out]; go_num, HS.out.1, HS.out.2⟩
      case measure => simp [intOf]; omega
    · have hkn : k = n := by omega
      subst hkn
      rw [Nat.sub_self, List.replicate_zero, List.nil_append] at hown
      have hcv := ow.conv_bytes (P := Try.prog) (src := 43) (dst := 9) (be k N) (by unfold bz at hown; rw [List.map_map] at hown; exact hown) Try.underlying43 Try.underlying5 Try.underlying9
      go_wp2
      go_ret
      exact ⟨rfl, hbw⟩
end Go.Proofs.Ytgjjeabjnkenkaa.lg
