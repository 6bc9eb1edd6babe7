/-
  Plain facts on bytes that a law is handed: the list that a walk reads.
  Plain facts on bytes that a call reads: as a text.
  Contracts of both quoted texts at bytes of any length: the text of the bytes, or the code of what is too long.
  Contracts of both Check32 functions: the sum of 32 bits of a row of bytes.
-/
import Derived.Test.YtbanjkkbobedhaaDoorPkag
import Derived.ProofKit
import Derived.WalkKit
import Derived.OpenShut
import Derived.Test.YtbanjkkbobedhaaDoorPkav
import Derived.Test.YtbanjkkbobedhaaDoorPkaw
import Derived.Test.YtbanjkkbobedhaaDoorPkae
import Derived.Test.YtbanjkkbobedhaaDoorRows
import Derived.WalkLawsBesides
import Derived.Laws.BitsAllLaws

namespace Go.Proofs.YtbanjkkbobedhaaDoor.ag
open Go.RowKit
set_option linter.unusedVariables false

/-- A slice of numbers that came in: nil, or a row of cells. -/
def IsRow (k : IntKind) (w : World) (a : Option Addr) (len cap : Nat) (zs : List Int) : Prop :=
  (a = none ∧ len = 0 ∧ cap = 0 ∧ zs = []) ∨
  ∃ x, a = some x ∧ len ≤ cap ∧ cap ≤ maxLen ∧ zs.length = cap ∧ (∀ i, i < zs.length → w.cell? (x.add i) = some (.int k (zs.getD i 0))) ∧ ∀ n ∈ zs, (Lit.int k n).wf = true

theorem bytes {w : World} {a : Option Addr} {len cap : Nat} {zs : List Int} (h : IsRow .u8 w a len cap zs) : ∃ l : List UInt8, l.length = len ∧ ow.Reads .u8 w (.slice a len cap) (b6.bz l) := by
  rcases h with ⟨rfl, rfl, rfl, rfl⟩ | ⟨x, rfl, hlc, hm, hz, hcell, hwz⟩
  · exact ⟨[], rfl, none, 0, rfl, .inl rfl⟩
  · refine ⟨(zs.take len).map fun z => UInt8.ofNat z.toNat, by simp; omega, some x, cap, by rw [b6.bz_len]; simp; omega, ?_⟩
    by_cases h0 : len = 0
    · left
      rw [h0]
      rfl
    · right
      obtain ⟨b, off, spot⟩ := x
      have hc := hcell 0 (by omega)
      have hspot : spot = none := by simpa [Addr.add] using World.cell?_spot hc
      subst hspot
      refine ⟨b, off, rfl, fun j hj => ?_⟩
      have hj' : j < len := by
        rw [b6.bz_len] at hj
        simp at hj
        omega
      have hj2 : j < zs.length := by omega
      have hb := bounds_u8 (hwz (zs.getD j 0) (by rw [List.getD_eq_getElem?_getD, List.getElem?_eq_getElem hj2]; exact List.getElem_mem hj2))
      have hcj := hcell j hj2
      rw [show ((⟨b, off, none⟩ : Addr).add j) = ⟨b, off + j, none⟩ from by simp [Addr.add]] at hcj
      rw [hcj, b6.bz_at]
      congr 2
      have e : ((zs.take len).map fun z => UInt8.ofNat z.toNat).getD j 0 = UInt8.ofNat (zs.getD j 0).toNat := by
        simp [List.getD_eq_getElem?_getD, hj2, hj']
      rw [e, UInt8.toNat_ofNat']
      omega
end Go.Proofs.YtbanjkkbobedhaaDoor.ag

namespace Go.Proofs.YtbanjkkbobedhaaDoor.ag
open Go.RowKit
set_option linter.unusedVariables false

theorem conv {w : World} {v : Value} {l : List UInt8} (h : ow.Reads .u8 w v (b6.bz l)) : (convert 22 9 v).run Tryd.prog w = .ok (.string ⟨l.toArray⟩) w := by
  obtain ⟨a, cap, rfl, h⟩ := h
  rw [b6.bz_len] at h ⊢
  by_cases h0 : l = []
  · subst h0
    rw [run_convert_bytes_string w 22 9 5 _ _ _ Tryd.underlying22 Tryd.underlying5 Tryd.underlying9]
    cases a <;> rfl
  · rcases h with e | ⟨b, off, rfl, hc⟩
    · exact absurd (List.eq_nil_of_length_eq_zero (by have := congrArg List.length e; rwa [b6.bz_len] at this)) h0
    · refine run_convert_bytes_back w 22 9 5 ⟨b, off, none⟩ cap l Tryd.underlying22 Tryd.underlying5 Tryd.underlying9 (fun j hj => ?_)
      rw [show ((⟨b, off, none⟩ : Addr).add j) = ⟨b, off + j, none⟩ from by simp [Addr.add], hc j hj, b6.bz_at]
      simp [List.getD_eq_getElem?_getD, hj]
end Go.Proofs.YtbanjkkbobedhaaDoor.ag

namespace Go.Proofs.YtbanjkkbobedhaaDoor.qu
open Go.RowKit
set_option linter.unusedVariables false

/-- The text and the code that are answered. -/
def es (l : List UInt8) : ByteArray := if l.length ≤ 65536 then ⟨(qt 0 l).toArray⟩ else ⟨#[]⟩
def ec (l : List UInt8) : Int := if l.length ≤ 65536 then 0 else 2

end Go.Proofs.YtbanjkkbobedhaaDoor.qu

namespace Go.Proofs.YtbanjkkbobedhaaDoor.ck
open Go.RowKit
set_option linter.unusedVariables false

/-- One turn of the register. -/
def one (n : Nat) : Nat := if n % 2 = 1 then (n / 2) ^^^ 3988292384 else n / 2
def rep : Nat → Nat → Nat
  | 0, n => n
  | k + 1, n => one (rep k n)
def byte (n : Nat) (z : Int) : Nat := rep 8 (n ^^^ z.toNat)
def crc (zs : List Int) : Nat := zs.foldl byte 4294967295
/-- The sum of bytes. -/
def sum (zs : List Int) : Nat := crc zs ^^^ 4294967295

theorem xor_lt {a b : Nat} (ha : a < 4294967296) (hb : b < 4294967296) : a ^^^ b < 4294967296 := Nat.xor_lt_two_pow (n := 32) ha hb
theorem one_lt {n : Nat} (h : n < 4294967296) : one n < 4294967296 := by
  unfold one
  split
  · exact xor_lt (by omega) (by omega)
  · omega
theorem rep_lt {n : Nat} (h : n < 4294967296) : ∀ k, rep k n < 4294967296
  | 0 => h
  | k + 1 => one_lt (rep_lt h k)
def Bytes (zs : List Int) : Prop := ∀ j, j < zs.length → 0 ≤ zs.getD j 0 ∧ zs.getD j 0 ≤ 255
theorem byte_lt {n : Nat} {z : Int} (h : n < 4294967296) (h1 : z ≤ 255) : byte n z < 4294967296 := rep_lt (xor_lt h (by omega)) 8
theorem take_one (o : List Int) (k : Nat) (h : k < o.length) : o.take (k + 1) = o.take k ++ [o.getD k 0] := by
  rw [List.take_add_one, List.getElem?_eq_getElem h]
  simp [List.getD_eq_getElem?_getD, h]
theorem crc_step {zs : List Int} {k : Nat} (h : k < zs.length) : crc (zs.take (k + 1)) = byte (crc (zs.take k)) (zs.getD k 0) := by
  rw [take_one _ _ h]
  simp [crc]
theorem crc_lt {zs : List Int} (h : Bytes zs) : ∀ k, k ≤ zs.length → crc (zs.take k) < 4294967296 := by
  intro k
  induction k with
  | zero => intro _; simp [crc]
  | succ k ih =>
    intro hk
    rw [crc_step (by omega)]
    exact byte_lt (ih (by omega)) (h k (by omega)).2
theorem sum_lt {zs : List Int} (h : Bytes zs) : sum zs < 4294967296 := by
  have := crc_lt h zs.length (Nat.le_refl _)
  rw [List.take_length] at this
  exact xor_lt this (by omega)

theorem u32x (a b : Nat) (ha : a < 4294967296) (hb : b < 4294967296) : bits .xor .u32 (a : Int) (b : Int) = ((a ^^^ b : Nat) : Int) := u32_xor_nat a b ha hb
theorem i64x (a b : Nat) (ha : a < 4294967296) (hb : b < 4294967296) : bits .xor .i64 (a : Int) (b : Int) = ((a ^^^ b : Nat) : Int) := by
  have hx := xor_lt ha hb
  show IntKind.i64.wrap ((BitVec.ofInt 64 (a : Int) ^^^ BitVec.ofInt 64 (b : Int)).toNat : Int) = _
  rw [BitVec.toNat_xor, ofInt_u64 a (by omega), ofInt_u64 b (by omega)]
  simp only [IntKind.wrap, IntKind.bits, IntKind.signed]
  simp
  omega
theorem i64q (r : Nat) (h : r < 4294967296) : bits .xor .i64 ((r : Int) / 2) 3988292384 = (((r / 2) ^^^ 3988292384 : Nat) : Int) := by
  have := i64x (r / 2) 3988292384 (by omega) (by omega)
  rw [← this]
  rfl
theorem i64n (r : Nat) (h : r < 4294967296) : bits .xor .i64 (r : Int) 4294967295 = ((r ^^^ 4294967295 : Nat) : Int) := i64x r 4294967295 h (by omega)
theorem u32q (r : Nat) (h : r < 4294967296) : bits .xor .u32 ((r : Int) / 2) 3988292384 = (((r / 2) ^^^ 3988292384 : Nat) : Int) := by
  have := u32x (r / 2) 3988292384 (by omega) (by omega)
  rw [← this]
  rfl
theorem u32n (r : Nat) (h : r < 4294967296) : bits .xor .u32 IntKind.u32.max (r : Int) = ((r ^^^ 4294967295 : Nat) : Int) := by
  rw [Nat.xor_comm, show IntKind.u32.max = 4294967295 from by decide]
  exact u32x 4294967295 r (by omega) h
theorem xor_comm (a b : Nat) : a ^^^ b = b ^^^ a := Nat.xor_comm a b

set_option maxHeartbeats 2000000 in
set_option maxRecDepth 100000 in
theorem spec_l07Check (v : Value) (zs : List Int) (w : World) (h : ow.Reads .u8 w v zs) (hb : Bytes zs) (hz : zs.length ≤ 1048576) :
    Calls Tryd.prog 20 #[v] w fun e w' => e = .returned (.int .i64 ((sum zs : Nat) : Int)) ∧ w' = w := by
  obtain ⟨a, cap, rfl, h⟩ := h
  have HR : Hid (zs = [] ∨ ∃ b off, a = some ⟨b, off, none⟩ ∧ ∀ j, j < zs.length → w.cell? ⟨b, off + j, none⟩ = some (.int .u8 (zs.getD j 0))) := h
  have HB : Hid (Bytes zs) := hb
  clear h hb
  obtain ⟨n, hn⟩ : ∃ n, n = zs.length := ⟨_, rfl⟩
  have HN : Hid (n = zs.length) := hn
  rw [← hn] at hz ⊢
  clear hn
  go_enter Tryd.func20, Tryd.ntmps20
  go_wp2
  go_loop [3, 4] (fun q i => ∃ k : Nat, k ≤ n ∧ i = .int .i64 k ∧ q = .int .i64 ((crc (zs.take k) : Nat) : Int)) (fun _ i => n - (intOf i).toNat)
  case atStart => exact ⟨0, Nat.zero_le _, rfl, by simp [crc]⟩
  case round =>
    obtain ⟨k, hk, rfl, rfl⟩ := hrel
    have hc0 : crc (zs.take k) < 4294967296 := crc_lt HB.out k (by rw [← HN.out]; exact hk)
    obtain ⟨c, hc⟩ : ∃ c, c = crc (zs.take k) := ⟨_, rfl⟩
    rw [← hc] at hc0 ⊢
    have HC : Hid (c = crc (zs.take k)) := hc
    clear hc
    by_cases hlt : k < n
    · obtain ⟨b, off, hab, hcell⟩ : ∃ b off, a = some ⟨b, off, none⟩ ∧ w.cell? ⟨b, off + k, none⟩ = some (.int .u8 (zs.getD k 0)) := by
        rcases HR.out with h0 | ⟨b, off, e, h⟩
        · have := HN.out; rw [h0] at this; simp at this; omega
        · exact ⟨b, off, e, h k (by rw [← HN.out]; exact hlt)⟩
      subst hab
      obtain ⟨hz0, hz1⟩ := HB.out k (by rw [← HN.out]; exact hlt)
      obtain ⟨z, hze⟩ : ∃ z : Nat, zs.getD k 0 = (z : Int) := ⟨(zs.getD k 0).toNat, by omega⟩
      rw [hze] at hz0 hz1 hcell
      have HZ : Hid (zs.getD k 0 = (z : Int)) := hze
      clear hze
      have hx := i64x c z hc0 (by omega)
      have hm0 : c ^^^ z < 4294967296 := xor_lt hc0 (by omega)
      obtain ⟨m, hm⟩ : ∃ m, m = c ^^^ z := ⟨_, rfl⟩
      rw [← hm] at hx hm0
      have HM : Hid (m = c ^^^ z) := hm
      clear hm
      have hlt' : (k : Int) < (n : Int) := by omega
      go_wp2
      go_loop [3, 5] (fun q i => ∃ j : Nat, j ≤ 8 ∧ i = .int .i64 j ∧ q = .int .i64 ((rep j m : Nat) : Int)) (fun _ i => 8 - (intOf i).toNat)
      case atStart => exact ⟨0, Nat.zero_le _, rfl, rfl⟩
      case round =>
        obtain ⟨j, hj, rfl, rfl⟩ := hrel
        have hr0 : rep j m < 4294967296 := rep_lt hm0 j
        obtain ⟨r, hr⟩ : ∃ r, r = rep j m := ⟨_, rfl⟩
        rw [← hr] at hr0 ⊢
        have HRR : Hid (r = rep j m) := hr
        clear hr
        by_cases hj8 : j < 8
        · have hj8' : (j : Int) < 8 := by omega
          by_cases hodd : r % 2 = 1
          · have ht : (r : Int).tmod 2 = 1 := by rw [Int.tmod_eq_emod_of_nonneg (by omega)]; omega
            have hq : (r : Int).tdiv 2 = ((r / 2 : Nat) : Int) := by rw [Int.tdiv_eq_ediv_of_nonneg (by omega)]; omega
            have hx2 := i64q r hr0
            have HO : Hid (r % 2 = 1) := hodd
            clear hodd
            go_wp2
            go_round
            case rel => exact ⟨j + 1, by omega, by go_num, by show _ = Value.int .i64 ((one (rep j m) : Nat) : Int); rw [← HRR.out]; unfold one; rw [if_pos HO.out]⟩
            case measure => simp [intOf]; omega
          · have ht : (r : Int).tmod 2 = 0 := by rw [Int.tmod_eq_emod_of_nonneg (by omega)]; omega
            have hq : (r : Int).tdiv 2 = ((r / 2 : Nat) : Int) := by rw [Int.tdiv_eq_ediv_of_nonneg (by omega)]; omega
            have HO : Hid (¬ r % 2 = 1) := hodd
            clear hodd
            go_wp2
            go_round
            case rel => exact ⟨j + 1, by omega, by go_num, by show _ = Value.int .i64 ((one (rep j m) : Nat) : Int); rw [← HRR.out]; unfold one; rw [if_neg HO.out]; rfl⟩
            case measure => simp [intOf]; omega
        · have hj8' : ¬ (j : Int) < 8 := by omega
          go_wp2
          go_round
          case rel =>
            refine ⟨k + 1, by omega, by go_num, ?_⟩
            rw [crc_step (by rw [← HN.out]; exact hlt), ← HC.out, HZ.out]
            unfold byte
            rw [show (z : Int).toNat = z from rfl, ← HM.out, HRR.out, show j = 8 from by omega]
          case measure => simp [intOf]; omega
    · have hlt' : ¬ (k : Int) < (n : Int) := by omega
      have hx := i64n c hc0
      go_wp2
      go_ret
      refine ⟨?_, rfl⟩
      have e : sum zs = c ^^^ 4294967295 := by
        unfold sum
        rw [HC.out, show k = zs.length from by have := HN.out; omega, List.take_length]
      rw [e]
      rfl

set_option maxHeartbeats 2000000 in
set_option maxRecDepth 100000 in
theorem spec_any (v : Value) (zs : List Int) (w : World) (h : ow.Reads .u8 w v zs) (hb : Bytes zs) (hz : zs.length ≤ 1048576) :
    Calls Tryd.prog 10 #[v] w fun e w' => e = .returned (.int .i64 (if zs.length ≤ 65536 then ((sum zs : Nat) : Int) else 0)) ∧ w' = w := by
  have h' := h
  obtain ⟨a, cap, rfl, _⟩ := h'
  by_cases hl : zs.length ≤ 65536
  · have hl' : (zs.length : Int) ≤ 65536 := by omega
    rw [if_pos hl]
    go_enter Tryd.func10, Tryd.ntmps10
    go_wp2_with fail
    refine (spec_l07Check _ zs w h hb hz).mono ?_
    rintro e w' ⟨rfl, rfl⟩
    go_wp2
    go_ret
    exact ⟨rfl, rfl⟩
  · have hl' : (65536 : Int) < (zs.length : Int) := by omega
    rw [if_neg hl]
    go_enter Tryd.func10, Tryd.ntmps10
    go_wp2
    go_ret
    exact ⟨rfl, rfl⟩
set_option maxHeartbeats 2000000 in
set_option maxRecDepth 100000 in
theorem impl_any (v : Value) (zs : List Int) (w : World) (h : ow.Reads .u8 w v zs) (hb : Bytes zs) (hz : zs.length ≤ 1048576) :
    Calls Tryd.prog 9 #[v] w fun e w' => e = .returned (.int .i64 (if zs.length ≤ 65536 then ((sum zs : Nat) : Int) else 0)) ∧ w' = w := by
  obtain ⟨a, cap, rfl, h⟩ := h
  by_cases hl : zs.length ≤ 65536
  case neg =>
    have hl' : (65536 : Int) < (zs.length : Int) := by omega
    rw [if_neg hl]
    go_enter Tryd.func9, Tryd.ntmps9
    go_wp2
    go_ret
    exact ⟨rfl, rfl⟩
  rw [if_pos hl]
  have HR : Hid (zs = [] ∨ ∃ b off, a = some ⟨b, off, none⟩ ∧ ∀ j, j < zs.length → w.cell? ⟨b, off + j, none⟩ = some (.int .u8 (zs.getD j 0))) := h
  have HB : Hid (Bytes zs) := hb
  clear h hb
  obtain ⟨n, hn⟩ : ∃ n, n = zs.length := ⟨_, rfl⟩
  have HN : Hid (n = zs.length) := hn
  rw [← hn] at hz hl ⊢
  clear hn
  have hl' : (n : Int) ≤ 65536 := by omega
  go_enter Tryd.func9, Tryd.ntmps9
  go_wp2
  go_loop [3, 12] (fun q i => ∃ k : Nat, k ≤ n ∧ i = .int .i64 k ∧ q = .int .u32 ((crc (zs.take k) : Nat) : Int)) (fun _ i => n - (intOf i).toNat)
  case atStart => exact ⟨0, Nat.zero_le _, rfl, by simp [crc]⟩
  case round =>
    obtain ⟨k, hk, rfl, rfl⟩ := hrel
    have hc0 : crc (zs.take k) < 4294967296 := crc_lt HB.out k (by rw [← HN.out]; exact hk)
    obtain ⟨c, hc⟩ : ∃ c, c = crc (zs.take k) := ⟨_, rfl⟩
    rw [← hc] at hc0 ⊢
    have HC : Hid (c = crc (zs.take k)) := hc
    clear hc
    by_cases hlt : k < n
    · obtain ⟨b, off, hab, hcell⟩ : ∃ b off, a = some ⟨b, off, none⟩ ∧ w.cell? ⟨b, off + k, none⟩ = some (.int .u8 (zs.getD k 0)) := by
        rcases HR.out with h0 | ⟨b, off, e, h⟩
        · have := HN.out; rw [h0] at this; simp at this; omega
        · exact ⟨b, off, e, h k (by rw [← HN.out]; exact hlt)⟩
      subst hab
      obtain ⟨hz0, hz1⟩ := HB.out k (by rw [← HN.out]; exact hlt)
      obtain ⟨z, hze⟩ : ∃ z : Nat, zs.getD k 0 = (z : Int) := ⟨(zs.getD k 0).toNat, by omega⟩
      rw [hze] at hz0 hz1 hcell
      have HZ : Hid (zs.getD k 0 = (z : Int)) := hze
      clear hze
      have hx := u32x c z hc0 (by omega)
      have hm0 : c ^^^ z < 4294967296 := xor_lt hc0 (by omega)
      obtain ⟨m, hm⟩ : ∃ m, m = c ^^^ z := ⟨_, rfl⟩
      rw [← hm] at hx hm0
      have HM : Hid (m = c ^^^ z) := hm
      clear hm
      have hlt' : (k : Int) < (n : Int) := by omega
      go_wp2
      go_loop [3, 20] (fun q i => ∃ j : Nat, j ≤ 8 ∧ i = .int .i64 j ∧ q = .int .u32 ((rep j m : Nat) : Int)) (fun _ i => 8 - (intOf i).toNat)
      case atStart => exact ⟨0, Nat.zero_le _, rfl, rfl⟩
      case round =>
        obtain ⟨j, hj, rfl, rfl⟩ := hrel
        have hr0 : rep j m < 4294967296 := rep_lt hm0 j
        obtain ⟨r, hr⟩ : ∃ r, r = rep j m := ⟨_, rfl⟩
        rw [← hr] at hr0 ⊢
        have HRR : Hid (r = rep j m) := hr
        clear hr
        by_cases hj8 : j < 8
        · have hj8' : (j : Int) < 8 := by omega
          by_cases hodd : r % 2 = 1
          · have ht : (r : Int).tmod 2 = 1 := by rw [Int.tmod_eq_emod_of_nonneg (by omega)]; omega
            have hq : (r : Int).tdiv 2 = ((r / 2 : Nat) : Int) := by rw [Int.tdiv_eq_ediv_of_nonneg (by omega)]; omega
            have hm1 : (r : Int) % 2 = 1 := by omega
            have hx2 := u32q r hr0
            have HO : Hid (r % 2 = 1) := hodd
            clear hodd
            go_wp2
            go_round
            case rel => exact ⟨j + 1, by omega, by go_num, by show _ = Value.int .u32 ((one (rep j m) : Nat) : Int); rw [← HRR.out]; unfold one; rw [if_pos HO.out]⟩
            case measure => simp [intOf]; omega
          · have ht : (r : Int).tmod 2 = 0 := by rw [Int.tmod_eq_emod_of_nonneg (by omega)]; omega
            have hq : (r : Int).tdiv 2 = ((r / 2 : Nat) : Int) := by rw [Int.tdiv_eq_ediv_of_nonneg (by omega)]; omega
            have hm1 : (r : Int) % 2 = 0 := by omega
            have HO : Hid (¬ r % 2 = 1) := hodd
            clear hodd
            go_wp2
            go_round
            case rel => exact ⟨j + 1, by omega, by go_num, by show _ = Value.int .u32 ((one (rep j m) : Nat) : Int); rw [← HRR.out]; unfold one; rw [if_neg HO.out]; rfl⟩
            case measure => simp [intOf]; omega
        · have hj8' : ¬ (j : Int) < 8 := by omega
          go_wp2
          go_round
          case rel =>
            refine ⟨k + 1, by omega, by go_num, ?_⟩
            rw [crc_step (by rw [← HN.out]; exact hlt), ← HC.out, HZ.out]
            unfold byte
            rw [show (z : Int).toNat = z from rfl, ← HM.out, HRR.out, show j = 8 from by omega]
          case measure => simp [intOf]; omega
    · have hlt' : ¬ (k : Int) < (n : Int) := by omega
      have hx := u32n c hc0
      have hx2 : c ^^^ 4294967295 < 4294967296 := xor_lt hc0 (by omega)
      obtain ⟨s, hs⟩ : ∃ s, s = c ^^^ 4294967295 := ⟨_, rfl⟩
      rw [← hs] at hx hx2
      have HS : Hid (s = c ^^^ 4294967295) := hs
      clear hs
      go_wp2
      go_ret
      refine ⟨?_, rfl⟩
      have e : sum zs = s := by
        unfold sum
        rw [HS.out, HC.out, show k = zs.length from by have := HN.out; omega, List.take_length]
      rw [e]
      show Ending.returned (Value.int .i64 (wrap64 (s : Int))) = _
      rw [show wrap64 (s : Int) = (s : Int) from by unfold wrap64; omega]
end Go.Proofs.YtbanjkkbobedhaaDoor.ck
