/-
  Plain facts on bytes that a law is handed: the list that a walk reads.
  Plain facts on bytes that a call reads: as a text.
  Contracts of both quoted texts at bytes of any length: the text of the bytes, or the code of what is too long.
  Contracts of both Check32 functions: the sum of 32 bits of a row of bytes.
  Plain facts on the mail of an entry: each value is safe in its field; the text that both functions put together.
-/
import Derived.Test.YtbokolpjdaamiaaGreatDoorPkag
import Derived.ProofKit
import Derived.WalkKit
import Derived.OpenShut
import Derived.Test.YtbokolpjdaamiaaGreatDoorPkav
import Derived.Test.YtbokolpjdaamiaaGreatDoorPkaw
import Derived.Test.YtbokolpjdaamiaaGreatDoorPkae
import Derived.Test.YtbokolpjdaamiaaGreatDoorRows
import Derived.WalkLawsBesides
import Derived.Laws.BitsAllLaws
import Derived.Test.YtbokolpjdaamiaaGreatDoorPkao
import Derived.Test.YtbokolpjdaamiaaGreatDoorPkap
import Derived.Test.YtbokolpjdaamiaaGreatDoorPkaq
import Derived.Test.YtbokolpjdaamiaaGreatDoorPkar
import Derived.Test.YtbokolpjdaamiaaGreatDoorPkau
import Derived.Lib.ReplaceLaws
import Derived.Lib.IndexLaws

namespace Go.Proofs.YtbokolpjdaamiaaGreatDoor.ag
open Go.RowKit
set_option linter.unusedVariables false

/-- A slice of numbers that came in: nil, or a row of cells. -/
def IsRow (k : IntKind) (w : World) (a : Option Addr) (len cap : Nat) (zs : List Int) : Prop :=
  (a = none ∧ len = 0 ∧ cap = 0 ∧ zs = []) ∨
  ∃ x, a = some x ∧ len ≤ cap ∧ cap ≤ maxLen ∧ zs.length = cap ∧ (∀ i, i < zs.length → w.cell? (x.add i) = some (.int k (zs.getD i 0))) ∧ ∀ n ∈ zs, (Lit.int k n).wf = true

theorem bytes {w : World} {a : Option Addr} {len cap : Nat} {zs : List Int} (h : IsRow .u8 w a len cap zs) : ∃ l : List UInt8, l.length = len ∧ ow.Reads .u8 w (.slice a len cap) (b6.bz l) := by
  rcases h with ⟨rfl, rfl, rfl, rfl⟩ | ⟨x, rfl, hlc, hm, hz, hcell, hwz⟩
  · exact ⟨[], rfl, none, 0, rfl, .inl rfl⟩
  · refine ⟨(zs.take len).map fun z => UInt8.ofNat z.toNat, by simp; omega, some x, cap, by rw [b6.bz_len]; simp; omega, ?_⟩
    by_cases h0 : len = 0
    · left
      rw [h0]
      rfl
    · right
      obtain ⟨b, off, spot⟩ := x
      have hc := hcell 0 (by omega)
      have hspot : spot = none := by simpa [Addr.add] using World.cell?_spot hc
      subst hspot
      refine ⟨b, off, rfl, fun j hj => ?_⟩
      have hj' : j < len := by
        rw [b6.bz_len] at hj
        simp at hj
        omega
      have hj2 : j < zs.length := by omega
      have hb := bounds_u8 (hwz (zs.getD j 0) (by rw [List.getD_eq_getElem?_getD, List.getElem?_eq_getElem hj2]; exact List.getElem_mem hj2))
      have hcj := hcell j hj2
      rw [show ((⟨b, off, none⟩ : Addr).add j) = ⟨b, off + j, none⟩ from by simp [Addr.add]] at hcj
      rw [hcj, b6.bz_at]
      congr 2
      have e : ((zs.take len).map fun z => UInt8.ofNat z.toNat).getD j 0 = UInt8.ofNat (zs.getD j 0).toNat := by
        simp [List.getD_eq_getElem?_getD, hj2, hj']
      rw [e, UInt8.toNat_ofNat']
      omega
end Go.Proofs.YtbokolpjdaamiaaGreatDoor.ag

namespace Go.Proofs.YtbokolpjdaamiaaGreatDoor.ag
open Go.RowKit
set_option linter.unusedVariables false

theorem conv {w : World} {v : Value} {l : List UInt8} (h : ow.Reads .u8 w v (b6.bz l)) : (convert 22 9 v).run Tryz.prog w = .ok (.string ⟨l.toArray⟩) w := by
  obtain ⟨a, cap, rfl, h⟩ := h
  rw [b6.bz_len] at h ⊢
  by_cases h0 : l = []
  · subst h0
    rw [run_convert_bytes_string w 22 9 5 _ _ _ Tryz.underlying22 Tryz.underlying5 Tryz.underlying9]
    cases a <;> rfl
  · rcases h with e | ⟨b, off, rfl, hc⟩
    · exact absurd (List.eq_nil_of_length_eq_zero (by have := congrArg List.length e; rwa [b6.bz_len] at this)) h0
    · refine run_convert_bytes_back w 22 9 5 ⟨b, off, none⟩ cap l Tryz.underlying22 Tryz.underlying5 Tryz.underlying9 (fun j hj => ?_)
      rw [show ((⟨b, off, none⟩ : Addr).add j) = ⟨b, off + j, none⟩ from by simp [Addr.add], hc j hj, b6.bz_at]
      simp [List.getD_eq_getElem?_getD, hj]
end Go.Proofs.YtbokolpjdaamiaaGreatDoor.ag

namespace Go.Proofs.YtbokolpjdaamiaaGreatDoor.qu
open Go.RowKit
set_option linter.unusedVariables false

/-- The text and the code that are answered. -/
def es (l : List UInt8) : ByteArray := if l.length ≤ 65536 then ⟨(qt 0 l).toArray⟩ else ⟨#[]⟩
def ec (l : List UInt8) : Int := if l.length ≤ 65536 then 0 else 2

end Go.Proofs.YtbokolpjdaamiaaGreatDoor.qu

namespace Go.Proofs.YtbokolpjdaamiaaGreatDoor.ck
open Go.RowKit
set_option linter.unusedVariables false

/-- One turn of the register. -/
def one (n : Nat) : Nat := if n % 2 = 1 then (n / 2) ^^^ 3988292384 else n / 2
def rep : Nat → Nat → Nat
  | 0, n => n
  | k + 1, n => one (rep k n)
def byte (n : Nat) (z : Int) : Nat := rep 8 (n ^^^ z.toNat)
def crc (zs : List Int) : Nat := zs.foldl byte 4294967295
/-- The sum of bytes. -/
def sum (zs : List Int) : Nat := crc zs ^^^ 4294967295

theorem xor_lt {a b : Nat} (ha : a < 4294967296) (hb : b < 4294967296) : a ^^^ b < 4294967296 := Nat.xor_lt_two_pow (n := 32) ha hb
theorem one_lt {n : Nat} (h : n < 4294967296) : one n < 4294967296 := by
  unfold one
  split
  · exact xor_lt (by omega) (by omega)
  · omega
theorem rep_lt {n : Nat} (h : n < 4294967296) : ∀ k, rep k n < 4294967296
  | 0 => h
  | k + 1 => one_lt (rep_lt h k)
def Bytes (zs : List Int) : Prop := ∀ j, j < zs.length → 0 ≤ zs.getD j 0 ∧ zs.getD j 0 ≤ 255
theorem byte_lt {n : Nat} {z : Int} (h : n < 4294967296) (h1 : z ≤ 255) : byte n z < 4294967296 := rep_lt (xor_lt h (by omega)) 8
theorem take_one (o : List Int) (k : Nat) (h : k < o.length) : o.take (k + 1) = o.take k ++ [o.getD k 0] := by
  rw [List.take_add_one, List.getElem?_eq_getElem h]
  simp [List.getD_eq_getElem?_getD, h]
theorem crc_step {zs : List Int} {k : Nat} (h : k < zs.length) : crc (zs.take (k + 1)) = byte (crc (zs.take k)) (zs.getD k 0) := by
  rw [take_one _ _ h]
  simp [crc]
theorem crc_lt {zs : List Int} (h : Bytes zs) : ∀ k, k ≤ zs.length → crc (zs.take k) < 4294967296 := by
  intro k
  induction k with
  | zero => intro _; simp [crc]
  | succ k ih =>
    intro hk
    rw [crc_step (by omega)]
    exact byte_lt (ih (by omega)) (h k (by omega)).2
theorem sum_lt {zs : List Int} (h : Bytes zs) : sum zs < 4294967296 := by
  have := crc_lt h zs.length (Nat.le_refl _)
  rw [List.take_length] at this
  exact xor_lt this (by omega)

theorem u32x (a b : Nat) (ha : a < 4294967296) (hb : b < 4294967296) : bits .xor .u32 (a : Int) (b : Int) = ((a ^^^ b : Nat) : Int) := u32_xor_nat a b ha hb
theorem i64x (a b : Nat) (ha : a < 4294967296) (hb : b < 4294967296) : bits .xor .i64 (a : Int) (b : Int) = ((a ^^^ b : Nat) : Int) := by
  have hx := xor_lt ha hb
  show IntKind.i64.wrap ((BitVec.ofInt 64 (a : Int) ^^^ BitVec.ofInt 64 (b : Int)).toNat : Int) = _
  rw [BitVec.toNat_xor, ofInt_u64 a (by omega), ofInt_u64 b (by omega)]
  simp only [IntKind.wrap, IntKind.bits, IntKind.signed]
  simp
  omega
theorem i64q (r : Nat) (h : r < 4294967296) : bits .xor .i64 ((r : Int) / 2) 3988292384 = (((r / 2) ^^^ 3988292384 : Nat) : Int) := by
  have := i64x (r / 2) 3988292384 (by omega) (by omega)
  rw [← this]
  rfl
theorem i64n (r : Nat) (h : r < 4294967296) : bits .xor .i64 (r : Int) 4294967295 = ((r ^^^ 4294967295 : Nat) : Int) := i64x r 4294967295 h (by omega)
theorem u32q (r : Nat) (h : r < 4294967296) : bits .xor .u32 ((r : Int) / 2) 3988292384 = (((r / 2) ^^^ 3988292384 : Nat) : Int) := by
  have := u32x (r / 2) 3988292384 (by omega) (by omega)
  rw [← this]
  rfl
theorem u32n (r : Nat) (h : r < 4294967296) : bits .xor .u32 IntKind.u32.max (r : Int) = ((r ^^^ 4294967295 : Nat) : Int) := by
  rw [Nat.xor_comm, show IntKind.u32.max = 4294967295 from by decide]
  exact u32x 4294967295 r (by omega) h
theorem xor_comm (a b : Nat) : a ^^^ b = b ^^^ a := Nat.xor_comm a b

set_option maxHeartbeats 2000000 in
set_option maxRecDepth 100000 in
theorem spec_l07Check (v : Value) (zs : List Int) (w : World) (h : ow.Reads .u8 w v zs) (hb : Bytes zs) (hz : zs.length ≤ 1048576) :
    Calls Tryz.prog 29 #[v] w fun e w' => e = .returned (.int .i64 ((sum zs : Nat) : Int)) ∧ w' = w := by
  obtain ⟨a, cap, rfl, h⟩ := h
  have HR : Hid (zs = [] ∨ ∃ b off, a = some ⟨b, off, none⟩ ∧ ∀ j, j < zs.length → w.cell? ⟨b, off + j, none⟩ = some (.int .u8 (zs.getD j 0))) := h
  have HB : Hid (Bytes zs) := hb
  clear h hb
  obtain ⟨n, hn⟩ : ∃ n, n = zs.length := ⟨_, rfl⟩
  have HN : Hid (n = zs.length) := hn
  rw [← hn] at hz ⊢
  clear hn
  go_enter Tryz.func29, Tryz.ntmps29
  go_wp2
  go_loop [3, 4] (fun q i => ∃ k : Nat, k ≤ n ∧ i = .int .i64 k ∧ q = .int .i64 ((crc (zs.take k) : Nat) : Int)) (fun _ i => n - (intOf i).toNat)
  case atStart => exact ⟨0, Nat.zero_le _, rfl, by simp [crc]⟩
  case round =>
    obtain ⟨k, hk, rfl, rfl⟩ := hrel
    have hc0 : crc (zs.take k) < 4294967296 := crc_lt HB.out k (by rw [← HN.out]; exact hk)
    obtain ⟨c, hc⟩ : ∃ c, c = crc (zs.take k) := ⟨_, rfl⟩
    rw [← hc] at hc0 ⊢
    have HC : Hid (c = crc (zs.take k)) := hc
    clear hc
    by_cases hlt : k < n
    · obtain ⟨b, off, hab, hcell⟩ : ∃ b off, a = some ⟨b, off, none⟩ ∧ w.cell? ⟨b, off + k, none⟩ = some (.int .u8 (zs.getD k 0)) := by
        rcases HR.out with h0 | ⟨b, off, e, h⟩
        · have := HN.out; rw [h0] at this; simp at this; omega
        · exact ⟨b, off, e, h k (by rw [← HN.out]; exact hlt)⟩
      subst hab
      obtain ⟨hz0, hz1⟩ := HB.out k (by rw [← HN.out]; exact hlt)
      obtain ⟨z, hze⟩ : ∃ z : Nat, zs.getD k 0 = (z : Int) := ⟨(zs.getD k 0).toNat, by omega⟩
      rw [hze] at hz0 hz1 hcell
      have HZ : Hid (zs.getD k 0 = (z : Int)) := hze
      clear hze
      have hx := i64x c z hc0 (by omega)
      have hm0 : c ^^^ z < 4294967296 := xor_lt hc0 (by omega)
      obtain ⟨m, hm⟩ : ∃ m, m = c ^^^ z := ⟨_, rfl⟩
      rw [← hm] at hx hm0
      have HM : Hid (m = c ^^^ z) := hm
      clear hm
      have hlt' : (k : Int) < (n : Int) := by omega
      go_wp2
      go_loop [3, 5] (fun q i => ∃ j : Nat, j ≤ 8 ∧ i = .int .i64 j ∧ q = .int .i64 ((rep j m : Nat) : Int)) (fun _ i => 8 - (intOf i).toNat)
      case atStart => exact ⟨0, Nat.zero_le _, rfl, rfl⟩
      case round =>
        obtain ⟨j, hj, rfl, rfl⟩ := hrel
        have hr0 : rep j m < 4294967296 := rep_lt hm0 j
        obtain ⟨r, hr⟩ : ∃ r, r = rep j m := ⟨_, rfl⟩
        rw [← hr] at hr0 ⊢
        have HRR : Hid (r = rep j m) := hr
        clear hr
        by_cases hj8 : j < 8
        · have hj8' : (j : Int) < 8 := by omega
          by_cases hodd : r % 2 = 1
          · have ht : (r : Int).tmod 2 = 1 := by rw [Int.tmod_eq_emod_of_nonneg (by omega)]; omega
            have hq : (r : Int).tdiv 2 = ((r / 2 : Nat) : Int) := by rw [Int.tdiv_eq_ediv_of_nonneg (by omega)]; omega
            have hx2 := i64q r hr0
            have HO : Hid (r % 2 = 1) := hodd
            clear hodd
            go_wp2
            go_round
            case rel => exact ⟨j + 1, by omega, by go_num, by show _ = Value.int .i64 ((one (rep j m) : Nat) : Int); rw [← HRR.out]; unfold one; rw [if_pos HO.out]⟩
            case measure => simp [intOf]; omega
          · have ht : (r : Int).tmod 2 = 0 := by rw [Int.tmod_eq_emod_of_nonneg (by omega)]; omega
            have hq : (r : Int).tdiv 2 = ((r / 2 : Nat) : Int) := by rw [Int.tdiv_eq_ediv_of_nonneg (by omega)]; omega
            have HO : Hid (¬ r % 2 = 1) := hodd
            clear hodd
            go_wp2
            go_round
            case rel => exact ⟨j + 1, by omega, by go_num, by show _ = Value.int .i64 ((one (rep j m) : Nat) : Int); rw [← HRR.out]; unfold one; rw [if_neg HO.out]; rfl⟩
            case measure => simp [intOf]; omega
        · have hj8' : ¬ (j : Int) < 8 := by omega
          go_wp2
          go_round
          case rel =>
            refine ⟨k + 1, by omega, by go_num, ?_⟩
            rw [crc_step (by rw [← HN.out]; exact hlt), ← HC.out, HZ.out]
            unfold byte
            rw [show (z : Int).toNat = z from rfl, ← HM.out, HRR.out, show j = 8 from by omega]
          case measure => simp [intOf]; omega
    · have hlt' : ¬ (k : Int) < (n : Int) := by omega
      have hx := i64n c hc0
      go_wp2
      go_ret
      refine ⟨?_, rfl⟩
      have e : sum zs = c ^^^ 4294967295 := by
        unfold sum
        rw [HC.out, show k = zs.length from by have := HN.out; omega, List.take_length]
      rw [e]
      rfl

end Go.Proofs.YtbokolpjdaamiaaGreatDoor.ck

namespace Go.Proofs.YtbokolpjdaamiaaGreatDoor.rn
open Go.RowKit
set_option linter.unusedVariables false

abbrev B := List UInt8
theorem right_of_good {s : ByteArray} (h : xm.GoodTo s s.size) : ut.Right s ∧ ∃ n, ut.pos s n = s.size := by
  obtain ⟨n, h1, _, h3, _⟩ := h
  refine ⟨fun m hm hb => ?_, n, h1.symm⟩
  have hmn : m < n := by
    rcases Nat.lt_or_ge m n with h | h
    · exact h
    · have := ut.pos_mono s n (m - n)
      rw [show n + (m - n) = m from by omega] at this
      omega
  exact h3 m hmn (.inl hb)
theorem flat_of {s : ByteArray} (hr : ut.Right s) {n : Nat} (hn : ut.pos s n = s.size) : s = ut.mk ((ut.runesL s n).flatMap ut.encB) := by
  rw [← ut.fix_flat s n hn, ut.fix_right s hr n (by omega), hn]
  apply ByteArray.ext
  rw [← Array.toList_inj]
  show s.data.toList = s.data.toList.take s.size
  rw [List.take_of_length_le (by rw [← Lib.size_eq]; exact Nat.le_refl _)]
/-- What is encoded of a value of an entry is safe. -/
theorem enc_ok {s r : ByteArray} (h : en.fld s = true) (hr : hd.EncIs s r) : hd.Safe r.data.toList := by
  obtain ⟨h1, h2, _⟩ := en.fld_cases h
  obtain ⟨hR, n, hn⟩ := right_of_good h2
  have hf := flat_of hR hn
  have hl : ((ut.runesL s n).flatMap ut.encB).length ≤ 900 := by
    have : s.size = ((ut.runesL s n).flatMap ut.encB).length := by
      have := congrArg ByteArray.size hf
      rwa [ut.mk_size] at this
    omega
  rw [hf] at hr
  exact (hd.round_trip (ut.runesL_sc s n) hl hr).1
theorem fld_right {s : ByteArray} (h : en.fld s = true) : ut.Right s ∧ s.size ≤ 200 := ⟨(right_of_good (en.fld_cases h).2.1).1, (en.fld_cases h).1⟩
/-- Where a text is cut for its next word: the first of 47 places that is one. -/
def cutB (t : ByteArray) (j : Nat) : Bool := decide (ut.pos t j ≤ t.size ∧ ut.pos t j ≤ 45 ∧ (45 < ut.pos t (j + 1) ∨ t.size ≤ ut.pos t j))
def cutF (t : ByteArray) : Nat → Nat
  | 0 => 0
  | n + 1 => if cutB t n = true then ut.pos t n else cutF t n
theorem cutB_at {t : ByteArray} {j : Nat} (h : cutB t j = true) : ut.CutAt t 45 (ut.pos t j) := by
  have h := of_decide_eq_true h
  exact ⟨j, rfl, h.1, by omega, by rcases h.2.2 with h | h; exact .inl (by omega); exact .inr h⟩
theorem cut_early (t : ByteArray) : ∀ j, cutB t j = true → ∃ i, i < 47 ∧ cutB t i = true
  | j, h => by
    by_cases hj : j < 47
    · exact ⟨j, hj, h⟩
    · have hp := of_decide_eq_true h
      by_cases hx : ∃ i, i < j ∧ t.size ≤ ut.pos t i
      · obtain ⟨i, hi, hs⟩ := hx
        have hm := ut.pos_mono t i (j - i)
        rw [show i + (j - i) = j from by omega] at hm
        exact cut_early t i (decide_eq_true ⟨by omega, by omega, .inr hs⟩)
      · exfalso
        have hg : ∀ i, i < j → i ≤ ut.pos t i := by
          intro i
          induction i with
          | zero => intro _; omega
          | succ i ih =>
            intro hi
            have h1 := ih (by omega)
            have h2 := ut.pos_le t i (by
              rcases Nat.lt_or_ge (ut.pos t i) t.size with h | h
              · exact h
              · exact absurd ⟨i, by omega, h⟩ hx)
            omega
        have h46 := hg 46 (by omega)
        have hm := ut.pos_mono t 46 (j - 46)
        rw [show 46 + (j - 46) = j from by omega] at hm
        omega
theorem cutF_is {t : ByteArray} {k : Nat} (h : ut.CutAt t 45 k) : cutF t 47 = k := by
  have hex : ∃ i, i < 47 ∧ cutB t i = true := by
    obtain ⟨j, rfl, h1, h2, h3⟩ := h
    exact cut_early t j (decide_eq_true ⟨h1, by omega, by rcases h3 with h3 | h3; exact .inl (by omega); exact .inr h3⟩)
  have hF : ∀ n, (∃ i, i < n ∧ cutB t i = true) → ut.CutAt t 45 (cutF t n) := by
    intro n
    induction n with
    | zero => rintro ⟨i, hi, _⟩; omega
    | succ n ih =>
      rintro ⟨i, hi, hb⟩
      rw [cutF]
      split
      · rename_i hn; exact cutB_at hn
      · rename_i hn
        refine ih ⟨i, ?_, hb⟩
        rcases Nat.lt_or_eq_of_le (Nat.le_of_lt_succ hi) with h | h
        · exact h
        · subst h; exact absurd hb hn
  exact ut.cut_one (hF 47 hex) h
/-- The words of a text, one behind another. -/
def encG : Nat → ByteArray → B → B
  | 0, t, out => out
  | n + 1, t, out => if t.size = 0 then out else encG n (t.extract (cutF t 47) t.size) (out ++ hd.sep out ++ hd.wordL (t.extract 0 (cutF t 47)).data.toList)
theorem encG_is : ∀ (n m : Nat) (t : ByteArray) (out r : B), t.size ≤ m → hd.Ends n t out r → r = encG m t out
  | 0, m, t, out, r, hm, h => by
    cases m with
    | zero => exact h.2
    | succ m => rw [encG, if_pos h.1]; exact h.2
  | n + 1, m, t, out, r, hm, h => by
    rcases h with h | ⟨h0, k, hk, h⟩
    · cases m with
      | zero => exact h.2
      | succ m => rw [encG, if_pos h.1]; exact h.2
    · cases m with
      | zero => omega
      | succ m =>
        rw [encG, if_neg h0, cutF_is hk]
        have hp := hd.cut_pos h0 hk
        refine encG_is n m _ _ r ?_ h
        rw [ByteArray.size_extract]
        omega
def plainB (l : B) : Bool := decide (l.length ≤ 2000) && (l.isEmpty || (match hd.wid l with | some w => decide (0 < w) | none => false)) && !(Lib.contains l hd.sign)
theorem plainB_iff (l : B) : plainB l = true ↔ hd.Plain l := by
  unfold plainB hd.Plain hd.Safe
  cases hw : hd.wid l with
  | none => simp [List.isEmpty_iff]
  | some w => simp [List.isEmpty_iff]
/-- A value encoded. -/
def EN (s : ByteArray) : ByteArray := if plainB s.data.toList = true then s else ⟨(encG s.size s []).toArray⟩
theorem en_is {s r : ByteArray} (h : hd.EncIs s r) : r = EN s := by
  unfold EN
  rcases h with ⟨hp, rfl⟩ | ⟨hp, n, h⟩
  · rw [if_pos ((plainB_iff _).2 hp)]
  · rw [if_neg (fun e => hp ((plainB_iff _).1 e))]
    have := encG_is n s.size s [] _ (Nat.le_refl _) h
    exact ut.bytes_ext (by rw [this])
/-- A field folded. -/
def FO (nm s : ByteArray) : ByteArray := ⟨(hd.foldL nm.data.toList s.data.toList).toArray⟩
theorem fo_is {nm s r : ByteArray} (h : r.data.toList = hd.foldL nm.data.toList s.data.toList) : r = FO nm s := ByteArray.ext (Array.toList_inj.1 h)

theorem safe_signs {l : B} (h : hd.signs l) (h0 : l ≠ []) (hl : l.length ≤ 200) : hd.Safe l := by
  refine ⟨by omega, .inr ⟨0 + l.length, hd.wid_word l 0 h (by omega), ?_⟩⟩
  have := List.length_pos_iff.2 h0
  omega
theorem signs_app {a b : B} (ha : hd.signs a) (hb : hd.signs b) : hd.signs (a ++ b) := fun c hc => by
  rcases List.mem_append.1 hc with h | h
  · exact ha c h
  · exact hb c h
theorem dec_signs : ∀ (k n : Nat), n < 10 ^ (k + 1) → hd.signs (Lib.decDigits n)
  | 0, n, h => by
    rw [Lib.decDigits, dif_pos (by omega)]
    intro c hc
    rw [List.mem_singleton] at hc
    subst hc
    rw [UInt8.toNat_ofNat']
    omega
  | k + 1, n, h => by
    rw [Lib.decDigits]
    by_cases h9 : n < 10
    · rw [dif_pos h9]
      intro c hc
      rw [List.mem_singleton] at hc
      subst hc
      rw [UInt8.toNat_ofNat']
      omega
    · rw [dif_neg h9]
      refine signs_app (dec_signs k (n / 10) (by rw [Nat.pow_succ] at h; omega)) fun c hc => ?_
      rw [List.mem_singleton] at hc
      subst hc
      rw [UInt8.toNat_ofNat']
      omega
theorem name_signs {s : ByteArray} (h : nm.IsName s) : hd.signs s.data.toList ∧ s.size ≤ 40 := by
  obtain ⟨_, h2, hg⟩ := h
  refine ⟨fun c hc => ?_, h2⟩
  obtain ⟨j, hj, e⟩ := List.mem_iff_getElem.1 hc
  obtain ⟨hj', hx⟩ := hg j (by rw [Lib.size_eq]; exact hj)
  have e' : s[j] = c := e
  rw [e'] at hx
  have : (nm.letB (c.toNat : Int) = true) ∨ nm.digB (c.toNat : Int) = true := hx.imp id (·.2)
  simp only [nm.letB, nm.digB, decide_eq_true_iff] at this
  omega
theorem dg_sign {z : Int} (h0 : 0 ≤ z) (h1 : z ≤ 9) : 33 ≤ (dx.dg z).toNat ∧ (dx.dg z).toNat ≤ 126 := by
  have := dx.dg_nat h0 h1
  omega
theorem two_signs {d : Int} (h0 : 0 ≤ d) (h1 : d ≤ 99) : hd.signs (dx.two d) := by
  intro c hc
  simp only [dx.two, List.mem_cons, List.mem_nil_iff, or_false] at hc
  rcases hc with rfl | rfl
  · exact dg_sign (by omega) (by omega)
  · exact dg_sign (by omega) (by omega)
theorem four_signs {y : Int} (h0 : 0 ≤ y) (h1 : y ≤ 9999) : hd.signs (dx.four y) := by
  intro c hc
  simp only [dx.four, List.mem_cons, List.mem_nil_iff, or_false] at hc
  rcases hc with rfl | rfl | rfl | rfl <;> exact dg_sign (by omega) (by omega)
theorem colon_signs : hd.signs [58] := by intro c hc; simp at hc; subst hc; decide
theorem wkn_signs : ∀ a : Fin 7, hd.signs (dx.wkn a.val ++ [44]) := (show ∀ a : Fin 7, ∀ b ∈ (dx.wkn a.val ++ [44]), 33 ≤ b.toNat ∧ b.toNat ≤ 126 by decide +kernel)
theorem mtn_signs : ∀ m : Fin 13, m.val ≠ 0 → hd.signs (dx.mtn m.val) ∧ dx.mtn m.val ≠ [] ∧ (dx.mtn m.val).length ≤ 200 := (show ∀ m : Fin 13, m.val ≠ 0 → (∀ b ∈ dx.mtn m.val, 33 ≤ b.toNat ∧ b.toNat ≤ 126) ∧ dx.mtn m.val ≠ [] ∧ (dx.mtn m.val).length ≤ 200 by decide +kernel)
theorem wkn_len : ∀ a : Fin 7, dx.wkn a.val ++ [44] ≠ [] ∧ (dx.wkn a.val ++ [44]).length ≤ 200 := by decide +kernel
/-- A date's text is safe. -/
theorem date_safe (n : Int) (n0 : 0 ≤ n) (n1 : n ≤ 4102444799) : hd.Safe (dx.t82 n) ∧ (dx.t82 n).length ≤ 100 := by
  have hok := dt.civ_ok n0 n1
  unfold dx.t82
  have ha7 : dx.wkd n < 7 := by unfold dx.wkd; omega
  obtain ⟨q, hq⟩ : ∃ q : Nat, dt.mn n = (q : Int) := ⟨(dt.mn n).toNat, by have := hok.2.2.1; omega⟩
  rw [hq] at hok ⊢
  rw [Int.toNat_natCast]
  generalize dt.yr n = y, dt.dy n = d, dt.hr n = h, dt.mt n = i, dt.sc n = s, dx.wkd n = a at hok ha7 ⊢
  obtain ⟨k1, k2, k3, k4, k5, k6, k7, k8, k9, k10, k11, k12⟩ := hok
  have k13 := dt.dm_pos y (q : Int)
  have e : dx.f82 a y q d h i s = (dx.wkn a ++ [44]) ++ hd.joinB false [dx.two d, dx.mtn q, dx.four y, dx.clk h i s, [43, 48, 48, 48, 48]] := by
    simp [dx.f82, hd.joinB]
  have hm := mtn_signs ⟨q, by omega⟩ (by show q ≠ 0; omega)
  have hmt := dx.mtn_len (m := q) (by omega) (by omega)
  have hwl := dx.wkn_len ha7
  have hlen : (dx.f82 a y q d h i s).length ≤ 100 := by
    unfold dx.f82
    simp only [List.length_append, hwl, hmt, dx.two_len, dx.four_len, dx.clk_len, List.length_cons, List.length_nil]
    omega
  refine ⟨⟨by omega, .inr ?_⟩, hlen⟩
  rw [e]
  have hclk : hd.signs (dx.clk h i s) := by
    unfold dx.clk
    exact signs_app (signs_app (signs_app (signs_app (two_signs (by omega) (by omega)) colon_signs) (two_signs (by omega) (by omega))) colon_signs) (two_signs (by omega) (by omega))
  refine hd.wid_join _ _ (wkn_signs ⟨a, ha7⟩) (wkn_len ⟨a, ha7⟩).1 (wkn_len ⟨a, ha7⟩).2 (fun y' hy => ?_)
  simp only [List.mem_cons, List.mem_nil_iff, or_false] at hy
  rcases hy with rfl | rfl | rfl | rfl | rfl
  · exact ⟨two_signs (by omega) (by omega), by simp [dx.two], by simp [dx.two]⟩
  · exact hm
  · exact ⟨four_signs (by omega) (by omega), by simp [dx.four], by simp [dx.four]⟩
  · exact ⟨hclk, by simp [dx.clk, dx.two], by simp [dx.clk, dx.two]⟩
  · exact ⟨by intro c hc; simp at hc; rcases hc with rfl | rfl <;> decide, by simp, by simp⟩

/-- Each byte 10 becomes 13, 10. -/
def crl (l : B) : B := l.flatMap fun c => if c = 10 then [13, 10] else [c]
theorem crl_cons (c : UInt8) (l : B) : crl (c :: l) = (if c = 10 then [13, 10] else [c]) ++ crl l := rfl
theorem crl_len (l : B) : (crl l).length ≤ 2 * l.length := by
  induction l with
  | nil => simp [crl]
  | cons c l ih =>
    rw [crl_cons, List.length_append, List.length_cons]
    split <;> simp <;> omega
def lf : B := [10]
theorem lf_pre {c : UInt8} {r : B} : lf.isPrefixOf (c :: r) = true ↔ c = 10 := by
  unfold lf
  simp only [List.isPrefixOf, Bool.and_true, beq_iff_eq]
  exact eq_comm
theorem crl_hit : ∀ (x : B) (i : Nat), Lib.index x lf = i → crl x = x.take i ++ [13, 10] ++ crl (x.drop (i + 1))
  | [], i, h => by simp [Lib.index, lf] at h
  | c :: r, i, h => by
    rw [Lib.index] at h
    by_cases hp : lf.isPrefixOf (c :: r) = true
    · rw [if_pos hp] at h
      obtain rfl : i = 0 := by omega
      rw [crl_cons, if_pos (lf_pre.1 hp)]
      rfl
    · rw [if_neg hp] at h
      have hge := Lib.index_ge r lf
      by_cases h1 : Lib.index r lf = -1
      · rw [if_pos (by rw [h1]; rfl)] at h
        omega
      · rw [if_neg (by simpa using h1)] at h
        obtain ⟨j, rfl⟩ : ∃ j, i = j + 1 := ⟨i - 1, by omega⟩
        rw [crl_cons, if_neg (fun e => hp (lf_pre.2 e)), crl_hit r j (by omega)]
        simp
theorem crl_miss : ∀ (x : B), Lib.index x lf = -1 → crl x = x
  | [], h => rfl
  | c :: r, h => by
    rw [Lib.index] at h
    by_cases hp : lf.isPrefixOf (c :: r) = true
    · rw [if_pos hp] at h
      cases h
    · rw [if_neg hp] at h
      by_cases h1 : Lib.index r lf = -1
      · rw [crl_cons, if_neg (fun e => hp (lf_pre.2 e)), crl_miss r h1]
        rfl
      · rw [if_neg (by simpa using h1)] at h
        have := Lib.index_ge r lf
        omega
theorem crl_rep : ∀ (n : Nat) (x : B), x.length ≤ n → Lib.replaceK lf [13, 10] (Lib.count x lf) x = crl x
  | n, x, hn => by
    by_cases h : Lib.index x lf = -1
    · rw [Lib.count_miss h, crl_miss x h]
      rfl
    · obtain ⟨i, hi⟩ : ∃ i : Nat, Lib.index x lf = i := ⟨(Lib.index x lf).toNat, by have := Lib.index_ge x lf; omega⟩
      have hr := Lib.index_room x lf (by rw [hi]; omega)
      rw [hi] at hr
      have e1 : lf.length = 1 := rfl
      match n with
      | 0 => omega
      | n + 1 =>
        have hc := Lib.count_hit (s := x) (sub := lf) (i := i) (by simp [lf]) hi
        rw [hc, Nat.add_comm, Lib.replaceK_hit _ _ _ _ i hi, crl_hit x i hi]
        rw [e1, crl_rep n (x.drop (i + 1)) (by rw [List.length_drop]; omega)]
theorem replace_crl (x : B) : Lib.replaceAll x lf [13, 10] = crl x := by
  unfold Lib.replaceAll Lib.replace Lib.replaceNum
  rw [if_neg (by simp [lf]), if_pos (.inl (by decide))]
  exact crl_rep x.length x (Nat.le_refl _)

abbrev Pr := ByteArray × ByteArray
/-- The value of the field Message-ID. -/
def mid (e : en.En) (box : ByteArray) : ByteArray := (((⟨#[60]⟩ ++ ⟨(Lib.decDigits (ck.sum (b6.bz e.i.data.toList))).toArray⟩) ++ ⟨#[64]⟩) ++ box) ++ ⟨#[62]⟩
/-- The fields of an entry's mail. -/
def flds (e : en.En) (box : ByteArray) : List Pr :=
  [(⟨#[70, 114, 111, 109]⟩, EN e.a), (⟨#[68, 97, 116, 101]⟩, ⟨(dx.t82 e.d).toArray⟩), (⟨#[83, 117, 98, 106, 101, 99, 116]⟩, EN e.t), (⟨#[77, 101, 115, 115, 97, 103, 101, 45, 73, 68]⟩, mid e box), (⟨#[88, 45, 73, 100]⟩, EN e.i), (⟨#[88, 45, 76, 105, 110, 107]⟩, EN e.l), (⟨#[77, 73, 77, 69, 45, 86, 101, 114, 115, 105, 111, 110]⟩, ⟨#[49, 46, 48]⟩), (⟨#[67, 111, 110, 116, 101, 110, 116, 45, 84, 121, 112, 101]⟩, ⟨#[116, 101, 120, 116, 47, 112, 108, 97, 105, 110, 59, 32, 99, 104, 97, 114, 115, 101, 116, 61, 117, 116, 102, 45, 56]⟩), (⟨#[67, 111, 110, 116, 101, 110, 116, 45, 84, 114, 97, 110, 115, 102, 101, 114, 45, 69, 110, 99, 111, 100, 105, 110, 103]⟩, ⟨#[113, 117, 111, 116, 101, 100, 45, 112, 114, 105, 110, 116, 97, 98, 108, 101]⟩)]
/-- Fields folded, one behind the other. -/
def foldAll (ps : List Pr) : ByteArray := ps.foldl (fun acc p => acc ++ FO p.1 p.2) ⟨#[]⟩
/-- The mail of an entry. -/
def rend (e : en.En) (box : ByteArray) : ByteArray := (foldAll (flds e box) ++ ⟨#[13, 10]⟩) ++ (⟨(qu.qt 0 (crl e.c.data.toList)).toArray⟩ ++ ⟨#[13, 10]⟩)
def Good (p : Pr) : Prop := hn.IsName p.1 ∧ hd.Safe p.2.data.toList
theorem name_ok (l : B) (h : ∀ b ∈ l, 33 ≤ b.toNat ∧ b.toNat ≤ 126 ∧ b ≠ 58) (h1 : 1 ≤ l.length) (h2 : l.length ≤ 40) : hn.IsName ⟨l.toArray⟩ := by
  refine ⟨by rw [Lib.size_eq]; exact h1, by rw [Lib.size_eq]; exact h2, fun j hj => ?_⟩
  have hj' : j < l.length := by rw [Lib.size_eq] at hj; exact hj
  have hm := h l[j] (List.getElem_mem hj')
  refine ⟨hj, ?_⟩
  have e : (⟨l.toArray⟩ : ByteArray)[j] = l[j] := rfl
  rw [e]
  refine ⟨by omega, by omega, fun h58 => hm.2.2 ?_⟩
  rw [← UInt8.toNat_inj]
  show l[j].toNat = 58
  omega
end Go.Proofs.YtbokolpjdaamiaaGreatDoor.rn
