/-
  Plain facts on runes and on the model's decoding of a byte string: which rune begins at a place, in the words of the specification's reader.
  Plain facts on the places at which a reader of a text stands: after n steps, and when every step finds a rune.
-/
import Derived.WalkKit
import Derived.Laws.RangeAny
import Derived.Lib.Strings
import Derived.Lib.IndexBytes

namespace Go.Proofs.YtinnnfkhiigjpaaGreat.ut
open Go.RowKit

theorem ret_bool {a b : Bool} (h : a = b) : Ending.returned (.bool a) = .returned (.bool b) := by rw [h]
theorem ret_int {k : IntKind} {a b : Int} (h : a = b) : Ending.returned (.int k a) = .returned (.int k b) := by rw [h]

def inB (n a b : Int) : Bool := decide (a ≤ n ∧ n ≤ b)
def scB (n : Int) : Bool := inB n 0 55295 || inB n 57344 1114111
def rsz (n : Int) : Int := if scB n = true then (if n < 128 then 1 else if n < 2048 then 2 else if n < 65536 then 3 else 4) else 0

/-- The model's decoding, its bytes as numbers. -/
def decF (n k b0 b1 b2 b3 : Nat) : Nat × Nat :=
  if b0 < 128 then (b0, 1)
  else if b0 / 32 == 6 && (decide (k + 1 < n) && b1 / 64 == 2) then
    if (b0 % 32) * 64 + b1 % 64 ≥ 128 then ((b0 % 32) * 64 + b1 % 64, 2) else (65533, 1)
  else if b0 / 16 == 14 && (decide (k + 1 < n) && b1 / 64 == 2) && (decide (k + 2 < n) && b2 / 64 == 2) then
    if decide ((b0 % 16) * 4096 + (b1 % 64) * 64 + b2 % 64 ≥ 2048) && Utf8.valid (((b0 % 16) * 4096 + (b1 % 64) * 64 + b2 % 64 : Nat) : Int) then ((b0 % 16) * 4096 + (b1 % 64) * 64 + b2 % 64, 3) else (65533, 1)
  else if b0 / 8 == 30 && (decide (k + 1 < n) && b1 / 64 == 2) && (decide (k + 2 < n) && b2 / 64 == 2) && (decide (k + 3 < n) && b3 / 64 == 2) then
    if decide ((b0 % 8) * 262144 + (b1 % 64) * 4096 + (b2 % 64) * 64 + b3 % 64 ≥ 65536) && Utf8.valid (((b0 % 8) * 262144 + (b1 % 64) * 4096 + (b2 % 64) * 64 + b3 % 64 : Nat) : Int) then ((b0 % 8) * 262144 + (b1 % 64) * 4096 + (b2 % 64) * 64 + b3 % 64, 4) else (65533, 1)
  else (65533, 1)

theorem dec_eq (s : ByteArray) (k : Nat) : Utf8.decode s k = decF s.size k (s.get! k).toNat (s.get! (k + 1)).toNat (s.get! (k + 2)).toNat (s.get! (k + 3)).toNat := rfl

theorem get_byte (s : ByteArray) (i : Nat) (h : i < s.size) : s.get! i = s[i]'h := by
  simp [ByteArray.get!, getElem!_pos, h]
  rfl

/-- No rune begins at this place. -/
def badAt (s : ByteArray) (k : Nat) : Prop := Utf8.decode s k = (65533, 1)
/-- What the specification's reader answers at a place. -/
def RuneRet (s : ByteArray) (k : Nat) (e : Ending) : Prop :=
  (badAt s k ∧ e = .returned (.tuple #[.int .i64 0, .int .i64 1, .bool false])) ∨
  (¬ badAt s k ∧ e = .returned (.tuple #[.int .i64 (Utf8.decode s k).1, .int .i64 (Utf8.decode s k).2, .bool true]))

theorem F1 {n k b0 b1 b2 b3 : Nat} (h : b0 < 128) : decF n k b0 b1 b2 b3 = (b0, 1) := by simp [decF, h]
theorem F2 {n k b0 b1 b2 b3 : Nat} (h : 194 ≤ b0) (h' : b0 ≤ 223) (hn : k + 1 < n) (c : 128 ≤ b1) (c' : b1 ≤ 191) :
    decF n k b0 b1 b2 b3 = ((b0 - 192) * 64 + (b1 - 128), 2) := by
  have e0 : b0 / 32 = 6 := by omega
  have e1 : b1 / 64 = 2 := by omega
  have e2 : (b0 % 32) * 64 + b1 % 64 ≥ 128 := by omega
  have e3 : ¬ b0 < 128 := by omega
  simp only [decF, e0, e1, e2, e3, hn]
  simp
  omega
theorem F3 {n k b0 b1 b2 b3 : Nat} (h : 224 ≤ b0) (h' : b0 ≤ 239) (hn : k + 2 < n) (c : 128 ≤ b1) (c' : b1 ≤ 191) (d : 128 ≤ b2) (d' : b2 ≤ 191) :
    decF n k b0 b1 b2 b3 = if 2048 ≤ (b0 - 224) * 4096 + (b1 - 128) * 64 + (b2 - 128) ∧ ((b0 - 224) * 4096 + (b1 - 128) * 64 + (b2 - 128) < 55296 ∨ 57344 ≤ (b0 - 224) * 4096 + (b1 - 128) * 64 + (b2 - 128)) then ((b0 - 224) * 4096 + (b1 - 128) * 64 + (b2 - 128), 3) else (65533, 1) := by
  have e0 : ¬ b0 / 32 = 6 := by omega
  have f0 : b0 / 16 = 14 := by omega
  have e1 : b1 / 64 = 2 := by omega
  have e2 : b2 / 64 = 2 := by omega
  have e3 : ¬ b0 < 128 := by omega
  have hn1 : k + 1 < n := by omega
  have ec : (b0 % 16) * 4096 + (b1 % 64) * 64 + b2 % 64 = (b0 - 224) * 4096 + (b1 - 128) * 64 + (b2 - 128) := by omega
  have hc : (b0 - 224) * 4096 + (b1 - 128) * 64 + (b2 - 128) < 65536 := by omega
  unfold decF
  rw [if_neg e3, if_neg (by simp [e0]), if_pos (by simp [f0, e1, e2, hn, hn1]), ec]
  generalize (b0 - 224) * 4096 + (b1 - 128) * 64 + (b2 - 128) = m at hc
  have hiff : (decide (m ≥ 2048) && Utf8.valid (m : Int)) = true ↔ 2048 ≤ m ∧ (m < 55296 ∨ 57344 ≤ m) := by simp [Utf8.valid]; omega
  by_cases g : 2048 ≤ m ∧ (m < 55296 ∨ 57344 ≤ m)
  · rw [if_pos g, if_pos (hiff.2 g)]
  · rw [if_neg g, if_neg (fun x => g (hiff.1 x))]
theorem F4 {n k b0 b1 b2 b3 : Nat} (h : 240 ≤ b0) (h' : b0 ≤ 244) (hn : k + 3 < n) (c : 128 ≤ b1) (c' : b1 ≤ 191) (d : 128 ≤ b2) (d' : b2 ≤ 191) (f : 128 ≤ b3) (f' : b3 ≤ 191) :
    decF n k b0 b1 b2 b3 = if 65536 ≤ (b0 - 240) * 262144 + (b1 - 128) * 4096 + (b2 - 128) * 64 + (b3 - 128) ∧ (b0 - 240) * 262144 + (b1 - 128) * 4096 + (b2 - 128) * 64 + (b3 - 128) ≤ 1114111 then ((b0 - 240) * 262144 + (b1 - 128) * 4096 + (b2 - 128) * 64 + (b3 - 128), 4) else (65533, 1) := by
  have e0 : ¬ b0 / 32 = 6 := by omega
  have f0 : ¬ b0 / 16 = 14 := by omega
  have g0 : b0 / 8 = 30 := by omega
  have e1 : b1 / 64 = 2 := by omega
  have e2 : b2 / 64 = 2 := by omega
  have e4 : b3 / 64 = 2 := by omega
  have e3 : ¬ b0 < 128 := by omega
  have hn1 : k + 1 < n := by omega
  have hn2 : k + 2 < n := by omega
  have ec : (b0 % 8) * 262144 + (b1 % 64) * 4096 + (b2 % 64) * 64 + b3 % 64 = (b0 - 240) * 262144 + (b1 - 128) * 4096 + (b2 - 128) * 64 + (b3 - 128) := by omega
  unfold decF
  rw [if_neg e3, if_neg (by simp [e0]), if_neg (by simp [f0]), if_pos (by simp [g0, e1, e2, e4, hn, hn1, hn2]), ec]
  generalize (b0 - 240) * 262144 + (b1 - 128) * 4096 + (b2 - 128) * 64 + (b3 - 128) = m
  have hiff : (decide (m ≥ 65536) && Utf8.valid (m : Int)) = true ↔ 65536 ≤ m ∧ m ≤ 1114111 := by simp [Utf8.valid]; omega
  by_cases g : 65536 ≤ m ∧ m ≤ 1114111
  · rw [if_pos g, if_pos (hiff.2 g)]
  · rw [if_neg g, if_neg (fun x => g (hiff.1 x))]
theorem Fbad {n k b0 b1 b2 b3 : Nat} (h0 : 128 ≤ b0)
    (h : b0 < 194 ∨ 245 ≤ b0 ∨ n ≤ k + 1 ∨ b1 < 128 ∨ 192 ≤ b1 ∨ (224 ≤ b0 ∧ (n ≤ k + 2 ∨ b2 < 128 ∨ 192 ≤ b2)) ∨ (240 ≤ b0 ∧ (n ≤ k + 3 ∨ b3 < 128 ∨ 192 ≤ b3))) :
    decF n k b0 b1 b2 b3 = (65533, 1) := by
  have e3 : ¬ b0 < 128 := by omega
  unfold decF
  rw [if_neg e3]
  split
  · rename_i g
    simp at g
    rw [if_neg (by omega)]
  split
  · rename_i g
    simp at g
    exfalso
    omega
  split
  · rename_i g
    simp at g
    rw [if_neg]
    simp [Utf8.valid]
    omega
  · rfl

section
variable {s : ByteArray} {k : Nat}
theorem r_ok1 (hk : k < s.size) (h : ((s[k]'hk).toNat : Int) < 128) : RuneRet s k (.returned (.tuple #[.int .i64 ((s[k]'hk).toNat : Int), .int .i64 1, .bool true])) := by
  have e : Utf8.decode s k = ((s[k]'hk).toNat, 1) := by rw [dec_eq, get_byte s k hk, F1 (by omega)]
  refine .inr ⟨fun hb => ?_, by rw [e]; rfl⟩
  rw [badAt, e] at hb
  simp at hb
  omega
theorem r_ok2 (hk : k < s.size) (h1 : k + 1 < s.size) (h : 194 ≤ ((s[k]'hk).toNat : Int)) (h' : ((s[k]'hk).toNat : Int) ≤ 223)
    (c : 128 ≤ ((s[k + 1]'h1).toNat : Int)) (c' : ((s[k + 1]'h1).toNat : Int) ≤ 191) :
    RuneRet s k (.returned (.tuple #[.int .i64 ((((s[k]'hk).toNat : Int) - 192) * 64 + ((s[k + 1]'h1).toNat : Int) - 128), .int .i64 2, .bool true])) := by
  have e : Utf8.decode s k = (((s[k]'hk).toNat - 192) * 64 + ((s[k + 1]'h1).toNat - 128), 2) := by rw [dec_eq, get_byte s k hk, get_byte s (k + 1) h1, F2 (by omega) (by omega) h1 (by omega) (by omega)]
  refine .inr ⟨fun hb => ?_, ?_⟩
  · rw [badAt, e] at hb
    simp at hb
  · rw [e]
    have e2 : (((s[k]'hk).toNat : Int) - 192) * 64 + ((s[k + 1]'h1).toNat : Int) - 128 = ((((s[k]'hk).toNat - 192) * 64 + ((s[k + 1]'h1).toNat - 128) : Nat) : Int) := by omega
    rw [e2]
    rfl
theorem r_ok3 (hk : k < s.size) (h1 : k + 1 < s.size) (h2 : k + 2 < s.size) (h : 224 ≤ ((s[k]'hk).toNat : Int)) (h' : ((s[k]'hk).toNat : Int) ≤ 239)
    (c : 128 ≤ ((s[k + 1]'h1).toNat : Int)) (c' : ((s[k + 1]'h1).toNat : Int) ≤ 191) (d : 128 ≤ ((s[k + 2]'h2).toNat : Int)) (d' : ((s[k + 2]'h2).toNat : Int) ≤ 191)
    (g : 2048 ≤ ((((s[k]'hk).toNat : Int) - 224) * 64 + ((s[k + 1]'h1).toNat : Int) - 128) * 64 + ((s[k + 2]'h2).toNat : Int) - 128)
    (g' : ((((s[k]'hk).toNat : Int) - 224) * 64 + ((s[k + 1]'h1).toNat : Int) - 128) * 64 + ((s[k + 2]'h2).toNat : Int) - 128 ≤ 55295 ∨ 57344 ≤ ((((s[k]'hk).toNat : Int) - 224) * 64 + ((s[k + 1]'h1).toNat : Int) - 128) * 64 + ((s[k + 2]'h2).toNat : Int) - 128) :
    RuneRet s k (.returned (.tuple #[.int .i64 (((((s[k]'hk).toNat : Int) - 224) * 64 + ((s[k + 1]'h1).toNat : Int) - 128) * 64 + ((s[k + 2]'h2).toNat : Int) - 128), .int .i64 3, .bool true])) := by
  have e : Utf8.decode s k = (((s[k]'hk).toNat - 224) * 4096 + ((s[k + 1]'h1).toNat - 128) * 64 + ((s[k + 2]'h2).toNat - 128), 3) := by
    rw [dec_eq, get_byte s k hk, get_byte s (k + 1) h1, get_byte s (k + 2) h2, F3 (by omega) (by omega) h2 (by omega) (by omega) (by omega) (by omega), if_pos (by omega)]
  refine .inr ⟨fun hb => ?_, ?_⟩
  · rw [badAt, e] at hb
    simp at hb
  · rw [e]
    have e2 : ((((s[k]'hk).toNat : Int) - 224) * 64 + ((s[k + 1]'h1).toNat : Int) - 128) * 64 + ((s[k + 2]'h2).toNat : Int) - 128 = ((((s[k]'hk).toNat - 224) * 4096 + ((s[k + 1]'h1).toNat - 128) * 64 + ((s[k + 2]'h2).toNat - 128) : Nat) : Int) := by omega
    rw [e2]
    rfl
theorem r_ok4 (hk : k < s.size) (h1 : k + 1 < s.size) (h2 : k + 2 < s.size) (h3 : k + 3 < s.size) (h : 240 ≤ ((s[k]'hk).toNat : Int)) (h' : ((s[k]'hk).toNat : Int) ≤ 244)
    (c : 128 ≤ ((s[k + 1]'h1).toNat : Int)) (c' : ((s[k + 1]'h1).toNat : Int) ≤ 191) (d : 128 ≤ ((s[k + 2]'h2).toNat : Int)) (d' : ((s[k + 2]'h2).toNat : Int) ≤ 191)
    (f : 128 ≤ ((s[k + 3]'h3).toNat : Int)) (f' : ((s[k + 3]'h3).toNat : Int) ≤ 191)
    (g : 65536 ≤ (((((s[k]'hk).toNat : Int) - 240) * 64 + ((s[k + 1]'h1).toNat : Int) - 128) * 64 + ((s[k + 2]'h2).toNat : Int) - 128) * 64 + ((s[k + 3]'h3).toNat : Int) - 128)
    (g' : (((((s[k]'hk).toNat : Int) - 240) * 64 + ((s[k + 1]'h1).toNat : Int) - 128) * 64 + ((s[k + 2]'h2).toNat : Int) - 128) * 64 + ((s[k + 3]'h3).toNat : Int) - 128 ≤ 1114111) :
    RuneRet s k (.returned (.tuple #[.int .i64 ((((((s[k]'hk).toNat : Int) - 240) * 64 + ((s[k + 1]'h1).toNat : Int) - 128) * 64 + ((s[k + 2]'h2).toNat : Int) - 128) * 64 + ((s[k + 3]'h3).toNat : Int) - 128), .int .i64 4, .bool true])) := by
  have e : Utf8.decode s k = (((s[k]'hk).toNat - 240) * 262144 + ((s[k + 1]'h1).toNat - 128) * 4096 + ((s[k + 2]'h2).toNat - 128) * 64 + ((s[k + 3]'h3).toNat - 128), 4) := by
    rw [dec_eq, get_byte s k hk, get_byte s (k + 1) h1, get_byte s (k + 2) h2, get_byte s (k + 3) h3, F4 (by omega) (by omega) h3 (by omega) (by omega) (by omega) (by omega) (by omega) (by omega), if_pos (by omega)]
  refine .inr ⟨fun hb => ?_, ?_⟩
  · rw [badAt, e] at hb
    simp at hb
  · rw [e]
    have e2 : (((((s[k]'hk).toNat : Int) - 240) * 64 + ((s[k + 1]'h1).toNat : Int) - 128) * 64 + ((s[k + 2]'h2).toNat : Int) - 128) * 64 + ((s[k + 3]'h3).toNat : Int) - 128 = ((((s[k]'hk).toNat - 240) * 262144 + ((s[k + 1]'h1).toNat - 128) * 4096 + ((s[k + 2]'h2).toNat - 128) * 64 + ((s[k + 3]'h3).toNat - 128) : Nat) : Int) := by omega
    rw [e2]
    rfl
theorem r_bad (h : badAt s k) : RuneRet s k (.returned (.tuple #[.int .i64 0, .int .i64 1, .bool false])) := .inl ⟨h, rfl⟩
theorem b_lead (hk : k < s.size) (h0 : 128 ≤ ((s[k]'hk).toNat : Int)) (h : ((s[k]'hk).toNat : Int) < 194 ∨ 244 < ((s[k]'hk).toNat : Int)) : badAt s k := by
  rw [badAt, dec_eq, get_byte s k hk, Fbad (by omega) (by omega)]
theorem b_short2 (hk : k < s.size) (h0 : 128 ≤ ((s[k]'hk).toNat : Int)) (h : s.size < k + 2) : badAt s k := by
  rw [badAt, dec_eq, get_byte s k hk, Fbad (by omega) (by omega)]
theorem b_short3 (hk : k < s.size) (h0 : 224 ≤ ((s[k]'hk).toNat : Int)) (h : s.size < k + 3) : badAt s k := by
  rw [badAt, dec_eq, get_byte s k hk, Fbad (by omega) (by omega)]
theorem b_short4 (hk : k < s.size) (h0 : 240 ≤ ((s[k]'hk).toNat : Int)) (h : s.size < k + 4) : badAt s k := by
  rw [badAt, dec_eq, get_byte s k hk, Fbad (by omega) (by omega)]
theorem b_c1 (hk : k < s.size) (h1 : k + 1 < s.size) (h0 : 128 ≤ ((s[k]'hk).toNat : Int)) (h : ((s[k + 1]'h1).toNat : Int) < 128 ∨ 191 < ((s[k + 1]'h1).toNat : Int)) : badAt s k := by
  rw [badAt, dec_eq, get_byte s k hk, get_byte s (k + 1) h1, Fbad (by omega) (by omega)]
theorem b_c2 (hk : k < s.size) (h2 : k + 2 < s.size) (h0 : 224 ≤ ((s[k]'hk).toNat : Int)) (h : ((s[k + 2]'h2).toNat : Int) < 128 ∨ 191 < ((s[k + 2]'h2).toNat : Int)) : badAt s k := by
  rw [badAt, dec_eq, get_byte s k hk, get_byte s (k + 2) h2, Fbad (by omega) (by omega)]
theorem b_c3 (hk : k < s.size) (h3 : k + 3 < s.size) (h0 : 240 ≤ ((s[k]'hk).toNat : Int)) (h : ((s[k + 3]'h3).toNat : Int) < 128 ∨ 191 < ((s[k + 3]'h3).toNat : Int)) : badAt s k := by
  rw [badAt, dec_eq, get_byte s k hk, get_byte s (k + 3) h3, Fbad (by omega) (by omega)]
theorem b_size3 (hk : k < s.size) (h1 : k + 1 < s.size) (h2 : k + 2 < s.size) (h : 224 ≤ ((s[k]'hk).toNat : Int)) (h' : ((s[k]'hk).toNat : Int) ≤ 239)
    (c : 128 ≤ ((s[k + 1]'h1).toNat : Int)) (c' : ((s[k + 1]'h1).toNat : Int) ≤ 191) (d : 128 ≤ ((s[k + 2]'h2).toNat : Int)) (d' : ((s[k + 2]'h2).toNat : Int) ≤ 191)
    (g : ((((s[k]'hk).toNat : Int) - 224) * 64 + ((s[k + 1]'h1).toNat : Int) - 128) * 64 + ((s[k + 2]'h2).toNat : Int) - 128 < 2048 ∨ (55295 < ((((s[k]'hk).toNat : Int) - 224) * 64 + ((s[k + 1]'h1).toNat : Int) - 128) * 64 + ((s[k + 2]'h2).toNat : Int) - 128 ∧ ((((s[k]'hk).toNat : Int) - 224) * 64 + ((s[k + 1]'h1).toNat : Int) - 128) * 64 + ((s[k + 2]'h2).toNat : Int) - 128 < 57344)) : badAt s k := by
  rw [badAt, dec_eq, get_byte s k hk, get_byte s (k + 1) h1, get_byte s (k + 2) h2, F3 (by omega) (by omega) h2 (by omega) (by omega) (by omega) (by omega), if_neg (by omega)]
theorem b_size4 (hk : k < s.size) (h1 : k + 1 < s.size) (h2 : k + 2 < s.size) (h3 : k + 3 < s.size) (h : 240 ≤ ((s[k]'hk).toNat : Int)) (h' : ((s[k]'hk).toNat : Int) ≤ 244)
    (c : 128 ≤ ((s[k + 1]'h1).toNat : Int)) (c' : ((s[k + 1]'h1).toNat : Int) ≤ 191) (d : 128 ≤ ((s[k + 2]'h2).toNat : Int)) (d' : ((s[k + 2]'h2).toNat : Int) ≤ 191)
    (f : 128 ≤ ((s[k + 3]'h3).toNat : Int)) (f' : ((s[k + 3]'h3).toNat : Int) ≤ 191)
    (g : (((((s[k]'hk).toNat : Int) - 240) * 64 + ((s[k + 1]'h1).toNat : Int) - 128) * 64 + ((s[k + 2]'h2).toNat : Int) - 128) * 64 + ((s[k + 3]'h3).toNat : Int) - 128 < 65536 ∨ 1114111 < (((((s[k]'hk).toNat : Int) - 240) * 64 + ((s[k + 1]'h1).toNat : Int) - 128) * 64 + ((s[k + 2]'h2).toNat : Int) - 128) * 64 + ((s[k + 3]'h3).toNat : Int) - 128) : badAt s k := by
  rw [badAt, dec_eq, get_byte s k hk, get_byte s (k + 1) h1, get_byte s (k + 2) h2, get_byte s (k + 3) h3, F4 (by omega) (by omega) h3 (by omega) (by omega) (by omega) (by omega) (by omega) (by omega), if_neg (by omega)]
end
end Go.Proofs.YtinnnfkhiigjpaaGreat.ut

namespace Go.Proofs.YtinnnfkhiigjpaaGreat.ut
open Go.RowKit
set_option linter.unusedVariables false

/-- The place after n steps, each as wide as the model's decoding says. -/
def pos (s : ByteArray) : Nat → Nat
  | 0 => 0
  | n + 1 => pos s n + (Utf8.decode s (pos s n)).2
/-- A text is right: a rune begins at every place that is come to. -/
def Right (s : ByteArray) : Prop := ∀ n, pos s n < s.size → ¬ badAt s (pos s n)
/-- A call that answers whether something holds. -/
def Says (p : Prop) (e : Ending) : Prop := ∃ b : Bool, e = .returned (.bool b) ∧ (b = true ↔ p)

theorem says_no {p : Prop} (h : ¬ p) : Says p (.returned (.bool false)) := ⟨false, rfl, fun x => (by cases x), fun x => absurd x h⟩
theorem says_yes {p : Prop} (h : p) : Says p (.returned (.bool true)) := ⟨true, rfl, fun _ => h, fun _ => rfl⟩

theorem F_wide (n k b0 b1 b2 b3 : Nat) (hk : k < n) : 1 ≤ (decF n k b0 b1 b2 b3).2 ∧ k + (decF n k b0 b1 b2 b3).2 ≤ n := by
  unfold decF
  split
  · simp; omega
  split
  · rename_i g; simp at g
    split <;> simp <;> omega
  split
  · rename_i g; simp at g
    split <;> simp <;> omega
  split
  · rename_i g; simp at g
    split <;> simp <;> omega
  · simp; omega
theorem wide (s : ByteArray) (k : Nat) (hk : k < s.size) : 1 ≤ (Utf8.decode s k).2 ∧ k + (Utf8.decode s k).2 ≤ s.size := by
  rw [dec_eq]
  exact F_wide _ _ _ _ _ _ hk
theorem pos_le (s : ByteArray) (n : Nat) (h : pos s n < s.size) : pos s (n + 1) ≤ s.size ∧ pos s n < pos s (n + 1) := by
  have := wide s _ h
  simp only [pos]
  omega
theorem pos_mono (s : ByteArray) (n m : Nat) : pos s n ≤ pos s (n + m) := by
  induction m with
  | zero => exact Nat.le_refl _
  | succ m ih => rw [← Nat.add_assoc]; simp only [pos]; omega
theorem bad_wide {s : ByteArray} {k : Nat} (h : badAt s k) : (Utf8.decode s k).2 = 1 := by rw [badAt] at h; rw [h]
theorem bad_rune {s : ByteArray} {k : Nat} (h : badAt s k) : (Utf8.decode s k).1 = 65533 := by rw [badAt] at h; rw [h]

end Go.Proofs.YtinnnfkhiigjpaaGreat.ut
