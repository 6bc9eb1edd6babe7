/-
  Contracts of the functions on runes and names of XML: whether a number is a rune of XML, whether a byte begins a name or goes on in one, whether a text is a name; of the program and of the specification.
  Contracts of both XmlNameOK functions: whether a text is a name of XML.
  Contracts of impl.goodBytes and of the specification's l05Runes: how far a text is made of runes of XML.
  Contracts of impl.inOneLine and of the specification's l06Line, and of both OneLine functions: a text in one line.
  The specification's l06Line: a text in one line.
-/
import Derived.Test.YtinnnfkhiigjpaaPkag
import Derived.Test.YtinnnfkhiigjpaaRows
import Derived.WalkKit
import Derived.WalkLawsBesides
import Derived.Lib.Strings
import Derived.Test.YtinnnfkhiigjpaaPkac
import Derived.Test.YtinnnfkhiigjpaaPkae
import Derived.Test.YtinnnfkhiigjpaaPkak
import Derived.Test.YtinnnfkhiigjpaaPkah
import Derived.BigRegion
import Derived.Deep.DeepCutAuto
import Derived.Laws.OwnMore

namespace Go.Proofs.Ytinnnfkhiigjpaa.xm
open Go.RowKit
set_option linter.unusedVariables false

/-- A rune of XML. -/
def xr (n : Int) : Bool := decide (n = 9 ∨ n = 10 ∨ n = 13 ∨ (32 ≤ n ∧ n ≠ 65534 ∧ n ≠ 65535 ∧ (n ≤ 55295 ∨ (57344 ≤ n ∧ n ≤ 1114111))))
def letB (c : Int) : Bool := decide (97 ≤ c ∧ c ≤ 122 ∨ 65 ≤ c ∧ c ≤ 90 ∨ c = 95)
def digB (c : Int) : Bool := decide (48 ≤ c ∧ c ≤ 57)
def morB (c : Int) : Bool := decide (48 ≤ c ∧ c ≤ 57 ∨ c = 45 ∨ c = 46 ∨ c = 58)
def gonB (c : Int) : Bool := letB c || morB c

theorem ret_bool {a b : Bool} (h : a = b) : Ending.returned (.bool a) = .returned (.bool b) := by rw [h]
theorem rsz_pos {n : Int} (h : 0 < ut.rsz n) : 0 ≤ n ∧ n ≤ 1114111 ∧ (n < 55296 ∨ 57343 < n) := by
  by_cases g : n < 0 ∨ 1114111 < n ∨ (55296 ≤ n ∧ n ≤ 57343)
  · rw [ut.rsz_no g] at h; omega
  · omega
theorem rsz_zero {n : Int} (h : ¬ 0 < ut.rsz n) : n < 0 ∨ 1114111 < n ∨ (55296 ≤ n ∧ n ≤ 57343) := by
  by_cases g : n < 0 ∨ 1114111 < n ∨ (55296 ≤ n ∧ n ≤ 57343)
  · exact g
  · exfalso; apply h; rw [ut.rsz_yes (by omega) (by omega) (by omega)]; (repeat' split) <;> omega


end Go.Proofs.Ytinnnfkhiigjpaa.xm

namespace Go.Proofs.Ytinnnfkhiigjpaa.xm
open Go.RowKit
set_option linter.unusedVariables false

def gon (c : UInt8) : Bool := gonB (c.toNat : Int)
/-- A list of bytes is a name of XML. -/
def okName (l : List UInt8) : Bool := decide (1 ≤ l.length ∧ l.length ≤ 40) && letB ((l.getD 0 0).toNat : Int) && l.all gon

theorem take_snoc (s : ByteArray) (k : Nat) (h : k < s.size) : s.data.toList.take (k + 1) = s.data.toList.take k ++ [s[k]] := by
  have hl : k < s.data.toList.length := by rw [← Lib.size_eq]; exact h
  rw [List.take_succ_eq_append_getElem hl]
  rfl
theorem take_all (s : ByteArray) (k : Nat) (h : s.size ≤ k) : s.data.toList.take k = s.data.toList := List.take_of_length_le (by rw [← Lib.size_eq]; exact h)
theorem all_step {s : ByteArray} {p : UInt8 → Bool} {k : Nat} (h : k < s.size) (ha : (s.data.toList.take k).all p = true) (hp : p s[k] = true) : (s.data.toList.take (k + 1)).all p = true := by
  rw [take_snoc s k h, List.all_append, ha]; simp [hp]
theorem all_no {s : ByteArray} {p : UInt8 → Bool} {k : Nat} (h : k < s.size) (hp : p s[k] = false) : s.data.toList.all p = false := by
  cases hc : s.data.toList.all p
  · rfl
  · have hm : s[k] ∈ s.data.toList := by
      have hl : k < s.data.toList.length := by rw [← Lib.size_eq]; exact h
      have : s[k] = s.data.toList[k] := rfl
      rw [this]; exact List.getElem_mem hl
    rw [List.all_eq_true.1 hc _ hm] at hp; cases hp
theorem head_at (s : ByteArray) (h : 0 < s.size) : s.data.toList.getD 0 0 = s[0] := by
  have hl : 0 < s.data.toList.length := by rw [← Lib.size_eq]; exact h
  rw [List.getD_eq_getElem?_getD, List.getElem?_eq_getElem hl]
  rfl
theorem no_size {s : ByteArray} (h : s.size = 0 ∨ 40 < s.size) : okName s.data.toList = false := by
  have : ¬ (1 ≤ s.data.toList.length ∧ s.data.toList.length ≤ 40) := by rw [← Lib.size_eq]; omega
  unfold okName; rw [decide_eq_false this]; rfl
theorem no_head {s : ByteArray} (h : 0 < s.size) (hb : letB ((s[0]'h).toNat : Int) = false) : okName s.data.toList = false := by
  unfold okName; rw [head_at s h, hb]; simp
theorem no_byte {s : ByteArray} {k : Nat} (h : k < s.size) (hb : gon s[k] = false) : okName s.data.toList = false := by
  unfold okName; rw [all_no h hb]; simp
theorem yes_name {s : ByteArray} (h0 : 0 < s.size) (h1 : s.size ≤ 40) (hb : letB ((s[0]'h0).toNat : Int) = true) (ha : s.data.toList.all gon = true) : okName s.data.toList = true := by
  have : 1 ≤ s.data.toList.length ∧ s.data.toList.length ≤ 40 := by rw [← Lib.size_eq]; omega
  unfold okName; rw [head_at s h0, hb, ha]; simp only [this]; rfl

end Go.Proofs.Ytinnnfkhiigjpaa.xm

namespace Go.Proofs.Ytinnnfkhiigjpaa.xm
open Go.RowKit
set_option linter.unusedVariables false

theorem F_le (n k b0 b1 b2 b3 : Nat) (h0 : b0 < 256) : (ut.decF n k b0 b1 b2 b3).1 ≤ 1114111 := by
  unfold ut.decF
  split
  · simp; omega
  split
  · split <;> simp <;> omega
  split
  · split <;> simp <;> omega
  split
  · split
    · rename_i g
      simp [Utf8.valid] at g
      simp
      omega
    · simp
  · simp
theorem dec_le (s : ByteArray) (k : Nat) : (Utf8.decode s k).1 ≤ 1114111 := by rw [ut.dec_eq]; exact F_le _ _ _ _ _ _ (UInt8.toNat_lt _)

/-- No rune of XML begins at this place. -/
def xbad (s : ByteArray) (k : Nat) : Prop := ut.badAt s k ∨ xr ((Utf8.decode s k).1 : Int) = false
/-- So far, and no further, a text is made of runes of XML. -/
def GoodTo (s : ByteArray) (g : Nat) : Prop := ∃ n, g = ut.pos s n ∧ g ≤ s.size ∧ (∀ m, m < n → ¬ xbad s (ut.pos s m)) ∧ (g = s.size ∨ (g < s.size ∧ xbad s g))

theorem good_lt {s : ByteArray} {n n' : Nat} (h : ut.pos s n ≤ s.size) (h' : ut.pos s n' ≤ s.size) (hb : ∀ m, m < n' → ¬ xbad s (ut.pos s m)) (he : ut.pos s n = s.size ∨ (ut.pos s n < s.size ∧ xbad s (ut.pos s n))) (hlt : n < n') : ut.pos s n = ut.pos s n' := by
  rcases he with he | ⟨_, he⟩
  · have := ut.pos_mono s n (n' - n)
    rw [show n + (n' - n) = n' from by omega] at this
    omega
  · exact absurd he (hb n hlt)
theorem good_one {s : ByteArray} {g g' : Nat} (h : GoodTo s g) (h' : GoodTo s g') : g = g' := by
  obtain ⟨n, rfl, hs, hb, he⟩ := h
  obtain ⟨n', rfl, hs', hb', he'⟩ := h'
  rcases Nat.lt_trichotomy n n' with hlt | rfl | hlt
  · exact good_lt hs hs' hb' he hlt
  · rfl
  · exact (good_lt hs' hs hb he' hlt).symm
theorem good_step {s : ByteArray} {n : Nat} (hg : ∀ m, m < n → ¬ xbad s (ut.pos s m)) (h : ¬ xbad s (ut.pos s n)) : ∀ m, m < n + 1 → ¬ xbad s (ut.pos s m) := by
  intro m hm
  by_cases e : m = n
  · subst e; exact h
  · exact hg m (by omega)


end Go.Proofs.Ytinnnfkhiigjpaa.xm

namespace Go.Proofs.Ytinnnfkhiigjpaa.li
open Go.RowKit
set_option linter.unusedVariables false

theorem is32 (c : UInt8) : ((c.toNat : Int) == 32) = (c == 32) := by
  rw [Bool.eq_iff_iff]; simp only [beq_iff_eq]
  constructor
  · intro h; exact UInt8.toNat_inj.1 (by have : ((32 : UInt8).toNat : Int) = 32 := rfl; omega)
  · rintro rfl; rfl
def blankB (c : Int) : Bool := decide (c = 9 ∨ c = 10 ∨ c = 13 ∨ c = 32)
theorem blk_int (c : UInt8) : blankB (c.toNat : Int) = blk c := by
  rw [Bool.eq_iff_iff]
  simp [blk, blankB, ← UInt8.toNat_inj]
  omega

/-- The state behind so many bytes. -/
def sk (s : ByteArray) (k : Nat) : List UInt8 × Bool := st (s.data.toList.take k)
theorem sk_step (s : ByteArray) (k : Nat) (h : k < s.size) : sk s (k + 1) = step (sk s k) s[k] := by unfold sk; rw [xm.take_snoc s k h, st_snoc]
theorem sk_all (s : ByteArray) (k : Nat) (h : s.size ≤ k) : (sk s k).1 = line s.data.toList := by unfold sk line; rw [xm.take_all s k h]
theorem sk_len (s : ByteArray) (k : Nat) : (sk s k).1.length ≤ s.size := by
  have h1 := line_len (s.data.toList.take k)
  have h2 : (s.data.toList.take k).length ≤ s.data.toList.length := by rw [List.length_take]; omega
  rw [← Lib.size_eq] at h2
  unfold sk
  unfold line at h1
  omega
theorem sk_spo (s : ByteArray) (k : Nat) : (spo (sk s k)).length ≤ s.size := by
  have h1 := spo_le (s.data.toList.take k)
  have h2 : (s.data.toList.take k).length ≤ s.data.toList.length := by rw [List.length_take]; omega
  rw [← Lib.size_eq] at h2
  unfold sk
  omega
theorem sk_zero (s : ByteArray) : sk s 0 = ([], false) := rfl
theorem sk_prev (s : ByteArray) (k : Nat) (h : k < s.size) : (sk s (k + 1)).2 = blk s[k] := by rw [sk_step s k h, step_prev]

end Go.Proofs.Ytinnnfkhiigjpaa.li

namespace Go.Proofs.Ytinnnfkhiigjpaa.li
open Go.RowKit
set_option linter.unusedVariables false

theorem cell_at {w : World} {base e g n cap : Nat} {l : List UInt8} (h : w.ownsRow base e 1 (.slice (some ⟨g, 0, none⟩) n cap) n (Lib.byteCells l)) (j : Nat) (hj : j < l.length) : w.cell? ⟨g, j, none⟩ = some (.int .u8 ((l.getD j 0).toNat : Int)) := by
  have hl : l.length = n := by have := h.1; rw [Lib.byteCells_length] at this; simpa using this
  rw [h.cellAt j (by omega)]
  simp [Lib.byteCells, List.getD_eq_getElem?_getD, hj]
theorem conv_part {P : Program} {w : World} {src dst e : TypeId} {g cap : Nat} (l : List UInt8) (hs : P.underlying src = some (.slice e)) (he : P.underlying e = some (.int .u8)) (hd : P.underlying dst = some .string)
    (hc : ∀ j, j < l.length → w.cell? ⟨g, j, none⟩ = some (.int .u8 ((l.getD j 0).toNat : Int))) : (convert src dst (.slice (some ⟨g, 0, none⟩) l.length cap)).run P w = .ok (.string ⟨l.toArray⟩) w := by
  refine run_convert_bytes_back w src dst e ⟨g, 0, none⟩ cap l hs he hd (fun j hj => ?_)
  rw [show ((⟨g, 0, none⟩ : Addr).add j) = ⟨g, j, none⟩ from by simp [Addr.add]; omega, hc j hj]
  simp [List.getD_eq_getElem?_getD, hj]

end Go.Proofs.Ytinnnfkhiigjpaa.li
