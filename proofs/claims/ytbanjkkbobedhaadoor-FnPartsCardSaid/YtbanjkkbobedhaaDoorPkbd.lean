/-
  The contracts of the specification's ParseMail and of both MailLines functions.
  The laws' own marks: the text of a number; rows of texts, and of entries, marked, and held against the marks.
  Fields as rows of pairs of texts: read by the law's own measure, copy and comparison.
  The laws' own copy of fields, and their comparison of fields that are the same.
  Rows of fields, marked by the law's own functions, and held against the marks; mails held against one another.
-/
import Derived.Test.YtbanjkkbobedhaaDoorPkbc
import Derived.Test.YtbanjkkbobedhaaDoorPkae
import Derived.Test.YtbanjkkbobedhaaDoorRows
import Derived.WalkKit
import Derived.WalkLawsBesides
import Derived.Below
import Derived.BigRegion
import Derived.Test.YtbanjkkbobedhaaDoorPkas

namespace Go.Proofs.YtbanjkkbobedhaaDoor.ml
open Go.RowKit
set_option linter.unusedVariables false


/-- How many ends of lines a text has. -/
def tens (l : B) : Nat := (l.filter (· == 10)).length
theorem tens_app (a b : B) : tens (a ++ b) = tens a + tens b := by simp [tens]
theorem tens_good {l : B} (h : good l = true) : tens l = 0 := by
  unfold tens
  rw [List.length_eq_zero_iff, List.filter_eq_nil_iff]
  intro c hc h10
  have := good_iff.1 h c hc
  rw [beq_iff_eq] at h10
  subst h10
  cases this
theorem count_tens : ∀ (n : Nat) (l : B), l.length ≤ n → mok 0 l = true → Lib.count l nl = tens l
  | n, l, hn, hm => by
    rcases Lib.index_spec l nl with ⟨h, _⟩ | ⟨i, h, _⟩
    · by_cases h0 : l = []
      · subst h0
        rw [Lib.count_miss h]
        rfl
      · rw [mok_none l 0 h (.inr h0)] at hm
        cases hm
    · have hr := Lib.index_room l nl (by rw [h]; omega)
      rw [h] at hr
      have e2 : nl.length = 2 := rfl
      match n with
      | 0 => omega
      | n + 1 =>
        rw [mok_zero h, Bool.and_eq_true, decide_eq_true_iff] at hm
        have ih := count_tens n (l.drop (i + 2)) (by rw [List.length_drop]; omega) hm.2
        have hc := Lib.count_hit (s := l) (sub := nl) (i := i) (by simp [nl]) h
        have hs : l = l.take i ++ (nl ++ l.drop (i + 2)) := by
          have h1 := List.take_append_drop i l
          have h2 := List.take_append_drop 2 (l.drop i)
          rw [(index_at h).1, List.drop_drop] at h2
          rw [h2, h1]
        rw [hc, show i + nl.length = i + 2 from rfl, ih]
        have : tens l = tens (l.take i ++ (nl ++ l.drop (i + 2))) := by rw [← hs]
        rw [this, tens_app, tens_app, tens_good hm.1.1]
        show _ = 0 + (1 + _)
        omega
theorem tens_take (s : ByteArray) (k : Nat) (h : k < s.size) : tens (s.data.toList.take (k + 1)) = tens (s.data.toList.take k) + (if ((s[k]'h).toNat : Int) = 10 then 1 else 0) := by
  rw [take_snoc s k h, tens_app]
  congr 1
  by_cases e : ((s[k]'h).toNat : Int) = 10
  · rw [if_pos e, is_byte (n := 10) (by decide) e]
    rfl
  · rw [if_neg e]
    unfold tens
    rw [List.length_eq_zero_iff, List.filter_eq_nil_iff]
    intro c hc
    rw [List.mem_singleton] at hc
    subst hc
    intro h10
    rw [beq_iff_eq] at h10
    rw [h10] at e
    exact e rfl
theorem tens_le (l : B) : tens l ≤ l.length := List.length_filter_le _ _
def MlRet (l : B) (e : Ending) : Prop :=
  (65536 < l.length ∧ e = .returned (.tuple #[.int .i64 0, .int .i64 2])) ∨
  (l.length ≤ 65536 ∧ (¬ ∃ fs b, IsMail l fs b) ∧ e = .returned (.tuple #[.int .i64 0, .int .i64 3])) ∨
  (l.length ≤ 65536 ∧ ∃ fs b, IsMail l fs b ∧ e = .returned (.tuple #[.int .i64 (tens b : Nat), .int .i64 0]))
theorem ml_ex {l : B} {e : Ending} (h : MlRet l e) : ∃ a c : Int, e = .returned (.tuple #[.int .i64 a, .int .i64 c]) := by
  rcases h with ⟨_, rfl⟩ | ⟨_, _, rfl⟩ | ⟨_, _, _, _, rfl⟩ <;> exact ⟨_, _, rfl⟩
theorem ml_same {l : B} {a c a' c' : Int} (h : MlRet l (.returned (.tuple #[.int .i64 a, .int .i64 c]))) (h' : MlRet l (.returned (.tuple #[.int .i64 a', .int .i64 c']))) : a = a' ∧ c = c' := by
  rcases h with ⟨x, h⟩ | ⟨x, x2, h⟩ | ⟨x, fs, b, hf, h⟩ <;>
  rcases h' with ⟨y, h'⟩ | ⟨y, y2, h'⟩ | ⟨y, fs', b', hf', h'⟩ <;>
  cases h <;> cases h' <;>
  first | exact ⟨rfl, rfl⟩ | (exfalso; omega) | (exfalso; exact x2 ⟨_, _, hf'⟩) | (exfalso; exact y2 ⟨_, _, hf⟩) | (obtain ⟨rfl, rfl⟩ := isMail_one hf hf'; exact ⟨rfl, rfl⟩)
theorem isMail_body {l b : B} {fs : List (B × B)} (h : IsMail l fs b) (hl : l.length ≤ 65536) : mok 0 b = true ∧ b.length ≤ 65536 := by
  obtain ⟨n, h1, h2⟩ := par_len h.2.1
  refine ⟨par_mok h.2.1 h.1, ?_⟩
  rw [h2, List.length_drop]
  omega
theorem countB_tens (s : ByteArray) (h : mok 0 s.data.toList = true) : Lib.countB s ⟨#[13, 10]⟩ = (tens s.data.toList : Nat) := by
  rw [← count_tens _ s.data.toList (Nat.le_refl _) h]
  rfl
end Go.Proofs.YtbanjkkbobedhaaDoor.ml

namespace Go.Proofs.YtbanjkkbobedhaaDoor.mk
open Go.RowKit
set_option linter.unusedVariables false

theorem conv_part {P : Program} {w : World} {src dst e : TypeId} {g cap : Nat} (l : List UInt8) (hs : P.underlying src = some (.slice e)) (he : P.underlying e = some (.int .u8)) (hd : P.underlying dst = some .string)
    (hc : ∀ j, j < l.length → w.cell? ⟨g, j, none⟩ = some (.int .u8 ((l.getD j 0).toNat : Int))) : (convert src dst (.slice (some ⟨g, 0, none⟩) l.length cap)).run P w = .ok (.string ⟨l.toArray⟩) w := by
  refine run_convert_bytes_back w src dst e ⟨g, 0, none⟩ cap l hs he hd (fun j hj => ?_)
  rw [show ((⟨g, 0, none⟩ : Addr).add j) = ⟨g, j, none⟩ from by simp [Addr.add]; omega, hc j hj]
  simp [List.getD_eq_getElem?_getD, hj]

/-- The digit of a number's last place. -/
def ch (k : Int) : UInt8 := UInt8.ofNat (48 + (k % 10).toNat)
/-- A number's digits ahead of a text. -/
def dgs : Nat → Int → ByteArray → ByteArray
  | 0, _, o => o
  | f + 1, k, o => if k ≤ 0 then o else dgs f (k / 10) (⟨#[ch k]⟩ ++ o)
/-- The mark of a number. -/
def mt (k : Int) : ByteArray := ⟨#[109]⟩ ++ dgs 30 k ⟨#[]⟩
theorem dgs_end {f : Nat} {k : Int} {o : ByteArray} (h : k ≤ 0) : dgs f k o = o := by
  cases f with
  | zero => rfl
  | succ f => simp [dgs, h]
theorem dgs_step {f : Nat} {k : Int} {o : ByteArray} (h : 0 < k) : dgs (f + 1) k o = dgs f (k / 10) (⟨#[ch k]⟩ ++ o) := by
  rw [dgs, if_neg (by omega)]
theorem ch_num (k : Int) (h : 0 ≤ k) : ((ch k).toNat : Int) = 48 + k % 10 := by
  unfold ch
  rw [UInt8.toNat_ofNat']
  omega
theorem fuel_pos {f : Nat} {k : Int} (h : 0 < k) (hf : k < 2 ^ f) : ∃ g, f = g + 1 := by
  cases f with
  | zero => simp at hf; omega
  | succ g => exact ⟨g, rfl⟩
theorem fuel_next {g : Nat} {k : Int} (h : 0 < k) (hf : k < 2 ^ (g + 1)) : k / 10 < 2 ^ g := by
  rw [Int.pow_succ] at hf
  generalize (2 : Int) ^ g = x at hf ⊢
  omega

theorem one_cell (w : World) (c : UInt8) : ∀ i, i < [c].length → (w.alloc (.cells #[.int .u8 (c.toNat : Int)] 5)).cell? ⟨w.heap.size, i, none⟩ = some (.int .u8 (([c].getD i 0).toNat : Int)) := by
  intro i hi
  have : i = 0 := by simpa using hi
  subst this
  exact ow.cell_new w [.int .u8 (c.toNat : Int)] 5 0 _ rfl
end Go.Proofs.YtbanjkkbobedhaaDoor.mk

namespace Go.Proofs.YtbanjkkbobedhaaDoor.fa
open Go.RowKit
set_option linter.unusedVariables false

abbrev Pr := ByteArray × ByteArray
def no : Pr := (⟨#[]⟩, ⟨#[]⟩)
/-- A slice of attributes. -/
def AttrsAt (w : World) (v : Value) (ps : List Pr) : Prop :=
  ∃ a cap, v = .slice a ps.length cap ∧ (ps = [] ∨ ∃ b off, a = some ⟨b, off, none⟩ ∧ ∀ j, j < ps.length → w.cell? ⟨b, off + j * 2, none⟩ = some (.string (ps.getD j no).1) ∧ w.cell? ⟨b, off + j * 2 + 1, none⟩ = some (.string (ps.getD j no).2))
theorem at_below {w w' : World} {v : Value} {ps : List Pr} (h : AttrsAt w v ps) (hb : Below w.heap.size w w') : AttrsAt w' v ps := by
  obtain ⟨a, cap, rfl, h⟩ := h
  refine ⟨a, cap, rfl, ?_⟩
  rcases h with h | ⟨b, off, rfl, h⟩
  · exact .inl h
  · refine .inr ⟨b, off, rfl, fun j hj => ?_⟩
    obtain ⟨h0, h1⟩ := h j hj
    have hl := World.block_lt_of_cell? w _ h0
    exact ⟨(hb.cell (p := ⟨b, off + j * 2, none⟩) hl).trans h0, (hb.cell (p := ⟨b, off + j * 2 + 1, none⟩) hl).trans h1⟩

/-- Attributes of a size that a law takes. -/
def Small (ps : List Pr) : Prop := ps.length ≤ 1048576 ∧ ∀ j, j < ps.length → (ps.getD j no).1.size ≤ 1048576 ∧ (ps.getD j no).2.size ≤ 1048576
def SmallTo (ps : List Pr) (k : Nat) : Prop := ps.length ≤ 1048576 ∧ ∀ j, j < k → (ps.getD j no).1.size ≤ 1048576 ∧ (ps.getD j no).2.size ≤ 1048576

end Go.Proofs.YtbanjkkbobedhaaDoor.fa

namespace Go.Proofs.YtbanjkkbobedhaaDoor.fa
open Go.RowKit
set_option linter.unusedVariables false

theorem infoAt : (Tryd.prog.info? 69).map (fun i => (i.zero, i.size, i.bytes)) = some (some (.agg #[.string ⟨#[]⟩, .string ⟨#[]⟩]), 2, 32) := by kernel_rfl

def Lay (ps : List Pr) (k : Nat) (xs : List Value) : Prop := ∀ j, j < k → xs[j * 2]? = some (.string (ps.getD j no).1) ∧ xs[j * 2 + 1]? = some (.string (ps.getD j no).2)
theorem lay_step {ps : List Pr} {k : Nat} {xs : List Value} (h : Lay ps k xs) (hl : k * 2 + 1 < xs.length) {a b : ByteArray} (ha : (ps.getD k no).1 = a) (hb : (ps.getD k no).2 = b) : Lay ps (k + 1) ((xs.set (k * 2) (.string a)).set (k * 2 + 1) (.string b)) := by
  intro j hj
  by_cases e : j = k
  · subst e
    rw [ha, hb]
    refine ⟨?_, ?_⟩
    · rw [List.getElem?_set_ne (by omega), List.getElem?_set_self (by omega)]
    · rw [List.getElem?_set_self (by rw [List.length_set]; omega)]
  · obtain ⟨h0, h1⟩ := h j (by omega)
    refine ⟨?_, ?_⟩
    · rw [List.getElem?_set_ne (by omega), List.getElem?_set_ne (by omega)]; exact h0
    · rw [List.getElem?_set_ne (by omega), List.getElem?_set_ne (by omega)]; exact h1
theorem attrs_lay {w : World} {base e g n cap : Nat} {ps : List Pr} {xs : List Value} (hn : n = ps.length) (h : w.ownsRow base e 2 (.slice (some ⟨g, 0, none⟩) n cap) n xs) (hl : Lay ps n xs) : AttrsAt w (.slice (some ⟨g, 0, none⟩) n cap) ps := by
  subst hn
  refine ⟨_, cap, rfl, .inr ⟨g, 0, rfl, fun j hj => ?_⟩⟩
  obtain ⟨h0, h1⟩ := hl j hj
  refine ⟨?_, ?_⟩
  · rw [Nat.zero_add, h.cellAt (j * 2) (by omega), h0]
  · rw [Nat.zero_add, h.cellAt (j * 2 + 1) (by omega), h1]

open gr


end Go.Proofs.YtbanjkkbobedhaaDoor.fa

namespace Go.Proofs.YtbanjkkbobedhaaDoor.mk
open Go.RowKit
open gr fa
set_option linter.unusedVariables false

/-- So many marks, from a number on. -/
def marks (k : Int) (n : Nat) : List Value := (List.range n).map fun (i : Nat) => Value.string (mt (k + (i : Int)))
theorem marks_len (k : Int) (n : Nat) : (marks k n).length = n := by simp [marks]
theorem marks_get {k : Int} {n j : Nat} (h : j < n) : (marks k n)[j]? = some (.string (mt (k + (j : Int)))) := by simp [marks, h]
theorem grown_set (w : World) (g j : Nat) (u : Value) : w.grownBy (w.setCell ⟨g, j, none⟩ u) (some g) :=
  ⟨rfl, rfl, rfl, by simp [World.setCell], fun i hi hr => heap_setCell_other w ⟨g, j, none⟩ i u (fun e => hr (by rw [e]))⟩
def Upto (k : Int) (j : Nat) (xs : List Value) : Prop := ∀ i, i < j → xs[i]? = some (.string (mt (k + (i : Int))))
theorem upto_step {k : Int} {j : Nat} {xs : List Value} (h : Upto k j xs) (hl : j < xs.length) : Upto k (j + 1) (xs.set j (.string (mt (k + (j : Int))))) := by
  intro i hi
  by_cases e : i = j
  · subst e; rw [List.getElem?_set_self hl]
  · rw [List.getElem?_set_ne (by omega)]; exact h i (by omega)
theorem upto_all {k : Int} {n : Nat} {xs : List Value} (h : Upto k n xs) (hl : xs.length = n) : xs = marks k n := by
  refine List.ext_getElem? fun i => ?_
  by_cases hi : i < n
  · rw [h i hi, marks_get hi]
  · rw [List.getElem?_eq_none (by omega), List.getElem?_eq_none (by rw [marks_len]; omega)]


end Go.Proofs.YtbanjkkbobedhaaDoor.mk
