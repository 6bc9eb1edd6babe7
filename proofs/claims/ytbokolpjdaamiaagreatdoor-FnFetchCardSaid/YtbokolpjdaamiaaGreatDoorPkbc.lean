/-
  The laws' own copy of fields, and their comparison of fields that are the same.
  Rows of fields, marked by the law's own functions, and held against the marks; mails held against one another.
  Mails held against one another and marked by the law's own functions; the program's ParseMail.
  The contracts of both MailPart functions.
  The contracts of both MailPart functions, and of the program's ParseMail.
-/
import Derived.Test.YtbokolpjdaamiaaGreatDoorPkbb
import Derived.BigRegion
import Derived.Test.YtbokolpjdaamiaaGreatDoorPkas

namespace Go.Proofs.YtbokolpjdaamiaaGreatDoor.fa
open Go.RowKit
set_option linter.unusedVariables false

theorem infoAt : (Tryz.prog.info? 123).map (fun i => (i.zero, i.size, i.bytes)) = some (some (.agg #[.string ⟨#[]⟩, .string ⟨#[]⟩]), 2, 32) := by kernel_rfl

def Lay (ps : List Pr) (k : Nat) (xs : List Value) : Prop := ∀ j, j < k → xs[j * 2]? = some (.string (ps.getD j no).1) ∧ xs[j * 2 + 1]? = some (.string (ps.getD j no).2)
theorem lay_step {ps : List Pr} {k : Nat} {xs : List Value} (h : Lay ps k xs) (hl : k * 2 + 1 < xs.length) {a b : ByteArray} (ha : (ps.getD k no).1 = a) (hb : (ps.getD k no).2 = b) : Lay ps (k + 1) ((xs.set (k * 2) (.string a)).set (k * 2 + 1) (.string b)) := by
  intro j hj
  by_cases e : j = k
  · subst e
    rw [ha, hb]
    refine ⟨?_, ?_⟩
    · rw [List.getElem?_set_ne (by omega), List.getElem?_set_self (by omega)]
    · rw [List.getElem?_set_self (by rw [List.length_set]; omega)]
  · obtain ⟨h0, h1⟩ := h j (by omega)
    refine ⟨?_, ?_⟩
    · rw [List.getElem?_set_ne (by omega), List.getElem?_set_ne (by omega)]; exact h0
    · rw [List.getElem?_set_ne (by omega), List.getElem?_set_ne (by omega)]; exact h1
theorem attrs_lay {w : World} {base e g n cap : Nat} {ps : List Pr} {xs : List Value} (hn : n = ps.length) (h : w.ownsRow base e 2 (.slice (some ⟨g, 0, none⟩) n cap) n xs) (hl : Lay ps n xs) : AttrsAt w (.slice (some ⟨g, 0, none⟩) n cap) ps := by
  subst hn
  refine ⟨_, cap, rfl, .inr ⟨g, 0, rfl, fun j hj => ?_⟩⟩
  obtain ⟨h0, h1⟩ := hl j hj
  refine ⟨?_, ?_⟩
  · rw [Nat.zero_add, h.cellAt (j * 2) (by omega), h0]
  · rw [Nat.zero_add, h.cellAt (j * 2 + 1) (by omega), h1]

open gr


end Go.Proofs.YtbokolpjdaamiaaGreatDoor.fa

namespace Go.Proofs.YtbokolpjdaamiaaGreatDoor.mk
open Go.RowKit
open gr fa
set_option linter.unusedVariables false

/-- So many marks, from a number on. -/
def marks (k : Int) (n : Nat) : List Value := (List.range n).map fun (i : Nat) => Value.string (mt (k + (i : Int)))
theorem marks_len (k : Int) (n : Nat) : (marks k n).length = n := by simp [marks]
theorem marks_get {k : Int} {n j : Nat} (h : j < n) : (marks k n)[j]? = some (.string (mt (k + (j : Int)))) := by simp [marks, h]
theorem grown_set (w : World) (g j : Nat) (u : Value) : w.grownBy (w.setCell ⟨g, j, none⟩ u) (some g) :=
  ⟨rfl, rfl, rfl, by simp [World.setCell], fun i hi hr => heap_setCell_other w ⟨g, j, none⟩ i u (fun e => hr (by rw [e]))⟩
def Upto (k : Int) (j : Nat) (xs : List Value) : Prop := ∀ i, i < j → xs[i]? = some (.string (mt (k + (i : Int))))
theorem upto_step {k : Int} {j : Nat} {xs : List Value} (h : Upto k j xs) (hl : j < xs.length) : Upto k (j + 1) (xs.set j (.string (mt (k + (j : Int))))) := by
  intro i hi
  by_cases e : i = j
  · subst e; rw [List.getElem?_set_self hl]
  · rw [List.getElem?_set_ne (by omega)]; exact h i (by omega)
theorem upto_all {k : Int} {n : Nat} {xs : List Value} (h : Upto k n xs) (hl : xs.length = n) : xs = marks k n := by
  refine List.ext_getElem? fun i => ?_
  by_cases hi : i < n
  · rw [h i hi, marks_get hi]
  · rw [List.getElem?_eq_none (by omega), List.getElem?_eq_none (by rw [marks_len]; omega)]


end Go.Proofs.YtbokolpjdaamiaaGreatDoor.mk

namespace Go.Proofs.YtbokolpjdaamiaaGreatDoor.ml
open Go.RowKit
open fa
set_option linter.unusedVariables false

/-- Fields as pairs of texts. -/
def prs (fs : List (B × B)) : List Pr := fs.map fun x => (⟨x.1.toArray⟩, ⟨x.2.toArray⟩)
theorem prs_len (fs : List (B × B)) : (prs fs).length = fs.length := by simp [prs]
theorem fcells_at : ∀ (fs : List (B × B)) (j : Nat), j < fs.length → (fcells fs)[j * 2]? = some (.string ((prs fs).getD j no).1) ∧ (fcells fs)[j * 2 + 1]? = some (.string ((prs fs).getD j no).2)
  | [], j, h => absurd h (Nat.not_lt_zero _)
  | x :: fs, 0, h => ⟨rfl, rfl⟩
  | x :: fs, j + 1, h => by
    have ih := fcells_at fs j (by simpa using h)
    rw [show (j + 1) * 2 = j * 2 + 1 + 1 from by omega]
    simpa [fcells, prs] using ih
theorem fields_attrs {w : World} {base : Nat} {v : Value} {fs : List (B × B)} (h : FieldsAt w base v fs) : AttrsAt w v (prs fs) := by
  rcases h.2 with ⟨rfl, h0⟩ | ⟨g, cap, cur, rfl, _⟩
  · refine ⟨none, 0, by rw [prs_len, h0], .inl ?_⟩
    rw [List.eq_nil_of_length_eq_zero h0]
    rfl
  · refine ⟨_, cap, by rw [prs_len], .inr ⟨g, 0, rfl, fun j hj => ?_⟩⟩
    rw [prs_len] at hj
    obtain ⟨h1, h2⟩ := fcells_at fs j hj
    rw [Nat.zero_add, h.cellAt _ (by omega), h.cellAt _ (by omega)]
    exact ⟨h1, h2⟩

/-- What both ParseMail functions answer, as the law reads it: fields, a body, a code. -/
def PmIs (l : B) (fs : List (B × B)) (b : B) (c : Int) : Prop :=
  (65536 < l.length ∧ fs = [] ∧ b = [] ∧ c = 2) ∨ (l.length ≤ 65536 ∧ (¬ ∃ fs b, IsMail l fs b) ∧ fs = [] ∧ b = [] ∧ c = 3) ∨ (l.length ≤ 65536 ∧ IsMail l fs b ∧ c = 0)
theorem pm_of {l : B} {base : Nat} {e : Ending} {w : World} (h : RlRet l base e w) : ∃ fs b v c, PmIs l fs b c ∧ e = .returned (.tuple #[.agg #[v, tv b], .int .i64 c]) ∧ FieldsAt w base v fs ∧ fs.length ≤ 1048576 := by
  rcases h with ⟨hl, rfl⟩ | ⟨hl, hno, rfl⟩ | ⟨hl, fs, b, v, hm, rfl, hfa⟩
  · exact ⟨[], [], .slice none 0 0, 2, .inl ⟨hl, rfl, rfl, rfl⟩, rfl, fields_nil _ _, by simp⟩
  · exact ⟨[], [], .slice none 0 0, 3, .inr (.inl ⟨hl, hno, rfl, rfl, rfl⟩), rfl, fields_nil _ _, by simp⟩
  · exact ⟨fs, b, v, 0, .inr (.inr ⟨hl, hm, rfl⟩), rfl, hfa, by have := hm.2.2; omega⟩
theorem pm_one {l : B} {fs fs' : List (B × B)} {b b' : B} {c c' : Int} (h : PmIs l fs b c) (h' : PmIs l fs' b' c') : fs = fs' ∧ b = b' ∧ c = c' := by
  rcases h with ⟨x, rfl, rfl, rfl⟩ | ⟨x, x2, rfl, rfl, rfl⟩ | ⟨x, hf, rfl⟩ <;>
  rcases h' with ⟨y, rfl, rfl, rfl⟩ | ⟨y, y2, rfl, rfl, rfl⟩ | ⟨y, hf', rfl⟩ <;>
  first | exact ⟨rfl, rfl, rfl⟩ | (exfalso; omega) | (exfalso; exact x2 ⟨_, _, hf'⟩) | (exfalso; exact y2 ⟨_, _, hf⟩) | (obtain ⟨rfl, rfl⟩ := isMail_one hf hf'; exact ⟨rfl, rfl, rfl⟩)
end Go.Proofs.YtbokolpjdaamiaaGreatDoor.ml

namespace Go.Proofs.YtbokolpjdaamiaaGreatDoor.ml
open Go.RowKit
set_option linter.unusedVariables false

def hdr : B := [72, 69, 65, 68, 69, 82]
def txt : B := [84, 69, 88, 84]
/-- The part of a mail that is asked for. -/
def partOf (l p b : B) : B := if p = [] then l else if p = hdr then l.take (l.length - b.length) else b
def MpRet (l p : B) (e : Ending) : Prop :=
  ((65536 < l.length ∨ 65536 < p.length) ∧ e = .returned (.tuple #[.string ⟨#[]⟩, .int .i64 2])) ∨
  (l.length ≤ 65536 ∧ p.length ≤ 65536 ∧ ¬ (p = [] ∨ p = hdr ∨ p = txt) ∧ e = .returned (.tuple #[.string ⟨#[]⟩, .int .i64 1])) ∨
  (l.length ≤ 65536 ∧ p.length ≤ 65536 ∧ (p = [] ∨ p = hdr ∨ p = txt) ∧ (¬ ∃ fs b, IsMail l fs b) ∧ e = .returned (.tuple #[.string ⟨#[]⟩, .int .i64 3])) ∨
  (l.length ≤ 65536 ∧ p.length ≤ 65536 ∧ (p = [] ∨ p = hdr ∨ p = txt) ∧ ∃ fs b, IsMail l fs b ∧ e = .returned (.tuple #[tv (partOf l p b), .int .i64 0]))
theorem mp_ex {l p : B} {e : Ending} (h : MpRet l p e) : ∃ (a : ByteArray) (c : Int), e = .returned (.tuple #[.string a, .int .i64 c]) := by
  rcases h with ⟨_, rfl⟩ | ⟨_, _, _, rfl⟩ | ⟨_, _, _, _, rfl⟩ | ⟨_, _, _, _, _, _, rfl⟩ <;> exact ⟨_, _, rfl⟩
theorem mp_same {l p : B} {a a' : ByteArray} {c c' : Int} (h : MpRet l p (.returned (.tuple #[.string a, .int .i64 c]))) (h' : MpRet l p (.returned (.tuple #[.string a', .int .i64 c']))) : a = a' ∧ c = c' := by
  rcases h with ⟨x, h⟩ | ⟨x, x1, x2, h⟩ | ⟨x, x1, x2, x3, h⟩ | ⟨x, x1, x2, fs, b, hf, h⟩ <;>
  rcases h' with ⟨y, h'⟩ | ⟨y, y1, y2, h'⟩ | ⟨y, y1, y2, y3, h'⟩ | ⟨y, y1, y2, fs', b', hf', h'⟩ <;>
  cases h <;> cases h' <;>
  first | exact ⟨rfl, rfl⟩ | (exfalso; omega) | (exfalso; exact x2 y2) | (exfalso; exact y2 x2) | (exfalso; exact x3 ⟨_, _, hf'⟩) | (exfalso; exact y3 ⟨_, _, hf⟩) | (obtain ⟨rfl, rfl⟩ := isMail_one hf hf'; exact ⟨rfl, rfl⟩)
theorem tl_beq (P : ByteArray) (x : B) : (P.toList == x) = decide (P.data.toList = x) := by
  rw [Lib.toList_data, Bool.eq_iff_iff, beq_iff_eq, decide_eq_true_iff]
theorem tl_empty (P : ByteArray) : P.toList.isEmpty = decide (P.data.toList = []) := by
  rw [Lib.toList_data, Bool.eq_iff_iff, List.isEmpty_iff, decide_eq_true_iff]
/-- The four ways in which a part can be asked for, as the walk meets them. -/
theorem part_cases (P : ByteArray) :
    (P.data.toList = [] ∧ P.toList.isEmpty = true ∧ (P.toList == [72, 69, 65, 68, 69, 82]) = false ∧ (P.toList == [84, 69, 88, 84]) = false) ∨
    (P.data.toList = hdr ∧ P.toList.isEmpty = false ∧ (P.toList == [72, 69, 65, 68, 69, 82]) = true ∧ (P.toList == [84, 69, 88, 84]) = false) ∨
    (P.data.toList = txt ∧ P.toList.isEmpty = false ∧ (P.toList == [72, 69, 65, 68, 69, 82]) = false ∧ (P.toList == [84, 69, 88, 84]) = true) ∨
    (¬ (P.data.toList = [] ∨ P.data.toList = hdr ∨ P.data.toList = txt) ∧ P.toList.isEmpty = false ∧ (P.toList == [72, 69, 65, 68, 69, 82]) = false ∧ (P.toList == [84, 69, 88, 84]) = false) := by
  rw [tl_beq, tl_beq, tl_empty]
  by_cases h1 : P.data.toList = []
  · left; rw [h1]; decide
  by_cases h2 : P.data.toList = hdr
  · right; left; rw [h2]; decide
  by_cases h3 : P.data.toList = txt
  · right; right; left; rw [h3]; decide
  · right; right; right
    exact ⟨fun h => by rcases h with h | h | h; exact h1 h; exact h2 h; exact h3 h, decide_eq_false h1, decide_eq_false h2, decide_eq_false h3⟩

def WhRet (l : B) (e : Ending) : Prop :=
  ((¬ ∃ fs b, IsMail l fs b) ∧ e = .returned (.tuple #[noMV, .bool false])) ∨
  (∃ fs b a n c, IsMail l fs b ∧ e = .returned (.tuple #[MV (.slice a n c) b, .bool true]))
set_option maxHeartbeats 4000000 in
set_option maxRecDepth 100000 in
theorem specWhole_any (s : ByteArray) (w : World) (hs : s.size ≤ 65536) :
    Calls Tryz.prog 71 #[.string s] w fun e w' => WhRet s.data.toList e ∧ Below w.heap.size w w' := by
  have HOK : Hid (∀ W, Calls Tryz.prog 88 #[.string s] W fun e w' => e = .returned (.bool (mok 0 s.data.toList)) ∧ w' = W) := fun W => by
    have := spec_mok s W (by unfold maxLen; omega)
    rwa [decide_eq_true hs, Bool.true_and] at this
  go_enter Tryz.func71, Tryz.ntmps71
  go_wp2_with fail
  generalize hW0 : World.alloc _ _ = W0
  have HL0 : Hid (b2.Box W0 w.heap.size 100 (.slice none 0 0) (.string ⟨#[]⟩)) := (show b2.Box _ _ _ _ _ by rw [← hW0]; exact b2.new _ _ _ _)
  have HB0 : Hid (Below w.heap.size w W0) := (show Below _ _ _ by rw [← hW0]; exact (Below.refl _ w).alloc (Nat.le_refl _) _)
  clear hW0
  refine (specParse_any s W0 (by omega)).mono ?_
  rintro e w2 ⟨hr, hb2⟩
  have hz : w.heap.size ≤ W0.heap.size := HB0.out.size
  have HB2 : Hid (Below w.heap.size w w2) := HB0.out.trans (hb2.mono hz)
  have HL2 : Hid (b2.Box w2 w.heap.size 100 (.slice none 0 0) (.string ⟨#[]⟩)) := HL0.out.below hb2
  clear hb2 HB0 HL0
  rcases hr with ⟨fs, b, v, hpar, hfl, rfl, hfa⟩ | ⟨hno, a, n, c, b, rfl⟩
  · obtain ⟨a, cap, rfl⟩ := fields_form hfa
    clear hfa
    unfold MV
    obtain ⟨T, hT⟩ : ∃ T : ByteArray, T = ⟨b.toArray⟩ := ⟨_, rfl⟩
    have htb : tv b = .string T := by rw [hT]; rfl
    rw [htb]
    have HTB : Hid (tv b = .string T) := htb
    clear hT htb
    have HIS : Hid (mok 0 s.data.toList = true → IsMail s.data.toList fs b) := fun h => ⟨h, hpar, hfl⟩
    clear hpar hfl
    generalize hln : fs.length = ln at *
    have L3 : b2.Box (w2.alloc (.cells #[.slice a ln cap, .string T] 100)) w.heap.size 100 (.slice none 0 0) (.string ⟨#[]⟩) := HL2.out.below ((Below.refl _ _).alloc (Nat.le_refl _) _)
    have c0 := L3.c0
    have c1 := L3.c1
    have f0 := L3.f 0
    have f1 := L3.f 1
    have HL3 : Hid (b2.Box (w2.alloc (.cells #[.slice a ln cap, .string T] 100)) w.heap.size 100 (.slice none 0 0) (.string ⟨#[]⟩)) := L3
    have HB3 : Hid (Below w.heap.size w (w2.alloc (.cells #[.slice a ln cap, .string T] 100))) := HB2.out.alloc HB2.out.size _
    clear L3
    cases hmk : mok 0 s.data.toList with
    | true =>
      have HI : Hid (IsMail s.data.toList fs b) := HIS.out hmk
      have HO1 : Hid (∀ W, Calls Tryz.prog 88 #[.string s] W fun e w' => e = .returned (.bool true) ∧ w' = W) := fun W => by have := HOK.out W; rwa [hmk] at this
      clear hmk HIS HOK
      go_wp2_with (go_at_call 88; refine (HO1.out _).mono ?_; rintro e w' ⟨rfl, rfl⟩)
      have L4 := HL3.out.put (a' := .slice a ln cap) (b' := .string T)
      have b4 := b2.put_below (a := .slice a ln cap) (b := .string T) HB3.out (Nat.le_refl _)
      clear c0 c1 f0 f1
      unfold b2.put at L4 b4
      generalize hX : World.setCell _ _ _ = X at L4 b4 ⊢
      clear hX
      have c0 := L4.c0
      have c1 := L4.c1
      refine bodyPost_ret (v := .tuple #[MV (.slice a ln cap) b, .bool true]) (by simp [results, Tryz.results71, go_sem, MV, HTB.out, c0, c1]) rfl ⟨.inr ⟨fs, b, _, _, _, HI.out, rfl⟩, b4⟩
    | false =>
      have HN : Hid (¬ ∃ fs b, IsMail s.data.toList fs b) := (show ¬ _ from fun ⟨fs, b, h⟩ => by have := h.1; rw [hmk] at this; cases this)
      have HO1 : Hid (∀ W, Calls Tryz.prog 88 #[.string s] W fun e w' => e = .returned (.bool false) ∧ w' = W) := fun W => by have := HOK.out W; rwa [hmk] at this
      clear hmk HIS HOK
      go_wp2_with (go_at_call 88; refine (HO1.out _).mono ?_; rintro e w' ⟨rfl, rfl⟩)
      have L4 := HL3.out.put (a' := .slice none 0 0) (b' := .string ⟨#[]⟩)
      have b4 := b2.put_below (a := .slice none 0 0) (b := .string ⟨#[]⟩) HB3.out (Nat.le_refl _)
      clear c0 c1 f0 f1
      unfold b2.put at L4 b4
      generalize hX : World.setCell _ _ _ = X at L4 b4 ⊢
      clear hX
      have c0 := L4.c0
      have c1 := L4.c1
      refine bodyPost_ret (v := .tuple #[noMV, .bool false]) (by simp [results, Tryz.results71, go_sem, noMV, c0, c1]) rfl ⟨.inl ⟨HN.out, rfl⟩, b4⟩
  · have HN : Hid (¬ ∃ fs b, IsMail s.data.toList fs b) := (show ¬ _ from fun ⟨fs, b, h⟩ => hno ⟨fs, b, h.2.1, h.2.2⟩)
    clear hno HOK
    have L3 : b2.Box (w2.alloc (.cells #[.slice a n c, .string b] 100)) w.heap.size 100 (.slice none 0 0) (.string ⟨#[]⟩) := HL2.out.below ((Below.refl _ _).alloc (Nat.le_refl _) _)
    have c0 := L3.c0
    have c1 := L3.c1
    have f0 := L3.f 0
    have f1 := L3.f 1
    have HL3 : Hid (b2.Box (w2.alloc (.cells #[.slice a n c, .string b] 100)) w.heap.size 100 (.slice none 0 0) (.string ⟨#[]⟩)) := L3
    have HB3 : Hid (Below w.heap.size w (w2.alloc (.cells #[.slice a n c, .string b] 100))) := HB2.out.alloc HB2.out.size _
    clear L3
    go_wp2
    have L4 := HL3.out.put (a' := .slice none 0 0) (b' := .string ⟨#[]⟩)
    have b4 := b2.put_below (a := .slice none 0 0) (b := .string ⟨#[]⟩) HB3.out (Nat.le_refl _)
    clear c0 c1 f0 f1
    unfold b2.put at L4 b4
    generalize hX : World.setCell _ _ _ = X at L4 b4 ⊢
    clear hX
    have c0 := L4.c0
    have c1 := L4.c1
    refine bodyPost_ret (v := .tuple #[noMV, .bool false]) (by simp [results, Tryz.results71, go_sem, noMV, c0, c1]) rfl ⟨.inl ⟨HN.out, rfl⟩, b4⟩
/-- What the specification's part answers to a part that is one. -/
def PtRet (l p : B) (e : Ending) : Prop :=
  ((¬ ∃ fs b, IsMail l fs b) ∧ e = .returned (.tuple #[.string ⟨#[]⟩, .bool false])) ∨
  (∃ fs b, IsMail l fs b ∧ e = .returned (.tuple #[tv (partOf l p b), .bool true]))
theorem tv_front (s : ByteArray) (n : Nat) : tv (s.data.toList.take n) = .string (s.extract 0 n) := by
  unfold tv
  rw [← ext_front, ← mk_list]
theorem tv_all (s : ByteArray) : tv s.data.toList = .string s := by
  unfold tv
  rw [← mk_list]
set_option maxHeartbeats 4000000 in
set_option maxRecDepth 100000 in
theorem specPt_any (s p : ByteArray) (w : World) (hs : s.size ≤ 65536) (hp : p.data.toList = [] ∨ p.data.toList = hdr ∨ p.data.toList = txt) :
    Calls Tryz.prog 43 #[.string s, .string p] w fun e w' => PtRet s.data.toList p.data.toList e ∧ Below w.heap.size w w' := by
  have HPC := part_cases p
  go_enter Tryz.func43, Tryz.ntmps43
  go_wp2_with fail
  refine (specWhole_any s w hs).mono ?_
  rintro e w1 ⟨hr, hb1⟩
  have HB1 : Hid (Below w.heap.size w w1) := hb1
  clear hb1
  rcases hr with ⟨hno, rfl⟩ | ⟨fs, b, a, n, c, hmail, rfl⟩
  · have HNO : Hid (¬ ∃ fs b, IsMail s.data.toList fs b) := hno
    clear hno HPC
    unfold noMV
    go_wp2
    go_ret2
    exact ⟨.inl ⟨HNO.out, rfl⟩, HB1.out.alloc HB1.out.size _⟩
  · have hbl := (isMail_body hmail (by rw [← Lib.size_eq]; exact hs)).2
    obtain ⟨k, hk1, hk2⟩ := par_len hmail.2.1
    have HMA : Hid (IsMail s.data.toList fs b) := hmail
    clear hmail
    unfold MV
    obtain ⟨T, hT⟩ : ∃ T : ByteArray, T = ⟨b.toArray⟩ := ⟨_, rfl⟩
    have htb : tv b = .string T := by rw [hT]; rfl
    have hTl : T.size = b.length := by rw [Lib.size_eq, hT]
    have hTs : T.size ≤ s.size := by rw [hTl, hk2, List.length_drop, Lib.size_eq]; omega
    have HLE : Hid (s.data.toList.length - b.length = s.size - T.size) := (show _ = _ by rw [hTl, Lib.size_eq])
    rw [htb]
    have HTB : Hid (tv b = .string T) := htb
    clear hT htb hTl hk1 hk2 hbl
    have hTs' : (T.size : Int) ≤ (s.size : Int) := by omega
    have hsub : (0 : Int) ≤ (s.size : Int) - (T.size : Int) := by omega
    rcases HPC with ⟨q0, q1, q2, q3⟩ | ⟨q0, q1, q2, q3⟩ | ⟨q0, q1, q2, q3⟩ | ⟨q0, _⟩
    · have HQ : Hid (tv (partOf s.data.toList p.data.toList b) = .string s) := (show _ = _ by rw [q0, partOf, if_pos rfl, tv_all])
      clear q0 hp
      go_wp2
      go_ret2
      exact ⟨.inr ⟨fs, b, HMA.out, by rw [HQ.out]; rfl⟩, HB1.out.alloc HB1.out.size _⟩
    · have HQ : Hid (tv (partOf s.data.toList p.data.toList b) = .string (s.extract 0 (s.size - T.size))) := (show _ = _ by rw [q0, partOf, if_neg (by decide), if_pos rfl, tv_front, HLE.out])
      clear q0 hp
      go_wp2
      go_ret2
      exact ⟨.inr ⟨fs, b, HMA.out, by rw [HQ.out]; rfl⟩, HB1.out.alloc HB1.out.size _⟩
    · have HQ : Hid (tv (partOf s.data.toList p.data.toList b) = .string T) := (show _ = _ by rw [q0, partOf, if_neg (by decide), if_neg (by decide), HTB.out])
      clear q0 hp
      go_wp2
      go_ret2
      exact ⟨.inr ⟨fs, b, HMA.out, by rw [HQ.out]; rfl⟩, HB1.out.alloc HB1.out.size _⟩
    · exact absurd hp q0
end Go.Proofs.YtbokolpjdaamiaaGreatDoor.ml

namespace Go.Proofs.YtbokolpjdaamiaaGreatDoor.ml
open Go.RowKit
set_option linter.unusedVariables false


set_option maxHeartbeats 1000000 in
set_option maxRecDepth 100000 in
theorem isPart_any (p : ByteArray) (w : World) : Calls Tryz.prog 62 #[.string p] w fun e w' => (∃ b : Bool, e = .returned (.bool b) ∧ (b = true ↔ (p.data.toList = [] ∨ p.data.toList = hdr ∨ p.data.toList = txt))) ∧ w' = w := by
  rcases part_cases p with ⟨q0, q1, q2, q3⟩ | ⟨q0, q1, q2, q3⟩ | ⟨q0, q1, q2, q3⟩ | ⟨q0, q1, q2, q3⟩
  · have H0 : Hid (p.data.toList = []) := q0
    clear q0
    go_enter Tryz.func62, Tryz.ntmps62
    go_wp2
    go_ret
    exact ⟨⟨_, rfl, fun _ => .inl H0.out, fun _ => by simp⟩, rfl⟩
  · have H0 : Hid (p.data.toList = hdr) := q0
    clear q0
    go_enter Tryz.func62, Tryz.ntmps62
    go_wp2
    go_ret
    exact ⟨⟨_, rfl, fun _ => .inr (.inl H0.out), fun _ => by simp⟩, rfl⟩
  · have H0 : Hid (p.data.toList = txt) := q0
    clear q0
    go_enter Tryz.func62, Tryz.ntmps62
    go_wp2
    go_ret
    exact ⟨⟨_, rfl, fun _ => .inr (.inr H0.out), fun _ => by simp⟩, rfl⟩
  · have H0 : Hid (¬ (p.data.toList = [] ∨ p.data.toList = hdr ∨ p.data.toList = txt)) := q0
    clear q0
    go_enter Tryz.func62, Tryz.ntmps62
    go_wp2
    go_ret
    exact ⟨⟨_, rfl, fun e => by simp at e, fun e => absurd e H0.out⟩, rfl⟩
set_option maxHeartbeats 8000000 in
set_option maxRecDepth 100000 in
theorem implPart_any (s p : ByteArray) (w : World) (m : Int) (hm : w.cell? ⟨1, 0, none⟩ = some (.int .i64 m)) (hs : s.size ≤ 1048576) (hp : p.size ≤ 1048576) :
    Calls Tryz.prog 65 #[.string s, .string p] w fun e w' => MpRet s.data.toList p.data.toList e ∧ Below w.heap.size w w' := by
  have HRL := readLetter_any s w m hm hs
  clear hm
  by_cases hl : s.size ≤ 65536
  case neg =>
    have hl' : (65536 : Int) < (s.size : Int) := by omega
    have hd : decide ((65536 : Int) < (s.size : Int)) = true := decide_eq_true hl'
    clear HRL
    go_enter Tryz.func65, Tryz.ntmps65
    go_wp2
    go_ret2
    exact ⟨.inl ⟨.inl (by rw [← Lib.size_eq]; omega), rfl⟩, Below.refl _ _⟩
  have hd : decide ((65536 : Int) < (s.size : Int)) = false := decide_eq_false (by omega)
  by_cases hl2 : p.size ≤ 65536
  case neg =>
    have hl' : (65536 : Int) < (p.size : Int) := by omega
    have hd2 : decide ((65536 : Int) < (p.size : Int)) = true := decide_eq_true hl'
    clear HRL
    go_enter Tryz.func65, Tryz.ntmps65
    go_wp2
    go_ret2
    exact ⟨.inl ⟨.inr (by rw [← Lib.size_eq]; omega), rfl⟩, Below.refl _ _⟩
  have hd2 : decide ((65536 : Int) < (p.size : Int)) = false := decide_eq_false (by omega)
  have HL : Hid (s.data.toList.length ≤ 65536 ∧ p.data.toList.length ≤ 65536) := (show _ ∧ _ by rw [← Lib.size_eq, ← Lib.size_eq]; exact ⟨hl, hl2⟩)
  have HPC := part_cases p
  by_cases hin : p.data.toList = [] ∨ p.data.toList = hdr ∨ p.data.toList = txt
  case neg =>
    rcases HPC with ⟨q0, _⟩ | ⟨q0, _⟩ | ⟨q0, _⟩ | ⟨q0, q1, q2, q3⟩
    · exact absurd (.inl q0) hin
    · exact absurd (.inr (.inl q0)) hin
    · exact absurd (.inr (.inr q0)) hin
    · have HN : Hid (¬ (p.data.toList = [] ∨ p.data.toList = hdr ∨ p.data.toList = txt)) := q0
      clear q0 hin HRL
      go_enter Tryz.func65, Tryz.ntmps65
      go_wp2_with (go_at_call 62; refine (isPart_any p _).mono ?_; rintro e w' ⟨⟨bb, rfl, hbb⟩, rfl⟩; obtain rfl : bb = false := Bool.eq_false_iff.2 (fun y => HN.out (hbb.1 y)); clear hbb)
      go_ret2
      exact ⟨.inr (.inl ⟨HL.out.1, HL.out.2, HN.out, rfl⟩), Below.refl _ _⟩
  have HIN : Hid (p.data.toList = [] ∨ p.data.toList = hdr ∨ p.data.toList = txt) := hin
  have HPE : Hid (∀ b : B, ∀ T : ByteArray, tv b = .string T → T.size = b.length → (p.toList.isEmpty = true → tv (partOf s.data.toList p.data.toList b) = .string s) ∧ ((p.toList == [72, 69, 65, 68, 69, 82]) = true → tv (partOf s.data.toList p.data.toList b) = .string (s.extract 0 (s.size - T.size))) ∧ ((p.toList == [84, 69, 88, 84]) = true → tv (partOf s.data.toList p.data.toList b) = .string T)) := fun b T h1 h2 => by
    refine ⟨fun h => ?_, fun h => ?_, fun h => ?_⟩
    · rw [tl_empty, decide_eq_true_iff] at h
      rw [h, partOf, if_pos rfl, tv_all]
    · rw [tl_beq, decide_eq_true_iff] at h
      rw [h, partOf, if_neg (by decide), if_pos (show [72, 69, 65, 68, 69, 82] = hdr from rfl), tv_front, h2, Lib.size_eq]
    · rw [tl_beq, decide_eq_true_iff] at h
      rw [h, partOf, if_neg (by decide), if_neg (by decide), h1]
  clear hin
  rcases HPC with ⟨q0, q1, q2, q3⟩ | ⟨q0, q1, q2, q3⟩ | ⟨q0, q1, q2, q3⟩ | ⟨q0, _⟩
  case inr.inr.inr => exact absurd HIN.out q0
  all_goals
    clear q0
    go_enter Tryz.func65, Tryz.ntmps65
    go_wp2_with fail
    refine (isPart_any p _).mono ?_
    rintro e w' ⟨⟨bb, rfl, hbb⟩, hw'⟩
    have hw' := hw'.symm
    subst hw'
    obtain rfl : bb = true := hbb.2 HIN.out
    clear hbb
    go_wp2_with fail
    refine HRL.mono ?_
    rintro e w1 ⟨hr, hb1⟩
    have HB1 : Hid (Below w.heap.size w w1) := hb1
    clear HRL hb1
    rcases hr with ⟨hx, rfl⟩ | ⟨hx, hno, rfl⟩ | ⟨hx, fs, b, v, hmail, rfl, hfa⟩
    · exfalso
      have := HL.out.1
      omega
    · have HNO : Hid (¬ ∃ fs b, IsMail s.data.toList fs b) := hno
      clear hno
      unfold noMV
      go_wp2
      go_ret2
      exact ⟨.inr (.inr (.inl ⟨HL.out.1, HL.out.2, HIN.out, HNO.out, rfl⟩)), HB1.out.alloc HB1.out.size _⟩
    · obtain ⟨a, cap, rfl⟩ := fields_form hfa
      obtain ⟨kk, hk1, hk2⟩ := par_len hmail.2.1
      have HMA : Hid (IsMail s.data.toList fs b) := hmail
      clear hmail hfa
      unfold MV
      generalize hln : fs.length = ln at *
      obtain ⟨T, hT⟩ : ∃ T : ByteArray, T = ⟨b.toArray⟩ := ⟨_, rfl⟩
      have htb : tv b = .string T := by rw [hT]; rfl
      have hTl : T.size = b.length := by rw [Lib.size_eq, hT]
      have hTs : T.size ≤ s.size := by rw [hTl, hk2, List.length_drop, Lib.size_eq]; omega
      have HQ := HPE.out b T htb hTl
      have HQQ : Hid ((p.toList.isEmpty = true → tv (partOf s.data.toList p.data.toList b) = .string s) ∧ ((p.toList == [72, 69, 65, 68, 69, 82]) = true → tv (partOf s.data.toList p.data.toList b) = .string (s.extract 0 (s.size - T.size))) ∧ ((p.toList == [84, 69, 88, 84]) = true → tv (partOf s.data.toList p.data.toList b) = .string T)) := HQ
      rw [htb]
      clear hT htb hTl hk1 hk2 HQ hx
      have hTs' : (T.size : Int) ≤ (s.size : Int) := by omega
      have hsub : (0 : Int) ≤ (s.size : Int) - (T.size : Int) := by omega
      have hes : (s.extract 0 (s.size - T.size)).size ≤ 1048576 := by rw [ext_size _ _ _ (by omega)]; omega
      have HCL : Hid (∀ (x : ByteArray) (W : World), x.size ≤ 1048576 → Calls Tryz.prog 84 #[.string x] W fun e w' => e = .returned (.string x) ∧ Below W.heap.size W w') := fun x W h => uf.clone_uf x W h
      go_wp2_with fail
      refine (HCL.out _ _ (by omega)).mono ?_
      rintro e w2 ⟨rfl, hb2⟩
      have hb3 := (HB1.out.alloc HB1.out.size _).trans (hb2.mono (HB1.out.alloc HB1.out.size _).size)
      clear hb2
      go_wp2
      go_ret2
      exact ⟨.inr (.inr (.inr ⟨HL.out.1, HL.out.2, HIN.out, fs, b, HMA.out, by first | (rw [HQQ.out.1 q1]; rfl) | (rw [HQQ.out.2.1 q2]; rfl) | (rw [HQQ.out.2.2 q3]; rfl)⟩)), hb3⟩
end Go.Proofs.YtbokolpjdaamiaaGreatDoor.ml
