/-
  Mails held against one another and marked by the law's own functions; the program's ParseMail.
  The contracts of both MailPart functions.
  The contracts of both MailPart functions, and of the program's ParseMail.
  Letters of either size: both functions that write a text in small letters.
-/
import Derived.Test.YtbanjkkbobedhaaDoorPkbd
import Derived.Test.YtbanjkkbobedhaaDoorPkap
import Derived.Test.YtbanjkkbobedhaaDoorRows
import Derived.WalkKit
import Derived.WalkLawsBesides
import Derived.Lib.ConvBytes
import Derived.Below

namespace Go.Proofs.YtbanjkkbobedhaaDoor.ml
open Go.RowKit
open fa
set_option linter.unusedVariables false

/-- Fields as pairs of texts. -/
def prs (fs : List (B × B)) : List Pr := fs.map fun x => (⟨x.1.toArray⟩, ⟨x.2.toArray⟩)
theorem prs_len (fs : List (B × B)) : (prs fs).length = fs.length := by simp [prs]
theorem fcells_at : ∀ (fs : List (B × B)) (j : Nat), j < fs.length → (fcells fs)[j * 2]? = some (.string ((prs fs).getD j no).1) ∧ (fcells fs)[j * 2 + 1]? = some (.string ((prs fs).getD j no).2)
  | [], j, h => absurd h (Nat.not_lt_zero _)
  | x :: fs, 0, h => ⟨rfl, rfl⟩
  | x :: fs, j + 1, h => by
    have ih := fcells_at fs j (by simpa using h)
    rw [show (j + 1) * 2 = j * 2 + 1 + 1 from by omega]
    simpa [fcells, prs] using ih
theorem fields_attrs {w : World} {base : Nat} {v : Value} {fs : List (B × B)} (h : FieldsAt w base v fs) : AttrsAt w v (prs fs) := by
  rcases h.2 with ⟨rfl, h0⟩ | ⟨g, cap, cur, rfl, _⟩
  · refine ⟨none, 0, by rw [prs_len, h0], .inl ?_⟩
    rw [List.eq_nil_of_length_eq_zero h0]
    rfl
  · refine ⟨_, cap, by rw [prs_len], .inr ⟨g, 0, rfl, fun j hj => ?_⟩⟩
    rw [prs_len] at hj
    obtain ⟨h1, h2⟩ := fcells_at fs j hj
    rw [Nat.zero_add, h.cellAt _ (by omega), h.cellAt _ (by omega)]
    exact ⟨h1, h2⟩

/-- What both ParseMail functions answer, as the law reads it: fields, a body, a code. -/
def PmIs (l : B) (fs : List (B × B)) (b : B) (c : Int) : Prop :=
  (65536 < l.length ∧ fs = [] ∧ b = [] ∧ c = 2) ∨ (l.length ≤ 65536 ∧ (¬ ∃ fs b, IsMail l fs b) ∧ fs = [] ∧ b = [] ∧ c = 3) ∨ (l.length ≤ 65536 ∧ IsMail l fs b ∧ c = 0)
theorem pm_of {l : B} {base : Nat} {e : Ending} {w : World} (h : RlRet l base e w) : ∃ fs b v c, PmIs l fs b c ∧ e = .returned (.tuple #[.agg #[v, tv b], .int .i64 c]) ∧ FieldsAt w base v fs ∧ fs.length ≤ 1048576 := by
  rcases h with ⟨hl, rfl⟩ | ⟨hl, hno, rfl⟩ | ⟨hl, fs, b, v, hm, rfl, hfa⟩
  · exact ⟨[], [], .slice none 0 0, 2, .inl ⟨hl, rfl, rfl, rfl⟩, rfl, fields_nil _ _, by simp⟩
  · exact ⟨[], [], .slice none 0 0, 3, .inr (.inl ⟨hl, hno, rfl, rfl, rfl⟩), rfl, fields_nil _ _, by simp⟩
  · exact ⟨fs, b, v, 0, .inr (.inr ⟨hl, hm, rfl⟩), rfl, hfa, by have := hm.2.2; omega⟩
theorem pm_one {l : B} {fs fs' : List (B × B)} {b b' : B} {c c' : Int} (h : PmIs l fs b c) (h' : PmIs l fs' b' c') : fs = fs' ∧ b = b' ∧ c = c' := by
  rcases h with ⟨x, rfl, rfl, rfl⟩ | ⟨x, x2, rfl, rfl, rfl⟩ | ⟨x, hf, rfl⟩ <;>
  rcases h' with ⟨y, rfl, rfl, rfl⟩ | ⟨y, y2, rfl, rfl, rfl⟩ | ⟨y, hf', rfl⟩ <;>
  first | exact ⟨rfl, rfl, rfl⟩ | (exfalso; omega) | (exfalso; exact x2 ⟨_, _, hf'⟩) | (exfalso; exact y2 ⟨_, _, hf⟩) | (obtain ⟨rfl, rfl⟩ := isMail_one hf hf'; exact ⟨rfl, rfl, rfl⟩)
set_option maxHeartbeats 4000000 in
set_option maxRecDepth 100000 in
theorem implMail_any (s : ByteArray) (w : World) (m : Int) (hm : w.cell? ⟨0, 0, none⟩ = some (.int .i64 m)) (hs : s.size ≤ 1048576) :
    Calls Tryd.prog 7 #[.string s] w fun e w' => RlRet s.data.toList w.heap.size e w' ∧ Below w.heap.size w w' := by
  have b00 : Below w.heap.size w (w.alloc (.cells #[.slice none 0 0, .string ⟨#[]⟩] 31)) := (Below.refl _ w).alloc (Nat.le_refl _) _
  have hgl := World.block_lt_of_cell? _ _ hm
  have HRL := readLetter_any s (w.alloc (.cells #[.slice none 0 0, .string ⟨#[]⟩] 31)) m ((b00.cell (p := ⟨0, 0, none⟩) hgl).trans hm) hs
  have L0 := b2.new w 31 (.slice none 0 0) (.string ⟨#[]⟩)
  clear hm hgl
  go_enter Tryd.func7, Tryd.ntmps7
  go_wp2_with fail
  generalize hW0 : World.alloc _ _ = W0 at HRL L0 b00 ⊢
  clear hW0
  refine HRL.mono ?_
  rintro e w1 ⟨hr, hb1⟩
  have HB1 : Hid (Below w.heap.size w w1) := b00.trans (hb1.mono b00.size)
  have HL1 : Hid (b2.Box w1 w.heap.size 31 (.slice none 0 0) (.string ⟨#[]⟩)) := L0.below hb1
  have hz := b00.size
  clear HRL hb1 L0 b00
  rcases hr with ⟨hl, rfl⟩ | ⟨hl, hno, rfl⟩ | ⟨hl, fs, b, v, hmail, rfl, hfa⟩
  · unfold noMV
    have L3 : b2.Box (w1.alloc (.cells #[.slice none 0 0, .string ⟨#[]⟩] 45)) w.heap.size 31 (.slice none 0 0) (.string ⟨#[]⟩) := HL1.out.below ((Below.refl _ _).alloc (Nat.le_refl _) _)
    have c0 := L3.c0
    have c1 := L3.c1
    have f0 := L3.f 0
    have f1 := L3.f 1
    have HL3 : Hid (b2.Box (w1.alloc (.cells #[.slice none 0 0, .string ⟨#[]⟩] 45)) w.heap.size 31 (.slice none 0 0) (.string ⟨#[]⟩)) := L3
    clear L3
    go_wp2
    have L4 := HL3.out.put (a' := .slice none 0 0) (b' := .string ⟨#[]⟩)
    have b4 := b2.put_below (a := .slice none 0 0) (b := .string ⟨#[]⟩) (HB1.out.alloc HB1.out.size (.cells #[.slice none 0 0, .string ⟨#[]⟩] 45)) (Nat.le_refl _)
    clear c0 c1 f0 f1
    unfold b2.put at L4 b4
    generalize hX : World.setCell _ _ _ = X at L4 b4 ⊢
    clear hX
    have c0 := L4.c0
    have c1 := L4.c1
    refine bodyPost_ret (v := .tuple #[noMV, .int .i64 2]) (by simp [results, Tryd.results7, go_sem, noMV, c0, c1]) rfl ⟨.inl ⟨hl, rfl⟩, b4⟩
  · have HNO : Hid (¬ ∃ fs b, IsMail s.data.toList fs b) := hno
    clear hno
    unfold noMV
    have L3 : b2.Box (w1.alloc (.cells #[.slice none 0 0, .string ⟨#[]⟩] 45)) w.heap.size 31 (.slice none 0 0) (.string ⟨#[]⟩) := HL1.out.below ((Below.refl _ _).alloc (Nat.le_refl _) _)
    have c0 := L3.c0
    have c1 := L3.c1
    have f0 := L3.f 0
    have f1 := L3.f 1
    have HL3 : Hid (b2.Box (w1.alloc (.cells #[.slice none 0 0, .string ⟨#[]⟩] 45)) w.heap.size 31 (.slice none 0 0) (.string ⟨#[]⟩)) := L3
    clear L3
    go_wp2
    have L4 := HL3.out.put (a' := .slice none 0 0) (b' := .string ⟨#[]⟩)
    have b4 := b2.put_below (a := .slice none 0 0) (b := .string ⟨#[]⟩) (HB1.out.alloc HB1.out.size (.cells #[.slice none 0 0, .string ⟨#[]⟩] 45)) (Nat.le_refl _)
    clear c0 c1 f0 f1
    unfold b2.put at L4 b4
    generalize hX : World.setCell _ _ _ = X at L4 b4 ⊢
    clear hX
    have c0 := L4.c0
    have c1 := L4.c1
    refine bodyPost_ret (v := .tuple #[noMV, .int .i64 3]) (by simp [results, Tryd.results7, go_sem, noMV, c0, c1]) rfl ⟨.inr (.inl ⟨hl, HNO.out, rfl⟩), b4⟩
  · obtain ⟨a, cap, rfl⟩ := fields_form hfa
    obtain ⟨_, hbl⟩ := isMail_body hmail hl
    have HMA : Hid (IsMail s.data.toList fs b) := hmail
    have HFA : Hid (FieldsAt w1 w.heap.size (.slice a fs.length cap) fs) := ow.own_base hfa hz
    clear hmail hfa
    unfold MV
    generalize hln : fs.length = ln at *
    obtain ⟨T, hT⟩ : ∃ T : ByteArray, T = ⟨b.toArray⟩ := ⟨_, rfl⟩
    have htb : tv b = .string T := by rw [hT]; rfl
    have hTs : T.size ≤ 65536 := by rw [Lib.size_eq, hT]; exact hbl
    rw [htb]
    have HTB : Hid (tv b = .string T) := htb
    clear hT htb hbl
    have bx : Below w1.heap.size w1 (w1.alloc (.cells #[.slice a ln cap, .string T] 45)) := (Below.refl _ _).alloc (Nat.le_refl _) _
    have X0 := b2.new w1 45 (.slice a ln cap) (.string T)
    have HX0 : Hid (b2.Box (w1.alloc (.cells #[.slice a ln cap, .string T] 45)) w1.heap.size 45 (.slice a ln cap) (.string T)) := X0
    have HL3 : Hid (b2.Box (w1.alloc (.cells #[.slice a ln cap, .string T] 45)) w.heap.size 31 (.slice none 0 0) (.string ⟨#[]⟩)) := HL1.out.below bx
    have HF3 : Hid (FieldsAt (w1.alloc (.cells #[.slice a ln cap, .string T] 45)) w.heap.size (.slice a ln cap) fs) := ow.own_below HFA.out bx
    have HB3 : Hid (Below w.heap.size w (w1.alloc (.cells #[.slice a ln cap, .string T] 45))) := HB1.out.alloc HB1.out.size _
    clear bx X0 HL1 HFA HB1
    go_wp2_with fail
    generalize hW2 : World.alloc _ _ = W2 at HX0 HL3 HF3 HB3 ⊢
    clear hW2
    have HCL : Hid (∀ W, Calls Tryd.prog 18 #[.string T] W fun e w' => e = .returned (.string T) ∧ Below W.heap.size W w') := fun W => uf.clone_uf T W (by omega)
    have e0 := HX0.out.c0
    have e1 := HX0.out.c1
    go_region_with (go_at_call 18; refine (HCL.out _).mono ?_; rintro e w3 ⟨rfl, hb3⟩; have L4 : b2.Box w3 w.heap.size 31 (.slice none 0 0) (.string ⟨#[]⟩) := b2.Box.below (w := W2.drew) HL3.out hb3; have y0 : w3.cell? ⟨w1.heap.size, 0, none⟩ = some (.slice a ln cap) := (b2.Box.below (w := W2.drew) HX0.out hb3).c0; have HF4 : Hid (FieldsAt w3 w.heap.size (.slice a ln cap) fs) := ow.own_below (w := W2.drew) HF3.out hb3; have HB4 : Hid (Below w.heap.size w w3) := HB3.out.drew.trans (hb3.mono HB3.out.size); have c0 := L4.c0; have c1 := L4.c1; have f0 := L4.f 0; have f1 := L4.f 1; have HL4 : Hid (b2.Box w3 w.heap.size 31 (.slice none 0 0) (.string ⟨#[]⟩)) := L4; clear L4 hb3)
    all_goals (try go_wp2)
    all_goals
      have L5 := HL4.out.put (a' := .slice a ln cap) (b' := .string T)
      have b5 := b2.put_below (a := .slice a ln cap) (b := .string T) HB4.out (Nat.le_refl _)
      have o5 : FieldsAt (b2.put w3 w.heap.size (.slice a ln cap) (.string T)) w.heap.size (.slice a ln cap) fs := b2.own_put HL4.out (by decide) HF4.out
      clear c0 c1 f0 f1 e0 e1 y0
      unfold b2.put at L5 b5 o5
      generalize hX : World.setCell _ _ _ = X at L5 b5 o5 ⊢
      clear hX
      have c0 := L5.c0
      have c1 := L5.c1
      refine bodyPost_ret (v := .tuple #[MV (.slice a ln cap) b, .int .i64 0]) (by simp [results, Tryd.results7, go_sem, MV, HTB.out, c0, c1]) rfl ⟨.inr (.inr ⟨hl, fs, b, _, HMA.out, rfl, o5⟩), b5⟩
end Go.Proofs.YtbanjkkbobedhaaDoor.ml

namespace Go.Proofs.YtbanjkkbobedhaaDoor.ml
open Go.RowKit
set_option linter.unusedVariables false

def hdr : B := [72, 69, 65, 68, 69, 82]
def txt : B := [84, 69, 88, 84]
/-- The part of a mail that is asked for. -/
def partOf (l p b : B) : B := if p = [] then l else if p = hdr then l.take (l.length - b.length) else b
def MpRet (l p : B) (e : Ending) : Prop :=
  ((65536 < l.length ∨ 65536 < p.length) ∧ e = .returned (.tuple #[.string ⟨#[]⟩, .int .i64 2])) ∨
  (l.length ≤ 65536 ∧ p.length ≤ 65536 ∧ ¬ (p = [] ∨ p = hdr ∨ p = txt) ∧ e = .returned (.tuple #[.string ⟨#[]⟩, .int .i64 1])) ∨
  (l.length ≤ 65536 ∧ p.length ≤ 65536 ∧ (p = [] ∨ p = hdr ∨ p = txt) ∧ (¬ ∃ fs b, IsMail l fs b) ∧ e = .returned (.tuple #[.string ⟨#[]⟩, .int .i64 3])) ∨
  (l.length ≤ 65536 ∧ p.length ≤ 65536 ∧ (p = [] ∨ p = hdr ∨ p = txt) ∧ ∃ fs b, IsMail l fs b ∧ e = .returned (.tuple #[tv (partOf l p b), .int .i64 0]))
theorem mp_ex {l p : B} {e : Ending} (h : MpRet l p e) : ∃ (a : ByteArray) (c : Int), e = .returned (.tuple #[.string a, .int .i64 c]) := by
  rcases h with ⟨_, rfl⟩ | ⟨_, _, _, rfl⟩ | ⟨_, _, _, _, rfl⟩ | ⟨_, _, _, _, _, _, rfl⟩ <;> exact ⟨_, _, rfl⟩
theorem mp_same {l p : B} {a a' : ByteArray} {c c' : Int} (h : MpRet l p (.returned (.tuple #[.string a, .int .i64 c]))) (h' : MpRet l p (.returned (.tuple #[.string a', .int .i64 c']))) : a = a' ∧ c = c' := by
  rcases h with ⟨x, h⟩ | ⟨x, x1, x2, h⟩ | ⟨x, x1, x2, x3, h⟩ | ⟨x, x1, x2, fs, b, hf, h⟩ <;>
  rcases h' with ⟨y, h'⟩ | ⟨y, y1, y2, h'⟩ | ⟨y, y1, y2, y3, h'⟩ | ⟨y, y1, y2, fs', b', hf', h'⟩ <;>
  cases h <;> cases h' <;>
  first | exact ⟨rfl, rfl⟩ | (exfalso; omega) | (exfalso; exact x2 y2) | (exfalso; exact y2 x2) | (exfalso; exact x3 ⟨_, _, hf'⟩) | (exfalso; exact y3 ⟨_, _, hf⟩) | (obtain ⟨rfl, rfl⟩ := isMail_one hf hf'; exact ⟨rfl, rfl⟩)
theorem tl_beq (P : ByteArray) (x : B) : (P.toList == x) = decide (P.data.toList = x) := by
  rw [Lib.toList_data, Bool.eq_iff_iff, beq_iff_eq, decide_eq_true_iff]
theorem tl_empty (P : ByteArray) : P.toList.isEmpty = decide (P.data.toList = []) := by
  rw [Lib.toList_data, Bool.eq_iff_iff, List.isEmpty_iff, decide_eq_true_iff]
/-- The four ways in which a part can be asked for, as the walk meets them. -/
theorem part_cases (P : ByteArray) :
    (P.data.toList = [] ∧ P.toList.isEmpty = true ∧ (P.toList == [72, 69, 65, 68, 69, 82]) = false ∧ (P.toList == [84, 69, 88, 84]) = false) ∨
    (P.data.toList = hdr ∧ P.toList.isEmpty = false ∧ (P.toList == [72, 69, 65, 68, 69, 82]) = true ∧ (P.toList == [84, 69, 88, 84]) = false) ∨
    (P.data.toList = txt ∧ P.toList.isEmpty = false ∧ (P.toList == [72, 69, 65, 68, 69, 82]) = false ∧ (P.toList == [84, 69, 88, 84]) = true) ∨
    (¬ (P.data.toList = [] ∨ P.data.toList = hdr ∨ P.data.toList = txt) ∧ P.toList.isEmpty = false ∧ (P.toList == [72, 69, 65, 68, 69, 82]) = false ∧ (P.toList == [84, 69, 88, 84]) = false) := by
  rw [tl_beq, tl_beq, tl_empty]
  by_cases h1 : P.data.toList = []
  · left; rw [h1]; decide
  by_cases h2 : P.data.toList = hdr
  · right; left; rw [h2]; decide
  by_cases h3 : P.data.toList = txt
  · right; right; left; rw [h3]; decide
  · right; right; right
    exact ⟨fun h => by rcases h with h | h | h; exact h1 h; exact h2 h; exact h3 h, decide_eq_false h1, decide_eq_false h2, decide_eq_false h3⟩

/-- What the specification's part answers to a part that is one. -/
def PtRet (l p : B) (e : Ending) : Prop :=
  ((¬ ∃ fs b, IsMail l fs b) ∧ e = .returned (.tuple #[.string ⟨#[]⟩, .bool false])) ∨
  (∃ fs b, IsMail l fs b ∧ e = .returned (.tuple #[tv (partOf l p b), .bool true]))
theorem tv_front (s : ByteArray) (n : Nat) : tv (s.data.toList.take n) = .string (s.extract 0 n) := by
  unfold tv
  rw [← ext_front, ← mk_list]
theorem tv_all (s : ByteArray) : tv s.data.toList = .string s := by
  unfold tv
  rw [← mk_list]
end Go.Proofs.YtbanjkkbobedhaaDoor.ml

namespace Go.Proofs.YtbanjkkbobedhaaDoor.ml
open Go.RowKit
set_option linter.unusedVariables false


set_option maxHeartbeats 1000000 in
set_option maxRecDepth 100000 in
theorem isPart_any (p : ByteArray) (w : World) : Calls Tryd.prog 16 #[.string p] w fun e w' => (∃ b : Bool, e = .returned (.bool b) ∧ (b = true ↔ (p.data.toList = [] ∨ p.data.toList = hdr ∨ p.data.toList = txt))) ∧ w' = w := by
  rcases part_cases p with ⟨q0, q1, q2, q3⟩ | ⟨q0, q1, q2, q3⟩ | ⟨q0, q1, q2, q3⟩ | ⟨q0, q1, q2, q3⟩
  · have H0 : Hid (p.data.toList = []) := q0
    clear q0
    go_enter Tryd.func16, Tryd.ntmps16
    go_wp2
    go_ret
    exact ⟨⟨_, rfl, fun _ => .inl H0.out, fun _ => by simp⟩, rfl⟩
  · have H0 : Hid (p.data.toList = hdr) := q0
    clear q0
    go_enter Tryd.func16, Tryd.ntmps16
    go_wp2
    go_ret
    exact ⟨⟨_, rfl, fun _ => .inr (.inl H0.out), fun _ => by simp⟩, rfl⟩
  · have H0 : Hid (p.data.toList = txt) := q0
    clear q0
    go_enter Tryd.func16, Tryd.ntmps16
    go_wp2
    go_ret
    exact ⟨⟨_, rfl, fun _ => .inr (.inr H0.out), fun _ => by simp⟩, rfl⟩
  · have H0 : Hid (¬ (p.data.toList = [] ∨ p.data.toList = hdr ∨ p.data.toList = txt)) := q0
    clear q0
    go_enter Tryd.func16, Tryd.ntmps16
    go_wp2
    go_ret
    exact ⟨⟨_, rfl, fun e => by simp at e, fun e => absurd e H0.out⟩, rfl⟩
set_option maxHeartbeats 8000000 in
set_option maxRecDepth 100000 in
theorem implPart_any (s p : ByteArray) (w : World) (m : Int) (hm : w.cell? ⟨0, 0, none⟩ = some (.int .i64 m)) (hs : s.size ≤ 1048576) (hp : p.size ≤ 1048576) :
    Calls Tryd.prog 6 #[.string s, .string p] w fun e w' => MpRet s.data.toList p.data.toList e ∧ Below w.heap.size w w' := by
  have HRL := readLetter_any s w m hm hs
  clear hm
  by_cases hl : s.size ≤ 65536
  case neg =>
    have hl' : (65536 : Int) < (s.size : Int) := by omega
    have hd : decide ((65536 : Int) < (s.size : Int)) = true := decide_eq_true hl'
    clear HRL
    go_enter Tryd.func6, Tryd.ntmps6
    go_wp2
    go_ret2
    exact ⟨.inl ⟨.inl (by rw [← Lib.size_eq]; omega), rfl⟩, Below.refl _ _⟩
  have hd : decide ((65536 : Int) < (s.size : Int)) = false := decide_eq_false (by omega)
  by_cases hl2 : p.size ≤ 65536
  case neg =>
    have hl' : (65536 : Int) < (p.size : Int) := by omega
    have hd2 : decide ((65536 : Int) < (p.size : Int)) = true := decide_eq_true hl'
    clear HRL
    go_enter Tryd.func6, Tryd.ntmps6
    go_wp2
    go_ret2
    exact ⟨.inl ⟨.inr (by rw [← Lib.size_eq]; omega), rfl⟩, Below.refl _ _⟩
  have hd2 : decide ((65536 : Int) < (p.size : Int)) = false := decide_eq_false (by omega)
  have HL : Hid (s.data.toList.length ≤ 65536 ∧ p.data.toList.length ≤ 65536) := (show _ ∧ _ by rw [← Lib.size_eq, ← Lib.size_eq]; exact ⟨hl, hl2⟩)
  have HPC := part_cases p
  by_cases hin : p.data.toList = [] ∨ p.data.toList = hdr ∨ p.data.toList = txt
  case neg =>
    rcases HPC with ⟨q0, _⟩ | ⟨q0, _⟩ | ⟨q0, _⟩ | ⟨q0, q1, q2, q3⟩
    · exact absurd (.inl q0) hin
    · exact absurd (.inr (.inl q0)) hin
    · exact absurd (.inr (.inr q0)) hin
    · have HN : Hid (¬ (p.data.toList = [] ∨ p.data.toList = hdr ∨ p.data.toList = txt)) := q0
      clear q0 hin HRL
      go_enter Tryd.func6, Tryd.ntmps6
      go_wp2_with (go_at_call 16; refine (isPart_any p _).mono ?_; rintro e w' ⟨⟨bb, rfl, hbb⟩, rfl⟩; obtain rfl : bb = false := Bool.eq_false_iff.2 (fun y => HN.out (hbb.1 y)); clear hbb)
      go_ret2
      exact ⟨.inr (.inl ⟨HL.out.1, HL.out.2, HN.out, rfl⟩), Below.refl _ _⟩
  have HIN : Hid (p.data.toList = [] ∨ p.data.toList = hdr ∨ p.data.toList = txt) := hin
  have HPE : Hid (∀ b : B, ∀ T : ByteArray, tv b = .string T → T.size = b.length → (p.toList.isEmpty = true → tv (partOf s.data.toList p.data.toList b) = .string s) ∧ ((p.toList == [72, 69, 65, 68, 69, 82]) = true → tv (partOf s.data.toList p.data.toList b) = .string (s.extract 0 (s.size - T.size))) ∧ ((p.toList == [84, 69, 88, 84]) = true → tv (partOf s.data.toList p.data.toList b) = .string T)) := fun b T h1 h2 => by
    refine ⟨fun h => ?_, fun h => ?_, fun h => ?_⟩
    · rw [tl_empty, decide_eq_true_iff] at h
      rw [h, partOf, if_pos rfl, tv_all]
    · rw [tl_beq, decide_eq_true_iff] at h
      rw [h, partOf, if_neg (by decide), if_pos (show [72, 69, 65, 68, 69, 82] = hdr from rfl), tv_front, h2, Lib.size_eq]
    · rw [tl_beq, decide_eq_true_iff] at h
      rw [h, partOf, if_neg (by decide), if_neg (by decide), h1]
  clear hin
  rcases HPC with ⟨q0, q1, q2, q3⟩ | ⟨q0, q1, q2, q3⟩ | ⟨q0, q1, q2, q3⟩ | ⟨q0, _⟩
  case inr.inr.inr => exact absurd HIN.out q0
  all_goals
    clear q0
    go_enter Tryd.func6, Tryd.ntmps6
    go_wp2_with fail
    refine (isPart_any p _).mono ?_
    rintro e w' ⟨⟨bb, rfl, hbb⟩, hw'⟩
    have hw' := hw'.symm
    subst hw'
    obtain rfl : bb = true := hbb.2 HIN.out
    clear hbb
    go_wp2_with fail
    refine HRL.mono ?_
    rintro e w1 ⟨hr, hb1⟩
    have HB1 : Hid (Below w.heap.size w w1) := hb1
    clear HRL hb1
    rcases hr with ⟨hx, rfl⟩ | ⟨hx, hno, rfl⟩ | ⟨hx, fs, b, v, hmail, rfl, hfa⟩
    · exfalso
      have := HL.out.1
      omega
    · have HNO : Hid (¬ ∃ fs b, IsMail s.data.toList fs b) := hno
      clear hno
      unfold noMV
      go_wp2
      go_ret2
      exact ⟨.inr (.inr (.inl ⟨HL.out.1, HL.out.2, HIN.out, HNO.out, rfl⟩)), HB1.out.alloc HB1.out.size _⟩
    · obtain ⟨a, cap, rfl⟩ := fields_form hfa
      obtain ⟨kk, hk1, hk2⟩ := par_len hmail.2.1
      have HMA : Hid (IsMail s.data.toList fs b) := hmail
      clear hmail hfa
      unfold MV
      generalize hln : fs.length = ln at *
      obtain ⟨T, hT⟩ : ∃ T : ByteArray, T = ⟨b.toArray⟩ := ⟨_, rfl⟩
      have htb : tv b = .string T := by rw [hT]; rfl
      have hTl : T.size = b.length := by rw [Lib.size_eq, hT]
      have hTs : T.size ≤ s.size := by rw [hTl, hk2, List.length_drop, Lib.size_eq]; omega
      have HQ := HPE.out b T htb hTl
      have HQQ : Hid ((p.toList.isEmpty = true → tv (partOf s.data.toList p.data.toList b) = .string s) ∧ ((p.toList == [72, 69, 65, 68, 69, 82]) = true → tv (partOf s.data.toList p.data.toList b) = .string (s.extract 0 (s.size - T.size))) ∧ ((p.toList == [84, 69, 88, 84]) = true → tv (partOf s.data.toList p.data.toList b) = .string T)) := HQ
      rw [htb]
      clear hT htb hTl hk1 hk2 HQ hx
      have hTs' : (T.size : Int) ≤ (s.size : Int) := by omega
      have hsub : (0 : Int) ≤ (s.size : Int) - (T.size : Int) := by omega
      have hes : (s.extract 0 (s.size - T.size)).size ≤ 1048576 := by rw [ext_size _ _ _ (by omega)]; omega
      have HCL : Hid (∀ (x : ByteArray) (W : World), x.size ≤ 1048576 → Calls Tryd.prog 18 #[.string x] W fun e w' => e = .returned (.string x) ∧ Below W.heap.size W w') := fun x W h => uf.clone_uf x W h
      go_wp2_with fail
      refine (HCL.out _ _ (by omega)).mono ?_
      rintro e w2 ⟨rfl, hb2⟩
      have hb3 := (HB1.out.alloc HB1.out.size _).trans (hb2.mono (HB1.out.alloc HB1.out.size _).size)
      clear hb2
      go_wp2
      go_ret2
      exact ⟨.inr (.inr (.inr ⟨HL.out.1, HL.out.2, HIN.out, fs, b, HMA.out, by first | (rw [HQQ.out.1 q1]; rfl) | (rw [HQQ.out.2.1 q2]; rfl) | (rw [HQQ.out.2.2 q3]; rfl)⟩)), hb3⟩
end Go.Proofs.YtbanjkkbobedhaaDoor.ml

namespace Go.Proofs.YtbanjkkbobedhaaDoor.lo
open Go.RowKit
set_option linter.unusedVariables false

/-- A great letter's small one. -/
def low (c : UInt8) : UInt8 := if 65 ≤ c.toNat ∧ c.toNat ≤ 90 then UInt8.ofNat (c.toNat + 32) else c
def lower (l : List UInt8) : List UInt8 := l.map low
theorem lower_len (l : List UInt8) : (lower l).length = l.length := List.length_map _
/-- The first so many letters written in small ones. -/
def upTo (l : List UInt8) (k : Nat) : List UInt8 := lower (l.take k) ++ l.drop k
theorem upTo_len (l : List UInt8) (k : Nat) : (upTo l k).length = l.length := by
  rw [upTo, List.length_append, lower_len, List.length_take, List.length_drop]; omega
theorem upTo_zero (l : List UInt8) : upTo l 0 = l := by simp [upTo, lower]
theorem upTo_all (l : List UInt8) (k : Nat) (h : l.length ≤ k) : upTo l k = lower l := by
  rw [upTo, List.take_of_length_le h, List.drop_eq_nil_of_le h, List.append_nil]
theorem upTo_at (l : List UInt8) (k : Nat) (h : k < l.length) : (upTo l k).getD k 0 = l.getD k 0 := by
  have hk : (lower (l.take k)).length = k := by rw [lower_len, List.length_take]; omega
  simp only [upTo, List.getD_eq_getElem?_getD]
  rw [List.getElem?_append_right (by omega), hk, Nat.sub_self, List.getElem?_drop, Nat.add_zero]
theorem upTo_step (l : List UInt8) (k : Nat) (h : k < l.length) : upTo l (k + 1) = (upTo l k).set k (low (l.getD k 0)) := by
  have hk : (lower (l.take k)).length = k := by rw [lower_len, List.length_take]; omega
  have e : l.getD k 0 = l[k] := by simp [List.getD_eq_getElem?_getD, h]
  unfold upTo
  rw [List.set_append_right _ _ (by omega), hk, Nat.sub_self, List.drop_eq_getElem_cons h, List.set_cons_zero, List.take_succ_eq_append_getElem h, e]
  unfold lower
  rw [List.map_append, List.append_assoc]
  rfl
theorem upTo_same (l : List UInt8) (k : Nat) (h : k < l.length) (hc : low (l.getD k 0) = l.getD k 0) : upTo l (k + 1) = upTo l k := by
  rw [upTo_step l k h, hc, ← upTo_at l k h]
  have hl : k < (upTo l k).length := by rw [upTo_len]; exact h
  rw [List.getD_eq_getElem?_getD, List.getElem?_eq_getElem hl, Option.getD_some, List.set_getElem_self]

theorem ownC_set {w : World} {base g cap n : Nat} {l : List UInt8} (h : ow.OwnC w base (.slice (some ⟨g, 0, none⟩) n cap) l) (j : Nat) (c : UInt8) (hj : j < l.length) :
    ow.OwnC (w.setCell ⟨g, j, none⟩ (.int .u8 (c.toNat : Int))) base (.slice (some ⟨g, 0, none⟩) n cap) (l.set j c) := by
  obtain ⟨g', cap', hv, h1, h2, h3, h4, h5, h6⟩ := h
  simp only [Value.slice.injEq, Option.some.injEq, Addr.mk.injEq, and_true] at hv
  obtain ⟨rfl, rfl, rfl⟩ := hv
  have hne : ∀ i, i ≠ j → (⟨g, j, none⟩ : Addr) ≠ ⟨g, i, none⟩ := fun i hi e => hi (by simpa using e.symm)
  refine ⟨g, cap, by rw [List.length_set], h1, by simpa [World.setCell] using h2, by rw [List.length_set]; exact h3, h4, fun i hi => ?_, fun i hi => ?_⟩
  · have hf : (w.setCell ⟨g, j, none⟩ (.int .u8 (c.toNat : Int))).frozen? ⟨g, i, none⟩ = w.frozen? ⟨g, i, none⟩ := World.frozen?_setCells g [.int .u8 (c.toNat : Int)] j w ⟨g, i, none⟩
    refine ⟨?_, hf.trans (h5 i hi).2⟩
    by_cases e : i = j
    · subst e
      obtain ⟨u, hu⟩ := Option.isSome_iff_exists.1 (h5 i hi).1
      rw [World.cell?_setCell_same _ _ _ hu]
      rfl
    · rw [World.cell?_setCell_other _ _ _ _ (hne i e)]
      exact (h5 i hi).1
  · rw [List.length_set] at hi
    by_cases e : i = j
    · subst e
      rw [World.cell?_setCell_same _ _ _ (h6 i hi)]
      simp [List.getD_eq_getElem?_getD, hi]
    · rw [World.cell?_setCell_other _ _ _ _ (hne i e), h6 i hi]
      rw [List.getD_eq_getElem?_getD, List.getD_eq_getElem?_getD, List.getElem?_set_ne (by omega)]
theorem conv_part {P : Program} {w : World} {src dst e : TypeId} {g cap : Nat} (l : List UInt8) (hs : P.underlying src = some (.slice e)) (he : P.underlying e = some (.int .u8)) (hd : P.underlying dst = some .string)
    (hc : ∀ j, j < l.length → w.cell? ⟨g, j, none⟩ = some (.int .u8 ((l.getD j 0).toNat : Int))) : (convert src dst (.slice (some ⟨g, 0, none⟩) l.length cap)).run P w = .ok (.string ⟨l.toArray⟩) w := by
  refine run_convert_bytes_back w src dst e ⟨g, 0, none⟩ cap l hs he hd (fun j hj => ?_)
  rw [show ((⟨g, 0, none⟩ : Addr).add j) = ⟨g, j, none⟩ from by simp [Addr.add]; omega, hc j hj]
  simp [List.getD_eq_getElem?_getD, hj]
theorem low_great {c : UInt8} (h1 : 65 ≤ (c.toNat : Int)) (h2 : (c.toNat : Int) ≤ 90) : ((low c).toNat : Int) = (c.toNat : Int) + 32 := by
  unfold low
  rw [if_pos (by omega), UInt8.toNat_ofNat']
  omega
theorem low_other {c : UInt8} (h : ¬ (65 ≤ (c.toNat : Int) ∧ (c.toNat : Int) ≤ 90)) : low c = c := by
  unfold low
  rw [if_neg (by omega)]

/-- Bytes made of a text, of which the first so many letters are small. -/
def Mid (w wr : World) (s : ByteArray) (cap k : Nat) : Prop := ow.OwnC wr w.heap.size (.slice (some ⟨w.heap.size, 0, none⟩) s.size cap) (upTo s.data.toList k) ∧ Below w.heap.size w wr
theorem mid_start (w : World) (s : ByteArray) (hs : s.size ≤ maxLen) : Mid w (Lib.bytesWorld w 5 s) s (grownCap w s.size 0 5) 0 := by
  refine ⟨?_, ow.below_conv w _ s⟩
  rw [upTo_zero]
  exact ow.ownC_conv w _ s hs
section
variable {w wr : World} {s : ByteArray} {cap k : Nat}
theorem Mid.cell (h : Mid w wr s cap k) (hk : k < s.size) : wr.cell? ⟨w.heap.size, k, none⟩ = some (.int .u8 (((s[k]'hk).toNat : Nat) : Int)) := by
  obtain ⟨g, cap', hv, h1, h2, h3, h4, h5, h6⟩ := h.1
  simp only [Value.slice.injEq, Option.some.injEq, Addr.mk.injEq, and_true] at hv
  obtain ⟨rfl, hl, rfl⟩ := hv
  have hk' : k < s.data.toList.length := by rw [← Lib.size_eq]; exact hk
  rw [h6 k (by rw [upTo_len]; exact hk'), upTo_at _ _ hk']
  rw [List.getD_eq_getElem?_getD, List.getElem?_eq_getElem hk']
  rfl
theorem Mid.free (h : Mid w wr s cap k) (hk : k < s.size) : wr.frozen? ⟨w.heap.size, k, none⟩ = false := by
  obtain ⟨g, cap', hv, h1, h2, h3, h4, h5, h6⟩ := h.1
  simp only [Value.slice.injEq, Option.some.injEq, Addr.mk.injEq, and_true] at hv
  obtain ⟨rfl, hl, rfl⟩ := hv
  exact (h5 k (by rw [← hl] at h3; omega)).2
theorem getD_at (hk : k < s.size) : s.data.toList.getD k 0 = s[k] := by
  have hk' : k < s.data.toList.length := by rw [← Lib.size_eq]; exact hk
  rw [List.getD_eq_getElem?_getD, List.getElem?_eq_getElem hk']
  rfl
theorem Mid.great (h : Mid w wr s cap k) (hk : k < s.size) (h1 : 65 ≤ ((s[k]'hk).toNat : Int)) (h2 : ((s[k]'hk).toNat : Int) ≤ 90) : Mid w (wr.setCell ⟨w.heap.size, k, none⟩ (.int .u8 (((s[k]'hk).toNat : Int) + 32))) s cap (k + 1) := by
  have hk' : k < s.data.toList.length := by rw [← Lib.size_eq]; exact hk
  refine ⟨?_, h.2.setCell (p := ⟨w.heap.size, k, none⟩) (Nat.le_refl _) _⟩
  rw [upTo_step _ _ hk', getD_at hk, ← low_great h1 h2]
  exact ownC_set h.1 k _ (by rw [upTo_len]; exact hk')
theorem Mid.other (h : Mid w wr s cap k) (hk : k < s.size) (hn : ¬ (65 ≤ ((s[k]'hk).toNat : Int) ∧ ((s[k]'hk).toNat : Int) ≤ 90)) : Mid w wr s cap (k + 1) := by
  have hk' : k < s.data.toList.length := by rw [← Lib.size_eq]; exact hk
  refine ⟨?_, h.2⟩
  rw [upTo_same _ _ hk' (by rw [getD_at hk]; exact low_other hn)]
  exact h.1
theorem Mid.text (h : Mid w wr s cap k) (hk : s.size ≤ k) : (convert 22 9 (.slice (some ⟨w.heap.size, 0, none⟩) s.size cap)).run Tryd.prog wr = .ok (.string ⟨(lower s.data.toList).toArray⟩) wr := by
  obtain ⟨g, cap', hv, h1, h2, h3, h4, h5, h6⟩ := h.1
  simp only [Value.slice.injEq, Option.some.injEq, Addr.mk.injEq, and_true] at hv
  obtain ⟨rfl, hl, rfl⟩ := hv
  rw [upTo_all _ _ (by rw [← Lib.size_eq]; exact hk)] at hl h6
  rw [hl]
  exact conv_part (lower s.data.toList) Tryd.underlying22 Tryd.underlying5 Tryd.underlying9 h6
end
theorem u8_add {c : Int} (h1 : 65 ≤ c) (h2 : c ≤ 90) : IntKind.u8.wrap (c + 32) = c + 32 := by
  have h256 : (2 : Int) ^ IntKind.u8.bits = 256 := rfl
  unfold IntKind.wrap
  simp only [h256, show IntKind.u8.signed = false from rfl, Bool.false_and, Bool.false_eq_true, if_false]
  omega

set_option maxHeartbeats 2000000 in
set_option maxRecDepth 100000 in
theorem impl_lower (s : ByteArray) (w : World) (hs : s.size ≤ 1048576) :
    Calls Tryd.prog 59 #[.string s] w fun e w' => e = .returned (.string ⟨(lower s.data.toList).toArray⟩) ∧ Below w.heap.size w w' := by
  have hcv := Lib.run_convert_string_bytes (P := Tryd.prog) w 9 22 5 s Tryd.underlying9 Tryd.underlying22 Tryd.underlying5
  have HM0 : Hid (Mid w (Lib.bytesWorld w 5 s) s (grownCap w s.size 0 5) 0) := mid_start w s (by unfold maxLen; omega)
  generalize grownCap w s.size 0 5 = cap at hcv HM0
  generalize Lib.bytesWorld w 5 s = W0 at hcv HM0
  go_enter Tryd.func59, Tryd.ntmps59
  go_wp2
  go_loopw [10] (fun i wr => ∃ k : Nat, k ≤ s.size ∧ i = .int .i64 k ∧ Mid w wr s cap k) (fun i _ => s.size - (intOf i).toNat)
  case atStart => exact ⟨0, Nat.zero_le _, rfl, HM0.out⟩
  case round =>
    clear hcv HM0
    obtain ⟨k, hk, rfl, hmid⟩ := hrel
    have HM : Hid (Mid w wr s cap k) := hmid
    by_cases hlt : k < s.size
    · have hlt' : (k : Int) < (s.size : Int) := by omega
      have c0 := hmid.cell hlt
      have f0 := hmid.free hlt
      clear hmid
      by_cases h1 : 65 ≤ ((s[k]'hlt).toNat : Int)
      · have d1 : decide (65 ≤ ((s[k]'hlt).toNat : Int)) = true := decide_eq_true h1
        by_cases h2 : ((s[k]'hlt).toNat : Int) ≤ 90
        · have d2 : decide (((s[k]'hlt).toNat : Int) ≤ 90) = true := decide_eq_true h2
          have hw1 : IntKind.u8.wrap (((s[k]'hlt).toNat : Int) - 65) = ((s[k]'hlt).toNat : Int) - 65 := by
            have h256 : (2 : Int) ^ IntKind.u8.bits = 256 := rfl
            unfold IntKind.wrap
            simp only [h256, show IntKind.u8.signed = false from rfl, Bool.false_and, Bool.false_eq_true, if_false]
            omega
          have hw2 : IntKind.u8.wrap (((s[k]'hlt).toNat : Int) - 65 + 97) = ((s[k]'hlt).toNat : Int) + 32 := by
            rw [show ((s[k]'hlt).toNat : Int) - 65 + 97 = ((s[k]'hlt).toNat : Int) + 32 from by omega]
            exact u8_add h1 h2
          have HN : Hid (Mid w (wr.setCell ⟨w.heap.size, k, none⟩ (.int .u8 (((s[k]'hlt).toNat : Int) + 32))) s cap (k + 1)) := HM.out.great hlt h1 h2
          go_wp2
          go_roundw
          case rel =>
            refine ⟨k + 1, by omega, by go_num, ?_⟩
            first | exact HN.out | (rw [show ((s[k]'hlt).toNat : Int) - 65 + 97 = ((s[k]'hlt).toNat : Int) + 32 from by omega]; exact HN.out)
          case measure => simp [intOf]; omega
        · have d2 : decide (((s[k]'hlt).toNat : Int) ≤ 90) = false := decide_eq_false h2
          have HN : Hid (Mid w wr s cap (k + 1)) := HM.out.other hlt (fun h => h2 h.2)
          go_wp2
          go_roundw
          case rel => exact ⟨k + 1, by omega, by go_num, HN.out⟩
          case measure => simp [intOf]; omega
      · have d1 : decide (65 ≤ ((s[k]'hlt).toNat : Int)) = false := decide_eq_false h1
        have HN : Hid (Mid w wr s cap (k + 1)) := HM.out.other hlt (fun h => h1 h.1)
        go_wp2
        go_roundw
        case rel => exact ⟨k + 1, by omega, by go_num, HN.out⟩
        case measure => simp [intOf]; omega
    · have hlt' : ¬ (k : Int) < (s.size : Int) := by omega
      have htx := hmid.text (by omega)
      clear hmid
      go_wp2
      go_ret
      exact ⟨rfl, HM.out.2⟩
end Go.Proofs.YtbanjkkbobedhaaDoor.lo
