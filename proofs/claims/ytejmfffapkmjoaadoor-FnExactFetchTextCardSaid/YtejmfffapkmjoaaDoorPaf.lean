/-
  The contracts of both MailPart functions.
-/
import Derived.Test.YtejmfffapkmjoaaDoorPae
namespace Go.Proofs.YtejmfffapkmjoaaDoor.ml
open Go.RowKit
set_option linter.unusedVariables false

def hdr : B := [72, 69, 65, 68, 69, 82]
def txt : B := [84, 69, 88, 84]
/-- The part of a mail that is asked for. -/
def partOf (l p b : B) : B := if p = [] then l else if p = hdr then l.take (l.length - b.length) else b
def MpRet (l p : B) (e : Ending) : Prop :=
  ((65536 < l.length ∨ 65536 < p.length) ∧ e = .returned (.tuple #[.string ⟨#[]⟩, .int .i64 2])) ∨
  (l.length ≤ 65536 ∧ p.length ≤ 65536 ∧ ¬ (p = [] ∨ p = hdr ∨ p = txt) ∧ e = .returned (.tuple #[.string ⟨#[]⟩, .int .i64 1])) ∨
  (l.length ≤ 65536 ∧ p.length ≤ 65536 ∧ (p = [] ∨ p = hdr ∨ p = txt) ∧ (¬ ∃ fs b, IsMail l fs b) ∧ e = .returned (.tuple #[.string ⟨#[]⟩, .int .i64 3])) ∨
  (l.length ≤ 65536 ∧ p.length ≤ 65536 ∧ (p = [] ∨ p = hdr ∨ p = txt) ∧ ∃ fs b, IsMail l fs b ∧ e = .returned (.tuple #[tv (partOf l p b), .int .i64 0]))
theorem mp_ex {l p : B} {e : Ending} (h : MpRet l p e) : ∃ (a : ByteArray) (c : Int), e = .returned (.tuple #[.string a, .int .i64 c]) := by
  rcases h with ⟨_, rfl⟩ | ⟨_, _, _, rfl⟩ | ⟨_, _, _, _, rfl⟩ | ⟨_, _, _, _, _, _, rfl⟩ <;> exact ⟨_, _, rfl⟩
theorem mp_same {l p : B} {a a' : ByteArray} {c c' : Int} (h : MpRet l p (.returned (.tuple #[.string a, .int .i64 c]))) (h' : MpRet l p (.returned (.tuple #[.string a', .int .i64 c']))) : a = a' ∧ c = c' := by
  rcases h with ⟨x, h⟩ | ⟨x, x1, x2, h⟩ | ⟨x, x1, x2, x3, h⟩ | ⟨x, x1, x2, fs, b, hf, h⟩ <;>
  rcases h' with ⟨y, h'⟩ | ⟨y, y1, y2, h'⟩ | ⟨y, y1, y2, y3, h'⟩ | ⟨y, y1, y2, fs', b', hf', h'⟩ <;>
  cases h <;> cases h' <;>
  first | exact ⟨rfl, rfl⟩ | (exfalso; omega) | (exfalso; exact x2 y2) | (exfalso; exact y2 x2) | (exfalso; exact x3 ⟨_, _, hf'⟩) | (exfalso; exact y3 ⟨_, _, hf⟩) | (obtain ⟨rfl, rfl⟩ := isMail_one hf hf'; exact ⟨rfl, rfl⟩)
theorem tl_beq (P : ByteArray) (x : B) : (P.toList == x) = decide (P.data.toList = x) := by
  rw [Lib.toList_data, Bool.eq_iff_iff, beq_iff_eq, decide_eq_true_iff]
theorem tl_empty (P : ByteArray) : P.toList.isEmpty = decide (P.data.toList = []) := by
  rw [Lib.toList_data, Bool.eq_iff_iff, List.isEmpty_iff, decide_eq_true_iff]
/-- The four ways in which a part can be asked for, as the walk meets them. -/
theorem part_cases (P : ByteArray) :
    (P.data.toList = [] ∧ P.toList.isEmpty = true ∧ (P.toList == [72, 69, 65, 68, 69, 82]) = false ∧ (P.toList == [84, 69, 88, 84]) = false) ∨
    (P.data.toList = hdr ∧ P.toList.isEmpty = false ∧ (P.toList == [72, 69, 65, 68, 69, 82]) = true ∧ (P.toList == [84, 69, 88, 84]) = false) ∨
    (P.data.toList = txt ∧ P.toList.isEmpty = false ∧ (P.toList == [72, 69, 65, 68, 69, 82]) = false ∧ (P.toList == [84, 69, 88, 84]) = true) ∨
    (¬ (P.data.toList = [] ∨ P.data.toList = hdr ∨ P.data.toList = txt) ∧ P.toList.isEmpty = false ∧ (P.toList == [72, 69, 65, 68, 69, 82]) = false ∧ (P.toList == [84, 69, 88, 84]) = false) := by
  rw [tl_beq, tl_beq, tl_empty]
  by_cases h1 : P.data.toList = []
  · left; rw [h1]; decide
  by_cases h2 : P.data.toList = hdr
  · right; left; rw [h2]; decide
  by_cases h3 : P.data.toList = txt
  · right; right; left; rw [h3]; decide
  · right; right; right
    exact ⟨fun h => by rcases h with h | h | h; exact h1 h; exact h2 h; exact h3 h, decide_eq_false h1, decide_eq_false h2, decide_eq_false h3⟩

def WhRet (l : B) (e : Ending) : Prop :=
  ((¬ ∃ fs b, IsMail l fs b) ∧ e = .returned (.tuple #[noMV, .bool false])) ∨
  (∃ fs b a n c, IsMail l fs b ∧ e = .returned (.tuple #[MV (.slice a n c) b, .bool true]))
set_option maxHeartbeats 4000000 in
set_option maxRecDepth 100000 in
theorem specWhole_any (s : ByteArray) (w : World) (hs : s.size ≤ 65536) :
    Calls Tryd.prog 31 #[.string s] w fun e w' => WhRet s.data.toList e ∧ Below w.heap.size w w' := by
  have HOK : Hid (∀ W, Calls Tryd.prog 44 #[.string s] W fun e w' => e = .returned (.bool (mok 0 s.data.toList)) ∧ w' = W) := fun W => by
    have := spec_mok s W (by unfold maxLen; omega)
    rwa [decide_eq_true hs, Bool.true_and] at this
  go_enter Tryd.func31, Tryd.ntmps31
  go_wp2_with fail
  generalize hW0 : World.alloc _ _ = W0
  have HL0 : Hid (b2.Box W0 w.heap.size 62 (.slice none 0 0) (.string ⟨#[]⟩)) := (show b2.Box _ _ _ _ _ by rw [← hW0]; exact b2.new _ _ _ _)
  have HB0 : Hid (Below w.heap.size w W0) := (show Below _ _ _ by rw [← hW0]; exact (Below.refl _ w).alloc (Nat.le_refl _) _)
  clear hW0
  refine (specParse_any s W0 (by omega)).mono ?_
  rintro e w2 ⟨hr, hb2⟩
  have hz : w.heap.size ≤ W0.heap.size := HB0.out.size
  have HB2 : Hid (Below w.heap.size w w2) := HB0.out.trans (hb2.mono hz)
  have HL2 : Hid (b2.Box w2 w.heap.size 62 (.slice none 0 0) (.string ⟨#[]⟩)) := HL0.out.below hb2
  clear hb2 HB0 HL0
  rcases hr with ⟨fs, b, v, hpar, hfl, rfl, hfa⟩ | ⟨hno, a, n, c, b, rfl⟩
  · obtain ⟨a, cap, rfl⟩ := fields_form hfa
    clear hfa
    unfold MV
    obtain ⟨T, hT⟩ : ∃ T : ByteArray, T = ⟨b.toArray⟩ := ⟨_, rfl⟩
    have htb : tv b = .string T := by rw [hT]; rfl
    rw [htb]
    have HTB : Hid (tv b = .string T) := htb
    clear hT htb
    have HIS : Hid (mok 0 s.data.toList = true → IsMail s.data.toList fs b) := fun h => ⟨h, hpar, hfl⟩
    clear hpar hfl
    generalize hln : fs.length = ln at *
    have L3 : b2.Box (w2.alloc (.cells #[.slice a ln cap, .string T] 62)) w.heap.size 62 (.slice none 0 0) (.string ⟨#[]⟩) := HL2.out.below ((Below.refl _ _).alloc (Nat.le_refl _) _)
    have c0 := L3.c0
    have c1 := L3.c1
    have f0 := L3.f 0
    have f1 := L3.f 1
    have HL3 : Hid (b2.Box (w2.alloc (.cells #[.slice a ln cap, .string T] 62)) w.heap.size 62 (.slice none 0 0) (.string ⟨#[]⟩)) := L3
    have HB3 : Hid (Below w.heap.size w (w2.alloc (.cells #[.slice a ln cap, .string T] 62))) := HB2.out.alloc HB2.out.size _
    clear L3
    cases hmk : mok 0 s.data.toList with
    | true =>
      have HI : Hid (IsMail s.data.toList fs b) := HIS.out hmk
      have HO1 : Hid (∀ W, Calls Tryd.prog 44 #[.string s] W fun e w' => e = .returned (.bool true) ∧ w' = W) := fun W => by have := HOK.out W; rwa [hmk] at this
      clear hmk HIS HOK
      go_wp2_with (go_at_call 44; refine (HO1.out _).mono ?_; rintro e w' ⟨rfl, rfl⟩)
      have L4 := HL3.out.put (a' := .slice a ln cap) (b' := .string T)
      have b4 := b2.put_below (a := .slice a ln cap) (b := .string T) HB3.out (Nat.le_refl _)
      clear c0 c1 f0 f1
      unfold b2.put at L4 b4
      generalize hX : World.setCell _ _ _ = X at L4 b4 ⊢
      clear hX
      have c0 := L4.c0
      have c1 := L4.c1
      refine bodyPost_ret (v := .tuple #[MV (.slice a ln cap) b, .bool true]) (by simp [results, Tryd.results31, go_sem, MV, HTB.out, c0, c1]) rfl ⟨.inr ⟨fs, b, _, _, _, HI.out, rfl⟩, b4⟩
    | false =>
      have HN : Hid (¬ ∃ fs b, IsMail s.data.toList fs b) := (show ¬ _ from fun ⟨fs, b, h⟩ => by have := h.1; rw [hmk] at this; cases this)
      have HO1 : Hid (∀ W, Calls Tryd.prog 44 #[.string s] W fun e w' => e = .returned (.bool false) ∧ w' = W) := fun W => by have := HOK.out W; rwa [hmk] at this
      clear hmk HIS HOK
      go_wp2_with (go_at_call 44; refine (HO1.out _).mono ?_; rintro e w' ⟨rfl, rfl⟩)
      have L4 := HL3.out.put (a' := .slice none 0 0) (b' := .string ⟨#[]⟩)
      have b4 := b2.put_below (a := .slice none 0 0) (b := .string ⟨#[]⟩) HB3.out (Nat.le_refl _)
      clear c0 c1 f0 f1
      unfold b2.put at L4 b4
      generalize hX : World.setCell _ _ _ = X at L4 b4 ⊢
      clear hX
      have c0 := L4.c0
      have c1 := L4.c1
      refine bodyPost_ret (v := .tuple #[noMV, .bool false]) (by simp [results, Tryd.results31, go_sem, noMV, c0, c1]) rfl ⟨.inl ⟨HN.out, rfl⟩, b4⟩
  · have HN : Hid (¬ ∃ fs b, IsMail s.data.toList fs b) := (show ¬ _ from fun ⟨fs, b, h⟩ => hno ⟨fs, b, h.2.1, h.2.2⟩)
    clear hno HOK
    have L3 : b2.Box (w2.alloc (.cells #[.slice a n c, .string b] 62)) w.heap.size 62 (.slice none 0 0) (.string ⟨#[]⟩) := HL2.out.below ((Below.refl _ _).alloc (Nat.le_refl _) _)
    have c0 := L3.c0
    have c1 := L3.c1
    have f0 := L3.f 0
    have f1 := L3.f 1
    have HL3 : Hid (b2.Box (w2.alloc (.cells #[.slice a n c, .string b] 62)) w.heap.size 62 (.slice none 0 0) (.string ⟨#[]⟩)) := L3
    have HB3 : Hid (Below w.heap.size w (w2.alloc (.cells #[.slice a n c, .string b] 62))) := HB2.out.alloc HB2.out.size _
    clear L3
    go_wp2
    have L4 := HL3.out.put (a' := .slice none 0 0) (b' := .string ⟨#[]⟩)
    have b4 := b2.put_below (a := .slice none 0 0) (b := .string ⟨#[]⟩) HB3.out (Nat.le_refl _)
    clear c0 c1 f0 f1
    unfold b2.put at L4 b4
    generalize hX : World.setCell _ _ _ = X at L4 b4 ⊢
    clear hX
    have c0 := L4.c0
    have c1 := L4.c1
    refine bodyPost_ret (v := .tuple #[noMV, .bool false]) (by simp [results, Tryd.results31, go_sem, noMV, c0, c1]) rfl ⟨.inl ⟨HN.out, rfl⟩, b4⟩
/-- What the specification's part answers to a part that is one. -/
def PtRet (l p : B) (e : Ending) : Prop :=
  ((¬ ∃ fs b, IsMail l fs b) ∧ e = .returned (.tuple #[.string ⟨#[]⟩, .bool false])) ∨
  (∃ fs b, IsMail l fs b ∧ e = .returned (.tuple #[tv (partOf l p b), .bool true]))
theorem tv_front (s : ByteArray) (n : Nat) : tv (s.data.toList.take n) = .string (s.extract 0 n) := by
  unfold tv
  rw [← ext_front, ← mk_list]
theorem tv_all (s : ByteArray) : tv s.data.toList = .string s := by
  unfold tv
  rw [← mk_list]
set_option maxHeartbeats 4000000 in
set_option maxRecDepth 100000 in
theorem specPt_any (s p : ByteArray) (w : World) (hs : s.size ≤ 65536) (hp : p.data.toList = [] ∨ p.data.toList = hdr ∨ p.data.toList = txt) :
    Calls Tryd.prog 22 #[.string s, .string p] w fun e w' => PtRet s.data.toList p.data.toList e ∧ Below w.heap.size w w' := by
  have HPC := part_cases p
  go_enter Tryd.func22, Tryd.ntmps22
  go_wp2_with fail
  refine (specWhole_any s w hs).mono ?_
  rintro e w1 ⟨hr, hb1⟩
  have HB1 : Hid (Below w.heap.size w w1) := hb1
  clear hb1
  rcases hr with ⟨hno, rfl⟩ | ⟨fs, b, a, n, c, hmail, rfl⟩
  · have HNO : Hid (¬ ∃ fs b, IsMail s.data.toList fs b) := hno
    clear hno HPC
    unfold noMV
    go_wp2
    go_ret2
    exact ⟨.inl ⟨HNO.out, rfl⟩, HB1.out.alloc HB1.out.size _⟩
  · have hbl := (isMail_body hmail (by rw [← Lib.size_eq]; exact hs)).2
    obtain ⟨k, hk1, hk2⟩ := par_len hmail.2.1
    have HMA : Hid (IsMail s.data.toList fs b) := hmail
    clear hmail
    unfold MV
    obtain ⟨T, hT⟩ : ∃ T : ByteArray, T = ⟨b.toArray⟩ := ⟨_, rfl⟩
    have htb : tv b = .string T := by rw [hT]; rfl
    have hTl : T.size = b.length := by rw [Lib.size_eq, hT]
    have hTs : T.size ≤ s.size := by rw [hTl, hk2, List.length_drop, Lib.size_eq]; omega
    have HLE : Hid (s.data.toList.length - b.length = s.size - T.size) := (show _ = _ by rw [hTl, Lib.size_eq])
    rw [htb]
    have HTB : Hid (tv b = .string T) := htb
    clear hT htb hTl hk1 hk2 hbl
    have hTs' : (T.size : Int) ≤ (s.size : Int) := by omega
    have hsub : (0 : Int) ≤ (s.size : Int) - (T.size : Int) := by omega
    rcases HPC with ⟨q0, q1, q2, q3⟩ | ⟨q0, q1, q2, q3⟩ | ⟨q0, q1, q2, q3⟩ | ⟨q0, _⟩
    · have HQ : Hid (tv (partOf s.data.toList p.data.toList b) = .string s) := (show _ = _ by rw [q0, partOf, if_pos rfl, tv_all])
      clear q0 hp
      go_wp2
      go_ret2
      exact ⟨.inr ⟨fs, b, HMA.out, by rw [HQ.out]; rfl⟩, HB1.out.alloc HB1.out.size _⟩
    · have HQ : Hid (tv (partOf s.data.toList p.data.toList b) = .string (s.extract 0 (s.size - T.size))) := (show _ = _ by rw [q0, partOf, if_neg (by decide), if_pos rfl, tv_front, HLE.out])
      clear q0 hp
      go_wp2
      go_ret2
      exact ⟨.inr ⟨fs, b, HMA.out, by rw [HQ.out]; rfl⟩, HB1.out.alloc HB1.out.size _⟩
    · have HQ : Hid (tv (partOf s.data.toList p.data.toList b) = .string T) := (show _ = _ by rw [q0, partOf, if_neg (by decide), if_neg (by decide), HTB.out])
      clear q0 hp
      go_wp2
      go_ret2
      exact ⟨.inr ⟨fs, b, HMA.out, by rw [HQ.out]; rfl⟩, HB1.out.alloc HB1.out.size _⟩
    · exact absurd hp q0
end Go.Proofs.YtejmfffapkmjoaaDoor.ml
