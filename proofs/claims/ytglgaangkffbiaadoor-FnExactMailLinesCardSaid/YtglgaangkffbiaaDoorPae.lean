/-
  The contracts of the specification's ParseMail and of both MailLines functions.
-/
import Derived.Test.YtglgaangkffbiaaDoorPad
namespace Go.Proofs.YtglgaangkffbiaaDoor.ml
open Go.RowKit
set_option linter.unusedVariables false

set_option maxHeartbeats 4000000 in
set_option maxRecDepth 100000 in
theorem specMail_any (s : ByteArray) (w : World) (hs : s.size ≤ 1048576) :
    Calls Tryd.prog 17 #[.string s] w fun e w' => RlRet s.data.toList w.heap.size e w' ∧ Below w.heap.size w w' := by
  by_cases hl : s.size ≤ 65536
  case neg =>
    have hl' : (65536 : Int) < (s.size : Int) := by omega
    go_enter Tryd.func17, Tryd.ntmps17
    go_wp2
    refine bodyPost_ret (v := .tuple #[noMV, .int .i64 2]) (by simp [results, Tryd.results17, go_sem, noMV]) rfl ⟨.inl ⟨by rw [← Lib.size_eq]; omega, rfl⟩, ?_⟩
    exact (Below.refl _ w).alloc (Nat.le_refl _) _
  have hl' : (s.size : Int) ≤ 65536 := by omega
  have HL : Hid (s.data.toList.length ≤ 65536) := (show _ ≤ _ by rw [← Lib.size_eq]; exact hl)
  have HOK : Hid (∀ W, Calls Tryd.prog 34 #[.string s] W fun e w' => e = .returned (.bool (mok 0 s.data.toList)) ∧ w' = W) := fun W => by
    have := spec_mok s W (by unfold maxLen; omega)
    rwa [decide_eq_true hl, Bool.true_and] at this
  go_enter Tryd.func17, Tryd.ntmps17
  go_wp2_with fail
  generalize hW0 : World.alloc _ _ = W0
  have L0 : b2.Box W0 w.heap.size 42 (.slice none 0 0) (.string ⟨#[]⟩) := by rw [← hW0]; exact b2.new _ _ _ _
  have b0 : Below w.heap.size w W0 := by rw [← hW0]; exact (Below.refl _ w).alloc (Nat.le_refl _) _
  clear hW0
  have HB0 : Hid (Below w.heap.size w W0) := b0
  have HL0 : Hid (b2.Box W0 w.heap.size 42 (.slice none 0 0) (.string ⟨#[]⟩)) := L0
  have HO0 := HOK.out W0
  clear b0 HOK
  cases hmk : mok 0 s.data.toList with
  | false =>
    rw [hmk] at HO0
    have HNO : Hid (¬ ∃ fs b, IsMail s.data.toList fs b) := (show ¬ _ from fun ⟨fs, b, h⟩ => by have := h.1; rw [hmk] at this; cases this)
    clear hmk
    refine HO0.mono ?_
    rintro e w1 ⟨rfl, rfl⟩
    have c0 := L0.c0
    have c1 := L0.c1
    have f0 := L0.f 0
    have f1 := L0.f 1
    clear HO0 L0
    go_wp2
    have L2 := HL0.out.put (a' := .slice none 0 0) (b' := .string ⟨#[]⟩)
    have b3 := b2.put_below (a := .slice none 0 0) (b := .string ⟨#[]⟩) HB0.out (Nat.le_refl _)
    clear c0 c1 f0 f1
    unfold b2.put at L2 b3
    generalize hX : World.setCell _ _ _ = X at L2 b3 ⊢
    clear hX
    have c0 := L2.c0
    have c1 := L2.c1
    refine bodyPost_ret (v := .tuple #[noMV, .int .i64 3]) (by simp [results, Tryd.results17, go_sem, noMV, c0, c1]) rfl ⟨.inr (.inl ⟨HL.out, HNO.out, rfl⟩), b3⟩
  | true =>
    rw [hmk] at HO0
    have HMK : Hid (mok 0 s.data.toList = true) := hmk
    clear hmk
    refine HO0.mono ?_
    rintro e w1 ⟨rfl, rfl⟩
    clear HO0 L0
    go_wp2_with fail
    refine (specParse_any s _ hs).mono ?_
    rintro e w2 ⟨hr, hb2⟩
    have hz : w.heap.size ≤ w1.heap.size := HB0.out.size
    have HB2 : Hid (Below w.heap.size w w2) := HB0.out.trans (hb2.mono hz)
    have HL2 : Hid (b2.Box w2 w.heap.size 42 (.slice none 0 0) (.string ⟨#[]⟩)) := HL0.out.below hb2
    clear hb2
    rcases hr with ⟨fs, b, v, hpar, hfl, rfl, hfa⟩ | ⟨hno, a, n, c, b, rfl⟩
    · have HP : Hid (IsMail s.data.toList fs b) := (show IsMail _ _ _ from ⟨HMK.out, hpar, hfl⟩)
      obtain ⟨a, cap, rfl⟩ := fields_form hfa
      have HFA : Hid (FieldsAt w2 w.heap.size (.slice a fs.length cap) fs) := ow.own_base hfa hz
      clear hpar hfl hfa
      unfold MV
      generalize hln : fs.length = ln at *
      generalize htb : tv b = tb
      have htb' : ∃ T : ByteArray, tb = .string T := ⟨_, htb.symm⟩
      obtain ⟨T, rfl⟩ := htb'
      have HTB : Hid (tv b = .string T) := htb
      clear htb
      have L3 : b2.Box (w2.alloc (.cells #[.slice a ln cap, .string T] 42)) w.heap.size 42 (.slice none 0 0) (.string ⟨#[]⟩) := HL2.out.below ((Below.refl _ _).alloc (Nat.le_refl _) _)
      have c0 := L3.c0
      have c1 := L3.c1
      have f0 := L3.f 0
      have f1 := L3.f 1
      have HL3 : Hid (b2.Box (w2.alloc (.cells #[.slice a ln cap, .string T] 42)) w.heap.size 42 (.slice none 0 0) (.string ⟨#[]⟩)) := L3
      clear L3
      go_wp2
      have L4 := HL3.out.put (a' := .slice a ln cap) (b' := .string T)
      have b4 := b2.put_below (a := .slice a ln cap) (b := .string T) (HB2.out.alloc HB2.out.size (.cells #[.slice a ln cap, .string T] 42)) (Nat.le_refl _)
      have o4 : FieldsAt (b2.put (w2.alloc (.cells #[.slice a ln cap, .string T] 42)) w.heap.size (.slice a ln cap) (.string T)) w.heap.size (.slice a ln cap) fs := b2.own_put HL3.out (by decide) (ow.own_below HFA.out ((Below.refl _ _).alloc (Nat.le_refl _) _))
      clear c0 c1 f0 f1
      unfold b2.put at L4 b4 o4
      generalize hX : World.setCell _ _ _ = X at L4 b4 o4 ⊢
      clear hX
      have c0 := L4.c0
      have c1 := L4.c1
      refine bodyPost_ret (v := .tuple #[MV (.slice a ln cap) b, .int .i64 0]) (by simp [results, Tryd.results17, go_sem, MV, HTB.out, c0, c1]) rfl ⟨.inr (.inr ⟨HL.out, fs, _, _, HP.out, rfl, o4⟩), b4⟩
    · have HNO : Hid (¬ ∃ fs b, IsMail s.data.toList fs b) := (show ¬ _ from fun ⟨fs, b, h⟩ => hno ⟨fs, b, h.2.1, h.2.2⟩)
      clear hno
      have L3 : b2.Box (w2.alloc (.cells #[.slice a n c, .string b] 42)) w.heap.size 42 (.slice none 0 0) (.string ⟨#[]⟩) := HL2.out.below ((Below.refl _ _).alloc (Nat.le_refl _) _)
      have c0 := L3.c0
      have c1 := L3.c1
      have f0 := L3.f 0
      have f1 := L3.f 1
      have HL3 : Hid (b2.Box (w2.alloc (.cells #[.slice a n c, .string b] 42)) w.heap.size 42 (.slice none 0 0) (.string ⟨#[]⟩)) := L3
      clear L3
      go_wp2
      have L4 := HL3.out.put (a' := .slice none 0 0) (b' := .string ⟨#[]⟩)
      have b4 := b2.put_below (a := .slice none 0 0) (b := .string ⟨#[]⟩) (HB2.out.alloc HB2.out.size (.cells #[.slice a n c, .string b] 42)) (Nat.le_refl _)
      clear c0 c1 f0 f1
      unfold b2.put at L4 b4
      generalize hX : World.setCell _ _ _ = X at L4 b4 ⊢
      clear hX
      have c0 := L4.c0
      have c1 := L4.c1
      refine bodyPost_ret (v := .tuple #[noMV, .int .i64 3]) (by simp [results, Tryd.results17, go_sem, noMV, c0, c1]) rfl ⟨.inr (.inl ⟨HL.out, HNO.out, rfl⟩), b4⟩

/-- How many ends of lines a text has. -/
def tens (l : B) : Nat := (l.filter (· == 10)).length
theorem tens_app (a b : B) : tens (a ++ b) = tens a + tens b := by simp [tens]
theorem tens_good {l : B} (h : good l = true) : tens l = 0 := by
  unfold tens
  rw [List.length_eq_zero_iff, List.filter_eq_nil_iff]
  intro c hc h10
  have := good_iff.1 h c hc
  rw [beq_iff_eq] at h10
  subst h10
  cases this
theorem count_tens : ∀ (n : Nat) (l : B), l.length ≤ n → mok 0 l = true → Lib.count l nl = tens l
  | n, l, hn, hm => by
    rcases Lib.index_spec l nl with ⟨h, _⟩ | ⟨i, h, _⟩
    · by_cases h0 : l = []
      · subst h0
        rw [Lib.count_miss h]
        rfl
      · rw [mok_none l 0 h (.inr h0)] at hm
        cases hm
    · have hr := Lib.index_room l nl (by rw [h]; omega)
      rw [h] at hr
      have e2 : nl.length = 2 := rfl
      match n with
      | 0 => omega
      | n + 1 =>
        rw [mok_zero h, Bool.and_eq_true, decide_eq_true_iff] at hm
        have ih := count_tens n (l.drop (i + 2)) (by rw [List.length_drop]; omega) hm.2
        have hc := Lib.count_hit (s := l) (sub := nl) (i := i) (by simp [nl]) h
        have hs : l = l.take i ++ (nl ++ l.drop (i + 2)) := by
          have h1 := List.take_append_drop i l
          have h2 := List.take_append_drop 2 (l.drop i)
          rw [(index_at h).1, List.drop_drop] at h2
          rw [h2, h1]
        rw [hc, show i + nl.length = i + 2 from rfl, ih]
        have : tens l = tens (l.take i ++ (nl ++ l.drop (i + 2))) := by rw [← hs]
        rw [this, tens_app, tens_app, tens_good hm.1.1]
        show _ = 0 + (1 + _)
        omega
theorem tens_take (s : ByteArray) (k : Nat) (h : k < s.size) : tens (s.data.toList.take (k + 1)) = tens (s.data.toList.take k) + (if ((s[k]'h).toNat : Int) = 10 then 1 else 0) := by
  rw [take_snoc s k h, tens_app]
  congr 1
  by_cases e : ((s[k]'h).toNat : Int) = 10
  · rw [if_pos e, is_byte (n := 10) (by decide) e]
    rfl
  · rw [if_neg e]
    unfold tens
    rw [List.length_eq_zero_iff, List.filter_eq_nil_iff]
    intro c hc
    rw [List.mem_singleton] at hc
    subst hc
    intro h10
    rw [beq_iff_eq] at h10
    rw [h10] at e
    exact e rfl
theorem tens_le (l : B) : tens l ≤ l.length := List.length_filter_le _ _
def MlRet (l : B) (e : Ending) : Prop :=
  (65536 < l.length ∧ e = .returned (.tuple #[.int .i64 0, .int .i64 2])) ∨
  (l.length ≤ 65536 ∧ (¬ ∃ fs b, IsMail l fs b) ∧ e = .returned (.tuple #[.int .i64 0, .int .i64 3])) ∨
  (l.length ≤ 65536 ∧ ∃ fs b, IsMail l fs b ∧ e = .returned (.tuple #[.int .i64 (tens b : Nat), .int .i64 0]))
theorem ml_ex {l : B} {e : Ending} (h : MlRet l e) : ∃ a c : Int, e = .returned (.tuple #[.int .i64 a, .int .i64 c]) := by
  rcases h with ⟨_, rfl⟩ | ⟨_, _, rfl⟩ | ⟨_, _, _, _, rfl⟩ <;> exact ⟨_, _, rfl⟩
theorem ml_same {l : B} {a c a' c' : Int} (h : MlRet l (.returned (.tuple #[.int .i64 a, .int .i64 c]))) (h' : MlRet l (.returned (.tuple #[.int .i64 a', .int .i64 c']))) : a = a' ∧ c = c' := by
  rcases h with ⟨x, h⟩ | ⟨x, x2, h⟩ | ⟨x, fs, b, hf, h⟩ <;>
  rcases h' with ⟨y, h'⟩ | ⟨y, y2, h'⟩ | ⟨y, fs', b', hf', h'⟩ <;>
  cases h <;> cases h' <;>
  first | exact ⟨rfl, rfl⟩ | (exfalso; omega) | (exfalso; exact x2 ⟨_, _, hf'⟩) | (exfalso; exact y2 ⟨_, _, hf⟩) | (obtain ⟨rfl, rfl⟩ := isMail_one hf hf'; exact ⟨rfl, rfl⟩)
theorem isMail_body {l b : B} {fs : List (B × B)} (h : IsMail l fs b) (hl : l.length ≤ 65536) : mok 0 b = true ∧ b.length ≤ 65536 := by
  obtain ⟨n, h1, h2⟩ := par_len h.2.1
  refine ⟨par_mok h.2.1 h.1, ?_⟩
  rw [h2, List.length_drop]
  omega
theorem countB_tens (s : ByteArray) (h : mok 0 s.data.toList = true) : Lib.countB s ⟨#[13, 10]⟩ = (tens s.data.toList : Nat) := by
  rw [← count_tens _ s.data.toList (Nat.le_refl _) h]
  rfl
set_option maxHeartbeats 1000000 in
theorem lines_any (a : Option Addr) (n c : Nat) (T : ByteArray) (w : World) (m : Int) (hm : w.cell? ⟨0, 0, none⟩ = some (.int .i64 m)) (hs : T.size ≤ 1048576) (hk : mok 0 T.data.toList = true) :
    Calls Tryd.prog 20 #[.agg #[.slice a n c, .string T]] w fun e w' => e = .returned (.int .i64 ((tens T.data.toList : Nat) : Int)) ∧ Below w.heap.size w w' := by
  have hgl := World.block_lt_of_cell? _ _ hm
  have hb : Below w.heap.size w (w.alloc (.cells #[.slice a n c, .string T] 48)) := (Below.refl _ _).alloc (Nat.le_refl _) _
  have HCT := Tryd.strings_Count T ⟨#[13, 10]⟩ m (w.alloc (.cells #[.slice a n c, .string T] 48)) (by omega) ((hb.cell (p := ⟨0, 0, none⟩) hgl).trans hm) (by decide)
  rw [countB_tens T hk] at HCT
  clear hm hgl
  go_enter Tryd.func20, Tryd.ntmps20
  go_wp2_with fail
  refine HCT.mono ?_
  rintro e w2 ⟨rfl, rfl⟩
  go_wp2
  go_ret
  exact ⟨rfl, hb⟩
set_option maxHeartbeats 4000000 in
set_option maxRecDepth 100000 in
theorem implLines_any (s : ByteArray) (w : World) (m : Int) (hm : w.cell? ⟨0, 0, none⟩ = some (.int .i64 m)) (hs : s.size ≤ 1048576) :
    Calls Tryd.prog 7 #[.string s] w fun e w' => MlRet s.data.toList e ∧ Below w.heap.size w w' := by
  have hgl := World.block_lt_of_cell? _ _ hm
  have HM : Hid (∀ W, Below w.heap.size w W → W.cell? ⟨0, 0, none⟩ = some (.int .i64 m)) := fun W hW => (hW.cell (p := ⟨0, 0, none⟩) hgl).trans hm
  have HRL := readLetter_any s w m hm hs
  clear hm hgl
  go_enter Tryd.func7, Tryd.ntmps7
  go_wp2_with fail
  refine HRL.mono ?_
  rintro e w1 ⟨hr, hb1⟩
  have HB1 : Hid (Below w.heap.size w w1) := hb1
  clear HRL hb1
  rcases hr with ⟨hl, rfl⟩ | ⟨hl, hno, rfl⟩ | ⟨hl, fs, b, v, hmail, rfl, hfa⟩
  · unfold noMV
    go_wp2
    go_ret2
    exact ⟨.inl ⟨hl, rfl⟩, HB1.out.alloc HB1.out.size _⟩
  · have HNO : Hid (¬ ∃ fs b, IsMail s.data.toList fs b) := hno
    clear hno
    unfold noMV
    go_wp2
    go_ret2
    exact ⟨.inr (.inl ⟨hl, HNO.out, rfl⟩), HB1.out.alloc HB1.out.size _⟩
  · obtain ⟨a, cap, rfl⟩ := fields_form hfa
    obtain ⟨hbm, hbl⟩ := isMail_body hmail hl
    have HMA : Hid (IsMail s.data.toList fs b) := hmail
    clear hmail hfa
    unfold MV
    generalize hln : fs.length = ln at *
    obtain ⟨T, hT⟩ : ∃ T : ByteArray, T = ⟨b.toArray⟩ := ⟨_, rfl⟩
    have hTl : T.data.toList = b := by rw [hT]
    have hTs : T.size ≤ 65536 := by rw [Lib.size_eq, hTl]; exact hbl
    rw [show tv b = .string T from by rw [hT]; rfl]
    have HLN : Hid (∀ W, Below w.heap.size w W → Calls Tryd.prog 20 #[.agg #[.slice a ln cap, .string T]] W fun e w' => e = .returned (.int .i64 ((tens b : Nat) : Int)) ∧ Below W.heap.size W w') := fun W hW => by
      have := lines_any a ln cap T W m (HM.out _ hW) (by omega) (by rw [hTl]; exact hbm)
      rw [hTl] at this
      exact this
    clear hT hTl hbm
    go_wp2_with fail
    refine (HLN.out _ (HB1.out.alloc HB1.out.size _)).mono ?_
    rintro e w2 ⟨rfl, hb2⟩
    have HB2 : Hid (Below w.heap.size w w2) := (HB1.out.alloc HB1.out.size _).trans (hb2.mono (HB1.out.alloc HB1.out.size _).size)
    clear hb2
    go_wp2
    go_ret2
    exact ⟨.inr (.inr ⟨hl, fs, b, HMA.out, rfl⟩), HB2.out⟩
theorem bit_any (b : Bool) (w : World) : Calls Tryd.prog 18 #[.bool b] w fun e w' => e = .returned (.int .i64 (if b then 1 else 0)) ∧ w' = w := by
  cases b
  all_goals
    go_enter Tryd.func18, Tryd.ntmps18
    go_wp2
    go_ret
    exact ⟨rfl, rfl⟩
set_option maxHeartbeats 4000000 in
set_option maxRecDepth 100000 in
theorem specLines_any (s : ByteArray) (w : World) (hs : s.size ≤ 1048576) :
    Calls Tryd.prog 6 #[.string s] w fun e w' => MlRet s.data.toList e ∧ Below w.heap.size w w' := by
  by_cases hl0 : s.size ≤ 65536
  case neg =>
    have hl' : (65536 : Int) < (s.size : Int) := by omega
    go_enter Tryd.func6, Tryd.ntmps6
    go_wp2
    go_ret2
    exact ⟨.inl ⟨by rw [← Lib.size_eq]; omega, rfl⟩, Below.refl _ _⟩
  have hl' : (s.size : Int) ≤ 65536 := by omega
  go_enter Tryd.func6, Tryd.ntmps6
  go_wp2_with fail
  refine (specMail_any s w hs).mono ?_
  rintro e w1 ⟨hr, hb1⟩
  have HB1 : Hid (Below w.heap.size w w1) := hb1
  clear hb1
  rcases hr with ⟨hl, rfl⟩ | ⟨hl, hno, rfl⟩ | ⟨hl, fs, b, v, hmail, rfl, hfa⟩
  · unfold noMV
    go_wp2
    go_ret2
    exact ⟨.inl ⟨hl, rfl⟩, HB1.out.alloc HB1.out.size _⟩
  · have HNO : Hid (¬ ∃ fs b, IsMail s.data.toList fs b) := hno
    clear hno
    unfold noMV
    go_wp2
    go_ret2
    exact ⟨.inr (.inl ⟨hl, HNO.out, rfl⟩), HB1.out.alloc HB1.out.size _⟩
  · obtain ⟨a, cap, rfl⟩ := fields_form hfa
    obtain ⟨hbm, hbl⟩ := isMail_body hmail hl
    have HMA : Hid (IsMail s.data.toList fs b) := hmail
    clear hmail hfa hbm
    unfold MV
    generalize hln : fs.length = ln at *
    obtain ⟨T, hT⟩ : ∃ T : ByteArray, T = ⟨b.toArray⟩ := ⟨_, rfl⟩
    have hTl : T.data.toList = b := by rw [hT]
    have hTs : T.size ≤ 65536 := by rw [Lib.size_eq, hTl]; exact hbl
    rw [show tv b = .string T from by rw [hT]; rfl]
    have HTL : Hid (T.data.toList = b) := hTl
    clear hT hTl
    go_wp2_with fail
    generalize hW0 : World.alloc _ _ = W0
    have L0 : b2.Box W0 w1.heap.size 42 (.slice a ln cap) (.string T) := by rw [← hW0]; exact b2.new _ _ _ _
    have HB0 : Hid (Below w.heap.size w W0) := (show Below _ _ _ by rw [← hW0]; exact HB1.out.alloc HB1.out.size _)
    have c1 := L0.c1
    clear hW0 L0 HB1
    go_loop [6, 7] (fun q i => ∃ k : Nat, k ≤ T.size ∧ i = .int .i64 k ∧ q = .int .i64 ((tens (T.data.toList.take k) : Nat) : Int)) (fun _ i => T.size - (intOf i).toNat)
    case atStart => exact ⟨0, Nat.zero_le _, rfl, rfl⟩
    case round =>
      obtain ⟨k, hk, rfl, rfl⟩ := hrel
      have hq : tens (T.data.toList.take k) ≤ 65536 := Nat.le_trans (tens_le _) (by rw [List.length_take]; omega)
      by_cases hlt : k < T.size
      · have hlt' : (k : Int) < (T.size : Int) := by omega
        have HT1 := tens_take T k hlt
        obtain ⟨q, hqe⟩ : ∃ q, q = tens (T.data.toList.take k) := ⟨_, rfl⟩
        rw [← hqe] at hq HT1 ⊢
        clear hqe
        by_cases h10 : ((T[k]'hlt).toNat : Int) = 10
        · have d10 : (((T[k]'hlt).toNat : Int) == 10) = true := beq_iff_eq.2 h10
          rw [if_pos h10] at HT1
          have HT2 : Hid (tens (T.data.toList.take (k + 1)) = q + 1) := HT1
          clear HT1 h10
          have HBIT : Hid (∀ W, Calls Tryd.prog 18 #[.bool true] W fun e w' => e = .returned (.int .i64 1) ∧ w' = W) := fun W => bit_any true W
          go_wp2_with (go_at_call 18; refine (HBIT.out _).mono ?_; rintro e w' ⟨rfl, rfl⟩)
          go_round
          case rel => exact ⟨k + 1, by omega, by go_num, by rw [HT2.out]; go_num⟩
          case measure => simp [intOf]; omega
        · have d10 : (((T[k]'hlt).toNat : Int) == 10) = false := beq_eq_false_iff_ne.2 h10
          rw [if_neg h10] at HT1
          have HT2 : Hid (tens (T.data.toList.take (k + 1)) = q) := HT1
          clear HT1
          have HBIT : Hid (∀ W, Calls Tryd.prog 18 #[.bool false] W fun e w' => e = .returned (.int .i64 0) ∧ w' = W) := fun W => bit_any false W
          go_wp2_with (go_at_call 18; refine (HBIT.out _).mono ?_; rintro e w' ⟨rfl, rfl⟩)
          go_round
          case rel => exact ⟨k + 1, by omega, by go_num, by rw [HT2.out]⟩
          case measure => simp [intOf]; omega
      · have hlt' : ¬ (k : Int) < (T.size : Int) := by omega
        have e : tens (T.data.toList.take k) = tens b := by rw [take_all T k (by omega), HTL.out]
        rw [e]
        clear e hq
        go_wp2
        go_ret2
        exact ⟨.inr (.inr ⟨hl, fs, b, HMA.out, rfl⟩), HB0.out⟩
end Go.Proofs.YtglgaangkffbiaaDoor.ml
