/-
  Contracts of impl.escaped and of the specification's l05Escape: a text with the signs of XML escaped; and of both EscapeXml functions.
-/
import Derived.Test.YtbgoejalbhkmeaaDoorXmc
import Derived.Test.YtbgoejalbhkmeaaDoorBld
import Derived.Test.YtbgoejalbhkmeaaDoorBsf
import Derived.BigRegion
namespace Go.Proofs.YtbgoejalbhkmeaaDoor.xm
open Go.RowKit
set_option linter.unusedVariables false

def escB (c : UInt8) : List UInt8 :=
  if c = 38 then [38, 97, 109, 112, 59] else if c = 60 then [38, 108, 116, 59] else if c = 62 then [38, 103, 116, 59]
  else if c = 34 then [38, 113, 117, 111, 116, 59] else if c = 13 then [38, 35, 49, 51, 59] else [c]
/-- A text, its signs escaped. -/
def esc (l : List UInt8) : List UInt8 := l.flatMap escB

theorem escB_len (c : UInt8) : (escB c).length ≤ 6 ∧ 1 ≤ (escB c).length := by
  unfold escB
  (repeat' split) <;> simp
theorem esc_len (l : List UInt8) : (esc l).length ≤ 6 * l.length := by
  induction l with
  | nil => simp [esc]
  | cons c l ih =>
    have := (escB_len c).1
    simp only [esc, List.flatMap_cons, List.length_append, List.length_cons] at ih ⊢
    omega
theorem esc_append (a b : List UInt8) : esc (a ++ b) = esc a ++ esc b := by simp [esc]
theorem esc_step (s : ByteArray) (k : Nat) (h : k < s.size) : esc (s.data.toList.take (k + 1)) = esc (s.data.toList.take k) ++ escB s[k] := by
  rw [take_snoc s k h, esc_append]; simp [esc]
theorem esc_take (s : ByteArray) (k : Nat) : (esc (s.data.toList.take k)).length ≤ 6 * s.size := by
  have h1 := esc_len (s.data.toList.take k)
  have h2 : (s.data.toList.take k).length ≤ s.data.toList.length := by rw [List.length_take]; omega
  rw [← Lib.size_eq] at h2
  omega
theorem is_n (n : UInt8) : ∀ c : UInt8, ((c.toNat : Int) == (n.toNat : Int)) = (c == n) := fun c => by
  rw [Bool.eq_iff_iff]; simp only [beq_iff_eq]
  constructor
  · intro h; exact UInt8.toNat_inj.1 (by omega)
  · rintro rfl; rfl
theorem is38 (c : UInt8) : ((c.toNat : Int) == 38) = (c == 38) := is_n 38 c
theorem is60 (c : UInt8) : ((c.toNat : Int) == 60) = (c == 60) := is_n 60 c
theorem is62 (c : UInt8) : ((c.toNat : Int) == 62) = (c == 62) := is_n 62 c
theorem is34 (c : UInt8) : ((c.toNat : Int) == 34) = (c == 34) := is_n 34 c
theorem is13 (c : UInt8) : ((c.toNat : Int) == 13) = (c == 13) := is_n 13 c

/-- The kinds of a byte that is escaped. -/
theorem esc_cases (c : UInt8) : (c = 38 ∧ escB c = [38, 97, 109, 112, 59]) ∨ (c = 60 ∧ escB c = [38, 108, 116, 59]) ∨ (c = 62 ∧ escB c = [38, 103, 116, 59]) ∨ (c = 34 ∧ escB c = [38, 113, 117, 111, 116, 59]) ∨ (c = 13 ∧ escB c = [38, 35, 49, 51, 59]) ∨
    ((c == 38) = false ∧ (c == 60) = false ∧ (c == 62) = false ∧ (c == 34) = false ∧ (c == 13) = false ∧ escB c = [c]) := by
  by_cases h1 : c = 38
  · exact .inl ⟨h1, by rw [escB, if_pos h1]⟩
  by_cases h2 : c = 60
  · exact .inr (.inl ⟨h2, by rw [escB, if_neg h1, if_pos h2]⟩)
  by_cases h3 : c = 62
  · exact .inr (.inr (.inl ⟨h3, by rw [escB, if_neg h1, if_neg h2, if_pos h3]⟩))
  by_cases h4 : c = 34
  · exact .inr (.inr (.inr (.inl ⟨h4, by rw [escB, if_neg h1, if_neg h2, if_neg h3, if_pos h4]⟩)))
  by_cases h5 : c = 13
  · exact .inr (.inr (.inr (.inr (.inl ⟨h5, by rw [escB, if_neg h1, if_neg h2, if_neg h3, if_neg h4, if_pos h5]⟩))))
  · exact .inr (.inr (.inr (.inr (.inr ⟨beq_eq_false_iff_ne.2 h1, beq_eq_false_iff_ne.2 h2, beq_eq_false_iff_ne.2 h3, beq_eq_false_iff_ne.2 h4, beq_eq_false_iff_ne.2 h5, by rw [escB, if_neg h1, if_neg h2, if_neg h3, if_neg h4, if_neg h5]⟩))))

set_option maxHeartbeats 2000000 in
set_option maxRecDepth 100000 in
theorem impl_esc (s : ByteArray) (w : World) (hs : s.size ≤ 1048576) :
    Calls Tryd.prog 28 #[.string s] w fun e w' => e = .returned (.string ⟨(esc s.data.toList).toArray⟩) ∧ Below w.heap.size w w' := by
  go_enter Tryd.func28, Tryd.ntmps28
  go_wp2
  go_loopw [8] (fun i wr => ∃ k : Nat, k ≤ s.size ∧ i = .int .i64 k ∧ bl.Bd w.heap.size w.heap.size (esc (s.data.toList.take k)) wr ∧ Below w.heap.size w wr) (fun i _ => s.size - (intOf i).toNat)
  case atStart => exact ⟨0, Nat.zero_le _, rfl, bl.fresh w, (Below.refl _ _).alloc (Nat.le_refl _) _⟩
  case round =>
    obtain ⟨k, hk, rfl, hbd, hbw⟩ := hrel
    have HL := esc_take s k
    by_cases hlt : k < s.size
    · have HS : Hid (esc (s.data.toList.take (k + 1)) = esc (s.data.toList.take k) ++ escB s[k]) := esc_step s k hlt
      obtain ⟨c, hc⟩ : ∃ c, c = s[k]'hlt := ⟨_, rfl⟩
      have b38 := is38 c
      have b60 := is60 c
      have b62 := is62 c
      have b34 := is34 c
      have b13 := is13 c
      rcases esc_cases c with ⟨rfl, he⟩ | ⟨rfl, he⟩ | ⟨rfl, he⟩ | ⟨rfl, he⟩ | ⟨rfl, he⟩ | ⟨e1, e2, e3, e4, e5, he⟩
      · rw [← hc, he] at HS
        have hcz : ((s[k]'hlt).toNat : Int) = 38 := by rw [← hc]; rfl
        clear b38 b60 b62 b34 b13 hc he
        go_wp2_with (go_at_call 41; refine (bl.text w.heap.size w.heap.size _ ⟨#[38, 97, 109, 112, 59]⟩ _ hbd (by show _ + 5 ≤ _; omega) hbw.size).mono ?_; rintro e w2 ⟨⟨v, rfl⟩, hb2, hbw2⟩; have hbw3 := hbw.trans hbw2; clear hbd hbw hbw2)
        go_roundw
        case rel => exact ⟨k + 1, by omega, by go_num, by rw [HS.out]; exact hb2, hbw3⟩
        case measure => simp [intOf]; omega
      · rw [← hc, he] at HS
        have hcz : ((s[k]'hlt).toNat : Int) = 60 := by rw [← hc]; rfl
        clear b38 b60 b62 b34 b13 hc he
        go_wp2_with (go_at_call 41; refine (bl.text w.heap.size w.heap.size _ ⟨#[38, 108, 116, 59]⟩ _ hbd (by show _ + 4 ≤ _; omega) hbw.size).mono ?_; rintro e w2 ⟨⟨v, rfl⟩, hb2, hbw2⟩; have hbw3 := hbw.trans hbw2; clear hbd hbw hbw2)
        go_roundw
        case rel => exact ⟨k + 1, by omega, by go_num, by rw [HS.out]; exact hb2, hbw3⟩
        case measure => simp [intOf]; omega
      · rw [← hc, he] at HS
        have hcz : ((s[k]'hlt).toNat : Int) = 62 := by rw [← hc]; rfl
        clear b38 b60 b62 b34 b13 hc he
        go_wp2_with (go_at_call 41; refine (bl.text w.heap.size w.heap.size _ ⟨#[38, 103, 116, 59]⟩ _ hbd (by show _ + 4 ≤ _; omega) hbw.size).mono ?_; rintro e w2 ⟨⟨v, rfl⟩, hb2, hbw2⟩; have hbw3 := hbw.trans hbw2; clear hbd hbw hbw2)
        go_roundw
        case rel => exact ⟨k + 1, by omega, by go_num, by rw [HS.out]; exact hb2, hbw3⟩
        case measure => simp [intOf]; omega
      · rw [← hc, he] at HS
        have hcz : ((s[k]'hlt).toNat : Int) = 34 := by rw [← hc]; rfl
        clear b38 b60 b62 b34 b13 hc he
        go_wp2_with (go_at_call 41; refine (bl.text w.heap.size w.heap.size _ ⟨#[38, 113, 117, 111, 116, 59]⟩ _ hbd (by show _ + 6 ≤ _; omega) hbw.size).mono ?_; rintro e w2 ⟨⟨v, rfl⟩, hb2, hbw2⟩; have hbw3 := hbw.trans hbw2; clear hbd hbw hbw2)
        go_roundw
        case rel => exact ⟨k + 1, by omega, by go_num, by rw [HS.out]; exact hb2, hbw3⟩
        case measure => simp [intOf]; omega
      · rw [← hc, he] at HS
        have hcz : ((s[k]'hlt).toNat : Int) = 13 := by rw [← hc]; rfl
        clear b38 b60 b62 b34 b13 hc he
        go_wp2_with (go_at_call 41; refine (bl.text w.heap.size w.heap.size _ ⟨#[38, 35, 49, 51, 59]⟩ _ hbd (by show _ + 5 ≤ _; omega) hbw.size).mono ?_; rintro e w2 ⟨⟨v, rfl⟩, hb2, hbw2⟩; have hbw3 := hbw.trans hbw2; clear hbd hbw hbw2)
        go_roundw
        case rel => exact ⟨k + 1, by omega, by go_num, by rw [HS.out]; exact hb2, hbw3⟩
        case measure => simp [intOf]; omega
      · rw [← hc, he] at HS
        rw [e1] at b38
        rw [e2] at b60
        rw [e3] at b62
        rw [e4] at b34
        rw [e5] at b13
        rw [hc] at b38 b60 b62 b34 b13
        clear e1 e2 e3 e4 e5 he
        go_wp2_with (go_at_call 42; refine (bl.byte w.heap.size w.heap.size _ (s[k]'hlt) _ hbd (by omega) hbw.size).mono ?_; rintro e w2 ⟨⟨v, rfl⟩, hb2, hbw2⟩; have hbw3 := hbw.trans hbw2; clear hbd hbw hbw2)
        go_roundw
        case rel => exact ⟨k + 1, by omega, by go_num, by rw [HS.out, hc]; exact hb2, hbw3⟩
        case measure => simp [intOf]; omega
    · have HT : Hid (s.data.toList.take k = s.data.toList) := take_all s k (by omega)
      go_wp2_with fail
      refine (bl.said w.heap.size w.heap.size _ _ hbd hbw.size).mono ?_
      rintro e w2 ⟨rfl, hb2⟩
      go_wp2
      go_ret
      exact ⟨by rw [HT.out]; rfl, hbw.trans hb2⟩
set_option maxHeartbeats 4000000 in
set_option maxRecDepth 100000 in
theorem spec_esc (s : ByteArray) (w : World) (hs : s.size ≤ 1048576) :
    Calls Tryd.prog 35 #[.string s] w fun e w' => e = .returned (.string ⟨(esc s.data.toList).toArray⟩) ∧ Below w.heap.size w w' := by
  obtain ⟨i0, hi, hz0, hz1, hz2⟩ := info_parts bl.info1
  go_enter Tryd.func35, Tryd.ntmps35
  go_wp2
  go_loopw [3, 4] (fun o i wr => ∃ k : Nat, k ≤ s.size ∧ i = .int .i64 k ∧ wr.ownsRow w.heap.size 5 1 o (esc (s.data.toList.take k)).length (Lib.byteCells (esc (s.data.toList.take k))) ∧ Below w.heap.size w wr) (fun _ i _ => s.size - (intOf i).toNat)
  case atStart => exact ⟨0, Nat.zero_le _, rfl, ow.own_empty _ _, (Below.refl _ _).alloc (Nat.le_refl _) _⟩
  case round =>
    obtain ⟨k, hk, rfl, hown, hbw⟩ := hrel
    have HL := esc_take s k
    have hsz := hbw.size
    by_cases hlt : k < s.size
    · have HS : Hid (esc (s.data.toList.take (k + 1)) = esc (s.data.toList.take k) ++ escB s[k]) := esc_step s k hlt
      obtain ⟨c, hc⟩ : ∃ c, c = s[k]'hlt := ⟨_, rfl⟩
      have b38 := is38 c
      have b60 := is60 c
      have b62 := is62 c
      have b34 := is34 c
      have b13 := is13 c
      rcases esc_cases c with ⟨rfl, he⟩ | ⟨rfl, he⟩ | ⟨rfl, he⟩ | ⟨rfl, he⟩ | ⟨rfl, he⟩ | ⟨e1, e2, e3, e4, e5, he⟩
      · rw [← hc, he] at HS
        have hcz : ((s[k]'hlt).toNat : Int) = 38 := by rw [← hc]; rfl
        clear b38 b60 b62 b34 b13 hc he
        go_wp2_with (at_builtin; go_loud (refine Lib.wpList_append_own_string _ rfl _ _ 57 9 rfl w.heap.size 5 i0 Tryd.underlying57 Tryd.underlying9 hi hz0 hz1 hz2 _ _ _ rfl hown ⟨#[38, 97, 109, 112, 59]⟩ rfl (by show _ + 5 ≤ _; unfold maxLen; omega) (by show _ + 5 ≤ _; omega) hsz ?_); intro v' w4 hown' hgrow _)
        have hgz := hbw.grown hgrow hsz (ow.own_lt hown)
        rw [Lib.strCells_eq, ← Lib.byteCells_append] at hown'
        clear hown hgrow
        go_wp2
        go_roundw
        case rel => exact ⟨k + 1, by omega, by go_num, by rw [HS.out, List.length_append]; exact hown', hgz⟩
        case measure => simp [intOf]; omega
      · rw [← hc, he] at HS
        have hcz : ((s[k]'hlt).toNat : Int) = 60 := by rw [← hc]; rfl
        clear b38 b60 b62 b34 b13 hc he
        go_wp2_with (at_builtin; go_loud (refine Lib.wpList_append_own_string _ rfl _ _ 57 9 rfl w.heap.size 5 i0 Tryd.underlying57 Tryd.underlying9 hi hz0 hz1 hz2 _ _ _ rfl hown ⟨#[38, 108, 116, 59]⟩ rfl (by show _ + 4 ≤ _; unfold maxLen; omega) (by show _ + 4 ≤ _; omega) hsz ?_); intro v' w4 hown' hgrow _)
        have hgz := hbw.grown hgrow hsz (ow.own_lt hown)
        rw [Lib.strCells_eq, ← Lib.byteCells_append] at hown'
        clear hown hgrow
        go_wp2
        go_roundw
        case rel => exact ⟨k + 1, by omega, by go_num, by rw [HS.out, List.length_append]; exact hown', hgz⟩
        case measure => simp [intOf]; omega
      · rw [← hc, he] at HS
        have hcz : ((s[k]'hlt).toNat : Int) = 62 := by rw [← hc]; rfl
        clear b38 b60 b62 b34 b13 hc he
        go_wp2_with (at_builtin; go_loud (refine Lib.wpList_append_own_string _ rfl _ _ 57 9 rfl w.heap.size 5 i0 Tryd.underlying57 Tryd.underlying9 hi hz0 hz1 hz2 _ _ _ rfl hown ⟨#[38, 103, 116, 59]⟩ rfl (by show _ + 4 ≤ _; unfold maxLen; omega) (by show _ + 4 ≤ _; omega) hsz ?_); intro v' w4 hown' hgrow _)
        have hgz := hbw.grown hgrow hsz (ow.own_lt hown)
        rw [Lib.strCells_eq, ← Lib.byteCells_append] at hown'
        clear hown hgrow
        go_wp2
        go_roundw
        case rel => exact ⟨k + 1, by omega, by go_num, by rw [HS.out, List.length_append]; exact hown', hgz⟩
        case measure => simp [intOf]; omega
      · rw [← hc, he] at HS
        have hcz : ((s[k]'hlt).toNat : Int) = 34 := by rw [← hc]; rfl
        clear b38 b60 b62 b34 b13 hc he
        go_wp2_with (at_builtin; go_loud (refine Lib.wpList_append_own_string _ rfl _ _ 57 9 rfl w.heap.size 5 i0 Tryd.underlying57 Tryd.underlying9 hi hz0 hz1 hz2 _ _ _ rfl hown ⟨#[38, 113, 117, 111, 116, 59]⟩ rfl (by show _ + 6 ≤ _; unfold maxLen; omega) (by show _ + 6 ≤ _; omega) hsz ?_); intro v' w4 hown' hgrow _)
        have hgz := hbw.grown hgrow hsz (ow.own_lt hown)
        rw [Lib.strCells_eq, ← Lib.byteCells_append] at hown'
        clear hown hgrow
        go_wp2
        go_roundw
        case rel => exact ⟨k + 1, by omega, by go_num, by rw [HS.out, List.length_append]; exact hown', hgz⟩
        case measure => simp [intOf]; omega
      · rw [← hc, he] at HS
        have hcz : ((s[k]'hlt).toNat : Int) = 13 := by rw [← hc]; rfl
        clear b38 b60 b62 b34 b13 hc he
        go_wp2_with (at_builtin; go_loud (refine Lib.wpList_append_own_string _ rfl _ _ 57 9 rfl w.heap.size 5 i0 Tryd.underlying57 Tryd.underlying9 hi hz0 hz1 hz2 _ _ _ rfl hown ⟨#[38, 35, 49, 51, 59]⟩ rfl (by show _ + 5 ≤ _; unfold maxLen; omega) (by show _ + 5 ≤ _; omega) hsz ?_); intro v' w4 hown' hgrow _)
        have hgz := hbw.grown hgrow hsz (ow.own_lt hown)
        rw [Lib.strCells_eq, ← Lib.byteCells_append] at hown'
        clear hown hgrow
        go_wp2
        go_roundw
        case rel => exact ⟨k + 1, by omega, by go_num, by rw [HS.out, List.length_append]; exact hown', hgz⟩
        case measure => simp [intOf]; omega
      · rw [← hc, he] at HS
        rw [e1] at b38
        rw [e2] at b60
        rw [e3] at b62
        rw [e4] at b34
        rw [e5] at b13
        rw [hc] at b38 b60 b62 b34 b13
        clear e1 e2 e3 e4 e5 he
        go_wp2_with (at_builtin; go_loud (refine wpList_append_own _ rfl _ _ 57 rfl w.heap.size 5 i0 (.int .u8 0) 1 1 Tryd.underlying57 hi hz0 hz1 hz2 rfl (by decide) _ _ _ rfl (hown.alloc _) ⟨wr.heap.size, 0, none⟩ 1 1 [Value.int .u8 ((s[k]'hlt).toNat : Int)] rfl rfl (ow.cells_new wr _ 5) (by simp [Value.oneCell']) (by unfold maxLen; omega) (by omega) (by simp; omega) ?_); intro v' w3 hown' hgrow _)
        have hbz := (hbw.alloc hsz _).grown hgrow (by simp; omega) (ow.own_lt hown)
        have hown2 : w3.ownsRow w.heap.size 5 1 v' (esc (s.data.toList.take (k + 1))).length (Lib.byteCells (esc (s.data.toList.take (k + 1)))) := by rw [HS.out, List.length_append, Lib.byteCells_append, hc]; exact hown'
        clear hown' hown hgrow
        go_wp2
        go_roundw
        case rel => exact ⟨k + 1, by omega, by go_num, hown2, hbz⟩
        case measure => simp [intOf]; omega
    · have HT : Hid (s.data.toList.take k = s.data.toList) := take_all s k (by omega)
      have hcv := ow.conv_bytes (P := Tryd.prog) (esc (s.data.toList.take k)) hown Tryd.underlying57 Tryd.underlying5 Tryd.underlying9
      go_wp2
      go_ret
      exact ⟨by rw [HT.out]; rfl, hbw⟩
end Go.Proofs.YtbgoejalbhkmeaaDoor.xm
