/-
  The program's XmlTokens over an escaped text as an attribute and as an element's text.
-/
import Derived.Test.YtjncdnnllaoccaaGreatDoorXrm
namespace Go.Proofs.YtjncdnnllaoccaaGreatDoor.xd
open Go.RowKit
set_option linter.unusedVariables false

def K3e (B b : Nat) (S T : ByteArray) (w1 : World) (w' : World) : Prop := ∃ vT vO a len cap, Rb w' b S 12 vT vO ∧ w'.ownsRow B 34 4 vT 2 [.int .i64 1, .string nA, .slice a len cap, .string no, .int .i64 2, .string nA, .slice none 0 0, .string no] ∧ w'.ownsRow B 9 1 vO 0 [] ∧ OneAt B w' a len cap nB T ∧ Gl w' ∧ Fr B b w1 w'
theorem go_end0 {B b : Nat} {S T : ByteArray} {w1 : World} (hbB : b < B) (hgB : 1 < B) (hgb : 1 ≠ b) (hs : S.size ≤ 65536) (hB1 : B ≤ w1.heap.size)
    (hS : S.data.toList = [60, 97, 32, 98, 61, 34] ++ (34 :: 62 :: [60, 47, 97, 62])) (w' : World) (hK : K1 B b 0 S T w1 w') (k0 : Nat) :
    Calls Tryz.prog 58 #[.pointer (some ⟨b, 0, none⟩)] (w'.drewN k0) fun e w'' => e = .returned .nilIface ∧ K3e B b S T w1 w'' := by
  obtain ⟨vT, vO, a, len, cap, hr, hT, hO, hA, hG, hF⟩ := hK
  have hz : S.size = 12 := by rw [Lib.size_eq, hS]; rfl
  have e0 : S.data.toList.drop (0 + 8) = 60 :: 47 :: [97, 62] := by rw [hS]; rfl
  have e2 : S.data.toList.drop (0 + 8 + 2) = 97 :: 62 :: [] := by rw [hS]; rfl
  have e3 : S.data.toList.drop 11 = 62 :: [] := by rw [hS]; rfl
  have hb2 : B ≤ w'.heap.size := Nat.le_trans hB1 hF.2.2.2.1
  refine next_end b _ S vT vO w' hr (by omega) hs _ e0 _ (fun n => ?_) k0
  refine (end_yes B b _ 1 0 11 11 S nA vT vO _ [] (w'.drewN n) (hr.drew n) hT hO (by omega) (by omega) hbB hb2 (by omega) hs _ _ e0 (by rw [while_one e2 (by decide) (by decide)]; decide) (run_one e2 (by decide) (by decide)) (ext_one e2) (run_no e3 (by decide)) e3).mono ?_
  rintro e w3 ⟨rfl, vT', vO', r3, t3, o3, f3⟩
  exact ⟨rfl, vT', vO', a, len, cap, r3, t3, o3, one_fr hA f3 hbB, hG.fr f3 hgB hgb, hF.trans f3⟩

/-- The tokens of the text: a beginning, the text if there is one, an end. -/
def TokRow (t : List UInt8) (a : Option Addr) (len cap n : Nat) (tk : List Value) : Prop :=
  (t ≠ [] ∧ n = 3 ∧ tk = [.int .i64 1, .string nA, .slice a len cap, .string no, .int .i64 3, .string no, .slice none 0 0, .string ⟨t.toArray⟩, .int .i64 2, .string nA, .slice none 0 0, .string no]) ∨
  (t = [] ∧ n = 2 ∧ tk = [.int .i64 1, .string nA, .slice a len cap, .string no, .int .i64 2, .string nA, .slice none 0 0, .string no])
def Done (B b : Nat) (S : ByteArray) (t : List UInt8) (w1 w' : World) : Prop := ∃ vT vO a len cap m tk, Rb w' b S S.size vT vO ∧ TokRow t a len cap (m + 1) tk ∧ w'.ownsRow B 34 4 vT (m + 1) tk ∧ w'.ownsRow B 9 1 vO 0 [] ∧ OneAt B w' a len cap nB ⟨t.toArray⟩ ∧ Fr B b w1 w'

theorem all_esc (b : Nat) (S : ByteArray) (t : List UInt8) (w1 : World) (hs : S.size ≤ 65536) (hgood : xm.GoodTo S S.size) (hG : Gl w1) (hgb : 1 < b) (hB : b + 2 ≤ w1.heap.size) (hr : Rb w1 b S 0 (.slice none 0 0) (.slice none 0 0))
    (hS : S.data.toList = [60, 97, 32, 98, 61, 34] ++ (xm.esc t ++ (34 :: 62 :: (xm.esc t ++ [60, 47, 97, 62])))) :
    Calls Tryz.prog 28 #[.pointer (some ⟨b, 0, none⟩)] w1 fun e w' => e = .returned .nilIface ∧ Done (b + 2) b S t w1 w' := by
  have hz : S.size = (xm.esc t).length + 8 + (xm.esc t).length + 4 := by rw [Lib.size_eq, hS]; simp; omega
  have h0 : ∀ w', Below w1.heap.size w1 w' → K0 (b + 2) b S w1 w' := fun w' hb => ⟨_, _, hr.keep hb, World.ownsRow_nil _ _ _ _, World.ownsRow_nil _ _ _ _, hG.below hb, Fr.below hb⟩
  by_cases hne : t = []
  · subst hne
    have hS' : S.data.toList = [60, 97, 32, 98, 61, 34] ++ (34 :: 62 :: [60, 47, 97, 62]) := by rw [hS]; rfl
    have hz' : S.size = 12 := hz
    refine (all_yes b 2 S w1 hs hgood (fun i => match i with | 0 => K0 (b + 2) b S w1 | 1 => K1 (b + 2) b 0 S ⟨([] : List UInt8).toArray⟩ w1 | _ => K3e (b + 2) b S ⟨([] : List UInt8).toArray⟩ w1) (fun i => match i with | 0 => 0 | 1 => 8 | _ => 12) h0 ⟨_, _, hr⟩ ?_ ?_ hz'.symm ?_ ?_ ?_).mono ?_
    · intro i w' h
      match i, h with
      | 0, ⟨vT, vO, h, _⟩ => exact ⟨_, _, h⟩
      | 1, ⟨vT, vO, a, len, cap, h, _⟩ => exact ⟨_, _, h⟩
      | i + 2, ⟨vT, vO, a, len, cap, h, _⟩ => exact ⟨_, _, h⟩
    · intro i hi
      match i, hi with
      | 0, _ => exact ⟨by show 0 < S.size; omega, by decide⟩
      | 1, _ => exact ⟨by show 8 < S.size; omega, by decide⟩
    · intro i w' hi h n
      match i, hi, h with
      | 0, _, h => exact go_start (by omega) (by omega) (by omega) hs hB hS w' h n
      | 1, _, h => exact go_end0 (by omega) (by omega) (by omega) hs hB hS' w' h n
    · rintro w' ⟨vT, vO, a, len, cap, h, hT, hO, _⟩
      obtain ⟨x, c, rfl⟩ := row_form hT
      obtain ⟨y, d, rfl⟩ := row_form hO
      exact ⟨_, 1, _, _, _, h⟩
    · intro w' n h
      exact h
    · rintro e w' ⟨rfl, vT, vO, a, len, cap, h, hT, hO, hA, _, hF⟩
      exact ⟨rfl, vT, vO, a, len, cap, 1, _, by rw [hz']; exact h, .inr ⟨rfl, rfl, rfl⟩, hT, hO, hA, hF⟩
  · refine (all_yes b 3 S w1 hs hgood (fun i => match i with | 0 => K0 (b + 2) b S w1 | 1 => K1 (b + 2) b (xm.esc t).length S ⟨t.toArray⟩ w1 | 2 => K2 (b + 2) b (xm.esc t).length S ⟨t.toArray⟩ w1 | _ => K3 (b + 2) b (xm.esc t).length S ⟨t.toArray⟩ w1) (fun i => match i with | 0 => 0 | 1 => (xm.esc t).length + 8 | 2 => (xm.esc t).length + 8 + (xm.esc t).length | _ => (xm.esc t).length + 8 + (xm.esc t).length + 4) h0 ⟨_, _, hr⟩ ?_ ?_ hz.symm ?_ ?_ ?_).mono ?_
    · intro i w' h
      match i, h with
      | 0, ⟨vT, vO, h, _⟩ => exact ⟨_, _, h⟩
      | 1, ⟨vT, vO, a, len, cap, h, _⟩ => exact ⟨_, _, h⟩
      | 2, ⟨vT, vO, a, len, cap, h, _⟩ => exact ⟨_, _, h⟩
      | i + 3, ⟨vT, vO, a, len, cap, h, _⟩ => exact ⟨_, _, h⟩
    · intro i hi
      have hpos : 0 < (xm.esc t).length := by
        obtain ⟨c, t', rfl⟩ : ∃ c t', t = c :: t' := by cases t with
          | nil => exact absurd rfl hne
          | cons c t' => exact ⟨c, t', rfl⟩
        obtain ⟨d, r, h, _⟩ := esc_head c t'
        rw [h]; simp
      match i, hi with
      | 0, _ => exact ⟨by show 0 < S.size; omega, by show 0 < (xm.esc t).length + 8; omega⟩
      | 1, _ => exact ⟨by show (xm.esc t).length + 8 < S.size; omega, by show (xm.esc t).length + 8 < (xm.esc t).length + 8 + (xm.esc t).length; omega⟩
      | 2, _ => exact ⟨by show (xm.esc t).length + 8 + (xm.esc t).length < S.size; omega, by show (xm.esc t).length + 8 + (xm.esc t).length < (xm.esc t).length + 8 + (xm.esc t).length + 4; omega⟩
    · intro i w' hi h n
      match i, hi, h with
      | 0, _, h => exact go_start (by omega) (by omega) (by omega) hs hB hS w' h n
      | 1, _, h => exact go_text (by omega) (by omega) (by omega) hs hB hS hne w' h n
      | 2, _, h => exact go_end (by omega) (by omega) (by omega) hs hB hS w' h n
    · rintro w' ⟨vT, vO, a, len, cap, h, hT, hO, _⟩
      obtain ⟨x, c, rfl⟩ := row_form hT
      obtain ⟨y, d, rfl⟩ := row_form hO
      exact ⟨_, 2, _, _, _, h⟩
    · intro w' n h
      exact h
    · rintro e w' ⟨rfl, vT, vO, a, len, cap, h, hT, hO, hA, _, hF⟩
      exact ⟨rfl, vT, vO, a, len, cap, 2, _, by rw [hz]; exact h, .inl ⟨hne, rfl, rfl⟩, hT, hO, hA, hF⟩

set_option maxHeartbeats 1000000 in
theorem as_nil (v : Value) (w : World) : Calls Tryz.prog 27 #[.nilIface, v] w fun e w' => e = .returned (.bool false) ∧ w' = w := by
  go_enter Tryz.func27, Tryz.ntmps27
  go_wp2
  go_ret
  exact ⟨rfl, rfl⟩

set_option maxHeartbeats 4000000 in
set_option maxRecDepth 100000 in
theorem tokens_esc (S : ByteArray) (t : List UInt8) (w : World) (hs : S.size ≤ 65536) (hgood : xm.GoodTo S S.size) (hG : Gl w)
    (hS : S.data.toList = [60, 97, 32, 98, 61, 34] ++ (xm.esc t ++ (34 :: 62 :: (xm.esc t ++ [60, 47, 97, 62])))) :
    Calls Tryz.prog 9 #[.string S] w fun e w' => ∃ aT n cT a len cap tk, e = .returned (.tuple #[.slice aT n cT, .int .i64 S.size, .int .i64 0]) ∧ TokRow t a len cap n tk ∧ w'.ownsRow w.heap.size 34 4 (.slice aT n cT) n tk ∧ OneAt w.heap.size w' a len cap nB ⟨t.toArray⟩ ∧ Below w.heap.size w w' := by
  have hs' : (S.size : Int) ≤ 65536 := by omega
  obtain ⟨w1, hw1⟩ : ∃ w1, w1 = (w.alloc (.cells #[.string S, .int .i64 0, .slice none 0 0, .slice none 0 0] 49)).alloc (.cells #[.int .i64 0, .int .i64 0] 51) := ⟨_, rfl⟩
  have b1 : Below w.heap.size w w1 := by rw [hw1]; exact ((Below.refl _ _).alloc (Nat.le_refl _) _).alloc (by simp) _
  have r1 : Rb w1 w.heap.size S 0 (.slice none 0 0) (.slice none 0 0) := by
    show w1.heap[w.heap.size]? = _
    rw [hw1, Below.heap_alloc _ _ _ (by simp)]
    exact (MapKept.heap_alloc w _).1
  have hsz : w.heap.size + 2 ≤ w1.heap.size := by rw [hw1]; simp
  have hg0 : 1 < w.heap.size := by obtain ⟨m, hm⟩ := hG; exact World.block_lt_of_cell? w _ hm
  have HALL : Hid (Calls Tryz.prog 28 #[.pointer (some ⟨w.heap.size, 0, none⟩)] w1 fun e w' => e = .returned .nilIface ∧ Done (w.heap.size + 2) w.heap.size S t w1 w') :=
    all_esc w.heap.size S t w1 hs hgood (hG.below b1) hg0 hsz r1 hS
  clear hG hgood hS r1
  go_enter Tryz.func9, Tryz.ntmps9
  go_wp2_with fail
  rw [← hw1]
  clear hw1
  refine HALL.out.mono ?_
  rintro e w2 ⟨rfl, vT, vO, a, len, cap, m, tk, r2, hrow, hT, hO, hA, hF⟩
  obtain ⟨aT, cT, rfl⟩ := row_form hT
  have FIN : Hid (∀ n : Nat, ∃ aT' n' cT' a len cap tk, (Value.slice aT (m + 1) cT = .slice aT' n' cT') ∧ TokRow t a len cap n' tk ∧ (w2.drewN n).ownsRow w.heap.size 34 4 (.slice aT' n' cT') n' tk ∧ OneAt w.heap.size (w2.drewN n) a len cap nB ⟨t.toArray⟩ ∧ Below w.heap.size w (w2.drewN n)) := fun n => by
    refine ⟨aT, m + 1, cT, a, len, cap, tk, rfl, hrow, ow.own_base hT (by omega), one_base hA (by omega), ?_⟩
    exact ⟨hF.1.trans b1.os, hF.2.1.trans b1.tape, hF.2.2.1.trans b1.output, Nat.le_trans b1.size hF.2.2.2.1, fun k hk => (hF.2.2.2.2 k (by omega) (by omega) (.inl (by omega))).trans (b1.block k hk)⟩
  have c1 := r2.c1
  have c2 := r2.c2
  clear r2 hrow hT hO hA hF HALL
  go_wp2_with fail
  refine (as_nil _ _).mono ?_
  rintro e w3 ⟨rfl, rfl⟩
  go_wp2
  go_quiet (fail)
  go_wp2
  go_ret3
  obtain ⟨aT', n', cT', a, len, cap, tk, he, h1, h2, h3, h4⟩ := FIN.out _
  cases he
  exact ⟨_, _, _, _, _, _, _, rfl, h1, h2, h3, h4⟩
end Go.Proofs.YtjncdnnllaoccaaGreatDoor.xd
