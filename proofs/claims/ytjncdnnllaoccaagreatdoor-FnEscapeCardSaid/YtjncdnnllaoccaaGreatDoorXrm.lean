/-
  The places in a text of one element with one attribute, and what an escaped text is made of.
-/
import Derived.Test.YtjncdnnllaoccaaGreatDoorXrl
import Derived.Test.YtjncdnnllaoccaaGreatDoorXmd
namespace Go.Proofs.YtjncdnnllaoccaaGreatDoor.xd
open Go.RowKit
set_option linter.unusedVariables false

def unitOf (c : UInt8) : U :=
  if c = 38 then .inr ([97, 109, 112], 38) else if c = 60 then .inr ([108, 116], 60) else if c = 62 then .inr ([103, 116], 62)
  else if c = 34 then .inr ([113, 117, 111, 116], 34) else if c = 13 then .inr ([35, 49, 51], 13) else .inl c
theorem unit_facts (c : UInt8) : (unitOf c).inp = xm.escB c ∧ (unitOf c).out = c ∧ U.ok 34 (unitOf c) ∧ U.ok 60 (unitOf c) ∧ ∃ d r, xm.escB c = d :: r ∧ d ≠ 60 := by
  unfold unitOf xm.escB
  by_cases h1 : c = 38
  · rw [if_pos h1, if_pos h1]; subst h1; exact ⟨rfl, rfl, .inl ⟨rfl, rfl⟩, .inl ⟨rfl, rfl⟩, _, _, rfl, by decide⟩
  by_cases h2 : c = 60
  · rw [if_neg h1, if_pos h2, if_neg h1, if_pos h2]; subst h2; exact ⟨rfl, rfl, .inr (.inl ⟨rfl, rfl⟩), .inr (.inl ⟨rfl, rfl⟩), _, _, rfl, by decide⟩
  by_cases h3 : c = 62
  · rw [if_neg h1, if_neg h2, if_pos h3, if_neg h1, if_neg h2, if_pos h3]; subst h3; exact ⟨rfl, rfl, .inr (.inr (.inl ⟨rfl, rfl⟩)), .inr (.inr (.inl ⟨rfl, rfl⟩)), _, _, rfl, by decide⟩
  by_cases h4 : c = 34
  · rw [if_neg h1, if_neg h2, if_neg h3, if_pos h4, if_neg h1, if_neg h2, if_neg h3, if_pos h4]; subst h4; exact ⟨rfl, rfl, .inr (.inr (.inr (.inl ⟨rfl, rfl⟩))), .inr (.inr (.inr (.inl ⟨rfl, rfl⟩))), _, _, rfl, by decide⟩
  by_cases h5 : c = 13
  · rw [if_neg h1, if_neg h2, if_neg h3, if_neg h4, if_pos h5, if_neg h1, if_neg h2, if_neg h3, if_neg h4, if_pos h5]; subst h5; exact ⟨rfl, rfl, .inr (.inr (.inr (.inr ⟨rfl, rfl⟩))), .inr (.inr (.inr (.inr ⟨rfl, rfl⟩))), _, _, rfl, by decide⟩
  · rw [if_neg h1, if_neg h2, if_neg h3, if_neg h4, if_neg h5, if_neg h1, if_neg h2, if_neg h3, if_neg h4, if_neg h5]; exact ⟨rfl, rfl, ⟨h4, h1, h5⟩, ⟨h2, h1, h5⟩, _, _, rfl, h2⟩
def units (t : List UInt8) : List U := t.map unitOf
theorem units_inp (t : List UInt8) : inps (units t) = xm.esc t := by
  induction t with
  | nil => rfl
  | cons c t ih => simp only [inps, units, List.map_cons, List.flatMap_cons, xm.esc] at ih ⊢; rw [(unit_facts c).1, ih]
theorem units_out (t : List UInt8) : outs (units t) = t := by
  induction t with
  | nil => rfl
  | cons c t ih => simp only [outs, units, List.map_cons] at ih ⊢; rw [(unit_facts c).2.1, ih]
theorem units_ok (t : List UInt8) : (∀ u ∈ units t, U.ok 34 u) ∧ ∀ u ∈ units t, U.ok 60 u := by
  refine ⟨fun u hu => ?_, fun u hu => ?_⟩
  · obtain ⟨c, _, rfl⟩ := List.mem_map.1 hu; exact (unit_facts c).2.2.1
  · obtain ⟨c, _, rfl⟩ := List.mem_map.1 hu; exact (unit_facts c).2.2.2.1
theorem esc_head (c : UInt8) (t : List UInt8) : ∃ d r, xm.esc (c :: t) = d :: r ∧ d ≠ 60 := by
  obtain ⟨d, r, h, hd⟩ := (unit_facts c).2.2.2.2
  exact ⟨d, r ++ xm.esc t, by simp only [xm.esc, List.flatMap_cons, h, List.cons_append], hd⟩

theorem run_no {q : UInt8 → Bool} {l r : List UInt8} {k : Nat} {c : UInt8} (h : l.drop k = c :: r) (hq : q c = false) : run q l k = k := by
  unfold run; rw [h, List.takeWhile_cons, if_neg (by rw [hq]; simp)]; simp
theorem while_one {q : UInt8 → Bool} {l r : List UInt8} {k : Nat} {c d : UInt8} (h : l.drop k = c :: d :: r) (hc : q c = true) (hd : q d = false) : (l.drop k).takeWhile q = [c] := by
  rw [h, List.takeWhile_cons, if_pos hc, List.takeWhile_cons, if_neg (by rw [hd]; simp)]
theorem run_one {q : UInt8 → Bool} {l r : List UInt8} {k : Nat} {c d : UInt8} (h : l.drop k = c :: d :: r) (hc : q c = true) (hd : q d = false) : run q l k = k + 1 := by
  unfold run; rw [while_one h hc hd]; rfl
theorem ext_one {s : ByteArray} {k : Nat} {c : UInt8} {r : List UInt8} (h : s.data.toList.drop k = c :: r) : s.extract k (k + 1) = ⟨#[c]⟩ := by
  refine WideShapes.bytes_inj ?_
  rw [ext_list, h, Nat.add_sub_cancel_left]
  rfl
theorem Gl.fr {B b : Nat} {w w' : World} (h : Gl w) (hf : Fr B b w w') (h1 : 1 < B) (h2 : 1 ≠ b) : Gl w' := by
  obtain ⟨m, hm⟩ := h
  exact ⟨m, (World.cell?_of_block (w := w) (a := ⟨1, 0, none⟩) (hf.2.2.2.2 _ (World.block_lt_of_cell? w _ hm) h2 (.inl h1))).trans hm⟩

section
variable (B b n : Nat) (S : ByteArray) (T : ByteArray) (w1 : World)
def nA : ByteArray := ⟨#[97]⟩
def nB : ByteArray := ⟨#[98]⟩
def no : ByteArray := ⟨#[]⟩
def K0 (w' : World) : Prop := ∃ vT vO, Rb w' b S 0 vT vO ∧ w'.ownsRow B 34 4 vT 0 [] ∧ w'.ownsRow B 9 1 vO 0 [] ∧ Gl w' ∧ Fr B b w1 w'
def K1 (w' : World) : Prop := ∃ vT vO a len cap, Rb w' b S (n + 8) vT vO ∧ w'.ownsRow B 34 4 vT 1 [.int .i64 1, .string nA, .slice a len cap, .string no] ∧ w'.ownsRow B 9 1 vO 1 [.string nA] ∧ OneAt B w' a len cap nB T ∧ Gl w' ∧ Fr B b w1 w'
def K2 (w' : World) : Prop := ∃ vT vO a len cap, Rb w' b S (n + 8 + n) vT vO ∧ w'.ownsRow B 34 4 vT 2 [.int .i64 1, .string nA, .slice a len cap, .string no, .int .i64 3, .string no, .slice none 0 0, .string T] ∧ w'.ownsRow B 9 1 vO 1 [.string nA] ∧ OneAt B w' a len cap nB T ∧ Gl w' ∧ Fr B b w1 w'
def K3 (w' : World) : Prop := ∃ vT vO a len cap, Rb w' b S (n + 8 + n + 4) vT vO ∧ w'.ownsRow B 34 4 vT 3 [.int .i64 1, .string nA, .slice a len cap, .string no, .int .i64 3, .string no, .slice none 0 0, .string T, .int .i64 2, .string nA, .slice none 0 0, .string no] ∧ w'.ownsRow B 9 1 vO 0 [] ∧ OneAt B w' a len cap nB T ∧ Gl w' ∧ Fr B b w1 w'
end

theorem go_start {B b : Nat} {S : ByteArray} {t : List UInt8} {w1 : World} (hbB : b < B) (hgB : 1 < B) (hgb : 1 ≠ b) (hs : S.size ≤ 65536) (hB1 : B ≤ w1.heap.size)
    (hS : S.data.toList = [60, 97, 32, 98, 61, 34] ++ (xm.esc t ++ (34 :: 62 :: (xm.esc t ++ [60, 47, 97, 62]))))
    (w' : World) (hK : K0 B b S w1 w') (k0 : Nat) :
    Calls Tryz.prog 58 #[.pointer (some ⟨b, 0, none⟩)] (w'.drewN k0) fun e w'' => e = .returned .nilIface ∧ K1 B b (xm.esc t).length S ⟨t.toArray⟩ w1 w'' := by
  obtain ⟨vT, vO, hr, hT, hO, hG, hF⟩ := hK
  have d0 : S.data.toList.drop 0 = 60 :: 97 :: 32 :: 98 :: 61 :: 34 :: (xm.esc t ++ (34 :: 62 :: (xm.esc t ++ [60, 47, 97, 62]))) := by rw [hS]; rfl
  have d1 : S.data.toList.drop (0 + 1) = 97 :: 32 :: 98 :: 61 :: 34 :: (xm.esc t ++ (34 :: 62 :: (xm.esc t ++ [60, 47, 97, 62]))) := by rw [hS]; rfl
  have d2 : S.data.toList.drop 2 = 32 :: 98 :: 61 :: 34 :: (xm.esc t ++ (34 :: 62 :: (xm.esc t ++ [60, 47, 97, 62]))) := by rw [hS]; rfl
  have d3 : S.data.toList.drop 3 = 98 :: 61 :: 34 :: (xm.esc t ++ (34 :: 62 :: (xm.esc t ++ [60, 47, 97, 62]))) := by rw [hS]; rfl
  have d4 : S.data.toList.drop 4 = 61 :: 34 :: (xm.esc t ++ (34 :: 62 :: (xm.esc t ++ [60, 47, 97, 62]))) := by rw [hS]; rfl
  have d5 : S.data.toList.drop 5 = 34 :: (xm.esc t ++ (34 :: 62 :: (xm.esc t ++ [60, 47, 97, 62]))) := by rw [hS]; rfl
  have d6 : S.data.toList.drop 6 = xm.esc t ++ (34 :: 62 :: (xm.esc t ++ [60, 47, 97, 62])) := by rw [hS]; rfl
  have d7 := drop_more d6
  obtain ⟨l7, _, d8⟩ := at_cons d7
  obtain ⟨l8, _, d9⟩ := at_cons d8
  rw [show 6 + (xm.esc t).length + 1 = (xm.esc t).length + 7 by omega] at d8 d9
  have hb2 : B ≤ w'.heap.size := Nat.le_trans hB1 hF.2.2.2.1
  refine next_start b 0 S vT vO w' hr (Nat.zero_le _) hs 97 _ d0 (by decide) (by decide) (by decide) _ (fun n => ?_) k0
  refine (start_one B b 0 2 ((xm.esc t).length + 7) S nA nB ⟨t.toArray⟩ vT vO (w'.drewN n) (hr.drew n) hT hO hbB hb2 (Nat.zero_le _) hs hG _ _ d0 (by rw [while_one d1 (by decide) (by decide)]; decide) (run_one d1 (by decide) (by decide)) (ext_one d1) (fun w2 hr2 hg2 => ?_) (by omega) d8).mono ?_
  · have := attrs_one b 2 3 4 4 5 ((xm.esc t).length + 7) S nB vT vO w2 hr2 (by omega) hs hg2 98 62 34 (units t) (62 :: (xm.esc t ++ [60, 47, 97, 62])) _ _ (xm.esc t ++ [60, 47, 97, 62]) (run_one d2 (by decide) (by decide)) (by omega) d3 (by decide) (by decide) (by rw [while_one d3 (by decide) (by decide)]; decide) (run_one d3 (by decide) (by decide)) (ext_one d3) (run_no d4 (by decide)) d4 (run_no d5 (by decide)) (units_ok t).1 (.inl rfl) (by rw [units_inp]; exact d5) (by rw [units_inp]; omega) (run_no d8 (by decide)) (by omega)
    rw [units_out] at this
    exact this
  · rintro e w3 ⟨rfl, vT', vO', a, len, cap, r3, t3, o3, a3, f3⟩
    exact ⟨rfl, vT', vO', a, len, cap, r3, t3, o3, a3, hG.fr f3 hgB hgb, hF.trans f3⟩

theorem go_text {B b : Nat} {S : ByteArray} {t : List UInt8} {w1 : World} (hbB : b < B) (hgB : 1 < B) (hgb : 1 ≠ b) (hs : S.size ≤ 65536) (hB1 : B ≤ w1.heap.size)
    (hS : S.data.toList = [60, 97, 32, 98, 61, 34] ++ (xm.esc t ++ (34 :: 62 :: (xm.esc t ++ [60, 47, 97, 62]))))
    (hne : t ≠ []) (w' : World) (hK : K1 B b (xm.esc t).length S ⟨t.toArray⟩ w1 w') (k0 : Nat) :
    Calls Tryz.prog 58 #[.pointer (some ⟨b, 0, none⟩)] (w'.drewN k0) fun e w'' => e = .returned .nilIface ∧ K2 B b (xm.esc t).length S ⟨t.toArray⟩ w1 w'' := by
  obtain ⟨vT, vO, a, len, cap, hr, hT, hO, hA, hG, hF⟩ := hK
  have d6 : S.data.toList.drop 6 = xm.esc t ++ (34 :: 62 :: (xm.esc t ++ [60, 47, 97, 62])) := by rw [hS]; rfl
  have d7 := drop_more d6
  obtain ⟨l7, _, d8⟩ := at_cons d7
  obtain ⟨l8, _, d9⟩ := at_cons d8
  rw [show 6 + (xm.esc t).length + 1 + 1 = (xm.esc t).length + 8 by omega] at d9
  have hb2 : B ≤ w'.heap.size := Nat.le_trans hB1 hF.2.2.2.1
  obtain ⟨c, t', rfl⟩ : ∃ c t', t = c :: t' := by cases t with
    | nil => exact absurd rfl hne
    | cons c t' => exact ⟨c, t', rfl⟩
  obtain ⟨d, r, hd, hd60⟩ := esc_head c t'
  refine next_text b _ S vT vO w' hr (by omega) hs d (r ++ [60, 47, 97, 62]) (by rw [d9, hd]; rfl) hd60 _ (fun n => ?_) k0
  refine (text_yes B b _ 0 0 S vT vO _ _ 1 (w'.drewN n) (hr.drew n) hT hO (by omega) hbB hb2 rfl (by decide) (by omega) hs hG (units (c :: t')) [60, 47, 97, 62] (units_ok _).2 (by simp [units]) (by rw [units_inp]; exact d9) (.inr ⟨_, rfl⟩)).mono ?_
  rintro e w3 ⟨rfl, vT', r3, t3, o3, f3⟩
  rw [units_inp] at r3
  rw [units_out] at t3
  exact ⟨rfl, vT', vO, a, len, cap, r3, t3, o3, one_fr hA f3 hbB, hG.fr f3 hgB hgb, hF.trans f3⟩

theorem go_end {B b : Nat} {S : ByteArray} {t : List UInt8} {w1 : World} (hbB : b < B) (hgB : 1 < B) (hgb : 1 ≠ b) (hs : S.size ≤ 65536) (hB1 : B ≤ w1.heap.size)
    (hS : S.data.toList = [60, 97, 32, 98, 61, 34] ++ (xm.esc t ++ (34 :: 62 :: (xm.esc t ++ [60, 47, 97, 62]))))
    (w' : World) (hK : K2 B b (xm.esc t).length S ⟨t.toArray⟩ w1 w') (k0 : Nat) :
    Calls Tryz.prog 58 #[.pointer (some ⟨b, 0, none⟩)] (w'.drewN k0) fun e w'' => e = .returned .nilIface ∧ K3 B b (xm.esc t).length S ⟨t.toArray⟩ w1 w'' := by
  obtain ⟨vT, vO, a, len, cap, hr, hT, hO, hA, hG, hF⟩ := hK
  have d6 : S.data.toList.drop 6 = xm.esc t ++ (34 :: 62 :: (xm.esc t ++ [60, 47, 97, 62])) := by rw [hS]; rfl
  have d7 := drop_more d6
  obtain ⟨l7, _, d8⟩ := at_cons d7
  obtain ⟨l8, _, d9⟩ := at_cons d8
  have e0 := drop_more d9
  rw [show 6 + (xm.esc t).length + 1 + 1 + (xm.esc t).length = (xm.esc t).length + 8 + (xm.esc t).length by omega] at e0
  obtain ⟨m0, _, e1⟩ := at_cons e0
  obtain ⟨m1, _, e2⟩ := at_cons e1
  obtain ⟨m2, _, e3⟩ := at_cons e2
  obtain ⟨m3, _, _⟩ := at_cons e3
  have hb2 : B ≤ w'.heap.size := Nat.le_trans hB1 hF.2.2.2.1
  refine next_end b _ S vT vO w' hr (by omega) hs _ e0 _ (fun n => ?_) k0
  refine (end_yes B b _ 2 0 ((xm.esc t).length + 8 + (xm.esc t).length + 3) ((xm.esc t).length + 8 + (xm.esc t).length + 3) S nA vT vO _ [] (w'.drewN n) (hr.drew n) hT hO (by omega) (by omega) hbB hb2 (by omega) hs _ _ e0 (by rw [while_one e2 (by decide) (by decide)]; decide) (run_one e2 (by decide) (by decide)) (ext_one e2) (run_no e3 (by decide)) e3).mono ?_
  rintro e w3 ⟨rfl, vT', vO', r3, t3, o3, f3⟩
  exact ⟨rfl, vT', vO', a, len, cap, r3, t3, o3, one_fr hA f3 hbB, hG.fr f3 hgB hgb, hF.trans f3⟩
end Go.Proofs.YtjncdnnllaoccaaGreatDoor.xd
