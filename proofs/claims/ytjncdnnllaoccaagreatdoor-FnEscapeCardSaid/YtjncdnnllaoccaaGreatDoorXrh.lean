/-
  The program's reader of XML: text within an element, and an element's end.
-/
import Derived.Test.YtjncdnnllaoccaaGreatDoorXrg
namespace Go.Proofs.YtjncdnnllaoccaaGreatDoor.xd
open Go.RowKit
set_option linter.unusedVariables false

/-- The reader with its rows. -/
def St (B b : Nat) (s : ByteArray) (p n : Nat) (tk : List Value) (op : List ByteArray) (w : World) : Prop :=
  ∃ vT vO, Rb w b s p vT vO ∧ w.ownsRow B 34 4 vT n tk ∧ w.ownsRow B 9 1 vO op.length (op.map Value.string)
theorem own_mv {B b p e sz n : Nat} {s : ByteArray} {vT vO v : Value} {xs : List Value} {w w' : World} (h : w.ownsRow B e sz v n xs) (hm : Mv b s p vT vO w w') (hb : b < B) : w'.ownsRow B e sz v n xs :=
  h.kept hm.2 (.inr (fun x => row_ne h hb x.symm))
theorem not_empty {t : ByteArray} (h : 0 < t.size) : t.toList.isEmpty = false := by
  rw [Lib.toList_data]
  cases hl : t.data.toList with
  | nil => have := Lib.size_eq t; rw [hl, List.length_nil] at this; omega
  | cons c l => rfl
theorem row_some {w : World} {B e sz m : Nat} {v : Value} {xs : List Value} (h : w.ownsRow B e sz v (m + 1) xs) : ∃ g cap, v = .slice (some ⟨g, 0, none⟩) (m + 1) cap := by
  rcases h.2 with ⟨_, h0⟩ | ⟨g, cap, cur, rfl, _⟩
  · omega
  · exact ⟨g, cap, rfl⟩

set_option maxHeartbeats 2000000 in
set_option maxRecDepth 100000 in
theorem addText_yes (B b p m mo : Nat) (s t : ByteArray) (vT vO : Value) (tk ok : List Value) (kd : Int) (w : World) (h : Rb w b s p vT vO) (hT : w.ownsRow B 34 4 vT (m + 1) tk) (hO : w.ownsRow B 9 1 vO mo ok) (hn : m + 1 < 600) (hbB : b < B) (hB : B ≤ w.heap.size)
    (hk : tk[m * 4]? = some (.int .i64 kd)) (hkd : kd ≠ 3) (ht : 0 < t.size) :
    Calls Tryz.prog 101 #[.pointer (some ⟨b, 0, none⟩), .string t] w fun e w' => e = .returned .nilIface ∧ ∃ vT', Rb w' b s p vT' vO ∧ w'.ownsRow B 34 4 vT' (m + 1 + 1) (tk ++ [.int .i64 3, .string ⟨#[]⟩, .slice none 0 0, .string t]) ∧ w'.ownsRow B 9 1 vO mo ok ∧ Fr B b w w' := by
  have he := not_empty ht
  have HA : Hid (Calls Tryz.prog 105 #[.pointer (some ⟨b, 0, none⟩), .agg #[.int .i64 3, .string ⟨#[]⟩, .slice none 0 0, .string t]] w fun e w' => e = .returned .nilIface ∧ ∃ vT', Rb w' b s p vT' vO ∧ w'.ownsRow B 34 4 vT' (m + 1 + 1) (tk ++ [.int .i64 3, .string ⟨#[]⟩, .slice none 0 0, .string t]) ∧ w'.ownsRow B 9 1 vO mo ok ∧ Fr B b w w') :=
    add_yes B b p (m + 1) s vT vO tk ok mo w h hT hO hn hbB hB 3 ⟨#[]⟩ t none 0 0
  have c2 := h.c2
  obtain ⟨g, cap, rfl⟩ := row_some hT
  have k0 := hT.cellAt (m * 4) (by omega)
  rw [hk] at k0
  have bk : (kd == 3) = false := beq_eq_false_iff_ne.2 hkd
  have hm0 : (0 : Int) ≤ (m : Int) := by omega
  have hm1 : (m : Int) < ((m + 1 : Nat) : Int) := by omega
  clear h hT hO hk
  go_enter Tryz.func101, Tryz.ntmps101
  go_wp2_with fail
  refine HA.out.mono ?_
  rintro e w' ⟨rfl, hx⟩
  have HX : Hid _ := hx
  clear hx
  go_wp2
  go_ret
  exact ⟨rfl, HX.out⟩

set_option maxHeartbeats 2000000 in
set_option maxRecDepth 100000 in
theorem text_yes (B b p m mo : Nat) (s : ByteArray) (vT vO : Value) (tk ok : List Value) (kd : Int) (w : World) (h : Rb w b s p vT vO) (hT : w.ownsRow B 34 4 vT (m + 1) tk) (hO : w.ownsRow B 9 1 vO (mo + 1) ok) (hn : m + 1 < 600) (hbB : b < B) (hB : B ≤ w.heap.size)
    (hk : tk[m * 4]? = some (.int .i64 kd)) (hkd : kd ≠ 3) (hp : p ≤ s.size) (hs : s.size ≤ 65536) (hG : Gl w) (us : List U) (tail : List UInt8) (hok : ∀ u ∈ us, U.ok 60 u) (hne : us ≠ []) (hrest : s.data.toList.drop p = inps us ++ tail) (htl : tail = [] ∨ ∃ r, tail = 60 :: r) :
    Calls Tryz.prog 85 #[.pointer (some ⟨b, 0, none⟩)] w fun e w' => e = .returned .nilIface ∧ ∃ vT', Rb w' b s (p + (inps us).length) vT' vO ∧ w'.ownsRow B 34 4 vT' (m + 1 + 1) (tk ++ [.int .i64 3, .string ⟨#[]⟩, .slice none 0 0, .string ⟨(outs us).toArray⟩]) ∧ w'.ownsRow B 9 1 vO (mo + 1) ok ∧ Fr B b w w' := by
  have c1 := h.c1
  have S1 : Hid (Calls Tryz.prog 107 #[.pointer (some ⟨b, 0, none⟩), .int .u8 60] w fun e w' => e = .returned (.tuple #[.string ⟨(outs us).toArray⟩, .nilIface]) ∧ Mv b s (p + (inps us).length) vT vO w w') := upto_yes b p s vT vO w h hp hs hG 60 us tail hok (by decide) hrest htl
  have hsz : 0 < (⟨(outs us).toArray⟩ : ByteArray).size := by
    rw [Lib.size_eq]
    cases us with
    | nil => exact absurd rfl hne
    | cons u us => simp [outs]
  have S2 : Hid (∀ w', Mv b s (p + (inps us).length) vT vO w w' → Calls Tryz.prog 101 #[.pointer (some ⟨b, 0, none⟩), .string ⟨(outs us).toArray⟩] w' fun e w'' => e = .returned .nilIface ∧ ∃ vT', Rb w'' b s (p + (inps us).length) vT' vO ∧ w''.ownsRow B 34 4 vT' (m + 1 + 1) (tk ++ [.int .i64 3, .string ⟨#[]⟩, .slice none 0 0, .string ⟨(outs us).toArray⟩]) ∧ w''.ownsRow B 9 1 vO (mo + 1) ok ∧ Fr B b w' w'') := fun w' hm =>
    addText_yes B b _ m (mo + 1) s _ vT vO tk ok kd w' hm.1 (own_mv hT hm hbB) (own_mv hO hm hbB) hn hbB (Nat.le_trans hB hm.2.size) hk hkd hsz
  obtain ⟨go, co, rfl⟩ := row_some hO
  clear h hT hO hk hG hok hne hrest htl
  generalize (⟨(outs us).toArray⟩ : ByteArray) = T at S1 S2 hsz ⊢
  go_enter Tryz.func85, Tryz.ntmps85
  go_wp2_with fail
  refine S1.out.mono ?_
  rintro e w1 ⟨rfl, m1⟩
  have HM1 : Hid (Mv b s (p + (inps us).length) vT (.slice (some ⟨go, 0, none⟩) (mo + 1) co) w w1) := m1
  have c3 := m1.1.c3
  have hmo : (0 : Int) < ((mo + 1 : Nat) : Int) := by omega
  clear m1 c1 S1
  go_wp2_with fail
  refine (S2.out _ HM1.out).mono ?_
  rintro e w2 ⟨rfl, vT', r2, t2, o2, f2⟩
  have FIN : Hid (∃ vT', Rb w2 b s (p + (inps us).length) vT' (.slice (some ⟨go, 0, none⟩) (mo + 1) co) ∧ w2.ownsRow B 34 4 vT' (m + 1 + 1) (tk ++ [.int .i64 3, .string ⟨#[]⟩, .slice none 0 0, .string T]) ∧ w2.ownsRow B 9 1 (.slice (some ⟨go, 0, none⟩) (mo + 1) co) (mo + 1) ok ∧ Fr B b w w2) := ⟨vT', r2, t2, o2, (Fr.mv HM1.out).trans f2⟩
  clear r2 t2 o2 f2 S2
  go_wp2
  go_ret
  exact ⟨rfl, FIN.out⟩
end Go.Proofs.YtjncdnnllaoccaaGreatDoor.xd
