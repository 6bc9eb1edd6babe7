/-
  Words between blanks, and names of months: plain facts, and the contracts of the functions that look a name up.
  The model of the readings of texts of the first form: the program's way and the specification's.
  The contract of the program's reading of five words of the right forms.
  The model of the readings of texts of the second form: the program's way and the specification's tell the same.
  Plain facts on what a mail's entry is: its fields, its body, what both functions answer.
-/
import Derived.Test.YtadfdfmebdcfgaaGreatDoorPkaz
import Derived.Test.YtadfdfmebdcfgaaGreatDoorPkat
import Derived.Lib.IndexMore
import Derived.Lib.IndexLaws
import Derived.Lib.Split
import Derived.Lib.SplitLaws
import Derived.Deep.DeepCutAuto
import Derived.Test.YtadfdfmebdcfgaaGreatDoorPkam
import Derived.Test.YtadfdfmebdcfgaaGreatDoorPkay
import Derived.Test.YtadfdfmebdcfgaaGreatDoorPkae
import Derived.Test.YtadfdfmebdcfgaaGreatDoorPkaq

namespace Go.Proofs.YtadfdfmebdcfgaaGreatDoor.rd
open Go.RowKit
open dt
set_option linter.unusedVariables false
/-- The words between blanks. -/
def wds : List UInt8 → List UInt8 → List (List UInt8)
  | acc, [] => [acc]
  | acc, b :: l => if b = 32 then acc :: wds [] l else wds (acc ++ [b]) l
theorem wds_none : ∀ (u acc : List UInt8), (∀ b ∈ u, b ≠ 32) → wds acc u = [acc ++ u]
  | [], acc, _ => by simp [wds]
  | b :: u, acc, h => by
    rw [wds, if_neg (h b List.mem_cons_self), wds_none u _ (fun x hx => h x (List.mem_cons_of_mem _ hx))]
    simp
theorem wds_blank : ∀ (u acc r : List UInt8), (∀ b ∈ u, b ≠ 32) → wds acc (u ++ 32 :: r) = (acc ++ u) :: wds [] r
  | [], acc, r, _ => by simp [wds]
  | b :: u, acc, r, h => by
    rw [List.cons_append, wds, if_neg (h b List.mem_cons_self), wds_blank u _ r (fun x hx => h x (List.mem_cons_of_mem _ hx))]
    simp
theorem index_blank : ∀ (l : List UInt8), (Lib.index l [32] = -1 ∧ (∀ b ∈ l, b ≠ 32)) ∨ ∃ u r, l = u ++ 32 :: r ∧ (∀ b ∈ u, b ≠ 32) ∧ Lib.index l [32] = u.length
  | [] => .inl ⟨rfl, (fun b hb => by cases hb)⟩
  | b :: l => by
    by_cases h : b = 32
    · subst h
      exact .inr ⟨[], l, rfl, (fun b hb => by cases hb), (by rw [Lib.index]; simp [List.isPrefixOf])⟩
    · have hp : ([32] : List UInt8).isPrefixOf (b :: l) = false := by simp [List.isPrefixOf, Ne.symm h]
      rcases index_blank l with ⟨h1, h2⟩ | ⟨u, r, e, h2, h3⟩
      · refine .inl ⟨by rw [Lib.index, hp, h1]; rfl, fun x hx => ?_⟩
        rcases List.mem_cons.1 hx with rfl | hx
        · exact h
        · exact h2 x hx
      · refine .inr ⟨b :: u, r, by rw [e]; rfl, fun x hx => ?_, ?_⟩
        · rcases List.mem_cons.1 hx with rfl | hx
          · exact h
          · exact h2 x hx
        · rw [Lib.index, hp, h3]
          simp
theorem split_wds : ∀ (n : Nat) (l : List UInt8), l.length ≤ n → Lib.splitK [32] 0 (l.count 32) l = wds [] l
  | n, l, hn => by
    rcases index_blank l with ⟨h1, h2⟩ | ⟨u, r, e, h2, h3⟩
    · have hc : l.count 32 = 0 := List.count_eq_zero.2 (fun hm => h2 32 hm rfl)
      rw [hc, wds_none l [] h2]
      rfl
    · have hc : l.count 32 = r.count 32 + 1 := by
        rw [e, List.count_append, List.count_eq_zero.2 (fun hm => h2 32 hm rfl), List.count_cons_self]
        omega
      rw [hc, Lib.splitK, h3]
      rw [if_neg (by simp)]
      match n, hn with
      | 0, hn => rw [e] at hn; simp at hn
      | n + 1, hn =>
        have e1 : l.drop (((u.length : Nat) : Int).toNat + ([32] : List UInt8).length) = r := by rw [e]; simp
        have e2 : l.take (((u.length : Nat) : Int).toNat + 0) = u := by rw [e]; simp
        rw [e1, e2, split_wds n r (by rw [e] at hn; simp at hn; omega), e, wds_blank u [] r h2]
        rfl
theorem split_words (s : ByteArray) : (Lib.splitB ⟨#[32]⟩ 0 (Lib.countB s ⟨#[32]⟩) s).map (·.data.toList) = wds [] s.data.toList := by
  rw [Lib.splitB_data]
  have e : Lib.countB s ⟨#[32]⟩ = s.data.toList.count 32 := Lib.count_one 32 s.data.toList
  rw [e]
  exact split_wds _ _ (Nat.le_refl _)

/-- The month of a name, 0 of any other text. -/
def mon (n : List UInt8) : Int := if 1 ≤ td.mts.idxOf n ∧ td.mts.idxOf n ≤ 12 then (td.mts.idxOf n : Int) else 0
theorem mts_at {j : Nat} (h : j < 13) : td.mts.idxOf (td.mts[j]'h) = j := by
  have e : td.mts[j]'h = td.mts.getD j [] := by rw [List.getD_eq_getElem?_getD, List.getElem?_eq_getElem (show j < td.mts.length from h)]; rfl
  rw [e]
  clear e
  have : j = 0 ∨ j = 1 ∨ j = 2 ∨ j = 3 ∨ j = 4 ∨ j = 5 ∨ j = 6 ∨ j = 7 ∨ j = 8 ∨ j = 9 ∨ j = 10 ∨ j = 11 ∨ j = 12 := by omega
  rcases this with rfl | rfl | rfl | rfl | rfl | rfl | rfl | rfl | rfl | rfl | rfl | rfl | rfl <;> decide
theorem mon_at {j : Nat} (h1 : 1 ≤ j) (h : j < 13) : mon (td.mts[j]'h) = j := by
  unfold mon
  rw [mts_at h, if_pos ⟨h1, by omega⟩]
theorem mon_no {n : List UInt8} (h : ∀ j, 1 ≤ j → (hj : j < 13) → td.mts[j]'hj ≠ n) : mon n = 0 := by
  unfold mon
  rw [if_neg]
  rintro ⟨h1, h2⟩
  have hl : td.mts.idxOf n < td.mts.length := by show _ < 13; omega
  exact h _ h1 (by omega) (List.getElem_idxOf hl)
theorem mt_name (j : Nat) (h : j < 13) : (⟨(td.mts[j]'h).toArray⟩ : ByteArray).toList = td.mts[j]'h := by rw [Lib.toList_data]

set_option maxHeartbeats 1000000 in
set_option maxRecDepth 100000 in
theorem month_any (n : ByteArray) (w : World) (hT : td.TN w) : Calls Tryz.prog 166 #[.string n] w fun e w' => e = .returned (.int .i64 (mon n.data.toList)) ∧ w' = w := by
  have HT : Hid (td.TN w) := hT
  clear hT
  go_enter Tryz.func166, Tryz.ntmps166
  go_wp2
  go_loop [3] (fun c => ∃ k : Nat, 1 ≤ k ∧ k ≤ 13 ∧ c = .int .i64 k ∧ ∀ j, 1 ≤ j → j < k → (hj : j < 13) → td.mts[j]'hj ≠ n.data.toList) (fun c => 13 - (intOf c).toNat)
  case atStart => exact ⟨1, Nat.le_refl _, by omega, rfl, fun j h1 h2 => absurd h2 (by omega)⟩
  case round =>
    obtain ⟨k, hk1, hk, rfl, hg⟩ := hrel
    have HG : Hid (∀ j, 1 ≤ j → j < k → (hj : j < 13) → td.mts[j]'hj ≠ n.data.toList) := hg
    clear hg
    by_cases hlt : k < 13
    · have hlt' : (k : Int) ≤ 12 := by omega
      have hlt2 : (k : Int) < 13 := by omega
      have hk0 : (0 : Int) ≤ (k : Int) := by omega
      have hcell := td.cellS HT.out k hlt
      have hnm := mt_name k hlt
      by_cases he : td.mts[k]'hlt = n.data.toList
      · have heb : ((⟨(td.mts[k]'hlt).toArray⟩ : ByteArray).toList == n.toList) = true := by rw [hnm, Lib.toList_data n]; exact beq_iff_eq.2 he
        have HM : Hid (mon n.data.toList = k) := (show mon n.data.toList = k from by rw [← he]; exact mon_at hk1 hlt)
        clear he hnm
        generalize (⟨(td.mts[k]'hlt).toArray⟩ : ByteArray) = nm at hcell heb
        go_wp2
        go_ret
        exact ⟨by rw [HM.out]; rfl, rfl⟩
      · have heb : ((⟨(td.mts[k]'hlt).toArray⟩ : ByteArray).toList == n.toList) = false := by rw [hnm, Lib.toList_data n]; exact beq_eq_false_iff_ne.2 he
        have HS : Hid (∀ j, 1 ≤ j → j < k + 1 → (hj : j < 13) → td.mts[j]'hj ≠ n.data.toList) := fun j h1 h2 hj => by
          by_cases e : j = k
          · subst e; exact he
          · exact HG.out j h1 (by omega) hj
        clear he hnm
        generalize (⟨(td.mts[k]'hlt).toArray⟩ : ByteArray) = nm at hcell heb
        go_wp2
        go_round
        case rel => exact ⟨k + 1, by omega, by omega, by go_num, HS.out⟩
        case measure => simp [intOf]; omega
    · obtain rfl : k = 13 := by omega
      have HM : Hid (mon n.data.toList = 0) := mon_no fun j h1 hj => HG.out j h1 hj hj
      go_wp2
      go_ret
      exact ⟨by rw [HM.out]; rfl, rfl⟩

/-- The name of a calendar's day of the week. -/
def wnm (n : Int) : List UInt8 := td.wks.getD ((n / 86400 + 4) % 7).toNat []
set_option maxHeartbeats 1000000 in
set_option maxRecDepth 100000 in
theorem week_any (y m d h i s : Int) (k : Ok y m d h i s) (w : World) (hT : td.TW w) :
    Calls Tryz.prog 122 #[C6 y m d h i s] w fun e w' => e = .returned (.string ⟨(wnm (st y m d h i s)).toArray⟩) ∧ Below w.heap.size w w' := by
  have sb := st_bounds k
  have K : Hid (Ok y m d h i s) := k
  have hst := fun w => dw.impl_st y m d h i s w
  unfold C6 at hst ⊢
  have hwd := dw.wd_in (dw.in_yes sb.1 sb.2)
  unfold wnm
  obtain ⟨a, ha⟩ : ∃ a : Nat, (st y m d h i s / 86400 + 4) % 7 = (a : Int) := ⟨((st y m d h i s / 86400 + 4) % 7).toNat, by omega⟩
  have ha7 : a < 7 := by omega
  rw [ha] at hwd ⊢
  rw [Int.toNat_natCast]
  have e0 : td.wks.getD a [] = td.wks[a]'ha7 := by rw [List.getD_eq_getElem?_getD, List.getElem?_eq_getElem (show a < td.wks.length from ha7)]; rfl
  rw [e0]
  have HT : Hid (∀ w', Below w.heap.size w w' → w'.cell? ⟨0, a, none⟩ = some (.string ⟨(td.wks[a]'ha7).toArray⟩)) := fun w' hb => td.cellS (td.keepS hT hb) a ha7
  have i0 : (0 : Int) ≤ (a : Int) := by omega
  have i1 : (a : Int) < 7 := by omega
  generalize (⟨(td.wks[a]'ha7).toArray⟩ : ByteArray) = nm at HT ⊢
  clear k hT e0 ha
  go_enter Tryz.func122, Tryz.ntmps122
  go_wp2_with fail
  refine (hst _).mono ?_
  rintro e w1 ⟨b1, hw⟩
  rcases hw with ⟨_, rfl⟩ | ⟨no, _⟩
  rotate_left
  · exact absurd K.out no
  have b2 : Below w.heap.size w w1 := (dw.bel_box w _).trans (b1.mono (by simp))
  clear b1 hst
  have hcell := HT.out _ b2
  clear HT
  generalize st y m d h i s = n at sb hwd ⊢
  go_wp2_with fail
  refine (dw.impl_wd n _).mono ?_
  rintro e w' ⟨rfl, rfl⟩
  rw [hwd]
  go_wp2
  go_ret
  exact ⟨rfl, b2⟩
end Go.Proofs.YtadfdfmebdcfgaaGreatDoor.rd

namespace Go.Proofs.YtadfdfmebdcfgaaGreatDoor.rd
open Go.RowKit
open dt
set_option linter.unusedVariables false
def F19 : List UInt8 := [48, 48, 48, 48, 45, 48, 48, 45, 48, 48, 84, 48, 48, 58, 48, 48, 58, 48, 48]
def zx (z : List UInt8) : Option Int := if z = [90] then some 0 else zc z
def g (l : List UInt8) (i n : Nat) : List UInt8 := (l.drop i).take n
def rdI (l : List UInt8) : Value :=
  if 19 ≤ l.length ∧ hf (l.take 19) F19 = true ∧ (fi (l.drop 19)).2 = true then
    (match zx (fi (l.drop 19)).1 with
      | none => bad
      | some a => fin (num (g l 0 4)) (num (g l 5 2)) (num (g l 8 2)) (num (g l 11 2)) (num (g l 14 2)) (num (g l 17 2)) a)
  else bad
/-- A whole answer, with the code of a text that is too long. -/
def r3 (l : List UInt8) : Value := if 65536 < l.length then .tuple #[.int .i64 0, .int .i64 2] else rdI l
end Go.Proofs.YtadfdfmebdcfgaaGreatDoor.rd

namespace Go.Proofs.YtadfdfmebdcfgaaGreatDoor.rd
open Go.RowKit
open dt
set_option linter.unusedVariables false
def F8 : List UInt8 := [48, 48, 58, 48, 48, 58, 48, 48]
/-- Five words lie in a block. -/
def Five (w : World) (b : Nat) (D M Y C Z : ByteArray) : Prop := w.heap[b]? = some (.cells #[.string D, .string M, .string Y, .string C, .string Z] 9)
section
variable {w w' : World} {b : Nat} {D M Y C Z : ByteArray}
theorem Five.c0 (L : Five w b D M Y C Z) : w.cell? ⟨b, 0, none⟩ = some (.string D) := by rw [cell_of_row _ _ _ _ _ _ L]; rfl
theorem Five.c1 (L : Five w b D M Y C Z) : w.cell? ⟨b, 1, none⟩ = some (.string M) := by rw [cell_of_row _ _ _ _ _ _ L]; rfl
theorem Five.c2 (L : Five w b D M Y C Z) : w.cell? ⟨b, 2, none⟩ = some (.string Y) := by rw [cell_of_row _ _ _ _ _ _ L]; rfl
theorem Five.c3 (L : Five w b D M Y C Z) : w.cell? ⟨b, 3, none⟩ = some (.string C) := by rw [cell_of_row _ _ _ _ _ _ L]; rfl
theorem Five.c4 (L : Five w b D M Y C Z) : w.cell? ⟨b, 4, none⟩ = some (.string Z) := by rw [cell_of_row _ _ _ _ _ _ L]; rfl
theorem Five.below (L : Five w b D M Y C Z) (hb : Below w.heap.size w w') : Five w' b D M Y C Z := by
  have hlt : b < w.heap.size := (Array.getElem?_eq_some_iff.1 L).1
  exact (hb.block b hlt).trans L
theorem Five.belowB {B : Nat} (L : Five w b D M Y C Z) (hb : Below B w w') (hlt : b < B) : Five w' b D M Y C Z := (hb.block b hlt).trans L
end
theorem two_dgs {l : List UInt8} (h : hf l [48, 48] = true) : dgs l = true ∧ l.length = 2 := by
  have hl : l.length = 2 := hf_len h
  match l, hl with
  | [a, b], _ => simp [hf] at h; exact ⟨by simp [dgs, h], rfl⟩
theorem four_dgs {l : List UInt8} (h : hf l F4 = true) : dgs l = true ∧ l.length = 4 := by
  have hl : l.length = 4 := hf_len h
  match l, hl with
  | [a, b, c, d], _ => simp [hf, F4] at h; exact ⟨by simp [dgs, h], rfl⟩
theorem eight_dgs {l : List UInt8} (h : hf l F8 = true) : l.length = 8 ∧ dgs (g l 0 2) = true ∧ dgs (g l 3 2) = true ∧ dgs (g l 6 2) = true := by
  have hl : l.length = 8 := hf_len h
  match l, hl with
  | [a, b, c, d, e, f, i, j], _ => simp [hf, F8] at h; exact ⟨rfl, by simp [dgs, g, h], by simp [dgs, g, h], by simp [dgs, g, h]⟩
theorem lies_drew8 (w : World) (y m d h i s : Int) : dw.Lies (w.alloc (.cells #[.int .i64 y, .int .i64 m, .int .i64 d, .int .i64 h, .int .i64 i, .int .i64 s] 99)).drew w.heap.size y m d h i s := dw.lies_new w y m d h i s

set_option maxHeartbeats 8000000 in
set_option maxRecDepth 100000 in
theorem words_good (w : World) (b : Nat) (D M Y C Z : ByteArray) (L : Five w b D M Y C Z) (hT : td.TN w) (h1 : hf D.data.toList [48] = false) (h2 : hf D.data.toList [48, 48] = true) (h3 : hf Y.data.toList F4 = true) (h4 : hf C.data.toList F8 = true) :
    Calls Tryz.prog 119 #[.slice (some ⟨b, 0, none⟩) 5 5] w fun e w' => e = .returned (.tuple #[C6 (num Y.data.toList) (mon M.data.toList) (num D.data.toList) (num (g C.data.toList 0 2)) (num (g C.data.toList 3 2)) (num (g C.data.toList 6 2)), .string Z, .bool true]) ∧ Below w.heap.size w w' := by
  obtain ⟨d1, d2⟩ := two_dgs h2
  obtain ⟨y1, y2⟩ := four_dgs h3
  obtain ⟨e0, e1, e2, e3⟩ := eight_dgs h4
  have sD : D.size = 2 := d2
  have sY : Y.size = 4 := y2
  have sC : C.size = 8 := e0
  have H1 : Hid (∀ w, Calls Tryz.prog 164 #[.string D, .string ⟨#[48]⟩] w fun e w' => e = .returned (.bool false) ∧ Drawn w w') := fun w => by
    have := hf_any D ⟨#[48]⟩ (by omega) w
    rw [show (⟨#[48]⟩ : ByteArray).data.toList = [48] from rfl, h1] at this
    exact this
  have H2 : Hid (∀ w, Calls Tryz.prog 164 #[.string D, .string ⟨#[48, 48]⟩] w fun e w' => e = .returned (.bool true) ∧ Drawn w w') := fun w => by
    have := hf_any D ⟨#[48, 48]⟩ (by omega) w
    rw [show (⟨#[48, 48]⟩ : ByteArray).data.toList = [48, 48] from rfl, h2] at this
    exact this
  have H3 : Hid (∀ w, Calls Tryz.prog 164 #[.string Y, .string ⟨#[48, 48, 48, 48]⟩] w fun e w' => e = .returned (.bool true) ∧ Drawn w w') := fun w => by
    have := hf_any Y ⟨#[48, 48, 48, 48]⟩ (by omega) w
    rw [show (⟨#[48, 48, 48, 48]⟩ : ByteArray).data.toList = F4 from rfl, h3] at this
    exact this
  have H4 : Hid (∀ w, Calls Tryz.prog 164 #[.string C, .string ⟨#[48, 48, 58, 48, 48, 58, 48, 48]⟩] w fun e w' => e = .returned (.bool true) ∧ Drawn w w') := fun w => by
    have := hf_any C ⟨#[48, 48, 58, 48, 48, 58, 48, 48]⟩ (by omega) w
    rw [show (⟨#[48, 48, 58, 48, 48, 58, 48, 48]⟩ : ByteArray).data.toList = F8 from rfl, h4] at this
    exact this
  have HY : Hid (∀ w, Calls Tryz.prog 165 #[.string Y] w fun e w' => e = .returned (.int .i64 (num Y.data.toList)) ∧ w' = w) := fun w => num_any Y (by omega) y1 w
  have HD : Hid (∀ w, Calls Tryz.prog 165 #[.string D] w fun e w' => e = .returned (.int .i64 (num D.data.toList)) ∧ w' = w) := fun w => num_any D (by omega) d1 w
  have HM : Hid (∀ w', Below w.heap.size w w' → ∀ k : Nat, Calls Tryz.prog 166 #[.string M] w' fun e w'' => e = .returned (.int .i64 (mon M.data.toList)) ∧ w'' = w') := fun w' hb _ => month_any M w' (td.keepS hT hb)
  have HC : Hid (∀ (w : World) (b : Nat) (y m d h0 i0 s0 : Int), dw.Lies w b y m d h0 i0 s0 → Calls Tryz.prog 167 #[.pointer (some ⟨b, 0, none⟩), .string C] w fun e w' => e = .returned (.tuple #[]) ∧ dw.Lies w' b y m d (num (g C.data.toList 0 2)) (num (g C.data.toList 3 2)) (num (g C.data.toList 6 2)) ∧ ∀ B, B ≤ b → Below B w w') := fun w b y m d h0 i0 s0 L => by
    have q1 : (C.extract 0 2).data.toList = g C.data.toList 0 2 := ext_list C 0 2
    have q2 : (C.extract 3 5).data.toList = g C.data.toList 3 2 := ext_list C 3 5
    have q3 : (C.extract 6 8).data.toList = g C.data.toList 6 2 := ext_list C 6 8
    have := clock_any w b y m d h0 i0 s0 C L (by omega) (by omega) (by rw [q1]; exact e1) (by rw [q2]; exact e2) (by rw [q3]; exact e3)
    rw [q1, q2, q3] at this
    exact this
  generalize num Y.data.toList = y at HY ⊢
  generalize mon M.data.toList = m at HM ⊢
  generalize num D.data.toList = d at HD ⊢
  generalize num (g C.data.toList 0 2) = h at HC ⊢
  generalize num (g C.data.toList 3 2) = i at HC ⊢
  generalize num (g C.data.toList 6 2) = sc at HC ⊢
  clear d1 d2 y1 y2 e0 e1 e2 e3 h1 h2 h3 h4 hT
  have hbl : b < w.heap.size := (Array.getElem?_eq_some_iff.1 L).1
  go_enter Tryz.func119, Tryz.ntmps119
  go_upto_region 3 with fail
  have F0 := L.below (dw.bel_box w (.cells #[.int .i64 0, .int .i64 0, .int .i64 0, .int .i64 0, .int .i64 0, .int .i64 0] 99))
  have L0 := dw.lies_new w 0 0 0 0 0 0
  have b0 := dw.bel_box w (.cells #[.int .i64 0, .int .i64 0, .int .i64 0, .int .i64 0, .int .i64 0, .int .i64 0] 99)
  generalize w.alloc _ = w0 at F0 L0 b0 ⊢
  have q0 := F0.c0
  have q2 := F0.c2
  have q3 := F0.c3
  go_quiet (fail)
  have F1 := F0.below (drawn_below ⟨nq, rfl⟩)
  have L1 := L0.below (drawn_below ⟨nq, rfl⟩)
  have b1 := b0.trans ((drawn_below (w := w0) ⟨nq, rfl⟩).mono b0.size)
  generalize w0.drewN nq = w1 at F1 L1 b1 ⊢
  clear q0 q2 q3 F0 L0 b0 L
  go_wp2_with fail
  refine (H1.out _).mono ?_
  rintro e w2 ⟨rfl, dr2⟩
  go_wp2_with fail
  refine (H2.out _).mono ?_
  rintro e w3 ⟨rfl, dr3⟩
  go_wp2_with fail
  refine (H3.out _).mono ?_
  rintro e w4 ⟨rfl, dr4⟩
  go_wp2_with fail
  refine (H4.out _).mono ?_
  rintro e w5 ⟨rfl, dr5⟩
  have bb : Below w1.heap.size w1 w5 := by
    have a2 := drawn_below dr2
    have a3 := a2.trans ((drawn_below dr3).mono a2.size)
    have a4 := a3.trans ((drawn_below dr4).mono a3.size)
    exact a4.trans ((drawn_below dr5).mono a4.size)
  have F5 := F1.below bb
  have L5 := L1.below bb
  have b5 := b1.trans (bb.mono b1.size)
  clear dr2 dr3 dr4 dr5 bb F1 L1 b1 H1 H2 H3 H4
  have q1 := F5.c1
  have q1' : ∀ o, (w5.alloc o).cell? ⟨b, 1, none⟩ = some (.string M) := fun o => (F5.below (dw.bel_box w5 o)).c1
  have hbl5 : b < w5.heap.size := (Array.getElem?_eq_some_iff.1 F5).1
  have hne5 : ¬ b = w5.heap.size := by omega
  go_upto_region 6 with fail
  go_cut [8] (fun p wx => p = .pointer (some ⟨w5.heap.size, 0, none⟩) ∧ wx = (w5.alloc (.cells #[.int .i64 y, .int .i64 m, .int .i64 d, .int .i64 0, .int .i64 0, .int .i64 0] 99)).drew)
  case first =>
    have HM1 : Hid (Calls Tryz.prog 166 #[.string M] w5.drew fun e w'' => e = .returned (.int .i64 m) ∧ w'' = w5.drew) := HM.out _ b5.drew 0
    have HM2 : Hid (∀ o, Calls Tryz.prog 166 #[.string M] (w5.alloc o).drew fun e w'' => e = .returned (.int .i64 m) ∧ w'' = (w5.alloc o).drew) := fun o => HM.out _ (b5.alloc b5.size o).drew 0
    go_region_with (first | (go_at_call_of 165 Y; refine (HY.out _).mono ?_; rintro e w' ⟨rfl, rfl⟩) | (go_at_call_of 165 D; refine (HD.out _).mono ?_; rintro e w' ⟨rfl, rfl⟩) | (go_at_call 166; first | (refine (HM2.out _).mono ?_; rintro e w' ⟨rfl, rfl⟩) | (refine HM1.out.mono ?_; rintro e w' ⟨rfl, rfl⟩)))
    all_goals (try go_wp2_with fail)
    all_goals go_meet
    all_goals exact ⟨rfl, rfl⟩
  case rest =>
    obtain ⟨rfl, rfl⟩ := hcut
    go_at_K
    clear HY HD HM q1 q1'
    have L6 := lies_drew8 w5 y m d 0 0 0
    have bx : Below w5.heap.size w5 (w5.alloc (.cells #[.int .i64 y, .int .i64 m, .int .i64 d, .int .i64 0, .int .i64 0, .int .i64 0] 99)).drew := (dw.bel_box w5 _).drew
    have F6 := F5.below bx
    have R6 := L5.below bx
    have hlt0 : w.heap.size < w5.heap.size := (Array.getElem?_eq_some_iff.1 L5).1
    have b6 := b5.trans (bx.mono b5.size)
    have hp : w5.heap.size < (w5.alloc (.cells #[.int .i64 y, .int .i64 m, .int .i64 d, .int .i64 0, .int .i64 0, .int .i64 0] 99)).drew.heap.size := (Array.getElem?_eq_some_iff.1 L6).1
    generalize (w5.alloc _).drew = w6 at L6 F6 R6 b6 hp ⊢
    clear bx
    go_wp2_with fail
    refine (HC.out _ _ y m d 0 0 0 L6).mono ?_
    rintro e w7 ⟨rfl, L7, bb7⟩
    have F7 := F6.belowB (bb7 _ (Nat.le_refl _)) hbl5
    have R7 : dw.Lies w7 w.heap.size 0 0 0 0 0 0 := ((bb7 _ (Nat.le_refl _)).block _ hlt0).trans R6
    have b7 := b6.trans (bb7 _ (Nat.le_of_lt hlt0))
    clear L6 F6 R6 bb7 b6 HC F5 L5
    have r0 := R7.c0
    have r1 := R7.c1
    have r2 := R7.c2
    have r3 := R7.c3
    have r4 := R7.c4
    have r5 := R7.c5
    have f0 : w7.frozen? ⟨w.heap.size, 0, none⟩ = false := frozen_of_row _ _ _ _ _ R7
    have f1 : w7.frozen? ⟨w.heap.size, 0 + 1, none⟩ = false := frozen_of_row _ _ _ _ _ R7
    have f2 : w7.frozen? ⟨w.heap.size, 0 + 2, none⟩ = false := frozen_of_row _ _ _ _ _ R7
    have f3 : w7.frozen? ⟨w.heap.size, 0 + 3, none⟩ = false := frozen_of_row _ _ _ _ _ R7
    have f4 : w7.frozen? ⟨w.heap.size, 0 + 4, none⟩ = false := frozen_of_row _ _ _ _ _ R7
    have f5 : w7.frozen? ⟨w.heap.size, 0 + 5, none⟩ = false := frozen_of_row _ _ _ _ _ R7
    have l0 := L7.c0
    have l1 := L7.c1
    have l2 := L7.c2
    have l3 := L7.c3
    have l4 := L7.c4
    have l5 := L7.c5
    have q4 := F7.c4
    go_wp2_with fail
    go_region
    have L8 := dw.put6_lies (y := y) (m := m) (d := d) (h := h) (i := i) (s := sc) R7
    have b8 := dw.put6_below (y := y) (m := m) (d := d) (h := h) (i := i) (s := sc) b7 (Nat.le_refl _)
    clear r0 r1 r2 r3 r4 r5 f0 f1 f2 f3 f4 f5 l0 l1 l2 l3 l4 l5 q4 R7 b7 L7 F7
    go_wp2
    unfold dw.put6 at L8 b8
    generalize hX : World.setCell _ _ _ = X at L8 b8 ⊢
    clear hX
    have c0 := L8.c0
    have c1 := L8.c1
    have c2 := L8.c2
    have c3 := L8.c3
    have c4 := L8.c4
    have c5 := L8.c5
    simp only [Nat.zero_add] at c1 c2 c3 c4 c5
    unfold C6
    refine bodyPost_ret (v := .tuple #[.agg #[.int .i64 y, .int .i64 m, .int .i64 d, .int .i64 h, .int .i64 i, .int .i64 sc], .string Z, .bool true]) (by simp [results, Tryz.results119, go_sem, c0, c1, c2, c3, c4, c5]) rfl ⟨rfl, b8.drew⟩
end Go.Proofs.YtadfdfmebdcfgaaGreatDoor.rd

namespace Go.Proofs.YtadfdfmebdcfgaaGreatDoor.rd
open Go.RowKit
open dt
set_option linter.unusedVariables false
def zw (z : List UInt8) : Option Int := if z = [71, 77, 84] ∨ z = [85, 84] then some 0 else zp z
/-- A calendar with a day of the week that may be told, and a zone. -/
def coreC (k : Option (List UInt8)) (y m d h i s : Int) (z : List UInt8) : Value :=
  if (dw.inB y 1970 2099 && dw.inB m 1 12 && dw.inB d 1 (dm y m) && dw.inB h 0 23 && dw.inB i 0 59 && dw.inB s 0 59) = true ∧ (k = none ∨ k = some (wnm (st y m d h i s))) then
    (match zw z with
      | none => bad
      | some a => fin y m d h i s a)
  else bad
theorem coreC_no {k : Option (List UInt8)} {y m d h i s : Int} {z : List UInt8} (hh : ¬ Ok y m d h i s) : coreC k y m d h i s z = bad := by
  unfold coreC
  rw [if_neg (by rintro ⟨a, _⟩; exact hh (ok_and.1 a))]
theorem coreC_day {n : List UInt8} {y m d h i s : Int} {z : List UInt8} (hh : n ≠ wnm (st y m d h i s)) : coreC (some n) y m d h i s z = bad := by
  unfold coreC
  rw [if_neg (by rintro ⟨_, a | a⟩ <;> simp at a; exact hh a)]
theorem coreC_zone {k : Option (List UInt8)} {y m d h i s : Int} {z : List UInt8} (hh : zw z = none) : coreC k y m d h i s z = bad := by
  unfold coreC
  rw [hh]
  split <;> rfl
theorem coreC_fin {k : Option (List UInt8)} {y m d h i s a : Int} {z : List UInt8} (h1 : Ok y m d h i s) (h2 : k = none ∨ k = some (wnm (st y m d h i s))) (hh : zw z = some a) : coreC k y m d h i s z = fin y m d h i s a := by
  unfold coreC
  rw [if_pos ⟨ok_and.2 h1, h2⟩, hh]
def formI (d y c : List UInt8) : Bool := (hf d [48] || hf d [48, 48]) && hf y F4 && hf c F8
def coreI (k : Option (List UInt8)) : List (List UInt8) → Value
  | [d, mo, y, c, z] => if formI d y c = true then coreC k (num y) (mon mo) (num d) (num (g c 0 2)) (num (g c 3 2)) (num (g c 6 2)) z else bad
  | _ => bad
theorem coreI_form {k : Option (List UInt8)} {d mo y c z : List UInt8} (h : formI d y c = false) : coreI k [d, mo, y, c, z] = bad := by
  show (if _ then _ else _) = _
  rw [if_neg (by rw [h]; decide)]
theorem coreI_len {k : Option (List UInt8)} {v : List (List UInt8)} (h : v.length ≠ 5) : coreI k v = bad := by
  match v, h with
  | [], _ => rfl
  | [_], _ => rfl
  | [_, _], _ => rfl
  | [_, _, _], _ => rfl
  | [_, _, _, _], _ => rfl
  | [_, _, _, _, _], h => exact absurd rfl h
  | _ :: _ :: _ :: _ :: _ :: _ :: _, _ => rfl
theorem one_dgs {l : List UInt8} (h : hf l [48] = true) : dgs l = true ∧ l.length = 1 := by
  have hl : l.length = 1 := hf_len h
  match l, hl with
  | [a], _ => simp [hf] at h; exact ⟨by simp [dgs, h], rfl⟩
/-- The first comma ahead of a blank. -/
theorem index_comma : ∀ (l : List UInt8), Lib.index l [44, 32] = -1 ∨ ∃ a b, l = a ++ 44 :: 32 :: b ∧ Lib.index l [44, 32] = a.length
  | [] => .inl (by rfl)
  | x :: l => by
    by_cases hp : ([44, 32] : List UInt8).isPrefixOf (x :: l) = true
    · right
      match l, hp with
      | [], hp => simp [List.isPrefixOf] at hp
      | y :: l, hp =>
        simp [List.isPrefixOf] at hp
        obtain ⟨rfl, rfl⟩ := hp
        exact ⟨[], l, rfl, by rw [Lib.index]; simp [List.isPrefixOf]⟩
    · have hp' : ([44, 32] : List UInt8).isPrefixOf (x :: l) = false := Bool.eq_false_iff.2 hp
      rcases index_comma l with h | ⟨a, b, e, h⟩
      · left
        rw [Lib.index, hp', h]
        rfl
      · right
        refine ⟨x :: a, b, by rw [e]; rfl, ?_⟩
        rw [Lib.index, hp', h]
        simp
theorem cut_none {l : List UInt8} (h : Lib.index l [44, 32] = -1) : Lib.cut l [44, 32] = (l, [], false) := by unfold Lib.cut; rw [h]; rfl
theorem cut_some {a b l : List UInt8} (e : l = a ++ 44 :: 32 :: b) (h : Lib.index l [44, 32] = a.length) : Lib.cut l [44, 32] = (a, b, true) := by
  unfold Lib.cut
  rw [h, if_pos (by omega), e]
  simp
/-- The program's answer. -/
def implR (l : List UInt8) : Value := if (Lib.cut l [44, 32]).2.2 = true then coreI (some (Lib.cut l [44, 32]).1) (wds [] (Lib.cut l [44, 32]).2.1) else coreI none (wds [] l)
theorem implR_none {l : List UInt8} (h : Lib.index l [44, 32] = -1) : implR l = coreI none (wds [] l) := by unfold implR; rw [cut_none h]; rfl
theorem implR_some {a b l : List UInt8} (e : l = a ++ 44 :: 32 :: b) (h : Lib.index l [44, 32] = a.length) : implR l = coreI (some a) (wds [] b) := by unfold implR; rw [cut_some e h]; rfl
/-- A whole answer. -/
def r8 (l : List UInt8) : Value := if 65536 < l.length then .tuple #[.int .i64 0, .int .i64 2] else implR l
theorem coreC_two (k : Option (List UInt8)) (y m d h i s : Int) (z : List UInt8) : ∃ x c : Int, coreC k y m d h i s z = .tuple #[.int .i64 x, .int .i64 c] := by
  unfold coreC
  split
  · split
    · exact ⟨_, _, rfl⟩
    · exact fin_form _ _ _ _ _ _ _
  · exact ⟨_, _, rfl⟩
theorem coreI_yes {k : Option (List UInt8)} {d mo y c z : List UInt8} (h : formI d y c = true) : coreI k [d, mo, y, c, z] = coreC k (num y) (mon mo) (num d) (num (g c 0 2)) (num (g c 3 2)) (num (g c 6 2)) z := by
  show (if _ then _ else _) = _
  rw [if_pos h]
theorem core_two (k : Option (List UInt8)) (v : List (List UInt8)) : ∃ x c : Int, coreI k v = .tuple #[.int .i64 x, .int .i64 c] := by
  by_cases h5 : v.length = 5
  rotate_left
  · rw [coreI_len h5]; exact ⟨_, _, rfl⟩
  match v, h5 with
  | [d, mo, y, c, z], _ =>
    cases q : formI d y c
    · rw [coreI_form q]; exact ⟨_, _, rfl⟩
    · rw [coreI_yes q]; exact coreC_two _ _ _ _ _ _ _ _
theorem r8_two (l : List UInt8) : ∃ x c : Int, r8 l = .tuple #[.int .i64 x, .int .i64 c] := by
  unfold r8
  split
  · exact ⟨_, _, rfl⟩
  · unfold implR
    split <;> exact core_two _ _
end Go.Proofs.YtadfdfmebdcfgaaGreatDoor.rd

namespace Go.Proofs.YtadfdfmebdcfgaaGreatDoor.me
open Go.RowKit
open fa fo ml
set_option linter.unusedVariables false

/-- Fields as pairs of texts. -/
def prs (fs : List (B × B)) : List Pr := fs.map fun x => (⟨x.1.toArray⟩, ⟨x.2.toArray⟩)
theorem fcells_at : ∀ (fs : List (B × B)) (j : Nat), j < fs.length → (fcells fs)[j * 2]? = some (.string ((prs fs).getD j no).1) ∧ (fcells fs)[j * 2 + 1]? = some (.string ((prs fs).getD j no).2)
  | x :: fs, 0, _ => ⟨rfl, rfl⟩
  | x :: fs, j + 1, h => by
    have := fcells_at fs j (by simpa using h)
    rw [show (j + 1) * 2 = j * 2 + 2 from by omega]
    exact this
theorem attrs_of {w : World} {base : Nat} {v : Value} {fs : List (B × B)} (h : FieldsAt w base v fs) : AttrsAt w v (prs fs) := by
  have hl : (prs fs).length = fs.length := by simp [prs]
  rcases h.2 with ⟨rfl, h0⟩ | ⟨g, cap, cur, rfl, _⟩
  · refine ⟨none, 0, by rw [hl, h0], .inl ?_⟩
    exact List.eq_nil_of_length_eq_zero (by rw [hl, h0])
  · refine ⟨_, cap, by rw [hl], .inr ⟨g, 0, rfl, fun j hj => ?_⟩⟩
    rw [hl] at hj
    obtain ⟨h1, h2⟩ := fcells_at fs j hj
    have c1 := h.cellAt (j * 2) (by omega)
    have c2 := h.cellAt (j * 2 + 1) (by omega)
    rw [h1] at c1
    rw [h2] at c2
    rw [Nat.zero_add]
    exact ⟨c1, c2⟩
theorem run_mem : ∀ (fs : List (B × B)) (l r : B), Run F fs l r → ∀ x ∈ fs, ∃ f, F f x.1 x.2
  | y :: fs, l, r, ⟨_, f, q, _, hF, hr⟩, x, hx => by
    rcases List.mem_cons.1 hx with rfl | hx
    · exact ⟨f, hF⟩
    · exact run_mem fs q r hr x hx
theorem mail_mem {l : B} {fs : List (B × B)} {b : B} (h : IsMail l fs b) : ∀ x ∈ fs, x.1.length ≤ 40 ∧ hd.Safe x.2 := by
  intro x hx
  obtain ⟨r, hr, _⟩ := h.2.1
  obtain ⟨f, y, _, hn, _, hs⟩ := run_mem fs l r hr x hx
  exact ⟨hn.2.1, hs⟩
theorem small_of {l : B} {fs : List (B × B)} {b : B} (h : IsMail l fs b) : fa.Small (prs fs) := by
  have h40 := h.2.2
  refine ⟨by simp [prs]; omega, fun j hj => ?_⟩
  have hj' : j < fs.length := by simpa [prs] using hj
  have hm := mail_mem h fs[j] (List.getElem_mem hj')
  have e : (prs fs).getD j no = (⟨(fs[j]).1.toArray⟩, ⟨(fs[j]).2.toArray⟩) := by simp [prs, List.getD_eq_getElem?_getD, hj']
  rw [e]
  have h2 := hm.2.1
  constructor
  · show ((fs[j]).1.toArray).size ≤ _
    simp
    omega
  · show ((fs[j]).2.toArray).size ≤ _
    simp
    omega
theorem find_safe {l : B} {fs : List (B × B)} {b : B} (h : IsMail l fs b) {nm x : ByteArray} (hf : find (prs fs) nm = some x) : hd.Safe x.data.toList := by
  unfold find at hf
  obtain ⟨p, hp, rfl⟩ := Option.map_eq_some_iff.1 hf
  have hm := List.mem_of_find?_eq_some hp
  obtain ⟨y, hy, rfl⟩ := List.mem_map.1 hm
  exact (mail_mem h y hy).2
theorem safe_size {x : ByteArray} (h : hd.Safe x.data.toList) : x.size ≤ 2000 := h.1

theorem run_len : ∀ (fs : List (B × B)) (l r : B), Run F fs l r → r.length ≤ l.length
  | [], l, r, h => by cases h; exact Nat.le_refl _
  | y :: fs, l, r, ⟨_, f, q, ⟨k, _, hq, _, _⟩, _, hr⟩ => by
    have := run_len fs q r hr
    rw [hq, List.length_drop] at this
    omega
theorem body_len {l : B} {fs : List (B × B)} {b : B} (h : IsMail l fs b) : b.length ≤ l.length := by
  obtain ⟨r, hr, hp, rfl⟩ := h.2.1
  have := run_len fs l r hr
  rw [List.length_drop]
  omega

def nFrom : ByteArray := ⟨#[70, 114, 111, 109]⟩
def nDate : ByteArray := ⟨#[68, 97, 116, 101]⟩
def nSubj : ByteArray := ⟨#[83, 117, 98, 106, 101, 99, 116]⟩
def nXid : ByteArray := ⟨#[88, 45, 73, 100]⟩
def nXlnk : ByteArray := ⟨#[88, 45, 76, 105, 110, 107]⟩
def names : List ByteArray := [nFrom, nDate, nSubj, nXid, nXlnk]
/-- What a field's value says. -/
def Dv (ps : List Pr) (nm r : ByteArray) : Prop := hd.Dec true false (hd.cutGo [] ((find ps nm).getD ⟨#[]⟩).data.toList) r.data.toList
/-- All five fields are there, and safe. -/
def AllIn (ps : List Pr) : Prop := ∀ nm ∈ names, ∃ x, find ps nm = some x ∧ hd.Safe x.data.toList
theorem allIn_of {l : B} {fs : List (B × B)} {b : B} (h : IsMail l fs b) (ha : hasAll (prs fs) names = true) : AllIn (prs fs) := by
  intro nm hnm
  unfold hasAll at ha
  have h1 := List.all_eq_true.1 ha nm hnm
  obtain ⟨x, hx⟩ := Option.isSome_iff_exists.1 h1
  exact ⟨x, hx, find_safe h hx⟩
theorem says_dv {ps : List Pr} {nm r x : ByteArray} (hf : find ps nm = some x) (hs : hd.Safe x.data.toList) (h : Says ps nm r) : Dv ps nm r := by
  obtain ⟨c, h⟩ := h
  unfold Dv
  rw [hf] at h ⊢
  have hx := safe_size hs
  rcases h with ⟨a, _⟩ | ⟨_, a, _⟩ | ⟨_, _, q, hq, e⟩
  · have : 65536 < x.size := a
    omega
  · exact absurd hs a
  · cases e
    exact hq
theorem coded_le {x y : List UInt8} (h : hd.Coded x y) : y.length ≤ x.length := by
  have e := b6.enc_dec_n _ _ _ (Nat.le_refl _) h.2.2.1
  have h1 := b6.enc_length y
  rw [e, List.length_take, List.length_drop] at h1
  omega
theorem dec_le : ∀ (ws : List (List UInt8)) (f was : Bool) (o : List UInt8), hd.Dec f was ws o → o.length ≤ (ws.map fun x => x.length + 1).sum
  | [], f, was, o, h => by rw [show o = [] from h]; exact Nat.zero_le _
  | x :: r, f, was, o, h => by
    rw [List.map_cons, List.sum_cons]
    rcases h with ⟨y, p, hc, hd, rfl⟩ | ⟨hc, p, hd, rfl⟩
    · have h1 := dec_le r false true p hd
      have h2 := coded_le hc
      rw [List.length_append, List.length_append]
      have h3 : (if (f || was) = true then ([] : List UInt8) else [32]).length ≤ 1 := by split <;> simp
      omega
    · have h1 := dec_le r false false p hd
      rw [List.length_append, List.length_append]
      have h3 : (if f = true then ([] : List UInt8) else [32]).length ≤ 1 := by split <;> simp
      omega
theorem cut_sum : ∀ (l cur : List UInt8), ((hd.cutGo cur l).map fun x => x.length + 1).sum = cur.length + l.length + 1
  | [], cur => by simp [hd.cutGo]
  | b :: l, cur => by
    rw [hd.cutGo]
    split
    · rw [List.map_cons, List.sum_cons, cut_sum l []]
      simp
      omega
    · rw [cut_sum l (cur ++ [b])]
      simp
      omega
theorem dv_size {ps : List Pr} {nm r x : ByteArray} (hf : find ps nm = some x) (hs : hd.Safe x.data.toList) (h : Dv ps nm r) : r.size ≤ 2001 := by
  unfold Dv at h
  rw [hf] at h
  have h1 := dec_le _ _ _ _ h
  rw [cut_sum] at h1
  have h2 := hs.1
  rw [Lib.size_eq]
  have h3 : ((some x).getD (⟨#[]⟩ : ByteArray)).data.toList.length ≤ 2000 := h2
  simp only [List.length_nil] at h1
  omega
/-- An entry of nothing. -/
def noEn : en.En := ⟨⟨#[]⟩, ⟨#[]⟩, ⟨#[]⟩, ⟨#[]⟩, 0, ⟨#[]⟩⟩
def ER (e : en.En) (c : Int) : Ending := .returned (.tuple #[en.EV e, .int .i64 c])
/-- What a date says. -/
def dateR (ps : List Pr) : Value := rd.r8 ((find ps nDate).getD ⟨#[]⟩).data.toList
/-- What is answered of a mail that has its fields. -/
def EntIs (ps : List Pr) (T : ByteArray) (e : Ending) : Prop :=
  ∃ st c : Int, dateR ps = .tuple #[.int .i64 st, .int .i64 c] ∧
    (((c ≠ 0 ∨ (con T).2 = false) ∧ e = ER noEn 3) ∨
     (c = 0 ∧ (con T).2 = true ∧ ∃ ri rt rl ra, Dv ps nXid ri ∧ Dv ps nSubj rt ∧ Dv ps nXlnk rl ∧ Dv ps nFrom ra ∧
       ((en.eok ⟨ri, rt, rl, ra, st, (con T).1⟩ = true ∧ e = ER ⟨ri, rt, rl, ra, st, (con T).1⟩ 0) ∨ (en.eok ⟨ri, rt, rl, ra, st, (con T).1⟩ = false ∧ e = ER noEn 3))))
/-- What both MailEntry functions answer. -/
def MeRet (l : B) (e : Ending) : Prop :=
  (65536 < l.length ∧ e = ER noEn 2) ∨
  (l.length ≤ 65536 ∧ (¬ ∃ fs b, IsMail l fs b) ∧ e = ER noEn 3) ∨
  (l.length ≤ 65536 ∧ ∃ fs b, IsMail l fs b ∧ ((hasAll (prs fs) names = false ∧ e = ER noEn 5) ∨ (hasAll (prs fs) names = true ∧ EntIs (prs fs) ⟨b.toArray⟩ e)))
theorem dateR_form (ps : List Pr) : ∃ st c : Int, dateR ps = .tuple #[.int .i64 st, .int .i64 c] := by
  exact rd.r8_two _
end Go.Proofs.YtadfdfmebdcfgaaGreatDoor.me
