/-
  Words between blanks, and names of months: plain facts, and the contracts of the functions that look a name up.
-/
import Derived.Test.YtadfdfmebdcfgaaGreatDoorRde
import Derived.Test.YtadfdfmebdcfgaaGreatDoorTbd
import Derived.Lib.IndexMore
import Derived.Lib.IndexLaws
import Derived.Lib.Split
import Derived.Lib.SplitLaws
namespace Go.Proofs.YtadfdfmebdcfgaaGreatDoor.rd
open Go.RowKit
open dt
set_option linter.unusedVariables false
/-- The words between blanks. -/
def wds : List UInt8 → List UInt8 → List (List UInt8)
  | acc, [] => [acc]
  | acc, b :: l => if b = 32 then acc :: wds [] l else wds (acc ++ [b]) l
theorem wds_none : ∀ (u acc : List UInt8), (∀ b ∈ u, b ≠ 32) → wds acc u = [acc ++ u]
  | [], acc, _ => by simp [wds]
  | b :: u, acc, h => by
    rw [wds, if_neg (h b List.mem_cons_self), wds_none u _ (fun x hx => h x (List.mem_cons_of_mem _ hx))]
    simp
theorem wds_blank : ∀ (u acc r : List UInt8), (∀ b ∈ u, b ≠ 32) → wds acc (u ++ 32 :: r) = (acc ++ u) :: wds [] r
  | [], acc, r, _ => by simp [wds]
  | b :: u, acc, r, h => by
    rw [List.cons_append, wds, if_neg (h b List.mem_cons_self), wds_blank u _ r (fun x hx => h x (List.mem_cons_of_mem _ hx))]
    simp
theorem index_blank : ∀ (l : List UInt8), (Lib.index l [32] = -1 ∧ (∀ b ∈ l, b ≠ 32)) ∨ ∃ u r, l = u ++ 32 :: r ∧ (∀ b ∈ u, b ≠ 32) ∧ Lib.index l [32] = u.length
  | [] => .inl ⟨rfl, (fun b hb => by cases hb)⟩
  | b :: l => by
    by_cases h : b = 32
    · subst h
      exact .inr ⟨[], l, rfl, (fun b hb => by cases hb), (by rw [Lib.index]; simp [List.isPrefixOf])⟩
    · have hp : ([32] : List UInt8).isPrefixOf (b :: l) = false := by simp [List.isPrefixOf, Ne.symm h]
      rcases index_blank l with ⟨h1, h2⟩ | ⟨u, r, e, h2, h3⟩
      · refine .inl ⟨by rw [Lib.index, hp, h1]; rfl, fun x hx => ?_⟩
        rcases List.mem_cons.1 hx with rfl | hx
        · exact h
        · exact h2 x hx
      · refine .inr ⟨b :: u, r, by rw [e]; rfl, fun x hx => ?_, ?_⟩
        · rcases List.mem_cons.1 hx with rfl | hx
          · exact h
          · exact h2 x hx
        · rw [Lib.index, hp, h3]
          simp
theorem split_wds : ∀ (n : Nat) (l : List UInt8), l.length ≤ n → Lib.splitK [32] 0 (l.count 32) l = wds [] l
  | n, l, hn => by
    rcases index_blank l with ⟨h1, h2⟩ | ⟨u, r, e, h2, h3⟩
    · have hc : l.count 32 = 0 := List.count_eq_zero.2 (fun hm => h2 32 hm rfl)
      rw [hc, wds_none l [] h2]
      rfl
    · have hc : l.count 32 = r.count 32 + 1 := by
        rw [e, List.count_append, List.count_eq_zero.2 (fun hm => h2 32 hm rfl), List.count_cons_self]
        omega
      rw [hc, Lib.splitK, h3]
      rw [if_neg (by simp)]
      match n, hn with
      | 0, hn => rw [e] at hn; simp at hn
      | n + 1, hn =>
        have e1 : l.drop (((u.length : Nat) : Int).toNat + ([32] : List UInt8).length) = r := by rw [e]; simp
        have e2 : l.take (((u.length : Nat) : Int).toNat + 0) = u := by rw [e]; simp
        rw [e1, e2, split_wds n r (by rw [e] at hn; simp at hn; omega), e, wds_blank u [] r h2]
        rfl
theorem split_words (s : ByteArray) : (Lib.splitB ⟨#[32]⟩ 0 (Lib.countB s ⟨#[32]⟩) s).map (·.data.toList) = wds [] s.data.toList := by
  rw [Lib.splitB_data]
  have e : Lib.countB s ⟨#[32]⟩ = s.data.toList.count 32 := Lib.count_one 32 s.data.toList
  rw [e]
  exact split_wds _ _ (Nat.le_refl _)

/-- The month of a name, 0 of any other text. -/
def mon (n : List UInt8) : Int := if 1 ≤ td.mts.idxOf n ∧ td.mts.idxOf n ≤ 12 then (td.mts.idxOf n : Int) else 0
theorem mts_at {j : Nat} (h : j < 13) : td.mts.idxOf (td.mts[j]'h) = j := by
  have e : td.mts[j]'h = td.mts.getD j [] := by rw [List.getD_eq_getElem?_getD, List.getElem?_eq_getElem (show j < td.mts.length from h)]; rfl
  rw [e]
  clear e
  have : j = 0 ∨ j = 1 ∨ j = 2 ∨ j = 3 ∨ j = 4 ∨ j = 5 ∨ j = 6 ∨ j = 7 ∨ j = 8 ∨ j = 9 ∨ j = 10 ∨ j = 11 ∨ j = 12 := by omega
  rcases this with rfl | rfl | rfl | rfl | rfl | rfl | rfl | rfl | rfl | rfl | rfl | rfl | rfl <;> decide
theorem mon_at {j : Nat} (h1 : 1 ≤ j) (h : j < 13) : mon (td.mts[j]'h) = j := by
  unfold mon
  rw [mts_at h, if_pos ⟨h1, by omega⟩]
theorem mon_no {n : List UInt8} (h : ∀ j, 1 ≤ j → (hj : j < 13) → td.mts[j]'hj ≠ n) : mon n = 0 := by
  unfold mon
  rw [if_neg]
  rintro ⟨h1, h2⟩
  have hl : td.mts.idxOf n < td.mts.length := by show _ < 13; omega
  exact h _ h1 (by omega) (List.getElem_idxOf hl)
theorem mon_bound (n : List UInt8) : 0 ≤ mon n ∧ mon n ≤ 12 := by unfold mon; split <;> omega
theorem mt_name (j : Nat) (h : j < 13) : (⟨(td.mts[j]'h).toArray⟩ : ByteArray).toList = td.mts[j]'h := by rw [Lib.toList_data]

set_option maxHeartbeats 1000000 in
set_option maxRecDepth 100000 in
theorem month_any (n : ByteArray) (w : World) (hT : td.TN w) : Calls Tryz.prog 166 #[.string n] w fun e w' => e = .returned (.int .i64 (mon n.data.toList)) ∧ w' = w := by
  have HT : Hid (td.TN w) := hT
  clear hT
  go_enter Tryz.func166, Tryz.ntmps166
  go_wp2
  go_loop [3] (fun c => ∃ k : Nat, 1 ≤ k ∧ k ≤ 13 ∧ c = .int .i64 k ∧ ∀ j, 1 ≤ j → j < k → (hj : j < 13) → td.mts[j]'hj ≠ n.data.toList) (fun c => 13 - (intOf c).toNat)
  case atStart => exact ⟨1, Nat.le_refl _, by omega, rfl, fun j h1 h2 => absurd h2 (by omega)⟩
  case round =>
    obtain ⟨k, hk1, hk, rfl, hg⟩ := hrel
    have HG : Hid (∀ j, 1 ≤ j → j < k → (hj : j < 13) → td.mts[j]'hj ≠ n.data.toList) := hg
    clear hg
    by_cases hlt : k < 13
    · have hlt' : (k : Int) ≤ 12 := by omega
      have hlt2 : (k : Int) < 13 := by omega
      have hk0 : (0 : Int) ≤ (k : Int) := by omega
      have hcell := td.cellS HT.out k hlt
      have hnm := mt_name k hlt
      by_cases he : td.mts[k]'hlt = n.data.toList
      · have heb : ((⟨(td.mts[k]'hlt).toArray⟩ : ByteArray).toList == n.toList) = true := by rw [hnm, Lib.toList_data n]; exact beq_iff_eq.2 he
        have HM : Hid (mon n.data.toList = k) := (show mon n.data.toList = k from by rw [← he]; exact mon_at hk1 hlt)
        clear he hnm
        generalize (⟨(td.mts[k]'hlt).toArray⟩ : ByteArray) = nm at hcell heb
        go_wp2
        go_ret
        exact ⟨by rw [HM.out]; rfl, rfl⟩
      · have heb : ((⟨(td.mts[k]'hlt).toArray⟩ : ByteArray).toList == n.toList) = false := by rw [hnm, Lib.toList_data n]; exact beq_eq_false_iff_ne.2 he
        have HS : Hid (∀ j, 1 ≤ j → j < k + 1 → (hj : j < 13) → td.mts[j]'hj ≠ n.data.toList) := fun j h1 h2 hj => by
          by_cases e : j = k
          · subst e; exact he
          · exact HG.out j h1 (by omega) hj
        clear he hnm
        generalize (⟨(td.mts[k]'hlt).toArray⟩ : ByteArray) = nm at hcell heb
        go_wp2
        go_round
        case rel => exact ⟨k + 1, by omega, by omega, by go_num, HS.out⟩
        case measure => simp [intOf]; omega
    · obtain rfl : k = 13 := by omega
      have HM : Hid (mon n.data.toList = 0) := mon_no fun j h1 hj => HG.out j h1 hj hj
      go_wp2
      go_ret
      exact ⟨by rw [HM.out]; rfl, rfl⟩

/-- The name of a calendar's day of the week. -/
def wnm (n : Int) : List UInt8 := td.wks.getD ((n / 86400 + 4) % 7).toNat []
set_option maxHeartbeats 1000000 in
set_option maxRecDepth 100000 in
theorem week_any (y m d h i s : Int) (k : Ok y m d h i s) (w : World) (hT : td.TW w) :
    Calls Tryz.prog 122 #[C6 y m d h i s] w fun e w' => e = .returned (.string ⟨(wnm (st y m d h i s)).toArray⟩) ∧ Below w.heap.size w w' := by
  have sb := st_bounds k
  have K : Hid (Ok y m d h i s) := k
  have hst := fun w => dw.impl_st y m d h i s w
  unfold C6 at hst ⊢
  have hwd := dw.wd_in (dw.in_yes sb.1 sb.2)
  unfold wnm
  obtain ⟨a, ha⟩ : ∃ a : Nat, (st y m d h i s / 86400 + 4) % 7 = (a : Int) := ⟨((st y m d h i s / 86400 + 4) % 7).toNat, by omega⟩
  have ha7 : a < 7 := by omega
  rw [ha] at hwd ⊢
  rw [Int.toNat_natCast]
  have e0 : td.wks.getD a [] = td.wks[a]'ha7 := by rw [List.getD_eq_getElem?_getD, List.getElem?_eq_getElem (show a < td.wks.length from ha7)]; rfl
  rw [e0]
  have HT : Hid (∀ w', Below w.heap.size w w' → w'.cell? ⟨0, a, none⟩ = some (.string ⟨(td.wks[a]'ha7).toArray⟩)) := fun w' hb => td.cellS (td.keepS hT hb) a ha7
  have i0 : (0 : Int) ≤ (a : Int) := by omega
  have i1 : (a : Int) < 7 := by omega
  generalize (⟨(td.wks[a]'ha7).toArray⟩ : ByteArray) = nm at HT ⊢
  clear k hT e0 ha
  go_enter Tryz.func122, Tryz.ntmps122
  go_wp2_with fail
  refine (hst _).mono ?_
  rintro e w1 ⟨b1, hw⟩
  rcases hw with ⟨_, rfl⟩ | ⟨no, _⟩
  rotate_left
  · exact absurd K.out no
  have b2 : Below w.heap.size w w1 := (dw.bel_box w _).trans (b1.mono (by simp))
  clear b1 hst
  have hcell := HT.out _ b2
  clear HT
  generalize st y m d h i s = n at sb hwd ⊢
  go_wp2_with fail
  refine (dw.impl_wd n _).mono ?_
  rintro e w' ⟨rfl, rfl⟩
  rw [hwd]
  go_wp2
  go_ret
  exact ⟨rfl, b2⟩
end Go.Proofs.YtadfdfmebdcfgaaGreatDoor.rd
