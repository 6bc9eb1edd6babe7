/-
  Plain facts on the mail of an entry: it is a mail, with the fields and the text that it was made of.
  The contract of the program's ReadRfc822 at a text of the right form with a day of the week and a zone of digits.
  Texts that are written are read back: plain facts.
  Plain facts on the mail of an entry: it says what the entry says.
  Plain facts on the mail of an entry: how long it is, and its lines.
-/
import Derived.Test.YtadfdfmebdcfgaaGreatDoorPkah
import Derived.Test.YtadfdfmebdcfgaaGreatDoorPkbl
import Derived.Test.YtadfdfmebdcfgaaGreatDoorPkax
import Derived.Test.YtadfdfmebdcfgaaGreatDoorPkba
import Derived.Test.YtadfdfmebdcfgaaGreatDoorPkab
import Derived.Test.YtadfdfmebdcfgaaGreatDoorPkau

namespace Go.Proofs.YtadfdfmebdcfgaaGreatDoor.me
open Go
open fa fo ml
set_option linter.unusedVariables false

theorem crl_head : ∀ l : B, (rn.crl l).head? ≠ some 10
  | [] => by simp [rn.crl]
  | c :: l => by
    rw [rn.crl_cons]
    by_cases h : c = 10
    · rw [if_pos h]; simp
    · rw [if_neg h]; simpa using h
/-- Ends of lines of two bytes, made one byte again. -/
theorem lfr_crl : ∀ l : B, lfp.lfr (rn.crl l) = l
  | [] => rfl
  | c :: l => by
    rw [rn.crl_cons]
    by_cases h : c = 10
    · rw [if_pos h]
      show lfp.lfr (13 :: 10 :: rn.crl l) = c :: l
      rw [lfp.lfr_cons, if_pos ⟨rfl, rfl⟩, lfp.lfr_cons, if_neg (by rintro ⟨e, _⟩; exact absurd e (by decide)), lfr_crl l, h]
      rfl
    · rw [if_neg h]
      show lfp.lfr (c :: rn.crl l) = c :: l
      rw [lfp.lfr_cons, if_neg (by rintro ⟨_, e⟩; exact crl_head l e), lfr_crl l]
      rfl
/-- What a body of quoted text says. -/
theorem con_qt (x : B) (h : (qu.qt 0 x ++ nl).length ≤ 65536) : con ⟨(qu.qt 0 x ++ nl).toArray⟩ = (⟨(lfp.lfr x).toArray⟩, true) := by
  have hs : (⟨(qu.qt 0 x ++ nl).toArray⟩ : ByteArray).size = (qu.qt 0 x).length + 2 := by
    rw [Lib.size_eq]
    show (qu.qt 0 x ++ nl).length = _
    rw [List.length_append]
    rfl
  have h2 := con_body (T := ⟨(qu.qt 0 x ++ nl).toArray⟩) (.inr ⟨_, rfl⟩) (by omega) (by rw [Lib.size_eq]; exact h)
  have he : ((⟨(qu.qt 0 x ++ nl).toArray⟩ : ByteArray).extract 0 ((⟨(qu.qt 0 x ++ nl).toArray⟩ : ByteArray).size - 2)).data.toList = qu.qt 0 x := by
    rw [ByteArray.data_extract, Array.toList_extract, hs]
    simp
  rw [he, qu.uq_qt] at h2
  exact h2
/-- The fields, as bytes. -/
def lst (ps : List Pr) : List (B × B) := ps.map fun p => (p.1.data.toList, p.2.data.toList)
theorem prs_lst (ps : List Pr) : prs (lst ps) = ps := by
  unfold prs lst
  rw [List.map_map]
  conv => rhs; rw [← List.map_id ps]
  rfl
theorem all_list : ∀ (ps : List Pr) (a : ByteArray), (ps.foldl (fun acc p => acc ++ rn.FO p.1 p.2) a).data.toList = a.data.toList ++ foldM (lst ps)
  | [], a => by simp [foldM, lst]
  | p :: ps, a => by
    rw [List.foldl_cons, all_list ps]
    rw [ByteArray.data_append, Array.toList_append, List.append_assoc]
    rfl
theorem rend_list (e : en.En) (box : ByteArray) : (rn.rend e box).data.toList = foldM (lst (rn.flds e box)) ++ nl ++ (qu.qt 0 (rn.crl e.c.data.toList) ++ nl) := by
  unfold rn.rend rn.foldAll
  rw [ByteArray.data_append, Array.toList_append, ByteArray.data_append, Array.toList_append, all_list]
  rfl
/-- An entry's mail is a mail. -/
theorem rend_mail {e : en.En} {box : ByteArray} (h : en.eok e = true) (hb : nm.IsName box) (ha : rn.Enc e.a) (ht : rn.Enc e.t) (hi : rn.Enc e.i) (hl : rn.Enc e.l) :
    IsMail (rn.rend e box).data.toList (lst (rn.flds e box)) (qu.qt 0 (rn.crl e.c.data.toList) ++ nl) := by
  rw [rend_list]
  refine isMail_fold _ _ ?_ (by simp [lst, rn.flds])
  intro x hx
  obtain ⟨p, hp, rfl⟩ := List.mem_map.1 hx
  obtain ⟨⟨g1, g2⟩, g3, g4⟩ := rn.flds_good h hb ha ht hi hl p hp
  exact ⟨g1, by rw [← Lib.size_eq]; exact g3, g2⟩
end Go.Proofs.YtadfdfmebdcfgaaGreatDoor.me

namespace Go.Proofs.YtadfdfmebdcfgaaGreatDoor.rd
open Go.RowKit
open dt
set_option linter.unusedVariables false
/-- The first comma and blank stand behind three letters. -/
theorem index_three {a b c : UInt8} (r : List UInt8) (ha : a ≠ 44) (hb : b ≠ 44) (hc : c ≠ 44) : Lib.index (a :: b :: c :: 44 :: 32 :: r) [44, 32] = 3 := by
  have p1 : ([44, 32] : List UInt8).isPrefixOf (a :: b :: c :: 44 :: 32 :: r) = false := by simp [List.isPrefixOf, Ne.symm ha]
  have p2 : ([44, 32] : List UInt8).isPrefixOf (b :: c :: 44 :: 32 :: r) = false := by simp [List.isPrefixOf, Ne.symm hb]
  have p3 : ([44, 32] : List UInt8).isPrefixOf (c :: 44 :: 32 :: r) = false := by simp [List.isPrefixOf]
  have p4 : ([44, 32] : List UInt8).isPrefixOf (44 :: 32 :: r) = true := by simp [List.isPrefixOf]
  rw [Lib.index, p1, Lib.index, p2, Lib.index, p3, Lib.index, p4]
  rfl
theorem cut_three {a b c : UInt8} (r : List UInt8) (ha : a ≠ 44) (hb : b ≠ 44) (hc : c ≠ 44) : Lib.cut (a :: b :: c :: 44 :: 32 :: r) [44, 32] = ([a, b, c], r, true) := by
  unfold Lib.cut
  rw [index_three r ha hb hc]
  rfl

end Go.Proofs.YtadfdfmebdcfgaaGreatDoor.rd

namespace Go.Proofs.YtadfdfmebdcfgaaGreatDoor.rd
open Go.RowKit
open dt dx
set_option linter.unusedVariables false
theorem dg_isD {n : Int} (h0 : 0 ≤ n) (h1 : n ≤ 9) : isD (dg n) = true := isD_iff.2 (by rw [dg_nat h0 h1]; omega)
theorem dg_ne {n : Int} (h0 : 0 ≤ n) (h1 : n ≤ 9) {b : UInt8} (hb : isD b = false) : dg n ≠ b := fun e => by have := dg_isD h0 h1; rw [e, hb] at this; cases this
theorem num_two_dg {n : Int} (h0 : 0 ≤ n) (h1 : n ≤ 99) : num (two n) = n := by
  unfold two
  rw [num_two, dg_nat (by omega) (by omega), dg_nat (by omega) (by omega)]
  omega
theorem num_four_dg {n : Int} (h0 : 0 ≤ n) (h1 : n ≤ 9999) : num (four n) = n := by
  unfold four
  rw [num_four, dg_nat (by omega) (by omega), dg_nat (by omega) (by omega), dg_nat (by omega) (by omega), dg_nat (by omega) (by omega)]
  omega
theorem hf_two {n : Int} (h0 : 0 ≤ n) (h1 : n ≤ 99) : isD (dg (n / 10)) = true ∧ isD (dg (n % 10)) = true := ⟨dg_isD (by omega) (by omega), dg_isD (by omega) (by omega)⟩
theorem hf_four {n : Int} (h0 : 0 ≤ n) (h1 : n ≤ 9999) : isD (dg (n / 1000)) = true ∧ isD (dg (n / 100 % 10)) = true ∧ isD (dg (n / 10 % 10)) = true ∧ isD (dg (n % 10)) = true :=
  ⟨dg_isD (by omega) (by omega), dg_isD (by omega) (by omega), dg_isD (by omega) (by omega), dg_isD (by omega) (by omega)⟩
/-- The bounds that a right calendar's numbers have. -/
theorem ok_bounds {y m d h i s : Int} (k : Ok y m d h i s) : (0 ≤ y ∧ y ≤ 9999) ∧ (0 ≤ m ∧ m ≤ 99) ∧ (0 ≤ d ∧ d ≤ 99) ∧ (0 ≤ h ∧ h ≤ 99) ∧ (0 ≤ i ∧ i ≤ 99) ∧ (0 ≤ s ∧ s ≤ 99) := by
  obtain ⟨k1, k2, k3, k4, k5, k6, k7, k8, k9, k10, k11, k12⟩ := k
  have k13 := dm_pos y m
  omega
/-- The second text behind the comma. -/
def b82 (y : Int) (m : Nat) (d h i s : Int) : List UInt8 := two d ++ 32 :: (mtn m ++ 32 :: (four y ++ 32 :: (clk h i s ++ 32 :: [43, 48, 48, 48, 48])))
theorem wk_three {a : Nat} (h : a < 7) : ∃ x y z : UInt8, wkn a = [x, y, z] ∧ x ≠ 44 ∧ y ≠ 44 ∧ z ≠ 44 := by
  have : a = 0 ∨ a = 1 ∨ a = 2 ∨ a = 3 ∨ a = 4 ∨ a = 5 ∨ a = 6 := by omega
  rcases this with rfl | rfl | rfl | rfl | rfl | rfl | rfl <;> exact ⟨_, _, _, rfl, by decide, by decide, by decide⟩
theorem cut_t82 {a : Nat} (ha : a < 7) (y : Int) (m : Nat) (d h i s : Int) : Lib.cut (f82 a y m d h i s) [44, 32] = (wkn a, b82 y m d h i s, true) := by
  obtain ⟨x, u, z, e, h1, h2, h3⟩ := wk_three ha
  have hf : f82 a y m d h i s = x :: u :: z :: 44 :: 32 :: b82 y m d h i s := by
    unfold f82 b82
    rw [e]
    simp
  rw [hf, cut_three _ h1 h2 h3, e]
theorem mt_blank {m : Nat} (h : m < 13) : ∀ b ∈ mtn m, b ≠ 32 := by
  have : m = 0 ∨ m = 1 ∨ m = 2 ∨ m = 3 ∨ m = 4 ∨ m = 5 ∨ m = 6 ∨ m = 7 ∨ m = 8 ∨ m = 9 ∨ m = 10 ∨ m = 11 ∨ m = 12 := by omega
  rcases this with rfl | rfl | rfl | rfl | rfl | rfl | rfl | rfl | rfl | rfl | rfl | rfl | rfl <;> decide
theorem two_blank {n : Int} (h0 : 0 ≤ n) (h1 : n ≤ 99) : ∀ b ∈ two n, b ≠ 32 := by
  intro b hb
  simp only [two, List.mem_cons, List.not_mem_nil, or_false] at hb
  rcases hb with rfl | rfl <;> exact dg_ne (by omega) (by omega) (by decide)
theorem four_blank {n : Int} (h0 : 0 ≤ n) (h1 : n ≤ 9999) : ∀ b ∈ four n, b ≠ 32 := by
  intro b hb
  simp only [four, List.mem_cons, List.not_mem_nil, or_false] at hb
  rcases hb with rfl | rfl | rfl | rfl <;> exact dg_ne (by omega) (by omega) (by decide)
theorem clk_blank {h i s : Int} (h0 : 0 ≤ h) (h1 : h ≤ 99) (i0 : 0 ≤ i) (i1 : i ≤ 99) (s0 : 0 ≤ s) (s1 : s ≤ 99) : ∀ b ∈ clk h i s, b ≠ 32 := by
  intro b hb
  simp only [clk, List.mem_append, List.mem_cons, List.not_mem_nil, or_false] at hb
  rcases hb with (((hb | rfl) | hb) | rfl) | hb
  · exact two_blank h0 h1 b hb
  · decide
  · exact two_blank i0 i1 b hb
  · decide
  · exact two_blank s0 s1 b hb
theorem words_t82 {y : Int} {m : Nat} {d h i s : Int} (k : Ok y (m : Int) d h i s) : wds [] (b82 y m d h i s) = [two d, mtn m, four y, clk h i s, [43, 48, 48, 48, 48]] := by
  obtain ⟨⟨y0, y1⟩, ⟨m0, m1⟩, ⟨d0, d1⟩, ⟨h0, h1⟩, ⟨i0, i1⟩, ⟨s0, s1⟩⟩ := ok_bounds k
  have hm : m < 13 := by have := k.2.2.2.1; omega
  unfold b82
  rw [wds_blank _ _ _ (two_blank d0 d1), wds_blank _ _ _ (mt_blank hm), wds_blank _ _ _ (four_blank y0 y1), wds_blank _ _ _ (clk_blank h0 h1 i0 i1 s0 s1), wds_none _ _ (by decide)]
  rfl
theorem mon_mtn {m : Nat} (h1 : 1 ≤ m) (h : m < 13) : mon (mtn m) = m := by
  have e : mtn m = td.mts[m]'h := by unfold mtn; rw [List.getD_eq_getElem?_getD, List.getElem?_eq_getElem (show m < td.mts.length from h)]; rfl
  rw [e, mon_at h1 h]
theorem forms82 {y : Int} {m : Nat} {d h i s : Int} (k : Ok y (m : Int) d h i s) : hf (two d) [48] = false ∧ hf (two d) [48, 48] = true ∧ hf (four y) F4 = true ∧ hf (clk h i s) F8 = true := by
  obtain ⟨⟨y0, y1⟩, ⟨m0, m1⟩, ⟨d0, d1⟩, ⟨h0, h1⟩, ⟨i0, i1⟩, ⟨s0, s1⟩⟩ := ok_bounds k
  obtain ⟨a1, a2, a3, a4⟩ := hf_four y0 y1
  obtain ⟨c1, c2⟩ := hf_two d0 d1
  obtain ⟨e1, e2⟩ := hf_two h0 h1
  obtain ⟨f1, f2⟩ := hf_two i0 i1
  obtain ⟨g1, g2⟩ := hf_two s0 s1
  exact ⟨hf_no (by rw [two_len]; decide), by simp [two, hf, c1, c2], by simp [four, F4, hf, a1, a2, a3, a4], by simp [clk, two, F8, hf, e1, e2, f1, f2, g1, g2]⟩

end Go.Proofs.YtadfdfmebdcfgaaGreatDoor.rd

namespace Go.Proofs.YtadfdfmebdcfgaaGreatDoor.rd
open Go.RowKit
open dt dx
set_option linter.unusedVariables false
/-- A stamp is read back from its second text. -/
theorem r8_t82 (n : Int) (n0 : 0 ≤ n) (n1 : n ≤ 4102444799) : r8 (t82 n) = .tuple #[.int .i64 n, .int .i64 0] := by
  have k := civ_ok n0 n1
  obtain ⟨q, hq⟩ : ∃ q : Nat, mn n = (q : Int) := ⟨(mn n).toNat, by have := k.2.2.1; omega⟩
  have hs := st_civ (n := n)
  have ha7 : wkd n < 7 := by unfold wkd; omega
  rw [hq] at k hs
  obtain ⟨f1, f2, f3, f4⟩ := forms82 k
  obtain ⟨⟨y0, y1⟩, ⟨m0, m1⟩, ⟨d0, d1⟩, ⟨h0, h1⟩, ⟨i0, i1⟩, ⟨s0, s1⟩⟩ := ok_bounds k
  have hm1 : mon (mtn q) = (q : Int) := mon_mtn (by have := k.2.2.1; omega) (by have := k.2.2.2.1; omega)
  have c1 : g (clk (hr n) (dt.mt n) (sc n)) 0 2 = two (hr n) := rfl
  have c2 : g (clk (hr n) (dt.mt n) (sc n)) 3 2 = two (dt.mt n) := rfl
  have c3 : g (clk (hr n) (dt.mt n) (sc n)) 6 2 = two (sc n) := rfl
  have et : t82 n = f82 (wkd n) (yr n) q (dy n) (hr n) (dt.mt n) (sc n) := by unfold t82; rw [hq, Int.toNat_natCast]
  have l3 := wkn_len ha7
  have l3m := mtn_len (m := q) (by have := k.2.2.1; omega) (by have := k.2.2.2.1; omega)
  have hlen : ¬ 65536 < (t82 n).length := by
    rw [et]
    simp [f82, l3, l3m, two_len, four_len, clk_len]
  unfold r8
  rw [if_neg hlen, et]
  unfold implR
  rw [cut_t82 ha7]
  rw [if_pos rfl]
  show coreI (some (wkn (wkd n))) (wds [] (b82 (yr n) q (dy n) (hr n) (dt.mt n) (sc n))) = _
  rw [words_t82 k, coreI_yes (by unfold formI; rw [f2, f3, f4]; simp)]
  rw [c1, c2, c3, hm1, num_four_dg y0 y1, num_two_dg d0 d1, num_two_dg h0 h1, num_two_dg i0 i1, num_two_dg s0 s1]
  unfold coreC
  rw [if_pos ⟨ok_and.2 k, .inr (by rw [hs]; rfl)⟩]
  show fin _ _ _ _ _ _ 0 = _
  unfold fin
  rw [if_pos (ok_and.2 k), hs]
  rw [if_pos (by rw [Int.sub_zero]; exact dw.in_iff.2 ⟨n0, n1⟩), Int.sub_zero]
end Go.Proofs.YtadfdfmebdcfgaaGreatDoor.rd
namespace Go.Proofs.YtadfdfmebdcfgaaGreatDoor.me
open Go.RowKit
open fa fo ml
set_option linter.unusedVariables false
/-- What is encoded says the value that it was made of. -/
theorem enc_back {s o : ByteArray} (h : en.fld s = true) (hr : rn.Enc s) (ho : hd.Dec true false (hd.cutGo [] (rn.EN s).data.toList) o.data.toList) : o = s := by
  obtain ⟨h1, h2, _⟩ := en.fld_cases h
  obtain ⟨hR, n, hn⟩ := rn.right_of_good h2
  have hf := rn.flat_of hR hn
  have hl : ((ut.runesL s n).flatMap ut.encB).length ≤ 900 := by
    have : s.size = ((ut.runesL s n).flatMap ut.encB).length := by
      have := congrArg ByteArray.size hf
      rwa [ut.mk_size] at this
    omega
  have he := hr.1
  generalize rn.EN s = r at he ho
  rw [hf] at he
  have h3 := (hd.round_trip (ut.runesL_sc s n) hl he).2 _ ho
  rw [hf]
  exact ut.bytes_ext h3
theorem find_from (e : en.En) (box : ByteArray) : find (rn.flds e box) nFrom = some (rn.EN e.a) := rfl
theorem find_date (e : en.En) (box : ByteArray) : find (rn.flds e box) nDate = some ⟨(dx.t82 e.d).toArray⟩ := rfl
theorem find_subj (e : en.En) (box : ByteArray) : find (rn.flds e box) nSubj = some (rn.EN e.t) := rfl
theorem find_xid (e : en.En) (box : ByteArray) : find (rn.flds e box) nXid = some (rn.EN e.i) := rfl
theorem find_xlnk (e : en.En) (box : ByteArray) : find (rn.flds e box) nXlnk = some (rn.EN e.l) := rfl
theorem flds_all (e : en.En) (box : ByteArray) : hasAll (rn.flds e box) names = true := by
  refine hasAll_all (xs := [rn.EN e.a, ⟨(dx.t82 e.d).toArray⟩, rn.EN e.t, rn.EN e.i, rn.EN e.l]) rfl fun j hj => ?_
  match j, hj with
  | 0, _ => exact find_from e box
  | 1, _ => exact find_date e box
  | 2, _ => exact find_subj e box
  | 3, _ => exact find_xid e box
  | 4, _ => exact find_xlnk e box
theorem dv_back {e : en.En} {box nm s o : ByteArray} (hf : find (rn.flds e box) nm = some (rn.EN s)) (h : en.fld s = true) (hr : rn.Enc s) (ho : Dv (rn.flds e box) nm o) : o = s := by
  unfold Dv at ho
  rw [hf] at ho
  exact enc_back h hr ho
/-- An entry's mail says the entry. -/
theorem meRet_rend {e : en.En} {box : ByteArray} {x : Ending} (h : en.eok e = true) (hb : nm.IsName box) (ha : rn.Enc e.a) (ht : rn.Enc e.t) (hi : rn.Enc e.i) (hl : rn.Enc e.l)
    (hz : (rn.rend e box).data.toList.length ≤ 65536) (hx : MeRet (rn.rend e box).data.toList x) : x = ER e 0 := by
  have hm := rend_mail h hb ha ht hi hl
  obtain ⟨e1, e2, e3, e4, e5, e6, e7⟩ := rn.eok_cases h
  have hbz := body_len hm
  rcases hx with ⟨h1, _⟩ | ⟨_, h1, _⟩ | ⟨_, fs, b, hm', hx⟩
  · omega
  · exact absurd ⟨_, _, hm⟩ h1
  · obtain ⟨rfl, rfl⟩ := isMail_one hm' hm
    rw [prs_lst] at hx
    rcases hx with ⟨h1, _⟩ | ⟨_, st, c, hdt, hx⟩
    · rw [flds_all] at h1; cases h1
    · have hd2 : dateR (rn.flds e box) = .tuple #[.int .i64 e.d, .int .i64 0] := by
        unfold dateR
        rw [find_date]
        exact rd.r8_t82 e.d e6 e7
      rw [hd2] at hdt
      cases hdt
      have hc := con_qt (rn.crl e.c.data.toList) (by omega)
      rw [lfr_crl] at hc
      rcases hx with ⟨h1, _⟩ | ⟨_, _, ri, rt, rl, ra, d1, d2, d3, d4, hx⟩
      · rw [hc] at h1
        rcases h1 with h1 | h1
        · exact absurd rfl h1
        · cases h1
      · obtain rfl := dv_back (find_xid e box) e1 hi d1
        obtain rfl := dv_back (find_subj e box) e2 ht d2
        obtain rfl := dv_back (find_xlnk e box) e3 hl d3
        obtain rfl := dv_back (find_from e box) e4 ha d4
        rw [hc] at hx
        rcases hx with ⟨_, rfl⟩ | ⟨h1, _⟩
        · rfl
        · have h2 : en.eok e = false := h1
          rw [h] at h2
          cases h2
end Go.Proofs.YtadfdfmebdcfgaaGreatDoor.me

namespace Go.Proofs.YtadfdfmebdcfgaaGreatDoor.ml
open Go
open Go.Proofs.YtadfdfmebdcfgaaGreatDoor.qu (llw llw_nil llw_crlf llw_on okc)
set_option linter.unusedVariables false
/-- The lines of a mail have at most 998 characters. -/
theorem ll_mok : ∀ (n : Nat) (l : B) (w b : Nat), l.length ≤ n → mok w l = true → b ≤ 998 → llw w b l ≤ 998
  | n, [], w, b, _, _, hb => by rw [llw_nil]; exact hb
  | n, [c], w, b, _, h, _ => by rw [mok] at h; cases h
  | 0, a :: b' :: r, w, b, hn, _, _ => by simp at hn
  | n + 1, a :: b' :: r, w, b, hn, h, hb => by
    simp only [List.length_cons] at hn
    rw [mok] at h
    by_cases hc : a = 13 ∧ b' = 10
    · rw [if_pos hc] at h
      obtain ⟨rfl, rfl⟩ := hc
      rw [llw_crlf]
      exact ll_mok n r 0 b (by omega) h hb
    · rw [if_neg hc] at h
      by_cases hd : bad a = true ∨ 998 < w + 1
      · rw [if_pos hd] at h; cases h
      · rw [if_neg hd] at h
        have h13 : a ≠ 13 := fun e => hd (.inl (by rw [e]; rfl))
        rw [llw_on h13]
        have hw : w + 1 ≤ 998 := by
          rcases Nat.lt_or_ge 998 (w + 1) with h1 | h1
          · exact absurd (.inr h1) hd
          · exact h1
        exact ll_mok n (b' :: r) (w + 1) _ (by simp only [List.length_cons]; omega) h (by omega)
theorem ll_mail {l : B} (h : mok 0 l = true) : ln.ll l ≤ 998 := ll_mok _ l 0 0 (Nat.le_refl _) h (Nat.zero_le _)
end Go.Proofs.YtadfdfmebdcfgaaGreatDoor.ml
namespace Go.Proofs.YtadfdfmebdcfgaaGreatDoor.me
open Go
open fa fo ml
set_option linter.unusedVariables false
/-- An entry's mail has at most 65536 bytes. -/
theorem rend_len {e : en.En} {box : ByteArray} (h : en.eok e = true) (hb : nm.IsName box) (ha : rn.Enc e.a) (ht : rn.Enc e.t) (hi : rn.Enc e.i) (hl : rn.Enc e.l) : (rn.rend e box).data.toList.length ≤ 65536 := by
  obtain ⟨_, _, _, _, ⟨e5, _⟩, e6, e7⟩ := rn.eok_cases h
  have hm := (rn.mid_safe e box hb).2
  have hdt := (rn.date_safe e.d e6 e7).2
  have hq := qu.qt_len 0 (rn.crl e.c.data.toList)
  have hc := rn.crl_len e.c.data.toList
  have h1 := ha.2.2
  have h2 := ht.2.2
  have h3 := hi.2.2
  have h4 := hl.2.2
  rw [Lib.size_eq] at hm h1 h2 h3 h4 e5
  rw [rend_list]
  have F := fun nm v => ff.field_len nm v
  simp only [rn.flds, lst, foldM, List.map_cons, List.map_nil, List.flatMap_cons, List.flatMap_nil, List.length_append, List.length_nil]
  have f1 := F [70, 114, 111, 109] (rn.EN e.a).data.toList
  have f2 := F [68, 97, 116, 101] (dx.t82 e.d)
  have f3 := F [83, 117, 98, 106, 101, 99, 116] (rn.EN e.t).data.toList
  have f4 := F [77, 101, 115, 115, 97, 103, 101, 45, 73, 68] (rn.mid e box).data.toList
  have f5 := F [88, 45, 73, 100] (rn.EN e.i).data.toList
  have f6 := F [88, 45, 76, 105, 110, 107] (rn.EN e.l).data.toList
  have f7 := F [77, 73, 77, 69, 45, 86, 101, 114, 115, 105, 111, 110] [49, 46, 48]
  have f8 := F [67, 111, 110, 116, 101, 110, 116, 45, 84, 121, 112, 101] [116, 101, 120, 116, 47, 112, 108, 97, 105, 110, 59, 32, 99, 104, 97, 114, 115, 101, 116, 61, 117, 116, 102, 45, 56]
  have f9 := F [67, 111, 110, 116, 101, 110, 116, 45, 84, 114, 97, 110, 115, 102, 101, 114, 45, 69, 110, 99, 111, 100, 105, 110, 103] [113, 117, 111, 116, 101, 100, 45, 112, 114, 105, 110, 116, 97, 98, 108, 101]
  have hnl : nl.length = 2 := rfl
  simp only [List.length_cons, List.length_nil] at f1 f2 f3 f4 f5 f6 f7 f8 f9
  omega
theorem rend_ll {e : en.En} {box : ByteArray} (h : en.eok e = true) (hb : nm.IsName box) (ha : rn.Enc e.a) (ht : rn.Enc e.t) (hi : rn.Enc e.i) (hl : rn.Enc e.l) : ln.ll (rn.rend e box).data.toList ≤ 998 := ll_mail (rend_mail h hb ha ht hi hl).1
end Go.Proofs.YtadfdfmebdcfgaaGreatDoor.me
