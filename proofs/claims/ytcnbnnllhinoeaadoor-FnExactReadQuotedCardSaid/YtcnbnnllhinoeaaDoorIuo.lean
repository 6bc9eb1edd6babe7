/-
  Contracts of the program's reading of quoted text: the beginning, and the whole.
-/
import Derived.Test.YtcnbnnllhinoeaaDoorIun
namespace Go.Proofs.YtcnbnnllhinoeaaDoor.qu
open Go.RowKit
set_option linter.unusedVariables false

theorem prefix_soft (s : ByteArray) : Lib.hasPrefix s.data.toList (⟨#[61, 13, 10]⟩ : ByteArray).data.toList = soft s.data.toList := by
  unfold Lib.hasPrefix
  rw [Bool.eq_iff_iff, List.isPrefixOf_iff_prefix, soft_iff]
  constructor
  · rintro ⟨t, ht⟩
    exact ⟨t, ht.symm⟩
  · rintro ⟨t, ht⟩
    exact ⟨t, ht.symm⟩
theorem pre3_any (s : ByteArray) (w : World) : Calls Tryd.prog 14 #[.string s, .string ⟨#[61, 13, 10]⟩] w fun e w' => e = .returned (.bool (soft s.data.toList)) ∧ w' = w := by
  have := Tryd.strings_HasPrefix s ⟨#[61, 13, 10]⟩ w
  rw [prefix_soft] at this
  exact this
theorem ls61 : ∀ c : UInt8, ((c.toNat : Int) == 61) = (c == 61) := fun c => b6.byte_all (p := fun c => ((c.toNat : Int) == 61) = (c == 61)) (by decide +kernel) c

set_option maxHeartbeats 2000000 in
set_option maxRecDepth 100000 in
theorem first_any (s : ByteArray) (w : World) (hs : s.size ≤ 65536) (h1 : 1 ≤ s.size) (hT : tb.TD w) :
    Calls Tryd.prog 20 #[.string s] w fun e w' => First (fq s.data.toList) e ∧ Below w.heap.size w w' := by
  have v0 := str_ix2 s 0 0 rfl (by omega)
  have HFQ : Hid (fq s.data.toList = if soft s.data.toList then some ([], 3) else if crlf s.data.toList then some ([13, 10], 2)
      else if s.data.toList.getD 0 0 = 61 then (if s.size < 3 ∨ hv (s.data.toList.getD 1 0) < 0 ∨ hv (s.data.toList.getD 2 0) < 0 then none else some ([UInt8.ofNat ((hv (s.data.toList.getD 1 0)).toNat * 16 + (hv (s.data.toList.getD 2 0)).toNat)], 3))
      else if 32 ≤ (s.data.toList.getD 0 0).toNat ∧ (s.data.toList.getD 0 0).toNat ≤ 126 then some ([s.data.toList.getD 0 0], 1) else none) := rfl
  have HBY : Hid (Calls Tryd.prog 25 #[.string s] w fun e w' => First (if s.size < 3 ∨ hv (s.data.toList.getD 1 0) < 0 ∨ hv (s.data.toList.getD 2 0) < 0 then none else some ([UInt8.ofNat ((hv (s.data.toList.getD 1 0)).toNat * 16 + (hv (s.data.toList.getD 2 0)).toNat)], 3)) e ∧ Below w.heap.size w w') := byte_any s w hs hT
  generalize (if s.size < 3 ∨ hv (s.data.toList.getD 1 0) < 0 ∨ hv (s.data.toList.getD 2 0) < 0 then none else some ([UInt8.ofNat ((hv (s.data.toList.getD 1 0)).toNat * 16 + (hv (s.data.toList.getD 2 0)).toNat)], 3)) = ob at HFQ HBY
  have HEX : Hid ((s.extract 0 1).data.toList = [s.data.toList.getD 0 0]) := by
    rw [Lib.extract_data, List.drop_zero]
    cases hh : s.data.toList with
    | nil => exact absurd (show s.data.toList.length = 0 by rw [hh]; rfl) (by show ¬ s.size = 0; omega)
    | cons a t => exact rfl
  generalize s.data.toList.getD 0 0 = c0 at v0 HFQ HEX
  have b61 := ls61 c0
  have hc0 := c0.toNat_lt
  have HL61 : Hid (((c0.toNat : Int) == 61) = (c0 == 61)) := b61
  clear b61 hT
  have h1' : (1 : Int) ≤ (s.size : Int) := by omega
  generalize hF : fq s.data.toList = F at HFQ
  clear hF
  go_enter Tryd.func20, Tryd.ntmps20
  go_wp2_with fail
  refine (pre3_any s _).mono ?_
  rintro e w1 ⟨rfl, hw1⟩
  subst hw1
  cases hso : soft s.data.toList
  case true =>
    have HX : Hid (First F (.returned (.tuple #[.string ⟨#[]⟩, .int .i64 3]))) := first_some (p := []) (n := 3) (by rw [HFQ.out, if_pos hso])
    clear HFQ HBY HEX
    go_wp2
    go_ret2
    exact ⟨HX.out, Below.refl _ _⟩
  case false =>
    go_wp2_with fail
    refine (pre_any s _).mono ?_
    rintro e w2 ⟨rfl, hw2⟩
    subst hw2
    cases hcr : crlf s.data.toList
    case true =>
      have HX : Hid (First F (.returned (.tuple #[.string ⟨#[13, 10]⟩, .int .i64 2]))) := first_some (p := [13, 10]) (n := 2) (by rw [HFQ.out, hso, if_neg (by decide), if_pos hcr])
      clear HFQ HBY HEX
      go_wp2
      go_ret2
      exact ⟨HX.out, Below.refl _ _⟩
    case false =>
      by_cases e61 : c0 = 61
      · have hb61 : ((c0.toNat : Int) == 61) = true := by rw [HL61.out, e61]; rfl
        have HOB : Hid (F = ob) := (show F = ob from by rw [HFQ.out, hso, hcr, if_neg (by decide), if_neg (by decide), if_pos e61])
        clear HFQ HEX e61 HL61
        go_wp2_with fail
        refine HBY.out.mono ?_
        rintro e w3 ⟨⟨p, rfl, hp⟩, hb⟩
        rw [← HOB.out] at hp ⊢
        have HP : Hid (p.data.toList = (F.map (·.1)).getD []) := hp
        clear hp HBY HOB
        go_wp2
        go_ret2
        exact ⟨⟨p, rfl, HP.out⟩, hb⟩
      · have hb61 : ((c0.toNat : Int) == 61) = false := by rw [HL61.out]; simpa using e61
        by_cases hin : 32 ≤ c0.toNat ∧ c0.toNat ≤ 126
        · have h32 : (32 : Int) ≤ (c0.toNat : Int) := by omega
          have h32d : decide ((32 : Int) ≤ (c0.toNat : Int)) = true := decide_eq_true h32
          have h126 : (c0.toNat : Int) ≤ 126 := by omega
          have h126d : decide ((c0.toNat : Int) ≤ 126) = true := decide_eq_true h126
          have HX : Hid (First F (.returned (.tuple #[.string (s.extract 0 1), .int .i64 1]))) := ⟨_, by rw [HFQ.out, hso, hcr, if_neg (by decide), if_neg (by decide), if_neg e61, if_pos hin]; rfl, by rw [HEX.out, HFQ.out, hso, hcr, if_neg (by decide), if_neg (by decide), if_neg e61, if_pos hin]; rfl⟩
          clear HFQ HBY HEX e61 HL61 hin
          generalize c0.toNat = x0 at v0 hb61 hc0 h32 h32d h126 h126d
          go_wp2
          go_ret2
          exact ⟨HX.out, Below.refl _ _⟩
        · have HX : Hid (First F (.returned (.tuple #[.string ⟨#[]⟩, .int .i64 0]))) := first_none (by rw [HFQ.out, hso, hcr, if_neg (by decide), if_neg (by decide), if_neg e61, if_neg hin])
          clear HFQ HBY HEX e61 HL61
          by_cases h32 : (32 : Int) ≤ (c0.toNat : Int)
          · have h32d : decide ((32 : Int) ≤ (c0.toNat : Int)) = true := decide_eq_true h32
            have h126d : decide ((c0.toNat : Int) ≤ 126) = false := decide_eq_false (by omega)
            clear hin
            generalize c0.toNat = x0 at v0 hb61 hc0 h32 h32d h126d
            go_wp2
            go_ret2
            exact ⟨HX.out, Below.refl _ _⟩
          · have h32d : decide ((32 : Int) ≤ (c0.toNat : Int)) = false := decide_eq_false h32
            clear hin
            generalize c0.toNat = x0 at v0 hb61 hc0 h32 h32d
            go_wp2
            go_ret2
            exact ⟨HX.out, Below.refl _ _⟩

/-- What both readings answer. -/
def Got (s : ByteArray) (base : Nat) (e : Ending) (w' : World) : Prop :=
  ∃ v, e = .returned (.tuple #[v, .int .i64 (uc s)]) ∧ w'.ownsRow base 5 1 v (ul s).length (Lib.byteCells (ul s))
theorem got_none {s : ByteArray} {base : Nat} {w : World} {c : Int} (h1 : ul s = []) (h2 : uc s = c) : Got s base (.returned (.tuple #[.slice none 0 0, .int .i64 c])) w :=
  ⟨_, by rw [h2], by rw [h1]; exact World.ownsRow_nil _ _ _ _⟩

set_option maxHeartbeats 4000000 in
set_option maxRecDepth 100000 in
theorem implUn_any (s : ByteArray) (w : World) (hT : tb.TD w) (hs : s.size ≤ maxLen) :
    Calls Tryd.prog 10 #[.string s] w fun e w' => Got s w.heap.size e w' ∧ Below w.heap.size w w' := by
  unfold maxLen at hs
  by_cases hl : s.size ≤ 65536
  case neg =>
    have hd : (65536 : Int) < (s.size : Int) := by omega
    have HX : Hid (ul s = [] ∧ uc s = 2) := ⟨if_neg hl, if_neg hl⟩
    clear hT
    go_enter Tryd.func10, Tryd.ntmps10
    go_wp2
    go_ret2
    exact ⟨got_none HX.out.1 HX.out.2, Below.refl _ _⟩
  have hld : decide (65536 < (s.size : Int)) = false := decide_eq_false (by omega)
  have hl' : (s.size : Int) ≤ 65536 := by omega
  obtain ⟨i0, hi, hz0, hz1, hz2⟩ := info_parts bl.info1
  have HTT : Hid (∀ W, Below w.heap.size w W → tb.TD W) := fun W hW => tb.keep' hT hW
  clear hT
  go_enter Tryd.func10, Tryd.ntmps10
  go_wp2_with (at_make; go_loud (refine wpList_make_own _ rfl _ _ 22 rfl w.heap.size 5 i0 (.int .u8 0) 1 Tryd.underlying22 hi hz0 hz1 _ _ _ s.size rfl rfl rfl (by rw [hz2]; omega) (by unfold maxLen; omega) (Nat.le_refl _) ?_); intro w1 hown1 hg1)
  have hbw1 : Below w.heap.size w w1 := (Below.refl _ _).grown hg1 (Nat.le_refl _) (fun k hk => by cases hk)
  clear hg1
  go_loopw [0, 4] (fun x b wr => ∃ (r : ByteArray) (q : List UInt8), x = .string r ∧ Hid (r.size + q.length ≤ s.size) ∧ Hid ((uq r.data.toList).map (q ++ ·) = uq s.data.toList) ∧ wr.ownsRow w.heap.size 5 1 b q.length (Lib.byteCells q) ∧ Below w.heap.size w wr) (fun x _ _ => sz x)
  case atStart => exact ⟨s, [], rfl, Nat.le_of_eq (Nat.add_zero _), (show (uq s.data.toList).map ([] ++ ·) = uq s.data.toList from by simp), hown1, hbw1⟩
  case round =>
    clear hown1 hbw1
    obtain ⟨r, q, rfl, HSZ, HQ, hown, hbw⟩ := hrel
    by_cases hr : r.size = 0
    · have hE : r.toList.isEmpty = true := by
        rw [ByteArray.toList_eq, List.isEmpty_iff]
        exact List.eq_nil_of_length_eq_zero hr
      have HX : Hid (ul s = q ∧ uc s = 0) := ul_some hl (by rw [← HQ.out, List.eq_nil_of_length_eq_zero (show r.data.toList.length = 0 from hr), uq_nil]; simp)
      clear HQ
      go_wp2
      go_ret2
      exact ⟨⟨_, by rw [HX.out.2]; rfl, by rw [HX.out.1]; exact hown⟩, hbw⟩
    · have hr1 : 1 ≤ r.size := by omega
      have hE : r.toList.isEmpty = false := by
        rw [ByteArray.toList_eq]
        cases hh : r.data.toList with
        | nil => exact absurd (show r.data.toList.length = 0 by rw [hh]; rfl) hr
        | cons => rfl
      have hne : r.data.toList ≠ [] := fun e => hr (show r.data.toList.length = 0 by rw [e]; rfl)
      have HNE : Hid (r.data.toList ≠ []) := hne
      clear hne
      go_wp2_with fail
      refine (first_any r _ (by have := HSZ.out; omega) hr1 (HTT.out _ hbw)).mono ?_
      rintro e w2 ⟨⟨p, rfl, hp⟩, hb2⟩
      have hbw2 := hbw.trans (hb2.mono hbw.size)
      have hown2 := ow.own_below hown hb2
      clear hown hb2 hbw
      cases hfq : fq r.data.toList with
      | none =>
        have HX : Hid (ul s = [] ∧ uc s = 3) := ul_none hl (u_fall HNE.out HQ.out hfq)
        clear HQ hown2 hp hfq
        go_wp2
        go_ret2
        exact ⟨got_none HX.out.1 HX.out.2, hbw2⟩
      | some pn =>
        obtain ⟨p', n⟩ := pn
        obtain ⟨k1, k2, k3⟩ := fq_size hfq HNE.out
        have k2 : n ≤ r.size := k2
        have HM : Hid ((uq (r.data.toList.drop n)).map ((q ++ p') ++ ·) = uq s.data.toList) := u_more HNE.out HQ.out hfq
        rw [hfq] at hp
        have hpp : p.data.toList = p' := hp
        have hpl : p.size = p'.length := by rw [← hpp]; rfl
        have HPP : Hid (p.data.toList = p') := hpp
        clear HQ hp hfq hpp
        simp only [Option.map_some, Option.getD_some]
        have hn0 : ((n : Int) == 0) = false := by rw [beq_eq_false_iff_ne]; omega
        have hn1 : (n : Int) ≤ (r.size : Int) := by omega
        have hn2 : (1 : Int) ≤ (n : Int) := by omega
        have hsw := hbw2.size
        go_wp2_with (at_builtin; go_loud (refine Lib.wpList_append_own_string _ rfl _ _ 22 9 rfl w.heap.size 5 i0 Tryd.underlying22 Tryd.underlying9 hi hz0 hz1 hz2 _ _ _ rfl hown2 p rfl (by have := HSZ.out; unfold maxLen; omega) (by have := HSZ.out; omega) hsw ?_); intro v' w3 hown' hgrow _)
        have hbz := hbw2.grown hgrow hsw (ow.own_lt hown2)
        have hown3 : w3.ownsRow w.heap.size 5 1 v' (q ++ p').length (Lib.byteCells (q ++ p')) := by
          rw [List.length_append, Lib.byteCells_append, ← HPP.out, ← Lib.strCells_eq]
          exact hown'
        exact ⟨⟨_, q ++ p', rfl, (show (r.extract n r.size).size + (q ++ p').length ≤ s.size from by rw [ext_size r n k2, List.length_append]; have := HSZ.out; omega), (by rw [ext_drop r n k2]; exact HM), hown3, hbz⟩, by show (r.extract n r.size).size < r.size; rw [ext_size r n k2]; omega⟩
end Go.Proofs.YtcnbnnllhinoeaaDoor.qu
