/-
  The contract of the program's ReadRfc822 at every text.
  A law on regions that draw their order: each operation brings its own fact, which abides what the others do; whatever the order, all facts hold behind the last.
-/
import Derived.Test.YtadfdfmebdcfgaaGreatDoorPkbb
import Derived.Test.YtadfdfmebdcfgaaGreatDoorPkbc
import Derived.Test.YtadfdfmebdcfgaaGreatDoorPkab
import Derived.Orders
import Derived.RegionTactic

namespace Go.Proofs.YtadfdfmebdcfgaaGreatDoor.rd
open Go.RowKit
open dt
set_option linter.unusedVariables false
theorem wds_len : ∀ (l acc : List UInt8), ∀ u ∈ wds acc l, u.length ≤ acc.length + l.length
  | [], acc, u, h => by simp [wds] at h; rw [h]; simp
  | b :: l, acc, u, h => by
    rw [wds] at h
    split at h
    · rcases List.mem_cons.1 h with rfl | h
      · simp
      · have := wds_len l [] u h
        simp at this ⊢
        omega
    · have := wds_len l _ u h
      simp at this ⊢
      omega
/-- Words lie where a slice leads to. -/
def WordsAt (V : List (List UInt8)) (v : Value) (w : World) : Prop := ∃ b, v = .slice (some ⟨b, 0, none⟩) V.length V.length ∧ w.heap[b]? = some (.cells ((V.map fun l => Value.string ⟨l.toArray⟩)).toArray 9)
theorem split_cells (s : ByteArray) : Lib.countB s ⟨#[32]⟩ + 1 = (wds [] s.data.toList).length ∧ ((Lib.splitB ⟨#[32]⟩ 0 (Lib.countB s ⟨#[32]⟩) s).map Value.string).toArray = ((wds [] s.data.toList).map fun l => Value.string ⟨l.toArray⟩).toArray := by
  have e := split_words s
  have hc := Lib.splitB_all ⟨#[32]⟩ (by decide) 0 _ s rfl
  rw [← e]
  refine ⟨by rw [List.length_map, hc], ?_⟩
  rw [List.map_map]
  rfl
theorem split_any (s : ByteArray) (hs : s.size ≤ 65536) (w : World) (mx : Int) (hm : w.cell? ⟨4, 0, none⟩ = some (.int .i64 mx)) :
    Calls Tryz.prog 120 #[.string s, .string ⟨#[32]⟩] w fun e w'' => ∃ v, e = .returned v ∧ Below w.heap.size w w'' ∧ WordsAt (wds [] s.data.toList) v w'' := by
  obtain ⟨q1, q2⟩ := split_cells s
  refine (Tryz.strings_Split s ⟨#[32]⟩ mx w (by omega) hm (by decide)).mono ?_
  rintro e w'' ⟨rfl, rfl⟩
  refine ⟨_, rfl, dw.bel_box _ _, w.heap.size, by rw [q1], ?_⟩
  rw [q2]
  show (w.heap.push _)[w.heap.size]? = _
  simp
theorem five_of {V : List (List UInt8)} {v : Value} {w : World} {d mo y c z : List UInt8} (h : WordsAt V v w) (e : V = [d, mo, y, c, z]) : ∃ b, v = .slice (some ⟨b, 0, none⟩) 5 5 ∧ Five w b ⟨d.toArray⟩ ⟨mo.toArray⟩ ⟨y.toArray⟩ ⟨c.toArray⟩ ⟨z.toArray⟩ := by
  obtain ⟨b, h1, h2⟩ := h
  subst e
  exact ⟨b, h1, h2⟩
theorem words_bad (V : List (List UInt8)) (hV : ∀ u ∈ V, u.length ≤ 65536) (hn : V.length ≤ 1048576) (w : World) (v : Value) (h : WordsAt V v w) (hb : V.length ≠ 5 ∨ ∃ d mo y c z, V = [d, mo, y, c, z] ∧ formI d y c = false) :
    Calls Tryz.prog 119 #[v] w fun e w'' => e = .returned noW ∧ Below w.heap.size w w'' := by
  rcases hb with hb | ⟨d, mo, y, c, z, e, hf⟩
  · obtain ⟨b, rfl, _⟩ := h
    exact words_len w _ _ _ hb hn
  · obtain ⟨b, rfl, L⟩ := five_of h e
    subst e
    exact words_form w b _ _ _ _ _ L (hV d (by simp)) (hV y (by simp)) (hV c (by simp)) hf
theorem words_fine (w : World) (v : Value) (d mo y c z : List UInt8) (h : WordsAt [d, mo, y, c, z] v w) (hT : td.TN w) (hf0 : formI d y c = true) :
    Calls Tryz.prog 119 #[v] w fun e w'' => e = .returned (.tuple #[C6 (num y) (mon mo) (num d) (num (g c 0 2)) (num (g c 3 2)) (num (g c 6 2)), .string ⟨z.toArray⟩, .bool true]) ∧ Below w.heap.size w w'' := by
  obtain ⟨b, rfl, L⟩ := five_of h rfl
  unfold formI at hf0
  simp only [Bool.and_eq_true, Bool.or_eq_true] at hf0
  obtain ⟨⟨h1, h2⟩, h3⟩ := hf0
  cases q : hf d [48]
  · rcases h1 with h1 | h1
    · rw [q] at h1; cases h1
    · exact words_good w b _ _ _ _ _ L hT q h1 h2 h3
  · exact words_one w b _ _ _ _ _ L hT q h2 h3

set_option maxHeartbeats 2000000 in
theorem told_822 (s ab cb : ByteArray) (hb : (s.size : Int) ≤ 65536) (a V0 : List UInt8) (w : World)
    (HC : Hid (Calls Tryz.prog 30 #[.string s, .string ⟨#[44, 32]⟩] w fun e w' => e = .returned (.tuple #[.string ab, .string cb, .bool true]) ∧ Drawn w w'))
    (hab : ab.data.toList = a) (hrb : cb.data.toList = V0) (hV0 : V0.length ≤ 65536) (HT : ∀ w', Below w.heap.size w w' → td.TN w' ∧ td.TW w')
    (HS : Hid (∀ w', Below w.heap.size w w' → Calls Tryz.prog 120 #[.string cb, .string ⟨#[32]⟩] w' fun e w'' => ∃ v, e = .returned v ∧ Below w'.heap.size w' w'' ∧ WordsAt (wds [] V0) v w'')) :
    Calls Tryz.prog 68 #[.string s] w fun e w' => e = .returned (coreI (some a) (wds [] V0)) ∧ Below w.heap.size w w' := by
  have hV : ∀ u ∈ wds [] V0, u.length ≤ 65536 := fun u hu => by have := wds_len V0 [] u hu; simp at this; omega
  by_cases hbad : (wds [] V0).length ≠ 5 ∨ ∃ d mo y c z, wds [] V0 = [d, mo, y, c, z] ∧ formI d y c = false
  · have e : coreI (some a) (wds [] V0) = bad := by
      rcases hbad with h | ⟨d, mo, y, c, z, e, h⟩
      · exact coreI_len h
      · rw [e]; exact coreI_form h
    rw [e]
    have hn : (wds [] V0).length ≤ 1048576 := by
      have e := split_words ⟨V0.toArray⟩
      rw [show (⟨V0.toArray⟩ : ByteArray).data.toList = V0 from by simp] at e
      rw [← e, List.length_map]
      have h1 := Lib.splitB_length_le ⟨#[32]⟩ 0 (Lib.countB ⟨V0.toArray⟩ ⟨#[32]⟩) ⟨V0.toArray⟩
      have h2 := Lib.countB_le ⟨#[32]⟩ (by decide) _ ⟨V0.toArray⟩ (Nat.le_refl _)
      have h3 : (⟨V0.toArray⟩ : ByteArray).size = V0.length := by simp [ByteArray.size]
      omega
    exact way_told_noW s ab cb hb (WordsAt (wds [] V0)) w HC HS (fun w' v hb' hq => words_bad _ hV hn w' v hq hbad)
  have h5 : (wds [] V0).length = 5 := Classical.byContradiction fun h => hbad (.inl h)
  obtain ⟨d, mo, y, c, z, eV⟩ : ∃ d mo y c z, wds [] V0 = [d, mo, y, c, z] := by
    match hv : wds [] V0, h5 with
    | [d, mo, y, c, z], _ => exact ⟨d, mo, y, c, z, rfl⟩
  have hf0 : formI d y c = true := by
    cases q : formI d y c
    · exact absurd (.inr ⟨d, mo, y, c, z, eV, q⟩) hbad
    · rfl
  have hzl : z.length ≤ 65536 := hV z (by rw [eV]; simp)
  rw [eV] at HS ⊢
  rw [coreI_yes hf0]
  have HW : Hid (∀ w' v, Below w.heap.size w w' → WordsAt [d, mo, y, c, z] v w' → Calls Tryz.prog 119 #[v] w' fun e w'' => e = .returned (.tuple #[C6 (num y) (mon mo) (num d) (num (g c 0 2)) (num (g c 3 2)) (num (g c 6 2)), .string ⟨z.toArray⟩, .bool true]) ∧ Below w'.heap.size w' w'') := fun w' v hb' hq => words_fine w' v d mo y c z hq (HT w' hb').1 hf0
  generalize num y = Y at HW ⊢
  generalize mon mo = M at HW ⊢
  generalize num d = D at HW ⊢
  generalize num (g c 0 2) = H at HW ⊢
  generalize num (g c 3 2) = I at HW ⊢
  generalize num (g c 6 2) = S at HW ⊢
  by_cases hok : Ok Y M D H I S
  rotate_left
  · rw [coreC_no hok]
    exact way_told_notOk s ab cb hb _ w ⟨z.toArray⟩ Y M D H I S HC HS HW hok
  have HN : Hid (∀ w', Below w.heap.size w w' → Calls Tryz.prog 122 #[C6 Y M D H I S] w' fun e w'' => e = .returned (.string ⟨(wnm (st Y M D H I S)).toArray⟩) ∧ Below w'.heap.size w' w'') := fun w' hb' => week_any Y M D H I S hok w' (HT w' hb').2
  by_cases hday : a = wnm (st Y M D H I S)
  rotate_left
  · rw [coreC_day hday]
    exact way_told_day s ab cb hb _ w ⟨z.toArray⟩ Y M D H I S HC HS HW hok ⟨(wnm (st Y M D H I S)).toArray⟩ HN (by rw [Lib.toList_data, Lib.toList_data, hab]; exact beq_eq_false_iff_ne.2 (by simpa using hday))
  have dn : (ab.toList == (⟨(wnm (st Y M D H I S)).toArray⟩ : ByteArray).toList) = true := by rw [Lib.toList_data, Lib.toList_data, hab]; exact beq_iff_eq.2 (by simpa using hday)
  have HI : ∀ q : Int, -90000 ≤ q → q ≤ 90000 → ∃ x c : Int, fin Y M D H I S q = .tuple #[.int .i64 x, .int .i64 c] ∧ Hid (∀ w, Calls Tryz.prog 124 #[C6 Y M D H I S, .int .i64 q] w fun e w' => e = .returned (.tuple #[.int .i64 x, .int .i64 c]) ∧ Below w.heap.size w w') := fun q q0 q1 => by
    obtain ⟨x, c, hx⟩ := fin_form Y M D H I S q
    refine ⟨x, c, hx, fun w => ?_⟩
    rw [← hx]
    exact in_stamp Y M D H I S q hok q0 q1 w
  by_cases z1 : z = [71, 77, 84]
  · obtain ⟨x, c, hx, HI0⟩ := HI 0 (by decide) (by decide)
    rw [coreC_fin (a := 0) hok (.inr (by rw [hday])) (by rw [zw, if_pos (.inl z1)]), hx]
    exact way_told_GMT s ab cb hb _ w ⟨z.toArray⟩ Y M D H I S HC HS HW hok ⟨(wnm (st Y M D H I S)).toArray⟩ HN dn (by rw [Lib.toList_data]; exact beq_iff_eq.2 (by simpa using z1)) x c HI0
  have d1 : ((⟨z.toArray⟩ : ByteArray).toList == [71, 77, 84]) = false := by rw [Lib.toList_data]; exact beq_eq_false_iff_ne.2 (by simpa using z1)
  by_cases z2 : z = [85, 84]
  · obtain ⟨x, c, hx, HI0⟩ := HI 0 (by decide) (by decide)
    rw [coreC_fin (a := 0) hok (.inr (by rw [hday])) (by rw [zw, if_pos (.inr z2)]), hx]
    exact way_told_UT s ab cb hb _ w ⟨z.toArray⟩ Y M D H I S HC HS HW hok ⟨(wnm (st Y M D H I S)).toArray⟩ HN dn d1 (by rw [Lib.toList_data]; exact beq_iff_eq.2 (by simpa using z2)) x c HI0
  have d2 : ((⟨z.toArray⟩ : ByteArray).toList == [85, 84]) = false := by rw [Lib.toList_data]; exact beq_eq_false_iff_ne.2 (by simpa using z2)
  have hzw : zw z = zp z := by rw [zw, if_neg (by rintro (h | h) <;> contradiction)]
  have HZ : ∀ w, Calls Tryz.prog 123 #[.string ⟨z.toArray⟩, .string ⟨#[48, 48, 48, 48]⟩] w fun e w' => e = .returned (zr (zp z)) ∧ Drawn w w' := fun w => by
    have := sec_any ⟨z.toArray⟩ ⟨#[48, 48, 48, 48]⟩ hzl (.inr rfl) w
    rw [show (⟨#[48, 48, 48, 48]⟩ : ByteArray).data.toList = F4 from rfl, show (⟨z.toArray⟩ : ByteArray).data.toList = z from by simp, zi_plain] at this
    exact this
  cases hz : zp z with
  | none =>
    rw [coreC_zone (by rw [hzw]; exact hz)]
    rw [hz] at HZ
    exact way_told_none s ab cb hb _ w ⟨z.toArray⟩ Y M D H I S HC HS HW hok ⟨(wnm (st Y M D H I S)).toArray⟩ HN dn d1 d2 HZ
  | some q =>
    obtain ⟨q0, q1⟩ := zp_bound hz
    obtain ⟨x, c, hx, HI0⟩ := HI q q0 q1
    rw [coreC_fin (a := q) hok (.inr (by rw [hday])) (by rw [hzw]; exact hz), hx]
    rw [hz] at HZ
    exact way_told_some s ab cb hb _ w ⟨z.toArray⟩ Y M D H I S HC HS HW hok ⟨(wnm (st Y M D H I S)).toArray⟩ HN dn d1 d2 q HZ x c HI0

set_option maxHeartbeats 2000000 in
theorem plain_822 (s ab cb : ByteArray) (hb : (s.size : Int) ≤ 65536) (a V0 : List UInt8) (w : World)
    (HC : Hid (Calls Tryz.prog 30 #[.string s, .string ⟨#[44, 32]⟩] w fun e w' => e = .returned (.tuple #[.string ab, .string cb, .bool false]) ∧ Drawn w w'))
    (hab : ab.data.toList = a) (hrb : s.data.toList = V0) (hV0 : V0.length ≤ 65536) (HT : ∀ w', Below w.heap.size w w' → td.TN w' ∧ td.TW w')
    (HS : Hid (∀ w', Below w.heap.size w w' → Calls Tryz.prog 120 #[.string s, .string ⟨#[32]⟩] w' fun e w'' => ∃ v, e = .returned v ∧ Below w'.heap.size w' w'' ∧ WordsAt (wds [] V0) v w'')) :
    Calls Tryz.prog 68 #[.string s] w fun e w' => e = .returned (coreI none (wds [] V0)) ∧ Below w.heap.size w w' := by
  have hV : ∀ u ∈ wds [] V0, u.length ≤ 65536 := fun u hu => by have := wds_len V0 [] u hu; simp at this; omega
  by_cases hbad : (wds [] V0).length ≠ 5 ∨ ∃ d mo y c z, wds [] V0 = [d, mo, y, c, z] ∧ formI d y c = false
  · have e : coreI none (wds [] V0) = bad := by
      rcases hbad with h | ⟨d, mo, y, c, z, e, h⟩
      · exact coreI_len h
      · rw [e]; exact coreI_form h
    rw [e]
    have hn : (wds [] V0).length ≤ 1048576 := by
      have e := split_words ⟨V0.toArray⟩
      rw [show (⟨V0.toArray⟩ : ByteArray).data.toList = V0 from by simp] at e
      rw [← e, List.length_map]
      have h1 := Lib.splitB_length_le ⟨#[32]⟩ 0 (Lib.countB ⟨V0.toArray⟩ ⟨#[32]⟩) ⟨V0.toArray⟩
      have h2 := Lib.countB_le ⟨#[32]⟩ (by decide) _ ⟨V0.toArray⟩ (Nat.le_refl _)
      have h3 : (⟨V0.toArray⟩ : ByteArray).size = V0.length := by simp [ByteArray.size]
      omega
    exact way_plain_noW s ab cb hb (WordsAt (wds [] V0)) w HC HS (fun w' v hb' hq => words_bad _ hV hn w' v hq hbad)
  have h5 : (wds [] V0).length = 5 := Classical.byContradiction fun h => hbad (.inl h)
  obtain ⟨d, mo, y, c, z, eV⟩ : ∃ d mo y c z, wds [] V0 = [d, mo, y, c, z] := by
    match hv : wds [] V0, h5 with
    | [d, mo, y, c, z], _ => exact ⟨d, mo, y, c, z, rfl⟩
  have hf0 : formI d y c = true := by
    cases q : formI d y c
    · exact absurd (.inr ⟨d, mo, y, c, z, eV, q⟩) hbad
    · rfl
  have hzl : z.length ≤ 65536 := hV z (by rw [eV]; simp)
  rw [eV] at HS ⊢
  rw [coreI_yes hf0]
  have HW : Hid (∀ w' v, Below w.heap.size w w' → WordsAt [d, mo, y, c, z] v w' → Calls Tryz.prog 119 #[v] w' fun e w'' => e = .returned (.tuple #[C6 (num y) (mon mo) (num d) (num (g c 0 2)) (num (g c 3 2)) (num (g c 6 2)), .string ⟨z.toArray⟩, .bool true]) ∧ Below w'.heap.size w' w'') := fun w' v hb' hq => words_fine w' v d mo y c z hq (HT w' hb').1 hf0
  generalize num y = Y at HW ⊢
  generalize mon mo = M at HW ⊢
  generalize num d = D at HW ⊢
  generalize num (g c 0 2) = H at HW ⊢
  generalize num (g c 3 2) = I at HW ⊢
  generalize num (g c 6 2) = S at HW ⊢
  by_cases hok : Ok Y M D H I S
  rotate_left
  · rw [coreC_no hok]
    exact way_plain_notOk s ab cb hb _ w ⟨z.toArray⟩ Y M D H I S HC HS HW hok
  have HI : ∀ q : Int, -90000 ≤ q → q ≤ 90000 → ∃ x c : Int, fin Y M D H I S q = .tuple #[.int .i64 x, .int .i64 c] ∧ Hid (∀ w, Calls Tryz.prog 124 #[C6 Y M D H I S, .int .i64 q] w fun e w' => e = .returned (.tuple #[.int .i64 x, .int .i64 c]) ∧ Below w.heap.size w w') := fun q q0 q1 => by
    obtain ⟨x, c, hx⟩ := fin_form Y M D H I S q
    refine ⟨x, c, hx, fun w => ?_⟩
    rw [← hx]
    exact in_stamp Y M D H I S q hok q0 q1 w
  by_cases z1 : z = [71, 77, 84]
  · obtain ⟨x, c, hx, HI0⟩ := HI 0 (by decide) (by decide)
    rw [coreC_fin (a := 0) hok (.inl rfl) (by rw [zw, if_pos (.inl z1)]), hx]
    exact way_plain_GMT s ab cb hb _ w ⟨z.toArray⟩ Y M D H I S HC HS HW hok (by rw [Lib.toList_data]; exact beq_iff_eq.2 (by simpa using z1)) x c HI0
  have d1 : ((⟨z.toArray⟩ : ByteArray).toList == [71, 77, 84]) = false := by rw [Lib.toList_data]; exact beq_eq_false_iff_ne.2 (by simpa using z1)
  by_cases z2 : z = [85, 84]
  · obtain ⟨x, c, hx, HI0⟩ := HI 0 (by decide) (by decide)
    rw [coreC_fin (a := 0) hok (.inl rfl) (by rw [zw, if_pos (.inr z2)]), hx]
    exact way_plain_UT s ab cb hb _ w ⟨z.toArray⟩ Y M D H I S HC HS HW hok d1 (by rw [Lib.toList_data]; exact beq_iff_eq.2 (by simpa using z2)) x c HI0
  have d2 : ((⟨z.toArray⟩ : ByteArray).toList == [85, 84]) = false := by rw [Lib.toList_data]; exact beq_eq_false_iff_ne.2 (by simpa using z2)
  have hzw : zw z = zp z := by rw [zw, if_neg (by rintro (h | h) <;> contradiction)]
  have HZ : ∀ w, Calls Tryz.prog 123 #[.string ⟨z.toArray⟩, .string ⟨#[48, 48, 48, 48]⟩] w fun e w' => e = .returned (zr (zp z)) ∧ Drawn w w' := fun w => by
    have := sec_any ⟨z.toArray⟩ ⟨#[48, 48, 48, 48]⟩ hzl (.inr rfl) w
    rw [show (⟨#[48, 48, 48, 48]⟩ : ByteArray).data.toList = F4 from rfl, show (⟨z.toArray⟩ : ByteArray).data.toList = z from by simp, zi_plain] at this
    exact this
  cases hz : zp z with
  | none =>
    rw [coreC_zone (by rw [hzw]; exact hz)]
    rw [hz] at HZ
    exact way_plain_none s ab cb hb _ w ⟨z.toArray⟩ Y M D H I S HC HS HW hok d1 d2 HZ
  | some q =>
    obtain ⟨q0, q1⟩ := zp_bound hz
    obtain ⟨x, c, hx, HI0⟩ := HI q q0 q1
    rw [coreC_fin (a := q) hok (.inl rfl) (by rw [hzw]; exact hz), hx]
    rw [hz] at HZ
    exact way_plain_some s ab cb hb _ w ⟨z.toArray⟩ Y M D H I S HC HS HW hok d1 d2 q HZ x c HI0

set_option maxHeartbeats 2000000 in
theorem impl_822 (s : ByteArray) (hs : s.size ≤ 1048576) (w : World) (mx : Int) (hm : w.cell? ⟨4, 0, none⟩ = some (.int .i64 mx)) (hT : td.TN w) (hTW : td.TW w) :
    Calls Tryz.prog 68 #[.string s] w fun e w' => e = .returned (r8 s.data.toList) ∧ Below w.heap.size w w' := by
  by_cases hbig : 65536 < s.size
  · have hb : (65536 : Int) < (s.size : Int) := by omega
    rw [show r8 s.data.toList = .tuple #[.int .i64 0, .int .i64 2] from if_pos hbig]
    go_enter Tryz.func68, Tryz.ntmps68
    go_wp2
    go_ret2
    exact ⟨rfl, Below.refl _ _⟩
  rw [show r8 s.data.toList = implR s.data.toList from if_neg hbig]
  have hb : (s.size : Int) ≤ 65536 := by omega
  have hgl := World.block_lt_of_cell? _ _ hm
  have hmm : ∀ w', Below w.heap.size w w' → w'.cell? ⟨4, 0, none⟩ = some (.int .i64 mx) := fun w' hb' => (hb'.cell (p := ⟨4, 0, none⟩) hgl).trans hm
  have HT : ∀ w', Below w.heap.size w w' → td.TN w' ∧ td.TW w' := fun w' hb' => ⟨td.keepS hT hb', td.keepS hTW hb'⟩
  have HC := Tryz.strings_Cut s ⟨#[44, 32]⟩ mx w (by omega) hm
  rw [show (⟨#[44, 32]⟩ : ByteArray).data.toList = [44, 32] from rfl] at HC
  rcases index_comma s.data.toList with h1 | ⟨a, b, e, h1⟩
  · rw [implR_none h1]
    rw [cut_none h1] at HC
    exact plain_822 s ⟨s.data.toList.toArray⟩ ⟨([] : List UInt8).toArray⟩ hb _ s.data.toList w HC rfl rfl (by rw [len_eq]; omega) HT (fun w' hb' => split_any s (by omega) w' mx (hmm w' hb'))
  · rw [implR_some e h1]
    rw [cut_some e h1] at HC
    have hlb : b.length ≤ 65536 := by
      have := congrArg List.length e
      rw [len_eq] at this
      simp at this
      omega
    exact told_822 s ⟨a.toArray⟩ ⟨b.toArray⟩ hb a b w HC (by simp) (by simp) hlb HT (fun w' hb' => by
      have := split_any ⟨b.toArray⟩ (by simpa [ByteArray.size] using hlb) w' mx (hmm w' hb')
      rw [show (⟨b.toArray⟩ : ByteArray).data.toList = b from by simp] at this
      exact this)
end Go.Proofs.YtadfdfmebdcfgaaGreatDoor.rd

namespace Go.Proofs.YtadfdfmebdcfgaaGreatDoor.rq
set_option linter.unusedVariables false

/-- How many have not come up yet. -/
def left (l : Array Bool) : Nat := l.toList.countP (fun b => !b)
theorem count_set : ∀ (l : List Bool) (i : Nat), l[i]? = some false → (l.set i true).countP (fun b => !b) + 1 = l.countP (fun b => !b)
  | [], i, h => by simp at h
  | b :: l, 0, h => by
    have hb : b = false := by simpa using h
    subst hb
    simp
  | b :: l, i + 1, h => by
    have ih := count_set l i (by simpa using h)
    rw [List.set_cons_succ, List.countP_cons, List.countP_cons]
    omega
theorem get_false {l : Array Bool} {i : Nat} (h : l.getD i true = false) : l.toList[i]? = some false := by
  cases hl : l[i]? with
  | none => simp [hl] at h
  | some b =>
    simp [hl] at h
    subst h
    simpa using hl
theorem left_set {l : Array Bool} {i : Nat} (h : l.getD i true = false) : left (l.setIfInBounds i true) + 1 = left l := by
  unfold left
  rw [Array.toList_setIfInBounds]
  exact count_set _ _ (get_false h)
theorem left_zero {l : Array Bool} (h : left l = 0) (i : Nat) : l.getD i true = true := by
  cases hg : l.getD i true with
  | true => rfl
  | false =>
    have := left_set hg
    omega

section
variable {P : Program} {ops : Array Oper} {Q : Exit → Act → World → Prop}
theorem inv {md : Region.Mode} (I : Array Bool → Act → World → Prop)
    (hstep : ∀ listed a w i, I listed a w → i ∈ Region.ready md ops listed → wpOp P ops Q i (fun a' w' => I (listed.setIfInBounds i true) a' w') a w)
    (hend : ∀ listed a w, I listed a w → Region.ready md ops listed = [] → Q .normal a w) :
    ∀ (fuel : Nat) (listed : Array Bool) (a : Act) (w : World), left listed ≤ fuel → I listed a w → wpAny P md ops Q fuel listed a w
  | 0, listed, a, w, hl, h => by
    have hr : Region.ready md ops listed = [] := by
      rw [List.eq_nil_iff_forall_not_mem]
      intro i hi
      have := (mem_ready.1 hi).1
      rw [left_zero (by omega) i] at this
      cases this
    exact ⟨hr, hend listed a w h hr⟩
  | fuel + 1, listed, a, w, hl, h => by
    refine ⟨fun hr => hend listed a w h hr, fun i hi => ?_⟩
    have h1 := left_set (mem_ready.1 hi).1
    exact wpOp_mono (fun a' w' h' => inv I hstep hend fuel _ a' w' (by omega) h') (hstep listed a w i h hi)

def upd (f : Nat → Value) (i : Nat) (v : Value) : Nat → Value := fun j => if j = i then v else f j
theorem upd_same (f : Nat → Value) (i : Nat) (v : Value) : upd f i v i = v := by simp [upd]
theorem upd_other (f : Nat → Value) (i : Nat) (v : Value) {j : Nat} (h : j ≠ i) : upd f i v j = f j := by simp [upd, h]
theorem getD_set {l : Array Bool} {i j : Nat} (h : (l.setIfInBounds i true).getD j false = true) : j = i ∨ l.getD j false = true := by
  by_cases e : j = i
  · exact .inl e
  · right
    simpa [Array.getElem?_setIfInBounds_ne (Ne.symm e)] using h
theorem all_listed {md : Region.Mode} {listed : Array Bool} (hs : listed.size = ops.size) (hdeps : ∀ (i : Nat) (o : Oper), ops[i]? = some o → ∀ e ∈ o.after, Region.binds md e = true → e.on < i) (hr : Region.ready md ops listed = []) : ∀ (k i : Nat), i < k → i < ops.size → listed.getD i false = true
  | 0, i, h, _ => by omega
  | k + 1, i, h, hi => by
    by_cases hk : i < k
    · exact all_listed hs hdeps hr k i hk hi
    · have hik : i = k := by omega
      subst hik
      cases hg : listed.getD i true with
      | true =>
        have hlt : i < listed.size := by omega
        simp [Array.getElem?_eq_getElem hlt] at hg ⊢
        exact hg
      | false =>
        exfalso
        have ho : ops[i]? = some ops[i] := Array.getElem?_eq_getElem hi
        have : i ∈ Region.ready md ops listed := mem_ready.2 ⟨hg, _, ho, fun e he hb => all_listed hs hdeps hr i e.on (hdeps i _ ho e he hb) (Nat.lt_trans (hdeps i _ ho e he hb) hi)⟩
        rw [hr] at this
        cases this
/-- As region_rel, and what has not come up yet is as it was. -/
theorem region_rel2 {id : Nat} {a : Act} {w : World} (hm : P.follows .mixedOrders = true) (act : (Nat → Value) → Act) (C : World → Prop) (R : Nat → (Nat → Value) → World → Prop) (v0 : Nat → Value)
    (ha : a = act v0) (hC : C w.drew) (hdeps : ∀ (i : Nat) (o : Oper), ops[i]? = some o → ∀ e ∈ o.after, Region.binds .any e = true → e.on < i)
    (hop : ∀ (i : Nat) (o : Oper), ops[i]? = some o → ∀ (D : Nat → Prop) (vals : Nat → Value) (w : World), C w → (∀ j, D j → R j vals w) → (∀ e ∈ o.after, Region.binds .any e = true → D e.on) → ¬ D i → (∀ (j : Nat) (oj : Oper), D j → ops[j]? = some oj → ∀ e ∈ oj.after, Region.binds .any e = true → D e.on) → (∀ j, ¬ D j → vals j = v0 j) →
      wpOp P ops Q i (fun a' w' => ∃ v, a' = act (upd vals i v) ∧ C w' ∧ R i (upd vals i v) w' ∧ ∀ j, j ≠ i → D j → R j (upd vals i v) w') (act vals) w)
    (hend : ∀ (vals : Nat → Value) (w : World), C w → (∀ i, i < ops.size → R i vals w) → Q .normal (act vals) w) :
    (Code.region id ops true).wp P Q a w := by
  refine wp_region_any hm ?_
  refine inv (fun listed a w => listed.size = ops.size ∧ (∀ (j : Nat) (oj : Oper), listed.getD j false = true → ops[j]? = some oj → ∀ e ∈ oj.after, Region.binds .any e = true → listed.getD e.on false = true) ∧ ∃ vals, a = act vals ∧ C w ∧ (∀ j, listed.getD j false = true → R j vals w) ∧ ∀ j, ¬ listed.getD j false = true → vals j = v0 j) ?_ ?_ _ _ _ _ ?_ ?_
  · rintro listed a w i ⟨hs, hcl, vals, rfl, hc, hR, hV⟩ hi
    obtain ⟨hg, o, ho, hall⟩ := mem_ready.1 hi
    have hni : ¬ listed.getD i false = true := by
      have h1 := get_false hg
      have h2 : listed[i]? = some false := by simpa using h1
      simp [h2]
    refine wpOp_mono ?_ (hop i o ho (fun j => listed.getD j false = true) vals w hc hR hall hni hcl hV)
    rintro a' w' ⟨v, rfl, hc', hi', hj'⟩
    have hup : ∀ k, listed.getD k false = true → (listed.setIfInBounds i true).getD k false = true := fun k hk => by
      by_cases e : k = i
      · subst e; exact absurd hk hni
      · simpa [Array.getElem?_setIfInBounds_ne (Ne.symm e)] using hk
    have hlt : i < listed.size := by
      have h1 := get_false hg
      have h2 : listed[i]? = some false := by simpa using h1
      exact (Array.getElem?_eq_some_iff.1 h2).1
    refine ⟨by rw [Array.size_setIfInBounds]; exact hs, fun j oj hj hoj e he hb => ?_, _, rfl, hc', fun j hj => ?_, fun j hj => ?_⟩
    · rcases getD_set hj with h | h
      · subst h
        rw [ho] at hoj
        cases hoj
        exact hup _ (hall e he hb)
      · exact hup _ (hcl j oj h hoj e he hb)
    · by_cases e : j = i
      · subst e; exact hi'
      · rcases getD_set hj with h | h
        · exact absurd h e
        · exact hj' j e h
    · by_cases e : j = i
      · subst e
        exact absurd (by simp [Array.getElem?_setIfInBounds_self_of_lt hlt]) hj
      · rw [upd_other vals i v e]
        exact hV j (fun h => hj (hup j h))
  · rintro listed a w ⟨hs, _, vals, rfl, hc, hR, _⟩ hr
    exact hend vals w hc (fun i hi => hR i (all_listed hs hdeps hr (i + 1) i (Nat.lt_succ_self i) hi))
  · unfold left
    refine Nat.le_trans List.countP_le_length ?_
    simp
  · have hno : ∀ j, ¬ (Array.replicate ops.size false).getD j false = true := fun j hj => by
      by_cases hj2 : j < ops.size
      · simp [hj2] at hj
      · simp [hj2] at hj
    exact ⟨by simp, fun j _ hj => absurd hj (hno j), v0, ha, hC, fun j hj => absurd hj (hno j), fun _ _ => rfl⟩
theorem deps_of (h : (ops.toList.zipIdx.all fun x => x.1.after.all fun e => !Region.binds .any e || decide (e.on < x.2)) = true) : ∀ (i : Nat) (o : Oper), ops[i]? = some o → ∀ e ∈ o.after, Region.binds .any e = true → e.on < i := by
  intro i o ho e he hbd
  have h1 : (o, i) ∈ ops.toList.zipIdx := by
    rw [List.mk_mem_zipIdx_iff_getElem?]
    simpa using ho
  have h2 := List.all_eq_true.1 h _ h1
  have h3 := Array.all_eq_true_iff_forall_mem.1 h2 e he
  rw [hbd] at h3
  simpa using h3
end
end Go.Proofs.YtadfdfmebdcfgaaGreatDoor.rq
