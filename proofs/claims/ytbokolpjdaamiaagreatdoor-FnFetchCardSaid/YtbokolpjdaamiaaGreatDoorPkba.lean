/-
  The contract of the specification's RenderEntry.
  Plain facts on the texts that an entry is drawn out of: each is right as a field, or as a content.
  The contract of the specification's UnfoldHeader.
-/
import Derived.Test.YtbokolpjdaamiaaGreatDoorPkaz
import Derived.Test.YtbokolpjdaamiaaGreatDoorPkar
import Derived.Test.YtbokolpjdaamiaaGreatDoorPkae
import Derived.Test.YtbokolpjdaamiaaGreatDoorPkaf
import Derived.Deep.QuietTactic
import Derived.BigQuiet
import Derived.BigRegion
import Derived.Laws.AppendOwn

namespace Go.Proofs.YtbokolpjdaamiaaGreatDoor.rn
open Go.RowKit
set_option linter.unusedVariables false

/-- What a call of RenderEntry answers. -/
def ReRet (e : en.En) (box : ByteArray) (r : Ending) : Prop :=
  (65536 < box.size ∧ r = .returned (.tuple #[.string ⟨#[]⟩, .int .i64 2])) ∨ (box.size ≤ 65536 ∧ ¬ (en.eok e = true ∧ nm.IsName box) ∧ r = .returned (.tuple #[.string ⟨#[]⟩, .int .i64 1])) ∨ (box.size ≤ 65536 ∧ (en.eok e = true ∧ nm.IsName box) ∧ r = .returned (.tuple #[.string (rend e box), .int .i64 0]))
theorem ReRet.det {e : en.En} {box : ByteArray} {r s : Ending} (h : ReRet e box r) (k : ReRet e box s) : r = s := by
  rcases h with ⟨h1, rfl⟩ | ⟨h1, h2, rfl⟩ | ⟨h1, h2, rfl⟩ <;> rcases k with ⟨k1, rfl⟩ | ⟨k1, k2, rfl⟩ | ⟨k1, k2, rfl⟩ <;> first | rfl | omega | (exact absurd h2 k2) | (exact absurd k2 h2)

set_option maxHeartbeats 4000000 in
set_option maxRecDepth 100000 in
theorem specRE_any (e : en.En) (box : ByteArray) (w : World) (hs : en.Small e) (hb : box.size ≤ 1048576) :
    Calls Tryz.prog 4 #[en.EV e, .string box] w fun r w' => ReRet e box r ∧ Below w.heap.size w w' := by
  obtain ⟨i, t, l, a, d, c⟩ := e
  have L0 := en.lies_new w 26 ⟨i, t, l, a, d, c⟩
  have b0 : Below w.heap.size w (w.alloc (.cells (en.cl ⟨i, t, l, a, d, c⟩) 26)) := (Below.refl _ w).alloc (Nat.le_refl _) _
  have HOK : Hid (∀ W, Calls Tryz.prog 9 #[.agg #[.string i, .string t, .string l, .string a, .int .i64 d, .string c]] W fun r w' => r = .returned (.bool (en.eok ⟨i, t, l, a, d, c⟩)) ∧ Below W.heap.size W w') := fun W => en.spec_eok ⟨i, t, l, a, d, c⟩ W hs
  have HNM : Hid (∀ W, Calls Tryz.prog 10 #[.string box] W fun e w' => nm.NameRet box e ∧ w' = W) := fun W => nm.specName_any box W hb
  unfold en.cl at L0 b0
  unfold en.EV en.cl
  go_enter Tryz.func4, Tryz.ntmps4
  go_upto_region 1 with fail
  generalize hX : World.alloc _ _ = X at L0 b0 ⊢
  clear hX
  generalize hBx : w.heap.size = Bx at L0 b0 ⊢
  have hBX : Bx < X.heap.size := L0.lt
  have HL0 := L0
  by_cases h : box.size ≤ 65536
  case neg =>
    have h' : (65536 : Int) < (box.size : Int) := by omega
    clear L0 HL0
    go_wp2
    go_ret2
    subst hBx
    exact ⟨.inl ⟨by omega, rfl⟩, b0⟩
  have h' : (box.size : Int) ≤ 65536 := by omega
  have x0 : X.cell? ⟨Bx, 0, none⟩ = some (.string i) := L0.c0
  have x1 : X.cell? ⟨Bx, 1, none⟩ = some (.string t) := L0.c1
  have x2 : X.cell? ⟨Bx, 2, none⟩ = some (.string l) := L0.c2
  have x3 : X.cell? ⟨Bx, 3, none⟩ = some (.string a) := L0.c3
  have x4 : X.cell? ⟨Bx, 4, none⟩ = some (.int .i64 d) := L0.c4
  have x5 : X.cell? ⟨Bx, 5, none⟩ = some (.string c) := L0.c5
  have HL : Hid (en.Lies X Bx 26 ⟨i, t, l, a, d, c⟩) := L0
  clear L0 HL0
  have HB0 : Hid (Below Bx w X) := b0
  clear b0
  go_wp2_with fail
  refine (HOK.out _).mono ?_
  rintro r w1 ⟨rfl, b1⟩
  have HL1 : Hid (en.Lies w1 Bx 26 ⟨i, t, l, a, d, c⟩) := (show _ = _ from (b1.block Bx hBX).trans HL.out)
  have HB1 : Hid (Below Bx w w1) := HB0.out.trans (b1.mono (Nat.le_of_lt hBX))
  clear b1 x0 x1 x2 x3 x4 x5
  cases he : en.eok ⟨i, t, l, a, d, c⟩ with
  | false =>
    have he' : ¬ (en.eok ⟨i, t, l, a, d, c⟩ = true) := by rw [he]; simp
    clear he
    go_wp2
    go_ret2
    subst hBx
    exact ⟨.inr (.inl ⟨h, fun k => he' k.1, rfl⟩), HB1.out⟩
  | true =>
    have HE : Hid (en.eok ⟨i, t, l, a, d, c⟩ = true) := he
    clear he
    go_wp2_with fail
    refine (HNM.out _).mono ?_
    rintro r w2 ⟨⟨b, rfl, hn⟩, rfl⟩
    cases b with
    | false =>
      have hn' : ¬ nm.IsName box := fun k => by cases hn.2 k
      clear hn
      go_wp2
      go_ret2
      subst hBx
      exact ⟨.inr (.inl ⟨h, fun k => hn' k.2, rfl⟩), HB1.out⟩
    | true =>
      have HN : Hid (nm.IsName box) := hn.1 rfl
      clear hn
      have HC : Hid (∀ w, Calls Tryz.prog 11 #[.agg #[.string i, .string t, .string l, .string a, .int .i64 d, .string c], .string box] w fun e w' => e = .returned (.string (rend ⟨i, t, l, a, d, c⟩ box)) ∧ Below w.heap.size w w') := fun w => render_any i t l a c box d w HE.out HN.out
      have x0 : w2.cell? ⟨Bx, 0, none⟩ = some (.string i) := HL1.out.c0
      have x1 : w2.cell? ⟨Bx, 1, none⟩ = some (.string t) := HL1.out.c1
      have x2 : w2.cell? ⟨Bx, 2, none⟩ = some (.string l) := HL1.out.c2
      have x3 : w2.cell? ⟨Bx, 3, none⟩ = some (.string a) := HL1.out.c3
      have x4 : w2.cell? ⟨Bx, 4, none⟩ = some (.int .i64 d) := HL1.out.c4
      have x5 : w2.cell? ⟨Bx, 5, none⟩ = some (.string c) := HL1.out.c5
      generalize hRR : rend ⟨i, t, l, a, d, c⟩ box = RR at HC
      go_wp2_with (go_at_call 11; refine (HC.out _).mono ?_; rintro r w3 ⟨rfl, b3⟩)
      go_ret2
      subst hBx hRR
      exact ⟨.inr (.inr ⟨h, ⟨HE.out, HN.out⟩, rfl⟩), HB1.out.trans (b3.mono HB1.out.size)⟩
end Go.Proofs.YtbokolpjdaamiaaGreatDoor.rn

namespace Go.Proofs.YtbokolpjdaamiaaGreatDoor.en
open Go.RowKit
set_option linter.unusedVariables false
/-- Whether no rune of XML stands at a place. -/
def xbadB (s : ByteArray) (k : Nat) : Bool := decide (Utf8.decode s k = (65533, 1)) || !xm.xr ((Utf8.decode s k).1 : Int)
theorem xbadB_no {s : ByteArray} {k : Nat} (h : xbadB s k = false) : ¬ xm.xbad s k := by
  unfold xbadB at h
  rw [Bool.or_eq_false_iff] at h
  rintro (h1 | h1)
  · exact of_decide_eq_false h.1 h1
  · rw [h1] at h; cases h.2
/-- Whether a text is n runes of XML. -/
def allGood (s : ByteArray) (n : Nat) : Bool := decide (ut.pos s n = s.size) && (List.range n).all fun m => !xbadB s (ut.pos s m)
theorem good_of {s : ByteArray} {n : Nat} (h : allGood s n = true) : xm.GoodTo s s.size := by
  unfold allGood at h
  rw [Bool.and_eq_true, List.all_eq_true] at h
  refine ⟨n, (of_decide_eq_true h.1).symm, Nat.le_refl _, fun m hm => ?_, .inl rfl⟩
  have := h.2 m (List.mem_range.2 hm)
  rw [Bool.not_eq_true'] at this
  exact xbadB_no this
theorem fld_of {s : ByteArray} (n : Nat) (h : (decide (s.size ≤ 200) && allGood s n && decide (li.line s.data.toList = s.data.toList)) = true) : fld s = true := by
  simp only [Bool.and_eq_true] at h
  exact ow.dt ⟨of_decide_eq_true h.1.1, good_of h.1.2, of_decide_eq_true h.2⟩
theorem ofx_of {s : ByteArray} (n : Nat) (h : (decide (s.size ≤ 1000) && allGood s n) = true) : ofx s 1000 = true := by
  simp only [Bool.and_eq_true] at h
  exact ow.dt ⟨of_decide_eq_true h.1, good_of h.2⟩
/-- The names, titles and links that are drawn. -/
def idL : List ByteArray := [⟨#[105, 100, 49]⟩, ⟨#[105, 100, 50]⟩, ⟨#[105, 100, 51]⟩, ⟨#[117, 114, 110, 58, 120, 32, 38, 32, 121]⟩, ⟨#[105, 100, 32, 195, 164]⟩]
def fldL : List ByteArray := [⟨#[]⟩, ⟨#[116, 105, 116, 108, 101]⟩, ⟨#[97, 32, 38, 32, 98]⟩, ⟨#[195, 164, 195, 182, 32, 226, 130, 172]⟩, ⟨#[60, 120, 62]⟩, ⟨#[111, 110, 101, 32, 116, 119, 111]⟩, ⟨#[61, 63, 117, 116, 102, 45, 56, 63, 81, 63, 120, 63, 61]⟩, ⟨#[240, 159, 152, 128]⟩]
theorem idL_ok : ∀ s ∈ idL, fld s = true ∧ s.size ≠ 0 := by
  intro s hs
  simp only [idL, List.mem_cons, List.not_mem_nil, or_false] at hs
  rcases hs with rfl | rfl | rfl | rfl | rfl
  · exact ⟨fld_of 3 (by decide +kernel), by decide⟩
  · exact ⟨fld_of 3 (by decide +kernel), by decide⟩
  · exact ⟨fld_of 3 (by decide +kernel), by decide⟩
  · exact ⟨fld_of 9 (by decide +kernel), by decide⟩
  · exact ⟨fld_of 4 (by decide +kernel), by decide⟩
theorem fldL_ok : ∀ s ∈ fldL, fld s = true := by
  intro s hs
  simp only [fldL, List.mem_cons, List.not_mem_nil, or_false] at hs
  rcases hs with rfl | rfl | rfl | rfl | rfl | rfl | rfl | rfl
  · exact fld_of 0 (by decide +kernel)
  · exact fld_of 5 (by decide +kernel)
  · exact fld_of 5 (by decide +kernel)
  · exact fld_of 4 (by decide +kernel)
  · exact fld_of 3 (by decide +kernel)
  · exact fld_of 7 (by decide +kernel)
  · exact fld_of 13 (by decide +kernel)
  · exact fld_of 1 (by decide +kernel)
def linkL : List ByteArray := [⟨#[]⟩, ⟨#[104, 116, 116, 112, 58, 47, 47, 97, 47, 98, 63, 99, 61, 100, 38, 101]⟩, ⟨#[108, 105, 110, 107]⟩]
def conL : List ByteArray := [⟨#[]⟩, ⟨#[116, 101, 120, 116]⟩, ⟨#[116, 119, 111, 10, 108, 105, 110, 101, 115, 10]⟩, ⟨#[97, 13, 98, 13, 10]⟩, ⟨#[46, 10, 46, 46, 10]⟩, ⟨#[195, 164, 32, 60, 98, 62]⟩, ⟨#[116, 114, 97, 105, 108, 105, 110, 103, 32, 10, 61, 32, 120]⟩, ⟨#[48, 49, 50, 51, 52, 53, 54, 55, 56, 57, 48, 49, 50, 51, 52, 53, 54, 55, 56, 57, 48, 49, 50, 51, 52, 53, 54, 55, 56, 57, 48, 49, 50, 51, 52, 53, 54, 55, 56, 57, 48, 49, 50, 51, 52, 53, 54, 55, 56, 57, 48, 49, 50, 51, 52, 53, 54, 55, 56, 57, 48, 49, 50, 51, 52, 53, 54, 55, 56, 57, 48, 49, 50, 51, 52, 53, 54, 55, 56, 57, 48, 49, 50, 51, 52, 53, 54, 55, 56, 57, 48]⟩]
theorem linkL_ok : ∀ s ∈ linkL, fld s = true := by
  intro s hs
  simp only [linkL, List.mem_cons, List.not_mem_nil, or_false] at hs
  rcases hs with rfl | rfl | rfl
  · exact fld_of 0 (by decide +kernel)
  · exact fld_of 16 (by decide +kernel)
  · exact fld_of 4 (by decide +kernel)
theorem conL_ok : ∀ s ∈ conL, ofx s 1000 = true := by
  intro s hs
  simp only [conL, List.mem_cons, List.not_mem_nil, or_false] at hs
  rcases hs with rfl | rfl | rfl | rfl | rfl | rfl | rfl | rfl
  · exact ofx_of 0 (by decide +kernel)
  · exact ofx_of 4 (by decide +kernel)
  · exact ofx_of 10 (by decide +kernel)
  · exact ofx_of 5 (by decide +kernel)
  · exact ofx_of 5 (by decide +kernel)
  · exact ofx_of 5 (by decide +kernel)
  · exact ofx_of 13 (by decide +kernel)
  · exact ofx_of 91 (by decide +kernel)
/-- An entry that is drawn is right. -/
theorem drawn_ok {i t l a c : ByteArray} {d : Int} (hi : i ∈ idL) (ht : t ∈ fldL) (hl : l ∈ linkL) (ha : a ∈ fldL) (hc : c ∈ conL) (d0 : 0 ≤ d) (d1 : d ≤ 4102444799) : eok ⟨i, t, l, a, d, c⟩ = true := by
  obtain ⟨h1, h2⟩ := idL_ok i hi
  have h3 : stamp d = true := decide_eq_true ⟨d0, d1⟩
  simp [eok, h1, h2, h3, fldL_ok t ht, linkL_ok l hl, fldL_ok a ha, conL_ok c hc]
end Go.Proofs.YtbokolpjdaamiaaGreatDoor.en

namespace Go.Proofs.YtbokolpjdaamiaaGreatDoor.uf
open Go.RowKit
set_option linter.unusedVariables false

theorem infoB : (Tryz.prog.info? 5).map (fun i => (i.zero, i.size, i.bytes)) = some (some (.int .u8 0), 1, 1) := by kernel_rfl
theorem ext_list (s : ByteArray) (a b : Nat) : (s.extract a b).data.toList = (s.data.toList.drop a).take (b - a) := by rw [← Lib.toList_data, Lib.extract_toList]
theorem at_some (s : ByteArray) (k : Nat) (h : k < s.size) : s.data.toList[k]? = some s[k] := by
  rw [List.getElem?_eq_getElem (by simpa using h)]; rfl
theorem byte_is {c : UInt8} {n : Nat} (hn : n < 256) (h : (c.toNat : Int) = n) : c = UInt8.ofNat n := by
  rw [← UInt8.toNat_inj, UInt8.toNat_ofNat']; omega
theorem byte_not {c : UInt8} {n : Nat} (h : (c.toNat : Int) ≠ n) : c ≠ UInt8.ofNat n ∨ 256 ≤ n := by
  by_cases hn : n < 256
  · left
    intro e
    rw [e, UInt8.toNat_ofNat'] at h
    omega
  · right; omega
def NoCol (s : ByteArray) (k : Nat) : Prop := 58 ∉ s.data.toList.take k
theorem nocol_step {s : ByteArray} {k : Nat} (h : NoCol s k) (hk : k < s.size) (hx : ((s[k]'hk).toNat : Int) ≠ 58) : NoCol s (k + 1) := by
  unfold NoCol
  rw [hd.take_snoc s k hk]
  intro hm
  rcases List.mem_append.1 hm with e | e
  · exact h e
  · rw [List.mem_singleton] at e
    rw [← e] at hx
    exact hx rfl
/-- A text with a colon at a place. -/
theorem col_at {s : ByteArray} {k : Nat} (hk : k < s.size) (hx : ((s[k]'hk).toNat : Int) = 58) : s.data.toList = s.data.toList.take k ++ 58 :: s.data.toList.drop (k + 1) := by
  have h1 : s[k] = 58 := byte_is (n := 58) (by decide) hx
  have h2 := List.take_append_drop k s.data.toList
  rw [show s.data.toList.drop k = s[k] :: s.data.toList.drop (k + 1) from by rw [List.drop_eq_getElem_cons (by simpa using hk)]; rfl, h1] at h2
  exact h2.symm
theorem fld {P : ByteArray → Prop} {l a r : List UInt8} (h : l = a ++ 58 :: r) (ha : 58 ∉ a) (hF : ∃ nm v, Field P l nm v) : ∃ x, r = 32 :: (x ++ [13, 10]) ∧ P ⟨a.toArray⟩ ∧ ∃ v, unf false x = some v ∧ hd.Safe v := by
  obtain ⟨nm, v, x, ⟨hx, hm⟩, hP, hu, hs⟩ := hF
  obtain ⟨rfl, h2⟩ := colon_one _ _ _ _ ha hm (h.symm.trans hx)
  exact ⟨x, h2, hP, v, hu, hs⟩
theorem ext_take (s : ByteArray) (k : Nat) : s.extract 0 k = ⟨(s.data.toList.take k).toArray⟩ := by
  apply ByteArray.ext
  rw [← Array.toList_inj, ext_list]
  simp
theorem cr_at (s : ByteArray) (h : 2 ≤ s.size) : ((s.extract (s.size - 2) s.size).toList == [13, 10]) = decide (s.data.toList.drop (s.size - 2) = [13, 10]) := by
  rw [Lib.toList_data, ext_list, List.take_of_length_le (by rw [List.length_drop, ← Lib.size_eq]; omega), Bool.eq_iff_iff, beq_iff_eq, decide_eq_true_iff]
section
variable {P : ByteArray → Prop} {s : ByteArray} {k : Nat}
theorem tail_len (hk : k < s.size) : (s.data.toList.drop (k + 1)).length = s.size - (k + 1) := by rw [List.length_drop, ← Lib.size_eq]
theorem short_no (hk : k < s.size) (hx : ((s[k]'hk).toNat : Int) = 58) (hn : NoCol s k) (h : s.size < k + 3) : ¬ ∃ nm v, Field P s.data.toList nm v := fun hF => by
  obtain ⟨x, h1, _⟩ := fld (col_at hk hx) hn hF
  have := congrArg List.length h1
  rw [tail_len hk] at this
  simp at this
  omega
theorem end_no (hk : k < s.size) (hx : ((s[k]'hk).toNat : Int) = 58) (hn : NoCol s k) (h : s.data.toList.drop (s.size - 2) ≠ [13, 10]) : ¬ ∃ nm v, Field P s.data.toList nm v := fun hF => by
  obtain ⟨x, h1, _⟩ := fld (col_at hk hx) hn hF
  apply h
  have h2 := col_at hk hx
  rw [h1] at h2
  have h3 : s.data.toList = (s.data.toList.take k ++ 58 :: 32 :: x) ++ [13, 10] := by rw [List.append_assoc]; exact h2
  have h4 := congrArg List.length h3
  rw [← Lib.size_eq, List.length_append] at h4
  rw [h3, List.drop_append_of_le_length (by simp at h4 ⊢; omega), List.drop_eq_nil_of_le (by simp at h4 ⊢; omega)]
  rfl
theorem name_no (hk : k < s.size) (hx : ((s[k]'hk).toNat : Int) = 58) (hn : NoCol s k) (h : ¬ P (s.extract 0 k)) : ¬ ∃ nm v, Field P s.data.toList nm v := fun hF => by
  obtain ⟨x, h1, h2, _⟩ := fld (col_at hk hx) hn hF
  rw [ext_take] at h
  exact h h2
theorem blank_no (hk : k < s.size) (hx : ((s[k]'hk).toNat : Int) = 58) (hn : NoCol s k) (hk1 : k + 1 < s.size) (h : ((s[k + 1]'hk1).toNat : Int) ≠ 32) : ¬ ∃ nm v, Field P s.data.toList nm v := fun hF => by
  obtain ⟨x, h1, _⟩ := fld (col_at hk hx) hn hF
  have h2 := at_some s (k + 1) hk1
  rw [show s.data.toList[k + 1]? = (s.data.toList.drop (k + 1))[0]? from by simp, h1] at h2
  have h3 : (32 : UInt8) = s[k + 1] := Option.some.inj h2
  rw [← h3] at h
  exact h rfl
/-- What is between the colon and the end of the line. -/
theorem rest_is (hk : k < s.size) (hx : ((s[k]'hk).toNat : Int) = 58) (hn : NoCol s k) (h3 : k + 3 ≤ s.size) (he : s.data.toList.drop (s.size - 2) = [13, 10]) (hb : ((s[k + 1]'(by omega)).toNat : Int) = 32) :
    ∃ x, (s.extract (k + 1) (s.size - 2)).data.toList = 32 :: x ∧ Parts s.data.toList (s.data.toList.take k) x := by
  have h1 : s[k + 1] = 32 := byte_is (n := 32) (by decide) hb
  have hr : s.data.toList.drop (k + 1) = (s.extract (k + 1) (s.size - 2)).data.toList ++ [13, 10] := by
    rw [ext_list, ← he]
    have := List.take_append_drop (s.size - 2 - (k + 1)) (s.data.toList.drop (k + 1))
    rw [List.drop_drop, show k + 1 + (s.size - 2 - (k + 1)) = s.size - 2 from by omega] at this
    exact this.symm
  have h2 : (s.data.toList.drop (k + 1))[0]? = some 32 := by
    rw [show (s.data.toList.drop (k + 1))[0]? = s.data.toList[k + 1]? from by simp, at_some s (k + 1) (by omega), h1]
  rw [hr] at h2
  match hq : (s.extract (k + 1) (s.size - 2)).data.toList with
  | [] => rw [hq] at h2; cases h2
  | c :: x =>
    rw [hq] at h2 hr
    obtain rfl : c = 32 := Option.some.inj h2
    refine ⟨x, rfl, ?_, hn⟩
    rw [← List.cons_append, ← hr]
    exact col_at hk hx
end
theorem drop_at (s : ByteArray) (i : Nat) (h : i < s.size) : s.data.toList.drop i = s[i] :: s.data.toList.drop (i + 1) := by
  rw [List.drop_eq_getElem_cons (by simpa using h)]
  rfl
section
variable {s : ByteArray} {i : Nat} {out : List UInt8} {o : Option (List UInt8)}
theorem go_on (h : (unf false (s.data.toList.drop i)).map (out ++ ·) = o) (hi : i < s.size) (hc : ((s[i]'hi).toNat : Int) ≠ 13) : (unf false (s.data.toList.drop (i + 1))).map ((out ++ [s[i]]) ++ ·) = o := by
  rw [drop_at s i hi, unf, if_neg (fun e => by rw [e] at hc; exact hc rfl)] at h
  rw [← h]
  cases unf false (s.data.toList.drop (i + 1)) <;> simp
theorem go_end (h : (unf false (s.data.toList.drop i)).map (out ++ ·) = o) (hi : i < s.size) (hc : ((s[i]'hi).toNat : Int) = 13) (h2 : i + 2 < s.size) (hc1 : ((s[i + 1]'(by omega)).toNat : Int) = 10) (hc2 : ((s[i + 2]'h2).toNat : Int) = 32) : (unf false (s.data.toList.drop (i + 2))).map (out ++ ·) = o := by
  have e0 : s[i] = 13 := byte_is (n := 13) (by decide) hc
  have e1 : s[i + 1] = 10 := byte_is (n := 10) (by decide) hc1
  have e2 : s[i + 2] = 32 := byte_is (n := 32) (by decide) hc2
  rw [drop_at s i hi, drop_at s (i + 1) (by omega), drop_at s (i + 2) h2, e0, e1, e2, unf_fw] at h
  rw [drop_at s (i + 2) h2, e2, unf, if_neg (by decide)]
  exact h
theorem go_bad (h : (unf false (s.data.toList.drop i)).map (out ++ ·) = o) (hi : i < s.size) (hc : ((s[i]'hi).toNat : Int) = 13) (hx : s.size ≤ i + 2 ∨ (∃ h1 : i + 1 < s.size, ((s[i + 1]'h1).toNat : Int) ≠ 10) ∨ (∃ h2 : i + 2 < s.size, ((s[i + 2]'h2).toNat : Int) ≠ 32)) : o = none := by
  have e0 : s[i] = 13 := byte_is (n := 13) (by decide) hc
  rw [drop_at s i hi, e0, unf, if_pos rfl, if_neg, Option.map_none] at h
  · exact h.symm
  · rintro ⟨g1, g2⟩
    have h1 : i + 1 < s.size := by
      rw [List.head?_eq_getElem?, List.getElem?_drop] at g1
      have := (List.getElem?_eq_some_iff.1 g1).1
      rw [← Lib.size_eq] at this
      omega
    rw [drop_at s (i + 1) h1] at g1 g2
    have h2 : i + 2 < s.size := by
      rw [List.tail_cons, List.head?_eq_getElem?, List.getElem?_drop] at g2
      have := (List.getElem?_eq_some_iff.1 g2).1
      rw [← Lib.size_eq] at this
      omega
    rw [List.tail_cons, drop_at s (i + 2) h2] at g2
    have k1 : s[i + 1] = 10 := Option.some.inj g1
    have k2 : s[i + 2] = 32 := Option.some.inj g2
    rcases hx with hx | ⟨_, hx⟩ | ⟨_, hx⟩
    · omega
    · rw [k1] at hx; exact hx rfl
    · rw [k2] at hx; exact hx rfl
theorem go_stop (h : (unf false (s.data.toList.drop i)).map (out ++ ·) = o) (hi : s.size ≤ i) : o = some out := by
  rw [List.drop_eq_nil_of_le (by rw [← Lib.size_eq]; exact hi)] at h
  rw [← h]
  simp [unf]
end
theorem unf_blank (x : List UInt8) : unf false (32 :: x) = (unf false x).map (32 :: ·) := by rw [unf, if_neg (by decide)]

/-- What the specification's unfolding answers. -/
def UsRet (s : ByteArray) (e : Ending) : Prop :=
  (∃ nm v : List UInt8, Field hn.IsName s.data.toList nm v ∧ e = .returned (.tuple #[.string ⟨nm.toArray⟩, .string ⟨v.toArray⟩, .bool true])) ∨
  ((¬ ∃ nm v, Field hn.IsName s.data.toList nm v) ∧ ∃ a b : ByteArray, e = .returned (.tuple #[.string a, .string b, .bool false]))

set_option maxHeartbeats 8000000 in
set_option maxRecDepth 100000 in
theorem specUn_any (s : ByteArray) (w : World) (hs : s.size ≤ 1048576) :
    Calls Tryz.prog 99 #[.string s] w fun e w' => UsRet s e ∧ Below w.heap.size w w' := by
  obtain ⟨i0, hi, hz0, hz1, hz2⟩ := info_parts infoB
  go_enter Tryz.func99, Tryz.ntmps99
  go_wp2
  go_loop [5] (fun i => ∃ k : Nat, k ≤ s.size ∧ i = .int .i64 k ∧ NoCol s k) (fun i => s.size - (intOf i).toNat)
  case atStart => exact ⟨0, Nat.zero_le _, rfl, by simp [NoCol]⟩
  case round =>
    obtain ⟨k, hk, rfl, hg⟩ := hrel
    have HG : Hid (NoCol s k) := hg
    clear hg
    by_cases hlt : k < s.size
    case neg =>
      have hlt' : decide ((k : Int) < (s.size : Int)) = false := decide_eq_false (by omega)
      have hz : (s.size : Int) < (k : Int) + 3 := by omega
      have HN : Hid (¬ ∃ nm v, Field hn.IsName s.data.toList nm v) := no_colon (by have := HG.out; unfold NoCol at this; rwa [hd.take_all s k (by omega)] at this)
      go_wp2
      go_ret3
      exact ⟨.inr ⟨HN.out, _, _, rfl⟩, Below.refl _ _⟩
    by_cases hc : ((s[k]'hlt).toNat : Int) = 58
    case neg =>
      have d1 : (((s[k]'hlt).toNat : Int) == 58) = false := beq_eq_false_iff_ne.2 hc
      have d2 : (((s[k]'hlt).toNat : Int) != 58) = true := by rw [bne_iff_ne]; exact hc
      go_wp2
      go_round
      case rel => exact ⟨k + 1, by omega, by go_num, nocol_step HG.out hlt hc⟩
      case measure => simp [intOf]; omega
    have d1 : (((s[k]'hlt).toNat : Int) == 58) = true := beq_iff_eq.2 hc
    have d2 : (((s[k]'hlt).toNat : Int) != 58) = false := by rw [bne_eq_false_iff_eq]; exact hc
    have HC : Hid (((s[k]'hlt).toNat : Int) = 58) := hc
    clear hc
    by_cases h3 : k + 3 ≤ s.size
    case neg =>
      have hz : (s.size : Int) < (k : Int) + 3 := by omega
      have HN : Hid (¬ ∃ nm v, Field hn.IsName s.data.toList nm v) := short_no hlt HC.out HG.out (by omega)
      go_wp2
      go_ret3
      exact ⟨.inr ⟨HN.out, _, _, rfl⟩, Below.refl _ _⟩
    have hz : decide ((s.size : Int) < (k : Int) + 3) = false := decide_eq_false (by omega)
    have z2 : (2 : Int) ≤ (s.size : Int) := by omega
    have z3 : (k : Int) ≤ (s.size : Int) := by omega
    have z4 : (0 : Int) ≤ (k : Int) := by omega
    have hcr := cr_at s (by omega)
    by_cases he : s.data.toList.drop (s.size - 2) = [13, 10]
    case neg =>
      rw [decide_eq_false he] at hcr
      have HN : Hid (¬ ∃ nm v, Field hn.IsName s.data.toList nm v) := end_no hlt HC.out HG.out he
      clear he
      go_wp2
      go_ret3
      exact ⟨.inr ⟨HN.out, _, _, rfl⟩, Below.refl _ _⟩
    rw [decide_eq_true he] at hcr
    have HE : Hid (s.data.toList.drop (s.size - 2) = [13, 10]) := he
    clear he
    have hez : (s.extract 0 k).size ≤ maxLen := by rw [ByteArray.size_extract]; unfold maxLen; omega
    go_wp2_with fail
    refine (hn.spec_any (s.extract 0 k) _ hez).mono ?_
    rintro e w1 ⟨hsn, hw1⟩
    rw [hw1]
    clear hw1
    by_cases hname : hn.IsName (s.extract 0 k)
    case neg =>
      obtain rfl := name_false hsn hname
      have HN : Hid (¬ ∃ nm v, Field hn.IsName s.data.toList nm v) := name_no hlt HC.out HG.out hname
      clear hsn hname
      go_wp2
      go_ret3
      exact ⟨.inr ⟨HN.out, _, _, rfl⟩, Below.refl _ _⟩
    obtain rfl := name_true hsn hname
    have HNM : Hid (hn.IsName (s.extract 0 k)) := hname
    clear hsn hname
    have hk1 : k + 1 < s.size := by omega
    by_cases hb : ((s[k + 1]'hk1).toNat : Int) = 32
    case neg =>
      have e1 : (((s[k + 1]'hk1).toNat : Int) == 32) = false := beq_eq_false_iff_ne.2 hb
      have e2 : (((s[k + 1]'hk1).toNat : Int) != 32) = true := by rw [bne_iff_ne]; exact hb
      have HN : Hid (¬ ∃ nm v, Field hn.IsName s.data.toList nm v) := blank_no hlt HC.out HG.out hk1 hb
      go_wp2
      go_ret3
      exact ⟨.inr ⟨HN.out, _, _, rfl⟩, Below.refl _ _⟩
    have e1 : (((s[k + 1]'hk1).toNat : Int) == 32) = true := beq_iff_eq.2 hb
    have e2 : (((s[k + 1]'hk1).toNat : Int) != 32) = false := by rw [bne_eq_false_iff_eq]; exact hb
    obtain ⟨x, hR, hP⟩ := rest_is hlt HC.out HG.out h3 HE.out hb
    have HPA : Hid (Parts s.data.toList (s.data.toList.take k) x) := hP
    clear hb hP
    have hsl := ow.slice_str (P := Tryz.prog) 9 s .i64 .i64 (k + 1) (s.size - 2) Tryz.underlying9 ((k : Int) + 1) ((s.size : Int) - 2) (by omega) (by omega) (by omega) (by omega)
    obtain ⟨R, hRR⟩ : ∃ R, R = s.extract (k + 1) (s.size - 2) := ⟨_, rfl⟩
    rw [← hRR] at hR hsl
    have hRs : R.size ≤ 1048576 := by rw [hRR, ByteArray.size_extract]; omega
    have HR : Hid (R.data.toList = 32 :: x) := hR
    clear hR hRR
    go_wp2_with fail
    go_loopw [7, 8] (fun v i wr => ∃ (j : Nat) (out : List UInt8), j ≤ R.size ∧ i = .int .i64 j ∧ out.length ≤ j ∧ wr.ownsRow w.heap.size 5 1 v out.length (Lib.byteCells out) ∧ Below w.heap.size w wr ∧ Hid ((unf false (R.data.toList.drop j)).map (out ++ ·) = unf false R.data.toList)) (fun _ i _ => R.size - (intOf i).toNat)
    case atStart => exact ⟨0, [], Nat.zero_le _, rfl, Nat.le_refl _, ow.own_empty _ _, (Below.refl _ _).alloc (Nat.le_refl _) _, by show Option.map _ _ = _; simp⟩
    case round =>
      obtain ⟨j, out, hj, rfl, hol, hown, hbw, HU⟩ := hrel
      have hBs := hbw.size
      by_cases hjl : j < R.size
      · have hjl' : (j : Int) < (R.size : Int) := by omega
        have ub : ((R[j]'hjl).toNat : Int) ≤ 255 := by have := (R[j]'hjl).toNat_lt; omega
        by_cases hc : ((R[j]'hjl).toNat : Int) = 13
        · have f1 : (((R[j]'hjl).toNat : Int) == 13) = true := beq_iff_eq.2 hc
          have HC3 : Hid (((R[j]'hjl).toNat : Int) = 13) := hc
          clear hc
          have HNO : Hid (unf false R.data.toList = none → ¬ ∃ nm v, Field hn.IsName s.data.toList nm v) := fun hn => no_value HPA.out (by
            rintro ⟨v, hv, _⟩
            rw [HR.out, unf_blank, hv] at hn
            cases hn)
          by_cases h2 : j + 2 < R.size
          case neg =>
            have g1 : decide ((R.size : Int) ≤ (j : Int) + 2) = true := decide_eq_true (by omega)
            have HN := HNO.out (go_bad HU.out hjl HC3.out (.inl (by omega)))
            have HN2 : Hid (¬ ∃ nm v, Field hn.IsName s.data.toList nm v) := HN
            clear HN
            go_wp2
            go_ret3
            exact ⟨.inr ⟨HN2.out, _, _, rfl⟩, hbw⟩
          have g1 : decide ((R.size : Int) ≤ (j : Int) + 2) = false := decide_eq_false (by omega)
          have hj1 : j + 1 < R.size := by omega
          by_cases hc1 : ((R[j + 1]'hj1).toNat : Int) = 10
          case neg =>
            have f2 : (((R[j + 1]'hj1).toNat : Int) == 10) = false := beq_eq_false_iff_ne.2 hc1
            have f3 : (((R[j + 1]'hj1).toNat : Int) != 10) = true := by rw [bne_iff_ne]; exact hc1
            have HN2 : Hid (¬ ∃ nm v, Field hn.IsName s.data.toList nm v) := HNO.out (go_bad HU.out hjl HC3.out (.inr (.inl ⟨hj1, hc1⟩)))
            go_wp2
            go_ret3
            exact ⟨.inr ⟨HN2.out, _, _, rfl⟩, hbw⟩
          have f2 : (((R[j + 1]'hj1).toNat : Int) == 10) = true := beq_iff_eq.2 hc1
          have f3 : (((R[j + 1]'hj1).toNat : Int) != 10) = false := by rw [bne_eq_false_iff_eq]; exact hc1
          have HC4 : Hid (((R[j + 1]'hj1).toNat : Int) = 10) := hc1
          clear hc1
          by_cases hc2 : ((R[j + 2]'h2).toNat : Int) = 32
          case neg =>
            have f4 : (((R[j + 2]'h2).toNat : Int) == 32) = false := beq_eq_false_iff_ne.2 hc2
            have f5 : (((R[j + 2]'h2).toNat : Int) != 32) = true := by rw [bne_iff_ne]; exact hc2
            have HN2 : Hid (¬ ∃ nm v, Field hn.IsName s.data.toList nm v) := HNO.out (go_bad HU.out hjl HC3.out (.inr (.inr ⟨h2, hc2⟩)))
            go_wp2
            go_ret3
            exact ⟨.inr ⟨HN2.out, _, _, rfl⟩, hbw⟩
          have f4 : (((R[j + 2]'h2).toNat : Int) == 32) = true := beq_iff_eq.2 hc2
          have f5 : (((R[j + 2]'h2).toNat : Int) != 32) = false := by rw [bne_eq_false_iff_eq]; exact hc2
          have HC5 : Hid (((R[j + 2]'h2).toNat : Int) = 32) := hc2
          clear hc2
          go_wp2
          go_roundw
          case rel => exact ⟨j + 2, out, by omega, by go_num, by omega, hown, hbw, go_end HU.out hjl HC3.out h2 HC4.out HC5.out⟩
          case measure => simp [intOf]; omega
        · have f1 : (((R[j]'hjl).toNat : Int) == 13) = false := beq_eq_false_iff_ne.2 hc
          go_wp2_with (at_builtin; refine wpList_append_own _ rfl _ _ 22 rfl w.heap.size 5 i0 (.int .u8 0) 1 1 Tryz.underlying22 hi hz0 hz1 hz2 rfl (by decide) _ _ _ rfl (hown.alloc _) ⟨wr.heap.size, 0, none⟩ 1 1 [.int .u8 ((R[j]'hjl).toNat : Int)] rfl rfl (ow.cells_new _ [.int .u8 ((R[j]'hjl).toNat : Int)] _) (by intro u hu; simp at hu; subst hu; rfl) (by unfold maxLen; omega) (by omega) (by simp; omega) ?_; intro v' w3 hown3 hgrow3 hnil3)
          have hb3 := Below.grown (hbw.alloc hBs _) hgrow3 (by simp; omega) (ow.own_lt hown)
          have HA : Hid (w3.ownsRow w.heap.size 5 1 v' (out ++ [R[j]'hjl]).length (Lib.byteCells (out ++ [R[j]'hjl])) ∧ Below w.heap.size w w3) := ⟨by rw [Lib.byteCells_append, List.length_append]; exact hown3, hb3⟩
          clear hown3 hgrow3 hnil3 hb3 hown hbw
          go_wp2
          go_roundw
          case rel => exact ⟨j + 1, out ++ [R[j]'hjl], by omega, by go_num, by simp; omega, HA.out.1, HA.out.2, go_on HU.out hjl hc⟩
          case measure => simp [intOf]; omega
      · have hjl' : (R.size : Int) ≤ (j : Int) := by omega
        have hst := go_stop HU.out (by omega)
        rw [HR.out, unf_blank] at hst
        obtain ⟨v, hv, hout⟩ : ∃ v, unf false x = some v ∧ out = 32 :: v := by
          cases hu : unf false x with
          | none => rw [hu] at hst; cases hst
          | some v => rw [hu] at hst; exact ⟨v, rfl, (Option.some.inj hst).symm⟩
        have HV : Hid (unf false x = some v) := hv
        rw [hout] at hown hol
        clear hst hv hout HU
        obtain ⟨g, cap, rfl, hcap, hcells⟩ : ∃ g cap, u7 = Value.slice (some ⟨g, 0, none⟩) (v.length + 1) cap ∧ v.length + 1 ≤ cap ∧ ∀ i, i < v.length → wr.cell? ⟨g, 1 + i, none⟩ = some (.int .u8 ((v.getD i 0).toNat : Int)) := by
          rcases hown.2 with ⟨_, h0⟩ | ⟨g, cap, cur, hv, _, _, hc, _⟩
          · simp at h0
          · refine ⟨g, cap, hv, hc, fun i hi => ?_⟩
            have := hown.cells (g := g) (by rw [hv]; rfl) (1 + i) (.int .u8 ((v.getD i 0).toNat : Int)) (by rw [Nat.add_comm]; simp [Lib.byteCells, hi])
            rwa [ow.add_at] at this
        clear hown
        obtain ⟨V, hV⟩ : ∃ V : ByteArray, V = ⟨v.toArray⟩ := ⟨_, rfl⟩
        have hVl : V.data.toList = v := by rw [hV]
        have hVs : V.size ≤ maxLen := by rw [Lib.size_eq, hVl]; simp at hol; unfold maxLen; omega
        have HVV : Hid (V = ⟨v.toArray⟩) := hV
        by_cases hc1 : cap = 1
        · have hv0 : v.length = 0 := by omega
          have cvA : (convert 22 9 (.slice (some ⟨g, 0, none⟩) v.length 0)).run Tryz.prog wr = .ok (.string V) wr := by
            rw [hV]
            exact run_convert_bytes_back wr 22 9 5 ⟨g, 0, none⟩ 0 v Tryz.underlying22 Tryz.underlying5 Tryz.underlying9 (fun j hj => by omega)
          clear hv0 hV
          by_cases hsafe : hd.Safe v
          · have CV : Hid (∀ n, Calls Tryz.prog 75 #[.string V] (wr.drewN n) fun e w' => e = .returned (.bool true) ∧ w' = wr.drewN n) := fun n => (sv.spec_any V _ hVs).mono fun e w' h => ⟨sv.says_true h.1 (by rw [hVl]; exact hsafe), h.2⟩
            have HS : Hid (hd.Safe v) := hsafe
            clear hsafe
            go_wp2_with fail
            go_quiet ((go_at_call 75; exact Calls.quiet_of_same (CV.out _)))
            go_wp2
            go_ret3
            refine ⟨.inl ⟨s.data.toList.take k, v, ⟨x, HPA.out, by rw [← ext_take]; exact HNM.out, HV.out, HS.out⟩, ?_⟩, bdrew hbw _⟩
            rw [← ext_take, ← HVV.out]
            rfl
          · have CV : Hid (∀ n, Calls Tryz.prog 75 #[.string V] (wr.drewN n) fun e w' => e = .returned (.bool false) ∧ w' = wr.drewN n) := fun n => (sv.spec_any V _ hVs).mono fun e w' h => ⟨sv.says_false h.1 (by rw [hVl]; exact hsafe), h.2⟩
            have HN : Hid (¬ ∃ nm v, Field hn.IsName s.data.toList nm v) := no_value HPA.out (by
              rintro ⟨v', hv', hs'⟩
              rw [HV.out] at hv'
              cases hv'
              exact hsafe hs')
            clear hsafe
            go_wp2_with fail
            go_quiet ((go_at_call 75; exact Calls.quiet_of_same (CV.out _)))
            go_wp2
            go_ret3
            exact ⟨.inr ⟨HN.out, _, _, rfl⟩, bdrew hbw _⟩
        · have cvB : (convert 22 9 (.slice (some ⟨g, 1, none⟩) v.length (cap - 1))).run Tryz.prog wr = .ok (.string V) wr := by
            rw [hV]
            refine run_convert_bytes_back wr 22 9 5 ⟨g, 1, none⟩ (cap - 1) v Tryz.underlying22 Tryz.underlying5 Tryz.underlying9 (fun j hj => ?_)
            rw [show (⟨g, 1, none⟩ : Addr).add j = ⟨g, 1 + j, none⟩ from by simp [Addr.add], hcells j hj]
            simp [List.getD_eq_getElem?_getD, hj]
          clear hV
          by_cases hsafe : hd.Safe v
          · have CV : Hid (∀ n, Calls Tryz.prog 75 #[.string V] (wr.drewN n) fun e w' => e = .returned (.bool true) ∧ w' = wr.drewN n) := fun n => (sv.spec_any V _ hVs).mono fun e w' h => ⟨sv.says_true h.1 (by rw [hVl]; exact hsafe), h.2⟩
            have HS : Hid (hd.Safe v) := hsafe
            clear hsafe
            go_wp2_with fail
            go_quiet ((go_at_call 75; exact Calls.quiet_of_same (CV.out _)))
            go_wp2
            go_ret3
            refine ⟨.inl ⟨s.data.toList.take k, v, ⟨x, HPA.out, by rw [← ext_take]; exact HNM.out, HV.out, HS.out⟩, ?_⟩, bdrew hbw _⟩
            rw [← ext_take, ← HVV.out]
            rfl
          · have CV : Hid (∀ n, Calls Tryz.prog 75 #[.string V] (wr.drewN n) fun e w' => e = .returned (.bool false) ∧ w' = wr.drewN n) := fun n => (sv.spec_any V _ hVs).mono fun e w' h => ⟨sv.says_false h.1 (by rw [hVl]; exact hsafe), h.2⟩
            have HN : Hid (¬ ∃ nm v, Field hn.IsName s.data.toList nm v) := no_value HPA.out (by
              rintro ⟨v', hv', hs'⟩
              rw [HV.out] at hv'
              cases hv'
              exact hsafe hs')
            clear hsafe
            go_wp2_with fail
            go_quiet ((go_at_call 75; exact Calls.quiet_of_same (CV.out _)))
            go_wp2
            go_ret3
            exact ⟨.inr ⟨HN.out, _, _, rfl⟩, bdrew hbw _⟩

end Go.Proofs.YtbokolpjdaamiaaGreatDoor.uf
