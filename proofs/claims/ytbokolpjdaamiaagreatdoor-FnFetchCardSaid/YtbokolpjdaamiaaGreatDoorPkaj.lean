/-
  Plain facts on quoted text: bytes are read back from it.
  Plain facts on quoted text: its lines have at most 76 characters, from 32 to 126, and no blank at an end.
  Plain facts on the longest line of a text: its pieces between ends of lines.
  Plain facts on a folded field: it is read back, and how long its lines are.
  Plain facts on a mail that is made of folded fields: it is cut into them again.
-/
import Derived.Test.YtbokolpjdaamiaaGreatDoorPkai
import Derived.Lib.IndexMore
import Derived.Lib.IndexLaws
import Derived.Test.YtbokolpjdaamiaaGreatDoorPkad
import Derived.Test.YtbokolpjdaamiaaGreatDoorPkaf

namespace Go.Proofs.YtbokolpjdaamiaaGreatDoor.qu
set_option linter.unusedVariables false

theorem hv_hx' : ∀ k : Fin 16, hv (hx k.val) = (k.val : Int) ∧ hx k.val ≠ 13 ∧ hx k.val ≠ 10 ∧ 48 ≤ (hx k.val).toNat ∧ (hx k.val).toNat ≤ 70 := by decide +kernel
theorem fq_soft (r : List UInt8) : fq (61 :: 13 :: 10 :: r) = some ([], 3) := by
  unfold fq
  rw [if_pos (soft_iff.2 ⟨r, rfl⟩)]
theorem fq_crlf (r : List UInt8) : fq (13 :: 10 :: r) = some ([13, 10], 2) := by
  unfold fq
  rw [if_neg (by rw [soft_iff]; rintro ⟨t, ht⟩; have := (List.cons.inj ht).1; exact absurd this (by decide)), if_pos (crlf_iff.2 ⟨r, rfl⟩)]
theorem fq_plain {c : UInt8} {la : Bool} (h : plain c la = true) (r : List UInt8) : fq (c :: r) = some ([c], 1) := by
  have hc : 32 ≤ c.toNat ∧ c.toNat ≤ 126 ∧ c ≠ 61 := by
    unfold plain at h
    rw [Bool.or_eq_true] at h
    rcases h with h | h
    · simp only [Bool.and_eq_true, decide_eq_true_eq, bne_iff_ne] at h
      exact ⟨by omega, h.1.2, h.2⟩
    · simp only [Bool.and_eq_true, beq_iff_eq] at h
      rw [h.1]
      decide
  unfold fq
  rw [if_neg (by rw [soft_iff]; rintro ⟨t, ht⟩; exact hc.2.2 (List.cons.inj ht).1), if_neg (by rw [crlf_iff]; rintro ⟨t, ht⟩; have h1 := (List.cons.inj ht).1; rw [h1] at hc; exact absurd hc.1 (by decide))]
  rw [if_neg (show ¬ (c :: r).getD 0 0 = 61 from hc.2.2), if_pos (show 32 ≤ ((c :: r).getD 0 0).toNat ∧ ((c :: r).getD 0 0).toNat ≤ 126 from ⟨hc.1, hc.2.1⟩)]
  rfl
theorem fq_hex (c : UInt8) (r : List UInt8) : fq (61 :: hx (c.toNat / 16) :: hx (c.toNat % 16) :: r) = some ([c], 3) := by
  have hl := c.toNat_lt
  obtain ⟨a1, a2, _, _⟩ := hv_hx' ⟨c.toNat / 16, by omega⟩
  obtain ⟨b1, _, _, _⟩ := hv_hx' ⟨c.toNat % 16, by omega⟩
  simp only at a1 a2 b1
  unfold fq
  rw [if_neg (by rw [soft_iff]; rintro ⟨t, ht⟩; exact a2 (List.cons.inj (List.cons.inj ht).2).1), if_neg (by rw [crlf_iff]; rintro ⟨t, ht⟩; have := (List.cons.inj ht).1; exact absurd this (by decide))]
  rw [if_pos (show (61 :: hx (c.toNat / 16) :: hx (c.toNat % 16) :: r).getD 0 0 = 61 from rfl)]
  show (if (61 :: hx (c.toNat / 16) :: hx (c.toNat % 16) :: r).length < 3 ∨ hv (hx (c.toNat / 16)) < 0 ∨ hv (hx (c.toNat % 16)) < 0 then none else some ([UInt8.ofNat ((hv (hx (c.toNat / 16))).toNat * 16 + (hv (hx (c.toNat % 16))).toNat)], 3)) = some ([c], 3)
  rw [a1, b1, if_neg (by simp; omega)]
  congr 3
  apply UInt8.toNat_inj.1
  rw [UInt8.toNat_ofNat']
  simp only [Int.toNat_natCast]
  omega
theorem uq_form (c : UInt8) (la : Bool) (x : List UInt8) : uq (form c la ++ x) = (uq x).map ([c] ++ ·) := by
  unfold form
  by_cases h : plain c la = true
  · rw [if_pos h]
    exact uq_some (by simp) (fq_plain h x)
  · rw [if_neg h]
    exact uq_some (l := 61 :: hx (c.toNat / 16) :: hx (c.toNat % 16) :: x) (by simp) (fq_hex c x)
theorem uq_qt_n : ∀ (n : Nat) (w : Nat) (l : List UInt8), l.length ≤ n → uq (qt w l) = some l := by
  intro n
  induction n with
  | zero =>
    intro w l h
    obtain rfl : l = [] := List.eq_nil_of_length_eq_zero (by omega)
    rw [qt_nil]
    rfl
  | succ n ih =>
    intro w l h
    match l, h with
    | [], _ => rw [qt_nil]; rfl
    | c :: r, h =>
      have hr : r.length ≤ n := by simp at h; omega
      by_cases hc : crlf (c :: r) = true
      · obtain ⟨r', hr'⟩ := crlf_iff.1 hc
        obtain ⟨rfl, rfl⟩ := List.cons.inj hr'
        rw [qt_crlf, uq_some (by simp) (fq_crlf _)]
        show (uq (qt 0 r')).map ([13, 10] ++ ·) = _
        rw [ih 0 r' (by simp at hr; omega)]
        rfl
      · have hcf : crlf (c :: r) = false := by simpa using hc
        by_cases h2 : lim (lastb r) < w + (form c (lastb r)).length
        · rw [qt_soft hcf h2, uq_some (by simp) (fq_soft _)]
          show (uq (form c (lastb r) ++ qt (form c (lastb r)).length r)).map ([] ++ ·) = _
          rw [uq_form, ih _ r hr]
          rfl
        · rw [qt_on hcf h2, uq_form, ih _ r hr]
          rfl
/-- Bytes are read back from their quoted text. -/
theorem uq_qt (w : Nat) (l : List UInt8) : uq (qt w l) = some l := uq_qt_n l.length w l (Nat.le_refl _)
end Go.Proofs.YtbokolpjdaamiaaGreatDoor.qu

namespace Go.Proofs.YtbokolpjdaamiaaGreatDoor.qu
set_option linter.unusedVariables false

/-- The longest line behind w characters of one, b being the longest so far; of an end of line the second byte is passed by. -/
def llS : Bool → Nat → Nat → List UInt8 → Nat
  | _, _, b, [] => b
  | true, _, b, _ :: r => llS false 0 b r
  | false, w, b, c :: r => if crlf (c :: r) then llS true 0 b r else llS false (w + 1) (max b (w + 1)) r
def llw (w b : Nat) (l : List UInt8) : Nat := llS false w b l
theorem llw_nil (w b : Nat) : llw w b [] = b := by rw [llw, llS]
theorem llw_crlf (w b : Nat) (r : List UInt8) : llw w b (13 :: 10 :: r) = llw 0 b r := by
  rw [llw, llS, if_pos (by simp [crlf]), llS, llw]
theorem llw_no {w b : Nat} {c : UInt8} {r : List UInt8} (h : crlf (c :: r) = false) : llw w b (c :: r) = llw (w + 1) (max b (w + 1)) r := by
  rw [llw, llS, if_neg (by rw [h]; decide), llw]
theorem llw_on {w b : Nat} {c : UInt8} {r : List UInt8} (h : c ≠ 13) : llw w b (c :: r) = llw (w + 1) (max b (w + 1)) r := by
  refine llw_no ?_
  rw [Bool.eq_false_iff]
  intro e
  obtain ⟨t, ht⟩ := crlf_iff.1 e
  exact h (List.cons.inj ht).1

/-- A character of a line. -/
def okc (c : UInt8) : Prop := 32 ≤ c.toNat ∧ c.toNat ≤ 126
theorem okc_ne {c : UInt8} (h : okc c) : c ≠ 13 ∧ c ≠ 10 := by
  refine ⟨fun e => ?_, fun e => ?_⟩ <;> (rw [e] at h; exact absurd h.1 (by decide))
theorem form_ok (c : UInt8) (la : Bool) : ∀ x ∈ form c la, okc x := by
  have hl := c.toNat_lt
  obtain ⟨_, _, _, a3, a4⟩ := hv_hx' ⟨c.toNat / 16, by omega⟩
  obtain ⟨_, _, _, b3, b4⟩ := hv_hx' ⟨c.toNat % 16, by omega⟩
  simp only at a3 a4 b3 b4
  intro x hx'
  unfold form at hx'
  split at hx'
  · rename_i h
    simp only [List.mem_singleton] at hx'
    subst hx'
    unfold plain at h
    rw [Bool.or_eq_true] at h
    rcases h with h | h
    · simp only [Bool.and_eq_true, decide_eq_true_eq, bne_iff_ne] at h
      exact ⟨by omega, h.1.2⟩
    · simp only [Bool.and_eq_true, beq_iff_eq] at h
      rw [h.1]
      unfold okc
      decide
  · simp only [List.mem_cons, List.not_mem_nil, or_false] at hx'
    rcases hx' with rfl | rfl | rfl
    · unfold okc; decide
    · exact ⟨by omega, by omega⟩
    · exact ⟨by omega, by omega⟩
theorem llw_form : ∀ (f : List UInt8) (w b : Nat) (x : List UInt8), (∀ y ∈ f, okc y) → ∃ b', llw w b (f ++ x) = llw (w + f.length) b' x ∧ b ≤ b' ∧ b' ≤ max b (w + f.length) := by
  intro f
  induction f with
  | nil => intro w b x h; exact ⟨b, rfl, Nat.le_refl _, Nat.le_max_left _ _⟩
  | cons a t ih =>
    intro w b x h
    have ha := (okc_ne (h a (by simp))).1
    rw [List.cons_append, llw_on ha]
    obtain ⟨b', e, h1, h2⟩ := ih (w + 1) (max b (w + 1)) x (fun y hy => h y (by simp [hy]))
    refine ⟨b', ?_, by omega, ?_⟩
    · rw [e]
      congr 1
      simp
      omega
    · simp only [List.length_cons]
      omega
theorem ll_qt_n : ∀ (n : Nat) (w b : Nat) (l : List UInt8), l.length ≤ n → b ≤ 76 → (lastb l = true ∨ w ≤ 75) → llw w b (qt w l) ≤ 76 := by
  intro n
  induction n with
  | zero =>
    intro w b l h hb hw
    obtain rfl : l = [] := List.eq_nil_of_length_eq_zero (by omega)
    rw [qt_nil, llw_nil]
    exact hb
  | succ n ih =>
    intro w b l h hb hw
    match l, h, hw with
    | [], _, _ => rw [qt_nil, llw_nil]; exact hb
    | c :: r, h, hw =>
      have hr : r.length ≤ n := by simp at h; omega
      by_cases hc : crlf (c :: r) = true
      · obtain ⟨r', hr'⟩ := crlf_iff.1 hc
        obtain ⟨rfl, rfl⟩ := List.cons.inj hr'
        rw [qt_crlf, llw_crlf]
        exact ih 0 b r' (by simp at hr; omega) hb (.inr (by decide))
      · have hcf : crlf (c :: r) = false := by simpa using hc
        have hw75 : w ≤ 75 := by
          rcases hw with h1 | h1
          · unfold lastb at h1
            rw [hcf] at h1
            simp at h1
          · exact h1
        have hf := form_len c (lastb r)
        have hok := form_ok c (lastb r)
        have hlim : lastb r = true ∧ lim (lastb r) = 76 ∨ lastb r = false ∧ lim (lastb r) = 75 := by
          cases lastb r
          · exact .inr ⟨rfl, rfl⟩
          · exact .inl ⟨rfl, rfl⟩
        by_cases h2 : lim (lastb r) < w + (form c (lastb r)).length
        · rw [qt_soft hcf h2, llw_on (by decide), llw_crlf]
          obtain ⟨b', e, h3, h4⟩ := llw_form (form c (lastb r)) 0 (max b (w + 1)) (qt (form c (lastb r)).length r) hok
          rw [e, Nat.zero_add]
          exact ih _ b' r hr (by omega) (.inr (by omega))
        · rw [qt_on hcf h2]
          obtain ⟨b', e, h3, h4⟩ := llw_form (form c (lastb r)) w b (qt (w + (form c (lastb r)).length) r) hok
          rw [e]
          refine ih _ b' r hr (by rcases hlim with h5 | h5 <;> omega) ?_
          rcases hlim with h5 | h5
          · exact .inl h5.1
          · exact .inr (by omega)
/-- The lines of a quoted text have at most 76 characters. -/
theorem ll_qt (l : List UInt8) : llw 0 0 (qt 0 l) ≤ 76 := ll_qt_n l.length 0 0 l (Nat.le_refl _) (by decide) (.inr (by decide))
end Go.Proofs.YtbokolpjdaamiaaGreatDoor.qu

namespace Go.Proofs.YtbokolpjdaamiaaGreatDoor.ln
open Go
set_option linter.unusedVariables false

def cr : List UInt8 := [13, 10]
theorem pre_iff {l : List UInt8} : cr.isPrefixOf l = qu.crlf l := by
  unfold cr qu.crlf
  match l with
  | [] => rfl
  | [a] => simp [List.isPrefixOf]
  | a :: b :: r =>
    rw [Bool.eq_iff_iff]
    simp only [List.isPrefixOf, Bool.and_eq_true, beq_iff_eq, List.head?_cons, List.tail_cons, Option.some.injEq, Bool.and_true]
    exact ⟨fun h => ⟨h.1.symm, h.2.symm⟩, fun h => ⟨h.1.symm, h.2.symm⟩⟩
theorem all_of : ∀ (l : List UInt8) (w b : Nat), w ≤ b → Lib.index l cr = -1 → qu.llw w b l = max b (w + l.length)
  | [], w, b, hw, _ => by rw [qu.llw_nil, List.length_nil]; omega
  | c :: r, w, b, hw, h => by
    rw [Lib.index] at h
    by_cases hp : cr.isPrefixOf (c :: r) = true
    · rw [if_pos hp] at h
      cases h
    · rw [if_neg hp] at h
      have h1 : Lib.index r cr = -1 := by
        by_cases h1 : Lib.index r cr = -1
        · exact h1
        · rw [if_neg (by simpa using h1)] at h
          have := Lib.index_ge r cr
          omega
      rw [pre_iff] at hp
      rw [qu.llw_no (by simpa using hp), all_of r (w + 1) _ (by omega) h1, List.length_cons]
      omega
theorem first_of : ∀ (l : List UInt8) (w b i : Nat), w ≤ b → Lib.index l cr = i → qu.llw w b l = qu.llw 0 (max b (w + i)) (l.drop (i + 2))
  | [], w, b, i, hw, h => by simp [Lib.index, cr] at h
  | c :: r, w, b, i, hw, h => by
    rw [Lib.index] at h
    by_cases hp : cr.isPrefixOf (c :: r) = true
    · rw [if_pos hp] at h
      obtain rfl : i = 0 := by omega
      rw [pre_iff] at hp
      obtain ⟨q, hq⟩ := qu.crlf_iff.1 hp
      rw [hq, qu.llw_crlf]
      simp only [List.drop_succ_cons, List.drop_zero]
      rw [show max b (w + 0) = b from by omega]
    · rw [if_neg hp] at h
      by_cases h1 : Lib.index r cr = -1
      · rw [if_pos (by rw [h1]; rfl)] at h
        omega
      · rw [if_neg (by simpa using h1)] at h
        have := Lib.index_ge r cr
        obtain ⟨j, rfl⟩ : ∃ j, i = j + 1 := ⟨i - 1, by omega⟩
        rw [pre_iff] at hp
        rw [qu.llw_no (by simpa using hp), first_of r (w + 1) _ j (by omega) (by omega), show j + 1 + 2 = j + 2 + 1 from by omega, List.drop_succ_cons]
        congr 1
        omega
theorem more : ∀ (l : List UInt8) (f : Bool) (w b c : Nat), qu.llS f w (max b c) l = max b (qu.llS f w c l)
  | [], f, w, b, c => by rw [qu.llS, qu.llS]
  | x :: r, true, w, b, c => by rw [qu.llS, qu.llS, more r]
  | x :: r, false, w, b, c => by
    rw [qu.llS, qu.llS]
    split
    · rw [more r]
    · rw [Nat.max_assoc, more r]
def ll (l : List UInt8) : Nat := qu.llw 0 0 l
theorem ll_all {l : List UInt8} (h : Lib.index l cr = -1) : ll l = l.length := by
  unfold ll
  rw [all_of l 0 0 (Nat.le_refl _) h]
  omega
theorem ll_first {l : List UInt8} {i : Nat} (h : Lib.index l cr = i) : ll l = max i (ll (l.drop (i + 2))) := by
  unfold ll
  rw [first_of l 0 0 i (Nat.le_refl _) h]
  have := more (l.drop (i + 2)) false 0 i 0
  unfold qu.llw
  rw [← this]
  congr 1
  omega
/-- The longest of some texts. -/
def mx (xs : List ByteArray) : Nat := xs.foldl (fun m x => max m x.size) 0
theorem mx_snoc (xs : List ByteArray) (x : ByteArray) : mx (xs ++ [x]) = max (mx xs) x.size := by simp [mx]
end Go.Proofs.YtbokolpjdaamiaaGreatDoor.ln

namespace Go.Proofs.YtbokolpjdaamiaaGreatDoor.ff
open Go
open Go.Proofs.YtbokolpjdaamiaaGreatDoor.hd (cutGo foldGo foldL)
open Go.Proofs.YtbokolpjdaamiaaGreatDoor.qu (llw llw_nil llw_crlf llw_on)
open Go.Proofs.YtbokolpjdaamiaaGreatDoor.uf (unf unf_fw)
set_option linter.unusedVariables false

theorem join : ∀ (l cur : List UInt8), ∃ x r, cutGo cur l = x :: r ∧ x ++ r.flatMap (fun y => 32 :: y) = cur ++ l
  | [], cur => ⟨cur, [], rfl, by simp⟩
  | b :: l, cur => by
    rw [cutGo]
    by_cases h : b.toNat = 32
    · rw [if_pos h]
      obtain ⟨x, r, h1, h2⟩ := join l []
      have hb : b = 32 := UInt8.toNat_inj.1 h
      refine ⟨cur, cutGo [] l, rfl, ?_⟩
      rw [h1, List.flatMap_cons, hb]
      simp only [List.nil_append] at h2
      rw [← h2]
      simp
    · rw [if_neg h]
      obtain ⟨x, r, h1, h2⟩ := join l (cur ++ [b])
      exact ⟨x, r, h1, by rw [h2]; simp⟩
theorem mem_cut : ∀ (l cur x : List UInt8), x ∈ cutGo cur l → ∀ b ∈ x, b ∈ cur ∨ b ∈ l
  | [], cur, x, h, b, hb => by
    rw [cutGo, List.mem_singleton] at h
    subst h
    exact .inl hb
  | c :: l, cur, x, h, b, hb => by
    rw [cutGo] at h
    split at h
    · rcases List.mem_cons.1 h with rfl | h
      · exact .inl hb
      · rcases mem_cut l [] x h b hb with h | h
        · cases h
        · exact .inr (List.mem_cons_of_mem _ h)
    · rcases mem_cut l (cur ++ [c]) x h b hb with h | h
      · rcases List.mem_append.1 h with h | h
        · exact .inl h
        · rw [List.mem_singleton] at h
          exact .inr (by rw [h]; exact List.mem_cons_self)
      · exact .inr (List.mem_cons_of_mem _ h)
theorem unf_app : ∀ (a y : List UInt8), (∀ b ∈ a, b ≠ 13) → unf false (a ++ y) = (unf false y).map (a ++ ·)
  | [], y, _ => by simp
  | c :: a, y, h => by
    rw [List.cons_append, unf, if_neg (h c List.mem_cons_self), unf_app a y (fun b hb => h b (List.mem_cons_of_mem _ hb))]
    cases unf false y <;> simp
theorem unf_fold : ∀ (r : List (List UInt8)) (wd : Nat), (∀ x ∈ r, ∀ b ∈ x, b ≠ 13) → unf false (foldGo false wd r) = some (r.flatMap (fun y => 32 :: y))
  | [], wd, _ => by rw [foldGo]; rfl
  | x :: r, wd, h => by
    have hx := h x List.mem_cons_self
    have hr := fun y hy => h y (List.mem_cons_of_mem _ hy)
    by_cases hw : 78 < wd + 1 + x.length
    · rw [hd.foldGo_yes r hw]
      show unf false (13 :: 10 :: 32 :: (x ++ foldGo false (1 + x.length) r)) = _
      rw [unf_fw, unf_app x _ hx, unf_fold r _ hr]
      simp
    · rw [hd.foldGo_no r (.inr (by omega))]
      show unf false ((32 :: x) ++ foldGo false (wd + 1 + x.length) r) = _
      rw [unf_app (32 :: x) _ (fun b hb => by
        rcases List.mem_cons.1 hb with rfl | hb
        · decide
        · exact hx b hb), unf_fold r _ hr]
      simp
theorem words_ok {v : List UInt8} (h : hd.Safe v) : ∀ x ∈ cutGo [] v, ∀ b ∈ x, b ≠ 13 := by
  intro x hx b hb e
  rcases mem_cut v [] x hx b hb with hm | hm
  · cases hm
  · have := hd.ascii h b hm
    rw [e] at this
    exact absurd this.1 (by decide)
/-- The folded field is read back. -/
theorem field {P : ByteArray → Prop} {nm v : List UInt8} (hn : P ⟨nm.toArray⟩) (h58 : 58 ∉ nm) (hv : hd.Safe v) : uf.Field P (foldL nm v) nm v := by
  obtain ⟨x, r, h1, h2⟩ := join v []
  have hw := words_ok hv
  rw [h1] at hw
  refine ⟨x ++ foldGo false (nm.length + 1 + 1 + x.length) r, ⟨?_, h58⟩, hn, ?_, hv⟩
  · unfold foldL
    rw [h1, hd.foldGo_no r (.inl rfl)]
    simp
  · rw [unf_app x _ (hw x List.mem_cons_self), unf_fold r _ (fun y hy => hw y (List.mem_cons_of_mem _ hy))]
    simp only [List.nil_append] at h2
    rw [Option.map_some, h2]

/-- The longest word, behind w characters of one, b being the longest so far. -/
def lw : Nat → Nat → List UInt8 → Nat
  | _, b, [] => b
  | w, b, c :: r => if c.toNat = 32 then lw 0 b r else lw (w + 1) (max b (w + 1)) r
theorem lw_ge : ∀ (l : List UInt8) (w b : Nat), b ≤ lw w b l
  | [], w, b => Nat.le_refl _
  | c :: r, w, b => by
    rw [lw]
    split
    · exact lw_ge r 0 b
    · have := lw_ge r (w + 1) (max b (w + 1))
      omega
theorem lw_cut : ∀ (l cur : List UInt8) (b : Nat), cur.length ≤ b → ∀ x ∈ cutGo cur l, x.length ≤ lw cur.length b l
  | [], cur, b, hb, x, hx => by
    rw [cutGo, List.mem_singleton] at hx
    rw [hx, lw]
    exact hb
  | c :: l, cur, b, hb, x, hx => by
    rw [cutGo] at hx
    rw [lw]
    by_cases h : c.toNat = 32
    · rw [if_pos h] at hx ⊢
      rcases List.mem_cons.1 hx with rfl | hx
      · have := lw_ge l 0 b
        omega
      · exact lw_cut l [] b (Nat.zero_le _) x hx
    · rw [if_neg h] at hx ⊢
      have := lw_cut l (cur ++ [c]) (max b (cur.length + 1)) (by simp; omega) x hx
      simpa using this
theorem llw_app : ∀ (a : List UInt8) (w b : Nat) (y : List UInt8), w ≤ b → (∀ c ∈ a, c ≠ 13) → llw w b (a ++ y) = llw (w + a.length) (max b (w + a.length)) y
  | [], w, b, y, hw, _ => by
    rw [List.nil_append, List.length_nil, Nat.add_zero, Nat.max_eq_left hw]
  | c :: a, w, b, y, hw, h => by
    rw [List.cons_append, llw_on (h c List.mem_cons_self), llw_app a (w + 1) _ y (by omega) (fun d hd => h d (List.mem_cons_of_mem _ hd)), List.length_cons]
    congr 1
    · omega
    · omega
theorem ll_fold (M L : Nat) (h78 : 78 ≤ M) (hL : L + 1 ≤ M) : ∀ (r : List (List UInt8)) (wd b : Nat), wd ≤ b → b ≤ M → (∀ x ∈ r, x.length ≤ L ∧ ∀ c ∈ x, c ≠ 13) → llw wd b (foldGo false wd r ++ [13, 10]) ≤ M
  | [], wd, b, _, hb, _ => by
    rw [foldGo, List.nil_append, llw_crlf, llw_nil]
    exact hb
  | x :: r, wd, b, hwb, hb, h => by
    obtain ⟨hxl, hx⟩ := h x List.mem_cons_self
    have hr := fun y hy => h y (List.mem_cons_of_mem _ hy)
    have hsx : ∀ c ∈ (32 :: x : List UInt8), c ≠ 13 := fun c hc => by
      rcases List.mem_cons.1 hc with rfl | hc
      · decide
      · exact hx c hc
    by_cases hw : 78 < wd + 1 + x.length
    · rw [hd.foldGo_yes r hw]
      show llw wd b (13 :: 10 :: ((32 :: x) ++ foldGo false (1 + x.length) r ++ [13, 10])) ≤ M
      rw [llw_crlf, List.append_assoc, llw_app (32 :: x) 0 b _ (Nat.zero_le _) hsx]
      have e : 0 + (32 :: x : List UInt8).length = 1 + x.length := by simp; omega
      rw [e]
      exact ll_fold M L h78 hL r (1 + x.length) _ (by omega) (by omega) hr
    · rw [hd.foldGo_no r (.inr (by omega))]
      show llw wd b ((32 :: x) ++ foldGo false (wd + 1 + x.length) r ++ [13, 10]) ≤ M
      rw [List.append_assoc, llw_app (32 :: x) wd b _ hwb hsx]
      have e : wd + (32 :: x : List UInt8).length = wd + 1 + x.length := by simp; omega
      rw [e]
      exact ll_fold M L h78 hL r (wd + 1 + x.length) _ (by omega) (by omega) hr
/-- No line of the folded field is longer than 78, or than its name with its longest word. -/
theorem ll_field {nm v : List UInt8} (hn : ∀ c ∈ nm, c ≠ 13) (hv : hd.Safe v) : ln.ll (foldL nm v) ≤ max 78 (lw 0 0 v + nm.length + 2) := by
  obtain ⟨x, r, h1, h2⟩ := join v []
  have hw := words_ok hv
  have hl := lw_cut v [] 0 (Nat.le_refl _)
  rw [h1] at hw hl
  rw [List.length_nil] at hl
  have hx := hl x List.mem_cons_self
  have e : foldL nm v = (nm ++ [58, 32] ++ x) ++ (foldGo false (nm.length + 1 + 1 + x.length) r ++ [13, 10]) := by
    unfold foldL
    rw [h1, hd.foldGo_no r (.inl rfl)]
    simp
  unfold ln.ll
  rw [e, llw_app _ 0 0 _ (Nat.le_refl _) (fun c hc => by
    rcases List.mem_append.1 hc with hc | hc
    · rcases List.mem_append.1 hc with hc | hc
      · exact hn c hc
      · rcases List.mem_cons.1 hc with rfl | hc
        · decide
        · rw [List.mem_singleton] at hc
          rw [hc]
          decide
    · exact hw x List.mem_cons_self c hc)]
  have e2 : 0 + (nm ++ [58, 32] ++ x).length = nm.length + 1 + 1 + x.length := by simp; omega
  rw [e2]
  exact ll_fold _ (lw 0 0 v) (by omega) (by omega) r _ _ (by omega) (by omega) (fun y hy => ⟨hl y (List.mem_cons_of_mem _ hy), hw y (List.mem_cons_of_mem _ hy)⟩)
theorem fold_len : ∀ (r : List (List UInt8)) (f : Bool) (wd : Nat), (foldGo f wd r).length ≤ 3 * ((r.map List.length).sum + r.length)
  | [], f, wd => by rw [foldGo]; simp
  | x :: r, f, wd => by
    rw [foldGo]
    split
    · have := fold_len r false (1 + x.length)
      simp
      omega
    · have := fold_len r false (wd + 1 + x.length)
      simp
      omega
theorem field_len (nm v : List UInt8) : (foldL nm v).length ≤ nm.length + 3 * v.length + 6 := by
  have h1 := fold_len (cutGo [] v) true (nm.length + 1)
  have h2 := hd.cutGo_len v []
  unfold foldL
  simp at h1 h2 ⊢
  omega
theorem lw_snoc : ∀ (l : List UInt8) (w b : Nat), lw w b l ≤ max b (w + l.length)
  | [], w, b => by rw [lw]; omega
  | c :: r, w, b => by
    rw [lw]
    split
    · have := lw_snoc r 0 b
      simp
      omega
    · have := lw_snoc r (w + 1) (max b (w + 1))
      simp
      omega
/-- A name, byte by byte. -/
theorem name_of (l : List UInt8) (h : ∀ b ∈ l, 33 ≤ b.toNat ∧ b.toNat ≤ 126 ∧ b ≠ 58) (h1 : 1 ≤ l.length) (h2 : l.length ≤ 40) : hn.IsName ⟨l.toArray⟩ := by
  have hs : (⟨l.toArray⟩ : ByteArray).size = l.length := by rw [Lib.size_eq]
  refine ⟨by omega, by omega, fun j hj => ⟨hj, ?_⟩⟩
  have hm : ((⟨l.toArray⟩ : ByteArray)[j]'hj) ∈ l := by
    have : (⟨l.toArray⟩ : ByteArray)[j]'hj = l[j]'(by omega) := rfl
    rw [this]
    exact List.getElem_mem _
  obtain ⟨a, b, c⟩ := h _ hm
  exact ⟨by omega, by omega, fun e => c (UInt8.toNat_inj.1 (Int.ofNat.inj e))⟩
end Go.Proofs.YtbokolpjdaamiaaGreatDoor.ff

namespace Go.Proofs.YtbokolpjdaamiaaGreatDoor.ml
open Go
open Go.Proofs.YtbokolpjdaamiaaGreatDoor.hd (cutGo foldGo foldL)
set_option linter.unusedVariables false

/-- Each end of a line is followed by a blank. -/
def Fd : B → Prop
  | [] => True
  | c :: r => (c = 13 → r.take 2 = [10, 32]) ∧ Fd r
theorem fd_app : ∀ (a y : B), (∀ b ∈ a, b ≠ 13) → Fd y → Fd (a ++ y)
  | [], y, _, h => h
  | c :: a, y, h, hy => ⟨fun e => absurd e (h c List.mem_cons_self), fd_app a y (fun b hb => h b (List.mem_cons_of_mem _ hb)) hy⟩
theorem fd_fold : ∀ (r : List B) (f : Bool) (wd : Nat), (∀ x ∈ r, ∀ b ∈ x, b ≠ 13) → Fd (foldGo f wd r)
  | [], f, wd, _ => by rw [foldGo]; exact trivial
  | x :: r, f, wd, h => by
    have hx := h x List.mem_cons_self
    have hr := fun y hy => h y (List.mem_cons_of_mem _ hy)
    rw [foldGo]
    split
    · rw [List.append_assoc]
      refine ⟨fun _ => rfl, fun e => absurd e (by decide), fun e => absurd e (by decide), ?_⟩
      exact fd_app x _ hx (fd_fold r _ _ hr)
    · rw [List.append_assoc]
      refine ⟨fun e => absurd e (by decide), ?_⟩
      exact fd_app x _ hx (fd_fold r _ _ hr)
theorem no_end : ∀ (x q : B) (j : Nat), Fd x → j < x.length → ¬ EndAt (x ++ q) j
  | [], q, j, _, h => absurd h (Nat.not_lt_zero _)
  | c :: r, q, 0, h, _ => by
    rintro ⟨h1, h2⟩
    rw [List.drop_zero, List.cons_append] at h1
    have hc : c = 13 := by
      cases hr : r ++ q with
      | nil => rw [hr] at h1; simp [nl] at h1
      | cons a t => rw [hr] at h1; simp [nl] at h1; exact h1.1
    have h3 := h.1 hc
    match r, h3 with
    | a :: b :: t, h3 =>
      simp at h3
      apply h2
      simp [h3.2]
  | c :: r, q, j + 1, h, hj => by
    have ih := no_end r q j h.2 (by simpa using hj)
    rintro ⟨h1, h2⟩
    exact ih ⟨by simpa using h1, by simpa using h2⟩
theorem fold_ne {nm v : B} (hn : ∀ b ∈ nm, b ≠ 13) (hv : hd.Safe v) : Fd (nm ++ [58] ++ foldGo true (nm.length + 1) (cutGo [] v)) := by
  rw [List.append_assoc]
  refine fd_app nm _ hn (fd_app [58] _ (by intro b hb; rw [List.mem_singleton] at hb; subst hb; decide) (fd_fold _ _ _ (ff.words_ok hv)))
/-- The first field of a text that begins with a folded one. -/
theorem chunk_fold {nm v q : B} (hn : ∀ b ∈ nm, b ≠ 13) (hv : hd.Safe v) (hq : q.head? ≠ some 32) : Chunk (foldL nm v ++ q) (foldL nm v) q := by
  have hx := fold_ne hn hv
  unfold foldL
  generalize nm ++ [58] ++ foldGo true (nm.length + 1) (cutGo [] v) = x at hx
  refine ⟨x.length, ?_, ?_, ⟨?_, ?_⟩, ?_⟩
  · rw [List.take_append_of_le_length (by simp), List.take_of_length_le (by simp)]
  · rw [List.drop_append_of_le_length (by simp), List.drop_of_length_le (by simp)]; simp
  · rw [List.append_assoc, List.drop_left]; simp [nl]
  · rw [List.drop_append_of_le_length (by simp), List.drop_of_length_le (by simp)]; simpa using hq
  · intro j hj
    rw [List.append_assoc]
    exact no_end x _ j hx hj
/-- A name of a field: no end of a line, no colon, and it begins with a sign. -/
def NmOK (nm : B) : Prop := hn.IsName ⟨nm.toArray⟩
theorem nm_sign {nm : B} (h : NmOK nm) : nm ≠ [] ∧ ∀ b ∈ nm, 33 ≤ b.toNat ∧ b.toNat ≤ 126 ∧ b ≠ 58 := by
  obtain ⟨h1, h2, h3⟩ := h
  rw [Lib.size_eq] at h1
  refine ⟨fun e => by subst e; simp at h1, fun b hb => ?_⟩
  obtain ⟨j, hj, rfl⟩ := List.mem_iff_getElem.1 hb
  obtain ⟨hj', g1, g2, g3⟩ := h3 j (by rw [Lib.size_eq]; exact hj)
  have e : (⟨nm.toArray⟩ : ByteArray)[j]'hj' = nm[j] := rfl
  rw [e] at g1 g2 g3
  refine ⟨by omega, by omega, fun e2 => ?_⟩
  rw [e2] at g3
  exact g3 rfl
/-- Fields folded, one behind the other. -/
def foldM (fs : List (B × B)) : B := fs.flatMap fun x => foldL x.1 x.2
theorem foldM_head (fs : List (B × B)) (y : B) (h : ∀ x ∈ fs, NmOK x.1) (hy : y.head? ≠ some 32) : (foldM fs ++ y).head? ≠ some 32 := by
  cases fs with
  | nil => exact hy
  | cons x fs =>
    obtain ⟨h1, h2⟩ := nm_sign (h x List.mem_cons_self)
    cases hn : x.1 with
    | nil => exact absurd hn h1
    | cons c r =>
      have := h2 c (by rw [hn]; exact List.mem_cons_self)
      simp only [foldM, List.flatMap_cons, foldL, hn, List.cons_append, List.head?_cons]
      intro e
      cases e
      exact absurd this.1 (by decide)
theorem run_fold : ∀ (fs : List (B × B)) (y : B), (∀ x ∈ fs, NmOK x.1 ∧ hd.Safe x.2) → y.head? ≠ some 32 → Run F fs (foldM fs ++ y) y
  | [], y, _, _ => rfl
  | x :: fs, y, h, hy => by
    have hx := h x List.mem_cons_self
    have hr := fun z hz => h z (List.mem_cons_of_mem _ hz)
    obtain ⟨n1, n2⟩ := nm_sign hx.1
    have e : foldM (x :: fs) ++ y = foldL x.1 x.2 ++ (foldM fs ++ y) := by simp [foldM]
    rw [e]
    refine ⟨?_, foldL x.1 x.2, foldM fs ++ y, chunk_fold (fun b hb e => ?_) hx.2 (foldM_head fs y (fun z hz => (hr z hz).1) hy), ff.field hx.1 (fun h58 => (n2 58 h58).2.2 rfl) hx.2, run_fold fs y hr hy⟩
    · intro hp
      unfold Pre at hp
      cases hn : x.1 with
      | nil => exact n1 hn
      | cons c r =>
        have := n2 c (by rw [hn]; exact List.mem_cons_self)
        simp only [foldL, hn, List.cons_append, nl] at hp
        rw [List.take_succ_cons] at hp
        have hc := (List.cons.inj hp).1
        rw [hc] at this
        exact absurd this.1 (by decide)
    · have := n2 b hb
      subst e
      exact absurd this.1 (by decide)
theorem par_fold (fs : List (B × B)) (b : B) (h : ∀ x ∈ fs, NmOK x.1 ∧ hd.Safe x.2) : Par F fs (foldM fs ++ nl ++ b) b := by
  refine ⟨nl ++ b, ?_, rfl, rfl⟩
  rw [List.append_assoc]
  exact run_fold fs _ h (by simp [nl])
end Go.Proofs.YtbokolpjdaamiaaGreatDoor.ml
