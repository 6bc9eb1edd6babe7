/-
  Plain facts on quoted text: its characters, one by one.
  Plain facts on a mail that is made of folded fields and quoted text: it is lines of a mail.
  Plain facts on runes and on the model's decoding of a byte string: which rune begins at a place, in the words of the specification's reader.
-/
import Derived.Test.YtbokolpjdaamiaaGreatDoorPkaj
import Derived.WalkKit
import Derived.Laws.RangeAny

namespace Go.Proofs.YtbokolpjdaamiaaGreatDoor.qu
set_option linter.unusedVariables false

/-- Characters from 32 to 126 and ends of lines, no blank ahead of an end. -/
def good : List UInt8 → Prop
  | [] => True
  | [c] => okc c ∧ c ≠ 32
  | a :: b :: r => (a = 13 ∧ b = 10 ∧ good r) ∨ (okc a ∧ (a = 32 → b ≠ 13) ∧ good (b :: r))

theorem good_cons {c : UInt8} {x : List UInt8} (hc : okc c) (hx : good x) (h32 : c = 32 → ∃ b r, x = b :: r ∧ b ≠ 13) : good (c :: x) := by
  cases x with
  | nil => exact ⟨hc, fun e => by obtain ⟨b, r, h, _⟩ := h32 e; cases h⟩
  | cons b r =>
    refine .inr ⟨hc, fun e => ?_, hx⟩
    obtain ⟨b', r', h, hb⟩ := h32 e
    obtain ⟨rfl, rfl⟩ := List.cons.inj h
    exact hb
theorem good_crlf {x : List UInt8} (hx : good x) : good (13 :: 10 :: x) := .inl ⟨rfl, rfl, hx⟩

/-- What a text that goes on begins with. -/
theorem qt_head {w : Nat} {c : UInt8} {r : List UInt8} (h : crlf (c :: r) = false) : ∃ b t, qt w (c :: r) = b :: t ∧ b ≠ 13 := by
  have hok := form_ok c (lastb r)
  have hf := form_len c (lastb r)
  by_cases h2 : lim (lastb r) < w + (form c (lastb r)).length
  · rw [qt_soft h h2]
    exact ⟨_, _, rfl, by decide⟩
  · rw [qt_on h h2]
    cases hh : form c (lastb r) with
    | nil => rw [hh] at hf; simp at hf
    | cons a t => exact ⟨a, _, rfl, (okc_ne (hok a (by rw [hh]; simp))).1⟩
theorem good_form {c : UInt8} {r x : List UInt8} (hx : good x) (hh : lastb r = false → ∃ b t, x = b :: t ∧ b ≠ 13) : good (form c (lastb r) ++ x) := by
  have hl := c.toNat_lt
  have hok := form_ok c (lastb r)
  obtain ⟨_, _, _, a3, a4⟩ := hv_hx' ⟨c.toNat / 16, by omega⟩
  obtain ⟨_, _, _, b3, b4⟩ := hv_hx' ⟨c.toNat % 16, by omega⟩
  simp only at a3 a4 b3 b4
  unfold form at hok ⊢
  by_cases h : plain c (lastb r) = true
  · rw [if_pos h] at hok ⊢
    refine good_cons (hok c (by simp)) hx (fun e => hh ?_)
    subst e
    unfold plain at h
    cases hb : lastb r with
    | false => rfl
    | true => rw [hb] at h; revert h; decide
  · rw [if_neg h] at hok ⊢
    have n32 : ∀ y : UInt8, 48 ≤ y.toNat → y ≠ 32 := fun y hy e => by rw [e] at hy; exact absurd hy (by decide)
    refine good_cons (hok 61 (by simp)) (good_cons (hok _ (by simp)) (good_cons (hok _ (by simp)) hx (fun e => absurd e (n32 _ b3))) (fun e => absurd e (n32 _ a3))) (fun e => absurd e (by decide))
theorem good_qt_n : ∀ (n : Nat) (w : Nat) (l : List UInt8), l.length ≤ n → good (qt w l) := by
  intro n
  induction n with
  | zero =>
    intro w l h
    obtain rfl : l = [] := List.eq_nil_of_length_eq_zero (by omega)
    rw [qt_nil]
    exact trivial
  | succ n ih =>
    intro w l h
    match l, h with
    | [], _ => rw [qt_nil]; exact trivial
    | c :: r, h =>
      have hr : r.length ≤ n := by simp at h; omega
      by_cases hc : crlf (c :: r) = true
      · obtain ⟨r', hr'⟩ := crlf_iff.1 hc
        obtain ⟨rfl, rfl⟩ := List.cons.inj hr'
        rw [qt_crlf]
        exact good_crlf (ih 0 r' (by simp at hr; omega))
      · have hcf : crlf (c :: r) = false := by simpa using hc
        have hhd : ∀ w', lastb r = false → ∃ b t, qt w' r = b :: t ∧ b ≠ 13 := by
          intro w' hl
          cases r with
          | nil => cases hl
          | cons a t =>
            unfold lastb at hl
            exact qt_head (by simpa using hl)
        by_cases h2 : lim (lastb r) < w + (form c (lastb r)).length
        · rw [qt_soft hcf h2]
          exact good_cons (by unfold okc; decide) (good_crlf (good_form (ih _ r hr) (hhd _))) (fun e => absurd e (by decide))
        · rw [qt_on hcf h2]
          exact good_form (ih _ r hr) (hhd _)
theorem good_qt (l : List UInt8) : good (qt 0 l) := good_qt_n l.length 0 l (Nat.le_refl _)

/-- What the law asks of each character. -/
def Okay (l : List UInt8) (i : Nat) : Prop :=
  (okc (l.getD i 0) ∨ (l.getD i 0 = 13 ∧ i + 1 < l.length ∧ l.getD (i + 1) 0 = 10) ∨ (l.getD i 0 = 10 ∧ 0 < i ∧ l.getD (i - 1) 0 = 13)) ∧
  (l.getD i 0 = 32 → i + 1 < l.length ∧ l.getD (i + 1) 0 ≠ 13)
theorem okay_shift {l : List UInt8} {a : UInt8} {i : Nat} (h : Okay l i) : Okay (a :: l) (i + 1) := by
  obtain ⟨h1, h2⟩ := h
  refine ⟨?_, fun e => ?_⟩
  · rcases h1 with h1 | ⟨x, y, z⟩ | ⟨x, y, z⟩
    · exact .inl h1
    · exact .inr (.inl ⟨x, by simp; omega, z⟩)
    · refine .inr (.inr ⟨x, by omega, ?_⟩)
      obtain ⟨j, rfl⟩ : ∃ j, i = j + 1 := ⟨i - 1, by omega⟩
      exact z
  · obtain ⟨p, q⟩ := h2 e
    exact ⟨by simp; omega, q⟩
theorem okay_all : ∀ (n : Nat) (l : List UInt8), l.length ≤ n → good l → ∀ i, i < l.length → Okay l i := by
  intro n
  induction n with
  | zero => intro l h _ i hi; omega
  | succ n ih =>
    intro l h hg i hi
    match l, h, hg with
    | [], _, _ => simp at hi
    | [c], _, hg =>
      obtain rfl : i = 0 := by simp at hi; omega
      exact ⟨.inl hg.1, fun e => absurd e hg.2⟩
    | a :: b :: r, h, hg =>
      rcases hg with ⟨rfl, rfl, hr⟩ | ⟨hok, h32, hr⟩
      · match i, hi with
        | 0, _ => exact ⟨.inr (.inl ⟨rfl, by simp, rfl⟩), fun e => absurd (show (13 : UInt8) = 32 from e) (by decide)⟩
        | 1, _ => exact ⟨.inr (.inr ⟨rfl, by decide, rfl⟩), fun e => absurd (show (10 : UInt8) = 32 from e) (by decide)⟩
        | j + 2, hi => exact okay_shift (okay_shift (ih r (by simp at h; omega) hr j (by simp at hi; omega)))
      · match i, hi with
        | 0, _ => exact ⟨.inl hok, fun e => ⟨by simp, h32 e⟩⟩
        | j + 1, hi => exact okay_shift (ih (b :: r) (by simp at h ⊢; omega) hr j (by simp at hi ⊢; omega))
theorem okay_qt (l : List UInt8) (i : Nat) (h : i < (qt 0 l).length) : Okay (qt 0 l) i := okay_all _ _ (Nat.le_refl _) (good_qt l) i h
end Go.Proofs.YtbokolpjdaamiaaGreatDoor.qu

namespace Go.Proofs.YtbokolpjdaamiaaGreatDoor.ml
open Go
open Go.Proofs.YtbokolpjdaamiaaGreatDoor.hd (cutGo foldGo foldL)
open Go.Proofs.YtbokolpjdaamiaaGreatDoor.qu (llw llw_nil llw_crlf llw_on okc)
set_option linter.unusedVariables false

theorem llw_ge (w b : Nat) (l : B) : b ≤ llw w b l := by
  have := ln.more l false w b 0
  rw [Nat.max_eq_left (Nat.zero_le b)] at this
  unfold llw
  rw [this]
  exact Nat.le_max_left _ _
/-- Characters from 32 to 126, and ends of lines. -/
def cp : B → Prop
  | [] => True
  | [c] => okc c
  | a :: b :: r => (a = 13 ∧ b = 10 ∧ cp r) ∨ (okc a ∧ cp (b :: r))
theorem cp_cons {c : UInt8} {x : B} (hc : okc c) (hx : cp x) : cp (c :: x) := by
  cases x with
  | nil => exact hc
  | cons b r => exact .inr ⟨hc, hx⟩
theorem cp_app : ∀ (a y : B), (∀ c ∈ a, okc c) → cp y → cp (a ++ y)
  | [], y, _, h => h
  | c :: a, y, h, hy => cp_cons (h c List.mem_cons_self) (cp_app a y (fun b hb => h b (List.mem_cons_of_mem _ hb)) hy)
theorem cp_good : ∀ (n : Nat) (l : B), l.length ≤ n → qu.good l → cp l
  | n, [], _, _ => trivial
  | n, [c], _, h => h.1
  | 0, a :: b :: r, hl, _ => by simp at hl
  | n + 1, a :: b :: r, hl, h => by
    simp only [List.length_cons] at hl
    rcases h with ⟨h1, h2, h3⟩ | ⟨h1, _, h3⟩
    · exact .inl ⟨h1, h2, cp_good n r (by omega) h3⟩
    · exact .inr ⟨h1, cp_good n (b :: r) (by simp only [List.length_cons]; omega) h3⟩
theorem not_bad {c : UInt8} (h : okc c) : bad c = false := by
  have h13 := qu.okc_ne h
  unfold bad
  have h0 : c ≠ 0 := fun e => by rw [e] at h; exact absurd h.1 (by decide)
  have h1 := h.2
  simp [h0, h13.1, h13.2]
  omega
theorem mok_cp : ∀ (n : Nat) (l : B) (w b : Nat), l.length ≤ n → cp l → llw w b l ≤ 998 → mok w (l ++ nl) = true
  | n, [], w, b, _, _, _ => by
    show mok w (13 :: 10 :: []) = true
    rw [mok_end]
    rfl
  | n, [c], w, b, _, hc, hl => by
    have h13 := qu.okc_ne hc
    rw [llw_on h13.1] at hl
    have := llw_ge (w + 1) (max b (w + 1)) []
    show mok w (c :: 13 :: 10 :: []) = true
    rw [mok_good (by rintro ⟨e, _⟩; exact h13.1 e) (not_bad hc) (by omega), mok_end]
    rfl
  | 0, a :: b' :: r, w, b, hn, _, _ => by simp at hn
  | n + 1, a :: b' :: r, w, b, hn, hc, hl => by
    simp only [List.length_cons] at hn
    rcases hc with ⟨rfl, rfl, h3⟩ | ⟨h1, h3⟩
    · rw [llw_crlf] at hl
      show mok w (13 :: 10 :: (r ++ nl)) = true
      rw [mok_end]
      exact mok_cp n r 0 b (by omega) h3 hl
    · have h13 := qu.okc_ne h1
      rw [llw_on h13.1] at hl
      have := llw_ge (w + 1) (max b (w + 1)) (b' :: r)
      show mok w (a :: (b' :: r ++ nl)) = true
      rw [mok_good (by rintro ⟨e, _⟩; exact h13.1 e) (not_bad h1) (by omega)]
      exact mok_cp n (b' :: r) (w + 1) _ (by simp only [List.length_cons]; omega) h3 hl
theorem llw_nl : ∀ (n : Nat) (l : B) (w b : Nat), l.length ≤ n → cp l → llw w b (l ++ nl) = llw w b l
  | n, [], w, b, _, _ => by
    show llw w b (13 :: 10 :: []) = _
    rw [llw_crlf, llw_nil, llw_nil]
  | n, [c], w, b, _, hc => by
    have h13 := qu.okc_ne hc
    show llw w b (c :: 13 :: 10 :: []) = _
    rw [llw_on h13.1, llw_on h13.1, llw_crlf, llw_nil, llw_nil]
  | 0, a :: b' :: r, w, b, hn, _ => by simp at hn
  | n + 1, a :: b' :: r, w, b, hn, hc => by
    simp only [List.length_cons] at hn
    rcases hc with ⟨rfl, rfl, h3⟩ | ⟨h1, h3⟩
    · show llw w b (13 :: 10 :: (r ++ nl)) = _
      rw [llw_crlf, llw_crlf]
      exact llw_nl n r 0 b (by omega) h3
    · have h13 := qu.okc_ne h1
      show llw w b (a :: (b' :: r ++ nl)) = _
      rw [llw_on h13.1, llw_on h13.1]
      exact llw_nl n (b' :: r) (w + 1) _ (by simp only [List.length_cons]; omega) h3
theorem okc32 : okc 32 := ⟨by decide, by decide⟩
theorem okc58 : okc 58 := ⟨by decide, by decide⟩
theorem cp_fold : ∀ (r : List B) (f : Bool) (wd : Nat), (∀ x ∈ r, ∀ b ∈ x, okc b) → cp (foldGo f wd r)
  | [], f, wd, _ => by rw [foldGo]; exact trivial
  | x :: r, f, wd, h => by
    have hx := h x List.mem_cons_self
    have hr := fun y hy => h y (List.mem_cons_of_mem _ hy)
    rw [foldGo]
    split
    · rw [List.append_assoc]
      exact .inl ⟨rfl, rfl, cp_cons okc32 (cp_app x _ hx (cp_fold r _ _ hr))⟩
    · rw [List.append_assoc]
      exact cp_cons okc32 (cp_app x _ hx (cp_fold r _ _ hr))
theorem words_okc {v : B} (h : hd.Safe v) : ∀ x ∈ cutGo [] v, ∀ b ∈ x, okc b := by
  intro x hx b hb
  rcases ff.mem_cut v [] x hx b hb with h1 | h1
  · cases h1
  · exact hd.ascii h b h1
theorem step_some (w : Nat) (c : UInt8) : hd.step (some w) c = if c.toNat < 32 ∨ 126 < c.toNat then none else if c.toNat = 32 then (if w = 0 then none else some 0) else if 200 ≤ w then none else some (w + 1) := rfl
/-- No word of a safe value is longer than 200 characters. -/
theorem lw_safe : ∀ (v : B) (w b w' : Nat), v.foldl hd.step (some w) = some w' → w ≤ 200 → ff.lw w b v ≤ max b 200
  | [], w, b, w', _, _ => by rw [ff.lw]; omega
  | c :: r, w, b, w', h, hw => by
    rw [List.foldl_cons, step_some] at h
    rw [ff.lw]
    by_cases h1 : c.toNat < 32 ∨ 126 < c.toNat
    · rw [if_pos h1] at h
      rw [hd.fold_none r] at h
      cases h
    · rw [if_neg h1] at h
      by_cases h2 : c.toNat = 32
      · rw [if_pos h2] at h ⊢
        by_cases h3 : w = 0
        · rw [if_pos h3] at h
          rw [hd.fold_none r] at h
          cases h
        · rw [if_neg h3] at h
          exact lw_safe r 0 b w' h (Nat.zero_le _)
      · rw [if_neg h2] at h ⊢
        by_cases h3 : 200 ≤ w
        · rw [if_pos h3] at h
          rw [hd.fold_none r] at h
          cases h
        · rw [if_neg h3] at h
          have := lw_safe r (w + 1) (max b (w + 1)) w' h (by omega)
          omega
theorem lw_le {v : B} (h : hd.Safe v) : ff.lw 0 0 v ≤ 200 := by
  rcases h.2 with rfl | ⟨w, hw, _⟩
  · simp [ff.lw]
  · have := lw_safe v 0 0 w hw (Nat.zero_le _)
    omega
/-- A folded field is lines of a mail. -/
theorem mok_field {nm v : B} (hn : NmOK nm) (h40 : nm.length ≤ 40) (hv : hd.Safe v) : mok 0 (foldL nm v) = true := by
  obtain ⟨n1, n2⟩ := nm_sign hn
  have hx : cp (nm ++ [58] ++ foldGo true (nm.length + 1) (cutGo [] v)) := by
    rw [List.append_assoc]
    exact cp_app nm _ (fun c hc => ⟨by have := n2 c hc; omega, (n2 c hc).2.1⟩) (cp_app [58] _ (by intro b hb; rw [List.mem_singleton] at hb; subst hb; exact okc58) (cp_fold _ _ _ (words_okc hv)))
  have hl := ff.ll_field (nm := nm) (fun c hc e => by have := n2 c hc; rw [e] at this; exact absurd this.1 (by decide)) hv
  have h2 := lw_le hv
  unfold ln.ll at hl
  unfold foldL at hl ⊢
  refine mok_cp _ _ 0 0 (Nat.le_refl _) hx ?_
  rw [show ([13, 10] : B) = nl from rfl, llw_nl _ _ 0 0 (Nat.le_refl _) hx] at hl
  omega
theorem mok_app : ∀ (n : Nat) (l : B) (w : Nat) (y : B), l.length ≤ n → mok w l = true → mok w (l ++ y) = mok 0 y
  | n, [], w, y, _, h => by
    rw [mok] at h
    rw [List.nil_append, show w = 0 from by simpa using h]
  | n, [c], w, y, _, h => by rw [mok] at h; cases h
  | 0, a :: b :: r, w, y, hn, _ => by simp at hn
  | n + 1, a :: b :: r, w, y, hn, h => by
    simp only [List.length_cons] at hn
    rw [mok] at h
    show mok w (a :: b :: (r ++ y)) = _
    rw [mok]
    split
    · rename_i hc
      rw [if_pos hc] at h
      exact mok_app n r 0 y (by omega) h
    · rename_i hc
      rw [if_neg hc] at h
      split
      · rename_i hb
        rw [if_pos hb] at h
        cases h
      · rename_i hb
        rw [if_neg hb] at h
        exact mok_app n (b :: r) (w + 1) y (by simp only [List.length_cons]; omega) h
theorem mok_foldM : ∀ (fs : List (B × B)) (y : B), (∀ x ∈ fs, NmOK x.1 ∧ x.1.length ≤ 40 ∧ hd.Safe x.2) → mok 0 (foldM fs ++ y) = mok 0 y
  | [], y, _ => rfl
  | x :: fs, y, h => by
    obtain ⟨h1, h2, h3⟩ := h x List.mem_cons_self
    have e : foldM (x :: fs) ++ y = foldL x.1 x.2 ++ (foldM fs ++ y) := by simp [foldM]
    rw [e, mok_app _ _ 0 _ (Nat.le_refl _) (mok_field h1 h2 h3)]
    exact mok_foldM fs y fun z hz => h z (List.mem_cons_of_mem _ hz)
/-- A mail of folded fields and quoted text is a mail; its fields are those, its body is that text. -/
theorem isMail_fold (fs : List (B × B)) (l : B) (h : ∀ x ∈ fs, NmOK x.1 ∧ x.1.length ≤ 40 ∧ hd.Safe x.2) (hl : fs.length ≤ 40) : IsMail (foldM fs ++ nl ++ (qu.qt 0 l ++ nl)) fs (qu.qt 0 l ++ nl) := by
  refine ⟨?_, par_fold fs _ (fun x hx => ⟨(h x hx).1, (h x hx).2.2⟩), hl⟩
  rw [List.append_assoc, mok_foldM fs _ h]
  show mok 0 (13 :: 10 :: (qu.qt 0 l ++ nl)) = true
  rw [mok_end]
  refine mok_cp _ _ 0 0 (Nat.le_refl _) (cp_good _ _ (Nat.le_refl _) (qu.good_qt l)) ?_
  have := qu.ll_qt l
  omega
end Go.Proofs.YtbokolpjdaamiaaGreatDoor.ml

namespace Go.Proofs.YtbokolpjdaamiaaGreatDoor.ut
open Go.RowKit

theorem ret_bool {a b : Bool} (h : a = b) : Ending.returned (.bool a) = .returned (.bool b) := by rw [h]
theorem ret_int {k : IntKind} {a b : Int} (h : a = b) : Ending.returned (.int k a) = .returned (.int k b) := by rw [h]

def inB (n a b : Int) : Bool := decide (a ≤ n ∧ n ≤ b)
def scB (n : Int) : Bool := inB n 0 55295 || inB n 57344 1114111
def rsz (n : Int) : Int := if scB n = true then (if n < 128 then 1 else if n < 2048 then 2 else if n < 65536 then 3 else 4) else 0

/-- The model's decoding, its bytes as numbers. -/
def decF (n k b0 b1 b2 b3 : Nat) : Nat × Nat :=
  if b0 < 128 then (b0, 1)
  else if b0 / 32 == 6 && (decide (k + 1 < n) && b1 / 64 == 2) then
    if (b0 % 32) * 64 + b1 % 64 ≥ 128 then ((b0 % 32) * 64 + b1 % 64, 2) else (65533, 1)
  else if b0 / 16 == 14 && (decide (k + 1 < n) && b1 / 64 == 2) && (decide (k + 2 < n) && b2 / 64 == 2) then
    if decide ((b0 % 16) * 4096 + (b1 % 64) * 64 + b2 % 64 ≥ 2048) && Utf8.valid (((b0 % 16) * 4096 + (b1 % 64) * 64 + b2 % 64 : Nat) : Int) then ((b0 % 16) * 4096 + (b1 % 64) * 64 + b2 % 64, 3) else (65533, 1)
  else if b0 / 8 == 30 && (decide (k + 1 < n) && b1 / 64 == 2) && (decide (k + 2 < n) && b2 / 64 == 2) && (decide (k + 3 < n) && b3 / 64 == 2) then
    if decide ((b0 % 8) * 262144 + (b1 % 64) * 4096 + (b2 % 64) * 64 + b3 % 64 ≥ 65536) && Utf8.valid (((b0 % 8) * 262144 + (b1 % 64) * 4096 + (b2 % 64) * 64 + b3 % 64 : Nat) : Int) then ((b0 % 8) * 262144 + (b1 % 64) * 4096 + (b2 % 64) * 64 + b3 % 64, 4) else (65533, 1)
  else (65533, 1)

theorem dec_eq (s : ByteArray) (k : Nat) : Utf8.decode s k = decF s.size k (s.get! k).toNat (s.get! (k + 1)).toNat (s.get! (k + 2)).toNat (s.get! (k + 3)).toNat := rfl

theorem get_byte (s : ByteArray) (i : Nat) (h : i < s.size) : s.get! i = s[i]'h := by
  simp [ByteArray.get!, getElem!_pos, h]
  rfl

/-- No rune begins at this place. -/
def badAt (s : ByteArray) (k : Nat) : Prop := Utf8.decode s k = (65533, 1)
/-- What the specification's reader answers at a place. -/
def RuneRet (s : ByteArray) (k : Nat) (e : Ending) : Prop :=
  (badAt s k ∧ e = .returned (.tuple #[.int .i64 0, .int .i64 1, .bool false])) ∨
  (¬ badAt s k ∧ e = .returned (.tuple #[.int .i64 (Utf8.decode s k).1, .int .i64 (Utf8.decode s k).2, .bool true]))

theorem F1 {n k b0 b1 b2 b3 : Nat} (h : b0 < 128) : decF n k b0 b1 b2 b3 = (b0, 1) := by simp [decF, h]
theorem F2 {n k b0 b1 b2 b3 : Nat} (h : 194 ≤ b0) (h' : b0 ≤ 223) (hn : k + 1 < n) (c : 128 ≤ b1) (c' : b1 ≤ 191) :
    decF n k b0 b1 b2 b3 = ((b0 - 192) * 64 + (b1 - 128), 2) := by
  have e0 : b0 / 32 = 6 := by omega
  have e1 : b1 / 64 = 2 := by omega
  have e2 : (b0 % 32) * 64 + b1 % 64 ≥ 128 := by omega
  have e3 : ¬ b0 < 128 := by omega
  simp only [decF, e0, e1, e2, e3, hn]
  simp
  omega
theorem F3 {n k b0 b1 b2 b3 : Nat} (h : 224 ≤ b0) (h' : b0 ≤ 239) (hn : k + 2 < n) (c : 128 ≤ b1) (c' : b1 ≤ 191) (d : 128 ≤ b2) (d' : b2 ≤ 191) :
    decF n k b0 b1 b2 b3 = if 2048 ≤ (b0 - 224) * 4096 + (b1 - 128) * 64 + (b2 - 128) ∧ ((b0 - 224) * 4096 + (b1 - 128) * 64 + (b2 - 128) < 55296 ∨ 57344 ≤ (b0 - 224) * 4096 + (b1 - 128) * 64 + (b2 - 128)) then ((b0 - 224) * 4096 + (b1 - 128) * 64 + (b2 - 128), 3) else (65533, 1) := by
  have e0 : ¬ b0 / 32 = 6 := by omega
  have f0 : b0 / 16 = 14 := by omega
  have e1 : b1 / 64 = 2 := by omega
  have e2 : b2 / 64 = 2 := by omega
  have e3 : ¬ b0 < 128 := by omega
  have hn1 : k + 1 < n := by omega
  have ec : (b0 % 16) * 4096 + (b1 % 64) * 64 + b2 % 64 = (b0 - 224) * 4096 + (b1 - 128) * 64 + (b2 - 128) := by omega
  have hc : (b0 - 224) * 4096 + (b1 - 128) * 64 + (b2 - 128) < 65536 := by omega
  unfold decF
  rw [if_neg e3, if_neg (by simp [e0]), if_pos (by simp [f0, e1, e2, hn, hn1]), ec]
  generalize (b0 - 224) * 4096 + (b1 - 128) * 64 + (b2 - 128) = m at hc
  have hiff : (decide (m ≥ 2048) && Utf8.valid (m : Int)) = true ↔ 2048 ≤ m ∧ (m < 55296 ∨ 57344 ≤ m) := by simp [Utf8.valid]; omega
  by_cases g : 2048 ≤ m ∧ (m < 55296 ∨ 57344 ≤ m)
  · rw [if_pos g, if_pos (hiff.2 g)]
  · rw [if_neg g, if_neg (fun x => g (hiff.1 x))]
theorem F4 {n k b0 b1 b2 b3 : Nat} (h : 240 ≤ b0) (h' : b0 ≤ 244) (hn : k + 3 < n) (c : 128 ≤ b1) (c' : b1 ≤ 191) (d : 128 ≤ b2) (d' : b2 ≤ 191) (f : 128 ≤ b3) (f' : b3 ≤ 191) :
    decF n k b0 b1 b2 b3 = if 65536 ≤ (b0 - 240) * 262144 + (b1 - 128) * 4096 + (b2 - 128) * 64 + (b3 - 128) ∧ (b0 - 240) * 262144 + (b1 - 128) * 4096 + (b2 - 128) * 64 + (b3 - 128) ≤ 1114111 then ((b0 - 240) * 262144 + (b1 - 128) * 4096 + (b2 - 128) * 64 + (b3 - 128), 4) else (65533, 1) := by
  have e0 : ¬ b0 / 32 = 6 := by omega
  have f0 : ¬ b0 / 16 = 14 := by omega
  have g0 : b0 / 8 = 30 := by omega
  have e1 : b1 / 64 = 2 := by omega
  have e2 : b2 / 64 = 2 := by omega
  have e4 : b3 / 64 = 2 := by omega
  have e3 : ¬ b0 < 128 := by omega
  have hn1 : k + 1 < n := by omega
  have hn2 : k + 2 < n := by omega
  have ec : (b0 % 8) * 262144 + (b1 % 64) * 4096 + (b2 % 64) * 64 + b3 % 64 = (b0 - 240) * 262144 + (b1 - 128) * 4096 + (b2 - 128) * 64 + (b3 - 128) := by omega
  unfold decF
  rw [if_neg e3, if_neg (by simp [e0]), if_neg (by simp [f0]), if_pos (by simp [g0, e1, e2, e4, hn, hn1, hn2]), ec]
  generalize (b0 - 240) * 262144 + (b1 - 128) * 4096 + (b2 - 128) * 64 + (b3 - 128) = m
  have hiff : (decide (m ≥ 65536) && Utf8.valid (m : Int)) = true ↔ 65536 ≤ m ∧ m ≤ 1114111 := by simp [Utf8.valid]; omega
  by_cases g : 65536 ≤ m ∧ m ≤ 1114111
  · rw [if_pos g, if_pos (hiff.2 g)]
  · rw [if_neg g, if_neg (fun x => g (hiff.1 x))]
theorem Fbad {n k b0 b1 b2 b3 : Nat} (h0 : 128 ≤ b0)
    (h : b0 < 194 ∨ 245 ≤ b0 ∨ n ≤ k + 1 ∨ b1 < 128 ∨ 192 ≤ b1 ∨ (224 ≤ b0 ∧ (n ≤ k + 2 ∨ b2 < 128 ∨ 192 ≤ b2)) ∨ (240 ≤ b0 ∧ (n ≤ k + 3 ∨ b3 < 128 ∨ 192 ≤ b3))) :
    decF n k b0 b1 b2 b3 = (65533, 1) := by
  have e3 : ¬ b0 < 128 := by omega
  unfold decF
  rw [if_neg e3]
  split
  · rename_i g
    simp at g
    rw [if_neg (by omega)]
  split
  · rename_i g
    simp at g
    exfalso
    omega
  split
  · rename_i g
    simp at g
    rw [if_neg]
    simp [Utf8.valid]
    omega
  · rfl

section
variable {s : ByteArray} {k : Nat}
theorem r_ok1 (hk : k < s.size) (h : ((s[k]'hk).toNat : Int) < 128) : RuneRet s k (.returned (.tuple #[.int .i64 ((s[k]'hk).toNat : Int), .int .i64 1, .bool true])) := by
  have e : Utf8.decode s k = ((s[k]'hk).toNat, 1) := by rw [dec_eq, get_byte s k hk, F1 (by omega)]
  refine .inr ⟨fun hb => ?_, by rw [e]; rfl⟩
  rw [badAt, e] at hb
  simp at hb
  omega
theorem r_ok2 (hk : k < s.size) (h1 : k + 1 < s.size) (h : 194 ≤ ((s[k]'hk).toNat : Int)) (h' : ((s[k]'hk).toNat : Int) ≤ 223)
    (c : 128 ≤ ((s[k + 1]'h1).toNat : Int)) (c' : ((s[k + 1]'h1).toNat : Int) ≤ 191) :
    RuneRet s k (.returned (.tuple #[.int .i64 ((((s[k]'hk).toNat : Int) - 192) * 64 + ((s[k + 1]'h1).toNat : Int) - 128), .int .i64 2, .bool true])) := by
  have e : Utf8.decode s k = (((s[k]'hk).toNat - 192) * 64 + ((s[k + 1]'h1).toNat - 128), 2) := by rw [dec_eq, get_byte s k hk, get_byte s (k + 1) h1, F2 (by omega) (by omega) h1 (by omega) (by omega)]
  refine .inr ⟨fun hb => ?_, ?_⟩
  · rw [badAt, e] at hb
    simp at hb
  · rw [e]
    have e2 : (((s[k]'hk).toNat : Int) - 192) * 64 + ((s[k + 1]'h1).toNat : Int) - 128 = ((((s[k]'hk).toNat - 192) * 64 + ((s[k + 1]'h1).toNat - 128) : Nat) : Int) := by omega
    rw [e2]
    rfl
theorem r_ok3 (hk : k < s.size) (h1 : k + 1 < s.size) (h2 : k + 2 < s.size) (h : 224 ≤ ((s[k]'hk).toNat : Int)) (h' : ((s[k]'hk).toNat : Int) ≤ 239)
    (c : 128 ≤ ((s[k + 1]'h1).toNat : Int)) (c' : ((s[k + 1]'h1).toNat : Int) ≤ 191) (d : 128 ≤ ((s[k + 2]'h2).toNat : Int)) (d' : ((s[k + 2]'h2).toNat : Int) ≤ 191)
    (g : 2048 ≤ ((((s[k]'hk).toNat : Int) - 224) * 64 + ((s[k + 1]'h1).toNat : Int) - 128) * 64 + ((s[k + 2]'h2).toNat : Int) - 128)
    (g' : ((((s[k]'hk).toNat : Int) - 224) * 64 + ((s[k + 1]'h1).toNat : Int) - 128) * 64 + ((s[k + 2]'h2).toNat : Int) - 128 ≤ 55295 ∨ 57344 ≤ ((((s[k]'hk).toNat : Int) - 224) * 64 + ((s[k + 1]'h1).toNat : Int) - 128) * 64 + ((s[k + 2]'h2).toNat : Int) - 128) :
    RuneRet s k (.returned (.tuple #[.int .i64 (((((s[k]'hk).toNat : Int) - 224) * 64 + ((s[k + 1]'h1).toNat : Int) - 128) * 64 + ((s[k + 2]'h2).toNat : Int) - 128), .int .i64 3, .bool true])) := by
  have e : Utf8.decode s k = (((s[k]'hk).toNat - 224) * 4096 + ((s[k + 1]'h1).toNat - 128) * 64 + ((s[k + 2]'h2).toNat - 128), 3) := by
    rw [dec_eq, get_byte s k hk, get_byte s (k + 1) h1, get_byte s (k + 2) h2, F3 (by omega) (by omega) h2 (by omega) (by omega) (by omega) (by omega), if_pos (by omega)]
  refine .inr ⟨fun hb => ?_, ?_⟩
  · rw [badAt, e] at hb
    simp at hb
  · rw [e]
    have e2 : ((((s[k]'hk).toNat : Int) - 224) * 64 + ((s[k + 1]'h1).toNat : Int) - 128) * 64 + ((s[k + 2]'h2).toNat : Int) - 128 = ((((s[k]'hk).toNat - 224) * 4096 + ((s[k + 1]'h1).toNat - 128) * 64 + ((s[k + 2]'h2).toNat - 128) : Nat) : Int) := by omega
    rw [e2]
    rfl
theorem r_ok4 (hk : k < s.size) (h1 : k + 1 < s.size) (h2 : k + 2 < s.size) (h3 : k + 3 < s.size) (h : 240 ≤ ((s[k]'hk).toNat : Int)) (h' : ((s[k]'hk).toNat : Int) ≤ 244)
    (c : 128 ≤ ((s[k + 1]'h1).toNat : Int)) (c' : ((s[k + 1]'h1).toNat : Int) ≤ 191) (d : 128 ≤ ((s[k + 2]'h2).toNat : Int)) (d' : ((s[k + 2]'h2).toNat : Int) ≤ 191)
    (f : 128 ≤ ((s[k + 3]'h3).toNat : Int)) (f' : ((s[k + 3]'h3).toNat : Int) ≤ 191)
    (g : 65536 ≤ (((((s[k]'hk).toNat : Int) - 240) * 64 + ((s[k + 1]'h1).toNat : Int) - 128) * 64 + ((s[k + 2]'h2).toNat : Int) - 128) * 64 + ((s[k + 3]'h3).toNat : Int) - 128)
    (g' : (((((s[k]'hk).toNat : Int) - 240) * 64 + ((s[k + 1]'h1).toNat : Int) - 128) * 64 + ((s[k + 2]'h2).toNat : Int) - 128) * 64 + ((s[k + 3]'h3).toNat : Int) - 128 ≤ 1114111) :
    RuneRet s k (.returned (.tuple #[.int .i64 ((((((s[k]'hk).toNat : Int) - 240) * 64 + ((s[k + 1]'h1).toNat : Int) - 128) * 64 + ((s[k + 2]'h2).toNat : Int) - 128) * 64 + ((s[k + 3]'h3).toNat : Int) - 128), .int .i64 4, .bool true])) := by
  have e : Utf8.decode s k = (((s[k]'hk).toNat - 240) * 262144 + ((s[k + 1]'h1).toNat - 128) * 4096 + ((s[k + 2]'h2).toNat - 128) * 64 + ((s[k + 3]'h3).toNat - 128), 4) := by
    rw [dec_eq, get_byte s k hk, get_byte s (k + 1) h1, get_byte s (k + 2) h2, get_byte s (k + 3) h3, F4 (by omega) (by omega) h3 (by omega) (by omega) (by omega) (by omega) (by omega) (by omega), if_pos (by omega)]
  refine .inr ⟨fun hb => ?_, ?_⟩
  · rw [badAt, e] at hb
    simp at hb
  · rw [e]
    have e2 : (((((s[k]'hk).toNat : Int) - 240) * 64 + ((s[k + 1]'h1).toNat : Int) - 128) * 64 + ((s[k + 2]'h2).toNat : Int) - 128) * 64 + ((s[k + 3]'h3).toNat : Int) - 128 = ((((s[k]'hk).toNat - 240) * 262144 + ((s[k + 1]'h1).toNat - 128) * 4096 + ((s[k + 2]'h2).toNat - 128) * 64 + ((s[k + 3]'h3).toNat - 128) : Nat) : Int) := by omega
    rw [e2]
    rfl
def badRet : Ending := .returned (.tuple #[.int .i64 0, .int .i64 1, .bool false])
theorem r_bad (h : badAt s k) : RuneRet s k (.returned (.tuple #[.int .i64 0, .int .i64 1, .bool false])) := .inl ⟨h, rfl⟩
theorem b_lead (hk : k < s.size) (h0 : 128 ≤ ((s[k]'hk).toNat : Int)) (h : ((s[k]'hk).toNat : Int) < 194 ∨ 244 < ((s[k]'hk).toNat : Int)) : badAt s k := by
  rw [badAt, dec_eq, get_byte s k hk, Fbad (by omega) (by omega)]
theorem b_short2 (hk : k < s.size) (h0 : 128 ≤ ((s[k]'hk).toNat : Int)) (h : s.size < k + 2) : badAt s k := by
  rw [badAt, dec_eq, get_byte s k hk, Fbad (by omega) (by omega)]
theorem b_short3 (hk : k < s.size) (h0 : 224 ≤ ((s[k]'hk).toNat : Int)) (h : s.size < k + 3) : badAt s k := by
  rw [badAt, dec_eq, get_byte s k hk, Fbad (by omega) (by omega)]
theorem b_short4 (hk : k < s.size) (h0 : 240 ≤ ((s[k]'hk).toNat : Int)) (h : s.size < k + 4) : badAt s k := by
  rw [badAt, dec_eq, get_byte s k hk, Fbad (by omega) (by omega)]
theorem b_c1 (hk : k < s.size) (h1 : k + 1 < s.size) (h0 : 128 ≤ ((s[k]'hk).toNat : Int)) (h : ((s[k + 1]'h1).toNat : Int) < 128 ∨ 191 < ((s[k + 1]'h1).toNat : Int)) : badAt s k := by
  rw [badAt, dec_eq, get_byte s k hk, get_byte s (k + 1) h1, Fbad (by omega) (by omega)]
theorem b_c2 (hk : k < s.size) (h2 : k + 2 < s.size) (h0 : 224 ≤ ((s[k]'hk).toNat : Int)) (h : ((s[k + 2]'h2).toNat : Int) < 128 ∨ 191 < ((s[k + 2]'h2).toNat : Int)) : badAt s k := by
  rw [badAt, dec_eq, get_byte s k hk, get_byte s (k + 2) h2, Fbad (by omega) (by omega)]
theorem b_c3 (hk : k < s.size) (h3 : k + 3 < s.size) (h0 : 240 ≤ ((s[k]'hk).toNat : Int)) (h : ((s[k + 3]'h3).toNat : Int) < 128 ∨ 191 < ((s[k + 3]'h3).toNat : Int)) : badAt s k := by
  rw [badAt, dec_eq, get_byte s k hk, get_byte s (k + 3) h3, Fbad (by omega) (by omega)]
theorem b_size3 (hk : k < s.size) (h1 : k + 1 < s.size) (h2 : k + 2 < s.size) (h : 224 ≤ ((s[k]'hk).toNat : Int)) (h' : ((s[k]'hk).toNat : Int) ≤ 239)
    (c : 128 ≤ ((s[k + 1]'h1).toNat : Int)) (c' : ((s[k + 1]'h1).toNat : Int) ≤ 191) (d : 128 ≤ ((s[k + 2]'h2).toNat : Int)) (d' : ((s[k + 2]'h2).toNat : Int) ≤ 191)
    (g : ((((s[k]'hk).toNat : Int) - 224) * 64 + ((s[k + 1]'h1).toNat : Int) - 128) * 64 + ((s[k + 2]'h2).toNat : Int) - 128 < 2048 ∨ (55295 < ((((s[k]'hk).toNat : Int) - 224) * 64 + ((s[k + 1]'h1).toNat : Int) - 128) * 64 + ((s[k + 2]'h2).toNat : Int) - 128 ∧ ((((s[k]'hk).toNat : Int) - 224) * 64 + ((s[k + 1]'h1).toNat : Int) - 128) * 64 + ((s[k + 2]'h2).toNat : Int) - 128 < 57344)) : badAt s k := by
  rw [badAt, dec_eq, get_byte s k hk, get_byte s (k + 1) h1, get_byte s (k + 2) h2, F3 (by omega) (by omega) h2 (by omega) (by omega) (by omega) (by omega), if_neg (by omega)]
theorem b_size4 (hk : k < s.size) (h1 : k + 1 < s.size) (h2 : k + 2 < s.size) (h3 : k + 3 < s.size) (h : 240 ≤ ((s[k]'hk).toNat : Int)) (h' : ((s[k]'hk).toNat : Int) ≤ 244)
    (c : 128 ≤ ((s[k + 1]'h1).toNat : Int)) (c' : ((s[k + 1]'h1).toNat : Int) ≤ 191) (d : 128 ≤ ((s[k + 2]'h2).toNat : Int)) (d' : ((s[k + 2]'h2).toNat : Int) ≤ 191)
    (f : 128 ≤ ((s[k + 3]'h3).toNat : Int)) (f' : ((s[k + 3]'h3).toNat : Int) ≤ 191)
    (g : (((((s[k]'hk).toNat : Int) - 240) * 64 + ((s[k + 1]'h1).toNat : Int) - 128) * 64 + ((s[k + 2]'h2).toNat : Int) - 128) * 64 + ((s[k + 3]'h3).toNat : Int) - 128 < 65536 ∨ 1114111 < (((((s[k]'hk).toNat : Int) - 240) * 64 + ((s[k + 1]'h1).toNat : Int) - 128) * 64 + ((s[k + 2]'h2).toNat : Int) - 128) * 64 + ((s[k + 3]'h3).toNat : Int) - 128) : badAt s k := by
  rw [badAt, dec_eq, get_byte s k hk, get_byte s (k + 1) h1, get_byte s (k + 2) h2, get_byte s (k + 3) h3, F4 (by omega) (by omega) h3 (by omega) (by omega) (by omega) (by omega) (by omega) (by omega), if_neg (by omega)]
end
end Go.Proofs.YtbokolpjdaamiaaGreatDoor.ut
