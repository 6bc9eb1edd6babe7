/-
  Plain facts on the mail of an entry: each value is safe in its field; the text that both functions put together.
  Plain facts on the mail of an entry: every field is one.
  A law on regions that draw their order: each operation brings its own fact, which abides what the others do; whatever the order, all facts hold behind the last.
  Contracts of both EncodeWords functions.
-/
import Derived.Test.YtbanjkkbobedhaaDoorPkao
import Derived.Test.YtbanjkkbobedhaaDoorPkaq
import Derived.Test.YtbanjkkbobedhaaDoorPkar
import Derived.Test.YtbanjkkbobedhaaDoorPkau
import Derived.Test.YtbanjkkbobedhaaDoorPkav
import Derived.Test.YtbanjkkbobedhaaDoorPkax
import Derived.Lib.ReplaceLaws
import Derived.Lib.IndexLaws
import Derived.Orders
import Derived.RegionTactic
import Derived.Test.YtbanjkkbobedhaaDoorPkan

namespace Go.Proofs.YtbanjkkbobedhaaDoor.rn
open Go.RowKit
set_option linter.unusedVariables false

abbrev B := List UInt8
theorem right_of_good {s : ByteArray} (h : xm.GoodTo s s.size) : ut.Right s ∧ ∃ n, ut.pos s n = s.size := by
  obtain ⟨n, h1, _, h3, _⟩ := h
  refine ⟨fun m hm hb => ?_, n, h1.symm⟩
  have hmn : m < n := by
    rcases Nat.lt_or_ge m n with h | h
    · exact h
    · have := ut.pos_mono s n (m - n)
      rw [show n + (m - n) = m from by omega] at this
      omega
  exact h3 m hmn (.inl hb)
theorem flat_of {s : ByteArray} (hr : ut.Right s) {n : Nat} (hn : ut.pos s n = s.size) : s = ut.mk ((ut.runesL s n).flatMap ut.encB) := by
  rw [← ut.fix_flat s n hn, ut.fix_right s hr n (by omega), hn]
  apply ByteArray.ext
  rw [← Array.toList_inj]
  show s.data.toList = s.data.toList.take s.size
  rw [List.take_of_length_le (by rw [← Lib.size_eq]; exact Nat.le_refl _)]
/-- What is encoded of a value of an entry is safe. -/
theorem enc_ok {s r : ByteArray} (h : en.fld s = true) (hr : hd.EncIs s r) : hd.Safe r.data.toList := by
  obtain ⟨h1, h2, _⟩ := en.fld_cases h
  obtain ⟨hR, n, hn⟩ := right_of_good h2
  have hf := flat_of hR hn
  have hl : ((ut.runesL s n).flatMap ut.encB).length ≤ 900 := by
    have : s.size = ((ut.runesL s n).flatMap ut.encB).length := by
      have := congrArg ByteArray.size hf
      rwa [ut.mk_size] at this
    omega
  rw [hf] at hr
  exact (hd.round_trip (ut.runesL_sc s n) hl hr).1
theorem fld_right {s : ByteArray} (h : en.fld s = true) : ut.Right s ∧ s.size ≤ 200 := ⟨(right_of_good (en.fld_cases h).2.1).1, (en.fld_cases h).1⟩
/-- Where a text is cut for its next word: the first of 47 places that is one. -/
def cutB (t : ByteArray) (j : Nat) : Bool := decide (ut.pos t j ≤ t.size ∧ ut.pos t j ≤ 45 ∧ (45 < ut.pos t (j + 1) ∨ t.size ≤ ut.pos t j))
def cutF (t : ByteArray) : Nat → Nat
  | 0 => 0
  | n + 1 => if cutB t n = true then ut.pos t n else cutF t n
theorem cutB_at {t : ByteArray} {j : Nat} (h : cutB t j = true) : ut.CutAt t 45 (ut.pos t j) := by
  have h := of_decide_eq_true h
  exact ⟨j, rfl, h.1, by omega, by rcases h.2.2 with h | h; exact .inl (by omega); exact .inr h⟩
theorem cut_early (t : ByteArray) : ∀ j, cutB t j = true → ∃ i, i < 47 ∧ cutB t i = true
  | j, h => by
    by_cases hj : j < 47
    · exact ⟨j, hj, h⟩
    · have hp := of_decide_eq_true h
      by_cases hx : ∃ i, i < j ∧ t.size ≤ ut.pos t i
      · obtain ⟨i, hi, hs⟩ := hx
        have hm := ut.pos_mono t i (j - i)
        rw [show i + (j - i) = j from by omega] at hm
        exact cut_early t i (decide_eq_true ⟨by omega, by omega, .inr hs⟩)
      · exfalso
        have hg : ∀ i, i < j → i ≤ ut.pos t i := by
          intro i
          induction i with
          | zero => intro _; omega
          | succ i ih =>
            intro hi
            have h1 := ih (by omega)
            have h2 := ut.pos_le t i (by
              rcases Nat.lt_or_ge (ut.pos t i) t.size with h | h
              · exact h
              · exact absurd ⟨i, by omega, h⟩ hx)
            omega
        have h46 := hg 46 (by omega)
        have hm := ut.pos_mono t 46 (j - 46)
        rw [show 46 + (j - 46) = j from by omega] at hm
        omega
theorem cutF_is {t : ByteArray} {k : Nat} (h : ut.CutAt t 45 k) : cutF t 47 = k := by
  have hex : ∃ i, i < 47 ∧ cutB t i = true := by
    obtain ⟨j, rfl, h1, h2, h3⟩ := h
    exact cut_early t j (decide_eq_true ⟨h1, by omega, by rcases h3 with h3 | h3; exact .inl (by omega); exact .inr h3⟩)
  have hF : ∀ n, (∃ i, i < n ∧ cutB t i = true) → ut.CutAt t 45 (cutF t n) := by
    intro n
    induction n with
    | zero => rintro ⟨i, hi, _⟩; omega
    | succ n ih =>
      rintro ⟨i, hi, hb⟩
      rw [cutF]
      split
      · rename_i hn; exact cutB_at hn
      · rename_i hn
        refine ih ⟨i, ?_, hb⟩
        rcases Nat.lt_or_eq_of_le (Nat.le_of_lt_succ hi) with h | h
        · exact h
        · subst h; exact absurd hb hn
  exact ut.cut_one (hF 47 hex) h
/-- The words of a text, one behind another. -/
def encG : Nat → ByteArray → B → B
  | 0, t, out => out
  | n + 1, t, out => if t.size = 0 then out else encG n (t.extract (cutF t 47) t.size) (out ++ hd.sep out ++ hd.wordL (t.extract 0 (cutF t 47)).data.toList)
theorem encG_is : ∀ (n m : Nat) (t : ByteArray) (out r : B), t.size ≤ m → hd.Ends n t out r → r = encG m t out
  | 0, m, t, out, r, hm, h => by
    cases m with
    | zero => exact h.2
    | succ m => rw [encG, if_pos h.1]; exact h.2
  | n + 1, m, t, out, r, hm, h => by
    rcases h with h | ⟨h0, k, hk, h⟩
    · cases m with
      | zero => exact h.2
      | succ m => rw [encG, if_pos h.1]; exact h.2
    · cases m with
      | zero => omega
      | succ m =>
        rw [encG, if_neg h0, cutF_is hk]
        have hp := hd.cut_pos h0 hk
        refine encG_is n m _ _ r ?_ h
        rw [ByteArray.size_extract]
        omega
def plainB (l : B) : Bool := decide (l.length ≤ 2000) && (l.isEmpty || (match hd.wid l with | some w => decide (0 < w) | none => false)) && !(Lib.contains l hd.sign)
theorem plainB_iff (l : B) : plainB l = true ↔ hd.Plain l := by
  unfold plainB hd.Plain hd.Safe
  cases hw : hd.wid l with
  | none => simp [List.isEmpty_iff]
  | some w => simp [List.isEmpty_iff]
/-- A value encoded. -/
def EN (s : ByteArray) : ByteArray := if plainB s.data.toList = true then s else ⟨(encG s.size s []).toArray⟩
theorem en_is {s r : ByteArray} (h : hd.EncIs s r) : r = EN s := by
  unfold EN
  rcases h with ⟨hp, rfl⟩ | ⟨hp, n, h⟩
  · rw [if_pos ((plainB_iff _).2 hp)]
  · rw [if_neg (fun e => hp ((plainB_iff _).1 e))]
    have := encG_is n s.size s [] _ (Nat.le_refl _) h
    exact ut.bytes_ext (by rw [this])
/-- A field folded. -/
def FO (nm s : ByteArray) : ByteArray := ⟨(hd.foldL nm.data.toList s.data.toList).toArray⟩
theorem fo_is {nm s r : ByteArray} (h : r.data.toList = hd.foldL nm.data.toList s.data.toList) : r = FO nm s := ByteArray.ext (Array.toList_inj.1 h)

theorem safe_signs {l : B} (h : hd.signs l) (h0 : l ≠ []) (hl : l.length ≤ 200) : hd.Safe l := by
  refine ⟨by omega, .inr ⟨0 + l.length, hd.wid_word l 0 h (by omega), ?_⟩⟩
  have := List.length_pos_iff.2 h0
  omega
theorem signs_app {a b : B} (ha : hd.signs a) (hb : hd.signs b) : hd.signs (a ++ b) := fun c hc => by
  rcases List.mem_append.1 hc with h | h
  · exact ha c h
  · exact hb c h
theorem dec_signs : ∀ (k n : Nat), n < 10 ^ (k + 1) → hd.signs (Lib.decDigits n)
  | 0, n, h => by
    rw [Lib.decDigits, dif_pos (by omega)]
    intro c hc
    rw [List.mem_singleton] at hc
    subst hc
    rw [UInt8.toNat_ofNat']
    omega
  | k + 1, n, h => by
    rw [Lib.decDigits]
    by_cases h9 : n < 10
    · rw [dif_pos h9]
      intro c hc
      rw [List.mem_singleton] at hc
      subst hc
      rw [UInt8.toNat_ofNat']
      omega
    · rw [dif_neg h9]
      refine signs_app (dec_signs k (n / 10) (by rw [Nat.pow_succ] at h; omega)) fun c hc => ?_
      rw [List.mem_singleton] at hc
      subst hc
      rw [UInt8.toNat_ofNat']
      omega
theorem name_signs {s : ByteArray} (h : nm.IsName s) : hd.signs s.data.toList ∧ s.size ≤ 40 := by
  obtain ⟨_, h2, hg⟩ := h
  refine ⟨fun c hc => ?_, h2⟩
  obtain ⟨j, hj, e⟩ := List.mem_iff_getElem.1 hc
  obtain ⟨hj', hx⟩ := hg j (by rw [Lib.size_eq]; exact hj)
  have e' : s[j] = c := e
  rw [e'] at hx
  have : (nm.letB (c.toNat : Int) = true) ∨ nm.digB (c.toNat : Int) = true := hx.imp id (·.2)
  simp only [nm.letB, nm.digB, decide_eq_true_iff] at this
  omega
theorem dg_sign {z : Int} (h0 : 0 ≤ z) (h1 : z ≤ 9) : 33 ≤ (dx.dg z).toNat ∧ (dx.dg z).toNat ≤ 126 := by
  have := dx.dg_nat h0 h1
  omega
theorem two_signs {d : Int} (h0 : 0 ≤ d) (h1 : d ≤ 99) : hd.signs (dx.two d) := by
  intro c hc
  simp only [dx.two, List.mem_cons, List.mem_nil_iff, or_false] at hc
  rcases hc with rfl | rfl
  · exact dg_sign (by omega) (by omega)
  · exact dg_sign (by omega) (by omega)
theorem four_signs {y : Int} (h0 : 0 ≤ y) (h1 : y ≤ 9999) : hd.signs (dx.four y) := by
  intro c hc
  simp only [dx.four, List.mem_cons, List.mem_nil_iff, or_false] at hc
  rcases hc with rfl | rfl | rfl | rfl <;> exact dg_sign (by omega) (by omega)
theorem colon_signs : hd.signs [58] := by intro c hc; simp at hc; subst hc; decide
theorem wkn_signs : ∀ a : Fin 7, hd.signs (dx.wkn a.val ++ [44]) := (show ∀ a : Fin 7, ∀ b ∈ (dx.wkn a.val ++ [44]), 33 ≤ b.toNat ∧ b.toNat ≤ 126 by decide +kernel)
theorem mtn_signs : ∀ m : Fin 13, m.val ≠ 0 → hd.signs (dx.mtn m.val) ∧ dx.mtn m.val ≠ [] ∧ (dx.mtn m.val).length ≤ 200 := (show ∀ m : Fin 13, m.val ≠ 0 → (∀ b ∈ dx.mtn m.val, 33 ≤ b.toNat ∧ b.toNat ≤ 126) ∧ dx.mtn m.val ≠ [] ∧ (dx.mtn m.val).length ≤ 200 by decide +kernel)
theorem wkn_len : ∀ a : Fin 7, dx.wkn a.val ++ [44] ≠ [] ∧ (dx.wkn a.val ++ [44]).length ≤ 200 := by decide +kernel
/-- A date's text is safe. -/
theorem date_safe (n : Int) (n0 : 0 ≤ n) (n1 : n ≤ 4102444799) : hd.Safe (dx.t82 n) ∧ (dx.t82 n).length ≤ 100 := by
  have hok := dt.civ_ok n0 n1
  unfold dx.t82
  have ha7 : dx.wkd n < 7 := by unfold dx.wkd; omega
  obtain ⟨q, hq⟩ : ∃ q : Nat, dt.mn n = (q : Int) := ⟨(dt.mn n).toNat, by have := hok.2.2.1; omega⟩
  rw [hq] at hok ⊢
  rw [Int.toNat_natCast]
  generalize dt.yr n = y, dt.dy n = d, dt.hr n = h, dt.mt n = i, dt.sc n = s, dx.wkd n = a at hok ha7 ⊢
  obtain ⟨k1, k2, k3, k4, k5, k6, k7, k8, k9, k10, k11, k12⟩ := hok
  have k13 := dt.dm_pos y (q : Int)
  have e : dx.f82 a y q d h i s = (dx.wkn a ++ [44]) ++ hd.joinB false [dx.two d, dx.mtn q, dx.four y, dx.clk h i s, [43, 48, 48, 48, 48]] := by
    simp [dx.f82, hd.joinB]
  have hm := mtn_signs ⟨q, by omega⟩ (by show q ≠ 0; omega)
  have hmt := dx.mtn_len (m := q) (by omega) (by omega)
  have hwl := dx.wkn_len ha7
  have hlen : (dx.f82 a y q d h i s).length ≤ 100 := by
    unfold dx.f82
    simp only [List.length_append, hwl, hmt, dx.two_len, dx.four_len, dx.clk_len, List.length_cons, List.length_nil]
    omega
  refine ⟨⟨by omega, .inr ?_⟩, hlen⟩
  rw [e]
  have hclk : hd.signs (dx.clk h i s) := by
    unfold dx.clk
    exact signs_app (signs_app (signs_app (signs_app (two_signs (by omega) (by omega)) colon_signs) (two_signs (by omega) (by omega))) colon_signs) (two_signs (by omega) (by omega))
  refine hd.wid_join _ _ (wkn_signs ⟨a, ha7⟩) (wkn_len ⟨a, ha7⟩).1 (wkn_len ⟨a, ha7⟩).2 (fun y' hy => ?_)
  simp only [List.mem_cons, List.mem_nil_iff, or_false] at hy
  rcases hy with rfl | rfl | rfl | rfl | rfl
  · exact ⟨two_signs (by omega) (by omega), by simp [dx.two], by simp [dx.two]⟩
  · exact hm
  · exact ⟨four_signs (by omega) (by omega), by simp [dx.four], by simp [dx.four]⟩
  · exact ⟨hclk, by simp [dx.clk, dx.two], by simp [dx.clk, dx.two]⟩
  · exact ⟨by intro c hc; simp at hc; rcases hc with rfl | rfl <;> decide, by simp, by simp⟩

/-- Each byte 10 becomes 13, 10. -/
def crl (l : B) : B := l.flatMap fun c => if c = 10 then [13, 10] else [c]
theorem crl_cons (c : UInt8) (l : B) : crl (c :: l) = (if c = 10 then [13, 10] else [c]) ++ crl l := rfl
theorem crl_len (l : B) : (crl l).length ≤ 2 * l.length := by
  induction l with
  | nil => simp [crl]
  | cons c l ih =>
    rw [crl_cons, List.length_append, List.length_cons]
    split <;> simp <;> omega
def lf : B := [10]
theorem lf_pre {c : UInt8} {r : B} : lf.isPrefixOf (c :: r) = true ↔ c = 10 := by
  unfold lf
  simp only [List.isPrefixOf, Bool.and_true, beq_iff_eq]
  exact eq_comm
theorem crl_hit : ∀ (x : B) (i : Nat), Lib.index x lf = i → crl x = x.take i ++ [13, 10] ++ crl (x.drop (i + 1))
  | [], i, h => by simp [Lib.index, lf] at h
  | c :: r, i, h => by
    rw [Lib.index] at h
    by_cases hp : lf.isPrefixOf (c :: r) = true
    · rw [if_pos hp] at h
      obtain rfl : i = 0 := by omega
      rw [crl_cons, if_pos (lf_pre.1 hp)]
      rfl
    · rw [if_neg hp] at h
      have hge := Lib.index_ge r lf
      by_cases h1 : Lib.index r lf = -1
      · rw [if_pos (by rw [h1]; rfl)] at h
        omega
      · rw [if_neg (by simpa using h1)] at h
        obtain ⟨j, rfl⟩ : ∃ j, i = j + 1 := ⟨i - 1, by omega⟩
        rw [crl_cons, if_neg (fun e => hp (lf_pre.2 e)), crl_hit r j (by omega)]
        simp
theorem crl_miss : ∀ (x : B), Lib.index x lf = -1 → crl x = x
  | [], h => rfl
  | c :: r, h => by
    rw [Lib.index] at h
    by_cases hp : lf.isPrefixOf (c :: r) = true
    · rw [if_pos hp] at h
      cases h
    · rw [if_neg hp] at h
      by_cases h1 : Lib.index r lf = -1
      · rw [crl_cons, if_neg (fun e => hp (lf_pre.2 e)), crl_miss r h1]
        rfl
      · rw [if_neg (by simpa using h1)] at h
        have := Lib.index_ge r lf
        omega
theorem crl_rep : ∀ (n : Nat) (x : B), x.length ≤ n → Lib.replaceK lf [13, 10] (Lib.count x lf) x = crl x
  | n, x, hn => by
    by_cases h : Lib.index x lf = -1
    · rw [Lib.count_miss h, crl_miss x h]
      rfl
    · obtain ⟨i, hi⟩ : ∃ i : Nat, Lib.index x lf = i := ⟨(Lib.index x lf).toNat, by have := Lib.index_ge x lf; omega⟩
      have hr := Lib.index_room x lf (by rw [hi]; omega)
      rw [hi] at hr
      have e1 : lf.length = 1 := rfl
      match n with
      | 0 => omega
      | n + 1 =>
        have hc := Lib.count_hit (s := x) (sub := lf) (i := i) (by simp [lf]) hi
        rw [hc, Nat.add_comm, Lib.replaceK_hit _ _ _ _ i hi, crl_hit x i hi]
        rw [e1, crl_rep n (x.drop (i + 1)) (by rw [List.length_drop]; omega)]
theorem replace_crl (x : B) : Lib.replaceAll x lf [13, 10] = crl x := by
  unfold Lib.replaceAll Lib.replace Lib.replaceNum
  rw [if_neg (by simp [lf]), if_pos (.inl (by decide))]
  exact crl_rep x.length x (Nat.le_refl _)

abbrev Pr := ByteArray × ByteArray
/-- The value of the field Message-ID. -/
def mid (e : en.En) (box : ByteArray) : ByteArray := (((⟨#[60]⟩ ++ ⟨(Lib.decDigits (ck.sum (b6.bz e.i.data.toList))).toArray⟩) ++ ⟨#[64]⟩) ++ box) ++ ⟨#[62]⟩
/-- The fields of an entry's mail. -/
def flds (e : en.En) (box : ByteArray) : List Pr :=
  [(⟨#[70, 114, 111, 109]⟩, EN e.a), (⟨#[68, 97, 116, 101]⟩, ⟨(dx.t82 e.d).toArray⟩), (⟨#[83, 117, 98, 106, 101, 99, 116]⟩, EN e.t), (⟨#[77, 101, 115, 115, 97, 103, 101, 45, 73, 68]⟩, mid e box), (⟨#[88, 45, 73, 100]⟩, EN e.i), (⟨#[88, 45, 76, 105, 110, 107]⟩, EN e.l), (⟨#[77, 73, 77, 69, 45, 86, 101, 114, 115, 105, 111, 110]⟩, ⟨#[49, 46, 48]⟩), (⟨#[67, 111, 110, 116, 101, 110, 116, 45, 84, 121, 112, 101]⟩, ⟨#[116, 101, 120, 116, 47, 112, 108, 97, 105, 110, 59, 32, 99, 104, 97, 114, 115, 101, 116, 61, 117, 116, 102, 45, 56]⟩), (⟨#[67, 111, 110, 116, 101, 110, 116, 45, 84, 114, 97, 110, 115, 102, 101, 114, 45, 69, 110, 99, 111, 100, 105, 110, 103]⟩, ⟨#[113, 117, 111, 116, 101, 100, 45, 112, 114, 105, 110, 116, 97, 98, 108, 101]⟩)]
/-- Fields folded, one behind the other. -/
def foldAll (ps : List Pr) : ByteArray := ps.foldl (fun acc p => acc ++ FO p.1 p.2) ⟨#[]⟩
/-- The mail of an entry. -/
def rend (e : en.En) (box : ByteArray) : ByteArray := (foldAll (flds e box) ++ ⟨#[13, 10]⟩) ++ (⟨(qu.qt 0 (crl e.c.data.toList)).toArray⟩ ++ ⟨#[13, 10]⟩)
def Good (p : Pr) : Prop := hn.IsName p.1 ∧ hd.Safe p.2.data.toList
theorem name_ok (l : B) (h : ∀ b ∈ l, 33 ≤ b.toNat ∧ b.toNat ≤ 126 ∧ b ≠ 58) (h1 : 1 ≤ l.length) (h2 : l.length ≤ 40) : hn.IsName ⟨l.toArray⟩ := by
  refine ⟨by rw [Lib.size_eq]; exact h1, by rw [Lib.size_eq]; exact h2, fun j hj => ?_⟩
  have hj' : j < l.length := by rw [Lib.size_eq] at hj; exact hj
  have hm := h l[j] (List.getElem_mem hj')
  refine ⟨hj, ?_⟩
  have e : (⟨l.toArray⟩ : ByteArray)[j] = l[j] := rfl
  rw [e]
  refine ⟨by omega, by omega, fun h58 => hm.2.2 ?_⟩
  rw [← UInt8.toNat_inj]
  show l[j].toNat = 58
  omega
end Go.Proofs.YtbanjkkbobedhaaDoor.rn

namespace Go.Proofs.YtbanjkkbobedhaaDoor.rn
open Go.RowKit
set_option linter.unusedVariables false

theorem sum_dec (e : en.En) : ck.sum (b6.bz e.i.data.toList) < 10 ^ (9 + 1) := by
  have hb : ck.Bytes (b6.bz e.i.data.toList) := fun j hj => by
    rw [b6.bz_at]
    have := (e.i.data.toList.getD j 0).toNat_lt
    omega
  have := ck.sum_lt hb
  have e10 : (10 : Nat) ^ (9 + 1) = 10000000000 := by decide
  omega
theorem mid_list (e : en.En) (box : ByteArray) : (mid e box).data.toList = [60] ++ Lib.decDigits (ck.sum (b6.bz e.i.data.toList)) ++ [64] ++ box.data.toList ++ [62] := by
  unfold mid
  simp [ByteArray.data_append]
theorem mid_safe (e : en.En) (box : ByteArray) (h : nm.IsName box) : hd.Safe (mid e box).data.toList ∧ (mid e box).size ≤ 100 := by
  obtain ⟨h1, h2⟩ := name_signs h
  have hd1 := dec_signs 9 _ (sum_dec e)
  have hd2 := dx.dec_len 9 _ (sum_dec e)
  have hbl : box.data.toList.length ≤ 40 := by rw [← Lib.size_eq]; exact h2
  have hl : (mid e box).data.toList.length ≤ 100 := by
    rw [mid_list]
    simp only [List.length_append, List.length_cons, List.length_nil]
    omega
  refine ⟨?_, by rw [Lib.size_eq]; exact hl⟩
  refine safe_signs ?_ ?_ (by omega)
  · rw [mid_list]
    have one : ∀ c : UInt8, 33 ≤ c.toNat ∧ c.toNat ≤ 126 → hd.signs [c] := fun c hc b hb => by
      rw [List.mem_singleton] at hb; subst hb; exact hc
    exact signs_app (signs_app (signs_app (signs_app (one _ (by decide)) hd1) (one _ (by decide))) h1) (one _ (by decide))
  · rw [mid_list]; simp
theorem eok_cases {e : en.En} (h : en.eok e = true) : en.fld e.i = true ∧ en.fld e.t = true ∧ en.fld e.l = true ∧ en.fld e.a = true ∧ (e.c.size ≤ 1000 ∧ xm.GoodTo e.c e.c.size) ∧ 0 ≤ e.d ∧ e.d ≤ 4102444799 := by
  unfold en.eok at h
  simp only [Bool.and_eq_true] at h
  obtain ⟨⟨⟨⟨⟨⟨_, h1⟩, h2⟩, h3⟩, h4⟩, h5⟩, h6⟩ := h
  exact ⟨h1, h2, h3, h4, en.ofx_cases h5, of_decide_eq_true h6⟩
/-- What a value of an entry is encoded to. -/
def Enc (s : ByteArray) : Prop := hd.EncIs s (EN s) ∧ hd.Safe (EN s).data.toList ∧ (EN s).size ≤ 2000
theorem enc_of {s r : ByteArray} (h : en.fld s = true) (hr : hd.EncIs s r) : Enc s ∧ r = EN s := by
  have e := en_is hr
  have hs := enc_ok h hr
  rw [e] at hs hr
  exact ⟨⟨hr, hs, by rw [Lib.size_eq]; exact hs.1⟩, e⟩
theorem safe_const {l : B} (h : l.length ≤ 2000) {w : Nat} (hw : hd.wid l = some w) (h0 : 0 < w) : hd.Safe l := ⟨h, .inr ⟨w, hw, h0⟩⟩
/-- Every field of an entry's mail is one, if its values are encoded. -/
theorem flds_good {e : en.En} {box : ByteArray} (h : en.eok e = true) (hb : nm.IsName box) (ha : Enc e.a) (ht : Enc e.t) (hi : Enc e.i) (hl : Enc e.l) : ∀ p ∈ flds e box, Good p ∧ p.1.size ≤ 40 ∧ p.2.size ≤ 2000 := by
  obtain ⟨_, _, _, _, _, hd0, hd1⟩ := eok_cases h
  have hdate := date_safe e.d hd0 hd1
  have hmid := mid_safe e box hb
  intro p hp
  simp only [flds, List.mem_cons, List.mem_nil_iff, or_false] at hp
  have N : ∀ l : B, (∀ b ∈ l, 33 ≤ b.toNat ∧ b.toNat ≤ 126 ∧ b ≠ 58) → 1 ≤ l.length → l.length ≤ 40 → hn.IsName ⟨l.toArray⟩ ∧ (⟨l.toArray⟩ : ByteArray).size ≤ 40 := fun l h1 h2 h3 => ⟨name_ok l h1 h2 h3, by rw [Lib.size_eq]; exact h3⟩
  rcases hp with rfl | rfl | rfl | rfl | rfl | rfl | rfl | rfl | rfl
  · have := N [70, 114, 111, 109] (by decide) (by decide) (by decide)
    exact ⟨⟨this.1, ha.2.1⟩, this.2, ha.2.2⟩
  · have := N [68, 97, 116, 101] (by decide) (by decide) (by decide)
    refine ⟨⟨this.1, hdate.1⟩, this.2, ?_⟩
    show (⟨(dx.t82 e.d).toArray⟩ : ByteArray).size ≤ 2000
    rw [Lib.size_eq]
    have := hdate.2
    show (dx.t82 e.d).length ≤ 2000
    omega
  · have := N [83, 117, 98, 106, 101, 99, 116] (by decide) (by decide) (by decide)
    exact ⟨⟨this.1, ht.2.1⟩, this.2, ht.2.2⟩
  · have := N [77, 101, 115, 115, 97, 103, 101, 45, 73, 68] (by decide) (by decide) (by decide)
    exact ⟨⟨this.1, hmid.1⟩, this.2, Nat.le_trans hmid.2 (by omega)⟩
  · have := N [88, 45, 73, 100] (by decide) (by decide) (by decide)
    exact ⟨⟨this.1, hi.2.1⟩, this.2, hi.2.2⟩
  · have := N [88, 45, 76, 105, 110, 107] (by decide) (by decide) (by decide)
    exact ⟨⟨this.1, hl.2.1⟩, this.2, hl.2.2⟩
  · have := N [77, 73, 77, 69, 45, 86, 101, 114, 115, 105, 111, 110] (by decide) (by decide) (by decide)
    exact ⟨⟨this.1, safe_const (by decide) (w := 3) (by decide) (by decide)⟩, this.2, by decide⟩
  · have := N [67, 111, 110, 116, 101, 110, 116, 45, 84, 121, 112, 101] (by decide) (by decide) (by decide)
    exact ⟨⟨this.1, safe_const (by decide) (w := 13) (by decide) (by decide)⟩, this.2, by decide⟩
  · have := N [67, 111, 110, 116, 101, 110, 116, 45, 84, 114, 97, 110, 115, 102, 101, 114, 45, 69, 110, 99, 111, 100, 105, 110, 103] (by decide) (by decide) (by decide)
    exact ⟨⟨this.1, safe_const (by decide) (w := 16) (by decide) (by decide)⟩, this.2, by decide⟩
/-- How long a folded field may be. -/
theorem go_len : ∀ (r : List B) (f : Bool) (wd : Nat), (hd.foldGo f wd r).length ≤ 3 * ((r.map List.length).sum + r.length)
  | [], f, wd => by simp [hd.foldGo]
  | x :: r, f, wd => by
    rw [hd.foldGo]
    split
    · have := go_len r false (1 + x.length)
      simp only [List.length_append, List.length_cons, List.length_nil, List.map_cons, List.sum_cons]
      omega
    · have := go_len r false (wd + 1 + x.length)
      simp only [List.length_append, List.length_cons, List.length_nil, List.map_cons, List.sum_cons]
      omega
theorem cut_sum : ∀ (l cur : B), ((hd.cutGo cur l).map List.length).sum + (hd.cutGo cur l).length ≤ cur.length + l.length + 1
  | [], cur => by simp [hd.cutGo]
  | b :: l, cur => by
    rw [hd.cutGo]
    split
    · have := cut_sum l []
      simp only [List.map_cons, List.sum_cons, List.length_cons, List.length_nil] at this ⊢
      omega
    · have := cut_sum l (cur ++ [b])
      simp only [List.length_append, List.length_cons, List.length_nil] at this ⊢
      omega
theorem fo_len (nm s : ByteArray) (h1 : nm.size ≤ 40) (h2 : s.size ≤ 2000) : (FO nm s).size ≤ 6100 := by
  rw [Lib.size_eq]
  show (hd.foldL nm.data.toList s.data.toList).length ≤ 6100
  unfold hd.foldL
  have a := go_len (hd.cutGo [] s.data.toList) true (nm.data.toList.length + 1)
  have b := cut_sum s.data.toList []
  rw [Lib.size_eq] at h1 h2
  simp only [List.length_append, List.length_cons, List.length_nil] at b ⊢
  omega
theorem all_snoc (ps : List Pr) (p : Pr) : foldAll (ps ++ [p]) = foldAll ps ++ FO p.1 p.2 := by simp [foldAll]
theorem all_take (ps : List Pr) (k : Nat) (h : k < ps.length) : foldAll (ps.take (k + 1)) = foldAll (ps.take k) ++ FO (ps[k]).1 (ps[k]).2 := by
  rw [List.take_succ_eq_append_getElem h, all_snoc]
theorem all_len : ∀ (ps : List Pr), (∀ p ∈ ps, p.1.size ≤ 40 ∧ p.2.size ≤ 2000) → (foldAll ps).size ≤ 6100 * ps.length := by
  intro ps
  rw [← List.reverse_reverse ps]
  generalize ps.reverse = qs
  induction qs with
  | nil => intro _; exact Nat.zero_le _
  | cons p qs ih =>
    intro h
    rw [List.reverse_cons, all_snoc, ByteArray.size_append, List.length_append]
    have h1 := ih (fun q hq => h q (by rw [List.reverse_cons]; exact List.mem_append_left _ hq))
    have hp := h p (by simp)
    have h2 := fo_len p.1 p.2 hp.1 hp.2
    simp only [List.length_singleton]
    omega
end Go.Proofs.YtbanjkkbobedhaaDoor.rn

namespace Go.Proofs.YtbanjkkbobedhaaDoor.rr
set_option linter.unusedVariables false

/-- How many have not come up yet. -/
def left (l : Array Bool) : Nat := l.toList.countP (fun b => !b)
theorem count_set : ∀ (l : List Bool) (i : Nat), l[i]? = some false → (l.set i true).countP (fun b => !b) + 1 = l.countP (fun b => !b)
  | [], i, h => by simp at h
  | b :: l, 0, h => by
    have hb : b = false := by simpa using h
    subst hb
    simp
  | b :: l, i + 1, h => by
    have ih := count_set l i (by simpa using h)
    rw [List.set_cons_succ, List.countP_cons, List.countP_cons]
    omega
theorem get_false {l : Array Bool} {i : Nat} (h : l.getD i true = false) : l.toList[i]? = some false := by
  cases hl : l[i]? with
  | none => simp [hl] at h
  | some b =>
    simp [hl] at h
    subst h
    simpa using hl
theorem left_set {l : Array Bool} {i : Nat} (h : l.getD i true = false) : left (l.setIfInBounds i true) + 1 = left l := by
  unfold left
  rw [Array.toList_setIfInBounds]
  exact count_set _ _ (get_false h)
theorem left_zero {l : Array Bool} (h : left l = 0) (i : Nat) : l.getD i true = true := by
  cases hg : l.getD i true with
  | true => rfl
  | false =>
    have := left_set hg
    omega

section
variable {P : Program} {ops : Array Oper} {Q : Exit → Act → World → Prop}
theorem inv {md : Region.Mode} (I : Array Bool → Act → World → Prop)
    (hstep : ∀ listed a w i, I listed a w → i ∈ Region.ready md ops listed → wpOp P ops Q i (fun a' w' => I (listed.setIfInBounds i true) a' w') a w)
    (hend : ∀ listed a w, I listed a w → Region.ready md ops listed = [] → Q .normal a w) :
    ∀ (fuel : Nat) (listed : Array Bool) (a : Act) (w : World), left listed ≤ fuel → I listed a w → wpAny P md ops Q fuel listed a w
  | 0, listed, a, w, hl, h => by
    have hr : Region.ready md ops listed = [] := by
      rw [List.eq_nil_iff_forall_not_mem]
      intro i hi
      have := (mem_ready.1 hi).1
      rw [left_zero (by omega) i] at this
      cases this
    exact ⟨hr, hend listed a w h hr⟩
  | fuel + 1, listed, a, w, hl, h => by
    refine ⟨fun hr => hend listed a w h hr, fun i hi => ?_⟩
    have h1 := left_set (mem_ready.1 hi).1
    exact wpOp_mono (fun a' w' h' => inv I hstep hend fuel _ a' w' (by omega) h') (hstep listed a w i h hi)

def upd (f : Nat → Value) (i : Nat) (v : Value) : Nat → Value := fun j => if j = i then v else f j
theorem upd_same (f : Nat → Value) (i : Nat) (v : Value) : upd f i v i = v := by simp [upd]
theorem upd_other (f : Nat → Value) (i : Nat) (v : Value) {j : Nat} (h : j ≠ i) : upd f i v j = f j := by simp [upd, h]
theorem getD_set {l : Array Bool} {i j : Nat} (h : (l.setIfInBounds i true).getD j false = true) : j = i ∨ l.getD j false = true := by
  by_cases e : j = i
  · exact .inl e
  · right
    simpa [Array.getElem?_setIfInBounds_ne (Ne.symm e)] using h
theorem all_listed {md : Region.Mode} {listed : Array Bool} (hs : listed.size = ops.size) (hdeps : ∀ (i : Nat) (o : Oper), ops[i]? = some o → ∀ e ∈ o.after, e.on < i) (hr : Region.ready md ops listed = []) : ∀ (k i : Nat), i < k → i < ops.size → listed.getD i false = true
  | 0, i, h, _ => by omega
  | k + 1, i, h, hi => by
    by_cases hk : i < k
    · exact all_listed hs hdeps hr k i hk hi
    · have hik : i = k := by omega
      subst hik
      cases hg : listed.getD i true with
      | true =>
        have hlt : i < listed.size := by omega
        simp [Array.getElem?_eq_getElem hlt] at hg ⊢
        exact hg
      | false =>
        exfalso
        have ho : ops[i]? = some ops[i] := Array.getElem?_eq_getElem hi
        have : i ∈ Region.ready md ops listed := mem_ready.2 ⟨hg, _, ho, fun e he _ => all_listed hs hdeps hr i e.on (hdeps i _ ho e he) (Nat.lt_trans (hdeps i _ ho e he) hi)⟩
        rw [hr] at this
        cases this
/-- As region_rel, and what has not come up yet is as it was. -/
theorem region_rel2 {id : Nat} {a : Act} {w : World} (hm : P.follows .mixedOrders = true) (act : (Nat → Value) → Act) (C : World → Prop) (R : Nat → (Nat → Value) → World → Prop) (v0 : Nat → Value)
    (ha : a = act v0) (hC : C w.drew) (hdeps : ∀ (i : Nat) (o : Oper), ops[i]? = some o → ∀ e ∈ o.after, e.on < i)
    (hop : ∀ (i : Nat) (o : Oper), ops[i]? = some o → ∀ (D : Nat → Prop) (vals : Nat → Value) (w : World), C w → (∀ j, D j → R j vals w) → (∀ e ∈ o.after, Region.binds .any e = true → D e.on) → ¬ D i → (∀ (j : Nat) (oj : Oper), D j → ops[j]? = some oj → ∀ e ∈ oj.after, Region.binds .any e = true → D e.on) → (∀ j, ¬ D j → vals j = v0 j) →
      wpOp P ops Q i (fun a' w' => ∃ v, a' = act (upd vals i v) ∧ C w' ∧ R i (upd vals i v) w' ∧ ∀ j, j ≠ i → D j → R j (upd vals i v) w') (act vals) w)
    (hend : ∀ (vals : Nat → Value) (w : World), C w → (∀ i, i < ops.size → R i vals w) → Q .normal (act vals) w) :
    (Code.region id ops true).wp P Q a w := by
  refine wp_region_any hm ?_
  refine inv (fun listed a w => listed.size = ops.size ∧ (∀ (j : Nat) (oj : Oper), listed.getD j false = true → ops[j]? = some oj → ∀ e ∈ oj.after, Region.binds .any e = true → listed.getD e.on false = true) ∧ ∃ vals, a = act vals ∧ C w ∧ (∀ j, listed.getD j false = true → R j vals w) ∧ ∀ j, ¬ listed.getD j false = true → vals j = v0 j) ?_ ?_ _ _ _ _ ?_ ?_
  · rintro listed a w i ⟨hs, hcl, vals, rfl, hc, hR, hV⟩ hi
    obtain ⟨hg, o, ho, hall⟩ := mem_ready.1 hi
    have hni : ¬ listed.getD i false = true := by
      have h1 := get_false hg
      have h2 : listed[i]? = some false := by simpa using h1
      simp [h2]
    refine wpOp_mono ?_ (hop i o ho (fun j => listed.getD j false = true) vals w hc hR hall hni hcl hV)
    rintro a' w' ⟨v, rfl, hc', hi', hj'⟩
    have hup : ∀ k, listed.getD k false = true → (listed.setIfInBounds i true).getD k false = true := fun k hk => by
      by_cases e : k = i
      · subst e; exact absurd hk hni
      · simpa [Array.getElem?_setIfInBounds_ne (Ne.symm e)] using hk
    have hlt : i < listed.size := by
      have h1 := get_false hg
      have h2 : listed[i]? = some false := by simpa using h1
      exact (Array.getElem?_eq_some_iff.1 h2).1
    refine ⟨by rw [Array.size_setIfInBounds]; exact hs, fun j oj hj hoj e he hb => ?_, _, rfl, hc', fun j hj => ?_, fun j hj => ?_⟩
    · rcases getD_set hj with h | h
      · subst h
        rw [ho] at hoj
        cases hoj
        exact hup _ (hall e he hb)
      · exact hup _ (hcl j oj h hoj e he hb)
    · by_cases e : j = i
      · subst e; exact hi'
      · rcases getD_set hj with h | h
        · exact absurd h e
        · exact hj' j e h
    · by_cases e : j = i
      · subst e
        exact absurd (by simp [Array.getElem?_setIfInBounds_self_of_lt hlt]) hj
      · rw [upd_other vals i v e]
        exact hV j (fun h => hj (hup j h))
  · rintro listed a w ⟨hs, _, vals, rfl, hc, hR, _⟩ hr
    exact hend vals w hc (fun i hi => hR i (all_listed hs hdeps hr (i + 1) i (Nat.lt_succ_self i) hi))
  · unfold left
    refine Nat.le_trans List.countP_le_length ?_
    simp
  · have hno : ∀ j, ¬ (Array.replicate ops.size false).getD j false = true := fun j hj => by
      by_cases hj2 : j < ops.size
      · simp [hj2] at hj
      · simp [hj2] at hj
    exact ⟨by simp, fun j _ hj => absurd hj (hno j), v0, ha, hC, fun j hj => absurd hj (hno j), fun _ _ => rfl⟩
theorem deps_of (h : (ops.toList.zipIdx.all fun x => x.1.after.all fun e => decide (e.on < x.2)) = true) : ∀ (i : Nat) (o : Oper), ops[i]? = some o → ∀ e ∈ o.after, e.on < i := by
  intro i o ho e he
  have h1 : (o, i) ∈ ops.toList.zipIdx := by
    rw [List.mk_mem_zipIdx_iff_getElem?]
    simpa using ho
  have h2 := List.all_eq_true.1 h _ h1
  have h3 := Array.all_eq_true_iff_forall_mem.1 h2 e he
  simpa using h3
end
end Go.Proofs.YtbanjkkbobedhaaDoor.rr

namespace Go.Proofs.YtbanjkkbobedhaaDoor.hd
open Go.RowKit
set_option linter.unusedVariables false

/-- What both EncodeWords functions answer. -/
def EwRet (s : ByteArray) (e : Ending) : Prop :=
  (65536 < s.size ∧ e = .returned (.tuple #[.string ⟨#[]⟩, .int .i64 2])) ∨
  (s.size ≤ 65536 ∧ ¬ ut.Right s ∧ e = .returned (.tuple #[.string ⟨#[]⟩, .int .i64 3])) ∨
  (s.size ≤ 65536 ∧ ut.Right s ∧ 1000 < s.size ∧ e = .returned (.tuple #[.string ⟨#[]⟩, .int .i64 4])) ∨
  (ut.Right s ∧ s.size ≤ 1000 ∧ ∃ r, EncIs s r ∧ e = .returned (.tuple #[.string r, .int .i64 0]))
theorem ew_ex {s : ByteArray} {e : Ending} (h : EwRet s e) : ∃ (r : ByteArray) (c : Int), e = .returned (.tuple #[.string r, .int .i64 c]) := by
  rcases h with ⟨_, rfl⟩ | ⟨_, _, rfl⟩ | ⟨_, _, _, rfl⟩ | ⟨_, _, r, _, rfl⟩ <;> exact ⟨_, _, rfl⟩
theorem ew_same {s r r' : ByteArray} {c c' : Int} (h : EwRet s (.returned (.tuple #[.string r, .int .i64 c]))) (h' : EwRet s (.returned (.tuple #[.string r', .int .i64 c']))) : r = r' ∧ c = c' := by
  rcases h with ⟨a, h⟩ | ⟨a, a2, h⟩ | ⟨a, a2, a3, h⟩ | ⟨a, a2, q, hq, h⟩ <;>
  rcases h' with ⟨b, h'⟩ | ⟨b, b2, h'⟩ | ⟨b, b2, b3, h'⟩ | ⟨b, b2, q', hq', h'⟩ <;>
  cases h <;> cases h' <;>
  first | exact ⟨rfl, rfl⟩ | exact ⟨enc_same hq hq', rfl⟩ | (exfalso; omega) | (exfalso; exact a2 b2) | (exfalso; exact b2 a2) | (exfalso; exact a2 b) | (exfalso; exact b2 a)

end Go.Proofs.YtbanjkkbobedhaaDoor.hd
