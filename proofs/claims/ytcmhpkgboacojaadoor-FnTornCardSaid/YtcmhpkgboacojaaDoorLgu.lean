/-
  Plain facts: the records of a text that was put together of them, whole or torn.
-/
import Derived.Test.YtcmhpkgboacojaaDoorLgj
namespace Go.Proofs.YtcmhpkgboacojaaDoor.lg
open Go.RowKit
set_option linter.unusedVariables false

/-- Records one behind the other, as a log has them. -/
def catR : List ByteArray → ByteArray
  | [] => nt
  | x :: l => fr x ++ catR l
/-- A record that a log takes. -/
def Right (x : ByteArray) : Prop := 1 ≤ x.size ∧ x.size ≤ 20000
def Rights (l : List ByteArray) : Prop := ∀ x ∈ l, Right x
theorem nt_app (a : ByteArray) : nt ++ a = a := ByteArray.empty_append
theorem app_nt (a : ByteArray) : a ++ nt = a := ByteArray.append_empty
theorem catR_app (l : List ByteArray) (x : ByteArray) : catR (l ++ [x]) = catR l ++ fr x := by
  induction l with
  | nil => show fr x ++ nt = nt ++ fr x; rw [nt_app, app_nt]
  | cons y l ih => show fr y ++ catR (l ++ [x]) = fr y ++ catR l ++ fr x; rw [ih, ByteArray.append_assoc]
theorem catR_cons (x : ByteArray) (l : List ByteArray) : (catR (x :: l)).size = 7 + x.size + (catR l).size := by
  show (fr x ++ catR l).size = _
  rw [ByteArray.size_append, fr_size]
theorem num_be3 (n : Nat) (h : n < 16777216) : num (be 3 n) = n := by
  simp only [be, num, List.foldl_cons, List.foldl_nil, Nat.pow_zero, Nat.pow_one, Nat.div_one]
  rw [UInt8.toNat_ofNat', UInt8.toNat_ofNat', UInt8.toNat_ofNat', show 256 ^ 2 = 65536 from rfl]
  omega
theorem ex_mid {A b C : ByteArray} {i j : Nat} (h : i ≤ j) (hj : j ≤ b.size) : (A ++ b ++ C).extract (A.size + i) (A.size + j) = b.extract i j := by
  rw [ByteArray.append_assoc, ByteArray.extract_append_size_add, ByteArray.extract_append, show i - b.size = 0 from by omega, show j - b.size = 0 from by omega]
  have : C.extract 0 0 = nt := by
    apply ByteArray.ext
    simp [nt]
  rw [this, app_nt]
theorem ex_over {b : ByteArray} {k : Nat} (h : b.size ≤ k) : b.extract 0 k = b := by
  have e : b.extract 0 k = b.extract 0 b.size := by
    apply ByteArray.ext_getElem
    · rw [ByteArray.size_extract, ByteArray.size_extract]
      omega
    · intro i hi hi'
      rw [ByteArray.getElem_extract, ByteArray.getElem_extract]
  rw [e]
  exact ByteArray.extract_zero_size
theorem fr_head (x : ByteArray) : (fr x).extract 0 3 = hb x := by
  unfold fr
  rw [ByteArray.append_assoc]
  exact ByteArray.extract_append_eq_left (hb_size x).symm
theorem fr_body (x : ByteArray) : (fr x).extract 7 (7 + x.size) = x := by
  unfold fr
  have h : (hb x ++ sb (hb x) x).size = 7 := by rw [ByteArray.size_append, hb_size, sb_size]
  exact ByteArray.extract_append_eq_right h.symm (by rw [h])
theorem fr_all (x : ByteArray) : (fr x).extract 0 (7 + x.size) = fr x := by
  rw [← fr_size x]
  exact ByteArray.extract_zero_size
/-- A whole record at a place. -/
theorem next_at {A C x : ByteArray} (h : Right x) : next (A ++ fr x ++ C) A.size = (0, x) := by
  have hsz : (A ++ fr x ++ C).size = A.size + (7 + x.size) + C.size := by rw [ByteArray.size_append, ByteArray.size_append, fr_size]
  have hf := fr_size x
  have e1 : (A ++ fr x ++ C).extract A.size (A.size + 3) = hb x := by
    have := ex_mid (A := A) (b := fr x) (C := C) (i := 0) (j := 3) (by omega) (by omega)
    rw [Nat.add_zero] at this
    rw [this, fr_head]
  have hn : numB (hb x) = x.size := by
    show num (be 3 x.size) = x.size
    exact num_be3 _ (by have := h.2; omega)
  have e2 : (A ++ fr x ++ C).extract (A.size + 7) (A.size + 7 + x.size) = x := by
    have := ex_mid (A := A) (b := fr x) (C := C) (i := 7) (j := 7 + x.size) (by omega) (by omega)
    rw [← Nat.add_assoc] at this
    rw [this, fr_body]
  have e3 : (A ++ fr x ++ C).extract A.size (A.size + 7 + x.size) = fr x := by
    have := ex_mid (A := A) (b := fr x) (C := C) (i := 0) (j := 7 + x.size) (by omega) (by omega)
    rw [Nat.add_zero, ← Nat.add_assoc] at this
    rw [this, fr_all]
  unfold next
  have h1 := h.1
  have h2 := h.2
  rw [e1, hn, if_neg (by omega), if_neg (by omega), if_neg (by omega), e2, e3, if_neg (fun hh => hh rfl)]
/-- A record that the power cut off. -/
theorem next_torn {A x : ByteArray} {k : Nat} (h : Right x) (h0 : 0 < k) (hk : k < 7 + x.size) : (next (A ++ (fr x).extract 0 k) A.size).1 = 18 := by
  have hf := fr_size x
  have hes : ((fr x).extract 0 k).size = k := by rw [size_ex (by omega) (by omega)]; omega
  have hsz : (A ++ (fr x).extract 0 k).size = A.size + k := by rw [ByteArray.size_append, hes]
  unfold next
  by_cases h7 : k < 7
  · rw [if_pos (by omega)]
  · have e1 : (A ++ (fr x).extract 0 k).extract A.size (A.size + 3) = hb x := by
      have := ByteArray.extract_append_size_add (a := A) (b := (fr x).extract 0 k) (i := 0) (j := 3)
      rw [Nat.add_zero] at this
      rw [this, ByteArray.extract_extract, Nat.min_eq_left (by omega)]
      exact fr_head x
    have hn : numB (hb x) = x.size := by
      show num (be 3 x.size) = x.size
      exact num_be3 _ (by have := h.2; omega)
    have h1 := h.1
    have h2 := h.2
    rw [e1, hn, if_neg (by omega), if_neg (by omega), if_pos (by omega)]

theorem scan_whole : ∀ (l : List ByteArray) (A : ByteArray) (acc : List ByteArray) (f : Nat), Rights l → (catR l).size < f → scan (A ++ catR l) f A.size acc = (acc ++ l, (A ++ catR l).size, 0)
  | [], A, acc, f, _, _ => by
    rw [show catR [] = nt from rfl, app_nt, scan_end (Nat.le_refl _), List.append_nil]
  | x :: l, A, acc, f, hl, hf => by
    have hx := hl x (by simp)
    have hc := catR_cons x l
    have e : A ++ catR (x :: l) = A ++ fr x ++ catR l := by show A ++ (fr x ++ catR l) = _; rw [ByteArray.append_assoc]
    have hsz : (A ++ fr x ++ catR l).size = A.size + (7 + x.size) + (catR l).size := by rw [ByteArray.size_append, ByteArray.size_append, fr_size]
    have hnx := next_at (A := A) (C := catR l) hx
    rw [e]
    obtain ⟨g, hg, hs⟩ := scan_step (t := A ++ fr x ++ catR l) (f := f) (p := A.size) (acc := acc) (by omega) (by omega) (by rw [hnx])
    rw [hnx] at hs hg
    simp only at hs hg
    have hp : A.size + 7 + x.size = (A ++ fr x).size := by rw [ByteArray.size_append, fr_size]; omega
    rw [hs, hp, scan_whole l (A ++ fr x) (acc ++ [x]) g (fun y hy => hl y (by simp [hy])) (by omega)]
    simp
theorem recs_whole {l : List ByteArray} (h : Rights l) : recs (catR l) = (l, (catR l).size, 0) := by
  have := scan_whole l nt [] ((catR l).size + 1) h (by omega)
  rw [nt_app] at this
  exact this

/-- How many records are whole within so many bytes. -/
def fits : List ByteArray → Nat → Nat
  | [], _ => 0
  | x :: l, k => if 7 + x.size ≤ k then 1 + fits l (k - (7 + x.size)) else 0
theorem fits_le : ∀ (l : List ByteArray) (k : Nat), fits l k ≤ l.length
  | [], _ => Nat.le_refl _
  | x :: l, k => by
    rw [fits]
    split
    · have := fits_le l (k - (7 + x.size))
      rw [List.length_cons]
      omega
    · exact Nat.zero_le _
theorem fits_max : ∀ (l : List ByteArray) (k j : Nat), j ≤ l.length → (catR (l.take j)).size ≤ k → j ≤ fits l k
  | [], _, j, hj, _ => hj
  | x :: l, k, 0, _, _ => Nat.zero_le _
  | x :: l, k, j + 1, hj, h => by
    rw [List.take_succ_cons, catR_cons] at h
    rw [fits, if_pos (by omega)]
    have := fits_max l (k - (7 + x.size)) j (by rw [List.length_cons] at hj; omega) (by omega)
    omega
theorem fits_size : ∀ (l : List ByteArray) (k : Nat), (catR (l.take (fits l k))).size ≤ k
  | [], k => by rw [show ([] : List ByteArray).take (fits [] k) = [] from by simp]; exact Nat.zero_le _
  | x :: l, k => by
    rw [fits]
    split
    · rename_i h
      have := fits_size l (k - (7 + x.size))
      rw [Nat.add_comm 1, List.take_succ_cons, catR_cons]
      omega
    · exact Nat.zero_le _
theorem cat_pre : ∀ (l : List ByteArray) (j : Nat), (catR l).extract 0 (catR (l.take j)).size = catR (l.take j)
  | l, 0 => by
    rw [List.take_zero]
    show (catR l).extract 0 0 = nt
    apply ByteArray.ext
    simp [nt]
  | [], j + 1 => by rw [List.take_nil]; exact ByteArray.extract_zero_size
  | x :: l, j + 1 => by
    rw [List.take_succ_cons, catR_cons]
    show (fr x ++ catR l).extract 0 _ = fr x ++ catR (l.take j)
    rw [ByteArray.extract_append, fr_size, show 0 - (7 + x.size) = 0 from by omega, show 7 + x.size + (catR (l.take j)).size - (7 + x.size) = (catR (l.take j)).size from by omega, cat_pre l j]
    congr 1
    exact ex_over (by rw [fr_size]; omega)
theorem scan_torn : ∀ (l : List ByteArray) (A : ByteArray) (acc : List ByteArray) (f k : Nat), Rights l → k ≤ (catR l).size → k < f →
    ∃ c, (c = 0 ∨ c = 18) ∧ scan (A ++ (catR l).extract 0 k) f A.size acc = (acc ++ l.take (fits l k), A.size + (catR (l.take (fits l k))).size, c)
  | [], A, acc, f, k, _, hk, _ => by
    have hk0 : k = 0 := by have : (catR []).size = 0 := rfl; omega
    subst hk0
    have e : (catR []).extract 0 0 = nt := by apply ByteArray.ext; simp [nt]
    rw [e, app_nt, scan_end (Nat.le_refl _)]
    exact ⟨0, .inl rfl, by simp [show catR [] = nt from rfl, show nt.size = 0 from rfl]⟩
  | x :: l, A, acc, f, k, hl, hk, hf => by
    have hx := hl x (by simp)
    have hc := catR_cons x l
    have hfs := fr_size x
    by_cases h1 : 7 + x.size ≤ k
    · have e : (catR (x :: l)).extract 0 k = fr x ++ (catR l).extract 0 (k - (7 + x.size)) := by
        show (fr x ++ catR l).extract 0 k = _
        rw [ByteArray.extract_append, fr_size, show 0 - (7 + x.size) = 0 from by omega]
        congr 1
        exact ex_over (by rw [fr_size]; omega)
      have e2 : A ++ (fr x ++ (catR l).extract 0 (k - (7 + x.size))) = A ++ fr x ++ (catR l).extract 0 (k - (7 + x.size)) := by rw [ByteArray.append_assoc]
      have hes : ((catR l).extract 0 (k - (7 + x.size))).size = k - (7 + x.size) := by rw [size_ex (by omega) (by omega)]; omega
      have hsz : (A ++ fr x ++ (catR l).extract 0 (k - (7 + x.size))).size = A.size + (7 + x.size) + (k - (7 + x.size)) := by rw [ByteArray.size_append, ByteArray.size_append, fr_size, hes]
      have hnx := next_at (A := A) (C := (catR l).extract 0 (k - (7 + x.size))) hx
      rw [e, e2]
      obtain ⟨g, hg, hs⟩ := scan_step (t := A ++ fr x ++ (catR l).extract 0 (k - (7 + x.size))) (f := f) (p := A.size) (acc := acc) (by omega) (by omega) (by rw [hnx])
      rw [hnx] at hs hg
      simp only at hs hg
      have hp : A.size + 7 + x.size = (A ++ fr x).size := by rw [ByteArray.size_append, fr_size]; omega
      rw [hs, hp]
      obtain ⟨c, hcc, hsc⟩ := scan_torn l (A ++ fr x) (acc ++ [x]) g (k - (7 + x.size)) (fun y hy => hl y (by simp [hy])) (by omega) (by omega)
      refine ⟨c, hcc, ?_⟩
      rw [hsc, fits, if_pos h1, Nat.add_comm 1, List.take_succ_cons, catR_cons, ← hp]
      simp
      omega
    · have hft : fits (x :: l) k = 0 := by rw [fits, if_neg h1]
      have e : (catR (x :: l)).extract 0 k = (fr x).extract 0 k := by
        show (fr x ++ catR l).extract 0 k = _
        rw [ByteArray.extract_append, fr_size, show 0 - (7 + x.size) = 0 from by omega, show k - (7 + x.size) = 0 from by omega]
        have : (catR l).extract 0 0 = nt := by apply ByteArray.ext; simp [nt]
        rw [this, app_nt]
      rw [e, hft]
      have hes : ((fr x).extract 0 k).size = k := by rw [size_ex (by omega) (by omega)]; omega
      have hsz : (A ++ (fr x).extract 0 k).size = A.size + k := by rw [ByteArray.size_append, hes]
      by_cases h0 : k = 0
      · rw [scan_end (by omega)]
        exact ⟨0, .inl rfl, by simp [show catR [] = nt from rfl, show nt.size = 0 from rfl]⟩
      · have ht := next_torn (A := A) hx (by omega) (show k < 7 + x.size by omega)
        rw [scan_stop (by omega) (by omega) (by rw [ht]; decide), ht]
        exact ⟨18, .inr rfl, by simp [show catR [] = nt from rfl, show nt.size = 0 from rfl]⟩
theorem recs_torn {l : List ByteArray} (h : Rights l) {k : Nat} (hk : k ≤ (catR l).size) : ∃ c, (c = 0 ∨ c = 18) ∧ recs ((catR l).extract 0 k) = (l.take (fits l k), (catR (l.take (fits l k))).size, c) := by
  have hes : ((catR l).extract 0 k).size = k := by rw [size_ex (by omega) hk]; omega
  obtain ⟨c, hc, hs⟩ := scan_torn l nt [] (k + 1) k h hk (by omega)
  refine ⟨c, hc, ?_⟩
  rw [nt_app] at hs
  unfold recs
  rw [hes]
  have h0 : nt.size = 0 := rfl
  rw [h0] at hs
  simpa using hs
end Go.Proofs.YtcmhpkgboacojaaDoor.lg
