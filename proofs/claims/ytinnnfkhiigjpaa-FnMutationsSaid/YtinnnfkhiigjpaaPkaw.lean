/-
  Plain facts on unfolding: ends of lines ahead of blanks are taken away; the parts of a field.
  Plain facts on a folded field: it is read back, and how long its lines are.
  Plain facts on the mail of a drawn entry: it has at most 4000 bytes.
  Items as rows of pairs of texts: read by the law's own measure, copy and comparison.
  The laws' own copy of items, and their comparison of items that are the same.
-/
import Derived.Test.YtinnnfkhiigjpaaPkaf
import Derived.Lib.ReplaceLaws
import Derived.Lib.IndexLaws
import Derived.Test.YtinnnfkhiigjpaaPkav
import Derived.Test.YtinnnfkhiigjpaaPkak
import Derived.Test.YtinnnfkhiigjpaaPkat
import Derived.Test.YtinnnfkhiigjpaaRows
import Derived.Test.YtinnnfkhiigjpaaPkaa
import Derived.WalkKit
import Derived.WalkLawsBesides
import Derived.Below
import Derived.BigRegion
import Derived.Test.YtinnnfkhiigjpaaPkam

namespace Go.Proofs.Ytinnnfkhiigjpaa.uf
open Go
set_option linter.unusedVariables false

/-- A text without its ends of lines that a blank follows; none where a byte 13 stands elsewhere. -/
def unf : Bool → List UInt8 → Option (List UInt8)
  | _, [] => some []
  | true, _ :: r => unf false r
  | false, c :: r => if c = 13 then (if r.head? = some 10 ∧ r.tail.head? = some 32 then unf true r else none) else (unf false r).map (c :: ·)
def fw : List UInt8 := [13, 10, 32]
/-- Each end of line with the blank behind it, replaced by a blank. -/
def rep : Nat → List UInt8 → List UInt8
  | _, [] => []
  | n + 1, _ :: r => rep n r
  | 0, c :: r => if fw.isPrefixOf (c :: r) then 32 :: rep 2 r else c :: rep 0 r

theorem pre_iff {c : UInt8} {r : List UInt8} : fw.isPrefixOf (c :: r) = true ↔ c = 13 ∧ r.head? = some 10 ∧ r.tail.head? = some 32 := by
  unfold fw
  match r with
  | [] => simp
  | [a] => simp
  | a :: b :: q =>
    simp only [List.isPrefixOf, Bool.and_eq_true, beq_iff_eq, List.head?_cons, List.tail_cons, Option.some.injEq, and_true]
    exact ⟨fun h => ⟨h.1.symm, h.2.1.symm, h.2.2.symm⟩, fun h => ⟨h.1.symm, h.2.1.symm, h.2.2.symm⟩⟩
theorem rep_fw (r : List UInt8) : rep 0 (13 :: 10 :: 32 :: r) = 32 :: rep 0 r := by
  rw [rep, if_pos (by simp [fw])]
  rfl
theorem unf_fw (r : List UInt8) : unf false (13 :: 10 :: 32 :: r) = (unf false r).map (32 :: ·) := by
  rw [unf, if_pos rfl, if_pos (by simp), unf, unf, if_neg (by decide)]
theorem shape {c : UInt8} {r : List UInt8} (h : fw.isPrefixOf (c :: r) = true) : ∃ q, c :: r = 13 :: 10 :: 32 :: q := by
  obtain ⟨rfl, h1, h2⟩ := pre_iff.1 h
  match r, h1, h2 with
  | a :: b :: q, h1, h2 =>
    cases h1
    cases h2
    exact ⟨q, rfl⟩
  | [a], h1, h2 => simp at h2
/-- What is replaced is what is unfolded; where nothing can be unfolded a byte 13 stays. -/
theorem unf_rep : ∀ (n : Nat) (x : List UInt8), x.length ≤ n → (∀ v, unf false x = some v → rep 0 x = v) ∧ (unf false x = none → 13 ∈ rep 0 x)
  | 0, x, h => by
    obtain rfl : x = [] := List.eq_nil_of_length_eq_zero (by omega)
    exact ⟨fun v h => (by cases h; rfl), fun h => (by cases h)⟩
  | n + 1, [], h => ⟨fun v h => (by cases h; rfl), fun h => (by cases h)⟩
  | n + 1, c :: r, h => by
    by_cases hp : fw.isPrefixOf (c :: r) = true
    · obtain ⟨q, hq⟩ := shape hp
      rw [hq] at h ⊢
      have ih := unf_rep n q (by simp at h; omega)
      rw [unf_fw, rep_fw]
      constructor
      · intro v hv
        cases hu : unf false q with
        | none => rw [hu] at hv; cases hv
        | some u => rw [hu] at hv; cases hv; rw [ih.1 u hu]
      · intro hv
        cases hu : unf false q with
        | none => exact List.mem_cons_of_mem _ (ih.2 hu)
        | some u => rw [hu] at hv; cases hv
    · have ih := unf_rep n r (by simp at h; omega)
      rw [rep, if_neg hp, unf]
      by_cases hc : c = 13
      · rw [if_pos hc, if_neg (fun x => hp (pre_iff.2 ⟨hc, x⟩))]
        exact ⟨fun v h => (by cases h), fun _ => (by rw [hc]; exact List.mem_cons_self)⟩
      · rw [if_neg hc]
        constructor
        · intro v hv
          cases hu : unf false r with
          | none => rw [hu] at hv; cases hv
          | some u => rw [hu] at hv; cases hv; rw [ih.1 u hu]
        · intro hv
          cases hu : unf false r with
          | none => exact List.mem_cons_of_mem _ (ih.2 hu)
          | some u => rw [hu] at hv; cases hv
theorem rep_hit : ∀ (x : List UInt8) (i : Nat), Lib.index x fw = i → rep 0 x = x.take i ++ [32] ++ rep 0 (x.drop (i + 3))
  | [], i, h => by simp [Lib.index, fw] at h
  | c :: r, i, h => by
    rw [Lib.index] at h
    by_cases hp : fw.isPrefixOf (c :: r) = true
    · rw [if_pos hp] at h
      obtain rfl : i = 0 := by omega
      obtain ⟨q, hq⟩ := shape hp
      rw [hq, rep_fw]
      rfl
    · rw [if_neg hp] at h
      have hge := Lib.index_ge r fw
      by_cases h1 : Lib.index r fw = -1
      · rw [if_pos (by rw [h1]; rfl)] at h
        omega
      · rw [if_neg (by simpa using h1)] at h
        obtain ⟨j, rfl⟩ : ∃ j, i = j + 1 := ⟨i - 1, by omega⟩
        rw [rep, if_neg hp, rep_hit r j (by omega)]
        simp [Nat.add_right_comm j 1 3]
theorem rep_miss : ∀ (x : List UInt8), Lib.index x fw = -1 → rep 0 x = x
  | [], h => rfl
  | c :: r, h => by
    rw [Lib.index] at h
    by_cases hp : fw.isPrefixOf (c :: r) = true
    · rw [if_pos hp] at h
      cases h
    · rw [if_neg hp] at h
      by_cases h1 : Lib.index r fw = -1
      · rw [rep, if_neg hp, rep_miss r h1]
      · rw [if_neg (by simpa using h1)] at h
        have := Lib.index_ge r fw
        omega
theorem repK : ∀ (n : Nat) (x : List UInt8), x.length ≤ n → Lib.replaceK fw [32] (Lib.count x fw) x = rep 0 x
  | n, x, hn => by
    by_cases h : Lib.index x fw = -1
    · rw [Lib.count_miss h, rep_miss x h]
      rfl
    · obtain ⟨i, hi⟩ : ∃ i : Nat, Lib.index x fw = i := ⟨(Lib.index x fw).toNat, by have := Lib.index_ge x fw; omega⟩
      have hr := Lib.index_room x fw (by rw [hi]; omega)
      rw [hi] at hr
      match n with
      | 0 => simp [fw] at hr; omega
      | n + 1 =>
        have hc := Lib.count_hit (s := x) (sub := fw) (i := i) (by simp [fw]) hi
        rw [hc, Nat.add_comm, Lib.replaceK_hit _ _ _ _ i hi, rep_hit x i hi]
        rw [show fw.length = 3 from rfl, repK n (x.drop (i + 3)) (by rw [List.length_drop]; simp [fw] at hr; omega)]
theorem replaceAll_rep (x : List UInt8) : Lib.replaceAll x fw [32] = rep 0 x := by
  unfold Lib.replaceAll Lib.replace Lib.replaceNum
  rw [if_neg (by simp [fw]), if_pos (.inl (by decide))]
  exact repK x.length x (Nat.le_refl _)
theorem safe_no13 {l : List UInt8} (h : 13 ∈ l) : ¬ hd.Safe l := fun x => by have := hd.ascii x 13 h; simp at this
/-- The program's value is safe just if the text can be unfolded to a safe one. -/
theorem value_iff (x : List UInt8) : hd.Safe (Lib.replaceAll x fw [32]) ↔ ∃ v, unf false x = some v ∧ hd.Safe v := by
  rw [replaceAll_rep]
  have h := unf_rep x.length x (Nat.le_refl _)
  cases hu : unf false x with
  | none => exact ⟨fun hs => absurd hs (safe_no13 (h.2 hu)), fun ⟨v, hv, _⟩ => by cases hv⟩
  | some v =>
    rw [h.1 v hu]
    exact ⟨fun hs => ⟨v, rfl, hs⟩, fun ⟨v', hv, hs⟩ => by cases hv; exact hs⟩
theorem value_eq {x v : List UInt8} (h : unf false x = some v) : Lib.replaceAll x fw [32] = v := by rw [replaceAll_rep]; exact (unf_rep x.length x (Nat.le_refl _)).1 v h

theorem rep_len : ∀ (n : Nat) (x : List UInt8), x.length ≤ n → (rep 0 x).length ≤ x.length
  | 0, x, h => by
    obtain rfl : x = [] := List.eq_nil_of_length_eq_zero (by omega)
    exact Nat.le_refl _
  | n + 1, [], h => Nat.le_refl _
  | n + 1, c :: r, h => by
    by_cases hp : fw.isPrefixOf (c :: r) = true
    · obtain ⟨q, hq⟩ := shape hp
      rw [hq] at h ⊢
      have ih := rep_len n q (by simp at h; omega)
      rw [rep_fw]
      simp
      omega
    · have ih := rep_len n r (by simp at h; omega)
      rw [rep, if_neg hp]
      simp
      omega
/-- A field's name and what is behind its colon and blank, without the end of its line. -/
def Parts (l nm x : List UInt8) : Prop := l = nm ++ (58 :: 32 :: (x ++ [13, 10])) ∧ 58 ∉ nm
theorem colon_one : ∀ (a a' b b' : List UInt8), 58 ∉ a → 58 ∉ a' → a ++ 58 :: b = a' ++ 58 :: b' → a = a' ∧ b = b'
  | [], [], b, b', _, _, h => by cases h; exact ⟨rfl, rfl⟩
  | [], y :: a', b, b', _, h2, h => by cases h; exact absurd (List.mem_cons_self) h2
  | y :: a, [], b, b', h1, _, h => by cases h; exact absurd (List.mem_cons_self) h1
  | y :: a, z :: a', b, b', h1, h2, h => by
    simp only [List.cons_append, List.cons.injEq] at h
    have := colon_one a a' b b' (fun m => h1 (List.mem_cons_of_mem _ m)) (fun m => h2 (List.mem_cons_of_mem _ m)) h.2
    exact ⟨by rw [h.1, this.1], this.2⟩
theorem parts_one {l nm x nm' x' : List UInt8} (h : Parts l nm x) (h' : Parts l nm' x') : nm = nm' ∧ x = x' := by
  have h1 := colon_one _ _ _ _ h.2 h'.2 (h.1.symm.trans h'.1)
  refine ⟨h1.1, ?_⟩
  have h2 : x ++ [13, 10] = x' ++ [13, 10] := (List.cons.inj h1.2).2
  exact List.append_cancel_right h2
/-- A text is a field of this name and value. -/
def Field (IsName : ByteArray → Prop) (l nm v : List UInt8) : Prop := ∃ x, Parts l nm x ∧ IsName ⟨nm.toArray⟩ ∧ unf false x = some v ∧ hd.Safe v
theorem field_one {P : ByteArray → Prop} {l nm v nm' v' : List UInt8} (h : Field P l nm v) (h' : Field P l nm' v') : nm = nm' ∧ v = v' := by
  obtain ⟨x, hx, _, hu, _⟩ := h
  obtain ⟨x', hx', _, hu', _⟩ := h'
  obtain ⟨rfl, rfl⟩ := parts_one hx hx'
  rw [hu] at hu'
  cases hu'
  exact ⟨rfl, rfl⟩
end Go.Proofs.Ytinnnfkhiigjpaa.uf

namespace Go.Proofs.Ytinnnfkhiigjpaa.ff
open Go
open Go.Proofs.Ytinnnfkhiigjpaa.hd (cutGo foldGo foldL)
open Go.Proofs.Ytinnnfkhiigjpaa.qu (llw llw_nil llw_crlf llw_on)
open Go.Proofs.Ytinnnfkhiigjpaa.uf (unf unf_fw)
set_option linter.unusedVariables false

theorem join : ∀ (l cur : List UInt8), ∃ x r, cutGo cur l = x :: r ∧ x ++ r.flatMap (fun y => 32 :: y) = cur ++ l
  | [], cur => ⟨cur, [], rfl, by simp⟩
  | b :: l, cur => by
    rw [cutGo]
    by_cases h : b.toNat = 32
    · rw [if_pos h]
      obtain ⟨x, r, h1, h2⟩ := join l []
      have hb : b = 32 := UInt8.toNat_inj.1 h
      refine ⟨cur, cutGo [] l, rfl, ?_⟩
      rw [h1, List.flatMap_cons, hb]
      simp only [List.nil_append] at h2
      rw [← h2]
      simp
    · rw [if_neg h]
      obtain ⟨x, r, h1, h2⟩ := join l (cur ++ [b])
      exact ⟨x, r, h1, by rw [h2]; simp⟩
theorem mem_cut : ∀ (l cur x : List UInt8), x ∈ cutGo cur l → ∀ b ∈ x, b ∈ cur ∨ b ∈ l
  | [], cur, x, h, b, hb => by
    rw [cutGo, List.mem_singleton] at h
    subst h
    exact .inl hb
  | c :: l, cur, x, h, b, hb => by
    rw [cutGo] at h
    split at h
    · rcases List.mem_cons.1 h with rfl | h
      · exact .inl hb
      · rcases mem_cut l [] x h b hb with h | h
        · cases h
        · exact .inr (List.mem_cons_of_mem _ h)
    · rcases mem_cut l (cur ++ [c]) x h b hb with h | h
      · rcases List.mem_append.1 h with h | h
        · exact .inl h
        · rw [List.mem_singleton] at h
          exact .inr (by rw [h]; exact List.mem_cons_self)
      · exact .inr (List.mem_cons_of_mem _ h)
theorem unf_app : ∀ (a y : List UInt8), (∀ b ∈ a, b ≠ 13) → unf false (a ++ y) = (unf false y).map (a ++ ·)
  | [], y, _ => by simp
  | c :: a, y, h => by
    rw [List.cons_append, unf, if_neg (h c List.mem_cons_self), unf_app a y (fun b hb => h b (List.mem_cons_of_mem _ hb))]
    cases unf false y <;> simp
theorem unf_fold : ∀ (r : List (List UInt8)) (wd : Nat), (∀ x ∈ r, ∀ b ∈ x, b ≠ 13) → unf false (foldGo false wd r) = some (r.flatMap (fun y => 32 :: y))
  | [], wd, _ => by rw [foldGo]; rfl
  | x :: r, wd, h => by
    have hx := h x List.mem_cons_self
    have hr := fun y hy => h y (List.mem_cons_of_mem _ hy)
    by_cases hw : 78 < wd + 1 + x.length
    · rw [hd.foldGo_yes r hw]
      show unf false (13 :: 10 :: 32 :: (x ++ foldGo false (1 + x.length) r)) = _
      rw [unf_fw, unf_app x _ hx, unf_fold r _ hr]
      simp
    · rw [hd.foldGo_no r (.inr (by omega))]
      show unf false ((32 :: x) ++ foldGo false (wd + 1 + x.length) r) = _
      rw [unf_app (32 :: x) _ (fun b hb => by
        rcases List.mem_cons.1 hb with rfl | hb
        · decide
        · exact hx b hb), unf_fold r _ hr]
      simp
theorem words_ok {v : List UInt8} (h : hd.Safe v) : ∀ x ∈ cutGo [] v, ∀ b ∈ x, b ≠ 13 := by
  intro x hx b hb e
  rcases mem_cut v [] x hx b hb with hm | hm
  · cases hm
  · have := hd.ascii h b hm
    rw [e] at this
    exact absurd this.1 (by decide)
/-- The folded field is read back. -/
theorem field {P : ByteArray → Prop} {nm v : List UInt8} (hn : P ⟨nm.toArray⟩) (h58 : 58 ∉ nm) (hv : hd.Safe v) : uf.Field P (foldL nm v) nm v := by
  obtain ⟨x, r, h1, h2⟩ := join v []
  have hw := words_ok hv
  rw [h1] at hw
  refine ⟨x ++ foldGo false (nm.length + 1 + 1 + x.length) r, ⟨?_, h58⟩, hn, ?_, hv⟩
  · unfold foldL
    rw [h1, hd.foldGo_no r (.inl rfl)]
    simp
  · rw [unf_app x _ (hw x List.mem_cons_self), unf_fold r _ (fun y hy => hw y (List.mem_cons_of_mem _ hy))]
    simp only [List.nil_append] at h2
    rw [Option.map_some, h2]

/-- The longest word, behind w characters of one, b being the longest so far. -/
def lw : Nat → Nat → List UInt8 → Nat
  | _, b, [] => b
  | w, b, c :: r => if c.toNat = 32 then lw 0 b r else lw (w + 1) (max b (w + 1)) r
theorem lw_ge : ∀ (l : List UInt8) (w b : Nat), b ≤ lw w b l
  | [], w, b => Nat.le_refl _
  | c :: r, w, b => by
    rw [lw]
    split
    · exact lw_ge r 0 b
    · have := lw_ge r (w + 1) (max b (w + 1))
      omega
theorem lw_cut : ∀ (l cur : List UInt8) (b : Nat), cur.length ≤ b → ∀ x ∈ cutGo cur l, x.length ≤ lw cur.length b l
  | [], cur, b, hb, x, hx => by
    rw [cutGo, List.mem_singleton] at hx
    rw [hx, lw]
    exact hb
  | c :: l, cur, b, hb, x, hx => by
    rw [cutGo] at hx
    rw [lw]
    by_cases h : c.toNat = 32
    · rw [if_pos h] at hx ⊢
      rcases List.mem_cons.1 hx with rfl | hx
      · have := lw_ge l 0 b
        omega
      · exact lw_cut l [] b (Nat.zero_le _) x hx
    · rw [if_neg h] at hx ⊢
      have := lw_cut l (cur ++ [c]) (max b (cur.length + 1)) (by simp; omega) x hx
      simpa using this
theorem llw_app : ∀ (a : List UInt8) (w b : Nat) (y : List UInt8), w ≤ b → (∀ c ∈ a, c ≠ 13) → llw w b (a ++ y) = llw (w + a.length) (max b (w + a.length)) y
  | [], w, b, y, hw, _ => by
    rw [List.nil_append, List.length_nil, Nat.add_zero, Nat.max_eq_left hw]
  | c :: a, w, b, y, hw, h => by
    rw [List.cons_append, llw_on (h c List.mem_cons_self), llw_app a (w + 1) _ y (by omega) (fun d hd => h d (List.mem_cons_of_mem _ hd)), List.length_cons]
    congr 1
    · omega
    · omega
theorem ll_fold (M L : Nat) (h78 : 78 ≤ M) (hL : L + 1 ≤ M) : ∀ (r : List (List UInt8)) (wd b : Nat), wd ≤ b → b ≤ M → (∀ x ∈ r, x.length ≤ L ∧ ∀ c ∈ x, c ≠ 13) → llw wd b (foldGo false wd r ++ [13, 10]) ≤ M
  | [], wd, b, _, hb, _ => by
    rw [foldGo, List.nil_append, llw_crlf, llw_nil]
    exact hb
  | x :: r, wd, b, hwb, hb, h => by
    obtain ⟨hxl, hx⟩ := h x List.mem_cons_self
    have hr := fun y hy => h y (List.mem_cons_of_mem _ hy)
    have hsx : ∀ c ∈ (32 :: x : List UInt8), c ≠ 13 := fun c hc => by
      rcases List.mem_cons.1 hc with rfl | hc
      · decide
      · exact hx c hc
    by_cases hw : 78 < wd + 1 + x.length
    · rw [hd.foldGo_yes r hw]
      show llw wd b (13 :: 10 :: ((32 :: x) ++ foldGo false (1 + x.length) r ++ [13, 10])) ≤ M
      rw [llw_crlf, List.append_assoc, llw_app (32 :: x) 0 b _ (Nat.zero_le _) hsx]
      have e : 0 + (32 :: x : List UInt8).length = 1 + x.length := by simp; omega
      rw [e]
      exact ll_fold M L h78 hL r (1 + x.length) _ (by omega) (by omega) hr
    · rw [hd.foldGo_no r (.inr (by omega))]
      show llw wd b ((32 :: x) ++ foldGo false (wd + 1 + x.length) r ++ [13, 10]) ≤ M
      rw [List.append_assoc, llw_app (32 :: x) wd b _ hwb hsx]
      have e : wd + (32 :: x : List UInt8).length = wd + 1 + x.length := by simp; omega
      rw [e]
      exact ll_fold M L h78 hL r (wd + 1 + x.length) _ (by omega) (by omega) hr
/-- No line of the folded field is longer than 78, or than its name with its longest word. -/
theorem ll_field {nm v : List UInt8} (hn : ∀ c ∈ nm, c ≠ 13) (hv : hd.Safe v) : ln.ll (foldL nm v) ≤ max 78 (lw 0 0 v + nm.length + 2) := by
  obtain ⟨x, r, h1, h2⟩ := join v []
  have hw := words_ok hv
  have hl := lw_cut v [] 0 (Nat.le_refl _)
  rw [h1] at hw hl
  rw [List.length_nil] at hl
  have hx := hl x List.mem_cons_self
  have e : foldL nm v = (nm ++ [58, 32] ++ x) ++ (foldGo false (nm.length + 1 + 1 + x.length) r ++ [13, 10]) := by
    unfold foldL
    rw [h1, hd.foldGo_no r (.inl rfl)]
    simp
  unfold ln.ll
  rw [e, llw_app _ 0 0 _ (Nat.le_refl _) (fun c hc => by
    rcases List.mem_append.1 hc with hc | hc
    · rcases List.mem_append.1 hc with hc | hc
      · exact hn c hc
      · rcases List.mem_cons.1 hc with rfl | hc
        · decide
        · rw [List.mem_singleton] at hc
          rw [hc]
          decide
    · exact hw x List.mem_cons_self c hc)]
  have e2 : 0 + (nm ++ [58, 32] ++ x).length = nm.length + 1 + 1 + x.length := by simp; omega
  rw [e2]
  exact ll_fold _ (lw 0 0 v) (by omega) (by omega) r _ _ (by omega) (by omega) (fun y hy => ⟨hl y (List.mem_cons_of_mem _ hy), hw y (List.mem_cons_of_mem _ hy)⟩)
theorem fold_len : ∀ (r : List (List UInt8)) (f : Bool) (wd : Nat), (foldGo f wd r).length ≤ 3 * ((r.map List.length).sum + r.length)
  | [], f, wd => by rw [foldGo]; simp
  | x :: r, f, wd => by
    rw [foldGo]
    split
    · have := fold_len r false (1 + x.length)
      simp
      omega
    · have := fold_len r false (wd + 1 + x.length)
      simp
      omega
theorem field_len (nm v : List UInt8) : (foldL nm v).length ≤ nm.length + 3 * v.length + 6 := by
  have h1 := fold_len (cutGo [] v) true (nm.length + 1)
  have h2 := hd.cutGo_len v []
  unfold foldL
  simp at h1 h2 ⊢
  omega
theorem lw_snoc : ∀ (l : List UInt8) (w b : Nat), lw w b l ≤ max b (w + l.length)
  | [], w, b => by rw [lw]; omega
  | c :: r, w, b => by
    rw [lw]
    split
    · have := lw_snoc r 0 b
      simp
      omega
    · have := lw_snoc r (w + 1) (max b (w + 1))
      simp
      omega
/-- A name, byte by byte. -/
theorem name_of (l : List UInt8) (h : ∀ b ∈ l, 33 ≤ b.toNat ∧ b.toNat ≤ 126 ∧ b ≠ 58) (h1 : 1 ≤ l.length) (h2 : l.length ≤ 40) : hn.IsName ⟨l.toArray⟩ := by
  have hs : (⟨l.toArray⟩ : ByteArray).size = l.length := by rw [Lib.size_eq]
  refine ⟨by omega, by omega, fun j hj => ⟨hj, ?_⟩⟩
  have hm : ((⟨l.toArray⟩ : ByteArray)[j]'hj) ∈ l := by
    have : (⟨l.toArray⟩ : ByteArray)[j]'hj = l[j]'(by omega) := rfl
    rw [this]
    exact List.getElem_mem _
  obtain ⟨a, b, c⟩ := h _ hm
  exact ⟨by omega, by omega, fun e => c (UInt8.toNat_inj.1 (Int.ofNat.inj e))⟩
end Go.Proofs.Ytinnnfkhiigjpaa.ff

namespace Go.Proofs.Ytinnnfkhiigjpaa.rn
open Go
open Go.Proofs.Ytinnnfkhiigjpaa.en (idL fldL linkL conL)
set_option linter.unusedVariables false
theorem fldL_few : ∀ s ∈ fldL, (EN s).size ≤ 100 := by
  intro s hs
  simp only [fldL, List.mem_cons, List.not_mem_nil, or_false] at hs
  rcases hs with rfl | rfl | rfl | rfl | rfl | rfl | rfl | rfl <;> decide +kernel
theorem idL_few : ∀ s ∈ idL, (EN s).size ≤ 100 ∧ 1 ≤ s.size ∧ s.size ≤ 20 := by
  intro s hs
  simp only [idL, List.mem_cons, List.not_mem_nil, or_false] at hs
  rcases hs with rfl | rfl | rfl | rfl | rfl <;> decide +kernel
theorem linkL_few : ∀ s ∈ linkL, (EN s).size ≤ 100 := by
  intro s hs
  simp only [linkL, List.mem_cons, List.not_mem_nil, or_false] at hs
  rcases hs with rfl | rfl | rfl <;> decide +kernel
theorem conL_few : ∀ s ∈ conL, s.data.toList.length ≤ 100 := by
  intro s hs
  simp only [conL, List.mem_cons, List.not_mem_nil, or_false] at hs
  rcases hs with rfl | rfl | rfl | rfl | rfl | rfl | rfl | rfl <;> decide
theorem fo_few (nm s : ByteArray) : (FO nm s).size ≤ nm.size + 3 * s.size + 6 := by
  have := ff.field_len nm.data.toList s.data.toList
  rw [Lib.size_eq, Lib.size_eq, Lib.size_eq]
  show (hd.foldL nm.data.toList s.data.toList).toArray.toList.length ≤ _
  simpa using this
/-- A drawn entry's mail has at most 4000 bytes. -/
theorem rend_few {i t l a c : ByteArray} {d : Int} {box : ByteArray} (hb : nm.IsName box) (hi : i ∈ idL) (ht : t ∈ fldL) (hl : l ∈ linkL) (ha : a ∈ fldL) (hc : c ∈ conL) (d0 : 0 ≤ d) (d1 : d ≤ 4102444799) : (rend ⟨i, t, l, a, d, c⟩ box).size ≤ 4000 := by
  have e1 := fldL_few t ht
  have e2 := fldL_few a ha
  have e3 := (idL_few i hi).1
  have e4 := linkL_few l hl
  have e5 := conL_few c hc
  have e6 := (mid_safe ⟨i, t, l, a, d, c⟩ box hb).2
  have e7 := (date_safe d d0 d1).2
  have e8 := qu.qt_len 0 (crl c.data.toList)
  have e9 := crl_len c.data.toList
  have s1 : ∀ l : List UInt8, (⟨l.toArray⟩ : ByteArray).size = l.length := fun l => by rw [Lib.size_eq]
  unfold rend foldAll flds
  simp only [List.foldl_cons, List.foldl_nil, ByteArray.size_append]
  have f1 := fo_few ⟨#[70, 114, 111, 109]⟩ (EN a)
  have f2 := fo_few ⟨#[68, 97, 116, 101]⟩ ⟨(dx.t82 d).toArray⟩
  have f3 := fo_few ⟨#[83, 117, 98, 106, 101, 99, 116]⟩ (EN t)
  have f4 := fo_few ⟨#[77, 101, 115, 115, 97, 103, 101, 45, 73, 68]⟩ (mid ⟨i, t, l, a, d, c⟩ box)
  have f5 := fo_few ⟨#[88, 45, 73, 100]⟩ (EN i)
  have f6 := fo_few ⟨#[88, 45, 76, 105, 110, 107]⟩ (EN l)
  have f7 := fo_few ⟨#[77, 73, 77, 69, 45, 86, 101, 114, 115, 105, 111, 110]⟩ ⟨#[49, 46, 48]⟩
  have f8 := fo_few ⟨#[67, 111, 110, 116, 101, 110, 116, 45, 84, 121, 112, 101]⟩ ⟨#[116, 101, 120, 116, 47, 112, 108, 97, 105, 110, 59, 32, 99, 104, 97, 114, 115, 101, 116, 61, 117, 116, 102, 45, 56]⟩
  have f9 := fo_few ⟨#[67, 111, 110, 116, 101, 110, 116, 45, 84, 114, 97, 110, 115, 102, 101, 114, 45, 69, 110, 99, 111, 100, 105, 110, 103]⟩ ⟨#[113, 117, 111, 116, 101, 100, 45, 112, 114, 105, 110, 116, 97, 98, 108, 101]⟩
  have hdt := s1 (dx.t82 d)
  have k1 : (⟨#[70, 114, 111, 109]⟩ : ByteArray).size = 4 := rfl
  have k2 : (⟨#[68, 97, 116, 101]⟩ : ByteArray).size = 4 := rfl
  have k3 : (⟨#[83, 117, 98, 106, 101, 99, 116]⟩ : ByteArray).size = 7 := rfl
  have k4 : (⟨#[77, 101, 115, 115, 97, 103, 101, 45, 73, 68]⟩ : ByteArray).size = 10 := rfl
  have k5 : (⟨#[88, 45, 73, 100]⟩ : ByteArray).size = 4 := rfl
  have k6 : (⟨#[88, 45, 76, 105, 110, 107]⟩ : ByteArray).size = 6 := rfl
  have k7 : (⟨#[77, 73, 77, 69, 45, 86, 101, 114, 115, 105, 111, 110]⟩ : ByteArray).size = 12 := rfl
  have k8 : (⟨#[67, 111, 110, 116, 101, 110, 116, 45, 84, 121, 112, 101]⟩ : ByteArray).size = 12 := rfl
  have k9 : (⟨#[67, 111, 110, 116, 101, 110, 116, 45, 84, 114, 97, 110, 115, 102, 101, 114, 45, 69, 110, 99, 111, 100, 105, 110, 103]⟩ : ByteArray).size = 25 := rfl
  have q7 : (⟨#[49, 46, 48]⟩ : ByteArray).size = 3 := rfl
  have q8 : (⟨#[116, 101, 120, 116, 47, 112, 108, 97, 105, 110, 59, 32, 99, 104, 97, 114, 115, 101, 116, 61, 117, 116, 102, 45, 56]⟩ : ByteArray).size = 25 := rfl
  have q9 : (⟨#[113, 117, 111, 116, 101, 100, 45, 112, 114, 105, 110, 116, 97, 98, 108, 101]⟩ : ByteArray).size = 16 := rfl
  have z0 : (⟨#[]⟩ : ByteArray).size = 0 := rfl
  have z2 : (⟨#[13, 10]⟩ : ByteArray).size = 2 := rfl
  have hq := s1 (qu.qt 0 (crl c.data.toList))
  omega
end Go.Proofs.Ytinnnfkhiigjpaa.rn

namespace Go.Proofs.Ytinnnfkhiigjpaa.it
open Go.RowKit
set_option linter.unusedVariables false

abbrev Pr := ByteArray × ByteArray
def no : Pr := (⟨#[]⟩, ⟨#[]⟩)
/-- A slice of attributes. -/
def AttrsAt (w : World) (v : Value) (ps : List Pr) : Prop :=
  ∃ a cap, v = .slice a ps.length cap ∧ (ps = [] ∨ ∃ b off, a = some ⟨b, off, none⟩ ∧ ∀ j, j < ps.length → w.cell? ⟨b, off + j * 2, none⟩ = some (.string (ps.getD j no).1) ∧ w.cell? ⟨b, off + j * 2 + 1, none⟩ = some (.string (ps.getD j no).2))
theorem at_below {w w' : World} {v : Value} {ps : List Pr} (h : AttrsAt w v ps) (hb : Below w.heap.size w w') : AttrsAt w' v ps := by
  obtain ⟨a, cap, rfl, h⟩ := h
  refine ⟨a, cap, rfl, ?_⟩
  rcases h with h | ⟨b, off, rfl, h⟩
  · exact .inl h
  · refine .inr ⟨b, off, rfl, fun j hj => ?_⟩
    obtain ⟨h0, h1⟩ := h j hj
    have hl := World.block_lt_of_cell? w _ h0
    exact ⟨(hb.cell (p := ⟨b, off + j * 2, none⟩) hl).trans h0, (hb.cell (p := ⟨b, off + j * 2 + 1, none⟩) hl).trans h1⟩

/-- Attributes of a size that a law takes. -/
def Small (ps : List Pr) : Prop := ps.length ≤ 1048576 ∧ ∀ j, j < ps.length → (ps.getD j no).1.size ≤ 1048576 ∧ (ps.getD j no).2.size ≤ 1048576
def SmallTo (ps : List Pr) (k : Nat) : Prop := ps.length ≤ 1048576 ∧ ∀ j, j < k → (ps.getD j no).1.size ≤ 1048576 ∧ (ps.getD j no).2.size ≤ 1048576

end Go.Proofs.Ytinnnfkhiigjpaa.it

namespace Go.Proofs.Ytinnnfkhiigjpaa.it
open Go.RowKit
set_option linter.unusedVariables false

theorem infoAt : (Try.prog.info? 39).map (fun i => (i.zero, i.size, i.bytes)) = some (some (.agg #[.string ⟨#[]⟩, .string ⟨#[]⟩]), 2, 32) := by kernel_rfl

def Lay (ps : List Pr) (k : Nat) (xs : List Value) : Prop := ∀ j, j < k → xs[j * 2]? = some (.string (ps.getD j no).1) ∧ xs[j * 2 + 1]? = some (.string (ps.getD j no).2)
theorem lay_step {ps : List Pr} {k : Nat} {xs : List Value} (h : Lay ps k xs) (hl : k * 2 + 1 < xs.length) {a b : ByteArray} (ha : (ps.getD k no).1 = a) (hb : (ps.getD k no).2 = b) : Lay ps (k + 1) ((xs.set (k * 2) (.string a)).set (k * 2 + 1) (.string b)) := by
  intro j hj
  by_cases e : j = k
  · subst e
    rw [ha, hb]
    refine ⟨?_, ?_⟩
    · rw [List.getElem?_set_ne (by omega), List.getElem?_set_self (by omega)]
    · rw [List.getElem?_set_self (by rw [List.length_set]; omega)]
  · obtain ⟨h0, h1⟩ := h j (by omega)
    refine ⟨?_, ?_⟩
    · rw [List.getElem?_set_ne (by omega), List.getElem?_set_ne (by omega)]; exact h0
    · rw [List.getElem?_set_ne (by omega), List.getElem?_set_ne (by omega)]; exact h1
theorem attrs_lay {w : World} {base e g n cap : Nat} {ps : List Pr} {xs : List Value} (hn : n = ps.length) (h : w.ownsRow base e 2 (.slice (some ⟨g, 0, none⟩) n cap) n xs) (hl : Lay ps n xs) : AttrsAt w (.slice (some ⟨g, 0, none⟩) n cap) ps := by
  subst hn
  refine ⟨_, cap, rfl, .inr ⟨g, 0, rfl, fun j hj => ?_⟩⟩
  obtain ⟨h0, h1⟩ := hl j hj
  refine ⟨?_, ?_⟩
  · rw [Nat.zero_add, h.cellAt (j * 2) (by omega), h0]
  · rw [Nat.zero_add, h.cellAt (j * 2 + 1) (by omega), h1]

open gr
end Go.Proofs.Ytinnnfkhiigjpaa.it
