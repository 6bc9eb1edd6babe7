/-
  Plain facts on unfolding: ends of lines ahead of blanks are taken away; the parts of a field.
-/
import Derived.Test.YtejmfffapkmjoaaDoorHdf
import Derived.Lib.ReplaceLaws
import Derived.Lib.IndexLaws
namespace Go.Proofs.YtejmfffapkmjoaaDoor.uf
open Go
set_option linter.unusedVariables false

/-- A text without its ends of lines that a blank follows; none where a byte 13 stands elsewhere. -/
def unf : Bool → List UInt8 → Option (List UInt8)
  | _, [] => some []
  | true, _ :: r => unf false r
  | false, c :: r => if c = 13 then (if r.head? = some 10 ∧ r.tail.head? = some 32 then unf true r else none) else (unf false r).map (c :: ·)
def fw : List UInt8 := [13, 10, 32]
/-- Each end of line with the blank behind it, replaced by a blank. -/
def rep : Nat → List UInt8 → List UInt8
  | _, [] => []
  | n + 1, _ :: r => rep n r
  | 0, c :: r => if fw.isPrefixOf (c :: r) then 32 :: rep 2 r else c :: rep 0 r

theorem pre_iff {c : UInt8} {r : List UInt8} : fw.isPrefixOf (c :: r) = true ↔ c = 13 ∧ r.head? = some 10 ∧ r.tail.head? = some 32 := by
  unfold fw
  match r with
  | [] => simp
  | [a] => simp
  | a :: b :: q =>
    simp only [List.isPrefixOf, Bool.and_eq_true, beq_iff_eq, List.head?_cons, List.tail_cons, Option.some.injEq, and_true]
    exact ⟨fun h => ⟨h.1.symm, h.2.1.symm, h.2.2.symm⟩, fun h => ⟨h.1.symm, h.2.1.symm, h.2.2.symm⟩⟩
theorem rep_fw (r : List UInt8) : rep 0 (13 :: 10 :: 32 :: r) = 32 :: rep 0 r := by
  rw [rep, if_pos (by simp [fw])]
  rfl
theorem unf_fw (r : List UInt8) : unf false (13 :: 10 :: 32 :: r) = (unf false r).map (32 :: ·) := by
  rw [unf, if_pos rfl, if_pos (by simp), unf, unf, if_neg (by decide)]
theorem shape {c : UInt8} {r : List UInt8} (h : fw.isPrefixOf (c :: r) = true) : ∃ q, c :: r = 13 :: 10 :: 32 :: q := by
  obtain ⟨rfl, h1, h2⟩ := pre_iff.1 h
  match r, h1, h2 with
  | a :: b :: q, h1, h2 =>
    cases h1
    cases h2
    exact ⟨q, rfl⟩
  | [a], h1, h2 => simp at h2
/-- What is replaced is what is unfolded; where nothing can be unfolded a byte 13 stays. -/
theorem unf_rep : ∀ (n : Nat) (x : List UInt8), x.length ≤ n → (∀ v, unf false x = some v → rep 0 x = v) ∧ (unf false x = none → 13 ∈ rep 0 x)
  | 0, x, h => by
    obtain rfl : x = [] := List.eq_nil_of_length_eq_zero (by omega)
    exact ⟨fun v h => (by cases h; rfl), fun h => (by cases h)⟩
  | n + 1, [], h => ⟨fun v h => (by cases h; rfl), fun h => (by cases h)⟩
  | n + 1, c :: r, h => by
    by_cases hp : fw.isPrefixOf (c :: r) = true
    · obtain ⟨q, hq⟩ := shape hp
      rw [hq] at h ⊢
      have ih := unf_rep n q (by simp at h; omega)
      rw [unf_fw, rep_fw]
      constructor
      · intro v hv
        cases hu : unf false q with
        | none => rw [hu] at hv; cases hv
        | some u => rw [hu] at hv; cases hv; rw [ih.1 u hu]
      · intro hv
        cases hu : unf false q with
        | none => exact List.mem_cons_of_mem _ (ih.2 hu)
        | some u => rw [hu] at hv; cases hv
    · have ih := unf_rep n r (by simp at h; omega)
      rw [rep, if_neg hp, unf]
      by_cases hc : c = 13
      · rw [if_pos hc, if_neg (fun x => hp (pre_iff.2 ⟨hc, x⟩))]
        exact ⟨fun v h => (by cases h), fun _ => (by rw [hc]; exact List.mem_cons_self)⟩
      · rw [if_neg hc]
        constructor
        · intro v hv
          cases hu : unf false r with
          | none => rw [hu] at hv; cases hv
          | some u => rw [hu] at hv; cases hv; rw [ih.1 u hu]
        · intro hv
          cases hu : unf false r with
          | none => exact List.mem_cons_of_mem _ (ih.2 hu)
          | some u => rw [hu] at hv; cases hv
theorem rep_hit : ∀ (x : List UInt8) (i : Nat), Lib.index x fw = i → rep 0 x = x.take i ++ [32] ++ rep 0 (x.drop (i + 3))
  | [], i, h => by simp [Lib.index, fw] at h
  | c :: r, i, h => by
    rw [Lib.index] at h
    by_cases hp : fw.isPrefixOf (c :: r) = true
    · rw [if_pos hp] at h
      obtain rfl : i = 0 := by omega
      obtain ⟨q, hq⟩ := shape hp
      rw [hq, rep_fw]
      rfl
    · rw [if_neg hp] at h
      have hge := Lib.index_ge r fw
      by_cases h1 : Lib.index r fw = -1
      · rw [if_pos (by rw [h1]; rfl)] at h
        omega
      · rw [if_neg (by simpa using h1)] at h
        obtain ⟨j, rfl⟩ : ∃ j, i = j + 1 := ⟨i - 1, by omega⟩
        rw [rep, if_neg hp, rep_hit r j (by omega)]
        simp [Nat.add_right_comm j 1 3]
theorem rep_miss : ∀ (x : List UInt8), Lib.index x fw = -1 → rep 0 x = x
  | [], h => rfl
  | c :: r, h => by
    rw [Lib.index] at h
    by_cases hp : fw.isPrefixOf (c :: r) = true
    · rw [if_pos hp] at h
      cases h
    · rw [if_neg hp] at h
      by_cases h1 : Lib.index r fw = -1
      · rw [rep, if_neg hp, rep_miss r h1]
      · rw [if_neg (by simpa using h1)] at h
        have := Lib.index_ge r fw
        omega
theorem repK : ∀ (n : Nat) (x : List UInt8), x.length ≤ n → Lib.replaceK fw [32] (Lib.count x fw) x = rep 0 x
  | n, x, hn => by
    by_cases h : Lib.index x fw = -1
    · rw [Lib.count_miss h, rep_miss x h]
      rfl
    · obtain ⟨i, hi⟩ : ∃ i : Nat, Lib.index x fw = i := ⟨(Lib.index x fw).toNat, by have := Lib.index_ge x fw; omega⟩
      have hr := Lib.index_room x fw (by rw [hi]; omega)
      rw [hi] at hr
      match n with
      | 0 => simp [fw] at hr; omega
      | n + 1 =>
        have hc := Lib.count_hit (s := x) (sub := fw) (i := i) (by simp [fw]) hi
        rw [hc, Nat.add_comm, Lib.replaceK_hit _ _ _ _ i hi, rep_hit x i hi]
        rw [show fw.length = 3 from rfl, repK n (x.drop (i + 3)) (by rw [List.length_drop]; simp [fw] at hr; omega)]
theorem replaceAll_rep (x : List UInt8) : Lib.replaceAll x fw [32] = rep 0 x := by
  unfold Lib.replaceAll Lib.replace Lib.replaceNum
  rw [if_neg (by simp [fw]), if_pos (.inl (by decide))]
  exact repK x.length x (Nat.le_refl _)
theorem safe_no13 {l : List UInt8} (h : 13 ∈ l) : ¬ hd.Safe l := fun x => by have := hd.ascii x 13 h; simp at this
/-- The program's value is safe just if the text can be unfolded to a safe one. -/
theorem value_iff (x : List UInt8) : hd.Safe (Lib.replaceAll x fw [32]) ↔ ∃ v, unf false x = some v ∧ hd.Safe v := by
  rw [replaceAll_rep]
  have h := unf_rep x.length x (Nat.le_refl _)
  cases hu : unf false x with
  | none => exact ⟨fun hs => absurd hs (safe_no13 (h.2 hu)), fun ⟨v, hv, _⟩ => by cases hv⟩
  | some v =>
    rw [h.1 v hu]
    exact ⟨fun hs => ⟨v, rfl, hs⟩, fun ⟨v', hv, hs⟩ => by cases hv; exact hs⟩
theorem value_eq {x v : List UInt8} (h : unf false x = some v) : Lib.replaceAll x fw [32] = v := by rw [replaceAll_rep]; exact (unf_rep x.length x (Nat.le_refl _)).1 v h

theorem rep_len : ∀ (n : Nat) (x : List UInt8), x.length ≤ n → (rep 0 x).length ≤ x.length
  | 0, x, h => by
    obtain rfl : x = [] := List.eq_nil_of_length_eq_zero (by omega)
    exact Nat.le_refl _
  | n + 1, [], h => Nat.le_refl _
  | n + 1, c :: r, h => by
    by_cases hp : fw.isPrefixOf (c :: r) = true
    · obtain ⟨q, hq⟩ := shape hp
      rw [hq] at h ⊢
      have ih := rep_len n q (by simp at h; omega)
      rw [rep_fw]
      simp
      omega
    · have ih := rep_len n r (by simp at h; omega)
      rw [rep, if_neg hp]
      simp
      omega
/-- A field's name and what is behind its colon and blank, without the end of its line. -/
def Parts (l nm x : List UInt8) : Prop := l = nm ++ (58 :: 32 :: (x ++ [13, 10])) ∧ 58 ∉ nm
theorem colon_one : ∀ (a a' b b' : List UInt8), 58 ∉ a → 58 ∉ a' → a ++ 58 :: b = a' ++ 58 :: b' → a = a' ∧ b = b'
  | [], [], b, b', _, _, h => by cases h; exact ⟨rfl, rfl⟩
  | [], y :: a', b, b', _, h2, h => by cases h; exact absurd (List.mem_cons_self) h2
  | y :: a, [], b, b', h1, _, h => by cases h; exact absurd (List.mem_cons_self) h1
  | y :: a, z :: a', b, b', h1, h2, h => by
    simp only [List.cons_append, List.cons.injEq] at h
    have := colon_one a a' b b' (fun m => h1 (List.mem_cons_of_mem _ m)) (fun m => h2 (List.mem_cons_of_mem _ m)) h.2
    exact ⟨by rw [h.1, this.1], this.2⟩
theorem parts_one {l nm x nm' x' : List UInt8} (h : Parts l nm x) (h' : Parts l nm' x') : nm = nm' ∧ x = x' := by
  have h1 := colon_one _ _ _ _ h.2 h'.2 (h.1.symm.trans h'.1)
  refine ⟨h1.1, ?_⟩
  have h2 : x ++ [13, 10] = x' ++ [13, 10] := (List.cons.inj h1.2).2
  exact List.append_cancel_right h2
/-- A text is a field of this name and value. -/
def Field (IsName : ByteArray → Prop) (l nm v : List UInt8) : Prop := ∃ x, Parts l nm x ∧ IsName ⟨nm.toArray⟩ ∧ unf false x = some v ∧ hd.Safe v
theorem field_one {P : ByteArray → Prop} {l nm v nm' v' : List UInt8} (h : Field P l nm v) (h' : Field P l nm' v') : nm = nm' ∧ v = v' := by
  obtain ⟨x, hx, _, hu, _⟩ := h
  obtain ⟨x', hx', _, hu', _⟩ := h'
  obtain ⟨rfl, rfl⟩ := parts_one hx hx'
  rw [hu] at hu'
  cases hu'
  exact ⟨rfl, rfl⟩
end Go.Proofs.YtejmfffapkmjoaaDoor.uf
