/-
  A text parted at each sign of one kind: the library's way, and the specification's.
-/
import Derived.Test.YtejmfffapkmjoaaDoorOwn
import Derived.Test.YtejmfffapkmjoaaDoorRows
import Derived.Test.YtejmfffapkmjoaaDoorShf
import Derived.WalkKit
import Derived.WalkLawsBesides
import Derived.Laws.AppendOwn
import Derived.Lib.FieldsLaws
import Derived.Below
namespace Go.Proofs.YtejmfffapkmjoaaDoor.sp
open Go.RowKit
set_option linter.unusedVariables false

/-- The parts of a text. -/
def cutS (c : UInt8) : List UInt8 → List UInt8 → List (List UInt8)
  | acc, [] => [acc]
  | acc, b :: l => if b = c then acc :: cutS c [] l else cutS c (acc ++ [b]) l
theorem cutS_ne (c : UInt8) : ∀ (l acc : List UInt8), cutS c acc l ≠ []
  | [], acc => by simp [cutS]
  | b :: l, acc => by
    rw [cutS]
    split
    · simp
    · exact cutS_ne c l _
theorem cutS_len (c : UInt8) : ∀ (l acc : List UInt8), (cutS c acc l).length ≤ l.length + 1
  | [], acc => by simp [cutS]
  | b :: l, acc => by
    rw [cutS]
    split
    · have := cutS_len c l []
      simp
      omega
    · have := cutS_len c l (acc ++ [b])
      simp
      omega
theorem cutS_small (c : UInt8) : ∀ (l acc : List UInt8) (x : List UInt8), x ∈ cutS c acc l → x.length ≤ acc.length + l.length
  | [], acc, x, h => by
    simp [cutS] at h
    subst h
    simp
  | b :: l, acc, x, h => by
    rw [cutS] at h
    split at h
    · rcases List.mem_cons.1 h with rfl | h
      · simp
      · have := cutS_small c l [] x h
        simp at this ⊢
        omega
    · have := cutS_small c l _ x h
      simp at this ⊢
      omega
theorem cutS_none (c : UInt8) : ∀ (u acc : List UInt8), (∀ b ∈ u, b ≠ c) → cutS c acc u = [acc ++ u]
  | [], acc, _ => by simp [cutS]
  | b :: u, acc, h => by
    rw [cutS, if_neg (h b List.mem_cons_self), cutS_none c u _ (fun x hx => h x (List.mem_cons_of_mem _ hx))]
    simp
theorem cutS_at (c : UInt8) : ∀ (u acc r : List UInt8), (∀ b ∈ u, b ≠ c) → cutS c acc (u ++ c :: r) = (acc ++ u) :: cutS c [] r
  | [], acc, r, _ => by simp [cutS]
  | b :: u, acc, r, h => by
    rw [List.cons_append, cutS, if_neg (h b List.mem_cons_self), cutS_at c u _ r (fun x hx => h x (List.mem_cons_of_mem _ hx))]
    simp
theorem index_c (c : UInt8) : ∀ (l : List UInt8), (Lib.index l [c] = -1 ∧ (∀ b ∈ l, b ≠ c)) ∨ ∃ u r, l = u ++ c :: r ∧ (∀ b ∈ u, b ≠ c) ∧ Lib.index l [c] = u.length
  | [] => .inl ⟨rfl, (fun b hb => by cases hb)⟩
  | b :: l => by
    by_cases h : b = c
    · subst h
      exact .inr ⟨[], l, rfl, (fun b hb => by cases hb), (by rw [Lib.index]; simp [List.isPrefixOf])⟩
    · have hp : ([c] : List UInt8).isPrefixOf (b :: l) = false := by simp [List.isPrefixOf, Ne.symm h]
      rcases index_c c l with ⟨h1, h2⟩ | ⟨u, r, e, h2, h3⟩
      · refine .inl ⟨by rw [Lib.index, hp, h1]; rfl, fun x hx => ?_⟩
        rcases List.mem_cons.1 hx with rfl | hx
        · exact h
        · exact h2 x hx
      · refine .inr ⟨b :: u, r, by rw [e]; rfl, fun x hx => ?_, ?_⟩
        · rcases List.mem_cons.1 hx with rfl | hx
          · exact h
          · exact h2 x hx
        · rw [Lib.index, hp, h3]
          simp
theorem split_c (c : UInt8) : ∀ (n : Nat) (l : List UInt8), l.length ≤ n → Lib.splitK [c] 0 (l.count c) l = cutS c [] l
  | n, l, hn => by
    rcases index_c c l with ⟨h1, h2⟩ | ⟨u, r, e, h2, h3⟩
    · have hc : l.count c = 0 := List.count_eq_zero.2 (fun hm => h2 c hm rfl)
      rw [hc, cutS_none c l [] h2]
      rfl
    · have hc : l.count c = r.count c + 1 := by
        rw [e, List.count_append, List.count_eq_zero.2 (fun hm => h2 c hm rfl), List.count_cons_self]
        omega
      rw [hc, Lib.splitK, h3]
      rw [if_neg (by simp)]
      match n, hn with
      | 0, hn => rw [e] at hn; simp at hn
      | n + 1, hn =>
        have e1 : l.drop (((u.length : Nat) : Int).toNat + ([c] : List UInt8).length) = r := by rw [e]; simp
        have e2 : l.take (((u.length : Nat) : Int).toNat + 0) = u := by rw [e]; simp
        rw [e1, e2, split_c c n r (by rw [e] at hn; simp at hn; omega), e, cutS_at c u [] r h2]
        rfl
/-- Words lie where a slice leads to. -/
def WordsAt (V : List (List UInt8)) (v : Value) (w : World) : Prop := ∃ b cap, v = .slice (some ⟨b, 0, none⟩) V.length cap ∧ b < w.heap.size ∧ ∀ j, j < V.length → w.cell? ⟨b, j, none⟩ = some (.string ⟨(V.getD j []).toArray⟩)
theorem words_below {V : List (List UInt8)} {v : Value} {w w' : World} (h : WordsAt V v w) (hb : Below w.heap.size w w') : WordsAt V v w' := by
  obtain ⟨b, cap, rfl, hl, hc⟩ := h
  exact ⟨b, cap, rfl, by have := hb.size; omega, fun j hj => (hb.cell (p := ⟨b, j, none⟩) hl).trans (hc j hj)⟩
theorem infoStr : (Tryd.prog.info? 9).map (fun i => (i.zero, i.size, i.bytes)) = some (some (.string ByteArray.empty), 1, 16) := by kernel_rfl
/-- A text as a value. -/
def tv (l : List UInt8) : Value := .string ⟨l.toArray⟩
def piece (s : ByteArray) (f i : Nat) : List UInt8 := (s.data.toList.drop f).take (i - f)
theorem tv_piece (s : ByteArray) (f i : Nat) : tv (piece s f i) = .string (s.extract f i) := by
  unfold tv piece
  congr 1
  apply ByteArray.ext
  rw [← Array.toList_inj]
  show (List.take _ _).toArray.toList = _
  rw [List.toList_toArray, ← Lib.toList_data (s.extract f i), Lib.extract_toList]
theorem drop_at (s : ByteArray) (i : Nat) (h : i < s.size) : s.data.toList.drop i = s[i] :: s.data.toList.drop (i + 1) := by
  rw [List.drop_eq_getElem_cons (by simpa using h)]
  rfl
theorem cut_blank {c : UInt8} {s : ByteArray} {f i : Nat} {ws : List (List UInt8)} (h : ws ++ cutS c (piece s f i) (s.data.toList.drop i) = cutS c [] s.data.toList) (hi : i < s.size) (hb : (s[i]'hi).toNat = c.toNat) :
    (ws ++ [piece s f i]) ++ cutS c (piece s (i + 1) (i + 1)) (s.data.toList.drop (i + 1)) = cutS c [] s.data.toList := by
  rw [drop_at s i hi, cutS, if_pos (UInt8.toNat_inj.1 hb)] at h
  rw [← h, show piece s (i + 1) (i + 1) = [] from by simp [piece], List.append_assoc]
  rfl
theorem cut_sign {c : UInt8} {s : ByteArray} {f i : Nat} {ws : List (List UInt8)} (h : ws ++ cutS c (piece s f i) (s.data.toList.drop i) = cutS c [] s.data.toList) (hf : f ≤ i) (hi : i < s.size) (hb : (s[i]'hi).toNat ≠ c.toNat) :
    ws ++ cutS c (piece s f (i + 1)) (s.data.toList.drop (i + 1)) = cutS c [] s.data.toList := by
  rw [drop_at s i hi, cutS, if_neg (fun e => hb (by rw [e]))] at h
  rw [← h, show piece s f (i + 1) = piece s f i ++ [s[i]] from Lib.piece_more hf (by rw [List.getElem?_eq_getElem (by simpa using hi)]; rfl)]
theorem cut_end {c : UInt8} {s : ByteArray} {f i : Nat} {ws : List (List UInt8)} (h : ws ++ cutS c (piece s f i) (s.data.toList.drop i) = cutS c [] s.data.toList) (hi : s.size ≤ i) : ws ++ [piece s f i] = cutS c [] s.data.toList := by
  rw [List.drop_eq_nil_of_le (by rw [← Lib.size_eq]; exact hi)] at h
  exact h

theorem words_own {w : World} {base e : Nat} {v : Value} {V : List (List UInt8)} (h : w.ownsRow base e 1 v V.length (V.map tv)) (hne : V ≠ []) : WordsAt V v w := by
  have h0 := h
  obtain ⟨h1, h2⟩ := h
  rcases h2 with ⟨_, h2⟩ | ⟨g, cap, cur, rfl, b, c, d, e1⟩
  · exact absurd (List.length_eq_zero_iff.1 h2) hne
  · refine ⟨g, cap, rfl, (Array.getElem?_eq_some_iff.1 c).1, fun j hj => ?_⟩
    rw [h0.cellAt j (by omega), List.getElem?_map, List.getElem?_eq_getElem hj]
    simp [tv, List.getD_eq_getElem?_getD, hj]
/-- What the library's Cut answers at a sign. -/
def Cut1 (c : UInt8) (l u r : List UInt8) (B : Bool) : Prop := (B = true ∧ l = u ++ c :: r ∧ (∀ b ∈ u, b ≠ c)) ∨ (B = false ∧ l = u ∧ r = [] ∧ (∀ b ∈ u, b ≠ c))
theorem cut1_any (c : UInt8) (s : ByteArray) (hs : s.size ≤ 1048576) (w : World) (mx : Int) (hm : w.cell? ⟨1, 0, none⟩ = some (.int .i64 mx)) :
    Calls Tryd.prog 34 #[.string s, .string ⟨#[c]⟩] w fun e w' => ∃ u r B, e = .returned (.tuple #[.string ⟨u.toArray⟩, .string ⟨r.toArray⟩, .bool B]) ∧ Cut1 c s.data.toList u r B ∧ ∃ n, w' = w.drewN n := by
  refine (Tryd.strings_Cut s ⟨#[c]⟩ mx w (by omega) hm).mono ?_
  rintro e w' ⟨rfl, hw⟩
  refine ⟨_, _, _, rfl, ?_, hw⟩
  have e0 : (⟨#[c]⟩ : ByteArray).data.toList = [c] := rfl
  rw [e0]
  rcases index_c c s.data.toList with ⟨h1, h2⟩ | ⟨u, r, e, h2, h3⟩
  · right
    simp only [Lib.cut, h1]
    simpa using h2
  · left
    simp only [Lib.cut, h3]
    rw [if_pos (by omega)]
    refine ⟨rfl, ?_, ?_⟩
    · rw [e]; simp
    · rw [e]; simpa using h2
end Go.Proofs.YtejmfffapkmjoaaDoor.sp
