/-
  Plain facts on what is sent of a text: a point ahead of each line that begins with one, then the end; it is read back, and only at its end.
-/
import Derived.Test.YtcflfejdpjphjaaDoorDtp
import Derived.Lib.ReplaceLaws
namespace Go.Proofs.YtcflfejdpjphjaaDoor.dt
open Go
set_option linter.unusedVariables false

/-- What is sent of a text, without its end. -/
def sf : Nat → List UInt8 → List UInt8
  | _, [] => []
  | s, c :: r => if s = 0 ∧ c = 46 then 46 :: 46 :: sf 1 r else c :: sf (go s c) r
theorem sf_dot (r : List UInt8) : sf 0 (46 :: r) = 46 :: 46 :: sf 1 r := by rw [sf, if_pos ⟨rfl, rfl⟩]
theorem sf_on {s : Nat} {c : UInt8} {r : List UInt8} (h : ¬ (s = 0 ∧ c = 46)) : sf s (c :: r) = c :: sf (go s c) r := by rw [sf, if_neg h]
def tl : List UInt8 := [46, 13, 10]
/-- The state behind a text. -/
def fin : Nat → List UInt8 → Nat
  | s, [] => s
  | s, c :: r => fin (go s c) r
theorem fin_app : ∀ (a b : List UInt8) (s : Nat), fin s (a ++ b) = fin (fin s a) b
  | [], b, s => rfl
  | c :: a, b, s => by rw [List.cons_append, fin, fin, fin_app a b]
theorem go_lt (s : Nat) (c : UInt8) : go s c ≠ 3 := by unfold go; split; decide; split <;> decide
theorem sf_app : ∀ (a b : List UInt8) (s : Nat), sf s (a ++ b) = sf s a ++ sf (fin s a) b
  | [], b, s => rfl
  | c :: a, b, s => by
    rw [List.cons_append, fin]
    by_cases h : s = 0 ∧ c = 46
    · obtain ⟨rfl, rfl⟩ := h
      rw [sf_dot, sf_dot, sf_app a b, show go 0 46 = 1 from rfl]
      rfl
    · rw [sf_on h, sf_on h, sf_app a b]
      rfl
/-- A text of lines is read back. -/
theorem un_sf : ∀ (l : List UInt8) (s : Nat), s ≠ 3 → fin s l = 0 → un s (sf s l ++ tl) = (0, l)
  | [], s, h3, h => by
    obtain rfl : s = 0 := h
    exact un_end
  | c :: r, s, h3, h => by
    rw [fin] at h
    by_cases hd : s = 0 ∧ c = 46
    · obtain ⟨rfl, rfl⟩ := hd
      rw [sf_dot]
      show un 0 (46 :: (46 :: (sf 1 r ++ tl))) = _
      rw [un_dot (by intro e; cases e) rfl, un_two, un_sf r 1 (by decide) h]
      rfl
    · rw [sf_on hd]
      show un s (c :: (sf (go s c) r ++ tl)) = _
      rw [un_on h3 hd, un_sf r (go s c) (go_lt s c) h]
      rfl
theorem pre_ne {l : List UInt8} {x : Int × List UInt8} (h : x.1 ≠ 0) : (pre l x).1 ≠ 0 := by
  unfold pre
  rw [if_neg h]
  exact h
/-- Only at its end. -/
theorem un_cut : ∀ (l : List UInt8) (s k : Nat), s ≠ 3 → fin s l = 0 → k < (sf s l ++ tl).length → (un s ((sf s l ++ tl).take k)).1 ≠ 0
  | [], s, k, h3, h, hk => by
    obtain rfl : s = 0 := h
    have : k < 3 := hk
    match k, this with
    | 0, _ => decide
    | 1, _ => decide
    | 2, _ => decide
  | c :: r, s, k, h3, h, hk => by
    rw [fin] at h
    by_cases hd : s = 0 ∧ c = 46
    · obtain ⟨rfl, rfl⟩ := hd
      rw [sf_dot] at hk ⊢
      match k, hk with
      | 0, _ => show (un 0 []).1 ≠ 0; decide
      | 1, _ => show (un 0 [46]).1 ≠ 0; decide
      | k + 2, hk =>
        show (un 0 (46 :: (46 :: (sf 1 r ++ tl).take k))).1 ≠ 0
        rw [un_dot (by intro e; cases e) rfl, un_two]
        exact pre_ne (un_cut r 1 k (by decide) h (by simpa using hk))
    · rw [sf_on hd] at hk ⊢
      match k, hk with
      | 0, _ => show (un s []).1 ≠ 0; rw [un_nil]; decide
      | k + 1, hk =>
        show (un s (c :: (sf (go s c) r ++ tl).take k)).1 ≠ 0
        rw [un_on h3 hd]
        exact pre_ne (un_cut r (go s c) k (go_lt s c) h (by simpa using hk))
theorem sf_len : ∀ (l : List UInt8) (s : Nat), (sf s l).length ≤ 2 * l.length
  | [], s => Nat.le_refl _
  | c :: r, s => by
    by_cases h : s = 0 ∧ c = 46
    · obtain ⟨rfl, rfl⟩ := h
      have := sf_len r 1
      rw [sf_dot]
      simp
      omega
    · have := sf_len r (go s c)
      rw [sf_on h]
      simp
      omega
theorem sf_01 {r : List UInt8} (h : r.head? ≠ some 46) : sf 0 r = sf 1 r := by
  match r, h with
  | [], _ => rfl
  | c :: r, h =>
    rw [sf_on (fun x => h (by rw [x.2]; rfl)), sf_on (fun x => by cases x.1)]
    unfold go
    simp
theorem sf_21 {r : List UInt8} (h : r.head? ≠ some 10) : sf 2 r = sf 1 r := by
  match r, h with
  | [], _ => rfl
  | c :: r, h =>
    have hc : c ≠ 10 := fun x => h (by rw [x]; rfl)
    rw [sf_on (fun x => by cases x.1), sf_on (fun x => by cases x.1)]
    unfold go
    simp [hc]

def fw : List UInt8 := [13, 10, 46]
def nw : List UInt8 := [13, 10, 46, 46]
/-- Each end of line with the point behind it, replaced by it with one point more. -/
def rep : Nat → List UInt8 → List UInt8
  | _, [] => []
  | n + 1, _ :: r => rep n r
  | 0, c :: r => if fw.isPrefixOf (c :: r) then nw ++ rep 2 r else c :: rep 0 r
theorem pre_iff {c : UInt8} {r : List UInt8} : fw.isPrefixOf (c :: r) = true ↔ c = 13 ∧ r.head? = some 10 ∧ r.tail.head? = some 46 := by
  unfold fw
  match r with
  | [] => simp
  | [a] => simp
  | a :: b :: q =>
    simp only [List.isPrefixOf, Bool.and_eq_true, beq_iff_eq, List.head?_cons, List.tail_cons, Option.some.injEq, and_true]
    exact ⟨fun h => ⟨h.1.symm, h.2.1.symm, h.2.2.symm⟩, fun h => ⟨h.1.symm, h.2.1.symm, h.2.2.symm⟩⟩
theorem rep_fw (r : List UInt8) : rep 0 (13 :: 10 :: 46 :: r) = nw ++ rep 0 r := by
  rw [rep, if_pos (by simp [fw])]
  rfl
theorem shape {c : UInt8} {r : List UInt8} (h : fw.isPrefixOf (c :: r) = true) : ∃ q, c :: r = 13 :: 10 :: 46 :: q := by
  obtain ⟨rfl, h1, h2⟩ := pre_iff.1 h
  match r, h1, h2 with
  | a :: b :: q, h1, h2 =>
    cases h1
    cases h2
    exact ⟨q, rfl⟩
  | [a], h1, h2 => simp at h2
theorem rep_hit : ∀ (x : List UInt8) (i : Nat), Lib.index x fw = i → rep 0 x = x.take i ++ nw ++ rep 0 (x.drop (i + 3))
  | [], i, h => by simp [Lib.index, fw] at h
  | c :: r, i, h => by
    rw [Lib.index] at h
    by_cases hp : fw.isPrefixOf (c :: r) = true
    · rw [if_pos hp] at h
      obtain rfl : i = 0 := by omega
      obtain ⟨q, hq⟩ := shape hp
      rw [hq, rep_fw]
      rfl
    · rw [if_neg hp] at h
      have hge := Lib.index_ge r fw
      by_cases h1 : Lib.index r fw = -1
      · rw [if_pos (by rw [h1]; rfl)] at h
        omega
      · rw [if_neg (by simpa using h1)] at h
        obtain ⟨j, rfl⟩ : ∃ j, i = j + 1 := ⟨i - 1, by omega⟩
        rw [rep, if_neg hp, rep_hit r j (by omega)]
        simp [Nat.add_right_comm j 1 3]
theorem rep_miss : ∀ (x : List UInt8), Lib.index x fw = -1 → rep 0 x = x
  | [], h => rfl
  | c :: r, h => by
    rw [Lib.index] at h
    by_cases hp : fw.isPrefixOf (c :: r) = true
    · rw [if_pos hp] at h
      cases h
    · rw [if_neg hp] at h
      by_cases h1 : Lib.index r fw = -1
      · rw [rep, if_neg hp, rep_miss r h1]
      · rw [if_neg (by simpa using h1)] at h
        have := Lib.index_ge r fw
        omega
theorem repK : ∀ (n : Nat) (x : List UInt8), x.length ≤ n → Lib.replaceK fw nw (Lib.count x fw) x = rep 0 x
  | n, x, hn => by
    by_cases h : Lib.index x fw = -1
    · rw [Lib.count_miss h, rep_miss x h]
      rfl
    · obtain ⟨i, hi⟩ : ∃ i : Nat, Lib.index x fw = i := ⟨(Lib.index x fw).toNat, by have := Lib.index_ge x fw; omega⟩
      have hr := Lib.index_room x fw (by rw [hi]; omega)
      rw [hi] at hr
      match n with
      | 0 => simp [fw] at hr; omega
      | n + 1 =>
        have hc := Lib.count_hit (s := x) (sub := fw) (i := i) (by simp [fw]) hi
        rw [hc, Nat.add_comm, Lib.replaceK_hit _ _ _ _ i hi, rep_hit x i hi]
        rw [show fw.length = 3 from rfl, repK n (x.drop (i + 3)) (by rw [List.length_drop]; simp [fw] at hr; omega)]
theorem replaceAll_rep (x : List UInt8) : Lib.replaceAll x fw nw = rep 0 x := by
  unfold Lib.replaceAll Lib.replace Lib.replaceNum
  rw [if_neg (by simp [fw, nw]), if_pos (.inl (by decide))]
  exact repK x.length x (Nat.le_refl _)
theorem rep_no {c : UInt8} {r : List UInt8} (h : ¬ (c = 13 ∧ r.head? = some 10 ∧ r.tail.head? = some 46)) : rep 0 (c :: r) = c :: rep 0 r := by
  rw [rep, if_neg (fun x => h (pre_iff.1 x))]
/-- What is replaced is what is sent. -/
theorem rep_sf : ∀ (n : Nat) (l : List UInt8), l.length ≤ n → rep 0 l = sf 1 l
  | _, [], _ => rfl
  | 0, c :: r, h => by simp at h
  | n + 1, c :: r, h => by
    have hr : r.length ≤ n := by simpa using h
    have one : ∀ {c : UInt8} {r : List UInt8}, sf 1 (c :: r) = c :: sf (go 1 c) r := fun {c r} => sf_on (fun x => by cases x.1)
    have two : ∀ {c : UInt8} {r : List UInt8}, sf 2 (c :: r) = c :: sf (go 2 c) r := fun {c r} => sf_on (fun x => by cases x.1)
    by_cases hc : c = 13
    · subst hc
      by_cases h1 : r.head? = some 10
      · match r, h1, hr with
        | d :: q, h1, hr =>
          cases h1
          rw [one, show go 1 13 = 2 from rfl, two, show go 2 10 = 0 from rfl]
          by_cases h2 : q.head? = some 46
          · match q, h2, hr with
            | e :: q, h2, hr =>
              cases h2
              rw [rep_fw, sf_dot, rep_sf n q (by simp at hr; omega)]
              rfl
          · rw [rep_no (r := 10 :: q) (fun x => h2 x.2.2), rep_no (c := 10) (r := q) (fun x => by cases x.1), rep_sf n q (by simp at hr; omega), sf_01 h2]
      · rw [rep_no (fun x => h1 x.2.1), one, rep_sf n r hr, show go 1 13 = 2 from rfl, sf_21 h1]
    · rw [rep_no (fun x => hc x.1), one, rep_sf n r hr]
      unfold go
      rw [if_neg hc, if_neg (fun x => by cases x.1)]
theorem rep_lines (l : List UInt8) : rep 0 (13 :: 10 :: l) = 13 :: 10 :: sf 0 l := by
  rw [rep_sf (13 :: 10 :: l).length _ (Nat.le_refl _), sf_on (fun x => by cases x.1), show go 1 13 = 2 from rfl, sf_on (fun x => by cases x.1)]
  rfl
end Go.Proofs.YtcflfejdpjphjaaDoor.dt
