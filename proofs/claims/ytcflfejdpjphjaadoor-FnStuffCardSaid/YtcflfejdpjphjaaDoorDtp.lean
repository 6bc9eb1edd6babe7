/-
  Plain facts on blocks of lines: what is read back of one, what is sent of a text, and that they are each other's way back.
-/
import Derived.Lib.IndexMore
import Derived.Lib.IndexLaws
namespace Go.Proofs.YtcflfejdpjphjaaDoor.dt
open Go
set_option linter.unusedVariables false

def nl : List UInt8 := [13, 10]
/-- What a code and bytes are where more bytes stand ahead. -/
def pre (l : List UInt8) (x : Int × List UInt8) : Int × List UInt8 := if x.1 = 0 then (0, l ++ x.2) else (x.1, [])
theorem pre_pre (a b : List UInt8) (x : Int × List UInt8) : pre a (pre b x) = pre (a ++ b) x := by
  unfold pre
  by_cases h : x.1 = 0
  · rw [if_pos h, if_pos rfl, if_pos h]
    simp
  · rw [if_neg h, if_neg h, if_neg h]
/-- What state a byte leads to: 0 a line begins, 1 within one, 2 behind a byte 13. -/
def go (s : Nat) (c : UInt8) : Nat := if c = 13 then 2 else if s = 2 ∧ c = 10 then 0 else 1
/-- What is read of a block; 3 is the state behind a point that another one follows. -/
def un : Nat → List UInt8 → Int × List UInt8
  | _, [] => (18, [])
  | s, c :: r => if s = 3 then pre [c] (un 1 r) else if s = 0 ∧ c = 46 then (if r = nl then (0, []) else if r.head? = some 46 then un 3 r else (3, [])) else pre [c] (un (go s c) r)
theorem un_nil (s : Nat) : un s [] = (18, []) := by cases s <;> rfl
theorem un_two (r : List UInt8) : un 3 (46 :: r) = pre [46] (un 1 r) := by rw [un, if_pos rfl]
theorem un_on {s : Nat} {c : UInt8} {r : List UInt8} (h3 : s ≠ 3) (h : ¬ (s = 0 ∧ c = 46)) : un s (c :: r) = pre [c] (un (go s c) r) := by rw [un, if_neg h3, if_neg h]
theorem un_end : un 0 [46, 13, 10] = (0, []) := by decide
theorem un_bad {r : List UInt8} (h1 : r ≠ nl) (h2 : r.head? ≠ some 46) : un 0 (46 :: r) = (3, []) := by rw [un, if_neg (by decide), if_pos ⟨rfl, rfl⟩, if_neg h1, if_neg h2]
theorem un_dot {r : List UInt8} (h1 : r ≠ nl) (h2 : r.head? = some 46) : un 0 (46 :: r) = un 3 r := by rw [un, if_neg (by decide), if_pos ⟨rfl, rfl⟩, if_neg h1, if_pos h2]
theorem pre_or (l : List UInt8) (x : Int × List UInt8) : (pre l x).1 = 0 ∨ (pre l x).2 = [] := by
  unfold pre
  split
  · exact .inl rfl
  · exact .inr rfl
theorem un_or : ∀ (l : List UInt8) (s : Nat), (un s l).1 = 0 ∨ (un s l).2 = []
  | [], s => .inr (by rw [un_nil])
  | c :: r, s => by
    rw [un]
    split
    · exact pre_or _ _
    · split
      · split
        · exact .inl rfl
        · split
          · exact un_or r 3
          · exact .inr rfl
      · exact pre_or _ _
theorem pre_nil (s : Nat) (l : List UInt8) : pre [] (un s l) = un s l := by
  unfold pre
  by_cases h : (un s l).1 = 0
  · rw [if_pos h]
    simp [← h]
  · rw [if_neg h, ← (un_or l s).resolve_left h]
/-- The end of a line comes at once. -/
def Hits (l : List UInt8) : Prop := nl.isPrefixOf l = true
theorem hits_iff {c : UInt8} {r : List UInt8} : nl.isPrefixOf (c :: r) = true ↔ c = 13 ∧ r.head? = some 10 := by
  unfold nl
  match r with
  | [] => simp
  | a :: q =>
    simp only [List.isPrefixOf, Bool.and_eq_true, beq_iff_eq, List.head?_cons, Option.some.injEq, and_true]
    exact ⟨fun h => ⟨h.1.symm, h.2.symm⟩, fun h => ⟨h.1.symm, h.2.symm⟩⟩
theorem index_cons (c : UInt8) (r : List UInt8) : Lib.index (c :: r) nl = if nl.isPrefixOf (c :: r) then 0 else if Lib.index r nl == -1 then -1 else Lib.index r nl + 1 := by rw [Lib.index]
theorem miss_tail {c : UInt8} {r : List UInt8} (h : Lib.index (c :: r) nl = -1) : ¬ (c = 13 ∧ r.head? = some 10) ∧ Lib.index r nl = -1 := by
  rw [index_cons] at h
  by_cases hp : nl.isPrefixOf (c :: r) = true
  · rw [if_pos hp] at h; cases h
  · rw [if_neg hp] at h
    refine ⟨fun e => hp (hits_iff.2 e), ?_⟩
    by_cases e : Lib.index r nl = -1
    · exact e
    · rw [if_neg (by simpa using e)] at h
      have := Lib.index_ge r nl
      omega
/-- Where no line ends, the end does not come. -/
theorem un_miss : ∀ (l : List UInt8) (s : Nat), Lib.index l nl = -1 → (s = 1 ∨ s = 2 ∧ l.head? ≠ some 10) → un s l = (18, [])
  | [], s, _, _ => un_nil s
  | c :: r, s, h, hs => by
    obtain ⟨h1, h2⟩ := miss_tail h
    have hg : go s c = 1 ∨ go s c = 2 ∧ r.head? ≠ some 10 := by
      unfold go
      by_cases hc : c = 13
      · rw [if_pos hc]; exact .inr ⟨rfl, fun e => h1 ⟨hc, e⟩⟩
      · rw [if_neg hc, if_neg (by rintro ⟨rfl, rfl⟩; rcases hs with hs | hs; cases hs; exact hs.2 rfl)]
        exact .inl rfl
    rw [un_on (by rcases hs with rfl | ⟨rfl, _⟩ <;> decide) (by rintro ⟨rfl, _⟩; rcases hs with hs | ⟨hs, _⟩ <;> cases hs), un_miss r _ h2 hg]
    rfl
/-- A line, its end and what is behind. -/
theorem un_hit : ∀ (l : List UInt8) (s i : Nat), Lib.index l nl = i → (s = 1 ∨ s = 2 ∧ l.head? ≠ some 10) → un s l = pre (l.take (i + 2)) (un 0 (l.drop (i + 2)))
  | [], s, i, h, _ => by simp [Lib.index, nl] at h
  | c :: r, s, i, h, hs => by
    have h3 : s ≠ 3 := by rcases hs with rfl | ⟨rfl, _⟩ <;> decide
    have h0 : ¬ (s = 0 ∧ c = 46) := by rintro ⟨rfl, _⟩; rcases hs with hs | ⟨hs, _⟩ <;> cases hs
    rw [index_cons] at h
    by_cases hp : nl.isPrefixOf (c :: r) = true
    · rw [if_pos hp] at h
      obtain rfl : i = 0 := by omega
      obtain ⟨rfl, h2⟩ := hits_iff.1 hp
      match r, h2 with
      | b :: q, h2 =>
        cases h2
        rw [un_on h3 h0, show go s 13 = 2 from rfl, un_on (by decide) (by decide), pre_pre]
        rfl
    · rw [if_neg hp] at h
      have h1 : ¬ (c = 13 ∧ r.head? = some 10) := fun e => hp (hits_iff.2 e)
      by_cases e : Lib.index r nl = -1
      · rw [if_pos (by rw [e]; rfl)] at h; omega
      · rw [if_neg (by simpa using e)] at h
        have := Lib.index_ge r nl
        obtain ⟨j, rfl⟩ : ∃ j, i = j + 1 := ⟨i - 1, by omega⟩
        have hg : go s c = 1 ∨ go s c = 2 ∧ r.head? ≠ some 10 := by
          unfold go
          by_cases hc : c = 13
          · rw [if_pos hc]; exact .inr ⟨rfl, fun e => h1 ⟨hc, e⟩⟩
          · rw [if_neg hc, if_neg (by rintro ⟨rfl, rfl⟩; rcases hs with hs | hs; cases hs; exact hs.2 rfl)]
            exact .inl rfl
        rw [un_on h3 h0, un_hit r _ j (by omega) hg, pre_pre]
        rfl
/-- A line that begins: with no point. -/
theorem un_start {c : UInt8} {r : List UInt8} (hc : c ≠ 46) : un 0 (c :: r) = un 1 (c :: r) := by
  rw [un_on (by decide) (fun h => hc h.2), un_on (by decide) (fun h => hc h.2)]
  unfold go
  simp
/-- The first line of a text, what is behind it, whether it ends. -/
def CutIs (l a r : List UInt8) (b : Bool) : Prop := (b = true ∧ ∃ i : Nat, Lib.index l nl = i ∧ a = l.take i ∧ r = l.drop (i + 2) ∧ l = a ++ nl ++ r) ∨ (b = false ∧ Lib.index l nl = -1 ∧ a = l ∧ r = [])
theorem take_hit : ∀ (l : List UInt8) (i : Nat), Lib.index l nl = i → l = l.take i ++ nl ++ l.drop (i + 2)
  | [], i, h => by simp [Lib.index, nl] at h
  | c :: r, i, h => by
    rw [index_cons] at h
    by_cases hp : nl.isPrefixOf (c :: r) = true
    · rw [if_pos hp] at h
      obtain rfl : i = 0 := by omega
      obtain ⟨rfl, h2⟩ := hits_iff.1 hp
      match r, h2 with
      | b :: q, h2 => cases h2; rfl
    · rw [if_neg hp] at h
      by_cases e : Lib.index r nl = -1
      · rw [if_pos (by rw [e]; rfl)] at h; omega
      · rw [if_neg (by simpa using e)] at h
        have := Lib.index_ge r nl
        obtain ⟨j, rfl⟩ : ∃ j, i = j + 1 := ⟨i - 1, by omega⟩
        have ih := take_hit r j (by omega)
        simp only [List.take_succ_cons, List.drop_succ_cons, List.cons_append, List.cons.injEq, true_and]
        simpa [Nat.add_right_comm] using ih
theorem cut_is (l : List UInt8) : CutIs l (Lib.cut l nl).1 (Lib.cut l nl).2.1 (Lib.cut l nl).2.2 := by
  by_cases h : Lib.index l nl = -1
  · have e : Lib.cut l nl = (l, [], false) := by unfold Lib.cut; rw [if_neg (by rw [h]; decide)]
    rw [e]
    exact .inr ⟨rfl, h, rfl, rfl⟩
  · obtain ⟨i, hi⟩ : ∃ i : Nat, Lib.index l nl = i := ⟨(Lib.index l nl).toNat, by have := Lib.index_ge l nl; omega⟩
    have e : Lib.cut l nl = (l.take i, l.drop (i + 2), true) := by
      unfold Lib.cut
      rw [if_pos (by rw [hi]; omega), hi]
      rfl
    rw [e]
    exact .inl ⟨rfl, i, hi, rfl, rfl, take_hit l i hi⟩
def PreIs (l r : List UInt8) (b : Bool) : Prop := (b = true ∧ l = 46 :: r) ∨ (b = false ∧ r = l ∧ l.head? ≠ some 46)
theorem pre_is (l : List UInt8) : PreIs l (Lib.trimPrefix l [46]) (Lib.hasPrefix l [46]) := by
  unfold Lib.trimPrefix Lib.hasPrefix
  match l with
  | [] => exact .inr ⟨rfl, rfl, by simp⟩
  | c :: r =>
    by_cases hc : c = 46
    · subst hc
      exact .inl ⟨rfl, rfl⟩
    · have hp : [46].isPrefixOf (c :: r) = false := by
        rw [Bool.eq_false_iff]
        intro h
        simp only [List.isPrefixOf, Bool.and_true, beq_iff_eq] at h
        exact hc h.symm
      rw [hp]
      exact .inr ⟨rfl, rfl, by simpa using hc⟩
theorem has_dot (l : List UInt8) : Lib.hasPrefix l [46] = decide (l.head? = some 46) := by
  unfold Lib.hasPrefix
  match l with
  | [] => rfl
  | c :: r =>
    rw [Bool.eq_iff_iff]
    simp only [List.isPrefixOf, Bool.and_true, beq_iff_eq, List.head?_cons, decide_eq_true_iff, Option.some.injEq]
    exact eq_comm
/-- A line that is a point alone, at the end. -/
theorem line_end {l a r q : List UInt8} (h : CutIs l a r true) (hp : a = 46 :: q) (hq : q = []) (hr : r = []) : un 0 l = (0, []) := by
  rcases h with ⟨_, i, _, _, _, he⟩ | ⟨e, _⟩
  · rw [he, hp, hq, hr]; exact un_end
  · cases e
/-- A point that neither a point nor the end follows. -/
theorem line_bad {l a r q : List UInt8} {b : Bool} (h : CutIs l a r b) (hp : a = 46 :: q) (hn : ¬ (q = [] ∧ b = true ∧ r = [])) (hd : q.head? ≠ some 46) : un 0 l = (3, []) := by
  rcases h with ⟨rfl, i, hi, ha, hr, he⟩ | ⟨rfl, hi, ha, _⟩
  · rw [he, hp]
    refine un_bad ?_ ?_
    · intro e
      have e' : q ++ nl ++ r = nl := e
      have hl := congrArg List.length e'
      simp [nl] at hl
      obtain rfl : q = [] := List.eq_nil_of_length_eq_zero (by omega)
      obtain rfl : r = [] := List.eq_nil_of_length_eq_zero (by omega)
      exact hn ⟨rfl, rfl, rfl⟩
    · intro e
      match q, hd, e with
      | [], _, e => simp [nl] at e
      | c :: q, hd, e => exact hd (by simpa using e)
  · have hl : l = 46 :: q := by rw [← ha, hp]
    rw [hl]
    refine un_bad ?_ hd
    intro e
    rw [hl, e] at hi
    simp [Lib.index, nl] at hi
theorem index_at_dot {q : List UInt8} : ∀ {i : Nat}, Lib.index (46 :: q) nl = i → ∃ j, i = j + 1 ∧ Lib.index q nl = j := by
  intro i h
  rw [index_cons, if_neg (by rw [hits_iff]; rintro ⟨h, _⟩; cases h)] at h
  by_cases e : Lib.index q nl = -1
  · rw [if_pos (by rw [e]; rfl)] at h; omega
  · rw [if_neg (by simpa using e)] at h
    have := Lib.index_ge q nl
    exact ⟨i - 1, by omega, by omega⟩
/-- A line that does not end, with no point ahead or with two. -/
theorem line_more {l a r q : List UInt8} {b : Bool} (h : CutIs l a r false) (hp : PreIs a q b) (hd : b = true → q.head? = some 46) : un 0 l = (18, []) := by
  rcases h with ⟨e, _⟩ | ⟨_, hi, rfl, _⟩
  · cases e
  rcases hp with ⟨rfl, rfl⟩ | ⟨rfl, rfl, hh⟩
  · have hq := hd rfl
    match q, hq with
    | c :: q, hq =>
      cases hq
      obtain ⟨_, h2⟩ := miss_tail hi
      obtain ⟨_, h3⟩ := miss_tail h2
      rw [un_dot (by intro e; cases e) rfl, un_two, un_miss q 1 h3 (.inl rfl)]
      rfl
  · match q, hh with
    | [], _ => exact un_nil 0
    | c :: q, hh =>
      rw [un_start (by simpa using hh), un_miss _ 1 hi (.inl rfl)]
/-- A line that ends, with no point ahead or with two. -/
theorem line_next {l a r q : List UInt8} {b : Bool} (h : CutIs l a r true) (hp : PreIs a q b) (hd : b = true → q.head? = some 46) : un 0 l = pre (q ++ nl) (un 0 r) := by
  rcases h with ⟨_, i, hi, ha, hr, he⟩ | ⟨e, _⟩
  case inr => cases e
  rcases hp with ⟨rfl, rfl⟩ | ⟨rfl, rfl, hh⟩
  · have hq := hd rfl
    match q, hq with
    | c :: q, hq =>
      cases hq
      have hi' := hi
      rw [he] at hi
      obtain ⟨j, rfl, h2⟩ := index_at_dot hi
      obtain ⟨j, rfl, h3⟩ := index_at_dot h2
      rw [he]
      rw [show 46 :: 46 :: q ++ nl ++ r = 46 :: (46 :: (q ++ nl ++ r)) from rfl, un_dot (by intro e; cases e) rfl, un_two, un_hit (q ++ nl ++ r) 1 j h3 (.inl rfl), pre_pre]
      have hlen : q.length = j := by
        have := congrArg List.length ha
        rw [List.length_take] at this
        have h4 := congrArg List.length he
        simp [nl] at this h4
        omega
      have hz : q ++ nl ++ r = (q ++ nl) ++ r := rfl
      rw [List.take_left' (by simp [nl, hlen]), List.drop_left' (by simp [nl, hlen])]
      rfl
  · have hu : un 0 l = un 1 l := by
      match l, hi with
      | [], hi => simp [Lib.index, nl] at hi
      | c :: t, hi =>
        refine un_start ?_
        rintro rfl
        obtain ⟨j, rfl, _⟩ := index_at_dot hi
        rw [ha] at hh
        simp at hh
    rw [hu, un_hit l 1 i hi (.inl rfl), ← hr]
    congr 1
    rw [he]
    have hlen : q.length = i := by
      have := congrArg List.length ha
      rw [List.length_take] at this
      have h4 := congrArg List.length he
      simp [nl] at this h4
      omega
    rw [List.take_left' (by simp [nl, hlen])]
end Go.Proofs.YtcflfejdpjphjaaDoor.dt
