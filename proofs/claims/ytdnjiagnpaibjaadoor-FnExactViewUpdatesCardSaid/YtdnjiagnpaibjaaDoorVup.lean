/-
  What leads from a view to a box's uids, plainly.
-/
import Derived.Test.YtdnjiagnpaibjaaDoorStc
import Derived.Test.YtdnjiagnpaibjaaDoorVwa
import Derived.Test.YtdnjiagnpaibjaaDoorDig
import Derived.Test.YtdnjiagnpaibjaaDoorInc
import Derived.Test.YtdnjiagnpaibjaaDoorBld
namespace Go.Proofs.YtdnjiagnpaibjaaDoor.vu
open Go.RowKit
set_option linter.unusedVariables false

/-- A uid is there. -/
def fnd (us : List Int) (z : Int) : Bool := us.any (fun u => decide (u = z))
theorem fnd_iff (us : List Int) (z : Int) : fnd us z = true ↔ ∃ k, k < us.length ∧ us.getD k 0 = z := by
  unfold fnd
  rw [List.any_eq_true]
  constructor
  · rintro ⟨u, hu, h⟩
    obtain ⟨j, hj, e⟩ := List.getElem_of_mem hu
    exact ⟨j, hj, by rw [List.getD_eq_getElem?_getD, List.getElem?_eq_getElem hj]; exact e.trans (of_decide_eq_true h)⟩
  · rintro ⟨j, hj, e⟩
    rw [List.getD_eq_getElem?_getD, List.getElem?_eq_getElem hj] at e
    exact ⟨us[j], List.getElem_mem hj, decide_eq_true e⟩
/-- Those of the first k that are there. -/
def l1 (us zs : List Int) : Nat → List Int
  | 0 => []
  | k + 1 => l1 us zs k ++ (if fnd us (zs.getD k 0) = true then [zs.getD k 0] else [])
def wGone : List UInt8 := [69, 88, 80, 85, 78, 71, 69]
def wThere : List UInt8 := [69, 88, 73, 83, 84, 83]
/-- A line with a count. -/
def cl (n : Nat) (wd : List UInt8) : List UInt8 := [42, 32] ++ Lib.decDigits n ++ [32] ++ wd ++ [13, 10]
def s1 (us zs : List Int) : Nat → List UInt8
  | 0 => []
  | k + 1 => s1 us zs k ++ (if fnd us (zs.getD k 0) = true then [] else cl ((l1 us zs k).length + 1) wGone)
def lst (l : List Int) : Int := l.getD (l.length - 1) 0
def l2 (us left : List Int) (last : Int) : Nat → List Int
  | 0 => left
  | k + 1 => l2 us left last k ++ (if last < us.getD k 0 then [us.getD k 0] else [])
/-- All that is said, and the view then. -/
def al (us zs : List Int) : List Int := l2 us (l1 us zs zs.length) (lst (l1 us zs zs.length)) us.length
def sd (us zs : List Int) : List UInt8 := s1 us zs zs.length ++ (if (l1 us zs zs.length).length < (al us zs).length then cl (al us zs).length wThere else [])
theorem l1_len (us zs : List Int) : ∀ k, (l1 us zs k).length ≤ k
  | 0 => Nat.le_refl _
  | k + 1 => by
    have := l1_len us zs k
    rw [l1, List.length_append]
    split <;> simp <;> omega
theorem l2_len (us left : List Int) (last : Int) : ∀ k, left.length ≤ (l2 us left last k).length ∧ (l2 us left last k).length ≤ left.length + k
  | 0 => ⟨Nat.le_refl _, Nat.le_refl _⟩
  | k + 1 => by
    have := l2_len us left last k
    rw [l2, List.length_append]
    split <;> simp <;> omega
theorem cl_len {n : Nat} {wd : List UInt8} (hn : n ≤ 4294967295) (hw : wd.length ≤ 7) : (cl n wd).length ≤ 22 := by
  have := dx.dec_small hn
  simp [cl]
  omega
theorem s1_len (us zs : List Int) : ∀ k, k ≤ 1048576 → (s1 us zs k).length ≤ 22 * k
  | 0, _ => Nat.le_refl _
  | k + 1, h => by
    have h1 := s1_len us zs k (by omega)
    have h2 := l1_len us zs k
    have h3 := cl_len (n := (l1 us zs k).length + 1) (wd := wGone) (by omega) (by decide)
    rw [s1, List.length_append]
    split <;> simp <;> omega
theorem lst_app (l : List Int) (x : Int) : lst (l ++ [x]) = x := by
  simp [lst, List.getD_eq_getElem?_getD]
/-- What the specification asks of each is what the program does, where uids rise. -/
def Ris (us : List Int) : Prop := (∀ i j, i < j → j < us.length → us.getD i 0 < us.getD j 0) ∧ ∀ j, j < us.length → 1 ≤ us.getD j 0
theorem l2_last {us left : List Int} {last : Int} : ∀ k, k ≤ us.length → l2 us left last k = left ∨ (∃ j, j < k ∧ lst (l2 us left last k) = us.getD j 0 ∧ last < us.getD j 0 ∧ (l2 us left last k).length ≠ 0)
  | 0, _ => .inl rfl
  | k + 1, h => by
    by_cases hc : last < us.getD k 0
    · right
      refine ⟨k, by omega, ?_, hc, ?_⟩
      · rw [l2, if_pos hc, lst_app]
      · rw [l2, if_pos hc]; simp
    · rw [l2, if_neg hc, List.append_nil]
      rcases l2_last (us := us) (left := left) (last := last) k (by omega) with h1 | ⟨j, h1, h2⟩
      · exact .inl h1
      · exact .inr ⟨j, by omega, h2⟩
theorem l2_cond {us left : List Int} (hr : Ris us) {k : Nat} (hk : k < us.length) : ((l2 us left (lst left) k).length = 0 ∨ lst (l2 us left (lst left) k) < us.getD k 0) ↔ lst left < us.getD k 0 := by
  rcases l2_last (us := us) (left := left) (last := lst left) k (by omega) with h1 | ⟨j, h1, h2, h3, h4⟩
  · rw [h1]
    constructor
    · rintro (h | h)
      · have : left = [] := List.eq_nil_of_length_eq_zero h
        subst this
        have := hr.2 k hk
        show (0 : Int) < _
        omega
      · exact h
    · exact .inr
  · have h5 := hr.1 j k h1 hk
    rw [h2]
    exact ⟨fun _ => by omega, fun _ => .inr h5⟩
/-- The uids of mails. -/
def uo (ms : List st.St) : List Int := ms.map (·.u)
theorem uo_len (ms : List st.St) : (uo ms).length = ms.length := by simp [uo]
theorem uo_at {ms : List st.St} {k : Nat} (h : k < ms.length) : (uo ms).getD k 0 = (ms.getD k st.noS).u := by simp [uo, List.getD_eq_getElem?_getD, h]

/-- A builder stays where a row of numbers is appended to. -/
theorem bd_row {B b base n : Nat} {l : List UInt8} {w w' : World} {v : Value} {xs : List Value} (h : bl.Bd B b l w) (ho : w.ownsRow base 3 1 v n xs) (hg : w.grownBy w' v.ownBlock) : bl.Bd B b l w' := by
  have apart : ∀ k cs t fr, w.heap[k]? = some (.cells cs t fr) → t ≠ 3 → some k ≠ v.ownBlock := fun k cs t fr hk ht e => by
    rcases ho.2 with ⟨rfl, _⟩ | ⟨g, cap, cur, rfl, _, hb, _⟩
    · cases e
    · have e : k = g := by simpa [Value.ownBlock] using e
      subst e
      rw [hk] at hb
      cases hb
      exact ht rfl
  have row : ∀ {u m ys}, w.ownsRow B 5 1 u m ys → w'.ownsRow B 5 1 u m ys := fun {u m ys} hu => by
    refine hu.kept hg ?_
    rcases hu.2 with ⟨rfl, _⟩ | ⟨g, cap, cur, rfl, _, hb, _⟩
    · exact .inl rfl
    · exact .inr (fun e => apart g _ _ _ hb (by decide) e)
  rcases h with ⟨hB, u, hbk, hown, hne⟩ | ⟨hB, u, hbk, hown, hne⟩
  · exact .inl ⟨hB, u, (hg.block b (Array.getElem?_eq_some_iff.1 hbk).1 (apart b _ _ _ hbk (by decide))).trans hbk, row hown, hne⟩
  · exact .inr ⟨hB, u, (hg.block b (Array.getElem?_eq_some_iff.1 hbk).1 (apart b _ _ _ hbk (by decide))).trans hbk, row hown, hne⟩
/-- A row of numbers stays where a builder is written to. -/
theorem row_others {b base n : Nat} {w w' : World} {v : Value} {xs : List Value} (h : w.ownsRow base 3 1 v n xs) (ho : bl.Others b w w') (hb : v.ownBlock ≠ some b) : w'.ownsRow base 3 1 v n xs := by
  refine ⟨h.1, ?_⟩
  rcases h.2 with hz | ⟨g, cap, cur, rfl, h1, h2, h3⟩
  · exact .inl hz
  · exact .inr ⟨g, cap, cur, rfl, h1, ho g _ _ _ (fun e => hb (by rw [e]; rfl)) (by decide) h2, h3⟩
theorem row_bd {B b base n : Nat} {l : List UInt8} {w : World} {v : Value} {xs : List Value} (h : w.ownsRow base 3 1 v n xs) (hB : bl.Bd B b l w) : v.ownBlock ≠ some b := by
  intro e
  rcases h.2 with ⟨rfl, _⟩ | ⟨g, cap, cur, rfl, _, hb, _⟩
  · cases e
  · have e : g = b := by simpa [Value.ownBlock] using e
    subst e
    rcases hB with ⟨_, u, hbk, _⟩ | ⟨_, u, hbk, _⟩ <;> (rw [hb] at hbk; cases hbk)
end Go.Proofs.YtdnjiagnpaibjaaDoor.vu
