/-
  What a mutation makes of a list of boxes: one relation, and both functions that apply it.
  What a mutation makes of a list of small boxes is small.
  Right boxes stay right, whatever right mutation is done to them.
-/
import Derived.Test.YtncnbhekgkemfaaGreatDoorPkbf
import Derived.Test.YtncnbhekgkemfaaGreatDoorPkad

namespace Go.Proofs.YtncnbhekgkemfaaGreatDoor.sa
open Go.ChangeShapes Go.WideShapes Go.ChangeAt Go.RowKit Go.Deep Go.Joins
open st gr bx mx bl wi
set_option linter.unusedVariables false

/-- What a mutation makes of one box. -/
def Rk (b : Bx) (m : mu.Mu) (y' : Bx) (c : Int) : Prop := (m.k = 2 ∧ add b m.ps = (y', c)) ∨ (m.k = 3 ∧ Wf b m y' c) ∨ (m.k = 4 ∧ c = 0 ∧ y' = ⟨b.nm, b.vd, b.nx, kept b.ms, b.ks⟩)
/-- What it makes of a list. -/
def Am (xs : List Bx) (m : mu.Mu) (ys : List Bx) (c : Int) : Prop :=
  (m.k = 1 ∧ Wb xs m.b ys c) ∨ (m.k ≠ 1 ∧ Plc xs m.b (-1) ∧ ys = xs ∧ c = 5) ∨ (m.k ≠ 1 ∧ ∃ k : Nat, k < xs.length ∧ Plc xs m.b (k : Int) ∧ ∃ y', Rk (xs.getD k noB) m y' c ∧ (c = 0 ∧ ys = xs.set k y' ∨ c ≠ 0 ∧ ys = xs))
theorem wf_one {b : Bx} {m : mu.Mu} {y y' : Bx} {c c' : Int} (hr : Rising b.ms) (h : Wf b m y c) (h' : Wf b m y' c') : y = y' ∧ c = c' := by
  rcases h with ⟨i, hi, hu, rfl, rfl⟩ | ⟨hn, rfl, rfl⟩
  · rcases h' with ⟨j, hj, hu', rfl, rfl⟩ | ⟨hn', _⟩
    · have : i = j := by
        rcases Nat.lt_trichotomy i j with e | e | e
        · have := hr i j e hj; omega
        · exact e
        · have := hr j i e hi; omega
      subst this
      exact ⟨rfl, rfl⟩
    · exact absurd hu (hn' i hi)
  · rcases h' with ⟨j, hj, hu', _⟩ | ⟨_, rfl, rfl⟩
    · exact absurd hu' (hn j hj)
    · exact ⟨rfl, rfl⟩
theorem rk_one {b : Bx} {m : mu.Mu} {y y' : Bx} {c c' : Int} (hr : Rising b.ms) (h : Rk b m y c) (h' : Rk b m y' c') : y = y' ∧ c = c' := by
  rcases h with ⟨k1, h⟩ | ⟨k1, h⟩ | ⟨k1, h, h2⟩
  · rcases h' with ⟨k2, h'⟩ | ⟨k2, h'⟩ | ⟨k2, h', h2'⟩
    · have := h.symm.trans h'; cases this; exact ⟨rfl, rfl⟩
    · omega
    · omega
  · rcases h' with ⟨k2, h'⟩ | ⟨k2, h'⟩ | ⟨k2, h', h2'⟩
    · omega
    · exact wf_one hr h h'
    · omega
  · rcases h' with ⟨k2, h'⟩ | ⟨k2, h'⟩ | ⟨k2, h', h2'⟩
    · omega
    · omega
    · rw [h2, h2', h, h']; exact ⟨rfl, rfl⟩
theorem am_one {xs : List Bx} {m : mu.Mu} {ys ys' : List Bx} {c c' : Int} (hr : ∀ k, k < xs.length → Rising (xs.getD k noB).ms) (h : Am xs m ys c) (h' : Am xs m ys' c') : ys = ys' ∧ c = c' := by
  rcases h with ⟨k1, h⟩ | ⟨k1, hp, e1, e2⟩ | ⟨k1, k, hk, hp, y, hR, hc⟩
  · rcases h' with ⟨_, h'⟩ | ⟨k2, _⟩ | ⟨k2, _⟩
    · exact wb_one h h'
    · exact absurd k1 k2
    · exact absurd k1 k2
  · rcases h' with ⟨k2, _⟩ | ⟨_, _, e1', e2'⟩ | ⟨_, k', hk', hp', _⟩
    · exact absurd k2 k1
    · rw [e1, e1', e2, e2']; exact ⟨rfl, rfl⟩
    · have := plc_one hp hp'; omega
  · rcases h' with ⟨k2, _⟩ | ⟨_, hp', _⟩ | ⟨_, k', hk', hp', y', hR', hc'⟩
    · exact absurd k2 k1
    · have := plc_one hp hp'; omega
    · have hkk : k = k' := by have := plc_one hp hp'; omega
      subst hkk
      obtain ⟨rfl, rfl⟩ := rk_one (hr k hk) hR hR'
      rcases hc with ⟨_, e⟩ | ⟨n1, e⟩
      · rcases hc' with ⟨_, e'⟩ | ⟨n2, e'⟩
        · rw [e, e']; exact ⟨rfl, rfl⟩
        · omega
      · rcases hc' with ⟨n2, e'⟩ | ⟨_, e'⟩
        · omega
        · rw [e, e']; exact ⟨rfl, rfl⟩
/-- What is sure of a box of a right list. -/
theorem sok_box {xs : List Bx} (h : sok xs = true) {k : Nat} (hk : k < xs.length) : (xs.getD k noB).ms.length ≤ 30 ∧ (xs.getD k noB).ks.length ≤ 60 ∧ (1 ≤ (xs.getD k noB).nx ∧ (xs.getD k noB).nx ≤ 1001) ∧ Rising (xs.getD k noB).ms ∧ ∀ j, j < (xs.getD k noB).ms.length → 0 ≤ ((xs.getD k noB).ms.getD j noS).f ∧ ((xs.getD k noB).ms.getD j noS).f ≤ 31 := by
  obtain ⟨hb, _⟩ := (sok_of h).2 k hk
  obtain ⟨_, _, hnx, hm, _, hks, _⟩ := (bok_of _).1 hb
  have hm2 : (xs.getD k noB).ms.length ≤ 30 ∧ MGood (xs.getD k noB).ms (xs.getD k noB).nx (xs.getD k noB).ms.length := ow.dof hm
  have hk2 : (xs.getD k noB).ks.length ≤ 60 ∧ KGood (xs.getD k noB).ks (xs.getD k noB).ks.length := ow.dof hks
  exact ⟨hm2.1, hk2.1, hnx, fun i j hij hj => rising_of hm2.2 i j hij hj, fun j hj => (hm2.2 j hj).2.2.1⟩
theorem items_of {w : World} {v : Value} {ps : List it.Pr} (h : it.AttrsAt w v ps) : ItemsIn w w.heap.size v ps := by
  obtain ⟨a, cap, rfl, h⟩ := h
  refine ⟨a, cap, rfl, ?_⟩
  rcases h with h | ⟨b, off, rfl, h⟩
  · exact .inl h
  · by_cases hn : ps = []
    · exact .inl hn
    · have h0 := (h 0 (List.length_pos_iff.2 hn)).1
      exact .inr ⟨b, off, rfl, World.block_lt_of_cell? w _ h0, h⟩
theorem kinds {m : mu.Mu} (h : mu.mok m = true) : m.k = 1 ∨ m.k = 2 ∨ (m.k = 3 ∧ (m.m = 1 ∨ m.m = 2 ∨ m.m = 3)) ∨ m.k = 4 := by
  simp only [mu.mok, Bool.and_eq_true] at h
  have hk := of_decide_eq_true h.2
  omega
/-- The specification. -/
theorem apply_any (v : Value) (xs : List Bx) (vs : Nat → Value × Value) (m : mu.Mu) (iv : Value) (w : World) (h : BoxesAt w v xs vs) (hf : Fines xs vs) (hs : bx.Smalls xs) (hi : it.AttrsAt w iv m.ps) (hm : mu.Small m) (hso : sok xs = true) (hmo : mu.mok m = true) :
    Calls Tryz.prog 53 #[v, mu.MV m iv] w fun e w' => Ls (Am xs m) e w' ∧ Below w.heap.size w w' := by
  have hiv : ∃ a n c, iv = .slice a n c := by obtain ⟨a, c, e, _⟩ := hi; exact ⟨_, _, _, e⟩
  obtain ⟨r, hr⟩ := plc_ex xs m.b
  by_cases k1 : m.k = 1
  · rcases plc_nat hr with e | ⟨k, e, hk⟩
    · rw [e] at hr
      by_cases h4 : xs.length = 4
      · refine (apply_full v xs vs m iv w h hf hs hiv hr h4 k1).mono ?_
        rintro e w' ⟨⟨L', ys, us, c, he, ⟨rfl, rfl⟩, hB, hF⟩, hb⟩
        exact ⟨⟨L', _, us, _, he, .inl ⟨k1, .inr (.inl ⟨hr, h4, rfl, rfl⟩)⟩, hB, hF⟩, hb⟩
      · refine (apply_new v xs vs m iv w h hf hs hiv hr h4 (sok_of hso).1 k1).mono ?_
        rintro e w' ⟨⟨L', ys, us, c, he, ⟨rfl, rfl⟩, hB, hF⟩, hb⟩
        exact ⟨⟨L', _, us, _, he, .inl ⟨k1, .inr (.inr ⟨hr, h4, rfl, rfl⟩)⟩, hB, hF⟩, hb⟩
    · refine (apply_twice v xs vs m iv w h hf hs hiv r (by omega) hr k1).mono ?_
      rintro e w' ⟨⟨L', ys, us, c, he, ⟨rfl, rfl⟩, hB, hF⟩, hb⟩
      exact ⟨⟨L', _, us, _, he, .inl ⟨k1, .inl ⟨⟨r, by omega, hr⟩, rfl, rfl⟩⟩, hB, hF⟩, hb⟩
  · rcases plc_nat hr with e | ⟨k, e, hk⟩
    · rw [e] at hr
      refine (apply_none v xs vs m iv w h hf hs hiv hr k1).mono ?_
      rintro e w' ⟨⟨L', ys, us, c, he, ⟨rfl, rfl⟩, hB, hF⟩, hb⟩
      exact ⟨⟨L', _, us, _, he, .inr (.inl ⟨k1, hr, rfl, rfl⟩), hB, hF⟩, hb⟩
    · rw [e] at hr
      obtain ⟨b1, b2, b3, b4, b5⟩ := sok_box hso hk
      rcases kinds hmo with e1 | e2 | ⟨e3, hmm⟩ | e4
      · exact absurd e1 k1
      · refine (apply_items v xs vs m iv w h hf hs (items_of hi) hm.2.2 hm.2.1 k hk _ rfl hr b1 b2 b3 e2).mono ?_
        rintro e w' ⟨⟨L', ys, us, c, y', he, hR, hc, hB, hF⟩, hb⟩
        exact ⟨⟨L', ys, us, c, he, .inr (.inr ⟨k1, k, hk, hr, y', .inl ⟨e2, hR⟩, hc⟩), hB, hF⟩, hb⟩
      · refine (apply_flags v xs vs m iv w h hf hs hiv hm.2.1 k hk _ rfl hr b1 hmm e3).mono ?_
        rintro e w' ⟨⟨L', ys, us, c, y', he, hR, hc, hB, hF⟩, hb⟩
        exact ⟨⟨L', ys, us, c, he, .inr (.inr ⟨k1, k, hk, hr, y', .inr (.inl ⟨e3, hR⟩), hc⟩), hB, hF⟩, hb⟩
      · refine (apply_gone v xs vs m iv w h hf hs hiv hm.2.1 k hk _ rfl hr b1 b5 e4).mono ?_
        rintro e w' ⟨⟨L', ys, us, c, y', he, ⟨h1, h2⟩, hc, hB, hF⟩, hb⟩
        exact ⟨⟨L', ys, us, c, he, .inr (.inr ⟨k1, k, hk, hr, y', .inr (.inr ⟨e4, h1, h2⟩), hc⟩), hB, hF⟩, hb⟩
/-- The program. -/
theorem mutated_any (L : Value) (base : Nat) (xs : List Bx) (us : Nat → Value × Value) (m : mu.Mu) (iv : Value) (w : World) (h : OwnL w base L xs us) (hb : base ≤ w.heap.size) (hs : bx.Smalls xs) (hi : ItemsBy w base iv m.ps) (hm : mu.Small m) (hso : sok xs = true) (hmo : mu.mok m = true) :
    Calls Tryz.prog 67 #[L, mu.MV m iv] w fun e w' => (∃ L' ys us' c, e = .returned (.tuple #[L', .int .i64 c]) ∧ Am xs m ys c ∧ OwnL w' base L' ys us') ∧ Below base w w' := by
  have hiv : ∃ a n c, iv = .slice a n c := by obtain ⟨a, c, e, _⟩ := hi; exact ⟨_, _, _, e⟩
  by_cases k1 : m.k = 1
  · refine (imp_box L base xs us m iv w h hb hs.1 hm.2.1 hiv k1).mono ?_
    rintro e w' ⟨⟨L', ys, us', c, he, hw, ho⟩, hb'⟩
    exact ⟨⟨L', ys, us', c, he, .inl ⟨k1, hw⟩, ho⟩, hb'⟩
  · obtain ⟨r, hr⟩ := plc_ex xs m.b
    rcases plc_nat hr with e | ⟨k, e, hk⟩
    · rw [e] at hr
      refine (imp_none L base xs us m iv w h hb hs.1 hiv k1 hr).mono ?_
      rintro e w' ⟨⟨he, ho⟩, hb'⟩
      exact ⟨⟨L, xs, us, 5, he, .inr (.inl ⟨k1, hr, rfl, rfl⟩), ho⟩, hb'⟩
    · rw [e] at hr
      obtain ⟨b1, b2, b3, b4, b5⟩ := sok_box hso hk
      have fin : ∀ (R : Bx → Int → Prop), (∀ y' c, R y' c → Rk (xs.getD k noB) m y' c) → ∀ (e : Ending) (w' : World), (∃ y' c us', e = .returned (.tuple #[L, .int .i64 c]) ∧ R y' c ∧ (c = 0 → OwnL w' base L (xs.set k y') us') ∧ (c ≠ 0 → OwnL w' base L xs us) ∧ Below base w w') → (∃ L' ys us' c, e = .returned (.tuple #[L', .int .i64 c]) ∧ Am xs m ys c ∧ OwnL w' base L' ys us') ∧ Below base w w' := by
        rintro R hR e w' ⟨y', c, us', he, hy, h0, h1, hb'⟩
        by_cases hc : c = 0
        · exact ⟨⟨L, _, us', c, he, .inr (.inr ⟨k1, k, hk, hr, y', hR y' c hy, .inl ⟨hc, rfl⟩⟩), h0 hc⟩, hb'⟩
        · exact ⟨⟨L, xs, us, c, he, .inr (.inr ⟨k1, k, hk, hr, y', hR y' c hy, .inr ⟨hc, rfl⟩⟩), h1 hc⟩, hb'⟩
      rcases kinds hmo with e1 | e2 | ⟨e3, hmm⟩ | e4
      · exact absurd e1 k1
      · exact (imp_items L base xs us m iv w h hb hs.1 hi hm.2.2 k hk hr b1 b2 (hs.2 k hk).2.2.2 b3 e2).mono fun e w' hh => fin _ (fun y' c hy => .inl ⟨e2, hy⟩) e w' hh
      · exact (imp_flags L base xs us m iv w h hb hs.1 hiv k hk hr b1 b4 hmm e3).mono fun e w' hh => fin _ (fun y' c hy => .inr (.inl ⟨e3, hy⟩)) e w' hh
      · exact (imp_gone L base xs us m iv w h hb hs.1 hiv k hk hr b1 e4).mono fun e w' hh => fin _ (fun y' c hy => .inr (.inr ⟨e4, hy.1, hy.2⟩)) e w' hh
end Go.Proofs.YtncnbhekgkemfaaGreatDoor.sa

namespace Go.Proofs.YtncnbhekgkemfaaGreatDoor.sa
open Go.ChangeShapes Go.WideShapes Go.ChangeAt Go.RowKit Go.Deep Go.Joins
open st gr bx mx bl wi
set_option linter.unusedVariables false

theorem mem_getD {α : Type} {l : List α} {d : α} {j : Nat} (hj : j < l.length) : l.getD j d ∈ l := by
  rw [List.getD_eq_getElem?_getD, List.getElem?_eq_getElem hj]
  exact List.getElem_mem hj
theorem smallsM {es : List St} : st.Smalls es ↔ es.length ≤ 1048576 ∧ ∀ e ∈ es, st.Small e := by
  constructor
  · rintro ⟨h1, h2⟩
    refine ⟨h1, fun e he => ?_⟩
    obtain ⟨j, hj, rfl⟩ := List.getElem_of_mem he
    have := h2 j hj
    rwa [List.getD_eq_getElem?_getD, List.getElem?_eq_getElem hj] at this
  · rintro ⟨h1, h2⟩
    exact ⟨h1, fun j hj => h2 _ (mem_getD hj)⟩
theorem smallsK {ks : List ByteArray} : tx.Smalls ks ↔ ks.length ≤ 1048576 ∧ ∀ e ∈ ks, e.size ≤ 1048576 := by
  constructor
  · rintro ⟨h1, h2⟩
    refine ⟨h1, fun e he => ?_⟩
    obtain ⟨j, hj, rfl⟩ := List.getElem_of_mem he
    have := h2 j hj
    rwa [List.getD_eq_getElem?_getD, List.getElem?_eq_getElem hj] at this
  · rintro ⟨h1, h2⟩
    exact ⟨h1, fun j hj => h2 _ (mem_getD hj)⟩
theorem small_addI {b : Bx} {i : it.Pr} (h : bx.Small b) (hn : 0 ≤ b.nx ∧ b.nx ≤ 1000000000) (hm : b.ms.length ≤ 100) (hk : b.ks.length ≤ 100) (h1 : i.1.size ≤ 1048576) (h2 : i.2.size ≤ 1048576) : bx.Small (addI b i) := by
  obtain ⟨⟨a1, a2⟩, a3, a4, a5⟩ := h
  refine ⟨⟨a1, ?_⟩, a3, smallsM.2 ⟨?_, ?_⟩, smallsK.2 ⟨?_, ?_⟩⟩
  · show In (b.nx + 1)
    unfold In
    omega
  · show (b.ms ++ [(⟨b.nx, 0, i.2⟩ : St)]).length ≤ _
    simp
    omega
  · intro e he
    rcases List.mem_append.1 (show e ∈ b.ms ++ [⟨b.nx, 0, i.2⟩] from he) with h | h
    · exact (smallsM.1 a4).2 e h
    · simp at h
      subst h
      refine ⟨?_, ?_, h2⟩
      · unfold In; simp only; omega
      · unfold In; simp only; omega
  · show (b.ks ++ [i.1]).length ≤ _
    simp
    omega
  · intro e he
    rcases List.mem_append.1 (show e ∈ b.ks ++ [i.1] from he) with h | h
    · exact (smallsK.1 a5).2 e h
    · simp at h
      subst h
      exact h1
theorem add_small : ∀ (ps : List it.Pr) (b y : Bx), bx.Small b → 0 ≤ b.nx → b.nx + ps.length ≤ 1000000000 → b.ms.length ≤ 30 → b.ks.length ≤ 60 → (∀ p ∈ ps, p.1.size ≤ 1048576 ∧ p.2.size ≤ 1048576) → add b ps = (y, 0) → bx.Small y
  | [], b, y, h, _, _, _, _, _, e => by
    have : b = y := congrArg Prod.fst e
    rw [← this]; exact h
  | i :: r, b, y, h, h0, hn, hm, hk, hp, e => by
    rw [add] at e
    split at e
    · exact absurd (congrArg Prod.snd e) (by simp)
    split at e
    · exact absurd (congrArg Prod.snd e) (by simp)
    split at e
    · exact absurd (congrArg Prod.snd e) (by simp)
    · rename_i h1 h2 h3
      have hl : (i :: r).length = r.length + 1 := rfl
      have hpi := hp i (List.mem_cons_self ..)
      refine add_small r (addI b i) y (small_addI h ⟨h0, by omega⟩ (by omega) (by omega) hpi.1 hpi.2) ?_ ?_ ?_ ?_ (fun p hpr => hp p (List.mem_cons_of_mem _ hpr)) e
      · show 0 ≤ b.nx + 1
        omega
      · show b.nx + 1 + _ ≤ _
        omega
      · show (b.ms ++ [_]).length ≤ 30
        simp
        omega
      · show (b.ks ++ [_]).length ≤ 60
        simp
        omega
theorem or32 (a b : Nat) (ha : a < 32) (hb : b < 32) : 0 ≤ bits .or .i64 (a : Int) (b : Int) ∧ bits .or .i64 (a : Int) (b : Int) ≤ 31 := by
  have : ∀ (x y : Fin 32), 0 ≤ bits .or .i64 (x.val : Int) (y.val : Int) ∧ bits .or .i64 (x.val : Int) (y.val : Int) ≤ 31 := by decide
  exact this ⟨a, ha⟩ ⟨b, hb⟩
theorem not32 (a b : Nat) (ha : a < 32) (hb : b < 32) : 0 ≤ bits .andNot .i64 (a : Int) (b : Int) ∧ bits .andNot .i64 (a : Int) (b : Int) ≤ 31 := by
  have : ∀ (x y : Fin 32), 0 ≤ bits .andNot .i64 (x.val : Int) (y.val : Int) ∧ bits .andNot .i64 (x.val : Int) (y.val : Int) ≤ 31 := by decide
  exact this ⟨a, ha⟩ ⟨b, hb⟩
theorem flg_in {mode was f : Int} (h : 0 ≤ was ∧ was ≤ 31) (h' : 0 ≤ f ∧ f ≤ 31) : 0 ≤ flg mode was f ∧ flg mode was f ≤ 31 := by
  obtain ⟨a, rfl⟩ := Int.eq_ofNat_of_zero_le h.1
  obtain ⟨b, rfl⟩ := Int.eq_ofNat_of_zero_le h'.1
  unfold flg
  split
  · exact h'
  split
  · exact or32 a b (by omega) (by omega)
  · exact not32 a b (by omega) (by omega)
/-- What a box is made of stays small. -/
theorem rk_small {b : Bx} {m : mu.Mu} {y : Bx} (hs : bx.Small b) (hm : mu.Small m) (hmo : mu.mok m = true) (hb : b.ms.length ≤ 30 ∧ b.ks.length ≤ 60 ∧ (1 ≤ b.nx ∧ b.nx ≤ 1001) ∧ Rising b.ms ∧ ∀ j, j < b.ms.length → 0 ≤ (b.ms.getD j noS).f ∧ (b.ms.getD j noS).f ≤ 31) (h : Rk b m y 0) : bx.Small y := by
  obtain ⟨b1, b2, b3, b4, b5⟩ := hb
  rcases h with ⟨_, h⟩ | ⟨k3, h⟩ | ⟨_, _, h⟩
  · refine add_small m.ps b y hs (by omega) (by have := hm.2.2.1; omega) b1 b2 (fun p hp => ?_) h
    obtain ⟨j, hj, rfl⟩ := List.getElem_of_mem hp
    have := hm.2.2.2 j hj
    rwa [List.getD_eq_getElem?_getD, List.getElem?_eq_getElem hj] at this
  · rcases h with ⟨i, hi, hu, rfl, _⟩ | ⟨_, _, e⟩
    · obtain ⟨a1, a3, a4, a5⟩ := hs
      refine ⟨a1, a3, ⟨by rw [setF_len]; exact a4.1, fun j hj => ?_⟩, a5⟩
      rw [setF_len] at hj
      rw [setF_at hi]
      have hmf : 0 ≤ m.f ∧ m.f ≤ 31 := by
        simp only [mu.mok, Bool.and_eq_true] at hmo
        have hk := of_decide_eq_true hmo.2
        omega
      split
      · have h1 := a4.2 i hi
        have h2 := flg_in (mode := m.m) (b5 i hi) hmf
        exact ⟨h1.1, ⟨by simp only; omega, by simp only; omega⟩, h1.2.2⟩
      · exact a4.2 j hj
    · exact absurd e (by decide)
  · subst h
    obtain ⟨a1, a3, a4, a5⟩ := hs
    refine ⟨a1, a3, smallsM.2 ⟨Nat.le_trans (List.length_filter_le _ _) (smallsM.1 a4).1, fun e he => (smallsM.1 a4).2 e (List.mem_filter.1 he).1⟩, a5⟩
theorem am_small {xs ys : List Bx} {m : mu.Mu} {c : Int} (hs : bx.Smalls xs) (hm : mu.Small m) (hso : sok xs = true) (hmo : mu.mok m = true) (h : Am xs m ys c) : bx.Smalls ys := by
  rcases h with ⟨_, h⟩ | ⟨_, _, rfl, _⟩ | ⟨_, k, hk, _, y, hR, hc⟩
  · rcases h with ⟨_, rfl, _⟩ | ⟨_, _, rfl, _⟩ | ⟨_, h4, rfl, _⟩
    · exact hs
    · exact hs
    · have hl := (sok_of hso).1
      refine ⟨by simp; omega, fun j hj => ?_⟩
      by_cases e : j = xs.length
      · subst e
        rw [getD_last]
        exact ⟨⟨⟨by simp only; omega, by simp only; omega⟩, ⟨by simp only; omega, by simp only; omega⟩⟩, hm.2.1, ⟨Nat.zero_le _, fun j hj => absurd hj (Nat.not_lt_zero _)⟩, ⟨Nat.zero_le _, fun j hj => absurd hj (Nat.not_lt_zero _)⟩⟩
      · have hj' : j < xs.length := by simp at hj; omega
        rw [getD_app hj']
        exact hs.2 j hj'
  · exact hs
  · rcases hc with ⟨rfl, rfl⟩ | ⟨_, rfl⟩
    · refine ⟨by rw [List.length_set]; exact hs.1, fun j hj => ?_⟩
      rw [List.length_set] at hj
      rw [bl.getD_set hk]
      split
      · exact rk_small (hs.2 k hk) hm hmo (sok_box hso hk) hR
      · exact hs.2 j hj
    · exact hs
end Go.Proofs.YtncnbhekgkemfaaGreatDoor.sa

namespace Go.Proofs.YtncnbhekgkemfaaGreatDoor.sa
open Go.RowKit
open st gr bx mx bl wi
set_option linter.unusedVariables false

theorem bok_iff {x : Bx} : bok x = true ↔ mu.nmB x.nm = true ∧ (1 ≤ x.vd ∧ x.vd ≤ 1000000) ∧ (1 ≤ x.nx ∧ x.nx ≤ 1001) ∧ (x.ms.length ≤ 30 ∧ MGood x.ms x.nx x.ms.length) ∧ (x.ks.length : Int) = x.nx - 1 ∧ (x.ks.length ≤ 60 ∧ KGood x.ks x.ks.length) ∧ bk.Dist x.ks x.ks.length := by
  unfold bok
  simp only [Bool.and_eq_true, decide_eq_true_eq]
  constructor
  · rintro ⟨⟨⟨⟨⟨⟨h1, h2⟩, h3⟩, h4⟩, h5⟩, h6⟩, h7⟩
    exact ⟨h1, h2, h3, mails_of h4, h5, keys_of h6, ow.dof h7⟩
  · rintro ⟨h1, h2, h3, h4, h5, h6, h7⟩
    exact ⟨⟨⟨⟨⟨⟨h1, h2⟩, h3⟩, mails_yes h4.1 h4.2⟩, h5⟩, keys_yes h6.1 h6.2⟩, ow.dt h7⟩
theorem getD_snoc {α : Type} (l : List α) (x d : α) (j : Nat) : (l ++ [x]).getD j d = if j < l.length then l.getD j d else if j = l.length then x else d := by
  simp only [List.getD_eq_getElem?_getD]
  by_cases h : j < l.length
  · rw [if_pos h, List.getElem?_append_left h]
  · rw [if_neg h]
    by_cases e : j = l.length
    · subst e; simp
    · rw [if_neg e, List.getElem?_eq_none (by simp; omega)]
      rfl
theorem last_snoc {ms : List St} {x : St} {j : Nat} (h : j ≤ ms.length) : last (ms ++ [x]) j = last ms j := by
  unfold last
  by_cases e : j = 0
  · rw [if_pos e, if_pos e]
  · rw [if_neg e, if_neg e, getD_snoc, if_pos (by omega)]
theorem last_lt {ms : List St} {nx : Int} (h : MGood ms nx ms.length) (hn : 1 ≤ nx) : last ms ms.length < nx := by
  unfold last
  by_cases e : ms.length = 0
  · rw [if_pos e]; omega
  · rw [if_neg e]
    exact (h (ms.length - 1) (by omega)).2.1
theorem mgood_snoc {ms : List St} {nx : Int} {t : ByteArray} (h : MGood ms nx ms.length) (hn : 1 ≤ nx) (ht : t.size ≤ 4000) : MGood (ms ++ [⟨nx, 0, t⟩]) (nx + 1) (ms ++ [(⟨nx, 0, t⟩ : St)]).length := by
  intro j hj
  simp at hj
  rw [getD_snoc, last_snoc (by omega)]
  by_cases e : j < ms.length
  · rw [if_pos e]
    have := h j e
    exact ⟨this.1, by have := this.2.1; omega, this.2.2⟩
  · obtain rfl : j = ms.length := by omega
    rw [if_neg e, if_pos rfl]
    exact ⟨last_lt h hn, by show nx < nx + 1; omega, ⟨Int.le_refl _, by show (0 : Int) ≤ 31; omega⟩, ht⟩
theorem add_ok {ps : List it.Pr} : ∀ {b y : Bx}, bok b = true → (∀ p ∈ ps, (1 ≤ p.1.size ∧ p.1.size ≤ 200) ∧ p.2.size ≤ 4000) → add b ps = (y, 0) → bok y = true ∧ y.nm = b.nm ∧ y.vd = b.vd := by
  induction ps with
  | nil => intro b y hb _ h; cases h; exact ⟨hb, rfl, rfl⟩
  | cons p r ih =>
    intro b y hb hp h
    rw [add] at h
    by_cases h1 : hasK b.ks p.1 = true
    · rw [if_pos h1] at h; cases h
    rw [if_neg h1] at h
    by_cases h2 : b.ks.length = 60
    · rw [if_pos h2] at h; cases h
    rw [if_neg h2] at h
    by_cases h3 : b.ms.length = 30
    · rw [if_pos h3] at h; cases h
    rw [if_neg h3] at h
    have hpp := hp p List.mem_cons_self
    obtain ⟨q1, q2, q3, q4, q5, q6, q7⟩ := bok_iff.1 hb
    have hb2 : bok (addI b p) = true := by
      refine bok_iff.2 ⟨q1, q2, ⟨by show 1 ≤ b.nx + 1; omega, by show b.nx + 1 ≤ 1001; omega⟩, ⟨by show (b.ms ++ [_]).length ≤ 30; simp; omega, mgood_snoc q4.2 q3.1 hpp.2⟩, ?_, ⟨by show (b.ks ++ [_]).length ≤ 60; simp; omega, ?_⟩, ?_⟩
      · show (((b.ks ++ [p.1]).length : Nat) : Int) = b.nx + 1 - 1
        simp
        omega
      · intro j hj
        show 1 ≤ ((b.ks ++ [p.1]).getD j ky.nt).size ∧ ((b.ks ++ [p.1]).getD j ky.nt).size ≤ 200
        have hj' : j < b.ks.length + 1 := by simpa [addI] using hj
        rw [getD_snoc]
        by_cases e : j < b.ks.length
        · rw [if_pos e]; exact q6.2 j e
        · rw [if_neg e, if_pos (by omega)]; exact hpp.1
      · intro i j hij hj
        show (b.ks ++ [p.1]).getD i ky.nt ≠ (b.ks ++ [p.1]).getD j ky.nt
        have hj' : j < b.ks.length + 1 := by simpa [addI] using hj
        rw [getD_snoc, getD_snoc, if_pos (by omega)]
        by_cases e : j < b.ks.length
        · rw [if_pos e]; exact q7 i j hij e
        · rw [if_neg e, if_pos (by omega)]
          intro he
          exact h1 ((hasK_iff _ _).2 ⟨i, by omega, he⟩)
    obtain ⟨r1, r2, r3⟩ := ih hb2 (fun x hx => hp x (List.mem_cons_of_mem _ hx)) h
    exact ⟨r1, r2, r3⟩
theorem flg_31 {mode was f : Int} (h0 : 0 ≤ was ∧ was ≤ 31) (h1 : 0 ≤ f ∧ f ≤ 31) : 0 ≤ flg mode was f ∧ flg mode was f ≤ 31 := by
  have A : ∀ a b : Fin 32, (0 ≤ bits .or .i64 (a.val : Int) (b.val : Int) ∧ bits .or .i64 (a.val : Int) (b.val : Int) ≤ 31) ∧ (0 ≤ bits .andNot .i64 (a.val : Int) (b.val : Int) ∧ bits .andNot .i64 (a.val : Int) (b.val : Int) ≤ 31) := by decide +kernel
  obtain ⟨a, rfl⟩ : ∃ a : Nat, was = a := ⟨was.toNat, by omega⟩
  obtain ⟨b, rfl⟩ : ∃ b : Nat, f = b := ⟨f.toNat, by omega⟩
  have := A ⟨a, by omega⟩ ⟨b, by omega⟩
  unfold flg
  split
  · exact h1
  · split
    · exact this.1
    · exact this.2
theorem mgood_setF {ms : List St} {nx f : Int} {i : Nat} (h : MGood ms nx ms.length) (hi : i < ms.length) (hf : 0 ≤ f ∧ f ≤ 31) : MGood (setF ms i f) nx (setF ms i f).length := by
  have hl : ∀ j, last (setF ms i f) j = last ms j := by
    intro j
    unfold last
    by_cases e : j = 0
    · rw [if_pos e, if_pos e]
    · rw [if_neg e, if_neg e, setF_at hi]
      by_cases e2 : j - 1 = i
      · rw [if_pos e2, e2]
      · rw [if_neg e2]
  intro j hj
  rw [setF_len] at hj
  rw [hl, setF_at hi]
  have := h j hj
  by_cases e : j = i
  · subst e
    rw [if_pos rfl]
    exact ⟨this.1, this.2.1, hf, this.2.2.2⟩
  · rw [if_neg e]
    exact this
/-- Rising uids below a number, flags and sizes. -/
def MG (ms : List St) (nx : Int) : Prop := ms.Pairwise (fun a b => a.u < b.u) ∧ ∀ x ∈ ms, 0 < x.u ∧ x.u < nx ∧ (0 ≤ x.f ∧ x.f ≤ 31) ∧ x.t.size ≤ 4000
theorem getD_at {α : Type} {l : List α} {d : α} {j : Nat} (h : j < l.length) : l.getD j d = l[j] := by simp [List.getD_eq_getElem?_getD, h]
theorem mg_of {ms : List St} {nx : Int} (h : MGood ms nx ms.length) : MG ms nx := by
  refine ⟨List.pairwise_iff_getElem.2 fun i j hi hj hij => ?_, fun x hx => ?_⟩
  · have := rising_of h i j hij hj
    rwa [getD_at hi, getD_at hj] at this
  · obtain ⟨j, hj, rfl⟩ := List.getElem_of_mem hx
    have h1 := h j hj
    have h2 := last_pos (k := j) (fun i hi => h i (by omega))
    rw [getD_at hj] at h1
    exact ⟨by have := h1.1; omega, h1.2.1, h1.2.2.1, h1.2.2.2⟩
theorem of_mg {ms : List St} {nx : Int} (h : MG ms nx) : MGood ms nx ms.length := by
  intro j hj
  rw [getD_at hj]
  have h1 := h.2 ms[j] (List.getElem_mem hj)
  refine ⟨?_, h1.2.1, h1.2.2.1, h1.2.2.2⟩
  unfold last
  by_cases e : j = 0
  · rw [if_pos e]; exact h1.1
  · rw [if_neg e, getD_at (by omega)]
    exact List.pairwise_iff_getElem.1 h.1 (j - 1) j (by omega) hj (by omega)
theorem mgood_kept {ms : List St} {nx : Int} (h : MGood ms nx ms.length) : MGood (kept ms) nx (kept ms).length := by
  obtain ⟨h1, h2⟩ := mg_of h
  exact of_mg ⟨h1.filter _, fun x hx => h2 x (List.mem_filter.1 hx).1⟩
theorem kept_len (ms : List St) : (kept ms).length ≤ ms.length := List.length_filter_le _ _
theorem mok_parts {m : mu.Mu} (h : mu.mok m = true) : mu.nmB m.b = true ∧ (∀ p ∈ m.ps, (1 ≤ p.1.size ∧ p.1.size ≤ 200) ∧ p.2.size ≤ 4000) ∧ (m.k = 3 → 0 ≤ m.f ∧ m.f ≤ 31) := by
  unfold mu.mok at h
  rw [Bool.and_eq_true, Bool.and_eq_true] at h
  obtain ⟨⟨h1, h2⟩, h3⟩ := h
  refine ⟨h1, fun p hp => ?_, fun hk => ?_⟩
  · obtain ⟨j, hj, rfl⟩ := List.getElem_of_mem hp
    have := (mu.its_of h2).2 j hj
    rw [getD_at hj] at this
    exact of_decide_eq_true this
  · have := (mu.kind_is _ _ _ _ _).1 h3
    omega
theorem rk_ok {b y : Bx} {m : mu.Mu} (hb : bok b = true) (hm : mu.mok m = true) (h : Rk b m y 0) : bok y = true ∧ y.nm = b.nm ∧ y.vd = b.vd := by
  obtain ⟨m1, m2, m3⟩ := mok_parts hm
  rcases h with ⟨_, h⟩ | ⟨k3, h⟩ | ⟨_, _, rfl⟩
  · exact add_ok hb m2 h
  · rcases h with ⟨i, hi, _, rfl, _⟩ | ⟨_, _, h⟩
    · obtain ⟨q1, q2, q3, q4, q5, q6, q7⟩ := bok_iff.1 hb
      have hq := q4.2 i hi
      exact ⟨bok_iff.2 ⟨q1, q2, q3, ⟨by rw [setF_len]; exact q4.1, mgood_setF q4.2 hi (flg_31 hq.2.2.1 (m3 k3))⟩, q5, q6, q7⟩, rfl, rfl⟩
    · cases h
  · obtain ⟨q1, q2, q3, q4, q5, q6, q7⟩ := bok_iff.1 hb
    exact ⟨bok_iff.2 ⟨q1, q2, q3, ⟨Nat.le_trans (kept_len _) q4.1, mgood_kept q4.2⟩, q5, q6, q7⟩, rfl, rfl⟩
theorem getD_set' {α : Type} {l : List α} {x d : α} {k j : Nat} (hk : k < l.length) : (l.set k x).getD j d = if j = k then x else l.getD j d := by
  simp only [List.getD_eq_getElem?_getD]
  by_cases e : j = k
  · subst e; rw [if_pos rfl]; simp [hk]
  · rw [if_neg e, List.getElem?_set_ne (Ne.symm e)]
/-- Right boxes stay right. -/
theorem am_ok {xs ys : List Bx} {m : mu.Mu} (hs : sok xs = true) (hm : mu.mok m = true) (h : Am xs m ys 0) : sok ys = true := by
  obtain ⟨hl, hS⟩ := sok_of hs
  rcases h with ⟨_, h⟩ | ⟨_, _, _, h⟩ | ⟨_, k, hk, _, y, hR, hc⟩
  · rcases h with ⟨_, _, h⟩ | ⟨_, _, _, h⟩ | ⟨hp, h4, rfl, _⟩
    · cases h
    · cases h
    · have hno : ∀ j, j < xs.length → (xs.getD j noB).nm ≠ m.b := by
        rcases hp with ⟨k, e, _⟩ | ⟨_, h⟩
        · omega
        · exact h
      refine sok_yes (by simp; omega) fun j hj => ?_
      have hj' : j < xs.length + 1 := by simpa using hj
      rw [getD_snoc]
      by_cases e : j < xs.length
      · rw [if_pos e]
        refine ⟨(hS j e).1, (hS j e).2.1, fun i hi => ?_⟩
        rw [getD_snoc, if_pos (by omega)]
        exact (hS j e).2.2 i hi
      · obtain rfl : j = xs.length := by omega
        rw [if_neg e, if_pos rfl]
        refine ⟨bok_iff.2 ⟨(mok_parts hm).1, ⟨by show 1 ≤ (xs.length : Int) + 1; omega, by show (xs.length : Int) + 1 ≤ 1000000; omega⟩, ⟨by show (1 : Int) ≤ 1; omega, by show (1 : Int) ≤ 1001; omega⟩, ⟨Nat.zero_le _, fun j hj => absurd hj (Nat.not_lt_zero _)⟩, rfl, ⟨Nat.zero_le _, fun j hj => absurd hj (Nat.not_lt_zero _)⟩, fun i j _ hj => absurd hj (Nat.not_lt_zero _)⟩, rfl, fun i hi => ?_⟩
        rw [getD_snoc, if_pos hi]
        exact hno i hi
  · cases h
  · rcases hc with ⟨_, rfl⟩ | ⟨h0, _⟩
    · obtain ⟨r1, r2, r3⟩ := rk_ok (hS k hk).1 hm hR
      have hnm : ∀ i, ((xs.set k y).getD i noB).nm = (xs.getD i noB).nm := by
        intro i
        rw [getD_set' hk]
        by_cases e : i = k
        · rw [if_pos e, e]; exact r2
        · rw [if_neg e]
      refine sok_yes (by simpa using hl) fun j hj => ?_
      have hj' : j < xs.length := by simpa using hj
      refine ⟨?_, ?_, fun i hi => ?_⟩
      · rw [getD_set' hk]
        by_cases e : j = k
        · rw [if_pos e]; exact r1
        · rw [if_neg e]; exact (hS j hj').1
      · rw [getD_set' hk]
        by_cases e : j = k
        · rw [if_pos e, r3, e]; exact (hS k hk).2.1
        · rw [if_neg e]; exact (hS j hj').2.1
      · rw [hnm, hnm]
        exact (hS j hj').2.2 i hi
    · exact absurd rfl h0
end Go.Proofs.YtncnbhekgkemfaaGreatDoor.sa
