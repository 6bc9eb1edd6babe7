/-
  withBox: a box more, at the end of a list that is one's own.
  A mail is found in a rising row by halves.
  The flags of one mail of a box, changed in its own row: the row that it leaves.
  clear of a slice whose elements have three cells.
-/
import Derived.Test.YtncnbhekgkemfaaGreatDoorPkas
import Derived.Test.YtncnbhekgkemfaaGreatDoorPkar
import Derived.Test.YtncnbhekgkemfaaGreatDoorPkai
import Derived.Deep.DeepCutAuto
import Derived.Deep.Cut
import Derived.Deep.CutRange
import Derived.Deep.RegionWith
import Derived.Test.YtncnbhekgkemfaaGreatDoorPkap
import Derived.Lib.SliceRun

namespace Go.Proofs.YtncnbhekgkemfaaGreatDoor.bl
open Go.ChangeShapes Go.WideShapes Go.ChangeAt Go.RowKit Go.Deep Go.Joins
open st gr bx mx
set_option linter.unusedVariables false

theorem getD_app {xs : List Bx} {x : Bx} {j : Nat} (h : j < xs.length) : (xs ++ [x]).getD j noB = xs.getD j noB := by
  simp only [List.getD_eq_getElem?_getD]
  rw [List.getElem?_append_left h]
theorem getD_last {xs : List Bx} {x : Bx} : (xs ++ [x]).getD xs.length noB = x := by simp
theorem bcells_app {xs : List Bx} {us : Nat → Value × Value} {x : Bx} : ∀ {n : Nat}, n ≤ xs.length → bcells (xs ++ [x]) us n = bcells xs us n
  | 0, _ => rfl
  | n + 1, h => by rw [bcells, bcells, bcells_app (by omega), getD_app (by omega)]
/-- What a box more makes of a list. -/
def Wb (xs : List Bx) (s : ByteArray) (ys : List Bx) (c : Int) : Prop :=
  ((∃ r : Int, 0 ≤ r ∧ Plc xs s r) ∧ ys = xs ∧ c = 9) ∨ (Plc xs s (-1) ∧ xs.length = 4 ∧ ys = xs ∧ c = 7) ∨ (Plc xs s (-1) ∧ xs.length ≠ 4 ∧ ys = xs ++ [⟨s, (xs.length : Int) + 1, 1, [], []⟩] ∧ c = 0)
theorem wb_one {xs ys ys' : List Bx} {s : ByteArray} {c c' : Int} (h : Wb xs s ys c) (h' : Wb xs s ys' c') : ys = ys' ∧ c = c' := by
  rcases h with ⟨⟨r, hr, hp⟩, rfl, rfl⟩ | ⟨hp, hl, rfl, rfl⟩ | ⟨hp, hl, rfl, rfl⟩
  · rcases h' with ⟨_, rfl, rfl⟩ | ⟨hp', _⟩ | ⟨hp', _⟩
    · exact ⟨rfl, rfl⟩
    · have := plc_one hp hp'; omega
    · have := plc_one hp hp'; omega
  · rcases h' with ⟨⟨r, hr, hp'⟩, _⟩ | ⟨_, _, rfl, rfl⟩ | ⟨_, hl', _⟩
    · have := plc_one hp hp'; omega
    · exact ⟨rfl, rfl⟩
    · exact absurd hl hl'
  · rcases h' with ⟨⟨r, hr, hp'⟩, _⟩ | ⟨_, hl', _⟩ | ⟨_, _, rfl, rfl⟩
    · have := plc_one hp hp'; omega
    · exact absurd hl' hl
    · exact ⟨rfl, rfl⟩
def noV : Value × Value := (.slice none 0 0, .slice none 0 0)
theorem ownR_app {w : World} {base : Nat} {xs : List Bx} {us : Nat → Value × Value} {x : Bx} (hx : x.ms = [] ∧ x.ks = []) (h : OwnR w base xs us xs.length) : OwnR w base (xs ++ [x]) (upd us xs.length noV) (xs.length + 1) := by
  intro j hj
  by_cases e : j = xs.length
  · subst e
    simp only [upd, if_true]
    rw [getD_last, hx.1, hx.2]
    exact ⟨World.ownsRow_nil _ _ _ _, World.ownsRow_nil _ _ _ _⟩
  · simp only [upd, if_neg e]
    rw [getD_app (by omega)]
    exact h j (by omega)
theorem dis_app {us : Nat → Value × Value} {n : Nat} (h : Dis us n) : Dis (upd us n noV) (n + 1) := by
  intro i j hij hj
  by_cases e : j = n
  · subst e
    simp only [upd, if_true, if_neg (show i ≠ j by omega), noV]
    refine ⟨?_, ?_⟩
    · rcases (us i).1.ownBlock with _ | b
      · exact .inl rfl
      · exact .inr (by simp [Value.ownBlock])
    · rcases (us i).2.ownBlock with _ | b
      · exact .inl rfl
      · exact .inr (by simp [Value.ownBlock])
  · simp only [upd, if_neg e, if_neg (show i ≠ n by omega)]
    exact h i j hij (by omega)

set_option maxHeartbeats 4000000 in
set_option maxRecDepth 100000 in
theorem withBox_any (L : Value) (base : Nat) (xs : List Bx) (us : Nat → Value × Value) (s : ByteArray) (w : World) (h : OwnL w base L xs us) (hb : base ≤ w.heap.size) (hn : xs.length ≤ 1048576) (hs : s.size ≤ 1048576) :
    Calls Tryz.prog 97 #[L, .string s] w fun e w' => (∃ L' ys us' c, e = .returned (.tuple #[L', .int .i64 c]) ∧ Wb xs s ys c ∧ OwnL w' base L' ys us') ∧ Below base w w' := by
  have HO : Hid (OwnL w base L xs us) := h
  obtain ⟨i0, hi, hz0, hz1, hz2⟩ := info_parts infoB
  obtain ⟨La, n, Lc, rfl, hln⟩ : ∃ a n c, L = .slice a n c ∧ n = xs.length := by
    rcases h.1.2 with ⟨rfl, hz⟩ | ⟨g, cap, cur, rfl, _⟩
    · exact ⟨_, _, _, rfl, hz.symm⟩
    · exact ⟨_, _, _, rfl, rfl⟩
  have HN : Hid (n = xs.length) := hln
  rw [← hln] at hn
  clear h hln
  go_enter Tryz.func97, Tryz.ntmps97
  go_wp2_with fail
  refine (place_any w.heap.size _ xs us s w (ownL_boxes HO.out) (Nat.le_refl _) (by rw [← HN.out]; exact hn)).mono ?_
  rintro e w1 ⟨⟨r, rfl, hp⟩, hb1⟩
  have HP : Hid (Plc xs s r) := hp
  have HO1 : Hid (OwnL w1 base (.slice La n Lc) xs us) := ownL_below HO.out hb1
  have HB1 : Hid (Below base w w1) := hb1.mono hb
  have hb2 : base ≤ w1.heap.size := Nat.le_trans hb hb1.size
  clear HO hb1 hp
  by_cases hr : 0 ≤ r
  · have HQ : Hid (∃ L' ys us' c, (Ending.returned (.tuple #[.slice La n Lc, .int .i64 9]) = .returned (.tuple #[L', .int .i64 c])) ∧ Wb xs s ys c ∧ OwnL w1 base L' ys us') := ⟨_, xs, us, 9, rfl, .inl ⟨⟨r, hr, HP.out⟩, rfl, rfl⟩, HO1.out⟩
    go_wp2
    go_ret2
    exact ⟨HQ.out, HB1.out⟩
  have hr1 : r = -1 := by
    rcases plc_nat HP.out with h | ⟨k, h, _⟩
    · exact h
    · omega
  subst hr1
  clear hr
  by_cases h4 : n = 4
  · have HQ : Hid (∃ L' ys us' c, (Ending.returned (.tuple #[.slice La n Lc, .int .i64 7]) = .returned (.tuple #[L', .int .i64 c])) ∧ Wb xs s ys c ∧ OwnL w1 base L' ys us') := ⟨_, xs, us, 7, rfl, .inr (.inl ⟨HP.out, by rw [← HN.out]; exact h4, rfl, rfl⟩), HO1.out⟩
    have h4' : ((n : Int) == 4) = true := by rw [h4]; rfl
    clear h4
    go_wp2
    go_ret2
    exact ⟨HQ.out, HB1.out⟩
  have h4' : ((n : Int) == 4) = false := by
    rw [beq_eq_false_iff_ne]; omega
  have H4 : Hid (n ≠ 4) := h4
  clear h4
  go_wp2_with fail
  refine (clone_any s w1 hs).mono ?_
  rintro e w2 ⟨rfl, hb3⟩
  have HO2 : Hid (OwnL (w2.alloc (.cells #[.string s, .int .i64 ((n : Int) + 1), .int .i64 1, .slice none 0 0, .slice none 0 0] 99)) base (.slice La n Lc) xs us) := ownL_below (ownL_below HO1.out hb3) (bx.new_below _ _ _)
  have HB2 : Hid (Below base w (w2.alloc (.cells #[.string s, .int .i64 ((n : Int) + 1), .int .i64 1, .slice none 0 0, .slice none 0 0] 99)) ∧ base ≤ (w2.alloc (.cells #[.string s, .int .i64 ((n : Int) + 1), .int .i64 1, .slice none 0 0, .slice none 0 0] 99)).heap.size) := by
    have h1 : Below base w w2 := HB1.out.trans (hb3.mono hb2)
    have h2 : base ≤ w2.heap.size := Nat.le_trans hb2 hb3.size
    exact ⟨h1.alloc h2 _, by simp; omega⟩
  clear HO1 HB1 hb3 hb2
  have HW : Hid ((w2.alloc (.cells #[.string s, .int .i64 ((n : Int) + 1), .int .i64 1, .slice none 0 0, .slice none 0 0] 99)).ownsRow base 99 5 (.slice La n Lc) n (bcells xs us n)) := by
    have := HO2.out.1
    unfold OwnB at this
    rw [← HN.out] at this
    exact this
  go_wp2_with (at_builtin; refine wpList_append_own _ rfl _ _ 33 rfl base 99 i0 _ 5 80 Tryz.underlying33 hi hz0 hz1 hz2 rfl (by decide) _ _ _ rfl HW.out ⟨w2.heap.size, 0, none⟩ 1 1 [.string s, .int .i64 ((n : Int) + 1), .int .i64 1, .slice none 0 0, .slice none 0 0] rfl rfl (ow.cells_new _ [.string s, .int .i64 ((n : Int) + 1), .int .i64 1, .slice none 0 0, .slice none 0 0] _) (by intro u hu; simp at hu; rcases hu with rfl | rfl | rfl | rfl | rfl <;> rfl) (by unfold maxLen; omega) (by omega) HB2.out.2 ?_; intro v3 w3 hown hgrow hnil)
  have HE : Hid ((∃ ys us', Wb xs s ys 0 ∧ OwnL w3 base v3 ys us') ∧ Below base w w3) := by
    refine ⟨⟨xs ++ [⟨s, (xs.length : Int) + 1, 1, [], []⟩], upd us xs.length noV, .inr (.inr ⟨HP.out, by rw [← HN.out]; exact H4.out, rfl, rfl⟩), ?_, ?_, ?_⟩, HB2.out.1.grown hgrow HB2.out.2 (fun j hj => (HW.out.lt j hj).1)⟩
    · unfold OwnB
      rw [show (xs ++ [(⟨s, (xs.length : Int) + 1, 1, [], []⟩ : Bx)]).length = n + 1 by simp [← HN.out]]
      rw [bcells, HN.out, getD_last, bcells_app (Nat.le_refl _), bcells_congr (us := upd us xs.length noV) (vs := us) (fun j hj => by simp only [upd, if_neg (show j ≠ xs.length by omega)])]
      simp only [upd, if_true, noV]
      rw [HN.out] at hown
      exact hown
    · rw [show (xs ++ [(⟨s, (xs.length : Int) + 1, 1, [], []⟩ : Bx)]).length = xs.length + 1 by simp]
      exact ownR_app ⟨rfl, rfl⟩ (ownR_row HO2.out.2.1 HW.out hgrow (by decide) (by decide))
    · rw [show (xs ++ [(⟨s, (xs.length : Int) + 1, 1, [], []⟩ : Bx)]).length = xs.length + 1 by simp]
      exact dis_app HO2.out.2.2
  clear hown hgrow hnil HO2 HB2 HW
  obtain ⟨ra, rn, rc, rfl⟩ : ∃ a n c, v3 = .slice a n c := by
    obtain ⟨⟨ys, us', _, ho⟩, _⟩ := HE.out
    exact slice_fine (own_fine ho.1)
  have HQ : Hid (∃ L' ys us' c, (Ending.returned (.tuple #[.slice ra rn rc, .int .i64 0]) = .returned (.tuple #[L', .int .i64 c])) ∧ Wb xs s ys c ∧ OwnL w3 base L' ys us') := by
    obtain ⟨⟨ys, us', hw, ho⟩, _⟩ := HE.out
    exact ⟨_, ys, us', 0, rfl, hw, ho⟩
  go_wp2
  go_ret2
  exact ⟨HQ.out, HE.out.2⟩
end Go.Proofs.YtncnbhekgkemfaaGreatDoor.bl

namespace Go.Proofs.YtncnbhekgkemfaaGreatDoor.st
open Go.RowKit
set_option linter.unusedVariables false

def Rising (ms : List St) : Prop := ∀ i j, i < j → j < ms.length → (ms.getD i noS).u < (ms.getD j noS).u
theorem rising_of {ms : List St} {nx : Int} : ∀ {k : Nat}, bx.MGood ms nx k → ∀ i j, i < j → j < k → (ms.getD i noS).u < (ms.getD j noS).u
  | 0, _, i, j, _, hj => absurd hj (Nat.not_lt_zero _)
  | k + 1, h, i, j, hij, hj => by
    by_cases e : j = k
    · subst e
      have h1 := (h j (by omega)).1
      by_cases e2 : i + 1 = j
      · subst e2
        rw [bx.last_succ] at h1
        exact h1
      · have h2 := rising_of (k := j) (fun x hx => h x (by omega)) i (j - 1) (by omega) (by omega)
        have h3 : bx.last ms j = (ms.getD (j - 1) noS).u := by simp [bx.last, show j ≠ 0 by omega]
        rw [h3] at h1
        omega
    · exact rising_of (k := k) (fun x hx => h x (by omega)) i j hij (by omega)
theorem rising_bok {x : bx.Bx} (h : bx.bok x = true) : Rising x.ms := by
  have := (bx.mails_of ((bx.bok_of x).1 h).2.2.2.1).2
  exact fun i j hij hj => rising_of this i j hij hj
/-- A mail of that uid is there, or none is. -/
def Fnd (ms : List St) (z : Int) (i : Nat) (b : Bool) : Prop := (b = true ∧ i < ms.length ∧ (ms.getD i noS).u = z) ∨ (b = false ∧ ∀ k, k < ms.length → (ms.getD k noS).u ≠ z)

set_option maxHeartbeats 2000000 in
set_option maxRecDepth 100000 in
theorem bs_any (N : Nat) (v : Value) (ms : List St) (z : Int) (w : World) (h : MailsIn w N v ms) (hN : N ≤ w.heap.size) (hl : ms.length ≤ 30) (hr : Rising ms) :
    Calls Tryz.prog 134 #[v, .int .i64 z, .func (Fn.func 135) #[] #[]] w fun e w' => (∃ (i : Nat) (b : Bool), e = .returned (.tuple #[.int .i64 i, .bool b]) ∧ Fnd ms z i b ∧ i ≤ ms.length) ∧ Below w.heap.size w w' := by
  obtain ⟨a, cap, rfl, h⟩ := h
  obtain ⟨n, hn⟩ : ∃ n, n = ms.length := ⟨_, rfl⟩
  have HN : Hid (n = ms.length) := hn
  have HH : Hid (ms = [] ∨ ∃ b off, a = some ⟨b, off, none⟩ ∧ b < N ∧ ∀ j, j < ms.length → At3 w b (off + j * 3) (ms.getD j noS)) := h
  have HRI : Hid (Rising ms) := hr
  rw [← hn] at hl ⊢
  clear h hr hn
  have HC : Hid (∀ (x : St) w, Calls Tryz.prog 135 #[SV x, .int .i64 z] w fun e w' => e = .returned (.int .i64 (cmpI x.u z)) ∧ Below w.heap.size w w') := fun x w => byUid_any x z w
  go_enter Tryz.func134, Tryz.ntmps134
  go_wp2
  go_loopw [9, 10] (fun i j wr => ∃ (p q : Nat), p ≤ q ∧ q ≤ n ∧ i = .int .i64 p ∧ j = .int .i64 q ∧ (∀ k, k < p → (ms.getD k noS).u < z) ∧ (∀ k, q ≤ k → k < n → z ≤ (ms.getD k noS).u) ∧ Below w.heap.size w wr) (fun i j _ => (intOf j).toNat - (intOf i).toNat)
  case atStart => exact ⟨0, n, by omega, by omega, rfl, rfl, fun k hk => absurd hk (Nat.not_lt_zero _), fun k h1 h2 => by omega, Below.refl _ _⟩
  case round =>
    obtain ⟨p, q, hpq, hqn, rfl, rfl, hlo, hhi, hbw⟩ := hrel
    have HLO : Hid (∀ k, k < p → (ms.getD k noS).u < z) := hlo
    have HHI : Hid (∀ k, q ≤ k → k < n → z ≤ (ms.getD k noS).u) := hhi
    clear hlo hhi
    by_cases hlt : p < q
    · have hlt' : (p : Int) < (q : Int) := by omega
      obtain ⟨m, hm⟩ : ∃ m, m = (p + q) / 2 := ⟨_, rfl⟩
      have hmi : ((p : Int) + (q : Int)) / 2 = (m : Int) := by omega
      have hm1 : p ≤ m := by omega
      have hm2 : m < q := by omega
      have hka : m < ms.length := by have := HN.out; omega
      obtain ⟨b, off, ha, hat⟩ : ∃ b off, a = some ⟨b, off, none⟩ ∧ At3 wr b (off + m * 3) (ms.getD m noS) := by
        rcases HH.out with e | ⟨b, off, e, hb, hc⟩
        · rw [e] at hka; simp at hka
        · exact ⟨b, off, e, (hc m hka).keep hbw (by omega)⟩
      have HSP : Hid ((ms.getD m noS).u < z → ∀ k, k < m + 1 → (ms.getD k noS).u < z) := fun h k hk => by
        by_cases e : k = m
        · rw [e]; exact h
        · have := HRI.out k m (by omega) hka; omega
      have HSQ : Hid (¬ (ms.getD m noS).u < z → ∀ k, m ≤ k → k < n → z ≤ (ms.getD k noS).u) := fun h k hk hkn => by
        by_cases e : k = m
        · rw [e]; omega
        · have := HRI.out m k (by omega) (by have := HN.out; omega); omega
      subst ha
      generalize ms.getD m noS = x at hat HSP HSQ
      obtain ⟨uu, f, t⟩ := x
      obtain ⟨d0, d1, d2⟩ := hat
      simp only at d0 d1 d2 HSP HSQ
      have hmn : (m : Int) < (n : Int) := by omega
      have hm0 : (0 : Int) ≤ (m : Int) := by omega
      clear hm hka
      go_wp2_with fail
      refine (HC.out ⟨uu, f, t⟩ _).mono ?_
      rintro e w2 ⟨rfl, hb2⟩
      have b2 := hbw.trans (hb2.mono hbw.size)
      clear hb2 hbw d0 d1 d2
      simp only
      by_cases hc : uu < z
      · have hci : cmpI uu z = -1 := by simp [cmpI, hc]
        have HX : Hid (∀ k, k < m + 1 → (ms.getD k noS).u < z) := HSP.out hc
        rw [hci]
        clear hci hc HSP HSQ
        go_wp2
        go_roundw
        case rel => exact ⟨m + 1, q, by omega, hqn, by go_num, rfl, HX.out, HHI.out, b2⟩
        case measure => simp [intOf]; omega
      · have hci : (0 : Int) ≤ cmpI uu z := by unfold cmpI; rw [if_neg hc]; split <;> omega
        have HX : Hid (∀ k, m ≤ k → k < n → z ≤ (ms.getD k noS).u) := HSQ.out (by omega)
        generalize cmpI uu z = ci at hci ⊢
        clear hc HSP HSQ
        go_wp2
        go_roundw
        case rel => exact ⟨p, m, hm1, by omega, rfl, by go_num, HLO.out, HX.out, b2⟩
        case measure => simp [intOf]; omega
    · have hpq' : p = q := by omega
      subst hpq'
      by_cases hpn : p < n
      · have hpn' : (p : Int) < (n : Int) := by omega
        have hka : p < ms.length := by have := HN.out; omega
        obtain ⟨b, off, ha, hat⟩ : ∃ b off, a = some ⟨b, off, none⟩ ∧ At3 wr b (off + p * 3) (ms.getD p noS) := by
          rcases HH.out with e | ⟨b, off, e, hb, hc⟩
          · rw [e] at hka; simp at hka
          · exact ⟨b, off, e, (hc p hka).keep hbw (by omega)⟩
        have HY : Hid ((ms.getD p noS).u = z → Fnd ms z p true) := fun h => .inl ⟨rfl, hka, h⟩
        have HNo : Hid ((ms.getD p noS).u ≠ z → Fnd ms z p false) := fun h => .inr ⟨rfl, fun k hk e => by
          have h1 := HHI.out p (Nat.le_refl _) hpn
          by_cases e1 : k < p
          · have := HLO.out k e1; omega
          · by_cases e2 : k = p
            · rw [e2] at e; exact h e
            · have := HRI.out p k (by omega) hk; omega⟩
        subst ha
        generalize ms.getD p noS = x at hat HY HNo
        obtain ⟨uu, f, t⟩ := x
        obtain ⟨d0, d1, d2⟩ := hat
        simp only at d0 d1 d2 HY HNo
        have hm0 : (0 : Int) ≤ (p : Int) := by omega
        clear hka
        go_wp2_with fail
        refine (HC.out ⟨uu, f, t⟩ _).mono ?_
        rintro e w2 ⟨rfl, hb2⟩
        have b2 := hbw.trans (hb2.mono hbw.size)
        clear hb2 hbw d0 d1 d2
        simp only
        by_cases hc : uu = z
        · have hci : cmpI uu z = 0 := by simp [cmpI, hc]
          have HX : Hid (Fnd ms z p true) := HY.out hc
          rw [hci]
          clear hci hc HY HNo
          go_wp2
          go_ret2
          exact ⟨⟨p, true, rfl, HX.out, by omega⟩, b2⟩
        · have hci : (cmpI uu z == 0) = false := by unfold cmpI; split; rfl; split; rfl; omega
          have HX : Hid (Fnd ms z p false) := HNo.out hc
          generalize cmpI uu z = ci at hci ⊢
          clear hc HY HNo
          go_wp2
          go_ret2
          exact ⟨⟨p, false, rfl, HX.out, by omega⟩, b2⟩
      · have hpn' : (n : Int) ≤ (p : Int) := by omega
        have HX : Hid (Fnd ms z p false) := .inr ⟨rfl, fun k hk e => by have := HLO.out k (by have := HN.out; omega); omega⟩
        go_wp2
        go_ret2
        exact ⟨⟨p, false, by simp, HX.out, by omega⟩, hbw⟩

set_option maxHeartbeats 1000000 in
set_option maxRecDepth 100000 in
theorem mailAt_any (x : bx.Bx) (v u : Value) (z : Int) (w : World) (h : bx.RowsAt w v u x.ms x.ks) (hl : x.ms.length ≤ 30) (hr : Rising x.ms) :
    Calls Tryz.prog 132 #[bx.BV x v u, .int .i64 z] w fun e w' => (∃ (i : Nat) (b : Bool), e = .returned (.tuple #[.int .i64 i, .bool b]) ∧ Fnd x.ms z i b ∧ i ≤ x.ms.length) ∧ Below w.heap.size w w' := by
  have b0 := new_below w 99 #[.string x.nm, .int .i64 x.vd, .int .i64 x.nx, v, u]
  have HA : Hid (bx.RowsAt (w.alloc (.cells #[.string x.nm, .int .i64 x.vd, .int .i64 x.nx, v, u] 99)) v u x.ms x.ks) := bx.rows_below h b0
  obtain ⟨⟨a, cap, rfl, _⟩, ⟨a1, cap1, rfl, _⟩⟩ := h
  obtain ⟨nm, vd, nx, ms, ks⟩ := x
  have HR : Hid (Rising ms) := hr
  unfold bx.BV
  simp only at b0 HA hl ⊢
  clear hr
  go_enter Tryz.func132, Tryz.ntmps132
  go_wp2_with fail
  generalize w.alloc _ = w0 at b0 HA ⊢
  refine (bs_any _ _ ms z _ HA.out.1 (Nat.le_refl _) hl HR.out).mono ?_
  rintro e w2 ⟨⟨i, b, rfl, hf, hi⟩, hb2⟩
  have HF : Hid (Fnd ms z i b) := hf
  have b2 := b0.trans (hb2.mono b0.size)
  clear hb2 b0 hf
  go_wp2
  go_ret2
  exact ⟨⟨i, b, rfl, HF.out, hi⟩, b2⟩
end Go.Proofs.YtncnbhekgkemfaaGreatDoor.st

namespace Go.Proofs.YtncnbhekgkemfaaGreatDoor.bl
open Go.ChangeShapes Go.WideShapes Go.ChangeAt Go.RowKit Go.Deep Go.Joins
open st gr bx mx
set_option linter.unusedVariables false

def flg (mode was f : Int) : Int := if mode = 1 then f else if mode = 2 then bits .or .i64 was f else bits .andNot .i64 was f
theorem flg_set {mode was f : Int} (h : mode = 1) : flg mode was f = f := by rw [flg, if_pos h]
theorem flg_add {mode was f : Int} (h : mode = 2) : flg mode was f = bits .or .i64 was f := by rw [flg, if_neg (by omega), if_pos h]
theorem flg_less {mode was f : Int} (h : mode = 3) : flg mode was f = bits .andNot .i64 was f := by rw [flg, if_neg (by omega), if_neg (by omega)]
theorem put5w_new {w x : World} {r : Option Nat} {G : Nat} {a b c d e : Value} (h : w.grownBy x r) (hG : w.heap.size ≤ G) : w.grownBy (put5w x G a b c d e) r :=
  ⟨(put5w_grown x G a b c d e).os.trans h.os, (put5w_grown x G a b c d e).tape.trans h.tape, (put5w_grown x G a b c d e).output.trans h.output, Nat.le_trans h.size (put5w_grown x G a b c d e).size, fun k hk hr => ((put5w_grown x G a b c d e).block k (Nat.lt_of_lt_of_le hk h.size) (by intro e; cases e; omega)).trans (h.block k hk hr)⟩
def setF (ms : List St) (i : Nat) (f : Int) : List St := ms.set i ⟨(ms.getD i noS).u, f, (ms.getD i noS).t⟩
theorem setF_len (ms : List St) (i : Nat) (f : Int) : (setF ms i f).length = ms.length := by simp [setF]
theorem setF_at {ms : List St} {i j : Nat} {f : Int} (hi : i < ms.length) : (setF ms i f).getD j noS = if j = i then ⟨(ms.getD i noS).u, f, (ms.getD i noS).t⟩ else ms.getD j noS := by
  unfold setF
  by_cases e : j = i
  · subst e
    rw [if_pos rfl]
    simp [List.getD_eq_getElem?_getD, hi]
  · rw [if_neg e]
    simp only [List.getD_eq_getElem?_getD]
    rw [List.getElem?_set_ne (Ne.symm e)]
theorem mc_ext {ms : List St} {cs : List Value} (hl : cs.length = ms.length * 3) (h : ∀ j, j < ms.length → In3 cs (j * 3) (ms.getD j noS)) : cs = mc ms := by
  refine List.ext_getElem? fun i => ?_
  by_cases hi : i < ms.length * 3
  · have hq : i / 3 < ms.length := by omega
    obtain ⟨a0, a1, a2⟩ := h (i / 3) hq
    obtain ⟨b0, b1, b2⟩ := mc_at ms (i / 3) hq
    have hr : i % 3 = 0 ∨ i % 3 = 1 ∨ i % 3 = 2 := by omega
    rcases hr with hr | hr | hr
    · rw [show i = i / 3 * 3 by omega, a0, b0]
    · rw [show i = i / 3 * 3 + 1 by omega, a1, b1]
    · rw [show i = i / 3 * 3 + 2 by omega, a2, b2]
  · rw [List.getElem?_eq_none (by omega), List.getElem?_eq_none (by rw [mc_len]; omega)]
theorem mc_setF {ms : List St} {i : Nat} {f : Int} (hi : i < ms.length) : (mc ms).set (i * 3 + 1) (.int .i64 f) = mc (setF ms i f) := by
  refine mc_ext (by rw [List.length_set, mc_len, setF_len]) fun j hj => ?_
  rw [setF_len] at hj
  rw [setF_at hi]
  obtain ⟨b0, b1, b2⟩ := mc_at ms j hj
  by_cases e : j = i
  · subst e
    rw [if_pos rfl]
    refine ⟨?_, ?_, ?_⟩
    · rw [List.getElem?_set_ne (by omega)]; exact b0
    · rw [List.getElem?_set_self (by rw [mc_len]; omega)]
    · rw [List.getElem?_set_ne (by omega)]; exact b2
  · rw [if_neg e]
    refine ⟨?_, ?_, ?_⟩
    · rw [List.getElem?_set_ne (by omega)]; exact b0
    · rw [List.getElem?_set_ne (by omega)]; exact b1
    · rw [List.getElem?_set_ne (by omega)]; exact b2
theorem ownM_setF {w : World} {base g n c i : Nat} {ms : List St} (h : OwnM w base (.slice (some ⟨g, 0, none⟩) n c) ms) (hi : i < ms.length) (f : Int) : OwnM (w.setCell ⟨g, i * 3 + 1, none⟩ (.int .i64 f)) base (.slice (some ⟨g, 0, none⟩) n c) (setF ms i f) := by
  have h' : w.ownsRow base 110 3 (.slice (some ⟨g, 0, none⟩) n c) ms.length (mc ms) := h
  obtain rfl : n = ms.length := by
    rcases h'.2 with ⟨e, _⟩ | ⟨g', cap, cur, e, _⟩
    · cases e
    · cases e; rfl
  have h2 := (h'.stored (i * 3 + 1) (.int .i64 f)).1
  rw [mc_setF hi] at h2
  unfold OwnM
  rw [setF_len]
  exact h2
/-- What withFlags answers. -/
def Wf (y : Bx) (m : mu.Mu) (y' : Bx) (c : Int) : Prop :=
  (∃ i, i < y.ms.length ∧ (y.ms.getD i noS).u = m.u ∧ y' = ⟨y.nm, y.vd, y.nx, setF y.ms i (flg m.m (y.ms.getD i noS).f m.f), y.ks⟩ ∧ c = 0) ∨ ((∀ i, i < y.ms.length → (y.ms.getD i noS).u ≠ m.u) ∧ y' = B0 ∧ c = 17)

end Go.Proofs.YtncnbhekgkemfaaGreatDoor.bl

namespace Go.Proofs.YtncnbhekgkemfaaGreatDoor.cl
open Go.RowKit
set_option linter.unusedVariables false
theorem run_clear_cells {P : Program} (w : World) (t e ty : TypeId) (z : Value) (ht : P.underlying t = some (.slice e)) (hv : ∀ w, (zeroValue e).run P w = .ok z w) (b o n c : Nat) (hn : 0 < n)
    (h1 : ∀ v ∈ (Builtin.zeroCells z.cells n).toList, v.oneCell' = true) (hc : ∀ j, j < (Builtin.zeroCells z.cells n).toList.length → (w.cell? ⟨b, o + j, none⟩).isSome = true) (hf : ∀ j, j < (Builtin.zeroCells z.cells n).toList.length → w.frozen? ⟨b, o + j, none⟩ = false) :
    (Builtin.clear_ #[t] ty #[.slice (some ⟨b, o, none⟩) n c]).run P w = .ok (.tuple #[]) (w.setCells b o (Builtin.zeroCells z.cells n).toList) := by
  have hst := run_storeCells_cells (P := P) b o (Builtin.zeroCells z.cells n).toList 0 w (by simpa using hc) (by simpa using hf) h1
  simp only [Nat.add_zero] at hst
  obtain ⟨m, rfl⟩ : ∃ m, n = m + 1 := ⟨n - 1, by omega⟩
  simp [Builtin.clear_, run_underlying ht, hv, hst]
end Go.Proofs.YtncnbhekgkemfaaGreatDoor.cl
