/-
  slices.DeleteFunc over mails of one's own row: those that have the flag go.
-/
import Derived.Test.YtncnbhekgkemfaaGreatDoorPkat

namespace Go.Proofs.YtncnbhekgkemfaaGreatDoor.bl
open Go.ChangeShapes Go.WideShapes Go.ChangeAt Go.RowKit Go.Deep Go.Joins
open st gr bx mx
set_option linter.unusedVariables false

theorem ownM_cell {w : World} {base g n c j : Nat} {L : List St} (h : OwnM w base (.slice (some ⟨g, 0, none⟩) n c) L) (hj : j < L.length) : At3 w g (j * 3) (L.getD j noS) := by
  obtain ⟨h0, h1, h2⟩ := mc_at L j hj
  have hl := mc_len L
  have h : w.ownsRow base 110 3 (.slice (some ⟨g, 0, none⟩) n c) L.length (mc L) := h
  obtain rfl : n = L.length := by
    rcases h.2 with ⟨e, _⟩ | ⟨g', cap, cur, e, _⟩
    · cases e
    · cases e; rfl
  exact ⟨by rw [h.cellAt (j * 3) (by omega)]; exact h0, by rw [h.cellAt (j * 3 + 1) (by omega)]; exact h1, by rw [h.cellAt (j * 3 + 2) (by omega)]; exact h2⟩
/-- A mail that goes. -/
def del (x : St) : Bool := bits .and .i64 x.f 8 == 8
set_option maxHeartbeats 1000000 in
set_option maxRecDepth 100000 in
theorem has_any (x : St) (w : World) : Calls Tryz.prog 124 #[.agg #[.int .i64 x.u, .int .i64 x.f, .string x.t], .int .i64 8] w fun e w' => e = .returned (.bool (del x)) ∧ Below w.heap.size w w' := by
  go_enter Tryz.func124, Tryz.ntmps124
  go_wp2
  go_ret
  exact ⟨rfl, (Below.refl _ _).alloc (Nat.le_refl _) _⟩
set_option maxHeartbeats 1000000 in
set_option maxRecDepth 100000 in
theorem goes_any (x : St) (w : World) : Calls Tryz.prog 123 #[.agg #[.int .i64 x.u, .int .i64 x.f, .string x.t]] w fun e w' => e = .returned (.bool (del x)) ∧ Below w.heap.size w w' := by
  go_enter Tryz.func123, Tryz.ntmps123
  go_wp2_with fail
  refine (has_any x _).mono ?_
  rintro e w1 ⟨rfl, b1⟩
  have b2 := ((Below.refl _ w).alloc (Nat.le_refl _) (.cells #[.int .i64 x.u, .int .i64 x.f, .string x.t] 110)).trans (b1.mono (by simp))
  clear b1
  go_wp2
  go_ret
  exact ⟨rfl, b2⟩
/-- The first that goes. -/
def Fst (ms : List St) (r : Int) : Prop := (∃ k : Nat, r = k ∧ k < ms.length ∧ del (ms.getD k noS) = true ∧ ∀ j, j < k → del (ms.getD j noS) = false) ∨ (r = -1 ∧ ∀ j, j < ms.length → del (ms.getD j noS) = false)
set_option maxHeartbeats 2000000 in
set_option maxRecDepth 100000 in
theorem first_any (N : Nat) (v : Value) (ms : List St) (w : World) (h : MailsIn w N v ms) (hN : N ≤ w.heap.size) (hn : ms.length ≤ 1048576) :
    Calls Tryz.prog 133 #[v, .func (Fn.func 123) #[] #[]] w fun e w' => (∃ r : Int, e = .returned (.int .i64 r) ∧ Fst ms r) ∧ Below w.heap.size w w' := by
  obtain ⟨a, cap, rfl, hc⟩ := h
  obtain ⟨n, hn'⟩ : ∃ n, n = ms.length := ⟨_, rfl⟩
  have HN : Hid (n = ms.length) := hn'
  have HH : Hid (ms = [] ∨ ∃ b off, a = some ⟨b, off, none⟩ ∧ b < N ∧ ∀ j, j < ms.length → At3 w b (off + j * 3) (ms.getD j noS)) := hc
  rw [← hn'] at hn ⊢
  clear hc hn'
  go_enter Tryz.func133, Tryz.ntmps133
  go_wp2
  go_loopw [8] (fun i wr => ∃ k : Nat, k ≤ n ∧ i = .int .i64 k ∧ (∀ j, j < k → del (ms.getD j noS) = false) ∧ Below w.heap.size w wr) (fun i _ => n - (intOf i).toNat)
  case atStart => exact ⟨0, Nat.zero_le _, rfl, fun j hj => absurd hj (Nat.not_lt_zero _), Below.refl _ _⟩
  case round =>
    obtain ⟨k, hk, rfl, hno, hbw⟩ := hrel
    have HNO : Hid (∀ j, j < k → del (ms.getD j noS) = false) := hno
    clear hno
    by_cases hlt : k < n
    · have hka : k < ms.length := by rw [← HN.out]; exact hlt
      rcases HH.out with e | ⟨b, off, rfl, hbl, hcells⟩
      · rw [e] at hka; simp at hka
      have hat := (hcells k hka).keep hbw (by omega)
      have HKA : Hid (k < ms.length) := hka
      clear hcells hka
      generalize hx : ms.getD k noS = x at hat
      have HX : Hid (ms.getD k noS = x) := hx
      clear hx
      obtain ⟨c0, c1, c2⟩ := hat
      have hlt' : (k : Int) < (n : Int) := by omega
      go_wp2_with fail
      refine (goes_any x wr).mono ?_
      rintro e w2 ⟨rfl, hb2⟩
      have b2 := hbw.trans (hb2.mono hbw.size)
      clear hb2 hbw c0 c1 c2
      have HD : Hid (del (ms.getD k noS) = del x) := congrArg del HX.out
      generalize del x = B at HD ⊢
      cases B
      · have HE : Hid (∀ j, j < k + 1 → del (ms.getD j noS) = false) := fun j hj => by
          by_cases e : j = k
          · rw [e]; exact HD.out
          · exact HNO.out j (by omega)
        go_wp2
        go_roundw
        case rel => exact ⟨k + 1, by omega, by go_num, HE.out, b2⟩
        case measure => simp [intOf]; omega
      · have HE : Hid (Fst ms k) := .inl ⟨k, rfl, HKA.out, HD.out, HNO.out⟩
        go_wp2
        go_ret
        exact ⟨⟨k, rfl, HE.out⟩, b2⟩
    · have HE : Hid (Fst ms (-1)) := .inr ⟨rfl, fun j hj => HNO.out j (by have := HN.out; omega)⟩
      go_wp2
      go_ret
      exact ⟨⟨-1, rfl, HE.out⟩, hbw⟩
def kept (ms : List St) : List St := ms.filter fun x => !del x
theorem kept_none {ms : List St} (h : ∀ j, j < ms.length → del (ms.getD j noS) = false) : kept ms = ms := by
  unfold kept
  rw [List.filter_eq_self]
  intro x hx
  obtain ⟨j, hj, rfl⟩ := List.mem_iff_getElem.1 hx
  have := h j hj
  rw [List.getD_eq_getElem?_getD, List.getElem?_eq_getElem hj] at this
  simpa using this
theorem kept_take {ms : List St} {j : Nat} (hj : j < ms.length) : kept (ms.take (j + 1)) = if del (ms.getD j noS) = true then kept (ms.take j) else kept (ms.take j) ++ [ms.getD j noS] := by
  have e : ms.getD j noS = ms[j] := by simp [List.getD_eq_getElem?_getD, hj]
  unfold kept
  rw [List.take_succ_eq_append_getElem hj, List.filter_append, e]
  by_cases h : del ms[j] = true
  · rw [if_pos h]; simp [h]
  · rw [if_neg h]; simp [h]
theorem own_len {w : World} {base g n c : Nat} {L : List St} (h : OwnM w base (.slice (some ⟨g, 0, none⟩) n c) L) : n = L.length := by
  rcases h.2 with ⟨e, _⟩ | ⟨g', cap, cur, e, _⟩
  · cases e
  · cases e; rfl
theorem fr3 {w : World} {base g n c : Nat} {L : List St} (h : OwnM w base (.slice (some ⟨g, 0, none⟩) n c) L) (j : Nat) : w.frozen? ⟨g, j, none⟩ = false := by
  have h' : w.ownsRow base 110 3 (.slice (some ⟨g, 0, none⟩) n c) L.length (mc L) := h
  obtain rfl := own_len h
  exact h'.frozenAt j
theorem mc_put {L : List St} {i : Nat} (hi : i < L.length) (x : St) : (((mc L).set (i * 3) (.int .i64 x.u)).set (i * 3 + 1) (.int .i64 x.f)).set (i * 3 + 2) (.string x.t) = mc (L.set i x) := by
  have hl := mc_len L
  refine mc_ext (by simp [hl]) (fun j hj => ?_)
  rw [List.length_set] at hj
  by_cases e : j = i
  · subst e
    have ex : (L.set j x).getD j noS = x := by simp [List.getD_eq_getElem?_getD, hi]
    rw [ex]
    refine ⟨?_, ?_, ?_⟩
    · rw [List.getElem?_set_ne (by omega), List.getElem?_set_ne (by omega), List.getElem?_set_self (by omega)]
    · rw [List.getElem?_set_ne (by omega), List.getElem?_set_self (by rw [List.length_set]; omega)]
    · rw [List.getElem?_set_self (by rw [List.length_set, List.length_set]; omega)]
  · have ex : (L.set i x).getD j noS = L.getD j noS := by
      rw [List.getD_eq_getElem?_getD, List.getElem?_set_ne (by omega), ← List.getD_eq_getElem?_getD]
    rw [ex]
    obtain ⟨h0, h1, h2⟩ := mc_at L j hj
    refine ⟨?_, ?_, ?_⟩
    · rw [List.getElem?_set_ne (by omega), List.getElem?_set_ne (by omega), List.getElem?_set_ne (by omega)]; exact h0
    · rw [List.getElem?_set_ne (by omega), List.getElem?_set_ne (by omega), List.getElem?_set_ne (by omega)]; exact h1
    · rw [List.getElem?_set_ne (by omega), List.getElem?_set_ne (by omega), List.getElem?_set_ne (by omega)]; exact h2
theorem put3 {w : World} {base g n c i : Nat} {L : List St} (h : OwnM w base (.slice (some ⟨g, 0, none⟩) n c) L) (hi : i < L.length) (x : St) :
    OwnM (((w.setCell ⟨g, i * 3, none⟩ (.int .i64 x.u)).setCell ⟨g, i * 3 + 1, none⟩ (.int .i64 x.f)).setCell ⟨g, i * 3 + 2, none⟩ (.string x.t)) base (.slice (some ⟨g, 0, none⟩) n c) (L.set i x) ∧ w.grownBy (((w.setCell ⟨g, i * 3, none⟩ (.int .i64 x.u)).setCell ⟨g, i * 3 + 1, none⟩ (.int .i64 x.f)).setCell ⟨g, i * 3 + 2, none⟩ (.string x.t)) (some g) := by
  have h' : w.ownsRow base 110 3 (.slice (some ⟨g, 0, none⟩) n c) L.length (mc L) := h
  obtain rfl := own_len h
  have s1 := h'.stored (i * 3) (.int .i64 x.u)
  have s2 := s1.1.stored (i * 3 + 1) (.int .i64 x.f)
  have s3 := s2.1.stored (i * 3 + 2) (.string x.t)
  refine ⟨?_, ow.grown_trans (ow.grown_trans s1.2 s2.2) s3.2⟩
  have := s3.1
  rw [mc_put hi x] at this
  unfold OwnM
  rw [List.length_set]
  exact this
theorem own_cap {w : World} {base g n c : Nat} {L : List St} (h : OwnM w base (.slice (some ⟨g, 0, none⟩) n c) L) : n ≤ c := by
  rcases h.2 with ⟨e, _⟩ | ⟨g', cap, cur, e, _, _, hc, _⟩
  · cases e
  · cases e; exact hc
theorem mc_take : ∀ (L : List St) (i : Nat), mc (L.take i) = (mc L).take (i * 3)
  | [], i => by simp [mc]
  | x :: L, 0 => by simp [mc]
  | x :: L, i + 1 => by
    rw [List.take_succ_cons, mc, mc, mc_take L i, show (i + 1) * 3 = i * 3 + 3 from by omega]
    rfl
theorem own_cells {base g e size n cap : Nat} : ∀ (vs : List Value) (o : Nat) (w : World) (xs : List Value), w.ownsRow base e size (.slice (some ⟨g, 0, none⟩) n cap) n xs → ∃ xs', (w.setCells g o vs).ownsRow base e size (.slice (some ⟨g, 0, none⟩) n cap) n xs' ∧ xs'.take o = xs.take o ∧ w.grownBy (w.setCells g o vs) (some g)
  | [], o, w, xs, h => ⟨xs, h, rfl, ow.grown_refl _ _⟩
  | v :: r, o, w, xs, h => by
    have s := h.stored o v
    obtain ⟨xs', h1, h2, h3⟩ := own_cells r (o + 1) _ _ s.1
    refine ⟨xs', h1, ?_, ow.grown_trans s.2 h3⟩
    have e := congrArg (List.take o) h2
    rw [List.take_take, List.take_take, Nat.min_eq_left (by omega), List.take_set_of_le (Nat.le_refl _)] at e
    exact e
theorem own_cut {w : World} {base g e size n cap i : Nat} {xs : List Value} (h : w.ownsRow base e size (.slice (some ⟨g, 0, none⟩) n cap) n xs) (hi : i ≤ n) : w.ownsRow base e size (.slice (some ⟨g, 0, none⟩) i cap) i (xs.take (i * size)) := by
  obtain ⟨h1, h2⟩ := h
  have hle : i * size ≤ n * size := Nat.mul_le_mul_right _ hi
  refine ⟨by rw [List.length_take]; omega, ?_⟩
  rcases h2 with ⟨e, _⟩ | ⟨g', cap', cur, e, hb, hg, hnc, hcm, hcs, ht⟩
  · cases e
  · cases e
    refine .inr ⟨g, cap, cur, rfl, hb, hg, by omega, hcm, hcs, ?_⟩
    rw [← ht, List.take_take, Nat.min_eq_left hle]
def zS : Value := .agg #[.int .i64 0, .int .i64 0, .string ByteArray.empty]
theorem zero_one : ∀ (k : Nat), ∀ v ∈ (Builtin.zeroCells zS.cells k).toList, v.oneCell' = true := by
  intro k v hv
  simp [Builtin.zeroCells, zS, Value.cells] at hv
  obtain ⟨a, _, rfl⟩ := hv
  have h3 : a % 3 = 0 ∨ a % 3 = 1 ∨ a % 3 = 2 := by omega
  rcases h3 with h | h | h <;> rw [h] <;> rfl
theorem zero_len (k : Nat) : (Builtin.zeroCells zS.cells k).toList.length = k * 3 := by simp [Builtin.zeroCells, zS, Value.cells]
/-- The tail of a row is cleared. -/
theorem clear_tail {w : World} {base g n c i : Nat} {L : List St} (h : OwnM w base (.slice (some ⟨g, 0, none⟩) n c) L) (hi : i < n) :
    ∃ X, (Builtin.clear_ #[97] 0 #[.slice (some ⟨g, i * 3, none⟩) (n - i) (c - i)]).run Tryz.prog w = .ok (.tuple #[]) X ∧ OwnM X base (.slice (some ⟨g, 0, none⟩) i c) (L.take i) ∧ w.grownBy X (some g) := by
  have h' : w.ownsRow base 110 3 (.slice (some ⟨g, 0, none⟩) n c) L.length (mc L) := h
  obtain rfl := own_len h
  have hl := mc_len L
  have hr := cl.run_clear_cells (P := Tryz.prog) w 97 110 0 zS Tryz.underlying97 (fun w => by kernel_rfl) g (i * 3) (L.length - i) (c - i) (by omega) (zero_one _) (fun j hj => by
    rw [zero_len] at hj
    rw [h'.cellAt (i * 3 + j) (by omega), List.getElem?_eq_getElem (by omega)]
    rfl) (fun j hj => h'.frozenAt _)
  obtain ⟨xs', h1, h2, h3⟩ := own_cells (Builtin.zeroCells zS.cells (L.length - i)).toList (i * 3) w (mc L) h'
  refine ⟨_, hr, ?_, h3⟩
  have h4 := own_cut h1 (show i ≤ L.length by omega)
  rw [h2, ← mc_take] at h4
  unfold OwnM
  rw [List.length_take, Nat.min_eq_left (by omega)]
  exact h4
/-- The mails' row while it is gone over. -/
def Go (ms L : List St) (i j : Nat) : Prop := L.length = ms.length ∧ i < j ∧ j ≤ ms.length ∧ L.take i = kept (ms.take j) ∧ ∀ p, j ≤ p → p < ms.length → L.getD p noS = ms.getD p noS
theorem go_start {ms : List St} {k : Nat} (hk : k < ms.length) (hd : del (ms.getD k noS) = true) (hno : ∀ j, j < k → del (ms.getD j noS) = false) : Go ms ms k (k + 1) := by
  refine ⟨rfl, by omega, by omega, ?_, fun p _ _ => rfl⟩
  rw [kept_take hk, if_pos hd, kept_none]
  intro j hj
  rw [List.length_take] at hj
  have e : (ms.take k).getD j noS = ms.getD j noS := by simp [List.getD_eq_getElem?_getD, show j < k by omega]
  rw [e]
  exact hno j (by omega)
theorem go_pass {ms L : List St} {i j : Nat} (h : Go ms L i j) (hj : j < ms.length) (hd : del (ms.getD j noS) = true) : Go ms L i (j + 1) := by
  obtain ⟨h1, h2, h3, h4, h5⟩ := h
  exact ⟨h1, by omega, by omega, by rw [kept_take hj, if_pos hd, h4], fun p hp hq => h5 p (by omega) hq⟩
theorem go_move {ms L : List St} {i j : Nat} (h : Go ms L i j) (hj : j < ms.length) (hd : del (ms.getD j noS) = false) : Go ms (L.set i (ms.getD j noS)) (i + 1) (j + 1) := by
  obtain ⟨h1, h2, h3, h4, h5⟩ := h
  refine ⟨by rw [List.length_set]; exact h1, by omega, by omega, ?_, fun p hp hq => ?_⟩
  · rw [kept_take hj, if_neg (by rw [hd]; simp), ← h4, List.take_succ_eq_append_getElem (by rw [List.length_set]; omega), List.getElem_set_self, List.take_set_of_le (Nat.le_refl _)]
  · rw [← h5 p (by omega) hq, List.getD_eq_getElem?_getD, List.getElem?_set_ne (by omega), ← List.getD_eq_getElem?_getD]
set_option maxHeartbeats 4000000 in
set_option maxRecDepth 100000 in
theorem dele_some (g n c base : Nat) (ms : List St) (w : World) (h : OwnM w base (.slice (some ⟨g, 0, none⟩) n c) ms) (hb : base ≤ w.heap.size) (hn : ms.length ≤ 30) :
    Calls Tryz.prog 122 #[.slice (some ⟨g, 0, none⟩) n c, .func (Fn.func 123) #[] #[]] w fun e w' => (∃ k, e = .returned (.slice (some ⟨g, 0, none⟩) k c) ∧ OwnM w' base (.slice (some ⟨g, 0, none⟩) k c) (kept ms)) ∧ w.grownBy w' (some g) := by
  have hnm : n = ms.length := by
    rcases h.2 with ⟨e, _⟩ | ⟨g', cap, cur, e, _⟩
    · cases e
    · cases e; rfl
  have HNM : Hid (n = ms.length) := hnm
  have hn30 : n ≤ 30 := by omega
  have HO : Hid (OwnM w base (.slice (some ⟨g, 0, none⟩) n c) ms) := h
  have HF : Hid (Calls Tryz.prog 133 #[.slice (some ⟨g, 0, none⟩) n c, .func (Fn.func 123) #[] #[]] w fun e w' => (∃ r : Int, e = .returned (.int .i64 r) ∧ Fst ms r) ∧ Below w.heap.size w w') := first_any w.heap.size _ ms w (ownM_in h (Nat.le_refl _)) (Nat.le_refl _) (by omega)
  clear h hnm
  go_enter Tryz.func122, Tryz.ntmps122
  go_wp2_with fail
  refine HF.out.mono ?_
  rintro e w1 ⟨⟨r, rfl, hr⟩, b1⟩
  have HO1 : Hid (OwnM w1 base (.slice (some ⟨g, 0, none⟩) n c) ms ∧ w.grownBy w1 (some g)) := ⟨ow.own_below HO.out b1, ow.grown_below b1⟩
  clear HF HO b1
  rcases hr with ⟨k, rfl, hk, hd, hno⟩ | ⟨rfl, hno⟩
  · have HG : Hid (Go ms ms k (k + 1)) := go_start hk hd hno
    have hkn : k < n := by rw [HNM.out]; exact hk
    have hk1 : ((k : Int) == -1) = false := beq_eq_false_iff_ne.2 (by omega)
    clear hd hno hk
    go_wp2
    go_loopw [5, 6] (fun a b wr => ∃ (i j : Nat) (L : List St), a = .int .i64 i ∧ b = .int .i64 j ∧ Go ms L i j ∧ OwnM wr base (.slice (some ⟨g, 0, none⟩) n c) L ∧ w.grownBy wr (some g)) (fun _ b _ => n - (intOf b).toNat)
    case atStart => exact ⟨k, k + 1, ms, rfl, rfl, HG.out, HO1.out.1, HO1.out.2⟩
    case round =>
      obtain ⟨i, j, L, rfl, rfl, hgo, hown, hgr⟩ := hrel
      have HGO : Hid (Go ms L i j) := hgo
      have hjn : j ≤ n := by rw [HNM.out]; exact hgo.2.2.1
      have hij : i < j := hgo.2.1
      have HLL : Hid (L.length = n) := by rw [HNM.out]; exact hgo.1
      have HOW : Hid (OwnM wr base (.slice (some ⟨g, 0, none⟩) n c) L) := hown
      have HGR : Hid (w.grownBy wr (some g)) := hgr
      by_cases hlt : j < n
      · have hlt' : (j : Int) < (n : Int) := by omega
        have hj0 : (0 : Int) ≤ (j : Int) := by omega
        have hx : L.getD j noS = ms.getD j noS := hgo.2.2.2.2 j (Nat.le_refl _) (by rw [← HNM.out]; exact hlt)
        generalize hX : ms.getD j noS = x at hx
        have HX : Hid (ms.getD j noS = x) := hX
        have hin := ownM_cell hown (show j < L.length by rw [HLL.out]; exact hlt)
        rw [hx] at hin
        obtain ⟨q0, q1, q2⟩ := hin
        clear hgo hown hgr hX hx
        go_wp2_with fail
        have hba := (Below.refl wr.heap.size wr).alloc (Nat.le_refl _) (.cells #[.int .i64 x.u, .int .i64 x.f, .string x.t] 110)
        have HB3 : Hid (B3 (wr.alloc (.cells #[.int .i64 x.u, .int .i64 x.f, .string x.t] 110)) wr.heap.size 110 (.int .i64 x.u) (.int .i64 x.f) (.string x.t)) := b3_new wr _ _ _ _
        refine (goes_any x _).mono ?_
        rintro e w2 ⟨rfl, hb2⟩
        have b2 : Below wr.heap.size wr w2 := hba.trans (hb2.mono hba.size)
        have HOW2 : Hid (OwnM w2 base (.slice (some ⟨g, 0, none⟩) n c) L) := ow.own_below HOW.out b2
        have HGR2 : Hid (w.grownBy w2 (some g)) := ow.grown_trans HGR.out (ow.grown_below b2)
        have R := HB3.out.keep hb2
        have HD : Hid (del (ms.getD j noS) = del x) := congrArg del HX.out
        have HJM : Hid (j < ms.length) := by rw [← HNM.out]; exact hlt
        clear q0 q1 q2 hba hb2 HB3 HOW HGR
        generalize del x = B at HD ⊢
        cases B
        · have r0 := R.c0
          have r1 := R.c1'
          have r2 := R.c2'
          have hin := ownM_cell HOW2.out (show i < L.length by rw [HLL.out]; omega)
          obtain ⟨s0, s1, s2⟩ := hin
          have hin' : (i : Int) < (n : Int) := by omega
          have hi0 : (0 : Int) ≤ (i : Int) := by omega
          clear b2
          have f0 := fr3 HOW2.out (i * 3)
          have f1 := fr3 HOW2.out (i * 3 + 1)
          have f2 := fr3 HOW2.out (i * 3 + 2)
          have HE : Hid (Go ms (L.set i x) (i + 1) (j + 1)) := by
            have := go_move HGO.out HJM.out HD.out
            rw [HX.out] at this
            exact this
          have HP := put3 HOW2.out (show i < L.length by rw [HLL.out]; omega) x
          have HPO : Hid (OwnM (((w2.setCell ⟨g, i * 3, none⟩ (.int .i64 x.u)).setCell ⟨g, i * 3 + 1, none⟩ (.int .i64 x.f)).setCell ⟨g, i * 3 + 2, none⟩ (.string x.t)) base (.slice (some ⟨g, 0, none⟩) n c) (L.set i x) ∧ w.grownBy (((w2.setCell ⟨g, i * 3, none⟩ (.int .i64 x.u)).setCell ⟨g, i * 3 + 1, none⟩ (.int .i64 x.f)).setCell ⟨g, i * 3 + 2, none⟩ (.string x.t)) (some g)) := ⟨HP.1, ow.grown_trans HGR2.out HP.2⟩
          clear HP
          go_wp2
          go_roundw
          case rel => exact ⟨i + 1, j + 1, L.set i x, by go_num, by go_num, HE.out, HPO.out.1, HPO.out.2⟩
          case measure => simp [intOf]; omega
        · have HE : Hid (Go ms L i (j + 1)) := go_pass HGO.out HJM.out HD.out
          clear R b2
          go_wp2
          go_roundw
          case rel => exact ⟨i, j + 1, L, rfl, by go_num, HE.out, HOW2.out, HGR2.out⟩
          case measure => simp [intOf]; omega
      · have hjn2 : j = n := by omega
        subst hjn2
        have hcap := own_cap hown
        have hic : (i : Int) ≤ (j : Int) := by omega
        have hi0 : (0 : Int) ≤ (i : Int) := by omega
        have hci : ¬ c = i := by omega
        have hicc : (i : Int) ≤ (c : Int) := by omega
        obtain ⟨X, hX, hXo, hXg⟩ := clear_tail hown (show i < j by omega)
        have HXO : Hid (OwnM X base (.slice (some ⟨g, 0, none⟩) i c) (kept ms)) := by
          rw [show kept ms = L.take i from by rw [hgo.2.2.2.1, HNM.out, List.take_length]]
          exact hXo
        have HXG : Hid (w.grownBy X (some g)) := ow.grown_trans hgr hXg
        clear hgo hown hgr hlt hXo hXg
        go_wp2
        go_ret
        exact ⟨⟨i, rfl, HXO.out⟩, HXG.out⟩
  · have HK : Hid (kept ms = ms) := kept_none hno
    clear hno
    go_wp2
    go_ret
    exact ⟨⟨n, rfl, by rw [HK.out]; exact HO1.out.1⟩, HO1.out.2⟩
end Go.Proofs.YtncnbhekgkemfaaGreatDoor.bl
