/-
  The specification's l09Apply where a box is added.
-/
import Derived.Test.YtncnbhekgkemfaaGreatDoorPkbe

namespace Go.Proofs.YtncnbhekgkemfaaGreatDoor.sa
open Go.ChangeShapes Go.WideShapes Go.ChangeAt Go.RowKit Go.Deep Go.Joins
open st gr bx mx bl wi
set_option linter.unusedVariables false

/-- The box that is added. -/
def nB (s : ByteArray) (xs : List Bx) : Bx := ⟨s, (xs.length : Int) + 1, 1, [], []⟩
/-- What each operation brings. -/
def F7 (base : Nat) (L0 : Value) (S : Nat) (s : ByteArray) (xs : List Bx) : Nat → Value → World → Prop
  | 0, v, _ => v = L0
  | 1, v, x => ∃ us, OwnL x base v xs us
  | 2, v, _ => v = .pointer (some ⟨S, 0 + 4, none⟩)
  | 3, v, _ => v = .string s
  | 4, v, _ => v = L0
  | 5, v, _ => v = .int .i64 (xs.length : Int)
  | 6, v, _ => v = .int .i64 ((xs.length : Int) + 1)
  | 7, v, _ => ∃ ad, v = .slice (some ad) 0 0
  | 8, v, _ => ∃ ad, v = .slice (some ad) 0 0
  | 9, v, _ => ∃ a7 a8, v = .agg #[.string s, .int .i64 ((xs.length : Int) + 1), .int .i64 1, .slice (some a7) 0 0, .slice (some a8) 0 0]
  | 10, v, x => ∃ a7 a8 gq, v = .slice (some ⟨gq, 0, none⟩) 1 1 ∧ ∀ j u, [Value.string s, .int .i64 ((xs.length : Int) + 1), .int .i64 1, .slice (some a7) 0 0, .slice (some a8) 0 0][j]? = some u → x.cell? ((⟨gq, 0, none⟩ : Addr).add j) = some u
  | 11, v, x => ∃ us, BoxesAt x v (xs ++ [nB s xs]) us ∧ Fines (xs ++ [nB s xs]) us
  | 12, v, x => ∃ us, BoxesAt x v (xs ++ [nB s xs]) us ∧ Fines (xs ++ [nB s xs]) us
  | 13, v, _ => v = .int .i64 0
  | _, _, _ => True
theorem F7.keep {base : Nat} {L0 : Value} {S : Nat} {s : ByteArray} {xs : List Bx} {x x' : World} (hb : Below x.heap.size x x') : ∀ (j : Nat) (v : Value), F7 base L0 S s xs j v x → F7 base L0 S s xs j v x'
  | 0, v, h => h
  | 1, v, ⟨us, h⟩ => ⟨us, ownL_below h hb⟩
  | 2, v, h => h
  | 3, v, h => h
  | 4, v, h => h
  | 5, v, h => h
  | 6, v, h => h
  | 7, v, h => h
  | 8, v, h => h
  | 9, v, h => h
  | 10, v, ⟨a7, a8, gq, e, h⟩ => ⟨a7, a8, gq, e, fun j u hu => (hb.cell (World.block_lt_of_cell? x _ (h j u hu))).trans (h j u hu)⟩
  | 11, v, ⟨us, h, hf⟩ => ⟨us, boxes_below h hb, hf⟩
  | 12, v, ⟨us, h, hf⟩ => ⟨us, boxes_below h hb, hf⟩
  | 13, v, h => h
  | n + 14, v, h => trivial
def J7 (base : Nat) (W : World) (F : Nat → Value → World → Prop) (D : Nat → Prop) (f : Nat → Value) (x : World) : Prop := Below base W x ∧ ∀ j, D j → (j = 1 ∨ j = 10 → ¬ D 11) → F j (f j) x
theorem J7.step {base : Nat} {W : World} {F : Nat → Value → World → Prop} {D : Nat → Prop} {f : Nat → Value} {x x' : World} {i : Nat} (h : J7 base W F D f x) (y : Value) (hb : Below base W x') (hk : ∀ j v, D j → j ≠ i → (j = 1 ∨ j = 10 → i ≠ 11) → F j v x → F j v x') (hi : F i y x') : J7 base W F (fun j => j = i ∨ D j) (rs.upd f i y) x' := by
  refine ⟨hb, fun j hj hc => ?_⟩
  by_cases e : j = i
  · subst e
    rw [rs.upd_same]
    exact hi
  · have hd := hj.resolve_left e
    rw [rs.upd_other f i y e]
    exact hk j _ hd e (fun h11 e11 => hc h11 (.inl e11.symm)) (h.2 j hd (fun h11 d11 => hc h11 (.inr d11)))
theorem J7.pure {base : Nat} {W : World} {F : Nat → Value → World → Prop} {D : Nat → Prop} {f : Nat → Value} {x : World} {i : Nat} (h : J7 base W F D f x) (y : Value) (hi : F i y x) : J7 base W F (fun j => j = i ∨ D j) (rs.upd f i y) x := h.step y h.1 (fun _ _ _ _ _ hh => hh) hi
theorem J7.grow {base : Nat} {W : World} {L0 : Value} {S : Nat} {s : ByteArray} {xs : List Bx} {D : Nat → Prop} {f : Nat → Value} {x x' : World} {i : Nat} (h : J7 base W (F7 base L0 S s xs) D f x) (hW : base ≤ x.heap.size) (y : Value) (hb : Below x.heap.size x x') (hi : F7 base L0 S s xs i y x') : J7 base W (F7 base L0 S s xs) (fun j => j = i ∨ D j) (rs.upd f i y) x' :=
  h.step y (h.1.trans (hb.mono hW)) (fun j v _ _ _ hh => F7.keep hb j v hh) hi
theorem J7.app {base : Nat} {W : World} {L0 : Value} {S : Nat} {s : ByteArray} {xs : List Bx} {D : Nat → Prop} {f : Nat → Value} {x x' : World} (h : J7 base W (F7 base L0 S s xs) D f x) (h12 : ¬ D 12) (h11 : ¬ D 11) (y : Value) (hb : Below base W x') (hi : F7 base L0 S s xs 11 y x') : J7 base W (F7 base L0 S s xs) (fun j => j = 11 ∨ D j) (rs.upd f 11 y) x' := by
  refine h.step y hb (fun j v hd hne hc hh => ?_) hi
  match j, hd, hne, hc, hh with
  | 0, _, _, _, hh => exact hh
  | 1, _, _, hc, _ => exact absurd rfl (hc (.inl rfl))
  | 2, _, _, _, hh => exact hh
  | 3, _, _, _, hh => exact hh
  | 4, _, _, _, hh => exact hh
  | 5, _, _, _, hh => exact hh
  | 6, _, _, _, hh => exact hh
  | 7, _, _, _, hh => exact hh
  | 8, _, _, _, hh => exact hh
  | 9, _, _, _, hh => exact hh
  | 10, _, _, hc, _ => exact absurd rfl (hc (.inr rfl))
  | 11, _, hne, _, _ => exact absurd rfl hne
  | 12, hd, _, _, _ => exact absurd hd h12
  | 13, _, _, _, hh => exact hh
  | n + 14, _, _, _, _ => trivial
/-- The list with the box more. -/
theorem new_boxes {x x' : World} {base : Nat} {L v' : Value} {xs : List Bx} {us : Nat → Value × Value} {s : ByteArray} {a7 a8 : Addr} (hO : OwnL x base L xs us) (hown : x'.ownsRow base 99 5 v' (xs.length + 1) (bcells xs us xs.length ++ [.string s, .int .i64 ((xs.length : Int) + 1), .int .i64 1, .slice (some a7) 0 0, .slice (some a8) 0 0])) (hgr : x.grownBy x' L.ownBlock) :
    ∃ us', BoxesAt x' v' (xs ++ [nB s xs]) us' ∧ Fines (xs ++ [nB s xs]) us' := by
  have hl : (xs ++ [nB s xs]).length = xs.length + 1 := by simp
  have hR := ownR_row hO.2.1 hO.1 hgr (by decide) (by decide)
  have hB : x'.ownsRow base 99 5 v' (xs ++ [nB s xs]).length (bcells (xs ++ [nB s xs]) (upd us xs.length (.slice (some a7) 0 0, .slice (some a8) 0 0)) (xs ++ [nB s xs]).length) := by
    rw [hl, bcells, getD_last, bcells_app (Nat.le_refl _), bcells_congr (us := upd us xs.length (.slice (some a7) 0 0, .slice (some a8) 0 0)) (vs := us) (fun j hj => by simp only [upd, if_neg (show j ≠ xs.length by omega)])]
    simp only [upd, if_true]
    exact hown
  refine ⟨upd us xs.length (.slice (some a7) 0 0, .slice (some a8) 0 0), ⟨?_, fun j hj => ?_⟩, fun j hj => ?_⟩
  · rcases hB.2 with ⟨_, hz⟩ | ⟨g, cap, cur, rfl, _, hh, _⟩
    · simp at hz
    · refine ⟨_, cap, rfl, .inr ⟨g, 0, rfl, (Array.getElem?_eq_some_iff.1 hh).1, fun j hj => ?_⟩⟩
      obtain ⟨h0, h1, h2, h3, h4⟩ := bcells_at (xs ++ [nB s xs]) (upd us xs.length (.slice (some a7) 0 0, .slice (some a8) 0 0)) _ j hj
      refine ⟨?_, ?_, ?_, ?_, ?_⟩
      · rw [Nat.zero_add, hB.cellAt _ (by omega), h0]
      · rw [Nat.zero_add, hB.cellAt _ (by omega), h1]
      · rw [Nat.zero_add, hB.cellAt _ (by omega), h2]
      · rw [Nat.zero_add, hB.cellAt _ (by omega), h3]
      · rw [Nat.zero_add, hB.cellAt _ (by omega), h4]
  · rw [hl] at hj
    by_cases e : j = xs.length
    · subst e
      simp only [upd, if_true]
      rw [getD_last]
      exact ⟨⟨_, 0, rfl, .inl rfl⟩, ⟨_, 0, rfl, .inl rfl⟩⟩
    · simp only [upd, if_neg e]
      rw [getD_app (by omega)]
      have hr := hR j (by omega)
      exact ⟨ownM_in hr.1 (Nat.le_refl _), ownK_in hr.2 (Nat.le_refl _)⟩
  · rw [hl] at hj
    by_cases e : j = xs.length
    · subst e
      simp only [upd, if_true]
      exact ⟨.inr ⟨_, _, _, rfl⟩, .inr ⟨_, _, _, rfl⟩⟩
    · simp only [upd, if_neg e]
      have hr := hR j (by omega)
      exact ⟨own_fine hr.1, own_fine hr.2⟩
theorem ownL_le {x : World} {base b2 : Nat} {L : Value} {xs : List Bx} {us : Nat → Value × Value} (h : OwnL x b2 L xs us) (hb : base ≤ b2) : OwnL x base L xs us := by
  have key : ∀ {e s n : Nat} {v : Value} {l : List Value}, x.ownsRow b2 e s v n l → x.ownsRow base e s v n l := fun {e s n v l} hh => ⟨hh.1, by
    rcases hh.2 with e | ⟨g', cap, cur, e, hB, rest⟩
    · exact .inl e
    · exact .inr ⟨g', cap, cur, e, Nat.le_trans hb hB, rest⟩⟩
  exact ⟨key h.1, fun j hj => ⟨key (h.2.1 j hj).1, key (h.2.1 j hj).2⟩, h.2.2⟩
set_option maxHeartbeats 4000000 in
set_option maxRecDepth 100000 in
theorem apply_new (v : Value) (xs : List Bx) (vs : Nat → Value × Value) (m : mu.Mu) (iv : Value) (w : World) (h : BoxesAt w v xs vs) (hf : Fines xs vs) (hs : bx.Smalls xs) (hiv : ∃ a n c, iv = .slice a n c) (hp : Plc xs m.b (-1)) (hx : xs.length ≠ 4) (hx4l : xs.length ≤ 4) (hmk : m.k = 1) :
    Calls Tryz.prog 53 #[v, mu.MV m iv] w fun e w' => Ls (fun ys c => ys = xs ++ [⟨m.b, (xs.length : Int) + 1, 1, [], []⟩] ∧ c = 0) e w' ∧ Below w.heap.size w w' := by
  obtain ⟨i0, hi, hz0, hz1, hz2⟩ := info_parts infoB
  have HA : Hid (BoxesAt w v xs vs) := h
  have HF : Hid (Fines xs vs) := hf
  obtain ⟨ia, inn, ic, rfl⟩ := hiv
  obtain ⟨⟨a, cap, rfl, hd2⟩, hd3⟩ := h
  clear hd2 hd3
  obtain ⟨W, hW⟩ : ∃ W, W = w.alloc (.cells #[.int .i64 1, .int .i64 m.u, .int .i64 m.m, .int .i64 m.f, .string m.b, .slice ia inn ic] 104) := ⟨_, rfl⟩
  have b1 : Below w.heap.size w W := by rw [hW]; exact bx.new_below w _ _
  have k1 : mu.Lies W w.heap.size 104 m (.slice ia inn ic) := by rw [hW, ← hmk]; exact mu.lies_new _ _ _ _
  have HAW : Hid (BoxesAt W (.slice a xs.length cap) xs vs) := boxes_below HA.out b1
  have HFI : Hid (Calls Tryz.prog 30 #[.slice a xs.length cap, .string m.b] W fun e w' => e = .returned (.int .i64 (-1)) ∧ w' = W) := find_any W.heap.size _ xs vs m.b W HAW.out.1 hs.1 hp
  have HZ : Hid (BoxesAt W (.slice a xs.length cap) xs vs ∧ Below w.heap.size w W) := ⟨HAW.out, b1⟩
  have d0 : W.cell? ⟨w.heap.size, 0, none⟩ = some (.int .i64 1) := by rw [← hmk]; exact k1.c0
  have d4 := k1.c4
  have hx4 : ((xs.length : Int) == 4) = false := beq_eq_false_iff_ne.2 (by omega)
  have HOW : Hid (∀ X, Below W.heap.size W X → Calls Tryz.prog 81 #[.slice a xs.length cap] X fun e w' => (∃ L us, e = .returned L ∧ OwnL w' W.heap.size L xs us) ∧ Below X.heap.size X w') := fun X hX => (spec_own _ xs vs X (boxes_below HAW.out hX) HF.out hs).mono (by rintro e w' ⟨⟨L, us, e1, h1⟩, h2⟩; exact ⟨⟨L, us, e1, ownL_le h1 hX.size⟩, h2⟩)
  unfold mu.MV
  rw [hmk]
  clear b1 k1 hs HA HAW hp hmk hx
  go_enter Tryz.func53, Tryz.ntmps53
  go_wp2_with (rw [← hW])
  clear hW
  refine HFI.out.mono ?_
  rintro e w' ⟨rfl, hw'⟩
  have hw' := hw'.symm
  subst hw'
  clear HFI
  go_upto_region 7 with fail
  rename_i K2 hK2
  refine rs.region_st (by kernel_rfl) (fun f => { tmps := List.toArray ((.slice a xs.length cap : Value) :: .agg #[.int .i64 1, .int .i64 m.u, .int .i64 m.m, .int .i64 m.f, .string m.b, .slice ia inn ic] :: undef :: .pointer (some ⟨w.heap.size, 0, none⟩) :: f 12 :: f 13 :: .int .i64 (-1) :: undef :: undef :: undef :: undef :: undef :: undef :: .slice a xs.length cap :: .pointer (some ⟨w.heap.size, 4, none⟩) :: .string m.b :: .int .i64 (-1) :: .pointer (some ⟨w.heap.size, 0, none⟩) :: .int .i64 1 :: .bool true :: .bool false :: .int .i64 (-1) :: .bool false :: undef :: .bool false :: .slice a xs.length cap :: .int .i64 (xs.length : Int) :: .bool false :: undef :: f 0 :: f 1 :: f 2 :: f 3 :: f 4 :: f 5 :: f 6 :: f 7 :: f 8 :: f 9 :: f 10 :: f 11 :: undef :: undef :: undef :: undef :: undef :: undef :: undef :: undef :: undef :: undef :: undef :: undef :: undef :: undef :: undef :: undef :: undef :: undef :: undef :: undef :: undef :: undef :: undef :: undef :: undef :: undef :: undef :: undef :: undef :: undef :: undef :: undef :: undef :: undef :: undef :: undef :: undef :: undef :: undef :: undef :: undef :: undef :: undef :: undef :: undef :: undef :: undef :: undef :: undef :: undef :: undef :: undef :: undef :: undef :: undef :: undef :: undef :: undef :: undef :: undef :: undef :: undef :: undef :: undef :: undef :: undef :: undef :: undef :: undef :: undef :: undef :: undef :: undef :: undef :: undef :: undef :: undef :: undef :: undef :: undef :: undef :: undef :: undef :: undef :: undef :: undef :: undef :: undef :: undef :: undef :: undef :: undef :: undef :: undef :: undef :: undef :: undef :: undef :: undef :: undef :: undef :: undef :: undef :: undef :: undef :: undef :: undef :: undef :: undef :: undef :: undef :: undef :: undef :: undef :: undef :: undef :: undef :: undef :: undef :: undef :: undef :: undef :: undef :: undef :: undef :: undef :: undef :: undef :: undef :: undef :: undef :: undef :: undef :: undef :: undef :: undef :: undef :: undef :: undef :: undef :: undef :: undef :: undef :: undef :: undef :: undef :: undef :: undef :: undef :: undef :: undef :: undef :: undef :: undef :: undef :: undef :: []), defers := [] }) (J7 W.heap.size W (F7 W.heap.size (.slice a xs.length cap) w.heap.size m.b xs)) (fun j => match j with | 12 => .slice none 0 0 | 13 => .int .i64 0 | _ => undef) rfl ⟨(Below.refl _ _).drew, fun j hj => hj.elim⟩ (rs.deps_of (by kernel_rfl)) ?_ ?_
  · intro i o ho D f x hJ hall hni hcl
    match i, ho with
    | 0, ho =>
      cases ho
      have HJ : Hid (J7 W.heap.size W (F7 W.heap.size (.slice a xs.length cap) w.heap.size m.b xs) D f x) := hJ
      clear hJ hall hcl
      refine wpOp_step rfl (fun K' hK => ?_)
      go_simp
      exact hK _ _ ⟨.slice a xs.length cap, by simp [rs.upd], HJ.out.pure _ rfl⟩
    | 1, ho =>
      cases ho
      have d0 : D 0 := hall { on := 0, ground := Ground.data } (by simp) rfl
      have h0 : f 0 = .slice a xs.length cap := hJ.2 0 d0 (by simp)
      have hbx : Below W.heap.size W x := hJ.1
      have HJ : Hid (J7 W.heap.size W (F7 W.heap.size (.slice a xs.length cap) w.heap.size m.b xs) D f x) := hJ
      clear hJ hall hcl
      refine wpOp_step rfl (fun K' hK => ?_)
      simp only [h0]
      go_wp2_with (go_at_call 81; refine (HOW.out _ hbx).mono ?_; rintro e x' ⟨⟨L, us, rfl, ho⟩, hb⟩)
      exact ⟨L, by simp [rs.upd, h0], HJ.out.grow HJ.out.1.size _ hb ⟨us, ho⟩⟩
    | 2, ho =>
      cases ho
      have HJ : Hid (J7 W.heap.size W (F7 W.heap.size (.slice a xs.length cap) w.heap.size m.b xs) D f x) := hJ
      clear hJ hall hcl
      refine wpOp_step rfl (fun K' hK => ?_)
      go_simp
      exact hK _ _ ⟨.pointer (some ⟨w.heap.size, 0 + 4, none⟩), by simp [rs.upd], HJ.out.pure _ rfl⟩
    | 3, ho =>
      cases ho
      have d2 : D 2 := hall { on := 2, ground := Ground.data } (by simp) rfl
      have h2 : f 2 = .pointer (some ⟨w.heap.size, 0 + 4, none⟩) := hJ.2 2 d2 (by simp)
      have cL := (hJ.1.cell (p := ⟨w.heap.size, 0 + 4, none⟩) (World.block_lt_of_cell? W _ d4)).trans d4
      have HJ : Hid (J7 W.heap.size W (F7 W.heap.size (.slice a xs.length cap) w.heap.size m.b xs) D f x) := hJ
      clear hJ hall hcl
      refine wpOp_step rfl (fun K' hK => ?_)
      simp only [h2]
      go_wp2_with fail
      exact ⟨.string m.b, by simp [rs.upd, h2], HJ.out.pure _ rfl⟩
    | 4, ho =>
      cases ho
      have HJ : Hid (J7 W.heap.size W (F7 W.heap.size (.slice a xs.length cap) w.heap.size m.b xs) D f x) := hJ
      clear hJ hall hcl
      refine wpOp_step rfl (fun K' hK => ?_)
      go_simp
      exact hK _ _ ⟨.slice a xs.length cap, by simp [rs.upd], HJ.out.pure _ rfl⟩
    | 5, ho =>
      cases ho
      have d4 : D 4 := hall { on := 4, ground := Ground.data } (by simp) rfl
      have h4 : f 4 = .slice a xs.length cap := hJ.2 4 d4 (by simp)
      have HJ : Hid (J7 W.heap.size W (F7 W.heap.size (.slice a xs.length cap) w.heap.size m.b xs) D f x) := hJ
      clear hJ hall hcl
      refine wpOp_step rfl (fun K' hK => ?_)
      simp only [h4]
      go_wp2_with fail
      exact ⟨.int .i64 (xs.length : Int), by simp [rs.upd, h4], HJ.out.pure _ rfl⟩
    | 6, ho =>
      cases ho
      have d5 : D 5 := hall { on := 5, ground := Ground.data } (by simp) rfl
      have h5 : f 5 = .int .i64 (xs.length : Int) := hJ.2 5 d5 (by simp)
      have HJ : Hid (J7 W.heap.size W (F7 W.heap.size (.slice a xs.length cap) w.heap.size m.b xs) D f x) := hJ
      clear hJ hall hcl
      refine wpOp_step rfl (fun K' hK => ?_)
      simp only [h5]
      go_wp2_with fail
      exact ⟨.int .i64 ((xs.length : Int) + 1), by simp [rs.upd, h5], HJ.out.pure _ rfl⟩
    | 7, ho =>
      cases ho
      have HJ : Hid (J7 W.heap.size W (F7 W.heap.size (.slice a xs.length cap) w.heap.size m.b xs) D f x) := hJ
      clear hJ hall hcl
      refine wpOp_step rfl (fun K' hK => ?_)
      go_wp2_with fail
      exact ⟨.slice (some ⟨x.heap.size, 0, none⟩) 0 0, by simp [rs.upd], HJ.out.grow HJ.out.1.size _ ((Below.refl _ _).alloc (Nat.le_refl _) _) ⟨_, rfl⟩⟩
    | 8, ho =>
      cases ho
      have HJ : Hid (J7 W.heap.size W (F7 W.heap.size (.slice a xs.length cap) w.heap.size m.b xs) D f x) := hJ
      clear hJ hall hcl
      refine wpOp_step rfl (fun K' hK => ?_)
      go_wp2_with fail
      exact ⟨.slice (some ⟨x.heap.size, 0, none⟩) 0 0, by simp [rs.upd], HJ.out.grow HJ.out.1.size _ ((Below.refl _ _).alloc (Nat.le_refl _) _) ⟨_, rfl⟩⟩
    | 9, ho =>
      cases ho
      have d3 : D 3 := hall { on := 3, ground := Ground.data } (by simp) rfl
      have h3 : f 3 = .string m.b := hJ.2 3 d3 (by simp)
      have d6 : D 6 := hall { on := 6, ground := Ground.data } (by simp) rfl
      have h6 : f 6 = .int .i64 ((xs.length : Int) + 1) := hJ.2 6 d6 (by simp)
      have d7 : D 7 := hall { on := 7, ground := Ground.data } (by simp) rfl
      have d8 : D 8 := hall { on := 8, ground := Ground.data } (by simp) rfl
      obtain ⟨a7, h7⟩ := hJ.2 7 d7 (by simp)
      obtain ⟨a8, h8⟩ := hJ.2 8 d8 (by simp)
      have HJ : Hid (J7 W.heap.size W (F7 W.heap.size (.slice a xs.length cap) w.heap.size m.b xs) D f x) := hJ
      clear hJ hall hcl
      refine wpOp_step rfl (fun K' hK => ?_)
      simp only [h3, h6, h7, h8]
      go_wp2_with fail
      exact ⟨.agg #[.string m.b, .int .i64 ((xs.length : Int) + 1), .int .i64 1, .slice (some a7) 0 0, .slice (some a8) 0 0], by simp [rs.upd, h3, h6, h7, h8], HJ.out.pure _ ⟨a7, a8, rfl⟩⟩
    | 10, ho =>
      cases ho
      have d9 : D 9 := hall { on := 9, ground := Ground.data } (by simp) rfl
      obtain ⟨a7, a8, h9⟩ := hJ.2 9 d9 (by simp)
      have HJ : Hid (J7 W.heap.size W (F7 W.heap.size (.slice a xs.length cap) w.heap.size m.b xs) D f x) := hJ
      clear hJ hall hcl
      refine wpOp_step rfl (fun K' hK => ?_)
      simp only [h9]
      go_wp2_with fail
      exact ⟨.slice (some ⟨x.heap.size, 0, none⟩) 1 1, by simp [rs.upd, h9], HJ.out.grow HJ.out.1.size _ ((Below.refl _ _).alloc (Nat.le_refl _) _) ⟨a7, a8, _, rfl, ow.cells_new x [.string m.b, .int .i64 ((xs.length : Int) + 1), .int .i64 1, .slice (some a7) 0 0, .slice (some a8) 0 0] _⟩⟩
    | 11, ho =>
      cases ho
      have d1 : D 1 := hall { on := 1, ground := Ground.data } (by simp) rfl
      have d10 : D 10 := hall { on := 10, ground := Ground.data } (by simp) rfl
      obtain ⟨us, hO⟩ := hJ.2 1 d1 (fun _ => hni)
      obtain ⟨a7, a8, gq, hq, hcq⟩ := hJ.2 10 d10 (fun _ => hni)
      have n12 : ¬ D 12 := fun h => hni (hcl 12 _ h rfl { on := 11, ground := Ground.data } (by simp) rfl)
      have hszx := hJ.1.size
      refine wpOp_step rfl (fun K' hK => ?_)
      rw [if_pos (by rfl)]
      refine apk.wp_append_keep x (.tmp 30) (.tmp 39) 33 rfl W.heap.size 99 i0 _ 5 80 Tryz.underlying33 hi hz0 hz1 hz2 rfl (by decide) (f 1) xs.length (bcells xs us xs.length) rfl hO.1 ⟨gq, 0, none⟩ 1 1 [.string m.b, .int .i64 ((xs.length : Int) + 1), .int .i64 1, .slice (some a7) 0 0, .slice (some a8) 0 0] hq rfl hcq (by intro u hu; simp at hu; rcases hu with rfl | rfl | rfl | rfl | rfl <;> rfl) (by unfold maxLen; omega) (by omega) hszx (fun v' X' hown' hgr' hkp => hK _ _ ⟨v', by simp [rs.upd, Act.put], hJ.app n12 hni _ (hJ.1.grown hgr' hszx (fun j hj => (hO.1.lt j hj).1)) (new_boxes hO hown' hgr')⟩)
    | 12, ho =>
      cases ho
      have d11 : D 11 := hall { on := 11, ground := Ground.data } (by simp) rfl
      have h11 := hJ.2 11 d11 (by simp)
      have HX : Hid ((F7 W.heap.size (.slice a xs.length cap) w.heap.size m.b xs) 12 (f 11) x) := h11
      have HJ : Hid (J7 W.heap.size W (F7 W.heap.size (.slice a xs.length cap) w.heap.size m.b xs) D f x) := hJ
      clear hJ hall hcl h11
      refine wpOp_step rfl (fun K' hK => ?_)
      go_simp
      exact hK _ _ ⟨f 11, by simp [rs.upd], HJ.out.pure _ HX.out⟩
    | 13, ho =>
      cases ho
      have HJ : Hid (J7 W.heap.size W (F7 W.heap.size (.slice a xs.length cap) w.heap.size m.b xs) D f x) := hJ
      clear hJ hall hcl
      refine wpOp_step rfl (fun K' hK => ?_)
      go_simp
      exact hK _ _ ⟨.int .i64 0, by simp [rs.upd], HJ.out.pure _ rfl⟩
    | k + 14, ho => simp at ho
  · intro D f x hD hJ
    obtain ⟨us, hB, hFi⟩ := hJ.2 12 (hD 12 (by decide)) (by simp)
    have h13 : f 13 = .int .i64 0 := hJ.2 13 (hD 13 (by decide)) (by simp)
    have HQ : Hid (BoxesAt x (f 12) (xs ++ [nB m.b xs]) us ∧ Fines (xs ++ [nB m.b xs]) us ∧ Below w.heap.size w x) := ⟨hB, hFi, HZ.out.2.trans (hJ.1.mono HZ.out.2.size)⟩
    obtain ⟨ra, rn, rc, h12⟩ : ∃ a n c, f 12 = .slice a n c := by
      obtain ⟨⟨a, c, e, _⟩, _⟩ := hB
      exact ⟨_, _, _, e⟩
    rw [h12] at HQ
    rw [h12, h13]
    clear hJ hD hB hFi h12 h13
    generalize f 0 = e_0
    generalize f 1 = e_1
    generalize f 2 = e_2
    generalize f 3 = e_3
    generalize f 4 = e_4
    generalize f 5 = e_5
    generalize f 6 = e_6
    generalize f 7 = e_7
    generalize f 8 = e_8
    generalize f 9 = e_9
    generalize f 10 = e_10
    generalize f 11 = e_11
    clear f D
    go_wp2
    go_ret2
    exact ⟨⟨_, _, us, 0, rfl, ⟨rfl, rfl⟩, HQ.out.1, HQ.out.2.1⟩, HQ.out.2.2⟩
end Go.Proofs.YtncnbhekgkemfaaGreatDoor.sa
