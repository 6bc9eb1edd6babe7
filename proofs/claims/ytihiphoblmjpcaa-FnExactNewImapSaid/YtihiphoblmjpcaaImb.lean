/-
  Both ImapOK functions, both NewImap functions, the marks of a session whose view is empty.
-/
import Derived.Test.YtihiphoblmjpcaaIma
namespace Go.Proofs.Ytihiphoblmjpcaa.im
open Go.ChangeShapes Go.WideShapes Go.ChangeAt Go.RowKit Go.Deep Go.Joins
open ow (Reads Says says_yes says_no)
open vi nm
set_option linter.unusedVariables false

theorem empty_list {s : ByteArray} (h : s.size = 0) : s.toList.isEmpty = true := by rw [Lib.size_eq] at h; rw [Lib.toList_data, List.isEmpty_iff]; exact List.eq_nil_of_length_eq_zero h
theorem full_list {s : ByteArray} (h : ¬ s.size = 0) : s.toList.isEmpty = false := by
  rw [Lib.size_eq] at h
  rw [Lib.toList_data, Bool.eq_false_iff]
  intro e
  rw [List.isEmpty_iff] at e
  exact h (by rw [e]; rfl)

/-- A session that selects no box is right. -/
def Bare (x : Im) : Prop := x.bx.size = 0 ∧ x.ro = false ∧ x.vw.length = 0
/-- What makes a session right. -/
def Right (x : Im) : Prop := (x.st = 3 ∧ IsName x.bx ∧ IsV x.vw) ∨ ((0 ≤ x.st ∧ x.st ≤ 2) ∧ Bare x)

set_option maxHeartbeats 2000000 in
set_option maxRecDepth 100000 in
theorem impl_iok (x : Im) (v : Value) (w : World) (h : Reads .i64 w v x.vw) (hn : x.vw.length ≤ 1048576) (hb : x.bx.size ≤ 1048576) :
    Calls Try.prog 14 #[IV x v] w fun e w' => Says (Right x) e ∧ Below w.heap.size w w' := by
  have hbw := new_below w 24 #[.int .i64 x.st, .string x.bx, .bool x.ro, v]
  have HR : Hid (Reads .i64 (w.alloc (.cells #[.int .i64 x.st, .string x.bx, .bool x.ro, v] 24)) v x.vw) := reads_below h hbw
  obtain ⟨a, cap, rfl, _⟩ := h
  obtain ⟨st, bx, ro, vw⟩ := x
  unfold IV
  simp only at *
  by_cases h3 : st = 3
  · subst h3
    go_enter Try.func14, Try.ntmps14
    go_wp2_with fail
    refine (implName_any bx _ hb).mono ?_
    rintro e w1 ⟨⟨bn, rfl, hbn⟩, rfl⟩
    have HBN : Hid (bn = true ↔ IsName bx) := hbn
    clear hbn
    cases bn
    · go_wp2
      go_ret
      exact ⟨says_no (fun y => by rcases y with ⟨_, y, _⟩ | ⟨y, _⟩; exact absurd (HBN.out.2 y) (by simp); have := y.2; simp at this), hbw⟩
    go_wp2_with fail
    refine (impl_view _ vw _ HR.out hn).mono ?_
    rintro e w1 ⟨⟨bv, rfl, hbv⟩, rfl⟩
    have HBV : Hid (bv = true ↔ IsV vw) := hbv
    clear hbv
    go_wp2
    go_ret
    refine ⟨⟨bv, rfl, ?_⟩, hbw⟩
    rw [HBV.out]
    exact ⟨fun y => .inl ⟨rfl, HBN.out.1 (by trivial), y⟩, fun y => by rcases y with ⟨_, _, y⟩ | ⟨y, _⟩; exact y; have := y.2; simp at this⟩
  have e3 : (st == 3) = false := beq_eq_false_iff_ne.2 h3
  by_cases hr : 0 ≤ st ∧ st ≤ 2
  · have HNo : Hid (¬ (st = 3)) := h3
    by_cases g0 : bx.size = 0
    · have q0 := empty_list g0
      cases ro
      · by_cases g2 : vw.length = 0
        · have q2 : ((vw.length : Int) == 0) = true := beq_iff_eq.2 (by omega)
          have HF : Hid (Right ⟨st, bx, false, vw⟩) := .inr ⟨hr, g0, rfl, g2⟩
          clear h3 g0 g2
          obtain rfl | rfl | rfl : st = 0 ∨ st = 1 ∨ st = 2 := by omega
          all_goals
            clear hr e3
            go_enter Try.func14, Try.ntmps14
            go_wp2
            go_ret
            exact ⟨says_yes HF.out, hbw⟩
        · have q2 : ((vw.length : Int) == 0) = false := beq_eq_false_iff_ne.2 (by omega)
          have HF : Hid (¬ Right ⟨st, bx, false, vw⟩) := fun y => by rcases y with ⟨y, _⟩ | ⟨_, _, _, y⟩; exact h3 y; exact g2 y
          clear h3 g0 g2
          obtain rfl | rfl | rfl : st = 0 ∨ st = 1 ∨ st = 2 := by omega
          all_goals
            clear hr e3
            go_enter Try.func14, Try.ntmps14
            go_wp2
            go_ret
            exact ⟨says_no HF.out, hbw⟩
      · have HF : Hid (¬ Right ⟨st, bx, true, vw⟩) := fun y => by rcases y with ⟨y, _⟩ | ⟨_, _, y, _⟩; exact h3 y; cases y
        clear h3 g0
        obtain rfl | rfl | rfl : st = 0 ∨ st = 1 ∨ st = 2 := by omega
        all_goals
          clear hr e3
          go_enter Try.func14, Try.ntmps14
          go_wp2
          go_ret
          exact ⟨says_no HF.out, hbw⟩
    · have q0 := full_list g0
      have HF : Hid (¬ Right ⟨st, bx, ro, vw⟩) := fun y => by rcases y with ⟨y, _⟩ | ⟨_, y, _⟩; exact h3 y; exact g0 y
      clear h3 g0
      obtain rfl | rfl | rfl : st = 0 ∨ st = 1 ∨ st = 2 := by omega
      all_goals
        clear hr e3
        go_enter Try.func14, Try.ntmps14
        go_wp2
        go_ret
        exact ⟨says_no HF.out, hbw⟩
  · have e0 : (st == 0) = false := beq_eq_false_iff_ne.2 (by omega)
    have e1 : (st == 1) = false := beq_eq_false_iff_ne.2 (by omega)
    have e2 : (st == 2) = false := beq_eq_false_iff_ne.2 (by omega)
    have HF : Hid (¬ Right ⟨st, bx, ro, vw⟩) := fun y => by rcases y with ⟨y, _⟩ | ⟨y, _⟩; exact h3 y; exact hr y
    clear h3 hr
    go_enter Try.func14, Try.ntmps14
    go_wp2
    go_ret
    exact ⟨says_no HF.out, hbw⟩

set_option maxHeartbeats 2000000 in
set_option maxRecDepth 100000 in
theorem spec_iok (x : Im) (v : Value) (w : World) (h : Reads .i64 w v x.vw) (hn : x.vw.length ≤ 1048576) (hb : x.bx.size ≤ 1048576) :
    Calls Try.prog 12 #[IV x v] w fun e w' => Says (Right x) e ∧ Below w.heap.size w w' := by
  have L0 := lies_new w 24 x v
  have hbw := new_below w 24 #[.int .i64 x.st, .string x.bx, .bool x.ro, v]
  have HR : Hid (Reads .i64 (w.alloc (.cells #[.int .i64 x.st, .string x.bx, .bool x.ro, v] 24)) v x.vw) := reads_below h hbw
  obtain ⟨a, cap, rfl, _⟩ := h
  obtain ⟨st, bx, ro, vw⟩ := x
  unfold IV
  simp only at *
  by_cases hr : 0 ≤ st ∧ st ≤ 3
  case neg =>
    have e0 : decide (0 ≤ st ∧ st ≤ 3) = false := decide_eq_false hr
    have HF : Hid (¬ Right ⟨st, bx, ro, vw⟩) := fun y => by rcases y with ⟨y, _⟩ | ⟨y, _⟩ <;> simp only at y <;> omega
    clear hr
    go_enter Try.func12, Try.ntmps12
    go_wp2_with (go_at_call 30; refine (in_any _ _ _ _).mono ?_; rintro e w' ⟨rfl, rfl⟩; rw [e0])
    go_ret
    exact ⟨says_no HF.out, hbw⟩
  have e0 : decide (0 ≤ st ∧ st ≤ 3) = true := decide_eq_true hr
  go_enter Try.func12, Try.ntmps12
  go_wp2_with fail
  generalize w.alloc _ = w0 at L0 hbw HR ⊢
  refine (in_any _ _ _ _).mono ?_
  rintro e w' ⟨rfl, h⟩
  have h := h.symm
  subst h
  rw [e0]
  have c3 := L0.c3
  go_wp2_with fail
  refine (spec_view _ vw _ HR.out hn).mono ?_
  rintro e w1 ⟨⟨bv, rfl, hbv⟩, q, rfl⟩
  have HBV : Hid (bv = true ↔ IsV vw) := hbv
  have L1 : Lies (w0.drewN q) w.heap.size 24 ⟨st, bx, ro, vw⟩ (.slice a vw.length cap) := L0.keep (below_drewN (Below.refl _ _) q)
  have b1 := below_drewN hbw q
  clear hbv L0 hbw c3 HR e0
  generalize w0.drewN q = w1 at L1 b1 ⊢
  have c0 := L1.c0
  have c1 := L1.c1
  have c2 := L1.c2
  have c3 := L1.c3
  simp only at c0 c1 c2
  cases bv
  · have HF : Hid (¬ Right ⟨st, bx, ro, vw⟩) := fun y => by
      have hv : ¬ IsV vw := fun z => absurd (HBV.out.2 z) (by simp)
      rcases y with ⟨_, _, y⟩ | ⟨_, _, _, y⟩
      · exact hv y
      · exact hv (fun j hj => absurd hj (by simp only at y; omega))
    go_wp2
    go_ret
    exact ⟨says_no HF.out, b1⟩
  by_cases h3 : st = 3
  · subst h3
    go_wp2_with fail
    refine (specName_any bx _ hb).mono ?_
    rintro e w2 ⟨⟨bn, rfl, hbn⟩, rfl⟩
    have HBN : Hid (bn = true ↔ IsName bx) := hbn
    clear hbn
    go_wp2
    go_ret
    refine ⟨⟨bn, rfl, ?_⟩, b1⟩
    rw [HBN.out]
    exact ⟨fun y => .inl ⟨rfl, y, HBV.out.1 (by trivial)⟩, fun y => by rcases y with ⟨_, y, _⟩ | ⟨y, _⟩; exact y; have := y.2; simp at this⟩
  have e3 : (st == 3) = false := beq_eq_false_iff_ne.2 h3
  by_cases g0 : bx.size = 0
  · have q0 := empty_list g0
    cases ro
    · by_cases g2 : vw.length = 0
      · have q2 : ((vw.length : Int) == 0) = true := beq_iff_eq.2 (by omega)
        have HF : Hid (Right ⟨st, bx, false, vw⟩) := .inr ⟨⟨hr.1, (by have := hr.2; simp only; omega)⟩, g0, rfl, g2⟩
        clear h3 g0 g2 hr
        go_wp2
        go_ret
        exact ⟨says_yes HF.out, b1⟩
      · have q2 : ((vw.length : Int) == 0) = false := beq_eq_false_iff_ne.2 (by omega)
        have HF : Hid (¬ Right ⟨st, bx, false, vw⟩) := fun y => by rcases y with ⟨y, _⟩ | ⟨_, _, _, y⟩; exact h3 y; exact g2 y
        clear h3 g0 g2 hr
        go_wp2
        go_ret
        exact ⟨says_no HF.out, b1⟩
    · have HF : Hid (¬ Right ⟨st, bx, true, vw⟩) := fun y => by rcases y with ⟨y, _⟩ | ⟨_, _, y, _⟩; exact h3 y; cases y
      clear h3 g0 hr
      go_wp2
      go_ret
      exact ⟨says_no HF.out, b1⟩
  · have q0 := full_list g0
    have HF : Hid (¬ Right ⟨st, bx, ro, vw⟩) := fun y => by rcases y with ⟨y, _⟩ | ⟨_, y, _⟩; exact h3 y; exact g0 y
    clear h3 g0 hr
    go_wp2
    go_ret
    exact ⟨says_no HF.out, b1⟩

/-- A session that is new. -/
def N0 : Im := ⟨1, ⟨#[]⟩, false, []⟩
/-- A slice of numbers that has none. -/
def No (v : Value) : Prop := ∃ a c, v = .slice a 0 c
theorem no_reads {v : Value} (h : No v) (w : World) : Reads .i64 w v N0.vw := by
  obtain ⟨a, c, rfl⟩ := h
  exact ⟨a, c, rfl, .inl rfl⟩
def put4 (w : World) (g : Nat) (a b c d : Value) : World := (((w.setCell ⟨g, 0, none⟩ a).setCell ⟨g, 1, none⟩ b).setCell ⟨g, 2, none⟩ c).setCell ⟨g, 3, none⟩ d
theorem Lies.put {w : World} {b : Nat} {T : TypeId} {x : Im} {v : Value} (h : Lies w b T x v) (y : Im) (u : Value) : Lies (put4 w b (.int .i64 y.st) (.string y.bx) (.bool y.ro) u) b T y u :=
  heap_setCell_same _ b 3 _ _ _ (heap_setCell_same _ b 2 _ _ _ (heap_setCell_same _ b 1 _ _ _ (heap_setCell_same _ b 0 _ _ _ h)))
theorem put4_below {B g : Nat} {w0 w : World} {a b c d : Value} (k : Below B w0 w) (hb : B ≤ g) : Below B w0 (put4 w g a b c d) :=
  (((k.setCell (p := ⟨g, 0, none⟩) hb _).setCell (p := ⟨g, 1, none⟩) hb _).setCell (p := ⟨g, 2, none⟩) hb _).setCell (p := ⟨g, 3, none⟩) hb _

set_option maxHeartbeats 1000000 in
set_option maxRecDepth 100000 in
theorem impl_new (w : World) : Calls Try.prog 7 #[] w fun e w' => (∃ v, No v ∧ e = .returned (IV N0 v)) ∧ Below w.heap.size w w' := by
  have b0 := new_below w 24 #[.int .i64 0, .string ⟨#[]⟩, .bool false, .slice none 0 0]
  go_enter Try.func7, Try.ntmps7
  go_wp2
  refine bodyPost_ret (v := .agg #[.int .i64 1, .string ⟨#[]⟩, .bool false, .slice none 0 0]) (by simp [results, Try.results7, go_sem]) rfl ⟨⟨.slice none 0 0, ⟨_, _, rfl⟩, rfl⟩, ?_⟩
  exact new_below _ _ _

set_option maxHeartbeats 1000000 in
set_option maxRecDepth 100000 in
theorem spec_new (w : World) : Calls Try.prog 6 #[] w fun e w' => (∃ v, No v ∧ e = .returned (IV N0 v)) ∧ Below w.heap.size w w' := by
  have b0 := new_below w 24 #[.int .i64 0, .string ⟨#[]⟩, .bool false, .slice none 0 0]
  go_enter Try.func6, Try.ntmps6
  go_wp2
  refine bodyPost_ret (v := .agg #[.int .i64 1, .string ⟨#[]⟩, .bool false, .slice (some ⟨w.heap.size + 1, 0, none⟩) 0 0]) (by simp [results, Try.results6, go_sem]) rfl ⟨⟨.slice (some ⟨w.heap.size + 1, 0, none⟩) 0 0, ⟨_, _, rfl⟩, rfl⟩, ?_⟩
  exact (new_below _ _ _).alloc (by simp) _

set_option maxHeartbeats 1000000 in
set_option maxRecDepth 100000 in
theorem markInts_none (a : Option Addr) (c : Nat) (w : World) : Calls Try.prog 27 #[.slice a 0 c, .int .i64 1] w fun e w' => e = .returned (.int .i64 1) ∧ w' = w := by
  go_enter Try.func27, Try.ntmps27
  go_wp2
  refine wp_loop_rounds 1 ?_
  rw [rounds_succ]
  go_wp2
  go_ret
  exact ⟨rfl, rfl⟩
set_option maxHeartbeats 1000000 in
set_option maxRecDepth 100000 in
theorem heldInts_none (a : Option Addr) (c : Nat) (w : World) : Calls Try.prog 28 #[.slice a 0 c, .int .i64 1] w fun e w' => e = .returned (.int .i64 1) ∧ w' = w := by
  go_enter Try.func28, Try.ntmps28
  go_wp2
  refine wp_loop_rounds 1 ?_
  rw [rounds_succ]
  go_wp2
  go_ret
  exact ⟨rfl, rfl⟩
set_option maxHeartbeats 1000000 in
theorem mark_none (x : Im) (a : Option Addr) (c : Nat) (w : World) : Calls Try.prog 9 #[IV x (.slice a 0 c), .int .i64 1] w fun e w' => e = .returned (.int .i64 1) ∧ Below w.heap.size w w' := by
  have b0 := new_below w 24 #[.int .i64 x.st, .string x.bx, .bool x.ro, .slice a 0 c]
  obtain ⟨st, bx, ro, vw⟩ := x
  unfold IV
  simp only at *
  go_enter Try.func9, Try.ntmps9
  go_wp2_with fail
  refine (markInts_none a c _).mono ?_
  rintro e w1 ⟨rfl, rfl⟩
  go_wp2
  go_ret
  exact ⟨rfl, b0⟩
set_option maxHeartbeats 1000000 in
theorem held_none (x : Im) (a : Option Addr) (c : Nat) (w : World) : Calls Try.prog 10 #[IV x (.slice a 0 c), .int .i64 1] w fun e w' => e = .returned (.int .i64 1) ∧ Below w.heap.size w w' := by
  have b0 := new_below w 24 #[.int .i64 x.st, .string x.bx, .bool x.ro, .slice a 0 c]
  obtain ⟨st, bx, ro, vw⟩ := x
  unfold IV
  simp only at *
  go_enter Try.func10, Try.ntmps10
  go_wp2_with fail
  refine (heldInts_none a c _).mono ?_
  rintro e w1 ⟨rfl, rfl⟩
  go_wp2
  go_ret
  exact ⟨rfl, b0⟩
end Go.Proofs.Ytihiphoblmjpcaa.im
