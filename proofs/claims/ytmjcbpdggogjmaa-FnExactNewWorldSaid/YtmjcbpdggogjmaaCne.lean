/-
  Worlds that are new, held against each other; their marks.
-/
import Derived.Test.YtmjcbpdggogjmaaCnd
namespace Go.Proofs.Ytmjcbpdggogjmaa.cn
open Go.ChangeShapes Go.WideShapes Go.ChangeAt Go.RowKit Go.Deep Go.Joins
open en lg gr mk
set_option linter.unusedVariables false

theorem LiesW.other {w w' : World} {b g : Nat} {r : Int} {d : ByteArray} {s : Int} {v c : Value} (h : LiesW w b r d s v c) (hg : w.grownBy w' (some g)) (hne : b ≠ g) : LiesW w' b r d s v c :=
  (hg.block b h.lt (fun e => hne (by cases e; rfl))).trans h
theorem Row.other {w w' : World} {b g : Nat} {f : Nat → Value} (h : Row w b f) (hg : w.grownBy w' (some g)) (hne : b ≠ g) : Row w' b f :=
  h.keep (hg.block b h.lt (fun e => hne (by cases e; rfl)))
theorem grown_bel {B g : Nat} {w0 w w' : World} (h : Below B w0 w) (hg : w.grownBy w' (some g)) (hb : B ≤ g) (hs : B ≤ w.heap.size) : Below B w0 w' :=
  ⟨hg.os.trans h.os, hg.tape.trans h.tape, hg.output.trans h.output, Nat.le_trans h.size hg.size, fun k hk => (hg.block k (by omega) (fun e => by cases e; omega)).trans (h.block k hk)⟩
set_option maxHeartbeats 1000000 in
set_option maxRecDepth 100000 in
theorem eqConnS_none (w : World) : Calls Try.prog 14 #[.slice none 0 0, .slice none 0 0] w fun e w' => e = .returned (.bool true) ∧ Below w.heap.size w w' := by
  go_enter Try.func14, Try.ntmps14
  go_wp2
  refine wp_loop_rounds 1 ?_
  rw [rounds_succ]
  go_wp2
  go_ret
  exact ⟨rfl, Below.refl _ _⟩
set_option maxHeartbeats 1000000 in
set_option maxRecDepth 100000 in
theorem markConnS_none (w : World) : Calls Try.prog 16 #[.slice none 0 0, .int .i64 1] w fun e w' => e = .returned (.int .i64 1) ∧ w' = w := by
  go_enter Try.func16, Try.ntmps16
  go_wp2
  refine wp_loop_rounds 1 ?_
  rw [rounds_succ]
  go_wp2
  go_ret
  exact ⟨rfl, rfl⟩
set_option maxHeartbeats 1000000 in
set_option maxRecDepth 100000 in
theorem heldConnS_none (w : World) : Calls Try.prog 18 #[.slice none 0 0, .int .i64 1] w fun e w' => e = .returned (.int .i64 1) ∧ w' = w := by
  go_enter Try.func18, Try.ntmps18
  go_wp2
  refine wp_loop_rounds 1 ?_
  rw [rounds_succ]
  go_wp2
  go_ret
  exact ⟨rfl, rfl⟩
set_option maxHeartbeats 1000000 in
set_option maxRecDepth 100000 in
theorem eqW_any (r : Int) (d : ByteArray) (s : Int) (a a' : Option Addr) (c c' : Nat) (p p' : Option Addr) (n n' m m' : Nat) (w : World)
    (hq : ∀ w', Below w.heap.size w w' → Calls Try.prog 14 #[.slice p n m, .slice p' n' m'] w' fun e w'' => e = .returned (.bool true) ∧ Below w'.heap.size w' w'') :
    Calls Try.prog 6 #[WV r d s (.slice a 0 c) (.slice p n m), WV r d s (.slice a' 0 c') (.slice p' n' m')] w fun e w' => e = .returned (.bool true) ∧ Below w.heap.size w w' := by
  have HQ : Hid (∀ w', Below w.heap.size w w' → Calls Try.prog 14 #[.slice p n m, .slice p' n' m'] w' fun e w'' => e = .returned (.bool true) ∧ Below w'.heap.size w' w'') := hq
  clear hq
  unfold WV
  have L0 := (liesW_new w r d s (.slice a 0 c) (.slice p n m)).keep (new_below _ 29 #[.int .i64 r, .string d, .int .i64 s, .slice a' 0 c', .slice p' n' m'])
  have M0 := liesW_new (w.alloc (.cells #[.int .i64 r, .string d, .int .i64 s, .slice a 0 c, .slice p n m] 29)) r d s (.slice a' 0 c') (.slice p' n' m')
  have b0 := (new_below w 29 #[.int .i64 r, .string d, .int .i64 s, .slice a 0 c, .slice p n m]).alloc (by simp) (.cells #[.int .i64 r, .string d, .int .i64 s, .slice a' 0 c', .slice p' n' m'] 29)
  rw [show (w.alloc (.cells #[.int .i64 r, .string d, .int .i64 s, .slice a 0 c, .slice p n m] 29)).heap.size = w.heap.size + 1 by simp] at M0
  go_enter Try.func6, Try.ntmps6
  go_wp2_with fail
  generalize World.alloc _ _ = w0 at b0 L0 M0 ⊢
  refine (eqE_none r d s a a' c c' _).mono ?_
  rintro e w2 ⟨rfl, hb2⟩
  have c4 := (L0.keep hb2).c4
  have d4 := (M0.keep hb2).c4
  have b3 := b0.trans (hb2.mono b0.size)
  clear b0 hb2 L0 M0
  go_wp2_with fail
  refine (HQ.out _ b3).mono ?_
  rintro e w3 ⟨rfl, b4⟩
  have b5 := b3.trans (b4.mono b3.size)
  clear b3 b4 c4 d4
  go_wp2
  go_ret
  exact ⟨rfl, b5⟩
set_option maxHeartbeats 1000000 in
set_option maxRecDepth 100000 in
theorem markW_row (r : Int) (d : ByteArray) (s : Int) (a : Option Addr) (c g : Nat) (w : World) (h : Row w g zf) : Calls Try.prog 7 #[WV r d s (.slice a 0 c) (.slice (some ⟨g, 0, none⟩) 4 4), .int .i64 1] w fun e w' => e = .returned (.int .i64 33) ∧ ∃ f, Upto f 4 ∧ At w g w' f := by
  unfold WV
  have L0 := liesW_new w r d s (.slice a 0 c) (.slice (some ⟨g, 0, none⟩) 4 4)
  have b0 := new_below w 29 #[.int .i64 r, .string d, .int .i64 s, .slice a 0 c, .slice (some ⟨g, 0, none⟩) 4 4]
  have HR : Hid (Row w g zf) := h
  clear h
  go_enter Try.func7, Try.ntmps7
  go_wp2_with fail
  generalize World.alloc _ _ = w0 at b0 L0 ⊢
  refine (markE_none r d s a c _).mono ?_
  rintro e w2 ⟨rfl, hb2⟩
  have c4 := (L0.keep hb2).c4
  have b3 := b0.trans (hb2.mono b0.size)
  have HR2 : Hid (Row w2 g zf) := HR.out.below b3
  have HG : Hid (w.grownBy w2 (some g)) := ow.grown_below b3
  clear b0 hb2 L0 b3 HR
  go_wp2_with fail
  refine (markConnS_any g _ HR2.out).mono ?_
  rintro e w3 ⟨rfl, f, hf, hA⟩
  have HA : Hid (Upto f 4 ∧ At w g w3 f) := ⟨hf, hA.1, ow.grown_trans HG.out hA.2⟩
  clear hf hA c4 HG HR2
  go_wp2
  go_ret
  exact ⟨rfl, f, HA.out.1, HA.out.2⟩
set_option maxHeartbeats 1000000 in
set_option maxRecDepth 100000 in
theorem markW_none (r : Int) (d : ByteArray) (s : Int) (a : Option Addr) (c : Nat) (w : World) : Calls Try.prog 7 #[WV r d s (.slice a 0 c) (.slice none 0 0), .int .i64 1] w fun e w' => e = .returned (.int .i64 1) ∧ Below w.heap.size w w' := by
  unfold WV
  have L0 := liesW_new w r d s (.slice a 0 c) (.slice none 0 0)
  have b0 := new_below w 29 #[.int .i64 r, .string d, .int .i64 s, .slice a 0 c, .slice none 0 0]
  go_enter Try.func7, Try.ntmps7
  go_wp2_with fail
  generalize World.alloc _ _ = w0 at b0 L0 ⊢
  refine (markE_none r d s a c _).mono ?_
  rintro e w2 ⟨rfl, hb2⟩
  have c4 := (L0.keep hb2).c4
  have b3 := b0.trans (hb2.mono b0.size)
  clear b0 hb2 L0
  go_wp2_with fail
  refine (markConnS_none _).mono ?_
  rintro e w3 ⟨rfl, rfl⟩
  clear c4
  go_wp2
  go_ret
  exact ⟨rfl, b3⟩
set_option maxHeartbeats 1000000 in
set_option maxRecDepth 100000 in
theorem heldW_any (r : Int) (d : ByteArray) (s : Int) (a : Option Addr) (c : Nat) (p : Option Addr) (n m : Nat) (k : Int) (w : World) (hk : 0 < k)
    (hq : ∀ w', Below w.heap.size w w' → Calls Try.prog 18 #[.slice p n m, .int .i64 1] w' fun e w'' => e = .returned (.int .i64 k) ∧ Below w'.heap.size w' w'') :
    Calls Try.prog 8 #[WV r d s (.slice a 0 c) (.slice p n m), .int .i64 1] w fun e w' => e = .returned (.int .i64 k) ∧ Below w.heap.size w w' := by
  have HQ : Hid (∀ w', Below w.heap.size w w' → Calls Try.prog 18 #[.slice p n m, .int .i64 1] w' fun e w'' => e = .returned (.int .i64 k) ∧ Below w'.heap.size w' w'') := hq
  clear hq
  unfold WV
  have L0 := liesW_new w r d s (.slice a 0 c) (.slice p n m)
  have b0 := new_below w 29 #[.int .i64 r, .string d, .int .i64 s, .slice a 0 c, .slice p n m]
  have hkk : ¬ (k < 0) := by omega
  go_enter Try.func8, Try.ntmps8
  go_wp2_with fail
  generalize World.alloc _ _ = w0 at b0 L0 ⊢
  refine (heldE_none r d s a c _).mono ?_
  rintro e w2 ⟨rfl, hb2⟩
  have c4 := (L0.keep hb2).c4
  have b3 := b0.trans (hb2.mono b0.size)
  clear b0 hb2 L0
  go_wp2_with fail
  refine (HQ.out _ b3).mono ?_
  rintro e w3 ⟨rfl, b4⟩
  have b5 := b3.trans (b4.mono b3.size)
  clear c4 b3 b4
  go_wp2
  go_ret
  exact ⟨rfl, b5⟩
end Go.Proofs.Ytmjcbpdggogjmaa.cn
