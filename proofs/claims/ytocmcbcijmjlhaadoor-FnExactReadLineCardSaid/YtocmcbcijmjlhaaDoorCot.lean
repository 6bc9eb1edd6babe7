/-
  A console's line read: the program's ReadLine.
-/
import Derived.Test.YtocmcbcijmjlhaaDoorCor
namespace Go.Proofs.YtocmcbcijmjlhaaDoor.cn
open Go.RowKit
open sp nu
set_option linter.unusedVariables false

/-- An event as a value. -/
def EvV (k c : Int) (x d : List UInt8) : Value := .agg #[.int .i64 k, .int .i64 c, .int .i64 0, .string ⟨x.toArray⟩, .string ⟨d.toArray⟩]
/-- What both ReadLine functions answer. -/
def LineRet (l : List UInt8) (e : Ending) : Prop :=
  (32768 < l.length ∧ e = .returned (.tuple #[EvV 0 0 [] [], .int .i64 2])) ∨
  (l.length ≤ 32768 ∧ match evI l with | none => e = .returned (.tuple #[EvV 0 0 [] [], .int .i64 3]) | some (k, c, x, d) => e = .returned (.tuple #[EvV k c x d, .int .i64 0]))
/-- A variable of an event, and one of a code. -/
def Ec (w : World) (g : Nat) (k c : Int) (x d : List UInt8) : Prop := w.heap[g]? = some (.cells #[.int .i64 k, .int .i64 c, .int .i64 0, .string ⟨x.toArray⟩, .string ⟨d.toArray⟩] 23 (0, 0))
def Cc (w : World) (g : Nat) (c : Int) : Prop := w.heap[g]? = some (.cells #[.int .i64 c] 3 (0, 0))
section
variable {w w' : World} {g : Nat} {k c k' c' z z' : Int} {x d x' d' : List UInt8}
theorem Ec.c0 (h : Ec w g k c x d) : w.cell? ⟨g, 0, none⟩ = some (.int .i64 k) := by rw [cell_of_row w g 0 _ _ _ h]; rfl
theorem Ec.c1 (h : Ec w g k c x d) : w.cell? ⟨g, 1, none⟩ = some (.int .i64 c) := by rw [cell_of_row w g _ _ _ _ h]; rfl
theorem Ec.c2 (h : Ec w g k c x d) : w.cell? ⟨g, 2, none⟩ = some (.int .i64 0) := by rw [cell_of_row w g _ _ _ _ h]; rfl
theorem Ec.c3 (h : Ec w g k c x d) : w.cell? ⟨g, 3, none⟩ = some (.string ⟨x.toArray⟩) := by rw [cell_of_row w g _ _ _ _ h]; rfl
theorem Ec.c4 (h : Ec w g k c x d) : w.cell? ⟨g, 4, none⟩ = some (.string ⟨d.toArray⟩) := by rw [cell_of_row w g _ _ _ _ h]; rfl
theorem Ec.f (h : Ec w g k c x d) (j : Nat) : w.frozen? ⟨g, j, none⟩ = false := frozen_of_row w g j _ _ h
theorem Cc.c0 (h : Cc w g z) : w.cell? ⟨g, 0, none⟩ = some (.int .i64 z) := by rw [cell_of_row w g 0 _ _ _ h]; rfl
theorem Cc.f (h : Cc w g z) (j : Nat) : w.frozen? ⟨g, j, none⟩ = false := frozen_of_row w g j _ _ h
/-- The event's cells are written. -/
def putE (w : World) (g : Nat) (k c : Int) (x d : List UInt8) : World := ((((w.setCell ⟨g, 0, none⟩ (.int .i64 k)).setCell ⟨g, 1, none⟩ (.int .i64 c)).setCell ⟨g, 2, none⟩ (.int .i64 0)).setCell ⟨g, 3, none⟩ (.string ⟨x.toArray⟩)).setCell ⟨g, 4, none⟩ (.string ⟨d.toArray⟩)
theorem Ec.put (h : Ec w g k c x d) : Ec (putE w g k' c' x' d') g k' c' x' d' :=
  heap_setCell_same _ g 4 _ _ _ (heap_setCell_same _ g 3 _ _ _ (heap_setCell_same _ g 2 _ _ _ (heap_setCell_same _ g 1 _ _ _ (heap_setCell_same _ g 0 _ _ _ h))))
theorem Cc.putE {g' : Nat} (h : Cc w g z) (hg : g ≠ g') : Cc (putE w g' k' c' x' d') g z := by
  unfold Cc cn.putE
  rw [heap_setCell_other _ ⟨g', 4, none⟩ g _ hg, heap_setCell_other _ ⟨g', 3, none⟩ g _ hg, heap_setCell_other _ ⟨g', 2, none⟩ g _ hg, heap_setCell_other _ ⟨g', 1, none⟩ g _ hg, heap_setCell_other _ ⟨g', 0, none⟩ g _ hg]
  exact h
theorem Cc.put (h : Cc w g z) : Cc (w.setCell ⟨g, 0, none⟩ (.int .i64 z')) g z' := heap_setCell_same w g 0 _ _ _ h
theorem Ec.code {g' : Nat} (h : Ec w g k c x d) (hg : g ≠ g') (u : Value) : Ec (w.setCell ⟨g', 0, none⟩ u) g k c x d := (heap_setCell_other w ⟨g', 0, none⟩ g u hg).trans h
theorem putE_below {B : Nat} {w0 : World} (h : Below B w0 w) (hg : B ≤ g) : Below B w0 (putE w g k c x d) :=
  ((((h.setCell (p := ⟨g, 0, none⟩) hg _).setCell (p := ⟨g, 1, none⟩) hg _).setCell (p := ⟨g, 2, none⟩) hg _).setCell (p := ⟨g, 3, none⟩) hg _).setCell (p := ⟨g, 4, none⟩) hg _
end

theorem catch_idle (p q : Addr) (w : World) :
    CallsD Tryd.prog 9 #[.pointer (some p), .pointer (some q)] .returning w fun e u' w' => e = .returned (.tuple #[]) ∧ u' = .returning ∧ w' = w := by
  refine callsD_of_wpS Tryd.func9 rfl fun c₀ cs hu => ?_
  apply wpS_seq
  apply wpS_region
  simp [wpOpsS, go_sem, recoverD, hu, Tryd.ntmps9, Exit.thenS]
  refine wpS_cond (t := false) (by simp [Act.eval, Array.replicate]) ?_
  simp only [Bool.false_eq_true, if_false]
  refine wpS_of_wp (wp_skip ?_)
  cases c₀
  simp_all [bodyPostS, results, Tryd.results9]

set_option maxHeartbeats 2000000 in
set_option maxRecDepth 100000 in
theorem catch_panicking (p q : Nat) (hpq : p ≠ q) (T : TypeId) (pv : Value) (w : World) {k c : Int} {x d : List UInt8} {z : Int} (hE : Ec w p k c x d) (hC : Cc w q z) :
    CallsD Tryd.prog 9 #[.pointer (some ⟨p, 0, none⟩), .pointer (some ⟨q, 0, none⟩)] (.panicking [{ v := .iface T pv, recovered := false }]) w fun e u' w' =>
      e = .returned (.tuple #[]) ∧ u' = .panicking [{ v := .iface T pv, recovered := true }] ∧ w' = (putE w p 0 0 [] []).setCell ⟨q, 0, none⟩ (.int .i64 3) := by
  have c0 := hE.c0
  have c1 := hE.c1
  have c2 := hE.c2
  have c3 := hE.c3
  have c4 := hE.c4
  have f0 := hE.f 0
  have f1 := hE.f 1
  have f2 := hE.f 2
  have f3 := hE.f 3
  have f4 := hE.f 4
  have k0 := hC.c0
  have k1 := hC.f 0
  refine callsD_of_wpS Tryd.func9 rfl fun c₀ cs hu => ?_
  apply wpS_seq
  apply wpS_region
  simp [wpOpsS, go_sem, recoverD, hu, Tryd.ntmps9, Exit.thenS]
  refine wpS_cond (t := true) (by simp [Act.eval, Array.replicate]) ?_
  simp only [if_true]
  refine wpS_of_wp ?_
  go_wp2
  cases c₀
  simp_all [bodyPostS, results, Tryd.results9]
  rfl

theorem new3 (w : World) (s : ByteArray) : ∀ W, W = ((w.alloc (.cells #[.int .i64 0, .int .i64 0, .int .i64 0, .string ⟨#[]⟩, .string ⟨#[]⟩] 23)).alloc (.cells #[.int .i64 0] 3)).alloc (.cells #[.string s, .int .i64 0, .int .i64 0, .int .i64 0, .string ⟨#[]⟩, .string ⟨#[]⟩] 34) →
    Ec W w.heap.size 0 0 [] [] ∧ Cc W (w.heap.size + 1) 0 ∧ Rd W (w.heap.size + 1 + 1) s.data.toList 0 0 [] [] ∧ Below w.heap.size w W := by
  intro W hW
  have s1 : ∀ (w : World) o, (w.alloc o).heap.size = w.heap.size + 1 := fun w o => by simp
  have a1 : (w.alloc (.cells #[.int .i64 0, .int .i64 0, .int .i64 0, .string ⟨#[]⟩, .string ⟨#[]⟩] 23)).heap[w.heap.size]? = some (.cells #[.int .i64 0, .int .i64 0, .int .i64 0, .string ⟨#[]⟩, .string ⟨#[]⟩] 23) := (MapKept.heap_alloc w _).1
  subst hW
  refine ⟨?_, ?_, ?_, ?_⟩
  · unfold Ec
    rw [Below.heap_alloc _ _ _ (by rw [s1, s1]; omega), Below.heap_alloc _ _ _ (by rw [s1]; omega), a1]
  · unfold Cc
    rw [Below.heap_alloc _ _ _ (by rw [s1, s1]; omega)]
    have := (MapKept.heap_alloc (w.alloc (.cells #[.int .i64 0, .int .i64 0, .int .i64 0, .string ⟨#[]⟩, .string ⟨#[]⟩] 23)) (.cells #[.int .i64 0] 3)).1
    rw [s1] at this
    exact this
  · unfold Rd
    have := (MapKept.heap_alloc ((w.alloc (.cells #[.int .i64 0, .int .i64 0, .int .i64 0, .string ⟨#[]⟩, .string ⟨#[]⟩] 23)).alloc (.cells #[.int .i64 0] 3)) (.cells #[.string s, .int .i64 0, .int .i64 0, .int .i64 0, .string ⟨#[]⟩, .string ⟨#[]⟩] 34)).1
    rw [s1, s1] at this
    exact this
  · exact (((Below.refl _ w).alloc (Nat.le_refl _) _).alloc (by rw [s1]; omega) _).alloc (by rw [s1, s1]; omega) _

set_option maxHeartbeats 4000000 in
set_option maxRecDepth 100000 in
theorem rl_any (s : ByteArray) (w : World) (hs : s.size ≤ 1048576) (mx : Int) (hm : w.cell? ⟨0, 0, none⟩ = some (.int .i64 mx)) (hS : Sents w) (hT : tb.TP w) :
    Calls Tryd.prog 5 #[.string s] w fun e w' => LineRet s.data.toList e ∧ Below w.heap.size w w' := by
  have hmf : ∀ (fn : Fn) (first cap : Array Value) (w : World), (Instr.makeFunc fn first cap).run Tryd.prog w = .ok (.func fn first cap) w := fun _ _ _ _ => rfl
  by_cases hl : 32768 < s.size
  · have hl' : (32768 : Int) < (s.size : Int) := by omega
    have HL : Hid (32768 < s.data.toList.length) := by rw [← Lib.size_eq]; exact hl
    clear hm hS hT
    go_enter_defers Tryd.func5, Tryd.ntmps5
    go_wp2
    exact ⟨.tuple #[EvV 0 0 [] [], .int .i64 2], (by simp [results, Tryd.results5, go_sem, EvV]), .inl ⟨HL.out, rfl⟩, ((Below.refl _ w).alloc (Nat.le_refl _) _).alloc (by simp) _⟩
  have hl' : decide ((32768 : Int) < (s.size : Int)) = false := decide_eq_false (by omega)
  have HL : Hid (s.data.toList.length ≤ 32768) := by rw [← Lib.size_eq]; exact Nat.le_of_not_lt hl
  have HV : Hid (∀ W, Below w.heap.size w W → Env (w.heap.size + 1 + 1) W) := fun W hb => ⟨w, mx, hm, hS, hT, by omega, hb⟩
  have HN : Hid (∀ W, W = ((w.alloc (.cells #[.int .i64 0, .int .i64 0, .int .i64 0, .string ⟨#[]⟩, .string ⟨#[]⟩] 23)).alloc (.cells #[.int .i64 0] 3)).alloc (.cells #[.string s, .int .i64 0, .int .i64 0, .int .i64 0, .string ⟨#[]⟩, .string ⟨#[]⟩] 34) →
    Ec W w.heap.size 0 0 [] [] ∧ Cc W (w.heap.size + 1) 0 ∧ Rd W (w.heap.size + 1 + 1) s.data.toList 0 0 [] [] ∧ Below w.heap.size w W) := new3 w s
  clear hm hS hT
  go_enter_defers Tryd.func5, Tryd.ntmps5
  go_wp2_with fail
  have N := HN.out _ rfl
  generalize World.alloc _ _ = W at N ⊢
  obtain ⟨hE, hC, hR, hB⟩ := N
  have hlt : w.heap.size + 1 + 1 < W.heap.size := hR.lt
  have HB : Hid (Below w.heap.size w W) := hB
  have HR : Hid (Rd W (w.heap.size + 1 + 1) s.data.toList 0 0 [] []) := hR
  have HE1 : Hid (∀ w1, W.grownBy w1 (some (w.heap.size + 1 + 1)) → Ec w1 w.heap.size 0 0 [] [] ∧ Cc w1 (w.heap.size + 1) 0 ∧ Below w.heap.size w w1) := fun w1 g =>
    ⟨(g.block _ (by omega) (fun e => by injection e with e; omega)).trans hE, (g.block _ (by omega) (fun e => by injection e with e; omega)).trans hC, hB.trans ((below_grown g (by omega)).mono (by omega))⟩
  clear hE hC hR hB HN hlt
  refine (read_any (w.heap.size + 1 + 1) s.data.toList W HR.out (by have := HL.out; omega) (HV.out W HB.out)).mono ?_
  rintro e w1 hret
  clear HV HR HB
  rcases read_end hret with ⟨rfl, hq⟩ | ⟨T, v, rfl, hq⟩
  · clear hret
    cases hev : evI s.data.toList with
    | none =>
      rw [hev] at hq
      obtain ⟨⟨T, v, h⟩, _⟩ := hq
      cases h
    | some y =>
      obtain ⟨k, c, x, d⟩ := y
      rw [hev] at hq
      obtain ⟨_, r, hst⟩ := hq
      obtain ⟨hE, hC, hB⟩ := HE1.out w1 hst.2
      have HX : Hid (LineRet s.data.toList (.returned (.tuple #[EvV k c x d, .int .i64 0]))) := .inr ⟨HL.out, by rw [hev]⟩
      have HF : Hid (Ec ((putE w1 w.heap.size k c x d).setCell ⟨w.heap.size + 1, 0, none⟩ (.int .i64 0)) w.heap.size k c x d ∧ Cc ((putE w1 w.heap.size k c x d).setCell ⟨w.heap.size + 1, 0, none⟩ (.int .i64 0)) (w.heap.size + 1) 0 ∧ Below w.heap.size w ((putE w1 w.heap.size k c x d).setCell ⟨w.heap.size + 1, 0, none⟩ (.int .i64 0))) :=
        ⟨hE.put.code (by omega) _, (hC.putE (by omega)).put, (putE_below hB (Nat.le_refl _)).setCell (p := ⟨w.heap.size + 1, 0, none⟩) (by show w.heap.size ≤ w.heap.size + 1; omega) _⟩
      have b1 : w1.cell? ⟨w.heap.size + 1 + 1, 1, none⟩ = some (.int .i64 k) := hst.1.c1
      have b2 : w1.cell? ⟨w.heap.size + 1 + 1, 2, none⟩ = some (.int .i64 c) := hst.1.c2
      have b3 : w1.cell? ⟨w.heap.size + 1 + 1, 3, none⟩ = some (.int .i64 0) := hst.1.c3
      have b4 : w1.cell? ⟨w.heap.size + 1 + 1, 4, none⟩ = some (.string ⟨x.toArray⟩) := hst.1.c4
      have b5 : w1.cell? ⟨w.heap.size + 1 + 1, 5, none⟩ = some (.string ⟨d.toArray⟩) := hst.1.c5
      have c0 := hE.c0
      have c1 := hE.c1
      have c2 := hE.c2
      have c3 := hE.c3
      have c4 := hE.c4
      have f0 := hE.f 0
      have f1 := hE.f 1
      have f2 := hE.f 2
      have f3 := hE.f 3
      have f4 := hE.f 4
      have k0 := hC.c0
      have k1 := hC.f 0
      clear hst hE hC hB hev HE1 HL
      go_wp2
      refine leaves_cons (f := 9) (args := #[.pointer (some ⟨w.heap.size, 0, none⟩), .pointer (some ⟨w.heap.size + 1, 0, none⟩)]) (by simp) (by simp [go_sem]) ?_
      refine (catch_idle ⟨w.heap.size, 0, none⟩ ⟨w.heap.size + 1, 0, none⟩ _).mono ?_
      rintro e u' w'' ⟨rfl, rfl, rfl⟩
      obtain ⟨gE, gC, gB⟩ := HF.out
      change Leaves _ _ _ _ _ _ ((putE w1 w.heap.size k c x d).setCell ⟨w.heap.size + 1, 0, none⟩ (.int .i64 0))
      generalize World.setCell _ _ _ = W2 at gE gC gB ⊢
      have y0 := gE.c0
      have y1 := gE.c1
      have y2 := gE.c2
      have y3 := gE.c3
      have y4 := gE.c4
      have y5 := gC.c0
      exact ⟨.tuple #[EvV k c x d, .int .i64 0], (by simp [results, Tryd.results5, go_sem, EvV, y0, y1, y2, y3, y4, y5]), HX.out, gB⟩
  · clear hret
    cases hev : evI s.data.toList with
    | some y =>
      obtain ⟨k, c, x, d⟩ := y
      rw [hev] at hq
      exact absurd hq.1 (by simp)
    | none =>
      rw [hev] at hq
      obtain ⟨hE, hC, hB⟩ := HE1.out w1 hq.2
      have HX : Hid (LineRet s.data.toList (.returned (.tuple #[EvV 0 0 [] [], .int .i64 3]))) := .inr ⟨HL.out, by rw [hev]⟩
      have HF : Hid (Ec ((putE w1 w.heap.size 0 0 [] []).setCell ⟨w.heap.size + 1, 0, none⟩ (.int .i64 3)) w.heap.size 0 0 [] [] ∧ Cc ((putE w1 w.heap.size 0 0 [] []).setCell ⟨w.heap.size + 1, 0, none⟩ (.int .i64 3)) (w.heap.size + 1) 3 ∧ Below w.heap.size w ((putE w1 w.heap.size 0 0 [] []).setCell ⟨w.heap.size + 1, 0, none⟩ (.int .i64 3))) :=
        ⟨hE.put.code (by omega) _, (hC.putE (by omega)).put, (putE_below hB (Nat.le_refl _)).setCell (p := ⟨w.heap.size + 1, 0, none⟩) (by show w.heap.size ≤ w.heap.size + 1; omega) _⟩
      have HC : Hid (CallsD Tryd.prog 9 #[.pointer (some ⟨w.heap.size, 0, none⟩), .pointer (some ⟨w.heap.size + 1, 0, none⟩)] (.panicking [{ v := .iface T v, recovered := false }]) w1 fun e u' w' =>
        e = .returned (.tuple #[]) ∧ u' = .panicking [{ v := .iface T v, recovered := true }] ∧ w' = (putE w1 w.heap.size 0 0 [] []).setCell ⟨w.heap.size + 1, 0, none⟩ (.int .i64 3)) := catch_panicking _ _ (by omega) T v w1 hE hC
      clear hq hE hC hB hev HE1 HL
      go_wp2
      refine leaves_cons (f := 9) (args := #[.pointer (some ⟨w.heap.size, 0, none⟩), .pointer (some ⟨w.heap.size + 1, 0, none⟩)]) (by simp) (by simp [go_sem]) ?_
      refine HC.out.mono ?_
      rintro e u' w'' ⟨rfl, rfl, rfl⟩
      obtain ⟨gE, gC, gB⟩ := HF.out
      generalize World.setCell _ _ _ = W2 at gE gC gB ⊢
      have y0 := gE.c0
      have y1 := gE.c1
      have y2 := gE.c2
      have y3 := gE.c3
      have y4 := gE.c4
      have y5 := gC.c0
      simp [Leaves, settle, results, Tryd.results5, go_sem, y0, y1, y2, y3, y4, y5]
      exact ⟨HX.out, gB⟩
end Go.Proofs.YtocmcbcijmjlhaaDoor.cn
