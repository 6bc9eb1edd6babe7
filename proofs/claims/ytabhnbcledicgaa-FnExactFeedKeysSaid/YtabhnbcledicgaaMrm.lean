/-
  Entries marked by the law's own functions: nothing but their row changes.
-/
import Derived.Test.YtabhnbcledicgaaMrl
namespace Go.Proofs.Ytabhnbcledicgaa.mk
open Go.RowKit
open ky en gr
set_option linter.unusedVariables false

/-- A row of so many entries that a call made, whatever is in it. -/
def RowE (w : World) (base : Nat) (v : Value) (n : Nat) : Prop := ∃ xs : List Value, xs.length = n * 6 ∧ w.ownsRow base 26 6 v n xs
section
variable {w w' : World} {base g n cap : Nat} {v : Value}
theorem RowE.cell (h : RowE w base (.slice (some ⟨g, 0, none⟩) n cap) n) (j : Nat) (hj : j < n * 6) : ∃ u, w.cell? ⟨g, j, none⟩ = some u := by
  obtain ⟨xs, hl, h⟩ := h
  refine ⟨xs[j]'(by omega), ?_⟩
  rw [h.cellAt j (by omega), List.getElem?_eq_getElem (by omega)]
theorem RowE.free (h : RowE w base (.slice (some ⟨g, 0, none⟩) n cap) n) (j : Nat) : w.frozen? ⟨g, j, none⟩ = false := by
  obtain ⟨xs, hl, h⟩ := h
  exact h.frozenAt j
theorem RowE.set (h : RowE w base (.slice (some ⟨g, 0, none⟩) n cap) n) (j : Nat) (u : Value) : RowE (w.setCell ⟨g, j, none⟩ u) base (.slice (some ⟨g, 0, none⟩) n cap) n := by
  obtain ⟨xs, hl, h⟩ := h
  exact ⟨_, by rw [List.length_set]; exact hl, (h.stored _ _).1⟩
theorem RowE.keep (h : RowE w base v n) (hb : Below w.heap.size w w') : RowE w' base v n := by
  obtain ⟨xs, hl, h⟩ := h
  exact ⟨xs, hl, ow.own_below h hb⟩
theorem row_of_own {es : List En} (h : OwnE w base v es) : RowE w base v es.length := by
  obtain ⟨xs, hl, h⟩ := h
  exact ⟨xs, h.1, h⟩
end

set_option maxHeartbeats 4000000 in
set_option maxRecDepth 100000 in
theorem markEntries_any (g n cap base : Nat) (k : Int) (w : World) (h : RowE w base (.slice (some ⟨g, 0, none⟩) n cap) n) (hn : n ≤ 1048576) (h0 : 0 < k) (h1 : k ≤ 10000000) :
    Calls Try.prog 39 #[.slice (some ⟨g, 0, none⟩) n cap, .int .i64 k] w fun e w' => e = .returned (.int .i64 (k + 6 * (n : Int))) ∧ w.grownBy w' (some g) := by
  go_enter Try.func39, Try.ntmps39
  go_wp2
  go_loopw [1, 5] (fun z i wr => ∃ j : Nat, j ≤ n ∧ z = .int .i64 (k + 6 * (j : Int)) ∧ i = .int .i64 j ∧ RowE wr base (.slice (some ⟨g, 0, none⟩) n cap) n ∧ w.grownBy wr (some g)) (fun _ i _ => n - (intOf i).toNat)
  case atStart => exact ⟨0, Nat.zero_le _, by simp, rfl, h, ow.grown_refl _ _⟩
  case round =>
    clear h
    obtain ⟨j, hj, rfl, rfl, hown, hgr⟩ := hrel
    have HR : Hid (RowE wr base (.slice (some ⟨g, 0, none⟩) n cap) n) := hown
    have HG : Hid (w.grownBy wr (some g)) := hgr
    clear hown hgr
    by_cases hlt : j < n
    · have hlt' : (j : Int) < (n : Int) := by omega
      have hj0 : (0 : Int) ≤ (j : Int) := by omega
      generalize hK : k + 6 * (j : Int) = K
      have hK0 : 0 < K := by omega
      have hK1 : K ≤ 20000000 := by omega
      have HK : Hid (k + 6 * (j : Int) = K) := hK
      clear hK
      go_wp2_with fail
      refine (mark_any (K) _ (by omega) (by omega)).mono ?_
      rintro e w0 ⟨rfl, hb⟩
      have HR0 : Hid (RowE w0 base (.slice (some ⟨g, 0, none⟩) n cap) n) := HR.out.keep hb
      have HG0 : Hid (w.grownBy w0 (some g)) := ow.grown_trans HG.out (ow.grown_below hb)
      clear hb HR HG
      obtain ⟨u0, q0⟩ := HR0.out.cell (j * 6) (by omega)
      have f0 := HR0.out.free (j * 6)
      go_wp2_with fail
      have HRX : Hid (RowE (w0.setCell ⟨g, j * 6, none⟩ (.string (mt (K)))) base (.slice (some ⟨g, 0, none⟩) n cap) n) := HR0.out.set _ _
      have HGX : Hid (w.grownBy (w0.setCell ⟨g, j * 6, none⟩ (.string (mt (K)))) (some g)) := ow.grown_trans HG0.out (grown_set _ _ _ _)
      clear HR0 HG0 q0 f0
      generalize hX : World.setCell _ _ _ = X0 at HRX HGX ⊢
      clear hX
      have HRY0 : Hid (RowE X0 base (.slice (some ⟨g, 0, none⟩) n cap) n) := HRX.out
      have HGY0 : Hid (w.grownBy X0 (some g)) := HGX.out
      clear HRX HGX
      go_wp2_with fail
      refine (mark_any (K + 1) _ (by omega) (by omega)).mono ?_
      rintro e w1 ⟨rfl, hb⟩
      have HR1 : Hid (RowE w1 base (.slice (some ⟨g, 0, none⟩) n cap) n) := HRY0.out.keep hb
      have HG1 : Hid (w.grownBy w1 (some g)) := ow.grown_trans HGY0.out (ow.grown_below hb)
      clear hb HRY0 HGY0
      obtain ⟨u1, q1⟩ := HR1.out.cell (j * 6 + 1) (by omega)
      have f1 := HR1.out.free (j * 6 + 1)
      go_wp2_with fail
      have HRX : Hid (RowE (w1.setCell ⟨g, j * 6 + 1, none⟩ (.string (mt (K + 1)))) base (.slice (some ⟨g, 0, none⟩) n cap) n) := HR1.out.set _ _
      have HGX : Hid (w.grownBy (w1.setCell ⟨g, j * 6 + 1, none⟩ (.string (mt (K + 1)))) (some g)) := ow.grown_trans HG1.out (grown_set _ _ _ _)
      clear HR1 HG1 q1 f1
      generalize hX : World.setCell _ _ _ = X1 at HRX HGX ⊢
      clear hX
      have HRY1 : Hid (RowE X1 base (.slice (some ⟨g, 0, none⟩) n cap) n) := HRX.out
      have HGY1 : Hid (w.grownBy X1 (some g)) := HGX.out
      clear HRX HGX
      go_wp2_with fail
      refine (mark_any (K + 1 + 1) _ (by omega) (by omega)).mono ?_
      rintro e w2 ⟨rfl, hb⟩
      have HR2 : Hid (RowE w2 base (.slice (some ⟨g, 0, none⟩) n cap) n) := HRY1.out.keep hb
      have HG2 : Hid (w.grownBy w2 (some g)) := ow.grown_trans HGY1.out (ow.grown_below hb)
      clear hb HRY1 HGY1
      obtain ⟨u2, q2⟩ := HR2.out.cell (j * 6 + 2) (by omega)
      have f2 := HR2.out.free (j * 6 + 2)
      go_wp2_with fail
      have HRX : Hid (RowE (w2.setCell ⟨g, j * 6 + 2, none⟩ (.string (mt (K + 1 + 1)))) base (.slice (some ⟨g, 0, none⟩) n cap) n) := HR2.out.set _ _
      have HGX : Hid (w.grownBy (w2.setCell ⟨g, j * 6 + 2, none⟩ (.string (mt (K + 1 + 1)))) (some g)) := ow.grown_trans HG2.out (grown_set _ _ _ _)
      clear HR2 HG2 q2 f2
      generalize hX : World.setCell _ _ _ = X2 at HRX HGX ⊢
      clear hX
      have HRY2 : Hid (RowE X2 base (.slice (some ⟨g, 0, none⟩) n cap) n) := HRX.out
      have HGY2 : Hid (w.grownBy X2 (some g)) := HGX.out
      clear HRX HGX
      go_wp2_with fail
      refine (mark_any (K + 1 + 1 + 1) _ (by omega) (by omega)).mono ?_
      rintro e w3 ⟨rfl, hb⟩
      have HR3 : Hid (RowE w3 base (.slice (some ⟨g, 0, none⟩) n cap) n) := HRY2.out.keep hb
      have HG3 : Hid (w.grownBy w3 (some g)) := ow.grown_trans HGY2.out (ow.grown_below hb)
      clear hb HRY2 HGY2
      obtain ⟨u3, q3⟩ := HR3.out.cell (j * 6 + 3) (by omega)
      have f3 := HR3.out.free (j * 6 + 3)
      obtain ⟨u4, q4⟩ := HR3.out.cell (j * 6 + 4) (by omega)
      have f4 := HR3.out.free (j * 6 + 4)
      go_wp2_with fail
      have HRX : Hid (RowE ((w3.setCell ⟨g, j * 6 + 3, none⟩ (.string (mt (K + 1 + 1 + 1)))).setCell ⟨g, j * 6 + 4, none⟩ (.int .i64 (K + 1 + 1 + 1 + 1))) base (.slice (some ⟨g, 0, none⟩) n cap) n) := (HR3.out.set _ _).set _ _
      have HGX : Hid (w.grownBy ((w3.setCell ⟨g, j * 6 + 3, none⟩ (.string (mt (K + 1 + 1 + 1)))).setCell ⟨g, j * 6 + 4, none⟩ (.int .i64 (K + 1 + 1 + 1 + 1))) (some g)) := ow.grown_trans (ow.grown_trans HG3.out (grown_set _ _ _ _)) (grown_set _ _ _ _)
      clear HR3 HG3 q3 f3 q4 f4
      generalize hX : World.setCell _ _ _ = X3 at HRX HGX ⊢
      clear hX
      have HRY3 : Hid (RowE X3 base (.slice (some ⟨g, 0, none⟩) n cap) n) := HRX.out
      have HGY3 : Hid (w.grownBy X3 (some g)) := HGX.out
      clear HRX HGX
      go_wp2_with fail
      refine (mark_any (K + 1 + 1 + 1 + 1 + 1) _ (by omega) (by omega)).mono ?_
      rintro e w5 ⟨rfl, hb⟩
      have HR5 : Hid (RowE w5 base (.slice (some ⟨g, 0, none⟩) n cap) n) := HRY3.out.keep hb
      have HG5 : Hid (w.grownBy w5 (some g)) := ow.grown_trans HGY3.out (ow.grown_below hb)
      clear hb HRY3 HGY3
      obtain ⟨u5, q5⟩ := HR5.out.cell (j * 6 + 5) (by omega)
      have f5 := HR5.out.free (j * 6 + 5)
      go_wp2
      have HRX : Hid (RowE (w5.setCell ⟨g, j * 6 + 5, none⟩ (.string (mt (K + 1 + 1 + 1 + 1 + 1)))) base (.slice (some ⟨g, 0, none⟩) n cap) n) := HR5.out.set _ _
      have HGX : Hid (w.grownBy (w5.setCell ⟨g, j * 6 + 5, none⟩ (.string (mt (K + 1 + 1 + 1 + 1 + 1)))) (some g)) := ow.grown_trans HG5.out (grown_set _ _ _ _)
      clear HR5 HG5 q5 f5
      go_roundw
      case rel => exact ⟨j + 1, by omega, by rw [← HK.out]; go_num, by go_num, HRX.out, HGX.out⟩
      case measure => simp [intOf]; omega
    · obtain rfl : j = n := by omega
      go_wp2
      go_ret
      exact ⟨rfl, HG.out⟩

set_option maxHeartbeats 1000000 in
set_option maxRecDepth 100000 in
theorem markFeed_any (f : Bool) (t : ByteArray) (g n cap base : Nat) (k : Int) (w : World) (h : RowE w base (.slice (some ⟨g, 0, none⟩) n cap) n) (hn : n ≤ 1048576) (h0 : 0 < k) (h1 : k ≤ 10000000) :
    Calls Try.prog 19 #[FV f t (.slice (some ⟨g, 0, none⟩) n cap), .int .i64 k] w fun e w' => e = .returned (.int .i64 (k + 6 * (n : Int))) ∧ w.grownBy w' (some g) := by
  unfold FV
  have hbw : Below w.heap.size w (w.alloc (.cells #[.bool f, .string t, .slice (some ⟨g, 0, none⟩) n cap] 36)) := (Below.refl _ _).alloc (Nat.le_refl _) _
  have HR : Hid (RowE (w.alloc (.cells #[.bool f, .string t, .slice (some ⟨g, 0, none⟩) n cap] 36)) base (.slice (some ⟨g, 0, none⟩) n cap) n) := h.keep hbw
  clear h
  go_enter Try.func19, Try.ntmps19
  go_wp2_with fail
  refine (markEntries_any g n cap base k _ HR.out hn h0 h1).mono ?_
  rintro e w2 ⟨rfl, hg2⟩
  have HG : Hid (w.grownBy w2 (some g)) := ow.grown_trans (ow.grown_below hbw) hg2
  clear hg2 hbw HR
  go_wp2
  go_ret
  exact ⟨rfl, HG.out⟩
end Go.Proofs.Ytabhnbcledicgaa.mk
