/-
  The specification's ReadMutation, as a whole.
-/
import Derived.Test.YtgjjeabjnkenkaaRme
namespace Go.Proofs.Ytgjjeabjnkenkaa.rm
open Go.RowKit
open it
set_option linter.unusedVariables false

set_option maxHeartbeats 4000000 in
set_option maxRecDepth 100000 in
theorem spec_rm (v : Value) (l : List UInt8) (w : World) (h : ow.Reads .u8 w v (bz l)) (hl : l.length ≤ 1048576) :
    Calls Try.prog 25 #[v] w fun e w' => RmRet l w.heap.size e w' ∧ Below w.heap.size w w' := by
  have HR0 : Zero (w.alloc (.cells #[.int .i64 0, .int .i64 0, .int .i64 0, .int .i64 0, .string ⟨#[]⟩, .slice none 0 0] 34)) w.heap.size := (MapKept.heap_alloc w _).1
  have b0 : Below w.heap.size w (w.alloc (.cells #[.int .i64 0, .int .i64 0, .int .i64 0, .int .i64 0, .string ⟨#[]⟩, .slice none 0 0] 34)) := (Below.refl _ _).alloc (Nat.le_refl _) _
  have hk : ow.Reads .u8 (w.alloc (.cells #[.int .i64 0, .int .i64 0, .int .i64 0, .int .i64 0, .string ⟨#[]⟩, .slice none 0 0] 34)) v (bz l) := ow.reads_keep h (fun a u h => (b0.cell (p := a) (World.block_lt_of_cell? w _ h)).trans h)
  have HCV := conv hk
  obtain ⟨a, cap, rfl, _⟩ := h
  rw [bz_len] at HCV ⊢
  clear hk
  by_cases g1 : 65536 < l.length
  · have g1' : (65536 : Int) < (l.length : Int) := by omega
    have HE : Hid (rmx l = noM ∧ rmc l = 2) := rm_long g1
    go_enter Try.func25, Try.ntmps25
    go_wp2
    exact bodyPost_ret (v := .tuple #[.agg #[.int .i64 0, .int .i64 0, .int .i64 0, .int .i64 0, .string ⟨#[]⟩, .slice none 0 0], .int .i64 2]) (by simp [results, Try.results25, go_sem]) rfl ⟨ret_none HE.out, b0⟩
  have g1' : (l.length : Int) ≤ 65536 := by omega
  have HE3 : Hid (rok ⟨l.toArray⟩ = false → rmx l = noM ∧ rmc l = 3) := fun h => rm_form g1 (by rw [h]; simp)
  have HE4 : Hid (20000 < l.length → rmx l = noM ∧ rmc l = 3) := fun h => rm_form g1 (by omega)
  have HE0 : Hid (l.length ≤ 20000 → rok ⟨l.toArray⟩ = true → rmx l = mtn (⟨l.toArray⟩, false) ∧ rmc l = 0) := fun h h2 => rm_ok h h2
  have hts : (⟨l.toArray⟩ : ByteArray).size ≤ 1048576 := hl
  generalize (⟨l.toArray⟩ : ByteArray) = t at HCV HE3 HE0 hts ⊢
  go_enter Try.func25, Try.ntmps25
  go_wp2_with fail
  clear HCV
  generalize w.alloc _ = w1 at HR0 b0 ⊢
  refine (read_any t w1 hts).mono ?_
  rintro e w2 ⟨⟨x, u, rfl, hx, hrw⟩, hb2⟩
  have R2 : Zero w2 w.heap.size := HR0.below hb2
  have b2 := b0.trans (hb2.mono b0.size)
  have HRW : Hid (Rows2 w2 w1.heap.size u x.ps) := hrw
  have HB1 : Hid (w.heap.size < w1.heap.size) := HR0.lt
  have HX : Hid (rok t = true → x = mtn (t, false)) := hx
  clear HR0 b0 hb2 hrw hx
  obtain ⟨av, nv, cv, rfl⟩ : ∃ a n c, u = .slice a n c := by
    rcases HRW.out.2 with ⟨rfl, _⟩ | ⟨g, cap, cur, rfl, _⟩
    · exact ⟨_, _, _, rfl⟩
    · exact ⟨_, _, _, rfl⟩
  unfold mu.MV
  have LM := mu.lies_new w2 34 x (.slice av nv cv)
  have b3 := b2.trans ((mu.new_below w2 34 #[.int .i64 x.k, .int .i64 x.u, .int .i64 x.m, .int .i64 x.f, .string x.b, .slice av nv cv]).mono b2.size)
  have R3 : Zero (w2.alloc (.cells #[.int .i64 x.k, .int .i64 x.u, .int .i64 x.m, .int .i64 x.f, .string x.b, .slice av nv cv] 34)) w.heap.size := R2.below (mu.new_below _ _ _)
  have HRW3 : Hid (Rows2 (w2.alloc (.cells #[.int .i64 x.k, .int .i64 x.u, .int .i64 x.m, .int .i64 x.f, .string x.b, .slice av nv cv] 34)) w1.heap.size (.slice av nv cv) x.ps) := ow.own_below HRW.out (mu.new_below _ _ _)
  clear HRW R2 b2
  generalize rok t = rk at HX HE3 HE0 ⊢
  cases rk
  · have HEE : Hid (rmx l = noM ∧ rmc l = 3) := HE3.out rfl
    have r0 : World.cell? (w2.alloc (.cells #[.int .i64 x.k, .int .i64 x.u, .int .i64 x.m, .int .i64 x.f, .string x.b, .slice av nv cv] 34)) ⟨w.heap.size, 0, none⟩ = _ := R3.cell 0 _ rfl
    have r1 : World.cell? (w2.alloc (.cells #[.int .i64 x.k, .int .i64 x.u, .int .i64 x.m, .int .i64 x.f, .string x.b, .slice av nv cv] 34)) ⟨w.heap.size, 0 + 1, none⟩ = _ := R3.cell 1 _ rfl
    have r2 : World.cell? (w2.alloc (.cells #[.int .i64 x.k, .int .i64 x.u, .int .i64 x.m, .int .i64 x.f, .string x.b, .slice av nv cv] 34)) ⟨w.heap.size, 0 + 2, none⟩ = _ := R3.cell 2 _ rfl
    have r3 : World.cell? (w2.alloc (.cells #[.int .i64 x.k, .int .i64 x.u, .int .i64 x.m, .int .i64 x.f, .string x.b, .slice av nv cv] 34)) ⟨w.heap.size, 0 + 3, none⟩ = _ := R3.cell 3 _ rfl
    have r4 : World.cell? (w2.alloc (.cells #[.int .i64 x.k, .int .i64 x.u, .int .i64 x.m, .int .i64 x.f, .string x.b, .slice av nv cv] 34)) ⟨w.heap.size, 0 + 4, none⟩ = _ := R3.cell 4 _ rfl
    have r5 : World.cell? (w2.alloc (.cells #[.int .i64 x.k, .int .i64 x.u, .int .i64 x.m, .int .i64 x.f, .string x.b, .slice av nv cv] 34)) ⟨w.heap.size, 0 + 5, none⟩ = _ := R3.cell 5 _ rfl
    have fz := R3.f
    clear LM HE3 HE0 HE4 HX
    go_wp2
    have A5 := R3.put (a := .int .i64 0) (b := .int .i64 0) (c := .int .i64 0) (d := .int .i64 0) (e := .string ⟨#[]⟩) (f := .slice none 0 0)
    have b5 := put6_below (g := w.heap.size) (a := .int .i64 0) (b := .int .i64 0) (c := .int .i64 0) (d := .int .i64 0) (e := .string ⟨#[]⟩) (f := .slice none 0 0) b3 (Nat.le_refl _)
    change bodyPost _ _ _ _ _ (put6 (w2.alloc (.cells #[.int .i64 x.k, .int .i64 x.u, .int .i64 x.m, .int .i64 x.f, .string x.b, .slice av nv cv] 34)) w.heap.size (.int .i64 0) (.int .i64 0) (.int .i64 0) (.int .i64 0) (.string ⟨#[]⟩) (.slice none 0 0))
    generalize put6 _ _ _ _ _ _ _ _ = W5 at A5 b5  ⊢
    have d0 : W5.cell? ⟨w.heap.size, 0, none⟩ = _ := A5.cell 0 _ rfl
    have d1 : W5.cell? ⟨w.heap.size, 0 + 1, none⟩ = _ := A5.cell 1 _ rfl
    have d2 : W5.cell? ⟨w.heap.size, 0 + 2, none⟩ = _ := A5.cell 2 _ rfl
    have d3 : W5.cell? ⟨w.heap.size, 0 + 3, none⟩ = _ := A5.cell 3 _ rfl
    have d4 : W5.cell? ⟨w.heap.size, 0 + 4, none⟩ = _ := A5.cell 4 _ rfl
    have d5 : W5.cell? ⟨w.heap.size, 0 + 5, none⟩ = _ := A5.cell 5 _ rfl
    exact bodyPost_ret (v := .tuple #[.agg #[.int .i64 0, .int .i64 0, .int .i64 0, .int .i64 0, .string ⟨#[]⟩, .slice none 0 0], .int .i64 3]) (by simp [results, Try.results25, go_sem, d0, d1, d2, d3, d4, d5]) rfl ⟨ret_none HEE.out, b5⟩
  by_cases g2 : 20000 < l.length
  · have g2' : (20000 : Int) < (l.length : Int) := by omega
    have HEE : Hid (rmx l = noM ∧ rmc l = 3) := HE4.out g2
    have r0 : World.cell? (w2.alloc (.cells #[.int .i64 x.k, .int .i64 x.u, .int .i64 x.m, .int .i64 x.f, .string x.b, .slice av nv cv] 34)) ⟨w.heap.size, 0, none⟩ = _ := R3.cell 0 _ rfl
    have r1 : World.cell? (w2.alloc (.cells #[.int .i64 x.k, .int .i64 x.u, .int .i64 x.m, .int .i64 x.f, .string x.b, .slice av nv cv] 34)) ⟨w.heap.size, 0 + 1, none⟩ = _ := R3.cell 1 _ rfl
    have r2 : World.cell? (w2.alloc (.cells #[.int .i64 x.k, .int .i64 x.u, .int .i64 x.m, .int .i64 x.f, .string x.b, .slice av nv cv] 34)) ⟨w.heap.size, 0 + 2, none⟩ = _ := R3.cell 2 _ rfl
    have r3 : World.cell? (w2.alloc (.cells #[.int .i64 x.k, .int .i64 x.u, .int .i64 x.m, .int .i64 x.f, .string x.b, .slice av nv cv] 34)) ⟨w.heap.size, 0 + 3, none⟩ = _ := R3.cell 3 _ rfl
    have r4 : World.cell? (w2.alloc (.cells #[.int .i64 x.k, .int .i64 x.u, .int .i64 x.m, .int .i64 x.f, .string x.b, .slice av nv cv] 34)) ⟨w.heap.size, 0 + 4, none⟩ = _ := R3.cell 4 _ rfl
    have r5 : World.cell? (w2.alloc (.cells #[.int .i64 x.k, .int .i64 x.u, .int .i64 x.m, .int .i64 x.f, .string x.b, .slice av nv cv] 34)) ⟨w.heap.size, 0 + 5, none⟩ = _ := R3.cell 5 _ rfl
    have fz := R3.f
    clear LM HE3 HE0 HE4 HX
    go_wp2
    have A5 := R3.put (a := .int .i64 0) (b := .int .i64 0) (c := .int .i64 0) (d := .int .i64 0) (e := .string ⟨#[]⟩) (f := .slice none 0 0)
    have b5 := put6_below (g := w.heap.size) (a := .int .i64 0) (b := .int .i64 0) (c := .int .i64 0) (d := .int .i64 0) (e := .string ⟨#[]⟩) (f := .slice none 0 0) b3 (Nat.le_refl _)
    change bodyPost _ _ _ _ _ (put6 (w2.alloc (.cells #[.int .i64 x.k, .int .i64 x.u, .int .i64 x.m, .int .i64 x.f, .string x.b, .slice av nv cv] 34)) w.heap.size (.int .i64 0) (.int .i64 0) (.int .i64 0) (.int .i64 0) (.string ⟨#[]⟩) (.slice none 0 0))
    generalize put6 _ _ _ _ _ _ _ _ = W5 at A5 b5  ⊢
    have d0 : W5.cell? ⟨w.heap.size, 0, none⟩ = _ := A5.cell 0 _ rfl
    have d1 : W5.cell? ⟨w.heap.size, 0 + 1, none⟩ = _ := A5.cell 1 _ rfl
    have d2 : W5.cell? ⟨w.heap.size, 0 + 2, none⟩ = _ := A5.cell 2 _ rfl
    have d3 : W5.cell? ⟨w.heap.size, 0 + 3, none⟩ = _ := A5.cell 3 _ rfl
    have d4 : W5.cell? ⟨w.heap.size, 0 + 4, none⟩ = _ := A5.cell 4 _ rfl
    have d5 : W5.cell? ⟨w.heap.size, 0 + 5, none⟩ = _ := A5.cell 5 _ rfl
    exact bodyPost_ret (v := .tuple #[.agg #[.int .i64 0, .int .i64 0, .int .i64 0, .int .i64 0, .string ⟨#[]⟩, .slice none 0 0], .int .i64 3]) (by simp [results, Try.results25, go_sem, d0, d1, d2, d3, d4, d5]) rfl ⟨ret_none HEE.out, b5⟩
  · have g2' : (l.length : Int) ≤ 20000 := by omega
    have HEE : Hid (rmx l = x ∧ rmc l = 0) := (show rmx l = x ∧ rmc l = 0 by rw [HX.out rfl]; exact HE0.out (by omega) rfl)
    have m0 := LM.c0
    have m1 := LM.c1
    have m2 := LM.c2
    have m3 := LM.c3
    have m4 := LM.c4
    have m5 := LM.c5
    have r0 : World.cell? (w2.alloc (.cells #[.int .i64 x.k, .int .i64 x.u, .int .i64 x.m, .int .i64 x.f, .string x.b, .slice av nv cv] 34)) ⟨w.heap.size, 0, none⟩ = _ := R3.cell 0 _ rfl
    have r1 : World.cell? (w2.alloc (.cells #[.int .i64 x.k, .int .i64 x.u, .int .i64 x.m, .int .i64 x.f, .string x.b, .slice av nv cv] 34)) ⟨w.heap.size, 0 + 1, none⟩ = _ := R3.cell 1 _ rfl
    have r2 : World.cell? (w2.alloc (.cells #[.int .i64 x.k, .int .i64 x.u, .int .i64 x.m, .int .i64 x.f, .string x.b, .slice av nv cv] 34)) ⟨w.heap.size, 0 + 2, none⟩ = _ := R3.cell 2 _ rfl
    have r3 : World.cell? (w2.alloc (.cells #[.int .i64 x.k, .int .i64 x.u, .int .i64 x.m, .int .i64 x.f, .string x.b, .slice av nv cv] 34)) ⟨w.heap.size, 0 + 3, none⟩ = _ := R3.cell 3 _ rfl
    have r4 : World.cell? (w2.alloc (.cells #[.int .i64 x.k, .int .i64 x.u, .int .i64 x.m, .int .i64 x.f, .string x.b, .slice av nv cv] 34)) ⟨w.heap.size, 0 + 4, none⟩ = _ := R3.cell 4 _ rfl
    have r5 : World.cell? (w2.alloc (.cells #[.int .i64 x.k, .int .i64 x.u, .int .i64 x.m, .int .i64 x.f, .string x.b, .slice av nv cv] 34)) ⟨w.heap.size, 0 + 5, none⟩ = _ := R3.cell 5 _ rfl
    have fz := R3.f
    clear LM HE3 HE0 HE4 HX
    go_wp2
    have A5 := R3.put (a := .int .i64 x.k) (b := .int .i64 x.u) (c := .int .i64 x.m) (d := .int .i64 x.f) (e := .string x.b) (f := .slice av nv cv)
    have b5 := put6_below (g := w.heap.size) (a := .int .i64 x.k) (b := .int .i64 x.u) (c := .int .i64 x.m) (d := .int .i64 x.f) (e := .string x.b) (f := .slice av nv cv) b3 (Nat.le_refl _)
    have HRW5 := own_low (b := w.heap.size) (HRW3.out.kept (put6_grown _ w.heap.size (.int .i64 x.k) (.int .i64 x.u) (.int .i64 x.m) (.int .i64 x.f) (.string x.b) (.slice av nv cv)) (own_ne HRW3.out HB1.out)) (Nat.le_of_lt HB1.out)
    change bodyPost _ _ _ _ _ (put6 (w2.alloc (.cells #[.int .i64 x.k, .int .i64 x.u, .int .i64 x.m, .int .i64 x.f, .string x.b, .slice av nv cv] 34)) w.heap.size (.int .i64 x.k) (.int .i64 x.u) (.int .i64 x.m) (.int .i64 x.f) (.string x.b) (.slice av nv cv))
    generalize put6 _ _ _ _ _ _ _ _ = W5 at A5 b5 HRW5 ⊢
    have d0 : W5.cell? ⟨w.heap.size, 0, none⟩ = _ := A5.cell 0 _ rfl
    have d1 : W5.cell? ⟨w.heap.size, 0 + 1, none⟩ = _ := A5.cell 1 _ rfl
    have d2 : W5.cell? ⟨w.heap.size, 0 + 2, none⟩ = _ := A5.cell 2 _ rfl
    have d3 : W5.cell? ⟨w.heap.size, 0 + 3, none⟩ = _ := A5.cell 3 _ rfl
    have d4 : W5.cell? ⟨w.heap.size, 0 + 4, none⟩ = _ := A5.cell 4 _ rfl
    have d5 : W5.cell? ⟨w.heap.size, 0 + 5, none⟩ = _ := A5.cell 5 _ rfl
    exact bodyPost_ret (v := .tuple #[.agg #[.int .i64 x.k, .int .i64 x.u, .int .i64 x.m, .int .i64 x.f, .string x.b, .slice av nv cv], .int .i64 0]) (by simp [results, Try.results25, go_sem, d0, d1, d2, d3, d4, d5]) rfl ⟨⟨_, by rw [HEE.out.1, HEE.out.2]; rfl, by rw [HEE.out.1]; exact HRW5⟩, b5⟩
end Go.Proofs.Ytgjjeabjnkenkaa.rm
