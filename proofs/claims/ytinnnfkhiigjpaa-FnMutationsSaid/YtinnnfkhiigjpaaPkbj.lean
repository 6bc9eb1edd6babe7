/-
  The specification's ReadMutation, as a whole.
  Plain facts for the law on mutations that are written and read: sizes, rows of bytes.
  FnMutations holds at every world: a drawn mutation is read back from its bytes, and any bytes that are read are just those of what was read.
-/
import Derived.Test.YtinnnfkhiigjpaaPkbi
import Derived.Test.YtinnnfkhiigjpaaPkba
import Derived.Test.YtinnnfkhiigjpaaPkbd
import Derived.Test.YtinnnfkhiigjpaaPkbg
import Derived.Test.YtinnnfkhiigjpaaPkbh
import Derived.Test.YtinnnfkhiigjpaaRows
import Derived.WalkKit
import Derived.ProofKit
import Derived.OpenShut
import Derived.ShutString
import Derived.ChangeOld
import Derived.Below

namespace Go.Proofs.Ytinnnfkhiigjpaa.rm
open Go.RowKit
open it
set_option linter.unusedVariables false

set_option maxHeartbeats 4000000 in
set_option maxRecDepth 100000 in
theorem spec_rm (v : Value) (l : List UInt8) (w : World) (h : ow.Reads .u8 w v (bz l)) (hl : l.length ≤ 1048576) :
    Calls Try.prog 10 #[v] w fun e w' => RmRet l w.heap.size e w' ∧ Below w.heap.size w w' := by
  have HR0 : Zero (w.alloc (.cells #[.int .i64 0, .int .i64 0, .int .i64 0, .int .i64 0, .string ⟨#[]⟩, .slice none 0 0] 25)) w.heap.size := (MapKept.heap_alloc w _).1
  have b0 : Below w.heap.size w (w.alloc (.cells #[.int .i64 0, .int .i64 0, .int .i64 0, .int .i64 0, .string ⟨#[]⟩, .slice none 0 0] 25)) := (Below.refl _ _).alloc (Nat.le_refl _) _
  have hk : ow.Reads .u8 (w.alloc (.cells #[.int .i64 0, .int .i64 0, .int .i64 0, .int .i64 0, .string ⟨#[]⟩, .slice none 0 0] 25)) v (bz l) := ow.reads_keep h (fun a u h => (b0.cell (p := a) (World.block_lt_of_cell? w _ h)).trans h)
  have HCV := conv hk
  obtain ⟨a, cap, rfl, _⟩ := h
  rw [bz_len] at HCV ⊢
  clear hk
  by_cases g1 : 65536 < l.length
  · have g1' : (65536 : Int) < (l.length : Int) := by omega
    have HE : Hid (rmx l = noM ∧ rmc l = 2) := rm_long g1
    go_enter Try.func10, Try.ntmps10
    go_wp2
    exact bodyPost_ret (v := .tuple #[.agg #[.int .i64 0, .int .i64 0, .int .i64 0, .int .i64 0, .string ⟨#[]⟩, .slice none 0 0], .int .i64 2]) (by simp [results, Try.results10, go_sem]) rfl ⟨ret_none HE.out, b0⟩
  have g1' : (l.length : Int) ≤ 65536 := by omega
  have HE3 : Hid (rok ⟨l.toArray⟩ = false → rmx l = noM ∧ rmc l = 3) := fun h => rm_form g1 (by rw [h]; simp)
  have HE4 : Hid (20000 < l.length → rmx l = noM ∧ rmc l = 3) := fun h => rm_form g1 (by omega)
  have HE0 : Hid (l.length ≤ 20000 → rok ⟨l.toArray⟩ = true → rmx l = mtn (⟨l.toArray⟩, false) ∧ rmc l = 0) := fun h h2 => rm_ok h h2
  have hts : (⟨l.toArray⟩ : ByteArray).size ≤ 1048576 := hl
  generalize (⟨l.toArray⟩ : ByteArray) = t at HCV HE3 HE0 hts ⊢
  go_enter Try.func10, Try.ntmps10
  go_wp2_with fail
  clear HCV
  generalize w.alloc _ = w1 at HR0 b0 ⊢
  refine (read_any t w1 hts).mono ?_
  rintro e w2 ⟨⟨x, u, rfl, hx, hrw⟩, hb2⟩
  have R2 : Zero w2 w.heap.size := HR0.below hb2
  have b2 := b0.trans (hb2.mono b0.size)
  have HRW : Hid (Rows2 w2 w1.heap.size u x.ps) := hrw
  have HB1 : Hid (w.heap.size < w1.heap.size) := HR0.lt
  have HX : Hid (rok t = true → x = mtn (t, false)) := hx
  clear HR0 b0 hb2 hrw hx
  obtain ⟨av, nv, cv, rfl⟩ : ∃ a n c, u = .slice a n c := by
    rcases HRW.out.2 with ⟨rfl, _⟩ | ⟨g, cap, cur, rfl, _⟩
    · exact ⟨_, _, _, rfl⟩
    · exact ⟨_, _, _, rfl⟩
  unfold mu.MV
  have LM := mu.lies_new w2 25 x (.slice av nv cv)
  have b3 := b2.trans ((mu.new_below w2 25 #[.int .i64 x.k, .int .i64 x.u, .int .i64 x.m, .int .i64 x.f, .string x.b, .slice av nv cv]).mono b2.size)
  have R3 : Zero (w2.alloc (.cells #[.int .i64 x.k, .int .i64 x.u, .int .i64 x.m, .int .i64 x.f, .string x.b, .slice av nv cv] 25)) w.heap.size := R2.below (mu.new_below _ _ _)
  have HRW3 : Hid (Rows2 (w2.alloc (.cells #[.int .i64 x.k, .int .i64 x.u, .int .i64 x.m, .int .i64 x.f, .string x.b, .slice av nv cv] 25)) w1.heap.size (.slice av nv cv) x.ps) := ow.own_below HRW.out (mu.new_below _ _ _)
  clear HRW R2 b2
  generalize rok t = rk at HX HE3 HE0 ⊢
  cases rk
  · have HEE : Hid (rmx l = noM ∧ rmc l = 3) := HE3.out rfl
    have r0 : World.cell? (w2.alloc (.cells #[.int .i64 x.k, .int .i64 x.u, .int .i64 x.m, .int .i64 x.f, .string x.b, .slice av nv cv] 25)) ⟨w.heap.size, 0, none⟩ = _ := R3.cell 0 _ rfl
    have r1 : World.cell? (w2.alloc (.cells #[.int .i64 x.k, .int .i64 x.u, .int .i64 x.m, .int .i64 x.f, .string x.b, .slice av nv cv] 25)) ⟨w.heap.size, 0 + 1, none⟩ = _ := R3.cell 1 _ rfl
    have r2 : World.cell? (w2.alloc (.cells #[.int .i64 x.k, .int .i64 x.u, .int .i64 x.m, .int .i64 x.f, .string x.b, .slice av nv cv] 25)) ⟨w.heap.size, 0 + 2, none⟩ = _ := R3.cell 2 _ rfl
    have r3 : World.cell? (w2.alloc (.cells #[.int .i64 x.k, .int .i64 x.u, .int .i64 x.m, .int .i64 x.f, .string x.b, .slice av nv cv] 25)) ⟨w.heap.size, 0 + 3, none⟩ = _ := R3.cell 3 _ rfl
    have r4 : World.cell? (w2.alloc (.cells #[.int .i64 x.k, .int .i64 x.u, .int .i64 x.m, .int .i64 x.f, .string x.b, .slice av nv cv] 25)) ⟨w.heap.size, 0 + 4, none⟩ = _ := R3.cell 4 _ rfl
    have r5 : World.cell? (w2.alloc (.cells #[.int .i64 x.k, .int .i64 x.u, .int .i64 x.m, .int .i64 x.f, .string x.b, .slice av nv cv] 25)) ⟨w.heap.size, 0 + 5, none⟩ = _ := R3.cell 5 _ rfl
    have fz := R3.f
    clear LM HE3 HE0 HE4 HX
    go_wp2
    have A5 := R3.put (a := .int .i64 0) (b := .int .i64 0) (c := .int .i64 0) (d := .int .i64 0) (e := .string ⟨#[]⟩) (f := .slice none 0 0)
    have b5 := put6_below (g := w.heap.size) (a := .int .i64 0) (b := .int .i64 0) (c := .int .i64 0) (d := .int .i64 0) (e := .string ⟨#[]⟩) (f := .slice none 0 0) b3 (Nat.le_refl _)
    change bodyPost _ _ _ _ _ (put6 (w2.alloc (.cells #[.int .i64 x.k, .int .i64 x.u, .int .i64 x.m, .int .i64 x.f, .string x.b, .slice av nv cv] 25)) w.heap.size (.int .i64 0) (.int .i64 0) (.int .i64 0) (.int .i64 0) (.string ⟨#[]⟩) (.slice none 0 0))
    generalize put6 _ _ _ _ _ _ _ _ = W5 at A5 b5  ⊢
    have d0 : W5.cell? ⟨w.heap.size, 0, none⟩ = _ := A5.cell 0 _ rfl
    have d1 : W5.cell? ⟨w.heap.size, 0 + 1, none⟩ = _ := A5.cell 1 _ rfl
    have d2 : W5.cell? ⟨w.heap.size, 0 + 2, none⟩ = _ := A5.cell 2 _ rfl
    have d3 : W5.cell? ⟨w.heap.size, 0 + 3, none⟩ = _ := A5.cell 3 _ rfl
    have d4 : W5.cell? ⟨w.heap.size, 0 + 4, none⟩ = _ := A5.cell 4 _ rfl
    have d5 : W5.cell? ⟨w.heap.size, 0 + 5, none⟩ = _ := A5.cell 5 _ rfl
    exact bodyPost_ret (v := .tuple #[.agg #[.int .i64 0, .int .i64 0, .int .i64 0, .int .i64 0, .string ⟨#[]⟩, .slice none 0 0], .int .i64 3]) (by simp [results, Try.results10, go_sem, d0, d1, d2, d3, d4, d5]) rfl ⟨ret_none HEE.out, b5⟩
  by_cases g2 : 20000 < l.length
  · have g2' : (20000 : Int) < (l.length : Int) := by omega
    have HEE : Hid (rmx l = noM ∧ rmc l = 3) := HE4.out g2
    have r0 : World.cell? (w2.alloc (.cells #[.int .i64 x.k, .int .i64 x.u, .int .i64 x.m, .int .i64 x.f, .string x.b, .slice av nv cv] 25)) ⟨w.heap.size, 0, none⟩ = _ := R3.cell 0 _ rfl
    have r1 : World.cell? (w2.alloc (.cells #[.int .i64 x.k, .int .i64 x.u, .int .i64 x.m, .int .i64 x.f, .string x.b, .slice av nv cv] 25)) ⟨w.heap.size, 0 + 1, none⟩ = _ := R3.cell 1 _ rfl
    have r2 : World.cell? (w2.alloc (.cells #[.int .i64 x.k, .int .i64 x.u, .int .i64 x.m, .int .i64 x.f, .string x.b, .slice av nv cv] 25)) ⟨w.heap.size, 0 + 2, none⟩ = _ := R3.cell 2 _ rfl
    have r3 : World.cell? (w2.alloc (.cells #[.int .i64 x.k, .int .i64 x.u, .int .i64 x.m, .int .i64 x.f, .string x.b, .slice av nv cv] 25)) ⟨w.heap.size, 0 + 3, none⟩ = _ := R3.cell 3 _ rfl
    have r4 : World.cell? (w2.alloc (.cells #[.int .i64 x.k, .int .i64 x.u, .int .i64 x.m, .int .i64 x.f, .string x.b, .slice av nv cv] 25)) ⟨w.heap.size, 0 + 4, none⟩ = _ := R3.cell 4 _ rfl
    have r5 : World.cell? (w2.alloc (.cells #[.int .i64 x.k, .int .i64 x.u, .int .i64 x.m, .int .i64 x.f, .string x.b, .slice av nv cv] 25)) ⟨w.heap.size, 0 + 5, none⟩ = _ := R3.cell 5 _ rfl
    have fz := R3.f
    clear LM HE3 HE0 HE4 HX
    go_wp2
    have A5 := R3.put (a := .int .i64 0) (b := .int .i64 0) (c := .int .i64 0) (d := .int .i64 0) (e := .string ⟨#[]⟩) (f := .slice none 0 0)
    have b5 := put6_below (g := w.heap.size) (a := .int .i64 0) (b := .int .i64 0) (c := .int .i64 0) (d := .int .i64 0) (e := .string ⟨#[]⟩) (f := .slice none 0 0) b3 (Nat.le_refl _)
    change bodyPost _ _ _ _ _ (put6 (w2.alloc (.cells #[.int .i64 x.k, .int .i64 x.u, .int .i64 x.m, .int .i64 x.f, .string x.b, .slice av nv cv] 25)) w.heap.size (.int .i64 0) (.int .i64 0) (.int .i64 0) (.int .i64 0) (.string ⟨#[]⟩) (.slice none 0 0))
    generalize put6 _ _ _ _ _ _ _ _ = W5 at A5 b5  ⊢
    have d0 : W5.cell? ⟨w.heap.size, 0, none⟩ = _ := A5.cell 0 _ rfl
    have d1 : W5.cell? ⟨w.heap.size, 0 + 1, none⟩ = _ := A5.cell 1 _ rfl
    have d2 : W5.cell? ⟨w.heap.size, 0 + 2, none⟩ = _ := A5.cell 2 _ rfl
    have d3 : W5.cell? ⟨w.heap.size, 0 + 3, none⟩ = _ := A5.cell 3 _ rfl
    have d4 : W5.cell? ⟨w.heap.size, 0 + 4, none⟩ = _ := A5.cell 4 _ rfl
    have d5 : W5.cell? ⟨w.heap.size, 0 + 5, none⟩ = _ := A5.cell 5 _ rfl
    exact bodyPost_ret (v := .tuple #[.agg #[.int .i64 0, .int .i64 0, .int .i64 0, .int .i64 0, .string ⟨#[]⟩, .slice none 0 0], .int .i64 3]) (by simp [results, Try.results10, go_sem, d0, d1, d2, d3, d4, d5]) rfl ⟨ret_none HEE.out, b5⟩
  · have g2' : (l.length : Int) ≤ 20000 := by omega
    have HEE : Hid (rmx l = x ∧ rmc l = 0) := (show rmx l = x ∧ rmc l = 0 by rw [HX.out rfl]; exact HE0.out (by omega) rfl)
    have m0 := LM.c0
    have m1 := LM.c1
    have m2 := LM.c2
    have m3 := LM.c3
    have m4 := LM.c4
    have m5 := LM.c5
    have r0 : World.cell? (w2.alloc (.cells #[.int .i64 x.k, .int .i64 x.u, .int .i64 x.m, .int .i64 x.f, .string x.b, .slice av nv cv] 25)) ⟨w.heap.size, 0, none⟩ = _ := R3.cell 0 _ rfl
    have r1 : World.cell? (w2.alloc (.cells #[.int .i64 x.k, .int .i64 x.u, .int .i64 x.m, .int .i64 x.f, .string x.b, .slice av nv cv] 25)) ⟨w.heap.size, 0 + 1, none⟩ = _ := R3.cell 1 _ rfl
    have r2 : World.cell? (w2.alloc (.cells #[.int .i64 x.k, .int .i64 x.u, .int .i64 x.m, .int .i64 x.f, .string x.b, .slice av nv cv] 25)) ⟨w.heap.size, 0 + 2, none⟩ = _ := R3.cell 2 _ rfl
    have r3 : World.cell? (w2.alloc (.cells #[.int .i64 x.k, .int .i64 x.u, .int .i64 x.m, .int .i64 x.f, .string x.b, .slice av nv cv] 25)) ⟨w.heap.size, 0 + 3, none⟩ = _ := R3.cell 3 _ rfl
    have r4 : World.cell? (w2.alloc (.cells #[.int .i64 x.k, .int .i64 x.u, .int .i64 x.m, .int .i64 x.f, .string x.b, .slice av nv cv] 25)) ⟨w.heap.size, 0 + 4, none⟩ = _ := R3.cell 4 _ rfl
    have r5 : World.cell? (w2.alloc (.cells #[.int .i64 x.k, .int .i64 x.u, .int .i64 x.m, .int .i64 x.f, .string x.b, .slice av nv cv] 25)) ⟨w.heap.size, 0 + 5, none⟩ = _ := R3.cell 5 _ rfl
    have fz := R3.f
    clear LM HE3 HE0 HE4 HX
    go_wp2
    have A5 := R3.put (a := .int .i64 x.k) (b := .int .i64 x.u) (c := .int .i64 x.m) (d := .int .i64 x.f) (e := .string x.b) (f := .slice av nv cv)
    have b5 := put6_below (g := w.heap.size) (a := .int .i64 x.k) (b := .int .i64 x.u) (c := .int .i64 x.m) (d := .int .i64 x.f) (e := .string x.b) (f := .slice av nv cv) b3 (Nat.le_refl _)
    have HRW5 := own_low (b := w.heap.size) (HRW3.out.kept (put6_grown _ w.heap.size (.int .i64 x.k) (.int .i64 x.u) (.int .i64 x.m) (.int .i64 x.f) (.string x.b) (.slice av nv cv)) (own_ne HRW3.out HB1.out)) (Nat.le_of_lt HB1.out)
    change bodyPost _ _ _ _ _ (put6 (w2.alloc (.cells #[.int .i64 x.k, .int .i64 x.u, .int .i64 x.m, .int .i64 x.f, .string x.b, .slice av nv cv] 25)) w.heap.size (.int .i64 x.k) (.int .i64 x.u) (.int .i64 x.m) (.int .i64 x.f) (.string x.b) (.slice av nv cv))
    generalize put6 _ _ _ _ _ _ _ _ = W5 at A5 b5 HRW5 ⊢
    have d0 : W5.cell? ⟨w.heap.size, 0, none⟩ = _ := A5.cell 0 _ rfl
    have d1 : W5.cell? ⟨w.heap.size, 0 + 1, none⟩ = _ := A5.cell 1 _ rfl
    have d2 : W5.cell? ⟨w.heap.size, 0 + 2, none⟩ = _ := A5.cell 2 _ rfl
    have d3 : W5.cell? ⟨w.heap.size, 0 + 3, none⟩ = _ := A5.cell 3 _ rfl
    have d4 : W5.cell? ⟨w.heap.size, 0 + 4, none⟩ = _ := A5.cell 4 _ rfl
    have d5 : W5.cell? ⟨w.heap.size, 0 + 5, none⟩ = _ := A5.cell 5 _ rfl
    exact bodyPost_ret (v := .tuple #[.agg #[.int .i64 x.k, .int .i64 x.u, .int .i64 x.m, .int .i64 x.f, .string x.b, .slice av nv cv], .int .i64 0]) (by simp [results, Try.results10, go_sem, d0, d1, d2, d3, d4, d5]) rfl ⟨⟨_, by rw [HEE.out.1, HEE.out.2]; rfl, by rw [HEE.out.1]; exact HRW5⟩, b5⟩
end Go.Proofs.Ytinnnfkhiigjpaa.rm

namespace Go.Proofs.Ytinnnfkhiigjpaa.mb
open Go.RowKit
open it mu
set_option linter.unusedVariables false

theorem small_of {x : Mu} (h : mok x = true) : Small x := by
  obtain ⟨hk, hu, hm, hfl, hb, hn, hi⟩ := fits_of h
  refine ⟨⟨⟨by omega, by omega⟩, ⟨by omega, by omega⟩, ⟨by omega, by omega⟩, ⟨by omega, by omega⟩⟩, by omega, by omega, fun j hj => ?_⟩
  have := hi j hj
  omega
theorem few_len {x : Mu} (h : mok x = true) (hp : x.ps.length ≤ 3) : (mB x).length ≤ 20000 := by
  have hf := fits_of h
  have h1 := itsB_len hf x.ps.length (Nat.le_refl _)
  obtain ⟨hk, hu, hm, hfl, hb, hn, hi⟩ := hf
  unfold mB hdB
  simp only [List.length_append, List.length_cons, List.length_nil, lg.be_len, size_list]
  have : x.ps.length * 4204 ≤ 3 * 4204 := Nat.mul_le_mul_right _ hp
  omega
theorem said_of {x : Mu} (h : mok x = true) (hp : x.ps.length ≤ 3) : mbl x = mB x ∧ mbc x = 0 ∧ rm.rmx (mB x) = x ∧ rm.rmc (mB x) = 0 := by
  have hl := few_len h hp
  obtain ⟨b1, b2⟩ := mb_ok h hl
  obtain ⟨r1, r2⟩ := mb_back h
  obtain ⟨q1, q2⟩ := rm.rm_ok (l := mB x) hl r1
  exact ⟨b1, b2, q1.trans r2, q2⟩
theorem read_of {l : List UInt8} (h : rm.rmc l = 0) : l.length ≤ 20000 ∧ mok (rm.rmx l) = true ∧ mbl (rm.rmx l) = l ∧ mbc (rm.rmx l) = 0 := by
  have hq : l.length ≤ 20000 ∧ rm.rok ⟨l.toArray⟩ = true := by
    unfold rm.rmc at h
    split at h
    · cases h
    · split at h
      · assumption
      · cases h
  obtain ⟨h1, h2⟩ := hq
  obtain ⟨q1, q2⟩ := rm.rm_ok h1 h2
  obtain ⟨r1, r2⟩ := mb_forth h2
  have e : mB (rm.rmx l) = l := by rw [q1, r2]
  have hm : mok (rm.rmx l) = true := by rw [q1]; exact r1
  obtain ⟨b1, b2⟩ := mb_ok hm (by rw [e]; exact h1)
  exact ⟨h1, hm, b1.trans e, b2⟩
theorem own_reads {x : World} {B : Nat} {v : Value} {l : List UInt8} (h : ra.Own x B v l) : ow.Reads .u8 x v (rm.bz l) := by
  refine ow.reads_own (base := B) (e := 5) (n := l.length) ?_
  have : Lib.byteCells l = (rm.bz l).map (Value.int .u8) := by simp [Lib.byteCells, rm.bz]
  rw [← this]
  exact h
theorem own_conv {x : World} {B : Nat} {v : Value} {l : List UInt8} (h : ra.Own x B v l) : (convert 22 9 v).run Try.prog x = .ok (.string ⟨l.toArray⟩) x := rm.conv (own_reads h)
/-- An argument of bytes. -/
theorem row_list {w : World} {a : Option Addr} {len cap : Nat} {zs : List Int} (h : (a = none ∧ len = 0 ∧ cap = 0 ∧ zs = []) ∨
    ∃ x, a = some x ∧ len ≤ cap ∧ cap ≤ maxLen ∧ zs.length = cap ∧ (∀ i, i < zs.length → w.cell? (x.add i) = some (.int .u8 (zs.getD i 0))) ∧ ∀ n ∈ zs, (Lit.int .u8 n).wf = true) : ∃ l : List UInt8, l.length = len ∧ ow.Reads .u8 w (.slice a len cap) (rm.bz l) := by
  rcases h with ⟨rfl, rfl, rfl, rfl⟩ | ⟨x, rfl, hlc, hm, hz, hcell, hwz⟩
  · exact ⟨[], rfl, none, 0, rfl, .inl rfl⟩
  · refine ⟨(zs.take len).map fun z => UInt8.ofNat z.toNat, by simp; omega, some x, cap, by rw [rm.bz_len]; simp; omega, ?_⟩
    by_cases h0 : len = 0
    · left
      rw [h0]
      rfl
    · right
      obtain ⟨b, off, spot⟩ := x
      have hc := hcell 0 (by omega)
      have hspot : spot = none := by simpa [Addr.add] using World.cell?_spot hc
      subst hspot
      refine ⟨b, off, rfl, fun j hj => ?_⟩
      have hj' : j < len := by
        rw [rm.bz_len] at hj
        simp at hj
        omega
      have hj2 : j < zs.length := by omega
      have hb := bounds_u8 (hwz (zs.getD j 0) (by rw [List.getD_eq_getElem?_getD, List.getElem?_eq_getElem hj2]; exact List.getElem_mem hj2))
      have hcj := hcell j hj2
      rw [show ((⟨b, off, none⟩ : Addr).add j) = ⟨b, off + j, none⟩ from by simp [Addr.add]] at hcj
      rw [hcj, rm.bz_at]
      congr 2
      have e : ((zs.take len).map fun z => UInt8.ofNat z.toNat).getD j 0 = UInt8.ofNat (zs.getD j 0).toNat := by
        simp [List.getD_eq_getElem?_getD, hj2, hj']
      rw [e, UInt8.toNat_ofNat']
      omega
theorem row_bytes {w : World} {a : Option Addr} {len cap : Nat} {zs : List Int} (h : (a = none ∧ len = 0 ∧ cap = 0 ∧ zs = []) ∨
    ∃ x, a = some x ∧ len ≤ cap ∧ cap ≤ maxLen ∧ zs.length = cap ∧ (∀ i, i < zs.length → w.cell? (x.add i) = some (.int .u8 (zs.getD i 0))) ∧ ∀ n ∈ zs, (Lit.int .u8 n).wf = true) (hl : len ≤ 1048576) : se.Bytes w a len := by
  refine ⟨hl, ?_⟩
  rcases h with ⟨rfl, rfl, rfl, rfl⟩ | ⟨x, rfl, hlc, hm, hz, hcell, hwz⟩
  · exact .inl rfl
  · by_cases h0 : len = 0
    · exact .inl h0
    · right
      obtain ⟨b, off, spot⟩ := x
      have hc := hcell 0 (by omega)
      have hspot : spot = none := by simpa [Addr.add] using World.cell?_spot hc
      subst hspot
      refine ⟨b, off, rfl, fun j hj => ?_⟩
      have hj2 : j < zs.length := by omega
      have hb := bounds_u8 (hwz (zs.getD j 0) (by rw [List.getD_eq_getElem?_getD, List.getElem?_eq_getElem hj2]; exact List.getElem_mem hj2))
      refine ⟨zs.getD j 0, hb.1, hb.2, ?_⟩
      rw [← hcell j hj2]
      congr 1
      simp [Addr.add]
end Go.Proofs.Ytinnnfkhiigjpaa.mb

namespace Go.Proofs.Ytinnnfkhiigjpaa.fnMutations
open Go.ChangeShapes Go.WideShapes Go.ChangeAt Go.RowKit
open Go.ChangeMaps (open_string shut_string)
set_option linter.unusedVariables false

theorem own : ownKnob Try.prog.godebug = none := by kernel_rfl
theorem laidOut : laidOutB Try.prog = true := by kernel_rfl

/-- WHAT THE WALK IS TOLD OF A SLICE OF INTEGERS THAT CAME IN: it is nil; or it leads to a row of 'cap' cells, the numbers 'zs' (the first 'len' are its elements, the rest its spare room), each fitting its kind. -/
def IsRow (k : IntKind) (w : World) (a : Option Addr) (len cap : Nat) (zs : List Int) : Prop :=
  (a = none ∧ len = 0 ∧ cap = 0 ∧ zs = []) ∨
  ∃ x, a = some x ∧ len ≤ cap ∧ cap ≤ maxLen ∧ zs.length = cap ∧ (∀ i, i < zs.length → w.cell? (x.add i) = some (.int k (zs.getD i 0))) ∧ ∀ n ∈ zs, (Lit.int k n).wf = true

theorem walk (a0 : Option Addr) (len0 cap0 : Nat) (z0 : List Int) (a1 : Option Addr) (len1 cap1 : Nat) (z1 : List Int) (w : World) (w0 : IsRow .u8 w a0 len0 cap0 z0) (w1 : IsRow .u8 w a1 len1 cap1 z1) :
    Calls Try.prog 3 #[.slice a0 len0 cap0, .slice a1 len1 cap1] w fun e w' => e = .returned (.bool true) ∧ Below w.heap.size w w' := by
  by_cases hbig : 1048576 < len0
  · have hb : (1048576 : Int) < (len0 : Int) := by omega
    clear w0 w1
    go_enter Try.func3, Try.ntmps3
    go_wp2
    go_ret
    exact ⟨rfl, Below.refl _ _⟩
  by_cases hbig1 : 1048576 < len1
  · have hb : ¬ (1048576 : Int) < (len0 : Int) := by omega
    have hb1 : (1048576 : Int) < (len1 : Int) := by omega
    have hbd : decide ((1048576 : Int) < (len0 : Int)) = false := decide_eq_false hb
    have hbd1 : decide ((1048576 : Int) < (len1 : Int)) = true := decide_eq_true hb1
    clear w0 w1
    go_enter Try.func3, Try.ntmps3
    go_wp2
    go_ret
    exact ⟨rfl, Below.refl _ _⟩
  have hb : decide ((1048576 : Int) < (len0 : Int)) = false := decide_eq_false (by omega)
  have hb1 : decide ((1048576 : Int) < (len1 : Int)) = false := decide_eq_false (by omega)
  have HB0 : Hid (se.Bytes w a0 len0) := mb.row_bytes w0 (by omega)
  obtain ⟨l1, hl1, hr1⟩ := mb.row_list w1
  have HT1 : Hid (∀ W, Below w.heap.size w W → ow.Reads .u8 W (.slice a1 len1 cap1) (rm.bz l1)) := fun W hbel => ow.reads_keep hr1 (fun a u h => (hbel.cell (p := a) (World.block_lt_of_cell? w _ h)).trans h)
  have HL1 : Hid (l1.length ≤ 1048576) := (show l1.length ≤ 1048576 by omega)
  clear w0 w1 hr1 hl1
  go_enter Try.func3, Try.ntmps3
  go_wp2_with fail
  refine (dm.mutationOf_any w a0 len0 cap0 HB0.out).mono ?_
  rintro e x1 ⟨⟨x, v, rfl, hm, hp, hat⟩, b1⟩
  obtain ⟨q1, q2, q3, q4⟩ := mb.said_of hm hp
  have HX : Hid (mu.mok x = true ∧ mu.Small x ∧ mb.mbl x = mb.mB x ∧ mb.mbc x = 0 ∧ rm.rmx (mb.mB x) = x ∧ rm.rmc (mb.mB x) = 0 ∧ (mb.mB x).length ≤ 20000) := ⟨hm, mb.small_of hm, q1, q2, q3, q4, mb.few_len hm hp⟩
  clear hm hp q1 q2 q3 q4 HB0
  obtain ⟨va, vn, vc, rfl⟩ : ∃ a n c, v = .slice a n c := by obtain ⟨a, c, e, _⟩ := hat; exact ⟨_, _, _, e⟩
  unfold mu.MV
  have L3 := mu.lies_new x1 25 x (.slice va vn vc)
  have k3 := mu.new_below x1 25 #[.int .i64 x.k, .int .i64 x.u, .int .i64 x.m, .int .i64 x.f, .string x.b, .slice va vn vc]
  have b3 := b1.trans (k3.mono b1.size)
  have HA3 : Hid (it.AttrsAt (x1.alloc (.cells #[.int .i64 x.k, .int .i64 x.u, .int .i64 x.m, .int .i64 x.f, .string x.b, .slice va vn vc] 25)) (.slice va vn vc) x.ps) := it.at_below hat k3
  have c0 := L3.c0
  have c1 := L3.c1
  have c2 := L3.c2
  have c3 := L3.c3
  have c4 := L3.c4
  have c5 := L3.c5
  clear hat k3 b1
  go_wp2_with fail
  clear c0 c1 c2 c3 c4 c5
  obtain ⟨G5, hG5⟩ : ∃ G, G = x1.heap.size := ⟨_, rfl⟩
  rw [← hG5] at L3 ⊢
  clear hG5
  generalize x1.alloc _ = x3 at L3 b3 HA3 ⊢
  refine (mb.impl_mb x (.slice va vn vc) x3 HA3.out HX.out.2.1).mono ?_
  rintro e x4 ⟨⟨u6, rfl, ho6⟩, hb4⟩
  rw [HX.out.2.2.1] at ho6
  rw [HX.out.2.2.2.1]
  have L4 := L3.keep hb4
  have HA4 : Hid (it.AttrsAt x4 (.slice va vn vc) x.ps) := it.at_below HA3.out hb4
  have b4 := b3.trans (hb4.mono b3.size)
  have HO6 : Hid (ra.Own x4 x3.heap.size u6 (mb.mB x)) := ho6
  obtain ⟨a6, n6, k6, rfl⟩ := ra.own_form ho6
  have c0 := L4.c0
  have c1 := L4.c1
  have c2 := L4.c2
  have c3 := L4.c3
  have c4 := L4.c4
  have c5 := L4.c5
  clear ho6 hb4 L3 b3 HA3
  go_wp2_with fail
  clear c0 c1 c2 c3 c4 c5
  refine (mb.spec_mb x (.slice va vn vc) x4 HA4.out HX.out.2.1).mono ?_
  rintro e x5 ⟨⟨u8, rfl, ho8⟩, hb5⟩
  rw [HX.out.2.2.1] at ho8
  rw [HX.out.2.2.2.1]
  have L5 := L4.keep hb5
  have HA5 : Hid (it.AttrsAt x5 (.slice va vn vc) x.ps) := it.at_below HA4.out hb5
  have b5 := b4.trans (hb5.mono b4.size)
  have HO6' : Hid (ra.Own x5 x3.heap.size (.slice a6 n6 k6) (mb.mB x)) := ow.own_below HO6.out hb5
  have HO8 : Hid (ra.Own x5 x4.heap.size u8 (mb.mB x)) := ho8
  obtain ⟨a8, n8, k8, rfl⟩ := ra.own_form ho8
  clear ho8 hb5 L4 b4 HA4 HO6
  go_wp2_with fail
  refine (rm.impl_rm (.slice a6 n6 k6) (mb.mB x) x5 (mb.own_reads HO6'.out) (by have := HX.out.2.2.2.2.2.2; omega)).mono ?_
  rintro e x6 ⟨⟨u9, rfl, ho9⟩, hb6⟩
  rw [HX.out.2.2.2.2.1] at ho9 ⊢
  rw [HX.out.2.2.2.2.2.1]
  have L6 := L5.keep hb6
  have HA6 : Hid (it.AttrsAt x6 (.slice va vn vc) x.ps) := it.at_below HA5.out hb6
  have b6' := b5.trans (hb6.mono b5.size)
  have HO6 : Hid (ra.Own x6 x3.heap.size (.slice a6 n6 k6) (mb.mB x)) := ow.own_below HO6'.out hb6
  have HO8' : Hid (ra.Own x6 x4.heap.size (.slice a8 n8 k8) (mb.mB x)) := ow.own_below HO8.out hb6
  have hat9 := rm.rows_at ho9
  obtain ⟨a9, n9, k9, rfl⟩ : ∃ a n c, u9 = .slice a n c := by obtain ⟨a, c, e, _⟩ := hat9; exact ⟨_, _, _, e⟩
  unfold mu.MV
  have L7 := mu.lies_new x6 25 x (.slice a9 n9 k9)
  have k7 := mu.new_below x6 25 #[.int .i64 x.k, .int .i64 x.u, .int .i64 x.m, .int .i64 x.f, .string x.b, .slice a9 n9 k9]
  have b7 := b6'.trans (k7.mono b6'.size)
  have L6' := L6.keep k7
  have HA7 : Hid (it.AttrsAt (x6.alloc (.cells #[.int .i64 x.k, .int .i64 x.u, .int .i64 x.m, .int .i64 x.f, .string x.b, .slice a9 n9 k9] 25)) (.slice va vn vc) x.ps) := it.at_below HA6.out k7
  have HA9 : Hid (it.AttrsAt (x6.alloc (.cells #[.int .i64 x.k, .int .i64 x.u, .int .i64 x.m, .int .i64 x.f, .string x.b, .slice a9 n9 k9] 25)) (.slice a9 n9 k9) x.ps) := it.at_below hat9 k7
  obtain ⟨tt, htt⟩ : ∃ t : ByteArray, t = ⟨(mb.mB x).toArray⟩ := ⟨_, rfl⟩
  have v6 := mb.own_conv (ow.own_below (show ra.Own x6 x3.heap.size (.slice a6 n6 k6) (mb.mB x) from HO6.out) k7)
  have v8 := mb.own_conv (ow.own_below (show ra.Own x6 x4.heap.size (.slice a8 n8 k8) (mb.mB x) from HO8'.out) k7)
  rw [← htt] at v6 v8
  have ett : (tt.toList != tt.toList) = false := by simp
  have c0 := L7.c0
  have c1 := L7.c1
  have c2 := L7.c2
  have c3 := L7.c3
  have c4 := L7.c4
  have c5 := L7.c5
  have d0 := L6'.c0
  have d1 := L6'.c1
  have d2 := L6'.c2
  have d3 := L6'.c3
  have d4 := L6'.c4
  have d5 := L6'.c5
  clear htt hb6 L5 b5 HA5 HO6' HO8 ho9 L6 HA6 b6' HO6 HO8' hat9 k7
  go_wp2_with fail
  clear c0 c1 c2 c3 c4 c5 d0 d1 d2 d3 d4 d5 v6 v8 ett L7
  generalize x6.alloc _ = x7 at L6' b7 HA7 HA9 ⊢
  refine (dm.sameMut_any x (.slice a9 n9 k9) (.slice va vn vc) x7 HA9.out HA7.out HX.out.2.1).mono ?_
  rintro e x8 ⟨rfl, hb8⟩
  have L8 := L6'.keep hb8
  have HA8 : Hid (it.AttrsAt x8 (.slice va vn vc) x.ps) := it.at_below HA7.out hb8
  have b8 := b7.trans (hb8.mono b7.size)
  have d0 := L8.c0
  have d1 := L8.c1
  have d2 := L8.c2
  have d3 := L8.c3
  have d4 := L8.c4
  have d5 := L8.c5
  clear hb8 L6' b7 HA7 HA9
  go_wp2_with fail
  refine (mu.impl_mok x (.slice va vn vc) x8 HA8.out HX.out.2.1).mono ?_
  rintro e x9 ⟨rfl, hb9⟩
  rw [HX.out.1]
  have b9 := b8.trans (hb9.mono b8.size)
  clear hb9 b8 HA8 L8 d0 d1 d2 d3 d4 d5
  go_wp2_with fail
  refine (rm.impl_rm (.slice a1 len1 cap1) l1 x9 (HT1.out x9 b9) HL1.out).mono ?_
  rintro e x10 ⟨⟨u12, rfl, ho12⟩, hb10⟩
  have b10 := b9.trans (hb10.mono b9.size)
  obtain ⟨y, hy⟩ : ∃ y, y = rm.rmx l1 := ⟨_, rfl⟩
  obtain ⟨cc, hcc⟩ : ∃ c, c = rm.rmc l1 := ⟨_, rfl⟩
  have hsy := rm.rmx_small l1
  rw [← hy] at ho12 hsy ⊢
  rw [← hcc]
  have hat12 := rm.rows_at ho12
  obtain ⟨a12, n12, k12, rfl⟩ : ∃ a n c, u12 = .slice a n c := by obtain ⟨a, c, e, _⟩ := hat12; exact ⟨_, _, _, e⟩
  have HY : Hid (y = rm.rmx l1 ∧ cc = rm.rmc l1 ∧ mu.Small y) := ⟨hy, hcc, hsy⟩
  unfold mu.MV
  have L10 := mu.lies_new x10 25 y (.slice a12 n12 k12)
  have k10 := mu.new_below x10 25 #[.int .i64 y.k, .int .i64 y.u, .int .i64 y.m, .int .i64 y.f, .string y.b, .slice a12 n12 k12]
  have b11 := b10.trans (k10.mono b10.size)
  have HA12 : Hid (it.AttrsAt (x10.alloc (.cells #[.int .i64 y.k, .int .i64 y.u, .int .i64 y.m, .int .i64 y.f, .string y.b, .slice a12 n12 k12] 25)) (.slice a12 n12 k12) y.ps) := it.at_below hat12 k10
  clear hy hcc hsy ho12 hat12 hb10 b9 b10 k10
  go_wp2_with fail
  generalize x10.alloc _ = x11 at L10 b11 HA12 ⊢
  generalize x10.heap.size = G12 at L10 ⊢
  refine (rm.spec_rm (.slice a1 len1 cap1) l1 x11 (HT1.out x11 b11) HL1.out).mono ?_
  rintro e x12 ⟨⟨u14, rfl, ho14⟩, hb12⟩
  rw [← HY.out.1] at ho14 ⊢
  rw [← HY.out.2.1]
  have L12 := L10.keep hb12
  have HA12' : Hid (it.AttrsAt x12 (.slice a12 n12 k12) y.ps) := it.at_below HA12.out hb12
  have b12 := b11.trans (hb12.mono b11.size)
  obtain ⟨a14, n14, k14, rfl⟩ := (show ∃ a n c, u14 = Value.slice a n c by obtain ⟨a, c, e, _⟩ := rm.rows_at ho14; exact ⟨_, _, _, e⟩)
  unfold mu.MV
  have k12' := mu.new_below x12 25 #[.int .i64 y.k, .int .i64 y.u, .int .i64 y.m, .int .i64 y.f, .string y.b, .slice a14 n14 k14]
  have L13 := L12.keep k12'
  have b13 := b12.trans (k12'.mono b12.size)
  have HA13 : Hid (it.AttrsAt (x12.alloc (.cells #[.int .i64 y.k, .int .i64 y.u, .int .i64 y.m, .int .i64 y.f, .string y.b, .slice a14 n14 k14] 25)) (.slice a12 n12 k12) y.ps) := it.at_below HA12'.out k12'
  have ecc : (cc != cc) = false := by simp
  clear ho14 hb12 L10 b11 HA12 L12 HA12' b12 k12'
  by_cases hc0 : cc = 0
  · subst hc0
    obtain ⟨p1, p2, p3, p4⟩ := mb.read_of HY.out.2.1.symm
    rw [← HY.out.1] at p2 p3 p4
    have d0 := L13.c0
    have d1 := L13.c1
    have d2 := L13.c2
    have d3 := L13.c3
    have d4 := L13.c4
    have d5 := L13.c5
    have HP : Hid (l1.length ≤ 20000 ∧ mb.mbl y = l1 ∧ mb.mbc y = 0) := ⟨p1, p3, p4⟩
    clear p1 p2 p3 p4
    go_wp2_with fail
    generalize x12.alloc _ = x13 at L13 b13 HA13 ⊢
    clear d0 d1 d2 d3 d4 d5
    refine (mb.impl_mb y (.slice a12 n12 k12) x13 HA13.out HY.out.2.2).mono ?_
    rintro e x14 ⟨⟨u16, rfl, ho16⟩, hb14⟩
    rw [HP.out.2.1] at ho16
    rw [HP.out.2.2]
    have b14 := b13.trans (hb14.mono b13.size)
    obtain ⟨a16, n16, k16, rfl⟩ := ra.own_form ho16
    obtain ⟨tt, htt⟩ : ∃ t : ByteArray, t = ⟨l1.toArray⟩ := ⟨_, rfl⟩
    have v16 := mb.own_conv ho16
    have v1 := rm.conv (HT1.out x14 b14)
    rw [← htt] at v16 v1
    have ett : (tt.toList == tt.toList) = true := by simp
    clear ho16 hb14 b13 HA13 L13 htt
    go_wp2
    go_ret
    exact ⟨rfl, b14⟩
  · have hne : (cc != 0) = true := by rw [bne_iff_ne]; exact hc0
    clear hc0 L13
    go_wp2
    go_ret
    exact ⟨rfl, b13⟩

set_option maxRecDepth 100000 in
theorem lifted (os : Os) (started : os.Started) (H : Type) (enc : TypeId × Value → H) :
    ReturnsInHanded {} Try.checked os 3 .any (Rows.fnMutationsSpec.pre6 enc Try.prog Try.f3 Rows.fnMutationsRow.domain false) (Rows.fnMutationsSpec.post enc Try.prog Try.f3 false true false false) := by
  refine returnsInHanded_of_change (C := Try.checked) own started (by kernel_rfl) Try.func3
    (ChangeSpec.witness6 (enc := enc) (C := Try.checked) false ⟨#[], #[.slice none 0 0, .slice none 0 0], []⟩ 8 (by kernel_rfl) (by kernel_rfl) (by kernel_rfl) (by kernel_rfl)) ?_
  intro W base args ds gs before hval0 hW hcnd _
  have hval : ∀ (j : Nat) t v, Try.f3.params[j]? = some t → args[j]? = some v → Value.okWide Try.prog W .any base t v := hval0
  have hW' := hW
  obtain ⟨p, q, hA0, hV, rfl, hfz, hnd⟩ := hW
  have hA : DataW.TrodAll enc Try.prog W 0 (fun _ => true) true Try.f3.params.toList args.toList ds p := hA0
  rw [Try.params3] at hA hval
  obtain ⟨v0, vs0, d0, ds0, p0, q0, hargs, rfl, rfl, h0, r0⟩ := trodAll_cons hA
  obtain ⟨v1, vs1, d1, ds1, p1, q1, rfl, rfl, rfl, h1, r1⟩ := trodAll_cons r0
  obtain ⟨rfl, rfl, rfl⟩ := trodAll_nil r1
  obtain rfl : args = #[v0, v1] := by cases args; simp_all
  obtain ⟨rfl, rfl⟩ := trodVars_none hV
  obtain ⟨a0, len0, cap0, rfl⟩ := okWide_slice Try.underlying22 (hval 0 22 v0 rfl rfl)
  have k0 := h0
  have lt0 : ∀ x ∈ p0, x.block < W.heap.size := by obtain ⟨m, hm⟩ := k0; exact DataW.trod_lt m _ _ _ hm
  obtain ⟨z0, w0⟩ : ∃ zs, IsRow .u8 W a0 len0 cap0 zs := by
    obtain ⟨fuel, hf⟩ := h0
    rcases open_ints Try.underlying22 Try.underlying5 (by kernel_rfl) hf with ⟨hcs, _⟩ | ⟨x, l, c, zs, hcs, _, hl, hm, hz, _, hcell, hwz⟩
    · simp [Value.cells] at hcs
      obtain ⟨rfl, rfl, rfl⟩ := hcs
      exact ⟨[], .inl ⟨rfl, rfl, rfl, rfl⟩⟩
    · simp [Value.cells] at hcs
      obtain ⟨rfl, rfl, rfl⟩ := hcs
      exact ⟨zs, .inr ⟨_, rfl, hl, hm, by simpa using hz, hcell, hwz⟩⟩
  obtain ⟨a1, len1, cap1, rfl⟩ := okWide_slice Try.underlying22 (hval 1 22 v1 rfl rfl)
  have k1 := h1
  have lt1 : ∀ x ∈ p1, x.block < W.heap.size := by obtain ⟨m, hm⟩ := k1; exact DataW.trod_lt m _ _ _ hm
  obtain ⟨z1, w1⟩ : ∃ zs, IsRow .u8 W a1 len1 cap1 zs := by
    obtain ⟨fuel, hf⟩ := h1
    rcases open_ints Try.underlying22 Try.underlying5 (by kernel_rfl) hf with ⟨hcs, _⟩ | ⟨x, l, c, zs, hcs, _, hl, hm, hz, _, hcell, hwz⟩
    · simp [Value.cells] at hcs
      obtain ⟨rfl, rfl, rfl⟩ := hcs
      exact ⟨[], .inl ⟨rfl, rfl, rfl, rfl⟩⟩
    · simp [Value.cells] at hcs
      obtain ⟨rfl, rfl, rfl⟩ := hcs
      exact ⟨zs, .inr ⟨_, rfl, hl, hm, by simpa using hz, hcell, hwz⟩⟩
  clear hA0 hval0
  refine (walk a0 len0 cap0 z0 a1 len1 cap1 z1 W w0 w1).mono fun e W' ⟨he, bel⟩ => ?_
  subst he
  exact ⟨_, rfl, _, _, _, [], _, [], hW', trodAll_mk1 (shut_bool Try.underlying4 _), (trodAll_cons_mk (Below.trod laidOut (by kernel_rfl) (of_decide_eq_true (by kernel_rfl)) k0 bel lt0) (trodAll_cons_mk (Below.trod laidOut (by kernel_rfl) (of_decide_eq_true (by kernel_rfl)) k1 bel lt1) trodAll_mk0)), rfl, bel.frame _, fun h => by cases h⟩

theorem over : Rows.fnMutationsRow.holds Try.pinned (OpenSpec.ofChange Rows.fnMutationsSpec) :=
  OpenClaim.holds_of_wide 3 Try.f3 rfl rfl rfl rfl rfl rfl rfl ⟨rfl, rfl, rfl, rfl, rfl⟩ rfl rfl rfl rfl rfl (by kernel_rfl) Try.func3 (by kernel_rfl)
    (of_decide_eq_true (by kernel_rfl)) (by unfold Func.isWrapper; first | (rw [if_pos (by decide +kernel)]; kernel_rfl) | (rw [if_neg (by decide +kernel)]; exact ⟨rfl, rfl⟩))
    (fun os started H enc _ => lifted os started H enc)

theorem proved : Rows.FnMutationsSaid := over
end Go.Proofs.Ytinnnfkhiigjpaa.fnMutations
namespace Go.Proofs.Ytinnnfkhiigjpaa
theorem fnMutations_holds : Rows.FnMutationsSaid := fnMutations.proved
#print axioms fnMutations_holds
end Go.Proofs.Ytinnnfkhiigjpaa
