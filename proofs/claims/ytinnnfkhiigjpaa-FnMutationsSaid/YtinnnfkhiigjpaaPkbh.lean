/-
  The program's ReadMutation, as a whole.
  The specification's reading of a mutation, as a whole.
-/
import Derived.Test.YtinnnfkhiigjpaaPkbd
import Derived.Lib.Strings
import Derived.Test.YtinnnfkhiigjpaaPkbe
import Derived.Deep.RegionWith
import Derived.Deep.DeepCutAuto

namespace Go.Proofs.Ytinnnfkhiigjpaa.rm
open Go.RowKit
open it
set_option linter.unusedVariables false

def bz (l : List UInt8) : List Int := l.map fun b => (b.toNat : Int)
theorem bz_len (l : List UInt8) : (bz l).length = l.length := List.length_map _
theorem bz_at (l : List UInt8) (j : Nat) : (bz l).getD j 0 = ((l.getD j 0).toNat : Int) := by
  simp only [bz, List.getD_eq_getElem?_getD, List.getElem?_map]
  cases l[j]? <;> rfl
theorem conv {w : World} {v : Value} {l : List UInt8} (h : ow.Reads .u8 w v (bz l)) : (convert 22 9 v).run Try.prog w = .ok (.string ⟨l.toArray⟩) w := by
  obtain ⟨a, cap, rfl, h⟩ := h
  rw [bz_len] at h ⊢
  by_cases h0 : l = []
  · subst h0
    rw [run_convert_bytes_string w 22 9 5 _ _ _ Try.underlying22 Try.underlying5 Try.underlying9]
    cases a <;> rfl
  · rcases h with e | ⟨b, off, rfl, hc⟩
    · exact absurd (List.eq_nil_of_length_eq_zero (by have := congrArg List.length e; rwa [bz_len] at this)) h0
    · refine run_convert_bytes_back w 22 9 5 ⟨b, off, none⟩ cap l Try.underlying22 Try.underlying5 Try.underlying9 (fun j hj => ?_)
      rw [show ((⟨b, off, none⟩ : Addr).add j) = ⟨b, off + j, none⟩ from by simp [Addr.add], hc j hj, bz_at]
      simp [List.getD_eq_getElem?_getD, hj]
theorem text_size (l : List UInt8) : (⟨l.toArray⟩ : ByteArray).size = l.length := rfl

theorem empty_is {s : ByteArray} (h : s.size = 0) : s.toList.isEmpty = true := by rw [Lib.size_eq] at h; rw [Lib.toList_data, List.isEmpty_iff]; exact List.eq_nil_of_length_eq_zero h
theorem full_is {s : ByteArray} (h : ¬ s.size = 0) : s.toList.isEmpty = false := by
  cases e : s.toList.isEmpty with
  | false => rfl
  | true =>
    rw [Lib.toList_data, List.isEmpty_iff] at e
    exact absurd (by rw [Lib.size_eq, e]; rfl) h
/-- No mutation. -/
def noM : mu.Mu := ⟨0, 0, 0, 0, ⟨#[]⟩, []⟩
/-- The mutation that ReadMutation answers, and its code. -/
def rmx (l : List UInt8) : mu.Mu := if l.length ≤ 20000 ∧ rok ⟨l.toArray⟩ = true then mtn (⟨l.toArray⟩, false) else noM
def rmc (l : List UInt8) : Int := if 65536 < l.length then 2 else if l.length ≤ 20000 ∧ rok ⟨l.toArray⟩ = true then 0 else 3
theorem rm_long {l : List UInt8} (h : 65536 < l.length) : rmx l = noM ∧ rmc l = 2 := by
  refine ⟨by unfold rmx; rw [if_neg (by omega)], by unfold rmc; rw [if_pos h]⟩
theorem rm_form {l : List UInt8} (h : ¬ 65536 < l.length) (h1 : ¬ (l.length ≤ 20000 ∧ rok ⟨l.toArray⟩ = true)) : rmx l = noM ∧ rmc l = 3 := by
  refine ⟨by unfold rmx; rw [if_neg h1], by unfold rmc; rw [if_neg h, if_neg h1]⟩
theorem rm_ok {l : List UInt8} (h1 : l.length ≤ 20000) (h2 : rok ⟨l.toArray⟩ = true) : rmx l = mtn (⟨l.toArray⟩, false) ∧ rmc l = 0 := by
  refine ⟨by unfold rmx; rw [if_pos ⟨h1, h2⟩], by unfold rmc; rw [if_neg (by omega), if_pos ⟨h1, h2⟩]⟩
theorem rmx_small (l : List UInt8) : mu.Small (rmx l) := by
  unfold rmx
  split
  · exact mtn_small _
  · exact ⟨⟨⟨by decide, by decide⟩, ⟨by decide, by decide⟩, ⟨by decide, by decide⟩, ⟨by decide, by decide⟩⟩, Nat.zero_le _, Nat.zero_le _, fun j hj => absurd hj (Nat.not_lt_zero _)⟩
theorem rows_nil (w : World) (base : Nat) : Rows2 w base (.slice none 0 0) [] := World.ownsRow_nil _ _ _ _
/-- What ReadMutation answers, in memory from base on. -/
def RmRet (l : List UInt8) (base : Nat) (e : Ending) (w : World) : Prop := ∃ u, e = .returned (.tuple #[mu.MV (rmx l) u, .int .i64 (rmc l)]) ∧ Rows2 w base u (rmx l).ps
theorem ret_none {l : List UInt8} {base : Nat} {w : World} {c : Int} (h : rmx l = noM ∧ rmc l = c) : RmRet l base (.returned (.tuple #[.agg #[.int .i64 0, .int .i64 0, .int .i64 0, .int .i64 0, .string ⟨#[]⟩, .slice none 0 0], .int .i64 c])) w := by
  refine ⟨.slice none 0 0, ?_, ?_⟩
  · rw [h.1, h.2]
    rfl
  · rw [h.1]
    exact rows_nil _ _
theorem put6_below {B : Nat} {w0 w : World} {g : Nat} {a b c d e f : Value} (k : Below B w0 w) (hb : B ≤ g) : Below B w0 (put6 w g a b c d e f) :=
  (((((k.setCell (p := ⟨g, 0, none⟩) hb _).setCell (p := ⟨g, 1, none⟩) hb _).setCell (p := ⟨g, 2, none⟩) hb _).setCell (p := ⟨g, 3, none⟩) hb _).setCell (p := ⟨g, 4, none⟩) hb _).setCell (p := ⟨g, 5, none⟩) hb _
theorem B6.below {w w' : World} {g : Nat} {T : TypeId} {v0 v1 v2 v3 v4 v5 : Value} (h : B6 w g T v0 v1 v2 v3 v4 v5) (hb : Below w.heap.size w w') : B6 w' g T v0 v1 v2 v3 v4 v5 := (hb.block g h.lt).trans h

set_option maxHeartbeats 4000000 in
set_option maxRecDepth 100000 in
theorem impl_rm (v : Value) (l : List UInt8) (w : World) (h : ow.Reads .u8 w v (bz l)) (hl : l.length ≤ 1048576) :
    Calls Try.prog 7 #[v] w fun e w' => RmRet l w.heap.size e w' ∧ Below w.heap.size w w' := by
  have HR0 : Zero (w.alloc (.cells #[.int .i64 0, .int .i64 0, .int .i64 0, .int .i64 0, .string ⟨#[]⟩, .slice none 0 0] 25)) w.heap.size := (MapKept.heap_alloc w _).1
  have b0 : Below w.heap.size w (w.alloc (.cells #[.int .i64 0, .int .i64 0, .int .i64 0, .int .i64 0, .string ⟨#[]⟩, .slice none 0 0] 25)) := (Below.refl _ _).alloc (Nat.le_refl _) _
  have hk : ow.Reads .u8 (w.alloc (.cells #[.int .i64 0, .int .i64 0, .int .i64 0, .int .i64 0, .string ⟨#[]⟩, .slice none 0 0] 25)) v (bz l) := ow.reads_keep h (fun a u h => (b0.cell (p := a) (World.block_lt_of_cell? w _ h)).trans h)
  have HCV := conv hk
  obtain ⟨a, cap, rfl, _⟩ := h
  rw [bz_len] at HCV ⊢
  clear hk
  by_cases g1 : 65536 < l.length
  · have g1' : (65536 : Int) < (l.length : Int) := by omega
    have HE : Hid (rmx l = noM ∧ rmc l = 2) := rm_long g1
    go_enter Try.func7, Try.ntmps7
    go_wp2
    exact bodyPost_ret (v := .tuple #[.agg #[.int .i64 0, .int .i64 0, .int .i64 0, .int .i64 0, .string ⟨#[]⟩, .slice none 0 0], .int .i64 2]) (by simp [results, Try.results7, go_sem]) rfl ⟨ret_none HE.out, b0⟩
  have g1' : (l.length : Int) ≤ 65536 := by omega
  by_cases g2 : 20000 < l.length
  · have g2' : (20000 : Int) < (l.length : Int) := by omega
    have HE : Hid (rmx l = noM ∧ rmc l = 3) := rm_form g1 (by omega)
    go_enter Try.func7, Try.ntmps7
    go_wp2
    exact bodyPost_ret (v := .tuple #[.agg #[.int .i64 0, .int .i64 0, .int .i64 0, .int .i64 0, .string ⟨#[]⟩, .slice none 0 0], .int .i64 3]) (by simp [results, Try.results7, go_sem]) rfl ⟨ret_none HE.out, b0⟩
  have g2' : (l.length : Int) ≤ 20000 := by omega
  have HE3 : Hid (rok ⟨l.toArray⟩ = false → rmx l = noM ∧ rmc l = 3) := fun h => rm_form g1 (by rw [h]; simp)
  have HE0 : Hid (rok ⟨l.toArray⟩ = true → rmx l = mtn (⟨l.toArray⟩, false) ∧ rmc l = 0) := fun h => rm_ok (by omega) h
  have hts : (⟨l.toArray⟩ : ByteArray).size ≤ 1048576 := hl
  generalize (⟨l.toArray⟩ : ByteArray) = t at HCV HE3 HE0 hts ⊢
  have HC1 := (MapKept.heap_alloc (w.alloc (.cells #[.int .i64 0, .int .i64 0, .int .i64 0, .int .i64 0, .string ⟨#[]⟩, .slice none 0 0] 25)) (.cells #[.string t, .bool false] 42)).1
  have b1 := b0.alloc (by simp) (.cells #[.string t, .bool false] 42)
  have HR1 : Zero ((w.alloc (.cells #[.int .i64 0, .int .i64 0, .int .i64 0, .int .i64 0, .string ⟨#[]⟩, .slice none 0 0] 25)).alloc (.cells #[.string t, .bool false] 42)) w.heap.size := HR0.below ((Below.refl _ _).alloc (Nat.le_refl _) _)
  rw [show (w.alloc (.cells #[.int .i64 0, .int .i64 0, .int .i64 0, .int .i64 0, .string ⟨#[]⟩, .slice none 0 0] 25)).heap.size = w.heap.size + 1 by simp] at HC1
  clear HR0 b0
  go_enter Try.func7, Try.ntmps7
  go_wp2_with fail
  have HCT : Cut ((w.alloc (.cells #[.int .i64 0, .int .i64 0, .int .i64 0, .int .i64 0, .string ⟨#[]⟩, .slice none 0 0] 25)).alloc (.cells #[.string t, .bool false] 42)) (w.heap.size + 1) t false := HC1
  clear HC1 HCV
  generalize World.alloc _ _ = w1 at HCT HR1 b1 ⊢
  refine (mutation_any (w.heap.size + 1) (t, false) w1 HCT hts).mono ?_
  rintro e w2 ⟨u, rfl, hrw, hct, hgr⟩
  have hlt1 : w.heap.size + 1 < w1.heap.size := HCT.lt
  have R2 : Zero w2 w.heap.size := HR1.keep hgr (by omega)
  have b2 : Below w.heap.size w w2 := b1.grown hgr b1.size (fun k hk => by cases hk; omega)
  have HRW : Hid (Rows2 w2 w1.heap.size u (mtn (t, false)).ps) := hrw
  clear HCT HR1 b1 hgr hrw
  obtain ⟨av, nv, cv, rfl⟩ : ∃ a n c, u = .slice a n c := by
    rcases HRW.out.2 with ⟨rfl, _⟩ | ⟨g, cap, cur, rfl, _⟩
    · exact ⟨_, _, _, rfl⟩
    · exact ⟨_, _, _, rfl⟩
  have HSM : Hid (mu.Small (mtn (t, false))) := mtn_small _
  have HRS : Hid ((fin (t, false)).2 = true → rok t = false) := rok_short
  have HRL : Hid ((fin (t, false)).1.size ≠ 0 → rok t = false) := rok_left
  have HRY : Hid ((fin (t, false)).2 = false → (fin (t, false)).1.size = 0 → rok t = mu.mok (mtn (t, false))) := rok_yes
  generalize fin (t, false) = q at hct HRS HRL HRY
  obtain ⟨q1, q2⟩ := q
  simp only at hct HRS HRL HRY
  generalize hM : mtn (t, false) = x at HRW HSM HRY HE0 ⊢
  clear hM
  unfold mu.MV
  have LM := mu.lies_new w2 25 x (.slice av nv cv)
  have b3 := b2.trans ((mu.new_below w2 25 #[.int .i64 x.k, .int .i64 x.u, .int .i64 x.m, .int .i64 x.f, .string x.b, .slice av nv cv]).mono b2.size)
  have R3 : Zero (w2.alloc (.cells #[.int .i64 x.k, .int .i64 x.u, .int .i64 x.m, .int .i64 x.f, .string x.b, .slice av nv cv] 25)) w.heap.size := R2.below (mu.new_below _ _ _)
  have C3 : Cut (w2.alloc (.cells #[.int .i64 x.k, .int .i64 x.u, .int .i64 x.m, .int .i64 x.f, .string x.b, .slice av nv cv] 25)) (w.heap.size + 1) q1 q2 := (Below.heap_alloc _ _ _ hct.lt).trans hct
  have HRW3 : Hid (Rows2 (w2.alloc (.cells #[.int .i64 x.k, .int .i64 x.u, .int .i64 x.m, .int .i64 x.f, .string x.b, .slice av nv cv] 25)) w1.heap.size (.slice av nv cv) x.ps) := ow.own_below HRW.out (mu.new_below _ _ _)
  have HB1 : Hid (w.heap.size ≤ w1.heap.size) := (show w.heap.size ≤ w1.heap.size by omega)
  clear HRW hct R2 b2
  have c0 := C3.c0
  have c1 : (w2.alloc (.cells #[.int .i64 x.k, .int .i64 x.u, .int .i64 x.m, .int .i64 x.f, .string x.b, .slice av nv cv] 25)).cell? ⟨w.heap.size + 1, 0 + 1, none⟩ = some (.bool q2) := C3.c1
  clear C3
  cases q2
  case true =>
    have HEE : Hid (rmx l = noM ∧ rmc l = 3) := HE3.out (HRS.out rfl)
    have r0 : World.cell? (w2.alloc (.cells #[.int .i64 x.k, .int .i64 x.u, .int .i64 x.m, .int .i64 x.f, .string x.b, .slice av nv cv] 25)) ⟨w.heap.size, 0, none⟩ = _ := R3.cell 0 _ rfl
    have r1 : World.cell? (w2.alloc (.cells #[.int .i64 x.k, .int .i64 x.u, .int .i64 x.m, .int .i64 x.f, .string x.b, .slice av nv cv] 25)) ⟨w.heap.size, 0 + 1, none⟩ = _ := R3.cell 1 _ rfl
    have r2 : World.cell? (w2.alloc (.cells #[.int .i64 x.k, .int .i64 x.u, .int .i64 x.m, .int .i64 x.f, .string x.b, .slice av nv cv] 25)) ⟨w.heap.size, 0 + 2, none⟩ = _ := R3.cell 2 _ rfl
    have r3 : World.cell? (w2.alloc (.cells #[.int .i64 x.k, .int .i64 x.u, .int .i64 x.m, .int .i64 x.f, .string x.b, .slice av nv cv] 25)) ⟨w.heap.size, 0 + 3, none⟩ = _ := R3.cell 3 _ rfl
    have r4 : World.cell? (w2.alloc (.cells #[.int .i64 x.k, .int .i64 x.u, .int .i64 x.m, .int .i64 x.f, .string x.b, .slice av nv cv] 25)) ⟨w.heap.size, 0 + 4, none⟩ = _ := R3.cell 4 _ rfl
    have r5 : World.cell? (w2.alloc (.cells #[.int .i64 x.k, .int .i64 x.u, .int .i64 x.m, .int .i64 x.f, .string x.b, .slice av nv cv] 25)) ⟨w.heap.size, 0 + 5, none⟩ = _ := R3.cell 5 _ rfl
    have fz := R3.f
    clear LM HE3 HRS
    go_wp2
    have A5 := R3.put (a := .int .i64 0) (b := .int .i64 0) (c := .int .i64 0) (d := .int .i64 0) (e := .string ⟨#[]⟩) (f := .slice none 0 0)
    have b5 := put6_below (g := w.heap.size) (a := .int .i64 0) (b := .int .i64 0) (c := .int .i64 0) (d := .int .i64 0) (e := .string ⟨#[]⟩) (f := .slice none 0 0) b3 (Nat.le_refl _)
    change bodyPost _ _ _ _ _ (put6 (w2.alloc (.cells #[.int .i64 x.k, .int .i64 x.u, .int .i64 x.m, .int .i64 x.f, .string x.b, .slice av nv cv] 25)) w.heap.size (.int .i64 0) (.int .i64 0) (.int .i64 0) (.int .i64 0) (.string ⟨#[]⟩) (.slice none 0 0))
    generalize put6 _ _ _ _ _ _ _ _ = W5 at A5 b5 ⊢
    have d0 : W5.cell? ⟨w.heap.size, 0, none⟩ = _ := A5.cell 0 _ rfl
    have d1 : W5.cell? ⟨w.heap.size, 0 + 1, none⟩ = _ := A5.cell 1 _ rfl
    have d2 : W5.cell? ⟨w.heap.size, 0 + 2, none⟩ = _ := A5.cell 2 _ rfl
    have d3 : W5.cell? ⟨w.heap.size, 0 + 3, none⟩ = _ := A5.cell 3 _ rfl
    have d4 : W5.cell? ⟨w.heap.size, 0 + 4, none⟩ = _ := A5.cell 4 _ rfl
    have d5 : W5.cell? ⟨w.heap.size, 0 + 5, none⟩ = _ := A5.cell 5 _ rfl
    exact bodyPost_ret (v := .tuple #[.agg #[.int .i64 0, .int .i64 0, .int .i64 0, .int .i64 0, .string ⟨#[]⟩, .slice none 0 0], .int .i64 3]) (by simp [results, Try.results7, go_sem, d0, d1, d2, d3, d4, d5]) rfl ⟨ret_none HEE.out, b5⟩
  by_cases hq : q1.size = 0
  case neg =>
    have HEE : Hid (rmx l = noM ∧ rmc l = 3) := HE3.out (HRL.out hq)
    have hem := full_is hq
    have r0 : World.cell? (w2.alloc (.cells #[.int .i64 x.k, .int .i64 x.u, .int .i64 x.m, .int .i64 x.f, .string x.b, .slice av nv cv] 25)) ⟨w.heap.size, 0, none⟩ = _ := R3.cell 0 _ rfl
    have r1 : World.cell? (w2.alloc (.cells #[.int .i64 x.k, .int .i64 x.u, .int .i64 x.m, .int .i64 x.f, .string x.b, .slice av nv cv] 25)) ⟨w.heap.size, 0 + 1, none⟩ = _ := R3.cell 1 _ rfl
    have r2 : World.cell? (w2.alloc (.cells #[.int .i64 x.k, .int .i64 x.u, .int .i64 x.m, .int .i64 x.f, .string x.b, .slice av nv cv] 25)) ⟨w.heap.size, 0 + 2, none⟩ = _ := R3.cell 2 _ rfl
    have r3 : World.cell? (w2.alloc (.cells #[.int .i64 x.k, .int .i64 x.u, .int .i64 x.m, .int .i64 x.f, .string x.b, .slice av nv cv] 25)) ⟨w.heap.size, 0 + 3, none⟩ = _ := R3.cell 3 _ rfl
    have r4 : World.cell? (w2.alloc (.cells #[.int .i64 x.k, .int .i64 x.u, .int .i64 x.m, .int .i64 x.f, .string x.b, .slice av nv cv] 25)) ⟨w.heap.size, 0 + 4, none⟩ = _ := R3.cell 4 _ rfl
    have r5 : World.cell? (w2.alloc (.cells #[.int .i64 x.k, .int .i64 x.u, .int .i64 x.m, .int .i64 x.f, .string x.b, .slice av nv cv] 25)) ⟨w.heap.size, 0 + 5, none⟩ = _ := R3.cell 5 _ rfl
    have fz := R3.f
    clear LM HE3 HRS hq
    go_wp2
    have A5 := R3.put (a := .int .i64 0) (b := .int .i64 0) (c := .int .i64 0) (d := .int .i64 0) (e := .string ⟨#[]⟩) (f := .slice none 0 0)
    have b5 := put6_below (g := w.heap.size) (a := .int .i64 0) (b := .int .i64 0) (c := .int .i64 0) (d := .int .i64 0) (e := .string ⟨#[]⟩) (f := .slice none 0 0) b3 (Nat.le_refl _)
    change bodyPost _ _ _ _ _ (put6 (w2.alloc (.cells #[.int .i64 x.k, .int .i64 x.u, .int .i64 x.m, .int .i64 x.f, .string x.b, .slice av nv cv] 25)) w.heap.size (.int .i64 0) (.int .i64 0) (.int .i64 0) (.int .i64 0) (.string ⟨#[]⟩) (.slice none 0 0))
    generalize put6 _ _ _ _ _ _ _ _ = W5 at A5 b5 ⊢
    have d0 : W5.cell? ⟨w.heap.size, 0, none⟩ = _ := A5.cell 0 _ rfl
    have d1 : W5.cell? ⟨w.heap.size, 0 + 1, none⟩ = _ := A5.cell 1 _ rfl
    have d2 : W5.cell? ⟨w.heap.size, 0 + 2, none⟩ = _ := A5.cell 2 _ rfl
    have d3 : W5.cell? ⟨w.heap.size, 0 + 3, none⟩ = _ := A5.cell 3 _ rfl
    have d4 : W5.cell? ⟨w.heap.size, 0 + 4, none⟩ = _ := A5.cell 4 _ rfl
    have d5 : W5.cell? ⟨w.heap.size, 0 + 5, none⟩ = _ := A5.cell 5 _ rfl
    exact bodyPost_ret (v := .tuple #[.agg #[.int .i64 0, .int .i64 0, .int .i64 0, .int .i64 0, .string ⟨#[]⟩, .slice none 0 0], .int .i64 3]) (by simp [results, Try.results7, go_sem, d0, d1, d2, d3, d4, d5]) rfl ⟨ret_none HEE.out, b5⟩
  have hem := empty_is hq
  have HRK : Hid (rok t = mu.mok x) := HRY.out rfl hq
  clear HRY HRL HRS hq
  go_wp2_with fail
  obtain ⟨G, hG⟩ : ∃ G, G = w2.heap.size := ⟨_, rfl⟩
  rw [← hG] at LM ⊢
  clear hG
  generalize w2.alloc _ = W3 at LM b3 R3 HRW3 c0 c1 ⊢
  have HAT : Hid (AttrsAt W3 (.slice av nv cv) x.ps) := rows_at HRW3.out
  refine (mu.impl_mok x _ W3 HAT.out HSM.out).mono ?_
  rintro e w4 ⟨rfl, hb4⟩
  have LM4 := LM.keep hb4
  have R4 : Zero w4 w.heap.size := R3.below hb4
  have b4 := b3.trans (hb4.mono b3.size)
  have HRW4 : Hid (Rows2 w4 w1.heap.size (.slice av nv cv) x.ps) := ow.own_below HRW3.out hb4
  clear LM R3 b3 HRW3 hb4 HAT c0 c1 HSM
  rw [HRK.out] at HE3 HE0
  generalize mu.mok x = ok at HE3 HE0 ⊢
  cases ok
  case false =>
    have R3 := R4
    have b3 := b4
    have HEE : Hid (rmx l = noM ∧ rmc l = 3) := HE3.out rfl
    have r0 : World.cell? w4 ⟨w.heap.size, 0, none⟩ = _ := R3.cell 0 _ rfl
    have r1 : World.cell? w4 ⟨w.heap.size, 0 + 1, none⟩ = _ := R3.cell 1 _ rfl
    have r2 : World.cell? w4 ⟨w.heap.size, 0 + 2, none⟩ = _ := R3.cell 2 _ rfl
    have r3 : World.cell? w4 ⟨w.heap.size, 0 + 3, none⟩ = _ := R3.cell 3 _ rfl
    have r4 : World.cell? w4 ⟨w.heap.size, 0 + 4, none⟩ = _ := R3.cell 4 _ rfl
    have r5 : World.cell? w4 ⟨w.heap.size, 0 + 5, none⟩ = _ := R3.cell 5 _ rfl
    have fz := R3.f
    clear HE3 LM4
    go_wp2
    have A5 := R3.put (a := .int .i64 0) (b := .int .i64 0) (c := .int .i64 0) (d := .int .i64 0) (e := .string ⟨#[]⟩) (f := .slice none 0 0)
    have b5 := put6_below (g := w.heap.size) (a := .int .i64 0) (b := .int .i64 0) (c := .int .i64 0) (d := .int .i64 0) (e := .string ⟨#[]⟩) (f := .slice none 0 0) b3 (Nat.le_refl _)
    change bodyPost _ _ _ _ _ (put6 w4 w.heap.size (.int .i64 0) (.int .i64 0) (.int .i64 0) (.int .i64 0) (.string ⟨#[]⟩) (.slice none 0 0))
    generalize put6 _ _ _ _ _ _ _ _ = W5 at A5 b5 ⊢
    have d0 : W5.cell? ⟨w.heap.size, 0, none⟩ = _ := A5.cell 0 _ rfl
    have d1 : W5.cell? ⟨w.heap.size, 0 + 1, none⟩ = _ := A5.cell 1 _ rfl
    have d2 : W5.cell? ⟨w.heap.size, 0 + 2, none⟩ = _ := A5.cell 2 _ rfl
    have d3 : W5.cell? ⟨w.heap.size, 0 + 3, none⟩ = _ := A5.cell 3 _ rfl
    have d4 : W5.cell? ⟨w.heap.size, 0 + 4, none⟩ = _ := A5.cell 4 _ rfl
    have d5 : W5.cell? ⟨w.heap.size, 0 + 5, none⟩ = _ := A5.cell 5 _ rfl
    exact bodyPost_ret (v := .tuple #[.agg #[.int .i64 0, .int .i64 0, .int .i64 0, .int .i64 0, .string ⟨#[]⟩, .slice none 0 0], .int .i64 3]) (by simp [results, Try.results7, go_sem, d0, d1, d2, d3, d4, d5]) rfl ⟨ret_none HEE.out, b5⟩
  have HEE : Hid (rmx l = x ∧ rmc l = 0) := HE0.out rfl
  have m0 := LM4.c0
  have m1 := LM4.c1
  have m2 := LM4.c2
  have m3 := LM4.c3
  have m4 := LM4.c4
  have m5 := LM4.c5
  have r0 : World.cell? w4 ⟨w.heap.size, 0, none⟩ = _ := R4.cell 0 _ rfl
  have r1 : World.cell? w4 ⟨w.heap.size, 0 + 1, none⟩ = _ := R4.cell 1 _ rfl
  have r2 : World.cell? w4 ⟨w.heap.size, 0 + 2, none⟩ = _ := R4.cell 2 _ rfl
  have r3 : World.cell? w4 ⟨w.heap.size, 0 + 3, none⟩ = _ := R4.cell 3 _ rfl
  have r4 : World.cell? w4 ⟨w.heap.size, 0 + 4, none⟩ = _ := R4.cell 4 _ rfl
  have r5 : World.cell? w4 ⟨w.heap.size, 0 + 5, none⟩ = _ := R4.cell 5 _ rfl
  have fz := R4.f
  clear LM4 HE3 HE0
  go_wp2
  have A5 := R4.put (a := .int .i64 x.k) (b := .int .i64 x.u) (c := .int .i64 x.m) (d := .int .i64 x.f) (e := .string x.b) (f := .slice av nv cv)
  have b5 := put6_below (g := w.heap.size) (a := .int .i64 x.k) (b := .int .i64 x.u) (c := .int .i64 x.m) (d := .int .i64 x.f) (e := .string x.b) (f := .slice av nv cv) b4 (Nat.le_refl _)
  have HRW5 : Rows2 (put6 w4 w.heap.size (.int .i64 x.k) (.int .i64 x.u) (.int .i64 x.m) (.int .i64 x.f) (.string x.b) (.slice av nv cv)) w.heap.size (.slice av nv cv) x.ps := own_low (HRW4.out.kept (put6_grown _ _ _ _ _ _ _ _) (own_ne HRW4.out (by omega))) HB1.out
  change bodyPost _ _ _ _ _ (put6 w4 w.heap.size (.int .i64 x.k) (.int .i64 x.u) (.int .i64 x.m) (.int .i64 x.f) (.string x.b) (.slice av nv cv))
  generalize put6 _ _ _ _ _ _ _ _ = W5 at A5 b5 HRW5 ⊢
  have d0 : W5.cell? ⟨w.heap.size, 0, none⟩ = _ := A5.cell 0 _ rfl
  have d1 : W5.cell? ⟨w.heap.size, 0 + 1, none⟩ = _ := A5.cell 1 _ rfl
  have d2 : W5.cell? ⟨w.heap.size, 0 + 2, none⟩ = _ := A5.cell 2 _ rfl
  have d3 : W5.cell? ⟨w.heap.size, 0 + 3, none⟩ = _ := A5.cell 3 _ rfl
  have d4 : W5.cell? ⟨w.heap.size, 0 + 4, none⟩ = _ := A5.cell 4 _ rfl
  have d5 : W5.cell? ⟨w.heap.size, 0 + 5, none⟩ = _ := A5.cell 5 _ rfl
  exact bodyPost_ret (v := .tuple #[.agg #[.int .i64 x.k, .int .i64 x.u, .int .i64 x.m, .int .i64 x.f, .string x.b, .slice av nv cv], .int .i64 0]) (by simp [results, Try.results7, go_sem, d0, d1, d2, d3, d4, d5]) rfl ⟨⟨_, by rw [HEE.out.1, HEE.out.2]; rfl, by rw [HEE.out.1]; exact HRW5⟩, b5⟩
end Go.Proofs.Ytinnnfkhiigjpaa.rm

namespace Go.Proofs.Ytinnnfkhiigjpaa.rm
open Go.RowKit Go.Deep
open it
set_option linter.unusedVariables false

/-- A row of items and a variable of a mutation lie apart. -/
theorem row_var {x : World} {base M : Nat} {v : Value} {ps : List Pr} {v0 v1 v2 v3 v4 v5 : Value} (h : Rows2 x base v ps) (hB : B6 x M 25 v0 v1 v2 v3 v4 v5) : v.ownBlock ≠ some M := by
  intro hk
  rcases h.2 with ⟨rfl, _⟩ | ⟨g, cap, cur, rfl, _, hb, _⟩
  · simp [Value.ownBlock] at hk
  · have e : g = M := by simpa [Value.ownBlock] using hk
    subst e
    unfold B6 at hB
    rw [hB] at hb
    simp at hb
theorem wrap64_nat {n : Nat} (h : n < 4294967296) : IntKind.i64.wrap (n : Int) = (n : Int) := by
  simp only [IntKind.wrap, IntKind.bits, IntKind.signed]
  simp
  omega
/-- Where the items begin. -/
structure Hd where
  k0 : Nat
  k1 : Nat
  k2 : Nat
  k5 : Nat
  b : ByteArray
/-- The variable of the mutation that is read, and the one of the answer. -/
def Var (w x : World) (M : Nat) (p : Hd) (v : Value) (ps : List Pr) : Prop :=
  B6 x M 25 (.int .i64 p.k0) (.int .i64 p.k5) (.int .i64 p.k1) (.int .i64 p.k2) (.string p.b) v ∧ Zero x w.heap.size ∧ Rows2 x (w.heap.size + 1) v ps ∧ Below w.heap.size w x ∧ w.heap.size < M

set_option maxHeartbeats 4000000 in
set_option maxRecDepth 100000 in
theorem read_few (t : ByteArray) (w : World) (g1 : t.size < 7) :
    Calls Try.prog 21 #[.string t] w fun e w' => (∃ x u, e = .returned (.tuple #[mu.MV x u, .bool (rok t)]) ∧ (rok t = true → x = mtn (t, false)) ∧ Rows2 w' w.heap.size u x.ps) ∧ Below w.heap.size w w' := by
  have b0 : Below w.heap.size w (w.alloc (.cells #[.int .i64 0, .int .i64 0, .int .i64 0, .int .i64 0, .string ⟨#[]⟩, .slice none 0 0] 25)) := (Below.refl _ _).alloc (Nat.le_refl _) _
  have HK : Hid (rok t = false) := rok_few g1
  have g1' : (t.size : Int) < 7 := by omega
  go_enter Try.func21, Try.ntmps21
  go_wp2
  exact bodyPost_ret (v := .tuple #[.agg #[.int .i64 0, .int .i64 0, .int .i64 0, .int .i64 0, .string ⟨#[]⟩, .slice none 0 0], .bool false]) (by simp [results, Try.results21, go_sem]) rfl ⟨⟨noM, _, by rw [HK.out]; rfl, fun h => (by rw [HK.out] at h; cases h), rows_nil _ _⟩, b0⟩

set_option maxHeartbeats 4000000 in
set_option maxRecDepth 100000 in
theorem read_name (t : ByteArray) (w : World) (ht : t.size ≤ 1048576) (g1 : 7 ≤ t.size) (g2 : t.size < 7 + (t[4]).toNat) :
    Calls Try.prog 21 #[.string t] w fun e w' => (∃ x u, e = .returned (.tuple #[mu.MV x u, .bool (rok t)]) ∧ (rok t = true → x = mtn (t, false)) ∧ Rows2 w' w.heap.size u x.ps) ∧ Below w.heap.size w w' := by
  have b0 : Below w.heap.size w (w.alloc (.cells #[.int .i64 0, .int .i64 0, .int .i64 0, .int .i64 0, .string ⟨#[]⟩, .slice none 0 0] 25)) := (Below.refl _ _).alloc (Nat.le_refl _) _
  have HK : Hid (rok t = false) := rok_name g1 g2
  have g1' : (7 : Int) ≤ (t.size : Int) := by omega
  have x4 : (4 : Nat) < t.size := by omega
  have q4 : (t[4]).toNat < 256 := (t[4]).toNat_lt
  have g2' : (t.size : Int) < 7 + ((t[4]).toNat : Int) := by omega
  go_enter Try.func21, Try.ntmps21
  go_wp2
  exact bodyPost_ret (v := .tuple #[.agg #[.int .i64 0, .int .i64 0, .int .i64 0, .int .i64 0, .string ⟨#[]⟩, .slice none 0 0], .bool false]) (by simp [results, Try.results21, go_sem]) rfl ⟨⟨noM, _, by rw [HK.out]; rfl, fun h => (by rw [HK.out] at h; cases h), rows_nil _ _⟩, b0⟩
end Go.Proofs.Ytinnnfkhiigjpaa.rm
