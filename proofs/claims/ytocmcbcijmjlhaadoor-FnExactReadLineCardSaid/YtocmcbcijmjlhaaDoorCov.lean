/-
  A console's line read: the specification's ReadLine.
-/
import Derived.Test.YtocmcbcijmjlhaaDoorCou
namespace Go.Proofs.YtocmcbcijmjlhaaDoor.nu
open Go.RowKit
/-- The two sentinels that strconv's faults hold. -/
abbrev Sents (w : World) : Prop := cn.Sents w
end Go.Proofs.YtocmcbcijmjlhaaDoor.nu
namespace Go.Proofs.YtocmcbcijmjlhaaDoor.cn
open Go.RowKit
open sp nu
set_option linter.unusedVariables false

theorem sread_any (l : List UInt8) (hl : l.length ≤ 1048576) (w : World) (b n cap : Nat) (h0 : wd l ≠ []) (hn : n = (wds l).length) (c0 : w.cell? ⟨b, 0, none⟩ = some (.string ⟨(wd l).toArray⟩)) (c1 : 2 ≤ n → w.cell? ⟨b, 1, none⟩ = some (.string ⟨(wd (rs l)).toArray⟩)) :
    Calls Tryd.prog 8 #[.string ⟨l.toArray⟩, .slice (some ⟨b, 0, none⟩) n cap] w fun e w' => SpRet l e ∧ Below w.heap.size w w' := by
  by_cases q0 : wd l = [109, 97, 107, 101]
  · exact sread_make l hl w b n cap h0 q0 hn c0 c1
  by_cases q1 : wd l = [112, 111, 108, 108]
  · exact sread_poll l hl w b n cap h0 q1 hn c0 c1
  by_cases q2 : wd l = [105, 109, 97, 112]
  · exact sread_imap l hl w b n cap h0 q2 hn c0 c1
  by_cases q3 : wd l = [110, 110, 116, 112]
  · exact sread_nntp l hl w b n cap h0 q3 hn c0 c1
  by_cases q4 : wd l = [99, 108, 111, 115, 101]
  · exact sread_close l hl w b n cap h0 q4 hn c0 c1
  by_cases q5 : wd l = [115, 97, 121]
  · exact sread_say l hl w b n cap h0 q5 hn c0 c1
  by_cases q6 : wd l = [99, 114, 97, 115, 104]
  · exact sread_crash l hl w b n cap h0 q6 hn c0 c1
  exact sread_other l hl w b n cap h0 q0 q1 q2 q3 q4 q5 q6 hn c0 c1
theorem wds_nil {l : List UInt8} (h : wd l = []) : wds l = [] := by rw [wds_eq, if_pos h]
theorem wds_cons {l : List UInt8} (h : wd l ≠ []) : wds l = wd l :: wds (rs l) := by rw [wds_eq, if_neg h]
theorem own_slice {w : World} {B e s n : Nat} {v : Value} {xs : List Value} (h : w.ownsRow B e s v n xs) : ∃ a c, v = .slice a n c := by
  rcases h.2 with ⟨rfl, h0⟩ | ⟨g, cap, cur, rfl, _⟩
  · exact ⟨none, 0, by rw [h0]⟩
  · exact ⟨_, _, rfl⟩
theorem ev_nil {l : List UInt8} (h : wd l = []) : evI l = none := by unfold evI; rw [if_pos h]
/-- The words as cells. -/
theorem words_cells {l : List UInt8} (h : wd l ≠ []) {v : Value} {w : World} (hw : WordsAt (wds l) v w) : ∃ b cap, v = .slice (some ⟨b, 0, none⟩) (wds l).length cap ∧ b < w.heap.size ∧ w.cell? ⟨b, 0, none⟩ = some (.string ⟨(wd l).toArray⟩) ∧ (2 ≤ (wds l).length → w.cell? ⟨b, 1, none⟩ = some (.string ⟨(wd (rs l)).toArray⟩)) := by
  obtain ⟨b, cap, rfl, hb, hc⟩ := hw
  refine ⟨b, cap, rfl, hb, ?_, fun h2 => ?_⟩
  · have := hc 0 (by rw [wds_cons h]; simp)
    rw [this, wds_cons h]
    rfl
  · have := hc 1 h2
    rw [wds_cons h] at h2
    by_cases g : wd (rs l) = []
    · rw [wds_nil g] at h2
      simp at h2
    · rw [this, wds_cons h, wds_cons g]
      rfl

set_option maxHeartbeats 4000000 in
set_option maxRecDepth 100000 in
theorem srl_any (s : ByteArray) (w : World) (hs : s.size ≤ 1048576) :
    Calls Tryd.prog 4 #[.string s] w fun e w' => LineRet s.data.toList e ∧ Below w.heap.size w w' := by
  by_cases hl : 32768 < s.size
  · have hl' : (32768 : Int) < (s.size : Int) := by omega
    have HL : Hid (32768 < s.data.toList.length) := by rw [← Lib.size_eq]; exact hl
    go_enter Tryd.func4, Tryd.ntmps4
    go_wp2
    exact bodyPost_ret (v := .tuple #[EvV 0 0 [] [], .int .i64 2]) (by simp [results, Tryd.results4, go_sem, EvV]) rfl ⟨.inl ⟨HL.out, rfl⟩, (Below.refl _ w).alloc (Nat.le_refl _) _⟩
  have hl' : decide ((32768 : Int) < (s.size : Int)) = false := decide_eq_false (by omega)
  have HL : Hid (s.data.toList.length ≤ 32768) := by rw [← Lib.size_eq]; exact Nat.le_of_not_lt hl
  have HW : Hid (∀ W, Calls Tryd.prog 7 #[.string s] W fun e w' => ∃ v, e = .returned v ∧ w'.ownsRow W.heap.size 9 1 v (wds s.data.toList).length ((wds s.data.toList).map tv) ∧ Below W.heap.size W w') := fun W => words_any s W hs
  have HN : Hid (∀ W, W = w.alloc (.cells #[.int .i64 0, .int .i64 0, .int .i64 0, .string ⟨#[]⟩, .string ⟨#[]⟩] 23) → Ec W w.heap.size 0 0 [] [] ∧ Below w.heap.size w W ∧ W.heap.size = w.heap.size + 1) := fun W hW => by
    subst hW
    exact ⟨(MapKept.heap_alloc w _).1, (Below.refl _ w).alloc (Nat.le_refl _) _, by simp⟩
  clear hl
  go_enter Tryd.func4, Tryd.ntmps4
  go_wp2_with fail
  have N := HN.out _ rfl
  generalize World.alloc _ _ = W at N ⊢
  obtain ⟨hE, hB, hsz⟩ := N
  refine (HW.out W).mono ?_
  rintro e w1 ⟨v, rfl, hown, hb1⟩
  have HE1 : Hid (Ec w1 w.heap.size 0 0 [] []) := (hb1.block _ (by omega)).trans hE
  have HB1 : Hid (Below w.heap.size w w1) := hB.trans (hb1.mono (by omega))
  have HS1 : Hid (w.heap.size + 1 ≤ w1.heap.size) := by show _ ≤ _; have := hb1.size; omega
  clear HW HN hE hB hsz
  by_cases h0 : wd s.data.toList = []
  · rw [wds_nil h0] at hown
    have HX : Hid (LineRet s.data.toList (.returned (.tuple #[EvV 0 0 [] [], .int .i64 3]))) := .inr ⟨HL.out, by rw [ev_nil h0]⟩
    obtain ⟨a, cap, rfl⟩ := own_slice hown
    have c0 := HE1.out.c0
    have c1 := HE1.out.c1
    have c2 := HE1.out.c2
    have c3 := HE1.out.c3
    have c4 := HE1.out.c4
    have f0 := HE1.out.f 0
    have f1 := HE1.out.f 1
    have f2 := HE1.out.f 2
    have f3 := HE1.out.f 3
    have f4 := HE1.out.f 4
    clear hown h0 HL hb1
    go_wp2
    have gE : Ec (putE w1 w.heap.size 0 0 [] []) w.heap.size 0 0 [] [] := HE1.out.put
    have gB : Below w.heap.size w (putE w1 w.heap.size 0 0 [] []) := putE_below HB1.out (Nat.le_refl _)
    change bodyPost _ _ _ _ _ (putE w1 w.heap.size 0 0 [] [])
    generalize putE w1 w.heap.size 0 0 [] [] = W2 at gE gB ⊢
    have y0 := gE.c0
    have y1 := gE.c1
    have y2 := gE.c2
    have y3 := gE.c3
    have y4 := gE.c4
    exact bodyPost_ret (v := .tuple #[EvV 0 0 [] [], .int .i64 3]) (by simp [results, Tryd.results4, go_sem, EvV, y0, y1, y2, y3, y4]) rfl ⟨HX.out, gB⟩
  obtain ⟨b, cap, rfl, hb, k0, k1⟩ := words_cells h0 (words_own hown (by rw [wds_cons h0]; simp))
  have HR : Hid (Calls Tryd.prog 8 #[.string s, .slice (some ⟨b, 0, none⟩) (wds s.data.toList).length cap] w1 fun e w' => SpRet s.data.toList e ∧ Below w1.heap.size w1 w') := sread_any s.data.toList (by have := HL.out; omega) w1 b _ cap h0 rfl k0 k1
  have hq : (((wds s.data.toList).length : Int) == 0) = false := beq_eq_false_iff_ne.2 (by rw [wds_cons h0]; simp; omega)
  generalize (wds s.data.toList).length = n at HR hq
  clear k0 k1 hb h0 hown hb1
  go_wp2_with fail
  refine HR.out.mono ?_
  rintro e w2 ⟨hr, hb2⟩
  have HE2 : Hid (Ec w2 w.heap.size 0 0 [] []) := (hb2.block _ (by have := HS1.out; omega)).trans HE1.out
  have HB2 : Hid (Below w.heap.size w w2) := HB1.out.trans (hb2.mono (by have := HS1.out; omega))
  have HS2 : Hid (w.heap.size < w2.heap.size) := by show _ < _; have := hb2.size; have := HS1.out; omega
  clear HE1 HB1 HS1 HR hb2
  rcases hr with ⟨v, rfl, ⟨k, c, x, d, rfl⟩, hev⟩ | ⟨k, c, x, d, rfl, hev⟩
  · have HX : Hid (LineRet s.data.toList (.returned (.tuple #[EvV 0 0 [] [], .int .i64 3]))) := .inr ⟨HL.out, by rw [hev]⟩
    unfold EvV at HX ⊢
    have HE3 : ∀ o, Ec (w2.alloc o) w.heap.size 0 0 [] [] := fun o => (Below.heap_alloc _ _ _ HS2.out).trans HE2.out
    have HB3 : Hid (Below w.heap.size w (w2.alloc (.cells #[.int .i64 k, .int .i64 c, .int .i64 0, .string ⟨x.toArray⟩, .string ⟨d.toArray⟩] 23))) := HB2.out.alloc (Nat.le_of_lt HS2.out) _
    have c0 := fun o => (HE3 o).c0
    have c1 := fun o => (HE3 o).c1
    have c2 := fun o => (HE3 o).c2
    have c3 := fun o => (HE3 o).c3
    have c4 := fun o => (HE3 o).c4
    have f0 := fun o => (HE3 o).f 0
    have f1 := fun o => (HE3 o).f 1
    have f2 := fun o => (HE3 o).f 2
    have f3 := fun o => (HE3 o).f 3
    have f4 := fun o => (HE3 o).f 4
    have gE : Ec (putE (w2.alloc (.cells #[.int .i64 k, .int .i64 c, .int .i64 0, .string ⟨x.toArray⟩, .string ⟨d.toArray⟩] 23)) w.heap.size 0 0 [] []) w.heap.size 0 0 [] [] := (HE3 _).put
    have gB : Below w.heap.size w (putE (w2.alloc (.cells #[.int .i64 k, .int .i64 c, .int .i64 0, .string ⟨x.toArray⟩, .string ⟨d.toArray⟩] 23)) w.heap.size 0 0 [] []) := putE_below HB3.out (Nat.le_refl _)
    have HG : Hid (Ec (putE (w2.alloc (.cells #[.int .i64 k, .int .i64 c, .int .i64 0, .string ⟨x.toArray⟩, .string ⟨d.toArray⟩] 23)) w.heap.size 0 0 [] []) w.heap.size 0 0 [] [] ∧ Below w.heap.size w (putE (w2.alloc (.cells #[.int .i64 k, .int .i64 c, .int .i64 0, .string ⟨x.toArray⟩, .string ⟨d.toArray⟩] 23)) w.heap.size 0 0 [] [])) := ⟨gE, gB⟩
    clear hev gE gB HE3 HB3
    go_wp2
    obtain ⟨gE, gB⟩ := HG.out
    change bodyPost _ _ _ _ _ (putE (w2.alloc (.cells #[.int .i64 k, .int .i64 c, .int .i64 0, .string ⟨x.toArray⟩, .string ⟨d.toArray⟩] 23)) w.heap.size 0 0 [] [])
    generalize putE _ _ _ _ _ _ = W2 at gE gB ⊢
    have y0 := gE.c0
    have y1 := gE.c1
    have y2 := gE.c2
    have y3 := gE.c3
    have y4 := gE.c4
    exact bodyPost_ret (v := .tuple #[.agg #[.int .i64 0, .int .i64 0, .int .i64 0, .string ⟨([] : List UInt8).toArray⟩, .string ⟨([] : List UInt8).toArray⟩], .int .i64 3]) (by simp [results, Tryd.results4, go_sem, y0, y1, y2, y3, y4]) rfl ⟨HX.out, gB⟩
  · have HX : Hid (LineRet s.data.toList (.returned (.tuple #[EvV k c x d, .int .i64 0]))) := .inr ⟨HL.out, by rw [hev]⟩
    unfold EvV at HX ⊢
    have HE3 : ∀ o, Ec (w2.alloc o) w.heap.size 0 0 [] [] := fun o => (Below.heap_alloc _ _ _ HS2.out).trans HE2.out
    have HB3 : Hid (Below w.heap.size w (w2.alloc (.cells #[.int .i64 k, .int .i64 c, .int .i64 0, .string ⟨x.toArray⟩, .string ⟨d.toArray⟩] 23))) := HB2.out.alloc (Nat.le_of_lt HS2.out) _
    have c0 := fun o => (HE3 o).c0
    have c1 := fun o => (HE3 o).c1
    have c2 := fun o => (HE3 o).c2
    have c3 := fun o => (HE3 o).c3
    have c4 := fun o => (HE3 o).c4
    have f0 := fun o => (HE3 o).f 0
    have f1 := fun o => (HE3 o).f 1
    have f2 := fun o => (HE3 o).f 2
    have f3 := fun o => (HE3 o).f 3
    have f4 := fun o => (HE3 o).f 4
    have gE : Ec (putE (w2.alloc (.cells #[.int .i64 k, .int .i64 c, .int .i64 0, .string ⟨x.toArray⟩, .string ⟨d.toArray⟩] 23)) w.heap.size k c x d) w.heap.size k c x d := (HE3 _).put
    have gB : Below w.heap.size w (putE (w2.alloc (.cells #[.int .i64 k, .int .i64 c, .int .i64 0, .string ⟨x.toArray⟩, .string ⟨d.toArray⟩] 23)) w.heap.size k c x d) := putE_below HB3.out (Nat.le_refl _)
    have HG : Hid (Ec (putE (w2.alloc (.cells #[.int .i64 k, .int .i64 c, .int .i64 0, .string ⟨x.toArray⟩, .string ⟨d.toArray⟩] 23)) w.heap.size k c x d) w.heap.size k c x d ∧ Below w.heap.size w (putE (w2.alloc (.cells #[.int .i64 k, .int .i64 c, .int .i64 0, .string ⟨x.toArray⟩, .string ⟨d.toArray⟩] 23)) w.heap.size k c x d)) := ⟨gE, gB⟩
    clear hev gE gB HE3 HB3
    go_wp2
    obtain ⟨gE, gB⟩ := HG.out
    change bodyPost _ _ _ _ _ (putE (w2.alloc (.cells #[.int .i64 k, .int .i64 c, .int .i64 0, .string ⟨x.toArray⟩, .string ⟨d.toArray⟩] 23)) w.heap.size k c x d)
    generalize putE _ _ _ _ _ _ = W2 at gE gB ⊢
    have y0 := gE.c0
    have y1 := gE.c1
    have y2 := gE.c2
    have y3 := gE.c3
    have y4 := gE.c4
    exact bodyPost_ret (v := .tuple #[.agg #[.int .i64 k, .int .i64 c, .int .i64 0, .string ⟨x.toArray⟩, .string ⟨d.toArray⟩], .int .i64 0]) (by simp [results, Tryd.results4, go_sem, y0, y1, y2, y3, y4]) rfl ⟨HX.out, gB⟩
end Go.Proofs.YtocmcbcijmjlhaaDoor.cn
