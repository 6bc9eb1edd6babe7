/-
  (impl.Box).mutated where a mail's flags change.
  impl.mutated where a box is added, and where there is no such box.
  An append onto a row of the call's own: where the row lies behind it, and that the row as it was still has what it had.
  A list of boxes one of which is given another: both its rows may have grown.
-/
import Derived.Test.YtncnbhekgkemfaaGreatDoorPkav
import Derived.Laws.AppendOwn
import Derived.WalkKit

namespace Go.Proofs.YtncnbhekgkemfaaGreatDoor.bl
open Go.ChangeShapes Go.WideShapes Go.ChangeAt Go.RowKit Go.Deep Go.Joins
open st gr bx mx
set_option linter.unusedVariables false

set_option maxHeartbeats 4000000 in
set_option maxRecDepth 100000 in
theorem mutated_flags (y : Bx) (v u : Value) (m : mu.Mu) (iv : Value) (base : Nat) (w : World) (hm : OwnM w base v y.ms) (hk : OwnK w base u y.ks) (hiv : ∃ a n c, iv = .slice a n c) (hl : y.ms.length ≤ 30) (hr : Rising y.ms) (hmo : m.m = 1 ∨ m.m = 2 ∨ m.m = 3) (hmk : m.k = 3) :
    Calls Tryz.prog 98 #[BV y v u, mu.MV m iv] w fun e w' => ((∃ y', e = .returned (.tuple #[BV y' v u, .int .i64 0]) ∧ Wf y m y' 0 ∧ OwnM w' base v y'.ms ∧ OwnK w' base u y'.ks) ∨ (e = .returned (.tuple #[BV B0 (.slice none 0 0) (.slice none 0 0), .int .i64 17]) ∧ Wf y m B0 17 ∧ OwnM w' base v y.ms ∧ OwnK w' base u y.ks)) ∧ w.grownBy w' v.ownBlock := by
  obtain ⟨ia, inn, ic, rfl⟩ := hiv
  obtain ⟨va, vn, vc, rfl⟩ := slice_fine (own_fine hm)
  obtain ⟨ua, un, uc, rfl⟩ := slice_fine (own_fine hk)
  obtain ⟨W, hW⟩ : ∃ W, W = (((w.alloc (.cells #[.string y.nm, .int .i64 y.vd, .int .i64 y.nx, .slice va vn vc, .slice ua un uc] 99)).alloc (.cells #[.int .i64 3, .int .i64 m.u, .int .i64 m.m, .int .i64 m.f, .string m.b, .slice ia inn ic] 104)).alloc (.cells #[.string ⟨#[]⟩, .int .i64 0, .int .i64 0, .slice none 0 0, .slice none 0 0] 99)) := ⟨_, rfl⟩
  have b3 : Below w.heap.size w W := by rw [hW]; exact ((bx.new_below w _ _).alloc (by simp) _).alloc (by simp; omega) _
  have k0 : bx.Lies W w.heap.size 99 y (.slice va vn vc) (.slice ua un uc) := by
    rw [hW]; exact ((bx.lies_new w 99 y (.slice va vn vc) (.slice ua un uc)).keep (bx.new_below _ _ _)).keep (bx.new_below _ _ _)
  have k1 : mu.Lies W (w.heap.size + 1) 104 m (.slice ia inn ic) := by rw [hW, ← hmk]; exact new1 _ _ _ _
  have k2 : bx.Lies W (w.heap.size + 1 + 1) 99 B0 (.slice none 0 0) (.slice none 0 0) := by rw [hW]; exact new2 _ _ _ _
  have HM : Hid (OwnM W base (.slice va vn vc) y.ms ∧ OwnK W base (.slice ua un uc) y.ks) := ⟨ow.own_below hm b3, ow.own_below hk b3⟩
  have HL : Hid (bx.Lies W (w.heap.size + 1 + 1) 99 B0 (.slice none 0 0) (.slice none 0 0)) := k2
  have HB : Hid (Below w.heap.size w W) := b3
  have c0 := k0.c0
  have c1 := k0.c1
  have c2 := k0.c2
  have c3 := k0.c3
  have c4 := k0.c4
  have d0 : W.cell? ⟨w.heap.size + 1, 0, none⟩ = some (.int .i64 3) := by rw [← hmk]; exact k1.c0
  have d1 := k1.c1
  have d2 := k1.c2
  have d3 := k1.c3
  have d4 := k1.c4
  have d5 := k1.c5
  have HD : Hid (Calls Tryz.prog 121 #[BV y (.slice va vn vc) (.slice ua un uc), mu.MV m (.slice ia inn ic)] W fun e w' => ((∃ y', e = .returned (.tuple #[BV y' (.slice va vn vc) (.slice ua un uc), .int .i64 0]) ∧ Wf y m y' 0 ∧ OwnM w' base (.slice va vn vc) y'.ms ∧ OwnK w' base (.slice ua un uc) y'.ks) ∨ (e = .returned (.tuple #[BV B0 (.slice none 0 0) (.slice none 0 0), .int .i64 17]) ∧ Wf y m B0 17 ∧ OwnM w' base (.slice va vn vc) y.ms ∧ OwnK w' base (.slice ua un uc) y.ks)) ∧ W.grownBy w' (Value.slice va vn vc).ownBlock) := withFlags_any y _ _ m _ base W HM.out.1 HM.out.2 ⟨_, _, _, rfl⟩ hl hr hmo
  unfold BV mu.MV at HD ⊢
  rw [hmk] at HD ⊢
  clear hm hk b3 k0 k1 k2
  go_enter Tryz.func98, Tryz.ntmps98
  go_wp2_with (rw [← hW])
  clear hW
  refine HD.out.mono ?_
  rintro e X ⟨hc, hg⟩
  have HX : Hid (bx.Lies X (w.heap.size + 1 + 1) 99 B0 (.slice none 0 0) (.slice none 0 0) ∧ w.grownBy X (Value.slice va vn vc).ownBlock) :=
    ⟨lies_row HL.out HM.out.1 hg (by decide), ow.grown_trans (ow.grown_below HB.out) hg⟩
  clear HD HM HL HB c0 c1 c2 c3 c4 d0 d1 d2 d3 d4 d5 hg
  have r0 : X.cell? ⟨w.heap.size + 1 + 1, 0, none⟩ = some (.string ⟨#[]⟩) := HX.out.1.c0
  have r1 : X.cell? ⟨w.heap.size + 1 + 1, 0 + 1, none⟩ = some (.int .i64 0) := HX.out.1.c1
  have r2 : X.cell? ⟨w.heap.size + 1 + 1, 0 + 2, none⟩ = some (.int .i64 0) := HX.out.1.c2
  have r3 := HX.out.1.c3
  have r4 := HX.out.1.c4
  have fr := HX.out.1.f
  rcases hc with ⟨y', rfl, hwf, ho, hok⟩ | ⟨rfl, hwf, ho, hok⟩
  · have HE : Hid (bx.Lies (put5w X (w.heap.size + 1 + 1) (.string y'.nm) (.int .i64 y'.vd) (.int .i64 y'.nx) (.slice va vn vc) (.slice ua un uc)) (w.heap.size + 1 + 1) 99 y' (.slice va vn vc) (.slice ua un uc) ∧ OwnM (put5w X (w.heap.size + 1 + 1) (.string y'.nm) (.int .i64 y'.vd) (.int .i64 y'.nx) (.slice va vn vc) (.slice ua un uc)) base (.slice va vn vc) y'.ms ∧ OwnK (put5w X (w.heap.size + 1 + 1) (.string y'.nm) (.int .i64 y'.vd) (.int .i64 y'.nx) (.slice va vn vc) (.slice ua un uc)) base (.slice ua un uc) y'.ks ∧ w.grownBy (put5w X (w.heap.size + 1 + 1) (.string y'.nm) (.int .i64 y'.vd) (.int .i64 y'.nx) (.slice va vn vc) (.slice ua un uc)) (Value.slice va vn vc).ownBlock) :=
      ⟨put5w_lies HX.out.1, own_grown ho (put5w_grown _ _ _ _ _ _ _) (row_box ho HX.out.1 (by decide)), own_grown hok (put5w_grown _ _ _ _ _ _ _) (row_box hok HX.out.1 (by decide)), put5w_new HX.out.2 (by omega)⟩
    have HWF : Hid (Wf y m y' 0) := hwf
    clear HX hwf ho hok
    go_wp2
    change bodyPost _ _ _ _ _ (put5w X (w.heap.size + 1 + 1) (.string y'.nm) (.int .i64 y'.vd) (.int .i64 y'.nx) (.slice va vn vc) (.slice ua un uc))
    clear r0 r1 r2 r3 r4 fr
    generalize put5w _ _ _ _ _ _ _ = W9 at HE ⊢
    have x0 := HE.out.1.c0
    have x1 := HE.out.1.c1
    have x2 := HE.out.1.c2
    have x3 := HE.out.1.c3
    have x4 := HE.out.1.c4
    exact bodyPost_ret (v := .tuple #[.agg #[.string y'.nm, .int .i64 y'.vd, .int .i64 y'.nx, .slice va vn vc, .slice ua un uc], .int .i64 0]) (by simp [results, Tryz.results98, go_sem, x0, x1, x2, x3, x4]) rfl ⟨.inl ⟨y', rfl, HWF.out, HE.out.2.1, HE.out.2.2.1⟩, HE.out.2.2.2⟩
  · have HE : Hid (bx.Lies (put5w X (w.heap.size + 1 + 1) (.string ⟨#[]⟩) (.int .i64 0) (.int .i64 0) (.slice none 0 0) (.slice none 0 0)) (w.heap.size + 1 + 1) 99 B0 (.slice none 0 0) (.slice none 0 0) ∧ OwnM (put5w X (w.heap.size + 1 + 1) (.string ⟨#[]⟩) (.int .i64 0) (.int .i64 0) (.slice none 0 0) (.slice none 0 0)) base (.slice va vn vc) y.ms ∧ OwnK (put5w X (w.heap.size + 1 + 1) (.string ⟨#[]⟩) (.int .i64 0) (.int .i64 0) (.slice none 0 0) (.slice none 0 0)) base (.slice ua un uc) y.ks ∧ w.grownBy (put5w X (w.heap.size + 1 + 1) (.string ⟨#[]⟩) (.int .i64 0) (.int .i64 0) (.slice none 0 0) (.slice none 0 0)) (Value.slice va vn vc).ownBlock) :=
      ⟨put5w_zero HX.out.1, own_grown ho (put5w_grown _ _ _ _ _ _ _) (row_box ho HX.out.1 (by decide)), own_grown hok (put5w_grown _ _ _ _ _ _ _) (row_box hok HX.out.1 (by decide)), put5w_new HX.out.2 (by omega)⟩
    have HWF : Hid (Wf y m B0 17) := hwf
    clear HX hwf ho hok
    have e0 : B0.nm = ⟨#[]⟩ := rfl
    have e1 : B0.vd = 0 := rfl
    have e2 : B0.nx = 0 := rfl
    rw [e0, e1, e2]
    go_wp2
    change bodyPost _ _ _ _ _ (put5w X (w.heap.size + 1 + 1) (.string ⟨#[]⟩) (.int .i64 0) (.int .i64 0) (.slice none 0 0) (.slice none 0 0))
    clear r0 r1 r2 r3 r4 fr
    generalize put5w _ _ _ _ _ _ _ = W9 at HE ⊢
    have x0 := HE.out.1.c0
    have x1 := HE.out.1.c1
    have x2 := HE.out.1.c2
    have x3 := HE.out.1.c3
    have x4 := HE.out.1.c4
    rw [e0] at x0
    rw [e1] at x1
    rw [e2] at x2
    exact bodyPost_ret (v := .tuple #[.agg #[.string ⟨#[]⟩, .int .i64 0, .int .i64 0, .slice none 0 0, .slice none 0 0], .int .i64 17]) (by simp [results, Tryz.results98, go_sem, x0, x1, x2, x3, x4]) rfl ⟨.inr ⟨rfl, HWF.out, HE.out.2.1, HE.out.2.2.1⟩, HE.out.2.2.2⟩
end Go.Proofs.YtncnbhekgkemfaaGreatDoor.bl

namespace Go.Proofs.YtncnbhekgkemfaaGreatDoor.bl
open Go.ChangeShapes Go.WideShapes Go.ChangeAt Go.RowKit Go.Deep Go.Joins
open st gr bx mx
set_option linter.unusedVariables false

set_option maxHeartbeats 4000000 in
set_option maxRecDepth 100000 in
theorem imp_box (L : Value) (base : Nat) (xs : List Bx) (us : Nat → Value × Value) (m : mu.Mu) (iv : Value) (w : World) (h : OwnL w base L xs us) (hb : base ≤ w.heap.size) (hn : xs.length ≤ 1048576) (hs : m.b.size ≤ 1048576) (hiv : ∃ a n c, iv = .slice a n c) (hmk : m.k = 1) :
    Calls Tryz.prog 67 #[L, mu.MV m iv] w fun e w' => (∃ L' ys us' c, e = .returned (.tuple #[L', .int .i64 c]) ∧ Wb xs m.b ys c ∧ OwnL w' base L' ys us') ∧ Below base w w' := by
  obtain ⟨ia, inn, ic, rfl⟩ := hiv
  obtain ⟨La, Ln, Lc, rfl⟩ : ∃ a n c, L = .slice a n c := by
    rcases h.1.2 with ⟨rfl, hz⟩ | ⟨g, cap, cur, rfl, _⟩
    · exact ⟨_, _, _, rfl⟩
    · exact ⟨_, _, _, rfl⟩
  obtain ⟨W, hW⟩ : ∃ W, W = w.alloc (.cells #[.int .i64 1, .int .i64 m.u, .int .i64 m.m, .int .i64 m.f, .string m.b, .slice ia inn ic] 104) := ⟨_, rfl⟩
  have b1 : Below w.heap.size w W := by rw [hW]; exact bx.new_below w _ _
  have k1 : mu.Lies W w.heap.size 104 m (.slice ia inn ic) := by rw [hW, ← hmk]; exact mu.lies_new _ _ _ _
  have HC : Hid (Calls Tryz.prog 97 #[.slice La Ln Lc, .string m.b] W fun e w' => (∃ L' ys us' c, e = .returned (.tuple #[L', .int .i64 c]) ∧ Wb xs m.b ys c ∧ OwnL w' base L' ys us') ∧ Below base W w') := withBox_any _ base xs us m.b W (ownL_below h b1) (Nat.le_trans hb b1.size) hn hs
  have HB : Hid (Below base w W) := b1.mono hb
  have d0 : W.cell? ⟨w.heap.size, 0, none⟩ = some (.int .i64 1) := by rw [← hmk]; exact k1.c0
  have d4 := k1.c4
  unfold mu.MV
  rw [hmk]
  clear h b1 k1
  go_enter Tryz.func67, Tryz.ntmps67
  go_wp2_with (rw [← hW])
  clear hW
  refine HC.out.mono ?_
  rintro e X ⟨⟨L', ys, us', c, rfl, hw, ho⟩, hx⟩
  have HQ : Hid (∃ L1 ys us' c1, (Ending.returned (.tuple #[L', .int .i64 c]) = .returned (.tuple #[L1, .int .i64 c1])) ∧ Wb xs m.b ys c1 ∧ OwnL X base L1 ys us') := ⟨_, ys, us', c, rfl, hw, ho⟩
  have HX : Hid (Below base w X) := HB.out.trans (hx.mono (Nat.le_refl _))
  clear hw ho hx HC HB d0 d4
  go_wp2
  go_ret2
  exact ⟨HQ.out, HX.out⟩

set_option maxHeartbeats 4000000 in
set_option maxRecDepth 100000 in
theorem imp_none (L : Value) (base : Nat) (xs : List Bx) (us : Nat → Value × Value) (m : mu.Mu) (iv : Value) (w : World) (h : OwnL w base L xs us) (hb : base ≤ w.heap.size) (hn : xs.length ≤ 1048576) (hiv : ∃ a n c, iv = .slice a n c) (hmk : m.k ≠ 1) (hp : Plc xs m.b (-1)) :
    Calls Tryz.prog 67 #[L, mu.MV m iv] w fun e w' => (e = .returned (.tuple #[L, .int .i64 5]) ∧ OwnL w' base L xs us) ∧ Below base w w' := by
  obtain ⟨ia, inn, ic, rfl⟩ := hiv
  obtain ⟨La, Ln, Lc, rfl⟩ : ∃ a n c, L = .slice a n c := by
    rcases h.1.2 with ⟨rfl, hz⟩ | ⟨g, cap, cur, rfl, _⟩
    · exact ⟨_, _, _, rfl⟩
    · exact ⟨_, _, _, rfl⟩
  obtain ⟨W, hW⟩ : ∃ W, W = w.alloc (.cells #[.int .i64 m.k, .int .i64 m.u, .int .i64 m.m, .int .i64 m.f, .string m.b, .slice ia inn ic] 104) := ⟨_, rfl⟩
  have b1 : Below w.heap.size w W := by rw [hW]; exact bx.new_below w _ _
  have k1 : mu.Lies W w.heap.size 104 m (.slice ia inn ic) := by rw [hW]; exact mu.lies_new _ _ _ _
  have HO : Hid (OwnL W base (.slice La Ln Lc) xs us) := ownL_below h b1
  have HC : Hid (Calls Tryz.prog 61 #[.slice La Ln Lc, .string m.b] W fun e w' => (∃ r : Int, e = .returned (.int .i64 r) ∧ Plc xs m.b r) ∧ Below W.heap.size W w') := place_any W.heap.size _ xs us m.b W (ownL_boxes HO.out) (Nat.le_refl _) hn
  have HB : Hid (Below base w W ∧ base ≤ W.heap.size) := ⟨b1.mono hb, Nat.le_trans hb b1.size⟩
  have HP : Hid (Plc xs m.b (-1)) := hp
  have d0 := k1.c0
  have d4 := k1.c4
  have hk : (m.k == 1) = false := by simpa using hmk
  unfold mu.MV
  clear h b1 k1 hp hmk
  go_enter Tryz.func67, Tryz.ntmps67
  go_wp2_with (rw [← hW])
  clear hW
  refine HC.out.mono ?_
  rintro e X ⟨⟨r, rfl, hr⟩, hx⟩
  have hr1 : r = -1 := plc_one hr HP.out
  subst hr1
  have HQ : Hid (OwnL X base (.slice La Ln Lc) xs us) := ownL_below HO.out hx
  have HX : Hid (Below base w X) := HB.out.1.trans (hx.mono HB.out.2)
  clear hx HC HB d0 d4 HO HP hr
  go_wp2
  go_ret2
  exact ⟨⟨rfl, HQ.out⟩, HX.out⟩
end Go.Proofs.YtncnbhekgkemfaaGreatDoor.bl

namespace Go.Proofs.YtncnbhekgkemfaaGreatDoor.apk
open Go.RowKit
set_option linter.unusedVariables false
variable {P : Program} (w : World)
theorem less {x : World} {base e s n m g cap : Nat} {xs ys : List Value} (h : x.ownsRow base e s (.slice (some ⟨g, 0, none⟩) (n + m) cap) (n + m) (xs ++ ys)) (hx : xs.length = n * s) : x.ownsRow base e s (.slice (some ⟨g, 0, none⟩) n cap) n xs := by
  refine ⟨hx, ?_⟩
  rcases h.2 with ⟨e, _⟩ | ⟨g', cap', cur, e, hb, hh, hn, hm, hc, ht⟩
  · cases e
  · cases e
    have e2 : cur.toList.take (n * s) = (cur.toList.take ((n + m) * s)).take (n * s) := by
      rw [List.take_take, Nat.min_eq_left (Nat.mul_le_mul_right _ (by omega))]
    exact .inr ⟨g, cap, cur, rfl, hb, hh, by omega, hm, hc, by rw [e2, ht, ← hx, List.take_left']; rfl⟩
theorem run_append_keep (base : Nat) (t ty e : TypeId) (i : TypeInfo) (z : Value) (size bytes : Nat) (ht : P.underlying t = some (.slice e)) (hi : P.info? e = some i) (hz : i.zero = some z)
    (hsize : i.size = size) (hby : i.bytes = bytes) (hzs : z.cells.size = size) (hsz : 0 < size)
    (v : Value) (n : Nat) (xs : List Value) (hown : w.ownsRow base e size v n xs)
    (a : Addr) (m c : Nat) (news : List Value) (hl : news.length = m * size) (hnews : ∀ j u, news[j]? = some u → w.cell? (a.add j) = some u) (h1 : ∀ u ∈ news, u.oneCell' = true)
    (h63 : n + m ≤ maxLen) (hbytes : (n + m) * bytes ≤ 140737488355328) (hbase : base ≤ w.heap.size) :
    ∃ v' w', (Builtin.append_ #[t, t] ty #[v, .slice (some a) m c]).run P w = .ok v' w' ∧ w'.ownsRow base e size v' (n + m) (xs ++ news) ∧ w.grownBy w' v.ownBlock ∧ ((v'.ownBlock = v.ownBlock ∨ v'.ownBlock = some w.heap.size) ∧ w'.ownsRow base e size v n xs) := by
  obtain ⟨v', w', hr, ho, hg, hn⟩ := run_append_own w base t ty e i z size bytes ht hi hz hsize hby hzs hsz v n xs hown a m c news hl hnews h1 h63 hbytes hbase
  refine ⟨v', w', hr, ho, hg, ?_⟩
  have hsmall : n + m ≤ 9223372036854775807 := by simp only [maxLen] at h63; omega
  subst hsize
  subst hby
  rcases hown.2 with ⟨rfl, rfl⟩ | ⟨g, cap, cur, rfl, hbg, hgg, hnc, hcm, hcs, htake⟩
  · refine ⟨?_, ⟨hown.1, .inl ⟨rfl, rfl⟩⟩⟩
    by_cases hm : m = 0
    · left
      rw [hn.2 ⟨rfl, hm⟩]
    · right
      have hr2 := run_append_nil (P := P) w t ty e i z ht hi hz a m c news hl hnews (by omega) (by omega) (by have hb := hbytes; simp only [Nat.zero_add] at hb; omega)
      rw [hr] at hr2
      injection hr2 with h2 _
      rw [h2]
      rfl
  · by_cases hroom : n + m ≤ cap
    · have hfit : n * i.size + news.length ≤ cur.size := by rw [hl, hcs, ← Nat.add_mul]; exact Nat.mul_le_mul_right _ hroom
      have hr2 := run_append_room (P := P) w t ty e i ht hi g n cap cur hgg a m c news hl hnews h1 hroom hfit
      rw [hr] at hr2
      injection hr2 with h2 _
      rw [h2] at ho ⊢
      exact ⟨.inl rfl, less ho hown.1⟩
    · have holds : ∀ j u, xs[j]? = some u → w.cell? ((⟨g, 0, none⟩ : Addr).add j) = some u := hown.cells (g := g) rfl
      have hr2 := run_append_grow (P := P) w t ty e i z ht hi hz ⟨g, 0, none⟩ n cap xs hown.1 holds a m c news hl hnews (by omega) (by omega) (growslice_fits (by omega) hbytes)
      rw [hr] at hr2
      injection hr2 with h2 h3
      rw [h2]
      refine ⟨.inr rfl, ?_⟩
      rw [h3]
      exact World.ownsRow.alloc (w := w.drew) hown _
theorem wp_append_keep {o : Oper} {a : Act} {K : Act → World → Prop} {Q : Exit → Act → World → Prop} (s x : Operand) (t : TypeId)
    (ho : o.op = .call { callee := .builtin .append, args := #[s, x], argTypes := #[t, t] })
    (base : Nat) (e : TypeId) (i : TypeInfo) (z : Value) (size bytes : Nat) (ht : P.underlying t = some (.slice e)) (hi : P.info? e = some i) (hz : i.zero = some z)
    (hsize : i.size = size) (hby : i.bytes = bytes) (hzs : z.cells.size = size) (hsz : 0 < size)
    (v : Value) (n : Nat) (xs : List Value) (hs : a.eval s = v) (hown : w.ownsRow base e size v n xs)
    (ad : Addr) (m c : Nat) (news : List Value) (hx : a.eval x = .slice (some ad) m c) (hl : news.length = m * size) (hnews : ∀ j u, news[j]? = some u → w.cell? (ad.add j) = some u) (h1 : ∀ u ∈ news, u.oneCell' = true)
    (h63 : n + m ≤ maxLen) (hbytes : (n + m) * bytes ≤ 140737488355328) (hbase : base ≤ w.heap.size)
    (h : ∀ v' w', w'.ownsRow base e size v' (n + m) (xs ++ news) → w.grownBy w' v.ownBlock → ((v'.ownBlock = v.ownBlock ∨ v'.ownBlock = some w.heap.size) ∧ w'.ownsRow base e size v n xs) → K (a.put o.dst v') w') : o.wp P a w K Q := by
  obtain ⟨v', w', hr, h2, h3, h4⟩ := run_append_keep (P := P) w base t o.type e i z size bytes ht hi hz hsize hby hzs hsz v n xs hown ad m c news hl hnews h1 h63 hbytes hbase
  unfold Oper.wp execOp
  simp only [ho, resolve, invoke, builtin, Sem.run_bind, Sem.run_pure, Result.andThen_ok, List.map_toArray, List.map_cons, List.map_nil, hs, hx, hr]
  exact h v' w' h2 h3 h4
theorem wpList_append_keep {ops : Array Oper} {rest : List Oper} {o : Oper} {a : Act} {Q : Exit → Act → World → Prop} (hgd : o.guard = none) (s x : Operand) (t : TypeId)
    (ho : o.op = .call { callee := .builtin .append, args := #[s, x], argTypes := #[t, t] })
    (base : Nat) (e : TypeId) (i : TypeInfo) (z : Value) (size bytes : Nat) (ht : P.underlying t = some (.slice e)) (hi : P.info? e = some i) (hz : i.zero = some z)
    (hsize : i.size = size) (hby : i.bytes = bytes) (hzs : z.cells.size = size) (hsz : 0 < size)
    (v : Value) (n : Nat) (xs : List Value) (hs : a.eval s = v) (hown : w.ownsRow base e size v n xs)
    (ad : Addr) (m c : Nat) (news : List Value) (hx : a.eval x = .slice (some ad) m c) (hl : news.length = m * size) (hnews : ∀ j u, news[j]? = some u → w.cell? (ad.add j) = some u) (h1 : ∀ u ∈ news, u.oneCell' = true)
    (h63 : n + m ≤ maxLen) (hbytes : (n + m) * bytes ≤ 140737488355328) (hbase : base ≤ w.heap.size)
    (h : ∀ v' w', w'.ownsRow base e size v' (n + m) (xs ++ news) → w.grownBy w' v.ownBlock → ((v'.ownBlock = v.ownBlock ∨ v'.ownBlock = some w.heap.size) ∧ w'.ownsRow base e size v n xs) → wpList P ops Q rest (a.put o.dst v') w') : wpList P ops Q (o :: rest) a w :=
  wpList_plain hgd fun _ hK => wp_append_keep w s x t ho base e i z size bytes ht hi hz hsize hby hzs hsz v n xs hs hown ad m c news hx hl hnews h1 h63 hbytes hbase fun v' w' h2 h3 h4 => hK _ _ (h v' w' h2 h3 h4)
/-- What a row had at first it still has, when it was appended to once more. -/
theorem first_keep {x x' : World} {b b' e s n m : Nat} {v vk : Value} {xs ys : List Value} (ho : x.ownsRow b e s v n xs) (hk : x.ownsRow b' e s vk (n + m) (xs ++ ys)) (hg : x.grownBy x' vk.ownBlock) (hk' : x'.ownsRow b' e s vk (n + m) (xs ++ ys)) (hs : 0 < s) : x'.ownsRow b e s v n xs := by
  by_cases hd : v.ownBlock = none ∨ v.ownBlock ≠ vk.ownBlock
  · exact ho.kept hg hd
  · have hd1 : v.ownBlock ≠ none := fun e => hd (.inl e)
    have hd2 : v.ownBlock = vk.ownBlock := Classical.byContradiction fun e => hd (.inr e)
    rcases ho.2 with ⟨rfl, _⟩ | ⟨g, cap, cur, rfl, hb, hh, hn, hm, hc, ht⟩
    · exact absurd rfl hd1
    · rcases hk.2 with ⟨rfl, _⟩ | ⟨g', cap', cur', rfl, hb', hh', hn', hm', hc', ht'⟩
      · exact absurd hd2 hd1
      · have eg : g = g' := by simpa [Value.ownBlock] using hd2
        subst eg
        rw [hh] at hh'
        have ec : cur = cur' := by simpa using hh'
        subst ec
        have ecap : cap = cap' := Nat.eq_of_mul_eq_mul_right hs (hc.symm.trans hc')
        subst ecap
        have hl := less hk' ho.1
        refine ⟨ho.1, ?_⟩
        rcases hl.2 with ⟨e, _⟩ | ⟨g', cap', cur', e, _, r⟩
        · cases e
        · cases e
          exact .inr ⟨_, _, cur', rfl, hb, r⟩
end Go.Proofs.YtncnbhekgkemfaaGreatDoor.apk

namespace Go.Proofs.YtncnbhekgkemfaaGreatDoor.bl
open Go.ChangeShapes Go.WideShapes Go.ChangeAt Go.RowKit Go.Deep Go.Joins
open st gr bx mx
set_option linter.unusedVariables false

/-- New blocks, and what lay in two rows' blocks may be another; nothing else is. -/
structure Gr2 (w w' : World) (p q : Option Nat) : Prop where
  os : w'.os = w.os
  tape : w'.tape = w.tape
  output : w'.output = w.output
  size : w.heap.size ≤ w'.heap.size
  block : ∀ k, k < w.heap.size → p ≠ some k → q ≠ some k → w'.heap[k]? = w.heap[k]?
theorem gr2_left {w w' : World} {p : Option Nat} (h : w.grownBy w' p) (q : Option Nat) : Gr2 w w' p q := ⟨h.os, h.tape, h.output, h.size, fun k hk h1 _ => h.block k hk (fun e => h1 e.symm)⟩
theorem gr2_right {w w' : World} {q : Option Nat} (h : w.grownBy w' q) (p : Option Nat) : Gr2 w w' p q := ⟨h.os, h.tape, h.output, h.size, fun k hk _ h1 => h.block k hk (fun e => h1 e.symm)⟩
theorem gr2_below {w w' : World} (h : Below w.heap.size w w') (p q : Option Nat) : Gr2 w w' p q := gr2_left (ow.grown_below h) q
theorem Gr2.trans {w x y : World} {p q : Option Nat} (h : Gr2 w x p q) (h' : Gr2 x y p q) : Gr2 w y p q :=
  ⟨h'.os.trans h.os, h'.tape.trans h.tape, h'.output.trans h.output, Nat.le_trans h.size h'.size, fun k hk h1 h2 => (h'.block k (Nat.lt_of_lt_of_le hk h.size) h1 h2).trans (h.block k hk h1 h2)⟩
theorem row_gr2 {w w' : World} {p q : Option Nat} {b e s n : Nat} {v : Value} {xs : List Value} (h : w.ownsRow b e s v n xs) (hg : Gr2 w w' p q) (h1 : v.ownBlock = none ∨ v.ownBlock ≠ p) (h2 : v.ownBlock = none ∨ v.ownBlock ≠ q) : w'.ownsRow b e s v n xs := by
  refine ⟨h.1, ?_⟩
  rcases h.2 with hn | ⟨g, cap, cur, rfl, hb, hgg, rest⟩
  · exact .inl hn
  · refine .inr ⟨g, cap, cur, rfl, hb, ?_, rest⟩
    rw [hg.block g (Array.getElem?_eq_some_iff.1 hgg).1 (fun e => by rcases h1 with h | h; cases h; exact h e.symm) (fun e => by rcases h2 with h | h; cases h; exact h e.symm)]
    exact hgg
theorem lies_gr2 {w w' : World} {p q : Option Nat} {G : Nat} {T : TypeId} {x : Bx} {v u : Value} (h : Lies w G T x v u) (hg : Gr2 w w' p q) (h1 : p ≠ some G) (h2 : q ≠ some G) : Lies w' G T x v u := (hg.block G h.lt h1 h2).trans h
/-- The rows of a box and the list's row lie apart. -/
theorem list_gr2 {w w' : World} {base : Nat} {L : Value} {xs : List Bx} {us : Nat → Value × Value} {k : Nat} (h : OwnL w base L xs us) (hk : k < xs.length) (hg : Gr2 w w' (us k).1.ownBlock (us k).2.ownBlock) : OwnB w' base L xs us :=
  row_gr2 h.1 hg (rowkinds h.1 (h.2.1 k hk).1 (by decide)) (rowkinds h.1 (h.2.1 k hk).2 (by decide))
theorem dis_sym {us : Nat → Value × Value} {n : Nat} (h : Dis us n) {i j : Nat} (hi : i < n) (hj : j < n) (hne : i ≠ j) : ((us i).1.ownBlock = none ∨ (us i).1.ownBlock ≠ (us j).1.ownBlock) ∧ ((us i).2.ownBlock = none ∨ (us i).2.ownBlock ≠ (us j).2.ownBlock) := by
  by_cases e : i < j
  · exact h i j e hj
  · obtain ⟨h1, h2⟩ := h j i (by omega) hi
    constructor
    · by_cases e1 : (us i).1.ownBlock = none
      · exact .inl e1
      · refine .inr fun e2 => ?_
        rcases h1 with h1 | h1
        · exact e1 (e2.trans h1)
        · exact h1 e2.symm
    · by_cases e1 : (us i).2.ownBlock = none
      · exact .inl e1
      · refine .inr fun e2 => ?_
        rcases h2 with h2 | h2
        · exact e1 (e2.trans h2)
        · exact h2 e2.symm
theorem other_gr2 {w w' : World} {base : Nat} {L : Value} {xs : List Bx} {us : Nat → Value × Value} {k : Nat} (h : OwnL w base L xs us) (hk : k < xs.length) (hg : Gr2 w w' (us k).1.ownBlock (us k).2.ownBlock) {j : Nat} (hj : j < xs.length) (hne : j ≠ k) : OwnM w' base (us j).1 (xs.getD j noB).ms ∧ OwnK w' base (us j).2 (xs.getD j noB).ks :=
  ⟨row_gr2 (h.2.1 j hj).1 hg (dis_sym h.2.2 hj hk hne).1 (rowkinds (h.2.1 j hj).1 (h.2.1 k hk).2 (by decide)), row_gr2 (h.2.1 j hj).2 hg (rowkinds (h.2.1 j hj).2 (h.2.1 k hk).1 (by decide)) (dis_sym h.2.2 hj hk hne).2⟩
theorem getD_set {xs : List Bx} {k j : Nat} {x : Bx} (hk : k < xs.length) : (xs.set k x).getD j noB = if j = k then x else xs.getD j noB := by
  by_cases e : j = k
  · subst e
    rw [if_pos rfl]
    simp [List.getD, hk]
  · rw [if_neg e]
    simp [List.getD, List.getElem?_set_ne (Ne.symm e)]
theorem bcells_set {xs : List Bx} {us : Nat → Value × Value} {n k : Nat} (hk : k < n) (hn : k < xs.length) (x : Bx) (p : Value × Value) : put5 (bcells xs us n) (k * 5) x p = bcells (xs.set k x) (upd us k p) n := by
  refine bcells_ext (by rw [put5_len, bcells_len]) fun j hj => ?_
  rw [getD_set hn]
  by_cases e : j = k
  · subst e
    simp only [upd, if_true]
    exact put5_same (by rw [bcells_len]; omega)
  · simp only [upd, if_neg e]
    exact in5_other (bcells_at xs us n j hj) (by omega)
/-- A slice that lies where it lay, or in a block that is new. -/
def Here (N : Nat) (v v' : Value) : Prop := v'.ownBlock = v.ownBlock ∨ ∀ g, v'.ownBlock = some g → N ≤ g
theorem here_apart {w : World} {b e s n : Nat} {N : Nat} {v v' u : Value} {xs : List Value} (hu : w.ownsRow b e s u n xs) (hN : w.heap.size ≤ N) (h : Here N v v') (hd : u.ownBlock = none ∨ u.ownBlock ≠ v.ownBlock) : u.ownBlock = none ∨ u.ownBlock ≠ v'.ownBlock := by
  rcases h with h | h
  · rw [h]; exact hd
  · cases hb : u.ownBlock with
    | none => exact .inl rfl
    | some g =>
      refine .inr fun e => ?_
      have h1 := h g e.symm
      have h2 := (hu.lt g hb).2
      omega
theorem sym_apart {p q : Option Nat} (h : p = none ∨ p ≠ q) : q = none ∨ q ≠ p := by
  by_cases e : q = none
  · exact .inl e
  · refine .inr fun e2 => ?_
    rcases h with h | h
    · exact e (e2.trans h)
    · exact h e2.symm
/-- The list behind it. -/
theorem list_set {w x y : World} {base : Nat} {L : Value} {xs : List Bx} {us : Nat → Value × Value} {k : Nat} {b : Bx} {v u : Value} (h : OwnL w base L xs us) (hk : k < xs.length) (hg : Gr2 w x (us k).1.ownBlock (us k).2.ownBlock) (hm : OwnM x base v b.ms) (hu : OwnK x base u b.ks) (hv : Here w.heap.size (us k).1 v) (hv2 : Here w.heap.size (us k).2 u)
    (hB : OwnB y base L (xs.set k b) (upd us k (v, u))) (hy : x.grownBy y L.ownBlock) : OwnL y base L (xs.set k b) (upd us k (v, u)) := by
  have hLx := list_gr2 h hk hg
  have hl : (xs.set k b).length = xs.length := by simp
  refine ⟨hB, fun j hj => ?_, fun i j hij hj => ?_⟩
  · rw [hl] at hj
    rw [getD_set hk]
    by_cases e : j = k
    · subst e
      simp only [upd, if_true]
      exact ⟨row_other hm hy (rowkinds hm hLx (by decide)), row_other hu hy (rowkinds hu hLx (by decide))⟩
    · simp only [upd, if_neg e]
      obtain ⟨h1, h2⟩ := other_gr2 h hk hg hj e
      exact ⟨row_other h1 hy (rowkinds h1 hLx (by decide)), row_other h2 hy (rowkinds h2 hLx (by decide))⟩
  · rw [hl] at hj
    have hi : i < xs.length := by omega
    by_cases ei : i = k
    · have ej : j ≠ k := by omega
      subst ei
      simp only [upd, if_true, if_neg ej]
      have d := dis_sym h.2.2 hj hk ej
      exact ⟨sym_apart (here_apart (h.2.1 j hj).1 (Nat.le_refl _) hv d.1), sym_apart (here_apart (h.2.1 j hj).2 (Nat.le_refl _) hv2 d.2)⟩
    · by_cases ej : j = k
      · subst ej
        simp only [upd, if_true, if_neg ei]
        have d := dis_sym h.2.2 hi hk ei
        exact ⟨here_apart (h.2.1 i hi).1 (Nat.le_refl _) hv d.1, here_apart (h.2.1 i hi).2 (Nat.le_refl _) hv2 d.2⟩
      · simp only [upd, if_neg ei, if_neg ej]
        exact h.2.2 i j hij hj
/-- With a code the list is as it was. -/
theorem list_kept {w x : World} {base : Nat} {L : Value} {xs : List Bx} {us : Nat → Value × Value} {k : Nat} (h : OwnL w base L xs us) (hk : k < xs.length) (hg : Gr2 w x (us k).1.ownBlock (us k).2.ownBlock) (hm : OwnM x base (us k).1 (xs.getD k noB).ms) (hu : OwnK x base (us k).2 (xs.getD k noB).ks) : OwnL x base L xs us := by
  refine ⟨list_gr2 h hk hg, fun j hj => ?_, h.2.2⟩
  by_cases e : j = k
  · subst e; exact ⟨hm, hu⟩
  · exact other_gr2 h hk hg hj e
/-- Nothing below the list's own memory is touched. -/
theorem gr2_base {w x : World} {base : Nat} {xs : List Bx} {us : Nat → Value × Value} {k : Nat} (h : OwnR w base xs us xs.length) (hk : k < xs.length) (hb : base ≤ w.heap.size) (hg : Gr2 w x (us k).1.ownBlock (us k).2.ownBlock) : ∀ j, j < base → x.heap[j]? = w.heap[j]? := fun j hj =>
  hg.block j (by omega) (fun e => by have := ((h k hk).1.lt j e).1; omega) (fun e => by have := ((h k hk).2.lt j e).1; omega)
end Go.Proofs.YtncnbhekgkemfaaGreatDoor.bl
