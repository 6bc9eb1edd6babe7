/-
  The specification's l09Apply where items are added.
-/
import Derived.Test.YtncnbhekgkemfaaGreatDoorPkba

namespace Go.Proofs.YtncnbhekgkemfaaGreatDoor.sa
open Go.ChangeShapes Go.WideShapes Go.ChangeAt Go.RowKit Go.Deep Go.Joins
open st gr bx mx bl wi
set_option linter.unusedVariables false

theorem set_self (xs : List Bx) (k : Nat) (hk : k < xs.length) : xs.set k (xs.getD k noB) = xs := by
  rw [List.getD_eq_getElem?_getD, List.getElem?_eq_getElem hk]
  exact List.set_getElem_self hk
theorem set_twice (xs : List Bx) (k : Nat) (a b : Bx) : (xs.set k a).set k b = xs.set k b := List.set_set ..
theorem get_set (xs : List Bx) (k : Nat) (a : Bx) (hk : k < xs.length) : (xs.set k a).getD k noB = a := by rw [bl.getD_set hk, if_pos rfl]
theorem hasK_has (ks : List ByteArray) (x : ByteArray) : ky.has ks x = hasK ks x := by
  rw [Bool.eq_iff_iff, hasK_iff]
  constructor
  · intro h
    obtain ⟨j, hj, e⟩ := List.getElem_of_mem (ky.has_of h)
    exact ⟨j, hj, by rw [List.getD_eq_getElem?_getD, List.getElem?_eq_getElem hj]; exact e⟩
  · rintro ⟨j, hj, e⟩
    rw [List.getD_eq_getElem?_getD, List.getElem?_eq_getElem hj] at e
    exact ky.has_yes (by rw [← e]; exact List.getElem_mem hj)
/-- What the specification answers of a list whose box k is given another one. -/
def Ar (xs : List Bx) (k : Nat) (R : Bx → Int → Prop) (e : Ending) (w' : World) : Prop :=
  ∃ (L' : Value) (ys : List Bx) (us : Nat → Value × Value) (c : Int) (y' : Bx), e = .returned (.tuple #[L', .int .i64 c]) ∧ R y' c ∧ (c = 0 ∧ ys = xs.set k y' ∨ c ≠ 0 ∧ ys = xs) ∧ BoxesAt w' L' ys us ∧ Fines ys us
def V30 (S g k : Nat) (v : Value) (z : Int) (T : ByteArray) (iv : Value) (ib io j : Nat) : Nat → Option Value
  | 0 => some (.pointer (some ⟨g, k * 5, none⟩))
  | 1 => some (.pointer (some ⟨g, k * 5, none⟩))
  | 2 => some (.pointer (some ⟨g, k * 5, none⟩))
  | 3 => some (.pointer (some ⟨g, k * 5 + 3, none⟩))
  | 4 => some v
  | 5 => some (.pointer (some ⟨g, k * 5, none⟩))
  | 6 => some (.pointer (some ⟨g, k * 5, none⟩))
  | 7 => some (.pointer (some ⟨g, k * 5 + 2, none⟩))
  | 8 => some (.int .i64 z)
  | 9 => some (.pointer (some ⟨S, 0 + 5, none⟩))
  | 10 => some iv
  | 11 => some (.int .i64 (j : Int))
  | 12 => some (.pointer (some ⟨ib, io + j * 2, none⟩))
  | 13 => some (.pointer (some ⟨ib, io + j * 2 + 1, none⟩))
  | 14 => some (.string T)
  | 15 => some (.agg #[.int .i64 z, .int .i64 0, .string T])
  | 18 => some (.pointer (some ⟨g, k * 5, none⟩))
  | 19 => some (.pointer (some ⟨g, k * 5 + 3, none⟩))
  | _ => none
def q30 (W1 : World) (base S g k : Nat) (v : Value) (ms : List St) (z : Int) (T : ByteArray) (iv : Value) (ib io j : Nat) : rf.Q where
  V := V30 S g k v z T iv ib io j
  W1 := W1
  base := base
  e := 110
  s := 3
  v0 := v
  n := ms.length
  xs := mc ms
  news := mc [⟨z, 0, T⟩]
  iB := 16
  iA := 17
  iS := 20
  P := ⟨g, k * 5 + 3, none⟩
def V31 (S g k : Nat) (u : Value) (K : ByteArray) (iv : Value) (ib io j : Nat) : Nat → Option Value
  | 0 => some (.pointer (some ⟨g, k * 5, none⟩))
  | 1 => some (.pointer (some ⟨g, k * 5, none⟩))
  | 2 => some (.pointer (some ⟨g, k * 5, none⟩))
  | 3 => some (.pointer (some ⟨g, k * 5 + 4, none⟩))
  | 4 => some u
  | 5 => some (.pointer (some ⟨S, 0 + 5, none⟩))
  | 6 => some iv
  | 7 => some (.int .i64 (j : Int))
  | 8 => some (.pointer (some ⟨ib, io + j * 2, none⟩))
  | 9 => some (.pointer (some ⟨ib, io + j * 2, none⟩))
  | 10 => some (.string K)
  | 13 => some (.pointer (some ⟨g, k * 5, none⟩))
  | 14 => some (.pointer (some ⟨g, k * 5 + 4, none⟩))
  | _ => none
def q31 (W1 : World) (base S g k : Nat) (u : Value) (ks : List ByteArray) (K : ByteArray) (iv : Value) (ib io j : Nat) : rf.Q where
  V := V31 S g k u K iv ib io j
  W1 := W1
  base := base
  e := 9
  s := 1
  v0 := u
  n := ks.length
  xs := ks.map Value.string
  news := [.string K]
  iB := 11
  iA := 12
  iS := 15
  P := ⟨g, k * 5 + 4, none⟩
section
variable {x : World} {base g c : Nat} {xs : List Bx} {us : Nat → Value × Value} {k : Nat} {y : Bx}
theorem up_mails {Q : rf.Q} {m : St} {v' : Value} {x2 : World} (h : OwnL x base (.slice (some ⟨g, 0, none⟩) xs.length c) (xs.set k y) us) (hk : k < xs.length) (hbx : base ≤ x.heap.size) (hW : Q.W1 = x) (hb : Q.base = base) (he : Q.e = 110) (hs : Q.s = 3) (h0 : Q.v0 = (us k).1) (hn : Q.n = y.ms.length) (hx : Q.xs = mc y.ms) (hnew : Q.news = mc [m]) (hm : rf.Mid Q v' x2) :
    OwnL (x2.setCell ⟨g, k * 5 + 3, none⟩ v') base (.slice (some ⟨g, 0, none⟩) xs.length c) (xs.set k ⟨y.nm, y.vd, y.nx, y.ms ++ [m], y.ks⟩) (upd us k (v', (us k).2)) ∧ Below base x (x2.setCell ⟨g, k * 5 + 3, none⟩ v') := by
  have hl : (xs.set k y).length = xs.length := by simp
  have hg := get_set xs k y hk
  have hh := grow_mails (xs := xs.set k y) (m := m) (k := k) (by rw [hl]; exact h) (by rw [hl]; exact hk) hbx hW hb he hs h0 (by rw [hg]; exact hn) (by rw [hg]; exact hx) hnew hm
  rw [hg, hl, set_twice] at hh
  exact hh
theorem up_keys {Q : rf.Q} {X : ByteArray} {u' : Value} {x2 : World} (h : OwnL x base (.slice (some ⟨g, 0, none⟩) xs.length c) (xs.set k y) us) (hk : k < xs.length) (hbx : base ≤ x.heap.size) (hW : Q.W1 = x) (hb : Q.base = base) (he : Q.e = 9) (hs : Q.s = 1) (h0 : Q.v0 = (us k).2) (hn : Q.n = y.ks.length) (hx : Q.xs = y.ks.map Value.string) (hnew : Q.news = [.string X]) (hm : rf.Mid Q u' x2) :
    OwnL (x2.setCell ⟨g, k * 5 + 4, none⟩ u') base (.slice (some ⟨g, 0, none⟩) xs.length c) (xs.set k ⟨y.nm, y.vd, y.nx, y.ms, y.ks ++ [X]⟩) (upd us k ((us k).1, u')) ∧ Below base x (x2.setCell ⟨g, k * 5 + 4, none⟩ u') := by
  have hl : (xs.set k y).length = xs.length := by simp
  have hg := get_set xs k y hk
  have hh := grow_keys (xs := xs.set k y) (X := X) (k := k) (by rw [hl]; exact h) (by rw [hl]; exact hk) hbx hW hb he hs h0 (by rw [hg]; exact hn) (by rw [hg]; exact hx) hnew hm
  rw [hg, hl, set_twice] at hh
  exact hh
theorem up_next (h : OwnL x base (.slice (some ⟨g, 0, none⟩) xs.length c) (xs.set k y) us) (hk : k < xs.length) (z : Int) :
    OwnL (x.setCell ⟨g, k * 5 + 2, none⟩ (.int .i64 z)) base (.slice (some ⟨g, 0, none⟩) xs.length c) (xs.set k ⟨y.nm, y.vd, z, y.ms, y.ks⟩) (upd us k ((us k).1, (us k).2)) ∧ Below base x (x.setCell ⟨g, k * 5 + 2, none⟩ (.int .i64 z)) := by
  have hl : (xs.set k y).length = xs.length := by simp
  have hg := get_set xs k y hk
  have hh := grow_next (xs := xs.set k y) (k := k) (by rw [hl]; exact h) (by rw [hl]; exact hk) z
  rw [hg, hl, set_twice] at hh
  exact hh
theorem up_at (h : OwnL x base (.slice (some ⟨g, 0, none⟩) xs.length c) (xs.set k y) us) (hk : k < xs.length) : x.cell? ⟨g, k * 5 + 2, none⟩ = some (.int .i64 y.nx) ∧ x.cell? ⟨g, k * 5 + 3, none⟩ = some (us k).1 ∧ x.cell? ⟨g, k * 5 + 4, none⟩ = some (us k).2 ∧ (∀ j, x.frozen? ⟨g, j, none⟩ = false) ∧ OwnM x base (us k).1 y.ms ∧ OwnK x base (us k).2 y.ks ∧ (us k).1.ownBlock ≠ some g ∧ (us k).2.ownBlock ≠ some g := by
  have hl : (xs.set k y).length = xs.length := by simp
  have hg := get_set xs k y hk
  have hat := at5 (k := k) (by rw [hl]; exact h) (by rw [hl]; exact hk)
  have hr := h.2.1 k (by rw [hl]; exact hk)
  rw [hg] at hat hr
  have a1 := rowkinds hr.1 h.1 (by decide)
  have a2 := rowkinds hr.2 h.1 (by decide)
  refine ⟨hat.2.2.1, hat.2.2.2.1, hat.2.2.2.2.1, hat.2.2.2.2.2, hr.1, hr.2, fun e => ?_, fun e => ?_⟩
  · rcases a1 with a | a
    · rw [a] at e; cases e
    · exact a e
  · rcases a2 with a | a
    · rw [a] at e; cases e
    · exact a e
end
/-- What the loop keeps. -/
structure Lp (W : World) (base : Nat) (L : Value) (xs : List Bx) (k : Nat) (b : Bx) (ps : List it.Pr) (j : Nat) (y : Bx) (us : Nat → Value × Value) (x : World) : Prop where
  own : OwnL x base L (xs.set k y) us
  bel : Below base W x
  eq : add b ps = add y (ps.drop j)
  nx : y.nx = b.nx + j
  lm : y.ms.length ≤ 30
  lk : y.ks.length ≤ 60

theorem Lp.below {W x x' : World} {base : Nat} {L : Value} {xs : List Bx} {k j : Nat} {b : Bx} {ps : List it.Pr} {y : Bx} {us : Nat → Value × Value} (h : Lp W base L xs k b ps j y us x) (hb : Below x.heap.size x x') (hB : base ≤ x.heap.size := by first | exact h.bel.size | omega) : Lp W base L xs k b ps j y us x' :=
  ⟨ownL_below h.own hb, h.bel.trans (hb.mono hB), h.eq, h.nx, h.lm, h.lk⟩
set_option maxHeartbeats 16000000 in
set_option maxRecDepth 100000 in
theorem apply_items (v : Value) (xs : List Bx) (vs : Nat → Value × Value) (m : mu.Mu) (iv : Value) (w : World) (h : BoxesAt w v xs vs) (hf : Fines xs vs) (hs : bx.Smalls xs) (hi : ItemsIn w w.heap.size iv m.ps) (hsm : it.Small m.ps) (hmb : m.b.size ≤ 1048576) (k : Nat) (hk : k < xs.length) (b : Bx) (hbb : xs.getD k noB = b) (hp : Plc xs m.b (k : Int)) (hlm : b.ms.length ≤ 30) (hlk : b.ks.length ≤ 60) (hnx : 1 ≤ b.nx ∧ b.nx ≤ 1001) (hmk : m.k = 2) :
    Calls Tryz.prog 53 #[v, mu.MV m iv] w fun e w' => Ar xs k (fun y' c => add b m.ps = (y', c)) e w' ∧ Below w.heap.size w w' := by
  obtain ⟨i0, hi0, hz0, hz1, hz2⟩ := info_parts tx.infoT
  obtain ⟨j0, hj0, hy0, hy1, hy2⟩ := info_parts infoS
  have HA : Hid (BoxesAt w v xs vs) := h
  have HBB : Hid (xs.getD k noB = b) := hbb
  clear hbb
  have HF : Hid (Fines xs vs) := hf
  have HI : Hid (ItemsIn w w.heap.size iv m.ps) := hi
  obtain ⟨ia, ic, rfl, hd1⟩ := hi
  obtain ⟨⟨a, cap, rfl, hd2⟩, hd3⟩ := h
  clear hd1 hd2 hd3
  obtain ⟨W, hW⟩ : ∃ W, W = w.alloc (.cells #[.int .i64 2, .int .i64 m.u, .int .i64 m.m, .int .i64 m.f, .string m.b, .slice ia m.ps.length ic] 104) := ⟨_, rfl⟩
  have b1 : Below w.heap.size w W := by rw [hW]; exact bx.new_below w _ _
  have k1 : mu.Lies W w.heap.size 104 m (.slice ia m.ps.length ic) := by rw [hW, ← hmk]; exact mu.lies_new _ _ _ _
  have HAW : Hid (BoxesAt W (.slice a xs.length cap) xs vs) := boxes_below HA.out b1
  have HFI : Hid (Calls Tryz.prog 30 #[.slice a xs.length cap, .string m.b] W fun e w' => e = .returned (.int .i64 (k : Int)) ∧ w' = W) := find_any W.heap.size _ xs vs m.b W HAW.out.1 hs.1 hp
  have HOW : Hid (Calls Tryz.prog 81 #[.slice a xs.length cap] W fun e w' => (∃ L us, e = .returned L ∧ OwnL w' W.heap.size L xs us) ∧ Below W.heap.size W w') := spec_own _ xs vs W HAW.out HF.out hs
  have HKP : Hid (∀ X, Below W.heap.size W X → mu.Lies X w.heap.size 104 m (.slice ia m.ps.length ic) ∧ ItemsIn X w.heap.size (.slice ia m.ps.length ic) m.ps ∧ BoxesAt X (.slice a xs.length cap) xs vs ∧ Below w.heap.size w X) := fun X hX => by
    have hb : Below w.heap.size w X := b1.trans (hX.mono b1.size)
    exact ⟨k1.keep hX, items_below HI.out hb (Nat.le_refl _), boxes_below HA.out hb, hb⟩
  have d0 : W.cell? ⟨w.heap.size, 0, none⟩ = some (.int .i64 2) := by rw [← hmk]; exact k1.c0
  have d4 := k1.c4
  have hxl := hs.1
  unfold mu.MV
  rw [hmk]
  clear b1 k1 hs HA HI HAW hp
  have hk0 : ¬ (k : Int) < 0 := by omega
  go_enter Tryz.func53, Tryz.ntmps53
  go_wp2_with (rw [← hW])
  clear hW
  refine HFI.out.mono ?_
  rintro e w' ⟨rfl, hw'⟩
  have hw' := hw'.symm
  subst hw'
  clear HFI
  go_wp2_with fail
  refine HOW.out.mono ?_
  rintro e w2 ⟨⟨L, us0, rfl, hO⟩, hb2⟩
  clear HOW d0 d4
  obtain ⟨g, c, rfl⟩ : ∃ g c, L = .slice (some ⟨g, 0, none⟩) xs.length c := by
    rcases hO.1.2 with ⟨_, h0⟩ | ⟨g, cap, cur, rfl, _⟩
    · omega
    · exact ⟨g, cap, rfl⟩
  have HL0 : Hid (Lp W W.heap.size (.slice (some ⟨g, 0, none⟩) xs.length c) xs k b m.ps 0 b us0 w2) := ⟨by rw [← HBB.out, set_self xs k hk]; exact hO, hb2, rfl, by simp, hlm, hlk⟩
  obtain ⟨hM, _⟩ := HKP.out w2 hb2
  have d0 : w2.cell? ⟨w.heap.size, 0, none⟩ = some (.int .i64 2) := by rw [← hmk]; exact hM.c0
  have hkx : (k : Int) < (xs.length : Int) := by omega
  clear hO hb2 hM
  obtain ⟨n, hn⟩ : ∃ n, n = m.ps.length := ⟨_, rfl⟩
  have HN : Hid (n = m.ps.length) := hn
  have hnl : n ≤ 1048576 := by rw [hn]; exact hsm.1
  rw [← hn]
  rw [← hn] at HKP
  clear hn
  go_wp2_with fail
  go_loopw [9] (fun i wr => ∃ (j : Nat) (y : Bx) (us : Nat → Value × Value), j ≤ n ∧ i = .int .i64 j ∧ Lp W W.heap.size (.slice (some ⟨g, 0, none⟩) xs.length c) xs k b m.ps j y us wr) (fun i _ => n - (intOf i).toNat)
  case atStart => exact ⟨0, _, us0, Nat.zero_le _, rfl, HL0.out⟩
  case round =>
    clear HL0 d0
    obtain ⟨j, y, us, hj, rfl, hlp⟩ := hrel
    obtain ⟨hM, hIT, hBX, hBW⟩ := HKP.out wr hlp.bel
    have HBX : Hid (BoxesAt wr (.slice a xs.length cap) xs vs ∧ Below w.heap.size w wr) := ⟨hBX, hBW⟩
    have hys : (xs.set k y).length = xs.length := by simp
    have hky : k < (xs.set k y).length := by rw [hys]; exact hk
    have hget := get_set xs k y hk
    have hat := at5 (k := k) (by rw [hys]; exact hlp.own) hky
    have hrows := hlp.own.2.1 k hky
    rw [hget] at hat hrows
    obtain ⟨t0, t1, t2, t3, t4, tf⟩ := hat
    have t0' := t0
    obtain ⟨om, ok⟩ := hrows
    obtain ⟨⟨va, vn, vc, hv1⟩, ⟨ua, un, uc, hu1⟩⟩ := (⟨slice_fine (own_fine om), slice_fine (own_fine ok)⟩ : (∃ a n c, (us k).1 = Value.slice a n c) ∧ (∃ a n c, (us k).2 = Value.slice a n c))
    rw [hv1] at om t3
    rw [hu1] at ok t4
    obtain rfl : un = y.ks.length := by rcases ok.2 with ⟨e, h0⟩ | ⟨g, cap, cur, e, _⟩ <;> cases e <;> omega
    obtain rfl : vn = y.ms.length := by rcases om.2 with ⟨e, h0⟩ | ⟨g, cap, cur, e, _⟩ <;> cases e <;> omega
    have HLO : Hid (Lp W W.heap.size (.slice (some ⟨g, 0, none⟩) xs.length c) xs k b m.ps j y us wr ∧ (us k).1 = .slice va y.ms.length vc ∧ (us k).2 = .slice ua y.ks.length uc) := ⟨hlp, hv1, hu1⟩
    have HRW : Hid (OwnM wr W.heap.size (.slice va y.ms.length vc) y.ms ∧ OwnK wr W.heap.size (.slice ua y.ks.length uc) y.ks) := ⟨om, ok⟩
    have HTX : Hid (ky.TextsAt wr (.slice ua y.ks.length uc) y.ks) := ky.own_texts ok
    have hlks := hlp.lk
    have hlms := hlp.lm
    have d5 := hM.c5
    clear hv1 hu1 om ok hget hys hky hBX hBW hlp hM
    by_cases hlt : j < n
    · have hka : j < m.ps.length := by rw [← HN.out]; exact hlt
      have HKA : Hid (j < m.ps.length) := hka
      obtain ⟨ib, io, hia, hcells⟩ : ∃ b off, ia = some ⟨b, off, none⟩ ∧ ∀ j, j < m.ps.length → wr.cell? ⟨b, off + j * 2, none⟩ = some (.string (m.ps.getD j it.no).1) ∧ wr.cell? ⟨b, off + j * 2 + 1, none⟩ = some (.string (m.ps.getD j it.no).2) := by
        obtain ⟨a', cap', e, hh⟩ := hIT
        rw [HN.out] at e
        cases e
        rcases hh with e | ⟨b, off, e, hb, hc⟩
        · rw [e] at hka; simp at hka
        · exact ⟨b, off, e, hc⟩
      obtain ⟨p0, p1⟩ := hcells j hka
      subst hia
      clear hcells hka hIT
      generalize hK1 : (m.ps.getD j it.no).1 = K1 at p0
      generalize hT1 : (m.ps.getD j it.no).2 = T1 at p1
      have HK1 : Hid (m.ps.getD j it.no = (K1, T1)) := (show _ = _ by rw [← hK1, ← hT1])
      clear hK1 hT1
      have hlt' : (j : Int) < (n : Int) := by omega
      have hj0' : (0 : Int) ≤ (j : Int) := by omega
      have HH : Hid (∀ W, W.heap = wr.heap → Calls Tryz.prog 77 #[.slice ua y.ks.length uc, .string K1] W fun e w' => e = .returned (.bool (hasK y.ks K1)) ∧ w' = W) := fun W hW => by
        rw [← hasK_has]
        refine ky.spec_has _ _ _ _ ?_ (by omega)
        obtain ⟨a', c', e, hh⟩ := HTX.out
        refine ⟨a', c', e, ?_⟩
        rcases hh with hh | ⟨b, off, e2, hc⟩
        · exact .inl hh
        · exact .inr ⟨b, off, e2, fun q hq => by rw [← hc q hq]; simp only [World.cell?, hW]⟩
      have HAD : Hid (add b m.ps = if hasK y.ks K1 = true then (B0, 9) else if y.ks.length = 60 then (B0, 17) else if y.ms.length = 30 then (B0, 7) else add (addI y (K1, T1)) (m.ps.drop (j + 1))) := by
        have h := HLO.out.1.eq
        rw [drop_at HKA.out, HK1.out] at h
        exact h
      go_upto_region 24 with fail
      generalize hha : hasK y.ks K1 = ha at HH HAD
      go_quiet ((go_at_call 77; exact Calls.quiet_of_same (HH.out _ rfl)))
      have hbq : Below wr.heap.size wr (wr.drewN nq) := below_drewN (Below.refl _ _) nq
      have HLOq : Hid (Lp W W.heap.size (.slice (some ⟨g, 0, none⟩) xs.length c) xs k b m.ps j y us (wr.drewN nq) ∧ (us k).1 = .slice va y.ms.length vc ∧ (us k).2 = .slice ua y.ks.length uc) := ⟨HLO.out.1.below hbq HLO.out.1.bel.size, HLO.out.2⟩
      have HRWq : Hid (OwnM (wr.drewN nq) W.heap.size (.slice va y.ms.length vc) y.ms ∧ OwnK (wr.drewN nq) W.heap.size (.slice ua y.ks.length uc) y.ks) := ⟨ow.own_below HRW.out.1 hbq, ow.own_below HRW.out.2 hbq⟩
      have HXX : Hid (BoxesAt (wr.drewN nq) (.slice a xs.length cap) xs vs ∧ Below w.heap.size w (wr.drewN nq)) := ⟨boxes_below HBX.out.1 hbq, HBX.out.2.trans (hbq.mono HBX.out.2.size)⟩
      have kp : ∀ {ad : Addr} {u : Value}, wr.cell? ad = some u → (wr.drewN nq).cell? ad = some u := fun {ad u} hh => (hbq.cell (p := ad) (World.block_lt_of_cell? wr _ hh)).trans hh
      have t0 := kp t0
      have t1 := kp t1
      have t2 := kp t2
      have t3 := kp t3
      have t4 := kp t4
      have d5 := kp d5
      have p0 := kp p0
      have p1 := kp p1
      have tf : ∀ q, (wr.drewN nq).frozen? ⟨g, q, none⟩ = false := fun q => by rw [← tf q]; exact World.frozen?_of_block (hbq.block g (World.block_lt_of_cell? wr _ t0')) 
      have HLO := HLOq
      have HRW := HRWq
      clear HLOq HRWq kp HH HTX HBX hbq
      generalize wr.drewN nq = X at HLO HRW HXX t0 t1 t2 t3 t4 tf d5 p0 p1 ⊢
      cases ha
      case true =>
        have HE : Hid (add b m.ps = (B0, 9)) := by rw [HAD.out, if_pos rfl]; exact rfl
        have HZ : Hid (BoxesAt X (.slice a xs.length cap) xs vs ∧ Below w.heap.size w X) := HXX.out
        clear HXX HLO HRW
        go_wp2
        go_ret2
        exact ⟨⟨_, xs, vs, 9, B0, rfl, HE.out, .inr ⟨by decide, rfl⟩, HZ.out.1, HF.out⟩, HZ.out.2⟩
      by_cases h60 : y.ks.length = 60
      · have e60 : ((y.ks.length : Int) == 60) = true := beq_iff_eq.2 (by omega)
        have HE : Hid (add b m.ps = (B0, 17)) := by rw [HAD.out, if_neg (by simp), if_pos h60]; exact rfl
        have HZ : Hid (BoxesAt X (.slice a xs.length cap) xs vs ∧ Below w.heap.size w X) := HXX.out
        clear HXX HLO HRW
        go_wp2
        go_ret2
        exact ⟨⟨_, xs, vs, 17, B0, rfl, HE.out, .inr ⟨by decide, rfl⟩, HZ.out.1, HF.out⟩, HZ.out.2⟩
      have e60 : ((y.ks.length : Int) == 60) = false := beq_eq_false_iff_ne.2 (by omega)
      by_cases h30 : y.ms.length = 30
      · have e30 : ((y.ms.length : Int) == 30) = true := beq_iff_eq.2 (by omega)
        have HE : Hid (add b m.ps = (B0, 7)) := by rw [HAD.out, if_neg (by simp), if_neg h60, if_pos h30]; exact rfl
        have HZ : Hid (BoxesAt X (.slice a xs.length cap) xs vs ∧ Below w.heap.size w X) := HXX.out
        clear HXX HLO HRW
        go_wp2
        go_ret2
        exact ⟨⟨_, xs, vs, 7, B0, rfl, HE.out, .inr ⟨by decide, rfl⟩, HZ.out.1, HF.out⟩, HZ.out.2⟩
      have e30 : ((y.ms.length : Int) == 30) = false := beq_eq_false_iff_ne.2 (by omega)
      have HNEW : Hid (add b m.ps = add (addI y (K1, T1)) (m.ps.drop (j + 1))) := by rw [HAD.out, if_neg (by simp), if_neg h60, if_neg h30]; exact rfl
      clear HAD HXX
      go_upto_region 30 with fail
      rename_i K2 hK2
      have hlt30 : y.ms.length < 30 := by omega
      have hlt60 : y.ks.length < 60 := by omega
      have HBL : Hid (W.heap.size ≤ X.heap.size) := HLO.out.1.bel.size
      have HGV : Hid ((Value.slice va y.ms.length vc).ownBlock ≠ some g ∧ (Value.slice ua y.ks.length uc).ownBlock ≠ some g) := by
        have hh := up_at HLO.out.1.own hk
        rw [HLO.out.2.1, HLO.out.2.2] at hh
        exact ⟨hh.2.2.2.2.2.2.1, hh.2.2.2.2.2.2.2⟩
      have hwx := HBL.out
      have hbig30 : y.nx ≤ 1050000 ∧ 0 ≤ y.nx := by have h1 := HLO.out.1.nx; omega
      refine rs.region_st (by kernel_rfl) (fun f => { tmps := List.toArray ((.slice a xs.length cap : Value) :: .agg #[.int .i64 2, .int .i64 m.u, .int .i64 m.m, .int .i64 m.f, .string m.b, .slice (some ⟨ib, io, none⟩) n ic] :: undef :: .pointer (some ⟨w.heap.size, 0, none⟩) :: u4 :: u5 :: .int .i64 (k : Int) :: .slice (some ⟨g, 0, none⟩) xs.length c :: .pointer (some ⟨g, k * 5, none⟩) :: .int .i64 (j : Int) :: undef :: undef :: undef :: .slice a xs.length cap :: .pointer (some ⟨w.heap.size, 4, none⟩) :: .string m.b :: .int .i64 (k : Int) :: .pointer (some ⟨w.heap.size, 0, none⟩) :: .int .i64 2 :: .bool false :: undef :: undef :: undef :: undef :: undef :: undef :: undef :: undef :: undef :: undef :: undef :: undef :: undef :: undef :: undef :: undef :: undef :: undef :: undef :: undef :: undef :: .int .i64 (k : Int) :: .bool (decide ((k : Int) < 0)) :: undef :: .slice a xs.length cap :: .slice (some ⟨g, 0, none⟩) xs.length c :: .slice (some ⟨g, 0, none⟩) xs.length c :: .int .i64 (k : Int) :: .pointer (some ⟨g, k * 5, none⟩) :: .pointer (some ⟨w.heap.size, 0, none⟩) :: .int .i64 2 :: undef :: undef :: undef :: undef :: undef :: undef :: undef :: undef :: undef :: undef :: undef :: undef :: undef :: undef :: undef :: undef :: undef :: undef :: undef :: undef :: undef :: undef :: undef :: undef :: undef :: undef :: undef :: undef :: undef :: undef :: undef :: undef :: undef :: undef :: .bool true :: .bool true :: .int .i64 (j : Int) :: .pointer (some ⟨w.heap.size, 5, none⟩) :: .slice (some ⟨ib, io, none⟩) n ic :: .int .i64 (n : Int) :: .bool true :: u92 :: u93 :: .bool false :: .pointer (some ⟨g, k * 5, none⟩) :: .pointer (some ⟨g, k * 5, none⟩) :: .pointer (some ⟨g, k * 5 + 4, none⟩) :: .slice ua y.ks.length uc :: .pointer (some ⟨w.heap.size, 5, none⟩) :: .slice (some ⟨ib, io, none⟩) n ic :: .int .i64 (j : Int) :: .pointer (some ⟨ib, io + j * 2, none⟩) :: .pointer (some ⟨ib, io + j * 2, none⟩) :: .string K1 :: .bool false :: u106 :: .bool false :: .pointer (some ⟨g, k * 5, none⟩) :: .pointer (some ⟨g, k * 5, none⟩) :: .pointer (some ⟨g, k * 5 + 4, none⟩) :: .slice ua y.ks.length uc :: .int .i64 (y.ks.length : Int) :: .bool false :: u114 :: .bool false :: .pointer (some ⟨g, k * 5, none⟩) :: .pointer (some ⟨g, k * 5, none⟩) :: .pointer (some ⟨g, k * 5 + 3, none⟩) :: .slice va y.ms.length vc :: .int .i64 (y.ms.length : Int) :: .bool false :: u122 :: f 0 :: f 1 :: f 2 :: f 3 :: f 4 :: f 5 :: f 6 :: f 7 :: f 8 :: f 9 :: f 10 :: f 11 :: f 12 :: f 13 :: f 14 :: f 15 :: f 16 :: f 17 :: f 18 :: f 19 :: u143 :: u144 :: u145 :: u146 :: u147 :: u148 :: u149 :: u150 :: u151 :: u152 :: u153 :: u154 :: u155 :: u156 :: u157 :: u158 :: u159 :: u160 :: u161 :: u162 :: u163 :: u164 :: undef :: undef :: undef :: undef :: undef :: undef :: undef :: undef :: undef :: undef :: undef :: undef :: undef :: undef :: undef :: undef :: undef :: undef :: undef :: undef :: undef :: undef :: undef :: undef :: undef :: undef :: undef :: undef :: undef :: undef :: undef :: undef :: []), defers := [] }) (rf.J (q30 X W.heap.size w.heap.size g k (.slice va y.ms.length vc) y.ms y.nx T1 (.slice (some ⟨ib, io, none⟩) n ic) ib io j)) (fun j => match j with | 0 => u123 | 1 => u124 | 2 => u125 | 3 => u126 | 4 => u127 | 5 => u128 | 6 => u129 | 7 => u130 | 8 => u131 | 9 => u132 | 10 => u133 | 11 => u134 | 12 => u135 | 13 => u136 | 14 => u137 | 15 => u138 | 16 => u139 | 17 => u140 | 18 => u141 | _ => u142) rfl (rf.J.start (Below.refl _ _).drew) (rs.deps_of (by kernel_rfl)) ?_ ?_
      · intro i o ho D f x hJ hall hni hcl
        have hSA : D 20 → D 17 := fun h => hcl 20 _ h rfl { on := 17, ground := Ground.data } (by simp) rfl
        match i, ho with
        | 0, ho =>
          cases ho
          have HN : Hid (rf.J (q30 X W.heap.size w.heap.size g k (.slice va y.ms.length vc) y.ms y.nx T1 (.slice (some ⟨ib, io, none⟩) n ic) ib io j) (fun j => j = 0 ∨ D j) (rs.upd f 0 (.pointer (some ⟨g, k * 5, none⟩))) x) := hJ.pure _ (fun z hz => Option.some.inj hz) (show (16 : Nat) ≠ 0 by decide) (show (17 : Nat) ≠ 0 by decide) (show (20 : Nat) ≠ 0 by decide)
          clear hJ hall hcl hni hSA
          refine wpOp_step rfl (fun K' hK => ?_)
          go_simp
          exact hK _ _ ⟨.pointer (some ⟨g, k * 5, none⟩), by simp [rs.upd], HN.out⟩
        | 1, ho =>
          cases ho
          have HN : Hid (rf.J (q30 X W.heap.size w.heap.size g k (.slice va y.ms.length vc) y.ms y.nx T1 (.slice (some ⟨ib, io, none⟩) n ic) ib io j) (fun j => j = 1 ∨ D j) (rs.upd f 1 (.pointer (some ⟨g, k * 5, none⟩))) x) := hJ.pure _ (fun z hz => Option.some.inj hz) (show (16 : Nat) ≠ 1 by decide) (show (17 : Nat) ≠ 1 by decide) (show (20 : Nat) ≠ 1 by decide)
          clear hJ hall hcl hni hSA
          refine wpOp_step rfl (fun K' hK => ?_)
          go_simp
          exact hK _ _ ⟨.pointer (some ⟨g, k * 5, none⟩), by simp [rs.upd], HN.out⟩
        | 2, ho =>
          cases ho
          have d1 : D 1 := hall { on := 1, ground := Ground.data } (by simp) rfl
          have h1 : f 1 = .pointer (some ⟨g, k * 5, none⟩) := hJ.1 1 d1 _ rfl
          have HN : Hid (rf.J (q30 X W.heap.size w.heap.size g k (.slice va y.ms.length vc) y.ms y.nx T1 (.slice (some ⟨ib, io, none⟩) n ic) ib io j) (fun j => j = 2 ∨ D j) (rs.upd f 2 (.pointer (some ⟨g, k * 5, none⟩))) x) := hJ.pure _ (fun z hz => Option.some.inj hz) (show (16 : Nat) ≠ 2 by decide) (show (17 : Nat) ≠ 2 by decide) (show (20 : Nat) ≠ 2 by decide)
          clear hJ hall hcl hni hSA
          refine wpOp_step rfl (fun K' hK => ?_)
          simp only [h1]
          go_wp2_with fail
          exact ⟨.pointer (some ⟨g, k * 5, none⟩), by simp [rs.upd, h1], HN.out⟩
        | 3, ho =>
          cases ho
          have d2 : D 2 := hall { on := 2, ground := Ground.data } (by simp) rfl
          have h2 : f 2 = .pointer (some ⟨g, k * 5, none⟩) := hJ.1 2 d2 _ rfl
          have HN : Hid (rf.J (q30 X W.heap.size w.heap.size g k (.slice va y.ms.length vc) y.ms y.nx T1 (.slice (some ⟨ib, io, none⟩) n ic) ib io j) (fun j => j = 3 ∨ D j) (rs.upd f 3 (.pointer (some ⟨g, k * 5 + 3, none⟩))) x) := hJ.pure _ (fun z hz => Option.some.inj hz) (show (16 : Nat) ≠ 3 by decide) (show (17 : Nat) ≠ 3 by decide) (show (20 : Nat) ≠ 3 by decide)
          clear hJ hall hcl hni hSA
          refine wpOp_step rfl (fun K' hK => ?_)
          simp only [h2]
          go_simp
          exact hK _ _ ⟨.pointer (some ⟨g, k * 5 + 3, none⟩), by simp [rs.upd, h2], HN.out⟩
        | 4, ho =>
          cases ho
          have d3 : D 3 := hall { on := 3, ground := Ground.data } (by simp) rfl
          have h3 : f 3 = .pointer (some ⟨g, k * 5 + 3, none⟩) := hJ.1 3 d3 _ rfl
          have nA : ¬ D 17 := fun h => hni (hcl 17 _ (h) rfl { on := 4, ground := Ground.data } (by simp) rfl)
          have hbx : Below X.heap.size X x := hJ.2.1 nA
          have cL := (hbx.cell (p := ⟨g, k * 5 + 3, none⟩) (World.block_lt_of_cell? X _ t3)).trans t3
          have HN : Hid (rf.J (q30 X W.heap.size w.heap.size g k (.slice va y.ms.length vc) y.ms y.nx T1 (.slice (some ⟨ib, io, none⟩) n ic) ib io j) (fun j => j = 4 ∨ D j) (rs.upd f 4 (.slice va y.ms.length vc)) x) := hJ.pure _ (fun z hz => Option.some.inj hz) (show (16 : Nat) ≠ 4 by decide) (show (17 : Nat) ≠ 4 by decide) (show (20 : Nat) ≠ 4 by decide)
          clear hJ hall hcl hni hSA hbx nA
          refine wpOp_step rfl (fun K' hK => ?_)
          simp only [h3]
          go_wp2_with fail
          exact ⟨.slice va y.ms.length vc, by simp [rs.upd, h3], HN.out⟩
        | 5, ho =>
          cases ho
          have HN : Hid (rf.J (q30 X W.heap.size w.heap.size g k (.slice va y.ms.length vc) y.ms y.nx T1 (.slice (some ⟨ib, io, none⟩) n ic) ib io j) (fun j => j = 5 ∨ D j) (rs.upd f 5 (.pointer (some ⟨g, k * 5, none⟩))) x) := hJ.pure _ (fun z hz => Option.some.inj hz) (show (16 : Nat) ≠ 5 by decide) (show (17 : Nat) ≠ 5 by decide) (show (20 : Nat) ≠ 5 by decide)
          clear hJ hall hcl hni hSA
          refine wpOp_step rfl (fun K' hK => ?_)
          go_simp
          exact hK _ _ ⟨.pointer (some ⟨g, k * 5, none⟩), by simp [rs.upd], HN.out⟩
        | 6, ho =>
          cases ho
          have d5 : D 5 := hall { on := 5, ground := Ground.data } (by simp) rfl
          have h5 : f 5 = .pointer (some ⟨g, k * 5, none⟩) := hJ.1 5 d5 _ rfl
          have HN : Hid (rf.J (q30 X W.heap.size w.heap.size g k (.slice va y.ms.length vc) y.ms y.nx T1 (.slice (some ⟨ib, io, none⟩) n ic) ib io j) (fun j => j = 6 ∨ D j) (rs.upd f 6 (.pointer (some ⟨g, k * 5, none⟩))) x) := hJ.pure _ (fun z hz => Option.some.inj hz) (show (16 : Nat) ≠ 6 by decide) (show (17 : Nat) ≠ 6 by decide) (show (20 : Nat) ≠ 6 by decide)
          clear hJ hall hcl hni hSA
          refine wpOp_step rfl (fun K' hK => ?_)
          simp only [h5]
          go_wp2_with fail
          exact ⟨.pointer (some ⟨g, k * 5, none⟩), by simp [rs.upd, h5], HN.out⟩
        | 7, ho =>
          cases ho
          have d6 : D 6 := hall { on := 6, ground := Ground.data } (by simp) rfl
          have h6 : f 6 = .pointer (some ⟨g, k * 5, none⟩) := hJ.1 6 d6 _ rfl
          have HN : Hid (rf.J (q30 X W.heap.size w.heap.size g k (.slice va y.ms.length vc) y.ms y.nx T1 (.slice (some ⟨ib, io, none⟩) n ic) ib io j) (fun j => j = 7 ∨ D j) (rs.upd f 7 (.pointer (some ⟨g, k * 5 + 2, none⟩))) x) := hJ.pure _ (fun z hz => Option.some.inj hz) (show (16 : Nat) ≠ 7 by decide) (show (17 : Nat) ≠ 7 by decide) (show (20 : Nat) ≠ 7 by decide)
          clear hJ hall hcl hni hSA
          refine wpOp_step rfl (fun K' hK => ?_)
          simp only [h6]
          go_simp
          exact hK _ _ ⟨.pointer (some ⟨g, k * 5 + 2, none⟩), by simp [rs.upd, h6], HN.out⟩
        | 8, ho =>
          cases ho
          have d7 : D 7 := hall { on := 7, ground := Ground.data } (by simp) rfl
          have h7 : f 7 = .pointer (some ⟨g, k * 5 + 2, none⟩) := hJ.1 7 d7 _ rfl
          have nA : ¬ D 17 := fun h => hni (hcl 15 _ (hcl 16 _ (hcl 17 _ (h) rfl { on := 16, ground := Ground.data } (by simp) rfl) rfl { on := 15, ground := Ground.data } (by simp) rfl) rfl { on := 8, ground := Ground.data } (by simp) rfl)
          have hbx : Below X.heap.size X x := hJ.2.1 nA
          have cL := (hbx.cell (p := ⟨g, k * 5 + 2, none⟩) (World.block_lt_of_cell? X _ t2)).trans t2
          have HN : Hid (rf.J (q30 X W.heap.size w.heap.size g k (.slice va y.ms.length vc) y.ms y.nx T1 (.slice (some ⟨ib, io, none⟩) n ic) ib io j) (fun j => j = 8 ∨ D j) (rs.upd f 8 (.int .i64 y.nx)) x) := hJ.pure _ (fun z hz => Option.some.inj hz) (show (16 : Nat) ≠ 8 by decide) (show (17 : Nat) ≠ 8 by decide) (show (20 : Nat) ≠ 8 by decide)
          clear hJ hall hcl hni hSA hbx nA
          refine wpOp_step rfl (fun K' hK => ?_)
          simp only [h7]
          go_wp2_with fail
          exact ⟨.int .i64 y.nx, by simp [rs.upd, h7], HN.out⟩
        | 9, ho =>
          cases ho
          have HN : Hid (rf.J (q30 X W.heap.size w.heap.size g k (.slice va y.ms.length vc) y.ms y.nx T1 (.slice (some ⟨ib, io, none⟩) n ic) ib io j) (fun j => j = 9 ∨ D j) (rs.upd f 9 (.pointer (some ⟨w.heap.size, 0 + 5, none⟩))) x) := hJ.pure _ (fun z hz => Option.some.inj hz) (show (16 : Nat) ≠ 9 by decide) (show (17 : Nat) ≠ 9 by decide) (show (20 : Nat) ≠ 9 by decide)
          clear hJ hall hcl hni hSA
          refine wpOp_step rfl (fun K' hK => ?_)
          go_simp
          exact hK _ _ ⟨.pointer (some ⟨w.heap.size, 0 + 5, none⟩), by simp [rs.upd], HN.out⟩
        | 10, ho =>
          cases ho
          have d9 : D 9 := hall { on := 9, ground := Ground.data } (by simp) rfl
          have h9 : f 9 = .pointer (some ⟨w.heap.size, 0 + 5, none⟩) := hJ.1 9 d9 _ rfl
          have nA : ¬ D 17 := fun h => hni (hcl 12 _ (hcl 13 _ (hcl 14 _ (hcl 15 _ (hcl 16 _ (hcl 17 _ (h) rfl { on := 16, ground := Ground.data } (by simp) rfl) rfl { on := 15, ground := Ground.data } (by simp) rfl) rfl { on := 14, ground := Ground.data } (by simp) rfl) rfl { on := 13, ground := Ground.data } (by simp) rfl) rfl { on := 12, ground := Ground.data } (by simp) rfl) rfl { on := 10, ground := Ground.data } (by simp) rfl)
          have hbx : Below X.heap.size X x := hJ.2.1 nA
          have cL := (hbx.cell (p := ⟨w.heap.size, 0 + 5, none⟩) (World.block_lt_of_cell? X _ d5)).trans d5
          have HN : Hid (rf.J (q30 X W.heap.size w.heap.size g k (.slice va y.ms.length vc) y.ms y.nx T1 (.slice (some ⟨ib, io, none⟩) n ic) ib io j) (fun j => j = 10 ∨ D j) (rs.upd f 10 (.slice (some ⟨ib, io, none⟩) n ic)) x) := hJ.pure _ (fun z hz => Option.some.inj hz) (show (16 : Nat) ≠ 10 by decide) (show (17 : Nat) ≠ 10 by decide) (show (20 : Nat) ≠ 10 by decide)
          clear hJ hall hcl hni hSA hbx nA
          refine wpOp_step rfl (fun K' hK => ?_)
          simp only [h9]
          go_wp2_with fail
          exact ⟨.slice (some ⟨ib, io, none⟩) n ic, by simp [rs.upd, h9], HN.out⟩
        | 11, ho =>
          cases ho
          have HN : Hid (rf.J (q30 X W.heap.size w.heap.size g k (.slice va y.ms.length vc) y.ms y.nx T1 (.slice (some ⟨ib, io, none⟩) n ic) ib io j) (fun j => j = 11 ∨ D j) (rs.upd f 11 (.int .i64 (j : Int))) x) := hJ.pure _ (fun z hz => Option.some.inj hz) (show (16 : Nat) ≠ 11 by decide) (show (17 : Nat) ≠ 11 by decide) (show (20 : Nat) ≠ 11 by decide)
          clear hJ hall hcl hni hSA
          refine wpOp_step rfl (fun K' hK => ?_)
          go_simp
          exact hK _ _ ⟨.int .i64 (j : Int), by simp [rs.upd], HN.out⟩
        | 12, ho =>
          cases ho
          have d10 : D 10 := hall { on := 10, ground := Ground.data } (by simp) rfl
          have h10 : f 10 = .slice (some ⟨ib, io, none⟩) n ic := hJ.1 10 d10 _ rfl
          have d11 : D 11 := hall { on := 11, ground := Ground.data } (by simp) rfl
          have h11 : f 11 = .int .i64 (j : Int) := hJ.1 11 d11 _ rfl
          have HN : Hid (rf.J (q30 X W.heap.size w.heap.size g k (.slice va y.ms.length vc) y.ms y.nx T1 (.slice (some ⟨ib, io, none⟩) n ic) ib io j) (fun j => j = 12 ∨ D j) (rs.upd f 12 (.pointer (some ⟨ib, io + j * 2, none⟩))) x) := hJ.pure _ (fun z hz => Option.some.inj hz) (show (16 : Nat) ≠ 12 by decide) (show (17 : Nat) ≠ 12 by decide) (show (20 : Nat) ≠ 12 by decide)
          clear hJ hall hcl hni hSA
          refine wpOp_step rfl (fun K' hK => ?_)
          simp only [h10, h11]
          go_wp2_with fail
          exact ⟨.pointer (some ⟨ib, io + j * 2, none⟩), by simp [rs.upd, h10, h11], HN.out⟩
        | 13, ho =>
          cases ho
          have d12 : D 12 := hall { on := 12, ground := Ground.data } (by simp) rfl
          have h12 : f 12 = .pointer (some ⟨ib, io + j * 2, none⟩) := hJ.1 12 d12 _ rfl
          have HN : Hid (rf.J (q30 X W.heap.size w.heap.size g k (.slice va y.ms.length vc) y.ms y.nx T1 (.slice (some ⟨ib, io, none⟩) n ic) ib io j) (fun j => j = 13 ∨ D j) (rs.upd f 13 (.pointer (some ⟨ib, io + j * 2 + 1, none⟩))) x) := hJ.pure _ (fun z hz => Option.some.inj hz) (show (16 : Nat) ≠ 13 by decide) (show (17 : Nat) ≠ 13 by decide) (show (20 : Nat) ≠ 13 by decide)
          clear hJ hall hcl hni hSA
          refine wpOp_step rfl (fun K' hK => ?_)
          simp only [h12]
          go_simp
          exact hK _ _ ⟨.pointer (some ⟨ib, io + j * 2 + 1, none⟩), by simp [rs.upd, h12], HN.out⟩
        | 14, ho =>
          cases ho
          have d13 : D 13 := hall { on := 13, ground := Ground.data } (by simp) rfl
          have h13 : f 13 = .pointer (some ⟨ib, io + j * 2 + 1, none⟩) := hJ.1 13 d13 _ rfl
          have nA : ¬ D 17 := fun h => hni (hcl 15 _ (hcl 16 _ (hcl 17 _ (h) rfl { on := 16, ground := Ground.data } (by simp) rfl) rfl { on := 15, ground := Ground.data } (by simp) rfl) rfl { on := 14, ground := Ground.data } (by simp) rfl)
          have hbx : Below X.heap.size X x := hJ.2.1 nA
          have cL := (hbx.cell (p := ⟨ib, io + j * 2 + 1, none⟩) (World.block_lt_of_cell? X _ p1)).trans p1
          have HN : Hid (rf.J (q30 X W.heap.size w.heap.size g k (.slice va y.ms.length vc) y.ms y.nx T1 (.slice (some ⟨ib, io, none⟩) n ic) ib io j) (fun j => j = 14 ∨ D j) (rs.upd f 14 (.string T1)) x) := hJ.pure _ (fun z hz => Option.some.inj hz) (show (16 : Nat) ≠ 14 by decide) (show (17 : Nat) ≠ 14 by decide) (show (20 : Nat) ≠ 14 by decide)
          clear hJ hall hcl hni hSA hbx nA
          refine wpOp_step rfl (fun K' hK => ?_)
          simp only [h13]
          go_wp2_with fail
          exact ⟨.string T1, by simp [rs.upd, h13], HN.out⟩
        | 15, ho =>
          cases ho
          have d8 : D 8 := hall { on := 8, ground := Ground.data } (by simp) rfl
          have h8 : f 8 = .int .i64 y.nx := hJ.1 8 d8 _ rfl
          have d14 : D 14 := hall { on := 14, ground := Ground.data } (by simp) rfl
          have h14 : f 14 = .string T1 := hJ.1 14 d14 _ rfl
          have HN : Hid (rf.J (q30 X W.heap.size w.heap.size g k (.slice va y.ms.length vc) y.ms y.nx T1 (.slice (some ⟨ib, io, none⟩) n ic) ib io j) (fun j => j = 15 ∨ D j) (rs.upd f 15 (.agg #[.int .i64 y.nx, .int .i64 0, .string T1])) x) := hJ.pure _ (fun z hz => Option.some.inj hz) (show (16 : Nat) ≠ 15 by decide) (show (17 : Nat) ≠ 15 by decide) (show (20 : Nat) ≠ 15 by decide)
          clear hJ hall hcl hni hSA
          refine wpOp_step rfl (fun K' hK => ?_)
          simp only [h8, h14]
          go_wp2_with fail
          exact ⟨.agg #[.int .i64 y.nx, .int .i64 0, .string T1], by simp [rs.upd, h8, h14], HN.out⟩
        | 16, ho =>
          cases ho
          have d15 : D 15 := hall { on := 15, ground := Ground.data } (by simp) rfl
          have h15 : f 15 = .agg #[.int .i64 y.nx, .int .i64 0, .string T1] := hJ.1 15 d15 _ rfl
          have nA : ¬ D 17 := fun h => hni (hcl 17 _ (h) rfl { on := 16, ground := Ground.data } (by simp) rfl)
          have nS : ¬ D 20 := fun h => nA (hSA h)
          have HN : Hid (rf.J (q30 X W.heap.size w.heap.size g k (.slice va y.ms.length vc) y.ms y.nx T1 (.slice (some ⟨ib, io, none⟩) n ic) ib io j) (fun j => j = 16 ∨ D j) (rs.upd f 16 (.slice (some ⟨x.heap.size, 0, none⟩) 1 1)) (x.alloc (.cells #[.int .i64 y.nx, .int .i64 0, .string T1] 110))) := hJ.build _ rfl nA nS rfl (show (17 : Nat) ≠ 16 by decide) (show (20 : Nat) ≠ 16 by decide) ((Below.refl _ _).alloc (Nat.le_refl _) _) (three_cells x _ _ _ _ rfl)
          clear hJ hall hcl hni hSA nA nS
          refine wpOp_step rfl (fun K' hK => ?_)
          simp only [h15]
          go_wp2_with fail
          exact ⟨_, by simp [rs.upd, h15], HN.out⟩
        | 17, ho =>
          cases ho
          have d4 : D 4 := hall { on := 4, ground := Ground.data } (by simp) rfl
          have h4 : f 4 = .slice va y.ms.length vc := hJ.1 4 d4 _ rfl
          have d16 : D 16 := hall { on := 16, ground := Ground.data } (by simp) rfl
          have nS : ¬ D 20 := fun h => hni (hSA h)
          have hbx : Below X.heap.size X x := hJ.2.1 hni
          obtain ⟨gg, hgB, hgc⟩ := hJ.2.2.1 d16 hni
          have hownX := ow.own_below (HRW.out.1) hbx
          have hszX := hbx.size
          refine wpOp_step rfl (fun K' hK => ?_)
          rw [if_pos (by rfl)]
          refine apk.wp_append_keep x (.tmp 127) (.tmp 139) 97 rfl W.heap.size 110 j0 (.agg #[.int .i64 0, .int .i64 0, .string ⟨#[]⟩]) 3 32 Tryz.underlying97 hj0 hy0 hy1 hy2 rfl (by decide) (.slice va y.ms.length vc) y.ms.length (mc y.ms) h4 hownX ⟨gg, 0, none⟩ 1 1 (mc [⟨y.nx, 0, T1⟩]) hgB rfl (fun j u hj => by rw [ow.add_at]; exact hgc j u hj) (mc_one _) (by unfold maxLen; omega) (by omega) (by omega) (fun v' X' hown' hgr' hkp => hK _ _ ⟨v', by simp [rs.upd, Act.put], hJ.app v' rfl hni nS rfl (show (20 : Nat) ≠ 17 by decide) hown' hgr' hkp⟩)
        | 18, ho =>
          cases ho
          have d0 : D 0 := hall { on := 0, ground := Ground.data } (by simp) rfl
          have h0 : f 0 = .pointer (some ⟨g, k * 5, none⟩) := hJ.1 0 d0 _ rfl
          have HN : Hid (rf.J (q30 X W.heap.size w.heap.size g k (.slice va y.ms.length vc) y.ms y.nx T1 (.slice (some ⟨ib, io, none⟩) n ic) ib io j) (fun j => j = 18 ∨ D j) (rs.upd f 18 (.pointer (some ⟨g, k * 5, none⟩))) x) := hJ.pure _ (fun z hz => Option.some.inj hz) (show (16 : Nat) ≠ 18 by decide) (show (17 : Nat) ≠ 18 by decide) (show (20 : Nat) ≠ 18 by decide)
          clear hJ hall hcl hni hSA
          refine wpOp_step rfl (fun K' hK => ?_)
          simp only [h0]
          go_wp2_with fail
          exact ⟨.pointer (some ⟨g, k * 5, none⟩), by simp [rs.upd, h0], HN.out⟩
        | 19, ho =>
          cases ho
          have d18 : D 18 := hall { on := 18, ground := Ground.data } (by simp) rfl
          have h18 : f 18 = .pointer (some ⟨g, k * 5, none⟩) := hJ.1 18 d18 _ rfl
          have HN : Hid (rf.J (q30 X W.heap.size w.heap.size g k (.slice va y.ms.length vc) y.ms y.nx T1 (.slice (some ⟨ib, io, none⟩) n ic) ib io j) (fun j => j = 19 ∨ D j) (rs.upd f 19 (.pointer (some ⟨g, k * 5 + 3, none⟩))) x) := hJ.pure _ (fun z hz => Option.some.inj hz) (show (16 : Nat) ≠ 19 by decide) (show (17 : Nat) ≠ 19 by decide) (show (20 : Nat) ≠ 19 by decide)
          clear hJ hall hcl hni hSA
          refine wpOp_step rfl (fun K' hK => ?_)
          simp only [h18]
          go_simp
          exact hK _ _ ⟨.pointer (some ⟨g, k * 5 + 3, none⟩), by simp [rs.upd, h18], HN.out⟩
        | 20, ho =>
          cases ho
          have dA : D 17 := hall { on := 17, ground := Ground.data } (by simp) rfl
          have d19 : D 19 := hall { on := 19, ground := Ground.data } (by simp) rfl
          have h19 : f 19 = .pointer (some ⟨g, k * 5 + 3, none⟩) := hJ.1 19 d19 _ rfl
          obtain ⟨x1, hb1, hg1, ho1, _, _⟩ := hJ.2.2.2.1 dA hni
          have hgl : g < X.heap.size := World.block_lt_of_cell? X _ t3
          have hblk : x.heap[g]? = X.heap[g]? := (hg1.block g (Nat.lt_of_lt_of_le hgl hb1.size) (fun e => HGV.out.1 e.symm)).trans (hb1.block g hgl)
          obtain ⟨aA, kA, cA, hA0⟩ := slice_fine (own_fine ho1)
          have hA : f 17 = .slice aA kA cA := hA0
          have cX := (World.cell?_of_block (a := ⟨g, k * 5 + 3, none⟩) hblk).trans t3
          have eX := (World.frozen?_of_block (a := ⟨g, k * 5 + 3, none⟩) hblk).trans (tf (k * 5 + 3))
          have HN : Hid (rf.J (q30 X W.heap.size w.heap.size g k (.slice va y.ms.length vc) y.ms y.nx T1 (.slice (some ⟨ib, io, none⟩) n ic) ib io j) (fun j => j = 20 ∨ D j) (rs.upd f 20 undef) (x.setCell ⟨g, k * 5 + 3, none⟩ (.slice aA kA cA))) := by rw [← hA]; exact hJ.store undef rfl dA hni rfl (show (17 : Nat) ≠ 20 by decide)
          clear hJ hall hcl hni hSA hb1 hg1 ho1 hA0 hblk
          refine wpOp_step rfl (fun K' hK => ?_)
          simp only [hA, h19]
          go_wp2_with fail
          exact ⟨undef, by simp [rs.upd, hA, h19], HN.out⟩
        | k + 21, ho => simp at ho
      · intro D f x hD hJ
        obtain ⟨v', x2, hmid, hx⟩ := hJ.2.2.2.2 (hD 20 (by decide))
        obtain ⟨va', vn', vc', rfl⟩ : ∃ a n c, v' = .slice a n c := by obtain ⟨_, _, _, ho, _⟩ := hmid; exact slice_fine (own_fine ho)
        have hup := up_mails (m := ⟨y.nx, 0, T1⟩) HLO.out.1.own hk HBL.out rfl rfl rfl rfl HLO.out.2.1.symm rfl rfl rfl hmid
        rw [HLO.out.2.2] at hup
        have HO3 : Hid (OwnL x W.heap.size (.slice (some ⟨g, 0, none⟩) xs.length c) (xs.set k ⟨y.nm, y.vd, y.nx, y.ms ++ [⟨y.nx, 0, T1⟩], y.ks⟩) (upd us k (.slice va' vn' vc', .slice ua y.ks.length uc)) ∧ Below W.heap.size W x) := by
          rw [hx]
          exact ⟨hup.1, HLO.out.1.bel.trans hup.2⟩
        have hbX : Below W.heap.size X x := by rw [hx]; exact hup.2
        have hu : ∀ p : Value × Value, upd us k p k = p := fun p => by simp [upd]
        have hat3 := up_at HO3.out.1 hk
        rw [hu] at hat3
        obtain ⟨s2, z1, s4, sf, z2, hrw3, z3, hgv3⟩ := hat3
        clear z1 z2 z3
        have HRW3 : Hid (OwnK x W.heap.size (.slice ua y.ks.length uc) y.ks) := hrw3
        have HGV3 : Hid ((Value.slice ua y.ks.length uc).ownBlock ≠ some g) := hgv3
        obtain ⟨hM3, hI3, hB3, hW3⟩ := HKP.out x HO3.out.2
        have e5 := hM3.c5
        have e0 : x.cell? ⟨ib, io + j * 2, none⟩ = some (.string K1) := by
          obtain ⟨a', cap', e, hh⟩ := hI3
          rw [HN.out] at e
          cases e
          have hka := HKA.out
          rcases hh with e | ⟨b', off, e, hb, hc⟩
          · rw [e] at hka; simp at hka
          · cases e
            have := (hc j hka).1
            rw [HK1.out] at this
            exact this
        have HLN : Hid (Lp W W.heap.size (.slice (some ⟨g, 0, none⟩) xs.length c) xs k b m.ps j y us X) := HLO.out.1
        have hwx3 : W.heap.size ≤ x.heap.size := HO3.out.2.size
        clear hJ hmid hx hD hM3 hI3 hB3 hW3 hup hrw3 hgv3 hbX HLO HRW HGV t0 t0' t1 t2 t3 t4 tf d5 p0 p1 hwx HBL
        refine hK2 _ _ ?_
        generalize f 0 = e_0
        generalize f 1 = e_1
        generalize f 2 = e_2
        generalize f 3 = e_3
        generalize f 4 = e_4
        generalize f 5 = e_5
        generalize f 6 = e_6
        generalize f 7 = e_7
        generalize f 8 = e_8
        generalize f 9 = e_9
        generalize f 10 = e_10
        generalize f 11 = e_11
        generalize f 12 = e_12
        generalize f 13 = e_13
        generalize f 14 = e_14
        generalize f 15 = e_15
        generalize f 16 = e_16
        generalize f 17 = e_17
        generalize f 18 = e_18
        generalize f 19 = e_19
        clear f D
        go_upto_region 31 with fail
        rename_i K3 hK3
        generalize x = X3 at HO3 HRW3 HGV3 s2 s4 sf e5 e0 hwx3 ⊢
        clear x
        refine rs.region_st (by kernel_rfl) (fun f => { tmps := List.toArray ((.slice a xs.length cap : Value) :: .agg #[.int .i64 2, .int .i64 m.u, .int .i64 m.m, .int .i64 m.f, .string m.b, .slice (some ⟨ib, io, none⟩) n ic] :: undef :: .pointer (some ⟨w.heap.size, 0, none⟩) :: u4 :: u5 :: .int .i64 (k : Int) :: .slice (some ⟨g, 0, none⟩) xs.length c :: .pointer (some ⟨g, k * 5, none⟩) :: .int .i64 (j : Int) :: undef :: undef :: undef :: .slice a xs.length cap :: .pointer (some ⟨w.heap.size, 4, none⟩) :: .string m.b :: .int .i64 (k : Int) :: .pointer (some ⟨w.heap.size, 0, none⟩) :: .int .i64 2 :: .bool false :: undef :: undef :: undef :: undef :: undef :: undef :: undef :: undef :: undef :: undef :: undef :: undef :: undef :: undef :: undef :: undef :: undef :: undef :: undef :: undef :: undef :: .int .i64 (k : Int) :: .bool (decide ((k : Int) < 0)) :: undef :: .slice a xs.length cap :: .slice (some ⟨g, 0, none⟩) xs.length c :: .slice (some ⟨g, 0, none⟩) xs.length c :: .int .i64 (k : Int) :: .pointer (some ⟨g, k * 5, none⟩) :: .pointer (some ⟨w.heap.size, 0, none⟩) :: .int .i64 2 :: undef :: undef :: undef :: undef :: undef :: undef :: undef :: undef :: undef :: undef :: undef :: undef :: undef :: undef :: undef :: undef :: undef :: undef :: undef :: undef :: undef :: undef :: undef :: undef :: undef :: undef :: undef :: undef :: undef :: undef :: undef :: undef :: undef :: undef :: .bool true :: .bool true :: .int .i64 (j : Int) :: .pointer (some ⟨w.heap.size, 5, none⟩) :: .slice (some ⟨ib, io, none⟩) n ic :: .int .i64 (n : Int) :: .bool true :: u92 :: u93 :: .bool false :: .pointer (some ⟨g, k * 5, none⟩) :: .pointer (some ⟨g, k * 5, none⟩) :: .pointer (some ⟨g, k * 5 + 4, none⟩) :: .slice ua y.ks.length uc :: .pointer (some ⟨w.heap.size, 5, none⟩) :: .slice (some ⟨ib, io, none⟩) n ic :: .int .i64 (j : Int) :: .pointer (some ⟨ib, io + j * 2, none⟩) :: .pointer (some ⟨ib, io + j * 2, none⟩) :: .string K1 :: .bool false :: u106 :: .bool false :: .pointer (some ⟨g, k * 5, none⟩) :: .pointer (some ⟨g, k * 5, none⟩) :: .pointer (some ⟨g, k * 5 + 4, none⟩) :: .slice ua y.ks.length uc :: .int .i64 (y.ks.length : Int) :: .bool false :: u114 :: .bool false :: .pointer (some ⟨g, k * 5, none⟩) :: .pointer (some ⟨g, k * 5, none⟩) :: .pointer (some ⟨g, k * 5 + 3, none⟩) :: .slice va y.ms.length vc :: .int .i64 (y.ms.length : Int) :: .bool false :: u122 :: e_0 :: e_1 :: e_2 :: e_3 :: e_4 :: e_5 :: e_6 :: e_7 :: e_8 :: e_9 :: e_10 :: e_11 :: e_12 :: e_13 :: e_14 :: e_15 :: e_16 :: e_17 :: e_18 :: e_19 :: f 0 :: f 1 :: f 2 :: f 3 :: f 4 :: f 5 :: f 6 :: f 7 :: f 8 :: f 9 :: f 10 :: f 11 :: f 12 :: f 13 :: f 14 :: u158 :: u159 :: u160 :: u161 :: u162 :: u163 :: u164 :: undef :: undef :: undef :: undef :: undef :: undef :: undef :: undef :: undef :: undef :: undef :: undef :: undef :: undef :: undef :: undef :: undef :: undef :: undef :: undef :: undef :: undef :: undef :: undef :: undef :: undef :: undef :: undef :: undef :: undef :: undef :: undef :: []), defers := [] }) (rf.J (q31 X3 W.heap.size w.heap.size g k (.slice ua y.ks.length uc) y.ks K1 (.slice (some ⟨ib, io, none⟩) n ic) ib io j)) (fun j => match j with | 0 => u143 | 1 => u144 | 2 => u145 | 3 => u146 | 4 => u147 | 5 => u148 | 6 => u149 | 7 => u150 | 8 => u151 | 9 => u152 | 10 => u153 | 11 => u154 | 12 => u155 | 13 => u156 | _ => u157) rfl (rf.J.start (Below.refl _ _).drew) (rs.deps_of (by kernel_rfl)) ?_ ?_
        · intro i o ho D f x hJ hall hni hcl
          have hSA : D 15 → D 12 := fun h => hcl 15 _ h rfl { on := 12, ground := Ground.data } (by simp) rfl
          match i, ho with
          | 0, ho =>
            cases ho
            have HN : Hid (rf.J (q31 X3 W.heap.size w.heap.size g k (.slice ua y.ks.length uc) y.ks K1 (.slice (some ⟨ib, io, none⟩) n ic) ib io j) (fun j => j = 0 ∨ D j) (rs.upd f 0 (.pointer (some ⟨g, k * 5, none⟩))) x) := hJ.pure _ (fun z hz => Option.some.inj hz) (show (11 : Nat) ≠ 0 by decide) (show (12 : Nat) ≠ 0 by decide) (show (15 : Nat) ≠ 0 by decide)
            clear hJ hall hcl hni hSA
            refine wpOp_step rfl (fun K' hK => ?_)
            go_simp
            exact hK _ _ ⟨.pointer (some ⟨g, k * 5, none⟩), by simp [rs.upd], HN.out⟩
          | 1, ho =>
            cases ho
            have HN : Hid (rf.J (q31 X3 W.heap.size w.heap.size g k (.slice ua y.ks.length uc) y.ks K1 (.slice (some ⟨ib, io, none⟩) n ic) ib io j) (fun j => j = 1 ∨ D j) (rs.upd f 1 (.pointer (some ⟨g, k * 5, none⟩))) x) := hJ.pure _ (fun z hz => Option.some.inj hz) (show (11 : Nat) ≠ 1 by decide) (show (12 : Nat) ≠ 1 by decide) (show (15 : Nat) ≠ 1 by decide)
            clear hJ hall hcl hni hSA
            refine wpOp_step rfl (fun K' hK => ?_)
            go_simp
            exact hK _ _ ⟨.pointer (some ⟨g, k * 5, none⟩), by simp [rs.upd], HN.out⟩
          | 2, ho =>
            cases ho
            have d1 : D 1 := hall { on := 1, ground := Ground.data } (by simp) rfl
            have h1 : f 1 = .pointer (some ⟨g, k * 5, none⟩) := hJ.1 1 d1 _ rfl
            have HN : Hid (rf.J (q31 X3 W.heap.size w.heap.size g k (.slice ua y.ks.length uc) y.ks K1 (.slice (some ⟨ib, io, none⟩) n ic) ib io j) (fun j => j = 2 ∨ D j) (rs.upd f 2 (.pointer (some ⟨g, k * 5, none⟩))) x) := hJ.pure _ (fun z hz => Option.some.inj hz) (show (11 : Nat) ≠ 2 by decide) (show (12 : Nat) ≠ 2 by decide) (show (15 : Nat) ≠ 2 by decide)
            clear hJ hall hcl hni hSA
            refine wpOp_step rfl (fun K' hK => ?_)
            simp only [h1]
            go_wp2_with fail
            exact ⟨.pointer (some ⟨g, k * 5, none⟩), by simp [rs.upd, h1], HN.out⟩
          | 3, ho =>
            cases ho
            have d2 : D 2 := hall { on := 2, ground := Ground.data } (by simp) rfl
            have h2 : f 2 = .pointer (some ⟨g, k * 5, none⟩) := hJ.1 2 d2 _ rfl
            have HN : Hid (rf.J (q31 X3 W.heap.size w.heap.size g k (.slice ua y.ks.length uc) y.ks K1 (.slice (some ⟨ib, io, none⟩) n ic) ib io j) (fun j => j = 3 ∨ D j) (rs.upd f 3 (.pointer (some ⟨g, k * 5 + 4, none⟩))) x) := hJ.pure _ (fun z hz => Option.some.inj hz) (show (11 : Nat) ≠ 3 by decide) (show (12 : Nat) ≠ 3 by decide) (show (15 : Nat) ≠ 3 by decide)
            clear hJ hall hcl hni hSA
            refine wpOp_step rfl (fun K' hK => ?_)
            simp only [h2]
            go_simp
            exact hK _ _ ⟨.pointer (some ⟨g, k * 5 + 4, none⟩), by simp [rs.upd, h2], HN.out⟩
          | 4, ho =>
            cases ho
            have d3 : D 3 := hall { on := 3, ground := Ground.data } (by simp) rfl
            have h3 : f 3 = .pointer (some ⟨g, k * 5 + 4, none⟩) := hJ.1 3 d3 _ rfl
            have nA : ¬ D 12 := fun h => hni (hcl 12 _ (h) rfl { on := 4, ground := Ground.data } (by simp) rfl)
            have hbx : Below X3.heap.size X3 x := hJ.2.1 nA
            have cL := (hbx.cell (p := ⟨g, k * 5 + 4, none⟩) (World.block_lt_of_cell? X3 _ s4)).trans s4
            have HN : Hid (rf.J (q31 X3 W.heap.size w.heap.size g k (.slice ua y.ks.length uc) y.ks K1 (.slice (some ⟨ib, io, none⟩) n ic) ib io j) (fun j => j = 4 ∨ D j) (rs.upd f 4 (.slice ua y.ks.length uc)) x) := hJ.pure _ (fun z hz => Option.some.inj hz) (show (11 : Nat) ≠ 4 by decide) (show (12 : Nat) ≠ 4 by decide) (show (15 : Nat) ≠ 4 by decide)
            clear hJ hall hcl hni hSA hbx nA
            refine wpOp_step rfl (fun K' hK => ?_)
            simp only [h3]
            go_wp2_with fail
            exact ⟨.slice ua y.ks.length uc, by simp [rs.upd, h3], HN.out⟩
          | 5, ho =>
            cases ho
            have HN : Hid (rf.J (q31 X3 W.heap.size w.heap.size g k (.slice ua y.ks.length uc) y.ks K1 (.slice (some ⟨ib, io, none⟩) n ic) ib io j) (fun j => j = 5 ∨ D j) (rs.upd f 5 (.pointer (some ⟨w.heap.size, 0 + 5, none⟩))) x) := hJ.pure _ (fun z hz => Option.some.inj hz) (show (11 : Nat) ≠ 5 by decide) (show (12 : Nat) ≠ 5 by decide) (show (15 : Nat) ≠ 5 by decide)
            clear hJ hall hcl hni hSA
            refine wpOp_step rfl (fun K' hK => ?_)
            go_simp
            exact hK _ _ ⟨.pointer (some ⟨w.heap.size, 0 + 5, none⟩), by simp [rs.upd], HN.out⟩
          | 6, ho =>
            cases ho
            have d5 : D 5 := hall { on := 5, ground := Ground.data } (by simp) rfl
            have h5 : f 5 = .pointer (some ⟨w.heap.size, 0 + 5, none⟩) := hJ.1 5 d5 _ rfl
            have nA : ¬ D 12 := fun h => hni (hcl 8 _ (hcl 9 _ (hcl 10 _ (hcl 11 _ (hcl 12 _ (h) rfl { on := 11, ground := Ground.data } (by simp) rfl) rfl { on := 10, ground := Ground.data } (by simp) rfl) rfl { on := 9, ground := Ground.data } (by simp) rfl) rfl { on := 8, ground := Ground.data } (by simp) rfl) rfl { on := 6, ground := Ground.data } (by simp) rfl)
            have hbx : Below X3.heap.size X3 x := hJ.2.1 nA
            have cL := (hbx.cell (p := ⟨w.heap.size, 0 + 5, none⟩) (World.block_lt_of_cell? X3 _ e5)).trans e5
            have HN : Hid (rf.J (q31 X3 W.heap.size w.heap.size g k (.slice ua y.ks.length uc) y.ks K1 (.slice (some ⟨ib, io, none⟩) n ic) ib io j) (fun j => j = 6 ∨ D j) (rs.upd f 6 (.slice (some ⟨ib, io, none⟩) n ic)) x) := hJ.pure _ (fun z hz => Option.some.inj hz) (show (11 : Nat) ≠ 6 by decide) (show (12 : Nat) ≠ 6 by decide) (show (15 : Nat) ≠ 6 by decide)
            clear hJ hall hcl hni hSA hbx nA
            refine wpOp_step rfl (fun K' hK => ?_)
            simp only [h5]
            go_wp2_with fail
            exact ⟨.slice (some ⟨ib, io, none⟩) n ic, by simp [rs.upd, h5], HN.out⟩
          | 7, ho =>
            cases ho
            have HN : Hid (rf.J (q31 X3 W.heap.size w.heap.size g k (.slice ua y.ks.length uc) y.ks K1 (.slice (some ⟨ib, io, none⟩) n ic) ib io j) (fun j => j = 7 ∨ D j) (rs.upd f 7 (.int .i64 (j : Int))) x) := hJ.pure _ (fun z hz => Option.some.inj hz) (show (11 : Nat) ≠ 7 by decide) (show (12 : Nat) ≠ 7 by decide) (show (15 : Nat) ≠ 7 by decide)
            clear hJ hall hcl hni hSA
            refine wpOp_step rfl (fun K' hK => ?_)
            go_simp
            exact hK _ _ ⟨.int .i64 (j : Int), by simp [rs.upd], HN.out⟩
          | 8, ho =>
            cases ho
            have d6 : D 6 := hall { on := 6, ground := Ground.data } (by simp) rfl
            have h6 : f 6 = .slice (some ⟨ib, io, none⟩) n ic := hJ.1 6 d6 _ rfl
            have d7 : D 7 := hall { on := 7, ground := Ground.data } (by simp) rfl
            have h7 : f 7 = .int .i64 (j : Int) := hJ.1 7 d7 _ rfl
            have HN : Hid (rf.J (q31 X3 W.heap.size w.heap.size g k (.slice ua y.ks.length uc) y.ks K1 (.slice (some ⟨ib, io, none⟩) n ic) ib io j) (fun j => j = 8 ∨ D j) (rs.upd f 8 (.pointer (some ⟨ib, io + j * 2, none⟩))) x) := hJ.pure _ (fun z hz => Option.some.inj hz) (show (11 : Nat) ≠ 8 by decide) (show (12 : Nat) ≠ 8 by decide) (show (15 : Nat) ≠ 8 by decide)
            clear hJ hall hcl hni hSA
            refine wpOp_step rfl (fun K' hK => ?_)
            simp only [h6, h7]
            go_wp2_with fail
            exact ⟨.pointer (some ⟨ib, io + j * 2, none⟩), by simp [rs.upd, h6, h7], HN.out⟩
          | 9, ho =>
            cases ho
            have d8 : D 8 := hall { on := 8, ground := Ground.data } (by simp) rfl
            have h8 : f 8 = .pointer (some ⟨ib, io + j * 2, none⟩) := hJ.1 8 d8 _ rfl
            have HN : Hid (rf.J (q31 X3 W.heap.size w.heap.size g k (.slice ua y.ks.length uc) y.ks K1 (.slice (some ⟨ib, io, none⟩) n ic) ib io j) (fun j => j = 9 ∨ D j) (rs.upd f 9 (.pointer (some ⟨ib, io + j * 2, none⟩))) x) := hJ.pure _ (fun z hz => Option.some.inj hz) (show (11 : Nat) ≠ 9 by decide) (show (12 : Nat) ≠ 9 by decide) (show (15 : Nat) ≠ 9 by decide)
            clear hJ hall hcl hni hSA
            refine wpOp_step rfl (fun K' hK => ?_)
            simp only [h8]
            go_simp
            exact hK _ _ ⟨.pointer (some ⟨ib, io + j * 2, none⟩), by simp [rs.upd, h8], HN.out⟩
          | 10, ho =>
            cases ho
            have d9 : D 9 := hall { on := 9, ground := Ground.data } (by simp) rfl
            have h9 : f 9 = .pointer (some ⟨ib, io + j * 2, none⟩) := hJ.1 9 d9 _ rfl
            have nA : ¬ D 12 := fun h => hni (hcl 11 _ (hcl 12 _ (h) rfl { on := 11, ground := Ground.data } (by simp) rfl) rfl { on := 10, ground := Ground.data } (by simp) rfl)
            have hbx : Below X3.heap.size X3 x := hJ.2.1 nA
            have cL := (hbx.cell (p := ⟨ib, io + j * 2, none⟩) (World.block_lt_of_cell? X3 _ e0)).trans e0
            have HN : Hid (rf.J (q31 X3 W.heap.size w.heap.size g k (.slice ua y.ks.length uc) y.ks K1 (.slice (some ⟨ib, io, none⟩) n ic) ib io j) (fun j => j = 10 ∨ D j) (rs.upd f 10 (.string K1)) x) := hJ.pure _ (fun z hz => Option.some.inj hz) (show (11 : Nat) ≠ 10 by decide) (show (12 : Nat) ≠ 10 by decide) (show (15 : Nat) ≠ 10 by decide)
            clear hJ hall hcl hni hSA hbx nA
            refine wpOp_step rfl (fun K' hK => ?_)
            simp only [h9]
            go_wp2_with fail
            exact ⟨.string K1, by simp [rs.upd, h9], HN.out⟩
          | 11, ho =>
            cases ho
            have d10 : D 10 := hall { on := 10, ground := Ground.data } (by simp) rfl
            have h10 : f 10 = .string K1 := hJ.1 10 d10 _ rfl
            have nA : ¬ D 12 := fun h => hni (hcl 12 _ (h) rfl { on := 11, ground := Ground.data } (by simp) rfl)
            have nS : ¬ D 15 := fun h => nA (hSA h)
            have HN : Hid (rf.J (q31 X3 W.heap.size w.heap.size g k (.slice ua y.ks.length uc) y.ks K1 (.slice (some ⟨ib, io, none⟩) n ic) ib io j) (fun j => j = 11 ∨ D j) (rs.upd f 11 (.slice (some ⟨x.heap.size, 0, none⟩) 1 1)) (x.alloc (.cells #[.string K1] 9))) := hJ.build _ rfl nA nS rfl (show (12 : Nat) ≠ 11 by decide) (show (15 : Nat) ≠ 11 by decide) ((Below.refl _ _).alloc (Nat.le_refl _) _) (one_cell x _ _)
            clear hJ hall hcl hni hSA nA nS
            refine wpOp_step rfl (fun K' hK => ?_)
            simp only [h10]
            go_wp2_with fail
            exact ⟨_, by simp [rs.upd, h10], HN.out⟩
          | 12, ho =>
            cases ho
            have d4 : D 4 := hall { on := 4, ground := Ground.data } (by simp) rfl
            have h4 : f 4 = .slice ua y.ks.length uc := hJ.1 4 d4 _ rfl
            have d11 : D 11 := hall { on := 11, ground := Ground.data } (by simp) rfl
            have nS : ¬ D 15 := fun h => hni (hSA h)
            have hbx : Below X3.heap.size X3 x := hJ.2.1 hni
            obtain ⟨gg, hgB, hgc⟩ := hJ.2.2.1 d11 hni
            have hownX := ow.own_below (HRW3.out) hbx
            have hszX := hbx.size
            refine wpOp_step rfl (fun K' hK => ?_)
            rw [if_pos (by rfl)]
            refine apk.wp_append_keep x (.tmp 147) (.tmp 154) 68 rfl W.heap.size 9 i0 (.string ⟨#[]⟩) 1 16 Tryz.underlying68 hi0 hz0 hz1 hz2 rfl (by decide) (.slice ua y.ks.length uc) y.ks.length (y.ks.map Value.string) h4 hownX ⟨gg, 0, none⟩ 1 1 ([.string K1]) hgB rfl (fun j u hj => by rw [ow.add_at]; exact hgc j u hj) (by intro u hu; simp at hu; subst hu; rfl) (by unfold maxLen; omega) (by omega) (by omega) (fun v' X' hown' hgr' hkp => hK _ _ ⟨v', by simp [rs.upd, Act.put], hJ.app v' rfl hni nS rfl (show (15 : Nat) ≠ 12 by decide) hown' hgr' hkp⟩)
          | 13, ho =>
            cases ho
            have d0 : D 0 := hall { on := 0, ground := Ground.data } (by simp) rfl
            have h0 : f 0 = .pointer (some ⟨g, k * 5, none⟩) := hJ.1 0 d0 _ rfl
            have HN : Hid (rf.J (q31 X3 W.heap.size w.heap.size g k (.slice ua y.ks.length uc) y.ks K1 (.slice (some ⟨ib, io, none⟩) n ic) ib io j) (fun j => j = 13 ∨ D j) (rs.upd f 13 (.pointer (some ⟨g, k * 5, none⟩))) x) := hJ.pure _ (fun z hz => Option.some.inj hz) (show (11 : Nat) ≠ 13 by decide) (show (12 : Nat) ≠ 13 by decide) (show (15 : Nat) ≠ 13 by decide)
            clear hJ hall hcl hni hSA
            refine wpOp_step rfl (fun K' hK => ?_)
            simp only [h0]
            go_wp2_with fail
            exact ⟨.pointer (some ⟨g, k * 5, none⟩), by simp [rs.upd, h0], HN.out⟩
          | 14, ho =>
            cases ho
            have d13 : D 13 := hall { on := 13, ground := Ground.data } (by simp) rfl
            have h13 : f 13 = .pointer (some ⟨g, k * 5, none⟩) := hJ.1 13 d13 _ rfl
            have HN : Hid (rf.J (q31 X3 W.heap.size w.heap.size g k (.slice ua y.ks.length uc) y.ks K1 (.slice (some ⟨ib, io, none⟩) n ic) ib io j) (fun j => j = 14 ∨ D j) (rs.upd f 14 (.pointer (some ⟨g, k * 5 + 4, none⟩))) x) := hJ.pure _ (fun z hz => Option.some.inj hz) (show (11 : Nat) ≠ 14 by decide) (show (12 : Nat) ≠ 14 by decide) (show (15 : Nat) ≠ 14 by decide)
            clear hJ hall hcl hni hSA
            refine wpOp_step rfl (fun K' hK => ?_)
            simp only [h13]
            go_simp
            exact hK _ _ ⟨.pointer (some ⟨g, k * 5 + 4, none⟩), by simp [rs.upd, h13], HN.out⟩
          | 15, ho =>
            cases ho
            have dA : D 12 := hall { on := 12, ground := Ground.data } (by simp) rfl
            have d14 : D 14 := hall { on := 14, ground := Ground.data } (by simp) rfl
            have h14 : f 14 = .pointer (some ⟨g, k * 5 + 4, none⟩) := hJ.1 14 d14 _ rfl
            obtain ⟨x1, hb1, hg1, ho1, _, _⟩ := hJ.2.2.2.1 dA hni
            have hgl : g < X3.heap.size := World.block_lt_of_cell? X3 _ s4
            have hblk : x.heap[g]? = X3.heap[g]? := (hg1.block g (Nat.lt_of_lt_of_le hgl hb1.size) (fun e => HGV3.out e.symm)).trans (hb1.block g hgl)
            obtain ⟨aA, kA, cA, hA0⟩ := slice_fine (own_fine ho1)
            have hA : f 12 = .slice aA kA cA := hA0
            have cX := (World.cell?_of_block (a := ⟨g, k * 5 + 4, none⟩) hblk).trans s4
            have eX := (World.frozen?_of_block (a := ⟨g, k * 5 + 4, none⟩) hblk).trans (sf (k * 5 + 4))
            have HN : Hid (rf.J (q31 X3 W.heap.size w.heap.size g k (.slice ua y.ks.length uc) y.ks K1 (.slice (some ⟨ib, io, none⟩) n ic) ib io j) (fun j => j = 15 ∨ D j) (rs.upd f 15 undef) (x.setCell ⟨g, k * 5 + 4, none⟩ (.slice aA kA cA))) := by rw [← hA]; exact hJ.store undef rfl dA hni rfl (show (12 : Nat) ≠ 15 by decide)
            clear hJ hall hcl hni hSA hb1 hg1 ho1 hA0 hblk
            refine wpOp_step rfl (fun K' hK => ?_)
            simp only [hA, h14]
            go_wp2_with fail
            exact ⟨undef, by simp [rs.upd, hA, h14], HN.out⟩
          | k + 16, ho => simp at ho
        · intro D f x hD hJ
          obtain ⟨u', x2, hmid, hx⟩ := hJ.2.2.2.2 (hD 15 (by decide))
          obtain ⟨ua', un', uc', rfl⟩ : ∃ a n c, u' = .slice a n c := by obtain ⟨_, _, _, ho, _⟩ := hmid; exact slice_fine (own_fine ho)
          have hup := up_keys (X := K1) (y := ⟨y.nm, y.vd, y.nx, y.ms ++ [⟨y.nx, 0, T1⟩], y.ks⟩) HO3.out.1 hk hwx3 rfl rfl rfl rfl (by rw [hu]; rfl) rfl rfl rfl hmid
          have HO4 : Hid (∃ us4, OwnL x W.heap.size (.slice (some ⟨g, 0, none⟩) xs.length c) (xs.set k ⟨y.nm, y.vd, y.nx, y.ms ++ [⟨y.nx, 0, T1⟩], y.ks ++ [K1]⟩) us4 ∧ Below W.heap.size W x) := by
            rw [hx]
            exact ⟨_, hup.1, HO3.out.2.trans hup.2⟩
          clear hJ hmid hx hD hup HO3 HRW3 HGV3 s2 s4 sf e5 e0 hwx3
          refine hK3 _ _ ?_
          generalize f 0 = g_0
          generalize f 1 = g_1
          generalize f 2 = g_2
          generalize f 3 = g_3
          generalize f 4 = g_4
          generalize f 5 = g_5
          generalize f 6 = g_6
          generalize f 7 = g_7
          generalize f 8 = g_8
          generalize f 9 = g_9
          generalize f 10 = g_10
          generalize f 11 = g_11
          generalize f 12 = g_12
          generalize f 13 = g_13
          generalize f 14 = g_14
          clear f D
          obtain ⟨us4, hO4, hb4⟩ := HO4.out
          have HP4 : Hid (OwnL x W.heap.size (.slice (some ⟨g, 0, none⟩) xs.length c) (xs.set k ⟨y.nm, y.vd, y.nx, y.ms ++ [⟨y.nx, 0, T1⟩], y.ks ++ [K1]⟩) us4 ∧ Below W.heap.size W x) := ⟨hO4, hb4⟩
          have hat4 := up_at hO4 hk
          obtain ⟨s2, z1, z2, sf, z3⟩ := hat4
          clear z1 z2 z3
          have sf2 := sf (k * 5 + 2)
          clear hO4 hb4 HO4 sf
          have hw1 : IntKind.i64.wrap (y.nx + 1) = y.nx + 1 := by rw [IntKind.wrap_i64]; omega
          have HLZ : Hid (Lp W W.heap.size (.slice (some ⟨g, 0, none⟩) xs.length c) xs k b m.ps (j + 1) (addI y (K1, T1)) (upd us4 k ((us4 k).1, (us4 k).2)) (x.setCell ⟨g, k * 5 + 2, none⟩ (.int .i64 (y.nx + 1)))) := by
            have hh := up_next HP4.out.1 hk (y.nx + 1)
            refine ⟨hh.1, HP4.out.2.trans hh.2, HNEW.out, ?_, ?_, ?_⟩
            · show y.nx + 1 = b.nx + ((j + 1 : Nat) : Int)
              rw [HLN.out.nx]
              omega
            · simp [addI]
              omega
            · simp [addI]
              omega
          clear HLN HP4
          go_wp2
          go_roundw
          case rel => exact ⟨j + 1, _, _, by omega, by go_num, HLZ.out⟩
          case measure => simp [intOf]; omega
    · have hjn : j = n := by omega
      have HE : Hid (add b m.ps = (y, 0)) := by
        rw [HLO.out.1.eq, List.drop_eq_nil_of_le (by have := HN.out; omega)]
        exact rfl
      have HZ : Hid (BoxesAt wr (.slice (some ⟨g, 0, none⟩) xs.length c) (xs.set k y) us ∧ Fines (xs.set k y) us ∧ Below w.heap.size w wr) := ⟨ownL_boxes HLO.out.1.own, (ownL_fines HLO.out.1.own).2, HBX.out.2⟩
      clear HLO HRW HTX HBX t0 t1 t2 t3 t4 tf hIT
      go_wp2
      go_ret2
      exact ⟨⟨_, xs.set k y, us, 0, y, rfl, HE.out, .inl ⟨rfl, rfl⟩, HZ.out.1, HZ.out.2.1⟩, HZ.out.2.2⟩
end Go.Proofs.YtncnbhekgkemfaaGreatDoor.sa
