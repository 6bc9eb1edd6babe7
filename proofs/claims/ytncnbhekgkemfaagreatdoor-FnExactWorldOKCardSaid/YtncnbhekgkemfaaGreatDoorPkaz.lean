/-
  (impl.Box).withItems.
-/
import Derived.Test.YtncnbhekgkemfaaGreatDoorPkay
import Derived.Maps.OwnOps

namespace Go.Proofs.YtncnbhekgkemfaaGreatDoor.wi
open Go.ChangeShapes Go.WideShapes Go.ChangeAt Go.RowKit Go.Deep Go.Joins Go.Maps Go.ChangeMaps Go.WideMaps
open st gr bx mx bl
set_option linter.unusedVariables false

theorem zeroI (w : World) : (zeroValue 3).run Tryz.prog w = .ok (.int .i64 0) w := by go_simp
def V13 (S G : Nat) (u : Value) (K : ByteArray) : Nat → Option Value
  | 0 => some (.pointer (some ⟨S, 0 + 4, none⟩))
  | 1 => some u
  | 2 => some (.pointer (some ⟨G, 0, none⟩))
  | 3 => some (.string K)
  | 4 => some (.string K)
  | 7 => some (.pointer (some ⟨S, 0 + 4, none⟩))
  | _ => none
def q13 (W1 : World) (base S G : Nat) (u : Value) (ks : List ByteArray) (K : ByteArray) : rf.Q where
  V := V13 S G u K
  W1 := W1
  base := base
  e := 9
  s := 1
  v0 := u
  n := ks.length
  xs := ks.map Value.string
  news := [.string K]
  iB := 5
  iA := 6
  iS := 8
  P := ⟨S, 4, none⟩
def V14 (S G : Nat) (v : Value) (z : Int) (T : ByteArray) : Nat → Option Value
  | 0 => some (.pointer (some ⟨S, 0 + 3, none⟩))
  | 1 => some v
  | 2 => some (.pointer (some ⟨S, 0 + 2, none⟩))
  | 3 => some (.int .i64 z)
  | 4 => some (.pointer (some ⟨G, 0 + 1, none⟩))
  | 5 => some (.string T)
  | 6 => some (.string T)
  | 7 => some (.agg #[.int .i64 z, .int .i64 0, .string T])
  | 10 => some (.pointer (some ⟨S, 0 + 3, none⟩))
  | _ => none
def q14 (W1 : World) (base S G : Nat) (v : Value) (ms : List St) (z : Int) (T : ByteArray) : rf.Q where
  V := V14 S G v z T
  W1 := W1
  base := base
  e := 110
  s := 3
  v0 := v
  n := ms.length
  xs := mc ms
  news := mc [⟨z, 0, T⟩]
  iB := 8
  iA := 9
  iS := 11
  P := ⟨S, 3, none⟩
theorem one_cell (x : World) (t : TypeId) (K : ByteArray) : ∀ j u, ([Value.string K])[j]? = some u → (x.alloc (.cells #[.string K] t)).cell? ⟨x.heap.size, j, none⟩ = some u := by
  intro j u hj
  have h : (x.alloc (.cells #[.string K] t)).heap[x.heap.size]? = some (.cells #[.string K] t (0, 0)) := heap_new _ _
  rw [cell_of_row _ _ _ _ _ _ h, List.getElem?_toArray]
  exact hj
theorem three_cells (x : World) (t : TypeId) (z : Int) (T : ByteArray) (m : St) (hm : m = ⟨z, 0, T⟩) : ∀ j u, (mc [m])[j]? = some u → (x.alloc (.cells #[.int .i64 z, .int .i64 0, .string T] t)).cell? ⟨x.heap.size, j, none⟩ = some u := by
  subst hm
  intro j u hj
  have h : (x.alloc (.cells #[.int .i64 z, .int .i64 0, .string T] t)).heap[x.heap.size]? = some (.cells #[.int .i64 z, .int .i64 0, .string T] t (0, 0)) := heap_new _ _
  rw [cell_of_row _ _ _ _ _ _ h, List.getElem?_toArray]
  exact hj
/-- A block beside the row and the variable stays. -/
theorem mid_block {q : rf.Q} {v' z : Value} {x2 : World} {S j B : Nat} {o : Obj} (h : rf.Mid q v' x2) (hB : q.W1.heap[B]? = some o) (hr : q.v0.ownBlock ≠ some B) (hS : B ≠ S) : (x2.setCell ⟨S, j, none⟩ z).heap[B]? = some o := by
  obtain ⟨x1, h1, h2, _⟩ := h
  have hlt := (Array.getElem?_eq_some_iff.1 hB).1
  rw [heap_setCell_other _ _ _ _ hS, h2.block B (Nat.lt_of_lt_of_le hlt h1.size) (fun e => hr e.symm), h1.block B hlt]
  exact hB
theorem row_not {x : World} {b e s n B : Nat} {v : Value} {xs : List Value} {o : Obj} (h : x.ownsRow b e s v n xs) (hB : x.heap[B]? = some o) (ho : ∀ cs t, o ≠ .cells cs e t) : v.ownBlock ≠ some B := by
  intro hk
  rcases h.2 with ⟨rfl, _⟩ | ⟨g, cap, cur, rfl, _, hb, _⟩
  · simp [Value.ownBlock] at hk
  · have e : g = B := by simpa [Value.ownBlock] using hk
    subst e
    rw [hB] at hb
    cases hb
    exact ho _ _ rfl
theorem own_mid {q : rf.Q} {v' z : Value} {x2 : World} {S j B n : Nat} {D : DataW Unit} {b e s m : Nat} {xs : List Value} (h : rf.Mid q v' x2) (hB : bk.Own q.W1 B n D) (hr : q.W1.ownsRow b e s q.v0 m xs) (hS : B ≠ S) : bk.Own (x2.setCell ⟨S, j, none⟩ z) B n D := by
  obtain ⟨es, clock, hb', F, hs, hD⟩ := hB
  exact ⟨es, clock, mid_block h hb' (row_not hr hb' (fun _ _ e => by cases e)) hS, F, hs, hD⟩
/-- What the loop keeps. -/
structure Lop (w : World) (base : Nat) (b : Bx) (p q : Value) (ps : List it.Pr) (k : Nat) (y : Bx) (v u : Value) (x : World) : Prop where
  st : Stt w base b p q y v u x
  eq : add b ps = add y (ps.drop k)
  nx : y.nx = b.nx + k
  lm : y.ms.length ≤ 30
  lk : y.ks.length ≤ 60
  bk : ∃ n D, n ≤ 100 + k ∧ bk.Own x (w.heap.size + 1 + 1) n D ∧ bk.Bk D (fun s => ∃ j, j < y.ks.length ∧ y.ks.getD j ky.nt = s)

theorem Lop.below {w x x' : World} {base : Nat} {b y : Bx} {p q v u : Value} {ps : List it.Pr} {k : Nat} (h : Lop w base b p q ps k y v u x) (hb : Below x.heap.size x x') : Lop w base b p q ps k y v u x' :=
  ⟨h.st.below hb, h.eq, h.nx, h.lm, h.lk, by obtain ⟨n, D, h1, h2, h3⟩ := h.bk; exact ⟨n, D, h1, bk.own_keep h2 hb h2.lt, h3⟩⟩
theorem Stt.base {w x : World} {base : Nat} {b y : Bx} {p q v u : Value} (h : Stt w base b p q y v u x) (hb : base ≤ w.heap.size) : Below base w x :=
  ⟨h.gr.os, h.gr.tape, h.gr.output, h.gr.size, fun k hk => h.gr.block k (by omega) (fun e => by have := (h.om0.lt k e).1; omega) (fun e => by have := (h.ok0.lt k e).1; omega)⟩
set_option maxHeartbeats 8000000 in
set_option maxRecDepth 100000 in
theorem with_any (b : Bx) (p q : Value) (iv : Value) (ps : List it.Pr) (base : Nat) (w : World) (hm : OwnM w base p b.ms) (hk : OwnK w base q b.ks) (hbs : base ≤ w.heap.size) (hi : ItemsBy w base iv ps) (hs : it.Small ps) (hlm : b.ms.length ≤ 30) (hlk : b.ks.length ≤ 60) (hks : tx.Smalls b.ks) (hnx : 1 ≤ b.nx ∧ b.nx ≤ 1001) :
    Calls Tryz.prog 120 #[BV b p q, iv] w (Arm base b p q (fun y' c => add b ps = (y', c)) w) := by
  have hmm := @run_makeMap Tryz.prog
  obtain ⟨pa, pn, pc, rfl⟩ := slice_fine (own_fine hm)
  obtain ⟨qa, qn, qc, rfl⟩ := slice_fine (own_fine hk)
  obtain ⟨W0, hW0⟩ : ∃ W, W = (w.alloc (.cells #[.string b.nm, .int .i64 b.vd, .int .i64 b.nx, .slice pa pn pc, .slice qa qn qc] 99)).alloc (.cells #[.string ⟨#[]⟩, .int .i64 0, .int .i64 0, .slice none 0 0, .slice none 0 0] 99) := ⟨_, rfl⟩
  obtain ⟨W, hW⟩ : ∃ W, W = W0.alloc (.map #[] 0) := ⟨_, rfl⟩
  have hsz : W0.heap.size = w.heap.size + 1 + 1 := by rw [hW0]; simp
  have O1 := World.ownsMap_made (H := Unit) W0 Tryz.prog 9 (plainElem Tryz.prog 3)
  rw [hsz, ← hW] at O1
  have b0 : Below w.heap.size w W0 := by rw [hW0]; exact (bx.new_below w _ _).alloc (by simp) _
  have b1 : Below W0.heap.size W0 W := by rw [hW]; exact (Below.refl _ _).alloc (Nat.le_refl _) _
  have b2 : Below w.heap.size w W := b0.trans (b1.mono b0.size)
  have L0 : Lies W w.heap.size 99 b (.slice pa pn pc) (.slice qa qn qc) := by
    have : Lies W0 w.heap.size 99 b (.slice pa pn pc) (.slice qa qn qc) := by rw [hW0]; exact (bx.lies_new w 99 b (.slice pa pn pc) (.slice qa qn qc)).keep (bx.new_below _ _ _)
    exact this.keep b1
  have R0 : Lies W (w.heap.size + 1) 99 B0 (.slice none 0 0) (.slice none 0 0) := by
    have h := heap_new (w.alloc (.cells #[.string b.nm, .int .i64 b.vd, .int .i64 b.nx, .slice pa pn pc, .slice qa qn qc] 99)) (.cells #[.string ⟨#[]⟩, .int .i64 0, .int .i64 0, .slice none 0 0, .slice none 0 0] 99)
    rw [show (w.alloc (.cells #[.string b.nm, .int .i64 b.vd, .int .i64 b.nx, .slice pa pn pc, .slice qa qn qc] 99)).heap.size = w.heap.size + 1 by simp, ← hW0] at h
    have : Lies W0 (w.heap.size + 1) 99 B0 (.slice none 0 0) (.slice none 0 0) := h
    exact this.keep b1
  have HSt : Hid (∀ X, Below (w.heap.size + 1 + 1) W X → Stt w base b (.slice pa pn pc) (.slice qa qn qc) b (.slice pa pn pc) (.slice qa qn qc) X) := fun X hX => by
    have b3 : Below w.heap.size w X := b2.trans (hX.mono (by omega))
    exact ⟨(hX.block _ (by omega)).trans L0, (hX.block _ (by omega)).trans R0, ow.own_below hm b3, ow.own_below hk b3, ow.own_below hm b3, ow.own_below hk b3, .inl rfl, .inl rfl, gr2_below b3 _ _, ⟨[], by simp⟩, ⟨[], by simp⟩⟩
  have HT : Hid (tx.TextsIn W w.heap.size (.slice qa qn qc) b.ks) := tx.texts_below (ownK_texts hk) b2 (Nat.le_refl _)
  have HLE : Hid (Calls Tryz.prog 127 #[.map (some (w.heap.size + 1 + 1)), .slice qa qn qc] W fun e w' => (∃ b, e = .returned (.bool b)) ∧ (∃ D, bk.Own w' (w.heap.size + 1 + 1) b.ks.length D ∧ bk.Bk D (fun s => ∃ j, j < b.ks.length ∧ b.ks.getD j ky.nt = s)) ∧ Below (w.heap.size + 1 + 1) W w') :=
    bk.learn_vals (w.heap.size + 1 + 1) 0 w.heap.size _ _ b.ks W O1 HT.out (by omega) hks
  have HIT : Hid (∀ X, Gr2 w X (Value.slice pa pn pc).ownBlock (Value.slice qa qn qc).ownBlock → it.AttrsAt X iv ps) := fun X hg => by_gr2 hi (Nat.le_refl _) hm hk hg
  have HSM : Hid (it.Small ps) := hs
  have hpl : ps.length ≤ 1048576 := hs.1
  have hst : W.heap.size = w.heap.size + 1 + 1 + 1 := by rw [hW]; simp [hsz]
  have HLN : Hid (w.heap.size + 1 + 1 + 1 = W.heap.size) := hst.symm
  obtain ⟨ia, ic, rfl, hdum⟩ := hi
  clear hdum
  have c4 := L0.c4
  clear L0 R0 O1 b0 b1 hsz hm hk hs hks hst
  obtain ⟨nm, vd, nx, ms, ks⟩ := b
  unfold BV
  simp only at *
  go_enter Tryz.func120, Tryz.ntmps120
  go_wp2_with (rw [← hW0, ← hW])
  refine HLE.out.mono ?_
  rintro e X1 ⟨⟨bb, rfl⟩, ⟨D, hD, hDB⟩, hX1⟩
  have HL : Hid (Lop w base ⟨nm, vd, nx, ms, ks⟩ (.slice pa pn pc) (.slice qa qn qc) ps 0 ⟨nm, vd, nx, ms, ks⟩ (.slice pa pn pc) (.slice qa qn qc) X1) :=
    ⟨HSt.out _ hX1, rfl, by simp, hlm, hlk, _, D, by omega, hD, hDB⟩
  clear HLE HSt HT hX1 hD hDB c4 hW hW0 b2 HLN
  obtain ⟨n, hn⟩ : ∃ n, n = ps.length := ⟨_, rfl⟩
  have HN : Hid (n = ps.length) := hn
  rw [← hn] at hpl ⊢
  clear hn
  go_wp2_with fail
  go_loopw [16] (fun i wr => ∃ (k : Nat) (y : Bx) (v u : Value), k ≤ n ∧ i = .int .i64 k ∧ Lop w base ⟨nm, vd, nx, ms, ks⟩ (.slice pa pn pc) (.slice qa qn qc) ps k y v u wr) (fun i _ => n - (intOf i).toNat)
  case atStart => exact ⟨0, _, _, _, Nat.zero_le _, rfl, HL.out⟩
  case round =>
    clear HL
    obtain ⟨k, y, v, u, hk, rfl, hlop⟩ := hrel
    obtain ⟨va, vn, vc, rfl⟩ := slice_fine (own_fine hlop.st.om)
    obtain ⟨ua, un, uc, rfl⟩ := slice_fine (own_fine hlop.st.ok)
    obtain rfl : un = y.ks.length := by have := hlop.st.ok; rcases this.2 with ⟨e, h0⟩ | ⟨g, cap, cur, e, _⟩ <;> cases e <;> omega
    obtain rfl : vn = y.ms.length := by have := hlop.st.om; rcases this.2 with ⟨e, h0⟩ | ⟨g, cap, cur, e, _⟩ <;> cases e <;> omega
    have HLO : Hid (Lop w base ⟨nm, vd, nx, ms, ks⟩ (.slice pa pn pc) (.slice qa qn qc) ps k y (.slice va y.ms.length vc) (.slice ua y.ks.length uc) wr) := hlop
    clear hlop
    by_cases hlt : k < n
    · have hka : k < ps.length := by rw [← HN.out]; exact hlt
      have HKA : Hid (k < ps.length) := hka
      have hit := HIT.out wr HLO.out.st.gr
      obtain ⟨ib, io, hia, hcells⟩ : ∃ b off, ia = some ⟨b, off, none⟩ ∧ ∀ j, j < ps.length → wr.cell? ⟨b, off + j * 2, none⟩ = some (.string (ps.getD j it.no).1) ∧ wr.cell? ⟨b, off + j * 2 + 1, none⟩ = some (.string (ps.getD j it.no).2) := by
        obtain ⟨a', cap', e, hh⟩ := hit
        cases e
        rcases hh with e | ⟨b, off, e, hc⟩
        · rw [e] at hka; simp at hka
        · exact ⟨b, off, e, hc⟩
      obtain ⟨i0, i1⟩ := hcells k hka
      have hsm := HSM.out.2 k hka
      subst hia
      clear hcells hka hit
      generalize hK1 : (ps.getD k it.no).1 = K1 at i0 hsm
      generalize hT1 : (ps.getD k it.no).2 = T1 at i1 hsm
      have HK1 : Hid (ps.getD k it.no = (K1, T1)) := (show _ = _ by rw [← hK1, ← hT1])
      clear hK1 hT1
      obtain ⟨hs1, hs2⟩ := hsm
      have hlt' : (k : Int) < (n : Int) := by omega
      have hkey : keyOf Tryz.prog 9 (.string K1) = some (bk.lit K1) := keyOf_string_mk Tryz.underlying9 (by unfold maxLen; omega)
      go_upto_region 6 with fail
      have hb2 := bx.new_below wr 136 #[.string K1, .string T1]
      have HLX : Hid (Lop w base ⟨nm, vd, nx, ms, ks⟩ (.slice pa pn pc) (.slice qa qn qc) ps k y (.slice va y.ms.length vc) (.slice ua y.ks.length uc) (wr.alloc (.cells #[.string K1, .string T1] 136))) := HLO.out.below hb2
      have M0 : (wr.alloc (.cells #[.string K1, .string T1] 136)).heap[wr.heap.size]? = some (.cells #[.string K1, .string T1] 136 (0, 0)) := heap_new _ _
      have hG : w.heap.size + 1 + 1 < wr.heap.size := by obtain ⟨nd, D, _, h2, _⟩ := HLO.out.bk; exact h2.lt
      clear HLO i0 i1 hb2
      generalize wr.alloc _ = X at HLX M0 ⊢
      generalize wr.heap.size = G at M0 hG ⊢
      have m0 : X.cell? ⟨G, 0, none⟩ = some (.string K1) := by rw [cell_of_row X _ _ _ _ _ M0]; rfl
      have m1 : X.cell? ⟨G, 0 + 1, none⟩ = some (.string T1) := by rw [cell_of_row X _ _ _ _ _ M0]; rfl
      have HM0 : Hid (X.heap[G]? = some (.cells #[.string K1, .string T1] 136 (0, 0))) := M0
      clear M0
      obtain ⟨nd, D1, hnd, hown, hbk⟩ := HLX.out.bk
      have HBK : Hid (bk.Bk D1 (fun s => ∃ j, j < y.ks.length ∧ y.ks.getD j ky.nt = s)) := hbk
      have HOW : Hid (bk.Own X (w.heap.size + 1 + 1) nd D1) := hown
      clear hbk hown
      have l0 := HLX.out.st.lies.c0
      have l1 := HLX.out.st.lies.c1
      have l2 := HLX.out.st.lies.c2
      have l3 := HLX.out.st.lies.c3
      have l4 := HLX.out.st.lies.c4
      have r0 : X.cell? ⟨w.heap.size + 1, 0, none⟩ = some (.string ⟨#[]⟩) := HLX.out.st.res.c0
      have r1 : X.cell? ⟨w.heap.size + 1, 0 + 1, none⟩ = some (.int .i64 0) := HLX.out.st.res.c1
      have r2 : X.cell? ⟨w.heap.size + 1, 0 + 2, none⟩ = some (.int .i64 0) := HLX.out.st.res.c2
      have r3 := HLX.out.st.res.c3
      have r4 := HLX.out.st.res.c4
      have fr := HLX.out.st.res.f
      have HEnd : Hid (∀ c : Int, c ≠ 0 → add ⟨nm, vd, nx, ms, ks⟩ ps = (B0, c) → ∀ Y, Y = put5w X (w.heap.size + 1) (.string ⟨#[]⟩) (.int .i64 0) (.int .i64 0) (.slice none 0 0) (.slice none 0 0) → Arm base ⟨nm, vd, nx, ms, ks⟩ (.slice pa pn pc) (.slice qa qn qc) (fun y' c => add ⟨nm, vd, nx, ms, ks⟩ ps = (y', c)) w (.returned (.tuple #[.agg #[.string ⟨#[]⟩, .int .i64 0, .int .i64 0, .slice none 0 0, .slice none 0 0], .int .i64 c])) Y) := fun c hc he Y hY => by
        subst hY
        have hS := HLX.out.st
        refine ⟨B0, c, none, 0, 0, none, 0, 0, rfl, he, fun e => absurd e hc, fun _ => ⟨own_grown hS.om0 (put5w_grown _ _ _ _ _ _ _) (row_box hS.om0 hS.res (by decide)), own_grown hS.ok0 (put5w_grown _ _ _ _ _ _ _) (row_box hS.ok0 hS.res (by decide))⟩, ?_⟩
        have hg := put5w_grown X (w.heap.size + 1) (.string ⟨#[]⟩) (.int .i64 0) (.int .i64 0) (.slice none 0 0) (.slice none 0 0)
        refine ⟨hg.os.trans hS.gr.os, hg.tape.trans hS.gr.tape, hg.output.trans hS.gr.output, Nat.le_trans hS.gr.size hg.size, fun j hj h1 h2 => ?_⟩
        rw [hg.block j (Nat.lt_of_lt_of_le hj hS.gr.size) (by intro e; cases e; omega)]
        exact hS.gr.block j hj h1 h2
      have HAD : Hid (add ⟨nm, vd, nx, ms, ks⟩ ps = if hasK y.ks K1 = true then (B0, 9) else if y.ks.length = 60 then (B0, 17) else if y.ms.length = 30 then (B0, 7) else add (addI y (K1, T1)) (ps.drop (k + 1))) := by
        have h := HLX.out.eq
        rw [drop_at HKA.out, HK1.out] at h
        exact h
      have HC0 : Hid (∀ c : Int, D1.atKey (bk.lit K1) (.lit (.int .i64 0)) = .lit (.int .i64 c) → (c ≠ 0 ↔ hasK y.ks K1 = true)) := fun c hc => by
        obtain ⟨c', h1, h2⟩ := HBK.out K1
        rw [h1] at hc
        have e : c' = c := by simpa using hc
        rw [← e, h2, hasK_iff]
      have hyx : 1 ≤ y.nx ∧ y.nx ≤ 1050000 := by have h1 := HLX.out.nx; simp only at h1; omega
      go_upto_region 13 with (first | (at_mapUpdate; refine wpList_mapUpdate_own _ rfl _ _ _ 159 rfl 9 3 bk.law Tryz.underlying159 _ (w.heap.size + 1 + 1) nd _ rfl HOW.out (by unfold maxLen; omega) _ _ _ rfl rfl hkey _ [] (plainElem_int Tryz.underlying3 (WalkArith.wf_i64 (by omega))) ?_; intro X2 hown2 hgrow2) | (at_lookup; refine wpList_lookup_own_int _ rfl _ _ 159 rfl 9 3 .i64 bk.law Tryz.underlying159 Tryz.underlying3 (zeroI _) (w.heap.size + 1 + 1) nd D1 rfl HOW.out _ _ rfl hkey ?_; intro c0 hat hwc))
      · rename_i hc1
        have HZ := put5w_zero HLX.out.st.res
        have HA := HEnd.out 9 (by decide) (by rw [HAD.out]; rw [if_pos ((HC0.out _ hat).1 (by simpa using hc1))]) _ rfl
        change bodyPost _ _ _ _ _ (put5w X (w.heap.size + 1) (.string ⟨#[]⟩) (.int .i64 0) (.int .i64 0) (.slice none 0 0) (.slice none 0 0))
        generalize put5w X _ _ _ _ _ _ = Y at HZ HA ⊢
        have z0 : Y.cell? ⟨w.heap.size + 1, 0, none⟩ = some (.string ⟨#[]⟩) := HZ.c0
        have z1 : Y.cell? ⟨w.heap.size + 1, 0 + 1, none⟩ = some (.int .i64 0) := HZ.c1
        have z2 : Y.cell? ⟨w.heap.size + 1, 0 + 2, none⟩ = some (.int .i64 0) := HZ.c2
        have z3 := HZ.c3
        have z4 := HZ.c4
        exact bodyPost_ret (v := .tuple #[.agg #[.string ⟨#[]⟩, .int .i64 0, .int .i64 0, .slice none 0 0, .slice none 0 0], .int .i64 9]) (by simp [results, Tryz.results120, go_sem, z0, z1, z2, z3, z4]) rfl HA
      · rename_i hc1 hc2
        have HZ := put5w_zero HLX.out.st.res
        have HA := HEnd.out 17 (by decide) (by rw [HAD.out]; rw [if_neg (fun e => (HC0.out _ hat).2 e (by simpa using hc1)), if_pos (by have := beq_iff_eq.1 hc2; omega)]) _ rfl
        change bodyPost _ _ _ _ _ (put5w X (w.heap.size + 1) (.string ⟨#[]⟩) (.int .i64 0) (.int .i64 0) (.slice none 0 0) (.slice none 0 0))
        generalize put5w X _ _ _ _ _ _ = Y at HZ HA ⊢
        have z0 : Y.cell? ⟨w.heap.size + 1, 0, none⟩ = some (.string ⟨#[]⟩) := HZ.c0
        have z1 : Y.cell? ⟨w.heap.size + 1, 0 + 1, none⟩ = some (.int .i64 0) := HZ.c1
        have z2 : Y.cell? ⟨w.heap.size + 1, 0 + 2, none⟩ = some (.int .i64 0) := HZ.c2
        have z3 := HZ.c3
        have z4 := HZ.c4
        exact bodyPost_ret (v := .tuple #[.agg #[.string ⟨#[]⟩, .int .i64 0, .int .i64 0, .slice none 0 0, .slice none 0 0], .int .i64 17]) (by simp [results, Tryz.results120, go_sem, z0, z1, z2, z3, z4]) rfl HA
      · rename_i hc1 hc2 hc3
        have HZ := put5w_zero HLX.out.st.res
        have HA := HEnd.out 7 (by decide) (by rw [HAD.out]; rw [if_neg (fun e => (HC0.out _ hat).2 e (by simpa using hc1)), if_neg (by have := beq_eq_false_iff_ne.1 hc2; omega), if_pos (by have := beq_iff_eq.1 hc3; omega)]) _ rfl
        change bodyPost _ _ _ _ _ (put5w X (w.heap.size + 1) (.string ⟨#[]⟩) (.int .i64 0) (.int .i64 0) (.slice none 0 0) (.slice none 0 0))
        generalize put5w X _ _ _ _ _ _ = Y at HZ HA ⊢
        have z0 : Y.cell? ⟨w.heap.size + 1, 0, none⟩ = some (.string ⟨#[]⟩) := HZ.c0
        have z1 : Y.cell? ⟨w.heap.size + 1, 0 + 1, none⟩ = some (.int .i64 0) := HZ.c1
        have z2 : Y.cell? ⟨w.heap.size + 1, 0 + 2, none⟩ = some (.int .i64 0) := HZ.c2
        have z3 := HZ.c3
        have z4 := HZ.c4
        exact bodyPost_ret (v := .tuple #[.agg #[.string ⟨#[]⟩, .int .i64 0, .int .i64 0, .slice none 0 0, .slice none 0 0], .int .i64 7]) (by simp [results, Tryz.results120, go_sem, z0, z1, z2, z3, z4]) rfl HA
      rename_i hc1 hc2 hc3 K2 hK2
      have HNEW : Hid (add ⟨nm, vd, nx, ms, ks⟩ ps = add (addI y (K1, T1)) (ps.drop (k + 1))) := (show _ = _ by
        rw [HAD.out, if_neg (fun e => (HC0.out _ hat).2 e (by simpa using hc1)), if_neg (by have := beq_eq_false_iff_ne.1 hc2; omega), if_neg (by have := beq_eq_false_iff_ne.1 hc3; omega)])
      have HLEN : Hid (y.ks.length < 60 ∧ y.ms.length < 30) := by
        have h1 := beq_eq_false_iff_ne.1 hc2
        have h2 := beq_eq_false_iff_ne.1 hc3
        have h3 := HLX.out.lk
        have h4 := HLX.out.lm
        exact ⟨by omega, by omega⟩
      have HS2 : Hid (Stt w base ⟨nm, vd, nx, ms, ks⟩ (.slice pa pn pc) (.slice qa qn qc) y (.slice va y.ms.length vc) (.slice ua y.ks.length uc) X2) := HLX.out.st.other hgrow2 (by omega) (by obtain ⟨es, clock, hb', _⟩ := HOW.out; intro cs e t hh; rw [hb'] at hh; cases hh)
      have HG2 : Hid (G < X2.heap.size ∧ X2.cell? ⟨G, 0, none⟩ = some (.string K1) ∧ X2.heap[G]? = some (.cells #[.string K1, .string T1] 136 (0, 0))) := by
        have hlt := (Array.getElem?_eq_some_iff.1 HM0.out).1
        have hb := (hgrow2.block G hlt (by intro e; cases e; omega)).trans HM0.out
        exact ⟨Nat.lt_of_lt_of_le hlt hgrow2.size, by rw [cell_of_row X2 _ _ _ _ _ hb]; rfl, hb⟩
      have HB2 : Hid (bk.Own X2 (w.heap.size + 1 + 1) (nd + 1) (D1.put (bk.lit K1) (.lit (.int .i64 y.nx))) ∧ bk.Bk (D1.put (bk.lit K1) (.lit (.int .i64 y.nx))) (fun s => ∃ j, j < (y.ks ++ [K1]).length ∧ (y.ks ++ [K1]).getD j ky.nt = s)) := by
        refine ⟨hown2, bk.bk_iff (bk.bk_put (HOW.out.tidy bk.law) HBK.out K1 y.nx (by omega)) fun s => ?_⟩
        constructor
        · rintro (⟨j, hj, e⟩ | rfl)
          · exact ⟨j, by simp; omega, by rw [← e]; simp [List.getD_eq_getElem?_getD, List.getElem?_append_left hj]⟩
          · exact ⟨y.ks.length, by simp, by simp [List.getD_eq_getElem?_getD]⟩
        · rintro ⟨j, hj, e⟩
          by_cases ej : j < y.ks.length
          · exact .inl ⟨j, ej, by rw [← e]; simp [List.getD_eq_getElem?_getD, List.getElem?_append_left ej]⟩
          · have : j = y.ks.length := by simp at hj; omega
            subst this
            right
            rw [← e]
            simp [List.getD_eq_getElem?_getD]
      have HNX : Hid (y.nx = nx + (k : Int)) := HLX.out.nx
      obtain ⟨ik, hki, hk0, hk1, hk2⟩ := info_parts tx.infoT
      obtain ⟨im, hmi, hm0, hm1, hm2⟩ := info_parts infoS
      have hbX : base ≤ X2.heap.size := Nat.le_trans hbs HS2.out.gr.size
      have hlen := HLEN.out
      clear HLX HOW HBK hown2 hgrow2 HC0 HAD HEnd hat hwc hc1 hc2 hc3 m0 m1 l0 l1 l2 l3 l4 r0 r1 r2 r3 r4 fr HM0
      refine rs.region_st (by kernel_rfl) (fun f => { tmps := List.toArray ((.agg #[.string nm, .int .i64 vd, .int .i64 nx, .slice pa pn pc, .slice qa qn qc] : Value) :: .slice (some ⟨ib, io, none⟩) n ic :: .pointer (some ⟨w.heap.size, 0, none⟩) :: undef :: .pointer (some ⟨w.heap.size + 1, 0, none⟩) :: u5 :: .map (some (w.heap.size + 1 + 1)) :: undef :: .pointer (some ⟨G, 0, none⟩) :: .map (some (w.heap.size + 1 + 1)) :: .map (some (w.heap.size + 1 + 1)) :: .pointer (some ⟨w.heap.size, 4, none⟩) :: .slice qa qn qc :: .bool bb :: .slice (some ⟨ib, io, none⟩) n ic :: .int .i64 (n : Int) :: .int .i64 (k : Int) :: .bool true :: .pointer (some ⟨ib, io + k * 2, none⟩) :: .agg #[.string K1, .string T1] :: .bool (c0 != 0) :: .map (some (w.heap.size + 1 + 1)) :: .pointer (some ⟨G, 0, none⟩) :: .string K1 :: .int .i64 c0 :: .bool (c0 != 0) :: u26 :: .bool ((y.ks.length : Int) == 60) :: .pointer (some ⟨w.heap.size, 4, none⟩) :: .slice ua y.ks.length uc :: .int .i64 (y.ks.length : Int) :: .bool ((y.ks.length : Int) == 60) :: u32 :: .bool ((y.ms.length : Int) == 30) :: .pointer (some ⟨w.heap.size, 3, none⟩) :: .slice va y.ms.length vc :: .int .i64 (y.ms.length : Int) :: .bool ((y.ms.length : Int) == 30) :: u38 :: .map (some (w.heap.size + 1 + 1)) :: .pointer (some ⟨G, 0, none⟩) :: .string K1 :: .pointer (some ⟨w.heap.size, 2, none⟩) :: .int .i64 y.nx :: f 0 :: f 1 :: f 2 :: f 3 :: f 4 :: f 5 :: f 6 :: f 7 :: u52 :: u53 :: u54 :: u55 :: u56 :: u57 :: u58 :: u59 :: u60 :: u61 :: u62 :: u63 :: u64 :: u65 :: u66 :: u67 :: undef :: []), defers := [] }) (rf.J (q13 X2 base w.heap.size G (.slice ua y.ks.length uc) y.ks K1)) (fun j => match j with | 0 => u44 | 1 => u45 | 2 => u46 | 3 => u47 | 4 => u48 | 5 => u49 | 6 => u50 | _ => u51) rfl (rf.J.start (Below.refl _ _).drew) (rs.deps_of (by kernel_rfl)) ?_ ?_
      · intro i o ho D f x hJ hall hni hcl
        have hSA : D 8 → D 6 := fun h => hcl 8 _ h rfl { on := 6, ground := Ground.data } (by simp) rfl
        match i, ho with
        | 0, ho =>
          cases ho
          have HN : Hid (rf.J (q13 X2 base w.heap.size G (.slice ua y.ks.length uc) y.ks K1) (fun j => j = 0 ∨ D j) (rs.upd f 0 (.pointer (some ⟨w.heap.size, 0 + 4, none⟩))) x) := hJ.pure _ (fun z hz => Option.some.inj hz) (show (5 : Nat) ≠ 0 by decide) (show (6 : Nat) ≠ 0 by decide) (show (8 : Nat) ≠ 0 by decide)
          clear hJ hall hcl hni hSA
          refine wpOp_step rfl (fun K' hK => ?_)
          go_simp
          exact hK _ _ ⟨.pointer (some ⟨w.heap.size, 0 + 4, none⟩), by simp [rs.upd], HN.out⟩
        | 1, ho =>
          cases ho
          have d0 : D 0 := hall { on := 0, ground := Ground.data } (by simp) rfl
          have h0 : f 0 = .pointer (some ⟨w.heap.size, 0 + 4, none⟩) := hJ.1 0 d0 _ rfl
          have nA : ¬ D 6 := fun h => hni (hcl 6 _ h rfl { on := 1, ground := Ground.data } (by simp) rfl)
          have hbx := hJ.2.1 nA
          have c4 : x.cell? ⟨w.heap.size, 0 + 4, none⟩ = some (.slice ua y.ks.length uc) := (HS2.out.lies.keep hbx).c4
          have HN : Hid (rf.J (q13 X2 base w.heap.size G (.slice ua y.ks.length uc) y.ks K1) (fun j => j = 1 ∨ D j) (rs.upd f 1 (.slice ua y.ks.length uc)) x) := hJ.pure _ (fun z hz => Option.some.inj hz) (show (5 : Nat) ≠ 1 by decide) (show (6 : Nat) ≠ 1 by decide) (show (8 : Nat) ≠ 1 by decide)
          clear hJ hall hcl hni hSA hbx nA
          refine wpOp_step rfl (fun K' hK => ?_)
          simp only [h0]
          go_wp2_with fail
          exact ⟨.slice ua y.ks.length uc, by simp [rs.upd, h0], HN.out⟩
        | 2, ho =>
          cases ho
          have HN : Hid (rf.J (q13 X2 base w.heap.size G (.slice ua y.ks.length uc) y.ks K1) (fun j => j = 2 ∨ D j) (rs.upd f 2 (.pointer (some ⟨G, 0, none⟩))) x) := hJ.pure _ (fun z hz => Option.some.inj hz) (show (5 : Nat) ≠ 2 by decide) (show (6 : Nat) ≠ 2 by decide) (show (8 : Nat) ≠ 2 by decide)
          clear hJ hall hcl hni hSA
          refine wpOp_step rfl (fun K' hK => ?_)
          go_simp
          exact hK _ _ ⟨.pointer (some ⟨G, 0, none⟩), by simp [rs.upd], HN.out⟩
        | 3, ho =>
          cases ho
          have d2 : D 2 := hall { on := 2, ground := Ground.data } (by simp) rfl
          have h2 : f 2 = .pointer (some ⟨G, 0, none⟩) := hJ.1 2 d2 _ rfl
          have nA : ¬ D 6 := fun h => hni (hcl 4 _ (hcl 5 _ (hcl 6 _ h rfl { on := 5, ground := Ground.data } (by simp) rfl) rfl { on := 4, ground := Ground.data } (by simp) rfl) rfl { on := 3, ground := Ground.data } (by simp) rfl)
          have hbx := hJ.2.1 nA
          have c4 : x.cell? ⟨G, 0, none⟩ = some (.string K1) := (hbx.cell (p := ⟨G, 0, none⟩) HG2.out.1).trans HG2.out.2.1
          have HN : Hid (rf.J (q13 X2 base w.heap.size G (.slice ua y.ks.length uc) y.ks K1) (fun j => j = 3 ∨ D j) (rs.upd f 3 (.string K1)) x) := hJ.pure _ (fun z hz => Option.some.inj hz) (show (5 : Nat) ≠ 3 by decide) (show (6 : Nat) ≠ 3 by decide) (show (8 : Nat) ≠ 3 by decide)
          clear hJ hall hcl hni hSA hbx nA
          refine wpOp_step rfl (fun K' hK => ?_)
          simp only [h2]
          go_wp2_with fail
          exact ⟨.string K1, by simp [rs.upd, h2], HN.out⟩
        | 4, ho =>
          cases ho
          have d3 : D 3 := hall { on := 3, ground := Ground.data } (by simp) rfl
          have h3 : f 3 = .string K1 := hJ.1 3 d3 _ rfl
          have nA : ¬ D 6 := fun h => hni (hcl 5 _ (hcl 6 _ h rfl { on := 5, ground := Ground.data } (by simp) rfl) rfl { on := 4, ground := Ground.data } (by simp) rfl)
          have nS : ¬ D 8 := fun h => nA (hSA h)
          have HN : Hid (∀ X', Below x.heap.size x X' → rf.J (q13 X2 base w.heap.size G (.slice ua y.ks.length uc) y.ks K1) (fun j => j = 4 ∨ D j) (rs.upd f 4 (.string K1)) X') := fun X' hb => hJ.early _ nA nS (fun z hz => Option.some.inj hz) (show (5 : Nat) ≠ 4 by decide) (show (6 : Nat) ≠ 4 by decide) (show (8 : Nat) ≠ 4 by decide) hb
          clear hJ hall hcl hni hSA nA nS
          refine wpOp_step rfl (fun K' hK => ?_)
          simp only [h3]
          go_wp2_with (go_at_call 93; refine (clone_any K1 _ hs1).mono ?_; rintro e X' ⟨rfl, hb⟩)
          exact ⟨.string K1, by simp [rs.upd, h3], HN.out _ hb⟩
        | 5, ho =>
          cases ho
          have d4 : D 4 := hall { on := 4, ground := Ground.data } (by simp) rfl
          have h4 : f 4 = .string K1 := hJ.1 4 d4 _ rfl
          have nA : ¬ D 6 := fun h => hni (hcl 6 _ h rfl { on := 5, ground := Ground.data } (by simp) rfl)
          have nS : ¬ D 8 := fun h => nA (hSA h)
          have HN : Hid (rf.J (q13 X2 base w.heap.size G (.slice ua y.ks.length uc) y.ks K1) (fun j => j = 5 ∨ D j) (rs.upd f 5 (.slice (some ⟨x.heap.size, 0, none⟩) 1 1)) (x.alloc (.cells #[.string K1] 9))) := hJ.build _ rfl nA nS rfl (show (6 : Nat) ≠ 5 by decide) (show (8 : Nat) ≠ 5 by decide) ((Below.refl _ _).alloc (Nat.le_refl _) _) (one_cell x _ _)
          clear hJ hall hcl hni hSA nA nS
          refine wpOp_step rfl (fun K' hK => ?_)
          simp only [h4]
          go_wp2_with fail
          exact ⟨_, by simp [rs.upd, h4], HN.out⟩
        | 6, ho =>
          cases ho
          have d1 : D 1 := hall { on := 1, ground := Ground.data } (by simp) rfl
          have d5 : D 5 := hall { on := 5, ground := Ground.data } (by simp) rfl
          have h1 : f 1 = .slice ua y.ks.length uc := hJ.1 1 d1 _ rfl
          have nS : ¬ D 8 := fun h => hni (hSA h)
          have hbx := hJ.2.1 hni
          obtain ⟨g, hgB, hgc⟩ := hJ.2.2.1 d5 hni
          have hownX := ow.own_below (HS2.out.ok) hbx
          have hszX : X2.heap.size ≤ x.heap.size := hbx.size
          refine wpOp_step rfl (fun K' hK => ?_)
          rw [if_pos (by rfl)]
          refine apk.wp_append_keep x (.tmp 45) (.tmp 49) 68 rfl base 9 ik (.string ⟨#[]⟩) 1 16 Tryz.underlying68 hki hk0 hk1 hk2 rfl (by decide) (.slice ua y.ks.length uc) y.ks.length (y.ks.map Value.string) h1 hownX ⟨g, 0, none⟩ 1 1 ([.string K1]) hgB rfl (fun j u hj => by rw [ow.add_at]; exact hgc j u hj) (by intro u hu; simp at hu; subst hu; rfl) (by unfold maxLen; omega) (by omega) (by omega) (fun v' X' hown' hgr' hkp => hK _ _ ⟨v', by simp [rs.upd, Act.put], hJ.app v' rfl hni nS rfl (show (8 : Nat) ≠ 6 by decide) hown' hgr' hkp⟩)
        | 7, ho =>
          cases ho
          have HN : Hid (rf.J (q13 X2 base w.heap.size G (.slice ua y.ks.length uc) y.ks K1) (fun j => j = 7 ∨ D j) (rs.upd f 7 (.pointer (some ⟨w.heap.size, 0 + 4, none⟩))) x) := hJ.pure _ (fun z hz => Option.some.inj hz) (show (5 : Nat) ≠ 7 by decide) (show (6 : Nat) ≠ 7 by decide) (show (8 : Nat) ≠ 7 by decide)
          clear hJ hall hcl hni hSA
          refine wpOp_step rfl (fun K' hK => ?_)
          go_simp
          exact hK _ _ ⟨.pointer (some ⟨w.heap.size, 0 + 4, none⟩), by simp [rs.upd], HN.out⟩
        | 8, ho =>
          cases ho
          have dA : D 6 := hall { on := 6, ground := Ground.data } (by simp) rfl
          have d7 : D 7 := hall { on := 7, ground := Ground.data } (by simp) rfl
          have h7 : f 7 = .pointer (some ⟨w.heap.size, 0 + 4, none⟩) := hJ.1 7 d7 _ rfl
          have hmid := hJ.2.2.2.1 dA hni
          obtain ⟨x1, hb1, hg1, ho1, _, _⟩ := hmid
          have LX := lies_row (HS2.out.lies.keep hb1) (ow.own_below HS2.out.ok hb1) hg1 (by decide)
          obtain ⟨aA, kA, cA, hA0⟩ := slice_fine (own_fine ho1)
          have hA : f 6 = .slice aA kA cA := hA0
          have cX := LX.c4
          have eX := LX.f 4
          have HN : Hid (rf.J (q13 X2 base w.heap.size G (.slice ua y.ks.length uc) y.ks K1) (fun j => j = 8 ∨ D j) (rs.upd f 8 undef) (x.setCell ⟨w.heap.size, 4, none⟩ (.slice aA kA cA))) := by rw [← hA]; exact hJ.store undef rfl dA hni rfl (show (6 : Nat) ≠ 8 by decide)
          clear hJ hall hcl hni hSA hb1 hg1 ho1 LX hA0
          refine wpOp_step rfl (fun K' hK => ?_)
          simp only [hA, h7]
          go_wp2_with fail
          exact ⟨undef, by simp [rs.upd, hA, h7], HN.out⟩
        | k + 9, ho => simp at ho
      · intro D f x hD hJ
        obtain ⟨u', x2, hmid, hx⟩ := hJ.2.2.2.2 (hD 8 (by decide))
        obtain ⟨ua', un', uc', rfl⟩ : ∃ a n c, u' = .slice a n c := by obtain ⟨_, _, _, ho, _⟩ := hmid; exact slice_fine (own_fine ho)
        have HS3 : Hid (Stt w base ⟨nm, vd, nx, ms, ks⟩ (.slice pa pn pc) (.slice qa qn qc) ⟨y.nm, y.vd, y.nx, y.ms, y.ks ++ [K1]⟩ (.slice va y.ms.length vc) (.slice ua' un' uc') x) := by rw [hx]; exact HS2.out.keys rfl rfl rfl rfl rfl rfl rfl rfl hmid
        have HB3 : Hid (bk.Own x (w.heap.size + 1 + 1) (nd + 1) (D1.put (bk.lit K1) (.lit (.int .i64 y.nx)))) := by rw [hx]; exact own_mid hmid HB2.out.1 HS2.out.ok (by omega)
        have HG3 : Hid (G < x.heap.size ∧ x.heap[G]? = some (.cells #[.string K1, .string T1] 136 (0, 0)) ∧ x.cell? ⟨G, 0 + 1, none⟩ = some (.string T1)) := by
          have hb : x.heap[G]? = some (.cells #[.string K1, .string T1] 136 (0, 0)) := by rw [hx]; exact mid_block hmid HG2.out.2.2 (row_not HS2.out.ok HG2.out.2.2 (fun _ _ e => by cases e)) (by omega)
          exact ⟨(Array.getElem?_eq_some_iff.1 hb).1, hb, by rw [cell_of_row x _ _ _ _ _ hb]; rfl⟩
        have hbX3 : base ≤ x.heap.size := Nat.le_trans hbs HS3.out.gr.size
        clear hJ hmid hx hD HS2 HG2 hbX
        refine hK2 _ _ ?_
        generalize f 0 = g0
        generalize f 1 = g1
        generalize f 2 = g2
        generalize f 3 = g3
        generalize f 4 = g4
        generalize f 5 = g5
        generalize f 6 = g6
        generalize f 7 = g7
        clear f D
        go_upto_region 14 with fail
        rename_i K3 hK3
        generalize x = X3 at HS3 HB3 HG3 hbX3 ⊢
        clear x
        refine rs.region_st (by kernel_rfl) (fun f => { tmps := List.toArray ((.agg #[.string nm, .int .i64 vd, .int .i64 nx, .slice pa pn pc, .slice qa qn qc] : Value) :: .slice (some ⟨ib, io, none⟩) n ic :: .pointer (some ⟨w.heap.size, 0, none⟩) :: undef :: .pointer (some ⟨w.heap.size + 1, 0, none⟩) :: u5 :: .map (some (w.heap.size + 1 + 1)) :: undef :: .pointer (some ⟨G, 0, none⟩) :: .map (some (w.heap.size + 1 + 1)) :: .map (some (w.heap.size + 1 + 1)) :: .pointer (some ⟨w.heap.size, 4, none⟩) :: .slice qa qn qc :: .bool bb :: .slice (some ⟨ib, io, none⟩) n ic :: .int .i64 (n : Int) :: .int .i64 (k : Int) :: .bool true :: .pointer (some ⟨ib, io + k * 2, none⟩) :: .agg #[.string K1, .string T1] :: .bool (c0 != 0) :: .map (some (w.heap.size + 1 + 1)) :: .pointer (some ⟨G, 0, none⟩) :: .string K1 :: .int .i64 c0 :: .bool (c0 != 0) :: u26 :: .bool ((y.ks.length : Int) == 60) :: .pointer (some ⟨w.heap.size, 4, none⟩) :: .slice ua y.ks.length uc :: .int .i64 (y.ks.length : Int) :: .bool ((y.ks.length : Int) == 60) :: u32 :: .bool ((y.ms.length : Int) == 30) :: .pointer (some ⟨w.heap.size, 3, none⟩) :: .slice va y.ms.length vc :: .int .i64 (y.ms.length : Int) :: .bool ((y.ms.length : Int) == 30) :: u38 :: .map (some (w.heap.size + 1 + 1)) :: .pointer (some ⟨G, 0, none⟩) :: .string K1 :: .pointer (some ⟨w.heap.size, 2, none⟩) :: .int .i64 y.nx :: g0 :: g1 :: g2 :: g3 :: g4 :: g5 :: g6 :: g7 :: f 0 :: f 1 :: f 2 :: f 3 :: f 4 :: f 5 :: f 6 :: f 7 :: f 8 :: f 9 :: f 10 :: u63 :: u64 :: u65 :: u66 :: u67 :: undef :: []), defers := [] }) (rf.J (q14 X3 base w.heap.size G (.slice va y.ms.length vc) y.ms y.nx T1)) (fun j => match j with | 0 => u52 | 1 => u53 | 2 => u54 | 3 => u55 | 4 => u56 | 5 => u57 | 6 => u58 | 7 => u59 | 8 => u60 | 9 => u61 | _ => u62) rfl (rf.J.start (Below.refl _ _).drew) (rs.deps_of (by kernel_rfl)) ?_ ?_
        · intro i o ho D f x hJ hall hni hcl
          have hSA : D 11 → D 9 := fun h => hcl 11 _ h rfl { on := 9, ground := Ground.data } (by simp) rfl
          match i, ho with
          | 0, ho =>
            cases ho
            have HN : Hid (rf.J (q14 X3 base w.heap.size G (.slice va y.ms.length vc) y.ms y.nx T1) (fun j => j = 0 ∨ D j) (rs.upd f 0 (.pointer (some ⟨w.heap.size, 0 + 3, none⟩))) x) := hJ.pure _ (fun z hz => Option.some.inj hz) (show (8 : Nat) ≠ 0 by decide) (show (9 : Nat) ≠ 0 by decide) (show (11 : Nat) ≠ 0 by decide)
            clear hJ hall hcl hni hSA
            refine wpOp_step rfl (fun K' hK => ?_)
            go_simp
            exact hK _ _ ⟨.pointer (some ⟨w.heap.size, 0 + 3, none⟩), by simp [rs.upd], HN.out⟩
          | 1, ho =>
            cases ho
            have d0 : D 0 := hall { on := 0, ground := Ground.data } (by simp) rfl
            have h0 : f 0 = .pointer (some ⟨w.heap.size, 0 + 3, none⟩) := hJ.1 0 d0 _ rfl
            have nA : ¬ D 9 := fun h => hni (hcl 9 _ h rfl { on := 1, ground := Ground.data } (by simp) rfl)
            have hbx := hJ.2.1 nA
            have c4 : x.cell? ⟨w.heap.size, 0 + 3, none⟩ = some (.slice va y.ms.length vc) := (HS3.out.lies.keep hbx).c3
            have HN : Hid (rf.J (q14 X3 base w.heap.size G (.slice va y.ms.length vc) y.ms y.nx T1) (fun j => j = 1 ∨ D j) (rs.upd f 1 (.slice va y.ms.length vc)) x) := hJ.pure _ (fun z hz => Option.some.inj hz) (show (8 : Nat) ≠ 1 by decide) (show (9 : Nat) ≠ 1 by decide) (show (11 : Nat) ≠ 1 by decide)
            clear hJ hall hcl hni hSA hbx nA
            refine wpOp_step rfl (fun K' hK => ?_)
            simp only [h0]
            go_wp2_with fail
            exact ⟨.slice va y.ms.length vc, by simp [rs.upd, h0], HN.out⟩
          | 2, ho =>
            cases ho
            have HN : Hid (rf.J (q14 X3 base w.heap.size G (.slice va y.ms.length vc) y.ms y.nx T1) (fun j => j = 2 ∨ D j) (rs.upd f 2 (.pointer (some ⟨w.heap.size, 0 + 2, none⟩))) x) := hJ.pure _ (fun z hz => Option.some.inj hz) (show (8 : Nat) ≠ 2 by decide) (show (9 : Nat) ≠ 2 by decide) (show (11 : Nat) ≠ 2 by decide)
            clear hJ hall hcl hni hSA
            refine wpOp_step rfl (fun K' hK => ?_)
            go_simp
            exact hK _ _ ⟨.pointer (some ⟨w.heap.size, 0 + 2, none⟩), by simp [rs.upd], HN.out⟩
          | 3, ho =>
            cases ho
            have d2 : D 2 := hall { on := 2, ground := Ground.data } (by simp) rfl
            have h2 : f 2 = .pointer (some ⟨w.heap.size, 0 + 2, none⟩) := hJ.1 2 d2 _ rfl
            have nA : ¬ D 9 := fun h => hni (hcl 7 _ (hcl 8 _ (hcl 9 _ h rfl { on := 8, ground := Ground.data } (by simp) rfl) rfl { on := 7, ground := Ground.data } (by simp) rfl) rfl { on := 3, ground := Ground.data } (by simp) rfl)
            have hbx := hJ.2.1 nA
            have c4 : x.cell? ⟨w.heap.size, 0 + 2, none⟩ = some (.int .i64 y.nx) := (HS3.out.lies.keep hbx).c2
            have HN : Hid (rf.J (q14 X3 base w.heap.size G (.slice va y.ms.length vc) y.ms y.nx T1) (fun j => j = 3 ∨ D j) (rs.upd f 3 (.int .i64 y.nx)) x) := hJ.pure _ (fun z hz => Option.some.inj hz) (show (8 : Nat) ≠ 3 by decide) (show (9 : Nat) ≠ 3 by decide) (show (11 : Nat) ≠ 3 by decide)
            clear hJ hall hcl hni hSA hbx nA
            refine wpOp_step rfl (fun K' hK => ?_)
            simp only [h2]
            go_wp2_with fail
            exact ⟨.int .i64 y.nx, by simp [rs.upd, h2], HN.out⟩
          | 4, ho =>
            cases ho
            have HN : Hid (rf.J (q14 X3 base w.heap.size G (.slice va y.ms.length vc) y.ms y.nx T1) (fun j => j = 4 ∨ D j) (rs.upd f 4 (.pointer (some ⟨G, 0 + 1, none⟩))) x) := hJ.pure _ (fun z hz => Option.some.inj hz) (show (8 : Nat) ≠ 4 by decide) (show (9 : Nat) ≠ 4 by decide) (show (11 : Nat) ≠ 4 by decide)
            clear hJ hall hcl hni hSA
            refine wpOp_step rfl (fun K' hK => ?_)
            go_simp
            exact hK _ _ ⟨.pointer (some ⟨G, 0 + 1, none⟩), by simp [rs.upd], HN.out⟩
          | 5, ho =>
            cases ho
            have d4 : D 4 := hall { on := 4, ground := Ground.data } (by simp) rfl
            have h4 : f 4 = .pointer (some ⟨G, 0 + 1, none⟩) := hJ.1 4 d4 _ rfl
            have nA : ¬ D 9 := fun h => hni (hcl 6 _ (hcl 7 _ (hcl 8 _ (hcl 9 _ h rfl { on := 8, ground := Ground.data } (by simp) rfl) rfl { on := 7, ground := Ground.data } (by simp) rfl) rfl { on := 6, ground := Ground.data } (by simp) rfl) rfl { on := 5, ground := Ground.data } (by simp) rfl)
            have hbx := hJ.2.1 nA
            have c4 : x.cell? ⟨G, 0 + 1, none⟩ = some (.string T1) := (hbx.cell (p := ⟨G, 0 + 1, none⟩) HG3.out.1).trans HG3.out.2.2
            have HN : Hid (rf.J (q14 X3 base w.heap.size G (.slice va y.ms.length vc) y.ms y.nx T1) (fun j => j = 5 ∨ D j) (rs.upd f 5 (.string T1)) x) := hJ.pure _ (fun z hz => Option.some.inj hz) (show (8 : Nat) ≠ 5 by decide) (show (9 : Nat) ≠ 5 by decide) (show (11 : Nat) ≠ 5 by decide)
            clear hJ hall hcl hni hSA hbx nA
            refine wpOp_step rfl (fun K' hK => ?_)
            simp only [h4]
            go_wp2_with fail
            exact ⟨.string T1, by simp [rs.upd, h4], HN.out⟩
          | 6, ho =>
            cases ho
            have d5 : D 5 := hall { on := 5, ground := Ground.data } (by simp) rfl
            have h5 : f 5 = .string T1 := hJ.1 5 d5 _ rfl
            have nA : ¬ D 9 := fun h => hni (hcl 7 _ (hcl 8 _ (hcl 9 _ h rfl { on := 8, ground := Ground.data } (by simp) rfl) rfl { on := 7, ground := Ground.data } (by simp) rfl) rfl { on := 6, ground := Ground.data } (by simp) rfl)
            have nS : ¬ D 11 := fun h => nA (hSA h)
            have HN : Hid (∀ X', Below x.heap.size x X' → rf.J (q14 X3 base w.heap.size G (.slice va y.ms.length vc) y.ms y.nx T1) (fun j => j = 6 ∨ D j) (rs.upd f 6 (.string T1)) X') := fun X' hb => hJ.early _ nA nS (fun z hz => Option.some.inj hz) (show (8 : Nat) ≠ 6 by decide) (show (9 : Nat) ≠ 6 by decide) (show (11 : Nat) ≠ 6 by decide) hb
            clear hJ hall hcl hni hSA nA nS
            refine wpOp_step rfl (fun K' hK => ?_)
            simp only [h5]
            go_wp2_with (go_at_call 93; refine (clone_any T1 _ hs2).mono ?_; rintro e X' ⟨rfl, hb⟩)
            exact ⟨.string T1, by simp [rs.upd, h5], HN.out _ hb⟩
          | 7, ho =>
            cases ho
            have d3 : D 3 := hall { on := 3, ground := Ground.data } (by simp) rfl
            have d6 : D 6 := hall { on := 6, ground := Ground.data } (by simp) rfl
            have h3 : f 3 = .int .i64 y.nx := hJ.1 3 d3 _ rfl
            have h6 : f 6 = .string T1 := hJ.1 6 d6 _ rfl
            have HN : Hid (rf.J (q14 X3 base w.heap.size G (.slice va y.ms.length vc) y.ms y.nx T1) (fun j => j = 7 ∨ D j) (rs.upd f 7 (.agg #[.int .i64 y.nx, .int .i64 0, .string T1])) x) := hJ.pure _ (fun z hz => Option.some.inj hz) (show (8 : Nat) ≠ 7 by decide) (show (9 : Nat) ≠ 7 by decide) (show (11 : Nat) ≠ 7 by decide)
            clear hJ hall hcl hni hSA
            refine wpOp_step rfl (fun K' hK => ?_)
            simp only [h3, h6]
            go_wp2_with fail
            exact ⟨.agg #[.int .i64 y.nx, .int .i64 0, .string T1], by simp [rs.upd, h3, h6], HN.out⟩
          | 8, ho =>
            cases ho
            have d7 : D 7 := hall { on := 7, ground := Ground.data } (by simp) rfl
            have h7 : f 7 = .agg #[.int .i64 y.nx, .int .i64 0, .string T1] := hJ.1 7 d7 _ rfl
            have nA : ¬ D 9 := fun h => hni (hcl 9 _ h rfl { on := 8, ground := Ground.data } (by simp) rfl)
            have nS : ¬ D 11 := fun h => nA (hSA h)
            have HN : Hid (rf.J (q14 X3 base w.heap.size G (.slice va y.ms.length vc) y.ms y.nx T1) (fun j => j = 8 ∨ D j) (rs.upd f 8 (.slice (some ⟨x.heap.size, 0, none⟩) 1 1)) (x.alloc (.cells #[.int .i64 y.nx, .int .i64 0, .string T1] 110))) := hJ.build _ rfl nA nS rfl (show (9 : Nat) ≠ 8 by decide) (show (11 : Nat) ≠ 8 by decide) ((Below.refl _ _).alloc (Nat.le_refl _) _) (three_cells x _ _ _ _ rfl)
            clear hJ hall hcl hni hSA nA nS
            refine wpOp_step rfl (fun K' hK => ?_)
            simp only [h7]
            go_wp2_with fail
            exact ⟨_, by simp [rs.upd, h7], HN.out⟩
          | 9, ho =>
            cases ho
            have d1 : D 1 := hall { on := 1, ground := Ground.data } (by simp) rfl
            have d8 : D 8 := hall { on := 8, ground := Ground.data } (by simp) rfl
            have h1 : f 1 = .slice va y.ms.length vc := hJ.1 1 d1 _ rfl
            have nS : ¬ D 11 := fun h => hni (hSA h)
            have hbx := hJ.2.1 hni
            obtain ⟨g, hgB, hgc⟩ := hJ.2.2.1 d8 hni
            have hownX := ow.own_below (HS3.out.om) hbx
            have hszX : X3.heap.size ≤ x.heap.size := hbx.size
            refine wpOp_step rfl (fun K' hK => ?_)
            rw [if_pos (by rfl)]
            refine apk.wp_append_keep x (.tmp 53) (.tmp 60) 97 rfl base 110 im (.agg #[.int .i64 0, .int .i64 0, .string ⟨#[]⟩]) 3 32 Tryz.underlying97 hmi hm0 hm1 hm2 rfl (by decide) (.slice va y.ms.length vc) y.ms.length (mc y.ms) h1 hownX ⟨g, 0, none⟩ 1 1 (mc [⟨y.nx, 0, T1⟩]) hgB rfl (fun j u hj => by rw [ow.add_at]; exact hgc j u hj) (mc_one _) (by unfold maxLen; omega) (by omega) (by omega) (fun v' X' hown' hgr' hkp => hK _ _ ⟨v', by simp [rs.upd, Act.put], hJ.app v' rfl hni nS rfl (show (11 : Nat) ≠ 9 by decide) hown' hgr' hkp⟩)
          | 10, ho =>
            cases ho
            have HN : Hid (rf.J (q14 X3 base w.heap.size G (.slice va y.ms.length vc) y.ms y.nx T1) (fun j => j = 10 ∨ D j) (rs.upd f 10 (.pointer (some ⟨w.heap.size, 0 + 3, none⟩))) x) := hJ.pure _ (fun z hz => Option.some.inj hz) (show (8 : Nat) ≠ 10 by decide) (show (9 : Nat) ≠ 10 by decide) (show (11 : Nat) ≠ 10 by decide)
            clear hJ hall hcl hni hSA
            refine wpOp_step rfl (fun K' hK => ?_)
            go_simp
            exact hK _ _ ⟨.pointer (some ⟨w.heap.size, 0 + 3, none⟩), by simp [rs.upd], HN.out⟩
          | 11, ho =>
            cases ho
            have dA : D 9 := hall { on := 9, ground := Ground.data } (by simp) rfl
            have d10 : D 10 := hall { on := 10, ground := Ground.data } (by simp) rfl
            have h10 : f 10 = .pointer (some ⟨w.heap.size, 0 + 3, none⟩) := hJ.1 10 d10 _ rfl
            have hmid := hJ.2.2.2.1 dA hni
            obtain ⟨x1, hb1, hg1, ho1, _, _⟩ := hmid
            have LX := lies_row (HS3.out.lies.keep hb1) (ow.own_below HS3.out.om hb1) hg1 (by decide)
            obtain ⟨aA, kA, cA, hA0⟩ := slice_fine (own_fine ho1)
            have hA : f 9 = .slice aA kA cA := hA0
            have cX := LX.c3
            have eX := LX.f 3
            have HN : Hid (rf.J (q14 X3 base w.heap.size G (.slice va y.ms.length vc) y.ms y.nx T1) (fun j => j = 11 ∨ D j) (rs.upd f 11 undef) (x.setCell ⟨w.heap.size, 3, none⟩ (.slice aA kA cA))) := by rw [← hA]; exact hJ.store undef rfl dA hni rfl (show (9 : Nat) ≠ 11 by decide)
            clear hJ hall hcl hni hSA hb1 hg1 ho1 LX hA0
            refine wpOp_step rfl (fun K' hK => ?_)
            simp only [hA, h10]
            go_wp2_with fail
            exact ⟨undef, by simp [rs.upd, hA, h10], HN.out⟩
          | k + 12, ho => simp at ho
        · intro D f x hD hJ
          obtain ⟨v', x2, hmid, hx⟩ := hJ.2.2.2.2 (hD 11 (by decide))
          obtain ⟨va', vn', vc', rfl⟩ : ∃ a n c, v' = .slice a n c := by obtain ⟨_, _, _, ho, _⟩ := hmid; exact slice_fine (own_fine ho)
          have HS4 : Hid (Stt w base ⟨nm, vd, nx, ms, ks⟩ (.slice pa pn pc) (.slice qa qn qc) ⟨y.nm, y.vd, y.nx, y.ms ++ [⟨y.nx, 0, T1⟩], y.ks ++ [K1]⟩ (.slice va' vn' vc') (.slice ua' un' uc') x) := by rw [hx]; exact HS3.out.mails rfl rfl rfl rfl rfl rfl rfl rfl hmid
          have HB4 : Hid (bk.Own x (w.heap.size + 1 + 1) (nd + 1) (D1.put (bk.lit K1) (.lit (.int .i64 y.nx)))) := by rw [hx]; exact own_mid hmid HB3.out HS3.out.om (by omega)
          clear hJ hmid hx hD HS3 HB3 HG3 hbX3
          refine hK3 _ _ ?_
          generalize f 0 = e0
          generalize f 1 = e1
          generalize f 2 = e2
          generalize f 3 = e3
          generalize f 4 = e4
          generalize f 5 = e5
          generalize f 6 = e6
          generalize f 7 = e7
          generalize f 8 = e8
          generalize f 9 = e9
          generalize f 10 = e10
          clear f D
          have l2 : x.cell? ⟨w.heap.size, 0 + 2, none⟩ = some (.int .i64 y.nx) := HS4.out.lies.c2
          have lf := HS4.out.lies.f 2
          have HLZ : Hid (Lop w base ⟨nm, vd, nx, ms, ks⟩ (.slice pa pn pc) (.slice qa qn qc) ps (k + 1) (addI y (K1, T1)) (.slice va' vn' vc') (.slice ua' un' uc') (x.setCell ⟨w.heap.size, 2, none⟩ (.int .i64 (y.nx + 1)))) := by
            refine ⟨HS4.out.next, HNEW.out, ?_, ?_, ?_, nd + 1, D1.put (bk.lit K1) (.lit (.int .i64 y.nx)), by omega, ?_, HB2.out.2⟩
            · show y.nx + 1 = nx + ((k + 1 : Nat) : Int)
              rw [HNX.out]
              omega
            · have := HLEN.out.2
              simp [addI]
              omega
            · have := HLEN.out.1
              simp [addI]
              omega
            · obtain ⟨es, clock, hb', F, hs, hD⟩ := HB4.out
              exact ⟨es, clock, by rw [heap_setCell_other _ _ _ _ (by simp; omega)]; exact hb', F, hs, hD⟩
          go_wp2
          go_roundw
          case rel => exact ⟨k + 1, _, _, _, by omega, by go_num, HLZ.out⟩
          case measure => simp [intOf]; omega
    · have hkn : k = n := by omega
      have l0 := HLO.out.st.lies.c0
      have l1 := HLO.out.st.lies.c1
      have l2 := HLO.out.st.lies.c2
      have l3 := HLO.out.st.lies.c3
      have l4 := HLO.out.st.lies.c4
      have r0 : wr.cell? ⟨w.heap.size + 1, 0, none⟩ = some (.string ⟨#[]⟩) := HLO.out.st.res.c0
      have r1 : wr.cell? ⟨w.heap.size + 1, 0 + 1, none⟩ = some (.int .i64 0) := HLO.out.st.res.c1
      have r2 : wr.cell? ⟨w.heap.size + 1, 0 + 2, none⟩ = some (.int .i64 0) := HLO.out.st.res.c2
      have r3 := HLO.out.st.res.c3
      have r4 := HLO.out.st.res.c4
      have fr := HLO.out.st.res.f
      have HZ : Hid (∀ Y, Y = put5w wr (w.heap.size + 1) (.string y.nm) (.int .i64 y.vd) (.int .i64 y.nx) (.slice va y.ms.length vc) (.slice ua y.ks.length uc) → Lies Y (w.heap.size + 1) 99 y (.slice va y.ms.length vc) (.slice ua y.ks.length uc) ∧ Arm base ⟨nm, vd, nx, ms, ks⟩ (.slice pa pn pc) (.slice qa qn qc) (fun y' c => add ⟨nm, vd, nx, ms, ks⟩ ps = (y', c)) w (.returned (.tuple #[.agg #[.string y.nm, .int .i64 y.vd, .int .i64 y.nx, .slice va y.ms.length vc, .slice ua y.ks.length uc], .int .i64 0])) Y) := fun Y hY => by
        subst hY
        have hS := HLO.out.st
        have hg := put5w_grown wr (w.heap.size + 1) (.string y.nm) (.int .i64 y.vd) (.int .i64 y.nx) (.slice va y.ms.length vc) (.slice ua y.ks.length uc)
        have he : add ⟨nm, vd, nx, ms, ks⟩ ps = (y, 0) := by
          rw [HLO.out.eq, List.drop_eq_nil_of_le (by have := HN.out; omega)]
          rfl
        refine ⟨put5w_lies hS.res, y, 0, va, y.ms.length, vc, ua, y.ks.length, uc, rfl, he, fun _ => ⟨own_grown hS.om hg (row_box hS.om hS.res (by decide)), own_grown hS.ok hg (row_box hS.ok hS.res (by decide)), hS.hv, hS.hu⟩, fun e => absurd rfl e, ?_⟩
        refine ⟨hg.os.trans hS.gr.os, hg.tape.trans hS.gr.tape, hg.output.trans hS.gr.output, Nat.le_trans hS.gr.size hg.size, fun j hj h1 h2 => ?_⟩
        rw [hg.block j (Nat.lt_of_lt_of_le hj hS.gr.size) (by intro e; cases e; omega)]
        exact hS.gr.block j hj h1 h2
      clear HLO
      go_wp2
      change bodyPost _ _ _ _ _ (put5w wr (w.heap.size + 1) (.string y.nm) (.int .i64 y.vd) (.int .i64 y.nx) (.slice va y.ms.length vc) (.slice ua y.ks.length uc))
      obtain ⟨HZ1, HZ2⟩ := HZ.out _ rfl
      clear HZ
      generalize put5w wr _ _ _ _ _ _ = Y at HZ1 HZ2 ⊢
      have z0 := HZ1.c0
      have z1 := HZ1.c1
      have z2 := HZ1.c2
      have z3 := HZ1.c3
      have z4 := HZ1.c4
      exact bodyPost_ret (v := .tuple #[.agg #[.string y.nm, .int .i64 y.vd, .int .i64 y.nx, .slice va y.ms.length vc, .slice ua y.ks.length uc], .int .i64 0]) (by simp [results, Tryz.results120, go_sem, z0, z1, z2, z3, z4]) rfl HZ2
end Go.Proofs.YtncnbhekgkemfaaGreatDoor.wi
