/-
  A mail is found in a rising row by halves.
  The flags of one mail of a box, changed in its own row: the row that it leaves.
  clear of a slice whose elements have three cells.
  slices.DeleteFunc over mails of one's own row: those that have the flag go.
-/
import Derived.Test.YtinnnfkhiigjpaaGreatPkag
import Derived.Test.YtinnnfkhiigjpaaGreatPkai
import Derived.Deep.DeepCutAuto
import Derived.Deep.Cut
import Derived.Deep.CutRange
import Derived.Test.YtinnnfkhiigjpaaGreatPkal
import Derived.Deep.RegionWith
import Derived.Test.YtinnnfkhiigjpaaGreatPkaf
import Derived.Lib.SliceRun

namespace Go.Proofs.YtinnnfkhiigjpaaGreat.st
open Go.RowKit
set_option linter.unusedVariables false

def Rising (ms : List St) : Prop := ∀ i j, i < j → j < ms.length → (ms.getD i noS).u < (ms.getD j noS).u
theorem rising_of {ms : List St} {nx : Int} : ∀ {k : Nat}, bx.MGood ms nx k → ∀ i j, i < j → j < k → (ms.getD i noS).u < (ms.getD j noS).u
  | 0, _, i, j, _, hj => absurd hj (Nat.not_lt_zero _)
  | k + 1, h, i, j, hij, hj => by
    by_cases e : j = k
    · subst e
      have h1 := (h j (by omega)).1
      by_cases e2 : i + 1 = j
      · subst e2
        rw [bx.last_succ] at h1
        exact h1
      · have h2 := rising_of (k := j) (fun x hx => h x (by omega)) i (j - 1) (by omega) (by omega)
        have h3 : bx.last ms j = (ms.getD (j - 1) noS).u := by simp [bx.last, show j ≠ 0 by omega]
        rw [h3] at h1
        omega
    · exact rising_of (k := k) (fun x hx => h x (by omega)) i j hij (by omega)
theorem rising_bok {x : bx.Bx} (h : bx.bok x = true) : Rising x.ms := by
  have := (bx.mails_of ((bx.bok_of x).1 h).2.2.2.1).2
  exact fun i j hij hj => rising_of this i j hij hj
/-- A mail of that uid is there, or none is. -/
def Fnd (ms : List St) (z : Int) (i : Nat) (b : Bool) : Prop := (b = true ∧ i < ms.length ∧ (ms.getD i noS).u = z) ∨ (b = false ∧ ∀ k, k < ms.length → (ms.getD k noS).u ≠ z)

set_option maxHeartbeats 2000000 in
set_option maxRecDepth 100000 in
theorem bs_any (N : Nat) (v : Value) (ms : List St) (z : Int) (w : World) (h : MailsIn w N v ms) (hN : N ≤ w.heap.size) (hl : ms.length ≤ 30) (hr : Rising ms) :
    Calls Tryz.prog 66 #[v, .int .i64 z, .func (Fn.func 67) #[] #[]] w fun e w' => (∃ (i : Nat) (b : Bool), e = .returned (.tuple #[.int .i64 i, .bool b]) ∧ Fnd ms z i b ∧ i ≤ ms.length) ∧ Below w.heap.size w w' := by
  obtain ⟨a, cap, rfl, h⟩ := h
  obtain ⟨n, hn⟩ : ∃ n, n = ms.length := ⟨_, rfl⟩
  have HN : Hid (n = ms.length) := hn
  have HH : Hid (ms = [] ∨ ∃ b off, a = some ⟨b, off, none⟩ ∧ b < N ∧ ∀ j, j < ms.length → At3 w b (off + j * 3) (ms.getD j noS)) := h
  have HRI : Hid (Rising ms) := hr
  rw [← hn] at hl ⊢
  clear h hr hn
  have HC : Hid (∀ (x : St) w, Calls Tryz.prog 67 #[SV x, .int .i64 z] w fun e w' => e = .returned (.int .i64 (cmpI x.u z)) ∧ Below w.heap.size w w') := fun x w => byUid_any x z w
  go_enter Tryz.func66, Tryz.ntmps66
  go_wp2
  go_loopw [9, 10] (fun i j wr => ∃ (p q : Nat), p ≤ q ∧ q ≤ n ∧ i = .int .i64 p ∧ j = .int .i64 q ∧ (∀ k, k < p → (ms.getD k noS).u < z) ∧ (∀ k, q ≤ k → k < n → z ≤ (ms.getD k noS).u) ∧ Below w.heap.size w wr) (fun i j _ => (intOf j).toNat - (intOf i).toNat)
  case atStart => exact ⟨0, n, by omega, by omega, rfl, rfl, fun k hk => absurd hk (Nat.not_lt_zero _), fun k h1 h2 => by omega, Below.refl _ _⟩
  case round =>
    obtain ⟨p, q, hpq, hqn, rfl, rfl, hlo, hhi, hbw⟩ := hrel
    have HLO : Hid (∀ k, k < p → (ms.getD k noS).u < z) := hlo
    have HHI : Hid (∀ k, q ≤ k → k < n → z ≤ (ms.getD k noS).u) := hhi
    clear hlo hhi
    by_cases hlt : p < q
    · have hlt' : (p : Int) < (q : Int) := by omega
      obtain ⟨m, hm⟩ : ∃ m, m = (p + q) / 2 := ⟨_, rfl⟩
      have hmi : ((p : Int) + (q : Int)) / 2 = (m : Int) := by omega
      have hm1 : p ≤ m := by omega
      have hm2 : m < q := by omega
      have hka : m < ms.length := by have := HN.out; omega
      obtain ⟨b, off, ha, hat⟩ : ∃ b off, a = some ⟨b, off, none⟩ ∧ At3 wr b (off + m * 3) (ms.getD m noS) := by
        rcases HH.out with e | ⟨b, off, e, hb, hc⟩
        · rw [e] at hka; simp at hka
        · exact ⟨b, off, e, (hc m hka).keep hbw (by omega)⟩
      have HSP : Hid ((ms.getD m noS).u < z → ∀ k, k < m + 1 → (ms.getD k noS).u < z) := fun h k hk => by
        by_cases e : k = m
        · rw [e]; exact h
        · have := HRI.out k m (by omega) hka; omega
      have HSQ : Hid (¬ (ms.getD m noS).u < z → ∀ k, m ≤ k → k < n → z ≤ (ms.getD k noS).u) := fun h k hk hkn => by
        by_cases e : k = m
        · rw [e]; omega
        · have := HRI.out m k (by omega) (by have := HN.out; omega); omega
      subst ha
      generalize ms.getD m noS = x at hat HSP HSQ
      obtain ⟨uu, f, t⟩ := x
      obtain ⟨d0, d1, d2⟩ := hat
      simp only at d0 d1 d2 HSP HSQ
      have hmn : (m : Int) < (n : Int) := by omega
      have hm0 : (0 : Int) ≤ (m : Int) := by omega
      clear hm hka
      go_wp2_with fail
      refine (HC.out ⟨uu, f, t⟩ _).mono ?_
      rintro e w2 ⟨rfl, hb2⟩
      have b2 := hbw.trans (hb2.mono hbw.size)
      clear hb2 hbw d0 d1 d2
      simp only
      by_cases hc : uu < z
      · have hci : cmpI uu z = -1 := by simp [cmpI, hc]
        have HX : Hid (∀ k, k < m + 1 → (ms.getD k noS).u < z) := HSP.out hc
        rw [hci]
        clear hci hc HSP HSQ
        go_wp2
        go_roundw
        case rel => exact ⟨m + 1, q, by omega, hqn, by go_num, rfl, HX.out, HHI.out, b2⟩
        case measure => simp [intOf]; omega
      · have hci : (0 : Int) ≤ cmpI uu z := by unfold cmpI; rw [if_neg hc]; split <;> omega
        have HX : Hid (∀ k, m ≤ k → k < n → z ≤ (ms.getD k noS).u) := HSQ.out (by omega)
        generalize cmpI uu z = ci at hci ⊢
        clear hc HSP HSQ
        go_wp2
        go_roundw
        case rel => exact ⟨p, m, hm1, by omega, rfl, by go_num, HLO.out, HX.out, b2⟩
        case measure => simp [intOf]; omega
    · have hpq' : p = q := by omega
      subst hpq'
      by_cases hpn : p < n
      · have hpn' : (p : Int) < (n : Int) := by omega
        have hka : p < ms.length := by have := HN.out; omega
        obtain ⟨b, off, ha, hat⟩ : ∃ b off, a = some ⟨b, off, none⟩ ∧ At3 wr b (off + p * 3) (ms.getD p noS) := by
          rcases HH.out with e | ⟨b, off, e, hb, hc⟩
          · rw [e] at hka; simp at hka
          · exact ⟨b, off, e, (hc p hka).keep hbw (by omega)⟩
        have HY : Hid ((ms.getD p noS).u = z → Fnd ms z p true) := fun h => .inl ⟨rfl, hka, h⟩
        have HNo : Hid ((ms.getD p noS).u ≠ z → Fnd ms z p false) := fun h => .inr ⟨rfl, fun k hk e => by
          have h1 := HHI.out p (Nat.le_refl _) hpn
          by_cases e1 : k < p
          · have := HLO.out k e1; omega
          · by_cases e2 : k = p
            · rw [e2] at e; exact h e
            · have := HRI.out p k (by omega) hk; omega⟩
        subst ha
        generalize ms.getD p noS = x at hat HY HNo
        obtain ⟨uu, f, t⟩ := x
        obtain ⟨d0, d1, d2⟩ := hat
        simp only at d0 d1 d2 HY HNo
        have hm0 : (0 : Int) ≤ (p : Int) := by omega
        clear hka
        go_wp2_with fail
        refine (HC.out ⟨uu, f, t⟩ _).mono ?_
        rintro e w2 ⟨rfl, hb2⟩
        have b2 := hbw.trans (hb2.mono hbw.size)
        clear hb2 hbw d0 d1 d2
        simp only
        by_cases hc : uu = z
        · have hci : cmpI uu z = 0 := by simp [cmpI, hc]
          have HX : Hid (Fnd ms z p true) := HY.out hc
          rw [hci]
          clear hci hc HY HNo
          go_wp2
          go_ret2
          exact ⟨⟨p, true, rfl, HX.out, by omega⟩, b2⟩
        · have hci : (cmpI uu z == 0) = false := by unfold cmpI; split; rfl; split; rfl; omega
          have HX : Hid (Fnd ms z p false) := HNo.out hc
          generalize cmpI uu z = ci at hci ⊢
          clear hc HY HNo
          go_wp2
          go_ret2
          exact ⟨⟨p, false, rfl, HX.out, by omega⟩, b2⟩
      · have hpn' : (n : Int) ≤ (p : Int) := by omega
        have HX : Hid (Fnd ms z p false) := .inr ⟨rfl, fun k hk e => by have := HLO.out k (by have := HN.out; omega); omega⟩
        go_wp2
        go_ret2
        exact ⟨⟨p, false, by simp, HX.out, by omega⟩, hbw⟩

set_option maxHeartbeats 1000000 in
set_option maxRecDepth 100000 in
theorem mailAt_any (x : bx.Bx) (v u : Value) (z : Int) (w : World) (h : bx.RowsAt w v u x.ms x.ks) (hl : x.ms.length ≤ 30) (hr : Rising x.ms) :
    Calls Tryz.prog 37 #[bx.BV x v u, .int .i64 z] w fun e w' => (∃ (i : Nat) (b : Bool), e = .returned (.tuple #[.int .i64 i, .bool b]) ∧ Fnd x.ms z i b ∧ i ≤ x.ms.length) ∧ Below w.heap.size w w' := by
  have b0 := new_below w 38 #[.string x.nm, .int .i64 x.vd, .int .i64 x.nx, v, u]
  have HA : Hid (bx.RowsAt (w.alloc (.cells #[.string x.nm, .int .i64 x.vd, .int .i64 x.nx, v, u] 38)) v u x.ms x.ks) := bx.rows_below h b0
  obtain ⟨⟨a, cap, rfl, _⟩, ⟨a1, cap1, rfl, _⟩⟩ := h
  obtain ⟨nm, vd, nx, ms, ks⟩ := x
  have HR : Hid (Rising ms) := hr
  unfold bx.BV
  simp only at b0 HA hl ⊢
  clear hr
  go_enter Tryz.func37, Tryz.ntmps37
  go_wp2_with fail
  generalize w.alloc _ = w0 at b0 HA ⊢
  refine (bs_any _ _ ms z _ HA.out.1 (Nat.le_refl _) hl HR.out).mono ?_
  rintro e w2 ⟨⟨i, b, rfl, hf, hi⟩, hb2⟩
  have HF : Hid (Fnd ms z i b) := hf
  have b2 := b0.trans (hb2.mono b0.size)
  clear hb2 b0 hf
  go_wp2
  go_ret2
  exact ⟨⟨i, b, rfl, HF.out, hi⟩, b2⟩
end Go.Proofs.YtinnnfkhiigjpaaGreat.st

namespace Go.Proofs.YtinnnfkhiigjpaaGreat.bl
open Go.ChangeShapes Go.WideShapes Go.ChangeAt Go.RowKit Go.Deep Go.Joins
open st gr bx mx
set_option linter.unusedVariables false

def flg (mode was f : Int) : Int := if mode = 1 then f else if mode = 2 then bits .or .i64 was f else bits .andNot .i64 was f
theorem flg_set {mode was f : Int} (h : mode = 1) : flg mode was f = f := by rw [flg, if_pos h]
theorem flg_add {mode was f : Int} (h : mode = 2) : flg mode was f = bits .or .i64 was f := by rw [flg, if_neg (by omega), if_pos h]
theorem flg_less {mode was f : Int} (h : mode = 3) : flg mode was f = bits .andNot .i64 was f := by rw [flg, if_neg (by omega), if_neg (by omega)]
theorem put5w_new {w x : World} {r : Option Nat} {G : Nat} {a b c d e : Value} (h : w.grownBy x r) (hG : w.heap.size ≤ G) : w.grownBy (put5w x G a b c d e) r :=
  ⟨(put5w_grown x G a b c d e).os.trans h.os, (put5w_grown x G a b c d e).tape.trans h.tape, (put5w_grown x G a b c d e).output.trans h.output, Nat.le_trans h.size (put5w_grown x G a b c d e).size, fun k hk hr => ((put5w_grown x G a b c d e).block k (Nat.lt_of_lt_of_le hk h.size) (by intro e; cases e; omega)).trans (h.block k hk hr)⟩
def setF (ms : List St) (i : Nat) (f : Int) : List St := ms.set i ⟨(ms.getD i noS).u, f, (ms.getD i noS).t⟩
theorem setF_len (ms : List St) (i : Nat) (f : Int) : (setF ms i f).length = ms.length := by simp [setF]
theorem setF_at {ms : List St} {i j : Nat} {f : Int} (hi : i < ms.length) : (setF ms i f).getD j noS = if j = i then ⟨(ms.getD i noS).u, f, (ms.getD i noS).t⟩ else ms.getD j noS := by
  unfold setF
  by_cases e : j = i
  · subst e
    rw [if_pos rfl]
    simp [List.getD_eq_getElem?_getD, hi]
  · rw [if_neg e]
    simp only [List.getD_eq_getElem?_getD]
    rw [List.getElem?_set_ne (Ne.symm e)]
theorem mc_ext {ms : List St} {cs : List Value} (hl : cs.length = ms.length * 3) (h : ∀ j, j < ms.length → In3 cs (j * 3) (ms.getD j noS)) : cs = mc ms := by
  refine List.ext_getElem? fun i => ?_
  by_cases hi : i < ms.length * 3
  · have hq : i / 3 < ms.length := by omega
    obtain ⟨a0, a1, a2⟩ := h (i / 3) hq
    obtain ⟨b0, b1, b2⟩ := mc_at ms (i / 3) hq
    have hr : i % 3 = 0 ∨ i % 3 = 1 ∨ i % 3 = 2 := by omega
    rcases hr with hr | hr | hr
    · rw [show i = i / 3 * 3 by omega, a0, b0]
    · rw [show i = i / 3 * 3 + 1 by omega, a1, b1]
    · rw [show i = i / 3 * 3 + 2 by omega, a2, b2]
  · rw [List.getElem?_eq_none (by omega), List.getElem?_eq_none (by rw [mc_len]; omega)]
theorem mc_setF {ms : List St} {i : Nat} {f : Int} (hi : i < ms.length) : (mc ms).set (i * 3 + 1) (.int .i64 f) = mc (setF ms i f) := by
  refine mc_ext (by rw [List.length_set, mc_len, setF_len]) fun j hj => ?_
  rw [setF_len] at hj
  rw [setF_at hi]
  obtain ⟨b0, b1, b2⟩ := mc_at ms j hj
  by_cases e : j = i
  · subst e
    rw [if_pos rfl]
    refine ⟨?_, ?_, ?_⟩
    · rw [List.getElem?_set_ne (by omega)]; exact b0
    · rw [List.getElem?_set_self (by rw [mc_len]; omega)]
    · rw [List.getElem?_set_ne (by omega)]; exact b2
  · rw [if_neg e]
    refine ⟨?_, ?_, ?_⟩
    · rw [List.getElem?_set_ne (by omega)]; exact b0
    · rw [List.getElem?_set_ne (by omega)]; exact b1
    · rw [List.getElem?_set_ne (by omega)]; exact b2
theorem ownM_setF {w : World} {base g n c i : Nat} {ms : List St} (h : OwnM w base (.slice (some ⟨g, 0, none⟩) n c) ms) (hi : i < ms.length) (f : Int) : OwnM (w.setCell ⟨g, i * 3 + 1, none⟩ (.int .i64 f)) base (.slice (some ⟨g, 0, none⟩) n c) (setF ms i f) := by
  have h' : w.ownsRow base 46 3 (.slice (some ⟨g, 0, none⟩) n c) ms.length (mc ms) := h
  obtain rfl : n = ms.length := by
    rcases h'.2 with ⟨e, _⟩ | ⟨g', cap, cur, e, _⟩
    · cases e
    · cases e; rfl
  have h2 := (h'.stored (i * 3 + 1) (.int .i64 f)).1
  rw [mc_setF hi] at h2
  unfold OwnM
  rw [setF_len]
  exact h2
/-- What withFlags answers. -/
def Wf (y : Bx) (m : mu.Mu) (y' : Bx) (c : Int) : Prop :=
  (∃ i, i < y.ms.length ∧ (y.ms.getD i noS).u = m.u ∧ y' = ⟨y.nm, y.vd, y.nx, setF y.ms i (flg m.m (y.ms.getD i noS).f m.f), y.ks⟩ ∧ c = 0) ∨ ((∀ i, i < y.ms.length → (y.ms.getD i noS).u ≠ m.u) ∧ y' = B0 ∧ c = 17)

end Go.Proofs.YtinnnfkhiigjpaaGreat.bl

namespace Go.Proofs.YtinnnfkhiigjpaaGreat.cl
open Go.RowKit
set_option linter.unusedVariables false
theorem run_clear_cells {P : Program} (w : World) (t e ty : TypeId) (z : Value) (ht : P.underlying t = some (.slice e)) (hv : ∀ w, (zeroValue e).run P w = .ok z w) (b o n c : Nat) (hn : 0 < n)
    (h1 : ∀ v ∈ (Builtin.zeroCells z.cells n).toList, v.oneCell' = true) (hc : ∀ j, j < (Builtin.zeroCells z.cells n).toList.length → (w.cell? ⟨b, o + j, none⟩).isSome = true) (hf : ∀ j, j < (Builtin.zeroCells z.cells n).toList.length → w.frozen? ⟨b, o + j, none⟩ = false) :
    (Builtin.clear_ #[t] ty #[.slice (some ⟨b, o, none⟩) n c]).run P w = .ok (.tuple #[]) (w.setCells b o (Builtin.zeroCells z.cells n).toList) := by
  have hst := run_storeCells_cells (P := P) b o (Builtin.zeroCells z.cells n).toList 0 w (by simpa using hc) (by simpa using hf) h1
  simp only [Nat.add_zero] at hst
  obtain ⟨m, rfl⟩ : ∃ m, n = m + 1 := ⟨n - 1, by omega⟩
  simp [Builtin.clear_, run_underlying ht, hv, hst]
end Go.Proofs.YtinnnfkhiigjpaaGreat.cl

namespace Go.Proofs.YtinnnfkhiigjpaaGreat.bl
open Go.ChangeShapes Go.WideShapes Go.ChangeAt Go.RowKit Go.Deep Go.Joins
open st gr bx mx
set_option linter.unusedVariables false

theorem ownM_cell {w : World} {base g n c j : Nat} {L : List St} (h : OwnM w base (.slice (some ⟨g, 0, none⟩) n c) L) (hj : j < L.length) : At3 w g (j * 3) (L.getD j noS) := by
  obtain ⟨h0, h1, h2⟩ := mc_at L j hj
  have hl := mc_len L
  have h : w.ownsRow base 46 3 (.slice (some ⟨g, 0, none⟩) n c) L.length (mc L) := h
  obtain rfl : n = L.length := by
    rcases h.2 with ⟨e, _⟩ | ⟨g', cap, cur, e, _⟩
    · cases e
    · cases e; rfl
  exact ⟨by rw [h.cellAt (j * 3) (by omega)]; exact h0, by rw [h.cellAt (j * 3 + 1) (by omega)]; exact h1, by rw [h.cellAt (j * 3 + 2) (by omega)]; exact h2⟩
/-- A mail that goes. -/
def del (x : St) : Bool := bits .and .i64 x.f 8 == 8
set_option maxHeartbeats 1000000 in
set_option maxRecDepth 100000 in
theorem has_any (x : St) (w : World) : Calls Tryz.prog 33 #[.agg #[.int .i64 x.u, .int .i64 x.f, .string x.t], .int .i64 8] w fun e w' => e = .returned (.bool (del x)) ∧ Below w.heap.size w w' := by
  go_enter Tryz.func33, Tryz.ntmps33
  go_wp2
  go_ret
  exact ⟨rfl, (Below.refl _ _).alloc (Nat.le_refl _) _⟩
set_option maxHeartbeats 1000000 in
set_option maxRecDepth 100000 in
theorem goes_any (x : St) (w : World) : Calls Tryz.prog 80 #[.agg #[.int .i64 x.u, .int .i64 x.f, .string x.t]] w fun e w' => e = .returned (.bool (del x)) ∧ Below w.heap.size w w' := by
  go_enter Tryz.func80, Tryz.ntmps80
  go_wp2_with fail
  refine (has_any x _).mono ?_
  rintro e w1 ⟨rfl, b1⟩
  have b2 := ((Below.refl _ w).alloc (Nat.le_refl _) (.cells #[.int .i64 x.u, .int .i64 x.f, .string x.t] 46)).trans (b1.mono (by simp))
  clear b1
  go_wp2
  go_ret
  exact ⟨rfl, b2⟩
/-- The first that goes. -/
def Fst (ms : List St) (r : Int) : Prop := (∃ k : Nat, r = k ∧ k < ms.length ∧ del (ms.getD k noS) = true ∧ ∀ j, j < k → del (ms.getD j noS) = false) ∨ (r = -1 ∧ ∀ j, j < ms.length → del (ms.getD j noS) = false)
set_option maxHeartbeats 2000000 in
set_option maxRecDepth 100000 in
theorem first_any (N : Nat) (v : Value) (ms : List St) (w : World) (h : MailsIn w N v ms) (hN : N ≤ w.heap.size) (hn : ms.length ≤ 1048576) :
    Calls Tryz.prog 93 #[v, .func (Fn.func 80) #[] #[]] w fun e w' => (∃ r : Int, e = .returned (.int .i64 r) ∧ Fst ms r) ∧ Below w.heap.size w w' := by
  obtain ⟨a, cap, rfl, hc⟩ := h
  obtain ⟨n, hn'⟩ : ∃ n, n = ms.length := ⟨_, rfl⟩
  have HN : Hid (n = ms.length) := hn'
  have HH : Hid (ms = [] ∨ ∃ b off, a = some ⟨b, off, none⟩ ∧ b < N ∧ ∀ j, j < ms.length → At3 w b (off + j * 3) (ms.getD j noS)) := hc
  rw [← hn'] at hn ⊢
  clear hc hn'
  go_enter Tryz.func93, Tryz.ntmps93
  go_wp2
  go_loopw [8] (fun i wr => ∃ k : Nat, k ≤ n ∧ i = .int .i64 k ∧ (∀ j, j < k → del (ms.getD j noS) = false) ∧ Below w.heap.size w wr) (fun i _ => n - (intOf i).toNat)
  case atStart => exact ⟨0, Nat.zero_le _, rfl, fun j hj => absurd hj (Nat.not_lt_zero _), Below.refl _ _⟩
  case round =>
    obtain ⟨k, hk, rfl, hno, hbw⟩ := hrel
    have HNO : Hid (∀ j, j < k → del (ms.getD j noS) = false) := hno
    clear hno
    by_cases hlt : k < n
    · have hka : k < ms.length := by rw [← HN.out]; exact hlt
      rcases HH.out with e | ⟨b, off, rfl, hbl, hcells⟩
      · rw [e] at hka; simp at hka
      have hat := (hcells k hka).keep hbw (by omega)
      have HKA : Hid (k < ms.length) := hka
      clear hcells hka
      generalize hx : ms.getD k noS = x at hat
      have HX : Hid (ms.getD k noS = x) := hx
      clear hx
      obtain ⟨c0, c1, c2⟩ := hat
      have hlt' : (k : Int) < (n : Int) := by omega
      go_wp2_with fail
      refine (goes_any x wr).mono ?_
      rintro e w2 ⟨rfl, hb2⟩
      have b2 := hbw.trans (hb2.mono hbw.size)
      clear hb2 hbw c0 c1 c2
      have HD : Hid (del (ms.getD k noS) = del x) := congrArg del HX.out
      generalize del x = B at HD ⊢
      cases B
      · have HE : Hid (∀ j, j < k + 1 → del (ms.getD j noS) = false) := fun j hj => by
          by_cases e : j = k
          · rw [e]; exact HD.out
          · exact HNO.out j (by omega)
        go_wp2
        go_roundw
        case rel => exact ⟨k + 1, by omega, by go_num, HE.out, b2⟩
        case measure => simp [intOf]; omega
      · have HE : Hid (Fst ms k) := .inl ⟨k, rfl, HKA.out, HD.out, HNO.out⟩
        go_wp2
        go_ret
        exact ⟨⟨k, rfl, HE.out⟩, b2⟩
    · have HE : Hid (Fst ms (-1)) := .inr ⟨rfl, fun j hj => HNO.out j (by have := HN.out; omega)⟩
      go_wp2
      go_ret
      exact ⟨⟨-1, rfl, HE.out⟩, hbw⟩
def kept (ms : List St) : List St := ms.filter fun x => !del x
theorem kept_none {ms : List St} (h : ∀ j, j < ms.length → del (ms.getD j noS) = false) : kept ms = ms := by
  unfold kept
  rw [List.filter_eq_self]
  intro x hx
  obtain ⟨j, hj, rfl⟩ := List.mem_iff_getElem.1 hx
  have := h j hj
  rw [List.getD_eq_getElem?_getD, List.getElem?_eq_getElem hj] at this
  simpa using this
theorem kept_take {ms : List St} {j : Nat} (hj : j < ms.length) : kept (ms.take (j + 1)) = if del (ms.getD j noS) = true then kept (ms.take j) else kept (ms.take j) ++ [ms.getD j noS] := by
  have e : ms.getD j noS = ms[j] := by simp [List.getD_eq_getElem?_getD, hj]
  unfold kept
  rw [List.take_succ_eq_append_getElem hj, List.filter_append, e]
  by_cases h : del ms[j] = true
  · rw [if_pos h]; simp [h]
  · rw [if_neg h]; simp [h]
theorem own_len {w : World} {base g n c : Nat} {L : List St} (h : OwnM w base (.slice (some ⟨g, 0, none⟩) n c) L) : n = L.length := by
  rcases h.2 with ⟨e, _⟩ | ⟨g', cap, cur, e, _⟩
  · cases e
  · cases e; rfl
theorem fr3 {w : World} {base g n c : Nat} {L : List St} (h : OwnM w base (.slice (some ⟨g, 0, none⟩) n c) L) (j : Nat) : w.frozen? ⟨g, j, none⟩ = false := by
  have h' : w.ownsRow base 46 3 (.slice (some ⟨g, 0, none⟩) n c) L.length (mc L) := h
  obtain rfl := own_len h
  exact h'.frozenAt j
theorem mc_put {L : List St} {i : Nat} (hi : i < L.length) (x : St) : (((mc L).set (i * 3) (.int .i64 x.u)).set (i * 3 + 1) (.int .i64 x.f)).set (i * 3 + 2) (.string x.t) = mc (L.set i x) := by
  have hl := mc_len L
  refine mc_ext (by simp [hl]) (fun j hj => ?_)
  rw [List.length_set] at hj
  by_cases e : j = i
  · subst e
    have ex : (L.set j x).getD j noS = x := by simp [List.getD_eq_getElem?_getD, hi]
    rw [ex]
    refine ⟨?_, ?_, ?_⟩
    · rw [List.getElem?_set_ne (by omega), List.getElem?_set_ne (by omega), List.getElem?_set_self (by omega)]
    · rw [List.getElem?_set_ne (by omega), List.getElem?_set_self (by rw [List.length_set]; omega)]
    · rw [List.getElem?_set_self (by rw [List.length_set, List.length_set]; omega)]
  · have ex : (L.set i x).getD j noS = L.getD j noS := by
      rw [List.getD_eq_getElem?_getD, List.getElem?_set_ne (by omega), ← List.getD_eq_getElem?_getD]
    rw [ex]
    obtain ⟨h0, h1, h2⟩ := mc_at L j hj
    refine ⟨?_, ?_, ?_⟩
    · rw [List.getElem?_set_ne (by omega), List.getElem?_set_ne (by omega), List.getElem?_set_ne (by omega)]; exact h0
    · rw [List.getElem?_set_ne (by omega), List.getElem?_set_ne (by omega), List.getElem?_set_ne (by omega)]; exact h1
    · rw [List.getElem?_set_ne (by omega), List.getElem?_set_ne (by omega), List.getElem?_set_ne (by omega)]; exact h2
theorem put3 {w : World} {base g n c i : Nat} {L : List St} (h : OwnM w base (.slice (some ⟨g, 0, none⟩) n c) L) (hi : i < L.length) (x : St) :
    OwnM (((w.setCell ⟨g, i * 3, none⟩ (.int .i64 x.u)).setCell ⟨g, i * 3 + 1, none⟩ (.int .i64 x.f)).setCell ⟨g, i * 3 + 2, none⟩ (.string x.t)) base (.slice (some ⟨g, 0, none⟩) n c) (L.set i x) ∧ w.grownBy (((w.setCell ⟨g, i * 3, none⟩ (.int .i64 x.u)).setCell ⟨g, i * 3 + 1, none⟩ (.int .i64 x.f)).setCell ⟨g, i * 3 + 2, none⟩ (.string x.t)) (some g) := by
  have h' : w.ownsRow base 46 3 (.slice (some ⟨g, 0, none⟩) n c) L.length (mc L) := h
  obtain rfl := own_len h
  have s1 := h'.stored (i * 3) (.int .i64 x.u)
  have s2 := s1.1.stored (i * 3 + 1) (.int .i64 x.f)
  have s3 := s2.1.stored (i * 3 + 2) (.string x.t)
  refine ⟨?_, ow.grown_trans (ow.grown_trans s1.2 s2.2) s3.2⟩
  have := s3.1
  rw [mc_put hi x] at this
  unfold OwnM
  rw [List.length_set]
  exact this
theorem own_cap {w : World} {base g n c : Nat} {L : List St} (h : OwnM w base (.slice (some ⟨g, 0, none⟩) n c) L) : n ≤ c := by
  rcases h.2 with ⟨e, _⟩ | ⟨g', cap, cur, e, _, _, hc, _⟩
  · cases e
  · cases e; exact hc
theorem mc_take : ∀ (L : List St) (i : Nat), mc (L.take i) = (mc L).take (i * 3)
  | [], i => by simp [mc]
  | x :: L, 0 => by simp [mc]
  | x :: L, i + 1 => by
    rw [List.take_succ_cons, mc, mc, mc_take L i, show (i + 1) * 3 = i * 3 + 3 from by omega]
    rfl
theorem own_cells {base g e size n cap : Nat} : ∀ (vs : List Value) (o : Nat) (w : World) (xs : List Value), w.ownsRow base e size (.slice (some ⟨g, 0, none⟩) n cap) n xs → ∃ xs', (w.setCells g o vs).ownsRow base e size (.slice (some ⟨g, 0, none⟩) n cap) n xs' ∧ xs'.take o = xs.take o ∧ w.grownBy (w.setCells g o vs) (some g)
  | [], o, w, xs, h => ⟨xs, h, rfl, ow.grown_refl _ _⟩
  | v :: r, o, w, xs, h => by
    have s := h.stored o v
    obtain ⟨xs', h1, h2, h3⟩ := own_cells r (o + 1) _ _ s.1
    refine ⟨xs', h1, ?_, ow.grown_trans s.2 h3⟩
    have e := congrArg (List.take o) h2
    rw [List.take_take, List.take_take, Nat.min_eq_left (by omega), List.take_set_of_le (Nat.le_refl _)] at e
    exact e
theorem own_cut {w : World} {base g e size n cap i : Nat} {xs : List Value} (h : w.ownsRow base e size (.slice (some ⟨g, 0, none⟩) n cap) n xs) (hi : i ≤ n) : w.ownsRow base e size (.slice (some ⟨g, 0, none⟩) i cap) i (xs.take (i * size)) := by
  obtain ⟨h1, h2⟩ := h
  have hle : i * size ≤ n * size := Nat.mul_le_mul_right _ hi
  refine ⟨by rw [List.length_take]; omega, ?_⟩
  rcases h2 with ⟨e, _⟩ | ⟨g', cap', cur, e, hb, hg, hnc, hcm, hcs, ht⟩
  · cases e
  · cases e
    refine .inr ⟨g, cap, cur, rfl, hb, hg, by omega, hcm, hcs, ?_⟩
    rw [← ht, List.take_take, Nat.min_eq_left hle]
def zS : Value := .agg #[.int .i64 0, .int .i64 0, .string ByteArray.empty]
theorem zero_one : ∀ (k : Nat), ∀ v ∈ (Builtin.zeroCells zS.cells k).toList, v.oneCell' = true := by
  intro k v hv
  simp [Builtin.zeroCells, zS, Value.cells] at hv
  obtain ⟨a, _, rfl⟩ := hv
  have h3 : a % 3 = 0 ∨ a % 3 = 1 ∨ a % 3 = 2 := by omega
  rcases h3 with h | h | h <;> rw [h] <;> rfl
theorem zero_len (k : Nat) : (Builtin.zeroCells zS.cells k).toList.length = k * 3 := by simp [Builtin.zeroCells, zS, Value.cells]
/-- The tail of a row is cleared. -/
theorem clear_tail {w : World} {base g n c i : Nat} {L : List St} (h : OwnM w base (.slice (some ⟨g, 0, none⟩) n c) L) (hi : i < n) :
    ∃ X, (Builtin.clear_ #[35] 0 #[.slice (some ⟨g, i * 3, none⟩) (n - i) (c - i)]).run Tryz.prog w = .ok (.tuple #[]) X ∧ OwnM X base (.slice (some ⟨g, 0, none⟩) i c) (L.take i) ∧ w.grownBy X (some g) := by
  have h' : w.ownsRow base 46 3 (.slice (some ⟨g, 0, none⟩) n c) L.length (mc L) := h
  obtain rfl := own_len h
  have hl := mc_len L
  have hr := cl.run_clear_cells (P := Tryz.prog) w 35 46 0 zS Tryz.underlying35 (fun w => by kernel_rfl) g (i * 3) (L.length - i) (c - i) (by omega) (zero_one _) (fun j hj => by
    rw [zero_len] at hj
    rw [h'.cellAt (i * 3 + j) (by omega), List.getElem?_eq_getElem (by omega)]
    rfl) (fun j hj => h'.frozenAt _)
  obtain ⟨xs', h1, h2, h3⟩ := own_cells (Builtin.zeroCells zS.cells (L.length - i)).toList (i * 3) w (mc L) h'
  refine ⟨_, hr, ?_, h3⟩
  have h4 := own_cut h1 (show i ≤ L.length by omega)
  rw [h2, ← mc_take] at h4
  unfold OwnM
  rw [List.length_take, Nat.min_eq_left (by omega)]
  exact h4
/-- The mails' row while it is gone over. -/
def Go (ms L : List St) (i j : Nat) : Prop := L.length = ms.length ∧ i < j ∧ j ≤ ms.length ∧ L.take i = kept (ms.take j) ∧ ∀ p, j ≤ p → p < ms.length → L.getD p noS = ms.getD p noS
theorem go_start {ms : List St} {k : Nat} (hk : k < ms.length) (hd : del (ms.getD k noS) = true) (hno : ∀ j, j < k → del (ms.getD j noS) = false) : Go ms ms k (k + 1) := by
  refine ⟨rfl, by omega, by omega, ?_, fun p _ _ => rfl⟩
  rw [kept_take hk, if_pos hd, kept_none]
  intro j hj
  rw [List.length_take] at hj
  have e : (ms.take k).getD j noS = ms.getD j noS := by simp [List.getD_eq_getElem?_getD, show j < k by omega]
  rw [e]
  exact hno j (by omega)
theorem go_pass {ms L : List St} {i j : Nat} (h : Go ms L i j) (hj : j < ms.length) (hd : del (ms.getD j noS) = true) : Go ms L i (j + 1) := by
  obtain ⟨h1, h2, h3, h4, h5⟩ := h
  exact ⟨h1, by omega, by omega, by rw [kept_take hj, if_pos hd, h4], fun p hp hq => h5 p (by omega) hq⟩
theorem go_move {ms L : List St} {i j : Nat} (h : Go ms L i j) (hj : j < ms.length) (hd : del (ms.getD j noS) = false) : Go ms (L.set i (ms.getD j noS)) (i + 1) (j + 1) := by
  obtain ⟨h1, h2, h3, h4, h5⟩ := h
  refine ⟨by rw [List.length_set]; exact h1, by omega, by omega, ?_, fun p hp hq => ?_⟩
  · rw [kept_take hj, if_neg (by rw [hd]; simp), ← h4, List.take_succ_eq_append_getElem (by rw [List.length_set]; omega), List.getElem_set_self, List.take_set_of_le (Nat.le_refl _)]
  · rw [← h5 p (by omega) hq, List.getD_eq_getElem?_getD, List.getElem?_set_ne (by omega), ← List.getD_eq_getElem?_getD]
set_option maxHeartbeats 4000000 in
set_option maxRecDepth 100000 in
theorem dele_some (g n c base : Nat) (ms : List St) (w : World) (h : OwnM w base (.slice (some ⟨g, 0, none⟩) n c) ms) (hb : base ≤ w.heap.size) (hn : ms.length ≤ 30) :
    Calls Tryz.prog 79 #[.slice (some ⟨g, 0, none⟩) n c, .func (Fn.func 80) #[] #[]] w fun e w' => (∃ k, e = .returned (.slice (some ⟨g, 0, none⟩) k c) ∧ OwnM w' base (.slice (some ⟨g, 0, none⟩) k c) (kept ms)) ∧ w.grownBy w' (some g) := by
  have hnm : n = ms.length := by
    rcases h.2 with ⟨e, _⟩ | ⟨g', cap, cur, e, _⟩
    · cases e
    · cases e; rfl
  have HNM : Hid (n = ms.length) := hnm
  have hn30 : n ≤ 30 := by omega
  have HO : Hid (OwnM w base (.slice (some ⟨g, 0, none⟩) n c) ms) := h
  have HF : Hid (Calls Tryz.prog 93 #[.slice (some ⟨g, 0, none⟩) n c, .func (Fn.func 80) #[] #[]] w fun e w' => (∃ r : Int, e = .returned (.int .i64 r) ∧ Fst ms r) ∧ Below w.heap.size w w') := first_any w.heap.size _ ms w (ownM_in h (Nat.le_refl _)) (Nat.le_refl _) (by omega)
  clear h hnm
  go_enter Tryz.func79, Tryz.ntmps79
  go_wp2_with fail
  refine HF.out.mono ?_
  rintro e w1 ⟨⟨r, rfl, hr⟩, b1⟩
  have HO1 : Hid (OwnM w1 base (.slice (some ⟨g, 0, none⟩) n c) ms ∧ w.grownBy w1 (some g)) := ⟨ow.own_below HO.out b1, ow.grown_below b1⟩
  clear HF HO b1
  rcases hr with ⟨k, rfl, hk, hd, hno⟩ | ⟨rfl, hno⟩
  · have HG : Hid (Go ms ms k (k + 1)) := go_start hk hd hno
    have hkn : k < n := by rw [HNM.out]; exact hk
    have hk1 : ((k : Int) == -1) = false := beq_eq_false_iff_ne.2 (by omega)
    clear hd hno hk
    go_wp2
    go_loopw [5, 6] (fun a b wr => ∃ (i j : Nat) (L : List St), a = .int .i64 i ∧ b = .int .i64 j ∧ Go ms L i j ∧ OwnM wr base (.slice (some ⟨g, 0, none⟩) n c) L ∧ w.grownBy wr (some g)) (fun _ b _ => n - (intOf b).toNat)
    case atStart => exact ⟨k, k + 1, ms, rfl, rfl, HG.out, HO1.out.1, HO1.out.2⟩
    case round =>
      obtain ⟨i, j, L, rfl, rfl, hgo, hown, hgr⟩ := hrel
      have HGO : Hid (Go ms L i j) := hgo
      have hjn : j ≤ n := by rw [HNM.out]; exact hgo.2.2.1
      have hij : i < j := hgo.2.1
      have HLL : Hid (L.length = n) := by rw [HNM.out]; exact hgo.1
      have HOW : Hid (OwnM wr base (.slice (some ⟨g, 0, none⟩) n c) L) := hown
      have HGR : Hid (w.grownBy wr (some g)) := hgr
      by_cases hlt : j < n
      · have hlt' : (j : Int) < (n : Int) := by omega
        have hj0 : (0 : Int) ≤ (j : Int) := by omega
        have hx : L.getD j noS = ms.getD j noS := hgo.2.2.2.2 j (Nat.le_refl _) (by rw [← HNM.out]; exact hlt)
        generalize hX : ms.getD j noS = x at hx
        have HX : Hid (ms.getD j noS = x) := hX
        have hin := ownM_cell hown (show j < L.length by rw [HLL.out]; exact hlt)
        rw [hx] at hin
        obtain ⟨q0, q1, q2⟩ := hin
        clear hgo hown hgr hX hx
        go_wp2_with fail
        have hba := (Below.refl wr.heap.size wr).alloc (Nat.le_refl _) (.cells #[.int .i64 x.u, .int .i64 x.f, .string x.t] 46)
        have HB3 : Hid (B3 (wr.alloc (.cells #[.int .i64 x.u, .int .i64 x.f, .string x.t] 46)) wr.heap.size 46 (.int .i64 x.u) (.int .i64 x.f) (.string x.t)) := b3_new wr _ _ _ _
        refine (goes_any x _).mono ?_
        rintro e w2 ⟨rfl, hb2⟩
        have b2 : Below wr.heap.size wr w2 := hba.trans (hb2.mono hba.size)
        have HOW2 : Hid (OwnM w2 base (.slice (some ⟨g, 0, none⟩) n c) L) := ow.own_below HOW.out b2
        have HGR2 : Hid (w.grownBy w2 (some g)) := ow.grown_trans HGR.out (ow.grown_below b2)
        have R := HB3.out.keep hb2
        have HD : Hid (del (ms.getD j noS) = del x) := congrArg del HX.out
        have HJM : Hid (j < ms.length) := by rw [← HNM.out]; exact hlt
        clear q0 q1 q2 hba hb2 HB3 HOW HGR
        generalize del x = B at HD ⊢
        cases B
        · have r0 := R.c0
          have r1 := R.c1'
          have r2 := R.c2'
          have hin := ownM_cell HOW2.out (show i < L.length by rw [HLL.out]; omega)
          obtain ⟨s0, s1, s2⟩ := hin
          have hin' : (i : Int) < (n : Int) := by omega
          have hi0 : (0 : Int) ≤ (i : Int) := by omega
          clear b2
          have f0 := fr3 HOW2.out (i * 3)
          have f1 := fr3 HOW2.out (i * 3 + 1)
          have f2 := fr3 HOW2.out (i * 3 + 2)
          have HE : Hid (Go ms (L.set i x) (i + 1) (j + 1)) := by
            have := go_move HGO.out HJM.out HD.out
            rw [HX.out] at this
            exact this
          have HP := put3 HOW2.out (show i < L.length by rw [HLL.out]; omega) x
          have HPO : Hid (OwnM (((w2.setCell ⟨g, i * 3, none⟩ (.int .i64 x.u)).setCell ⟨g, i * 3 + 1, none⟩ (.int .i64 x.f)).setCell ⟨g, i * 3 + 2, none⟩ (.string x.t)) base (.slice (some ⟨g, 0, none⟩) n c) (L.set i x) ∧ w.grownBy (((w2.setCell ⟨g, i * 3, none⟩ (.int .i64 x.u)).setCell ⟨g, i * 3 + 1, none⟩ (.int .i64 x.f)).setCell ⟨g, i * 3 + 2, none⟩ (.string x.t)) (some g)) := ⟨HP.1, ow.grown_trans HGR2.out HP.2⟩
          clear HP
          go_wp2
          go_roundw
          case rel => exact ⟨i + 1, j + 1, L.set i x, by go_num, by go_num, HE.out, HPO.out.1, HPO.out.2⟩
          case measure => simp [intOf]; omega
        · have HE : Hid (Go ms L i (j + 1)) := go_pass HGO.out HJM.out HD.out
          clear R b2
          go_wp2
          go_roundw
          case rel => exact ⟨i, j + 1, L, rfl, by go_num, HE.out, HOW2.out, HGR2.out⟩
          case measure => simp [intOf]; omega
      · have hjn2 : j = n := by omega
        subst hjn2
        have hcap := own_cap hown
        have hic : (i : Int) ≤ (j : Int) := by omega
        have hi0 : (0 : Int) ≤ (i : Int) := by omega
        have hci : ¬ c = i := by omega
        have hicc : (i : Int) ≤ (c : Int) := by omega
        obtain ⟨X, hX, hXo, hXg⟩ := clear_tail hown (show i < j by omega)
        have HXO : Hid (OwnM X base (.slice (some ⟨g, 0, none⟩) i c) (kept ms)) := by
          rw [show kept ms = L.take i from by rw [hgo.2.2.2.1, HNM.out, List.take_length]]
          exact hXo
        have HXG : Hid (w.grownBy X (some g)) := ow.grown_trans hgr hXg
        clear hgo hown hgr hlt hXo hXg
        go_wp2
        go_ret
        exact ⟨⟨i, rfl, HXO.out⟩, HXG.out⟩
  · have HK : Hid (kept ms = ms) := kept_none hno
    clear hno
    go_wp2
    go_ret
    exact ⟨⟨n, rfl, by rw [HK.out]; exact HO1.out.1⟩, HO1.out.2⟩
end Go.Proofs.YtinnnfkhiigjpaaGreat.bl
