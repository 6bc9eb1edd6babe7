/-
  A mail is found in a rising row by halves.
-/
import Derived.Test.YtdnjiagnpaibjaaDoorStb
import Derived.Test.YtdnjiagnpaibjaaDoorBxe
import Derived.Deep.DeepCutAuto
import Derived.Deep.Cut
import Derived.Deep.CutRange
namespace Go.Proofs.YtdnjiagnpaibjaaDoor.st
open Go.RowKit
set_option linter.unusedVariables false

def Rising (ms : List St) : Prop := ∀ i j, i < j → j < ms.length → (ms.getD i noS).u < (ms.getD j noS).u
theorem rising_of {ms : List St} {nx : Int} : ∀ {k : Nat}, bx.MGood ms nx k → ∀ i j, i < j → j < k → (ms.getD i noS).u < (ms.getD j noS).u
  | 0, _, i, j, _, hj => absurd hj (Nat.not_lt_zero _)
  | k + 1, h, i, j, hij, hj => by
    by_cases e : j = k
    · subst e
      have h1 := (h j (by omega)).1
      by_cases e2 : i + 1 = j
      · subst e2
        rw [bx.last_succ] at h1
        exact h1
      · have h2 := rising_of (k := j) (fun x hx => h x (by omega)) i (j - 1) (by omega) (by omega)
        have h3 : bx.last ms j = (ms.getD (j - 1) noS).u := by simp [bx.last, show j ≠ 0 by omega]
        rw [h3] at h1
        omega
    · exact rising_of (k := k) (fun x hx => h x (by omega)) i j hij (by omega)
theorem rising_bok {x : bx.Bx} (h : bx.bok x = true) : Rising x.ms := by
  have := (bx.mails_of ((bx.bok_of x).1 h).2.2.2.1).2
  exact fun i j hij hj => rising_of this i j hij hj
/-- A mail of that uid is there, or none is. -/
def Fnd (ms : List St) (z : Int) (i : Nat) (b : Bool) : Prop := (b = true ∧ i < ms.length ∧ (ms.getD i noS).u = z) ∨ (b = false ∧ ∀ k, k < ms.length → (ms.getD k noS).u ≠ z)

set_option maxHeartbeats 2000000 in
set_option maxRecDepth 100000 in
theorem bs_any (N : Nat) (v : Value) (ms : List St) (z : Int) (w : World) (h : MailsIn w N v ms) (hN : N ≤ w.heap.size) (hl : ms.length ≤ 30) (hr : Rising ms) :
    Calls Tryd.prog 79 #[v, .int .i64 z, .func (Fn.func 80) #[] #[]] w fun e w' => (∃ (i : Nat) (b : Bool), e = .returned (.tuple #[.int .i64 i, .bool b]) ∧ Fnd ms z i b ∧ i ≤ ms.length) ∧ Below w.heap.size w w' := by
  obtain ⟨a, cap, rfl, h⟩ := h
  obtain ⟨n, hn⟩ : ∃ n, n = ms.length := ⟨_, rfl⟩
  have HN : Hid (n = ms.length) := hn
  have HH : Hid (ms = [] ∨ ∃ b off, a = some ⟨b, off, none⟩ ∧ b < N ∧ ∀ j, j < ms.length → At3 w b (off + j * 3) (ms.getD j noS)) := h
  have HRI : Hid (Rising ms) := hr
  rw [← hn] at hl ⊢
  clear h hr hn
  have HC : Hid (∀ (x : St) w, Calls Tryd.prog 80 #[SV x, .int .i64 z] w fun e w' => e = .returned (.int .i64 (cmpI x.u z)) ∧ Below w.heap.size w w') := fun x w => byUid_any x z w
  go_enter Tryd.func79, Tryd.ntmps79
  go_wp2
  go_loopw [9, 10] (fun i j wr => ∃ (p q : Nat), p ≤ q ∧ q ≤ n ∧ i = .int .i64 p ∧ j = .int .i64 q ∧ (∀ k, k < p → (ms.getD k noS).u < z) ∧ (∀ k, q ≤ k → k < n → z ≤ (ms.getD k noS).u) ∧ Below w.heap.size w wr) (fun i j _ => (intOf j).toNat - (intOf i).toNat)
  case atStart => exact ⟨0, n, by omega, by omega, rfl, rfl, fun k hk => absurd hk (Nat.not_lt_zero _), fun k h1 h2 => by omega, Below.refl _ _⟩
  case round =>
    obtain ⟨p, q, hpq, hqn, rfl, rfl, hlo, hhi, hbw⟩ := hrel
    have HLO : Hid (∀ k, k < p → (ms.getD k noS).u < z) := hlo
    have HHI : Hid (∀ k, q ≤ k → k < n → z ≤ (ms.getD k noS).u) := hhi
    clear hlo hhi
    by_cases hlt : p < q
    · have hlt' : (p : Int) < (q : Int) := by omega
      obtain ⟨m, hm⟩ : ∃ m, m = (p + q) / 2 := ⟨_, rfl⟩
      have hmi : ((p : Int) + (q : Int)) / 2 = (m : Int) := by omega
      have hm1 : p ≤ m := by omega
      have hm2 : m < q := by omega
      have hka : m < ms.length := by have := HN.out; omega
      obtain ⟨b, off, ha, hat⟩ : ∃ b off, a = some ⟨b, off, none⟩ ∧ At3 wr b (off + m * 3) (ms.getD m noS) := by
        rcases HH.out with e | ⟨b, off, e, hb, hc⟩
        · rw [e] at hka; simp at hka
        · exact ⟨b, off, e, (hc m hka).keep hbw (by omega)⟩
      have HSP : Hid ((ms.getD m noS).u < z → ∀ k, k < m + 1 → (ms.getD k noS).u < z) := fun h k hk => by
        by_cases e : k = m
        · rw [e]; exact h
        · have := HRI.out k m (by omega) hka; omega
      have HSQ : Hid (¬ (ms.getD m noS).u < z → ∀ k, m ≤ k → k < n → z ≤ (ms.getD k noS).u) := fun h k hk hkn => by
        by_cases e : k = m
        · rw [e]; omega
        · have := HRI.out m k (by omega) (by have := HN.out; omega); omega
      subst ha
      generalize ms.getD m noS = x at hat HSP HSQ
      obtain ⟨uu, f, t⟩ := x
      obtain ⟨d0, d1, d2⟩ := hat
      simp only at d0 d1 d2 HSP HSQ
      have hmn : (m : Int) < (n : Int) := by omega
      have hm0 : (0 : Int) ≤ (m : Int) := by omega
      clear hm hka
      go_wp2_with fail
      refine (HC.out ⟨uu, f, t⟩ _).mono ?_
      rintro e w2 ⟨rfl, hb2⟩
      have b2 := hbw.trans (hb2.mono hbw.size)
      clear hb2 hbw d0 d1 d2
      simp only
      by_cases hc : uu < z
      · have hci : cmpI uu z = -1 := by simp [cmpI, hc]
        have HX : Hid (∀ k, k < m + 1 → (ms.getD k noS).u < z) := HSP.out hc
        rw [hci]
        clear hci hc HSP HSQ
        go_wp2
        go_roundw
        case rel => exact ⟨m + 1, q, by omega, hqn, by go_num, rfl, HX.out, HHI.out, b2⟩
        case measure => simp [intOf]; omega
      · have hci : (0 : Int) ≤ cmpI uu z := by unfold cmpI; rw [if_neg hc]; split <;> omega
        have HX : Hid (∀ k, m ≤ k → k < n → z ≤ (ms.getD k noS).u) := HSQ.out (by omega)
        generalize cmpI uu z = ci at hci ⊢
        clear hc HSP HSQ
        go_wp2
        go_roundw
        case rel => exact ⟨p, m, hm1, by omega, rfl, by go_num, HLO.out, HX.out, b2⟩
        case measure => simp [intOf]; omega
    · have hpq' : p = q := by omega
      subst hpq'
      by_cases hpn : p < n
      · have hpn' : (p : Int) < (n : Int) := by omega
        have hka : p < ms.length := by have := HN.out; omega
        obtain ⟨b, off, ha, hat⟩ : ∃ b off, a = some ⟨b, off, none⟩ ∧ At3 wr b (off + p * 3) (ms.getD p noS) := by
          rcases HH.out with e | ⟨b, off, e, hb, hc⟩
          · rw [e] at hka; simp at hka
          · exact ⟨b, off, e, (hc p hka).keep hbw (by omega)⟩
        have HY : Hid ((ms.getD p noS).u = z → Fnd ms z p true) := fun h => .inl ⟨rfl, hka, h⟩
        have HNo : Hid ((ms.getD p noS).u ≠ z → Fnd ms z p false) := fun h => .inr ⟨rfl, fun k hk e => by
          have h1 := HHI.out p (Nat.le_refl _) hpn
          by_cases e1 : k < p
          · have := HLO.out k e1; omega
          · by_cases e2 : k = p
            · rw [e2] at e; exact h e
            · have := HRI.out p k (by omega) hk; omega⟩
        subst ha
        generalize ms.getD p noS = x at hat HY HNo
        obtain ⟨uu, f, t⟩ := x
        obtain ⟨d0, d1, d2⟩ := hat
        simp only at d0 d1 d2 HY HNo
        have hm0 : (0 : Int) ≤ (p : Int) := by omega
        clear hka
        go_wp2_with fail
        refine (HC.out ⟨uu, f, t⟩ _).mono ?_
        rintro e w2 ⟨rfl, hb2⟩
        have b2 := hbw.trans (hb2.mono hbw.size)
        clear hb2 hbw d0 d1 d2
        simp only
        by_cases hc : uu = z
        · have hci : cmpI uu z = 0 := by simp [cmpI, hc]
          have HX : Hid (Fnd ms z p true) := HY.out hc
          rw [hci]
          clear hci hc HY HNo
          go_wp2
          go_ret2
          exact ⟨⟨p, true, rfl, HX.out, by omega⟩, b2⟩
        · have hci : (cmpI uu z == 0) = false := by unfold cmpI; split; rfl; split; rfl; omega
          have HX : Hid (Fnd ms z p false) := HNo.out hc
          generalize cmpI uu z = ci at hci ⊢
          clear hc HY HNo
          go_wp2
          go_ret2
          exact ⟨⟨p, false, rfl, HX.out, by omega⟩, b2⟩
      · have hpn' : (n : Int) ≤ (p : Int) := by omega
        have HX : Hid (Fnd ms z p false) := .inr ⟨rfl, fun k hk e => by have := HLO.out k (by have := HN.out; omega); omega⟩
        go_wp2
        go_ret2
        exact ⟨⟨p, false, by simp, HX.out, by omega⟩, hbw⟩

set_option maxHeartbeats 1000000 in
set_option maxRecDepth 100000 in
theorem mailAt_any (x : bx.Bx) (v u : Value) (z : Int) (w : World) (h : bx.RowsAt w v u x.ms x.ks) (hl : x.ms.length ≤ 30) (hr : Rising x.ms) :
    Calls Tryd.prog 52 #[bx.BV x v u, .int .i64 z] w fun e w' => (∃ (i : Nat) (b : Bool), e = .returned (.tuple #[.int .i64 i, .bool b]) ∧ Fnd x.ms z i b ∧ i ≤ x.ms.length) ∧ Below w.heap.size w w' := by
  have b0 := new_below w 32 #[.string x.nm, .int .i64 x.vd, .int .i64 x.nx, v, u]
  have HA : Hid (bx.RowsAt (w.alloc (.cells #[.string x.nm, .int .i64 x.vd, .int .i64 x.nx, v, u] 32)) v u x.ms x.ks) := bx.rows_below h b0
  obtain ⟨⟨a, cap, rfl, _⟩, ⟨a1, cap1, rfl, _⟩⟩ := h
  obtain ⟨nm, vd, nx, ms, ks⟩ := x
  have HR : Hid (Rising ms) := hr
  unfold bx.BV
  simp only at b0 HA hl ⊢
  clear hr
  go_enter Tryd.func52, Tryd.ntmps52
  go_wp2_with fail
  generalize w.alloc _ = w0 at b0 HA ⊢
  refine (bs_any _ _ ms z _ HA.out.1 (Nat.le_refl _) hl HR.out).mono ?_
  rintro e w2 ⟨⟨i, b, rfl, hf, hi⟩, hb2⟩
  have HF : Hid (Fnd ms z i b) := hf
  have b2 := b0.trans (hb2.mono b0.size)
  clear hb2 b0 hf
  go_wp2
  go_ret2
  exact ⟨⟨i, b, rfl, HF.out, hi⟩, b2⟩
end Go.Proofs.YtdnjiagnpaibjaaDoor.st
