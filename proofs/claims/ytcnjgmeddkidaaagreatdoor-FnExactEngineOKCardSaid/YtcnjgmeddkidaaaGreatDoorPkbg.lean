/-
  Right boxes stay right, whatever right mutation is done to them.
  A log as an argument: opened; measured and copied by the law's own functions; both LogOK functions.
-/
import Derived.Test.YtcnjgmeddkidaaaGreatDoorPkbf
import Derived.Test.YtcnjgmeddkidaaaGreatDoorPkaa
import Derived.Test.YtcnjgmeddkidaaaGreatDoorRows
import Derived.WalkKit
import Derived.WalkLawsBesides
import Derived.ProofKit
import Derived.OpenShut
import Derived.ChangeOld
import Derived.Below
import Derived.Deep.Fields
import Derived.Lib.SmallJoins

namespace Go.Proofs.YtcnjgmeddkidaaaGreatDoor.sa
open Go.RowKit
open st gr bx mx bl wi
set_option linter.unusedVariables false

theorem bok_iff {x : Bx} : bok x = true ↔ mu.nmB x.nm = true ∧ (1 ≤ x.vd ∧ x.vd ≤ 1000000) ∧ (1 ≤ x.nx ∧ x.nx ≤ 1001) ∧ (x.ms.length ≤ 30 ∧ MGood x.ms x.nx x.ms.length) ∧ (x.ks.length : Int) = x.nx - 1 ∧ (x.ks.length ≤ 60 ∧ KGood x.ks x.ks.length) ∧ bk.Dist x.ks x.ks.length := by
  unfold bok
  simp only [Bool.and_eq_true, decide_eq_true_eq]
  constructor
  · rintro ⟨⟨⟨⟨⟨⟨h1, h2⟩, h3⟩, h4⟩, h5⟩, h6⟩, h7⟩
    exact ⟨h1, h2, h3, mails_of h4, h5, keys_of h6, ow.dof h7⟩
  · rintro ⟨h1, h2, h3, h4, h5, h6, h7⟩
    exact ⟨⟨⟨⟨⟨⟨h1, h2⟩, h3⟩, mails_yes h4.1 h4.2⟩, h5⟩, keys_yes h6.1 h6.2⟩, ow.dt h7⟩
theorem getD_snoc {α : Type} (l : List α) (x d : α) (j : Nat) : (l ++ [x]).getD j d = if j < l.length then l.getD j d else if j = l.length then x else d := by
  simp only [List.getD_eq_getElem?_getD]
  by_cases h : j < l.length
  · rw [if_pos h, List.getElem?_append_left h]
  · rw [if_neg h]
    by_cases e : j = l.length
    · subst e; simp
    · rw [if_neg e, List.getElem?_eq_none (by simp; omega)]
      rfl
theorem last_snoc {ms : List St} {x : St} {j : Nat} (h : j ≤ ms.length) : last (ms ++ [x]) j = last ms j := by
  unfold last
  by_cases e : j = 0
  · rw [if_pos e, if_pos e]
  · rw [if_neg e, if_neg e, getD_snoc, if_pos (by omega)]
theorem last_lt {ms : List St} {nx : Int} (h : MGood ms nx ms.length) (hn : 1 ≤ nx) : last ms ms.length < nx := by
  unfold last
  by_cases e : ms.length = 0
  · rw [if_pos e]; omega
  · rw [if_neg e]
    exact (h (ms.length - 1) (by omega)).2.1
theorem mgood_snoc {ms : List St} {nx : Int} {t : ByteArray} (h : MGood ms nx ms.length) (hn : 1 ≤ nx) (ht : t.size ≤ 4000) : MGood (ms ++ [⟨nx, 0, t⟩]) (nx + 1) (ms ++ [(⟨nx, 0, t⟩ : St)]).length := by
  intro j hj
  simp at hj
  rw [getD_snoc, last_snoc (by omega)]
  by_cases e : j < ms.length
  · rw [if_pos e]
    have := h j e
    exact ⟨this.1, by have := this.2.1; omega, this.2.2⟩
  · obtain rfl : j = ms.length := by omega
    rw [if_neg e, if_pos rfl]
    exact ⟨last_lt h hn, by show nx < nx + 1; omega, ⟨Int.le_refl _, by show (0 : Int) ≤ 31; omega⟩, ht⟩
theorem add_ok {ps : List it.Pr} : ∀ {b y : Bx}, bok b = true → (∀ p ∈ ps, (1 ≤ p.1.size ∧ p.1.size ≤ 200) ∧ p.2.size ≤ 4000) → add b ps = (y, 0) → bok y = true ∧ y.nm = b.nm ∧ y.vd = b.vd := by
  induction ps with
  | nil => intro b y hb _ h; cases h; exact ⟨hb, rfl, rfl⟩
  | cons p r ih =>
    intro b y hb hp h
    rw [add] at h
    by_cases h1 : hasK b.ks p.1 = true
    · rw [if_pos h1] at h; cases h
    rw [if_neg h1] at h
    by_cases h2 : b.ks.length = 60
    · rw [if_pos h2] at h; cases h
    rw [if_neg h2] at h
    by_cases h3 : b.ms.length = 30
    · rw [if_pos h3] at h; cases h
    rw [if_neg h3] at h
    have hpp := hp p List.mem_cons_self
    obtain ⟨q1, q2, q3, q4, q5, q6, q7⟩ := bok_iff.1 hb
    have hb2 : bok (addI b p) = true := by
      refine bok_iff.2 ⟨q1, q2, ⟨by show 1 ≤ b.nx + 1; omega, by show b.nx + 1 ≤ 1001; omega⟩, ⟨by show (b.ms ++ [_]).length ≤ 30; simp; omega, mgood_snoc q4.2 q3.1 hpp.2⟩, ?_, ⟨by show (b.ks ++ [_]).length ≤ 60; simp; omega, ?_⟩, ?_⟩
      · show (((b.ks ++ [p.1]).length : Nat) : Int) = b.nx + 1 - 1
        simp
        omega
      · intro j hj
        show 1 ≤ ((b.ks ++ [p.1]).getD j ky.nt).size ∧ ((b.ks ++ [p.1]).getD j ky.nt).size ≤ 200
        have hj' : j < b.ks.length + 1 := by simpa [addI] using hj
        rw [getD_snoc]
        by_cases e : j < b.ks.length
        · rw [if_pos e]; exact q6.2 j e
        · rw [if_neg e, if_pos (by omega)]; exact hpp.1
      · intro i j hij hj
        show (b.ks ++ [p.1]).getD i ky.nt ≠ (b.ks ++ [p.1]).getD j ky.nt
        have hj' : j < b.ks.length + 1 := by simpa [addI] using hj
        rw [getD_snoc, getD_snoc, if_pos (by omega)]
        by_cases e : j < b.ks.length
        · rw [if_pos e]; exact q7 i j hij e
        · rw [if_neg e, if_pos (by omega)]
          intro he
          exact h1 ((hasK_iff _ _).2 ⟨i, by omega, he⟩)
    obtain ⟨r1, r2, r3⟩ := ih hb2 (fun x hx => hp x (List.mem_cons_of_mem _ hx)) h
    exact ⟨r1, r2, r3⟩
theorem flg_31 {mode was f : Int} (h0 : 0 ≤ was ∧ was ≤ 31) (h1 : 0 ≤ f ∧ f ≤ 31) : 0 ≤ flg mode was f ∧ flg mode was f ≤ 31 := by
  have A : ∀ a b : Fin 32, (0 ≤ bits .or .i64 (a.val : Int) (b.val : Int) ∧ bits .or .i64 (a.val : Int) (b.val : Int) ≤ 31) ∧ (0 ≤ bits .andNot .i64 (a.val : Int) (b.val : Int) ∧ bits .andNot .i64 (a.val : Int) (b.val : Int) ≤ 31) := by decide +kernel
  obtain ⟨a, rfl⟩ : ∃ a : Nat, was = a := ⟨was.toNat, by omega⟩
  obtain ⟨b, rfl⟩ : ∃ b : Nat, f = b := ⟨f.toNat, by omega⟩
  have := A ⟨a, by omega⟩ ⟨b, by omega⟩
  unfold flg
  split
  · exact h1
  · split
    · exact this.1
    · exact this.2
theorem mgood_setF {ms : List St} {nx f : Int} {i : Nat} (h : MGood ms nx ms.length) (hi : i < ms.length) (hf : 0 ≤ f ∧ f ≤ 31) : MGood (setF ms i f) nx (setF ms i f).length := by
  have hl : ∀ j, last (setF ms i f) j = last ms j := by
    intro j
    unfold last
    by_cases e : j = 0
    · rw [if_pos e, if_pos e]
    · rw [if_neg e, if_neg e, setF_at hi]
      by_cases e2 : j - 1 = i
      · rw [if_pos e2, e2]
      · rw [if_neg e2]
  intro j hj
  rw [setF_len] at hj
  rw [hl, setF_at hi]
  have := h j hj
  by_cases e : j = i
  · subst e
    rw [if_pos rfl]
    exact ⟨this.1, this.2.1, hf, this.2.2.2⟩
  · rw [if_neg e]
    exact this
/-- Rising uids below a number, flags and sizes. -/
def MG (ms : List St) (nx : Int) : Prop := ms.Pairwise (fun a b => a.u < b.u) ∧ ∀ x ∈ ms, 0 < x.u ∧ x.u < nx ∧ (0 ≤ x.f ∧ x.f ≤ 31) ∧ x.t.size ≤ 4000
theorem getD_at {α : Type} {l : List α} {d : α} {j : Nat} (h : j < l.length) : l.getD j d = l[j] := by simp [List.getD_eq_getElem?_getD, h]
theorem mg_of {ms : List St} {nx : Int} (h : MGood ms nx ms.length) : MG ms nx := by
  refine ⟨List.pairwise_iff_getElem.2 fun i j hi hj hij => ?_, fun x hx => ?_⟩
  · have := rising_of h i j hij hj
    rwa [getD_at hi, getD_at hj] at this
  · obtain ⟨j, hj, rfl⟩ := List.getElem_of_mem hx
    have h1 := h j hj
    have h2 := last_pos (k := j) (fun i hi => h i (by omega))
    rw [getD_at hj] at h1
    exact ⟨by have := h1.1; omega, h1.2.1, h1.2.2.1, h1.2.2.2⟩
theorem of_mg {ms : List St} {nx : Int} (h : MG ms nx) : MGood ms nx ms.length := by
  intro j hj
  rw [getD_at hj]
  have h1 := h.2 ms[j] (List.getElem_mem hj)
  refine ⟨?_, h1.2.1, h1.2.2.1, h1.2.2.2⟩
  unfold last
  by_cases e : j = 0
  · rw [if_pos e]; exact h1.1
  · rw [if_neg e, getD_at (by omega)]
    exact List.pairwise_iff_getElem.1 h.1 (j - 1) j (by omega) hj (by omega)
theorem mgood_kept {ms : List St} {nx : Int} (h : MGood ms nx ms.length) : MGood (kept ms) nx (kept ms).length := by
  obtain ⟨h1, h2⟩ := mg_of h
  exact of_mg ⟨h1.filter _, fun x hx => h2 x (List.mem_filter.1 hx).1⟩
theorem kept_len (ms : List St) : (kept ms).length ≤ ms.length := List.length_filter_le _ _
theorem mok_parts {m : mu.Mu} (h : mu.mok m = true) : mu.nmB m.b = true ∧ (∀ p ∈ m.ps, (1 ≤ p.1.size ∧ p.1.size ≤ 200) ∧ p.2.size ≤ 4000) ∧ (m.k = 3 → 0 ≤ m.f ∧ m.f ≤ 31) := by
  unfold mu.mok at h
  rw [Bool.and_eq_true, Bool.and_eq_true] at h
  obtain ⟨⟨h1, h2⟩, h3⟩ := h
  refine ⟨h1, fun p hp => ?_, fun hk => ?_⟩
  · obtain ⟨j, hj, rfl⟩ := List.getElem_of_mem hp
    have := (mu.its_of h2).2 j hj
    rw [getD_at hj] at this
    exact of_decide_eq_true this
  · have := (mu.kind_is _ _ _ _ _).1 h3
    omega
theorem rk_ok {b y : Bx} {m : mu.Mu} (hb : bok b = true) (hm : mu.mok m = true) (h : Rk b m y 0) : bok y = true ∧ y.nm = b.nm ∧ y.vd = b.vd := by
  obtain ⟨m1, m2, m3⟩ := mok_parts hm
  rcases h with ⟨_, h⟩ | ⟨k3, h⟩ | ⟨_, _, rfl⟩
  · exact add_ok hb m2 h
  · rcases h with ⟨i, hi, _, rfl, _⟩ | ⟨_, _, h⟩
    · obtain ⟨q1, q2, q3, q4, q5, q6, q7⟩ := bok_iff.1 hb
      have hq := q4.2 i hi
      exact ⟨bok_iff.2 ⟨q1, q2, q3, ⟨by rw [setF_len]; exact q4.1, mgood_setF q4.2 hi (flg_31 hq.2.2.1 (m3 k3))⟩, q5, q6, q7⟩, rfl, rfl⟩
    · cases h
  · obtain ⟨q1, q2, q3, q4, q5, q6, q7⟩ := bok_iff.1 hb
    exact ⟨bok_iff.2 ⟨q1, q2, q3, ⟨Nat.le_trans (kept_len _) q4.1, mgood_kept q4.2⟩, q5, q6, q7⟩, rfl, rfl⟩
theorem getD_set' {α : Type} {l : List α} {x d : α} {k j : Nat} (hk : k < l.length) : (l.set k x).getD j d = if j = k then x else l.getD j d := by
  simp only [List.getD_eq_getElem?_getD]
  by_cases e : j = k
  · subst e; rw [if_pos rfl]; simp [hk]
  · rw [if_neg e, List.getElem?_set_ne (Ne.symm e)]
/-- Right boxes stay right. -/
theorem am_ok {xs ys : List Bx} {m : mu.Mu} (hs : sok xs = true) (hm : mu.mok m = true) (h : Am xs m ys 0) : sok ys = true := by
  obtain ⟨hl, hS⟩ := sok_of hs
  rcases h with ⟨_, h⟩ | ⟨_, _, _, h⟩ | ⟨_, k, hk, _, y, hR, hc⟩
  · rcases h with ⟨_, _, h⟩ | ⟨_, _, _, h⟩ | ⟨hp, h4, rfl, _⟩
    · cases h
    · cases h
    · have hno : ∀ j, j < xs.length → (xs.getD j noB).nm ≠ m.b := by
        rcases hp with ⟨k, e, _⟩ | ⟨_, h⟩
        · omega
        · exact h
      refine sok_yes (by simp; omega) fun j hj => ?_
      have hj' : j < xs.length + 1 := by simpa using hj
      rw [getD_snoc]
      by_cases e : j < xs.length
      · rw [if_pos e]
        refine ⟨(hS j e).1, (hS j e).2.1, fun i hi => ?_⟩
        rw [getD_snoc, if_pos (by omega)]
        exact (hS j e).2.2 i hi
      · obtain rfl : j = xs.length := by omega
        rw [if_neg e, if_pos rfl]
        refine ⟨bok_iff.2 ⟨(mok_parts hm).1, ⟨by show 1 ≤ (xs.length : Int) + 1; omega, by show (xs.length : Int) + 1 ≤ 1000000; omega⟩, ⟨by show (1 : Int) ≤ 1; omega, by show (1 : Int) ≤ 1001; omega⟩, ⟨Nat.zero_le _, fun j hj => absurd hj (Nat.not_lt_zero _)⟩, rfl, ⟨Nat.zero_le _, fun j hj => absurd hj (Nat.not_lt_zero _)⟩, fun i j _ hj => absurd hj (Nat.not_lt_zero _)⟩, rfl, fun i hi => ?_⟩
        rw [getD_snoc, if_pos hi]
        exact hno i hi
  · cases h
  · rcases hc with ⟨_, rfl⟩ | ⟨h0, _⟩
    · obtain ⟨r1, r2, r3⟩ := rk_ok (hS k hk).1 hm hR
      have hnm : ∀ i, ((xs.set k y).getD i noB).nm = (xs.getD i noB).nm := by
        intro i
        rw [getD_set' hk]
        by_cases e : i = k
        · rw [if_pos e, e]; exact r2
        · rw [if_neg e]
      refine sok_yes (by simpa using hl) fun j hj => ?_
      have hj' : j < xs.length := by simpa using hj
      refine ⟨?_, ?_, fun i hi => ?_⟩
      · rw [getD_set' hk]
        by_cases e : j = k
        · rw [if_pos e]; exact r1
        · rw [if_neg e]; exact (hS j hj').1
      · rw [getD_set' hk]
        by_cases e : j = k
        · rw [if_pos e, r3, e]; exact (hS k hk).2.1
        · rw [if_neg e]; exact (hS j hj').2.1
      · rw [hnm, hnm]
        exact (hS j hj').2.2 i hi
    · exact absurd rfl h0
end Go.Proofs.YtcnjgmeddkidaaaGreatDoor.sa

namespace Go.Proofs.YtcnjgmeddkidaaaGreatDoor.lg
open Go.ChangeShapes Go.WideShapes Go.ChangeAt Go.RowKit Go.Deep Go.Joins
set_option linter.unusedVariables false

/-- A log of room r, data d, of which s bytes are sure. -/
def LV (r : Int) (d : ByteArray) (s : Int) : Value := .agg #[.int .i64 r, .string d, .int .i64 s]
/-- A number that an int can be. -/
def In (z : Int) : Prop := -9223372036854775808 ≤ z ∧ z ≤ 9223372036854775807
/-- What LogOK says. -/
def ok (r : Int) (n : Nat) (s : Int) : Bool := decide (0 ≤ r ∧ r ≤ 60000 ∧ (n : Int) ≤ r ∧ 0 ≤ s ∧ s ≤ (n : Int))
theorem in_of_wf {z : Int} (h : (Lit.int .i64 z).wf = true) : In z := by
  have h1 : IntKind.i64.min = -9223372036854775808 := rfl
  have h2 : IntKind.i64.max = 9223372036854775807 := rfl
  simp [Lit.wf, h1, h2] at h
  exact ⟨by omega, by omega⟩
section
variable {H : Type} {enc : TypeId × Value → H} {w : World} {base : Nat} {spare : Nat → Bool} {held : Bool}
set_option maxRecDepth 100000 in
theorem open_log {r : Reach} {b0 : Nat} {v : Value} {d : DataW H} {p : List MemPlace} (hv : Value.okWide Tryz.prog w r b0 23 v) (h : DataW.Trod enc Tryz.prog w base spare held 23 v d p) :
    ∃ (r : Int) (dd : ByteArray) (s : Int), v = LV r dd s ∧ In r ∧ dd.size ≤ maxLen ∧ In s := by
  obtain ⟨v0, v1, v2, y0, y1, y2, n, rfl, _, _, t0, t1, t2⟩ := open_agg3 Tryz.underlying23 (by kernel_rfl) (by kernel_rfl) hv h
  obtain ⟨z0, e0, _, f0⟩ := DataW.trod_int Tryz.underlying3 t0
  obtain ⟨s1, e1, _, f1⟩ := DataW.trod_string Tryz.underlying9 t1
  obtain ⟨z2, e2, _, f2⟩ := DataW.trod_int Tryz.underlying3 t2
  simp only [List.cons.injEq, and_true] at e0 e1 e2
  subst e0 e1 e2
  exact ⟨z0, s1, z2, rfl, in_of_wf f0, f1, in_of_wf f2⟩
end
/-- A log that lies as a variable. -/
def LiesL (w : World) (b : Nat) (T : TypeId) (r : Int) (d : ByteArray) (s : Int) : Prop := w.heap[b]? = some (.cells #[.int .i64 r, .string d, .int .i64 s] T (0, 0))
section
variable {w w' : World} {b : Nat} {T : TypeId} {r : Int} {d : ByteArray} {s : Int}
theorem LiesL.c0 (h : LiesL w b T r d s) : w.cell? ⟨b, 0, none⟩ = some (.int .i64 r) := by rw [cell_of_row w _ _ _ _ _ h]; rfl
theorem LiesL.c1 (h : LiesL w b T r d s) : w.cell? ⟨b, 0 + 1, none⟩ = some (.string d) := by rw [cell_of_row w _ _ _ _ _ h]; rfl
theorem LiesL.c2 (h : LiesL w b T r d s) : w.cell? ⟨b, 0 + 2, none⟩ = some (.int .i64 s) := by rw [cell_of_row w _ _ _ _ _ h]; rfl
theorem LiesL.lt (h : LiesL w b T r d s) : b < w.heap.size := World.block_lt_of_cell? w _ h.c0
theorem LiesL.keep (h : LiesL w b T r d s) (hb : Below w.heap.size w w') : LiesL w' b T r d s := (hb.block b h.lt).trans h
theorem lies_new (w : World) (T : TypeId) (r : Int) (d : ByteArray) (s : Int) : LiesL (w.alloc (.cells #[.int .i64 r, .string d, .int .i64 s] T)) w.heap.size T r d s := by show (w.heap.push _)[w.heap.size]? = _; simp
end
theorem new_below (w : World) (T : TypeId) (cs : Array Value) : Below w.heap.size w (w.alloc (.cells cs T)) := (Below.refl _ _).alloc (Nat.le_refl _) _

set_option maxHeartbeats 1000000 in
theorem szLog_any (r : Int) (d : ByteArray) (s : Int) (w : World) (hd : d.size ≤ maxLen) :
    Calls Tryz.prog 5 #[LV r d s, .int .i64 1048576] w fun e w' => (∃ z : Int, e = .returned (.int .i64 z) ∧ (z < 0 ∨ d.size ≤ 1048576) ∧ z ≤ 1048576 ∧ -1 ≤ z) ∧ Below w.heap.size w w' := by
  have hd' : d.size ≤ 9223372036854775807 := hd
  have hbw := new_below w 23 #[.int .i64 r, .string d, .int .i64 s]
  unfold LV
  by_cases g0 : (1048576 : Int) - (d.size : Int) < 0
  · go_enter Tryz.func5, Tryz.ntmps5
    go_wp2
    go_ret
    exact ⟨⟨-1, rfl, by omega, by omega, by omega⟩, hbw⟩
  · go_enter Tryz.func5, Tryz.ntmps5
    go_wp2
    go_ret
    exact ⟨⟨_, rfl, by omega, by omega, by omega⟩, hbw⟩

set_option maxHeartbeats 1000000 in
set_option maxRecDepth 100000 in
theorem toLog_any (r : Int) (d : ByteArray) (s : Int) (w : World) : Calls Tryz.prog 7 #[LV r d s] w fun e w' => e = .returned (LV r d s) ∧ Below w.heap.size w w' := by
  unfold LV
  go_enter Tryz.func7, Tryz.ntmps7
  go_wp2
  refine bodyPost_ret (v := .agg #[.int .i64 r, .string d, .int .i64 s]) (by simp [results, Tryz.results7, go_sem]) rfl ⟨rfl, ?_⟩
  exact (((Below.refl _ w).alloc (Nat.le_refl _) _).alloc (by simp) _).alloc (by simp; omega) _

set_option maxHeartbeats 1000000 in
set_option maxRecDepth 100000 in
theorem eqLog_same (r : Int) (d : ByteArray) (s : Int) (w : World) : Calls Tryz.prog 34 #[LV r d s, LV r d s] w fun e w' => e = .returned (.bool true) ∧ Below w.heap.size w w' := by
  unfold LV
  have hb := ((Below.refl w.heap.size w).alloc (Nat.le_refl _) (.cells #[.int .i64 r, .string d, .int .i64 s] 28)).alloc (by simp) (.cells #[.int .i64 r, .string d, .int .i64 s] 28)
  have h0 : (r != r) = false := by simp
  have h2 : (s != s) = false := by simp
  go_enter Tryz.func34, Tryz.ntmps34
  go_wp2
  go_ret
  exact ⟨rfl, hb⟩

set_option maxHeartbeats 2000000 in
set_option maxRecDepth 100000 in
theorem impl_ok (r : Int) (d : ByteArray) (s : Int) (w : World) (hr : In r) (hd : d.size ≤ maxLen) (hs : In s) :
    Calls Tryz.prog 39 #[LV r d s] w fun e w' => e = .returned (.bool (ok r d.size s)) ∧ Below w.heap.size w w' := by
  have hd' : d.size ≤ 9223372036854775807 := hd
  have hbw := new_below w 28 #[.int .i64 r, .string d, .int .i64 s]
  unfold LV
  have hk : ok r d.size s = decide (0 ≤ r ∧ r ≤ 60000 ∧ (d.size : Int) ≤ r ∧ 0 ≤ s ∧ s ≤ (d.size : Int)) := rfl
  by_cases g0 : 0 ≤ r
  · by_cases g1 : r ≤ 60000
    · by_cases g2 : (d.size : Int) ≤ r
      · by_cases g3 : 0 ≤ s
        · by_cases g4 : s ≤ (d.size : Int)
          · rw [hk, decide_eq_true ⟨g0, g1, g2, g3, g4⟩]
            go_enter Tryz.func39, Tryz.ntmps39
            go_wp2
            go_ret
            exact ⟨rfl, hbw⟩
          · rw [hk, decide_eq_false (by omega)]
            go_enter Tryz.func39, Tryz.ntmps39
            go_wp2
            go_ret
            exact ⟨rfl, hbw⟩
        · rw [hk, decide_eq_false (by omega)]
          go_enter Tryz.func39, Tryz.ntmps39
          go_wp2
          go_ret
          exact ⟨rfl, hbw⟩
      · rw [hk, decide_eq_false (by omega)]
        go_enter Tryz.func39, Tryz.ntmps39
        go_wp2
        go_ret
        exact ⟨rfl, hbw⟩
    · rw [hk, decide_eq_false (by omega)]
      go_enter Tryz.func39, Tryz.ntmps39
      go_wp2
      go_ret
      exact ⟨rfl, hbw⟩
  · rw [hk, decide_eq_false (by omega)]
    go_enter Tryz.func39, Tryz.ntmps39
    go_wp2
    go_ret
    exact ⟨rfl, hbw⟩

theorem spec_in (n a b : Int) (w : World) : Calls Tryz.prog 35 #[.int .i64 n, .int .i64 a, .int .i64 b] w fun e w' => e = .returned (.bool (decide (a ≤ n ∧ n ≤ b))) ∧ w' = w := by
  by_cases h0 : a ≤ n
  · by_cases h1 : n ≤ b
    · rw [decide_eq_true ⟨h0, h1⟩]
      go_enter Tryz.func35, Tryz.ntmps35
      go_wp2
      go_ret
      exact ⟨rfl, rfl⟩
    · rw [decide_eq_false (by omega)]
      go_enter Tryz.func35, Tryz.ntmps35
      go_wp2
      go_ret
      exact ⟨rfl, rfl⟩
  · rw [decide_eq_false (by omega)]
    go_enter Tryz.func35, Tryz.ntmps35
    go_wp2
    go_ret
    exact ⟨rfl, rfl⟩

set_option maxHeartbeats 2000000 in
set_option maxRecDepth 100000 in
theorem spec_ok (r : Int) (d : ByteArray) (s : Int) (w : World) (hr : In r) (hd : d.size ≤ maxLen) (hs : In s) :
    Calls Tryz.prog 17 #[LV r d s] w fun e w' => e = .returned (.bool (ok r d.size s)) ∧ Below w.heap.size w w' := by
  have hd' : d.size ≤ 9223372036854775807 := hd
  have hbw := new_below w 28 #[.int .i64 r, .string d, .int .i64 s]
  have hk : ok r d.size s = decide (0 ≤ r ∧ r ≤ 60000 ∧ (d.size : Int) ≤ r ∧ 0 ≤ s ∧ s ≤ (d.size : Int)) := rfl
  have HI : Hid (∀ (n a b : Int) (w : World), Calls Tryz.prog 35 #[.int .i64 n, .int .i64 a, .int .i64 b] w fun e w' => e = .returned (.bool (decide (a ≤ n ∧ n ≤ b))) ∧ w' = w) := spec_in
  unfold LV
  by_cases g0 : 0 ≤ r ∧ r ≤ 60000
  · by_cases g2 : (d.size : Int) ≤ r
    · by_cases g3 : 0 ≤ s ∧ s ≤ (d.size : Int)
      · rw [hk, decide_eq_true ⟨g0.1, g0.2, g2, g3.1, g3.2⟩]
        go_enter Tryz.func17, Tryz.ntmps17
        go_wp2_with fail
        refine (HI.out r 0 60000 _).mono ?_
        rintro e w' ⟨rfl, rfl⟩
        rw [decide_eq_true g0]
        go_wp2_with fail
        refine (HI.out s 0 d.size _).mono ?_
        rintro e w' ⟨rfl, rfl⟩
        rw [decide_eq_true g3]
        go_wp2
        go_ret
        exact ⟨rfl, hbw⟩
      · rw [hk, decide_eq_false (by omega)]
        go_enter Tryz.func17, Tryz.ntmps17
        go_wp2_with fail
        refine (HI.out r 0 60000 _).mono ?_
        rintro e w' ⟨rfl, rfl⟩
        rw [decide_eq_true g0]
        go_wp2_with fail
        refine (HI.out s 0 d.size _).mono ?_
        rintro e w' ⟨rfl, rfl⟩
        rw [decide_eq_false g3]
        go_wp2
        go_ret
        exact ⟨rfl, hbw⟩
    · rw [hk, decide_eq_false (by omega)]
      go_enter Tryz.func17, Tryz.ntmps17
      go_wp2_with fail
      refine (HI.out r 0 60000 _).mono ?_
      rintro e w' ⟨rfl, rfl⟩
      rw [decide_eq_true g0]
      go_wp2
      go_ret
      exact ⟨rfl, hbw⟩
  · rw [hk, decide_eq_false (by omega)]
    go_enter Tryz.func17, Tryz.ntmps17
    go_wp2_with fail
    refine (HI.out r 0 60000 _).mono ?_
    rintro e w' ⟨rfl, rfl⟩
    rw [decide_eq_false g0]
    go_wp2
    go_ret
    exact ⟨rfl, hbw⟩
end Go.Proofs.YtcnjgmeddkidaaaGreatDoor.lg
