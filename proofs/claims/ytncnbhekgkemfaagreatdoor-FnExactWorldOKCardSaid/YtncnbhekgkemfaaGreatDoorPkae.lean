/-
  Stored mails as rows: measured, copied and compared by the law's own functions; as an argument, opened.
  Rows of texts: whether a text is among them, of the program's library and of the specification; their comparison by the law's own function.
-/
import Derived.Test.YtncnbhekgkemfaaGreatDoorPkaa
import Derived.Test.YtncnbhekgkemfaaGreatDoorRows
import Derived.Test.YtncnbhekgkemfaaGreatDoorPkab
import Derived.WalkKit
import Derived.WalkLawsBesides
import Derived.ProofKit
import Derived.OpenShut
import Derived.ChangeOld
import Derived.Below
import Derived.BigRegion
import Derived.Laws.OwnMore
import Derived.Lib.SmallJoins
import Derived.Deep.Fields
import Derived.Deep.Slices
import Derived.WideShapes
import Derived.Deep.QuietTactic
import Derived.BigQuiet
import Derived.Lib.Strings

namespace Go.Proofs.YtncnbhekgkemfaaGreatDoor.st
open Go.ChangeShapes Go.WideShapes Go.ChangeAt Go.RowKit Go.Joins Go.Deep
open gr
set_option linter.unusedVariables false

/-- A stored mail: uid, flags, text. -/
structure St where
  u : Int
  f : Int
  t : ByteArray
def noS : St := ⟨0, 0, ⟨#[]⟩⟩
/-- A number that an int can be. -/
def In (z : Int) : Prop := -9223372036854775808 ≤ z ∧ z ≤ 9223372036854775807
theorem in_of_wf {z : Int} (h : (Lit.int .i64 z).wf = true) : In z := by
  have h1 : IntKind.i64.min = -9223372036854775808 := rfl
  have h2 : IntKind.i64.max = 9223372036854775807 := rfl
  simp [Lit.wf, h1, h2] at h
  exact ⟨by omega, by omega⟩
def Held (e : St) : Prop := In e.u ∧ In e.f ∧ e.t.size ≤ maxLen
def Small (e : St) : Prop := In e.u ∧ In e.f ∧ e.t.size ≤ 1048576
def At3 (w : World) (b o : Nat) (e : St) : Prop :=
  w.cell? ⟨b, o, none⟩ = some (.int .i64 e.u) ∧ w.cell? ⟨b, o + 1, none⟩ = some (.int .i64 e.f) ∧ w.cell? ⟨b, o + 2, none⟩ = some (.string e.t)
theorem At3.lt {w : World} {b o : Nat} {e : St} (h : At3 w b o e) : b < w.heap.size := World.block_lt_of_cell? w _ h.1
theorem At3.keep {w w' : World} {n b o : Nat} {e : St} (h : At3 w b o e) (hb : Below n w w') (hn : b < n) : At3 w' b o e := by
  obtain ⟨h0, h1, h2⟩ := h
  exact ⟨(hb.cell (p := ⟨b, o, none⟩) hn).trans h0, (hb.cell (p := ⟨b, o + 1, none⟩) hn).trans h1, (hb.cell (p := ⟨b, o + 2, none⟩) hn).trans h2⟩
/-- A slice of stored mails, in blocks below n. -/
def MailsIn (w : World) (n : Nat) (v : Value) (es : List St) : Prop :=
  ∃ a cap, v = .slice a es.length cap ∧ (es = [] ∨ ∃ b off, a = some ⟨b, off, none⟩ ∧ b < n ∧ ∀ j, j < es.length → At3 w b (off + j * 3) (es.getD j noS))
theorem mails_below {w w' : World} {n k : Nat} {v : Value} {es : List St} (h : MailsIn w n v es) (hb : Below k w w') (hk : n ≤ k) : MailsIn w' n v es := by
  obtain ⟨a, cap, rfl, h⟩ := h
  refine ⟨a, cap, rfl, ?_⟩
  rcases h with h | ⟨b, off, rfl, hb', h⟩
  · exact .inl h
  · exact .inr ⟨b, off, rfl, hb', fun j hj => (h j hj).keep hb (by omega)⟩
theorem mails_more {w : World} {n k : Nat} {v : Value} {es : List St} (h : MailsIn w n v es) (hk : n ≤ k) : MailsIn w k v es := by
  obtain ⟨a, cap, rfl, h⟩ := h
  refine ⟨a, cap, rfl, ?_⟩
  rcases h with h | ⟨b, off, rfl, hb', h⟩
  · exact .inl h
  · exact .inr ⟨b, off, rfl, by omega, h⟩
def Smalls (es : List St) : Prop := es.length ≤ 1048576 ∧ ∀ j, j < es.length → Small (es.getD j noS)
def SmallsTo (es : List St) (k : Nat) : Prop := es.length ≤ 1048576 ∧ ∀ j, j < k → Small (es.getD j noS)

set_option maxHeartbeats 1000000 in
theorem szStored_any (e : St) (left : Int) (w : World) (h0 : 0 ≤ left) (h1 : left ≤ 1048576) (hh : Held e) :
    Calls Tryz.prog 105 #[.agg #[.int .i64 e.u, .int .i64 e.f, .string e.t], .int .i64 left] w fun r w' => (∃ z : Int, r = .returned (.int .i64 z) ∧ z ≤ left ∧ -1 ≤ z ∧ (0 ≤ z → Small e)) ∧ Below w.heap.size w w' := by
  obtain ⟨u, f, t⟩ := e
  obtain ⟨s0, s1, s2⟩ := hh
  have HI : Hid (In u ∧ In f) := ⟨s0, s1⟩
  unfold maxLen at s2
  simp only at s2 ⊢
  clear s0 s1
  have hbw : Below w.heap.size w (w.alloc (.cells #[.int .i64 u, .int .i64 f, .string t] 165)) := (Below.refl _ _).alloc (Nat.le_refl _) _
  by_cases g0 : left - (t.size : Int) < 0
  · go_enter Tryz.func105, Tryz.ntmps105
    go_wp2
    go_ret
    exact ⟨⟨-1, rfl, by omega, by omega, by omega⟩, hbw⟩
  · go_enter Tryz.func105, Tryz.ntmps105
    go_wp2
    go_ret
    exact ⟨⟨_, rfl, by omega, by omega, fun _ => ⟨HI.out.1, HI.out.2, by show t.size ≤ _; omega⟩⟩, hbw⟩

set_option maxHeartbeats 1000000 in
theorem szStoredS_any (N : Nat) (v : Value) (es : List St) (left : Int) (w : World) (h : MailsIn w N v es) (hN : N ≤ w.heap.size) (h0 : 0 ≤ left) (h1 : left ≤ 1048576) (hl : es.length ≤ maxLen) (hs : ∀ j, j < es.length → Held (es.getD j noS)) :
    Calls Tryz.prog 74 #[v, .int .i64 left] w fun e w' => (∃ z : Int, e = .returned (.int .i64 z) ∧ z ≤ left ∧ -1 ≤ z ∧ (0 ≤ z → Smalls es)) ∧ Below w.heap.size w w' := by
  obtain ⟨a, cap, rfl, h⟩ := h
  obtain ⟨n, hn⟩ : ∃ n, n = es.length := ⟨_, rfl⟩
  have HN : Hid (n = es.length) := hn
  have HH : Hid (es = [] ∨ ∃ b off, a = some ⟨b, off, none⟩ ∧ b < N ∧ ∀ j, j < es.length → At3 w b (off + j * 3) (es.getD j noS)) := h
  have HS : Hid (∀ j, j < es.length → Held (es.getD j noS)) := hs
  rw [← hn] at hl ⊢
  clear h hs hn
  unfold maxLen at hl
  by_cases g0 : left - (n : Int) < 0
  · go_enter Tryz.func74, Tryz.ntmps74
    go_wp2
    go_ret
    exact ⟨⟨-1, rfl, by omega, by omega, by omega⟩, Below.refl _ _⟩
  go_enter Tryz.func74, Tryz.ntmps74
  go_wp2
  go_loopw [1, 5] (fun z i wr => ∃ (k : Nat) (y : Int), k ≤ n ∧ 0 ≤ y ∧ y ≤ left ∧ z = .int .i64 y ∧ i = .int .i64 k ∧ SmallsTo es k ∧ Below w.heap.size w wr) (fun _ i _ => n - (intOf i).toNat)
  case atStart => exact ⟨0, left - (n : Int), Nat.zero_le _, by omega, by omega, rfl, rfl, ⟨by rw [← HN.out]; omega, fun j hj => absurd hj (Nat.not_lt_zero _)⟩, Below.refl _ _⟩
  case round =>
    obtain ⟨k, y, hk, hy0, hy1, rfl, rfl, hsm, hbw⟩ := hrel
    have HSM : Hid (SmallsTo es k) := hsm
    clear hsm
    by_cases hlt : k < n
    · have hka : k < es.length := by rw [← HN.out]; exact hlt
      rcases HH.out with e | ⟨b, off, rfl, _, hcells⟩
      · rw [e] at hka; simp at hka
      have hat := (hcells k hka).keep hbw (hcells k hka).lt
      have hhd := HS.out k hka
      clear hcells hka
      generalize hx : es.getD k noS = x at hat hhd
      have HX : Hid (es.getD k noS = x) := hx
      obtain ⟨c0, c1, c2⟩ := hat
      clear hx
      have HE : Hid (∀ w, Calls Tryz.prog 105 #[.agg #[.int .i64 x.u, .int .i64 x.f, .string x.t], .int .i64 y] w fun r w' => (∃ z : Int, r = .returned (.int .i64 z) ∧ z ≤ y ∧ -1 ≤ z ∧ (0 ≤ z → Small x)) ∧ Below w.heap.size w w') := fun w => szStored_any x y w hy0 (by omega) hhd
      clear hhd
      go_wp2_with fail
      refine (HE.out _).mono ?_
      rintro e w2 ⟨⟨z, rfl, hz0, hz1, hz2⟩, hb2⟩
      have HZ : Hid (0 ≤ z → Small x) := hz2
      clear hz2 HE c0 c1 c2
      by_cases hz : z < 0
      · go_wp2
        go_ret
        exact ⟨⟨-1, rfl, by omega, by omega, by omega⟩, hbw.trans (hb2.mono hbw.size)⟩
      · go_wp2
        go_roundw
        case rel => exact ⟨k + 1, z, by omega, by omega, by omega, rfl, by go_num, ⟨HSM.out.1, fun j hj => by by_cases hjk : j = k; subst hjk; rw [HX.out]; exact HZ.out (by omega); exact HSM.out.2 j (by omega)⟩, hbw.trans (hb2.mono hbw.size)⟩
        case measure => simp [intOf]; omega
    · go_wp2
      go_ret
      exact ⟨⟨y, rfl, by omega, by omega, fun _ => ⟨HSM.out.1, fun j hj => HSM.out.2 j (by have := HN.out; omega)⟩⟩, hbw⟩

theorem infoS : (Tryz.prog.info? 110).map (fun i => (i.zero, i.size, i.bytes)) = some (some (.agg #[.int .i64 0, .int .i64 0, .string ⟨#[]⟩]), 3, 32) := by kernel_rfl
def put3 (xs : List Value) (o : Nat) (e : St) : List Value := ((xs.set o (.int .i64 e.u)).set (o + 1) (.int .i64 e.f)).set (o + 2) (.string e.t)
theorem put_len (xs : List Value) (o : Nat) (e : St) : (put3 xs o e).length = xs.length := by simp [put3]
theorem put_other {xs : List Value} {o j : Nat} {e : St} (h : j < o ∨ o + 2 < j) : (put3 xs o e)[j]? = xs[j]? := by
  unfold put3
  rw [List.getElem?_set_ne (by omega), List.getElem?_set_ne (by omega), List.getElem?_set_ne (by omega)]
def In3 (xs : List Value) (o : Nat) (e : St) : Prop := xs[o]? = some (.int .i64 e.u) ∧ xs[o + 1]? = some (.int .i64 e.f) ∧ xs[o + 2]? = some (.string e.t)
theorem put_same {xs : List Value} {o : Nat} {e : St} (h : o + 2 < xs.length) : In3 (put3 xs o e) o e := by
  unfold put3 In3
  refine ⟨?_, ?_, ?_⟩
  · rw [List.getElem?_set_ne (by omega), List.getElem?_set_ne (by omega), List.getElem?_set_self (by omega)]
  · rw [List.getElem?_set_ne (by omega), List.getElem?_set_self (by simp; omega)]
  · rw [List.getElem?_set_self (by simp; omega)]
theorem in_other {xs : List Value} {o p : Nat} {e x : St} (h : In3 xs p x) (hp : p + 2 < o ∨ o + 2 < p) : In3 (put3 xs o e) p x := by
  obtain ⟨h0, h1, h2⟩ := h
  refine ⟨?_, ?_, ?_⟩ <;> (rw [put_other (by omega)]; assumption)
def Lay (es : List St) (k : Nat) (xs : List Value) : Prop := ∀ j, j < k → In3 xs (j * 3) (es.getD j noS)
theorem lay_step {es : List St} {k : Nat} {xs : List Value} (h : Lay es k xs) (hl : k * 3 + 2 < xs.length) {x : St} (hx : es.getD k noS = x) : Lay es (k + 1) (put3 xs (k * 3) x) := by
  intro j hj
  by_cases e : j = k
  · subst e
    rw [hx]
    exact put_same hl
  · exact in_other (h j (by omega)) (by omega)
theorem mails_lay {w : World} {base e g n cap N : Nat} {es : List St} {xs : List Value} (hn : n = es.length) (h : w.ownsRow base e 3 (.slice (some ⟨g, 0, none⟩) n cap) n xs) (hl : Lay es n xs) (hg : g < N) : MailsIn w N (.slice (some ⟨g, 0, none⟩) n cap) es := by
  subst hn
  refine ⟨_, cap, rfl, .inr ⟨g, 0, rfl, hg, fun j hj => ?_⟩⟩
  obtain ⟨h0, h1, h2⟩ := hl j hj
  refine ⟨?_, ?_, ?_⟩
  · rw [Nat.zero_add, h.cellAt _ (by omega), h0]
  · rw [Nat.zero_add, h.cellAt _ (by omega), h1]
  · rw [Nat.zero_add, h.cellAt _ (by omega), h2]

set_option maxHeartbeats 1000000 in
set_option maxRecDepth 100000 in
theorem toStored_any (e : St) (w : World) : Calls Tryz.prog 109 #[.agg #[.int .i64 e.u, .int .i64 e.f, .string e.t]] w fun r w' => r = .returned (.agg #[.int .i64 e.u, .int .i64 e.f, .string e.t]) ∧ Below w.heap.size w w' := by
  obtain ⟨u, f, t⟩ := e
  simp only
  go_enter Tryz.func109, Tryz.ntmps109
  go_wp2
  refine bodyPost_ret (v := .agg #[.int .i64 u, .int .i64 f, .string t]) (by simp [results, Tryz.results109, go_sem]) rfl ⟨rfl, ?_⟩
  exact (((Below.refl _ w).alloc (Nat.le_refl _) _).alloc (by simp) _).alloc (by simp; omega) _

set_option maxHeartbeats 2000000 in
set_option maxRecDepth 100000 in
theorem toStoredS_any (N : Nat) (v : Value) (es : List St) (w : World) (h : MailsIn w N v es) (hN : N ≤ w.heap.size) (hn : es.length ≤ 1048576) :
    Calls Tryz.prog 85 #[v] w fun e w' => e = .returned (.slice (some ⟨w.heap.size, 0, none⟩) es.length es.length) ∧ MailsIn w' w'.heap.size (.slice (some ⟨w.heap.size, 0, none⟩) es.length es.length) es ∧ Below w.heap.size w w' := by
  obtain ⟨a, cap, rfl, h⟩ := h
  obtain ⟨i0, hi, hz0, hz1, hz2⟩ := info_parts infoS
  obtain ⟨n, hn'⟩ : ∃ n, n = es.length := ⟨_, rfl⟩
  have HN : Hid (n = es.length) := hn'
  have HH : Hid (es = [] ∨ ∃ b off, a = some ⟨b, off, none⟩ ∧ b < N ∧ ∀ j, j < es.length → At3 w b (off + j * 3) (es.getD j noS)) := h
  rw [← hn'] at hn ⊢
  clear h hn'
  go_enter Tryz.func85, Tryz.ntmps85
  go_wp2_with (at_make; refine wpList_make_full _ rfl _ _ 97 rfl w.heap.size 110 i0 _ 3 Tryz.underlying97 hi hz0 hz1 _ _ _ _ n rfl rfl rfl rfl (by rw [hz2]; omega) (by unfold maxLen; omega) (Nat.le_refl _) ?_; intro w1 hown1 hg1)
  have hb1 : Below w.heap.size w w1 := (Below.refl _ _).grown hg1 (Nat.le_refl _) (fun k hk => by cases hk)
  clear hg1
  go_loopw [4] (fun i wr => ∃ (k : Nat) (xs : List Value), k ≤ n ∧ i = .int .i64 k ∧ xs.length = n * 3 ∧ Lay es k xs ∧ wr.ownsRow w.heap.size 110 3 (.slice (some ⟨w.heap.size, 0, none⟩) n n) n xs ∧ Below w.heap.size w wr) (fun i _ => n - (intOf i).toNat)
  case atStart => exact ⟨0, _, Nat.zero_le _, rfl, hown1.1.symm ▸ rfl, fun j hj => absurd hj (Nat.not_lt_zero _), hown1, hb1⟩
  case round =>
    clear hown1 hb1
    obtain ⟨k, xs, hk, rfl, hxl, hm, hown, hbw⟩ := hrel
    have HM : Hid (Lay es k xs) := hm
    have HL : Hid (xs.length = n * 3) := hxl
    clear hm hxl
    by_cases hlt : k < n
    · have hka : k < es.length := by rw [← HN.out]; exact hlt
      rcases HH.out with e | ⟨b, off, rfl, _, hcells⟩
      · rw [e] at hka; simp at hka
      have hat := (hcells k hka).keep hbw (hcells k hka).lt
      clear hcells hka
      generalize hx : es.getD k noS = x at hat
      have HX : Hid (es.getD k noS = x) := hx
      obtain ⟨c0, c1, c2⟩ := hat
      clear hx
      have HE : Hid (∀ w, Calls Tryz.prog 109 #[.agg #[.int .i64 x.u, .int .i64 x.f, .string x.t]] w fun r w' => r = .returned (.agg #[.int .i64 x.u, .int .i64 x.f, .string x.t]) ∧ Below w.heap.size w w') := fun w => toStored_any x w
      go_wp2_with fail
      refine (HE.out _).mono ?_
      rintro e w2 ⟨rfl, hb2⟩
      have hown2 := ow.own_below hown hb2
      have hbw2 := hbw.trans (hb2.mono hbw.size)
      clear hb2 hbw hown c0 c1 c2 HE
      have HO : Hid (w2.ownsRow w.heap.size 110 3 (.slice (some ⟨w.heap.size, 0, none⟩) n n) n xs) := hown2
      have q0 := hown2.cellAt (k * 3) (by omega)
      have q1 := hown2.cellAt (k * 3 + 1) (by omega)
      have q2 := hown2.cellAt (k * 3 + 2) (by omega)
      rw [List.getElem?_eq_getElem (by rw [HL.out]; omega)] at q0 q1 q2
      have f0 := hown2.frozenAt (k * 3)
      have f1 := hown2.frozenAt (k * 3 + 1)
      have f2 := hown2.frozenAt (k * 3 + 2)
      clear hown2
      generalize xs[k * 3]'(by rw [HL.out]; omega) = u0 at q0
      generalize xs[k * 3 + 1]'(by rw [HL.out]; omega) = u1 at q1
      generalize xs[k * 3 + 2]'(by rw [HL.out]; omega) = u2 at q2
      have hlt' : (k : Int) < (n : Int) := by omega
      go_wp2
      go_roundw
      case rel => exact ⟨k + 1, put3 xs (k * 3) x, by omega, by go_num, by rw [put_len]; exact HL.out, lay_step HM.out (by rw [HL.out]; omega) HX.out, (((HO.out.stored _ _).1.stored _ _).1.stored _ _).1, ((hbw2.setCell (Nat.le_refl _) _).setCell (Nat.le_refl _) _).setCell (Nat.le_refl _) _⟩
      case measure => simp [intOf]; omega
    · have hgl : w.heap.size < wr.heap.size := by
        rcases hown.2 with ⟨hv, _⟩ | ⟨g', cap', cur, hv, _, hb', _⟩
        · cases hv
        · cases hv
          exact (Array.getElem?_eq_some_iff.1 hb').1
      have HQ : Hid (MailsIn wr wr.heap.size (.slice (some ⟨w.heap.size, 0, none⟩) n n) es) := mails_lay HN.out hown (fun j hj => HM.out j (by omega)) hgl
      go_wp2
      go_ret
      exact ⟨rfl, HQ.out, hbw⟩

set_option maxHeartbeats 1000000 in
set_option maxRecDepth 100000 in
theorem eqStored_any (x : St) (w : World) : Calls Tryz.prog 128 #[.agg #[.int .i64 x.u, .int .i64 x.f, .string x.t], .agg #[.int .i64 x.u, .int .i64 x.f, .string x.t]] w fun e w' => e = .returned (.bool true) ∧ Below w.heap.size w w' := by
  obtain ⟨u, f, t⟩ := x
  simp only
  have uu : ((u : Int) != u) = false := by simp
  have ff : ((f : Int) != f) = false := by simp
  go_enter Tryz.func128, Tryz.ntmps128
  go_wp2
  go_ret
  exact ⟨rfl, ((Below.refl _ w).alloc (Nat.le_refl _) _).alloc (by simp) _⟩

set_option maxHeartbeats 2000000 in
set_option maxRecDepth 100000 in
theorem eqStoredS_any (N M : Nat) (v u : Value) (es : List St) (w : World) (h1 : MailsIn w N v es) (h2 : MailsIn w M u es) (hn : es.length ≤ 1048576) :
    Calls Tryz.prog 102 #[v, u] w fun e w' => e = .returned (.bool true) ∧ Below w.heap.size w w' := by
  obtain ⟨a, cap, rfl, h1⟩ := h1
  obtain ⟨c, cap2, rfl, h2⟩ := h2
  obtain ⟨n, hn'⟩ : ∃ n, n = es.length := ⟨_, rfl⟩
  have HN : Hid (n = es.length) := hn'
  have H1 : Hid (es = [] ∨ ∃ b off, a = some ⟨b, off, none⟩ ∧ b < N ∧ ∀ j, j < es.length → At3 w b (off + j * 3) (es.getD j noS)) := h1
  have H2 : Hid (es = [] ∨ ∃ b off, c = some ⟨b, off, none⟩ ∧ b < M ∧ ∀ j, j < es.length → At3 w b (off + j * 3) (es.getD j noS)) := h2
  rw [← hn'] at hn ⊢
  clear h1 h2 hn'
  have hnn : ((n : Int) != (n : Int)) = false := by simp
  go_enter Tryz.func102, Tryz.ntmps102
  go_wp2
  go_loopw [5] (fun i wr => ∃ k : Nat, k ≤ n ∧ i = .int .i64 k ∧ Below w.heap.size w wr) (fun i _ => n - (intOf i).toNat)
  case atStart => exact ⟨0, Nat.zero_le _, rfl, Below.refl _ _⟩
  case round =>
    obtain ⟨k, hk, rfl, hbw⟩ := hrel
    by_cases hlt : k < n
    · have hka : k < es.length := by rw [← HN.out]; exact hlt
      rcases H1.out with e | ⟨b, off, rfl, _, hcells⟩
      · rw [e] at hka; simp at hka
      rcases H2.out with e | ⟨b2, off2, rfl, _, hcells2⟩
      · rw [e] at hka; simp at hka
      have ha := (hcells k hka).keep hbw (hcells k hka).lt
      have hb := (hcells2 k hka).keep hbw (hcells2 k hka).lt
      clear hcells hka hcells2
      generalize es.getD k noS = x at ha hb
      obtain ⟨c0, c1, c2⟩ := ha
      obtain ⟨d0, d1, d2⟩ := hb
      have hlt' : (k : Int) < (n : Int) := by omega
      have hk0 : (0 : Int) ≤ (k : Int) := by omega
      go_wp2_with fail
      have ne := ext_some wr
      have c0 := fun x : Ext wr => gw_cell x c0
      have c1 := fun x : Ext wr => gw_cell x c1
      have c2 := fun x : Ext wr => gw_cell x c2
      have d0 := fun x : Ext wr => gw_cell x d0
      have d1 := fun x : Ext wr => gw_cell x d1
      have d2 := fun x : Ext wr => gw_cell x d2
      refine region_lit (by kernel_rfl) (by kernel_rfl) ?_
      repeat (go_big_quiet_step ((go_at_call 128; exact grow_of (eqStored_any _ _))))
      refine wpQuiet_nil ?_
      rintro W' ⟨y, rfl⟩
      have b3 := hbw.trans ((gw_below y).mono hbw.size)
      generalize gw y = W' at b3 ⊢
      clear c0 c1 c2 d0 d1 d2 hbw
      go_wp2
      go_roundw
      case rel => exact ⟨k + 1, by omega, by go_num, b3⟩
      case measure => simp [intOf]; omega
    · go_wp2
      go_ret
      exact ⟨rfl, hbw⟩

section
variable {H : Type} {enc : TypeId × Value → H} {w : World} {base : Nat} {spare : Nat → Bool} {held : Bool}
theorem trod_cells {T : TypeId} {fs : Array Field} {fuel : Nat} {cs : List Value} {x : DataW H × List MemPlace} (hs : Tryz.prog.underlying T = some (.struct fs)) (hone : oneCellFields Tryz.prog fs = true) (hc : Tryz.prog.cellsOf T = fs.size) (h : DataW.trod enc Tryz.prog w base spare held fuel T cs = some x) :
    cs.length = fs.size ∧ ∃ n, ∀ (j : Nat) (f : Field) (c : Value), fs[j]? = some f → cs[j]? = some c → ∃ y, DataW.trod enc Tryz.prog w base spare held n f.type [c] = some y := by
  obtain ⟨xs, n, _, hx, hcl, hlen, hf⟩ := DataW.trod_struct hs h
  rw [hc] at hcl
  refine ⟨hcl, n, fun j f c hfj hcj => ?_⟩
  have hh := hf j f hfj
  obtain ⟨o, k⟩ := hone_of hone j f hfj
  rw [o, k] at hh
  have hj : j < xs.length := by
    rw [hlen]
    exact (Array.getElem?_eq_some_iff.1 hfj).1
  have ht : (cs.drop j).take 1 = [c] := by
    obtain ⟨hj2, e⟩ := List.getElem?_eq_some_iff.1 hcj
    rw [List.drop_eq_getElem_cons hj2, e]
    rfl
  rw [ht, List.getElem?_eq_getElem hj] at hh
  exact ⟨_, hh⟩
theorem three_list {α : Type} {l : List α} (h : l.length = 3) : ∃ a b c, l = [a, b, c] := by
  match l, h with
  | [a, b, c], _ => exact ⟨a, b, c, rfl⟩
theorem cellsS : Tryz.prog.cellsOf 165 = 3 := by kernel_rfl
set_option maxRecDepth 100000 in
theorem trod_stored {fuel : Nat} {cs : List Value} {x : DataW H × List MemPlace} (h : DataW.trod enc Tryz.prog w base spare held fuel 165 cs = some x) : ∃ e : St, cs = [.int .i64 e.u, .int .i64 e.f, .string e.t] ∧ Held e := by
  obtain ⟨hl, n, hall⟩ := trod_cells Tryz.underlying165 (by kernel_rfl) (by kernel_rfl) h
  obtain ⟨c0, c1, c2, rfl⟩ := three_list hl
  obtain ⟨y0, t0⟩ := hall 0 _ _ rfl rfl
  obtain ⟨y1, t1⟩ := hall 1 _ _ rfl rfl
  obtain ⟨y2, t2⟩ := hall 2 _ _ rfl rfl
  obtain ⟨z0, e0, _, f0⟩ := DataW.trod_int Tryz.underlying3 t0
  obtain ⟨z1, e1, _, f1⟩ := DataW.trod_int Tryz.underlying3 t1
  obtain ⟨s2, e2, _, f2⟩ := DataW.trod_string Tryz.underlying9 t2
  simp only [List.cons.injEq, and_true] at e0 e1 e2
  subst e0 e1 e2
  exact ⟨⟨z0, z1, s2⟩, rfl, in_of_wf f0, in_of_wf f1, f2⟩
theorem open_mails {fuel : Nat} {v : Value} {x : DataW H × List MemPlace} (h : DataW.trod enc Tryz.prog w base spare held fuel 90 [v] = some x) :
    ∃ es : List St, MailsIn w w.heap.size v es ∧ es.length ≤ maxLen ∧ ∀ j, j < es.length → Held (es.getD j noS) := by
  have inh : Nonempty St := ⟨noS⟩
  rcases open_slice Tryz.underlying90 h with ⟨hc, _⟩ | ⟨a, len, cap, m, n, D, Pl, hc, _, hl, hm, hmm, _, hall⟩
  · cases hc
    exact ⟨[], ⟨none, 0, rfl, .inl rfl⟩, Nat.zero_le _, fun j hj => absurd hj (Nat.not_lt_zero _)⟩
  · cases hc
    have hml : len ≤ m := by rw [hmm]; split <;> omega
    have each : ∀ i, ∃ e : St, i < len → Held e ∧ ∀ k, k < 3 → w.cell? (a.add (i * 3 + k)) = ([.int .i64 e.u, .int .i64 e.f, .string e.t] : List Value)[k]? := by
      intro i
      by_cases hi : i < len
      · obtain ⟨cs', h1, h2⟩ := hall i (by omega)
        obtain ⟨e, rfl, hh⟩ := trod_stored h2
        rw [cellsS] at h1
        obtain ⟨_, hlen, hcell⟩ := World.cells?_some h1
        refine ⟨e, fun _ => ⟨hh, fun k hk => ?_⟩⟩
        have := hcell k hk
        rw [add_add] at this
        rw [this]
      · exact ⟨noS, fun h => absurd h hi⟩
    obtain ⟨q, hq⟩ := Classical.axiomOfChoice each
    have hget : ∀ j, j < len → ((List.range len).map q).getD j noS = q j := by
      intro j hj
      simp [List.getD_eq_getElem?_getD, hj]
    refine ⟨(List.range len).map q, ⟨some a, cap, by simp, ?_⟩, by simp; omega, ?_⟩
    · by_cases h0 : len = 0
      · left; simp [h0]
      · right
        have c0 := (hq 0 (by omega)).2 0 (by omega)
        obtain ⟨b, off, spot⟩ := a
        have c0' := c0.trans (show ([.int .i64 (q 0).u, .int .i64 (q 0).f, .string (q 0).t] : List Value)[0]? = some (.int .i64 (q 0).u) from rfl)
        have hspot : spot = none := by simpa [Addr.add] using World.cell?_spot c0'
        subst hspot
        have hblt : b < w.heap.size := by simpa [Addr.add] using World.block_lt_of_cell? w _ c0'
        refine ⟨b, off, rfl, hblt, fun j hj => ?_⟩
        have hj' : j < len := by simpa using hj
        have hc := (hq j hj').2
        have hadd : ∀ k : Nat, ((⟨b, off, none⟩ : Addr).add (j * 3 + k)) = ⟨b, off + j * 3 + k, none⟩ := fun k => by simp [Addr.add, Nat.add_assoc]
        rw [hget j hj']
        have g0 := hc 0 (by omega)
        have g1 := hc 1 (by omega)
        have g2 := hc 2 (by omega)
        rw [hadd] at g0 g1 g2
        exact ⟨g0, g1, g2⟩
    · intro j hj
      have hj' : j < len := by simpa using hj
      rw [hget j hj']
      exact (hq j hj').1
end
end Go.Proofs.YtncnbhekgkemfaaGreatDoor.st

namespace Go.Proofs.YtncnbhekgkemfaaGreatDoor.ky
open Go.RowKit
set_option linter.unusedVariables false

def nt : ByteArray := ⟨#[]⟩
/-- A slice of texts. -/
def TextsAt (w : World) (v : Value) (ks : List ByteArray) : Prop :=
  ∃ a cap, v = .slice a ks.length cap ∧ (ks = [] ∨ ∃ b off, a = some ⟨b, off, none⟩ ∧ ∀ j, j < ks.length → w.cell? ⟨b, off + j, none⟩ = some (.string (ks.getD j nt)))
theorem texts_below {w w' : World} {v : Value} {ks : List ByteArray} (h : TextsAt w v ks) (hb : Below w.heap.size w w') : TextsAt w' v ks := by
  obtain ⟨a, cap, rfl, h⟩ := h
  refine ⟨a, cap, rfl, ?_⟩
  rcases h with h | ⟨b, off, rfl, h⟩
  · exact .inl h
  · exact .inr ⟨b, off, rfl, fun j hj => (hb.cell (p := ⟨b, off + j, none⟩) (World.block_lt_of_cell? w _ (h j hj))).trans (h j hj)⟩
/-- A row of texts that a call made. -/
def OwnT (w : World) (base : Nat) (v : Value) (ks : List ByteArray) : Prop := w.ownsRow base 9 1 v ks.length (ks.map Value.string)
theorem own_texts {w : World} {base : Nat} {v : Value} {ks : List ByteArray} (h : OwnT w base v ks) : TextsAt w v ks := by
  rcases h.2 with ⟨rfl, h0⟩ | ⟨g, cap, cur, rfl, _⟩
  · obtain rfl := List.eq_nil_of_length_eq_zero h0
    exact ⟨none, 0, rfl, .inl rfl⟩
  · refine ⟨_, cap, rfl, .inr ⟨g, 0, rfl, fun j hj => ?_⟩⟩
    rw [Nat.zero_add, h.cellAt j (by omega)]
    simp [List.getD_eq_getElem?_getD, hj]
theorem ne_list {a b : ByteArray} (h : a ≠ b) : (a.toList == b.toList) = false := beq_eq_false_iff_ne.2 fun e => h (WideShapes.bytes_inj (by rw [← Lib.toList_data, ← Lib.toList_data]; exact e))
theorem get_in {ks : List ByteArray} {j : Nat} (h : j < ks.length) : ks.getD j nt ∈ ks := by rw [List.getD_eq_getElem?_getD, List.getElem?_eq_getElem h]; exact List.getElem_mem h
theorem not_in {ks : List ByteArray} {s : ByteArray} (h : ∀ j, j < ks.length → ks.getD j nt ≠ s) : s ∉ ks := by
  intro hm
  obtain ⟨j, hj, e⟩ := List.mem_iff_getElem.1 hm
  apply h j hj
  rw [List.getD_eq_getElem?_getD, List.getElem?_eq_getElem hj]
  exact e
/-- Whether a text is among some. -/
def has (ks : List ByteArray) (s : ByteArray) : Bool := decide (s.data ∈ ks.map fun k => k.data)
theorem has_of {ks : List ByteArray} {s : ByteArray} (h : has ks s = true) : s ∈ ks := by
  obtain ⟨x, hx, e⟩ := List.mem_map.1 (of_decide_eq_true h)
  exact ByteArray.ext e ▸ hx
theorem has_yes {ks : List ByteArray} {s : ByteArray} (h : s ∈ ks) : has ks s = true := decide_eq_true (List.mem_map.2 ⟨s, h, rfl⟩)
theorem has_no {ks : List ByteArray} {s : ByteArray} (h : s ∉ ks) : has ks s = false := by
  cases e : has ks s
  · rfl
  · exact absurd (has_of e) h

set_option maxHeartbeats 1000000 in
set_option maxRecDepth 100000 in
theorem spec_has (v : Value) (ks : List ByteArray) (s : ByteArray) (w : World) (h : TextsAt w v ks) (hn : ks.length ≤ 1048576) :
    Calls Tryz.prog 77 #[v, .string s] w fun e w' => e = .returned (.bool (has ks s)) ∧ w' = w := by
  obtain ⟨a, cap, rfl, hh⟩ := h
  obtain ⟨m, hm⟩ : ∃ m, m = ks.length := ⟨_, rfl⟩
  have HN : Hid (m = ks.length) := hm
  have HH : Hid (ks = [] ∨ ∃ b off, a = some ⟨b, off, none⟩ ∧ ∀ j, j < ks.length → w.cell? ⟨b, off + j, none⟩ = some (.string (ks.getD j nt))) := hh
  rw [← hm] at hn ⊢
  clear hh hm
  go_enter Tryz.func77, Tryz.ntmps77
  go_wp2
  go_loop [5] (fun i => ∃ j : Nat, j ≤ m ∧ i = .int .i64 j ∧ ∀ x, x < j → ks.getD x nt ≠ s) (fun i => m - (intOf i).toNat)
  case atStart => exact ⟨0, Nat.zero_le _, rfl, fun j hj => absurd hj (Nat.not_lt_zero _)⟩
  case round =>
    obtain ⟨j, hj, rfl, hg⟩ := hrel
    have HG : Hid (∀ x, x < j → ks.getD x nt ≠ s) := hg
    clear hg
    by_cases hlt : j < m
    · have hka : j < ks.length := by rw [← HN.out]; exact hlt
      rcases HH.out with e | ⟨b, off, rfl, hcells⟩
      · rw [e] at hka; simp at hka
      have c0 := hcells j hka
      have HM : Hid (ks.getD j nt ∈ ks) := get_in hka
      clear hcells hka
      generalize hx : ks.getD j nt = x at c0 HM
      have HX : Hid (ks.getD j nt = x) := hx
      clear hx
      by_cases hs : x = s
      · have hs' : (x.toList == s.toList) = true := by rw [hs]; simp
        have HR : Hid (has ks s = true) := has_yes (hs ▸ HM.out)
        clear hs
        go_wp2
        go_ret
        exact ⟨by rw [HR.out]; rfl, rfl⟩
      · have hs' : (x.toList == s.toList) = false := ne_list hs
        have HS : Hid (x ≠ s) := hs
        clear hs
        go_wp2
        go_round
        case rel => exact ⟨j + 1, by omega, by go_num, fun y hy => by by_cases hyj : y = j; subst hyj; rw [HX.out]; exact HS.out; exact HG.out y (by omega)⟩
        case measure => simp [intOf]; omega
    · have HR : Hid (has ks s = false) := has_no (not_in fun y hy => HG.out y (by have := HN.out; omega))
      go_wp2
      go_ret
      exact ⟨by rw [HR.out]; rfl, rfl⟩
set_option maxHeartbeats 1000000 in
set_option maxRecDepth 100000 in
theorem eqTexts_any (v u : Value) (ks : List ByteArray) (w : World) (h1 : TextsAt w v ks) (h2 : TextsAt w u ks) (hn : ks.length ≤ 1048576) :
    Calls Tryz.prog 103 #[v, u] w fun e w' => e = .returned (.bool true) ∧ Below w.heap.size w w' := by
  obtain ⟨a, cap, rfl, h1⟩ := h1
  obtain ⟨c, cap2, rfl, h2⟩ := h2
  obtain ⟨n, hn'⟩ : ∃ n, n = ks.length := ⟨_, rfl⟩
  have HN : Hid (n = ks.length) := hn'
  have H1 : Hid (ks = [] ∨ ∃ b off, a = some ⟨b, off, none⟩ ∧ ∀ j, j < ks.length → w.cell? ⟨b, off + j, none⟩ = some (.string (ks.getD j nt))) := h1
  have H2 : Hid (ks = [] ∨ ∃ b off, c = some ⟨b, off, none⟩ ∧ ∀ j, j < ks.length → w.cell? ⟨b, off + j, none⟩ = some (.string (ks.getD j nt))) := h2
  rw [← hn'] at hn ⊢
  clear h1 h2 hn'
  have hnn : ((n : Int) != (n : Int)) = false := by simp
  go_enter Tryz.func103, Tryz.ntmps103
  go_wp2
  go_loopw [5] (fun i wr => ∃ k : Nat, k ≤ n ∧ i = .int .i64 k ∧ Below w.heap.size w wr) (fun i _ => n - (intOf i).toNat)
  case atStart => exact ⟨0, Nat.zero_le _, rfl, Below.refl _ _⟩
  case round =>
    obtain ⟨k, hk, rfl, hbw⟩ := hrel
    by_cases hlt : k < n
    · have hka : k < ks.length := by rw [← HN.out]; exact hlt
      rcases H1.out with e | ⟨b, off, rfl, hcells⟩
      · rw [e] at hka; simp at hka
      rcases H2.out with e | ⟨b2, off2, rfl, hcells2⟩
      · rw [e] at hka; simp at hka
      have v0 := hcells k hka
      have u0 := hcells2 k hka
      have c0 := (hbw.cell (p := ⟨b, off + k, none⟩) (World.block_lt_of_cell? w _ v0)).trans v0
      have d0 := (hbw.cell (p := ⟨b2, off2 + k, none⟩) (World.block_lt_of_cell? w _ u0)).trans u0
      clear hcells hka hcells2 v0 u0
      generalize ks.getD k nt = x at c0 d0
      have hxx : (x.toList == x.toList) = true := by simp
      have hlt' : (k : Int) < (n : Int) := by omega
      have hk0 : (0 : Int) ≤ (k : Int) := by omega
      go_wp2
      go_quiet (fail)
      have b3 : Below w.heap.size w (wr.drewN nq) := ⟨hbw.os, hbw.tape, hbw.output, hbw.size, hbw.block⟩
      clear c0 d0
      go_wp2
      go_roundw
      case rel => exact ⟨k + 1, by omega, by go_num, b3⟩
      case measure => simp [intOf]; omega
    · go_wp2
      go_ret
      exact ⟨rfl, hbw⟩
end Go.Proofs.YtncnbhekgkemfaaGreatDoor.ky
