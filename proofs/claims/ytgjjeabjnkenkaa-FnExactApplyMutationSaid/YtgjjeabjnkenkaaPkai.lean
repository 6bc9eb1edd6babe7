/-
  The laws' own copy of items, and their comparison of items that are the same.
  Items as an argument, opened.
-/
import Derived.Test.YtgjjeabjnkenkaaPkah
import Derived.BigRegion
import Derived.Test.YtgjjeabjnkenkaaPkab
import Derived.WalkKit
import Derived.ProofKit
import Derived.OpenShut
import Derived.ChangeOld
import Derived.Below
import Derived.Lib.SmallJoins
import Derived.Deep.SlicePairs

namespace Go.Proofs.Ytgjjeabjnkenkaa.it
open Go.RowKit
set_option linter.unusedVariables false

theorem infoAt : (Try.prog.info? 75).map (fun i => (i.zero, i.size, i.bytes)) = some (some (.agg #[.string ⟨#[]⟩, .string ⟨#[]⟩]), 2, 32) := by kernel_rfl

set_option maxHeartbeats 1000000 in
set_option maxRecDepth 100000 in
theorem toAttr_any (n v : ByteArray) (w : World) : Calls Try.prog 69 #[.agg #[.string n, .string v]] w fun e w' => e = .returned (.agg #[.string n, .string v]) ∧ Below w.heap.size w w' := by
  go_enter Try.func69, Try.ntmps69
  go_wp2
  refine bodyPost_ret (v := .agg #[.string n, .string v]) (by simp [results, Try.results69, go_sem]) rfl ⟨rfl, ?_⟩
  exact (((Below.refl _ w).alloc (Nat.le_refl _) _).alloc (by simp) _).alloc (by simp; omega) _

def Lay (ps : List Pr) (k : Nat) (xs : List Value) : Prop := ∀ j, j < k → xs[j * 2]? = some (.string (ps.getD j no).1) ∧ xs[j * 2 + 1]? = some (.string (ps.getD j no).2)
theorem lay_step {ps : List Pr} {k : Nat} {xs : List Value} (h : Lay ps k xs) (hl : k * 2 + 1 < xs.length) {a b : ByteArray} (ha : (ps.getD k no).1 = a) (hb : (ps.getD k no).2 = b) : Lay ps (k + 1) ((xs.set (k * 2) (.string a)).set (k * 2 + 1) (.string b)) := by
  intro j hj
  by_cases e : j = k
  · subst e
    rw [ha, hb]
    refine ⟨?_, ?_⟩
    · rw [List.getElem?_set_ne (by omega), List.getElem?_set_self (by omega)]
    · rw [List.getElem?_set_self (by rw [List.length_set]; omega)]
  · obtain ⟨h0, h1⟩ := h j (by omega)
    refine ⟨?_, ?_⟩
    · rw [List.getElem?_set_ne (by omega), List.getElem?_set_ne (by omega)]; exact h0
    · rw [List.getElem?_set_ne (by omega), List.getElem?_set_ne (by omega)]; exact h1
theorem attrs_lay {w : World} {base e g n cap : Nat} {ps : List Pr} {xs : List Value} (hn : n = ps.length) (h : w.ownsRow base e 2 (.slice (some ⟨g, 0, none⟩) n cap) n xs) (hl : Lay ps n xs) : AttrsAt w (.slice (some ⟨g, 0, none⟩) n cap) ps := by
  subst hn
  refine ⟨_, cap, rfl, .inr ⟨g, 0, rfl, fun j hj => ?_⟩⟩
  obtain ⟨h0, h1⟩ := hl j hj
  refine ⟨?_, ?_⟩
  · rw [Nat.zero_add, h.cellAt (j * 2) (by omega), h0]
  · rw [Nat.zero_add, h.cellAt (j * 2 + 1) (by omega), h1]

set_option maxHeartbeats 1000000 in
set_option maxRecDepth 100000 in
theorem toAttrS_any (v : Value) (ps : List Pr) (w : World) (h : AttrsAt w v ps) (hn : ps.length ≤ 1048576) :
    Calls Try.prog 35 #[v] w fun e w' => e = .returned (.slice (some ⟨w.heap.size, 0, none⟩) ps.length ps.length) ∧ AttrsAt w' (.slice (some ⟨w.heap.size, 0, none⟩) ps.length ps.length) ps ∧ Below w.heap.size w w' := by
  obtain ⟨a, cap, rfl, h⟩ := h
  obtain ⟨i0, hi, hz0, hz1, hz2⟩ := info_parts infoAt
  obtain ⟨n, hn'⟩ : ∃ n, n = ps.length := ⟨_, rfl⟩
  have HN : Hid (n = ps.length) := hn'
  have HH : Hid (ps = [] ∨ ∃ b off, a = some ⟨b, off, none⟩ ∧ ∀ j, j < ps.length → w.cell? ⟨b, off + j * 2, none⟩ = some (.string (ps.getD j no).1) ∧ w.cell? ⟨b, off + j * 2 + 1, none⟩ = some (.string (ps.getD j no).2)) := h
  rw [← hn'] at hn ⊢
  clear h hn'
  go_enter Try.func35, Try.ntmps35
  go_wp2_with (at_make; refine wpList_make_full _ rfl _ _ 32 rfl w.heap.size 75 i0 _ 2 Try.underlying32 hi hz0 hz1 _ _ _ _ n rfl rfl rfl rfl (by rw [hz2]; omega) (by unfold maxLen; omega) (Nat.le_refl _) ?_; intro w1 hown1 hg1)
  have hb1 : Below w.heap.size w w1 := (Below.refl _ _).grown hg1 (Nat.le_refl _) (fun k hk => by cases hk)
  clear hg1
  go_loopw [4] (fun i wr => ∃ (k : Nat) (xs : List Value), k ≤ n ∧ i = .int .i64 k ∧ xs.length = n * 2 ∧ Lay ps k xs ∧ wr.ownsRow w.heap.size 75 2 (.slice (some ⟨w.heap.size, 0, none⟩) n n) n xs ∧ Below w.heap.size w wr) (fun i _ => n - (intOf i).toNat)
  case atStart => exact ⟨0, _, Nat.zero_le _, rfl, hown1.1.symm ▸ rfl, fun j hj => absurd hj (Nat.not_lt_zero _), hown1, hb1⟩
  case round =>
    clear hown1 hb1
    obtain ⟨k, xs, hk, rfl, hxl, hm, hown, hbw⟩ := hrel
    have HM : Hid (Lay ps k xs) := hm
    have HL : Hid (xs.length = n * 2) := hxl
    clear hm hxl
    by_cases hlt : k < n
    · have hka : k < ps.length := by rw [← HN.out]; exact hlt
      rcases HH.out with e | ⟨b, off, rfl, hcells⟩
      · rw [e] at hka; simp at hka
      obtain ⟨v0, v1⟩ := hcells k hka
      have hblt : b < w.heap.size := World.block_lt_of_cell? w _ v0
      have c0 := (hbw.cell (p := ⟨b, off + k * 2, none⟩) hblt).trans v0
      have c1 := (hbw.cell (p := ⟨b, off + k * 2 + 1, none⟩) hblt).trans v1
      clear hcells v0 v1 hka
      generalize hn1 : (ps.getD k no).1 = nm at c0
      generalize hv1 : (ps.getD k no).2 = vl at c1
      have HN1 : Hid ((ps.getD k no).1 = nm) := hn1
      have HV1 : Hid ((ps.getD k no).2 = vl) := hv1
      clear hn1 hv1
      go_wp2_with fail
      refine (toAttr_any nm vl _).mono ?_
      rintro e w2 ⟨rfl, hb2⟩
      have hown2 := ow.own_below hown hb2
      have hbw2 := hbw.trans (hb2.mono hbw.size)
      clear hb2 hbw hown c0 c1
      have HO : Hid (w2.ownsRow w.heap.size 75 2 (.slice (some ⟨w.heap.size, 0, none⟩) n n) n xs) := hown2
      have q0 := hown2.cellAt (k * 2) (by omega)
      have q1 := hown2.cellAt (k * 2 + 1) (by omega)
      rw [List.getElem?_eq_getElem (by rw [HL.out]; omega)] at q0 q1
      have f0 := hown2.frozenAt (k * 2)
      have f1 := hown2.frozenAt (k * 2 + 1)
      clear hown2
      generalize xs[k * 2]'(by rw [HL.out]; omega) = u0 at q0
      generalize xs[k * 2 + 1]'(by rw [HL.out]; omega) = u1 at q1
      have hlt' : (k : Int) < (n : Int) := by omega
      go_wp2
      go_roundw
      case rel => exact ⟨k + 1, (xs.set (k * 2) (.string nm)).set (k * 2 + 1) (.string vl), by omega, by go_num, by rw [List.length_set, List.length_set]; exact HL.out, lay_step HM.out (by rw [HL.out]; omega) HN1.out HV1.out, ((HO.out.stored _ _).1.stored _ _).1, (hbw2.setCell (Nat.le_refl _) _).setCell (Nat.le_refl _) _⟩
      case measure => simp [intOf]; omega
    · have HQ : Hid (AttrsAt wr (.slice (some ⟨w.heap.size, 0, none⟩) n n) ps) := attrs_lay HN.out hown (fun j hj => HM.out j (by omega))
      go_wp2
      go_ret
      exact ⟨rfl, HQ.out, hbw⟩
open gr
set_option maxHeartbeats 1000000 in
set_option maxRecDepth 100000 in
theorem eqAttr_any (n v : ByteArray) (w : World) : Calls Try.prog 78 #[.agg #[.string n, .string v], .agg #[.string n, .string v]] w fun e w' => e = .returned (.bool true) ∧ Below w.heap.size w w' := by
  go_enter Try.func78, Try.ntmps78
  go_wp2
  go_ret
  exact ⟨rfl, ((Below.refl _ w).alloc (Nat.le_refl _) _).alloc (by simp) _⟩

set_option maxHeartbeats 1000000 in
set_option maxRecDepth 100000 in
theorem eqAttrS_any (v u : Value) (ps : List Pr) (w : World) (h1 : AttrsAt w v ps) (h2 : AttrsAt w u ps) (hn : ps.length ≤ 1048576) :
    Calls Try.prog 40 #[v, u] w fun e w' => e = .returned (.bool true) ∧ Below w.heap.size w w' := by
  obtain ⟨a, cap, rfl, h1⟩ := h1
  obtain ⟨c, cap2, rfl, h2⟩ := h2
  obtain ⟨n, hn'⟩ : ∃ n, n = ps.length := ⟨_, rfl⟩
  have HN : Hid (n = ps.length) := hn'
  have H1 : Hid (ps = [] ∨ ∃ b off, a = some ⟨b, off, none⟩ ∧ ∀ j, j < ps.length → w.cell? ⟨b, off + j * 2, none⟩ = some (.string (ps.getD j no).1) ∧ w.cell? ⟨b, off + j * 2 + 1, none⟩ = some (.string (ps.getD j no).2)) := h1
  have H2 : Hid (ps = [] ∨ ∃ b off, c = some ⟨b, off, none⟩ ∧ ∀ j, j < ps.length → w.cell? ⟨b, off + j * 2, none⟩ = some (.string (ps.getD j no).1) ∧ w.cell? ⟨b, off + j * 2 + 1, none⟩ = some (.string (ps.getD j no).2)) := h2
  rw [← hn'] at hn ⊢
  clear h1 h2 hn'
  have hnn : ((n : Int) != (n : Int)) = false := by simp
  go_enter Try.func40, Try.ntmps40
  go_wp2
  go_loopw [5] (fun i wr => ∃ k : Nat, k ≤ n ∧ i = .int .i64 k ∧ Below w.heap.size w wr) (fun i _ => n - (intOf i).toNat)
  case atStart => exact ⟨0, Nat.zero_le _, rfl, Below.refl _ _⟩
  case round =>
    obtain ⟨k, hk, rfl, hbw⟩ := hrel
    by_cases hlt : k < n
    · have hka : k < ps.length := by rw [← HN.out]; exact hlt
      rcases H1.out with e | ⟨b, off, rfl, hcells⟩
      · rw [e] at hka; simp at hka
      rcases H2.out with e | ⟨b2, off2, rfl, hcells2⟩
      · rw [e] at hka; simp at hka
      obtain ⟨v0, v1⟩ := hcells k hka
      obtain ⟨u0, u1⟩ := hcells2 k hka
      have hblt : b < w.heap.size := World.block_lt_of_cell? w _ v0
      have hblt2 : b2 < w.heap.size := World.block_lt_of_cell? w _ u0
      have c0 := (hbw.cell (p := ⟨b, off + k * 2, none⟩) hblt).trans v0
      have c1 := (hbw.cell (p := ⟨b, off + k * 2 + 1, none⟩) hblt).trans v1
      have d0 := (hbw.cell (p := ⟨b2, off2 + k * 2, none⟩) hblt2).trans u0
      have d1 := (hbw.cell (p := ⟨b2, off2 + k * 2 + 1, none⟩) hblt2).trans u1
      clear hcells v0 v1 hka hcells2 u0 u1
      generalize (ps.getD k no).1 = nm at c0 d0
      generalize (ps.getD k no).2 = vl at c1 d1
      have hlt' : (k : Int) < (n : Int) := by omega
      have hk0 : (0 : Int) ≤ (k : Int) := by omega
      go_wp2_with fail
      have ne := ext_some wr
      have c0 := fun x : Ext wr => gw_cell x c0
      have c1 := fun x : Ext wr => gw_cell x c1
      have d0 := fun x : Ext wr => gw_cell x d0
      have d1 := fun x : Ext wr => gw_cell x d1
      refine region_lit (by kernel_rfl) (by kernel_rfl) ?_
      repeat (go_big_quiet_step ((go_at_call 78; exact grow_of (eqAttr_any _ _ _))))
      refine wpQuiet_nil ?_
      rintro W' ⟨x, rfl⟩
      have b3 := hbw.trans ((gw_below x).mono hbw.size)
      generalize gw x = W' at b3 ⊢
      clear c0 c1 d0 d1 hbw
      go_wp2
      go_roundw
      case rel => exact ⟨k + 1, by omega, by go_num, b3⟩
      case measure => simp [intOf]; omega
    · go_wp2
      go_ret
      exact ⟨rfl, hbw⟩
end Go.Proofs.Ytgjjeabjnkenkaa.it

namespace Go.Proofs.Ytgjjeabjnkenkaa.it
open Go.ChangeShapes Go.WideShapes Go.ChangeAt Go.RowKit Go.Joins Go.Deep
set_option linter.unusedVariables false

def str : Value → ByteArray
  | .string s => s
  | _ => ⟨#[]⟩
section
variable {H : Type} {enc : TypeId × Value → H} {w : World} {base : Nat} {spare : Nat → Bool} {held : Bool}
theorem open_attrs {fuel : Nat} {v : Value} {x : DataW H × List MemPlace} (h : DataW.trod enc Try.prog w base spare held fuel 23 [v] = some x) :
    ∃ ps : List Pr, AttrsAt w v ps ∧ ps.length ≤ maxLen ∧ ∀ j, j < ps.length → (ps.getD j no).1.size ≤ maxLen ∧ (ps.getD j no).2.size ≤ maxLen := by
  rcases open_slice_pairs Try.underlying23 Try.underlying87 (by kernel_rfl) rfl rfl (by kernel_rfl) (by kernel_rfl) h with ⟨hc, _⟩ | ⟨a, len, cap, m, k, V0, V1, D0, D1, P0, P1, hc, _, hl, hm, hmm, _, hall⟩
  · cases hc
    exact ⟨[], ⟨none, 0, rfl, .inl rfl⟩, Nat.zero_le _, fun j hj => absurd hj (Nat.not_lt_zero _)⟩
  · cases hc
    have hml : len ≤ m := by rw [hmm]; split <;> omega
    have hstr : ∀ i, i < len → ∃ s t : ByteArray, V0 i = .string s ∧ V1 i = .string t ∧ s.size ≤ maxLen ∧ t.size ≤ maxLen ∧ w.cell? (a.add (i * 2)) = some (.string s) ∧ w.cell? (a.add (i * 2 + 1)) = some (.string t) := by
      intro i hi
      obtain ⟨h0, h1, t0, t1⟩ := hall i (by omega)
      obtain ⟨s, e0, _, s0⟩ := DataW.trod_string Try.underlying9 t0
      obtain ⟨t, e1, _, s1⟩ := DataW.trod_string Try.underlying9 t1
      simp only [List.cons.injEq, and_true] at e0 e1
      exact ⟨s, t, e0, e1, s0, s1, by rw [h0, e0], by rw [h1, e1]⟩
    have hget : ∀ j, j < len → ((List.range len).map fun i => (str (V0 i), str (V1 i))).getD j no = (str (V0 j), str (V1 j)) := by
      intro j hj
      simp [List.getD_eq_getElem?_getD, hj]
    refine ⟨(List.range len).map fun i => (str (V0 i), str (V1 i)), ⟨some a, cap, by simp, ?_⟩, by simp; omega, ?_⟩
    · by_cases h0 : len = 0
      · left; simp [h0]
      · right
        obtain ⟨s, t, e0, e1, s0, s1, c0, c1⟩ := hstr 0 (by omega)
        obtain ⟨b, off, spot⟩ := a
        have hspot : spot = none := by simpa [Addr.add] using World.cell?_spot c0
        subst hspot
        refine ⟨b, off, rfl, fun j hj => ?_⟩
        have hj' : j < len := by simpa using hj
        obtain ⟨s, t, e0, e1, s0, s1, c0, c1⟩ := hstr j hj'
        rw [hget j hj', e0, e1]
        rw [show ((⟨b, off, none⟩ : Addr).add (j * 2)) = ⟨b, off + j * 2, none⟩ from by simp [Addr.add]] at c0
        rw [show ((⟨b, off, none⟩ : Addr).add (j * 2 + 1)) = ⟨b, off + j * 2 + 1, none⟩ from by simp [Addr.add, Nat.add_assoc]] at c1
        exact ⟨c0, c1⟩
    · intro j hj
      have hj' : j < len := by simpa using hj
      obtain ⟨s, t, e0, e1, s0, s1, c0, c1⟩ := hstr j hj'
      rw [hget j hj', e0, e1]
      exact ⟨s0, s1⟩
end
end Go.Proofs.Ytgjjeabjnkenkaa.it
