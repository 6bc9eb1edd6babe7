/-
  A book of keys: cleared, filled with a box's keys, counted.
-/
import Derived.Test.YtdnjiagnpaibjaaDoorBxb
import Derived.Maps.Own
import Derived.Maps.OwnOps
import Derived.Maps.OwnSet
import Derived.Maps.Views
namespace Go.Proofs.YtdnjiagnpaibjaaDoor.bk
open Go.RowKit Go.Maps Go.ChangeMaps Go.WideMaps
open ky tx
set_option linter.unusedVariables false

theorem law : Keyed Tryd.prog 9 := string_keyed Tryd.underlying9
abbrev Own (w : World) (B n : Nat) (D : DataW Unit) : Prop := w.ownsMap Tryd.prog 9 (plainElem Tryd.prog 3) B n D
theorem own_keep {w w' : World} {B n k : Nat} {D : DataW Unit} (h : Own w B n D) (hb : Below k w w') (hk : B < k) : Own w' B n D := by
  obtain ⟨es, clock, hb', F, hs, hD⟩ := h
  exact ⟨es, clock, (hb.block B hk).trans hb', F, hs, hD⟩
theorem clear_own {w : World} {B n : Nat} {D : DataW Unit} (h : Own w B n D) (ty : TypeId) :
    ∃ w', (Builtin.clear_ #[86] ty #[.map (some B)]).run Tryd.prog w = .ok (.tuple #[]) w' ∧ Own w' B 0 (.map []) ∧ w.mapTurned w' B := by
  obtain ⟨es, clock, hb, F, hs, rfl⟩ := h
  refine ⟨setBlock w B (.map #[] clock), ?_, ⟨#[], clock, heap_setBlock_same hb _, ⟨by simp, MapKept.stamped_empty clock, by simp⟩, Nat.le_refl _, rfl⟩, ⟨es, clock, #[], clock, hb, rfl⟩⟩
  simp [Builtin.clear_, run_underlying Tryd.underlying86, MapKept.run_getObj_map hb, MapKept.run_setObj_map _ hb, Result.andThen, setBlock]
theorem wpList_clear_own {w : World} {ops : Array Oper} {rest : List Oper} {o : Oper} {a : Act} {Q : Exit → Act → World → Prop}
    (hg : o.guard = none) (m : Operand) (hop : o.op = Op.call { callee := Callee.builtin Builtin.clear, args := #[m], argTypes := #[86] }) (B n : Nat) (D : DataW Unit)
    (hm : a.eval m = .map (some B)) (hown : Own w B n D)
    (hK : ∀ w', Own w' B 0 (.map []) → w.mapTurned w' B → wpList Tryd.prog ops Q rest (a.put o.dst (.tuple #[])) w') :
    wpList Tryd.prog ops Q (o :: rest) a w := by
  refine wpList_plain hg fun K' hK' => ?_
  obtain ⟨w', hrun, r1, r2⟩ := clear_own hown o.type
  unfold Oper.wp
  simp [execOp, hop, resolve, invoke, builtin, hm, hrun, Result.andThen]
  exact hK' _ _ (hK w' r1 r2)

/-- The first k are all different. -/
def Dist (ks : List ByteArray) (k : Nat) : Prop := ∀ i j, i < j → j < k → ks.getD i nt ≠ ks.getD j nt
def dDist (ks : List ByteArray) (k : Nat) : Decidable (Dist ks k) :=
  @decidable_of_iff _ (∀ j, j < k → ∀ i, i < j → (ks.getD i nt).data ≠ (ks.getD j nt).data) ⟨fun h i j hij hj e => h j hj i hij (by rw [e]), fun h j hj i hij e => h i j hij hj (ByteArray.ext e)⟩ inferInstance
def dist (ks : List ByteArray) : Bool := @decide (Dist ks ks.length) (dDist ks ks.length)
def lit (s : ByteArray) : Lit := .string s.data.toList
theorem lit_inj {a b : ByteArray} (h : lit a = lit b) : a = b := by
  unfold lit at h
  injection h with h
  exact WideShapes.bytes_inj h
/-- The book has the first k keys. -/
def Inv (D : DataW Unit) (ks : List ByteArray) (k : Nat) : Prop :=
  (∀ s, Maps.has D (lit s) = true ↔ ∃ j, j < k ∧ ks.getD j nt = s) ∧ Maps.size D ≤ k ∧ (Maps.size D = k ↔ Dist ks k)
theorem inv_start (ks : List ByteArray) : Inv (.map []) ks 0 := by
  refine ⟨fun s => ⟨fun h => by simp [Maps.has] at h, fun ⟨j, h, _⟩ => absurd h (Nat.not_lt_zero _)⟩, by simp [Maps.size], ⟨fun _ i j _ h => absurd h (Nat.not_lt_zero _), fun _ => by simp [Maps.size]⟩⟩
theorem inv_step {D : DataW Unit} {ks : List ByteArray} {k : Nat} (hD : Tidy D) (h : Inv D ks k) {s : ByteArray} (hs : ks.getD k nt = s) (d : DataW Unit) : Inv (D.put (lit s) d) ks (k + 1) := by
  obtain ⟨h1, h2, h3⟩ := h
  have hkl : WideAt.IsKeyLit (lit s) := by unfold lit; simp [WideAt.IsKeyLit]
  have hsz := size_put (k := lit s) hD d
  refine ⟨fun t => ?_, ?_, ?_⟩
  · by_cases e : t = s
    · subst e
      rw [has_put_same hD.isMap hkl]
      simp
      exact ⟨k, by omega, hs⟩
    · rw [has_put_other (fun x => e (lit_inj x)), h1]
      constructor
      · rintro ⟨j, hj, ej⟩
        exact ⟨j, by omega, ej⟩
      · rintro ⟨j, hj, ej⟩
        by_cases ejk : j = k
        · subst ejk
          exact absurd (ej.symm.trans hs) e
        · exact ⟨j, by omega, ej⟩
  · rw [hsz]
    split <;> omega
  · rw [hsz]
    by_cases hh : Maps.has D (lit s) = true
    · rw [if_pos hh]
      obtain ⟨j, hj, ej⟩ := (h1 s).1 hh
      constructor
      · intro x; omega
      · intro x
        exact absurd (ej.trans hs.symm) (x j k hj (by omega))
    · rw [if_neg hh]
      constructor
      · intro x i j hij hj
        by_cases ejk : j = k
        · subst ejk
          intro y
          exact hh ((h1 s).2 ⟨i, hij, y.trans hs⟩)
        · exact h3.1 (by omega) i j hij (by omega)
      · intro x
        have := h3.2 (fun i j hij hj => x i j hij (by omega))
        omega
theorem dist_eq {D : DataW Unit} {ks : List ByteArray} {k : Nat} (hk : k = ks.length) (h : Inv D ks k) : ((Maps.size D : Int) == (k : Int)) = dist ks := by
  subst hk
  unfold dist
  by_cases e : Maps.size D = ks.length
  · rw [ow.dt (h.2.2.1 e)]
    simp [e]
  · rw [ow.df (fun x => e (h.2.2.2 x))]
    simp
    omega

set_option maxHeartbeats 2000000 in
set_option maxRecDepth 100000 in
theorem learn_any (B n0 N : Nat) (D0 : DataW Unit) (v : Value) (ks : List ByteArray) (w : World) (hown : Own w B n0 D0) (h : TextsIn w N v ks) (hN : N ≤ B) (hs : Smalls ks) :
    Calls Tryd.prog 78 #[.map (some B), v] w fun e w' => e = .returned (.bool (dist ks)) ∧ (∃ n D, Own w' B n D ∧ Inv D ks ks.length) ∧ Below B w w' := by
  obtain ⟨a, cap, rfl, h⟩ := h
  obtain ⟨n, hn⟩ : ∃ n, n = ks.length := ⟨_, rfl⟩
  have HN : Hid (n = ks.length) := hn
  have HH : Hid (ks = [] ∨ ∃ b off, a = some ⟨b, off, none⟩ ∧ b < N ∧ ∀ j, j < ks.length → w.cell? ⟨b, off + j, none⟩ = some (.string (ks.getD j nt))) := h
  have HS : Hid (Smalls ks) := hs
  have hl : n ≤ 1048576 := by rw [hn]; exact hs.1
  rw [← hn]
  clear h hs hn
  go_enter Tryd.func78, Tryd.ntmps78
  go_wp2_with (refine wpList_clear_own rfl _ rfl B n0 D0 rfl hown ?_; intro w1 hown1 hturn1)
  have hb1 : Below B w w1 := (Below.refl _ _).grown hturn1.grown (Nat.le_of_lt hown.lt) (fun j hj => by cases hj; exact Nat.le_refl _)
  clear hturn1 hown
  go_loopw [10] (fun i wr => ∃ (k : Nat) (D : DataW Unit), k ≤ n ∧ i = .int .i64 k ∧ Own wr B k D ∧ Inv D ks k ∧ Below B w wr) (fun i _ => n - (intOf i).toNat)
  case atStart => exact ⟨0, _, Nat.zero_le _, rfl, hown1, inv_start ks, hb1⟩
  case round =>
    clear hown1 hb1
    obtain ⟨k, D, hk, rfl, hown, hinv, hbw⟩ := hrel
    have HI : Hid (Inv D ks k) := hinv
    clear hinv
    by_cases hlt : k < n
    · have hka : k < ks.length := by rw [← HN.out]; exact hlt
      rcases HH.out with e | ⟨b, off, rfl, hbN, hcells⟩
      · rw [e] at hka; simp at hka
      have c0 := (hbw.cell (p := ⟨b, off + k, none⟩) (Nat.lt_of_lt_of_le hbN hN)).trans (hcells k hka)
      have hsz := HS.out.2 k hka
      clear hcells hka
      generalize hx : ks.getD k nt = x at c0 hsz
      have HX : Hid (ks.getD k nt = x) := hx
      clear hx
      have hkey : keyOf Tryd.prog 9 (.string x) = some (lit x) := keyOf_string_mk Tryd.underlying9 (by unfold maxLen; omega)
      have HO : Hid (Own wr B k D) := hown
      have htd := hown.tidy law
      have HT : Hid (Tidy D) := htd
      have HWS : Hid (B ≤ wr.heap.size) := Nat.le_of_lt hown.lt
      clear htd hown
      have hlt' : (k : Int) < (n : Int) := by omega
      go_wp2_with (at_mapUpdate; refine wpList_mapUpdate_own _ rfl _ _ _ 86 rfl 9 3 law Tryd.underlying86 _ B k _ rfl HO.out (by unfold maxLen; omega) _ _ _ rfl rfl hkey _ [] (plainElem_int Tryd.underlying3 (WalkArith.wf_i64 (by omega))) ?_; intro w2 hown2 hgrow2)
      have hbw2 : Below B w w2 := hbw.grown hgrow2 HWS.out (fun j hj => by cases hj; exact Nat.le_refl _)
      clear hgrow2 c0
      go_wp2
      go_roundw
      case rel => exact ⟨k + 1, _, by omega, by go_num, hown2, inv_step HT.out HI.out HX.out _, hbw2⟩
      case measure => simp [intOf]; omega
    · have hkn : k = n := by omega
      subst hkn
      have HD : Hid (((Maps.size D : Int) == (k : Int)) = dist ks) := dist_eq HN.out HI.out
      have HF : Hid (∃ n D, Own wr B n D ∧ Inv D ks k) := ⟨k, D, hown, HI.out⟩
      go_wp2_with (at_len; refine wpList_len_own _ rfl _ 86 rfl 9 3 Tryd.underlying86 _ B k D rfl hown ?_)
      go_wp2
      go_ret
      exact ⟨by rw [← HD.out]; first | rfl | (congr 2; rw [Bool.eq_iff_iff]; simp), HF.out, hbw⟩
end Go.Proofs.YtdnjiagnpaibjaaDoor.bk
