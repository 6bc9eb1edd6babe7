/-
  The program's reader of XML: to add a token.
-/
import Derived.Test.YtjncdnnllaoccaaGreatDoorXrf
import Derived.Deep.RegionHeld
import Derived.Deep.RegionLaw
import Derived.Deep.RegionWith
namespace Go.Proofs.YtjncdnnllaoccaaGreatDoor.xd
open Go.RowKit
set_option linter.unusedVariables false

theorem infoTok : (Tryz.prog.info? 34).map (fun i => (i.zero, i.size, i.bytes)) = some (some (.agg #[.int .i64 0, .string ⟨#[]⟩, .slice none 0 0, .string ⟨#[]⟩]), 4, 64) := by kernel_rfl
theorem infoStr : (Tryz.prog.info? 9).map (fun i => (i.zero, i.size, i.bytes)) = some (some (.string ⟨#[]⟩), 1, 16) := by kernel_rfl

/-- What the reader's methods may turn: the reader, and rows of tokens and of names that the reader has made. -/
def Fr (B b : Nat) (w w' : World) : Prop :=
  w'.os = w.os ∧ w'.tape = w.tape ∧ w'.output = w.output ∧ w.heap.size ≤ w'.heap.size ∧
  ∀ k, k < w.heap.size → k ≠ b → (k < B ∨ ∀ cs t fr, w.heap[k]? = some (.cells cs t fr) → t ≠ 34 ∧ t ≠ 9) → w'.heap[k]? = w.heap[k]?
section
variable {B b : Nat} {w w' w'' : World}
theorem Fr.refl (w : World) : Fr B b w w := ⟨rfl, rfl, rfl, Nat.le_refl _, fun _ _ _ _ => rfl⟩
theorem Fr.trans (h : Fr B b w w') (k : Fr B b w' w'') : Fr B b w w'' := by
  obtain ⟨h1, h2, h3, h4, h5⟩ := h
  obtain ⟨k1, k2, k3, k4, k5⟩ := k
  refine ⟨k1.trans h1, k2.trans h2, k3.trans h3, Nat.le_trans h4 k4, fun j hj hb hc => ?_⟩
  have e := h5 j hj hb hc
  exact (k5 j (by omega) hb (by rw [e]; exact hc)).trans e
theorem Fr.grown (hg : w.grownBy w' (some b)) : Fr B b w w' := ⟨hg.os, hg.tape, hg.output, hg.size, fun k hk hb _ => hg.block k hk (by simpa using hb)⟩
theorem Fr.mv {p : Nat} {s : ByteArray} {vT vO : Value} (h : Mv b s p vT vO w w') : Fr B b w w' := Fr.grown h.2
theorem Fr.below (hb : Below w.heap.size w w') : Fr B b w w' := ⟨hb.os, hb.tape, hb.output, hb.size, fun k hk _ _ => hb.block k hk⟩
theorem Fr.row {e n sz : Nat} {v : Value} {xs : List Value} (hown : w.ownsRow B e sz v n xs) (he : e = 34 ∨ e = 9) (hg : w.grownBy w' v.ownBlock) : Fr B b w w' := by
  refine ⟨hg.os, hg.tape, hg.output, hg.size, fun k hk hb hc => hg.block k hk (fun x => ?_)⟩
  rcases hown.2 with ⟨rfl, _⟩ | ⟨g, cap, cur, rfl, hB, hcell, _⟩
  · simp [Value.ownBlock] at x
  · simp [Value.ownBlock] at x
    subst x
    rcases hc with hc | hc
    · omega
    · have := hc _ _ _ hcell
      rcases he with rfl | rfl
      · exact this.1 rfl
      · exact this.2 rfl
end
theorem row_form {w : World} {B e sz n : Nat} {v : Value} {xs : List Value} (h : w.ownsRow B e sz v n xs) : ∃ a cap, v = .slice a n cap := by
  rcases h.2 with ⟨rfl, rfl⟩ | ⟨g, cap, cur, rfl, _⟩
  · exact ⟨_, _, rfl⟩
  · exact ⟨_, _, rfl⟩
theorem row_ne {w : World} {B e sz n b : Nat} {v : Value} {xs : List Value} (h : w.ownsRow B e sz v n xs) (hb : b < B) : some b ≠ v.ownBlock := by
  intro x
  have := ow.own_lt h b x.symm
  omega
theorem row_apart {w w' : World} {B e e' sz sz' n n' : Nat} {v v' : Value} {xs xs' : List Value} (h : w.ownsRow B e sz v n xs) (h' : w.ownsRow B e' sz' v' n' xs') (hne : e ≠ e') (hg : w.grownBy w' v'.ownBlock) : w'.ownsRow B e sz v n xs := by
  refine h.kept hg ?_
  rcases h.2 with ⟨rfl, _⟩ | ⟨g, cap, cur, rfl, _, hc, _⟩
  · exact .inl rfl
  · right
    intro x
    rcases h'.2 with ⟨rfl, _⟩ | ⟨g', cap', cur', rfl, _, hc', _⟩
    · simp [Value.ownBlock] at x
    · simp [Value.ownBlock] at x
      subst x
      rw [hc] at hc'
      simp at hc'
      exact hne hc'.2

theorem step_app {P : Program} {ops : Array Oper} {o : Oper} {a : Act} {w : World} {K : Act → World → Prop} {Q : Exit → Act → World → Prop} {E : Prop}
    (hg : o.guard = none) (s x : Operand) (t : TypeId) (hop : o.op = Op.call { callee := Callee.builtin Builtin.append, args := #[s, x], argTypes := #[t, t] }) (ty : TypeId) (hty : o.type = ty)
    (v u : Value) (hs : a.eval s = v) (hx : a.eval x = u) (W0 : World) (hw : w = W0) {v' : Value} {w' : World} (hr : (Builtin.append_ #[t, t] ty #[v, u]).run P W0 = .ok v' w') (hK : K (a.put o.dst v') w') :
    if Region.wanted o (yielded ops a.tmps) = true then Oper.wp P o a w K Q else E := by
  subst hw hty
  have hw : Region.wanted o (yielded ops a.tmps) = true := by simp [Region.wanted, hg]
  rw [if_pos hw]
  unfold Oper.wp
  simp [execOp, hop, resolve, invoke, builtin, hs, hx, hr, Result.andThen]
  exact hK

set_option maxHeartbeats 4000000 in
set_option maxRecDepth 100000 in
theorem add_yes (B b p n : Nat) (s : ByteArray) (vT vO : Value) (tk ok : List Value) (m : Nat) (w : World) (h : Rb w b s p vT vO) (hT : w.ownsRow B 34 4 vT n tk) (hO : w.ownsRow B 9 1 vO m ok) (hn : n < 600) (hbB : b < B) (hB : B ≤ w.heap.size)
    (k : Int) (nm t : ByteArray) (a : Option Addr) (len cap : Nat) :
    Calls Tryz.prog 105 #[.pointer (some ⟨b, 0, none⟩), .agg #[.int .i64 k, .string nm, .slice a len cap, .string t]] w fun e w' => e = .returned .nilIface ∧ ∃ vT', Rb w' b s p vT' vO ∧ w'.ownsRow B 34 4 vT' (n + 1) (tk ++ [.int .i64 k, .string nm, .slice a len cap, .string t]) ∧ w'.ownsRow B 9 1 vO m ok ∧ Fr B b w w' := by
  obtain ⟨i0, hi, hz0, hz1, hz2⟩ := info_parts infoTok
  obtain ⟨w1, hw1⟩ : ∃ w1, w1 = w.alloc (.cells #[.int .i64 k, .string nm, .slice a len cap, .string t] 34) := ⟨_, rfl⟩
  have b1 : Below w.heap.size w w1 := by rw [hw1]; exact (Below.refl _ _).alloc (Nat.le_refl _) _
  have k1 : w1.heap[w.heap.size]? = some (.cells #[.int .i64 k, .string nm, .slice a len cap, .string t] 34 (0, 0)) := by rw [hw1]; exact (MapKept.heap_alloc w _).1
  have r1 := h.keep b1
  have T1 := ow.own_below hT b1
  have O1 := ow.own_below hO b1
  obtain ⟨W0, hW0⟩ : ∃ W0, W0 = w1.drew.alloc (.cells #[.int .i64 k, .string nm, .slice a len cap, .string t] 34) := ⟨_, rfl⟩
  have b2 : Below w1.heap.size w1 W0 := by rw [hW0]; exact ((Below.refl _ _).drew).alloc (Nat.le_refl _) _
  have T2 := ow.own_below T1 b2
  have O2 := ow.own_below O1 b2
  have r2 := r1.keep b2
  have k2 : W0.heap[w1.heap.size]? = some (.cells #[.int .i64 k, .string nm, .slice a len cap, .string t] 34 (0, 0)) := by rw [hW0]; exact (MapKept.heap_alloc w1.drew _).1
  have hsz : B ≤ W0.heap.size := Nat.le_trans hB (Nat.le_trans b1.size b2.size)
  obtain ⟨v', w3, hr, T3, g3, _⟩ := run_append_own (P := Tryz.prog) W0 B 26 26 34 i0 _ 4 64 Tryz.underlying26 hi hz0 hz1 hz2 rfl (by decide) vT n tk T2 ⟨w1.heap.size, 0, none⟩ 1 1 [.int .i64 k, .string nm, .slice a len cap, .string t] rfl
    (fun j u hj => by
      rw [ow.add_at, cell_of_row W0 _ _ _ _ _ k2]
      simpa using hj)
    (by simp [Value.oneCell']) (by unfold maxLen; omega) (by omega) hsz
  have r3 : Rb w3 b s p vT vO := (g3.block b (by have := r2.lt; exact this) (row_ne T2 hbB)).trans r2
  have O3 := row_apart O2 T2 (by decide) g3
  have F3 : Fr B b w w3 := (Fr.below b1).trans ((Fr.below b2).trans (Fr.row T2 (.inl rfl) g3))
  have R4 : Rb (w3.setCell ⟨b, 2, none⟩ v') b s p v' vO := heap_setCell_same w3 b 2 _ _ _ r3
  have g4 := grown_at w3 b 2 v'
  have keep4 : ∀ {e sz n : Nat} {v : Value} {xs : List Value}, w3.ownsRow B e sz v n xs → (w3.setCell ⟨b, 2, none⟩ v').ownsRow B e sz v n xs := fun ho => ho.kept g4 (.inr (fun x => row_ne ho hbB x.symm))
  have FIN : Hid (∃ vT', Rb (w3.setCell ⟨b, 2, none⟩ v') b s p vT' vO ∧ (w3.setCell ⟨b, 2, none⟩ v').ownsRow B 34 4 vT' (n + 1) (tk ++ [.int .i64 k, .string nm, .slice a len cap, .string t]) ∧ (w3.setCell ⟨b, 2, none⟩ v').ownsRow B 9 1 vO m ok ∧ Fr B b w (w3.setCell ⟨b, 2, none⟩ v')) :=
    ⟨v', R4, keep4 T3, keep4 O3, F3.trans (Fr.grown g4)⟩
  obtain ⟨aT, capT, rfl⟩ := row_form hT
  obtain ⟨aN, capN, rfl⟩ := row_form T3
  have cw2 := h.c2
  have hbl := h.lt
  have hbne : ¬ b = w.heap.size := by omega
  have c2 := r1.c2
  have e2 : (w1.alloc (.cells #[.int .i64 k, .string nm, .slice a len cap, .string t] 34)).cell? ⟨b, 0 + 2, none⟩ = some (.slice aT n capT) := ((Below.refl _ w1).alloc (Nat.le_refl _) _).cell (p := ⟨b, 0 + 2, none⟩) r1.lt |>.trans r1.c2
  have hb1 : b < w1.heap.size := r1.lt
  have hbn1 : ¬ b = w1.heap.size := by omega
  have d2 := r3.c2
  have f2 := r3.f 2
  have q0 : w1.cell? ⟨w.heap.size, 0, none⟩ = some (.int .i64 k) := by rw [cell_of_row w1 _ _ _ _ _ k1]; rfl
  have q1 : w1.cell? ⟨w.heap.size, 0 + 1, none⟩ = some (.string nm) := by rw [cell_of_row w1 _ _ _ _ _ k1]; rfl
  have q2 : w1.cell? ⟨w.heap.size, 0 + 2, none⟩ = some (.slice a len cap) := by rw [cell_of_row w1 _ _ _ _ _ k1]; rfl
  have q3 : w1.cell? ⟨w.heap.size, 0 + 3, none⟩ = some (.string t) := by rw [cell_of_row w1 _ _ _ _ _ k1]; rfl
  have hne : ((n : Int) == 600) = false := beq_eq_false_iff_ne.2 (by omega)
  have HR : Hid ((Builtin.append_ #[26, 26] 26 #[.slice aT n capT, .slice (some ⟨w1.heap.size, 0, none⟩) 1 1]).run Tryz.prog W0 = .ok (.slice aN (n + 1) capN) w3) := hr
  have HW0 : Hid (W0 = w1.drew.alloc (.cells #[.int .i64 k, .string nm, .slice a len cap, .string t] 34)) := hW0
  clear hr g3 r3 O3 F3 R4 g4 keep4 T3 T2 O2 r2 k2 b2 T1 O1 r1 k1 b1 hT hO h hsz hW0
  go_enter Tryz.func105, Tryz.ntmps105
  go_wp2_with fail
  rw [← hw1]
  clear hw1
  go_region_law (refine step_app rfl (.tmp 21) (.tmp 23) 26 rfl 26 rfl (.slice aT n capT) (.slice (some ⟨w1.heap.size, 0, none⟩) 1 1) rfl rfl W0 HW0.out.symm HR.out ?_)
  all_goals (try go_wp2)
  all_goals (go_ret; exact ⟨rfl, FIN.out⟩)
end Go.Proofs.YtjncdnnllaoccaaGreatDoor.xd
