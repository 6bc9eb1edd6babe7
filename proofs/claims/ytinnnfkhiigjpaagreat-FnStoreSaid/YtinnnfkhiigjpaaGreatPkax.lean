/-
  What a mutation keeps: names, numbers, keys, and what each uid's mail is.
-/
import Derived.Test.YtinnnfkhiigjpaaGreatPkaw

namespace Go.Proofs.YtinnnfkhiigjpaaGreat.kp
open Go.RowKit
open bx bl sa wi
open st (St noS Rising)
set_option linter.unusedVariables false

/-- A box keeps what another had. -/
structure KB (x y : Bx) : Prop where
  nm : x.nm = y.nm
  vd : x.vd = y.vd
  nx : x.nx ≤ y.nx
  ks : x.ks <+: y.ks
  ms : ∀ m ∈ y.ms, (∀ s ∈ x.ms, s.u = m.u → s.t = m.t) ∧ (m.u < x.nx → ∃ s ∈ x.ms, s.u = m.u)
/-- No uid twice, all below the next. -/
def U (x : Bx) : Prop := (∀ s ∈ x.ms, ∀ s' ∈ x.ms, s.u = s'.u → s = s') ∧ ∀ s ∈ x.ms, s.u < x.nx
theorem u_of {x : Bx} (h : bok x = true) : U x := by
  obtain ⟨_, _, _, ⟨_, hm⟩, _⟩ := bok_iff.1 h
  have hr := st.rising_of hm
  have at_ : ∀ s ∈ x.ms, ∃ j, j < x.ms.length ∧ x.ms.getD j noS = s := by
    intro s hs
    obtain ⟨j, hj, rfl⟩ := List.getElem_of_mem hs
    exact ⟨j, hj, by simp [List.getD_eq_getElem?_getD, hj]⟩
  refine ⟨fun s hs s' hs' e => ?_, fun s hs => ?_⟩
  · obtain ⟨j, hj, rfl⟩ := at_ s hs
    obtain ⟨i, hi, rfl⟩ := at_ s' hs'
    rcases Nat.lt_trichotomy i j with h1 | h1 | h1
    · have := hr i j h1 hj; omega
    · rw [h1]
    · have := hr j i h1 hi; omega
  · obtain ⟨j, hj, rfl⟩ := at_ s hs
    exact (hm j hj).2.1
theorem KB.refl {x : Bx} (h : U x) : KB x x := ⟨rfl, rfl, Int.le_refl _, List.prefix_refl _, fun m hm => ⟨fun s hs e => by rw [h.1 s hs m hm e], fun _ => ⟨m, hm, rfl⟩⟩⟩
theorem KB.trans {x y z : Bx} (hx : U x) (h1 : KB x y) (h2 : KB y z) : KB x z := by
  have q1 := h1.nx
  have q2 := h2.nx
  refine ⟨h1.nm.trans h2.nm, h1.vd.trans h2.vd, by omega, h1.ks.trans h2.ks, fun m hm => ⟨fun s hs e => ?_, fun e => ?_⟩⟩
  · have := hx.2 s hs
    obtain ⟨s', hs', e'⟩ := (h2.ms m hm).2 (by omega)
    exact ((h1.ms s' hs').1 s hs (e.trans e'.symm)).trans ((h2.ms m hm).1 s' hs' e')
  · obtain ⟨s', hs', e'⟩ := (h2.ms m hm).2 (by omega)
    obtain ⟨s, hs, e2⟩ := (h1.ms s' hs').2 (by omega)
    exact ⟨s, hs, e2.trans e'⟩
theorem kb_addI {x : Bx} (hx : U x) (i : it.Pr) : KB x (addI x i) ∧ U (addI x i) := by
  refine ⟨⟨rfl, rfl, by show x.nx ≤ x.nx + 1; omega, List.prefix_append _ _, fun m hm => ?_⟩, fun s hs s' hs' e => ?_, fun s hs => ?_⟩
  · rcases List.mem_append.1 hm with h | h
    · exact (KB.refl hx).ms m h
    · rw [List.mem_singleton] at h
      subst h
      exact ⟨fun s hs e => by have := hx.2 s hs; have e : s.u = x.nx := e; omega, fun e => by have e : x.nx < x.nx := e; omega⟩
  · rcases List.mem_append.1 hs with h | h <;> rcases List.mem_append.1 hs' with h' | h'
    · exact hx.1 s h s' h' e
    · rw [List.mem_singleton] at h'
      subst h'
      have := hx.2 s h
      have e : s.u = x.nx := e
      omega
    · rw [List.mem_singleton] at h
      subst h
      have := hx.2 s' h'
      have e : x.nx = s'.u := e
      omega
    · rw [List.mem_singleton] at h h'
      rw [h, h']
  · rcases List.mem_append.1 hs with h | h
    · have := hx.2 s h
      show s.u < x.nx + 1
      omega
    · rw [List.mem_singleton] at h
      subst h
      show x.nx < x.nx + 1
      omega
theorem kb_add : ∀ (ps : List it.Pr) (b y : Bx), U b → add b ps = (y, 0) → KB b y
  | [], b, y, hb, h => by
    have : b = y := congrArg Prod.fst h
    subst this
    exact KB.refl hb
  | i :: r, b, y, hb, h => by
    rw [add] at h
    split at h
    · exact absurd (congrArg Prod.snd h) (fun e => by simp at e)
    · split at h
      · exact absurd (congrArg Prod.snd h) (fun e => by simp at e)
      · split at h
        · exact absurd (congrArg Prod.snd h) (fun e => by simp at e)
        · exact KB.trans hb (kb_addI hb i).1 (kb_add r _ y (kb_addI hb i).2 h)
theorem kb_rk {b y : Bx} {m : mu.Mu} (hb : U b) (h : Rk b m y 0) : KB b y := by
  rcases h with ⟨_, h⟩ | ⟨_, h⟩ | ⟨_, _, rfl⟩
  · exact kb_add _ _ _ hb h
  · rcases h with ⟨i, hi, hu, rfl, _⟩ | ⟨_, _, h0⟩
    · refine ⟨rfl, rfl, Int.le_refl _, List.prefix_refl _, fun s hs => ?_⟩
      have key : ∃ s0 ∈ b.ms, s0.u = s.u ∧ s0.t = s.t := by
        have hs : s ∈ setF b.ms i (flg m.m (b.ms.getD i noS).f m.f) := hs
        unfold setF at hs
        rcases List.mem_or_eq_of_mem_set hs with h | h
        · exact ⟨s, h, rfl, rfl⟩
        · exact ⟨b.ms.getD i noS, mem_getD hi, by rw [h], by rw [h]⟩
      obtain ⟨s0, h0, e1, e2⟩ := key
      exact ⟨fun s' hs' e => by rw [← e2, hb.1 s' hs' s0 h0 (by omega)], fun _ => ⟨s0, h0, e1⟩⟩
    · exact absurd h0 (by decide)
  · refine ⟨rfl, rfl, Int.le_refl _, List.prefix_refl _, fun s hs => ?_⟩
    have hs : s ∈ kept b.ms := hs
    exact (KB.refl hb).ms s ((List.mem_filter.1 hs).1)
/-- A list of boxes keeps what another had. -/
def KP (xs ys : List Bx) : Prop := xs.length ≤ ys.length ∧ ∀ j, j < xs.length → KB (xs.getD j noB) (ys.getD j noB)
theorem kp_refl {xs : List Bx} (h : sok xs = true) : KP xs xs := ⟨Nat.le_refl _, fun j hj => KB.refl (u_of ((sok_of h).2 j hj).1)⟩
theorem kp_am {xs ys : List Bx} {m : mu.Mu} {c : Int} (hs : sok xs = true) (h : Am xs m ys c) : KP xs ys ∧ (c ≠ 0 → ys = xs) := by
  rcases h with ⟨_, h⟩ | ⟨_, _, rfl, hc⟩ | ⟨_, k, hk, _, y, hR, hc⟩
  · rcases h with ⟨_, rfl, _⟩ | ⟨_, _, rfl, _⟩ | ⟨_, _, rfl, hc⟩
    · exact ⟨kp_refl hs, fun _ => rfl⟩
    · exact ⟨kp_refl hs, fun _ => rfl⟩
    · refine ⟨⟨by simp, fun j hj => ?_⟩, fun h => absurd hc h⟩
      rw [List.getD_eq_getElem?_getD (l := xs ++ _), List.getElem?_append_left hj, ← List.getD_eq_getElem?_getD]
      exact (kp_refl hs).2 j hj
  · exact ⟨kp_refl hs, fun _ => rfl⟩
  · rcases hc with ⟨c0, rfl⟩ | ⟨_, rfl⟩
    · subst c0
      refine ⟨⟨by simp, fun j hj => ?_⟩, fun h => absurd rfl h⟩
      rw [getD_set' hk]
      by_cases e : j = k
      · rw [if_pos e, e]
        exact kb_rk (u_of ((sok_of hs).2 k hk).1) hR
      · rw [if_neg e]
        exact (kp_refl hs).2 j hj
    · exact ⟨kp_refl hs, fun _ => rfl⟩
end Go.Proofs.YtinnnfkhiigjpaaGreat.kp
