/-
  The contract of the specification's l07Parse: a mail's fields and its body.
-/
import Derived.Test.YtbanjkkbobedhaaDoorPkaf
import Derived.Test.YtbanjkkbobedhaaDoorPkbb
import Derived.Deep.DeepCutAuto
import Derived.Deep.Cut
import Derived.Deep.CutRange
import Derived.BigRegion
import Derived.Deep.RegionHeld
import Derived.Deep.RegionLaw
import Derived.Deep.RegionWith
import Derived.Laws.AppendOwn

namespace Go.Proofs.YtbanjkkbobedhaaDoor.ml
open Go.RowKit
set_option linter.unusedVariables false

def preB (l : B) : Bool := l.take 2 == nl
def endB (l : B) (k : Nat) : Bool := preB (l.drop k) && !((l.drop (k + 2)).head? == some 32)
theorem preB_iff {l : B} : preB l = true ↔ Pre l := by unfold preB Pre; rw [beq_iff_eq]
theorem endB_iff {l : B} {k : Nat} : endB l k = true ↔ EndAt l k := by
  unfold endB EndAt
  rw [Bool.and_eq_true, preB_iff]
  unfold Pre
  simp
theorem preB_ext (s : ByteArray) (k : Nat) : ((s.extract k (k + 2)).toList == [13, 10]) = preB (s.data.toList.drop k) := by
  rw [Lib.toList_data, ext_list, show k + 2 - k = 2 from by omega]
  rfl
theorem preB_short {l : B} {k : Nat} (h : l.length < k + 2) : preB (l.drop k) = false := by
  rw [Bool.eq_false_iff]
  intro e
  have := len_end (preB_iff.1 e)
  omega
theorem head_drop (s : ByteArray) (k : Nat) (h : k < s.size) : (s.data.toList.drop k).head? = some s[k] := by
  rw [drop_at s k h]
  rfl
theorem head_beq (s : ByteArray) (k : Nat) (h : k < s.size) : ((s.data.toList.drop k).head? == some 32) = (((s[k]'h).toNat : Int) == 32) := by
  rw [head_drop s k h, Bool.eq_iff_iff, beq_iff_eq, beq_iff_eq, Option.some.injEq, ← UInt8.toNat_inj]
  show (s[k]).toNat = 32 ↔ _
  omega
theorem end_shift {l : B} {p j : Nat} : EndAt (l.drop p) j ↔ EndAt l (p + j) := by
  unfold EndAt
  rw [List.drop_drop, List.drop_drop, Nat.add_assoc]
/-- A box of another type stays where a row is appended to. -/
theorem box_grown {w w' : World} {g base e size n : Nat} {t : TypeId} {a b v : Value} {xs : List Value} (h : b2.Box w g t a b) (ho : w.ownsRow base e size v n xs) (hne : e ≠ t) (o : Obj) (hg : (w.alloc o).grownBy w' v.ownBlock) : b2.Box w' g t a b := by
  have hlt := h.lt
  have hk : some g ≠ v.ownBlock := by
    rcases ho.2 with ⟨rfl, _⟩ | ⟨k, cap, cur, rfl, hb, hc, _⟩
    · exact fun x => by cases x
    · intro x
      have e : g = k := by simpa [Value.ownBlock] using x
      subst e
      rw [h] at hc
      cases hc
      exact hne rfl
  unfold b2.Box
  rw [hg.block g (by simp; omega) hk, Below.heap_alloc _ _ _ hlt]
  exact h
theorem box_grown0 {w w' : World} {g base e size n : Nat} {t : TypeId} {a b v : Value} {xs : List Value} (h : b2.Box w g t a b) (ho : w.ownsRow base e size v n xs) (hne : e ≠ t) (hg : w.grownBy w' v.ownBlock) : b2.Box w' g t a b := by
  have hk : some g ≠ v.ownBlock := by
    rcases ho.2 with ⟨rfl, _⟩ | ⟨k, cap, cur, rfl, hb, hc, _⟩
    · exact fun x => by cases x
    · intro x
      have e : g = k := by simpa [Value.ownBlock] using x
      subst e
      rw [h] at hc
      cases hc
      exact hne rfl
  unfold b2.Box
  rw [hg.block g h.lt hk]
  exact h
theorem own_put0 {w : World} {g base e size n : Nat} {t : TypeId} {a b v u : Value} {xs : List Value} {j : Nat} (h : b2.Box w g t a b) (hne : e ≠ t) (ho : w.ownsRow base e size v n xs) : (w.setCell ⟨g, j, none⟩ u).ownsRow base e size v n xs := by
  obtain ⟨h1, h2⟩ := ho
  refine ⟨h1, ?_⟩
  rcases h2 with h2 | ⟨k, cap, cur, rfl, hk, hc, hd⟩
  · exact .inl h2
  · have hkg : k ≠ g := by
      intro ee
      subst ee
      rw [h] at hc
      cases hc
      exact hne rfl
    exact .inr ⟨k, cap, cur, rfl, hk, by rw [heap_setCell_other _ _ _ _ hkg]; exact hc, hd⟩

theorem empty_row (w : World) (t : TypeId) (k : Nat) : (w.alloc (.cells #[] t)).ownsRow w.heap.size t k (.slice (some ⟨w.heap.size, 0, none⟩) 0 0) 0 [] := by
  have h1 : (w.alloc (.cells #[] t)).heap[w.heap.size]? = some (.cells #[] t) := by
    show (w.heap.push (.cells #[] t))[w.heap.size]? = _
    simp
  exact ⟨by simp, .inr ⟨_, 0, #[], rfl, Nat.le_refl _, h1, Nat.le_refl _, by simp, by simp, by simp⟩⟩
theorem slice_form {w : World} {base e size n : Nat} {v : Value} {xs : List Value} (h : w.ownsRow base e size v n xs) : ∃ a cap, v = .slice a n cap := by
  rcases h.2 with ⟨rfl, h0⟩ | ⟨g, cap, cur, rfl, _⟩
  · exact ⟨none, 0, by rw [h0]⟩
  · exact ⟨_, cap, rfl⟩
/-- What the specification's parse answers. -/
def SpRet (l : B) (base : Nat) (e : Ending) (w' : World) : Prop :=
  (∃ fs b v, Par F fs l b ∧ fs.length ≤ 40 ∧ e = .returned (.tuple #[MV v b, .bool true]) ∧ FieldsAt w' base v fs) ∨
  ((¬ ∃ fs b, Par F fs l b ∧ fs.length ≤ 40) ∧ ∃ a n c b, e = .returned (.tuple #[.agg #[.slice a n c, .string b], .bool false]))

theorem step_app {P : Program} {ops : Array Oper} {o : Oper} {a : Act} {w : World} {K : Act → World → Prop} {Q : Exit → Act → World → Prop} {E : Prop}
    (hg : o.guard = none) (s x : Operand) (t : TypeId) (hop : o.op = Op.call { callee := Callee.builtin Builtin.append, args := #[s, x], argTypes := #[t, t] }) (ty : TypeId) (hty : o.type = ty)
    (v u : Value) (hs : a.eval s = v) (hx : a.eval x = u) (W0 : World) (hw : w = W0) {v' : Value} {w' : World} (hr : (Builtin.append_ #[t, t] ty #[v, u]).run P W0 = .ok v' w') (hK : K (a.put o.dst v') w') :
    if Region.wanted o (yielded ops a.tmps) = true then Oper.wp P o a w K Q else E := by
  subst hw hty
  have hw : Region.wanted o (yielded ops a.tmps) = true := by simp [Region.wanted, hg]
  rw [if_pos hw]
  unfold Oper.wp
  simp [execOp, hop, resolve, invoke, builtin, hs, hx, hr, Result.andThen]
  exact hK

/-- The state between two fields. -/
def St (w wr : World) (v : Value) (fs : List (B × B)) : Prop :=
  b2.Box wr (w.heap.size + 1 + 1) 31 v (.string ⟨#[]⟩) ∧ b2.Box wr w.heap.size 31 (.slice none 0 0) (.string ⟨#[]⟩) ∧ FieldsAt wr w.heap.size v fs ∧ Below w.heap.size w wr
theorem St.below {w wr W : World} {v : Value} {fs : List (B × B)} (h : St w wr v fs) (hb : Below wr.heap.size wr W) : St w W v fs :=
  ⟨h.1.below hb, h.2.1.below hb, ow.own_below h.2.2.1 hb, h.2.2.2.trans (hb.mono h.2.2.2.size)⟩

end Go.Proofs.YtbanjkkbobedhaaDoor.ml
