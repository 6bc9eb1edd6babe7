/-
  The contract of the specification's l07Parse: a mail's fields and its body.
  The contracts of the specification's ParseMail and of both MailLines functions.
  The laws' own marks: the text of a number; rows of texts, and of entries, marked, and held against the marks.
  Fields as rows of pairs of texts: read by the law's own measure, copy and comparison.
-/
import Derived.Test.YtbokolpjdaamiaaGreatDoorPkaf
import Derived.Test.YtbokolpjdaamiaaGreatDoorPkba
import Derived.Deep.DeepCutAuto
import Derived.Deep.Cut
import Derived.Deep.CutRange
import Derived.BigRegion
import Derived.Deep.RegionHeld
import Derived.Deep.RegionLaw
import Derived.Deep.RegionWith
import Derived.Laws.AppendOwn
import Derived.Test.YtbokolpjdaamiaaGreatDoorPkae
import Derived.Test.YtbokolpjdaamiaaGreatDoorRows
import Derived.WalkKit
import Derived.WalkLawsBesides
import Derived.Below

namespace Go.Proofs.YtbokolpjdaamiaaGreatDoor.ml
open Go.RowKit
set_option linter.unusedVariables false

def preB (l : B) : Bool := l.take 2 == nl
def endB (l : B) (k : Nat) : Bool := preB (l.drop k) && !((l.drop (k + 2)).head? == some 32)
theorem preB_iff {l : B} : preB l = true ↔ Pre l := by unfold preB Pre; rw [beq_iff_eq]
theorem endB_iff {l : B} {k : Nat} : endB l k = true ↔ EndAt l k := by
  unfold endB EndAt
  rw [Bool.and_eq_true, preB_iff]
  unfold Pre
  simp
theorem preB_ext (s : ByteArray) (k : Nat) : ((s.extract k (k + 2)).toList == [13, 10]) = preB (s.data.toList.drop k) := by
  rw [Lib.toList_data, ext_list, show k + 2 - k = 2 from by omega]
  rfl
theorem preB_short {l : B} {k : Nat} (h : l.length < k + 2) : preB (l.drop k) = false := by
  rw [Bool.eq_false_iff]
  intro e
  have := len_end (preB_iff.1 e)
  omega
theorem head_drop (s : ByteArray) (k : Nat) (h : k < s.size) : (s.data.toList.drop k).head? = some s[k] := by
  rw [drop_at s k h]
  rfl
theorem head_beq (s : ByteArray) (k : Nat) (h : k < s.size) : ((s.data.toList.drop k).head? == some 32) = (((s[k]'h).toNat : Int) == 32) := by
  rw [head_drop s k h, Bool.eq_iff_iff, beq_iff_eq, beq_iff_eq, Option.some.injEq, ← UInt8.toNat_inj]
  show (s[k]).toNat = 32 ↔ _
  omega
theorem end_shift {l : B} {p j : Nat} : EndAt (l.drop p) j ↔ EndAt l (p + j) := by
  unfold EndAt
  rw [List.drop_drop, List.drop_drop, Nat.add_assoc]
/-- A box of another type stays where a row is appended to. -/
theorem box_grown {w w' : World} {g base e size n : Nat} {t : TypeId} {a b v : Value} {xs : List Value} (h : b2.Box w g t a b) (ho : w.ownsRow base e size v n xs) (hne : e ≠ t) (o : Obj) (hg : (w.alloc o).grownBy w' v.ownBlock) : b2.Box w' g t a b := by
  have hlt := h.lt
  have hk : some g ≠ v.ownBlock := by
    rcases ho.2 with ⟨rfl, _⟩ | ⟨k, cap, cur, rfl, hb, hc, _⟩
    · exact fun x => by cases x
    · intro x
      have e : g = k := by simpa [Value.ownBlock] using x
      subst e
      rw [h] at hc
      cases hc
      exact hne rfl
  unfold b2.Box
  rw [hg.block g (by simp; omega) hk, Below.heap_alloc _ _ _ hlt]
  exact h
theorem box_grown0 {w w' : World} {g base e size n : Nat} {t : TypeId} {a b v : Value} {xs : List Value} (h : b2.Box w g t a b) (ho : w.ownsRow base e size v n xs) (hne : e ≠ t) (hg : w.grownBy w' v.ownBlock) : b2.Box w' g t a b := by
  have hk : some g ≠ v.ownBlock := by
    rcases ho.2 with ⟨rfl, _⟩ | ⟨k, cap, cur, rfl, hb, hc, _⟩
    · exact fun x => by cases x
    · intro x
      have e : g = k := by simpa [Value.ownBlock] using x
      subst e
      rw [h] at hc
      cases hc
      exact hne rfl
  unfold b2.Box
  rw [hg.block g h.lt hk]
  exact h
theorem own_put0 {w : World} {g base e size n : Nat} {t : TypeId} {a b v u : Value} {xs : List Value} {j : Nat} (h : b2.Box w g t a b) (hne : e ≠ t) (ho : w.ownsRow base e size v n xs) : (w.setCell ⟨g, j, none⟩ u).ownsRow base e size v n xs := by
  obtain ⟨h1, h2⟩ := ho
  refine ⟨h1, ?_⟩
  rcases h2 with h2 | ⟨k, cap, cur, rfl, hk, hc, hd⟩
  · exact .inl h2
  · have hkg : k ≠ g := by
      intro ee
      subst ee
      rw [h] at hc
      cases hc
      exact hne rfl
    exact .inr ⟨k, cap, cur, rfl, hk, by rw [heap_setCell_other _ _ _ _ hkg]; exact hc, hd⟩

theorem empty_row (w : World) (t : TypeId) (k : Nat) : (w.alloc (.cells #[] t)).ownsRow w.heap.size t k (.slice (some ⟨w.heap.size, 0, none⟩) 0 0) 0 [] := by
  have h1 : (w.alloc (.cells #[] t)).heap[w.heap.size]? = some (.cells #[] t) := by
    show (w.heap.push (.cells #[] t))[w.heap.size]? = _
    simp
  exact ⟨by simp, .inr ⟨_, 0, #[], rfl, Nat.le_refl _, h1, Nat.le_refl _, by simp, by simp, by simp⟩⟩
theorem slice_form {w : World} {base e size n : Nat} {v : Value} {xs : List Value} (h : w.ownsRow base e size v n xs) : ∃ a cap, v = .slice a n cap := by
  rcases h.2 with ⟨rfl, h0⟩ | ⟨g, cap, cur, rfl, _⟩
  · exact ⟨none, 0, by rw [h0]⟩
  · exact ⟨_, cap, rfl⟩
/-- What the specification's parse answers. -/
def SpRet (l : B) (base : Nat) (e : Ending) (w' : World) : Prop :=
  (∃ fs b v, Par F fs l b ∧ fs.length ≤ 40 ∧ e = .returned (.tuple #[MV v b, .bool true]) ∧ FieldsAt w' base v fs) ∨
  ((¬ ∃ fs b, Par F fs l b ∧ fs.length ≤ 40) ∧ ∃ a n c b, e = .returned (.tuple #[.agg #[.slice a n c, .string b], .bool false]))

theorem step_app {P : Program} {ops : Array Oper} {o : Oper} {a : Act} {w : World} {K : Act → World → Prop} {Q : Exit → Act → World → Prop} {E : Prop}
    (hg : o.guard = none) (s x : Operand) (t : TypeId) (hop : o.op = Op.call { callee := Callee.builtin Builtin.append, args := #[s, x], argTypes := #[t, t] }) (ty : TypeId) (hty : o.type = ty)
    (v u : Value) (hs : a.eval s = v) (hx : a.eval x = u) (W0 : World) (hw : w = W0) {v' : Value} {w' : World} (hr : (Builtin.append_ #[t, t] ty #[v, u]).run P W0 = .ok v' w') (hK : K (a.put o.dst v') w') :
    if Region.wanted o (yielded ops a.tmps) = true then Oper.wp P o a w K Q else E := by
  subst hw hty
  have hw : Region.wanted o (yielded ops a.tmps) = true := by simp [Region.wanted, hg]
  rw [if_pos hw]
  unfold Oper.wp
  simp [execOp, hop, resolve, invoke, builtin, hs, hx, hr, Result.andThen]
  exact hK

/-- The state between two fields. -/
def St (w wr : World) (v : Value) (fs : List (B × B)) : Prop :=
  b2.Box wr (w.heap.size + 1 + 1) 100 v (.string ⟨#[]⟩) ∧ b2.Box wr w.heap.size 100 (.slice none 0 0) (.string ⟨#[]⟩) ∧ FieldsAt wr w.heap.size v fs ∧ Below w.heap.size w wr
theorem St.below {w wr W : World} {v : Value} {fs : List (B × B)} (h : St w wr v fs) (hb : Below wr.heap.size wr W) : St w W v fs :=
  ⟨h.1.below hb, h.2.1.below hb, ow.own_below h.2.2.1 hb, h.2.2.2.trans (hb.mono h.2.2.2.size)⟩

set_option maxHeartbeats 8000000 in
set_option maxRecDepth 100000 in
theorem specParse_any (s : ByteArray) (w : World) (hs : s.size ≤ 1048576) :
    Calls Tryz.prog 87 #[.string s] w fun e w' => SpRet s.data.toList w.heap.size e w' ∧ Below w.heap.size w w' := by
  obtain ⟨i0, hi, hz0, hz1, hz2⟩ := info_parts infoField
  have hs' : (s.size : Int) ≤ 1048576 := by omega
  go_enter Tryz.func87, Tryz.ntmps87
  go_wp2
  go_loopw [5] (fun i wr => ∃ (p : Nat) (fs : List (B × B)) (v : Value), i = .int .i64 p ∧ p ≤ s.size ∧ St w wr v fs ∧ fs.length ≤ 40 ∧ Run F fs s.data.toList (s.data.toList.drop p)) (fun i _ => s.size - (intOf i).toNat)
  case atStart =>
    have hz1 : (w.alloc (.cells #[.slice none 0 0, .string ⟨#[]⟩] 100)).heap.size = w.heap.size + 1 := by simp
    refine ⟨0, [], .slice (some ⟨w.heap.size + 1, 0, none⟩) 0 0, rfl, Nat.zero_le _, ⟨?_, ?_, ?_, ?_⟩, by simp, rfl⟩
    · have := b2.new ((w.alloc (.cells #[.slice none 0 0, .string ⟨#[]⟩] 100)).alloc (.cells #[] 123)) 100 (.slice (some ⟨w.heap.size + 1, 0, none⟩) 0 0) (.string ⟨#[]⟩)
      simpa using this
    · exact ((b2.new w 100 (.slice none 0 0) (.string ⟨#[]⟩)).below ((Below.refl _ _).alloc (Nat.le_refl _) _)).below ((Below.refl _ _).alloc (Nat.le_refl _) _)
    · have h1 := empty_row (w.alloc (.cells #[.slice none 0 0, .string ⟨#[]⟩] 100)) 123 2
      rw [hz1] at h1
      exact ow.own_base (ow.own_below h1 ((Below.refl _ _).alloc (Nat.le_refl _) _)) (Nat.le_succ _)
    · exact (((Below.refl _ w).alloc (Nat.le_refl _) _).alloc (by simp) _).alloc (by simp; omega) _
  case round =>
    obtain ⟨p, fs, v, rfl, hp, hst, hfl, hrun⟩ := hrel
    have HST : Hid (St w wr v fs) := hst
    have HRUN : Hid (Run F fs s.data.toList (s.data.toList.drop p)) := hrun
    obtain ⟨a, cap, rfl⟩ := fields_form hst.2.2.1
    have hlen : s.data.toList.length = s.size := (Lib.size_eq s).symm
    have HLEN : Hid (s.data.toList.length = s.size) := hlen
    have hsz := hst.2.2.2.size
    have hp0 : (0 : Int) ≤ (p : Int) := by omega
    have hp1 : (p : Int) ≤ (s.size : Int) := by omega
    clear hst hrun hlen
    go_upto_region 3 with fail
    go_cut [24] (fun t wx => t = .bool (preB (s.data.toList.drop p)) ∧ wx = wr)
    case first =>
      by_cases h2 : p + 2 ≤ s.size
      · have h2' : (p : Int) + 2 ≤ (s.size : Int) := by omega
        have h2d : decide ((p : Int) + 2 ≤ (s.size : Int)) = true := decide_eq_true h2'
        have hsl := ow.slice_str (P := Tryz.prog) 9 s .i64 .i64 p (p + 2) Tryz.underlying9 (p : Int) ((p : Int) + 2) rfl (by omega) (by omega) h2
        have hx := preB_ext s p
        obtain ⟨X, hX⟩ : ∃ X, X = preB (s.data.toList.drop p) := ⟨_, rfl⟩
        rw [← hX] at hx
        have HX : Hid (X = preB (s.data.toList.drop p)) := hX
        clear hX
        go_wp2_with fail
        go_meet
        exact ⟨by rw [HX.out], rfl⟩
      · have h2d : decide ((p : Int) + 2 ≤ (s.size : Int)) = false := decide_eq_false (by omega)
        have HX : Hid (preB (s.data.toList.drop p) = false) := (show preB _ = false from preB_short (by rw [HLEN.out]; omega))
        go_wp2_with fail
        go_meet
        exact ⟨by rw [HX.out], rfl⟩
    case rest =>
      obtain ⟨rfl, rfl⟩ := hcut
      go_at_K
      cases hpb : preB (s.data.toList.drop p) with
      | true =>
        have HPB : Hid (Pre (s.data.toList.drop p)) := preB_iff.1 hpb
        clear hpb
        have hp2 : p + 2 ≤ s.size := by have := len_end (k := p) HPB.out; rw [HLEN.out] at this; exact this
        have hp2' : (p : Int) + 2 ≤ (s.size : Int) := by omega
        have c0 := HST.out.1.c0
        have c1 := HST.out.1.c1
        have f1 := HST.out.1.f 1
        go_upto_region 5 with fail
        have L1 := HST.out.1.put1 (.string (s.extract (p + 2) s.size))
        have r1 : b2.Box (wc.setCell ⟨w.heap.size + 1 + 1, 1, none⟩ (.string (s.extract (p + 2) s.size))) w.heap.size 100 (.slice none 0 0) (.string ⟨#[]⟩) := (heap_setCell_other _ _ _ _ (show w.heap.size ≠ w.heap.size + 1 + 1 by omega)).trans HST.out.2.1
        have o1 : FieldsAt (wc.setCell ⟨w.heap.size + 1 + 1, 1, none⟩ (.string (s.extract (p + 2) s.size))) w.heap.size (.slice a fs.length cap) fs := own_put0 HST.out.1 (by decide) HST.out.2.2.1
        have bb1 : Below w.heap.size w (wc.setCell ⟨w.heap.size + 1 + 1, 1, none⟩ (.string (s.extract (p + 2) s.size))) := HST.out.2.2.2.setCell (p := ⟨w.heap.size + 1 + 1, 1, none⟩) (show w.heap.size ≤ w.heap.size + 1 + 1 by omega) _
        clear c0 c1 f1
        generalize hX : World.setCell _ _ _ = X at L1 r1 o1 bb1 ⊢
        clear hX
        have c0 := L1.c0
        have c1 := L1.c1
        have e0 := r1.c0
        have e1 := r1.c1
        have g0 := r1.f 0
        have g1 := r1.f 1
        have HO : Hid (FieldsAt X w.heap.size (.slice a fs.length cap) fs) := o1
        have HR1 : Hid (b2.Box X w.heap.size 100 (.slice none 0 0) (.string ⟨#[]⟩)) := r1
        have HBB : Hid (Below w.heap.size w X) := bb1
        clear L1 r1 o1 bb1
        generalize hln : fs.length = ln at *
        go_wp2
        have L2 := HR1.out.put (a' := .slice a ln cap) (b' := .string (s.extract (p + 2) s.size))
        have b3 := b2.put_below (a := .slice a ln cap) (b := .string (s.extract (p + 2) s.size)) HBB.out (Nat.le_refl _)
        have o3 : FieldsAt (b2.put X w.heap.size (.slice a ln cap) (.string (s.extract (p + 2) s.size))) w.heap.size (.slice a ln cap) fs := b2.own_put HR1.out (by decide) HO.out
        clear c0 c1 e0 e1 g0 g1
        unfold b2.put at L2 b3 o3
        generalize hY : World.setCell _ _ _ = Y at L2 b3 o3 ⊢
        clear hY
        have c0 := L2.c0
        have c1 := L2.c1
        have eb : tv (s.data.toList.drop (p + 2)) = .string (s.extract (p + 2) s.size) := by
          unfold tv
          rw [← ext_tail, ← mk_list]
        have HPA : Hid (Par F fs s.data.toList (s.data.toList.drop (p + 2))) := (show Par _ _ _ _ from ⟨_, HRUN.out, HPB.out, by rw [List.drop_drop]⟩)
        refine bodyPost_ret (v := .tuple #[MV (.slice a ln cap) (s.data.toList.drop (p + 2)), .bool true]) (by simp [results, Tryz.results87, go_sem, MV, eb, c0, c1]) rfl ⟨.inl ⟨fs, _, _, HPA.out, by omega, rfl, o3⟩, b3⟩
      | false =>
        have HNP : Hid (¬ Pre (s.data.toList.drop p)) := (show ¬ _ from fun h => by rw [preB_iff.2 h] at hpb; cases hpb)
        clear hpb
        go_wp2_with fail
        go_loop [6] (fun q => ∃ k : Nat, q = .int .i64 k ∧ p ≤ k ∧ k ≤ s.size ∧ ∀ j, p ≤ j → j < k → ¬ EndAt s.data.toList j) (fun q => s.size - (intOf q).toNat)
        case atStart => exact ⟨p, rfl, Nat.le_refl _, hp, fun j h1 h2 => by omega⟩
        case round =>
          obtain ⟨k, rfl, hpk, hks, hno⟩ := hrel
          have HNO : Hid (∀ j, p ≤ j → j < k → ¬ EndAt s.data.toList j) := hno
          clear hno
          obtain ⟨E, hE⟩ : ∃ E, E = endB s.data.toList k := ⟨_, rfl⟩
          have HE : Hid (E = endB s.data.toList k) := hE
          clear hE
          go_upto_region 7 with fail
          go_cut [59] (fun t wx => t = .bool (decide (k + 1 < s.size) && !E) ∧ wx = wc)
          case first =>
            by_cases h1 : k + 1 < s.size
            · have h1' : (k : Int) + 1 < (s.size : Int) := by omega
              have h1d : decide ((k : Int) + 1 < (s.size : Int)) = true := decide_eq_true h1'
              have hsl := ow.slice_str (P := Tryz.prog) 9 s .i64 .i64 k (k + 2) Tryz.underlying9 (k : Int) ((k : Int) + 2) rfl (by omega) (by omega) (by omega)
              have hx := preB_ext s k
              obtain ⟨X, hX⟩ : ∃ X, X = preB (s.data.toList.drop k) := ⟨_, rfl⟩
              rw [← hX] at hx
              have hEX : E = (X && !((s.data.toList.drop (k + 2)).head? == some 32)) := by rw [HE.out, hX]; rfl
              clear hX
              cases X with
              | false =>
                have HR : Hid ((decide (k + 1 < s.size) && !E) = true) := (show _ = _ by rw [hEX, decide_eq_true h1]; rfl)
                clear hEX
                go_wp2_with fail
                go_meet
                exact ⟨by rw [HR.out], rfl⟩
              | true =>
                by_cases h2 : k + 2 = s.size
                · have h2d : (((k : Int) + 2) == (s.size : Int)) = true := beq_iff_eq.2 (by omega)
                  have HR : Hid ((decide (k + 1 < s.size) && !E) = false) := (show _ = _ by rw [hEX, decide_eq_true h1, drop_end s (k + 2) (by omega)]; rfl)
                  clear hEX h2
                  go_wp2_with fail
                  go_meet
                  exact ⟨by rw [HR.out], rfl⟩
                · have h2d : (((k : Int) + 2) == (s.size : Int)) = false := beq_eq_false_iff_ne.2 (by omega)
                  have h3 : k + 2 < s.size := by omega
                  have h3' : (k : Int) + 2 < (s.size : Int) := by omega
                  rw [head_beq s (k + 2) h3] at hEX
                  by_cases h32 : ((s[k + 2]'h3).toNat : Int) = 32
                  · have d32 : (((s[k + 2]'h3).toNat : Int) != 32) = false := by simp [h32]
                    have HR : Hid ((decide (k + 1 < s.size) && !E) = true) := (show _ = _ by rw [hEX, decide_eq_true h1, h32]; rfl)
                    clear hEX h32
                    go_wp2_with fail
                    go_meet
                    exact ⟨by rw [HR.out], rfl⟩
                  · have d32 : (((s[k + 2]'h3).toNat : Int) != 32) = true := by simp [h32]
                    have HR : Hid ((decide (k + 1 < s.size) && !E) = false) := (show _ = _ by rw [hEX, decide_eq_true h1, beq_eq_false_iff_ne.2 h32]; rfl)
                    clear hEX h32
                    go_wp2_with fail
                    go_meet
                    exact ⟨by rw [HR.out], rfl⟩
            · have h1d : decide ((k : Int) + 1 < (s.size : Int)) = false := decide_eq_false (by omega)
              have HR : Hid ((decide (k + 1 < s.size) && !E) = false) := (show _ = _ by rw [decide_eq_false h1]; rfl)
              go_wp2_with fail
              go_meet
              exact ⟨by rw [HR.out], rfl⟩
          case rest =>
            obtain ⟨rfl, rfl⟩ := hcut
            go_at_K
            cases hgo : (decide (k + 1 < s.size) && !E) with
            | true =>
              rw [Bool.and_eq_true, decide_eq_true_iff] at hgo
              have HNE : Hid (¬ EndAt s.data.toList k) := (show ¬ _ from fun h => by have := hgo.2; rw [HE.out, endB_iff.2 h] at this; cases this)
              have hk1 : k + 1 < s.size := hgo.1
              clear hgo
              go_wp2
              go_round
              case rel => exact ⟨k + 1, by go_num, by omega, by omega, fun j h1 h2 => by
                by_cases e : j = k
                · subst e; exact HNE.out
                · exact HNO.out j h1 (by omega)⟩
              case measure => simp [intOf]; omega
            | false =>
              have HSTOP : Hid (k + 1 < s.size → EndAt s.data.toList k) := fun h => by
                rw [decide_eq_true h, Bool.true_and] at hgo
                apply endB_iff.1
                rw [← HE.out]
                cases E
                · cases hgo
                · rfl
              clear hgo
              by_cases hk2 : k + 2 ≤ s.size
              case neg =>
                have hk2' : (s.size : Int) < (k : Int) + 2 := by omega
                have HBAD : Hid (¬ ∃ fs b, Par F fs s.data.toList b ∧ fs.length ≤ 40) := no_par F_one HRUN.out HNP.out (.inr (fun f q ⟨j, _, _, hEj, _⟩ => by
                  exfalso
                  have h1 := len_end hEj.1
                  rw [end_shift] at hEj
                  rw [List.length_drop, HLEN.out] at h1
                  by_cases hj : p + j < k
                  · exact HNO.out _ (by omega) hj hEj
                  · omega))
                have c0 := HST.out.1.c0
                have c1 := HST.out.1.c1
                have e0 := HST.out.2.1.c0
                have e1 := HST.out.2.1.c1
                have g0 := HST.out.2.1.f 0
                have g1 := HST.out.2.1.f 1
                generalize hln : fs.length = ln at *
                go_wp2
                have L2 := HST.out.2.1.put (a' := .slice a ln cap) (b' := .string ⟨#[]⟩)
                have b3 := b2.put_below (a := .slice a ln cap) (b := .string ⟨#[]⟩) HST.out.2.2.2 (Nat.le_refl _)
                clear c0 c1 e0 e1 g0 g1
                unfold b2.put at L2 b3
                generalize hY : World.setCell _ _ _ = Y at L2 b3 ⊢
                clear hY
                have c0 := L2.c0
                have c1 := L2.c1
                refine bodyPost_ret (v := .tuple #[.agg #[.slice a ln cap, .string ⟨#[]⟩], .bool false]) (by simp [results, Tryz.results87, go_sem, c0, c1]) rfl ⟨.inr ⟨HBAD.out, _, _, _, _, rfl⟩, b3⟩
              have hk2' : (k : Int) + 2 ≤ (s.size : Int) := by omega
              have hEk := HSTOP.out (by omega)
              have HCH : Hid (Chunk (s.data.toList.drop p) (s.extract p (k + 2)).data.toList (s.data.toList.drop (k + 2))) := (show Chunk _ _ _ from ⟨k - p, by rw [ext_list]; congr 1; omega, by rw [List.drop_drop]; congr 1; omega, end_shift.2 (by rw [show p + (k - p) = k from by omega]; exact hEk), fun j hj hEj => HNO.out (p + j) (by omega) (by omega) (end_shift.1 hEj)⟩)
              clear hEk
              have hsl := ow.slice_str (P := Tryz.prog) 9 s .i64 .i64 p (k + 2) Tryz.underlying9 (p : Int) ((k : Int) + 2) rfl (by omega) (by omega) hk2
              have hes : (s.extract p (k + 2)).size ≤ 1048576 := by rw [ext_size _ _ _ hk2]; omega
              generalize hT : s.extract p (k + 2) = T at hsl hes HCH
              clear hT
              go_wp2_with fail
              refine (uf.specUn_any T wc hes).mono ?_
              rintro e w2 ⟨hur, hb2⟩
              have HS2 : Hid (St w w2 (.slice a fs.length cap) fs) := HST.out.below hb2
              clear hb2
              rcases hur with ⟨nm, v, hf, rfl⟩ | ⟨hno, x, y, rfl⟩
              · have HFF : Hid (F T.data.toList nm v) := hf
                clear hf
                have c0 := HS2.out.1.c0
                have c1 := HS2.out.1.c1
                have m0 := HS2.out.1.f 0
                by_cases h40 : fs.length = 40
                · have d40 : ((fs.length : Int) == 40) = true := beq_iff_eq.2 (by omega)
                  have HBAD : Hid (¬ ∃ fs b, Par F fs s.data.toList b ∧ fs.length ≤ 40) := no_par F_one HRUN.out HNP.out (.inl h40)
                  clear h40
                  have e0 := HS2.out.2.1.c0
                  have e1 := HS2.out.2.1.c1
                  have g0 := HS2.out.2.1.f 0
                  have g1 := HS2.out.2.1.f 1
                  generalize hln : fs.length = ln at *
                  go_wp2
                  have L2 := HS2.out.2.1.put (a' := .slice a ln cap) (b' := .string ⟨#[]⟩)
                  have b3 := b2.put_below (a := .slice a ln cap) (b := .string ⟨#[]⟩) HS2.out.2.2.2 (Nat.le_refl _)
                  clear c0 c1 e0 e1 g0 g1
                  unfold b2.put at L2 b3
                  generalize hY : World.setCell _ _ _ = Y at L2 b3 ⊢
                  clear hY
                  have c0 := L2.c0
                  have c1 := L2.c1
                  refine bodyPost_ret (v := .tuple #[.agg #[.slice a ln cap, .string ⟨#[]⟩], .bool false]) (by simp [results, Tryz.results87, go_sem, c0, c1]) rfl ⟨.inr ⟨HBAD.out, _, _, _, _, rfl⟩, b3⟩
                · have d40 : ((fs.length : Int) == 40) = false := beq_eq_false_iff_ne.2 (by omega)
                  generalize hnb' : (⟨nm.toArray⟩ : ByteArray) = NM
                  generalize hvb' : (⟨v.toArray⟩ : ByteArray) = VV
                  have HNM : Hid (tv nm = .string NM ∧ tv v = .string VV) := (show _ ∧ _ by rw [← hnb', ← hvb']; exact ⟨rfl, rfl⟩)
                  clear hnb' hvb'
                  have hown : w2.ownsRow w.heap.size 123 2 (.slice a fs.length cap) fs.length (fcells fs) := HS2.out.2.2.1
                  have hsz2 := HS2.out.2.2.2.size
                  have hmlt : w.heap.size + 1 + 1 < w2.heap.size := HS2.out.1.lt
                  have HRUN2 : Hid (Run F (fs ++ [(nm, v)]) s.data.toList (s.data.toList.drop (k + 2))) := run_snoc HRUN.out HNP.out HCH.out HFF.out
                  go_upto_region 14 with fail
                  go_wp2_with (at_builtin; go_loud (refine wpList_append_own _ rfl _ _ 98 rfl w.heap.size 123 i0 _ 2 32 Tryz.underlying98 hi hz0 hz1 hz2 rfl (by decide) _ _ _ rfl (hown.alloc _) ⟨w2.heap.size, 0, none⟩ 1 1 [Value.string NM, Value.string VV] rfl rfl (by have hh := ow.cells_new w2 [Value.string NM, Value.string VV] 123; simpa using hh) (by simp [Value.oneCell']) (by unfold maxLen; omega) (by omega) (by simp; omega) ?_); intro v' w3 T3 g3 _; obtain ⟨aN, capN, rfl⟩ := slice_form T3; have X3 : b2.Box w3 (w.heap.size + 1 + 1) 100 (.slice a fs.length cap) (.string ⟨#[]⟩) := box_grown HS2.out.1 hown (by decide) _ g3; have d2 := X3.c0; have f2 := X3.f 0)
                  have F3 : FieldsAt w3 w.heap.size (.slice aN (fs.length + 1) capN) (fs ++ [(nm, v)]) := by
                    unfold FieldsAt
                    rw [fcells_snoc, List.length_append, HNM.out.1, HNM.out.2]
                    exact T3
                  have Y3 : b2.Box w3 w.heap.size 100 (.slice none 0 0) (.string ⟨#[]⟩) := box_grown HS2.out.2.1 hown (by decide) _ g3
                  have B3 : Below w.heap.size w w3 := Below.grown (HS2.out.2.2.2.alloc hsz2 _) g3 (by simp; omega) (ow.own_lt hown)
                  have S4 : St w (w3.setCell ⟨w.heap.size + 1 + 1, 0, none⟩ (.slice aN (fs.length + 1) capN)) (.slice aN (fs.length + 1) capN) (fs ++ [(nm, v)]) :=
                    ⟨X3.put0 _, (heap_setCell_other _ _ _ _ (show w.heap.size ≠ w.heap.size + 1 + 1 by omega)).trans Y3, own_put0 X3 (by decide) F3, B3.setCell (p := ⟨w.heap.size + 1 + 1, 0, none⟩) (show w.heap.size ≤ w.heap.size + 1 + 1 by omega) _⟩
                  have HS4 : Hid (St w (w3.setCell ⟨w.heap.size + 1 + 1, 0, none⟩ (.slice aN (fs.length + 1) capN)) (.slice aN (fs.length + 1) capN) (fs ++ [(nm, v)])) := S4
                  clear g3 T3 F3 X3 Y3 B3 S4 hown c0 c1 m0
                  go_roundw
                  case rel => exact ⟨k + 2, fs ++ [(nm, v)], _, by go_num, by omega, HS4.out, by simp; omega, HRUN2.out⟩
                  case measure => simp [intOf]; omega
              · have HBAD : Hid (¬ ∃ fs b, Par F fs s.data.toList b ∧ fs.length ≤ 40) := no_par F_one HRUN.out HNP.out (.inr (fun f q hc => by
                  obtain ⟨rfl, rfl⟩ := chunk_one HCH.out hc
                  exact hno))
                clear hno
                have c0 := HS2.out.1.c0
                have c1 := HS2.out.1.c1
                have e0 := HS2.out.2.1.c0
                have e1 := HS2.out.2.1.c1
                have g0 := HS2.out.2.1.f 0
                have g1 := HS2.out.2.1.f 1
                generalize hln : fs.length = ln at *
                go_wp2
                have L2 := HS2.out.2.1.put (a' := .slice a ln cap) (b' := .string ⟨#[]⟩)
                have b3 := b2.put_below (a := .slice a ln cap) (b := .string ⟨#[]⟩) HS2.out.2.2.2 (Nat.le_refl _)
                clear c0 c1 e0 e1 g0 g1
                unfold b2.put at L2 b3
                generalize hY : World.setCell _ _ _ = Y at L2 b3 ⊢
                clear hY
                have c0 := L2.c0
                have c1 := L2.c1
                refine bodyPost_ret (v := .tuple #[.agg #[.slice a ln cap, .string ⟨#[]⟩], .bool false]) (by simp [results, Tryz.results87, go_sem, c0, c1]) rfl ⟨.inr ⟨HBAD.out, _, _, _, _, rfl⟩, b3⟩
end Go.Proofs.YtbokolpjdaamiaaGreatDoor.ml

namespace Go.Proofs.YtbokolpjdaamiaaGreatDoor.ml
open Go.RowKit
set_option linter.unusedVariables false


/-- How many ends of lines a text has. -/
def tens (l : B) : Nat := (l.filter (· == 10)).length
theorem tens_app (a b : B) : tens (a ++ b) = tens a + tens b := by simp [tens]
theorem tens_good {l : B} (h : good l = true) : tens l = 0 := by
  unfold tens
  rw [List.length_eq_zero_iff, List.filter_eq_nil_iff]
  intro c hc h10
  have := good_iff.1 h c hc
  rw [beq_iff_eq] at h10
  subst h10
  cases this
theorem count_tens : ∀ (n : Nat) (l : B), l.length ≤ n → mok 0 l = true → Lib.count l nl = tens l
  | n, l, hn, hm => by
    rcases Lib.index_spec l nl with ⟨h, _⟩ | ⟨i, h, _⟩
    · by_cases h0 : l = []
      · subst h0
        rw [Lib.count_miss h]
        rfl
      · rw [mok_none l 0 h (.inr h0)] at hm
        cases hm
    · have hr := Lib.index_room l nl (by rw [h]; omega)
      rw [h] at hr
      have e2 : nl.length = 2 := rfl
      match n with
      | 0 => omega
      | n + 1 =>
        rw [mok_zero h, Bool.and_eq_true, decide_eq_true_iff] at hm
        have ih := count_tens n (l.drop (i + 2)) (by rw [List.length_drop]; omega) hm.2
        have hc := Lib.count_hit (s := l) (sub := nl) (i := i) (by simp [nl]) h
        have hs : l = l.take i ++ (nl ++ l.drop (i + 2)) := by
          have h1 := List.take_append_drop i l
          have h2 := List.take_append_drop 2 (l.drop i)
          rw [(index_at h).1, List.drop_drop] at h2
          rw [h2, h1]
        rw [hc, show i + nl.length = i + 2 from rfl, ih]
        have : tens l = tens (l.take i ++ (nl ++ l.drop (i + 2))) := by rw [← hs]
        rw [this, tens_app, tens_app, tens_good hm.1.1]
        show _ = 0 + (1 + _)
        omega
theorem tens_take (s : ByteArray) (k : Nat) (h : k < s.size) : tens (s.data.toList.take (k + 1)) = tens (s.data.toList.take k) + (if ((s[k]'h).toNat : Int) = 10 then 1 else 0) := by
  rw [take_snoc s k h, tens_app]
  congr 1
  by_cases e : ((s[k]'h).toNat : Int) = 10
  · rw [if_pos e, is_byte (n := 10) (by decide) e]
    rfl
  · rw [if_neg e]
    unfold tens
    rw [List.length_eq_zero_iff, List.filter_eq_nil_iff]
    intro c hc
    rw [List.mem_singleton] at hc
    subst hc
    intro h10
    rw [beq_iff_eq] at h10
    rw [h10] at e
    exact e rfl
theorem tens_le (l : B) : tens l ≤ l.length := List.length_filter_le _ _
def MlRet (l : B) (e : Ending) : Prop :=
  (65536 < l.length ∧ e = .returned (.tuple #[.int .i64 0, .int .i64 2])) ∨
  (l.length ≤ 65536 ∧ (¬ ∃ fs b, IsMail l fs b) ∧ e = .returned (.tuple #[.int .i64 0, .int .i64 3])) ∨
  (l.length ≤ 65536 ∧ ∃ fs b, IsMail l fs b ∧ e = .returned (.tuple #[.int .i64 (tens b : Nat), .int .i64 0]))
theorem ml_ex {l : B} {e : Ending} (h : MlRet l e) : ∃ a c : Int, e = .returned (.tuple #[.int .i64 a, .int .i64 c]) := by
  rcases h with ⟨_, rfl⟩ | ⟨_, _, rfl⟩ | ⟨_, _, _, _, rfl⟩ <;> exact ⟨_, _, rfl⟩
theorem ml_same {l : B} {a c a' c' : Int} (h : MlRet l (.returned (.tuple #[.int .i64 a, .int .i64 c]))) (h' : MlRet l (.returned (.tuple #[.int .i64 a', .int .i64 c']))) : a = a' ∧ c = c' := by
  rcases h with ⟨x, h⟩ | ⟨x, x2, h⟩ | ⟨x, fs, b, hf, h⟩ <;>
  rcases h' with ⟨y, h'⟩ | ⟨y, y2, h'⟩ | ⟨y, fs', b', hf', h'⟩ <;>
  cases h <;> cases h' <;>
  first | exact ⟨rfl, rfl⟩ | (exfalso; omega) | (exfalso; exact x2 ⟨_, _, hf'⟩) | (exfalso; exact y2 ⟨_, _, hf⟩) | (obtain ⟨rfl, rfl⟩ := isMail_one hf hf'; exact ⟨rfl, rfl⟩)
theorem isMail_body {l b : B} {fs : List (B × B)} (h : IsMail l fs b) (hl : l.length ≤ 65536) : mok 0 b = true ∧ b.length ≤ 65536 := by
  obtain ⟨n, h1, h2⟩ := par_len h.2.1
  refine ⟨par_mok h.2.1 h.1, ?_⟩
  rw [h2, List.length_drop]
  omega
theorem countB_tens (s : ByteArray) (h : mok 0 s.data.toList = true) : Lib.countB s ⟨#[13, 10]⟩ = (tens s.data.toList : Nat) := by
  rw [← count_tens _ s.data.toList (Nat.le_refl _) h]
  rfl
end Go.Proofs.YtbokolpjdaamiaaGreatDoor.ml

namespace Go.Proofs.YtbokolpjdaamiaaGreatDoor.mk
open Go.RowKit
set_option linter.unusedVariables false

theorem conv_part {P : Program} {w : World} {src dst e : TypeId} {g cap : Nat} (l : List UInt8) (hs : P.underlying src = some (.slice e)) (he : P.underlying e = some (.int .u8)) (hd : P.underlying dst = some .string)
    (hc : ∀ j, j < l.length → w.cell? ⟨g, j, none⟩ = some (.int .u8 ((l.getD j 0).toNat : Int))) : (convert src dst (.slice (some ⟨g, 0, none⟩) l.length cap)).run P w = .ok (.string ⟨l.toArray⟩) w := by
  refine run_convert_bytes_back w src dst e ⟨g, 0, none⟩ cap l hs he hd (fun j hj => ?_)
  rw [show ((⟨g, 0, none⟩ : Addr).add j) = ⟨g, j, none⟩ from by simp [Addr.add]; omega, hc j hj]
  simp [List.getD_eq_getElem?_getD, hj]

/-- The digit of a number's last place. -/
def ch (k : Int) : UInt8 := UInt8.ofNat (48 + (k % 10).toNat)
/-- A number's digits ahead of a text. -/
def dgs : Nat → Int → ByteArray → ByteArray
  | 0, _, o => o
  | f + 1, k, o => if k ≤ 0 then o else dgs f (k / 10) (⟨#[ch k]⟩ ++ o)
/-- The mark of a number. -/
def mt (k : Int) : ByteArray := ⟨#[109]⟩ ++ dgs 30 k ⟨#[]⟩
theorem dgs_end {f : Nat} {k : Int} {o : ByteArray} (h : k ≤ 0) : dgs f k o = o := by
  cases f with
  | zero => rfl
  | succ f => simp [dgs, h]
theorem dgs_step {f : Nat} {k : Int} {o : ByteArray} (h : 0 < k) : dgs (f + 1) k o = dgs f (k / 10) (⟨#[ch k]⟩ ++ o) := by
  rw [dgs, if_neg (by omega)]
theorem ch_num (k : Int) (h : 0 ≤ k) : ((ch k).toNat : Int) = 48 + k % 10 := by
  unfold ch
  rw [UInt8.toNat_ofNat']
  omega
theorem fuel_pos {f : Nat} {k : Int} (h : 0 < k) (hf : k < 2 ^ f) : ∃ g, f = g + 1 := by
  cases f with
  | zero => simp at hf; omega
  | succ g => exact ⟨g, rfl⟩
theorem fuel_next {g : Nat} {k : Int} (h : 0 < k) (hf : k < 2 ^ (g + 1)) : k / 10 < 2 ^ g := by
  rw [Int.pow_succ] at hf
  generalize (2 : Int) ^ g = x at hf ⊢
  omega

theorem one_cell (w : World) (c : UInt8) : ∀ i, i < [c].length → (w.alloc (.cells #[.int .u8 (c.toNat : Int)] 5)).cell? ⟨w.heap.size, i, none⟩ = some (.int .u8 (([c].getD i 0).toNat : Int)) := by
  intro i hi
  have : i = 0 := by simpa using hi
  subst this
  exact ow.cell_new w [.int .u8 (c.toNat : Int)] 5 0 _ rfl
end Go.Proofs.YtbokolpjdaamiaaGreatDoor.mk

namespace Go.Proofs.YtbokolpjdaamiaaGreatDoor.fa
open Go.RowKit
set_option linter.unusedVariables false

abbrev Pr := ByteArray × ByteArray
def no : Pr := (⟨#[]⟩, ⟨#[]⟩)
/-- A slice of attributes. -/
def AttrsAt (w : World) (v : Value) (ps : List Pr) : Prop :=
  ∃ a cap, v = .slice a ps.length cap ∧ (ps = [] ∨ ∃ b off, a = some ⟨b, off, none⟩ ∧ ∀ j, j < ps.length → w.cell? ⟨b, off + j * 2, none⟩ = some (.string (ps.getD j no).1) ∧ w.cell? ⟨b, off + j * 2 + 1, none⟩ = some (.string (ps.getD j no).2))
theorem at_below {w w' : World} {v : Value} {ps : List Pr} (h : AttrsAt w v ps) (hb : Below w.heap.size w w') : AttrsAt w' v ps := by
  obtain ⟨a, cap, rfl, h⟩ := h
  refine ⟨a, cap, rfl, ?_⟩
  rcases h with h | ⟨b, off, rfl, h⟩
  · exact .inl h
  · refine .inr ⟨b, off, rfl, fun j hj => ?_⟩
    obtain ⟨h0, h1⟩ := h j hj
    have hl := World.block_lt_of_cell? w _ h0
    exact ⟨(hb.cell (p := ⟨b, off + j * 2, none⟩) hl).trans h0, (hb.cell (p := ⟨b, off + j * 2 + 1, none⟩) hl).trans h1⟩

/-- Attributes of a size that a law takes. -/
def Small (ps : List Pr) : Prop := ps.length ≤ 1048576 ∧ ∀ j, j < ps.length → (ps.getD j no).1.size ≤ 1048576 ∧ (ps.getD j no).2.size ≤ 1048576
def SmallTo (ps : List Pr) (k : Nat) : Prop := ps.length ≤ 1048576 ∧ ∀ j, j < k → (ps.getD j no).1.size ≤ 1048576 ∧ (ps.getD j no).2.size ≤ 1048576

end Go.Proofs.YtbokolpjdaamiaaGreatDoor.fa
