/-
  The contract of the iterator that strings.SplitSeq hands back, at a separator of one byte, where the body may return.
-/
import Derived.Test.YtakdpicjkbfpiaaDoorRas
import Derived.Test.YtakdpicjkbfpiaaDoorSpl
import Derived.Test.YtakdpicjkbfpiaaDoorRows
namespace Go.Proofs.YtakdpicjkbfpiaaDoor.lw
open Go.RowKit Go.Shelf
open sp
attribute [local go_sem] Oper.semAt_some
set_option linter.unusedVariables false

/-- How long the text in a cell is. -/
def leftIn (c : Nat) (w : World) : Nat := match w.cell? ⟨c, 0, none⟩ with | some (.string t) => t.size | _ => 0
theorem leftIn_eq {c : Nat} {w : World} {t : ByteArray} (h : w.cell? ⟨c, 0, none⟩ = some (.string t)) : leftIn c w = t.size := by unfold leftIn; rw [h]
def ls (xs : List ByteArray) : List (List UInt8) := xs.map fun x => x.data.toList
theorem ls_snoc (xs : List ByteArray) (x : ByteArray) : ls (xs ++ [x]) = ls xs ++ [x.data.toList] := by simp [ls]
def Pf (V : List (List UInt8)) (xs : List ByteArray) : Prop := ∃ r, ls xs ++ r = V

set_option maxRecDepth 100000 in
set_option maxHeartbeats 4000000 in
theorem split_one (F : Fence) (n : Nat) (hF : F.fn 47) (hFi : F.fn 49) (hro : F.round = none) (hn : 1 ≤ n) (l cp cs cv : Nat) (s : ByteArray) (hs : s.size ≤ 1048576) (J : List ByteArray → World → Prop) (Jx : World → Prop)
    (hR : ∀ pre W, J pre W → W.cell? ⟨cp, 0, none⟩ = some (.string ⟨#[32]⟩) ∧ W.cell? ⟨cv, 0, none⟩ = some (.int .i64 0))
    (hIx : ∀ pre W t, J pre W → t.size ≤ 1048576 → CallsIn F (n - 1) Tryd.prog 49 #[.string t, .string ⟨#[32]⟩] W fun e W' => e = .returned (.int .i64 (Lib.index t.data.toList [32])) ∧ W' = W)
    (hJs : ∀ pre W v, J pre W → J pre (W.setCell ⟨cs, 0, none⟩ v))
    (hY : ∀ pre x W1, Pf (cutS 32 [] s.data.toList) (pre ++ [x]) → J pre W1 → YieldAt F (n - 1) Tryd.prog l #[.string x] W1 fun e W' => (e = .returned (.bool true) ∧ J (pre ++ [x]) W' ∧ rl.Same cs W1 W') ∨ (e = .returned (.bool false) ∧ Jx W'))
    (W : World) (hcs : W.cell? ⟨cs, 0, none⟩ = some (.string s)) (hfs : W.frozen? ⟨cs, 0, none⟩ = false) (h0 : J [] W) :
    CallsIn F n Tryd.prog 47 #[.func (.yield l) #[] #[], .pointer (some ⟨cp, 0, none⟩), .pointer (some ⟨cs, 0, none⟩), .pointer (some ⟨cv, 0, none⟩)] W fun e W' => (∃ v, e = .returned v) ∧
      ((∃ xs, ls xs = cutS 32 [] s.data.toList ∧ J xs W') ∨ Jx W') := by
  refine callsIn_of_wp Tryd.func47 rfl hF ?_ hro
  simp only [Tryd.ntmps47, List.size_toArray, List.length_cons, List.length_nil, Nat.reduceAdd, Nat.reduceSub, Array.replicate_succ, Array.replicate_zero, List.push_toArray, List.append_toArray, List.nil_append, List.cons_append]
  have hcp := (hR _ _ h0).1
  obtain ⟨V, hV⟩ : ∃ V, V = cutS 32 [] s.data.toList := ⟨_, rfl⟩
  have HV0 : Hid (ls [] ++ cutS 32 [] s.data.toList = V) := hV.symm
  have HY : Hid (∀ pre x W1, Pf (cutS 32 [] s.data.toList) (pre ++ [x]) → J pre W1 → YieldAt F (n - 1) Tryd.prog l #[.string x] W1 fun e W' => (e = .returned (.bool true) ∧ J (pre ++ [x]) W' ∧ rl.Same cs W1 W') ∨ (e = .returned (.bool false) ∧ Jx W')) := hY
  rw [← hV] at HY ⊢
  clear hY hV
  gi_wp2
  gi_loopw [] (fun wr => ∃ (pre : List ByteArray) (t : ByteArray), J pre wr ∧ wr.cell? ⟨cs, 0, none⟩ = some (.string t) ∧ wr.frozen? ⟨cs, 0, none⟩ = false ∧ t.size ≤ 1048576 ∧ ls pre ++ cutS 32 [] t.data.toList = V)
    (fun wr => leftIn cs wr)
  case atStart => exact ⟨[], s, h0, hcs, hfs, hs, HV0.out⟩
  case round =>
    obtain ⟨pre, t, hJp, hct, hft, hts, hmx⟩ := hrel
    obtain ⟨hcp1, hcv1⟩ := hR _ _ hJp
    have HI := hIx pre wr t hJp hts
    have HM : Hid (ls pre ++ cutS 32 [] t.data.toList = V) := hmx
    clear hmx hcp hcs hfs h0 HV0
    rcases index_c 32 t.data.toList with ⟨hi, hno⟩ | ⟨u, r, hur, hno, hi⟩
    · have HL : Hid (ls (pre ++ [t]) = V) := by
        rw [ls_snoc, ← HM.out, cutS_none 32 _ _ hno]
        rfl
      rw [hi] at HI
      obtain ⟨fn, tmps, assign, body, hy, hR1⟩ := HY.out pre t wr ⟨[], by rw [HL.out]; simp⟩ hJp
      clear hi hno
      gi_wp2_with (gi_at_call 49; refine HI.mono ?_; rintro e w' ⟨rfl, rfl⟩)
      refine hR1.mono ?_
      rintro e W3 (⟨rfl, hJ3, hk3⟩ | ⟨rfl, hJ3⟩)
      · gi_wp2
        go_end0
        exact ⟨⟨_, rfl⟩, .inl ⟨pre ++ [t], HL.out, hJ3⟩⟩
      · gi_wp2
        go_end0
        exact ⟨⟨_, rfl⟩, .inr hJ3⟩
    · obtain ⟨i, hil⟩ : ∃ i : Nat, i = u.length := ⟨_, rfl⟩
      rw [hi, ← hil] at HI
      have hir : i + 1 ≤ t.size := by rw [Lib.size_eq, hur, hil]; simp
      have eU : (t.extract 0 i).data.toList = u := by
        rw [ByteArray.data_extract, Array.toList_extract, List.extract_eq_drop_take', List.drop_zero, hur, hil]
        exact List.take_left' rfl
      have eR : (t.extract (i + 1) t.size).data.toList = r := by
        rw [ByteArray.data_extract, Array.toList_extract, List.extract_eq_drop_take', List.take_of_length_le (by simp), hur, hil]
        rw [show u ++ 32 :: r = (u ++ [32]) ++ r from by simp]
        exact List.drop_left' (by simp)
      have HL : Hid (ls (pre ++ [t.extract 0 i]) ++ cutS 32 [] (t.extract (i + 1) t.size).data.toList = V) := by
        rw [ls_snoc, eU, eR, ← HM.out, hur, cutS_at 32 u [] r hno, List.append_assoc]
        rfl
      obtain ⟨fn, tmps, assign, body, hy, hR1⟩ := HY.out pre (t.extract 0 i) wr ⟨_, HL.out⟩ hJp
      clear hi hur hno eU eR hil
      gi_wp2_with (gi_at_call 49; refine HI.mono ?_; rintro e w' ⟨rfl, rfl⟩)
      refine hR1.mono ?_
      rintro e W3 (⟨rfl, hJ3, hk3⟩ | ⟨rfl, hJ3⟩)
      · obtain ⟨hcp3, hcv3⟩ := hR _ _ hJ3
        have hc3 := hk3.1.trans hct
        have hf3 := hk3.2.trans hft
        clear hy hR1 HI
        gi_wp2
        go_roundw
        case rel => exact ⟨pre ++ [t.extract 0 i], t.extract (i + 1) t.size, hJs _ _ _ hJ3, World.cell?_setCell_same' _ _ _ (by rw [hc3]; rfl), by rw [World.frozen?_setCell]; exact hf3, by rw [ByteArray.size_extract]; omega, HL.out⟩
        case measure =>
          rw [leftIn_eq (World.cell?_setCell_same' _ _ _ (by rw [hc3]; rfl)), leftIn_eq hct, ByteArray.size_extract]
          omega
      · gi_wp2
        (try simp only [Exit.inBlock, Exit.then]); refine bodyPost_ret (results_none rfl _ _ _) rfl ?_
        exact ⟨⟨_, rfl⟩, .inr hJ3⟩
end Go.Proofs.YtakdpicjkbfpiaaDoor.lw
