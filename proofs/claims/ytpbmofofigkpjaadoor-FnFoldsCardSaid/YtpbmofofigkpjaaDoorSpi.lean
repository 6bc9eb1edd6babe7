/-
  The contract of the iterator that strings.SplitSeq hands back, at a separator of two bytes.
-/
import Derived.Test.YtpbmofofigkpjaaDoorLop
import Derived.Test.YtpbmofofigkpjaaDoorRal
import Derived.Test.YtpbmofofigkpjaaDoorRows
namespace Go.Proofs.YtpbmofofigkpjaaDoor.ln
open Go.RowKit Go.Shelf
attribute [local go_sem] Oper.semAt_some
set_option linter.unusedVariables false

def crb : ByteArray := ⟨#[13, 10]⟩
/-- How long the text in a cell is. -/
def leftIn (c : Nat) (w : World) : Nat := match w.cell? ⟨c, 0, none⟩ with | some (.string t) => t.size | _ => 0
theorem leftIn_eq {c : Nat} {w : World} {t : ByteArray} (h : w.cell? ⟨c, 0, none⟩ = some (.string t)) : leftIn c w = t.size := by unfold leftIn; rw [h]

set_option maxRecDepth 100000 in
set_option maxHeartbeats 4000000 in
theorem split_in (F : Fence) (n : Nat) (hF : F.fn 82) (hFi : F.fn 63) (hro : F.round = none) (hn : 1 ≤ n) (l cp cs cv : Nat) (s : ByteArray) (hs : s.size ≤ 65536) (J : List ByteArray → World → Prop)
    (hR : ∀ pre W, J pre W → W.cell? ⟨cp, 0, none⟩ = some (.string ⟨#[13, 10]⟩) ∧ W.cell? ⟨cv, 0, none⟩ = some (.int .i64 0))
    (hIx : ∀ pre W t, J pre W → t.size ≤ 65536 → CallsIn F (n - 1) Tryd.prog 63 #[.string t, .string ⟨#[13, 10]⟩] W fun e W' => e = .returned (.int .i64 (Lib.index t.data.toList cr)) ∧ W' = W)
    (hJs : ∀ pre W v, J pre W → J pre (W.setCell ⟨cs, 0, none⟩ v))
    (hY : ∀ pre x W1, J pre W1 → YieldAt F (n - 1) Tryd.prog l #[.string x] W1 fun e W' => e = .returned (.bool true) ∧ J (pre ++ [x]) W' ∧ rl.Same cs W1 W')
    (W : World) (hcs : W.cell? ⟨cs, 0, none⟩ = some (.string s)) (hfs : W.frozen? ⟨cs, 0, none⟩ = false) (h0 : J [] W) :
    CallsIn F n Tryd.prog 82 #[.func (.yield l) #[] #[], .pointer (some ⟨cp, 0, none⟩), .pointer (some ⟨cs, 0, none⟩), .pointer (some ⟨cv, 0, none⟩)] W fun e W' => (∃ v, e = .returned v) ∧
      ∃ xs, mx xs = ll s.data.toList ∧ J xs W' := by
  refine callsIn_of_wp Tryd.func82 rfl hF ?_ hro
  simp only [Tryd.ntmps82, List.size_toArray, List.length_cons, List.length_nil, Nat.reduceAdd, Nat.reduceSub, Array.replicate_succ, Array.replicate_zero, List.push_toArray, List.append_toArray, List.nil_append, List.cons_append]
  have hcp := (hR _ _ h0).1
  gi_wp2
  gi_loopw [] (fun wr => ∃ (pre : List ByteArray) (t : ByteArray), J pre wr ∧ wr.cell? ⟨cs, 0, none⟩ = some (.string t) ∧ wr.frozen? ⟨cs, 0, none⟩ = false ∧ t.size ≤ 65536 ∧ max (mx pre) (ll t.data.toList) = ll s.data.toList)
    (fun wr => leftIn cs wr)
  case atStart => exact ⟨[], s, h0, hcs, hfs, hs, by simp [mx]⟩
  case round =>
    obtain ⟨pre, t, hJp, hct, hft, hts, hmx⟩ := hrel
    obtain ⟨hcp1, hcv1⟩ := hR _ _ hJp
    have HI := hIx pre wr t hJp hts
    have HM : Hid (max (mx pre) (ll t.data.toList) = ll s.data.toList) := hmx
    clear hmx hcp hcs hfs h0
    have hge := Lib.index_ge t.data.toList cr
    by_cases hi : Lib.index t.data.toList cr = -1
    · have HL : Hid (ll t.data.toList = t.size) := by rw [Lib.size_eq]; exact ll_all hi
      rw [hi] at HI
      obtain ⟨fn, tmps, assign, body, hy, hR1⟩ := hY pre t wr hJp
      clear hge hi
      gi_wp2_with (gi_at_call 63; refine HI.mono ?_; rintro e w' ⟨rfl, rfl⟩)
      refine hR1.mono ?_
      rintro e W3 ⟨rfl, hJ3, hk3⟩
      gi_wp2
      go_end0
      exact ⟨⟨_, rfl⟩, pre ++ [t], by rw [mx_snoc, ← HL.out]; exact HM.out, hJ3⟩
    · obtain ⟨i, hi'⟩ : ∃ i : Nat, Lib.index t.data.toList cr = i := ⟨(Lib.index t.data.toList cr).toNat, by omega⟩
      have hroom := Lib.index_room t.data.toList cr (by omega)
      rw [hi'] at HI hroom
      have hir : i + 2 ≤ t.size := by rw [Lib.size_eq]; rw [show cr.length = 2 from rfl] at hroom; omega
      have HL : Hid (ll t.data.toList = max i (ll (t.data.toList.drop (i + 2)))) := ll_first hi'
      obtain ⟨fn, tmps, assign, body, hy, hR1⟩ := hY pre (t.extract 0 i) wr hJp
      clear hge hi hi' hroom
      gi_wp2_with (gi_at_call 63; refine HI.mono ?_; rintro e w' ⟨rfl, rfl⟩)
      refine hR1.mono ?_
      rintro e W3 ⟨rfl, hJ3, hk3⟩
      obtain ⟨hcp3, hcv3⟩ := hR _ _ hJ3
      have hc3 := hk3.1.trans hct
      have hf3 := hk3.2.trans hft
      clear hy hR1 HI
      gi_wp2
      go_roundw
      case rel =>
        refine ⟨pre ++ [t.extract 0 i], t.extract (i + 2) t.size, hJs _ _ _ hJ3, World.cell?_setCell_same' _ _ _ (by rw [hc3]; rfl), by rw [World.frozen?_setCell]; exact hf3, by rw [ByteArray.size_extract]; omega, ?_⟩
        rw [mx_snoc, ByteArray.size_extract, ← HM.out, HL.out]
        have e : (t.extract (i + 2) t.size).data.toList = t.data.toList.drop (i + 2) := by
          rw [ByteArray.data_extract, Array.toList_extract, List.extract_eq_drop_take', List.take_of_length_le (by simp)]
        rw [e]
        omega
      case measure =>
        rw [leftIn_eq (World.cell?_setCell_same' _ _ _ (by rw [hc3]; rfl)), leftIn_eq hct, ByteArray.size_extract]
        omega
end Go.Proofs.YtpbmofofigkpjaaDoor.ln
