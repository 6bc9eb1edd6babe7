/-
  Contracts of the specification's own parts of an entry's mail: ends of lines, fields.
-/
import Derived.Test.YtbanjkkbobedhaaDoorPkay
import Derived.Test.YtbanjkkbobedhaaDoorPkas
import Derived.Laws.AppendOwn

namespace Go.Proofs.YtbanjkkbobedhaaDoor.rn
open Go.RowKit
open gr
set_option linter.unusedVariables false

theorem crl_app (a b : B) : crl (a ++ b) = crl a ++ crl b := by simp [crl]
theorem byteCells_one (c : UInt8) : Lib.byteCells [c] = [Value.int .u8 (c.toNat : Int)] := rfl
theorem infoB : (Tryd.prog.info? 5).map (fun i => (i.zero, i.size, i.bytes)) = some (some (.int .u8 0), 1, 1) := by kernel_rfl

set_option maxHeartbeats 4000000 in
set_option maxRecDepth 100000 in
theorem crlf_any (s : ByteArray) (w : World) (hs : s.size ≤ 1048576) :
    Calls Tryd.prog 30 #[.string s] w fun e w' => (∃ v, e = .returned v ∧ w'.ownsRow w.heap.size 5 1 v (crl s.data.toList).length (Lib.byteCells (crl s.data.toList))) ∧ Below w.heap.size w w' := by
  obtain ⟨i0, hi, hz0, hz1, hz2⟩ := info_parts infoB
  go_enter Tryd.func30, Tryd.ntmps30
  go_wp2
  go_loopw [3, 4] (fun v i wr => ∃ (k : Nat) (q : B), k ≤ s.size ∧ i = .int .i64 k ∧ q = crl (s.data.toList.take k) ∧ q.length ≤ 2 * k ∧ wr.ownsRow w.heap.size 5 1 v q.length (Lib.byteCells q) ∧ Below w.heap.size w wr) (fun _ i _ => s.size - (intOf i).toNat)
  case atStart => exact ⟨0, [], Nat.zero_le _, rfl, rfl, by simp, ow.own_empty w _, (Below.refl _ _).alloc (Nat.le_refl _) _⟩
  case round =>
    obtain ⟨k, q, hk, rfl, hq, hql, hown, hbw⟩ := hrel
    have HQ : Hid (q = crl (s.data.toList.take k)) := hq
    clear hq
    have hBs := hbw.size
    by_cases hlt : k < s.size
    · have htk : s.data.toList.take (k + 1) = s.data.toList.take k ++ [s[k]'hlt] := by rw [List.take_succ_eq_append_getElem (by simpa using hlt)]; rfl
      by_cases h10 : ((s[k]'hlt).toNat : Int) = 10
      · have d10 : (((s[k]'hlt).toNat : Int) == 10) = true := beq_iff_eq.2 h10
        have e10 : s[k]'hlt = 10 := by rw [← UInt8.toNat_inj]; show (s[k]'hlt).toNat = 10; omega
        have HN : Hid (q ++ [13] ++ [10] = crl (s.data.toList.take (k + 1))) := (show _ = _ by rw [htk, crl_app, ← HQ.out, e10]; simp [crl])
        clear htk e10
        go_upto_region 7 with (at_builtin; go_loud (refine wpList_append_own _ rfl _ _ 22 rfl w.heap.size 5 i0 (.int .u8 0) 1 1 Tryd.underlying22 hi hz0 hz1 hz2 rfl (by decide) _ _ _ rfl (hown.alloc _) ⟨wr.heap.size, 0, none⟩ 1 1 [.int .u8 13] rfl rfl (ow.cells_new _ [.int .u8 13] _) (by simp [Value.oneCell']) (by unfold maxLen; omega) (by omega) (by simp; omega) ?_); intro v' w3 hown3 hg3 _)
        have hb3 := Below.grown (hbw.alloc hBs _) hg3 (by simp; omega) (ow.own_lt hown)
        have ho3 : w3.ownsRow w.heap.size 5 1 v' (q ++ [13]).length (Lib.byteCells (q ++ [13])) := by
          rw [List.length_append, Lib.byteCells_append]; exact hown3
        have hBs3 := hb3.size
        clear hown hbw hown3 hg3
        go_wp2_with (at_builtin; go_loud (refine wpList_append_own _ rfl _ _ 22 rfl w.heap.size 5 i0 (.int .u8 0) 1 1 Tryd.underlying22 hi hz0 hz1 hz2 rfl (by decide) _ _ _ rfl (ho3.alloc _) ⟨w3.heap.size, 0, none⟩ 1 1 [.int .u8 10] rfl rfl (by have hh := ow.cells_new w3 [Value.int .u8 10] 5; simpa [h10] using hh) (by simp [Value.oneCell']) (by simp; unfold maxLen; omega) (by simp; omega) (by simp; omega) ?_); intro v'' w4 hown4 hg4 _)
        have hb4 := Below.grown (hb3.alloc hBs3 _) hg4 (by simp; omega) (ow.own_lt ho3)
        have HO4 : Hid (w4.ownsRow w.heap.size 5 1 v'' (q ++ [13] ++ [10]).length (Lib.byteCells (q ++ [13] ++ [10]))) := (show w4.ownsRow _ _ _ _ _ _ by
          rw [List.length_append, Lib.byteCells_append]; exact hown4)
        clear hown4 hg4 ho3 hb3
        go_roundw
        case rel => exact ⟨k + 1, q ++ [13] ++ [10], by omega, by go_num, HN.out, by simp; omega, HO4.out, hb4⟩
        case measure => simp [intOf]; omega
      · have d10 : (((s[k]'hlt).toNat : Int) == 10) = false := beq_eq_false_iff_ne.2 h10
        have e10 : s[k]'hlt ≠ 10 := fun e => h10 (by rw [e]; rfl)
        have HN : Hid (q ++ [s[k]'hlt] = crl (s.data.toList.take (k + 1))) := (show _ = _ by rw [htk, crl_app, ← HQ.out]; simp [crl, e10])
        clear htk e10
        go_wp2_with (at_builtin; go_loud (refine wpList_append_own _ rfl _ _ 22 rfl w.heap.size 5 i0 (.int .u8 0) 1 1 Tryd.underlying22 hi hz0 hz1 hz2 rfl (by decide) _ _ _ rfl (hown.alloc _) ⟨wr.heap.size, 0, none⟩ 1 1 [.int .u8 ((s[k]'hlt).toNat : Int)] rfl rfl (ow.cells_new _ [.int .u8 ((s[k]'hlt).toNat : Int)] _) (by simp [Value.oneCell']) (by unfold maxLen; omega) (by omega) (by simp; omega) ?_); intro v' w3 hown3 hg3 _)
        have hb3 := Below.grown (hbw.alloc hBs _) hg3 (by simp; omega) (ow.own_lt hown)
        have HO3 : Hid (w3.ownsRow w.heap.size 5 1 v' (q ++ [s[k]'hlt]).length (Lib.byteCells (q ++ [s[k]'hlt]))) := (show w3.ownsRow _ _ _ _ _ _ by
          rw [List.length_append, Lib.byteCells_append]; exact hown3)
        clear hown hbw hown3 hg3
        go_roundw
        case rel => exact ⟨k + 1, q ++ [s[k]'hlt], by omega, by go_num, HN.out, by simp; omega, HO3.out, hb3⟩
        case measure => simp [intOf]; omega
    · have e : q = crl s.data.toList := by rw [HQ.out, List.take_of_length_le (by rw [← Lib.size_eq]; omega)]
      subst e
      go_wp2
      go_ret
      exact ⟨⟨_, rfl, hown⟩, hbw⟩

theorem encS (s : ByteArray) (h : en.fld s = true) (w : World) : Calls Tryd.prog 26 #[.string s] w fun e w' => e = .returned (.string (EN s)) ∧ Below w.heap.size w w' :=
  (hd.specEncode_any s w (by have := (en.fld_cases h).1; omega)).mono fun e w' ⟨⟨r, he, hr⟩, hb⟩ => ⟨by rw [he, (enc_of h hr).2], hb⟩
theorem enc_fact (s : ByteArray) (h : en.fld s = true) (w : World) (hn : ∃ r, hd.EncIs s r) : Enc s := by
  obtain ⟨r, hr⟩ := hn
  exact (enc_of h hr).1
theorem foldS (nm s : ByteArray) (w : World) (h1 : nm.size ≤ 40) (h2 : s.size ≤ 2000) : Calls Tryd.prog 25 #[.string nm, .string s] w fun e w' => e = .returned (.string (FO nm s)) ∧ Below w.heap.size w w' :=
  (hf.specFold_any nm s w h1 h2).mono fun e w' ⟨⟨r, he, hr⟩, hb⟩ => ⟨by rw [he, fo_is hr], hb⟩
theorem reads_bytes (l : B) : ck.Bytes (b6.bz l) := fun j hj => by
  rw [b6.bz_at]
  have := (l.getD j 0).toNat_lt
  omega
end Go.Proofs.YtbanjkkbobedhaaDoor.rn
