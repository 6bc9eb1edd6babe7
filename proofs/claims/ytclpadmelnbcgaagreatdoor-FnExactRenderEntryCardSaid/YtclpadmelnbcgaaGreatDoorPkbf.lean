/-
  Contracts of both EncodeWords functions.
  Contracts of the specification's own parts of an entry's mail: ends of lines, fields.
-/
import Derived.Test.YtclpadmelnbcgaaGreatDoorPkak
import Derived.Test.YtclpadmelnbcgaaGreatDoorPkag
import Derived.Test.YtclpadmelnbcgaaGreatDoorPkbe
import Derived.Test.YtclpadmelnbcgaaGreatDoorPkar
import Derived.Laws.AppendOwn

namespace Go.Proofs.YtclpadmelnbcgaaGreatDoor.hd
open Go.RowKit
set_option linter.unusedVariables false

/-- What both EncodeWords functions answer. -/
def EwRet (s : ByteArray) (e : Ending) : Prop :=
  (65536 < s.size ∧ e = .returned (.tuple #[.string ⟨#[]⟩, .int .i64 2])) ∨
  (s.size ≤ 65536 ∧ ¬ ut.Right s ∧ e = .returned (.tuple #[.string ⟨#[]⟩, .int .i64 3])) ∨
  (s.size ≤ 65536 ∧ ut.Right s ∧ 1000 < s.size ∧ e = .returned (.tuple #[.string ⟨#[]⟩, .int .i64 4])) ∨
  (ut.Right s ∧ s.size ≤ 1000 ∧ ∃ r, EncIs s r ∧ e = .returned (.tuple #[.string r, .int .i64 0]))
theorem ew_ex {s : ByteArray} {e : Ending} (h : EwRet s e) : ∃ (r : ByteArray) (c : Int), e = .returned (.tuple #[.string r, .int .i64 c]) := by
  rcases h with ⟨_, rfl⟩ | ⟨_, _, rfl⟩ | ⟨_, _, _, rfl⟩ | ⟨_, _, r, _, rfl⟩ <;> exact ⟨_, _, rfl⟩
theorem ew_same {s r r' : ByteArray} {c c' : Int} (h : EwRet s (.returned (.tuple #[.string r, .int .i64 c]))) (h' : EwRet s (.returned (.tuple #[.string r', .int .i64 c']))) : r = r' ∧ c = c' := by
  rcases h with ⟨a, h⟩ | ⟨a, a2, h⟩ | ⟨a, a2, a3, h⟩ | ⟨a, a2, q, hq, h⟩ <;>
  rcases h' with ⟨b, h'⟩ | ⟨b, b2, h'⟩ | ⟨b, b2, b3, h'⟩ | ⟨b, b2, q', hq', h'⟩ <;>
  cases h <;> cases h' <;>
  first | exact ⟨rfl, rfl⟩ | exact ⟨enc_same hq hq', rfl⟩ | (exfalso; omega) | (exfalso; exact a2 b2) | (exfalso; exact b2 a2) | (exfalso; exact a2 b) | (exfalso; exact b2 a)

set_option maxHeartbeats 1000000 in
set_option maxRecDepth 100000 in
theorem implEw_any (s : ByteArray) (w : World) (m : Int) (hm : w.cell? ⟨2, 0, none⟩ = some (.int .i64 m)) (hT : tb.TC w) (hs : s.size ≤ 1048576) :
    Calls Tryz.prog 104 #[.string s] w fun e w' => EwRet s e ∧ Below w.heap.size w w' := by
  by_cases h : s.size ≤ 65536
  case neg =>
    have h' : (65536 : Int) < (s.size : Int) := by omega
    clear hm hT
    go_enter Tryz.func104, Tryz.ntmps104
    go_wp2
    go_ret2
    exact ⟨.inl ⟨by omega, rfl⟩, Below.refl _ _⟩
  have h' : (s.size : Int) ≤ 65536 := by omega
  have hgl := World.block_lt_of_cell? _ _ hm
  have HM : Hid (∀ W, Below w.heap.size w W → W.cell? ⟨2, 0, none⟩ = some (.int .i64 m) ∧ tb.TC W) := fun W hW => ⟨(hW.cell (p := ⟨2, 0, none⟩) hgl).trans hm, tb.keep' hT hW⟩
  clear hm hT hgl
  go_enter Tryz.func104, Tryz.ntmps104
  go_wp2_with fail
  refine (ut.isRight_any s _ hs).mono ?_
  rintro e w' ⟨hn, p, hw⟩
  have hb1 : Below w.heap.size w w' := by rw [hw]; exact (Below.refl _ _).alloc (Nat.le_refl _) _
  clear hw
  by_cases hr : ut.Right s
  case neg =>
    obtain ⟨b, rfl⟩ := ut.says_ex hn
    obtain rfl : b = false := by
      cases b
      · rfl
      · exact absurd ((ut.says_iff hn).1 rfl) hr
    go_wp2
    go_ret2
    exact ⟨.inr (.inl ⟨h, hr, rfl⟩), hb1⟩
  obtain ⟨b, rfl⟩ := ut.says_ex hn
  obtain rfl : b = true := (ut.says_iff hn).2 hr
  have HR : Hid (ut.Right s) := hr
  clear hr hn
  by_cases h1 : s.size ≤ 1000
  case neg =>
    have h1' : (1000 : Int) < (s.size : Int) := by omega
    go_wp2
    go_ret2
    exact ⟨.inr (.inr (.inl ⟨h, HR.out, by omega, rfl⟩)), hb1⟩
  have h1' : (s.size : Int) ≤ 1000 := by omega
  go_wp2_with fail
  refine (sv.impl_any s _ (by unfold maxLen; omega)).mono ?_
  rintro e w2 ⟨hsv, rfl⟩
  by_cases hsafe : Safe s.data.toList
  case neg =>
    obtain rfl := sv.says_false hsv hsafe
    clear hsv
    go_wp2_with fail
    refine (encoded_any s _ (HM.out _ hb1).2 h1).mono ?_
    rintro e w3 ⟨⟨r, rfl, hr⟩, hb⟩
    have HE : Hid (EndsAny s [] r) := hr
    clear hr
    go_wp2
    go_ret2
    exact ⟨.inr (.inr (.inr ⟨HR.out, h1, _, .inr ⟨fun x => hsafe x.1, HE.out⟩, rfl⟩)), hb1.trans (hb.mono hb1.size)⟩
  obtain rfl := sv.says_true hsv hsafe
  have HS : Hid (Safe s.data.toList) := hsafe
  clear hsv hsafe
  go_wp2_with fail
  refine (Tryz.strings_Contains s ⟨#[61, 63]⟩ m _ (by omega) (HM.out _ hb1).1).mono ?_
  rintro e w3 ⟨rfl, rfl⟩
  have HC : Hid (Lib.contains s.data.toList (⟨#[61, 63]⟩ : ByteArray).data.toList = Lib.contains s.data.toList sign) := rfl
  rw [HC.out]
  by_cases hc : Lib.contains s.data.toList sign = true
  · rw [hc]
    go_wp2_with fail
    refine (encoded_any s _ (HM.out _ hb1).2 h1).mono ?_
    rintro e w4 ⟨⟨r, rfl, hr⟩, hb⟩
    have HE : Hid (EndsAny s [] r) := hr
    have HC2 : Hid (Lib.contains s.data.toList sign = true) := hc
    clear hr hc
    go_wp2
    go_ret2
    exact ⟨.inr (.inr (.inr ⟨HR.out, h1, _, .inr ⟨fun x => (by have := x.2; rw [HC2.out] at this; cases this), HE.out⟩, rfl⟩)), hb1.trans (hb.mono hb1.size)⟩
  · have hcf : Lib.contains s.data.toList sign = false := by simpa using hc
    rw [hcf]
    have HC2 : Hid (Lib.contains s.data.toList sign = false) := hcf
    clear hc hcf
    go_wp2_with fail
    refine (ut.clone_any s _ (by omega)).mono ?_
    rintro e w4 ⟨rfl, hb⟩
    go_wp2
    go_ret2
    exact ⟨.inr (.inr (.inr ⟨HR.out, h1, _, .inl ⟨⟨HS.out, HC2.out⟩, rfl⟩, rfl⟩)), hb1.trans (hb.mono hb1.size)⟩
end Go.Proofs.YtclpadmelnbcgaaGreatDoor.hd

namespace Go.Proofs.YtclpadmelnbcgaaGreatDoor.rn
open Go.RowKit
open gr
set_option linter.unusedVariables false

theorem crl_app (a b : B) : crl (a ++ b) = crl a ++ crl b := by simp [crl]
theorem byteCells_one (c : UInt8) : Lib.byteCells [c] = [Value.int .u8 (c.toNat : Int)] := rfl
theorem infoB : (Tryz.prog.info? 5).map (fun i => (i.zero, i.size, i.bytes)) = some (some (.int .u8 0), 1, 1) := by kernel_rfl

set_option maxHeartbeats 4000000 in
set_option maxRecDepth 100000 in
theorem crlf_any (s : ByteArray) (w : World) (hs : s.size ≤ 1048576) :
    Calls Tryz.prog 67 #[.string s] w fun e w' => (∃ v, e = .returned v ∧ w'.ownsRow w.heap.size 5 1 v (crl s.data.toList).length (Lib.byteCells (crl s.data.toList))) ∧ Below w.heap.size w w' := by
  obtain ⟨i0, hi, hz0, hz1, hz2⟩ := info_parts infoB
  go_enter Tryz.func67, Tryz.ntmps67
  go_wp2
  go_loopw [3, 4] (fun v i wr => ∃ (k : Nat) (q : B), k ≤ s.size ∧ i = .int .i64 k ∧ q = crl (s.data.toList.take k) ∧ q.length ≤ 2 * k ∧ wr.ownsRow w.heap.size 5 1 v q.length (Lib.byteCells q) ∧ Below w.heap.size w wr) (fun _ i _ => s.size - (intOf i).toNat)
  case atStart => exact ⟨0, [], Nat.zero_le _, rfl, rfl, by simp, ow.own_empty w _, (Below.refl _ _).alloc (Nat.le_refl _) _⟩
  case round =>
    obtain ⟨k, q, hk, rfl, hq, hql, hown, hbw⟩ := hrel
    have HQ : Hid (q = crl (s.data.toList.take k)) := hq
    clear hq
    have hBs := hbw.size
    by_cases hlt : k < s.size
    · have htk : s.data.toList.take (k + 1) = s.data.toList.take k ++ [s[k]'hlt] := by rw [List.take_succ_eq_append_getElem (by simpa using hlt)]; rfl
      by_cases h10 : ((s[k]'hlt).toNat : Int) = 10
      · have d10 : (((s[k]'hlt).toNat : Int) == 10) = true := beq_iff_eq.2 h10
        have e10 : s[k]'hlt = 10 := by rw [← UInt8.toNat_inj]; show (s[k]'hlt).toNat = 10; omega
        have HN : Hid (q ++ [13] ++ [10] = crl (s.data.toList.take (k + 1))) := (show _ = _ by rw [htk, crl_app, ← HQ.out, e10]; simp [crl])
        clear htk e10
        go_upto_region 7 with (at_builtin; go_loud (refine wpList_append_own _ rfl _ _ 22 rfl w.heap.size 5 i0 (.int .u8 0) 1 1 Tryz.underlying22 hi hz0 hz1 hz2 rfl (by decide) _ _ _ rfl (hown.alloc _) ⟨wr.heap.size, 0, none⟩ 1 1 [.int .u8 13] rfl rfl (ow.cells_new _ [.int .u8 13] _) (by simp [Value.oneCell']) (by unfold maxLen; omega) (by omega) (by simp; omega) ?_); intro v' w3 hown3 hg3 _)
        have hb3 := Below.grown (hbw.alloc hBs _) hg3 (by simp; omega) (ow.own_lt hown)
        have ho3 : w3.ownsRow w.heap.size 5 1 v' (q ++ [13]).length (Lib.byteCells (q ++ [13])) := by
          rw [List.length_append, Lib.byteCells_append]; exact hown3
        have hBs3 := hb3.size
        clear hown hbw hown3 hg3
        go_wp2_with (at_builtin; go_loud (refine wpList_append_own _ rfl _ _ 22 rfl w.heap.size 5 i0 (.int .u8 0) 1 1 Tryz.underlying22 hi hz0 hz1 hz2 rfl (by decide) _ _ _ rfl (ho3.alloc _) ⟨w3.heap.size, 0, none⟩ 1 1 [.int .u8 10] rfl rfl (by have hh := ow.cells_new w3 [Value.int .u8 10] 5; simpa [h10] using hh) (by simp [Value.oneCell']) (by simp; unfold maxLen; omega) (by simp; omega) (by simp; omega) ?_); intro v'' w4 hown4 hg4 _)
        have hb4 := Below.grown (hb3.alloc hBs3 _) hg4 (by simp; omega) (ow.own_lt ho3)
        have HO4 : Hid (w4.ownsRow w.heap.size 5 1 v'' (q ++ [13] ++ [10]).length (Lib.byteCells (q ++ [13] ++ [10]))) := (show w4.ownsRow _ _ _ _ _ _ by
          rw [List.length_append, Lib.byteCells_append]; exact hown4)
        clear hown4 hg4 ho3 hb3
        go_roundw
        case rel => exact ⟨k + 1, q ++ [13] ++ [10], by omega, by go_num, HN.out, by simp; omega, HO4.out, hb4⟩
        case measure => simp [intOf]; omega
      · have d10 : (((s[k]'hlt).toNat : Int) == 10) = false := beq_eq_false_iff_ne.2 h10
        have e10 : s[k]'hlt ≠ 10 := fun e => h10 (by rw [e]; rfl)
        have HN : Hid (q ++ [s[k]'hlt] = crl (s.data.toList.take (k + 1))) := (show _ = _ by rw [htk, crl_app, ← HQ.out]; simp [crl, e10])
        clear htk e10
        go_wp2_with (at_builtin; go_loud (refine wpList_append_own _ rfl _ _ 22 rfl w.heap.size 5 i0 (.int .u8 0) 1 1 Tryz.underlying22 hi hz0 hz1 hz2 rfl (by decide) _ _ _ rfl (hown.alloc _) ⟨wr.heap.size, 0, none⟩ 1 1 [.int .u8 ((s[k]'hlt).toNat : Int)] rfl rfl (ow.cells_new _ [.int .u8 ((s[k]'hlt).toNat : Int)] _) (by simp [Value.oneCell']) (by unfold maxLen; omega) (by omega) (by simp; omega) ?_); intro v' w3 hown3 hg3 _)
        have hb3 := Below.grown (hbw.alloc hBs _) hg3 (by simp; omega) (ow.own_lt hown)
        have HO3 : Hid (w3.ownsRow w.heap.size 5 1 v' (q ++ [s[k]'hlt]).length (Lib.byteCells (q ++ [s[k]'hlt]))) := (show w3.ownsRow _ _ _ _ _ _ by
          rw [List.length_append, Lib.byteCells_append]; exact hown3)
        clear hown hbw hown3 hg3
        go_roundw
        case rel => exact ⟨k + 1, q ++ [s[k]'hlt], by omega, by go_num, HN.out, by simp; omega, HO3.out, hb3⟩
        case measure => simp [intOf]; omega
    · have e : q = crl s.data.toList := by rw [HQ.out, List.take_of_length_le (by rw [← Lib.size_eq]; omega)]
      subst e
      go_wp2
      go_ret
      exact ⟨⟨_, rfl, hown⟩, hbw⟩

theorem encS (s : ByteArray) (h : en.fld s = true) (w : World) : Calls Tryz.prog 62 #[.string s] w fun e w' => e = .returned (.string (EN s)) ∧ Below w.heap.size w w' :=
  (hd.specEncode_any s w (by have := (en.fld_cases h).1; omega)).mono fun e w' ⟨⟨r, he, hr⟩, hb⟩ => ⟨by rw [he, (enc_of h hr).2], hb⟩
theorem enc_fact (s : ByteArray) (h : en.fld s = true) (w : World) (hn : ∃ r, hd.EncIs s r) : Enc s := by
  obtain ⟨r, hr⟩ := hn
  exact (enc_of h hr).1
theorem foldS (nm s : ByteArray) (w : World) (h1 : nm.size ≤ 40) (h2 : s.size ≤ 2000) : Calls Tryz.prog 61 #[.string nm, .string s] w fun e w' => e = .returned (.string (FO nm s)) ∧ Below w.heap.size w w' :=
  (hf.specFold_any nm s w h1 h2).mono fun e w' ⟨⟨r, he, hr⟩, hb⟩ => ⟨by rw [he, fo_is hr], hb⟩
theorem reads_bytes (l : B) : ck.Bytes (b6.bz l) := fun j hj => by
  rw [b6.bz_at]
  have := (l.getD j 0).toNat_lt
  omega
end Go.Proofs.YtclpadmelnbcgaaGreatDoor.rn
