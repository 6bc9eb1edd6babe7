/-
  Contracts of the program's reading of quoted text.
  Contracts of the program's reading of quoted text: the beginning, and the whole.
  Plain facts: a text whose ends of lines of two bytes are turned into ends of one byte.
  The contract of the program's (letter).content: what a mail's body says.
  Plain facts on numbers of digits, forms and zones.
-/
import Derived.Test.YtadfdfmebdcfgaaGreatDoorPkaf
import Derived.Test.YtadfdfmebdcfgaaGreatDoorPkav
import Derived.Test.YtadfdfmebdcfgaaGreatDoorPkak
import Derived.Deep.RegionWith
import Derived.WalkKit
import Derived.Lib.ReplaceLaws
import Derived.Test.YtadfdfmebdcfgaaGreatDoorPkax
import Derived.Test.YtadfdfmebdcfgaaGreatDoorPkad
import Derived.Test.YtadfdfmebdcfgaaGreatDoorPkab
import Derived.Test.YtadfdfmebdcfgaaGreatDoorPkaq

namespace Go.Proofs.YtadfdfmebdcfgaaGreatDoor.qu
open Go.RowKit
set_option linter.unusedVariables false

theorem dx0 (wx : World) : (Instr.index 145 (.agg ((b6.bz tb.digs).map (Value.int .u8)).toArray) (.int .i64 0)).run Tryz.prog wx = .ok (.int .u8 ((hx 0).toNat : Int)) wx := by kernel_rfl
theorem dx1 (wx : World) : (Instr.index 145 (.agg ((b6.bz tb.digs).map (Value.int .u8)).toArray) (.int .i64 1)).run Tryz.prog wx = .ok (.int .u8 ((hx 1).toNat : Int)) wx := by kernel_rfl
theorem dx2 (wx : World) : (Instr.index 145 (.agg ((b6.bz tb.digs).map (Value.int .u8)).toArray) (.int .i64 2)).run Tryz.prog wx = .ok (.int .u8 ((hx 2).toNat : Int)) wx := by kernel_rfl
theorem dx3 (wx : World) : (Instr.index 145 (.agg ((b6.bz tb.digs).map (Value.int .u8)).toArray) (.int .i64 3)).run Tryz.prog wx = .ok (.int .u8 ((hx 3).toNat : Int)) wx := by kernel_rfl
theorem dx4 (wx : World) : (Instr.index 145 (.agg ((b6.bz tb.digs).map (Value.int .u8)).toArray) (.int .i64 4)).run Tryz.prog wx = .ok (.int .u8 ((hx 4).toNat : Int)) wx := by kernel_rfl
theorem dx5 (wx : World) : (Instr.index 145 (.agg ((b6.bz tb.digs).map (Value.int .u8)).toArray) (.int .i64 5)).run Tryz.prog wx = .ok (.int .u8 ((hx 5).toNat : Int)) wx := by kernel_rfl
theorem dx6 (wx : World) : (Instr.index 145 (.agg ((b6.bz tb.digs).map (Value.int .u8)).toArray) (.int .i64 6)).run Tryz.prog wx = .ok (.int .u8 ((hx 6).toNat : Int)) wx := by kernel_rfl
theorem dx7 (wx : World) : (Instr.index 145 (.agg ((b6.bz tb.digs).map (Value.int .u8)).toArray) (.int .i64 7)).run Tryz.prog wx = .ok (.int .u8 ((hx 7).toNat : Int)) wx := by kernel_rfl
theorem dx8 (wx : World) : (Instr.index 145 (.agg ((b6.bz tb.digs).map (Value.int .u8)).toArray) (.int .i64 8)).run Tryz.prog wx = .ok (.int .u8 ((hx 8).toNat : Int)) wx := by kernel_rfl
theorem dx9 (wx : World) : (Instr.index 145 (.agg ((b6.bz tb.digs).map (Value.int .u8)).toArray) (.int .i64 9)).run Tryz.prog wx = .ok (.int .u8 ((hx 9).toNat : Int)) wx := by kernel_rfl
theorem dx10 (wx : World) : (Instr.index 145 (.agg ((b6.bz tb.digs).map (Value.int .u8)).toArray) (.int .i64 10)).run Tryz.prog wx = .ok (.int .u8 ((hx 10).toNat : Int)) wx := by kernel_rfl
theorem dx11 (wx : World) : (Instr.index 145 (.agg ((b6.bz tb.digs).map (Value.int .u8)).toArray) (.int .i64 11)).run Tryz.prog wx = .ok (.int .u8 ((hx 11).toNat : Int)) wx := by kernel_rfl
theorem dx12 (wx : World) : (Instr.index 145 (.agg ((b6.bz tb.digs).map (Value.int .u8)).toArray) (.int .i64 12)).run Tryz.prog wx = .ok (.int .u8 ((hx 12).toNat : Int)) wx := by kernel_rfl
theorem dx13 (wx : World) : (Instr.index 145 (.agg ((b6.bz tb.digs).map (Value.int .u8)).toArray) (.int .i64 13)).run Tryz.prog wx = .ok (.int .u8 ((hx 13).toNat : Int)) wx := by kernel_rfl
theorem dx14 (wx : World) : (Instr.index 145 (.agg ((b6.bz tb.digs).map (Value.int .u8)).toArray) (.int .i64 14)).run Tryz.prog wx = .ok (.int .u8 ((hx 14).toNat : Int)) wx := by kernel_rfl
theorem dx15 (wx : World) : (Instr.index 145 (.agg ((b6.bz tb.digs).map (Value.int .u8)).toArray) (.int .i64 15)).run Tryz.prog wx = .ok (.int .u8 ((hx 15).toNat : Int)) wx := by kernel_rfl
theorem dx_at (tt : Array Value) (htt : tt = ((b6.bz tb.digs).map (Value.int .u8)).toArray) (k : Nat) (h : k < 16) (wx : World) : (Instr.index 145 (.agg tt) (.int .i64 (k : Int))).run Tryz.prog wx = .ok (.int .u8 ((hx k).toNat : Int)) wx := by
  subst htt
  match k, h with
  | 0, _ => exact dx0 wx
  | 1, _ => exact dx1 wx
  | 2, _ => exact dx2 wx
  | 3, _ => exact dx3 wx
  | 4, _ => exact dx4 wx
  | 5, _ => exact dx5 wx
  | 6, _ => exact dx6 wx
  | 7, _ => exact dx7 wx
  | 8, _ => exact dx8 wx
  | 9, _ => exact dx9 wx
  | 10, _ => exact dx10 wx
  | 11, _ => exact dx11 wx
  | 12, _ => exact dx12 wx
  | 13, _ => exact dx13 wx
  | 14, _ => exact dx14 wx
  | 15, _ => exact dx15 wx
  | n + 16, h => exact absurd h (by omega)
theorem hv_hx_all : ∀ k : Fin 16, hv (hx k.val) = (k.val : Int) := by decide +kernel
theorem hv_none_all : ∀ n : Fin 256, (∀ k : Fin 16, hx k.val ≠ UInt8.ofNat n.val) → hv (UInt8.ofNat n.val) = -1 := by decide +kernel
theorem hv_none (c : UInt8) (h : ∀ k, k < 16 → hx k ≠ c) : hv c = -1 :=
  b6.byte_all (p := fun c => (∀ k : Fin 16, hx k.val ≠ c) → hv c = -1) hv_none_all c (fun k => h k.val k.isLt)

set_option maxHeartbeats 1000000 in
set_option maxRecDepth 100000 in
theorem digit_any (c : UInt8) (w : World) (h : tb.TD w) : Calls Tryz.prog 204 #[.int .u8 (c.toNat : Int)] w fun e w' => e = .returned (.int .i64 (hv c)) ∧ w' = w := by
  obtain ⟨t, fr, h⟩ := h
  obtain ⟨tt, htt⟩ : ∃ tt, tt = ((b6.bz tb.digs).map (Value.int .u8)).toArray := ⟨_, rfl⟩
  rw [← htt] at h
  have HIX : Hid (∀ (k : Nat) (h : k < 16) (wx : World), (Instr.index 145 (.agg tt) (.int .i64 (k : Int))).run Tryz.prog wx = .ok (.int .u8 ((hx k).toNat : Int)) wx) := dx_at tt htt
  have hsz : (Tryz.prog.info? 145).map (·.size) = some tt.size := by rw [htt]; kernel_rfl
  clear htt
  go_enter Tryz.func204, Tryz.ntmps204
  go_wp2_with (refine wpList_load_row rfl 145 _ rfl 2 rfl t tt fr _ h Tryz.underlying145 rfl hsz ?_)
  go_loop [3, 4, 6] (fun _ _ i => ∃ k : Nat, k ≤ 16 ∧ i = .int .i64 k ∧ Hid (∀ j, j < k → hx j ≠ c)) (fun _ _ i => 16 - (intOf i).toNat)
  case atStart => exact ⟨0, Nat.zero_le _, rfl, fun j hj => absurd hj (Nat.not_lt_zero _)⟩
  case round =>
    clear h hsz
    obtain ⟨k, hk, rfl, HG⟩ := hrel
    by_cases hlt : k < 16
    · have hlt' : (k : Int) < 16 := by omega
      have hxx := HIX.out k hlt
      by_cases he : hx k = c
      · have hv' : hv c = (k : Int) := by rw [← he]; exact hv_hx_all ⟨k, hlt⟩
        have HV : Hid (hv c = (k : Int)) := hv'
        rw [he] at hxx
        clear he hv'
        have hbe : ((c.toNat : Int) == (c.toNat : Int)) = true := beq_self_eq_true _
        go_wp2
        go_ret
        exact ⟨by rw [HV.out]; rfl, rfl⟩
      · have hne : (((hx k).toNat : Int) == (c.toNat : Int)) = false := by
          rw [beq_eq_false_iff_ne]
          intro e
          exact he (UInt8.toNat_inj.1 (by omega))
        have hne2 : ¬ (hx k).toNat = c.toNat := fun e => he (UInt8.toNat_inj.1 e)
        have HE : Hid (hx k ≠ c) := he
        clear he
        generalize (hx k).toNat = x at hxx hne hne2
        go_wp2
        go_round
        case rel => exact ⟨k + 1, by omega, by go_num, fun j hj => by
          by_cases e : j = k
          · subst e; exact HE.out
          · exact HG.out j (by omega)⟩
        case measure => simp [intOf]; omega
    · have hlt' : 16 ≤ (k : Int) := by omega
      go_wp2
      go_ret
      exact ⟨by rw [hv_none c (fun j hj => HG.out j (by omega))]; rfl, rfl⟩

theorem str_ix2 (s : ByteArray) (z : Int) (j : Nat) (hz : z = j) (hj : j < s.size) (wx : World) : (Instr.index 9 (.string s) (.int .i64 z)).run Tryz.prog wx = .ok (.int .u8 ((s.data.toList.getD j 0).toNat : Int)) wx := by
  subst hz
  have hb : s[(j : Int).toNat]'(by simpa using hj) = s[j]'hj := by simp
  have hc : s.data.toList.getD j 0 = s[j]'hj := by
    rw [List.getD_eq_getElem?_getD, Array.getElem?_toList, Array.getElem?_eq_getElem (show j < s.data.size from hj)]
    rfl
  rw [run_index_string wx 9 s .i64 (j : Int) Tryz.underlying9, dif_pos ⟨by omega, by omega⟩, hb, hc]

/-- What a beginning that was read comes to: its bytes, and how many said it. -/
def First (o : Option (List UInt8 × Nat)) (e : Ending) : Prop :=
  ∃ p : ByteArray, e = .returned (.tuple #[.string p, .int .i64 ((o.map (·.2)).getD 0 : Nat)]) ∧ p.data.toList = (o.map (·.1)).getD []
theorem first_none {o : Option (List UInt8 × Nat)} (h : o = none) : First o (.returned (.tuple #[.string ⟨#[]⟩, .int .i64 0])) := by subst h; exact ⟨_, rfl, rfl⟩
theorem first_some {o : Option (List UInt8 × Nat)} {p : List UInt8} {n : Nat} (h : o = some (p, n)) : First o (.returned (.tuple #[.string ⟨p.toArray⟩, .int .i64 (n : Int)])) := by subst h; exact ⟨_, rfl, rfl⟩

set_option maxHeartbeats 2000000 in
set_option maxRecDepth 100000 in
theorem byte_any (s : ByteArray) (w : World) (hs : s.size ≤ 65536) (hT : tb.TD w) :
    Calls Tryz.prog 192 #[.string s] w fun e w' => First (if s.size < 3 ∨ hv (s.data.toList.getD 1 0) < 0 ∨ hv (s.data.toList.getD 2 0) < 0 then none else some ([UInt8.ofNat ((hv (s.data.toList.getD 1 0)).toNat * 16 + (hv (s.data.toList.getD 2 0)).toNat)], 3)) e ∧ Below w.heap.size w w' := by
  have hs' : (s.size : Int) ≤ 65536 := by omega
  by_cases h3 : s.size < 3
  · have h3' : (s.size : Int) < 3 := by omega
    have HX := first_none (o := if s.size < 3 ∨ hv (s.data.toList.getD 1 0) < 0 ∨ hv (s.data.toList.getD 2 0) < 0 then none else some ([UInt8.ofNat ((hv (s.data.toList.getD 1 0)).toNat * 16 + (hv (s.data.toList.getD 2 0)).toNat)], 3)) (if_pos (.inl h3))
    clear hT
    generalize (if s.size < 3 ∨ hv (s.data.toList.getD 1 0) < 0 ∨ hv (s.data.toList.getD 2 0) < 0 then none else some ([UInt8.ofNat ((hv (s.data.toList.getD 1 0)).toNat * 16 + (hv (s.data.toList.getD 2 0)).toNat)], 3)) = o at HX ⊢
    have HX : Hid (First o (.returned (.tuple #[.string ⟨#[]⟩, .int .i64 0]))) := HX
    go_enter Tryz.func192, Tryz.ntmps192
    go_wp2
    go_ret2
    exact ⟨HX.out, Below.refl _ _⟩
  have h3d : decide ((s.size : Int) < 3) = false := decide_eq_false (by omega)
  have v1 := str_ix2 s 1 1 rfl (by omega)
  have v2 := str_ix2 s 2 2 rfl (by omega)
  have HO : Hid (∀ o : Option (List UInt8 × Nat), o = (if s.size < 3 ∨ hv (s.data.toList.getD 1 0) < 0 ∨ hv (s.data.toList.getD 2 0) < 0 then none else some ([UInt8.ofNat ((hv (s.data.toList.getD 1 0)).toNat * 16 + (hv (s.data.toList.getD 2 0)).toNat)], 3)) → o = if hv (s.data.toList.getD 1 0) < 0 ∨ hv (s.data.toList.getD 2 0) < 0 then none else some ([UInt8.ofNat ((hv (s.data.toList.getD 1 0)).toNat * 16 + (hv (s.data.toList.getD 2 0)).toNat)], 3)) := fun o h => by rw [h]; simp only [h3, false_or]
  generalize ho : (if s.size < 3 ∨ hv (s.data.toList.getD 1 0) < 0 ∨ hv (s.data.toList.getD 2 0) < 0 then none else some ([UInt8.ofNat ((hv (s.data.toList.getD 1 0)).toNat * 16 + (hv (s.data.toList.getD 2 0)).toNat)], 3)) = o
  have HO2 := HO.out o ho.symm
  clear HO ho
  generalize s.data.toList.getD 1 0 = c1 at v1 HO2
  generalize s.data.toList.getD 2 0 = c2 at v2 HO2
  have HO3 : Hid (o = if hv c1 < 0 ∨ hv c2 < 0 then none else some ([UInt8.ofNat ((hv c1).toNat * 16 + (hv c2).toNat)], 3)) := HO2
  clear HO2
  have C1 : Hid (∀ W, tb.TD W → Calls Tryz.prog 204 #[.int .u8 (c1.toNat : Int)] W fun e w' => e = .returned (.int .i64 (hv c1)) ∧ w' = W) := fun W hW => digit_any c1 W hW
  have C2 : Hid (∀ W, tb.TD W → Calls Tryz.prog 204 #[.int .u8 (c2.toNat : Int)] W fun e w' => e = .returned (.int .i64 (hv c2)) ∧ w' = W) := fun W hW => digit_any c2 W hW
  have q1 := hv_cases c1
  have q2 := hv_cases c2
  have Q12 : Hid ((hv c1 = -1 ∨ (0 ≤ hv c1 ∧ hv c1 < 16)) ∧ (hv c2 = -1 ∨ (0 ≤ hv c2 ∧ hv c2 < 16))) := ⟨q1, q2⟩
  clear q1 q2
  have HTD : Hid (tb.TD w) := hT
  clear hT
  go_enter Tryz.func192, Tryz.ntmps192
  go_upto_region 3 with fail
  go_cut [4, 5] (fun a b wx => a = .int .i64 (hv c1) ∧ b = .int .i64 (hv c2) ∧ Below w.heap.size w wx)
  case first =>
    generalize c1.toNat = x1 at v1 C1
    generalize c2.toNat = x2 at v2 C2
    go_region_with (first
      | (go_at_call_of 204 (Value.int IntKind.u8 (x1 : Int)); refine (C1.out _ ?_).mono ?_; exact HTD.out; rintro e wz ⟨rfl, rfl⟩)
      | (go_at_call_of 204 (Value.int IntKind.u8 (x2 : Int)); refine (C2.out _ ?_).mono ?_; exact HTD.out; rintro e wz ⟨rfl, rfl⟩))
    all_goals (try go_wp2_with fail)
    all_goals go_meet
    all_goals exact ⟨rfl, rfl, (Below.refl _ _).drew⟩
  case rest =>
    obtain ⟨rfl, rfl, hb⟩ := hcut
    go_at_K
    clear C1 C2 v1 v2 HTD
    by_cases h1 : hv c1 < 0
    · have h1d : decide (hv c1 < 0) = true := decide_eq_true h1
      have HX : Hid (First o (.returned (.tuple #[.string ⟨#[]⟩, .int .i64 0]))) := first_none (by rw [HO3.out, if_pos (.inl h1)])
      clear HO3 Q12
      generalize hv c1 = y1 at h1 h1d ⊢
      generalize hv c2 = y2
      go_wp2
      go_ret2
      exact ⟨HX.out, hb⟩
    have h1d : decide (hv c1 < 0) = false := decide_eq_false h1
    by_cases h2 : hv c2 < 0
    · have h2d : decide (hv c2 < 0) = true := decide_eq_true h2
      have HX : Hid (First o (.returned (.tuple #[.string ⟨#[]⟩, .int .i64 0]))) := first_none (by rw [HO3.out, if_pos (.inr h2)])
      clear HO3 Q12
      generalize hv c1 = y1 at h1 h1d ⊢
      generalize hv c2 = y2 at h2 h2d ⊢
      go_wp2
      go_ret2
      exact ⟨HX.out, hb⟩
    have h2d : decide (hv c2 < 0) = false := decide_eq_false h2
    obtain ⟨y1, hy1⟩ : ∃ h : Nat, hv c1 = (h : Int) := ⟨(hv c1).toNat, by omega⟩
    obtain ⟨y2, hy2⟩ : ∃ h : Nat, hv c2 = (h : Int) := ⟨(hv c2).toNat, by omega⟩
    have k1 : y1 < 16 := by rcases Q12.out.1 with h | h <;> omega
    have k2 : y2 < 16 := by rcases Q12.out.2 with h | h <;> omega
    have HX : Hid (First o (.returned (.tuple #[.string ⟨#[UInt8.ofNat (y1 * 16 + y2)]⟩, .int .i64 3]))) := by
      have h5 := first_some (o := o) (p := [UInt8.ofNat (y1 * 16 + y2)]) (n := 3) (by rw [HO3.out, if_neg (by omega), hy1, hy2]; rfl)
      exact h5
    rw [hy1] at h1d ⊢
    rw [hy2] at h2d ⊢
    clear HO3 Q12 hy1 hy2 h1 h2
    have cvn := conv_new wc [UInt8.ofNat (y1 * 16 + y2)] (by simp)
    have eb : Lib.byteCells [UInt8.ofNat (y1 * 16 + y2)] = [Value.int .u8 ((y1 : Int) * 16 + (y2 : Int))] := by
      show [Value.int .u8 ((UInt8.ofNat (y1 * 16 + y2)).toNat : Int)] = _
      have : ((UInt8.ofNat (y1 * 16 + y2)).toNat : Int) = (y1 : Int) * 16 + (y2 : Int) := by rw [UInt8.toNat_ofNat']; omega
      rw [this]
    rw [eb] at cvn
    have cvn2 : (convert 22 9 (.slice (some ⟨wc.heap.size, 0, none⟩) 1 1)).run Tryz.prog (wc.alloc (.cells #[Value.int .u8 ((y1 : Int) * 16 + (y2 : Int))] 5)) = .ok (.string ⟨#[UInt8.ofNat (y1 * 16 + y2)]⟩) (wc.alloc (.cells #[Value.int .u8 ((y1 : Int) * 16 + (y2 : Int))] 5)) := cvn
    clear cvn eb
    have j1 : (y1 : Int) < 16 := by omega
    have j2 : (y2 : Int) < 16 := by omega
    generalize UInt8.ofNat (y1 * 16 + y2) = bb at HX cvn2
    have eo : bits .or .i64 ((y1 : Int) * 16) (y2 : Int) = (y1 : Int) * 16 + (y2 : Int) := by
      have h7 := b6.or_add 4 (y1 * 16) y2 (by omega) (by omega) (by omega) (by omega) (by decide)
      rw [show (((y1 * 16 : Nat)) : Int) = (y1 : Int) * 16 from by omega] at h7
      rw [h7]
      omega
    go_wp2
    go_ret2
    exact ⟨HX.out, hb.alloc hb.size _⟩
end Go.Proofs.YtadfdfmebdcfgaaGreatDoor.qu

namespace Go.Proofs.YtadfdfmebdcfgaaGreatDoor.qu
open Go.RowKit
set_option linter.unusedVariables false

theorem prefix_soft (s : ByteArray) : Lib.hasPrefix s.data.toList (⟨#[61, 13, 10]⟩ : ByteArray).data.toList = soft s.data.toList := by
  unfold Lib.hasPrefix
  rw [Bool.eq_iff_iff, List.isPrefixOf_iff_prefix, soft_iff]
  constructor
  · rintro ⟨t, ht⟩
    exact ⟨t, ht.symm⟩
  · rintro ⟨t, ht⟩
    exact ⟨t, ht.symm⟩
theorem pre3_any (s : ByteArray) (w : World) : Calls Tryz.prog 94 #[.string s, .string ⟨#[61, 13, 10]⟩] w fun e w' => e = .returned (.bool (soft s.data.toList)) ∧ w' = w := by
  have := Tryz.strings_HasPrefix s ⟨#[61, 13, 10]⟩ w
  rw [prefix_soft] at this
  exact this
theorem ls61 : ∀ c : UInt8, ((c.toNat : Int) == 61) = (c == 61) := fun c => b6.byte_all (p := fun c => ((c.toNat : Int) == 61) = (c == 61)) (by decide +kernel) c

set_option maxHeartbeats 2000000 in
set_option maxRecDepth 100000 in
theorem first_any (s : ByteArray) (w : World) (hs : s.size ≤ 65536) (h1 : 1 ≤ s.size) (hT : tb.TD w) :
    Calls Tryz.prog 171 #[.string s] w fun e w' => First (fq s.data.toList) e ∧ Below w.heap.size w w' := by
  have v0 := str_ix2 s 0 0 rfl (by omega)
  have HFQ : Hid (fq s.data.toList = if soft s.data.toList then some ([], 3) else if crlf s.data.toList then some ([13, 10], 2)
      else if s.data.toList.getD 0 0 = 61 then (if s.size < 3 ∨ hv (s.data.toList.getD 1 0) < 0 ∨ hv (s.data.toList.getD 2 0) < 0 then none else some ([UInt8.ofNat ((hv (s.data.toList.getD 1 0)).toNat * 16 + (hv (s.data.toList.getD 2 0)).toNat)], 3))
      else if 32 ≤ (s.data.toList.getD 0 0).toNat ∧ (s.data.toList.getD 0 0).toNat ≤ 126 then some ([s.data.toList.getD 0 0], 1) else none) := rfl
  have HBY : Hid (Calls Tryz.prog 192 #[.string s] w fun e w' => First (if s.size < 3 ∨ hv (s.data.toList.getD 1 0) < 0 ∨ hv (s.data.toList.getD 2 0) < 0 then none else some ([UInt8.ofNat ((hv (s.data.toList.getD 1 0)).toNat * 16 + (hv (s.data.toList.getD 2 0)).toNat)], 3)) e ∧ Below w.heap.size w w') := byte_any s w hs hT
  generalize (if s.size < 3 ∨ hv (s.data.toList.getD 1 0) < 0 ∨ hv (s.data.toList.getD 2 0) < 0 then none else some ([UInt8.ofNat ((hv (s.data.toList.getD 1 0)).toNat * 16 + (hv (s.data.toList.getD 2 0)).toNat)], 3)) = ob at HFQ HBY
  have HEX : Hid ((s.extract 0 1).data.toList = [s.data.toList.getD 0 0]) := by
    rw [Lib.extract_data, List.drop_zero]
    cases hh : s.data.toList with
    | nil => exact absurd (show s.data.toList.length = 0 by rw [hh]; rfl) (by show ¬ s.size = 0; omega)
    | cons a t => exact rfl
  generalize s.data.toList.getD 0 0 = c0 at v0 HFQ HEX
  have b61 := ls61 c0
  have hc0 := c0.toNat_lt
  have HL61 : Hid (((c0.toNat : Int) == 61) = (c0 == 61)) := b61
  clear b61 hT
  have h1' : (1 : Int) ≤ (s.size : Int) := by omega
  generalize hF : fq s.data.toList = F at HFQ
  clear hF
  go_enter Tryz.func171, Tryz.ntmps171
  go_wp2_with fail
  refine (pre3_any s _).mono ?_
  rintro e w1 ⟨rfl, hw1⟩
  subst hw1
  cases hso : soft s.data.toList
  case true =>
    have HX : Hid (First F (.returned (.tuple #[.string ⟨#[]⟩, .int .i64 3]))) := first_some (p := []) (n := 3) (by rw [HFQ.out, if_pos hso])
    clear HFQ HBY HEX
    go_wp2
    go_ret2
    exact ⟨HX.out, Below.refl _ _⟩
  case false =>
    go_wp2_with fail
    refine (pre_any s _).mono ?_
    rintro e w2 ⟨rfl, hw2⟩
    subst hw2
    cases hcr : crlf s.data.toList
    case true =>
      have HX : Hid (First F (.returned (.tuple #[.string ⟨#[13, 10]⟩, .int .i64 2]))) := first_some (p := [13, 10]) (n := 2) (by rw [HFQ.out, hso, if_neg (by decide), if_pos hcr])
      clear HFQ HBY HEX
      go_wp2
      go_ret2
      exact ⟨HX.out, Below.refl _ _⟩
    case false =>
      by_cases e61 : c0 = 61
      · have hb61 : ((c0.toNat : Int) == 61) = true := by rw [HL61.out, e61]; rfl
        have HOB : Hid (F = ob) := (show F = ob from by rw [HFQ.out, hso, hcr, if_neg (by decide), if_neg (by decide), if_pos e61])
        clear HFQ HEX e61 HL61
        go_wp2_with fail
        refine HBY.out.mono ?_
        rintro e w3 ⟨⟨p, rfl, hp⟩, hb⟩
        rw [← HOB.out] at hp ⊢
        have HP : Hid (p.data.toList = (F.map (·.1)).getD []) := hp
        clear hp HBY HOB
        go_wp2
        go_ret2
        exact ⟨⟨p, rfl, HP.out⟩, hb⟩
      · have hb61 : ((c0.toNat : Int) == 61) = false := by rw [HL61.out]; simpa using e61
        by_cases hin : 32 ≤ c0.toNat ∧ c0.toNat ≤ 126
        · have h32 : (32 : Int) ≤ (c0.toNat : Int) := by omega
          have h32d : decide ((32 : Int) ≤ (c0.toNat : Int)) = true := decide_eq_true h32
          have h126 : (c0.toNat : Int) ≤ 126 := by omega
          have h126d : decide ((c0.toNat : Int) ≤ 126) = true := decide_eq_true h126
          have HX : Hid (First F (.returned (.tuple #[.string (s.extract 0 1), .int .i64 1]))) := ⟨_, by rw [HFQ.out, hso, hcr, if_neg (by decide), if_neg (by decide), if_neg e61, if_pos hin]; rfl, by rw [HEX.out, HFQ.out, hso, hcr, if_neg (by decide), if_neg (by decide), if_neg e61, if_pos hin]; rfl⟩
          clear HFQ HBY HEX e61 HL61 hin
          generalize c0.toNat = x0 at v0 hb61 hc0 h32 h32d h126 h126d
          go_wp2
          go_ret2
          exact ⟨HX.out, Below.refl _ _⟩
        · have HX : Hid (First F (.returned (.tuple #[.string ⟨#[]⟩, .int .i64 0]))) := first_none (by rw [HFQ.out, hso, hcr, if_neg (by decide), if_neg (by decide), if_neg e61, if_neg hin])
          clear HFQ HBY HEX e61 HL61
          by_cases h32 : (32 : Int) ≤ (c0.toNat : Int)
          · have h32d : decide ((32 : Int) ≤ (c0.toNat : Int)) = true := decide_eq_true h32
            have h126d : decide ((c0.toNat : Int) ≤ 126) = false := decide_eq_false (by omega)
            clear hin
            generalize c0.toNat = x0 at v0 hb61 hc0 h32 h32d h126d
            go_wp2
            go_ret2
            exact ⟨HX.out, Below.refl _ _⟩
          · have h32d : decide ((32 : Int) ≤ (c0.toNat : Int)) = false := decide_eq_false h32
            clear hin
            generalize c0.toNat = x0 at v0 hb61 hc0 h32 h32d
            go_wp2
            go_ret2
            exact ⟨HX.out, Below.refl _ _⟩

/-- What both readings answer. -/
def Got (s : ByteArray) (base : Nat) (e : Ending) (w' : World) : Prop :=
  ∃ v, e = .returned (.tuple #[v, .int .i64 (uc s)]) ∧ w'.ownsRow base 5 1 v (ul s).length (Lib.byteCells (ul s))
theorem got_none {s : ByteArray} {base : Nat} {w : World} {c : Int} (h1 : ul s = []) (h2 : uc s = c) : Got s base (.returned (.tuple #[.slice none 0 0, .int .i64 c])) w :=
  ⟨_, by rw [h2], by rw [h1]; exact World.ownsRow_nil _ _ _ _⟩

set_option maxHeartbeats 4000000 in
set_option maxRecDepth 100000 in
theorem implUn_any (s : ByteArray) (w : World) (hT : tb.TD w) (hs : s.size ≤ maxLen) :
    Calls Tryz.prog 126 #[.string s] w fun e w' => Got s w.heap.size e w' ∧ Below w.heap.size w w' := by
  unfold maxLen at hs
  by_cases hl : s.size ≤ 65536
  case neg =>
    have hd : (65536 : Int) < (s.size : Int) := by omega
    have HX : Hid (ul s = [] ∧ uc s = 2) := ⟨if_neg hl, if_neg hl⟩
    clear hT
    go_enter Tryz.func126, Tryz.ntmps126
    go_wp2
    go_ret2
    exact ⟨got_none HX.out.1 HX.out.2, Below.refl _ _⟩
  have hld : decide (65536 < (s.size : Int)) = false := decide_eq_false (by omega)
  have hl' : (s.size : Int) ≤ 65536 := by omega
  obtain ⟨i0, hi, hz0, hz1, hz2⟩ := info_parts bl.info1
  have HTT : Hid (∀ W, Below w.heap.size w W → tb.TD W) := fun W hW => tb.keep' hT hW
  clear hT
  go_enter Tryz.func126, Tryz.ntmps126
  go_wp2_with (at_make; go_loud (refine wpList_make_own _ rfl _ _ 22 rfl w.heap.size 5 i0 (.int .u8 0) 1 Tryz.underlying22 hi hz0 hz1 _ _ _ s.size rfl rfl rfl (by rw [hz2]; omega) (by unfold maxLen; omega) (Nat.le_refl _) ?_); intro w1 hown1 hg1)
  have hbw1 : Below w.heap.size w w1 := (Below.refl _ _).grown hg1 (Nat.le_refl _) (fun k hk => by cases hk)
  clear hg1
  go_loopw [0, 4] (fun x b wr => ∃ (r : ByteArray) (q : List UInt8), x = .string r ∧ Hid (r.size + q.length ≤ s.size) ∧ Hid ((uq r.data.toList).map (q ++ ·) = uq s.data.toList) ∧ wr.ownsRow w.heap.size 5 1 b q.length (Lib.byteCells q) ∧ Below w.heap.size w wr) (fun x _ _ => sz x)
  case atStart => exact ⟨s, [], rfl, Nat.le_of_eq (Nat.add_zero _), (show (uq s.data.toList).map ([] ++ ·) = uq s.data.toList from by simp), hown1, hbw1⟩
  case round =>
    clear hown1 hbw1
    obtain ⟨r, q, rfl, HSZ, HQ, hown, hbw⟩ := hrel
    by_cases hr : r.size = 0
    · have hE : r.toList.isEmpty = true := by
        rw [ByteArray.toList_eq, List.isEmpty_iff]
        exact List.eq_nil_of_length_eq_zero hr
      have HX : Hid (ul s = q ∧ uc s = 0) := ul_some hl (by rw [← HQ.out, List.eq_nil_of_length_eq_zero (show r.data.toList.length = 0 from hr), uq_nil]; simp)
      clear HQ
      go_wp2
      go_ret2
      exact ⟨⟨_, by rw [HX.out.2]; rfl, by rw [HX.out.1]; exact hown⟩, hbw⟩
    · have hr1 : 1 ≤ r.size := by omega
      have hE : r.toList.isEmpty = false := by
        rw [ByteArray.toList_eq]
        cases hh : r.data.toList with
        | nil => exact absurd (show r.data.toList.length = 0 by rw [hh]; rfl) hr
        | cons => rfl
      have hne : r.data.toList ≠ [] := fun e => hr (show r.data.toList.length = 0 by rw [e]; rfl)
      have HNE : Hid (r.data.toList ≠ []) := hne
      clear hne
      go_wp2_with fail
      refine (first_any r _ (by have := HSZ.out; omega) hr1 (HTT.out _ hbw)).mono ?_
      rintro e w2 ⟨⟨p, rfl, hp⟩, hb2⟩
      have hbw2 := hbw.trans (hb2.mono hbw.size)
      have hown2 := ow.own_below hown hb2
      clear hown hb2 hbw
      cases hfq : fq r.data.toList with
      | none =>
        have HX : Hid (ul s = [] ∧ uc s = 3) := ul_none hl (u_fall HNE.out HQ.out hfq)
        clear HQ hown2 hp hfq
        go_wp2
        go_ret2
        exact ⟨got_none HX.out.1 HX.out.2, hbw2⟩
      | some pn =>
        obtain ⟨p', n⟩ := pn
        obtain ⟨k1, k2, k3⟩ := fq_size hfq HNE.out
        have k2 : n ≤ r.size := k2
        have HM : Hid ((uq (r.data.toList.drop n)).map ((q ++ p') ++ ·) = uq s.data.toList) := u_more HNE.out HQ.out hfq
        rw [hfq] at hp
        have hpp : p.data.toList = p' := hp
        have hpl : p.size = p'.length := by rw [← hpp]; rfl
        have HPP : Hid (p.data.toList = p') := hpp
        clear HQ hp hfq hpp
        simp only [Option.map_some, Option.getD_some]
        have hn0 : ((n : Int) == 0) = false := by rw [beq_eq_false_iff_ne]; omega
        have hn1 : (n : Int) ≤ (r.size : Int) := by omega
        have hn2 : (1 : Int) ≤ (n : Int) := by omega
        have hsw := hbw2.size
        go_wp2_with (at_builtin; go_loud (refine Lib.wpList_append_own_string _ rfl _ _ 22 9 rfl w.heap.size 5 i0 Tryz.underlying22 Tryz.underlying9 hi hz0 hz1 hz2 _ _ _ rfl hown2 p rfl (by have := HSZ.out; unfold maxLen; omega) (by have := HSZ.out; omega) hsw ?_); intro v' w3 hown' hgrow _)
        have hbz := hbw2.grown hgrow hsw (ow.own_lt hown2)
        have hown3 : w3.ownsRow w.heap.size 5 1 v' (q ++ p').length (Lib.byteCells (q ++ p')) := by
          rw [List.length_append, Lib.byteCells_append, ← HPP.out, ← Lib.strCells_eq]
          exact hown'
        exact ⟨⟨_, q ++ p', rfl, (show (r.extract n r.size).size + (q ++ p').length ≤ s.size from by rw [ext_size r n k2, List.length_append]; have := HSZ.out; omega), (by rw [ext_drop r n k2]; exact HM), hown3, hbz⟩, by show (r.extract n r.size).size < r.size; rw [ext_size r n k2]; omega⟩
end Go.Proofs.YtadfdfmebdcfgaaGreatDoor.qu

namespace Go.Proofs.YtadfdfmebdcfgaaGreatDoor.lfp
open Go.RowKit
set_option linter.unusedVariables false

/-- Each 13 ahead of a 10 left out. -/
def lfr : List UInt8 → List UInt8
  | [] => []
  | a :: l => (if a = 13 ∧ l.head? = some 10 then [] else [a]) ++ lfr l
theorem lfr_cons (a : UInt8) (l : List UInt8) : lfr (a :: l) = (if a = 13 ∧ l.head? = some 10 then [] else [a]) ++ lfr l := rfl
theorem lfr_len : ∀ l : List UInt8, (lfr l).length ≤ l.length
  | [] => Nat.le_refl _
  | a :: l => by
    have := lfr_len l
    rw [lfr_cons, List.length_append, List.length_cons]
    split <;> simp <;> omega
def cr : List UInt8 := [13, 10]
theorem cr_pre {c : UInt8} {r : List UInt8} : cr.isPrefixOf (c :: r) = true ↔ c = 13 ∧ r.head? = some 10 := by
  unfold cr
  cases r with
  | nil => simp [List.isPrefixOf]
  | cons b r =>
    simp only [List.isPrefixOf, Bool.and_true, Bool.and_eq_true, beq_iff_eq, List.head?_cons, Option.some.injEq]
    exact ⟨fun h => ⟨h.1.symm, h.2.symm⟩, fun h => ⟨h.1.symm, h.2.symm⟩⟩
theorem lfr_hit : ∀ (x : List UInt8) (i : Nat), Lib.index x cr = i → lfr x = x.take i ++ [10] ++ lfr (x.drop (i + 2))
  | [], i, h => by simp [Lib.index, cr] at h
  | c :: r, i, h => by
    rw [Lib.index] at h
    by_cases hp : cr.isPrefixOf (c :: r) = true
    · rw [if_pos hp] at h
      obtain rfl : i = 0 := by omega
      obtain ⟨rfl, hr⟩ := cr_pre.1 hp
      cases r with
      | nil => simp at hr
      | cons b r =>
        obtain rfl : b = 10 := by simpa using hr
        rw [lfr_cons, if_pos ⟨rfl, rfl⟩, lfr_cons, if_neg (by simp)]
        rfl
    · rw [if_neg hp] at h
      have hge := Lib.index_ge r cr
      by_cases h1 : Lib.index r cr = -1
      · rw [if_pos (by rw [h1]; rfl)] at h
        omega
      · rw [if_neg (by simpa using h1)] at h
        obtain ⟨j, rfl⟩ : ∃ j, i = j + 1 := ⟨i - 1, by omega⟩
        rw [lfr_cons, if_neg (fun e => hp (cr_pre.2 e)), lfr_hit r j (by omega)]
        simp
theorem lfr_miss : ∀ (x : List UInt8), Lib.index x cr = -1 → lfr x = x
  | [], h => rfl
  | c :: r, h => by
    rw [Lib.index] at h
    by_cases hp : cr.isPrefixOf (c :: r) = true
    · rw [if_pos hp] at h
      cases h
    · rw [if_neg hp] at h
      by_cases h1 : Lib.index r cr = -1
      · rw [lfr_cons, if_neg (fun e => hp (cr_pre.2 e)), lfr_miss r h1]
        rfl
      · rw [if_neg (by simpa using h1)] at h
        have := Lib.index_ge r cr
        omega
theorem lfr_rep : ∀ (n : Nat) (x : List UInt8), x.length ≤ n → Lib.replaceK cr [10] (Lib.count x cr) x = lfr x
  | n, x, hn => by
    by_cases h : Lib.index x cr = -1
    · rw [Lib.count_miss h, lfr_miss x h]
      rfl
    · obtain ⟨i, hi⟩ : ∃ i : Nat, Lib.index x cr = i := ⟨(Lib.index x cr).toNat, by have := Lib.index_ge x cr; omega⟩
      have hr := Lib.index_room x cr (by rw [hi]; omega)
      rw [hi] at hr
      have e1 : cr.length = 2 := rfl
      match n with
      | 0 => omega
      | n + 1 =>
        have hc := Lib.count_hit (s := x) (sub := cr) (i := i) (by simp [cr]) hi
        rw [hc, Nat.add_comm, Lib.replaceK_hit _ _ _ _ i hi, lfr_hit x i hi]
        rw [e1, lfr_rep n (x.drop (i + 2)) (by rw [List.length_drop]; omega)]
theorem replace_lfr (x : List UInt8) : Lib.replaceAll x cr [10] = lfr x := by
  unfold Lib.replaceAll Lib.replace Lib.replaceNum
  rw [if_neg (by simp [cr]), if_pos (.inl (by decide))]
  exact lfr_rep x.length x (Nat.le_refl _)
end Go.Proofs.YtadfdfmebdcfgaaGreatDoor.lfp

namespace Go.Proofs.YtadfdfmebdcfgaaGreatDoor.me
open Go.RowKit
open gr
set_option linter.unusedVariables false

/-- A body's quoted text. -/
def quoted (T : ByteArray) : ByteArray := ⟨(Lib.trimSuffix T.data.toList lfp.cr).toArray⟩
def ended (T : ByteArray) : Bool := Lib.hasSuffix T.data.toList lfp.cr
/-- What a body says, and whether it says anything. -/
def con (T : ByteArray) : ByteArray × Bool := if ended T = true ∧ qu.uc (quoted T) = 0 then (⟨(lfp.lfr (qu.ul (quoted T))).toArray⟩, true) else (⟨#[]⟩, false)
theorem con_yes {T : ByteArray} (h : ended T = true) (h2 : qu.uc (quoted T) = 0) : con T = (⟨(lfp.lfr (qu.ul (quoted T))).toArray⟩, true) := if_pos ⟨h, h2⟩
theorem con_no {T : ByteArray} (h : ¬ (ended T = true ∧ qu.uc (quoted T) = 0)) : con T = (⟨#[]⟩, false) := if_neg h
theorem quoted_len (T : ByteArray) : (quoted T).size ≤ T.size := by
  rw [Lib.size_eq, Lib.size_eq]
  show (Lib.trimSuffix T.data.toList lfp.cr).length ≤ _
  unfold Lib.trimSuffix
  split
  · rw [List.length_take]; omega
  · exact Nat.le_refl _

set_option maxHeartbeats 4000000 in
set_option maxRecDepth 100000 in
theorem content_any (a : Option Addr) (n cap : Nat) (T : ByteArray) (w : World) (m : Int) (hs : T.size ≤ 65536) (HT : ∀ w', Below w.heap.size w w' → w'.cell? ⟨4, 0, none⟩ = some (.int .i64 m) ∧ tb.TD w') :
    Calls Tryz.prog 69 #[.agg #[.slice a n cap, .string T]] w fun e w' => e = .returned (.tuple #[.string (con T).1, .bool (con T).2]) ∧ Below w.heap.size w w' := by
  have HTT : Hid (∀ w', Below w.heap.size w w' → w'.cell? ⟨4, 0, none⟩ = some (.int .i64 m) ∧ tb.TD w') := HT
  have L0 : b2.Box (w.alloc (.cells #[.slice a n cap, .string T] 43)) w.heap.size 43 (.slice a n cap) (.string T) := b2.new _ _ _ _
  have b0 : Below w.heap.size w (w.alloc (.cells #[.slice a n cap, .string T] 43)) := (Below.refl _ w).alloc (Nat.le_refl _) _
  have HCS : Hid (∀ W, Calls Tryz.prog 125 #[.string T, .string ⟨#[13, 10]⟩] W fun e w' => e = .returned (.tuple #[.string (quoted T), .bool (ended T)]) ∧ w' = W) := fun W => Tryz.strings_CutSuffix T ⟨#[13, 10]⟩ W (by omega)
  have hql := quoted_len T
  have HUL : Hid ((qu.ul (quoted T)).length ≤ 65536) := (show _ ≤ _ by have := qu.ul_len (quoted T); omega)
  clear HT
  go_enter Tryz.func69, Tryz.ntmps69
  go_upto_region 1 with fail
  generalize hW0 : World.alloc _ _ = W0 at L0 b0 ⊢
  clear hW0
  have c1 := L0.c1
  have HB0 : Hid (Below w.heap.size w W0) := b0
  clear L0 b0
  go_wp2_with (go_at_call 125; refine (HCS.out _).mono ?_; rintro e w1 ⟨rfl, rfl⟩)
  refine (qu.implUn_any (quoted T) _ (HTT.out _ HB0.out).2 (by unfold maxLen; omega)).mono ?_
  rintro e w2 ⟨⟨v, rfl, hown⟩, hb2⟩
  have HB2 : Hid (Below w.heap.size w w2) := HB0.out.trans (hb2.mono HB0.out.size)
  clear hb2 c1
  cases he : ended T with
  | false =>
    have HR : Hid (con T = (⟨#[]⟩, false)) := con_no (fun k => by rw [he] at k; cases k.1)
    clear he
    go_wp2
    go_ret2
    exact ⟨by rw [HR.out]; rfl, HB2.out⟩
  | true =>
    by_cases hc : qu.uc (quoted T) = 0
    · have HR : Hid (con T = (⟨(lfp.lfr (qu.ul (quoted T))).toArray⟩, true)) := con_yes he hc
      have d0 : (qu.uc (quoted T) == 0) = true := beq_iff_eq.2 hc
      have d1 : (qu.uc (quoted T) != 0) = false := by rw [hc]; rfl
      have cv := ow.conv_bytes (P := Tryz.prog) (src := 22) (dst := 9) (qu.ul (quoted T)) hown Tryz.underlying22 Tryz.underlying5 Tryz.underlying9
      have HRP : Hid (Calls Tryz.prog 48 #[.string ⟨(qu.ul (quoted T)).toArray⟩, .string ⟨#[13, 10]⟩, .string ⟨#[10]⟩] w2 fun e w' => e = .returned (.string ⟨(lfp.lfr (qu.ul (quoted T))).toArray⟩) ∧ Below w2.heap.size w2 w') := by
        have hz : (⟨(qu.ul (quoted T)).toArray⟩ : ByteArray).size ≤ 65536 := by rw [Lib.size_eq]; exact HUL.out
        have hk := Lib.countB_mul_le ⟨#[13, 10]⟩ (by decide) (⟨(qu.ul (quoted T)).toArray⟩ : ByteArray).size ⟨(qu.ul (quoted T)).toArray⟩ (Nat.le_refl _)
        have e1 : (⟨#[13, 10]⟩ : ByteArray).size = 2 := rfl
        have e2 : (⟨#[10]⟩ : ByteArray).size = 1 := rfl
        rw [e1] at hk
        have := Tryz.strings_ReplaceAll ⟨(qu.ul (quoted T)).toArray⟩ ⟨#[13, 10]⟩ ⟨#[10]⟩ m w2 (by omega) (HTT.out w2 HB2.out).1 (by decide) (by rw [e2]; omega)
        rw [show Lib.replaceAll (⟨(qu.ul (quoted T)).toArray⟩ : ByteArray).data.toList (⟨#[13, 10]⟩ : ByteArray).data.toList (⟨#[10]⟩ : ByteArray).data.toList = lfp.lfr (qu.ul (quoted T)) from lfp.replace_lfr _] at this
        exact this
      generalize (⟨(lfp.lfr (qu.ul (quoted T))).toArray⟩ : ByteArray) = R at HR HRP
      generalize (⟨(qu.ul (quoted T)).toArray⟩ : ByteArray) = U at cv HRP
      clear he hown
      go_wp2_with (go_at_call 48; refine HRP.out.mono ?_; rintro e w3 ⟨rfl, b3⟩)
      go_ret2
      exact ⟨by rw [HR.out]; rfl, HB2.out.trans (b3.mono HB2.out.size)⟩
    · have HR : Hid (con T = (⟨#[]⟩, false)) := con_no (fun k => hc k.2)
      have d0 : (qu.uc (quoted T) == 0) = false := beq_eq_false_iff_ne.2 hc
      have d1 : (qu.uc (quoted T) != 0) = true := by simp [hc]
      clear he
      go_wp2
      go_ret2
      exact ⟨by rw [HR.out]; rfl, HB2.out⟩
end Go.Proofs.YtadfdfmebdcfgaaGreatDoor.me

namespace Go.Proofs.YtadfdfmebdcfgaaGreatDoor.rd
open Go.RowKit
open dt
set_option linter.unusedVariables false

/-- A digit. -/
def isD (b : UInt8) : Bool := decide (48 ≤ (b.toNat : Int) ∧ (b.toNat : Int) ≤ 57)
theorem isD_iff {b : UInt8} : isD b = true ↔ (48 ≤ (b.toNat : Int) ∧ (b.toNat : Int) ≤ 57) := by unfold isD; exact decide_eq_true_iff
/-- What digits tell. -/
def num (l : List UInt8) : Int := l.foldl (fun n b => 10 * n + ((b.toNat : Int) - 48)) 0
theorem num_snoc (l : List UInt8) (b : UInt8) : num (l ++ [b]) = 10 * num l + ((b.toNat : Int) - 48) := by unfold num; rw [List.foldl_append]; rfl
def dgs (l : List UInt8) : Bool := l.all isD
theorem dgs_iff {l : List UInt8} : dgs l = true ↔ ∀ b ∈ l, isD b = true := by unfold dgs; exact List.all_eq_true
theorem num_two {a b : UInt8} : num [a, b] = 10 * ((a.toNat : Int) - 48) + ((b.toNat : Int) - 48) := by unfold num; simp
theorem num_one {a : UInt8} : num [a] = (a.toNat : Int) - 48 := by unfold num; simp
theorem num_four {a b c d : UInt8} : num [a, b, c, d] = 1000 * ((a.toNat : Int) - 48) + 100 * ((b.toNat : Int) - 48) + 10 * ((c.toNat : Int) - 48) + ((d.toNat : Int) - 48) := by unfold num; simp; omega
theorem take_more {l : List UInt8} {k : Nat} (h : k < l.length) : l.take (k + 1) = l.take k ++ [l[k]] := by rw [List.take_succ_eq_append_getElem h]
theorem num_lo {l : List UInt8} (h : dgs l = true) : 0 ≤ num l := by
  unfold num
  suffices ∀ (l : List UInt8) (n : Int), dgs l = true → 0 ≤ n → 0 ≤ l.foldl (fun n b => 10 * n + ((b.toNat : Int) - 48)) n from this l 0 h (Int.le_refl _)
  intro l
  induction l with
  | nil => intro n _ hn; exact hn
  | cons b l ih =>
    intro n hd hn
    have hb := isD_iff.1 (dgs_iff.1 hd b List.mem_cons_self)
    exact ih _ (dgs_iff.2 fun x hx => dgs_iff.1 hd x (List.mem_cons_of_mem _ hx)) (by show 0 ≤ 10 * n + ((b.toNat : Int) - 48); omega)
theorem num_hi {l : List UInt8} (h : dgs l = true) (hl : l.length ≤ 4) : num l ≤ 9999 := by
  have d : ∀ b ∈ l, 48 ≤ (b.toNat : Int) ∧ (b.toNat : Int) ≤ 57 := fun b hb => isD_iff.1 (dgs_iff.1 h b hb)
  match l, hl with
  | [], _ => exact (by decide)
  | [a], _ => have := d a (by simp); rw [num_one]; omega
  | [a, b], _ => have := d a (by simp); have := d b (by simp); rw [num_two]; omega
  | [a, b, c], _ =>
    have := d a (by simp)
    have := d b (by simp)
    have := d c (by simp)
    rw [show [a, b, c] = [a, b] ++ [c] from rfl, num_snoc, num_two]; omega
  | [a, b, c, e], _ =>
    have := d a (by simp)
    have := d b (by simp)
    have := d c (by simp)
    have := d e (by simp)
    rw [num_four]; omega
  | a :: b :: c :: e :: f :: l, hl => simp at hl
/-- The specification's number: -1 of others than digits. -/
def nb (l : List UInt8) : Int := if dgs l then num l else -1
theorem nb_yes {l : List UInt8} (h : dgs l = true) : nb l = num l := by simp [nb, h]
theorem nb_no {l : List UInt8} (h : dgs l = false) : nb l = -1 := by simp [nb, h]
/-- A text of a form, in which 48 stands for any digit. -/
def hf : List UInt8 → List UInt8 → Bool
  | [], [] => true
  | a :: u, f :: fs => (if f = 48 then isD a else a == f) && hf u fs
  | _, _ => false
theorem hf_len : ∀ {l f : List UInt8}, hf l f = true → l.length = f.length
  | [], [], _ => rfl
  | [], _ :: _, h => by cases h
  | _ :: _, [], h => by cases h
  | a :: u, f :: fs, h => by
    simp only [hf, Bool.and_eq_true] at h
    simp [hf_len h.2]
theorem hf_no {l f : List UInt8} (h : l.length ≠ f.length) : hf l f = false := by
  cases e : hf l f
  · rfl
  · exact absurd (hf_len e) h
/-- One place more. -/
def ok1 (l f : List UInt8) (k : Nat) : Bool := if f.getD k 0 = 48 then isD (l.getD k 0) else l.getD k 0 == f.getD k 0
theorem hf_iff : ∀ {l f : List UInt8}, hf l f = true ↔ (l.length = f.length ∧ ∀ k, k < l.length → ok1 l f k = true)
  | [], [] => by simp [hf]
  | [], _ :: _ => by simp [hf]
  | _ :: _, [] => by simp [hf]
  | a :: u, f :: fs => by
    rw [hf, Bool.and_eq_true, hf_iff (l := u) (f := fs)]
    constructor
    · rintro ⟨h0, hl, hk⟩
      refine ⟨by simp [hl], fun k hk' => ?_⟩
      cases k with
      | zero => simpa [ok1] using h0
      | succ k => have := hk k (by simpa using hk'); simpa [ok1] using this
    · rintro ⟨hl, hk⟩
      refine ⟨by have := hk 0 (by simp); simpa [ok1] using this, by simpa using hl, fun k hk' => ?_⟩
      have := hk (k + 1) (by simpa using hk')
      simpa [ok1] using this
/-- Where the first place that does not fit stands the text is not of the form. -/
theorem hf_bad {l f : List UInt8} {k : Nat} (hk : k < l.length) (h : ok1 l f k = false) : hf l f = false := by
  cases e : hf l f
  · rfl
  · have := (hf_iff.1 e).2 k hk
    rw [h] at this
    cases this
/-- A zone of a sign, hours and minutes. -/
def zn (g : UInt8) (hh mm : List UInt8) : Option Int :=
  if (g = 43 ∨ g = 45) ∧ (0 ≤ nb hh ∧ nb hh ≤ 23) ∧ (0 ≤ nb mm ∧ nb mm ≤ 59) then some (if g = 45 then -(nb hh * 3600 + nb mm * 60) else nb hh * 3600 + nb mm * 60) else none
def zc : List UInt8 → Option Int
  | [g, a, b, c, d, e] => if c = 58 then zn g [a, b] [d, e] else none
  | _ => none
def zp : List UInt8 → Option Int
  | [g, a, b, d, e] => zn g [a, b] [d, e]
  | _ => none
/-- The same by a form. -/
def zi (f z : List UInt8) : Option Int :=
  if z ≠ [] ∧ hf (z.drop 1) f = true then
    (if 23 < num ((z.drop 1).take 2) ∨ 59 < num (z.drop (z.length - 2)) then none
     else if z.getD 0 0 = 43 then some (num ((z.drop 1).take 2) * 3600 + num (z.drop (z.length - 2)) * 60)
     else if z.getD 0 0 = 45 then some (-(num ((z.drop 1).take 2) * 3600 + num (z.drop (z.length - 2)) * 60)) else none)
  else none
def F5 : List UInt8 := [48, 48, 58, 48, 48]
def F4 : List UInt8 := [48, 48, 48, 48]
theorem dgs_two {a b : UInt8} : dgs [a, b] = (isD a && isD b) := by simp [dgs]
theorem zn_none {g : UInt8} {hh mm : List UInt8} (h : dgs hh = false ∨ dgs mm = false) : zn g hh mm = none := by
  unfold zn
  rw [if_neg]
  rcases h with h | h
  · rw [nb_no h]; omega
  · rw [nb_no h]; omega
theorem zn_some {g : UInt8} {hh mm : List UInt8} (h1 : dgs hh = true) (h2 : dgs mm = true) :
    zn g hh mm = (if 23 < num hh ∨ 59 < num mm then none else if g = 43 then some (num hh * 3600 + num mm * 60) else if g = 45 then some (-(num hh * 3600 + num mm * 60)) else none) := by
  have a := num_lo h1
  have b := num_lo h2
  unfold zn
  rw [nb_yes h1, nb_yes h2]
  by_cases c : 23 < num hh ∨ 59 < num mm
  · rw [if_pos c, if_neg (by omega)]
  · rw [if_neg c]
    by_cases g1 : g = 43
    · subst g1
      rw [if_pos rfl, if_pos ⟨.inl rfl, by omega, by omega⟩, if_neg (by decide)]
    · rw [if_neg g1]
      by_cases g2 : g = 45
      · subst g2
        rw [if_pos rfl, if_pos ⟨.inr rfl, by omega, by omega⟩, if_pos rfl]
      · rw [if_neg (by rintro ⟨h | h, _⟩ <;> contradiction), if_neg g2]
theorem zi_plain (z : List UInt8) : zi F4 z = zp z := by
  by_cases hl : z.length = 5
  · match z, hl with
    | [g, a, b, d, e], _ =>
      unfold zi zp
      simp only [List.drop_succ_cons, List.drop_zero, List.length_cons, List.length_nil, F4, hf]
      by_cases hd : isD a = true ∧ isD b = true ∧ isD d = true ∧ isD e = true
      · obtain ⟨h1, h2, h3, h4⟩ := hd
        rw [if_pos (by simp [h1, h2, h3, h4]), zn_some (by rw [dgs_two, h1, h2]; rfl) (by rw [dgs_two, h3, h4]; rfl)]
        rfl
      · rw [if_neg]
        · rw [zn_none]
          rw [dgs_two, dgs_two]
          cases h1 : isD a <;> cases h2 : isD b <;> cases h3 : isD d <;> cases h4 : isD e <;> simp_all
        · rintro ⟨_, h⟩
          apply hd
          simp at h
          obtain ⟨h1, h2, h4, h5⟩ := h
          exact ⟨h1, h2, h4, h5⟩
  · have e1 : zp z = none := by
      match z, hl with
      | [], _ => rfl
      | [_], _ => rfl
      | [_, _], _ => rfl
      | [_, _, _], _ => rfl
      | [_, _, _, _], _ => rfl
      | [_, _, _, _, _], h => exact absurd rfl h
      | _ :: _ :: _ :: _ :: _ :: _ :: _, _ => rfl
    rw [e1]
    unfold zi
    rw [if_neg]
    rintro ⟨h, h'⟩
    have := hf_len h'
    have h0 : z.length ≠ 0 := fun e => h (List.eq_nil_of_length_eq_zero e)
    simp [F4] at this
    omega
theorem zn_bound {g : UInt8} {hh mm : List UInt8} {a : Int} (h : zn g hh mm = some a) : -90000 ≤ a ∧ a ≤ 90000 := by
  unfold zn at h
  split at h
  · rename_i c
    have := Option.some.inj h
    split at this <;> omega
  · cases h
theorem zp_bound {z : List UInt8} {a : Int} (h : zp z = some a) : -90000 ≤ a ∧ a ≤ 90000 := by
  unfold zp at h
  split at h
  · exact zn_bound h
  · cases h
/-- The answer for a calendar and a zone. -/
def fin (y m d h i s a : Int) : Value :=
  if dw.inB y 1970 2099 && dw.inB m 1 12 && dw.inB d 1 (dm y m) && dw.inB h 0 23 && dw.inB i 0 59 && dw.inB s 0 59 then
    (if dw.inB (st y m d h i s - a) 0 4102444799 then .tuple #[.int .i64 (st y m d h i s - a), .int .i64 0] else .tuple #[.int .i64 0, .int .i64 4])
  else .tuple #[.int .i64 0, .int .i64 3]
def bad : Value := .tuple #[.int .i64 0, .int .i64 3]
theorem ok_and {y m d h i s : Int} : (dw.inB y 1970 2099 && dw.inB m 1 12 && dw.inB d 1 (dm y m) && dw.inB h 0 23 && dw.inB i 0 59 && dw.inB s 0 59) = true ↔ Ok y m d h i s := by
  simp only [Bool.and_eq_true, dw.in_iff]
  unfold Ok
  constructor
  · rintro ⟨⟨⟨⟨⟨⟨a, b⟩, c, d⟩, e, f⟩, g, h⟩, i, j⟩, k, l⟩
    exact ⟨a, b, c, d, e, f, g, h, i, j, k, l⟩
  · rintro ⟨a, b, c, d, e, f, g, h, i, j, k, l⟩
    exact ⟨⟨⟨⟨⟨⟨a, b⟩, c, d⟩, e, f⟩, g, h⟩, i, j⟩, k, l⟩
theorem fin_in {y m d h i s a : Int} (k : Ok y m d h i s) (b : dw.inB (st y m d h i s - a) 0 4102444799 = true) : fin y m d h i s a = .tuple #[.int .i64 (st y m d h i s - a), .int .i64 0] := by
  unfold fin
  rw [if_pos (ok_and.2 k), if_pos b]
theorem fin_out {y m d h i s a : Int} (k : Ok y m d h i s) (b : dw.inB (st y m d h i s - a) 0 4102444799 = false) : fin y m d h i s a = .tuple #[.int .i64 0, .int .i64 4] := by
  unfold fin
  rw [if_pos (ok_and.2 k), if_neg (by rw [b]; decide)]
theorem fin_form (y m d h i s a : Int) : ∃ x c : Int, fin y m d h i s a = .tuple #[.int .i64 x, .int .i64 c] := by
  unfold fin
  split
  · split <;> exact ⟨_, _, rfl⟩
  · exact ⟨_, _, rfl⟩
end Go.Proofs.YtadfdfmebdcfgaaGreatDoor.rd
