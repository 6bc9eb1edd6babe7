/-
  Contracts of the program's reading of quoted text.
-/
import Derived.Test.YtcnbnnllhinoeaaDoorUnq
import Derived.Test.YtcnbnnllhinoeaaDoorIqu
import Derived.Test.YtcnbnnllhinoeaaDoorIen
import Derived.Deep.RegionWith
namespace Go.Proofs.YtcnbnnllhinoeaaDoor.qu
open Go.RowKit
set_option linter.unusedVariables false

theorem dx0 (wx : World) : (Instr.index 48 (.agg ((b6.bz tb.digs).map (Value.int .u8)).toArray) (.int .i64 0)).run Tryd.prog wx = .ok (.int .u8 ((hx 0).toNat : Int)) wx := by kernel_rfl
theorem dx1 (wx : World) : (Instr.index 48 (.agg ((b6.bz tb.digs).map (Value.int .u8)).toArray) (.int .i64 1)).run Tryd.prog wx = .ok (.int .u8 ((hx 1).toNat : Int)) wx := by kernel_rfl
theorem dx2 (wx : World) : (Instr.index 48 (.agg ((b6.bz tb.digs).map (Value.int .u8)).toArray) (.int .i64 2)).run Tryd.prog wx = .ok (.int .u8 ((hx 2).toNat : Int)) wx := by kernel_rfl
theorem dx3 (wx : World) : (Instr.index 48 (.agg ((b6.bz tb.digs).map (Value.int .u8)).toArray) (.int .i64 3)).run Tryd.prog wx = .ok (.int .u8 ((hx 3).toNat : Int)) wx := by kernel_rfl
theorem dx4 (wx : World) : (Instr.index 48 (.agg ((b6.bz tb.digs).map (Value.int .u8)).toArray) (.int .i64 4)).run Tryd.prog wx = .ok (.int .u8 ((hx 4).toNat : Int)) wx := by kernel_rfl
theorem dx5 (wx : World) : (Instr.index 48 (.agg ((b6.bz tb.digs).map (Value.int .u8)).toArray) (.int .i64 5)).run Tryd.prog wx = .ok (.int .u8 ((hx 5).toNat : Int)) wx := by kernel_rfl
theorem dx6 (wx : World) : (Instr.index 48 (.agg ((b6.bz tb.digs).map (Value.int .u8)).toArray) (.int .i64 6)).run Tryd.prog wx = .ok (.int .u8 ((hx 6).toNat : Int)) wx := by kernel_rfl
theorem dx7 (wx : World) : (Instr.index 48 (.agg ((b6.bz tb.digs).map (Value.int .u8)).toArray) (.int .i64 7)).run Tryd.prog wx = .ok (.int .u8 ((hx 7).toNat : Int)) wx := by kernel_rfl
theorem dx8 (wx : World) : (Instr.index 48 (.agg ((b6.bz tb.digs).map (Value.int .u8)).toArray) (.int .i64 8)).run Tryd.prog wx = .ok (.int .u8 ((hx 8).toNat : Int)) wx := by kernel_rfl
theorem dx9 (wx : World) : (Instr.index 48 (.agg ((b6.bz tb.digs).map (Value.int .u8)).toArray) (.int .i64 9)).run Tryd.prog wx = .ok (.int .u8 ((hx 9).toNat : Int)) wx := by kernel_rfl
theorem dx10 (wx : World) : (Instr.index 48 (.agg ((b6.bz tb.digs).map (Value.int .u8)).toArray) (.int .i64 10)).run Tryd.prog wx = .ok (.int .u8 ((hx 10).toNat : Int)) wx := by kernel_rfl
theorem dx11 (wx : World) : (Instr.index 48 (.agg ((b6.bz tb.digs).map (Value.int .u8)).toArray) (.int .i64 11)).run Tryd.prog wx = .ok (.int .u8 ((hx 11).toNat : Int)) wx := by kernel_rfl
theorem dx12 (wx : World) : (Instr.index 48 (.agg ((b6.bz tb.digs).map (Value.int .u8)).toArray) (.int .i64 12)).run Tryd.prog wx = .ok (.int .u8 ((hx 12).toNat : Int)) wx := by kernel_rfl
theorem dx13 (wx : World) : (Instr.index 48 (.agg ((b6.bz tb.digs).map (Value.int .u8)).toArray) (.int .i64 13)).run Tryd.prog wx = .ok (.int .u8 ((hx 13).toNat : Int)) wx := by kernel_rfl
theorem dx14 (wx : World) : (Instr.index 48 (.agg ((b6.bz tb.digs).map (Value.int .u8)).toArray) (.int .i64 14)).run Tryd.prog wx = .ok (.int .u8 ((hx 14).toNat : Int)) wx := by kernel_rfl
theorem dx15 (wx : World) : (Instr.index 48 (.agg ((b6.bz tb.digs).map (Value.int .u8)).toArray) (.int .i64 15)).run Tryd.prog wx = .ok (.int .u8 ((hx 15).toNat : Int)) wx := by kernel_rfl
theorem dx_at (tt : Array Value) (htt : tt = ((b6.bz tb.digs).map (Value.int .u8)).toArray) (k : Nat) (h : k < 16) (wx : World) : (Instr.index 48 (.agg tt) (.int .i64 (k : Int))).run Tryd.prog wx = .ok (.int .u8 ((hx k).toNat : Int)) wx := by
  subst htt
  match k, h with
  | 0, _ => exact dx0 wx
  | 1, _ => exact dx1 wx
  | 2, _ => exact dx2 wx
  | 3, _ => exact dx3 wx
  | 4, _ => exact dx4 wx
  | 5, _ => exact dx5 wx
  | 6, _ => exact dx6 wx
  | 7, _ => exact dx7 wx
  | 8, _ => exact dx8 wx
  | 9, _ => exact dx9 wx
  | 10, _ => exact dx10 wx
  | 11, _ => exact dx11 wx
  | 12, _ => exact dx12 wx
  | 13, _ => exact dx13 wx
  | 14, _ => exact dx14 wx
  | 15, _ => exact dx15 wx
  | n + 16, h => exact absurd h (by omega)
theorem hv_hx_all : ∀ k : Fin 16, hv (hx k.val) = (k.val : Int) := by decide +kernel
theorem hv_none_all : ∀ n : Fin 256, (∀ k : Fin 16, hx k.val ≠ UInt8.ofNat n.val) → hv (UInt8.ofNat n.val) = -1 := by decide +kernel
theorem hv_none (c : UInt8) (h : ∀ k, k < 16 → hx k ≠ c) : hv c = -1 :=
  b6.byte_all (p := fun c => (∀ k : Fin 16, hx k.val ≠ c) → hv c = -1) hv_none_all c (fun k => h k.val k.isLt)

set_option maxHeartbeats 1000000 in
set_option maxRecDepth 100000 in
theorem digit_any (c : UInt8) (w : World) (h : tb.TD w) : Calls Tryd.prog 27 #[.int .u8 (c.toNat : Int)] w fun e w' => e = .returned (.int .i64 (hv c)) ∧ w' = w := by
  obtain ⟨t, fr, h⟩ := h
  obtain ⟨tt, htt⟩ : ∃ tt, tt = ((b6.bz tb.digs).map (Value.int .u8)).toArray := ⟨_, rfl⟩
  rw [← htt] at h
  have HIX : Hid (∀ (k : Nat) (h : k < 16) (wx : World), (Instr.index 48 (.agg tt) (.int .i64 (k : Int))).run Tryd.prog wx = .ok (.int .u8 ((hx k).toNat : Int)) wx) := dx_at tt htt
  have hsz : (Tryd.prog.info? 48).map (·.size) = some tt.size := by rw [htt]; kernel_rfl
  clear htt
  go_enter Tryd.func27, Tryd.ntmps27
  go_wp2_with (refine wpList_load_row rfl 48 _ rfl 0 rfl t tt fr _ h Tryd.underlying48 rfl hsz ?_)
  go_loop [3, 4, 6] (fun _ _ i => ∃ k : Nat, k ≤ 16 ∧ i = .int .i64 k ∧ Hid (∀ j, j < k → hx j ≠ c)) (fun _ _ i => 16 - (intOf i).toNat)
  case atStart => exact ⟨0, Nat.zero_le _, rfl, fun j hj => absurd hj (Nat.not_lt_zero _)⟩
  case round =>
    clear h hsz
    obtain ⟨k, hk, rfl, HG⟩ := hrel
    by_cases hlt : k < 16
    · have hlt' : (k : Int) < 16 := by omega
      have hxx := HIX.out k hlt
      by_cases he : hx k = c
      · have hv' : hv c = (k : Int) := by rw [← he]; exact hv_hx_all ⟨k, hlt⟩
        have HV : Hid (hv c = (k : Int)) := hv'
        rw [he] at hxx
        clear he hv'
        have hbe : ((c.toNat : Int) == (c.toNat : Int)) = true := beq_self_eq_true _
        go_wp2
        go_ret
        exact ⟨by rw [HV.out]; rfl, rfl⟩
      · have hne : (((hx k).toNat : Int) == (c.toNat : Int)) = false := by
          rw [beq_eq_false_iff_ne]
          intro e
          exact he (UInt8.toNat_inj.1 (by omega))
        have hne2 : ¬ (hx k).toNat = c.toNat := fun e => he (UInt8.toNat_inj.1 e)
        have HE : Hid (hx k ≠ c) := he
        clear he
        generalize (hx k).toNat = x at hxx hne hne2
        go_wp2
        go_round
        case rel => exact ⟨k + 1, by omega, by go_num, fun j hj => by
          by_cases e : j = k
          · subst e; exact HE.out
          · exact HG.out j (by omega)⟩
        case measure => simp [intOf]; omega
    · have hlt' : 16 ≤ (k : Int) := by omega
      go_wp2
      go_ret
      exact ⟨by rw [hv_none c (fun j hj => HG.out j (by omega))]; rfl, rfl⟩

theorem str_ix2 (s : ByteArray) (z : Int) (j : Nat) (hz : z = j) (hj : j < s.size) (wx : World) : (Instr.index 9 (.string s) (.int .i64 z)).run Tryd.prog wx = .ok (.int .u8 ((s.data.toList.getD j 0).toNat : Int)) wx := by
  subst hz
  have hb : s[(j : Int).toNat]'(by simpa using hj) = s[j]'hj := by simp
  have hc : s.data.toList.getD j 0 = s[j]'hj := by
    rw [List.getD_eq_getElem?_getD, Array.getElem?_toList, Array.getElem?_eq_getElem (show j < s.data.size from hj)]
    rfl
  rw [run_index_string wx 9 s .i64 (j : Int) Tryd.underlying9, dif_pos ⟨by omega, by omega⟩, hb, hc]

/-- What a beginning that was read comes to: its bytes, and how many said it. -/
def First (o : Option (List UInt8 × Nat)) (e : Ending) : Prop :=
  ∃ p : ByteArray, e = .returned (.tuple #[.string p, .int .i64 ((o.map (·.2)).getD 0 : Nat)]) ∧ p.data.toList = (o.map (·.1)).getD []
theorem first_none {o : Option (List UInt8 × Nat)} (h : o = none) : First o (.returned (.tuple #[.string ⟨#[]⟩, .int .i64 0])) := by subst h; exact ⟨_, rfl, rfl⟩
theorem first_some {o : Option (List UInt8 × Nat)} {p : List UInt8} {n : Nat} (h : o = some (p, n)) : First o (.returned (.tuple #[.string ⟨p.toArray⟩, .int .i64 (n : Int)])) := by subst h; exact ⟨_, rfl, rfl⟩

set_option maxHeartbeats 2000000 in
set_option maxRecDepth 100000 in
theorem byte_any (s : ByteArray) (w : World) (hs : s.size ≤ 65536) (hT : tb.TD w) :
    Calls Tryd.prog 25 #[.string s] w fun e w' => First (if s.size < 3 ∨ hv (s.data.toList.getD 1 0) < 0 ∨ hv (s.data.toList.getD 2 0) < 0 then none else some ([UInt8.ofNat ((hv (s.data.toList.getD 1 0)).toNat * 16 + (hv (s.data.toList.getD 2 0)).toNat)], 3)) e ∧ Below w.heap.size w w' := by
  have hs' : (s.size : Int) ≤ 65536 := by omega
  by_cases h3 : s.size < 3
  · have h3' : (s.size : Int) < 3 := by omega
    have HX := first_none (o := if s.size < 3 ∨ hv (s.data.toList.getD 1 0) < 0 ∨ hv (s.data.toList.getD 2 0) < 0 then none else some ([UInt8.ofNat ((hv (s.data.toList.getD 1 0)).toNat * 16 + (hv (s.data.toList.getD 2 0)).toNat)], 3)) (if_pos (.inl h3))
    clear hT
    generalize (if s.size < 3 ∨ hv (s.data.toList.getD 1 0) < 0 ∨ hv (s.data.toList.getD 2 0) < 0 then none else some ([UInt8.ofNat ((hv (s.data.toList.getD 1 0)).toNat * 16 + (hv (s.data.toList.getD 2 0)).toNat)], 3)) = o at HX ⊢
    have HX : Hid (First o (.returned (.tuple #[.string ⟨#[]⟩, .int .i64 0]))) := HX
    go_enter Tryd.func25, Tryd.ntmps25
    go_wp2
    go_ret2
    exact ⟨HX.out, Below.refl _ _⟩
  have h3d : decide ((s.size : Int) < 3) = false := decide_eq_false (by omega)
  have v1 := str_ix2 s 1 1 rfl (by omega)
  have v2 := str_ix2 s 2 2 rfl (by omega)
  have HO : Hid (∀ o : Option (List UInt8 × Nat), o = (if s.size < 3 ∨ hv (s.data.toList.getD 1 0) < 0 ∨ hv (s.data.toList.getD 2 0) < 0 then none else some ([UInt8.ofNat ((hv (s.data.toList.getD 1 0)).toNat * 16 + (hv (s.data.toList.getD 2 0)).toNat)], 3)) → o = if hv (s.data.toList.getD 1 0) < 0 ∨ hv (s.data.toList.getD 2 0) < 0 then none else some ([UInt8.ofNat ((hv (s.data.toList.getD 1 0)).toNat * 16 + (hv (s.data.toList.getD 2 0)).toNat)], 3)) := fun o h => by rw [h]; simp only [h3, false_or]
  generalize ho : (if s.size < 3 ∨ hv (s.data.toList.getD 1 0) < 0 ∨ hv (s.data.toList.getD 2 0) < 0 then none else some ([UInt8.ofNat ((hv (s.data.toList.getD 1 0)).toNat * 16 + (hv (s.data.toList.getD 2 0)).toNat)], 3)) = o
  have HO2 := HO.out o ho.symm
  clear HO ho
  generalize s.data.toList.getD 1 0 = c1 at v1 HO2
  generalize s.data.toList.getD 2 0 = c2 at v2 HO2
  have HO3 : Hid (o = if hv c1 < 0 ∨ hv c2 < 0 then none else some ([UInt8.ofNat ((hv c1).toNat * 16 + (hv c2).toNat)], 3)) := HO2
  clear HO2
  have C1 : Hid (∀ W, tb.TD W → Calls Tryd.prog 27 #[.int .u8 (c1.toNat : Int)] W fun e w' => e = .returned (.int .i64 (hv c1)) ∧ w' = W) := fun W hW => digit_any c1 W hW
  have C2 : Hid (∀ W, tb.TD W → Calls Tryd.prog 27 #[.int .u8 (c2.toNat : Int)] W fun e w' => e = .returned (.int .i64 (hv c2)) ∧ w' = W) := fun W hW => digit_any c2 W hW
  have q1 := hv_cases c1
  have q2 := hv_cases c2
  have Q12 : Hid ((hv c1 = -1 ∨ (0 ≤ hv c1 ∧ hv c1 < 16)) ∧ (hv c2 = -1 ∨ (0 ≤ hv c2 ∧ hv c2 < 16))) := ⟨q1, q2⟩
  clear q1 q2
  have HTD : Hid (tb.TD w) := hT
  clear hT
  go_enter Tryd.func25, Tryd.ntmps25
  go_upto_region 3 with fail
  go_cut [4, 5] (fun a b wx => a = .int .i64 (hv c1) ∧ b = .int .i64 (hv c2) ∧ Below w.heap.size w wx)
  case first =>
    generalize c1.toNat = x1 at v1 C1
    generalize c2.toNat = x2 at v2 C2
    go_region_with (first
      | (go_at_call_of 27 (Value.int IntKind.u8 (x1 : Int)); refine (C1.out _ ?_).mono ?_; exact HTD.out; rintro e wz ⟨rfl, rfl⟩)
      | (go_at_call_of 27 (Value.int IntKind.u8 (x2 : Int)); refine (C2.out _ ?_).mono ?_; exact HTD.out; rintro e wz ⟨rfl, rfl⟩))
    all_goals (try go_wp2_with fail)
    all_goals go_meet
    all_goals exact ⟨rfl, rfl, (Below.refl _ _).drew⟩
  case rest =>
    obtain ⟨rfl, rfl, hb⟩ := hcut
    go_at_K
    clear C1 C2 v1 v2 HTD
    by_cases h1 : hv c1 < 0
    · have h1d : decide (hv c1 < 0) = true := decide_eq_true h1
      have HX : Hid (First o (.returned (.tuple #[.string ⟨#[]⟩, .int .i64 0]))) := first_none (by rw [HO3.out, if_pos (.inl h1)])
      clear HO3 Q12
      generalize hv c1 = y1 at h1 h1d ⊢
      generalize hv c2 = y2
      go_wp2
      go_ret2
      exact ⟨HX.out, hb⟩
    have h1d : decide (hv c1 < 0) = false := decide_eq_false h1
    by_cases h2 : hv c2 < 0
    · have h2d : decide (hv c2 < 0) = true := decide_eq_true h2
      have HX : Hid (First o (.returned (.tuple #[.string ⟨#[]⟩, .int .i64 0]))) := first_none (by rw [HO3.out, if_pos (.inr h2)])
      clear HO3 Q12
      generalize hv c1 = y1 at h1 h1d ⊢
      generalize hv c2 = y2 at h2 h2d ⊢
      go_wp2
      go_ret2
      exact ⟨HX.out, hb⟩
    have h2d : decide (hv c2 < 0) = false := decide_eq_false h2
    obtain ⟨y1, hy1⟩ : ∃ h : Nat, hv c1 = (h : Int) := ⟨(hv c1).toNat, by omega⟩
    obtain ⟨y2, hy2⟩ : ∃ h : Nat, hv c2 = (h : Int) := ⟨(hv c2).toNat, by omega⟩
    have k1 : y1 < 16 := by rcases Q12.out.1 with h | h <;> omega
    have k2 : y2 < 16 := by rcases Q12.out.2 with h | h <;> omega
    have HX : Hid (First o (.returned (.tuple #[.string ⟨#[UInt8.ofNat (y1 * 16 + y2)]⟩, .int .i64 3]))) := by
      have h5 := first_some (o := o) (p := [UInt8.ofNat (y1 * 16 + y2)]) (n := 3) (by rw [HO3.out, if_neg (by omega), hy1, hy2]; rfl)
      exact h5
    rw [hy1] at h1d ⊢
    rw [hy2] at h2d ⊢
    clear HO3 Q12 hy1 hy2 h1 h2
    have cvn := conv_new wc [UInt8.ofNat (y1 * 16 + y2)] (by simp)
    have eb : Lib.byteCells [UInt8.ofNat (y1 * 16 + y2)] = [Value.int .u8 ((y1 : Int) * 16 + (y2 : Int))] := by
      show [Value.int .u8 ((UInt8.ofNat (y1 * 16 + y2)).toNat : Int)] = _
      have : ((UInt8.ofNat (y1 * 16 + y2)).toNat : Int) = (y1 : Int) * 16 + (y2 : Int) := by rw [UInt8.toNat_ofNat']; omega
      rw [this]
    rw [eb] at cvn
    have cvn2 : (convert 22 9 (.slice (some ⟨wc.heap.size, 0, none⟩) 1 1)).run Tryd.prog (wc.alloc (.cells #[Value.int .u8 ((y1 : Int) * 16 + (y2 : Int))] 5)) = .ok (.string ⟨#[UInt8.ofNat (y1 * 16 + y2)]⟩) (wc.alloc (.cells #[Value.int .u8 ((y1 : Int) * 16 + (y2 : Int))] 5)) := cvn
    clear cvn eb
    have j1 : (y1 : Int) < 16 := by omega
    have j2 : (y2 : Int) < 16 := by omega
    generalize UInt8.ofNat (y1 * 16 + y2) = bb at HX cvn2
    have eo : bits .or .i64 ((y1 : Int) * 16) (y2 : Int) = (y1 : Int) * 16 + (y2 : Int) := by
      have h7 := b6.or_add 4 (y1 * 16) y2 (by omega) (by omega) (by omega) (by omega) (by decide)
      rw [show (((y1 * 16 : Nat)) : Int) = (y1 : Int) * 16 from by omega] at h7
      rw [h7]
      omega
    go_wp2
    go_ret2
    exact ⟨HX.out, hb.alloc hb.size _⟩
end Go.Proofs.YtcnbnnllhinoeaaDoor.qu
