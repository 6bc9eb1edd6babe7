/-
  A console's line read: what stands behind two words, the specification's way.
-/
import Derived.Test.YtocmcbcijmjlhaaDoorCos
namespace Go.Proofs.YtocmcbcijmjlhaaDoor.cn
open Go.RowKit
open sp
set_option linter.unusedVariables false

def skN : Nat → List UInt8 → List UInt8
  | 0, l => l
  | n + 1, l => sk (skN n l)
theorem dw_stop {p : UInt8 → Bool} {s : ByteArray} {k : Nat} {X : List UInt8} (h : (s.data.toList.drop k).dropWhile p = X) (hk : ∀ h : k < s.size, p s[k] = false) : s.data.toList.drop k = X := by
  by_cases hl : k < s.size
  · rw [drop_at s k hl, List.dropWhile_cons, if_neg (by rw [hk hl]; decide)] at h
    rw [drop_at s k hl]
    exact h
  · rw [List.drop_eq_nil_of_le (by rw [← Lib.size_eq]; omega)] at h ⊢
    exact h
theorem dw_step {p : UInt8 → Bool} {s : ByteArray} {k : Nat} {X : List UInt8} (h : (s.data.toList.drop k).dropWhile p = X) (hl : k < s.size) (hp : p s[k] = true) : (s.data.toList.drop (k + 1)).dropWhile p = X := by
  rw [drop_at s k hl, List.dropWhile_cons, if_pos hp] at h
  exact h
theorem tr_snoc (l : List UInt8) (b : UInt8) : tr (l ++ [b]) = if isp b = true then tr l else l ++ [b] := by
  unfold tr
  rw [List.reverse_append]
  show ((b :: l.reverse).dropWhile isp).reverse = _
  rw [List.dropWhile_cons]
  by_cases h : isp b = true
  · rw [if_pos h, if_pos h]
  · rw [if_neg h, if_neg h]
    simp
theorem isp_nat {b : UInt8} (h : b.toNat = 32) : isp b = true := by rw [show b = 32 from UInt8.toNat_inj.1 h]; rfl
theorem isp_nat' {b : UInt8} (h : b.toNat ≠ 32) : isp b = false := by
  simp only [isp, beq_eq_false_iff_ne]
  exact fun e => h (by rw [e]; rfl)
theorem nsp_nat {b : UInt8} (h : b.toNat ≠ 32) : nsp b = true := by unfold nsp; rw [isp_nat' h]; rfl
theorem nsp_nat' {b : UInt8} (h : b.toNat = 32) : nsp b = false := by unfold nsp; rw [isp_nat h]; rfl
theorem piece_snoc (s : ByteArray) {k e : Nat} (h1 : k < e) (h2 : e ≤ s.size) : piece s k e = piece s k (e - 1) ++ [s[e - 1]'(by omega)] := by
  have := Lib.piece_more (l := s.data.toList) (fs := k) (i := e - 1) (by omega) (x := s[e - 1]'(by omega)) (by rw [List.getElem?_eq_getElem (by rw [← Lib.size_eq]; omega)]; rfl)
  rw [show e - 1 + 1 = e by omega] at this
  exact this
theorem piece_all (s : ByteArray) (k : Nat) : piece s k s.size = s.data.toList.drop k := by
  unfold piece
  rw [List.take_of_length_le (by rw [List.length_drop, ← Lib.size_eq]; omega)]

set_option maxHeartbeats 8000000 in
set_option maxRecDepth 100000 in
theorem rest2_any (s : ByteArray) (w : World) (hs : s.size ≤ 1048576) :
    Calls Tryd.prog 12 #[.string s, .int .i64 2] w fun e w' => e = .returned (.string ⟨(tb (rs (rs s.data.toList))).toArray⟩) ∧ w' = w := by
  have HY : Hid (tr (tl (skN 2 s.data.toList)) = tb (rs (rs s.data.toList))) := rest_two _
  go_enter Tryd.func12, Tryd.ntmps12
  go_wp2
  go_loopw [5, 6] (fun a b wr => ∃ (k i : Nat), a = .int .i64 k ∧ b = .int .i64 i ∧ i ≤ 2 ∧ k ≤ s.size ∧ s.data.toList.drop k = skN i s.data.toList ∧ wr = w) (fun _ b _ => 2 - (intOf b).toNat)
  case atStart => exact ⟨0, 0, rfl, rfl, by omega, by omega, rfl, rfl⟩
  case round =>
    obtain ⟨k, i, rfl, rfl, hi, hk, hd, hwr⟩ := hrel
    have hwr := hwr.symm
    subst hwr
    by_cases hlt : i < 2
    · have h1 : (i : Int) < 2 := by omega
      have h1d : decide ((i : Int) < 2) = true := decide_eq_true h1
      have HLT : Hid (i < 2) := hlt
      have HD : Hid ((s.data.toList.drop k).dropWhile isp = tl (skN i s.data.toList)) := by rw [hd]; rfl
      have HK : Hid (k ≤ s.size) := hk
      clear hd hlt hk hi
      go_wp2
      go_loopw [5] (fun a wr => ∃ k1 : Nat, a = .int .i64 k1 ∧ k1 ≤ s.size ∧ (s.data.toList.drop k1).dropWhile isp = tl (skN i s.data.toList) ∧ wr = w) (fun a _ => s.size - (intOf a).toNat)
      case atStart => exact ⟨k, rfl, HK.out, HD.out, rfl⟩
      case round =>
        obtain ⟨k1, rfl, hk1, hd, hwr⟩ := hrel
        have hwr := hwr.symm
        subst hwr
        have z0 : (0 : Int) ≤ (k1 : Int) := by omega
        by_cases hl : k1 < s.size
        · have z1 : (k1 : Int) < (s.size : Int) := by omega
          have z2 : decide ((k1 : Int) < (s.size : Int)) = true := decide_eq_true z1
          by_cases hb : (s[k1]'hl).toNat = 32
          · have d1 : (((s[k1]'hl).toNat : Int) == 32) = true := beq_iff_eq.2 (by omega)
            have d2 : (((s[k1]'hl).toNat : Int) != 32) = false := by rw [bne, d1]; rfl
            have HS : Hid ((s.data.toList.drop (k1 + 1)).dropWhile isp = tl (skN i s.data.toList)) := dw_step hd hl (isp_nat hb)
            clear hd hb
            go_wp2
            go_roundw
            case rel => exact ⟨k1 + 1, by go_num, hl, HS.out, by trivial⟩
            case measure => first | (simp [intOf]; done) | (simp [intOf]; omega)
          · have d1 : (((s[k1]'hl).toNat : Int) == 32) = false := beq_eq_false_iff_ne.2 (by omega)
            have d2 : (((s[k1]'hl).toNat : Int) != 32) = true := by rw [bne, d1]; rfl
            have HT1 : Hid (s.data.toList.drop k1 = tl (skN i s.data.toList)) := dw_stop hd (fun _ => isp_nat' hb)
            clear hd hb
            go_wp2
            go_loopw [5] (fun a wr => ∃ k2 : Nat, a = .int .i64 k2 ∧ k2 ≤ s.size ∧ (s.data.toList.drop k2).dropWhile nsp = sk (skN i s.data.toList) ∧ wr = w) (fun a _ => s.size - (intOf a).toNat)
            case atStart => exact ⟨k1, rfl, hk1, by rw [HT1.out]; rfl, rfl⟩
            case round =>
              obtain ⟨k2, rfl, hk2, hd, hwr⟩ := hrel
              have hwr := hwr.symm
              subst hwr
              have z0 : (0 : Int) ≤ (k2 : Int) := by omega
              by_cases hl : k2 < s.size
              · have z1 : (k2 : Int) < (s.size : Int) := by omega
                have z2 : decide ((k2 : Int) < (s.size : Int)) = true := decide_eq_true z1
                by_cases hb : (s[k2]'hl).toNat = 32
                · have d1 : (((s[k2]'hl).toNat : Int) == 32) = true := beq_iff_eq.2 (by omega)
                  have d2 : (((s[k2]'hl).toNat : Int) != 32) = false := by rw [bne, d1]; rfl
                  have HT2 : Hid (s.data.toList.drop k2 = sk (skN i s.data.toList)) := dw_stop hd (fun _ => nsp_nat' hb)
                  clear hd hb
                  go_wp2
                  go_roundw
                  case rel => exact ⟨k2, i + 1, rfl, by go_num, HLT.out, hk2, HT2.out, by trivial⟩
                  case measure => have := HLT.out; first | (simp [intOf]; done) | (simp [intOf]; omega)
                · have d1 : (((s[k2]'hl).toNat : Int) == 32) = false := beq_eq_false_iff_ne.2 (by omega)
                  have d2 : (((s[k2]'hl).toNat : Int) != 32) = true := by rw [bne, d1]; rfl
                  have HS : Hid ((s.data.toList.drop (k2 + 1)).dropWhile nsp = sk (skN i s.data.toList)) := dw_step hd hl (nsp_nat hb)
                  clear hd hb
                  go_wp2
                  go_roundw
                  case rel => exact ⟨k2 + 1, by go_num, hl, HS.out, by trivial⟩
                  case measure => first | (simp [intOf]; done) | (simp [intOf]; omega)
              · have z2 : decide ((k2 : Int) < (s.size : Int)) = false := decide_eq_false (by omega)
                have HT2 : Hid (s.data.toList.drop k2 = sk (skN i s.data.toList)) := dw_stop hd (fun h => absurd h hl)
                clear hd
                go_wp2
                go_roundw
                case rel => exact ⟨k2, i + 1, rfl, by go_num, HLT.out, hk2, HT2.out, by trivial⟩
                case measure => have := HLT.out; first | (simp [intOf]; done) | (simp [intOf]; omega)
        · have z2 : decide ((k1 : Int) < (s.size : Int)) = false := decide_eq_false (by omega)
          have HT1 : Hid (s.data.toList.drop k1 = tl (skN i s.data.toList)) := dw_stop hd (fun h => absurd h hl)
          clear hd
          go_wp2
          go_loopw [5] (fun a wr => ∃ k2 : Nat, a = .int .i64 k2 ∧ k2 ≤ s.size ∧ (s.data.toList.drop k2).dropWhile nsp = sk (skN i s.data.toList) ∧ wr = w) (fun a _ => s.size - (intOf a).toNat)
          case atStart => exact ⟨k1, rfl, hk1, by rw [HT1.out]; rfl, rfl⟩
          case round =>
            obtain ⟨k2, rfl, hk2, hd, hwr⟩ := hrel
            have hwr := hwr.symm
            subst hwr
            have z0 : (0 : Int) ≤ (k2 : Int) := by omega
            by_cases hl : k2 < s.size
            · have z1 : (k2 : Int) < (s.size : Int) := by omega
              have z2 : decide ((k2 : Int) < (s.size : Int)) = true := decide_eq_true z1
              by_cases hb : (s[k2]'hl).toNat = 32
              · have d1 : (((s[k2]'hl).toNat : Int) == 32) = true := beq_iff_eq.2 (by omega)
                have d2 : (((s[k2]'hl).toNat : Int) != 32) = false := by rw [bne, d1]; rfl
                have HT2 : Hid (s.data.toList.drop k2 = sk (skN i s.data.toList)) := dw_stop hd (fun _ => nsp_nat' hb)
                clear hd hb
                go_wp2
                go_roundw
                case rel => exact ⟨k2, i + 1, rfl, by go_num, HLT.out, hk2, HT2.out, by trivial⟩
                case measure => have := HLT.out; first | (simp [intOf]; done) | (simp [intOf]; omega)
              · have d1 : (((s[k2]'hl).toNat : Int) == 32) = false := beq_eq_false_iff_ne.2 (by omega)
                have d2 : (((s[k2]'hl).toNat : Int) != 32) = true := by rw [bne, d1]; rfl
                have HS : Hid ((s.data.toList.drop (k2 + 1)).dropWhile nsp = sk (skN i s.data.toList)) := dw_step hd hl (nsp_nat hb)
                clear hd hb
                go_wp2
                go_roundw
                case rel => exact ⟨k2 + 1, by go_num, hl, HS.out, by trivial⟩
                case measure => first | (simp [intOf]; done) | (simp [intOf]; omega)
            · have z2 : decide ((k2 : Int) < (s.size : Int)) = false := decide_eq_false (by omega)
              have HT2 : Hid (s.data.toList.drop k2 = sk (skN i s.data.toList)) := dw_stop hd (fun h => absurd h hl)
              clear hd
              go_wp2
              go_roundw
              case rel => exact ⟨k2, i + 1, rfl, by go_num, HLT.out, hk2, HT2.out, by trivial⟩
              case measure => have := HLT.out; first | (simp [intOf]; done) | (simp [intOf]; omega)
    · have h1d : decide ((i : Int) < 2) = false := decide_eq_false (by omega)
      have hi2 : i = 2 := by omega
      have HD : Hid ((s.data.toList.drop k).dropWhile isp = tl (skN 2 s.data.toList)) := by rw [hd, hi2]; rfl
      have HK : Hid (k ≤ s.size) := hk
      clear hd hk hi hi2
      go_wp2
      go_loopw [5] (fun a wr => ∃ k3 : Nat, a = .int .i64 k3 ∧ k3 ≤ s.size ∧ (s.data.toList.drop k3).dropWhile isp = tl (skN 2 s.data.toList) ∧ wr = w) (fun a _ => s.size - (intOf a).toNat)
      case atStart => exact ⟨k, rfl, HK.out, HD.out, rfl⟩
      case round =>
        obtain ⟨k3, rfl, hk3, hd, hwr⟩ := hrel
        have hwr := hwr.symm
        subst hwr
        have z0 : (0 : Int) ≤ (k3 : Int) := by omega
        by_cases hl : k3 < s.size
        · have z1 : (k3 : Int) < (s.size : Int) := by omega
          have z2 : decide ((k3 : Int) < (s.size : Int)) = true := decide_eq_true z1
          by_cases hb : (s[k3]'hl).toNat = 32
          · have d1 : (((s[k3]'hl).toNat : Int) == 32) = true := beq_iff_eq.2 (by omega)
            have d2 : (((s[k3]'hl).toNat : Int) != 32) = false := by rw [bne, d1]; rfl
            have HS : Hid ((s.data.toList.drop (k3 + 1)).dropWhile isp = tl (skN 2 s.data.toList)) := dw_step hd hl (isp_nat hb)
            clear hd hb
            go_wp2
            go_roundw
            case rel => exact ⟨k3 + 1, by go_num, hl, HS.out, by trivial⟩
            case measure => first | (simp [intOf]; done) | (simp [intOf]; omega)
          · have d1 : (((s[k3]'hl).toNat : Int) == 32) = false := beq_eq_false_iff_ne.2 (by omega)
            have d2 : (((s[k3]'hl).toNat : Int) != 32) = true := by rw [bne, d1]; rfl
            have HT3 : Hid (s.data.toList.drop k3 = tl (skN 2 s.data.toList)) := dw_stop hd (fun _ => isp_nat' hb)
            clear hd hb
            go_wp2
            go_loopw [7] (fun a wr => ∃ e : Nat, a = .int .i64 e ∧ k3 ≤ e ∧ e ≤ s.size ∧ tr (piece s k3 e) = tb (rs (rs s.data.toList)) ∧ wr = w) (fun a _ => (intOf a).toNat)
            case atStart => exact ⟨s.size, rfl, hk3, Nat.le_refl _, by rw [piece_all, HT3.out]; exact HY.out, rfl⟩
            case round =>
              obtain ⟨e, rfl, he1, he2, hd, hwr⟩ := hrel
              have hwr := hwr.symm
              subst hwr
              by_cases hl3 : k3 < e
              · have z1' : (k3 : Int) < (e : Int) := by omega
                have z2' : decide ((k3 : Int) < (e : Int)) = true := decide_eq_true z1'
                have hx : e - 1 < s.size := by omega
                have hix : ∀ wx : World, (Instr.index 9 (.string s) (.int .i64 ((e : Int) - 1))).run Tryd.prog wx = .ok (.int .u8 ((s[e - 1]'hx).toNat : Int)) wx := fun wx => by
                  rw [show ((e : Int) - 1) = ((e - 1 : Nat) : Int) by omega, run_index_string wx 9 s .i64 ((e - 1 : Nat) : Int) Tryd.underlying9, dif_pos ⟨by omega, by omega⟩]
                  rfl
                have HPS : Hid (piece s k3 e = piece s k3 (e - 1) ++ [s[e - 1]'hx]) := piece_snoc s hl3 he2
                by_cases hb : (s[e - 1]'hx).toNat = 32
                · have d3 : (((s[e - 1]'hx).toNat : Int) == 32) = true := beq_iff_eq.2 (by omega)
                  have HS : Hid (tr (piece s k3 (e - 1)) = tb (rs (rs s.data.toList))) := by rw [← hd, HPS.out, tr_snoc, if_pos (isp_nat hb)]; rfl
                  clear hd hb HPS
                  go_wp2
                  go_roundw
                  case rel => exact ⟨e - 1, by go_num, by omega, by omega, HS.out, by trivial⟩
                  case measure => first | (simp [intOf]; done) | (simp [intOf]; omega)
                · have d3 : (((s[e - 1]'hx).toNat : Int) == 32) = false := beq_eq_false_iff_ne.2 (by omega)
                  have HP : Hid (piece s k3 e = tb (rs (rs s.data.toList))) := by rw [← hd, HPS.out, tr_snoc, if_neg (by rw [isp_nat' hb]; decide)]; rfl
                  clear hd hb HPS
                  have hsl := ow.slice_str (P := Tryd.prog) 9 s .i64 .i64 k3 e Tryd.underlying9 (k3 : Int) (e : Int) rfl rfl (by omega) (by omega)
                  have HV : Hid (Value.string (s.extract k3 e) = .string ⟨(tb (rs (rs s.data.toList))).toArray⟩) := by rw [← tv_piece, HP.out]; rfl
                  go_wp2
                  go_ret
                  exact ⟨congrArg Ending.returned HV.out, rfl⟩
              · have z2' : decide ((k3 : Int) < (e : Int)) = false := decide_eq_false (by omega)
                have hke : e = k3 := by omega
                have HP : Hid (piece s k3 e = tb (rs (rs s.data.toList))) := by rw [← hd, hke, piece_nil]; rfl
                clear hd hke
                have hsl := ow.slice_str (P := Tryd.prog) 9 s .i64 .i64 k3 e Tryd.underlying9 (k3 : Int) (e : Int) rfl rfl (by omega) (by omega)
                have HV : Hid (Value.string (s.extract k3 e) = .string ⟨(tb (rs (rs s.data.toList))).toArray⟩) := by rw [← tv_piece, HP.out]; rfl
                go_wp2
                go_ret
                exact ⟨congrArg Ending.returned HV.out, rfl⟩
        · have z2 : decide ((k3 : Int) < (s.size : Int)) = false := decide_eq_false (by omega)
          have HT3 : Hid (s.data.toList.drop k3 = tl (skN 2 s.data.toList)) := dw_stop hd (fun h => absurd h hl)
          clear hd
          go_wp2
          go_loopw [7] (fun a wr => ∃ e : Nat, a = .int .i64 e ∧ k3 ≤ e ∧ e ≤ s.size ∧ tr (piece s k3 e) = tb (rs (rs s.data.toList)) ∧ wr = w) (fun a _ => (intOf a).toNat)
          case atStart => exact ⟨s.size, rfl, hk3, Nat.le_refl _, by rw [piece_all, HT3.out]; exact HY.out, rfl⟩
          case round =>
            obtain ⟨e, rfl, he1, he2, hd, hwr⟩ := hrel
            have hwr := hwr.symm
            subst hwr
            by_cases hl3 : k3 < e
            · have z1' : (k3 : Int) < (e : Int) := by omega
              have z2' : decide ((k3 : Int) < (e : Int)) = true := decide_eq_true z1'
              have hx : e - 1 < s.size := by omega
              have hix : ∀ wx : World, (Instr.index 9 (.string s) (.int .i64 ((e : Int) - 1))).run Tryd.prog wx = .ok (.int .u8 ((s[e - 1]'hx).toNat : Int)) wx := fun wx => by
                rw [show ((e : Int) - 1) = ((e - 1 : Nat) : Int) by omega, run_index_string wx 9 s .i64 ((e - 1 : Nat) : Int) Tryd.underlying9, dif_pos ⟨by omega, by omega⟩]
                rfl
              have HPS : Hid (piece s k3 e = piece s k3 (e - 1) ++ [s[e - 1]'hx]) := piece_snoc s hl3 he2
              by_cases hb : (s[e - 1]'hx).toNat = 32
              · have d3 : (((s[e - 1]'hx).toNat : Int) == 32) = true := beq_iff_eq.2 (by omega)
                have HS : Hid (tr (piece s k3 (e - 1)) = tb (rs (rs s.data.toList))) := by rw [← hd, HPS.out, tr_snoc, if_pos (isp_nat hb)]; rfl
                clear hd hb HPS
                go_wp2
                go_roundw
                case rel => exact ⟨e - 1, by go_num, by omega, by omega, HS.out, by trivial⟩
                case measure => first | (simp [intOf]; done) | (simp [intOf]; omega)
              · have d3 : (((s[e - 1]'hx).toNat : Int) == 32) = false := beq_eq_false_iff_ne.2 (by omega)
                have HP : Hid (piece s k3 e = tb (rs (rs s.data.toList))) := by rw [← hd, HPS.out, tr_snoc, if_neg (by rw [isp_nat' hb]; decide)]; rfl
                clear hd hb HPS
                have hsl := ow.slice_str (P := Tryd.prog) 9 s .i64 .i64 k3 e Tryd.underlying9 (k3 : Int) (e : Int) rfl rfl (by omega) (by omega)
                have HV : Hid (Value.string (s.extract k3 e) = .string ⟨(tb (rs (rs s.data.toList))).toArray⟩) := by rw [← tv_piece, HP.out]; rfl
                go_wp2
                go_ret
                exact ⟨congrArg Ending.returned HV.out, rfl⟩
            · have z2' : decide ((k3 : Int) < (e : Int)) = false := decide_eq_false (by omega)
              have hke : e = k3 := by omega
              have HP : Hid (piece s k3 e = tb (rs (rs s.data.toList))) := by rw [← hd, hke, piece_nil]; rfl
              clear hd hke
              have hsl := ow.slice_str (P := Tryd.prog) 9 s .i64 .i64 k3 e Tryd.underlying9 (k3 : Int) (e : Int) rfl rfl (by omega) (by omega)
              have HV : Hid (Value.string (s.extract k3 e) = .string ⟨(tb (rs (rs s.data.toList))).toArray⟩) := by rw [← tv_piece, HP.out]; rfl
              go_wp2
              go_ret
              exact ⟨congrArg Ending.returned HV.out, rfl⟩
end Go.Proofs.YtocmcbcijmjlhaaDoor.cn
