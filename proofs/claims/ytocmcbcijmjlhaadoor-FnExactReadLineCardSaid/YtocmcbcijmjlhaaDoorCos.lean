/-
  A console's line read: the specification's words and what stands behind two of them.
-/
import Derived.Test.YtocmcbcijmjlhaaDoorCop
import Derived.Test.YtocmcbcijmjlhaaDoorOwn
import Derived.Test.YtocmcbcijmjlhaaDoorGrw
import Derived.Lib.FieldsLaws
import Derived.Laws.AppendOwn
import Derived.WalkLawsBesides
namespace Go.Proofs.YtocmcbcijmjlhaaDoor.cn
open Go.RowKit
open sp
set_option linter.unusedVariables false

theorem ne_app (A B : List (List UInt8)) : ne (A ++ B) = ne A ++ ne B := List.filter_append ..
theorem ne_one {u : List UInt8} (h : u ≠ []) : ne [u] = [u] := ne_cons [] h
theorem ne_none : ne [([] : List UInt8)] = [] := rfl
theorem piece_len (s : ByteArray) {f i : Nat} (h1 : f ≤ i) (h2 : i ≤ s.size) : (piece s f i).length = i - f := by
  unfold piece
  rw [List.length_take, List.length_drop, ← Lib.size_eq]
  omega
theorem piece_ne (s : ByteArray) {f i : Nat} (h1 : f < i) (h2 : i ≤ s.size) : piece s f i ≠ [] := fun e => by
  have := piece_len s (Nat.le_of_lt h1) h2
  rw [e] at this
  simp at this
  omega
theorem piece_nil (s : ByteArray) (i : Nat) : piece s i i = [] := by simp [piece]
/-- The words from here on. -/
def Wi (s : ByteArray) (ws : List (List UInt8)) (f i : Nat) : Prop := ws ++ ne (cutS 32 (piece s f i) (s.data.toList.drop i)) = wds s.data.toList
theorem wi_sign {s : ByteArray} {ws : List (List UInt8)} {f i : Nat} (h : Wi s ws f i) (hf : f ≤ i) (hi : i < s.size) (hb : (s[i]'hi).toNat ≠ 32) : Wi s ws f (i + 1) := by
  unfold Wi at h ⊢
  rw [drop_at s i hi, cutS, if_neg (fun e => hb (by rw [e]; rfl))] at h
  rw [← h, show piece s f (i + 1) = piece s f i ++ [s[i]] from Lib.piece_more hf (by rw [List.getElem?_eq_getElem (by simpa using hi)]; rfl)]
theorem wi_blank {s : ByteArray} {ws : List (List UInt8)} {f i : Nat} (h : Wi s ws f i) (hi : i < s.size) (hb : (s[i]'hi).toNat = 32) : (ws ++ ne [piece s f i]) ++ ne (cutS 32 (piece s (i + 1) (i + 1)) (s.data.toList.drop (i + 1))) = wds s.data.toList := by
  unfold Wi at h
  rw [drop_at s i hi, cutS, if_pos (UInt8.toNat_inj.1 hb)] at h
  rw [← h, piece_nil, List.append_assoc, ← ne_app]
  rfl
theorem wi_end {s : ByteArray} {ws : List (List UInt8)} {f i : Nat} (h : Wi s ws f i) (hi : s.size ≤ i) : ws ++ ne [piece s f i] = wds s.data.toList := by
  unfold Wi at h
  rw [List.drop_eq_nil_of_le (by rw [← Lib.size_eq]; exact hi)] at h
  exact h

set_option maxHeartbeats 4000000 in
set_option maxRecDepth 100000 in
theorem words_any (s : ByteArray) (w : World) (hs : s.size ≤ 1048576) :
    Calls Tryd.prog 7 #[.string s] w fun e w' => ∃ v, e = .returned v ∧ w'.ownsRow w.heap.size 9 1 v (wds s.data.toList).length ((wds s.data.toList).map tv) ∧ Below w.heap.size w w' := by
  obtain ⟨i0, hi, hz0, hz1, hz2⟩ := info_parts infoStr
  go_enter Tryd.func7, Tryd.ntmps7
  go_wp2
  go_loopw [3, 4, 5] (fun v a b wr => ∃ (f i : Nat) (ws : List (List UInt8)), f ≤ i ∧ i ≤ s.size + 1 ∧ a = .int .i64 f ∧ b = .int .i64 i ∧ ws.length ≤ i ∧ wr.ownsRow w.heap.size 9 1 v ws.length (ws.map tv) ∧ Below w.heap.size w wr ∧ ((i ≤ s.size ∧ Wi s ws f i) ∨ (i = s.size + 1 ∧ ws = wds s.data.toList))) (fun _ _ b _ => s.size + 1 - (intOf b).toNat)
  case atStart => exact ⟨0, 0, [], Nat.le_refl _, Nat.zero_le _, rfl, rfl, Nat.le_refl _, ow.own_empty w _, (Below.refl _ _).alloc (Nat.le_refl _) _, .inl ⟨Nat.zero_le _, rfl⟩⟩
  case round =>
    obtain ⟨f, i, ws, hfi, his, rfl, rfl, hwl, hown, hbw, hc⟩ := hrel
    have hBs := hbw.size
    by_cases hle : i ≤ s.size
    · have HC : Hid (Wi s ws f i) := by
        rcases hc with hc | hc
        · exact hc.2
        · exfalso; omega
      clear hc
      have c0 : (i : Int) ≤ (s.size : Int) := by omega
      have c1 : (0 : Int) ≤ (f : Int) := by omega
      have c2 : (f : Int) ≤ (i : Int) := by omega
      have c3 : (0 : Int) ≤ (i : Int) := by omega
      by_cases hlt : i < s.size
      · have q0 : ((i : Int) == (s.size : Int)) = false := beq_eq_false_iff_ne.2 (by omega)
        have hlt' : (i : Int) < (s.size : Int) := by omega
        by_cases hb : (s[i]'hlt).toNat = 32
        · have d1 : (((s[i]'hlt).toNat : Int) == 32) = true := beq_iff_eq.2 (by omega)
          have HB : Hid ((s[i]'hlt).toNat = 32) := hb
          clear hb
          by_cases hg : f < i
          · have g0 : (f : Int) < (i : Int) := by omega
            have g1 : decide ((f : Int) < (i : Int)) = true := decide_eq_true g0
            go_wp2_with (at_builtin; refine wpList_append_own _ rfl _ _ 28 rfl w.heap.size 9 i0 (.string ByteArray.empty) 1 16 Tryd.underlying28 hi hz0 hz1 hz2 rfl (by decide) _ _ _ rfl (hown.alloc _) ⟨wr.heap.size, 0, none⟩ 1 1 [.string (s.extract f i)] rfl rfl (ow.cells_new _ [.string (s.extract f i)] _) (by intro u hu; simp at hu; subst hu; rfl) (by unfold maxLen; omega) (by omega) (by simp; omega) ?_; intro v' w3 hown3 hgrow3 hnil3)
            have hb3 := Below.grown (hbw.alloc hBs _) hgrow3 (by simp; omega) (ow.own_lt hown)
            have HA : Hid (w3.ownsRow w.heap.size 9 1 v' (ws ++ [piece s f i]).length ((ws ++ [piece s f i]).map tv) ∧ Below w.heap.size w w3) := ⟨by rw [List.map_append, List.map_cons, tv_piece, List.length_append]; exact hown3, hb3⟩
            have HW : Hid (Wi s (ws ++ [piece s f i]) (i + 1) (i + 1)) := by have := wi_blank HC.out hlt HB.out; rw [ne_one (piece_ne s hg (by omega))] at this; exact this
            clear hown3 hgrow3 hnil3 hb3 hown hbw
            go_wp2
            go_roundw
            case rel => exact ⟨i + 1, i + 1, ws ++ [piece s f i], Nat.le_refl _, by omega, by go_num, by go_num, by simp; omega, HA.out.1, HA.out.2, .inl ⟨hlt, HW.out⟩⟩
            case measure => first | (simp [intOf]; done) | (simp [intOf]; omega)
          · have hfe : f = i := by omega
            subst hfe
            have g1 : decide ((f : Int) < (f : Int)) = false := decide_eq_false (by omega)
            have HW : Hid (Wi s ws (f + 1) (f + 1)) := by have := wi_blank HC.out hlt HB.out; rw [piece_nil, ne_none, List.append_nil] at this; exact this
            go_wp2
            go_roundw
            case rel => exact ⟨f + 1, f + 1, ws, Nat.le_refl _, by omega, by go_num, by go_num, by omega, hown, hbw, .inl ⟨hlt, HW.out⟩⟩
            case measure => first | (simp [intOf]; done) | (simp [intOf]; omega)
        · have d1 : (((s[i]'hlt).toNat : Int) == 32) = false := beq_eq_false_iff_ne.2 (by omega)
          have HW : Hid (Wi s ws f (i + 1)) := wi_sign HC.out hfi hlt hb
          go_wp2
          go_roundw
          case rel => exact ⟨f, i + 1, ws, by omega, by omega, rfl, by go_num, by omega, hown, hbw, .inl ⟨hlt, HW.out⟩⟩
          case measure => first | (simp [intOf]; done) | (simp [intOf]; omega)
      · have hie : i = s.size := by omega
        subst hie
        have q0 : ((s.size : Int) == (s.size : Int)) = true := beq_self_eq_true _
        by_cases hg : f < s.size
        · have g0 : (f : Int) < (s.size : Int) := by omega
          have g1 : decide ((f : Int) < (s.size : Int)) = true := decide_eq_true g0
          go_wp2_with (at_builtin; refine wpList_append_own _ rfl _ _ 28 rfl w.heap.size 9 i0 (.string ByteArray.empty) 1 16 Tryd.underlying28 hi hz0 hz1 hz2 rfl (by decide) _ _ _ rfl (hown.alloc _) ⟨wr.heap.size, 0, none⟩ 1 1 [.string (s.extract f s.size)] rfl rfl (ow.cells_new _ [.string (s.extract f s.size)] _) (by intro u hu; simp at hu; subst hu; rfl) (by unfold maxLen; omega) (by omega) (by simp; omega) ?_; intro v' w3 hown3 hgrow3 hnil3)
          have hb3 := Below.grown (hbw.alloc hBs _) hgrow3 (by simp; omega) (ow.own_lt hown)
          have HA : Hid (w3.ownsRow w.heap.size 9 1 v' (ws ++ [piece s f s.size]).length ((ws ++ [piece s f s.size]).map tv) ∧ Below w.heap.size w w3) := ⟨by rw [List.map_append, List.map_cons, tv_piece, List.length_append]; exact hown3, hb3⟩
          have HW : Hid (ws ++ [piece s f s.size] = wds s.data.toList) := by have := wi_end HC.out (Nat.le_refl _); rw [ne_one (piece_ne s hg (by omega))] at this; exact this
          clear hown3 hgrow3 hnil3 hb3 hown hbw
          go_wp2
          go_roundw
          case rel => exact ⟨s.size + 1, s.size + 1, ws ++ [piece s f s.size], Nat.le_refl _, by omega, by go_num, by go_num, by simp; omega, HA.out.1, HA.out.2, .inr ⟨rfl, HW.out⟩⟩
          case measure => first | (simp [intOf]; done) | (simp [intOf]; omega)
        · have hfe : f = s.size := by omega
          subst hfe
          have g1 : decide ((s.size : Int) < (s.size : Int)) = false := decide_eq_false (by omega)
          have HW : Hid (ws = wds s.data.toList) := by have := wi_end HC.out (Nat.le_refl _); rw [piece_nil, ne_none, List.append_nil] at this; exact this
          go_wp2
          go_roundw
          case rel => exact ⟨s.size + 1, s.size + 1, ws, Nat.le_refl _, by omega, by go_num, by go_num, by omega, hown, hbw, .inr ⟨rfl, HW.out⟩⟩
          case measure => first | (simp [intOf]; done) | (simp [intOf]; omega)
    · have c0 : ¬ (i : Int) ≤ (s.size : Int) := by omega
      have c1 : decide ((i : Int) ≤ (s.size : Int)) = false := decide_eq_false c0
      have HW : Hid (ws = wds s.data.toList) := by
        rcases hc with hc | hc
        · exfalso; omega
        · exact hc.2
      clear hc
      go_wp2
      go_ret
      exact ⟨_, rfl, by rw [← HW.out]; exact hown, hbw⟩

end Go.Proofs.YtocmcbcijmjlhaaDoor.cn
