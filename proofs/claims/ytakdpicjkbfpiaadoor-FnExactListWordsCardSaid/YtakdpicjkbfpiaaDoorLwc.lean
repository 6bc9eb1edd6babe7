/-
  The specification's ListWords.
-/
import Derived.Test.YtakdpicjkbfpiaaDoorLwb
import Derived.Test.YtakdpicjkbfpiaaDoorApp
namespace Go.Proofs.YtakdpicjkbfpiaaDoor.lw
open Go.RowKit
open sp
set_option linter.unusedVariables false

/-- What stands between brackets. -/
def Shape (l : List UInt8) : Prop := (∃ q, l = 40 :: (q ++ [41])) ∨ l = [] ∨ (∃ b r, l = b :: r ∧ b ≠ 40) ∨ l = [40] ∨ ∃ q x, l = 40 :: (q ++ [x]) ∧ x ≠ 41
theorem shape (l : List UInt8) : Shape l := by
  cases l with
  | nil => exact .inr (.inl rfl)
  | cons b r =>
    by_cases hb : b = 40
    · subst hb
      rcases List.eq_nil_or_concat r with rfl | ⟨q, x, rfl⟩
      · exact .inr (.inr (.inr (.inl rfl)))
      · by_cases hx : x = 41
        · subst hx; exact .inl ⟨q, by simp⟩
        · exact .inr (.inr (.inr (.inr ⟨q, x, by simp, hx⟩)))
    · exact .inr (.inr (.inl ⟨b, r, rfl, hb⟩))
theorem at_first (s : ByteArray) (b : UInt8) (r : List UInt8) (h : s.data.toList = b :: r) (wx : World) : (Instr.index 9 (.string s) (.int .i64 0)).run Tryd.prog wx = .ok (.int .u8 (b.toNat : Int)) wx := by
  have hs : s.size = r.length + 1 := by rw [Lib.size_eq, h]; rfl
  rw [run_index_string wx 9 s .i64 0 Tryd.underlying9, dif_pos ⟨by omega, by omega⟩]
  have : s[(0 : Int).toNat]'(by show (0 : Nat) < s.size; omega) = b := by
    show s.data.toList[0]'(by rw [h]; simp) = b
    simp [h]
  rw [this]
theorem at_last (s : ByteArray) (x : UInt8) (r : List UInt8) (h : s.data.toList = r ++ [x]) (wx : World) : (Instr.index 9 (.string s) (.int .i64 ((s.size : Int) - 1))).run Tryd.prog wx = .ok (.int .u8 (x.toNat : Int)) wx := by
  have hs : s.size = r.length + 1 := by rw [Lib.size_eq, h]; simp
  rw [run_index_string wx 9 s .i64 _ Tryd.underlying9, dif_pos ⟨by omega, by omega⟩]
  have e : ((s.size : Int) - 1).toNat = r.length := by omega
  have : s[((s.size : Int) - 1).toNat]'(by omega) = x := by
    show s.data.toList[((s.size : Int) - 1).toNat]'(by rw [h, e]; simp) = x
    simp [h, e]
  rw [this]
theorem mid_text (s : ByteArray) (b x : UInt8) (q : List UInt8) (h : s.data.toList = b :: (q ++ [x])) : s.extract 1 (s.size - 1) = ⟨q.toArray⟩ := by
  have hs : s.size = q.length + 2 := by rw [Lib.size_eq, h]; simp
  apply ByteArray.ext
  rw [← Array.toList_inj, ← Lib.toList_data (s.extract 1 (s.size - 1)), Lib.extract_toList, h, hs]
  simp

theorem tx_empty {C : ByteArray} (h : C.size = 0) : C.toList.isEmpty = true ∧ (C.toList == []) = true ∧ (C.toList != []) = false := by
  have e : C.toList = [] := by rw [Lib.toList_data]; exact List.eq_nil_of_length_eq_zero (by rw [← Lib.size_eq]; exact h)
  rw [e]
  exact ⟨rfl, rfl, rfl⟩
theorem tx_some {C : ByteArray} (h : ¬ C.size = 0) : C.toList.isEmpty = false ∧ (C.toList == []) = false ∧ (C.toList != []) = true := by
  have e : C.toList ≠ [] := by
    intro e
    rw [Lib.toList_data] at e
    exact h (by rw [Lib.size_eq, e]; rfl)
  match C.toList, e with
  | [], e => exact absurd rfl e
  | a :: b, _ => exact ⟨rfl, rfl, rfl⟩
/-- A row of texts of one's own. -/
def OwnW (w : World) (base : Nat) (v : Value) (V : List (List UInt8)) : Prop := w.ownsRow base 9 1 v V.length (V.map tv)
theorem goW_bad {acc V : List (List UInt8)} {k : Nat} {R : List (List UInt8) × Int} (h : goW acc (V.drop k) = R) (hk : k < V.length) (hb : wordB (V.getD k []) = false ∨ acc.length = 30) : R = ([], 3) := by
  rw [List.drop_eq_getElem_cons hk, goW] at h
  have e : V.getD k [] = V[k] := by simp [List.getD_eq_getElem?_getD, hk]
  rw [e] at hb
  rw [← h, if_neg]
  rcases hb with hb | hb
  · rw [hb]; simp
  · simp [hb]
theorem goW_step {acc V : List (List UInt8)} {k : Nat} {R : List (List UInt8) × Int} (h : goW acc (V.drop k) = R) (hk : k < V.length) (hb : wordB (V.getD k []) = true) (ha : acc.length ≠ 30) : goW (acc ++ [V.getD k []]) (V.drop (k + 1)) = R := by
  rw [List.drop_eq_getElem_cons hk, goW] at h
  have e : V.getD k [] = V[k] := by simp [List.getD_eq_getElem?_getD, hk]
  rw [e] at hb ⊢
  rw [if_pos (by rw [hb]; simp [ha])] at h
  exact h
theorem goW_end {acc V : List (List UInt8)} {k : Nat} {R : List (List UInt8) × Int} (h : goW acc (V.drop k) = R) (hk : V.length ≤ k) : R = (acc, 0) := by
  rw [List.drop_eq_nil_of_le hk] at h
  exact h.symm
/-- What l12Words answers. -/
def Wret (R : List (List UInt8) × Int) (base : Nat) (w : World) (e : Ending) (w' : World) : Prop := ∃ v, e = .returned (.tuple #[v, .bool (decide (R.2 = 0))]) ∧ OwnW w' base v R.1 ∧ Below w.heap.size w w'
set_option maxHeartbeats 4000000 in
set_option maxRecDepth 100000 in
theorem words_bad (s : ByteArray) (w : World) (hs : s.size ≤ 1048576) (hq : ¬ ∃ q, s.data.toList = 40 :: (q ++ [41])) :
    Calls Tryd.prog 19 #[.string s] w fun e w' => Wret ([], 3) w.heap.size w e w' := by
  rcases shape s.data.toList with h | h | ⟨b, r, h, hb⟩ | h | ⟨q, x, h, hx⟩
  · exact absurd h hq
  · have hz : s.size = 0 := by rw [Lib.size_eq, h]; rfl
    have hz' : (s.size : Int) < 2 := by omega
    clear h hz hq
    go_enter Tryd.func19, Tryd.ntmps19
    go_wp2
    go_ret2
    exact ⟨_, rfl, ow.own_empty w _, (Below.refl _ _).alloc (Nat.le_refl _) _⟩
  · by_cases hr : s.size < 2
    · have hz' : (s.size : Int) < 2 := by omega
      clear h hq hr
      go_enter Tryd.func19, Tryd.ntmps19
      go_wp2
      go_ret2
      exact ⟨_, rfl, ow.own_empty w _, (Below.refl _ _).alloc (Nat.le_refl _) _⟩
    · have hz' : 2 ≤ (s.size : Int) := by omega
      have hz2 : decide ((s.size : Int) < 2) = false := decide_eq_false (by omega)
      have h0 := at_first s b r h
      have hbn : ((b.toNat : Int) != 40) = true := by
        have : b.toNat ≠ 40 := fun e => hb (UInt8.toNat_inj.1 e)
        simp; omega
      generalize (b.toNat : Int) = B at h0 hbn
      clear h hq hr
      go_enter Tryd.func19, Tryd.ntmps19
      go_wp2
      go_ret2
      exact ⟨_, rfl, ow.own_empty w _, (Below.refl _ _).alloc (Nat.le_refl _) _⟩
  · have hz : s.size = 1 := by rw [Lib.size_eq, h]; rfl
    have hz' : (s.size : Int) < 2 := by omega
    clear h hz hq
    go_enter Tryd.func19, Tryd.ntmps19
    go_wp2
    go_ret2
    exact ⟨_, rfl, ow.own_empty w _, (Below.refl _ _).alloc (Nat.le_refl _) _⟩
  · have hz : s.size = q.length + 2 := by rw [Lib.size_eq, h]; simp
    have hz' : 2 ≤ (s.size : Int) := by omega
    have hz2 : decide ((s.size : Int) < 2) = false := decide_eq_false (by omega)
    have h0 := at_first s 40 (q ++ [x]) h
    have h1 := at_last s x (40 :: q) h
    have hbn : ((x.toNat : Int) != 41) = true := by
      have : x.toNat ≠ 41 := fun e => hx (UInt8.toNat_inj.1 e)
      simp; omega
    have h40 : (((40 : UInt8).toNat : Int)) = 40 := rfl
    rw [h40] at h0
    generalize (x.toNat : Int) = B at h1 hbn
    clear h hz hq h40
    go_enter Tryd.func19, Tryd.ntmps19
    go_wp2
    go_ret2
    exact ⟨_, rfl, ow.own_empty w _, (Below.refl _ _).alloc (Nat.le_refl _) _⟩

set_option maxHeartbeats 4000000 in
set_option maxRecDepth 100000 in
theorem words_good (s : ByteArray) (q : List UInt8) (w : World) (hs : s.size ≤ 1048576) (h : s.data.toList = 40 :: (q ++ [41])) :
    Calls Tryd.prog 19 #[.string s] w fun e w' => Wret (goW [] (cutS 32 [] q)) w.heap.size w e w' := by
  have hz : s.size = q.length + 2 := by rw [Lib.size_eq, h]; simp
  have hz' : 2 ≤ (s.size : Int) := by omega
  have hz2 : decide ((s.size : Int) < 2) = false := decide_eq_false (by omega)
  have h0 := at_first s 40 (q ++ [41]) h
  have h1 := at_last s 41 (40 :: q) h
  have h40 : (((40 : UInt8).toNat : Int)) = 40 := rfl
  have h41 : (((41 : UInt8).toNat : Int)) = 41 := rfl
  rw [h40] at h0
  rw [h41] at h1
  have hsl := ow.slice_str (P := Tryd.prog) 9 s .i64 .i64 1 (s.size - 1) Tryd.underlying9 1 ((s.size : Int) - 1) rfl (by omega) (by omega) (by omega)
  rw [mid_text s 40 41 q h] at hsl
  have hQ : (⟨q.toArray⟩ : ByteArray).data.toList = q := rfl
  obtain ⟨Q, eQ⟩ : ∃ Q : ByteArray, Q = ⟨q.toArray⟩ := ⟨_, rfl⟩
  rw [← eQ] at hsl hQ
  have hQs : Q.size ≤ 1048576 := by rw [Lib.size_eq, hQ]; omega
  rw [← hQ]
  clear h h40 h41 hQ eQ hz
  have HVS : Hid (∀ j, j < (cutS 32 [] Q.data.toList).length → ((cutS 32 [] Q.data.toList).getD j []).length ≤ 1048576) := fun j hj => by
    have hm : (cutS 32 [] Q.data.toList).getD j [] ∈ cutS 32 [] Q.data.toList := by
      rw [List.getD_eq_getElem?_getD, List.getElem?_eq_getElem hj]; exact List.getElem_mem _
    have := cutS_small 32 _ _ _ hm
    rw [← Lib.size_eq] at this
    simp only [List.length_nil, Nat.zero_add] at this
    omega
  have HVL : Hid ((cutS 32 [] Q.data.toList).length ≤ 1048577) := by
    have := cutS_len 32 Q.data.toList []
    rw [← Lib.size_eq] at this
    exact (show _ ≤ 1048577 by omega)
  have HCP : Hid (∀ W, Calls Tryd.prog 31 #[.string Q, .int .u8 32] W fun e w' => ∃ v, e = .returned v ∧ (∃ g cap, v = .slice (some ⟨g, 0, none⟩) (cutS 32 [] Q.data.toList).length cap ∧ W.heap.size ≤ g ∧ g < w'.heap.size ∧ ∀ j, j < (cutS 32 [] Q.data.toList).length → w'.cell? ⟨g, j, none⟩ = some (.string ⟨((cutS 32 [] Q.data.toList).getD j []).toArray⟩)) ∧ Below W.heap.size W w') := fun W => (cut_any 32 Q W hQs).mono fun e w' ⟨v, he, ho, hb⟩ => by
    obtain ⟨g, cap, hv, h2, h3⟩ := words_own ho (cutS_ne 32 _ _)
    exact ⟨v, he, ⟨g, cap, hv, ow.own_lt ho g (by rw [hv]; rfl), h2, h3⟩, hb⟩
  generalize cutS 32 [] Q.data.toList = V at HVS HVL HCP ⊢
  generalize hR : goW [] V = R
  obtain ⟨n, hn⟩ : ∃ n, n = V.length := ⟨_, rfl⟩
  have HN : Hid (n = V.length) := hn
  have hnl : n ≤ 1048577 := by rw [hn]; exact HVL.out
  have HR0 : Hid (goW [] (V.drop 0) = R) := by rw [List.drop_zero]; exact hR
  clear hR hn HVL
  obtain ⟨i0, hi, hz0, hz1, hz3⟩ := info_parts infoStr
  have HA : Hid (∀ (c : UInt8) (W : World), Calls Tryd.prog 32 #[.int .u8 (c.toNat : Int)] W fun e w' => e = .returned (.bool (atB c)) ∧ w' = W) := atom_any
  have hoe := ow.own_empty w 9
  have hbe : Below w.heap.size w (w.alloc (.cells #[] 9)) := (Below.refl _ _).alloc (Nat.le_refl _) _
  have HOE : Hid ((w.alloc (.cells #[] 9)).ownsRow w.heap.size 9 1 (.slice (some ⟨w.heap.size, 0, none⟩) 0 0) 0 [] ∧ Below w.heap.size w (w.alloc (.cells #[] 9))) := ⟨hoe, hbe⟩
  clear hoe hbe
  go_enter Tryd.func19, Tryd.ntmps19
  go_wp2_with fail
  refine (HCP.out _).mono ?_
  rintro e w1 ⟨v, rfl, hw1, b1⟩
  have HO1 : Hid (w1.ownsRow w.heap.size 9 1 (.slice (some ⟨w.heap.size, 0, none⟩) 0 0) 0 [] ∧ Below w.heap.size w w1) := ⟨ow.own_below HOE.out.1 b1, HOE.out.2.trans (b1.mono HOE.out.2.size)⟩
  clear HCP h0 h1 hsl hz' hz2 HOE b1
  obtain ⟨g, cap, rfl, hg0, hgl, hcl⟩ := hw1
  have hg0 : w.heap.size < g := by have : (w.alloc (.cells #[] 9)).heap.size = w.heap.size + 1 := World.size_alloc _ _; omega
  have HNE : Hid ((Value.slice (some ⟨w.heap.size, 0, none⟩) 0 0).ownBlock ≠ some g) := by
    intro e
    have e : w.heap.size = g := by simpa [Value.ownBlock] using e
    omega
  rw [← HN.out]
  have HGL : Hid (g < w1.heap.size) := hgl
  have HC1 : Hid (∀ j, j < V.length → w1.cell? ⟨g, j, none⟩ = some (.string ⟨(V.getD j []).toArray⟩)) := hcl
  clear hcl hgl
  go_wp2
  go_loopw [4, 6] (fun v i wr => ∃ (k : Nat) (acc : List (List UInt8)), k ≤ n ∧ i = .int .i64 k ∧ acc.length ≤ 30 ∧ goW acc (V.drop k) = R ∧ wr.ownsRow w.heap.size 9 1 v acc.length (acc.map tv) ∧ v.ownBlock ≠ some g ∧ (∀ j, j < V.length → wr.cell? ⟨g, j, none⟩ = some (.string ⟨(V.getD j []).toArray⟩)) ∧ g < wr.heap.size ∧ Below w.heap.size w wr) (fun _ i _ => n - (intOf i).toNat)
  case atStart => exact ⟨0, [], Nat.zero_le _, rfl, Nat.zero_le _, HR0.out, HO1.out.1, HNE.out, HC1.out, HGL.out, HO1.out.2⟩
  case round =>
    clear HR0 HO1 HC1 HGL HNE
    obtain ⟨k, acc, hk, rfl, hal, hgo, hown, hne, hcl, hgl, hbw⟩ := hrel
    have HGO : Hid (goW acc (V.drop k) = R) := hgo
    have HCL : Hid (∀ j, j < V.length → wr.cell? ⟨g, j, none⟩ = some (.string ⟨(V.getD j []).toArray⟩)) := hcl
    have hsz := hbw.size
    obtain ⟨a4, c4, hu4⟩ : ∃ a c, u4 = .slice a acc.length c := by
      rcases hown.2 with ⟨e, h0⟩ | ⟨g, cap, cur, e, _⟩
      · exact ⟨none, 0, by rw [e, h0]⟩
      · exact ⟨_, cap, e⟩
    subst hu4
    have HOWN : Hid (wr.ownsRow w.heap.size 9 1 (.slice a4 acc.length c4) acc.length (acc.map tv)) := hown
    obtain ⟨A, hA⟩ : ∃ A, A = acc.length := ⟨_, rfl⟩
    have HAL : Hid (A = acc.length) := hA
    have hA30 : A ≤ 30 := by omega
    rw [← hA] at HOWN hne ⊢
    clear hgo hcl hown hA hal
    by_cases hlt : k < n
    · have hlt' : (k : Int) < (n : Int) := by omega
      have hk0 : (0 : Int) ≤ (k : Int) := by omega
      have HKL : Hid (k < V.length) := by rw [← HN.out]; exact hlt
      obtain ⟨x, hx⟩ : ∃ x : ByteArray, x = ⟨(V.getD k []).toArray⟩ := ⟨_, rfl⟩
      have hxs : x.size ≤ 1048576 := by rw [Lib.size_eq, hx]; exact HVS.out k HKL.out
      have HX : Hid (x = ⟨(V.getD k []).toArray⟩) := hx
      have HXL : Hid (x.data.toList = V.getD k []) := congrArg (fun b : ByteArray => b.data.toList) hx
      have c1 : wr.cell? ⟨g, k, none⟩ = some (.string x) := by rw [hx]; exact HCL.out k HKL.out
      clear hx
      by_cases hxe : x.size = 0
      · have HE : Hid (R = ([], 3)) := goW_bad HGO.out HKL.out (.inl (by
          have hz := Lib.size_eq x
          have e : x.data.toList = [] := List.eq_nil_of_length_eq_zero (by omega)
          rw [← HXL.out, e]; rfl))
        obtain ⟨f1, f2, f3⟩ := tx_empty hxe
        have HB : Hid ((wr.alloc (.cells #[] 9)).ownsRow wr.heap.size 9 1 (.slice (some ⟨wr.heap.size, 0, none⟩) 0 0) 0 [] ∧ Below w.heap.size w (wr.alloc (.cells #[] 9))) := ⟨ow.own_empty wr _, hbw.alloc hsz _⟩
        clear hbw HGO HOWN hxe
        go_wp2
        go_ret2
        exact ⟨_, by rw [HE.out]; rfl, by rw [HE.out]; exact ow.own_base HB.out.1 hsz, HB.out.2⟩
      · obtain ⟨f1, f2, f3⟩ := tx_some hxe
        by_cases h30 : A = 30
        · have HE : Hid (R = ([], 3)) := goW_bad HGO.out HKL.out (.inr (by rw [← HAL.out]; exact h30))
          have h30' : ((A : Int) == 30) = true := beq_iff_eq.2 (by omega)
          have HB : Hid ((wr.alloc (.cells #[] 9)).ownsRow wr.heap.size 9 1 (.slice (some ⟨wr.heap.size, 0, none⟩) 0 0) 0 [] ∧ Below w.heap.size w (wr.alloc (.cells #[] 9))) := ⟨ow.own_empty wr _, hbw.alloc hsz _⟩
          clear hbw HGO HOWN hxe
          go_wp2
          go_ret2
          exact ⟨_, by rw [HE.out]; rfl, by rw [HE.out]; exact ow.own_base HB.out.1 hsz, HB.out.2⟩
        · have h30' : ((A : Int) == 30) = false := beq_eq_false_iff_ne.2 (by omega)
          have HXN : Hid (¬ x.size = 0) := hxe
          clear hxe
          go_wp2
          go_loopw [7] (fun i wq => ∃ j : Nat, j ≤ x.size ∧ i = .int .i64 j ∧ (∀ (p : Nat) (h : p < x.size), p < j → atB x[p] = true) ∧ wq = wr) (fun i _ => x.size - (intOf i).toNat)
          case atStart => exact ⟨0, Nat.zero_le _, rfl, fun p _ h => absurd h (Nat.not_lt_zero _), rfl⟩
          case round =>
            obtain ⟨j, hj, rfl, hall, hwq⟩ := hrel
            subst hwq
            have HALL : Hid (∀ (p : Nat) (h : p < x.size), p < j → atB x[p] = true) := hall
            clear hall
            by_cases hjl : j < x.size
            · have hjl' : (j : Int) < (x.size : Int) := by omega
              have hj0 : (0 : Int) ≤ (j : Int) := by omega
              have HAJ : Hid (∀ W, Calls Tryd.prog 32 #[.int .u8 ((x[j]'hjl).toNat : Int)] W fun e w' => e = .returned (.bool (atB (x[j]'hjl))) ∧ w' = W) := fun W => HA.out _ W
              have HBD : Hid (atB (x[j]'hjl) = false → R = ([], 3)) := fun e => goW_bad HGO.out HKL.out (.inl (by
                rw [← HXL.out]
                unfold wordB
                have : x.data.toList.all atB = false := by
                  rw [List.all_eq_false]
                  exact ⟨x[j], by have hz := Lib.size_eq x; have : x[j] = x.data.toList[j]'(by omega) := rfl; rw [this]; exact List.getElem_mem _, by rw [e]; simp⟩
                rw [this]
                simp))
              have HNX : Hid (atB (x[j]'hjl) = true → ∀ (p : Nat) (h : p < x.size), p < j + 1 → atB x[p] = true) := fun e p h hp => by
                by_cases e2 : p = j
                · subst e2; exact e
                · exact HALL.out p h (by omega)
              generalize atB (x[j]'hjl) = B at HAJ HBD HNX
              clear HALL
              cases B
              · have HE : Hid (R = ([], 3)) := HBD.out rfl
                have HB : Hid ((wr.alloc (.cells #[] 9)).ownsRow wr.heap.size 9 1 (.slice (some ⟨wr.heap.size, 0, none⟩) 0 0) 0 [] ∧ Below w.heap.size w (wr.alloc (.cells #[] 9))) := ⟨ow.own_empty wr _, hbw.alloc hsz _⟩
                clear HBD HNX hbw HGO HOWN
                go_wp2_with fail
                refine (HAJ.out _).mono ?_
                rintro e w4 ⟨rfl, hw4⟩
                have hw4 := hw4.symm
                subst hw4
                clear HAJ
                go_wp2
                go_ret2
                exact ⟨_, by rw [HE.out]; rfl, by rw [HE.out]; exact ow.own_base HB.out.1 hsz, HB.out.2⟩
              · have HN2 : Hid (∀ (p : Nat) (h : p < x.size), p < j + 1 → atB x[p] = true) := HNX.out rfl
                clear HBD HNX
                go_wp2_with fail
                refine (HAJ.out _).mono ?_
                rintro e w4 ⟨rfl, hw4⟩
                have hw4 := hw4.symm
                subst hw4
                clear HAJ
                go_wp2
                go_roundw
                case rel => exact ⟨j + 1, by omega, by go_num, HN2.out, by trivial⟩
                case measure => simp [intOf]; omega
            · have hjx : j = x.size := by omega
              subst hjx
              have HW : Hid (wordB (V.getD k []) = true) := by
                rw [← HXL.out]
                unfold wordB
                have hz := Lib.size_eq x
                have h1 : x.data.toList.all atB = true := by
                  rw [List.all_eq_true]
                  intro b hb
                  obtain ⟨p, hp, rfl⟩ := List.mem_iff_getElem.1 hb
                  exact HALL.out p (by omega) (by omega)
                have h2 : x.data.toList.isEmpty = false := by
                  have := HXN.out
                  cases hl : x.data.toList with
                  | nil => rw [hl] at hz; exact absurd hz this
                  | cons a b => rfl
                rw [h1, h2]
                rfl
              have HST : Hid (goW (acc ++ [V.getD k []]) (V.drop (k + 1)) = R) := goW_step HGO.out HKL.out HW.out (by rw [← HAL.out]; exact h30)
              have hown := HOWN.out
              clear HALL HOWN HGO HW
              go_wp2_with (at_builtin; refine ap.wpList_append_at _ rfl _ _ 25 rfl w.heap.size 9 i0 (.string ByteArray.empty) 1 16 Tryd.underlying25 hi hz0 hz1 hz3 rfl (by decide) _ _ _ rfl (hown.alloc _) ⟨wr.heap.size, 0, none⟩ 1 1 [.string x] rfl rfl (ow.cells_new _ [.string x] _) (by intro u hu; simp at hu; subst hu; rfl) (by unfold maxLen; omega) (by omega) (by simp; omega) ?_; intro v' w5 hown5 hgrow5 hpl5)
              have HE : Hid (w5.ownsRow w.heap.size 9 1 v' (acc ++ [V.getD k []]).length ((acc ++ [V.getD k []]).map tv) ∧ v'.ownBlock ≠ some g ∧ (∀ j, j < V.length → w5.cell? ⟨g, j, none⟩ = some (.string ⟨(V.getD j []).toArray⟩)) ∧ g < w5.heap.size ∧ Below w.heap.size w w5) := by
                have hsa : (wr.alloc (.cells #[.string x] 9)).heap.size = wr.heap.size + 1 := World.size_alloc _ _
                refine ⟨?_, ?_, fun j hj => ?_, ?_, Below.grown (hbw.alloc hsz _) hgrow5 (by omega) (ow.own_lt hown)⟩
                · rw [List.map_append, List.length_append, ← HAL.out]
                  have e : tv (V.getD k []) = .string x := by rw [HX.out]; rfl
                  rw [List.map_cons, List.map_nil, e]
                  exact hown5
                · rcases hpl5 with e | e
                  · rw [e]; exact hne
                  · rw [e]; intro e2; injection e2 with e3; omega
                · have hb : (wr.alloc (.cells #[.string x] 9)).cell? ⟨g, j, none⟩ = some (.string ⟨(V.getD j []).toArray⟩) := ((Below.refl _ wr).alloc (Nat.le_refl _) _ |>.cell (p := ⟨g, j, none⟩) hgl).trans (HCL.out j hj)
                  exact hgrow5.cell hb (fun e => hne e.symm)
                · have := hgrow5.size; omega
              clear hown5 hgrow5 hpl5 hown hbw HCL hne
              go_wp2
              go_roundw
              case rel => exact ⟨k + 1, acc ++ [V.getD k []], by omega, by go_num, by have := HAL.out; simp; omega, HST.out, HE.out.1, HE.out.2.1, HE.out.2.2.1, HE.out.2.2.2.1, HE.out.2.2.2.2⟩
              case measure => simp [intOf]; omega
    · have HE : Hid (R = (acc, 0)) := goW_end HGO.out (by have := HN.out; omega)
      have hkn : k = n := by omega
      subst hkn
      clear HGO
      go_wp2
      go_ret2
      refine ⟨.slice a4 A c4, by rw [HE.out]; rfl, ?_, hbw⟩
      rw [HE.out]
      show wr.ownsRow w.heap.size 9 1 (.slice a4 A c4) acc.length (acc.map tv)
      rw [← HAL.out]
      exact HOWN.out
def LR (s : ByteArray) : List (List UInt8) × Int := if 65536 < s.size then ([], 2) else lwR s.data.toList
/-- What ListWords answers. -/
def LwRet (s : ByteArray) (base : Nat) (e : Ending) (w' : World) : Prop := ∃ v, e = .returned (.tuple #[v, .int .i64 (LR s).2]) ∧ OwnW w' base v (LR s).1
theorem lw_code (l : List UInt8) : (lwR l).2 = 0 ∨ lwR l = ([], 3) := by
  by_cases h : ∃ q, l = 40 :: (q ++ [41])
  · obtain ⟨q, rfl⟩ := h
    rw [lw_good]
    split
    · exact .inl rfl
    · exact .inr rfl
  · exact .inr (lw_bad h)
set_option maxHeartbeats 1000000 in
set_option maxRecDepth 100000 in
theorem specLW (s : ByteArray) (w : World) (hs : s.size ≤ 1048576) :
    Calls Tryd.prog 8 #[.string s] w fun e w' => LwRet s w.heap.size e w' ∧ Below w.heap.size w w' := by
  by_cases g0 : 65536 < s.size
  · have g0' : (65536 : Int) < (s.size : Int) := by omega
    have HE : Hid (LR s = ([], 2)) := if_pos g0
    go_enter Tryd.func8, Tryd.ntmps8
    go_wp2
    go_ret2
    exact ⟨⟨_, by rw [HE.out]; rfl, by rw [HE.out]; exact ow.own_empty w _⟩, (Below.refl _ _).alloc (Nat.le_refl _) _⟩
  have g0' : (s.size : Int) ≤ 65536 := by omega
  have HE : Hid (LR s = lwR s.data.toList) := if_neg g0
  have HC : Hid (Calls Tryd.prog 19 #[.string s] w fun e w' => Wret (lwR s.data.toList) w.heap.size w e w') := by
    by_cases hq : ∃ q, s.data.toList = 40 :: (q ++ [41])
    · obtain ⟨q, hq⟩ := hq
      rw [hq, lw_go]
      exact words_good s q w hs hq
    · rw [lw_bad hq]
      exact words_bad s w hs hq
  have HD : Hid ((lwR s.data.toList).2 = 0 ∨ lwR s.data.toList = ([], 3)) := lw_code _
  generalize lwR s.data.toList = R at HE HC HD
  go_enter Tryd.func8, Tryd.ntmps8
  go_wp2_with fail
  refine HC.out.mono ?_
  rintro e w1 ⟨v, rfl, hown, b1⟩
  have HO : Hid (OwnW w1 w.heap.size v R.1) := hown
  clear HC hown
  rcases HD.out with h0 | h0
  · have hd : decide (R.2 = 0) = true := decide_eq_true h0
    have H0 : Hid (R.2 = 0) := h0
    rw [hd]
    clear hd h0
    go_wp2
    go_ret2
    exact ⟨⟨v, by rw [HE.out, H0.out]; rfl, by rw [HE.out]; exact HO.out⟩, b1⟩
  · have hd : decide (R.2 = 0) = false := by rw [h0]; rfl
    have H0 : Hid (R = ([], 3)) := h0
    have hsz := b1.size
    rw [hd]
    clear hd h0
    go_wp2
    go_ret2
    exact ⟨⟨_, by rw [HE.out, H0.out]; rfl, by rw [HE.out, H0.out]; exact ow.own_base (ow.own_empty w1 _) hsz⟩, b1.alloc hsz _⟩
end Go.Proofs.YtakdpicjkbfpiaaDoor.lw
