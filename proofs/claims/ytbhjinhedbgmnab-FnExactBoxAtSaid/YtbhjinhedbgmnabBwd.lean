/-
  The specification's test of boxes.
-/
import Derived.Test.YtbhjinhedbgmnabBwc
import Derived.Test.YtbhjinhedbgmnabBxf
namespace Go.Proofs.Ytbhjinhedbgmnab.bx
open Go.RowKit
open st gr
set_option linter.unusedVariables false

theorem plc_one {xs : List Bx} {s : ByteArray} {r r' : Int} (h : Plc xs s r) (h' : Plc xs s r') : r = r' := by
  rcases h with ⟨k, rfl, hk, hn, hf⟩ | ⟨rfl, hno⟩
  · rcases h' with ⟨j, rfl, hj, hn', hf'⟩ | ⟨rfl, hno⟩
    · by_cases e : k = j
      · rw [e]
      · by_cases e2 : k < j
        · exact absurd hn (hf' k e2)
        · exact absurd hn' (hf j (by omega))
    · exact absurd hn (hno k hk)
  · rcases h' with ⟨j, rfl, hj, hn', hf'⟩ | ⟨rfl, _⟩
    · exact absurd hn' (hno j hj)
    · rfl
theorem plc_ex (xs : List Bx) (s : ByteArray) : ∃ r, Plc xs s r := by
  by_cases h : ∃ k, k < xs.length ∧ (xs.getD k noB).nm = s
  · let p : Nat → Prop := fun k => k < xs.length ∧ (xs.getD k noB).nm = s
    have hex : ∀ m, (∃ k, k ≤ m ∧ p k) → ∃ k, p k ∧ ∀ j, j < k → ¬ p j := by
      intro m
      induction m with
      | zero => rintro ⟨k, hk, hp⟩; exact ⟨k, hp, fun j hj => by omega⟩
      | succ m ih =>
        rintro ⟨k, hk, hp⟩
        by_cases hm : ∃ j, j ≤ m ∧ p j
        · exact ih hm
        · refine ⟨k, hp, fun j hj hpj => hm ⟨j, by omega, hpj⟩⟩
    obtain ⟨k0, h0⟩ := h
    obtain ⟨k, ⟨h1, h2⟩, h3⟩ := hex k0 ⟨k0, Nat.le_refl _, h0⟩
    exact ⟨k, .inl ⟨k, rfl, h1, h2, fun j hj e => h3 j hj ⟨by omega, e⟩⟩⟩
  · exact ⟨-1, .inr ⟨rfl, fun j hj e => h ⟨j, hj, e⟩⟩⟩

set_option maxHeartbeats 2000000 in
set_option maxRecDepth 100000 in
theorem find_any (N : Nat) (v : Value) (xs : List Bx) (vs : Nat → Value × Value) (s : ByteArray) (w : World) (h : CellsIn w N v xs vs) (hn : xs.length ≤ 1048576) {r : Int} (hr : Plc xs s r) :
    Calls Try.prog 30 #[v, .string s] w fun e w' => e = .returned (.int .i64 r) ∧ w' = w := by
  obtain ⟨a, cap, rfl, hc⟩ := h
  obtain ⟨n, hn'⟩ : ∃ n, n = xs.length := ⟨_, rfl⟩
  have HN : Hid (n = xs.length) := hn'
  have HH : Hid (xs = [] ∨ ∃ b off, a = some ⟨b, off, none⟩ ∧ b < N ∧ ∀ j, j < xs.length → At5 w b (off + j * 5) (xs.getD j noB) (vs j)) := hc
  have HR : Hid (∀ r', Plc xs s r' → r' = r) := fun r' h => plc_one h hr
  rw [← hn'] at hn ⊢
  clear hc hn' hr
  go_enter Try.func30, Try.ntmps30
  go_wp2
  go_loopw [5] (fun i wr => ∃ k : Nat, k ≤ n ∧ i = .int .i64 k ∧ (∀ j, j < k → (xs.getD j noB).nm ≠ s) ∧ wr = w) (fun i _ => n - (intOf i).toNat)
  case atStart => exact ⟨0, Nat.zero_le _, rfl, fun j hj => absurd hj (Nat.not_lt_zero _), rfl⟩
  case round =>
    obtain ⟨k, hk, rfl, hno, rfl⟩ := hrel
    have HNO : Hid (∀ j, j < k → (xs.getD j noB).nm ≠ s) := hno
    clear hno
    by_cases hlt : k < n
    · have hka : k < xs.length := by rw [← HN.out]; exact hlt
      rcases HH.out with e | ⟨b, off, rfl, hbl, hcells⟩
      · rw [e] at hka; simp at hka
      have hat := hcells k hka
      have HKA : Hid (k < xs.length) := hka
      clear hcells hka
      generalize hx : xs.getD k noB = x at hat
      have HX : Hid (xs.getD k noB = x) := hx
      clear hx
      obtain ⟨c0, _⟩ := hat
      obtain ⟨nm, vd, nx, ms, ks⟩ := x
      simp only at c0
      have hlt' : (k : Int) < (n : Int) := by omega
      by_cases he : nm = s
      · have he' : (nm.toList == s.toList) = true := by rw [he]; simp
        have hrk : (k : Int) = r := HR.out k (.inl ⟨k, rfl, HKA.out, by rw [HX.out]; exact he, HNO.out⟩)
        have HRK : Hid ((k : Int) = r) := hrk
        clear he hrk
        go_wp2
        go_ret
        exact ⟨by rw [← HRK.out]; rfl, rfl⟩
      · have he' : (nm.toList == s.toList) = false := ky.ne_list he
        have HE : Hid (∀ j, j < k + 1 → (xs.getD j noB).nm ≠ s) := fun j hj => by
          by_cases e : j = k
          · rw [e, HX.out]; exact he
          · exact HNO.out j (by omega)
        clear he
        go_wp2
        go_roundw
        case rel => exact ⟨k + 1, by omega, by go_num, HE.out, by trivial⟩
        case measure => simp [intOf]; omega
    · have hrk : (-1 : Int) = r := HR.out (-1) (.inr ⟨rfl, fun j hj => HNO.out j (by have := HN.out; omega)⟩)
      have HRK : Hid ((-1 : Int) = r) := hrk
      clear hrk
      go_wp2
      go_ret
      exact ⟨by rw [← HRK.out]; rfl, rfl⟩

theorem getD_take {xs : List Bx} {k j : Nat} (hj : j < k) : (xs.take k).getD j noB = xs.getD j noB := by
  simp [List.getD_eq_getElem?_getD, hj]
theorem cells_take {w : World} {N n k cap : Nat} {a : Option Addr} {xs : List Bx} {vs : Nat → Value × Value} (hn : n = xs.length) (h : CellsIn w N (.slice a n cap) xs vs) (hk : k ≤ n) : CellsIn w N (.slice a k cap) (xs.take k) vs := by
  subst hn
  obtain ⟨a', cap', e, h⟩ := h
  cases e
  refine ⟨a, cap, by rw [List.length_take]; congr 1; omega, ?_⟩
  rcases h with h | ⟨b, off, rfl, hb, h⟩
  · exact .inl (by rw [h]; simp)
  · refine .inr ⟨b, off, rfl, hb, fun j hj => ?_⟩
    rw [List.length_take] at hj
    rw [getD_take (by omega)]
    exact h j (by omega)

set_option maxHeartbeats 8000000 in
set_option maxRecDepth 100000 in
theorem spec_sok (v : Value) (xs : List Bx) (vs : Nat → Value × Value) (w : World) (h : BoxesAt w v xs vs) (hs : Smalls xs) (hcv : ∀ a n c, v = .slice a n c → n ≤ c) (hcu : ∀ j, j < xs.length → ∀ a n c, (vs j).2 = .slice a n c → n ≤ c) :
    Calls Try.prog 56 #[v] w fun e w' => e = .returned (.bool (sok xs)) ∧ Below w.heap.size w w' := by
  have HALL : Hid (BoxesIn w w.heap.size v xs vs) := h
  obtain ⟨⟨a, cap, rfl, hc⟩, _⟩ := h
  obtain ⟨n, hn⟩ : ∃ n, n = xs.length := ⟨_, rfl⟩
  have HN : Hid (n = xs.length) := hn
  have HH : Hid (xs = [] ∨ ∃ b off, a = some ⟨b, off, none⟩ ∧ b < w.heap.size ∧ ∀ j, j < xs.length → At5 w b (off + j * 5) (xs.getD j noB) (vs j)) := hc
  have HS : Hid (Smalls xs) := hs
  have HCU : Hid (∀ j, j < xs.length → ∀ a n c, (vs j).2 = .slice a n c → n ≤ c) := hcu
  have hl : n ≤ 1048576 := by rw [hn]; exact hs.1
  have hcap : n ≤ cap := by rw [hn]; exact hcv _ _ _ rfl
  rw [← hn] at HALL ⊢
  clear hc hs hn hcv hcu
  by_cases g1 : 4096 < n
  · have g1' : (4096 : Int) < (n : Int) := by omega
    have HR : Hid (sok xs = false) := sok_no (by have := HN.out; omega)
    go_enter Try.func56, Try.ntmps56
    go_wp2
    go_ret
    exact ⟨mu.ret_bool HR.out.symm, Below.refl _ _⟩
  have g1' : (n : Int) ≤ 4096 := by omega
  by_cases g0 : 4 < n
  · have g0' : (4 : Int) < (n : Int) := by omega
    have HR : Hid (sok xs = false) := sok_no (by have := HN.out; omega)
    go_enter Try.func56, Try.ntmps56
    go_wp2
    go_ret
    exact ⟨mu.ret_bool HR.out.symm, Below.refl _ _⟩
  have g0' : (n : Int) ≤ 4 := by omega
  go_enter Try.func56, Try.ntmps56
  go_wp2
  go_loopw [3] (fun i wr => ∃ (k : Nat), k ≤ n ∧ i = .int .i64 k ∧ SOK xs k ∧ Below w.heap.size w wr) (fun i _ => n - (intOf i).toNat)
  case atStart => exact ⟨0, Nat.zero_le _, rfl, fun j hj => absurd hj (Nat.not_lt_zero _), Below.refl _ _⟩
  case round =>
    obtain ⟨k, hk, rfl, hal, hbw⟩ := hrel
    have HAL : Hid (SOK xs k) := hal
    clear hal
    by_cases hlt : k < n
    · have hka : k < xs.length := by rw [← HN.out]; exact hlt
      rcases HH.out with e | ⟨b, off, rfl, hbl, hcells⟩
      · rw [e] at hka; simp at hka
      have hat := (hcells k hka).keep hbw hbl
      have hrw := rows_more ((boxes_in_below HALL.out hbw (Nat.le_refl _)).2 k hka) hbw.size
      have HAR : Hid (BoxesIn wr w.heap.size (.slice (some ⟨b, off, none⟩) n cap) xs vs) := boxes_in_below HALL.out hbw (Nat.le_refl _)
      have hcuk := HCU.out k hka
      have hsk := HS.out.2 k hka
      have HKA : Hid (k < xs.length) := hka
      clear hcells hka
      generalize hx : xs.getD k noB = x at hat hsk hrw
      have HX : Hid (xs.getD k noB = x) := hx
      generalize vs k = q at hat hrw hcuk
      clear hx
      obtain ⟨q1, q2⟩ := q
      obtain ⟨c0, c1, c2, c3, c4⟩ := hat
      simp only at c0 c1 c2 c3 c4 hrw hcuk
      have hlt' : (k : Int) < (n : Int) := by omega
      have hk0 : (0 : Int) ≤ (k : Int) := by omega
      have hkc : (k : Int) ≤ (cap : Int) := by omega
      have hkn : (k : Int) ≤ (n : Int) := by omega
      have HB : Hid (∀ y : Ext wr, Calls Try.prog 80 #[.agg #[.string x.nm, .int .i64 x.vd, .int .i64 x.nx, q1, q2]] (gw y) fun e w' => e = .returned (.bool (bok x)) ∧ Below (gw y).heap.size (gw y) w') := fun y => spec_bok x q1 q2 (gw y) (rows_below hrw (gw_below y)) hsk hcuk
      obtain ⟨⟨a2, cap2, rfl, _⟩, ⟨a3, cap3, rfl, _⟩⟩ := hrw
      have hin : In x.vd := hsk.1.1
      obtain ⟨nm, vd, nx, ms, ks⟩ := x
      simp only at c0 c1 c2 c3 c4 HB hin
      obtain ⟨r, hr⟩ := plc_ex (xs.take k) nm
      have HF : Hid (∀ y : Ext wr, Calls Try.prog 30 #[.slice (some ⟨b, off, none⟩) k cap, .string nm] (gw y) fun e w' => e = .returned (.int .i64 r) ∧ Below (gw y).heap.size (gw y) w') := fun y =>
        (find_any w.heap.size _ (xs.take k) vs nm (gw y) (cells_take HN.out (boxes_in_below HAR.out (gw_below y) hbw.size).1 (by omega)) (by rw [List.length_take]; omega) hr).mono fun e w' ⟨he, hw⟩ => ⟨he, by rw [hw]; exact Below.refl _ _⟩
      have HPL : Hid (Plc (xs.take k) nm r) := hr
      clear hsk hcuk HAR hr
      have HR0 : Hid (bok ⟨nm, vd, nx, ms, ks⟩ = false → sok xs = false) := fun h => sok_no (fun y => by have := (y.2 k HKA.out).1; rw [HX.out, h] at this; cases this)
      have HR1 : Hid (vd ≠ (k : Int) + 1 → sok xs = false) := fun h => sok_no (fun y => h (by have := (y.2 k HKA.out).2.1; rw [HX.out] at this; exact this))
      have HR2 : Hid (0 ≤ r → sok xs = false) := fun h => sok_no (fun y => by
        rcases HPL.out with ⟨j, rfl, hj, hjn, _⟩ | ⟨rfl, _⟩
        · rw [List.length_take] at hj
          rw [getD_take (by omega)] at hjn
          exact (y.2 k HKA.out).2.2 j (by omega) (by rw [HX.out]; exact hjn)
        · omega)
      have HR3 : Hid (r < 0 → vd = (k : Int) + 1 → bok ⟨nm, vd, nx, ms, ks⟩ = true → SOK xs (k + 1)) := fun h1 h2 h3 => sok_step HAL.out HX.out h3 h2 (fun j hj => by
        rcases HPL.out with ⟨i, rfl, _⟩ | ⟨_, hno⟩
        · omega
        · have := hno j (by rw [List.length_take]; have := HKA.out; omega)
          rwa [getD_take hj] at this)
      generalize bok ⟨nm, vd, nx, ms, ks⟩ = R at HB HR0 HR3
      clear HPL
      go_wp2_with fail
      have ne := ext_some wr
      have c0 := fun y : Ext wr => gw_cell y c0
      have c1 := fun y : Ext wr => gw_cell y c1
      have c2 := fun y : Ext wr => gw_cell y c2
      have c3 := fun y : Ext wr => gw_cell y c3
      have c4 := fun y : Ext wr => gw_cell y c4
      cases R
      · have HZ : Hid (sok xs = false) := HR0.out (by trivial)
        refine region_lit (by kernel_rfl) (by kernel_rfl) ?_
        repeat (go_big_quiet_step ((first | (go_at_call 80; exact grow_of (HB.out _)) | (go_at_call 30; exact grow_of (HF.out _)))))
        refine wpQuiet_nil ?_
        rintro W' ⟨y, rfl⟩
        have b3 := hbw.trans ((gw_below y).mono hbw.size)
        generalize gw y = W' at b3 ⊢
        clear c0 c1 c2 c3 c4 hbw HB HF
        go_wp2
        go_ret
        exact ⟨mu.ret_bool HZ.out.symm, b3⟩
      by_cases r1 : ¬ vd = (k : Int) + 1
      · have r1' : (vd != (k : Int) + 1) = true := by simp [r1]
        have HZ : Hid (sok xs = false) := HR1.out r1
        clear r1
        refine region_lit (by kernel_rfl) (by kernel_rfl) ?_
        repeat (go_big_quiet_step ((first | (go_at_call 80; exact grow_of (HB.out _)) | (go_at_call 30; exact grow_of (HF.out _)))))
        refine wpQuiet_nil ?_
        rintro W' ⟨y, rfl⟩
        have b3 := hbw.trans ((gw_below y).mono hbw.size)
        generalize gw y = W' at b3 ⊢
        clear c0 c1 c2 c3 c4 hbw HB HF
        go_wp2
        go_ret
        exact ⟨mu.ret_bool HZ.out.symm, b3⟩
      have r1 : vd = (k : Int) + 1 := Decidable.of_not_not r1
      have r1' : (vd != (k : Int) + 1) = false := by simp [r1]
      have HV1 : Hid (vd = (k : Int) + 1) := r1
      clear r1
      by_cases r2 : 0 ≤ r
      · have HZ : Hid (sok xs = false) := HR2.out r2
        refine region_lit (by kernel_rfl) (by kernel_rfl) ?_
        repeat (go_big_quiet_step ((first | (go_at_call 80; exact grow_of (HB.out _)) | (go_at_call 30; exact grow_of (HF.out _)))))
        refine wpQuiet_nil ?_
        rintro W' ⟨y, rfl⟩
        have b3 := hbw.trans ((gw_below y).mono hbw.size)
        generalize gw y = W' at b3 ⊢
        clear c0 c1 c2 c3 c4 hbw HB HF
        go_wp2
        go_ret
        exact ⟨mu.ret_bool HZ.out.symm, b3⟩
      · have r2' : r < 0 := by omega
        have HZ : Hid (SOK xs (k + 1)) := HR3.out r2' HV1.out (by trivial)
        refine region_lit (by kernel_rfl) (by kernel_rfl) ?_
        repeat (go_big_quiet_step ((first | (go_at_call 80; exact grow_of (HB.out _)) | (go_at_call 30; exact grow_of (HF.out _)))))
        refine wpQuiet_nil ?_
        rintro W' ⟨y, rfl⟩
        have b3 := hbw.trans ((gw_below y).mono hbw.size)
        generalize gw y = W' at b3 ⊢
        clear c0 c1 c2 c3 c4 hbw HB HF
        go_wp2
        go_roundw
        case rel => exact ⟨k + 1, by omega, by go_num, HZ.out, b3⟩
        case measure => simp [intOf]; omega
    · have HR : Hid (sok xs = true) := sok_yes (by have := HN.out; omega) (fun j hj => HAL.out j (by have := HN.out; omega))
      go_wp2
      go_ret
      exact ⟨mu.ret_bool HR.out.symm, hbw⟩
end Go.Proofs.Ytbhjinhedbgmnab.bx
