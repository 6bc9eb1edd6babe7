/-
  The specification's test of boxes.
  The specification's test of boxes, as a code.
  A box, copied by the specification; both BoxAt functions.
  Both BoxAt functions, as wholes.
  A list of boxes, marked by the law's own function, as to its shape; a box, marked and held against its marks.
-/
import Derived.Test.YtinnnfkhiigjpaaGreatPkai
import Derived.Test.YtinnnfkhiigjpaaGreatPkaj
import Derived.Test.YtinnnfkhiigjpaaGreatPkah
import Derived.Test.YtinnnfkhiigjpaaGreatPkae

namespace Go.Proofs.YtinnnfkhiigjpaaGreat.bx
open Go.RowKit
open st gr
set_option linter.unusedVariables false

theorem plc_one {xs : List Bx} {s : ByteArray} {r r' : Int} (h : Plc xs s r) (h' : Plc xs s r') : r = r' := by
  rcases h with ⟨k, rfl, hk, hn, hf⟩ | ⟨rfl, hno⟩
  · rcases h' with ⟨j, rfl, hj, hn', hf'⟩ | ⟨rfl, hno⟩
    · by_cases e : k = j
      · rw [e]
      · by_cases e2 : k < j
        · exact absurd hn (hf' k e2)
        · exact absurd hn' (hf j (by omega))
    · exact absurd hn (hno k hk)
  · rcases h' with ⟨j, rfl, hj, hn', hf'⟩ | ⟨rfl, _⟩
    · exact absurd hn' (hno j hj)
    · rfl
theorem plc_ex (xs : List Bx) (s : ByteArray) : ∃ r, Plc xs s r := by
  by_cases h : ∃ k, k < xs.length ∧ (xs.getD k noB).nm = s
  · let p : Nat → Prop := fun k => k < xs.length ∧ (xs.getD k noB).nm = s
    have hex : ∀ m, (∃ k, k ≤ m ∧ p k) → ∃ k, p k ∧ ∀ j, j < k → ¬ p j := by
      intro m
      induction m with
      | zero => rintro ⟨k, hk, hp⟩; exact ⟨k, hp, fun j hj => by omega⟩
      | succ m ih =>
        rintro ⟨k, hk, hp⟩
        by_cases hm : ∃ j, j ≤ m ∧ p j
        · exact ih hm
        · refine ⟨k, hp, fun j hj hpj => hm ⟨j, by omega, hpj⟩⟩
    obtain ⟨k0, h0⟩ := h
    obtain ⟨k, ⟨h1, h2⟩, h3⟩ := hex k0 ⟨k0, Nat.le_refl _, h0⟩
    exact ⟨k, .inl ⟨k, rfl, h1, h2, fun j hj e => h3 j hj ⟨by omega, e⟩⟩⟩
  · exact ⟨-1, .inr ⟨rfl, fun j hj e => h ⟨j, hj, e⟩⟩⟩

set_option maxHeartbeats 2000000 in
set_option maxRecDepth 100000 in
theorem find_any (N : Nat) (v : Value) (xs : List Bx) (vs : Nat → Value × Value) (s : ByteArray) (w : World) (h : CellsIn w N v xs vs) (hn : xs.length ≤ 1048576) {r : Int} (hr : Plc xs s r) :
    Calls Tryz.prog 51 #[v, .string s] w fun e w' => e = .returned (.int .i64 r) ∧ w' = w := by
  obtain ⟨a, cap, rfl, hc⟩ := h
  obtain ⟨n, hn'⟩ : ∃ n, n = xs.length := ⟨_, rfl⟩
  have HN : Hid (n = xs.length) := hn'
  have HH : Hid (xs = [] ∨ ∃ b off, a = some ⟨b, off, none⟩ ∧ b < N ∧ ∀ j, j < xs.length → At5 w b (off + j * 5) (xs.getD j noB) (vs j)) := hc
  have HR : Hid (∀ r', Plc xs s r' → r' = r) := fun r' h => plc_one h hr
  rw [← hn'] at hn ⊢
  clear hc hn' hr
  go_enter Tryz.func51, Tryz.ntmps51
  go_wp2
  go_loopw [5] (fun i wr => ∃ k : Nat, k ≤ n ∧ i = .int .i64 k ∧ (∀ j, j < k → (xs.getD j noB).nm ≠ s) ∧ wr = w) (fun i _ => n - (intOf i).toNat)
  case atStart => exact ⟨0, Nat.zero_le _, rfl, fun j hj => absurd hj (Nat.not_lt_zero _), rfl⟩
  case round =>
    obtain ⟨k, hk, rfl, hno, rfl⟩ := hrel
    have HNO : Hid (∀ j, j < k → (xs.getD j noB).nm ≠ s) := hno
    clear hno
    by_cases hlt : k < n
    · have hka : k < xs.length := by rw [← HN.out]; exact hlt
      rcases HH.out with e | ⟨b, off, rfl, hbl, hcells⟩
      · rw [e] at hka; simp at hka
      have hat := hcells k hka
      have HKA : Hid (k < xs.length) := hka
      clear hcells hka
      generalize hx : xs.getD k noB = x at hat
      have HX : Hid (xs.getD k noB = x) := hx
      clear hx
      obtain ⟨c0, _⟩ := hat
      obtain ⟨nm, vd, nx, ms, ks⟩ := x
      simp only at c0
      have hlt' : (k : Int) < (n : Int) := by omega
      by_cases he : nm = s
      · have he' : (nm.toList == s.toList) = true := by rw [he]; simp
        have hrk : (k : Int) = r := HR.out k (.inl ⟨k, rfl, HKA.out, by rw [HX.out]; exact he, HNO.out⟩)
        have HRK : Hid ((k : Int) = r) := hrk
        clear he hrk
        go_wp2
        go_ret
        exact ⟨by rw [← HRK.out]; rfl, rfl⟩
      · have he' : (nm.toList == s.toList) = false := ky.ne_list he
        have HE : Hid (∀ j, j < k + 1 → (xs.getD j noB).nm ≠ s) := fun j hj => by
          by_cases e : j = k
          · rw [e, HX.out]; exact he
          · exact HNO.out j (by omega)
        clear he
        go_wp2
        go_roundw
        case rel => exact ⟨k + 1, by omega, by go_num, HE.out, by trivial⟩
        case measure => simp [intOf]; omega
    · have hrk : (-1 : Int) = r := HR.out (-1) (.inr ⟨rfl, fun j hj => HNO.out j (by have := HN.out; omega)⟩)
      have HRK : Hid ((-1 : Int) = r) := hrk
      clear hrk
      go_wp2
      go_ret
      exact ⟨by rw [← HRK.out]; rfl, rfl⟩

theorem getD_take {xs : List Bx} {k j : Nat} (hj : j < k) : (xs.take k).getD j noB = xs.getD j noB := by
  simp [List.getD_eq_getElem?_getD, hj]
theorem cells_take {w : World} {N n k cap : Nat} {a : Option Addr} {xs : List Bx} {vs : Nat → Value × Value} (hn : n = xs.length) (h : CellsIn w N (.slice a n cap) xs vs) (hk : k ≤ n) : CellsIn w N (.slice a k cap) (xs.take k) vs := by
  subst hn
  obtain ⟨a', cap', e, h⟩ := h
  cases e
  refine ⟨a, cap, by rw [List.length_take]; congr 1; omega, ?_⟩
  rcases h with h | ⟨b, off, rfl, hb, h⟩
  · exact .inl (by rw [h]; simp)
  · refine .inr ⟨b, off, rfl, hb, fun j hj => ?_⟩
    rw [List.length_take] at hj
    rw [getD_take (by omega)]
    exact h j (by omega)

set_option maxHeartbeats 8000000 in
set_option maxRecDepth 100000 in
theorem spec_sok (v : Value) (xs : List Bx) (vs : Nat → Value × Value) (w : World) (h : BoxesAt w v xs vs) (hs : Smalls xs) (hcv : ∀ a n c, v = .slice a n c → n ≤ c) (hcu : ∀ j, j < xs.length → ∀ a n c, (vs j).2 = .slice a n c → n ≤ c) :
    Calls Tryz.prog 49 #[v] w fun e w' => e = .returned (.bool (sok xs)) ∧ Below w.heap.size w w' := by
  have HALL : Hid (BoxesIn w w.heap.size v xs vs) := h
  obtain ⟨⟨a, cap, rfl, hc⟩, _⟩ := h
  obtain ⟨n, hn⟩ : ∃ n, n = xs.length := ⟨_, rfl⟩
  have HN : Hid (n = xs.length) := hn
  have HH : Hid (xs = [] ∨ ∃ b off, a = some ⟨b, off, none⟩ ∧ b < w.heap.size ∧ ∀ j, j < xs.length → At5 w b (off + j * 5) (xs.getD j noB) (vs j)) := hc
  have HS : Hid (Smalls xs) := hs
  have HCU : Hid (∀ j, j < xs.length → ∀ a n c, (vs j).2 = .slice a n c → n ≤ c) := hcu
  have hl : n ≤ 1048576 := by rw [hn]; exact hs.1
  have hcap : n ≤ cap := by rw [hn]; exact hcv _ _ _ rfl
  rw [← hn] at HALL ⊢
  clear hc hs hn hcv hcu
  by_cases g1 : 4096 < n
  · have g1' : (4096 : Int) < (n : Int) := by omega
    have HR : Hid (sok xs = false) := sok_no (by have := HN.out; omega)
    go_enter Tryz.func49, Tryz.ntmps49
    go_wp2
    go_ret
    exact ⟨mu.ret_bool HR.out.symm, Below.refl _ _⟩
  have g1' : (n : Int) ≤ 4096 := by omega
  by_cases g0 : 4 < n
  · have g0' : (4 : Int) < (n : Int) := by omega
    have HR : Hid (sok xs = false) := sok_no (by have := HN.out; omega)
    go_enter Tryz.func49, Tryz.ntmps49
    go_wp2
    go_ret
    exact ⟨mu.ret_bool HR.out.symm, Below.refl _ _⟩
  have g0' : (n : Int) ≤ 4 := by omega
  go_enter Tryz.func49, Tryz.ntmps49
  go_wp2
  go_loopw [3] (fun i wr => ∃ (k : Nat), k ≤ n ∧ i = .int .i64 k ∧ SOK xs k ∧ Below w.heap.size w wr) (fun i _ => n - (intOf i).toNat)
  case atStart => exact ⟨0, Nat.zero_le _, rfl, fun j hj => absurd hj (Nat.not_lt_zero _), Below.refl _ _⟩
  case round =>
    obtain ⟨k, hk, rfl, hal, hbw⟩ := hrel
    have HAL : Hid (SOK xs k) := hal
    clear hal
    by_cases hlt : k < n
    · have hka : k < xs.length := by rw [← HN.out]; exact hlt
      rcases HH.out with e | ⟨b, off, rfl, hbl, hcells⟩
      · rw [e] at hka; simp at hka
      have hat := (hcells k hka).keep hbw hbl
      have hrw := rows_more ((boxes_in_below HALL.out hbw (Nat.le_refl _)).2 k hka) hbw.size
      have HAR : Hid (BoxesIn wr w.heap.size (.slice (some ⟨b, off, none⟩) n cap) xs vs) := boxes_in_below HALL.out hbw (Nat.le_refl _)
      have hcuk := HCU.out k hka
      have hsk := HS.out.2 k hka
      have HKA : Hid (k < xs.length) := hka
      clear hcells hka
      generalize hx : xs.getD k noB = x at hat hsk hrw
      have HX : Hid (xs.getD k noB = x) := hx
      generalize vs k = q at hat hrw hcuk
      clear hx
      obtain ⟨q1, q2⟩ := q
      obtain ⟨c0, c1, c2, c3, c4⟩ := hat
      simp only at c0 c1 c2 c3 c4 hrw hcuk
      have hlt' : (k : Int) < (n : Int) := by omega
      have hk0 : (0 : Int) ≤ (k : Int) := by omega
      have hkc : (k : Int) ≤ (cap : Int) := by omega
      have hkn : (k : Int) ≤ (n : Int) := by omega
      have HB : Hid (∀ y : Ext wr, Calls Tryz.prog 34 #[.agg #[.string x.nm, .int .i64 x.vd, .int .i64 x.nx, q1, q2]] (gw y) fun e w' => e = .returned (.bool (bok x)) ∧ Below (gw y).heap.size (gw y) w') := fun y => spec_bok x q1 q2 (gw y) (rows_below hrw (gw_below y)) hsk hcuk
      obtain ⟨⟨a2, cap2, rfl, _⟩, ⟨a3, cap3, rfl, _⟩⟩ := hrw
      have hin : In x.vd := hsk.1.1
      obtain ⟨nm, vd, nx, ms, ks⟩ := x
      simp only at c0 c1 c2 c3 c4 HB hin
      obtain ⟨r, hr⟩ := plc_ex (xs.take k) nm
      have HF : Hid (∀ y : Ext wr, Calls Tryz.prog 51 #[.slice (some ⟨b, off, none⟩) k cap, .string nm] (gw y) fun e w' => e = .returned (.int .i64 r) ∧ Below (gw y).heap.size (gw y) w') := fun y =>
        (find_any w.heap.size _ (xs.take k) vs nm (gw y) (cells_take HN.out (boxes_in_below HAR.out (gw_below y) hbw.size).1 (by omega)) (by rw [List.length_take]; omega) hr).mono fun e w' ⟨he, hw⟩ => ⟨he, by rw [hw]; exact Below.refl _ _⟩
      have HPL : Hid (Plc (xs.take k) nm r) := hr
      clear hsk hcuk HAR hr
      have HR0 : Hid (bok ⟨nm, vd, nx, ms, ks⟩ = false → sok xs = false) := fun h => sok_no (fun y => by have := (y.2 k HKA.out).1; rw [HX.out, h] at this; cases this)
      have HR1 : Hid (vd ≠ (k : Int) + 1 → sok xs = false) := fun h => sok_no (fun y => h (by have := (y.2 k HKA.out).2.1; rw [HX.out] at this; exact this))
      have HR2 : Hid (0 ≤ r → sok xs = false) := fun h => sok_no (fun y => by
        rcases HPL.out with ⟨j, rfl, hj, hjn, _⟩ | ⟨rfl, _⟩
        · rw [List.length_take] at hj
          rw [getD_take (by omega)] at hjn
          exact (y.2 k HKA.out).2.2 j (by omega) (by rw [HX.out]; exact hjn)
        · omega)
      have HR3 : Hid (r < 0 → vd = (k : Int) + 1 → bok ⟨nm, vd, nx, ms, ks⟩ = true → SOK xs (k + 1)) := fun h1 h2 h3 => sok_step HAL.out HX.out h3 h2 (fun j hj => by
        rcases HPL.out with ⟨i, rfl, _⟩ | ⟨_, hno⟩
        · omega
        · have := hno j (by rw [List.length_take]; have := HKA.out; omega)
          rwa [getD_take hj] at this)
      generalize bok ⟨nm, vd, nx, ms, ks⟩ = R at HB HR0 HR3
      clear HPL
      go_wp2_with fail
      have ne := ext_some wr
      have c0 := fun y : Ext wr => gw_cell y c0
      have c1 := fun y : Ext wr => gw_cell y c1
      have c2 := fun y : Ext wr => gw_cell y c2
      have c3 := fun y : Ext wr => gw_cell y c3
      have c4 := fun y : Ext wr => gw_cell y c4
      cases R
      · have HZ : Hid (sok xs = false) := HR0.out (by trivial)
        refine region_lit (by kernel_rfl) (by kernel_rfl) ?_
        repeat (go_big_quiet_step ((first | (go_at_call 34; exact grow_of (HB.out _)) | (go_at_call 51; exact grow_of (HF.out _)))))
        refine wpQuiet_nil ?_
        rintro W' ⟨y, rfl⟩
        have b3 := hbw.trans ((gw_below y).mono hbw.size)
        generalize gw y = W' at b3 ⊢
        clear c0 c1 c2 c3 c4 hbw HB HF
        go_wp2
        go_ret
        exact ⟨mu.ret_bool HZ.out.symm, b3⟩
      by_cases r1 : ¬ vd = (k : Int) + 1
      · have r1' : (vd != (k : Int) + 1) = true := by simp [r1]
        have HZ : Hid (sok xs = false) := HR1.out r1
        clear r1
        refine region_lit (by kernel_rfl) (by kernel_rfl) ?_
        repeat (go_big_quiet_step ((first | (go_at_call 34; exact grow_of (HB.out _)) | (go_at_call 51; exact grow_of (HF.out _)))))
        refine wpQuiet_nil ?_
        rintro W' ⟨y, rfl⟩
        have b3 := hbw.trans ((gw_below y).mono hbw.size)
        generalize gw y = W' at b3 ⊢
        clear c0 c1 c2 c3 c4 hbw HB HF
        go_wp2
        go_ret
        exact ⟨mu.ret_bool HZ.out.symm, b3⟩
      have r1 : vd = (k : Int) + 1 := Decidable.of_not_not r1
      have r1' : (vd != (k : Int) + 1) = false := by simp [r1]
      have HV1 : Hid (vd = (k : Int) + 1) := r1
      clear r1
      by_cases r2 : 0 ≤ r
      · have HZ : Hid (sok xs = false) := HR2.out r2
        refine region_lit (by kernel_rfl) (by kernel_rfl) ?_
        repeat (go_big_quiet_step ((first | (go_at_call 34; exact grow_of (HB.out _)) | (go_at_call 51; exact grow_of (HF.out _)))))
        refine wpQuiet_nil ?_
        rintro W' ⟨y, rfl⟩
        have b3 := hbw.trans ((gw_below y).mono hbw.size)
        generalize gw y = W' at b3 ⊢
        clear c0 c1 c2 c3 c4 hbw HB HF
        go_wp2
        go_ret
        exact ⟨mu.ret_bool HZ.out.symm, b3⟩
      · have r2' : r < 0 := by omega
        have HZ : Hid (SOK xs (k + 1)) := HR3.out r2' HV1.out (by trivial)
        refine region_lit (by kernel_rfl) (by kernel_rfl) ?_
        repeat (go_big_quiet_step ((first | (go_at_call 34; exact grow_of (HB.out _)) | (go_at_call 51; exact grow_of (HF.out _)))))
        refine wpQuiet_nil ?_
        rintro W' ⟨y, rfl⟩
        have b3 := hbw.trans ((gw_below y).mono hbw.size)
        generalize gw y = W' at b3 ⊢
        clear c0 c1 c2 c3 c4 hbw HB HF
        go_wp2
        go_roundw
        case rel => exact ⟨k + 1, by omega, by go_num, HZ.out, b3⟩
        case measure => simp [intOf]; omega
    · have HR : Hid (sok xs = true) := sok_yes (by have := HN.out; omega) (fun j hj => HAL.out j (by have := HN.out; omega))
      go_wp2
      go_ret
      exact ⟨mu.ret_bool HR.out.symm, hbw⟩
end Go.Proofs.YtinnnfkhiigjpaaGreat.bx

namespace Go.Proofs.YtinnnfkhiigjpaaGreat.sm
open Go.RowKit Go.WideShapes
open st bx
set_option linter.unusedVariables false

def cod (xs : List Bx) : Int := if xs.length ≤ 4096 then (if sok xs = true then 0 else 1) else 2
def Caps (v : Value) (xs : List Bx) (vs : Nat → Value × Value) : Prop := (∀ a n c, v = .slice a n c → n ≤ c) ∧ ∀ j, j < xs.length → ∀ a n c, (vs j).2 = .slice a n c → n ≤ c

set_option maxHeartbeats 2000000 in
set_option maxRecDepth 100000 in
theorem code_any (v : Value) (xs : List Bx) (vs : Nat → Value × Value) (w : World) (h : BoxesAt w v xs vs) (hs : bx.Smalls xs) (hc : Caps v xs vs) :
    Calls Tryz.prog 22 #[v] w fun e w' => e = .returned (.int .i64 (cod xs)) ∧ Below w.heap.size w w' := by
  have HA : Hid (BoxesAt w v xs vs) := h
  have HC : Hid (Caps v xs vs) := hc
  have HS : Hid (bx.Smalls xs) := hs
  obtain ⟨⟨a, cap, rfl, _⟩, _⟩ := h
  have hl := hs.1
  have H2 : Hid (¬ xs.length ≤ 4096 → cod xs = 2) := fun h => by simp [cod, h]
  have H1 : Hid (xs.length ≤ 4096 → sok xs = false → cod xs = 1) := fun h h2 => by simp [cod, h, h2]
  have H0 : Hid (xs.length ≤ 4096 → sok xs = true → cod xs = 0) := fun h h2 => by simp [cod, h, h2]
  clear hs hc
  generalize cod xs = R at H2 H1 H0 ⊢
  by_cases g1 : 4096 < xs.length
  · have g1' : (4096 : Int) < (xs.length : Int) := by omega
    have HR : Hid (R = 2) := H2.out (by omega)
    go_enter Tryz.func22, Tryz.ntmps22
    go_wp2
    go_ret
    exact ⟨by rw [HR.out]; rfl, Below.refl _ _⟩
  have g1' : (xs.length : Int) ≤ 4096 := by omega
  have hle : xs.length ≤ 4096 := by omega
  go_enter Tryz.func22, Tryz.ntmps22
  go_wp2_with fail
  refine (spec_sok _ xs vs w HA.out HS.out HC.out.1 HC.out.2).mono ?_
  rintro e w1 ⟨rfl, b1⟩
  clear HA HC
  generalize sok xs = sx at H1 H0 ⊢
  cases sx
  · have HR : Hid (R = 1) := H1.out hle (by trivial)
    go_wp2
    go_ret
    exact ⟨by rw [HR.out]; rfl, b1⟩
  · have HR : Hid (R = 0) := H0.out hle (by trivial)
    go_wp2
    go_ret
    exact ⟨by rw [HR.out]; rfl, b1⟩

end Go.Proofs.YtinnnfkhiigjpaaGreat.sm

namespace Go.Proofs.YtinnnfkhiigjpaaGreat.bx
open Go.RowKit Go.Deep
open st
set_option linter.unusedVariables false

theorem rowkinds {x : World} {b1 b2 e1 e2 s1 s2 n1 n2 : Nat} {v u : Value} {xs ys : List Value} (h : x.ownsRow b1 e1 s1 v n1 xs) (h2 : x.ownsRow b2 e2 s2 u n2 ys) (hne : e1 ≠ e2) : v.ownBlock = none ∨ v.ownBlock ≠ u.ownBlock := by
  rcases h.2 with ⟨rfl, _⟩ | ⟨g, cap, cur, rfl, _, hb, _⟩
  · exact .inl rfl
  · right
    intro hk
    rcases h2.2 with ⟨rfl, _⟩ | ⟨g', cap', cur', rfl, _, hb', _⟩
    · simp [Value.ownBlock] at hk
    · have e : g = g' := by simpa [Value.ownBlock] using hk
      subst e
      rw [hb] at hb'
      simp at hb'
      exact hne hb'.2
theorem lies_row {x x' : World} {G : Nat} {m : Bx} {v1 u1 : Value} {b e s n : Nat} {v : Value} {xs : List Value} (h : Lies x G 38 m v1 u1) (ho : x.ownsRow b e s v n xs) (hg : x.grownBy x' v.ownBlock) (hne : e ≠ 38) : Lies x' G 38 m v1 u1 :=
  (hg.block G h.lt (fun e => row_box ho h hne e.symm)).trans h
set_option maxHeartbeats 4000000 in
set_option maxRecDepth 100000 in
theorem l09Box_any (y : Bx) (v u : Value) (N : Nat) (w : World) (h : RowsIn w N v u y.ms y.ks) (hN : N ≤ w.heap.size) (hv : Fine v) (hu : Fine u) (hm : y.ms.length ≤ 1048576) (hk : y.ks.length ≤ 1048576) :
    Calls Tryz.prog 55 #[BV y v u] w fun e w' => (∃ v' u', e = .returned (BV y v' u') ∧ OwnM w' w.heap.size v' y.ms ∧ OwnK w' w.heap.size u' y.ks) ∧ Below w.heap.size w w' := by
  obtain ⟨i0, hi, hz0, hz1, hz2⟩ := info_parts infoS
  obtain ⟨j0, hj, hy0, hy1, hy2⟩ := info_parts infoT
  have L0 := (lies_new w 38 y v u).keep (new_below _ 38 #[.string ⟨#[]⟩, .int .i64 0, .int .i64 0, .slice none 0 0, .slice none 0 0])
  have R0 : Lies ((w.alloc (.cells #[.string y.nm, .int .i64 y.vd, .int .i64 y.nx, v, u] 38)).alloc (.cells #[.string ⟨#[]⟩, .int .i64 0, .int .i64 0, .slice none 0 0, .slice none 0 0] 38)) (w.alloc (.cells #[.string y.nm, .int .i64 y.vd, .int .i64 y.nx, v, u] 38)).heap.size 38 B0 (.slice none 0 0) (.slice none 0 0) := lies_new (w.alloc (.cells #[.string y.nm, .int .i64 y.vd, .int .i64 y.nx, v, u] 38)) 38 B0 (.slice none 0 0) (.slice none 0 0)
  have b0 : Below w.heap.size w ((w.alloc (.cells #[.string y.nm, .int .i64 y.vd, .int .i64 y.nx, v, u] 38)).alloc (.cells #[.string ⟨#[]⟩, .int .i64 0, .int .i64 0, .slice none 0 0, .slice none 0 0] 38)) := (new_below w _ _).trans ((new_below _ _ _).mono (by simp))
  have s0 : ((w.alloc (.cells #[.string y.nm, .int .i64 y.vd, .int .i64 y.nx, v, u] 38)).alloc (.cells #[.string ⟨#[]⟩, .int .i64 0, .int .i64 0, .slice none 0 0, .slice none 0 0] 38)).heap.size = w.heap.size + 2 := by simp
  rw [show (w.alloc (.cells #[.string y.nm, .int .i64 y.vd, .int .i64 y.nx, v, u] 38)).heap.size = w.heap.size + 1 by simp] at R0
  have HR : Hid (∀ W, Below w.heap.size w W → RowsIn W N v u y.ms y.ks) := fun W hW => rows_in_below h hW hN
  have HFV : Hid (Fine v ∧ Fine u) := ⟨hv, hu⟩
  have HF2 : Hid (∃ a n c a' n' c', v = .slice a n c ∧ u = .slice a' n' c') := by
    obtain ⟨⟨a, cap, e1, _⟩, ⟨a1, cap1, e2, _⟩⟩ := h
    exact ⟨_, _, _, _, _, _, e1, e2⟩
  clear hv hu h
  unfold BV
  go_enter Tryz.func55, Tryz.ntmps55
  go_upto_region 1 with fail
  generalize World.alloc _ _ = W0 at L0 R0 b0 s0 ⊢
  have HZ0 : Hid (W0.heap.size = w.heap.size + 2) := s0
  clear s0
  have c3 := L0.c3
  have f3 := L0.f 3
  have kE := new_below W0 46 #[]
  have HRW : Hid (RowsIn (W0.alloc (.cells #[] 46)) N v u y.ms y.ks) := HR.out _ (b0.trans (kE.mono b0.size))
  have HO : Hid ((W0.alloc (.cells #[] 46)).ownsRow (w.heap.size + 2) 46 3 (.slice (some ⟨W0.heap.size, 0, none⟩) 0 0) 0 []) := World.ownsRow_made W0 #[] 0 (Nat.le_of_eq HZ0.out.symm) (Nat.zero_le _) rfl
  have LE := L0.keep kE
  have RE := R0.keep kE
  have bE := b0.trans (kE.mono b0.size)
  have hszE : w.heap.size + 2 ≤ (W0.alloc (.cells #[] 46)).heap.size := by have := HZ0.out; simp; omega
  have c3' := LE.c3
  go_upto_region 2 with (at_builtin; refine wpList_append_any rfl _ _ 35 rfl (w.heap.size + 2) 46 i0 _ 3 32 Tryz.underlying35 hi hz0 hz1 hz2 rfl (by decide) _ _ _ rfl HO.out v y.ms.length (mc y.ms) rfl (mails_src HRW.out.1 HFV.out.1) (mc_one y.ms) (by unfold maxLen; omega) (by omega) hszE ?_; intro v1 w1 hown1 hg1; have HE1 : Hid (OwnM w1 (w.heap.size + 2) v1 y.ms ∧ Lies w1 w.heap.size 38 y v u ∧ Lies w1 (w.heap.size + 1) 38 B0 (.slice none 0 0) (.slice none 0 0) ∧ Below w.heap.size w w1 ∧ w.heap.size + 2 ≤ w1.heap.size) := ⟨by simpa [OwnM] using hown1, lies_row LE HO.out hg1 (by decide), lies_row RE HO.out hg1 (by decide), bE.grown hg1 (Nat.le_trans (by omega) hszE) (fun k hk => Nat.le_trans (by omega) (HO.out.lt k hk).1), Nat.le_trans hszE hg1.size⟩; have k3 := HE1.out.2.1.c3; have k3f := HE1.out.2.1.f 3; obtain ⟨va, vc, rfl, _⟩ := slice_of HE1.out.1)
  have HK : Hid (Lies (w1.setCell ⟨w.heap.size, 3, none⟩ (.slice va y.ms.length vc)) w.heap.size 38 y (.slice va y.ms.length vc) u ∧ Lies (w1.setCell ⟨w.heap.size, 3, none⟩ (.slice va y.ms.length vc)) (w.heap.size + 1) 38 B0 (.slice none 0 0) (.slice none 0 0) ∧ OwnM (w1.setCell ⟨w.heap.size, 3, none⟩ (.slice va y.ms.length vc)) (w.heap.size + 2) (.slice va y.ms.length vc) y.ms ∧ Below w.heap.size w (w1.setCell ⟨w.heap.size, 3, none⟩ (.slice va y.ms.length vc)) ∧ w.heap.size + 2 ≤ (w1.setCell ⟨w.heap.size, 3, none⟩ (.slice va y.ms.length vc)).heap.size) :=
    ⟨HE1.out.2.1.put3 _, HE1.out.2.2.1.other (by omega), own_var HE1.out.1 HE1.out.2.1 (by decide), HE1.out.2.2.2.1.setCell (p := ⟨w.heap.size, 3, none⟩) (Nat.le_refl _) _, by simp; exact HE1.out.2.2.2.2⟩
  clear HE1 hg1 hown1 L0 R0 b0 HZ0 c3 f3 kE HRW HO LE RE bE hszE c3' k3 k3f
  generalize w1.setCell _ _ = W2 at HK ⊢
  have c4 := HK.out.1.c4
  have kE := new_below W2 9 #[]
  have bE := HK.out.2.2.2.1.trans (kE.mono HK.out.2.2.2.1.size)
  have HRW : Hid (RowsIn (W2.alloc (.cells #[] 9)) N v u y.ms y.ks) := HR.out _ bE
  have HO : Hid ((W2.alloc (.cells #[] 9)).ownsRow (w.heap.size + 2) 9 1 (.slice (some ⟨W2.heap.size, 0, none⟩) 0 0) 0 []) := World.ownsRow_made W2 #[] 0 HK.out.2.2.2.2 (Nat.zero_le _) rfl
  have LE := HK.out.1.keep kE
  have RE := HK.out.2.1.keep kE
  have OE : OwnM (W2.alloc (.cells #[] 9)) (w.heap.size + 2) (.slice va y.ms.length vc) y.ms := ow.own_below HK.out.2.2.1 kE
  have hszE : w.heap.size + 2 ≤ (W2.alloc (.cells #[] 9)).heap.size := by have := HK.out.2.2.2.2; simp; omega
  have c4' := LE.c4
  go_upto_region 3 with (at_builtin; refine wpList_append_any rfl _ _ 36 rfl (w.heap.size + 2) 9 j0 _ 1 16 Tryz.underlying36 hj hy0 hy1 hy2 rfl (by decide) _ _ _ rfl HO.out u y.ks.length (y.ks.map Value.string) rfl (texts_src HRW.out.2 HFV.out.2) (str_one y.ks) (by unfold maxLen; omega) (by omega) hszE ?_; intro u1 w3 hown3 hg3; have HE3 : Hid (OwnK w3 (w.heap.size + 2) u1 y.ks ∧ Lies w3 w.heap.size 38 y (.slice va y.ms.length vc) u ∧ Lies w3 (w.heap.size + 1) 38 B0 (.slice none 0 0) (.slice none 0 0) ∧ OwnM w3 (w.heap.size + 2) (.slice va y.ms.length vc) y.ms ∧ Below w.heap.size w w3) := ⟨by simpa [OwnK] using hown3, lies_row LE HO.out hg3 (by decide), lies_row RE HO.out hg3 (by decide), OE.kept hg3 (rowkinds OE HO.out (by decide)), bE.grown hg3 (Nat.le_trans (by omega) hszE) (fun k hk => Nat.le_trans (by omega) (HO.out.lt k hk).1)⟩; have k4 := HE3.out.2.1.c4; have k4f := HE3.out.2.1.f 4; obtain ⟨ua, uc, rfl, _⟩ := slice_of HE3.out.1)
  have L := HE3.out.2.1.put4 (.slice ua y.ks.length uc)
  have R : Lies (w3.setCell ⟨w.heap.size, 4, none⟩ (.slice ua y.ks.length uc)) (w.heap.size + 1) 38 B0 (.slice none 0 0) (.slice none 0 0) := HE3.out.2.2.1.other (by omega)
  have OM : OwnM (w3.setCell ⟨w.heap.size, 4, none⟩ (.slice ua y.ks.length uc)) (w.heap.size + 2) (.slice va y.ms.length vc) y.ms := own_var HE3.out.2.2.2.1 HE3.out.2.1 (by decide)
  have OK : OwnK (w3.setCell ⟨w.heap.size, 4, none⟩ (.slice ua y.ks.length uc)) (w.heap.size + 2) (.slice ua y.ks.length uc) y.ks := own_var HE3.out.1 HE3.out.2.1 (by decide)
  have b3 := HE3.out.2.2.2.2.setCell (p := ⟨w.heap.size, 4, none⟩) (Nat.le_refl _) (.slice ua y.ks.length uc)
  clear HE3 hown3 hg3 kE bE HRW HO LE RE OE hszE c4' k4 k4f HK c4
  generalize w3.setCell _ _ = W4 at L R OM OK b3 ⊢
  have c0 := L.c0
  have c1 := L.c1
  have c2 := L.c2
  have c3 := L.c3
  have c4 := L.c4
  have r0 := R.c0
  have r1 := R.c1
  have r2 := R.c2
  have r3 := R.c3
  have r4 := R.c4
  have fr := R.f
  have HE : Hid (Lies (put5w W4 (w.heap.size + 1) (.string y.nm) (.int .i64 y.vd) (.int .i64 y.nx) (.slice va y.ms.length vc) (.slice ua y.ks.length uc)) (w.heap.size + 1) 38 y (.slice va y.ms.length vc) (.slice ua y.ks.length uc) ∧ Below w.heap.size w (put5w W4 (w.heap.size + 1) (.string y.nm) (.int .i64 y.vd) (.int .i64 y.nx) (.slice va y.ms.length vc) (.slice ua y.ks.length uc)) ∧ OwnM (put5w W4 (w.heap.size + 1) (.string y.nm) (.int .i64 y.vd) (.int .i64 y.nx) (.slice va y.ms.length vc) (.slice ua y.ks.length uc)) w.heap.size (.slice va y.ms.length vc) y.ms ∧ OwnK (put5w W4 (w.heap.size + 1) (.string y.nm) (.int .i64 y.vd) (.int .i64 y.nx) (.slice va y.ms.length vc) (.slice ua y.ks.length uc)) w.heap.size (.slice ua y.ks.length uc) y.ks) :=
    ⟨put5w_lies R, put5w_below b3 (by omega), own_low (own_grown OM (put5w_grown _ _ _ _ _ _ _) (row_box OM R (by decide))) (by omega), own_low (own_grown OK (put5w_grown _ _ _ _ _ _ _) (row_box OK R (by decide))) (by omega)⟩
  clear L R OM OK b3
  go_wp2
  change bodyPost _ _ _ _ _ (put5w W4 (w.heap.size + 1) (.string y.nm) (.int .i64 y.vd) (.int .i64 y.nx) (.slice va y.ms.length vc) (.slice ua y.ks.length uc))
  generalize put5w _ _ _ _ _ _ _ = W9 at HE ⊢
  have d0 := HE.out.1.c0
  have d1 := HE.out.1.c1
  have d2 := HE.out.1.c2
  have d3 := HE.out.1.c3
  have d4 := HE.out.1.c4
  exact bodyPost_ret (v := .agg #[.string y.nm, .int .i64 y.vd, .int .i64 y.nx, .slice va y.ms.length vc, .slice ua y.ks.length uc]) (by simp [results, Tryz.results55, go_sem, d0, d1, d2, d3, d4]) rfl ⟨⟨_, _, rfl, HE.out.2.2.1, HE.out.2.2.2⟩, HE.out.2.1⟩

/-- What BoxAt answers. -/
def Ba (xs : List Bx) (s : ByteArray) (y : Bx) (c : Int) : Prop :=
  (¬ (xs.length ≤ 4096 ∧ s.size ≤ 65536) ∧ y = B0 ∧ c = 2) ∨ ((xs.length ≤ 4096 ∧ s.size ≤ 65536) ∧ sok xs = false ∧ y = B0 ∧ c = 1) ∨ ((xs.length ≤ 4096 ∧ s.size ≤ 65536) ∧ sok xs = true ∧ Plc xs s (-1) ∧ y = B0 ∧ c = 5) ∨ ((xs.length ≤ 4096 ∧ s.size ≤ 65536) ∧ sok xs = true ∧ ∃ k : Nat, k < xs.length ∧ Plc xs s k ∧ y = xs.getD k noB ∧ c = 0)
theorem plc_nat {xs : List Bx} {s : ByteArray} {r : Int} (h : Plc xs s r) : r = -1 ∨ ∃ k : Nat, r = k ∧ k < xs.length := by
  rcases h with ⟨k, rfl, hk, _⟩ | ⟨rfl, _⟩
  · exact .inr ⟨k, rfl, hk⟩
  · exact .inl rfl
def Fines (xs : List Bx) (vs : Nat → Value × Value) : Prop := ∀ j, j < xs.length → Fine (vs j).1 ∧ Fine (vs j).2
def BaRet (xs : List Bx) (s : ByteArray) (base : Nat) (e : Ending) (w : World) : Prop := ∃ y c v u, e = .returned (.tuple #[BV y v u, .int .i64 c]) ∧ Ba xs s y c ∧ OwnM w base v y.ms ∧ OwnK w base u y.ks
theorem own_nilM (w : World) (B : Nat) : OwnM w B (.slice none 0 0) B0.ms := World.ownsRow_nil _ _ _ _
theorem own_nilK (w : World) (B : Nat) : OwnK w B (.slice none 0 0) B0.ks := World.ownsRow_nil _ _ _ _
theorem ba_ret {xs : List Bx} {s : ByteArray} {base : Nat} {w : World} {c : Int} (h : Ba xs s B0 c) : BaRet xs s base (.returned (.tuple #[.agg #[.string ⟨#[]⟩, .int .i64 0, .int .i64 0, .slice none 0 0, .slice none 0 0], .int .i64 c])) w := ⟨B0, c, _, _, rfl, h, own_nilM _ _, own_nilK _ _⟩
end Go.Proofs.YtinnnfkhiigjpaaGreat.bx

namespace Go.Proofs.YtinnnfkhiigjpaaGreat.bx
open Go.RowKit Go.Deep
open st
set_option linter.unusedVariables false
theorem put5w_zero {w : World} {g : Nat} {T : TypeId} {x : Bx} {v u : Value} (h : Lies w g T x v u) : Lies (put5w w g (.string ⟨#[]⟩) (.int .i64 0) (.int .i64 0) (.slice none 0 0) (.slice none 0 0)) g T B0 (.slice none 0 0) (.slice none 0 0) :=
  heap_setCell_same _ g 4 _ _ _ (heap_setCell_same _ g 3 _ _ _ (heap_setCell_same _ g 2 _ _ _ (heap_setCell_same _ g 1 _ _ _ (heap_setCell_same _ g 0 _ _ _ h))))

set_option maxHeartbeats 4000000 in
set_option maxRecDepth 100000 in
theorem impl_ba (v : Value) (xs : List Bx) (vs : Nat → Value × Value) (s : ByteArray) (w : World) (h : BoxesAt w v xs vs) (hs : Smalls xs) (hf : Fines xs vs) (hss : s.size ≤ 1048576) :
    Calls Tryz.prog 11 #[v, .string s] w fun e w' => BaRet xs s w.heap.size e w' ∧ Below w.heap.size w w' := by
  have R0 : Lies (w.alloc (.cells #[.string ⟨#[]⟩, .int .i64 0, .int .i64 0, .slice none 0 0, .slice none 0 0] 38)) w.heap.size 38 B0 (.slice none 0 0) (.slice none 0 0) := lies_new w 38 B0 (.slice none 0 0) (.slice none 0 0)
  have b0 := new_below w 38 #[.string ⟨#[]⟩, .int .i64 0, .int .i64 0, .slice none 0 0, .slice none 0 0]
  have HA : Hid (∀ W, Below w.heap.size w W → BoxesAt W v xs vs) := fun W hW => boxes_below h hW
  have HS : Hid (Smalls xs) := hs
  have HF : Hid (Fines xs vs) := hf
  obtain ⟨⟨a, cap, rfl, _⟩, _⟩ := h
  have hl := hs.1
  have B2 : Hid (¬ (xs.length ≤ 4096 ∧ s.size ≤ 65536) → Ba xs s B0 2) := fun h => .inl ⟨h, rfl, rfl⟩
  have B1 : Hid ((xs.length ≤ 4096 ∧ s.size ≤ 65536) → sok xs = false → Ba xs s B0 1) := fun h h1 => .inr (.inl ⟨h, h1, rfl, rfl⟩)
  have B5 : Hid ((xs.length ≤ 4096 ∧ s.size ≤ 65536) → sok xs = true → Plc xs s (-1) → Ba xs s B0 5) := fun h h1 h2 => .inr (.inr (.inl ⟨h, h1, h2, rfl, rfl⟩))
  have BK : Hid ((xs.length ≤ 4096 ∧ s.size ≤ 65536) → sok xs = true → ∀ k : Nat, k < xs.length → Plc xs s k → Ba xs s (xs.getD k noB) 0) := fun h h1 k hk h2 => .inr (.inr (.inr ⟨h, h1, k, hk, h2, rfl, rfl⟩))
  clear hs hf
  by_cases g1 : 4096 < xs.length
  · have g1' : (4096 : Int) < (xs.length : Int) := by omega
    have HB : Hid (Ba xs s B0 2) := B2.out (by omega)
    go_enter Tryz.func11, Tryz.ntmps11
    go_upto_region 2 with fail
    generalize w.alloc _ = W at R0 b0 ⊢
    have r0 := R0.c0
    have r1 := R0.c1
    have r2 := R0.c2
    have r3 := R0.c3
    have r4 := R0.c4
    have fr := R0.f
    go_wp2
    have A5 : Lies (put5w W w.heap.size (.string ⟨#[]⟩) (.int .i64 0) (.int .i64 0) (.slice none 0 0) (.slice none 0 0)) w.heap.size 38 B0 (.slice none 0 0) (.slice none 0 0) := put5w_zero R0
    have b5 : Below w.heap.size w (put5w W w.heap.size (.string ⟨#[]⟩) (.int .i64 0) (.int .i64 0) (.slice none 0 0) (.slice none 0 0)) := put5w_below b0 (Nat.le_refl _)
    change bodyPost _ _ _ _ _ (put5w W w.heap.size (.string ⟨#[]⟩) (.int .i64 0) (.int .i64 0) (.slice none 0 0) (.slice none 0 0))
    generalize put5w _ _ _ _ _ _ _ = W9 at A5 b5 ⊢
    have d0 : W9.cell? ⟨w.heap.size, 0, none⟩ = some (.string ⟨#[]⟩) := A5.c0
    have d1 : W9.cell? ⟨w.heap.size, 0 + 1, none⟩ = some (.int .i64 0) := A5.c1
    have d2 : W9.cell? ⟨w.heap.size, 0 + 2, none⟩ = some (.int .i64 0) := A5.c2
    have d3 := A5.c3
    have d4 := A5.c4
    exact bodyPost_ret (v := .tuple #[.agg #[.string ⟨#[]⟩, .int .i64 0, .int .i64 0, .slice none 0 0, .slice none 0 0], .int .i64 2]) (by simp [results, Tryz.results11, go_sem, d0, d1, d2, d3, d4]) rfl ⟨ba_ret HB.out, b5⟩
  have g1' : (xs.length : Int) ≤ 4096 := by omega
  by_cases g2 : 65536 < s.size
  · have g2' : (65536 : Int) < (s.size : Int) := by omega
    have HB : Hid (Ba xs s B0 2) := B2.out (by omega)
    go_enter Tryz.func11, Tryz.ntmps11
    go_upto_region 2 with fail
    generalize w.alloc _ = W at R0 b0 ⊢
    have r0 := R0.c0
    have r1 := R0.c1
    have r2 := R0.c2
    have r3 := R0.c3
    have r4 := R0.c4
    have fr := R0.f
    go_wp2
    have A5 : Lies (put5w W w.heap.size (.string ⟨#[]⟩) (.int .i64 0) (.int .i64 0) (.slice none 0 0) (.slice none 0 0)) w.heap.size 38 B0 (.slice none 0 0) (.slice none 0 0) := put5w_zero R0
    have b5 : Below w.heap.size w (put5w W w.heap.size (.string ⟨#[]⟩) (.int .i64 0) (.int .i64 0) (.slice none 0 0) (.slice none 0 0)) := put5w_below b0 (Nat.le_refl _)
    change bodyPost _ _ _ _ _ (put5w W w.heap.size (.string ⟨#[]⟩) (.int .i64 0) (.int .i64 0) (.slice none 0 0) (.slice none 0 0))
    generalize put5w _ _ _ _ _ _ _ = W9 at A5 b5 ⊢
    have d0 : W9.cell? ⟨w.heap.size, 0, none⟩ = some (.string ⟨#[]⟩) := A5.c0
    have d1 : W9.cell? ⟨w.heap.size, 0 + 1, none⟩ = some (.int .i64 0) := A5.c1
    have d2 : W9.cell? ⟨w.heap.size, 0 + 2, none⟩ = some (.int .i64 0) := A5.c2
    have d3 := A5.c3
    have d4 := A5.c4
    exact bodyPost_ret (v := .tuple #[.agg #[.string ⟨#[]⟩, .int .i64 0, .int .i64 0, .slice none 0 0, .slice none 0 0], .int .i64 2]) (by simp [results, Tryz.results11, go_sem, d0, d1, d2, d3, d4]) rfl ⟨ba_ret HB.out, b5⟩
  have g2' : (s.size : Int) ≤ 65536 := by omega
  have gg : xs.length ≤ 4096 ∧ s.size ≤ 65536 := ⟨by omega, by omega⟩
  have HB1 := B1.out gg
  have HB5 := B5.out gg
  have HBK := BK.out gg
  clear B1 B2 B5 BK gg
  have HB1 : Hid (sok xs = false → Ba xs s B0 1) := HB1
  have HB5 : Hid (sok xs = true → Plc xs s (-1) → Ba xs s B0 5) := HB5
  have HBK : Hid (sok xs = true → ∀ k : Nat, k < xs.length → Plc xs s k → Ba xs s (xs.getD k noB) 0) := HBK
  go_enter Tryz.func11, Tryz.ntmps11
  go_wp2_with fail
  generalize w.alloc _ = W0 at R0 b0 ⊢
  refine (impl_sok _ xs vs W0 (HA.out W0 b0) HS.out).mono ?_
  rintro e W1 ⟨rfl, k1⟩
  have R1 := R0.keep k1
  have b1 := b0.trans (k1.mono b0.size)
  clear R0 b0 k1
  generalize hsk : sok xs = sk at HB1 HB5 HBK ⊢
  clear hsk
  cases sk
  · have HB : Hid (Ba xs s B0 1) := HB1.out rfl
    go_upto_region 4 with fail
    have r0 := R1.c0
    have r1 := R1.c1
    have r2 := R1.c2
    have r3 := R1.c3
    have r4 := R1.c4
    have fr := R1.f
    go_wp2
    have A5 : Lies (put5w W1 w.heap.size (.string ⟨#[]⟩) (.int .i64 0) (.int .i64 0) (.slice none 0 0) (.slice none 0 0)) w.heap.size 38 B0 (.slice none 0 0) (.slice none 0 0) := put5w_zero R1
    have b5 : Below w.heap.size w (put5w W1 w.heap.size (.string ⟨#[]⟩) (.int .i64 0) (.int .i64 0) (.slice none 0 0) (.slice none 0 0)) := put5w_below b1 (Nat.le_refl _)
    change bodyPost _ _ _ _ _ (put5w W1 w.heap.size (.string ⟨#[]⟩) (.int .i64 0) (.int .i64 0) (.slice none 0 0) (.slice none 0 0))
    generalize put5w _ _ _ _ _ _ _ = W9 at A5 b5 ⊢
    have d0 : W9.cell? ⟨w.heap.size, 0, none⟩ = some (.string ⟨#[]⟩) := A5.c0
    have d1 : W9.cell? ⟨w.heap.size, 0 + 1, none⟩ = some (.int .i64 0) := A5.c1
    have d2 : W9.cell? ⟨w.heap.size, 0 + 2, none⟩ = some (.int .i64 0) := A5.c2
    have d3 := A5.c3
    have d4 := A5.c4
    exact bodyPost_ret (v := .tuple #[.agg #[.string ⟨#[]⟩, .int .i64 0, .int .i64 0, .slice none 0 0, .slice none 0 0], .int .i64 1]) (by simp [results, Tryz.results11, go_sem, d0, d1, d2, d3, d4]) rfl ⟨ba_ret HB.out, b5⟩
  go_wp2_with fail
  refine (place_any _ _ xs vs s W1 (HA.out W1 b1) (Nat.le_refl _) hl).mono ?_
  rintro e W2 ⟨⟨r, rfl, hr⟩, k2⟩
  have R2 := R1.keep k2
  have b2 := b1.trans (k2.mono b1.size)
  clear R1 b1 k2
  rcases plc_nat hr with rfl | ⟨k, rfl, hk⟩
  · have HB : Hid (Ba xs s B0 5) := HB5.out (by trivial) hr
    clear hr
    go_upto_region 7 with fail
    have r0 := R2.c0
    have r1 := R2.c1
    have r2 := R2.c2
    have r3 := R2.c3
    have r4 := R2.c4
    have fr := R2.f
    go_wp2
    have A5 : Lies (put5w W2 w.heap.size (.string ⟨#[]⟩) (.int .i64 0) (.int .i64 0) (.slice none 0 0) (.slice none 0 0)) w.heap.size 38 B0 (.slice none 0 0) (.slice none 0 0) := put5w_zero R2
    have b5 : Below w.heap.size w (put5w W2 w.heap.size (.string ⟨#[]⟩) (.int .i64 0) (.int .i64 0) (.slice none 0 0) (.slice none 0 0)) := put5w_below b2 (Nat.le_refl _)
    change bodyPost _ _ _ _ _ (put5w W2 w.heap.size (.string ⟨#[]⟩) (.int .i64 0) (.int .i64 0) (.slice none 0 0) (.slice none 0 0))
    generalize put5w _ _ _ _ _ _ _ = W9 at A5 b5 ⊢
    have d0 : W9.cell? ⟨w.heap.size, 0, none⟩ = some (.string ⟨#[]⟩) := A5.c0
    have d1 : W9.cell? ⟨w.heap.size, 0 + 1, none⟩ = some (.int .i64 0) := A5.c1
    have d2 : W9.cell? ⟨w.heap.size, 0 + 2, none⟩ = some (.int .i64 0) := A5.c2
    have d3 := A5.c3
    have d4 := A5.c4
    exact bodyPost_ret (v := .tuple #[.agg #[.string ⟨#[]⟩, .int .i64 0, .int .i64 0, .slice none 0 0, .slice none 0 0], .int .i64 5]) (by simp [results, Tryz.results11, go_sem, d0, d1, d2, d3, d4]) rfl ⟨ba_ret HB.out, b5⟩
  have HB : Hid (Ba xs s (xs.getD k noB) 0) := HBK.out (by trivial) k hk hr
  have hat := HA.out W2 b2
  have hfk := HF.out k hk
  have hsk := HS.out.2 k hk
  have hrw := hat.2 k hk
  obtain ⟨⟨a', cap', e', hh⟩, _⟩ := hat
  cases e'
  rcases hh with e | ⟨bb, off, rfl, hbl, hcells⟩
  · rw [e] at hk; simp at hk
  have hck := hcells k hk
  clear hcells hr HB1 HB5 HBK
  generalize xs.getD k noB = y at HB hsk hrw hck
  generalize vs k = p at hfk hrw hck
  obtain ⟨p1, p2⟩ := p
  simp only at hfk hrw hck
  obtain ⟨q0, q1, q2, q3, q4⟩ := hck
  simp only at q3 q4
  have HRW : Hid (RowsIn W2 W2.heap.size p1 p2 y.ms y.ks) := hrw
  have HFK : Hid (Fine p1 ∧ Fine p2) := hfk
  have HSK : Hid (Small y) := hsk
  obtain ⟨⟨pa, pc, rfl, _⟩, ⟨ra, rc, rfl, _⟩⟩ := hrw
  clear hfk hsk
  have hk' : (k : Int) < (xs.length : Int) := by omega
  have hk0 : (0 : Int) ≤ (k : Int) := by omega
  go_wp2_with fail
  clear q0 q1 q2 q3 q4
  refine (copiedB_any y _ _ _ W2 HRW.out (Nat.le_refl _) HFK.out.1 HFK.out.2 HSK.out).mono ?_
  rintro e W3 ⟨⟨v', u', rfl, ho1, ho2⟩, k3⟩
  have R3 := R2.keep k3
  have b3 := b2.trans (k3.mono b2.size)
  have HO : Hid (OwnM W3 w.heap.size v' y.ms ∧ OwnK W3 w.heap.size u' y.ks) := ⟨own_low ho1 b2.size, own_low ho2 b2.size⟩
  obtain ⟨va, vc, rfl, _⟩ := slice_of ho1
  obtain ⟨ua, uc, rfl, _⟩ := slice_of ho2
  clear ho1 ho2 R2 b2 k3 HRW
  unfold BV
  have r0 := R3.c0
  have r1 := R3.c1
  have r2 := R3.c2
  have r3 := R3.c3
  have r4 := R3.c4
  have fr := R3.f
  have HE : Hid (Lies (put5w W3 w.heap.size (.string y.nm) (.int .i64 y.vd) (.int .i64 y.nx) (.slice va y.ms.length vc) (.slice ua y.ks.length uc)) w.heap.size 38 y (.slice va y.ms.length vc) (.slice ua y.ks.length uc) ∧ Below w.heap.size w (put5w W3 w.heap.size (.string y.nm) (.int .i64 y.vd) (.int .i64 y.nx) (.slice va y.ms.length vc) (.slice ua y.ks.length uc)) ∧ OwnM (put5w W3 w.heap.size (.string y.nm) (.int .i64 y.vd) (.int .i64 y.nx) (.slice va y.ms.length vc) (.slice ua y.ks.length uc)) w.heap.size (.slice va y.ms.length vc) y.ms ∧ OwnK (put5w W3 w.heap.size (.string y.nm) (.int .i64 y.vd) (.int .i64 y.nx) (.slice va y.ms.length vc) (.slice ua y.ks.length uc)) w.heap.size (.slice ua y.ks.length uc) y.ks) :=
    ⟨put5w_lies R3, put5w_below b3 (Nat.le_refl _), own_grown HO.out.1 (put5w_grown _ _ _ _ _ _ _) (row_box HO.out.1 R3 (by decide)), own_grown HO.out.2 (put5w_grown _ _ _ _ _ _ _) (row_box HO.out.2 R3 (by decide))⟩
  clear R3 b3 HO
  go_wp2
  change bodyPost _ _ _ _ _ (put5w W3 w.heap.size (.string y.nm) (.int .i64 y.vd) (.int .i64 y.nx) (.slice va y.ms.length vc) (.slice ua y.ks.length uc))
  generalize put5w _ _ _ _ _ _ _ = W9 at HE ⊢
  have d0 := HE.out.1.c0
  have d1 := HE.out.1.c1
  have d2 := HE.out.1.c2
  have d3 := HE.out.1.c3
  have d4 := HE.out.1.c4
  exact bodyPost_ret (v := .tuple #[.agg #[.string y.nm, .int .i64 y.vd, .int .i64 y.nx, .slice va y.ms.length vc, .slice ua y.ks.length uc], .int .i64 0]) (by simp [results, Tryz.results11, go_sem, d0, d1, d2, d3, d4]) rfl ⟨⟨y, 0, _, _, rfl, HB.out, HE.out.2.2.1, HE.out.2.2.2⟩, HE.out.2.1⟩

end Go.Proofs.YtinnnfkhiigjpaaGreat.bx

namespace Go.Proofs.YtinnnfkhiigjpaaGreat.mx
open Go.RowKit
open gr mk st bx
open ky (TextsAt OwnT own_texts)
set_option linter.unusedVariables false

theorem row_other {w w' : World} {b e s n : Nat} {v u : Value} {xs : List Value} (h : w.ownsRow b e s v n xs) (hg : w.grownBy w' u.ownBlock) (hd : v.ownBlock = none ∨ v.ownBlock ≠ u.ownBlock) : w'.ownsRow b e s v n xs := by
  rcases h.2 with ⟨rfl, hz⟩ | ⟨g, cap, cur, rfl, hB, hh, r⟩
  · exact ⟨h.1, .inl ⟨rfl, hz⟩⟩
  · refine mu.own_block h (hg.block g (Array.getElem?_eq_some_iff.1 hh).1 ?_)
    rcases hd with e | e
    · cases e
    · exact e

end Go.Proofs.YtinnnfkhiigjpaaGreat.mx
