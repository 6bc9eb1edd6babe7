/-
  The specification's test of boxes.
  The sessions of a connection: those that read news, and those that select a box that is there.
  Connections that are right: both functions.
-/
import Derived.Test.YtncnbhekgkemfaaGreatDoorPkai
import Derived.Test.YtncnbhekgkemfaaGreatDoorPkaj
import Derived.Test.YtncnbhekgkemfaaGreatDoorPkac
import Derived.Test.YtncnbhekgkemfaaGreatDoorPkad

namespace Go.Proofs.YtncnbhekgkemfaaGreatDoor.bx
open Go.RowKit
open st gr
set_option linter.unusedVariables false

theorem plc_one {xs : List Bx} {s : ByteArray} {r r' : Int} (h : Plc xs s r) (h' : Plc xs s r') : r = r' := by
  rcases h with ⟨k, rfl, hk, hn, hf⟩ | ⟨rfl, hno⟩
  · rcases h' with ⟨j, rfl, hj, hn', hf'⟩ | ⟨rfl, hno⟩
    · by_cases e : k = j
      · rw [e]
      · by_cases e2 : k < j
        · exact absurd hn (hf' k e2)
        · exact absurd hn' (hf j (by omega))
    · exact absurd hn (hno k hk)
  · rcases h' with ⟨j, rfl, hj, hn', hf'⟩ | ⟨rfl, _⟩
    · exact absurd hn' (hno j hj)
    · rfl
theorem plc_ex (xs : List Bx) (s : ByteArray) : ∃ r, Plc xs s r := by
  by_cases h : ∃ k, k < xs.length ∧ (xs.getD k noB).nm = s
  · let p : Nat → Prop := fun k => k < xs.length ∧ (xs.getD k noB).nm = s
    have hex : ∀ m, (∃ k, k ≤ m ∧ p k) → ∃ k, p k ∧ ∀ j, j < k → ¬ p j := by
      intro m
      induction m with
      | zero => rintro ⟨k, hk, hp⟩; exact ⟨k, hp, fun j hj => by omega⟩
      | succ m ih =>
        rintro ⟨k, hk, hp⟩
        by_cases hm : ∃ j, j ≤ m ∧ p j
        · exact ih hm
        · refine ⟨k, hp, fun j hj hpj => hm ⟨j, by omega, hpj⟩⟩
    obtain ⟨k0, h0⟩ := h
    obtain ⟨k, ⟨h1, h2⟩, h3⟩ := hex k0 ⟨k0, Nat.le_refl _, h0⟩
    exact ⟨k, .inl ⟨k, rfl, h1, h2, fun j hj e => h3 j hj ⟨by omega, e⟩⟩⟩
  · exact ⟨-1, .inr ⟨rfl, fun j hj e => h ⟨j, hj, e⟩⟩⟩

set_option maxHeartbeats 2000000 in
set_option maxRecDepth 100000 in
theorem find_any (N : Nat) (v : Value) (xs : List Bx) (vs : Nat → Value × Value) (s : ByteArray) (w : World) (h : CellsIn w N v xs vs) (hn : xs.length ≤ 1048576) {r : Int} (hr : Plc xs s r) :
    Calls Tryz.prog 30 #[v, .string s] w fun e w' => e = .returned (.int .i64 r) ∧ w' = w := by
  obtain ⟨a, cap, rfl, hc⟩ := h
  obtain ⟨n, hn'⟩ : ∃ n, n = xs.length := ⟨_, rfl⟩
  have HN : Hid (n = xs.length) := hn'
  have HH : Hid (xs = [] ∨ ∃ b off, a = some ⟨b, off, none⟩ ∧ b < N ∧ ∀ j, j < xs.length → At5 w b (off + j * 5) (xs.getD j noB) (vs j)) := hc
  have HR : Hid (∀ r', Plc xs s r' → r' = r) := fun r' h => plc_one h hr
  rw [← hn'] at hn ⊢
  clear hc hn' hr
  go_enter Tryz.func30, Tryz.ntmps30
  go_wp2
  go_loopw [5] (fun i wr => ∃ k : Nat, k ≤ n ∧ i = .int .i64 k ∧ (∀ j, j < k → (xs.getD j noB).nm ≠ s) ∧ wr = w) (fun i _ => n - (intOf i).toNat)
  case atStart => exact ⟨0, Nat.zero_le _, rfl, fun j hj => absurd hj (Nat.not_lt_zero _), rfl⟩
  case round =>
    obtain ⟨k, hk, rfl, hno, rfl⟩ := hrel
    have HNO : Hid (∀ j, j < k → (xs.getD j noB).nm ≠ s) := hno
    clear hno
    by_cases hlt : k < n
    · have hka : k < xs.length := by rw [← HN.out]; exact hlt
      rcases HH.out with e | ⟨b, off, rfl, hbl, hcells⟩
      · rw [e] at hka; simp at hka
      have hat := hcells k hka
      have HKA : Hid (k < xs.length) := hka
      clear hcells hka
      generalize hx : xs.getD k noB = x at hat
      have HX : Hid (xs.getD k noB = x) := hx
      clear hx
      obtain ⟨c0, _⟩ := hat
      obtain ⟨nm, vd, nx, ms, ks⟩ := x
      simp only at c0
      have hlt' : (k : Int) < (n : Int) := by omega
      by_cases he : nm = s
      · have he' : (nm.toList == s.toList) = true := by rw [he]; simp
        have hrk : (k : Int) = r := HR.out k (.inl ⟨k, rfl, HKA.out, by rw [HX.out]; exact he, HNO.out⟩)
        have HRK : Hid ((k : Int) = r) := hrk
        clear he hrk
        go_wp2
        go_ret
        exact ⟨by rw [← HRK.out]; rfl, rfl⟩
      · have he' : (nm.toList == s.toList) = false := ky.ne_list he
        have HE : Hid (∀ j, j < k + 1 → (xs.getD j noB).nm ≠ s) := fun j hj => by
          by_cases e : j = k
          · rw [e, HX.out]; exact he
          · exact HNO.out j (by omega)
        clear he
        go_wp2
        go_roundw
        case rel => exact ⟨k + 1, by omega, by go_num, HE.out, by trivial⟩
        case measure => simp [intOf]; omega
    · have hrk : (-1 : Int) = r := HR.out (-1) (.inr ⟨rfl, fun j hj => HNO.out j (by have := HN.out; omega)⟩)
      have HRK : Hid ((-1 : Int) = r) := hrk
      clear hrk
      go_wp2
      go_ret
      exact ⟨by rw [← HRK.out]; rfl, rfl⟩

theorem getD_take {xs : List Bx} {k j : Nat} (hj : j < k) : (xs.take k).getD j noB = xs.getD j noB := by
  simp [List.getD_eq_getElem?_getD, hj]
theorem cells_take {w : World} {N n k cap : Nat} {a : Option Addr} {xs : List Bx} {vs : Nat → Value × Value} (hn : n = xs.length) (h : CellsIn w N (.slice a n cap) xs vs) (hk : k ≤ n) : CellsIn w N (.slice a k cap) (xs.take k) vs := by
  subst hn
  obtain ⟨a', cap', e, h⟩ := h
  cases e
  refine ⟨a, cap, by rw [List.length_take]; congr 1; omega, ?_⟩
  rcases h with h | ⟨b, off, rfl, hb, h⟩
  · exact .inl (by rw [h]; simp)
  · refine .inr ⟨b, off, rfl, hb, fun j hj => ?_⟩
    rw [List.length_take] at hj
    rw [getD_take (by omega)]
    exact h j (by omega)

set_option maxHeartbeats 8000000 in
set_option maxRecDepth 100000 in
theorem spec_sok (v : Value) (xs : List Bx) (vs : Nat → Value × Value) (w : World) (h : BoxesAt w v xs vs) (hs : Smalls xs) (hcv : ∀ a n c, v = .slice a n c → n ≤ c) (hcu : ∀ j, j < xs.length → ∀ a n c, (vs j).2 = .slice a n c → n ≤ c) :
    Calls Tryz.prog 25 #[v] w fun e w' => e = .returned (.bool (sok xs)) ∧ Below w.heap.size w w' := by
  have HALL : Hid (BoxesIn w w.heap.size v xs vs) := h
  obtain ⟨⟨a, cap, rfl, hc⟩, _⟩ := h
  obtain ⟨n, hn⟩ : ∃ n, n = xs.length := ⟨_, rfl⟩
  have HN : Hid (n = xs.length) := hn
  have HH : Hid (xs = [] ∨ ∃ b off, a = some ⟨b, off, none⟩ ∧ b < w.heap.size ∧ ∀ j, j < xs.length → At5 w b (off + j * 5) (xs.getD j noB) (vs j)) := hc
  have HS : Hid (Smalls xs) := hs
  have HCU : Hid (∀ j, j < xs.length → ∀ a n c, (vs j).2 = .slice a n c → n ≤ c) := hcu
  have hl : n ≤ 1048576 := by rw [hn]; exact hs.1
  have hcap : n ≤ cap := by rw [hn]; exact hcv _ _ _ rfl
  rw [← hn] at HALL ⊢
  clear hc hs hn hcv hcu
  by_cases g1 : 4096 < n
  · have g1' : (4096 : Int) < (n : Int) := by omega
    have HR : Hid (sok xs = false) := sok_no (by have := HN.out; omega)
    go_enter Tryz.func25, Tryz.ntmps25
    go_wp2
    go_ret
    exact ⟨mu.ret_bool HR.out.symm, Below.refl _ _⟩
  have g1' : (n : Int) ≤ 4096 := by omega
  by_cases g0 : 4 < n
  · have g0' : (4 : Int) < (n : Int) := by omega
    have HR : Hid (sok xs = false) := sok_no (by have := HN.out; omega)
    go_enter Tryz.func25, Tryz.ntmps25
    go_wp2
    go_ret
    exact ⟨mu.ret_bool HR.out.symm, Below.refl _ _⟩
  have g0' : (n : Int) ≤ 4 := by omega
  go_enter Tryz.func25, Tryz.ntmps25
  go_wp2
  go_loopw [3] (fun i wr => ∃ (k : Nat), k ≤ n ∧ i = .int .i64 k ∧ SOK xs k ∧ Below w.heap.size w wr) (fun i _ => n - (intOf i).toNat)
  case atStart => exact ⟨0, Nat.zero_le _, rfl, fun j hj => absurd hj (Nat.not_lt_zero _), Below.refl _ _⟩
  case round =>
    obtain ⟨k, hk, rfl, hal, hbw⟩ := hrel
    have HAL : Hid (SOK xs k) := hal
    clear hal
    by_cases hlt : k < n
    · have hka : k < xs.length := by rw [← HN.out]; exact hlt
      rcases HH.out with e | ⟨b, off, rfl, hbl, hcells⟩
      · rw [e] at hka; simp at hka
      have hat := (hcells k hka).keep hbw hbl
      have hrw := rows_more ((boxes_in_below HALL.out hbw (Nat.le_refl _)).2 k hka) hbw.size
      have HAR : Hid (BoxesIn wr w.heap.size (.slice (some ⟨b, off, none⟩) n cap) xs vs) := boxes_in_below HALL.out hbw (Nat.le_refl _)
      have hcuk := HCU.out k hka
      have hsk := HS.out.2 k hka
      have HKA : Hid (k < xs.length) := hka
      clear hcells hka
      generalize hx : xs.getD k noB = x at hat hsk hrw
      have HX : Hid (xs.getD k noB = x) := hx
      generalize vs k = q at hat hrw hcuk
      clear hx
      obtain ⟨q1, q2⟩ := q
      obtain ⟨c0, c1, c2, c3, c4⟩ := hat
      simp only at c0 c1 c2 c3 c4 hrw hcuk
      have hlt' : (k : Int) < (n : Int) := by omega
      have hk0 : (0 : Int) ≤ (k : Int) := by omega
      have hkc : (k : Int) ≤ (cap : Int) := by omega
      have hkn : (k : Int) ≤ (n : Int) := by omega
      have HB : Hid (∀ y : Ext wr, Calls Tryz.prog 49 #[.agg #[.string x.nm, .int .i64 x.vd, .int .i64 x.nx, q1, q2]] (gw y) fun e w' => e = .returned (.bool (bok x)) ∧ Below (gw y).heap.size (gw y) w') := fun y => spec_bok x q1 q2 (gw y) (rows_below hrw (gw_below y)) hsk hcuk
      obtain ⟨⟨a2, cap2, rfl, _⟩, ⟨a3, cap3, rfl, _⟩⟩ := hrw
      have hin : In x.vd := hsk.1.1
      obtain ⟨nm, vd, nx, ms, ks⟩ := x
      simp only at c0 c1 c2 c3 c4 HB hin
      obtain ⟨r, hr⟩ := plc_ex (xs.take k) nm
      have HF : Hid (∀ y : Ext wr, Calls Tryz.prog 30 #[.slice (some ⟨b, off, none⟩) k cap, .string nm] (gw y) fun e w' => e = .returned (.int .i64 r) ∧ Below (gw y).heap.size (gw y) w') := fun y =>
        (find_any w.heap.size _ (xs.take k) vs nm (gw y) (cells_take HN.out (boxes_in_below HAR.out (gw_below y) hbw.size).1 (by omega)) (by rw [List.length_take]; omega) hr).mono fun e w' ⟨he, hw⟩ => ⟨he, by rw [hw]; exact Below.refl _ _⟩
      have HPL : Hid (Plc (xs.take k) nm r) := hr
      clear hsk hcuk HAR hr
      have HR0 : Hid (bok ⟨nm, vd, nx, ms, ks⟩ = false → sok xs = false) := fun h => sok_no (fun y => by have := (y.2 k HKA.out).1; rw [HX.out, h] at this; cases this)
      have HR1 : Hid (vd ≠ (k : Int) + 1 → sok xs = false) := fun h => sok_no (fun y => h (by have := (y.2 k HKA.out).2.1; rw [HX.out] at this; exact this))
      have HR2 : Hid (0 ≤ r → sok xs = false) := fun h => sok_no (fun y => by
        rcases HPL.out with ⟨j, rfl, hj, hjn, _⟩ | ⟨rfl, _⟩
        · rw [List.length_take] at hj
          rw [getD_take (by omega)] at hjn
          exact (y.2 k HKA.out).2.2 j (by omega) (by rw [HX.out]; exact hjn)
        · omega)
      have HR3 : Hid (r < 0 → vd = (k : Int) + 1 → bok ⟨nm, vd, nx, ms, ks⟩ = true → SOK xs (k + 1)) := fun h1 h2 h3 => sok_step HAL.out HX.out h3 h2 (fun j hj => by
        rcases HPL.out with ⟨i, rfl, _⟩ | ⟨_, hno⟩
        · omega
        · have := hno j (by rw [List.length_take]; have := HKA.out; omega)
          rwa [getD_take hj] at this)
      generalize bok ⟨nm, vd, nx, ms, ks⟩ = R at HB HR0 HR3
      clear HPL
      go_wp2_with fail
      have ne := ext_some wr
      have c0 := fun y : Ext wr => gw_cell y c0
      have c1 := fun y : Ext wr => gw_cell y c1
      have c2 := fun y : Ext wr => gw_cell y c2
      have c3 := fun y : Ext wr => gw_cell y c3
      have c4 := fun y : Ext wr => gw_cell y c4
      cases R
      · have HZ : Hid (sok xs = false) := HR0.out (by trivial)
        refine region_lit (by kernel_rfl) (by kernel_rfl) ?_
        repeat (go_big_quiet_step ((first | (go_at_call 49; exact grow_of (HB.out _)) | (go_at_call 30; exact grow_of (HF.out _)))))
        refine wpQuiet_nil ?_
        rintro W' ⟨y, rfl⟩
        have b3 := hbw.trans ((gw_below y).mono hbw.size)
        generalize gw y = W' at b3 ⊢
        clear c0 c1 c2 c3 c4 hbw HB HF
        go_wp2
        go_ret
        exact ⟨mu.ret_bool HZ.out.symm, b3⟩
      by_cases r1 : ¬ vd = (k : Int) + 1
      · have r1' : (vd != (k : Int) + 1) = true := by simp [r1]
        have HZ : Hid (sok xs = false) := HR1.out r1
        clear r1
        refine region_lit (by kernel_rfl) (by kernel_rfl) ?_
        repeat (go_big_quiet_step ((first | (go_at_call 49; exact grow_of (HB.out _)) | (go_at_call 30; exact grow_of (HF.out _)))))
        refine wpQuiet_nil ?_
        rintro W' ⟨y, rfl⟩
        have b3 := hbw.trans ((gw_below y).mono hbw.size)
        generalize gw y = W' at b3 ⊢
        clear c0 c1 c2 c3 c4 hbw HB HF
        go_wp2
        go_ret
        exact ⟨mu.ret_bool HZ.out.symm, b3⟩
      have r1 : vd = (k : Int) + 1 := Decidable.of_not_not r1
      have r1' : (vd != (k : Int) + 1) = false := by simp [r1]
      have HV1 : Hid (vd = (k : Int) + 1) := r1
      clear r1
      by_cases r2 : 0 ≤ r
      · have HZ : Hid (sok xs = false) := HR2.out r2
        refine region_lit (by kernel_rfl) (by kernel_rfl) ?_
        repeat (go_big_quiet_step ((first | (go_at_call 49; exact grow_of (HB.out _)) | (go_at_call 30; exact grow_of (HF.out _)))))
        refine wpQuiet_nil ?_
        rintro W' ⟨y, rfl⟩
        have b3 := hbw.trans ((gw_below y).mono hbw.size)
        generalize gw y = W' at b3 ⊢
        clear c0 c1 c2 c3 c4 hbw HB HF
        go_wp2
        go_ret
        exact ⟨mu.ret_bool HZ.out.symm, b3⟩
      · have r2' : r < 0 := by omega
        have HZ : Hid (SOK xs (k + 1)) := HR3.out r2' HV1.out (by trivial)
        refine region_lit (by kernel_rfl) (by kernel_rfl) ?_
        repeat (go_big_quiet_step ((first | (go_at_call 49; exact grow_of (HB.out _)) | (go_at_call 30; exact grow_of (HF.out _)))))
        refine wpQuiet_nil ?_
        rintro W' ⟨y, rfl⟩
        have b3 := hbw.trans ((gw_below y).mono hbw.size)
        generalize gw y = W' at b3 ⊢
        clear c0 c1 c2 c3 c4 hbw HB HF
        go_wp2
        go_roundw
        case rel => exact ⟨k + 1, by omega, by go_num, HZ.out, b3⟩
        case measure => simp [intOf]; omega
    · have HR : Hid (sok xs = true) := sok_yes (by have := HN.out; omega) (fun j hj => HAL.out j (by have := HN.out; omega))
      go_wp2
      go_ret
      exact ⟨mu.ret_bool HR.out.symm, hbw⟩
end Go.Proofs.YtncnbhekgkemfaaGreatDoor.bx

namespace Go.Proofs.YtncnbhekgkemfaaGreatDoor.wk
open Go.ChangeShapes Go.WideShapes Go.ChangeAt Go.RowKit Go.Deep Go.Joins
open ow (Reads Says says_yes says_no)
open vi nm im
set_option linter.unusedVariables false

/-- A session that reads news. -/
structure Nn where
  g : ByteArray
  n : Int
  o : Bool
def NV (x : Nn) : Value := .agg #[.string x.g, .int .i64 x.n, .bool x.o]
/-- What makes it right. -/
def NRight (x : Nn) : Prop := (x.g.size = 0 ∧ x.n = 0) ∨ (x.o = false ∧ ¬ x.g.size = 0 ∧ IsName x.g ∧ 0 ≤ x.n ∧ x.n ≤ 1000)

set_option maxHeartbeats 2000000 in
set_option maxRecDepth 100000 in
theorem impl_nok (x : Nn) (w : World) (hg : x.g.size ≤ 1048576) : Calls Tryz.prog 37 #[NV x] w fun e w' => Says (NRight x) e ∧ Below w.heap.size w w' := by
  obtain ⟨g, n, o⟩ := x
  unfold NV
  simp only at *
  have hbw := new_below w 50 #[.string g, .int .i64 n, .bool o]
  by_cases g0 : g.size = 0
  · have ge := empty_list g0
    have HG : Hid (g.size = 0) := g0
    clear g0
    by_cases n0 : n = 0
    · subst n0
      cases o
      all_goals (
        go_enter Tryz.func37, Tryz.ntmps37
        go_wp2
        go_ret
        exact ⟨says_yes (.inl ⟨HG.out, rfl⟩), hbw⟩)
    · have ne : (n == 0) = false := beq_eq_false_iff_ne.2 n0
      have HN : Hid (¬ n = 0) := n0
      clear n0
      cases o
      all_goals (
        go_enter Tryz.func37, Tryz.ntmps37
        go_wp2
        go_ret
        exact ⟨says_no (fun y => by rcases y with ⟨_, y⟩ | ⟨_, y, _⟩; exact HN.out y; exact y HG.out), hbw⟩)
  · have ge := full_list g0
    have HG : Hid (¬ g.size = 0) := g0
    clear g0
    cases o
    · go_enter Tryz.func37, Tryz.ntmps37
      go_wp2_with fail
      refine (implName_any g _ hg).mono ?_
      rintro e w1 ⟨⟨bn, rfl, hbn⟩, rfl⟩
      have HBN : Hid (bn = true ↔ IsName g) := hbn
      clear hbn
      cases bn
      · go_wp2
        go_ret
        exact ⟨says_no (fun y => by rcases y with ⟨y, _⟩ | ⟨_, _, y, _⟩; exact HG.out y; exact absurd (HBN.out.2 y) (by simp)), hbw⟩
      by_cases n0 : n = 0
      · subst n0
        go_wp2
        go_ret
        exact ⟨says_yes (.inr ⟨rfl, HG.out, HBN.out.1 (by trivial), (show (0 : Int) ≤ 0 by omega), (show (0 : Int) ≤ 1000 by omega)⟩), hbw⟩
      · have ne : (n == 0) = false := beq_eq_false_iff_ne.2 n0
        have HN : Hid (¬ n = 0) := n0
        clear n0
        go_wp2_with fail
        refine (mu.isUid_any n _).mono ?_
        rintro e w2 ⟨rfl, rfl⟩
        generalize hb : decide (1 ≤ n ∧ n ≤ 1000) = b
        have HB : Hid (decide (1 ≤ n ∧ n ≤ 1000) = b) := hb
        clear hb
        go_wp2
        go_ret
        refine ⟨⟨b, rfl, ?_⟩, hbw⟩
        rw [← HB.out, decide_eq_true_iff]
        exact ⟨fun y => .inr ⟨rfl, HG.out, HBN.out.1 (by trivial), (by have := y.1; show (0 : Int) ≤ n; omega), y.2⟩, fun y => by rcases y with ⟨_, y⟩ | ⟨_, _, _, y, z⟩; exact absurd y HN.out; exact ⟨by have h0 := HN.out; have h1 : (0 : Int) ≤ n := y; omega, z⟩⟩
    · go_enter Tryz.func37, Tryz.ntmps37
      go_wp2
      go_ret
      exact ⟨says_no (fun y => by rcases y with ⟨y, _⟩ | ⟨y, _⟩; exact HG.out y; cases y), hbw⟩

set_option maxHeartbeats 2000000 in
set_option maxRecDepth 100000 in
theorem spec_nok (x : Nn) (w : World) (hg : x.g.size ≤ 1048576) : Calls Tryz.prog 31 #[NV x] w fun e w' => Says (NRight x) e ∧ Below w.heap.size w w' := by
  obtain ⟨g, n, o⟩ := x
  unfold NV
  simp only at *
  have hbw := new_below w 50 #[.string g, .int .i64 n, .bool o]
  by_cases g0 : g.size = 0
  · have ge := empty_list g0
    have HG : Hid (g.size = 0) := g0
    clear g0
    by_cases n0 : n = 0
    · subst n0
      cases o
      all_goals (
        go_enter Tryz.func31, Tryz.ntmps31
        go_wp2
        go_ret
        exact ⟨says_yes (.inl ⟨HG.out, rfl⟩), hbw⟩)
    · have ne : (n == 0) = false := beq_eq_false_iff_ne.2 n0
      have HN : Hid (¬ n = 0) := n0
      clear n0
      cases o
      all_goals (
        go_enter Tryz.func31, Tryz.ntmps31
        go_wp2
        go_ret
        exact ⟨says_no (fun y => by rcases y with ⟨_, y⟩ | ⟨_, y, _⟩; exact HN.out y; exact y HG.out), hbw⟩)
  · have ge := full_list g0
    have HG : Hid (¬ g.size = 0) := g0
    clear g0
    cases o
    · go_enter Tryz.func31, Tryz.ntmps31
      go_wp2_with fail
      refine (specName_any g _ hg).mono ?_
      rintro e w1 ⟨⟨bn, rfl, hbn⟩, rfl⟩
      have HBN : Hid (bn = true ↔ IsName g) := hbn
      clear hbn
      cases bn
      · go_wp2
        go_ret
        exact ⟨says_no (fun y => by rcases y with ⟨y, _⟩ | ⟨_, _, y, _⟩; exact HG.out y; exact absurd (HBN.out.2 y) (by simp)), hbw⟩
      go_wp2_with fail
      refine (in_any n 0 1000 _).mono ?_
      rintro e w2 ⟨rfl, rfl⟩
      generalize hb : decide (0 ≤ n ∧ n ≤ 1000) = b
      have HB : Hid (decide (0 ≤ n ∧ n ≤ 1000) = b) := hb
      clear hb
      go_wp2
      go_ret
      refine ⟨⟨b, rfl, ?_⟩, hbw⟩
      rw [← HB.out, decide_eq_true_iff]
      exact ⟨fun y => .inr ⟨rfl, HG.out, HBN.out.1 (by trivial), y⟩, fun y => by rcases y with ⟨y, _⟩ | ⟨_, _, _, y⟩; exact absurd y HG.out; exact y⟩
    · go_enter Tryz.func31, Tryz.ntmps31
      go_wp2
      go_ret
      exact ⟨says_no (fun y => by rcases y with ⟨y, _⟩ | ⟨y, _⟩; exact HG.out y; cases y), hbw⟩

/-- A box of that name is there. -/
def Has (xs : List bx.Bx) (s : ByteArray) : Prop := ∃ j, j < xs.length ∧ (xs.getD j bx.noB).nm = s
theorem plc_has {xs : List bx.Bx} {s : ByteArray} {r : Int} (h : bx.Plc xs s r) : 0 ≤ r ↔ Has xs s := by
  rcases h with ⟨k, rfl, hk, hn, _⟩ | ⟨rfl, hn⟩
  · exact ⟨fun _ => ⟨k, hk, hn⟩, fun _ => by omega⟩
  · exact ⟨fun y => by omega, fun ⟨j, hj, e⟩ => absurd e (hn j hj)⟩
/-- What fits: a right session whose box, if it selects one, is there. -/
def Fit (xs : List bx.Bx) (x : Im) : Prop := Right x ∧ (x.st = 3 → Has xs x.bx)
set_option maxHeartbeats 2000000 in
set_option maxRecDepth 100000 in
theorem impl_fits (x : Im) (v : Value) (bv : Value) (xs : List bx.Bx) (vs : Nat → Value × Value) (w : World) (h : Reads .i64 w v x.vw) (hn : x.vw.length ≤ 1048576) (hb : x.bx.size ≤ 1048576) (hB : bx.BoxesAt w bv xs vs) (hxl : xs.length ≤ 1048576) :
    Calls Tryz.prog 36 #[IV x v, bv] w fun e w' => Says (Fit xs x) e ∧ Below w.heap.size w w' := by
  have hbw := new_below w 48 #[.int .i64 x.st, .string x.bx, .bool x.ro, v]
  have L0 := lies_new w 48 x v
  have HR : Hid (Reads .i64 (w.alloc (.cells #[.int .i64 x.st, .string x.bx, .bool x.ro, v] 48)) v x.vw) := reads_below h hbw
  have HB : Hid (bx.BoxesAt (w.alloc (.cells #[.int .i64 x.st, .string x.bx, .bool x.ro, v] 48)) bv xs vs) := bx.boxes_below hB hbw
  obtain ⟨a, cap, rfl, _⟩ := h
  obtain ⟨⟨ba, bc, rfl, _⟩, _⟩ := hB
  unfold IV
  go_enter Tryz.func36, Tryz.ntmps36
  go_wp2_with fail
  generalize w.alloc _ = w0 at hbw L0 HR HB ⊢
  refine (impl_iok x _ w0 HR.out hn hb).mono ?_
  rintro e w1 ⟨⟨br, rfl, hbr⟩, b1⟩
  have HBR : Hid (br = true ↔ Right x) := hbr
  have L1 := L0.keep b1
  have b2 := hbw.trans (b1.mono hbw.size)
  have HB1 : Hid (bx.BoxesAt w1 (.slice ba xs.length bc) xs vs) := bx.boxes_below HB.out b1
  clear hbr hbw L0 HB b1 HR
  have c0 := L1.c0
  have c1 := L1.c1
  cases br
  · go_wp2
    go_ret
    exact ⟨says_no (fun y => absurd (HBR.out.2 y.1) (by simp)), b2⟩
  by_cases h3 : x.st = 3
  · have e3 : (x.st != 3) = false := by rw [bne_eq_false_iff_eq]; exact h3
    have H3 : Hid (x.st = 3) := h3
    clear h3
    go_wp2_with fail
    refine (bx.place_any w1.heap.size _ xs vs x.bx w1 HB1.out (Nat.le_refl _) hxl).mono ?_
    rintro e w2 ⟨⟨r, rfl, hp⟩, b3⟩
    have HP : Hid (0 ≤ r ↔ Has xs x.bx) := plc_has hp
    have b4 := b2.trans (b3.mono b2.size)
    clear hp b3 b2 c0 c1 L1
    go_wp2
    go_ret
    refine ⟨⟨_, rfl, ?_⟩, b4⟩
    rw [decide_eq_true_iff, HP.out]
    exact ⟨fun y => ⟨HBR.out.1 (by trivial), fun _ => y⟩, fun y => y.2 H3.out⟩
  · have e3 : (x.st != 3) = true := by rw [bne_iff_ne]; exact h3
    have H3 : Hid (¬ x.st = 3) := h3
    clear h3
    go_wp2
    go_ret
    exact ⟨says_yes ⟨HBR.out.1 (by trivial), fun y => absurd y H3.out⟩, b2⟩
end Go.Proofs.YtncnbhekgkemfaaGreatDoor.wk

namespace Go.Proofs.YtncnbhekgkemfaaGreatDoor.cn
open Go.RowKit
open im (Im Right Bare IV)
open wk (Nn NV NRight Fit Has)
open ow (Reads Says)
set_option linter.unusedVariables false

def Cn.nn (x : Cn) : Nn := ⟨x.g, x.n, x.o⟩
/-- No news are read. -/
def NZ (x : Cn) : Prop := x.g.size = 0 ∧ x.n = 0 ∧ x.o = false
/-- What makes a connection right. -/
def CRight (xs : List bx.Bx) (x : Cn) : Prop :=
  (x.kd = 0 ∧ x.st = 0 ∧ Right x.im ∧ NZ x ∧ x.bf.size = 0) ∨
  (x.kd = 1 ∧ ¬ x.st = 0 ∧ Fit xs x.im ∧ NZ x ∧ x.bf.size ≤ 8000) ∨
  (x.kd = 2 ∧ x.st = 0 ∧ Right x.im ∧ x.o = false ∧ NRight x.nn ∧ x.bf.size ≤ 8000)
/-- It is said whether three are so. -/
def SB (C : Prop) (a b c : Bool) : Prop := Says C (.returned (.bool (a && b && c)))
theorem sb_of {C : Prop} {a b c : Bool} (h : C ↔ (a = true ∧ b = true ∧ c = true)) : SB C a b c := ⟨_, rfl, by rw [h]; cases a <;> cases b <;> cases c <;> simp⟩
def nz (x : Cn) : Bool := decide (x.g.size = 0) && decide (x.n = 0) && !x.o
theorem nz_iff (x : Cn) : nz x = true ↔ NZ x := by
  unfold nz NZ
  cases x.o <;> simp

set_option maxHeartbeats 4000000 in
set_option maxRecDepth 100000 in
theorem impl_right (x : Cn) (v bv : Value) (xs : List bx.Bx) (vs : Nat → Value × Value) (w : World) (h : Reads .i64 w v x.vw) (hs : Small x) (hB : bx.BoxesAt w bv xs vs) (hxl : xs.length ≤ 1048576) :
    Calls Tryz.prog 16 #[CV x v, bv] w fun e w' => Says (CRight xs x) e ∧ Below w.heap.size w w' := by
  have b0 := new_below w 52 (cells x v)
  have HL0 : Hid (Lies (w.alloc (.cells (cells x v) 52)) w.heap.size 52 x v) := lies_new w 52 x v
  have HR : Hid (∀ W, Below w.heap.size w W → Reads .i64 W v x.vw) := fun W hW => im.reads_below h hW
  have HBX : Hid (∀ W, Below w.heap.size w W → bx.BoxesAt W bv xs vs) := fun W hW => bx.boxes_below hB hW
  have HIO : Hid (∀ W, Below w.heap.size w W → Calls Tryz.prog 35 #[.agg #[.int .i64 x.st, .string x.bx, .bool x.ro, v]] W fun e w' => Says (Right x.im) e ∧ Below W.heap.size W w') := fun W hW => im.impl_iok x.im v W (HR.out W hW) hs.2.2.1 hs.2.1
  have HFI : Hid (∀ W, Below w.heap.size w W → Calls Tryz.prog 36 #[.agg #[.int .i64 x.st, .string x.bx, .bool x.ro, v], bv] W fun e w' => Says (Fit xs x.im) e ∧ Below W.heap.size W w') := fun W hW => wk.impl_fits x.im v bv xs vs W (HR.out W hW) hs.2.2.1 hs.2.1 (HBX.out W hW) hxl
  have HNO : Hid (∀ W, Calls Tryz.prog 37 #[.agg #[.string x.g, .int .i64 x.n, .bool x.o]] W fun e w' => Says (NRight x.nn) e ∧ Below W.heap.size W w') := fun W => wk.impl_nok x.nn W hs.2.2.2
  have HC : Hid (CRight xs x ↔ (x.kd = 0 ∧ x.st = 0 ∧ Right x.im ∧ nz x = true ∧ x.bf.size = 0) ∨ (x.kd = 1 ∧ ¬ x.st = 0 ∧ Fit xs x.im ∧ nz x = true ∧ x.bf.size ≤ 8000) ∨ (x.kd = 2 ∧ x.st = 0 ∧ Right x.im ∧ x.o = false ∧ NRight x.nn ∧ x.bf.size ≤ 8000)) := (show _ ↔ _ by rw [nz_iff]; exact Iff.rfl)
  obtain ⟨a, cap, rfl, _⟩ := h
  obtain ⟨⟨ba, bc, rfl, _⟩, _⟩ := hB
  clear hs hxl HR HBX
  generalize CRight xs x = C at HC ⊢
  generalize Right x.im = R at HIO HC
  generalize Fit xs x.im = F at HFI HC
  generalize NRight x.nn = M at HNO HC
  unfold CV
  obtain ⟨kd, bf, st, bx, ro, vw, g, n, o⟩ := x
  simp only [cells] at *
  have HLT : Hid (∀ W, Below (w.alloc (.cells #[.int .i64 kd, .string bf, .int .i64 st, .string bx, .bool ro, .slice a vw.length cap, .string g, .int .i64 n, .bool o] 52)).heap.size (w.alloc (.cells #[.int .i64 kd, .string bf, .int .i64 st, .string bx, .bool ro, .slice a vw.length cap, .string g, .int .i64 n, .bool o] 52)) W → Lies W w.heap.size 52 ⟨kd, bf, st, bx, ro, vw, g, n, o⟩ (.slice a vw.length cap)) := fun W hW => HL0.out.keep hW
  have HZ : Hid (nz ⟨kd, bf, st, bx, ro, vw, g, n, o⟩ = (decide (g.size = 0) && decide (n = 0) && !o)) := rfl
  generalize nz ⟨kd, bf, st, bx, ro, vw, g, n, o⟩ = Z at HC HZ
  clear HL0
  go_enter Tryz.func16, Tryz.ntmps16
  go_upto_region 1 with fail
  generalize w.alloc _ = w0 at b0 HLT ⊢
  have HB0 : Hid (Below w.heap.size w w0) := b0
  have c2 := (HLT.out w0 (Below.refl _ _)).c 2
  simp only [cells] at c2
  clear b0
  go_cut [5] (fun t wx => (∃ b : Bool, t = .bool b ∧ (b = true ↔ (st = 0 ∧ R))) ∧ Below w0.heap.size w0 wx)
  case first =>
    by_cases s0 : st = 0
    · subst s0
      have c3 := (HLT.out w0 (Below.refl _ _)).c 3
      have c4 := (HLT.out w0 (Below.refl _ _)).c 4
      have c5 := (HLT.out w0 (Below.refl _ _)).c 5
      simp only [cells] at c3 c4 c5
      go_wp2_with fail
      refine (HIO.out w0 HB0.out).mono ?_
      rintro e w1 ⟨⟨br, rfl, hbr⟩, b1⟩
      go_wp2_with fail
      go_meet
      exact ⟨⟨br, rfl, by rw [hbr]; simp⟩, b1⟩
    · have q : (st == 0) = false := beq_eq_false_iff_ne.2 s0
      have HS0 : Hid (¬ st = 0) := s0
      clear s0
      go_wp2_with fail
      go_meet
      exact ⟨⟨false, rfl, by simp [HS0.out]⟩, Below.refl _ _⟩
  obtain ⟨⟨bi, rfl, hbi⟩, hb1⟩ := hcut
  have HBI : Hid (bi = true ↔ (st = 0 ∧ R)) := hbi
  have HB1 : Hid (Below w0.heap.size w0 wc) := hb1
  clear hbi hb1 c2 HIO
  go_upto_region 2 with fail
  have L1 := HLT.out wc HB1.out
  have c6 := L1.c 6
  have c7 := L1.c 7
  have c8 := L1.c 8
  simp only [cells] at c6 c7 c8
  clear L1
  go_cut [6] (fun t wx => t = .bool Z ∧ wx = wc)
  case first =>
    by_cases g0 : g.size = 0
    · have ge := im.empty_list g0
      by_cases n0 : n = 0
      · subst n0
        have HZ0 : Hid (Z = !o) := (show _ = _ by rw [HZ.out, decide_eq_true g0]; simp)
        clear g0
        cases o
        all_goals
          go_wp2_with fail
          go_meet
          exact ⟨by rw [HZ0.out]; rfl, rfl⟩
      · have ne : (n == 0) = false := beq_eq_false_iff_ne.2 n0
        have HZ0 : Hid (Z = false) := (show _ = _ by rw [HZ.out, decide_eq_false n0]; simp)
        clear g0 n0
        go_wp2_with fail
        go_meet
        exact ⟨by rw [HZ0.out], rfl⟩
    · have ge := im.full_list g0
      have HZ0 : Hid (Z = false) := (show _ = _ by rw [HZ.out, decide_eq_false g0]; simp)
      clear g0
      go_wp2_with fail
      go_meet
      exact ⟨by rw [HZ0.out], rfl⟩
  obtain ⟨rfl, hwc⟩ := hcut
  subst hwc
  have HC0 : Hid (kd = 0 → (C ↔ (bi = true ∧ Z = true ∧ bf.size = 0))) := fun k => by
    rw [HC.out, HBI.out]
    constructor
    · rintro (⟨_, a, b, c, d⟩ | ⟨a, _⟩ | ⟨a, _⟩)
      · exact ⟨⟨a, b⟩, c, d⟩
      · omega
      · omega
    · rintro ⟨⟨a, b⟩, c, d⟩
      exact .inl ⟨k, a, b, c, d⟩
  have HC1 : Hid (kd = 1 → (C ↔ (¬ st = 0 ∧ F ∧ Z = true ∧ bf.size ≤ 8000))) := fun k => by
    rw [HC.out]
    constructor
    · rintro (⟨a, _⟩ | ⟨_, a, b, c, d⟩ | ⟨a, _⟩)
      · omega
      · exact ⟨a, b, c, d⟩
      · omega
    · rintro ⟨a, b, c, d⟩
      exact .inr (.inl ⟨k, a, b, c, d⟩)
  have HC2 : Hid (kd = 2 → (C ↔ (bi = true ∧ o = false ∧ M ∧ bf.size ≤ 8000))) := fun k => by
    rw [HC.out, HBI.out]
    constructor
    · rintro (⟨a, _⟩ | ⟨a, _⟩ | ⟨_, a, b, c, d, e⟩)
      · omega
      · omega
      · exact ⟨⟨a, b⟩, c, d, e⟩
    · rintro ⟨⟨a, b⟩, c, d, e⟩
      exact .inr (.inr ⟨k, a, b, c, d, e⟩)
  have HCN : Hid (¬ kd = 0 → ¬ kd = 1 → ¬ kd = 2 → ¬ C) := fun k0 k1 k2 y => by
    rcases HC.out.1 y with ⟨a, _⟩ | ⟨a, _⟩ | ⟨a, _⟩
    · exact k0 a
    · exact k1 a
    · exact k2 a
  have HBW : Hid (∀ W, Below w0.heap.size w0 W → Below w.heap.size w W) := fun W hW => HB0.out.trans (hW.mono HB0.out.size)
  clear HC HBI HZ
  obtain ⟨sb, hsb⟩ : ∃ sb, sb = decide ((bf.size : Int) ≤ 8000) := ⟨_, rfl⟩
  have hds : decide ((bf.size : Int) ≤ 8000) = sb := hsb.symm
  have HSB : Hid (sb = true ↔ bf.size ≤ 8000) := (show _ ↔ _ by rw [hsb, decide_eq_true_iff]; omega)
  clear hsb
  have L1 := HLT.out wc HB1.out
  have c0 := L1.c 0
  have c1 := L1.c 1
  have c2 := L1.c 2
  have c3 := L1.c 3
  have c4 := L1.c 4
  have c5 := L1.c 5
  simp only [cells] at c0 c1 c2 c3 c4 c5
  clear L1
  by_cases k0 : kd = 0
  · have HX := HC0.out k0
    have HXH : Hid (C ↔ (bi = true ∧ Z = true ∧ bf.size = 0)) := HX
    subst k0
    clear HX HC0 HC1 HC2 HCN HFI HNO
    by_cases e0 : bf.size = 0
    · have ee := im.empty_list e0
      have HE : Hid (bf.size = 0) := e0
      clear e0
      cases bi <;> cases Z
      · go_wp2
        go_ret
        exact ⟨ow.says_no (fun y => by have := (HXH.out.1 y).1; cases this), HBW.out _ HB1.out⟩
      · go_wp2
        go_ret
        exact ⟨ow.says_no (fun y => by have := (HXH.out.1 y).1; cases this), HBW.out _ HB1.out⟩
      · go_wp2
        go_ret
        exact ⟨ow.says_no (fun y => by have := (HXH.out.1 y).2.1; cases this), HBW.out _ HB1.out⟩
      · go_wp2
        go_ret
        exact ⟨ow.says_yes (HXH.out.2 ⟨by trivial, by trivial, HE.out⟩), HBW.out _ HB1.out⟩
    · have ee := im.full_list e0
      have HE : Hid (¬ bf.size = 0) := e0
      clear e0
      cases bi <;> cases Z
      all_goals
        go_wp2
        go_ret
        exact ⟨ow.says_no (fun y => HE.out (HXH.out.1 y).2.2), HBW.out _ HB1.out⟩
  have q0 : (kd == 0) = false := beq_eq_false_iff_ne.2 k0
  by_cases k1 : kd = 1
  · have HX := HC1.out k1
    have HXH : Hid (C ↔ (¬ st = 0 ∧ F ∧ Z = true ∧ bf.size ≤ 8000)) := HX
    subst k1
    clear HX HC0 HC1 HC2 HCN HNO q0 k0
    by_cases s0 : st = 0
    · subst s0
      go_wp2
      go_ret
      exact ⟨ow.says_no (fun y => (HXH.out.1 y).1 (by trivial)), HBW.out _ HB1.out⟩
    · have qs : (st != 0) = true := bne_iff_ne.2 s0
      have HS0 : Hid (¬ st = 0) := s0
      clear s0
      go_wp2_with fail
      refine (HFI.out wc (HBW.out _ HB1.out)).mono ?_
      rintro e w1 ⟨⟨bf', rfl, hbf⟩, b1⟩
      have HF : Hid (bf' = true ↔ F) := hbf
      have HB2 : Hid (Below w.heap.size w w1) := (HBW.out _ HB1.out).trans (b1.mono (HBW.out _ HB1.out).size)
      clear hbf b1 HFI
      have HS : Hid (SB C bf' Z sb) := sb_of (by
        rw [HXH.out, HF.out, HSB.out]
        exact ⟨fun y => y.2, fun y => ⟨HS0.out, y⟩⟩)
      cases bf' <;> cases Z <;> cases sb
      all_goals
        go_wp2
        go_ret
        exact ⟨HS.out, HB2.out⟩
  have q1 : (kd == 1) = false := beq_eq_false_iff_ne.2 k1
  by_cases k2 : kd = 2
  · have HX := HC2.out k2
    have HXH : Hid (C ↔ (bi = true ∧ o = false ∧ M ∧ bf.size ≤ 8000)) := HX
    subst k2
    clear HX HC0 HC1 HC2 HCN HFI q0 q1 k0 k1
    cases bi
    · go_wp2
      go_ret
      exact ⟨ow.says_no (fun y => by have := (HXH.out.1 y).1; cases this), HBW.out _ HB1.out⟩
    cases o
    rotate_left
    · go_wp2
      go_ret
      exact ⟨ow.says_no (fun y => by have := (HXH.out.1 y).2.1; cases this), HBW.out _ HB1.out⟩
    go_wp2_with fail
    refine (HNO.out wc).mono ?_
    rintro e w1 ⟨⟨bm, rfl, hbm⟩, b1⟩
    have HM : Hid (bm = true ↔ M) := hbm
    have HB2 : Hid (Below w.heap.size w w1) := (HBW.out _ HB1.out).trans (b1.mono (HBW.out _ HB1.out).size)
    clear hbm b1 HNO
    have HS : Hid (SB C bm true sb) := sb_of (by
      rw [HXH.out, HM.out, HSB.out]
      exact ⟨fun y => ⟨y.2.2.1, rfl, y.2.2.2⟩, fun y => ⟨by trivial, by trivial, y.1, y.2.2⟩⟩)
    cases bm <;> cases sb
    all_goals
      go_wp2
      go_ret
      exact ⟨HS.out, HB2.out⟩
  have q2 : (kd == 2) = false := beq_eq_false_iff_ne.2 k2
  have HN : Hid (¬ C) := HCN.out k0 k1 k2
  clear HC0 HC1 HC2 HCN k0 k1 k2 HFI HNO
  go_wp2
  go_ret
  exact ⟨ow.says_no HN.out, HBW.out _ HB1.out⟩
end Go.Proofs.YtncnbhekgkemfaaGreatDoor.cn
