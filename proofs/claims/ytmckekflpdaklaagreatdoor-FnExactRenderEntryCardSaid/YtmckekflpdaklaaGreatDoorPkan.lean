/-
  Contracts of both HeaderNameOK functions: whether a text is a field's name.
  Contracts of both FoldHeader functions: a field in lines.
-/
import Derived.Test.YtmckekflpdaklaaGreatDoorRows
import Derived.WalkKit
import Derived.WalkLawsBesides
import Derived.Test.YtmckekflpdaklaaGreatDoorPkam
import Derived.Test.YtmckekflpdaklaaGreatDoorPkag
import Derived.Test.YtmckekflpdaklaaGreatDoorPkai
import Derived.Test.YtmckekflpdaklaaGreatDoorPkad
import Derived.Test.YtmckekflpdaklaaGreatDoorPkah

namespace Go.Proofs.YtmckekflpdaklaaGreatDoor.hn
open Go.RowKit
set_option linter.unusedVariables false

def Says (p : Prop) (e : Ending) : Prop := ∃ b : Bool, e = .returned (.bool b) ∧ (b = true ↔ p)
theorem says_no {p : Prop} (h : ¬ p) : Says p (.returned (.bool false)) := ⟨false, rfl, fun x => (by cases x), fun x => absurd x h⟩
theorem says_yes {p : Prop} (h : p) : Says p (.returned (.bool true)) := ⟨true, rfl, fun _ => h, fun _ => rfl⟩
theorem says_ex {p : Prop} {e : Ending} (h : Says p e) : ∃ b : Bool, e = .returned (.bool b) := ⟨h.choose, h.choose_spec.1⟩
theorem says_same {p : Prop} {a b : Bool} (h1 : Says p (.returned (.bool a))) (h2 : Says p (.returned (.bool b))) : a = b := by
  obtain ⟨x, hx, h1⟩ := h1
  obtain ⟨y, hy, h2⟩ := h2
  cases hx; cases hy
  exact Bool.eq_iff_iff.2 (h1.trans h2.symm)
theorem says_iff {p : Prop} {b : Bool} (h : Says p (.returned (.bool b))) : b = true ↔ p := by
  obtain ⟨x, hx, h⟩ := h
  cases hx
  exact h

/-- The byte at a place may stand in a field's name. -/
def good (s : ByteArray) (j : Nat) : Prop := ∃ h : j < s.size, 33 ≤ ((s[j]'h).toNat : Int) ∧ ((s[j]'h).toNat : Int) ≤ 126 ∧ ((s[j]'h).toNat : Int) ≠ 58
/-- A text is a field's name. -/
def IsName (s : ByteArray) : Prop := 1 ≤ s.size ∧ s.size ≤ 40 ∧ ∀ j, j < s.size → good s j
theorem not_name {s : ByteArray} {k : Nat} (h : k < s.size) (hb : ((s[k]'h).toNat : Int) < 33 ∨ 126 < ((s[k]'h).toNat : Int) ∨ ((s[k]'h).toNat : Int) = 58) : ¬ IsName s := by
  rintro ⟨_, _, hg⟩
  obtain ⟨h', h1, h2, h3⟩ := hg k h
  omega
theorem no_size {s : ByteArray} (h : s.size = 0 ∨ 40 < s.size) : ¬ IsName s := fun x => by have h1 := x.1; have h2 := x.2.1; omega
theorem step {s : ByteArray} {k : Nat} (hg : ∀ j, j < k → good s j) (h : k < s.size) (hx : 33 ≤ ((s[k]'h).toNat : Int)) (hx2 : ((s[k]'h).toNat : Int) ≤ 126) (hx3 : ((s[k]'h).toNat : Int) ≠ 58) : ∀ j, j < k + 1 → good s j := by
  intro j hj
  by_cases e : j = k
  · subst e; exact ⟨h, hx, hx2, hx3⟩
  · exact hg j (by omega)

set_option maxHeartbeats 1000000 in
theorem impl_any (s : ByteArray) (w : World) (hs : s.size ≤ maxLen) :
    Calls Tryz.prog 96 #[.string s] w fun e w' => Says (IsName s) e ∧ w' = w := by
  unfold maxLen at hs
  by_cases h0 : s.size = 0
  · have b0 : ((s.size : Int) == 0) = true := beq_iff_eq.2 (by omega)
    go_enter Tryz.func96, Tryz.ntmps96
    go_wp2
    go_ret
    exact ⟨says_no (no_size (.inl h0)), rfl⟩
  have b0 : ((s.size : Int) == 0) = false := beq_eq_false_iff_ne.2 (by omega)
  by_cases h4 : 40 < s.size
  · have h4' : (40 : Int) < (s.size : Int) := by omega
    go_enter Tryz.func96, Tryz.ntmps96
    go_wp2
    go_ret
    exact ⟨says_no (no_size (.inr h4)), rfl⟩
  have h4' : (s.size : Int) ≤ 40 := by omega
  go_enter Tryz.func96, Tryz.ntmps96
  go_wp2
  go_loop [14] (fun i => ∃ k : Nat, k ≤ s.size ∧ i = .int .i64 k ∧ ∀ j, j < k → good s j) (fun i => s.size - (intOf i).toNat)
  case atStart => exact ⟨0, Nat.zero_le _, rfl, fun j hj => absurd hj (Nat.not_lt_zero _)⟩
  case round =>
    obtain ⟨k, hk, rfl, hg⟩ := hrel
    have HG : Hid (∀ j, j < k → good s j) := hg
    clear hg
    by_cases hlt : k < s.size
    · by_cases c1 : ((s[k]'hlt).toNat : Int) ≤ 32
      · go_wp2
        go_ret
        exact ⟨says_no (not_name hlt (by omega)), rfl⟩
      by_cases c2 : 126 < ((s[k]'hlt).toNat : Int)
      · have d1 : decide (((s[k]'hlt).toNat : Int) ≤ 32) = false := decide_eq_false c1
        go_wp2
        go_ret
        exact ⟨says_no (not_name hlt (by omega)), rfl⟩
      by_cases c3 : ((s[k]'hlt).toNat : Int) = 58
      · have d1 : decide (((s[k]'hlt).toNat : Int) ≤ 32) = false := decide_eq_false c1
        have d2 : decide (126 < ((s[k]'hlt).toNat : Int)) = false := decide_eq_false c2
        have d3 : (((s[k]'hlt).toNat : Int) == 58) = true := beq_iff_eq.2 c3
        have HC : Hid (((s[k]'hlt).toNat : Int) = 58) := c3
        clear c3
        go_wp2
        go_ret
        exact ⟨says_no (not_name hlt (.inr (.inr HC.out))), rfl⟩
      · have d1 : decide (((s[k]'hlt).toNat : Int) ≤ 32) = false := decide_eq_false c1
        have d2 : decide (126 < ((s[k]'hlt).toNat : Int)) = false := decide_eq_false c2
        have d3 : (((s[k]'hlt).toNat : Int) == 58) = false := beq_eq_false_iff_ne.2 c3
        have c1' : 33 ≤ ((s[k]'hlt).toNat : Int) := by omega
        have c2' : ((s[k]'hlt).toNat : Int) ≤ 126 := by omega
        go_wp2
        go_round
        case rel => exact ⟨k + 1, by omega, by go_num, step HG.out hlt c1' c2' c3⟩
        case measure => simp [intOf]; omega
    · go_wp2
      go_ret
      exact ⟨says_yes ⟨by omega, by omega, fun j hj => HG.out j (by omega)⟩, rfl⟩

def inB (n a b : Int) : Bool := decide (a ≤ n ∧ n ≤ b)
set_option maxHeartbeats 400000 in
theorem in_any (n a b : Int) (w : World) : Calls Tryz.prog 29 #[.int .i64 n, .int .i64 a, .int .i64 b] w fun e w' => e = .returned (.bool (inB n a b)) ∧ w' = w := by
  by_cases h : a ≤ n
  · go_enter Tryz.func29, Tryz.ntmps29
    go_wp2
    all_goals (go_ret; exact ⟨by simp [inB, h], rfl⟩)
  · have h' : decide (a ≤ n) = false := decide_eq_false h
    go_enter Tryz.func29, Tryz.ntmps29
    go_wp2
    all_goals (go_ret; exact ⟨by rw [show inB n a b = false from decide_eq_false (by omega)]; rfl, rfl⟩)
theorem in_yes {n a b : Int} (h : a ≤ n) (h' : n ≤ b) : inB n a b = true := decide_eq_true ⟨h, h'⟩
theorem in_no {n a b : Int} (h : n < a ∨ b < n) : inB n a b = false := decide_eq_false (by omega)

set_option maxHeartbeats 1000000 in
theorem spec_any (s : ByteArray) (w : World) (hs : s.size ≤ maxLen) :
    Calls Tryz.prog 142 #[.string s] w fun e w' => Says (IsName s) e ∧ w' = w := by
  unfold maxLen at hs
  by_cases h9 : 65536 < s.size
  · have b9 : (65536 : Int) < (s.size : Int) := by omega
    go_enter Tryz.func142, Tryz.ntmps142
    go_wp2
    go_ret
    exact ⟨says_no (no_size (.inr (by omega))), rfl⟩
  have b9 : (s.size : Int) ≤ 65536 := by omega
  by_cases h1 : s.size = 0 ∨ 40 < s.size
  · have b1 : inB (s.size : Int) 1 40 = false := in_no (by omega)
    go_enter Tryz.func142, Tryz.ntmps142
    go_wp2_with (go_at_call 29; refine (in_any _ _ _ _).mono ?_; rintro e w' ⟨rfl, rfl⟩)
    go_ret
    exact ⟨says_no (no_size h1), rfl⟩
  have b1 : inB (s.size : Int) 1 40 = true := in_yes (by omega) (by omega)
  go_enter Tryz.func142, Tryz.ntmps142
  go_wp2_with (go_at_call 29; refine (in_any _ _ _ _).mono ?_; rintro e w' ⟨rfl, rfl⟩)
  go_loop [3] (fun i => ∃ k : Nat, k ≤ s.size ∧ i = .int .i64 k ∧ ∀ j, j < k → good s j) (fun i => s.size - (intOf i).toNat)
  case atStart => exact ⟨0, Nat.zero_le _, rfl, fun j hj => absurd hj (Nat.not_lt_zero _)⟩
  case round =>
    obtain ⟨k, hk, rfl, hg⟩ := hrel
    have HG : Hid (∀ j, j < k → good s j) := hg
    clear hg
    by_cases hlt : k < s.size
    · have u : ((s[k]'hlt).toNat : Int) ≤ 255 := by have := (s[k]'hlt).toNat_lt; omega
      by_cases c1 : ((s[k]'hlt).toNat : Int) < 33 ∨ 126 < ((s[k]'hlt).toNat : Int)
      · have b2 : inB ((s[k]'hlt).toNat : Int) 33 126 = false := in_no c1
        have HC : Hid (((s[k]'hlt).toNat : Int) < 33 ∨ 126 < ((s[k]'hlt).toNat : Int)) := c1
        clear c1
        go_wp2_with (go_at_call 29; refine (in_any _ _ _ _).mono ?_; rintro e w' ⟨rfl, rfl⟩)
        go_ret
        exact ⟨says_no (not_name hlt (by have := HC.out; omega)), rfl⟩
      have b2 : inB ((s[k]'hlt).toNat : Int) 33 126 = true := in_yes (by omega) (by omega)
      have c1' : 33 ≤ ((s[k]'hlt).toNat : Int) := by omega
      have c2' : ((s[k]'hlt).toNat : Int) ≤ 126 := by omega
      clear c1
      by_cases c3 : ((s[k]'hlt).toNat : Int) = 58
      · have d3 : (((s[k]'hlt).toNat : Int) == 58) = true := beq_iff_eq.2 c3
        have HC : Hid (((s[k]'hlt).toNat : Int) = 58) := c3
        clear c3
        go_wp2_with (go_at_call 29; refine (in_any _ _ _ _).mono ?_; rintro e w' ⟨rfl, rfl⟩)
        go_ret
        exact ⟨says_no (not_name hlt (.inr (.inr HC.out))), rfl⟩
      · have d3 : (((s[k]'hlt).toNat : Int) == 58) = false := beq_eq_false_iff_ne.2 c3
        go_wp2_with (go_at_call 29; refine (in_any _ _ _ _).mono ?_; rintro e w' ⟨rfl, rfl⟩)
        go_round
        case rel => exact ⟨k + 1, by omega, by go_num, step HG.out hlt c1' c2' c3⟩
        case measure => simp [intOf]; omega
    · go_wp2
      go_ret
      exact ⟨says_yes ⟨by omega, by omega, fun j hj => HG.out j (by omega)⟩, rfl⟩
end Go.Proofs.YtmckekflpdaklaaGreatDoor.hn

namespace Go.Proofs.YtmckekflpdaklaaGreatDoor.hf
open Go.RowKit
open Go.Proofs.YtmckekflpdaklaaGreatDoor.hd (cutGo foldGo foldL words tv Safe)
set_option linter.unusedVariables false

theorem row_at {w : World} {base n : Nat} {v : Value} {ws : List (List UInt8)} (h : w.ownsRow base 9 1 v n (ws.map tv)) (k : Nat) (hk : k < n) : ∃ g cap x, v = .slice (some ⟨g, 0, none⟩) n cap ∧ n ≤ cap ∧ ws[k]? = some x := by
  have hl : ws.length = n := by have := h.1; simpa using this
  rcases h.2 with ⟨_, h0⟩ | ⟨g, cap, cur, hv, _, _, hc, _⟩
  · omega
  · exact ⟨g, cap, ws[k]'(by omega), hv, hc, List.getElem?_eq_getElem (by omega)⟩
theorem row_cell {w : World} {base n g cap : Nat} {ws : List (List UInt8)} {x : List UInt8} (h : w.ownsRow base 9 1 (.slice (some ⟨g, 0, none⟩) n cap) n (ws.map tv)) (k : Nat) (hk : ws[k]? = some x) : w.cell? ⟨g, k, none⟩ = some (.string ⟨x.toArray⟩) := by
  have := h.cells (g := g) rfl k (tv x) (by rw [List.getElem?_map, hk]; rfl)
  rwa [ow.add_at] at this
theorem step_yes {ws : List (List UInt8)} {k wd : Nat} {x out tot : List UInt8} (hk : ws[k]? = some x) (h0 : k ≠ 0) (h : 78 < wd + 1 + x.length) (H : out ++ foldGo (decide (k = 0)) wd (ws.drop k) = tot) : (out ++ [13, 10] ++ ([32] ++ x)) ++ foldGo (decide (k + 1 = 0)) (0 + (1 + x.length)) (ws.drop (k + 1)) = tot := by
  rw [Lib.drop_at hk, show decide (k = 0) = false from decide_eq_false h0, hd.foldGo_yes _ h] at H
  rw [← H, Nat.zero_add]
  simp
theorem step_no {ws : List (List UInt8)} {k wd : Nat} {x out tot : List UInt8} (hk : ws[k]? = some x) (h : k = 0 ∨ wd + 1 + x.length ≤ 78) (H : out ++ foldGo (decide (k = 0)) wd (ws.drop k) = tot) : (out ++ ([32] ++ x)) ++ foldGo (decide (k + 1 = 0)) (wd + (1 + x.length)) (ws.drop (k + 1)) = tot := by
  rw [Lib.drop_at hk, hd.foldGo_no _ (h.imp (fun e => decide_eq_true e) id)] at H
  rw [← H, ← Nat.add_assoc]
  simp
theorem step_end {ws : List (List UInt8)} {k wd : Nat} {f : Bool} {out tot : List UInt8} (hk : ws.length ≤ k) (H : out ++ foldGo f wd (ws.drop k) = tot) : out = tot := by
  rw [List.drop_eq_nil_of_le hk] at H
  simpa [foldGo] using H

set_option maxHeartbeats 4000000 in
set_option maxRecDepth 100000 in
theorem specFold_any (nm s : ByteArray) (w : World) (hm : nm.size ≤ 40) (hs : s.size ≤ 2000) :
    Calls Tryz.prog 32 #[.string nm, .string s] w fun e w' => (∃ r : ByteArray, e = .returned (.string r) ∧ r.data.toList = foldL nm.data.toList s.data.toList) ∧ Below w.heap.size w w' := by
  have hcl := hd.cutGo_len s.data.toList []
  rw [← Lib.size_eq] at hcl
  have HX : Hid (∀ x ∈ cutGo [] s.data.toList, x.length ≤ 2000) := fun x hx => by
    have := hd.cutGo_mem _ _ _ hx
    rw [← Lib.size_eq] at this
    simp at this
    omega
  have hm' : (nm.size : Int) ≤ 40 := by omega
  go_enter Tryz.func32, Tryz.ntmps32
  go_wp2_with fail
  refine (hd.cut_any s _ (by omega)).mono ?_
  rintro e w1 ⟨v, rfl, own, hb1⟩
  obtain ⟨ws, hws⟩ : ∃ ws, ws = cutGo [] s.data.toList := ⟨_, rfl⟩
  rw [← hws] at own hcl HX
  have HW : Hid (ws = cutGo [] s.data.toList) := hws
  clear hws
  obtain ⟨n, hn⟩ : ∃ n, n = ws.length := ⟨_, rfl⟩
  have hn2 : n ≤ 2001 := by simp at hcl; omega
  rw [← hn] at own
  have HN : Hid (n = ws.length) := hn
  clear hn hcl
  obtain ⟨ao, cap, rfl⟩ : ∃ ao cap, v = .slice ao n cap := by
    rcases own.2 with ⟨hv, h0⟩ | ⟨g, cap, cur, hv, _⟩
    · exact ⟨none, 0, by rw [hv, h0]⟩
    · exact ⟨_, cap, hv⟩
  obtain ⟨tot, htot⟩ : ∃ tot, tot = nm.data.toList ++ [58] ++ foldGo true (nm.data.toList.length + 1) ws := ⟨_, rfl⟩
  have HTOT : Hid (tot = nm.data.toList ++ [58] ++ foldGo true (nm.data.toList.length + 1) ws) := htot
  clear htot
  go_wp2
  go_loopw [5, 6, 8] (fun o b i wr => ∃ (k wd : Nat) (out : ByteArray), k ≤ n ∧ i = .int .i64 k ∧ o = .string out ∧ b = .int .i64 wd ∧ wd ≤ 41 + k * 2001 ∧ out.size ≤ 41 + k * 2003 ∧ wr.ownsRow w.heap.size 9 1 (.slice ao n cap) n (ws.map tv) ∧ Below w.heap.size w wr ∧ Hid (out.data.toList ++ foldGo (decide (k = 0)) wd (ws.drop k) = tot)) (fun _ _ i _ => n - (intOf i).toNat)
  case atStart =>
    refine ⟨0, nm.size + 1, nm ++ { data := #[58] }, Nat.zero_le _, rfl, rfl, by go_num, by omega, by rw [ByteArray.size_append]; show _ + 1 ≤ _; omega, own, hb1, ?_⟩
    rw [HTOT.out, Lib.size_eq]
    simp
    exact (trivial : True)
  case round =>
    obtain ⟨k, wd, out, hk, rfl, rfl, rfl, hwd, ho, hown, hbw, HD⟩ := hrel
    by_cases hlt : k < n
    · obtain ⟨g, cap', x, hv, hnc, hx⟩ := row_at hown k hlt
      cases hv
      have hc0 := row_cell hown k hx
      have hxl : x.length ≤ 2000 := HX.out x (List.mem_of_getElem? hx)
      have hlt' : (k : Int) < (n : Int) := by omega
      obtain ⟨X, hX⟩ : ∃ X : ByteArray, X = ⟨x.toArray⟩ := ⟨_, rfl⟩
      have hXz : X.size = x.length := by rw [hX, Lib.size_eq]
      have hXs : X.size ≤ 2000 := by omega
      have hXs' : (X.size : Int) ≤ 2000 := by omega
      have hXl : X.data.toList = x := by rw [hX]
      rw [← hX] at hc0
      have HXL : Hid (X.data.toList = x ∧ X.size = x.length) := ⟨hXl, hXz⟩
      have HK : Hid (ws[k]? = some x) := hx
      clear hX hXl hx hXz
      have hos : (out.size : Int) ≤ 5000000 := by omega
      have hwd' : (wd : Int) ≤ 5000000 := by omega
      by_cases hk0 : k = 0
      · have d0 : decide (0 < k) = false := decide_eq_false (by omega)
        have d1 : decide ((0 : Int) < (k : Int)) = false := decide_eq_false (by omega)
        have HK0 : Hid (k = 0) := hk0
        clear hk0
        go_wp2
        go_roundw
        case rel =>
          refine ⟨k + 1, wd + (1 + X.size), out ++ ({ data := #[32] } ++ X), by omega, by go_num, rfl, by go_num, by omega, by rw [ByteArray.size_append, ByteArray.size_append]; show _ + (1 + _) ≤ _; omega, hown, hbw, ?_⟩
          have := step_no HK.out (.inl HK0.out) HD.out
          rw [HXL.out.2, ← this, ← HXL.out.1]
          simp
          exact (trivial : True)
        case measure => simp [intOf]; omega
      have d0 : decide (0 < k) = true := decide_eq_true (by omega)
      have d1 : (0 : Int) < (k : Int) := by omega
      by_cases hf : 78 < wd + 1 + X.size
      · have f1 : (78 : Int) < (wd : Int) + 1 + (X.size : Int) := by omega
        go_wp2
        go_roundw
        case rel =>
          refine ⟨k + 1, 0 + (1 + X.size), out ++ { data := #[13, 10] } ++ ({ data := #[32] } ++ X), by omega, by go_num, rfl, by go_num, by omega, by rw [ByteArray.size_append, ByteArray.size_append, ByteArray.size_append]; show _ + 2 + (1 + _) ≤ _; omega, hown, hbw, ?_⟩
          have := step_yes HK.out hk0 (by rw [← HXL.out.2]; exact hf) HD.out
          rw [HXL.out.2, ← this, ← HXL.out.1]
          simp
          exact (trivial : True)
        case measure => simp [intOf]; omega
      · have f1 : (wd : Int) + 1 + (X.size : Int) ≤ 78 := by omega
        go_wp2
        go_roundw
        case rel =>
          refine ⟨k + 1, wd + (1 + X.size), out ++ ({ data := #[32] } ++ X), by omega, by go_num, rfl, by go_num, by omega, by rw [ByteArray.size_append, ByteArray.size_append]; show _ + (1 + _) ≤ _; omega, hown, hbw, ?_⟩
          have := step_no HK.out (.inr (by rw [← HXL.out.2]; omega)) HD.out
          rw [HXL.out.2, ← this, ← HXL.out.1]
          simp
          exact (trivial : True)
        case measure => simp [intOf]; omega
    · have hge : (n : Int) ≤ (k : Int) := by omega
      have hos : (out.size : Int) ≤ 5000000 := by omega
      go_wp2
      go_ret
      refine ⟨⟨out ++ { data := #[13, 10] }, rfl, ?_⟩, hbw⟩
      have := step_end (by have := HN.out; omega) HD.out
      unfold foldL
      rw [← HW.out, ← HTOT.out, ← this]
      simp
end Go.Proofs.YtmckekflpdaklaaGreatDoor.hf
