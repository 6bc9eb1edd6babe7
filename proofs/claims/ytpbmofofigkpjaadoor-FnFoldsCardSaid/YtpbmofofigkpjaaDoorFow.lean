/-
  Contracts of both FoldHeader functions: a field in lines.
-/
import Derived.Test.YtpbmofofigkpjaaDoorOmk
import Derived.Test.YtpbmofofigkpjaaDoorCtl
import Derived.Test.YtpbmofofigkpjaaDoorSvw
import Derived.Test.YtpbmofofigkpjaaDoorHdw
import Derived.Test.YtpbmofofigkpjaaDoorTab
import Derived.Test.YtpbmofofigkpjaaDoorShf
import Derived.Test.YtpbmofofigkpjaaDoorBld
namespace Go.Proofs.YtpbmofofigkpjaaDoor.hf
open Go.RowKit
open Go.Proofs.YtpbmofofigkpjaaDoor.hd (cutGo foldGo foldL words tv Safe)
set_option linter.unusedVariables false

theorem row_at {w : World} {base n : Nat} {v : Value} {ws : List (List UInt8)} (h : w.ownsRow base 9 1 v n (ws.map tv)) (k : Nat) (hk : k < n) : ∃ g cap x, v = .slice (some ⟨g, 0, none⟩) n cap ∧ n ≤ cap ∧ ws[k]? = some x := by
  have hl : ws.length = n := by have := h.1; simpa using this
  rcases h.2 with ⟨_, h0⟩ | ⟨g, cap, cur, hv, _, _, hc, _⟩
  · omega
  · exact ⟨g, cap, ws[k]'(by omega), hv, hc, List.getElem?_eq_getElem (by omega)⟩
theorem row_cell {w : World} {base n g cap : Nat} {ws : List (List UInt8)} {x : List UInt8} (h : w.ownsRow base 9 1 (.slice (some ⟨g, 0, none⟩) n cap) n (ws.map tv)) (k : Nat) (hk : ws[k]? = some x) : w.cell? ⟨g, k, none⟩ = some (.string ⟨x.toArray⟩) := by
  have := h.cells (g := g) rfl k (tv x) (by rw [List.getElem?_map, hk]; rfl)
  rwa [ow.add_at] at this
theorem step_yes {ws : List (List UInt8)} {k wd : Nat} {x out tot : List UInt8} (hk : ws[k]? = some x) (h0 : k ≠ 0) (h : 78 < wd + 1 + x.length) (H : out ++ foldGo (decide (k = 0)) wd (ws.drop k) = tot) : (out ++ [13, 10] ++ ([32] ++ x)) ++ foldGo (decide (k + 1 = 0)) (0 + (1 + x.length)) (ws.drop (k + 1)) = tot := by
  rw [Lib.drop_at hk, show decide (k = 0) = false from decide_eq_false h0, hd.foldGo_yes _ h] at H
  rw [← H, Nat.zero_add]
  simp
theorem step_no {ws : List (List UInt8)} {k wd : Nat} {x out tot : List UInt8} (hk : ws[k]? = some x) (h : k = 0 ∨ wd + 1 + x.length ≤ 78) (H : out ++ foldGo (decide (k = 0)) wd (ws.drop k) = tot) : (out ++ ([32] ++ x)) ++ foldGo (decide (k + 1 = 0)) (wd + (1 + x.length)) (ws.drop (k + 1)) = tot := by
  rw [Lib.drop_at hk, hd.foldGo_no _ (h.imp (fun e => decide_eq_true e) id)] at H
  rw [← H, ← Nat.add_assoc]
  simp
theorem step_end {ws : List (List UInt8)} {k wd : Nat} {f : Bool} {out tot : List UInt8} (hk : ws.length ≤ k) (H : out ++ foldGo f wd (ws.drop k) = tot) : out = tot := by
  rw [List.drop_eq_nil_of_le hk] at H
  simpa [foldGo] using H

set_option maxHeartbeats 4000000 in
set_option maxRecDepth 100000 in
theorem specFold_any (nm s : ByteArray) (w : World) (hm : nm.size ≤ 40) (hs : s.size ≤ 2000) :
    Calls Tryd.prog 48 #[.string nm, .string s] w fun e w' => (∃ r : ByteArray, e = .returned (.string r) ∧ r.data.toList = foldL nm.data.toList s.data.toList) ∧ Below w.heap.size w w' := by
  have hcl := hd.cutGo_len s.data.toList []
  rw [← Lib.size_eq] at hcl
  have HX : Hid (∀ x ∈ cutGo [] s.data.toList, x.length ≤ 2000) := fun x hx => by
    have := hd.cutGo_mem _ _ _ hx
    rw [← Lib.size_eq] at this
    simp at this
    omega
  have hm' : (nm.size : Int) ≤ 40 := by omega
  go_enter Tryd.func48, Tryd.ntmps48
  go_wp2_with fail
  refine (hd.cut_any s _ (by omega)).mono ?_
  rintro e w1 ⟨v, rfl, own, hb1⟩
  obtain ⟨ws, hws⟩ : ∃ ws, ws = cutGo [] s.data.toList := ⟨_, rfl⟩
  rw [← hws] at own hcl HX
  have HW : Hid (ws = cutGo [] s.data.toList) := hws
  clear hws
  obtain ⟨n, hn⟩ : ∃ n, n = ws.length := ⟨_, rfl⟩
  have hn2 : n ≤ 2001 := by simp at hcl; omega
  rw [← hn] at own
  have HN : Hid (n = ws.length) := hn
  clear hn hcl
  obtain ⟨ao, cap, rfl⟩ : ∃ ao cap, v = .slice ao n cap := by
    rcases own.2 with ⟨hv, h0⟩ | ⟨g, cap, cur, hv, _⟩
    · exact ⟨none, 0, by rw [hv, h0]⟩
    · exact ⟨_, cap, hv⟩
  obtain ⟨tot, htot⟩ : ∃ tot, tot = nm.data.toList ++ [58] ++ foldGo true (nm.data.toList.length + 1) ws := ⟨_, rfl⟩
  have HTOT : Hid (tot = nm.data.toList ++ [58] ++ foldGo true (nm.data.toList.length + 1) ws) := htot
  clear htot
  go_wp2
  go_loopw [5, 6, 8] (fun o b i wr => ∃ (k wd : Nat) (out : ByteArray), k ≤ n ∧ i = .int .i64 k ∧ o = .string out ∧ b = .int .i64 wd ∧ wd ≤ 41 + k * 2001 ∧ out.size ≤ 41 + k * 2003 ∧ wr.ownsRow w.heap.size 9 1 (.slice ao n cap) n (ws.map tv) ∧ Below w.heap.size w wr ∧ Hid (out.data.toList ++ foldGo (decide (k = 0)) wd (ws.drop k) = tot)) (fun _ _ i _ => n - (intOf i).toNat)
  case atStart =>
    refine ⟨0, nm.size + 1, nm ++ { data := #[58] }, Nat.zero_le _, rfl, rfl, by go_num, by omega, by rw [ByteArray.size_append]; show _ + 1 ≤ _; omega, own, hb1, ?_⟩
    rw [HTOT.out, Lib.size_eq]
    simp
    exact (trivial : True)
  case round =>
    obtain ⟨k, wd, out, hk, rfl, rfl, rfl, hwd, ho, hown, hbw, HD⟩ := hrel
    by_cases hlt : k < n
    · obtain ⟨g, cap', x, hv, hnc, hx⟩ := row_at hown k hlt
      cases hv
      have hc0 := row_cell hown k hx
      have hxl : x.length ≤ 2000 := HX.out x (List.mem_of_getElem? hx)
      have hlt' : (k : Int) < (n : Int) := by omega
      obtain ⟨X, hX⟩ : ∃ X : ByteArray, X = ⟨x.toArray⟩ := ⟨_, rfl⟩
      have hXz : X.size = x.length := by rw [hX, Lib.size_eq]
      have hXs : X.size ≤ 2000 := by omega
      have hXs' : (X.size : Int) ≤ 2000 := by omega
      have hXl : X.data.toList = x := by rw [hX]
      rw [← hX] at hc0
      have HXL : Hid (X.data.toList = x ∧ X.size = x.length) := ⟨hXl, hXz⟩
      have HK : Hid (ws[k]? = some x) := hx
      clear hX hXl hx hXz
      have hos : (out.size : Int) ≤ 5000000 := by omega
      have hwd' : (wd : Int) ≤ 5000000 := by omega
      by_cases hk0 : k = 0
      · have d0 : decide (0 < k) = false := decide_eq_false (by omega)
        have d1 : decide ((0 : Int) < (k : Int)) = false := decide_eq_false (by omega)
        have HK0 : Hid (k = 0) := hk0
        clear hk0
        go_wp2
        go_roundw
        case rel =>
          refine ⟨k + 1, wd + (1 + X.size), out ++ ({ data := #[32] } ++ X), by omega, by go_num, rfl, by go_num, by omega, by rw [ByteArray.size_append, ByteArray.size_append]; show _ + (1 + _) ≤ _; omega, hown, hbw, ?_⟩
          have := step_no HK.out (.inl HK0.out) HD.out
          rw [HXL.out.2, ← this, ← HXL.out.1]
          simp
          exact (trivial : True)
        case measure => simp [intOf]; omega
      have d0 : decide (0 < k) = true := decide_eq_true (by omega)
      have d1 : (0 : Int) < (k : Int) := by omega
      by_cases hf : 78 < wd + 1 + X.size
      · have f1 : (78 : Int) < (wd : Int) + 1 + (X.size : Int) := by omega
        go_wp2
        go_roundw
        case rel =>
          refine ⟨k + 1, 0 + (1 + X.size), out ++ { data := #[13, 10] } ++ ({ data := #[32] } ++ X), by omega, by go_num, rfl, by go_num, by omega, by rw [ByteArray.size_append, ByteArray.size_append, ByteArray.size_append]; show _ + 2 + (1 + _) ≤ _; omega, hown, hbw, ?_⟩
          have := step_yes HK.out hk0 (by rw [← HXL.out.2]; exact hf) HD.out
          rw [HXL.out.2, ← this, ← HXL.out.1]
          simp
          exact (trivial : True)
        case measure => simp [intOf]; omega
      · have f1 : (wd : Int) + 1 + (X.size : Int) ≤ 78 := by omega
        go_wp2
        go_roundw
        case rel =>
          refine ⟨k + 1, wd + (1 + X.size), out ++ ({ data := #[32] } ++ X), by omega, by go_num, rfl, by go_num, by omega, by rw [ByteArray.size_append, ByteArray.size_append]; show _ + (1 + _) ≤ _; omega, hown, hbw, ?_⟩
          have := step_no HK.out (.inr (by rw [← HXL.out.2]; omega)) HD.out
          rw [HXL.out.2, ← this, ← HXL.out.1]
          simp
          exact (trivial : True)
        case measure => simp [intOf]; omega
    · have hge : (n : Int) ≤ (k : Int) := by omega
      have hos : (out.size : Int) ≤ 5000000 := by omega
      go_wp2
      go_ret
      refine ⟨⟨out ++ { data := #[13, 10] }, rfl, ?_⟩, hbw⟩
      have := step_end (by have := HN.out; omega) HD.out
      unfold foldL
      rw [← HW.out, ← HTOT.out, ← this]
      simp
end Go.Proofs.YtpbmofofigkpjaaDoor.hf
