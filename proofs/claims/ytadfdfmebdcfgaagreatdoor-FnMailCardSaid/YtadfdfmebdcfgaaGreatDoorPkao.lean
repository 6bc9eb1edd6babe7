/-
  Plain facts on repairing: what is read are runes, what is repaired is right, and what is right stays.
  Contracts of both FoldHeader functions: a field in lines.
  Contracts of both FoldHeader functions, whole.
  Plain facts on texts in one line: runs of blanks are one blank, none at an end; such a text stays as it is.
  Contracts of the functions on runes and names of XML: whether a number is a rune of XML, whether a byte begins a name or goes on in one, whether a text is a name; of the program and of the specification.
-/
import Derived.Test.YtadfdfmebdcfgaaGreatDoorPkam
import Derived.Test.YtadfdfmebdcfgaaGreatDoorPkah
import Derived.Test.YtadfdfmebdcfgaaGreatDoorPkal
import Derived.Test.YtadfdfmebdcfgaaGreatDoorPkac
import Derived.Test.YtadfdfmebdcfgaaGreatDoorPkad
import Derived.Test.YtadfdfmebdcfgaaGreatDoorPkaf
import Derived.Test.YtadfdfmebdcfgaaGreatDoorPkab
import Derived.Test.YtadfdfmebdcfgaaGreatDoorPkae
import Derived.Test.YtadfdfmebdcfgaaGreatDoorRows
import Derived.WalkKit
import Derived.WalkLawsBesides

namespace Go.Proofs.YtadfdfmebdcfgaaGreatDoor.ut
open Go.RowKit
set_option linter.unusedVariables false

theorem F_sc (n k b0 b1 b2 b3 : Nat) : scB (((decF n k b0 b1 b2 b3).1 : Nat) : Int) = true := by
  have hs : ∀ c : Nat, Utf8.valid (c : Int) = true → scB (c : Int) = true := by
    intro c h
    rw [valid_nat] at h
    simp [scB, inB]
    omega
  unfold decF
  split
  · simp [scB, inB]; omega
  split
  · split
    · simp only; simp [scB, inB]; omega
    · rfl
  split
  · split
    · rename_i g; simp only [Bool.and_eq_true] at g; exact hs _ g.2
    · rfl
  split
  · split
    · rename_i g; simp only [Bool.and_eq_true] at g; exact hs _ g.2
    · rfl
  · rfl
theorem runesL_sc (s : ByteArray) (n : Nat) : Runes (runesL s n) := by
  induction n with
  | zero => intro r hr; cases hr
  | succ n ih =>
    intro r hr
    rw [runesL] at hr
    rcases List.mem_append.1 hr with h | h
    · exact ih r h
    · rw [List.mem_singleton.1 h, dec_eq]
      exact F_sc _ _ _ _ _ _
theorem fix_flat (s : ByteArray) (n : Nat) (h : pos s n = s.size) : fixL s n = (runesL s n).flatMap encB := by
  have h1 := runes_fix s n (fun m hm => by rw [← h]; exact pos_lt s hm)
  have h2 := flat_runes (runesL s n)
  rw [h2] at h1
  exact h1.symm
theorem fix_right (s : ByteArray) (hr : Right s) (n : Nat) (h : pos s n ≤ s.size) : fixL s n = s.data.toList.take (pos s n) := by
  induction n with
  | zero => simp [fixL, pos]
  | succ n ih =>
    have hup := pos_up s n
    have hlt : pos s n < s.size := by omega
    rw [fixL, ih (by omega), piece_good (hr n hlt), Lib.extract_data, show pos s n + (Utf8.decode s (pos s n)).2 - pos s n = (Utf8.decode s (pos s n)).2 from by omega]
    rw [show pos s (n + 1) = pos s n + (Utf8.decode s (pos s n)).2 from rfl, List.take_add]
end Go.Proofs.YtadfdfmebdcfgaaGreatDoor.ut

namespace Go.Proofs.YtadfdfmebdcfgaaGreatDoor.hf
open Go.RowKit
open Go.Proofs.YtadfdfmebdcfgaaGreatDoor.hd (cutGo foldGo foldL words tv Safe)
set_option linter.unusedVariables false

theorem row_at {w : World} {base n : Nat} {v : Value} {ws : List (List UInt8)} (h : w.ownsRow base 9 1 v n (ws.map tv)) (k : Nat) (hk : k < n) : ∃ g cap x, v = .slice (some ⟨g, 0, none⟩) n cap ∧ n ≤ cap ∧ ws[k]? = some x := by
  have hl : ws.length = n := by have := h.1; simpa using this
  rcases h.2 with ⟨_, h0⟩ | ⟨g, cap, cur, hv, _, _, hc, _⟩
  · omega
  · exact ⟨g, cap, ws[k]'(by omega), hv, hc, List.getElem?_eq_getElem (by omega)⟩
theorem row_cell {w : World} {base n g cap : Nat} {ws : List (List UInt8)} {x : List UInt8} (h : w.ownsRow base 9 1 (.slice (some ⟨g, 0, none⟩) n cap) n (ws.map tv)) (k : Nat) (hk : ws[k]? = some x) : w.cell? ⟨g, k, none⟩ = some (.string ⟨x.toArray⟩) := by
  have := h.cells (g := g) rfl k (tv x) (by rw [List.getElem?_map, hk]; rfl)
  rwa [ow.add_at] at this
theorem step_yes {ws : List (List UInt8)} {k wd : Nat} {x out tot : List UInt8} (hk : ws[k]? = some x) (h0 : k ≠ 0) (h : 78 < wd + 1 + x.length) (H : out ++ foldGo (decide (k = 0)) wd (ws.drop k) = tot) : (out ++ [13, 10] ++ ([32] ++ x)) ++ foldGo (decide (k + 1 = 0)) (0 + (1 + x.length)) (ws.drop (k + 1)) = tot := by
  rw [Lib.drop_at hk, show decide (k = 0) = false from decide_eq_false h0, hd.foldGo_yes _ h] at H
  rw [← H, Nat.zero_add]
  simp
theorem step_no {ws : List (List UInt8)} {k wd : Nat} {x out tot : List UInt8} (hk : ws[k]? = some x) (h : k = 0 ∨ wd + 1 + x.length ≤ 78) (H : out ++ foldGo (decide (k = 0)) wd (ws.drop k) = tot) : (out ++ ([32] ++ x)) ++ foldGo (decide (k + 1 = 0)) (wd + (1 + x.length)) (ws.drop (k + 1)) = tot := by
  rw [Lib.drop_at hk, hd.foldGo_no _ (h.imp (fun e => decide_eq_true e) id)] at H
  rw [← H, ← Nat.add_assoc]
  simp
theorem step_end {ws : List (List UInt8)} {k wd : Nat} {f : Bool} {out tot : List UInt8} (hk : ws.length ≤ k) (H : out ++ foldGo f wd (ws.drop k) = tot) : out = tot := by
  rw [List.drop_eq_nil_of_le hk] at H
  simpa [foldGo] using H

set_option maxHeartbeats 4000000 in
set_option maxRecDepth 100000 in
theorem specFold_any (nm s : ByteArray) (w : World) (hm : nm.size ≤ 40) (hs : s.size ≤ 2000) :
    Calls Tryz.prog 58 #[.string nm, .string s] w fun e w' => (∃ r : ByteArray, e = .returned (.string r) ∧ r.data.toList = foldL nm.data.toList s.data.toList) ∧ Below w.heap.size w w' := by
  have hcl := hd.cutGo_len s.data.toList []
  rw [← Lib.size_eq] at hcl
  have HX : Hid (∀ x ∈ cutGo [] s.data.toList, x.length ≤ 2000) := fun x hx => by
    have := hd.cutGo_mem _ _ _ hx
    rw [← Lib.size_eq] at this
    simp at this
    omega
  have hm' : (nm.size : Int) ≤ 40 := by omega
  go_enter Tryz.func58, Tryz.ntmps58
  go_wp2_with fail
  refine (hd.cut_any s _ (by omega)).mono ?_
  rintro e w1 ⟨v, rfl, own, hb1⟩
  obtain ⟨ws, hws⟩ : ∃ ws, ws = cutGo [] s.data.toList := ⟨_, rfl⟩
  rw [← hws] at own hcl HX
  have HW : Hid (ws = cutGo [] s.data.toList) := hws
  clear hws
  obtain ⟨n, hn⟩ : ∃ n, n = ws.length := ⟨_, rfl⟩
  have hn2 : n ≤ 2001 := by simp at hcl; omega
  rw [← hn] at own
  have HN : Hid (n = ws.length) := hn
  clear hn hcl
  obtain ⟨ao, cap, rfl⟩ : ∃ ao cap, v = .slice ao n cap := by
    rcases own.2 with ⟨hv, h0⟩ | ⟨g, cap, cur, hv, _⟩
    · exact ⟨none, 0, by rw [hv, h0]⟩
    · exact ⟨_, cap, hv⟩
  obtain ⟨tot, htot⟩ : ∃ tot, tot = nm.data.toList ++ [58] ++ foldGo true (nm.data.toList.length + 1) ws := ⟨_, rfl⟩
  have HTOT : Hid (tot = nm.data.toList ++ [58] ++ foldGo true (nm.data.toList.length + 1) ws) := htot
  clear htot
  go_wp2
  go_loopw [5, 6, 8] (fun o b i wr => ∃ (k wd : Nat) (out : ByteArray), k ≤ n ∧ i = .int .i64 k ∧ o = .string out ∧ b = .int .i64 wd ∧ wd ≤ 41 + k * 2001 ∧ out.size ≤ 41 + k * 2003 ∧ wr.ownsRow w.heap.size 9 1 (.slice ao n cap) n (ws.map tv) ∧ Below w.heap.size w wr ∧ Hid (out.data.toList ++ foldGo (decide (k = 0)) wd (ws.drop k) = tot)) (fun _ _ i _ => n - (intOf i).toNat)
  case atStart =>
    refine ⟨0, nm.size + 1, nm ++ { data := #[58] }, Nat.zero_le _, rfl, rfl, by go_num, by omega, by rw [ByteArray.size_append]; show _ + 1 ≤ _; omega, own, hb1, ?_⟩
    rw [HTOT.out, Lib.size_eq]
    simp
    exact (trivial : True)
  case round =>
    obtain ⟨k, wd, out, hk, rfl, rfl, rfl, hwd, ho, hown, hbw, HD⟩ := hrel
    by_cases hlt : k < n
    · obtain ⟨g, cap', x, hv, hnc, hx⟩ := row_at hown k hlt
      cases hv
      have hc0 := row_cell hown k hx
      have hxl : x.length ≤ 2000 := HX.out x (List.mem_of_getElem? hx)
      have hlt' : (k : Int) < (n : Int) := by omega
      obtain ⟨X, hX⟩ : ∃ X : ByteArray, X = ⟨x.toArray⟩ := ⟨_, rfl⟩
      have hXz : X.size = x.length := by rw [hX, Lib.size_eq]
      have hXs : X.size ≤ 2000 := by omega
      have hXs' : (X.size : Int) ≤ 2000 := by omega
      have hXl : X.data.toList = x := by rw [hX]
      rw [← hX] at hc0
      have HXL : Hid (X.data.toList = x ∧ X.size = x.length) := ⟨hXl, hXz⟩
      have HK : Hid (ws[k]? = some x) := hx
      clear hX hXl hx hXz
      have hos : (out.size : Int) ≤ 5000000 := by omega
      have hwd' : (wd : Int) ≤ 5000000 := by omega
      by_cases hk0 : k = 0
      · have d0 : decide (0 < k) = false := decide_eq_false (by omega)
        have d1 : decide ((0 : Int) < (k : Int)) = false := decide_eq_false (by omega)
        have HK0 : Hid (k = 0) := hk0
        clear hk0
        go_wp2
        go_roundw
        case rel =>
          refine ⟨k + 1, wd + (1 + X.size), out ++ ({ data := #[32] } ++ X), by omega, by go_num, rfl, by go_num, by omega, by rw [ByteArray.size_append, ByteArray.size_append]; show _ + (1 + _) ≤ _; omega, hown, hbw, ?_⟩
          have := step_no HK.out (.inl HK0.out) HD.out
          rw [HXL.out.2, ← this, ← HXL.out.1]
          simp
          exact (trivial : True)
        case measure => simp [intOf]; omega
      have d0 : decide (0 < k) = true := decide_eq_true (by omega)
      have d1 : (0 : Int) < (k : Int) := by omega
      by_cases hf : 78 < wd + 1 + X.size
      · have f1 : (78 : Int) < (wd : Int) + 1 + (X.size : Int) := by omega
        go_wp2
        go_roundw
        case rel =>
          refine ⟨k + 1, 0 + (1 + X.size), out ++ { data := #[13, 10] } ++ ({ data := #[32] } ++ X), by omega, by go_num, rfl, by go_num, by omega, by rw [ByteArray.size_append, ByteArray.size_append, ByteArray.size_append]; show _ + 2 + (1 + _) ≤ _; omega, hown, hbw, ?_⟩
          have := step_yes HK.out hk0 (by rw [← HXL.out.2]; exact hf) HD.out
          rw [HXL.out.2, ← this, ← HXL.out.1]
          simp
          exact (trivial : True)
        case measure => simp [intOf]; omega
      · have f1 : (wd : Int) + 1 + (X.size : Int) ≤ 78 := by omega
        go_wp2
        go_roundw
        case rel =>
          refine ⟨k + 1, wd + (1 + X.size), out ++ ({ data := #[32] } ++ X), by omega, by go_num, rfl, by go_num, by omega, by rw [ByteArray.size_append, ByteArray.size_append]; show _ + (1 + _) ≤ _; omega, hown, hbw, ?_⟩
          have := step_no HK.out (.inr (by rw [← HXL.out.2]; omega)) HD.out
          rw [HXL.out.2, ← this, ← HXL.out.1]
          simp
          exact (trivial : True)
        case measure => simp [intOf]; omega
    · have hge : (n : Int) ≤ (k : Int) := by omega
      have hos : (out.size : Int) ≤ 5000000 := by omega
      go_wp2
      go_ret
      refine ⟨⟨out ++ { data := #[13, 10] }, rfl, ?_⟩, hbw⟩
      have := step_end (by have := HN.out; omega) HD.out
      unfold foldL
      rw [← HW.out, ← HTOT.out, ← this]
      simp
end Go.Proofs.YtadfdfmebdcfgaaGreatDoor.hf

namespace Go.Proofs.YtadfdfmebdcfgaaGreatDoor.hf
open Go.RowKit
open Go.Proofs.YtadfdfmebdcfgaaGreatDoor.hd (cutGo foldGo foldL words tv)
set_option linter.unusedVariables false

/-- What both FoldHeader functions answer. -/
def FhRet (nm s : ByteArray) (e : Ending) : Prop :=
  ((65536 < nm.size ∨ 65536 < s.size) ∧ e = .returned (.tuple #[.string ⟨#[]⟩, .int .i64 2])) ∨
  (nm.size ≤ 65536 ∧ s.size ≤ 65536 ∧ ¬ (hn.IsName nm ∧ hd.Safe s.data.toList) ∧ e = .returned (.tuple #[.string ⟨#[]⟩, .int .i64 1])) ∨
  (nm.size ≤ 65536 ∧ s.size ≤ 65536 ∧ (hn.IsName nm ∧ hd.Safe s.data.toList) ∧ ∃ r : ByteArray, r.data.toList = foldL nm.data.toList s.data.toList ∧ e = .returned (.tuple #[.string r, .int .i64 0]))
theorem name_true {p : Prop} {e : Ending} (h : hn.Says p e) (hp : p) : e = .returned (.bool true) := by
  obtain ⟨b, rfl, hb⟩ := h
  rw [hb.2 hp]
theorem name_false {p : Prop} {e : Ending} (h : hn.Says p e) (hp : ¬ p) : e = .returned (.bool false) := by
  obtain ⟨b, rfl, hb⟩ := h
  cases b
  · rfl
  · exact absurd (hb.1 rfl) hp

theorem empty_iff (s : ByteArray) : s.toList.isEmpty = decide (s.size = 0) := by
  rw [Bool.eq_iff_iff, List.isEmpty_iff, decide_eq_true_iff]
  refine ⟨fun h => ?_, fun h => ?_⟩
  · have := Lib.size_eq s; rw [← Lib.toList_data, h] at this; exact this
  · have := Lib.size_eq s; rw [h] at this; rw [Lib.toList_data]; exact List.eq_nil_of_length_eq_zero this.symm
theorem fold_empty (nm : List UInt8) (wd : Nat) (f : Bool) : (nm ++ [58] ++ [32]) ++ foldGo f wd (words []) = nm ++ [58] ++ foldGo true (nm.length + 1) (cutGo [] []) := by
  simp [words, cutGo, foldGo]
theorem fold_some (nm l : List UInt8) (h : l ≠ []) : (nm ++ [58]) ++ foldGo (decide (0 = 0)) (nm ++ [58]).length ((words l).drop 0) = nm ++ [58] ++ foldGo true (nm.length + 1) (cutGo [] l) := by
  rw [words, if_neg h]
  simp

set_option maxHeartbeats 4000000 in
set_option maxRecDepth 100000 in
theorem implFh_any (nm s : ByteArray) (w : World) (hA : tb.TA w) (hm : nm.size ≤ 1048576) (hs : s.size ≤ 1048576) :
    Calls Tryz.prog 53 #[.string nm, .string s] w fun e w' => FhRet nm s e ∧ Below w.heap.size w w' := by
  by_cases h1 : nm.size ≤ 65536
  case neg =>
    have h' : (65536 : Int) < (nm.size : Int) := by omega
    clear hA
    go_enter Tryz.func53, Tryz.ntmps53
    go_wp2
    go_ret2
    exact ⟨.inl ⟨by omega, rfl⟩, Below.refl _ _⟩
  have h1' : decide ((65536 : Int) < (nm.size : Int)) = false := decide_eq_false (by omega)
  by_cases h2 : s.size ≤ 65536
  case neg =>
    have h' : (65536 : Int) < (s.size : Int) := by omega
    clear hA
    go_enter Tryz.func53, Tryz.ntmps53
    go_wp2
    go_ret2
    exact ⟨.inl ⟨by omega, rfl⟩, Below.refl _ _⟩
  have h2' : decide ((65536 : Int) < (s.size : Int)) = false := decide_eq_false (by omega)
  obtain ⟨i0, hi, hz0, hz1, hz2⟩ := info_parts bl.info1
  have HT : Hid (∀ W, Below w.heap.size w W → tb.TA W) := fun W hW => tb.keep' hA hW
  clear hA
  go_enter Tryz.func53, Tryz.ntmps53
  go_wp2_with fail
  refine (hn.impl_any nm _ (by unfold maxLen; omega)).mono ?_
  rintro e w' ⟨hsn, hww⟩
  rw [hww]
  clear hww
  by_cases hname : hn.IsName nm
  case neg =>
    obtain rfl := name_false hsn hname
    clear hsn
    go_wp2
    go_ret2
    exact ⟨.inr (.inl ⟨h1, h2, fun x => hname x.1, rfl⟩), Below.refl _ _⟩
  obtain rfl := name_true hsn hname
  have hm2 : nm.size ≤ 40 := hname.2.1
  have HNM : Hid (hn.IsName nm) := hname
  clear hsn hname
  go_wp2_with fail
  refine (sv.impl_any s _ (by unfold maxLen; omega)).mono ?_
  rintro e w2 ⟨hsv, hww⟩
  rw [hww]
  clear hww
  by_cases hsafe : hd.Safe s.data.toList
  case neg =>
    obtain rfl := sv.says_false hsv hsafe
    clear hsv
    go_wp2
    go_ret2
    exact ⟨.inr (.inl ⟨h1, h2, fun x => hsafe x.2, rfl⟩), Below.refl _ _⟩
  obtain rfl := sv.says_true hsv hsafe
  have h3 : s.size ≤ 2000 := by have := hsafe.1; rw [← Lib.size_eq] at this; exact this
  have HS : Hid (hd.Safe s.data.toList) := hsafe
  clear hsv hsafe
  obtain ⟨W1, cap, hcv, hown, hb1⟩ : ∃ W1 cap, (convert 9 22 (.string nm)).run Tryz.prog w = .ok (.slice (some ⟨w.heap.size, 0, none⟩) nm.size cap) W1 ∧ ow.OwnC W1 w.heap.size (.slice (some ⟨w.heap.size, 0, none⟩) nm.size cap) nm.data.toList ∧ Below w.heap.size w W1 :=
    ⟨_, _, Lib.run_convert_string_bytes (P := Tryz.prog) w 9 22 5 nm Tryz.underlying9 Tryz.underlying22 Tryz.underlying5, ow.ownC_conv w 5 nm (by unfold maxLen; omega), ow.below_conv w 5 nm⟩
  have hB1 := hb1.size
  have hml : nm.data.toList.length ≤ 40 := by rw [← Lib.size_eq]; exact hm2
  go_upto_region 6 with (at_builtin; refine ow.wp_bytes _ rfl _ _ 22 rfl w.heap.size 5 i0 Tryz.underlying22 hi hz0 hz1 hz2 (.slice (some ⟨w.heap.size, 0, none⟩) nm.size cap) nm.data.toList rfl (ow.ownC_alloc hown _) ⟨W1.heap.size, 0, none⟩ 1 1 [58] rfl rfl (ow.cells_new _ [.int .u8 58] _) (by omega) (by simp; omega) ?_; intro v2 W2 hown2 hgrow2 hblk2)
  have hbw2 := ow.app_below (ow.ownC_alloc hown (.cells #[.int .u8 58] 5)) (hb1.alloc hB1 _) (by simp; omega) hgrow2
  have hB2 := hbw2.size
  obtain ⟨l2, hl2⟩ : ∃ l2, l2 = nm.data.toList ++ [58] := ⟨_, rfl⟩
  rw [← hl2] at hown2
  have hll2 : l2.length ≤ 41 := by rw [hl2]; simp; omega
  have HL2 : Hid (l2 = nm.data.toList ++ [58]) := hl2
  clear hl2 hgrow2 hblk2 hown hcv hb1 hB1
  obtain ⟨ao2, cap2, rfl⟩ := ow.ownC_slice hown2
  obtain ⟨tot, htot⟩ : ∃ tot, tot = nm.data.toList ++ [58] ++ foldGo true (nm.data.toList.length + 1) (cutGo [] s.data.toList) := ⟨_, rfl⟩
  have HTOT : Hid (tot = nm.data.toList ++ [58] ++ foldGo true (nm.data.toList.length + 1) (cutGo [] s.data.toList)) := htot
  clear htot
  by_cases h0 : s.size = 0
  all_goals
    first
    | (have z : s.toList.isEmpty = true := by rw [empty_iff]; exact decide_eq_true h0
       have HE : Hid (s.data.toList = []) := List.eq_nil_of_length_eq_zero (by rw [← Lib.size_eq]; exact h0)
       clear h0
       go_upto_region 8 with (at_builtin; refine ow.wp_bytes _ rfl _ _ 22 rfl w.heap.size 5 i0 Tryz.underlying22 hi hz0 hz1 hz2 (.slice ao2 l2.length cap2) l2 rfl (ow.ownC_alloc hown2 _) ⟨W2.heap.size, 0, none⟩ 1 1 [32] rfl rfl (ow.cells_new _ [.int .u8 32] _) (by omega) (by simp; omega) ?_; intro vF WF hownF hgrowF hblkF)
       have hbwF := ow.app_below (ow.ownC_alloc hown2 (.cells #[.int .u8 32] 5)) (hbw2.alloc hB2 _) (by simp; omega) hgrowF
       obtain ⟨lF, hlF⟩ : ∃ lF, lF = l2 ++ [32] := ⟨_, rfl⟩
       rw [← hlF] at hownF
       have hllF : lF.length ≤ 42 := by rw [hlF]; simp; omega
       have HF : Hid (lF ++ foldGo (decide (0 = 0)) lF.length ((words s.data.toList).drop 0) = tot) := by rw [hlF, HTOT.out, HE.out, HL2.out]; exact fold_empty _ _ _
       obtain ⟨aoF, capF, rfl⟩ := ow.ownC_slice hownF
       clear hlF hgrowF hblkF hown2 hbw2 z HE)
    | (have z : s.toList.isEmpty = false := by rw [empty_iff]; exact decide_eq_false h0
       have HE : Hid (s.data.toList ≠ []) := fun e => h0 (by rw [Lib.size_eq, e]; rfl)
       clear h0
       go_upto_region 8 with fail
       obtain ⟨lF, hlF⟩ : ∃ lF, lF = l2 := ⟨_, rfl⟩
       obtain ⟨WF, hWF⟩ : ∃ WF, WF = W2 := ⟨_, rfl⟩
       obtain ⟨aoF, haF⟩ : ∃ aoF, aoF = ao2 := ⟨_, rfl⟩
       obtain ⟨capF, hcF⟩ : ∃ capF, capF = cap2 := ⟨_, rfl⟩
       rw [← hlF, ← hWF, ← haF, ← hcF] at hown2 ⊢
       rw [← hWF] at hbw2
       have hllF : lF.length ≤ 42 := by rw [hlF]; omega
       have HF : Hid (lF ++ foldGo (decide (0 = 0)) lF.length ((words s.data.toList).drop 0) = tot) := by rw [hlF, HTOT.out, HL2.out]; exact fold_some _ _ HE.out
       have hownF := hown2
       have hbwF := hbw2
       clear hlF hWF haF hcF hown2 hbw2 z HE)
  all_goals
    go_wp2_with fail
    refine (Tryz.strings_Fields s WF (by omega) (fun j b hj => by have := hd.ascii HS.out b (List.mem_of_getElem? hj); omega) (tb.ta_is (HT.out _ hbwF))).mono ?_
    rw [hd.fields_safe HS.out]
    obtain ⟨ws, hws⟩ : ∃ ws, ws = words s.data.toList := ⟨_, rfl⟩
    rw [← hws] at HF ⊢
    rintro e W3 ⟨rfl, hW3⟩
    have HX : Hid (∀ x ∈ ws, x.length ≤ 2000) := fun x hx => by
      rw [hws] at hx
      unfold words at hx
      split at hx
      · cases hx
      · have := hd.cutGo_mem _ _ _ hx
        rw [← Lib.size_eq] at this
        simp at this
        omega
    have hn2 : ws.length ≤ 2001 := by
      rw [hws]
      unfold words
      split
      · simp
      · have := hd.cutGo_len s.data.toList []
        rw [← Lib.size_eq] at this
        simp at this
        omega
    clear hws
    have hown3 : ow.OwnC W3 w.heap.size (.slice aoF lF.length capF) lF := by rw [hW3]; exact ow.ownC_alloc hownF _
    have hne3 : (Value.slice aoF lF.length capF).ownBlock ≠ some WF.heap.size := by
      obtain ⟨g, c, hv, _, hlt, _⟩ := hownF
      cases hv
      intro e
      have : g = WF.heap.size := by simpa [Value.ownBlock] using e
      omega
    have hbw3 : Below w.heap.size w W3 := by rw [hW3]; exact hbwF.alloc hbwF.size _
    have hls3 : W3.heap[WF.heap.size]? = some (.cells (ws.map tv).toArray 9 (0, 0)) := by rw [hW3]; exact heap_alloc_new _ _
    obtain ⟨G, hG⟩ : ∃ G, G = WF.heap.size := ⟨_, rfl⟩
    obtain ⟨n, hn⟩ : ∃ n, n = ws.length := ⟨_, rfl⟩
    rw [← hG] at hne3 hls3 ⊢
    rw [← hn] at hn2 ⊢
    have HN : Hid (n = ws.length) := hn
    clear hn hW3 hownF hbwF hG
    go_wp2
    go_loopw [6, 7, 40] (fun v b i wr => ∃ (k wd : Nat) (ao : Option Addr) (cp : Nat) (l : List UInt8), k ≤ n ∧ i = .int .i64 k ∧ v = .slice ao l.length cp ∧ b = .int .i64 wd ∧ wd ≤ 42 + k * 2001 ∧ l.length ≤ 42 + k * 2003 ∧ ow.OwnC wr w.heap.size (.slice ao l.length cp) l ∧ (Value.slice ao l.length cp).ownBlock ≠ some G ∧ wr.heap[G]? = some (.cells (ws.map tv).toArray 9 (0, 0)) ∧ Below w.heap.size w wr ∧ Hid (l ++ foldGo (decide (k = 0)) wd (ws.drop k) = tot)) (fun _ _ i _ => n - (intOf i).toNat)
    case atStart => exact ⟨0, lF.length, aoF, capF, lF, Nat.zero_le _, rfl, rfl, rfl, by omega, by omega, hown3, hne3, hls3, hbw3, HF⟩
    case round =>
      obtain ⟨k, wd, ao, cp, l, hk, rfl, rfl, rfl, hwd, hll, hownR, hneR, hlsR, hbwR, HD⟩ := hrel
      have hBR := hbwR.size
      by_cases hlt : k < n
      · have hx0 : ws[k]? = some (ws[k]'(by have := HN.out; omega)) := List.getElem?_eq_getElem _
        obtain ⟨x, hx⟩ : ∃ x, ws[k]? = some x := ⟨_, hx0⟩
        clear hx0
        have hc0 : wr.cell? ⟨G, k, none⟩ = some (.string ⟨x.toArray⟩) := by
          rw [cell_of_row wr _ k _ _ _ hlsR]
          simp [hx, tv]
        have hxl : x.length ≤ 2000 := HX.out x (List.mem_of_getElem? hx)
        have hlt' : (k : Int) < (n : Int) := by omega
        obtain ⟨X, hX⟩ : ∃ X : ByteArray, X = ⟨x.toArray⟩ := ⟨_, rfl⟩
        have hXz : X.size = x.length := by rw [hX, Lib.size_eq]
        have hXs : X.size ≤ 2000 := by omega
        have hXs' : (X.size : Int) ≤ 2000 := by omega
        have hXl : X.data.toList = x := by rw [hX]
        rw [← hX] at hc0
        have HXL : Hid (X.data.toList = x ∧ X.size = x.length) := ⟨hXl, hXz⟩
        have HK : Hid (ws[k]? = some x) := hx
        clear hX hXl hx hXz
        have hwd' : (wd : Int) ≤ 5000000 := by omega
        by_cases hk0 : k = 0
        · have d0 : decide (0 < k) = false := decide_eq_false (by omega)
          have d1 : decide ((0 : Int) < (k : Int)) = false := decide_eq_false (by omega)
          have HK0 : Hid (k = 0) := hk0
          clear hk0
          go_upto_region 16 with (at_builtin; refine ow.wp_bytes _ rfl _ _ 22 rfl w.heap.size 5 i0 Tryz.underlying22 hi hz0 hz1 hz2 (.slice ao l.length cp) l rfl (ow.ownC_alloc hownR _) ⟨wr.heap.size, 0, none⟩ 1 1 [32] rfl rfl (ow.cells_new _ [.int .u8 32] _) (by omega) (by simp; omega) ?_; intro vB WB hownB hgrowB hblkB)
          have hbwB := ow.app_below (ow.ownC_alloc hownR (.cells #[.int .u8 32] 5)) (hbwR.alloc hBR _) (by simp; omega) hgrowB
          have hlB := ow.kept_block (v := .slice ao l.length cp) hneR hgrowB ((Below.heap_alloc _ _ _ (Array.getElem?_eq_some_iff.1 hlsR).1).trans hlsR) hblkB
          have hBB := hbwB.size
          obtain ⟨aoB, cpB, rfl⟩ := ow.ownC_slice hownB
          clear hgrowB hblkB
          go_upto_region 17 with (at_builtin; refine ow.wp_text _ rfl _ _ 22 9 rfl w.heap.size 5 i0 Tryz.underlying22 Tryz.underlying9 hi hz0 hz1 hz2 (.slice aoB (l ++ [32]).length cpB) (l ++ [32]) rfl hownB X rfl (by simp; omega) (by omega) ?_; intro vC WC hownC hgrowC hblkC)
          have hbwC := ow.app_below hownB hbwB hBB hgrowC
          have hlC := ow.kept_block (v := .slice aoB (l ++ [32]).length cpB) hlB.2 hgrowC hlB.1 hblkC
          obtain ⟨aoC, cpC, rfl⟩ := ow.ownC_slice hownC
          clear hgrowC hblkC hownB hbwB hlB
          go_wp2
          go_roundw
          case rel =>
            refine ⟨k + 1, wd + (1 + X.size), aoC, cpC, l ++ [32] ++ X.data.toList, by omega, by go_num, rfl, by go_num, by omega, by simp; omega, hownC, hlC.2, hlC.1, hbwC, ?_⟩
            have := step_no HK.out (.inl HK0.out) HD.out
            rw [HXL.out.2, ← this, ← HXL.out.1]
            simp
            exact (trivial : True)
          case measure => simp [intOf]; omega
        have d0 : decide (0 < k) = true := decide_eq_true (by omega)
        have d1 : (0 : Int) < (k : Int) := by omega
        by_cases hf : 78 < wd + 1 + X.size
        · have f1 : (78 : Int) < (wd : Int) + 1 + (X.size : Int) := by omega
          go_upto_region 14 with (at_builtin; refine ow.wp_text _ rfl _ _ 22 9 rfl w.heap.size 5 i0 Tryz.underlying22 Tryz.underlying9 hi hz0 hz1 hz2 (.slice ao l.length cp) l rfl hownR ⟨#[13, 10]⟩ rfl (by show _ + 2 ≤ _; omega) (by omega) ?_; intro vA WA hownA hgrowA hblkA)
          have hbwA := ow.app_below hownR hbwR hBR hgrowA
          have hlA := ow.kept_block (v := .slice ao l.length cp) hneR hgrowA hlsR hblkA
          have hBA := hbwA.size
          have hownA2 : ow.OwnC WA w.heap.size vA (l ++ [13, 10]) := hownA
          obtain ⟨aoA, cpA, rfl⟩ := ow.ownC_slice hownA2
          clear hgrowA hblkA hownA
          go_upto_region 16 with (at_builtin; refine ow.wp_bytes _ rfl _ _ 22 rfl w.heap.size 5 i0 Tryz.underlying22 hi hz0 hz1 hz2 (.slice aoA (l ++ [13, 10]).length cpA) (l ++ [13, 10]) rfl (ow.ownC_alloc hownA2 _) ⟨WA.heap.size, 0, none⟩ 1 1 [32] rfl rfl (ow.cells_new _ [.int .u8 32] _) (by simp; omega) (by simp; omega) ?_; intro vB WB hownB hgrowB hblkB)
          have hbwB := ow.app_below (ow.ownC_alloc hownA2 (.cells #[.int .u8 32] 5)) (hbwA.alloc hBA _) (by simp; omega) hgrowB
          have hlB := ow.kept_block (v := .slice aoA (l ++ [13, 10]).length cpA) hlA.2 hgrowB ((Below.heap_alloc _ _ _ (Array.getElem?_eq_some_iff.1 hlA.1).1).trans hlA.1) hblkB
          have hBB := hbwB.size
          obtain ⟨aoB, cpB, rfl⟩ := ow.ownC_slice hownB
          clear hgrowB hblkB
          go_upto_region 17 with (at_builtin; refine ow.wp_text _ rfl _ _ 22 9 rfl w.heap.size 5 i0 Tryz.underlying22 Tryz.underlying9 hi hz0 hz1 hz2 (.slice aoB ((l ++ [13, 10]) ++ [32]).length cpB) ((l ++ [13, 10]) ++ [32]) rfl hownB X rfl (by simp; omega) (by omega) ?_; intro vC WC hownC hgrowC hblkC)
          have hbwC := ow.app_below hownB hbwB hBB hgrowC
          have hlC := ow.kept_block (v := .slice aoB ((l ++ [13, 10]) ++ [32]).length cpB) hlB.2 hgrowC hlB.1 hblkC
          obtain ⟨aoC, cpC, rfl⟩ := ow.ownC_slice hownC
          clear hgrowC hblkC hownB hbwB hlB
          go_wp2
          go_roundw
          case rel =>
            refine ⟨k + 1, 0 + (1 + X.size), aoC, cpC, l ++ [13, 10] ++ [32] ++ X.data.toList, by omega, by go_num, rfl, by go_num, by omega, by simp; omega, hownC, hlC.2, hlC.1, hbwC, ?_⟩
            have := step_yes HK.out hk0 (by rw [← HXL.out.2]; exact hf) HD.out
            rw [HXL.out.2, ← this, ← HXL.out.1]
            simp
            exact (trivial : True)
          case measure => simp [intOf]; omega
        · have f1 : (wd : Int) + 1 + (X.size : Int) ≤ 78 := by omega
          go_upto_region 16 with (at_builtin; refine ow.wp_bytes _ rfl _ _ 22 rfl w.heap.size 5 i0 Tryz.underlying22 hi hz0 hz1 hz2 (.slice ao l.length cp) l rfl (ow.ownC_alloc hownR _) ⟨wr.heap.size, 0, none⟩ 1 1 [32] rfl rfl (ow.cells_new _ [.int .u8 32] _) (by omega) (by simp; omega) ?_; intro vB WB hownB hgrowB hblkB)
          have hbwB := ow.app_below (ow.ownC_alloc hownR (.cells #[.int .u8 32] 5)) (hbwR.alloc hBR _) (by simp; omega) hgrowB
          have hlB := ow.kept_block (v := .slice ao l.length cp) hneR hgrowB ((Below.heap_alloc _ _ _ (Array.getElem?_eq_some_iff.1 hlsR).1).trans hlsR) hblkB
          have hBB := hbwB.size
          obtain ⟨aoB, cpB, rfl⟩ := ow.ownC_slice hownB
          clear hgrowB hblkB
          go_upto_region 17 with (at_builtin; refine ow.wp_text _ rfl _ _ 22 9 rfl w.heap.size 5 i0 Tryz.underlying22 Tryz.underlying9 hi hz0 hz1 hz2 (.slice aoB (l ++ [32]).length cpB) (l ++ [32]) rfl hownB X rfl (by simp; omega) (by omega) ?_; intro vC WC hownC hgrowC hblkC)
          have hbwC := ow.app_below hownB hbwB hBB hgrowC
          have hlC := ow.kept_block (v := .slice aoB (l ++ [32]).length cpB) hlB.2 hgrowC hlB.1 hblkC
          obtain ⟨aoC, cpC, rfl⟩ := ow.ownC_slice hownC
          clear hgrowC hblkC hownB hbwB hlB
          go_wp2
          go_roundw
          case rel =>
            refine ⟨k + 1, wd + (1 + X.size), aoC, cpC, l ++ [32] ++ X.data.toList, by omega, by go_num, rfl, by go_num, by omega, by simp; omega, hownC, hlC.2, hlC.1, hbwC, ?_⟩
            have := step_no HK.out (.inr (by rw [← HXL.out.2]; omega)) HD.out
            rw [HXL.out.2, ← this, ← HXL.out.1]
            simp
            exact (trivial : True)
          case measure => simp [intOf]; omega
      · have hge : (n : Int) ≤ (k : Int) := by omega
        go_upto_region 19 with fail
        go_wp2_with (at_builtin; refine ow.wp_text _ rfl _ _ 22 9 rfl w.heap.size 5 i0 Tryz.underlying22 Tryz.underlying9 hi hz0 hz1 hz2 (.slice ao l.length cp) l rfl hownR ⟨#[13, 10]⟩ rfl (by show _ + 2 ≤ _; omega) (by omega) ?_; intro vZ WZ hownZ hgrowZ hblkZ; have hcvZ := ow.conv_ownC (P := Tryz.prog) (src := 22) (dst := 9) _ hownZ Tryz.underlying22 Tryz.underlying5 Tryz.underlying9)
        go_ret2
        refine ⟨.inr (.inr ⟨h1, h2, ⟨HNM.out, HS.out⟩, _, ?_, rfl⟩), ow.app_below hownR hbwR hBR hgrowZ⟩
        have := step_end (by have := HN.out; omega) HD.out
        unfold foldL
        rw [← HTOT.out, ← this]
end Go.Proofs.YtadfdfmebdcfgaaGreatDoor.hf

namespace Go.Proofs.YtadfdfmebdcfgaaGreatDoor.li
set_option linter.unusedVariables false

def blk (c : UInt8) : Bool := c == 9 || c == 10 || c == 13 || c == 32
/-- What was told so far, and whether the last byte was a blank. -/
def step (x : List UInt8 × Bool) (c : UInt8) : List UInt8 × Bool :=
  if blk c then (x.1, true) else (if x.1.isEmpty = false && x.2 then x.1 ++ [32, c] else x.1 ++ [c], false)
def one (b : Bool) : Nat := cond b 1 0
def st (l : List UInt8) : List UInt8 × Bool := l.foldl step ([], false)
/-- A text in one line. -/
def line (l : List UInt8) : List UInt8 := (st l).1
theorem st_snoc (l : List UInt8) (c : UInt8) : st (l ++ [c]) = step (st l) c := by simp [st]
theorem step_blank {c : UInt8} (x : List UInt8 × Bool) (h : blk c = true) : step x c = (x.1, true) := by simp [step, h]
theorem step_other {c : UInt8} (x : List UInt8 × Bool) (h : blk c = false) : step x c = (if x.1.isEmpty = false && x.2 then x.1 ++ [32, c] else x.1 ++ [c], false) := by simp [step, h]
theorem step_two {c : UInt8} {x : List UInt8 × Bool} (h : blk c = false) (h1 : x.1 ≠ []) (h2 : x.2 = true) : step x c = (x.1 ++ [32, c], false) := by
  rw [step_other x h, if_pos]
  simp [h2, h1]
theorem step_one {c : UInt8} {x : List UInt8 × Bool} (h : blk c = false) (h1 : x.1 = [] ∨ x.2 = false) : step x c = (x.1 ++ [c], false) := by
  rw [step_other x h, if_neg]
  rcases h1 with h1 | h1 <;> simp [h1]
theorem step_prev (x : List UInt8 × Bool) (c : UInt8) : (step x c).2 = blk c := by
  cases h : blk c
  · rw [step_other x h]
  · rw [step_blank x h]
theorem step_len (x : List UInt8 × Bool) (c : UInt8) : (step x c).1.length + one (step x c).2 ≤ x.1.length + one x.2 + 1 := by
  cases h : blk c
  · by_cases h1 : x.1 ≠ [] ∧ x.2 = true
    · rw [step_two h h1.1 h1.2]; simp [h1.2, one]
    · rw [step_one h (by by_cases e : x.1 = []; exact .inl e; right; simpa [e] using h1)]; simp [one]
  · rw [step_blank x h]; simp [one]
theorem st_len (l : List UInt8) : ∀ x, (l.foldl step x).1.length + one (l.foldl step x).2 ≤ x.1.length + one x.2 + l.length := by
  induction l with
  | nil => intro x; simp
  | cons c l ih =>
    intro x
    have h1 := ih (step x c)
    have h2 := step_len x c
    simp only [List.foldl_cons, List.length_cons]
    omega
theorem line_len (l : List UInt8) : (line l).length ≤ l.length := by
  have := st_len l ([], false)
  simp only [line, st]
  simp [one] at this
  omega

/-- Blanks stand alone, between others. -/
def Nice (o : List UInt8) : Prop := ∀ i, i < o.length → blk (o.getD i 0) = true → o.getD i 0 = 32 ∧ 0 < i ∧ i + 1 < o.length ∧ blk (o.getD (i - 1) 0) = false
theorem get_left {a b : List UInt8} {i : Nat} (h : i < a.length) : (a ++ b).getD i 0 = a.getD i 0 := by
  simp only [List.getD_eq_getElem?_getD]; rw [List.getElem?_append_left h]
theorem get_right {a b : List UInt8} {i : Nat} : (a ++ b).getD (a.length + i) 0 = b.getD i 0 := by
  simp only [List.getD_eq_getElem?_getD]; rw [List.getElem?_append_right (by omega)]; simp
theorem nice_last {o : List UInt8} (h : Nice o) (h0 : o ≠ []) : blk (o.getD (o.length - 1) 0) = false := by
  have hl : 0 < o.length := List.length_pos_iff.2 h0
  cases hb : blk (o.getD (o.length - 1) 0)
  · rfl
  · have := h (o.length - 1) (by omega) hb
    omega
theorem nice_one {o : List UInt8} {c : UInt8} (h : Nice o) (hc : blk c = false) : Nice (o ++ [c]) := by
  intro i hi hb
  rw [List.length_append, List.length_singleton] at hi
  by_cases e : i < o.length
  · rw [get_left e] at hb ⊢
    obtain ⟨h1, h2, h3, h4⟩ := h i e hb
    rw [get_left (by omega)]
    exact ⟨h1, h2, by simp; omega, h4⟩
  · obtain rfl : i = o.length := by omega
    have := get_right (a := o) (b := [c]) (i := 0)
    rw [Nat.add_zero] at this
    rw [this] at hb
    simp [hc] at hb
theorem nice_two {o : List UInt8} {c : UInt8} (h : Nice o) (h0 : o ≠ []) (hc : blk c = false) : Nice (o ++ [32, c]) := by
  have hl : 0 < o.length := List.length_pos_iff.2 h0
  intro i hi hb
  rw [List.length_append] at hi
  simp at hi
  by_cases e : i < o.length
  · rw [get_left e] at hb ⊢
    obtain ⟨h1, h2, h3, h4⟩ := h i e hb
    rw [get_left (by omega)]
    exact ⟨h1, h2, by simp; omega, h4⟩
  · by_cases e2 : i = o.length
    · subst e2
      have := get_right (a := o) (b := [32, c]) (i := 0)
      rw [Nat.add_zero] at this
      rw [this, get_left (by omega)]
      exact ⟨rfl, hl, by simp, nice_last h h0⟩
    · obtain rfl : i = o.length + 1 := by omega
      rw [get_right] at hb
      simp [hc] at hb
theorem nice_step {x : List UInt8 × Bool} {c : UInt8} (h : Nice x.1) : Nice (step x c).1 := by
  cases hb : blk c
  · by_cases h1 : x.1 ≠ [] ∧ x.2 = true
    · rw [step_two hb h1.1 h1.2]; exact nice_two h h1.1 hb
    · rw [step_one hb (by by_cases e : x.1 = []; exact .inl e; right; simpa [e] using h1)]; exact nice_one h hb
  · rw [step_blank x hb]; exact h
theorem nice_fold (l : List UInt8) : ∀ x : List UInt8 × Bool, Nice x.1 → Nice (l.foldl step x).1 := by
  induction l with
  | nil => intro x h; exact h
  | cons c l ih => intro x h; exact ih _ (nice_step h)
theorem nice_st (l : List UInt8) : Nice (st l).1 := nice_fold l ([], false) (fun i hi => absurd hi (Nat.not_lt_zero _))

/-- What the specification holds so far. -/
def spo (x : List UInt8 × Bool) : List UInt8 := if x.1.isEmpty = false && x.2 then x.1 ++ [32] else x.1
theorem spo_other {c : UInt8} (x : List UInt8 × Bool) (h : blk c = false) : spo (step x c) = spo x ++ [c] := by
  by_cases h1 : x.1 ≠ [] ∧ x.2 = true
  · rw [step_two h h1.1 h1.2]; simp [spo, h1.1, h1.2]
  · have e : x.1 = [] ∨ x.2 = false := by by_cases e : x.1 = []; exact .inl e; right; simpa [e] using h1
    rw [step_one h e]
    unfold spo
    rw [if_neg (by simp), if_neg (by rcases e with e | e <;> simp [e])]
theorem spo_nil {x : List UInt8 × Bool} (h : x.1 = []) : spo x = [] := by simp [spo, h]
theorem spo_has {x : List UInt8 × Bool} (h : x.1 ≠ []) (h2 : x.2 = true) : spo x = x.1 ++ [32] := by simp [spo, h, h2]
theorem spo_no {x : List UInt8 × Bool} (h2 : x.2 = false) : spo x = x.1 := by simp [spo, h2]
/-- The three ways in which a blank is met, and in which the end is. -/
theorem spo_cases {x : List UInt8 × Bool} (h : Nice x.1) : (spo x = [] ∧ x.1 = []) ∨ (spo x = x.1 ++ [32] ∧ x.1 ≠ []) ∨ (spo x = x.1 ∧ x.1 ≠ [] ∧ (x.1.getD (x.1.length - 1) 0 == 32) = false) := by
  by_cases h1 : x.1 = []
  · exact .inl ⟨spo_nil h1, h1⟩
  · cases h2 : x.2
    · refine .inr (.inr ⟨spo_no h2, h1, ?_⟩)
      have := nice_last h h1
      simp only [blk, Bool.or_eq_false_iff] at this
      exact this.2
    · exact .inr (.inl ⟨spo_has h1 h2, h1⟩)
theorem spo_blank {x : List UInt8 × Bool} {c : UInt8} (hb : blk c = true) (h : x.1 ≠ []) : spo (step x c) = x.1 ++ [32] := by rw [step_blank x hb]; exact spo_has h rfl
theorem spo_blank0 {x : List UInt8 × Bool} {c : UInt8} (hb : blk c = true) (h : x.1 = []) : spo (step x c) = [] := by rw [step_blank x hb]; exact spo_nil h
theorem spo_len (x : List UInt8 × Bool) : (spo x).length ≤ x.1.length + one x.2 := by
  unfold spo
  split
  · rename_i h
    simp at h
    simp [h.2, one]
  · omega
theorem spo_le (l : List UInt8) : (spo (st l)).length ≤ l.length := by
  have h1 := spo_len (st l)
  have h2 := st_len l ([], false)
  unfold st at h1 ⊢
  simp only [List.length_nil, Nat.zero_add] at h2
  have h4 : one false = 0 := rfl
  omega
end Go.Proofs.YtadfdfmebdcfgaaGreatDoor.li

namespace Go.Proofs.YtadfdfmebdcfgaaGreatDoor.xm
open Go.RowKit
set_option linter.unusedVariables false

/-- A rune of XML. -/
def xr (n : Int) : Bool := decide (n = 9 ∨ n = 10 ∨ n = 13 ∨ (32 ≤ n ∧ n ≠ 65534 ∧ n ≠ 65535 ∧ (n ≤ 55295 ∨ (57344 ≤ n ∧ n ≤ 1114111))))
def letB (c : Int) : Bool := decide (97 ≤ c ∧ c ≤ 122 ∨ 65 ≤ c ∧ c ≤ 90 ∨ c = 95)
def digB (c : Int) : Bool := decide (48 ≤ c ∧ c ≤ 57)

theorem ret_bool {a b : Bool} (h : a = b) : Ending.returned (.bool a) = .returned (.bool b) := by rw [h]
theorem rsz_pos {n : Int} (h : 0 < ut.rsz n) : 0 ≤ n ∧ n ≤ 1114111 ∧ (n < 55296 ∨ 57343 < n) := by
  by_cases g : n < 0 ∨ 1114111 < n ∨ (55296 ≤ n ∧ n ≤ 57343)
  · rw [ut.rsz_no g] at h; omega
  · omega
theorem rsz_zero {n : Int} (h : ¬ 0 < ut.rsz n) : n < 0 ∨ 1114111 < n ∨ (55296 ≤ n ∧ n ≤ 57343) := by
  by_cases g : n < 0 ∨ 1114111 < n ∨ (55296 ≤ n ∧ n ≤ 57343)
  · exact g
  · exfalso; apply h; rw [ut.rsz_yes (by omega) (by omega) (by omega)]; (repeat' split) <;> omega

set_option maxHeartbeats 1000000 in
theorem impl_xr (n : Int) (w : World) : Calls Tryz.prog 136 #[.int .i64 n] w fun e w' => e = .returned (.bool (xr n)) ∧ w' = w := by
  by_cases h : n < 32
  · go_enter Tryz.func136, Tryz.ntmps136
    go_wp2
    all_goals (go_ret; exact ⟨ret_bool (by rw [Bool.eq_iff_iff]; simp [xr]; omega), rfl⟩)
  · go_enter Tryz.func136, Tryz.ntmps136
    go_wp2_with fail
    refine (ut.implSize_any n _).mono ?_
    rintro e w' ⟨rfl, rfl⟩
    by_cases hz : 0 < ut.rsz n
    · have hp := rsz_pos hz
      go_wp2
      all_goals (go_ret; exact ⟨ret_bool (by rw [Bool.eq_iff_iff]; simp [xr]; omega), rfl⟩)
    · have hp := rsz_zero hz
      have hz' : decide (0 < ut.rsz n) = false := decide_eq_false hz
      go_wp2
      all_goals (go_ret; exact ⟨ret_bool (by rw [Bool.eq_iff_iff]; simp [xr]; omega), rfl⟩)

set_option maxHeartbeats 1000000 in
theorem spec_xr (n : Int) (w : World) : Calls Tryz.prog 107 #[.int .i64 n] w fun e w' => e = .returned (.bool (xr n)) ∧ w' = w := by
  by_cases h9 : n = 9
  · subst h9
    go_enter Tryz.func107, Tryz.ntmps107
    go_wp2
    all_goals (go_ret; exact ⟨rfl, rfl⟩)
  by_cases h10 : n = 10
  · subst h10
    go_enter Tryz.func107, Tryz.ntmps107
    go_wp2
    all_goals (go_ret; exact ⟨rfl, rfl⟩)
  by_cases h13 : n = 13
  · subst h13
    go_enter Tryz.func107, Tryz.ntmps107
    go_wp2
    all_goals (go_ret; exact ⟨rfl, rfl⟩)
  have b9 : (n == 9) = false := beq_eq_false_iff_ne.2 h9
  have b10 : (n == 10) = false := beq_eq_false_iff_ne.2 h10
  have b13 : (n == 13) = false := beq_eq_false_iff_ne.2 h13
  by_cases h : n < 32
  · have hd : decide (32 ≤ n) = false := decide_eq_false (by omega)
    go_enter Tryz.func107, Tryz.ntmps107
    go_wp2
    all_goals (go_ret; exact ⟨ret_bool (by symm; simp [xr]; omega), rfl⟩)
  · have hd : decide (32 ≤ n) = true := decide_eq_true (by omega)
    go_enter Tryz.func107, Tryz.ntmps107
    go_wp2_with fail
    refine (ut.scalar_any n _).mono ?_
    rintro e w' ⟨rfl, rfl⟩
    cases hz : ut.scB n
    · have hp : ¬ (n ≤ 55295 ∨ (57344 ≤ n ∧ n ≤ 1114111)) := by simp [ut.scB, ut.inB] at hz; omega
      go_wp2
      all_goals (go_ret; exact ⟨ret_bool (by symm; simp [xr]; omega), rfl⟩)
    · have hp : (n ≤ 55295 ∨ (57344 ≤ n ∧ n ≤ 1114111)) := by simp [ut.scB, ut.inB] at hz; omega
      go_wp2
      all_goals (go_ret; exact ⟨ret_bool (by rw [Bool.eq_iff_iff]; simp [xr]; omega), rfl⟩)
end Go.Proofs.YtadfdfmebdcfgaaGreatDoor.xm
