/-
  Contracts of both FoldHeader functions, whole.
-/
import Derived.Test.YtpbmofofigkpjaaDoorFow
namespace Go.Proofs.YtpbmofofigkpjaaDoor.hf
open Go.RowKit
open Go.Proofs.YtpbmofofigkpjaaDoor.hd (cutGo foldGo foldL words tv)
set_option linter.unusedVariables false

/-- What both FoldHeader functions answer. -/
def FhRet (nm s : ByteArray) (e : Ending) : Prop :=
  ((65536 < nm.size ∨ 65536 < s.size) ∧ e = .returned (.tuple #[.string ⟨#[]⟩, .int .i64 2])) ∨
  (nm.size ≤ 65536 ∧ s.size ≤ 65536 ∧ ¬ (hn.IsName nm ∧ hd.Safe s.data.toList) ∧ e = .returned (.tuple #[.string ⟨#[]⟩, .int .i64 1])) ∨
  (nm.size ≤ 65536 ∧ s.size ≤ 65536 ∧ (hn.IsName nm ∧ hd.Safe s.data.toList) ∧ ∃ r : ByteArray, r.data.toList = foldL nm.data.toList s.data.toList ∧ e = .returned (.tuple #[.string r, .int .i64 0]))
theorem fh_ex {nm s : ByteArray} {e : Ending} (h : FhRet nm s e) : ∃ (r : ByteArray) (c : Int), e = .returned (.tuple #[.string r, .int .i64 c]) := by
  rcases h with ⟨_, rfl⟩ | ⟨_, _, _, rfl⟩ | ⟨_, _, _, r, _, rfl⟩ <;> exact ⟨_, _, rfl⟩
theorem fh_same {nm s r r' : ByteArray} {c c' : Int} (h : FhRet nm s (.returned (.tuple #[.string r, .int .i64 c]))) (h' : FhRet nm s (.returned (.tuple #[.string r', .int .i64 c']))) : r = r' ∧ c = c' := by
  rcases h with ⟨a, h⟩ | ⟨a, a1, a2, h⟩ | ⟨a, a1, a2, q, hq, h⟩ <;>
  rcases h' with ⟨b, h'⟩ | ⟨b, b1, b2, h'⟩ | ⟨b, b1, b2, q', hq', h'⟩ <;>
  cases h <;> cases h' <;>
  first | exact ⟨rfl, rfl⟩ | exact ⟨ByteArray.ext (Array.toList_inj.1 (hq.trans hq'.symm)), rfl⟩ | (exfalso; omega) | (exfalso; exact a2 b2) | (exfalso; exact b2 a2)
theorem name_true {p : Prop} {e : Ending} (h : hn.Says p e) (hp : p) : e = .returned (.bool true) := by
  obtain ⟨b, rfl, hb⟩ := h
  rw [hb.2 hp]
theorem name_false {p : Prop} {e : Ending} (h : hn.Says p e) (hp : ¬ p) : e = .returned (.bool false) := by
  obtain ⟨b, rfl, hb⟩ := h
  cases b
  · rfl
  · exact absurd (hb.1 rfl) hp

set_option maxHeartbeats 1000000 in
set_option maxRecDepth 100000 in
theorem specFh_any (nm s : ByteArray) (w : World) (hm : nm.size ≤ 1048576) (hs : s.size ≤ 1048576) :
    Calls Tryd.prog 22 #[.string nm, .string s] w fun e w' => FhRet nm s e ∧ Below w.heap.size w w' := by
  by_cases h1 : nm.size ≤ 65536
  case neg =>
    have h' : (65536 : Int) < (nm.size : Int) := by omega
    go_enter Tryd.func22, Tryd.ntmps22
    go_wp2
    go_ret2
    exact ⟨.inl ⟨by omega, rfl⟩, Below.refl _ _⟩
  have h1' : decide ((65536 : Int) < (nm.size : Int)) = false := decide_eq_false (by omega)
  by_cases h2 : s.size ≤ 65536
  case neg =>
    have h' : (65536 : Int) < (s.size : Int) := by omega
    go_enter Tryd.func22, Tryd.ntmps22
    go_wp2
    go_ret2
    exact ⟨.inl ⟨by omega, rfl⟩, Below.refl _ _⟩
  have h2' : decide ((65536 : Int) < (s.size : Int)) = false := decide_eq_false (by omega)
  go_enter Tryd.func22, Tryd.ntmps22
  go_wp2_with fail
  refine (hn.spec_any nm _ (by unfold maxLen; omega)).mono ?_
  rintro e w' ⟨hsn, rfl⟩
  by_cases hname : hn.IsName nm
  case neg =>
    obtain rfl := name_false hsn hname
    clear hsn
    go_wp2
    go_ret2
    exact ⟨.inr (.inl ⟨h1, h2, fun x => hname x.1, rfl⟩), Below.refl _ _⟩
  obtain rfl := name_true hsn hname
  have hm2 : nm.size ≤ 40 := hname.2.1
  have HNM : Hid (hn.IsName nm) := hname
  clear hsn hname
  go_wp2_with fail
  refine (sv.spec_any s _ (by unfold maxLen; omega)).mono ?_
  rintro e w2 ⟨hsv, rfl⟩
  by_cases hsafe : hd.Safe s.data.toList
  case neg =>
    obtain rfl := sv.says_false hsv hsafe
    clear hsv
    go_wp2
    go_ret2
    exact ⟨.inr (.inl ⟨h1, h2, fun x => hsafe x.2, rfl⟩), Below.refl _ _⟩
  obtain rfl := sv.says_true hsv hsafe
  have h3 : s.size ≤ 2000 := by have := hsafe.1; rw [← Lib.size_eq] at this; exact this
  have HS : Hid (hd.Safe s.data.toList) := hsafe
  clear hsv hsafe
  go_wp2_with fail
  refine (specFold_any nm s _ hm2 h3).mono ?_
  rintro e w1 ⟨⟨r, rfl, hr⟩, hb⟩
  have HE : Hid (r.data.toList = foldL nm.data.toList s.data.toList) := hr
  clear hr
  go_wp2
  go_ret2
  exact ⟨.inr (.inr ⟨h1, h2, ⟨HNM.out, HS.out⟩, r, HE.out, rfl⟩), hb⟩

theorem empty_iff (s : ByteArray) : s.toList.isEmpty = decide (s.size = 0) := by
  rw [Bool.eq_iff_iff, List.isEmpty_iff, decide_eq_true_iff]
  refine ⟨fun h => ?_, fun h => ?_⟩
  · have := Lib.size_eq s; rw [← Lib.toList_data, h] at this; exact this
  · have := Lib.size_eq s; rw [h] at this; rw [Lib.toList_data]; exact List.eq_nil_of_length_eq_zero this.symm
theorem fold_empty (nm : List UInt8) (wd : Nat) (f : Bool) : (nm ++ [58] ++ [32]) ++ foldGo f wd (words []) = nm ++ [58] ++ foldGo true (nm.length + 1) (cutGo [] []) := by
  simp [words, cutGo, foldGo]
theorem fold_some (nm l : List UInt8) (h : l ≠ []) : (nm ++ [58]) ++ foldGo (decide (0 = 0)) (nm ++ [58]).length ((words l).drop 0) = nm ++ [58] ++ foldGo true (nm.length + 1) (cutGo [] l) := by
  rw [words, if_neg h]
  simp

set_option maxHeartbeats 4000000 in
set_option maxRecDepth 100000 in
theorem implFh_any (nm s : ByteArray) (w : World) (hA : tb.TA w) (hm : nm.size ≤ 1048576) (hs : s.size ≤ 1048576) :
    Calls Tryd.prog 21 #[.string nm, .string s] w fun e w' => FhRet nm s e ∧ Below w.heap.size w w' := by
  by_cases h1 : nm.size ≤ 65536
  case neg =>
    have h' : (65536 : Int) < (nm.size : Int) := by omega
    clear hA
    go_enter Tryd.func21, Tryd.ntmps21
    go_wp2
    go_ret2
    exact ⟨.inl ⟨by omega, rfl⟩, Below.refl _ _⟩
  have h1' : decide ((65536 : Int) < (nm.size : Int)) = false := decide_eq_false (by omega)
  by_cases h2 : s.size ≤ 65536
  case neg =>
    have h' : (65536 : Int) < (s.size : Int) := by omega
    clear hA
    go_enter Tryd.func21, Tryd.ntmps21
    go_wp2
    go_ret2
    exact ⟨.inl ⟨by omega, rfl⟩, Below.refl _ _⟩
  have h2' : decide ((65536 : Int) < (s.size : Int)) = false := decide_eq_false (by omega)
  obtain ⟨i0, hi, hz0, hz1, hz2⟩ := info_parts bl.info1
  have HT : Hid (∀ W, Below w.heap.size w W → tb.TA W) := fun W hW => tb.keep' hA hW
  clear hA
  go_enter Tryd.func21, Tryd.ntmps21
  go_wp2_with fail
  refine (hn.impl_any nm _ (by unfold maxLen; omega)).mono ?_
  rintro e w' ⟨hsn, hww⟩
  rw [hww]
  clear hww
  by_cases hname : hn.IsName nm
  case neg =>
    obtain rfl := name_false hsn hname
    clear hsn
    go_wp2
    go_ret2
    exact ⟨.inr (.inl ⟨h1, h2, fun x => hname x.1, rfl⟩), Below.refl _ _⟩
  obtain rfl := name_true hsn hname
  have hm2 : nm.size ≤ 40 := hname.2.1
  have HNM : Hid (hn.IsName nm) := hname
  clear hsn hname
  go_wp2_with fail
  refine (sv.impl_any s _ (by unfold maxLen; omega)).mono ?_
  rintro e w2 ⟨hsv, hww⟩
  rw [hww]
  clear hww
  by_cases hsafe : hd.Safe s.data.toList
  case neg =>
    obtain rfl := sv.says_false hsv hsafe
    clear hsv
    go_wp2
    go_ret2
    exact ⟨.inr (.inl ⟨h1, h2, fun x => hsafe x.2, rfl⟩), Below.refl _ _⟩
  obtain rfl := sv.says_true hsv hsafe
  have h3 : s.size ≤ 2000 := by have := hsafe.1; rw [← Lib.size_eq] at this; exact this
  have HS : Hid (hd.Safe s.data.toList) := hsafe
  clear hsv hsafe
  obtain ⟨W1, cap, hcv, hown, hb1⟩ : ∃ W1 cap, (convert 9 22 (.string nm)).run Tryd.prog w = .ok (.slice (some ⟨w.heap.size, 0, none⟩) nm.size cap) W1 ∧ ow.OwnC W1 w.heap.size (.slice (some ⟨w.heap.size, 0, none⟩) nm.size cap) nm.data.toList ∧ Below w.heap.size w W1 :=
    ⟨_, _, Lib.run_convert_string_bytes (P := Tryd.prog) w 9 22 5 nm Tryd.underlying9 Tryd.underlying22 Tryd.underlying5, ow.ownC_conv w 5 nm (by unfold maxLen; omega), ow.below_conv w 5 nm⟩
  have hB1 := hb1.size
  have hml : nm.data.toList.length ≤ 40 := by rw [← Lib.size_eq]; exact hm2
  go_upto_region 6 with (at_builtin; refine ow.wp_bytes _ rfl _ _ 22 rfl w.heap.size 5 i0 Tryd.underlying22 hi hz0 hz1 hz2 (.slice (some ⟨w.heap.size, 0, none⟩) nm.size cap) nm.data.toList rfl (ow.ownC_alloc hown _) ⟨W1.heap.size, 0, none⟩ 1 1 [58] rfl rfl (ow.cells_new _ [.int .u8 58] _) (by omega) (by simp; omega) ?_; intro v2 W2 hown2 hgrow2 hblk2)
  have hbw2 := ow.app_below (ow.ownC_alloc hown (.cells #[.int .u8 58] 5)) (hb1.alloc hB1 _) (by simp; omega) hgrow2
  have hB2 := hbw2.size
  obtain ⟨l2, hl2⟩ : ∃ l2, l2 = nm.data.toList ++ [58] := ⟨_, rfl⟩
  rw [← hl2] at hown2
  have hll2 : l2.length ≤ 41 := by rw [hl2]; simp; omega
  have HL2 : Hid (l2 = nm.data.toList ++ [58]) := hl2
  clear hl2 hgrow2 hblk2 hown hcv hb1 hB1
  obtain ⟨ao2, cap2, rfl⟩ := ow.ownC_slice hown2
  obtain ⟨tot, htot⟩ : ∃ tot, tot = nm.data.toList ++ [58] ++ foldGo true (nm.data.toList.length + 1) (cutGo [] s.data.toList) := ⟨_, rfl⟩
  have HTOT : Hid (tot = nm.data.toList ++ [58] ++ foldGo true (nm.data.toList.length + 1) (cutGo [] s.data.toList)) := htot
  clear htot
  by_cases h0 : s.size = 0
  all_goals
    first
    | (have z : s.toList.isEmpty = true := by rw [empty_iff]; exact decide_eq_true h0
       have HE : Hid (s.data.toList = []) := List.eq_nil_of_length_eq_zero (by rw [← Lib.size_eq]; exact h0)
       clear h0
       go_upto_region 8 with (at_builtin; refine ow.wp_bytes _ rfl _ _ 22 rfl w.heap.size 5 i0 Tryd.underlying22 hi hz0 hz1 hz2 (.slice ao2 l2.length cap2) l2 rfl (ow.ownC_alloc hown2 _) ⟨W2.heap.size, 0, none⟩ 1 1 [32] rfl rfl (ow.cells_new _ [.int .u8 32] _) (by omega) (by simp; omega) ?_; intro vF WF hownF hgrowF hblkF)
       have hbwF := ow.app_below (ow.ownC_alloc hown2 (.cells #[.int .u8 32] 5)) (hbw2.alloc hB2 _) (by simp; omega) hgrowF
       obtain ⟨lF, hlF⟩ : ∃ lF, lF = l2 ++ [32] := ⟨_, rfl⟩
       rw [← hlF] at hownF
       have hllF : lF.length ≤ 42 := by rw [hlF]; simp; omega
       have HF : Hid (lF ++ foldGo (decide (0 = 0)) lF.length ((words s.data.toList).drop 0) = tot) := by rw [hlF, HTOT.out, HE.out, HL2.out]; exact fold_empty _ _ _
       obtain ⟨aoF, capF, rfl⟩ := ow.ownC_slice hownF
       clear hlF hgrowF hblkF hown2 hbw2 z HE)
    | (have z : s.toList.isEmpty = false := by rw [empty_iff]; exact decide_eq_false h0
       have HE : Hid (s.data.toList ≠ []) := fun e => h0 (by rw [Lib.size_eq, e]; rfl)
       clear h0
       go_upto_region 8 with fail
       obtain ⟨lF, hlF⟩ : ∃ lF, lF = l2 := ⟨_, rfl⟩
       obtain ⟨WF, hWF⟩ : ∃ WF, WF = W2 := ⟨_, rfl⟩
       obtain ⟨aoF, haF⟩ : ∃ aoF, aoF = ao2 := ⟨_, rfl⟩
       obtain ⟨capF, hcF⟩ : ∃ capF, capF = cap2 := ⟨_, rfl⟩
       rw [← hlF, ← hWF, ← haF, ← hcF] at hown2 ⊢
       rw [← hWF] at hbw2
       have hllF : lF.length ≤ 42 := by rw [hlF]; omega
       have HF : Hid (lF ++ foldGo (decide (0 = 0)) lF.length ((words s.data.toList).drop 0) = tot) := by rw [hlF, HTOT.out, HL2.out]; exact fold_some _ _ HE.out
       have hownF := hown2
       have hbwF := hbw2
       clear hlF hWF haF hcF hown2 hbw2 z HE)
  all_goals
    go_wp2_with fail
    refine (Tryd.strings_Fields s WF (by omega) (fun j b hj => by have := hd.ascii HS.out b (List.mem_of_getElem? hj); omega) (tb.ta_is (HT.out _ hbwF))).mono ?_
    rw [hd.fields_safe HS.out]
    obtain ⟨ws, hws⟩ : ∃ ws, ws = words s.data.toList := ⟨_, rfl⟩
    rw [← hws] at HF ⊢
    rintro e W3 ⟨rfl, hW3⟩
    have HX : Hid (∀ x ∈ ws, x.length ≤ 2000) := fun x hx => by
      rw [hws] at hx
      unfold words at hx
      split at hx
      · cases hx
      · have := hd.cutGo_mem _ _ _ hx
        rw [← Lib.size_eq] at this
        simp at this
        omega
    have hn2 : ws.length ≤ 2001 := by
      rw [hws]
      unfold words
      split
      · simp
      · have := hd.cutGo_len s.data.toList []
        rw [← Lib.size_eq] at this
        simp at this
        omega
    clear hws
    have hown3 : ow.OwnC W3 w.heap.size (.slice aoF lF.length capF) lF := by rw [hW3]; exact ow.ownC_alloc hownF _
    have hne3 : (Value.slice aoF lF.length capF).ownBlock ≠ some WF.heap.size := by
      obtain ⟨g, c, hv, _, hlt, _⟩ := hownF
      cases hv
      intro e
      have : g = WF.heap.size := by simpa [Value.ownBlock] using e
      omega
    have hbw3 : Below w.heap.size w W3 := by rw [hW3]; exact hbwF.alloc hbwF.size _
    have hls3 : W3.heap[WF.heap.size]? = some (.cells (ws.map tv).toArray 9 (0, 0)) := by rw [hW3]; exact heap_alloc_new _ _
    obtain ⟨G, hG⟩ : ∃ G, G = WF.heap.size := ⟨_, rfl⟩
    obtain ⟨n, hn⟩ : ∃ n, n = ws.length := ⟨_, rfl⟩
    rw [← hG] at hne3 hls3 ⊢
    rw [← hn] at hn2 ⊢
    have HN : Hid (n = ws.length) := hn
    clear hn hW3 hownF hbwF hG
    go_wp2
    go_loopw [6, 7, 40] (fun v b i wr => ∃ (k wd : Nat) (ao : Option Addr) (cp : Nat) (l : List UInt8), k ≤ n ∧ i = .int .i64 k ∧ v = .slice ao l.length cp ∧ b = .int .i64 wd ∧ wd ≤ 42 + k * 2001 ∧ l.length ≤ 42 + k * 2003 ∧ ow.OwnC wr w.heap.size (.slice ao l.length cp) l ∧ (Value.slice ao l.length cp).ownBlock ≠ some G ∧ wr.heap[G]? = some (.cells (ws.map tv).toArray 9 (0, 0)) ∧ Below w.heap.size w wr ∧ Hid (l ++ foldGo (decide (k = 0)) wd (ws.drop k) = tot)) (fun _ _ i _ => n - (intOf i).toNat)
    case atStart => exact ⟨0, lF.length, aoF, capF, lF, Nat.zero_le _, rfl, rfl, rfl, by omega, by omega, hown3, hne3, hls3, hbw3, HF⟩
    case round =>
      obtain ⟨k, wd, ao, cp, l, hk, rfl, rfl, rfl, hwd, hll, hownR, hneR, hlsR, hbwR, HD⟩ := hrel
      have hBR := hbwR.size
      by_cases hlt : k < n
      · have hx0 : ws[k]? = some (ws[k]'(by have := HN.out; omega)) := List.getElem?_eq_getElem _
        obtain ⟨x, hx⟩ : ∃ x, ws[k]? = some x := ⟨_, hx0⟩
        clear hx0
        have hc0 : wr.cell? ⟨G, k, none⟩ = some (.string ⟨x.toArray⟩) := by
          rw [cell_of_row wr _ k _ _ _ hlsR]
          simp [hx, tv]
        have hxl : x.length ≤ 2000 := HX.out x (List.mem_of_getElem? hx)
        have hlt' : (k : Int) < (n : Int) := by omega
        obtain ⟨X, hX⟩ : ∃ X : ByteArray, X = ⟨x.toArray⟩ := ⟨_, rfl⟩
        have hXz : X.size = x.length := by rw [hX, Lib.size_eq]
        have hXs : X.size ≤ 2000 := by omega
        have hXs' : (X.size : Int) ≤ 2000 := by omega
        have hXl : X.data.toList = x := by rw [hX]
        rw [← hX] at hc0
        have HXL : Hid (X.data.toList = x ∧ X.size = x.length) := ⟨hXl, hXz⟩
        have HK : Hid (ws[k]? = some x) := hx
        clear hX hXl hx hXz
        have hwd' : (wd : Int) ≤ 5000000 := by omega
        by_cases hk0 : k = 0
        · have d0 : decide (0 < k) = false := decide_eq_false (by omega)
          have d1 : decide ((0 : Int) < (k : Int)) = false := decide_eq_false (by omega)
          have HK0 : Hid (k = 0) := hk0
          clear hk0
          go_upto_region 16 with (at_builtin; refine ow.wp_bytes _ rfl _ _ 22 rfl w.heap.size 5 i0 Tryd.underlying22 hi hz0 hz1 hz2 (.slice ao l.length cp) l rfl (ow.ownC_alloc hownR _) ⟨wr.heap.size, 0, none⟩ 1 1 [32] rfl rfl (ow.cells_new _ [.int .u8 32] _) (by omega) (by simp; omega) ?_; intro vB WB hownB hgrowB hblkB)
          have hbwB := ow.app_below (ow.ownC_alloc hownR (.cells #[.int .u8 32] 5)) (hbwR.alloc hBR _) (by simp; omega) hgrowB
          have hlB := ow.kept_block (v := .slice ao l.length cp) hneR hgrowB ((Below.heap_alloc _ _ _ (Array.getElem?_eq_some_iff.1 hlsR).1).trans hlsR) hblkB
          have hBB := hbwB.size
          obtain ⟨aoB, cpB, rfl⟩ := ow.ownC_slice hownB
          clear hgrowB hblkB
          go_upto_region 17 with (at_builtin; refine ow.wp_text _ rfl _ _ 22 9 rfl w.heap.size 5 i0 Tryd.underlying22 Tryd.underlying9 hi hz0 hz1 hz2 (.slice aoB (l ++ [32]).length cpB) (l ++ [32]) rfl hownB X rfl (by simp; omega) (by omega) ?_; intro vC WC hownC hgrowC hblkC)
          have hbwC := ow.app_below hownB hbwB hBB hgrowC
          have hlC := ow.kept_block (v := .slice aoB (l ++ [32]).length cpB) hlB.2 hgrowC hlB.1 hblkC
          obtain ⟨aoC, cpC, rfl⟩ := ow.ownC_slice hownC
          clear hgrowC hblkC hownB hbwB hlB
          go_wp2
          go_roundw
          case rel =>
            refine ⟨k + 1, wd + (1 + X.size), aoC, cpC, l ++ [32] ++ X.data.toList, by omega, by go_num, rfl, by go_num, by omega, by simp; omega, hownC, hlC.2, hlC.1, hbwC, ?_⟩
            have := step_no HK.out (.inl HK0.out) HD.out
            rw [HXL.out.2, ← this, ← HXL.out.1]
            simp
            exact (trivial : True)
          case measure => simp [intOf]; omega
        have d0 : decide (0 < k) = true := decide_eq_true (by omega)
        have d1 : (0 : Int) < (k : Int) := by omega
        by_cases hf : 78 < wd + 1 + X.size
        · have f1 : (78 : Int) < (wd : Int) + 1 + (X.size : Int) := by omega
          go_upto_region 14 with (at_builtin; refine ow.wp_text _ rfl _ _ 22 9 rfl w.heap.size 5 i0 Tryd.underlying22 Tryd.underlying9 hi hz0 hz1 hz2 (.slice ao l.length cp) l rfl hownR ⟨#[13, 10]⟩ rfl (by show _ + 2 ≤ _; omega) (by omega) ?_; intro vA WA hownA hgrowA hblkA)
          have hbwA := ow.app_below hownR hbwR hBR hgrowA
          have hlA := ow.kept_block (v := .slice ao l.length cp) hneR hgrowA hlsR hblkA
          have hBA := hbwA.size
          have hownA2 : ow.OwnC WA w.heap.size vA (l ++ [13, 10]) := hownA
          obtain ⟨aoA, cpA, rfl⟩ := ow.ownC_slice hownA2
          clear hgrowA hblkA hownA
          go_upto_region 16 with (at_builtin; refine ow.wp_bytes _ rfl _ _ 22 rfl w.heap.size 5 i0 Tryd.underlying22 hi hz0 hz1 hz2 (.slice aoA (l ++ [13, 10]).length cpA) (l ++ [13, 10]) rfl (ow.ownC_alloc hownA2 _) ⟨WA.heap.size, 0, none⟩ 1 1 [32] rfl rfl (ow.cells_new _ [.int .u8 32] _) (by simp; omega) (by simp; omega) ?_; intro vB WB hownB hgrowB hblkB)
          have hbwB := ow.app_below (ow.ownC_alloc hownA2 (.cells #[.int .u8 32] 5)) (hbwA.alloc hBA _) (by simp; omega) hgrowB
          have hlB := ow.kept_block (v := .slice aoA (l ++ [13, 10]).length cpA) hlA.2 hgrowB ((Below.heap_alloc _ _ _ (Array.getElem?_eq_some_iff.1 hlA.1).1).trans hlA.1) hblkB
          have hBB := hbwB.size
          obtain ⟨aoB, cpB, rfl⟩ := ow.ownC_slice hownB
          clear hgrowB hblkB
          go_upto_region 17 with (at_builtin; refine ow.wp_text _ rfl _ _ 22 9 rfl w.heap.size 5 i0 Tryd.underlying22 Tryd.underlying9 hi hz0 hz1 hz2 (.slice aoB ((l ++ [13, 10]) ++ [32]).length cpB) ((l ++ [13, 10]) ++ [32]) rfl hownB X rfl (by simp; omega) (by omega) ?_; intro vC WC hownC hgrowC hblkC)
          have hbwC := ow.app_below hownB hbwB hBB hgrowC
          have hlC := ow.kept_block (v := .slice aoB ((l ++ [13, 10]) ++ [32]).length cpB) hlB.2 hgrowC hlB.1 hblkC
          obtain ⟨aoC, cpC, rfl⟩ := ow.ownC_slice hownC
          clear hgrowC hblkC hownB hbwB hlB
          go_wp2
          go_roundw
          case rel =>
            refine ⟨k + 1, 0 + (1 + X.size), aoC, cpC, l ++ [13, 10] ++ [32] ++ X.data.toList, by omega, by go_num, rfl, by go_num, by omega, by simp; omega, hownC, hlC.2, hlC.1, hbwC, ?_⟩
            have := step_yes HK.out hk0 (by rw [← HXL.out.2]; exact hf) HD.out
            rw [HXL.out.2, ← this, ← HXL.out.1]
            simp
            exact (trivial : True)
          case measure => simp [intOf]; omega
        · have f1 : (wd : Int) + 1 + (X.size : Int) ≤ 78 := by omega
          go_upto_region 16 with (at_builtin; refine ow.wp_bytes _ rfl _ _ 22 rfl w.heap.size 5 i0 Tryd.underlying22 hi hz0 hz1 hz2 (.slice ao l.length cp) l rfl (ow.ownC_alloc hownR _) ⟨wr.heap.size, 0, none⟩ 1 1 [32] rfl rfl (ow.cells_new _ [.int .u8 32] _) (by omega) (by simp; omega) ?_; intro vB WB hownB hgrowB hblkB)
          have hbwB := ow.app_below (ow.ownC_alloc hownR (.cells #[.int .u8 32] 5)) (hbwR.alloc hBR _) (by simp; omega) hgrowB
          have hlB := ow.kept_block (v := .slice ao l.length cp) hneR hgrowB ((Below.heap_alloc _ _ _ (Array.getElem?_eq_some_iff.1 hlsR).1).trans hlsR) hblkB
          have hBB := hbwB.size
          obtain ⟨aoB, cpB, rfl⟩ := ow.ownC_slice hownB
          clear hgrowB hblkB
          go_upto_region 17 with (at_builtin; refine ow.wp_text _ rfl _ _ 22 9 rfl w.heap.size 5 i0 Tryd.underlying22 Tryd.underlying9 hi hz0 hz1 hz2 (.slice aoB (l ++ [32]).length cpB) (l ++ [32]) rfl hownB X rfl (by simp; omega) (by omega) ?_; intro vC WC hownC hgrowC hblkC)
          have hbwC := ow.app_below hownB hbwB hBB hgrowC
          have hlC := ow.kept_block (v := .slice aoB (l ++ [32]).length cpB) hlB.2 hgrowC hlB.1 hblkC
          obtain ⟨aoC, cpC, rfl⟩ := ow.ownC_slice hownC
          clear hgrowC hblkC hownB hbwB hlB
          go_wp2
          go_roundw
          case rel =>
            refine ⟨k + 1, wd + (1 + X.size), aoC, cpC, l ++ [32] ++ X.data.toList, by omega, by go_num, rfl, by go_num, by omega, by simp; omega, hownC, hlC.2, hlC.1, hbwC, ?_⟩
            have := step_no HK.out (.inr (by rw [← HXL.out.2]; omega)) HD.out
            rw [HXL.out.2, ← this, ← HXL.out.1]
            simp
            exact (trivial : True)
          case measure => simp [intOf]; omega
      · have hge : (n : Int) ≤ (k : Int) := by omega
        go_upto_region 19 with fail
        go_wp2_with (at_builtin; refine ow.wp_text _ rfl _ _ 22 9 rfl w.heap.size 5 i0 Tryd.underlying22 Tryd.underlying9 hi hz0 hz1 hz2 (.slice ao l.length cp) l rfl hownR ⟨#[13, 10]⟩ rfl (by show _ + 2 ≤ _; omega) (by omega) ?_; intro vZ WZ hownZ hgrowZ hblkZ; have hcvZ := ow.conv_ownC (P := Tryd.prog) (src := 22) (dst := 9) _ hownZ Tryd.underlying22 Tryd.underlying5 Tryd.underlying9)
        go_ret2
        refine ⟨.inr (.inr ⟨h1, h2, ⟨HNM.out, HS.out⟩, _, ?_, rfl⟩), ow.app_below hownR hbwR hBR hgrowZ⟩
        have := step_end (by have := HN.out; omega) HD.out
        unfold foldL
        rw [← HTOT.out, ← this]
end Go.Proofs.YtpbmofofigkpjaaDoor.hf
