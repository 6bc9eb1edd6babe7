/-
  The contract of the program's DecodeWords, and the specification's.
-/
import Derived.Test.YtpbmofofigkpjaaDoorDcl
namespace Go.Proofs.YtpbmofofigkpjaaDoor.hd
open Go.RowKit
set_option linter.unusedVariables false

theorem dec_words {l o : List UInt8} : Dec true false (words l) o → Dec true false (cutGo [] l) o := by
  unfold words
  split
  · rename_i h
    subst h
    intro h
    exact dec_empty.2 h
  · exact id
theorem byte32K (B b : Nat) (l : List UInt8) (w : World) (h : bl.Bd B b l w) (hlen : l.length + 1 ≤ 140737488355328) (hBw : B ≤ w.heap.size) :
    Calls Tryd.prog 44 #[.pointer (some ⟨b, 0, none⟩), .int .u8 32] w fun e w' => (∃ v, e = .returned v) ∧ bl.Bd B b (l ++ [32]) w' ∧ Below B w w' ∧ bl.Others b w w' := bl.byteK B b l 32 w h hlen hBw
theorem kinds2 : (9 : TypeId) ≠ 5 := by decide
/-- What both DecodeWords functions answer. -/
def DwRet (s : ByteArray) (e : Ending) : Prop :=
  (65536 < s.size ∧ e = .returned (.tuple #[.string ⟨#[]⟩, .int .i64 2])) ∨
  (s.size ≤ 65536 ∧ ¬ Safe s.data.toList ∧ e = .returned (.tuple #[.string ⟨#[]⟩, .int .i64 3])) ∨
  (s.size ≤ 65536 ∧ Safe s.data.toList ∧ ∃ r : ByteArray, Dec true false (cutGo [] s.data.toList) r.data.toList ∧ e = .returned (.tuple #[.string r, .int .i64 0]))
theorem dw_ex {s : ByteArray} {e : Ending} (h : DwRet s e) : ∃ (r : ByteArray) (c : Int), e = .returned (.tuple #[.string r, .int .i64 c]) := by
  rcases h with ⟨_, rfl⟩ | ⟨_, _, rfl⟩ | ⟨_, _, r, _, rfl⟩ <;> exact ⟨_, _, rfl⟩
theorem dw_same {s r r' : ByteArray} {c c' : Int} (h : DwRet s (.returned (.tuple #[.string r, .int .i64 c]))) (h' : DwRet s (.returned (.tuple #[.string r', .int .i64 c']))) : r = r' ∧ c = c' := by
  rcases h with ⟨a, h⟩ | ⟨a, a2, h⟩ | ⟨a, a2, q, hq, h⟩ <;>
  rcases h' with ⟨b, h'⟩ | ⟨b, b2, h'⟩ | ⟨b, b2, q', hq', h'⟩ <;>
  cases h <;> cases h' <;>
  first | exact ⟨rfl, rfl⟩ | exact ⟨ByteArray.ext (Array.toList_inj.1 (dec_one _ _ _ _ _ hq hq')), rfl⟩ | (exfalso; omega) | (exfalso; exact a2 b2) | (exfalso; exact b2 a2)

set_option maxHeartbeats 4000000 in
set_option maxRecDepth 100000 in
theorem implDw_any (s : ByteArray) (w : World) (hV : tb.TV w) (hA : tb.TA w) (hs : s.size ≤ 1048576) :
    Calls Tryd.prog 17 #[.string s] w fun e w' => DwRet s e ∧ Below w.heap.size w w' := by
  by_cases h : s.size ≤ 65536
  case neg =>
    have h' : (65536 : Int) < (s.size : Int) := by omega
    clear hV hA
    go_enter Tryd.func17, Tryd.ntmps17
    go_wp2
    go_ret2
    exact ⟨.inl ⟨by omega, rfl⟩, Below.refl _ _⟩
  have h' : (s.size : Int) ≤ 65536 := by omega
  have HT : Hid (∀ W, Below w.heap.size w W → tb.TV W ∧ tb.TA W) := fun W hW => ⟨tb.keep' hV hW, tb.keep' hA hW⟩
  clear hV hA
  go_enter Tryd.func17, Tryd.ntmps17
  go_wp2_with fail
  refine (sv.impl_any s _ (by unfold maxLen; omega)).mono ?_
  rintro e w' ⟨hsv, rfl⟩
  by_cases hsafe : Safe s.data.toList
  case neg =>
    obtain rfl := sv.says_false hsv hsafe
    clear hsv
    go_wp2
    go_ret2
    exact ⟨.inr (.inl ⟨h, hsafe, rfl⟩), Below.refl _ _⟩
  obtain rfl := sv.says_true hsv hsafe
  have h2 : s.size ≤ 2000 := by have := hsafe.1; rw [← Lib.size_eq] at this; exact this
  have HS : Hid (Safe s.data.toList) := hsafe
  clear hsv hsafe
  go_wp2_with fail
  have hb0 : Below w'.heap.size w' (w'.alloc (.cells #[.pointer none, .slice none 0 0] 44)) := (Below.refl _ _).alloc (Nat.le_refl _) _
  refine (Tryd.strings_Fields s _ (by omega) (fun j b hj => by have := ascii HS.out b (List.mem_of_getElem? hj); omega) (tb.ta_is (HT.out _ hb0).2)).mono ?_
  rw [fields_safe HS.out]
  obtain ⟨ws, hws⟩ : ∃ ws, ws = words s.data.toList := ⟨_, rfl⟩
  rw [← hws]
  rintro e W1 ⟨rfl, hW1⟩
  have HX : Hid (∀ x ∈ ws, x.length ≤ 2000) := fun x hx => by
    rw [hws] at hx
    unfold words at hx
    split at hx
    · cases hx
    · have := cutGo_mem _ _ _ hx
      rw [← Lib.size_eq] at this
      simp at this
      omega
  have hn2 : ws.length ≤ 2001 := by
    rw [hws]
    unfold words
    split
    · simp
    · have := cutGo_len s.data.toList []
      rw [← Lib.size_eq] at this
      simp at this
      omega
  have HW : Hid (ws = words s.data.toList) := hws
  clear hws
  have hsz0 : (w'.alloc (.cells #[.pointer none, .slice none 0 0] 44)).heap.size = w'.heap.size + 1 := by simp
  have hbd1 : bl.Bd w'.heap.size w'.heap.size [] W1 := by rw [hW1]; exact bl.keep (bl.fresh w') ((Below.refl _ _).alloc (Nat.le_refl _) _)
  have hbw1 : Below w'.heap.size w' W1 := by rw [hW1]; exact hb0.alloc hb0.size _
  have hls1 : W1.heap[w'.heap.size + 1]? = some (.cells (ws.map tv).toArray 9 (0, 0)) := by
    rw [hW1, ← hsz0]
    exact heap_alloc_new _ _
  clear hb0
  obtain ⟨n, hn⟩ : ∃ n, n = ws.length := ⟨_, rfl⟩
  rw [← hn] at hn2 ⊢
  have HN : Hid (n = ws.length) := hn
  clear hn hW1
  rw [hsz0]
  clear hsz0
  go_wp2
  go_loopw [5, 19] (fun b i wr => ∃ (k : Nat) (out : List UInt8) (was : Bool), k ≤ n ∧ i = .int .i64 k ∧ b = .bool was ∧ out.length ≤ k * 70000 ∧ bl.Bd w'.heap.size w'.heap.size out wr ∧ wr.heap[w'.heap.size + 1]? = some (.cells (ws.map tv).toArray 9 (0, 0)) ∧ Below w'.heap.size w' wr ∧ Hid (∀ o, Dec (decide (k = 0)) was (ws.drop k) o → Dec true false ws (out ++ o))) (fun _ i _ => n - (intOf i).toNat)
  case atStart => exact ⟨0, [], false, Nat.zero_le _, rfl, rfl, Nat.zero_le _, hbd1, hls1, hbw1, fun o h => h⟩
  case round =>
    obtain ⟨k, out, was, hk, rfl, rfl, ho, hbd, hls, hbw, HD⟩ := hrel
    by_cases hlt : k < n
    · have hx : ws[k]? = some (ws[k]'(by have := HN.out; omega)) := List.getElem?_eq_getElem _
      obtain ⟨x, hx⟩ : ∃ x, ws[k]? = some x := ⟨_, hx⟩
      have hc0 : wr.cell? ⟨w'.heap.size + 1, k, none⟩ = some (.string ⟨x.toArray⟩) := by
        rw [cell_of_row wr _ k _ _ _ hls]
        simp [hx, tv]
      have hxl : x.length ≤ 2000 := HX.out x (List.mem_of_getElem? hx)
      have hlt' : (k : Int) < (n : Int) := by omega
      obtain ⟨X, hX⟩ : ∃ X : ByteArray, X = ⟨x.toArray⟩ := ⟨_, rfl⟩
      have hXs : X.size ≤ 2000 := by rw [hX, Lib.size_eq]; exact hxl
      have hXl : X.data.toList = x := by rw [hX]
      rw [← hX] at hc0
      have HXL : Hid (X.data.toList = x) := hXl
      have HK : Hid (ws[k]? = some x) := hx
      clear hX hXl hx
      go_wp2_with fail
      refine (implWord_any X _ (HT.out wr hbw).1 hXs).mono ?_
      rintro e W2 ⟨⟨y, b, rfl, hyb⟩, hb2⟩
      rw [HXL.out] at hyb
      have hbd2 := bl.keep hbd hb2
      have hls2 := (hb2.block _ (Array.getElem?_eq_some_iff.1 hls).1).trans hls
      have hbw2 := hbw.trans (hb2.mono hbw.size)
      obtain ⟨Y, hY⟩ : ∃ Y : ByteArray, Y = ⟨y.toArray⟩ := ⟨_, rfl⟩
      have HYL : Hid (Y.data.toList = y) := by rw [hY]; exact rfl
      have HYB : Hid (WordIs x y b) := hyb
      have hYs : Y.size ≤ 65536 := by
        rw [hY, Lib.size_eq]
        show y.length ≤ _
        rcases hyb with ⟨_, h⟩ | ⟨_, h, _⟩
        · exact coded_len h hxl
        · rw [h]; omega
      rw [← hY]
      clear hY hyb hbd hls hbw hb2 hc0
      have hB2 := hbw2.size
      by_cases hk0 : k = 0
      · have d0 : decide (0 < k) = false := decide_eq_false (by omega)
        have d1 : decide ((0 : Int) < (k : Int)) = false := decide_eq_false (by omega)
        have HK0 : Hid (k = 0) := hk0
        clear hk0
        cases b with
        | false =>
          cases was with
          | false =>
            have hbd3 := hbd2
            have hls3 := hls2
            have hbw3 := hbw2
            clear hbd2 hls2 hbw2
            have hB3 := hbw3.size
            go_wp2_with fail
            refine (bl.textK _ _ _ Y _ hbd3 (by first | omega | (simp; omega)) hB3).mono ?_
            rintro e W4 ⟨⟨v4, rfl⟩, hbd4, hb4, ho4⟩
            have hls4 := ho4 _ _ _ _ (by omega) kinds2 hls3
            have hbw4 := hbw3.trans hb4
            clear hbd3 hls3 hbw3 hb4 ho4
            go_wp2
            go_roundw
            case rel =>
              have e : out ++ Y.data.toList = out ++ (if decide (k = 0) = true then [] else [32]) ++ x := by
                rw [HYL.out]
                rcases HYB.out with ⟨h, _⟩ | ⟨_, h, _⟩
                · cases h
                · rw [h]
                  simp [HK0.out]
              exact ⟨k + 1, out ++ Y.data.toList, false, by omega, by go_num, rfl, by rw [List.length_append, ← Lib.size_eq]; omega, hbd4, hls4, hbw4, fun o h => by rw [e]; exact next_plain HK.out HD.out (by rcases HYB.out with ⟨h, _⟩ | ⟨_, _, h⟩; cases h; exact h) o h⟩
            case measure => simp [intOf]; omega
          | true =>
            have hbd3 := hbd2
            have hls3 := hls2
            have hbw3 := hbw2
            clear hbd2 hls2 hbw2
            have hB3 := hbw3.size
            go_wp2_with fail
            refine (bl.textK _ _ _ Y _ hbd3 (by first | omega | (simp; omega)) hB3).mono ?_
            rintro e W4 ⟨⟨v4, rfl⟩, hbd4, hb4, ho4⟩
            have hls4 := ho4 _ _ _ _ (by omega) kinds2 hls3
            have hbw4 := hbw3.trans hb4
            clear hbd3 hls3 hbw3 hb4 ho4
            go_wp2
            go_roundw
            case rel =>
              have e : out ++ Y.data.toList = out ++ (if decide (k = 0) = true then [] else [32]) ++ x := by
                rw [HYL.out]
                rcases HYB.out with ⟨h, _⟩ | ⟨_, h, _⟩
                · cases h
                · rw [h]
                  simp [HK0.out]
              exact ⟨k + 1, out ++ Y.data.toList, false, by omega, by go_num, rfl, by rw [List.length_append, ← Lib.size_eq]; omega, hbd4, hls4, hbw4, fun o h => by rw [e]; exact next_plain HK.out HD.out (by rcases HYB.out with ⟨h, _⟩ | ⟨_, _, h⟩; cases h; exact h) o h⟩
            case measure => simp [intOf]; omega
        | true =>
          cases was with
          | false =>
            have hbd3 := hbd2
            have hls3 := hls2
            have hbw3 := hbw2
            clear hbd2 hls2 hbw2
            have hB3 := hbw3.size
            go_wp2_with fail
            refine (bl.textK _ _ _ Y _ hbd3 (by first | omega | (simp; omega)) hB3).mono ?_
            rintro e W4 ⟨⟨v4, rfl⟩, hbd4, hb4, ho4⟩
            have hls4 := ho4 _ _ _ _ (by omega) kinds2 hls3
            have hbw4 := hbw3.trans hb4
            clear hbd3 hls3 hbw3 hb4 ho4
            go_wp2
            go_roundw
            case rel =>
              have e : out ++ Y.data.toList = out ++ (if (decide (k = 0) || false) = true then [] else [32]) ++ y := by
                rw [HYL.out]
                simp [HK0.out]
              exact ⟨k + 1, out ++ Y.data.toList, true, by omega, by go_num, rfl, by rw [List.length_append, ← Lib.size_eq]; omega, hbd4, hls4, hbw4, fun o h => by rw [e]; exact next_code HK.out HD.out (by rcases HYB.out with ⟨_, h⟩ | ⟨h, _⟩; exact h; cases h) o h⟩
            case measure => simp [intOf]; omega
          | true =>
            have hbd3 := hbd2
            have hls3 := hls2
            have hbw3 := hbw2
            clear hbd2 hls2 hbw2
            have hB3 := hbw3.size
            go_wp2_with fail
            refine (bl.textK _ _ _ Y _ hbd3 (by first | omega | (simp; omega)) hB3).mono ?_
            rintro e W4 ⟨⟨v4, rfl⟩, hbd4, hb4, ho4⟩
            have hls4 := ho4 _ _ _ _ (by omega) kinds2 hls3
            have hbw4 := hbw3.trans hb4
            clear hbd3 hls3 hbw3 hb4 ho4
            go_wp2
            go_roundw
            case rel =>
              have e : out ++ Y.data.toList = out ++ (if (decide (k = 0) || true) = true then [] else [32]) ++ y := by
                rw [HYL.out]
                simp [HK0.out]
              exact ⟨k + 1, out ++ Y.data.toList, true, by omega, by go_num, rfl, by rw [List.length_append, ← Lib.size_eq]; omega, hbd4, hls4, hbw4, fun o h => by rw [e]; exact next_code HK.out HD.out (by rcases HYB.out with ⟨_, h⟩ | ⟨h, _⟩; exact h; cases h) o h⟩
            case measure => simp [intOf]; omega
      · have d0 : decide (0 < k) = true := decide_eq_true (by omega)
        have d1 : (0 : Int) < (k : Int) := by omega
        cases b with
        | false =>
          cases was with
          | false =>
            go_wp2_with fail
            refine (byte32K _ _ out _ hbd2 (by omega) hB2).mono ?_
            rintro e W3 ⟨⟨v3, rfl⟩, hbd3, hb3, ho3⟩
            have hls3 := ho3 _ _ _ _ (by omega) kinds2 hls2
            have hbw3 := hbw2.trans hb3
            clear hbd2 hls2 hbw2 hb3 ho3
            have hB3 := hbw3.size
            go_wp2_with fail
            refine (bl.textK _ _ _ Y _ hbd3 (by first | omega | (simp; omega)) hB3).mono ?_
            rintro e W4 ⟨⟨v4, rfl⟩, hbd4, hb4, ho4⟩
            have hls4 := ho4 _ _ _ _ (by omega) kinds2 hls3
            have hbw4 := hbw3.trans hb4
            clear hbd3 hls3 hbw3 hb4 ho4
            go_wp2
            go_roundw
            case rel =>
              have e : out ++ [32] ++ Y.data.toList = out ++ (if decide (k = 0) = true then [] else [32]) ++ x := by
                rw [HYL.out]
                rcases HYB.out with ⟨h, _⟩ | ⟨_, h, _⟩
                · cases h
                · rw [h]
                  simp [hk0]
              exact ⟨k + 1, out ++ [32] ++ Y.data.toList, false, by omega, by go_num, rfl, by rw [List.length_append, ← Lib.size_eq]; simp; omega, hbd4, hls4, hbw4, fun o h => by rw [e]; exact next_plain HK.out HD.out (by rcases HYB.out with ⟨h, _⟩ | ⟨_, _, h⟩; cases h; exact h) o h⟩
            case measure => simp [intOf]; omega
          | true =>
            go_wp2_with fail
            refine (byte32K _ _ out _ hbd2 (by omega) hB2).mono ?_
            rintro e W3 ⟨⟨v3, rfl⟩, hbd3, hb3, ho3⟩
            have hls3 := ho3 _ _ _ _ (by omega) kinds2 hls2
            have hbw3 := hbw2.trans hb3
            clear hbd2 hls2 hbw2 hb3 ho3
            have hB3 := hbw3.size
            go_wp2_with fail
            refine (bl.textK _ _ _ Y _ hbd3 (by first | omega | (simp; omega)) hB3).mono ?_
            rintro e W4 ⟨⟨v4, rfl⟩, hbd4, hb4, ho4⟩
            have hls4 := ho4 _ _ _ _ (by omega) kinds2 hls3
            have hbw4 := hbw3.trans hb4
            clear hbd3 hls3 hbw3 hb4 ho4
            go_wp2
            go_roundw
            case rel =>
              have e : out ++ [32] ++ Y.data.toList = out ++ (if decide (k = 0) = true then [] else [32]) ++ x := by
                rw [HYL.out]
                rcases HYB.out with ⟨h, _⟩ | ⟨_, h, _⟩
                · cases h
                · rw [h]
                  simp [hk0]
              exact ⟨k + 1, out ++ [32] ++ Y.data.toList, false, by omega, by go_num, rfl, by rw [List.length_append, ← Lib.size_eq]; simp; omega, hbd4, hls4, hbw4, fun o h => by rw [e]; exact next_plain HK.out HD.out (by rcases HYB.out with ⟨h, _⟩ | ⟨_, _, h⟩; cases h; exact h) o h⟩
            case measure => simp [intOf]; omega
        | true =>
          cases was with
          | false =>
            go_wp2_with fail
            refine (byte32K _ _ out _ hbd2 (by omega) hB2).mono ?_
            rintro e W3 ⟨⟨v3, rfl⟩, hbd3, hb3, ho3⟩
            have hls3 := ho3 _ _ _ _ (by omega) kinds2 hls2
            have hbw3 := hbw2.trans hb3
            clear hbd2 hls2 hbw2 hb3 ho3
            have hB3 := hbw3.size
            go_wp2_with fail
            refine (bl.textK _ _ _ Y _ hbd3 (by first | omega | (simp; omega)) hB3).mono ?_
            rintro e W4 ⟨⟨v4, rfl⟩, hbd4, hb4, ho4⟩
            have hls4 := ho4 _ _ _ _ (by omega) kinds2 hls3
            have hbw4 := hbw3.trans hb4
            clear hbd3 hls3 hbw3 hb4 ho4
            go_wp2
            go_roundw
            case rel =>
              have e : out ++ [32] ++ Y.data.toList = out ++ (if (decide (k = 0) || false) = true then [] else [32]) ++ y := by
                rw [HYL.out]
                simp [hk0]
              exact ⟨k + 1, out ++ [32] ++ Y.data.toList, true, by omega, by go_num, rfl, by rw [List.length_append, ← Lib.size_eq]; simp; omega, hbd4, hls4, hbw4, fun o h => by rw [e]; exact next_code HK.out HD.out (by rcases HYB.out with ⟨_, h⟩ | ⟨h, _⟩; exact h; cases h) o h⟩
            case measure => simp [intOf]; omega
          | true =>
            have hbd3 := hbd2
            have hls3 := hls2
            have hbw3 := hbw2
            clear hbd2 hls2 hbw2
            have hB3 := hbw3.size
            go_wp2_with fail
            refine (bl.textK _ _ _ Y _ hbd3 (by first | omega | (simp; omega)) hB3).mono ?_
            rintro e W4 ⟨⟨v4, rfl⟩, hbd4, hb4, ho4⟩
            have hls4 := ho4 _ _ _ _ (by omega) kinds2 hls3
            have hbw4 := hbw3.trans hb4
            clear hbd3 hls3 hbw3 hb4 ho4
            go_wp2
            go_roundw
            case rel =>
              have e : out ++ Y.data.toList = out ++ (if (decide (k = 0) || true) = true then [] else [32]) ++ y := by
                rw [HYL.out]
                simp [hk0]
              exact ⟨k + 1, out ++ Y.data.toList, true, by omega, by go_num, rfl, by rw [List.length_append, ← Lib.size_eq]; omega, hbd4, hls4, hbw4, fun o h => by rw [e]; exact next_code HK.out HD.out (by rcases HYB.out with ⟨_, h⟩ | ⟨h, _⟩; exact h; cases h) o h⟩
            case measure => simp [intOf]; omega
    · have hge : (n : Int) ≤ (k : Int) := by omega
      go_wp2_with fail
      refine (bl.said _ _ out wr hbd hbw.size).mono ?_
      rintro e w1 ⟨rfl, hb1⟩
      go_wp2
      go_ret2
      exact ⟨.inr (.inr ⟨h, HS.out, _, dec_words (by rw [← HW.out]; exact dec_end (by have := HN.out; omega) HD.out), rfl⟩), hbw.trans hb1⟩
end Go.Proofs.YtpbmofofigkpjaaDoor.hd
