/-
  Contracts of both DecodeWords functions: what the words of a safe value say.
-/
import Derived.Test.YtpbmofofigkpjabDoorSwd
import Derived.Test.YtpbmofofigkpjabDoorCtl
import Derived.Test.YtpbmofofigkpjabDoorSvw
namespace Go.Proofs.YtpbmofofigkpjabDoor.hd
open Go.RowKit
set_option linter.unusedVariables false

theorem coded_len {x y : List UInt8} (h : Coded x y) (hx : x.length ≤ 2000) : y.length ≤ 65536 := by
  have h1 := b6.rl_len ⟨(mid x).toArray⟩
  have h2 := mid_len x
  have h3 : b6.rl ⟨(mid x).toArray⟩ = y := by
    unfold b6.rl
    rw [if_pos (by rw [Lib.size_eq]; show (mid x).length ≤ _; omega)]
    have : b6.dec (mid x) = some y := h.2.2.1
    show (b6.dec (mid x)).getD [] = y
    rw [this]
    rfl
  rw [h3] at h1
  exact h1
theorem next_code {ws : List (List UInt8)} {k : Nat} {x y out : List UInt8} {was : Bool} (hk : ws[k]? = some x) (H : ∀ o, Dec (decide (k = 0)) was (ws.drop k) o → Dec true false ws (out ++ o)) (hc : Coded x y) :
    ∀ o, Dec (decide (k + 1 = 0)) true (ws.drop (k + 1)) o → Dec true false ws ((out ++ (if (decide (k = 0) || was) = true then [] else [32]) ++ y) ++ o) := by
  intro o h
  have := H _ (by rw [Lib.drop_at hk]; exact dec_code hc h)
  simpa [List.append_assoc] using this
theorem next_plain {ws : List (List UInt8)} {k : Nat} {x out : List UInt8} {was : Bool} (hk : ws[k]? = some x) (H : ∀ o, Dec (decide (k = 0)) was (ws.drop k) o → Dec true false ws (out ++ o)) (hc : ∀ y, ¬ Coded x y) :
    ∀ o, Dec (decide (k + 1 = 0)) false (ws.drop (k + 1)) o → Dec true false ws ((out ++ (if decide (k = 0) = true then [] else [32]) ++ x) ++ o) := by
  intro o h
  have := H _ (by rw [Lib.drop_at hk]; exact dec_plain hc h)
  simpa [List.append_assoc] using this
theorem dec_end {ws : List (List UInt8)} {k : Nat} {out : List UInt8} {was f : Bool} (hk : ws.length ≤ k) (H : ∀ o, Dec f was (ws.drop k) o → Dec true false ws (out ++ o)) : Dec true false ws out := by
  rw [List.drop_eq_nil_of_le hk] at H
  have := H [] rfl
  rwa [List.append_nil] at this
/-- What a row of texts holds, cell by cell. -/
theorem row_at {w : World} {base n : Nat} {v : Value} {ws : List (List UInt8)} (h : w.ownsRow base 9 1 v n (ws.map tv)) (k : Nat) (hk : k < n) : ∃ g cap x, v = .slice (some ⟨g, 0, none⟩) n cap ∧ n ≤ cap ∧ ws[k]? = some x := by
  have hl : ws.length = n := by have := h.1; simpa using this
  rcases h.2 with ⟨_, h0⟩ | ⟨g, cap, cur, hv, _, _, hc, _⟩
  · omega
  · exact ⟨g, cap, ws[k]'(by omega), hv, hc, List.getElem?_eq_getElem (by omega)⟩
theorem row_cell {w : World} {base n g cap : Nat} {ws : List (List UInt8)} {x : List UInt8} (h : w.ownsRow base 9 1 (.slice (some ⟨g, 0, none⟩) n cap) n (ws.map tv)) (k : Nat) (hk : ws[k]? = some x) : w.cell? ⟨g, k, none⟩ = some (.string ⟨x.toArray⟩) := by
  have := h.cells (g := g) rfl k (tv x) (by rw [List.getElem?_map, hk]; rfl)
  rwa [ow.add_at] at this

set_option maxHeartbeats 4000000 in
set_option maxRecDepth 100000 in
theorem specDecode_any (s : ByteArray) (w : World) (hs : s.size ≤ 2000) :
    Calls Tryd.prog 13 #[.string s] w fun e w' => (∃ r : ByteArray, e = .returned (.string r) ∧ Dec true false (cutGo [] s.data.toList) r.data.toList) ∧ Below w.heap.size w w' := by
  have hcl := cutGo_len s.data.toList []
  rw [← Lib.size_eq] at hcl
  have HX : Hid (∀ x ∈ cutGo [] s.data.toList, x.length ≤ 2000) := fun x hx => by
    have := cutGo_mem _ _ _ hx
    rw [← Lib.size_eq] at this
    simp at this
    omega
  go_enter Tryd.func13, Tryd.ntmps13
  go_wp2_with fail
  refine (cut_any s _ (by omega)).mono ?_
  rintro e w1 ⟨v, rfl, own, hb1⟩
  obtain ⟨ws, hws⟩ : ∃ ws, ws = cutGo [] s.data.toList := ⟨_, rfl⟩
  rw [← hws] at own hcl HX
  have HW : Hid (ws = cutGo [] s.data.toList) := hws
  clear hws
  obtain ⟨n, hn⟩ : ∃ n, n = ws.length := ⟨_, rfl⟩
  have hn2 : n ≤ 2001 := by simp at hcl; omega
  rw [← hn] at own
  have HN : Hid (n = ws.length) := hn
  clear hn hcl
  obtain ⟨ao, cap, rfl⟩ : ∃ ao cap, v = .slice ao n cap := by
    rcases own.2 with ⟨hv, h0⟩ | ⟨g, cap, cur, hv, _⟩
    · exact ⟨none, 0, by rw [hv, h0]⟩
    · exact ⟨_, cap, hv⟩
  go_wp2
  go_loopw [4, 5, 6] (fun o b i wr => ∃ (k : Nat) (out : ByteArray) (was : Bool), k ≤ n ∧ i = .int .i64 k ∧ o = .string out ∧ b = .bool was ∧ out.size ≤ k * 70000 ∧ wr.ownsRow w.heap.size 9 1 (.slice ao n cap) n (ws.map tv) ∧ Below w.heap.size w wr ∧ Hid (∀ o, Dec (decide (k = 0)) was (ws.drop k) o → Dec true false ws (out.data.toList ++ o))) (fun _ _ i _ => n - (intOf i).toNat)
  case atStart => exact ⟨0, ⟨#[]⟩, false, Nat.zero_le _, rfl, rfl, rfl, Nat.zero_le _, own, hb1, fun o h => h⟩
  case round =>
    obtain ⟨k, out, was, hk, rfl, rfl, rfl, ho, hown, hbw, HD⟩ := hrel
    by_cases hlt : k < n
    · obtain ⟨g, cap', x, hv, hnc, hx⟩ := row_at hown k hlt
      cases hv
      have hc0 := row_cell hown k hx
      have hxl : x.length ≤ 2000 := HX.out x (List.mem_of_getElem? hx)
      have hlt' : (k : Int) < (n : Int) := by omega
      obtain ⟨X, hX⟩ : ∃ X : ByteArray, X = ⟨x.toArray⟩ := ⟨_, rfl⟩
      have hXs : X.size ≤ 2000 := by rw [hX, Lib.size_eq]; exact hxl
      have hXl : X.data.toList = x := by rw [hX]
      rw [← hX] at hc0
      have HXL : Hid (X.data.toList = x) := hXl
      have HK : Hid (ws[k]? = some x) := hx
      clear hX hXl hx
      go_wp2_with fail
      refine (specWord_any X _ hXs).mono ?_
      rintro e W1 ⟨⟨y, b, rfl, hyb⟩, hb2⟩
      rw [HXL.out] at hyb
      have hc1 : W1.cell? ⟨g, k, none⟩ = some (.string X) := (hb2.cell (p := ⟨g, k, none⟩) (World.block_lt_of_cell? _ _ hc0)).trans hc0
      have hown1 := ow.own_below hown hb2
      have hbw1 := hbw.trans (hb2.mono hbw.size)
      obtain ⟨Y, hY⟩ : ∃ Y : ByteArray, Y = ⟨y.toArray⟩ := ⟨_, rfl⟩
      have HYL : Hid (Y.data.toList = y) := by rw [hY]; exact rfl
      have HYB : Hid ((b = true ∧ Coded x y) ∨ (b = false ∧ ∀ z, ¬ Coded x z)) := hyb
      have hYs : b = true → Y.size ≤ 65536 := fun hb => by
        rw [hY, Lib.size_eq]
        rcases hyb with ⟨_, h⟩ | ⟨h, _⟩
        · exact coded_len h hxl
        · rw [hb] at h; cases h
      rw [← hY]
      clear hY hyb hown hbw hb2 hc0
      have hos : (out.size : Int) ≤ 140070000 := by omega
      by_cases hk0 : k = 0
      · have d0 : decide (0 < k) = false := decide_eq_false (by omega)
        have d1 : decide ((0 : Int) < (k : Int)) = false := decide_eq_false (by omega)
        have HK0 : Hid (k = 0) := hk0
        clear hk0
        cases b with
        | false =>
          have hX' : (X.size : Int) ≤ 2000 := by omega
          clear hYs
          cases was with
          | false =>
            go_wp2
            go_roundw
            case rel =>
              have e : (out ++ X).data.toList = out.data.toList ++ (if decide (k = 0) = true then [] else [32]) ++ x := by
                rw [← HXL.out]
                simp [HK0.out]
              exact ⟨k + 1, out ++ X, false, by omega, by go_num, rfl, rfl, by rw [ByteArray.size_append]; omega, hown1, hbw1, fun o h => by rw [e]; exact next_plain HK.out HD.out (by rcases HYB.out with ⟨h, _⟩ | ⟨_, h⟩; cases h; exact h) o h⟩
            case measure => simp [intOf]; omega
          | true =>
            go_wp2
            go_roundw
            case rel =>
              have e : (out ++ X).data.toList = out.data.toList ++ (if decide (k = 0) = true then [] else [32]) ++ x := by
                rw [← HXL.out]
                simp [HK0.out]
              exact ⟨k + 1, out ++ X, false, by omega, by go_num, rfl, rfl, by rw [ByteArray.size_append]; omega, hown1, hbw1, fun o h => by rw [e]; exact next_plain HK.out HD.out (by rcases HYB.out with ⟨h, _⟩ | ⟨_, h⟩; cases h; exact h) o h⟩
            case measure => simp [intOf]; omega
        | true =>
          have hY := hYs rfl
          have hY' : (Y.size : Int) ≤ 65536 := by omega
          clear hYs
          cases was with
          | false =>
            go_wp2
            go_roundw
            case rel =>
              have e : (out ++ Y).data.toList = out.data.toList ++ (if (decide (k = 0) || false) = true then [] else [32]) ++ y := by
                rw [← HYL.out]
                simp [HK0.out]
              exact ⟨k + 1, out ++ Y, true, by omega, by go_num, rfl, rfl, by rw [ByteArray.size_append]; omega, hown1, hbw1, fun o h => by rw [e]; exact next_code HK.out HD.out (by rcases HYB.out with ⟨_, h⟩ | ⟨h, _⟩; exact h; cases h) o h⟩
            case measure => simp [intOf]; omega
          | true =>
            go_wp2
            go_roundw
            case rel =>
              have e : (out ++ Y).data.toList = out.data.toList ++ (if (decide (k = 0) || true) = true then [] else [32]) ++ y := by
                rw [← HYL.out]
                simp [HK0.out]
              exact ⟨k + 1, out ++ Y, true, by omega, by go_num, rfl, rfl, by rw [ByteArray.size_append]; omega, hown1, hbw1, fun o h => by rw [e]; exact next_code HK.out HD.out (by rcases HYB.out with ⟨_, h⟩ | ⟨h, _⟩; exact h; cases h) o h⟩
            case measure => simp [intOf]; omega
      · have d0 : decide (0 < k) = true := decide_eq_true (by omega)
        have d1 : (0 : Int) < (k : Int) := by omega
        cases b with
        | false =>
          have hX' : (X.size : Int) ≤ 2000 := by omega
          clear hYs
          cases was with
          | false =>
            go_wp2
            go_roundw
            case rel =>
              have e : (out ++ { data := #[32] } ++ X).data.toList = out.data.toList ++ (if decide (k = 0) = true then [] else [32]) ++ x := by
                rw [← HXL.out]
                simp [hk0]
              exact ⟨k + 1, out ++ { data := #[32] } ++ X, false, by omega, by go_num, rfl, rfl, by rw [ByteArray.size_append, ByteArray.size_append]; show _ + 1 + _ ≤ _; omega, hown1, hbw1, fun o h => by rw [e]; exact next_plain HK.out HD.out (by rcases HYB.out with ⟨h, _⟩ | ⟨_, h⟩; cases h; exact h) o h⟩
            case measure => simp [intOf]; omega
          | true =>
            go_wp2
            go_roundw
            case rel =>
              have e : (out ++ { data := #[32] } ++ X).data.toList = out.data.toList ++ (if decide (k = 0) = true then [] else [32]) ++ x := by
                rw [← HXL.out]
                simp [hk0]
              exact ⟨k + 1, out ++ { data := #[32] } ++ X, false, by omega, by go_num, rfl, rfl, by rw [ByteArray.size_append, ByteArray.size_append]; show _ + 1 + _ ≤ _; omega, hown1, hbw1, fun o h => by rw [e]; exact next_plain HK.out HD.out (by rcases HYB.out with ⟨h, _⟩ | ⟨_, h⟩; cases h; exact h) o h⟩
            case measure => simp [intOf]; omega
        | true =>
          have hY := hYs rfl
          have hY' : (Y.size : Int) ≤ 65536 := by omega
          clear hYs
          cases was with
          | false =>
            go_wp2
            go_roundw
            case rel =>
              have e : (out ++ { data := #[32] } ++ Y).data.toList = out.data.toList ++ (if (decide (k = 0) || false) = true then [] else [32]) ++ y := by
                rw [← HYL.out]
                simp [hk0]
              exact ⟨k + 1, out ++ { data := #[32] } ++ Y, true, by omega, by go_num, rfl, rfl, by rw [ByteArray.size_append, ByteArray.size_append]; show _ + 1 + _ ≤ _; omega, hown1, hbw1, fun o h => by rw [e]; exact next_code HK.out HD.out (by rcases HYB.out with ⟨_, h⟩ | ⟨h, _⟩; exact h; cases h) o h⟩
            case measure => simp [intOf]; omega
          | true =>
            go_wp2
            go_roundw
            case rel =>
              have e : (out ++ Y).data.toList = out.data.toList ++ (if (decide (k = 0) || true) = true then [] else [32]) ++ y := by
                rw [← HYL.out]
                simp [hk0]
              exact ⟨k + 1, out ++ Y, true, by omega, by go_num, rfl, rfl, by rw [ByteArray.size_append]; omega, hown1, hbw1, fun o h => by rw [e]; exact next_code HK.out HD.out (by rcases HYB.out with ⟨_, h⟩ | ⟨h, _⟩; exact h; cases h) o h⟩
            case measure => simp [intOf]; omega
    · have hge : (n : Int) ≤ (k : Int) := by omega
      go_wp2
      go_ret
      exact ⟨⟨out, rfl, by rw [← HW.out]; exact dec_end (by have := HN.out; omega) HD.out⟩, hbw⟩
end Go.Proofs.YtpbmofofigkpjabDoor.hd
