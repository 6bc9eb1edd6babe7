/-
  Contracts of both DecodeWords functions: what the words of a safe value say.
-/
import Derived.Test.YtpbmofofigkpjaaDoorSwd
import Derived.Test.YtpbmofofigkpjaaDoorCtl
import Derived.Test.YtpbmofofigkpjaaDoorSvw
namespace Go.Proofs.YtpbmofofigkpjaaDoor.hd
open Go.RowKit
set_option linter.unusedVariables false

theorem coded_len {x y : List UInt8} (h : Coded x y) (hx : x.length ≤ 2000) : y.length ≤ 65536 := by
  have h1 := b6.rl_len ⟨(mid x).toArray⟩
  have h2 := mid_len x
  have h3 : b6.rl ⟨(mid x).toArray⟩ = y := by
    unfold b6.rl
    rw [if_pos (by rw [Lib.size_eq]; show (mid x).length ≤ _; omega)]
    have : b6.dec (mid x) = some y := h.2.2.1
    show (b6.dec (mid x)).getD [] = y
    rw [this]
    rfl
  rw [h3] at h1
  exact h1
theorem next_code {ws : List (List UInt8)} {k : Nat} {x y out : List UInt8} {was : Bool} (hk : ws[k]? = some x) (H : ∀ o, Dec (decide (k = 0)) was (ws.drop k) o → Dec true false ws (out ++ o)) (hc : Coded x y) :
    ∀ o, Dec (decide (k + 1 = 0)) true (ws.drop (k + 1)) o → Dec true false ws ((out ++ (if (decide (k = 0) || was) = true then [] else [32]) ++ y) ++ o) := by
  intro o h
  have := H _ (by rw [Lib.drop_at hk]; exact dec_code hc h)
  simpa [List.append_assoc] using this
theorem next_plain {ws : List (List UInt8)} {k : Nat} {x out : List UInt8} {was : Bool} (hk : ws[k]? = some x) (H : ∀ o, Dec (decide (k = 0)) was (ws.drop k) o → Dec true false ws (out ++ o)) (hc : ∀ y, ¬ Coded x y) :
    ∀ o, Dec (decide (k + 1 = 0)) false (ws.drop (k + 1)) o → Dec true false ws ((out ++ (if decide (k = 0) = true then [] else [32]) ++ x) ++ o) := by
  intro o h
  have := H _ (by rw [Lib.drop_at hk]; exact dec_plain hc h)
  simpa [List.append_assoc] using this
theorem dec_end {ws : List (List UInt8)} {k : Nat} {out : List UInt8} {was f : Bool} (hk : ws.length ≤ k) (H : ∀ o, Dec f was (ws.drop k) o → Dec true false ws (out ++ o)) : Dec true false ws out := by
  rw [List.drop_eq_nil_of_le hk] at H
  have := H [] rfl
  rwa [List.append_nil] at this
/-- What a row of texts holds, cell by cell. -/
theorem row_at {w : World} {base n : Nat} {v : Value} {ws : List (List UInt8)} (h : w.ownsRow base 9 1 v n (ws.map tv)) (k : Nat) (hk : k < n) : ∃ g cap x, v = .slice (some ⟨g, 0, none⟩) n cap ∧ n ≤ cap ∧ ws[k]? = some x := by
  have hl : ws.length = n := by have := h.1; simpa using this
  rcases h.2 with ⟨_, h0⟩ | ⟨g, cap, cur, hv, _, _, hc, _⟩
  · omega
  · exact ⟨g, cap, ws[k]'(by omega), hv, hc, List.getElem?_eq_getElem (by omega)⟩
theorem row_cell {w : World} {base n g cap : Nat} {ws : List (List UInt8)} {x : List UInt8} (h : w.ownsRow base 9 1 (.slice (some ⟨g, 0, none⟩) n cap) n (ws.map tv)) (k : Nat) (hk : ws[k]? = some x) : w.cell? ⟨g, k, none⟩ = some (.string ⟨x.toArray⟩) := by
  have := h.cells (g := g) rfl k (tv x) (by rw [List.getElem?_map, hk]; rfl)
  rwa [ow.add_at] at this

end Go.Proofs.YtpbmofofigkpjaaDoor.hd
