/-
  What a law on folds rests on: the names it chooses from, and what its calls answer.
-/
import Derived.Test.YtpbmofofigkpjaaDoorFof
import Derived.Test.YtpbmofofigkpjaaDoorFoi
import Derived.Test.YtpbmofofigkpjaaDoorUfi
import Derived.Test.YtpbmofofigkpjaaDoorLoi
import Derived.Test.YtpbmofofigkpjaaDoorSrv
namespace Go.Proofs.YtpbmofofigkpjaaDoor.ff
open Go.RowKit
set_option linter.unusedVariables false

/-- A name that the law chooses. -/
def Nm (s : ByteArray) : Prop := hn.IsName s ∧ 58 ∉ s.data.toList ∧ (∀ c ∈ s.data.toList, c ≠ 13) ∧ s.size ≤ 40
theorem nm_of (l : List UInt8) (h : ∀ b ∈ l, 33 ≤ b.toNat ∧ b.toNat ≤ 126 ∧ b ≠ 58) (h1 : 1 ≤ l.length) (h2 : l.length ≤ 40) : Nm ⟨l.toArray⟩ := by
  refine ⟨name_of l h h1 h2, fun hm => (h 58 hm).2.2 rfl, fun c hc e => ?_, by rw [Lib.size_eq]; exact h2⟩
  have := (h c hc).1
  rw [e] at this
  exact absurd this (by decide)
def nameRow : List Value := [.string ⟨#[83, 117, 98, 106, 101, 99, 116]⟩, .string ⟨#[88, 45, 76, 111, 110, 103, 45, 78, 97, 109, 101, 45, 79, 102, 45, 65, 45, 70, 105, 101, 108, 100]⟩, .string ⟨#[65]⟩]
theorem name_at (j : Nat) (h : j < 3) : ∃ s : ByteArray, Nm s ∧ nameRow[j]? = some (.string s) := by
  match j, h with
  | 0, _ => exact ⟨_, nm_of [83, 117, 98, 106, 101, 99, 116] (by decide) (by decide) (by decide), rfl⟩
  | 1, _ => exact ⟨_, nm_of [88, 45, 76, 111, 110, 103, 45, 78, 97, 109, 101, 45, 79, 102, 45, 65, 45, 70, 105, 101, 108, 100] (by decide) (by decide) (by decide), rfl⟩
  | 2, _ => exact ⟨_, nm_of [65] (by decide) (by decide) (by decide), rfl⟩
  | n + 3, h => exact absurd h (by omega)
theorem name_cells (w : World) (j : Nat) (h : j < 3) : ∃ s : ByteArray, Nm s ∧ (w.alloc (.cells nameRow.toArray 9)).cell? ⟨w.heap.size, j, none⟩ = some (.string s) := by
  obtain ⟨s, h1, h2⟩ := name_at j h
  exact ⟨s, h1, ow.cell_new w nameRow _ j _ h2⟩
theorem back (s : ByteArray) : (⟨s.data.toList.toArray⟩ : ByteArray) = s := by cases s; simp
theorem fh_ok {nm s : ByteArray} {e : Ending} (h : hf.FhRet nm s e) (hn' : hn.IsName nm) (hs : hd.Safe s.data.toList) (h1 : nm.size ≤ 65536) (h2 : s.size ≤ 65536) : ∃ r : ByteArray, r.data.toList = hd.foldL nm.data.toList s.data.toList ∧ e = .returned (.tuple #[.string r, .int .i64 0]) := by
  rcases h with ⟨h, _⟩ | ⟨_, _, h, _⟩ | ⟨_, _, _, r, hr, rfl⟩
  · omega
  · exact absurd ⟨hn', hs⟩ h
  · exact ⟨r, hr, rfl⟩
theorem uh_ok {nm v r : ByteArray} {e : Ending} (h : uf.UhRet r e) (hr : r.data.toList = hd.foldL nm.data.toList v.data.toList) (hnm : Nm nm) (hs : hd.Safe v.data.toList) (h1 : r.size ≤ 65536) : e = .returned (.tuple #[.string nm, .string v, .int .i64 0]) := by
  have hf : uf.Field hn.IsName r.data.toList nm.data.toList v.data.toList := by
    rw [hr]
    exact field (by rw [back]; exact hnm.1) hnm.2.1 hs
  rcases h with ⟨h, _⟩ | ⟨_, h, _⟩ | ⟨_, a, b, hab, rfl⟩
  · omega
  · exact absurd ⟨_, _, hf⟩ h
  · obtain ⟨rfl, rfl⟩ := uf.field_one hab hf
    rw [back, back]
theorem line_ok {nm v r : ByteArray} (hr : r.data.toList = hd.foldL nm.data.toList v.data.toList) (hnm : Nm nm) (hs : hd.Safe v.data.toList) (h1 : r.size ≤ 65536) : ln.lret r ≤ max 78 ((lw 0 0 v.data.toList : Int) + (nm.size : Int) + 2) := by
  have e : ln.lret r = (ln.ll r.data.toList : Int) := if_pos h1
  have := ll_field (nm := nm.data.toList) (v := v.data.toList) hnm.2.2.1 hs
  rw [e, hr]
  rw [← Lib.size_eq] at this
  omega
theorem size_ok {nm v r : ByteArray} (hr : r.data.toList = hd.foldL nm.data.toList v.data.toList) (h1 : nm.size ≤ 40) (h2 : v.size ≤ 120) : r.size ≤ 500 := by
  have := field_len nm.data.toList v.data.toList
  rw [Lib.size_eq, hr]
  rw [← Lib.size_eq, ← Lib.size_eq] at this
  omega
theorem short_size {s : ByteArray} (h : sr.Short s) : s.size ≤ 120 := by
  obtain ⟨zs, _, e, hl⟩ := h
  rw [e, ut.mk_size]
  exact hl
theorem lw_blank {v : ByteArray} {k a b : Nat} (h : k < v.size) (hc : ((v[k]'h).toNat : Int) = 32) : lw a b (v.data.toList.drop k) = lw 0 b (v.data.toList.drop (k + 1)) := by
  rw [ln.drop_at v k h, lw, if_pos (by omega)]
theorem lw_char {v : ByteArray} {k a b : Nat} (h : k < v.size) (hc : ((v[k]'h).toNat : Int) ≠ 32) : lw a b (v.data.toList.drop k) = lw (a + 1) (max b (a + 1)) (v.data.toList.drop (k + 1)) := by
  rw [ln.drop_at v k h, lw, if_neg (by omega)]
theorem lw_end {v : ByteArray} {k a b : Nat} (h : v.size ≤ k) : lw a b (v.data.toList.drop k) = b := by
  rw [List.drop_eq_nil_of_le (by rw [← Lib.size_eq]; exact h), lw]
end Go.Proofs.YtpbmofofigkpjaaDoor.ff
