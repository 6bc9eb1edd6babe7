/-
  Contracts of impl.cutPlace and of both CutRunes functions: the longest beginning that ends where a rune does and has at most n bytes.
-/
import Derived.Test.YtpbmofofigkpjaaDoorRiw
import Derived.Test.YtpbmofofigkpjaaDoorShf
namespace Go.Proofs.YtpbmofofigkpjaaDoor.ut
open Go.RowKit
set_option linter.unusedVariables false

/-- The place at which a text is cut: a rune's beginning, or the end, not beyond n, the next one beyond it. -/
def CutAt (s : ByteArray) (n : Int) (k : Nat) : Prop := ∃ j, k = pos s j ∧ k ≤ s.size ∧ (k : Int) ≤ n ∧ (n < (pos s (j + 1) : Int) ∨ s.size ≤ k)

theorem cut_one {s : ByteArray} {n : Int} {k k' : Nat} (h : CutAt s n k) (h' : CutAt s n k') : k = k' := by
  have key : ∀ {j j' : Nat}, j < j' → pos s j' ≤ s.size → (pos s j' : Int) ≤ n → (n < (pos s (j + 1) : Int) ∨ s.size ≤ pos s j) → pos s j = pos s j' := by
    intro j j' hlt hle hn hx
    have h1 := pos_mono s (j + 1) (j' - (j + 1))
    rw [show j + 1 + (j' - (j + 1)) = j' from by omega] at h1
    have h2 := pos_mono s j (j' - j)
    rw [show j + (j' - j) = j' from by omega] at h2
    omega
  obtain ⟨j, rfl, a1, a2, a3⟩ := h
  obtain ⟨j', rfl, b1, b2, b3⟩ := h'
  rcases Nat.lt_trichotomy j j' with e | e | e
  · exact key e b1 b2 a3
  · rw [e]
  · exact (key e a1 a2 b3).symm
theorem pos_end (s : ByteArray) : ∃ j, pos s j = s.size := by
  have key : ∀ m n, pos s n ≤ s.size → s.size - pos s n ≤ m → ∃ j, pos s j = s.size := by
    intro m
    induction m with
    | zero => intro n h1 h2; exact ⟨n, by omega⟩
    | succ m ih =>
      intro n h1 h2
      by_cases e : pos s n = s.size
      · exact ⟨n, e⟩
      · have := pos_le s n (by omega)
        exact ih (n + 1) this.1 (by omega)
  exact key s.size 0 (Nat.zero_le _) (by simp [pos])
theorem cut_all {s : ByteArray} {n : Int} (h : (s.size : Int) ≤ n) : CutAt s n s.size := by
  obtain ⟨j, hj⟩ := pos_end s
  exact ⟨j, hj.symm, Nat.le_refl _, h, .inr (Nat.le_refl _)⟩
/-- What a call that cuts answers. -/
def PlaceRet (s : ByteArray) (n : Int) (e : Ending) : Prop := ∃ k : Nat, e = .returned (.int .i64 (k : Int)) ∧ CutAt s n k

set_option maxHeartbeats 1000000 in
set_option maxRecDepth 100000 in
theorem place_any (s : ByteArray) (n : Int) (w : World) (hs : s.size ≤ 1048576) (h0 : 0 ≤ n) :
    Calls Tryd.prog 66 #[.string s, .int .i64 n] w fun e w' => PlaceRet s n e ∧ Below w.heap.size w w' := by
  by_cases hle : (s.size : Int) ≤ n
  · go_enter Tryd.func66, Tryd.ntmps66
    go_wp2
    go_ret
    exact ⟨⟨s.size, rfl, cut_all hle⟩, Below.refl _ _⟩
  have hlt : n < (s.size : Int) := by omega
  clear hle
  go_enter Tryd.func66, Tryd.ntmps66
  go_wp2
  go_loopw [5, 6] (fun q _ w' => ∃ (j i : Nat), pos s j ≤ s.size ∧ w' = w.iter s (pos s j) ∧ q = .int .i64 (pos s i) ∧ ((pos s i : Nat) : Int) ≤ n ∧ (j = i + 1 ∨ (j = 0 ∧ i = 0))) (fun _ _ w' => s.size - w'.iterPos w.heap.size)
  case atStart => exact ⟨0, 0, Nat.zero_le _, rfl, rfl, h0, .inr ⟨rfl, rfl⟩⟩
  case round =>
    obtain ⟨j, i, hj, rfl, rfl, hi, hij⟩ := hrel
    have HI : Hid (j = i + 1 ∨ (j = 0 ∧ i = 0)) := hij
    clear hij
    obtain ⟨p, hp⟩ : ∃ p, p = pos s j := ⟨_, rfl⟩
    rw [← hp] at hj ⊢
    have HP : Hid (p = pos s j) := hp
    clear hp
    obtain ⟨q, hq⟩ : ∃ q, q = pos s i := ⟨_, rfl⟩
    rw [← hq] at hi ⊢
    have HQ : Hid (q = pos s i) := hq
    clear hq
    by_cases hlp : p < s.size
    · have hnx : ∀ ty, (Instr.next (.pointer (some ⟨w.heap.size, 0, none⟩)) true ty).run Tryd.prog (w.iter s p) = _ := fun ty => run_next_any w s p ty hlp
      by_cases hpn : n < (p : Int)
      · go_wp2
        go_ret
        refine ⟨⟨q, rfl, i, HQ.out, ?_, hi, .inl ?_⟩, (Below.refl _ _).alloc (Nat.le_refl _) _⟩
        · omega
        · rcases HI.out with e | ⟨e, _⟩
          · rw [← e, ← HP.out]; exact hpn
          · have := HP.out; rw [e] at this; simp [pos] at this; omega
      · go_wp2
        go_roundw
        case rel => exact ⟨j + 1, j, by rw [pos, ← HP.out]; exact (wide s p hlp).2, by rw [pos, ← HP.out], by rw [← HP.out], by rw [← HP.out]; omega, .inl rfl⟩
        case measure => have := wide s p hlp; simp; omega
    · have hnx : ∀ ty, (Instr.next (.pointer (some ⟨w.heap.size, 0, none⟩)) true ty).run Tryd.prog (w.iter s p) = _ := fun ty => run_next_end w s p ty hlp
      go_wp2
      go_ret
      refine ⟨⟨q, rfl, i, HQ.out, ?_, hi, .inl ?_⟩, (Below.refl _ _).alloc (Nat.le_refl _) _⟩
      · omega
      · rcases HI.out with e | ⟨e, _⟩
        · rw [← e, ← HP.out]; omega
        · have := HP.out; rw [e] at this; simp [pos] at this; omega

/-- What both CutRunes functions answer. -/
def CutRet (s : ByteArray) (n : Int) (e : Ending) : Prop :=
  (65536 < s.size ∧ e = .returned (.tuple #[.string ⟨#[]⟩, .int .i64 2])) ∨
  (s.size ≤ 65536 ∧ ¬ Right s ∧ e = .returned (.tuple #[.string ⟨#[]⟩, .int .i64 3])) ∨
  (s.size ≤ 65536 ∧ Right s ∧ n < 0 ∧ e = .returned (.tuple #[.string ⟨#[]⟩, .int .i64 4])) ∨
  (s.size ≤ 65536 ∧ Right s ∧ 0 ≤ n ∧ ∃ k, CutAt s n k ∧ e = .returned (.tuple #[.string (s.extract 0 k), .int .i64 0]))

theorem clone_any (s : ByteArray) (w : World) (hs : s.size ≤ 1048576) :
    Calls Tryd.prog 38 #[.string s] w fun e w' => e = .returned (.string s) ∧ Below w.heap.size w w' := by
  go_enter Tryd.func38, Tryd.ntmps38
  go_wp2_with fail
  refine (Tryd.stringslite_Clone s _ (by omega)).mono ?_
  rintro e w' ⟨rfl, hb⟩
  go_wp2
  go_ret
  exact ⟨rfl, hb⟩
end Go.Proofs.YtpbmofofigkpjaaDoor.ut
