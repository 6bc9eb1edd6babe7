/-
  Contracts of impl.isRight and of the specification's ValidText: whether a text is right, and of at most 65536 bytes.
-/
import Derived.Test.YtpbmofofigkpjaaDoorPos
import Derived.Test.YtpbmofofigkpjaaDoorUtx
import Derived.Test.YtpbmofofigkpjaaDoorRows
import Derived.WalkKit
import Derived.WalkLawsBesides
namespace Go.Proofs.YtpbmofofigkpjaaDoor.ut
open Go.RowKit
set_option linter.unusedVariables false

set_option maxHeartbeats 1000000 in
set_option maxRecDepth 100000 in
theorem isRight_any (s : ByteArray) (w : World) (hs : s.size ≤ 1048576) :
    Calls Tryd.prog 36 #[.string s] w fun e w' => Says (Right s) e ∧ ∃ p, w' = w.iter s p := by
  go_enter Tryd.func36, Tryd.ntmps36
  go_wp2
  go_loopw [3, 4] (fun _ _ w' => ∃ n : Nat, pos s n ≤ s.size ∧ w' = w.iter s (pos s n) ∧ ∀ m, m < n → ¬ badAt s (pos s m)) (fun _ _ w' => s.size - w'.iterPos w.heap.size)
  case atStart => exact ⟨0, Nat.zero_le _, rfl, fun j hj => absurd hj (Nat.not_lt_zero _)⟩
  case round =>
    obtain ⟨n, hn, rfl, hg⟩ := hrel
    have HG : Hid (∀ m, m < n → ¬ badAt s (pos s m)) := hg
    clear hg
    obtain ⟨p, hp⟩ : ∃ p, p = pos s n := ⟨_, rfl⟩
    rw [← hp] at hn ⊢
    have HP : Hid (p = pos s n) := hp
    clear hp
    by_cases hlt : p < s.size
    · have hnx : ∀ ty, (Instr.next (.pointer (some ⟨w.heap.size, 0, none⟩)) true ty).run Tryd.prog (w.iter s p) = _ := fun ty => run_next_any w s p ty hlt
      go_wp2_with (first | go_in)
      · go_ret
        exact ⟨says_no (wrong_at (n := n) (by rw [← HP.out]; exact hlt) (by rw [← HP.out]; exact stand_bad hlt ‹_› (by rename_i h; simpa [standAt] using h))), _, rfl⟩
      · go_roundw
        case rel => exact ⟨n + 1, by rw [pos, ← HP.out]; exact (wide s p hlt).2, by rw [pos, ← HP.out], right_step HG.out (by rw [← HP.out]; exact stand_good (by omega) (by rename_i h; simpa [standAt] using h))⟩
        case measure => have := wide s p hlt; simp; omega
      · go_ret
        exact ⟨says_no (wrong_at (n := n) (by rw [← HP.out]; exact hlt) (by rw [← HP.out]; exact stand_short hlt ‹_› (by omega))), _, rfl⟩
      · go_roundw
        case rel => exact ⟨n + 1, by rw [pos, ← HP.out]; exact (wide s p hlt).2, by rw [pos, ← HP.out], right_step HG.out (by rw [← HP.out]; intro hb; have := bad_rune hb; omega)⟩
        case measure => have := wide s p hlt; simp; omega
    · have hnx : ∀ ty, (Instr.next (.pointer (some ⟨w.heap.size, 0, none⟩)) true ty).run Tryd.prog (w.iter s p) = _ := fun ty => run_next_end w s p ty hlt
      go_wp2
      go_ret
      exact ⟨says_yes (right_of s n (by have := HP.out; omega) HG.out), _, rfl⟩

/-- A text is valid: right, and not too long. -/
def Valid (s : ByteArray) : Prop := s.size ≤ 65536 ∧ Right s

set_option maxHeartbeats 1000000 in
theorem specValid_any (s : ByteArray) (w : World) (hs : s.size ≤ 1048576) :
    Calls Tryd.prog 40 #[.string s] w fun e w' => Says (Valid s) e ∧ w' = w := by
  by_cases h : s.size ≤ 65536
  case neg =>
    have h' : (65536 : Int) < (s.size : Int) := by omega
    go_enter Tryd.func40, Tryd.ntmps40
    go_wp2
    go_ret
    exact ⟨says_no (fun x => h x.1), rfl⟩
  have h' : (s.size : Int) ≤ 65536 := by omega
  go_enter Tryd.func40, Tryd.ntmps40
  go_wp2
  go_loop [3, 4, 5, 6] (fun i _ _ _ => ∃ n : Nat, pos s n ≤ s.size ∧ i = .int .i64 (pos s n) ∧ ∀ m, m < n → ¬ badAt s (pos s m)) (fun i _ _ _ => s.size - (intOf i).toNat)
  case atStart => exact ⟨0, Nat.zero_le _, rfl, fun j hj => absurd hj (Nat.not_lt_zero _)⟩
  case round =>
    obtain ⟨n, hn, rfl, hg⟩ := hrel
    have HG : Hid (∀ m, m < n → ¬ badAt s (pos s m)) := hg
    clear hg
    obtain ⟨p, hp⟩ : ∃ p, p = pos s n := ⟨_, rfl⟩
    rw [← hp] at hn ⊢
    have HP : Hid (p = pos s n) := hp
    clear hp
    by_cases hlt : p < s.size
    · go_wp2_with fail
      refine (rune_any s p _ hs hlt).mono ?_
      rintro e w' ⟨hr, rfl⟩
      rcases hr with ⟨hb, rfl⟩ | ⟨hb, rfl⟩
      · go_wp2
        go_ret
        exact ⟨says_no (fun x => wrong_at (n := n) (by rw [← HP.out]; exact hlt) (by rw [← HP.out]; exact hb) x.2), rfl⟩
      · have HB : Hid (¬ badAt s p) := hb
        clear hb
        have hw := wide s p hlt
        go_wp2
        go_round
        case rel => exact ⟨n + 1, by rw [pos, ← HP.out]; exact (wide s p hlt).2, by rw [pos, ← HP.out]; go_num, right_step HG.out (by rw [← HP.out]; exact HB.out)⟩
        case measure => have := wide s p hlt; simp [intOf]; omega
    · go_wp2
      go_ret
      exact ⟨says_yes ⟨h, right_of s n (by have := HP.out; omega) HG.out⟩, rfl⟩
end Go.Proofs.YtpbmofofigkpjaaDoor.ut
