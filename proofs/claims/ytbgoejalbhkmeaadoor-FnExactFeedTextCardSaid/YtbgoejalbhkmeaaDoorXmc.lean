/-
  Contracts of impl.goodBytes and of the specification's l05Runes: how far a text is made of runes of XML.
-/
import Derived.Test.YtbgoejalbhkmeaaDoorPos
import Derived.Test.YtbgoejalbhkmeaaDoorUtx
import Derived.Test.YtbgoejalbhkmeaaDoorXmb
namespace Go.Proofs.YtbgoejalbhkmeaaDoor.xm
open Go.RowKit
set_option linter.unusedVariables false

theorem F_le (n k b0 b1 b2 b3 : Nat) (h0 : b0 < 256) : (ut.decF n k b0 b1 b2 b3).1 ≤ 1114111 := by
  unfold ut.decF
  split
  · simp; omega
  split
  · split <;> simp <;> omega
  split
  · split <;> simp <;> omega
  split
  · split
    · rename_i g
      simp [Utf8.valid] at g
      simp
      omega
    · simp
  · simp
theorem dec_le (s : ByteArray) (k : Nat) : (Utf8.decode s k).1 ≤ 1114111 := by rw [ut.dec_eq]; exact F_le _ _ _ _ _ _ (UInt8.toNat_lt _)

/-- No rune of XML begins at this place. -/
def xbad (s : ByteArray) (k : Nat) : Prop := ut.badAt s k ∨ xr ((Utf8.decode s k).1 : Int) = false
/-- So far, and no further, a text is made of runes of XML. -/
def GoodTo (s : ByteArray) (g : Nat) : Prop := ∃ n, g = ut.pos s n ∧ g ≤ s.size ∧ (∀ m, m < n → ¬ xbad s (ut.pos s m)) ∧ (g = s.size ∨ (g < s.size ∧ xbad s g))

theorem good_lt {s : ByteArray} {n n' : Nat} (h : ut.pos s n ≤ s.size) (h' : ut.pos s n' ≤ s.size) (hb : ∀ m, m < n' → ¬ xbad s (ut.pos s m)) (he : ut.pos s n = s.size ∨ (ut.pos s n < s.size ∧ xbad s (ut.pos s n))) (hlt : n < n') : ut.pos s n = ut.pos s n' := by
  rcases he with he | ⟨_, he⟩
  · have := ut.pos_mono s n (n' - n)
    rw [show n + (n' - n) = n' from by omega] at this
    omega
  · exact absurd he (hb n hlt)
theorem good_one {s : ByteArray} {g g' : Nat} (h : GoodTo s g) (h' : GoodTo s g') : g = g' := by
  obtain ⟨n, rfl, hs, hb, he⟩ := h
  obtain ⟨n', rfl, hs', hb', he'⟩ := h'
  rcases Nat.lt_trichotomy n n' with hlt | rfl | hlt
  · exact good_lt hs hs' hb' he hlt
  · rfl
  · exact (good_lt hs' hs hb he' hlt).symm
theorem good_step {s : ByteArray} {n : Nat} (hg : ∀ m, m < n → ¬ xbad s (ut.pos s m)) (h : ¬ xbad s (ut.pos s n)) : ∀ m, m < n + 1 → ¬ xbad s (ut.pos s m) := by
  intro m hm
  by_cases e : m = n
  · subst e; exact h
  · exact hg m (by omega)

set_option maxHeartbeats 2000000 in
set_option maxRecDepth 100000 in
theorem impl_good (s : ByteArray) (w : World) (hs : s.size ≤ 1048576) :
    Calls Tryd.prog 58 #[.string s] w fun e w' => ∃ g : Nat, e = .returned (.int .i64 g) ∧ GoodTo s g ∧ ∃ p, w' = w.iter s p := by
  go_enter Tryd.func58, Tryd.ntmps58
  go_wp2
  go_loopw [3, 4] (fun _ _ w' => ∃ n : Nat, ut.pos s n ≤ s.size ∧ w' = w.iter s (ut.pos s n) ∧ ∀ m, m < n → ¬ xbad s (ut.pos s m)) (fun _ _ w' => s.size - w'.iterPos w.heap.size)
  case atStart => exact ⟨0, Nat.zero_le _, rfl, fun j hj => absurd hj (Nat.not_lt_zero _)⟩
  case round =>
    obtain ⟨n, hn, rfl, hg⟩ := hrel
    have HG : Hid (∀ m, m < n → ¬ xbad s (ut.pos s m)) := hg
    clear hg
    obtain ⟨p, hp⟩ : ∃ p, p = ut.pos s n := ⟨_, rfl⟩
    rw [← hp] at hn ⊢
    have HP : Hid (p = ut.pos s n) := hp
    clear hp
    by_cases hlt : p < s.size
    · have hnx : ∀ ty, (Instr.next (.pointer (some ⟨w.heap.size, 0, none⟩)) true ty).run Tryd.prog (w.iter s p) = _ := fun ty => run_next_any w s p ty hlt
      have hle := dec_le s p
      cases hx : xr ((Utf8.decode s p).1 : Int)
      case false =>
        have HX : Hid (xr ((Utf8.decode s p).1 : Int) = false) := hx
        go_wp2_with (go_at_call 70; refine (impl_xr _ _).mono ?_; rintro e w' ⟨rfl, rfl⟩; rw [hx])
        go_ret
        exact ⟨p, rfl, ⟨n, HP.out, hn, HG.out, .inr ⟨hlt, .inr HX.out⟩⟩, _, rfl⟩
      case true =>
        have HX : Hid (xr ((Utf8.decode s p).1 : Int) = true) := hx
        go_wp2_with (first | (go_at_call 70; refine (impl_xr _ _).mono ?_; rintro e w' ⟨rfl, rfl⟩; rw [hx]) | go_in)
        · go_ret
          exact ⟨p, rfl, ⟨n, HP.out, hn, HG.out, .inr ⟨hlt, .inl (ut.stand_bad hlt ‹_› (by rename_i h; simpa [ut.standAt] using h))⟩⟩, _, rfl⟩
        · go_roundw
          case rel => exact ⟨n + 1, by rw [ut.pos, ← HP.out]; exact (ut.wide s p hlt).2, by rw [ut.pos, ← HP.out], good_step HG.out (by rename_i hst; rw [← HP.out]; rintro (h | h); exact ut.stand_good (by omega) (by simpa [ut.standAt] using hst) h; rw [HX.out] at h; cases h)⟩
          case measure => have := ut.wide s p hlt; simp; omega
        · go_ret
          exact ⟨p, rfl, ⟨n, HP.out, hn, HG.out, .inr ⟨hlt, .inl (ut.stand_short hlt ‹_› (by omega))⟩⟩, _, rfl⟩
        · go_roundw
          case rel => exact ⟨n + 1, by rw [ut.pos, ← HP.out]; exact (ut.wide s p hlt).2, by rw [ut.pos, ← HP.out], good_step HG.out (by rw [← HP.out]; rintro (h | h); have := ut.bad_rune h; omega; rw [HX.out] at h; cases h)⟩
          case measure => have := ut.wide s p hlt; simp; omega
    · have hnx : ∀ ty, (Instr.next (.pointer (some ⟨w.heap.size, 0, none⟩)) true ty).run Tryd.prog (w.iter s p) = _ := fun ty => run_next_end w s p ty hlt
      go_wp2
      go_ret
      exact ⟨s.size, rfl, ⟨n, by have := HP.out; omega, Nat.le_refl _, HG.out, .inl rfl⟩, _, rfl⟩

set_option maxHeartbeats 1000000 in
theorem spec_good (s : ByteArray) (w : World) (hs : s.size ≤ 1048576) :
    Calls Tryd.prog 32 #[.string s] w fun e w' => (∃ g : Nat, GoodTo s g ∧ e = .returned (.int .i64 (if g = s.size then -1 else (g : Int)))) ∧ w' = w := by
  go_enter Tryd.func32, Tryd.ntmps32
  go_wp2
  go_loop [3, 4, 5, 6] (fun i _ _ _ => ∃ n : Nat, ut.pos s n ≤ s.size ∧ i = .int .i64 (ut.pos s n) ∧ ∀ m, m < n → ¬ xbad s (ut.pos s m)) (fun i _ _ _ => s.size - (intOf i).toNat)
  case atStart => exact ⟨0, Nat.zero_le _, rfl, fun j hj => absurd hj (Nat.not_lt_zero _)⟩
  case round =>
    obtain ⟨n, hn, rfl, hg⟩ := hrel
    have HG : Hid (∀ m, m < n → ¬ xbad s (ut.pos s m)) := hg
    clear hg
    obtain ⟨p, hp⟩ : ∃ p, p = ut.pos s n := ⟨_, rfl⟩
    rw [← hp] at hn ⊢
    have HP : Hid (p = ut.pos s n) := hp
    clear hp
    by_cases hlt : p < s.size
    · go_wp2_with fail
      refine (ut.rune_any s p _ hs hlt).mono ?_
      rintro e w' ⟨hr, rfl⟩
      rcases hr with ⟨hb, rfl⟩ | ⟨hb, rfl⟩
      · have HB : Hid (ut.badAt s p) := hb
        clear hb
        go_wp2
        go_ret
        exact ⟨⟨p, ⟨n, HP.out, hn, HG.out, .inr ⟨hlt, .inl HB.out⟩⟩, by rw [if_neg (by omega)]; rfl⟩, rfl⟩
      · have HB : Hid (¬ ut.badAt s p) := hb
        clear hb
        have hw := ut.wide s p hlt
        cases hx : xr ((Utf8.decode s p).1 : Int)
        case false =>
          have HX : Hid (xr ((Utf8.decode s p).1 : Int) = false) := hx
          go_wp2_with (go_at_call 50; refine (spec_xr _ _).mono ?_; rintro e w' ⟨rfl, rfl⟩; rw [hx])
          go_ret
          exact ⟨⟨p, ⟨n, HP.out, hn, HG.out, .inr ⟨hlt, .inr HX.out⟩⟩, by rw [if_neg (by omega)]; rfl⟩, rfl⟩
        case true =>
          have HX : Hid (xr ((Utf8.decode s p).1 : Int) = true) := hx
          go_wp2_with (go_at_call 50; refine (spec_xr _ _).mono ?_; rintro e w' ⟨rfl, rfl⟩; rw [hx])
          go_round
          case rel => exact ⟨n + 1, by rw [ut.pos, ← HP.out]; exact (ut.wide s p hlt).2, by rw [ut.pos, ← HP.out]; go_num, good_step HG.out (by rw [← HP.out]; rintro (h | h); exact HB.out h; rw [HX.out] at h; cases h)⟩
          case measure => have := ut.wide s p hlt; simp [intOf]; omega
    · go_wp2
      go_ret
      exact ⟨⟨s.size, ⟨n, by have := HP.out; omega, Nat.le_refl _, HG.out, .inl rfl⟩, by rw [if_pos rfl]; rfl⟩, rfl⟩
end Go.Proofs.YtbgoejalbhkmeaaDoor.xm
