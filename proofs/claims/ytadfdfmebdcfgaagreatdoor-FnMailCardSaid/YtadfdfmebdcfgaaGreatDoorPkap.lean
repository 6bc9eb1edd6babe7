/-
  Contracts of both XmlNameOK functions: whether a text is a name of XML.
  Contracts of impl.goodBytes and of the specification's l05Runes: how far a text is made of runes of XML.
  Contracts of impl.inOneLine and of the specification's l06Line, and of both OneLine functions: a text in one line.
  The specification's l06Line: a text in one line.
  Contracts of the functions that say whether an entry is right: its lines, its texts of runes of XML, its date; of the program and of the specification.
-/
import Derived.Test.YtadfdfmebdcfgaaGreatDoorPkao
import Derived.Lib.Strings
import Derived.Test.YtadfdfmebdcfgaaGreatDoorPkai
import Derived.Test.YtadfdfmebdcfgaaGreatDoorPkaj
import Derived.Test.YtadfdfmebdcfgaaGreatDoorPkae
import Derived.BigRegion
import Derived.Deep.DeepCutAuto
import Derived.Laws.OwnMore
import Derived.Test.YtadfdfmebdcfgaaGreatDoorPkad
import Derived.Test.YtadfdfmebdcfgaaGreatDoorRows
import Derived.WalkKit
import Derived.WalkLawsBesides

namespace Go.Proofs.YtadfdfmebdcfgaaGreatDoor.xm
open Go.RowKit
set_option linter.unusedVariables false

theorem take_snoc (s : ByteArray) (k : Nat) (h : k < s.size) : s.data.toList.take (k + 1) = s.data.toList.take k ++ [s[k]] := by
  have hl : k < s.data.toList.length := by rw [← Lib.size_eq]; exact h
  rw [List.take_succ_eq_append_getElem hl]
  rfl
theorem take_all (s : ByteArray) (k : Nat) (h : s.size ≤ k) : s.data.toList.take k = s.data.toList := List.take_of_length_le (by rw [← Lib.size_eq]; exact h)

end Go.Proofs.YtadfdfmebdcfgaaGreatDoor.xm

namespace Go.Proofs.YtadfdfmebdcfgaaGreatDoor.xm
open Go.RowKit
set_option linter.unusedVariables false

theorem F_le (n k b0 b1 b2 b3 : Nat) (h0 : b0 < 256) : (ut.decF n k b0 b1 b2 b3).1 ≤ 1114111 := by
  unfold ut.decF
  split
  · simp; omega
  split
  · split <;> simp <;> omega
  split
  · split <;> simp <;> omega
  split
  · split
    · rename_i g
      simp [Utf8.valid] at g
      simp
      omega
    · simp
  · simp
theorem dec_le (s : ByteArray) (k : Nat) : (Utf8.decode s k).1 ≤ 1114111 := by rw [ut.dec_eq]; exact F_le _ _ _ _ _ _ (UInt8.toNat_lt _)

/-- No rune of XML begins at this place. -/
def xbad (s : ByteArray) (k : Nat) : Prop := ut.badAt s k ∨ xr ((Utf8.decode s k).1 : Int) = false
/-- So far, and no further, a text is made of runes of XML. -/
def GoodTo (s : ByteArray) (g : Nat) : Prop := ∃ n, g = ut.pos s n ∧ g ≤ s.size ∧ (∀ m, m < n → ¬ xbad s (ut.pos s m)) ∧ (g = s.size ∨ (g < s.size ∧ xbad s g))

theorem good_lt {s : ByteArray} {n n' : Nat} (h : ut.pos s n ≤ s.size) (h' : ut.pos s n' ≤ s.size) (hb : ∀ m, m < n' → ¬ xbad s (ut.pos s m)) (he : ut.pos s n = s.size ∨ (ut.pos s n < s.size ∧ xbad s (ut.pos s n))) (hlt : n < n') : ut.pos s n = ut.pos s n' := by
  rcases he with he | ⟨_, he⟩
  · have := ut.pos_mono s n (n' - n)
    rw [show n + (n' - n) = n' from by omega] at this
    omega
  · exact absurd he (hb n hlt)
theorem good_one {s : ByteArray} {g g' : Nat} (h : GoodTo s g) (h' : GoodTo s g') : g = g' := by
  obtain ⟨n, rfl, hs, hb, he⟩ := h
  obtain ⟨n', rfl, hs', hb', he'⟩ := h'
  rcases Nat.lt_trichotomy n n' with hlt | rfl | hlt
  · exact good_lt hs hs' hb' he hlt
  · rfl
  · exact (good_lt hs' hs hb he' hlt).symm
theorem good_step {s : ByteArray} {n : Nat} (hg : ∀ m, m < n → ¬ xbad s (ut.pos s m)) (h : ¬ xbad s (ut.pos s n)) : ∀ m, m < n + 1 → ¬ xbad s (ut.pos s m) := by
  intro m hm
  by_cases e : m = n
  · subst e; exact h
  · exact hg m (by omega)

set_option maxHeartbeats 2000000 in
set_option maxRecDepth 100000 in
theorem impl_good (s : ByteArray) (w : World) (hs : s.size ≤ 1048576) :
    Calls Tryz.prog 77 #[.string s] w fun e w' => ∃ g : Nat, e = .returned (.int .i64 g) ∧ GoodTo s g ∧ ∃ p, w' = w.iter s p := by
  go_enter Tryz.func77, Tryz.ntmps77
  go_wp2
  go_loopw [3, 4] (fun _ _ w' => ∃ n : Nat, ut.pos s n ≤ s.size ∧ w' = w.iter s (ut.pos s n) ∧ ∀ m, m < n → ¬ xbad s (ut.pos s m)) (fun _ _ w' => s.size - w'.iterPos w.heap.size)
  case atStart => exact ⟨0, Nat.zero_le _, rfl, fun j hj => absurd hj (Nat.not_lt_zero _)⟩
  case round =>
    obtain ⟨n, hn, rfl, hg⟩ := hrel
    have HG : Hid (∀ m, m < n → ¬ xbad s (ut.pos s m)) := hg
    clear hg
    obtain ⟨p, hp⟩ : ∃ p, p = ut.pos s n := ⟨_, rfl⟩
    rw [← hp] at hn ⊢
    have HP : Hid (p = ut.pos s n) := hp
    clear hp
    by_cases hlt : p < s.size
    · have hnx : ∀ ty, (Instr.next (.pointer (some ⟨w.heap.size, 0, none⟩)) true ty).run Tryz.prog (w.iter s p) = _ := fun ty => run_next_any w s p ty hlt
      have hle := dec_le s p
      cases hx : xr ((Utf8.decode s p).1 : Int)
      case false =>
        have HX : Hid (xr ((Utf8.decode s p).1 : Int) = false) := hx
        go_wp2_with (go_at_call 136; refine (impl_xr _ _).mono ?_; rintro e w' ⟨rfl, rfl⟩; rw [hx])
        go_ret
        exact ⟨p, rfl, ⟨n, HP.out, hn, HG.out, .inr ⟨hlt, .inr HX.out⟩⟩, _, rfl⟩
      case true =>
        have HX : Hid (xr ((Utf8.decode s p).1 : Int) = true) := hx
        go_wp2_with (first | (go_at_call 136; refine (impl_xr _ _).mono ?_; rintro e w' ⟨rfl, rfl⟩; rw [hx]) | go_in)
        · go_ret
          exact ⟨p, rfl, ⟨n, HP.out, hn, HG.out, .inr ⟨hlt, .inl (ut.stand_bad hlt ‹_› (by rename_i h; simpa [ut.standAt] using h))⟩⟩, _, rfl⟩
        · go_roundw
          case rel => exact ⟨n + 1, by rw [ut.pos, ← HP.out]; exact (ut.wide s p hlt).2, by rw [ut.pos, ← HP.out], good_step HG.out (by rename_i hst; rw [← HP.out]; rintro (h | h); exact ut.stand_good (by omega) (by simpa [ut.standAt] using hst) h; rw [HX.out] at h; cases h)⟩
          case measure => have := ut.wide s p hlt; simp; omega
        · go_ret
          exact ⟨p, rfl, ⟨n, HP.out, hn, HG.out, .inr ⟨hlt, .inl (ut.stand_short hlt ‹_› (by omega))⟩⟩, _, rfl⟩
        · go_roundw
          case rel => exact ⟨n + 1, by rw [ut.pos, ← HP.out]; exact (ut.wide s p hlt).2, by rw [ut.pos, ← HP.out], good_step HG.out (by rw [← HP.out]; rintro (h | h); have := ut.bad_rune h; omega; rw [HX.out] at h; cases h)⟩
          case measure => have := ut.wide s p hlt; simp; omega
    · have hnx : ∀ ty, (Instr.next (.pointer (some ⟨w.heap.size, 0, none⟩)) true ty).run Tryz.prog (w.iter s p) = _ := fun ty => run_next_end w s p ty hlt
      go_wp2
      go_ret
      exact ⟨s.size, rfl, ⟨n, by have := HP.out; omega, Nat.le_refl _, HG.out, .inl rfl⟩, _, rfl⟩

set_option maxHeartbeats 1000000 in
theorem spec_good (s : ByteArray) (w : World) (hs : s.size ≤ 1048576) :
    Calls Tryz.prog 56 #[.string s] w fun e w' => (∃ g : Nat, GoodTo s g ∧ e = .returned (.int .i64 (if g = s.size then -1 else (g : Int)))) ∧ w' = w := by
  go_enter Tryz.func56, Tryz.ntmps56
  go_wp2
  go_loop [3, 4, 5, 6] (fun i _ _ _ => ∃ n : Nat, ut.pos s n ≤ s.size ∧ i = .int .i64 (ut.pos s n) ∧ ∀ m, m < n → ¬ xbad s (ut.pos s m)) (fun i _ _ _ => s.size - (intOf i).toNat)
  case atStart => exact ⟨0, Nat.zero_le _, rfl, fun j hj => absurd hj (Nat.not_lt_zero _)⟩
  case round =>
    obtain ⟨n, hn, rfl, hg⟩ := hrel
    have HG : Hid (∀ m, m < n → ¬ xbad s (ut.pos s m)) := hg
    clear hg
    obtain ⟨p, hp⟩ : ∃ p, p = ut.pos s n := ⟨_, rfl⟩
    rw [← hp] at hn ⊢
    have HP : Hid (p = ut.pos s n) := hp
    clear hp
    by_cases hlt : p < s.size
    · go_wp2_with fail
      refine (ut.rune_any s p _ hs hlt).mono ?_
      rintro e w' ⟨hr, rfl⟩
      rcases hr with ⟨hb, rfl⟩ | ⟨hb, rfl⟩
      · have HB : Hid (ut.badAt s p) := hb
        clear hb
        go_wp2
        go_ret
        exact ⟨⟨p, ⟨n, HP.out, hn, HG.out, .inr ⟨hlt, .inl HB.out⟩⟩, by rw [if_neg (by omega)]; rfl⟩, rfl⟩
      · have HB : Hid (¬ ut.badAt s p) := hb
        clear hb
        have hw := ut.wide s p hlt
        cases hx : xr ((Utf8.decode s p).1 : Int)
        case false =>
          have HX : Hid (xr ((Utf8.decode s p).1 : Int) = false) := hx
          go_wp2_with (go_at_call 107; refine (spec_xr _ _).mono ?_; rintro e w' ⟨rfl, rfl⟩; rw [hx])
          go_ret
          exact ⟨⟨p, ⟨n, HP.out, hn, HG.out, .inr ⟨hlt, .inr HX.out⟩⟩, by rw [if_neg (by omega)]; rfl⟩, rfl⟩
        case true =>
          have HX : Hid (xr ((Utf8.decode s p).1 : Int) = true) := hx
          go_wp2_with (go_at_call 107; refine (spec_xr _ _).mono ?_; rintro e w' ⟨rfl, rfl⟩; rw [hx])
          go_round
          case rel => exact ⟨n + 1, by rw [ut.pos, ← HP.out]; exact (ut.wide s p hlt).2, by rw [ut.pos, ← HP.out]; go_num, good_step HG.out (by rw [← HP.out]; rintro (h | h); exact HB.out h; rw [HX.out] at h; cases h)⟩
          case measure => have := ut.wide s p hlt; simp [intOf]; omega
    · go_wp2
      go_ret
      exact ⟨⟨s.size, ⟨n, by have := HP.out; omega, Nat.le_refl _, HG.out, .inl rfl⟩, by rw [if_pos rfl]; rfl⟩, rfl⟩
end Go.Proofs.YtadfdfmebdcfgaaGreatDoor.xm

namespace Go.Proofs.YtadfdfmebdcfgaaGreatDoor.li
open Go.RowKit
set_option linter.unusedVariables false

theorem is32 (c : UInt8) : ((c.toNat : Int) == 32) = (c == 32) := by
  rw [Bool.eq_iff_iff]; simp only [beq_iff_eq]
  constructor
  · intro h; exact UInt8.toNat_inj.1 (by have : ((32 : UInt8).toNat : Int) = 32 := rfl; omega)
  · rintro rfl; rfl
def blankB (c : Int) : Bool := decide (c = 9 ∨ c = 10 ∨ c = 13 ∨ c = 32)
theorem blk_int (c : UInt8) : blankB (c.toNat : Int) = blk c := by
  rw [Bool.eq_iff_iff]
  simp [blk, blankB, ← UInt8.toNat_inj]
  omega
set_option maxHeartbeats 400000 in
theorem impl_blank (c : Int) (w : World) : Calls Tryz.prog 133 #[.int .u8 c] w fun e w' => e = .returned (.bool (blankB c)) ∧ w' = w := by
  go_enter Tryz.func133, Tryz.ntmps133
  go_wp2
  all_goals (go_ret; exact ⟨xm.ret_bool (by rw [Bool.eq_iff_iff]; simp [blankB] <;> omega), rfl⟩)
set_option maxHeartbeats 400000 in
theorem spec_blank (c : Int) (w : World) : Calls Tryz.prog 154 #[.int .u8 c] w fun e w' => e = .returned (.bool (blankB c)) ∧ w' = w := by
  go_enter Tryz.func154, Tryz.ntmps154
  go_wp2
  all_goals (go_ret; exact ⟨xm.ret_bool (by rw [Bool.eq_iff_iff]; simp [blankB] <;> omega), rfl⟩)
theorem impl_blk (c : UInt8) (w : World) : Calls Tryz.prog 133 #[.int .u8 (c.toNat : Int)] w fun e w' => e = .returned (.bool (blk c)) ∧ w' = w := by
  rw [← blk_int]; exact impl_blank _ w
theorem spec_blk (c : UInt8) (w : World) : Calls Tryz.prog 154 #[.int .u8 (c.toNat : Int)] w fun e w' => e = .returned (.bool (blk c)) ∧ w' = w := by
  rw [← blk_int]; exact spec_blank _ w

/-- The state behind so many bytes. -/
def sk (s : ByteArray) (k : Nat) : List UInt8 × Bool := st (s.data.toList.take k)
theorem sk_step (s : ByteArray) (k : Nat) (h : k < s.size) : sk s (k + 1) = step (sk s k) s[k] := by unfold sk; rw [xm.take_snoc s k h, st_snoc]
theorem sk_all (s : ByteArray) (k : Nat) (h : s.size ≤ k) : (sk s k).1 = line s.data.toList := by unfold sk line; rw [xm.take_all s k h]
theorem sk_len (s : ByteArray) (k : Nat) : (sk s k).1.length ≤ s.size := by
  have h1 := line_len (s.data.toList.take k)
  have h2 : (s.data.toList.take k).length ≤ s.data.toList.length := by rw [List.length_take]; omega
  rw [← Lib.size_eq] at h2
  unfold sk
  unfold line at h1
  omega
theorem sk_spo (s : ByteArray) (k : Nat) : (spo (sk s k)).length ≤ s.size := by
  have h1 := spo_le (s.data.toList.take k)
  have h2 : (s.data.toList.take k).length ≤ s.data.toList.length := by rw [List.length_take]; omega
  rw [← Lib.size_eq] at h2
  unfold sk
  omega
theorem sk_prev (s : ByteArray) (k : Nat) (h : k < s.size) : (sk s (k + 1)).2 = blk s[k] := by rw [sk_step s k h, step_prev]

theorem put32 (B b : Nat) (l : List UInt8) (w : World) (h : bl.Bd B b l w) (hlen : l.length + 1 ≤ 140737488355328) (hBw : B ≤ w.heap.size) :
    Calls Tryz.prog 135 #[.pointer (some ⟨b, 0, none⟩), .int .u8 32] w fun e w' => (∃ v, e = .returned v) ∧ bl.Bd B b (l ++ [32]) w' ∧ Below B w w' := by
  have := bl.byte B b l 32 w h hlen hBw
  rwa [show (((32 : UInt8).toNat : Nat) : Int) = 32 from rfl] at this
set_option maxHeartbeats 2000000 in
set_option maxRecDepth 100000 in
theorem impl_line (s : ByteArray) (w : World) (hs : s.size ≤ 1048576) :
    Calls Tryz.prog 76 #[.string s] w fun e w' => e = .returned (.string ⟨(line s.data.toList).toArray⟩) ∧ Below w.heap.size w w' := by
  go_enter Tryz.func76, Tryz.ntmps76
  go_wp2
  go_loopw [7] (fun i wr => ∃ k : Nat, k ≤ s.size ∧ i = .int .i64 k ∧ bl.Bd w.heap.size w.heap.size (sk s k).1 wr ∧ Below w.heap.size w wr) (fun i _ => s.size - (intOf i).toNat)
  case atStart => exact ⟨0, Nat.zero_le _, rfl, bl.fresh w, (Below.refl _ _).alloc (Nat.le_refl _) _⟩
  case round =>
    obtain ⟨k, hk, rfl, hbd, hbw⟩ := hrel
    have HL := sk_len s k
    by_cases hlt : k < s.size
    · have HS : Hid (sk s (k + 1) = step (sk s k) s[k]) := sk_step s k hlt
      have HBc := impl_blk (s[k]'hlt)
      cases hb : blk (s[k]'hlt)
      · rw [hb] at HBc
        have HB : Hid (∀ w, Calls Tryz.prog 133 #[.int .u8 ((s[k]'hlt).toNat : Int)] w fun e w' => e = .returned (.bool false) ∧ w' = w) := HBc
        have Hb : Hid (blk (s[k]'hlt) = false) := hb
        clear HBc hb
        by_cases h0 : (sk s k).1 = []
        · have HE : Hid (sk s (k + 1) = ((sk s k).1 ++ [s[k]'hlt], false)) := HS.out.trans (step_one Hb.out (.inl h0))
          have HN : Hid (((sk s k).1.length : Int) = 0) := by rw [h0]; rfl
          clear h0 HS
          generalize hx : (sk s k).1 = x at hbd HE HN HL
          have HX : Hid ((sk s k).1 = x) := hx
          clear hx
          go_wp2_with (first | (go_at_call 133; refine (HB.out _).mono ?_; rintro e w' ⟨rfl, rfl⟩) | (go_at_call 134; refine (bl.len w.heap.size w.heap.size _ _ hbd).mono ?_; rintro e w' ⟨rfl, rfl⟩; rw [HN.out]) | (go_at_call 135; refine (bl.byte w.heap.size w.heap.size _ (s[k]'hlt) _ hbd (by omega) hbw.size).mono ?_; rintro e w2 ⟨⟨v, rfl⟩, hb2, hbw2⟩; have hbw3 := hbw.trans hbw2; clear hbd hbw hbw2))
          go_roundw
          case rel => exact ⟨k + 1, by omega, by go_num, by rw [HE.out]; exact hb2, hbw3⟩
          case measure => simp [intOf]; omega
        · obtain ⟨j, rfl⟩ : ∃ j, k = j + 1 := by
            cases k with
            | zero => exact absurd rfl h0
            | succ j => exact ⟨j, rfl⟩
          have hj : j < s.size := by omega
          have HP : Hid ((sk s (j + 1)).2 = blk (s[j]'hj)) := sk_prev s j hj
          have HN : Hid (0 < (sk s (j + 1)).1.length) := List.length_pos_iff.2 h0
          have hj1 : ((j + 1 : Nat) : Int) - 1 = (j : Int) := by omega
          cases hp : blk (s[j]'hj)
          · rw [hp] at HP
            have Hq : Hid (blk (s[j]'hj) = false) := hp
            have HE : Hid (sk s (j + 1 + 1) = ((sk s (j + 1)).1 ++ [s[j + 1]'hlt], false)) := HS.out.trans (step_one Hb.out (.inr HP.out))
            clear h0 HS hp
            generalize hx : (sk s (j + 1)).1 = x at hbd HE HN HL
            have HX : Hid ((sk s (j + 1)).1 = x) := hx
            have hn := HN.out
            clear hx
            go_wp2_with (first | (go_at_call 133; refine (impl_blk _ _).mono ?_; rintro e w' ⟨rfl, rfl⟩; first | rw [Hb.out] | rw [Hq.out]) | (go_at_call 134; refine (bl.len w.heap.size w.heap.size _ _ hbd).mono ?_; rintro e w' ⟨rfl, rfl⟩) | (go_at_call 135; refine (bl.byte w.heap.size w.heap.size _ (s[j + 1]'hlt) _ hbd (by omega) hbw.size).mono ?_; rintro e w2 ⟨⟨v, rfl⟩, hb2, hbw2⟩; have hbw3 := hbw.trans hbw2; clear hbd hbw hbw2))
            go_roundw
            case rel => exact ⟨j + 1 + 1, by omega, by go_num, by rw [HE.out]; exact hb2, hbw3⟩
            case measure => simp [intOf]; omega
          · rw [hp] at HP
            have Hq : Hid (blk (s[j]'hj) = true) := hp
            have HE : Hid (sk s (j + 1 + 1) = ((sk s (j + 1)).1 ++ [32, s[j + 1]'hlt], false)) := HS.out.trans (step_two Hb.out h0 HP.out)
            clear h0 HS hp
            generalize hx : (sk s (j + 1)).1 = x at hbd HE HN HL
            have HX : Hid ((sk s (j + 1)).1 = x) := hx
            have hn := HN.out
            clear hx
            go_wp2_with (first | (go_at_call 133; refine (impl_blk _ _).mono ?_; rintro e w' ⟨rfl, rfl⟩; first | rw [Hb.out] | rw [Hq.out]) | (go_at_call 134; refine (bl.len w.heap.size w.heap.size _ _ hbd).mono ?_; rintro e w' ⟨rfl, rfl⟩) | (go_at_call 135; refine (put32 w.heap.size w.heap.size _ _ hbd (by omega) hbw.size).mono ?_; rintro e w2 ⟨⟨v, rfl⟩, hb2, hbw2⟩; have hbw3 := hbw.trans hbw2; clear hbd hbw hbw2) | (go_at_call 135; refine (bl.byte w.heap.size w.heap.size _ (s[j + 1]'hlt) _ hb2 (by simp; omega) hbw3.size).mono ?_; rintro e w4 ⟨⟨v, rfl⟩, hb4, hbw4⟩; have hbw5 := hbw3.trans hbw4; clear hb2 hbw3 hbw4))
            go_roundw
            case rel => exact ⟨j + 1 + 1, by omega, by go_num, by rw [HE.out]; simpa using hb4, hbw5⟩
            case measure => simp [intOf]; omega
      · rw [hb] at HBc
        have HB : Hid (∀ w, Calls Tryz.prog 133 #[.int .u8 ((s[k]'hlt).toNat : Int)] w fun e w' => e = .returned (.bool true) ∧ w' = w) := HBc
        have HE : Hid (sk s (k + 1) = ((sk s k).1, true)) := HS.out.trans (step_blank _ hb)
        clear HBc hb HS
        go_wp2_with (go_at_call 133; refine (HB.out _).mono ?_; rintro e w' ⟨rfl, rfl⟩)
        go_roundw
        case rel => exact ⟨k + 1, by omega, by go_num, by rw [HE.out]; exact hbd, hbw⟩
        case measure => simp [intOf]; omega
    · have HT : Hid ((sk s k).1 = line s.data.toList) := sk_all s k (by omega)
      go_wp2_with fail
      refine (bl.said w.heap.size w.heap.size _ _ hbd hbw.size).mono ?_
      rintro e w2 ⟨rfl, hb2⟩
      go_wp2
      go_ret
      exact ⟨by rw [HT.out]; rfl, hbw.trans hb2⟩
end Go.Proofs.YtadfdfmebdcfgaaGreatDoor.li

namespace Go.Proofs.YtadfdfmebdcfgaaGreatDoor.li
open Go.RowKit
set_option linter.unusedVariables false

theorem cell_at {w : World} {base e g n cap : Nat} {l : List UInt8} (h : w.ownsRow base e 1 (.slice (some ⟨g, 0, none⟩) n cap) n (Lib.byteCells l)) (j : Nat) (hj : j < l.length) : w.cell? ⟨g, j, none⟩ = some (.int .u8 ((l.getD j 0).toNat : Int)) := by
  have hl : l.length = n := by have := h.1; rw [Lib.byteCells_length] at this; simpa using this
  rw [h.cellAt j (by omega)]
  simp [Lib.byteCells, List.getD_eq_getElem?_getD, hj]
theorem conv_part {P : Program} {w : World} {src dst e : TypeId} {g cap : Nat} (l : List UInt8) (hs : P.underlying src = some (.slice e)) (he : P.underlying e = some (.int .u8)) (hd : P.underlying dst = some .string)
    (hc : ∀ j, j < l.length → w.cell? ⟨g, j, none⟩ = some (.int .u8 ((l.getD j 0).toNat : Int))) : (convert src dst (.slice (some ⟨g, 0, none⟩) l.length cap)).run P w = .ok (.string ⟨l.toArray⟩) w := by
  refine run_convert_bytes_back w src dst e ⟨g, 0, none⟩ cap l hs he hd (fun j hj => ?_)
  rw [show ((⟨g, 0, none⟩ : Addr).add j) = ⟨g, j, none⟩ from by simp [Addr.add]; omega, hc j hj]
  simp [List.getD_eq_getElem?_getD, hj]

set_option maxHeartbeats 4000000 in
set_option maxRecDepth 100000 in
theorem spec_line (s : ByteArray) (w : World) (hs : s.size ≤ 1048576) :
    Calls Tryz.prog 105 #[.string s] w fun e w' => e = .returned (.string ⟨(line s.data.toList).toArray⟩) ∧ Below w.heap.size w w' := by
  obtain ⟨i0, hi, hz0, hz1, hz2⟩ := info_parts bl.info1
  go_enter Tryz.func105, Tryz.ntmps105
  go_wp2
  go_loopw [3, 4] (fun o i wr => ∃ k : Nat, k ≤ s.size ∧ i = .int .i64 k ∧ wr.ownsRow w.heap.size 5 1 o (spo (sk s k)).length (Lib.byteCells (spo (sk s k))) ∧ Below w.heap.size w wr) (fun _ i _ => s.size - (intOf i).toNat)
  case atStart => exact ⟨0, Nat.zero_le _, rfl, ow.own_empty _ _, (Below.refl _ _).alloc (Nat.le_refl _) _⟩
  case round =>
    obtain ⟨k, hk, rfl, hown, hbw⟩ := hrel
    have HL := sk_spo s k
    have hsz := hbw.size
    have HC : Hid ((spo (sk s k) = [] ∧ (sk s k).1 = []) ∨ (spo (sk s k) = (sk s k).1 ++ [32] ∧ (sk s k).1 ≠ []) ∨ (spo (sk s k) = (sk s k).1 ∧ (sk s k).1 ≠ [] ∧ ((sk s k).1.getD ((sk s k).1.length - 1) 0 == 32) = false)) := spo_cases (nice_st _)
    by_cases hlt : k < s.size
    · have HS : Hid (sk s (k + 1) = step (sk s k) s[k]) := sk_step s k hlt
      cases hb : blk (s[k]'hlt)
      · have HE : Hid (spo (sk s (k + 1)) = spo (sk s k) ++ [s[k]'hlt]) := by rw [HS.out]; exact spo_other _ hb
        have Hb : Hid (blk (s[k]'hlt) = false) := hb
        clear HS hb HC
        generalize hx : spo (sk s k) = x at hown HE HL
        clear hx
        go_wp2_with (first | (go_at_call 154; refine (spec_blk _ _).mono ?_; rintro e w' ⟨rfl, rfl⟩; rw [Hb.out]) | (at_builtin; go_loud (refine wpList_append_own _ rfl _ _ 22 rfl w.heap.size 5 i0 (.int .u8 0) 1 1 Tryz.underlying22 hi hz0 hz1 hz2 rfl (by decide) _ _ _ rfl (hown.alloc _) ⟨_, 0, none⟩ 1 1 [Value.int .u8 ((s[k]'hlt).toNat : Int)] rfl rfl (ow.cells_new _ _ 5) (by simp [Value.oneCell']) (by unfold maxLen; omega) (by omega) (by simp; omega) ?_); intro v' w3 hown' hgrow _))
        have hbz := (hbw.alloc hsz _).grown hgrow (by simp; omega) (ow.own_lt hown)
        have hown2 : w3.ownsRow w.heap.size 5 1 v' (spo (sk s (k + 1))).length (Lib.byteCells (spo (sk s (k + 1)))) := by rw [HE.out, List.length_append, Lib.byteCells_append]; exact hown'
        clear hown' hown hgrow
        go_wp2
        go_roundw
        case rel => exact ⟨k + 1, by omega, by go_num, hown2, hbz⟩
        case measure => simp [intOf]; omega
      · have Hb : Hid (blk (s[k]'hlt) = true) := hb
        clear hb
        rcases HC.out with ⟨h1, h2⟩ | ⟨h1, h2⟩ | ⟨h1, h2, h3⟩
        · have HE : Hid (spo (sk s (k + 1)) = []) := by rw [HS.out]; exact spo_blank0 Hb.out h2
          rw [h1] at hown
          clear HS HC h1 h2
          rcases hown.2 with ⟨rfl, _⟩ | ⟨g, cap, cur, rfl, _⟩
          · have HO : Hid (wr.ownsRow w.heap.size 5 1 (.slice none 0 0) ([] : List UInt8).length (Lib.byteCells [])) := hown
            clear hown
            go_wp2_with (go_at_call 154; refine (spec_blk _ _).mono ?_; rintro e w' ⟨rfl, rfl⟩; rw [Hb.out])
            go_roundw
            case rel => exact ⟨k + 1, by omega, by go_num, by rw [HE.out]; exact HO.out, hbw⟩
            case measure => simp [intOf]; omega
          · have HO : Hid (wr.ownsRow w.heap.size 5 1 (.slice (some ⟨g, 0, none⟩) ([] : List UInt8).length cap) ([] : List UInt8).length (Lib.byteCells [])) := hown
            rw [List.length_nil]
            clear hown
            go_wp2_with (go_at_call 154; refine (spec_blk _ _).mono ?_; rintro e w' ⟨rfl, rfl⟩; rw [Hb.out])
            go_roundw
            case rel => exact ⟨k + 1, by omega, by go_num, by rw [HE.out]; exact HO.out, hbw⟩
            case measure => simp [intOf]; omega
        · have HE : Hid (spo (sk s (k + 1)) = (sk s k).1 ++ [32]) := by rw [HS.out]; exact spo_blank Hb.out h2
          rw [h1] at hown HL
          clear HS HC h1 h2
          generalize hx : (sk s k).1 = x at hown HE HL
          clear hx
          have hlen : (x ++ [32]).length = x.length + 1 := by simp
          rcases hown.2 with ⟨rfl, h0⟩ | ⟨g, cap, cur, rfl, _⟩
          · omega
          have HO : Hid (wr.ownsRow w.heap.size 5 1 (.slice (some ⟨g, 0, none⟩) (x ++ [32]).length cap) (x ++ [32]).length (Lib.byteCells (x ++ [32]))) := hown
          have hc := cell_at hown x.length (by simp)
          rw [show (x ++ [(32 : UInt8)]).getD x.length 0 = (32 : UInt8) by simp [List.getD_eq_getElem?_getD], show (((32 : UInt8).toNat : Nat) : Int) = 32 from rfl] at hc
          rw [hlen] at HL ⊢
          clear hown hlen
          go_wp2_with (go_at_call 154; refine (spec_blk _ _).mono ?_; rintro e w' ⟨rfl, rfl⟩; rw [Hb.out])
          go_roundw
          case rel => exact ⟨k + 1, by omega, by go_num, by rw [HE.out]; have := HO.out; simpa using this, hbw⟩
          case measure => simp [intOf]; omega
        · have HE : Hid (spo (sk s (k + 1)) = (sk s k).1 ++ [32]) := by rw [HS.out]; exact spo_blank Hb.out h2
          rw [h1] at hown HL
          clear HS HC h1
          generalize hx : (sk s k).1 = x at hown HE HL h2 h3
          clear hx
          obtain ⟨m, hm⟩ : ∃ m, x.length = m + 1 := ⟨x.length - 1, by have := List.length_pos_iff.2 h2; omega⟩
          have h32 := is32 (x.getD (x.length - 1) 0)
          rw [h3] at h32
          rcases hown.2 with ⟨rfl, h0⟩ | ⟨g, cap, cur, rfl, _⟩
          · omega
          have hc := cell_at hown m (by omega)
          rw [hm, Nat.add_sub_cancel] at h32
          have hc' := hc
          generalize hv : (x.getD m 0) = v at hc h32
          have HO : Hid (wr.ownsRow w.heap.size 5 1 (.slice (some ⟨g, 0, none⟩) x.length cap) x.length (Lib.byteCells x)) := hown
          rw [hm] at HL hown ⊢
          clear hc' hv h2 h3
          have hvn : ((v.toNat : Int) != 32) = true := by simp [bne, h32]
          go_wp2_with (first | (go_at_call 154; refine (spec_blk _ _).mono ?_; rintro e w' ⟨rfl, rfl⟩; rw [Hb.out]) | (at_builtin; go_loud (refine wpList_append_own _ rfl _ _ 22 rfl w.heap.size 5 i0 (.int .u8 0) 1 1 Tryz.underlying22 hi hz0 hz1 hz2 rfl (by decide) _ _ _ rfl (hown.alloc _) ⟨_, 0, none⟩ 1 1 [Value.int .u8 32] rfl rfl (ow.cells_new _ _ 5) (by simp [Value.oneCell']) (by unfold maxLen; omega) (by omega) (by simp; omega) ?_); intro v' w3 hown' hgrow _))
          have hbz := (hbw.alloc hsz _).grown hgrow (by simp; omega) (ow.own_lt hown)
          have hown2 : w3.ownsRow w.heap.size 5 1 v' (spo (sk s (k + 1))).length (Lib.byteCells (spo (sk s (k + 1)))) := by rw [HE.out, List.length_append, Lib.byteCells_append, hm]; exact hown'
          clear hown' hown hgrow
          go_wp2
          go_roundw
          case rel => exact ⟨k + 1, by omega, by go_num, hown2, hbz⟩
          case measure => simp [intOf]; omega
    · have HT : Hid ((sk s k).1 = line s.data.toList) := sk_all s k (by omega)
      rcases HC.out with ⟨h1, h2⟩ | ⟨h1, h2⟩ | ⟨h1, h2, h3⟩
      · rw [h1] at hown
        have H2 : Hid ((sk s k).1 = []) := h2
        clear HC h1 h2
        have hcv := ow.conv_bytes (P := Tryz.prog) [] hown Tryz.underlying22 Tryz.underlying5 Tryz.underlying9
        rcases hown.2 with ⟨rfl, _⟩ | ⟨g, cap, cur, rfl, _⟩
        · clear hown
          go_wp2
          go_ret
          exact ⟨by rw [← HT.out, H2.out]; rfl, hbw⟩
        · rw [List.length_nil] at hcv ⊢
          clear hown
          go_wp2
          go_ret
          exact ⟨by rw [← HT.out, H2.out]; rfl, hbw⟩
      · rw [h1] at hown HL
        clear HC h1
        generalize hx : (sk s k).1 = x at hown HL h2 HT
        clear hx
        have hlen : (x ++ [32]).length = x.length + 1 := by simp
        rcases hown.2 with ⟨rfl, h0⟩ | ⟨g, cap, cur, rfl, _, _, hcap, _⟩
        · omega
        have hc := cell_at hown x.length (by simp)
        rw [show (x ++ [(32 : UInt8)]).getD x.length 0 = (32 : UInt8) by simp [List.getD_eq_getElem?_getD], show (((32 : UInt8).toNat : Nat) : Int) = 32 from rfl] at hc
        have hcv := conv_part (P := Tryz.prog) (w := wr) (g := g) (cap := cap) x Tryz.underlying22 Tryz.underlying5 Tryz.underlying9 (fun j hj => by have := cell_at hown j (by simp; omega); rwa [get_left hj] at this)
        rw [hlen] at HL hcap ⊢
        clear hown hlen h2
        go_wp2
        go_ret
        exact ⟨by rw [← HT.out]; rfl, hbw⟩
      · rw [h1] at hown HL
        clear HC h1
        generalize hx : (sk s k).1 = x at hown HL h2 h3 HT
        clear hx
        obtain ⟨m, hm⟩ : ∃ m, x.length = m + 1 := ⟨x.length - 1, by have := List.length_pos_iff.2 h2; omega⟩
        have h32 := is32 (x.getD (x.length - 1) 0)
        rw [h3] at h32
        have hcv := ow.conv_bytes (P := Tryz.prog) x hown Tryz.underlying22 Tryz.underlying5 Tryz.underlying9
        rcases hown.2 with ⟨rfl, h0⟩ | ⟨g, cap, cur, rfl, _⟩
        · omega
        have hc := cell_at hown m (by omega)
        rw [hm, Nat.add_sub_cancel] at h32
        generalize hv : (x.getD m 0) = v at hc h32
        rw [hm] at HL hown hcv ⊢
        clear hown hv h2 h3
        go_wp2
        go_ret
        exact ⟨by rw [← HT.out]; rfl, hbw⟩
end Go.Proofs.YtadfdfmebdcfgaaGreatDoor.li

namespace Go.Proofs.YtadfdfmebdcfgaaGreatDoor.en
open Go.RowKit
set_option linter.unusedVariables false

theorem pos_far (s : ByteArray) : ∀ n, (∀ m, m < n → ut.pos s m < s.size) → n ≤ ut.pos s n
  | 0, _ => Nat.zero_le _
  | n + 1, h => by
    have h1 := pos_far s n (fun m hm => h m (by omega))
    have h2 := (ut.pos_le s n (h n (by omega))).2
    omega
def dBad (s : ByteArray) (k : Nat) : Decidable (xm.xbad s k) := inferInstanceAs (Decidable (Utf8.decode s k = (65533, 1) ∨ xm.xr ((Utf8.decode s k).1 : Int) = false))
def dAll (s : ByteArray) (n : Nat) : Decidable (∀ m, m < n → ¬ xm.xbad s (ut.pos s m)) := @Nat.decidableBallLT n (fun m _ => ¬ xm.xbad s (ut.pos s m)) (fun m _ => @instDecidableNot _ (dBad s (ut.pos s m)))
/-- The first place at which a text's end is come to. -/
theorem good_first {s : ByteArray} (h : xm.GoodTo s s.size) : ∃ n, n < s.size + 1 ∧ s.size = ut.pos s n ∧ ∀ m, m < n → ¬ xm.xbad s (ut.pos s m) := by
  obtain ⟨n, e, _, hb, _⟩ := h
  have key : ∀ k, s.size = ut.pos s k → (∀ m, m < k → ¬ xm.xbad s (ut.pos s m)) → ∃ n, n < s.size + 1 ∧ s.size = ut.pos s n ∧ ∀ m, m < n → ¬ xm.xbad s (ut.pos s m) := by
    intro k
    induction k using Nat.strongRecOn with
    | _ k ih =>
      intro e hb
      by_cases hx : ∃ m, m < k ∧ s.size ≤ ut.pos s m
      · obtain ⟨m, hm, hle⟩ := hx
        have hmono := ut.pos_mono s m (k - m)
        rw [show m + (k - m) = k from by omega] at hmono
        exact ih m hm (by omega) (fun j hj => hb j (by omega))
      · have := pos_far s k (fun m hm => by
          by_cases h2 : ut.pos s m < s.size
          · exact h2
          · exact absurd ⟨m, hm, by omega⟩ hx)
        exact ⟨k, by omega, e, hb⟩
  exact key n e hb
def dFirst (s : ByteArray) (n : Nat) : Decidable (s.size = ut.pos s n ∧ ∀ m, m < n → ¬ xm.xbad s (ut.pos s m)) := @instDecidableAnd _ _ _ (dAll s n)
def findB (s : ByteArray) : Nat → Bool
  | 0 => @decide _ (dFirst s 0)
  | k + 1 => @decide _ (dFirst s (k + 1)) || findB s k
theorem find_iff (s : ByteArray) : ∀ k, findB s k = true ↔ ∃ n, n < k + 1 ∧ s.size = ut.pos s n ∧ ∀ m, m < n → ¬ xm.xbad s (ut.pos s m)
  | 0 => by
    rw [findB]
    constructor
    · intro h; exact ⟨0, by omega, ow.dof h⟩
    · rintro ⟨n, hn, h⟩
      obtain rfl : n = 0 := by omega
      exact ow.dt h
  | k + 1 => by
    rw [findB, Bool.or_eq_true, find_iff s k]
    constructor
    · rintro (h | ⟨n, hn, h⟩)
      · exact ⟨k + 1, by omega, ow.dof h⟩
      · exact ⟨n, by omega, h⟩
    · rintro ⟨n, hn, h⟩
      by_cases e : n = k + 1
      · subst e; exact .inl (ow.dt h)
      · exact .inr ⟨n, by omega, h⟩
def dGoodTo (s : ByteArray) : Decidable (xm.GoodTo s s.size) := decidable_of_iff (findB s s.size = true) ⟨fun h => by
  obtain ⟨n, _, e, hb⟩ := (find_iff s s.size).1 h
  exact ⟨n, e, Nat.le_refl _, hb, .inl rfl⟩, fun h => (find_iff s s.size).2 (good_first h)⟩
/-- A text of runes of XML, of at most so many bytes. -/
def ofx (s : ByteArray) (n : Nat) : Bool := @decide (s.size ≤ n ∧ xm.GoodTo s s.size) (@instDecidableAnd _ _ _ (dGoodTo s))
/-- Such a text in one line. -/
def fld (s : ByteArray) : Bool := @decide (s.size ≤ 200 ∧ xm.GoodTo s s.size ∧ li.line s.data.toList = s.data.toList) (@instDecidableAnd _ _ _ (@instDecidableAnd _ _ (dGoodTo s) _))
def stamp (d : Int) : Bool := decide (0 ≤ d ∧ d ≤ 4102444799)
theorem ofx_long {s : ByteArray} {n : Nat} (h : n < s.size) : ofx s n = false := ow.df (by omega)
theorem ofx_bad {s : ByteArray} {n g : Nat} (hg : xm.GoodTo s g) (h : g ≠ s.size) : ofx s n = false := ow.df (fun x => h (xm.good_one hg x.2))
theorem ofx_yes {s : ByteArray} {n : Nat} (h : s.size ≤ n) (hg : xm.GoodTo s s.size) : ofx s n = true := ow.dt ⟨h, hg⟩
theorem ofx_cases {s : ByteArray} {n : Nat} (h : ofx s n = true) : s.size ≤ n ∧ xm.GoodTo s s.size := ow.dof h
theorem ofx_no {s : ByteArray} {n : Nat} (h : ofx s n = false) : ¬ (s.size ≤ n ∧ xm.GoodTo s s.size) := ow.dnof h
theorem fld_no {s : ByteArray} (h : ofx s 200 = false) : fld s = false := ow.df (fun x => ofx_no h ⟨x.1, x.2.1⟩)
theorem fld_yes {s : ByteArray} (h : ofx s 200 = true) (hl : li.line s.data.toList = s.data.toList) : fld s = true := ow.dt ⟨(ofx_cases h).1, (ofx_cases h).2, hl⟩
theorem fld_bent {s : ByteArray} (hl : li.line s.data.toList ≠ s.data.toList) : fld s = false := ow.df (fun x => hl x.2.2)
theorem fld_cases {s : ByteArray} (h : fld s = true) : s.size ≤ 200 ∧ xm.GoodTo s s.size ∧ li.line s.data.toList = s.data.toList := ow.dof h
theorem toList_mk (l : List UInt8) : (⟨l.toArray⟩ : ByteArray).toList = l := by rw [Lib.toList_data]
theorem cmp_yes {s : ByteArray} (hl : li.line s.data.toList = s.data.toList) : ((⟨(li.line s.data.toList).toArray⟩ : ByteArray).toList == s.toList) = true := by rw [toList_mk, hl, Lib.toList_data]; simp
theorem cmp_no {s : ByteArray} (hl : li.line s.data.toList ≠ s.data.toList) : ((⟨(li.line s.data.toList).toArray⟩ : ByteArray).toList == s.toList) = false := by rw [toList_mk, Lib.toList_data]; simpa using hl

set_option maxHeartbeats 1000000 in
theorem impl_ofx (s : ByteArray) (n : Nat) (w : World) (hs : s.size ≤ 1048576) (hn : n ≤ 1000) :
    Calls Tryz.prog 34 #[.string s, .int .i64 n] w fun e w' => e = .returned (.bool (ofx s n)) ∧ Below w.heap.size w w' := by
  by_cases h : n < s.size
  · have h' : decide ((s.size : Int) ≤ (n : Int)) = false := decide_eq_false (by omega)
    have HR : Hid (ofx s n = false) := ofx_long h
    go_enter Tryz.func34, Tryz.ntmps34
    go_wp2
    go_ret
    exact ⟨by rw [HR.out]; rfl, Below.refl _ _⟩
  have h' : decide ((s.size : Int) ≤ (n : Int)) = true := decide_eq_true (by omega)
  go_enter Tryz.func34, Tryz.ntmps34
  go_wp2_with fail
  refine (xm.impl_good s _ hs).mono ?_
  rintro e w' ⟨g, rfl, hg, p, rfl⟩
  have hbw : Below w.heap.size w (w.iter s p) := (Below.refl _ _).alloc (Nat.le_refl _) _
  generalize w.iter s p = w1 at hbw
  by_cases hz : g = s.size
  · subst hz
    have HR : Hid (ofx s n = true) := ofx_yes (by omega) hg
    clear hg
    go_wp2
    go_ret
    exact ⟨by rw [HR.out]; rfl, hbw⟩
  · have HR : Hid (ofx s n = false) := ofx_bad hg hz
    have hlt : ((g : Int) == (s.size : Int)) = false := beq_eq_false_iff_ne.2 (by omega)
    clear hg
    go_wp2
    go_ret
    exact ⟨by rw [HR.out]; rfl, hbw⟩

set_option maxHeartbeats 1000000 in
theorem impl_fld (s : ByteArray) (w : World) (hs : s.size ≤ 1048576) :
    Calls Tryz.prog 33 #[.string s] w fun e w' => e = .returned (.bool (fld s)) ∧ Below w.heap.size w w' := by
  go_enter Tryz.func33, Tryz.ntmps33
  go_wp2_with fail
  refine (impl_ofx s 200 _ hs (by omega)).mono ?_
  rintro e w1 ⟨rfl, hb1⟩
  cases hx : ofx s 200
  · have HR : Hid (fld s = false) := fld_no hx
    clear hx
    go_wp2
    go_ret
    exact ⟨by rw [HR.out]; rfl, hb1⟩
  · have HX : Hid (ofx s 200 = true) := hx
    clear hx
    go_wp2_with fail
    refine (li.impl_line s _ hs).mono ?_
    rintro e w2 ⟨rfl, hb2⟩
    have hb3 := hb1.trans (hb2.mono hb1.size)
    by_cases hl : li.line s.data.toList = s.data.toList
    · have HR : Hid (fld s = true) := fld_yes HX.out hl
      have hc := cmp_yes hl
      generalize (⟨(li.line s.data.toList).toArray⟩ : ByteArray) = x at hc ⊢
      clear hl
      go_wp2
      go_ret
      exact ⟨by rw [HR.out]; rfl, hb3⟩
    · have HR : Hid (fld s = false) := fld_bent hl
      have hc := cmp_no hl
      generalize (⟨(li.line s.data.toList).toArray⟩ : ByteArray) = x at hc ⊢
      clear hl
      go_wp2
      go_ret
      exact ⟨by rw [HR.out]; rfl, hb3⟩

set_option maxHeartbeats 1000000 in
theorem spec_fld (s : ByteArray) (w : World) (hs : s.size ≤ 1048576) :
    Calls Tryz.prog 54 #[.string s] w fun e w' => e = .returned (.bool (fld s)) ∧ Below w.heap.size w w' := by
  by_cases h : 200 < s.size
  · have h' : decide ((s.size : Int) ≤ 200) = false := decide_eq_false (by omega)
    have HR : Hid (fld s = false) := fld_no (ofx_long h)
    go_enter Tryz.func54, Tryz.ntmps54
    go_wp2
    go_ret
    exact ⟨by rw [HR.out]; rfl, Below.refl _ _⟩
  have h' : decide ((s.size : Int) ≤ 200) = true := decide_eq_true (by omega)
  go_enter Tryz.func54, Tryz.ntmps54
  go_wp2_with fail
  refine (xm.spec_good s _ hs).mono ?_
  rintro e w' ⟨⟨g, hg, rfl⟩, rfl⟩
  by_cases hz : g = s.size
  · rw [if_pos hz]
    subst hz
    have HX : Hid (ofx s 200 = true) := ofx_yes (by omega) hg
    clear hg
    go_wp2_with fail
    refine (li.spec_line s _ hs).mono ?_
    rintro e w2 ⟨rfl, hb2⟩
    by_cases hl : li.line s.data.toList = s.data.toList
    · have HR : Hid (fld s = true) := fld_yes HX.out hl
      have hc := cmp_yes hl
      generalize (⟨(li.line s.data.toList).toArray⟩ : ByteArray) = x at hc ⊢
      clear hl
      go_wp2
      go_ret
      exact ⟨by rw [HR.out]; rfl, hb2⟩
    · have HR : Hid (fld s = false) := fld_bent hl
      have hc := cmp_no hl
      generalize (⟨(li.line s.data.toList).toArray⟩ : ByteArray) = x at hc ⊢
      clear hl
      go_wp2
      go_ret
      exact ⟨by rw [HR.out]; rfl, hb2⟩
  · rw [if_neg hz]
    have HR : Hid (fld s = false) := fld_no (ofx_bad hg hz)
    have hlt : decide ((g : Int) < 0) = false := decide_eq_false (by omega)
    clear hg
    go_wp2
    go_ret
    exact ⟨by rw [HR.out]; rfl, Below.refl _ _⟩

set_option maxHeartbeats 400000 in
theorem impl_stamp (d : Int) (w : World) : Calls Tryz.prog 35 #[.int .i64 d] w fun e w' => e = .returned (.bool (stamp d)) ∧ w' = w := by
  go_enter Tryz.func35, Tryz.ntmps35
  go_wp2
  all_goals (go_ret; exact ⟨xm.ret_bool (by rw [Bool.eq_iff_iff]; simp [stamp] <;> omega), rfl⟩)
set_option maxHeartbeats 400000 in
theorem spec_stamp (d : Int) (w : World) : Calls Tryz.prog 55 #[.int .i64 d, .int .i64 0, .int .i64 4102444799] w fun e w' => e = .returned (.bool (stamp d)) ∧ w' = w := by
  go_enter Tryz.func55, Tryz.ntmps55
  go_wp2
  all_goals (go_ret; exact ⟨xm.ret_bool (by rw [Bool.eq_iff_iff]; simp [stamp] <;> omega), rfl⟩)
end Go.Proofs.YtadfdfmebdcfgaaGreatDoor.en
