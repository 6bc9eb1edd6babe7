/-
  Contracts of the functions on runes and names of XML: whether a number is a rune of XML, whether a byte begins a name or goes on in one, whether a text is a name; of the program and of the specification.
  Contracts of both XmlNameOK functions: whether a text is a name of XML.
  Contracts of impl.goodBytes and of the specification's l05Runes: how far a text is made of runes of XML.
  Contracts of impl.inOneLine and of the specification's l06Line, and of both OneLine functions: a text in one line.
-/
import Derived.Test.YtmckekflpdaklaaGreatDoorPkaf
import Derived.Test.YtmckekflpdaklaaGreatDoorRows
import Derived.WalkKit
import Derived.WalkLawsBesides
import Derived.Lib.Strings
import Derived.Test.YtmckekflpdaklaaGreatDoorPkaa
import Derived.Test.YtmckekflpdaklaaGreatDoorPkac
import Derived.Test.YtmckekflpdaklaaGreatDoorPkao
import Derived.Test.YtmckekflpdaklaaGreatDoorPkah
import Derived.BigRegion
import Derived.Deep.DeepCutAuto

namespace Go.Proofs.YtmckekflpdaklaaGreatDoor.xm
open Go.RowKit
set_option linter.unusedVariables false

/-- A rune of XML. -/
def xr (n : Int) : Bool := decide (n = 9 ∨ n = 10 ∨ n = 13 ∨ (32 ≤ n ∧ n ≠ 65534 ∧ n ≠ 65535 ∧ (n ≤ 55295 ∨ (57344 ≤ n ∧ n ≤ 1114111))))
def letB (c : Int) : Bool := decide (97 ≤ c ∧ c ≤ 122 ∨ 65 ≤ c ∧ c ≤ 90 ∨ c = 95)
def digB (c : Int) : Bool := decide (48 ≤ c ∧ c ≤ 57)
def morB (c : Int) : Bool := decide (48 ≤ c ∧ c ≤ 57 ∨ c = 45 ∨ c = 46 ∨ c = 58)
def gonB (c : Int) : Bool := letB c || morB c

theorem ret_bool {a b : Bool} (h : a = b) : Ending.returned (.bool a) = .returned (.bool b) := by rw [h]
theorem rsz_pos {n : Int} (h : 0 < ut.rsz n) : 0 ≤ n ∧ n ≤ 1114111 ∧ (n < 55296 ∨ 57343 < n) := by
  by_cases g : n < 0 ∨ 1114111 < n ∨ (55296 ≤ n ∧ n ≤ 57343)
  · rw [ut.rsz_no g] at h; omega
  · omega
theorem rsz_zero {n : Int} (h : ¬ 0 < ut.rsz n) : n < 0 ∨ 1114111 < n ∨ (55296 ≤ n ∧ n ≤ 57343) := by
  by_cases g : n < 0 ∨ 1114111 < n ∨ (55296 ≤ n ∧ n ≤ 57343)
  · exact g
  · exfalso; apply h; rw [ut.rsz_yes (by omega) (by omega) (by omega)]; (repeat' split) <;> omega

set_option maxHeartbeats 1000000 in
theorem impl_xr (n : Int) (w : World) : Calls Tryz.prog 127 #[.int .i64 n] w fun e w' => e = .returned (.bool (xr n)) ∧ w' = w := by
  by_cases h : n < 32
  · go_enter Tryz.func127, Tryz.ntmps127
    go_wp2
    all_goals (go_ret; exact ⟨ret_bool (by rw [Bool.eq_iff_iff]; simp [xr]; omega), rfl⟩)
  · go_enter Tryz.func127, Tryz.ntmps127
    go_wp2_with fail
    refine (ut.implSize_any n _).mono ?_
    rintro e w' ⟨rfl, rfl⟩
    by_cases hz : 0 < ut.rsz n
    · have hp := rsz_pos hz
      go_wp2
      all_goals (go_ret; exact ⟨ret_bool (by rw [Bool.eq_iff_iff]; simp [xr]; omega), rfl⟩)
    · have hp := rsz_zero hz
      have hz' : decide (0 < ut.rsz n) = false := decide_eq_false hz
      go_wp2
      all_goals (go_ret; exact ⟨ret_bool (by rw [Bool.eq_iff_iff]; simp [xr]; omega), rfl⟩)

set_option maxHeartbeats 1000000 in
theorem spec_xr (n : Int) (w : World) : Calls Tryz.prog 74 #[.int .i64 n] w fun e w' => e = .returned (.bool (xr n)) ∧ w' = w := by
  by_cases h9 : n = 9
  · subst h9
    go_enter Tryz.func74, Tryz.ntmps74
    go_wp2
    all_goals (go_ret; exact ⟨rfl, rfl⟩)
  by_cases h10 : n = 10
  · subst h10
    go_enter Tryz.func74, Tryz.ntmps74
    go_wp2
    all_goals (go_ret; exact ⟨rfl, rfl⟩)
  by_cases h13 : n = 13
  · subst h13
    go_enter Tryz.func74, Tryz.ntmps74
    go_wp2
    all_goals (go_ret; exact ⟨rfl, rfl⟩)
  have b9 : (n == 9) = false := beq_eq_false_iff_ne.2 h9
  have b10 : (n == 10) = false := beq_eq_false_iff_ne.2 h10
  have b13 : (n == 13) = false := beq_eq_false_iff_ne.2 h13
  by_cases h : n < 32
  · have hd : decide (32 ≤ n) = false := decide_eq_false (by omega)
    go_enter Tryz.func74, Tryz.ntmps74
    go_wp2
    all_goals (go_ret; exact ⟨ret_bool (by symm; simp [xr]; omega), rfl⟩)
  · have hd : decide (32 ≤ n) = true := decide_eq_true (by omega)
    go_enter Tryz.func74, Tryz.ntmps74
    go_wp2_with fail
    refine (ut.scalar_any n _).mono ?_
    rintro e w' ⟨rfl, rfl⟩
    cases hz : ut.scB n
    · have hp : ¬ (n ≤ 55295 ∨ (57344 ≤ n ∧ n ≤ 1114111)) := by simp [ut.scB, ut.inB] at hz; omega
      go_wp2
      all_goals (go_ret; exact ⟨ret_bool (by symm; simp [xr]; omega), rfl⟩)
    · have hp : (n ≤ 55295 ∨ (57344 ≤ n ∧ n ≤ 1114111)) := by simp [ut.scB, ut.inB] at hz; omega
      go_wp2
      all_goals (go_ret; exact ⟨ret_bool (by rw [Bool.eq_iff_iff]; simp [xr]; omega), rfl⟩)
end Go.Proofs.YtmckekflpdaklaaGreatDoor.xm

namespace Go.Proofs.YtmckekflpdaklaaGreatDoor.xm
open Go.RowKit
set_option linter.unusedVariables false

def gon (c : UInt8) : Bool := gonB (c.toNat : Int)
/-- A list of bytes is a name of XML. -/
def okName (l : List UInt8) : Bool := decide (1 ≤ l.length ∧ l.length ≤ 40) && letB ((l.getD 0 0).toNat : Int) && l.all gon

theorem take_snoc (s : ByteArray) (k : Nat) (h : k < s.size) : s.data.toList.take (k + 1) = s.data.toList.take k ++ [s[k]] := by
  have hl : k < s.data.toList.length := by rw [← Lib.size_eq]; exact h
  rw [List.take_succ_eq_append_getElem hl]
  rfl
theorem take_all (s : ByteArray) (k : Nat) (h : s.size ≤ k) : s.data.toList.take k = s.data.toList := List.take_of_length_le (by rw [← Lib.size_eq]; exact h)
theorem all_step {s : ByteArray} {p : UInt8 → Bool} {k : Nat} (h : k < s.size) (ha : (s.data.toList.take k).all p = true) (hp : p s[k] = true) : (s.data.toList.take (k + 1)).all p = true := by
  rw [take_snoc s k h, List.all_append, ha]; simp [hp]
theorem all_no {s : ByteArray} {p : UInt8 → Bool} {k : Nat} (h : k < s.size) (hp : p s[k] = false) : s.data.toList.all p = false := by
  cases hc : s.data.toList.all p
  · rfl
  · have hm : s[k] ∈ s.data.toList := by
      have hl : k < s.data.toList.length := by rw [← Lib.size_eq]; exact h
      have : s[k] = s.data.toList[k] := rfl
      rw [this]; exact List.getElem_mem hl
    rw [List.all_eq_true.1 hc _ hm] at hp; cases hp
theorem head_at (s : ByteArray) (h : 0 < s.size) : s.data.toList.getD 0 0 = s[0] := by
  have hl : 0 < s.data.toList.length := by rw [← Lib.size_eq]; exact h
  rw [List.getD_eq_getElem?_getD, List.getElem?_eq_getElem hl]
  rfl
theorem no_size {s : ByteArray} (h : s.size = 0 ∨ 40 < s.size) : okName s.data.toList = false := by
  have : ¬ (1 ≤ s.data.toList.length ∧ s.data.toList.length ≤ 40) := by rw [← Lib.size_eq]; omega
  unfold okName; rw [decide_eq_false this]; rfl
theorem no_head {s : ByteArray} (h : 0 < s.size) (hb : letB ((s[0]'h).toNat : Int) = false) : okName s.data.toList = false := by
  unfold okName; rw [head_at s h, hb]; simp
theorem no_byte {s : ByteArray} {k : Nat} (h : k < s.size) (hb : gon s[k] = false) : okName s.data.toList = false := by
  unfold okName; rw [all_no h hb]; simp
theorem yes_name {s : ByteArray} (h0 : 0 < s.size) (h1 : s.size ≤ 40) (hb : letB ((s[0]'h0).toNat : Int) = true) (ha : s.data.toList.all gon = true) : okName s.data.toList = true := by
  have : 1 ≤ s.data.toList.length ∧ s.data.toList.length ≤ 40 := by rw [← Lib.size_eq]; omega
  unfold okName; rw [head_at s h0, hb, ha]; simp only [this]; rfl

end Go.Proofs.YtmckekflpdaklaaGreatDoor.xm

namespace Go.Proofs.YtmckekflpdaklaaGreatDoor.xm
open Go.RowKit
set_option linter.unusedVariables false

theorem F_le (n k b0 b1 b2 b3 : Nat) (h0 : b0 < 256) : (ut.decF n k b0 b1 b2 b3).1 ≤ 1114111 := by
  unfold ut.decF
  split
  · simp; omega
  split
  · split <;> simp <;> omega
  split
  · split <;> simp <;> omega
  split
  · split
    · rename_i g
      simp [Utf8.valid] at g
      simp
      omega
    · simp
  · simp
theorem dec_le (s : ByteArray) (k : Nat) : (Utf8.decode s k).1 ≤ 1114111 := by rw [ut.dec_eq]; exact F_le _ _ _ _ _ _ (UInt8.toNat_lt _)

/-- No rune of XML begins at this place. -/
def xbad (s : ByteArray) (k : Nat) : Prop := ut.badAt s k ∨ xr ((Utf8.decode s k).1 : Int) = false
/-- So far, and no further, a text is made of runes of XML. -/
def GoodTo (s : ByteArray) (g : Nat) : Prop := ∃ n, g = ut.pos s n ∧ g ≤ s.size ∧ (∀ m, m < n → ¬ xbad s (ut.pos s m)) ∧ (g = s.size ∨ (g < s.size ∧ xbad s g))

theorem good_lt {s : ByteArray} {n n' : Nat} (h : ut.pos s n ≤ s.size) (h' : ut.pos s n' ≤ s.size) (hb : ∀ m, m < n' → ¬ xbad s (ut.pos s m)) (he : ut.pos s n = s.size ∨ (ut.pos s n < s.size ∧ xbad s (ut.pos s n))) (hlt : n < n') : ut.pos s n = ut.pos s n' := by
  rcases he with he | ⟨_, he⟩
  · have := ut.pos_mono s n (n' - n)
    rw [show n + (n' - n) = n' from by omega] at this
    omega
  · exact absurd he (hb n hlt)
theorem good_one {s : ByteArray} {g g' : Nat} (h : GoodTo s g) (h' : GoodTo s g') : g = g' := by
  obtain ⟨n, rfl, hs, hb, he⟩ := h
  obtain ⟨n', rfl, hs', hb', he'⟩ := h'
  rcases Nat.lt_trichotomy n n' with hlt | rfl | hlt
  · exact good_lt hs hs' hb' he hlt
  · rfl
  · exact (good_lt hs' hs hb he' hlt).symm
theorem good_step {s : ByteArray} {n : Nat} (hg : ∀ m, m < n → ¬ xbad s (ut.pos s m)) (h : ¬ xbad s (ut.pos s n)) : ∀ m, m < n + 1 → ¬ xbad s (ut.pos s m) := by
  intro m hm
  by_cases e : m = n
  · subst e; exact h
  · exact hg m (by omega)

set_option maxHeartbeats 2000000 in
set_option maxRecDepth 100000 in
theorem impl_good (s : ByteArray) (w : World) (hs : s.size ≤ 1048576) :
    Calls Tryz.prog 83 #[.string s] w fun e w' => ∃ g : Nat, e = .returned (.int .i64 g) ∧ GoodTo s g ∧ ∃ p, w' = w.iter s p := by
  go_enter Tryz.func83, Tryz.ntmps83
  go_wp2
  go_loopw [3, 4] (fun _ _ w' => ∃ n : Nat, ut.pos s n ≤ s.size ∧ w' = w.iter s (ut.pos s n) ∧ ∀ m, m < n → ¬ xbad s (ut.pos s m)) (fun _ _ w' => s.size - w'.iterPos w.heap.size)
  case atStart => exact ⟨0, Nat.zero_le _, rfl, fun j hj => absurd hj (Nat.not_lt_zero _)⟩
  case round =>
    obtain ⟨n, hn, rfl, hg⟩ := hrel
    have HG : Hid (∀ m, m < n → ¬ xbad s (ut.pos s m)) := hg
    clear hg
    obtain ⟨p, hp⟩ : ∃ p, p = ut.pos s n := ⟨_, rfl⟩
    rw [← hp] at hn ⊢
    have HP : Hid (p = ut.pos s n) := hp
    clear hp
    by_cases hlt : p < s.size
    · have hnx : ∀ ty, (Instr.next (.pointer (some ⟨w.heap.size, 0, none⟩)) true ty).run Tryz.prog (w.iter s p) = _ := fun ty => run_next_any w s p ty hlt
      have hle := dec_le s p
      cases hx : xr ((Utf8.decode s p).1 : Int)
      case false =>
        have HX : Hid (xr ((Utf8.decode s p).1 : Int) = false) := hx
        go_wp2_with (go_at_call 127; refine (impl_xr _ _).mono ?_; rintro e w' ⟨rfl, rfl⟩; rw [hx])
        go_ret
        exact ⟨p, rfl, ⟨n, HP.out, hn, HG.out, .inr ⟨hlt, .inr HX.out⟩⟩, _, rfl⟩
      case true =>
        have HX : Hid (xr ((Utf8.decode s p).1 : Int) = true) := hx
        go_wp2_with (first | (go_at_call 127; refine (impl_xr _ _).mono ?_; rintro e w' ⟨rfl, rfl⟩; rw [hx]) | go_in)
        · go_ret
          exact ⟨p, rfl, ⟨n, HP.out, hn, HG.out, .inr ⟨hlt, .inl (ut.stand_bad hlt ‹_› (by rename_i h; simpa [ut.standAt] using h))⟩⟩, _, rfl⟩
        · go_roundw
          case rel => exact ⟨n + 1, by rw [ut.pos, ← HP.out]; exact (ut.wide s p hlt).2, by rw [ut.pos, ← HP.out], good_step HG.out (by rename_i hst; rw [← HP.out]; rintro (h | h); exact ut.stand_good (by omega) (by simpa [ut.standAt] using hst) h; rw [HX.out] at h; cases h)⟩
          case measure => have := ut.wide s p hlt; simp; omega
        · go_ret
          exact ⟨p, rfl, ⟨n, HP.out, hn, HG.out, .inr ⟨hlt, .inl (ut.stand_short hlt ‹_› (by omega))⟩⟩, _, rfl⟩
        · go_roundw
          case rel => exact ⟨n + 1, by rw [ut.pos, ← HP.out]; exact (ut.wide s p hlt).2, by rw [ut.pos, ← HP.out], good_step HG.out (by rw [← HP.out]; rintro (h | h); have := ut.bad_rune h; omega; rw [HX.out] at h; cases h)⟩
          case measure => have := ut.wide s p hlt; simp; omega
    · have hnx : ∀ ty, (Instr.next (.pointer (some ⟨w.heap.size, 0, none⟩)) true ty).run Tryz.prog (w.iter s p) = _ := fun ty => run_next_end w s p ty hlt
      go_wp2
      go_ret
      exact ⟨s.size, rfl, ⟨n, by have := HP.out; omega, Nat.le_refl _, HG.out, .inl rfl⟩, _, rfl⟩

set_option maxHeartbeats 1000000 in
theorem spec_good (s : ByteArray) (w : World) (hs : s.size ≤ 1048576) :
    Calls Tryz.prog 30 #[.string s] w fun e w' => (∃ g : Nat, GoodTo s g ∧ e = .returned (.int .i64 (if g = s.size then -1 else (g : Int)))) ∧ w' = w := by
  go_enter Tryz.func30, Tryz.ntmps30
  go_wp2
  go_loop [3, 4, 5, 6] (fun i _ _ _ => ∃ n : Nat, ut.pos s n ≤ s.size ∧ i = .int .i64 (ut.pos s n) ∧ ∀ m, m < n → ¬ xbad s (ut.pos s m)) (fun i _ _ _ => s.size - (intOf i).toNat)
  case atStart => exact ⟨0, Nat.zero_le _, rfl, fun j hj => absurd hj (Nat.not_lt_zero _)⟩
  case round =>
    obtain ⟨n, hn, rfl, hg⟩ := hrel
    have HG : Hid (∀ m, m < n → ¬ xbad s (ut.pos s m)) := hg
    clear hg
    obtain ⟨p, hp⟩ : ∃ p, p = ut.pos s n := ⟨_, rfl⟩
    rw [← hp] at hn ⊢
    have HP : Hid (p = ut.pos s n) := hp
    clear hp
    by_cases hlt : p < s.size
    · go_wp2_with fail
      refine (ut.rune_any s p _ hs hlt).mono ?_
      rintro e w' ⟨hr, rfl⟩
      rcases hr with ⟨hb, rfl⟩ | ⟨hb, rfl⟩
      · have HB : Hid (ut.badAt s p) := hb
        clear hb
        go_wp2
        go_ret
        exact ⟨⟨p, ⟨n, HP.out, hn, HG.out, .inr ⟨hlt, .inl HB.out⟩⟩, by rw [if_neg (by omega)]; rfl⟩, rfl⟩
      · have HB : Hid (¬ ut.badAt s p) := hb
        clear hb
        have hw := ut.wide s p hlt
        cases hx : xr ((Utf8.decode s p).1 : Int)
        case false =>
          have HX : Hid (xr ((Utf8.decode s p).1 : Int) = false) := hx
          go_wp2_with (go_at_call 74; refine (spec_xr _ _).mono ?_; rintro e w' ⟨rfl, rfl⟩; rw [hx])
          go_ret
          exact ⟨⟨p, ⟨n, HP.out, hn, HG.out, .inr ⟨hlt, .inr HX.out⟩⟩, by rw [if_neg (by omega)]; rfl⟩, rfl⟩
        case true =>
          have HX : Hid (xr ((Utf8.decode s p).1 : Int) = true) := hx
          go_wp2_with (go_at_call 74; refine (spec_xr _ _).mono ?_; rintro e w' ⟨rfl, rfl⟩; rw [hx])
          go_round
          case rel => exact ⟨n + 1, by rw [ut.pos, ← HP.out]; exact (ut.wide s p hlt).2, by rw [ut.pos, ← HP.out]; go_num, good_step HG.out (by rw [← HP.out]; rintro (h | h); exact HB.out h; rw [HX.out] at h; cases h)⟩
          case measure => have := ut.wide s p hlt; simp [intOf]; omega
    · go_wp2
      go_ret
      exact ⟨⟨s.size, ⟨n, by have := HP.out; omega, Nat.le_refl _, HG.out, .inl rfl⟩, by rw [if_pos rfl]; rfl⟩, rfl⟩
end Go.Proofs.YtmckekflpdaklaaGreatDoor.xm

namespace Go.Proofs.YtmckekflpdaklaaGreatDoor.li
open Go.RowKit
set_option linter.unusedVariables false

theorem is32 (c : UInt8) : ((c.toNat : Int) == 32) = (c == 32) := by
  rw [Bool.eq_iff_iff]; simp only [beq_iff_eq]
  constructor
  · intro h; exact UInt8.toNat_inj.1 (by have : ((32 : UInt8).toNat : Int) = 32 := rfl; omega)
  · rintro rfl; rfl
def blankB (c : Int) : Bool := decide (c = 9 ∨ c = 10 ∨ c = 13 ∨ c = 32)
theorem blk_int (c : UInt8) : blankB (c.toNat : Int) = blk c := by
  rw [Bool.eq_iff_iff]
  simp [blk, blankB, ← UInt8.toNat_inj]
  omega
set_option maxHeartbeats 400000 in
theorem impl_blank (c : Int) (w : World) : Calls Tryz.prog 124 #[.int .u8 c] w fun e w' => e = .returned (.bool (blankB c)) ∧ w' = w := by
  go_enter Tryz.func124, Tryz.ntmps124
  go_wp2
  all_goals (go_ret; exact ⟨xm.ret_bool (by rw [Bool.eq_iff_iff]; simp [blankB] <;> omega), rfl⟩)
set_option maxHeartbeats 400000 in
theorem spec_blank (c : Int) (w : World) : Calls Tryz.prog 120 #[.int .u8 c] w fun e w' => e = .returned (.bool (blankB c)) ∧ w' = w := by
  go_enter Tryz.func120, Tryz.ntmps120
  go_wp2
  all_goals (go_ret; exact ⟨xm.ret_bool (by rw [Bool.eq_iff_iff]; simp [blankB] <;> omega), rfl⟩)
theorem impl_blk (c : UInt8) (w : World) : Calls Tryz.prog 124 #[.int .u8 (c.toNat : Int)] w fun e w' => e = .returned (.bool (blk c)) ∧ w' = w := by
  rw [← blk_int]; exact impl_blank _ w
theorem spec_blk (c : UInt8) (w : World) : Calls Tryz.prog 120 #[.int .u8 (c.toNat : Int)] w fun e w' => e = .returned (.bool (blk c)) ∧ w' = w := by
  rw [← blk_int]; exact spec_blank _ w

/-- The state behind so many bytes. -/
def sk (s : ByteArray) (k : Nat) : List UInt8 × Bool := st (s.data.toList.take k)
theorem sk_step (s : ByteArray) (k : Nat) (h : k < s.size) : sk s (k + 1) = step (sk s k) s[k] := by unfold sk; rw [xm.take_snoc s k h, st_snoc]
theorem sk_all (s : ByteArray) (k : Nat) (h : s.size ≤ k) : (sk s k).1 = line s.data.toList := by unfold sk line; rw [xm.take_all s k h]
theorem sk_len (s : ByteArray) (k : Nat) : (sk s k).1.length ≤ s.size := by
  have h1 := line_len (s.data.toList.take k)
  have h2 : (s.data.toList.take k).length ≤ s.data.toList.length := by rw [List.length_take]; omega
  rw [← Lib.size_eq] at h2
  unfold sk
  unfold line at h1
  omega
theorem sk_spo (s : ByteArray) (k : Nat) : (spo (sk s k)).length ≤ s.size := by
  have h1 := spo_le (s.data.toList.take k)
  have h2 : (s.data.toList.take k).length ≤ s.data.toList.length := by rw [List.length_take]; omega
  rw [← Lib.size_eq] at h2
  unfold sk
  omega
theorem sk_zero (s : ByteArray) : sk s 0 = ([], false) := rfl
theorem sk_prev (s : ByteArray) (k : Nat) (h : k < s.size) : (sk s (k + 1)).2 = blk s[k] := by rw [sk_step s k h, step_prev]

theorem put32 (B b : Nat) (l : List UInt8) (w : World) (h : bl.Bd B b l w) (hlen : l.length + 1 ≤ 140737488355328) (hBw : B ≤ w.heap.size) :
    Calls Tryz.prog 126 #[.pointer (some ⟨b, 0, none⟩), .int .u8 32] w fun e w' => (∃ v, e = .returned v) ∧ bl.Bd B b (l ++ [32]) w' ∧ Below B w w' := by
  have := bl.byte B b l 32 w h hlen hBw
  rwa [show (((32 : UInt8).toNat : Nat) : Int) = 32 from rfl] at this
set_option maxHeartbeats 2000000 in
set_option maxRecDepth 100000 in
theorem impl_line (s : ByteArray) (w : World) (hs : s.size ≤ 1048576) :
    Calls Tryz.prog 82 #[.string s] w fun e w' => e = .returned (.string ⟨(line s.data.toList).toArray⟩) ∧ Below w.heap.size w w' := by
  go_enter Tryz.func82, Tryz.ntmps82
  go_wp2
  go_loopw [7] (fun i wr => ∃ k : Nat, k ≤ s.size ∧ i = .int .i64 k ∧ bl.Bd w.heap.size w.heap.size (sk s k).1 wr ∧ Below w.heap.size w wr) (fun i _ => s.size - (intOf i).toNat)
  case atStart => exact ⟨0, Nat.zero_le _, rfl, bl.fresh w, (Below.refl _ _).alloc (Nat.le_refl _) _⟩
  case round =>
    obtain ⟨k, hk, rfl, hbd, hbw⟩ := hrel
    have HL := sk_len s k
    by_cases hlt : k < s.size
    · have HS : Hid (sk s (k + 1) = step (sk s k) s[k]) := sk_step s k hlt
      have HBc := impl_blk (s[k]'hlt)
      cases hb : blk (s[k]'hlt)
      · rw [hb] at HBc
        have HB : Hid (∀ w, Calls Tryz.prog 124 #[.int .u8 ((s[k]'hlt).toNat : Int)] w fun e w' => e = .returned (.bool false) ∧ w' = w) := HBc
        have Hb : Hid (blk (s[k]'hlt) = false) := hb
        clear HBc hb
        by_cases h0 : (sk s k).1 = []
        · have HE : Hid (sk s (k + 1) = ((sk s k).1 ++ [s[k]'hlt], false)) := HS.out.trans (step_one Hb.out (.inl h0))
          have HN : Hid (((sk s k).1.length : Int) = 0) := by rw [h0]; rfl
          clear h0 HS
          generalize hx : (sk s k).1 = x at hbd HE HN HL
          have HX : Hid ((sk s k).1 = x) := hx
          clear hx
          go_wp2_with (first | (go_at_call 124; refine (HB.out _).mono ?_; rintro e w' ⟨rfl, rfl⟩) | (go_at_call 125; refine (bl.len w.heap.size w.heap.size _ _ hbd).mono ?_; rintro e w' ⟨rfl, rfl⟩; rw [HN.out]) | (go_at_call 126; refine (bl.byte w.heap.size w.heap.size _ (s[k]'hlt) _ hbd (by omega) hbw.size).mono ?_; rintro e w2 ⟨⟨v, rfl⟩, hb2, hbw2⟩; have hbw3 := hbw.trans hbw2; clear hbd hbw hbw2))
          go_roundw
          case rel => exact ⟨k + 1, by omega, by go_num, by rw [HE.out]; exact hb2, hbw3⟩
          case measure => simp [intOf]; omega
        · obtain ⟨j, rfl⟩ : ∃ j, k = j + 1 := by
            cases k with
            | zero => exact absurd rfl h0
            | succ j => exact ⟨j, rfl⟩
          have hj : j < s.size := by omega
          have HP : Hid ((sk s (j + 1)).2 = blk (s[j]'hj)) := sk_prev s j hj
          have HN : Hid (0 < (sk s (j + 1)).1.length) := List.length_pos_iff.2 h0
          have hj1 : ((j + 1 : Nat) : Int) - 1 = (j : Int) := by omega
          cases hp : blk (s[j]'hj)
          · rw [hp] at HP
            have Hq : Hid (blk (s[j]'hj) = false) := hp
            have HE : Hid (sk s (j + 1 + 1) = ((sk s (j + 1)).1 ++ [s[j + 1]'hlt], false)) := HS.out.trans (step_one Hb.out (.inr HP.out))
            clear h0 HS hp
            generalize hx : (sk s (j + 1)).1 = x at hbd HE HN HL
            have HX : Hid ((sk s (j + 1)).1 = x) := hx
            have hn := HN.out
            clear hx
            go_wp2_with (first | (go_at_call 124; refine (impl_blk _ _).mono ?_; rintro e w' ⟨rfl, rfl⟩; first | rw [Hb.out] | rw [Hq.out]) | (go_at_call 125; refine (bl.len w.heap.size w.heap.size _ _ hbd).mono ?_; rintro e w' ⟨rfl, rfl⟩) | (go_at_call 126; refine (bl.byte w.heap.size w.heap.size _ (s[j + 1]'hlt) _ hbd (by omega) hbw.size).mono ?_; rintro e w2 ⟨⟨v, rfl⟩, hb2, hbw2⟩; have hbw3 := hbw.trans hbw2; clear hbd hbw hbw2))
            go_roundw
            case rel => exact ⟨j + 1 + 1, by omega, by go_num, by rw [HE.out]; exact hb2, hbw3⟩
            case measure => simp [intOf]; omega
          · rw [hp] at HP
            have Hq : Hid (blk (s[j]'hj) = true) := hp
            have HE : Hid (sk s (j + 1 + 1) = ((sk s (j + 1)).1 ++ [32, s[j + 1]'hlt], false)) := HS.out.trans (step_two Hb.out h0 HP.out)
            clear h0 HS hp
            generalize hx : (sk s (j + 1)).1 = x at hbd HE HN HL
            have HX : Hid ((sk s (j + 1)).1 = x) := hx
            have hn := HN.out
            clear hx
            go_wp2_with (first | (go_at_call 124; refine (impl_blk _ _).mono ?_; rintro e w' ⟨rfl, rfl⟩; first | rw [Hb.out] | rw [Hq.out]) | (go_at_call 125; refine (bl.len w.heap.size w.heap.size _ _ hbd).mono ?_; rintro e w' ⟨rfl, rfl⟩) | (go_at_call 126; refine (put32 w.heap.size w.heap.size _ _ hbd (by omega) hbw.size).mono ?_; rintro e w2 ⟨⟨v, rfl⟩, hb2, hbw2⟩; have hbw3 := hbw.trans hbw2; clear hbd hbw hbw2) | (go_at_call 126; refine (bl.byte w.heap.size w.heap.size _ (s[j + 1]'hlt) _ hb2 (by simp; omega) hbw3.size).mono ?_; rintro e w4 ⟨⟨v, rfl⟩, hb4, hbw4⟩; have hbw5 := hbw3.trans hbw4; clear hb2 hbw3 hbw4))
            go_roundw
            case rel => exact ⟨j + 1 + 1, by omega, by go_num, by rw [HE.out]; simpa using hb4, hbw5⟩
            case measure => simp [intOf]; omega
      · rw [hb] at HBc
        have HB : Hid (∀ w, Calls Tryz.prog 124 #[.int .u8 ((s[k]'hlt).toNat : Int)] w fun e w' => e = .returned (.bool true) ∧ w' = w) := HBc
        have HE : Hid (sk s (k + 1) = ((sk s k).1, true)) := HS.out.trans (step_blank _ hb)
        clear HBc hb HS
        go_wp2_with (go_at_call 124; refine (HB.out _).mono ?_; rintro e w' ⟨rfl, rfl⟩)
        go_roundw
        case rel => exact ⟨k + 1, by omega, by go_num, by rw [HE.out]; exact hbd, hbw⟩
        case measure => simp [intOf]; omega
    · have HT : Hid ((sk s k).1 = line s.data.toList) := sk_all s k (by omega)
      go_wp2_with fail
      refine (bl.said w.heap.size w.heap.size _ _ hbd hbw.size).mono ?_
      rintro e w2 ⟨rfl, hb2⟩
      go_wp2
      go_ret
      exact ⟨by rw [HT.out]; rfl, hbw.trans hb2⟩
end Go.Proofs.YtmckekflpdaklaaGreatDoor.li
