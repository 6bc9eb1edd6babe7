/-
  Plain facts on the places at which a reader of a text stands: after n steps, and when every step finds a rune.
  Contracts of impl.isRight and of the specification's ValidText: whether a text is right, and of at most 65536 bytes.
  Contracts of impl.cutPlace and of both CutRunes functions: the longest beginning that ends where a rune does and has at most n bytes.
  Plain facts on base 64: the text of bytes, the reading of a text, that each leads back to the other.
  Plain facts on encoded words: what a text is encoded to, and what words say.
  Plain facts on reading base 64: bit by bit without the signs at the end, and group by group, come to the same.
  Plain facts on reading base 64 group by group: what a group's number and signs say of the whole.
  Contracts of the text builder's methods at this program: the check of its place, writing a text, writing bytes.
-/
import Derived.Test.YtadfdfmebdcfgaaGreatDoorUtf
import Derived.Lib.Strings
import Derived.Lib.IndexBytes
import Derived.Test.YtadfdfmebdcfgaaGreatDoorUtx
import Derived.Test.YtadfdfmebdcfgaaGreatDoorRows
import Derived.WalkKit
import Derived.WalkLawsBesides
import Derived.Test.YtadfdfmebdcfgaaGreatDoorShf
import Derived.Test.YtadfdfmebdcfgaaGreatDoorHdf
import Derived.Lib.IndexMore
import Derived.Lib.IndexLaws
import Derived.Test.YtadfdfmebdcfgaaGreatDoorOwn
import Derived.Laws.AppendOwn

namespace Go.Proofs.YtadfdfmebdcfgaaGreatDoor.ut
open Go.RowKit
set_option linter.unusedVariables false

/-- The place after n steps, each as wide as the model's decoding says. -/
def pos (s : ByteArray) : Nat → Nat
  | 0 => 0
  | n + 1 => pos s n + (Utf8.decode s (pos s n)).2
/-- A text is right: a rune begins at every place that is come to. -/
def Right (s : ByteArray) : Prop := ∀ n, pos s n < s.size → ¬ badAt s (pos s n)
/-- A call that answers whether something holds. -/
def Says (p : Prop) (e : Ending) : Prop := ∃ b : Bool, e = .returned (.bool b) ∧ (b = true ↔ p)

theorem says_no {p : Prop} (h : ¬ p) : Says p (.returned (.bool false)) := ⟨false, rfl, fun x => (by cases x), fun x => absurd x h⟩
theorem says_yes {p : Prop} (h : p) : Says p (.returned (.bool true)) := ⟨true, rfl, fun _ => h, fun _ => rfl⟩
theorem says_ex {p : Prop} {e : Ending} (h : Says p e) : ∃ b : Bool, e = .returned (.bool b) := ⟨h.choose, h.choose_spec.1⟩
theorem says_same {p : Prop} {a b : Bool} (h1 : Says p (.returned (.bool a))) (h2 : Says p (.returned (.bool b))) : a = b := by
  obtain ⟨x, hx, h1⟩ := h1
  obtain ⟨y, hy, h2⟩ := h2
  cases hx; cases hy
  exact Bool.eq_iff_iff.2 (h1.trans h2.symm)
theorem says_iff {p : Prop} {b : Bool} (h : Says p (.returned (.bool b))) : b = true ↔ p := by
  obtain ⟨x, hx, h⟩ := h
  cases hx
  exact h
theorem says_of {p : Prop} {b : Bool} (h : b = true ↔ p) : Says p (.returned (.bool b)) := ⟨b, rfl, h⟩

theorem F_wide (n k b0 b1 b2 b3 : Nat) (hk : k < n) : 1 ≤ (decF n k b0 b1 b2 b3).2 ∧ k + (decF n k b0 b1 b2 b3).2 ≤ n := by
  unfold decF
  split
  · simp; omega
  split
  · rename_i g; simp at g
    split <;> simp <;> omega
  split
  · rename_i g; simp at g
    split <;> simp <;> omega
  split
  · rename_i g; simp at g
    split <;> simp <;> omega
  · simp; omega
theorem wide (s : ByteArray) (k : Nat) (hk : k < s.size) : 1 ≤ (Utf8.decode s k).2 ∧ k + (Utf8.decode s k).2 ≤ s.size := by
  rw [dec_eq]
  exact F_wide _ _ _ _ _ _ hk
theorem pos_le (s : ByteArray) (n : Nat) (h : pos s n < s.size) : pos s (n + 1) ≤ s.size ∧ pos s n < pos s (n + 1) := by
  have := wide s _ h
  simp only [pos]
  omega
theorem pos_mono (s : ByteArray) (n m : Nat) : pos s n ≤ pos s (n + m) := by
  induction m with
  | zero => exact Nat.le_refl _
  | succ m ih => rw [← Nat.add_assoc]; simp only [pos]; omega
theorem right_of (s : ByteArray) (n : Nat) (h : s.size ≤ pos s n) (hg : ∀ m, m < n → ¬ badAt s (pos s m)) : Right s := by
  intro m hm
  by_cases hmn : m < n
  · exact hg m hmn
  · have := pos_mono s n (m - n)
    rw [show n + (m - n) = m from by omega] at this
    omega
theorem right_step {s : ByteArray} {n : Nat} (hg : ∀ m, m < n → ¬ badAt s (pos s m)) (h : ¬ badAt s (pos s n)) : ∀ m, m < n + 1 → ¬ badAt s (pos s m) := by
  intro m hm
  by_cases e : m = n
  · subst e; exact h
  · exact hg m (by omega)
theorem wrong_at {s : ByteArray} {n : Nat} (h : pos s n < s.size) (hb : badAt s (pos s n)) : ¬ Right s := fun hr => hr n h hb
theorem bad_wide {s : ByteArray} {k : Nat} (h : badAt s k) : (Utf8.decode s k).2 = 1 := by rw [badAt] at h; rw [h]
theorem bad_rune {s : ByteArray} {k : Nat} (h : badAt s k) : (Utf8.decode s k).1 = 65533 := by rw [badAt] at h; rw [h]

theorem F_stand {n k b0 b1 b2 b3 : Nat} (h : (decF n k b0 b1 b2 b3).1 = 65533) (u0 : b0 ≤ 255) (u1 : b1 ≤ 255) (u2 : b2 ≤ 255) :
    decF n k b0 b1 b2 b3 = (65533, 1) ∨ (k + 2 < n ∧ b0 = 239 ∧ b1 = 191 ∧ b2 = 189) := by
  revert h
  unfold decF
  split
  · intro h; simp at h; omega
  split
  · rename_i g; simp at g
    split
    · intro h; simp at h; omega
    · intro _; exact .inl rfl
  split
  · rename_i g; simp at g
    split
    · intro h; simp at h
      right
      omega
    · intro _; exact .inl rfl
  split
  · rename_i g; simp at g
    split
    · rename_i g2; simp at g2
      intro h; simp at h; omega
    · intro _; exact .inl rfl
  · intro _; exact .inl rfl

/-- The three bytes of the stand-in lie at a place. -/
def standAt (s : ByteArray) (p : Nat) : Bool := ((s.extract p s.size).extract 0 3).toList == [239, 191, 189]
theorem stand_list (s : ByteArray) (p : Nat) (h : p + 2 < s.size) : ((s.extract p s.size).extract 0 3).toList = [s.get! p, s.get! (p + 1), s.get! (p + 2)] := by
  rw [Lib.extract_toList, Lib.extract_to_end]
  rw [get_byte s p (by omega), get_byte s (p + 1) (by omega), get_byte s (p + 2) (by omega)]
  have hl : s.data.toList.length = s.size := (Lib.size_eq s).symm
  rw [List.drop_zero, List.drop_eq_getElem_cons (by omega), List.drop_eq_getElem_cons (by omega), List.drop_eq_getElem_cons (by omega)]
  rfl
theorem stand_bad {s : ByteArray} {p : Nat} (hp : p < s.size) (h : ((Utf8.decode s p).1 : Int) = 65533) (hb : standAt s p = false) : badAt s p := by
  have h' : (decF s.size p (s.get! p).toNat (s.get! (p + 1)).toNat (s.get! (p + 2)).toNat (s.get! (p + 3)).toNat).1 = 65533 := by rw [← dec_eq]; omega
  rcases F_stand h' (by have := UInt8.toNat_lt (s.get! p); omega) (by have := UInt8.toNat_lt (s.get! (p + 1)); omega) (by have := UInt8.toNat_lt (s.get! (p + 2)); omega) with e | ⟨hn, e0, e1, e2⟩
  · rw [badAt, dec_eq, e]
  · exfalso
    rw [standAt, stand_list s p hn] at hb
    have f0 : s.get! p = 239 := UInt8.toNat_inj.1 e0
    have f1 : s.get! (p + 1) = 191 := UInt8.toNat_inj.1 e1
    have f2 : s.get! (p + 2) = 189 := UInt8.toNat_inj.1 e2
    rw [f0, f1, f2] at hb
    simp at hb
theorem stand_short {s : ByteArray} {p : Nat} (hp : p < s.size) (h : ((Utf8.decode s p).1 : Int) = 65533) (hb : s.size < p + 3) : badAt s p := by
  have h' : (decF s.size p (s.get! p).toNat (s.get! (p + 1)).toNat (s.get! (p + 2)).toNat (s.get! (p + 3)).toNat).1 = 65533 := by rw [← dec_eq]; omega
  rcases F_stand h' (by have := UInt8.toNat_lt (s.get! p); omega) (by have := UInt8.toNat_lt (s.get! (p + 1)); omega) (by have := UInt8.toNat_lt (s.get! (p + 2)); omega) with e | ⟨hn, e0, e1, e2⟩
  · rw [badAt, dec_eq, e]
  · omega
theorem stand_good {s : ByteArray} {p : Nat} (hn : p + 2 < s.size) (hb : standAt s p = true) : ¬ badAt s p := by
  rw [standAt, stand_list s p hn] at hb
  simp at hb
  obtain ⟨f0, f1, f2⟩ := hb
  rw [badAt, dec_eq, f0, f1, f2]
  intro h
  rw [show UInt8.toNat 239 = 239 from rfl, show UInt8.toNat 191 = 191 from rfl, show UInt8.toNat 189 = 189 from rfl, F3 (by omega) (by omega) hn (by omega) (by omega) (by omega) (by omega), if_pos (by omega)] at h
  simp at h
end Go.Proofs.YtadfdfmebdcfgaaGreatDoor.ut

namespace Go.Proofs.YtadfdfmebdcfgaaGreatDoor.ut
open Go.RowKit
set_option linter.unusedVariables false

set_option maxHeartbeats 1000000 in
set_option maxRecDepth 100000 in
theorem isRight_any (s : ByteArray) (w : World) (hs : s.size ≤ 1048576) :
    Calls Tryz.prog 147 #[.string s] w fun e w' => Says (Right s) e ∧ ∃ p, w' = w.iter s p := by
  go_enter Tryz.func147, Tryz.ntmps147
  go_wp2
  go_loopw [3, 4] (fun _ _ w' => ∃ n : Nat, pos s n ≤ s.size ∧ w' = w.iter s (pos s n) ∧ ∀ m, m < n → ¬ badAt s (pos s m)) (fun _ _ w' => s.size - w'.iterPos w.heap.size)
  case atStart => exact ⟨0, Nat.zero_le _, rfl, fun j hj => absurd hj (Nat.not_lt_zero _)⟩
  case round =>
    obtain ⟨n, hn, rfl, hg⟩ := hrel
    have HG : Hid (∀ m, m < n → ¬ badAt s (pos s m)) := hg
    clear hg
    obtain ⟨p, hp⟩ : ∃ p, p = pos s n := ⟨_, rfl⟩
    rw [← hp] at hn ⊢
    have HP : Hid (p = pos s n) := hp
    clear hp
    by_cases hlt : p < s.size
    · have hnx : ∀ ty, (Instr.next (.pointer (some ⟨w.heap.size, 0, none⟩)) true ty).run Tryz.prog (w.iter s p) = _ := fun ty => run_next_any w s p ty hlt
      go_wp2_with (first | go_in)
      · go_ret
        exact ⟨says_no (wrong_at (n := n) (by rw [← HP.out]; exact hlt) (by rw [← HP.out]; exact stand_bad hlt ‹_› (by rename_i h; simpa [standAt] using h))), _, rfl⟩
      · go_roundw
        case rel => exact ⟨n + 1, by rw [pos, ← HP.out]; exact (wide s p hlt).2, by rw [pos, ← HP.out], right_step HG.out (by rw [← HP.out]; exact stand_good (by omega) (by rename_i h; simpa [standAt] using h))⟩
        case measure => have := wide s p hlt; simp; omega
      · go_ret
        exact ⟨says_no (wrong_at (n := n) (by rw [← HP.out]; exact hlt) (by rw [← HP.out]; exact stand_short hlt ‹_› (by omega))), _, rfl⟩
      · go_roundw
        case rel => exact ⟨n + 1, by rw [pos, ← HP.out]; exact (wide s p hlt).2, by rw [pos, ← HP.out], right_step HG.out (by rw [← HP.out]; intro hb; have := bad_rune hb; omega)⟩
        case measure => have := wide s p hlt; simp; omega
    · have hnx : ∀ ty, (Instr.next (.pointer (some ⟨w.heap.size, 0, none⟩)) true ty).run Tryz.prog (w.iter s p) = _ := fun ty => run_next_end w s p ty hlt
      go_wp2
      go_ret
      exact ⟨says_yes (right_of s n (by have := HP.out; omega) HG.out), _, rfl⟩

/-- A text is valid: right, and not too long. -/
def Valid (s : ByteArray) : Prop := s.size ≤ 65536 ∧ Right s

set_option maxHeartbeats 1000000 in
theorem specValid_any (s : ByteArray) (w : World) (hs : s.size ≤ 1048576) :
    Calls Tryz.prog 140 #[.string s] w fun e w' => Says (Valid s) e ∧ w' = w := by
  by_cases h : s.size ≤ 65536
  case neg =>
    have h' : (65536 : Int) < (s.size : Int) := by omega
    go_enter Tryz.func140, Tryz.ntmps140
    go_wp2
    go_ret
    exact ⟨says_no (fun x => h x.1), rfl⟩
  have h' : (s.size : Int) ≤ 65536 := by omega
  go_enter Tryz.func140, Tryz.ntmps140
  go_wp2
  go_loop [3, 4, 5, 6] (fun i _ _ _ => ∃ n : Nat, pos s n ≤ s.size ∧ i = .int .i64 (pos s n) ∧ ∀ m, m < n → ¬ badAt s (pos s m)) (fun i _ _ _ => s.size - (intOf i).toNat)
  case atStart => exact ⟨0, Nat.zero_le _, rfl, fun j hj => absurd hj (Nat.not_lt_zero _)⟩
  case round =>
    obtain ⟨n, hn, rfl, hg⟩ := hrel
    have HG : Hid (∀ m, m < n → ¬ badAt s (pos s m)) := hg
    clear hg
    obtain ⟨p, hp⟩ : ∃ p, p = pos s n := ⟨_, rfl⟩
    rw [← hp] at hn ⊢
    have HP : Hid (p = pos s n) := hp
    clear hp
    by_cases hlt : p < s.size
    · go_wp2_with fail
      refine (rune_any s p _ hs hlt).mono ?_
      rintro e w' ⟨hr, rfl⟩
      rcases hr with ⟨hb, rfl⟩ | ⟨hb, rfl⟩
      · go_wp2
        go_ret
        exact ⟨says_no (fun x => wrong_at (n := n) (by rw [← HP.out]; exact hlt) (by rw [← HP.out]; exact hb) x.2), rfl⟩
      · have HB : Hid (¬ badAt s p) := hb
        clear hb
        have hw := wide s p hlt
        go_wp2
        go_round
        case rel => exact ⟨n + 1, by rw [pos, ← HP.out]; exact (wide s p hlt).2, by rw [pos, ← HP.out]; go_num, right_step HG.out (by rw [← HP.out]; exact HB.out)⟩
        case measure => have := wide s p hlt; simp [intOf]; omega
    · go_wp2
      go_ret
      exact ⟨says_yes ⟨h, right_of s n (by have := HP.out; omega) HG.out⟩, rfl⟩
end Go.Proofs.YtadfdfmebdcfgaaGreatDoor.ut

namespace Go.Proofs.YtadfdfmebdcfgaaGreatDoor.ut
open Go.RowKit
set_option linter.unusedVariables false

/-- The place at which a text is cut: a rune's beginning, or the end, not beyond n, the next one beyond it. -/
def CutAt (s : ByteArray) (n : Int) (k : Nat) : Prop := ∃ j, k = pos s j ∧ k ≤ s.size ∧ (k : Int) ≤ n ∧ (n < (pos s (j + 1) : Int) ∨ s.size ≤ k)

theorem cut_one {s : ByteArray} {n : Int} {k k' : Nat} (h : CutAt s n k) (h' : CutAt s n k') : k = k' := by
  have key : ∀ {j j' : Nat}, j < j' → pos s j' ≤ s.size → (pos s j' : Int) ≤ n → (n < (pos s (j + 1) : Int) ∨ s.size ≤ pos s j) → pos s j = pos s j' := by
    intro j j' hlt hle hn hx
    have h1 := pos_mono s (j + 1) (j' - (j + 1))
    rw [show j + 1 + (j' - (j + 1)) = j' from by omega] at h1
    have h2 := pos_mono s j (j' - j)
    rw [show j + (j' - j) = j' from by omega] at h2
    omega
  obtain ⟨j, rfl, a1, a2, a3⟩ := h
  obtain ⟨j', rfl, b1, b2, b3⟩ := h'
  rcases Nat.lt_trichotomy j j' with e | e | e
  · exact key e b1 b2 a3
  · rw [e]
  · exact (key e a1 a2 b3).symm
theorem pos_end (s : ByteArray) : ∃ j, pos s j = s.size := by
  have key : ∀ m n, pos s n ≤ s.size → s.size - pos s n ≤ m → ∃ j, pos s j = s.size := by
    intro m
    induction m with
    | zero => intro n h1 h2; exact ⟨n, by omega⟩
    | succ m ih =>
      intro n h1 h2
      by_cases e : pos s n = s.size
      · exact ⟨n, e⟩
      · have := pos_le s n (by omega)
        exact ih (n + 1) this.1 (by omega)
  exact key s.size 0 (Nat.zero_le _) (by simp [pos])
theorem cut_all {s : ByteArray} {n : Int} (h : (s.size : Int) ≤ n) : CutAt s n s.size := by
  obtain ⟨j, hj⟩ := pos_end s
  exact ⟨j, hj.symm, Nat.le_refl _, h, .inr (Nat.le_refl _)⟩
/-- What a call that cuts answers. -/
def PlaceRet (s : ByteArray) (n : Int) (e : Ending) : Prop := ∃ k : Nat, e = .returned (.int .i64 (k : Int)) ∧ CutAt s n k

set_option maxHeartbeats 1000000 in
set_option maxRecDepth 100000 in
theorem place_any (s : ByteArray) (n : Int) (w : World) (hs : s.size ≤ 1048576) (h0 : 0 ≤ n) :
    Calls Tryz.prog 180 #[.string s, .int .i64 n] w fun e w' => PlaceRet s n e ∧ Below w.heap.size w w' := by
  by_cases hle : (s.size : Int) ≤ n
  · go_enter Tryz.func180, Tryz.ntmps180
    go_wp2
    go_ret
    exact ⟨⟨s.size, rfl, cut_all hle⟩, Below.refl _ _⟩
  have hlt : n < (s.size : Int) := by omega
  clear hle
  go_enter Tryz.func180, Tryz.ntmps180
  go_wp2
  go_loopw [5, 6] (fun q _ w' => ∃ (j i : Nat), pos s j ≤ s.size ∧ w' = w.iter s (pos s j) ∧ q = .int .i64 (pos s i) ∧ ((pos s i : Nat) : Int) ≤ n ∧ (j = i + 1 ∨ (j = 0 ∧ i = 0))) (fun _ _ w' => s.size - w'.iterPos w.heap.size)
  case atStart => exact ⟨0, 0, Nat.zero_le _, rfl, rfl, h0, .inr ⟨rfl, rfl⟩⟩
  case round =>
    obtain ⟨j, i, hj, rfl, rfl, hi, hij⟩ := hrel
    have HI : Hid (j = i + 1 ∨ (j = 0 ∧ i = 0)) := hij
    clear hij
    obtain ⟨p, hp⟩ : ∃ p, p = pos s j := ⟨_, rfl⟩
    rw [← hp] at hj ⊢
    have HP : Hid (p = pos s j) := hp
    clear hp
    obtain ⟨q, hq⟩ : ∃ q, q = pos s i := ⟨_, rfl⟩
    rw [← hq] at hi ⊢
    have HQ : Hid (q = pos s i) := hq
    clear hq
    by_cases hlp : p < s.size
    · have hnx : ∀ ty, (Instr.next (.pointer (some ⟨w.heap.size, 0, none⟩)) true ty).run Tryz.prog (w.iter s p) = _ := fun ty => run_next_any w s p ty hlp
      by_cases hpn : n < (p : Int)
      · go_wp2
        go_ret
        refine ⟨⟨q, rfl, i, HQ.out, ?_, hi, .inl ?_⟩, (Below.refl _ _).alloc (Nat.le_refl _) _⟩
        · omega
        · rcases HI.out with e | ⟨e, _⟩
          · rw [← e, ← HP.out]; exact hpn
          · have := HP.out; rw [e] at this; simp [pos] at this; omega
      · go_wp2
        go_roundw
        case rel => exact ⟨j + 1, j, by rw [pos, ← HP.out]; exact (wide s p hlp).2, by rw [pos, ← HP.out], by rw [← HP.out], by rw [← HP.out]; omega, .inl rfl⟩
        case measure => have := wide s p hlp; simp; omega
    · have hnx : ∀ ty, (Instr.next (.pointer (some ⟨w.heap.size, 0, none⟩)) true ty).run Tryz.prog (w.iter s p) = _ := fun ty => run_next_end w s p ty hlp
      go_wp2
      go_ret
      refine ⟨⟨q, rfl, i, HQ.out, ?_, hi, .inl ?_⟩, (Below.refl _ _).alloc (Nat.le_refl _) _⟩
      · omega
      · rcases HI.out with e | ⟨e, _⟩
        · rw [← e, ← HP.out]; omega
        · have := HP.out; rw [e] at this; simp [pos] at this; omega
/-- What both CutRunes functions answer. -/
def CutRet (s : ByteArray) (n : Int) (e : Ending) : Prop :=
  (65536 < s.size ∧ e = .returned (.tuple #[.string ⟨#[]⟩, .int .i64 2])) ∨
  (s.size ≤ 65536 ∧ ¬ Right s ∧ e = .returned (.tuple #[.string ⟨#[]⟩, .int .i64 3])) ∨
  (s.size ≤ 65536 ∧ Right s ∧ n < 0 ∧ e = .returned (.tuple #[.string ⟨#[]⟩, .int .i64 4])) ∨
  (s.size ≤ 65536 ∧ Right s ∧ 0 ≤ n ∧ ∃ k, CutAt s n k ∧ e = .returned (.tuple #[.string (s.extract 0 k), .int .i64 0]))

theorem clone_any (s : ByteArray) (w : World) (hs : s.size ≤ 1048576) :
    Calls Tryz.prog 149 #[.string s] w fun e w' => e = .returned (.string s) ∧ Below w.heap.size w w' := by
  go_enter Tryz.func149, Tryz.ntmps149
  go_wp2_with fail
  refine (Tryz.stringslite_Clone s _ (by omega)).mono ?_
  rintro e w' ⟨rfl, hb⟩
  go_wp2
  go_ret
  exact ⟨rfl, hb⟩
end Go.Proofs.YtadfdfmebdcfgaaGreatDoor.ut

namespace Go.Proofs.YtadfdfmebdcfgaaGreatDoor.b6
set_option linter.unusedVariables false

def alpha : List UInt8 := [65, 66, 67, 68, 69, 70, 71, 72, 73, 74, 75, 76, 77, 78, 79, 80, 81, 82, 83, 84, 85, 86, 87, 88, 89, 90, 97, 98, 99, 100, 101, 102, 103, 104, 105, 106, 107, 108, 109, 110, 111, 112, 113, 114, 115, 116, 117, 118, 119, 120, 121, 122, 48, 49, 50, 51, 52, 53, 54, 55, 56, 57, 43, 47]
def vals : List Int := [(-1), (-1), (-1), (-1), (-1), (-1), (-1), (-1), (-1), (-1), (-1), (-1), (-1), (-1), (-1), (-1), (-1), (-1), (-1), (-1), (-1), (-1), (-1), (-1), (-1), (-1), (-1), (-1), (-1), (-1), (-1), (-1), (-1), (-1), (-1), (-1), (-1), (-1), (-1), (-1), (-1), (-1), (-1), 62, (-1), (-1), (-1), 63, 52, 53, 54, 55, 56, 57, 58, 59, 60, 61, (-1), (-1), (-1), (-1), (-1), (-1), (-1), 0, 1, 2, 3, 4, 5, 6, 7, 8, 9, 10, 11, 12, 13, 14, 15, 16, 17, 18, 19, 20, 21, 22, 23, 24, 25, (-1), (-1), (-1), (-1), (-1), (-1), 26, 27, 28, 29, 30, 31, 32, 33, 34, 35, 36, 37, 38, 39, 40, 41, 42, 43, 44, 45, 46, 47, 48, 49, 50, 51, (-1), (-1), (-1), (-1), (-1)]
/-- The character of six bits. -/
def L (n : Nat) : UInt8 := alpha.getD n 0
/-- The six bits of a character, -1 of one that has none. -/
def V (c : UInt8) : Int := vals.getD c.toNat (-1)

theorem V_L_all : ∀ n : Fin 64, V (L n.val) = (n.val : Int) := by decide +kernel
theorem V_L (n : Nat) (h : n < 64) : V (L n) = (n : Int) := V_L_all ⟨n, h⟩
theorem L_V_all : ∀ n : Fin 256, V (UInt8.ofNat n.val) = -1 ∨ (0 ≤ V (UInt8.ofNat n.val) ∧ V (UInt8.ofNat n.val) < 64 ∧ L (V (UInt8.ofNat n.val)).toNat = UInt8.ofNat n.val) := by decide +kernel
theorem byte_all {p : UInt8 → Prop} (h : ∀ n : Fin 256, p (UInt8.ofNat n.val)) (c : UInt8) : p c := by
  have := h ⟨c.toNat, c.toNat_lt⟩
  simpa using this
theorem V_cases (c : UInt8) : V c = -1 ∨ (0 ≤ V c ∧ V c < 64 ∧ L (V c).toNat = c) := byte_all (p := fun c => V c = -1 ∨ (0 ≤ V c ∧ V c < 64 ∧ L (V c).toNat = c)) L_V_all c
theorem V_pad : V 61 = -1 := by decide +kernel
theorem L_ne_pad_all : ∀ n : Fin 64, L n.val ≠ 61 := by decide +kernel
theorem L_ne_pad (n : Nat) (h : n < 64) : L n ≠ 61 := L_ne_pad_all ⟨n, h⟩

/-- The text of bytes. -/
def enc : List UInt8 → List UInt8
  | [] => []
  | [a] => [L (a.toNat / 4), L (a.toNat % 4 * 16), 61, 61]
  | [a, b] => [L (a.toNat / 4), L (a.toNat % 4 * 16 + b.toNat / 16), L (b.toNat % 16 * 4), 61]
  | a :: b :: c :: r => L (a.toNat / 4) :: L (a.toNat % 4 * 16 + b.toNat / 16) :: L (b.toNat % 16 * 4 + c.toNat / 64) :: L (c.toNat % 64) :: enc r

theorem enc_len : ∀ (n : Nat) (l : List UInt8), l.length ≤ n → (enc l).length = (l.length + 2) / 3 * 4 := by
  intro n
  induction n with
  | zero =>
    intro l h
    obtain rfl : l = [] := List.eq_nil_of_length_eq_zero (by omega)
    rfl
  | succ n ih =>
    intro l h
    match l, h with
    | [], _ => rfl
    | [a], _ => simp [enc]
    | [a, b], _ => simp [enc]
    | a :: b :: c :: r, h =>
      have := ih r (by simp at h; omega)
      simp only [enc, List.length_cons, this]
      omega
theorem enc_length (l : List UInt8) : (enc l).length = (l.length + 2) / 3 * 4 := enc_len l.length l (Nat.le_refl _)

/-- The value of a group of four. -/
def num (a b c d : UInt8) : Nat := (((V a).toNat * 64 + (V b).toNat) * 64 + (V c).toNat) * 64 + (V d).toNat
def by2 (n : Nat) : UInt8 := UInt8.ofNat (n / 65536)
def by1 (n : Nat) : UInt8 := UInt8.ofNat (n / 256)
def by0 (n : Nat) : UInt8 := UInt8.ofNat n
/-- The reading of a text, group by group. -/
def dec : List UInt8 → Option (List UInt8)
  | a :: b :: c :: d :: r =>
    if V a < 0 ∨ V b < 0 then none
    else if r = [] ∧ c = 61 ∧ d = 61 then (if (V b).toNat % 16 = 0 then some [by2 (num a b 65 65)] else none)
    else if V c < 0 then none
    else if r = [] ∧ d = 61 then (if (V c).toNat % 4 = 0 then some [by2 (num a b c 65), by1 (num a b c 65)] else none)
    else if V d < 0 then none
    else (dec r).map fun x => by2 (num a b c d) :: by1 (num a b c d) :: by0 (num a b c d) :: x
  | [] => some []
  | _ => none

theorem VA : V 65 = 0 := by decide +kernel

theorem dec_enc_n : ∀ (n : Nat) (l : List UInt8), l.length ≤ n → dec (enc l) = some l := by
  intro n
  induction n with
  | zero =>
    intro l h
    obtain rfl : l = [] := List.eq_nil_of_length_eq_zero (by omega)
    rfl
  | succ n ih =>
    intro l h
    match l, h with
    | [], _ => rfl
    | [a], _ =>
      have ha := a.toNat_lt
      have e1 := V_L (a.toNat / 4) (by omega)
      have e2 := V_L (a.toNat % 4 * 16) (by omega)
      simp only [enc, dec]
      rw [if_neg (by rw [e1, e2]; omega), if_pos (by simp), if_pos (by rw [e2]; omega)]
      congr 2
      apply UInt8.toNat_inj.1
      simp only [by2, num, e1, e2, VA, UInt8.toNat_ofNat', Int.toNat_natCast, Int.toNat_zero]
      omega
    | [a, b], _ =>
      have ha := a.toNat_lt
      have hb := b.toNat_lt
      have e1 := V_L (a.toNat / 4) (by omega)
      have e2 := V_L (a.toNat % 4 * 16 + b.toNat / 16) (by omega)
      have e3 := V_L (b.toNat % 16 * 4) (by omega)
      simp only [enc, dec]
      rw [if_neg (by rw [e1, e2]; omega), if_neg (fun h => L_ne_pad _ (by omega) h.2.1), if_neg (by rw [e3]; omega), if_pos (by simp), if_pos (by rw [e3]; omega)]
      congr 2
      · apply UInt8.toNat_inj.1
        simp only [by2, num, e1, e2, e3, VA, UInt8.toNat_ofNat', Int.toNat_natCast, Int.toNat_zero]
        omega
      · congr 1
        apply UInt8.toNat_inj.1
        simp only [by1, num, e1, e2, e3, VA, UInt8.toNat_ofNat', Int.toNat_natCast, Int.toNat_zero]
        omega
    | a :: b :: c :: r, h =>
      have ha := a.toNat_lt
      have hb := b.toNat_lt
      have hc := c.toNat_lt
      have e1 := V_L (a.toNat / 4) (by omega)
      have e2 := V_L (a.toNat % 4 * 16 + b.toNat / 16) (by omega)
      have e3 := V_L (b.toNat % 16 * 4 + c.toNat / 64) (by omega)
      have e4 := V_L (c.toNat % 64) (by omega)
      simp only [enc, dec]
      rw [if_neg (by rw [e1, e2]; omega), if_neg (fun h => L_ne_pad _ (by omega) h.2.1), if_neg (by rw [e3]; omega), if_neg (fun h => L_ne_pad _ (by omega) h.2), if_neg (by rw [e4]; omega), ih r (by simp at h; omega)]
      simp only [Option.map_some]
      congr 2
      · apply UInt8.toNat_inj.1
        simp only [by2, num, e1, e2, e3, e4, UInt8.toNat_ofNat', Int.toNat_natCast]
        omega
      · congr 1
        · apply UInt8.toNat_inj.1
          simp only [by1, num, e1, e2, e3, e4, UInt8.toNat_ofNat', Int.toNat_natCast]
          omega
        · congr 1
          apply UInt8.toNat_inj.1
          simp only [by0, num, e1, e2, e3, e4, UInt8.toNat_ofNat', Int.toNat_natCast]
          omega
/-- Bytes are read back from their text. -/
theorem dec_enc (l : List UInt8) : dec (enc l) = some l := dec_enc_n l.length l (Nat.le_refl _)

theorem L_of {c : UInt8} {n : Nat} (h : ¬ V c < 0) (e : n = (V c).toNat) : L n = c := by
  rcases V_cases c with h1 | ⟨_, _, h3⟩
  · omega
  · rw [e, h3]
theorem V_lt (c : UInt8) : (V c).toNat < 64 := by
  rcases V_cases c with h1 | ⟨_, h2, _⟩
  · rw [h1]; decide
  · omega

theorem enc_dec_n : ∀ (n : Nat) (t l : List UInt8), t.length ≤ n → dec t = some l → enc l = t := by
  intro n
  induction n with
  | zero =>
    intro t l h hd
    obtain rfl : t = [] := List.eq_nil_of_length_eq_zero (by omega)
    simp only [dec, Option.some.injEq] at hd
    rw [← hd]
    rfl
  | succ n ih =>
    intro t l h hd
    match t, h, hd with
    | [], _, hd =>
      simp only [dec, Option.some.injEq] at hd
      rw [← hd]
      rfl
    | [_], _, hd => simp [dec] at hd
    | [_, _], _, hd => simp [dec] at hd
    | [_, _, _], _, hd => simp [dec] at hd
    | a :: b :: c :: d :: r, h, hd =>
      have la := V_lt a
      have lb := V_lt b
      have lc := V_lt c
      have ld := V_lt d
      simp only [dec] at hd
      split at hd
      · cases hd
      rename_i h1
      split at hd
      · rename_i h2
        obtain ⟨rfl, rfl, rfl⟩ := h2
        split at hd
        · rename_i h3
          simp only [Option.some.injEq] at hd
          rw [← hd]
          simp only [enc, by2, num, VA, UInt8.toNat_ofNat', Int.toNat_zero]
          rw [L_of (c := a) (by omega) (by omega), L_of (c := b) (by omega) (by omega)]
        · cases hd
      rename_i h2
      split at hd
      · cases hd
      rename_i h3
      split at hd
      · rename_i h4
        obtain ⟨rfl, rfl⟩ := h4
        split at hd
        · rename_i h5
          simp only [Option.some.injEq] at hd
          rw [← hd]
          simp only [enc, by2, by1, num, VA, UInt8.toNat_ofNat', Int.toNat_zero]
          rw [L_of (c := a) (by omega) (by omega), L_of (c := b) (by omega) (by omega), L_of (c := c) (by omega) (by omega)]
        · cases hd
      rename_i h4
      split at hd
      · cases hd
      rename_i h5
      obtain ⟨x, hx, rfl⟩ := Option.map_eq_some_iff.1 hd
      have := ih r x (by simp at h; omega) hx
      simp only [enc, this, by2, by1, by0, num, UInt8.toNat_ofNat']
      rw [L_of (c := a) (by omega) (by omega), L_of (c := b) (by omega) (by omega), L_of (c := c) (by omega) (by omega), L_of (c := d) (by omega) (by omega)]
/-- A text that is read is the text of what was read. -/
theorem enc_dec {t l : List UInt8} (h : dec t = some l) : enc l = t := enc_dec_n t.length t l (Nat.le_refl _) h
end Go.Proofs.YtadfdfmebdcfgaaGreatDoor.b6

namespace Go.Proofs.YtadfdfmebdcfgaaGreatDoor.hd
open Go
set_option linter.unusedVariables false

def head : List UInt8 := [61, 63, 117, 116, 102, 45, 56, 63, 66, 63]
def tail : List UInt8 := [63, 61]
def wordL (l : List UInt8) : List UInt8 := head ++ b6.enc l ++ tail
def sep (out : List UInt8) : List UInt8 := if out = [] then [] else [32]
/-- What is left of a text, encoded in at most n words behind what is out, comes to r. -/
def Ends : Nat → ByteArray → List UInt8 → List UInt8 → Prop
  | 0, t, out, r => t.size = 0 ∧ r = out
  | n + 1, t, out, r => (t.size = 0 ∧ r = out) ∨ (t.size ≠ 0 ∧ ∃ k, ut.CutAt t 45 k ∧ Ends n (t.extract k t.size) (out ++ sep out ++ wordL (t.extract 0 k).data.toList) r)
def EndsAny (t : ByteArray) (out r : List UInt8) : Prop := ∃ n, Ends n t out r
theorem ends_nil {t : ByteArray} (out : List UInt8) (h : t.size = 0) : EndsAny t out out := ⟨0, h, rfl⟩
theorem ends_step {t : ByteArray} {out r : List UInt8} {k : Nat} (h : t.size ≠ 0) (hk : ut.CutAt t 45 k) (he : EndsAny (t.extract k t.size) (out ++ sep out ++ wordL (t.extract 0 k).data.toList) r) : EndsAny t out r := by
  obtain ⟨n, hn⟩ := he
  exact ⟨n + 1, .inr ⟨h, k, hk, hn⟩⟩
theorem ends_one : ∀ (n n' : Nat) (t : ByteArray) (out r r' : List UInt8), Ends n t out r → Ends n' t out r' → r = r'
  | 0, 0, t, out, r, r', h, h' => by rw [h.2, h'.2]
  | 0, n' + 1, t, out, r, r', h, h' => by
    rcases h' with h' | h'
    · rw [h.2, h'.2]
    · exact absurd h.1 h'.1
  | n + 1, 0, t, out, r, r', h, h' => by
    rcases h with h | h
    · rw [h.2, h'.2]
    · exact absurd h'.1 h.1
  | n + 1, n' + 1, t, out, r, r', h, h' => by
    rcases h with h | ⟨h0, k, hk, h⟩
    · rcases h' with h' | h'
      · rw [h.2, h'.2]
      · exact absurd h.1 h'.1
    · rcases h' with h' | ⟨_, k', hk', h'⟩
      · exact absurd h'.1 h0
      · obtain rfl := ut.cut_one hk hk'
        exact ends_one n n' _ _ r r' h h'
theorem ends_same {t : ByteArray} {out r r' : List UInt8} (h : EndsAny t out r) (h' : EndsAny t out r') : r = r' := by
  obtain ⟨n, h⟩ := h
  obtain ⟨n', h'⟩ := h'
  exact ends_one n n' t out r r' h h'

/-- A word is an encoded one, and says y. -/
def Coded (x y : List UInt8) : Prop := Lib.hasPrefix x head = true ∧ Lib.hasSuffix (x.drop 10) tail = true ∧ b6.dec ((x.drop 10).take ((x.drop 10).length - 2)) = some y ∧ y ≠ [] ∧ ut.Right ⟨y.toArray⟩
theorem coded_one {x y y' : List UInt8} (h : Coded x y) (h' : Coded x y') : y = y' := by
  have := h.2.2.1.symm.trans h'.2.2.1
  cases this
  rfl
/-- What words say, one behind another. -/
def Dec : Bool → Bool → List (List UInt8) → List UInt8 → Prop
  | _, _, [], out => out = []
  | f, was, x :: r, out => (∃ y o, Coded x y ∧ Dec false true r o ∧ out = (if f || was then [] else [32]) ++ y ++ o) ∨ ((∀ y, ¬ Coded x y) ∧ ∃ o, Dec false false r o ∧ out = (if f then [] else [32]) ++ x ++ o)
theorem dec_one : ∀ (ws : List (List UInt8)) (f was : Bool) (o o' : List UInt8), Dec f was ws o → Dec f was ws o' → o = o'
  | [], f, was, o, o', h, h' => by rw [show o = [] from h, show o' = [] from h']
  | x :: r, f, was, o, o', h, h' => by
    rcases h with ⟨y, p, hc, hd, rfl⟩ | ⟨hc, p, hd, rfl⟩
    · rcases h' with ⟨y', p', hc', hd', rfl⟩ | ⟨hc', _⟩
      · rw [coded_one hc hc', dec_one r false true p p' hd hd']
      · exact absurd hc (hc' y)
    · rcases h' with ⟨y', p', hc', hd', rfl⟩ | ⟨hc', p', hd', rfl⟩
      · exact absurd hc' (hc y')
      · rw [dec_one r false false p p' hd hd']
theorem dec_code {f was : Bool} {x y : List UInt8} {r : List (List UInt8)} {o : List UInt8} (h : Coded x y) (hd : Dec false true r o) : Dec f was (x :: r) ((if f || was then [] else [32]) ++ y ++ o) := .inl ⟨y, o, h, hd, rfl⟩
theorem dec_plain {f was : Bool} {x : List UInt8} {r : List (List UInt8)} {o : List UInt8} (h : ∀ y, ¬ Coded x y) (hd : Dec false false r o) : Dec f was (x :: r) ((if f then [] else [32]) ++ x ++ o) := .inr ⟨h, o, hd, rfl⟩
/-- The words of the empty text. -/
theorem dec_empty {o : List UInt8} : Dec true false (cutGo [] []) o ↔ o = [] := by
  have hno : ∀ y, ¬ Coded [] y := fun y h => by have := h.1; simp [Lib.hasPrefix, head] at this
  constructor
  · intro h
    rcases h with ⟨y, p, hc, _⟩ | ⟨_, p, hd, hp⟩
    · exact absurd hc (hno y)
    · rw [hp, show p = [] from hd]; rfl
  · rintro rfl
    exact .inr ⟨hno, [], rfl, rfl⟩
/-- Where a text has the sign of an encoded word. -/
theorem index_no : ∀ (l sub : List UInt8), sub ≠ [] → Lib.index l sub = -1 → ∀ j, Lib.occAt l sub j = false
  | [], sub, hs, h, j => by
    unfold Lib.occAt
    rw [List.drop_nil]
    cases sub with
    | nil => exact absurd rfl hs
    | cons a b => rfl
  | b :: l, sub, hs, h, j => by
    rw [Lib.index] at h
    split at h
    · cases h
    · rename_i h0
      split at h
      · rename_i h1
        have ih := index_no l sub hs (by simpa using h1)
        cases j with
        | zero => unfold Lib.occAt; rw [List.drop_zero]; exact Bool.eq_false_iff.2 h0
        | succ j => exact ih j
      · rename_i h1
        have := Lib.index_ge l sub
        have h2 : Lib.index l sub ≠ -1 := by simpa using h1
        omega
def sign : List UInt8 := [61, 63]
theorem occ_sign (l : List UInt8) (j : Nat) : Lib.occAt l sign j = true ↔ l[j]? = some 61 ∧ l[j + 1]? = some 63 := by
  unfold Lib.occAt sign
  rw [show l[j]? = (l.drop j)[0]? from by simp, show l[j + 1]? = (l.drop j)[1]? from by simp]
  match l.drop j with
  | [] => simp
  | [a] => simp
  | a :: b :: r =>
    simp only [List.isPrefixOf, List.getElem?_cons_zero, List.getElem?_cons_succ, Bool.and_true, Bool.and_eq_true, beq_iff_eq, Option.some.injEq]
    exact ⟨fun h => ⟨h.1.symm, h.2.symm⟩, fun h => ⟨h.1.symm, h.2.symm⟩⟩
theorem contains_iff (l : List UInt8) : Lib.contains l sign = true ↔ ∃ j : Nat, l[j]? = some 61 ∧ l[j + 1]? = some 63 := by
  unfold Lib.contains
  rw [decide_eq_true_iff]
  constructor
  · intro h
    by_cases hx : ∃ j : Nat, l[j]? = some 61 ∧ l[j + 1]? = some 63
    · exact hx
    · have : Lib.index l sign = -1 := Lib.index_none (fun j _ => by
        cases ho : Lib.occAt l sign j with
        | false => rfl
        | true => exact absurd ⟨j, (occ_sign l j).1 ho⟩ hx)
      omega
  · rintro ⟨j, hj⟩
    have h1 := Lib.index_ge l sign
    by_cases h2 : Lib.index l sign = -1
    · have := index_no l sign (by simp [sign]) h2 j
      rw [(occ_sign l j).2 hj] at this
      cases this
    · omega
/-- A text that stays as it is. -/
def Plain (l : List UInt8) : Prop := Safe l ∧ Lib.contains l sign = false
end Go.Proofs.YtadfdfmebdcfgaaGreatDoor.hd

namespace Go.Proofs.YtadfdfmebdcfgaaGreatDoor.b6
set_option linter.unusedVariables false

/-- Reading character by character: h are the bits that are held, c how many. -/
def rd (h c : Nat) : List UInt8 → Option (List UInt8)
  | [] => if h = 0 then some [] else none
  | x :: r => if V x < 0 then none
    else if 2 ≤ c then (rd ((h * 64 + (V x).toNat) % 2 ^ (c - 2)) (c - 2) r).map fun o => UInt8.ofNat ((h * 64 + (V x).toNat) / 2 ^ (c - 2)) :: o
    else rd (h * 64 + (V x).toNat) (c + 6) r

theorem rd_nil (h c : Nat) : rd h c [] = if h = 0 then some [] else none := rfl
theorem rd_no {h c : Nat} {x : UInt8} {r : List UInt8} (hx : V x < 0) : rd h c (x :: r) = none := by
  rw [rd, if_pos hx]
theorem rd_full {h c : Nat} {x : UInt8} {r : List UInt8} (hx : ¬ V x < 0) (hc : 2 ≤ c) : rd h c (x :: r) = (rd ((h * 64 + (V x).toNat) % 2 ^ (c - 2)) (c - 2) r).map fun o => UInt8.ofNat ((h * 64 + (V x).toNat) / 2 ^ (c - 2)) :: o := by
  rw [rd, if_neg hx, if_pos hc]
theorem rd_part {h : Nat} {x : UInt8} {r : List UInt8} (hx : ¬ V x < 0) : rd h 0 (x :: r) = rd (h * 64 + (V x).toNat) 6 r := by
  rw [rd, if_neg hx, if_neg (by decide)]

theorem rd2 {a b : UInt8} {s : List UInt8} (ha : ¬ V a < 0) (hb : ¬ V b < 0) : rd 0 0 (a :: b :: s) = (rd ((V b).toNat % 16) 4 s).map fun o => UInt8.ofNat (((V a).toNat * 64 + (V b).toNat) / 16) :: o := by
  rw [rd_part ha, rd_full hb (by decide)]
  simp only [Nat.zero_mul, Nat.zero_add, show (6 - 2 : Nat) = 4 from rfl, show (2 ^ 4 : Nat) = 16 from rfl]
  rw [show ((V a).toNat * 64 + (V b).toNat) % 16 = (V b).toNat % 16 from by omega]
theorem rd3 {h : Nat} {c : UInt8} {s : List UInt8} (hc : ¬ V c < 0) : rd h 4 (c :: s) = (rd ((V c).toNat % 4) 2 s).map fun o => UInt8.ofNat ((h * 64 + (V c).toNat) / 4) :: o := by
  rw [rd_full hc (by decide)]
  simp only [show (4 - 2 : Nat) = 2 from rfl, show (2 ^ 2 : Nat) = 4 from rfl]
  rw [show (h * 64 + (V c).toNat) % 4 = (V c).toNat % 4 from by omega]
theorem rd4 {h : Nat} {d : UInt8} {s : List UInt8} (hd : ¬ V d < 0) : rd h 2 (d :: s) = (rd 0 0 s).map fun o => UInt8.ofNat (h * 64 + (V d).toNat) :: o := by
  rw [rd_full hd (by decide)]
  simp only [show (2 - 2 : Nat) = 0 from rfl, Nat.pow_zero, Nat.mod_one, Nat.div_one]

/-- A sign at the end is left out. -/
def trim1 (t : List UInt8) : List UInt8 := if t.getLast? = some 61 then t.dropLast else t
def strip (t : List UInt8) : List UInt8 := trim1 (trim1 t)
theorem trim1_cons (x : UInt8) {r : List UInt8} (h : r ≠ []) : trim1 (x :: r) = x :: trim1 r := by
  unfold trim1
  rw [List.getLast?_cons, List.getLast?_eq_some_getLast h]
  simp only [Option.getD_some, Option.some.injEq]
  split
  · rw [List.dropLast_cons_of_ne_nil h]
  · rfl
theorem trim1_len (t : List UInt8) : t.length ≤ (trim1 t).length + 1 := by
  unfold trim1
  split
  · simp; omega
  · omega
theorem strip_cons (x : UInt8) {r : List UInt8} (h : 2 ≤ r.length) : strip (x :: r) = x :: strip r := by
  unfold strip
  have h1 : r ≠ [] := by intro e; rw [e] at h; simp at h
  have h2 : trim1 r ≠ [] := by intro e; have := trim1_len r; rw [e] at this; simp at this; omega
  rw [trim1_cons x h1, trim1_cons x h2]
theorem strip_len (t : List UInt8) : (strip t).length ≤ t.length := by
  have : ∀ t : List UInt8, (trim1 t).length ≤ t.length := by
    intro t
    unfold trim1
    split
    · simp
    · exact Nat.le_refl _
  exact Nat.le_trans (this _) (this _)
theorem lib_trim (t : List UInt8) : Lib.trimSuffix t [61] = trim1 t := by
  unfold Lib.trimSuffix trim1 Lib.hasSuffix
  by_cases h : t.getLast? = some 61
  · rw [if_pos h]
    have hs : [61].isSuffixOf t = true := by
      rw [List.isSuffixOf_iff_suffix]
      obtain ⟨ys, rfl⟩ := List.getLast?_eq_some_iff.1 h
      exact ⟨ys, rfl⟩
    rw [if_pos hs, List.dropLast_eq_take]
    rfl
  · rw [if_neg h]
    have hs : ¬ [61].isSuffixOf t = true := by
      rw [List.isSuffixOf_iff_suffix]
      rintro ⟨ys, rfl⟩
      exact h (by simp)
    rw [if_neg hs]

theorem strip4 (a b c d : UInt8) : strip [a, b, c, d] = if d = 61 then (if c = 61 then [a, b] else [a, b, c]) else [a, b, c, d] := by
  unfold strip trim1
  by_cases hd : d = 61
  · subst hd
    by_cases hc : c = 61
    · subst hc
      simp
    · simp [hc]
  · simp [hd]

theorem b2 {a b c d : UInt8} : by2 (num a b c d) = UInt8.ofNat (((V a).toNat * 64 + (V b).toNat) / 16) := by
  have ha := V_lt a
  have hb := V_lt b
  have hc := V_lt c
  have hd := V_lt d
  apply UInt8.toNat_inj.1
  simp only [by2, num, UInt8.toNat_ofNat']
  omega
theorem b1 {a b c d : UInt8} : by1 (num a b c d) = UInt8.ofNat (((V b).toNat % 16 * 64 + (V c).toNat) / 4) := by
  have ha := V_lt a
  have hb := V_lt b
  have hc := V_lt c
  have hd := V_lt d
  apply UInt8.toNat_inj.1
  simp only [by1, num, UInt8.toNat_ofNat']
  omega
theorem b0 {a b c d : UInt8} : by0 (num a b c d) = UInt8.ofNat ((V c).toNat % 4 * 64 + (V d).toNat) := by
  have ha := V_lt a
  have hb := V_lt b
  have hc := V_lt c
  have hd := V_lt d
  apply UInt8.toNat_inj.1
  simp only [by0, num, UInt8.toNat_ofNat']
  omega

theorem rd_dec_n : ∀ (n : Nat) (t : List UInt8), t.length = 4 * n → rd 0 0 (strip t) = dec t := by
  intro n
  induction n with
  | zero =>
    intro t h
    obtain rfl : t = [] := List.eq_nil_of_length_eq_zero (by omega)
    rfl
  | succ n ih =>
    intro t h
    match t, h with
    | [], h => simp at h
    | [_], h => simp at h; omega
    | [_, _], h => simp at h; omega
    | [_, _, _], h => simp at h; omega
    | a :: b :: c :: d :: r, h =>
      have hr : r.length = 4 * n := by simp at h; omega
      by_cases hn : r = []
      · subst hn
        rw [strip4]
        simp only [dec]
        by_cases h1 : V a < 0 ∨ V b < 0
        · rw [if_pos h1]
          have key : ∀ s, rd 0 0 (a :: b :: s) = none := by
            intro s
            by_cases ha : V a < 0
            · exact rd_no ha
            · rw [rd_part ha, rd_no (by rcases h1 with h1 | h1; exact absurd h1 ha; exact h1)]
          split
          · split <;> exact key _
          · exact key _
        rw [if_neg h1]
        have ha : ¬ V a < 0 := fun x => h1 (.inl x)
        have hb : ¬ V b < 0 := fun x => h1 (.inr x)
        by_cases hd : d = 61
        · subst hd
          rw [if_pos rfl]
          by_cases hc : c = 61
          · subst hc
            rw [if_pos rfl, if_pos (by simp), rd2 ha hb, rd_nil]
            by_cases hz : (V b).toNat % 16 = 0
            · rw [if_pos hz, if_pos hz, b2]; rfl
            · rw [if_neg hz, if_neg hz]; rfl
          · rw [if_neg hc, if_neg (fun x => hc x.2.1)]
            by_cases hvc : V c < 0
            · rw [if_pos hvc, rd2 ha hb, rd_no hvc]; rfl
            · rw [if_neg hvc, if_pos (by simp), rd2 ha hb, rd3 hvc, rd_nil]
              by_cases hz : (V c).toNat % 4 = 0
              · rw [if_pos hz, if_pos hz, b2, b1]; rfl
              · rw [if_neg hz, if_neg hz]; rfl
        · rw [if_neg hd, if_neg (fun x => hd x.2.2)]
          by_cases hvc : V c < 0
          · rw [if_pos hvc, rd2 ha hb, rd_no hvc]; rfl
          · rw [if_neg hvc, if_neg (fun x => hd x.2), rd2 ha hb, rd3 hvc]
            by_cases hvd : V d < 0
            · rw [if_pos hvd, rd_no hvd]; rfl
            · rw [if_neg hvd, rd4 hvd, rd_nil, if_pos rfl, b2, b1, b0]; rfl
      · have hr4 : 4 ≤ r.length := by
          have : r.length ≠ 0 := fun e => hn (List.eq_nil_of_length_eq_zero e)
          omega
        rw [strip_cons a (by simp), strip_cons b (by simp), strip_cons c (by simp; omega), strip_cons d (by omega)]
        simp only [dec]
        by_cases h1 : V a < 0 ∨ V b < 0
        · rw [if_pos h1]
          by_cases ha : V a < 0
          · exact rd_no ha
          · rw [rd_part ha, rd_no (by rcases h1 with h1 | h1; exact absurd h1 ha; exact h1)]
        rw [if_neg h1, if_neg (fun x => hn x.1)]
        have ha : ¬ V a < 0 := fun x => h1 (.inl x)
        have hb : ¬ V b < 0 := fun x => h1 (.inr x)
        by_cases hvc : V c < 0
        · rw [if_pos hvc, rd2 ha hb, rd_no hvc]; rfl
        rw [if_neg hvc, if_neg (fun x => hn x.1), rd2 ha hb, rd3 hvc]
        by_cases hvd : V d < 0
        · rw [if_pos hvd, rd_no hvd]; rfl
        rw [if_neg hvd, rd4 hvd, ih r hr, b2, b1, b0]
        cases dec r <;> rfl
/-- Bit by bit, without the signs at the end, is group by group. -/
theorem rd_dec {t : List UInt8} (h : t.length % 4 = 0) : rd 0 0 (strip t) = dec t := rd_dec_n (t.length / 4) t (by omega)

/-- The number and the signs of a group's first characters. -/
def gst (last : Prop) [Decidable last] (ch : Nat → UInt8) : Nat → Option (Nat × Nat)
  | 0 => some (0, 0)
  | m + 1 => (gst last ch m).bind fun p => if ch m = 61 ∧ last ∧ 2 ≤ m then some (p.1 * 64, p.2 + 1) else if V (ch m) < 0 ∨ 0 < p.2 then none else some (p.1 * 64 + (V (ch m)).toNat, p.2)
end Go.Proofs.YtadfdfmebdcfgaaGreatDoor.b6

namespace Go.Proofs.YtadfdfmebdcfgaaGreatDoor.b6
set_option linter.unusedVariables false

theorem gst_succ (last : Prop) [Decidable last] (ch : Nat → UInt8) (m : Nat) : gst last ch (m + 1) = (gst last ch m).bind fun p => if ch m = 61 ∧ last ∧ 2 ≤ m then some (p.1 * 64, p.2 + 1) else if V (ch m) < 0 ∨ 0 < p.2 then none else some (p.1 * 64 + (V (ch m)).toNat, p.2) := rfl
theorem gst_pad {last : Prop} [Decidable last] {ch : Nat → UInt8} {m n f : Nat} (h : gst last ch m = some (n, f)) (h1 : ch m = 61) (h2 : last) (h3 : 2 ≤ m) : gst last ch (m + 1) = some (n * 64, f + 1) := by
  rw [gst_succ, h, Option.bind_some, if_pos ⟨h1, h2, h3⟩]
theorem gst_no {last : Prop} [Decidable last] {ch : Nat → UInt8} {m n f : Nat} (h : gst last ch m = some (n, f)) (h1 : ¬ (ch m = 61 ∧ last ∧ 2 ≤ m)) (h2 : V (ch m) < 0 ∨ 0 < f) : gst last ch (m + 1) = none := by
  rw [gst_succ, h, Option.bind_some, if_neg h1, if_pos h2]
theorem gst_on {last : Prop} [Decidable last] {ch : Nat → UInt8} {m n f : Nat} (h : gst last ch m = some (n, f)) (h1 : ¬ (ch m = 61 ∧ last ∧ 2 ≤ m)) (h2 : ¬ (V (ch m) < 0 ∨ 0 < f)) : gst last ch (m + 1) = some (n * 64 + (V (ch m)).toNat, f) := by
  rw [gst_succ, h, Option.bind_some, if_neg h1, if_neg h2]
theorem gst_none {last : Prop} [Decidable last] {ch : Nat → UInt8} {m : Nat} (h : gst last ch m = none) : ∀ k, gst last ch (m + k) = none := by
  intro k
  induction k with
  | zero => exact h
  | succ k ih => rw [← Nat.add_assoc, gst_succ, ih]; rfl
theorem gst_lt {last : Prop} [Decidable last] {ch : Nat → UInt8} : ∀ (m n f : Nat), gst last ch m = some (n, f) → n < 64 ^ m ∧ f ≤ m - 2 ∧ (0 < f → last) := by
  intro m
  induction m with
  | zero =>
    intro n f h
    simp only [gst, Option.some.injEq, Prod.mk.injEq] at h
    obtain ⟨rfl, rfl⟩ := h
    exact ⟨by decide, by decide, fun h => absurd h (by decide)⟩
  | succ m ih =>
    intro n f h
    rw [gst_succ] at h
    cases hg : gst last ch m with
    | none => rw [hg] at h; cases h
    | some p =>
      obtain ⟨n0, f0⟩ := p
      obtain ⟨i1, i2, i3⟩ := ih n0 f0 hg
      have hv := V_lt (ch m)
      rw [hg, Option.bind_some] at h
      split at h
      · rename_i h1
        simp only [Option.some.injEq, Prod.mk.injEq] at h
        obtain ⟨rfl, rfl⟩ := h
        refine ⟨by rw [Nat.pow_succ]; omega, by omega, fun _ => h1.2.1⟩
      · split at h
        · cases h
        · simp only [Option.some.injEq, Prod.mk.injEq] at h
          obtain ⟨rfl, rfl⟩ := h
          exact ⟨by rw [Nat.pow_succ]; omega, by omega, i3⟩

/-- What a group that has been read, with f signs, comes to. -/
def grp (n f : Nat) (r : List UInt8) : Option (List UInt8) :=
  if (f = 0 ∨ by0 n = 0) ∧ (f ≤ 1 ∨ by1 n = 0) then (dec r).map (fun x => [by2 n, by1 n, by0 n].take (3 - f) ++ x) else none

theorem ofNat_zero (n : Nat) : UInt8.ofNat n = 0 ↔ n % 256 = 0 := by
  rw [← UInt8.toNat_inj, UInt8.toNat_ofNat']
  simp

theorem dec_gst (a b c d : UInt8) (r : List UInt8) (ch : Nat → UInt8) (h0 : ch 0 = a) (h1 : ch 1 = b) (h2 : ch 2 = c) (h3 : ch 3 = d) :
    dec (a :: b :: c :: d :: r) = (gst (r = []) ch 4).bind fun p => grp p.1 p.2 r := by
  have la := V_lt a
  have lb := V_lt b
  have lc := V_lt c
  have ld := V_lt d
  have g0 : gst (r = []) ch 0 = some (0, 0) := rfl
  simp only [dec]
  by_cases ha : V a < 0
  · rw [if_pos (.inl ha)]
    have := gst_none (gst_no g0 (fun x => absurd x.2.2 (by decide)) (.inl (by rw [h0]; exact ha))) 3
    rw [show 4 = 0 + 1 + 3 from rfl, this]
    rfl
  have g1 := gst_on g0 (fun x => absurd x.2.2 (by decide)) (by rw [h0]; omega)
  rw [h0] at g1
  by_cases hb : V b < 0
  · rw [if_pos (.inr hb)]
    have := gst_none (gst_no g1 (fun x => absurd x.2.2 (by decide)) (.inl (by rw [h1]; exact hb))) 2
    rw [show 4 = 0 + 1 + 1 + 2 from rfl, this]
    rfl
  rw [if_neg (by omega)]
  have g2 := gst_on g1 (fun x => absurd x.2.2 (by decide)) (by rw [h1]; omega)
  rw [h1] at g2
  by_cases hp : c = 61 ∧ r = []
  · obtain ⟨rfl, rfl⟩ := hp
    have g3 := gst_pad g2 h2 rfl (by decide)
    by_cases hd : d = 61
    · subst hd
      have g4 := gst_pad g3 h3 rfl (by decide)
      rw [if_pos (by simp), show 4 = 0 + 1 + 1 + 1 + 1 from rfl, g4, Option.bind_some]
      simp only [grp]
      have e0 : by0 (((0 * 64 + (V a).toNat) * 64 + (V b).toNat) * 64 * 64) = 0 := by
        rw [by0, ofNat_zero]; omega
      have e1 : by1 (((0 * 64 + (V a).toNat) * 64 + (V b).toNat) * 64 * 64) = 0 ↔ (V b).toNat % 16 = 0 := by
        rw [by1, ofNat_zero]; omega
      have e2 : by2 (((0 * 64 + (V a).toNat) * 64 + (V b).toNat) * 64 * 64) = by2 (num a b 65 65) := by
        simp only [num, VA, Int.toNat_zero, Nat.add_zero, Nat.zero_mul, Nat.zero_add]
      by_cases hz : (V b).toNat % 16 = 0
      · rw [if_pos hz, if_pos ⟨.inr e0, .inr (e1.2 hz)⟩, e2]
        rfl
      · rw [if_neg hz, if_neg (fun x => by rcases x.2 with y | y; exact absurd y (by decide); exact hz (e1.1 y))]
    · have g4 := gst_no g3 (fun x => hd (h3.symm.trans x.1)) (.inr (by decide))
      rw [if_neg (fun x => hd x.2.2), if_pos (by rw [V_pad]; decide), show 4 = 0 + 1 + 1 + 1 + 1 from rfl, g4]
      rfl
  rw [if_neg (fun x => hp ⟨x.2.1, x.1⟩)]
  have hp' : ¬ (ch (0 + 1 + 1) = 61 ∧ r = [] ∧ 2 ≤ 0 + 1 + 1) := fun x => hp ⟨h2.symm.trans x.1, x.2.1⟩
  by_cases hc : V c < 0
  · have g3 := gst_none (gst_no g2 hp' (.inl (by rw [show 0 + 1 + 1 = 2 from rfl, h2]; exact hc))) 1
    rw [if_pos hc, show 4 = 0 + 1 + 1 + 1 + 1 from rfl, g3]
    rfl
  rw [if_neg hc]
  have g3 := gst_on g2 hp' (by rw [show 0 + 1 + 1 = 2 from rfl, h2]; omega)
  rw [show ch (0 + 1 + 1) = c from h2] at g3
  by_cases hq : r = [] ∧ d = 61
  · obtain ⟨rfl, rfl⟩ := hq
    have g4 := gst_pad g3 h3 rfl (by decide)
    rw [if_pos (by simp), show 4 = 0 + 1 + 1 + 1 + 1 from rfl, g4, Option.bind_some]
    simp only [grp]
    have e0 : by0 ((((0 * 64 + (V a).toNat) * 64 + (V b).toNat) * 64 + (V c).toNat) * 64) = 0 ↔ (V c).toNat % 4 = 0 := by
      rw [by0, ofNat_zero]; omega
    have e2 : (((0 * 64 + (V a).toNat) * 64 + (V b).toNat) * 64 + (V c).toNat) * 64 = num a b c 65 := by
      simp only [num, VA, Int.toNat_zero, Nat.add_zero, Nat.zero_mul, Nat.zero_add]
    by_cases hz : (V c).toNat % 4 = 0
    · rw [if_pos hz, if_pos ⟨.inr (e0.2 hz), .inl (by decide)⟩, e2]
      rfl
    · rw [if_neg hz, if_neg (fun x => by rcases x.1 with y | y; exact absurd y (by decide); exact hz (e0.1 y))]
  rw [if_neg hq]
  have hq' : ¬ (ch (0 + 1 + 1 + 1) = 61 ∧ r = [] ∧ 2 ≤ 0 + 1 + 1 + 1) := fun x => hq ⟨x.2.1, h3.symm.trans x.1⟩
  by_cases hd : V d < 0
  · have g4 := gst_no g3 hq' (.inl (by rw [show 0 + 1 + 1 + 1 = 3 from rfl, h3]; exact hd))
    rw [if_pos hd, show 4 = 0 + 1 + 1 + 1 + 1 from rfl, g4]
    rfl
  rw [if_neg hd]
  have g4 := gst_on g3 hq' (by rw [show 0 + 1 + 1 + 1 = 3 from rfl, h3]; omega)
  rw [show ch (0 + 1 + 1 + 1) = d from h3] at g4
  have e2 : (((0 * 64 + (V a).toNat) * 64 + (V b).toNat) * 64 + (V c).toNat) * 64 + (V d).toNat = num a b c d := by
    simp only [num, Nat.zero_mul, Nat.zero_add]
  rw [show 4 = 0 + 1 + 1 + 1 + 1 from rfl, g4, Option.bind_some, e2]
  simp only [grp]
  rw [if_pos (by simp)]
  rfl
end Go.Proofs.YtadfdfmebdcfgaaGreatDoor.b6

namespace Go.Proofs.YtadfdfmebdcfgaaGreatDoor.bl
open Go.RowKit
set_option linter.unusedVariables false

/-- A builder at block b that holds these bytes; all that it made lies at or beyond B. -/
def Bd (B b : Nat) (l : List UInt8) (w : World) : Prop := Lib.IsBuilder 116 5 B b (Lib.byteCells l) w
theorem size2 : (Tryz.prog.info? 116).map (·.size) = some 2 := by kernel_rfl
theorem lies : liesAt Tryz.prog Tryz.prog.depth 116 (2 / Tryz.prog.cellsOf 116) 0 116 1 = true := by kernel_rfl
theorem info1 : (Tryz.prog.info? 5).map (fun i => (i.zero, i.size, i.bytes)) = some (some (.int .u8 0), 1, 1) := by kernel_rfl
theorem kinds : (116 : TypeId) ≠ 5 := by decide

set_option maxHeartbeats 1000000 in
set_option maxRecDepth 100000 in
theorem place_used (b : Nat) (w : World) (h0 : w.cell? ⟨b, 0, none⟩ = some (.pointer (some ⟨b, 0, none⟩))) :
    Calls Tryz.prog 145 #[.pointer (some ⟨b, 0, none⟩)] w fun e w' => e = .returned (.tuple #[]) ∧ w' = w := by
  obtain ⟨j, hj, _⟩ := Option.map_eq_some_iff.1 size2
  go_enter Tryz.func145, Tryz.ntmps145
  go_wp2
  rw [Lib.run_neq_ptr_same w _ Tryz.underlying114 hj]
  go_wp2
  go_end0
  exact ⟨rfl, rfl⟩

set_option maxHeartbeats 1000000 in
set_option maxRecDepth 100000 in
theorem place_fresh (b : Nat) (w : World) (h0 : w.cell? ⟨b, 0, none⟩ = some (.pointer none)) (hsh : w.shape? b = some (116, 2)) (hfz : w.frozen? ⟨b, 0, none⟩ = false) :
    Calls Tryz.prog 145 #[.pointer (some ⟨b, 0, none⟩)] w fun e w' => e = .returned (.tuple #[]) ∧ w' = w.setCell ⟨b, 0, none⟩ (.pointer (some ⟨b, 0, none⟩)) := by
  obtain ⟨j, hj, hjs⟩ := Option.map_eq_some_iff.1 size2
  go_enter Tryz.func145, Tryz.ntmps145
  go_wp2
  rw [Lib.run_to_unsafe w ⟨b, 0, none⟩ Tryz.underlying114 Tryz.underlying157 hj (by rw [hjs]; decide) hsh (Nat.zero_lt_succ 1)]
  simp only [Result.andThen]
  rw [Oper.upon_value]
  go_wp2
  rw [run_callFunc_extern Tryz.func177 (by kernel_rfl) (by kernel_rfl) (by kernel_rfl) (e := Extern.AbiNoEscape.same) (by kernel_rfl)]
  rw [Lib.run_noEscape]
  simp only [Result.andThen]
  rw [Oper.upon_value]
  go_wp2
  rw [Lib.run_from_unsafe w ⟨b, 0, none⟩ Tryz.underlying157 Tryz.underlying114 hj hsh lies]
  simp only [Result.andThen]
  rw [Oper.upon_value]
  go_wp2
  go_end0
  exact ⟨rfl, rfl⟩

theorem place (B b : Nat) (l : List UInt8) (w : World) (h : Bd B b l w) :
    Calls Tryz.prog 145 #[.pointer (some ⟨b, 0, none⟩)] w fun e w' => e = .returned (.tuple #[]) ∧ (Lib.BuilderAt 116 5 B b (.pointer (some ⟨b, 0, none⟩)) (Lib.byteCells l) w' ∧ Below B w w' ∧ ∀ k, k ≠ b → w'.heap[k]? = w.heap[k]?) := by
  rcases h with h | h
  · refine (place_fresh b w h.cell0 h.shape h.frozen0).mono ?_
    rintro e w' ⟨rfl, rfl⟩
    exact ⟨rfl, h.used _, (Below.refl B w).setCell (p := ⟨b, 0, none⟩) h.1 _, fun k hk => Below.heap_setCell _ _ _ _ (fun e => hk (by simp [e]))⟩
  · refine (place_used b w h.cell0).mono ?_
    rintro e w' ⟨rfl, rfl⟩
    exact ⟨rfl, h, Below.refl B _, fun _ _ => rfl⟩

/-- Blocks of another kind than bytes, other than the builder's own, stay as they are. -/
def Others (b : Nat) (w w' : World) : Prop := ∀ (k : Nat) (cs : Array Value) (t : TypeId) (fr : Nat × Nat), k ≠ b → t ≠ 5 → w.heap[k]? = some (.cells cs t fr) → w'.heap[k]? = some (.cells cs t fr)
theorem others_own {w : World} {B n k : Nat} {v : Value} {xs : List Value} {cs : Array Value} {t : TypeId} {fr : Nat × Nat} (h : w.ownsRow B 5 1 v n xs) (hk : w.heap[k]? = some (.cells cs t fr)) (ht : t ≠ 5) : some k ≠ v.ownBlock := by
  intro e
  rcases h.2 with ⟨rfl, _⟩ | ⟨g, cap, cur, rfl, _, hg, _⟩
  · cases e
  · have : k = g := by simpa [Value.ownBlock] using e
    subst this
    rw [hk] at hg
    cases hg
    exact ht rfl

set_option maxHeartbeats 2000000 in
set_option maxRecDepth 100000 in
theorem textK (B b : Nat) (l : List UInt8) (s : ByteArray) (w : World) (h : Bd B b l w) (hlen : l.length + s.size ≤ 140737488355328) (hBw : B ≤ w.heap.size) :
    Calls Tryz.prog 95 #[.pointer (some ⟨b, 0, none⟩), .string s] w fun e w' => (∃ v, e = .returned (.tuple v)) ∧ Bd B b (l ++ s.data.toList) w' ∧ Below B w w' ∧ Others b w w' := by
  have hl : (Lib.byteCells l).length = l.length := Lib.byteCells_length l
  obtain ⟨i0, hi, hz0, hz1, hz2⟩ := info_parts info1
  go_enter Tryz.func95, Tryz.ntmps95
  go_wp2_with fail
  refine (place B b l _ h).mono ?_
  rintro e w1 ⟨rfl, ⟨hB, v, hbk, hown, hne⟩, hb1, hk1⟩
  have HK : Hid (∀ k, k ≠ b → w1.heap[k]? = w.heap[k]?) := hk1
  clear hk1
  have c0 : w1.cell? ⟨b, 0, none⟩ = some (.pointer (some ⟨b, 0, none⟩)) := by rw [Lib.cell_of_heap hbk]; rfl
  have c1 : w1.cell? ⟨b, 1, none⟩ = some v := by rw [Lib.cell_of_heap hbk]; rfl
  go_wp2_with (at_builtin; refine Lib.wpList_append_own_string _ rfl _ _ 22 9 rfl B 5 i0 Tryz.underlying22 Tryz.underlying9 hi hz0 hz1 hz2 _ _ _ rfl hown s rfl ?c3 ?c4 ?c5 ?_)
  case c3 => unfold maxLen; omega
  case c4 => omega
  case c5 => have := hb1.size; omega
  intro v' w2 hown' hgrow _
  have hlt : b < w1.heap.size := (Array.getElem?_eq_some_iff.1 hbk).1
  have hb2 : w2.heap[b]? = some (.cells #[.pointer (some ⟨b, 0, none⟩), v] 116 (0, 0)) := by
    rw [hgrow.block b hlt (fun e => hne e.symm)]
    exact hbk
  have d0 : w2.cell? ⟨b, 0, none⟩ = some (.pointer (some ⟨b, 0, none⟩)) := by rw [Lib.cell_of_heap hb2]; rfl
  have d1 : w2.cell? ⟨b, 1, none⟩ = some v := by rw [Lib.cell_of_heap hb2]; rfl
  have f1 : w2.frozen? ⟨b, 1, none⟩ = false := Lib.frozen_of_heap hb2 1
  obtain ⟨ao, n', cap, rfl⟩ : ∃ ao n' cap, v' = .slice ao n' cap := by
    rcases hown'.2 with ⟨hv, _⟩ | ⟨g, cap, cur, hv, _⟩
    · exact ⟨_, _, _, hv⟩
    · exact ⟨_, _, _, hv⟩
  go_wp2
  go_ret2
  refine ⟨⟨_, rfl⟩, ?_, ?_, ?_⟩
  · have hc : Lib.byteCells l ++ Lib.strCells s = Lib.byteCells (l ++ s.data.toList) := by rw [Lib.byteCells_append, Lib.strCells_eq]
    rw [hc] at hown'
    exact .inr (Lib.BuilderAt.put (T := 116) (e := 5) hB hb2 (bs' := Lib.byteCells (l ++ s.data.toList)) (by have h1 := hown'.1; simp only [Nat.mul_one] at h1; rw [h1]; exact hown') kinds)
  · exact (hb1.grown hgrow (by have := hb1.size; omega) (fun k hk => (hown.lt k hk).1)).setCell (p := ⟨b, 1, none⟩) hB _
  · intro k cs t fr hk ht hc
    have h1 : w1.heap[k]? = some (.cells cs t fr) := (HK.out k hk).trans hc
    have h2 := (hgrow.block k (Array.getElem?_eq_some_iff.1 h1).1 (others_own hown h1 ht)).trans h1
    exact (Below.heap_setCell _ _ _ _ (fun e => hk (by simp [e]))).trans h2

theorem text (B b : Nat) (l : List UInt8) (s : ByteArray) (w : World) (h : Bd B b l w) (hlen : l.length + s.size ≤ 140737488355328) (hBw : B ≤ w.heap.size) :
    Calls Tryz.prog 95 #[.pointer (some ⟨b, 0, none⟩), .string s] w fun e w' => (∃ v, e = .returned (.tuple v)) ∧ Bd B b (l ++ s.data.toList) w' ∧ Below B w w' :=
  (textK B b l s w h hlen hBw).mono fun _ _ h => ⟨h.1, h.2.1, h.2.2.1⟩

set_option maxHeartbeats 2000000 in
set_option maxRecDepth 100000 in
theorem bytes (B b : Nat) (l : List UInt8) (g m c : Nat) (news : List UInt8) (w : World) (h : Bd B b l w) (hm : news.length = m) (hg : g ≠ b)
    (hnews : ∀ j u, (Lib.byteCells news)[j]? = some u → w.cell? ⟨g, j, none⟩ = some u) (hlen : l.length + m ≤ 140737488355328) (hBw : B ≤ w.heap.size) :
    Calls Tryz.prog 196 #[.pointer (some ⟨b, 0, none⟩), .slice (some ⟨g, 0, none⟩) m c] w fun e w' => (∃ v, e = .returned (.tuple v)) ∧ Bd B b (l ++ news) w' ∧ Below B w w' := by
  have hl : (Lib.byteCells l).length = l.length := Lib.byteCells_length l
  have hl2 : (Lib.byteCells news).length = news.length := Lib.byteCells_length news
  obtain ⟨i0, hi, hz0, hz1, hz2⟩ := info_parts info1
  go_enter Tryz.func196, Tryz.ntmps196
  go_wp2_with fail
  refine (place B b l _ h).mono ?_
  rintro e w1 ⟨rfl, ⟨hB, v, hbk, hown, hne⟩, hb1, hk1⟩
  have hn1 : ∀ j u, (Lib.byteCells news)[j]? = some u → w1.cell? ((⟨g, 0, none⟩ : Addr).add j) = some u := fun j u hj => by
    have := hnews j u hj
    rw [ow.add_at]
    rw [← this]
    simp only [World.cell?]
    rw [hk1 g hg]
  have h1c : ∀ u ∈ Lib.byteCells news, u.oneCell' = true := by
    intro u hu
    obtain ⟨x, _, rfl⟩ := List.mem_map.1 hu
    rfl
  clear hk1 hnews
  have c0 : w1.cell? ⟨b, 0, none⟩ = some (.pointer (some ⟨b, 0, none⟩)) := by rw [Lib.cell_of_heap hbk]; rfl
  have c1 : w1.cell? ⟨b, 1, none⟩ = some v := by rw [Lib.cell_of_heap hbk]; rfl
  go_wp2_with (at_builtin; refine wpList_append_own _ rfl _ _ 22 rfl B 5 i0 (.int .u8 0) 1 1 Tryz.underlying22 hi hz0 hz1 hz2 rfl (by decide) _ _ _ rfl hown ⟨g, 0, none⟩ m c (Lib.byteCells news) rfl (by omega) hn1 h1c ?c3 ?c4 ?c5 ?_)
  case c3 => unfold maxLen; omega
  case c4 => omega
  case c5 => have := hb1.size; omega
  intro v' w2 hown' hgrow _
  have hlt : b < w1.heap.size := (Array.getElem?_eq_some_iff.1 hbk).1
  have hb2 : w2.heap[b]? = some (.cells #[.pointer (some ⟨b, 0, none⟩), v] 116 (0, 0)) := by
    rw [hgrow.block b hlt (fun e => hne e.symm)]
    exact hbk
  have d0 : w2.cell? ⟨b, 0, none⟩ = some (.pointer (some ⟨b, 0, none⟩)) := by rw [Lib.cell_of_heap hb2]; rfl
  have d1 : w2.cell? ⟨b, 1, none⟩ = some v := by rw [Lib.cell_of_heap hb2]; rfl
  have f1 : w2.frozen? ⟨b, 1, none⟩ = false := Lib.frozen_of_heap hb2 1
  obtain ⟨ao, n', cap, rfl⟩ : ∃ ao n' cap, v' = .slice ao n' cap := by
    rcases hown'.2 with ⟨hv, _⟩ | ⟨g, cap, cur, hv, _⟩
    · exact ⟨_, _, _, hv⟩
    · exact ⟨_, _, _, hv⟩
  clear hn1 h1c
  go_wp2
  go_ret2
  refine ⟨⟨_, rfl⟩, ?_, ?_⟩
  · have hc : Lib.byteCells l ++ Lib.byteCells news = Lib.byteCells (l ++ news) := by rw [Lib.byteCells_append]
    rw [hc] at hown'
    exact .inr (Lib.BuilderAt.put (T := 116) (e := 5) hB hb2 (bs' := Lib.byteCells (l ++ news)) (by have h1 := hown'.1; simp only [Nat.mul_one] at h1; rw [h1]; exact hown') kinds)
  · exact (hb1.grown hgrow (by have := hb1.size; omega) (fun k hk => (hown.lt k hk).1)).setCell (p := ⟨b, 1, none⟩) hB _
set_option maxHeartbeats 2000000 in
set_option maxRecDepth 100000 in
theorem byteK (B b : Nat) (l : List UInt8) (x : UInt8) (w : World) (h : Bd B b l w) (hlen : l.length + 1 ≤ 140737488355328) (hBw : B ≤ w.heap.size) :
    Calls Tryz.prog 135 #[.pointer (some ⟨b, 0, none⟩), .int .u8 (x.toNat : Int)] w fun e w' => (∃ v, e = .returned v) ∧ Bd B b (l ++ [x]) w' ∧ Below B w w' ∧ Others b w w' := by
  have hl : (Lib.byteCells l).length = l.length := Lib.byteCells_length l
  obtain ⟨i0, hi, hz0, hz1, hz2⟩ := info_parts info1
  go_enter Tryz.func135, Tryz.ntmps135
  go_wp2_with fail
  refine (place B b l _ h).mono ?_
  rintro e w1 ⟨rfl, ⟨hB, v, hbk, hown, hne⟩, hb1, hk1⟩
  have c0 : w1.cell? ⟨b, 0, none⟩ = some (.pointer (some ⟨b, 0, none⟩)) := by rw [Lib.cell_of_heap hbk]; rfl
  have c1 : w1.cell? ⟨b, 1, none⟩ = some v := by rw [Lib.cell_of_heap hbk]; rfl
  have hlt : b < w1.heap.size := (Array.getElem?_eq_some_iff.1 hbk).1
  have HK : Hid (∀ k, k ≠ b → w1.heap[k]? = w.heap[k]?) := hk1
  clear hk1
  go_wp2_with (at_builtin; refine wpList_append_own _ rfl _ _ 22 rfl B 5 i0 (.int .u8 0) 1 1 Tryz.underlying22 hi hz0 hz1 hz2 rfl (by decide) _ _ _ rfl (hown.alloc _) ⟨w1.heap.size, 0, none⟩ 1 1 [.int .u8 (x.toNat : Int)] rfl rfl (ow.cells_new _ [.int .u8 (x.toNat : Int)] _) (by intro u hu; simp at hu; subst hu; rfl) ?c3 ?c4 ?c5 ?_)
  case c3 => unfold maxLen; omega
  case c4 => omega
  case c5 => have := hb1.size; simp; omega
  intro v' w2 hown' hgrow _
  have hb2 : w2.heap[b]? = some (.cells #[.pointer (some ⟨b, 0, none⟩), v] 116 (0, 0)) := by
    rw [hgrow.block b (by simp; omega) (fun e => hne e.symm), Below.heap_alloc _ _ _ hlt]
    exact hbk
  have d0 : w2.cell? ⟨b, 0, none⟩ = some (.pointer (some ⟨b, 0, none⟩)) := by rw [Lib.cell_of_heap hb2]; rfl
  have d1 : w2.cell? ⟨b, 1, none⟩ = some v := by rw [Lib.cell_of_heap hb2]; rfl
  have f1 : w2.frozen? ⟨b, 1, none⟩ = false := Lib.frozen_of_heap hb2 1
  obtain ⟨ao, n', cap, rfl⟩ : ∃ ao n' cap, v' = .slice ao n' cap := by
    rcases hown'.2 with ⟨hv, _⟩ | ⟨g, cap, cur, hv, _⟩
    · exact ⟨_, _, _, hv⟩
    · exact ⟨_, _, _, hv⟩
  go_wp2
  go_ret
  refine ⟨⟨_, rfl⟩, ?_, ?_, ?_⟩
  · have hc : Lib.byteCells l ++ [.int .u8 (x.toNat : Int)] = Lib.byteCells (l ++ [x]) := by rw [Lib.byteCells_append]; rfl
    rw [hc] at hown'
    exact .inr (Lib.BuilderAt.put (T := 116) (e := 5) hB hb2 (bs' := Lib.byteCells (l ++ [x])) (by have h1 := hown'.1; simp only [Nat.mul_one] at h1; rw [h1]; exact hown') kinds)
  · exact ((hb1.alloc (by have := hb1.size; omega) _).grown hgrow (by have := hb1.size; simp; omega) (fun k hk => (hown.lt k hk).1)).setCell (p := ⟨b, 1, none⟩) hB _
  · intro k cs t fr hk ht hc
    have h1 : w1.heap[k]? = some (.cells cs t fr) := (HK.out k hk).trans hc
    have hk2 := (Array.getElem?_eq_some_iff.1 h1).1
    have h2 := (hgrow.block k (by simp; omega) (others_own hown h1 ht)).trans ((Below.heap_alloc _ _ _ hk2).trans h1)
    exact (Below.heap_setCell _ _ _ _ (fun e => hk (by simp [e]))).trans h2
theorem byte (B b : Nat) (l : List UInt8) (x : UInt8) (w : World) (h : Bd B b l w) (hlen : l.length + 1 ≤ 140737488355328) (hBw : B ≤ w.heap.size) :
    Calls Tryz.prog 135 #[.pointer (some ⟨b, 0, none⟩), .int .u8 (x.toNat : Int)] w fun e w' => (∃ v, e = .returned v) ∧ Bd B b (l ++ [x]) w' ∧ Below B w w' :=
  (byteK B b l x w h hlen hBw).mono fun _ _ h => ⟨h.1, h.2.1, h.2.2.1⟩
/-- A builder that has just been laid holds nothing. -/
theorem fresh (w : World) : Bd w.heap.size w.heap.size [] (w.alloc (.cells #[.pointer none, .slice none 0 0] 116)) := Lib.fresh_isBuilder _ _ w
theorem len (B b : Nat) (l : List UInt8) (w : World) (h : Bd B b l w) :
    Calls Tryz.prog 134 #[.pointer (some ⟨b, 0, none⟩)] w fun e w' => e = .returned (.int .i64 (l.length : Int)) ∧ w' = w := by
  refine (Tryz.Builder_Len B b _ w h).mono ?_
  intro e w' he
  rw [Lib.byteCells_length] at he
  exact he
theorem said (B b : Nat) (l : List UInt8) (w : World) (h : Bd B b l w) (hBw : B ≤ w.heap.size) :
    Calls Tryz.prog 98 #[.pointer (some ⟨b, 0, none⟩)] w fun e w' => e = .returned (.string ⟨l.toArray⟩) ∧ Below B w w' := Tryz.Builder_String_any B b l w h hBw
/-- What turns no block that is there leaves a builder as it is. -/
theorem keep {B b : Nat} {l : List UInt8} {w w' : World} (h : Bd B b l w) (hb : Below w.heap.size w w') : Bd B b l w' := by
  rcases h with ⟨hB, v, hbk, hown, hne⟩ | ⟨hB, v, hbk, hown, hne⟩
  · exact .inl ⟨hB, v, (hb.block b (Array.getElem?_eq_some_iff.1 hbk).1).trans hbk, ow.own_below hown hb, hne⟩
  · exact .inr ⟨hB, v, (hb.block b (Array.getElem?_eq_some_iff.1 hbk).1).trans hbk, ow.own_below hown hb, hne⟩
theorem inside {B b : Nat} {l : List UInt8} {w : World} (h : Bd B b l w) : B ≤ b ∧ b < w.heap.size := by
  rcases h with h | h
  · exact ⟨h.1, h.lt⟩
  · exact ⟨h.1, h.lt⟩
end Go.Proofs.YtadfdfmebdcfgaaGreatDoor.bl
