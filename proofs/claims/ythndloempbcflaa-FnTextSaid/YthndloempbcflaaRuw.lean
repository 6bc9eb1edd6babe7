/-
  Contracts of both RunesOf functions: the runes of a right text, and the code otherwise, in a list that the call made.
-/
import Derived.Test.YthndloempbcflaaFix
import Derived.Test.YthndloempbcflaaOwn
import Derived.Test.YthndloempbcflaaRiw
namespace Go.Proofs.Ythndloempbcflaa.ut
open Go.RowKit
set_option linter.unusedVariables false

theorem Try.infoInt : (Try.prog.info? 3).map (fun i => (i.zero, i.size, i.bytes)) = some (some (.int .i64 0), 1, 8) := by kernel_rfl

/-- What both RunesOf functions answer: a list and a code. -/
def RunesAre (s : ByteArray) (zs : List Int) (c : Int) : Prop :=
  (65536 < s.size ∧ zs = [] ∧ c = 2) ∨ (s.size ≤ 65536 ∧ ¬ Right s ∧ zs = [] ∧ c = 3) ∨ (s.size ≤ 65536 ∧ Right s ∧ c = 0 ∧ ∃ n, pos s n = s.size ∧ zs = runesL s n)
def RunesRet (s : ByteArray) (w : World) (e : Ending) (w' : World) : Prop :=
  ∃ (v : Value) (zs : List Int) (c : Int), e = .returned (.tuple #[v, .int .i64 c]) ∧ RunesAre s zs c ∧ w'.ownsRow w.heap.size 3 1 v zs.length (zs.map (Value.int .i64))
theorem runes_one {s : ByteArray} {zs zs' : List Int} {c c' : Int} (h : RunesAre s zs c) (h' : RunesAre s zs' c') : zs = zs' ∧ c = c' := by
  rcases h with ⟨a, rfl, rfl⟩ | ⟨a, a2, rfl, rfl⟩ | ⟨a, a2, rfl, n, hn, rfl⟩ <;>
  rcases h' with ⟨b, rfl, rfl⟩ | ⟨b, b2, rfl, rfl⟩ | ⟨b, b2, rfl, m, hm, rfl⟩ <;>
  first | exact ⟨rfl, rfl⟩ | (exfalso; omega) | (exfalso; exact a2 b2) | (exfalso; exact b2 a2) | (rw [pos_inj s (hn.trans hm.symm)]; exact ⟨rfl, rfl⟩)
theorem runes_len {s : ByteArray} {zs : List Int} {c : Int} (h : RunesAre s zs c) : zs.length ≤ 65536 := by
  rcases h with ⟨a, rfl, rfl⟩ | ⟨a, a2, rfl, rfl⟩ | ⟨a, a2, rfl, n, hn, rfl⟩
  · exact Nat.zero_le _
  · exact Nat.zero_le _
  · rw [runesL_len]
    have := pos_ge s n
    omega

set_option maxHeartbeats 2000000 in
set_option maxRecDepth 100000 in
theorem implRunes_any (s : ByteArray) (w : World) (hs : s.size ≤ 1048576) :
    Calls Try.prog 6 #[.string s] w fun e w' => RunesRet s w e w' ∧ Below w.heap.size w w' := by
  by_cases h : s.size ≤ 65536
  case neg =>
    have h' : (65536 : Int) < (s.size : Int) := by omega
    go_enter Try.func6, Try.ntmps6
    go_wp2
    go_ret2
    exact ⟨⟨_, [], 2, rfl, .inl ⟨by omega, rfl, rfl⟩, World.ownsRow_nil _ _ _ _⟩, Below.refl _ _⟩
  have h' : (s.size : Int) ≤ 65536 := by omega
  obtain ⟨i0, hi, hz0, hz1, hz2⟩ := info_parts Try.infoInt
  go_enter Try.func6, Try.ntmps6
  go_wp2_with fail
  refine (isRight_any s _ hs).mono ?_
  rintro e w' ⟨hn, p0, rfl⟩
  obtain ⟨b, rfl⟩ := says_ex hn
  have HB : Hid (b = true ↔ Right s) := says_iff hn
  clear hn
  cases b
  · go_wp2
    go_ret2
    exact ⟨⟨_, [], 3, rfl, .inr (.inl ⟨h, fun x => Bool.noConfusion (HB.out.2 x), rfl, rfl⟩), World.ownsRow_nil _ _ _ _⟩, (Below.refl _ _).alloc (Nat.le_refl _) _⟩
  have HR : Hid (Right s) := HB.out.1 rfl
  clear HB
  obtain ⟨w1, hw1⟩ : ∃ w1, w1 = w.iter s p0 := ⟨_, rfl⟩
  have hb1 : Below w.heap.size w w1 := by rw [hw1]; exact (Below.refl _ _).alloc (Nat.le_refl _) _
  rw [← hw1]
  clear hw1
  have hB1 := hb1.size
  go_wp2
  go_loopw [4, 6] (fun v _ wr => ∃ n : Nat, pos s n ≤ s.size ∧ wr.heap[w1.heap.size]? = some (.stringIter s (pos s n)) ∧ wr.ownsRow w.heap.size 3 1 v n ((runesL s n).map (Value.int .i64)) ∧ Below w.heap.size w wr) (fun _ _ wr => s.size - wr.iterPos w1.heap.size)
  case atStart => exact ⟨0, Nat.zero_le _, World.iter_heap w1 s 0, World.ownsRow_nil _ _ _ _, hb1.alloc hB1 _⟩
  case round =>
    obtain ⟨n, hn, hit, hown, hbw⟩ := hrel
    obtain ⟨p, hp⟩ : ∃ p, p = pos s n := ⟨_, rfl⟩
    rw [← hp] at hn hit
    have HP : Hid (p = pos s n) := hp
    have hnp := pos_ge s n
    rw [← hp] at hnp
    clear hp
    have hpos0 := iterPos_of hit
    by_cases hlt : p < s.size
    · have hnx : ∀ ty, (Instr.next (.pointer (some ⟨w1.heap.size, 0, none⟩)) true ty).run Try.prog wr = _ := fun ty => Lib.run_next_any_at wr w1.heap.size s p ty hit hlt
      have hwd := wide s p hlt
      have hdl := decode_le s p
      have hit2 := Lib.iterAt_heap wr w1.heap.size s p (p + (Utf8.decode s p).2) hit
      have hbw2 := Lib.below_iterAt hbw (k := w1.heap.size) hB1 s (p + (Utf8.decode s p).2)
      have hown2 := ow.own_iter hown hit (p + (Utf8.decode s p).2)
      obtain ⟨W1, hW1⟩ : ∃ W1, W1 = wr.iterAt w1.heap.size s (p + (Utf8.decode s p).2) := ⟨_, rfl⟩
      rw [← hW1] at hnx hit2 hbw2 hown2
      have hBs := hbw2.size
      clear hW1 hit hown hbw
      have HPOS : Hid (wr.iterPos w1.heap.size = p) := hpos0
      clear hpos0
      go_wp2_with (at_builtin; refine wpList_append_own _ rfl _ _ 24 rfl w.heap.size 3 i0 (.int .i64 0) 1 8 Try.underlying24 hi hz0 hz1 hz2 rfl (by decide) _ _ _ rfl (hown2.alloc _) ⟨W1.heap.size, 0, none⟩ 1 1 [.int .i64 ((Utf8.decode s p).1 : Int)] rfl rfl (ow.cells_new _ [.int .i64 ((Utf8.decode s p).1 : Int)] _) (by intro u hu; simp at hu; subst hu; rfl) (by unfold maxLen; omega) (by omega) (by simp; omega) ?_; intro v' w3 hown3 hgrow3 hnil3)
      have ha := ow.after hown2 hit2 hbw2 (by omega) _ hgrow3
      have HA : Hid (w3.heap[w1.heap.size]? = some (.stringIter s (p + (Utf8.decode s p).2)) ∧ Below w.heap.size w w3 ∧ w3.ownsRow w.heap.size 3 1 v' (n + 1) ((runesL s n).map (Value.int .i64) ++ [.int .i64 ((Utf8.decode s p).1 : Int)])) := ⟨ha.1, ha.2, hown3⟩
      clear ha hown3 hgrow3 hnil3 hit2 hbw2 hown2
      go_wp2
      go_roundw
      case rel => exact ⟨n + 1, by rw [pos, ← HP.out]; exact hwd.2, by rw [pos, ← HP.out]; exact HA.out.1, by rw [runesL, List.map_append, ← HP.out]; exact HA.out.2.2, HA.out.2.1⟩
      case measure => rw [iterPos_of HA.out.1, HPOS.out]; omega
    · have hnx : ∀ ty, (Instr.next (.pointer (some ⟨w1.heap.size, 0, none⟩)) true ty).run Try.prog wr = _ := fun ty => Lib.run_next_end_at wr w1.heap.size s p ty hit hlt
      go_wp2
      go_ret2
      exact ⟨⟨_, runesL s n, 0, rfl, .inr (.inr ⟨h, HR.out, rfl, n, by have := HP.out; omega, rfl⟩), by rw [runesL_len]; exact hown⟩, hbw⟩

set_option maxHeartbeats 2000000 in
set_option maxRecDepth 100000 in
theorem specRunes_any (s : ByteArray) (w : World) (hs : s.size ≤ 1048576) :
    Calls Try.prog 7 #[.string s] w fun e w' => RunesRet s w e w' ∧ Below w.heap.size w w' := by
  by_cases h : s.size ≤ 65536
  case neg =>
    have h' : (65536 : Int) < (s.size : Int) := by omega
    go_enter Try.func7, Try.ntmps7
    go_wp2
    go_ret2
    exact ⟨⟨_, [], 2, rfl, .inl ⟨by omega, rfl, rfl⟩, ow.own_empty w _⟩, (Below.refl _ _).alloc (Nat.le_refl _) _⟩
  have h' : (s.size : Int) ≤ 65536 := by omega
  obtain ⟨i0, hi, hz0, hz1, hz2⟩ := info_parts Try.infoInt
  go_enter Try.func7, Try.ntmps7
  go_wp2
  go_loopw [4, 5, 6, 7, 8] (fun v i _ _ _ wr => ∃ n : Nat, pos s n ≤ s.size ∧ i = .int .i64 (pos s n) ∧ wr.ownsRow w.heap.size 3 1 v n ((runesL s n).map (Value.int .i64)) ∧ Below w.heap.size w wr ∧ ∀ m, m < n → ¬ badAt s (pos s m)) (fun _ i _ _ _ _ => s.size - (intOf i).toNat)
  case atStart => exact ⟨0, Nat.zero_le _, rfl, ow.own_empty w _, (Below.refl _ _).alloc (Nat.le_refl _) _, fun j hj => absurd hj (Nat.not_lt_zero _)⟩
  case round =>
    obtain ⟨n, hn, rfl, hown, hbw, hg⟩ := hrel
    have HG : Hid (∀ m, m < n → ¬ badAt s (pos s m)) := hg
    clear hg
    have hnp := pos_ge s n
    obtain ⟨p, hp⟩ : ∃ p, p = pos s n := ⟨_, rfl⟩
    rw [← hp] at hn hnp ⊢
    have HP : Hid (p = pos s n) := hp
    clear hp
    have hBs := hbw.size
    by_cases hlt : p < s.size
    · have hwd := wide s p hlt
      go_wp2_with fail
      refine (rune_any s p _ (by omega) hlt).mono ?_
      rintro e w' ⟨hr, rfl⟩
      rcases hr with ⟨hb, rfl⟩ | ⟨hb, rfl⟩
      · have HB : Hid (badAt s p) := hb
        clear hb
        have hbe : Below w.heap.size w (w'.alloc (.cells #[] 3)) := hbw.alloc hBs _
        have hoe : (w'.alloc (.cells #[] 3)).ownsRow w.heap.size 3 1 (.slice (some ⟨w'.heap.size, 0, none⟩) 0 0) 0 [] := ow.own_base (ow.own_empty w' _) hBs
        have HE := And.intro hbe hoe
        clear hbe hoe
        go_wp2
        go_ret2
        exact ⟨⟨_, [], 3, rfl, .inr (.inl ⟨h, wrong_at (n := n) (by rw [← HP.out]; exact hlt) (by rw [← HP.out]; exact HB.out), rfl, rfl⟩), HE.2⟩, HE.1⟩
      · have HB : Hid (¬ badAt s p) := hb
        clear hb
        go_wp2_with (at_builtin; refine wpList_append_own _ rfl _ _ 24 rfl w.heap.size 3 i0 (.int .i64 0) 1 8 Try.underlying24 hi hz0 hz1 hz2 rfl (by decide) _ _ _ rfl (hown.alloc _) ⟨w'.heap.size, 0, none⟩ 1 1 [.int .i64 ((Utf8.decode s p).1 : Int)] rfl rfl (ow.cells_new _ [.int .i64 ((Utf8.decode s p).1 : Int)] _) (by intro u hu; simp at hu; subst hu; rfl) (by unfold maxLen; omega) (by omega) (by simp; omega) ?_; intro v' w3 hown3 hgrow3 hnil3)
        have hb3 := Below.grown (hbw.alloc hBs _) hgrow3 (by simp; omega) (ow.own_lt hown)
        have HA : Hid (Below w.heap.size w w3 ∧ w3.ownsRow w.heap.size 3 1 v' (n + 1) ((runesL s n).map (Value.int .i64) ++ [.int .i64 ((Utf8.decode s p).1 : Int)])) := ⟨hb3, hown3⟩
        clear hb3 hown3 hgrow3 hnil3 hown hbw
        go_wp2
        go_roundw
        case rel => exact ⟨n + 1, by rw [pos, ← HP.out]; exact hwd.2, by rw [pos, ← HP.out]; go_num, by rw [runesL, List.map_append, ← HP.out]; exact HA.out.2, HA.out.1, right_step HG.out (by rw [← HP.out]; exact HB.out)⟩
        case measure => simp [intOf]; omega
    · go_wp2
      go_ret2
      exact ⟨⟨_, runesL s n, 0, rfl, .inr (.inr ⟨h, right_of s n (by have := HP.out; omega) HG.out, rfl, n, by have := HP.out; omega, rfl⟩), by rw [runesL_len]; exact hown⟩, hbw⟩
end Go.Proofs.Ythndloempbcflaa.ut
