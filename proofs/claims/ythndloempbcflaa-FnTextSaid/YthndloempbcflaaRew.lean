/-
  Contracts of both RepairText functions: the text of the runes that are read, the stand-in for each byte at which none begins.
-/
import Derived.Test.YthndloempbcflaaFix
import Derived.Test.YthndloempbcflaaOwn
import Derived.Test.YthndloempbcflaaUtx
namespace Go.Proofs.Ythndloempbcflaa.ut
open Go.RowKit
set_option linter.unusedVariables false

theorem Try.infoRune : (Try.prog.info? 21).map (fun i => (i.zero, i.size, i.bytes)) = some (some (.int .i32 0), 1, 4) := by kernel_rfl
theorem Try.infoByte : (Try.prog.info? 5).map (fun i => (i.zero, i.size, i.bytes)) = some (some (.int .u8 0), 1, 1) := by kernel_rfl

/-- What both RepairText functions answer. -/
def RepRet (s : ByteArray) (e : Ending) : Prop :=
  (65536 < s.size ∧ e = .returned (.tuple #[.string ⟨#[]⟩, .int .i64 2])) ∨
  (s.size ≤ 65536 ∧ ∃ n, pos s n = s.size ∧ e = .returned (.tuple #[.string ⟨(fixL s n).toArray⟩, .int .i64 0]))
theorem rep_runes (s : ByteArray) (n : Nat) (h : pos s n = s.size) : runesBytes (runesL s n) = ⟨(fixL s n).toArray⟩ := by
  refine bytes_ext ?_
  rw [runes_fix s n (fun m hm => by rw [← h]; exact pos_lt s hm)]
theorem rep_same {s : ByteArray} {e e' : Ending} (h : RepRet s e) (h' : RepRet s e') : ∃ (x : ByteArray) (c : Int), e = .returned (.tuple #[.string x, .int .i64 c]) ∧ e' = .returned (.tuple #[.string x, .int .i64 c]) := by
  rcases h with ⟨a, rfl⟩ | ⟨a, n, hn, rfl⟩ <;> rcases h' with ⟨b, rfl⟩ | ⟨b, m, hm, rfl⟩
  · exact ⟨_, _, rfl, rfl⟩
  · omega
  · omega
  · rw [pos_inj s (hn.trans hm.symm)]; exact ⟨_, _, rfl, rfl⟩

set_option maxHeartbeats 2000000 in
set_option maxRecDepth 100000 in
theorem implRepair_any (s : ByteArray) (w : World) (hs : s.size ≤ 1048576) :
    Calls Try.prog 13 #[.string s] w fun e w' => RepRet s e ∧ Below w.heap.size w w' := by
  by_cases h : s.size ≤ 65536
  case neg =>
    have h' : (65536 : Int) < (s.size : Int) := by omega
    go_enter Try.func13, Try.ntmps13
    go_wp2
    go_ret2
    exact ⟨.inl ⟨by omega, rfl⟩, Below.refl _ _⟩
  have h' : (s.size : Int) ≤ 65536 := by omega
  obtain ⟨i0, hi, hz0, hz1, hz2⟩ := info_parts Try.infoRune
  go_enter Try.func13, Try.ntmps13
  go_wp2_with (at_make; refine wpList_make_own _ rfl _ _ 41 rfl w.heap.size 21 i0 (.int .i32 0) 1 Try.underlying41 hi hz0 hz1 _ _ _ s.size rfl rfl rfl (by rw [hz2]; omega) (by unfold maxLen; omega) (Nat.le_refl _) ?_; intro w1 hown1 hg1)
  have hb1 : Below w.heap.size w w1 := (Below.refl _ _).grown hg1 (Nat.le_refl _) (fun k hk => by cases hk)
  have hB1 := hb1.size
  clear hg1
  go_loopw [4, 6] (fun v _ wr => ∃ n : Nat, pos s n ≤ s.size ∧ wr.heap[w1.heap.size]? = some (.stringIter s (pos s n)) ∧ wr.ownsRow w.heap.size 21 1 v n ((runesL s n).map (Value.int .i32)) ∧ Below w.heap.size w wr) (fun _ _ wr => s.size - wr.iterPos w1.heap.size)
  case atStart => exact ⟨0, Nat.zero_le _, World.iter_heap w1 s 0, hown1.alloc _, hb1.alloc hB1 _⟩
  case round =>
    obtain ⟨n, hn, hit, hown, hbw⟩ := hrel
    obtain ⟨p, hp⟩ : ∃ p, p = pos s n := ⟨_, rfl⟩
    rw [← hp] at hn hit
    have HP : Hid (p = pos s n) := hp
    have hnp := pos_ge s n
    rw [← hp] at hnp
    clear hp
    have hpos0 := iterPos_of hit
    by_cases hlt : p < s.size
    · have hnx : ∀ ty, (Instr.next (.pointer (some ⟨w1.heap.size, 0, none⟩)) true ty).run Try.prog wr = _ := fun ty => Lib.run_next_any_at wr w1.heap.size s p ty hit hlt
      have hwd := wide s p hlt
      have hit2 := Lib.iterAt_heap wr w1.heap.size s p (p + (Utf8.decode s p).2) hit
      have hbw2 := Lib.below_iterAt hbw (k := w1.heap.size) hB1 s (p + (Utf8.decode s p).2)
      have hown2 := ow.own_iter hown hit (p + (Utf8.decode s p).2)
      obtain ⟨W1, hW1⟩ : ∃ W1, W1 = wr.iterAt w1.heap.size s (p + (Utf8.decode s p).2) := ⟨_, rfl⟩
      rw [← hW1] at hnx hit2 hbw2 hown2
      have hBs := hbw2.size
      clear hW1 hit hown hbw
      have HPOS : Hid (wr.iterPos w1.heap.size = p) := hpos0
      clear hpos0
      go_wp2_with (at_builtin; refine wpList_append_own _ rfl _ _ 41 rfl w.heap.size 21 i0 (.int .i32 0) 1 4 Try.underlying41 hi hz0 hz1 hz2 rfl (by decide) _ _ _ rfl (hown2.alloc _) ⟨W1.heap.size, 0, none⟩ 1 1 [.int .i32 ((Utf8.decode s p).1 : Int)] rfl rfl (ow.cells_new _ [.int .i32 ((Utf8.decode s p).1 : Int)] _) (by intro u hu; simp at hu; subst hu; rfl) (by unfold maxLen; omega) (by omega) (by simp; omega) ?_; intro v' w3 hown3 hgrow3 hnil3)
      have ha := ow.after hown2 hit2 hbw2 (by omega) _ hgrow3
      have HA : Hid (w3.heap[w1.heap.size]? = some (.stringIter s (p + (Utf8.decode s p).2)) ∧ Below w.heap.size w w3 ∧ w3.ownsRow w.heap.size 21 1 v' (n + 1) ((runesL s n).map (Value.int .i32) ++ [.int .i32 ((Utf8.decode s p).1 : Int)])) := ⟨ha.1, ha.2, hown3⟩
      clear ha hown3 hgrow3 hnil3 hit2 hbw2 hown2
      go_wp2
      go_roundw
      case rel => exact ⟨n + 1, by rw [pos, ← HP.out]; exact hwd.2, by rw [pos, ← HP.out]; exact HA.out.1, by rw [runesL, List.map_append, ← HP.out]; exact HA.out.2.2, HA.out.2.1⟩
      case measure => rw [iterPos_of HA.out.1, HPOS.out]; omega
    · have hnx : ∀ ty, (Instr.next (.pointer (some ⟨w1.heap.size, 0, none⟩)) true ty).run Try.prog wr = _ := fun ty => Lib.run_next_end_at wr w1.heap.size s p ty hit hlt
      have hcv := ow.conv_runes (P := Try.prog) (runesL s n) hown Try.underlying41 Try.underlying21 Try.underlying9
      rw [rep_runes s n (by have := HP.out; omega)] at hcv
      go_wp2
      go_ret2
      exact ⟨.inr ⟨h, n, by have := HP.out; omega, rfl⟩, hbw⟩

set_option maxHeartbeats 2000000 in
set_option maxRecDepth 100000 in
theorem repair_any (s : ByteArray) (w : World) (hs : s.size ≤ 65536) :
    Calls Try.prog 23 #[.string s] w fun e w' => (∃ n, pos s n = s.size ∧ e = .returned (.string ⟨(fixL s n).toArray⟩)) ∧ Below w.heap.size w w' := by
  obtain ⟨i0, hi, hz0, hz1, hz2⟩ := info_parts Try.infoByte
  go_enter Try.func23, Try.ntmps23
  go_wp2
  go_loopw [3, 4, 5, 6, 7] (fun v i _ _ _ wr => ∃ n : Nat, pos s n ≤ s.size ∧ i = .int .i64 (pos s n) ∧ wr.ownsRow w.heap.size 5 1 v (fixL s n).length ((fixL s n).map fun b => Value.int .u8 (b.toNat : Int)) ∧ Below w.heap.size w wr) (fun _ i _ _ _ _ => s.size - (intOf i).toNat)
  case atStart => exact ⟨0, Nat.zero_le _, rfl, ow.own_empty w _, (Below.refl _ _).alloc (Nat.le_refl _) _⟩
  case round =>
    obtain ⟨n, hn, rfl, hown, hbw⟩ := hrel
    have hfl := fix_len s n
    have HF : Hid (fixL s (n + 1) = fixL s n ++ piece s (pos s n)) := rfl
    obtain ⟨p, hp⟩ : ∃ p, p = pos s n := ⟨_, rfl⟩
    rw [← hp] at hn hfl HF ⊢
    have HP : Hid (p = pos s n) := hp
    clear hp
    obtain ⟨l, hl⟩ : ∃ l, l = fixL s n := ⟨_, rfl⟩
    rw [← hl] at hown hfl HF
    have HL : Hid (l = fixL s n) := hl
    clear hl
    have hBs := hbw.size
    by_cases hlt : p < s.size
    · have hwd := wide s p hlt
      go_wp2_with fail
      refine (rune_any s p _ (by omega) hlt).mono ?_
      rintro e w' ⟨hr, rfl⟩
      rcases hr with ⟨hb, rfl⟩ | ⟨hb, rfl⟩
      · have HB : Hid (badAt s p) := hb
        clear hb
        go_wp2_with (at_builtin; refine wpList_append_own _ rfl _ _ 22 rfl w.heap.size 5 i0 (.int .u8 0) 1 1 Try.underlying22 hi hz0 hz1 hz2 rfl (by decide) _ _ _ rfl (hown.alloc _) ⟨w'.heap.size, 0, none⟩ 3 3 [.int .u8 239, .int .u8 191, .int .u8 189] rfl rfl (ow.cells_new _ [.int .u8 239, .int .u8 191, .int .u8 189] _) (by intro u hu; simp at hu; rcases hu with rfl | rfl | rfl <;> rfl) (by unfold maxLen; omega) (by omega) (by simp; omega) ?_; intro v' w3 hown3 hgrow3 hnil3)
        have hb3 := Below.grown (hbw.alloc hBs _) hgrow3 (by simp; omega) (ow.own_lt hown)
        have HA : Hid (w3.ownsRow w.heap.size 5 1 v' (fixL s (n + 1)).length ((fixL s (n + 1)).map fun b => Value.int .u8 (b.toNat : Int)) ∧ Below w.heap.size w w3) := by
          rw [HF.out, piece_bad HB.out, List.length_append, List.map_append]
          exact ⟨hown3, hb3⟩
        have hw1 := bad_wide HB.out
        clear hb3 hown3 hgrow3 hnil3 hown hbw
        have HW : Hid ((Utf8.decode s p).2 = 1) := hw1
        clear hw1
        go_wp2
        go_roundw
        case rel => exact ⟨n + 1, by rw [pos, ← HP.out]; exact hwd.2, by rw [pos, ← HP.out, HW.out]; go_num, HA.out.1, HA.out.2⟩
        case measure => simp [intOf]; omega
      · have HB : Hid (¬ badAt s p) := hb
        clear hb
        have hes : (s.extract p (p + (Utf8.decode s p).2)).size = (Utf8.decode s p).2 := by rw [ByteArray.size_extract]; omega
        have HES : Hid ((s.extract p (p + (Utf8.decode s p).2)).size = (Utf8.decode s p).2) := hes
        clear hes
        have hx63 : l.length + (s.extract p (p + (Utf8.decode s p).2)).size ≤ maxLen := by rw [HES.out]; unfold maxLen; omega
        have hx47 : l.length + (s.extract p (p + (Utf8.decode s p).2)).size ≤ 140737488355328 := by rw [HES.out]; omega
        have hsl := ow.slice_str (P := Try.prog) 9 s .i64 .i64 p (p + (Utf8.decode s p).2) Try.underlying9 (p : Int) ((p : Int) + ((Utf8.decode s p).2 : Int)) rfl (by omega) (by omega) (by omega)
        go_wp2_with (at_builtin; refine Lib.wpList_append_own_string _ rfl _ _ 22 9 rfl w.heap.size 5 i0 Try.underlying22 Try.underlying9 hi hz0 hz1 hz2 _ _ _ rfl hown (s.extract p (p + (Utf8.decode s p).2)) rfl hx63 hx47 hBs ?_; intro v' w3 hown3 hgrow3 hnil3)
        have hb3 := Below.grown hbw hgrow3 hBs (ow.own_lt hown)
        have HA : Hid (w3.ownsRow w.heap.size 5 1 v' (fixL s (n + 1)).length ((fixL s (n + 1)).map fun b => Value.int .u8 (b.toNat : Int)) ∧ Below w.heap.size w w3) := by
          rw [HF.out, piece_good HB.out, List.length_append, List.map_append, ← Lib.size_eq]
          exact ⟨hown3, hb3⟩
        clear hb3 hown3 hgrow3 hnil3 hown hbw hx63 hx47
        go_wp2
        go_roundw
        case rel => exact ⟨n + 1, by rw [pos, ← HP.out]; exact hwd.2, by rw [pos, ← HP.out]; go_num, HA.out.1, HA.out.2⟩
        case measure => simp [intOf]; omega
    · have hcv := ow.conv_bytes (P := Try.prog) l hown Try.underlying22 Try.underlying5 Try.underlying9
      go_wp2
      go_ret
      exact ⟨⟨n, by have := HP.out; omega, by rw [← HL.out]; rfl⟩, hbw⟩

set_option maxHeartbeats 1000000 in
theorem specRepair_any (s : ByteArray) (w : World) (hs : s.size ≤ 1048576) :
    Calls Try.prog 14 #[.string s] w fun e w' => RepRet s e ∧ Below w.heap.size w w' := by
  by_cases h : s.size ≤ 65536
  case neg =>
    have h' : (65536 : Int) < (s.size : Int) := by omega
    go_enter Try.func14, Try.ntmps14
    go_wp2
    go_ret2
    exact ⟨.inl ⟨by omega, rfl⟩, Below.refl _ _⟩
  have h' : (s.size : Int) ≤ 65536 := by omega
  go_enter Try.func14, Try.ntmps14
  go_wp2_with fail
  refine (repair_any s _ h).mono ?_
  rintro e w1 ⟨⟨n, hn, rfl⟩, hb⟩
  have HN : Hid (pos s n = s.size) := hn
  clear hn
  go_wp2
  go_ret2
  exact ⟨.inr ⟨h, n, HN.out, rfl⟩, hb⟩
end Go.Proofs.Ythndloempbcflaa.ut
