/-
  The program's ListWords: a call.
-/
import Derived.Test.YtakdpicjkbfpiaaDoorLwd
import Derived.Test.YtakdpicjkbfpiaaDoorMrl
namespace Go.Proofs.YtakdpicjkbfpiaaDoor.lw
open Go.RowKit Go.Shelf
open sp
set_option linter.unusedVariables false

theorem hasPre_no {b : UInt8} {r : List UInt8} (h : b ≠ 40) : Lib.hasPrefix (b :: r) [40] = false := by
  simp [Lib.hasPrefix, List.isPrefixOf, Ne.symm h]
theorem hasPre_yes (r : List UInt8) : Lib.hasPrefix (40 :: r) [40] = true ∧ Lib.trimPrefix (40 :: r) [40] = r := by
  have h : Lib.hasPrefix (40 :: r) [40] = true := by simp [Lib.hasPrefix, List.isPrefixOf]
  refine ⟨h, ?_⟩
  unfold Lib.trimPrefix
  rw [if_pos h]
  rfl
theorem hasSuf (q : List UInt8) (x : UInt8) : Lib.hasSuffix (q ++ [x]) [41] = decide (x = 41) ∧ (x = 41 → Lib.trimSuffix (q ++ [x]) [41] = q) := by
  have h : Lib.hasSuffix (q ++ [x]) [41] = decide (x = 41) := by
    rw [Bool.eq_iff_iff]
    simp [Lib.hasSuffix, List.isSuffixOf, List.reverse_append, List.isPrefixOf]
    exact eq_comm
  refine ⟨h, fun e => ?_⟩
  unfold Lib.trimSuffix
  rw [if_pos (by rw [h]; exact decide_eq_true e)]
  simp
theorem in_round {l n : Nat} {f : FuncId} {args : Array Value} {w : World} {R : Ending → World → Prop} (h : Calls Tryd.prog f args w R) : CallsIn (Fence.wide.inRound l) n Tryd.prog f args w R := by
  show CallsIn Fence.wide n Tryd.prog f args w R
  exact callsIn_wide.2 h
theorem clone_any (s : ByteArray) (w : World) (hs : s.size ≤ 1048576) :
    Calls Tryd.prog 18 #[.string s] w fun e w' => e = .returned (.string s) ∧ Below w.heap.size w w' := by
  go_enter Tryd.func18, Tryd.ntmps18
  go_wp2_with fail
  refine (Tryd.stringslite_Clone s _ (by omega)).mono ?_
  rintro e w' ⟨rfl, hb⟩
  go_wp2
  go_ret
  exact ⟨rfl, hb⟩
theorem cuts_any (s : ByteArray) (n : Nat) (hs : s.size ≤ 65536) : ∃ rest names o c, CutsIn Fence.wide n s rest names o c ∧ names.size ≤ 65536 ∧ ((∃ q, s.data.toList = 40 :: (q ++ [41]) ∧ names = ⟨q.toArray⟩ ∧ o = true ∧ c = true) ∨ (lwR s.data.toList = ([], 3) ∧ (o = false ∨ (o = true ∧ c = false)))) := by
  have hsz := Lib.size_eq s
  have hl1 : (Lib.trimPrefix s.data.toList [40]).length ≤ s.size := by unfold Lib.trimPrefix; split <;> (try rw [List.length_drop]) <;> omega
  have hl2 : (Lib.trimSuffix (Lib.trimPrefix s.data.toList [40]) [41]).length ≤ s.size := by unfold Lib.trimSuffix; split <;> (try rw [List.length_take]) <;> omega
  refine ⟨_, _, _, _, ⟨fun W => callsIn_wide.2 (Tryd.strings_CutPrefix s ⟨#[40]⟩ W), fun W => callsIn_wide.2 (Tryd.strings_CutSuffix _ ⟨#[41]⟩ W (by rw [Lib.size_eq]; show (Lib.trimPrefix s.data.toList [40]).length ≤ _; omega))⟩, by rw [Lib.size_eq]; show (Lib.trimSuffix (Lib.trimPrefix s.data.toList [40]) [41]).length ≤ _; omega, ?_⟩
  show (∃ q, s.data.toList = 40 :: (q ++ [41]) ∧ (⟨(Lib.trimSuffix (Lib.trimPrefix s.data.toList [40]) [41]).toArray⟩ : ByteArray) = ⟨q.toArray⟩ ∧ Lib.hasPrefix s.data.toList [40] = true ∧ Lib.hasSuffix (Lib.trimPrefix s.data.toList [40]) [41] = true) ∨ (lwR s.data.toList = ([], 3) ∧ (Lib.hasPrefix s.data.toList [40] = false ∨ (Lib.hasPrefix s.data.toList [40] = true ∧ Lib.hasSuffix (Lib.trimPrefix s.data.toList [40]) [41] = false)))
  clear hsz hl1 hl2
  generalize s.data.toList = l
  by_cases hq : ∃ q, l = 40 :: (q ++ [41])
  · obtain ⟨q, rfl⟩ := hq
    obtain ⟨h1, h2⟩ := hasPre_yes (q ++ [41])
    obtain ⟨h3, h4⟩ := hasSuf q 41
    exact .inl ⟨q, rfl, by rw [h2, h4 rfl], h1, by rw [h2, h3]; rfl⟩
  · refine .inr ⟨lw_bad hq, ?_⟩
    rcases shape l with h | rfl | ⟨b, r, rfl, hb⟩ | rfl | ⟨q, x, rfl, hx⟩
    · exact absurd h hq
    · exact .inl rfl
    · exact .inl (hasPre_no hb)
    · exact .inr ⟨rfl, rfl⟩
    · obtain ⟨h1, h2⟩ := hasPre_yes (q ++ [x])
      obtain ⟨h3, h4⟩ := hasSuf q x
      exact .inr ⟨h1, by rw [h2, h3]; exact decide_eq_false hx⟩
theorem implLW (s : ByteArray) (hs : s.size ≤ 1048576) (w : World) (m : Int) (hm : w.cell? ⟨0, 0, none⟩ = some (.int .i64 m)) :
    Calls Tryd.prog 9 #[.string s] w fun e w' => LwRet s w.heap.size e w' ∧ Below w.heap.size w w' := by
  by_cases h : 65536 < s.size
  · exact callsIn_wide.1 (long_in Fence.wide 4 trivial rfl s w hs h)
  · obtain ⟨rest, names, o, c, hc, hns, hcase⟩ := cuts_any s 3 (by omega)
    rcases hcase with ⟨q, hq, hn, rfl, rfl⟩ | ⟨hr, hoc⟩
    · refine callsIn_wide.1 (good_in Fence.wide 4 trivial trivial trivial trivial trivial trivial trivial trivial rfl (Nat.le_refl _) s rest names m w (by omega) hns hc hm ?_ (fun W => callsIn_wide.2 (ln.SplitSeq_any names _ W)) (fun W t hW ht => callsIn_wide.2 (Tryd.strings_Index t ⟨#[32]⟩ m W (by omega) hW)) (fun l W x hx => in_round (isWord_any x W hx)) (fun l W x hx => in_round (clone_any x W hx)))
      have e : names.data.toList = q := by rw [hn]
      rw [e, ← lw_go, ← hq]
      exact if_neg h
    · exact callsIn_wide.1 (bad_in Fence.wide 4 trivial trivial trivial rfl (by omega) s rest names o c w (by omega) hc hoc hr)
/-- What ListWords answers, in texts. -/
def LT (s : ByteArray) : List ByteArray := (LR s).1.map fun l => ⟨l.toArray⟩
theorem own_t {s : ByteArray} {w : World} {base : Nat} {v : Value} (h : OwnW w base v (LR s).1) : ky.OwnT w base v (LT s) := by
  unfold ky.OwnT LT
  unfold OwnW at h
  rw [List.length_map, List.map_map]
  exact h
theorem lt_len (s : ByteArray) : (LT s).length ≤ 30 := by
  unfold LT LR
  rw [List.length_map]
  split
  · exact Nat.zero_le _
  · by_cases hq : ∃ q, s.data.toList = 40 :: (q ++ [41])
    · obtain ⟨q, hq⟩ := hq
      rw [hq, lw_good]
      split
      · rename_i h
        unfold gw at h
        simp at h
        exact h.2
      · exact Nat.zero_le _
    · rw [lw_bad hq]
      exact Nat.zero_le _
end Go.Proofs.YtakdpicjkbfpiaaDoor.lw
