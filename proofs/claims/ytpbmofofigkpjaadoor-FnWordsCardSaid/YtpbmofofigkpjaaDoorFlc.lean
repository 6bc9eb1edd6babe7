/-
  Plain facts on what is cut off a text that is the bytes of some runes.
-/
import Derived.Test.YtpbmofofigkpjaaDoorFlt
import Derived.Test.YtpbmofofigkpjaaDoorCuw
import Derived.Test.YtpbmofofigkpjaaDoorVaw
namespace Go.Proofs.YtpbmofofigkpjaaDoor.ut
open Go.RowKit
set_option linter.unusedVariables false

theorem extract_pre (A B : List UInt8) : (mk (A ++ B)).extract 0 A.length = mk A := by
  refine bytes_ext ?_
  rw [Lib.extract_data, mk_list, mk_list]
  simp
/-- What is known of a beginning x of a text s that was cut at n. -/
def CutFacts (s : ByteArray) (n : Int) (x : ByteArray) : Prop :=
  Valid x ∧ (x.size : Int) ≤ n ∧ x.size ≤ s.size ∧ s.extract 0 x.size = x ∧ (x = s ∨ n < (x.size : Int) + 4)
theorem cut_facts (zs : List Int) (hz : Runes zs) (hl : zs.length ≤ 4096) (n : Int) (k : Nat) (h : CutAt (mk (zs.flatMap encB)) n k) : CutFacts (mk (zs.flatMap encB)) n ((mk (zs.flatMap encB)).extract 0 k) := by
  obtain ⟨j, hk, hks, hkn, hx⟩ := h
  have hj : j ≤ zs.length := by
    by_cases e : j ≤ zs.length
    · exact e
    · have := pos_lt (mk (zs.flatMap encB)) (show zs.length < j by omega)
      rw [pos_flat_end zs hz] at this
      omega
  have hp := pos_flat zs hz j hj
  have hsplit : zs.flatMap encB = (zs.take j).flatMap encB ++ (zs.drop j).flatMap encB := by rw [← List.flatMap_append, List.take_append_drop]
  have hex : (mk (zs.flatMap encB)).extract 0 k = mk ((zs.take j).flatMap encB) := by
    rw [hk, hp]
    conv => lhs; rw [hsplit]
    exact extract_pre _ _
  have hsz : ((mk (zs.flatMap encB)).extract 0 k).size = k := by rw [hex, mk_size, hk, hp]
  have hr : Runes (zs.take j) := fun r hr => hz r (List.mem_of_mem_take hr)
  refine ⟨⟨?_, ?_⟩, by rw [hsz]; exact hkn, by rw [hsz]; exact hks, by rw [hsz], ?_⟩
  · rw [hsz]
    have h1 := flat_len (zs.take j)
    have h2 : (zs.take j).length ≤ zs.length := by rw [List.length_take]; omega
    rw [hk, hp]
    omega
  · rw [hex]; exact right_flat _ hr
  · by_cases e : j = zs.length
    · left
      rw [hex, e, List.take_length]
    · right
      rw [hsz]
      rcases hx with hx | hx
      · rw [pos, ← hk] at hx
        have hd := dec_flat zs hz j (by omega)
        rw [← hp, ← hk] at hd
        rw [hd] at hx
        have := (enc_pos (hz _ (List.getElem_mem (show j < zs.length by omega)))).2
        simp only at hx
        omega
      · exfalso
        have := pos_lt (mk (zs.flatMap encB)) (show j < zs.length by omega)
        rw [pos_flat_end zs hz, ← hk] at this
        omega
theorem cut_ok {s : ByteArray} {n : Int} {e : Ending} (h : CutRet s n e) (hv : Valid s) (hn : 0 ≤ n) : ∃ k, CutAt s n k ∧ e = .returned (.tuple #[.string (s.extract 0 k), .int .i64 0]) := by
  rcases h with ⟨a, _⟩ | ⟨_, a, _⟩ | ⟨_, _, a, _⟩ | ⟨_, _, _, k, hk, rfl⟩
  · have := hv.1; omega
  · exact absurd hv.2 a
  · omega
  · exact ⟨k, hk, rfl⟩
theorem valid_flat (zs : List Int) (hz : Runes zs) (hl : zs.length ≤ 4096) : Valid (mk (zs.flatMap encB)) := by
  refine ⟨?_, right_flat zs hz⟩
  have := flat_len zs
  rw [mk_size]
  omega
end Go.Proofs.YtpbmofofigkpjaaDoor.ut
