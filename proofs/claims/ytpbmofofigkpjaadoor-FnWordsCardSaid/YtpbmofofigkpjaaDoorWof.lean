/-
  Plain facts on the answers of EncodeWords and DecodeWords at a short right text.
-/
import Derived.Test.YtpbmofofigkpjaaDoorRtp
import Derived.Test.YtpbmofofigkpjaaDoorSrv
import Derived.Test.YtpbmofofigkpjaaDoorEwt
import Derived.Test.YtpbmofofigkpjaaDoorDci
namespace Go.Proofs.YtpbmofofigkpjaaDoor.hd
open Go.RowKit
set_option linter.unusedVariables false

/-- A right text of at most 900 bytes. -/
def Flat (s : ByteArray) : Prop := ∃ zs : List Int, ut.Runes zs ∧ s = ut.mk (zs.flatMap ut.encB) ∧ (zs.flatMap ut.encB).length ≤ 900
theorem flat_right {s : ByteArray} (h : Flat s) : ut.Right s ∧ s.size ≤ 900 := by
  obtain ⟨zs, hz, rfl, hl⟩ := h
  exact ⟨ut.right_flat zs hz, by rw [ut.mk_size]; exact hl⟩
theorem ew_ok {s : ByteArray} {e : Ending} (h : EwRet s e) (hf : Flat s) : ∃ r, EncIs s r ∧ e = .returned (.tuple #[.string r, .int .i64 0]) := by
  obtain ⟨hr, hz⟩ := flat_right hf
  rcases h with ⟨a, _⟩ | ⟨_, a, _⟩ | ⟨_, _, a, _⟩ | ⟨_, _, r, hr, rfl⟩
  · omega
  · exact absurd hr a
  · omega
  · exact ⟨r, hr, rfl⟩
theorem dw_ok {s r : ByteArray} {e : Ending} (hf : Flat s) (hr : EncIs s r) (h : DwRet r e) : e = .returned (.tuple #[.string s, .int .i64 0]) := by
  obtain ⟨zs, hz, rfl, hl⟩ := hf
  obtain ⟨h1, h2⟩ := round_trip hz hl hr
  have h3 : r.size ≤ 2000 := by rw [Lib.size_eq]; exact h1.1
  rcases h with ⟨a, _⟩ | ⟨_, a, _⟩ | ⟨_, _, q, hq, rfl⟩
  · omega
  · exact absurd h1 a
  · rw [show q = ut.mk (zs.flatMap ut.encB) from ut.bytes_ext (h2 _ hq)]
theorem enc_safe {s r : ByteArray} (hf : Flat s) (hr : EncIs s r) : Safe r.data.toList := by
  obtain ⟨zs, hz, rfl, hl⟩ := hf
  exact (round_trip hz hl hr).1
theorem flat_two {zs zs' : List Int} (h : ∀ r ∈ zs, ut.scB r = true) (h' : ∀ r ∈ zs', ut.scB r = true) (hl : (zs.flatMap ut.encB).length ≤ 100) (hl' : (zs'.flatMap ut.encB).length ≤ 100) : Flat (⟨(zs.flatMap ut.encB).toArray⟩ ++ ⟨(zs'.flatMap ut.encB).toArray⟩) := by
  refine ⟨zs ++ zs', fun r hr => ?_, ?_, by rw [List.flatMap_append, List.length_append]; omega⟩
  · rcases List.mem_append.1 hr with hr | hr
    · exact h r hr
    · exact h' r hr
  · refine ut.bytes_ext ?_
    rw [ut.mk_list, List.flatMap_append]
    simp
theorem flat_short {s : ByteArray} (h : sr.Short s) : Flat s := by
  obtain ⟨zs, hz, rfl, hl⟩ := h
  exact ⟨zs, hz, rfl, by omega⟩
theorem runes_len {zs : List Int} (h : ∀ r ∈ zs, ut.scB r = true) (hz : zs.length ≤ 11) : (zs.flatMap ut.encB).length ≤ 100 := by
  have key : ∀ zs : List Int, (∀ r ∈ zs, ut.scB r = true) → (zs.flatMap ut.encB).length ≤ 4 * zs.length := by
    intro zs
    induction zs with
    | nil => intro _; simp
    | cons z zs ih =>
      intro h
      have h1 := (ut.enc_pos (h z List.mem_cons_self)).2
      have h2 := ih (fun r hr => h r (List.mem_cons_of_mem _ hr))
      rw [List.flatMap_cons, List.length_append, List.length_cons]
      omega
  have := key zs h
  omega
end Go.Proofs.YtpbmofofigkpjaaDoor.hd
