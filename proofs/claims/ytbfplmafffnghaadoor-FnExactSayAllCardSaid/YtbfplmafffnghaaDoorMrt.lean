/-
  The laws' own marks: the text of a number; rows of texts, and of entries, marked, and held against the marks.
-/
import Derived.Test.YtbfplmafffnghaaDoorOwn
import Derived.Test.YtbfplmafffnghaaDoorRows
import Derived.WalkKit
import Derived.WalkLawsBesides
import Derived.Below
namespace Go.Proofs.YtbfplmafffnghaaDoor.mk
open Go.RowKit
set_option linter.unusedVariables false

theorem conv_part {P : Program} {w : World} {src dst e : TypeId} {g cap : Nat} (l : List UInt8) (hs : P.underlying src = some (.slice e)) (he : P.underlying e = some (.int .u8)) (hd : P.underlying dst = some .string)
    (hc : ∀ j, j < l.length → w.cell? ⟨g, j, none⟩ = some (.int .u8 ((l.getD j 0).toNat : Int))) : (convert src dst (.slice (some ⟨g, 0, none⟩) l.length cap)).run P w = .ok (.string ⟨l.toArray⟩) w := by
  refine run_convert_bytes_back w src dst e ⟨g, 0, none⟩ cap l hs he hd (fun j hj => ?_)
  rw [show ((⟨g, 0, none⟩ : Addr).add j) = ⟨g, j, none⟩ from by simp [Addr.add]; omega, hc j hj]
  simp [List.getD_eq_getElem?_getD, hj]

/-- The digit of a number's last place. -/
def ch (k : Int) : UInt8 := UInt8.ofNat (48 + (k % 10).toNat)
/-- A number's digits ahead of a text. -/
def dgs : Nat → Int → ByteArray → ByteArray
  | 0, _, o => o
  | f + 1, k, o => if k ≤ 0 then o else dgs f (k / 10) (⟨#[ch k]⟩ ++ o)
/-- The mark of a number. -/
def mt (k : Int) : ByteArray := ⟨#[109]⟩ ++ dgs 30 k ⟨#[]⟩
theorem dgs_end {f : Nat} {k : Int} {o : ByteArray} (h : k ≤ 0) : dgs f k o = o := by
  cases f with
  | zero => rfl
  | succ f => simp [dgs, h]
theorem dgs_step {f : Nat} {k : Int} {o : ByteArray} (h : 0 < k) : dgs (f + 1) k o = dgs f (k / 10) (⟨#[ch k]⟩ ++ o) := by
  rw [dgs, if_neg (by omega)]
theorem ch_num (k : Int) (h : 0 ≤ k) : ((ch k).toNat : Int) = 48 + k % 10 := by
  unfold ch
  rw [UInt8.toNat_ofNat']
  omega
theorem fuel_pos {f : Nat} {k : Int} (h : 0 < k) (hf : k < 2 ^ f) : ∃ g, f = g + 1 := by
  cases f with
  | zero => simp at hf; omega
  | succ g => exact ⟨g, rfl⟩
theorem fuel_next {g : Nat} {k : Int} (h : 0 < k) (hf : k < 2 ^ (g + 1)) : k / 10 < 2 ^ g := by
  rw [Int.pow_succ] at hf
  generalize (2 : Int) ^ g = x at hf ⊢
  omega

theorem one_cell (w : World) (c : UInt8) : ∀ i, i < [c].length → (w.alloc (.cells #[.int .u8 (c.toNat : Int)] 5)).cell? ⟨w.heap.size, i, none⟩ = some (.int .u8 (([c].getD i 0).toNat : Int)) := by
  intro i hi
  have : i = 0 := by simpa using hi
  subst this
  exact ow.cell_new w [.int .u8 (c.toNat : Int)] 5 0 _ rfl
set_option maxHeartbeats 1000000 in
set_option maxRecDepth 100000 in
theorem mark_any (k : Int) (w : World) (h0 : 0 < k) (h1 : k ≤ 100000000) :
    Calls Tryd.prog 15 #[.int .i64 k] w fun e w' => e = .returned (.string (mt k)) ∧ Below w.heap.size w w' := by
  go_enter Tryd.func15, Tryd.ntmps15
  go_wp2
  go_loopw [0, 3] (fun i o wr => ∃ (f : Nat) (j : Int) (s : ByteArray), i = .int .i64 j ∧ o = .string s ∧ 0 ≤ j ∧ j ≤ 100000000 ∧ j < 2 ^ f ∧ s.size + f ≤ 30 ∧ dgs f j s = dgs 30 k ⟨#[]⟩ ∧ Below w.heap.size w wr) (fun i _ _ => (intOf i).toNat)
  case atStart => exact ⟨30, k, ⟨#[]⟩, rfl, rfl, by omega, h1, by omega, by show 0 + 30 ≤ 30; omega, rfl, Below.refl _ _⟩
  case round =>
    obtain ⟨f, j, s, rfl, rfl, hj0, hj1, hf, hsz, hd, hbw⟩ := hrel
    by_cases hj : 0 < j
    · obtain ⟨g, rfl⟩ := fuel_pos hj hf
      have hf2 := fuel_next hj hf
      have HF : Hid (j / 10 < 2 ^ g) := hf2
      have HD : Hid (dgs g (j / 10) (⟨#[ch j]⟩ ++ s) = dgs 30 k ⟨#[]⟩) := (dgs_step hj).symm.trans hd
      have hmod : j.tmod 10 = j % 10 := by rw [Int.tmod_eq_emod_of_nonneg hj0]
      have hdiv : j.tdiv 10 = j / 10 := by rw [Int.tdiv_eq_ediv_of_nonneg hj0]
      have hw : IntKind.u8.wrap (48 + j % 10) = ((ch j).toNat : Int) := by
        rw [ch_num j hj0]
        have h256 : (2 : Int) ^ IntKind.u8.bits = 256 := rfl
        unfold IntKind.wrap
        simp only [h256, show IntKind.u8.signed = false from rfl, Bool.false_and, Bool.false_eq_true, if_false]
        omega
      have hcv := conv_part (P := Tryd.prog) (w := wr.alloc (.cells #[.int .u8 ((ch j).toNat : Int)] 5)) (g := wr.heap.size) (cap := 1) [ch j] Tryd.underlying39 Tryd.underlying5 Tryd.underlying9 (one_cell wr (ch j))
      rw [List.length_singleton] at hcv
      clear hf hf2 hd
      have hm0 : 0 ≤ j % 10 := by omega
      have hm1 : j % 10 < 10 := by omega
      go_wp2
      go_roundw
      case rel => exact ⟨g, j / 10, ⟨#[ch j]⟩ ++ s, rfl, rfl, by omega, by omega, HF.out, by rw [ByteArray.size_append]; show 1 + s.size + g ≤ 30; omega, HD.out, hbw.alloc hbw.size _⟩
      case measure => simp [intOf]; omega
    · have HD : Hid (s = dgs 30 k ⟨#[]⟩) := (dgs_end (by omega)).symm.trans hd
      clear hd hf
      go_wp2
      go_ret
      exact ⟨by rw [mt, ← HD.out]; rfl, hbw⟩
end Go.Proofs.YtbfplmafffnghaaDoor.mk
