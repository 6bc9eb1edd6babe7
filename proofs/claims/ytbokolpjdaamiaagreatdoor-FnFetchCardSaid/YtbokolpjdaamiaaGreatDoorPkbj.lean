/-
  A text written in great letters: both functions.
  The items of a fetch: the program's way.
-/
import Derived.Test.YtbokolpjdaamiaaGreatDoorPkbi
import Derived.Test.YtbokolpjdaamiaaGreatDoorPkbf
import Derived.Test.YtbokolpjdaamiaaGreatDoorPkbc
import Derived.Test.YtbokolpjdaamiaaGreatDoorPkaf
import Derived.Test.YtbokolpjdaamiaaGreatDoorPkas
import Derived.Test.YtbokolpjdaamiaaGreatDoorPkae

namespace Go.Proofs.YtbokolpjdaamiaaGreatDoor.up
open Go.RowKit
set_option linter.unusedVariables false

set_option maxHeartbeats 2000000 in
set_option maxRecDepth 100000 in
theorem spec_upper (s : ByteArray) (w : World) (hs : s.size ≤ 1048576) :
    Calls Tryz.prog 41 #[.string s] w fun e w' => e = .returned (.string ⟨(lower s.data.toList).toArray⟩) ∧ Below w.heap.size w w' := by
  have hcv := Lib.run_convert_string_bytes (P := Tryz.prog) w 9 22 5 s Tryz.underlying9 Tryz.underlying22 Tryz.underlying5
  have HM0 : Hid (Mid w (Lib.bytesWorld w 5 s) s (grownCap w s.size 0 5) 0) := mid_start w s (by unfold maxLen; omega)
  generalize grownCap w s.size 0 5 = cap at hcv HM0
  generalize Lib.bytesWorld w 5 s = W0 at hcv HM0
  go_enter Tryz.func41, Tryz.ntmps41
  go_wp2
  go_loopw [4] (fun i wr => ∃ k : Nat, k ≤ s.size ∧ i = .int .i64 k ∧ Mid w wr s cap k) (fun i _ => s.size - (intOf i).toNat)
  case atStart => exact ⟨0, Nat.zero_le _, rfl, HM0.out⟩
  case round =>
    clear hcv HM0
    obtain ⟨k, hk, rfl, hmid⟩ := hrel
    have HM : Hid (Mid w wr s cap k) := hmid
    by_cases hlt : k < s.size
    · have hlt' : (k : Int) < (s.size : Int) := by omega
      have c0 := hmid.cell hlt
      have f0 := hmid.free hlt
      clear hmid
      by_cases h1 : 97 ≤ ((s[k]'hlt).toNat : Int)
      · have d1 : decide (97 ≤ ((s[k]'hlt).toNat : Int)) = true := decide_eq_true h1
        by_cases h2 : ((s[k]'hlt).toNat : Int) ≤ 122
        · have d2 : decide (((s[k]'hlt).toNat : Int) ≤ 122) = true := decide_eq_true h2
          have hw := u8_add h1 h2
          have HN : Hid (Mid w (wr.setCell ⟨w.heap.size, k, none⟩ (.int .u8 (((s[k]'hlt).toNat : Int) - 32))) s cap (k + 1)) := HM.out.great hlt h1 h2
          go_wp2
          go_roundw
          case rel => exact ⟨k + 1, by omega, by go_num, HN.out⟩
          case measure => simp [intOf]; omega
        · have d2 : decide (((s[k]'hlt).toNat : Int) ≤ 122) = false := decide_eq_false h2
          have HN : Hid (Mid w wr s cap (k + 1)) := HM.out.other hlt (fun h => h2 h.2)
          go_wp2
          go_roundw
          case rel => exact ⟨k + 1, by omega, by go_num, HN.out⟩
          case measure => simp [intOf]; omega
      · have d1 : decide (97 ≤ ((s[k]'hlt).toNat : Int)) = false := decide_eq_false h1
        have HN : Hid (Mid w wr s cap (k + 1)) := HM.out.other hlt (fun h => h1 h.1)
        go_wp2
        go_roundw
        case rel => exact ⟨k + 1, by omega, by go_num, HN.out⟩
        case measure => simp [intOf]; omega
    · have hlt' : ¬ (k : Int) < (s.size : Int) := by omega
      have htx := hmid.text (by omega)
      clear hmid
      go_wp2
      go_ret
      exact ⟨rfl, HM.out.2⟩
set_option maxHeartbeats 2000000 in
set_option maxRecDepth 100000 in
theorem impl_upper (s : ByteArray) (w : World) (hs : s.size ≤ 1048576) :
    Calls Tryz.prog 59 #[.string s] w fun e w' => e = .returned (.string ⟨(lower s.data.toList).toArray⟩) ∧ Below w.heap.size w w' := by
  have hcv := Lib.run_convert_string_bytes (P := Tryz.prog) w 9 22 5 s Tryz.underlying9 Tryz.underlying22 Tryz.underlying5
  have HM0 : Hid (Mid w (Lib.bytesWorld w 5 s) s (grownCap w s.size 0 5) 0) := mid_start w s (by unfold maxLen; omega)
  generalize grownCap w s.size 0 5 = cap at hcv HM0
  generalize Lib.bytesWorld w 5 s = W0 at hcv HM0
  go_enter Tryz.func59, Tryz.ntmps59
  go_wp2
  go_loopw [10] (fun i wr => ∃ k : Nat, k ≤ s.size ∧ i = .int .i64 k ∧ Mid w wr s cap k) (fun i _ => s.size - (intOf i).toNat)
  case atStart => exact ⟨0, Nat.zero_le _, rfl, HM0.out⟩
  case round =>
    clear hcv HM0
    obtain ⟨k, hk, rfl, hmid⟩ := hrel
    have HM : Hid (Mid w wr s cap k) := hmid
    by_cases hlt : k < s.size
    · have hlt' : (k : Int) < (s.size : Int) := by omega
      have c0 := hmid.cell hlt
      have f0 := hmid.free hlt
      clear hmid
      by_cases h1 : 97 ≤ ((s[k]'hlt).toNat : Int)
      · have d1 : decide (97 ≤ ((s[k]'hlt).toNat : Int)) = true := decide_eq_true h1
        by_cases h2 : ((s[k]'hlt).toNat : Int) ≤ 122
        · have d2 : decide (((s[k]'hlt).toNat : Int) ≤ 122) = true := decide_eq_true h2
          have hw1 : IntKind.u8.wrap (((s[k]'hlt).toNat : Int) - 97) = ((s[k]'hlt).toNat : Int) - 97 := by
            have h256 : (2 : Int) ^ IntKind.u8.bits = 256 := rfl
            unfold IntKind.wrap
            simp only [h256, show IntKind.u8.signed = false from rfl, Bool.false_and, Bool.false_eq_true, if_false]
            omega
          have hw2 : IntKind.u8.wrap (((s[k]'hlt).toNat : Int) - 97 + 65) = ((s[k]'hlt).toNat : Int) - 32 := by
            rw [show ((s[k]'hlt).toNat : Int) - 97 + 65 = ((s[k]'hlt).toNat : Int) - 32 from by omega]
            exact u8_add h1 h2
          have HN : Hid (Mid w (wr.setCell ⟨w.heap.size, k, none⟩ (.int .u8 (((s[k]'hlt).toNat : Int) - 32))) s cap (k + 1)) := HM.out.great hlt h1 h2
          go_wp2
          go_roundw
          case rel =>
            refine ⟨k + 1, by omega, by go_num, ?_⟩
            first | exact HN.out | (rw [show ((s[k]'hlt).toNat : Int) - 97 + 65 = ((s[k]'hlt).toNat : Int) - 32 from by omega]; exact HN.out)
          case measure => simp [intOf]; omega
        · have d2 : decide (((s[k]'hlt).toNat : Int) ≤ 122) = false := decide_eq_false h2
          have HN : Hid (Mid w wr s cap (k + 1)) := HM.out.other hlt (fun h => h2 h.2)
          go_wp2
          go_roundw
          case rel => exact ⟨k + 1, by omega, by go_num, HN.out⟩
          case measure => simp [intOf]; omega
      · have d1 : decide (97 ≤ ((s[k]'hlt).toNat : Int)) = false := decide_eq_false h1
        have HN : Hid (Mid w wr s cap (k + 1)) := HM.out.other hlt (fun h => h1 h.1)
        go_wp2
        go_roundw
        case rel => exact ⟨k + 1, by omega, by go_num, HN.out⟩
        case measure => simp [intOf]; omega
    · have hlt' : ¬ (k : Int) < (s.size : Int) := by omega
      have htx := hmid.text (by omega)
      clear hmid
      go_wp2
      go_ret
      exact ⟨rfl, HM.out.2⟩
end Go.Proofs.YtbokolpjdaamiaaGreatDoor.up

namespace Go.Proofs.YtbokolpjdaamiaaGreatDoor.fq
open Go.RowKit
open gr
open ky (TextsAt)
set_option linter.unusedVariables false

def nmOf (i : It) : B := i.arm kFl kUi kSz fun pk _ => if pk = true then kPk else kBo
def paOf (i : It) : B := i.arm [] [] [] fun _ j => pt j
/-- What itemOf answers. -/
def ItRet (s : ByteArray) (e : Ending) : Prop :=
  (∃ i, itm s = some i ∧ e = .returned (.tuple #[.agg #[.string ⟨(nmOf i).toArray⟩, .string ⟨(paOf i).toArray⟩], .bool true])) ∨ (itm s = none ∧ ∃ a b, e = .returned (.tuple #[.agg #[.string a, .string b], .bool false]))
theorem head_no (pk : Bool) : ∀ b ∈ (if pk = true then kPk else kBo), b ≠ 91 := by cases pk <;> decide
theorem cut_same : ∀ (u u' r r' : B), (∀ b ∈ u, b ≠ 91) → (∀ b ∈ u', b ≠ 91) → u ++ 91 :: r = u' ++ 91 :: r' → u = u' ∧ r = r'
  | [], [], r, r', _, _, e => by simpa using e
  | [], y :: u', r, r', _, h', e => by
    simp at e
    exact absurd e.1.symm (h' y List.mem_cons_self)
  | x :: u, [], r, r', h, _, e => by
    simp at e
    exact absurd e.1 (h x List.mem_cons_self)
  | x :: u, y :: u', r, r', h, h', e => by
    simp at e
    obtain ⟨e1, e2⟩ := cut_same u u' r r' (fun b hb => h b (List.mem_cons_of_mem _ hb)) (fun b hb => h' b (List.mem_cons_of_mem _ hb)) e.2
    exact ⟨by rw [e.1, e1], e2⟩
theorem suf_no {l : B} {c : UInt8} (h : Lib.hasSuffix l [c] = false) (m : B) : l ≠ m ++ [c] := fun e => by
  rw [e] at h
  have : Lib.hasSuffix (m ++ [c]) [c] = true := by
    unfold Lib.hasSuffix
    simp
  rw [this] at h
  cases h
theorem suf_yes {l : B} {c : UInt8} (h : Lib.hasSuffix l [c] = true) : ∃ m, l = m ++ [c] := by
  unfold Lib.hasSuffix at h
  simp at h
  obtain ⟨m, hm⟩ := h
  exact ⟨m, hm.symm⟩
theorem trim_at (m : B) (c : UInt8) : Lib.trimSuffix (m ++ [c]) [c] = m := by
  unfold Lib.trimSuffix
  rw [show Lib.hasSuffix (m ++ [c]) [c] = true by unfold Lib.hasSuffix; simp]
  simp
theorem tl_of (l m : B) : ((⟨l.toArray⟩ : ByteArray).toList == m) = decide (l = m) := by
  rw [Lib.toList_data, Bool.eq_iff_iff, beq_iff_eq, decide_eq_true_iff]
set_option maxHeartbeats 4000000 in
set_option maxRecDepth 100000 in
theorem itemOf_any (s : ByteArray) (hs : s.size ≤ 1048576) (w : World) (mx : Int) (hm : w.cell? ⟨1, 0, none⟩ = some (.int .i64 mx)) :
    Calls Tryz.prog 35 #[.string s] w fun e w' => ItRet s e ∧ Below w.heap.size w w' := by
  have HU : Hid (∀ W, Calls Tryz.prog 59 #[.string s] W fun e w' => e = .returned (.string ⟨(up.lower s.data.toList).toArray⟩) ∧ Below W.heap.size W w') := fun W => up.impl_upper s W hs
  have hul : (up.lower s.data.toList).length ≤ 1048576 := by rw [up.lower_len, ← Lib.size_eq]; exact hs
  have HIT : Hid (itm s = itw (up.lower s.data.toList)) := rfl
  have hN := nine (up.lower s.data.toList)
  generalize up.lower s.data.toList = U at HU hul HIT hN
  have hg : 1 < w.heap.size := World.block_lt_of_cell? w _ hm
  have HMX : Hid (∀ W, Below w.heap.size w W → W.cell? ⟨1, 0, none⟩ = some (.int .i64 mx)) := fun W hW => (hW.cell (p := ⟨1, 0, none⟩) hg).trans hm
  clear hm hg
  rcases hN with rfl | rfl | rfl | hN
  · have HR : Hid (ItRet s (.returned (.tuple #[.agg #[.string ⟨#[70, 76, 65, 71, 83]⟩, .string ⟨#[]⟩], .bool true]))) := .inl ⟨.fl, HIT.out, rfl⟩
    clear HIT hul HMX
    go_enter Tryz.func35, Tryz.ntmps35
    go_wp2_with fail
    generalize hW0 : World.alloc _ _ = W0
    have HL0 : Hid (b2.Box W0 w.heap.size 63 (.string ⟨#[]⟩) (.string ⟨#[]⟩)) := (show b2.Box _ _ _ _ _ by rw [← hW0]; exact b2.new _ _ _ _)
    have HB0 : Hid (Below w.heap.size w W0) := (show Below _ _ _ by rw [← hW0]; exact (Below.refl _ w).alloc (Nat.le_refl _) _)
    clear hW0
    refine (HU.out W0).mono ?_
    rintro e w1 ⟨rfl, b1⟩
    have HL1 : Hid (b2.Box w1 w.heap.size 63 (.string ⟨#[]⟩) (.string ⟨#[]⟩)) := HL0.out.below b1
    have HB1 : Hid (Below w.heap.size w w1) := HB0.out.trans (b1.mono HB0.out.size)
    rw [show (⟨kFl.toArray⟩ : ByteArray) = ⟨#[70, 76, 65, 71, 83]⟩ from rfl]
    clear HL0 HB0 b1 HU
    have c0 := HL1.out.c0
    have c1 := HL1.out.c1
    have f0 := HL1.out.f 0
    have f1 := HL1.out.f 1
    go_wp2
    have L4 := HL1.out.put (a' := .string ⟨#[70, 76, 65, 71, 83]⟩) (b' := .string ⟨#[]⟩)
    have b4 := b2.put_below (a := .string ⟨#[70, 76, 65, 71, 83]⟩) (b := .string ⟨#[]⟩) HB1.out (Nat.le_refl _)
    clear c0 c1 f0 f1
    unfold b2.put at L4 b4
    generalize hX : World.setCell _ _ _ = X at L4 b4 ⊢
    clear hX
    have c0 := L4.c0
    have c1 := L4.c1
    refine bodyPost_ret (v := .tuple #[.agg #[.string ⟨#[70, 76, 65, 71, 83]⟩, .string ⟨#[]⟩], .bool true]) (by simp [results, Tryz.results35, go_sem, c0, c1]) rfl ⟨HR.out, b4⟩
  · have HR : Hid (ItRet s (.returned (.tuple #[.agg #[.string ⟨#[85, 73, 68]⟩, .string ⟨#[]⟩], .bool true]))) := .inl ⟨.ui, HIT.out, rfl⟩
    clear HIT hul HMX
    go_enter Tryz.func35, Tryz.ntmps35
    go_wp2_with fail
    generalize hW0 : World.alloc _ _ = W0
    have HL0 : Hid (b2.Box W0 w.heap.size 63 (.string ⟨#[]⟩) (.string ⟨#[]⟩)) := (show b2.Box _ _ _ _ _ by rw [← hW0]; exact b2.new _ _ _ _)
    have HB0 : Hid (Below w.heap.size w W0) := (show Below _ _ _ by rw [← hW0]; exact (Below.refl _ w).alloc (Nat.le_refl _) _)
    clear hW0
    refine (HU.out W0).mono ?_
    rintro e w1 ⟨rfl, b1⟩
    have HL1 : Hid (b2.Box w1 w.heap.size 63 (.string ⟨#[]⟩) (.string ⟨#[]⟩)) := HL0.out.below b1
    have HB1 : Hid (Below w.heap.size w w1) := HB0.out.trans (b1.mono HB0.out.size)
    rw [show (⟨kUi.toArray⟩ : ByteArray) = ⟨#[85, 73, 68]⟩ from rfl]
    clear HL0 HB0 b1 HU
    have c0 := HL1.out.c0
    have c1 := HL1.out.c1
    have f0 := HL1.out.f 0
    have f1 := HL1.out.f 1
    go_wp2
    have L4 := HL1.out.put (a' := .string ⟨#[85, 73, 68]⟩) (b' := .string ⟨#[]⟩)
    have b4 := b2.put_below (a := .string ⟨#[85, 73, 68]⟩) (b := .string ⟨#[]⟩) HB1.out (Nat.le_refl _)
    clear c0 c1 f0 f1
    unfold b2.put at L4 b4
    generalize hX : World.setCell _ _ _ = X at L4 b4 ⊢
    clear hX
    have c0 := L4.c0
    have c1 := L4.c1
    refine bodyPost_ret (v := .tuple #[.agg #[.string ⟨#[85, 73, 68]⟩, .string ⟨#[]⟩], .bool true]) (by simp [results, Tryz.results35, go_sem, c0, c1]) rfl ⟨HR.out, b4⟩
  · have HR : Hid (ItRet s (.returned (.tuple #[.agg #[.string ⟨#[82, 70, 67, 56, 50, 50, 46, 83, 73, 90, 69]⟩, .string ⟨#[]⟩], .bool true]))) := .inl ⟨.sz, HIT.out, rfl⟩
    clear HIT hul HMX
    go_enter Tryz.func35, Tryz.ntmps35
    go_wp2_with fail
    generalize hW0 : World.alloc _ _ = W0
    have HL0 : Hid (b2.Box W0 w.heap.size 63 (.string ⟨#[]⟩) (.string ⟨#[]⟩)) := (show b2.Box _ _ _ _ _ by rw [← hW0]; exact b2.new _ _ _ _)
    have HB0 : Hid (Below w.heap.size w W0) := (show Below _ _ _ by rw [← hW0]; exact (Below.refl _ w).alloc (Nat.le_refl _) _)
    clear hW0
    refine (HU.out W0).mono ?_
    rintro e w1 ⟨rfl, b1⟩
    have HL1 : Hid (b2.Box w1 w.heap.size 63 (.string ⟨#[]⟩) (.string ⟨#[]⟩)) := HL0.out.below b1
    have HB1 : Hid (Below w.heap.size w w1) := HB0.out.trans (b1.mono HB0.out.size)
    rw [show (⟨kSz.toArray⟩ : ByteArray) = ⟨#[82, 70, 67, 56, 50, 50, 46, 83, 73, 90, 69]⟩ from rfl]
    clear HL0 HB0 b1 HU
    have c0 := HL1.out.c0
    have c1 := HL1.out.c1
    have f0 := HL1.out.f 0
    have f1 := HL1.out.f 1
    go_wp2
    have L4 := HL1.out.put (a' := .string ⟨#[82, 70, 67, 56, 50, 50, 46, 83, 73, 90, 69]⟩) (b' := .string ⟨#[]⟩)
    have b4 := b2.put_below (a := .string ⟨#[82, 70, 67, 56, 50, 50, 46, 83, 73, 90, 69]⟩) (b := .string ⟨#[]⟩) HB1.out (Nat.le_refl _)
    clear c0 c1 f0 f1
    unfold b2.put at L4 b4
    generalize hX : World.setCell _ _ _ = X at L4 b4 ⊢
    clear hX
    have c0 := L4.c0
    have c1 := L4.c1
    refine bodyPost_ret (v := .tuple #[.agg #[.string ⟨#[82, 70, 67, 56, 50, 50, 46, 83, 73, 90, 69]⟩, .string ⟨#[]⟩], .bool true]) (by simp [results, Tryz.results35, go_sem, c0, c1]) rfl ⟨HR.out, b4⟩
  have t1 : ((⟨U.toArray⟩ : ByteArray).toList == [70, 76, 65, 71, 83]) = false := by
    rw [tl_of]
    refine decide_eq_false fun e => ?_
    rcases hN with ⟨pk, i, hi, rfl⟩ | ⟨h, _⟩
    · have hc : i = 0 ∨ i = 1 ∨ i = 2 := by omega
      cases pk <;> rcases hc with rfl | rfl | rfl <;> exact absurd e (by decide)
    · exact h.1 e
  have t2 : ((⟨U.toArray⟩ : ByteArray).toList == [85, 73, 68]) = false := by
    rw [tl_of]
    refine decide_eq_false fun e => ?_
    rcases hN with ⟨pk, i, hi, rfl⟩ | ⟨h, _⟩
    · have hc : i = 0 ∨ i = 1 ∨ i = 2 := by omega
      cases pk <;> rcases hc with rfl | rfl | rfl <;> exact absurd e (by decide)
    · exact h.2.1 e
  have t3 : ((⟨U.toArray⟩ : ByteArray).toList == [82, 70, 67, 56, 50, 50, 46, 83, 73, 90, 69]) = false := by
    rw [tl_of]
    refine decide_eq_false fun e => ?_
    rcases hN with ⟨pk, i, hi, rfl⟩ | ⟨h, _⟩
    · have hc : i = 0 ∨ i = 1 ∨ i = 2 := by omega
      cases pk <;> rcases hc with rfl | rfl | rfl <;> exact absurd e (by decide)
    · exact h.2.2.1 e
  have hUs : (⟨U.toArray⟩ : ByteArray).size ≤ 1048576 := by rw [Lib.size_eq]; exact hul
  obtain ⟨I, cl, HS0, hcl⟩ : ∃ (I : B) (cl : Bool), (∀ W, Calls Tryz.prog 60 #[.string ⟨U.toArray⟩, .string ⟨#[93]⟩] W fun e w' => e = .returned (.tuple #[.string ⟨I.toArray⟩, .bool cl]) ∧ w' = W) ∧ ((cl = true ∧ U = I ++ [93]) ∨ (cl = false ∧ I.length ≤ U.length ∧ ∀ m, U ≠ m ++ [93])) := by
    have HS0 := fun W => Tryz.strings_CutSuffix ⟨U.toArray⟩ ⟨#[93]⟩ W (by omega)
    rw [show (⟨#[93]⟩ : ByteArray).data.toList = [93] from rfl, show (⟨U.toArray⟩ : ByteArray).data.toList = U from by simp] at HS0
    cases hq : Lib.hasSuffix U [93] with
    | false =>
      have he : Lib.trimSuffix U [93] = U := by unfold Lib.trimSuffix; rw [hq]; rfl
      rw [hq] at HS0
      try rw [he] at HS0
      exact ⟨U, false, HS0, .inr ⟨rfl, Nat.le_refl _, suf_no hq⟩⟩
    | true =>
      obtain ⟨m, rfl⟩ := suf_yes hq
      rw [hq, trim_at] at HS0
      exact ⟨m, true, HS0, .inl ⟨rfl, rfl⟩⟩
  have HS : Hid (∀ W, Calls Tryz.prog 60 #[.string ⟨U.toArray⟩, .string ⟨#[93]⟩] W fun e w' => e = .returned (.tuple #[.string ⟨I.toArray⟩, .bool cl]) ∧ w' = W) := HS0
  have hIl : I.length ≤ 1048576 := by
    rcases hcl with ⟨_, e⟩ | ⟨_, e, _⟩
    · rw [e, List.length_append] at hul; omega
    · omega
  have hIs : (⟨I.toArray⟩ : ByteArray).size ≤ 1048576 := by rw [Lib.size_eq]; exact hIl
  have HC : Hid (∀ W, Below w.heap.size w W → Calls Tryz.prog 61 #[.string ⟨I.toArray⟩, .string ⟨#[91]⟩] W fun e w' => ∃ u r B, e = .returned (.tuple #[.string ⟨u.toArray⟩, .string ⟨r.toArray⟩, .bool B]) ∧ sp.Cut1 91 I u r B ∧ ∃ n, w' = W.drewN n) := fun W hW => by
    have := sp.cut1_any 91 ⟨I.toArray⟩ hIs W mx (HMX.out W hW)
    rwa [show (⟨I.toArray⟩ : ByteArray).data.toList = I from by simp] at this
  -- what the four tests say together
  have HY : Hid (∀ u r Bo, sp.Cut1 91 I u r Bo → (cl = true ∧ Bo = true ∧ (u = kBo ∨ u = kPk) ∧ (r = [] ∨ r = ml.hdr ∨ r = ml.txt)) → ItRet s (.returned (.tuple #[.agg #[.string ⟨u.toArray⟩, .string ⟨r.toArray⟩], .bool true]))) := by
    rintro u r Bo hc ⟨rfl, rfl, hu, hr⟩
    rcases hc with ⟨_, hI, hno⟩ | ⟨hf, _⟩
    rotate_left
    · cases hf
    rcases hcl with ⟨_, hU⟩ | ⟨hf, _⟩
    rotate_left
    · cases hf
    obtain ⟨i, hi, rfl⟩ := pt_is hr
    obtain ⟨pk, rfl⟩ : ∃ pk : Bool, u = if pk = true then kPk else kBo := by
      rcases hu with rfl | rfl
      · exact ⟨false, rfl⟩
      · exact ⟨true, rfl⟩
    have hw : U = bo pk i := by rw [hU, hI, bo, hd]; simp
    exact .inl ⟨.bd pk i, by rw [HIT.out, hw, itw_bo pk i hi], rfl⟩
  have HNO : Hid (∀ u r Bo, sp.Cut1 91 I u r Bo → ¬ (cl = true ∧ Bo = true ∧ (u = kBo ∨ u = kPk) ∧ (r = [] ∨ r = ml.hdr ∨ r = ml.txt)) → ItRet s (.returned (.tuple #[.agg #[.string ⟨u.toArray⟩, .string ⟨r.toArray⟩], .bool false]))) := by
    intro u r Bo hc hn
    rcases hN with ⟨pk, i, hi, rfl⟩ | ⟨h, hno⟩
    · exfalso
      have hbo : bo pk i = ((if pk = true then kPk else kBo) ++ 91 :: pt i) ++ [93] := by rw [bo, hd]; simp
      rcases hcl with ⟨rfl, hU⟩ | ⟨_, _, hno⟩
      rotate_left
      · exact hno _ hbo
      have hI : I = (if pk = true then kPk else kBo) ++ 91 :: pt i := by
        rw [hbo] at hU
        exact (List.append_inj' hU rfl).1.symm
      rcases hc with ⟨rfl, hI2, hno⟩ | ⟨rfl, hI2, _, hno⟩
      rotate_left
      · exact hno 91 (by rw [← hI2, hI]; simp) rfl
      obtain ⟨rfl, rfl⟩ := cut_same _ _ _ _ hno (head_no pk) (by rw [← hI2, hI])
      exact hn ⟨rfl, rfl, by cases pk; exact .inl rfl; exact .inr rfl, pt_in i⟩
    · exact .inr ⟨by rw [HIT.out]; exact hno, _, _, rfl⟩
  have hcut : Hid (∀ u r Bo, sp.Cut1 91 I u r Bo → u.length ≤ 1048576 ∧ r.length ≤ 1048576) := by
    intro u r Bo hc
    rcases hc with ⟨_, hI, _⟩ | ⟨_, hI, hr, _⟩
    · rw [hI, List.length_append, List.length_cons] at hIl; omega
    · rw [hI] at hIl; rw [hr]; exact ⟨hIl, by simp⟩
  clear hN hul HIT HS0 hcl hIl hIs HMX
  generalize hUe : (⟨U.toArray⟩ : ByteArray) = UB at HU t1 t2 t3 hUs HS
  generalize hIe : (⟨I.toArray⟩ : ByteArray) = IB at HS HC
  clear hUe hIe
  go_enter Tryz.func35, Tryz.ntmps35
  go_wp2_with fail
  generalize hW0 : World.alloc _ _ = W0
  have HL0 : Hid (b2.Box W0 w.heap.size 63 (.string ⟨#[]⟩) (.string ⟨#[]⟩)) := (show b2.Box _ _ _ _ _ by rw [← hW0]; exact b2.new _ _ _ _)
  have HB0 : Hid (Below w.heap.size w W0) := (show Below _ _ _ by rw [← hW0]; exact (Below.refl _ w).alloc (Nat.le_refl _) _)
  clear hW0
  refine (HU.out W0).mono ?_
  rintro e w1 ⟨rfl, b1⟩
  have HL1 : Hid (b2.Box w1 w.heap.size 63 (.string ⟨#[]⟩) (.string ⟨#[]⟩)) := HL0.out.below b1
  have HB1 : Hid (Below w.heap.size w w1) := HB0.out.trans (b1.mono HB0.out.size)
  clear HL0 HB0 b1 HU
  go_wp2_with fail
  refine (HS.out _).mono ?_
  rintro e w1' ⟨rfl, hw1'⟩
  have hw1' := hw1'.symm
  subst hw1'
  go_wp2_with fail
  refine (HC.out _ HB1.out).mono ?_
  rintro e w2 ⟨u, r, Bo, rfl, hc, n, rfl⟩
  obtain ⟨hul, hrl⟩ := hcut.out u r Bo hc
  have HYu : Hid ((cl = true ∧ Bo = true ∧ (u = kBo ∨ u = kPk) ∧ (r = [] ∨ r = ml.hdr ∨ r = ml.txt)) → ItRet s (.returned (.tuple #[.agg #[.string ⟨u.toArray⟩, .string ⟨r.toArray⟩], .bool true]))) := HY.out u r Bo hc
  have HNu : Hid (¬ (cl = true ∧ Bo = true ∧ (u = kBo ∨ u = kPk) ∧ (r = [] ∨ r = ml.hdr ∨ r = ml.txt)) → ItRet s (.returned (.tuple #[.agg #[.string ⟨u.toArray⟩, .string ⟨r.toArray⟩], .bool false]))) := HNO.out u r Bo hc
  have q1 : ((⟨u.toArray⟩ : ByteArray).toList == [66, 79, 68, 89]) = decide (u = kBo) := tl_of u _
  have q2 : ((⟨u.toArray⟩ : ByteArray).toList == [66, 79, 68, 89, 46, 80, 69, 69, 75]) = decide (u = kPk) := tl_of u _
  have HP : Hid (∀ W, Calls Tryz.prog 62 #[.string ⟨r.toArray⟩] W fun e w' => (∃ b : Bool, e = .returned (.bool b) ∧ (b = true ↔ (r = [] ∨ r = ml.hdr ∨ r = ml.txt))) ∧ w' = W) := fun W => by
    have := ml.isPart_any ⟨r.toArray⟩ W
    rwa [show (⟨r.toArray⟩ : ByteArray).data.toList = r from by simp] at this
  have HL2 : Hid (b2.Box (w1.drewN n) w.heap.size 63 (.string ⟨#[]⟩) (.string ⟨#[]⟩)) := HL1.out
  have HB2 : Hid (Below w.heap.size w (w1.drewN n)) := below_drewN HB1.out n
  have hus : (⟨u.toArray⟩ : ByteArray).size ≤ 1048576 := by rw [Lib.size_eq]; exact hul
  have hrs : (⟨r.toArray⟩ : ByteArray).size ≤ 1048576 := by rw [Lib.size_eq]; exact hrl
  clear hc hul hrl HS HC HY HNO hcut HL1 HB1
  generalize w1.drewN n = w2 at HL2 HB2 ⊢
  have c0 := HL2.out.c0
  have c1 := HL2.out.c1
  have f0 := HL2.out.f 0
  have f1 := HL2.out.f 1
  have HYg := HYu
  have HNg := HNu
  have HPg := HP
  clear HYu HNu HP
  generalize hUB : (⟨u.toArray⟩ : ByteArray) = UB2 at HYg HNg q1 q2 hus ⊢
  generalize hRB : (⟨r.toArray⟩ : ByteArray) = RB at HYg HNg HPg hrs ⊢
  clear hUB hRB
  by_cases n1 : u = kBo
  · have HNB : Hid (u = kBo ∨ u = kPk) := .inl n1
    rw [decide_eq_true n1] at q1
    rw [decide_eq_false (by rw [n1]; decide)] at q2
    clear n1
    cases cl with
    | false =>
      have HR : Hid (ItRet s (.returned (.tuple #[.agg #[.string UB2, .string RB], .bool false]))) := HNg.out (fun y => by cases y.1)
      clear HYg HNg
      clear HPg
      go_wp2
      have L4 := HL2.out.put (a' := .string UB2) (b' := .string RB)
      have b4 := b2.put_below (a := .string UB2) (b := .string RB) HB2.out (Nat.le_refl _)
      clear c0 c1 f0 f1
      unfold b2.put at L4 b4
      generalize hX : World.setCell _ _ _ = X at L4 b4 ⊢
      clear hX
      have c0 := L4.c0
      have c1 := L4.c1
      refine bodyPost_ret (v := .tuple #[.agg #[.string UB2, .string RB], .bool false]) (by simp [results, Tryz.results35, go_sem, c0, c1]) rfl ⟨HR.out, b4⟩
    | true =>
      cases Bo with
      | false =>
        have HR : Hid (ItRet s (.returned (.tuple #[.agg #[.string UB2, .string RB], .bool false]))) := HNg.out (fun y => by cases y.2.1)
        clear HYg HNg
        clear HPg
        go_wp2
        have L4 := HL2.out.put (a' := .string UB2) (b' := .string RB)
        have b4 := b2.put_below (a := .string UB2) (b := .string RB) HB2.out (Nat.le_refl _)
        clear c0 c1 f0 f1
        unfold b2.put at L4 b4
        generalize hX : World.setCell _ _ _ = X at L4 b4 ⊢
        clear hX
        have c0 := L4.c0
        have c1 := L4.c1
        refine bodyPost_ret (v := .tuple #[.agg #[.string UB2, .string RB], .bool false]) (by simp [results, Tryz.results35, go_sem, c0, c1]) rfl ⟨HR.out, b4⟩
      | true =>
        by_cases hr0 : r = [] ∨ r = ml.hdr ∨ r = ml.txt
        · have HR0 : Hid (r = [] ∨ r = ml.hdr ∨ r = ml.txt) := hr0
          clear hr0
          have HP1 : Hid (∀ W, Calls Tryz.prog 62 #[.string RB] W fun e w' => e = .returned (.bool true) ∧ w' = W) := fun W => (HPg.out W).mono fun e w' ⟨⟨bb, he, hb⟩, hw⟩ => ⟨by rw [he]; congr 2; exact hb.2 HR0.out, hw⟩
          clear HPg
          have HR : Hid (ItRet s (.returned (.tuple #[.agg #[.string UB2, .string RB], .bool true]))) := HYg.out ⟨rfl, rfl, HNB.out, HR0.out⟩
          clear HYg HNg
          go_wp2_with (go_at_call 62; refine (HP1.out _).mono ?_; rintro e w' ⟨rfl, rfl⟩)
          have L4 := HL2.out.put (a' := .string UB2) (b' := .string RB)
          have b4 := b2.put_below (a := .string UB2) (b := .string RB) HB2.out (Nat.le_refl _)
          clear c0 c1 f0 f1
          unfold b2.put at L4 b4
          generalize hX : World.setCell _ _ _ = X at L4 b4 ⊢
          clear hX
          have c0 := L4.c0
          have c1 := L4.c1
          refine bodyPost_ret (v := .tuple #[.agg #[.string UB2, .string RB], .bool true]) (by simp [results, Tryz.results35, go_sem, c0, c1]) rfl ⟨HR.out, b4⟩
        · have HR0 : Hid (¬ (r = [] ∨ r = ml.hdr ∨ r = ml.txt)) := hr0
          clear hr0
          have HP1 : Hid (∀ W, Calls Tryz.prog 62 #[.string RB] W fun e w' => e = .returned (.bool false) ∧ w' = W) := fun W => (HPg.out W).mono fun e w' ⟨⟨bb, he, hb⟩, hw⟩ => ⟨by rw [he]; congr 2; exact Bool.eq_false_iff.2 fun y => HR0.out (hb.1 y), hw⟩
          clear HPg
          have HR : Hid (ItRet s (.returned (.tuple #[.agg #[.string UB2, .string RB], .bool false]))) := HNg.out (fun y => HR0.out y.2.2.2)
          clear HYg HNg
          go_wp2_with (go_at_call 62; refine (HP1.out _).mono ?_; rintro e w' ⟨rfl, rfl⟩)
          have L4 := HL2.out.put (a' := .string UB2) (b' := .string RB)
          have b4 := b2.put_below (a := .string UB2) (b := .string RB) HB2.out (Nat.le_refl _)
          clear c0 c1 f0 f1
          unfold b2.put at L4 b4
          generalize hX : World.setCell _ _ _ = X at L4 b4 ⊢
          clear hX
          have c0 := L4.c0
          have c1 := L4.c1
          refine bodyPost_ret (v := .tuple #[.agg #[.string UB2, .string RB], .bool false]) (by simp [results, Tryz.results35, go_sem, c0, c1]) rfl ⟨HR.out, b4⟩
  by_cases n2 : u = kPk
  · have HNB : Hid (u = kBo ∨ u = kPk) := .inr n2
    rw [decide_eq_false n1] at q1
    rw [decide_eq_true n2] at q2
    clear n1 n2
    cases cl with
    | false =>
      have HR : Hid (ItRet s (.returned (.tuple #[.agg #[.string UB2, .string RB], .bool false]))) := HNg.out (fun y => by cases y.1)
      clear HYg HNg
      clear HPg
      go_wp2
      have L4 := HL2.out.put (a' := .string UB2) (b' := .string RB)
      have b4 := b2.put_below (a := .string UB2) (b := .string RB) HB2.out (Nat.le_refl _)
      clear c0 c1 f0 f1
      unfold b2.put at L4 b4
      generalize hX : World.setCell _ _ _ = X at L4 b4 ⊢
      clear hX
      have c0 := L4.c0
      have c1 := L4.c1
      refine bodyPost_ret (v := .tuple #[.agg #[.string UB2, .string RB], .bool false]) (by simp [results, Tryz.results35, go_sem, c0, c1]) rfl ⟨HR.out, b4⟩
    | true =>
      cases Bo with
      | false =>
        have HR : Hid (ItRet s (.returned (.tuple #[.agg #[.string UB2, .string RB], .bool false]))) := HNg.out (fun y => by cases y.2.1)
        clear HYg HNg
        clear HPg
        go_wp2
        have L4 := HL2.out.put (a' := .string UB2) (b' := .string RB)
        have b4 := b2.put_below (a := .string UB2) (b := .string RB) HB2.out (Nat.le_refl _)
        clear c0 c1 f0 f1
        unfold b2.put at L4 b4
        generalize hX : World.setCell _ _ _ = X at L4 b4 ⊢
        clear hX
        have c0 := L4.c0
        have c1 := L4.c1
        refine bodyPost_ret (v := .tuple #[.agg #[.string UB2, .string RB], .bool false]) (by simp [results, Tryz.results35, go_sem, c0, c1]) rfl ⟨HR.out, b4⟩
      | true =>
        by_cases hr0 : r = [] ∨ r = ml.hdr ∨ r = ml.txt
        · have HR0 : Hid (r = [] ∨ r = ml.hdr ∨ r = ml.txt) := hr0
          clear hr0
          have HP1 : Hid (∀ W, Calls Tryz.prog 62 #[.string RB] W fun e w' => e = .returned (.bool true) ∧ w' = W) := fun W => (HPg.out W).mono fun e w' ⟨⟨bb, he, hb⟩, hw⟩ => ⟨by rw [he]; congr 2; exact hb.2 HR0.out, hw⟩
          clear HPg
          have HR : Hid (ItRet s (.returned (.tuple #[.agg #[.string UB2, .string RB], .bool true]))) := HYg.out ⟨rfl, rfl, HNB.out, HR0.out⟩
          clear HYg HNg
          go_wp2_with (go_at_call 62; refine (HP1.out _).mono ?_; rintro e w' ⟨rfl, rfl⟩)
          have L4 := HL2.out.put (a' := .string UB2) (b' := .string RB)
          have b4 := b2.put_below (a := .string UB2) (b := .string RB) HB2.out (Nat.le_refl _)
          clear c0 c1 f0 f1
          unfold b2.put at L4 b4
          generalize hX : World.setCell _ _ _ = X at L4 b4 ⊢
          clear hX
          have c0 := L4.c0
          have c1 := L4.c1
          refine bodyPost_ret (v := .tuple #[.agg #[.string UB2, .string RB], .bool true]) (by simp [results, Tryz.results35, go_sem, c0, c1]) rfl ⟨HR.out, b4⟩
        · have HR0 : Hid (¬ (r = [] ∨ r = ml.hdr ∨ r = ml.txt)) := hr0
          clear hr0
          have HP1 : Hid (∀ W, Calls Tryz.prog 62 #[.string RB] W fun e w' => e = .returned (.bool false) ∧ w' = W) := fun W => (HPg.out W).mono fun e w' ⟨⟨bb, he, hb⟩, hw⟩ => ⟨by rw [he]; congr 2; exact Bool.eq_false_iff.2 fun y => HR0.out (hb.1 y), hw⟩
          clear HPg
          have HR : Hid (ItRet s (.returned (.tuple #[.agg #[.string UB2, .string RB], .bool false]))) := HNg.out (fun y => HR0.out y.2.2.2)
          clear HYg HNg
          go_wp2_with (go_at_call 62; refine (HP1.out _).mono ?_; rintro e w' ⟨rfl, rfl⟩)
          have L4 := HL2.out.put (a' := .string UB2) (b' := .string RB)
          have b4 := b2.put_below (a := .string UB2) (b := .string RB) HB2.out (Nat.le_refl _)
          clear c0 c1 f0 f1
          unfold b2.put at L4 b4
          generalize hX : World.setCell _ _ _ = X at L4 b4 ⊢
          clear hX
          have c0 := L4.c0
          have c1 := L4.c1
          refine bodyPost_ret (v := .tuple #[.agg #[.string UB2, .string RB], .bool false]) (by simp [results, Tryz.results35, go_sem, c0, c1]) rfl ⟨HR.out, b4⟩
  · have HNB : Hid (¬ (u = kBo ∨ u = kPk)) := fun y => by rcases y with y | y; exact n1 y; exact n2 y
    rw [decide_eq_false n1] at q1
    rw [decide_eq_false n2] at q2
    clear n1 n2
    cases cl with
    | false =>
      have HR : Hid (ItRet s (.returned (.tuple #[.agg #[.string UB2, .string RB], .bool false]))) := HNg.out (fun y => by cases y.1)
      clear HYg HNg
      clear HPg
      go_wp2
      have L4 := HL2.out.put (a' := .string UB2) (b' := .string RB)
      have b4 := b2.put_below (a := .string UB2) (b := .string RB) HB2.out (Nat.le_refl _)
      clear c0 c1 f0 f1
      unfold b2.put at L4 b4
      generalize hX : World.setCell _ _ _ = X at L4 b4 ⊢
      clear hX
      have c0 := L4.c0
      have c1 := L4.c1
      refine bodyPost_ret (v := .tuple #[.agg #[.string UB2, .string RB], .bool false]) (by simp [results, Tryz.results35, go_sem, c0, c1]) rfl ⟨HR.out, b4⟩
    | true =>
      cases Bo with
      | false =>
        have HR : Hid (ItRet s (.returned (.tuple #[.agg #[.string UB2, .string RB], .bool false]))) := HNg.out (fun y => by cases y.2.1)
        clear HYg HNg
        clear HPg
        go_wp2
        have L4 := HL2.out.put (a' := .string UB2) (b' := .string RB)
        have b4 := b2.put_below (a := .string UB2) (b := .string RB) HB2.out (Nat.le_refl _)
        clear c0 c1 f0 f1
        unfold b2.put at L4 b4
        generalize hX : World.setCell _ _ _ = X at L4 b4 ⊢
        clear hX
        have c0 := L4.c0
        have c1 := L4.c1
        refine bodyPost_ret (v := .tuple #[.agg #[.string UB2, .string RB], .bool false]) (by simp [results, Tryz.results35, go_sem, c0, c1]) rfl ⟨HR.out, b4⟩
      | true =>
        have HR : Hid (ItRet s (.returned (.tuple #[.agg #[.string UB2, .string RB], .bool false]))) := HNg.out (fun y => HNB.out y.2.2.1)
        clear HYg HNg
        clear HPg
        go_wp2
        have L4 := HL2.out.put (a' := .string UB2) (b' := .string RB)
        have b4 := b2.put_below (a := .string UB2) (b := .string RB) HB2.out (Nat.le_refl _)
        clear c0 c1 f0 f1
        unfold b2.put at L4 b4
        generalize hX : World.setCell _ _ _ = X at L4 b4 ⊢
        clear hX
        have c0 := L4.c0
        have c1 := L4.c1
        refine bodyPost_ret (v := .tuple #[.agg #[.string UB2, .string RB], .bool false]) (by simp [results, Tryz.results35, go_sem, c0, c1]) rfl ⟨HR.out, b4⟩

end Go.Proofs.YtbokolpjdaamiaaGreatDoor.fq
