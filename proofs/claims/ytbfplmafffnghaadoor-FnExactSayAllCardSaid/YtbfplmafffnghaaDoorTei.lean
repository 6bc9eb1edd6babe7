/-
  A command taken off a buffer: the program's way, at any buffer of at most 65536 bytes.
-/
import Derived.Test.YtbfplmafffnghaaDoorTep
import Derived.Test.YtbfplmafffnghaaDoorLii
import Derived.Deep.RegionWith
namespace Go.Proofs.YtbfplmafffnghaaDoor.te
open Go.RowKit
open nu li
set_option linter.unusedVariables false

theorem below_drewN2 {B : Nat} {a w : World} (h : Below B a w) (n : Nat) : Below B a (w.drewN n) := ⟨h.os, h.tape, h.output, h.size, h.block⟩
theorem mx_keep {w w' : World} {m : Int} (h : w.cell? ⟨0, 0, none⟩ = some (.int .i64 m)) (hb : Below w.heap.size w w') : w'.cell? ⟨0, 0, none⟩ = some (.int .i64 m) := (hb.cell (p := ⟨0, 0, none⟩) (World.block_lt_of_cell? w _ h)).trans h

set_option maxHeartbeats 4000000 in
set_option maxRecDepth 100000 in
theorem endOf_any (s : ByteArray) (hs : s.size ≤ 65536) (w : World) (m : Int) (hm : w.cell? ⟨0, 0, none⟩ = some (.int .i64 m)) (hS : cn.Sents w) (hT : tb.TP w) :
    Calls Tryd.prog 22 #[.string s] w fun e w' => (∃ (v : Nat) (code : Int), e = .returned (.tuple #[.int .i64 v, .int .i64 code]) ∧ EndIs s.data.toList v code) ∧ Below w.heap.size w w' := by
  have hlen : s.data.toList.length = s.size := (Lib.size_eq s).symm
  have hX : ∃ X : ByteArray, X = s.extract 0 (min (s.size : Int) 4002).toNat ∧ X.data.toList = s.data.toList.take 4002 ∧ X.size ≤ 4002 ∧ X.size ≤ s.size ∧ (s.size ≤ 4002 → X.size = s.size) ∧ (4002 ≤ s.size → X.size = 4002) := by
    refine ⟨_, rfl, ?_, ?_, ?_, ?_, ?_⟩
    · rw [← Lib.toList_data (s.extract 0 _), Lib.extract_toList, List.drop_zero]
      rcases Nat.le_total s.size 4002 with g | g
      · rw [show (min (s.size : Int) 4002).toNat - 0 = s.size by omega, List.take_of_length_le (by omega), List.take_of_length_le (by omega)]
      · rw [show (min (s.size : Int) 4002).toNat - 0 = 4002 by omega]
    all_goals (try intro); rw [ByteArray.size_extract]; omega
  obtain ⟨X, hXe, hXl, hX1, hX2, hX3, hX4⟩ := hX
  have HW : Hid (s.data.toList.take 4002 = X.data.toList) := hXl.symm
  have HXX : Hid (s.extract 0 (min (s.size : Int) 4002).toNat = X) := hXe.symm
  have HLE : Hid (s.data.toList.length = s.size ∧ (s.size ≤ 4002 → X.size = s.size) ∧ (4002 ≤ s.size → X.size = 4002)) := ⟨hlen, hX3, hX4⟩
  have HENV : Hid (∀ W, Below w.heap.size w W → W.cell? ⟨0, 0, none⟩ = some (.int .i64 m) ∧ cn.Sents W ∧ tb.TP W) := fun W hW => ⟨mx_keep hm hW, cn.sents_keep hS hW, tb.keep' hT hW⟩
  have hb : ¬ (65536 : Int) < (s.size : Int) := by omega
  have c0 : (0 : Int) ≤ (s.size : Int) := by omega
  clear hm hS hT hXe hXl hX3 hX4 hlen
  go_enter Tryd.func22, Tryd.ntmps22
  go_wp2_with fail
  rw [HXX.out]
  go_loopw [5] (fun v wr => ∃ f : Nat, v = .int .i64 f ∧ f ≤ 4000 ∧ Lk X.data.toList f ∧ Below w.heap.size w wr) (fun v _ => 4001 - (intOf v).toNat)
  case atStart => exact ⟨0, rfl, by omega, lk_zero _, Below.refl _ _⟩
  case round =>
    obtain ⟨f, rfl, hf, hlk, hbw⟩ := hrel
    have HLK : Hid (Lk X.data.toList f) := hlk
    have HBW : Hid (Below w.heap.size w wr) := hbw
    have hf0 : (0 : Int) ≤ (f : Int) := by omega
    have NONE : Hid (Lib.index (X.data.toList.drop f) [13, 10] = -1 → ∀ v code, v = 0 → ((4002 < s.size ∧ code = 4) ∨ (s.size ≤ 4002 ∧ code = 18)) → EndIs s.data.toList v code) := fun h v code hv hc => by
      obtain ⟨k, hk⟩ := lk_none HLK.out h
      rw [← HW.out] at hk
      refine ⟨-1, 0, ⟨k, hk⟩, ?_⟩
      rw [HLE.out.1]
      rcases hc with ⟨a, b⟩ | ⟨a, b⟩
      · exact .inr (.inr (.inl ⟨rfl, hv, a, b⟩))
      · exact .inr (.inr (.inr ⟨rfl, hv, a, b⟩))
    clear hlk hbw
    by_cases hle : f ≤ X.size
    · have hle' : (f : Int) ≤ (X.size : Int) := by omega
      have hled : decide ((f : Int) ≤ (X.size : Int)) = true := decide_eq_true hle'
      have hsl := ow.slice_str (P := Tryd.prog) 9 X .i64 .i64 f X.size Tryd.underlying9 (f : Int) (X.size : Int) rfl rfl hle (Nat.le_refl _)
      have hYl : (X.extract f X.size).data.toList = X.data.toList.drop f := Lib.extract_to_end X f
      have hYs : (X.extract f X.size).size ≤ 4002 := by rw [ByteArray.size_extract]; omega
      have HC0 := fun W hW => Tryd.strings_Cut (X.extract f X.size) ⟨#[13, 10]⟩ m W (by omega) (HENV.out W hW).1
      rw [show (⟨#[13, 10]⟩ : ByteArray).data.toList = [13, 10] from rfl, hYl] at HC0
      rcases Lib.index_spec (X.data.toList.drop f) [13, 10] with ⟨hi, _⟩ | ⟨i, hi, _⟩
      · rw [cut_no hi] at HC0
        have HC : Hid (∀ W, Below w.heap.size w W → ∃ y, Calls Tryd.prog 24 #[.string (X.extract f X.size), .string ⟨#[13, 10]⟩] W fun e w' => e = .returned (.tuple #[.string y, .string ⟨#[]⟩, .bool false]) ∧ ∃ n, w' = W.drewN n) := fun W hW => ⟨_, HC0 W hW⟩
        have HI : Hid (Lib.index (X.data.toList.drop f) [13, 10] = -1) := hi
        clear HC0 hYl hYs hi
        obtain ⟨y, hcut⟩ := HC.out wr HBW.out
        have HCC : Hid (Calls Tryd.prog 24 #[.string (X.extract f X.size), .string ⟨#[13, 10]⟩] wr fun e w' => e = .returned (.tuple #[.string y, .string ⟨#[]⟩, .bool false]) ∧ ∃ n, w' = wr.drewN n) := hcut
        clear hcut HC
        go_wp2_with fail
        refine HCC.out.mono ?_
        rintro e w1 ⟨rfl, n, rfl⟩
        clear HCC
        by_cases hbig : 4002 < s.size
        · have d1 : (X.size : Int) < (s.size : Int) := by have := HLE.out.2.2 (by omega); omega
          have HR : Hid (EndIs s.data.toList 0 4) := NONE.out HI.out 0 4 rfl (.inl ⟨hbig, rfl⟩)
          clear hbig NONE
          go_wp2
          go_ret2
          exact ⟨⟨0, 4, rfl, HR.out⟩, below_drewN2 HBW.out n⟩
        · have d1 : ¬ (X.size : Int) < (s.size : Int) := by have := HLE.out.2.1 (by omega); omega
          have d2 : decide ((X.size : Int) < (s.size : Int)) = false := decide_eq_false d1
          have HR : Hid (EndIs s.data.toList 0 18) := NONE.out HI.out 0 18 rfl (.inr ⟨by omega, rfl⟩)
          clear hbig NONE
          go_wp2
          go_ret2
          exact ⟨⟨0, 18, rfl, HR.out⟩, below_drewN2 HBW.out n⟩
      · rw [cut_yes hi] at HC0
        have hroom := idx_room hi
        rw [show X.data.toList.length = X.size from (Lib.size_eq X).symm] at hroom
        have hUs : (⟨((X.data.toList.drop f).take i).toArray⟩ : ByteArray).size = i := by
          show (((X.data.toList.drop f).take i).toArray).size = i
          rw [List.size_toArray, List.length_take, List.length_drop, show X.data.toList.length = X.size from (Lib.size_eq X).symm]
          omega
        have hUl : (⟨((X.data.toList.drop f).take i).toArray⟩ : ByteArray).data.toList = (X.data.toList.drop f).take i := by simp
        have HA0 := fun W hW => atEnd_any ⟨((X.data.toList.drop f).take i).toArray⟩ W (by rw [hUs]; omega) (HENV.out W hW).2.1 (HENV.out W hW).2.2
        rw [hUl] at HA0
        have HC : Hid (∀ W, Below w.heap.size w W → ∃ y, Calls Tryd.prog 24 #[.string (X.extract f X.size), .string ⟨#[13, 10]⟩] W fun e w' => e = .returned (.tuple #[.string ⟨((X.data.toList.drop f).take i).toArray⟩, .string y, .bool true]) ∧ ∃ n, w' = W.drewN n) := fun W hW => ⟨_, HC0 W hW⟩
        have HA : Hid (∀ W, Below w.heap.size w W → Calls Tryd.prog 25 #[.string ⟨((X.data.toList.drop f).take i).toArray⟩] W fun e w' => LR (LitIs ((X.data.toList.drop f).take i)) e ∧ Below W.heap.size W w') := HA0
        have HI : Hid (Lib.index (X.data.toList.drop f) [13, 10] = i) := hi
        have hUi : ((⟨((X.data.toList.drop f).take i).toArray⟩ : ByteArray).size : Int) = (i : Int) := by rw [hUs]
        generalize (⟨((X.data.toList.drop f).take i).toArray⟩ : ByteArray) = U at HC HA hUi
        clear HC0 hYl hYs hi hUs hUl HA0 NONE
        obtain ⟨y, hcut⟩ := HC.out wr HBW.out
        have HCC : Hid (Calls Tryd.prog 24 #[.string (X.extract f X.size), .string ⟨#[13, 10]⟩] wr fun e w' => e = .returned (.tuple #[.string U, .string y, .bool true]) ∧ ∃ n, w' = wr.drewN n) := hcut
        have hi0 : (i : Int) ≤ 4002 := by omega
        have hf4 : (f : Int) ≤ 4000 := by omega
        have HFF : Hid (f ≤ 4000) := hf
        clear hcut HC hroom
        go_wp2_with fail
        refine HCC.out.mono ?_
        rintro e w1 ⟨rfl, n, rfl⟩
        have HB1 : Hid (Below w.heap.size w (wr.drewN n)) := below_drewN2 HBW.out n
        clear HCC
        go_wp2_with fail
        refine (HA.out _ HB1.out).mono ?_
        rintro e w2 ⟨⟨v, B, rfl, hg⟩, b2⟩
        have HB2 : Hid (Below w.heap.size w w2) := HB1.out.trans (b2.mono HB1.out.size)
        clear HA b2 HB1
        rcases hg with ⟨rfl, z, rfl, hz⟩ | ⟨rfl, hz⟩
        · have hzs : (z : Int) < 1000000 := by have := lit_small hz; omega
          have HZ : Hid (LitIs ((X.data.toList.drop f).take i) z) := hz
          clear hz
          by_cases hfar : 4000 < f + i + 2 + z
          · have d1 : (4000 : Int) < (f : Int) + (i : Int) + 2 + (z : Int) := by omega
            have HR : Hid (EndIs s.data.toList 0 4) := by
              obtain ⟨k, hk⟩ := lk_far HLK.out HI.out HZ.out hfar
              rw [← HW.out] at hk
              exact ⟨4, 0, ⟨k, hk⟩, .inr (.inl ⟨rfl, rfl, rfl⟩)⟩
            clear hfar
            go_wp2
            go_ret2
            exact ⟨⟨0, 4, rfl, HR.out⟩, HB2.out⟩
          · have d1 : ¬ (4000 : Int) < (f : Int) + (i : Int) + 2 + (z : Int) := by omega
            have d2 : decide ((4000 : Int) < (f : Int) + (i : Int) + 2 + (z : Int)) = false := decide_eq_false d1
            have HNX : Hid (Lk X.data.toList (f + i + 2 + z)) := lk_next HLK.out HI.out HZ.out (by omega)
            have HFZ : Hid (f + i + 2 + z ≤ 4000) := (show f + i + 2 + z ≤ 4000 by omega)
            clear hfar
            go_wp2
            go_roundw
            case rel => exact ⟨f + i + 2 + z, by go_num, HFZ.out, HNX.out, HB2.out⟩
            case measure => have := HFZ.out; have := HFF.out; first | (simp [intOf]; done) | (simp [intOf]; omega)
        · have HR : Hid (EndIs s.data.toList (f + i) 0) := by
            obtain ⟨k, hk⟩ := lk_ok HLK.out HI.out hz
            rw [← HW.out] at hk
            exact ⟨0, f + i, ⟨k, hk⟩, .inl ⟨rfl, rfl, rfl⟩⟩
          clear hz
          go_wp2
          go_ret2
          exact ⟨⟨f + i, 0, by first | rfl | (congr 4), HR.out⟩, HB2.out⟩
    · have hle' : ¬ (f : Int) ≤ (X.size : Int) := by omega
      have hled : decide ((f : Int) ≤ (X.size : Int)) = false := decide_eq_false hle'
      have HI : Hid (Lib.index (X.data.toList.drop f) [13, 10] = -1) := by rw [List.drop_eq_nil_of_le (by rw [← Lib.size_eq]; omega)]; rfl
      by_cases hbig : 4002 < s.size
      · have d1 : (X.size : Int) < (s.size : Int) := by have := HLE.out.2.2 (by omega); omega
        have HR : Hid (EndIs s.data.toList 0 4) := NONE.out HI.out 0 4 rfl (.inl ⟨hbig, rfl⟩)
        clear hbig NONE
        go_wp2
        go_ret2
        exact ⟨⟨0, 4, rfl, HR.out⟩, HBW.out⟩
      · have d1 : ¬ (X.size : Int) < (s.size : Int) := by have := HLE.out.2.1 (by omega); omega
        have d2 : decide ((X.size : Int) < (s.size : Int)) = false := decide_eq_false d1
        have HR : Hid (EndIs s.data.toList 0 18) := NONE.out HI.out 0 18 rfl (.inr ⟨by omega, rfl⟩)
        clear hbig NONE
        go_wp2
        go_ret2
        exact ⟨⟨0, 18, rfl, HR.out⟩, HBW.out⟩
end Go.Proofs.YtbfplmafffnghaaDoor.te
