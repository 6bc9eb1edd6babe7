/-
  A command taken off a buffer: the specification's way.
-/
import Derived.Test.YtbfplmafffnghaaDoorTet
import Derived.Test.YtbfplmafffnghaaDoorLis
namespace Go.Proofs.YtbfplmafffnghaaDoor.te
open Go.RowKit
open nu li
set_option linter.unusedVariables false

theorem piece_win {l : List UInt8} {f k : Nat} (hk : k ≤ 4002) : ((l.take 4002).drop f).take (k - f) = (l.drop f).take (k - f) := by
  rw [List.drop_take, List.take_take, show min (k - f) (4002 - f) = k - f by omega]
theorem cr_win {l : List UInt8} {j : Nat} (h : CR (l.take 4002) j) : j ≤ 4000 ∧ CR l j := by
  have := cr_len h
  rw [List.length_take] at this
  exact ⟨by omega, (cr_take (by omega)).1 h⟩
/-- Where the reader is. -/
def At (l : List UInt8) (f k : Nat) : Prop := (∀ j, f ≤ j → j < k → ¬ CR l j) ∧ ((f ≤ 4000 ∧ Lk (l.take 4002) f) ∨ (4000 < f ∧ k = f ∧ ∃ n, Tk n (l.take 4002) 0 4 0))
theorem at_far {l : List UInt8} {f k : Nat} (h : At l f k) (h4 : 4000 < k) (hk : k + 1 < l.length) : EndIs l 0 4 := by
  rcases h with ⟨hn, ⟨hf, hl⟩ | ⟨_, _, n, ht⟩⟩
  · have hi := idx_no (w := l.take 4002) (f := f) fun j hj y => by
      obtain ⟨y1, y2⟩ := cr_win y
      exact hn j hj (by omega) y2
    obtain ⟨n, ht⟩ := lk_none hl hi
    exact ⟨-1, 0, ⟨n, ht⟩, .inr (.inr (.inl ⟨rfl, rfl, by omega, rfl⟩))⟩
  · exact ⟨4, 0, ⟨n, ht⟩, .inr (.inl ⟨rfl, rfl, rfl⟩)⟩
theorem at_end {l : List UInt8} {f k : Nat} (h : At l f k) (hk : l.length ≤ k + 1) : (4002 < l.length ∨ 4000 < f → EndIs l 0 4) ∧ (l.length ≤ 4002 → f ≤ 4000 → EndIs l 0 18) := by
  rcases h with ⟨hn, ⟨hf, hl⟩ | ⟨g, _, n, ht⟩⟩
  · have hi := idx_no (w := l.take 4002) (f := f) fun j hj y => by
      have y1 := cr_win y
      have := cr_len y1.2
      exact hn j hj (by omega) y1.2
    obtain ⟨n, ht⟩ := lk_none hl hi
    exact ⟨fun h => ⟨-1, 0, ⟨n, ht⟩, .inr (.inr (.inl ⟨rfl, rfl, by omega, rfl⟩))⟩, fun h _ => ⟨-1, 0, ⟨n, ht⟩, .inr (.inr (.inr ⟨rfl, rfl, h, rfl⟩))⟩⟩
  · exact ⟨fun _ => ⟨4, 0, ⟨n, ht⟩, .inr (.inl ⟨rfl, rfl, rfl⟩)⟩, fun _ h => by omega⟩
theorem at_next {l : List UInt8} {f k : Nat} (h : At l f k) (hk : k ≤ 4000) (hc : ¬ CR l k) (hf : f ≤ k) : At l f (k + 1) := by
  refine ⟨fun j h1 h2 => ?_, ?_⟩
  · by_cases e : j = k
    · subst e; exact hc
    · exact h.1 j h1 (by omega)
  · rcases h.2 with h | h
    · exact .inl h
    · omega
theorem at_hit {l : List UInt8} {f k : Nat} (h : At l f k) (hk : k ≤ 4000) (hf : f ≤ k) (hc : CR l k) : Lib.index ((l.take 4002).drop f) [13, 10] = ((k - f : Nat) : Int) ∧ Lk (l.take 4002) f := by
  constructor
  · refine idx_here hf (fun j h1 h2 y => h.1 j h1 h2 (cr_win y).2) ((cr_take (by omega)).2 hc)
  · rcases h.2 with h | h
    · exact h.2
    · omega
theorem at_ok {l : List UInt8} {f k : Nat} (h : At l f k) (hk : k ≤ 4000) (hf : f ≤ k) (hc : CR l k) (hn : ∀ n, ¬ LitIs ((l.drop f).take (k - f)) n) : EndIs l k 0 := by
  obtain ⟨hi, hl⟩ := at_hit h hk hf hc
  obtain ⟨n, ht⟩ := lk_ok hl hi (by rw [piece_win (by omega)]; exact hn)
  rw [show f + (k - f) = k by omega] at ht
  exact ⟨0, k, ⟨n, ht⟩, .inl ⟨rfl, rfl, rfl⟩⟩
theorem at_more {l : List UInt8} {f k n : Nat} (h : At l f k) (hk : k ≤ 4000) (hf : f ≤ k) (hc : CR l k) (hn : LitIs ((l.drop f).take (k - f)) n) : (4000 < n → EndIs l 0 4) ∧ At l (k + 2 + n) (k + 2 + n) := by
  obtain ⟨hi, hl⟩ := at_hit h hk hf hc
  have hn' : LitIs (((l.take 4002).drop f).take (k - f)) n := by rw [piece_win (by omega)]; exact hn
  have hfar : 4000 < k + 2 + n → ∃ z, Tk z (l.take 4002) 0 4 0 := fun g => lk_far hl hi hn' (by omega)
  refine ⟨fun g => ?_, fun j h1 h2 => by omega, ?_⟩
  · obtain ⟨z, hz⟩ := hfar (by omega)
    exact ⟨4, 0, ⟨z, hz⟩, .inr (.inl ⟨rfl, rfl, rfl⟩)⟩
  · by_cases g : k + 2 + n ≤ 4000
    · have := lk_next hl hi hn' (by omega)
      rw [show f + (k - f) + 2 + n = k + 2 + n by omega] at this
      exact .inl ⟨g, this⟩
    · exact .inr ⟨by omega, rfl, hfar (by omega)⟩

set_option maxHeartbeats 8000000 in
set_option maxRecDepth 100000 in
theorem take_spec (s : ByteArray) (hs : s.size ≤ 1048576) (w : World) :
    Calls Tryd.prog 11 #[.string s] w fun e w' => TakeRet s.data.toList e ∧ Below w.heap.size w w' := by
  have HLEN : Hid (s.data.toList.length = s.size) := (Lib.size_eq s).symm
  go_enter Tryd.func11, Tryd.ntmps11
  go_wp2
  go_loopw [5, 6] (fun a b wr => ∃ f k : Nat, a = .int .i64 f ∧ b = .int .i64 k ∧ f ≤ k ∧ k ≤ s.size + 5004 ∧ At s.data.toList f k ∧ Below w.heap.size w wr) (fun _ b _ => s.size - (intOf b).toNat)
  case atStart => exact ⟨0, 0, rfl, rfl, Nat.le_refl _, by omega, ⟨fun j _ h => by omega, .inl ⟨by omega, lk_zero _⟩⟩, Below.refl _ _⟩
  case round =>
    obtain ⟨f, k, rfl, rfl, hfk, hkb, hat, hbw⟩ := hrel
    have HAT : Hid (At s.data.toList f k) := hat
    have HBW : Hid (Below w.heap.size w wr) := hbw
    have f0 : (0 : Int) ≤ (f : Int) := by omega
    have k0 : (0 : Int) ≤ (k : Int) := by omega
    have fk : (f : Int) ≤ (k : Int) := by omega
    clear hat hbw
    by_cases hk : k + 1 < s.size
    · have hk1 : (k : Int) + 1 < (s.size : Int) := by omega
      have hk1d : decide ((k : Int) + 1 < (s.size : Int)) = true := decide_eq_true hk1
      by_cases h4 : 4000 < k
      · have h4' : (4000 : Int) < (k : Int) := by omega
        have HR : Hid (EndIs s.data.toList 0 4) := at_far HAT.out h4 (by rw [HLEN.out]; exact hk)
        clear hk h4
        go_wp2
        go_ret3
        exact ⟨⟨0, 4, HR.out, .inr ⟨by decide, by first | (rw [txt_self s]; done) | (rw [txt_self s]; rfl)⟩⟩, HBW.out⟩
      have h4' : ¬ (4000 : Int) < (k : Int) := by omega
      have h4d : decide ((4000 : Int) < (k : Int)) = false := decide_eq_false h4'
      have hkl : k < s.size := by omega
      have hB1 := byte_at s k hkl
      have hB2 := byte_at s (k + 1) hk
      have hix : ∀ wx : World, (Instr.index 9 (.string s) (.int .i64 (k : Int))).run Tryd.prog wx = .ok (.int .u8 ((s[k]'hkl).toNat : Int)) wx := fun wx => by
        rw [run_index_string wx 9 s .i64 (k : Int) Tryd.underlying9, dif_pos ⟨by omega, by omega⟩]
        rfl
      have hiy : ∀ wx : World, (Instr.index 9 (.string s) (.int .i64 ((k : Int) + 1))).run Tryd.prog wx = .ok (.int .u8 ((s[k + 1]'hk).toNat : Int)) wx := fun wx => by
        rw [show ((k : Int) + 1) = ((k + 1 : Nat) : Int) by omega, run_index_string wx 9 s .i64 ((k + 1 : Nat) : Int) Tryd.underlying9, dif_pos ⟨by omega, by omega⟩]
        rfl
      generalize s[k]'hkl = x at hix hB1
      generalize s[k + 1]'hk = y at hiy hB2
      have HKS : Hid (k + 1 < s.size ∧ k ≤ 4000 ∧ f ≤ k) := ⟨hk, by omega, hfk⟩
      by_cases hx : x.toNat = 13
      rotate_left
      · have dx : ((x.toNat : Int) != 13) = true := by rw [bne_iff_ne]; omega
        have HN : Hid (At s.data.toList f (k + 1)) := at_next HAT.out HKS.out.2.1 (fun z => hx (by have := z.1; rw [hB1] at this; injection this with this; rw [this]; rfl)) hfk
        clear hx hB1 hB2
        go_wp2
        go_roundw
        case rel => exact ⟨f, k + 1, rfl, by go_num, by omega, by omega, HN.out, HBW.out⟩
        case measure => have := HKS.out; first | (simp [intOf]; done) | (simp [intOf]; omega)
      have dx : ((x.toNat : Int) != 13) = false := by rw [bne_eq_false_iff_eq]; omega
      by_cases hy : y.toNat = 10
      rotate_left
      · have dy : ((y.toNat : Int) != 10) = true := by rw [bne_iff_ne]; omega
        have HN : Hid (At s.data.toList f (k + 1)) := at_next HAT.out HKS.out.2.1 (fun z => hy (by have := z.2; rw [hB2] at this; injection this with this; rw [this]; rfl)) hfk
        clear hx hy hB1 hB2
        go_wp2
        go_roundw
        case rel => exact ⟨f, k + 1, rfl, by go_num, by omega, by omega, HN.out, HBW.out⟩
        case measure => have := HKS.out; first | (simp [intOf]; done) | (simp [intOf]; omega)
      have dy : ((y.toNat : Int) != 10) = false := by rw [bne_eq_false_iff_eq]; omega
      have HCR : Hid (CR s.data.toList k) := ⟨by rw [hB1, show x = 13 from UInt8.toNat_inj.1 hx], by rw [hB2, show y = 10 from UInt8.toNat_inj.1 hy]⟩
      have hsl := ow.slice_str (P := Tryd.prog) 9 s .i64 .i64 f k Tryd.underlying9 (f : Int) (k : Int) rfl rfl hfk (by omega)
      have HLT : Hid (∀ W, Calls Tryd.prog 16 #[.string (s.extract f k)] W fun e w' => LR (LitIs ((s.data.toList.drop f).take (k - f))) e ∧ w' = W) := fun W => by
        have := spec_any (s.extract f k) W (by rw [ByteArray.size_extract]; omega)
        rwa [← Lib.toList_data (s.extract f k), Lib.extract_toList] at this
      clear hx hy hB1 hB2
      go_wp2_with fail
      refine (HLT.out _).mono ?_
      rintro e w1 ⟨⟨v, B, rfl, hg⟩, h1⟩
      have h1 := h1.symm
      subst h1
      clear HLT hsl hix hiy
      rcases hg with ⟨rfl, n, rfl, hn⟩ | ⟨rfl, hn⟩
      · have hns : (n : Int) < 1000000 := by have := lit_small hn; omega
        have hn0 : (0 : Int) ≤ (n : Int) := by omega
        have HM := at_more HAT.out HKS.out.2.1 hfk HCR.out hn
        have HMM : Hid ((4000 < n → EndIs s.data.toList 0 4) ∧ At s.data.toList (k + 2 + n) (k + 2 + n)) := HM
        clear hn HM
        by_cases hn4 : 4000 < n
        · have d4 : (4000 : Int) < (n : Int) := by omega
          have HR : Hid (EndIs s.data.toList 0 4) := HMM.out.1 hn4
          clear hn4
          go_wp2
          go_ret3
          exact ⟨⟨0, 4, HR.out, .inr ⟨by decide, by first | (rw [txt_self s]; done) | (rw [txt_self s]; rfl)⟩⟩, HBW.out⟩
        · have d4 : ¬ (4000 : Int) < (n : Int) := by omega
          have d4d : decide ((4000 : Int) < (n : Int)) = false := decide_eq_false d4
          go_wp2
          go_roundw
          case rel => exact ⟨k + 2 + n, k + 2 + n, by go_num, by go_num, Nat.le_refl _, by have := HKS.out; omega, HMM.out.2, HBW.out⟩
          case measure => have := HKS.out; first | (simp [intOf]; done) | (simp [intOf]; omega)
      · have HR : Hid (EndIs s.data.toList k 0) := at_ok HAT.out HKS.out.2.1 hfk HCR.out hn
        have c2 : (k : Int) ≤ (s.size : Int) := by omega
        have c3 : (k : Int) + 2 ≤ (s.size : Int) := by omega
        have e1 := ext_take s k
        have e2 := ext_drop s (k + 2)
        have HFIN : Hid (TakeRet s.data.toList (.returned (.tuple #[.string ⟨(s.data.toList.take k).toArray⟩, .string ⟨(s.data.toList.drop (k + 2)).toArray⟩, .int .i64 0]))) := ⟨k, 0, HR.out, .inl ⟨rfl, by rw [HLEN.out]; omega, rfl⟩⟩
        generalize (⟨(s.data.toList.take k).toArray⟩ : ByteArray) = u at e1 HFIN
        generalize (⟨(s.data.toList.drop (k + 2)).toArray⟩ : ByteArray) = r at e2 HFIN
        have HS1 : ∀ wx : World, (Instr.slice 9 (.string s) none (some (.int .i64 (k : Int))) none).run Tryd.prog wx = .ok (.string u) wx := fun wx => by
          rw [run_slice_string_to_if wx 9 s .i64 _ Tryd.underlying9, if_pos ⟨k0, c2⟩]
          rw [Int.toNat_natCast, e1]
        have HS2 : ∀ wx : World, (Instr.slice 9 (.string s) (some (.int .i64 ((k : Int) + 2))) none none).run Tryd.prog wx = .ok (.string r) wx := fun wx => by
          rw [run_slice_string_from_if wx 9 s .i64 _ Tryd.underlying9, if_pos ⟨by omega, c3⟩, show ((k : Int) + 2).toNat = k + 2 from by omega, e2]
        have HD : Hid (Below w.heap.size w wr.drew) := HBW.out.drew
        clear hn e1 e2
        go_wp2_with fail
        go_region
        all_goals
          go_wp2
          go_ret3
          exact ⟨HFIN.out, HD.out⟩
    · have hk1 : ¬ (k : Int) + 1 < (s.size : Int) := by omega
      have hk1d : decide ((k : Int) + 1 < (s.size : Int)) = false := decide_eq_false hk1
      obtain ⟨hE1, hE2⟩ := at_end HAT.out (by rw [HLEN.out]; omega)
      rw [HLEN.out] at hE1 hE2
      by_cases hbig : 4002 < s.size
      · have d1 : (4002 : Int) < (s.size : Int) := by omega
        have d1d : decide ((4002 : Int) < (s.size : Int)) = true := decide_eq_true d1
        have HR : Hid (EndIs s.data.toList 0 4) := hE1 (.inl hbig)
        clear hbig hE1 hE2 hk
        go_wp2
        go_ret3
        exact ⟨⟨0, 4, HR.out, .inr ⟨by decide, by first | (rw [txt_self s]; done) | (rw [txt_self s]; rfl)⟩⟩, HBW.out⟩
      have d1 : ¬ (4002 : Int) < (s.size : Int) := by omega
      have d1d : decide ((4002 : Int) < (s.size : Int)) = false := decide_eq_false d1
      by_cases hf4 : 4000 < f
      · have d2 : (4000 : Int) < (f : Int) := by omega
        have d2d : decide ((4000 : Int) < (f : Int)) = true := decide_eq_true d2
        have HR : Hid (EndIs s.data.toList 0 4) := hE1 (.inr hf4)
        clear hbig hf4 hE1 hE2 hk
        go_wp2
        go_ret3
        exact ⟨⟨0, 4, HR.out, .inr ⟨by decide, by first | (rw [txt_self s]; done) | (rw [txt_self s]; rfl)⟩⟩, HBW.out⟩
      · have d2 : ¬ (4000 : Int) < (f : Int) := by omega
        have d2d : decide ((4000 : Int) < (f : Int)) = false := decide_eq_false d2
        have HR : Hid (EndIs s.data.toList 0 18) := hE2 (by omega) (by omega)
        clear hbig hf4 hE1 hE2 hk
        go_wp2
        go_ret3
        exact ⟨⟨0, 18, HR.out, .inr ⟨by decide, by first | (rw [txt_self s]; done) | (rw [txt_self s]; rfl)⟩⟩, HBW.out⟩
end Go.Proofs.YtbfplmafffnghaaDoor.te
