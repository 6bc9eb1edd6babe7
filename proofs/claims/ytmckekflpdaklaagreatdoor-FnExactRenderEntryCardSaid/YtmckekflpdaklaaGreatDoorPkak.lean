/-
  The contract of the program's encoded words: what a text is encoded to.
  The contract of the specification's encoding of a text for a field.
-/
import Derived.Test.YtmckekflpdaklaaGreatDoorPkag
import Derived.Test.YtmckekflpdaklaaGreatDoorPkaj
import Derived.Test.YtmckekflpdaklaaGreatDoorPkaf
import Derived.Test.YtmckekflpdaklaaGreatDoorPkac

namespace Go.Proofs.YtmckekflpdaklaaGreatDoor.hd
open Go.RowKit
set_option linter.unusedVariables false

theorem empty_iff (s : ByteArray) : s.toList.isEmpty = decide (s.size = 0) := by
  rw [Bool.eq_iff_iff, List.isEmpty_iff, decide_eq_true_iff]
  refine ⟨fun h => ?_, fun h => ?_⟩
  · have := Lib.size_eq s; rw [← Lib.toList_data, h] at this; exact this
  · have := Lib.size_eq s; rw [h] at this; rw [Lib.toList_data]; exact List.eq_nil_of_length_eq_zero this.symm
theorem byte32 (B b : Nat) (l : List UInt8) (w : World) (h : bl.Bd B b l w) (hlen : l.length + 1 ≤ 140737488355328) (hBw : B ≤ w.heap.size) :
    Calls Tryz.prog 126 #[.pointer (some ⟨b, 0, none⟩), .int .u8 32] w fun e w' => (∃ v, e = .returned v) ∧ bl.Bd B b (l ++ [32]) w' ∧ Below B w w' := bl.byte B b l 32 w h hlen hBw
theorem F_wide4 (n k b0 b1 b2 b3 : Nat) : (ut.decF n k b0 b1 b2 b3).2 ≤ 4 := by
  unfold ut.decF
  repeat' split
  all_goals simp
theorem wide4 (s : ByteArray) (k : Nat) : (Utf8.decode s k).2 ≤ 4 := by rw [ut.dec_eq]; exact F_wide4 _ _ _ _ _ _
theorem cut_pos {s : ByteArray} {k : Nat} (h : s.size ≠ 0) (hk : ut.CutAt s 45 k) : 0 < k ∧ k ≤ s.size ∧ k ≤ 45 := by
  obtain ⟨j, rfl, h1, h2, h3⟩ := hk
  refine ⟨?_, h1, by omega⟩
  rcases Nat.eq_zero_or_pos j with rfl | hj
  · rcases h3 with h3 | h3
    · exfalso
      have := wide4 s 0
      simp only [ut.pos, Nat.zero_add] at h3
      omega
    · simp only [ut.pos] at h3 ⊢
      omega
  · have := ut.pos_ge s j
    omega
theorem word_len (l : List UInt8) : (wordL l).length = 12 + (l.length + 2) / 3 * 4 := by
  unfold wordL head tail
  rw [List.length_append, List.length_append, b6.enc_length]
  simp
  omega

set_option maxHeartbeats 2000000 in
set_option maxRecDepth 100000 in
theorem encoded_any (s : ByteArray) (w : World) (hT : tb.TC w) (hs : s.size ≤ 1000) :
    Calls Tryz.prog 138 #[.string s] w fun e w' => (∃ r : List UInt8, e = .returned (.string ⟨r.toArray⟩) ∧ EndsAny s [] r) ∧ Below w.heap.size w w' := by
  go_enter Tryz.func138, Tryz.ntmps138
  go_wp2
  go_loopw [0] (fun t wr => ∃ (c : ByteArray) (out : List UInt8), t = .string c ∧ c.size ≤ 1000 ∧ out.length + 200 * c.size ≤ 200000 ∧ bl.Bd w.heap.size w.heap.size out wr ∧ Below w.heap.size w wr ∧ Hid (∀ r, EndsAny c out r → EndsAny s [] r)) (fun t _ => (match t with | .string c => c.size | _ => 0))
  case atStart => exact ⟨s, [], rfl, hs, by simp; omega, bl.fresh w, (Below.refl _ _).alloc (Nat.le_refl _) _, fun r h => h⟩
  case round =>
    obtain ⟨c, out, rfl, hc, hlen, hbd, hbw, HE⟩ := hrel
    by_cases h0 : c.size = 0
    · have z : c.toList.isEmpty = true := by rw [empty_iff]; simp [h0]
      go_wp2_with fail
      refine (bl.said _ _ out wr hbd hbw.size).mono ?_
      rintro e w1 ⟨rfl, hb1⟩
      go_wp2
      go_ret
      exact ⟨⟨out, rfl, HE.out out (ends_nil out h0)⟩, hbw.trans hb1⟩
    have z : c.toList.isEmpty = false := by rw [empty_iff]; simp [h0]
    have hB := hbw.size
    go_wp2_with fail
    refine (bl.len _ _ out wr hbd).mono ?_
    rintro e w' ⟨rfl, rfl⟩
    have HT : Hid (∀ W, Below w.heap.size w W → tb.TC W) := fun W hW => tb.keep' hT hW
    by_cases ho : out = []
    all_goals
      first
      | (have d : out.length = 0 := by rw [show out = [] from ho]; rfl
         have HO : Hid (out ++ sep out = out) := by rw [show out = [] from ho]; exact rfl
         obtain ⟨W1, hW1⟩ : ∃ W1, W1 = w' := ⟨_, rfl⟩
         have hbd1 : bl.Bd w.heap.size w.heap.size (out ++ sep out) W1 := by rw [hW1, HO.out]; exact hbd
         have hbw1 : Below w.heap.size w W1 := by rw [hW1]; exact hbw
         rw [← hW1]
         clear hW1 HO ho hbd hbw hT
         go_wp2_with fail)
      | (have d : 0 < out.length := List.length_pos_iff.2 (show out ≠ [] from ho)
         have HO : Hid (out ++ sep out = out ++ [32]) := by unfold sep; rw [if_neg (show out ≠ [] from ho)]; exact rfl
         clear ho hT
         go_wp2_with fail
         refine (byte32 _ _ out _ hbd (by omega) hB).mono ?_
         rintro e W1 ⟨⟨v, rfl⟩, hbd1, hb1⟩
         have hbw1 := hbw.trans hb1
         rw [← HO.out] at hbd1
         clear hbd hbw hb1 HO
         go_wp2_with fail)
    all_goals
      refine (ut.place_any c 45 _ (by omega) (by decide)).mono ?_
      rintro e W2 ⟨⟨k, rfl, hk⟩, hb2⟩
      obtain ⟨k0, k1, k2⟩ := cut_pos h0 hk
      have HK : Hid (ut.CutAt c 45 k) := hk
      clear hk
      have c1 : (0 : Int) ≤ (k : Int) := by omega
      have c2 : (k : Int) ≤ (c.size : Int) := by omega
      have hql : (c.extract 0 k).data.toList.length = k := by rw [← Lib.size_eq, ByteArray.size_extract]; omega
      obtain ⟨W3, cap, hcv, hlies, hb3⟩ : ∃ W3 cap, (convert 9 51 (.string (c.extract 0 k))).run Tryz.prog W2 = .ok (.slice (some ⟨W2.heap.size, 0, none⟩) k cap) W3 ∧ ow.Lies W3 (.slice (some ⟨W2.heap.size, 0, none⟩) k cap) (c.extract 0 k).data.toList ∧ Below W2.heap.size W2 W3 := by
        have e : (c.extract 0 k).size = k := by rw [ByteArray.size_extract]; omega
        have h1 := Lib.run_convert_string_bytes (P := Tryz.prog) W2 9 51 5 (c.extract 0 k) Tryz.underlying9 Tryz.underlying51 Tryz.underlying5
        have h2 := ow.lies_conv W2 5 (c.extract 0 k)
        rw [e] at h1 h2
        exact ⟨_, _, h1, h2, ow.below_conv _ _ _⟩
      have hbw2 := hbw1.trans (hb2.mono hbw1.size)
      have hbw3 := hbw2.trans (hb3.mono hbw2.size)
      have hbd3 := bl.keep (bl.keep hbd1 hb2) hb3
      have HL : Hid (ow.Lies W3 (.slice (some ⟨W2.heap.size, 0, none⟩) k cap) (c.extract 0 k).data.toList) := hlies
      have hT3 := HT.out W3 hbw3
      obtain ⟨q, hq⟩ : ∃ q, q = (c.extract 0 k).data.toList := ⟨_, rfl⟩
      rw [← hq] at hql HL
      have HQ : Hid (q = (c.extract 0 k).data.toList) := hq
      clear hlies hbd1 hbw1 hb2 hb3 hbw2 hq
      go_wp2_with fail
      refine (b6.implEncR_any _ q _ HL.out hT3 (by omega)).mono ?_
      rintro e W4 ⟨rfl, hb4⟩
      have hbw4 := hbw3.trans (hb4.mono hbw3.size)
      have hbd4 := bl.keep hbd3 hb4
      have hB4 := hbw4.size
      clear HL hT3 hbd3 hbw3 hb4 hcv
      obtain ⟨E, hE⟩ : ∃ E : ByteArray, E = ⟨(b6.enc q).toArray⟩ := ⟨_, rfl⟩
      have hEs : E.size ≤ 64 := by rw [Lib.size_eq, hE]; show (b6.enc q).length ≤ 64; rw [b6.enc_length]; omega
      have hEs' : (E.size : Int) ≤ 64 := by omega
      rw [← hE]
      have HE2 : Hid (E = ⟨(b6.enc q).toArray⟩) := hE
      clear hE
      go_wp2_with fail
      have hsl : (out ++ sep out).length ≤ out.length + 1 := by rw [List.length_append]; unfold sep; split <;> simp
      refine (bl.text _ _ (out ++ sep out) _ W4 hbd4 (by rw [ByteArray.size_append, ByteArray.size_append]; show _ + (10 + E.size + 2) ≤ _; omega) hB4).mono ?_
      rintro e W5 ⟨⟨v5, rfl⟩, hbd5, hb5⟩
      have HW : Hid (bl.Bd w.heap.size w.heap.size (out ++ sep out ++ wordL q) W5 ∧ Below w.heap.size w W5) := by
        refine ⟨?_, hbw4.trans hb5⟩
        have e2 : (({ data := #[61, 63, 117, 116, 102, 45, 56, 63, 66, 63] } : ByteArray) ++ E ++ { data := #[63, 61] }).data.toList = wordL q := by
          rw [HE2.out]
          simp [wordL, head, tail]
        rw [e2] at hbd5
        exact hbd5
      clear hbd4 hbw4 hbd5 hb5
      go_wp2
      go_roundw
      case rel =>
        refine ⟨c.extract k c.size, out ++ sep out ++ wordL q, rfl, by rw [ByteArray.size_extract]; omega, ?_, HW.out.1, HW.out.2, fun r hr => HE.out r (ends_step h0 HK.out (by rw [← HQ.out]; exact hr))⟩
        rw [List.length_append, word_len, ByteArray.size_extract]
        omega
      case measure =>
        simp only [ByteArray.size_extract]
        simp
        omega
end Go.Proofs.YtmckekflpdaklaaGreatDoor.hd

namespace Go.Proofs.YtmckekflpdaklaaGreatDoor.hd
open Go.RowKit
set_option linter.unusedVariables false

/-- What a text is encoded to. -/
def EncIs (s r : ByteArray) : Prop := (Plain s.data.toList ∧ r = s) ∨ (¬ Plain s.data.toList ∧ EndsAny s [] r.data.toList)
theorem enc_same {s r r' : ByteArray} (h : EncIs s r) (h' : EncIs s r') : r = r' := by
  rcases h with ⟨h1, rfl⟩ | ⟨h1, h2⟩
  · rcases h' with ⟨h3, rfl⟩ | ⟨h3, h4⟩
    · rfl
    · exact absurd h1 h3
  · rcases h' with ⟨h3, rfl⟩ | ⟨h3, h4⟩
    · exact absurd h3 h1
    · exact ut.bytes_ext (ends_same h2 h4)
theorem rune_parts {s : ByteArray} {k : Nat} {e : Ending} (h : ut.RuneRet s k e) : ∃ (r : Int) (b : Bool), e = .returned (.tuple #[.int .i64 r, .int .i64 ((Utf8.decode s k).2 : Int), .bool b]) := by
  rcases h with ⟨hb, rfl⟩ | ⟨_, rfl⟩
  · exact ⟨0, false, by rw [ut.bad_wide hb]; rfl⟩
  · exact ⟨_, true, rfl⟩

set_option maxHeartbeats 4000000 in
set_option maxRecDepth 100000 in
theorem specEncode_any (s : ByteArray) (w : World) (hs : s.size ≤ 1000) :
    Calls Tryz.prog 33 #[.string s] w fun e w' => (∃ r, e = .returned (.string r) ∧ EncIs s r) ∧ Below w.heap.size w w' := by
  by_cases hp : Plain s.data.toList
  · go_enter Tryz.func33, Tryz.ntmps33
    go_wp2_with fail
    refine (plain_any s _ (by omega)).mono ?_
    rintro e w' ⟨h1, rfl⟩
    obtain rfl := sv.says_true h1 hp
    go_wp2
    go_ret
    exact ⟨⟨s, rfl, .inl ⟨hp, rfl⟩⟩, Below.refl _ _⟩
  have HP : Hid (¬ Plain s.data.toList) := hp
  clear hp
  go_enter Tryz.func33, Tryz.ntmps33
  go_wp2_with fail
  refine (plain_any s _ (by omega)).mono ?_
  rintro e w' ⟨h1, rfl⟩
  obtain rfl := sv.says_false h1 HP.out
  clear h1
  go_wp2
  go_loopw [0, 3] (fun t o wr => ∃ c out : ByteArray, t = .string c ∧ o = .string out ∧ c.size ≤ 1000 ∧ out.size + 200 * c.size ≤ 200000 ∧ Below w'.heap.size w' wr ∧ Hid (∀ r, EndsAny c out.data.toList r → EndsAny s [] r)) (fun t _ _ => (match t with | .string c => c.size | _ => 0))
  case atStart => exact ⟨s, ⟨#[]⟩, rfl, rfl, hs, by show 0 + _ ≤ _; omega, Below.refl _ _, fun r h => h⟩
  case round =>
    obtain ⟨c, out, rfl, rfl, hc, hlen, hbw, HE⟩ := hrel
    by_cases h0 : c.size = 0
    · have z : c.toList.isEmpty = true := by rw [empty_iff]; simp [h0]
      go_wp2
      go_ret
      exact ⟨⟨out, rfl, .inr ⟨HP.out, HE.out _ (ends_nil _ h0)⟩⟩, hbw⟩
    have z : c.toList.isEmpty = false := by rw [empty_iff]; simp [h0]
    have hB := hbw.size
    go_wp2
    go_loop [4] (fun i => ∃ j : Nat, ut.pos c j ≤ c.size ∧ ut.pos c j ≤ 45 ∧ i = .int .i64 (ut.pos c j)) (fun i => c.size - (intOf i).toNat)
    case atStart => exact ⟨0, Nat.zero_le _, Nat.zero_le _, rfl⟩
    case round =>
      obtain ⟨j, hj1, hj2, rfl⟩ := hrel
      obtain ⟨p, hp⟩ : ∃ p, p = ut.pos c j := ⟨_, rfl⟩
      rw [← hp] at hj1 hj2 ⊢
      have HPJ : Hid (p = ut.pos c j) := hp
      clear hp
      have cp0 : (0 : Int) ≤ (p : Int) := by omega
      have cp1 : (p : Int) ≤ (c.size : Int) := by omega
      by_cases hlt : p < c.size
      · have hwd := ut.wide c p hlt
        have hw4 := wide4 c p
        go_wp2_with fail
        refine (ut.rune_any c p _ (by omega) hlt).mono ?_
        rintro e w1 ⟨hr, rfl⟩
        obtain ⟨r, b, rfl⟩ := rune_parts hr
        clear hr
        obtain ⟨m, hm⟩ : ∃ m, m = (Utf8.decode c p).2 := ⟨_, rfl⟩
        rw [← hm] at hwd hw4 ⊢
        have HM : Hid (m = (Utf8.decode c p).2) := hm
        clear hm
        by_cases hbr : 45 < p + m
        · have hbr' : (45 : Int) < (p : Int) + (m : Int) := by omega
          have hcut : ut.CutAt c 45 p := ⟨j, HPJ.out, hj1, by omega, .inl (by rw [ut.pos, ← HPJ.out, ← HM.out]; omega)⟩
          have hcp := cut_pos h0 hcut
          obtain ⟨k0, k1, k2⟩ := hcp
          have HK : Hid (ut.CutAt c 45 p) := hcut
          clear hcut
          by_cases ho : out.size = 0
          all_goals
            first
            | (have zo : out.toList.isEmpty = true := by rw [empty_iff]; exact decide_eq_true ho
               obtain ⟨o2, ho2⟩ : ∃ o2, o2 = out := ⟨_, rfl⟩
               have HO : Hid (o2.data.toList = out.data.toList ++ sep out.data.toList) := by
                 rw [ho2, show out.data.toList = [] from List.eq_nil_of_length_eq_zero (by rw [← Lib.size_eq]; exact ho)]
                 exact rfl
               have ho3 : o2.size ≤ out.size + 1 := by rw [ho2]; omega
               go_wp2_with fail
               rw [← ho2]
               clear ho2 ho)
            | (have zo : out.toList.isEmpty = false := by rw [empty_iff]; exact decide_eq_false ho
               obtain ⟨o2, ho2⟩ : ∃ o2, o2 = out ++ { data := #[32] } := ⟨_, rfl⟩
               have HO : Hid (o2.data.toList = out.data.toList ++ sep out.data.toList) := by
                 rw [ho2]
                 unfold sep
                 rw [if_neg (fun e => ho (by rw [Lib.size_eq, e]; rfl))]
                 exact (by simp : (out ++ { data := #[32] } : ByteArray).data.toList = out.data.toList ++ [32])
               have ho3 : o2.size ≤ out.size + 1 := by rw [ho2, ByteArray.size_append]; exact Nat.le_refl _
               go_wp2_with fail
               rw [← ho2]
               clear ho2 ho)
          all_goals
            have hql : (c.extract 0 p).data.toList.length = p := by rw [← Lib.size_eq, ByteArray.size_extract]; omega
            obtain ⟨W3, cap, hcv, hlies, hb3⟩ : ∃ W3 cap, (convert 9 51 (.string (c.extract 0 p))).run Tryz.prog w1 = .ok (.slice (some ⟨w1.heap.size, 0, none⟩) p cap) W3 ∧ ow.Lies W3 (.slice (some ⟨w1.heap.size, 0, none⟩) p cap) (c.extract 0 p).data.toList ∧ Below w1.heap.size w1 W3 := by
              have e : (c.extract 0 p).size = p := by rw [ByteArray.size_extract]; omega
              have h1 := Lib.run_convert_string_bytes (P := Tryz.prog) w1 9 51 5 (c.extract 0 p) Tryz.underlying9 Tryz.underlying51 Tryz.underlying5
              have h2 := ow.lies_conv w1 5 (c.extract 0 p)
              rw [e] at h1 h2
              exact ⟨_, _, h1, h2, ow.below_conv _ _ _⟩
            have hbw3 := hbw.trans (hb3.mono hbw.size)
            have HL : Hid (ow.Reads .u8 W3 (.slice (some ⟨w1.heap.size, 0, none⟩) p cap) (b6.bz (c.extract 0 p).data.toList)) := ow.reads_lies hlies
            obtain ⟨q, hq⟩ : ∃ q, q = (c.extract 0 p).data.toList := ⟨_, rfl⟩
            rw [← hq] at hql HL
            have HQ : Hid (q = (c.extract 0 p).data.toList) := hq
            clear hlies hb3 hq
            rw [hcv]
            simp only [Result.andThen]
            rw [Oper.upon_value]
            go_wp2_with fail
            refine (b6.specEnc_any _ q _ HL.out (by omega)).mono ?_
            rintro e W4 ⟨rfl, hb4⟩
            have hbw4 := hbw3.trans (hb4.mono hbw3.size)
            clear HL hbw3 hb4 hcv hbw
            obtain ⟨E, hE⟩ : ∃ E : ByteArray, E = ⟨(b6.enc q).toArray⟩ := ⟨_, rfl⟩
            have hEs : E.size ≤ 64 := by rw [Lib.size_eq, hE]; show (b6.enc q).length ≤ 64; rw [b6.enc_length]; omega
            have hEs' : (E.size : Int) ≤ 64 := by omega
            have ho4 : (o2.size : Int) ≤ 200001 := by omega
            rw [← hE]
            have HE2 : Hid (E = ⟨(b6.enc q).toArray⟩) := hE
            clear hE
            go_wp2
            go_roundw
            case rel =>
              have e2 : (o2 ++ (({ data := #[61, 63, 117, 116, 102, 45, 56, 63, 66, 63] } : ByteArray) ++ E ++ { data := #[63, 61] })).data.toList = out.data.toList ++ sep out.data.toList ++ wordL q := by
                rw [← HO.out, HE2.out]
                simp [wordL, head, tail]
              refine ⟨c.extract p c.size, _, rfl, rfl, by rw [ByteArray.size_extract]; omega, ?_, hbw4, fun r hr => HE.out r (ends_step h0 HK.out (by rw [← HQ.out, ← e2]; exact hr))⟩
              rw [ByteArray.size_append, ByteArray.size_append, ByteArray.size_append, ByteArray.size_extract]
              show _ + (10 + E.size + 2) + _ ≤ _
              omega
            case measure =>
              simp only [ByteArray.size_extract]
              simp
              omega
        · have hbr' : (p : Int) + (m : Int) ≤ 45 := by omega
          go_wp2
          go_round
          case rel => exact ⟨j + 1, by rw [ut.pos, ← HPJ.out, ← HM.out]; omega, by rw [ut.pos, ← HPJ.out, ← HM.out]; omega, by rw [ut.pos, ← HPJ.out, ← HM.out]; go_num⟩
          case measure => simp [intOf]; omega
      · have hcut : ut.CutAt c 45 p := ⟨j, HPJ.out, hj1, by omega, .inr (by omega)⟩
        have hcp := cut_pos h0 hcut
        obtain ⟨k0, k1, k2⟩ := hcp
        have HK : Hid (ut.CutAt c 45 p) := hcut
        clear hcut
        by_cases ho : out.size = 0
        all_goals
          first
          | (have zo : out.toList.isEmpty = true := by rw [empty_iff]; exact decide_eq_true ho
             obtain ⟨o2, ho2⟩ : ∃ o2, o2 = out := ⟨_, rfl⟩
             have HO : Hid (o2.data.toList = out.data.toList ++ sep out.data.toList) := by
               rw [ho2, show out.data.toList = [] from List.eq_nil_of_length_eq_zero (by rw [← Lib.size_eq]; exact ho)]
               exact rfl
             have ho3 : o2.size ≤ out.size + 1 := by rw [ho2]; omega
             go_wp2_with fail
             rw [← ho2]
             clear ho2 ho)
          | (have zo : out.toList.isEmpty = false := by rw [empty_iff]; exact decide_eq_false ho
             obtain ⟨o2, ho2⟩ : ∃ o2, o2 = out ++ { data := #[32] } := ⟨_, rfl⟩
             have HO : Hid (o2.data.toList = out.data.toList ++ sep out.data.toList) := by
               rw [ho2]
               unfold sep
               rw [if_neg (fun e => ho (by rw [Lib.size_eq, e]; rfl))]
               exact (by simp : (out ++ { data := #[32] } : ByteArray).data.toList = out.data.toList ++ [32])
             have ho3 : o2.size ≤ out.size + 1 := by rw [ho2, ByteArray.size_append]; exact Nat.le_refl _
             go_wp2_with fail
             rw [← ho2]
             clear ho2 ho)
        all_goals
          have hql : (c.extract 0 p).data.toList.length = p := by rw [← Lib.size_eq, ByteArray.size_extract]; omega
          obtain ⟨W3, cap, hcv, hlies, hb3⟩ : ∃ W3 cap, (convert 9 51 (.string (c.extract 0 p))).run Tryz.prog wr = .ok (.slice (some ⟨wr.heap.size, 0, none⟩) p cap) W3 ∧ ow.Lies W3 (.slice (some ⟨wr.heap.size, 0, none⟩) p cap) (c.extract 0 p).data.toList ∧ Below wr.heap.size wr W3 := by
            have e : (c.extract 0 p).size = p := by rw [ByteArray.size_extract]; omega
            have h1 := Lib.run_convert_string_bytes (P := Tryz.prog) wr 9 51 5 (c.extract 0 p) Tryz.underlying9 Tryz.underlying51 Tryz.underlying5
            have h2 := ow.lies_conv wr 5 (c.extract 0 p)
            rw [e] at h1 h2
            exact ⟨_, _, h1, h2, ow.below_conv _ _ _⟩
          have hbw3 := hbw.trans (hb3.mono hbw.size)
          have HL : Hid (ow.Reads .u8 W3 (.slice (some ⟨wr.heap.size, 0, none⟩) p cap) (b6.bz (c.extract 0 p).data.toList)) := ow.reads_lies hlies
          obtain ⟨q, hq⟩ : ∃ q, q = (c.extract 0 p).data.toList := ⟨_, rfl⟩
          rw [← hq] at hql HL
          have HQ : Hid (q = (c.extract 0 p).data.toList) := hq
          clear hlies hb3 hq
          rw [hcv]
          simp only [Result.andThen]
          rw [Oper.upon_value]
          go_wp2_with fail
          refine (b6.specEnc_any _ q _ HL.out (by omega)).mono ?_
          rintro e W4 ⟨rfl, hb4⟩
          have hbw4 := hbw3.trans (hb4.mono hbw3.size)
          clear HL hbw3 hb4 hcv hbw
          obtain ⟨E, hE⟩ : ∃ E : ByteArray, E = ⟨(b6.enc q).toArray⟩ := ⟨_, rfl⟩
          have hEs : E.size ≤ 64 := by rw [Lib.size_eq, hE]; show (b6.enc q).length ≤ 64; rw [b6.enc_length]; omega
          have hEs' : (E.size : Int) ≤ 64 := by omega
          have ho4 : (o2.size : Int) ≤ 200001 := by omega
          rw [← hE]
          have HE2 : Hid (E = ⟨(b6.enc q).toArray⟩) := hE
          clear hE
          go_wp2
          go_roundw
          case rel =>
            have e2 : (o2 ++ (({ data := #[61, 63, 117, 116, 102, 45, 56, 63, 66, 63] } : ByteArray) ++ E ++ { data := #[63, 61] })).data.toList = out.data.toList ++ sep out.data.toList ++ wordL q := by
              rw [← HO.out, HE2.out]
              simp [wordL, head, tail]
            refine ⟨c.extract p c.size, _, rfl, rfl, by rw [ByteArray.size_extract]; omega, ?_, hbw4, fun r hr => HE.out r (ends_step h0 HK.out (by rw [← HQ.out, ← e2]; exact hr))⟩
            rw [ByteArray.size_append, ByteArray.size_append, ByteArray.size_append, ByteArray.size_extract]
            show _ + (10 + E.size + 2) + _ ≤ _
            omega
          case measure =>
            simp only [ByteArray.size_extract]
            simp
            omega
end Go.Proofs.YtmckekflpdaklaaGreatDoor.hd
