/-
  The contract of the specification's encoding of a text for a field.
-/
import Derived.Test.YtpbmofofigkpjaaDoorEcw
import Derived.Test.YtpbmofofigkpjaaDoorUtx
namespace Go.Proofs.YtpbmofofigkpjaaDoor.hd
open Go.RowKit
set_option linter.unusedVariables false

/-- What a text is encoded to. -/
def EncIs (s r : ByteArray) : Prop := (Plain s.data.toList ∧ r = s) ∨ (¬ Plain s.data.toList ∧ EndsAny s [] r.data.toList)
theorem enc_same {s r r' : ByteArray} (h : EncIs s r) (h' : EncIs s r') : r = r' := by
  rcases h with ⟨h1, rfl⟩ | ⟨h1, h2⟩
  · rcases h' with ⟨h3, rfl⟩ | ⟨h3, h4⟩
    · rfl
    · exact absurd h1 h3
  · rcases h' with ⟨h3, rfl⟩ | ⟨h3, h4⟩
    · exact absurd h3 h1
    · exact ut.bytes_ext (ends_same h2 h4)
theorem rune_parts {s : ByteArray} {k : Nat} {e : Ending} (h : ut.RuneRet s k e) : ∃ (r : Int) (b : Bool), e = .returned (.tuple #[.int .i64 r, .int .i64 ((Utf8.decode s k).2 : Int), .bool b]) := by
  rcases h with ⟨hb, rfl⟩ | ⟨_, rfl⟩
  · exact ⟨0, false, by rw [ut.bad_wide hb]; rfl⟩
  · exact ⟨_, true, rfl⟩

set_option maxHeartbeats 4000000 in
set_option maxRecDepth 100000 in
theorem specEncode_any (s : ByteArray) (w : World) (hs : s.size ≤ 1000) :
    Calls Tryd.prog 41 #[.string s] w fun e w' => (∃ r, e = .returned (.string r) ∧ EncIs s r) ∧ Below w.heap.size w w' := by
  by_cases hp : Plain s.data.toList
  · go_enter Tryd.func41, Tryd.ntmps41
    go_wp2_with fail
    refine (plain_any s _ (by omega)).mono ?_
    rintro e w' ⟨h1, rfl⟩
    obtain rfl := sv.says_true h1 hp
    go_wp2
    go_ret
    exact ⟨⟨s, rfl, .inl ⟨hp, rfl⟩⟩, Below.refl _ _⟩
  have HP : Hid (¬ Plain s.data.toList) := hp
  clear hp
  go_enter Tryd.func41, Tryd.ntmps41
  go_wp2_with fail
  refine (plain_any s _ (by omega)).mono ?_
  rintro e w' ⟨h1, rfl⟩
  obtain rfl := sv.says_false h1 HP.out
  clear h1
  go_wp2
  go_loopw [0, 3] (fun t o wr => ∃ c out : ByteArray, t = .string c ∧ o = .string out ∧ c.size ≤ 1000 ∧ out.size + 200 * c.size ≤ 200000 ∧ Below w'.heap.size w' wr ∧ Hid (∀ r, EndsAny c out.data.toList r → EndsAny s [] r)) (fun t _ _ => (match t with | .string c => c.size | _ => 0))
  case atStart => exact ⟨s, ⟨#[]⟩, rfl, rfl, hs, by show 0 + _ ≤ _; omega, Below.refl _ _, fun r h => h⟩
  case round =>
    obtain ⟨c, out, rfl, rfl, hc, hlen, hbw, HE⟩ := hrel
    by_cases h0 : c.size = 0
    · have z : c.toList.isEmpty = true := by rw [empty_iff]; simp [h0]
      go_wp2
      go_ret
      exact ⟨⟨out, rfl, .inr ⟨HP.out, HE.out _ (ends_nil _ h0)⟩⟩, hbw⟩
    have z : c.toList.isEmpty = false := by rw [empty_iff]; simp [h0]
    have hB := hbw.size
    go_wp2
    go_loop [4] (fun i => ∃ j : Nat, ut.pos c j ≤ c.size ∧ ut.pos c j ≤ 45 ∧ i = .int .i64 (ut.pos c j)) (fun i => c.size - (intOf i).toNat)
    case atStart => exact ⟨0, Nat.zero_le _, Nat.zero_le _, rfl⟩
    case round =>
      obtain ⟨j, hj1, hj2, rfl⟩ := hrel
      obtain ⟨p, hp⟩ : ∃ p, p = ut.pos c j := ⟨_, rfl⟩
      rw [← hp] at hj1 hj2 ⊢
      have HPJ : Hid (p = ut.pos c j) := hp
      clear hp
      have cp0 : (0 : Int) ≤ (p : Int) := by omega
      have cp1 : (p : Int) ≤ (c.size : Int) := by omega
      by_cases hlt : p < c.size
      · have hwd := ut.wide c p hlt
        have hw4 := wide4 c p
        go_wp2_with fail
        refine (ut.rune_any c p _ (by omega) hlt).mono ?_
        rintro e w1 ⟨hr, rfl⟩
        obtain ⟨r, b, rfl⟩ := rune_parts hr
        clear hr
        obtain ⟨m, hm⟩ : ∃ m, m = (Utf8.decode c p).2 := ⟨_, rfl⟩
        rw [← hm] at hwd hw4 ⊢
        have HM : Hid (m = (Utf8.decode c p).2) := hm
        clear hm
        by_cases hbr : 45 < p + m
        · have hbr' : (45 : Int) < (p : Int) + (m : Int) := by omega
          have hcut : ut.CutAt c 45 p := ⟨j, HPJ.out, hj1, by omega, .inl (by rw [ut.pos, ← HPJ.out, ← HM.out]; omega)⟩
          have hcp := cut_pos h0 hcut
          obtain ⟨k0, k1, k2⟩ := hcp
          have HK : Hid (ut.CutAt c 45 p) := hcut
          clear hcut
          by_cases ho : out.size = 0
          all_goals
            first
            | (have zo : out.toList.isEmpty = true := by rw [empty_iff]; exact decide_eq_true ho
               obtain ⟨o2, ho2⟩ : ∃ o2, o2 = out := ⟨_, rfl⟩
               have HO : Hid (o2.data.toList = out.data.toList ++ sep out.data.toList) := by
                 rw [ho2, show out.data.toList = [] from List.eq_nil_of_length_eq_zero (by rw [← Lib.size_eq]; exact ho)]
                 exact rfl
               have ho3 : o2.size ≤ out.size + 1 := by rw [ho2]; omega
               go_wp2_with fail
               rw [← ho2]
               clear ho2 ho)
            | (have zo : out.toList.isEmpty = false := by rw [empty_iff]; exact decide_eq_false ho
               obtain ⟨o2, ho2⟩ : ∃ o2, o2 = out ++ { data := #[32] } := ⟨_, rfl⟩
               have HO : Hid (o2.data.toList = out.data.toList ++ sep out.data.toList) := by
                 rw [ho2]
                 unfold sep
                 rw [if_neg (fun e => ho (by rw [Lib.size_eq, e]; rfl))]
                 exact (by simp : (out ++ { data := #[32] } : ByteArray).data.toList = out.data.toList ++ [32])
               have ho3 : o2.size ≤ out.size + 1 := by rw [ho2, ByteArray.size_append]; exact Nat.le_refl _
               go_wp2_with fail
               rw [← ho2]
               clear ho2 ho)
          all_goals
            have hql : (c.extract 0 p).data.toList.length = p := by rw [← Lib.size_eq, ByteArray.size_extract]; omega
            obtain ⟨W3, cap, hcv, hlies, hb3⟩ : ∃ W3 cap, (convert 9 22 (.string (c.extract 0 p))).run Tryd.prog w1 = .ok (.slice (some ⟨w1.heap.size, 0, none⟩) p cap) W3 ∧ ow.Lies W3 (.slice (some ⟨w1.heap.size, 0, none⟩) p cap) (c.extract 0 p).data.toList ∧ Below w1.heap.size w1 W3 := by
              have e : (c.extract 0 p).size = p := by rw [ByteArray.size_extract]; omega
              have h1 := Lib.run_convert_string_bytes (P := Tryd.prog) w1 9 22 5 (c.extract 0 p) Tryd.underlying9 Tryd.underlying22 Tryd.underlying5
              have h2 := ow.lies_conv w1 5 (c.extract 0 p)
              rw [e] at h1 h2
              exact ⟨_, _, h1, h2, ow.below_conv _ _ _⟩
            have hbw3 := hbw.trans (hb3.mono hbw.size)
            have HL : Hid (ow.Reads .u8 W3 (.slice (some ⟨w1.heap.size, 0, none⟩) p cap) (b6.bz (c.extract 0 p).data.toList)) := ow.reads_lies hlies
            obtain ⟨q, hq⟩ : ∃ q, q = (c.extract 0 p).data.toList := ⟨_, rfl⟩
            rw [← hq] at hql HL
            have HQ : Hid (q = (c.extract 0 p).data.toList) := hq
            clear hlies hb3 hq
            rw [hcv]
            simp only [Result.andThen]
            rw [Oper.upon_value]
            go_wp2_with fail
            refine (b6.specEnc_any _ q _ HL.out (by omega)).mono ?_
            rintro e W4 ⟨rfl, hb4⟩
            have hbw4 := hbw3.trans (hb4.mono hbw3.size)
            clear HL hbw3 hb4 hcv hbw
            obtain ⟨E, hE⟩ : ∃ E : ByteArray, E = ⟨(b6.enc q).toArray⟩ := ⟨_, rfl⟩
            have hEs : E.size ≤ 64 := by rw [Lib.size_eq, hE]; show (b6.enc q).length ≤ 64; rw [b6.enc_length]; omega
            have hEs' : (E.size : Int) ≤ 64 := by omega
            have ho4 : (o2.size : Int) ≤ 200001 := by omega
            rw [← hE]
            have HE2 : Hid (E = ⟨(b6.enc q).toArray⟩) := hE
            clear hE
            go_wp2
            go_roundw
            case rel =>
              have e2 : (o2 ++ (({ data := #[61, 63, 117, 116, 102, 45, 56, 63, 66, 63] } : ByteArray) ++ E ++ { data := #[63, 61] })).data.toList = out.data.toList ++ sep out.data.toList ++ wordL q := by
                rw [← HO.out, HE2.out]
                simp [wordL, head, tail]
              refine ⟨c.extract p c.size, _, rfl, rfl, by rw [ByteArray.size_extract]; omega, ?_, hbw4, fun r hr => HE.out r (ends_step h0 HK.out (by rw [← HQ.out, ← e2]; exact hr))⟩
              rw [ByteArray.size_append, ByteArray.size_append, ByteArray.size_append, ByteArray.size_extract]
              show _ + (10 + E.size + 2) + _ ≤ _
              omega
            case measure =>
              simp only [ByteArray.size_extract]
              simp
              omega
        · have hbr' : (p : Int) + (m : Int) ≤ 45 := by omega
          go_wp2
          go_round
          case rel => exact ⟨j + 1, by rw [ut.pos, ← HPJ.out, ← HM.out]; omega, by rw [ut.pos, ← HPJ.out, ← HM.out]; omega, by rw [ut.pos, ← HPJ.out, ← HM.out]; go_num⟩
          case measure => simp [intOf]; omega
      · have hcut : ut.CutAt c 45 p := ⟨j, HPJ.out, hj1, by omega, .inr (by omega)⟩
        have hcp := cut_pos h0 hcut
        obtain ⟨k0, k1, k2⟩ := hcp
        have HK : Hid (ut.CutAt c 45 p) := hcut
        clear hcut
        by_cases ho : out.size = 0
        all_goals
          first
          | (have zo : out.toList.isEmpty = true := by rw [empty_iff]; exact decide_eq_true ho
             obtain ⟨o2, ho2⟩ : ∃ o2, o2 = out := ⟨_, rfl⟩
             have HO : Hid (o2.data.toList = out.data.toList ++ sep out.data.toList) := by
               rw [ho2, show out.data.toList = [] from List.eq_nil_of_length_eq_zero (by rw [← Lib.size_eq]; exact ho)]
               exact rfl
             have ho3 : o2.size ≤ out.size + 1 := by rw [ho2]; omega
             go_wp2_with fail
             rw [← ho2]
             clear ho2 ho)
          | (have zo : out.toList.isEmpty = false := by rw [empty_iff]; exact decide_eq_false ho
             obtain ⟨o2, ho2⟩ : ∃ o2, o2 = out ++ { data := #[32] } := ⟨_, rfl⟩
             have HO : Hid (o2.data.toList = out.data.toList ++ sep out.data.toList) := by
               rw [ho2]
               unfold sep
               rw [if_neg (fun e => ho (by rw [Lib.size_eq, e]; rfl))]
               exact (by simp : (out ++ { data := #[32] } : ByteArray).data.toList = out.data.toList ++ [32])
             have ho3 : o2.size ≤ out.size + 1 := by rw [ho2, ByteArray.size_append]; exact Nat.le_refl _
             go_wp2_with fail
             rw [← ho2]
             clear ho2 ho)
        all_goals
          have hql : (c.extract 0 p).data.toList.length = p := by rw [← Lib.size_eq, ByteArray.size_extract]; omega
          obtain ⟨W3, cap, hcv, hlies, hb3⟩ : ∃ W3 cap, (convert 9 22 (.string (c.extract 0 p))).run Tryd.prog wr = .ok (.slice (some ⟨wr.heap.size, 0, none⟩) p cap) W3 ∧ ow.Lies W3 (.slice (some ⟨wr.heap.size, 0, none⟩) p cap) (c.extract 0 p).data.toList ∧ Below wr.heap.size wr W3 := by
            have e : (c.extract 0 p).size = p := by rw [ByteArray.size_extract]; omega
            have h1 := Lib.run_convert_string_bytes (P := Tryd.prog) wr 9 22 5 (c.extract 0 p) Tryd.underlying9 Tryd.underlying22 Tryd.underlying5
            have h2 := ow.lies_conv wr 5 (c.extract 0 p)
            rw [e] at h1 h2
            exact ⟨_, _, h1, h2, ow.below_conv _ _ _⟩
          have hbw3 := hbw.trans (hb3.mono hbw.size)
          have HL : Hid (ow.Reads .u8 W3 (.slice (some ⟨wr.heap.size, 0, none⟩) p cap) (b6.bz (c.extract 0 p).data.toList)) := ow.reads_lies hlies
          obtain ⟨q, hq⟩ : ∃ q, q = (c.extract 0 p).data.toList := ⟨_, rfl⟩
          rw [← hq] at hql HL
          have HQ : Hid (q = (c.extract 0 p).data.toList) := hq
          clear hlies hb3 hq
          rw [hcv]
          simp only [Result.andThen]
          rw [Oper.upon_value]
          go_wp2_with fail
          refine (b6.specEnc_any _ q _ HL.out (by omega)).mono ?_
          rintro e W4 ⟨rfl, hb4⟩
          have hbw4 := hbw3.trans (hb4.mono hbw3.size)
          clear HL hbw3 hb4 hcv hbw
          obtain ⟨E, hE⟩ : ∃ E : ByteArray, E = ⟨(b6.enc q).toArray⟩ := ⟨_, rfl⟩
          have hEs : E.size ≤ 64 := by rw [Lib.size_eq, hE]; show (b6.enc q).length ≤ 64; rw [b6.enc_length]; omega
          have hEs' : (E.size : Int) ≤ 64 := by omega
          have ho4 : (o2.size : Int) ≤ 200001 := by omega
          rw [← hE]
          have HE2 : Hid (E = ⟨(b6.enc q).toArray⟩) := hE
          clear hE
          go_wp2
          go_roundw
          case rel =>
            have e2 : (o2 ++ (({ data := #[61, 63, 117, 116, 102, 45, 56, 63, 66, 63] } : ByteArray) ++ E ++ { data := #[63, 61] })).data.toList = out.data.toList ++ sep out.data.toList ++ wordL q := by
              rw [← HO.out, HE2.out]
              simp [wordL, head, tail]
            refine ⟨c.extract p c.size, _, rfl, rfl, by rw [ByteArray.size_extract]; omega, ?_, hbw4, fun r hr => HE.out r (ends_step h0 HK.out (by rw [← HQ.out, ← e2]; exact hr))⟩
            rw [ByteArray.size_append, ByteArray.size_append, ByteArray.size_append, ByteArray.size_extract]
            show _ + (10 + E.size + 2) + _ ≤ _
            omega
          case measure =>
            simp only [ByteArray.size_extract]
            simp
            omega
end Go.Proofs.YtpbmofofigkpjaaDoor.hd
