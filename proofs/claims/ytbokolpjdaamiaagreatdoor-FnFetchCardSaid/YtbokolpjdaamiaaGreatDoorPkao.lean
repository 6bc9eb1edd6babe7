/-
  The contract of the specification's l03Plain: whether a text stays as it is in a field.
  The contract of the program's base 64 text: it is the text of the bytes.
  The contract of the program's encoded words: what a text is encoded to.
  The contract of the specification's encoding of a text for a field.
  Plain facts on encoded words: what is encoded is safe, and is read back.
-/
import Derived.Test.YtbokolpjdaamiaaGreatDoorPkam
import Derived.Test.YtbokolpjdaamiaaGreatDoorPkad
import Derived.Test.YtbokolpjdaamiaaGreatDoorPkah
import Derived.Test.YtbokolpjdaamiaaGreatDoorPkaf
import Derived.Laws.IdiomCopy
import Derived.Laws.CopyRow
import Derived.Laws.CopyOwn
import Derived.Laws.BitsAll
import Derived.BigRegion
import Derived.Test.YtbokolpjdaamiaaGreatDoorPkan

namespace Go.Proofs.YtbokolpjdaamiaaGreatDoor.hd
open Go.RowKit
set_option linter.unusedVariables false

theorem at_some (s : ByteArray) (k : Nat) (h : k < s.size) : s.data.toList[k]? = some s[k] := by
  rw [List.getElem?_eq_getElem (by simpa using h)]; rfl
theorem byte_is {c : UInt8} {n : Nat} (hn : n < 256) (h : (c.toNat : Int) = n) : c = UInt8.ofNat n := by
  rw [← UInt8.toNat_inj, UInt8.toNat_ofNat']; omega
theorem sign_at {s : ByteArray} {k : Nat} (h : k + 1 < s.size) (h1 : ((s[k]'(by omega)).toNat : Int) = 61) (h2 : ((s[k + 1]'h).toNat : Int) = 63) : Lib.contains s.data.toList sign = true := by
  rw [contains_iff]
  refine ⟨k, ?_, ?_⟩
  · rw [at_some s k (by omega), byte_is (n := 61) (by decide) h1]; rfl
  · rw [at_some s (k + 1) h, byte_is (n := 63) (by decide) h2]; rfl
/-- No sign begins ahead of a place. -/
def Clear (s : ByteArray) (k : Nat) : Prop := ∀ j, j < k → ¬ (s.data.toList[j]? = some 61 ∧ s.data.toList[j + 1]? = some 63)
theorem clear_step {s : ByteArray} {k : Nat} (hc : Clear s k) (h : k + 1 < s.size) (hx : ((s[k]'(by omega)).toNat : Int) ≠ 61 ∨ ((s[k + 1]'h).toNat : Int) ≠ 63) : Clear s (k + 1) := by
  intro j hj
  by_cases e : j = k
  · subst e
    rw [at_some s j (by omega), at_some s (j + 1) h]
    rintro ⟨h1, h2⟩
    rcases hx with hx | hx
    · rw [Option.some.inj h1] at hx; exact hx rfl
    · rw [Option.some.inj h2] at hx; exact hx rfl
  · exact hc j (by omega)
theorem clear_end {s : ByteArray} {k : Nat} (hc : Clear s k) (h : s.size ≤ k + 1) : Lib.contains s.data.toList sign = false := by
  rw [Bool.eq_false_iff]
  intro hx
  obtain ⟨j, h1, h2⟩ := (contains_iff _).1 hx
  have : j + 1 < s.size := by rw [Lib.size_eq]; exact (List.getElem?_eq_some_iff.1 h2).1
  exact hc j (by omega) ⟨h1, h2⟩

set_option maxHeartbeats 1000000 in
set_option maxRecDepth 100000 in
theorem plain_any (s : ByteArray) (w : World) (hs : s.size ≤ 65536) :
    Calls Tryz.prog 51 #[.string s] w fun e w' => sv.Says (Plain s.data.toList) e ∧ w' = w := by
  by_cases hsafe : Safe s.data.toList
  case neg =>
    go_enter Tryz.func51, Tryz.ntmps51
    go_wp2_with fail
    refine (sv.spec_any s _ (by unfold maxLen; omega)).mono ?_
    rintro e w' ⟨h1, rfl⟩
    obtain rfl := sv.says_false h1 hsafe
    go_wp2
    go_ret
    exact ⟨sv.says_no (fun x => hsafe x.1), rfl⟩
  have HS : Hid (Safe s.data.toList) := hsafe
  clear hsafe
  go_enter Tryz.func51, Tryz.ntmps51
  go_wp2_with fail
  refine (sv.spec_any s _ (by unfold maxLen; omega)).mono ?_
  rintro e w' ⟨h1, rfl⟩
  obtain rfl := sv.says_true h1 HS.out
  clear h1
  go_wp2
  go_loop [3] (fun i => ∃ k : Nat, k ≤ s.size ∧ i = .int .i64 k ∧ Clear s k) (fun i => s.size - (intOf i).toNat)
  case atStart => exact ⟨0, Nat.zero_le _, rfl, fun j hj => absurd hj (Nat.not_lt_zero _)⟩
  case round =>
    obtain ⟨k, hk, rfl, hg⟩ := hrel
    have HG : Hid (Clear s k) := hg
    clear hg
    by_cases hlt : k + 1 < s.size
    · have hlt' : (k : Int) + 1 < (s.size : Int) := by omega
      have hk0 : k < s.size := by omega
      by_cases c1 : ((s[k]'hk0).toNat : Int) = 61
      · have d1 : (((s[k]'hk0).toNat : Int) == 61) = true := beq_iff_eq.2 c1
        have H1 : Hid (((s[k]'hk0).toNat : Int) = 61) := c1
        clear c1
        by_cases c2 : ((s[k + 1]'hlt).toNat : Int) = 63
        · have d2 : (((s[k + 1]'hlt).toNat : Int) == 63) = true := beq_iff_eq.2 c2
          have H2 : Hid (((s[k + 1]'hlt).toNat : Int) = 63) := c2
          clear c2
          go_wp2
          go_ret
          exact ⟨sv.says_no (fun x => by have := x.2; rw [sign_at hlt H1.out H2.out] at this; cases this), rfl⟩
        · have d2 : (((s[k + 1]'hlt).toNat : Int) == 63) = false := beq_eq_false_iff_ne.2 c2
          go_wp2
          go_round
          case rel => exact ⟨k + 1, by omega, by go_num, clear_step HG.out hlt (.inr c2)⟩
          case measure => simp [intOf]; omega
      · have d1 : (((s[k]'hk0).toNat : Int) == 61) = false := beq_eq_false_iff_ne.2 c1
        go_wp2
        go_round
        case rel => exact ⟨k + 1, by omega, by go_num, clear_step HG.out hlt (.inl c1)⟩
        case measure => simp [intOf]; omega
    · have hlt' : (s.size : Int) ≤ (k : Int) + 1 := by omega
      go_wp2
      go_ret
      exact ⟨sv.says_yes ⟨HS.out, clear_end HG.out (by omega)⟩, rfl⟩
end Go.Proofs.YtbokolpjdaamiaaGreatDoor.hd

namespace Go.Proofs.YtbokolpjdaamiaaGreatDoor.b6
open Go.RowKit
set_option linter.unusedVariables false

theorem wraps_i64 (n : Int) (h0 : 0 ≤ n) (h1 : n < 2 ^ 62) : IntKind.i64.wrap n = n := by rw [IntKind.wrap_i64]; omega
theorem or_add (i A B : Nat) (h : A % 2 ^ i = 0) (hB : B < 2 ^ i) (hA : A < 4294967296) (hB2 : B < 4294967296) (hi : i ≤ 62) : bits .or .i64 (A : Int) (B : Int) = ((A + B : Nat) : Int) := by
  have := bits_nat .i64 62 (by decide) wraps_i64 A B (by omega) (by omega)
  rw [this.2, nat_join i A B h hB]
theorem and63 (z : Int) (n : Nat) (h : z = n) (hn : n < 4294967296) : bits .and .i64 z 63 = ((n % 64 : Nat) : Int) := by
  subst h
  have := bits_mask .i64 62 (by decide) wraps_i64 6 (by decide) (n : Int) (by omega) (by omega)
  have e : ((2 : Int) ^ 6 - 1) = 63 := by decide
  rw [e] at this
  rw [this]
  omega
theorem or_three (a b c x : Nat) (hx : x = a * 65536 + b * 256 + c) (ha : a < 256) (hb : b < 256) (hc : c < 256) : bits .or .i64 (bits .or .i64 ((a : Int) * 65536) ((b : Int) * 256)) (c : Int) = (x : Int) := by
  rw [show ((a : Int) * 65536) = ((a * 65536 : Nat) : Int) from by omega, show ((b : Int) * 256) = ((b * 256 : Nat) : Int) from by omega]
  rw [or_add 16 (a * 65536) (b * 256) (by omega) (by omega) (by omega) (by omega) (by omega), or_add 8 _ c (by omega) (by omega) (by omega) (by omega) (by omega), hx]

def Went (l q : List UInt8) (k : Nat) : Prop := q ++ enc (l.drop k) = enc l

/-- The cells of three bytes, nought where one lacks. -/
def fill3 (xs : List UInt8) : Array Value := (Lib.byteCells xs ++ [Value.int .u8 0, Value.int .u8 0, Value.int .u8 0].drop xs.length).toArray
theorem size8 : (Tryz.prog.info? 5).map (·.size) = some 1 := by kernel_rfl
end Go.Proofs.YtbokolpjdaamiaaGreatDoor.b6

namespace Go.Proofs.YtbokolpjdaamiaaGreatDoor.hd
open Go.RowKit
set_option linter.unusedVariables false

theorem empty_iff (s : ByteArray) : s.toList.isEmpty = decide (s.size = 0) := by
  rw [Bool.eq_iff_iff, List.isEmpty_iff, decide_eq_true_iff]
  refine ⟨fun h => ?_, fun h => ?_⟩
  · have := Lib.size_eq s; rw [← Lib.toList_data, h] at this; exact this
  · have := Lib.size_eq s; rw [h] at this; rw [Lib.toList_data]; exact List.eq_nil_of_length_eq_zero this.symm
theorem F_wide4 (n k b0 b1 b2 b3 : Nat) : (ut.decF n k b0 b1 b2 b3).2 ≤ 4 := by
  unfold ut.decF
  repeat' split
  all_goals simp
theorem wide4 (s : ByteArray) (k : Nat) : (Utf8.decode s k).2 ≤ 4 := by rw [ut.dec_eq]; exact F_wide4 _ _ _ _ _ _
theorem cut_pos {s : ByteArray} {k : Nat} (h : s.size ≠ 0) (hk : ut.CutAt s 45 k) : 0 < k ∧ k ≤ s.size ∧ k ≤ 45 := by
  obtain ⟨j, rfl, h1, h2, h3⟩ := hk
  refine ⟨?_, h1, by omega⟩
  rcases Nat.eq_zero_or_pos j with rfl | hj
  · rcases h3 with h3 | h3
    · exfalso
      have := wide4 s 0
      simp only [ut.pos, Nat.zero_add] at h3
      omega
    · simp only [ut.pos] at h3 ⊢
      omega
  · have := ut.pos_ge s j
    omega
theorem word_len (l : List UInt8) : (wordL l).length = 12 + (l.length + 2) / 3 * 4 := by
  unfold wordL head tail
  rw [List.length_append, List.length_append, b6.enc_length]
  simp
  omega

end Go.Proofs.YtbokolpjdaamiaaGreatDoor.hd

namespace Go.Proofs.YtbokolpjdaamiaaGreatDoor.hd
open Go.RowKit
set_option linter.unusedVariables false

/-- What a text is encoded to. -/
def EncIs (s r : ByteArray) : Prop := (Plain s.data.toList ∧ r = s) ∨ (¬ Plain s.data.toList ∧ EndsAny s [] r.data.toList)
theorem enc_same {s r r' : ByteArray} (h : EncIs s r) (h' : EncIs s r') : r = r' := by
  rcases h with ⟨h1, rfl⟩ | ⟨h1, h2⟩
  · rcases h' with ⟨h3, rfl⟩ | ⟨h3, h4⟩
    · rfl
    · exact absurd h1 h3
  · rcases h' with ⟨h3, rfl⟩ | ⟨h3, h4⟩
    · exact absurd h3 h1
    · exact ut.bytes_ext (ends_same h2 h4)
theorem rune_parts {s : ByteArray} {k : Nat} {e : Ending} (h : ut.RuneRet s k e) : ∃ (r : Int) (b : Bool), e = .returned (.tuple #[.int .i64 r, .int .i64 ((Utf8.decode s k).2 : Int), .bool b]) := by
  rcases h with ⟨hb, rfl⟩ | ⟨_, rfl⟩
  · exact ⟨0, false, by rw [ut.bad_wide hb]; rfl⟩
  · exact ⟨_, true, rfl⟩

set_option maxHeartbeats 4000000 in
set_option maxRecDepth 100000 in
theorem specEncode_any (s : ByteArray) (w : World) (hs : s.size ≤ 1000) :
    Calls Tryz.prog 26 #[.string s] w fun e w' => (∃ r, e = .returned (.string r) ∧ EncIs s r) ∧ Below w.heap.size w w' := by
  by_cases hp : Plain s.data.toList
  · go_enter Tryz.func26, Tryz.ntmps26
    go_wp2_with fail
    refine (plain_any s _ (by omega)).mono ?_
    rintro e w' ⟨h1, rfl⟩
    obtain rfl := sv.says_true h1 hp
    go_wp2
    go_ret
    exact ⟨⟨s, rfl, .inl ⟨hp, rfl⟩⟩, Below.refl _ _⟩
  have HP : Hid (¬ Plain s.data.toList) := hp
  clear hp
  go_enter Tryz.func26, Tryz.ntmps26
  go_wp2_with fail
  refine (plain_any s _ (by omega)).mono ?_
  rintro e w' ⟨h1, rfl⟩
  obtain rfl := sv.says_false h1 HP.out
  clear h1
  go_wp2
  go_loopw [0, 3] (fun t o wr => ∃ c out : ByteArray, t = .string c ∧ o = .string out ∧ c.size ≤ 1000 ∧ out.size + 200 * c.size ≤ 200000 ∧ Below w'.heap.size w' wr ∧ Hid (∀ r, EndsAny c out.data.toList r → EndsAny s [] r)) (fun t _ _ => (match t with | .string c => c.size | _ => 0))
  case atStart => exact ⟨s, ⟨#[]⟩, rfl, rfl, hs, by show 0 + _ ≤ _; omega, Below.refl _ _, fun r h => h⟩
  case round =>
    obtain ⟨c, out, rfl, rfl, hc, hlen, hbw, HE⟩ := hrel
    by_cases h0 : c.size = 0
    · have z : c.toList.isEmpty = true := by rw [empty_iff]; simp [h0]
      go_wp2
      go_ret
      exact ⟨⟨out, rfl, .inr ⟨HP.out, HE.out _ (ends_nil _ h0)⟩⟩, hbw⟩
    have z : c.toList.isEmpty = false := by rw [empty_iff]; simp [h0]
    have hB := hbw.size
    go_wp2
    go_loop [4] (fun i => ∃ j : Nat, ut.pos c j ≤ c.size ∧ ut.pos c j ≤ 45 ∧ i = .int .i64 (ut.pos c j)) (fun i => c.size - (intOf i).toNat)
    case atStart => exact ⟨0, Nat.zero_le _, Nat.zero_le _, rfl⟩
    case round =>
      obtain ⟨j, hj1, hj2, rfl⟩ := hrel
      obtain ⟨p, hp⟩ : ∃ p, p = ut.pos c j := ⟨_, rfl⟩
      rw [← hp] at hj1 hj2 ⊢
      have HPJ : Hid (p = ut.pos c j) := hp
      clear hp
      have cp0 : (0 : Int) ≤ (p : Int) := by omega
      have cp1 : (p : Int) ≤ (c.size : Int) := by omega
      by_cases hlt : p < c.size
      · have hwd := ut.wide c p hlt
        have hw4 := wide4 c p
        go_wp2_with fail
        refine (ut.rune_any c p _ (by omega) hlt).mono ?_
        rintro e w1 ⟨hr, rfl⟩
        obtain ⟨r, b, rfl⟩ := rune_parts hr
        clear hr
        obtain ⟨m, hm⟩ : ∃ m, m = (Utf8.decode c p).2 := ⟨_, rfl⟩
        rw [← hm] at hwd hw4 ⊢
        have HM : Hid (m = (Utf8.decode c p).2) := hm
        clear hm
        by_cases hbr : 45 < p + m
        · have hbr' : (45 : Int) < (p : Int) + (m : Int) := by omega
          have hcut : ut.CutAt c 45 p := ⟨j, HPJ.out, hj1, by omega, .inl (by rw [ut.pos, ← HPJ.out, ← HM.out]; omega)⟩
          have hcp := cut_pos h0 hcut
          obtain ⟨k0, k1, k2⟩ := hcp
          have HK : Hid (ut.CutAt c 45 p) := hcut
          clear hcut
          by_cases ho : out.size = 0
          all_goals
            first
            | (have zo : out.toList.isEmpty = true := by rw [empty_iff]; exact decide_eq_true ho
               obtain ⟨o2, ho2⟩ : ∃ o2, o2 = out := ⟨_, rfl⟩
               have HO : Hid (o2.data.toList = out.data.toList ++ sep out.data.toList) := by
                 rw [ho2, show out.data.toList = [] from List.eq_nil_of_length_eq_zero (by rw [← Lib.size_eq]; exact ho)]
                 exact rfl
               have ho3 : o2.size ≤ out.size + 1 := by rw [ho2]; omega
               go_wp2_with fail
               rw [← ho2]
               clear ho2 ho)
            | (have zo : out.toList.isEmpty = false := by rw [empty_iff]; exact decide_eq_false ho
               obtain ⟨o2, ho2⟩ : ∃ o2, o2 = out ++ { data := #[32] } := ⟨_, rfl⟩
               have HO : Hid (o2.data.toList = out.data.toList ++ sep out.data.toList) := by
                 rw [ho2]
                 unfold sep
                 rw [if_neg (fun e => ho (by rw [Lib.size_eq, e]; rfl))]
                 exact (by simp : (out ++ { data := #[32] } : ByteArray).data.toList = out.data.toList ++ [32])
               have ho3 : o2.size ≤ out.size + 1 := by rw [ho2, ByteArray.size_append]; exact Nat.le_refl _
               go_wp2_with fail
               rw [← ho2]
               clear ho2 ho)
          all_goals
            have hql : (c.extract 0 p).data.toList.length = p := by rw [← Lib.size_eq, ByteArray.size_extract]; omega
            obtain ⟨W3, cap, hcv, hlies, hb3⟩ : ∃ W3 cap, (convert 9 22 (.string (c.extract 0 p))).run Tryz.prog w1 = .ok (.slice (some ⟨w1.heap.size, 0, none⟩) p cap) W3 ∧ ow.Lies W3 (.slice (some ⟨w1.heap.size, 0, none⟩) p cap) (c.extract 0 p).data.toList ∧ Below w1.heap.size w1 W3 := by
              have e : (c.extract 0 p).size = p := by rw [ByteArray.size_extract]; omega
              have h1 := Lib.run_convert_string_bytes (P := Tryz.prog) w1 9 22 5 (c.extract 0 p) Tryz.underlying9 Tryz.underlying22 Tryz.underlying5
              have h2 := ow.lies_conv w1 5 (c.extract 0 p)
              rw [e] at h1 h2
              exact ⟨_, _, h1, h2, ow.below_conv _ _ _⟩
            have hbw3 := hbw.trans (hb3.mono hbw.size)
            have HL : Hid (ow.Reads .u8 W3 (.slice (some ⟨w1.heap.size, 0, none⟩) p cap) (b6.bz (c.extract 0 p).data.toList)) := ow.reads_lies hlies
            obtain ⟨q, hq⟩ : ∃ q, q = (c.extract 0 p).data.toList := ⟨_, rfl⟩
            rw [← hq] at hql HL
            have HQ : Hid (q = (c.extract 0 p).data.toList) := hq
            clear hlies hb3 hq
            rw [hcv]
            simp only [Result.andThen]
            rw [Oper.upon_value]
            go_wp2_with fail
            refine (b6.specEnc_any _ q _ HL.out (by omega)).mono ?_
            rintro e W4 ⟨rfl, hb4⟩
            have hbw4 := hbw3.trans (hb4.mono hbw3.size)
            clear HL hbw3 hb4 hcv hbw
            obtain ⟨E, hE⟩ : ∃ E : ByteArray, E = ⟨(b6.enc q).toArray⟩ := ⟨_, rfl⟩
            have hEs : E.size ≤ 64 := by rw [Lib.size_eq, hE]; show (b6.enc q).length ≤ 64; rw [b6.enc_length]; omega
            have hEs' : (E.size : Int) ≤ 64 := by omega
            have ho4 : (o2.size : Int) ≤ 200001 := by omega
            rw [← hE]
            have HE2 : Hid (E = ⟨(b6.enc q).toArray⟩) := hE
            clear hE
            go_wp2
            go_roundw
            case rel =>
              have e2 : (o2 ++ (({ data := #[61, 63, 117, 116, 102, 45, 56, 63, 66, 63] } : ByteArray) ++ E ++ { data := #[63, 61] })).data.toList = out.data.toList ++ sep out.data.toList ++ wordL q := by
                rw [← HO.out, HE2.out]
                simp [wordL, head, tail]
              refine ⟨c.extract p c.size, _, rfl, rfl, by rw [ByteArray.size_extract]; omega, ?_, hbw4, fun r hr => HE.out r (ends_step h0 HK.out (by rw [← HQ.out, ← e2]; exact hr))⟩
              rw [ByteArray.size_append, ByteArray.size_append, ByteArray.size_append, ByteArray.size_extract]
              show _ + (10 + E.size + 2) + _ ≤ _
              omega
            case measure =>
              simp only [ByteArray.size_extract]
              simp
              omega
        · have hbr' : (p : Int) + (m : Int) ≤ 45 := by omega
          go_wp2
          go_round
          case rel => exact ⟨j + 1, by rw [ut.pos, ← HPJ.out, ← HM.out]; omega, by rw [ut.pos, ← HPJ.out, ← HM.out]; omega, by rw [ut.pos, ← HPJ.out, ← HM.out]; go_num⟩
          case measure => simp [intOf]; omega
      · have hcut : ut.CutAt c 45 p := ⟨j, HPJ.out, hj1, by omega, .inr (by omega)⟩
        have hcp := cut_pos h0 hcut
        obtain ⟨k0, k1, k2⟩ := hcp
        have HK : Hid (ut.CutAt c 45 p) := hcut
        clear hcut
        by_cases ho : out.size = 0
        all_goals
          first
          | (have zo : out.toList.isEmpty = true := by rw [empty_iff]; exact decide_eq_true ho
             obtain ⟨o2, ho2⟩ : ∃ o2, o2 = out := ⟨_, rfl⟩
             have HO : Hid (o2.data.toList = out.data.toList ++ sep out.data.toList) := by
               rw [ho2, show out.data.toList = [] from List.eq_nil_of_length_eq_zero (by rw [← Lib.size_eq]; exact ho)]
               exact rfl
             have ho3 : o2.size ≤ out.size + 1 := by rw [ho2]; omega
             go_wp2_with fail
             rw [← ho2]
             clear ho2 ho)
          | (have zo : out.toList.isEmpty = false := by rw [empty_iff]; exact decide_eq_false ho
             obtain ⟨o2, ho2⟩ : ∃ o2, o2 = out ++ { data := #[32] } := ⟨_, rfl⟩
             have HO : Hid (o2.data.toList = out.data.toList ++ sep out.data.toList) := by
               rw [ho2]
               unfold sep
               rw [if_neg (fun e => ho (by rw [Lib.size_eq, e]; rfl))]
               exact (by simp : (out ++ { data := #[32] } : ByteArray).data.toList = out.data.toList ++ [32])
             have ho3 : o2.size ≤ out.size + 1 := by rw [ho2, ByteArray.size_append]; exact Nat.le_refl _
             go_wp2_with fail
             rw [← ho2]
             clear ho2 ho)
        all_goals
          have hql : (c.extract 0 p).data.toList.length = p := by rw [← Lib.size_eq, ByteArray.size_extract]; omega
          obtain ⟨W3, cap, hcv, hlies, hb3⟩ : ∃ W3 cap, (convert 9 22 (.string (c.extract 0 p))).run Tryz.prog wr = .ok (.slice (some ⟨wr.heap.size, 0, none⟩) p cap) W3 ∧ ow.Lies W3 (.slice (some ⟨wr.heap.size, 0, none⟩) p cap) (c.extract 0 p).data.toList ∧ Below wr.heap.size wr W3 := by
            have e : (c.extract 0 p).size = p := by rw [ByteArray.size_extract]; omega
            have h1 := Lib.run_convert_string_bytes (P := Tryz.prog) wr 9 22 5 (c.extract 0 p) Tryz.underlying9 Tryz.underlying22 Tryz.underlying5
            have h2 := ow.lies_conv wr 5 (c.extract 0 p)
            rw [e] at h1 h2
            exact ⟨_, _, h1, h2, ow.below_conv _ _ _⟩
          have hbw3 := hbw.trans (hb3.mono hbw.size)
          have HL : Hid (ow.Reads .u8 W3 (.slice (some ⟨wr.heap.size, 0, none⟩) p cap) (b6.bz (c.extract 0 p).data.toList)) := ow.reads_lies hlies
          obtain ⟨q, hq⟩ : ∃ q, q = (c.extract 0 p).data.toList := ⟨_, rfl⟩
          rw [← hq] at hql HL
          have HQ : Hid (q = (c.extract 0 p).data.toList) := hq
          clear hlies hb3 hq
          rw [hcv]
          simp only [Result.andThen]
          rw [Oper.upon_value]
          go_wp2_with fail
          refine (b6.specEnc_any _ q _ HL.out (by omega)).mono ?_
          rintro e W4 ⟨rfl, hb4⟩
          have hbw4 := hbw3.trans (hb4.mono hbw3.size)
          clear HL hbw3 hb4 hcv hbw
          obtain ⟨E, hE⟩ : ∃ E : ByteArray, E = ⟨(b6.enc q).toArray⟩ := ⟨_, rfl⟩
          have hEs : E.size ≤ 64 := by rw [Lib.size_eq, hE]; show (b6.enc q).length ≤ 64; rw [b6.enc_length]; omega
          have hEs' : (E.size : Int) ≤ 64 := by omega
          have ho4 : (o2.size : Int) ≤ 200001 := by omega
          rw [← hE]
          have HE2 : Hid (E = ⟨(b6.enc q).toArray⟩) := hE
          clear hE
          go_wp2
          go_roundw
          case rel =>
            have e2 : (o2 ++ (({ data := #[61, 63, 117, 116, 102, 45, 56, 63, 66, 63] } : ByteArray) ++ E ++ { data := #[63, 61] })).data.toList = out.data.toList ++ sep out.data.toList ++ wordL q := by
              rw [← HO.out, HE2.out]
              simp [wordL, head, tail]
            refine ⟨c.extract p c.size, _, rfl, rfl, by rw [ByteArray.size_extract]; omega, ?_, hbw4, fun r hr => HE.out r (ends_step h0 HK.out (by rw [← HQ.out, ← e2]; exact hr))⟩
            rw [ByteArray.size_append, ByteArray.size_append, ByteArray.size_append, ByteArray.size_extract]
            show _ + (10 + E.size + 2) + _ ≤ _
            omega
          case measure =>
            simp only [ByteArray.size_extract]
            simp
            omega
end Go.Proofs.YtbokolpjdaamiaaGreatDoor.hd

namespace Go.Proofs.YtbokolpjdaamiaaGreatDoor.hd
open Go
set_option linter.unusedVariables false

/-- Words with blanks between. -/
def joinB : Bool → List (List UInt8) → List UInt8
  | _, [] => []
  | f, x :: r => (if f then [] else [32]) ++ x ++ joinB false r
theorem join_cut : ∀ (l cur : List UInt8) (f : Bool), joinB f (cutGo cur l) = (if f then [] else [32]) ++ cur ++ l
  | [], cur, f => by simp [cutGo, joinB]
  | b :: l, cur, f => by
    rw [cutGo]
    split
    · rename_i h
      have hb : b = 32 := by rw [← UInt8.toNat_inj]; exact h
      rw [joinB, join_cut l [] false]
      simp [hb]
    · rw [join_cut l (cur ++ [b]) f]
      simp
theorem dec_join : ∀ (ws : List (List UInt8)) (f was : Bool) (o : List UInt8), (∀ x ∈ ws, ∀ y, ¬ Coded x y) → Dec f was ws o → o = joinB f ws
  | [], f, was, o, _, h => h
  | x :: r, f, was, o, hn, h => by
    rcases h with ⟨y, p, hc, _⟩ | ⟨_, p, hd, rfl⟩
    · exact absurd hc (hn x List.mem_cons_self y)
    · rw [joinB, dec_join r false false p (fun z hz => hn z (List.mem_cons_of_mem _ hz)) hd]
theorem cut_infix : ∀ (l cur x : List UInt8), x ∈ cutGo cur l → ∃ p q, cur ++ l = p ++ x ++ q
  | [], cur, x, h => by
    simp [cutGo] at h
    exact ⟨[], [], by simp [h]⟩
  | b :: l, cur, x, h => by
    rw [cutGo] at h
    split at h
    · rcases List.mem_cons.1 h with rfl | h
      · exact ⟨[], b :: l, by simp⟩
      · obtain ⟨p, q, e⟩ := cut_infix l [] x h
        exact ⟨cur ++ b :: p, q, by rw [List.nil_append] at e; rw [e]; simp⟩
    · obtain ⟨p, q, e⟩ := cut_infix l (cur ++ [b]) x h
      exact ⟨p, q, by rw [← e]; simp⟩
theorem coded_sign {x y p q : List UInt8} (h : Coded x y) : Lib.contains (p ++ x ++ q) sign = true := by
  obtain ⟨t, ht⟩ := List.isPrefixOf_iff_prefix.1 h.1
  rw [contains_iff, ← ht]
  refine ⟨p.length, ?_, ?_⟩
  · rw [List.append_assoc, List.getElem?_append_right (Nat.le_refl _)]
    simp [head]
  · rw [List.append_assoc, List.getElem?_append_right (by omega)]
    simp [head]
theorem plain_back {l o : List UInt8} (h : Plain l) (hd : Dec true false (cutGo [] l) o) : o = l := by
  have := dec_join _ _ _ _ (fun x hx y hc => by
    obtain ⟨p, q, e⟩ := cut_infix l [] x hx
    have h1 := coded_sign (p := p) (q := q) hc
    rw [List.nil_append] at e
    rw [← e, h.2] at h1
    cases h1) hd
  rw [this, join_cut]
  simp

/-- Characters of words. -/
def signs (x : List UInt8) : Prop := ∀ b ∈ x, 33 ≤ b.toNat ∧ b.toNat ≤ 126
theorem cut_last : ∀ (x cur : List UInt8), signs x → cutGo cur x = [cur ++ x]
  | [], cur, _ => by simp [cutGo]
  | b :: x, cur, h => by
    have hb := h b List.mem_cons_self
    rw [cutGo, if_neg (by omega), cut_last x (cur ++ [b]) (fun c hc => h c (List.mem_cons_of_mem _ hc))]
    simp
theorem cut_first : ∀ (x cur r : List UInt8), signs x → cutGo cur (x ++ 32 :: r) = (cur ++ x) :: cutGo [] r
  | [], cur, r, _ => by simp [cutGo]
  | b :: x, cur, r, h => by
    have hb := h b List.mem_cons_self
    rw [List.cons_append, cutGo, if_neg (by omega), cut_first x (cur ++ [b]) r (fun c hc => h c (List.mem_cons_of_mem _ hc))]
    simp
theorem cut_join : ∀ (r : List (List UInt8)) (x : List UInt8), signs x → (∀ y ∈ r, signs y) → cutGo [] (x ++ joinB false r) = x :: r
  | [], x, h, _ => by
    rw [joinB, List.append_nil, cut_last x [] h]
    rfl
  | y :: r, x, h, hr => by
    have e : x ++ joinB false (y :: r) = x ++ 32 :: (y ++ joinB false r) := by simp [joinB]
    rw [e, cut_first x [] _ h, cut_join r y (hr y List.mem_cons_self) (fun z hz => hr z (List.mem_cons_of_mem _ hz))]
    rfl
theorem wid_word : ∀ (x : List UInt8) (w : Nat), signs x → w + x.length ≤ 200 → x.foldl step (some w) = some (w + x.length)
  | [], w, _, _ => rfl
  | b :: x, w, h, hl => by
    have hb := h b List.mem_cons_self
    simp only [List.length_cons] at hl
    rw [List.foldl_cons, st_ch (by omega) (by omega) (by omega) (by omega), wid_word x (w + 1) (fun c hc => h c (List.mem_cons_of_mem _ hc)) (by omega)]
    simp
    omega
theorem wid_join : ∀ (r : List (List UInt8)) (x : List UInt8), signs x → x ≠ [] → x.length ≤ 200 → (∀ y ∈ r, signs y ∧ y ≠ [] ∧ y.length ≤ 200) → ∃ w, wid (x ++ joinB false r) = some w ∧ 0 < w
  | [], x, h, h0, hl, _ => by
    rw [joinB, List.append_nil]
    exact ⟨0 + x.length, wid_word x 0 h (by omega), by have := List.length_pos_iff.2 h0; omega⟩
  | y :: r, x, h, h0, hl, hr => by
    have hy := hr y List.mem_cons_self
    obtain ⟨w, hw, hp⟩ := wid_join r y hy.1 hy.2.1 hy.2.2 (fun z hz => hr z (List.mem_cons_of_mem _ hz))
    refine ⟨w, ?_, hp⟩
    have e : x ++ joinB false (y :: r) = x ++ 32 :: (y ++ joinB false r) := by simp [joinB]
    rw [e]
    unfold wid
    rw [List.foldl_append, wid_word x 0 h (by omega), List.foldl_cons, st_sp (by rfl) (by have := List.length_pos_iff.2 h0; omega)]
    exact hw
theorem letter_sign : ∀ n : Fin 64, 33 ≤ (b6.L n.val).toNat ∧ (b6.L n.val).toNat ≤ 126 := by decide +kernel
theorem lsign (n : Nat) (h : n < 64) : 33 ≤ (b6.L n).toNat ∧ (b6.L n).toNat ≤ 126 := letter_sign ⟨n, h⟩
theorem enc_signs : ∀ (n : Nat) (l : List UInt8), l.length ≤ n → signs (b6.enc l)
  | n, [], _ => by simp [b6.enc, signs]
  | n, [a], _ => by
    have ha := a.toNat_lt
    intro b hb
    simp only [b6.enc, List.mem_cons, List.not_mem_nil, or_false] at hb
    rcases hb with rfl | rfl | rfl | rfl
    · exact lsign _ (by omega)
    · exact lsign _ (by omega)
    · decide
    · decide
  | n, [a, c], _ => by
    have ha := a.toNat_lt
    have hc := c.toNat_lt
    intro b hb
    simp only [b6.enc, List.mem_cons, List.not_mem_nil, or_false] at hb
    rcases hb with rfl | rfl | rfl | rfl
    · exact lsign _ (by omega)
    · exact lsign _ (by omega)
    · exact lsign _ (by omega)
    · decide
  | 0, a :: c :: d :: r, h => by simp at h
  | n + 1, a :: c :: d :: r, h => by
    have ha := a.toNat_lt
    have hc := c.toNat_lt
    have hd := d.toNat_lt
    intro b hb
    simp only [b6.enc, List.mem_cons] at hb
    have ih := enc_signs n r (by simp at h; omega)
    rcases hb with hb | hb | hb | hb | hb
    · rw [hb]; exact lsign _ (by omega)
    · rw [hb]; exact lsign _ (by omega)
    · rw [hb]; exact lsign _ (by omega)
    · rw [hb]; exact lsign _ (by omega)
    · exact ih b hb
theorem word_signs (q : List UInt8) : signs (wordL q) := by
  intro b hb
  unfold wordL at hb
  rcases List.mem_append.1 hb with hb | hb
  · rcases List.mem_append.1 hb with hb | hb
    · have : ∀ b ∈ head, 33 ≤ b.toNat ∧ b.toNat ≤ 126 := by decide
      exact this b hb
    · exact enc_signs q.length q (Nat.le_refl _) b hb
  · have : ∀ b ∈ tail, 33 ≤ b.toNat ∧ b.toNat ≤ 126 := by decide
    exact this b hb
theorem word_coded {q : List UInt8} (h : q ≠ []) (hr : ut.Right ⟨q.toArray⟩) : Coded (wordL q) q := by
  have e : (wordL q).drop 10 = b6.enc q ++ tail := by
    unfold wordL
    rw [List.append_assoc]
    exact List.drop_left (l₁ := head)
  refine ⟨?_, ?_, ?_, h, hr⟩
  · exact List.isPrefixOf_iff_prefix.2 ⟨b6.enc q ++ tail, by unfold wordL; simp⟩
  · rw [e]
    exact List.isSuffixOf_iff_suffix.2 ⟨b6.enc q, rfl⟩
  · rw [e, List.length_append, show tail.length = 2 from rfl, Nat.add_sub_cancel, List.take_left]
    exact b6.dec_enc q
theorem dec_codes : ∀ (qs : List (List UInt8)) (f was : Bool), (f = true ∨ was = true) → (∀ q ∈ qs, Coded (wordL q) q) → Dec f was (qs.map wordL) qs.flatten
  | [], f, was, _, _ => rfl
  | q :: qs, f, was, hf, h => by
    have := dec_code (f := f) (was := was) (h q List.mem_cons_self) (dec_codes qs false true (.inr rfl) (fun z hz => h z (List.mem_cons_of_mem _ hz)))
    rw [if_pos (by rcases hf with hf | hf <;> simp [hf])] at this
    simpa using this
/-- Words that follow others. -/
def rows (out : List UInt8) (qs : List (List UInt8)) : List UInt8 := qs.foldl (fun o q => o ++ sep o ++ wordL q) out
theorem word_ne (q : List UInt8) : wordL q ≠ [] := by simp [wordL, head]
theorem rows_more : ∀ (qs : List (List UInt8)) (out : List UInt8), out ≠ [] → rows out qs = out ++ joinB false (qs.map wordL)
  | [], out, _ => by simp [rows, joinB]
  | q :: qs, out, h => by
    have e : rows out (q :: qs) = rows (out ++ sep out ++ wordL q) qs := rfl
    rw [e, rows_more qs _ (by simp [word_ne]), sep, if_neg h]
    simp [joinB]
theorem ext_suf (A B : List UInt8) : (ut.mk (A ++ B)).extract A.length (ut.mk (A ++ B)).size = ut.mk B := by
  refine ut.bytes_ext ?_
  rw [Lib.extract_data, ut.mk_list, ut.mk_list, ut.mk_size]
  simp
theorem ends_chunks : ∀ (n : Nat) (zs : List Int) (out r : List UInt8), ut.Runes zs → Ends n (ut.mk (zs.flatMap ut.encB)) out r → ∃ qs : List (List UInt8), zs.flatMap ut.encB = qs.flatten ∧ (∀ q ∈ qs, q ≠ [] ∧ q.length ≤ 45 ∧ ut.Right ⟨q.toArray⟩) ∧ r = rows out qs ∧ r.length ≤ out.length + 73 + 2 * (zs.flatMap ut.encB).length ∧ (zs.flatMap ut.encB = [] → r = out) := by
  intro n
  induction n with
  | zero =>
    intro zs out r hz h
    have h1 : zs.flatMap ut.encB = [] := List.eq_nil_of_length_eq_zero (by rw [← ut.mk_size]; exact h.1)
    exact ⟨[], by rw [h1]; rfl, fun q hq => (by cases hq), h.2, by rw [h.2]; omega, fun _ => h.2⟩
  | succ n ih =>
    intro zs out r hz h
    rcases h with h | ⟨h0, k, hk, h⟩
    · have h1 : zs.flatMap ut.encB = [] := List.eq_nil_of_length_eq_zero (by rw [← ut.mk_size]; exact h.1)
      exact ⟨[], by rw [h1]; rfl, fun q hq => (by cases hq), h.2, by rw [h.2]; omega, fun _ => h.2⟩
    · obtain ⟨k0, k1, k2⟩ := cut_pos h0 hk
      obtain ⟨j, hkj, hks, hkn, hx⟩ := hk
      have hj : j ≤ zs.length := by
        by_cases e : j ≤ zs.length
        · exact e
        · have := ut.pos_lt (ut.mk (zs.flatMap ut.encB)) (show zs.length < j by omega)
          rw [ut.pos_flat_end zs hz] at this
          omega
      have hp := ut.pos_flat zs hz j hj
      have hsplit : zs.flatMap ut.encB = (zs.take j).flatMap ut.encB ++ (zs.drop j).flatMap ut.encB := by rw [← List.flatMap_append, List.take_append_drop]
      obtain ⟨A, hA⟩ : ∃ A, A = (zs.take j).flatMap ut.encB := ⟨_, rfl⟩
      obtain ⟨B, hB⟩ : ∃ B, B = (zs.drop j).flatMap ut.encB := ⟨_, rfl⟩
      have hAl : A.length = k := by rw [hA, ← hp, ← hkj]
      have e1 : (ut.mk (zs.flatMap ut.encB)).extract 0 k = ut.mk A := by rw [hsplit, ← hA, ← hAl]; exact ut.extract_pre A _
      have e2 : (ut.mk (zs.flatMap ut.encB)).extract k (ut.mk (zs.flatMap ut.encB)).size = ut.mk B := by rw [hsplit, ← hA, ← hB, ← hAl]; exact ext_suf A B
      rw [e1, e2, hB, ut.mk_list] at h
      obtain ⟨qs, q1, q2, q3, q4, q5⟩ := ih (zs.drop j) _ _ (fun r hr => hz r (List.mem_of_mem_drop hr)) h
      rw [← hB] at q1 q4 q5
      have hfl : (zs.flatMap ut.encB).length = A.length + B.length := by rw [hsplit, ← hA, ← hB, List.length_append]
      have hsl : (out ++ sep out ++ wordL A).length ≤ out.length + 1 + 72 := by
        rw [List.length_append, List.length_append, word_len]
        have : (sep out).length ≤ 1 := by unfold sep; split <;> simp
        omega
      refine ⟨A :: qs, by rw [hsplit, ← hA, ← hB, q1]; rfl, ?_, q3, ?_, fun e => ?_⟩
      · intro q hq
        rcases List.mem_cons.1 hq with rfl | hq
        · refine ⟨fun e => by rw [e] at hAl; simp at hAl; omega, by omega, ?_⟩
          have := ut.right_flat (zs.take j) (fun r hr => hz r (List.mem_of_mem_take hr))
          rw [hA]
          exact this
        · exact q2 q hq
      · by_cases hB0 : B = []
        · rw [q5 hB0]
          omega
        · have hk42 : 42 ≤ k := by
            rcases hx with hx | hx
            · rw [ut.pos, ← hkj] at hx
              have := wide4 (ut.mk (zs.flatMap ut.encB)) k
              omega
            · exfalso
              rw [ut.mk_size, hfl, hAl] at hx
              have := List.length_pos_iff.2 hB0
              omega
          omega
      · exfalso
        rw [e] at h0
        exact h0 rfl
/-- What a right text is encoded to is safe, and is read back. -/
theorem round_trip {zs : List Int} (hz : ut.Runes zs) (hl : (zs.flatMap ut.encB).length ≤ 900) {r : ByteArray} (h : EncIs (ut.mk (zs.flatMap ut.encB)) r) : Safe r.data.toList ∧ ∀ o, Dec true false (cutGo [] r.data.toList) o → o = zs.flatMap ut.encB := by
  rcases h with ⟨hp, rfl⟩ | ⟨hp, n, he⟩
  · exact ⟨hp.1, fun o ho => plain_back hp ho⟩
  · obtain ⟨qs, q1, q2, q3, q4, q5⟩ := ends_chunks n zs [] _ hz he
    match qs, q1, q2, q3 with
    | [], q1, q2, q3 =>
      exfalso
      apply hp
      rw [ut.mk_list, q1]
      exact ⟨⟨by simp, .inl rfl⟩, rfl⟩
    | q :: qs, q1, q2, q3 =>
      have e : r.data.toList = wordL q ++ joinB false (qs.map wordL) := by
        rw [q3]
        have : rows [] (q :: qs) = rows (wordL q) qs := rfl
        rw [this, rows_more qs _ (word_ne q)]
      have hws : ∀ y ∈ qs.map wordL, signs y ∧ y ≠ [] ∧ y.length ≤ 200 := fun y hy => by
        obtain ⟨z, hz, rfl⟩ := List.mem_map.1 hy
        refine ⟨word_signs z, word_ne z, ?_⟩
        have := (q2 z (List.mem_cons_of_mem _ hz)).2.1
        rw [word_len]
        omega
      have hq := q2 q List.mem_cons_self
      constructor
      · refine ⟨by rw [List.length_nil] at q4; omega, .inr ?_⟩
        rw [e]
        exact wid_join _ _ (word_signs q) (word_ne q) (by rw [word_len]; omega) hws
      · intro o ho
        rw [e, cut_join _ _ (word_signs q) (fun y hy => (hws y hy).1)] at ho
        have := dec_codes (q :: qs) true false (.inl rfl) (fun z hz => word_coded (q2 z hz).1 (q2 z hz).2.2)
        rw [q1]
        exact dec_one _ _ _ _ _ ho this
end Go.Proofs.YtbokolpjdaamiaaGreatDoor.hd
