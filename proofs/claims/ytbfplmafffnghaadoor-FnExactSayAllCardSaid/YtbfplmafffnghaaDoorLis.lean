/-
  What a line says of what follows it: the specification's way.
-/
import Derived.Test.YtbfplmafffnghaaDoorLip
import Derived.Test.YtbfplmafffnghaaDoorNuz
import Derived.Test.YtbfplmafffnghaaDoorOwn
namespace Go.Proofs.YtbfplmafffnghaaDoor.li
open Go.RowKit
open nu
set_option linter.unusedVariables false

def qOf (l : List UInt8) (k : Nat) : List UInt8 := (l.drop (k + 1)).take (l.length - 1 - (k + 1))
/-- Where it can stand. -/
theorem lit_at {l : List UInt8} {k m : Nat} (h : LitIs l m) (hk : k + 1 < l.length) (hdg : ∀ j b, k < j → j + 1 < l.length → l[j]? = some b → IsDig b) (hs : k = 0 ∨ ∀ b, l[k]? = some b → ¬ IsDig b) :
    l[k]? = some 123 ∧ qOf l k = Lib.decDigits m ∧ l.length - 2 - k ≤ 6 := by
  obtain ⟨u, rfl, h6⟩ := h
  have hd := (dec_facts m).1
  have hne := (dec_facts m).2.2.1
  generalize Lib.decDigits m = D at hd hne h6 hk hdg hs ⊢
  have hlen : (u ++ 123 :: (D ++ [125])).length = u.length + 2 + D.length := by simp; omega
  have hp : (u ++ 123 :: (D ++ [125]))[u.length]? = some 123 := by simp
  have hq : ∀ j b, u.length < j → j < u.length + 1 + D.length → (u ++ 123 :: (D ++ [125]))[j]? = some b → IsDig b := by
    intro j b h1 h2 e
    rw [List.getElem?_append_right (by omega), show j - u.length = (j - u.length - 1) + 1 by omega, List.getElem?_cons_succ, List.getElem?_append_left (by omega)] at e
    exact hd b (List.mem_of_getElem? e)
  have hDl : 1 ≤ D.length := List.length_pos_iff.2 hne
  have hku : k = u.length := by
    rcases Nat.lt_trichotomy k u.length with g | g | g
    · exact absurd (hdg u.length 123 g (by rw [hlen]; omega) hp) (by decide)
    · exact g
    · exfalso
      rcases hs with h0 | h0
      · omega
      · have hkl : k < (u ++ 123 :: (D ++ [125])).length := by omega
        have e := List.getElem?_eq_getElem hkl
        exact h0 _ e (hq k _ g (by rw [hlen] at hk; omega) e)
  subst hku
  refine ⟨hp, ?_, by rw [hlen]; omega⟩
  unfold qOf
  have e1 : u ++ 123 :: (D ++ [125]) = (u ++ [123]) ++ (D ++ [125]) := by simp
  have e2 : u.length + 1 = (u ++ [123]).length := by simp
  have e3 : u.length + 2 + D.length - 1 - (u ++ [123]).length = D.length := by rw [← e2]; omega
  rw [hlen, e2, e3, e1, List.drop_left, List.take_left]
theorem lit_of {l : List UInt8} {k m : Nat} (hk : k + 1 < l.length) (hb : l[k]? = some 123) (hl : l[l.length - 1]? = some 125) (hq : qOf l k = Lib.decDigits m) (h6 : l.length - 2 - k ≤ 6) : LitIs l m := by
  have hkl : k < l.length := by omega
  have e1 : l = l.take k ++ 123 :: l.drop (k + 1) := by
    have := List.getElem?_eq_getElem hkl
    rw [this] at hb
    injection hb with hb
    rw [← hb, ← List.drop_eq_getElem_cons hkl, List.take_append_drop]
  have e2 : l.drop (k + 1) = qOf l k ++ [125] := by
    have h3 := (List.take_append_drop (l.length - 1 - (k + 1)) (l.drop (k + 1))).symm
    rw [List.drop_drop, show k + 1 + (l.length - 1 - (k + 1)) = l.length - 1 by omega] at h3
    have hl1 : l.length - 1 < l.length := by omega
    have h4 : l.drop (l.length - 1) = [125] := by
      rw [List.drop_eq_getElem_cons hl1]
      have := List.getElem?_eq_getElem hl1
      rw [this] at hl
      injection hl with hl
      rw [hl, List.drop_eq_nil_of_le (by omega)]
    rw [h4] at h3
    exact h3
  refine ⟨l.take k, by rw [← hq, ← e2]; exact e1, ?_⟩
  rw [← hq]
  unfold qOf
  rw [List.length_take, List.length_drop]
  omega
theorem lit_len {l : List UInt8} {m : Nat} (h : LitIs l m) : 3 ≤ l.length ∧ l[l.length - 1]? = some 125 := by
  obtain ⟨u, rfl, _⟩ := h
  have := List.length_pos_iff.2 (dec_facts m).2.2.1
  refine ⟨by simp; omega, ?_⟩
  rw [show u ++ 123 :: (Lib.decDigits m ++ [125]) = (u ++ 123 :: Lib.decDigits m) ++ [125] by simp]
  simp
theorem num_dig {q : List UInt8} {v : Int} (h : NumIs q v) (hd : ∀ b ∈ q, IsDig b) : ∃ m : Nat, v = m ∧ q = Lib.decDigits m := by
  by_cases h0 : 0 ≤ v
  · exact ⟨v.toNat, (Int.toNat_of_nonneg h0).symm, by rw [h.2.2, itoa_pos h0]⟩
  · exfalso
    have := h.2.2
    rw [itoa_min (by omega)] at this
    exact absurd (hd 45 (by rw [this]; simp)) (by decide)
theorem num_of_q {q : List UInt8} {m : Nat} (h : q = Lib.decDigits m) (hl : q.length ≤ 6) : NumIs q m := by
  have hn : m < 10 ^ 6 := by
    have := Lib.lt_pow_nDigits m
    rw [h, Lib.decDigits_length] at hl
    exact Nat.lt_of_lt_of_le this (Nat.pow_le_pow_right (by decide) hl)
  refine ⟨by omega, by omega, ?_⟩
  rw [itoa_pos (by omega), Int.toNat_natCast]
  exact h
theorem byte_at (s : ByteArray) (j : Nat) (h : j < s.size) : s.data.toList[j]? = some s[j] := by
  rw [List.getElem?_eq_getElem (by rw [← Lib.size_eq]; exact h)]
  rfl
theorem q_dig {l : List UInt8} {k : Nat} (hk : k + 1 < l.length) (hdg : ∀ j b, k < j → j + 1 < l.length → l[j]? = some b → IsDig b) : ∀ b ∈ qOf l k, IsDig b := by
  intro b hb
  obtain ⟨j, hj, e⟩ := List.getElem_of_mem hb
  have hl : (qOf l k).length = l.length - 1 - (k + 1) := by
    unfold qOf
    rw [List.length_take, List.length_drop]
    omega
  have : (qOf l k)[j]? = some b := by rw [List.getElem?_eq_getElem hj, e]
  unfold qOf at this
  rw [List.getElem?_take_of_lt (by omega), List.getElem?_drop] at this
  exact hdg (k + 1 + j) b (by omega) (by omega) this
theorem q_len {l : List UInt8} {k : Nat} (hk : k + 1 < l.length) : (qOf l k).length = l.length - 2 - k := by
  unfold qOf
  rw [List.length_take, List.length_drop]
  omega

set_option maxHeartbeats 4000000 in
set_option maxRecDepth 100000 in
theorem spec_any (s : ByteArray) (w : World) (hs : s.size ≤ 1048576) :
    Calls Tryd.prog 16 #[.string s] w fun e w' => LR (LitIs s.data.toList) e ∧ w' = w := by
  have hlen : s.data.toList.length = s.size := (Lib.size_eq s).symm
  by_cases h3 : s.size < 3
  · have d3 : decide ((s.size : Int) < 3) = true := decide_eq_true (by omega)
    have d3' : (s.size : Int) < 3 := by omega
    have HN : Hid (∀ n, ¬ LitIs s.data.toList n) := fun n y => by have := (lit_len y).1; omega
    clear hlen
    go_enter Tryd.func16, Tryd.ntmps16
    go_wp2
    go_ret2
    exact ⟨⟨0, false, rfl, .inr ⟨rfl, HN.out⟩⟩, rfl⟩
  have d3 : decide ((s.size : Int) < 3) = false := decide_eq_false (by omega)
  have d3' : ¬ (s.size : Int) < 3 := by omega
  have hl1 : s.size - 1 < s.size := by omega
  have hix : ∀ wx : World, (Instr.index 9 (.string s) (.int .i64 ((s.size : Int) - 1))).run Tryd.prog wx = .ok (.int .u8 ((s[s.size - 1]'hl1).toNat : Int)) wx := fun wx => by
    rw [show ((s.size : Int) - 1) = ((s.size - 1 : Nat) : Int) by omega, run_index_string wx 9 s .i64 ((s.size - 1 : Nat) : Int) Tryd.underlying9, dif_pos ⟨by omega, by omega⟩]
    rfl
  have HLB : Hid (s.data.toList[s.size - 1]? = some (s[s.size - 1]'hl1)) := byte_at s _ hl1
  generalize s[s.size - 1]'hl1 = z at hix HLB
  by_cases hz : z.toNat = 125
  rotate_left
  · have dz : ((z.toNat : Int) != 125) = true := by rw [bne_iff_ne]; omega
    have HN : Hid (∀ n, ¬ LitIs s.data.toList n) := fun n y => by
      have := (lit_len y).2
      rw [hlen, HLB.out] at this
      injection this with this
      exact hz (by rw [this]; rfl)
    clear hlen hz
    go_enter Tryd.func16, Tryd.ntmps16
    go_wp2
    go_ret2
    exact ⟨⟨0, false, rfl, .inr ⟨rfl, HN.out⟩⟩, rfl⟩
  have dz : ((z.toNat : Int) != 125) = false := by rw [bne_eq_false_iff_eq]; omega
  have HZ : Hid (s.data.toList[s.data.toList.length - 1]? = some 125) := by rw [hlen, HLB.out, show z = 125 from UInt8.toNat_inj.1 hz]; rfl
  have HLEN : Hid (s.data.toList.length = s.size) := hlen
  have h3' : 3 ≤ s.size := by omega
  clear hz HLB hlen h3
  go_enter Tryd.func16, Tryd.ntmps16
  go_wp2
  clear hix dz
  go_loopw [4] (fun a wr => ∃ k : Nat, a = .int .i64 k ∧ k + 2 ≤ s.size ∧ (∀ j b, k < j → j + 1 < s.data.toList.length → s.data.toList[j]? = some b → IsDig b) ∧ wr = w) (fun a _ => (intOf a).toNat)
  case atStart => exact ⟨s.size - 2, by go_num, by omega, fun j b h1 h2 => by rw [HLEN.out] at h2; omega, rfl⟩
  case round =>
    obtain ⟨k, rfl, hk, hdg, hwr⟩ := hrel
    have hwr := hwr.symm
    subst hwr
    have hkl : k < s.size := by omega
    have hB := byte_at s k hkl
    have hix : ∀ wx : World, (Instr.index 9 (.string s) (.int .i64 (k : Int))).run Tryd.prog wx = .ok (.int .u8 ((s[k]'hkl).toNat : Int)) wx := fun wx => by
      rw [run_index_string wx 9 s .i64 (k : Int) Tryd.underlying9, dif_pos ⟨by omega, by omega⟩]
      rfl
    generalize s[k]'hkl = x at hix hB
    have HB : Hid (s.data.toList[k]? = some x) := hB
    have HDG : Hid (∀ j b, k < j → j + 1 < s.data.toList.length → s.data.toList[j]? = some b → IsDig b) := hdg
    clear hB hdg
    have FIN : Hid ((k = 0 ∨ ∀ b, s.data.toList[k]? = some b → ¬ IsDig b) → ∀ m, LitIs s.data.toList m → x = 123 ∧ qOf s.data.toList k = Lib.decDigits m ∧ s.data.toList.length - 2 - k ≤ 6) := fun h0 m y => by
      obtain ⟨a, b, c⟩ := lit_at y (by rw [HLEN.out]; omega) HDG.out h0
      rw [HB.out] at a
      injection a with a
      exact ⟨a, b, c⟩
    by_cases h0 : 0 < k
    · have z0 : (0 : Int) < (k : Int) := by omega
      have z0d : decide ((0 : Int) < (k : Int)) = true := decide_eq_true z0
      by_cases x0 : 48 ≤ x.toNat
      · have x0' : (48 : Int) ≤ (x.toNat : Int) := by omega
        have x0d : decide ((48 : Int) ≤ (x.toNat : Int)) = true := decide_eq_true x0'
        by_cases x1 : x.toNat ≤ 57
        · have x1' : (x.toNat : Int) ≤ 57 := by omega
          have x1d : decide ((x.toNat : Int) ≤ 57) = true := decide_eq_true x1'
          have HDN : Hid (∀ j b, k - 1 < j → j + 1 < s.data.toList.length → s.data.toList[j]? = some b → IsDig b) := fun j b h1 h2 e => by
            by_cases hj : j = k
            · subst hj
              rw [HB.out] at e
              injection e with e
              subst e
              exact ⟨x0, x1⟩
            · exact HDG.out j b (by omega) h2 e
          clear FIN
          go_wp2
          go_roundw
          case rel => exact ⟨k - 1, by go_num, by omega, HDN.out, by trivial⟩
          case measure => first | (simp [intOf]; done) | (simp [intOf]; omega)
        · have x1' : ¬ (x.toNat : Int) ≤ 57 := by omega
          have x1d : decide ((x.toNat : Int) ≤ 57) = false := decide_eq_false x1'
          have HST : Hid (∀ m, LitIs s.data.toList m → x = 123 ∧ qOf s.data.toList k = Lib.decDigits m ∧ s.data.toList.length - 2 - k ≤ 6) := FIN.out ((.inr fun b e y => x1 (by rw [HB.out] at e; injection e with e; subst e; exact y.2)))
          clear FIN
          by_cases hx : x.toNat = 123
          · have dx : ((x.toNat : Int) != 123) = false := by rw [bne_eq_false_iff_eq]; omega
            have HXE : Hid (x = 123) := UInt8.toNat_inj.1 hx
            by_cases h6 : (6 : Int) < (s.size : Int) - 2 - (k : Int)
            · have d6 : decide ((6 : Int) < (s.size : Int) - 2 - (k : Int)) = true := decide_eq_true h6
              have HN : Hid (∀ n, ¬ LitIs s.data.toList n) := fun n y => by have := (HST.out n y).2.2; rw [HLEN.out] at this; omega
              clear hx HST
              go_wp2
              go_ret2
              exact ⟨⟨0, false, rfl, .inr ⟨rfl, HN.out⟩⟩, rfl⟩
            · have d6 : decide ((6 : Int) < (s.size : Int) - 2 - (k : Int)) = false := decide_eq_false h6
              have hsl := ow.slice_str (P := Tryd.prog) 9 s .i64 .i64 (k + 1) (s.size - 1) Tryd.underlying9 ((k : Int) + 1) ((s.size : Int) - 1) (by omega) (by omega) (by omega) (by omega)
              have HQ : Hid ((s.extract (k + 1) (s.size - 1)).data.toList = qOf s.data.toList k) := by
                unfold Hid qOf
                rw [HLEN.out, ← Lib.toList_data (s.extract (k + 1) (s.size - 1)), Lib.extract_toList]
              have HNB : Hid (∀ W, Calls Tryd.prog 20 #[.string (s.extract (k + 1) (s.size - 1))] W fun e w' => NumRetZ (qOf s.data.toList k) e ∧ w' = W) := fun W => by
                have := nz.number_any (s.extract (k + 1) (s.size - 1)) W (by rw [ByteArray.size_extract]; omega)
                rwa [HQ.out] at this
              have h6' : ¬ (6 : Int) < (s.size : Int) - 2 - (k : Int) := h6
              have HL6 : Hid (s.data.toList.length - 2 - k ≤ 6) := by rw [HLEN.out]; exact (show s.size - 2 - k ≤ 6 by omega)
              have HKL : Hid (k + 1 < s.data.toList.length) := by rw [HLEN.out]; exact (show k + 1 < s.size by omega)
              clear hx h6
              go_wp2_with fail
              refine (HNB.out _).mono ?_
              rintro e w1 ⟨⟨v, B, rfl, hg⟩, h1⟩
              have h1 := h1.symm
              subst h1
              have HR : Hid (GL (LitIs s.data.toList) v B) := by
                rcases hg with ⟨rfl, hn⟩ | ⟨rfl, hn⟩
                · obtain ⟨m, e1, e2⟩ := num_dig hn (q_dig HKL.out HDG.out)
                  exact .inl ⟨rfl, m, e1, lit_of HKL.out (by rw [HB.out, HXE.out]) HZ.out e2 HL6.out⟩
                · refine .inr ⟨rfl, fun m y => hn m (num_of_q (HST.out m y).2.1 ?_)⟩
                  rw [q_len HKL.out]
                  exact HL6.out
              clear hg HNB hsl
              go_wp2
              go_ret2
              exact ⟨⟨v, B, rfl, HR.out⟩, rfl⟩
          · have dx : ((x.toNat : Int) != 123) = true := by rw [bne_iff_ne]; omega
            have HN : Hid (∀ n, ¬ LitIs s.data.toList n) := fun n y => hx (by rw [(HST.out n y).1]; rfl)
            clear hx HST
            go_wp2
            go_ret2
            exact ⟨⟨0, false, rfl, .inr ⟨rfl, HN.out⟩⟩, rfl⟩
      · have x0' : ¬ (48 : Int) ≤ (x.toNat : Int) := by omega
        have x0d : decide ((48 : Int) ≤ (x.toNat : Int)) = false := decide_eq_false x0'
        have HST : Hid (∀ m, LitIs s.data.toList m → x = 123 ∧ qOf s.data.toList k = Lib.decDigits m ∧ s.data.toList.length - 2 - k ≤ 6) := FIN.out ((.inr fun b e y => x0 (by rw [HB.out] at e; injection e with e; subst e; exact y.1)))
        clear FIN
        by_cases hx : x.toNat = 123
        · have dx : ((x.toNat : Int) != 123) = false := by rw [bne_eq_false_iff_eq]; omega
          have HXE : Hid (x = 123) := UInt8.toNat_inj.1 hx
          by_cases h6 : (6 : Int) < (s.size : Int) - 2 - (k : Int)
          · have d6 : decide ((6 : Int) < (s.size : Int) - 2 - (k : Int)) = true := decide_eq_true h6
            have HN : Hid (∀ n, ¬ LitIs s.data.toList n) := fun n y => by have := (HST.out n y).2.2; rw [HLEN.out] at this; omega
            clear hx HST
            go_wp2
            go_ret2
            exact ⟨⟨0, false, rfl, .inr ⟨rfl, HN.out⟩⟩, rfl⟩
          · have d6 : decide ((6 : Int) < (s.size : Int) - 2 - (k : Int)) = false := decide_eq_false h6
            have hsl := ow.slice_str (P := Tryd.prog) 9 s .i64 .i64 (k + 1) (s.size - 1) Tryd.underlying9 ((k : Int) + 1) ((s.size : Int) - 1) (by omega) (by omega) (by omega) (by omega)
            have HQ : Hid ((s.extract (k + 1) (s.size - 1)).data.toList = qOf s.data.toList k) := by
              unfold Hid qOf
              rw [HLEN.out, ← Lib.toList_data (s.extract (k + 1) (s.size - 1)), Lib.extract_toList]
            have HNB : Hid (∀ W, Calls Tryd.prog 20 #[.string (s.extract (k + 1) (s.size - 1))] W fun e w' => NumRetZ (qOf s.data.toList k) e ∧ w' = W) := fun W => by
              have := nz.number_any (s.extract (k + 1) (s.size - 1)) W (by rw [ByteArray.size_extract]; omega)
              rwa [HQ.out] at this
            have h6' : ¬ (6 : Int) < (s.size : Int) - 2 - (k : Int) := h6
            have HL6 : Hid (s.data.toList.length - 2 - k ≤ 6) := by rw [HLEN.out]; exact (show s.size - 2 - k ≤ 6 by omega)
            have HKL : Hid (k + 1 < s.data.toList.length) := by rw [HLEN.out]; exact (show k + 1 < s.size by omega)
            clear hx h6
            go_wp2_with fail
            refine (HNB.out _).mono ?_
            rintro e w1 ⟨⟨v, B, rfl, hg⟩, h1⟩
            have h1 := h1.symm
            subst h1
            have HR : Hid (GL (LitIs s.data.toList) v B) := by
              rcases hg with ⟨rfl, hn⟩ | ⟨rfl, hn⟩
              · obtain ⟨m, e1, e2⟩ := num_dig hn (q_dig HKL.out HDG.out)
                exact .inl ⟨rfl, m, e1, lit_of HKL.out (by rw [HB.out, HXE.out]) HZ.out e2 HL6.out⟩
              · refine .inr ⟨rfl, fun m y => hn m (num_of_q (HST.out m y).2.1 ?_)⟩
                rw [q_len HKL.out]
                exact HL6.out
            clear hg HNB hsl
            go_wp2
            go_ret2
            exact ⟨⟨v, B, rfl, HR.out⟩, rfl⟩
        · have dx : ((x.toNat : Int) != 123) = true := by rw [bne_iff_ne]; omega
          have HN : Hid (∀ n, ¬ LitIs s.data.toList n) := fun n y => hx (by rw [(HST.out n y).1]; rfl)
          clear hx HST
          go_wp2
          go_ret2
          exact ⟨⟨0, false, rfl, .inr ⟨rfl, HN.out⟩⟩, rfl⟩
    · have hk0 : k = 0 := by omega
      subst hk0
      have hix0 : ∀ wx : World, (Instr.index 9 (.string s) (.int .i64 0)).run Tryd.prog wx = .ok (.int .u8 (x.toNat : Int)) wx := hix
      clear hix
      have HST : Hid (∀ m, LitIs s.data.toList m → x = 123 ∧ qOf s.data.toList 0 = Lib.decDigits m ∧ s.data.toList.length - 2 - 0 ≤ 6) := FIN.out ((.inl rfl))
      clear FIN
      by_cases hx : x.toNat = 123
      · have dx : ((x.toNat : Int) != 123) = false := by rw [bne_eq_false_iff_eq]; omega
        have HXE : Hid (x = 123) := UInt8.toNat_inj.1 hx
        by_cases h6 : (6 : Int) < (s.size : Int) - 2
        · have d6 : decide ((6 : Int) < (s.size : Int) - 2) = true := decide_eq_true h6
          have HN : Hid (∀ n, ¬ LitIs s.data.toList n) := fun n y => by have := (HST.out n y).2.2; rw [HLEN.out] at this; omega
          clear hx HST
          go_wp2
          go_ret2
          exact ⟨⟨0, false, rfl, .inr ⟨rfl, HN.out⟩⟩, rfl⟩
        · have d6 : decide ((6 : Int) < (s.size : Int) - 2) = false := decide_eq_false h6
          have hsl := ow.slice_str (P := Tryd.prog) 9 s .i64 .i64 1 (s.size - 1) Tryd.underlying9 1 ((s.size : Int) - 1) (by omega) (by omega) (by omega) (by omega)
          have HQ : Hid ((s.extract 1 (s.size - 1)).data.toList = qOf s.data.toList 0) := by
            unfold Hid qOf
            rw [HLEN.out, ← Lib.toList_data (s.extract 1 (s.size - 1)), Lib.extract_toList]
          have HNB : Hid (∀ W, Calls Tryd.prog 20 #[.string (s.extract 1 (s.size - 1))] W fun e w' => NumRetZ (qOf s.data.toList 0) e ∧ w' = W) := fun W => by
            have := nz.number_any (s.extract 1 (s.size - 1)) W (by rw [ByteArray.size_extract]; omega)
            rwa [HQ.out] at this
          have h6' : ¬ (6 : Int) < (s.size : Int) - 2 := h6
          have HL6 : Hid (s.data.toList.length - 2 - 0 ≤ 6) := by rw [HLEN.out]; exact (show s.size - 2 - 0 ≤ 6 by omega)
          have HKL : Hid (0 + 1 < s.data.toList.length) := by rw [HLEN.out]; exact (show 0 + 1 < s.size by omega)
          clear hx h6
          go_wp2_with fail
          refine (HNB.out _).mono ?_
          rintro e w1 ⟨⟨v, B, rfl, hg⟩, h1⟩
          have h1 := h1.symm
          subst h1
          have HR : Hid (GL (LitIs s.data.toList) v B) := by
            rcases hg with ⟨rfl, hn⟩ | ⟨rfl, hn⟩
            · obtain ⟨m, e1, e2⟩ := num_dig hn (q_dig HKL.out HDG.out)
              exact .inl ⟨rfl, m, e1, lit_of HKL.out (by rw [HB.out, HXE.out]) HZ.out e2 HL6.out⟩
            · refine .inr ⟨rfl, fun m y => hn m (num_of_q (HST.out m y).2.1 ?_)⟩
              rw [q_len HKL.out]
              exact HL6.out
          clear hg HNB hsl
          go_wp2
          go_ret2
          exact ⟨⟨v, B, rfl, HR.out⟩, rfl⟩
      · have dx : ((x.toNat : Int) != 123) = true := by rw [bne_iff_ne]; omega
        have HN : Hid (∀ n, ¬ LitIs s.data.toList n) := fun n y => hx (by rw [(HST.out n y).1]; rfl)
        clear hx HST
        go_wp2
        go_ret2
        exact ⟨⟨0, false, rfl, .inr ⟨rfl, HN.out⟩⟩, rfl⟩
end Go.Proofs.YtbfplmafffnghaaDoor.li
