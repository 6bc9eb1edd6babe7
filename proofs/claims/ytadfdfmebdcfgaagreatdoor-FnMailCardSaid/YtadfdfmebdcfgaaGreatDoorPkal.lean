/-
  Contracts of the program's and of the specification's reading of one word: whether it is an encoded one, and what it says.
  The contract of the specification's reading of one word.
  The contract of the specification's parting of a text at each blank: a list of its parts, which the call made.
  Contracts of both DecodeWords functions: what the words of a safe value say.
  The contract of the program's DecodeWords, and the specification's.
-/
import Derived.Test.YtadfdfmebdcfgaaGreatDoorPkaj
import Derived.Test.YtadfdfmebdcfgaaGreatDoorPkak
import Derived.Test.YtadfdfmebdcfgaaGreatDoorPkab
import Derived.Deep.QuietTactic
import Derived.BigQuiet
import Derived.BigRegion
import Derived.Test.YtadfdfmebdcfgaaGreatDoorPkad
import Derived.Test.YtadfdfmebdcfgaaGreatDoorPkac
import Derived.Test.YtadfdfmebdcfgaaGreatDoorRows
import Derived.WalkKit
import Derived.WalkLawsBesides
import Derived.Laws.AppendOwn
import Derived.Lib.FieldsLaws

namespace Go.Proofs.YtadfdfmebdcfgaaGreatDoor.hd
open Go.RowKit
set_option linter.unusedVariables false

def hB : ByteArray := ⟨#[61, 63, 117, 116, 102, 45, 56, 63, 66, 63]⟩
theorem hB_list : (⟨#[61, 63, 117, 116, 102, 45, 56, 63, 66, 63]⟩ : ByteArray).data.toList = head := rfl
theorem tB_list : (⟨#[63, 61]⟩ : ByteArray).data.toList = tail := rfl
theorem bytes_self (s : ByteArray) : s = ⟨s.data.toList.toArray⟩ := by
  apply ByteArray.ext
  simp
/-- What is between the ends of a word. -/
def mid (l : List UInt8) : List UInt8 := (l.drop 10).take ((l.drop 10).length - 2)
theorem mid_len (l : List UInt8) : (mid l).length ≤ l.length := by
  unfold mid
  rw [List.length_take, List.length_drop]
  omega
theorem not_pre {l : List UInt8} (h : Lib.hasPrefix l head = false) : ∀ y, ¬ Coded l y := fun y x => by have := x.1; rw [h] at this; cases this
theorem not_suf {l : List UInt8} (h : Lib.hasSuffix (l.drop 10) tail = false) : ∀ y, ¬ Coded l y := fun y x => by have := x.2.1; rw [h] at this; cases this
theorem not_dec {l : List UInt8} (h : b6.dec (mid l) = none) : ∀ y, ¬ Coded l y := fun y x => by have := x.2.2.1; rw [show (l.drop 10).take ((l.drop 10).length - 2) = mid l from rfl, h] at this; cases this
theorem not_val {l p : List UInt8} (h : b6.dec (mid l) = some p) (hp : p = [] ∨ ¬ ut.Right ⟨p.toArray⟩) : ∀ y, ¬ Coded l y := fun y x => by
  have h1 : b6.dec (mid l) = some y := x.2.2.1
  rw [h] at h1
  cases h1
  rcases hp with hp | hp
  · exact x.2.2.2.1 hp
  · exact hp x.2.2.2.2
theorem is_coded {l p : List UInt8} (h1 : Lib.hasPrefix l head = true) (h2 : Lib.hasSuffix (l.drop 10) tail = true) (h : b6.dec (mid l) = some p) (hp : p ≠ []) (hr : ut.Right ⟨p.toArray⟩) : Coded l p := ⟨h1, h2, h, hp, hr⟩

/-- What the program says of a word. -/
def WordIs (x y : List UInt8) (b : Bool) : Prop := (b = true ∧ Coded x y) ∨ (b = false ∧ y = x ∧ ∀ z, ¬ Coded x z)

set_option maxHeartbeats 2000000 in
set_option maxRecDepth 100000 in
theorem implWord_any (s : ByteArray) (w : World) (hT : tb.TV w) (hs : s.size ≤ 2000) :
    Calls Tryz.prog 172 #[.string s] w fun e w' => (∃ (y : List UInt8) (b : Bool), e = .returned (.tuple #[.string ⟨y.toArray⟩, .bool b]) ∧ WordIs s.data.toList y b) ∧ Below w.heap.size w w' := by
  go_enter Tryz.func172, Tryz.ntmps172
  go_wp2_with fail
  refine (Tryz.strings_CutPrefix s _ _).mono ?_
  rintro e w' ⟨rfl, rfl⟩
  rw [hB_list]
  cases hp : Lib.hasPrefix s.data.toList head with
  | false =>
    have HP : Hid (Lib.hasPrefix s.data.toList head = false) := hp
    rw [show Lib.trimPrefix s.data.toList head = s.data.toList from by unfold Lib.trimPrefix; rw [hp]; rfl]
    rw [← bytes_self s]
    clear hp
    go_wp2_with fail
    refine (Tryz.strings_CutSuffix s _ _ (by omega)).mono ?_
    rintro e w2 ⟨rfl, rfl⟩
    go_wp2
    go_ret2
    exact ⟨⟨s.data.toList, false, by rw [← bytes_self s]; rfl, .inr ⟨rfl, rfl, not_pre HP.out⟩⟩, Below.refl _ _⟩
  | true =>
    have HP : Hid (Lib.hasPrefix s.data.toList head = true) := hp
    rw [show Lib.trimPrefix s.data.toList head = s.data.toList.drop 10 from by unfold Lib.trimPrefix; rw [hp]; rfl]
    clear hp
    obtain ⟨c, hc⟩ : ∃ c : ByteArray, c = ⟨(s.data.toList.drop 10).toArray⟩ := ⟨_, rfl⟩
    have hcl : c.data.toList = s.data.toList.drop 10 := by rw [hc]
    have hcs : c.size ≤ 2000 := by rw [Lib.size_eq, hcl, List.length_drop, ← Lib.size_eq]; omega
    rw [← hc]
    have HC : Hid (c.data.toList = s.data.toList.drop 10) := hcl
    clear hc hcl
    go_wp2_with fail
    refine (Tryz.strings_CutSuffix c _ _ (by omega)).mono ?_
    rintro e w2 ⟨rfl, rfl⟩
    rw [tB_list]
    cases hp : Lib.hasSuffix c.data.toList tail with
    | false =>
      have HP2 : Hid (Lib.hasSuffix (s.data.toList.drop 10) tail = false) := by have h := hp; rw [HC.out] at h; exact h
      clear hp
      generalize (⟨(Lib.trimSuffix c.data.toList tail).toArray⟩ : ByteArray) = d
      go_wp2
      go_ret2
      exact ⟨⟨s.data.toList, false, by rw [← bytes_self s]; rfl, .inr ⟨rfl, rfl, not_suf HP2.out⟩⟩, Below.refl _ _⟩
    | true =>
      have HP2 : Hid (Lib.hasSuffix (s.data.toList.drop 10) tail = true) := by have h := hp; rw [HC.out] at h; exact h
      obtain ⟨d, hd⟩ : ∃ d : ByteArray, d = ⟨(mid s.data.toList).toArray⟩ := ⟨_, rfl⟩
      rw [show (⟨(Lib.trimSuffix c.data.toList tail).toArray⟩ : ByteArray) = d from by unfold Lib.trimSuffix; rw [hp, hd, HC.out]; rfl]
      have hdl : d.data.toList = mid s.data.toList := by rw [hd]
      have hds : d.size ≤ 2000 := by rw [Lib.size_eq, hdl]; have := mid_len s.data.toList; rw [← Lib.size_eq] at this; omega
      have HD : Hid (d.data.toList = mid s.data.toList) := hdl
      clear hp hd hdl
      go_wp2_with fail
      refine (b6.implGet_any d _ hT (by unfold maxLen; omega)).mono ?_
      rintro e w3 ⟨⟨v, rfl, own⟩, hb3⟩
      clear hT
      cases hdec : b6.dec (mid s.data.toList) with
      | none =>
        have hrc : b6.rc d = 3 := by unfold b6.rc; rw [if_pos (by omega), HD.out, hdec]; rfl
        have HN : Hid (b6.dec (mid s.data.toList) = none) := hdec
        rw [hrc]
        clear hdec hrc own
        go_wp2
        go_ret2
        exact ⟨⟨s.data.toList, false, by rw [← bytes_self s]; rfl, .inr ⟨rfl, rfl, not_dec HN.out⟩⟩, hb3⟩
      | some p =>
        have hrc : b6.rc d = 0 := by unfold b6.rc; rw [if_pos (by omega), HD.out, hdec]; rfl
        have hrl : b6.rl d = p := by unfold b6.rl; rw [if_pos (by omega), HD.out, hdec]; rfl
        have HN : Hid (b6.dec (mid s.data.toList) = some p) := hdec
        have hpl := b6.rl_len d
        rw [hrl] at own hpl
        rw [hrc]
        have cv := ow.conv_bytes (P := Tryz.prog) (src := 22) (dst := 9) p own Tryz.underlying22 Tryz.underlying5 Tryz.underlying9
        obtain ⟨ao, cap, rfl⟩ : ∃ ao cap, v = .slice ao p.length cap := by
          rcases own.2 with ⟨hv, h0⟩ | ⟨g, cap, cur, hv, _⟩
          · exact ⟨none, 0, by rw [hv, h0]⟩
          · exact ⟨_, cap, hv⟩
        clear hdec hrc hrl
        by_cases hp0 : p.length = 0
        · have d0 : ((p.length : Int) == 0) = true := beq_iff_eq.2 (by omega)
          clear cv own
          go_wp2
          go_ret2
          exact ⟨⟨s.data.toList, false, by rw [← bytes_self s]; rfl, .inr ⟨rfl, rfl, not_val HN.out (.inl (List.eq_nil_of_length_eq_zero hp0))⟩⟩, hb3⟩
        have d0 : ((p.length : Int) == 0) = false := beq_eq_false_iff_ne.2 (by omega)
        obtain ⟨P, hP⟩ : ∃ P : ByteArray, P = ⟨p.toArray⟩ := ⟨_, rfl⟩
        rw [← hP] at cv
        have hPs : P.size ≤ 65536 := by rw [hP, Lib.size_eq]; exact hpl
        have HPP : Hid (P = ⟨p.toArray⟩) := hP
        clear hP
        go_wp2_with fail
        refine (ut.isRight_any P _ (by omega)).mono ?_
        rintro e w4 ⟨hsays, q, hw4⟩
        have hb4 : Below w3.heap.size w3 w4 := by rw [hw4]; exact (Below.refl _ _).alloc (Nat.le_refl _) _
        have cv4 := ow.conv_bytes (P := Tryz.prog) (src := 22) (dst := 9) p (ow.own_below own hb4) Tryz.underlying22 Tryz.underlying5 Tryz.underlying9
        rw [← HPP.out] at cv4
        have hb5 := hb3.trans (hb4.mono hb3.size)
        clear hw4 cv own
        by_cases hr : ut.Right P
        · obtain ⟨b, rfl⟩ := ut.says_ex hsays
          obtain rfl : b = true := (ut.says_iff hsays).2 hr
          have HR : Hid (ut.Right P) := hr
          clear hsays hr
          go_wp2
          go_ret2
          exact ⟨⟨p, true, by rw [← HPP.out]; rfl, .inl ⟨rfl, is_coded HP.out HP2.out HN.out (fun e => hp0 (by rw [e]; rfl)) (by rw [← HPP.out]; exact HR.out)⟩⟩, hb5⟩
        · obtain ⟨b, rfl⟩ := ut.says_ex hsays
          obtain rfl : b = false := by
            cases b
            · rfl
            · exact absurd ((ut.says_iff hsays).1 rfl) hr
          have HR : Hid (¬ ut.Right P) := hr
          clear hsays hr cv4
          go_wp2
          go_ret2
          exact ⟨⟨s.data.toList, false, by rw [← bytes_self s]; rfl, .inr ⟨rfl, rfl, not_val HN.out (.inr (by rw [← HPP.out]; exact HR.out))⟩⟩, hb5⟩
end Go.Proofs.YtadfdfmebdcfgaaGreatDoor.hd

namespace Go.Proofs.YtadfdfmebdcfgaaGreatDoor.hd
open Go.RowKit
set_option linter.unusedVariables false

end Go.Proofs.YtadfdfmebdcfgaaGreatDoor.hd

namespace Go.Proofs.YtadfdfmebdcfgaaGreatDoor.hd
open Go.RowKit
set_option linter.unusedVariables false

theorem infoStr : (Tryz.prog.info? 9).map (fun i => (i.zero, i.size, i.bytes)) = some (some (.string ByteArray.empty), 1, 16) := by kernel_rfl
/-- A text as a value. -/
def tv (l : List UInt8) : Value := .string ⟨l.toArray⟩
def piece (s : ByteArray) (f i : Nat) : List UInt8 := (s.data.toList.drop f).take (i - f)
theorem tv_piece (s : ByteArray) (f i : Nat) : tv (piece s f i) = .string (s.extract f i) := by
  unfold tv piece
  congr 1
  apply ByteArray.ext
  rw [← Array.toList_inj]
  show (List.take _ _).toArray.toList = _
  rw [List.toList_toArray, ← Lib.toList_data (s.extract f i), Lib.extract_toList]
theorem drop_at (s : ByteArray) (i : Nat) (h : i < s.size) : s.data.toList.drop i = s[i] :: s.data.toList.drop (i + 1) := by
  rw [List.drop_eq_getElem_cons (by simpa using h)]
  rfl
theorem cut_blank {s : ByteArray} {f i : Nat} {ws : List (List UInt8)} (h : ws ++ cutGo (piece s f i) (s.data.toList.drop i) = cutGo [] s.data.toList) (hi : i < s.size) (hb : (s[i]'hi).toNat = 32) :
    (ws ++ [piece s f i]) ++ cutGo (piece s (i + 1) (i + 1)) (s.data.toList.drop (i + 1)) = cutGo [] s.data.toList := by
  rw [drop_at s i hi, cutGo, if_pos hb] at h
  rw [← h, show piece s (i + 1) (i + 1) = [] from by simp [piece], List.append_assoc]
  rfl
theorem cut_sign {s : ByteArray} {f i : Nat} {ws : List (List UInt8)} (h : ws ++ cutGo (piece s f i) (s.data.toList.drop i) = cutGo [] s.data.toList) (hf : f ≤ i) (hi : i < s.size) (hb : (s[i]'hi).toNat ≠ 32) :
    ws ++ cutGo (piece s f (i + 1)) (s.data.toList.drop (i + 1)) = cutGo [] s.data.toList := by
  rw [drop_at s i hi, cutGo, if_neg hb] at h
  rw [← h, show piece s f (i + 1) = piece s f i ++ [s[i]] from Lib.piece_more hf (by rw [List.getElem?_eq_getElem (by simpa using hi)]; rfl)]
theorem cut_end {s : ByteArray} {f i : Nat} {ws : List (List UInt8)} (h : ws ++ cutGo (piece s f i) (s.data.toList.drop i) = cutGo [] s.data.toList) (hi : s.size ≤ i) : ws ++ [piece s f i] = cutGo [] s.data.toList := by
  rw [List.drop_eq_nil_of_le (by rw [← Lib.size_eq]; exact hi)] at h
  exact h

set_option maxHeartbeats 2000000 in
set_option maxRecDepth 100000 in
theorem cut_any (s : ByteArray) (w : World) (hs : s.size ≤ 1048576) :
    Calls Tryz.prog 80 #[.string s, .int .u8 32] w fun e w' => ∃ v, e = .returned v ∧ w'.ownsRow w.heap.size 9 1 v (cutGo [] s.data.toList).length ((cutGo [] s.data.toList).map tv) ∧ Below w.heap.size w w' := by
  obtain ⟨i0, hi, hz0, hz1, hz2⟩ := info_parts infoStr
  go_enter Tryz.func80, Tryz.ntmps80
  go_wp2
  go_loopw [5, 6, 7] (fun v a b wr => ∃ (f i : Nat) (ws : List (List UInt8)), f ≤ i ∧ i ≤ s.size ∧ a = .int .i64 f ∧ b = .int .i64 i ∧ ws.length ≤ i ∧ wr.ownsRow w.heap.size 9 1 v ws.length (ws.map tv) ∧ Below w.heap.size w wr ∧ ws ++ cutGo (piece s f i) (s.data.toList.drop i) = cutGo [] s.data.toList) (fun _ _ b _ => s.size - (intOf b).toNat)
  case atStart => exact ⟨0, 0, [], Nat.le_refl _, Nat.zero_le _, rfl, rfl, Nat.le_refl _, ow.own_empty w _, (Below.refl _ _).alloc (Nat.le_refl _) _, rfl⟩
  case round =>
    obtain ⟨f, i, ws, hfi, his, rfl, rfl, hwl, hown, hbw, hc⟩ := hrel
    have HC : Hid (ws ++ cutGo (piece s f i) (s.data.toList.drop i) = cutGo [] s.data.toList) := hc
    clear hc
    have hBs := hbw.size
    have c1 : (0 : Int) ≤ (f : Int) := by omega
    have c2 : (f : Int) ≤ (i : Int) := by omega
    have c3 : (i : Int) ≤ (s.size : Int) := by omega
    by_cases hlt : i < s.size
    · by_cases hb : (s[i]'hlt).toNat = 32
      · have d1 : (((s[i]'hlt).toNat : Int) == 32) = true := beq_iff_eq.2 (by omega)
        have HB : Hid ((s[i]'hlt).toNat = 32) := hb
        clear hb
        go_wp2_with (at_builtin; refine wpList_append_own _ rfl _ _ 65 rfl w.heap.size 9 i0 (.string ByteArray.empty) 1 16 Tryz.underlying65 hi hz0 hz1 hz2 rfl (by decide) _ _ _ rfl (hown.alloc _) ⟨wr.heap.size, 0, none⟩ 1 1 [.string (s.extract f i)] rfl rfl (ow.cells_new _ [.string (s.extract f i)] _) (by intro u hu; simp at hu; subst hu; rfl) (by unfold maxLen; omega) (by omega) (by simp; omega) ?_; intro v' w3 hown3 hgrow3 hnil3)
        have hb3 := Below.grown (hbw.alloc hBs _) hgrow3 (by simp; omega) (ow.own_lt hown)
        have HA : Hid (w3.ownsRow w.heap.size 9 1 v' (ws ++ [piece s f i]).length ((ws ++ [piece s f i]).map tv) ∧ Below w.heap.size w w3) := ⟨by rw [List.map_append, List.map_cons, tv_piece, List.length_append]; exact hown3, hb3⟩
        clear hown3 hgrow3 hnil3 hb3 hown hbw
        go_wp2
        go_roundw
        case rel => exact ⟨i + 1, i + 1, ws ++ [piece s f i], Nat.le_refl _, by omega, by go_num, by go_num, by simp; omega, HA.out.1, HA.out.2, cut_blank HC.out hlt HB.out⟩
        case measure => simp [intOf]; omega
      · have d1 : (((s[i]'hlt).toNat : Int) == 32) = false := beq_eq_false_iff_ne.2 (by omega)
        go_wp2
        go_roundw
        case rel => exact ⟨f, i + 1, ws, by omega, by omega, rfl, by go_num, by omega, hown, hbw, cut_sign HC.out hfi hlt hb⟩
        case measure => simp [intOf]; omega
    · have c4 : (f : Int) ≤ (s.size : Int) := by omega
      go_wp2_with (at_builtin; refine wpList_append_own _ rfl _ _ 65 rfl w.heap.size 9 i0 (.string ByteArray.empty) 1 16 Tryz.underlying65 hi hz0 hz1 hz2 rfl (by decide) _ _ _ rfl (hown.alloc _) ⟨wr.heap.size, 0, none⟩ 1 1 [.string (s.extract f s.size)] rfl rfl (ow.cells_new _ [.string (s.extract f s.size)] _) (by intro u hu; simp at hu; subst hu; rfl) (by unfold maxLen; omega) (by omega) (by simp; omega) ?_; intro v' w3 hown3 hgrow3 hnil3)
      have hb3 := Below.grown (hbw.alloc hBs _) hgrow3 (by simp; omega) (ow.own_lt hown)
      have HA : Hid (w3.ownsRow w.heap.size 9 1 v' (cutGo [] s.data.toList).length ((cutGo [] s.data.toList).map tv) ∧ Below w.heap.size w w3) := by
        have e : i = s.size := by omega
        have hc := cut_end HC.out (by omega)
        rw [← hc, List.map_append, List.map_cons, tv_piece, List.length_append, e]
        exact ⟨hown3, hb3⟩
      clear hown3 hgrow3 hnil3 hb3 hown hbw HC
      go_wp2
      go_ret
      exact ⟨v', rfl, HA.out⟩
end Go.Proofs.YtadfdfmebdcfgaaGreatDoor.hd

namespace Go.Proofs.YtadfdfmebdcfgaaGreatDoor.hd
open Go.RowKit
set_option linter.unusedVariables false

theorem coded_len {x y : List UInt8} (h : Coded x y) (hx : x.length ≤ 2000) : y.length ≤ 65536 := by
  have h1 := b6.rl_len ⟨(mid x).toArray⟩
  have h2 := mid_len x
  have h3 : b6.rl ⟨(mid x).toArray⟩ = y := by
    unfold b6.rl
    rw [if_pos (by rw [Lib.size_eq]; show (mid x).length ≤ _; omega)]
    have : b6.dec (mid x) = some y := h.2.2.1
    show (b6.dec (mid x)).getD [] = y
    rw [this]
    rfl
  rw [h3] at h1
  exact h1
theorem next_code {ws : List (List UInt8)} {k : Nat} {x y out : List UInt8} {was : Bool} (hk : ws[k]? = some x) (H : ∀ o, Dec (decide (k = 0)) was (ws.drop k) o → Dec true false ws (out ++ o)) (hc : Coded x y) :
    ∀ o, Dec (decide (k + 1 = 0)) true (ws.drop (k + 1)) o → Dec true false ws ((out ++ (if (decide (k = 0) || was) = true then [] else [32]) ++ y) ++ o) := by
  intro o h
  have := H _ (by rw [Lib.drop_at hk]; exact dec_code hc h)
  simpa [List.append_assoc] using this
theorem next_plain {ws : List (List UInt8)} {k : Nat} {x out : List UInt8} {was : Bool} (hk : ws[k]? = some x) (H : ∀ o, Dec (decide (k = 0)) was (ws.drop k) o → Dec true false ws (out ++ o)) (hc : ∀ y, ¬ Coded x y) :
    ∀ o, Dec (decide (k + 1 = 0)) false (ws.drop (k + 1)) o → Dec true false ws ((out ++ (if decide (k = 0) = true then [] else [32]) ++ x) ++ o) := by
  intro o h
  have := H _ (by rw [Lib.drop_at hk]; exact dec_plain hc h)
  simpa [List.append_assoc] using this
theorem dec_end {ws : List (List UInt8)} {k : Nat} {out : List UInt8} {was f : Bool} (hk : ws.length ≤ k) (H : ∀ o, Dec f was (ws.drop k) o → Dec true false ws (out ++ o)) : Dec true false ws out := by
  rw [List.drop_eq_nil_of_le hk] at H
  have := H [] rfl
  rwa [List.append_nil] at this

end Go.Proofs.YtadfdfmebdcfgaaGreatDoor.hd

namespace Go.Proofs.YtadfdfmebdcfgaaGreatDoor.hd
open Go.RowKit
set_option linter.unusedVariables false

theorem dec_words {l o : List UInt8} : Dec true false (words l) o → Dec true false (cutGo [] l) o := by
  unfold words
  split
  · rename_i h
    subst h
    intro h
    exact dec_empty.2 h
  · exact id
theorem byte32K (B b : Nat) (l : List UInt8) (w : World) (h : bl.Bd B b l w) (hlen : l.length + 1 ≤ 140737488355328) (hBw : B ≤ w.heap.size) :
    Calls Tryz.prog 135 #[.pointer (some ⟨b, 0, none⟩), .int .u8 32] w fun e w' => (∃ v, e = .returned v) ∧ bl.Bd B b (l ++ [32]) w' ∧ Below B w w' ∧ bl.Others b w w' := bl.byteK B b l 32 w h hlen hBw
theorem kinds2 : (9 : TypeId) ≠ 5 := by decide
/-- What both DecodeWords functions answer. -/
def DwRet (s : ByteArray) (e : Ending) : Prop :=
  (65536 < s.size ∧ e = .returned (.tuple #[.string ⟨#[]⟩, .int .i64 2])) ∨
  (s.size ≤ 65536 ∧ ¬ Safe s.data.toList ∧ e = .returned (.tuple #[.string ⟨#[]⟩, .int .i64 3])) ∨
  (s.size ≤ 65536 ∧ Safe s.data.toList ∧ ∃ r : ByteArray, Dec true false (cutGo [] s.data.toList) r.data.toList ∧ e = .returned (.tuple #[.string r, .int .i64 0]))
theorem dw_ex {s : ByteArray} {e : Ending} (h : DwRet s e) : ∃ (r : ByteArray) (c : Int), e = .returned (.tuple #[.string r, .int .i64 c]) := by
  rcases h with ⟨_, rfl⟩ | ⟨_, _, rfl⟩ | ⟨_, _, r, _, rfl⟩ <;> exact ⟨_, _, rfl⟩

set_option maxHeartbeats 4000000 in
set_option maxRecDepth 100000 in
theorem implDw_any (s : ByteArray) (w : World) (hV : tb.TV w) (hA : tb.TA w) (hs : s.size ≤ 1048576) :
    Calls Tryz.prog 127 #[.string s] w fun e w' => DwRet s e ∧ Below w.heap.size w w' := by
  by_cases h : s.size ≤ 65536
  case neg =>
    have h' : (65536 : Int) < (s.size : Int) := by omega
    clear hV hA
    go_enter Tryz.func127, Tryz.ntmps127
    go_wp2
    go_ret2
    exact ⟨.inl ⟨by omega, rfl⟩, Below.refl _ _⟩
  have h' : (s.size : Int) ≤ 65536 := by omega
  have HT : Hid (∀ W, Below w.heap.size w W → tb.TV W ∧ tb.TA W) := fun W hW => ⟨tb.keep' hV hW, tb.keep' hA hW⟩
  clear hV hA
  go_enter Tryz.func127, Tryz.ntmps127
  go_wp2_with fail
  refine (sv.impl_any s _ (by unfold maxLen; omega)).mono ?_
  rintro e w' ⟨hsv, rfl⟩
  by_cases hsafe : Safe s.data.toList
  case neg =>
    obtain rfl := sv.says_false hsv hsafe
    clear hsv
    go_wp2
    go_ret2
    exact ⟨.inr (.inl ⟨h, hsafe, rfl⟩), Below.refl _ _⟩
  obtain rfl := sv.says_true hsv hsafe
  have h2 : s.size ≤ 2000 := by have := hsafe.1; rw [← Lib.size_eq] at this; exact this
  have HS : Hid (Safe s.data.toList) := hsafe
  clear hsv hsafe
  go_wp2_with fail
  have hb0 : Below w'.heap.size w' (w'.alloc (.cells #[.pointer none, .slice none 0 0] 116)) := (Below.refl _ _).alloc (Nat.le_refl _) _
  refine (Tryz.strings_Fields s _ (by omega) (fun j b hj => by have := ascii HS.out b (List.mem_of_getElem? hj); omega) (tb.ta_is (HT.out _ hb0).2)).mono ?_
  rw [fields_safe HS.out]
  obtain ⟨ws, hws⟩ : ∃ ws, ws = words s.data.toList := ⟨_, rfl⟩
  rw [← hws]
  rintro e W1 ⟨rfl, hW1⟩
  have HX : Hid (∀ x ∈ ws, x.length ≤ 2000) := fun x hx => by
    rw [hws] at hx
    unfold words at hx
    split at hx
    · cases hx
    · have := cutGo_mem _ _ _ hx
      rw [← Lib.size_eq] at this
      simp at this
      omega
  have hn2 : ws.length ≤ 2001 := by
    rw [hws]
    unfold words
    split
    · simp
    · have := cutGo_len s.data.toList []
      rw [← Lib.size_eq] at this
      simp at this
      omega
  have HW : Hid (ws = words s.data.toList) := hws
  clear hws
  have hsz0 : (w'.alloc (.cells #[.pointer none, .slice none 0 0] 116)).heap.size = w'.heap.size + 1 := by simp
  have hbd1 : bl.Bd w'.heap.size w'.heap.size [] W1 := by rw [hW1]; exact bl.keep (bl.fresh w') ((Below.refl _ _).alloc (Nat.le_refl _) _)
  have hbw1 : Below w'.heap.size w' W1 := by rw [hW1]; exact hb0.alloc hb0.size _
  have hls1 : W1.heap[w'.heap.size + 1]? = some (.cells (ws.map tv).toArray 9 (0, 0)) := by
    rw [hW1, ← hsz0]
    exact heap_alloc_new _ _
  clear hb0
  obtain ⟨n, hn⟩ : ∃ n, n = ws.length := ⟨_, rfl⟩
  rw [← hn] at hn2 ⊢
  have HN : Hid (n = ws.length) := hn
  clear hn hW1
  rw [hsz0]
  clear hsz0
  go_wp2
  go_loopw [5, 19] (fun b i wr => ∃ (k : Nat) (out : List UInt8) (was : Bool), k ≤ n ∧ i = .int .i64 k ∧ b = .bool was ∧ out.length ≤ k * 70000 ∧ bl.Bd w'.heap.size w'.heap.size out wr ∧ wr.heap[w'.heap.size + 1]? = some (.cells (ws.map tv).toArray 9 (0, 0)) ∧ Below w'.heap.size w' wr ∧ Hid (∀ o, Dec (decide (k = 0)) was (ws.drop k) o → Dec true false ws (out ++ o))) (fun _ i _ => n - (intOf i).toNat)
  case atStart => exact ⟨0, [], false, Nat.zero_le _, rfl, rfl, Nat.zero_le _, hbd1, hls1, hbw1, fun o h => h⟩
  case round =>
    obtain ⟨k, out, was, hk, rfl, rfl, ho, hbd, hls, hbw, HD⟩ := hrel
    by_cases hlt : k < n
    · have hx : ws[k]? = some (ws[k]'(by have := HN.out; omega)) := List.getElem?_eq_getElem _
      obtain ⟨x, hx⟩ : ∃ x, ws[k]? = some x := ⟨_, hx⟩
      have hc0 : wr.cell? ⟨w'.heap.size + 1, k, none⟩ = some (.string ⟨x.toArray⟩) := by
        rw [cell_of_row wr _ k _ _ _ hls]
        simp [hx, tv]
      have hxl : x.length ≤ 2000 := HX.out x (List.mem_of_getElem? hx)
      have hlt' : (k : Int) < (n : Int) := by omega
      obtain ⟨X, hX⟩ : ∃ X : ByteArray, X = ⟨x.toArray⟩ := ⟨_, rfl⟩
      have hXs : X.size ≤ 2000 := by rw [hX, Lib.size_eq]; exact hxl
      have hXl : X.data.toList = x := by rw [hX]
      rw [← hX] at hc0
      have HXL : Hid (X.data.toList = x) := hXl
      have HK : Hid (ws[k]? = some x) := hx
      clear hX hXl hx
      go_wp2_with fail
      refine (implWord_any X _ (HT.out wr hbw).1 hXs).mono ?_
      rintro e W2 ⟨⟨y, b, rfl, hyb⟩, hb2⟩
      rw [HXL.out] at hyb
      have hbd2 := bl.keep hbd hb2
      have hls2 := (hb2.block _ (Array.getElem?_eq_some_iff.1 hls).1).trans hls
      have hbw2 := hbw.trans (hb2.mono hbw.size)
      obtain ⟨Y, hY⟩ : ∃ Y : ByteArray, Y = ⟨y.toArray⟩ := ⟨_, rfl⟩
      have HYL : Hid (Y.data.toList = y) := by rw [hY]; exact rfl
      have HYB : Hid (WordIs x y b) := hyb
      have hYs : Y.size ≤ 65536 := by
        rw [hY, Lib.size_eq]
        show y.length ≤ _
        rcases hyb with ⟨_, h⟩ | ⟨_, h, _⟩
        · exact coded_len h hxl
        · rw [h]; omega
      rw [← hY]
      clear hY hyb hbd hls hbw hb2 hc0
      have hB2 := hbw2.size
      by_cases hk0 : k = 0
      · have d0 : decide (0 < k) = false := decide_eq_false (by omega)
        have d1 : decide ((0 : Int) < (k : Int)) = false := decide_eq_false (by omega)
        have HK0 : Hid (k = 0) := hk0
        clear hk0
        cases b with
        | false =>
          cases was with
          | false =>
            have hbd3 := hbd2
            have hls3 := hls2
            have hbw3 := hbw2
            clear hbd2 hls2 hbw2
            have hB3 := hbw3.size
            go_wp2_with fail
            refine (bl.textK _ _ _ Y _ hbd3 (by first | omega | (simp; omega)) hB3).mono ?_
            rintro e W4 ⟨⟨v4, rfl⟩, hbd4, hb4, ho4⟩
            have hls4 := ho4 _ _ _ _ (by omega) kinds2 hls3
            have hbw4 := hbw3.trans hb4
            clear hbd3 hls3 hbw3 hb4 ho4
            go_wp2
            go_roundw
            case rel =>
              have e : out ++ Y.data.toList = out ++ (if decide (k = 0) = true then [] else [32]) ++ x := by
                rw [HYL.out]
                rcases HYB.out with ⟨h, _⟩ | ⟨_, h, _⟩
                · cases h
                · rw [h]
                  simp [HK0.out]
              exact ⟨k + 1, out ++ Y.data.toList, false, by omega, by go_num, rfl, by rw [List.length_append, ← Lib.size_eq]; omega, hbd4, hls4, hbw4, fun o h => by rw [e]; exact next_plain HK.out HD.out (by rcases HYB.out with ⟨h, _⟩ | ⟨_, _, h⟩; cases h; exact h) o h⟩
            case measure => simp [intOf]; omega
          | true =>
            have hbd3 := hbd2
            have hls3 := hls2
            have hbw3 := hbw2
            clear hbd2 hls2 hbw2
            have hB3 := hbw3.size
            go_wp2_with fail
            refine (bl.textK _ _ _ Y _ hbd3 (by first | omega | (simp; omega)) hB3).mono ?_
            rintro e W4 ⟨⟨v4, rfl⟩, hbd4, hb4, ho4⟩
            have hls4 := ho4 _ _ _ _ (by omega) kinds2 hls3
            have hbw4 := hbw3.trans hb4
            clear hbd3 hls3 hbw3 hb4 ho4
            go_wp2
            go_roundw
            case rel =>
              have e : out ++ Y.data.toList = out ++ (if decide (k = 0) = true then [] else [32]) ++ x := by
                rw [HYL.out]
                rcases HYB.out with ⟨h, _⟩ | ⟨_, h, _⟩
                · cases h
                · rw [h]
                  simp [HK0.out]
              exact ⟨k + 1, out ++ Y.data.toList, false, by omega, by go_num, rfl, by rw [List.length_append, ← Lib.size_eq]; omega, hbd4, hls4, hbw4, fun o h => by rw [e]; exact next_plain HK.out HD.out (by rcases HYB.out with ⟨h, _⟩ | ⟨_, _, h⟩; cases h; exact h) o h⟩
            case measure => simp [intOf]; omega
        | true =>
          cases was with
          | false =>
            have hbd3 := hbd2
            have hls3 := hls2
            have hbw3 := hbw2
            clear hbd2 hls2 hbw2
            have hB3 := hbw3.size
            go_wp2_with fail
            refine (bl.textK _ _ _ Y _ hbd3 (by first | omega | (simp; omega)) hB3).mono ?_
            rintro e W4 ⟨⟨v4, rfl⟩, hbd4, hb4, ho4⟩
            have hls4 := ho4 _ _ _ _ (by omega) kinds2 hls3
            have hbw4 := hbw3.trans hb4
            clear hbd3 hls3 hbw3 hb4 ho4
            go_wp2
            go_roundw
            case rel =>
              have e : out ++ Y.data.toList = out ++ (if (decide (k = 0) || false) = true then [] else [32]) ++ y := by
                rw [HYL.out]
                simp [HK0.out]
              exact ⟨k + 1, out ++ Y.data.toList, true, by omega, by go_num, rfl, by rw [List.length_append, ← Lib.size_eq]; omega, hbd4, hls4, hbw4, fun o h => by rw [e]; exact next_code HK.out HD.out (by rcases HYB.out with ⟨_, h⟩ | ⟨h, _⟩; exact h; cases h) o h⟩
            case measure => simp [intOf]; omega
          | true =>
            have hbd3 := hbd2
            have hls3 := hls2
            have hbw3 := hbw2
            clear hbd2 hls2 hbw2
            have hB3 := hbw3.size
            go_wp2_with fail
            refine (bl.textK _ _ _ Y _ hbd3 (by first | omega | (simp; omega)) hB3).mono ?_
            rintro e W4 ⟨⟨v4, rfl⟩, hbd4, hb4, ho4⟩
            have hls4 := ho4 _ _ _ _ (by omega) kinds2 hls3
            have hbw4 := hbw3.trans hb4
            clear hbd3 hls3 hbw3 hb4 ho4
            go_wp2
            go_roundw
            case rel =>
              have e : out ++ Y.data.toList = out ++ (if (decide (k = 0) || true) = true then [] else [32]) ++ y := by
                rw [HYL.out]
                simp [HK0.out]
              exact ⟨k + 1, out ++ Y.data.toList, true, by omega, by go_num, rfl, by rw [List.length_append, ← Lib.size_eq]; omega, hbd4, hls4, hbw4, fun o h => by rw [e]; exact next_code HK.out HD.out (by rcases HYB.out with ⟨_, h⟩ | ⟨h, _⟩; exact h; cases h) o h⟩
            case measure => simp [intOf]; omega
      · have d0 : decide (0 < k) = true := decide_eq_true (by omega)
        have d1 : (0 : Int) < (k : Int) := by omega
        cases b with
        | false =>
          cases was with
          | false =>
            go_wp2_with fail
            refine (byte32K _ _ out _ hbd2 (by omega) hB2).mono ?_
            rintro e W3 ⟨⟨v3, rfl⟩, hbd3, hb3, ho3⟩
            have hls3 := ho3 _ _ _ _ (by omega) kinds2 hls2
            have hbw3 := hbw2.trans hb3
            clear hbd2 hls2 hbw2 hb3 ho3
            have hB3 := hbw3.size
            go_wp2_with fail
            refine (bl.textK _ _ _ Y _ hbd3 (by first | omega | (simp; omega)) hB3).mono ?_
            rintro e W4 ⟨⟨v4, rfl⟩, hbd4, hb4, ho4⟩
            have hls4 := ho4 _ _ _ _ (by omega) kinds2 hls3
            have hbw4 := hbw3.trans hb4
            clear hbd3 hls3 hbw3 hb4 ho4
            go_wp2
            go_roundw
            case rel =>
              have e : out ++ [32] ++ Y.data.toList = out ++ (if decide (k = 0) = true then [] else [32]) ++ x := by
                rw [HYL.out]
                rcases HYB.out with ⟨h, _⟩ | ⟨_, h, _⟩
                · cases h
                · rw [h]
                  simp [hk0]
              exact ⟨k + 1, out ++ [32] ++ Y.data.toList, false, by omega, by go_num, rfl, by rw [List.length_append, ← Lib.size_eq]; simp; omega, hbd4, hls4, hbw4, fun o h => by rw [e]; exact next_plain HK.out HD.out (by rcases HYB.out with ⟨h, _⟩ | ⟨_, _, h⟩; cases h; exact h) o h⟩
            case measure => simp [intOf]; omega
          | true =>
            go_wp2_with fail
            refine (byte32K _ _ out _ hbd2 (by omega) hB2).mono ?_
            rintro e W3 ⟨⟨v3, rfl⟩, hbd3, hb3, ho3⟩
            have hls3 := ho3 _ _ _ _ (by omega) kinds2 hls2
            have hbw3 := hbw2.trans hb3
            clear hbd2 hls2 hbw2 hb3 ho3
            have hB3 := hbw3.size
            go_wp2_with fail
            refine (bl.textK _ _ _ Y _ hbd3 (by first | omega | (simp; omega)) hB3).mono ?_
            rintro e W4 ⟨⟨v4, rfl⟩, hbd4, hb4, ho4⟩
            have hls4 := ho4 _ _ _ _ (by omega) kinds2 hls3
            have hbw4 := hbw3.trans hb4
            clear hbd3 hls3 hbw3 hb4 ho4
            go_wp2
            go_roundw
            case rel =>
              have e : out ++ [32] ++ Y.data.toList = out ++ (if decide (k = 0) = true then [] else [32]) ++ x := by
                rw [HYL.out]
                rcases HYB.out with ⟨h, _⟩ | ⟨_, h, _⟩
                · cases h
                · rw [h]
                  simp [hk0]
              exact ⟨k + 1, out ++ [32] ++ Y.data.toList, false, by omega, by go_num, rfl, by rw [List.length_append, ← Lib.size_eq]; simp; omega, hbd4, hls4, hbw4, fun o h => by rw [e]; exact next_plain HK.out HD.out (by rcases HYB.out with ⟨h, _⟩ | ⟨_, _, h⟩; cases h; exact h) o h⟩
            case measure => simp [intOf]; omega
        | true =>
          cases was with
          | false =>
            go_wp2_with fail
            refine (byte32K _ _ out _ hbd2 (by omega) hB2).mono ?_
            rintro e W3 ⟨⟨v3, rfl⟩, hbd3, hb3, ho3⟩
            have hls3 := ho3 _ _ _ _ (by omega) kinds2 hls2
            have hbw3 := hbw2.trans hb3
            clear hbd2 hls2 hbw2 hb3 ho3
            have hB3 := hbw3.size
            go_wp2_with fail
            refine (bl.textK _ _ _ Y _ hbd3 (by first | omega | (simp; omega)) hB3).mono ?_
            rintro e W4 ⟨⟨v4, rfl⟩, hbd4, hb4, ho4⟩
            have hls4 := ho4 _ _ _ _ (by omega) kinds2 hls3
            have hbw4 := hbw3.trans hb4
            clear hbd3 hls3 hbw3 hb4 ho4
            go_wp2
            go_roundw
            case rel =>
              have e : out ++ [32] ++ Y.data.toList = out ++ (if (decide (k = 0) || false) = true then [] else [32]) ++ y := by
                rw [HYL.out]
                simp [hk0]
              exact ⟨k + 1, out ++ [32] ++ Y.data.toList, true, by omega, by go_num, rfl, by rw [List.length_append, ← Lib.size_eq]; simp; omega, hbd4, hls4, hbw4, fun o h => by rw [e]; exact next_code HK.out HD.out (by rcases HYB.out with ⟨_, h⟩ | ⟨h, _⟩; exact h; cases h) o h⟩
            case measure => simp [intOf]; omega
          | true =>
            have hbd3 := hbd2
            have hls3 := hls2
            have hbw3 := hbw2
            clear hbd2 hls2 hbw2
            have hB3 := hbw3.size
            go_wp2_with fail
            refine (bl.textK _ _ _ Y _ hbd3 (by first | omega | (simp; omega)) hB3).mono ?_
            rintro e W4 ⟨⟨v4, rfl⟩, hbd4, hb4, ho4⟩
            have hls4 := ho4 _ _ _ _ (by omega) kinds2 hls3
            have hbw4 := hbw3.trans hb4
            clear hbd3 hls3 hbw3 hb4 ho4
            go_wp2
            go_roundw
            case rel =>
              have e : out ++ Y.data.toList = out ++ (if (decide (k = 0) || true) = true then [] else [32]) ++ y := by
                rw [HYL.out]
                simp [hk0]
              exact ⟨k + 1, out ++ Y.data.toList, true, by omega, by go_num, rfl, by rw [List.length_append, ← Lib.size_eq]; omega, hbd4, hls4, hbw4, fun o h => by rw [e]; exact next_code HK.out HD.out (by rcases HYB.out with ⟨_, h⟩ | ⟨h, _⟩; exact h; cases h) o h⟩
            case measure => simp [intOf]; omega
    · have hge : (n : Int) ≤ (k : Int) := by omega
      go_wp2_with fail
      refine (bl.said _ _ out wr hbd hbw.size).mono ?_
      rintro e w1 ⟨rfl, hb1⟩
      go_wp2
      go_ret2
      exact ⟨.inr (.inr ⟨h, HS.out, _, dec_words (by rw [← HW.out]; exact dec_end (by have := HN.out; omega) HD.out), rfl⟩), hbw.trans hb1⟩
end Go.Proofs.YtadfdfmebdcfgaaGreatDoor.hd
