/-
  A number's text read, with its sign: the specification's way.
-/
import Derived.Test.YtbfplmafffnghaaDoorNuw
import Derived.Test.YtbfplmafffnghaaDoorOwn
namespace Go.Proofs.YtbfplmafffnghaaDoor.nz
open Go.RowKit
open nu
set_option linter.unusedVariables false

theorem at0 (s : ByteArray) (b : UInt8) (r : List UInt8) (h : s.data.toList = b :: r) (wx : World) : (Instr.index 9 (.string s) (.int .i64 0)).run Tryd.prog wx = .ok (.int .u8 (b.toNat : Int)) wx := by
  have hs : s.size = r.length + 1 := by rw [Lib.size_eq, h]; rfl
  rw [run_index_string wx 9 s .i64 0 Tryd.underlying9, dif_pos ⟨by omega, by omega⟩]
  have : s[(0 : Int).toNat]'(by show (0 : Nat) < s.size; omega) = b := by
    show s.data.toList[0]'(by rw [h]; simp) = b
    simp [h]
  rw [this]
theorem at_k (s : ByteArray) (k : Nat) (hk : k < s.size) (wx : World) : (Instr.index 9 (.string s) (.int .i64 (k : Int))).run Tryd.prog wx = .ok (.int .u8 ((s[k]'hk).toNat : Int)) wx := by
  rw [run_index_string wx 9 s .i64 (k : Int) Tryd.underlying9, dif_pos ⟨by omega, by omega⟩]
  rfl
theorem tail_run (s : ByteArray) (b : UInt8) (r : List UInt8) (h : s.data.toList = b :: r) (wx : World) : (Instr.slice 9 (.string s) (some (.int .i64 1)) none none).run Tryd.prog wx = .ok (.string ⟨r.toArray⟩) wx := by
  have hs : s.size = r.length + 1 := by rw [Lib.size_eq, h]; rfl
  rw [run_slice_string_l (P := Tryd.prog) (w := wx) 9 s Tryd.underlying9 .i64 1 (by decide) (by omega)]
  congr 2
  apply ByteArray.ext
  rw [← Array.toList_inj, ← Lib.toList_data, Lib.extract_toList, h, hs]
  simp
theorem take_at (s : ByteArray) (k : Nat) (hk : k < s.size) : s.data.toList.take (k + 1) = s.data.toList.take k ++ [s[k]'hk] := List.take_succ_eq_append_getElem (by rw [← Lib.size_eq]; exact hk)
theorem take_val (s : ByteArray) (k : Nat) (hk : k < s.size) : val 0 (s.data.toList.take (k + 1)) = val 0 (s.data.toList.take k) * 10 + ((s[k]'hk).toNat - 48) := by rw [take_at s k hk, val_snoc]
theorem take_dig (s : ByteArray) (k : Nat) (hk : k < s.size) (h : ∀ b ∈ s.data.toList.take k, IsDig b) (h1 : IsDig (s[k]'hk)) : ∀ b ∈ s.data.toList.take (k + 1), IsDig b := by
  rw [take_at s k hk]
  intro b hb
  rcases List.mem_append.1 hb with hb | hb
  · exact h b hb
  · rw [List.mem_singleton] at hb; rw [hb]; exact h1
theorem val_bound : ∀ (k : Nat) (l : List UInt8), l.length ≤ k → (∀ b ∈ l, IsDig b) → val 0 l < 10 ^ k := by
  intro k
  induction k with
  | zero => intro l hl _; rw [List.length_eq_zero_iff.1 (Nat.le_zero.1 hl)]; decide
  | succ k ih =>
    intro l hl hd
    rcases List.eq_nil_or_concat l with rfl | ⟨r, b, rfl⟩
    · exact Nat.pow_pos (by decide)
    · rw [List.concat_eq_append] at *
      have hb := hd b (by simp)
      have := ih r (by rw [List.length_append, List.length_singleton] at hl; omega) (fun x hx => hd x (by simp [hx]))
      rw [val_snoc, Nat.pow_succ]
      have := hb.2
      omega
theorem pow18 {k : Nat} (h : k ≤ 18) : 10 ^ k ≤ 1000000000000000000 := Nat.pow_le_pow_right (by decide) h

set_option maxHeartbeats 4000000 in
set_option maxRecDepth 100000 in
theorem number_plus (T : ByteArray) (w : World) (hs : T.size ≤ 1048576) (hm : ∀ b r, T.data.toList = b :: r → b.toNat ≠ 45) :
    Calls Tryd.prog 20 #[.string T] w fun e w' => NumRetZ T.data.toList e ∧ w' = w := by
  have hTs := hs
  have HM : Hid (∀ n : Int, NumIs T.data.toList n → T.data.toList = Lib.decDigits n.toNat ∧ n.toNat < 1000000000000000000) := fun n e => num_plus e hm
  by_cases z0 : T.size = 0
  · have z0' : (T.size : Int) = 0 := by omega
    have z0b : ((T.size : Int) == 0) = true := beq_iff_eq.2 z0'
    have NO : Hid (∀ n : Int, ¬ NumIs T.data.toList n) := fun n0 e0 => by
      obtain ⟨e, n2⟩ := HM.out n0 e0
      generalize n0.toNat = n at e n2
      have h3 := (dec_facts n).2.2.1
      rw [← e] at h3
      exact h3 (List.length_eq_zero_iff.1 (by rw [← Lib.size_eq]; exact z0))
    have hpos : ¬ (0 : Int) < (T.size : Int) := by omega
    have hpd : decide ((0 : Int) < (T.size : Int)) = false := decide_eq_false hpos
    clear z0 hm
    go_enter Tryd.func20, Tryd.ntmps20
    go_wp2
    go_ret2
    exact ⟨⟨0, false, rfl, .inr ⟨rfl, NO.out⟩⟩, rfl⟩
  obtain ⟨c, t, hc⟩ : ∃ c t, T.data.toList = c :: t := by
    cases h : T.data.toList with
    | nil => exact absurd (by rw [Lib.size_eq, h]; rfl) z0
    | cons c t => exact ⟨c, t, rfl⟩
  have z1 : (0 : Int) < (T.size : Int) := by omega
  have z1b : ((T.size : Int) == 0) = false := beq_eq_false_iff_ne.2 (by omega)
  have hc0 := at0 T c t hc
  have hc45 : ((c.toNat : Int) == 45) = false := beq_eq_false_iff_ne.2 (by have := hm c t hc; omega)
  have hpd : decide ((0 : Int) < (T.size : Int)) = true := decide_eq_true z1
  clear hm
  have HC : Hid (T.data.toList = c :: t) := hc
  clear z0 hc
  by_cases z2 : 18 < T.size
  · have z2' : (18 : Int) < (T.size : Int) := by omega
    have z2d : decide ((18 : Int) < (T.size : Int)) = true := decide_eq_true z2'
    have NO : Hid (∀ n : Int, ¬ NumIs T.data.toList n) := fun n0 e0 => by
      obtain ⟨e, n2⟩ := HM.out n0 e0
      generalize n0.toNat = n at e n2
      have h3 := dec_len18 n2
      rw [← e, ← Lib.size_eq] at h3
      omega
    go_enter Tryd.func20, Tryd.ntmps20
    go_wp2
    go_ret2
    exact ⟨⟨0, false, rfl, .inr ⟨rfl, NO.out⟩⟩, rfl⟩
  have z2' : (T.size : Int) ≤ 18 := by omega
  have z2d : decide ((18 : Int) < (T.size : Int)) = false := decide_eq_false (by omega)
  by_cases z3 : c.toNat = 48 ∧ 1 < T.size
  · have c48 : (c.toNat : Int) = 48 := by omega
    rw [c48] at hc0 hc45
    have z4d : decide ((1 : Int) < (T.size : Int)) = true := decide_eq_true (by omega)
    have NO : Hid (∀ n : Int, ¬ NumIs T.data.toList n) := fun n0 e0 => by
      obtain ⟨e, n2⟩ := HM.out n0 e0
      generalize n0.toNat = n at e n2
      exact lead0 e HC.out z3.1 (by rw [← Lib.size_eq]; exact z3.2)
    go_enter Tryd.func20, Tryd.ntmps20
    go_wp2
    go_ret2
    exact ⟨⟨0, false, rfl, .inr ⟨rfl, NO.out⟩⟩, rfl⟩
  by_cases z5 : c.toNat = 48
  · have c48 : (c.toNat : Int) = 48 := by omega
    rw [c48] at hc0 hc45
    have z4d : decide ((1 : Int) < (T.size : Int)) = false := decide_eq_false (by have : ¬ 1 < T.size := fun y => z3 ⟨z5, y⟩; omega)
    have HLN : Hid (T.data.toList.length = 1) := by rw [← Lib.size_eq]; exact (show T.size = 1 by have : ¬ 1 < T.size := fun y => z3 ⟨z5, y⟩; omega)
    clear z3 z5 c48
    go_enter Tryd.func20, Tryd.ntmps20
    go_wp2
    go_loopw [5, 6] (fun z i wr => ∃ k : Nat, k ≤ T.size ∧ z = .int .i64 ((val 0 (T.data.toList.take k) : Nat) : Int) ∧ i = .int .i64 k ∧ (∀ b ∈ T.data.toList.take k, IsDig b) ∧ wr = w) (fun _ i _ => T.size - (intOf i).toNat)
    case atStart => exact ⟨0, Nat.zero_le _, rfl, rfl, fun b hb => by simp at hb, rfl⟩
    case round =>
      obtain ⟨k, hk, rfl, rfl, hdg, hwr⟩ := hrel
      have hwr := hwr.symm
      subst hwr
      have HDG : Hid (∀ b ∈ T.data.toList.take k, IsDig b) := hdg
      have hvb : val 0 (T.data.toList.take k) < 10 ^ k := val_bound _ _ (by rw [List.length_take]; omega) hdg
      have hvb2 : val 0 (T.data.toList.take k) < 1000000000000000000 := Nat.lt_of_lt_of_le hvb (pow18 (by omega))
      have HVB : Hid (val 0 (T.data.toList.take k) < 10 ^ k) := hvb
      clear hdg hvb
      by_cases hlt : k < T.size
      · have hlt' : (k : Int) < (T.size : Int) := by omega
        have hkl : k < T.data.toList.length := by rw [← Lib.size_eq]; exact hlt
        have hix := at_k T k hlt
        have HSN : Hid (val 0 (T.data.toList.take (k + 1)) = val 0 (T.data.toList.take k) * 10 + ((T[k]'hlt).toNat - 48)) := take_val T k hlt
        have HMEM : Hid ((T[k]'hlt) ∈ T.data.toList) := List.getElem_mem hkl
        have HDS : Hid (IsDig (T[k]'hlt) → ∀ b ∈ T.data.toList.take (k + 1), IsDig b) := fun y => take_dig T k hlt HDG.out y
        have hb255 : (T[k]'hlt).toNat ≤ 255 := by have := (T[k]'hlt).toNat_lt; omega
        have hvb2 : val 0 (T.data.toList.take k) < 100000000000000000 := Nat.lt_of_lt_of_le HVB.out (Nat.pow_le_pow_right (by decide) (show k ≤ 17 by omega))
        clear HVB
        generalize T[k]'hlt = x at hix HSN HMEM HDS hb255
        generalize val 0 (T.data.toList.take k) = V at hvb2 HSN ⊢
        have hx255 : (x.toNat : Int) ≤ 255 := by omega
        have hV : (V : Int) < 100000000000000000 := by omega
        have hV0 : (0 : Int) ≤ (V : Int) := by omega
        by_cases x0 : x.toNat < 48
        · have x0d : decide ((x.toNat : Int) < 48) = true := decide_eq_true (by omega)
          have NO : Hid (∀ n : Int, ¬ NumIs T.data.toList n) := fun n0 e0 => by
            obtain ⟨e, n2⟩ := HM.out n0 e0
            generalize n0.toNat = n at e n2
            have := (dec_facts n).1 x (by rw [← e]; exact HMEM.out)
            have := this.1
            omega
          go_wp2
          go_ret2
          exact ⟨⟨0, false, rfl, .inr ⟨rfl, NO.out⟩⟩, rfl⟩
        have x0d : decide ((x.toNat : Int) < 48) = false := decide_eq_false (by omega)
        by_cases x1 : 57 < x.toNat
        · have x1d : decide ((57 : Int) < (x.toNat : Int)) = true := decide_eq_true (by omega)
          have NO : Hid (∀ n : Int, ¬ NumIs T.data.toList n) := fun n0 e0 => by
            obtain ⟨e, n2⟩ := HM.out n0 e0
            generalize n0.toNat = n at e n2
            have := (dec_facts n).1 x (by rw [← e]; exact HMEM.out)
            have := this.2
            omega
          go_wp2
          go_ret2
          exact ⟨⟨0, false, rfl, .inr ⟨rfl, NO.out⟩⟩, rfl⟩
        have x1d : decide ((57 : Int) < (x.toNat : Int)) = false := decide_eq_false (by omega)
        have HD2 : Hid (∀ b ∈ T.data.toList.take (k + 1), IsDig b) := HDS.out ⟨by omega, by omega⟩
        have HVI : Hid (((V * 10 + (x.toNat - 48) : Nat) : Int) = (V : Int) * 10 + (x.toNat : Int) - 48) := (show ((V * 10 + (x.toNat - 48) : Nat) : Int) = (V : Int) * 10 + (x.toNat : Int) - 48 by omega)
        go_wp2
        go_roundw
        case rel => exact ⟨k + 1, by omega, by rw [HSN.out, HVI.out], by go_num, HD2.out, by trivial⟩
        case measure => simp [intOf]; omega
      · have hkn : k = T.size := by omega
        have hall : T.data.toList.take k = T.data.toList := List.take_of_length_le (by rw [← Lib.size_eq]; omega)
        rw [hall] at hvb2 ⊢
        have hV : ((val 0 T.data.toList : Nat) : Int) < 1000000000000000000 := by omega
        have HFIN : Hid (GetsZ T.data.toList (val 0 T.data.toList : Nat) true) := .inl ⟨rfl, num_of_pos (by rw [HC.out]; simp) (by rw [← hall]; exact HDG.out) (.inl HLN.out) hvb2⟩
        generalize val 0 T.data.toList = V at hvb2 hV HFIN ⊢
        go_wp2
        go_ret2
        exact ⟨⟨(V : Int), true, rfl, HFIN.out⟩, rfl⟩
  have c48 : ((c.toNat : Int) == 48) = false := beq_eq_false_iff_ne.2 (by omega)
  have HLN : Hid (c.toNat ≠ 48) := z5
  clear z3 z5
  go_enter Tryd.func20, Tryd.ntmps20
  go_wp2
  go_loopw [5, 6] (fun z i wr => ∃ k : Nat, k ≤ T.size ∧ z = .int .i64 ((val 0 (T.data.toList.take k) : Nat) : Int) ∧ i = .int .i64 k ∧ (∀ b ∈ T.data.toList.take k, IsDig b) ∧ wr = w) (fun _ i _ => T.size - (intOf i).toNat)
  case atStart => exact ⟨0, Nat.zero_le _, rfl, rfl, fun b hb => by simp at hb, rfl⟩
  case round =>
    obtain ⟨k, hk, rfl, rfl, hdg, hwr⟩ := hrel
    have hwr := hwr.symm
    subst hwr
    have HDG : Hid (∀ b ∈ T.data.toList.take k, IsDig b) := hdg
    have hvb : val 0 (T.data.toList.take k) < 10 ^ k := val_bound _ _ (by rw [List.length_take]; omega) hdg
    have hvb2 : val 0 (T.data.toList.take k) < 1000000000000000000 := Nat.lt_of_lt_of_le hvb (pow18 (by omega))
    have HVB : Hid (val 0 (T.data.toList.take k) < 10 ^ k) := hvb
    clear hdg hvb
    by_cases hlt : k < T.size
    · have hlt' : (k : Int) < (T.size : Int) := by omega
      have hkl : k < T.data.toList.length := by rw [← Lib.size_eq]; exact hlt
      have hix := at_k T k hlt
      have HSN : Hid (val 0 (T.data.toList.take (k + 1)) = val 0 (T.data.toList.take k) * 10 + ((T[k]'hlt).toNat - 48)) := take_val T k hlt
      have HMEM : Hid ((T[k]'hlt) ∈ T.data.toList) := List.getElem_mem hkl
      have HDS : Hid (IsDig (T[k]'hlt) → ∀ b ∈ T.data.toList.take (k + 1), IsDig b) := fun y => take_dig T k hlt HDG.out y
      have hb255 : (T[k]'hlt).toNat ≤ 255 := by have := (T[k]'hlt).toNat_lt; omega
      have hvb2 : val 0 (T.data.toList.take k) < 100000000000000000 := Nat.lt_of_lt_of_le HVB.out (Nat.pow_le_pow_right (by decide) (show k ≤ 17 by omega))
      clear HVB
      generalize T[k]'hlt = x at hix HSN HMEM HDS hb255
      generalize val 0 (T.data.toList.take k) = V at hvb2 HSN ⊢
      have hx255 : (x.toNat : Int) ≤ 255 := by omega
      have hV : (V : Int) < 100000000000000000 := by omega
      have hV0 : (0 : Int) ≤ (V : Int) := by omega
      by_cases x0 : x.toNat < 48
      · have x0d : decide ((x.toNat : Int) < 48) = true := decide_eq_true (by omega)
        have NO : Hid (∀ n : Int, ¬ NumIs T.data.toList n) := fun n0 e0 => by
          obtain ⟨e, n2⟩ := HM.out n0 e0
          generalize n0.toNat = n at e n2
          have := (dec_facts n).1 x (by rw [← e]; exact HMEM.out)
          have := this.1
          omega
        go_wp2
        go_ret2
        exact ⟨⟨0, false, rfl, .inr ⟨rfl, NO.out⟩⟩, rfl⟩
      have x0d : decide ((x.toNat : Int) < 48) = false := decide_eq_false (by omega)
      by_cases x1 : 57 < x.toNat
      · have x1d : decide ((57 : Int) < (x.toNat : Int)) = true := decide_eq_true (by omega)
        have NO : Hid (∀ n : Int, ¬ NumIs T.data.toList n) := fun n0 e0 => by
          obtain ⟨e, n2⟩ := HM.out n0 e0
          generalize n0.toNat = n at e n2
          have := (dec_facts n).1 x (by rw [← e]; exact HMEM.out)
          have := this.2
          omega
        go_wp2
        go_ret2
        exact ⟨⟨0, false, rfl, .inr ⟨rfl, NO.out⟩⟩, rfl⟩
      have x1d : decide ((57 : Int) < (x.toNat : Int)) = false := decide_eq_false (by omega)
      have HD2 : Hid (∀ b ∈ T.data.toList.take (k + 1), IsDig b) := HDS.out ⟨by omega, by omega⟩
      have HVI : Hid (((V * 10 + (x.toNat - 48) : Nat) : Int) = (V : Int) * 10 + (x.toNat : Int) - 48) := (show ((V * 10 + (x.toNat - 48) : Nat) : Int) = (V : Int) * 10 + (x.toNat : Int) - 48 by omega)
      go_wp2
      go_roundw
      case rel => exact ⟨k + 1, by omega, by rw [HSN.out, HVI.out], by go_num, HD2.out, by trivial⟩
      case measure => simp [intOf]; omega
    · have hkn : k = T.size := by omega
      have hall : T.data.toList.take k = T.data.toList := List.take_of_length_le (by rw [← Lib.size_eq]; omega)
      rw [hall] at hvb2 ⊢
      have hV : ((val 0 T.data.toList : Nat) : Int) < 1000000000000000000 := by omega
      have HFIN : Hid (GetsZ T.data.toList (val 0 T.data.toList : Nat) true) := .inl ⟨rfl, num_of_pos (by rw [HC.out]; simp) (by rw [← hall]; exact HDG.out) (.inr (fun b r e => by rw [HC.out] at e; cases e; exact HLN.out)) hvb2⟩
      generalize val 0 T.data.toList = V at hvb2 hV HFIN ⊢
      go_wp2
      go_ret2
      exact ⟨⟨(V : Int), true, rfl, HFIN.out⟩, rfl⟩

set_option maxHeartbeats 4000000 in
set_option maxRecDepth 100000 in
theorem number_minus (s : ByteArray) (w : World) (hs : s.size ≤ 1048576) (b : UInt8) (r : List UInt8) (hl : s.data.toList = b :: r) (hb : b.toNat = 45) :
    Calls Tryd.prog 20 #[.string s] w fun e w' => NumRetZ s.data.toList e ∧ w' = w := by
  have hsz : s.size = r.length + 1 := by rw [Lib.size_eq, hl]; rfl
  have hpos : (0 : Int) < (s.size : Int) := by omega
  have hi0 := at0 s b r hl
  have hb45 : (b.toNat : Int) = 45 := by omega
  rw [hb45] at hi0
  have hsl := tail_run s b r hl
  obtain ⟨T, hT⟩ : ∃ T : ByteArray, T = ⟨r.toArray⟩ := ⟨_, rfl⟩
  have hTl : T.data.toList = r := by rw [hT]
  rw [← hT] at hsl
  have hTs : T.size ≤ 1048576 := by rw [Lib.size_eq, hTl]; omega
  have HS : Hid (s.data.toList = 45 :: T.data.toList) := by rw [hTl, hl]; congr 1; exact UInt8.toNat_inj.1 hb
  have HM : Hid (∀ n : Int, NumIs s.data.toList n → ∃ m : Nat, 1 ≤ m ∧ m < 1000000000000000000 ∧ T.data.toList = Lib.decDigits m) := fun n e => by
    obtain ⟨m, a, b, _, d⟩ := num_min e HS.out
    exact ⟨m, a, b, d⟩
  clear hl hb hb45 hT hTl hsz
  by_cases z0 : T.size = 0
  · have z0' : (T.size : Int) = 0 := by omega
    have z0b : ((T.size : Int) == 0) = true := beq_iff_eq.2 z0'
    have NO : Hid (∀ n : Int, ¬ NumIs s.data.toList n) := fun n0 e0 => by
      obtain ⟨n, n1, n2, e⟩ := HM.out n0 e0
      have h3 := (dec_facts n).2.2.1
      rw [← e] at h3
      exact h3 (List.length_eq_zero_iff.1 (by rw [← Lib.size_eq]; exact z0))
    clear z0
    go_enter Tryd.func20, Tryd.ntmps20
    go_wp2
    go_ret2
    exact ⟨⟨0, false, rfl, .inr ⟨rfl, NO.out⟩⟩, rfl⟩
  obtain ⟨c, t, hc⟩ : ∃ c t, T.data.toList = c :: t := by
    cases h : T.data.toList with
    | nil => exact absurd (by rw [Lib.size_eq, h]; rfl) z0
    | cons c t => exact ⟨c, t, rfl⟩
  have z1 : (0 : Int) < (T.size : Int) := by omega
  have z1b : ((T.size : Int) == 0) = false := beq_eq_false_iff_ne.2 (by omega)
  have hc0 := at0 T c t hc
  have HC : Hid (T.data.toList = c :: t) := hc
  clear z0 hc
  by_cases z2 : 18 < T.size
  · have z2' : (18 : Int) < (T.size : Int) := by omega
    have z2d : decide ((18 : Int) < (T.size : Int)) = true := decide_eq_true z2'
    have NO : Hid (∀ n : Int, ¬ NumIs s.data.toList n) := fun n0 e0 => by
      obtain ⟨n, n1, n2, e⟩ := HM.out n0 e0
      have h3 := dec_len18 n2
      rw [← e, ← Lib.size_eq] at h3
      omega
    go_enter Tryd.func20, Tryd.ntmps20
    go_wp2
    go_ret2
    exact ⟨⟨0, false, rfl, .inr ⟨rfl, NO.out⟩⟩, rfl⟩
  have z2' : (T.size : Int) ≤ 18 := by omega
  have z2d : decide ((18 : Int) < (T.size : Int)) = false := decide_eq_false (by omega)
  by_cases z3 : c.toNat = 48
  · have c48 : (c.toNat : Int) = 48 := by omega
    rw [c48] at hc0
    have NO : Hid (∀ n : Int, ¬ NumIs s.data.toList n) := fun n0 e0 => by
      obtain ⟨n, n1, n2, e⟩ := HM.out n0 e0
      exact (dec_facts n).2.2.2 n1 c t (by rw [← e, HC.out]) z3
    by_cases z4 : 1 < T.size
    · have z4d : decide ((1 : Int) < (T.size : Int)) = true := decide_eq_true (by omega)
      go_enter Tryd.func20, Tryd.ntmps20
      go_wp2
      go_ret2
      exact ⟨⟨0, false, rfl, .inr ⟨rfl, NO.out⟩⟩, rfl⟩
    · have z4d : decide ((1 : Int) < (T.size : Int)) = false := decide_eq_false (by omega)
      go_enter Tryd.func20, Tryd.ntmps20
      go_wp2
      go_ret2
      exact ⟨⟨0, false, rfl, .inr ⟨rfl, NO.out⟩⟩, rfl⟩
  have c48 : ((c.toNat : Int) == 48) = false := beq_eq_false_iff_ne.2 (by omega)
  have HLN : Hid (c.toNat ≠ 48) := z3
  go_enter Tryd.func20, Tryd.ntmps20
  go_wp2
  go_loopw [5, 6] (fun z i wr => ∃ k : Nat, k ≤ T.size ∧ z = .int .i64 ((val 0 (T.data.toList.take k) : Nat) : Int) ∧ i = .int .i64 k ∧ (∀ b ∈ T.data.toList.take k, IsDig b) ∧ wr = w) (fun _ i _ => T.size - (intOf i).toNat)
  case atStart => exact ⟨0, Nat.zero_le _, rfl, rfl, fun b hb => by simp at hb, rfl⟩
  case round =>
    obtain ⟨k, hk, rfl, rfl, hdg, hwr⟩ := hrel
    have hwr := hwr.symm
    subst hwr
    have HDG : Hid (∀ b ∈ T.data.toList.take k, IsDig b) := hdg
    have hvb : val 0 (T.data.toList.take k) < 10 ^ k := val_bound _ _ (by rw [List.length_take]; omega) hdg
    have hvb2 : val 0 (T.data.toList.take k) < 1000000000000000000 := Nat.lt_of_lt_of_le hvb (pow18 (by omega))
    have HVB : Hid (val 0 (T.data.toList.take k) < 10 ^ k) := hvb
    clear hdg hvb
    by_cases hlt : k < T.size
    · have hlt' : (k : Int) < (T.size : Int) := by omega
      have hkl : k < T.data.toList.length := by rw [← Lib.size_eq]; exact hlt
      have hix := at_k T k hlt
      have HSN : Hid (val 0 (T.data.toList.take (k + 1)) = val 0 (T.data.toList.take k) * 10 + ((T[k]'hlt).toNat - 48)) := take_val T k hlt
      have HMEM : Hid ((T[k]'hlt) ∈ T.data.toList) := List.getElem_mem hkl
      have HDS : Hid (IsDig (T[k]'hlt) → ∀ b ∈ T.data.toList.take (k + 1), IsDig b) := fun y => take_dig T k hlt HDG.out y
      have hb255 : (T[k]'hlt).toNat ≤ 255 := by have := (T[k]'hlt).toNat_lt; omega
      have hvb2 : val 0 (T.data.toList.take k) < 100000000000000000 := Nat.lt_of_lt_of_le HVB.out (Nat.pow_le_pow_right (by decide) (show k ≤ 17 by omega))
      clear HVB
      generalize T[k]'hlt = x at hix HSN HMEM HDS hb255
      generalize val 0 (T.data.toList.take k) = V at hvb2 HSN ⊢
      have hx255 : (x.toNat : Int) ≤ 255 := by omega
      have hV : (V : Int) < 100000000000000000 := by omega
      have hV0 : (0 : Int) ≤ (V : Int) := by omega
      by_cases x0 : x.toNat < 48
      · have x0d : decide ((x.toNat : Int) < 48) = true := decide_eq_true (by omega)
        have NO : Hid (∀ n : Int, ¬ NumIs s.data.toList n) := fun n0 e0 => by
          obtain ⟨n, n1, n2, e⟩ := HM.out n0 e0
          have := (dec_facts n).1 x (by rw [← e]; exact HMEM.out)
          have := this.1
          omega
        go_wp2
        go_ret2
        exact ⟨⟨0, false, rfl, .inr ⟨rfl, NO.out⟩⟩, rfl⟩
      have x0d : decide ((x.toNat : Int) < 48) = false := decide_eq_false (by omega)
      by_cases x1 : 57 < x.toNat
      · have x1d : decide ((57 : Int) < (x.toNat : Int)) = true := decide_eq_true (by omega)
        have NO : Hid (∀ n : Int, ¬ NumIs s.data.toList n) := fun n0 e0 => by
          obtain ⟨n, n1, n2, e⟩ := HM.out n0 e0
          have := (dec_facts n).1 x (by rw [← e]; exact HMEM.out)
          have := this.2
          omega
        go_wp2
        go_ret2
        exact ⟨⟨0, false, rfl, .inr ⟨rfl, NO.out⟩⟩, rfl⟩
      have x1d : decide ((57 : Int) < (x.toNat : Int)) = false := decide_eq_false (by omega)
      have HD2 : Hid (∀ b ∈ T.data.toList.take (k + 1), IsDig b) := HDS.out ⟨by omega, by omega⟩
      have HVI : Hid (((V * 10 + (x.toNat - 48) : Nat) : Int) = (V : Int) * 10 + (x.toNat : Int) - 48) := (show ((V * 10 + (x.toNat - 48) : Nat) : Int) = (V : Int) * 10 + (x.toNat : Int) - 48 by omega)
      go_wp2
      go_roundw
      case rel => exact ⟨k + 1, by omega, by rw [HSN.out, HVI.out], by go_num, HD2.out, by trivial⟩
      case measure => simp [intOf]; omega
    · have hkn : k = T.size := by omega
      have hall : T.data.toList.take k = T.data.toList := List.take_of_length_le (by rw [← Lib.size_eq]; omega)
      rw [hall] at hvb2 ⊢
      have hV : ((val 0 T.data.toList : Nat) : Int) < 1000000000000000000 := by omega
      have HFIN : Hid (∀ z : Int, z = -((val 0 T.data.toList : Nat) : Int) → GetsZ s.data.toList z true) := fun z hz => by
        subst hz
        exact .inl ⟨rfl, num_of_min HS.out (by rw [HC.out]; simp) (by rw [← hall]; exact HDG.out) (fun b r e => by rw [HC.out] at e; cases e; exact HLN.out) hvb2⟩
      generalize val 0 T.data.toList = V at hvb2 hV HFIN ⊢
      go_wp2
      go_ret2
      exact ⟨⟨_, true, rfl, HFIN.out _ (by omega)⟩, rfl⟩
theorem number_any (s : ByteArray) (w : World) (hs : s.size ≤ 1048576) : Calls Tryd.prog 20 #[.string s] w fun e w' => NumRetZ s.data.toList e ∧ w' = w := by
  by_cases h : ∃ b r, s.data.toList = b :: r ∧ b.toNat = 45
  · obtain ⟨b, r, hl, hb⟩ := h
    exact number_minus s w hs b r hl hb
  · exact number_plus s w hs (fun b r e y => h ⟨b, r, e, y⟩)
end Go.Proofs.YtbfplmafffnghaaDoor.nz
