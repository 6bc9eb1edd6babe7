/-
  What a connection is sent: whether a line is one command.
-/
import Derived.Test.YtbfplmafffnghaaDoorTes
import Derived.Test.YtbfplmafffnghaaDoorKya
import Derived.Deep.QuietTactic
namespace Go.Proofs.YtbfplmafffnghaaDoor.sw
open Go.RowKit
open nu li te
set_option linter.unusedVariables false

/-- A bool that tells whether it is so. -/
def Bo (P : Prop) (e : Ending) : Prop := ∃ o : Bool, e = .returned (.bool o) ∧ (o = true ↔ P)
def shN (c : Int) : Bool := decide (32 ≤ c ∧ c ≤ 126)
def Sh (l : List UInt8) : Prop := ∀ b ∈ l, 32 ≤ b.toNat ∧ b.toNat ≤ 126
/-- A line that is just one command. -/
def Wh (kind : Int) (l : List UInt8) : Prop := (kind = 1 ∧ EndIs (l ++ [13, 10]) l.length 0) ∨ (kind = 2 ∧ l.length ≤ 500 ∧ Sh l)
theorem ret_bool {a b : Bool} (h : a = b) : Ending.returned (.bool a) = Ending.returned (.bool b) := by rw [h]
set_option maxHeartbeats 400000 in
theorem isShown_any (c : Int) (w : World) : Calls Tryd.prog 21 #[.int .u8 c] w fun e w' => e = .returned (.bool (shN c)) ∧ w' = w := by
  go_enter Tryd.func21, Tryd.ntmps21
  go_wp2
  all_goals (go_ret; exact ⟨ret_bool (by rw [Bool.eq_iff_iff]; simp [shN] <;> omega), rfl⟩)
set_option maxHeartbeats 400000 in
theorem in_shown (c : Int) (w : World) : Calls Tryd.prog 17 #[.int .i64 c, .int .i64 32, .int .i64 126] w fun e w' => e = .returned (.bool (shN c)) ∧ w' = w := by
  go_enter Tryd.func17, Tryd.ntmps17
  go_wp2
  all_goals (go_ret; exact ⟨ret_bool (by rw [Bool.eq_iff_iff]; simp [shN] <;> omega), rfl⟩)
/-- All from here back are shown. -/
def ShTo (s : ByteArray) (k : Nat) : Prop := ∀ j, (h : j < s.size) → j < k → 32 ≤ (s[j]'h).toNat ∧ (s[j]'h).toNat ≤ 126
theorem sh_all {s : ByteArray} {k : Nat} (h : ShTo s k) (hk : s.size ≤ k) : Sh s.data.toList := by
  intro b hb
  obtain ⟨j, hj, e⟩ := List.getElem_of_mem hb
  have hj2 : j < s.size := by rw [Lib.size_eq]; exact hj
  have := h j hj2 (by omega)
  have e2 : s[j]'hj2 = b := e
  rwa [e2] at this
theorem sh_not {s : ByteArray} {k : Nat} (hk : k < s.size) (h : shN ((s[k]'hk).toNat : Int) = false) : ¬ Sh s.data.toList := by
  intro y
  have := y (s[k]'hk) (List.getElem_mem (by rw [← Lib.size_eq]; exact hk))
  unfold shN at h
  rw [decide_eq_false_iff_not] at h
  omega
theorem sh_next {s : ByteArray} {k : Nat} (h : ShTo s k) (hk : k < s.size) (h2 : shN ((s[k]'hk).toNat : Int) = true) : ShTo s (k + 1) := by
  intro j hj hjk
  by_cases e : j = k
  · subst e
    unfold shN at h2
    rw [decide_eq_true_iff] at h2
    omega
  · exact h j hj (by omega)

set_option maxHeartbeats 2000000 in
set_option maxRecDepth 100000 in
theorem areShown_any (s : ByteArray) (hs : s.size ≤ 1048576) (w : World) :
    Calls Tryd.prog 18 #[.string s] w fun e w' => Bo (Sh s.data.toList) e ∧ Below w.heap.size w w' := by
  go_enter Tryd.func18, Tryd.ntmps18
  go_wp2
  go_loopw [6] (fun a wr => ∃ k : Nat, a = .int .i64 k ∧ k ≤ s.size ∧ ShTo s k ∧ Below w.heap.size w wr) (fun a _ => s.size - (intOf a).toNat)
  case atStart => exact ⟨0, rfl, Nat.zero_le _, fun j _ h => by omega, Below.refl _ _⟩
  case round =>
    obtain ⟨k, rfl, hk, hsh, hbw⟩ := hrel
    have HSH : Hid (ShTo s k) := hsh
    have HBW : Hid (Below w.heap.size w wr) := hbw
    clear hsh hbw
    by_cases hlt : k < s.size
    · have hlt' : (k : Int) < (s.size : Int) := by omega
      have hk0 : (0 : Int) ≤ (k : Int) := by omega
      have hix : ∀ wx : World, (Instr.index 9 (.string s) (.int .i64 (k : Int))).run Tryd.prog wx = .ok (.int .u8 ((s[k]'hlt).toNat : Int)) wx := fun wx => by
        rw [run_index_string wx 9 s .i64 (k : Int) Tryd.underlying9, dif_pos ⟨by omega, by omega⟩]
        rfl
      cases hq : shN ((s[k]'hlt).toNat : Int) with
      | false =>
        have HN : Hid (¬ Sh s.data.toList) := sh_not hlt hq
        have HC : Hid (∀ W, Calls Tryd.prog 21 #[.int .u8 ((s[k]'hlt).toNat : Int)] W fun e w' => e = .returned (.bool false) ∧ w' = W) := fun W => by have := isShown_any ((s[k]'hlt).toNat : Int) W; rwa [hq] at this
        clear hq
        go_wp2_with fail
        refine (HC.out _).mono ?_
        rintro e wr ⟨rfl, rfl⟩
        go_wp2
        go_ret
        exact ⟨⟨false, rfl, ⟨fun h => absurd h (by decide), fun h => absurd h HN.out⟩⟩, HBW.out⟩
      | true =>
        have HN : Hid (ShTo s (k + 1)) := sh_next HSH.out hlt hq
        have HC : Hid (∀ W, Calls Tryd.prog 21 #[.int .u8 ((s[k]'hlt).toNat : Int)] W fun e w' => e = .returned (.bool true) ∧ w' = W) := fun W => by have := isShown_any ((s[k]'hlt).toNat : Int) W; rwa [hq] at this
        clear hq
        go_wp2_with fail
        refine (HC.out _).mono ?_
        rintro e wr ⟨rfl, rfl⟩
        go_wp2
        go_roundw
        case rel => exact ⟨k + 1, by go_num, by omega, HN.out, HBW.out⟩
        case measure => first | (simp [intOf]; done) | (simp [intOf]; omega)
    · have hlt' : decide ((k : Int) < (s.size : Int)) = false := decide_eq_false (by omega)
      have hlt2 : ¬ (k : Int) < (s.size : Int) := by omega
      have HR : Hid (Sh s.data.toList) := sh_all HSH.out (by omega)
      go_wp2
      go_ret
      exact ⟨⟨true, rfl, ⟨fun _ => HR.out, fun _ => rfl⟩⟩, HBW.out⟩

set_option maxHeartbeats 2000000 in
set_option maxRecDepth 100000 in
theorem line14_any (s : ByteArray) (hs : s.size ≤ 1048576) (w : World) :
    Calls Tryd.prog 13 #[.string s] w fun e w' => Bo ((s.data.toList.length ≤ 500 ∧ Sh s.data.toList)) e ∧ Below w.heap.size w w' := by
  have HLEN : Hid (s.data.toList.length = s.size) := (Lib.size_eq s).symm
  go_enter Tryd.func13, Tryd.ntmps13
  go_wp2
  go_loopw [3] (fun a wr => ∃ k : Nat, a = .int .i64 k ∧ k ≤ s.size ∧ ShTo s k ∧ Below w.heap.size w wr) (fun a _ => s.size - (intOf a).toNat)
  case atStart => exact ⟨0, rfl, Nat.zero_le _, fun j _ h => by omega, Below.refl _ _⟩
  case round =>
    obtain ⟨k, rfl, hk, hsh, hbw⟩ := hrel
    have HSH : Hid (ShTo s k) := hsh
    have HBW : Hid (Below w.heap.size w wr) := hbw
    clear hsh hbw
    by_cases hlt : k < s.size
    · have hlt' : (k : Int) < (s.size : Int) := by omega
      have hk0 : (0 : Int) ≤ (k : Int) := by omega
      have hix : ∀ wx : World, (Instr.index 9 (.string s) (.int .i64 (k : Int))).run Tryd.prog wx = .ok (.int .u8 ((s[k]'hlt).toNat : Int)) wx := fun wx => by
        rw [run_index_string wx 9 s .i64 (k : Int) Tryd.underlying9, dif_pos ⟨by omega, by omega⟩]
        rfl
      have h255 : ((s[k]'hlt).toNat : Int) ≤ 255 := by have := (s[k]'hlt).toNat_lt; omega
      cases hq : shN ((s[k]'hlt).toNat : Int) with
      | false =>
        have HN : Hid (¬ Sh s.data.toList) := sh_not hlt hq
        have HC : Hid (∀ W, Calls Tryd.prog 17 #[.int .i64 ((s[k]'hlt).toNat : Int), .int .i64 32, .int .i64 126] W fun e w' => e = .returned (.bool false) ∧ w' = W) := fun W => by have := in_shown ((s[k]'hlt).toNat : Int) W; rwa [hq] at this
        clear hq
        go_wp2_with fail
        refine (HC.out _).mono ?_
        rintro e wr ⟨rfl, rfl⟩
        go_wp2
        go_ret
        exact ⟨⟨false, rfl, ⟨fun h => absurd h (by decide), fun h => absurd h.2 HN.out⟩⟩, HBW.out⟩
      | true =>
        have HN : Hid (ShTo s (k + 1)) := sh_next HSH.out hlt hq
        have HC : Hid (∀ W, Calls Tryd.prog 17 #[.int .i64 ((s[k]'hlt).toNat : Int), .int .i64 32, .int .i64 126] W fun e w' => e = .returned (.bool true) ∧ w' = W) := fun W => by have := in_shown ((s[k]'hlt).toNat : Int) W; rwa [hq] at this
        clear hq
        go_wp2_with fail
        refine (HC.out _).mono ?_
        rintro e wr ⟨rfl, rfl⟩
        go_wp2
        go_roundw
        case rel => exact ⟨k + 1, by go_num, by omega, HN.out, HBW.out⟩
        case measure => first | (simp [intOf]; done) | (simp [intOf]; omega)
    · have hlt' : decide ((k : Int) < (s.size : Int)) = false := decide_eq_false (by omega)
      have hlt2 : ¬ (k : Int) < (s.size : Int) := by omega
      have HR : Hid (Sh s.data.toList) := sh_all HSH.out (by omega)
      by_cases h5 : s.size ≤ 500
      · have d5 : (s.size : Int) ≤ 500 := by omega
        have d5d : decide ((s.size : Int) ≤ 500) = true := decide_eq_true d5
        have H5 : Hid (s.data.toList.length ≤ 500) := by rw [HLEN.out]; exact h5
        clear h5
        go_wp2
        go_ret
        exact ⟨⟨true, rfl, ⟨fun _ => ⟨H5.out, HR.out⟩, fun _ => rfl⟩⟩, HBW.out⟩
      · have d5 : ¬ (s.size : Int) ≤ 500 := by omega
        have d5d : decide ((s.size : Int) ≤ 500) = false := decide_eq_false d5
        have H5 : Hid (¬ s.data.toList.length ≤ 500) := by rw [HLEN.out]; exact h5
        clear h5
        go_wp2
        go_ret
        exact ⟨⟨false, rfl, ⟨fun h => absurd h (by decide), fun h => absurd h.1 H5.out⟩⟩, HBW.out⟩
/-- A line with its end. -/
def ln (s : ByteArray) : ByteArray := ⟨(s.data.toList ++ [13, 10]).toArray⟩
theorem ln_list (s : ByteArray) : (ln s).data.toList = s.data.toList ++ [13, 10] := by simp [ln]
theorem ln_size (s : ByteArray) : (ln s).size = s.size + 2 := by rw [Lib.size_eq, ln_list, List.length_append, ← Lib.size_eq]; rfl
theorem ln_cat (s : ByteArray) : s ++ ⟨#[13, 10]⟩ = ln s := by
  apply ByteArray.ext
  unfold ln
  rw [← Array.toList_inj]
  simp
theorem take_whole {s : ByteArray} {e : Ending} (h : TakeRet (ln s).data.toList e) : ∃ (a b : ByteArray) (code : Int), e = .returned (.tuple #[.string a, .string b, .int .i64 code]) ∧ ((code = 0 ∧ b.size = 0) ↔ EndIs (s.data.toList ++ [13, 10]) s.data.toList.length 0) := by
  rw [ln_list] at h
  obtain ⟨v, code, hE, ⟨rfl, hr, rfl⟩ | ⟨hc, rfl⟩⟩ := h
  · refine ⟨_, _, 0, rfl, ?_⟩
    have hsz : (⟨((s.data.toList ++ [13, 10]).drop (v + 2)).toArray⟩ : ByteArray).size = s.data.toList.length + 2 - (v + 2) := by
      show ((s.data.toList ++ [13, 10]).drop (v + 2)).toArray.size = _
      rw [List.size_toArray, List.length_drop, List.length_append]
      rfl
    rw [hsz]
    have hl : (s.data.toList ++ [13, 10]).length = s.data.toList.length + 2 := by simp
    rw [hl] at hr
    constructor
    · rintro ⟨_, h0⟩
      have : v = s.data.toList.length := by omega
      rwa [this] at hE
    · intro h
      have := (end_one hE h).1
      exact ⟨rfl, by omega⟩
  · refine ⟨_, _, code, rfl, ⟨fun h => absurd h.1 hc, fun h => ?_⟩⟩
    exact absurd (end_one hE h).2 hc

set_option maxHeartbeats 2000000 in
set_option maxRecDepth 100000 in
theorem isOne_any (s : ByteArray) (kind : Int) (hk : kind = 1 ∨ kind = 2) (hs : s.size + 2 ≤ 4000) (w : World) (m : Int) (hm : w.cell? ⟨0, 0, none⟩ = some (.int .i64 m)) (hS : cn.Sents w) (hT : tb.TP w) :
    Calls Tryd.prog 14 #[.string s, .int .i64 kind] w fun e w' => Bo (Wh kind s.data.toList) e ∧ Below w.heap.size w w' := by
  have HLEN : Hid (s.data.toList.length = s.size) := (Lib.size_eq s).symm
  rcases hk with rfl | rfl
  · have HT : Hid (Calls Tryd.prog 19 #[.string (ln s)] w fun e w' => TakeRet (ln s).data.toList e ∧ Below w.heap.size w w') := take_impl (ln s) (by rw [ln_size]; omega) w m hm hS hT
    have hcat := ln_cat s
    have hDs : ¬ 9223372036854775807 < s.size + 2 := by omega
    clear hm hS hT
    go_enter Tryd.func14, Tryd.ntmps14
    go_wp2_with fail
    refine HT.out.mono ?_
    rintro e w1 ⟨hr, b1⟩
    obtain ⟨a, b, code, rfl, hiff⟩ := take_whole hr
    have HF : Hid (∀ o : Bool, (o = true ↔ (code = 0 ∧ b.size = 0)) → (o = true ↔ Wh 1 s.data.toList)) := fun o ho => by
      rw [ho, hiff]
      exact ⟨fun h => .inl ⟨rfl, h⟩, fun h => by rcases h with ⟨_, h⟩ | ⟨h, _⟩; exact h; exact absurd h (by decide)⟩
    clear HT hr hiff hcat
    by_cases hc : code = 0
    · subst hc
      by_cases hb : b.size = 0
      · have hE : (b.toList == []) = true := by rw [Lib.toList_data]; rw [show b.data.toList = [] from List.eq_nil_of_length_eq_zero (by rw [← Lib.size_eq]; exact hb)]; rfl
        have HR : Hid (Wh 1 s.data.toList) := (HF.out true ⟨fun _ => ⟨rfl, hb⟩, fun _ => rfl⟩).1 rfl
        clear hb HF
        go_wp2
        go_ret
        exact ⟨⟨true, rfl, ⟨fun _ => HR.out, fun _ => rfl⟩⟩, b1⟩
      · have hE : (b.toList == []) = false := by rw [Lib.toList_data]; exact beq_eq_false_iff_ne.2 fun e => hb (by rw [Lib.size_eq, e]; rfl)
        have HR : Hid (¬ Wh 1 s.data.toList) := fun y => absurd ((HF.out false ⟨fun h => absurd h (by decide), fun h => absurd h.2 hb⟩).2 y) (by decide)
        clear hb HF
        go_wp2
        go_ret
        exact ⟨⟨false, rfl, ⟨fun h => absurd h (by decide), fun h => absurd h HR.out⟩⟩, b1⟩
    · have dc : ((code : Int) == 0) = false := beq_eq_false_iff_ne.2 hc
      have HR : Hid (¬ Wh 1 s.data.toList) := fun y => absurd ((HF.out false ⟨fun h => absurd h (by decide), fun h => absurd h.1 hc⟩).2 y) (by decide)
      clear hc HF
      go_wp2
      go_ret
      exact ⟨⟨false, rfl, ⟨fun h => absurd h (by decide), fun h => absurd h HR.out⟩⟩, b1⟩
  · have HA : Hid (Calls Tryd.prog 18 #[.string s] w fun e w' => Bo (Sh s.data.toList) e ∧ Below w.heap.size w w') := areShown_any s (by omega) w
    clear hm hS hT
    by_cases h5 : s.size ≤ 500
    · have d5 : (s.size : Int) ≤ 500 := by omega
      have d5d : decide ((s.size : Int) ≤ 500) = true := decide_eq_true d5
      have H5 : Hid (s.data.toList.length ≤ 500) := by rw [HLEN.out]; exact h5
      clear h5
      go_enter Tryd.func14, Tryd.ntmps14
      go_wp2_with fail
      refine HA.out.mono ?_
      rintro e w1 ⟨⟨o, rfl, ho⟩, b1⟩
      have HR : Hid (o = true ↔ Wh 2 s.data.toList) := ⟨fun h => .inr ⟨rfl, H5.out, ho.1 h⟩, fun h => by rcases h with ⟨h, _⟩ | ⟨_, _, h⟩; exact absurd h (by decide); exact ho.2 h⟩
      clear ho HA
      go_wp2
      go_ret
      exact ⟨⟨o, rfl, HR.out⟩, b1⟩
    · have d5 : ¬ (s.size : Int) ≤ 500 := by omega
      have d5d : decide ((s.size : Int) ≤ 500) = false := decide_eq_false d5
      have H5 : Hid (¬ s.data.toList.length ≤ 500) := by rw [HLEN.out]; exact h5
      clear h5 HA
      go_enter Tryd.func14, Tryd.ntmps14
      go_wp2
      go_ret
      exact ⟨⟨false, rfl, ⟨fun h => absurd h (by decide), fun h => by rcases h with ⟨h, _⟩ | ⟨_, h, _⟩; exact absurd h (by decide); exact absurd h H5.out⟩⟩, Below.refl _ _⟩
end Go.Proofs.YtbfplmafffnghaaDoor.sw
