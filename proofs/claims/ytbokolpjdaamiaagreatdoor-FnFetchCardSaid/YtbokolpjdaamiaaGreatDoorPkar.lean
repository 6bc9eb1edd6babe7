/-
  Contracts of impl.inOneLine and of the specification's l06Line, and of both OneLine functions: a text in one line.
  The specification's l06Line: a text in one line.
  Contracts of the functions that say whether an entry is right: its lines, its texts of runes of XML, its date; of the program and of the specification.
  Contracts of both EntryOK functions: whether an entry is right.
  Contracts of small functions of dates: whether a number is a stamp, and a stamp's day of the week.
-/
import Derived.Test.YtbokolpjdaamiaaGreatDoorPkaq
import Derived.Test.YtbokolpjdaamiaaGreatDoorPkaf
import Derived.BigRegion
import Derived.Deep.DeepCutAuto
import Derived.Laws.OwnMore
import Derived.Test.YtbokolpjdaamiaaGreatDoorPkae
import Derived.Test.YtbokolpjdaamiaaGreatDoorRows
import Derived.WalkKit
import Derived.WalkLawsBesides

namespace Go.Proofs.YtbokolpjdaamiaaGreatDoor.li
open Go.RowKit
set_option linter.unusedVariables false

theorem is32 (c : UInt8) : ((c.toNat : Int) == 32) = (c == 32) := by
  rw [Bool.eq_iff_iff]; simp only [beq_iff_eq]
  constructor
  · intro h; exact UInt8.toNat_inj.1 (by have : ((32 : UInt8).toNat : Int) = 32 := rfl; omega)
  · rintro rfl; rfl
def blankB (c : Int) : Bool := decide (c = 9 ∨ c = 10 ∨ c = 13 ∨ c = 32)
theorem blk_int (c : UInt8) : blankB (c.toNat : Int) = blk c := by
  rw [Bool.eq_iff_iff]
  simp [blk, blankB, ← UInt8.toNat_inj]
  omega
set_option maxHeartbeats 400000 in
theorem spec_blank (c : Int) (w : World) : Calls Tryz.prog 72 #[.int .u8 c] w fun e w' => e = .returned (.bool (blankB c)) ∧ w' = w := by
  go_enter Tryz.func72, Tryz.ntmps72
  go_wp2
  all_goals (go_ret; exact ⟨xm.ret_bool (by rw [Bool.eq_iff_iff]; simp [blankB] <;> omega), rfl⟩)
theorem spec_blk (c : UInt8) (w : World) : Calls Tryz.prog 72 #[.int .u8 (c.toNat : Int)] w fun e w' => e = .returned (.bool (blk c)) ∧ w' = w := by
  rw [← blk_int]; exact spec_blank _ w

/-- The state behind so many bytes. -/
def sk (s : ByteArray) (k : Nat) : List UInt8 × Bool := st (s.data.toList.take k)
theorem sk_step (s : ByteArray) (k : Nat) (h : k < s.size) : sk s (k + 1) = step (sk s k) s[k] := by unfold sk; rw [xm.take_snoc s k h, st_snoc]
theorem sk_all (s : ByteArray) (k : Nat) (h : s.size ≤ k) : (sk s k).1 = line s.data.toList := by unfold sk line; rw [xm.take_all s k h]
theorem sk_len (s : ByteArray) (k : Nat) : (sk s k).1.length ≤ s.size := by
  have h1 := line_len (s.data.toList.take k)
  have h2 : (s.data.toList.take k).length ≤ s.data.toList.length := by rw [List.length_take]; omega
  rw [← Lib.size_eq] at h2
  unfold sk
  unfold line at h1
  omega
theorem sk_spo (s : ByteArray) (k : Nat) : (spo (sk s k)).length ≤ s.size := by
  have h1 := spo_le (s.data.toList.take k)
  have h2 : (s.data.toList.take k).length ≤ s.data.toList.length := by rw [List.length_take]; omega
  rw [← Lib.size_eq] at h2
  unfold sk
  omega
theorem sk_zero (s : ByteArray) : sk s 0 = ([], false) := rfl
theorem sk_prev (s : ByteArray) (k : Nat) (h : k < s.size) : (sk s (k + 1)).2 = blk s[k] := by rw [sk_step s k h, step_prev]

end Go.Proofs.YtbokolpjdaamiaaGreatDoor.li

namespace Go.Proofs.YtbokolpjdaamiaaGreatDoor.li
open Go.RowKit
set_option linter.unusedVariables false

theorem cell_at {w : World} {base e g n cap : Nat} {l : List UInt8} (h : w.ownsRow base e 1 (.slice (some ⟨g, 0, none⟩) n cap) n (Lib.byteCells l)) (j : Nat) (hj : j < l.length) : w.cell? ⟨g, j, none⟩ = some (.int .u8 ((l.getD j 0).toNat : Int)) := by
  have hl : l.length = n := by have := h.1; rw [Lib.byteCells_length] at this; simpa using this
  rw [h.cellAt j (by omega)]
  simp [Lib.byteCells, List.getD_eq_getElem?_getD, hj]
theorem conv_part {P : Program} {w : World} {src dst e : TypeId} {g cap : Nat} (l : List UInt8) (hs : P.underlying src = some (.slice e)) (he : P.underlying e = some (.int .u8)) (hd : P.underlying dst = some .string)
    (hc : ∀ j, j < l.length → w.cell? ⟨g, j, none⟩ = some (.int .u8 ((l.getD j 0).toNat : Int))) : (convert src dst (.slice (some ⟨g, 0, none⟩) l.length cap)).run P w = .ok (.string ⟨l.toArray⟩) w := by
  refine run_convert_bytes_back w src dst e ⟨g, 0, none⟩ cap l hs he hd (fun j hj => ?_)
  rw [show ((⟨g, 0, none⟩ : Addr).add j) = ⟨g, j, none⟩ from by simp [Addr.add]; omega, hc j hj]
  simp [List.getD_eq_getElem?_getD, hj]

set_option maxHeartbeats 4000000 in
set_option maxRecDepth 100000 in
theorem spec_line (s : ByteArray) (w : World) (hs : s.size ≤ 1048576) :
    Calls Tryz.prog 45 #[.string s] w fun e w' => e = .returned (.string ⟨(line s.data.toList).toArray⟩) ∧ Below w.heap.size w w' := by
  obtain ⟨i0, hi, hz0, hz1, hz2⟩ := info_parts bl.info1
  go_enter Tryz.func45, Tryz.ntmps45
  go_wp2
  go_loopw [3, 4] (fun o i wr => ∃ k : Nat, k ≤ s.size ∧ i = .int .i64 k ∧ wr.ownsRow w.heap.size 5 1 o (spo (sk s k)).length (Lib.byteCells (spo (sk s k))) ∧ Below w.heap.size w wr) (fun _ i _ => s.size - (intOf i).toNat)
  case atStart => exact ⟨0, Nat.zero_le _, rfl, ow.own_empty _ _, (Below.refl _ _).alloc (Nat.le_refl _) _⟩
  case round =>
    obtain ⟨k, hk, rfl, hown, hbw⟩ := hrel
    have HL := sk_spo s k
    have hsz := hbw.size
    have HC : Hid ((spo (sk s k) = [] ∧ (sk s k).1 = []) ∨ (spo (sk s k) = (sk s k).1 ++ [32] ∧ (sk s k).1 ≠ []) ∨ (spo (sk s k) = (sk s k).1 ∧ (sk s k).1 ≠ [] ∧ ((sk s k).1.getD ((sk s k).1.length - 1) 0 == 32) = false)) := spo_cases (nice_st _)
    by_cases hlt : k < s.size
    · have HS : Hid (sk s (k + 1) = step (sk s k) s[k]) := sk_step s k hlt
      cases hb : blk (s[k]'hlt)
      · have HE : Hid (spo (sk s (k + 1)) = spo (sk s k) ++ [s[k]'hlt]) := by rw [HS.out]; exact spo_other _ hb
        have Hb : Hid (blk (s[k]'hlt) = false) := hb
        clear HS hb HC
        generalize hx : spo (sk s k) = x at hown HE HL
        clear hx
        go_wp2_with (first | (go_at_call 72; refine (spec_blk _ _).mono ?_; rintro e w' ⟨rfl, rfl⟩; rw [Hb.out]) | (at_builtin; go_loud (refine wpList_append_own _ rfl _ _ 22 rfl w.heap.size 5 i0 (.int .u8 0) 1 1 Tryz.underlying22 hi hz0 hz1 hz2 rfl (by decide) _ _ _ rfl (hown.alloc _) ⟨_, 0, none⟩ 1 1 [Value.int .u8 ((s[k]'hlt).toNat : Int)] rfl rfl (ow.cells_new _ _ 5) (by simp [Value.oneCell']) (by unfold maxLen; omega) (by omega) (by simp; omega) ?_); intro v' w3 hown' hgrow _))
        have hbz := (hbw.alloc hsz _).grown hgrow (by simp; omega) (ow.own_lt hown)
        have hown2 : w3.ownsRow w.heap.size 5 1 v' (spo (sk s (k + 1))).length (Lib.byteCells (spo (sk s (k + 1)))) := by rw [HE.out, List.length_append, Lib.byteCells_append]; exact hown'
        clear hown' hown hgrow
        go_wp2
        go_roundw
        case rel => exact ⟨k + 1, by omega, by go_num, hown2, hbz⟩
        case measure => simp [intOf]; omega
      · have Hb : Hid (blk (s[k]'hlt) = true) := hb
        clear hb
        rcases HC.out with ⟨h1, h2⟩ | ⟨h1, h2⟩ | ⟨h1, h2, h3⟩
        · have HE : Hid (spo (sk s (k + 1)) = []) := by rw [HS.out]; exact spo_blank0 Hb.out h2
          rw [h1] at hown
          clear HS HC h1 h2
          rcases hown.2 with ⟨rfl, _⟩ | ⟨g, cap, cur, rfl, _⟩
          · have HO : Hid (wr.ownsRow w.heap.size 5 1 (.slice none 0 0) ([] : List UInt8).length (Lib.byteCells [])) := hown
            clear hown
            go_wp2_with (go_at_call 72; refine (spec_blk _ _).mono ?_; rintro e w' ⟨rfl, rfl⟩; rw [Hb.out])
            go_roundw
            case rel => exact ⟨k + 1, by omega, by go_num, by rw [HE.out]; exact HO.out, hbw⟩
            case measure => simp [intOf]; omega
          · have HO : Hid (wr.ownsRow w.heap.size 5 1 (.slice (some ⟨g, 0, none⟩) ([] : List UInt8).length cap) ([] : List UInt8).length (Lib.byteCells [])) := hown
            rw [List.length_nil]
            clear hown
            go_wp2_with (go_at_call 72; refine (spec_blk _ _).mono ?_; rintro e w' ⟨rfl, rfl⟩; rw [Hb.out])
            go_roundw
            case rel => exact ⟨k + 1, by omega, by go_num, by rw [HE.out]; exact HO.out, hbw⟩
            case measure => simp [intOf]; omega
        · have HE : Hid (spo (sk s (k + 1)) = (sk s k).1 ++ [32]) := by rw [HS.out]; exact spo_blank Hb.out h2
          rw [h1] at hown HL
          clear HS HC h1 h2
          generalize hx : (sk s k).1 = x at hown HE HL
          clear hx
          have hlen : (x ++ [32]).length = x.length + 1 := by simp
          rcases hown.2 with ⟨rfl, h0⟩ | ⟨g, cap, cur, rfl, _⟩
          · omega
          have HO : Hid (wr.ownsRow w.heap.size 5 1 (.slice (some ⟨g, 0, none⟩) (x ++ [32]).length cap) (x ++ [32]).length (Lib.byteCells (x ++ [32]))) := hown
          have hc := cell_at hown x.length (by simp)
          rw [show (x ++ [(32 : UInt8)]).getD x.length 0 = (32 : UInt8) by simp [List.getD_eq_getElem?_getD], show (((32 : UInt8).toNat : Nat) : Int) = 32 from rfl] at hc
          rw [hlen] at HL ⊢
          clear hown hlen
          go_wp2_with (go_at_call 72; refine (spec_blk _ _).mono ?_; rintro e w' ⟨rfl, rfl⟩; rw [Hb.out])
          go_roundw
          case rel => exact ⟨k + 1, by omega, by go_num, by rw [HE.out]; have := HO.out; simpa using this, hbw⟩
          case measure => simp [intOf]; omega
        · have HE : Hid (spo (sk s (k + 1)) = (sk s k).1 ++ [32]) := by rw [HS.out]; exact spo_blank Hb.out h2
          rw [h1] at hown HL
          clear HS HC h1
          generalize hx : (sk s k).1 = x at hown HE HL h2 h3
          clear hx
          obtain ⟨m, hm⟩ : ∃ m, x.length = m + 1 := ⟨x.length - 1, by have := List.length_pos_iff.2 h2; omega⟩
          have h32 := is32 (x.getD (x.length - 1) 0)
          rw [h3] at h32
          rcases hown.2 with ⟨rfl, h0⟩ | ⟨g, cap, cur, rfl, _⟩
          · omega
          have hc := cell_at hown m (by omega)
          rw [hm, Nat.add_sub_cancel] at h32
          have hc' := hc
          generalize hv : (x.getD m 0) = v at hc h32
          have HO : Hid (wr.ownsRow w.heap.size 5 1 (.slice (some ⟨g, 0, none⟩) x.length cap) x.length (Lib.byteCells x)) := hown
          rw [hm] at HL hown ⊢
          clear hc' hv h2 h3
          have hvn : ((v.toNat : Int) != 32) = true := by simp [bne, h32]
          go_wp2_with (first | (go_at_call 72; refine (spec_blk _ _).mono ?_; rintro e w' ⟨rfl, rfl⟩; rw [Hb.out]) | (at_builtin; go_loud (refine wpList_append_own _ rfl _ _ 22 rfl w.heap.size 5 i0 (.int .u8 0) 1 1 Tryz.underlying22 hi hz0 hz1 hz2 rfl (by decide) _ _ _ rfl (hown.alloc _) ⟨_, 0, none⟩ 1 1 [Value.int .u8 32] rfl rfl (ow.cells_new _ _ 5) (by simp [Value.oneCell']) (by unfold maxLen; omega) (by omega) (by simp; omega) ?_); intro v' w3 hown' hgrow _))
          have hbz := (hbw.alloc hsz _).grown hgrow (by simp; omega) (ow.own_lt hown)
          have hown2 : w3.ownsRow w.heap.size 5 1 v' (spo (sk s (k + 1))).length (Lib.byteCells (spo (sk s (k + 1)))) := by rw [HE.out, List.length_append, Lib.byteCells_append, hm]; exact hown'
          clear hown' hown hgrow
          go_wp2
          go_roundw
          case rel => exact ⟨k + 1, by omega, by go_num, hown2, hbz⟩
          case measure => simp [intOf]; omega
    · have HT : Hid ((sk s k).1 = line s.data.toList) := sk_all s k (by omega)
      rcases HC.out with ⟨h1, h2⟩ | ⟨h1, h2⟩ | ⟨h1, h2, h3⟩
      · rw [h1] at hown
        have H2 : Hid ((sk s k).1 = []) := h2
        clear HC h1 h2
        have hcv := ow.conv_bytes (P := Tryz.prog) [] hown Tryz.underlying22 Tryz.underlying5 Tryz.underlying9
        rcases hown.2 with ⟨rfl, _⟩ | ⟨g, cap, cur, rfl, _⟩
        · clear hown
          go_wp2
          go_ret
          exact ⟨by rw [← HT.out, H2.out]; rfl, hbw⟩
        · rw [List.length_nil] at hcv ⊢
          clear hown
          go_wp2
          go_ret
          exact ⟨by rw [← HT.out, H2.out]; rfl, hbw⟩
      · rw [h1] at hown HL
        clear HC h1
        generalize hx : (sk s k).1 = x at hown HL h2 HT
        clear hx
        have hlen : (x ++ [32]).length = x.length + 1 := by simp
        rcases hown.2 with ⟨rfl, h0⟩ | ⟨g, cap, cur, rfl, _, _, hcap, _⟩
        · omega
        have hc := cell_at hown x.length (by simp)
        rw [show (x ++ [(32 : UInt8)]).getD x.length 0 = (32 : UInt8) by simp [List.getD_eq_getElem?_getD], show (((32 : UInt8).toNat : Nat) : Int) = 32 from rfl] at hc
        have hcv := conv_part (P := Tryz.prog) (w := wr) (g := g) (cap := cap) x Tryz.underlying22 Tryz.underlying5 Tryz.underlying9 (fun j hj => by have := cell_at hown j (by simp; omega); rwa [get_left hj] at this)
        rw [hlen] at HL hcap ⊢
        clear hown hlen h2
        go_wp2
        go_ret
        exact ⟨by rw [← HT.out]; rfl, hbw⟩
      · rw [h1] at hown HL
        clear HC h1
        generalize hx : (sk s k).1 = x at hown HL h2 h3 HT
        clear hx
        obtain ⟨m, hm⟩ : ∃ m, x.length = m + 1 := ⟨x.length - 1, by have := List.length_pos_iff.2 h2; omega⟩
        have h32 := is32 (x.getD (x.length - 1) 0)
        rw [h3] at h32
        have hcv := ow.conv_bytes (P := Tryz.prog) x hown Tryz.underlying22 Tryz.underlying5 Tryz.underlying9
        rcases hown.2 with ⟨rfl, h0⟩ | ⟨g, cap, cur, rfl, _⟩
        · omega
        have hc := cell_at hown m (by omega)
        rw [hm, Nat.add_sub_cancel] at h32
        generalize hv : (x.getD m 0) = v at hc h32
        rw [hm] at HL hown hcv ⊢
        clear hown hv h2 h3
        go_wp2
        go_ret
        exact ⟨by rw [← HT.out]; rfl, hbw⟩
end Go.Proofs.YtbokolpjdaamiaaGreatDoor.li

namespace Go.Proofs.YtbokolpjdaamiaaGreatDoor.en
open Go.RowKit
set_option linter.unusedVariables false

theorem pos_far (s : ByteArray) : ∀ n, (∀ m, m < n → ut.pos s m < s.size) → n ≤ ut.pos s n
  | 0, _ => Nat.zero_le _
  | n + 1, h => by
    have h1 := pos_far s n (fun m hm => h m (by omega))
    have h2 := (ut.pos_le s n (h n (by omega))).2
    omega
def dBad (s : ByteArray) (k : Nat) : Decidable (xm.xbad s k) := inferInstanceAs (Decidable (Utf8.decode s k = (65533, 1) ∨ xm.xr ((Utf8.decode s k).1 : Int) = false))
def dAll (s : ByteArray) (n : Nat) : Decidable (∀ m, m < n → ¬ xm.xbad s (ut.pos s m)) := @Nat.decidableBallLT n (fun m _ => ¬ xm.xbad s (ut.pos s m)) (fun m _ => @instDecidableNot _ (dBad s (ut.pos s m)))
/-- The first place at which a text's end is come to. -/
theorem good_first {s : ByteArray} (h : xm.GoodTo s s.size) : ∃ n, n < s.size + 1 ∧ s.size = ut.pos s n ∧ ∀ m, m < n → ¬ xm.xbad s (ut.pos s m) := by
  obtain ⟨n, e, _, hb, _⟩ := h
  have key : ∀ k, s.size = ut.pos s k → (∀ m, m < k → ¬ xm.xbad s (ut.pos s m)) → ∃ n, n < s.size + 1 ∧ s.size = ut.pos s n ∧ ∀ m, m < n → ¬ xm.xbad s (ut.pos s m) := by
    intro k
    induction k using Nat.strongRecOn with
    | _ k ih =>
      intro e hb
      by_cases hx : ∃ m, m < k ∧ s.size ≤ ut.pos s m
      · obtain ⟨m, hm, hle⟩ := hx
        have hmono := ut.pos_mono s m (k - m)
        rw [show m + (k - m) = k from by omega] at hmono
        exact ih m hm (by omega) (fun j hj => hb j (by omega))
      · have := pos_far s k (fun m hm => by
          by_cases h2 : ut.pos s m < s.size
          · exact h2
          · exact absurd ⟨m, hm, by omega⟩ hx)
        exact ⟨k, by omega, e, hb⟩
  exact key n e hb
def dFirst (s : ByteArray) (n : Nat) : Decidable (s.size = ut.pos s n ∧ ∀ m, m < n → ¬ xm.xbad s (ut.pos s m)) := @instDecidableAnd _ _ _ (dAll s n)
def findB (s : ByteArray) : Nat → Bool
  | 0 => @decide _ (dFirst s 0)
  | k + 1 => @decide _ (dFirst s (k + 1)) || findB s k
theorem find_iff (s : ByteArray) : ∀ k, findB s k = true ↔ ∃ n, n < k + 1 ∧ s.size = ut.pos s n ∧ ∀ m, m < n → ¬ xm.xbad s (ut.pos s m)
  | 0 => by
    rw [findB]
    constructor
    · intro h; exact ⟨0, by omega, ow.dof h⟩
    · rintro ⟨n, hn, h⟩
      obtain rfl : n = 0 := by omega
      exact ow.dt h
  | k + 1 => by
    rw [findB, Bool.or_eq_true, find_iff s k]
    constructor
    · rintro (h | ⟨n, hn, h⟩)
      · exact ⟨k + 1, by omega, ow.dof h⟩
      · exact ⟨n, by omega, h⟩
    · rintro ⟨n, hn, h⟩
      by_cases e : n = k + 1
      · subst e; exact .inl (ow.dt h)
      · exact .inr ⟨n, by omega, h⟩
def dGoodTo (s : ByteArray) : Decidable (xm.GoodTo s s.size) := decidable_of_iff (findB s s.size = true) ⟨fun h => by
  obtain ⟨n, _, e, hb⟩ := (find_iff s s.size).1 h
  exact ⟨n, e, Nat.le_refl _, hb, .inl rfl⟩, fun h => (find_iff s s.size).2 (good_first h)⟩
/-- A text of runes of XML, of at most so many bytes. -/
def ofx (s : ByteArray) (n : Nat) : Bool := @decide (s.size ≤ n ∧ xm.GoodTo s s.size) (@instDecidableAnd _ _ _ (dGoodTo s))
/-- Such a text in one line. -/
def fld (s : ByteArray) : Bool := @decide (s.size ≤ 200 ∧ xm.GoodTo s s.size ∧ li.line s.data.toList = s.data.toList) (@instDecidableAnd _ _ _ (@instDecidableAnd _ _ (dGoodTo s) _))
def stamp (d : Int) : Bool := decide (0 ≤ d ∧ d ≤ 4102444799)
theorem ofx_long {s : ByteArray} {n : Nat} (h : n < s.size) : ofx s n = false := ow.df (by omega)
theorem ofx_bad {s : ByteArray} {n g : Nat} (hg : xm.GoodTo s g) (h : g ≠ s.size) : ofx s n = false := ow.df (fun x => h (xm.good_one hg x.2))
theorem ofx_yes {s : ByteArray} {n : Nat} (h : s.size ≤ n) (hg : xm.GoodTo s s.size) : ofx s n = true := ow.dt ⟨h, hg⟩
theorem ofx_cases {s : ByteArray} {n : Nat} (h : ofx s n = true) : s.size ≤ n ∧ xm.GoodTo s s.size := ow.dof h
theorem ofx_no {s : ByteArray} {n : Nat} (h : ofx s n = false) : ¬ (s.size ≤ n ∧ xm.GoodTo s s.size) := ow.dnof h
theorem fld_no {s : ByteArray} (h : ofx s 200 = false) : fld s = false := ow.df (fun x => ofx_no h ⟨x.1, x.2.1⟩)
theorem fld_yes {s : ByteArray} (h : ofx s 200 = true) (hl : li.line s.data.toList = s.data.toList) : fld s = true := ow.dt ⟨(ofx_cases h).1, (ofx_cases h).2, hl⟩
theorem fld_bent {s : ByteArray} (hl : li.line s.data.toList ≠ s.data.toList) : fld s = false := ow.df (fun x => hl x.2.2)
theorem fld_cases {s : ByteArray} (h : fld s = true) : s.size ≤ 200 ∧ xm.GoodTo s s.size ∧ li.line s.data.toList = s.data.toList := ow.dof h
theorem toList_mk (l : List UInt8) : (⟨l.toArray⟩ : ByteArray).toList = l := by rw [Lib.toList_data]
theorem cmp_yes {s : ByteArray} (hl : li.line s.data.toList = s.data.toList) : ((⟨(li.line s.data.toList).toArray⟩ : ByteArray).toList == s.toList) = true := by rw [toList_mk, hl, Lib.toList_data]; simp
theorem cmp_no {s : ByteArray} (hl : li.line s.data.toList ≠ s.data.toList) : ((⟨(li.line s.data.toList).toArray⟩ : ByteArray).toList == s.toList) = false := by rw [toList_mk, Lib.toList_data]; simpa using hl



set_option maxHeartbeats 1000000 in
theorem spec_fld (s : ByteArray) (w : World) (hs : s.size ≤ 1048576) :
    Calls Tryz.prog 22 #[.string s] w fun e w' => e = .returned (.bool (fld s)) ∧ Below w.heap.size w w' := by
  by_cases h : 200 < s.size
  · have h' : decide ((s.size : Int) ≤ 200) = false := decide_eq_false (by omega)
    have HR : Hid (fld s = false) := fld_no (ofx_long h)
    go_enter Tryz.func22, Tryz.ntmps22
    go_wp2
    go_ret
    exact ⟨by rw [HR.out]; rfl, Below.refl _ _⟩
  have h' : decide ((s.size : Int) ≤ 200) = true := decide_eq_true (by omega)
  go_enter Tryz.func22, Tryz.ntmps22
  go_wp2_with fail
  refine (xm.spec_good s _ hs).mono ?_
  rintro e w' ⟨⟨g, hg, rfl⟩, rfl⟩
  by_cases hz : g = s.size
  · rw [if_pos hz]
    subst hz
    have HX : Hid (ofx s 200 = true) := ofx_yes (by omega) hg
    clear hg
    go_wp2_with fail
    refine (li.spec_line s _ hs).mono ?_
    rintro e w2 ⟨rfl, hb2⟩
    by_cases hl : li.line s.data.toList = s.data.toList
    · have HR : Hid (fld s = true) := fld_yes HX.out hl
      have hc := cmp_yes hl
      generalize (⟨(li.line s.data.toList).toArray⟩ : ByteArray) = x at hc ⊢
      clear hl
      go_wp2
      go_ret
      exact ⟨by rw [HR.out]; rfl, hb2⟩
    · have HR : Hid (fld s = false) := fld_bent hl
      have hc := cmp_no hl
      generalize (⟨(li.line s.data.toList).toArray⟩ : ByteArray) = x at hc ⊢
      clear hl
      go_wp2
      go_ret
      exact ⟨by rw [HR.out]; rfl, hb2⟩
  · rw [if_neg hz]
    have HR : Hid (fld s = false) := fld_no (ofx_bad hg hz)
    have hlt : decide ((g : Int) < 0) = false := decide_eq_false (by omega)
    clear hg
    go_wp2
    go_ret
    exact ⟨by rw [HR.out]; rfl, Below.refl _ _⟩

set_option maxHeartbeats 400000 in
theorem spec_stamp (d : Int) (w : World) : Calls Tryz.prog 20 #[.int .i64 d, .int .i64 0, .int .i64 4102444799] w fun e w' => e = .returned (.bool (stamp d)) ∧ w' = w := by
  go_enter Tryz.func20, Tryz.ntmps20
  go_wp2
  all_goals (go_ret; exact ⟨xm.ret_bool (by rw [Bool.eq_iff_iff]; simp [stamp] <;> omega), rfl⟩)
end Go.Proofs.YtbokolpjdaamiaaGreatDoor.en

namespace Go.Proofs.YtbokolpjdaamiaaGreatDoor.en
open Go.RowKit
set_option linter.unusedVariables false

/-- An entry. -/
structure En where
  i : ByteArray
  t : ByteArray
  l : ByteArray
  a : ByteArray
  d : Int
  c : ByteArray
def cl (e : En) : Array Value := #[.string e.i, .string e.t, .string e.l, .string e.a, .int .i64 e.d, .string e.c]
def EV (e : En) : Value := .agg (cl e)
def Lies (w : World) (b : Nat) (T : TypeId) (e : En) : Prop := w.heap[b]? = some (.cells (cl e) T (0, 0))
section
variable {w w' : World} {b : Nat} {T : TypeId} {e : En}
theorem Lies.c0 (h : Lies w b T e) : w.cell? ⟨b, 0, none⟩ = some (.string e.i) := by rw [cell_of_row w _ _ _ _ _ h]; rfl
theorem Lies.c1 (h : Lies w b T e) : w.cell? ⟨b, 0 + 1, none⟩ = some (.string e.t) := by rw [cell_of_row w _ _ _ _ _ h]; rfl
theorem Lies.c2 (h : Lies w b T e) : w.cell? ⟨b, 0 + 2, none⟩ = some (.string e.l) := by rw [cell_of_row w _ _ _ _ _ h]; rfl
theorem Lies.c3 (h : Lies w b T e) : w.cell? ⟨b, 0 + 3, none⟩ = some (.string e.a) := by rw [cell_of_row w _ _ _ _ _ h]; rfl
theorem Lies.c4 (h : Lies w b T e) : w.cell? ⟨b, 0 + 4, none⟩ = some (.int .i64 e.d) := by rw [cell_of_row w _ _ _ _ _ h]; rfl
theorem Lies.c5 (h : Lies w b T e) : w.cell? ⟨b, 0 + 5, none⟩ = some (.string e.c) := by rw [cell_of_row w _ _ _ _ _ h]; rfl
theorem Lies.lt (h : Lies w b T e) : b < w.heap.size := World.block_lt_of_cell? w _ h.c0
theorem Lies.keep (h : Lies w b T e) (hb : Below w.heap.size w w') : Lies w' b T e := (hb.block b h.lt).trans h
theorem lies_new (w : World) (T : TypeId) (e : En) : Lies (w.alloc (.cells (cl e) T)) w.heap.size T e := by show (w.heap.push _)[w.heap.size]? = _; simp
end
/-- An entry of a size that a law takes. -/
def Small (e : En) : Prop := e.i.size ≤ 1048576 ∧ e.t.size ≤ 1048576 ∧ e.l.size ≤ 1048576 ∧ e.a.size ≤ 1048576 ∧ e.c.size ≤ 1048576
/-- Whether an entry is right. -/
def eok (e : En) : Bool := !(e.i.size == 0) && fld e.i && fld e.t && fld e.l && fld e.a && ofx e.c 1000 && stamp e.d
theorem empty_list {s : ByteArray} (h : s.size = 0) : s.toList.isEmpty = true := by rw [Lib.size_eq] at h; rw [Lib.toList_data, List.isEmpty_iff]; exact List.eq_nil_of_length_eq_zero h
theorem full_list {s : ByteArray} (h : ¬ s.size = 0) : s.toList.isEmpty = false := by
  rw [Lib.size_eq] at h
  rw [Lib.toList_data]
  cases hl : s.data.toList with
  | nil => rw [hl] at h; exact absurd rfl h
  | cons => rfl
theorem empty_cmp {s : ByteArray} (h : s.size = 0) : (s.toList == (⟨#[]⟩ : ByteArray).toList) = true := by
  have := empty_list h
  rw [List.isEmpty_iff] at this
  rw [this, Lib.toList_data]; rfl
theorem full_cmp {s : ByteArray} (h : ¬ s.size = 0) : (s.toList == (⟨#[]⟩ : ByteArray).toList) = false := by
  have := full_list h
  cases hl : s.toList with
  | nil => rw [hl] at this; cases this
  | cons => rw [Lib.toList_data]; rfl


set_option maxHeartbeats 2000000 in
set_option maxRecDepth 100000 in
theorem spec_eok (e : En) (w : World) (hs : Small e) :
    Calls Tryz.prog 9 #[EV e] w fun r w' => r = .returned (.bool (eok e)) ∧ Below w.heap.size w w' := by
  obtain ⟨i, t, l, a, d, c⟩ := e
  obtain ⟨s0, s1, s2, s3, s5⟩ := hs
  simp only at s0 s1 s2 s3 s5
  have K := lies_new w 26 ⟨i, t, l, a, d, c⟩
  have bw : Below w.heap.size w (w.alloc (.cells (cl ⟨i, t, l, a, d, c⟩) 26)) := (Below.refl _ _).alloc (Nat.le_refl _) _
  have c0 := K.c0
  have c1 := K.c1
  have c2 := K.c2
  have c3 := K.c3
  have c4 := K.c4
  have c5 := K.c5
  unfold EV cl
  unfold cl at K bw c0 c1 c2 c3 c4 c5
  simp only at K bw c0 c1 c2 c3 c4 c5
  by_cases h0 : i.size = 0
  · have HR : Hid (eok ⟨i, t, l, a, d, c⟩ = false) := (show eok ⟨i, t, l, a, d, c⟩ = false by simp [eok, h0])
    have e0 := empty_list h0
    have e1 := empty_cmp h0
    clear h0
    go_enter Tryz.func9, Tryz.ntmps9
    go_wp2
    go_ret
    exact ⟨by rw [HR.out]; rfl, bw⟩
  have e0 := full_list h0
  have e1 := full_cmp h0
  have h0' : (i.size == 0) = false := beq_eq_false_iff_ne.2 h0
  have H0 : Hid ((i.size == 0) = false) := h0'
  clear h0 h0'
  cases fi : fld i
  · have Fi : Hid (fld i = false) := fi
    have HR : Hid (eok ⟨i, t, l, a, d, c⟩ = false) := (show eok ⟨i, t, l, a, d, c⟩ = false by simp [eok, H0.out, fi])
    clear fi
    go_enter Tryz.func9, Tryz.ntmps9
    go_wp2_with (go_at_call 22; refine (spec_fld _ _ (by assumption)).mono ?_; rintro e w' ⟨rfl, hb⟩; rw [Fi.out]; have bw := bw.trans (hb.mono bw.size); have K := K.keep hb; have c1 := K.c1; have c2 := K.c2; have c3 := K.c3; have c4 := K.c4; have c5 := K.c5; clear hb)
    go_ret
    exact ⟨by rw [HR.out]; rfl, bw⟩
  have Fi : Hid (fld i = true) := fi
  clear fi
  cases ft : fld t
  · have Ft : Hid (fld t = false) := ft
    have HR : Hid (eok ⟨i, t, l, a, d, c⟩ = false) := (show eok ⟨i, t, l, a, d, c⟩ = false by simp [eok, H0.out, Fi.out, ft])
    clear ft
    go_enter Tryz.func9, Tryz.ntmps9
    go_wp2_with (go_at_call 22; refine (spec_fld _ _ (by assumption)).mono ?_; rintro e w' ⟨rfl, hb⟩; (first | rw [Fi.out] | rw [Ft.out]); have bw := bw.trans (hb.mono bw.size); have K := K.keep hb; have c1 := K.c1; have c2 := K.c2; have c3 := K.c3; have c4 := K.c4; have c5 := K.c5; clear hb)
    go_ret
    exact ⟨by rw [HR.out]; rfl, bw⟩
  have Ft : Hid (fld t = true) := ft
  clear ft
  cases fl : fld l
  · have Fl : Hid (fld l = false) := fl
    have HR : Hid (eok ⟨i, t, l, a, d, c⟩ = false) := (show eok ⟨i, t, l, a, d, c⟩ = false by simp [eok, H0.out, Fi.out, Ft.out, fl])
    clear fl
    go_enter Tryz.func9, Tryz.ntmps9
    go_wp2_with (go_at_call 22; refine (spec_fld _ _ (by assumption)).mono ?_; rintro e w' ⟨rfl, hb⟩; (first | rw [Fi.out] | rw [Ft.out] | rw [Fl.out]); have bw := bw.trans (hb.mono bw.size); have K := K.keep hb; have c1 := K.c1; have c2 := K.c2; have c3 := K.c3; have c4 := K.c4; have c5 := K.c5; clear hb)
    go_ret
    exact ⟨by rw [HR.out]; rfl, bw⟩
  have Fl : Hid (fld l = true) := fl
  clear fl
  cases fa : fld a
  · have Fa : Hid (fld a = false) := fa
    have HR : Hid (eok ⟨i, t, l, a, d, c⟩ = false) := (show eok ⟨i, t, l, a, d, c⟩ = false by simp [eok, H0.out, Fi.out, Ft.out, Fl.out, fa])
    clear fa
    go_enter Tryz.func9, Tryz.ntmps9
    go_wp2_with (go_at_call 22; refine (spec_fld _ _ (by assumption)).mono ?_; rintro e w' ⟨rfl, hb⟩; (first | rw [Fi.out] | rw [Ft.out] | rw [Fl.out] | rw [Fa.out]); have bw := bw.trans (hb.mono bw.size); have K := K.keep hb; have c1 := K.c1; have c2 := K.c2; have c3 := K.c3; have c4 := K.c4; have c5 := K.c5; clear hb)
    go_ret
    exact ⟨by rw [HR.out]; rfl, bw⟩
  have Fa : Hid (fld a = true) := fa
  clear fa
  cases fd : stamp d
  · have Fd : Hid (stamp d = false) := fd
    have HR : Hid (eok ⟨i, t, l, a, d, c⟩ = false) := (show eok ⟨i, t, l, a, d, c⟩ = false by simp [eok, fd])
    clear fd
    go_enter Tryz.func9, Tryz.ntmps9
    go_wp2_with (first | (go_at_call 22; refine (spec_fld _ _ (by assumption)).mono ?_; rintro e w' ⟨rfl, hb⟩; (first | rw [Fi.out] | rw [Ft.out] | rw [Fl.out] | rw [Fa.out]); have bw := bw.trans (hb.mono bw.size); have K := K.keep hb; have c1 := K.c1; have c2 := K.c2; have c3 := K.c3; have c4 := K.c4; have c5 := K.c5; clear hb) | (go_at_call 20; refine (spec_stamp _ _).mono ?_; rintro e w' ⟨rfl, rfl⟩; rw [Fd.out]))
    go_ret
    exact ⟨by rw [HR.out]; rfl, bw⟩
  have Fd : Hid (stamp d = true) := fd
  clear fd
  by_cases hc : 1000 < c.size
  · have HR : Hid (eok ⟨i, t, l, a, d, c⟩ = false) := (show eok ⟨i, t, l, a, d, c⟩ = false by simp [eok, ofx_long hc])
    have hc' : decide ((c.size : Int) ≤ 1000) = false := decide_eq_false (by omega)
    go_enter Tryz.func9, Tryz.ntmps9
    go_wp2_with (first | (go_at_call 22; refine (spec_fld _ _ (by assumption)).mono ?_; rintro e w' ⟨rfl, hb⟩; (first | rw [Fi.out] | rw [Ft.out] | rw [Fl.out] | rw [Fa.out]); have bw := bw.trans (hb.mono bw.size); have K := K.keep hb; have c1 := K.c1; have c2 := K.c2; have c3 := K.c3; have c4 := K.c4; have c5 := K.c5; clear hb) | (go_at_call 20; refine (spec_stamp _ _).mono ?_; rintro e w' ⟨rfl, rfl⟩; rw [Fd.out]))
    go_ret
    exact ⟨by rw [HR.out]; rfl, bw⟩
  have hc' : decide ((c.size : Int) ≤ 1000) = true := decide_eq_true (by omega)
  go_enter Tryz.func9, Tryz.ntmps9
  go_wp2_with (first | (go_at_call 22; refine (spec_fld _ _ (by assumption)).mono ?_; rintro e w' ⟨rfl, hb⟩; (first | rw [Fi.out] | rw [Ft.out] | rw [Fl.out] | rw [Fa.out]); have bw := bw.trans (hb.mono bw.size); have K := K.keep hb; have c1 := K.c1; have c2 := K.c2; have c3 := K.c3; have c4 := K.c4; have c5 := K.c5; clear hb) | (go_at_call 20; refine (spec_stamp _ _).mono ?_; rintro e w' ⟨rfl, rfl⟩; rw [Fd.out]) | fail)
  go_at_call 23
  refine (xm.spec_good _ _ (by assumption)).mono ?_
  rintro e w' ⟨⟨g, hg, rfl⟩, rfl⟩
  by_cases hz : g = c.size
  · subst hz
    have HR : Hid (eok ⟨i, t, l, a, d, c⟩ = true) := (show eok ⟨i, t, l, a, d, c⟩ = true by simp [eok, H0.out, Fi.out, Ft.out, Fl.out, Fa.out, Fd.out, ofx_yes (n := 1000) (by omega) hg])
    rw [if_pos rfl]
    clear hg
    go_wp2
    go_ret
    exact ⟨by rw [HR.out]; rfl, bw⟩
  · have HR : Hid (eok ⟨i, t, l, a, d, c⟩ = false) := (show eok ⟨i, t, l, a, d, c⟩ = false by simp [eok, ofx_bad (n := 1000) hg hz])
    rw [if_neg hz]
    have hlt : decide ((g : Int) < 0) = false := decide_eq_false (by omega)
    clear hg
    go_wp2
    go_ret
    exact ⟨by rw [HR.out]; rfl, bw⟩

end Go.Proofs.YtbokolpjdaamiaaGreatDoor.en

namespace Go.Proofs.YtbokolpjdaamiaaGreatDoor.dw
open Go.RowKit
set_option linter.unusedVariables false

def inB (n a b : Int) : Bool := decide (a ≤ n ∧ n ≤ b)
theorem in_yes {n a b : Int} (h : a ≤ n) (h' : n ≤ b) : inB n a b = true := decide_eq_true ⟨h, h'⟩
theorem in_no {n a b : Int} (h : n < a ∨ b < n) : inB n a b = false := decide_eq_false (by omega)
theorem in_no_iff {n a b : Int} : inB n a b = false ↔ (n < a ∨ b < n) := by simp [inB]; omega
set_option maxHeartbeats 400000 in
theorem in_any (n a b : Int) (w : World) : Calls Tryz.prog 20 #[.int .i64 n, .int .i64 a, .int .i64 b] w fun e w' => e = .returned (.bool (inB n a b)) ∧ w' = w := by
  by_cases h : a ≤ n
  · go_enter Tryz.func20, Tryz.ntmps20
    go_wp2
    all_goals (go_ret; exact ⟨by simp [inB, h], rfl⟩)
  · have h' : decide (a ≤ n) = false := decide_eq_false h
    go_enter Tryz.func20, Tryz.ntmps20
    go_wp2
    all_goals (go_ret; exact ⟨by rw [show inB n a b = false from decide_eq_false (by omega)]; rfl, rfl⟩)


/-- A stamp's day of the week and a code. -/
def wd (n : Int) : Value := if inB n 0 4102444799 then .tuple #[.int .i64 ((n / 86400 + 4) % 7), .int .i64 0] else .tuple #[.int .i64 0, .int .i64 4]
theorem wd_in {n : Int} (h : inB n 0 4102444799 = true) : wd n = .tuple #[.int .i64 ((n / 86400 + 4) % 7), .int .i64 0] := by simp [wd, h]
theorem wd_out {n : Int} (h : inB n 0 4102444799 = false) : wd n = .tuple #[.int .i64 0, .int .i64 4] := by simp [wd, h]
theorem wd_form (n : Int) : ∃ x c : Int, wd n = .tuple #[.int .i64 x, .int .i64 c] := by
  cases h : inB n 0 4102444799
  · exact ⟨_, _, wd_out h⟩
  · exact ⟨_, _, wd_in h⟩
theorem in_iff {n a b : Int} : inB n a b = true ↔ (a ≤ n ∧ n ≤ b) := by simp [inB]


end Go.Proofs.YtbokolpjdaamiaaGreatDoor.dw
