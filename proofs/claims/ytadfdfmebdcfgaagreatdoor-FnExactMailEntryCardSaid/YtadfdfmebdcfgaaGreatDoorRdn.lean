/-
  The model of the readings of texts of the second form: the program's way and the specification's tell the same.
-/
import Derived.Test.YtadfdfmebdcfgaaGreatDoorRdk
namespace Go.Proofs.YtadfdfmebdcfgaaGreatDoor.rd
open Go.RowKit
open dt
set_option linter.unusedVariables false
def zw (z : List UInt8) : Option Int := if z = [71, 77, 84] ∨ z = [85, 84] then some 0 else zp z
/-- A calendar with a day of the week that may be told, and a zone. -/
def coreC (k : Option (List UInt8)) (y m d h i s : Int) (z : List UInt8) : Value :=
  if (dw.inB y 1970 2099 && dw.inB m 1 12 && dw.inB d 1 (dm y m) && dw.inB h 0 23 && dw.inB i 0 59 && dw.inB s 0 59) = true ∧ (k = none ∨ k = some (wnm (st y m d h i s))) then
    (match zw z with
      | none => bad
      | some a => fin y m d h i s a)
  else bad
theorem coreC_no {k : Option (List UInt8)} {y m d h i s : Int} {z : List UInt8} (hh : ¬ Ok y m d h i s) : coreC k y m d h i s z = bad := by
  unfold coreC
  rw [if_neg (by rintro ⟨a, _⟩; exact hh (ok_and.1 a))]
theorem coreC_day {n : List UInt8} {y m d h i s : Int} {z : List UInt8} (hh : n ≠ wnm (st y m d h i s)) : coreC (some n) y m d h i s z = bad := by
  unfold coreC
  rw [if_neg (by rintro ⟨_, a | a⟩ <;> simp at a; exact hh a)]
theorem coreC_zone {k : Option (List UInt8)} {y m d h i s : Int} {z : List UInt8} (hh : zw z = none) : coreC k y m d h i s z = bad := by
  unfold coreC
  rw [hh]
  split <;> rfl
theorem coreC_fin {k : Option (List UInt8)} {y m d h i s a : Int} {z : List UInt8} (h1 : Ok y m d h i s) (h2 : k = none ∨ k = some (wnm (st y m d h i s))) (hh : zw z = some a) : coreC k y m d h i s z = fin y m d h i s a := by
  unfold coreC
  rw [if_pos ⟨ok_and.2 h1, h2⟩, hh]
def formI (d y c : List UInt8) : Bool := (hf d [48] || hf d [48, 48]) && hf y F4 && hf c F8
def formS (d y c : List UInt8) : Prop := (d.length = 1 ∨ d.length = 2) ∧ y.length = 4 ∧ c.length = 8 ∧ c.getD 2 0 = 58 ∧ c.getD 5 0 = 58
def coreI (k : Option (List UInt8)) : List (List UInt8) → Value
  | [d, mo, y, c, z] => if formI d y c = true then coreC k (num y) (mon mo) (num d) (num (g c 0 2)) (num (g c 3 2)) (num (g c 6 2)) z else bad
  | _ => bad
theorem coreI_form {k : Option (List UInt8)} {d mo y c z : List UInt8} (h : formI d y c = false) : coreI k [d, mo, y, c, z] = bad := by
  show (if _ then _ else _) = _
  rw [if_neg (by rw [h]; decide)]
theorem coreI_len {k : Option (List UInt8)} {v : List (List UInt8)} (h : v.length ≠ 5) : coreI k v = bad := by
  match v, h with
  | [], _ => rfl
  | [_], _ => rfl
  | [_, _], _ => rfl
  | [_, _, _], _ => rfl
  | [_, _, _, _], _ => rfl
  | [_, _, _, _, _], h => exact absurd rfl h
  | _ :: _ :: _ :: _ :: _ :: _ :: _, _ => rfl
theorem one_dgs {l : List UInt8} (h : hf l [48] = true) : dgs l = true ∧ l.length = 1 := by
  have hl : l.length = 1 := hf_len h
  match l, hl with
  | [a], _ => simp [hf] at h; exact ⟨by simp [dgs, h], rfl⟩
theorem formI_iff {d y c : List UInt8} : formI d y c = true ↔ formS d y c ∧ dgs d = true ∧ dgs y = true ∧ dgs (g c 0 2) = true ∧ dgs (g c 3 2) = true ∧ dgs (g c 6 2) = true := by
  constructor
  · intro h
    unfold formI at h
    simp only [Bool.and_eq_true, Bool.or_eq_true] at h
    obtain ⟨⟨h1, h2⟩, h3⟩ := h
    obtain ⟨e0, e1, e2, e3⟩ := eight_dgs h3
    obtain ⟨y1, y2⟩ := four_dgs h2
    have hc : c.getD 2 0 = 58 ∧ c.getD 5 0 = 58 := by
      match c, e0 with
      | [a1, a2, a3, a4, a5, a6, a7, a8], _ => simp [hf, F8] at h3; simp [h3]
    rcases h1 with h1 | h1
    · obtain ⟨d1, d2⟩ := one_dgs h1
      exact ⟨⟨.inl d2, y2, e0, hc.1, hc.2⟩, d1, y1, e1, e2, e3⟩
    · obtain ⟨d1, d2⟩ := two_dgs h1
      exact ⟨⟨.inr d2, y2, e0, hc.1, hc.2⟩, d1, y1, e1, e2, e3⟩
  · rintro ⟨⟨hd, hy, hc, c2, c5⟩, g1, g2, g3, g4, g5⟩
    unfold formI
    simp only [Bool.and_eq_true, Bool.or_eq_true]
    refine ⟨⟨?_, ?_⟩, ?_⟩
    · rcases hd with hd | hd
      · match d, hd with
        | [a], _ => left; simp [dgs] at g1; simp [hf, g1]
      · match d, hd with
        | [a, b], _ => right; simp [dgs] at g1; simp [hf, g1]
    · match y, hy with
      | [a, b, e, f], _ => simp [dgs] at g2; simp [hf, F4, g2]
    · match c, hc with
      | [a1, a2, a3, a4, a5, a6, a7, a8], _ =>
        simp [dgs, g] at g3 g4 g5
        simp at c2 c5
        simp [hf, F8, g3, g4, g5, c2, c5]
/-- The specification's way through five words. -/
theorem core_spec {k : Option (List UInt8)} {d mo y c z : List UInt8} (h : formS d y c) : coreI k [d, mo, y, c, z] = coreC k (nb y) (mon mo) (nb d) (nb (g c 0 2)) (nb (g c 3 2)) (nb (g c 6 2)) z := by
  cases q : formI d y c
  · rw [coreI_form q, coreC_no]
    apply not_ok
    cases q1 : dgs y
    · rw [nb_no q1]; omega
    cases q3 : dgs d
    · rw [nb_no q3]; omega
    cases q4 : dgs (g c 0 2)
    · rw [nb_no q4]; omega
    cases q5 : dgs (g c 3 2)
    · rw [nb_no q5]; omega
    cases q6 : dgs (g c 6 2)
    · rw [nb_no q6]; omega
    rw [formI_iff.2 ⟨h, q3, q1, q4, q5, q6⟩] at q
    cases q
  · obtain ⟨_, g1, g2, g3, g4, g5⟩ := formI_iff.1 q
    show (if _ then _ else _) = _
    rw [if_pos q, nb_yes g1, nb_yes g2, nb_yes g3, nb_yes g4, nb_yes g5]
theorem core_spec_no {k : Option (List UInt8)} {d mo y c z : List UInt8} (h : ¬ formS d y c) : coreI k [d, mo, y, c, z] = bad := by
  cases q : formI d y c
  · exact coreI_form q
  · exact absurd (formI_iff.1 q).1 h
/-- Where a comma stands ahead of a blank a word ends in it. -/
theorem wds_comma : ∀ (a acc b : List UInt8), ∃ ws u, wds acc (a ++ 44 :: 32 :: b) = ws ++ (u ++ [44]) :: wds [] b
  | [], acc, b => ⟨[], acc, by rw [List.nil_append, wds, if_neg (by decide), wds, if_pos rfl]; rfl⟩
  | x :: a, acc, b => by
    rw [List.cons_append, wds]
    by_cases h : x = 32
    · rw [if_pos h]
      obtain ⟨ws, u, e⟩ := wds_comma a [] b
      exact ⟨acc :: ws, u, by rw [e]; rfl⟩
    · rw [if_neg h]
      exact wds_comma a (acc ++ [x]) b
theorem wds_ne (acc l : List UInt8) : wds acc l ≠ [] := by
  induction l generalizing acc with
  | nil => simp [wds]
  | cons b l ih =>
    rw [wds]
    split
    · simp
    · exact ih _
theorem dgs_comma (u : List UInt8) : dgs (u ++ [44]) = false := by rw [dgs_snoc]; simp [show isD 44 = false by decide]
theorem mon_comma (u : List UInt8) : mon (u ++ [44]) = 0 := by
  apply mon_no
  intro j h1 hj e
  have hm : (44 : UInt8) ∈ td.mts[j]'hj := by rw [e]; simp
  have hg : td.mts[j]'hj = td.mts.getD j [] := by rw [List.getD_eq_getElem?_getD, List.getElem?_eq_getElem (show j < td.mts.length from hj)]; rfl
  rw [hg] at hm
  have : j = 1 ∨ j = 2 ∨ j = 3 ∨ j = 4 ∨ j = 5 ∨ j = 6 ∨ j = 7 ∨ j = 8 ∨ j = 9 ∨ j = 10 ∨ j = 11 ∨ j = 12 := by omega
  clear e hg h1 hj
  rcases this with rfl | rfl | rfl | rfl | rfl | rfl | rfl | rfl | rfl | rfl | rfl | rfl <;> exact absurd hm (by decide)
theorem core_comma {k : Option (List UInt8)} (a b : List UInt8) : coreI k (wds [] (a ++ 44 :: 32 :: b)) = bad := by
  obtain ⟨ws, u, e⟩ := wds_comma a [] b
  have hne := wds_ne [] b
  rw [e]
  by_cases h5 : (ws ++ (u ++ [44]) :: wds [] b).length = 5
  rotate_left
  · exact coreI_len h5
  obtain ⟨v0, vs, hv⟩ : ∃ v0 vs, wds [] b = v0 :: vs := by
    match hb : wds [] b with
    | [] => exact absurd hb hne
    | v0 :: vs => exact ⟨v0, vs, rfl⟩
  rw [hv] at h5 ⊢
  match ws, vs, h5 with
  | [], [p, q, r], _ =>
    show coreI k [u ++ [44], v0, p, q, r] = bad
    cases hq : formI (u ++ [44]) p q
    · exact coreI_form hq
    · have := (formI_iff.1 hq).2.1
      rw [dgs_comma] at this
      cases this
  | [x], [p, q], _ =>
    show coreI k [x, u ++ [44], v0, p, q] = bad
    cases hq : formI x v0 p
    · exact coreI_form hq
    · show (if _ then _ else _) = _
      rw [if_pos hq, coreC_no]
      rw [mon_comma]
      rintro ⟨_, _, h3, _⟩
      omega
  | [x, y], [p], _ =>
    show coreI k [x, y, u ++ [44], v0, p] = bad
    cases hq : formI x (u ++ [44]) v0
    · exact coreI_form hq
    · have := (formI_iff.1 hq).2.2.1
      rw [dgs_comma] at this
      cases this
  | [x, y, t], [], _ =>
    show coreI k [x, y, t, u ++ [44], v0] = bad
    cases hq : formI x t (u ++ [44])
    · exact coreI_form hq
    · obtain ⟨⟨_, _, hl, _⟩, _, _, _, _, h6⟩ := formI_iff.1 hq
      have hu : u.length = 7 := by simpa using hl
      match u, hu with
      | [a1, a2, a3, a4, a5, a6, a7], _ =>
        simp [dgs, g] at h6
        exact absurd h6.2 (by decide)
  | [x, y, t, o], _, h5 => simp at h5
  | _ :: _ :: _ :: _ :: _ :: _, _, h5 => simp at h5
  | [], [], h5 => simp at h5
  | [], [_], h5 => simp at h5
  | [], [_, _], h5 => simp at h5
  | [], _ :: _ :: _ :: _ :: _, h5 => simp at h5
  | [_], [], h5 => simp at h5
  | [_], [_], h5 => simp at h5
  | [_], _ :: _ :: _ :: _, h5 => simp at h5
  | [_, _], [], h5 => simp at h5
  | [_, _], _ :: _ :: _, h5 => simp at h5
  | [_, _, _], _ :: _, h5 => simp at h5
theorem wnm_mem (n : Int) : wnm n ∈ td.wks := by
  unfold wnm
  have h : ((n / 86400 + 4) % 7).toNat < td.wks.length := by show _ < 7; omega
  rw [List.getD_eq_getElem?_getD, List.getElem?_eq_getElem h]
  exact List.getElem_mem h
theorem core_day {n : List UInt8} (h : n ∉ td.wks) (v : List (List UInt8)) : coreI (some n) v = bad := by
  by_cases h5 : v.length = 5
  rotate_left
  · exact coreI_len h5
  match v, h5 with
  | [d, mo, y, c, z], _ =>
    show (if _ then _ else _) = _
    split
    · exact coreC_day (fun e => h (by rw [e]; exact wnm_mem _))
    · rfl
theorem wks_len {n : List UInt8} (h : n ∈ td.wks) : n.length = 3 := by
  simp only [td.wks, List.mem_cons, List.not_mem_nil, or_false] at h
  rcases h with rfl | rfl | rfl | rfl | rfl | rfl | rfl <;> rfl
theorem wks_comma {n : List UInt8} (h : n ∈ td.wks) : ∃ x y z, n = [x, y, z] ∧ x ≠ 44 ∧ y ≠ 44 ∧ z ≠ 44 := by
  simp only [td.wks, List.mem_cons, List.not_mem_nil, or_false] at h
  rcases h with rfl | rfl | rfl | rfl | rfl | rfl | rfl <;> exact ⟨_, _, _, rfl, by decide, by decide, by decide⟩
/-- The first comma ahead of a blank. -/
theorem index_comma : ∀ (l : List UInt8), Lib.index l [44, 32] = -1 ∨ ∃ a b, l = a ++ 44 :: 32 :: b ∧ Lib.index l [44, 32] = a.length
  | [] => .inl (by rfl)
  | x :: l => by
    by_cases hp : ([44, 32] : List UInt8).isPrefixOf (x :: l) = true
    · right
      match l, hp with
      | [], hp => simp [List.isPrefixOf] at hp
      | y :: l, hp =>
        simp [List.isPrefixOf] at hp
        obtain ⟨rfl, rfl⟩ := hp
        exact ⟨[], l, rfl, by rw [Lib.index]; simp [List.isPrefixOf]⟩
    · have hp' : ([44, 32] : List UInt8).isPrefixOf (x :: l) = false := Bool.eq_false_iff.2 hp
      rcases index_comma l with h | ⟨a, b, e, h⟩
      · left
        rw [Lib.index, hp', h]
        rfl
      · right
        refine ⟨x :: a, b, by rw [e]; rfl, ?_⟩
        rw [Lib.index, hp', h]
        simp
theorem cut_none {l : List UInt8} (h : Lib.index l [44, 32] = -1) : Lib.cut l [44, 32] = (l, [], false) := by unfold Lib.cut; rw [h]; rfl
theorem cut_some {a b l : List UInt8} (e : l = a ++ 44 :: 32 :: b) (h : Lib.index l [44, 32] = a.length) : Lib.cut l [44, 32] = (a, b, true) := by
  unfold Lib.cut
  rw [h, if_pos (by omega), e]
  simp
/-- The program's answer. -/
def implR (l : List UInt8) : Value := if (Lib.cut l [44, 32]).2.2 = true then coreI (some (Lib.cut l [44, 32]).1) (wds [] (Lib.cut l [44, 32]).2.1) else coreI none (wds [] l)
theorem implR_none {l : List UInt8} (h : Lib.index l [44, 32] = -1) : implR l = coreI none (wds [] l) := by unfold implR; rw [cut_none h]; rfl
theorem implR_some {a b l : List UInt8} (e : l = a ++ 44 :: 32 :: b) (h : Lib.index l [44, 32] = a.length) : implR l = coreI (some a) (wds [] b) := by unfold implR; rw [cut_some e h]; rfl
/-- Where the specification takes a day of the week. -/
def ahead (l : List UInt8) : Prop := 5 < l.length ∧ l.getD 3 0 = 44 ∧ l.getD 4 0 = 32
theorem ahead_form {l : List UInt8} (h : ahead l) : ∃ x y z r, l = x :: y :: z :: 44 :: 32 :: r := by
  obtain ⟨h1, h2, h3⟩ := h
  match l, h1 with
  | x :: y :: z :: u :: v :: r, _ =>
    simp at h2 h3
    exact ⟨x, y, z, r, by rw [h2, h3]⟩
theorem spec_ahead {l : List UInt8} (h : ahead l) (hk : l.take 3 ∈ td.wks) : implR l = coreI (some (l.take 3)) (wds [] (l.drop 5)) := by
  obtain ⟨x, y, z, r, rfl⟩ := ahead_form h
  have hk' : [x, y, z] ∈ td.wks := hk
  obtain ⟨x', y', z', e, h1, h2, h3⟩ := wks_comma hk'
  cases e
  exact implR_some (a := [x, y, z]) (b := r) rfl (by
    have p1 : ([44, 32] : List UInt8).isPrefixOf (x :: y :: z :: 44 :: 32 :: r) = false := by simp [List.isPrefixOf, Ne.symm h1]
    have p2 : ([44, 32] : List UInt8).isPrefixOf (y :: z :: 44 :: 32 :: r) = false := by simp [List.isPrefixOf, Ne.symm h2]
    have p3 : ([44, 32] : List UInt8).isPrefixOf (z :: 44 :: 32 :: r) = false := by simp [List.isPrefixOf]
    have p4 : ([44, 32] : List UInt8).isPrefixOf (44 :: 32 :: r) = true := by simp [List.isPrefixOf]
    rw [Lib.index, p1, Lib.index, p2, Lib.index, p3, Lib.index, p4]
    rfl)
theorem index_there (a b : List UInt8) : Lib.index (a ++ 44 :: 32 :: b) [44, 32] ≠ -1 := by
  induction a with
  | nil => rw [List.nil_append, Lib.index]; simp [List.isPrefixOf]
  | cons x a ih =>
    rw [List.cons_append, Lib.index]
    split
    · decide
    · rw [if_neg (by simpa using ih)]
      have := Lib.index_ge (a ++ 44 :: 32 :: b) [44, 32]
      omega
theorem spec_ahead_no {l : List UInt8} (h : ahead l) (hk : l.take 3 ∉ td.wks) : implR l = bad := by
  obtain ⟨x, y, z, r, e⟩ := ahead_form h
  rcases index_comma l with h1 | ⟨a, b, e2, h1⟩
  · exact absurd (by rw [e] at h1; exact h1) (index_there [x, y, z] r)
  · rw [implR_some e2 h1]
    apply core_day
    intro hm
    apply hk
    have h3 := wks_len hm
    rw [e2, List.take_left' h3]
    exact hm
theorem spec_plain {l : List UInt8} (h : ¬ ahead l) : implR l = coreI none (wds [] l) := by
  rcases index_comma l with h1 | ⟨a, b, e, h1⟩
  · exact implR_none h1
  · rw [implR_some e h1, e, core_comma]
    by_cases hm : a ∈ td.wks
    · obtain ⟨x, y, z, ea, _⟩ := wks_comma hm
      have hb : b = [] := by
        apply List.eq_nil_of_length_eq_zero
        rcases Nat.eq_zero_or_pos b.length with q | q
        · exact q
        · exact absurd ⟨by rw [e, ea]; simp; omega, by rw [e, ea]; rfl, by rw [e, ea]; rfl⟩ h
      rw [hb]
      rfl
    · exact core_day hm _
/-- A whole answer. -/
def r8 (l : List UInt8) : Value := if 65536 < l.length then .tuple #[.int .i64 0, .int .i64 2] else implR l
theorem coreC_two (k : Option (List UInt8)) (y m d h i s : Int) (z : List UInt8) : ∃ x c : Int, coreC k y m d h i s z = .tuple #[.int .i64 x, .int .i64 c] := by
  unfold coreC
  split
  · split
    · exact ⟨_, _, rfl⟩
    · exact fin_form _ _ _ _ _ _ _
  · exact ⟨_, _, rfl⟩
theorem coreI_yes {k : Option (List UInt8)} {d mo y c z : List UInt8} (h : formI d y c = true) : coreI k [d, mo, y, c, z] = coreC k (num y) (mon mo) (num d) (num (g c 0 2)) (num (g c 3 2)) (num (g c 6 2)) z := by
  show (if _ then _ else _) = _
  rw [if_pos h]
theorem core_two (k : Option (List UInt8)) (v : List (List UInt8)) : ∃ x c : Int, coreI k v = .tuple #[.int .i64 x, .int .i64 c] := by
  by_cases h5 : v.length = 5
  rotate_left
  · rw [coreI_len h5]; exact ⟨_, _, rfl⟩
  match v, h5 with
  | [d, mo, y, c, z], _ =>
    cases q : formI d y c
    · rw [coreI_form q]; exact ⟨_, _, rfl⟩
    · rw [coreI_yes q]; exact coreC_two _ _ _ _ _ _ _ _
theorem r8_two (l : List UInt8) : ∃ x c : Int, r8 l = .tuple #[.int .i64 x, .int .i64 c] := by
  unfold r8
  split
  · exact ⟨_, _, rfl⟩
  · unfold implR
    split <;> exact core_two _ _
end Go.Proofs.YtadfdfmebdcfgaaGreatDoor.rd
