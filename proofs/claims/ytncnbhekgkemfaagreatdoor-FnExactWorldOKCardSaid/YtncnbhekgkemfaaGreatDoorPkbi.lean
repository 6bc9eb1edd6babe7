/-
  A variable of three cells; cut and copied logs; both LogSync functions.
  A record as a log has it: both functions that make it.
  Plain facts on the records of a log: numbers of bytes, the first record of a text, all of them.
  Both LogSync functions.
  A copied log.
-/
import Derived.Test.YtncnbhekgkemfaaGreatDoorPkbh
import Derived.Test.YtncnbhekgkemfaaGreatDoorPkaq

namespace Go.Proofs.YtncnbhekgkemfaaGreatDoor.lg
open Go.ChangeShapes Go.WideShapes Go.ChangeAt Go.RowKit Go.Deep Go.Joins
set_option linter.unusedVariables false

def B3 (w : World) (g : Nat) (t : TypeId) (a b c : Value) : Prop := w.heap[g]? = some (.cells #[a, b, c] t (0, 0))
section
variable {w w' : World} {g : Nat} {t : TypeId} {a b c a' b' c' : Value}
theorem b3_new (w : World) (t : TypeId) (a b c : Value) : B3 (w.alloc (.cells #[a, b, c] t)) w.heap.size t a b c := by
  show (w.heap.push (.cells #[a, b, c] t))[w.heap.size]? = _
  simp
theorem B3.c0 (h : B3 w g t a b c) : w.cell? ⟨g, 0, none⟩ = some a := by rw [cell_of_row _ _ 0 _ _ _ h]; rfl
theorem B3.c1 (h : B3 w g t a b c) : w.cell? ⟨g, 1, none⟩ = some b := by rw [cell_of_row _ _ 1 _ _ _ h]; rfl
theorem B3.c1' (h : B3 w g t a b c) : w.cell? ⟨g, 0 + 1, none⟩ = some b := by rw [cell_of_row _ _ _ _ _ _ h]; rfl
theorem B3.c2 (h : B3 w g t a b c) : w.cell? ⟨g, 2, none⟩ = some c := by rw [cell_of_row _ _ 2 _ _ _ h]; rfl
theorem B3.c2' (h : B3 w g t a b c) : w.cell? ⟨g, 0 + 2, none⟩ = some c := by rw [cell_of_row _ _ _ _ _ _ h]; rfl
theorem B3.f (h : B3 w g t a b c) (j : Nat) : w.frozen? ⟨g, j, none⟩ = false := frozen_of_row _ _ _ _ _ h
theorem B3.lt (h : B3 w g t a b c) : g < w.heap.size := (Array.getElem?_eq_some_iff.1 h).1
theorem B3.keep (h : B3 w g t a b c) (hb : Below w.heap.size w w') : B3 w' g t a b c := (hb.block g h.lt).trans h
theorem B3.put0 (h : B3 w g t a b c) (u : Value) : B3 (w.setCell ⟨g, 0, none⟩ u) g t u b c := heap_setCell_same _ g 0 _ _ _ h
theorem B3.put1 (h : B3 w g t a b c) (u : Value) : B3 (w.setCell ⟨g, 1, none⟩ u) g t a u c := heap_setCell_same _ g 1 _ _ _ h
theorem B3.put2 (h : B3 w g t a b c) (u : Value) : B3 (w.setCell ⟨g, 2, none⟩ u) g t a b u := heap_setCell_same _ g 2 _ _ _ h
/-- All three cells are written. -/
def put (w : World) (g : Nat) (a b c : Value) : World := ((w.setCell ⟨g, 0, none⟩ a).setCell ⟨g, 1, none⟩ b).setCell ⟨g, 2, none⟩ c
theorem B3.put (h : B3 w g t a b c) : B3 (put w g a' b' c') g t a' b' c' := ((h.put0 a').put1 b').put2 c'
theorem put_below {B : Nat} {w0 : World} (k : Below B w0 w) (hb : B ≤ g) : Below B w0 (put w g a b c) := ((k.setCell (p := ⟨g, 0, none⟩) hb _).setCell (p := ⟨g, 1, none⟩) hb _).setCell (p := ⟨g, 2, none⟩) hb _
theorem put_size : (put w g a b c).heap.size = w.heap.size := by unfold put; simp
theorem B3.other {g' : Nat} (h : B3 w g t a b c) (j : Nat) (u : Value) (hg : g ≠ g') : B3 (w.setCell ⟨g', j, none⟩ u) g t a b c := by
  unfold B3
  rw [heap_setCell_other _ _ _ _ hg]
  exact h
end

theorem clone_any (s : ByteArray) (w : World) (hs : s.size ≤ 1048576) :
    Calls Tryz.prog 93 #[.string s] w fun e w' => e = .returned (.string s) ∧ Below w.heap.size w w' := by
  go_enter Tryz.func93, Tryz.ntmps93
  go_wp2_with fail
  refine (Tryz.stringslite_Clone s _ (by omega)).mono ?_
  rintro e w' ⟨rfl, hb⟩
  go_wp2
  go_ret
  exact ⟨rfl, hb⟩

end Go.Proofs.YtncnbhekgkemfaaGreatDoor.lg

namespace Go.Proofs.YtncnbhekgkemfaaGreatDoor.lg
open Go.RowKit
set_option linter.unusedVariables false

def zsOf (s : ByteArray) : List Int := s.data.toList.map fun b => (b.toNat : Int)
theorem zsOf_len (s : ByteArray) : (zsOf s).length = s.size := by unfold zsOf; rw [List.length_map]; rfl
theorem zsOf_bytes (s : ByteArray) : ck.Bytes (zsOf s) := by
  intro j hj
  unfold zsOf
  rw [zsOf_len] at hj
  have hj' : j < s.data.toList.length := hj
  rw [List.getD_eq_getElem?_getD, List.getElem?_map, List.getElem?_eq_getElem hj']
  simp
  have := (s.data.toList[j]).toNat_lt
  simp at this
  omega
/-- How long a record is, in three bytes. -/
def hb (x : ByteArray) : ByteArray := ⟨(be 3 x.size).toArray⟩
/-- The sum of that and the record, in four. -/
def sb (h x : ByteArray) : ByteArray := ⟨(be 4 (ck.sum (zsOf (h ++ x)))).toArray⟩
/-- A record as a log has it. -/
def fr (x : ByteArray) : ByteArray := hb x ++ sb (hb x) x ++ x
theorem hb_size (x : ByteArray) : (hb x).size = 3 := be_len 3 x.size
theorem sb_size (h x : ByteArray) : (sb h x).size = 4 := be_len 4 _
theorem fr_size (x : ByteArray) : (fr x).size = 7 + x.size := by
  unfold fr
  rw [ByteArray.size_append, ByteArray.size_append, hb_size, sb_size]

theorem sb_eq (h x : ByteArray) : ∃ M : Nat, M < 4294967296 ∧ ck.sum (zsOf (h ++ x)) = M ∧ sb h x = ⟨(be 4 M).toArray⟩ := ⟨_, ck.sum_lt (zsOf_bytes (h ++ x)), rfl, rfl⟩

set_option maxHeartbeats 1000000 in
set_option maxRecDepth 100000 in
theorem recordSum_any (h x : ByteArray) (w : World) (hs : h.size + x.size ≤ 65536) :
    Calls Tryz.prog 112 #[.string h, .string x] w fun e w' => e = .returned (.string (sb h x)) ∧ Below w.heap.size w w' := by
  have hmx : (9223372036854775807 < h.size + x.size) = False := eq_false (by omega)
  have hcv := Lib.run_convert_string_bytes (P := Tryz.prog) w 9 124 5 (h ++ x) Tryz.underlying9 Tryz.underlying124 Tryz.underlying5
  have hlc := ow.lies_conv w 5 (h ++ x)
  have hbc := ow.below_conv w 5 (h ++ x)
  generalize grownCap w (h ++ x).size 0 5 = cap at hcv hlc
  generalize Lib.bytesWorld w 5 (h ++ x) = W' at hcv hlc hbc
  rw [ByteArray.size_append] at hcv hlc
  have hzl : (zsOf (h ++ x)).length ≤ 65536 := by rw [zsOf_len, ByteArray.size_append]; omega
  obtain ⟨M, hM, hs1, hs2⟩ := sb_eq h x
  have h1 := ck.impl_any _ (zsOf (h ++ x)) W' (ow.reads_lies hlc) (zsOf_bytes _) (by omega)
  rw [if_pos hzl, hs1] at h1
  have H1 : Hid _ := h1
  have H2 : Hid _ := inBytes_any M 4 W' (by omega) hM
  rw [← hs2] at H2
  generalize sb h x = B at H2 ⊢
  clear h1 hs1 hs2 hzl hlc hM
  go_enter Tryz.func112, Tryz.ntmps112
  go_wp2_with fail
  refine Calls.mono H1.out ?_
  rintro e w2 ⟨rfl, rfl⟩
  go_wp2_with fail
  refine Calls.mono H2.out ?_
  rintro e w3 ⟨rfl, k3⟩
  go_wp2
  go_ret
  exact ⟨rfl, hbc.trans (k3.mono hbc.size)⟩


set_option maxHeartbeats 1000000 in
set_option maxRecDepth 100000 in
theorem l08Frame_any (x : ByteArray) (w : World) (hs : x.size ≤ 20000) :
    Calls Tryz.prog 51 #[.string x] w fun e w' => e = .returned (.string (fr x)) ∧ Below w.heap.size w w' := by
  have h3 := hb_size x
  have h4 := sb_size (hb x) x
  have HI : Hid (∀ W, Calls Tryz.prog 78 #[.int .i64 x.size, .int .i64 3] W fun e w' => ∃ v, e = .returned v ∧ (convert 124 9 v).run Tryz.prog w' = .ok (.string (hb x)) w' ∧ Below W.heap.size W w') := fun W => (l08Bytes_any x.size 3 W (by omega) (by omega)).mono fun e w' ⟨⟨v, h1, h2⟩, h3⟩ => ⟨v, h1, ow.conv_bytes (P := Tryz.prog) (src := 124) (dst := 9) (be 3 x.size) (by unfold bz at h2; rw [List.map_map] at h2; exact h2) Tryz.underlying124 Tryz.underlying5 Tryz.underlying9, h3⟩
  obtain ⟨M, hM, hs1, hs2⟩ := sb_eq (hb x) x
  have HJ : Hid (∀ W, Calls Tryz.prog 78 #[.int .i64 M, .int .i64 4] W fun e w' => ∃ v, e = .returned v ∧ (convert 124 9 v).run Tryz.prog w' = .ok (.string (sb (hb x) x)) w' ∧ Below W.heap.size W w') := by
    rw [hs2]
    exact fun W => (l08Bytes_any M 4 W (by omega) hM).mono fun e w' ⟨⟨v, h1, h2⟩, h3⟩ => ⟨v, h1, ow.conv_bytes (P := Tryz.prog) (src := 124) (dst := 9) (be 4 M) (by unfold bz at h2; rw [List.map_map] at h2; exact h2) Tryz.underlying124 Tryz.underlying5 Tryz.underlying9, h3⟩
  have hzl : (zsOf (hb x ++ x)).length ≤ 65536 := by rw [zsOf_len, ByteArray.size_append]; omega
  have HK : Hid (∀ W v, ow.Lies W v (hb x ++ x).data.toList → Calls Tryz.prog 79 #[v] W fun e w' => e = .returned (.int .i64 M) ∧ w' = W) := by
    intro W v hl
    have h1 := ck.spec_l07Check v (zsOf (hb x ++ x)) W (ow.reads_lies hl) (zsOf_bytes _) (by omega)
    rw [hs1] at h1
    exact h1
  have hfr : fr x = hb x ++ sb (hb x) x ++ x := rfl
  rw [hfr]
  clear hfr hs1 hs2 hzl hM
  generalize sb (hb x) x = b at *
  generalize hb x = a at *
  have m1 : (9223372036854775807 < a.size + b.size) = False := eq_false (by omega)
  have m2 : (9223372036854775807 < (a ++ b).size + x.size) = False := eq_false (by rw [ByteArray.size_append]; omega)
  have m3 : (9223372036854775807 < a.size + x.size) = False := eq_false (by omega)
  have m4 : (9223372036854775807 < a.size + b.size + x.size) = False := eq_false (by omega)
  clear h3 h4
  go_enter Tryz.func51, Tryz.ntmps51
  go_wp2_with fail
  refine (HI.out w).mono ?_
  rintro e w2 ⟨v, rfl, hcv0, k2⟩
  have hcv := Lib.run_convert_string_bytes (P := Tryz.prog) w2 9 124 5 (a ++ x) Tryz.underlying9 Tryz.underlying124 Tryz.underlying5
  have hlc := ow.lies_conv w2 5 (a ++ x)
  have hbc := ow.below_conv w2 5 (a ++ x)
  generalize grownCap w2 (a ++ x).size 0 5 = cap at hcv hlc
  generalize Lib.bytesWorld w2 5 (a ++ x) = W' at hcv hlc hbc
  rw [ByteArray.size_append] at hcv hlc
  have HL : Hid _ := HK.out _ _ hlc
  have b2 := k2.trans (hbc.mono k2.size)
  clear hlc hbc k2
  go_wp2_with fail
  refine Calls.mono HL.out ?_
  rintro e w3 ⟨rfl, rfl⟩
  clear hcv hcv0
  go_wp2_with fail
  refine (HJ.out w3).mono ?_
  rintro e w4 ⟨v4, rfl, hcv4, k4⟩
  go_wp2
  go_ret
  exact ⟨rfl, b2.trans (k4.mono b2.size)⟩
end Go.Proofs.YtncnbhekgkemfaaGreatDoor.lg

namespace Go.Proofs.YtncnbhekgkemfaaGreatDoor.lg
open Go.RowKit
set_option linter.unusedVariables false

/-- The number that bytes say, the higher ones first. -/
def num (l : List UInt8) : Nat := l.foldl (fun n b => n * 256 + b.toNat) 0
def numB (s : ByteArray) : Nat := num s.data.toList
theorem num_step (l : List UInt8) (k : Nat) (h : k < l.length) : num (l.take (k + 1)) = num (l.take k) * 256 + (l[k]).toNat := by
  unfold num
  rw [List.take_succ_eq_append_getElem h, List.foldl_append]
  rfl
theorem num_lt : ∀ (l : List UInt8), num l < 256 ^ l.length := by
  intro l
  have h : ∀ k, k ≤ l.length → num (l.take k) < 256 ^ k := by
    intro k
    induction k with
    | zero => intro _; simp [num]
    | succ k ih =>
      intro hk
      rw [num_step l k (by omega)]
      have h1 := ih (by omega)
      have h2 := (l[k]).toNat_lt
      have h3 : 256 ^ (k + 1) = 256 ^ k * 256 := Nat.pow_succ ..
      omega
  have := h l.length (Nat.le_refl _)
  rwa [List.take_length] at this
theorem be3 (a b c : UInt8) : be 3 (num [a, b, c]) = [a, b, c] := by
  have ha := a.toNat_lt
  have hb := b.toNat_lt
  have hc := c.toNat_lt
  have e : num [a, b, c] = (a.toNat * 256 + b.toNat) * 256 + c.toNat := by simp [num]
  rw [e]
  simp only [be, Nat.pow_zero, Nat.pow_one, Nat.div_one]
  have h1 : ((a.toNat * 256 + b.toNat) * 256 + c.toNat) / 256 ^ 2 = a.toNat := by rw [show 256 ^ 2 = 65536 from rfl]; omega
  have h2 : ((a.toNat * 256 + b.toNat) * 256 + c.toNat) / 256 = a.toNat * 256 + b.toNat := by omega
  rw [h1, h2]
  congr 1
  · exact UInt8.toNat_inj.1 (by simp)
  · congr 1
    · refine UInt8.toNat_inj.1 ?_
      rw [UInt8.toNat_ofNat']
      omega
    · congr 1
      refine UInt8.toNat_inj.1 ?_
      rw [UInt8.toNat_ofNat']
      omega
theorem three {l : List UInt8} (h : l.length = 3) : ∃ a b c, l = [a, b, c] := by
  match l, h with
  | [a, b, c], _ => exact ⟨a, b, c, rfl⟩
theorem hb_num {L X : ByteArray} (hL : L.size = 3) (h : X.size = numB L) : hb X = L := by
  obtain ⟨a, b, c, e⟩ := three (l := L.data.toList) hL
  unfold hb
  rw [h]
  unfold numB
  rw [e, be3, ← e]

def nt : ByteArray := ⟨#[]⟩
/-- The first record of a text, as the program reads it: 0 and it, or why there is none. -/
def nextT (T : ByteArray) : Nat × ByteArray :=
  if T.size < 7 then (18, nt) else if numB (T.extract 0 3) = 0 ∨ 20000 < numB (T.extract 0 3) then (8, nt) else if T.size - 7 < numB (T.extract 0 3) then (18, nt) else
  if T.extract 3 7 ≠ sb (T.extract 0 3) ((T.extract 7 T.size).extract 0 (numB (T.extract 0 3))) then (8, nt) else (0, (T.extract 7 T.size).extract 0 (numB (T.extract 0 3)))
/-- The record at a place, as the specification reads it. -/
def next (t : ByteArray) (p : Nat) : Nat × ByteArray :=
  if t.size < p + 7 then (18, nt) else if numB (t.extract p (p + 3)) = 0 ∨ 20000 < numB (t.extract p (p + 3)) then (8, nt) else if t.size < p + 7 + numB (t.extract p (p + 3)) then (18, nt) else
  if fr (t.extract (p + 7) (p + 7 + numB (t.extract p (p + 3)))) ≠ t.extract p (p + 7 + numB (t.extract p (p + 3))) then (8, nt) else (0, t.extract (p + 7) (p + 7 + numB (t.extract p (p + 3))))
theorem size_ex {t : ByteArray} {i j : Nat} (h : i ≤ j) (h2 : j ≤ t.size) : (t.extract i j).size = j - i := by
  rw [ByteArray.size_extract]
  omega
theorem split3 {t : ByteArray} {i j k l : Nat} (h1 : i ≤ j) (h2 : j ≤ k) (h3 : k ≤ l) : t.extract i l = t.extract i j ++ t.extract j k ++ t.extract k l := by
  rw [ByteArray.extract_append_extract, Nat.min_eq_left h1, Nat.max_eq_right h2, ByteArray.extract_append_extract, Nat.min_eq_left (by omega), Nat.max_eq_right h3]
theorem app_inj {a b b' c : ByteArray} (h : a ++ b ++ c = a ++ b' ++ c) (hs : b.size = b'.size) : b = b' := by
  have h1 := congrArg (fun x : ByteArray => x.extract a.size (a.size + b.size)) h
  have e1 : ∀ y z : ByteArray, (a ++ y ++ z).extract a.size (a.size + y.size) = y := fun y z => by
    have h2 := ByteArray.extract_append_size_add (a := a) (b := y ++ z) (i := 0) (j := y.size)
    rw [Nat.add_zero] at h2
    rw [ByteArray.append_assoc, h2]
    exact ByteArray.extract_append_eq_left rfl
  rw [e1 b c] at h1
  rw [hs, e1 b' c] at h1
  exact h1
theorem next_eq {t : ByteArray} {p : Nat} (hp : p ≤ t.size) : nextT (t.extract p t.size) = next t p := by
  have hs : (t.extract p t.size).size = t.size - p := size_ex hp (Nat.le_refl _)
  unfold nextT next
  by_cases h1 : t.size < p + 7
  · rw [if_pos (by omega), if_pos h1]
  rw [if_neg (by omega), if_neg h1]
  have eL : (t.extract p t.size).extract 0 3 = t.extract p (p + 3) := by rw [ByteArray.extract_extract, Nat.min_eq_left (by omega)]; rfl
  have eS : (t.extract p t.size).extract 3 7 = t.extract (p + 3) (p + 7) := by rw [ByteArray.extract_extract, Nat.min_eq_left (by omega)]
  rw [eL, eS]
  have hLs : (t.extract p (p + 3)).size = 3 := by rw [size_ex (by omega) (by omega)]; omega
  obtain ⟨n, hn⟩ : ∃ n, numB (t.extract p (p + 3)) = n := ⟨_, rfl⟩
  rw [hn]
  by_cases h2 : n = 0 ∨ 20000 < n
  · rw [if_pos h2, if_pos h2]
  rw [if_neg h2, if_neg h2]
  by_cases h3 : t.size < p + 7 + n
  · rw [if_pos (by omega), if_pos h3]
  rw [if_neg (by omega), if_neg h3]
  have eR : ((t.extract p t.size).extract 7 (t.extract p t.size).size).extract 0 n = t.extract (p + 7) (p + 7 + n) := by
    rw [hs, ByteArray.extract_extract, ByteArray.extract_extract]
    congr 1
    omega
  rw [eR]
  have hXs : (t.extract (p + 7) (p + 7 + n)).size = n := by rw [size_ex (by omega) (by omega)]; omega
  have hhb : hb (t.extract (p + 7) (p + 7 + n)) = t.extract p (p + 3) := hb_num hLs (hXs.trans hn.symm)
  have hsp : t.extract p (p + 7 + n) = t.extract p (p + 3) ++ t.extract (p + 3) (p + 7) ++ t.extract (p + 7) (p + 7 + n) := split3 (by omega) (by omega) (by omega)
  have hSs : (t.extract (p + 3) (p + 7)).size = 4 := by rw [size_ex (by omega) (by omega)]; omega
  have key : (t.extract (p + 3) (p + 7) ≠ sb (t.extract p (p + 3)) (t.extract (p + 7) (p + 7 + n))) ↔ (fr (t.extract (p + 7) (p + 7 + n)) ≠ t.extract p (p + 7 + n)) := by
    refine not_congr ⟨fun h => ?_, fun h => ?_⟩
    · unfold fr
      rw [hhb, hsp, h]
    · unfold fr at h
      rw [hhb, hsp] at h
      exact (app_inj h (by rw [sb_size, hSs])).symm
  by_cases h4 : t.extract (p + 3) (p + 7) ≠ sb (t.extract p (p + 3)) (t.extract (p + 7) (p + 7 + n))
  · rw [if_pos h4, if_pos (key.1 h4)]
  · rw [if_neg h4, if_neg (fun h => h4 (key.2 h))]

/-- The record at a place, its place, and what it is of. -/
theorem next_ok {t : ByteArray} {p : Nat} (h : (next t p).1 = 0) : p + 7 + (next t p).2.size ≤ t.size ∧ 1 ≤ (next t p).2.size ∧ (next t p).2.size ≤ 20000 := by
  unfold next at h ⊢
  by_cases h1 : t.size < p + 7
  · rw [if_pos h1] at h; cases h
  rw [if_neg h1] at h ⊢
  generalize numB (t.extract p (p + 3)) = n at h ⊢
  by_cases h2 : n = 0 ∨ 20000 < n
  · rw [if_pos h2] at h; cases h
  rw [if_neg h2] at h ⊢
  by_cases h3 : t.size < p + 7 + n
  · rw [if_pos h3] at h; cases h
  rw [if_neg h3] at h ⊢
  by_cases h4 : fr (t.extract (p + 7) (p + 7 + n)) ≠ t.extract p (p + 7 + n)
  · rw [if_pos h4] at h; cases h
  rw [if_neg h4]
  have : (t.extract (p + 7) (p + 7 + n)).size = n := by rw [size_ex (by omega) (by omega)]; omega
  simp only [this]
  omega
theorem next_code (t : ByteArray) (p : Nat) : (next t p).1 = 0 ∨ (next t p).1 = 18 ∨ (next t p).1 = 8 := by
  unfold next
  split
  · exact .inr (.inl rfl)
  · split
    · exact .inr (.inr rfl)
    · split
      · exact .inr (.inl rfl)
      · split
        · exact .inr (.inr rfl)
        · exact .inl rfl
theorem next_none {t : ByteArray} {p : Nat} (h : (next t p).1 ≠ 0) : (next t p).2 = nt := by
  unfold next at h ⊢
  split
  · rfl
  · rename_i h1
    rw [if_neg h1] at h
    split
    · rfl
    · rename_i h2
      rw [if_neg h2] at h
      split
      · rfl
      · rename_i h3
        rw [if_neg h3] at h
        split
        · rfl
        · rename_i h4
          rw [if_neg h4] at h
          exact absurd rfl h

/-- The records from a place on, where they end, and what is behind. -/
def scan (t : ByteArray) : Nat → Nat → List ByteArray → List ByteArray × Nat × Nat
  | 0, p, acc => (acc, p, 0)
  | f + 1, p, acc => if t.size ≤ p then (acc, p, 0) else if (next t p).1 = 0 then scan t f (p + 7 + (next t p).2.size) (acc ++ [(next t p).2]) else (acc, p, (next t p).1)
def recs (t : ByteArray) : List ByteArray × Nat × Nat := scan t (t.size + 1) 0 []
theorem scan_end {t : ByteArray} {f p : Nat} {acc : List ByteArray} (h : t.size ≤ p) : scan t f p acc = (acc, p, 0) := by
  cases f with
  | zero => rfl
  | succ f => rw [scan, if_pos h]
theorem scan_stop {t : ByteArray} {f p : Nat} {acc : List ByteArray} (h : p < t.size) (hf : t.size - p < f) (hn : (next t p).1 ≠ 0) : scan t f p acc = (acc, p, (next t p).1) := by
  cases f with
  | zero => omega
  | succ f => rw [scan, if_neg (by omega), if_neg hn]
theorem scan_step {t : ByteArray} {f p : Nat} {acc : List ByteArray} (h : p < t.size) (hf : t.size - p < f) (hn : (next t p).1 = 0) : ∃ g, t.size - (p + 7 + (next t p).2.size) < g ∧ scan t f p acc = scan t g (p + 7 + (next t p).2.size) (acc ++ [(next t p).2]) := by
  cases f with
  | zero => omega
  | succ f => exact ⟨f, by omega, by rw [scan, if_neg (by omega), if_pos hn]⟩
theorem scan_le (t : ByteArray) : ∀ f p acc, p ≤ t.size → (scan t f p acc).2.1 ≤ t.size ∧ (scan t f p acc).1.length ≤ acc.length + (t.size - p) ∧ ((scan t f p acc).2.2 = 0 ∨ (scan t f p acc).2.2 = 18 ∨ (scan t f p acc).2.2 = 8)
  | 0, p, acc, h => ⟨h, Nat.le_add_right _ _, .inl rfl⟩
  | f + 1, p, acc, h => by
    rw [scan]
    split
    · exact ⟨h, Nat.le_add_right _ _, .inl rfl⟩
    · split
      · rename_i h0 h1
        have hk := next_ok h1
        obtain ⟨a, b, c⟩ := scan_le t f (p + 7 + (next t p).2.size) (acc ++ [(next t p).2]) hk.1
        refine ⟨a, ?_, c⟩
        rw [List.length_append] at b
        simp only [List.length_singleton] at b
        omega
      · exact ⟨h, Nat.le_add_right _ _, next_code t p⟩
theorem recs_le (t : ByteArray) : (recs t).2.1 ≤ t.size ∧ (recs t).1.length ≤ t.size ∧ ((recs t).2.2 = 0 ∨ (recs t).2.2 = 18 ∨ (recs t).2.2 = 8) := by
  obtain ⟨a, b, c⟩ := scan_le t (t.size + 1) 0 [] (Nat.zero_le _)
  refine ⟨a, ?_, c⟩
  have b' : (recs t).1.length ≤ 0 + (t.size - 0) := b
  omega
end Go.Proofs.YtncnbhekgkemfaaGreatDoor.lg

namespace Go.Proofs.YtncnbhekgkemfaaGreatDoor.lg
open Go.ChangeShapes Go.WideShapes Go.ChangeAt Go.RowKit Go.Deep Go.Joins
set_option linter.unusedVariables false

/-- What LogSync answers. -/
def sync (r : Int) (d : ByteArray) (s : Int) : Value := if ok r d.size s = true then RV r d d.size 0 else RV 0 ⟨#[]⟩ 0 1
theorem sync_form (r : Int) (d : ByteArray) (s : Int) : ∃ (r' : Int) (d' : ByteArray) (s' c : Int), sync r d s = RV r' d' s' c := by
  unfold sync
  split
  · exact ⟨_, _, _, _, rfl⟩
  · exact ⟨_, _, _, _, rfl⟩
/-- Two variables of a log, the second empty, as a call lays them. -/
theorem two_new (w : World) (T : TypeId) (r : Int) (d : ByteArray) (s : Int) :
    B3 ((w.alloc (.cells #[.int .i64 r, .string d, .int .i64 s] T)).alloc (.cells #[.int .i64 0, .string ⟨#[]⟩, .int .i64 0] T)) w.heap.size T (.int .i64 r) (.string d) (.int .i64 s) ∧
    B3 ((w.alloc (.cells #[.int .i64 r, .string d, .int .i64 s] T)).alloc (.cells #[.int .i64 0, .string ⟨#[]⟩, .int .i64 0] T)) (w.heap.size + 1) T (.int .i64 0) (.string ⟨#[]⟩) (.int .i64 0) ∧
    Below w.heap.size w ((w.alloc (.cells #[.int .i64 r, .string d, .int .i64 s] T)).alloc (.cells #[.int .i64 0, .string ⟨#[]⟩, .int .i64 0] T)) := by
  refine ⟨(b3_new w T (.int .i64 r) (.string d) (.int .i64 s)).keep (new_below _ T _), ?_, (new_below w _ _).trans ((new_below _ _ _).mono (by simp))⟩
  have h := b3_new (w.alloc (.cells #[.int .i64 r, .string d, .int .i64 s] T)) T (.int .i64 0) (.string ⟨#[]⟩) (.int .i64 0)
  rw [show (w.alloc (.cells #[.int .i64 r, .string d, .int .i64 s] T)).heap.size = w.heap.size + 1 from by simp] at h
  exact h



end Go.Proofs.YtncnbhekgkemfaaGreatDoor.lg

namespace Go.Proofs.YtncnbhekgkemfaaGreatDoor.lg
open Go.ChangeShapes Go.WideShapes Go.ChangeAt Go.RowKit Go.Deep Go.Joins
set_option linter.unusedVariables false

end Go.Proofs.YtncnbhekgkemfaaGreatDoor.lg
