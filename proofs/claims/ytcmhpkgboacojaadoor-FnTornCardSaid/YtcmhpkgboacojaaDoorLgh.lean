/-
  A record as a log has it: both functions that make it.
-/
import Derived.Test.YtcmhpkgboacojaaDoorLgg
import Derived.Test.YtcmhpkgboacojaaDoorLgc
namespace Go.Proofs.YtcmhpkgboacojaaDoor.lg
open Go.RowKit
set_option linter.unusedVariables false

def zsOf (s : ByteArray) : List Int := s.data.toList.map fun b => (b.toNat : Int)
theorem zsOf_len (s : ByteArray) : (zsOf s).length = s.size := by unfold zsOf; rw [List.length_map]; rfl
theorem zsOf_bytes (s : ByteArray) : ck.Bytes (zsOf s) := by
  intro j hj
  unfold zsOf
  rw [zsOf_len] at hj
  have hj' : j < s.data.toList.length := hj
  rw [List.getD_eq_getElem?_getD, List.getElem?_map, List.getElem?_eq_getElem hj']
  simp
  have := (s.data.toList[j]).toNat_lt
  simp at this
  omega
/-- How long a record is, in three bytes. -/
def hb (x : ByteArray) : ByteArray := ⟨(be 3 x.size).toArray⟩
/-- The sum of that and the record, in four. -/
def sb (h x : ByteArray) : ByteArray := ⟨(be 4 (ck.sum (zsOf (h ++ x)))).toArray⟩
/-- A record as a log has it. -/
def fr (x : ByteArray) : ByteArray := hb x ++ sb (hb x) x ++ x
theorem hb_size (x : ByteArray) : (hb x).size = 3 := be_len 3 x.size
theorem sb_size (h x : ByteArray) : (sb h x).size = 4 := be_len 4 _
theorem fr_size (x : ByteArray) : (fr x).size = 7 + x.size := by
  unfold fr
  rw [ByteArray.size_append, ByteArray.size_append, hb_size, sb_size]

theorem sb_eq (h x : ByteArray) : ∃ M : Nat, M < 4294967296 ∧ ck.sum (zsOf (h ++ x)) = M ∧ sb h x = ⟨(be 4 M).toArray⟩ := ⟨_, ck.sum_lt (zsOf_bytes (h ++ x)), rfl, rfl⟩

set_option maxHeartbeats 1000000 in
set_option maxRecDepth 100000 in
theorem recordSum_any (h x : ByteArray) (w : World) (hs : h.size + x.size ≤ 65536) :
    Calls Tryd.prog 52 #[.string h, .string x] w fun e w' => e = .returned (.string (sb h x)) ∧ Below w.heap.size w w' := by
  have hmx : (9223372036854775807 < h.size + x.size) = False := eq_false (by omega)
  have hcv := Lib.run_convert_string_bytes (P := Tryd.prog) w 9 36 5 (h ++ x) Tryd.underlying9 Tryd.underlying36 Tryd.underlying5
  have hlc := ow.lies_conv w 5 (h ++ x)
  have hbc := ow.below_conv w 5 (h ++ x)
  generalize grownCap w (h ++ x).size 0 5 = cap at hcv hlc
  generalize Lib.bytesWorld w 5 (h ++ x) = W' at hcv hlc hbc
  rw [ByteArray.size_append] at hcv hlc
  have hzl : (zsOf (h ++ x)).length ≤ 65536 := by rw [zsOf_len, ByteArray.size_append]; omega
  obtain ⟨M, hM, hs1, hs2⟩ := sb_eq h x
  have h1 := ck.impl_any _ (zsOf (h ++ x)) W' (ow.reads_lies hlc) (zsOf_bytes _) (by omega)
  rw [if_pos hzl, hs1] at h1
  have H1 : Hid _ := h1
  have H2 : Hid _ := inBytes_any M 4 W' (by omega) hM
  rw [← hs2] at H2
  generalize sb h x = B at H2 ⊢
  clear h1 hs1 hs2 hzl hlc hM
  go_enter Tryd.func52, Tryd.ntmps52
  go_wp2_with fail
  refine Calls.mono H1.out ?_
  rintro e w2 ⟨rfl, rfl⟩
  go_wp2_with fail
  refine Calls.mono H2.out ?_
  rintro e w3 ⟨rfl, k3⟩
  go_wp2
  go_ret
  exact ⟨rfl, hbc.trans (k3.mono hbc.size)⟩

set_option maxHeartbeats 1000000 in
set_option maxRecDepth 100000 in
theorem recordText_any (x : ByteArray) (w : World) (hs : x.size ≤ 20000) :
    Calls Tryd.prog 39 #[.string x] w fun e w' => e = .returned (.string (fr x)) ∧ Below w.heap.size w w' := by
  have h3 := hb_size x
  have h4 := sb_size (hb x) x
  have HI := fun W => inBytes_any x.size 3 W (by omega) (by omega)
  have HI' : Hid (∀ W, Calls Tryd.prog 51 #[.int .i64 x.size, .int .i64 3] W fun e w' => e = .returned (.string (hb x)) ∧ Below W.heap.size W w') := HI
  clear HI
  have HS : Hid _ := fun W => recordSum_any (hb x) x W (by omega)
  unfold fr
  generalize sb (hb x) x = b at *
  generalize hb x = a at *
  have m1 : (9223372036854775807 < a.size + b.size) = False := eq_false (by omega)
  have m2 : (9223372036854775807 < (a ++ b).size + x.size) = False := eq_false (by rw [ByteArray.size_append]; omega)
  go_enter Tryd.func39, Tryd.ntmps39
  go_wp2_with fail
  refine (HI'.out w).mono ?_
  rintro e w2 ⟨rfl, k2⟩
  go_wp2_with fail
  refine (HS.out w2).mono ?_
  rintro e w3 ⟨rfl, k3⟩
  go_wp2
  go_ret
  exact ⟨rfl, k2.trans (k3.mono k2.size)⟩

set_option maxHeartbeats 1000000 in
set_option maxRecDepth 100000 in
theorem l08Frame_any (x : ByteArray) (w : World) (hs : x.size ≤ 20000) :
    Calls Tryd.prog 43 #[.string x] w fun e w' => e = .returned (.string (fr x)) ∧ Below w.heap.size w w' := by
  have h3 := hb_size x
  have h4 := sb_size (hb x) x
  have HI : Hid (∀ W, Calls Tryd.prog 53 #[.int .i64 x.size, .int .i64 3] W fun e w' => ∃ v, e = .returned v ∧ (convert 36 9 v).run Tryd.prog w' = .ok (.string (hb x)) w' ∧ Below W.heap.size W w') := fun W => (l08Bytes_any x.size 3 W (by omega) (by omega)).mono fun e w' ⟨⟨v, h1, h2⟩, h3⟩ => ⟨v, h1, ow.conv_bytes (P := Tryd.prog) (src := 36) (dst := 9) (be 3 x.size) (by unfold bz at h2; rw [List.map_map] at h2; exact h2) Tryd.underlying36 Tryd.underlying5 Tryd.underlying9, h3⟩
  obtain ⟨M, hM, hs1, hs2⟩ := sb_eq (hb x) x
  have HJ : Hid (∀ W, Calls Tryd.prog 53 #[.int .i64 M, .int .i64 4] W fun e w' => ∃ v, e = .returned v ∧ (convert 36 9 v).run Tryd.prog w' = .ok (.string (sb (hb x) x)) w' ∧ Below W.heap.size W w') := by
    rw [hs2]
    exact fun W => (l08Bytes_any M 4 W (by omega) hM).mono fun e w' ⟨⟨v, h1, h2⟩, h3⟩ => ⟨v, h1, ow.conv_bytes (P := Tryd.prog) (src := 36) (dst := 9) (be 4 M) (by unfold bz at h2; rw [List.map_map] at h2; exact h2) Tryd.underlying36 Tryd.underlying5 Tryd.underlying9, h3⟩
  have hzl : (zsOf (hb x ++ x)).length ≤ 65536 := by rw [zsOf_len, ByteArray.size_append]; omega
  have HK : Hid (∀ W v, ow.Lies W v (hb x ++ x).data.toList → Calls Tryd.prog 54 #[v] W fun e w' => e = .returned (.int .i64 M) ∧ w' = W) := by
    intro W v hl
    have h1 := ck.spec_l07Check v (zsOf (hb x ++ x)) W (ow.reads_lies hl) (zsOf_bytes _) (by omega)
    rw [hs1] at h1
    exact h1
  have hfr : fr x = hb x ++ sb (hb x) x ++ x := rfl
  rw [hfr]
  clear hfr hs1 hs2 hzl hM
  generalize sb (hb x) x = b at *
  generalize hb x = a at *
  have m1 : (9223372036854775807 < a.size + b.size) = False := eq_false (by omega)
  have m2 : (9223372036854775807 < (a ++ b).size + x.size) = False := eq_false (by rw [ByteArray.size_append]; omega)
  have m3 : (9223372036854775807 < a.size + x.size) = False := eq_false (by omega)
  have m4 : (9223372036854775807 < a.size + b.size + x.size) = False := eq_false (by omega)
  clear h3 h4
  go_enter Tryd.func43, Tryd.ntmps43
  go_wp2_with fail
  refine (HI.out w).mono ?_
  rintro e w2 ⟨v, rfl, hcv0, k2⟩
  have hcv := Lib.run_convert_string_bytes (P := Tryd.prog) w2 9 36 5 (a ++ x) Tryd.underlying9 Tryd.underlying36 Tryd.underlying5
  have hlc := ow.lies_conv w2 5 (a ++ x)
  have hbc := ow.below_conv w2 5 (a ++ x)
  generalize grownCap w2 (a ++ x).size 0 5 = cap at hcv hlc
  generalize Lib.bytesWorld w2 5 (a ++ x) = W' at hcv hlc hbc
  rw [ByteArray.size_append] at hcv hlc
  have HL : Hid _ := HK.out _ _ hlc
  have b2 := k2.trans (hbc.mono k2.size)
  clear hlc hbc k2
  go_wp2_with fail
  refine Calls.mono HL.out ?_
  rintro e w3 ⟨rfl, rfl⟩
  clear hcv hcv0
  go_wp2_with fail
  refine (HJ.out w3).mono ?_
  rintro e w4 ⟨v4, rfl, hcv4, k4⟩
  go_wp2
  go_ret
  exact ⟨rfl, b2.trans (k4.mono b2.size)⟩
end Go.Proofs.YtcmhpkgboacojaaDoor.lg
