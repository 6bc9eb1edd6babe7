/-
  The program's TakeCommand at a buffer whose lines count nothing.
-/
import Derived.Test.YtbfplmafffnghaaDoorTka
namespace Go.Proofs.YtbfplmafffnghaaDoor.tk
open Go.RowKit
open gr
set_option linter.unusedVariables false

theorem clone_any (s : ByteArray) (w : World) (hs : s.size ≤ 1048576) :
    Calls Tryd.prog 23 #[.string s] w fun e w' => e = .returned (.string s) ∧ Below w.heap.size w w' := by
  go_enter Tryd.func23, Tryd.ntmps23
  go_wp2_with fail
  refine (Tryd.stringslite_Clone s _ (by omega)).mono ?_
  rintro e w' ⟨rfl, hb⟩
  go_wp2
  go_ret
  exact ⟨rfl, hb⟩
theorem ext_full (s : ByteArray) : s.extract 0 s.size = s := by
  apply ByteArray.ext
  simp
theorem last_no {l : List UInt8} (h : ∀ b ∈ l, b ≠ 123) : Lib.lastIndex l [123] = -1 := by
  unfold Lib.lastIndex
  split
  · rcases Lib.lastOcc_spec l [123] (l.length - ([123] : List UInt8).length + 1) with ⟨e, _⟩ | ⟨i, hi, e, ho, _⟩
    · exact e
    · exfalso
      have hp : [123] <+: l.drop i := by simpa [Lib.occAt] using ho
      obtain ⟨r, hr⟩ := hp
      exact h 123 (List.mem_of_mem_drop (i := i) (by rw [← hr]; simp)) rfl
  · rfl
set_option maxHeartbeats 1000000 in
set_option maxRecDepth 100000 in
theorem atEnd_no (s : ByteArray) (w : World) (hs : s.size ≤ 1048576) (hn : ∀ b ∈ s.data.toList, b ≠ 123) :
    Calls Tryd.prog 25 #[.string s] w fun e w' => e = .returned (.tuple #[.int .i64 0, .bool false]) ∧ Below w.heap.size w w' := by
  have HL : Hid (∀ W, Calls Tryd.prog 29 #[.string s, .string ⟨#[123]⟩] W fun e w' => e = .returned (.int .i64 (-1)) ∧ w' = W) := fun W => by
    have := Tryd.strings_LastIndex s ⟨#[123]⟩ (by omega) W
    rw [show (⟨#[123]⟩ : ByteArray).data.toList = [123] from rfl, last_no hn] at this
    exact this
  have HS : Hid (∀ W, Calls Tryd.prog 28 #[.string (s.extract 0 s.size)] W fun e w' => e = .returned (.tuple #[.int .i64 0, .bool false]) ∧ Below W.heap.size W w') := fun W => by
    rw [ext_full]
    exact said_no s W hs (last_none hn)
  have c0 : (0 : Int) ≤ (s.size : Int) := by omega
  clear hn
  go_enter Tryd.func25, Tryd.ntmps25
  go_wp2_with fail
  refine (HL.out _).mono ?_
  rintro e w1 ⟨rfl, h1⟩
  have h1 := h1.symm
  subst h1
  clear HL
  go_wp2_with fail
  refine (HS.out _).mono ?_
  rintro e w1 ⟨rfl, b1⟩
  clear HS
  go_wp2
  go_ret2
  exact ⟨rfl, b1⟩

/-- What Cut answers at an end of a line. -/
theorem cut_none {l : List UInt8} (h : Lib.index l [13, 10] = -1) : Lib.cut l [13, 10] = (l, [], false) := by
  unfold Lib.cut
  rw [h]
  rfl
theorem cut_some {u r : List UInt8} (h : ∀ b ∈ u, b ≠ 13) : Lib.cut (u ++ 13 :: 10 :: r) [13, 10] = (u, r, true) := by
  unfold Lib.cut
  rw [idx_at r h]
  simp
set_option maxHeartbeats 2000000 in
set_option maxRecDepth 100000 in
theorem end_more (s : ByteArray) (w : World) (m : Int) (hm : w.cell? ⟨0, 0, none⟩ = some (.int .i64 m)) (hs : s.size ≤ 4002) (hi : Lib.index s.data.toList [13, 10] = -1) :
    Calls Tryd.prog 22 #[.string s] w fun e w' => e = .returned (.tuple #[.int .i64 0, .int .i64 18]) ∧ Below w.heap.size w w' := by
  have HC : Hid (Calls Tryd.prog 24 #[.string s, .string ⟨#[13, 10]⟩] w fun e w' => e = .returned (.tuple #[.string s, .string ⟨#[]⟩, .bool false]) ∧ ∃ n, w' = w.drewN n) := by
    have := Tryd.strings_Cut s ⟨#[13, 10]⟩ m w (by omega) hm
    rw [show (⟨#[13, 10]⟩ : ByteArray).data.toList = [13, 10] from rfl, cut_none hi] at this
    exact this
  have c0 : (0 : Int) ≤ (s.size : Int) := by omega
  have c1 : (s.size : Int) ≤ 4002 := by omega
  clear hi hm
  go_enter Tryd.func22, Tryd.ntmps22
  go_wp2_with fail
  generalize hx0 : s.extract 0 (min (s.size : Int) 4002).toNat = x
  have hx : x = s := by rw [← hx0, show (min (s.size : Int) 4002).toNat = s.size from by omega, ext_full]
  clear hx0
  subst hx
  go_loopw [5] (fun v wr => v = .int .i64 0 ∧ wr = w) (fun _ _ => 0)
  case atStart => exact ⟨rfl, rfl⟩
  case round =>
    obtain ⟨rfl, hw⟩ := hrel
    have hw := hw.symm
    subst hw
    go_wp2_with fail
    refine HC.out.mono ?_
    rintro e w1 ⟨rfl, n, rfl⟩
    clear HC
    go_wp2
    go_ret2
    exact ⟨rfl, ⟨rfl, rfl, rfl, Nat.le_refl _, fun _ _ => rfl⟩⟩
set_option maxHeartbeats 2000000 in
set_option maxRecDepth 100000 in
theorem end_one (s u r : ByteArray) (w : World) (m : Int) (hm : w.cell? ⟨0, 0, none⟩ = some (.int .i64 m)) (hs : s.size ≤ 4002) (hi : s.data.toList = u.data.toList ++ 13 :: 10 :: r.data.toList) (hu : ∀ b ∈ u.data.toList, b ≠ 13 ∧ b ≠ 123) :
    Calls Tryd.prog 22 #[.string s] w fun e w' => e = .returned (.tuple #[.int .i64 u.size, .int .i64 0]) ∧ Below w.heap.size w w' := by
  have HC : Hid (Calls Tryd.prog 24 #[.string s, .string ⟨#[13, 10]⟩] w fun e w' => e = .returned (.tuple #[.string u, .string r, .bool true]) ∧ ∃ n, w' = w.drewN n) := by
    have := Tryd.strings_Cut s ⟨#[13, 10]⟩ m w (by omega) hm
    rw [show (⟨#[13, 10]⟩ : ByteArray).data.toList = [13, 10] from rfl, hi, cut_some (fun b hb => (hu b hb).1)] at this
    exact this
  have hz : u.size ≤ 4002 := by
    have e := Lib.size_eq s
    have e2 := Lib.size_eq u
    rw [hi] at e
    simp at e
    omega
  have HA : Hid (∀ W, Calls Tryd.prog 25 #[.string u] W fun e w' => e = .returned (.tuple #[.int .i64 0, .bool false]) ∧ Below W.heap.size W w') := fun W => atEnd_no u W (by omega) (fun b hb => (hu b hb).2)
  have c0 : (0 : Int) ≤ (s.size : Int) := by omega
  have c1 : (s.size : Int) ≤ 4002 := by omega
  clear hi hm hu
  go_enter Tryd.func22, Tryd.ntmps22
  go_wp2_with fail
  generalize hx0 : s.extract 0 (min (s.size : Int) 4002).toNat = x
  have hx : x = s := by rw [← hx0, show (min (s.size : Int) 4002).toNat = s.size from by omega, ext_full]
  clear hx0
  subst hx
  go_loopw [5] (fun v wr => v = .int .i64 0 ∧ wr = w) (fun _ _ => 0)
  case atStart => exact ⟨rfl, rfl⟩
  case round =>
    obtain ⟨rfl, hw⟩ := hrel
    have hw := hw.symm
    subst hw
    go_wp2_with fail
    refine HC.out.mono ?_
    rintro e w1 ⟨rfl, n, rfl⟩
    clear HC
    go_wp2_with fail
    refine (HA.out _).mono ?_
    rintro e w1 ⟨rfl, b1⟩
    have b2 : Below w.heap.size w w1 := (show Below w.heap.size w (w.drewN n) from ⟨rfl, rfl, rfl, Nat.le_refl _, fun _ _ => rfl⟩).trans b1
    clear HA b1
    go_wp2
    go_ret2
    exact ⟨by simp, b2⟩
set_option maxHeartbeats 2000000 in
set_option maxRecDepth 100000 in
theorem take_more (s : ByteArray) (w : World) (m : Int) (hm : w.cell? ⟨0, 0, none⟩ = some (.int .i64 m)) (hs : s.size ≤ 4002) (hi : Lib.index s.data.toList [13, 10] = -1) :
    Calls Tryd.prog 19 #[.string s] w fun e w' => e = .returned (.tuple #[.string ⟨#[]⟩, .string s, .int .i64 18]) ∧ Below w.heap.size w w' := by
  have HE : Hid (Calls Tryd.prog 22 #[.string s] w fun e w' => e = .returned (.tuple #[.int .i64 0, .int .i64 18]) ∧ Below w.heap.size w w') := end_more s w m hm hs hi
  clear hi hm
  go_enter Tryd.func19, Tryd.ntmps19
  go_wp2_with fail
  refine HE.out.mono ?_
  rintro e w1 ⟨rfl, b1⟩
  clear HE
  go_wp2_with fail
  refine (clone_any s w1 (by omega)).mono ?_
  rintro e w2 ⟨rfl, b2⟩
  have b3 := b1.trans (b2.mono b1.size)
  clear b1 b2
  go_wp2
  go_ret3
  exact ⟨rfl, b3⟩
set_option maxHeartbeats 2000000 in
set_option maxRecDepth 100000 in
theorem take_one (s u r : ByteArray) (w : World) (m : Int) (hm : w.cell? ⟨0, 0, none⟩ = some (.int .i64 m)) (hs : s.size ≤ 4002) (hi : s.data.toList = u.data.toList ++ 13 :: 10 :: r.data.toList) (hu : ∀ b ∈ u.data.toList, b ≠ 13 ∧ b ≠ 123) :
    Calls Tryd.prog 19 #[.string s] w fun e w' => e = .returned (.tuple #[.string u, .string r, .int .i64 0]) ∧ Below w.heap.size w w' := by
  have HE : Hid (Calls Tryd.prog 22 #[.string s] w fun e w' => e = .returned (.tuple #[.int .i64 u.size, .int .i64 0]) ∧ Below w.heap.size w w') := end_one s u r w m hm hs hi hu
  have e1 : s.extract 0 u.size = u := by
    apply ByteArray.ext
    rw [← Array.toList_inj, ByteArray.data_extract, Array.toList_extract, hi, List.extract_eq_drop_take', List.drop_zero, Lib.size_eq u]
    exact List.take_left' rfl
  have e2 : s.extract (u.size + 2) s.size = r := by
    apply ByteArray.ext
    rw [← Array.toList_inj, ByteArray.data_extract, Array.toList_extract, List.extract_eq_drop_take', List.take_of_length_le (by simp), hi, Lib.size_eq u]
    rw [show u.data.toList ++ 13 :: 10 :: r.data.toList = (u.data.toList ++ [13, 10]) ++ r.data.toList from by simp]
    exact List.drop_left' (by simp)
  have hz : u.size + 2 ≤ s.size := by
    have e := Lib.size_eq s
    have e2 := Lib.size_eq u
    rw [hi] at e
    simp at e
    omega
  clear hi hm hu
  go_enter Tryd.func19, Tryd.ntmps19
  go_wp2_with fail
  refine HE.out.mono ?_
  rintro e w1 ⟨rfl, b1⟩
  clear HE
  go_wp2_with fail
  have c1 : (0 : Int) ≤ (u.size : Int) := by omega
  have c2 : (u.size : Int) ≤ (s.size : Int) := by omega
  have c3 : (u.size : Int) + 2 ≤ (s.size : Int) := by omega
  have hus : u.size ≤ 4002 := by omega
  have HC : Hid (∀ (x : Ext w1), (Calls Tryd.prog 23 #[.string u] (gw x) fun e w' => e = .returned (.string u) ∧ Below (gw x).heap.size (gw x) w') ∧ (Calls Tryd.prog 23 #[.string r] (gw x) fun e w' => e = .returned (.string r) ∧ Below (gw x).heap.size (gw x) w')) := fun x =>
    ⟨clone_any u _ (by omega), clone_any r _ (by rw [← e2, ByteArray.size_extract]; omega)⟩
  have HS1 : ∀ wx : World, (Instr.slice 9 (.string s) none (some (.int .i64 (u.size : Int))) none).run Tryd.prog wx = .ok (.string u) wx := fun wx => by
    rw [run_slice_string_to_if wx 9 s .i64 _ Tryd.underlying9, if_pos ⟨c1, c2⟩]
    rw [Int.toNat_natCast, e1]
  have HS2 : ∀ wx : World, (Instr.slice 9 (.string s) (some (.int .i64 ((u.size : Int) + 2))) none none).run Tryd.prog wx = .ok (.string r) wx := fun wx => by
    rw [run_slice_string_from_if wx 9 s .i64 _ Tryd.underlying9, if_pos ⟨by omega, c3⟩, show ((u.size : Int) + 2).toNat = u.size + 2 from by omega, e2]
  have ne := ext_some w1
  clear e1 e2 hz
  refine region_lit (by kernel_rfl) (by kernel_rfl) ?_
  repeat (go_big_quiet_step ((go_at_call 23; first | exact grow_of (HC.out _).1 | exact grow_of (HC.out _).2)))
  refine wpQuiet_nil ?_
  rintro W' ⟨z, rfl⟩
  have b3 := b1.trans ((gw_below z).mono b1.size)
  generalize gw z = W' at b3 ⊢
  clear HC
  go_wp2
  go_ret3
  exact ⟨rfl, b3⟩
end Go.Proofs.YtbfplmafffnghaaDoor.tk
