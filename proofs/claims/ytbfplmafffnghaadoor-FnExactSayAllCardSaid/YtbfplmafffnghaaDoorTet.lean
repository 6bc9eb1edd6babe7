/-
  A command taken off a buffer: the program's TakeCommand, at any buffer of at most 65536 bytes.
-/
import Derived.Test.YtbfplmafffnghaaDoorTei
import Derived.Test.YtbfplmafffnghaaDoorTkb
namespace Go.Proofs.YtbfplmafffnghaaDoor.te
open Go.RowKit
open gr
open nu li
set_option linter.unusedVariables false

theorem tk_room : ∀ {k : Nat} {w : List UInt8} {f e : Nat}, Tk k w f 0 e → e + 2 ≤ w.length
  | 0, _, _, _, h => absurd h id
  | k + 1, w, f, e, h => by
    rcases h with ⟨_, h, _⟩ | ⟨i, hi, ⟨_, _, rfl⟩ | ⟨n, _, ⟨_, h, _⟩ | ⟨_, h⟩⟩⟩
    · omega
    · exact idx_room hi
    · omega
    · exact tk_room h
theorem end_room {l : List UInt8} {v : Nat} (h : EndIs l v 0) : v + 2 ≤ l.length := by
  obtain ⟨c, e, ⟨k, hk⟩, h⟩ := h
  rcases h with ⟨rfl, rfl, _⟩ | ⟨_, _, h⟩ | ⟨_, _, _, h⟩ | ⟨_, _, _, h⟩
  · have := tk_room hk
    rw [List.length_take] at this
    omega
  all_goals omega
theorem ext_take (s : ByteArray) (v : Nat) : s.extract 0 v = ⟨(s.data.toList.take v).toArray⟩ := by
  apply ByteArray.ext
  rw [← Array.toList_inj, ByteArray.data_extract, Array.toList_extract, List.extract_eq_drop_take', List.drop_zero]
theorem ext_drop (s : ByteArray) (v : Nat) : s.extract v s.size = ⟨(s.data.toList.drop v).toArray⟩ := by
  apply ByteArray.ext
  rw [← Array.toList_inj, ByteArray.data_extract, Array.toList_extract, List.extract_eq_drop_take', List.take_of_length_le (by simp)]
theorem txt_self (s : ByteArray) : (⟨s.data.toList.toArray⟩ : ByteArray) = s := by cases s; simp

set_option maxHeartbeats 2000000 in
set_option maxRecDepth 100000 in
theorem take_impl (s : ByteArray) (hs : s.size ≤ 65536) (w : World) (m : Int) (hm : w.cell? ⟨0, 0, none⟩ = some (.int .i64 m)) (hS : cn.Sents w) (hT : tb.TP w) :
    Calls Tryd.prog 19 #[.string s] w fun e w' => TakeRet s.data.toList e ∧ Below w.heap.size w w' := by
  have HE : Hid (Calls Tryd.prog 22 #[.string s] w fun e w' => (∃ (v : Nat) (code : Int), e = .returned (.tuple #[.int .i64 v, .int .i64 code]) ∧ EndIs s.data.toList v code) ∧ Below w.heap.size w w') := endOf_any s hs w m hm hS hT
  clear hm hS hT
  go_enter Tryd.func19, Tryd.ntmps19
  go_wp2_with fail
  refine HE.out.mono ?_
  rintro e w1 ⟨⟨v, code, rfl, hE⟩, b1⟩
  have HEI : Hid (EndIs s.data.toList v code) := hE
  clear HE hE
  by_cases hc : code = 0
  rotate_left
  · have hcn : ((code : Int) != 0) = true := by rw [bne_iff_ne]; exact hc
    have HCN : Hid (code ≠ 0) := hc
    clear hc
    go_wp2_with fail
    refine (tk.clone_any s w1 (by omega)).mono ?_
    rintro e w2 ⟨rfl, b2⟩
    have b3 := b1.trans (b2.mono b1.size)
    clear b1 b2
    go_wp2
    go_ret3
    exact ⟨⟨v, code, HEI.out, .inr ⟨HCN.out, by first | (rw [txt_self s]; done) | (rw [txt_self s]; rfl)⟩⟩, b3⟩
  subst hc
  have hroom := end_room HEI.out
  have hlen : s.data.toList.length = s.size := (Lib.size_eq s).symm
  rw [hlen] at hroom
  go_wp2_with fail
  have c1 : (0 : Int) ≤ (v : Int) := by omega
  have c2 : (v : Int) ≤ (s.size : Int) := by omega
  have c3 : (v : Int) + 2 ≤ (s.size : Int) := by omega
  have e1 := ext_take s v
  have e2 := ext_drop s (v + 2)
  have hus : (⟨(s.data.toList.take v).toArray⟩ : ByteArray).size ≤ 1048576 := by rw [← e1, ByteArray.size_extract]; omega
  have hrs : (⟨(s.data.toList.drop (v + 2)).toArray⟩ : ByteArray).size ≤ 1048576 := by rw [← e2, ByteArray.size_extract]; omega
  have HFIN : Hid (TakeRet s.data.toList (.returned (.tuple #[.string ⟨(s.data.toList.take v).toArray⟩, .string ⟨(s.data.toList.drop (v + 2)).toArray⟩, .int .i64 0]))) := ⟨v, 0, HEI.out, .inl ⟨rfl, by rw [hlen]; exact hroom, rfl⟩⟩
  generalize (⟨(s.data.toList.take v).toArray⟩ : ByteArray) = u at e1 hus HFIN
  generalize (⟨(s.data.toList.drop (v + 2)).toArray⟩ : ByteArray) = r at e2 hrs HFIN
  have HC : Hid (∀ (x : Ext w1), (Calls Tryd.prog 23 #[.string u] (gw x) fun e w' => e = .returned (.string u) ∧ Below (gw x).heap.size (gw x) w') ∧ (Calls Tryd.prog 23 #[.string r] (gw x) fun e w' => e = .returned (.string r) ∧ Below (gw x).heap.size (gw x) w')) := fun x =>
    ⟨tk.clone_any u _ hus, tk.clone_any r _ hrs⟩
  have HS1 : ∀ wx : World, (Instr.slice 9 (.string s) none (some (.int .i64 (v : Int))) none).run Tryd.prog wx = .ok (.string u) wx := fun wx => by
    rw [run_slice_string_to_if wx 9 s .i64 _ Tryd.underlying9, if_pos ⟨c1, c2⟩]
    rw [Int.toNat_natCast, e1]
  have HS2 : ∀ wx : World, (Instr.slice 9 (.string s) (some (.int .i64 ((v : Int) + 2))) none none).run Tryd.prog wx = .ok (.string r) wx := fun wx => by
    rw [run_slice_string_from_if wx 9 s .i64 _ Tryd.underlying9, if_pos ⟨by omega, c3⟩, show ((v : Int) + 2).toNat = v + 2 from by omega, e2]
  have ne := ext_some w1
  clear e1 e2 hroom hlen hus hrs
  refine region_lit (by kernel_rfl) (by kernel_rfl) ?_
  repeat (go_big_quiet_step ((go_at_call 23; first | exact grow_of (HC.out _).1 | exact grow_of (HC.out _).2)))
  refine wpQuiet_nil ?_
  rintro W' ⟨z, rfl⟩
  have b3 := b1.trans ((gw_below z).mono b1.size)
  generalize gw z = W' at b3 ⊢
  clear HC
  go_wp2
  go_ret3
  exact ⟨HFIN.out, b3⟩
end Go.Proofs.YtbfplmafffnghaaDoor.te
