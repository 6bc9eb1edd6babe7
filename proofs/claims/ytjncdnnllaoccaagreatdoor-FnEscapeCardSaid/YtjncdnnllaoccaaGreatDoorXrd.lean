/-
  The program's reader of XML: an entity that the program itself writes is read as its sign.
-/
import Derived.Test.YtjncdnnllaoccaaGreatDoorXrc
namespace Go.Proofs.YtjncdnnllaoccaaGreatDoor.xd
open Go.RowKit
set_option linter.unusedVariables false

/-- The cell of the library's bytealg.MaxLen holds a number. -/
def Gl (w : World) : Prop := ∃ m : Int, w.cell? ⟨1, 0, none⟩ = some (.int .i64 m)
theorem Gl.ne {w : World} {b p : Nat} {s : ByteArray} {vT vO : Value} (h : Gl w) (hr : Rb w b s p vT vO) : 1 ≠ b := by
  intro e
  obtain ⟨m, hm⟩ := h
  rw [e] at hm
  rw [hr.c0] at hm
  cases hm
theorem Gl.mv {w w' : World} {b p : Nat} {s : ByteArray} {vT vO : Value} (h : Gl w) (hr : Rb w b s p vT vO) (hg : w.grownBy w' (some b)) : Gl w' := by
  have hne := h.ne hr
  obtain ⟨m, hm⟩ := h
  exact ⟨m, (World.cell?_of_block (w := w) (a := ⟨1, 0, none⟩) (hg.block _ (World.block_lt_of_cell? w _ hm) (by simpa using hne))).trans hm⟩
theorem Gl.below {w w' : World} (h : Gl w) (hb : Below w.heap.size w w') : Gl w' := by
  obtain ⟨m, hm⟩ := h
  exact ⟨m, (hb.cell (p := ⟨1, 0, none⟩) (World.block_lt_of_cell? w _ hm)).trans hm⟩

theorem ent_xr {nm : List UInt8} {r : UInt8} (h : entR nm r) : xm.xr (r.toNat : Int) = true := by
  rcases h with ⟨rfl, rfl⟩ | ⟨rfl, rfl⟩ | ⟨rfl, rfl⟩ | ⟨rfl, rfl⟩ | ⟨rfl, rfl⟩ <;> rfl

set_option maxHeartbeats 2000000 in
set_option maxRecDepth 100000 in
theorem entity_yes (b p : Nat) (s : ByteArray) (vT vO : Value) (w : World) (h : Rb w b s p vT vO) (hs : s.size ≤ 65536) (hG : Gl w) (nm tail : List UInt8) (r : UInt8) (he : entR nm r) (hrest : s.data.toList.drop p = 38 :: (nm ++ 59 :: tail)) :
    Calls Tryz.prog 122 #[.pointer (some ⟨b, 0, none⟩)] w fun e w' => e = .returned (.tuple #[.string ⟨#[r]⟩, .nilIface]) ∧ Mv b s (p + nm.length + 2) vT vO w w' := by
  obtain ⟨h59, hlen⟩ := ent_no he
  have hlen2 : p + nm.length + 2 ≤ s.size := by
    have := congrArg List.length hrest
    rw [List.length_drop, ← Lib.size_eq] at this
    simp at this
    omega
  have hl1 : (s.extract (p + 1) s.size).data.toList = nm ++ 59 :: tail := by
    rw [rest_list, ← List.drop_drop, hrest]; rfl
  obtain ⟨m, hm⟩ := hG
  have HC : Hid (∀ n, Calls Tryz.prog 99 #[.string (s.extract (p + 1) s.size), .string ⟨#[59]⟩] (w.drewN n) fun e w' => e = .returned (.tuple #[.string ⟨nm.toArray⟩, .string ⟨tail.toArray⟩, .bool true]) ∧ ∃ k, w' = (w.drewN n).drewN k) := fun n => by
    have := Tryz.strings_Cut (s.extract (p + 1) s.size) ⟨#[59]⟩ m (w.drewN n) (by rw [ByteArray.size_extract]; omega) hm
    rw [hl1, show ((⟨#[59]⟩ : ByteArray).data.toList) = [59] from rfl, cut_at h59] at this
    exact this
  have hsl := ow.slice_str (P := Tryz.prog) 9 s .i64 .i64 (p + 1) s.size Tryz.underlying9 ((p : Int) + 1) (s.size : Int) (by omega) rfl (by omega) (Nat.le_refl _)
  have c0 := h.c0
  have c1 := h.c1
  have HR : Hid (Rb w b s p vT vO) := h
  have hnl : (⟨nm.toArray⟩ : ByteArray).size = nm.length := by rw [Lib.size_eq]
  have HE : Hid (entR nm r) := he
  have hx := ent_xr he
  clear h he hm hl1 hrest h59
  generalize hN : (⟨nm.toArray⟩ : ByteArray) = N at HC hnl
  have HN : Hid ((⟨nm.toArray⟩ : ByteArray) = N) := hN
  clear hN
  have hnl' : (N.size : Int) ≤ 9 := by omega
  go_enter Tryz.func122, Tryz.ntmps122
  go_wp2
  go_quiet ((go_at_call 99; exact Calls.quiet_of (HC.out _)))
  go_wp2_with fail
  rw [← HN.out]
  refine (ent_any HE.out _).mono ?_
  rintro e w2 ⟨rfl, hb2⟩
  have hmv : Mv b s p vT vO w w2 := ((Mv.refl HR.out).drew nq).below hb2
  have d1 := hmv.1.c1
  have f1 := hmv.1.f 1
  have HMV : Hid (Mv b s p vT vO w w2) := hmv
  clear hmv hb2 c0 c1 HC hsl
  rw [HN.out]
  go_wp2_with fail
  refine (xm.impl_xr _ _).mono ?_
  rintro e w3 ⟨rfl, rfl⟩
  rw [hx]
  have hr := HE.out
  unfold entR at hr
  clear hx
  rcases hr with ⟨hnm, rfl⟩ | ⟨hnm, rfl⟩ | ⟨hnm, rfl⟩ | ⟨hnm, rfl⟩ | ⟨hnm, rfl⟩
  all_goals
    go_wp2
    go_ret2
    refine ⟨rfl, ?_⟩
    have := HMV.out.at (p + nm.length + 2)
    rw [hnm] at this ⊢
    exact this
end Go.Proofs.YtjncdnnllaoccaaGreatDoor.xd
