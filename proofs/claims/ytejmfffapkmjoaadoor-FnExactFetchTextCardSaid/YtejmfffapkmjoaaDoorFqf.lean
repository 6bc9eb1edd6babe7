/-
  What a fetch tells of a mail: whether an item is asked for, and an item's text, the program's way.
-/
import Derived.Test.YtejmfffapkmjoaaDoorFqe
import Derived.Test.YtejmfffapkmjoaaDoorFqc
import Derived.Test.YtejmfffapkmjoaaDoorFgu
import Derived.Test.YtejmfffapkmjoaaDoorPag
import Derived.Test.YtejmfffapkmjoaaDoorDig
namespace Go.Proofs.YtejmfffapkmjoaaDoor.fq
open Go.RowKit
open gr bl
open ky (TextsAt nt)
set_option linter.unusedVariables false

theorem heap_new (w : World) (o : Obj) : (w.alloc o).heap[w.heap.size]? = some o := (MapKept.heap_alloc w _).1
def hasN (is : List It) (l : B) : Bool := is.any fun i => decide (nmOf i = l)
theorem hasN_yes {is : List It} {l : B} {k : Nat} (h : k < is.length) (e : nmOf (is.getD k .fl) = l) : hasN is l = true := by
  unfold hasN
  rw [List.any_eq_true]
  refine ⟨is[k], List.getElem_mem h, decide_eq_true ?_⟩
  rw [← e, List.getD_eq_getElem?_getD, List.getElem?_eq_getElem h]
  rfl
theorem hasN_no {is : List It} {l : B} (h : ∀ j, j < is.length → nmOf (is.getD j .fl) ≠ l) : hasN is l = false := by
  unfold hasN
  rw [List.any_eq_false]
  intro i hi
  obtain ⟨j, hj, rfl⟩ := List.getElem_of_mem hi
  have := h j hj
  rw [List.getD_eq_getElem?_getD, List.getElem?_eq_getElem hj] at this
  simpa using this
theorem ret_bool' {a b : Bool} (h : a = b) : (Ending.returned (.bool a)) = .returned (.bool b) := by rw [h]

set_option maxHeartbeats 1000000 in
set_option maxRecDepth 100000 in
theorem hit_any (i : It) (l : B) (g : Nat) (w : World) (hg : w.cell? ⟨g, 0, none⟩ = some (.string ⟨l.toArray⟩)) :
    Calls Tryd.prog 29 #[.agg #[.string (nmB i), .string (paB i)], .pointer (some ⟨g, 0, none⟩)] w fun e w' => e = .returned (.bool (decide (nmOf i = l))) ∧ Below w.heap.size w w' := by
  have HE : Hid (((nmB i).toList == (⟨l.toArray⟩ : ByteArray).toList) = decide (nmOf i = l)) := (show _ = _ by rw [Lib.toList_data (⟨l.toArray⟩ : ByteArray)]; exact tl_of (nmOf i) l)
  generalize nmB i = X at HE ⊢
  generalize paB i = Y
  generalize (⟨l.toArray⟩ : ByteArray) = L at HE hg
  have hb : Below w.heap.size w (w.alloc (.cells #[.string X, .string Y] 50)) := (Below.refl _ _).alloc (Nat.le_refl _) _
  have k1 := kq hb hg
  have k3 : (w.alloc (.cells #[.string X, .string Y] 50)).cell? ⟨w.heap.size, 0, none⟩ = some (.string X) := by
    rw [cell_of_row _ _ _ _ _ _ (heap_new w _)]; rfl
  clear hg
  go_enter Tryd.func29, Tryd.ntmps29
  go_wp2_with fail
  generalize w.alloc _ = w0 at hb k1 k3 ⊢
  go_wp2
  go_ret
  exact ⟨ret_bool' HE.out, hb⟩

set_option maxHeartbeats 2000000 in
set_option maxRecDepth 100000 in
theorem index_any (v : Value) (is : List It) (l : B) (g : Nat) (w : World) (h : ItAt w v is) (hg : w.cell? ⟨g, 0, none⟩ = some (.string ⟨l.toArray⟩)) (hl : is.length ≤ 1048576) :
    Calls Tryd.prog 42 #[v, .func (Fn.func 29) #[] #[.pointer (some ⟨g, 0, none⟩)]] w fun e w' => (∃ r : Int, e = .returned (.int .i64 r) ∧ decide (0 ≤ r) = hasN is l) ∧ Below w.heap.size w w' := by
  obtain ⟨b, off, cap, rfl, h⟩ := h
  obtain ⟨m, hm⟩ : ∃ m, m = is.length := ⟨_, rfl⟩
  have HM : Hid (m = is.length) := hm
  have HH : Hid (∀ j, j < is.length → w.cell? ⟨b, off + j * 2, none⟩ = some (.string (nmB (is.getD j .fl))) ∧ w.cell? ⟨b, off + j * 2 + 1, none⟩ = some (.string (paB (is.getD j .fl)))) := h
  have HG : Hid (w.cell? ⟨g, 0, none⟩ = some (.string ⟨l.toArray⟩)) := hg
  rw [← hm] at hl ⊢
  clear h hm hg
  go_enter Tryd.func42, Tryd.ntmps42
  go_wp2
  go_loopw [8] (fun i wr => ∃ k : Nat, k ≤ m ∧ i = .int .i64 k ∧ (∀ j, j < k → nmOf (is.getD j .fl) ≠ l) ∧ Below w.heap.size w wr) (fun i _ => m - (intOf i).toNat)
  case atStart => exact ⟨0, Nat.zero_le _, rfl, fun j hj => absurd hj (Nat.not_lt_zero _), Below.refl _ _⟩
  case round =>
    obtain ⟨k, hk, rfl, hno, hbw⟩ := hrel
    have HNO : Hid (∀ j, j < k → nmOf (is.getD j .fl) ≠ l) := hno
    clear hno
    by_cases hlt : k < m
    · have hka : k < is.length := by rw [← HM.out]; exact hlt
      have HKA : Hid (k < is.length) := hka
      obtain ⟨v0, v1⟩ := HH.out k hka
      have c0 := kq hbw v0
      have c1 := kq hbw v1
      clear hka v0 v1
      generalize hx : is.getD k .fl = i at c0 c1
      have HX : Hid (is.getD k .fl = i) := hx
      clear hx
      have HHI : Hid (∀ W, W.cell? ⟨g, 0, none⟩ = some (.string ⟨l.toArray⟩) → Calls Tryd.prog 29 #[.agg #[.string (nmB i), .string (paB i)], .pointer (some ⟨g, 0, none⟩)] W fun e w' => e = .returned (.bool (decide (nmOf i = l))) ∧ Below W.heap.size W w') := fun W hW => hit_any i l g W hW
      generalize nmB i = X at c0 HHI
      generalize paB i = Y at c1 HHI
      have HC : Hid (wr.cell? ⟨g, 0, none⟩ = some (.string ⟨l.toArray⟩)) := kq hbw HG.out
      have hlt' : (k : Int) < (m : Int) := by omega
      go_wp2_with fail
      refine (HHI.out wr HC.out).mono ?_
      rintro e w2 ⟨rfl, hb2⟩
      have b2 := hbw.trans (hb2.mono hbw.size)
      clear hb2 hbw c0 c1 HC HHI
      by_cases hd : nmOf i = l
      · have HE : Hid (hasN is l = true) := hasN_yes HKA.out (by rw [HX.out]; exact hd)
        rw [decide_eq_true hd]
        clear hd
        go_wp2
        go_ret
        exact ⟨⟨k, rfl, by rw [HE.out]; exact decide_eq_true (by omega)⟩, b2⟩
      · have HE : Hid (∀ j, j < k + 1 → nmOf (is.getD j .fl) ≠ l) := fun j hj => by
          by_cases e : j = k
          · subst e; rw [HX.out]; exact hd
          · exact HNO.out j (by omega)
        rw [decide_eq_false hd]
        clear hd
        go_wp2
        go_roundw
        case rel => exact ⟨k + 1, by omega, by go_num, HE.out, b2⟩
        case measure => simp [intOf]; omega
    · have HE : Hid (hasN is l = false) := hasN_no fun j hj => HNO.out j (by have := HM.out; omega)
      go_wp2
      go_ret
      exact ⟨⟨-1, rfl, by rw [HE.out]; rfl⟩, hbw⟩

set_option maxHeartbeats 1000000 in
set_option maxRecDepth 100000 in
theorem contains_any (v : Value) (is : List It) (l : B) (g : Nat) (w : World) (h : ItAt w v is) (hg : w.cell? ⟨g, 0, none⟩ = some (.string ⟨l.toArray⟩)) (hl : is.length ≤ 1048576) :
    Calls Tryd.prog 28 #[v, .func (Fn.func 29) #[] #[.pointer (some ⟨g, 0, none⟩)]] w fun e w' => e = .returned (.bool (hasN is l)) ∧ Below w.heap.size w w' := by
  have HA := h
  obtain ⟨b, off, cap, rfl, h⟩ := h
  clear h
  have HA : Hid (ItAt w (.slice (some ⟨b, off, none⟩) is.length cap) is) := HA
  have HG : Hid (w.cell? ⟨g, 0, none⟩ = some (.string ⟨l.toArray⟩)) := hg
  clear hg
  go_enter Tryd.func28, Tryd.ntmps28
  go_wp2_with fail
  refine (index_any _ is l g w HA.out HG.out hl).mono ?_
  rintro e w2 ⟨⟨r, rfl, hr⟩, hb2⟩
  have HR : Hid (decide (0 ≤ r) = hasN is l) := hr
  clear hr HA HG
  go_wp2
  all_goals (go_ret; exact ⟨ret_bool' HR.out, hb2⟩)

set_option maxHeartbeats 1000000 in
set_option maxRecDepth 100000 in
theorem has_any (v : Value) (is : List It) (l : B) (w : World) (h : ItAt w v is) (hl : is.length ≤ 1048576) :
    Calls Tryd.prog 18 #[v, .string ⟨l.toArray⟩] w fun e w' => e = .returned (.bool (hasN is l)) ∧ Below w.heap.size w w' := by
  have b0 : Below w.heap.size w (w.alloc (.cells #[.string ⟨l.toArray⟩] 9)) := (Below.refl _ _).alloc (Nat.le_refl _) _
  have HA := it_below h b0
  have k0 : (w.alloc (.cells #[.string ⟨l.toArray⟩] 9)).cell? ⟨w.heap.size, 0, none⟩ = some (.string ⟨l.toArray⟩) := by
    rw [cell_of_row _ _ _ _ _ _ (heap_new w _)]; rfl
  obtain ⟨b, off, cap, rfl, h⟩ := h
  clear h
  have HA : Hid (ItAt (w.alloc (.cells #[.string ⟨l.toArray⟩] 9)) (.slice (some ⟨b, off, none⟩) is.length cap) is) := HA
  have HK : Hid ((w.alloc (.cells #[.string ⟨l.toArray⟩] 9)).cell? ⟨w.heap.size, 0, none⟩ = some (.string ⟨l.toArray⟩)) := k0
  have HC : Hid (∀ W, ItAt W (.slice (some ⟨b, off, none⟩) is.length cap) is → W.cell? ⟨w.heap.size, 0, none⟩ = some (.string ⟨l.toArray⟩) → Calls Tryd.prog 28 #[.slice (some ⟨b, off, none⟩) is.length cap, .func (Fn.func 29) #[] #[.pointer (some ⟨w.heap.size, 0, none⟩)]] W fun e w' => e = .returned (.bool (hasN is l)) ∧ Below W.heap.size W w') := fun W h1 h2 => contains_any _ is l _ W h1 h2 hl
  clear k0
  go_enter Tryd.func18, Tryd.ntmps18
  go_wp2_with fail
  generalize World.alloc _ _ = w0 at b0 HA HK ⊢
  refine (HC.out w0 HA.out HK.out).mono ?_
  rintro e w2 ⟨rfl, hb2⟩
  have b3 := b0.trans (hb2.mono b0.size)
  clear hb2 HA HK b0
  go_wp2
  go_ret
  exact ⟨rfl, b3⟩
end Go.Proofs.YtejmfffapkmjoaaDoor.fq
