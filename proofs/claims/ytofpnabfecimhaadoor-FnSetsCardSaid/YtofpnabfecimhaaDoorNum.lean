/-
  Marks in a row of ranges, and both ReadSet functions.
-/
import Derived.Test.YtofpnabfecimhaaDoorNut
namespace Go.Proofs.YtofpnabfecimhaaDoor.nu
open Go.RowKit
open rg sp
set_option linter.unusedVariables false

/-- Ranges that are marked. -/
def mks (n : Nat) : List Pr := (List.range n).map fun (j : Nat) => ((1 + 2 * (j : Int)), (2 + 2 * (j : Int)))
theorem mks_len (n : Nat) : (mks n).length = n := by simp [mks]
theorem mks_at (n j : Nat) (h : j < n) : (mks n).getD j no = ((1 + 2 * (j : Int)), (2 + 2 * (j : Int))) := by
  simp [mks, List.getD_eq_getElem?_getD, h]
def LayM (k : Nat) (xs : List Value) : Prop := ∀ j, j < k → xs[j * 2]? = some (.int .i64 (1 + 2 * (j : Int))) ∧ xs[j * 2 + 1]? = some (.int .i64 (2 + 2 * (j : Int)))
theorem layM_step {k : Nat} {xs : List Value} (h : LayM k xs) (hl : k * 2 + 1 < xs.length) : LayM (k + 1) ((xs.set (k * 2) (.int .i64 (1 + 2 * (k : Int)))).set (k * 2 + 1) (.int .i64 (2 + 2 * (k : Int)))) := by
  intro j hj
  by_cases e : j = k
  · subst e
    exact ⟨by rw [List.getElem?_set_ne (by omega), List.getElem?_set_self (by omega)], by rw [List.getElem?_set_self (by rw [List.length_set]; omega)]⟩
  · obtain ⟨h0, h1⟩ := h j (by omega)
    exact ⟨by rw [List.getElem?_set_ne (by omega), List.getElem?_set_ne (by omega)]; exact h0, by rw [List.getElem?_set_ne (by omega), List.getElem?_set_ne (by omega)]; exact h1⟩
theorem layM_at {w : World} {base g n cap : Nat} {xs : List Value} (h : w.ownsRow base 38 2 (.slice (some ⟨g, 0, none⟩) n cap) n xs) (hl : LayM n xs) : RgAt w (.slice (some ⟨g, 0, none⟩) n cap) (mks n) := by
  refine ⟨_, cap, by rw [mks_len], .inr ⟨g, 0, rfl, fun j hj => ?_⟩⟩
  rw [mks_len] at hj
  rw [mks_at n j hj]
  obtain ⟨h0, h1⟩ := hl j hj
  exact ⟨by rw [Nat.zero_add, h.cellAt (j * 2) (by omega), h0], by rw [Nat.zero_add, h.cellAt (j * 2 + 1) (by omega), h1]⟩

def RL (s : ByteArray) : List Pr := if 65536 < s.size then [] else (st (cutS 44 [] s.data.toList) []).getD []
def RC (s : ByteArray) : Int := if 65536 < s.size then 2 else if st (cutS 44 [] s.data.toList) [] = none then 3 else 0
theorem own_fresh (w : World) : OwnP (w.alloc (.cells #[] 38)) w.heap.size (.slice (some ⟨w.heap.size, 0, none⟩) 0 0) [] := ⟨rfl, .inr ⟨w.heap.size, 0, #[], rfl, Nat.le_refl _, (MapKept.heap_alloc w _).1, Nat.le_refl _, Nat.zero_le _, rfl, rfl⟩⟩
theorem own_lower {w : World} {b b' : Nat} {v : Value} {ps : List Pr} (h : OwnP w b v ps) (hb : b' ≤ b) : OwnP w b' v ps := ow.own_base h hb
/-- What ReadSet answers. -/
def RsRet (s : ByteArray) (w : World) (base : Nat) (e : Ending) : Prop := ∃ v, e = .returned (.tuple #[v, .int .i64 (RC s)]) ∧ OwnP w base v (RL s)
theorem RL_len (s : ByteArray) {R : Option (List Pr)} (h : st (cutS 44 [] s.data.toList) [] = R) (hl : ∀ ps, R = some ps → ps.length ≤ 50) : (RL s).length ≤ 50 := by
  unfold RL
  split
  · simp
  · rw [h]
    cases R with
    | none => simp
    | some ps => exact hl ps rfl
set_option maxHeartbeats 1000000 in
set_option maxRecDepth 100000 in
theorem specRS (s : ByteArray) (hs : s.size ≤ 1048576) (w : World) : Calls Tryd.prog 11 #[.string s] w fun e w' => (RsRet s w' w.heap.size e ∧ (RL s).length ≤ 50) ∧ Below w.heap.size w w' := by
  by_cases g0 : 65536 < s.size
  · have g0' : (65536 : Int) < (s.size : Int) := by omega
    have HL : Hid (RL s = []) := if_pos g0
    have HC : Hid (RC s = 2) := if_pos g0
    have HO : Hid (OwnP (w.alloc (.cells #[] 38)) w.heap.size (.slice (some ⟨w.heap.size, 0, none⟩) 0 0) []) := own_fresh w
    have b0 := new_below w 38 #[]
    go_enter Tryd.func11, Tryd.ntmps11
    go_wp2
    go_ret2
    exact ⟨⟨⟨_, by rw [HC.out]; rfl, by rw [HL.out]; exact HO.out⟩, by rw [HL.out]; simp⟩, b0⟩
  have g0' : (s.size : Int) ≤ 65536 := by omega
  have HL : Hid (RL s = (st (cutS 44 [] s.data.toList) []).getD []) := if_neg g0
  have HC : Hid (RC s = if st (cutS 44 [] s.data.toList) [] = none then 3 else 0) := if_neg g0
  go_enter Tryd.func11, Tryd.ntmps11
  go_wp2_with fail
  refine (specSetL s hs w).mono ?_
  rintro e w1 ⟨hr, b1⟩
  rcases hr with ⟨ps, v, hR, rfl, hown, hl⟩ | ⟨hR, v, rfl, a, c, rfl⟩
  · obtain ⟨av, cv, rfl⟩ := own_slice hown
    have HZ : Hid (RC s = 0 ∧ RL s = ps) := ⟨by rw [HC.out, hR]; simp, by rw [HL.out, hR]; rfl⟩
    have HO : Hid (OwnP w1 w.heap.size (.slice av ps.length cv) ps) := hown
    clear hR hown HL HC
    go_wp2
    go_ret2
    exact ⟨⟨⟨_, by rw [HZ.out.1]; rfl, by rw [HZ.out.2]; exact HO.out⟩, by rw [HZ.out.2]; exact hl⟩, b1⟩
  · have HZ : Hid (RC s = 3 ∧ RL s = []) := ⟨by rw [HC.out, hR]; simp, by rw [HL.out, hR]; rfl⟩
    have HO : Hid (OwnP (w1.alloc (.cells #[] 38)) w.heap.size (.slice (some ⟨w1.heap.size, 0, none⟩) 0 0) []) := own_lower (own_fresh w1) b1.size
    have b2 := b1.trans ((new_below w1 38 #[]).mono b1.size)
    clear hR HL HC
    go_wp2
    go_ret2
    exact ⟨⟨⟨_, by rw [HZ.out.1]; rfl, by rw [HZ.out.2]; exact HO.out⟩, by rw [HZ.out.2]; simp⟩, b2⟩
set_option maxHeartbeats 1000000 in
set_option maxRecDepth 100000 in
theorem implRS (s : ByteArray) (hs : s.size ≤ 1048576) (w : World) (mx : Int) (hm : w.cell? ⟨1, 0, none⟩ = some (.int .i64 mx)) (h : Sents w) (hT : tb.TP w) :
    Calls Tryd.prog 9 #[.string s] w fun e w' => RsRet s w' w.heap.size e ∧ Below w.heap.size w w' := by
  by_cases g0 : 65536 < s.size
  · have g0' : (65536 : Int) < (s.size : Int) := by omega
    have HL : Hid (RL s = []) := if_pos g0
    have HC : Hid (RC s = 2) := if_pos g0
    have HO : Hid (OwnP w w.heap.size (.slice none 0 0) []) := World.ownsRow_nil _ _ _ _
    clear hm h hT
    go_enter Tryd.func9, Tryd.ntmps9
    go_wp2
    go_ret2
    exact ⟨⟨_, by rw [HC.out]; rfl, by rw [HL.out]; exact HO.out⟩, Below.refl _ _⟩
  have g0' : (s.size : Int) ≤ 65536 := by omega
  have HL : Hid (RL s = (st (cutS 44 [] s.data.toList) []).getD []) := if_neg g0
  have HC : Hid (RC s = if st (cutS 44 [] s.data.toList) [] = none then 3 else 0) := if_neg g0
  have HI : Hid (Calls Tryd.prog 23 #[.string s] w fun e w' => SetRet (st (cutS 44 [] s.data.toList) []) w' w.heap.size e ∧ Below w.heap.size w w') := rangesOf_any s hs w mx hm h hT
  clear hm h hT
  go_enter Tryd.func9, Tryd.ntmps9
  go_wp2_with fail
  refine HI.out.mono ?_
  rintro e w1 ⟨hr, b1⟩
  rcases hr with ⟨ps, v, hR, rfl, hown, hl⟩ | ⟨hR, v, rfl, a, c, rfl⟩
  · obtain ⟨av, cv, rfl⟩ := own_slice hown
    have HZ : Hid (RC s = 0 ∧ RL s = ps) := ⟨by rw [HC.out, hR]; simp, by rw [HL.out, hR]; rfl⟩
    have HO : Hid (OwnP w1 w.heap.size (.slice av ps.length cv) ps) := hown
    clear hR hown HL HC HI
    go_wp2
    go_ret2
    exact ⟨⟨_, by rw [HZ.out.1]; rfl, by rw [HZ.out.2]; exact HO.out⟩, b1⟩
  · have HZ : Hid (RC s = 3 ∧ RL s = []) := ⟨by rw [HC.out, hR]; simp, by rw [HL.out, hR]; rfl⟩
    have HO : Hid (OwnP w1 w.heap.size (.slice none 0 0) []) := World.ownsRow_nil _ _ _ _
    clear hR HL HC HI
    go_wp2
    go_ret2
    exact ⟨⟨_, by rw [HZ.out.1]; rfl, by rw [HZ.out.2]; exact HO.out⟩, b1⟩
end Go.Proofs.YtofpnabfecimhaaDoor.nu
