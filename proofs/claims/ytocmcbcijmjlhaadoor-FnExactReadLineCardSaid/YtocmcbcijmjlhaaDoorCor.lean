/-
  A console's line read: the program's way.
-/
import Derived.Test.YtocmcbcijmjlhaaDoorCoc
import Derived.Defers
import Derived.Recover
import Derived.Laws.Pointers
namespace Go.Proofs.YtocmcbcijmjlhaaDoor.cn
open Go.RowKit
open sp nu
set_option linter.unusedVariables false

def evf (k : Int) (o : Option (List UInt8 × Int × List UInt8 × List UInt8)) : Option Ev := match o with | none => none | some (r, c, x, d) => if tb r = [] then some (k, c, x, d) else none
/-- The event that a line says, as the program finds it. -/
def evI (l : List UInt8) : Option Ev :=
  if wd l = [] then none
  else if wd l = [109, 97, 107, 101] then evf 6 (runM [15] (rs l) 0 [] [])
  else if wd l = [112, 111, 108, 108] then evf 5 (runM [15, 16] (rs l) 0 [] [])
  else if wd l = [105, 109, 97, 112] then evf 1 (runM [17] (rs l) 0 [] [])
  else if wd l = [110, 110, 116, 112] then evf 2 (runM [17] (rs l) 0 [] [])
  else if wd l = [99, 108, 111, 115, 101] then evf 4 (runM [17] (rs l) 0 [] [])
  else if wd l = [115, 97, 121] then evf 3 (runM [17, 18] (rs l) 0 [] [])
  else if wd l = [99, 114, 97, 115, 104] then evf 7 (runM ([] : List Nat) (rs l) 0 [] [])
  else none
def ReadRet (b : Nat) (w : World) (o : Option Ev) (e : Ending) (w' : World) : Prop :=
  match o with
  | none => Pan e ∧ w.grownBy w' (some b)
  | some (k, c, x, d) => e = .returned (.tuple #[]) ∧ ∃ r, St w b r k c x d w'
theorem fin_read {b : Nat} {w w2 w' : World} {k : Int} {o : Option (List UInt8 × Int × List UInt8 × List UInt8)} {oe : Option Ev} {e : Ending} (hg : w.grownBy w2 (some b)) (ho : oe = evf k o) (h : FillRet b w2 k o e w') : ReadRet b w oe e w' := by
  subst ho
  cases o with
  | none => exact ⟨h.1, ow.grown_trans hg h.2⟩
  | some y =>
    obtain ⟨r, c, x, d⟩ := y
    have h' : if tb r = [] then e = .returned (.tuple #[]) ∧ St w2 b [] k c x d w' else Pan e ∧ w2.grownBy w' (some b) := h
    by_cases hz : tb r = []
    · rw [if_pos hz] at h'
      have ev : evf k (some (r, c, x, d)) = some (k, c, x, d) := by show (if tb r = [] then _ else _) = _; rw [if_pos hz]
      rw [ev]
      exact ⟨h'.1, [], h'.2.1, ow.grown_trans hg h'.2.2⟩
    · rw [if_neg hz] at h'
      have ev : evf k (some (r, c, x, d)) = none := by show (if tb r = [] then _ else _) = _; rw [if_neg hz]
      rw [ev]
      exact ⟨h'.1, ow.grown_trans hg h'.2⟩
theorem read_end {b : Nat} {w : World} {o : Option Ev} {e : Ending} {w' : World} (h : ReadRet b w o e w') : (e = .returned (.tuple #[]) ∧ ReadRet b w o (.returned (.tuple #[])) w') ∨ ∃ T v, e = .panicked [{ v := .iface T v, recovered := false }] ∧ ReadRet b w o e w' := by
  cases o with
  | none => obtain ⟨T, v, rfl⟩ := h.1; exact .inr ⟨T, v, rfl, h⟩
  | some y => have := h.1; subst this; exact .inl ⟨rfl, h⟩

set_option maxHeartbeats 4000000 in
set_option maxRecDepth 100000 in
theorem read_any (b : Nat) (l : List UInt8) (w : World) (h : Rd w b l 0 0 [] []) (hr : l.length ≤ 1048576) (hv : Env b w) :
    Calls Tryd.prog 10 #[.pointer (some ⟨b, 0, none⟩)] w fun e w' => ReadRet b w (evI l) e w' := by
  have hmf : ∀ (fn : Fn) (first cap : Array Value) (w : World), (Instr.makeFunc fn first cap).run Tryd.prog w = .ok (.func fn first cap) w := fun _ _ _ _ => rfl
  obtain ⟨mx, hm⟩ := hv.mx
  have hlt : Hid (b < w.heap.size) := h.lt
  by_cases hw : wd l = []
  · have HW : Hid (Calls Tryd.prog 13 #[.pointer (some ⟨b, 0, none⟩)] w fun e w' => Pan e ∧ w.grownBy w' (some b)) := word_none b l 0 0 [] [] w h hr mx hm hw
    have ev : Hid (evI l = none) := by unfold Hid evI; rw [if_pos hw]
    rw [ev.out]
    clear h hm hw hv
    go_enter Tryd.func10, Tryd.ntmps10
    go_wp2_with fail
    refine HW.out.mono ?_
    rintro e w1 ⟨⟨T, v, rfl⟩, hg⟩
    go_wp2
    exact ⟨rfl, ⟨_, _, rfl⟩, hg⟩
  have HW : Hid (Calls Tryd.prog 13 #[.pointer (some ⟨b, 0, none⟩)] w fun e w' => e = .returned (.string ⟨(wd l).toArray⟩) ∧ St w b (rs l) 0 0 [] [] w') := word_some b l 0 0 [] [] w h hr mx hm hw
  have HR : Hid (∀ w1, St w b (rs l) 0 0 [] [] w1 → Env b w1) := fun w1 y => hv.step (Nat.le_of_lt hlt.out) y.2
  have hrs : Hid ((rs l).length ≤ 1048576) := Nat.le_trans (rs_len l) hr
  have HD : ∀ u : List UInt8, ((⟨(wd l).toArray⟩ : ByteArray).toList == u) = decide (wd l = u) := fun u => by
    rw [Lib.toList_data]
    exact Bool.eq_iff_iff.2 (by simp)
  by_cases q0 : wd l = [109, 97, 107, 101]
  · have ev : Hid (evI l = evf 6 (runM [15] (rs l) 0 [] [])) := by unfold Hid evI; rw [if_neg hw, if_pos q0]
    have e0 : ((⟨(wd l).toArray⟩ : ByteArray).toList == [109, 97, 107, 101]) = true := by rw [HD]; exact decide_eq_true q0
    clear h hm hv hw HD q0
    generalize (⟨(wd l).toArray⟩ : ByteArray) = W at HW e0
    go_enter Tryd.func10, Tryd.ntmps10
    go_wp2_with fail
    refine HW.out.mono ?_
    rintro e w1 ⟨rfl, hs⟩
    have HS : Hid (St w b (rs l) 0 0 [] [] w1) := hs
    clear hs HW
    go_wp2_with fail
    refine (fill_any b w1.heap.size [15] 1 (rs l) 6 0 0 [] [] _ (HS.out.1.keep ((Below.refl _ _).alloc (Nat.le_refl _) _)) hrs.out ((HR.out _ HS.out).step (Nat.le_of_lt HS.out.1.lt) (ow.grown_below ((Below.refl _ _).alloc (Nat.le_refl _) _))) (by decide) ?_ ?_ (Nat.ne_of_gt HS.out.1.lt) (by simp)).mono ?_
    · intro N hN
      simp only [List.mem_cons, List.not_mem_nil, or_false] at hN
      unfold IsTk
      omega
    · exact fun i hi => match i, hi with
      | 0, _ => by rw [cell_of_row _ _ _ _ _ _ (MapKept.heap_alloc w1 _).1]; rfl
    rintro e w2 hf
    have HF : Hid (ReadRet b w (evI l) e w2) := fin_read (ow.grown_trans HS.out.2 (ow.grown_below ((Below.refl _ _).alloc (Nat.le_refl _) _))) ev.out hf
    clear hf
    rcases read_end HF.out with ⟨rfl, _⟩ | ⟨T, v, rfl, _⟩
    · go_wp2
      go_end0
      exact HF.out
    · go_wp2
      exact ⟨rfl, HF.out⟩
  by_cases q1 : wd l = [112, 111, 108, 108]
  · have ev : Hid (evI l = evf 5 (runM [15, 16] (rs l) 0 [] [])) := by unfold Hid evI; rw [if_neg hw, if_neg q0, if_pos q1]
    have e0 : ((⟨(wd l).toArray⟩ : ByteArray).toList == [109, 97, 107, 101]) = false := by rw [HD]; exact decide_eq_false q0
    have e1 : ((⟨(wd l).toArray⟩ : ByteArray).toList == [112, 111, 108, 108]) = true := by rw [HD]; exact decide_eq_true q1
    clear h hm hv hw HD q0 q1
    generalize (⟨(wd l).toArray⟩ : ByteArray) = W at HW e0 e1
    go_enter Tryd.func10, Tryd.ntmps10
    go_wp2_with fail
    refine HW.out.mono ?_
    rintro e w1 ⟨rfl, hs⟩
    have HS : Hid (St w b (rs l) 0 0 [] [] w1) := hs
    clear hs HW
    go_wp2_with fail
    refine (fill_any b w1.heap.size [15, 16] 2 (rs l) 5 0 0 [] [] _ (HS.out.1.keep ((Below.refl _ _).alloc (Nat.le_refl _) _)) hrs.out ((HR.out _ HS.out).step (Nat.le_of_lt HS.out.1.lt) (ow.grown_below ((Below.refl _ _).alloc (Nat.le_refl _) _))) (by decide) ?_ ?_ (Nat.ne_of_gt HS.out.1.lt) (by simp)).mono ?_
    · intro N hN
      simp only [List.mem_cons, List.not_mem_nil, or_false] at hN
      unfold IsTk
      omega
    · exact fun i hi => match i, hi with
      | 0, _ => by rw [cell_of_row _ _ _ _ _ _ (MapKept.heap_alloc w1 _).1]; rfl
      | 1, _ => by rw [cell_of_row _ _ _ _ _ _ (MapKept.heap_alloc w1 _).1]; rfl
    rintro e w2 hf
    have HF : Hid (ReadRet b w (evI l) e w2) := fin_read (ow.grown_trans HS.out.2 (ow.grown_below ((Below.refl _ _).alloc (Nat.le_refl _) _))) ev.out hf
    clear hf
    rcases read_end HF.out with ⟨rfl, _⟩ | ⟨T, v, rfl, _⟩
    · go_wp2
      go_end0
      exact HF.out
    · go_wp2
      exact ⟨rfl, HF.out⟩
  by_cases q2 : wd l = [105, 109, 97, 112]
  · have ev : Hid (evI l = evf 1 (runM [17] (rs l) 0 [] [])) := by unfold Hid evI; rw [if_neg hw, if_neg q0, if_neg q1, if_pos q2]
    have e0 : ((⟨(wd l).toArray⟩ : ByteArray).toList == [109, 97, 107, 101]) = false := by rw [HD]; exact decide_eq_false q0
    have e1 : ((⟨(wd l).toArray⟩ : ByteArray).toList == [112, 111, 108, 108]) = false := by rw [HD]; exact decide_eq_false q1
    have e2 : ((⟨(wd l).toArray⟩ : ByteArray).toList == [105, 109, 97, 112]) = true := by rw [HD]; exact decide_eq_true q2
    clear h hm hv hw HD q0 q1 q2
    generalize (⟨(wd l).toArray⟩ : ByteArray) = W at HW e0 e1 e2
    go_enter Tryd.func10, Tryd.ntmps10
    go_wp2_with fail
    refine HW.out.mono ?_
    rintro e w1 ⟨rfl, hs⟩
    have HS : Hid (St w b (rs l) 0 0 [] [] w1) := hs
    clear hs HW
    go_wp2_with fail
    refine (fill_any b w1.heap.size [17] 1 (rs l) 1 0 0 [] [] _ (HS.out.1.keep ((Below.refl _ _).alloc (Nat.le_refl _) _)) hrs.out ((HR.out _ HS.out).step (Nat.le_of_lt HS.out.1.lt) (ow.grown_below ((Below.refl _ _).alloc (Nat.le_refl _) _))) (by decide) ?_ ?_ (Nat.ne_of_gt HS.out.1.lt) (by simp)).mono ?_
    · intro N hN
      simp only [List.mem_cons, List.not_mem_nil, or_false] at hN
      unfold IsTk
      omega
    · exact fun i hi => match i, hi with
      | 0, _ => by rw [cell_of_row _ _ _ _ _ _ (MapKept.heap_alloc w1 _).1]; rfl
    rintro e w2 hf
    have HF : Hid (ReadRet b w (evI l) e w2) := fin_read (ow.grown_trans HS.out.2 (ow.grown_below ((Below.refl _ _).alloc (Nat.le_refl _) _))) ev.out hf
    clear hf
    rcases read_end HF.out with ⟨rfl, _⟩ | ⟨T, v, rfl, _⟩
    · go_wp2
      go_end0
      exact HF.out
    · go_wp2
      exact ⟨rfl, HF.out⟩
  by_cases q3 : wd l = [110, 110, 116, 112]
  · have ev : Hid (evI l = evf 2 (runM [17] (rs l) 0 [] [])) := by unfold Hid evI; rw [if_neg hw, if_neg q0, if_neg q1, if_neg q2, if_pos q3]
    have e0 : ((⟨(wd l).toArray⟩ : ByteArray).toList == [109, 97, 107, 101]) = false := by rw [HD]; exact decide_eq_false q0
    have e1 : ((⟨(wd l).toArray⟩ : ByteArray).toList == [112, 111, 108, 108]) = false := by rw [HD]; exact decide_eq_false q1
    have e2 : ((⟨(wd l).toArray⟩ : ByteArray).toList == [105, 109, 97, 112]) = false := by rw [HD]; exact decide_eq_false q2
    have e3 : ((⟨(wd l).toArray⟩ : ByteArray).toList == [110, 110, 116, 112]) = true := by rw [HD]; exact decide_eq_true q3
    clear h hm hv hw HD q0 q1 q2 q3
    generalize (⟨(wd l).toArray⟩ : ByteArray) = W at HW e0 e1 e2 e3
    go_enter Tryd.func10, Tryd.ntmps10
    go_wp2_with fail
    refine HW.out.mono ?_
    rintro e w1 ⟨rfl, hs⟩
    have HS : Hid (St w b (rs l) 0 0 [] [] w1) := hs
    clear hs HW
    go_wp2_with fail
    refine (fill_any b w1.heap.size [17] 1 (rs l) 2 0 0 [] [] _ (HS.out.1.keep ((Below.refl _ _).alloc (Nat.le_refl _) _)) hrs.out ((HR.out _ HS.out).step (Nat.le_of_lt HS.out.1.lt) (ow.grown_below ((Below.refl _ _).alloc (Nat.le_refl _) _))) (by decide) ?_ ?_ (Nat.ne_of_gt HS.out.1.lt) (by simp)).mono ?_
    · intro N hN
      simp only [List.mem_cons, List.not_mem_nil, or_false] at hN
      unfold IsTk
      omega
    · exact fun i hi => match i, hi with
      | 0, _ => by rw [cell_of_row _ _ _ _ _ _ (MapKept.heap_alloc w1 _).1]; rfl
    rintro e w2 hf
    have HF : Hid (ReadRet b w (evI l) e w2) := fin_read (ow.grown_trans HS.out.2 (ow.grown_below ((Below.refl _ _).alloc (Nat.le_refl _) _))) ev.out hf
    clear hf
    rcases read_end HF.out with ⟨rfl, _⟩ | ⟨T, v, rfl, _⟩
    · go_wp2
      go_end0
      exact HF.out
    · go_wp2
      exact ⟨rfl, HF.out⟩
  by_cases q4 : wd l = [99, 108, 111, 115, 101]
  · have ev : Hid (evI l = evf 4 (runM [17] (rs l) 0 [] [])) := by unfold Hid evI; rw [if_neg hw, if_neg q0, if_neg q1, if_neg q2, if_neg q3, if_pos q4]
    have e0 : ((⟨(wd l).toArray⟩ : ByteArray).toList == [109, 97, 107, 101]) = false := by rw [HD]; exact decide_eq_false q0
    have e1 : ((⟨(wd l).toArray⟩ : ByteArray).toList == [112, 111, 108, 108]) = false := by rw [HD]; exact decide_eq_false q1
    have e2 : ((⟨(wd l).toArray⟩ : ByteArray).toList == [105, 109, 97, 112]) = false := by rw [HD]; exact decide_eq_false q2
    have e3 : ((⟨(wd l).toArray⟩ : ByteArray).toList == [110, 110, 116, 112]) = false := by rw [HD]; exact decide_eq_false q3
    have e4 : ((⟨(wd l).toArray⟩ : ByteArray).toList == [99, 108, 111, 115, 101]) = true := by rw [HD]; exact decide_eq_true q4
    clear h hm hv hw HD q0 q1 q2 q3 q4
    generalize (⟨(wd l).toArray⟩ : ByteArray) = W at HW e0 e1 e2 e3 e4
    go_enter Tryd.func10, Tryd.ntmps10
    go_wp2_with fail
    refine HW.out.mono ?_
    rintro e w1 ⟨rfl, hs⟩
    have HS : Hid (St w b (rs l) 0 0 [] [] w1) := hs
    clear hs HW
    go_wp2_with fail
    refine (fill_any b w1.heap.size [17] 1 (rs l) 4 0 0 [] [] _ (HS.out.1.keep ((Below.refl _ _).alloc (Nat.le_refl _) _)) hrs.out ((HR.out _ HS.out).step (Nat.le_of_lt HS.out.1.lt) (ow.grown_below ((Below.refl _ _).alloc (Nat.le_refl _) _))) (by decide) ?_ ?_ (Nat.ne_of_gt HS.out.1.lt) (by simp)).mono ?_
    · intro N hN
      simp only [List.mem_cons, List.not_mem_nil, or_false] at hN
      unfold IsTk
      omega
    · exact fun i hi => match i, hi with
      | 0, _ => by rw [cell_of_row _ _ _ _ _ _ (MapKept.heap_alloc w1 _).1]; rfl
    rintro e w2 hf
    have HF : Hid (ReadRet b w (evI l) e w2) := fin_read (ow.grown_trans HS.out.2 (ow.grown_below ((Below.refl _ _).alloc (Nat.le_refl _) _))) ev.out hf
    clear hf
    rcases read_end HF.out with ⟨rfl, _⟩ | ⟨T, v, rfl, _⟩
    · go_wp2
      go_end0
      exact HF.out
    · go_wp2
      exact ⟨rfl, HF.out⟩
  by_cases q5 : wd l = [115, 97, 121]
  · have ev : Hid (evI l = evf 3 (runM [17, 18] (rs l) 0 [] [])) := by unfold Hid evI; rw [if_neg hw, if_neg q0, if_neg q1, if_neg q2, if_neg q3, if_neg q4, if_pos q5]
    have e0 : ((⟨(wd l).toArray⟩ : ByteArray).toList == [109, 97, 107, 101]) = false := by rw [HD]; exact decide_eq_false q0
    have e1 : ((⟨(wd l).toArray⟩ : ByteArray).toList == [112, 111, 108, 108]) = false := by rw [HD]; exact decide_eq_false q1
    have e2 : ((⟨(wd l).toArray⟩ : ByteArray).toList == [105, 109, 97, 112]) = false := by rw [HD]; exact decide_eq_false q2
    have e3 : ((⟨(wd l).toArray⟩ : ByteArray).toList == [110, 110, 116, 112]) = false := by rw [HD]; exact decide_eq_false q3
    have e4 : ((⟨(wd l).toArray⟩ : ByteArray).toList == [99, 108, 111, 115, 101]) = false := by rw [HD]; exact decide_eq_false q4
    have e5 : ((⟨(wd l).toArray⟩ : ByteArray).toList == [115, 97, 121]) = true := by rw [HD]; exact decide_eq_true q5
    clear h hm hv hw HD q0 q1 q2 q3 q4 q5
    generalize (⟨(wd l).toArray⟩ : ByteArray) = W at HW e0 e1 e2 e3 e4 e5
    go_enter Tryd.func10, Tryd.ntmps10
    go_wp2_with fail
    refine HW.out.mono ?_
    rintro e w1 ⟨rfl, hs⟩
    have HS : Hid (St w b (rs l) 0 0 [] [] w1) := hs
    clear hs HW
    go_wp2_with fail
    refine (fill_any b w1.heap.size [17, 18] 2 (rs l) 3 0 0 [] [] _ (HS.out.1.keep ((Below.refl _ _).alloc (Nat.le_refl _) _)) hrs.out ((HR.out _ HS.out).step (Nat.le_of_lt HS.out.1.lt) (ow.grown_below ((Below.refl _ _).alloc (Nat.le_refl _) _))) (by decide) ?_ ?_ (Nat.ne_of_gt HS.out.1.lt) (by simp)).mono ?_
    · intro N hN
      simp only [List.mem_cons, List.not_mem_nil, or_false] at hN
      unfold IsTk
      omega
    · exact fun i hi => match i, hi with
      | 0, _ => by rw [cell_of_row _ _ _ _ _ _ (MapKept.heap_alloc w1 _).1]; rfl
      | 1, _ => by rw [cell_of_row _ _ _ _ _ _ (MapKept.heap_alloc w1 _).1]; rfl
    rintro e w2 hf
    have HF : Hid (ReadRet b w (evI l) e w2) := fin_read (ow.grown_trans HS.out.2 (ow.grown_below ((Below.refl _ _).alloc (Nat.le_refl _) _))) ev.out hf
    clear hf
    rcases read_end HF.out with ⟨rfl, _⟩ | ⟨T, v, rfl, _⟩
    · go_wp2
      go_end0
      exact HF.out
    · go_wp2
      exact ⟨rfl, HF.out⟩
  by_cases q6 : wd l = [99, 114, 97, 115, 104]
  · have ev : Hid (evI l = evf 7 (runM ([] : List Nat) (rs l) 0 [] [])) := by unfold Hid evI; rw [if_neg hw, if_neg q0, if_neg q1, if_neg q2, if_neg q3, if_neg q4, if_neg q5, if_pos q6]
    have e0 : ((⟨(wd l).toArray⟩ : ByteArray).toList == [109, 97, 107, 101]) = false := by rw [HD]; exact decide_eq_false q0
    have e1 : ((⟨(wd l).toArray⟩ : ByteArray).toList == [112, 111, 108, 108]) = false := by rw [HD]; exact decide_eq_false q1
    have e2 : ((⟨(wd l).toArray⟩ : ByteArray).toList == [105, 109, 97, 112]) = false := by rw [HD]; exact decide_eq_false q2
    have e3 : ((⟨(wd l).toArray⟩ : ByteArray).toList == [110, 110, 116, 112]) = false := by rw [HD]; exact decide_eq_false q3
    have e4 : ((⟨(wd l).toArray⟩ : ByteArray).toList == [99, 108, 111, 115, 101]) = false := by rw [HD]; exact decide_eq_false q4
    have e5 : ((⟨(wd l).toArray⟩ : ByteArray).toList == [115, 97, 121]) = false := by rw [HD]; exact decide_eq_false q5
    have e6 : ((⟨(wd l).toArray⟩ : ByteArray).toList == [99, 114, 97, 115, 104]) = true := by rw [HD]; exact decide_eq_true q6
    clear h hm hv hw HD q0 q1 q2 q3 q4 q5 q6
    generalize (⟨(wd l).toArray⟩ : ByteArray) = W at HW e0 e1 e2 e3 e4 e5 e6
    go_enter Tryd.func10, Tryd.ntmps10
    go_wp2_with fail
    refine HW.out.mono ?_
    rintro e w1 ⟨rfl, hs⟩
    have HS : Hid (St w b (rs l) 0 0 [] [] w1) := hs
    clear hs HW
    go_wp2_with fail
    refine (fill_nil b (rs l) 7 0 0 [] [] _ HS.out.1 hrs.out (HR.out _ HS.out)).mono ?_
    rintro e w2 hf
    have HF : Hid (ReadRet b w (evI l) e w2) := fin_read HS.out.2 ev.out hf
    clear hf
    rcases read_end HF.out with ⟨rfl, _⟩ | ⟨T, v, rfl, _⟩
    · go_wp2
      go_end0
      exact HF.out
    · go_wp2
      exact ⟨rfl, HF.out⟩
  have ev : Hid (evI l = none) := by unfold Hid evI; rw [if_neg hw, if_neg q0, if_neg q1, if_neg q2, if_neg q3, if_neg q4, if_neg q5, if_neg q6]
  have e0 : ((⟨(wd l).toArray⟩ : ByteArray).toList == [109, 97, 107, 101]) = false := by rw [HD]; exact decide_eq_false q0
  have e1 : ((⟨(wd l).toArray⟩ : ByteArray).toList == [112, 111, 108, 108]) = false := by rw [HD]; exact decide_eq_false q1
  have e2 : ((⟨(wd l).toArray⟩ : ByteArray).toList == [105, 109, 97, 112]) = false := by rw [HD]; exact decide_eq_false q2
  have e3 : ((⟨(wd l).toArray⟩ : ByteArray).toList == [110, 110, 116, 112]) = false := by rw [HD]; exact decide_eq_false q3
  have e4 : ((⟨(wd l).toArray⟩ : ByteArray).toList == [99, 108, 111, 115, 101]) = false := by rw [HD]; exact decide_eq_false q4
  have e5 : ((⟨(wd l).toArray⟩ : ByteArray).toList == [115, 97, 121]) = false := by rw [HD]; exact decide_eq_false q5
  have e6 : ((⟨(wd l).toArray⟩ : ByteArray).toList == [99, 114, 97, 115, 104]) = false := by rw [HD]; exact decide_eq_false q6
  rw [ev.out]
  clear h hm hv hw HD q0 q1 q2 q3 q4 q5 q6
  generalize (⟨(wd l).toArray⟩ : ByteArray) = W at HW e0 e1 e2 e3 e4 e5 e6
  go_enter Tryd.func10, Tryd.ntmps10
  go_wp2_with fail
  refine HW.out.mono ?_
  rintro e w1 ⟨rfl, hs⟩
  have HS : Hid (w.grownBy w1 (some b)) := hs.2
  clear hs HW
  go_wp2
  exact ⟨rfl, ⟨_, _, rfl⟩, HS.out⟩
end Go.Proofs.YtocmcbcijmjlhaaDoor.cn
