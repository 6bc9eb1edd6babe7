/-
  Sets written as a text: plain facts, and the program's way.
-/
import Derived.Test.YtofpnabfecimhaaDoorRgc
import Derived.Test.YtofpnabfecimhaaDoorDig
import Derived.Test.YtofpnabfecimhaaDoorJon
namespace Go.Proofs.YtofpnabfecimhaaDoor.rg
open Go.RowKit
open gr bl
set_option linter.unusedVariables false

/-- An end's text. -/
def nm1 (n : Int) : List UInt8 := if n = 0 then [42] else Lib.decDigits n.toNat
/-- A range's text. -/
def rt (r : Pr) : List UInt8 := if r.1 = r.2 then nm1 r.1 else nm1 r.1 ++ 58 :: nm1 r.2
def txl (ps : List Pr) (k : Nat) : List UInt8 := jn 44 ((ps.take k).map rt)
theorem nm1_len {n : Int} (h : End n) : (nm1 n).length ≤ 10 := by
  unfold nm1
  split
  · simp
  · exact dx.dec_small (by have := h.2; omega)
theorem rt_len {r : Pr} (h0 : End r.1) (h1 : End r.2) : (rt r).length ≤ 21 := by
  have a := nm1_len h0
  have b := nm1_len h1
  unfold rt
  split
  · omega
  · simp; omega
theorem mk_app (a b : List UInt8) : (⟨a.toArray⟩ : ByteArray) ++ ⟨b.toArray⟩ = ⟨(a ++ b).toArray⟩ := by
  apply ByteArray.ext
  rw [ByteArray.data_append]
  simp
theorem jn_snoc (c : UInt8) (V : List (List UInt8)) (x : List UInt8) (h : V ≠ []) : jn c (V ++ [x]) = jn c V ++ (c :: x) := by
  cases V with
  | nil => exact absurd rfl h
  | cons a r => simp [jn, tails]
theorem txl_first (ps : List Pr) (h : 0 < ps.length) : txl ps 1 = rt (ps.getD 0 no) := by
  cases ps with
  | nil => simp at h
  | cons a r => simp [txl, jn, tails]
theorem txl_more (ps : List Pr) (k : Nat) (h0 : 0 < k) (h : k < ps.length) : txl ps (k + 1) = txl ps k ++ (44 :: rt (ps.getD k no)) := by
  have e : ps.getD k no = ps[k] := by simp [List.getD_eq_getElem?_getD, h]
  unfold txl
  rw [List.take_succ_eq_append_getElem h, List.map_append, List.map_singleton, e]
  refine jn_snoc 44 _ _ ?_
  intro y
  have := congrArg List.length y
  rw [List.length_map, List.length_take, List.length_nil] at this
  omega
theorem txl_len (ps : List Pr) : ∀ k, k ≤ ps.length → EndsTo ps k → (txl ps k).length ≤ 22 * k
  | 0, _, _ => by simp [txl, jn]
  | k + 1, hk, he => by
    have ih := txl_len ps k (by omega) (fun j hj => he j (by omega))
    obtain ⟨e0, e1⟩ := he k (by omega)
    have hr := rt_len e0 e1
    by_cases h0 : k = 0
    · subst h0
      rw [txl_first ps (by omega)]
      omega
    · rw [txl_more ps k (by omega) (by omega), List.length_append, List.length_cons]
      omega

set_option maxRecDepth 100000 in
theorem endText_any (n : Int) (h : End n) (w : World) (hT : tb.TP w) : Calls Tryd.prog 45 #[.int .i64 n] w fun e w' => e = .returned (.string ⟨(nm1 n).toArray⟩) ∧ Below w.heap.size w w' := by
  by_cases h0 : n = 0
  · subst h0
    clear hT
    go_enter Tryd.func45, Tryd.ntmps45
    go_wp2
    go_ret
    exact ⟨rfl, Below.refl _ _⟩
  · have hb : (n == 0) = false := by simpa using h0
    obtain ⟨m, rfl⟩ : ∃ m : Nat, n = m := ⟨n.toNat, by have := h.1; omega⟩
    have HE : Hid (nm1 (m : Int) = Lib.decDigits m) := by unfold nm1; rw [if_neg h0]; rfl
    have HC : Hid (Calls Tryd.prog 61 #[.int .i64 (m : Int)] w fun e w' => e = .returned (.string ⟨(Lib.decDigits m).toArray⟩) ∧ Below w.heap.size w w') := dx.itoa_any m (by have := h.2; omega) w hT
    clear h h0 hT
    rw [HE.out]
    go_enter Tryd.func45, Tryd.ntmps45
    go_wp2_with fail
    refine HC.out.mono ?_
    rintro e w1 ⟨rfl, b1⟩
    go_wp2
    go_ret
    exact ⟨rfl, b1⟩
set_option maxHeartbeats 2000000 in
set_option maxRecDepth 100000 in
theorem text_any (x0 x1 : Int) (h0 : End x0) (h1 : End x1) (w : World) (hT : tb.TP w) : Calls Tryd.prog 28 #[.agg #[.int .i64 x0, .int .i64 x1]] w fun e w' => e = .returned (.string ⟨(rt (x0, x1)).toArray⟩) ∧ Below w.heap.size w w' := by
  have b0 := new_below w 38 #[.int .i64 x0, .int .i64 x1]
  have hT0 := tb.keep' hT b0
  have k3 : (w.alloc (.cells #[.int .i64 x0, .int .i64 x1] 38)).cell? ⟨w.heap.size, 0, none⟩ = some (.int .i64 x0) := by
    rw [cell_of_row _ _ _ _ _ _ (MapKept.heap_alloc w _).1]; rfl
  have k4 : (w.alloc (.cells #[.int .i64 x0, .int .i64 x1] 38)).cell? ⟨w.heap.size, 0 + 1, none⟩ = some (.int .i64 x1) := by
    rw [cell_of_row _ _ _ _ _ _ (MapKept.heap_alloc w _).1]; rfl
  by_cases he : x0 = x1
  · subst he
    have HE : Hid (rt (x0, x0) = nm1 x0) := if_pos rfl
    have hb : (x0 == x0) = true := by simp
    rw [HE.out]
    go_enter Tryd.func28, Tryd.ntmps28
    go_wp2_with fail
    generalize w.alloc _ = w0 at b0 hT0 k3 k4 ⊢
    refine (endText_any x0 h0 w0 hT0).mono ?_
    rintro e w1 ⟨rfl, b1⟩
    have b2 := b0.trans (b1.mono b0.size)
    clear hT0 hT k3 k4
    go_wp2
    go_ret
    exact ⟨rfl, b2⟩
  · have HE : Hid ((⟨(rt (x0, x1)).toArray⟩ : ByteArray) = (⟨(nm1 x0).toArray⟩ ++ ⟨#[58]⟩) ++ ⟨(nm1 x1).toArray⟩) := by
      have e : (⟨#[58]⟩ : ByteArray) = ⟨([58] : List UInt8).toArray⟩ := rfl
      show (⟨(rt (x0, x1)).toArray⟩ : ByteArray) = _
      rw [e, mk_app, mk_app]
      unfold rt
      rw [if_neg he]
      simp
    have hb : (x0 == x1) = false := by simpa using he
    rw [HE.out]
    obtain ⟨en, hen⟩ : ∃ en : Int → ByteArray, ∀ n, en n = ⟨(nm1 n).toArray⟩ := ⟨_, fun n => rfl⟩
    rw [← hen x0, ← hen x1]
    have hs0 : (en x0).size ≤ 10 := by rw [hen, Lib.size_eq]; exact nm1_len h0
    have hs1 : (en x1).size ≤ 10 := by rw [hen, Lib.size_eq]; exact nm1_len h1
    have f0 : (9223372036854775807 < (en x0).size + 1) = False := eq_false (by omega)
    have f1 : (9223372036854775807 < (en x0).size + 1 + (en x1).size) = False := eq_false (by omega)
    have hEnd : End x0 ∧ End x1 := ⟨h0, h1⟩
    go_enter Tryd.func28, Tryd.ntmps28
    go_wp2_with fail
    generalize w.alloc _ = w0 at b0 hT0 k3 k4 ⊢
    have HC : Hid (∀ (n : Int) (x : Ext w0), End n → Calls Tryd.prog 45 #[.int .i64 n] (gw x) fun e w' => e = .returned (.string (en n)) ∧ Below (gw x).heap.size (gw x) w') := fun n x hn => by rw [hen]; exact endText_any n hn _ (tb.keep' hT0 (gw_below x))
    clear hen HE hT hT0 he
    have ne := ext_some w0
    have k3 := fun z : Ext w0 => gw_cell z k3
    have k4 := fun z : Ext w0 => gw_cell z k4
    refine region_lit (by kernel_rfl) (by kernel_rfl) ?_
    repeat (go_big_quiet_step ((go_at_call 45; exact grow_of (HC.out _ _ (by assumption)))))
    refine wpQuiet_nil ?_
    rintro W' ⟨z, rfl⟩
    have b3 := b0.trans ((gw_below z).mono b0.size)
    generalize gw z = W' at b3 ⊢
    clear k3 k4 HC
    go_wp2
    go_ret
    exact ⟨rfl, b3⟩
end Go.Proofs.YtofpnabfecimhaaDoor.rg
