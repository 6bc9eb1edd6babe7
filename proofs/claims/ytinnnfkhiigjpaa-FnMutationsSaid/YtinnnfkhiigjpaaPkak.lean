/-
  The contract of the specification's parting of a text at each blank: a list of its parts, which the call made.
  Contracts of both HeaderNameOK functions: whether a text is a field's name.
  Contracts of both FoldHeader functions: a field in lines.
  Contracts of both FoldHeader functions, whole.
  Plain facts on texts in one line: runs of blanks are one blank, none at an end; such a text stays as it is.
-/
import Derived.Test.YtinnnfkhiigjpaaPkaa
import Derived.Test.YtinnnfkhiigjpaaPkaf
import Derived.Test.YtinnnfkhiigjpaaRows
import Derived.WalkKit
import Derived.WalkLawsBesides
import Derived.Laws.AppendOwn
import Derived.Lib.FieldsLaws
import Derived.Test.YtinnnfkhiigjpaaPkaj
import Derived.Test.YtinnnfkhiigjpaaPkah
import Derived.Test.YtinnnfkhiigjpaaPkai
import Derived.Shelf.Lay
import Derived.Shelf.LaySoft
import Derived.Test.YtinnnfkhiigjpaaProg

namespace Go.Proofs.Ytinnnfkhiigjpaa.hd
open Go.RowKit
set_option linter.unusedVariables false

theorem infoStr : (Try.prog.info? 9).map (fun i => (i.zero, i.size, i.bytes)) = some (some (.string ByteArray.empty), 1, 16) := by kernel_rfl
/-- A text as a value. -/
def tv (l : List UInt8) : Value := .string ⟨l.toArray⟩
def piece (s : ByteArray) (f i : Nat) : List UInt8 := (s.data.toList.drop f).take (i - f)
theorem tv_piece (s : ByteArray) (f i : Nat) : tv (piece s f i) = .string (s.extract f i) := by
  unfold tv piece
  congr 1
  apply ByteArray.ext
  rw [← Array.toList_inj]
  show (List.take _ _).toArray.toList = _
  rw [List.toList_toArray, ← Lib.toList_data (s.extract f i), Lib.extract_toList]
theorem drop_at (s : ByteArray) (i : Nat) (h : i < s.size) : s.data.toList.drop i = s[i] :: s.data.toList.drop (i + 1) := by
  rw [List.drop_eq_getElem_cons (by simpa using h)]
  rfl
theorem cut_blank {s : ByteArray} {f i : Nat} {ws : List (List UInt8)} (h : ws ++ cutGo (piece s f i) (s.data.toList.drop i) = cutGo [] s.data.toList) (hi : i < s.size) (hb : (s[i]'hi).toNat = 32) :
    (ws ++ [piece s f i]) ++ cutGo (piece s (i + 1) (i + 1)) (s.data.toList.drop (i + 1)) = cutGo [] s.data.toList := by
  rw [drop_at s i hi, cutGo, if_pos hb] at h
  rw [← h, show piece s (i + 1) (i + 1) = [] from by simp [piece], List.append_assoc]
  rfl
theorem cut_sign {s : ByteArray} {f i : Nat} {ws : List (List UInt8)} (h : ws ++ cutGo (piece s f i) (s.data.toList.drop i) = cutGo [] s.data.toList) (hf : f ≤ i) (hi : i < s.size) (hb : (s[i]'hi).toNat ≠ 32) :
    ws ++ cutGo (piece s f (i + 1)) (s.data.toList.drop (i + 1)) = cutGo [] s.data.toList := by
  rw [drop_at s i hi, cutGo, if_neg hb] at h
  rw [← h, show piece s f (i + 1) = piece s f i ++ [s[i]] from Lib.piece_more hf (by rw [List.getElem?_eq_getElem (by simpa using hi)]; rfl)]
theorem cut_end {s : ByteArray} {f i : Nat} {ws : List (List UInt8)} (h : ws ++ cutGo (piece s f i) (s.data.toList.drop i) = cutGo [] s.data.toList) (hi : s.size ≤ i) : ws ++ [piece s f i] = cutGo [] s.data.toList := by
  rw [List.drop_eq_nil_of_le (by rw [← Lib.size_eq]; exact hi)] at h
  exact h

set_option maxHeartbeats 2000000 in
set_option maxRecDepth 100000 in
theorem cut_any (s : ByteArray) (w : World) (hs : s.size ≤ 1048576) :
    Calls Try.prog 48 #[.string s, .int .u8 32] w fun e w' => ∃ v, e = .returned v ∧ w'.ownsRow w.heap.size 9 1 v (cutGo [] s.data.toList).length ((cutGo [] s.data.toList).map tv) ∧ Below w.heap.size w w' := by
  obtain ⟨i0, hi, hz0, hz1, hz2⟩ := info_parts infoStr
  go_enter Try.func48, Try.ntmps48
  go_wp2
  go_loopw [5, 6, 7] (fun v a b wr => ∃ (f i : Nat) (ws : List (List UInt8)), f ≤ i ∧ i ≤ s.size ∧ a = .int .i64 f ∧ b = .int .i64 i ∧ ws.length ≤ i ∧ wr.ownsRow w.heap.size 9 1 v ws.length (ws.map tv) ∧ Below w.heap.size w wr ∧ ws ++ cutGo (piece s f i) (s.data.toList.drop i) = cutGo [] s.data.toList) (fun _ _ b _ => s.size - (intOf b).toNat)
  case atStart => exact ⟨0, 0, [], Nat.le_refl _, Nat.zero_le _, rfl, rfl, Nat.le_refl _, ow.own_empty w _, (Below.refl _ _).alloc (Nat.le_refl _) _, rfl⟩
  case round =>
    obtain ⟨f, i, ws, hfi, his, rfl, rfl, hwl, hown, hbw, hc⟩ := hrel
    have HC : Hid (ws ++ cutGo (piece s f i) (s.data.toList.drop i) = cutGo [] s.data.toList) := hc
    clear hc
    have hBs := hbw.size
    have c1 : (0 : Int) ≤ (f : Int) := by omega
    have c2 : (f : Int) ≤ (i : Int) := by omega
    have c3 : (i : Int) ≤ (s.size : Int) := by omega
    by_cases hlt : i < s.size
    · by_cases hb : (s[i]'hlt).toNat = 32
      · have d1 : (((s[i]'hlt).toNat : Int) == 32) = true := beq_iff_eq.2 (by omega)
        have HB : Hid ((s[i]'hlt).toNat = 32) := hb
        clear hb
        go_wp2_with (at_builtin; refine wpList_append_own _ rfl _ _ 64 rfl w.heap.size 9 i0 (.string ByteArray.empty) 1 16 Try.underlying64 hi hz0 hz1 hz2 rfl (by decide) _ _ _ rfl (hown.alloc _) ⟨wr.heap.size, 0, none⟩ 1 1 [.string (s.extract f i)] rfl rfl (ow.cells_new _ [.string (s.extract f i)] _) (by intro u hu; simp at hu; subst hu; rfl) (by unfold maxLen; omega) (by omega) (by simp; omega) ?_; intro v' w3 hown3 hgrow3 hnil3)
        have hb3 := Below.grown (hbw.alloc hBs _) hgrow3 (by simp; omega) (ow.own_lt hown)
        have HA : Hid (w3.ownsRow w.heap.size 9 1 v' (ws ++ [piece s f i]).length ((ws ++ [piece s f i]).map tv) ∧ Below w.heap.size w w3) := ⟨by rw [List.map_append, List.map_cons, tv_piece, List.length_append]; exact hown3, hb3⟩
        clear hown3 hgrow3 hnil3 hb3 hown hbw
        go_wp2
        go_roundw
        case rel => exact ⟨i + 1, i + 1, ws ++ [piece s f i], Nat.le_refl _, by omega, by go_num, by go_num, by simp; omega, HA.out.1, HA.out.2, cut_blank HC.out hlt HB.out⟩
        case measure => simp [intOf]; omega
      · have d1 : (((s[i]'hlt).toNat : Int) == 32) = false := beq_eq_false_iff_ne.2 (by omega)
        go_wp2
        go_roundw
        case rel => exact ⟨f, i + 1, ws, by omega, by omega, rfl, by go_num, by omega, hown, hbw, cut_sign HC.out hfi hlt hb⟩
        case measure => simp [intOf]; omega
    · have c4 : (f : Int) ≤ (s.size : Int) := by omega
      go_wp2_with (at_builtin; refine wpList_append_own _ rfl _ _ 64 rfl w.heap.size 9 i0 (.string ByteArray.empty) 1 16 Try.underlying64 hi hz0 hz1 hz2 rfl (by decide) _ _ _ rfl (hown.alloc _) ⟨wr.heap.size, 0, none⟩ 1 1 [.string (s.extract f s.size)] rfl rfl (ow.cells_new _ [.string (s.extract f s.size)] _) (by intro u hu; simp at hu; subst hu; rfl) (by unfold maxLen; omega) (by omega) (by simp; omega) ?_; intro v' w3 hown3 hgrow3 hnil3)
      have hb3 := Below.grown (hbw.alloc hBs _) hgrow3 (by simp; omega) (ow.own_lt hown)
      have HA : Hid (w3.ownsRow w.heap.size 9 1 v' (cutGo [] s.data.toList).length ((cutGo [] s.data.toList).map tv) ∧ Below w.heap.size w w3) := by
        have e : i = s.size := by omega
        have hc := cut_end HC.out (by omega)
        rw [← hc, List.map_append, List.map_cons, tv_piece, List.length_append, e]
        exact ⟨hown3, hb3⟩
      clear hown3 hgrow3 hnil3 hb3 hown hbw HC
      go_wp2
      go_ret
      exact ⟨v', rfl, HA.out⟩
end Go.Proofs.Ytinnnfkhiigjpaa.hd

namespace Go.Proofs.Ytinnnfkhiigjpaa.hn
open Go.RowKit
set_option linter.unusedVariables false

def Says (p : Prop) (e : Ending) : Prop := ∃ b : Bool, e = .returned (.bool b) ∧ (b = true ↔ p)
theorem says_no {p : Prop} (h : ¬ p) : Says p (.returned (.bool false)) := ⟨false, rfl, fun x => (by cases x), fun x => absurd x h⟩
theorem says_yes {p : Prop} (h : p) : Says p (.returned (.bool true)) := ⟨true, rfl, fun _ => h, fun _ => rfl⟩
theorem says_ex {p : Prop} {e : Ending} (h : Says p e) : ∃ b : Bool, e = .returned (.bool b) := ⟨h.choose, h.choose_spec.1⟩
theorem says_same {p : Prop} {a b : Bool} (h1 : Says p (.returned (.bool a))) (h2 : Says p (.returned (.bool b))) : a = b := by
  obtain ⟨x, hx, h1⟩ := h1
  obtain ⟨y, hy, h2⟩ := h2
  cases hx; cases hy
  exact Bool.eq_iff_iff.2 (h1.trans h2.symm)
theorem says_iff {p : Prop} {b : Bool} (h : Says p (.returned (.bool b))) : b = true ↔ p := by
  obtain ⟨x, hx, h⟩ := h
  cases hx
  exact h

/-- The byte at a place may stand in a field's name. -/
def good (s : ByteArray) (j : Nat) : Prop := ∃ h : j < s.size, 33 ≤ ((s[j]'h).toNat : Int) ∧ ((s[j]'h).toNat : Int) ≤ 126 ∧ ((s[j]'h).toNat : Int) ≠ 58
/-- A text is a field's name. -/
def IsName (s : ByteArray) : Prop := 1 ≤ s.size ∧ s.size ≤ 40 ∧ ∀ j, j < s.size → good s j
theorem not_name {s : ByteArray} {k : Nat} (h : k < s.size) (hb : ((s[k]'h).toNat : Int) < 33 ∨ 126 < ((s[k]'h).toNat : Int) ∨ ((s[k]'h).toNat : Int) = 58) : ¬ IsName s := by
  rintro ⟨_, _, hg⟩
  obtain ⟨h', h1, h2, h3⟩ := hg k h
  omega
theorem no_size {s : ByteArray} (h : s.size = 0 ∨ 40 < s.size) : ¬ IsName s := fun x => by have h1 := x.1; have h2 := x.2.1; omega
theorem step {s : ByteArray} {k : Nat} (hg : ∀ j, j < k → good s j) (h : k < s.size) (hx : 33 ≤ ((s[k]'h).toNat : Int)) (hx2 : ((s[k]'h).toNat : Int) ≤ 126) (hx3 : ((s[k]'h).toNat : Int) ≠ 58) : ∀ j, j < k + 1 → good s j := by
  intro j hj
  by_cases e : j = k
  · subst e; exact ⟨h, hx, hx2, hx3⟩
  · exact hg j (by omega)


def inB (n a b : Int) : Bool := decide (a ≤ n ∧ n ≤ b)
set_option maxHeartbeats 400000 in
theorem in_any (n a b : Int) (w : World) : Calls Try.prog 28 #[.int .i64 n, .int .i64 a, .int .i64 b] w fun e w' => e = .returned (.bool (inB n a b)) ∧ w' = w := by
  by_cases h : a ≤ n
  · go_enter Try.func28, Try.ntmps28
    go_wp2
    all_goals (go_ret; exact ⟨by simp [inB, h], rfl⟩)
  · have h' : decide (a ≤ n) = false := decide_eq_false h
    go_enter Try.func28, Try.ntmps28
    go_wp2
    all_goals (go_ret; exact ⟨by rw [show inB n a b = false from decide_eq_false (by omega)]; rfl, rfl⟩)
theorem in_yes {n a b : Int} (h : a ≤ n) (h' : n ≤ b) : inB n a b = true := decide_eq_true ⟨h, h'⟩
theorem in_no {n a b : Int} (h : n < a ∨ b < n) : inB n a b = false := decide_eq_false (by omega)

end Go.Proofs.Ytinnnfkhiigjpaa.hn

namespace Go.Proofs.Ytinnnfkhiigjpaa.hf
open Go.RowKit
open Go.Proofs.Ytinnnfkhiigjpaa.hd (cutGo foldGo foldL words tv Safe)
set_option linter.unusedVariables false

theorem row_at {w : World} {base n : Nat} {v : Value} {ws : List (List UInt8)} (h : w.ownsRow base 9 1 v n (ws.map tv)) (k : Nat) (hk : k < n) : ∃ g cap x, v = .slice (some ⟨g, 0, none⟩) n cap ∧ n ≤ cap ∧ ws[k]? = some x := by
  have hl : ws.length = n := by have := h.1; simpa using this
  rcases h.2 with ⟨_, h0⟩ | ⟨g, cap, cur, hv, _, _, hc, _⟩
  · omega
  · exact ⟨g, cap, ws[k]'(by omega), hv, hc, List.getElem?_eq_getElem (by omega)⟩
theorem row_cell {w : World} {base n g cap : Nat} {ws : List (List UInt8)} {x : List UInt8} (h : w.ownsRow base 9 1 (.slice (some ⟨g, 0, none⟩) n cap) n (ws.map tv)) (k : Nat) (hk : ws[k]? = some x) : w.cell? ⟨g, k, none⟩ = some (.string ⟨x.toArray⟩) := by
  have := h.cells (g := g) rfl k (tv x) (by rw [List.getElem?_map, hk]; rfl)
  rwa [ow.add_at] at this
theorem step_yes {ws : List (List UInt8)} {k wd : Nat} {x out tot : List UInt8} (hk : ws[k]? = some x) (h0 : k ≠ 0) (h : 78 < wd + 1 + x.length) (H : out ++ foldGo (decide (k = 0)) wd (ws.drop k) = tot) : (out ++ [13, 10] ++ ([32] ++ x)) ++ foldGo (decide (k + 1 = 0)) (0 + (1 + x.length)) (ws.drop (k + 1)) = tot := by
  rw [Lib.drop_at hk, show decide (k = 0) = false from decide_eq_false h0, hd.foldGo_yes _ h] at H
  rw [← H, Nat.zero_add]
  simp
theorem step_no {ws : List (List UInt8)} {k wd : Nat} {x out tot : List UInt8} (hk : ws[k]? = some x) (h : k = 0 ∨ wd + 1 + x.length ≤ 78) (H : out ++ foldGo (decide (k = 0)) wd (ws.drop k) = tot) : (out ++ ([32] ++ x)) ++ foldGo (decide (k + 1 = 0)) (wd + (1 + x.length)) (ws.drop (k + 1)) = tot := by
  rw [Lib.drop_at hk, hd.foldGo_no _ (h.imp (fun e => decide_eq_true e) id)] at H
  rw [← H, ← Nat.add_assoc]
  simp
theorem step_end {ws : List (List UInt8)} {k wd : Nat} {f : Bool} {out tot : List UInt8} (hk : ws.length ≤ k) (H : out ++ foldGo f wd (ws.drop k) = tot) : out = tot := by
  rw [List.drop_eq_nil_of_le hk] at H
  simpa [foldGo] using H

set_option maxHeartbeats 4000000 in
set_option maxRecDepth 100000 in
theorem specFold_any (nm s : ByteArray) (w : World) (hm : nm.size ≤ 40) (hs : s.size ≤ 2000) :
    Calls Try.prog 40 #[.string nm, .string s] w fun e w' => (∃ r : ByteArray, e = .returned (.string r) ∧ r.data.toList = foldL nm.data.toList s.data.toList) ∧ Below w.heap.size w w' := by
  have hcl := hd.cutGo_len s.data.toList []
  rw [← Lib.size_eq] at hcl
  have HX : Hid (∀ x ∈ cutGo [] s.data.toList, x.length ≤ 2000) := fun x hx => by
    have := hd.cutGo_mem _ _ _ hx
    rw [← Lib.size_eq] at this
    simp at this
    omega
  have hm' : (nm.size : Int) ≤ 40 := by omega
  go_enter Try.func40, Try.ntmps40
  go_wp2_with fail
  refine (hd.cut_any s _ (by omega)).mono ?_
  rintro e w1 ⟨v, rfl, own, hb1⟩
  obtain ⟨ws, hws⟩ : ∃ ws, ws = cutGo [] s.data.toList := ⟨_, rfl⟩
  rw [← hws] at own hcl HX
  have HW : Hid (ws = cutGo [] s.data.toList) := hws
  clear hws
  obtain ⟨n, hn⟩ : ∃ n, n = ws.length := ⟨_, rfl⟩
  have hn2 : n ≤ 2001 := by simp at hcl; omega
  rw [← hn] at own
  have HN : Hid (n = ws.length) := hn
  clear hn hcl
  obtain ⟨ao, cap, rfl⟩ : ∃ ao cap, v = .slice ao n cap := by
    rcases own.2 with ⟨hv, h0⟩ | ⟨g, cap, cur, hv, _⟩
    · exact ⟨none, 0, by rw [hv, h0]⟩
    · exact ⟨_, cap, hv⟩
  obtain ⟨tot, htot⟩ : ∃ tot, tot = nm.data.toList ++ [58] ++ foldGo true (nm.data.toList.length + 1) ws := ⟨_, rfl⟩
  have HTOT : Hid (tot = nm.data.toList ++ [58] ++ foldGo true (nm.data.toList.length + 1) ws) := htot
  clear htot
  go_wp2
  go_loopw [5, 6, 8] (fun o b i wr => ∃ (k wd : Nat) (out : ByteArray), k ≤ n ∧ i = .int .i64 k ∧ o = .string out ∧ b = .int .i64 wd ∧ wd ≤ 41 + k * 2001 ∧ out.size ≤ 41 + k * 2003 ∧ wr.ownsRow w.heap.size 9 1 (.slice ao n cap) n (ws.map tv) ∧ Below w.heap.size w wr ∧ Hid (out.data.toList ++ foldGo (decide (k = 0)) wd (ws.drop k) = tot)) (fun _ _ i _ => n - (intOf i).toNat)
  case atStart =>
    refine ⟨0, nm.size + 1, nm ++ { data := #[58] }, Nat.zero_le _, rfl, rfl, by go_num, by omega, by rw [ByteArray.size_append]; show _ + 1 ≤ _; omega, own, hb1, ?_⟩
    rw [HTOT.out, Lib.size_eq]
    simp
    exact (trivial : True)
  case round =>
    obtain ⟨k, wd, out, hk, rfl, rfl, rfl, hwd, ho, hown, hbw, HD⟩ := hrel
    by_cases hlt : k < n
    · obtain ⟨g, cap', x, hv, hnc, hx⟩ := row_at hown k hlt
      cases hv
      have hc0 := row_cell hown k hx
      have hxl : x.length ≤ 2000 := HX.out x (List.mem_of_getElem? hx)
      have hlt' : (k : Int) < (n : Int) := by omega
      obtain ⟨X, hX⟩ : ∃ X : ByteArray, X = ⟨x.toArray⟩ := ⟨_, rfl⟩
      have hXz : X.size = x.length := by rw [hX, Lib.size_eq]
      have hXs : X.size ≤ 2000 := by omega
      have hXs' : (X.size : Int) ≤ 2000 := by omega
      have hXl : X.data.toList = x := by rw [hX]
      rw [← hX] at hc0
      have HXL : Hid (X.data.toList = x ∧ X.size = x.length) := ⟨hXl, hXz⟩
      have HK : Hid (ws[k]? = some x) := hx
      clear hX hXl hx hXz
      have hos : (out.size : Int) ≤ 5000000 := by omega
      have hwd' : (wd : Int) ≤ 5000000 := by omega
      by_cases hk0 : k = 0
      · have d0 : decide (0 < k) = false := decide_eq_false (by omega)
        have d1 : decide ((0 : Int) < (k : Int)) = false := decide_eq_false (by omega)
        have HK0 : Hid (k = 0) := hk0
        clear hk0
        go_wp2
        go_roundw
        case rel =>
          refine ⟨k + 1, wd + (1 + X.size), out ++ ({ data := #[32] } ++ X), by omega, by go_num, rfl, by go_num, by omega, by rw [ByteArray.size_append, ByteArray.size_append]; show _ + (1 + _) ≤ _; omega, hown, hbw, ?_⟩
          have := step_no HK.out (.inl HK0.out) HD.out
          rw [HXL.out.2, ← this, ← HXL.out.1]
          simp
          exact (trivial : True)
        case measure => simp [intOf]; omega
      have d0 : decide (0 < k) = true := decide_eq_true (by omega)
      have d1 : (0 : Int) < (k : Int) := by omega
      by_cases hf : 78 < wd + 1 + X.size
      · have f1 : (78 : Int) < (wd : Int) + 1 + (X.size : Int) := by omega
        go_wp2
        go_roundw
        case rel =>
          refine ⟨k + 1, 0 + (1 + X.size), out ++ { data := #[13, 10] } ++ ({ data := #[32] } ++ X), by omega, by go_num, rfl, by go_num, by omega, by rw [ByteArray.size_append, ByteArray.size_append, ByteArray.size_append]; show _ + 2 + (1 + _) ≤ _; omega, hown, hbw, ?_⟩
          have := step_yes HK.out hk0 (by rw [← HXL.out.2]; exact hf) HD.out
          rw [HXL.out.2, ← this, ← HXL.out.1]
          simp
          exact (trivial : True)
        case measure => simp [intOf]; omega
      · have f1 : (wd : Int) + 1 + (X.size : Int) ≤ 78 := by omega
        go_wp2
        go_roundw
        case rel =>
          refine ⟨k + 1, wd + (1 + X.size), out ++ ({ data := #[32] } ++ X), by omega, by go_num, rfl, by go_num, by omega, by rw [ByteArray.size_append, ByteArray.size_append]; show _ + (1 + _) ≤ _; omega, hown, hbw, ?_⟩
          have := step_no HK.out (.inr (by rw [← HXL.out.2]; omega)) HD.out
          rw [HXL.out.2, ← this, ← HXL.out.1]
          simp
          exact (trivial : True)
        case measure => simp [intOf]; omega
    · have hge : (n : Int) ≤ (k : Int) := by omega
      have hos : (out.size : Int) ≤ 5000000 := by omega
      go_wp2
      go_ret
      refine ⟨⟨out ++ { data := #[13, 10] }, rfl, ?_⟩, hbw⟩
      have := step_end (by have := HN.out; omega) HD.out
      unfold foldL
      rw [← HW.out, ← HTOT.out, ← this]
      simp
end Go.Proofs.Ytinnnfkhiigjpaa.hf

namespace Go.Proofs.Ytinnnfkhiigjpaa.hf
open Go.RowKit
open Go.Proofs.Ytinnnfkhiigjpaa.hd (cutGo foldGo foldL words tv)
set_option linter.unusedVariables false

/-- What both FoldHeader functions answer. -/
def FhRet (nm s : ByteArray) (e : Ending) : Prop :=
  ((65536 < nm.size ∨ 65536 < s.size) ∧ e = .returned (.tuple #[.string ⟨#[]⟩, .int .i64 2])) ∨
  (nm.size ≤ 65536 ∧ s.size ≤ 65536 ∧ ¬ (hn.IsName nm ∧ hd.Safe s.data.toList) ∧ e = .returned (.tuple #[.string ⟨#[]⟩, .int .i64 1])) ∨
  (nm.size ≤ 65536 ∧ s.size ≤ 65536 ∧ (hn.IsName nm ∧ hd.Safe s.data.toList) ∧ ∃ r : ByteArray, r.data.toList = foldL nm.data.toList s.data.toList ∧ e = .returned (.tuple #[.string r, .int .i64 0]))
theorem fh_ex {nm s : ByteArray} {e : Ending} (h : FhRet nm s e) : ∃ (r : ByteArray) (c : Int), e = .returned (.tuple #[.string r, .int .i64 c]) := by
  rcases h with ⟨_, rfl⟩ | ⟨_, _, _, rfl⟩ | ⟨_, _, _, r, _, rfl⟩ <;> exact ⟨_, _, rfl⟩
theorem fh_same {nm s r r' : ByteArray} {c c' : Int} (h : FhRet nm s (.returned (.tuple #[.string r, .int .i64 c]))) (h' : FhRet nm s (.returned (.tuple #[.string r', .int .i64 c']))) : r = r' ∧ c = c' := by
  rcases h with ⟨a, h⟩ | ⟨a, a1, a2, h⟩ | ⟨a, a1, a2, q, hq, h⟩ <;>
  rcases h' with ⟨b, h'⟩ | ⟨b, b1, b2, h'⟩ | ⟨b, b1, b2, q', hq', h'⟩ <;>
  cases h <;> cases h' <;>
  first | exact ⟨rfl, rfl⟩ | exact ⟨ByteArray.ext (Array.toList_inj.1 (hq.trans hq'.symm)), rfl⟩ | (exfalso; omega) | (exfalso; exact a2 b2) | (exfalso; exact b2 a2)
theorem name_true {p : Prop} {e : Ending} (h : hn.Says p e) (hp : p) : e = .returned (.bool true) := by
  obtain ⟨b, rfl, hb⟩ := h
  rw [hb.2 hp]
theorem name_false {p : Prop} {e : Ending} (h : hn.Says p e) (hp : ¬ p) : e = .returned (.bool false) := by
  obtain ⟨b, rfl, hb⟩ := h
  cases b
  · rfl
  · exact absurd (hb.1 rfl) hp

theorem empty_iff (s : ByteArray) : s.toList.isEmpty = decide (s.size = 0) := by
  rw [Bool.eq_iff_iff, List.isEmpty_iff, decide_eq_true_iff]
  refine ⟨fun h => ?_, fun h => ?_⟩
  · have := Lib.size_eq s; rw [← Lib.toList_data, h] at this; exact this
  · have := Lib.size_eq s; rw [h] at this; rw [Lib.toList_data]; exact List.eq_nil_of_length_eq_zero this.symm
theorem fold_empty (nm : List UInt8) (wd : Nat) (f : Bool) : (nm ++ [58] ++ [32]) ++ foldGo f wd (words []) = nm ++ [58] ++ foldGo true (nm.length + 1) (cutGo [] []) := by
  simp [words, cutGo, foldGo]
theorem fold_some (nm l : List UInt8) (h : l ≠ []) : (nm ++ [58]) ++ foldGo (decide (0 = 0)) (nm ++ [58]).length ((words l).drop 0) = nm ++ [58] ++ foldGo true (nm.length + 1) (cutGo [] l) := by
  rw [words, if_neg h]
  simp

end Go.Proofs.Ytinnnfkhiigjpaa.hf

namespace Go.Proofs.Ytinnnfkhiigjpaa.li
set_option linter.unusedVariables false

def blk (c : UInt8) : Bool := c == 9 || c == 10 || c == 13 || c == 32
/-- What was told so far, and whether the last byte was a blank. -/
def step (x : List UInt8 × Bool) (c : UInt8) : List UInt8 × Bool :=
  if blk c then (x.1, true) else (if x.1.isEmpty = false && x.2 then x.1 ++ [32, c] else x.1 ++ [c], false)
def one (b : Bool) : Nat := cond b 1 0
def st (l : List UInt8) : List UInt8 × Bool := l.foldl step ([], false)
/-- A text in one line. -/
def line (l : List UInt8) : List UInt8 := (st l).1
theorem st_snoc (l : List UInt8) (c : UInt8) : st (l ++ [c]) = step (st l) c := by simp [st]
theorem step_blank {c : UInt8} (x : List UInt8 × Bool) (h : blk c = true) : step x c = (x.1, true) := by simp [step, h]
theorem step_other {c : UInt8} (x : List UInt8 × Bool) (h : blk c = false) : step x c = (if x.1.isEmpty = false && x.2 then x.1 ++ [32, c] else x.1 ++ [c], false) := by simp [step, h]
theorem step_two {c : UInt8} {x : List UInt8 × Bool} (h : blk c = false) (h1 : x.1 ≠ []) (h2 : x.2 = true) : step x c = (x.1 ++ [32, c], false) := by
  rw [step_other x h, if_pos]
  simp [h2, h1]
theorem step_one {c : UInt8} {x : List UInt8 × Bool} (h : blk c = false) (h1 : x.1 = [] ∨ x.2 = false) : step x c = (x.1 ++ [c], false) := by
  rw [step_other x h, if_neg]
  rcases h1 with h1 | h1 <;> simp [h1]
theorem step_prev (x : List UInt8 × Bool) (c : UInt8) : (step x c).2 = blk c := by
  cases h : blk c
  · rw [step_other x h]
  · rw [step_blank x h]
theorem step_len (x : List UInt8 × Bool) (c : UInt8) : (step x c).1.length + one (step x c).2 ≤ x.1.length + one x.2 + 1 := by
  cases h : blk c
  · by_cases h1 : x.1 ≠ [] ∧ x.2 = true
    · rw [step_two h h1.1 h1.2]; simp [h1.2, one]
    · rw [step_one h (by by_cases e : x.1 = []; exact .inl e; right; simpa [e] using h1)]; simp [one]
  · rw [step_blank x h]; simp [one]
theorem st_len (l : List UInt8) : ∀ x, (l.foldl step x).1.length + one (l.foldl step x).2 ≤ x.1.length + one x.2 + l.length := by
  induction l with
  | nil => intro x; simp
  | cons c l ih =>
    intro x
    have h1 := ih (step x c)
    have h2 := step_len x c
    simp only [List.foldl_cons, List.length_cons]
    omega
theorem line_len (l : List UInt8) : (line l).length ≤ l.length := by
  have := st_len l ([], false)
  simp only [line, st]
  simp [one] at this
  omega

/-- Blanks stand alone, between others. -/
def Nice (o : List UInt8) : Prop := ∀ i, i < o.length → blk (o.getD i 0) = true → o.getD i 0 = 32 ∧ 0 < i ∧ i + 1 < o.length ∧ blk (o.getD (i - 1) 0) = false
theorem get_left {a b : List UInt8} {i : Nat} (h : i < a.length) : (a ++ b).getD i 0 = a.getD i 0 := by
  simp only [List.getD_eq_getElem?_getD]; rw [List.getElem?_append_left h]
theorem get_right {a b : List UInt8} {i : Nat} : (a ++ b).getD (a.length + i) 0 = b.getD i 0 := by
  simp only [List.getD_eq_getElem?_getD]; rw [List.getElem?_append_right (by omega)]; simp
theorem nice_last {o : List UInt8} (h : Nice o) (h0 : o ≠ []) : blk (o.getD (o.length - 1) 0) = false := by
  have hl : 0 < o.length := List.length_pos_iff.2 h0
  cases hb : blk (o.getD (o.length - 1) 0)
  · rfl
  · have := h (o.length - 1) (by omega) hb
    omega
theorem nice_one {o : List UInt8} {c : UInt8} (h : Nice o) (hc : blk c = false) : Nice (o ++ [c]) := by
  intro i hi hb
  rw [List.length_append, List.length_singleton] at hi
  by_cases e : i < o.length
  · rw [get_left e] at hb ⊢
    obtain ⟨h1, h2, h3, h4⟩ := h i e hb
    rw [get_left (by omega)]
    exact ⟨h1, h2, by simp; omega, h4⟩
  · obtain rfl : i = o.length := by omega
    have := get_right (a := o) (b := [c]) (i := 0)
    rw [Nat.add_zero] at this
    rw [this] at hb
    simp [hc] at hb
theorem nice_two {o : List UInt8} {c : UInt8} (h : Nice o) (h0 : o ≠ []) (hc : blk c = false) : Nice (o ++ [32, c]) := by
  have hl : 0 < o.length := List.length_pos_iff.2 h0
  intro i hi hb
  rw [List.length_append] at hi
  simp at hi
  by_cases e : i < o.length
  · rw [get_left e] at hb ⊢
    obtain ⟨h1, h2, h3, h4⟩ := h i e hb
    rw [get_left (by omega)]
    exact ⟨h1, h2, by simp; omega, h4⟩
  · by_cases e2 : i = o.length
    · subst e2
      have := get_right (a := o) (b := [32, c]) (i := 0)
      rw [Nat.add_zero] at this
      rw [this, get_left (by omega)]
      exact ⟨rfl, hl, by simp, nice_last h h0⟩
    · obtain rfl : i = o.length + 1 := by omega
      rw [get_right] at hb
      simp [hc] at hb
theorem nice_step {x : List UInt8 × Bool} {c : UInt8} (h : Nice x.1) : Nice (step x c).1 := by
  cases hb : blk c
  · by_cases h1 : x.1 ≠ [] ∧ x.2 = true
    · rw [step_two hb h1.1 h1.2]; exact nice_two h h1.1 hb
    · rw [step_one hb (by by_cases e : x.1 = []; exact .inl e; right; simpa [e] using h1)]; exact nice_one h hb
  · rw [step_blank x hb]; exact h
theorem nice_fold (l : List UInt8) : ∀ x : List UInt8 × Bool, Nice x.1 → Nice (l.foldl step x).1 := by
  induction l with
  | nil => intro x h; exact h
  | cons c l ih => intro x h; exact ih _ (nice_step h)
theorem nice_st (l : List UInt8) : Nice (st l).1 := nice_fold l ([], false) (fun i hi => absurd hi (Nat.not_lt_zero _))
theorem nice_line (l : List UInt8) : Nice (line l) := nice_st l

/-- The state behind a beginning of a text that is in one line. -/
def At (o : List UInt8) (k : Nat) : List UInt8 × Bool := if k = 0 then ([], false) else if blk (o.getD (k - 1) 0) then (o.take (k - 1), true) else (o.take k, false)
theorem take_one (o : List UInt8) (k : Nat) (h : k < o.length) : o.take (k + 1) = o.take k ++ [o.getD k 0] := by
  rw [List.take_add_one, List.getElem?_eq_getElem h]
  simp [List.getD_eq_getElem?_getD, h]
theorem st_at {o : List UInt8} (h : Nice o) : ∀ k, k ≤ o.length → st (o.take k) = At o k := by
  intro k
  induction k with
  | zero => intro _; simp [st, At]
  | succ k ih =>
    intro hk
    rw [take_one o k (by omega), st_snoc, ih (by omega)]
    unfold At
    rw [if_neg (Nat.succ_ne_zero k), Nat.add_sub_cancel]
    cases hb : blk (o.getD k 0)
    · simp only [Bool.false_eq_true, if_false]
      by_cases h0 : k = 0
      · subst h0
        rw [if_pos rfl, step_one hb (.inl rfl)]
        rw [take_one o 0 (by omega)]
        simp
      · rw [if_neg h0]
        cases hp : blk (o.getD (k - 1) 0)
        · simp only [Bool.false_eq_true, if_false]
          rw [step_one hb (.inr rfl), take_one o k (by omega)]
        · simp only [if_true]
          obtain ⟨h1, h2, h3, h4⟩ := h (k - 1) (by omega) hp
          rw [step_two hb (by intro e; have := congrArg List.length e; rw [List.length_take] at this; simp only [List.length_nil] at this; omega) rfl, take_one o k (by omega)]
          have := take_one o (k - 1) (by omega)
          rw [show k - 1 + 1 = k from by omega] at this
          rw [this, h1]
          simp
    · simp only [if_true]
      rw [step_blank _ hb]
      obtain ⟨h1, h2, h3, h4⟩ := h k (by omega) hb
      rw [if_neg (by omega), h4]
      simp
/-- What is in one line stays as it is. -/
theorem line_nice {o : List UInt8} (h : Nice o) : line o = o := by
  have := st_at h o.length (Nat.le_refl _)
  rw [List.take_length] at this
  unfold line
  rw [this]
  unfold At
  by_cases h0 : o = []
  · subst h0; rfl
  · rw [if_neg (by intro e; exact h0 (List.eq_nil_of_length_eq_zero e)), nice_last h h0]
    simp
theorem line_line (l : List UInt8) : line (line l) = line l := line_nice (nice_line l)

/-- What the specification holds so far. -/
def spo (x : List UInt8 × Bool) : List UInt8 := if x.1.isEmpty = false && x.2 then x.1 ++ [32] else x.1
theorem spo_other {c : UInt8} (x : List UInt8 × Bool) (h : blk c = false) : spo (step x c) = spo x ++ [c] := by
  by_cases h1 : x.1 ≠ [] ∧ x.2 = true
  · rw [step_two h h1.1 h1.2]; simp [spo, h1.1, h1.2]
  · have e : x.1 = [] ∨ x.2 = false := by by_cases e : x.1 = []; exact .inl e; right; simpa [e] using h1
    rw [step_one h e]
    unfold spo
    rw [if_neg (by simp), if_neg (by rcases e with e | e <;> simp [e])]
theorem spo_nil {x : List UInt8 × Bool} (h : x.1 = []) : spo x = [] := by simp [spo, h]
theorem spo_has {x : List UInt8 × Bool} (h : x.1 ≠ []) (h2 : x.2 = true) : spo x = x.1 ++ [32] := by simp [spo, h, h2]
theorem spo_no {x : List UInt8 × Bool} (h2 : x.2 = false) : spo x = x.1 := by simp [spo, h2]
/-- The three ways in which a blank is met, and in which the end is. -/
theorem spo_cases {x : List UInt8 × Bool} (h : Nice x.1) : (spo x = [] ∧ x.1 = []) ∨ (spo x = x.1 ++ [32] ∧ x.1 ≠ []) ∨ (spo x = x.1 ∧ x.1 ≠ [] ∧ (x.1.getD (x.1.length - 1) 0 == 32) = false) := by
  by_cases h1 : x.1 = []
  · exact .inl ⟨spo_nil h1, h1⟩
  · cases h2 : x.2
    · refine .inr (.inr ⟨spo_no h2, h1, ?_⟩)
      have := nice_last h h1
      simp only [blk, Bool.or_eq_false_iff] at this
      exact this.2
    · exact .inr (.inl ⟨spo_has h1 h2, h1⟩)
theorem spo_blank {x : List UInt8 × Bool} {c : UInt8} (hb : blk c = true) (h : x.1 ≠ []) : spo (step x c) = x.1 ++ [32] := by rw [step_blank x hb]; exact spo_has h rfl
theorem spo_blank0 {x : List UInt8 × Bool} {c : UInt8} (hb : blk c = true) (h : x.1 = []) : spo (step x c) = [] := by rw [step_blank x hb]; exact spo_nil h
theorem spo_len (x : List UInt8 × Bool) : (spo x).length ≤ x.1.length + one x.2 := by
  unfold spo
  split
  · rename_i h
    simp at h
    simp [h.2, one]
  · omega
theorem spo_le (l : List UInt8) : (spo (st l)).length ≤ l.length := by
  have h1 := spo_len (st l)
  have h2 := st_len l ([], false)
  unfold st at h1 ⊢
  simp only [List.length_nil, Nat.zero_add] at h2
  have h4 : one false = 0 := rfl
  omega
end Go.Proofs.Ytinnnfkhiigjpaa.li
