/-
  A text parted at each sign of one kind: the library's way, and the specification's.
  Names of flags: plain facts, the program's search for a name, and the specification's names.
  Flags read from a text: the specification's way.
-/
import Derived.Test.YtbokolpjdaamiaaGreatDoorPkae
import Derived.Test.YtbokolpjdaamiaaGreatDoorRows
import Derived.Test.YtbokolpjdaamiaaGreatDoorPkab
import Derived.WalkKit
import Derived.WalkLawsBesides
import Derived.Laws.AppendOwn
import Derived.Lib.FieldsLaws
import Derived.Below
import Derived.Test.YtbokolpjdaamiaaGreatDoorPkbe
import Derived.Test.YtbokolpjdaamiaaGreatDoorPkah
import Derived.Test.YtbokolpjdaamiaaGreatDoorPkas

namespace Go.Proofs.YtbokolpjdaamiaaGreatDoor.sp
open Go.RowKit
set_option linter.unusedVariables false

/-- The parts of a text. -/
def cutS (c : UInt8) : List UInt8 → List UInt8 → List (List UInt8)
  | acc, [] => [acc]
  | acc, b :: l => if b = c then acc :: cutS c [] l else cutS c (acc ++ [b]) l
theorem cutS_ne (c : UInt8) : ∀ (l acc : List UInt8), cutS c acc l ≠ []
  | [], acc => by simp [cutS]
  | b :: l, acc => by
    rw [cutS]
    split
    · simp
    · exact cutS_ne c l _
theorem cutS_len (c : UInt8) : ∀ (l acc : List UInt8), (cutS c acc l).length ≤ l.length + 1
  | [], acc => by simp [cutS]
  | b :: l, acc => by
    rw [cutS]
    split
    · have := cutS_len c l []
      simp
      omega
    · have := cutS_len c l (acc ++ [b])
      simp
      omega
theorem cutS_small (c : UInt8) : ∀ (l acc : List UInt8) (x : List UInt8), x ∈ cutS c acc l → x.length ≤ acc.length + l.length
  | [], acc, x, h => by
    simp [cutS] at h
    subst h
    simp
  | b :: l, acc, x, h => by
    rw [cutS] at h
    split at h
    · rcases List.mem_cons.1 h with rfl | h
      · simp
      · have := cutS_small c l [] x h
        simp at this ⊢
        omega
    · have := cutS_small c l _ x h
      simp at this ⊢
      omega
theorem cutS_none (c : UInt8) : ∀ (u acc : List UInt8), (∀ b ∈ u, b ≠ c) → cutS c acc u = [acc ++ u]
  | [], acc, _ => by simp [cutS]
  | b :: u, acc, h => by
    rw [cutS, if_neg (h b List.mem_cons_self), cutS_none c u _ (fun x hx => h x (List.mem_cons_of_mem _ hx))]
    simp
theorem cutS_at (c : UInt8) : ∀ (u acc r : List UInt8), (∀ b ∈ u, b ≠ c) → cutS c acc (u ++ c :: r) = (acc ++ u) :: cutS c [] r
  | [], acc, r, _ => by simp [cutS]
  | b :: u, acc, r, h => by
    rw [List.cons_append, cutS, if_neg (h b List.mem_cons_self), cutS_at c u _ r (fun x hx => h x (List.mem_cons_of_mem _ hx))]
    simp
theorem index_c (c : UInt8) : ∀ (l : List UInt8), (Lib.index l [c] = -1 ∧ (∀ b ∈ l, b ≠ c)) ∨ ∃ u r, l = u ++ c :: r ∧ (∀ b ∈ u, b ≠ c) ∧ Lib.index l [c] = u.length
  | [] => .inl ⟨rfl, (fun b hb => by cases hb)⟩
  | b :: l => by
    by_cases h : b = c
    · subst h
      exact .inr ⟨[], l, rfl, (fun b hb => by cases hb), (by rw [Lib.index]; simp [List.isPrefixOf])⟩
    · have hp : ([c] : List UInt8).isPrefixOf (b :: l) = false := by simp [List.isPrefixOf, Ne.symm h]
      rcases index_c c l with ⟨h1, h2⟩ | ⟨u, r, e, h2, h3⟩
      · refine .inl ⟨by rw [Lib.index, hp, h1]; rfl, fun x hx => ?_⟩
        rcases List.mem_cons.1 hx with rfl | hx
        · exact h
        · exact h2 x hx
      · refine .inr ⟨b :: u, r, by rw [e]; rfl, fun x hx => ?_, ?_⟩
        · rcases List.mem_cons.1 hx with rfl | hx
          · exact h
          · exact h2 x hx
        · rw [Lib.index, hp, h3]
          simp
theorem split_c (c : UInt8) : ∀ (n : Nat) (l : List UInt8), l.length ≤ n → Lib.splitK [c] 0 (l.count c) l = cutS c [] l
  | n, l, hn => by
    rcases index_c c l with ⟨h1, h2⟩ | ⟨u, r, e, h2, h3⟩
    · have hc : l.count c = 0 := List.count_eq_zero.2 (fun hm => h2 c hm rfl)
      rw [hc, cutS_none c l [] h2]
      rfl
    · have hc : l.count c = r.count c + 1 := by
        rw [e, List.count_append, List.count_eq_zero.2 (fun hm => h2 c hm rfl), List.count_cons_self]
        omega
      rw [hc, Lib.splitK, h3]
      rw [if_neg (by simp)]
      match n, hn with
      | 0, hn => rw [e] at hn; simp at hn
      | n + 1, hn =>
        have e1 : l.drop (((u.length : Nat) : Int).toNat + ([c] : List UInt8).length) = r := by rw [e]; simp
        have e2 : l.take (((u.length : Nat) : Int).toNat + 0) = u := by rw [e]; simp
        rw [e1, e2, split_c c n r (by rw [e] at hn; simp at hn; omega), e, cutS_at c u [] r h2]
        rfl
/-- Words lie where a slice leads to. -/
def WordsAt (V : List (List UInt8)) (v : Value) (w : World) : Prop := ∃ b cap, v = .slice (some ⟨b, 0, none⟩) V.length cap ∧ b < w.heap.size ∧ ∀ j, j < V.length → w.cell? ⟨b, j, none⟩ = some (.string ⟨(V.getD j []).toArray⟩)
theorem words_below {V : List (List UInt8)} {v : Value} {w w' : World} (h : WordsAt V v w) (hb : Below w.heap.size w w') : WordsAt V v w' := by
  obtain ⟨b, cap, rfl, hl, hc⟩ := h
  exact ⟨b, cap, rfl, by have := hb.size; omega, fun j hj => (hb.cell (p := ⟨b, j, none⟩) hl).trans (hc j hj)⟩
theorem infoStr : (Tryz.prog.info? 9).map (fun i => (i.zero, i.size, i.bytes)) = some (some (.string ByteArray.empty), 1, 16) := by kernel_rfl
/-- A text as a value. -/
def tv (l : List UInt8) : Value := .string ⟨l.toArray⟩
def piece (s : ByteArray) (f i : Nat) : List UInt8 := (s.data.toList.drop f).take (i - f)
theorem tv_piece (s : ByteArray) (f i : Nat) : tv (piece s f i) = .string (s.extract f i) := by
  unfold tv piece
  congr 1
  apply ByteArray.ext
  rw [← Array.toList_inj]
  show (List.take _ _).toArray.toList = _
  rw [List.toList_toArray, ← Lib.toList_data (s.extract f i), Lib.extract_toList]
theorem drop_at (s : ByteArray) (i : Nat) (h : i < s.size) : s.data.toList.drop i = s[i] :: s.data.toList.drop (i + 1) := by
  rw [List.drop_eq_getElem_cons (by simpa using h)]
  rfl
theorem cut_blank {c : UInt8} {s : ByteArray} {f i : Nat} {ws : List (List UInt8)} (h : ws ++ cutS c (piece s f i) (s.data.toList.drop i) = cutS c [] s.data.toList) (hi : i < s.size) (hb : (s[i]'hi).toNat = c.toNat) :
    (ws ++ [piece s f i]) ++ cutS c (piece s (i + 1) (i + 1)) (s.data.toList.drop (i + 1)) = cutS c [] s.data.toList := by
  rw [drop_at s i hi, cutS, if_pos (UInt8.toNat_inj.1 hb)] at h
  rw [← h, show piece s (i + 1) (i + 1) = [] from by simp [piece], List.append_assoc]
  rfl
theorem cut_sign {c : UInt8} {s : ByteArray} {f i : Nat} {ws : List (List UInt8)} (h : ws ++ cutS c (piece s f i) (s.data.toList.drop i) = cutS c [] s.data.toList) (hf : f ≤ i) (hi : i < s.size) (hb : (s[i]'hi).toNat ≠ c.toNat) :
    ws ++ cutS c (piece s f (i + 1)) (s.data.toList.drop (i + 1)) = cutS c [] s.data.toList := by
  rw [drop_at s i hi, cutS, if_neg (fun e => hb (by rw [e]))] at h
  rw [← h, show piece s f (i + 1) = piece s f i ++ [s[i]] from Lib.piece_more hf (by rw [List.getElem?_eq_getElem (by simpa using hi)]; rfl)]
theorem cut_end {c : UInt8} {s : ByteArray} {f i : Nat} {ws : List (List UInt8)} (h : ws ++ cutS c (piece s f i) (s.data.toList.drop i) = cutS c [] s.data.toList) (hi : s.size ≤ i) : ws ++ [piece s f i] = cutS c [] s.data.toList := by
  rw [List.drop_eq_nil_of_le (by rw [← Lib.size_eq]; exact hi)] at h
  exact h

set_option maxHeartbeats 2000000 in
set_option maxRecDepth 100000 in
theorem cut_any (c : UInt8) (s : ByteArray) (w : World) (hs : s.size ≤ 1048576) :
    Calls Tryz.prog 50 #[.string s, .int .u8 (c.toNat : Int)] w fun e w' => ∃ v, e = .returned v ∧ w'.ownsRow w.heap.size 9 1 v (cutS c [] s.data.toList).length ((cutS c [] s.data.toList).map tv) ∧ Below w.heap.size w w' := by
  obtain ⟨i0, hi, hz0, hz1, hz2⟩ := info_parts infoStr
  go_enter Tryz.func50, Tryz.ntmps50
  go_wp2
  go_loopw [5, 6, 7] (fun v a b wr => ∃ (f i : Nat) (ws : List (List UInt8)), f ≤ i ∧ i ≤ s.size ∧ a = .int .i64 f ∧ b = .int .i64 i ∧ ws.length ≤ i ∧ wr.ownsRow w.heap.size 9 1 v ws.length (ws.map tv) ∧ Below w.heap.size w wr ∧ ws ++ cutS c (piece s f i) (s.data.toList.drop i) = cutS c [] s.data.toList) (fun _ _ b _ => s.size - (intOf b).toNat)
  case atStart => exact ⟨0, 0, [], Nat.le_refl _, Nat.zero_le _, rfl, rfl, Nat.le_refl _, ow.own_empty w _, (Below.refl _ _).alloc (Nat.le_refl _) _, rfl⟩
  case round =>
    obtain ⟨f, i, ws, hfi, his, rfl, rfl, hwl, hown, hbw, hc⟩ := hrel
    have HC : Hid (ws ++ cutS c (piece s f i) (s.data.toList.drop i) = cutS c [] s.data.toList) := hc
    clear hc
    have hBs := hbw.size
    have c1 : (0 : Int) ≤ (f : Int) := by omega
    have c2 : (f : Int) ≤ (i : Int) := by omega
    have c3 : (i : Int) ≤ (s.size : Int) := by omega
    by_cases hlt : i < s.size
    · by_cases hb : (s[i]'hlt).toNat = c.toNat
      · have d1 : (((s[i]'hlt).toNat : Int) == (c.toNat : Int)) = true := beq_iff_eq.2 (by omega)
        have HB : Hid ((s[i]'hlt).toNat = c.toNat) := hb
        clear hb
        go_wp2_with (at_builtin; refine wpList_append_own _ rfl _ _ 33 rfl w.heap.size 9 i0 (.string ByteArray.empty) 1 16 Tryz.underlying33 hi hz0 hz1 hz2 rfl (by decide) _ _ _ rfl (hown.alloc _) ⟨wr.heap.size, 0, none⟩ 1 1 [.string (s.extract f i)] rfl rfl (ow.cells_new _ [.string (s.extract f i)] _) (by intro u hu; simp at hu; subst hu; rfl) (by unfold maxLen; omega) (by omega) (by simp; omega) ?_; intro v' w3 hown3 hgrow3 hnil3)
        have hb3 := Below.grown (hbw.alloc hBs _) hgrow3 (by simp; omega) (ow.own_lt hown)
        have HA : Hid (w3.ownsRow w.heap.size 9 1 v' (ws ++ [piece s f i]).length ((ws ++ [piece s f i]).map tv) ∧ Below w.heap.size w w3) := ⟨by rw [List.map_append, List.map_cons, tv_piece, List.length_append]; exact hown3, hb3⟩
        clear hown3 hgrow3 hnil3 hb3 hown hbw
        go_wp2
        go_roundw
        case rel => exact ⟨i + 1, i + 1, ws ++ [piece s f i], Nat.le_refl _, by omega, by go_num, by go_num, by simp; omega, HA.out.1, HA.out.2, cut_blank HC.out hlt HB.out⟩
        case measure => simp [intOf]; omega
      · have d1 : (((s[i]'hlt).toNat : Int) == (c.toNat : Int)) = false := beq_eq_false_iff_ne.2 (by omega)
        go_wp2
        go_roundw
        case rel => exact ⟨f, i + 1, ws, by omega, by omega, rfl, by go_num, by omega, hown, hbw, cut_sign HC.out hfi hlt hb⟩
        case measure => simp [intOf]; omega
    · have c4 : (f : Int) ≤ (s.size : Int) := by omega
      go_wp2_with (at_builtin; refine wpList_append_own _ rfl _ _ 33 rfl w.heap.size 9 i0 (.string ByteArray.empty) 1 16 Tryz.underlying33 hi hz0 hz1 hz2 rfl (by decide) _ _ _ rfl (hown.alloc _) ⟨wr.heap.size, 0, none⟩ 1 1 [.string (s.extract f s.size)] rfl rfl (ow.cells_new _ [.string (s.extract f s.size)] _) (by intro u hu; simp at hu; subst hu; rfl) (by unfold maxLen; omega) (by omega) (by simp; omega) ?_; intro v' w3 hown3 hgrow3 hnil3)
      have hb3 := Below.grown (hbw.alloc hBs _) hgrow3 (by simp; omega) (ow.own_lt hown)
      have HA : Hid (w3.ownsRow w.heap.size 9 1 v' (cutS c [] s.data.toList).length ((cutS c [] s.data.toList).map tv) ∧ Below w.heap.size w w3) := by
        have e : i = s.size := by omega
        have hc := cut_end HC.out (by omega)
        rw [← hc, List.map_append, List.map_cons, tv_piece, List.length_append, e]
        exact ⟨hown3, hb3⟩
      clear hown3 hgrow3 hnil3 hb3 hown hbw HC
      go_wp2
      go_ret
      exact ⟨v', rfl, HA.out⟩
theorem words_own {w : World} {base e : Nat} {v : Value} {V : List (List UInt8)} (h : w.ownsRow base e 1 v V.length (V.map tv)) (hne : V ≠ []) : WordsAt V v w := by
  have h0 := h
  obtain ⟨h1, h2⟩ := h
  rcases h2 with ⟨_, h2⟩ | ⟨g, cap, cur, rfl, b, c, d, e1⟩
  · exact absurd (List.length_eq_zero_iff.1 h2) hne
  · refine ⟨g, cap, rfl, (Array.getElem?_eq_some_iff.1 c).1, fun j hj => ?_⟩
    rw [h0.cellAt j (by omega), List.getElem?_map, List.getElem?_eq_getElem hj]
    simp [tv, List.getD_eq_getElem?_getD, hj]
theorem cut_parts (c : UInt8) (s : ByteArray) (w : World) (hs : s.size ≤ 1048576) :
    Calls Tryz.prog 50 #[.string s, .int .u8 (c.toNat : Int)] w fun e w' => ∃ v, e = .returned v ∧ WordsAt (cutS c [] s.data.toList) v w' ∧ Below w.heap.size w w' :=
  (cut_any c s w hs).mono fun e w' ⟨v, he, ho, hb⟩ => ⟨v, he, words_own ho (cutS_ne c _ _), hb⟩
/-- What the library's Cut answers at a sign. -/
def Cut1 (c : UInt8) (l u r : List UInt8) (B : Bool) : Prop := (B = true ∧ l = u ++ c :: r ∧ (∀ b ∈ u, b ≠ c)) ∨ (B = false ∧ l = u ∧ r = [] ∧ (∀ b ∈ u, b ≠ c))
theorem cut1_any (c : UInt8) (s : ByteArray) (hs : s.size ≤ 1048576) (w : World) (mx : Int) (hm : w.cell? ⟨1, 0, none⟩ = some (.int .i64 mx)) :
    Calls Tryz.prog 61 #[.string s, .string ⟨#[c]⟩] w fun e w' => ∃ u r B, e = .returned (.tuple #[.string ⟨u.toArray⟩, .string ⟨r.toArray⟩, .bool B]) ∧ Cut1 c s.data.toList u r B ∧ ∃ n, w' = w.drewN n := by
  refine (Tryz.strings_Cut s ⟨#[c]⟩ mx w (by omega) hm).mono ?_
  rintro e w' ⟨rfl, hw⟩
  refine ⟨_, _, _, rfl, ?_, hw⟩
  have e0 : (⟨#[c]⟩ : ByteArray).data.toList = [c] := rfl
  rw [e0]
  rcases index_c c s.data.toList with ⟨h1, h2⟩ | ⟨u, r, e, h2, h3⟩
  · right
    simp only [Lib.cut, h1]
    simpa using h2
  · left
    simp only [Lib.cut, h3]
    rw [if_pos (by omega)]
    refine ⟨rfl, ?_, ?_⟩
    · rw [e]; simp
    · rw [e]; simpa using h2
end Go.Proofs.YtbokolpjdaamiaaGreatDoor.sp

namespace Go.Proofs.YtbokolpjdaamiaaGreatDoor.fg
open Go.RowKit
open lo sl sp gr
set_option linter.unusedVariables false

/-- The name of a flag. -/
def fn (k : Nat) : ByteArray := ⟨(tb.fls.getD k []).toArray⟩
def pw : Nat → Int
  | 0 => 1
  | 1 => 2
  | 2 => 4
  | 3 => 8
  | 4 => 16
  | _ => 0
/-- The flag of a name among the first ones, 0 of none. -/
def flg (l : ByteArray) : Nat → Int
  | 0 => 0
  | k + 1 => if sameB l (fn k) = true then pw k else flg l k
theorem apart : ∀ j, j < 5 → ∀ k, k < 5 → lower (tb.fls.getD j []) = lower (tb.fls.getD k []) → j = k := by decide
theorem one_name {l : ByteArray} {j k : Nat} (hj : j < 5) (hk : k < 5) (h : sameB l (fn j) = true) (h' : sameB l (fn k) = true) : j = k := by
  have e1 : lower l.data.toList = lower (tb.fls.getD j []) := of_decide_eq_true h
  have e2 : lower l.data.toList = lower (tb.fls.getD k []) := of_decide_eq_true h'
  exact apart j hj k hk (e1.symm.trans e2)
theorem flg_none {l : ByteArray} : ∀ k, (∀ j, j < k → sameB l (fn j) = false) → flg l k = 0
  | 0, _ => rfl
  | k + 1, h => by
    rw [flg, if_neg (by rw [h k (by omega)]; simp)]
    exact flg_none k (fun j hj => h j (by omega))
theorem flg_before {l : ByteArray} {k : Nat} (hk : k < 5) (h : sameB l (fn k) = true) : ∀ m, m ≤ k → flg l m = 0 := by
  intro m hm
  refine flg_none m (fun j hj => ?_)
  cases e : sameB l (fn j)
  · rfl
  · exact absurd (one_name (by omega) hk e h) (by omega)
theorem flg_one {l : ByteArray} {k : Nat} (hk : k < 5) (h : sameB l (fn k) = true) : ∀ m, k < m → m ≤ 5 → flg l m = pw k
  | 0, h1, _ => absurd h1 (by omega)
  | m + 1, h1, h2 => by
    rw [flg]
    by_cases e : k = m
    · subst e
      rw [if_pos h]
    · rw [if_neg (by intro y; exact e (one_name hk (by omega) h y))]
      exact flg_one hk h m (by omega) (by omega)
theorem pw_pos : ∀ k, k < 5 → pw k ≠ 0 := by decide
theorem fn_size : ∀ k, k < 5 → (fn k).size ≤ 9 := by decide
theorem fls_len : tb.fls.length = 5 := rfl
theorem cells_fls : (tb.fls.map fun l => Value.string ⟨l.toArray⟩) = [.string (fn 0), .string (fn 1), .string (fn 2), .string (fn 3), .string (fn 4)] := rfl

theorem ix0 (wx : World) : (Instr.index 105 (.agg (tb.fls.map fun l => Value.string ⟨l.toArray⟩).toArray) (.int .i64 0)).run Tryz.prog wx = .ok (.string (fn 0)) wx := by kernel_rfl
theorem ix1 (wx : World) : (Instr.index 105 (.agg (tb.fls.map fun l => Value.string ⟨l.toArray⟩).toArray) (.int .i64 1)).run Tryz.prog wx = .ok (.string (fn 1)) wx := by kernel_rfl
theorem ix2 (wx : World) : (Instr.index 105 (.agg (tb.fls.map fun l => Value.string ⟨l.toArray⟩).toArray) (.int .i64 2)).run Tryz.prog wx = .ok (.string (fn 2)) wx := by kernel_rfl
theorem ix3 (wx : World) : (Instr.index 105 (.agg (tb.fls.map fun l => Value.string ⟨l.toArray⟩).toArray) (.int .i64 3)).run Tryz.prog wx = .ok (.string (fn 3)) wx := by kernel_rfl
theorem ix4 (wx : World) : (Instr.index 105 (.agg (tb.fls.map fun l => Value.string ⟨l.toArray⟩).toArray) (.int .i64 4)).run Tryz.prog wx = .ok (.string (fn 4)) wx := by kernel_rfl
end Go.Proofs.YtbokolpjdaamiaaGreatDoor.fg

namespace Go.Proofs.YtbokolpjdaamiaaGreatDoor.fg
open Go.RowKit
open lo sl sp gr
set_option linter.unusedVariables false

/-- Names read one behind the other. -/
def go : List (List UInt8) → Int → Int × Int
  | [], o => (o, 0)
  | x :: r, o => if flg ⟨x.toArray⟩ 5 = 0 then (0, 16) else go r (bits .or .i64 o (flg ⟨x.toArray⟩ 5))
theorem go_step {V : List (List UInt8)} {i : Nat} {o : Int} {R : Int × Int} (h : go (V.drop i) o = R) (hi : i < V.length) (hf : flg ⟨(V.getD i []).toArray⟩ 5 ≠ 0) : go (V.drop (i + 1)) (bits .or .i64 o (flg ⟨(V.getD i []).toArray⟩ 5)) = R := by
  have e : V.getD i [] = V[i] := by simp [List.getD_eq_getElem?_getD, hi]
  rw [e] at hf ⊢
  rw [List.drop_eq_getElem_cons hi, go, if_neg hf] at h
  exact h
theorem go_bad {V : List (List UInt8)} {i : Nat} {o : Int} {R : Int × Int} (h : go (V.drop i) o = R) (hi : i < V.length) (hf : flg ⟨(V.getD i []).toArray⟩ 5 = 0) : R = (0, 16) := by
  have e : V.getD i [] = V[i] := by simp [List.getD_eq_getElem?_getD, hi]
  rw [e] at hf
  rw [List.drop_eq_getElem_cons hi, go, if_pos hf] at h
  exact h.symm
theorem go_end {V : List (List UInt8)} {i : Nat} {o : Int} {R : Int × Int} (h : go (V.drop i) o = R) (hi : V.length ≤ i) : R = (o, 0) := by
  rw [List.drop_eq_nil_of_le hi, go] at h
  exact h.symm
/-- What the names looked at so far have made of the flags. -/
def mix (l : ByteArray) (k : Nat) (o : Int) : Int := if flg l k = 0 then o else bits .or .i64 o (flg l k)
theorem mix_hit {l : ByteArray} {k : Nat} (o : Int) (hk : k < 5) (h : sameB l (fn k) = true) : mix l k o = o ∧ mix l (k + 1) o = bits .or .i64 o (pw k) ∧ decide (flg l (k + 1) ≠ 0) = true := by
  have h0 := flg_before hk h k (Nat.le_refl _)
  have h1 := flg_one hk h (k + 1) (by omega) (by omega)
  refine ⟨by unfold mix; rw [if_pos h0], ?_, by rw [h1]; exact decide_eq_true (pw_pos k hk)⟩
  unfold mix
  rw [h1, if_neg (pw_pos k hk)]
theorem mix_miss {l : ByteArray} {k : Nat} (o : Int) (h : sameB l (fn k) = false) : mix l (k + 1) o = mix l k o ∧ decide (flg l (k + 1) ≠ 0) = decide (flg l k ≠ 0) := by
  have e : flg l (k + 1) = flg l k := by rw [flg, if_neg (by rw [h]; simp)]
  unfold mix
  rw [e]
  exact ⟨rfl, rfl⟩

theorem names_any (w : World) : Calls Tryz.prog 70 #[] w fun e w' => ∃ v, e = .returned v ∧ WordsAt tb.fls v w' ∧ Below w.heap.size w w' := by
  go_enter Tryz.func70, Tryz.ntmps70
  go_wp2
  go_ret
  refine ⟨_, rfl, ⟨w.heap.size, 5, rfl, by simp, fun j hj => ?_⟩, (Below.refl _ _).alloc (Nat.le_refl _) _⟩
  rw [cell_of_row _ _ _ _ _ _ (MapKept.heap_alloc w _).1]
  have hj' : j < 5 := hj
  have hc : j = 0 ∨ j = 1 ∨ j = 2 ∨ j = 3 ∨ j = 4 := by omega
  rcases hc with rfl | rfl | rfl | rfl | rfl <;> rfl

/-- What stands between brackets. -/
def Shape (l : List UInt8) : Prop := (∃ q, l = 40 :: (q ++ [41])) ∨ l = [] ∨ (∃ b r, l = b :: r ∧ b ≠ 40) ∨ l = [40] ∨ ∃ q x, l = 40 :: (q ++ [x]) ∧ x ≠ 41
theorem shape (l : List UInt8) : Shape l := by
  cases l with
  | nil => exact .inr (.inl rfl)
  | cons b r =>
    by_cases hb : b = 40
    · subst hb
      rcases List.eq_nil_or_concat r with rfl | ⟨q, x, rfl⟩
      · exact .inr (.inr (.inr (.inl rfl)))
      · by_cases hx : x = 41
        · subst hx; exact .inl ⟨q, by simp⟩
        · exact .inr (.inr (.inr (.inr ⟨q, x, by simp, hx⟩)))
    · exact .inr (.inr (.inl ⟨b, r, rfl, hb⟩))
def rf (l : List UInt8) : Int × Int := match l with
  | 40 :: r => if r.getLast? = some 41 then (if r.dropLast = [] then (0, 0) else go (cutS 32 [] r.dropLast) 0) else (0, 3)
  | _ => (0, 3)
theorem rf_good (q : List UInt8) : rf (40 :: (q ++ [41])) = if q = [] then (0, 0) else go (cutS 32 [] q) 0 := by
  simp [rf]
theorem rf_nil : rf [] = (0, 3) := rfl
theorem rf_open (b : UInt8) (r : List UInt8) (h : b ≠ 40) : rf (b :: r) = (0, 3) := by
  unfold rf
  split
  · rename_i r' e; cases e; exact absurd rfl h
  · rfl
theorem rf_one : rf [40] = (0, 3) := rfl
theorem rf_shut (q : List UInt8) (x : UInt8) (h : x ≠ 41) : rf (40 :: (q ++ [x])) = (0, 3) := by
  simp [rf, h]
theorem at_first (s : ByteArray) (b : UInt8) (r : List UInt8) (h : s.data.toList = b :: r) (wx : World) : (Instr.index 9 (.string s) (.int .i64 0)).run Tryz.prog wx = .ok (.int .u8 (b.toNat : Int)) wx := by
  have hs : s.size = r.length + 1 := by rw [Lib.size_eq, h]; rfl
  rw [run_index_string wx 9 s .i64 0 Tryz.underlying9, dif_pos ⟨by omega, by omega⟩]
  have : s[(0 : Int).toNat]'(by show (0 : Nat) < s.size; omega) = b := by
    show s.data.toList[0]'(by rw [h]; simp) = b
    simp [h]
  rw [this]
theorem at_last (s : ByteArray) (x : UInt8) (r : List UInt8) (h : s.data.toList = r ++ [x]) (wx : World) : (Instr.index 9 (.string s) (.int .i64 ((s.size : Int) - 1))).run Tryz.prog wx = .ok (.int .u8 (x.toNat : Int)) wx := by
  have hs : s.size = r.length + 1 := by rw [Lib.size_eq, h]; simp
  rw [run_index_string wx 9 s .i64 _ Tryz.underlying9, dif_pos ⟨by omega, by omega⟩]
  have e : ((s.size : Int) - 1).toNat = r.length := by omega
  have : s[((s.size : Int) - 1).toNat]'(by omega) = x := by
    show s.data.toList[((s.size : Int) - 1).toNat]'(by rw [h, e]; simp) = x
    simp [h, e]
  rw [this]
theorem mid_text (s : ByteArray) (b x : UInt8) (q : List UInt8) (h : s.data.toList = b :: (q ++ [x])) : s.extract 1 (s.size - 1) = ⟨q.toArray⟩ := by
  have hs : s.size = q.length + 2 := by rw [Lib.size_eq, h]; simp
  apply ByteArray.ext
  rw [← Array.toList_inj, ← Lib.toList_data (s.extract 1 (s.size - 1)), Lib.extract_toList, h, hs]
  simp

end Go.Proofs.YtbokolpjdaamiaaGreatDoor.fg
