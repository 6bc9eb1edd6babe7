/-
  Plain facts on a mail that is made of folded fields and quoted text: it is lines of a mail.
  A row of bytes that a call made, cell by cell: also one that a text was turned into, behind which a mark lies; appending to it.
  Letters of either size: both functions that write a text in small letters.
  Fields as rows of pairs of texts: read by the law's own measure, copy and comparison.
  Regions that draw their order, whose own operations only read and whose callees make new memory alone: one walk in the order of the text.
-/
import Derived.Test.YtadfdfmebdcfgaaGreatDoorPkag
import Derived.Test.YtadfdfmebdcfgaaGreatDoorPkae
import Derived.Laws.IdiomCopy
import Derived.Laws.Append
import Derived.Maps.AppendAt
import Derived.Test.YtadfdfmebdcfgaaGreatDoorRows
import Derived.WalkKit
import Derived.WalkLawsBesides
import Derived.Lib.ConvBytes
import Derived.Below
import Derived.Test.YtadfdfmebdcfgaaGreatDoorPkad
import Derived.Deep.QuietTactic
import Derived.BigQuiet
import Derived.BigRegion

namespace Go.Proofs.YtadfdfmebdcfgaaGreatDoor.ml
open Go
open Go.Proofs.YtadfdfmebdcfgaaGreatDoor.hd (cutGo foldGo foldL)
open Go.Proofs.YtadfdfmebdcfgaaGreatDoor.qu (llw llw_nil llw_crlf llw_on okc)
set_option linter.unusedVariables false

theorem llw_ge (w b : Nat) (l : B) : b ≤ llw w b l := by
  have := ln.more l false w b 0
  rw [Nat.max_eq_left (Nat.zero_le b)] at this
  unfold llw
  rw [this]
  exact Nat.le_max_left _ _
/-- Characters from 32 to 126, and ends of lines. -/
def cp : B → Prop
  | [] => True
  | [c] => okc c
  | a :: b :: r => (a = 13 ∧ b = 10 ∧ cp r) ∨ (okc a ∧ cp (b :: r))
theorem cp_cons {c : UInt8} {x : B} (hc : okc c) (hx : cp x) : cp (c :: x) := by
  cases x with
  | nil => exact hc
  | cons b r => exact .inr ⟨hc, hx⟩
theorem cp_app : ∀ (a y : B), (∀ c ∈ a, okc c) → cp y → cp (a ++ y)
  | [], y, _, h => h
  | c :: a, y, h, hy => cp_cons (h c List.mem_cons_self) (cp_app a y (fun b hb => h b (List.mem_cons_of_mem _ hb)) hy)
theorem cp_good : ∀ (n : Nat) (l : B), l.length ≤ n → qu.good l → cp l
  | n, [], _, _ => trivial
  | n, [c], _, h => h.1
  | 0, a :: b :: r, hl, _ => by simp at hl
  | n + 1, a :: b :: r, hl, h => by
    simp only [List.length_cons] at hl
    rcases h with ⟨h1, h2, h3⟩ | ⟨h1, _, h3⟩
    · exact .inl ⟨h1, h2, cp_good n r (by omega) h3⟩
    · exact .inr ⟨h1, cp_good n (b :: r) (by simp only [List.length_cons]; omega) h3⟩
theorem not_bad {c : UInt8} (h : okc c) : bad c = false := by
  have h13 := qu.okc_ne h
  unfold bad
  have h0 : c ≠ 0 := fun e => by rw [e] at h; exact absurd h.1 (by decide)
  have h1 := h.2
  simp [h0, h13.1, h13.2]
  omega
theorem mok_cp : ∀ (n : Nat) (l : B) (w b : Nat), l.length ≤ n → cp l → llw w b l ≤ 998 → mok w (l ++ nl) = true
  | n, [], w, b, _, _, _ => by
    show mok w (13 :: 10 :: []) = true
    rw [mok_end]
    rfl
  | n, [c], w, b, _, hc, hl => by
    have h13 := qu.okc_ne hc
    rw [llw_on h13.1] at hl
    have := llw_ge (w + 1) (max b (w + 1)) []
    show mok w (c :: 13 :: 10 :: []) = true
    rw [mok_good (by rintro ⟨e, _⟩; exact h13.1 e) (not_bad hc) (by omega), mok_end]
    rfl
  | 0, a :: b' :: r, w, b, hn, _, _ => by simp at hn
  | n + 1, a :: b' :: r, w, b, hn, hc, hl => by
    simp only [List.length_cons] at hn
    rcases hc with ⟨rfl, rfl, h3⟩ | ⟨h1, h3⟩
    · rw [llw_crlf] at hl
      show mok w (13 :: 10 :: (r ++ nl)) = true
      rw [mok_end]
      exact mok_cp n r 0 b (by omega) h3 hl
    · have h13 := qu.okc_ne h1
      rw [llw_on h13.1] at hl
      have := llw_ge (w + 1) (max b (w + 1)) (b' :: r)
      show mok w (a :: (b' :: r ++ nl)) = true
      rw [mok_good (by rintro ⟨e, _⟩; exact h13.1 e) (not_bad h1) (by omega)]
      exact mok_cp n (b' :: r) (w + 1) _ (by simp only [List.length_cons]; omega) h3 hl
theorem llw_nl : ∀ (n : Nat) (l : B) (w b : Nat), l.length ≤ n → cp l → llw w b (l ++ nl) = llw w b l
  | n, [], w, b, _, _ => by
    show llw w b (13 :: 10 :: []) = _
    rw [llw_crlf, llw_nil, llw_nil]
  | n, [c], w, b, _, hc => by
    have h13 := qu.okc_ne hc
    show llw w b (c :: 13 :: 10 :: []) = _
    rw [llw_on h13.1, llw_on h13.1, llw_crlf, llw_nil, llw_nil]
  | 0, a :: b' :: r, w, b, hn, _ => by simp at hn
  | n + 1, a :: b' :: r, w, b, hn, hc => by
    simp only [List.length_cons] at hn
    rcases hc with ⟨rfl, rfl, h3⟩ | ⟨h1, h3⟩
    · show llw w b (13 :: 10 :: (r ++ nl)) = _
      rw [llw_crlf, llw_crlf]
      exact llw_nl n r 0 b (by omega) h3
    · have h13 := qu.okc_ne h1
      show llw w b (a :: (b' :: r ++ nl)) = _
      rw [llw_on h13.1, llw_on h13.1]
      exact llw_nl n (b' :: r) (w + 1) _ (by simp only [List.length_cons]; omega) h3
theorem okc32 : okc 32 := ⟨by decide, by decide⟩
theorem okc58 : okc 58 := ⟨by decide, by decide⟩
theorem cp_fold : ∀ (r : List B) (f : Bool) (wd : Nat), (∀ x ∈ r, ∀ b ∈ x, okc b) → cp (foldGo f wd r)
  | [], f, wd, _ => by rw [foldGo]; exact trivial
  | x :: r, f, wd, h => by
    have hx := h x List.mem_cons_self
    have hr := fun y hy => h y (List.mem_cons_of_mem _ hy)
    rw [foldGo]
    split
    · rw [List.append_assoc]
      exact .inl ⟨rfl, rfl, cp_cons okc32 (cp_app x _ hx (cp_fold r _ _ hr))⟩
    · rw [List.append_assoc]
      exact cp_cons okc32 (cp_app x _ hx (cp_fold r _ _ hr))
theorem words_okc {v : B} (h : hd.Safe v) : ∀ x ∈ cutGo [] v, ∀ b ∈ x, okc b := by
  intro x hx b hb
  rcases ff.mem_cut v [] x hx b hb with h1 | h1
  · cases h1
  · exact hd.ascii h b h1
theorem step_some (w : Nat) (c : UInt8) : hd.step (some w) c = if c.toNat < 32 ∨ 126 < c.toNat then none else if c.toNat = 32 then (if w = 0 then none else some 0) else if 200 ≤ w then none else some (w + 1) := rfl
/-- No word of a safe value is longer than 200 characters. -/
theorem lw_safe : ∀ (v : B) (w b w' : Nat), v.foldl hd.step (some w) = some w' → w ≤ 200 → ff.lw w b v ≤ max b 200
  | [], w, b, w', _, _ => by rw [ff.lw]; omega
  | c :: r, w, b, w', h, hw => by
    rw [List.foldl_cons, step_some] at h
    rw [ff.lw]
    by_cases h1 : c.toNat < 32 ∨ 126 < c.toNat
    · rw [if_pos h1] at h
      rw [hd.fold_none r] at h
      cases h
    · rw [if_neg h1] at h
      by_cases h2 : c.toNat = 32
      · rw [if_pos h2] at h ⊢
        by_cases h3 : w = 0
        · rw [if_pos h3] at h
          rw [hd.fold_none r] at h
          cases h
        · rw [if_neg h3] at h
          exact lw_safe r 0 b w' h (Nat.zero_le _)
      · rw [if_neg h2] at h ⊢
        by_cases h3 : 200 ≤ w
        · rw [if_pos h3] at h
          rw [hd.fold_none r] at h
          cases h
        · rw [if_neg h3] at h
          have := lw_safe r (w + 1) (max b (w + 1)) w' h (by omega)
          omega
theorem lw_le {v : B} (h : hd.Safe v) : ff.lw 0 0 v ≤ 200 := by
  rcases h.2 with rfl | ⟨w, hw, _⟩
  · simp [ff.lw]
  · have := lw_safe v 0 0 w hw (Nat.zero_le _)
    omega
/-- A folded field is lines of a mail. -/
theorem mok_field {nm v : B} (hn : NmOK nm) (h40 : nm.length ≤ 40) (hv : hd.Safe v) : mok 0 (foldL nm v) = true := by
  obtain ⟨n1, n2⟩ := nm_sign hn
  have hx : cp (nm ++ [58] ++ foldGo true (nm.length + 1) (cutGo [] v)) := by
    rw [List.append_assoc]
    exact cp_app nm _ (fun c hc => ⟨by have := n2 c hc; omega, (n2 c hc).2.1⟩) (cp_app [58] _ (by intro b hb; rw [List.mem_singleton] at hb; subst hb; exact okc58) (cp_fold _ _ _ (words_okc hv)))
  have hl := ff.ll_field (nm := nm) (fun c hc e => by have := n2 c hc; rw [e] at this; exact absurd this.1 (by decide)) hv
  have h2 := lw_le hv
  unfold ln.ll at hl
  unfold foldL at hl ⊢
  refine mok_cp _ _ 0 0 (Nat.le_refl _) hx ?_
  rw [show ([13, 10] : B) = nl from rfl, llw_nl _ _ 0 0 (Nat.le_refl _) hx] at hl
  omega
theorem mok_app : ∀ (n : Nat) (l : B) (w : Nat) (y : B), l.length ≤ n → mok w l = true → mok w (l ++ y) = mok 0 y
  | n, [], w, y, _, h => by
    rw [mok] at h
    rw [List.nil_append, show w = 0 from by simpa using h]
  | n, [c], w, y, _, h => by rw [mok] at h; cases h
  | 0, a :: b :: r, w, y, hn, _ => by simp at hn
  | n + 1, a :: b :: r, w, y, hn, h => by
    simp only [List.length_cons] at hn
    rw [mok] at h
    show mok w (a :: b :: (r ++ y)) = _
    rw [mok]
    split
    · rename_i hc
      rw [if_pos hc] at h
      exact mok_app n r 0 y (by omega) h
    · rename_i hc
      rw [if_neg hc] at h
      split
      · rename_i hb
        rw [if_pos hb] at h
        cases h
      · rename_i hb
        rw [if_neg hb] at h
        exact mok_app n (b :: r) (w + 1) y (by simp only [List.length_cons]; omega) h
theorem mok_foldM : ∀ (fs : List (B × B)) (y : B), (∀ x ∈ fs, NmOK x.1 ∧ x.1.length ≤ 40 ∧ hd.Safe x.2) → mok 0 (foldM fs ++ y) = mok 0 y
  | [], y, _ => rfl
  | x :: fs, y, h => by
    obtain ⟨h1, h2, h3⟩ := h x List.mem_cons_self
    have e : foldM (x :: fs) ++ y = foldL x.1 x.2 ++ (foldM fs ++ y) := by simp [foldM]
    rw [e, mok_app _ _ 0 _ (Nat.le_refl _) (mok_field h1 h2 h3)]
    exact mok_foldM fs y fun z hz => h z (List.mem_cons_of_mem _ hz)
/-- A mail of folded fields and quoted text is a mail; its fields are those, its body is that text. -/
theorem isMail_fold (fs : List (B × B)) (l : B) (h : ∀ x ∈ fs, NmOK x.1 ∧ x.1.length ≤ 40 ∧ hd.Safe x.2) (hl : fs.length ≤ 40) : IsMail (foldM fs ++ nl ++ (qu.qt 0 l ++ nl)) fs (qu.qt 0 l ++ nl) := by
  refine ⟨?_, par_fold fs _ (fun x hx => ⟨(h x hx).1, (h x hx).2.2⟩), hl⟩
  rw [List.append_assoc, mok_foldM fs _ h]
  show mok 0 (13 :: 10 :: (qu.qt 0 l ++ nl)) = true
  rw [mok_end]
  refine mok_cp _ _ 0 0 (Nat.le_refl _) (cp_good _ _ (Nat.le_refl _) (qu.good_qt l)) ?_
  have := qu.ll_qt l
  omega
end Go.Proofs.YtadfdfmebdcfgaaGreatDoor.ml

namespace Go.Proofs.YtadfdfmebdcfgaaGreatDoor.ow
open Go.RowKit
set_option linter.unusedVariables false

/-- A slice of bytes whose cells the call may write, as far as its room goes. -/
def OwnC (w : World) (base : Nat) (v : Value) (l : List UInt8) : Prop :=
  ∃ g cap, v = .slice (some ⟨g, 0, none⟩) l.length cap ∧ base ≤ g ∧ g < w.heap.size ∧ l.length ≤ cap ∧ cap ≤ maxLen ∧
    (∀ j, j < cap → (w.cell? ⟨g, j, none⟩).isSome = true ∧ w.frozen? ⟨g, j, none⟩ = false) ∧ ∀ j, j < l.length → w.cell? ⟨g, j, none⟩ = some (.int .u8 ((l.getD j 0).toNat : Int))

theorem ownC_below {w w' : World} {base : Nat} {v : Value} {l : List UInt8} (h : OwnC w base v l) (hb : Below w.heap.size w w') : OwnC w' base v l := by
  obtain ⟨g, cap, hv, h1, h2, h3, h4, h5, h6⟩ := h
  refine ⟨g, cap, hv, h1, Nat.lt_of_lt_of_le h2 hb.size, h3, h4, fun j hj => ?_, fun j hj => ?_⟩
  · rw [hb.cell (p := ⟨g, j, none⟩) h2, hb.frozen (p := ⟨g, j, none⟩) h2]
    exact h5 j hj
  · rw [hb.cell (p := ⟨g, j, none⟩) h2]
    exact h6 j hj
theorem ownC_alloc {w : World} {base : Nat} {v : Value} {l : List UInt8} (h : OwnC w base v l) (o : Obj) : OwnC (w.alloc o) base v l := ownC_below h ((Below.refl _ _).alloc (Nat.le_refl _) _)
theorem ownC_block {w : World} {base : Nat} {v : Value} {l : List UInt8} (h : OwnC w base v l) : ∀ k, v.ownBlock = some k → base ≤ k := by
  obtain ⟨g, cap, rfl, h1, _⟩ := h
  intro k hk
  cases hk
  exact h1
theorem ownC_slice {w : World} {base : Nat} {v : Value} {l : List UInt8} (h : OwnC w base v l) : ∃ ao cap, v = .slice ao l.length cap := by
  obtain ⟨g, cap, rfl, _⟩ := h
  exact ⟨_, _, rfl⟩
/-- The bytes of a block. -/
theorem ownC_new {w : World} {g cap : Nat} {e : TypeId} {fz : Nat × Nat} {cs : Array Value} {base : Nat} (l : List UInt8) (hg : w.heap[g]? = some (.cells cs e fz)) (hs : cs.size = cap) (hf : fz = (0, 0) ∨ cap ≤ fz.1) (hb : base ≤ g) (hl : l.length ≤ cap) (hm : cap ≤ maxLen)
    (hc : ∀ j, j < l.length → cs[j]? = some (.int .u8 ((l.getD j 0).toNat : Int))) : OwnC w base (.slice (some ⟨g, 0, none⟩) l.length cap) l := by
  have hcell : ∀ j, w.cell? ⟨g, j, none⟩ = cs[j]? := fun j => cell_of_row w g j _ e fz hg
  refine ⟨g, cap, rfl, hb, (Array.getElem?_eq_some_iff.1 hg).1, hl, hm, fun j hj => ⟨?_, ?_⟩, fun j hj => ?_⟩
  · rw [hcell, Array.getElem?_eq_getElem (by omega)]
    rfl
  · obtain ⟨lo, hi⟩ := fz
    simp only [World.frozen?, hg]
    rcases hf with hf | hf
    · cases hf
      simp
    · simp only at hf
      simp only [Bool.and_eq_false_iff, decide_eq_false_iff_not]
      left
      omega
  · rw [hcell]
    exact hc j hj
/-- A text turned into bytes. -/
theorem ownC_conv (w : World) (e : TypeId) (s : ByteArray) (hs : s.size ≤ maxLen) : OwnC (Lib.bytesWorld w e s) w.heap.size (.slice (some ⟨w.heap.size, 0, none⟩) s.size (grownCap w s.size 0 e)) s.data.toList := by
  have hge := grownCap_ge w s.size 0 e
  have hsz : (Lib.bytesCells w e s).size = grownCap w s.size 0 e := by
    unfold Lib.bytesCells
    rw [Array.size_append, Array.size_map, Array.size_replicate]
    have : s.data.size = s.size := rfl
    omega
  have := ownC_new (base := w.heap.size) s.data.toList (Lib.bytesWorld_at_new w e s) hsz (.inr (by rw [hsz]; exact Nat.le_refl _)) (Nat.le_refl _) (by rw [← Lib.size_eq]; exact hge) (grownCap_le_maxLen w s.size 0 e hs) (fun j hj => by
    have hj' : j < s.size := by rw [Lib.size_eq]; exact hj
    have h1 := Lib.bytesWorld_cell w e s j hj'
    rw [cell_of_row _ _ j _ _ _ (Lib.bytesWorld_at_new w e s)] at h1
    exact h1)
  rw [← Lib.size_eq] at this
  exact this

theorem grown_setCells (g : Nat) : ∀ (vs : List Value) (o : Nat) (w : World), w.grownBy (w.setCells g o vs) (some g)
  | [], o, w => ⟨rfl, rfl, rfl, Nat.le_refl _, fun _ _ _ => rfl⟩
  | v :: r, o, w => by
    have h1 : w.grownBy (w.setCell ⟨g, o, none⟩ v) (some g) := ⟨rfl, rfl, rfl, by simp [World.setCell], fun k _ hk => Below.heap_setCell _ _ _ _ (fun e => hk (by simp [e]))⟩
    exact h1.trans (grown_setCells g r (o + 1) _)
theorem room {w : World} {base g cap : Nat} {l : List UInt8} (news : List UInt8) (h : OwnC w base (.slice (some ⟨g, 0, none⟩) l.length cap) l) (hr : l.length + news.length ≤ cap) :
    OwnC (w.setCells g l.length (Lib.byteCells news)) base (.slice (some ⟨g, 0, none⟩) (l ++ news).length cap) (l ++ news) := by
  obtain ⟨g', cap', hv, h1, h2, h3, h4, h5, h6⟩ := h
  cases hv
  have hbl := Lib.byteCells_length news
  refine ⟨g, cap, rfl, h1, Nat.lt_of_lt_of_le h2 (grown_setCells g _ _ w).size, by rw [List.length_append]; exact hr, h4, fun j hj => ?_, fun j hj => ?_⟩
  · rw [World.frozen?_setCells]
    refine ⟨?_, (h5 j hj).2⟩
    by_cases hin : l.length ≤ j ∧ j < l.length + news.length
    · have := World.cell?_setCells_in g (Lib.byteCells news) l.length w (fun i hi => (h5 (l.length + i) (by omega)).1) (j - l.length) (by omega)
      rw [show l.length + (j - l.length) = j from by omega] at this
      rw [this]
      rfl
    · rw [World.cell?_setCells_out g (Lib.byteCells news) l.length w ⟨g, j, none⟩ (fun _ _ => by simp only; omega)]
      exact (h5 j hj).1
  · rw [List.length_append] at hj
    by_cases hin : j < l.length
    · rw [World.cell?_setCells_out g (Lib.byteCells news) l.length w ⟨g, j, none⟩ (fun _ _ => by simp only; omega), h6 j hin]
      simp [List.getD_eq_getElem?_getD, List.getElem?_append_left hin, hin]
    · have := World.cell?_setCells_in g (Lib.byteCells news) l.length w (fun i hi => (h5 (l.length + i) (by omega)).1) (j - l.length) (by omega)
      rw [show l.length + (j - l.length) = j from by omega] at this
      rw [this]
      simp [Lib.byteCells, List.getD_eq_getElem?_getD, List.getElem_append, hin, show j < l.length + news.length from hj]
theorem grow {w : World} {base cap : Nat} {e : TypeId} (l news : List UInt8) (hb : base ≤ w.heap.size) (hm : cap ≤ maxLen) (hc : l.length + news.length ≤ cap) :
    OwnC (w.drew.alloc (.cells ((Lib.byteCells l).toArray ++ (Lib.byteCells news).toArray ++ Builtin.zeroCells (Value.int .u8 0).cells (cap - (l.length + news.length))) e)) base (.slice (some ⟨w.heap.size, 0, none⟩) (l ++ news).length cap) (l ++ news) := by
  refine ownC_new (l ++ news) (heap_alloc_new w.drew _) ?_ (.inl rfl) hb (by rw [List.length_append]; exact hc) hm (fun j hj => ?_)
  · rw [Array.size_append, Array.size_append, List.size_toArray, List.size_toArray, size_zeroCells, Lib.byteCells_length, Lib.byteCells_length]
    show _ + (cap - (l.length + news.length)) * 1 = cap
    omega
  · rw [List.length_append] at hj
    have e1 : (Lib.byteCells l).toArray ++ (Lib.byteCells news).toArray = (Lib.byteCells (l ++ news)).toArray := by rw [Lib.byteCells_append]; simp
    rw [e1, Array.getElem?_append_left (by rw [List.size_toArray, Lib.byteCells_length, List.length_append]; exact hj)]
    have hj2 : j < (l ++ news).length := by rw [List.length_append]; exact hj
    clear e1
    generalize l ++ news = q at hj2 ⊢
    simp [Lib.byteCells, List.getD_eq_getElem?_getD, hj2]

section
variable {P : Program} (w : World)
/-- Appending bytes that lie in a block. -/
theorem app_bytes (base : Nat) (t ty e : TypeId) (i : TypeInfo) (ht : P.underlying t = some (.slice e)) (hi : P.info? e = some i) (hz : i.zero = some (.int .u8 0)) (hs1 : i.size = 1) (hby : i.bytes = 1)
    (v : Value) (l : List UInt8) (h : OwnC w base v l) (a : Addr) (c : Nat) (news : List UInt8) (hn : ∀ j u, (Lib.byteCells news)[j]? = some u → w.cell? (a.add j) = some u) (hlen : l.length + news.length ≤ 140737488355328) (hb : base ≤ w.heap.size) :
    ∃ v' w', (Builtin.append_ #[t, t] ty #[v, .slice (some a) news.length c]).run P w = .ok v' w' ∧ OwnC w' base v' (l ++ news) ∧ w.grownBy w' v.ownBlock ∧ (v'.ownBlock = v.ownBlock ∨ v'.ownBlock = some w.heap.size) := by
  have h0 := h
  obtain ⟨g, cap, rfl, h1, h2, h3, h4, h5, h6⟩ := h
  have hbl := Lib.byteCells_length news
  by_cases hr : l.length + news.length ≤ cap
  · have hf := run_firstCells_some (P := P) w 1 news.length a news.length c (Lib.byteCells news) (by rw [hbl, Nat.mul_one]) hn
    have hst := run_storeCells_cells (P := P) g l.length (Lib.byteCells news) 0 w (fun j hj => (h5 (l.length + 0 + j) (by omega)).1) (fun j hj => (h5 (l.length + 0 + j) (by omega)).2) (one_bytes news)
    rw [Nat.add_zero] at hst
    refine ⟨.slice (some ⟨g, 0, none⟩) (l ++ news).length cap, w.setCells g l.length (Lib.byteCells news), ?_, room news h0 hr, grown_setCells g _ _ w, .inl rfl⟩
    rw [List.length_append]
    simp [Builtin.append_, run_underlying ht, sizeOf, typeInfo, hi, hs1, Builtin.lenOf, hr, hf, Addr.add_lit, hst]
  · have hg := run_append_grow (P := P) w t ty e i (.int .u8 0) ht hi hz ⟨g, 0, none⟩ l.length cap (Lib.byteCells l) (by rw [Lib.byteCells_length, hs1, Nat.mul_one]) (fun j u hj => by
      have hj' : j < l.length := by rw [← Lib.byteCells_length]; exact (List.getElem?_eq_some_iff.1 hj).1
      rw [add_at, h6 j hj']
      rw [← hj]
      simp [Lib.byteCells, List.getD_eq_getElem?_getD, hj']) a news.length c (Lib.byteCells news) (by rw [hbl, hs1, Nat.mul_one]) hn (by omega) (by omega) (growslice_fits (by omega) (by rw [hby]; omega))
    refine ⟨_, _, hg, ?_, ⟨rfl, rfl, rfl, by simp, fun k hk _ => heap_alloc_old w.drew _ hk⟩, .inr rfl⟩
    have := grow (w := w) (e := e) (cap := grownCap w (l.length + news.length) cap e) l news hb (grownCap_le_maxLen _ _ _ _ (by unfold maxLen; omega)) (grownCap_ge _ _ _ _)
    rw [List.length_append] at this
    exact this
/-- Appending a text's bytes. -/
theorem app_text (base : Nat) (t u ty e : TypeId) (i : TypeInfo) (ht : P.underlying t = some (.slice e)) (hu : P.underlying u = some .string) (hi : P.info? e = some i) (hz : i.zero = some (.int .u8 0)) (hs1 : i.size = 1) (hby : i.bytes = 1)
    (v : Value) (l : List UInt8) (h : OwnC w base v l) (s : ByteArray) (hlen : l.length + s.size ≤ 140737488355328) (hb : base ≤ w.heap.size) :
    ∃ v' w', (Builtin.append_ #[t, u] ty #[v, .string s]).run P w = .ok v' w' ∧ OwnC w' base v' (l ++ s.data.toList) ∧ w.grownBy w' v.ownBlock ∧ (v'.ownBlock = v.ownBlock ∨ v'.ownBlock = some w.heap.size) := by
  have h0 := h
  obtain ⟨g, cap, rfl, h1, h2, h3, h4, h5, h6⟩ := h
  have hbl := Lib.byteCells_length s.data.toList
  have hse := Lib.size_eq s
  by_cases hr : l.length + s.size ≤ cap
  · have hf := Lib.run_firstCells_string (P := P) w 1 s
    have hst := run_storeCells_cells (P := P) g l.length (Lib.strCells s) 0 w (fun j hj => (h5 (l.length + 0 + j) (by rw [Lib.strCells_length] at hj; omega)).1) (fun j hj => (h5 (l.length + 0 + j) (by rw [Lib.strCells_length] at hj; omega)).2) (Lib.strCells_oneCell s)
    rw [Nat.add_zero] at hst
    refine ⟨.slice (some ⟨g, 0, none⟩) (l ++ s.data.toList).length cap, w.setCells g l.length (Lib.byteCells s.data.toList), ?_, room s.data.toList h0 (by omega), grown_setCells g _ _ w, .inl rfl⟩
    rw [List.length_append, ← hse, ← Lib.strCells_eq]
    simp [Builtin.append_, run_underlying ht, run_underlying hu, sizeOf, typeInfo, hi, hs1, Builtin.lenOf, hr, hf, Addr.add_lit, hst]
  · have hg := Lib.run_append_grow_string (P := P) w t u ty e i (.int .u8 0) ht hu hi hz ⟨g, 0, none⟩ l.length cap (Lib.byteCells l) (by rw [Lib.byteCells_length, hs1, Nat.mul_one]) (fun j u hj => by
      have hj' : j < l.length := by rw [← Lib.byteCells_length]; exact (List.getElem?_eq_some_iff.1 hj).1
      rw [add_at, h6 j hj']
      rw [← hj]
      simp [Lib.byteCells, List.getD_eq_getElem?_getD, hj']) s (by omega) (by omega) (growslice_fits (by omega) (by rw [hby]; omega))
    refine ⟨_, _, hg, ?_, ⟨rfl, rfl, rfl, by simp, fun k hk _ => heap_alloc_old w.drew _ hk⟩, .inr rfl⟩
    have := grow (w := w) (e := e) (cap := grownCap w (l.length + s.size) cap e) l s.data.toList hb (grownCap_le_maxLen _ _ _ _ (by unfold maxLen; omega)) (by rw [← hse]; exact grownCap_ge _ _ _ _)
    rw [List.length_append, ← hse] at this
    exact this
/-- The two appends as operations of a walk. -/
theorem wp_bytes {ops : Array Oper} {rest : List Oper} {o : Oper} {a : Act} {Q : Exit → Act → World → Prop} (hgd : o.guard = none) (s x : Operand) (t : TypeId) (ho : o.op = .call { callee := .builtin .append, args := #[s, x], argTypes := #[t, t] })
    (base : Nat) (e : TypeId) (i : TypeInfo) (ht : P.underlying t = some (.slice e)) (hi : P.info? e = some i) (hz : i.zero = some (.int .u8 0)) (hs1 : i.size = 1) (hby : i.bytes = 1)
    (v : Value) (l : List UInt8) (hs : a.eval s = v) (h : OwnC w base v l) (ad : Addr) (m c : Nat) (news : List UInt8) (hx : a.eval x = .slice (some ad) m c) (hm : news.length = m) (hn : ∀ j u, (Lib.byteCells news)[j]? = some u → w.cell? (ad.add j) = some u) (hlen : l.length + m ≤ 140737488355328) (hb : base ≤ w.heap.size)
    (H : ∀ v' w', OwnC w' base v' (l ++ news) → w.grownBy w' v.ownBlock → (v'.ownBlock = v.ownBlock ∨ v'.ownBlock = some w.heap.size) → wpList P ops Q rest (a.put o.dst v') w') : wpList P ops Q (o :: rest) a w := by
  subst hm
  refine wpList_plain hgd fun K hK => ?_
  obtain ⟨v', w', hr, h2, h3, h4⟩ := app_bytes (P := P) w base t o.type e i ht hi hz hs1 hby v l h ad c news hn hlen hb
  unfold Oper.wp execOp
  simp only [ho, resolve, invoke, builtin, Sem.run_bind, Sem.run_pure, Result.andThen_ok, List.map_toArray, List.map_cons, List.map_nil, hs, hx, hr]
  exact hK _ _ (H v' w' h2 h3 h4)
theorem wp_text {ops : Array Oper} {rest : List Oper} {o : Oper} {a : Act} {Q : Exit → Act → World → Prop} (hgd : o.guard = none) (sl x : Operand) (t u : TypeId) (ho : o.op = .call { callee := .builtin .append, args := #[sl, x], argTypes := #[t, u] })
    (base : Nat) (e : TypeId) (i : TypeInfo) (ht : P.underlying t = some (.slice e)) (hu : P.underlying u = some .string) (hi : P.info? e = some i) (hz : i.zero = some (.int .u8 0)) (hs1 : i.size = 1) (hby : i.bytes = 1)
    (v : Value) (l : List UInt8) (hs : a.eval sl = v) (h : OwnC w base v l) (s : ByteArray) (hx : a.eval x = .string s) (hlen : l.length + s.size ≤ 140737488355328) (hb : base ≤ w.heap.size)
    (H : ∀ v' w', OwnC w' base v' (l ++ s.data.toList) → w.grownBy w' v.ownBlock → (v'.ownBlock = v.ownBlock ∨ v'.ownBlock = some w.heap.size) → wpList P ops Q rest (a.put o.dst v') w') : wpList P ops Q (o :: rest) a w := by
  refine wpList_plain hgd fun K hK => ?_
  obtain ⟨v', w', hr, h2, h3, h4⟩ := app_text (P := P) w base t u o.type e i ht hu hi hz hs1 hby v l h s hlen hb
  unfold Oper.wp execOp
  simp only [ho, resolve, invoke, builtin, Sem.run_bind, Sem.run_pure, Result.andThen_ok, List.map_toArray, List.map_cons, List.map_nil, hs, hx, hr]
  exact hK _ _ (H v' w' h2 h3 h4)
end
theorem conv_ownC {P : Program} {w : World} {base : Nat} {src dst e : TypeId} {v : Value} (l : List UInt8) (h : OwnC w base v l)
    (hs : P.underlying src = some (.slice e)) (he : P.underlying e = some (.int .u8)) (hd : P.underlying dst = some .string) : (convert src dst v).run P w = .ok (.string ⟨l.toArray⟩) w := by
  obtain ⟨g, cap, rfl, _, _, _, _, _, h6⟩ := h
  refine run_convert_bytes_back w src dst e ⟨g, 0, none⟩ cap l hs he hd (fun j hj => ?_)
  rw [add_at, h6 j hj]
  simp [List.getD_eq_getElem?_getD, hj]
theorem kept_block {w w' : World} {v v' : Value} {g : Nat} {o : Obj} (hb : v.ownBlock ≠ some g) (hg : w.grownBy w' v.ownBlock) (ho : w.heap[g]? = some o) (hv : v'.ownBlock = v.ownBlock ∨ v'.ownBlock = some w.heap.size) : w'.heap[g]? = some o ∧ v'.ownBlock ≠ some g := by
  have hlt := (Array.getElem?_eq_some_iff.1 ho).1
  refine ⟨(hg.block g hlt (fun e => hb e.symm)).trans ho, ?_⟩
  rcases hv with hv | hv
  · rw [hv]; exact hb
  · rw [hv]
    intro e
    cases e
    omega
/-- What was below stays, behind such an append. -/
theorem app_below {w w' W : World} {base : Nat} {v : Value} {l : List UInt8} (h : OwnC w base v l) (hb : Below base W w) (hB : base ≤ w.heap.size) (hg : w.grownBy w' v.ownBlock) : Below base W w' := Below.grown hb hg hB (ownC_block h)
end Go.Proofs.YtadfdfmebdcfgaaGreatDoor.ow

namespace Go.Proofs.YtadfdfmebdcfgaaGreatDoor.lo
open Go.RowKit
set_option linter.unusedVariables false

/-- A great letter's small one. -/
def low (c : UInt8) : UInt8 := if 65 ≤ c.toNat ∧ c.toNat ≤ 90 then UInt8.ofNat (c.toNat + 32) else c
def lower (l : List UInt8) : List UInt8 := l.map low
theorem lower_len (l : List UInt8) : (lower l).length = l.length := List.length_map _
/-- The first so many letters written in small ones. -/
def upTo (l : List UInt8) (k : Nat) : List UInt8 := lower (l.take k) ++ l.drop k
theorem upTo_len (l : List UInt8) (k : Nat) : (upTo l k).length = l.length := by
  rw [upTo, List.length_append, lower_len, List.length_take, List.length_drop]; omega
theorem upTo_zero (l : List UInt8) : upTo l 0 = l := by simp [upTo, lower]
theorem upTo_all (l : List UInt8) (k : Nat) (h : l.length ≤ k) : upTo l k = lower l := by
  rw [upTo, List.take_of_length_le h, List.drop_eq_nil_of_le h, List.append_nil]
theorem upTo_at (l : List UInt8) (k : Nat) (h : k < l.length) : (upTo l k).getD k 0 = l.getD k 0 := by
  have hk : (lower (l.take k)).length = k := by rw [lower_len, List.length_take]; omega
  simp only [upTo, List.getD_eq_getElem?_getD]
  rw [List.getElem?_append_right (by omega), hk, Nat.sub_self, List.getElem?_drop, Nat.add_zero]
theorem upTo_step (l : List UInt8) (k : Nat) (h : k < l.length) : upTo l (k + 1) = (upTo l k).set k (low (l.getD k 0)) := by
  have hk : (lower (l.take k)).length = k := by rw [lower_len, List.length_take]; omega
  have e : l.getD k 0 = l[k] := by simp [List.getD_eq_getElem?_getD, h]
  unfold upTo
  rw [List.set_append_right _ _ (by omega), hk, Nat.sub_self, List.drop_eq_getElem_cons h, List.set_cons_zero, List.take_succ_eq_append_getElem h, e]
  unfold lower
  rw [List.map_append, List.append_assoc]
  rfl
theorem upTo_same (l : List UInt8) (k : Nat) (h : k < l.length) (hc : low (l.getD k 0) = l.getD k 0) : upTo l (k + 1) = upTo l k := by
  rw [upTo_step l k h, hc, ← upTo_at l k h]
  have hl : k < (upTo l k).length := by rw [upTo_len]; exact h
  rw [List.getD_eq_getElem?_getD, List.getElem?_eq_getElem hl, Option.getD_some, List.set_getElem_self]

theorem ownC_set {w : World} {base g cap n : Nat} {l : List UInt8} (h : ow.OwnC w base (.slice (some ⟨g, 0, none⟩) n cap) l) (j : Nat) (c : UInt8) (hj : j < l.length) :
    ow.OwnC (w.setCell ⟨g, j, none⟩ (.int .u8 (c.toNat : Int))) base (.slice (some ⟨g, 0, none⟩) n cap) (l.set j c) := by
  obtain ⟨g', cap', hv, h1, h2, h3, h4, h5, h6⟩ := h
  simp only [Value.slice.injEq, Option.some.injEq, Addr.mk.injEq, and_true] at hv
  obtain ⟨rfl, rfl, rfl⟩ := hv
  have hne : ∀ i, i ≠ j → (⟨g, j, none⟩ : Addr) ≠ ⟨g, i, none⟩ := fun i hi e => hi (by simpa using e.symm)
  refine ⟨g, cap, by rw [List.length_set], h1, by simpa [World.setCell] using h2, by rw [List.length_set]; exact h3, h4, fun i hi => ?_, fun i hi => ?_⟩
  · have hf : (w.setCell ⟨g, j, none⟩ (.int .u8 (c.toNat : Int))).frozen? ⟨g, i, none⟩ = w.frozen? ⟨g, i, none⟩ := World.frozen?_setCells g [.int .u8 (c.toNat : Int)] j w ⟨g, i, none⟩
    refine ⟨?_, hf.trans (h5 i hi).2⟩
    by_cases e : i = j
    · subst e
      obtain ⟨u, hu⟩ := Option.isSome_iff_exists.1 (h5 i hi).1
      rw [World.cell?_setCell_same _ _ _ hu]
      rfl
    · rw [World.cell?_setCell_other _ _ _ _ (hne i e)]
      exact (h5 i hi).1
  · rw [List.length_set] at hi
    by_cases e : i = j
    · subst e
      rw [World.cell?_setCell_same _ _ _ (h6 i hi)]
      simp [List.getD_eq_getElem?_getD, hi]
    · rw [World.cell?_setCell_other _ _ _ _ (hne i e), h6 i hi]
      rw [List.getD_eq_getElem?_getD, List.getD_eq_getElem?_getD, List.getElem?_set_ne (by omega)]
theorem conv_part {P : Program} {w : World} {src dst e : TypeId} {g cap : Nat} (l : List UInt8) (hs : P.underlying src = some (.slice e)) (he : P.underlying e = some (.int .u8)) (hd : P.underlying dst = some .string)
    (hc : ∀ j, j < l.length → w.cell? ⟨g, j, none⟩ = some (.int .u8 ((l.getD j 0).toNat : Int))) : (convert src dst (.slice (some ⟨g, 0, none⟩) l.length cap)).run P w = .ok (.string ⟨l.toArray⟩) w := by
  refine run_convert_bytes_back w src dst e ⟨g, 0, none⟩ cap l hs he hd (fun j hj => ?_)
  rw [show ((⟨g, 0, none⟩ : Addr).add j) = ⟨g, j, none⟩ from by simp [Addr.add]; omega, hc j hj]
  simp [List.getD_eq_getElem?_getD, hj]
theorem low_great {c : UInt8} (h1 : 65 ≤ (c.toNat : Int)) (h2 : (c.toNat : Int) ≤ 90) : ((low c).toNat : Int) = (c.toNat : Int) + 32 := by
  unfold low
  rw [if_pos (by omega), UInt8.toNat_ofNat']
  omega
theorem low_other {c : UInt8} (h : ¬ (65 ≤ (c.toNat : Int) ∧ (c.toNat : Int) ≤ 90)) : low c = c := by
  unfold low
  rw [if_neg (by omega)]

/-- Bytes made of a text, of which the first so many letters are small. -/
def Mid (w wr : World) (s : ByteArray) (cap k : Nat) : Prop := ow.OwnC wr w.heap.size (.slice (some ⟨w.heap.size, 0, none⟩) s.size cap) (upTo s.data.toList k) ∧ Below w.heap.size w wr
theorem mid_start (w : World) (s : ByteArray) (hs : s.size ≤ maxLen) : Mid w (Lib.bytesWorld w 5 s) s (grownCap w s.size 0 5) 0 := by
  refine ⟨?_, ow.below_conv w _ s⟩
  rw [upTo_zero]
  exact ow.ownC_conv w _ s hs
section
variable {w wr : World} {s : ByteArray} {cap k : Nat}
theorem Mid.cell (h : Mid w wr s cap k) (hk : k < s.size) : wr.cell? ⟨w.heap.size, k, none⟩ = some (.int .u8 (((s[k]'hk).toNat : Nat) : Int)) := by
  obtain ⟨g, cap', hv, h1, h2, h3, h4, h5, h6⟩ := h.1
  simp only [Value.slice.injEq, Option.some.injEq, Addr.mk.injEq, and_true] at hv
  obtain ⟨rfl, hl, rfl⟩ := hv
  have hk' : k < s.data.toList.length := by rw [← Lib.size_eq]; exact hk
  rw [h6 k (by rw [upTo_len]; exact hk'), upTo_at _ _ hk']
  rw [List.getD_eq_getElem?_getD, List.getElem?_eq_getElem hk']
  rfl
theorem Mid.free (h : Mid w wr s cap k) (hk : k < s.size) : wr.frozen? ⟨w.heap.size, k, none⟩ = false := by
  obtain ⟨g, cap', hv, h1, h2, h3, h4, h5, h6⟩ := h.1
  simp only [Value.slice.injEq, Option.some.injEq, Addr.mk.injEq, and_true] at hv
  obtain ⟨rfl, hl, rfl⟩ := hv
  exact (h5 k (by rw [← hl] at h3; omega)).2
theorem getD_at (hk : k < s.size) : s.data.toList.getD k 0 = s[k] := by
  have hk' : k < s.data.toList.length := by rw [← Lib.size_eq]; exact hk
  rw [List.getD_eq_getElem?_getD, List.getElem?_eq_getElem hk']
  rfl
theorem Mid.great (h : Mid w wr s cap k) (hk : k < s.size) (h1 : 65 ≤ ((s[k]'hk).toNat : Int)) (h2 : ((s[k]'hk).toNat : Int) ≤ 90) : Mid w (wr.setCell ⟨w.heap.size, k, none⟩ (.int .u8 (((s[k]'hk).toNat : Int) + 32))) s cap (k + 1) := by
  have hk' : k < s.data.toList.length := by rw [← Lib.size_eq]; exact hk
  refine ⟨?_, h.2.setCell (p := ⟨w.heap.size, k, none⟩) (Nat.le_refl _) _⟩
  rw [upTo_step _ _ hk', getD_at hk, ← low_great h1 h2]
  exact ownC_set h.1 k _ (by rw [upTo_len]; exact hk')
theorem Mid.other (h : Mid w wr s cap k) (hk : k < s.size) (hn : ¬ (65 ≤ ((s[k]'hk).toNat : Int) ∧ ((s[k]'hk).toNat : Int) ≤ 90)) : Mid w wr s cap (k + 1) := by
  have hk' : k < s.data.toList.length := by rw [← Lib.size_eq]; exact hk
  refine ⟨?_, h.2⟩
  rw [upTo_same _ _ hk' (by rw [getD_at hk]; exact low_other hn)]
  exact h.1
theorem Mid.text (h : Mid w wr s cap k) (hk : s.size ≤ k) : (convert 22 9 (.slice (some ⟨w.heap.size, 0, none⟩) s.size cap)).run Tryz.prog wr = .ok (.string ⟨(lower s.data.toList).toArray⟩) wr := by
  obtain ⟨g, cap', hv, h1, h2, h3, h4, h5, h6⟩ := h.1
  simp only [Value.slice.injEq, Option.some.injEq, Addr.mk.injEq, and_true] at hv
  obtain ⟨rfl, hl, rfl⟩ := hv
  rw [upTo_all _ _ (by rw [← Lib.size_eq]; exact hk)] at hl h6
  rw [hl]
  exact conv_part (lower s.data.toList) Tryz.underlying22 Tryz.underlying5 Tryz.underlying9 h6
end
theorem u8_add {c : Int} (h1 : 65 ≤ c) (h2 : c ≤ 90) : IntKind.u8.wrap (c + 32) = c + 32 := by
  have h256 : (2 : Int) ^ IntKind.u8.bits = 256 := rfl
  unfold IntKind.wrap
  simp only [h256, show IntKind.u8.signed = false from rfl, Bool.false_and, Bool.false_eq_true, if_false]
  omega

set_option maxHeartbeats 2000000 in
set_option maxRecDepth 100000 in
theorem impl_lower (s : ByteArray) (w : World) (hs : s.size ≤ 1048576) :
    Calls Tryz.prog 163 #[.string s] w fun e w' => e = .returned (.string ⟨(lower s.data.toList).toArray⟩) ∧ Below w.heap.size w w' := by
  have hcv := Lib.run_convert_string_bytes (P := Tryz.prog) w 9 22 5 s Tryz.underlying9 Tryz.underlying22 Tryz.underlying5
  have HM0 : Hid (Mid w (Lib.bytesWorld w 5 s) s (grownCap w s.size 0 5) 0) := mid_start w s (by unfold maxLen; omega)
  generalize grownCap w s.size 0 5 = cap at hcv HM0
  generalize Lib.bytesWorld w 5 s = W0 at hcv HM0
  go_enter Tryz.func163, Tryz.ntmps163
  go_wp2
  go_loopw [10] (fun i wr => ∃ k : Nat, k ≤ s.size ∧ i = .int .i64 k ∧ Mid w wr s cap k) (fun i _ => s.size - (intOf i).toNat)
  case atStart => exact ⟨0, Nat.zero_le _, rfl, HM0.out⟩
  case round =>
    clear hcv HM0
    obtain ⟨k, hk, rfl, hmid⟩ := hrel
    have HM : Hid (Mid w wr s cap k) := hmid
    by_cases hlt : k < s.size
    · have hlt' : (k : Int) < (s.size : Int) := by omega
      have c0 := hmid.cell hlt
      have f0 := hmid.free hlt
      clear hmid
      by_cases h1 : 65 ≤ ((s[k]'hlt).toNat : Int)
      · have d1 : decide (65 ≤ ((s[k]'hlt).toNat : Int)) = true := decide_eq_true h1
        by_cases h2 : ((s[k]'hlt).toNat : Int) ≤ 90
        · have d2 : decide (((s[k]'hlt).toNat : Int) ≤ 90) = true := decide_eq_true h2
          have hw1 : IntKind.u8.wrap (((s[k]'hlt).toNat : Int) - 65) = ((s[k]'hlt).toNat : Int) - 65 := by
            have h256 : (2 : Int) ^ IntKind.u8.bits = 256 := rfl
            unfold IntKind.wrap
            simp only [h256, show IntKind.u8.signed = false from rfl, Bool.false_and, Bool.false_eq_true, if_false]
            omega
          have hw2 : IntKind.u8.wrap (((s[k]'hlt).toNat : Int) - 65 + 97) = ((s[k]'hlt).toNat : Int) + 32 := by
            rw [show ((s[k]'hlt).toNat : Int) - 65 + 97 = ((s[k]'hlt).toNat : Int) + 32 from by omega]
            exact u8_add h1 h2
          have HN : Hid (Mid w (wr.setCell ⟨w.heap.size, k, none⟩ (.int .u8 (((s[k]'hlt).toNat : Int) + 32))) s cap (k + 1)) := HM.out.great hlt h1 h2
          go_wp2
          go_roundw
          case rel =>
            refine ⟨k + 1, by omega, by go_num, ?_⟩
            first | exact HN.out | (rw [show ((s[k]'hlt).toNat : Int) - 65 + 97 = ((s[k]'hlt).toNat : Int) + 32 from by omega]; exact HN.out)
          case measure => simp [intOf]; omega
        · have d2 : decide (((s[k]'hlt).toNat : Int) ≤ 90) = false := decide_eq_false h2
          have HN : Hid (Mid w wr s cap (k + 1)) := HM.out.other hlt (fun h => h2 h.2)
          go_wp2
          go_roundw
          case rel => exact ⟨k + 1, by omega, by go_num, HN.out⟩
          case measure => simp [intOf]; omega
      · have d1 : decide (65 ≤ ((s[k]'hlt).toNat : Int)) = false := decide_eq_false h1
        have HN : Hid (Mid w wr s cap (k + 1)) := HM.out.other hlt (fun h => h1 h.1)
        go_wp2
        go_roundw
        case rel => exact ⟨k + 1, by omega, by go_num, HN.out⟩
        case measure => simp [intOf]; omega
    · have hlt' : ¬ (k : Int) < (s.size : Int) := by omega
      have htx := hmid.text (by omega)
      clear hmid
      go_wp2
      go_ret
      exact ⟨rfl, HM.out.2⟩
end Go.Proofs.YtadfdfmebdcfgaaGreatDoor.lo

namespace Go.Proofs.YtadfdfmebdcfgaaGreatDoor.fa
open Go.RowKit
set_option linter.unusedVariables false

abbrev Pr := ByteArray × ByteArray
def no : Pr := (⟨#[]⟩, ⟨#[]⟩)
/-- A slice of attributes. -/
def AttrsAt (w : World) (v : Value) (ps : List Pr) : Prop :=
  ∃ a cap, v = .slice a ps.length cap ∧ (ps = [] ∨ ∃ b off, a = some ⟨b, off, none⟩ ∧ ∀ j, j < ps.length → w.cell? ⟨b, off + j * 2, none⟩ = some (.string (ps.getD j no).1) ∧ w.cell? ⟨b, off + j * 2 + 1, none⟩ = some (.string (ps.getD j no).2))
theorem at_below {w w' : World} {v : Value} {ps : List Pr} (h : AttrsAt w v ps) (hb : Below w.heap.size w w') : AttrsAt w' v ps := by
  obtain ⟨a, cap, rfl, h⟩ := h
  refine ⟨a, cap, rfl, ?_⟩
  rcases h with h | ⟨b, off, rfl, h⟩
  · exact .inl h
  · refine .inr ⟨b, off, rfl, fun j hj => ?_⟩
    obtain ⟨h0, h1⟩ := h j hj
    have hl := World.block_lt_of_cell? w _ h0
    exact ⟨(hb.cell (p := ⟨b, off + j * 2, none⟩) hl).trans h0, (hb.cell (p := ⟨b, off + j * 2 + 1, none⟩) hl).trans h1⟩

/-- Attributes of a size that a law takes. -/
def Small (ps : List Pr) : Prop := ps.length ≤ 1048576 ∧ ∀ j, j < ps.length → (ps.getD j no).1.size ≤ 1048576 ∧ (ps.getD j no).2.size ≤ 1048576

end Go.Proofs.YtadfdfmebdcfgaaGreatDoor.fa

namespace Go.Proofs.YtadfdfmebdcfgaaGreatDoor.gr
open Go.RowKit
set_option linter.unusedVariables false

/-- What a world may have grown to. -/
def Ext (w : World) : Type := { x : World // Below w.heap.size w x }
def gw {w : World} (x : Ext w) : World := x.1
section
variable {P : Program} {w : World}
theorem gw_below (x : Ext w) : Below w.heap.size w (gw x) := x.2
theorem ext_some (w : World) : Nonempty (Ext w) := ⟨⟨w, Below.refl _ _⟩⟩
theorem gw_cell (x : Ext w) {p : Addr} {v : Value} (h : w.cell? p = some v) : (gw x).cell? p = some v := (x.2.cell (World.block_lt_of_cell? w _ h)).trans h
theorem region_lit {id : Nat} {Q : Exit → Act → World → Prop} {a : Act} {l : List Oper} (hm : P.follows .mixedOrders = true) (hB : Region.lexB .any l.toArray = true)
    (h : wpQuiet P l.toArray (fun w' => ∃ x : Ext w, w' = gw x) (fun a' => ∀ w', (∃ x : Ext w, w' = gw x) → Q .normal a' w') l a) : (Code.region id l.toArray true).wp P Q a w :=
  wp_region_quiet (C := fun w' => ∃ x : Ext w, w' = gw x) hm hB ⟨⟨_, (Below.refl _ w).drew⟩, rfl⟩ (by simpa using h)
theorem grow_of {f : FuncId} {args : Array Value} {x : Ext w} {v : Value} (h : Calls P f args (gw x) fun e w' => e = .returned v ∧ Below (gw x).heap.size (gw x) w') :
    Calls P f args (gw x) fun e w'' => e = .returned v ∧ ∃ y : Ext w, w'' = gw y :=
  h.mono fun e w' ⟨he, hb⟩ => ⟨he, ⟨w', (gw_below x).trans (hb.mono (gw_below x).size)⟩, rfl⟩
end
end Go.Proofs.YtadfdfmebdcfgaaGreatDoor.gr
