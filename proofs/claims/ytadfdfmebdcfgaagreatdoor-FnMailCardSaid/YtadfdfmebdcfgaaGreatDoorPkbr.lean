/-
  The contract of the program's letterOf: the mail of a right entry, its fields in a row.
-/
import Derived.Test.YtadfdfmebdcfgaaGreatDoorPkbq
import Derived.Shelf.Strconv.Itoa3

namespace Go.Proofs.YtadfdfmebdcfgaaGreatDoor.rn
open Go.RowKit
open gr rr
set_option linter.unusedVariables false

theorem lt_of_heap {w : World} {g : Nat} {o : Obj} (h : w.heap[g]? = some o) : g < w.heap.size := (Array.getElem?_eq_some_iff.1 h).1
theorem heap_new (w : World) (o : Obj) : (w.alloc o).heap[w.heap.size]? = some o := by show (w.heap.push _)[w.heap.size]? = _; simp
/-- What stands while a letter is made: nothing below it changes, and it has two cells. -/
structure Cl (L : Nat) (X w : World) : Prop where
  below : Below L X w
  box : ∃ a b, b2.Box w L 43 a b
theorem Cl.lt {L : Nat} {X w : World} (h : Cl L X w) : L < w.heap.size := by obtain ⟨a, b, hb⟩ := h.box; exact hb.lt
theorem Cl.keep {L : Nat} {X w w' : World} (h : Cl L X w) (hb : Below w.heap.size w w') : Cl L X w' := by
  obtain ⟨a, b, hx⟩ := h.box
  exact ⟨h.below.trans (hb.mono (Nat.le_of_lt hx.lt)), a, b, hx.below hb⟩
/-- What the operations that lay memory bring. -/
def SL (L : Nat) (s q : ByteArray) (cs : Array Value) : Nat → Value → World → Prop
  | 12, v, w => ∃ g n cap, v = .slice (some ⟨g, 0, none⟩) n cap ∧ L < g ∧ ow.Lies w (.slice (some ⟨g, 0, none⟩) n cap) s.data.toList
  | 30, v, w => ∃ g, v = .slice (some ⟨g, 0, none⟩) 9 9 ∧ L < g ∧ w.heap[g]? = some (.cells cs 81 (0, 0))
  | 31, v, w => ∃ g, v = .agg #[.slice (some ⟨g, 0, none⟩) 9 9, .string q] ∧ L < g ∧ w.heap[g]? = some (.cells cs 81 (0, 0))
  | 32, _, w => ∃ g, b2.Box w L 43 (.slice (some ⟨g, 0, none⟩) 9 9) (.string q) ∧ L < g ∧ w.heap[g]? = some (.cells cs 81 (0, 0))
  | _, _, _ => True
theorem lies_keep {w w' : World} {v : Value} {l : List UInt8} (h : ow.Lies w v l) (hk : ∀ (g o : Nat) (x : Value), v.ownBlock = some g → w.cell? ⟨g, o, none⟩ = some x → w'.cell? ⟨g, o, none⟩ = some x) : ow.Lies w' v l := by
  obtain ⟨a, cap, rfl, h | ⟨b, rfl, hc, hj⟩⟩ := h
  · exact ⟨a, cap, rfl, .inl h⟩
  · exact ⟨_, cap, rfl, .inr ⟨b, rfl, hc, fun j hl => hk b j _ rfl (hj j hl)⟩⟩
theorem sl_keep (L : Nat) (s q : ByteArray) (cs : Array Value) : ∀ n v w w', SL L s q cs n v w → Below w.heap.size w w' → SL L s q cs n v w' := by
  intro n v w w' h hb
  unfold SL at h ⊢
  split
  · obtain ⟨g, n, cap, e, hg, hl⟩ := h
    exact ⟨g, n, cap, e, hg, lies_keep hl fun g o x _ hx => (hb.cell (p := ⟨g, o, none⟩) (World.block_lt_of_cell? w _ hx)).trans hx⟩
  · obtain ⟨g, e, hg, hh⟩ := h
    exact ⟨g, e, hg, (hb.block g (lt_of_heap hh)).trans hh⟩
  · obtain ⟨g, e, hg, hh⟩ := h
    exact ⟨g, e, hg, (hb.block g (lt_of_heap hh)).trans hh⟩
  · obtain ⟨g, e, hg, hh⟩ := h
    exact ⟨g, e.below hb, hg, (hb.block g (lt_of_heap hh)).trans hh⟩
  · trivial
theorem cell_heap {w w' : World} {g o : Nat} (h : w'.heap[g]? = w.heap[g]?) : w'.cell? ⟨g, o, none⟩ = w.cell? ⟨g, o, none⟩ := by
  unfold World.cell?
  simp only [h]
theorem put_heap {w : World} {L g : Nat} {a b : Value} (hg : g ≠ L) : (b2.put w L a b).heap[g]? = w.heap[g]? := by
  unfold b2.put
  rw [heap_setCell_other _ _ _ _ (by exact hg), heap_setCell_other _ _ _ _ (by exact hg)]
theorem put_other {w : World} {L g : Nat} {o : Obj} {a b : Value} (hg : L < g) (h : w.heap[g]? = some o) : (b2.put w L a b).heap[g]? = some o := by
  rw [put_heap (by omega)]
  exact h
theorem sl_put {L n : Nat} {s q : ByteArray} {cs : Array Value} {v a b : Value} {w : World} (hn : n ≠ 32) (h : SL L s q cs n v w) : SL L s q cs n v (b2.put w L a b) := by
  unfold SL at h ⊢
  split
  · obtain ⟨g, n, cap, e, hg, hl⟩ := h
    refine ⟨g, n, cap, e, hg, lies_keep hl fun g' o x hx hc => ?_⟩
    have : g = g' := by simpa [Value.ownBlock] using hx
    subst this
    rw [cell_heap (put_heap (by omega))]
    exact hc
  · obtain ⟨g, e, hg, hh⟩ := h
    exact ⟨g, e, hg, put_other hg hh⟩
  · obtain ⟨g, e, hg, hh⟩ := h
    exact ⟨g, e, hg, put_other hg hh⟩
  · exact absurd rfl hn
  · trivial
def CSA (box DG A1 T1 I1 L1 D8 : ByteArray) : Array Value := #[.string ⟨#[70, 114, 111, 109]⟩, .string (A1), .string ⟨#[68, 97, 116, 101]⟩, .string (D8), .string ⟨#[83, 117, 98, 106, 101, 99, 116]⟩, .string (T1), .string ⟨#[77, 101, 115, 115, 97, 103, 101, 45, 73, 68]⟩, .string ((((⟨#[60]⟩ ++ DG) ++ ⟨#[64]⟩) ++ box) ++ ⟨#[62]⟩), .string ⟨#[88, 45, 73, 100]⟩, .string (I1), .string ⟨#[88, 45, 76, 105, 110, 107]⟩, .string (L1), .string ⟨#[77, 73, 77, 69, 45, 86, 101, 114, 115, 105, 111, 110]⟩, .string (⟨#[49, 46, 48]⟩), .string ⟨#[67, 111, 110, 116, 101, 110, 116, 45, 84, 121, 112, 101]⟩, .string (⟨#[116, 101, 120, 116, 47, 112, 108, 97, 105, 110, 59, 32, 99, 104, 97, 114, 115, 101, 116, 61, 117, 116, 102, 45, 56]⟩), .string ⟨#[67, 111, 110, 116, 101, 110, 116, 45, 84, 114, 97, 110, 115, 102, 101, 114, 45, 69, 110, 99, 111, 100, 105, 110, 103]⟩, .string (⟨#[113, 117, 111, 116, 101, 100, 45, 112, 114, 105, 110, 116, 97, 98, 108, 101]⟩)]
def Vi (i t l a Q box DG : ByteArray) (SM : Nat) (A1 T1 I1 L1 D8 : ByteArray) (Bx : Nat) : List (Option Value) := [some (.string (Q)), some (.string (Q ++ ⟨#[13, 10]⟩)), some (.pointer (some ⟨Bx, 3, none⟩)), some (.string (a)), some (.agg #[.string ⟨#[70, 114, 111, 109]⟩, .string (A1)]), some (.string (D8)), some (.agg #[.string ⟨#[68, 97, 116, 101]⟩, .string (D8)]), some (.pointer (some ⟨Bx, 1, none⟩)), some (.string (t)), some (.agg #[.string ⟨#[83, 117, 98, 106, 101, 99, 116]⟩, .string (T1)]), some (.pointer (some ⟨Bx, 0, none⟩)), some (.string (i)), none, some (.int .i64 (SM : Nat)), some (.string (DG)), some (.string (⟨#[60]⟩ ++ DG)), some (.string ((⟨#[60]⟩ ++ DG) ++ ⟨#[64]⟩)), some (.string (box)), some (.string (((⟨#[60]⟩ ++ DG) ++ ⟨#[64]⟩) ++ box)), some (.string ((((⟨#[60]⟩ ++ DG) ++ ⟨#[64]⟩) ++ box) ++ ⟨#[62]⟩)), some (.agg #[.string ⟨#[77, 101, 115, 115, 97, 103, 101, 45, 73, 68]⟩, .string ((((⟨#[60]⟩ ++ DG) ++ ⟨#[64]⟩) ++ box) ++ ⟨#[62]⟩)]), some (.pointer (some ⟨Bx, 0, none⟩)), some (.string (i)), some (.agg #[.string ⟨#[88, 45, 73, 100]⟩, .string (I1)]), some (.pointer (some ⟨Bx, 2, none⟩)), some (.string (l)), some (.agg #[.string ⟨#[88, 45, 76, 105, 110, 107]⟩, .string (L1)]), some (.agg #[.string ⟨#[77, 73, 77, 69, 45, 86, 101, 114, 115, 105, 111, 110]⟩, .string (⟨#[49, 46, 48]⟩)]), some (.agg #[.string ⟨#[67, 111, 110, 116, 101, 110, 116, 45, 84, 121, 112, 101]⟩, .string (⟨#[116, 101, 120, 116, 47, 112, 108, 97, 105, 110, 59, 32, 99, 104, 97, 114, 115, 101, 116, 61, 117, 116, 102, 45, 56]⟩)]), some (.agg #[.string ⟨#[67, 111, 110, 116, 101, 110, 116, 45, 84, 114, 97, 110, 115, 102, 101, 114, 45, 69, 110, 99, 111, 100, 105, 110, 103]⟩, .string (⟨#[113, 117, 111, 116, 101, 100, 45, 112, 114, 105, 110, 116, 97, 98, 108, 101]⟩)]), none, none, none]

theorem itoaI (n : Nat) (h : n < 4294967296) (w : World) (hT : td.TP w) : Calls Tryz.prog 51 #[.int .i64 n] w fun e w' => e = .returned (.string ⟨(Lib.decDigits n).toArray⟩) ∧ Below w.heap.size w w' := by
  refine (Any.strconv_Itoa Tryz.laysM171 n (by omega) (by omega) w (td.tp_is hT)).mono ?_
  rintro e w' ⟨rfl, k, os, rfl⟩
  exact ⟨by rw [Lib.itoa_nonneg], Lib.below_grow _ _ (Nat.le_refl _) _ _⟩
theorem sum_word (e : ByteArray) : ck.sum (b6.bz e.data.toList) < 4294967296 := by
  have hb : ck.Bytes (b6.bz e.data.toList) := fun j hj => by
    rw [b6.bz_at]
    have := (e.data.toList.getD j 0).toNat_lt
    omega
  have := ck.sum_lt hb
  omega
theorem count_le (c : ByteArray) : Lib.countB c ⟨#[10]⟩ ≤ c.size := by
  have := Lib.countB_mul_le ⟨#[10]⟩ (by decide) c.size c (Nat.le_refl _)
  have e1 : (⟨#[10]⟩ : ByteArray).size = 1 := rfl
  rw [e1] at this
  omega
theorem pair_at : ∀ (ps : List Pr) (j : Nat) (hj : j < ps.length), (ps.flatMap fun p => [Value.string p.1, Value.string p.2])[j * 2]? = some (.string (ps[j]).1) ∧ (ps.flatMap fun p => [Value.string p.1, Value.string p.2])[j * 2 + 1]? = some (.string (ps[j]).2)
  | p :: ps, 0, _ => by simp
  | p :: ps, j + 1, hj => by
    have ih := pair_at ps j (by simpa using hj)
    rw [show (j + 1) * 2 = j * 2 + 2 by omega]
    simpa using ih
theorem flds_of {w : World} {g : Nat} {cs : Array Value} {ps : List Pr} (h : w.heap[g]? = some (.cells cs 81 (0, 0))) (hc : cs = (ps.flatMap fun p => [Value.string p.1, Value.string p.2]).toArray) : FldsAt w g 0 ps := by
  intro j hj
  subst hc
  have := pair_at ps j hj
  rw [Nat.zero_add, cell_of_row _ _ _ _ _ _ h, cell_of_row _ _ _ _ _ _ h]
  simpa using this
/-- What the tables and the limit are. -/
def Tabs (m : Int) (w : World) : Prop := w.cell? ⟨4, 0, none⟩ = some (.int .i64 m) ∧ tb.TC w ∧ tb.TD w ∧ td.TP w ∧ td.TW w ∧ td.TN w
/-- What letterOf answers. -/
def LetAt (e : en.En) (box : ByteArray) (base : Nat) (r : Ending) (w : World) : Prop := ∃ g, base ≤ g ∧ r = .returned (.agg #[.slice (some ⟨g, 0, none⟩) 9 9, .string (⟨(qu.qt 0 (crl e.c.data.toList)).toArray⟩ ++ ⟨#[13, 10]⟩)]) ∧ FldsAt w g 0 (flds e box)

set_option maxHeartbeats 16000000 in
set_option maxRecDepth 100000 in
theorem letter_any (i t l a c box : ByteArray) (d : Int) (w : World) (m : Int) (h : en.eok ⟨i, t, l, a, d, c⟩ = true) (hb : nm.IsName box) (HT : ∀ w', Below w.heap.size w w' → Tabs m w') :
    Calls Tryz.prog 19 #[.agg #[.string i, .string t, .string l, .string a, .int .i64 d, .string c], .string box] w fun e w' => LetAt ⟨i, t, l, a, d, c⟩ box w.heap.size e w' ∧ Below w.heap.size w w' := by
  obtain ⟨gi, gt, gl, ga, gc, gd0, gd1⟩ := eok_cases h
  have hbs : box.size ≤ 40 := (name_signs hb).2
  have his := (en.fld_cases gi).1
  have hcs := gc.1
  have hd8 := (date_safe d gd0 gd1).2
  have hcl := crl_len c.data.toList
  have hid : dw.inB d 0 4102444799 = true := by exact decide_eq_true ⟨gd0, gd1⟩
  obtain ⟨SM, hSM⟩ : ∃ n, n = ck.sum (b6.bz i.data.toList) := ⟨_, rfl⟩
  obtain ⟨DG, hDG⟩ : ∃ x : ByteArray, x = ⟨(Lib.decDigits SM).toArray⟩ := ⟨_, rfl⟩
  have hSMl : SM < 10 ^ (9 + 1) := by rw [hSM]; exact sum_dec ⟨i, t, l, a, d, c⟩
  have hSMw : SM < 4294967296 := by rw [hSM]; exact sum_word i
  have hDGs : DG.size ≤ 10 := by rw [hDG, Lib.size_eq]; exact dx.dec_len 9 SM hSMl
  obtain ⟨A1, hA1⟩ : ∃ x, x = EN a := ⟨_, rfl⟩
  obtain ⟨T1, hT1⟩ : ∃ x, x = EN t := ⟨_, rfl⟩
  obtain ⟨I1, hI1⟩ : ∃ x, x = EN i := ⟨_, rfl⟩
  obtain ⟨L1, hL1⟩ : ∃ x, x = EN l := ⟨_, rfl⟩
  obtain ⟨D8, hD8⟩ : ∃ x : ByteArray, x = ⟨(dx.t82 d).toArray⟩ := ⟨_, rfl⟩
  obtain ⟨CR, hCR⟩ : ∃ x : ByteArray, x = ⟨(crl c.data.toList).toArray⟩ := ⟨_, rfl⟩
  obtain ⟨Q, hQ⟩ : ∃ x : ByteArray, x = ⟨(qu.qt 0 (crl c.data.toList)).toArray⟩ := ⟨_, rfl⟩
  have hccl : (crl c.data.toList).length ≤ 2000 := by have h0 : c.size ≤ 1000 := hcs; rw [Lib.size_eq] at h0; omega
  have hQs : Q.size ≤ 400000 := by
    rw [hQ, Lib.size_eq]
    have := qu.qt_len 0 (crl c.data.toList)
    show (qu.qt 0 (crl c.data.toList)).length ≤ 400000
    omega
  have HFL : Hid (CSA box DG A1 T1 I1 L1 D8 = ((flds ⟨i, t, l, a, d, c⟩ box).flatMap fun p => [Value.string p.1, Value.string p.2]).toArray) := by
    show _ = _
    rw [hA1, hT1, hI1, hL1, hD8, hDG, hSM]
    rfl
  have HD8 : Hid (∀ W, Below w.heap.size w W → Calls Tryz.prog 46 #[.int .i64 d] W fun e w' => e = .returned (.tuple #[.string D8, .int .i64 0]) ∧ Below W.heap.size W w') := fun W hW => by
    obtain ⟨_, _, _, tp, tw, tn⟩ := HT W hW
    rw [hD8, ← dx.r82_in hid]
    exact dx.impl_82 d W tp tw tn
  have HRP : Hid (∀ W, Below w.heap.size w W → Calls Tryz.prog 48 #[.string c, .string ⟨#[10]⟩, .string ⟨#[13, 10]⟩] W fun e w' => e = .returned (.string CR) ∧ Below W.heap.size W w') := fun W hW => by
    have h0 : c.size ≤ 1000 := hcs
    have hct := count_le c
    have := Tryz.strings_ReplaceAll c ⟨#[10]⟩ ⟨#[13, 10]⟩ m W (by omega) (HT W hW).1 (by decide) (by have e2 : (⟨#[13, 10]⟩ : ByteArray).size = 2 := rfl; rw [e2]; omega)
    rw [show Lib.replaceAll c.data.toList (⟨#[10]⟩ : ByteArray).data.toList (⟨#[13, 10]⟩ : ByteArray).data.toList = crl c.data.toList from replace_crl _, ← hCR] at this
    exact this
  have HQ : Hid (∀ W v, Below w.heap.size w W → ow.Reads .u8 W v (b6.bz CR.data.toList) → Calls Tryz.prog 47 #[v] W fun e w' => e = .returned (.tuple #[.string Q, .int .i64 0]) ∧ Below W.heap.size W w') := fun W v hW hr => by
    have := qu.implText_any v _ W hr (HT W hW).2.2.1
    rw [show qu.es CR.data.toList = Q by rw [hCR, hQ]; exact if_pos (by show (crl c.data.toList).length ≤ 65536; omega), show qu.ec CR.data.toList = 0 by rw [hCR]; exact if_pos (by show (crl c.data.toList).length ≤ 65536; omega)] at this
    exact this
  have HCK : Hid (∀ W v, ow.Reads .u8 W v (b6.bz i.data.toList) → Calls Tryz.prog 52 #[v] W fun e w' => e = .returned (.int .i64 (SM : Nat)) ∧ Below W.heap.size W w') := fun W v hr => by
    have hl : (b6.bz i.data.toList).length ≤ 200 := by rw [b6.bz_len, ← Lib.size_eq]; exact his
    have := ck.impl_any v _ W hr (reads_bytes _) (by omega)
    rw [if_pos (by omega), ← hSM] at this
    exact this.mono fun e w' ⟨h1, h2⟩ => ⟨h1, by rw [h2]; exact Below.refl _ _⟩
  have HDG0 : Hid (∀ W, Below w.heap.size w W → Calls Tryz.prog 51 #[.int .i64 (SM : Nat)] W fun e w' => e = .returned (.string DG) ∧ Below W.heap.size W w') := fun W hW => by rw [hDG]; exact itoaI SM hSMw W (HT W hW).2.2.2.1
  have HWW : ∀ (k s : ByteArray), en.fld s = true → ∀ W, Below w.heap.size w W → Calls Tryz.prog 50 #[.string k, .string s] W fun e w' => e = .returned (.agg #[.string k, .string (EN s)]) ∧ Below W.heap.size W w' := fun k s hs W hW => inWords_any k s hs W m (fun w' hb => ⟨(HT w' (hW.trans (hb.mono hW.size))).1, (HT w' (hW.trans (hb.mono hW.size))).2.1⟩)
  have HW4 : Hid (∀ W, Below w.heap.size w W → Calls Tryz.prog 50 #[.string ⟨#[70, 114, 111, 109]⟩, .string a] W fun e w' => e = .returned (.agg #[.string ⟨#[70, 114, 111, 109]⟩, .string A1]) ∧ Below W.heap.size W w') := fun W hW => by rw [hA1]; exact HWW _ _ ga W hW
  have HW9 : Hid (∀ W, Below w.heap.size w W → Calls Tryz.prog 50 #[.string ⟨#[83, 117, 98, 106, 101, 99, 116]⟩, .string t] W fun e w' => e = .returned (.agg #[.string ⟨#[83, 117, 98, 106, 101, 99, 116]⟩, .string T1]) ∧ Below W.heap.size W w') := fun W hW => by rw [hT1]; exact HWW _ _ gt W hW
  have HW23 : Hid (∀ W, Below w.heap.size w W → Calls Tryz.prog 50 #[.string ⟨#[88, 45, 73, 100]⟩, .string i] W fun e w' => e = .returned (.agg #[.string ⟨#[88, 45, 73, 100]⟩, .string I1]) ∧ Below W.heap.size W w') := fun W hW => by rw [hI1]; exact HWW _ _ gi W hW
  have HW26 : Hid (∀ W, Below w.heap.size w W → Calls Tryz.prog 50 #[.string ⟨#[88, 45, 76, 105, 110, 107]⟩, .string l] W fun e w' => e = .returned (.agg #[.string ⟨#[88, 45, 76, 105, 110, 107]⟩, .string L1]) ∧ Below W.heap.size W w') := fun W hW => by rw [hL1]; exact HWW _ _ gl W hW
  have HQQ : Hid (Q = ⟨(qu.qt 0 (crl c.data.toList)).toArray⟩) := hQ
  have hisz : i.size ≤ 200 := his
  have hCRs : CR.size ≤ 2000 := by rw [hCR, Lib.size_eq]; exact hccl
  clear hA1 hT1 hI1 hL1 hD8 hDG hSM hSMl hSMw hcl hd8 hcs his gi gt gl ga gc gd0 gd1 h hb hccl hid hCR hQ HT HWW
  have L0 := en.lies_new w 24 ⟨i, t, l, a, d, c⟩
  have b0 : Below w.heap.size w (w.alloc (.cells (en.cl ⟨i, t, l, a, d, c⟩) 24)) := (Below.refl _ w).alloc (Nat.le_refl _) _
  have hz0 : (w.alloc (.cells (en.cl ⟨i, t, l, a, d, c⟩) 24)).heap.size = w.heap.size + 1 := by simp
  have X0 := b2.new (w.alloc (.cells (en.cl ⟨i, t, l, a, d, c⟩) 24)) 43 (.slice none 0 0) (.string ⟨#[]⟩)
  have k0 : Below (w.heap.size + 1) (w.alloc (.cells (en.cl ⟨i, t, l, a, d, c⟩) 24)) ((w.alloc (.cells (en.cl ⟨i, t, l, a, d, c⟩) 24)).alloc (.cells #[.slice none 0 0, .string ⟨#[]⟩] 43)) := (Below.refl _ _).alloc (by simp) _
  rw [hz0] at X0
  unfold en.cl at L0 b0 hz0 X0 k0
  go_enter Tryz.func19, Tryz.ntmps19
  go_upto_region 1 with fail
  generalize hX : World.alloc w _ = X at L0 b0 hz0 X0 k0 ⊢
  clear hX
  generalize hW0 : World.alloc X _ = W0 at X0 k0 ⊢
  clear hW0
  generalize hL : w.heap.size + 1 = L at hz0 X0 k0 ⊢
  have HUP : Hid (∀ W, Below L X W → Below w.heap.size w W) := fun W hW => b0.trans (hW.mono (by omega))
  generalize hBx : w.heap.size = Bx at L0 b0 ⊢
  have hBL : Bx < L := by omega
  have x0 : X.cell? ⟨Bx, 0, none⟩ = some (.string i) := L0.c0
  have x1 : X.cell? ⟨Bx, 1, none⟩ = some (.string t) := L0.c1
  have x2 : X.cell? ⟨Bx, 2, none⟩ = some (.string l) := L0.c2
  have x3 : X.cell? ⟨Bx, 3, none⟩ = some (.string a) := L0.c3
  have x4 : X.cell? ⟨Bx, 4, none⟩ = some (.int .i64 d) := L0.c4
  have x5 : X.cell? ⟨Bx, 5, none⟩ = some (.string c) := L0.c5
  have HCL0 : Hid (Cl L X W0) := ⟨k0, _, _, X0⟩
  clear L0 b0 hz0 X0 k0
  go_cut [5] (fun o wx => o = .string D8 ∧ Cl L X wx)
  case first =>
    have y4 := (HCL0.out.below.cell (p := ⟨Bx, 4, none⟩) hBL).trans x4
    go_wp2_with (go_at_call 46; refine (HD8.out _ (HUP.out _ HCL0.out.below)).mono ?_; rintro e w1 ⟨rfl, b1⟩)
    go_meet
    exact ⟨rfl, HCL0.out.keep b1⟩
  case rest =>
    obtain ⟨rfl, hcl1⟩ := hcut
    go_at_K
    have HCL1 : Hid (Cl L X wc) := hcl1
    have y5 := (hcl1.below.cell (p := ⟨Bx, 5, none⟩) hBL).trans x5
    clear hcl1 HD8
    go_upto_region 2 with fail
    go_cut [5, 7] (fun o p wx => o = .string D8 ∧ p = .string Q ∧ Cl L X wx)
    case first =>
      go_wp2_with (go_at_call 48; refine (HRP.out _ (HUP.out _ HCL1.out.below)).mono ?_; rintro e w1 ⟨rfl, b1⟩; have hcv := Lib.run_convert_string_bytes (P := Tryz.prog) w1 9 22 5 CR Tryz.underlying9 Tryz.underlying22 Tryz.underlying5; have hlc := ow.lies_conv w1 5 CR; have hbc := ow.below_conv w1 5 CR; generalize grownCap w1 CR.size 0 5 = cap at hcv hlc; generalize Lib.bytesWorld w1 5 CR = W' at hcv hlc hbc; have HL2 : Hid (Cl L X W') := (HCL1.out.keep b1).keep hbc; have HR2 := ow.reads_lies hlc; clear hbc hlc)
      clear hcv
      refine (HQ.out _ _ (HUP.out _ HL2.out.below) HR2).mono ?_
      rintro e w2 ⟨rfl, b2'⟩
      go_wp2_with fail
      go_meet
      exact ⟨rfl, rfl, HL2.out.keep b2'⟩
    case rest =>
      obtain ⟨rfl, rfl, hcl2⟩ := hcut
      go_at_K
      clear HRP HQ HCL1 y5 HCL0
      have HCL2 : Hid (Cl L X wc) := hcl2
      clear hcl2
      go_wp2_with fail
      refine region_rel2 (by kernel_rfl) (fun f => { tmps := #[.agg #[.string i, .string t, .string l, .string a, .int .i64 d, .string c], .string box, .pointer (some ⟨Bx, 0, none⟩), undef, .pointer (some ⟨L, 0, none⟩), .string D8, u6, .string Q, u8, u9, u10, u11, u12, u13, u14, u15, u16, u17, u18, u19, u20, u21, u22, f 0, f 1, f 2, f 3, f 4, f 5, f 6, f 7, f 8, f 9, f 10, f 11, f 12, f 13, f 14, f 15, f 16, f 17, f 18, f 19, f 20, f 21, f 22, f 23, f 24, f 25, f 26, f 27, f 28, f 29, f 30, f 31], defers := [] }) (fun w => Cl L X w) (Rg (Vi i t l a Q box DG SM A1 T1 I1 L1 D8 Bx) (SL L i (Q ++ ⟨#[13, 10]⟩) (CSA box DG A1 T1 I1 L1 D8))) (fun k => ([u23, u24, u25, u26, u27, u28, u29, u30, u31, u32, u33, u34, u35, u36, u37, u38, u39, u40, u41, u42, u43, u44, u45, u46, u47, u48, u49, u50, u51, u52, u53, u54] : List Value).getD k undef) rfl (HCL2.out.keep (Below.refl _ _).drew) (deps_of (by kernel_rfl)) ?_ ?_
      · intro i' o ho D f w hc hR hall hni hcl hV
        match i', ho with
        | 0, ho =>
          cases ho
          have HRR : Hid (∀ j, D j → Rg (Vi i t l a Q box DG SM A1 T1 I1 L1 D8 Bx) (SL L i (Q ++ ⟨#[13, 10]⟩) (CSA box DG A1 T1 I1 L1 D8)) j f w) := hR
          clear hR hall hcl hV
          refine wpOp_step rfl (fun K' hK => ?_)
          go_simp
          exact hK _ _ ⟨.string (Q), by simp [upd], hc, ⟨fun v hv => (upd_same f 0 _).trans (Option.some.inj (show some (.string (Q) : Value) = some v from hv)), trivial⟩, fun j hj hd => Rg.keep (sl_keep _ _ _ _) (Below.refl _ _) j hj (HRR.out j hd)⟩
        | 1, ho =>
          cases ho
          have d0 : D 0 := hall { on := 0, ground := Ground.data } (by simp) rfl
          have h0 : f 0 = .string (Q) := (hR 0 d0).1 _ rfl
          have HRR : Hid (∀ j, D j → Rg (Vi i t l a Q box DG SM A1 T1 I1 L1 D8 Bx) (SL L i (Q ++ ⟨#[13, 10]⟩) (CSA box DG A1 T1 I1 L1 D8)) j f w) := hR
          clear hR hall hcl hV
          refine wpOp_step rfl (fun K' hK => ?_)
          simp only [h0]
          go_simp
          rw [if_neg (by first | omega | (simp only [ByteArray.size_append]; omega))]
          go_simp
          exact hK _ _ ⟨.string (Q ++ ⟨#[13, 10]⟩), by simp [upd, h0], hc, ⟨fun v hv => (upd_same f 1 _).trans (Option.some.inj (show some (.string (Q ++ ⟨#[13, 10]⟩) : Value) = some v from hv)), trivial⟩, fun j hj hd => Rg.keep (sl_keep _ _ _ _) (Below.refl _ _) j hj (HRR.out j hd)⟩
        | 2, ho =>
          cases ho
          have HRR : Hid (∀ j, D j → Rg (Vi i t l a Q box DG SM A1 T1 I1 L1 D8 Bx) (SL L i (Q ++ ⟨#[13, 10]⟩) (CSA box DG A1 T1 I1 L1 D8)) j f w) := hR
          clear hR hall hcl hV
          refine wpOp_step rfl (fun K' hK => ?_)
          go_simp
          exact hK _ _ ⟨.pointer (some ⟨Bx, 3, none⟩), by simp [upd], hc, ⟨fun v hv => (upd_same f 2 _).trans (Option.some.inj (show some (.pointer (some ⟨Bx, 3, none⟩) : Value) = some v from hv)), trivial⟩, fun j hj hd => Rg.keep (sl_keep _ _ _ _) (Below.refl _ _) j hj (HRR.out j hd)⟩
        | 3, ho =>
          cases ho
          have d2 : D 2 := hall { on := 2, ground := Ground.data } (by simp) rfl
          have h2 : f 2 = .pointer (some ⟨Bx, 3, none⟩) := (hR 2 d2).1 _ rfl
          have c3 := (hc.below.cell (p := ⟨Bx, 3, none⟩) hBL).trans x3
          have HRR : Hid (∀ j, D j → Rg (Vi i t l a Q box DG SM A1 T1 I1 L1 D8 Bx) (SL L i (Q ++ ⟨#[13, 10]⟩) (CSA box DG A1 T1 I1 L1 D8)) j f w) := hR
          clear hR hall hcl hV
          refine wpOp_step rfl (fun K' hK => ?_)
          simp only [h2]
          go_simp
          exact hK _ _ ⟨.string (a), by simp [upd, h2], hc, ⟨fun v hv => (upd_same f 3 _).trans (Option.some.inj (show some (.string (a) : Value) = some v from hv)), trivial⟩, fun j hj hd => Rg.keep (sl_keep _ _ _ _) (Below.refl _ _) j hj (HRR.out j hd)⟩
        | 4, ho =>
          cases ho
          have d3 : D 3 := hall { on := 3, ground := Ground.data } (by simp) rfl
          have h3 : f 3 = .string (a) := (hR 3 d3).1 _ rfl
          have HRR : Hid (∀ j, D j → Rg (Vi i t l a Q box DG SM A1 T1 I1 L1 D8 Bx) (SL L i (Q ++ ⟨#[13, 10]⟩) (CSA box DG A1 T1 I1 L1 D8)) j f w) := hR
          have HC0 : Hid (Calls Tryz.prog 50 #[.string ⟨#[70, 114, 111, 109]⟩, .string a] w fun e w' => e = .returned (.agg #[.string ⟨#[70, 114, 111, 109]⟩, .string (A1)]) ∧ Below w.heap.size w w') := HW4.out w (HUP.out w hc.below)
          clear hR hall hcl hV
          refine wpOp_step rfl (fun K' hK => ?_)
          simp only [h3]
          go_wp2_with (go_at_call 50; refine HC0.out.mono ?_; rintro e w' ⟨rfl, hb⟩)
          exact ⟨.agg #[.string ⟨#[70, 114, 111, 109]⟩, .string (A1)], by simp [upd, h3], hc.keep (hb), ⟨fun v hv => (upd_same f 4 _).trans (Option.some.inj (show some (.agg #[.string ⟨#[70, 114, 111, 109]⟩, .string (A1)] : Value) = some v from hv)), trivial⟩, fun j hj hd => Rg.keep (sl_keep _ _ _ _) (hb) j hj (HRR.out j hd)⟩
        | 5, ho =>
          cases ho
          have HRR : Hid (∀ j, D j → Rg (Vi i t l a Q box DG SM A1 T1 I1 L1 D8 Bx) (SL L i (Q ++ ⟨#[13, 10]⟩) (CSA box DG A1 T1 I1 L1 D8)) j f w) := hR
          clear hR hall hcl hV
          refine wpOp_step rfl (fun K' hK => ?_)
          go_simp
          exact hK _ _ ⟨.string (D8), by simp [upd], hc, ⟨fun v hv => (upd_same f 5 _).trans (Option.some.inj (show some (.string (D8) : Value) = some v from hv)), trivial⟩, fun j hj hd => Rg.keep (sl_keep _ _ _ _) (Below.refl _ _) j hj (HRR.out j hd)⟩
        | 6, ho =>
          cases ho
          have d5 : D 5 := hall { on := 5, ground := Ground.data } (by simp) rfl
          have h5 : f 5 = .string (D8) := (hR 5 d5).1 _ rfl
          have HRR : Hid (∀ j, D j → Rg (Vi i t l a Q box DG SM A1 T1 I1 L1 D8 Bx) (SL L i (Q ++ ⟨#[13, 10]⟩) (CSA box DG A1 T1 I1 L1 D8)) j f w) := hR
          clear hR hall hcl hV
          refine wpOp_step rfl (fun K' hK => ?_)
          simp only [h5]
          go_simp
          exact hK _ _ ⟨.agg #[.string ⟨#[68, 97, 116, 101]⟩, .string (D8)], by simp [upd, h5], hc, ⟨fun v hv => (upd_same f 6 _).trans (Option.some.inj (show some (.agg #[.string ⟨#[68, 97, 116, 101]⟩, .string (D8)] : Value) = some v from hv)), trivial⟩, fun j hj hd => Rg.keep (sl_keep _ _ _ _) (Below.refl _ _) j hj (HRR.out j hd)⟩
        | 7, ho =>
          cases ho
          have HRR : Hid (∀ j, D j → Rg (Vi i t l a Q box DG SM A1 T1 I1 L1 D8 Bx) (SL L i (Q ++ ⟨#[13, 10]⟩) (CSA box DG A1 T1 I1 L1 D8)) j f w) := hR
          clear hR hall hcl hV
          refine wpOp_step rfl (fun K' hK => ?_)
          go_simp
          exact hK _ _ ⟨.pointer (some ⟨Bx, 1, none⟩), by simp [upd], hc, ⟨fun v hv => (upd_same f 7 _).trans (Option.some.inj (show some (.pointer (some ⟨Bx, 1, none⟩) : Value) = some v from hv)), trivial⟩, fun j hj hd => Rg.keep (sl_keep _ _ _ _) (Below.refl _ _) j hj (HRR.out j hd)⟩
        | 8, ho =>
          cases ho
          have d7 : D 7 := hall { on := 7, ground := Ground.data } (by simp) rfl
          have h7 : f 7 = .pointer (some ⟨Bx, 1, none⟩) := (hR 7 d7).1 _ rfl
          have c1 := (hc.below.cell (p := ⟨Bx, 1, none⟩) hBL).trans x1
          have HRR : Hid (∀ j, D j → Rg (Vi i t l a Q box DG SM A1 T1 I1 L1 D8 Bx) (SL L i (Q ++ ⟨#[13, 10]⟩) (CSA box DG A1 T1 I1 L1 D8)) j f w) := hR
          clear hR hall hcl hV
          refine wpOp_step rfl (fun K' hK => ?_)
          simp only [h7]
          go_simp
          exact hK _ _ ⟨.string (t), by simp [upd, h7], hc, ⟨fun v hv => (upd_same f 8 _).trans (Option.some.inj (show some (.string (t) : Value) = some v from hv)), trivial⟩, fun j hj hd => Rg.keep (sl_keep _ _ _ _) (Below.refl _ _) j hj (HRR.out j hd)⟩
        | 9, ho =>
          cases ho
          have d8 : D 8 := hall { on := 8, ground := Ground.data } (by simp) rfl
          have h8 : f 8 = .string (t) := (hR 8 d8).1 _ rfl
          have HRR : Hid (∀ j, D j → Rg (Vi i t l a Q box DG SM A1 T1 I1 L1 D8 Bx) (SL L i (Q ++ ⟨#[13, 10]⟩) (CSA box DG A1 T1 I1 L1 D8)) j f w) := hR
          have HC0 : Hid (Calls Tryz.prog 50 #[.string ⟨#[83, 117, 98, 106, 101, 99, 116]⟩, .string t] w fun e w' => e = .returned (.agg #[.string ⟨#[83, 117, 98, 106, 101, 99, 116]⟩, .string (T1)]) ∧ Below w.heap.size w w') := HW9.out w (HUP.out w hc.below)
          clear hR hall hcl hV
          refine wpOp_step rfl (fun K' hK => ?_)
          simp only [h8]
          go_wp2_with (go_at_call 50; refine HC0.out.mono ?_; rintro e w' ⟨rfl, hb⟩)
          exact ⟨.agg #[.string ⟨#[83, 117, 98, 106, 101, 99, 116]⟩, .string (T1)], by simp [upd, h8], hc.keep (hb), ⟨fun v hv => (upd_same f 9 _).trans (Option.some.inj (show some (.agg #[.string ⟨#[83, 117, 98, 106, 101, 99, 116]⟩, .string (T1)] : Value) = some v from hv)), trivial⟩, fun j hj hd => Rg.keep (sl_keep _ _ _ _) (hb) j hj (HRR.out j hd)⟩
        | 10, ho =>
          cases ho
          have HRR : Hid (∀ j, D j → Rg (Vi i t l a Q box DG SM A1 T1 I1 L1 D8 Bx) (SL L i (Q ++ ⟨#[13, 10]⟩) (CSA box DG A1 T1 I1 L1 D8)) j f w) := hR
          clear hR hall hcl hV
          refine wpOp_step rfl (fun K' hK => ?_)
          go_simp
          exact hK _ _ ⟨.pointer (some ⟨Bx, 0, none⟩), by simp [upd], hc, ⟨fun v hv => (upd_same f 10 _).trans (Option.some.inj (show some (.pointer (some ⟨Bx, 0, none⟩) : Value) = some v from hv)), trivial⟩, fun j hj hd => Rg.keep (sl_keep _ _ _ _) (Below.refl _ _) j hj (HRR.out j hd)⟩
        | 11, ho =>
          cases ho
          have d10 : D 10 := hall { on := 10, ground := Ground.data } (by simp) rfl
          have h10 : f 10 = .pointer (some ⟨Bx, 0, none⟩) := (hR 10 d10).1 _ rfl
          have c0 := (hc.below.cell (p := ⟨Bx, 0, none⟩) hBL).trans x0
          have HRR : Hid (∀ j, D j → Rg (Vi i t l a Q box DG SM A1 T1 I1 L1 D8 Bx) (SL L i (Q ++ ⟨#[13, 10]⟩) (CSA box DG A1 T1 I1 L1 D8)) j f w) := hR
          clear hR hall hcl hV
          refine wpOp_step rfl (fun K' hK => ?_)
          simp only [h10]
          go_simp
          exact hK _ _ ⟨.string (i), by simp [upd, h10], hc, ⟨fun v hv => (upd_same f 11 _).trans (Option.some.inj (show some (.string (i) : Value) = some v from hv)), trivial⟩, fun j hj hd => Rg.keep (sl_keep _ _ _ _) (Below.refl _ _) j hj (HRR.out j hd)⟩
        | 12, ho =>
          cases ho
          have d11 : D 11 := hall { on := 11, ground := Ground.data } (by simp) rfl
          have h11 : f 11 = .string (i) := (hR 11 d11).1 _ rfl
          have HRR : Hid (∀ j, D j → Rg (Vi i t l a Q box DG SM A1 T1 I1 L1 D8 Bx) (SL L i (Q ++ ⟨#[13, 10]⟩) (CSA box DG A1 T1 I1 L1 D8)) j f w) := hR
          have hcv := Lib.run_convert_string_bytes (P := Tryz.prog) w 9 22 5 i Tryz.underlying9 Tryz.underlying22 Tryz.underlying5
          have hlc := ow.lies_conv w 5 i
          have hbc := ow.below_conv w 5 i
          have hgt : L < w.heap.size := hc.lt
          generalize grownCap w i.size 0 5 = cap at hcv hlc
          generalize Lib.bytesWorld w 5 i = W' at hcv hlc hbc
          clear hR hall hcl hV
          refine wpOp_step rfl (fun K' hK => ?_)
          simp only [h11]
          go_simp
          exact hK _ _ ⟨.slice (some ⟨w.heap.size, 0, none⟩) i.size cap, by simp [upd, h11], hc.keep hbc, ⟨fun v hv => (by cases hv), (by show SL L i (Q ++ ⟨#[13, 10]⟩) (CSA box DG A1 T1 I1 L1 D8) 12 (upd f 12 _ 12) W'; rw [upd_same]; exact ⟨_, _, _, rfl, hgt, hlc⟩)⟩, fun j hj hd => Rg.keep (sl_keep _ _ _ _) hbc j hj (HRR.out j hd)⟩
        | 13, ho =>
          cases ho
          have d12 : D 12 := hall { on := 12, ground := Ground.data } (by simp) rfl
          obtain ⟨yg, yn, yc, h12, _, hlc⟩ : SL L i (Q ++ ⟨#[13, 10]⟩) (CSA box DG A1 T1 I1 L1 D8) 12 (f 12) w := (hR 12 d12).2
          have hrd := ow.reads_lies hlc
          have HRR : Hid (∀ j, D j → Rg (Vi i t l a Q box DG SM A1 T1 I1 L1 D8 Bx) (SL L i (Q ++ ⟨#[13, 10]⟩) (CSA box DG A1 T1 I1 L1 D8)) j f w) := hR
          have HC0 : Hid (Calls Tryz.prog 52 #[.slice (some ⟨yg, 0, none⟩) yn yc] w fun e w' => e = .returned (.int .i64 (SM : Nat)) ∧ Below w.heap.size w w') := HCK.out w _ hrd
          clear hR hall hcl hV
          refine wpOp_step rfl (fun K' hK => ?_)
          simp only [h12]
          go_wp2_with (go_at_call 52; refine HC0.out.mono ?_; rintro e w' ⟨rfl, hb⟩)
          exact ⟨.int .i64 (SM : Nat), by simp [upd, h12], hc.keep (hb), ⟨fun v hv => (upd_same f 13 _).trans (Option.some.inj (show some (.int .i64 (SM : Nat) : Value) = some v from hv)), trivial⟩, fun j hj hd => Rg.keep (sl_keep _ _ _ _) (hb) j hj (HRR.out j hd)⟩
        | 14, ho =>
          cases ho
          have d13 : D 13 := hall { on := 13, ground := Ground.data } (by simp) rfl
          have h13 : f 13 = .int .i64 (SM : Nat) := (hR 13 d13).1 _ rfl
          have HRR : Hid (∀ j, D j → Rg (Vi i t l a Q box DG SM A1 T1 I1 L1 D8 Bx) (SL L i (Q ++ ⟨#[13, 10]⟩) (CSA box DG A1 T1 I1 L1 D8)) j f w) := hR
          have HC0 : Hid (Calls Tryz.prog 51 #[.int .i64 (SM : Nat)] w fun e w' => e = .returned (.string (DG)) ∧ Below w.heap.size w w') := HDG0.out w (HUP.out w hc.below)
          clear hR hall hcl hV
          refine wpOp_step rfl (fun K' hK => ?_)
          simp only [h13]
          go_wp2_with (go_at_call 51; refine HC0.out.mono ?_; rintro e w' ⟨rfl, hb⟩)
          exact ⟨.string (DG), by simp [upd, h13], hc.keep (hb), ⟨fun v hv => (upd_same f 14 _).trans (Option.some.inj (show some (.string (DG) : Value) = some v from hv)), trivial⟩, fun j hj hd => Rg.keep (sl_keep _ _ _ _) (hb) j hj (HRR.out j hd)⟩
        | 15, ho =>
          cases ho
          have d14 : D 14 := hall { on := 14, ground := Ground.data } (by simp) rfl
          have h14 : f 14 = .string (DG) := (hR 14 d14).1 _ rfl
          have HRR : Hid (∀ j, D j → Rg (Vi i t l a Q box DG SM A1 T1 I1 L1 D8 Bx) (SL L i (Q ++ ⟨#[13, 10]⟩) (CSA box DG A1 T1 I1 L1 D8)) j f w) := hR
          clear hR hall hcl hV
          refine wpOp_step rfl (fun K' hK => ?_)
          simp only [h14]
          go_simp
          rw [if_neg (by first | omega | (simp only [ByteArray.size_append]; omega))]
          go_simp
          exact hK _ _ ⟨.string (⟨#[60]⟩ ++ DG), by simp [upd, h14], hc, ⟨fun v hv => (upd_same f 15 _).trans (Option.some.inj (show some (.string (⟨#[60]⟩ ++ DG) : Value) = some v from hv)), trivial⟩, fun j hj hd => Rg.keep (sl_keep _ _ _ _) (Below.refl _ _) j hj (HRR.out j hd)⟩
        | 16, ho =>
          cases ho
          have d15 : D 15 := hall { on := 15, ground := Ground.data } (by simp) rfl
          have h15 : f 15 = .string (⟨#[60]⟩ ++ DG) := (hR 15 d15).1 _ rfl
          have HRR : Hid (∀ j, D j → Rg (Vi i t l a Q box DG SM A1 T1 I1 L1 D8 Bx) (SL L i (Q ++ ⟨#[13, 10]⟩) (CSA box DG A1 T1 I1 L1 D8)) j f w) := hR
          clear hR hall hcl hV
          refine wpOp_step rfl (fun K' hK => ?_)
          simp only [h15]
          go_simp
          rw [if_neg (by first | omega | (simp only [ByteArray.size_append]; omega))]
          go_simp
          exact hK _ _ ⟨.string ((⟨#[60]⟩ ++ DG) ++ ⟨#[64]⟩), by simp [upd, h15], hc, ⟨fun v hv => (upd_same f 16 _).trans (Option.some.inj (show some (.string ((⟨#[60]⟩ ++ DG) ++ ⟨#[64]⟩) : Value) = some v from hv)), trivial⟩, fun j hj hd => Rg.keep (sl_keep _ _ _ _) (Below.refl _ _) j hj (HRR.out j hd)⟩
        | 17, ho =>
          cases ho
          have HRR : Hid (∀ j, D j → Rg (Vi i t l a Q box DG SM A1 T1 I1 L1 D8 Bx) (SL L i (Q ++ ⟨#[13, 10]⟩) (CSA box DG A1 T1 I1 L1 D8)) j f w) := hR
          clear hR hall hcl hV
          refine wpOp_step rfl (fun K' hK => ?_)
          go_simp
          exact hK _ _ ⟨.string (box), by simp [upd], hc, ⟨fun v hv => (upd_same f 17 _).trans (Option.some.inj (show some (.string (box) : Value) = some v from hv)), trivial⟩, fun j hj hd => Rg.keep (sl_keep _ _ _ _) (Below.refl _ _) j hj (HRR.out j hd)⟩
        | 18, ho =>
          cases ho
          have d16 : D 16 := hall { on := 16, ground := Ground.data } (by simp) rfl
          have h16 : f 16 = .string ((⟨#[60]⟩ ++ DG) ++ ⟨#[64]⟩) := (hR 16 d16).1 _ rfl
          have d17 : D 17 := hall { on := 17, ground := Ground.data } (by simp) rfl
          have h17 : f 17 = .string (box) := (hR 17 d17).1 _ rfl
          have HRR : Hid (∀ j, D j → Rg (Vi i t l a Q box DG SM A1 T1 I1 L1 D8 Bx) (SL L i (Q ++ ⟨#[13, 10]⟩) (CSA box DG A1 T1 I1 L1 D8)) j f w) := hR
          clear hR hall hcl hV
          refine wpOp_step rfl (fun K' hK => ?_)
          simp only [h16, h17]
          go_simp
          rw [if_neg (by first | omega | (simp only [ByteArray.size_append]; omega))]
          go_simp
          exact hK _ _ ⟨.string (((⟨#[60]⟩ ++ DG) ++ ⟨#[64]⟩) ++ box), by simp [upd, h16, h17], hc, ⟨fun v hv => (upd_same f 18 _).trans (Option.some.inj (show some (.string (((⟨#[60]⟩ ++ DG) ++ ⟨#[64]⟩) ++ box) : Value) = some v from hv)), trivial⟩, fun j hj hd => Rg.keep (sl_keep _ _ _ _) (Below.refl _ _) j hj (HRR.out j hd)⟩
        | 19, ho =>
          cases ho
          have d18 : D 18 := hall { on := 18, ground := Ground.data } (by simp) rfl
          have h18 : f 18 = .string (((⟨#[60]⟩ ++ DG) ++ ⟨#[64]⟩) ++ box) := (hR 18 d18).1 _ rfl
          have HRR : Hid (∀ j, D j → Rg (Vi i t l a Q box DG SM A1 T1 I1 L1 D8 Bx) (SL L i (Q ++ ⟨#[13, 10]⟩) (CSA box DG A1 T1 I1 L1 D8)) j f w) := hR
          clear hR hall hcl hV
          refine wpOp_step rfl (fun K' hK => ?_)
          simp only [h18]
          go_simp
          rw [if_neg (by first | omega | (simp only [ByteArray.size_append]; omega))]
          go_simp
          exact hK _ _ ⟨.string ((((⟨#[60]⟩ ++ DG) ++ ⟨#[64]⟩) ++ box) ++ ⟨#[62]⟩), by simp [upd, h18], hc, ⟨fun v hv => (upd_same f 19 _).trans (Option.some.inj (show some (.string ((((⟨#[60]⟩ ++ DG) ++ ⟨#[64]⟩) ++ box) ++ ⟨#[62]⟩) : Value) = some v from hv)), trivial⟩, fun j hj hd => Rg.keep (sl_keep _ _ _ _) (Below.refl _ _) j hj (HRR.out j hd)⟩
        | 20, ho =>
          cases ho
          have d19 : D 19 := hall { on := 19, ground := Ground.data } (by simp) rfl
          have h19 : f 19 = .string ((((⟨#[60]⟩ ++ DG) ++ ⟨#[64]⟩) ++ box) ++ ⟨#[62]⟩) := (hR 19 d19).1 _ rfl
          have HRR : Hid (∀ j, D j → Rg (Vi i t l a Q box DG SM A1 T1 I1 L1 D8 Bx) (SL L i (Q ++ ⟨#[13, 10]⟩) (CSA box DG A1 T1 I1 L1 D8)) j f w) := hR
          clear hR hall hcl hV
          refine wpOp_step rfl (fun K' hK => ?_)
          simp only [h19]
          go_simp
          exact hK _ _ ⟨.agg #[.string ⟨#[77, 101, 115, 115, 97, 103, 101, 45, 73, 68]⟩, .string ((((⟨#[60]⟩ ++ DG) ++ ⟨#[64]⟩) ++ box) ++ ⟨#[62]⟩)], by simp [upd, h19], hc, ⟨fun v hv => (upd_same f 20 _).trans (Option.some.inj (show some (.agg #[.string ⟨#[77, 101, 115, 115, 97, 103, 101, 45, 73, 68]⟩, .string ((((⟨#[60]⟩ ++ DG) ++ ⟨#[64]⟩) ++ box) ++ ⟨#[62]⟩)] : Value) = some v from hv)), trivial⟩, fun j hj hd => Rg.keep (sl_keep _ _ _ _) (Below.refl _ _) j hj (HRR.out j hd)⟩
        | 21, ho =>
          cases ho
          have HRR : Hid (∀ j, D j → Rg (Vi i t l a Q box DG SM A1 T1 I1 L1 D8 Bx) (SL L i (Q ++ ⟨#[13, 10]⟩) (CSA box DG A1 T1 I1 L1 D8)) j f w) := hR
          clear hR hall hcl hV
          refine wpOp_step rfl (fun K' hK => ?_)
          go_simp
          exact hK _ _ ⟨.pointer (some ⟨Bx, 0, none⟩), by simp [upd], hc, ⟨fun v hv => (upd_same f 21 _).trans (Option.some.inj (show some (.pointer (some ⟨Bx, 0, none⟩) : Value) = some v from hv)), trivial⟩, fun j hj hd => Rg.keep (sl_keep _ _ _ _) (Below.refl _ _) j hj (HRR.out j hd)⟩
        | 22, ho =>
          cases ho
          have d21 : D 21 := hall { on := 21, ground := Ground.data } (by simp) rfl
          have h21 : f 21 = .pointer (some ⟨Bx, 0, none⟩) := (hR 21 d21).1 _ rfl
          have c0 := (hc.below.cell (p := ⟨Bx, 0, none⟩) hBL).trans x0
          have HRR : Hid (∀ j, D j → Rg (Vi i t l a Q box DG SM A1 T1 I1 L1 D8 Bx) (SL L i (Q ++ ⟨#[13, 10]⟩) (CSA box DG A1 T1 I1 L1 D8)) j f w) := hR
          clear hR hall hcl hV
          refine wpOp_step rfl (fun K' hK => ?_)
          simp only [h21]
          go_simp
          exact hK _ _ ⟨.string (i), by simp [upd, h21], hc, ⟨fun v hv => (upd_same f 22 _).trans (Option.some.inj (show some (.string (i) : Value) = some v from hv)), trivial⟩, fun j hj hd => Rg.keep (sl_keep _ _ _ _) (Below.refl _ _) j hj (HRR.out j hd)⟩
        | 23, ho =>
          cases ho
          have d22 : D 22 := hall { on := 22, ground := Ground.data } (by simp) rfl
          have h22 : f 22 = .string (i) := (hR 22 d22).1 _ rfl
          have HRR : Hid (∀ j, D j → Rg (Vi i t l a Q box DG SM A1 T1 I1 L1 D8 Bx) (SL L i (Q ++ ⟨#[13, 10]⟩) (CSA box DG A1 T1 I1 L1 D8)) j f w) := hR
          have HC0 : Hid (Calls Tryz.prog 50 #[.string ⟨#[88, 45, 73, 100]⟩, .string i] w fun e w' => e = .returned (.agg #[.string ⟨#[88, 45, 73, 100]⟩, .string (I1)]) ∧ Below w.heap.size w w') := HW23.out w (HUP.out w hc.below)
          clear hR hall hcl hV
          refine wpOp_step rfl (fun K' hK => ?_)
          simp only [h22]
          go_wp2_with (go_at_call 50; refine HC0.out.mono ?_; rintro e w' ⟨rfl, hb⟩)
          exact ⟨.agg #[.string ⟨#[88, 45, 73, 100]⟩, .string (I1)], by simp [upd, h22], hc.keep (hb), ⟨fun v hv => (upd_same f 23 _).trans (Option.some.inj (show some (.agg #[.string ⟨#[88, 45, 73, 100]⟩, .string (I1)] : Value) = some v from hv)), trivial⟩, fun j hj hd => Rg.keep (sl_keep _ _ _ _) (hb) j hj (HRR.out j hd)⟩
        | 24, ho =>
          cases ho
          have HRR : Hid (∀ j, D j → Rg (Vi i t l a Q box DG SM A1 T1 I1 L1 D8 Bx) (SL L i (Q ++ ⟨#[13, 10]⟩) (CSA box DG A1 T1 I1 L1 D8)) j f w) := hR
          clear hR hall hcl hV
          refine wpOp_step rfl (fun K' hK => ?_)
          go_simp
          exact hK _ _ ⟨.pointer (some ⟨Bx, 2, none⟩), by simp [upd], hc, ⟨fun v hv => (upd_same f 24 _).trans (Option.some.inj (show some (.pointer (some ⟨Bx, 2, none⟩) : Value) = some v from hv)), trivial⟩, fun j hj hd => Rg.keep (sl_keep _ _ _ _) (Below.refl _ _) j hj (HRR.out j hd)⟩
        | 25, ho =>
          cases ho
          have d24 : D 24 := hall { on := 24, ground := Ground.data } (by simp) rfl
          have h24 : f 24 = .pointer (some ⟨Bx, 2, none⟩) := (hR 24 d24).1 _ rfl
          have c2 := (hc.below.cell (p := ⟨Bx, 2, none⟩) hBL).trans x2
          have HRR : Hid (∀ j, D j → Rg (Vi i t l a Q box DG SM A1 T1 I1 L1 D8 Bx) (SL L i (Q ++ ⟨#[13, 10]⟩) (CSA box DG A1 T1 I1 L1 D8)) j f w) := hR
          clear hR hall hcl hV
          refine wpOp_step rfl (fun K' hK => ?_)
          simp only [h24]
          go_simp
          exact hK _ _ ⟨.string (l), by simp [upd, h24], hc, ⟨fun v hv => (upd_same f 25 _).trans (Option.some.inj (show some (.string (l) : Value) = some v from hv)), trivial⟩, fun j hj hd => Rg.keep (sl_keep _ _ _ _) (Below.refl _ _) j hj (HRR.out j hd)⟩
        | 26, ho =>
          cases ho
          have d25 : D 25 := hall { on := 25, ground := Ground.data } (by simp) rfl
          have h25 : f 25 = .string (l) := (hR 25 d25).1 _ rfl
          have HRR : Hid (∀ j, D j → Rg (Vi i t l a Q box DG SM A1 T1 I1 L1 D8 Bx) (SL L i (Q ++ ⟨#[13, 10]⟩) (CSA box DG A1 T1 I1 L1 D8)) j f w) := hR
          have HC0 : Hid (Calls Tryz.prog 50 #[.string ⟨#[88, 45, 76, 105, 110, 107]⟩, .string l] w fun e w' => e = .returned (.agg #[.string ⟨#[88, 45, 76, 105, 110, 107]⟩, .string (L1)]) ∧ Below w.heap.size w w') := HW26.out w (HUP.out w hc.below)
          clear hR hall hcl hV
          refine wpOp_step rfl (fun K' hK => ?_)
          simp only [h25]
          go_wp2_with (go_at_call 50; refine HC0.out.mono ?_; rintro e w' ⟨rfl, hb⟩)
          exact ⟨.agg #[.string ⟨#[88, 45, 76, 105, 110, 107]⟩, .string (L1)], by simp [upd, h25], hc.keep (hb), ⟨fun v hv => (upd_same f 26 _).trans (Option.some.inj (show some (.agg #[.string ⟨#[88, 45, 76, 105, 110, 107]⟩, .string (L1)] : Value) = some v from hv)), trivial⟩, fun j hj hd => Rg.keep (sl_keep _ _ _ _) (hb) j hj (HRR.out j hd)⟩
        | 27, ho =>
          cases ho
          have HRR : Hid (∀ j, D j → Rg (Vi i t l a Q box DG SM A1 T1 I1 L1 D8 Bx) (SL L i (Q ++ ⟨#[13, 10]⟩) (CSA box DG A1 T1 I1 L1 D8)) j f w) := hR
          clear hR hall hcl hV
          refine wpOp_step rfl (fun K' hK => ?_)
          go_simp
          exact hK _ _ ⟨.agg #[.string ⟨#[77, 73, 77, 69, 45, 86, 101, 114, 115, 105, 111, 110]⟩, .string (⟨#[49, 46, 48]⟩)], by simp [upd], hc, ⟨fun v hv => (upd_same f 27 _).trans (Option.some.inj (show some (.agg #[.string ⟨#[77, 73, 77, 69, 45, 86, 101, 114, 115, 105, 111, 110]⟩, .string (⟨#[49, 46, 48]⟩)] : Value) = some v from hv)), trivial⟩, fun j hj hd => Rg.keep (sl_keep _ _ _ _) (Below.refl _ _) j hj (HRR.out j hd)⟩
        | 28, ho =>
          cases ho
          have HRR : Hid (∀ j, D j → Rg (Vi i t l a Q box DG SM A1 T1 I1 L1 D8 Bx) (SL L i (Q ++ ⟨#[13, 10]⟩) (CSA box DG A1 T1 I1 L1 D8)) j f w) := hR
          clear hR hall hcl hV
          refine wpOp_step rfl (fun K' hK => ?_)
          go_simp
          exact hK _ _ ⟨.agg #[.string ⟨#[67, 111, 110, 116, 101, 110, 116, 45, 84, 121, 112, 101]⟩, .string (⟨#[116, 101, 120, 116, 47, 112, 108, 97, 105, 110, 59, 32, 99, 104, 97, 114, 115, 101, 116, 61, 117, 116, 102, 45, 56]⟩)], by simp [upd], hc, ⟨fun v hv => (upd_same f 28 _).trans (Option.some.inj (show some (.agg #[.string ⟨#[67, 111, 110, 116, 101, 110, 116, 45, 84, 121, 112, 101]⟩, .string (⟨#[116, 101, 120, 116, 47, 112, 108, 97, 105, 110, 59, 32, 99, 104, 97, 114, 115, 101, 116, 61, 117, 116, 102, 45, 56]⟩)] : Value) = some v from hv)), trivial⟩, fun j hj hd => Rg.keep (sl_keep _ _ _ _) (Below.refl _ _) j hj (HRR.out j hd)⟩
        | 29, ho =>
          cases ho
          have HRR : Hid (∀ j, D j → Rg (Vi i t l a Q box DG SM A1 T1 I1 L1 D8 Bx) (SL L i (Q ++ ⟨#[13, 10]⟩) (CSA box DG A1 T1 I1 L1 D8)) j f w) := hR
          clear hR hall hcl hV
          refine wpOp_step rfl (fun K' hK => ?_)
          go_simp
          exact hK _ _ ⟨.agg #[.string ⟨#[67, 111, 110, 116, 101, 110, 116, 45, 84, 114, 97, 110, 115, 102, 101, 114, 45, 69, 110, 99, 111, 100, 105, 110, 103]⟩, .string (⟨#[113, 117, 111, 116, 101, 100, 45, 112, 114, 105, 110, 116, 97, 98, 108, 101]⟩)], by simp [upd], hc, ⟨fun v hv => (upd_same f 29 _).trans (Option.some.inj (show some (.agg #[.string ⟨#[67, 111, 110, 116, 101, 110, 116, 45, 84, 114, 97, 110, 115, 102, 101, 114, 45, 69, 110, 99, 111, 100, 105, 110, 103]⟩, .string (⟨#[113, 117, 111, 116, 101, 100, 45, 112, 114, 105, 110, 116, 97, 98, 108, 101]⟩)] : Value) = some v from hv)), trivial⟩, fun j hj hd => Rg.keep (sl_keep _ _ _ _) (Below.refl _ _) j hj (HRR.out j hd)⟩
        | 30, ho =>
          cases ho
          have d4 : D 4 := hall { on := 4, ground := Ground.data } (by simp) rfl
          have h4 : f 4 = .agg #[.string ⟨#[70, 114, 111, 109]⟩, .string (A1)] := (hR 4 d4).1 _ rfl
          have d6 : D 6 := hall { on := 6, ground := Ground.data } (by simp) rfl
          have h6 : f 6 = .agg #[.string ⟨#[68, 97, 116, 101]⟩, .string (D8)] := (hR 6 d6).1 _ rfl
          have d9 : D 9 := hall { on := 9, ground := Ground.data } (by simp) rfl
          have h9 : f 9 = .agg #[.string ⟨#[83, 117, 98, 106, 101, 99, 116]⟩, .string (T1)] := (hR 9 d9).1 _ rfl
          have d20 : D 20 := hall { on := 20, ground := Ground.data } (by simp) rfl
          have h20 : f 20 = .agg #[.string ⟨#[77, 101, 115, 115, 97, 103, 101, 45, 73, 68]⟩, .string ((((⟨#[60]⟩ ++ DG) ++ ⟨#[64]⟩) ++ box) ++ ⟨#[62]⟩)] := (hR 20 d20).1 _ rfl
          have d23 : D 23 := hall { on := 23, ground := Ground.data } (by simp) rfl
          have h23 : f 23 = .agg #[.string ⟨#[88, 45, 73, 100]⟩, .string (I1)] := (hR 23 d23).1 _ rfl
          have d26 : D 26 := hall { on := 26, ground := Ground.data } (by simp) rfl
          have h26 : f 26 = .agg #[.string ⟨#[88, 45, 76, 105, 110, 107]⟩, .string (L1)] := (hR 26 d26).1 _ rfl
          have d27 : D 27 := hall { on := 27, ground := Ground.data } (by simp) rfl
          have h27 : f 27 = .agg #[.string ⟨#[77, 73, 77, 69, 45, 86, 101, 114, 115, 105, 111, 110]⟩, .string (⟨#[49, 46, 48]⟩)] := (hR 27 d27).1 _ rfl
          have d28 : D 28 := hall { on := 28, ground := Ground.data } (by simp) rfl
          have h28 : f 28 = .agg #[.string ⟨#[67, 111, 110, 116, 101, 110, 116, 45, 84, 121, 112, 101]⟩, .string (⟨#[116, 101, 120, 116, 47, 112, 108, 97, 105, 110, 59, 32, 99, 104, 97, 114, 115, 101, 116, 61, 117, 116, 102, 45, 56]⟩)] := (hR 28 d28).1 _ rfl
          have d29 : D 29 := hall { on := 29, ground := Ground.data } (by simp) rfl
          have h29 : f 29 = .agg #[.string ⟨#[67, 111, 110, 116, 101, 110, 116, 45, 84, 114, 97, 110, 115, 102, 101, 114, 45, 69, 110, 99, 111, 100, 105, 110, 103]⟩, .string (⟨#[113, 117, 111, 116, 101, 100, 45, 112, 114, 105, 110, 116, 97, 98, 108, 101]⟩)] := (hR 29 d29).1 _ rfl
          have HRR : Hid (∀ j, D j → Rg (Vi i t l a Q box DG SM A1 T1 I1 L1 D8 Bx) (SL L i (Q ++ ⟨#[13, 10]⟩) (CSA box DG A1 T1 I1 L1 D8)) j f w) := hR
          have hgt : L < w.heap.size := hc.lt
          have hnew := heap_new w (.cells ((CSA box DG A1 T1 I1 L1 D8)) 81)
          clear hR hall hcl hV
          refine wpOp_step rfl (fun K' hK => ?_)
          simp only [h4, h6, h9, h20, h23, h26, h27, h28, h29]
          go_simp
          exact hK _ _ ⟨.slice (some ⟨w.heap.size, 0, none⟩) 9 9, by simp [upd, h4, h6, h9, h20, h23, h26, h27, h28, h29], hc.keep ((Below.refl _ _).alloc (Nat.le_refl _) _), ⟨fun v hv => (by cases hv), (by show SL L i (Q ++ ⟨#[13, 10]⟩) (CSA box DG A1 T1 I1 L1 D8) 30 (upd f 30 _ 30) _; rw [upd_same]; exact ⟨_, rfl, hgt, hnew⟩)⟩, fun j hj hd => Rg.keep (sl_keep _ _ _ _) ((Below.refl _ _).alloc (Nat.le_refl _) _) j hj (HRR.out j hd)⟩
        | 31, ho =>
          cases ho
          have d1 : D 1 := hall { on := 1, ground := Ground.data } (by simp) rfl
          have h1 : f 1 = .string (Q ++ ⟨#[13, 10]⟩) := (hR 1 d1).1 _ rfl
          have d30 : D 30 := hall { on := 30, ground := Ground.data } (by simp) rfl
          have HRR : Hid (∀ j, D j → Rg (Vi i t l a Q box DG SM A1 T1 I1 L1 D8 Bx) (SL L i (Q ++ ⟨#[13, 10]⟩) (CSA box DG A1 T1 I1 L1 D8)) j f w) := hR
          obtain ⟨g, h30, hgt, hnew⟩ : SL L i (Q ++ ⟨#[13, 10]⟩) (CSA box DG A1 T1 I1 L1 D8) 30 (f 30) w := (hR 30 d30).2
          have HNL : Hid (Calls Tryz.prog 49 #[.string ((Q ++ ⟨#[13, 10]⟩)), .slice (some ⟨g, 0, none⟩) 9 9] w fun e w' => e = .returned (.agg #[.slice (some ⟨g, 0, none⟩) 9 9, .string ((Q ++ ⟨#[13, 10]⟩))]) ∧ Below w.heap.size w w') := newLetter_any _ _ _ _ w
          clear hR hall hcl hV
          refine wpOp_step rfl (fun K' hK => ?_)
          simp only [h1, h30]
          go_wp2_with (go_at_call 49; refine HNL.out.mono ?_; rintro e w' ⟨rfl, hb⟩)
          exact ⟨.agg #[.slice (some ⟨g, 0, none⟩) 9 9, .string ((Q ++ ⟨#[13, 10]⟩))], by simp [upd, h1, h30], hc.keep hb, ⟨fun v hv => (by cases hv), (by show SL L i (Q ++ ⟨#[13, 10]⟩) (CSA box DG A1 T1 I1 L1 D8) 31 (upd f 31 _ 31) w'; rw [upd_same]; exact ⟨_, rfl, hgt, (hb.block _ (lt_of_heap hnew)).trans hnew⟩)⟩, fun j hj hd => Rg.keep (sl_keep _ _ _ _) hb j hj (HRR.out j hd)⟩
        | 32, ho =>
          cases ho
          have d31 : D 31 := hall { on := 31, ground := Ground.data } (by simp) rfl
          have HRR : Hid (∀ j, D j → Rg (Vi i t l a Q box DG SM A1 T1 I1 L1 D8 Bx) (SL L i (Q ++ ⟨#[13, 10]⟩) (CSA box DG A1 T1 I1 L1 D8)) j f w) := hR
          obtain ⟨g, h31, hgt, hnew⟩ : SL L i (Q ++ ⟨#[13, 10]⟩) (CSA box DG A1 T1 I1 L1 D8) 31 (f 31) w := (hR 31 d31).2
          obtain ⟨za, zb, hbx⟩ := hc.box
          have c0 := hbx.c0
          have c1 := hbx.c1
          have f0 := hbx.f 0
          have f1 := hbx.f 1
          have HCC : Hid (Cl L X w) := hc
          have HBX : Hid (b2.Box w L 43 za zb) := hbx
          clear hR hall hcl hV hc hbx
          refine wpOp_step rfl (fun K' hK => ?_)
          simp only [h31]
          go_simp
          have hput := HBX.out.put (a' := .slice (some ⟨g, 0, none⟩) 9 9) (b' := .string ((Q ++ ⟨#[13, 10]⟩)))
          have hbp := b2.put_below (a := .slice (some ⟨g, 0, none⟩) 9 9) (b := .string ((Q ++ ⟨#[13, 10]⟩))) HCC.out.below (Nat.le_refl _)
          exact hK _ _ ⟨undef, by simp [upd, h31], ⟨hbp, _, _, hput⟩, ⟨fun v hv => (by cases hv), (by show SL L i (Q ++ ⟨#[13, 10]⟩) (CSA box DG A1 T1 I1 L1 D8) 32 (upd f 32 _ 32) _; exact ⟨_, hput, hgt, put_other hgt hnew⟩)⟩, fun j hj hd => ⟨fun v hv => (upd_other f 32 undef hj).trans ((HRR.out j hd).1 v hv), by rw [upd_other f 32 undef hj]; exact sl_put hj (HRR.out j hd).2⟩⟩
        | k + 33, ho => simp at ho
      · intro f w5 hc hR
        obtain ⟨g, hbx, hgt, hhp⟩ : SL L i (Q ++ ⟨#[13, 10]⟩) (CSA box DG A1 T1 I1 L1 D8) 32 (f 32) w5 := (hR 32 (by simp)).2
        have HFA : Hid (FldsAt w5 g 0 (flds ⟨i, t, l, a, d, c⟩ box)) := flds_of hhp HFL.out
        have HBE : Hid (Below w.heap.size w w5) := HUP.out _ hc.below
        have HBX : Hid (b2.Box w5 L 43 (.slice (some ⟨g, 0, none⟩) 9 9) (.string (Q ++ ⟨#[13, 10]⟩))) := hbx
        clear hR hc hbx hhp
        go_wp2_with fail
        have c0 := HBX.out.c0
        have c1 := HBX.out.c1
        refine bodyPost_ret (v := .agg #[.slice (some ⟨g, 0, none⟩) 9 9, .string (Q ++ ⟨#[13, 10]⟩)]) (by simp [results, Tryz.results19, go_sem, c0, c1]) rfl ⟨⟨g, by omega, by rw [HQQ.out], HFA.out⟩, ?_⟩
        exact HBE.out
end Go.Proofs.YtadfdfmebdcfgaaGreatDoor.rn
