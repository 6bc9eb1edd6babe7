/-
  A drawn entry, as a whole.
  Plain facts on the mail of an entry that is drawn: its parts, put together again, and its fields.
  Two texts in letters of either size.
-/
import Derived.Test.YtbokolpjdaamiaaGreatDoorPkbd
import Derived.Test.YtbokolpjdaamiaaGreatDoorPkak
import Derived.Test.YtbokolpjdaamiaaGreatDoorPkba
import Derived.Test.YtbokolpjdaamiaaGreatDoorPkbc

namespace Go.Proofs.YtbokolpjdaamiaaGreatDoor.se
open Go.RowKit
open sr
set_option linter.unusedVariables false

/-- An entry as the program has it. -/
def EV6 (i t l au : ByteArray) (d : Int) (c : ByteArray) : Value := .agg #[.string i, .string t, .string l, .string au, .int .i64 d, .string c]
/-- What a drawn entry is. -/
def DrawnE (w : World) (b : Nat) (a : Option Addr) (len cap : Nat) (at_ : Int) (e : Ending) (w' : World) : Prop :=
  ∃ (i t l au c : ByteArray) (d at' sd' : Int), e = .returned (EV6 i t l au d c) ∧ (i ∈ idL ∧ t ∈ fldL ∧ l ∈ linkL ∧ au ∈ fldL ∧ c ∈ conL ∧ 0 ≤ d ∧ d ≤ 4102444799) ∧ at_ ≤ at' ∧ at' ≤ at_ + 24 ∧ 0 ≤ sd' ∧ sd' < 2147483648 ∧ Src w' b a len cap at' sd' ∧ sr.Code w' b a len ∧ w.grownBy w' (some b)
def B6 (w : World) (g : Nat) (T : TypeId) (v0 v1 v2 v3 v4 v5 : Value) : Prop := w.heap[g]? = some (.cells #[v0, v1, v2, v3, v4, v5] T (0, 0))
theorem B6.keep {w w' : World} {g b : Nat} {T : TypeId} {v0 v1 v2 v3 v4 v5 : Value} (h : B6 w g T v0 v1 v2 v3 v4 v5) (hg : w.grownBy w' (some b)) (hne : b ≠ g) : B6 w' g T v0 v1 v2 v3 v4 v5 :=
  (hg.block g (Array.getElem?_eq_some_iff.1 h).1 (by simp; omega)).trans h
theorem B6.cell {w : World} {g : Nat} {T : TypeId} {v0 v1 v2 v3 v4 v5 : Value} (h : B6 w g T v0 v1 v2 v3 v4 v5) (j : Nat) (v : Value) (hv : ([v0, v1, v2, v3, v4, v5] : List Value)[j]? = some v) : w.cell? ⟨g, j, none⟩ = some v := by
  rw [cell_of_row w _ _ _ _ _ h]
  simpa using hv
theorem B6.f {w : World} {g : Nat} {T : TypeId} {v0 v1 v2 v3 v4 v5 : Value} (h : B6 w g T v0 v1 v2 v3 v4 v5) (j : Nat) : w.frozen? ⟨g, j, none⟩ = false := frozen_of_row _ _ _ _ _ h
def fill (w : World) (g : Nat) (i t l au : ByteArray) (d : Int) (c : ByteArray) : World := (((((w.setCell ⟨g, 0, none⟩ (.string i)).setCell ⟨g, 1, none⟩ (.string t)).setCell ⟨g, 2, none⟩ (.string l)).setCell ⟨g, 3, none⟩ (.string au)).setCell ⟨g, 4, none⟩ (.int .i64 d)).setCell ⟨g, 5, none⟩ (.string c)
theorem fill_block {w : World} {g : Nat} {T : TypeId} {v0 v1 v2 v3 v4 v5 : Value} (h : B6 w g T v0 v1 v2 v3 v4 v5) (i t l au : ByteArray) (d : Int) (c : ByteArray) : B6 (fill w g i t l au d c) g T (.string i) (.string t) (.string l) (.string au) (.int .i64 d) (.string c) := by
  have M2 := heap_setCell_same _ g 0 _ _ (.string i) h
  have M3 := heap_setCell_same _ g 1 _ _ (.string t) M2
  have M4 := heap_setCell_same _ g 2 _ _ (.string l) M3
  have M5 := heap_setCell_same _ g 3 _ _ (.string au) M4
  have M6 := heap_setCell_same _ g 4 _ _ (.int .i64 d) M5
  exact heap_setCell_same _ g 5 _ _ (.string c) M6
theorem fill_other (w : World) (g q : Nat) (i t l au : ByteArray) (d : Int) (c : ByteArray) (h : q ≠ g) : (fill w g i t l au d c).heap[q]? = w.heap[q]? := by
  unfold fill
  rw [heap_setCell_other _ _ _ _ h, heap_setCell_other _ _ _ _ h, heap_setCell_other _ _ _ _ h, heap_setCell_other _ _ _ _ h, heap_setCell_other _ _ _ _ h, heap_setCell_other _ _ _ _ h]
theorem fill_grown (w : World) (g : Nat) (i t l au : ByteArray) (d : Int) (c : ByteArray) : w.grownBy (fill w g i t l au d c) (some g) := by
  unfold fill
  exact ow.grown_trans (ow.grown_trans (ow.grown_trans (ow.grown_trans (ow.grown_trans (grown_set _ _ _ _) (grown_set _ _ _ _)) (grown_set _ _ _ _)) (grown_set _ _ _ _)) (grown_set _ _ _ _)) (grown_set _ _ _ _)
theorem grown_in {w w1 w2 : World} {b g : Nat} (h1 : w.grownBy w1 (some b)) (h2 : w1.grownBy w2 (some g)) (hg : w.heap.size ≤ g) : w.grownBy w2 (some b) :=
  ⟨h2.os.trans h1.os, h2.tape.trans h1.tape, h2.output.trans h1.output, Nat.le_trans h1.size h2.size, fun i hi hr => (h2.block i (Nat.lt_of_lt_of_le hi h1.size) (by simp; omega)).trans (h1.block i hi hr)⟩

set_option maxHeartbeats 4000000 in
set_option maxRecDepth 100000 in
theorem entry_any (w : World) (b : Nat) (a : Option Addr) (len cap : Nat) (at_ sd : Int) (hs : Src w b a len cap at_ sd) (hc : sr.Code w b a len) (h0 : 0 ≤ at_) (h1 : at_ ≤ 700000) (s0 : 0 ≤ sd) (s1 : sd < 2147483648) :
    Calls Tryz.prog 13 #[.pointer (some ⟨b, 0, none⟩)] w fun e w' => DrawnE w b a len cap at_ e w' := by
  have hbw : b < w.heap.size := (Array.getElem?_eq_some_iff.1 hs).1
  have ga : w.grownBy (w.alloc (.cells #[.string ⟨#[]⟩, .string ⟨#[]⟩, .string ⟨#[]⟩, .string ⟨#[]⟩, .int .i64 0, .string ⟨#[]⟩] 26)) (some b) := World.grownBy_alloc _ _ _
  have hs0 := src_keep hs (World.grownBy_alloc w (.cells #[.string ⟨#[]⟩, .string ⟨#[]⟩, .string ⟨#[]⟩, .string ⟨#[]⟩, .int .i64 0, .string ⟨#[]⟩] 26) none) (by simp)
  have hc0 := code_keep hc ga
  have R0 : B6 (w.alloc (.cells #[.string ⟨#[]⟩, .string ⟨#[]⟩, .string ⟨#[]⟩, .string ⟨#[]⟩, .int .i64 0, .string ⟨#[]⟩] 26)) w.heap.size 26 (.string ⟨#[]⟩) (.string ⟨#[]⟩) (.string ⟨#[]⟩) (.string ⟨#[]⟩) (.int .i64 0) (.string ⟨#[]⟩) := (MapKept.heap_alloc w _).1
  obtain ⟨W0, hW0⟩ : ∃ W0, W0 = w.alloc (.cells #[.string ⟨#[]⟩, .string ⟨#[]⟩, .string ⟨#[]⟩, .string ⟨#[]⟩, .int .i64 0, .string ⟨#[]⟩] 26) := ⟨_, rfl⟩
  have hsz : W0.heap.size = w.heap.size + 1 := by rw [hW0]; simp
  rw [← hW0] at ga hs0 hc0 R0
  have HP : Hid (Calls Tryz.prog 32 #[.pointer (some ⟨b, 0, none⟩), .slice (some ⟨W0.heap.size, 0, none⟩) 5 5] (W0.alloc (.cells (idL.map Value.string).toArray 9)) fun e w' => Pk W0 b a len cap at_ idL e w') := list_any idL 5 W0 b a len cap at_ sd hs0 hc0 h0 (by omega) s0 s1 rfl (by omega) (by omega)
  rw [hsz, hW0] at HP
  clear hs hc hs0 hc0
  go_enter Tryz.func13, Tryz.ntmps13
  go_wp2_with fail
  refine HP.out.mono ?_
  rintro e w1 ⟨i, at1, sd1, rfl, hm_i, a10, a11, d10, d11, hs1, hc1, hg1⟩
  have HM_i : Hid (i ∈ idL) := hm_i
  clear hm_i
  rw [← hW0] at hg1
  have R1 := R0.keep hg1 (by omega)
  have G1 := ow.grown_trans ga hg1
  clear ga hg1 R0 HP hsz hW0
  go_wp2_with fail
  refine (field_any w1 b a len cap at1 sd1 hs1 hc1 (by omega) (by omega) d10 d11).mono ?_
  rintro e w2 ⟨t, at2, sd2, rfl, hm_t, a20, a21, d20, d21, hs2, hc2, hg2⟩
  have HM_t : Hid (t ∈ fldL) := hm_t
  clear hm_t
  have R2 := R1.keep hg2 (by omega)
  have G2 := ow.grown_trans G1 hg2
  clear hs1 hc1 R1 G1 hg2
  go_wp2_with fail
  refine (list_any linkL 3 w2 b a len cap at2 sd2 hs2 hc2 (by omega) (by omega) d20 d21 rfl (by omega) (by omega)).mono ?_
  rintro e w3 ⟨l, at3, sd3, rfl, hm_l, a30, a31, d30, d31, hs3, hc3, hg3⟩
  have HM_l : Hid (l ∈ linkL) := hm_l
  clear hm_l
  have R3 := R2.keep hg3 (by omega)
  have G3 := ow.grown_trans G2 hg3
  clear hs2 hc2 R2 G2 hg3
  go_wp2_with fail
  refine (field_any w3 b a len cap at3 sd3 hs3 hc3 (by omega) (by omega) d30 d31).mono ?_
  rintro e w4 ⟨au, at4, sd4, rfl, hm_au, a40, a41, d40, d41, hs4, hc4, hg4⟩
  have HM_au : Hid (au ∈ fldL) := hm_au
  clear hm_au
  have R4 := R3.keep hg4 (by omega)
  have G4 := ow.grown_trans G3 hg4
  clear hs3 hc3 R3 G3 hg4
  go_wp2_with fail
  refine (stamp_any w4 b a len cap at4 sd4 hs4 hc4 (by omega) (by omega) d40 d41).mono ?_
  rintro e w5 ⟨d, at5, sd5, rfl, n0, n1, a50, a51, d50, d51, hs5, hc5, hg5⟩
  have R5 := R4.keep hg5 (by omega)
  have G5 := ow.grown_trans G4 hg5
  clear hs4 hc4 R4 G4 hg5
  go_wp2_with fail
  refine (list_any conL 8 w5 b a len cap at5 sd5 hs5 hc5 (by omega) (by omega) d50 d51 rfl (by omega) (by omega)).mono ?_
  rintro e w6 ⟨c, at6, sd6, rfl, hm_c, a60, a61, d60, d61, hs6, hc6, hg6⟩
  have HM_c : Hid (c ∈ conL) := hm_c
  clear hm_c
  have R6 := R5.keep hg6 (by omega)
  have G6 := ow.grown_trans G5 hg6
  clear hs5 hc5 R5 G5 hg6
  have gE : w6.grownBy (w6.alloc (.cells #[.string i, .string t, .string l, .string au, .int .i64 d, .string c] 26)) (some b) := World.grownBy_alloc _ _ _
  have R7 := R6.keep gE (by omega)
  have G7 := ow.grown_trans G6 gE
  have hs7 := src_keep hs6 (World.grownBy_alloc w6 (.cells #[.string i, .string t, .string l, .string au, .int .i64 d, .string c] 26) none) (by simp)
  have hc7 := code_keep hc6 gE
  have r0 := R7.cell 0 _ rfl
  have r1 : (w6.alloc (.cells #[.string i, .string t, .string l, .string au, .int .i64 d, .string c] 26)).cell? ⟨w.heap.size, 0 + 1, none⟩ = _ := R7.cell 1 _ rfl
  have r2 : (w6.alloc (.cells #[.string i, .string t, .string l, .string au, .int .i64 d, .string c] 26)).cell? ⟨w.heap.size, 0 + 2, none⟩ = _ := R7.cell 2 _ rfl
  have r3 : (w6.alloc (.cells #[.string i, .string t, .string l, .string au, .int .i64 d, .string c] 26)).cell? ⟨w.heap.size, 0 + 3, none⟩ = _ := R7.cell 3 _ rfl
  have r4 : (w6.alloc (.cells #[.string i, .string t, .string l, .string au, .int .i64 d, .string c] 26)).cell? ⟨w.heap.size, 0 + 4, none⟩ = _ := R7.cell 4 _ rfl
  have r5 : (w6.alloc (.cells #[.string i, .string t, .string l, .string au, .int .i64 d, .string c] 26)).cell? ⟨w.heap.size, 0 + 5, none⟩ = _ := R7.cell 5 _ rfl
  have f := R7.f
  have HH : Hid (Src (w6.alloc (.cells #[.string i, .string t, .string l, .string au, .int .i64 d, .string c] 26)) b a len cap at6 sd6 ∧ sr.Code (w6.alloc (.cells #[.string i, .string t, .string l, .string au, .int .i64 d, .string c] 26)) b a len ∧ w.grownBy (w6.alloc (.cells #[.string i, .string t, .string l, .string au, .int .i64 d, .string c] 26)) (some b) ∧ B6 (w6.alloc (.cells #[.string i, .string t, .string l, .string au, .int .i64 d, .string c] 26)) w.heap.size 26 (.string ⟨#[]⟩) (.string ⟨#[]⟩) (.string ⟨#[]⟩) (.string ⟨#[]⟩) (.int .i64 0) (.string ⟨#[]⟩)) := ⟨hs7, hc7, G7, R7⟩
  have h67 : w6.heap.size ≠ w.heap.size := by have := G6.size; have := (Array.getElem?_eq_some_iff.1 R6).1; omega
  clear hs6 hc6 R6 G6 gE R7 G7 hs7 hc7
  go_wp2_with fail
  clear r0 r1 r2 r3 r4 r5 f h67
  change bodyPost _ _ _ _ _ (fill (w6.alloc (.cells #[.string i, .string t, .string l, .string au, .int .i64 d, .string c] 26)) w.heap.size i t l au d c)
  obtain ⟨hs7, hc7, G7, R7⟩ := HH.out
  have A5 := fill_block R7 i t l au d c
  have gf := fill_grown (w6.alloc (.cells #[.string i, .string t, .string l, .string au, .int .i64 d, .string c] 26)) w.heap.size i t l au d c
  have G8 := grown_in G7 gf (Nat.le_refl _)
  have hs8 := src_keep hs7 gf (by simp; omega)
  have hc8 := code_keep' hc7 gf (fun k e => by cases e; omega)
  clear HH hs7 hc7 G7 R7 gf
  generalize fill _ _ _ _ _ _ _ _ = X at A5 G8 hs8 hc8 ⊢
  have x0 := A5.cell 0 _ rfl
  have x1 := A5.cell 1 _ rfl
  have x2 := A5.cell 2 _ rfl
  have x3 := A5.cell 3 _ rfl
  have x4 := A5.cell 4 _ rfl
  have x5 := A5.cell 5 _ rfl
  exact bodyPost_ret (v := .agg #[.string i, .string t, .string l, .string au, .int .i64 d, .string c]) (by simp [results, Tryz.results13, go_sem, x0, x1, x2, x3, x4, x5]) rfl ⟨i, t, l, au, c, d, at6, sd6, rfl, ⟨HM_i.out, HM_t.out, HM_l.out, HM_au.out, HM_c.out, n0, n1⟩, by omega, by omega, d60, d61, hs8, hc8, G8⟩

/-- What EntryOf answers. -/
def EntryIs (e : Ending) : Prop := ∃ (i t l au c : ByteArray) (d : Int), e = .returned (EV6 i t l au d c) ∧ i ∈ idL ∧ t ∈ fldL ∧ l ∈ linkL ∧ au ∈ fldL ∧ c ∈ conL ∧ 0 ≤ d ∧ d ≤ 4102444799
set_option maxHeartbeats 2000000 in
set_option maxRecDepth 100000 in
theorem entryOf_any (w : World) (a : Option Addr) (len cap : Nat) (h : Bytes w a len) :
    Calls Tryz.prog 5 #[.slice a len cap] w fun e w' => EntryIs e ∧ Below w.heap.size w w' := by
  have hl := h.1
  have b0 : Below w.heap.size w (w.alloc (.cells #[.string ⟨#[]⟩, .string ⟨#[]⟩, .string ⟨#[]⟩, .string ⟨#[]⟩, .int .i64 0, .string ⟨#[]⟩] 26)) := (Below.refl _ _).alloc (Nat.le_refl _) _
  have R0 : B6 (w.alloc (.cells #[.string ⟨#[]⟩, .string ⟨#[]⟩, .string ⟨#[]⟩, .string ⟨#[]⟩, .int .i64 0, .string ⟨#[]⟩] 26)) w.heap.size 26 (.string ⟨#[]⟩) (.string ⟨#[]⟩) (.string ⟨#[]⟩) (.string ⟨#[]⟩) (.int .i64 0) (.string ⟨#[]⟩) := (MapKept.heap_alloc w _).1
  have h0 := bytes_below h b0
  go_enter Tryz.func5, Tryz.ntmps5
  go_wp2_with fail
  generalize w.alloc _ = w0 at b0 R0 h0 ⊢
  refine (source_any _ a len cap hl).mono ?_
  rintro e w1 ⟨rfl, rfl⟩
  have hs := src_started w0 a len cap
  have hc := code_started (cap := cap) h0
  have hb : Below w0.heap.size w0 (started w0 a len cap) := (Below.refl _ _).alloc (Nat.le_refl _) _
  have hrl : w.heap.size < w0.heap.size := (Array.getElem?_eq_some_iff.1 R0).1
  have R1 : B6 (started w0 a len cap) w.heap.size 26 (.string ⟨#[]⟩) (.string ⟨#[]⟩) (.string ⟨#[]⟩) (.string ⟨#[]⟩) (.int .i64 0) (.string ⟨#[]⟩) := (hb.block _ hrl).trans R0
  have b1 := b0.trans (hb.mono b0.size)
  generalize started w0 a len cap = w1 at hs hc R1 b1 ⊢
  clear hb R0 b0 h0 h
  generalize w0.heap.size = B at hs hc hrl ⊢
  go_wp2_with fail
  refine (entry_any _ _ a len cap 0 _ hs hc (by omega) (by omega) (by omega) (by omega)).mono ?_
  rintro e w2 ⟨i, t, l, au, c, d, at', sd', rfl, hm, a0, a1, d0, d1, hs2, hc2, hg⟩
  have HM : Hid (i ∈ idL ∧ t ∈ fldL ∧ l ∈ linkL ∧ au ∈ fldL ∧ c ∈ conL ∧ 0 ≤ d ∧ d ≤ 4102444799) := hm
  have R2 := R1.keep hg (by omega)
  have hsz : w.heap.size ≤ B := Nat.le_of_lt hrl
  have b2 : Below w.heap.size w w2 := Below.grown b1 hg b1.size (fun k e => by cases e; exact hsz)
  clear hm hs hc hs2 hc2 hg R1 b1
  have r0 := R2.cell 0 _ rfl
  have r1 : w2.cell? ⟨w.heap.size, 0 + 1, none⟩ = _ := R2.cell 1 _ rfl
  have r2 : w2.cell? ⟨w.heap.size, 0 + 2, none⟩ = _ := R2.cell 2 _ rfl
  have r3 : w2.cell? ⟨w.heap.size, 0 + 3, none⟩ = _ := R2.cell 3 _ rfl
  have r4 : w2.cell? ⟨w.heap.size, 0 + 4, none⟩ = _ := R2.cell 4 _ rfl
  have r5 : w2.cell? ⟨w.heap.size, 0 + 5, none⟩ = _ := R2.cell 5 _ rfl
  have f := R2.f
  have HR : Hid (B6 w2 w.heap.size 26 (.string ⟨#[]⟩) (.string ⟨#[]⟩) (.string ⟨#[]⟩) (.string ⟨#[]⟩) (.int .i64 0) (.string ⟨#[]⟩)) := R2
  clear R2
  unfold EV6
  go_wp2_with fail
  clear r0 r1 r2 r3 r4 r5 f
  change bodyPost _ _ _ _ _ (fill w2 w.heap.size i t l au d c)
  have A5 := fill_block HR.out i t l au d c
  have b3 : Below w.heap.size w (fill w2 w.heap.size i t l au d c) := Below.grown b2 (fill_grown _ _ _ _ _ _ _ _) b2.size (fun k e => by cases e; exact Nat.le_refl _)
  generalize fill _ _ _ _ _ _ _ _ = X at A5 b3 ⊢
  have x0 := A5.cell 0 _ rfl
  have x1 := A5.cell 1 _ rfl
  have x2 := A5.cell 2 _ rfl
  have x3 := A5.cell 3 _ rfl
  have x4 := A5.cell 4 _ rfl
  have x5 := A5.cell 5 _ rfl
  exact bodyPost_ret (v := .agg #[.string i, .string t, .string l, .string au, .int .i64 d, .string c]) (by simp [results, Tryz.results5, go_sem, x0, x1, x2, x3, x4, x5]) rfl ⟨⟨i, t, l, au, c, d, rfl, HM.out⟩, b3⟩
end Go.Proofs.YtbokolpjdaamiaaGreatDoor.se

namespace Go.Proofs.YtbokolpjdaamiaaGreatDoor.me
open Go Go.RowKit Go.WideShapes
open fa fo ml
set_option linter.unusedVariables false

theorem row_bytes {w : World} {a : Option Addr} {len cap : Nat} {zs : List Int} (h : ag.IsRow .u8 w a len cap zs) (hl : len ≤ 1048576) : se.Bytes w a len := by
  refine ⟨hl, ?_⟩
  rcases h with ⟨rfl, rfl, rfl, rfl⟩ | ⟨x, rfl, hlc, hm, hz, hcell, hwz⟩
  · exact .inl rfl
  · by_cases h0 : len = 0
    · exact .inl h0
    · right
      obtain ⟨b, off, spot⟩ := x
      have hc := hcell 0 (by omega)
      have hspot : spot = none := by simpa [Addr.add] using World.cell?_spot hc
      subst hspot
      refine ⟨b, off, rfl, fun j hj => ?_⟩
      have hj2 : j < zs.length := by omega
      have hb := bounds_u8 (hwz (zs.getD j 0) (by rw [List.getD_eq_getElem?_getD, List.getElem?_eq_getElem hj2]; exact List.getElem_mem hj2))
      refine ⟨zs.getD j 0, hb.1, hb.2, ?_⟩
      rw [← hcell j hj2]
      congr 1
      simp [Addr.add]
theorem row_reads {w : World} {a : Option Addr} {len cap : Nat} {zs : List Int} (h : ag.IsRow .u8 w a len cap zs) : ∃ ys : List Int, ow.Reads .u8 w (.slice a len cap) ys ∧ ys.length = len ∧ ck.Bytes ys := by
  rcases h with ⟨rfl, rfl, rfl, rfl⟩ | ⟨x, rfl, hl, hm, hz, hcell, hwz⟩
  · exact ⟨[], ⟨none, 0, rfl, .inl rfl⟩, rfl, fun j hj => absurd hj (Nat.not_lt_zero _)⟩
  · have hlen : (zs.take len).length = len := by rw [List.length_take]; omega
    have hget : ∀ j, j < len → (zs.take len).getD j 0 = zs.getD j 0 := fun j hj => by rw [List.getD_eq_getElem?_getD, List.getD_eq_getElem?_getD, List.getElem?_take, if_pos hj]
    refine ⟨zs.take len, ⟨some x, cap, by rw [hlen], ?_⟩, hlen, fun j hj => ?_⟩
    · by_cases h0 : len = 0
      · left; subst h0; rfl
      · right
        obtain ⟨b, off, spot⟩ := x
        have hc := hcell 0 (by omega)
        have hspot : spot = none := by simpa [Addr.add] using World.cell?_spot hc
        subst hspot
        refine ⟨b, off, rfl, fun j hj => ?_⟩
        rw [hlen] at hj
        have := hcell j (by omega)
        rw [hget j hj, ← this]
        congr 1
        simp [Addr.add]
    · rw [hlen] at hj
      have hj2 : j < zs.length := by omega
      rw [hget j hj]
      have hb := bounds_u8 (hwz (zs.getD j 0) (by rw [List.getD_eq_getElem?_getD, List.getElem?_eq_getElem hj2]; exact List.getElem_mem hj2))
      exact ⟨hb.1, by omega⟩
/-- The fields, as bytes. -/
def lst (ps : List Pr) : List (B × B) := ps.map fun p => (p.1.data.toList, p.2.data.toList)
theorem prs_lst (ps : List Pr) : prs (lst ps) = ps := by
  unfold prs lst
  rw [List.map_map]
  conv => rhs; rw [← List.map_id ps]
  rfl
theorem all_list : ∀ (ps : List Pr) (a : ByteArray), (ps.foldl (fun acc p => acc ++ rn.FO p.1 p.2) a).data.toList = a.data.toList ++ foldM (lst ps)
  | [], a => by simp [foldM, lst]
  | p :: ps, a => by
    rw [List.foldl_cons, all_list ps]
    rw [ByteArray.data_append, Array.toList_append, List.append_assoc]
    rfl
/-- The text of a mail of an entry. -/
def bod (e : en.En) : B := qu.qt 0 (rn.crl e.c.data.toList) ++ nl
/-- What stands ahead of it. -/
def hea (e : en.En) (box : ByteArray) : B := foldM (lst (rn.flds e box)) ++ nl
theorem rend_list (e : en.En) (box : ByteArray) : (rn.rend e box).data.toList = hea e box ++ bod e := by
  unfold rn.rend rn.foldAll hea bod
  rw [ByteArray.data_append, Array.toList_append, ByteArray.data_append, Array.toList_append, all_list]
  rfl
theorem rend_mail {e : en.En} {box : ByteArray} (h : en.eok e = true) (hb : nm.IsName box) (ha : rn.Enc e.a) (ht : rn.Enc e.t) (hi : rn.Enc e.i) (hl : rn.Enc e.l) :
    IsMail (rn.rend e box).data.toList (lst (rn.flds e box)) (bod e) := by
  rw [rend_list]
  refine isMail_fold _ _ ?_ (by simp [lst, rn.flds])
  intro x hx
  obtain ⟨p, hp, rfl⟩ := List.mem_map.1 hx
  obtain ⟨⟨g1, g2⟩, g3, g4⟩ := rn.flds_good h hb ha ht hi hl p hp
  exact ⟨g1, by rw [← Lib.size_eq]; exact g3, g2⟩
theorem rend_len {e : en.En} {box : ByteArray} (h : en.eok e = true) (hb : nm.IsName box) (ha : rn.Enc e.a) (ht : rn.Enc e.t) (hi : rn.Enc e.i) (hl : rn.Enc e.l) : (rn.rend e box).data.toList.length ≤ 65536 := by
  obtain ⟨_, _, _, _, ⟨e5, _⟩, e6, e7⟩ := rn.eok_cases h
  have hm := (rn.mid_safe e box hb).2
  have hdt := (rn.date_safe e.d e6 e7).2
  have hq := qu.qt_len 0 (rn.crl e.c.data.toList)
  have hc := rn.crl_len e.c.data.toList
  have h1 := ha.2.2
  have h2 := ht.2.2
  have h3 := hi.2.2
  have h4 := hl.2.2
  rw [Lib.size_eq] at hm h1 h2 h3 h4 e5
  rw [rend_list]
  unfold hea bod
  have F := fun nm v => ff.field_len nm v
  simp only [rn.flds, lst, foldM, List.map_cons, List.map_nil, List.flatMap_cons, List.flatMap_nil, List.length_append, List.length_nil]
  have f1 := F [70, 114, 111, 109] (rn.EN e.a).data.toList
  have f2 := F [68, 97, 116, 101] (dx.t82 e.d)
  have f3 := F [83, 117, 98, 106, 101, 99, 116] (rn.EN e.t).data.toList
  have f4 := F [77, 101, 115, 115, 97, 103, 101, 45, 73, 68] (rn.mid e box).data.toList
  have f5 := F [88, 45, 73, 100] (rn.EN e.i).data.toList
  have f6 := F [88, 45, 76, 105, 110, 107] (rn.EN e.l).data.toList
  have f7 := F [77, 73, 77, 69, 45, 86, 101, 114, 115, 105, 111, 110] [49, 46, 48]
  have f8 := F [67, 111, 110, 116, 101, 110, 116, 45, 84, 121, 112, 101] [116, 101, 120, 116, 47, 112, 108, 97, 105, 110, 59, 32, 99, 104, 97, 114, 115, 101, 116, 61, 117, 116, 102, 45, 56]
  have f9 := F [67, 111, 110, 116, 101, 110, 116, 45, 84, 114, 97, 110, 115, 102, 101, 114, 45, 69, 110, 99, 111, 100, 105, 110, 103] [113, 117, 111, 116, 101, 100, 45, 112, 114, 105, 110, 116, 97, 98, 108, 101]
  have hnl : nl.length = 2 := rfl
  simp only [List.length_cons, List.length_nil] at f1 f2 f3 f4 f5 f6 f7 f8 f9
  omega
theorem end4 (A C : B) : ∃ x : B, A ++ (C ++ [13, 10]) ++ nl = x ++ [13, 10, 13, 10] := ⟨A ++ C, by simp [nl]⟩
/-- Its head ends in two ends of lines. -/
theorem hea_end (e : en.En) (box : ByteArray) : ∃ x : B, hea e box = x ++ [13, 10, 13, 10] := by
  unfold hea foldM lst
  rw [List.flatMap_map]
  have : rn.flds e box = (rn.flds e box).dropLast ++ [(rn.flds e box).getLast (by simp [rn.flds])] := (List.dropLast_concat_getLast _).symm
  rw [this, List.flatMap_append]
  simp only [List.flatMap_cons, List.flatMap_nil, List.append_nil, hd.foldL]
  exact end4 _ _
def news : ByteArray := ⟨#[110, 101, 119, 115]⟩
theorem news_name : nm.IsName news := by
  refine ⟨by decide, by decide, fun j hj => ⟨hj, .inl ?_⟩⟩
  have h4 : j < 4 := hj
  match j, h4 with
  | 0, _ => rfl
  | 1, _ => rfl
  | 2, _ => rfl
  | 3, _ => rfl
def hdrT : ByteArray := ⟨#[72, 69, 65, 68, 69, 82]⟩
def txtT : ByteArray := ⟨#[84, 69, 88, 84]⟩
def subA : ByteArray := ⟨#[115, 117, 98, 106, 101, 99, 116]⟩
def subB : ByteArray := ⟨#[83, 85, 66, 74, 69, 67, 84]⟩
/-- All that FnParts asks of a drawn entry's mail s, its head H and its text T. -/
structure Told (i t l a : ByteArray) (d : Int) (c s H T : ByteArray) (ps : List Pr) (sv : ByteArray) : Prop where
  small : en.Small ⟨i, t, l, a, d, c⟩
  re : ∀ r, rn.ReRet ⟨i, t, l, a, d, c⟩ news r → r = .returned (.tuple #[.string s, .int .i64 0])
  size : s.size ≤ 65536
  all : ∀ x, MpRet s.data.toList [] x → x = .returned (.tuple #[.string s, .int .i64 0])
  head : ∀ x, MpRet s.data.toList hdrT.data.toList x → x = .returned (.tuple #[.string H, .int .i64 0])
  text : ∀ x, MpRet s.data.toList txtT.data.toList x → x = .returned (.tuple #[.string T, .int .i64 0])
  both : H ++ T = s
  four : 4 ≤ H.size
  ends : H.extract (H.size - 4) H.size = ⟨#[13, 10, 13, 10]⟩
  parse : ∀ base x w, RlRet s.data.toList base x w → ∃ v, x = .returned (.tuple #[.agg #[v, .string T], .int .i64 0]) ∧ AttrsAt w v ps
  few : fa.Small ps
  subj : foC ps subA = (sv, 0)
  subj2 : foC ps subB = (sv, 0)
theorem told_of {i t l a c : ByteArray} {d : Int} (h : en.eok ⟨i, t, l, a, d, c⟩ = true) : ∃ s H T ps sv, Told i t l a d c s H T ps sv := by
  obtain ⟨e1, e2, e3, e4, e5, e6, e7⟩ := rn.eok_cases h
  have ha := rn.enc_all a e4 default
  have ht := rn.enc_all t e2 default
  have hi := rn.enc_all i e1 default
  have hl := rn.enc_all l e3 default
  have hm := rend_mail h news_name ha ht hi hl
  have hz := rend_len h news_name ha ht hi hl
  have hgood := rn.flds_good h news_name ha ht hi hl
  have hL := rend_list ⟨i, t, l, a, d, c⟩ news
  obtain ⟨x4, hx4⟩ := hea_end ⟨i, t, l, a, d, c⟩ news
  have hsz : (rn.rend ⟨i, t, l, a, d, c⟩ news).size ≤ 65536 := by rw [Lib.size_eq]; exact hz
  obtain ⟨s, hs⟩ : ∃ s, s = rn.rend ⟨i, t, l, a, d, c⟩ news := ⟨_, rfl⟩
  have hre : ∀ r, rn.ReRet ⟨i, t, l, a, d, c⟩ news r → r = .returned (.tuple #[.string s, .int .i64 0]) := by
    intro r hr
    rcases hr with ⟨h1, _⟩ | ⟨_, h1, _⟩ | ⟨_, _, h1⟩
    · exact absurd h1 (by decide)
    · exact absurd ⟨h, news_name⟩ h1
    · rw [hs]; exact h1
  rw [← hs] at hm hz hL hsz
  generalize hea ⟨i, t, l, a, d, c⟩ news = Hl at hL hx4
  generalize bod ⟨i, t, l, a, d, c⟩ = Tl at hL hm
  have hmk : (⟨s.data.toList.toArray⟩ : ByteArray) = s := by cases s; simp
  have mp : ∀ p x, p.length ≤ 65536 → (p = [] ∨ p = hdr ∨ p = txt) → MpRet s.data.toList p x → x = .returned (.tuple #[tv (partOf s.data.toList p Tl), .int .i64 0]) := by
    intro p x hp hc hx
    rcases hx with ⟨h1, _⟩ | ⟨_, _, h1, _⟩ | ⟨_, _, _, h1, _⟩ | ⟨_, _, _, fs, b, hm', hx⟩
    · omega
    · exact absurd hc h1
    · exact absurd ⟨_, _, hm⟩ h1
    · obtain ⟨_, rfl⟩ := isMail_one hm' hm
      exact hx
  refine ⟨s, ⟨Hl.toArray⟩, ⟨Tl.toArray⟩, rn.flds ⟨i, t, l, a, d, c⟩ news, rn.EN t, ?_, hre, hsz, ?_, ?_, ?_, ?_, ?_, ?_, ?_, ?_, rfl, rfl⟩
  · have h1 := (en.fld_cases e1).1
    have h2 := (en.fld_cases e2).1
    have h3 := (en.fld_cases e3).1
    have h4 := (en.fld_cases e4).1
    have h5 := e5.1
    simp only at h1 h2 h3 h4 h5
    exact ⟨show i.size ≤ _ by omega, show t.size ≤ _ by omega, show l.size ≤ _ by omega, show a.size ≤ _ by omega, show c.size ≤ _ by omega⟩
  · intro x hx
    have := mp [] x (by simp) (.inl rfl) hx
    rw [this]
    show Ending.returned (.tuple #[.string ⟨s.data.toList.toArray⟩, _]) = _
    rw [hmk]
  · intro x hx
    have := mp hdr x (by decide) (.inr (.inl rfl)) hx
    rw [this]
    have e : partOf s.data.toList hdr Tl = Hl := by
      unfold partOf
      rw [if_neg (by decide), if_pos rfl, hL, List.length_append, Nat.add_sub_cancel]
      simp
    rw [e]
    rfl
  · intro x hx
    have := mp txt x (by decide) (.inr (.inr rfl)) hx
    rw [this]
    have e : partOf s.data.toList txt Tl = Tl := by
      unfold partOf
      rw [if_neg (by decide), if_neg (by decide)]
    rw [e]
    rfl
  · rw [← hmk, hL]
    apply ByteArray.ext
    simp
  · rw [hx4]
    show 4 ≤ ((x4 ++ [13, 10, 13, 10]).toArray).size
    simp
  · rw [hx4]
    apply ByteArray.ext
    rw [ByteArray.data_extract]
    apply Array.toList_inj.1
    have hsz4 : (⟨(x4 ++ [13, 10, 13, 10]).toArray⟩ : ByteArray).size = x4.length + 4 := by
      show ((x4 ++ [13, 10, 13, 10]).toArray).size = _
      simp
    rw [hsz4]
    simp [List.extract_eq_take_drop]
  · intro base x w hx
    rcases hx with ⟨h1, _⟩ | ⟨_, h1, _⟩ | ⟨_, fs, b, v, hm', rfl, hf⟩
    · omega
    · exact absurd ⟨_, _, hm⟩ h1
    · obtain ⟨rfl, rfl⟩ := isMail_one hm' hm
      refine ⟨v, rfl, ?_⟩
      have := fields_attrs hf
      rw [prs_lst] at this
      exact this
  · refine ⟨by simp [rn.flds], fun j hj => ?_⟩
    have e : (rn.flds ⟨i, t, l, a, d, c⟩ news).getD j no = (rn.flds ⟨i, t, l, a, d, c⟩ news)[j] := by simp [List.getD_eq_getElem?_getD, hj]
    rw [e]
    have := hgood _ (List.getElem_mem hj)
    exact ⟨by omega, by omega⟩
end Go.Proofs.YtbokolpjdaamiaaGreatDoor.me

namespace Go.Proofs.YtbokolpjdaamiaaGreatDoor.sl
open Go.RowKit
open lo
set_option linter.unusedVariables false

def sameB (a b : ByteArray) : Bool := decide (lower a.data.toList = lower b.data.toList)
theorem tl_same (a b : ByteArray) : ((⟨(lower a.data.toList).toArray⟩ : ByteArray).toList == (⟨(lower b.data.toList).toArray⟩ : ByteArray).toList) = sameB a b := by
  rw [Lib.toList_data, Lib.toList_data, Bool.eq_iff_iff, beq_iff_eq, sameB, decide_eq_true_iff]
end Go.Proofs.YtbokolpjdaamiaaGreatDoor.sl
