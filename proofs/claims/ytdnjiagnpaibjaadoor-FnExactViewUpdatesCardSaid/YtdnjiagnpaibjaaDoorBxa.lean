/-
  A box as an argument: opened; measured, copied and compared by the law's own functions.
-/
import Derived.Test.YtdnjiagnpaibjaaDoorTxa
namespace Go.Proofs.YtdnjiagnpaibjaaDoor.bx
open Go.ChangeShapes Go.WideShapes Go.ChangeAt Go.RowKit Go.Deep Go.Joins
open st
set_option linter.unusedVariables false

/-- A box: name, valid, next, mails, keys. -/
structure Bx where
  nm : ByteArray
  vd : Int
  nx : Int
  ms : List St
  ks : List ByteArray
/-- It as the program has it, its mails in v, its keys in u. -/
def BV (x : Bx) (v u : Value) : Value := .agg #[.string x.nm, .int .i64 x.vd, .int .i64 x.nx, v, u]
def Ins (x : Bx) : Prop := In x.vd ∧ In x.nx
def Small (x : Bx) : Prop := Ins x ∧ x.nm.size ≤ 1048576 ∧ st.Smalls x.ms ∧ tx.Smalls x.ks
def Held (x : Bx) : Prop := Ins x ∧ x.nm.size ≤ maxLen ∧ (x.ms.length ≤ maxLen ∧ ∀ j, j < x.ms.length → st.Held (x.ms.getD j noS)) ∧ x.ks.length ≤ maxLen ∧ ∀ j, j < x.ks.length → (x.ks.getD j ky.nt).size ≤ maxLen
/-- Its rows, in blocks below n. -/
def RowsIn (w : World) (n : Nat) (v u : Value) (ms : List St) (ks : List ByteArray) : Prop := MailsIn w n v ms ∧ tx.TextsIn w n u ks
theorem rows_in_below {w w' : World} {n k : Nat} {v u : Value} {ms : List St} {ks : List ByteArray} (h : RowsIn w n v u ms ks) (hb : Below k w w') (hk : n ≤ k) : RowsIn w' n v u ms ks := ⟨mails_below h.1 hb hk, tx.texts_below h.2 hb hk⟩
theorem rows_more {w : World} {n k : Nat} {v u : Value} {ms : List St} {ks : List ByteArray} (h : RowsIn w n v u ms ks) (hk : n ≤ k) : RowsIn w k v u ms ks := ⟨mails_more h.1 hk, tx.texts_more h.2 hk⟩
/-- Its rows. -/
def RowsAt (w : World) (v u : Value) (ms : List St) (ks : List ByteArray) : Prop := RowsIn w w.heap.size v u ms ks
theorem rows_below {w w' : World} {v u : Value} {ms : List St} {ks : List ByteArray} (h : RowsAt w v u ms ks) (hb : Below w.heap.size w w') : RowsAt w' v u ms ks := rows_more (rows_in_below h hb (Nat.le_refl _)) hb.size

theorem five_list {α : Type} {l : List α} (h : l.length = 5) : ∃ a b c d e, l = [a, b, c, d, e] := by
  match l, h with
  | [a, b, c, d, e], _ => exact ⟨a, b, c, d, e, rfl⟩
section
variable {H : Type} {enc : TypeId × Value → H} {w : World} {base : Nat} {spare : Nat → Bool} {held : Bool}
set_option maxRecDepth 100000 in
theorem trod_box {fuel : Nat} {cs : List Value} {x : DataW H × List MemPlace} (h : DataW.trod enc Tryd.prog w base spare held fuel 25 cs = some x) :
    ∃ (x : Bx) (v u : Value), cs = [.string x.nm, .int .i64 x.vd, .int .i64 x.nx, v, u] ∧ RowsAt w v u x.ms x.ks ∧ Held x := by
  obtain ⟨hl, n, hall⟩ := trod_cells Tryd.underlying25 (by kernel_rfl) (by kernel_rfl) h
  obtain ⟨c0, c1, c2, c3, c4, rfl⟩ := five_list hl
  obtain ⟨y0, t0⟩ := hall 0 _ _ rfl rfl
  obtain ⟨y1, t1⟩ := hall 1 _ _ rfl rfl
  obtain ⟨y2, t2⟩ := hall 2 _ _ rfl rfl
  obtain ⟨y3, t3⟩ := hall 3 _ _ rfl rfl
  obtain ⟨y4, t4⟩ := hall 4 _ _ rfl rfl
  obtain ⟨s0, e0, _, f0⟩ := DataW.trod_string Tryd.underlying9 t0
  obtain ⟨z1, e1, _, f1⟩ := DataW.trod_int Tryd.underlying3 t1
  obtain ⟨z2, e2, _, f2⟩ := DataW.trod_int Tryd.underlying3 t2
  obtain ⟨ms, hat, hpl, hps⟩ := open_mails t3
  obtain ⟨ks, hat2, hpl2, hps2⟩ := tx.open_texts t4
  simp only [List.cons.injEq, and_true] at e0 e1 e2
  subst e0 e1 e2
  exact ⟨⟨s0, z1, z2, ms, ks⟩, c3, c4, rfl, ⟨hat, hat2⟩, ⟨in_of_wf f1, in_of_wf f2⟩, f0, ⟨hpl, hps⟩, hpl2, hps2⟩
set_option maxRecDepth 100000 in
theorem open_box {r : Reach} {b0 : Nat} {v : Value} {d : DataW H} {p : List MemPlace} (hv : Value.okWide Tryd.prog w r b0 25 v) (h : DataW.Trod enc Tryd.prog w base spare held 25 v d p) :
    ∃ (x : Bx) (u1 u2 : Value), v = BV x u1 u2 ∧ RowsAt w u1 u2 x.ms x.ks ∧ Held x := by
  obtain ⟨cs, rfl, hsz⟩ := okWide_struct Tryd.underlying25 hv
  obtain ⟨fuel, hf⟩ := h
  have hcs : (Value.agg cs).cells.toList = cs.toList := by simp [Value.cells]
  rw [hcs] at hf
  obtain ⟨x, u1, u2, hc, hr, hh⟩ := trod_box hf
  exact ⟨x, u1, u2, congrArg Value.agg (Array.toList_inj.1 hc), hr, hh⟩
end

/-- A box that lies as a variable. -/
def Lies (w : World) (b : Nat) (T : TypeId) (x : Bx) (v u : Value) : Prop := w.heap[b]? = some (.cells #[.string x.nm, .int .i64 x.vd, .int .i64 x.nx, v, u] T (0, 0))
section
variable {w w' : World} {b : Nat} {T : TypeId} {x : Bx} {v u : Value}
theorem Lies.c0 (h : Lies w b T x v u) : w.cell? ⟨b, 0, none⟩ = some (.string x.nm) := by rw [cell_of_row w _ _ _ _ _ h]; rfl
theorem Lies.c1 (h : Lies w b T x v u) : w.cell? ⟨b, 0 + 1, none⟩ = some (.int .i64 x.vd) := by rw [cell_of_row w _ _ _ _ _ h]; rfl
theorem Lies.c2 (h : Lies w b T x v u) : w.cell? ⟨b, 0 + 2, none⟩ = some (.int .i64 x.nx) := by rw [cell_of_row w _ _ _ _ _ h]; rfl
theorem Lies.c3 (h : Lies w b T x v u) : w.cell? ⟨b, 0 + 3, none⟩ = some v := by rw [cell_of_row w _ _ _ _ _ h]; rfl
theorem Lies.c4 (h : Lies w b T x v u) : w.cell? ⟨b, 0 + 4, none⟩ = some u := by rw [cell_of_row w _ _ _ _ _ h]; rfl
theorem Lies.lt (h : Lies w b T x v u) : b < w.heap.size := World.block_lt_of_cell? w _ h.c0
theorem Lies.keep (h : Lies w b T x v u) (hb : Below w.heap.size w w') : Lies w' b T x v u := (hb.block b h.lt).trans h
theorem lies_new (w : World) (T : TypeId) (x : Bx) (v u : Value) : Lies (w.alloc (.cells #[.string x.nm, .int .i64 x.vd, .int .i64 x.nx, v, u] T)) w.heap.size T x v u := by show (w.heap.push _)[w.heap.size]? = _; simp
theorem new_below (w : World) (T : TypeId) (cs : Array Value) : Below w.heap.size w (w.alloc (.cells cs T)) := (Below.refl _ _).alloc (Nat.le_refl _) _
end

set_option maxHeartbeats 1000000 in
set_option maxRecDepth 100000 in
theorem szBox_any (x : Bx) (v u : Value) (left : Int) (w : World) (h : RowsAt w v u x.ms x.ks) (h0 : 0 ≤ left) (h1 : left ≤ 1048576) (hh : Held x) :
    Calls Tryd.prog 6 #[BV x v u, .int .i64 left] w fun e w' => (∃ z : Int, e = .returned (.int .i64 z) ∧ z ≤ left ∧ -1 ≤ z ∧ (0 ≤ z → Small x)) ∧ Below w.heap.size w w' := by
  have L0 := lies_new w 25 x v u
  have hbw := new_below w 25 #[.string x.nm, .int .i64 x.vd, .int .i64 x.nx, v, u]
  have H2 : Hid (RowsAt (w.alloc (.cells #[.string x.nm, .int .i64 x.vd, .int .i64 x.nx, v, u] 25)) v u x.ms x.ks) := rows_below h hbw
  obtain ⟨⟨a, cap, rfl, _⟩, ⟨a1, cap1, rfl, _⟩⟩ := h
  obtain ⟨nm, vd, nx, ms, ks⟩ := x
  obtain ⟨hi, hb, hl, hl2⟩ := hh
  unfold BV
  simp only at L0 hbw H2 hb hl hl2 ⊢
  have hb' : nm.size ≤ 9223372036854775807 := hb
  have HL : Hid (ms.length ≤ maxLen ∧ ∀ j, j < ms.length → st.Held (ms.getD j noS)) := hl
  have HL2 : Hid (ks.length ≤ maxLen ∧ ∀ j, j < ks.length → (ks.getD j ky.nt).size ≤ maxLen) := hl2
  have HI : Hid (Ins ⟨nm, vd, nx, ms, ks⟩) := hi
  clear hl hl2 hi
  by_cases g0 : left - (nm.size : Int) < 0
  · go_enter Tryd.func6, Tryd.ntmps6
    go_wp2
    go_ret
    exact ⟨⟨-1, rfl, by omega, by omega, by omega⟩, hbw⟩
  go_enter Tryd.func6, Tryd.ntmps6
  go_wp2_with fail
  generalize w.alloc _ = w0 at L0 hbw H2 ⊢
  refine (szStoredS_any _ _ ms _ _ H2.out.1 (Nat.le_refl _) (by omega) (by omega) HL.out.1 HL.out.2).mono ?_
  rintro e w2 ⟨⟨z, rfl, hz0, hz1, hz2⟩, hb2⟩
  have HZ : Hid (0 ≤ z → st.Smalls ms) := hz2
  have L2 := L0.keep hb2
  have H3 : Hid (RowsAt w2 (.slice a ms.length cap) (.slice a1 ks.length cap1) ms ks) := rows_below H2.out hb2
  have hb3 := hbw.trans (hb2.mono hbw.size)
  clear hz2 H2 HL hbw hb2 L0
  have c4 := L2.c4
  clear L2
  by_cases hz : z < 0
  · go_wp2
    go_ret
    exact ⟨⟨-1, rfl, by omega, by omega, by omega⟩, hb3⟩
  go_wp2_with fail
  refine (tx.szTexts_any _ _ ks _ _ H3.out.2 (by omega) (by omega) HL2.out.1 HL2.out.2).mono ?_
  rintro e w3 ⟨⟨y, rfl, hy0, hy1, hy2⟩, rfl⟩
  have HY : Hid (0 ≤ y → tx.Smalls ks) := hy2
  clear hy2 H3 HL2
  by_cases hy : y < 0
  · go_wp2
    go_ret
    exact ⟨⟨-1, rfl, by omega, by omega, by omega⟩, hb3⟩
  · go_wp2
    go_ret
    exact ⟨⟨_, rfl, by omega, by omega, fun _ => ⟨HI.out, by show nm.size ≤ _; omega, HZ.out (by omega), HY.out (by omega)⟩⟩, hb3⟩

set_option maxHeartbeats 1000000 in
set_option maxRecDepth 100000 in
theorem eqBox_any (x : Bx) (v u v' u' : Value) (w : World) (h1 : RowsAt w v u x.ms x.ks) (h2 : RowsAt w v' u' x.ms x.ks) (hn : x.ms.length ≤ 1048576 ∧ x.ks.length ≤ 1048576) :
    Calls Tryd.prog 12 #[BV x v u, BV x v' u'] w fun e w' => e = .returned (.bool true) ∧ Below w.heap.size w w' := by
  have hbw := (new_below w 32 #[.string x.nm, .int .i64 x.vd, .int .i64 x.nx, v, u]).alloc (by simp) (.cells #[.string x.nm, .int .i64 x.vd, .int .i64 x.nx, v', u'] 32)
  have L0 := (lies_new w 32 x v u).keep (new_below _ 32 #[.string x.nm, .int .i64 x.vd, .int .i64 x.nx, v', u'])
  have M0 := lies_new (w.alloc (.cells #[.string x.nm, .int .i64 x.vd, .int .i64 x.nx, v, u] 32)) 32 x v' u'
  have HA := rows_below h1 hbw
  have HB := rows_below h2 hbw
  obtain ⟨⟨a, cap, rfl, _⟩, ⟨a1, cap1, rfl, _⟩⟩ := h1
  obtain ⟨⟨a', cap', rfl, _⟩, ⟨a1', cap1', rfl, _⟩⟩ := h2
  obtain ⟨nm, vd, nx, ms, ks⟩ := x
  unfold BV
  simp only at hbw L0 M0 HA HB hn ⊢
  rw [show (w.alloc (.cells #[.string nm, .int .i64 vd, .int .i64 nx, .slice a ms.length cap, .slice a1 ks.length cap1] 32)).heap.size = w.heap.size + 1 by simp] at M0
  have k1 : ((vd : Int) != vd) = false := by simp
  have k2 : ((nx : Int) != nx) = false := by simp
  go_enter Tryd.func12, Tryd.ntmps12
  go_wp2_with fail
  generalize World.alloc _ _ = w0 at hbw L0 M0 HA HB ⊢
  have HA : Hid (RowsAt w0 (.slice a ms.length cap) (.slice a1 ks.length cap1) ms ks) := HA
  have HB : Hid (RowsAt w0 (.slice a' ms.length cap') (.slice a1' ks.length cap1') ms ks) := HB
  refine (eqStoredS_any _ _ _ _ ms _ HA.out.1 HB.out.1 hn.1).mono ?_
  rintro e w2 ⟨rfl, hb2⟩
  have HA2 : Hid (RowsAt w2 (.slice a ms.length cap) (.slice a1 ks.length cap1) ms ks) := rows_below HA.out hb2
  have HB2 : Hid (RowsAt w2 (.slice a' ms.length cap') (.slice a1' ks.length cap1') ms ks) := rows_below HB.out hb2
  have c4 := (L0.keep hb2).c4
  have d4 := (M0.keep hb2).c4
  have b3 := hbw.trans (hb2.mono hbw.size)
  clear hbw hb2 HA HB L0 M0
  go_wp2_with fail
  refine (ky.eqTexts_any _ _ ks _ (tx.texts_at HA2.out.2) (tx.texts_at HB2.out.2) hn.2).mono ?_
  rintro e w3 ⟨rfl, hb3⟩
  have b4 := b3.trans (hb3.mono b3.size)
  clear b3 hb3 HA2 HB2 c4 d4
  go_wp2
  go_ret
  exact ⟨rfl, b4⟩
end Go.Proofs.YtdnjiagnpaibjaaDoor.bx
