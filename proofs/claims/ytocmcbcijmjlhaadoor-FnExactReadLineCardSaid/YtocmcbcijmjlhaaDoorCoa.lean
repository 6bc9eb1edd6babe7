/-
  The reader of a console's line: its least methods.
-/
import Derived.Test.YtocmcbcijmjlhaaDoorCop
import Derived.Test.YtocmcbcijmjlhaaDoorOwn
import Derived.Test.YtocmcbcijmjlhaaDoorShf
import Derived.WalkKit
import Derived.WalkLawsBesides
import Derived.Below
import Derived.Deep.QuietTactic
import Derived.BigQuiet
import Derived.BigRegion
namespace Go.Proofs.YtocmcbcijmjlhaaDoor.cn
open Go.RowKit
open sp
set_option linter.unusedVariables false

/-- A reader lies in block b: what is left, and its event's Kind, Conn, Box and Data. -/
def Rd (w : World) (b : Nat) (r : List UInt8) (k c : Int) (x d : List UInt8) : Prop :=
  w.heap[b]? = some (.cells #[tv r, .int .i64 k, .int .i64 c, .int .i64 0, tv x, tv d] 34 (0, 0))
section
variable {w w' w'' : World} {b : Nat} {r x d r' x' d' : List UInt8} {k c k' c' : Int}
theorem Rd.c0 (h : Rd w b r k c x d) : w.cell? ⟨b, 0, none⟩ = some (.string ⟨r.toArray⟩) := by rw [cell_of_row w b 0 _ _ _ h]; rfl
theorem Rd.c1 (h : Rd w b r k c x d) : w.cell? ⟨b, 0 + 1, none⟩ = some (.int .i64 k) := by rw [cell_of_row w b _ _ _ _ h]; rfl
theorem Rd.c2 (h : Rd w b r k c x d) : w.cell? ⟨b, 0 + 1 + 1, none⟩ = some (.int .i64 c) := by rw [cell_of_row w b _ _ _ _ h]; rfl
theorem Rd.c3 (h : Rd w b r k c x d) : w.cell? ⟨b, 0 + 1 + 2, none⟩ = some (.int .i64 0) := by rw [cell_of_row w b _ _ _ _ h]; rfl
theorem Rd.c4 (h : Rd w b r k c x d) : w.cell? ⟨b, 0 + 1 + 3, none⟩ = some (tv x) := by rw [cell_of_row w b _ _ _ _ h]; rfl
theorem Rd.c5 (h : Rd w b r k c x d) : w.cell? ⟨b, 0 + 1 + 4, none⟩ = some (tv d) := by rw [cell_of_row w b _ _ _ _ h]; rfl
theorem Rd.f (h : Rd w b r k c x d) (j : Nat) : w.frozen? ⟨b, j, none⟩ = false := frozen_of_row w b j _ _ h
theorem Rd.lt (h : Rd w b r k c x d) : b < w.heap.size := World.block_lt_of_cell? w _ h.c0
theorem Rd.keep (h : Rd w b r k c x d) (hb : Below w.heap.size w w') : Rd w' b r k c x d := (hb.block b h.lt).trans h
theorem Rd.drew (h : Rd w b r k c x d) (n : Nat) : Rd (w.drewN n) b r k c x d := h
theorem Rd.p0 (h : Rd w b r k c x d) : Rd (w.setCell ⟨b, 0, none⟩ (.string ⟨r'.toArray⟩)) b r' k c x d := heap_setCell_same w b 0 _ _ _ h
theorem Rd.p1 (h : Rd w b r k c x d) : Rd (w.setCell ⟨b, 1, none⟩ (.int .i64 k')) b r k' c x d := heap_setCell_same w b 1 _ _ _ h
theorem Rd.p2 (h : Rd w b r k c x d) : Rd (w.setCell ⟨b, 2, none⟩ (.int .i64 c')) b r k c' x d := heap_setCell_same w b 2 _ _ _ h
theorem Rd.p4 (h : Rd w b r k c x d) : Rd (w.setCell ⟨b, 4, none⟩ (.string ⟨x'.toArray⟩)) b r k c x' d := heap_setCell_same w b 4 _ _ _ h
theorem Rd.p5 (h : Rd w b r k c x d) : Rd (w.setCell ⟨b, 5, none⟩ (.string ⟨d'.toArray⟩)) b r k c x d' := heap_setCell_same w b 5 _ _ _ h
theorem grown_at (w : World) (b j : Nat) (u : Value) : w.grownBy (w.setCell ⟨b, j, none⟩ u) (some b) :=
  ⟨rfl, rfl, rfl, by simp, fun k _ hk => heap_setCell_other w ⟨b, j, none⟩ k u (fun e => hk (by simp [e]))⟩
/-- A reader is at this, and nothing else was written. -/
def St (w : World) (b : Nat) (r : List UInt8) (k c : Int) (x d : List UInt8) (w' : World) : Prop := Rd w' b r k c x d ∧ w.grownBy w' (some b)
theorem St.refl (h : Rd w b r k c x d) : St w b r k c x d w := ⟨h, ow.grown_refl _ _⟩
theorem St.trans (h : St w b r k c x d w') (g : St w' b r' k' c' x' d' w'') : St w b r' k' c' x' d' w'' := ⟨g.1, ow.grown_trans h.2 g.2⟩
theorem St.below (h : St w b r k c x d w') (hb : Below w'.heap.size w' w'') : St w b r k c x d w'' := ⟨h.1.keep hb, ow.grown_trans h.2 (ow.grown_below hb)⟩
theorem St.p0 (h : St w b r k c x d w') : St w b r' k c x d (w'.setCell ⟨b, 0, none⟩ (.string ⟨r'.toArray⟩)) := ⟨h.1.p0, ow.grown_trans h.2 (grown_at _ _ _ _)⟩
theorem St.p1 (h : St w b r k c x d w') : St w b r k' c x d (w'.setCell ⟨b, 1, none⟩ (.int .i64 k')) := ⟨h.1.p1, ow.grown_trans h.2 (grown_at _ _ _ _)⟩
theorem St.p2 (h : St w b r k c x d w') : St w b r k c' x d (w'.setCell ⟨b, 2, none⟩ (.int .i64 c')) := ⟨h.1.p2, ow.grown_trans h.2 (grown_at _ _ _ _)⟩
theorem St.p4 (h : St w b r k c x d w') : St w b r k c x' d (w'.setCell ⟨b, 4, none⟩ (.string ⟨x'.toArray⟩)) := ⟨h.1.p4, ow.grown_trans h.2 (grown_at _ _ _ _)⟩
theorem St.p5 (h : St w b r k c x d w') : St w b r k c x d' (w'.setCell ⟨b, 5, none⟩ (.string ⟨d'.toArray⟩)) := ⟨h.1.p5, ow.grown_trans h.2 (grown_at _ _ _ _)⟩
end
/-- A panic of the text's own. -/
def Pan (e : Ending) : Prop := ∃ (T : TypeId) (v : Value), e = .panicked [{ v := .iface T v, recovered := false }]

theorem clone_any (s : ByteArray) (w : World) (hs : s.size ≤ 1048576) :
    Calls Tryd.prog 22 #[.string s] w fun e w' => e = .returned (.string s) ∧ Below w.heap.size w w' := by
  go_enter Tryd.func22, Tryd.ntmps22
  go_wp2_with fail
  refine (Tryd.stringslite_Clone s _ (by omega)).mono ?_
  rintro e w' ⟨rfl, hb⟩
  go_wp2
  go_ret
  exact ⟨rfl, hb⟩
theorem trimL_any (r : List UInt8) (w : World) : Calls Tryd.prog 20 #[.string ⟨r.toArray⟩, .string ⟨#[32]⟩] w fun e w' => e = .returned (.string ⟨(tl r).toArray⟩) ∧ w' = w := Tryd.strings_TrimLeft_one ⟨r.toArray⟩ 32 (by decide) w
theorem trim_any (r : List UInt8) (hr : r.length ≤ 1048576) (w : World) : Calls Tryd.prog 29 #[.string ⟨r.toArray⟩, .string ⟨#[32]⟩] w fun e w' => e = .returned (.string ⟨(tb r).toArray⟩) ∧ Below w.heap.size w w' := by
  refine (Tryd.strings_Trim_one ⟨r.toArray⟩ 32 (by decide) w (by show r.toArray.size ≤ _; simp; omega)).mono ?_
  rintro e w' ⟨rfl, rfl | rfl⟩
  · exact ⟨rfl, Below.refl _ _⟩
  · exact ⟨rfl, (Below.refl _ _).drew⟩
theorem emp_of {l : List UInt8} (h : l = []) : ((⟨l.toArray⟩ : ByteArray).toList == []) = true ∧ l.isEmpty = true := ⟨by rw [Lib.toList_data, h]; rfl, by rw [h]; rfl⟩
theorem emp_ne {l : List UInt8} (h : l ≠ []) : ((⟨l.toArray⟩ : ByteArray).toList == []) = false ∧ l.isEmpty = false := ⟨by rw [Lib.toList_data]; exact beq_eq_false_iff_ne.2 h, by cases l with | nil => exact absurd rfl h | cons a b => rfl⟩
theorem tl_len (l : List UInt8) : (tl l).length ≤ l.length := by
  have := congrArg List.length (List.takeWhile_append_dropWhile (p := isp) (l := l))
  rw [List.length_append] at this
  unfold tl
  omega
theorem sk_len (l : List UInt8) : (wd l).length + (sk l).length = (tl l).length := by rw [tl_split l, List.length_append]
theorem wd_len (l : List UInt8) : (wd l).length ≤ l.length := by have := sk_len l; have := tl_len l; omega
theorem rs_len (l : List UInt8) : (rs l).length ≤ l.length := by
  have := sk_len l; have := tl_len l
  have : (rs l).length = (sk l).length - 1 := by unfold rs; rw [List.length_drop]
  omega

theorem tr_len (l : List UInt8) : (tr l).length ≤ l.length := by
  unfold tr
  have := tl_len l.reverse
  unfold tl at this
  simpa using this
theorem tb_len (l : List UInt8) : (tb l).length ≤ l.length := Nat.le_trans (tl_len (tr l)) (tr_len l)

set_option maxHeartbeats 1000000 in
set_option maxRecDepth 100000 in
theorem word_some (b : Nat) (r : List UInt8) (k c : Int) (x d : List UInt8) (w : World) (h : Rd w b r k c x d) (hr : r.length ≤ 1048576) (mx : Int) (hm : w.cell? ⟨0, 0, none⟩ = some (.int .i64 mx)) (hw : wd r ≠ []) :
    Calls Tryd.prog 13 #[.pointer (some ⟨b, 0, none⟩)] w fun e w' => e = .returned (.string ⟨(wd r).toArray⟩) ∧ St w b (rs r) k c x d w' := by
  have c0 := h.c0
  have HR : Hid (Rd w b r k c x d) := h
  obtain ⟨hE, hE2⟩ := emp_ne hw
  have hl : (⟨(tl r).toArray⟩ : ByteArray).size ≤ 1048576 := by show (tl r).toArray.size ≤ _; have := tl_len r; simp; omega
  have HM : Hid (w.cell? ⟨0, 0, none⟩ = some (.int .i64 mx)) := hm
  have HC : Hid (∀ {u r' : List UInt8} {B : Bool}, Cut1 32 (tl r) u r' B → u = wd r ∧ r' = rs r) := fun y => cut_wd y
  clear h hw hm
  go_enter Tryd.func13, Tryd.ntmps13
  go_wp2_with fail
  refine (trimL_any r _).mono ?_
  rintro e w ⟨rfl, rfl⟩
  go_wp2_with fail
  refine (cut1_any 32 ⟨(tl r).toArray⟩ hl _ mx HM.out).mono ?_
  rintro e w' ⟨u, r', B, rfl, hc, n, rfl⟩
  obtain ⟨rfl, rfl⟩ := HC.out hc
  have HR2 : Hid (Rd (w.drewN n) b r k c x d) := HR.out.drew n
  have f0 := HR2.out.f 0
  have c0' := HR2.out.c0
  have HG : Hid (St w b r k c x d (w.drewN n)) := (St.refl HR.out).below (below_drewN (Below.refl _ _) n)
  clear hc c0 HM HC
  generalize w.drewN n = W at HR2 f0 c0' HG ⊢
  go_wp2
  go_ret
  exact ⟨rfl, HG.out.p0⟩

set_option maxHeartbeats 1000000 in
set_option maxRecDepth 100000 in
theorem word_none (b : Nat) (r : List UInt8) (k c : Int) (x d : List UInt8) (w : World) (h : Rd w b r k c x d) (hr : r.length ≤ 1048576) (mx : Int) (hm : w.cell? ⟨0, 0, none⟩ = some (.int .i64 mx)) (hw : wd r = []) :
    Calls Tryd.prog 13 #[.pointer (some ⟨b, 0, none⟩)] w fun e w' => Pan e ∧ w.grownBy w' (some b) := by
  have c0 := h.c0
  have HR : Hid (Rd w b r k c x d) := h
  obtain ⟨hE, hE2⟩ := emp_of hw
  have hl : (⟨(tl r).toArray⟩ : ByteArray).size ≤ 1048576 := by show (tl r).toArray.size ≤ _; have := tl_len r; simp; omega
  have HM : Hid (w.cell? ⟨0, 0, none⟩ = some (.int .i64 mx)) := hm
  have HC : Hid (∀ {u r' : List UInt8} {B : Bool}, Cut1 32 (tl r) u r' B → u = wd r ∧ r' = rs r) := fun y => cut_wd y
  clear h hw hm
  go_enter Tryd.func13, Tryd.ntmps13
  go_wp2_with fail
  refine (trimL_any r _).mono ?_
  rintro e w ⟨rfl, rfl⟩
  go_wp2_with fail
  refine (cut1_any 32 ⟨(tl r).toArray⟩ hl _ mx HM.out).mono ?_
  rintro e w' ⟨u, r', B, rfl, hc, n, rfl⟩
  obtain ⟨rfl, rfl⟩ := HC.out hc
  have HG : Hid (w.grownBy (w.drewN n) (some b)) := ow.grown_drewN (ow.grown_refl _ _) n
  clear hc c0 HM HC
  generalize w.drewN n = W at HG ⊢
  go_wp2
  exact ⟨rfl, ⟨_, _, rfl⟩, HG.out⟩

set_option maxHeartbeats 1000000 in
set_option maxRecDepth 100000 in
theorem tail_any (b : Nat) (r : List UInt8) (k c : Int) (x d : List UInt8) (w : World) (h : Rd w b r k c x d) (hr : r.length ≤ 1048576) :
    Calls Tryd.prog 21 #[.pointer (some ⟨b, 0, none⟩)] w fun e w' => e = .returned (.string ⟨(tb r).toArray⟩) ∧ St w b [] k c x d w' := by
  have c0 := h.c0
  have HR : Hid (Rd w b r k c x d) := h
  clear h
  go_enter Tryd.func21, Tryd.ntmps21
  go_wp2_with fail
  refine (trim_any r hr _).mono ?_
  rintro e w' ⟨rfl, hb⟩
  have f0 := (HR.out.keep hb).f 0
  have c0' := (HR.out.keep hb).c0
  have HG : Hid (St w b r k c x d w') := (St.refl HR.out).below hb
  clear hb c0
  go_wp2
  go_ret
  exact ⟨rfl, HG.out.p0 (r' := [])⟩
end Go.Proofs.YtocmcbcijmjlhaaDoor.cn
