/-
  Stored mails as rows: measured, copied and compared by the law's own functions; as an argument, opened.
  Texts as rows: measured and copied by the law's own functions; as an argument, opened.
-/
import Derived.Test.YtbokolpjdaamiaaGreatDoorPkae
import Derived.Test.YtbokolpjdaamiaaGreatDoorRows
import Derived.Test.YtbokolpjdaamiaaGreatDoorPkas
import Derived.WalkKit
import Derived.WalkLawsBesides
import Derived.ProofKit
import Derived.OpenShut
import Derived.ChangeOld
import Derived.Below
import Derived.BigRegion
import Derived.Laws.OwnMore
import Derived.Lib.SmallJoins
import Derived.Deep.Fields
import Derived.Deep.Slices
import Derived.Test.YtbokolpjdaamiaaGreatDoorPkbi

namespace Go.Proofs.YtbokolpjdaamiaaGreatDoor.st
open Go.ChangeShapes Go.WideShapes Go.ChangeAt Go.RowKit Go.Joins Go.Deep
open gr
set_option linter.unusedVariables false

/-- A stored mail: uid, flags, text. -/
structure St where
  u : Int
  f : Int
  t : ByteArray
def noS : St := ⟨0, 0, ⟨#[]⟩⟩
/-- A number that an int can be. -/
def In (z : Int) : Prop := -9223372036854775808 ≤ z ∧ z ≤ 9223372036854775807
theorem in_of_wf {z : Int} (h : (Lit.int .i64 z).wf = true) : In z := by
  have h1 : IntKind.i64.min = -9223372036854775808 := rfl
  have h2 : IntKind.i64.max = 9223372036854775807 := rfl
  simp [Lit.wf, h1, h2] at h
  exact ⟨by omega, by omega⟩
def Held (e : St) : Prop := In e.u ∧ In e.f ∧ e.t.size ≤ maxLen
def Small (e : St) : Prop := In e.u ∧ In e.f ∧ e.t.size ≤ 1048576
def At3 (w : World) (b o : Nat) (e : St) : Prop :=
  w.cell? ⟨b, o, none⟩ = some (.int .i64 e.u) ∧ w.cell? ⟨b, o + 1, none⟩ = some (.int .i64 e.f) ∧ w.cell? ⟨b, o + 2, none⟩ = some (.string e.t)
theorem At3.lt {w : World} {b o : Nat} {e : St} (h : At3 w b o e) : b < w.heap.size := World.block_lt_of_cell? w _ h.1
theorem At3.keep {w w' : World} {n b o : Nat} {e : St} (h : At3 w b o e) (hb : Below n w w') (hn : b < n) : At3 w' b o e := by
  obtain ⟨h0, h1, h2⟩ := h
  exact ⟨(hb.cell (p := ⟨b, o, none⟩) hn).trans h0, (hb.cell (p := ⟨b, o + 1, none⟩) hn).trans h1, (hb.cell (p := ⟨b, o + 2, none⟩) hn).trans h2⟩
/-- A slice of stored mails, in blocks below n. -/
def MailsIn (w : World) (n : Nat) (v : Value) (es : List St) : Prop :=
  ∃ a cap, v = .slice a es.length cap ∧ (es = [] ∨ ∃ b off, a = some ⟨b, off, none⟩ ∧ b < n ∧ ∀ j, j < es.length → At3 w b (off + j * 3) (es.getD j noS))
theorem mails_below {w w' : World} {n k : Nat} {v : Value} {es : List St} (h : MailsIn w n v es) (hb : Below k w w') (hk : n ≤ k) : MailsIn w' n v es := by
  obtain ⟨a, cap, rfl, h⟩ := h
  refine ⟨a, cap, rfl, ?_⟩
  rcases h with h | ⟨b, off, rfl, hb', h⟩
  · exact .inl h
  · exact .inr ⟨b, off, rfl, hb', fun j hj => (h j hj).keep hb (by omega)⟩
theorem mails_more {w : World} {n k : Nat} {v : Value} {es : List St} (h : MailsIn w n v es) (hk : n ≤ k) : MailsIn w k v es := by
  obtain ⟨a, cap, rfl, h⟩ := h
  refine ⟨a, cap, rfl, ?_⟩
  rcases h with h | ⟨b, off, rfl, hb', h⟩
  · exact .inl h
  · exact .inr ⟨b, off, rfl, by omega, h⟩
def Smalls (es : List St) : Prop := es.length ≤ 1048576 ∧ ∀ j, j < es.length → Small (es.getD j noS)
def SmallsTo (es : List St) (k : Nat) : Prop := es.length ≤ 1048576 ∧ ∀ j, j < k → Small (es.getD j noS)


theorem infoS : (Tryz.prog.info? 30).map (fun i => (i.zero, i.size, i.bytes)) = some (some (.agg #[.int .i64 0, .int .i64 0, .string ⟨#[]⟩]), 3, 32) := by kernel_rfl
def put3 (xs : List Value) (o : Nat) (e : St) : List Value := ((xs.set o (.int .i64 e.u)).set (o + 1) (.int .i64 e.f)).set (o + 2) (.string e.t)
theorem put_len (xs : List Value) (o : Nat) (e : St) : (put3 xs o e).length = xs.length := by simp [put3]
theorem put_other {xs : List Value} {o j : Nat} {e : St} (h : j < o ∨ o + 2 < j) : (put3 xs o e)[j]? = xs[j]? := by
  unfold put3
  rw [List.getElem?_set_ne (by omega), List.getElem?_set_ne (by omega), List.getElem?_set_ne (by omega)]
def In3 (xs : List Value) (o : Nat) (e : St) : Prop := xs[o]? = some (.int .i64 e.u) ∧ xs[o + 1]? = some (.int .i64 e.f) ∧ xs[o + 2]? = some (.string e.t)
theorem put_same {xs : List Value} {o : Nat} {e : St} (h : o + 2 < xs.length) : In3 (put3 xs o e) o e := by
  unfold put3 In3
  refine ⟨?_, ?_, ?_⟩
  · rw [List.getElem?_set_ne (by omega), List.getElem?_set_ne (by omega), List.getElem?_set_self (by omega)]
  · rw [List.getElem?_set_ne (by omega), List.getElem?_set_self (by simp; omega)]
  · rw [List.getElem?_set_self (by simp; omega)]
theorem in_other {xs : List Value} {o p : Nat} {e x : St} (h : In3 xs p x) (hp : p + 2 < o ∨ o + 2 < p) : In3 (put3 xs o e) p x := by
  obtain ⟨h0, h1, h2⟩ := h
  refine ⟨?_, ?_, ?_⟩ <;> (rw [put_other (by omega)]; assumption)
def Lay (es : List St) (k : Nat) (xs : List Value) : Prop := ∀ j, j < k → In3 xs (j * 3) (es.getD j noS)
theorem lay_step {es : List St} {k : Nat} {xs : List Value} (h : Lay es k xs) (hl : k * 3 + 2 < xs.length) {x : St} (hx : es.getD k noS = x) : Lay es (k + 1) (put3 xs (k * 3) x) := by
  intro j hj
  by_cases e : j = k
  · subst e
    rw [hx]
    exact put_same hl
  · exact in_other (h j (by omega)) (by omega)
theorem mails_lay {w : World} {base e g n cap N : Nat} {es : List St} {xs : List Value} (hn : n = es.length) (h : w.ownsRow base e 3 (.slice (some ⟨g, 0, none⟩) n cap) n xs) (hl : Lay es n xs) (hg : g < N) : MailsIn w N (.slice (some ⟨g, 0, none⟩) n cap) es := by
  subst hn
  refine ⟨_, cap, rfl, .inr ⟨g, 0, rfl, hg, fun j hj => ?_⟩⟩
  obtain ⟨h0, h1, h2⟩ := hl j hj
  refine ⟨?_, ?_, ?_⟩
  · rw [Nat.zero_add, h.cellAt _ (by omega), h0]
  · rw [Nat.zero_add, h.cellAt _ (by omega), h1]
  · rw [Nat.zero_add, h.cellAt _ (by omega), h2]



section
variable {H : Type} {enc : TypeId × Value → H} {w : World} {base : Nat} {spare : Nat → Bool} {held : Bool}
theorem trod_cells {T : TypeId} {fs : Array Field} {fuel : Nat} {cs : List Value} {x : DataW H × List MemPlace} (hs : Tryz.prog.underlying T = some (.struct fs)) (hone : oneCellFields Tryz.prog fs = true) (hc : Tryz.prog.cellsOf T = fs.size) (h : DataW.trod enc Tryz.prog w base spare held fuel T cs = some x) :
    cs.length = fs.size ∧ ∃ n, ∀ (j : Nat) (f : Field) (c : Value), fs[j]? = some f → cs[j]? = some c → ∃ y, DataW.trod enc Tryz.prog w base spare held n f.type [c] = some y := by
  obtain ⟨xs, n, _, hx, hcl, hlen, hf⟩ := DataW.trod_struct hs h
  rw [hc] at hcl
  refine ⟨hcl, n, fun j f c hfj hcj => ?_⟩
  have hh := hf j f hfj
  obtain ⟨o, k⟩ := hone_of hone j f hfj
  rw [o, k] at hh
  have hj : j < xs.length := by
    rw [hlen]
    exact (Array.getElem?_eq_some_iff.1 hfj).1
  have ht : (cs.drop j).take 1 = [c] := by
    obtain ⟨hj2, e⟩ := List.getElem?_eq_some_iff.1 hcj
    rw [List.drop_eq_getElem_cons hj2, e]
    rfl
  rw [ht, List.getElem?_eq_getElem hj] at hh
  exact ⟨_, hh⟩
theorem three_list {α : Type} {l : List α} (h : l.length = 3) : ∃ a b c, l = [a, b, c] := by
  match l, h with
  | [a, b, c], _ => exact ⟨a, b, c, rfl⟩
end
end Go.Proofs.YtbokolpjdaamiaaGreatDoor.st

namespace Go.Proofs.YtbokolpjdaamiaaGreatDoor.tx
open Go.ChangeShapes Go.WideShapes Go.ChangeAt Go.RowKit Go.Joins Go.Deep
open ky
set_option linter.unusedVariables false

/-- A slice of texts, in a block below n. -/
def TextsIn (w : World) (n : Nat) (v : Value) (ks : List ByteArray) : Prop :=
  ∃ a cap, v = .slice a ks.length cap ∧ (ks = [] ∨ ∃ b off, a = some ⟨b, off, none⟩ ∧ b < n ∧ ∀ j, j < ks.length → w.cell? ⟨b, off + j, none⟩ = some (.string (ks.getD j nt)))
theorem texts_at {w : World} {n : Nat} {v : Value} {ks : List ByteArray} (h : TextsIn w n v ks) : TextsAt w v ks := by
  obtain ⟨a, cap, rfl, h⟩ := h
  refine ⟨a, cap, rfl, ?_⟩
  rcases h with h | ⟨b, off, rfl, hb', h⟩
  · exact .inl h
  · exact .inr ⟨b, off, rfl, h⟩
theorem texts_below {w w' : World} {n k : Nat} {v : Value} {ks : List ByteArray} (h : TextsIn w n v ks) (hb : Below k w w') (hk : n ≤ k) : TextsIn w' n v ks := by
  obtain ⟨a, cap, rfl, h⟩ := h
  refine ⟨a, cap, rfl, ?_⟩
  rcases h with h | ⟨b, off, rfl, hb', h⟩
  · exact .inl h
  · exact .inr ⟨b, off, rfl, hb', fun j hj => (hb.cell (p := ⟨b, off + j, none⟩) (Nat.lt_of_lt_of_le hb' hk)).trans (h j hj)⟩
theorem texts_more {w : World} {n k : Nat} {v : Value} {ks : List ByteArray} (h : TextsIn w n v ks) (hk : n ≤ k) : TextsIn w k v ks := by
  obtain ⟨a, cap, rfl, h⟩ := h
  refine ⟨a, cap, rfl, ?_⟩
  rcases h with h | ⟨b, off, rfl, hb', h⟩
  · exact .inl h
  · exact .inr ⟨b, off, rfl, by omega, h⟩
def Smalls (ks : List ByteArray) : Prop := ks.length ≤ 1048576 ∧ ∀ j, j < ks.length → (ks.getD j nt).size ≤ 1048576
def SmallsTo (ks : List ByteArray) (k : Nat) : Prop := ks.length ≤ 1048576 ∧ ∀ j, j < k → (ks.getD j nt).size ≤ 1048576


theorem infoT : (Tryz.prog.info? 9).map (fun i => (i.zero, i.size, i.bytes)) = some (some (.string ⟨#[]⟩), 1, 16) := by kernel_rfl
def Lay (ks : List ByteArray) (k : Nat) (xs : List Value) : Prop := ∀ j, j < k → xs[j]? = some (.string (ks.getD j nt))
theorem lay_step {ks : List ByteArray} {k : Nat} {xs : List Value} (h : Lay ks k xs) (hl : k < xs.length) {x : ByteArray} (hx : ks.getD k nt = x) : Lay ks (k + 1) (xs.set k (.string x)) := by
  intro j hj
  by_cases e : j = k
  · subst e
    rw [hx, List.getElem?_set_self (by omega)]
  · rw [List.getElem?_set_ne (by omega)]
    exact h j (by omega)
theorem texts_lay {w : World} {base e g n cap N : Nat} {ks : List ByteArray} {xs : List Value} (hn : n = ks.length) (h : w.ownsRow base e 1 (.slice (some ⟨g, 0, none⟩) n cap) n xs) (hl : Lay ks n xs) (hg : g < N) : TextsIn w N (.slice (some ⟨g, 0, none⟩) n cap) ks := by
  subst hn
  refine ⟨_, cap, rfl, .inr ⟨g, 0, rfl, hg, fun j hj => ?_⟩⟩
  rw [Nat.zero_add, h.cellAt _ (by omega), hl j hj]


section
variable {H : Type} {enc : TypeId × Value → H} {w : World} {base : Nat} {spare : Nat → Bool} {held : Bool}
theorem cellsT : Tryz.prog.cellsOf 9 = 1 := by kernel_rfl
theorem open_texts {fuel : Nat} {v : Value} {x : DataW H × List MemPlace} (h : DataW.trod enc Tryz.prog w base spare held fuel 33 [v] = some x) :
    ∃ ks : List ByteArray, TextsIn w w.heap.size v ks ∧ ks.length ≤ maxLen ∧ ∀ j, j < ks.length → (ks.getD j nt).size ≤ maxLen := by
  rcases open_slice Tryz.underlying33 h with ⟨hc, _⟩ | ⟨a, len, cap, m, n, D, Pl, hc, _, hl, hm, hmm, _, hall⟩
  · cases hc
    exact ⟨[], ⟨none, 0, rfl, .inl rfl⟩, Nat.zero_le _, fun j hj => absurd hj (Nat.not_lt_zero _)⟩
  · cases hc
    have hml : len ≤ m := by rw [hmm]; split <;> omega
    have each : ∀ i, ∃ e : ByteArray, i < len → e.size ≤ maxLen ∧ w.cell? (a.add i) = some (.string e) := by
      intro i
      by_cases hi : i < len
      · obtain ⟨cs', h1, h2⟩ := hall i (by omega)
        obtain ⟨e, rfl, _, hh⟩ := DataW.trod_string Tryz.underlying9 h2
        rw [cellsT] at h1
        obtain ⟨_, hlen, hcell⟩ := World.cells?_some h1
        refine ⟨e, fun _ => ⟨hh, ?_⟩⟩
        have := hcell 0 (by omega)
        rw [add_add, Nat.mul_one, Nat.add_zero] at this
        rw [this]
        rfl
      · exact ⟨nt, fun h => absurd h hi⟩
    obtain ⟨q, hq⟩ := Classical.axiomOfChoice each
    have hget : ∀ j, j < len → ((List.range len).map q).getD j nt = q j := by
      intro j hj
      simp [List.getD_eq_getElem?_getD, hj]
    refine ⟨(List.range len).map q, ⟨some a, cap, by simp, ?_⟩, by simp; omega, ?_⟩
    · by_cases h0 : len = 0
      · left; simp [h0]
      · right
        have c0 := (hq 0 (by omega)).2
        obtain ⟨b, off, spot⟩ := a
        have hspot : spot = none := by simpa [Addr.add] using World.cell?_spot c0
        subst hspot
        have hblt : b < w.heap.size := by simpa [Addr.add] using World.block_lt_of_cell? w _ c0
        refine ⟨b, off, rfl, hblt, fun j hj => ?_⟩
        have hj' : j < len := by simpa using hj
        have hc := (hq j hj').2
        rw [hget j hj']
        have hadd : (⟨b, off, none⟩ : Addr).add j = ⟨b, off + j, none⟩ := by simp only [Addr.add]; split <;> simp_all
        rw [hadd] at hc
        exact hc
    · intro j hj
      have hj' : j < len := by simpa using hj
      rw [hget j hj']
      exact (hq j hj').1
end
end Go.Proofs.YtbokolpjdaamiaaGreatDoor.tx
