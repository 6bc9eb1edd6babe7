/-
  A text written in great letters.
  Rows of texts: whether a text is among them, of the program's library and of the specification; their comparison by the law's own function.
  A number's digits: the specification's way, and the library's Itoa.
  What a fetch tells of a mail: the items, and the text of each.
-/
import Derived.Test.YtbokolpjdaamiaaGreatDoorPkap
import Derived.Test.YtbokolpjdaamiaaGreatDoorRows
import Derived.WalkKit
import Derived.WalkLawsBesides
import Derived.Lib.ConvBytes
import Derived.Below
import Derived.Test.YtbokolpjdaamiaaGreatDoorPkae
import Derived.BigRegion
import Derived.WideShapes
import Derived.Deep.QuietTactic
import Derived.BigQuiet
import Derived.Lib.Strings
import Derived.Test.YtbokolpjdaamiaaGreatDoorPkab
import Derived.Test.YtbokolpjdaamiaaGreatDoorPkah
import Derived.Test.YtbokolpjdaamiaaGreatDoorPkas
import Derived.Deep.RegionWith
import Derived.Lib.ItoaMem
import Derived.Lib.AppendIntMem
import Derived.Shelf.Strconv.Itoa3
import Derived.Test.YtbokolpjdaamiaaGreatDoorPkbc
import Derived.Test.YtbokolpjdaamiaaGreatDoorPkbh

namespace Go.Proofs.YtbokolpjdaamiaaGreatDoor.up
open Go.RowKit
set_option linter.unusedVariables false

/-- A small letter's great one. -/
def low (c : UInt8) : UInt8 := if 97 ≤ c.toNat ∧ c.toNat ≤ 122 then UInt8.ofNat (c.toNat - 32) else c
def lower (l : List UInt8) : List UInt8 := l.map low
theorem lower_len (l : List UInt8) : (lower l).length = l.length := List.length_map _
/-- The first so many letters written in small ones. -/
def upTo (l : List UInt8) (k : Nat) : List UInt8 := lower (l.take k) ++ l.drop k
theorem upTo_len (l : List UInt8) (k : Nat) : (upTo l k).length = l.length := by
  rw [upTo, List.length_append, lower_len, List.length_take, List.length_drop]; omega
theorem upTo_zero (l : List UInt8) : upTo l 0 = l := by simp [upTo, lower]
theorem upTo_all (l : List UInt8) (k : Nat) (h : l.length ≤ k) : upTo l k = lower l := by
  rw [upTo, List.take_of_length_le h, List.drop_eq_nil_of_le h, List.append_nil]
theorem upTo_at (l : List UInt8) (k : Nat) (h : k < l.length) : (upTo l k).getD k 0 = l.getD k 0 := by
  have hk : (lower (l.take k)).length = k := by rw [lower_len, List.length_take]; omega
  simp only [upTo, List.getD_eq_getElem?_getD]
  rw [List.getElem?_append_right (by omega), hk, Nat.sub_self, List.getElem?_drop, Nat.add_zero]
theorem upTo_step (l : List UInt8) (k : Nat) (h : k < l.length) : upTo l (k + 1) = (upTo l k).set k (low (l.getD k 0)) := by
  have hk : (lower (l.take k)).length = k := by rw [lower_len, List.length_take]; omega
  have e : l.getD k 0 = l[k] := by simp [List.getD_eq_getElem?_getD, h]
  unfold upTo
  rw [List.set_append_right _ _ (by omega), hk, Nat.sub_self, List.drop_eq_getElem_cons h, List.set_cons_zero, List.take_succ_eq_append_getElem h, e]
  unfold lower
  rw [List.map_append, List.append_assoc]
  rfl
theorem upTo_same (l : List UInt8) (k : Nat) (h : k < l.length) (hc : low (l.getD k 0) = l.getD k 0) : upTo l (k + 1) = upTo l k := by
  rw [upTo_step l k h, hc, ← upTo_at l k h]
  have hl : k < (upTo l k).length := by rw [upTo_len]; exact h
  rw [List.getD_eq_getElem?_getD, List.getElem?_eq_getElem hl, Option.getD_some, List.set_getElem_self]

theorem ownC_set {w : World} {base g cap n : Nat} {l : List UInt8} (h : ow.OwnC w base (.slice (some ⟨g, 0, none⟩) n cap) l) (j : Nat) (c : UInt8) (hj : j < l.length) :
    ow.OwnC (w.setCell ⟨g, j, none⟩ (.int .u8 (c.toNat : Int))) base (.slice (some ⟨g, 0, none⟩) n cap) (l.set j c) := by
  obtain ⟨g', cap', hv, h1, h2, h3, h4, h5, h6⟩ := h
  simp only [Value.slice.injEq, Option.some.injEq, Addr.mk.injEq, and_true] at hv
  obtain ⟨rfl, rfl, rfl⟩ := hv
  have hne : ∀ i, i ≠ j → (⟨g, j, none⟩ : Addr) ≠ ⟨g, i, none⟩ := fun i hi e => hi (by simpa using e.symm)
  refine ⟨g, cap, by rw [List.length_set], h1, by simpa [World.setCell] using h2, by rw [List.length_set]; exact h3, h4, fun i hi => ?_, fun i hi => ?_⟩
  · have hf : (w.setCell ⟨g, j, none⟩ (.int .u8 (c.toNat : Int))).frozen? ⟨g, i, none⟩ = w.frozen? ⟨g, i, none⟩ := World.frozen?_setCells g [.int .u8 (c.toNat : Int)] j w ⟨g, i, none⟩
    refine ⟨?_, hf.trans (h5 i hi).2⟩
    by_cases e : i = j
    · subst e
      obtain ⟨u, hu⟩ := Option.isSome_iff_exists.1 (h5 i hi).1
      rw [World.cell?_setCell_same _ _ _ hu]
      rfl
    · rw [World.cell?_setCell_other _ _ _ _ (hne i e)]
      exact (h5 i hi).1
  · rw [List.length_set] at hi
    by_cases e : i = j
    · subst e
      rw [World.cell?_setCell_same _ _ _ (h6 i hi)]
      simp [List.getD_eq_getElem?_getD, hi]
    · rw [World.cell?_setCell_other _ _ _ _ (hne i e), h6 i hi]
      rw [List.getD_eq_getElem?_getD, List.getD_eq_getElem?_getD, List.getElem?_set_ne (by omega)]
theorem conv_part {P : Program} {w : World} {src dst e : TypeId} {g cap : Nat} (l : List UInt8) (hs : P.underlying src = some (.slice e)) (he : P.underlying e = some (.int .u8)) (hd : P.underlying dst = some .string)
    (hc : ∀ j, j < l.length → w.cell? ⟨g, j, none⟩ = some (.int .u8 ((l.getD j 0).toNat : Int))) : (convert src dst (.slice (some ⟨g, 0, none⟩) l.length cap)).run P w = .ok (.string ⟨l.toArray⟩) w := by
  refine run_convert_bytes_back w src dst e ⟨g, 0, none⟩ cap l hs he hd (fun j hj => ?_)
  rw [show ((⟨g, 0, none⟩ : Addr).add j) = ⟨g, j, none⟩ from by simp [Addr.add]; omega, hc j hj]
  simp [List.getD_eq_getElem?_getD, hj]
theorem low_great {c : UInt8} (h1 : 97 ≤ (c.toNat : Int)) (h2 : (c.toNat : Int) ≤ 122) : ((low c).toNat : Int) = (c.toNat : Int) - 32 := by
  unfold low
  rw [if_pos (by omega), UInt8.toNat_ofNat']
  omega
theorem low_other {c : UInt8} (h : ¬ (97 ≤ (c.toNat : Int) ∧ (c.toNat : Int) ≤ 122)) : low c = c := by
  unfold low
  rw [if_neg (by omega)]

/-- Bytes made of a text, of which the first so many letters are small. -/
def Mid (w wr : World) (s : ByteArray) (cap k : Nat) : Prop := ow.OwnC wr w.heap.size (.slice (some ⟨w.heap.size, 0, none⟩) s.size cap) (upTo s.data.toList k) ∧ Below w.heap.size w wr
theorem mid_start (w : World) (s : ByteArray) (hs : s.size ≤ maxLen) : Mid w (Lib.bytesWorld w 5 s) s (grownCap w s.size 0 5) 0 := by
  refine ⟨?_, ow.below_conv w _ s⟩
  rw [upTo_zero]
  exact ow.ownC_conv w _ s hs
section
variable {w wr : World} {s : ByteArray} {cap k : Nat}
theorem Mid.cell (h : Mid w wr s cap k) (hk : k < s.size) : wr.cell? ⟨w.heap.size, k, none⟩ = some (.int .u8 (((s[k]'hk).toNat : Nat) : Int)) := by
  obtain ⟨g, cap', hv, h1, h2, h3, h4, h5, h6⟩ := h.1
  simp only [Value.slice.injEq, Option.some.injEq, Addr.mk.injEq, and_true] at hv
  obtain ⟨rfl, hl, rfl⟩ := hv
  have hk' : k < s.data.toList.length := by rw [← Lib.size_eq]; exact hk
  rw [h6 k (by rw [upTo_len]; exact hk'), upTo_at _ _ hk']
  rw [List.getD_eq_getElem?_getD, List.getElem?_eq_getElem hk']
  rfl
theorem Mid.free (h : Mid w wr s cap k) (hk : k < s.size) : wr.frozen? ⟨w.heap.size, k, none⟩ = false := by
  obtain ⟨g, cap', hv, h1, h2, h3, h4, h5, h6⟩ := h.1
  simp only [Value.slice.injEq, Option.some.injEq, Addr.mk.injEq, and_true] at hv
  obtain ⟨rfl, hl, rfl⟩ := hv
  exact (h5 k (by rw [← hl] at h3; omega)).2
theorem getD_at (hk : k < s.size) : s.data.toList.getD k 0 = s[k] := by
  have hk' : k < s.data.toList.length := by rw [← Lib.size_eq]; exact hk
  rw [List.getD_eq_getElem?_getD, List.getElem?_eq_getElem hk']
  rfl
theorem Mid.great (h : Mid w wr s cap k) (hk : k < s.size) (h1 : 97 ≤ ((s[k]'hk).toNat : Int)) (h2 : ((s[k]'hk).toNat : Int) ≤ 122) : Mid w (wr.setCell ⟨w.heap.size, k, none⟩ (.int .u8 (((s[k]'hk).toNat : Int) - 32))) s cap (k + 1) := by
  have hk' : k < s.data.toList.length := by rw [← Lib.size_eq]; exact hk
  refine ⟨?_, h.2.setCell (p := ⟨w.heap.size, k, none⟩) (Nat.le_refl _) _⟩
  rw [upTo_step _ _ hk', getD_at hk, ← low_great h1 h2]
  exact ownC_set h.1 k _ (by rw [upTo_len]; exact hk')
theorem Mid.other (h : Mid w wr s cap k) (hk : k < s.size) (hn : ¬ (97 ≤ ((s[k]'hk).toNat : Int) ∧ ((s[k]'hk).toNat : Int) ≤ 122)) : Mid w wr s cap (k + 1) := by
  have hk' : k < s.data.toList.length := by rw [← Lib.size_eq]; exact hk
  refine ⟨?_, h.2⟩
  rw [upTo_same _ _ hk' (by rw [getD_at hk]; exact low_other hn)]
  exact h.1
theorem Mid.text (h : Mid w wr s cap k) (hk : s.size ≤ k) : (convert 22 9 (.slice (some ⟨w.heap.size, 0, none⟩) s.size cap)).run Tryz.prog wr = .ok (.string ⟨(lower s.data.toList).toArray⟩) wr := by
  obtain ⟨g, cap', hv, h1, h2, h3, h4, h5, h6⟩ := h.1
  simp only [Value.slice.injEq, Option.some.injEq, Addr.mk.injEq, and_true] at hv
  obtain ⟨rfl, hl, rfl⟩ := hv
  rw [upTo_all _ _ (by rw [← Lib.size_eq]; exact hk)] at hl h6
  rw [hl]
  exact conv_part (lower s.data.toList) Tryz.underlying22 Tryz.underlying5 Tryz.underlying9 h6
end
theorem u8_add {c : Int} (h1 : 97 ≤ c) (h2 : c ≤ 122) : IntKind.u8.wrap (c - 32) = c - 32 := by
  have h256 : (2 : Int) ^ IntKind.u8.bits = 256 := rfl
  unfold IntKind.wrap
  simp only [h256, show IntKind.u8.signed = false from rfl, Bool.false_and, Bool.false_eq_true, if_false]
  omega

end Go.Proofs.YtbokolpjdaamiaaGreatDoor.up

namespace Go.Proofs.YtbokolpjdaamiaaGreatDoor.ky
open Go.RowKit
set_option linter.unusedVariables false

def nt : ByteArray := ⟨#[]⟩
/-- A slice of texts. -/
def TextsAt (w : World) (v : Value) (ks : List ByteArray) : Prop :=
  ∃ a cap, v = .slice a ks.length cap ∧ (ks = [] ∨ ∃ b off, a = some ⟨b, off, none⟩ ∧ ∀ j, j < ks.length → w.cell? ⟨b, off + j, none⟩ = some (.string (ks.getD j nt)))
theorem texts_below {w w' : World} {v : Value} {ks : List ByteArray} (h : TextsAt w v ks) (hb : Below w.heap.size w w') : TextsAt w' v ks := by
  obtain ⟨a, cap, rfl, h⟩ := h
  refine ⟨a, cap, rfl, ?_⟩
  rcases h with h | ⟨b, off, rfl, h⟩
  · exact .inl h
  · exact .inr ⟨b, off, rfl, fun j hj => (hb.cell (p := ⟨b, off + j, none⟩) (World.block_lt_of_cell? w _ (h j hj))).trans (h j hj)⟩
/-- A row of texts that a call made. -/
def OwnT (w : World) (base : Nat) (v : Value) (ks : List ByteArray) : Prop := w.ownsRow base 9 1 v ks.length (ks.map Value.string)
theorem own_texts {w : World} {base : Nat} {v : Value} {ks : List ByteArray} (h : OwnT w base v ks) : TextsAt w v ks := by
  rcases h.2 with ⟨rfl, h0⟩ | ⟨g, cap, cur, rfl, _⟩
  · obtain rfl := List.eq_nil_of_length_eq_zero h0
    exact ⟨none, 0, rfl, .inl rfl⟩
  · refine ⟨_, cap, rfl, .inr ⟨g, 0, rfl, fun j hj => ?_⟩⟩
    rw [Nat.zero_add, h.cellAt j (by omega)]
    simp [List.getD_eq_getElem?_getD, hj]
theorem ne_list {a b : ByteArray} (h : a ≠ b) : (a.toList == b.toList) = false := beq_eq_false_iff_ne.2 fun e => h (WideShapes.bytes_inj (by rw [← Lib.toList_data, ← Lib.toList_data]; exact e))
theorem get_in {ks : List ByteArray} {j : Nat} (h : j < ks.length) : ks.getD j nt ∈ ks := by rw [List.getD_eq_getElem?_getD, List.getElem?_eq_getElem h]; exact List.getElem_mem h
theorem not_in {ks : List ByteArray} {s : ByteArray} (h : ∀ j, j < ks.length → ks.getD j nt ≠ s) : s ∉ ks := by
  intro hm
  obtain ⟨j, hj, e⟩ := List.mem_iff_getElem.1 hm
  apply h j hj
  rw [List.getD_eq_getElem?_getD, List.getElem?_eq_getElem hj]
  exact e
/-- Whether a text is among some. -/
def has (ks : List ByteArray) (s : ByteArray) : Bool := decide (s.data ∈ ks.map fun k => k.data)
theorem has_of {ks : List ByteArray} {s : ByteArray} (h : has ks s = true) : s ∈ ks := by
  obtain ⟨x, hx, e⟩ := List.mem_map.1 (of_decide_eq_true h)
  exact ByteArray.ext e ▸ hx
theorem has_yes {ks : List ByteArray} {s : ByteArray} (h : s ∈ ks) : has ks s = true := decide_eq_true (List.mem_map.2 ⟨s, h, rfl⟩)
theorem has_no {ks : List ByteArray} {s : ByteArray} (h : s ∉ ks) : has ks s = false := by
  cases e : has ks s
  · rfl
  · exact absurd (has_of e) h

end Go.Proofs.YtbokolpjdaamiaaGreatDoor.ky

namespace Go.Proofs.YtbokolpjdaamiaaGreatDoor.dz
open Go.RowKit
open gr
set_option linter.unusedVariables false

/-- A digit's byte. -/
def dg (n : Int) : UInt8 := UInt8.ofNat (48 + n).toNat
theorem dg_nat {n : Int} (h0 : 0 ≤ n) (h1 : n ≤ 9) : ((dg n).toNat : Int) = 48 + n := by
  unfold dg
  rw [UInt8.toNat_ofNat_of_lt' (by show (48 + n).toNat < 256; omega)]
  omega
theorem bel_box (w : World) (o : Obj) : Below w.heap.size w (w.alloc o) := (Below.refl _ w).alloc (Nat.le_refl _) _

theorem app (a b : List UInt8) : (⟨a.toArray⟩ : ByteArray) ++ ⟨b.toArray⟩ = ⟨(a ++ b).toArray⟩ := by
  apply ByteArray.ext
  simp
theorem lit (b : UInt8) : (⟨#[b]⟩ : ByteArray) = ⟨[b].toArray⟩ := rfl
/-- A block of bytes that has just been laid, turned into a text. -/
theorem conv_new (w : World) (l : List UInt8) (cs : Array Value) (h : cs.toList = l.map fun b => Value.int .u8 (b.toNat : Int)) :
    (convert 22 9 (.slice (some ⟨w.heap.size, 0, none⟩) l.length l.length)).run Tryz.prog (w.alloc (.cells cs 5)) = .ok (.string ⟨l.toArray⟩) (w.alloc (.cells cs 5)) := by
  refine run_convert_bytes_back _ 22 9 5 ⟨w.heap.size, 0, none⟩ l.length l Tryz.underlying22 Tryz.underlying5 Tryz.underlying9 (fun j hj => ?_)
  have := ow.cells_new w cs.toList 5 j (.int .u8 (l[j].toNat : Int)) (by rw [h]; simp [hj])
  simpa using this

theorem belA {w w1 : World} {o : Obj} (b1 : Below w.drew.heap.size w.drew w1) : Below w.heap.size w (w1.alloc o) := ((Below.refl _ w).drew.trans b1).alloc b1.size _
theorem belB {w w1 : World} {o : Obj} (b1 : Below (w.alloc o).drew.heap.size (w.alloc o).drew w1) : Below w.heap.size w w1 := (bel_box w o).drew.trans (b1.mono (by show w.heap.size ≤ (w.heap.push o).size; simp))
theorem conv_at (w : World) (g : Nat) (l : List UInt8) (cs : Array Value) (h : cs.toList = l.map fun b => Value.int .u8 (b.toNat : Int)) (hg : w.heap[g]? = some (.cells cs 5)) :
    (convert 22 9 (.slice (some ⟨g, 0, none⟩) l.length l.length)).run Tryz.prog w = .ok (.string ⟨l.toArray⟩) w := by
  refine run_convert_bytes_back _ 22 9 5 ⟨g, 0, none⟩ l.length l Tryz.underlying22 Tryz.underlying5 Tryz.underlying9 (fun j hj => ?_)
  rw [ow.add_at, cell_of_row w g j _ _ _ hg, ← Array.getElem?_toList, h]
  simp [hj]
theorem conv_kept {w w1 : World} {z : Int} {b : UInt8} (hz : (b.toNat : Int) = z) (hb : Below (w.alloc (.cells #[.int .u8 z] 5)).heap.size (w.alloc (.cells #[.int .u8 z] 5)) w1) :
    (convert 22 9 (.slice (some ⟨w.heap.size, 0, none⟩) 1 1)).run Tryz.prog w1 = .ok (.string ⟨#[b]⟩) w1 := by
  refine conv_at w1 w.heap.size [b] #[.int .u8 z] (by rw [← hz]; rfl) ?_
  rw [hb.block w.heap.size (by simp)]
  show (w.heap.push _)[w.heap.size]? = _
  simp
theorem conv_one (w : World) {z : Int} {b : UInt8} (hz : (b.toNat : Int) = z) :
    (convert 22 9 (.slice (some ⟨w.heap.size, 0, none⟩) 1 1)).run Tryz.prog (w.alloc (.cells #[.int .u8 z] 5)) = .ok (.string ⟨#[b]⟩) (w.alloc (.cells #[.int .u8 z] 5)) :=
  conv_new w [b] #[.int .u8 z] (by rw [← hz]; rfl)

theorem conv_oneD (w : World) {z : Int} {b : UInt8} (hz : (b.toNat : Int) = z) :
    (convert 22 9 (.slice (some ⟨w.heap.size, 0, none⟩) 1 1)).run Tryz.prog (w.alloc (.cells #[.int .u8 z] 5)).drew = .ok (.string ⟨#[b]⟩) (w.alloc (.cells #[.int .u8 z] 5)).drew := by
  refine conv_at (w.alloc (.cells #[.int .u8 z] 5)).drew w.heap.size [b] #[.int .u8 z] (by rw [← hz]; rfl) ?_
  show (w.heap.push _)[w.heap.size]? = _
  simp
theorem conv_keptD {w w1 : World} {z : Int} {b : UInt8} (hz : (b.toNat : Int) = z) (hb : Below (w.alloc (.cells #[.int .u8 z] 5)).drew.heap.size (w.alloc (.cells #[.int .u8 z] 5)).drew w1) :
    (convert 22 9 (.slice (some ⟨w.heap.size, 0, none⟩) 1 1)).run Tryz.prog w1 = .ok (.string ⟨#[b]⟩) w1 := by
  refine conv_at w1 w.heap.size [b] #[.int .u8 z] (by rw [← hz]; rfl) ?_
  rw [hb.block w.heap.size (by show w.heap.size < (w.heap.push _).size; simp)]
  show (w.heap.push _)[w.heap.size]? = _
  simp
set_option maxHeartbeats 1000000 in
set_option maxRecDepth 100000 in
theorem digs_one (n : Int) (h0 : 0 ≤ n) (h1 : n ≤ 9) (w : World) : Calls Tryz.prog 28 #[.int .i64 n] w fun e w' => e = .returned (.string ⟨#[dg n]⟩) ∧ Below w.heap.size w w' := by
  have cv := conv_one w (dg_nat h0 h1)
  have d1 : (n == -9223372036854775808) = false := beq_eq_false_iff_ne.2 (by omega)
  go_enter Tryz.func28, Tryz.ntmps28
  go_wp2
  go_ret
  exact ⟨rfl, bel_box _ _⟩

set_option maxHeartbeats 2000000 in
set_option maxRecDepth 100000 in
theorem digs_step (n : Int) (h0 : 10 ≤ n) (h1 : n ≤ 9999999999) (l : List UInt8) (hl : l.length ≤ 20) (ih : ∀ w, Calls Tryz.prog 28 #[.int .i64 (n / 10)] w fun e w' => e = .returned (.string ⟨l.toArray⟩) ∧ Below w.heap.size w w') (w : World) :
    Calls Tryz.prog 28 #[.int .i64 n] w fun e w' => e = .returned (.string ⟨(l ++ [dg (n % 10)]).toArray⟩) ∧ Below w.heap.size w w' := by
  have hz : ((dg (n % 10)).toNat : Int) = 48 + n % 10 := dg_nat (by omega) (by omega)
  have HZ : Hid (((dg (n % 10)).toNat : Int) = 48 + n % 10) := hz
  have cv := conv_oneD w hz
  clear hz
  have IH : Hid (∀ w, Calls Tryz.prog 28 #[.int .i64 (n / 10)] w fun e w' => e = .returned (.string ⟨l.toArray⟩) ∧ Below w.heap.size w w') := ih
  clear ih
  have d1 : (n == -9223372036854775808) = false := beq_eq_false_iff_ne.2 (by omega)
  have hs : (9223372036854775807 < l.length + 1) = False := eq_false (by omega)
  have e0 : n.tdiv 10 = n / 10 := Int.tdiv_eq_ediv_of_nonneg (by omega)
  have e00 : n.tmod 10 = n % 10 := Int.tmod_eq_emod_of_nonneg (by omega)
  have e1 : IntKind.i64.wrap (n / 10) = n / 10 := by rw [IntKind.wrap_i64]; omega
  have e2 : IntKind.i64.wrap (n % 10) = n % 10 := by rw [IntKind.wrap_i64]; omega
  have e3 : IntKind.i64.wrap (48 + n % 10) = 48 + n % 10 := by rw [IntKind.wrap_i64]; omega
  have e4 : IntKind.u8.wrap (48 + n % 10) = 48 + n % 10 := by rw [IntKind.wrap_u8]; omega
  go_enter Tryz.func28, Tryz.ntmps28
  go_wp2_with fail
  go_region_with (go_at_call 28; refine (IH.out _).mono ?_; rintro e w1 ⟨rfl, b1⟩; have cw := conv_one w1 (z := 48 + n % 10) (b := dg (n % 10)) HZ.out; first | (have ck := conv_keptD (w := w) (z := 48 + n % 10) (b := dg (n % 10)) HZ.out b1) | skip)
  all_goals go_wp2
  all_goals go_ret
  all_goals refine ⟨by rw [← app]; rfl, ?_⟩
  all_goals first
    | exact belA b1
    | exact belB b1
theorem dec_len : ∀ (k n : Nat), n < 10 ^ (k + 1) → (Lib.decDigits n).length ≤ k + 1
  | 0, n, h => by
    rw [Lib.decDigits, dif_pos (by simpa using h)]
    simp
  | k + 1, n, h => by
    rw [Lib.decDigits]
    split
    · simp
    · rw [List.length_append, List.length_singleton]
      have := dec_len k (n / 10) (by rw [Nat.pow_succ] at h; omega)
      omega
theorem dec_small {n : Nat} (h : n ≤ 4294967295) : (Lib.decDigits n).length ≤ 10 := dec_len 9 n (by omega)
theorem digs_any (n : Nat) : n ≤ 4294967295 → ∀ w, Calls Tryz.prog 28 #[.int .i64 (n : Int)] w fun e w' => e = .returned (.string ⟨(Lib.decDigits n).toArray⟩) ∧ Below w.heap.size w w' := by
  induction n using Nat.strongRecOn with
  | _ n ih =>
    intro h w
    by_cases h9 : n < 10
    · rw [Lib.decDigits, dif_pos h9]
      have := digs_one (n : Int) (by omega) (by omega) w
      rw [show dg (n : Int) = UInt8.ofNat (48 + n) from by unfold dg; congr 1] at this
      exact this
    · rw [Lib.decDigits, dif_neg h9]
      have hd := digs_step (n : Int) (by omega) (by omega) (Lib.decDigits (n / 10)) (by have := dec_small (n := n / 10) (by omega); omega) (by
        intro w
        have := ih (n / 10) (by omega) (by omega) w
        rw [show ((n / 10 : Nat) : Int) = (n : Int) / 10 from by omega] at this
        exact this) w
      rw [show dg ((n : Int) % 10) = UInt8.ofNat (48 + n % 10) from by unfold dg; congr 1] at hd
      exact hd
theorem itoa_any (n : Nat) (h : n ≤ 4294967295) (w : World) (hT : tb.TP w) : Calls Tryz.prog 64 #[.int .i64 (n : Int)] w fun e w' => e = .returned (.string ⟨(Lib.decDigits n).toArray⟩) ∧ Below w.heap.size w w' := by
  refine (Any.strconv_Itoa Tryz.laysM171 (n : Int) (by omega) (by omega) w (tb.tp_is hT)).mono ?_
  rintro e w' ⟨rfl, k, os, rfl⟩
  exact ⟨by rw [Lib.itoa_nonneg], Lib.below_grow _ _ (Nat.le_refl _) _ _⟩
end Go.Proofs.YtbokolpjdaamiaaGreatDoor.dz

namespace Go.Proofs.YtbokolpjdaamiaaGreatDoor.fq
open Go.RowKit
open bl
open ky (nt)
set_option linter.unusedVariables false

abbrev B := List UInt8
/-- An item that a fetch may ask for: the flags, the uid, the size; a body's part by its number. -/
def It : Type := Option (Option (Option (Bool × Nat)))
def It.fl : It := (none : Option (Option (Option (Bool × Nat))))
def It.ui : It := (some none : Option (Option (Option (Bool × Nat))))
def It.sz : It := (some (some none) : Option (Option (Option (Bool × Nat))))
def It.bd (pk : Bool) (i : Nat) : It := (some (some (some (pk, i))) : Option (Option (Option (Bool × Nat))))
def It.arm {A : Type} (i : It) (a b c : A) (d : Bool → Nat → A) : A :=
  match (show Option (Option (Option (Bool × Nat))) from i) with
  | none => a
  | some none => b
  | some (some none) => c
  | some (some (some (pk, j))) => d pk j
theorem It.four (i : It) : i = .fl ∨ i = .ui ∨ i = .sz ∨ ∃ pk j, i = .bd pk j :=
  match (show Option (Option (Option (Bool × Nat))) from i) with
  | none => .inl rfl
  | some none => .inr (.inl rfl)
  | some (some none) => .inr (.inr (.inl rfl))
  | some (some (some (pk, j))) => .inr (.inr (.inr ⟨pk, j, rfl⟩))
def pt (i : Nat) : B := if i = 0 then [] else if i = 1 then ml.hdr else ml.txt
def kFl : B := [70, 76, 65, 71, 83]
def kUi : B := [85, 73, 68]
def kSz : B := [82, 70, 67, 56, 50, 50, 46, 83, 73, 90, 69]
def kBo : B := [66, 79, 68, 89]
def kPk : B := [66, 79, 68, 89, 46, 80, 69, 69, 75]
def hd (pk : Bool) : B := (if pk = true then kPk else kBo) ++ [91]
def bo (pk : Bool) (i : Nat) : B := hd pk ++ pt i ++ [93]
def itw (w : B) : Option It :=
  if w = kFl then some .fl else if w = kUi then some .ui else if w = kSz then some .sz
  else if w = bo false 0 then some (.bd false 0) else if w = bo false 1 then some (.bd false 1) else if w = bo false 2 then some (.bd false 2)
  else if w = bo true 0 then some (.bd true 0) else if w = bo true 1 then some (.bd true 1) else if w = bo true 2 then some (.bd true 2)
  else none
/-- A word that is no item. -/
def NoIt (w : B) : Prop := w ≠ kFl ∧ w ≠ kUi ∧ w ≠ kSz ∧ ∀ pk i, i < 3 → w ≠ bo pk i
theorem nine (w : B) : w = kFl ∨ w = kUi ∨ w = kSz ∨ (∃ pk i, i < 3 ∧ w = bo pk i) ∨ (NoIt w ∧ itw w = none) := by
  by_cases h1 : w = kFl
  · exact .inl h1
  by_cases h2 : w = kUi
  · exact .inr (.inl h2)
  by_cases h3 : w = kSz
  · exact .inr (.inr (.inl h3))
  by_cases h4 : ∃ pk i, i < 3 ∧ w = bo pk i
  · exact .inr (.inr (.inr (.inl h4)))
  have hn : ∀ pk i, i < 3 → w ≠ bo pk i := fun pk i hi e => h4 ⟨pk, i, hi, e⟩
  refine .inr (.inr (.inr (.inr ⟨⟨h1, h2, h3, hn⟩, ?_⟩)))
  unfold itw
  rw [if_neg h1, if_neg h2, if_neg h3, if_neg (hn _ _ (by omega)), if_neg (hn _ _ (by omega)), if_neg (hn _ _ (by omega)), if_neg (hn _ _ (by omega)), if_neg (hn _ _ (by omega)), if_neg (hn _ _ (by omega))]
theorem itw_bo : ∀ (pk : Bool) (i : Nat), i < 3 → itw (bo pk i) = some (.bd pk i) := by
  intro pk i hi
  have hc : i = 0 ∨ i = 1 ∨ i = 2 := by omega
  cases pk <;> rcases hc with rfl | rfl | rfl <;> rfl
theorem pt_is {p : B} (h : p = [] ∨ p = ml.hdr ∨ p = ml.txt) : ∃ i, i < 3 ∧ p = pt i := by
  rcases h with rfl | rfl | rfl
  · exact ⟨0, by omega, rfl⟩
  · exact ⟨1, by omega, rfl⟩
  · exact ⟨2, by omega, rfl⟩
theorem pt_in (i : Nat) : pt i = [] ∨ pt i = ml.hdr ∨ pt i = ml.txt := by
  unfold pt
  split
  · exact .inl rfl
  · split
    · exact .inr (.inl rfl)
    · exact .inr (.inr rfl)
theorem pt_len (i : Nat) : (pt i).length ≤ 6 := by
  rcases pt_in i with h | h | h <;> rw [h] <;> decide
/-- A word with a body's head and a bracket at its end has no part of a mail between them, if it is no item. -/
theorem mid_no {w m : B} {pk : Bool} (h : NoIt w) (e : w = hd pk ++ m ++ [93]) : ¬ (m = [] ∨ m = ml.hdr ∨ m = ml.txt) := fun y => by
  obtain ⟨i, hi, rfl⟩ := pt_is y
  exact h.2.2.2 pk i hi e

/-- What is told of: the mail's text, its uid, its flags, its body if it is one. -/
structure Fm where
  l : B
  u : Nat
  f : Nat
  ob : Option B
/-- The body is told as it is. -/
def Fm.Is (x : Fm) : Prop := (∃ b fs, x.ob = some b ∧ ml.IsMail x.l fs b) ∨ (x.ob = none ∧ ¬ ∃ fs b, ml.IsMail x.l fs b)
structure Fm.Ok (x : Fm) : Prop where
  is : x.Is
  l : x.l.length ≤ 4000
  u : x.u ≤ 1000
  f : x.f < 32
def part (x : Fm) (b : B) (i : Nat) : B := ml.partOf x.l (pt i) b
def bodyTx (x : Fm) (b : B) (i : Nat) : B := kBo ++ [91] ++ pt i ++ [93, 32, 123] ++ Lib.decDigits (part x b i).length ++ [125, 13, 10] ++ part x b i
def ftx (x : Fm) : B := kFl ++ [32] ++ (fg.FT x.f).data.toList
def utx (x : Fm) : B := kUi ++ [32] ++ Lib.decDigits x.u
def stx (x : Fm) : B := kSz ++ [32] ++ Lib.decDigits x.l.length
def TI (x : Fm) (i : It) : Option B := i.arm (some (ftx x)) (some (utx x)) (some (stx x)) fun _ j => x.ob.map fun b => bodyTx x b j
/-- A word's item. -/
def itm (s : ByteArray) : Option It := itw (up.lower s.data.toList)
def tx1 (x : Fm) (s : ByteArray) : Option B := (itm s).bind (TI x)
def tx (x : Fm) (s : ByteArray) : B := (tx1 x s).getD []
def isUi (s : ByteArray) : Bool := match itm s with | some i => i.arm false true false fun _ _ => false | none => false
def isSn (s : ByteArray) : Bool := match itm s with | some i => i.arm false false false fun pk _ => !pk | none => false

/-- The texts that a fetch tells. -/
def txs (x : Fm) (ks : List ByteArray) (wu : Bool) : List B := (if (wu && !ks.any isUi) = true then [utx x] else []) ++ ks.map (tx x)
def cl (n : Nat) (wd : B) : B := [42, 32] ++ Lib.decDigits n ++ [32] ++ wd ++ [13, 10]
def fin (x : Fm) (seq : Nat) (ks : List ByteArray) (wu : Bool) : B := [42, 32] ++ Lib.decDigits seq ++ [32, 70, 69, 84, 67, 72, 32, 40] ++ jn 32 (txs x ks wu) ++ [41, 13, 10]
/-- What FetchText answers: all items are told, or one is none. -/
def Fr (x : Fm) (seq : Nat) (ks : List ByteArray) (wu : Bool) (X : ByteArray) (s : Bool) (c : Int) : Prop :=
  ((∀ j, j < ks.length → ∃ t, tx1 x (ks.getD j nt) = some t) ∧ X = ⟨(fin x seq ks wu).toArray⟩ ∧ s = ks.any isSn ∧ c = 0) ∨
  ((∃ j, j < ks.length ∧ tx1 x (ks.getD j nt) = none) ∧ X = ⟨#[]⟩ ∧ s = false ∧ c = 3)
theorem fr_one {x : Fm} {seq : Nat} {ks : List ByteArray} {wu : Bool} {X X' : ByteArray} {s s' : Bool} {c c' : Int} (h : Fr x seq ks wu X s c) (h' : Fr x seq ks wu X' s' c') : X = X' ∧ s = s' ∧ c = c' := by
  rcases h with ⟨h1, rfl, rfl, rfl⟩ | ⟨⟨j, hj, hn⟩, rfl, rfl, rfl⟩ <;> rcases h' with ⟨h1', rfl, rfl, rfl⟩ | ⟨⟨j', hj', hn'⟩, rfl, rfl, rfl⟩
  · exact ⟨rfl, rfl, rfl⟩
  · obtain ⟨t, ht⟩ := h1 j' hj'
    rw [hn'] at ht; cases ht
  · obtain ⟨t, ht⟩ := h1' j hj
    rw [hn] at ht; cases ht
  · exact ⟨rfl, rfl, rfl⟩

theorem part_len (x : Fm) (b : B) (i : Nat) (fs : List (B × B)) (h : ml.IsMail x.l fs b) : (part x b i).length ≤ x.l.length := by
  obtain ⟨kk, hk1, hk2⟩ := ml.par_len h.2.1
  unfold part ml.partOf
  split
  · exact Nat.le_refl _
  · split
    · rw [List.length_take]; omega
    · rw [hk2, List.length_drop]; omega
theorem dec4 {n : Nat} (h : n ≤ 4294967295) : (Lib.decDigits n).length ≤ 10 := dz.dec_small h
theorem ftx_len {x : Fm} (h : x.Ok) : (ftx x).length ≤ 60 := by
  have e := fg.FT_is x.f
  have h1 := fg.tx_size (f := x.f) (k := 5) (by omega)
  have h2 : (fg.FT x.f).size ≤ 52 := by
    rw [e, ByteArray.size_append, ByteArray.size_append]
    show 1 + _ + 1 ≤ 52
    omega
  rw [Lib.size_eq] at h2
  unfold ftx kFl
  simp only [List.length_append, List.length_cons, List.length_nil]
  omega
theorem utx_len {x : Fm} (h : x.Ok) : (utx x).length ≤ 20 := by
  have := dec4 (n := x.u) (by have := h.u; omega)
  unfold utx kUi
  simp only [List.length_append, List.length_cons, List.length_nil]
  omega
theorem stx_len {x : Fm} (h : x.Ok) : (stx x).length ≤ 30 := by
  have := dec4 (n := x.l.length) (by have := h.l; omega)
  unfold stx kSz
  simp only [List.length_append, List.length_cons, List.length_nil]
  omega
theorem body_len {x : Fm} (h : x.Ok) {b : B} {fs : List (B × B)} (hm : ml.IsMail x.l fs b) (i : Nat) : (bodyTx x b i).length ≤ 4060 := by
  have h1 := part_len x b i fs hm
  have h0 := h.l
  have h2 := dec4 (n := (part x b i).length) (by omega)
  have h3 := pt_len i
  unfold bodyTx kBo
  simp only [List.length_append, List.length_cons, List.length_nil]
  omega
theorem TI_len {x : Fm} (h : x.Ok) {i : It} {t : B} (e : TI x i = some t) : t.length ≤ 4060 := by
  rcases It.four i with rfl | rfl | rfl | ⟨pk, i, rfl⟩
  · have e : some (ftx x) = some t := e
    cases e; have := ftx_len h; omega
  · have e : some (utx x) = some t := e
    cases e; have := utx_len h; omega
  · have e : some (stx x) = some t := e
    cases e; have := stx_len h; omega
  · have e : Option.map (fun b => bodyTx x b i) x.ob = some t := e
    rcases h.is with ⟨b, fs, hb, hm⟩ | ⟨hb, _⟩
    · rw [hb] at e
      cases e
      exact body_len h hm i
    · rw [hb] at e
      cases e
theorem tx_len {x : Fm} (h : x.Ok) (s : ByteArray) : (tx x s).length ≤ 4060 := by
  unfold tx tx1
  cases h1 : itm s with
  | none => simp
  | some i =>
    rw [Option.bind_some]
    cases h2 : TI x i with
    | none => simp
    | some t => exact TI_len h h2
theorem lens_app : ∀ (a b : List B), lens (a ++ b) = lens a + lens b := fun a b => by
  induction a with
  | nil => simp [lens]
  | cons x a ih => simp [lens] at ih ⊢; omega
theorem lens_le {V : List B} {n : Nat} (h : ∀ v ∈ V, v.length ≤ n) : lens V ≤ n * V.length := by
  induction V with
  | nil => simp [lens]
  | cons x V ih =>
    have h1 := h x List.mem_cons_self
    have h2 := ih fun v hv => h v (List.mem_cons_of_mem _ hv)
    have e : lens (x :: V) = x.length + lens V := rfl
    rw [e, List.length_cons, Nat.mul_succ]
    omega
theorem txs_len {x : Fm} (h : x.Ok) (ks : List ByteArray) (wu : Bool) (hk : ks.length ≤ 30) : (txs x ks wu).length ≤ 31 ∧ lens (txs x ks wu) ≤ 140000 := by
  have h1 : (txs x ks wu).length ≤ 31 := by
    unfold txs
    split <;> simp <;> omega
  refine ⟨h1, ?_⟩
  have h2 := lens_le (V := txs x ks wu) (n := 4060) (fun v hv => by
    unfold txs at hv
    rcases List.mem_append.1 hv with hv | hv
    · split at hv
      · rw [List.mem_singleton] at hv
        rw [hv]
        have := utx_len h
        omega
      · cases hv
    · obtain ⟨s, _, rfl⟩ := List.mem_map.1 hv
      exact tx_len h s)
  omega
theorem jn_small {x : Fm} (h : x.Ok) (ks : List ByteArray) (wu : Bool) (hk : ks.length ≤ 30) : (jn 32 (txs x ks wu)).length ≤ 150000 := by
  have h1 := txs_len h ks wu hk
  have h2 := fg.jn_len 32 (txs x ks wu)
  omega
end Go.Proofs.YtbokolpjdaamiaaGreatDoor.fq
