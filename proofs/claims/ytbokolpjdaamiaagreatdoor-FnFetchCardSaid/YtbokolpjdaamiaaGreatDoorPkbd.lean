/-
  Letters of either size: both functions that write a text in small letters.
  The first field of a name, in letters of either size: both searches.
  Contracts of the specification's source of choices: the next byte, the next number, a chance.
  A drawn entry: its texts are picked out of rows of texts, its stamp is drawn.
-/
import Derived.Test.YtbokolpjdaamiaaGreatDoorPkap
import Derived.Test.YtbokolpjdaamiaaGreatDoorRows
import Derived.WalkKit
import Derived.WalkLawsBesides
import Derived.Lib.ConvBytes
import Derived.Below
import Derived.Test.YtbokolpjdaamiaaGreatDoorPkbc
import Derived.Test.YtbokolpjdaamiaaGreatDoorPkaf
import Derived.Test.YtbokolpjdaamiaaGreatDoorPkab
import Derived.Test.YtbokolpjdaamiaaGreatDoorPkae
import Derived.Deep.QuietTactic
import Derived.BigQuiet
import Derived.BigRegion

namespace Go.Proofs.YtbokolpjdaamiaaGreatDoor.lo
open Go.RowKit
set_option linter.unusedVariables false

/-- A great letter's small one. -/
def low (c : UInt8) : UInt8 := if 65 ≤ c.toNat ∧ c.toNat ≤ 90 then UInt8.ofNat (c.toNat + 32) else c
def lower (l : List UInt8) : List UInt8 := l.map low
theorem lower_len (l : List UInt8) : (lower l).length = l.length := List.length_map _
/-- The first so many letters written in small ones. -/
def upTo (l : List UInt8) (k : Nat) : List UInt8 := lower (l.take k) ++ l.drop k
theorem upTo_len (l : List UInt8) (k : Nat) : (upTo l k).length = l.length := by
  rw [upTo, List.length_append, lower_len, List.length_take, List.length_drop]; omega
theorem upTo_zero (l : List UInt8) : upTo l 0 = l := by simp [upTo, lower]
theorem upTo_all (l : List UInt8) (k : Nat) (h : l.length ≤ k) : upTo l k = lower l := by
  rw [upTo, List.take_of_length_le h, List.drop_eq_nil_of_le h, List.append_nil]
theorem upTo_at (l : List UInt8) (k : Nat) (h : k < l.length) : (upTo l k).getD k 0 = l.getD k 0 := by
  have hk : (lower (l.take k)).length = k := by rw [lower_len, List.length_take]; omega
  simp only [upTo, List.getD_eq_getElem?_getD]
  rw [List.getElem?_append_right (by omega), hk, Nat.sub_self, List.getElem?_drop, Nat.add_zero]
theorem upTo_step (l : List UInt8) (k : Nat) (h : k < l.length) : upTo l (k + 1) = (upTo l k).set k (low (l.getD k 0)) := by
  have hk : (lower (l.take k)).length = k := by rw [lower_len, List.length_take]; omega
  have e : l.getD k 0 = l[k] := by simp [List.getD_eq_getElem?_getD, h]
  unfold upTo
  rw [List.set_append_right _ _ (by omega), hk, Nat.sub_self, List.drop_eq_getElem_cons h, List.set_cons_zero, List.take_succ_eq_append_getElem h, e]
  unfold lower
  rw [List.map_append, List.append_assoc]
  rfl
theorem upTo_same (l : List UInt8) (k : Nat) (h : k < l.length) (hc : low (l.getD k 0) = l.getD k 0) : upTo l (k + 1) = upTo l k := by
  rw [upTo_step l k h, hc, ← upTo_at l k h]
  have hl : k < (upTo l k).length := by rw [upTo_len]; exact h
  rw [List.getD_eq_getElem?_getD, List.getElem?_eq_getElem hl, Option.getD_some, List.set_getElem_self]

theorem ownC_set {w : World} {base g cap n : Nat} {l : List UInt8} (h : ow.OwnC w base (.slice (some ⟨g, 0, none⟩) n cap) l) (j : Nat) (c : UInt8) (hj : j < l.length) :
    ow.OwnC (w.setCell ⟨g, j, none⟩ (.int .u8 (c.toNat : Int))) base (.slice (some ⟨g, 0, none⟩) n cap) (l.set j c) := by
  obtain ⟨g', cap', hv, h1, h2, h3, h4, h5, h6⟩ := h
  simp only [Value.slice.injEq, Option.some.injEq, Addr.mk.injEq, and_true] at hv
  obtain ⟨rfl, rfl, rfl⟩ := hv
  have hne : ∀ i, i ≠ j → (⟨g, j, none⟩ : Addr) ≠ ⟨g, i, none⟩ := fun i hi e => hi (by simpa using e.symm)
  refine ⟨g, cap, by rw [List.length_set], h1, by simpa [World.setCell] using h2, by rw [List.length_set]; exact h3, h4, fun i hi => ?_, fun i hi => ?_⟩
  · have hf : (w.setCell ⟨g, j, none⟩ (.int .u8 (c.toNat : Int))).frozen? ⟨g, i, none⟩ = w.frozen? ⟨g, i, none⟩ := World.frozen?_setCells g [.int .u8 (c.toNat : Int)] j w ⟨g, i, none⟩
    refine ⟨?_, hf.trans (h5 i hi).2⟩
    by_cases e : i = j
    · subst e
      obtain ⟨u, hu⟩ := Option.isSome_iff_exists.1 (h5 i hi).1
      rw [World.cell?_setCell_same _ _ _ hu]
      rfl
    · rw [World.cell?_setCell_other _ _ _ _ (hne i e)]
      exact (h5 i hi).1
  · rw [List.length_set] at hi
    by_cases e : i = j
    · subst e
      rw [World.cell?_setCell_same _ _ _ (h6 i hi)]
      simp [List.getD_eq_getElem?_getD, hi]
    · rw [World.cell?_setCell_other _ _ _ _ (hne i e), h6 i hi]
      rw [List.getD_eq_getElem?_getD, List.getD_eq_getElem?_getD, List.getElem?_set_ne (by omega)]
theorem conv_part {P : Program} {w : World} {src dst e : TypeId} {g cap : Nat} (l : List UInt8) (hs : P.underlying src = some (.slice e)) (he : P.underlying e = some (.int .u8)) (hd : P.underlying dst = some .string)
    (hc : ∀ j, j < l.length → w.cell? ⟨g, j, none⟩ = some (.int .u8 ((l.getD j 0).toNat : Int))) : (convert src dst (.slice (some ⟨g, 0, none⟩) l.length cap)).run P w = .ok (.string ⟨l.toArray⟩) w := by
  refine run_convert_bytes_back w src dst e ⟨g, 0, none⟩ cap l hs he hd (fun j hj => ?_)
  rw [show ((⟨g, 0, none⟩ : Addr).add j) = ⟨g, j, none⟩ from by simp [Addr.add]; omega, hc j hj]
  simp [List.getD_eq_getElem?_getD, hj]
theorem low_great {c : UInt8} (h1 : 65 ≤ (c.toNat : Int)) (h2 : (c.toNat : Int) ≤ 90) : ((low c).toNat : Int) = (c.toNat : Int) + 32 := by
  unfold low
  rw [if_pos (by omega), UInt8.toNat_ofNat']
  omega
theorem low_other {c : UInt8} (h : ¬ (65 ≤ (c.toNat : Int) ∧ (c.toNat : Int) ≤ 90)) : low c = c := by
  unfold low
  rw [if_neg (by omega)]

/-- Bytes made of a text, of which the first so many letters are small. -/
def Mid (w wr : World) (s : ByteArray) (cap k : Nat) : Prop := ow.OwnC wr w.heap.size (.slice (some ⟨w.heap.size, 0, none⟩) s.size cap) (upTo s.data.toList k) ∧ Below w.heap.size w wr
theorem mid_start (w : World) (s : ByteArray) (hs : s.size ≤ maxLen) : Mid w (Lib.bytesWorld w 5 s) s (grownCap w s.size 0 5) 0 := by
  refine ⟨?_, ow.below_conv w _ s⟩
  rw [upTo_zero]
  exact ow.ownC_conv w _ s hs
section
variable {w wr : World} {s : ByteArray} {cap k : Nat}
theorem Mid.cell (h : Mid w wr s cap k) (hk : k < s.size) : wr.cell? ⟨w.heap.size, k, none⟩ = some (.int .u8 (((s[k]'hk).toNat : Nat) : Int)) := by
  obtain ⟨g, cap', hv, h1, h2, h3, h4, h5, h6⟩ := h.1
  simp only [Value.slice.injEq, Option.some.injEq, Addr.mk.injEq, and_true] at hv
  obtain ⟨rfl, hl, rfl⟩ := hv
  have hk' : k < s.data.toList.length := by rw [← Lib.size_eq]; exact hk
  rw [h6 k (by rw [upTo_len]; exact hk'), upTo_at _ _ hk']
  rw [List.getD_eq_getElem?_getD, List.getElem?_eq_getElem hk']
  rfl
theorem Mid.free (h : Mid w wr s cap k) (hk : k < s.size) : wr.frozen? ⟨w.heap.size, k, none⟩ = false := by
  obtain ⟨g, cap', hv, h1, h2, h3, h4, h5, h6⟩ := h.1
  simp only [Value.slice.injEq, Option.some.injEq, Addr.mk.injEq, and_true] at hv
  obtain ⟨rfl, hl, rfl⟩ := hv
  exact (h5 k (by rw [← hl] at h3; omega)).2
theorem getD_at (hk : k < s.size) : s.data.toList.getD k 0 = s[k] := by
  have hk' : k < s.data.toList.length := by rw [← Lib.size_eq]; exact hk
  rw [List.getD_eq_getElem?_getD, List.getElem?_eq_getElem hk']
  rfl
theorem Mid.great (h : Mid w wr s cap k) (hk : k < s.size) (h1 : 65 ≤ ((s[k]'hk).toNat : Int)) (h2 : ((s[k]'hk).toNat : Int) ≤ 90) : Mid w (wr.setCell ⟨w.heap.size, k, none⟩ (.int .u8 (((s[k]'hk).toNat : Int) + 32))) s cap (k + 1) := by
  have hk' : k < s.data.toList.length := by rw [← Lib.size_eq]; exact hk
  refine ⟨?_, h.2.setCell (p := ⟨w.heap.size, k, none⟩) (Nat.le_refl _) _⟩
  rw [upTo_step _ _ hk', getD_at hk, ← low_great h1 h2]
  exact ownC_set h.1 k _ (by rw [upTo_len]; exact hk')
theorem Mid.other (h : Mid w wr s cap k) (hk : k < s.size) (hn : ¬ (65 ≤ ((s[k]'hk).toNat : Int) ∧ ((s[k]'hk).toNat : Int) ≤ 90)) : Mid w wr s cap (k + 1) := by
  have hk' : k < s.data.toList.length := by rw [← Lib.size_eq]; exact hk
  refine ⟨?_, h.2⟩
  rw [upTo_same _ _ hk' (by rw [getD_at hk]; exact low_other hn)]
  exact h.1
theorem Mid.text (h : Mid w wr s cap k) (hk : s.size ≤ k) : (convert 22 9 (.slice (some ⟨w.heap.size, 0, none⟩) s.size cap)).run Tryz.prog wr = .ok (.string ⟨(lower s.data.toList).toArray⟩) wr := by
  obtain ⟨g, cap', hv, h1, h2, h3, h4, h5, h6⟩ := h.1
  simp only [Value.slice.injEq, Option.some.injEq, Addr.mk.injEq, and_true] at hv
  obtain ⟨rfl, hl, rfl⟩ := hv
  rw [upTo_all _ _ (by rw [← Lib.size_eq]; exact hk)] at hl h6
  rw [hl]
  exact conv_part (lower s.data.toList) Tryz.underlying22 Tryz.underlying5 Tryz.underlying9 h6
end
theorem u8_add {c : Int} (h1 : 65 ≤ c) (h2 : c ≤ 90) : IntKind.u8.wrap (c + 32) = c + 32 := by
  have h256 : (2 : Int) ^ IntKind.u8.bits = 256 := rfl
  unfold IntKind.wrap
  simp only [h256, show IntKind.u8.signed = false from rfl, Bool.false_and, Bool.false_eq_true, if_false]
  omega

end Go.Proofs.YtbokolpjdaamiaaGreatDoor.lo

namespace Go.Proofs.YtbokolpjdaamiaaGreatDoor.fo
open Go.RowKit
open fa lo gr
set_option linter.unusedVariables false

def sameB (a b : ByteArray) : Bool := decide (lower a.data.toList = lower b.data.toList)
/-- The first field of a name. -/
def find (ps : List Pr) (nm : ByteArray) : Option ByteArray := (ps.find? fun p => sameB p.1 nm).map (·.2)
theorem find_drop {ps : List Pr} {nm : ByteArray} {k : Nat} (h : find ps nm = find (ps.drop k) nm) (hk : k < ps.length) (hn : sameB (ps.getD k no).1 nm = false) : find ps nm = find (ps.drop (k + 1)) nm := by
  rw [h, List.drop_eq_getElem_cons hk]
  have e : ps.getD k no = ps[k] := by simp [List.getD_eq_getElem?_getD, hk]
  rw [e] at hn
  unfold find
  rw [List.find?_cons_of_neg (by rw [hn]; simp)]
theorem find_at {ps : List Pr} {nm : ByteArray} {k : Nat} (h : find ps nm = find (ps.drop k) nm) (hk : k < ps.length) (hn : sameB (ps.getD k no).1 nm = true) : find ps nm = some (ps.getD k no).2 := by
  rw [h, List.drop_eq_getElem_cons hk]
  have e : ps.getD k no = ps[k] := by simp [List.getD_eq_getElem?_getD, hk]
  rw [e] at hn ⊢
  unfold find
  rw [List.find?_cons_of_pos (p := fun p : Pr => sameB p.1 nm) hn]
  rfl
theorem find_end {ps : List Pr} {nm : ByteArray} {k : Nat} (h : find ps nm = find (ps.drop k) nm) (hk : ps.length ≤ k) : find ps nm = none := by
  rw [h, List.drop_eq_nil_of_le hk]
  rfl
theorem tl_same (a b : ByteArray) : ((⟨(lower a.data.toList).toArray⟩ : ByteArray).toList == (⟨(lower b.data.toList).toArray⟩ : ByteArray).toList) = sameB a b := by
  rw [Lib.toList_data, Lib.toList_data, Bool.eq_iff_iff, beq_iff_eq, sameB, decide_eq_true_iff]
/-- What a search answers. -/
def FRet (o : Option ByteArray) : Value := match o with
  | some v => .tuple #[.string v, .bool true]
  | none => .tuple #[.string ⟨#[]⟩, .bool false]

/-- What both FieldOf functions answer. -/
def foC (ps : List Pr) (nm : ByteArray) : ByteArray × Int :=
  if 65536 < nm.size then (⟨#[]⟩, 2) else if 40 < ps.length then (⟨#[]⟩, 1) else match find ps nm with
    | some v => (v, 0)
    | none => (⟨#[]⟩, 5)
theorem find_mem {ps : List Pr} {nm v : ByteArray} (h : find ps nm = some v) (hs : Small ps) : v.size ≤ 1048576 := by
  unfold find at h
  cases hf : ps.find? (fun p => sameB p.1 nm) with
  | none => rw [hf] at h; cases h
  | some p =>
    rw [hf] at h
    obtain rfl : p.2 = v := Option.some.inj h
    obtain ⟨j, hj, e⟩ := List.mem_iff_getElem.1 (List.mem_of_find?_eq_some hf)
    have := (hs.2 j hj).2
    rw [List.getD_eq_getElem?_getD, List.getElem?_eq_getElem hj, Option.getD_some, e] at this
    exact this
end Go.Proofs.YtbokolpjdaamiaaGreatDoor.fo

namespace Go.Proofs.YtbokolpjdaamiaaGreatDoor.sr
open Go.RowKit
set_option linter.unusedVariables false

/-- A source of choices lies in block b: the code, how much of it was taken, the seed. -/
def Src (w : World) (b : Nat) (a : Option Addr) (len cap : Nat) (at_ sd : Int) : Prop :=
  w.heap[b]? = some (.cells #[.slice a len cap, .int .i64 at_, .int .i64 sd] 58 (0, 0))
/-- The code's bytes, in memory that is not the source's. -/
def Code (w : World) (b : Nat) (a : Option Addr) (len : Nat) : Prop :=
  len ≤ 1048576 ∧ (len = 0 ∨ ∃ cb off, a = some ⟨cb, off, none⟩ ∧ cb < b ∧ ∀ j, j < len → ∃ z : Int, 0 ≤ z ∧ z ≤ 255 ∧ w.cell? ⟨cb, off + j, none⟩ = some (.int .u8 z))

section
variable {w : World} {b : Nat} {a : Option Addr} {len cap : Nat} {at_ sd : Int}
theorem Src.c0 (h : Src w b a len cap at_ sd) : w.cell? ⟨b, 0, none⟩ = some (.slice a len cap) := by rw [cell_of_row w b 0 _ _ _ h]; rfl
theorem Src.c1 (h : Src w b a len cap at_ sd) : w.cell? ⟨b, 0 + 1, none⟩ = some (.int .i64 at_) := by rw [cell_of_row w b _ _ _ _ h]; rfl
theorem Src.c2 (h : Src w b a len cap at_ sd) : w.cell? ⟨b, 0 + 2, none⟩ = some (.int .i64 sd) := by rw [cell_of_row w b _ _ _ _ h]; rfl
theorem Src.f (h : Src w b a len cap at_ sd) (j : Nat) : w.frozen? ⟨b, j, none⟩ = false := frozen_of_row w b j _ _ h
end

theorem src_one {w : World} {b : Nat} {a : Option Addr} {len cap : Nat} {at_ sd x : Int} (h : Src w b a len cap at_ sd) : Src (w.setCell ⟨b, 1, none⟩ (.int .i64 x)) b a len cap x sd := heap_setCell_same w b 1 _ _ _ h
theorem src_two {w : World} {b : Nat} {a : Option Addr} {len cap : Nat} {at_ sd x y : Int} (h : Src w b a len cap at_ sd) : Src ((w.setCell ⟨b, 1, none⟩ (.int .i64 x)).setCell ⟨b, 2, none⟩ (.int .i64 y)) b a len cap x y := heap_setCell_same _ b 2 _ _ _ (src_one h)
theorem grown_set (w : World) (b j : Nat) (u : Value) : w.grownBy (w.setCell ⟨b, j, none⟩ u) (some b) :=
  ⟨rfl, rfl, rfl, by simp, fun k _ hk => heap_setCell_other w ⟨b, j, none⟩ k u (fun e => hk (by simp [e]))⟩
theorem grown_two (w : World) (b : Nat) (u v : Value) : w.grownBy ((w.setCell ⟨b, 1, none⟩ u).setCell ⟨b, 2, none⟩ v) (some b) := by
  have h1 := grown_set w b 1 u
  have h2 := grown_set (w.setCell ⟨b, 1, none⟩ u) b 2 v
  exact ⟨h2.os.trans h1.os, h2.tape.trans h1.tape, h2.output.trans h1.output, Nat.le_trans h1.size h2.size, fun i hi hr => (h2.block i (Nat.lt_of_lt_of_le hi h1.size) hr).trans (h1.block i hi hr)⟩

theorem grown_d1 (w : World) (b : Nat) (u : Value) (n : Nat) : w.grownBy ((w.setCell ⟨b, 1, none⟩ u).drewN n) (some b) := ow.grown_drewN (grown_set w b 1 u) n
theorem grown_d2 (w : World) (b : Nat) (u v : Value) (n : Nat) : w.grownBy (((w.setCell ⟨b, 1, none⟩ u).drewN n).setCell ⟨b, 2, none⟩ v) (some b) :=
  ow.grown_trans (grown_d1 w b u n) (grown_set _ b 2 v)
theorem grown_d3 (w : World) (b : Nat) (u v : Value) (n m : Nat) : w.grownBy ((((w.setCell ⟨b, 1, none⟩ u).drewN n).setCell ⟨b, 2, none⟩ v).drewN m) (some b) := ow.grown_drewN (grown_d2 w b u v n) m

/-- What a step of the source leaves: a number from lo to hi, the source a little further on, all else as it was. -/
def Step (w : World) (b : Nat) (a : Option Addr) (len cap : Nat) (at_ k : Int) (lo hi : Int) (e : Ending) (w' : World) : Prop :=
  ∃ r at' sd' : Int, e = .returned (.int .i64 r) ∧ lo ≤ r ∧ r ≤ hi ∧ at_ ≤ at' ∧ at' ≤ at_ + k ∧ 0 ≤ sd' ∧ sd' < 2147483648 ∧ Src w' b a len cap at' sd' ∧ w.grownBy w' (some b)

set_option maxHeartbeats 1000000 in
set_option maxRecDepth 100000 in
theorem byte_zero (w : World) (b : Nat) (a : Option Addr) (len cap : Nat) (at_ sd : Int) (hs : Src w b a len cap at_ sd) (h0 : 0 ≤ at_) (h1 : at_ ≤ 1000000) (hx : (len : Int) < at_ + 1) (hy : 3000 < at_ + 1) (s0 : 0 ≤ sd) (s1 : sd < 2147483648) :
    Calls Tryz.prog 79 #[.pointer (some ⟨b, 0, none⟩)] w fun e w' => Step w b a len cap at_ 1 0 255 e w' := by
  have c0 := hs.c0
  have c1 := hs.c1
  have c2 := hs.c2
  have f1 := hs.f 1
  have HS : Hid _ := hs
  clear hs
  go_enter Tryz.func79, Tryz.ntmps79
  go_wp2
  go_quiet (fail)
  go_wp2
  go_ret
  exact ⟨0, at_ + 1, sd, rfl, by omega, by omega, by omega, by omega, s0, s1, src_one HS.out, grown_d1 _ _ _ _⟩

set_option maxHeartbeats 1000000 in
set_option maxRecDepth 100000 in
theorem byte_seed (w : World) (b : Nat) (a : Option Addr) (len cap : Nat) (at_ sd : Int) (hs : Src w b a len cap at_ sd) (h0 : 0 ≤ at_) (h1 : at_ ≤ 1000000) (hx : (len : Int) < at_ + 1) (hy : at_ + 1 ≤ 3000) (s0 : 0 ≤ sd) (s1 : sd < 2147483648) :
    Calls Tryz.prog 79 #[.pointer (some ⟨b, 0, none⟩)] w fun e w' => Step w b a len cap at_ 1 0 255 e w' := by
  have c0 := hs.c0
  have c1 := hs.c1
  have c2 := hs.c2
  have f1 := hs.f 1
  have f2 := hs.f 2
  have HS : Hid _ := hs
  clear hs
  go_enter Tryz.func79, Tryz.ntmps79
  go_wp2
  go_quiet (fail)
  go_wp2
  go_ret
  exact ⟨_, at_ + 1, _, rfl, by omega, by omega, by omega, by omega, by omega, by omega, src_two HS.out, grown_d2 _ _ _ _ _⟩

set_option maxHeartbeats 2000000 in
set_option maxRecDepth 100000 in
theorem byte_code (w : World) (b cb off : Nat) (len cap : Nat) (at_ : Nat) (sd z : Int) (hs : Src w b (some ⟨cb, off, none⟩) len cap at_ sd) (h1 : at_ ≤ 1000000) (hx : at_ < len) (hl : len ≤ 1048576) (s0 : 0 ≤ sd) (s1 : sd < 2147483648)
    (hne : cb ≠ b) (hz : w.cell? ⟨cb, off + at_, none⟩ = some (.int .u8 z)) (z0 : 0 ≤ z) (z1 : z ≤ 255) :
    Calls Tryz.prog 79 #[.pointer (some ⟨b, 0, none⟩)] w fun e w' => Step w b (some ⟨cb, off, none⟩) len cap at_ 1 0 255 e w' := by
  have c0 := hs.c0
  have c1 := hs.c1
  have c2 := hs.c2
  have f1 := hs.f 1
  have f2 := hs.f 2
  have HS : Hid _ := hs
  clear hs
  have hx' : (at_ : Int) + 1 ≤ (len : Int) := by omega
  have hx2 : (at_ : Int) < (len : Int) := by omega
  have hx3 : (0 : Int) ≤ (at_ : Int) := by omega
  go_enter Tryz.func79, Tryz.ntmps79
  go_wp2
  go_quiet (fail)
  go_wp2
  go_region
  all_goals go_wp2
  all_goals go_quiet (fail)
  all_goals go_wp2
  all_goals go_ret
  all_goals exact ⟨z, at_ + 1, _, rfl, z0, z1, by omega, by omega, by omega, by omega, src_two HS.out, grown_d3 _ _ _ _ _ _⟩

theorem byte_any (w : World) (b : Nat) (a : Option Addr) (len cap : Nat) (at_ sd : Int) (hs : Src w b a len cap at_ sd) (hc : Code w b a len) (h0 : 0 ≤ at_) (h1 : at_ ≤ 1000000) (s0 : 0 ≤ sd) (s1 : sd < 2147483648) :
    Calls Tryz.prog 79 #[.pointer (some ⟨b, 0, none⟩)] w fun e w' => Step w b a len cap at_ 1 0 255 e w' := by
  by_cases hx : (len : Int) < at_ + 1
  · by_cases hy : 3000 < at_ + 1
    · exact byte_zero w b a len cap at_ sd hs h0 h1 hx hy s0 s1
    · exact byte_seed w b a len cap at_ sd hs h0 h1 hx (by omega) s0 s1
  · obtain ⟨n, rfl⟩ : ∃ n : Nat, at_ = (n : Int) := ⟨at_.toNat, by omega⟩
    obtain ⟨hl, hc⟩ := hc
    rcases hc with e | ⟨cb, off, rfl, hne, hcell⟩
    · omega
    obtain ⟨z, z0, z1, hz⟩ := hcell n (by omega)
    exact byte_code w b cb off len cap n sd z hs (by omega) (by omega) hl s0 s1 (by omega) hz z0 z1

theorem code_keep' {w w' : World} {b : Nat} {a : Option Addr} {len : Nat} {row : Option Nat} (h : Code w b a len) (hg : w.grownBy w' row) (hr : ∀ k, row = some k → b ≤ k) : Code w' b a len := by
  obtain ⟨hl, h⟩ := h
  refine ⟨hl, ?_⟩
  rcases h with h | ⟨cb, off, rfl, hne, hc⟩
  · exact .inl h
  · refine .inr ⟨cb, off, rfl, hne, fun j hj => ?_⟩
    obtain ⟨z, z0, z1, hz⟩ := hc j hj
    exact ⟨z, z0, z1, hg.cell hz (fun e => by have := hr cb e.symm; omega)⟩
theorem code_keep {w w' : World} {b : Nat} {a : Option Addr} {len : Nat} (h : Code w b a len) (hg : w.grownBy w' (some b)) : Code w' b a len :=
  code_keep' h hg (fun k e => by have : b = k := by simpa using e
                                 omega)
theorem src_keep {w w' : World} {b : Nat} {a : Option Addr} {len cap : Nat} {at_ sd : Int} {row : Option Nat} (h : Src w b a len cap at_ sd) (hg : w.grownBy w' row) (hne : some b ≠ row) : Src w' b a len cap at_ sd := by
  unfold Src at h ⊢
  rw [hg.block b (Array.getElem?_eq_some_iff.1 h).1 hne]
  exact h

set_option maxHeartbeats 1000000 in
theorem next_any (w : World) (b : Nat) (a : Option Addr) (len cap : Nat) (at_ sd n : Int) (hs : Src w b a len cap at_ sd) (hc : Code w b a len) (h0 : 0 ≤ at_) (h1 : at_ ≤ 900000) (s0 : 0 ≤ sd) (s1 : sd < 2147483648) (n1 : 1 ≤ n) (n2 : n ≤ 1000000) :
    Calls Tryz.prog 58 #[.pointer (some ⟨b, 0, none⟩), .int .i64 n] w fun e w' => Step w b a len cap at_ 3 0 (n - 1) e w' := by
  by_cases hn : n ≤ 1
  · have HS : Hid _ := hs
    clear hs
    go_enter Tryz.func58, Tryz.ntmps58
    go_wp2
    go_ret
    exact ⟨0, at_, sd, rfl, by omega, by omega, by omega, by omega, s0, s1, HS.out, ow.grown_refl _ _⟩
  by_cases hn2 : n ≤ 256
  · go_enter Tryz.func58, Tryz.ntmps58
    go_wp2_with fail
    refine (byte_any _ b a len cap at_ sd hs hc h0 (by omega) s0 s1).mono ?_
    rintro e w1 ⟨r, at1, sd1, rfl, r0, r1, a0, a1, d0, d1, hs1, hg1⟩
    have HH : Hid _ := And.intro hs1 hg1
    clear hs1 hg1 hs hc
    go_wp2
    go_ret
    exact ⟨_, at1, sd1, rfl, Int.emod_nonneg _ (by omega), by have := Int.emod_lt_of_pos r (show 0 < n by omega); omega, a0, by omega, d0, d1, HH.out.1, HH.out.2⟩
  go_enter Tryz.func58, Tryz.ntmps58
  go_wp2_with fail
  refine (byte_any _ b a len cap at_ sd hs hc h0 (by omega) s0 s1).mono ?_
  rintro e w1 ⟨r, at1, sd1, rfl, r0, r1, a0, a1, d0, d1, hs1, hg1⟩
  have hc1 := code_keep hc hg1
  go_wp2_with fail
  refine (byte_any _ b a len cap at1 sd1 hs1 hc1 (by omega) (by omega) d0 d1).mono ?_
  rintro e w2 ⟨q, at2, sd2, rfl, q0, q1, a2, a3, d2, d3, hs2, hg2⟩
  have hc2 := code_keep hc1 hg2
  go_wp2_with fail
  refine (byte_any _ b a len cap at2 sd2 hs2 hc2 (by omega) (by omega) d2 d3).mono ?_
  rintro e w3 ⟨p, at3, sd3, rfl, p0, p1, a4, a5, d4, d5, hs3, hg3⟩
  have HH : Hid _ := And.intro hs3 (ow.grown_trans (ow.grown_trans hg1 hg2) hg3)
  clear hs1 hg1 hs hc hc1 hc2 hs2 hs3 hg2 hg3
  go_wp2
  go_ret
  exact ⟨_, at3, sd3, rfl, Int.emod_nonneg _ (by omega), by have := Int.emod_lt_of_pos (r * 65536 + q * 256 + p) (show 0 < n by omega); omega, by omega, by omega, d4, d5, HH.out.1, HH.out.2⟩

end Go.Proofs.YtbokolpjdaamiaaGreatDoor.sr

namespace Go.Proofs.YtbokolpjdaamiaaGreatDoor.se
open Go.RowKit
open sr
set_option linter.unusedVariables false

/-- Bytes that came in: a slice of them, each from 0 to 255. -/
def Bytes (w : World) (a : Option Addr) (len : Nat) : Prop :=
  len ≤ 1048576 ∧ (len = 0 ∨ ∃ cb off, a = some ⟨cb, off, none⟩ ∧ ∀ j, j < len → ∃ z : Int, 0 ≤ z ∧ z ≤ 255 ∧ w.cell? ⟨cb, off + j, none⟩ = some (.int .u8 z))
theorem bytes_below {w w' : World} {a : Option Addr} {len : Nat} (h : Bytes w a len) (hb : Below w.heap.size w w') : Bytes w' a len := by
  obtain ⟨hl, h⟩ := h
  refine ⟨hl, ?_⟩
  rcases h with h | ⟨cb, off, rfl, hc⟩
  · exact .inl h
  · refine .inr ⟨cb, off, rfl, fun j hj => ?_⟩
    obtain ⟨z, z0, z1, hz⟩ := hc j hj
    exact ⟨z, z0, z1, (hb.cell (p := ⟨cb, off + j, none⟩) (World.block_lt_of_cell? w _ hz)).trans hz⟩
/-- The world with a new source. -/
def started (w : World) (a : Option Addr) (len cap : Nat) : World := w.alloc (.cells #[.slice a len cap, .int .i64 0, .int .i64 ((len : Int) % 1000)] 58)
theorem src_started (w : World) (a : Option Addr) (len cap : Nat) : Src (started w a len cap) w.heap.size a len cap 0 ((len : Int) % 1000) := by
  show (w.heap.push _)[w.heap.size]? = _
  simp
theorem code_started {w : World} {a : Option Addr} {len cap : Nat} (h : Bytes w a len) : sr.Code (started w a len cap) w.heap.size a len := by
  obtain ⟨hl, h⟩ := h
  refine ⟨hl, ?_⟩
  rcases h with h | ⟨cb, off, rfl, hc⟩
  · exact .inl h
  · by_cases h0 : len = 0
    · exact .inl h0
    obtain ⟨z, _, _, hz⟩ := hc 0 (by omega)
    have hlt : cb < w.heap.size := World.block_lt_of_cell? w _ hz
    refine .inr ⟨cb, off, rfl, hlt, fun j hj => ?_⟩
    obtain ⟨z, z0, z1, hz⟩ := hc j hj
    have hb : Below w.heap.size w (started w (some ⟨cb, off, none⟩) len cap) := (Below.refl _ _).alloc (Nat.le_refl _) _
    exact ⟨z, z0, z1, (hb.cell (p := ⟨cb, off + j, none⟩) hlt).trans hz⟩

set_option maxHeartbeats 1000000 in
theorem source_any (w : World) (a : Option Addr) (len cap : Nat) (h : len ≤ 1048576) :
    Calls Tryz.prog 12 #[.slice a len cap] w fun e w' => e = .returned (.pointer (some ⟨w.heap.size, 0, none⟩)) ∧ w' = started w a len cap := by
  go_enter Tryz.func12, Tryz.ntmps12
  go_wp2
  go_ret
  exact ⟨rfl, rfl⟩

theorem grown_alloc (w : World) (o : Obj) : w.grownBy (w.alloc o) none := ⟨rfl, rfl, rfl, by simp, fun k hk _ => Below.heap_alloc _ _ _ hk⟩
theorem grown_none {w w1 w2 : World} {row : Option Nat} (h1 : w.grownBy w1 row) (h2 : w1.grownBy w2 none) : w.grownBy w2 row :=
  ⟨h2.os.trans h1.os, h2.tape.trans h1.tape, h2.output.trans h1.output, Nat.le_trans h1.size h2.size, fun i hi hr => (h2.block i (Nat.lt_of_lt_of_le hi h1.size) (by simp)).trans (h1.block i hi hr)⟩

set_option maxHeartbeats 2000000 in
set_option maxRecDepth 100000 in
theorem stamp_any (w : World) (b : Nat) (a : Option Addr) (len cap : Nat) (at_ sd : Int) (hs : Src w b a len cap at_ sd) (hc : sr.Code w b a len) (h0 : 0 ≤ at_) (h1 : at_ ≤ 800000) (s0 : 0 ≤ sd) (s1 : sd < 2147483648) :
    Calls Tryz.prog 34 #[.pointer (some ⟨b, 0, none⟩)] w fun e w' => ∃ n at' sd' : Int, e = .returned (.int .i64 n) ∧ 0 ≤ n ∧ n ≤ 4102444799 ∧ at_ ≤ at' ∧ at' ≤ at_ + 9 ∧ 0 ≤ sd' ∧ sd' < 2147483648 ∧ Src w' b a len cap at' sd' ∧ sr.Code w' b a len ∧ w.grownBy w' (some b) := by
  go_enter Tryz.func34, Tryz.ntmps34
  go_wp2_with fail
  refine (next_any _ b a len cap at_ sd 1000000 hs hc h0 (by omega) s0 s1 (by omega) (by omega)).mono ?_
  rintro e w1 ⟨r, at1, sd1, rfl, r0, r1, a0, a1, d0, d1, hs1, hg1⟩
  have hc1 := code_keep hc hg1
  go_wp2_with fail
  refine (next_any _ b a len cap at1 sd1 1000000 hs1 hc1 (by omega) (by omega) d0 d1 (by omega) (by omega)).mono ?_
  rintro e w2 ⟨q, at2, sd2, rfl, q0, q1, a2, a3, d2, d3, hs2, hg2⟩
  have hc2 := code_keep hc1 hg2
  have hg12 := ow.grown_trans hg1 hg2
  have hlt : b < w2.heap.size := (Array.getElem?_eq_some_iff.1 hs2).1
  clear hs hc hs1 hc1 hg1 hg2
  go_wp2_with fail
  have ga := grown_alloc w2 (.cells #[.int .i64 (r * 4102), .int .i64 (q * 4000 + 86399), .int .i64 0, .int .i64 4102444799, .int .i64 951782400, .int .i64 1709164800] 3)
  have hnew : (w2.alloc (.cells #[.int .i64 (r * 4102), .int .i64 (q * 4000 + 86399), .int .i64 0, .int .i64 4102444799, .int .i64 951782400, .int .i64 1709164800] 3)).heap[w2.heap.size]? = some (.cells #[.int .i64 (r * 4102), .int .i64 (q * 4000 + 86399), .int .i64 0, .int .i64 4102444799, .int .i64 951782400, .int .i64 1709164800] 3) := by
    show (w2.heap.push _)[w2.heap.size]? = _
    simp
  have hs3 := src_keep hs2 ga (by simp)
  have hc3 := code_keep' hc2 ga (fun k e => by cases e)
  have hlt3 : w2.heap.size < (w2.alloc (.cells #[.int .i64 (r * 4102), .int .i64 (q * 4000 + 86399), .int .i64 0, .int .i64 4102444799, .int .i64 951782400, .int .i64 1709164800] 3)).heap.size := by simp
  have hg3 := grown_none hg12 ga
  clear ga hs2 hc2 hg12
  generalize w2.alloc _ = w3 at hnew hs3 hc3 hg3 hlt3 ⊢
  refine (next_any _ b a len cap at2 sd2 6 hs3 hc3 (by omega) (by omega) d2 d3 (by omega) (by omega)).mono ?_
  rintro e w4 ⟨p, at4, sd4, rfl, p0, p1, a4, a5, d4, d5, hs4, hg4⟩
  have hcells : w4.heap[w2.heap.size]? = some (.cells #[.int .i64 (r * 4102), .int .i64 (q * 4000 + 86399), .int .i64 0, .int .i64 4102444799, .int .i64 951782400, .int .i64 1709164800] 3) := by
    rw [hg4.block _ hlt3 (by simp; omega)]
    exact hnew
  have HG : Hid (Src w4 b a len cap at4 sd4 ∧ sr.Code w4 b a len ∧ w.grownBy w4 (some b)) := ⟨hs4, code_keep hc3 hg4, ow.grown_trans hg3 hg4⟩
  clear hs3 hc3 hnew hg3 hg4 hs4 hlt3
  have hp : p = 0 ∨ p = 1 ∨ p = 2 ∨ p = 3 ∨ p = 4 ∨ p = 5 := by omega
  have hcell : ∀ (j : Nat) (v : Int), ([r * 4102, q * 4000 + 86399, 0, 4102444799, 951782400, 1709164800] : List Int)[j]? = some v → w4.cell? ⟨w2.heap.size, j, none⟩ = some (.int .i64 v) := by
    intro j v hv
    rw [cell_of_row _ _ _ _ _ _ hcells]
    match j, hv with
    | 0, hv => cases hv; rfl
    | 1, hv => cases hv; rfl
    | 2, hv => cases hv; rfl
    | 3, hv => cases hv; rfl
    | 4, hv => cases hv; rfl
    | 5, hv => cases hv; rfl
    | j + 6, hv => simp at hv
  clear hcells
  rcases hp with rfl | rfl | rfl | rfl | rfl | rfl
  · have c := hcell 0 _ rfl
    clear hcell
    go_wp2
    go_ret
    exact ⟨_, at4, sd4, rfl, by omega, by omega, by omega, by omega, d4, d5, HG.out⟩
  · have c := hcell 1 _ rfl
    clear hcell
    go_wp2
    go_ret
    exact ⟨_, at4, sd4, rfl, by omega, by omega, by omega, by omega, d4, d5, HG.out⟩
  · have c := hcell 2 _ rfl
    clear hcell
    go_wp2
    go_ret
    exact ⟨_, at4, sd4, rfl, by omega, by omega, by omega, by omega, d4, d5, HG.out⟩
  · have c := hcell 3 _ rfl
    clear hcell
    go_wp2
    go_ret
    exact ⟨_, at4, sd4, rfl, by omega, by omega, by omega, by omega, d4, d5, HG.out⟩
  · have c := hcell 4 _ rfl
    clear hcell
    go_wp2
    go_ret
    exact ⟨_, at4, sd4, rfl, by omega, by omega, by omega, by omega, d4, d5, HG.out⟩
  · have c := hcell 5 _ rfl
    clear hcell
    go_wp2
    go_ret
    exact ⟨_, at4, sd4, rfl, by omega, by omega, by omega, by omega, d4, d5, HG.out⟩


def idL : List ByteArray := [⟨#[105, 100, 49]⟩, ⟨#[105, 100, 50]⟩, ⟨#[105, 100, 51]⟩, ⟨#[117, 114, 110, 58, 120, 32, 38, 32, 121]⟩, ⟨#[105, 100, 32, 195, 164]⟩]
def fldL : List ByteArray := [⟨#[]⟩, ⟨#[116, 105, 116, 108, 101]⟩, ⟨#[97, 32, 38, 32, 98]⟩, ⟨#[195, 164, 195, 182, 32, 226, 130, 172]⟩, ⟨#[60, 120, 62]⟩, ⟨#[111, 110, 101, 32, 116, 119, 111]⟩, ⟨#[61, 63, 117, 116, 102, 45, 56, 63, 81, 63, 120, 63, 61]⟩, ⟨#[240, 159, 152, 128]⟩]
def linkL : List ByteArray := [⟨#[]⟩, ⟨#[104, 116, 116, 112, 58, 47, 47, 97, 47, 98, 63, 99, 61, 100, 38, 101]⟩, ⟨#[108, 105, 110, 107]⟩]
def conL : List ByteArray := [⟨#[]⟩, ⟨#[116, 101, 120, 116]⟩, ⟨#[116, 119, 111, 10, 108, 105, 110, 101, 115, 10]⟩, ⟨#[97, 13, 98, 13, 10]⟩, ⟨#[46, 10, 46, 46, 10]⟩, ⟨#[195, 164, 32, 60, 98, 62]⟩, ⟨#[116, 114, 97, 105, 108, 105, 110, 103, 32, 10, 61, 32, 120]⟩, ⟨#[48, 49, 50, 51, 52, 53, 54, 55, 56, 57, 48, 49, 50, 51, 52, 53, 54, 55, 56, 57, 48, 49, 50, 51, 52, 53, 54, 55, 56, 57, 48, 49, 50, 51, 52, 53, 54, 55, 56, 57, 48, 49, 50, 51, 52, 53, 54, 55, 56, 57, 48, 49, 50, 51, 52, 53, 54, 55, 56, 57, 48, 49, 50, 51, 52, 53, 54, 55, 56, 57, 48, 49, 50, 51, 52, 53, 54, 55, 56, 57, 48, 49, 50, 51, 52, 53, 54, 55, 56, 57, 48]⟩]
theorem row_cells (w : World) (L : List ByteArray) (j : Nat) (h : j < L.length) : ∃ s : ByteArray, s ∈ L ∧ (w.alloc (.cells (L.map Value.string).toArray 9)).cell? ⟨w.heap.size, j, none⟩ = some (.string s) :=
  ⟨L[j], List.getElem_mem h, ow.cell_new w (L.map Value.string) _ j _ (by simp [h])⟩
set_option maxHeartbeats 1000000 in
theorem pick_any (w : World) (b : Nat) (a : Option Addr) (len cap : Nat) (at_ sd : Int) (lb n c2 : Nat) (Q : ByteArray → Prop) (hs : Src w b a len cap at_ sd) (hc : sr.Code w b a len) (h0 : 0 ≤ at_) (h1 : at_ ≤ 900000) (s0 : 0 ≤ sd) (s1 : sd < 2147483648)
    (hn : 1 ≤ n) (hn2 : n ≤ 1000) (hne : lb ≠ b) (hcell : ∀ j, j < n → ∃ s : ByteArray, Q s ∧ w.cell? ⟨lb, j, none⟩ = some (.string s)) :
    Calls Tryz.prog 32 #[.pointer (some ⟨b, 0, none⟩), .slice (some ⟨lb, 0, none⟩) n c2] w fun e w' => ∃ (s : ByteArray) (at' sd' : Int), e = .returned (.string s) ∧ Q s ∧ at_ ≤ at' ∧ at' ≤ at_ + 3 ∧ 0 ≤ sd' ∧ sd' < 2147483648 ∧ Src w' b a len cap at' sd' ∧ w.grownBy w' (some b) := by
  have hz : ((n : Int) == 0) = false := beq_eq_false_iff_ne.2 (by omega)
  go_enter Tryz.func32, Tryz.ntmps32
  go_wp2_with fail
  refine (next_any _ b a len cap at_ sd n hs hc h0 h1 s0 s1 (by omega) (by omega)).mono ?_
  rintro e w1 ⟨x, at1, sd1, rfl, x0, x1, a0, a1, d0, d1, hs1, hg1⟩
  obtain ⟨k, rfl⟩ : ∃ k : Nat, x = (k : Int) := ⟨x.toNat, by omega⟩
  obtain ⟨s, hsz, hk⟩ := hcell k (by omega)
  have hk1 : w1.cell? ⟨lb, k, none⟩ = some (.string s) := hg1.cell hk (fun e => hne (by simpa using e))
  have HH : Hid (Src w1 b a len cap at1 sd1 ∧ w.grownBy w1 (some b) ∧ Q s) := ⟨hs1, hg1, hsz⟩
  clear hs1 hg1 hs hc hcell hk hsz
  have hlt : (k : Int) < (n : Int) := by omega
  go_wp2
  go_ret
  exact ⟨s, at1, sd1, rfl, HH.out.2.2, a0, a1, d0, d1, HH.out.1, HH.out.2.1⟩
/-- One of some texts. -/
def Pk (w : World) (b : Nat) (a : Option Addr) (len cap : Nat) (at_ : Int) (L : List ByteArray) (e : Ending) (w' : World) : Prop :=
  ∃ (s : ByteArray) (at' sd' : Int), e = .returned (.string s) ∧ s ∈ L ∧ at_ ≤ at' ∧ at' ≤ at_ + 3 ∧ 0 ≤ sd' ∧ sd' < 2147483648 ∧ Src w' b a len cap at' sd' ∧ sr.Code w' b a len ∧ w.grownBy w' (some b)
theorem list_any (L : List ByteArray) (n : Nat) (w : World) (b : Nat) (a : Option Addr) (len cap : Nat) (at_ sd : Int) (hs : Src w b a len cap at_ sd) (hc : sr.Code w b a len) (h0 : 0 ≤ at_) (h1 : at_ ≤ 900000) (s0 : 0 ≤ sd) (s1 : sd < 2147483648) (hL : n = L.length) (hn : 1 ≤ n) (hn2 : n ≤ 1000) :
    Calls Tryz.prog 32 #[.pointer (some ⟨b, 0, none⟩), .slice (some ⟨w.heap.size, 0, none⟩) n n] (w.alloc (.cells (L.map Value.string).toArray 9)) fun e w' => Pk w b a len cap at_ L e w' := by
  have hbw : b < w.heap.size := (Array.getElem?_eq_some_iff.1 hs).1
  have hga : w.grownBy (w.alloc (.cells (L.map Value.string).toArray 9)) (some b) := World.grownBy_alloc _ _ _
  have hsa : Src (w.alloc (.cells (L.map Value.string).toArray 9)) b a len cap at_ sd := src_keep hs (World.grownBy_alloc _ _ none) (by simp)
  have hca := code_keep hc hga
  refine (pick_any _ b a len cap at_ sd w.heap.size n n (· ∈ L) hsa hca h0 h1 s0 s1 hn hn2 (by omega) (fun j hj => row_cells w L j (by omega))).mono ?_
  rintro e w1 ⟨s, at1, sd1, he, hq, a0, a1, d0, d1, hs1, hg1⟩
  exact ⟨s, at1, sd1, he, hq, a0, a1, d0, d1, hs1, code_keep hca hg1, ow.grown_trans hga hg1⟩

set_option maxHeartbeats 1000000 in
set_option maxRecDepth 100000 in
theorem field_any (w : World) (b : Nat) (a : Option Addr) (len cap : Nat) (at_ sd : Int) (hs : Src w b a len cap at_ sd) (hc : sr.Code w b a len) (h0 : 0 ≤ at_) (h1 : at_ ≤ 900000) (s0 : 0 ≤ sd) (s1 : sd < 2147483648) :
    Calls Tryz.prog 33 #[.pointer (some ⟨b, 0, none⟩)] w fun e w' => Pk w b a len cap at_ fldL e w' := by
  have HP : Hid (Calls Tryz.prog 32 #[.pointer (some ⟨b, 0, none⟩), .slice (some ⟨w.heap.size, 0, none⟩) 8 8] (w.alloc (.cells (fldL.map Value.string).toArray 9)) fun e w' => Pk w b a len cap at_ fldL e w') := list_any fldL 8 w b a len cap at_ sd hs hc h0 h1 s0 s1 rfl (by omega) (by omega)
  clear hs hc
  go_enter Tryz.func33, Tryz.ntmps33
  go_wp2_with fail
  refine HP.out.mono ?_
  rintro e w1 ⟨s, at1, sd1, rfl, hq⟩
  have HH : Hid (s ∈ fldL ∧ at_ ≤ at1 ∧ at1 ≤ at_ + 3 ∧ 0 ≤ sd1 ∧ sd1 < 2147483648 ∧ Src w1 b a len cap at1 sd1 ∧ sr.Code w1 b a len ∧ w.grownBy w1 (some b)) := hq
  clear HP hq
  go_wp2
  go_ret
  exact ⟨s, at1, sd1, rfl, HH.out⟩
end Go.Proofs.YtbokolpjdaamiaaGreatDoor.se
