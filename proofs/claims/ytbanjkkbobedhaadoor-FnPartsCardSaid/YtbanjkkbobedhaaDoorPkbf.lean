/-
  The first field of a name, in letters of either size: both searches.
  Contracts of the specification's source of choices: the next byte, the next number, a chance.
-/
import Derived.Test.YtbanjkkbobedhaaDoorPkbe
import Derived.Test.YtbanjkkbobedhaaDoorPkbd
import Derived.Test.YtbanjkkbobedhaaDoorPkae
import Derived.Test.YtbanjkkbobedhaaDoorPkab
import Derived.Test.YtbanjkkbobedhaaDoorRows
import Derived.WalkKit
import Derived.WalkLawsBesides
import Derived.Deep.QuietTactic
import Derived.BigQuiet
import Derived.BigRegion

namespace Go.Proofs.YtbanjkkbobedhaaDoor.fo
open Go.RowKit
open fa lo gr
set_option linter.unusedVariables false

def sameB (a b : ByteArray) : Bool := decide (lower a.data.toList = lower b.data.toList)
/-- The first field of a name. -/
def find (ps : List Pr) (nm : ByteArray) : Option ByteArray := (ps.find? fun p => sameB p.1 nm).map (·.2)
theorem find_drop {ps : List Pr} {nm : ByteArray} {k : Nat} (h : find ps nm = find (ps.drop k) nm) (hk : k < ps.length) (hn : sameB (ps.getD k no).1 nm = false) : find ps nm = find (ps.drop (k + 1)) nm := by
  rw [h, List.drop_eq_getElem_cons hk]
  have e : ps.getD k no = ps[k] := by simp [List.getD_eq_getElem?_getD, hk]
  rw [e] at hn
  unfold find
  rw [List.find?_cons_of_neg (by rw [hn]; simp)]
theorem find_at {ps : List Pr} {nm : ByteArray} {k : Nat} (h : find ps nm = find (ps.drop k) nm) (hk : k < ps.length) (hn : sameB (ps.getD k no).1 nm = true) : find ps nm = some (ps.getD k no).2 := by
  rw [h, List.drop_eq_getElem_cons hk]
  have e : ps.getD k no = ps[k] := by simp [List.getD_eq_getElem?_getD, hk]
  rw [e] at hn ⊢
  unfold find
  rw [List.find?_cons_of_pos (p := fun p : Pr => sameB p.1 nm) hn]
  rfl
theorem find_end {ps : List Pr} {nm : ByteArray} {k : Nat} (h : find ps nm = find (ps.drop k) nm) (hk : ps.length ≤ k) : find ps nm = none := by
  rw [h, List.drop_eq_nil_of_le hk]
  rfl
theorem tl_same (a b : ByteArray) : ((⟨(lower a.data.toList).toArray⟩ : ByteArray).toList == (⟨(lower b.data.toList).toArray⟩ : ByteArray).toList) = sameB a b := by
  rw [Lib.toList_data, Lib.toList_data, Bool.eq_iff_iff, beq_iff_eq, sameB, decide_eq_true_iff]
/-- What a search answers. -/
def FRet (o : Option ByteArray) : Value := match o with
  | some v => .tuple #[.string v, .bool true]
  | none => .tuple #[.string ⟨#[]⟩, .bool false]

set_option maxHeartbeats 2000000 in
set_option maxRecDepth 100000 in
theorem same_any (a b : ByteArray) (w : World) (ha : a.size ≤ 1048576) (hb : b.size ≤ 1048576) :
    Calls Tryd.prog 39 #[.string a, .string b] w fun e w' => e = .returned (.bool (sameB a b)) ∧ Below w.heap.size w w' := by
  by_cases hl : a.size = b.size
  case neg =>
    have hd : ((a.size : Int) == (b.size : Int)) = false := beq_eq_false_iff_ne.2 (by omega)
    have HF : Hid (sameB a b = false) := (show sameB a b = false from decide_eq_false (fun h => hl (by have := congrArg List.length h; rw [lower_len, lower_len] at this; rw [Lib.size_eq, Lib.size_eq]; exact this)))
    go_enter Tryd.func39, Tryd.ntmps39
    go_wp2
    go_ret
    exact ⟨by rw [HF.out]; rfl, Below.refl _ _⟩
  have hd : ((a.size : Int) == (b.size : Int)) = true := beq_iff_eq.2 (by omega)
  have HT := tl_same a b
  have HA : Hid (∀ W, Calls Tryd.prog 59 #[.string a] W fun e w' => e = .returned (.string ⟨(lower a.data.toList).toArray⟩) ∧ Below W.heap.size W w') := fun W => impl_lower a W ha
  have HB : Hid (∀ W, Calls Tryd.prog 59 #[.string b] W fun e w' => e = .returned (.string ⟨(lower b.data.toList).toArray⟩) ∧ Below W.heap.size W w') := fun W => impl_lower b W hb
  generalize (⟨(lower a.data.toList).toArray⟩ : ByteArray) = A at HT HA
  generalize (⟨(lower b.data.toList).toArray⟩ : ByteArray) = B at HT HB
  generalize sameB a b = R at HT ⊢
  go_enter Tryd.func39, Tryd.ntmps39
  go_wp2_with fail
  refine (HA.out _).mono ?_
  rintro e w1 ⟨rfl, b1⟩
  go_wp2_with fail
  refine (HB.out _).mono ?_
  rintro e w2 ⟨rfl, b2⟩
  have b3 := b1.trans (b2.mono b1.size)
  go_wp2
  go_ret
  exact ⟨rfl, b3⟩
set_option maxHeartbeats 4000000 in
set_option maxRecDepth 100000 in
theorem value_any (v : Value) (ps : List Pr) (nm : ByteArray) (w : World) (h : AttrsAt w v ps) (hsm : Small ps) (hn : nm.size ≤ 1048576) :
    Calls Tryd.prog 19 #[v, .string nm] w fun e w' => e = .returned (FRet (find ps nm)) ∧ Below w.heap.size w w' := by
  obtain ⟨a, cap, rfl, h⟩ := h
  obtain ⟨n, hn'⟩ : ∃ n, n = ps.length := ⟨_, rfl⟩
  have HN : Hid (n = ps.length) := hn'
  have HH : Hid (ps = [] ∨ ∃ b off, a = some ⟨b, off, none⟩ ∧ ∀ j, j < ps.length → w.cell? ⟨b, off + j * 2, none⟩ = some (.string (ps.getD j no).1) ∧ w.cell? ⟨b, off + j * 2 + 1, none⟩ = some (.string (ps.getD j no).2)) := h
  have HS : Hid (Small ps) := hsm
  have hln : n ≤ 1048576 := by rw [hn']; exact hsm.1
  rw [← hn']
  clear h hsm hn'
  go_enter Tryd.func19, Tryd.ntmps19
  go_wp2
  go_loopw [10] (fun i wr => ∃ k : Nat, k ≤ n ∧ i = .int .i64 k ∧ find ps nm = find (ps.drop k) nm ∧ Below w.heap.size w wr) (fun i _ => n - (intOf i).toNat)
  case atStart => exact ⟨0, Nat.zero_le _, rfl, rfl, Below.refl _ _⟩
  case round =>
    obtain ⟨k, hk, rfl, hf, hbw⟩ := hrel
    have HF : Hid (find ps nm = find (ps.drop k) nm) := hf
    clear hf
    by_cases hlt : k < n
    · have hlt' : (k : Int) < (n : Int) := by omega
      have hka : k < ps.length := by rw [← HN.out]; exact hlt
      have hsz := HS.out.2 k hka
      rcases HH.out with e | ⟨b, off, rfl, hcells⟩
      · rw [e] at hka; simp at hka
      obtain ⟨v0, v1⟩ := hcells k hka
      have hblt : b < w.heap.size := World.block_lt_of_cell? w _ v0
      have c0 := (hbw.cell (p := ⟨b, off + k * 2, none⟩) hblt).trans v0
      have c1 := (hbw.cell (p := ⟨b, off + k * 2 + 1, none⟩) hblt).trans v1
      have HFN : Hid (sameB (ps.getD k no).1 nm = false → find ps nm = find (ps.drop (k + 1)) nm) := fun h => find_drop HF.out hka h
      have HFA : Hid (sameB (ps.getD k no).1 nm = true → find ps nm = some (ps.getD k no).2) := fun h => find_at HF.out hka h
      clear hcells v0 v1 hka
      generalize (ps.getD k no).1 = nk at c0 hsz HFN HFA
      generalize (ps.getD k no).2 = vk at c1 hsz HFA
      have HB0 : Hid (Below w.heap.size w wr) := hbw
      have HX : Hid (b2.Box (wr.alloc (.cells #[.string nk, .string vk] 69)) wr.heap.size 69 (.string nk) (.string vk)) := b2.new _ _ _ _
      have HB1 : Hid (Below w.heap.size w (wr.alloc (.cells #[.string nk, .string vk] 69))) := hbw.alloc hbw.size _
      clear hbw
      go_wp2_with fail
      generalize hW : World.alloc _ _ = W at HX HB1 ⊢
      clear hW c0 c1
      refine (same_any nk nm W hsz.1 hn).mono ?_
      rintro e w2 ⟨rfl, hb2⟩
      have HB2 : Hid (Below w.heap.size w w2) := HB1.out.trans (hb2.mono HB1.out.size)
      have d1 := (HX.out.below hb2).c1
      clear hb2
      cases hsb : sameB nk nm with
      | true =>
        have HR : Hid (FRet (find ps nm) = .tuple #[.string vk, .bool true]) := (show _ = _ by rw [HFA.out hsb]; rfl)
        clear hsb
        go_wp2
        go_ret2
        exact ⟨by rw [HR.out]; rfl, HB2.out⟩
      | false =>
        have HR : Hid (find ps nm = find (ps.drop (k + 1)) nm) := HFN.out hsb
        clear hsb
        go_wp2
        go_roundw
        case rel => exact ⟨k + 1, by omega, by go_num, HR.out, HB2.out⟩
        case measure => simp [intOf]; omega
    · have hlt' : ¬ (k : Int) < (n : Int) := by omega
      have HR : Hid (FRet (find ps nm) = .tuple #[.string ⟨#[]⟩, .bool false]) := (show _ = _ by rw [find_end HF.out (by have := HN.out; omega)]; rfl)
      go_wp2
      go_ret2
      exact ⟨by rw [HR.out]; rfl, hbw⟩
/-- What both FieldOf functions answer. -/
def foC (ps : List Pr) (nm : ByteArray) : ByteArray × Int :=
  if 65536 < nm.size then (⟨#[]⟩, 2) else if 40 < ps.length then (⟨#[]⟩, 1) else match find ps nm with
    | some v => (v, 0)
    | none => (⟨#[]⟩, 5)
theorem find_mem {ps : List Pr} {nm v : ByteArray} (h : find ps nm = some v) (hs : Small ps) : v.size ≤ 1048576 := by
  unfold find at h
  cases hf : ps.find? (fun p => sameB p.1 nm) with
  | none => rw [hf] at h; cases h
  | some p =>
    rw [hf] at h
    obtain rfl : p.2 = v := Option.some.inj h
    obtain ⟨j, hj, e⟩ := List.mem_iff_getElem.1 (List.mem_of_find?_eq_some hf)
    have := (hs.2 j hj).2
    rw [List.getD_eq_getElem?_getD, List.getElem?_eq_getElem hj, Option.getD_some, e] at this
    exact this
theorem clone_fo (s : ByteArray) (w : World) (hs : s.size ≤ 1048576) :
    Calls Tryd.prog 18 #[.string s] w fun e w' => e = .returned (.string s) ∧ Below w.heap.size w w' := by
  go_enter Tryd.func18, Tryd.ntmps18
  go_wp2_with fail
  refine (Tryd.stringslite_Clone s _ (by omega)).mono ?_
  rintro e w' ⟨rfl, hb⟩
  go_wp2
  go_ret
  exact ⟨rfl, hb⟩
set_option maxHeartbeats 4000000 in
set_option maxRecDepth 100000 in
theorem impl_fo (v : Value) (T : ByteArray) (ps : List Pr) (nm : ByteArray) (w : World) (h : AttrsAt w v ps) (hsm : Small ps) (hn : nm.size ≤ 1048576) :
    Calls Tryd.prog 8 #[.agg #[v, .string T], .string nm] w fun e w' => e = .returned (.tuple #[.string (foC ps nm).1, .int .i64 (foC ps nm).2]) ∧ Below w.heap.size w w' := by
  have k1 := h
  obtain ⟨a, cap, rfl, _⟩ := h
  have bx : Below w.heap.size w (w.alloc (.cells #[.slice a ps.length cap, .string T] 31)) := (Below.refl _ _).alloc (Nat.le_refl _) _
  by_cases h9 : 65536 < nm.size
  · have h9' : (65536 : Int) < (nm.size : Int) := by omega
    rw [foC, if_pos h9]
    go_enter Tryd.func8, Tryd.ntmps8
    go_wp2
    go_ret2
    exact ⟨rfl, bx⟩
  have h9' : ¬ (65536 : Int) < (nm.size : Int) := by omega
  by_cases h4 : 40 < ps.length
  · have h4' : (40 : Int) < (ps.length : Int) := by omega
    rw [foC, if_neg h9, if_pos h4]
    go_enter Tryd.func8, Tryd.ntmps8
    go_wp2
    go_ret2
    exact ⟨rfl, bx⟩
  have h4' : ¬ (40 : Int) < (ps.length : Int) := by omega
  rw [foC, if_neg h9, if_neg h4]
  have HFD := value_any (.slice a ps.length cap) ps nm _ (at_below k1 bx) hsm hn
  have HBX : Hid (Below w.heap.size w (w.alloc (.cells #[.slice a ps.length cap, .string T] 31))) := bx
  clear k1 bx h9 h4
  cases hfn : find ps nm with
  | some u =>
    rw [hfn] at HFD
    have hus := find_mem hfn hsm
    have HFE : Hid (Calls Tryd.prog 19 #[.slice a ps.length cap, .string nm] (w.alloc (.cells #[.slice a ps.length cap, .string T] 31)) fun e w' => e = .returned (.tuple #[.string u, .bool true]) ∧ Below (w.alloc (.cells #[.slice a ps.length cap, .string T] 31)).heap.size (w.alloc (.cells #[.slice a ps.length cap, .string T] 31)) w') := HFD
    clear HFD hfn hsm
    generalize ps.length = ln at *
    go_enter Tryd.func8, Tryd.ntmps8
    go_wp2_with fail
    refine HFE.out.mono ?_
    rintro e w2 ⟨rfl, hb2⟩
    have hb3 := HBX.out.trans (hb2.mono HBX.out.size)
    clear hb2
    go_wp2_with fail
    refine (clone_fo u _ hus).mono ?_
    rintro e w3 ⟨rfl, hb4⟩
    have hb5 := hb3.trans (hb4.mono hb3.size)
    go_wp2
    go_ret2
    exact ⟨rfl, hb5⟩
  | none =>
    rw [hfn] at HFD
    have HFE : Hid (Calls Tryd.prog 19 #[.slice a ps.length cap, .string nm] (w.alloc (.cells #[.slice a ps.length cap, .string T] 31)) fun e w' => e = .returned (.tuple #[.string ⟨#[]⟩, .bool false]) ∧ Below (w.alloc (.cells #[.slice a ps.length cap, .string T] 31)).heap.size (w.alloc (.cells #[.slice a ps.length cap, .string T] 31)) w') := HFD
    clear HFD hfn hsm
    generalize ps.length = ln at *
    go_enter Tryd.func8, Tryd.ntmps8
    go_wp2_with fail
    refine HFE.out.mono ?_
    rintro e w2 ⟨rfl, hb2⟩
    have hb3 := HBX.out.trans (hb2.mono HBX.out.size)
    clear hb2
    go_wp2
    go_ret2
    exact ⟨rfl, hb3⟩
end Go.Proofs.YtbanjkkbobedhaaDoor.fo

namespace Go.Proofs.YtbanjkkbobedhaaDoor.sr
open Go.RowKit
set_option linter.unusedVariables false

/-- A source of choices lies in block b: the code, how much of it was taken, the seed. -/
def Src (w : World) (b : Nat) (a : Option Addr) (len cap : Nat) (at_ sd : Int) : Prop :=
  w.heap[b]? = some (.cells #[.slice a len cap, .int .i64 at_, .int .i64 sd] 59 (0, 0))
/-- The code's bytes, in memory that is not the source's. -/
def Code (w : World) (b : Nat) (a : Option Addr) (len : Nat) : Prop :=
  len ≤ 1048576 ∧ (len = 0 ∨ ∃ cb off, a = some ⟨cb, off, none⟩ ∧ cb < b ∧ ∀ j, j < len → ∃ z : Int, 0 ≤ z ∧ z ≤ 255 ∧ w.cell? ⟨cb, off + j, none⟩ = some (.int .u8 z))

section
variable {w : World} {b : Nat} {a : Option Addr} {len cap : Nat} {at_ sd : Int}
theorem Src.c0 (h : Src w b a len cap at_ sd) : w.cell? ⟨b, 0, none⟩ = some (.slice a len cap) := by rw [cell_of_row w b 0 _ _ _ h]; rfl
theorem Src.c1 (h : Src w b a len cap at_ sd) : w.cell? ⟨b, 0 + 1, none⟩ = some (.int .i64 at_) := by rw [cell_of_row w b _ _ _ _ h]; rfl
theorem Src.c2 (h : Src w b a len cap at_ sd) : w.cell? ⟨b, 0 + 2, none⟩ = some (.int .i64 sd) := by rw [cell_of_row w b _ _ _ _ h]; rfl
theorem Src.f (h : Src w b a len cap at_ sd) (j : Nat) : w.frozen? ⟨b, j, none⟩ = false := frozen_of_row w b j _ _ h
end

theorem src_one {w : World} {b : Nat} {a : Option Addr} {len cap : Nat} {at_ sd x : Int} (h : Src w b a len cap at_ sd) : Src (w.setCell ⟨b, 1, none⟩ (.int .i64 x)) b a len cap x sd := heap_setCell_same w b 1 _ _ _ h
theorem src_two {w : World} {b : Nat} {a : Option Addr} {len cap : Nat} {at_ sd x y : Int} (h : Src w b a len cap at_ sd) : Src ((w.setCell ⟨b, 1, none⟩ (.int .i64 x)).setCell ⟨b, 2, none⟩ (.int .i64 y)) b a len cap x y := heap_setCell_same _ b 2 _ _ _ (src_one h)
theorem grown_set (w : World) (b j : Nat) (u : Value) : w.grownBy (w.setCell ⟨b, j, none⟩ u) (some b) :=
  ⟨rfl, rfl, rfl, by simp, fun k _ hk => heap_setCell_other w ⟨b, j, none⟩ k u (fun e => hk (by simp [e]))⟩
theorem grown_two (w : World) (b : Nat) (u v : Value) : w.grownBy ((w.setCell ⟨b, 1, none⟩ u).setCell ⟨b, 2, none⟩ v) (some b) := by
  have h1 := grown_set w b 1 u
  have h2 := grown_set (w.setCell ⟨b, 1, none⟩ u) b 2 v
  exact ⟨h2.os.trans h1.os, h2.tape.trans h1.tape, h2.output.trans h1.output, Nat.le_trans h1.size h2.size, fun i hi hr => (h2.block i (Nat.lt_of_lt_of_le hi h1.size) hr).trans (h1.block i hi hr)⟩

theorem grown_d1 (w : World) (b : Nat) (u : Value) (n : Nat) : w.grownBy ((w.setCell ⟨b, 1, none⟩ u).drewN n) (some b) := ow.grown_drewN (grown_set w b 1 u) n
theorem grown_d2 (w : World) (b : Nat) (u v : Value) (n : Nat) : w.grownBy (((w.setCell ⟨b, 1, none⟩ u).drewN n).setCell ⟨b, 2, none⟩ v) (some b) :=
  ow.grown_trans (grown_d1 w b u n) (grown_set _ b 2 v)
theorem grown_d3 (w : World) (b : Nat) (u v : Value) (n m : Nat) : w.grownBy ((((w.setCell ⟨b, 1, none⟩ u).drewN n).setCell ⟨b, 2, none⟩ v).drewN m) (some b) := ow.grown_drewN (grown_d2 w b u v n) m

/-- What a step of the source leaves: a number from lo to hi, the source a little further on, all else as it was. -/
def Step (w : World) (b : Nat) (a : Option Addr) (len cap : Nat) (at_ k : Int) (lo hi : Int) (e : Ending) (w' : World) : Prop :=
  ∃ r at' sd' : Int, e = .returned (.int .i64 r) ∧ lo ≤ r ∧ r ≤ hi ∧ at_ ≤ at' ∧ at' ≤ at_ + k ∧ 0 ≤ sd' ∧ sd' < 2147483648 ∧ Src w' b a len cap at' sd' ∧ w.grownBy w' (some b)

set_option maxHeartbeats 1000000 in
set_option maxRecDepth 100000 in
theorem byte_zero (w : World) (b : Nat) (a : Option Addr) (len cap : Nat) (at_ sd : Int) (hs : Src w b a len cap at_ sd) (h0 : 0 ≤ at_) (h1 : at_ ≤ 1000000) (hx : (len : Int) < at_ + 1) (hy : 3000 < at_ + 1) (s0 : 0 ≤ sd) (s1 : sd < 2147483648) :
    Calls Tryd.prog 67 #[.pointer (some ⟨b, 0, none⟩)] w fun e w' => Step w b a len cap at_ 1 0 255 e w' := by
  have c0 := hs.c0
  have c1 := hs.c1
  have c2 := hs.c2
  have f1 := hs.f 1
  have HS : Hid _ := hs
  clear hs
  go_enter Tryd.func67, Tryd.ntmps67
  go_wp2
  go_quiet (fail)
  go_wp2
  go_ret
  exact ⟨0, at_ + 1, sd, rfl, by omega, by omega, by omega, by omega, s0, s1, src_one HS.out, grown_d1 _ _ _ _⟩

set_option maxHeartbeats 1000000 in
set_option maxRecDepth 100000 in
theorem byte_seed (w : World) (b : Nat) (a : Option Addr) (len cap : Nat) (at_ sd : Int) (hs : Src w b a len cap at_ sd) (h0 : 0 ≤ at_) (h1 : at_ ≤ 1000000) (hx : (len : Int) < at_ + 1) (hy : at_ + 1 ≤ 3000) (s0 : 0 ≤ sd) (s1 : sd < 2147483648) :
    Calls Tryd.prog 67 #[.pointer (some ⟨b, 0, none⟩)] w fun e w' => Step w b a len cap at_ 1 0 255 e w' := by
  have c0 := hs.c0
  have c1 := hs.c1
  have c2 := hs.c2
  have f1 := hs.f 1
  have f2 := hs.f 2
  have HS : Hid _ := hs
  clear hs
  go_enter Tryd.func67, Tryd.ntmps67
  go_wp2
  go_quiet (fail)
  go_wp2
  go_ret
  exact ⟨_, at_ + 1, _, rfl, by omega, by omega, by omega, by omega, by omega, by omega, src_two HS.out, grown_d2 _ _ _ _ _⟩

set_option maxHeartbeats 2000000 in
set_option maxRecDepth 100000 in
theorem byte_code (w : World) (b cb off : Nat) (len cap : Nat) (at_ : Nat) (sd z : Int) (hs : Src w b (some ⟨cb, off, none⟩) len cap at_ sd) (h1 : at_ ≤ 1000000) (hx : at_ < len) (hl : len ≤ 1048576) (s0 : 0 ≤ sd) (s1 : sd < 2147483648)
    (hne : cb ≠ b) (hz : w.cell? ⟨cb, off + at_, none⟩ = some (.int .u8 z)) (z0 : 0 ≤ z) (z1 : z ≤ 255) :
    Calls Tryd.prog 67 #[.pointer (some ⟨b, 0, none⟩)] w fun e w' => Step w b (some ⟨cb, off, none⟩) len cap at_ 1 0 255 e w' := by
  have c0 := hs.c0
  have c1 := hs.c1
  have c2 := hs.c2
  have f1 := hs.f 1
  have f2 := hs.f 2
  have HS : Hid _ := hs
  clear hs
  have hx' : (at_ : Int) + 1 ≤ (len : Int) := by omega
  have hx2 : (at_ : Int) < (len : Int) := by omega
  have hx3 : (0 : Int) ≤ (at_ : Int) := by omega
  go_enter Tryd.func67, Tryd.ntmps67
  go_wp2
  go_quiet (fail)
  go_wp2
  go_region
  all_goals go_wp2
  all_goals go_quiet (fail)
  all_goals go_wp2
  all_goals go_ret
  all_goals exact ⟨z, at_ + 1, _, rfl, z0, z1, by omega, by omega, by omega, by omega, src_two HS.out, grown_d3 _ _ _ _ _ _⟩

theorem byte_any (w : World) (b : Nat) (a : Option Addr) (len cap : Nat) (at_ sd : Int) (hs : Src w b a len cap at_ sd) (hc : Code w b a len) (h0 : 0 ≤ at_) (h1 : at_ ≤ 1000000) (s0 : 0 ≤ sd) (s1 : sd < 2147483648) :
    Calls Tryd.prog 67 #[.pointer (some ⟨b, 0, none⟩)] w fun e w' => Step w b a len cap at_ 1 0 255 e w' := by
  by_cases hx : (len : Int) < at_ + 1
  · by_cases hy : 3000 < at_ + 1
    · exact byte_zero w b a len cap at_ sd hs h0 h1 hx hy s0 s1
    · exact byte_seed w b a len cap at_ sd hs h0 h1 hx (by omega) s0 s1
  · obtain ⟨n, rfl⟩ : ∃ n : Nat, at_ = (n : Int) := ⟨at_.toNat, by omega⟩
    obtain ⟨hl, hc⟩ := hc
    rcases hc with e | ⟨cb, off, rfl, hne, hcell⟩
    · omega
    obtain ⟨z, z0, z1, hz⟩ := hcell n (by omega)
    exact byte_code w b cb off len cap n sd z hs (by omega) (by omega) hl s0 s1 (by omega) hz z0 z1

theorem code_keep' {w w' : World} {b : Nat} {a : Option Addr} {len : Nat} {row : Option Nat} (h : Code w b a len) (hg : w.grownBy w' row) (hr : ∀ k, row = some k → b ≤ k) : Code w' b a len := by
  obtain ⟨hl, h⟩ := h
  refine ⟨hl, ?_⟩
  rcases h with h | ⟨cb, off, rfl, hne, hc⟩
  · exact .inl h
  · refine .inr ⟨cb, off, rfl, hne, fun j hj => ?_⟩
    obtain ⟨z, z0, z1, hz⟩ := hc j hj
    exact ⟨z, z0, z1, hg.cell hz (fun e => by have := hr cb e.symm; omega)⟩
theorem code_keep {w w' : World} {b : Nat} {a : Option Addr} {len : Nat} (h : Code w b a len) (hg : w.grownBy w' (some b)) : Code w' b a len :=
  code_keep' h hg (fun k e => by have : b = k := by simpa using e
                                 omega)
theorem src_keep {w w' : World} {b : Nat} {a : Option Addr} {len cap : Nat} {at_ sd : Int} {row : Option Nat} (h : Src w b a len cap at_ sd) (hg : w.grownBy w' row) (hne : some b ≠ row) : Src w' b a len cap at_ sd := by
  unfold Src at h ⊢
  rw [hg.block b (Array.getElem?_eq_some_iff.1 h).1 hne]
  exact h

set_option maxHeartbeats 1000000 in
theorem next_any (w : World) (b : Nat) (a : Option Addr) (len cap : Nat) (at_ sd n : Int) (hs : Src w b a len cap at_ sd) (hc : Code w b a len) (h0 : 0 ≤ at_) (h1 : at_ ≤ 900000) (s0 : 0 ≤ sd) (s1 : sd < 2147483648) (n1 : 1 ≤ n) (n2 : n ≤ 1000000) :
    Calls Tryd.prog 53 #[.pointer (some ⟨b, 0, none⟩), .int .i64 n] w fun e w' => Step w b a len cap at_ 3 0 (n - 1) e w' := by
  by_cases hn : n ≤ 1
  · have HS : Hid _ := hs
    clear hs
    go_enter Tryd.func53, Tryd.ntmps53
    go_wp2
    go_ret
    exact ⟨0, at_, sd, rfl, by omega, by omega, by omega, by omega, s0, s1, HS.out, ow.grown_refl _ _⟩
  by_cases hn2 : n ≤ 256
  · go_enter Tryd.func53, Tryd.ntmps53
    go_wp2_with fail
    refine (byte_any _ b a len cap at_ sd hs hc h0 (by omega) s0 s1).mono ?_
    rintro e w1 ⟨r, at1, sd1, rfl, r0, r1, a0, a1, d0, d1, hs1, hg1⟩
    have HH : Hid _ := And.intro hs1 hg1
    clear hs1 hg1 hs hc
    go_wp2
    go_ret
    exact ⟨_, at1, sd1, rfl, Int.emod_nonneg _ (by omega), by have := Int.emod_lt_of_pos r (show 0 < n by omega); omega, a0, by omega, d0, d1, HH.out.1, HH.out.2⟩
  go_enter Tryd.func53, Tryd.ntmps53
  go_wp2_with fail
  refine (byte_any _ b a len cap at_ sd hs hc h0 (by omega) s0 s1).mono ?_
  rintro e w1 ⟨r, at1, sd1, rfl, r0, r1, a0, a1, d0, d1, hs1, hg1⟩
  have hc1 := code_keep hc hg1
  go_wp2_with fail
  refine (byte_any _ b a len cap at1 sd1 hs1 hc1 (by omega) (by omega) d0 d1).mono ?_
  rintro e w2 ⟨q, at2, sd2, rfl, q0, q1, a2, a3, d2, d3, hs2, hg2⟩
  have hc2 := code_keep hc1 hg2
  go_wp2_with fail
  refine (byte_any _ b a len cap at2 sd2 hs2 hc2 (by omega) (by omega) d2 d3).mono ?_
  rintro e w3 ⟨p, at3, sd3, rfl, p0, p1, a4, a5, d4, d5, hs3, hg3⟩
  have HH : Hid _ := And.intro hs3 (ow.grown_trans (ow.grown_trans hg1 hg2) hg3)
  clear hs1 hg1 hs hc hc1 hc2 hs2 hs3 hg2 hg3
  go_wp2
  go_ret
  exact ⟨_, at3, sd3, rfl, Int.emod_nonneg _ (by omega), by have := Int.emod_lt_of_pos (r * 65536 + q * 256 + p) (show 0 < n by omega); omega, by omega, by omega, d4, d5, HH.out.1, HH.out.2⟩

end Go.Proofs.YtbanjkkbobedhaaDoor.sr
