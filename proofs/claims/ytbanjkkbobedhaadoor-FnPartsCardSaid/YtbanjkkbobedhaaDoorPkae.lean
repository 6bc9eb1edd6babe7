/-
  Plain facts on rows that a call owns: beside an iterator over a string, behind an append, and turned into a text.
  The contract of the program's fieldsOf: the fields of a header.
  Plain facts on a variable of two cells that a call laid.
-/
import Derived.WalkKit
import Derived.WalkLawsBesides
import Derived.Lib.OthersKept
import Derived.Laws.Cover4
import Derived.Laws.IdiomStrings
import Derived.Laws.BytesArg
import Derived.Lib.AppendStr
import Derived.Test.YtbanjkkbobedhaaDoorPkac
import Derived.Test.YtbanjkkbobedhaaDoorPkad
import Derived.Laws.AppendOwn

namespace Go.Proofs.YtbanjkkbobedhaaDoor.ow
open Go.RowKit
set_option linter.unusedVariables false

theorem dt {p : Prop} {d : Decidable p} (h : p) : @decide p d = true := decide_eq_true h
theorem df {p : Prop} {d : Decidable p} (h : ¬ p) : @decide p d = false := decide_eq_false h
theorem dof {p : Prop} {d : Decidable p} (h : @decide p d = true) : p := of_decide_eq_true h
theorem dnof {p : Prop} {d : Decidable p} (h : @decide p d = false) : ¬ p := of_decide_eq_false h
/-- Two texts are one, or not. -/
def decB (a b : ByteArray) : Decidable (a = b) := decidable_of_iff (a.data = b.data) ⟨fun h => ByteArray.ext h, fun h => by rw [h]⟩
/-- A call that answers whether something holds. -/
def Says (p : Prop) (e : Ending) : Prop := ∃ b : Bool, e = .returned (.bool b) ∧ (b = true ↔ p)
theorem says_no {p : Prop} (h : ¬ p) : Says p (.returned (.bool false)) := ⟨false, rfl, fun x => (by cases x), fun x => absurd x h⟩
theorem says_yes {p : Prop} (h : p) : Says p (.returned (.bool true)) := ⟨true, rfl, fun _ => h, fun _ => rfl⟩
theorem says_true {p : Prop} {e : Ending} (h : Says p e) (hp : p) : e = .returned (.bool true) := by
  obtain ⟨b, rfl, hb⟩ := h
  rw [hb.2 hp]
theorem says_false {p : Prop} {e : Ending} (h : Says p e) (hp : ¬ p) : e = .returned (.bool false) := by
  obtain ⟨b, rfl, hb⟩ := h
  cases b
  · rfl
  · exact absurd (hb.1 rfl) hp

section
variable {w w' W : World} {base e size n k p : Nat} {v : Value} {xs : List Value} {s : ByteArray}

theorem own_iter (h : w.ownsRow base e size v n xs) (hk : w.heap[k]? = some (.stringIter s p)) (q : Nat) : (w.iterAt k s q).ownsRow base e size v n xs := by
  obtain ⟨h1, h2⟩ := h
  refine ⟨h1, ?_⟩
  rcases h2 with h2 | ⟨g, cap, cur, a, b, c, d⟩
  · exact .inl h2
  · have hne : g ≠ k := by
      intro e
      subst e
      rw [hk] at c
      cases c
    exact .inr ⟨g, cap, cur, a, b, by rw [Lib.iterAt_other _ _ _ _ _ hne]; exact c, d⟩
theorem own_not_iter (h : w.ownsRow base e size v n xs) (hk : w.heap[k]? = some (.stringIter s p)) : some k ≠ v.ownBlock := by
  rcases h.2 with ⟨rfl, _⟩ | ⟨g, cap, cur, rfl, _, c, _⟩
  · exact fun x => by cases x
  · intro x
    have : k = g := by simpa [Value.ownBlock] using x
    subst this
    rw [hk] at c
    cases c
theorem own_lt (h : w.ownsRow base e size v n xs) : ∀ j, v.ownBlock = some j → base ≤ j := by
  intro j hj
  rcases h.2 with ⟨rfl, _⟩ | ⟨g, cap, cur, rfl, b, c, _⟩
  · cases hj
  · have : g = j := by simpa [Value.ownBlock] using hj
    omega
theorem own_base {base' : Nat} (h : w.ownsRow base e size v n xs) (hb : base' ≤ base) : w.ownsRow base' e size v n xs := by
  obtain ⟨h1, h2⟩ := h
  refine ⟨h1, ?_⟩
  rcases h2 with h2 | ⟨g, cap, cur, a, b, c⟩
  · exact .inl h2
  · exact .inr ⟨g, cap, cur, a, Nat.le_trans hb b, c⟩
/-- What a call owns stays as it is behind whatever turns nothing that was there. -/
theorem own_below (h : w.ownsRow base e size v n xs) (hb : Below w.heap.size w w') : w'.ownsRow base e size v n xs := by
  obtain ⟨h1, h2⟩ := h
  refine ⟨h1, ?_⟩
  rcases h2 with h2 | ⟨g, cap, cur, a, b, c, d⟩
  · exact .inl h2
  · have hlt : g < w.heap.size := (Array.getElem?_eq_some_iff.1 c).1
    exact .inr ⟨g, cap, cur, a, b, (hb.block g hlt).trans c, d⟩
/-- Two rows of which the second was made behind the first lie apart. -/
theorem apart {w2 : World} {e2 size2 n2 : Nat} {v2 : Value} {xs2 : List Value} (h : w.ownsRow base e size v n xs) (h2 : w2.ownsRow w.heap.size e2 size2 v2 n2 xs2) : v.ownBlock = none ∨ v.ownBlock ≠ v2.ownBlock := by
  rcases h.2 with ⟨rfl, _⟩ | ⟨g, cap, cur, rfl, b, c, d⟩
  · exact .inl rfl
  · right
    intro e
    have hlt : g < w.heap.size := (Array.getElem?_eq_some_iff.1 c).1
    have := own_lt h2 g e.symm
    omega
/-- Behind an append onto an owned row, of what was laid in a new block: an iterator stands as it stood, and what was below the call's own blocks too. -/
theorem after (h : w.ownsRow base e size v n xs) (hk : w.heap[k]? = some (.stringIter s p)) (hb : Below base W w) (hB : base ≤ w.heap.size) (o : Obj) (hg : (w.alloc o).grownBy w' v.ownBlock) :
    w'.heap[k]? = some (.stringIter s p) ∧ Below base W w' := by
  have hlt : k < w.heap.size := (Array.getElem?_eq_some_iff.1 hk).1
  refine ⟨?_, Below.grown (hb.alloc hB _) hg (by simp; omega) (own_lt h)⟩
  rw [hg.block k (by simp; omega) (own_not_iter h hk), Below.heap_alloc _ _ _ hlt]
  exact hk
theorem own_empty (w : World) (t : TypeId) : (w.alloc (.cells #[] t)).ownsRow w.heap.size t 1 (.slice (some ⟨w.heap.size, 0, none⟩) 0 0) 0 [] := by
  have h1 : (w.alloc (.cells #[] t)).heap[w.heap.size]? = some (.cells #[] t) := by
    show (w.heap.push (.cells #[] t))[w.heap.size]? = _
    simp
  exact ⟨rfl, .inr ⟨_, 0, #[], rfl, Nat.le_refl _, h1, Nat.le_refl _, Nat.zero_le _, rfl, rfl⟩⟩
/-- The cells of a block that has just been laid. -/
theorem cells_new (w : World) (c : List Value) (t : TypeId) : ∀ j u, c[j]? = some u → (w.alloc (.cells c.toArray t)).cell? ((⟨w.heap.size, 0, none⟩ : Addr).add j) = some u := by
  intro j u hj
  have h1 : (w.alloc (.cells c.toArray t)).heap[w.heap.size]? = some (.cells c.toArray t) := by
    show (w.heap.push (.cells c.toArray t))[w.heap.size]? = _
    simp
  rw [show ((⟨w.heap.size, 0, none⟩ : Addr).add j) = ⟨w.heap.size, j, none⟩ from by simp [Addr.add]; omega]
  rw [cell_of_row _ _ j _ t _ h1]
  simpa using hj
theorem add_at (g j : Nat) : (⟨g, 0, none⟩ : Addr).add j = ⟨g, j, none⟩ := by simp [Addr.add]; omega
theorem cell_new (w : World) (c : List Value) (t : TypeId) (j : Nat) (u : Value) (h : c[j]? = some u) : (w.alloc (.cells c.toArray t)).cell? ⟨w.heap.size, j, none⟩ = some u := by
  rw [← add_at]
  exact cells_new w c t j u h
end

section
variable {P : Program} {w : World} {base n : Nat} {src dst e : TypeId} {v : Value}
theorem conv_bytes (l : List UInt8) (h : w.ownsRow base e 1 v n (l.map fun b => Value.int .u8 (b.toNat : Int)))
    (hs : P.underlying src = some (.slice e)) (he : P.underlying e = some (.int .u8)) (hd : P.underlying dst = some .string) :
    (convert src dst v).run P w = .ok (.string ⟨l.toArray⟩) w := by
  have hl : l.length = n := by have := h.1; simpa using this
  rcases h.2 with ⟨rfl, h0⟩ | ⟨g, cap, cur, rfl, _⟩
  · have : l = [] := List.eq_nil_of_length_eq_zero (by omega)
    subst this
    rw [run_convert_bytes_string w src dst e _ _ _ hs he hd]
    rfl
  · subst hl
    refine run_convert_bytes_back w src dst e ⟨g, 0, none⟩ cap l hs he hd (fun j hj => ?_)
    rw [show ((⟨g, 0, none⟩ : Addr).add j) = ⟨g, j, none⟩ from by simp [Addr.add]; omega, h.cellAt j (by omega)]
    simp [hj]
theorem slice_str (t : TypeId) (s : ByteArray) (k k' : IntKind) (p q : Nat) (h : P.underlying t = some .string) (i j : Int) (hi : i = p) (hj : j = q) (h1 : p ≤ q) (h2 : q ≤ s.size) (wx : World) :
    (Instr.slice t (.string s) (some (.int k i)) (some (.int k' j)) none).run P wx = .ok (.string (s.extract p q)) wx := by
  subst hi hj
  rw [run_slice_string (P := P) (w := wx) t s k k' _ _ h (by omega) (by omega) (by omega)]
  rfl
theorem conv_runes (zs : List Int) (h : w.ownsRow base e 1 v n (zs.map (Value.int .i32)))
    (hs : P.underlying src = some (.slice e)) (he : P.underlying e = some (.int .i32)) (hd : P.underlying dst = some .string) :
    (convert src dst v).run P w = .ok (.string (runesBytes zs)) w := by
  have hl : zs.length = n := by have := h.1; simpa using this
  rcases h.2 with ⟨rfl, h0⟩ | ⟨g, cap, cur, rfl, _⟩
  · have : zs = [] := List.eq_nil_of_length_eq_zero (by omega)
    subst this
    exact run_convert_runes_nil w src dst e 0 0 hs he hd
  · subst hl
    have := run_convert_runes (P := P) w src dst e ⟨g, 0, none⟩ zs.length cap zs (Nat.le_refl _) hs he hd (fun j hj => by
      rw [show ((⟨g, 0, none⟩ : Addr).add j) = ⟨g, j, none⟩ from by simp [Addr.add]; omega, h.cellAt j (by omega)]
      simp [hj])
    rw [List.take_length] at this
    exact this
end
/-- A slice value whose elements are these numbers. -/
def Reads (k : IntKind) (w : World) (v : Value) (zs : List Int) : Prop :=
  ∃ (a : Option Addr) (cap : Nat), v = .slice a zs.length cap ∧ (zs = [] ∨ ∃ b off, a = some ⟨b, off, none⟩ ∧ ∀ j, j < zs.length → w.cell? ⟨b, off + j, none⟩ = some (.int k (zs.getD j 0)))

theorem reads_own {k : IntKind} {w : World} {base e n : Nat} {v : Value} {zs : List Int} (h : w.ownsRow base e 1 v n (zs.map (Value.int k))) : Reads k w v zs := by
  have hl : zs.length = n := by have := h.1; simpa using this
  rcases h.2 with ⟨rfl, h0⟩ | ⟨g, cap, cur, rfl, _⟩
  · have : zs = [] := List.eq_nil_of_length_eq_zero (by omega)
    subst this
    exact ⟨none, 0, rfl, .inl rfl⟩
  · subst hl
    refine ⟨_, cap, rfl, .inr ⟨g, 0, rfl, fun j hj => ?_⟩⟩
    rw [Nat.zero_add, h.cellAt j (by omega)]
    simp [hj]
theorem reads_keep {k : IntKind} {w w' : World} {v : Value} {zs : List Int} (h : Reads k w v zs) (hc : ∀ a u, w.cell? a = some u → w'.cell? a = some u) : Reads k w' v zs := by
  obtain ⟨a, cap, rfl, h⟩ := h
  refine ⟨a, cap, rfl, ?_⟩
  rcases h with h | ⟨b, off, rfl, h⟩
  · exact .inl h
  · exact .inr ⟨b, off, rfl, fun j hj => hc _ _ (h j hj)⟩

theorem getD_ext {zs ys : List Int} (hl : zs.length = ys.length) (h : ∀ j, j < zs.length → zs.getD j 0 = ys.getD j 0) : zs = ys := by
  refine List.ext_getElem hl (fun j h1 h2 => ?_)
  have := h j h1
  rw [List.getD_eq_getElem?_getD, List.getD_eq_getElem?_getD, List.getElem?_eq_getElem h1, List.getElem?_eq_getElem h2] at this
  simpa using this

theorem grown_trans {a b c : World} {row : Option Nat} (h : a.grownBy b row) (k : b.grownBy c row) : a.grownBy c row :=
  ⟨k.os.trans h.os, k.tape.trans h.tape, k.output.trans h.output, Nat.le_trans h.size k.size, fun i hi hr => (k.block i (Nat.lt_of_lt_of_le hi h.size) hr).trans (h.block i hi hr)⟩
theorem grown_refl (a : World) (row : Option Nat) : a.grownBy a row := ⟨rfl, rfl, rfl, Nat.le_refl _, fun _ _ _ => rfl⟩

/-- Behind a growth by steps of block b's, an append onto a row of the call's own leaves all but block b as it was. -/
theorem grown_new {w w1 w2 : World} {b base e size n : Nat} {v : Value} {xs : List Value} (h : w.grownBy w1 (some b)) (hown : w1.ownsRow base e size v n xs) (hb : w.heap.size ≤ base) (o : Obj) (hg : (w1.alloc o).grownBy w2 v.ownBlock) : w.grownBy w2 (some b) := by
  refine ⟨hg.os.trans h.os, hg.tape.trans h.tape, hg.output.trans h.output, Nat.le_trans h.size (Nat.le_trans (by simp) hg.size), fun k hk hr => ?_⟩
  have hk1 : k < w1.heap.size := Nat.lt_of_lt_of_le hk h.size
  rw [hg.block k (by simp; omega) (fun x => by have := own_lt hown k x.symm; omega), Below.heap_alloc _ _ _ hk1]
  exact h.block k hk hr
theorem grown_alloc {w w1 : World} {row : Option Nat} (h : w.grownBy w1 row) (o : Obj) : w.grownBy (w1.alloc o) row :=
  ⟨h.os, h.tape, h.output, Nat.le_trans h.size (by simp), fun k hk hr => by rw [Below.heap_alloc _ _ _ (Nat.lt_of_lt_of_le hk h.size)]; exact h.block k hk hr⟩
theorem grown_drewN {w w1 : World} {row : Option Nat} (h : w.grownBy w1 row) (n : Nat) : w.grownBy (w1.drewN n) row := ⟨h.os, h.tape, h.output, h.size, h.block⟩
theorem grown_below {w w1 : World} {row : Option Nat} (h : Below w.heap.size w w1) : w.grownBy w1 row := ⟨h.os, h.tape, h.output, h.size, fun k hk _ => h.block k hk⟩
end Go.Proofs.YtbanjkkbobedhaaDoor.ow

namespace Go.Proofs.YtbanjkkbobedhaaDoor.ml
open Go.RowKit
set_option linter.unusedVariables false

theorem infoField : (Tryd.prog.info? 69).map (fun i => (i.zero, i.size, i.bytes)) = some (some (.agg #[.string ⟨#[]⟩, .string ⟨#[]⟩]), 2, 32) := by kernel_rfl
/-- A field of a name and a value. -/
def F : B → B → B → Prop := uf.Field hn.IsName
theorem F_one : One F := fun l a b a' b' h h' => uf.field_one h h'
/-- A text as a value, the cells of fields. -/
def tv (l : B) : Value := .string ⟨l.toArray⟩
def fcells : List (B × B) → List Value
  | [] => []
  | x :: fs => tv x.1 :: tv x.2 :: fcells fs
theorem fcells_snoc (fs : List (B × B)) (x : B × B) : fcells (fs ++ [x]) = fcells fs ++ [tv x.1, tv x.2] := by
  induction fs with
  | nil => rfl
  | cons y fs ih => simp [fcells, ih]
theorem fcells_len (fs : List (B × B)) : (fcells fs).length = fs.length * 2 := by
  induction fs with
  | nil => rfl
  | cons y fs ih => simp [fcells, ih]; omega
/-- Fields in memory that the call made. -/
def FieldsAt (w : World) (base : Nat) (v : Value) (fs : List (B × B)) : Prop := w.ownsRow base 69 2 v fs.length (fcells fs)
theorem fields_form {w : World} {base : Nat} {v : Value} {fs : List (B × B)} (h : FieldsAt w base v fs) : ∃ a cap, v = .slice a fs.length cap := by
  rcases h.2 with ⟨rfl, h0⟩ | ⟨g, cap, cur, rfl, _⟩
  · exact ⟨none, 0, by rw [h0]⟩
  · exact ⟨_, cap, rfl⟩
theorem fields_nil (w : World) (base : Nat) : FieldsAt w base (.slice none 0 0) [] := World.ownsRow_nil _ _ _ _

def FoRet (l : B) (base : Nat) (e : Ending) (w' : World) : Prop :=
  (∃ fs v, e = .returned (.tuple #[v, .bool true]) ∧ RunE F fs l [] ∧ fs.length ≤ 40 ∧ FieldsAt w' base v fs) ∨
  (e = .returned (.tuple #[.slice none 0 0, .bool false]) ∧ ∃ fs r f q, RunE F fs l r ∧ Chunk r f q ∧ (fs.length = 40 ∨ ¬ ∃ a v, F f a v))

set_option maxHeartbeats 4000000 in
set_option maxRecDepth 100000 in
theorem fieldsOf_any (s : ByteArray) (w : World) (m : Int) (hm : w.cell? ⟨0, 0, none⟩ = some (.int .i64 m)) (hs : s.size ≤ 65536) (hE : Ends s.data.toList) :
    Calls Tryd.prog 36 #[.string s] w fun e w' => FoRet s.data.toList w.heap.size e w' ∧ Below w.heap.size w w' := by
  obtain ⟨i0, hi, hz0, hz1, hz2⟩ := info_parts infoField
  have hgl := World.block_lt_of_cell? _ _ hm
  have HM : Hid (∀ W, Below w.heap.size w W → W.cell? ⟨0, 0, none⟩ = some (.int .i64 m)) := fun W hW => (hW.cell (p := ⟨0, 0, none⟩) hgl).trans hm
  have HE : Hid (Ends s.data.toList) := hE
  clear hm hgl hE
  go_enter Tryd.func36, Tryd.ntmps36
  go_wp2
  go_loopw [0, 4] (fun t v wr => ∃ (r : ByteArray) (fs : List (B × B)), t = .string r ∧ r.size ≤ 65536 ∧ Ends r.data.toList ∧ RunE F fs s.data.toList r.data.toList ∧ fs.length ≤ 40 ∧ FieldsAt wr w.heap.size v fs ∧ Below w.heap.size w wr) (fun t _ _ => (match t with | .string r => r.size | _ => 0))
  case atStart => exact ⟨s, [], rfl, hs, HE.out, rfl, by simp, fields_nil _ _, Below.refl _ _⟩
  case round =>
    obtain ⟨r, fs, rfl, hrl, hEr, hrun, hfl, hfa, hbw⟩ := hrel
    have HRUN : Hid (RunE F fs s.data.toList r.data.toList) := hrun
    have HBW : Hid (Below w.heap.size w wr) := hbw
    have hBs := hbw.size
    obtain ⟨a, cap, rfl⟩ := fields_form hfa
    have HFA : Hid (FieldsAt wr w.heap.size (.slice a fs.length cap) fs) := hfa
    clear hrun hfa
    by_cases h0 : r.data.toList = []
    · have hr0 : r = ⟨#[]⟩ := by rw [mk_list r, h0]
      subst hr0
      go_wp2
      go_ret2
      exact ⟨.inl ⟨fs, _, rfl, HRUN.out, hfl, HFA.out⟩, HBW.out⟩
    have he : r.toList.isEmpty = false := by rw [Lib.toList_data]; exact isEmpty_no h0
    have HFS : Hid (Calls Tryd.prog 57 #[.string r] wr fun e w' => (∃ p : Nat, e = .returned (.int .i64 p) ∧ Seek r.data.toList p ∧ (r.data.toList.drop p).head? ≠ some 32) ∧ ∃ n, w' = wr.drewN n) := (show Calls _ _ _ _ _ from fieldSize_any r wr m (HM.out _ hbw) hrl hEr h0)
    have HEr : Hid (Ends r.data.toList) := hEr
    clear hbw hEr h0
    go_wp2_with fail
    refine HFS.out.mono ?_
    rintro e w1 ⟨⟨p, rfl, hsk, hnb⟩, n1, hw1⟩
    have hple := seek_le hsk
    rw [← Lib.size_eq] at hple
    have hch := seek_end hsk hnb
    have hpz : 2 ≤ p := by obtain ⟨j, hj, _⟩ := hsk; omega
    have hE2 := seek_ends hsk HEr.out
    have HB1 : Hid (Below w.heap.size w w1) := (show Below _ _ _ by rw [hw1]; exact uf.bdrew HBW.out n1)
    have HF1 : Hid (FieldsAt w1 w.heap.size (.slice a fs.length cap) fs) := (show FieldsAt _ _ _ _ by rw [hw1]; exact ow.own_below HFA.out (uf.bdrew (Below.refl _ _) n1))
    have hBs1 : w.heap.size ≤ w1.heap.size := HB1.out.size
    have hp1 : (0 : Int) ≤ (p : Int) := by omega
    have hp2 : (p : Int) ≤ (r.size : Int) := by omega
    have HUN := uf.implUh_any (r.extract 0 p) w1 m (HM.out _ HB1.out) (by rw [ext_size _ _ _ hple]; omega)
    have HCH : Hid (Chunk r.data.toList (r.data.toList.take p) (r.data.toList.drop p)) := hch
    have HE2 : Hid (Ends (r.data.toList.drop p)) := hE2
    clear hw1 hsk hnb hch hE2 HFS HFA HBW
    go_wp2_with fail
    refine HUN.mono ?_
    rintro e w2 ⟨hur, hb2⟩
    have HB2 : Hid (Below w.heap.size w w2) := HB1.out.trans (hb2.mono hBs1)
    have HF2 : Hid (FieldsAt w2 w.heap.size (.slice a fs.length cap) fs) := ow.own_below HF1.out hb2
    have hBs2 : w.heap.size ≤ w2.heap.size := HB2.out.size
    clear hb2 HUN HB1 HF1
    rcases hur with ⟨hbig, _⟩ | ⟨_, hno, rfl⟩ | ⟨_, nm, v, hf, rfl⟩
    · rw [ext_size _ _ _ hple] at hbig
      omega
    · have HN : Hid (¬ ∃ a v, F (r.data.toList.take p) a v) := (show ¬ _ by rw [ext_front] at hno; exact hno)
      clear hno
      go_wp2
      go_ret2
      exact ⟨.inr ⟨rfl, fs, _, _, _, HRUN.out, HCH.out, .inr HN.out⟩, HB2.out⟩
    · have HFF : Hid (F (r.data.toList.take p) nm v) := (show F _ _ _ by rw [ext_front] at hf; exact hf)
      clear hf
      by_cases h40 : fs.length = 40
      · have d40 : ((fs.length : Int) == 40) = true := beq_iff_eq.2 (by omega)
        have H40 : Hid (fs.length = 40) := h40
        clear h40
        go_wp2
        go_ret2
        exact ⟨.inr ⟨rfl, fs, _, _, _, HRUN.out, HCH.out, .inl H40.out⟩, HB2.out⟩
      · have d40 : ((fs.length : Int) == 40) = false := beq_eq_false_iff_ne.2 (by omega)
        have hown := HF2.out
        unfold FieldsAt at hown
        generalize hnb' : (⟨nm.toArray⟩ : ByteArray) = NM
        generalize hvb' : (⟨v.toArray⟩ : ByteArray) = VV
        have HNM : Hid (tv nm = .string NM ∧ tv v = .string VV) := (show _ ∧ _ by rw [← hnb', ← hvb']; exact ⟨rfl, rfl⟩)
        clear hnb' hvb'
        go_wp2_with (at_builtin; go_loud (refine wpList_append_own _ rfl _ _ 29 rfl w.heap.size 69 i0 _ 2 32 Tryd.underlying29 hi hz0 hz1 hz2 rfl (by decide) _ _ _ rfl (hown.alloc _) ⟨w2.heap.size, 0, none⟩ 1 1 [Value.string NM, Value.string VV] rfl rfl (by have hh := ow.cells_new w2 [Value.string NM, Value.string VV] 69; simpa using hh) (by simp [Value.oneCell']) (by unfold maxLen; omega) (by omega) (by simp; omega) ?_); intro v' w6 hown' hgrow _)
        have hb6 : Below w.heap.size w w6 := Below.grown (HB2.out.alloc hBs2 _) hgrow (by simp; omega) (ow.own_lt hown)
        have HB6 : Hid (Below w.heap.size w w6) := hb6
        have HF6 : Hid (FieldsAt w6 w.heap.size v' (fs ++ [(nm, v)])) := (show FieldsAt _ _ _ _ by
          unfold FieldsAt
          rw [fcells_snoc, List.length_append, HNM.out.1, HNM.out.2]
          exact hown')
        clear hown' hgrow hb6 hown
        go_wp2
        go_roundw
        case rel =>
          refine ⟨r.extract p r.size, fs ++ [(nm, v)], rfl, by rw [ext_size _ _ _ (Nat.le_refl _)]; omega, by rw [ext_tail]; exact HE2.out, ?_, by simp; omega, HF6.out, HB6.out⟩
          rw [ext_tail]
          exact runE_snoc HRUN.out HCH.out HFF.out
        case measure => simp [ext_size r p r.size (Nat.le_refl _)]; omega
end Go.Proofs.YtbanjkkbobedhaaDoor.ml

namespace Go.Proofs.YtbanjkkbobedhaaDoor.b2
open Go.RowKit
set_option linter.unusedVariables false

def Box (w : World) (g : Nat) (t : TypeId) (a b : Value) : Prop := w.heap[g]? = some (.cells #[a, b] t (0, 0))
section
variable {w w' : World} {g : Nat} {t : TypeId} {a b a' b' : Value}
theorem new (w : World) (t : TypeId) (a b : Value) : Box (w.alloc (.cells #[a, b] t)) w.heap.size t a b := by
  show (w.heap.push (.cells #[a, b] t))[w.heap.size]? = _
  simp
theorem Box.c0 (h : Box w g t a b) : w.cell? ⟨g, 0, none⟩ = some a := by rw [cell_of_row _ _ 0 _ _ _ h]; rfl
theorem Box.c1 (h : Box w g t a b) : w.cell? ⟨g, 1, none⟩ = some b := by rw [cell_of_row _ _ 1 _ _ _ h]; rfl
theorem Box.c1' (h : Box w g t a b) : w.cell? ⟨g, 0 + 1, none⟩ = some b := by rw [cell_of_row _ _ _ _ _ _ h]; rfl
theorem Box.f (h : Box w g t a b) (j : Nat) : w.frozen? ⟨g, j, none⟩ = false := frozen_of_row _ _ _ _ _ h
theorem Box.lt (h : Box w g t a b) : g < w.heap.size := (Array.getElem?_eq_some_iff.1 h).1
theorem Box.below (h : Box w g t a b) (hb : Below w.heap.size w w') : Box w' g t a b := (hb.block g h.lt).trans h
theorem Box.keep {B : Nat} (h : Box w g t a b) (hB : g < B) (hb : Below B w w') : Box w' g t a b := (hb.block g hB).trans h
theorem Box.put0 (h : Box w g t a b) (u : Value) : Box (w.setCell ⟨g, 0, none⟩ u) g t u b := heap_setCell_same _ g 0 _ _ _ h
theorem Box.put1 (h : Box w g t a b) (u : Value) : Box (w.setCell ⟨g, 1, none⟩ u) g t a u := heap_setCell_same _ g 1 _ _ _ h
/-- Both cells are written. -/
def put (w : World) (g : Nat) (a b : Value) : World := (w.setCell ⟨g, 0, none⟩ a).setCell ⟨g, 1, none⟩ b
theorem Box.put (h : Box w g t a b) : Box (put w g a' b') g t a' b' := (h.put0 a').put1 b'
theorem put_below {B : Nat} {w0 : World} (k : Below B w0 w) (hb : B ≤ g) : Below B w0 (put w g a b) := (k.setCell (p := ⟨g, 0, none⟩) hb _).setCell (p := ⟨g, 1, none⟩) hb _
theorem put_size : (put w g a b).heap.size = w.heap.size := by unfold put; simp
/-- A row of another element type stays where the box is written. -/
theorem own_put {base e size n : Nat} {v : Value} {xs : List Value} (h : Box w g t a b) (hne : e ≠ t) (ho : w.ownsRow base e size v n xs) : (put w g a' b').ownsRow base e size v n xs := by
  obtain ⟨h1, h2⟩ := ho
  refine ⟨h1, ?_⟩
  rcases h2 with h2 | ⟨k, cap, cur, rfl, hk, hc, hd⟩
  · exact .inl h2
  · have hkg : k ≠ g := by
      intro ee
      subst ee
      rw [h] at hc
      cases hc
      exact hne rfl
    refine .inr ⟨k, cap, cur, rfl, hk, ?_, hd⟩
    unfold put
    rw [heap_setCell_other _ _ _ _ hkg, heap_setCell_other _ _ _ _ hkg]
    exact hc
end
end Go.Proofs.YtbanjkkbobedhaaDoor.b2
