/-
  Plain facts on rows that a call owns: beside an iterator over a string, behind an append, and turned into a text.
  A view, a list of uids: what makes it right; the program's test of it and the specification's.
  Contracts of the laws' own helpers over lists of numbers: whether two lists are alike, marking a list, asking for the marks, and copying one.
  The contract of the laws' helper that copies a list of numbers: a new list of the same numbers.
-/
import Derived.WalkKit
import Derived.WalkLawsBesides
import Derived.Lib.OthersKept
import Derived.Laws.Cover4
import Derived.Laws.IdiomStrings
import Derived.Laws.BytesArg
import Derived.Lib.AppendStr
import Derived.Test.YtncnbhekgkemfaaGreatDoorRows
import Derived.Below
import Derived.Deep.QuietTactic
import Derived.BigQuiet
import Derived.Deep.DeepCutAuto

namespace Go.Proofs.YtncnbhekgkemfaaGreatDoor.ow
open Go.RowKit
set_option linter.unusedVariables false

theorem dt {p : Prop} {d : Decidable p} (h : p) : @decide p d = true := decide_eq_true h
theorem df {p : Prop} {d : Decidable p} (h : ¬ p) : @decide p d = false := decide_eq_false h
theorem dof {p : Prop} {d : Decidable p} (h : @decide p d = true) : p := of_decide_eq_true h
theorem dnof {p : Prop} {d : Decidable p} (h : @decide p d = false) : ¬ p := of_decide_eq_false h
/-- Two texts are one, or not. -/
def decB (a b : ByteArray) : Decidable (a = b) := decidable_of_iff (a.data = b.data) ⟨fun h => ByteArray.ext h, fun h => by rw [h]⟩
/-- A call that answers whether something holds. -/
def Says (p : Prop) (e : Ending) : Prop := ∃ b : Bool, e = .returned (.bool b) ∧ (b = true ↔ p)
theorem says_no {p : Prop} (h : ¬ p) : Says p (.returned (.bool false)) := ⟨false, rfl, fun x => (by cases x), fun x => absurd x h⟩
theorem says_yes {p : Prop} (h : p) : Says p (.returned (.bool true)) := ⟨true, rfl, fun _ => h, fun _ => rfl⟩
theorem says_true {p : Prop} {e : Ending} (h : Says p e) (hp : p) : e = .returned (.bool true) := by
  obtain ⟨b, rfl, hb⟩ := h
  rw [hb.2 hp]
theorem says_false {p : Prop} {e : Ending} (h : Says p e) (hp : ¬ p) : e = .returned (.bool false) := by
  obtain ⟨b, rfl, hb⟩ := h
  cases b
  · rfl
  · exact absurd (hb.1 rfl) hp

section
variable {w w' W : World} {base e size n k p : Nat} {v : Value} {xs : List Value} {s : ByteArray}

theorem own_iter (h : w.ownsRow base e size v n xs) (hk : w.heap[k]? = some (.stringIter s p)) (q : Nat) : (w.iterAt k s q).ownsRow base e size v n xs := by
  obtain ⟨h1, h2⟩ := h
  refine ⟨h1, ?_⟩
  rcases h2 with h2 | ⟨g, cap, cur, a, b, c, d⟩
  · exact .inl h2
  · have hne : g ≠ k := by
      intro e
      subst e
      rw [hk] at c
      cases c
    exact .inr ⟨g, cap, cur, a, b, by rw [Lib.iterAt_other _ _ _ _ _ hne]; exact c, d⟩
theorem own_not_iter (h : w.ownsRow base e size v n xs) (hk : w.heap[k]? = some (.stringIter s p)) : some k ≠ v.ownBlock := by
  rcases h.2 with ⟨rfl, _⟩ | ⟨g, cap, cur, rfl, _, c, _⟩
  · exact fun x => by cases x
  · intro x
    have : k = g := by simpa [Value.ownBlock] using x
    subst this
    rw [hk] at c
    cases c
theorem own_lt (h : w.ownsRow base e size v n xs) : ∀ j, v.ownBlock = some j → base ≤ j := by
  intro j hj
  rcases h.2 with ⟨rfl, _⟩ | ⟨g, cap, cur, rfl, b, c, _⟩
  · cases hj
  · have : g = j := by simpa [Value.ownBlock] using hj
    omega
theorem own_base {base' : Nat} (h : w.ownsRow base e size v n xs) (hb : base' ≤ base) : w.ownsRow base' e size v n xs := by
  obtain ⟨h1, h2⟩ := h
  refine ⟨h1, ?_⟩
  rcases h2 with h2 | ⟨g, cap, cur, a, b, c⟩
  · exact .inl h2
  · exact .inr ⟨g, cap, cur, a, Nat.le_trans hb b, c⟩
/-- What a call owns stays as it is behind whatever turns nothing that was there. -/
theorem own_below (h : w.ownsRow base e size v n xs) (hb : Below w.heap.size w w') : w'.ownsRow base e size v n xs := by
  obtain ⟨h1, h2⟩ := h
  refine ⟨h1, ?_⟩
  rcases h2 with h2 | ⟨g, cap, cur, a, b, c, d⟩
  · exact .inl h2
  · have hlt : g < w.heap.size := (Array.getElem?_eq_some_iff.1 c).1
    exact .inr ⟨g, cap, cur, a, b, (hb.block g hlt).trans c, d⟩
/-- Two rows of which the second was made behind the first lie apart. -/
theorem apart {w2 : World} {e2 size2 n2 : Nat} {v2 : Value} {xs2 : List Value} (h : w.ownsRow base e size v n xs) (h2 : w2.ownsRow w.heap.size e2 size2 v2 n2 xs2) : v.ownBlock = none ∨ v.ownBlock ≠ v2.ownBlock := by
  rcases h.2 with ⟨rfl, _⟩ | ⟨g, cap, cur, rfl, b, c, d⟩
  · exact .inl rfl
  · right
    intro e
    have hlt : g < w.heap.size := (Array.getElem?_eq_some_iff.1 c).1
    have := own_lt h2 g e.symm
    omega
/-- Behind an append onto an owned row, of what was laid in a new block: an iterator stands as it stood, and what was below the call's own blocks too. -/
theorem after (h : w.ownsRow base e size v n xs) (hk : w.heap[k]? = some (.stringIter s p)) (hb : Below base W w) (hB : base ≤ w.heap.size) (o : Obj) (hg : (w.alloc o).grownBy w' v.ownBlock) :
    w'.heap[k]? = some (.stringIter s p) ∧ Below base W w' := by
  have hlt : k < w.heap.size := (Array.getElem?_eq_some_iff.1 hk).1
  refine ⟨?_, Below.grown (hb.alloc hB _) hg (by simp; omega) (own_lt h)⟩
  rw [hg.block k (by simp; omega) (own_not_iter h hk), Below.heap_alloc _ _ _ hlt]
  exact hk
theorem own_empty (w : World) (t : TypeId) : (w.alloc (.cells #[] t)).ownsRow w.heap.size t 1 (.slice (some ⟨w.heap.size, 0, none⟩) 0 0) 0 [] := by
  have h1 : (w.alloc (.cells #[] t)).heap[w.heap.size]? = some (.cells #[] t) := by
    show (w.heap.push (.cells #[] t))[w.heap.size]? = _
    simp
  exact ⟨rfl, .inr ⟨_, 0, #[], rfl, Nat.le_refl _, h1, Nat.le_refl _, Nat.zero_le _, rfl, rfl⟩⟩
/-- The cells of a block that has just been laid. -/
theorem cells_new (w : World) (c : List Value) (t : TypeId) : ∀ j u, c[j]? = some u → (w.alloc (.cells c.toArray t)).cell? ((⟨w.heap.size, 0, none⟩ : Addr).add j) = some u := by
  intro j u hj
  have h1 : (w.alloc (.cells c.toArray t)).heap[w.heap.size]? = some (.cells c.toArray t) := by
    show (w.heap.push (.cells c.toArray t))[w.heap.size]? = _
    simp
  rw [show ((⟨w.heap.size, 0, none⟩ : Addr).add j) = ⟨w.heap.size, j, none⟩ from by simp [Addr.add]; omega]
  rw [cell_of_row _ _ j _ t _ h1]
  simpa using hj
theorem add_at (g j : Nat) : (⟨g, 0, none⟩ : Addr).add j = ⟨g, j, none⟩ := by simp [Addr.add]; omega
theorem cell_new (w : World) (c : List Value) (t : TypeId) (j : Nat) (u : Value) (h : c[j]? = some u) : (w.alloc (.cells c.toArray t)).cell? ⟨w.heap.size, j, none⟩ = some u := by
  rw [← add_at]
  exact cells_new w c t j u h
end

section
variable {P : Program} {w : World} {base n : Nat} {src dst e : TypeId} {v : Value}
theorem conv_bytes (l : List UInt8) (h : w.ownsRow base e 1 v n (l.map fun b => Value.int .u8 (b.toNat : Int)))
    (hs : P.underlying src = some (.slice e)) (he : P.underlying e = some (.int .u8)) (hd : P.underlying dst = some .string) :
    (convert src dst v).run P w = .ok (.string ⟨l.toArray⟩) w := by
  have hl : l.length = n := by have := h.1; simpa using this
  rcases h.2 with ⟨rfl, h0⟩ | ⟨g, cap, cur, rfl, _⟩
  · have : l = [] := List.eq_nil_of_length_eq_zero (by omega)
    subst this
    rw [run_convert_bytes_string w src dst e _ _ _ hs he hd]
    rfl
  · subst hl
    refine run_convert_bytes_back w src dst e ⟨g, 0, none⟩ cap l hs he hd (fun j hj => ?_)
    rw [show ((⟨g, 0, none⟩ : Addr).add j) = ⟨g, j, none⟩ from by simp [Addr.add]; omega, h.cellAt j (by omega)]
    simp [hj]
theorem slice_str (t : TypeId) (s : ByteArray) (k k' : IntKind) (p q : Nat) (h : P.underlying t = some .string) (i j : Int) (hi : i = p) (hj : j = q) (h1 : p ≤ q) (h2 : q ≤ s.size) (wx : World) :
    (Instr.slice t (.string s) (some (.int k i)) (some (.int k' j)) none).run P wx = .ok (.string (s.extract p q)) wx := by
  subst hi hj
  rw [run_slice_string (P := P) (w := wx) t s k k' _ _ h (by omega) (by omega) (by omega)]
  rfl
theorem conv_runes (zs : List Int) (h : w.ownsRow base e 1 v n (zs.map (Value.int .i32)))
    (hs : P.underlying src = some (.slice e)) (he : P.underlying e = some (.int .i32)) (hd : P.underlying dst = some .string) :
    (convert src dst v).run P w = .ok (.string (runesBytes zs)) w := by
  have hl : zs.length = n := by have := h.1; simpa using this
  rcases h.2 with ⟨rfl, h0⟩ | ⟨g, cap, cur, rfl, _⟩
  · have : zs = [] := List.eq_nil_of_length_eq_zero (by omega)
    subst this
    exact run_convert_runes_nil w src dst e 0 0 hs he hd
  · subst hl
    have := run_convert_runes (P := P) w src dst e ⟨g, 0, none⟩ zs.length cap zs (Nat.le_refl _) hs he hd (fun j hj => by
      rw [show ((⟨g, 0, none⟩ : Addr).add j) = ⟨g, j, none⟩ from by simp [Addr.add]; omega, h.cellAt j (by omega)]
      simp [hj])
    rw [List.take_length] at this
    exact this
end
/-- A slice value whose elements are these numbers. -/
def Reads (k : IntKind) (w : World) (v : Value) (zs : List Int) : Prop :=
  ∃ (a : Option Addr) (cap : Nat), v = .slice a zs.length cap ∧ (zs = [] ∨ ∃ b off, a = some ⟨b, off, none⟩ ∧ ∀ j, j < zs.length → w.cell? ⟨b, off + j, none⟩ = some (.int k (zs.getD j 0)))

theorem reads_own {k : IntKind} {w : World} {base e n : Nat} {v : Value} {zs : List Int} (h : w.ownsRow base e 1 v n (zs.map (Value.int k))) : Reads k w v zs := by
  have hl : zs.length = n := by have := h.1; simpa using this
  rcases h.2 with ⟨rfl, h0⟩ | ⟨g, cap, cur, rfl, _⟩
  · have : zs = [] := List.eq_nil_of_length_eq_zero (by omega)
    subst this
    exact ⟨none, 0, rfl, .inl rfl⟩
  · subst hl
    refine ⟨_, cap, rfl, .inr ⟨g, 0, rfl, fun j hj => ?_⟩⟩
    rw [Nat.zero_add, h.cellAt j (by omega)]
    simp [hj]
theorem reads_keep {k : IntKind} {w w' : World} {v : Value} {zs : List Int} (h : Reads k w v zs) (hc : ∀ a u, w.cell? a = some u → w'.cell? a = some u) : Reads k w' v zs := by
  obtain ⟨a, cap, rfl, h⟩ := h
  refine ⟨a, cap, rfl, ?_⟩
  rcases h with h | ⟨b, off, rfl, h⟩
  · exact .inl h
  · exact .inr ⟨b, off, rfl, fun j hj => hc _ _ (h j hj)⟩

theorem getD_ext {zs ys : List Int} (hl : zs.length = ys.length) (h : ∀ j, j < zs.length → zs.getD j 0 = ys.getD j 0) : zs = ys := by
  refine List.ext_getElem hl (fun j h1 h2 => ?_)
  have := h j h1
  rw [List.getD_eq_getElem?_getD, List.getD_eq_getElem?_getD, List.getElem?_eq_getElem h1, List.getElem?_eq_getElem h2] at this
  simpa using this

theorem grown_trans {a b c : World} {row : Option Nat} (h : a.grownBy b row) (k : b.grownBy c row) : a.grownBy c row :=
  ⟨k.os.trans h.os, k.tape.trans h.tape, k.output.trans h.output, Nat.le_trans h.size k.size, fun i hi hr => (k.block i (Nat.lt_of_lt_of_le hi h.size) hr).trans (h.block i hi hr)⟩
theorem grown_refl (a : World) (row : Option Nat) : a.grownBy a row := ⟨rfl, rfl, rfl, Nat.le_refl _, fun _ _ _ => rfl⟩

/-- Behind a growth by steps of block b's, an append onto a row of the call's own leaves all but block b as it was. -/
theorem grown_new {w w1 w2 : World} {b base e size n : Nat} {v : Value} {xs : List Value} (h : w.grownBy w1 (some b)) (hown : w1.ownsRow base e size v n xs) (hb : w.heap.size ≤ base) (o : Obj) (hg : (w1.alloc o).grownBy w2 v.ownBlock) : w.grownBy w2 (some b) := by
  refine ⟨hg.os.trans h.os, hg.tape.trans h.tape, hg.output.trans h.output, Nat.le_trans h.size (Nat.le_trans (by simp) hg.size), fun k hk hr => ?_⟩
  have hk1 : k < w1.heap.size := Nat.lt_of_lt_of_le hk h.size
  rw [hg.block k (by simp; omega) (fun x => by have := own_lt hown k x.symm; omega), Below.heap_alloc _ _ _ hk1]
  exact h.block k hk hr
theorem grown_alloc {w w1 : World} {row : Option Nat} (h : w.grownBy w1 row) (o : Obj) : w.grownBy (w1.alloc o) row :=
  ⟨h.os, h.tape, h.output, Nat.le_trans h.size (by simp), fun k hk hr => by rw [Below.heap_alloc _ _ _ (Nat.lt_of_lt_of_le hk h.size)]; exact h.block k hk hr⟩
theorem grown_drewN {w w1 : World} {row : Option Nat} (h : w.grownBy w1 row) (n : Nat) : w.grownBy (w1.drewN n) row := ⟨h.os, h.tape, h.output, h.size, h.block⟩
theorem grown_below {w w1 : World} {row : Option Nat} (h : Below w.heap.size w w1) : w.grownBy w1 row := ⟨h.os, h.tape, h.output, h.size, fun k hk _ => h.block k hk⟩
end Go.Proofs.YtncnbhekgkemfaaGreatDoor.ow

namespace Go.Proofs.YtncnbhekgkemfaaGreatDoor.vi
open Go.RowKit
open ow (Reads Says says_yes says_no)
set_option linter.unusedVariables false

/-- The number ahead of place k; 0 ahead of the first. -/
def prev (zs : List Int) : Nat → Int
  | 0 => 0
  | k + 1 => zs.getD k 0
/-- The first k numbers rise, from 1 to 1000. -/
def Up (zs : List Int) (k : Nat) : Prop := ∀ j, j < k → prev zs j < zs.getD j 0 ∧ zs.getD j 0 ≤ 1000
def IsV (zs : List Int) : Prop := Up zs zs.length
theorem up_step {zs : List Int} {k : Nat} (h : Up zs k) (h1 : prev zs k < zs.getD k 0) (h2 : zs.getD k 0 ≤ 1000) : Up zs (k + 1) := by
  intro j hj
  by_cases e : j = k
  · subst e; exact ⟨h1, h2⟩
  · exact h j (by omega)
theorem up_pos {zs : List Int} : ∀ {k : Nat}, Up zs k → (k : Int) ≤ prev zs k
  | 0, _ => Int.le_refl _
  | k + 1, h => by
    have h1 := up_pos (k := k) (fun j hj => h j (by omega))
    have h2 := (h k (by omega)).1
    show ((k + 1 : Nat) : Int) ≤ zs.getD k 0
    omega
theorem up_len {zs : List Int} {k : Nat} (h : Up zs k) : k ≤ 1000 := by
  cases k with
  | zero => omega
  | succ k =>
    have h1 := up_pos h
    have h2 := (h k (by omega)).2
    have : prev zs (k + 1) = zs.getD k 0 := rfl
    omega

def dUp (zs : List Int) (k : Nat) : Decidable (Up zs k) := inferInstanceAs (Decidable (∀ j, j < k → prev zs j < zs.getD j 0 ∧ zs.getD j 0 ≤ 1000))
/-- A view is right. -/
def upB (zs : List Int) : Bool := @decide (IsV zs) (dUp zs zs.length)
theorem upB_iff (zs : List Int) : upB zs = true ↔ IsV zs := @decide_eq_true_iff _ (dUp zs zs.length)
set_option maxHeartbeats 1000000 in
set_option maxRecDepth 100000 in
theorem impl_view (v : Value) (zs : List Int) (w : World) (h : Reads .i64 w v zs) (hn : zs.length ≤ 1048576) :
    Calls Tryz.prog 60 #[v] w fun e w' => Says (IsV zs) e ∧ w' = w := by
  obtain ⟨a, cap, rfl, h⟩ := h
  obtain ⟨n, hn'⟩ : ∃ n, n = zs.length := ⟨_, rfl⟩
  have HN : Hid (n = zs.length) := hn'
  have HH : Hid (zs = [] ∨ ∃ b off, a = some ⟨b, off, none⟩ ∧ ∀ j, j < zs.length → w.cell? ⟨b, off + j, none⟩ = some (.int .i64 (zs.getD j 0))) := h
  rw [← hn'] at hn ⊢
  clear h hn'
  go_enter Tryz.func60, Tryz.ntmps60
  go_wp2
  go_loop [3, 8] (fun l i => ∃ k : Nat, k ≤ n ∧ i = .int .i64 k ∧ l = .int .i64 (prev zs k) ∧ Up zs k) (fun _ i => n - (intOf i).toNat)
  case atStart => exact ⟨0, Nat.zero_le _, rfl, rfl, fun j hj => absurd hj (Nat.not_lt_zero _)⟩
  case round =>
    obtain ⟨k, hk, rfl, rfl, hup⟩ := hrel
    have HU : Hid (Up zs k) := hup
    clear hup
    by_cases hlt : k < n
    · have hka : k < zs.length := by rw [← HN.out]; exact hlt
      rcases HH.out with e | ⟨b, off, rfl, hcells⟩
      · rw [e] at hka; simp at hka
      have c0 := hcells k hka
      have HKA : Hid (k < zs.length) := hka
      clear hcells hka
      generalize hp : prev zs k = p
      have HP : Hid (prev zs k = p) := hp
      generalize hx : zs.getD k 0 = x at c0
      have HX : Hid (zs.getD k 0 = x) := hx
      clear hp hx
      have hlt' : (k : Int) < (n : Int) := by omega
      by_cases h1 : x ≤ p
      · go_wp2
        go_ret
        exact ⟨says_no (fun y => by have := (y k HKA.out).1; rw [HP.out, HX.out] at this; omega), rfl⟩
      by_cases h2 : 1000 < x
      · go_wp2
        go_ret
        exact ⟨says_no (fun y => by have := (y k HKA.out).2; rw [HX.out] at this; omega), rfl⟩
      go_wp2
      go_round
      case rel => exact ⟨k + 1, by omega, by go_num, by rw [show prev zs (k + 1) = zs.getD k 0 from rfl, HX.out], up_step HU.out (by rw [HP.out, HX.out]; omega) (by rw [HX.out]; omega)⟩
      case measure => simp [intOf]; omega
    · go_wp2
      go_ret
      exact ⟨says_yes (by have : k = zs.length := by { have := HN.out; omega }; unfold IsV; rw [← this]; exact HU.out), rfl⟩

theorem in_any (n a b : Int) (w : World) : Calls Tryz.prog 48 #[.int .i64 n, .int .i64 a, .int .i64 b] w fun e w' => e = .returned (.bool (decide (a ≤ n ∧ n ≤ b))) ∧ w' = w := by
  by_cases h0 : a ≤ n
  · by_cases h1 : n ≤ b
    · rw [decide_eq_true ⟨h0, h1⟩]
      go_enter Tryz.func48, Tryz.ntmps48
      go_wp2
      go_ret
      exact ⟨rfl, rfl⟩
    · rw [decide_eq_false (by omega)]
      go_enter Tryz.func48, Tryz.ntmps48
      go_wp2
      go_ret
      exact ⟨rfl, rfl⟩
  · rw [decide_eq_false (by omega)]
    go_enter Tryz.func48, Tryz.ntmps48
    go_wp2
    go_ret
    exact ⟨rfl, rfl⟩

set_option maxHeartbeats 2000000 in
set_option maxRecDepth 100000 in
theorem spec_view (v : Value) (zs : List Int) (w : World) (h : Reads .i64 w v zs) (hn : zs.length ≤ 1048576) :
    Calls Tryz.prog 54 #[v] w fun e w' => Says (IsV zs) e ∧ ∃ q, w' = w.drewN q := by
  have HI : Hid (∀ (n a b : Int) (w : World), Calls Tryz.prog 48 #[.int .i64 n, .int .i64 a, .int .i64 b] w fun e w' => e = .returned (.bool (decide (a ≤ n ∧ n ≤ b))) ∧ w' = w) := in_any
  obtain ⟨a, cap, rfl, h⟩ := h
  obtain ⟨n, hn'⟩ : ∃ n, n = zs.length := ⟨_, rfl⟩
  have HN : Hid (n = zs.length) := hn'
  have HH : Hid (zs = [] ∨ ∃ b off, a = some ⟨b, off, none⟩ ∧ ∀ j, j < zs.length → w.cell? ⟨b, off + j, none⟩ = some (.int .i64 (zs.getD j 0))) := h
  rw [← hn'] at hn ⊢
  clear h hn'
  by_cases hbig : 4096 < n
  · go_enter Tryz.func54, Tryz.ntmps54
    go_wp2
    go_ret
    exact ⟨says_no (fun y => by have := up_len y; have := HN.out; omega), 0, rfl⟩
  go_enter Tryz.func54, Tryz.ntmps54
  go_wp2
  go_loopw [3] (fun i wr => ∃ k q : Nat, k ≤ n ∧ i = .int .i64 k ∧ Up zs k ∧ wr = w.drewN q) (fun i _ => n - (intOf i).toNat)
  case atStart => exact ⟨0, 0, Nat.zero_le _, rfl, fun j hj => absurd hj (Nat.not_lt_zero _), rfl⟩
  case round =>
    obtain ⟨k, q, hk, rfl, hup, rfl⟩ := hrel
    have HU : Hid (Up zs k) := hup
    clear hup
    by_cases hlt : k < n
    · have hka : k < zs.length := by rw [← HN.out]; exact hlt
      rcases HH.out with e | ⟨b, off, rfl, hcells⟩
      · rw [e] at hka; simp at hka
      have c0 : (w.drewN q).cell? ⟨b, off + k, none⟩ = some (.int .i64 (zs.getD k 0)) := by rw [World.cell?_drewN]; exact hcells k hka
      have HC : Hid (∀ j, j < zs.length → (w.drewN q).cell? ⟨b, off + j, none⟩ = some (.int .i64 (zs.getD j 0))) := fun j hj => by rw [World.cell?_drewN]; exact hcells j hj
      have HKA : Hid (k < zs.length) := hka
      clear hcells hka
      generalize hx : zs.getD k 0 = x at c0
      have HX : Hid (zs.getD k 0 = x) := hx
      clear hx
      have hlt' : (k : Int) < (n : Int) := by omega
      have hk0 : (0 : Int) ≤ (k : Int) := by omega
      have HQ : Hid (0 ≤ prev zs k) := (show 0 ≤ prev zs k from by have := up_pos HU.out; omega)
      go_wp2_with fail
      generalize hW : w.drewN q = W1 at c0 HC ⊢
      obtain ⟨bad, hbad⟩ : ∃ bad : Bool, (bad = true ↔ ¬ (prev zs k < x ∧ x ≤ 1000)) := ⟨decide (¬ (prev zs k < x ∧ x ≤ 1000)), decide_eq_true_iff⟩
      have HB : Hid (bad = true ↔ ¬ (prev zs k < x ∧ x ≤ 1000)) := hbad
      have HW : Hid (W1 = w.drewN q) := hW.symm
      clear hbad hW
      go_cut [34] (fun t wx => t = .bool bad ∧ ∃ q, wx = W1.drewN q)
      case first =>
        by_cases r1 : ¬ (1 ≤ x ∧ x ≤ 1000)
        · have e1 : decide (1 ≤ x ∧ x ≤ 1000) = false := decide_eq_false r1
          have HBD : Hid (bad = true) := HB.out.2 (fun y => by have := HQ.out; omega)
          clear r1
          go_quiet ((go_at_call 48; exact Calls.quiet_of_same (HI.out _ _ _ _)))
          go_wp2_with fail
          go_meet
          exact ⟨by rw [HBD.out], _, rfl⟩
        have r1 : 1 ≤ x ∧ x ≤ 1000 := Decidable.of_not_not r1
        have e1 : decide (1 ≤ x ∧ x ≤ 1000) = true := decide_eq_true r1
        by_cases hk1 : k = 0
        · have HBD : Hid (bad = false) := Bool.eq_false_iff.2 fun y => HB.out.1 y ⟨by rw [hk1]; show (0 : Int) < x; omega, r1.2⟩
          subst hk1
          have c0z : W1.cell? ⟨b, off, none⟩ = some (.int .i64 x) := c0
          clear c0
          have hkz : decide ((0 : Int) < ((0 : Nat) : Int)) = false := rfl
          go_quiet ((go_at_call 48; exact Calls.quiet_of_same (HI.out _ _ _ _)))
          go_wp2_with fail
          go_meet
          exact ⟨by rw [HBD.out], _, rfl⟩
        obtain ⟨j, rfl⟩ : ∃ j, k = j + 1 := ⟨k - 1, by omega⟩
        have g0 := HC.out j (by have := HKA.out; omega)
        have hl1 : prev zs (j + 1) = zs.getD j 0 := rfl
        generalize hy : zs.getD j 0 = pu at g0 hl1
        have HL1 : Hid (prev zs (j + 1) = pu) := hl1
        clear hl1 hy
        have hjn : (j : Int) < (n : Int) := by omega
        have hj0 : (0 : Int) ≤ (j : Int) := by omega
        have hkz : (0 : Int) < ((j + 1 : Nat) : Int) := by omega
        have hkz2 : decide ((0 : Int) < (j : Int) + 1) = true := decide_eq_true (by omega)
        have hjj2 : (j : Int) + 1 - 1 = (j : Int) := by omega
        have hjj : ((j + 1 : Nat) : Int) - 1 = (j : Int) := by omega
        by_cases r2 : x ≤ pu
        · have HBD : Hid (bad = true) := HB.out.2 (fun y => by have h1 := y.1; rw [HL1.out] at h1; omega)
          go_quiet ((go_at_call 48; exact Calls.quiet_of_same (HI.out _ _ _ _)))
          go_wp2_with fail
          go_meet
          exact ⟨by rw [HBD.out], _, rfl⟩
        have r2' : decide (x ≤ pu) = false := decide_eq_false r2
        have HBD : Hid (bad = false) := Bool.eq_false_iff.2 fun y => HB.out.1 y ⟨by rw [HL1.out]; omega, r1.2⟩
        go_quiet ((go_at_call 48; exact Calls.quiet_of_same (HI.out _ _ _ _)))
        go_wp2_with fail
        go_meet
        exact ⟨by rw [HBD.out], _, rfl⟩
      case rest =>
        obtain ⟨rfl, q2, rfl⟩ := hcut
        cases bad
        · go_wp2
          go_roundw
          case rel => exact ⟨k + 1, q + q2, by omega, by go_num, up_step HU.out (by have := mt HB.out.2 (by simp); rw [HX.out]; omega) (by have := mt HB.out.2 (by simp); rw [HX.out]; omega), by rw [HW.out]; simp⟩
          case measure => simp [intOf]; omega
        · go_wp2
          go_ret
          exact ⟨says_no (fun y => by have h1 := y k HKA.out; rw [HX.out] at h1; exact HB.out.1 (by trivial) h1), q + q2, by rw [HW.out]; simp⟩
    · go_wp2
      go_ret
      exact ⟨says_yes (by have : k = zs.length := by { have := HN.out; omega }; unfold IsV; rw [← this]; exact HU.out), q, rfl⟩
end Go.Proofs.YtncnbhekgkemfaaGreatDoor.vi

namespace Go.Proofs.YtncnbhekgkemfaaGreatDoor.ow
open Go.RowKit
set_option linter.unusedVariables false

set_option maxHeartbeats 1000000 in
set_option maxRecDepth 100000 in
theorem eqInts_any (v u : Value) (zs ys : List Int) (w : World) (h1 : Reads .i64 w v zs) (h2 : Reads .i64 w u ys) (hz : zs.length ≤ 1048576) (hy : ys.length ≤ 1048576) :
    Calls Tryz.prog 104 #[v, u] w fun e w' => Says (zs = ys) e ∧ ∃ m, w' = w.drewN m := by
  obtain ⟨a, cap, rfl, h1⟩ := h1
  obtain ⟨c, cap2, rfl, h2⟩ := h2
  by_cases hne : zs.length = ys.length
  case neg =>
    have hb : ((zs.length : Int) != (ys.length : Int)) = true := by rw [bne_iff_ne]; omega
    go_enter Tryz.func104, Tryz.ntmps104
    go_wp2
    go_ret
    exact ⟨says_no (fun x => hne (congrArg List.length x)), 0, rfl⟩
  rw [← hne]
  have HNE : Hid (zs.length = ys.length) := hne
  clear hne hy
  by_cases h0 : zs = []
  · have hy0 : ys = [] := List.eq_nil_of_length_eq_zero (by rw [← HNE.out, h0]; rfl)
    have hl0 : zs.length = 0 := by rw [h0]; rfl
    rw [hl0]
    clear h1 h2
    go_enter Tryz.func104, Tryz.ntmps104
    go_wp2
    refine wp_loop_rounds 1 ?_
    rw [rounds_succ]
    go_wp2
    go_ret
    exact ⟨says_yes (by rw [h0, hy0]), 0, rfl⟩
  rcases h1 with h1 | ⟨b1, o1, rfl, h1⟩
  · exact absurd h1 h0
  rcases h2 with h2 | ⟨b2, o2, rfl, h2⟩
  · exact absurd (List.eq_nil_of_length_eq_zero (by rw [HNE.out, h2]; rfl)) h0
  rw [← HNE.out] at h2
  have H1 : Hid (∀ j, j < zs.length → w.cell? ⟨b1, o1 + j, none⟩ = some (.int .i64 (zs.getD j 0))) := h1
  have H2 : Hid (∀ j, j < zs.length → w.cell? ⟨b2, o2 + j, none⟩ = some (.int .i64 (ys.getD j 0))) := h2
  clear h1 h2
  obtain ⟨n, hn⟩ : ∃ n, n = zs.length := ⟨_, rfl⟩
  rw [← hn] at hz H1 H2 HNE ⊢
  have HN : Hid (n = zs.length) := hn
  clear hn h0
  have hnn : ((n : Int) != (n : Int)) = false := by simp
  go_enter Tryz.func104, Tryz.ntmps104
  go_wp2
  go_loopw [5] (fun i wr => ∃ k m : Nat, k ≤ n ∧ i = .int .i64 k ∧ wr = w.drewN m ∧ ∀ j, j < k → zs.getD j 0 = ys.getD j 0) (fun i _ => n - (intOf i).toNat)
  case atStart => exact ⟨0, 0, Nat.zero_le _, rfl, rfl, fun j hj => absurd hj (Nat.not_lt_zero _)⟩
  case round =>
    obtain ⟨k, m, hk, rfl, rfl, hg⟩ := hrel
    have HG : Hid (∀ j, j < k → zs.getD j 0 = ys.getD j 0) := hg
    clear hg
    by_cases hlt : k < n
    · have c1 := H1.out k hlt
      have c2 := H2.out k hlt
      have hlt' : (k : Int) < (n : Int) := by omega
      have hk0 : (0 : Int) ≤ (k : Int) := by omega
      obtain ⟨x, hx⟩ : ∃ x, x = zs.getD k 0 := ⟨_, rfl⟩
      obtain ⟨y, hy⟩ : ∃ y, y = ys.getD k 0 := ⟨_, rfl⟩
      rw [← hx] at c1
      rw [← hy] at c2
      have HX : Hid (x = zs.getD k 0) := hx
      have HY : Hid (y = ys.getD k 0) := hy
      clear hx hy
      go_wp2
      go_quiet (fail)
      go_wp2
      · go_ret
        have hxy : x ≠ y := bne_iff_ne.1 ‹_›
        exact ⟨says_no (fun e => hxy (by rw [HX.out, HY.out, e])), m + nq, by simp⟩
      · go_roundw
        have hxy : x = y := by rename_i h; simpa using h
        case rel => exact ⟨k + 1, _, by omega, by go_num, rfl, fun j hj => by
          by_cases e : j = k
          · rw [e, ← HX.out, ← HY.out, hxy]
          · exact HG.out j (by omega)⟩
        case measure => simp [intOf]; omega
    · go_wp2
      go_ret
      exact ⟨says_yes (getD_ext (by rw [← HN.out, HNE.out]) (fun j hj => HG.out j (by have := HN.out; omega))), m, rfl⟩

/-- The numbers of a list rise from k by one. -/
def Marks (k : Int) (ys : List Int) (n : Nat) : Prop := ∀ j, j < n → ys.getD j 0 = k + (j : Int)


end Go.Proofs.YtncnbhekgkemfaaGreatDoor.ow

namespace Go.Proofs.YtncnbhekgkemfaaGreatDoor.ow
open Go.RowKit
set_option linter.unusedVariables false

theorem Tryz.infoNum : (Tryz.prog.info? 3).map (fun i => (i.zero, i.size, i.bytes)) = some (some (.int .i64 0), 1, 8) := by kernel_rfl

theorem getD_set {ys : List Int} {k : Nat} {x : Int} (h : k < ys.length) (j : Nat) : (ys.set k x).getD j 0 = if j = k then x else ys.getD j 0 := by
  by_cases e : j = k
  · subst e
    simp [List.getD_eq_getElem?_getD, h]
  · rw [if_neg e, List.getD_eq_getElem?_getD, List.getD_eq_getElem?_getD, List.getElem?_set_ne (by omega)]

set_option maxHeartbeats 1000000 in
set_option maxRecDepth 100000 in
theorem toInts_any (v : Value) (zs : List Int) (w : World) (h : Reads .i64 w v zs) (hn : zs.length ≤ 1048576) :
    Calls Tryz.prog 87 #[v] w fun e w' => ∃ v', e = .returned v' ∧ w'.ownsRow w.heap.size 3 1 v' zs.length (zs.map (Value.int .i64)) ∧ Below w.heap.size w w' := by
  obtain ⟨a, cap, rfl, h⟩ := h
  obtain ⟨i0, hi, hz0, hz1, hz2⟩ := info_parts Tryz.infoNum
  have H1 : Hid (zs = [] ∨ ∃ b off, a = some ⟨b, off, none⟩ ∧ ∀ j, j < zs.length → w.cell? ⟨b, off + j, none⟩ = some (.int .i64 (zs.getD j 0))) := h
  clear h
  obtain ⟨n, hn'⟩ : ∃ n, n = zs.length := ⟨_, rfl⟩
  rw [← hn'] at hn ⊢
  have HN : Hid (n = zs.length) := hn'
  clear hn'
  go_enter Tryz.func87, Tryz.ntmps87
  go_wp2_with (at_make; refine wpList_make_full _ rfl _ _ 46 rfl w.heap.size 3 i0 (.int .i64 0) 1 Tryz.underlying46 hi hz0 hz1 _ _ _ _ n rfl rfl rfl rfl (by rw [hz2]; omega) (by unfold maxLen; omega) (Nat.le_refl _) ?_; intro w1 hown1 hg1)
  have hb1 : Below w.heap.size w w1 := (Below.refl _ _).grown hg1 (Nat.le_refl _) (fun k hk => by cases hk)
  have hrep : (madeCells (Value.cells (.int .i64 0)) (n * 1)).toList = (List.replicate n (0 : Int)).map (Value.int .i64) := by
    rw [Nat.mul_one, List.map_replicate]
    exact toList_madeCells_one _ _
  rw [hrep] at hown1
  clear hg1 hrep
  go_loopw [4] (fun i wr => ∃ (k : Nat) (ys : List Int), k ≤ n ∧ i = .int .i64 k ∧ ys.length = n ∧ (∀ j, j < k → ys.getD j 0 = zs.getD j 0) ∧ wr.ownsRow w.heap.size 3 1 (.slice (some ⟨w.heap.size, 0, none⟩) n n) n (ys.map (Value.int .i64)) ∧ Below w.heap.size w wr) (fun i _ => n - (intOf i).toNat)
  case atStart => exact ⟨0, List.replicate n 0, Nat.zero_le _, rfl, List.length_replicate, fun j hj => absurd hj (Nat.not_lt_zero _), hown1, hb1⟩
  case round =>
    clear hown1 hb1
    obtain ⟨k, ys, hk, rfl, hyl, hm, hown, hbw⟩ := hrel
    have HM : Hid (∀ j, j < k → ys.getD j 0 = zs.getD j 0) := hm
    have HL : Hid (ys.length = n) := hyl
    clear hm hyl
    by_cases hlt : k < n
    · have hzne : zs ≠ [] := by
        intro e
        have := HN.out
        rw [e] at this
        simp at this
        omega
      rcases H1.out with e | ⟨b, off, rfl, hcells⟩
      · exact absurd e hzne
      clear hzne
      have c0 := hcells k (by rw [← HN.out]; exact hlt)
      have hblt : b < w.heap.size := World.block_lt_of_cell? w _ c0
      have c1 : wr.cell? ⟨b, off + k, none⟩ = some (.int .i64 (zs.getD k 0)) := (hbw.cell (p := ⟨b, off + k, none⟩) hblt).trans c0
      clear hcells c0
      have hc := hown.cellAt k (by omega)
      have hyk : (ys.map (Value.int .i64))[k]? = some (.int .i64 (ys.getD k 0)) := by have := HL.out; simp [show k < ys.length from by omega]
      rw [hyk] at hc
      obtain ⟨x, hx⟩ : ∃ x, x = zs.getD k 0 := ⟨_, rfl⟩
      rw [← hx] at c1
      have HX : Hid (x = zs.getD k 0) := hx
      clear hx
      have hf := hown.frozenAt k
      have hst := hown.stored k (.int .i64 x)
      rw [← List.map_set] at hst
      have HS : Hid ((wr.setCell ⟨w.heap.size, k, none⟩ (.int .i64 x)).ownsRow w.heap.size 3 1 (.slice (some ⟨w.heap.size, 0, none⟩) n n) n ((ys.set k x).map (Value.int .i64)) ∧ Below w.heap.size w (wr.setCell ⟨w.heap.size, k, none⟩ (.int .i64 x))) := ⟨hst.1, hbw.setCell (Nat.le_refl _) _⟩
      clear hst hbw hown hyk
      have hlt' : (k : Int) < (n : Int) := by omega
      go_wp2
      go_roundw
      case rel => exact ⟨k + 1, ys.set k x, by omega, by go_num, by rw [List.length_set]; exact HL.out, fun j hj => by
          rw [getD_set (by rw [HL.out]; exact hlt)]
          by_cases e : j = k
          · rw [if_pos e, HX.out, e]
          · rw [if_neg e]; exact HM.out j (by omega), HS.out.1, HS.out.2⟩
      case measure => simp [intOf]; omega
    · have hyz : ys = zs := getD_ext (by rw [HL.out, HN.out]) (fun j hj => HM.out j (by have := HL.out; omega))
      subst hyz
      go_wp2
      go_ret
      exact ⟨_, rfl, hown, hbw⟩
end Go.Proofs.YtncnbhekgkemfaaGreatDoor.ow
