/-
  What a fetch tells of a mail: the items, and the text of each.
-/
import Derived.Test.YtejmfffapkmjoaaDoorPaf
import Derived.Test.YtejmfffapkmjoaaDoorFgt
import Derived.Test.YtejmfffapkmjoaaDoorUpp
import Derived.Test.YtejmfffapkmjoaaDoorKya
import Derived.Test.YtejmfffapkmjoaaDoorDig
namespace Go.Proofs.YtejmfffapkmjoaaDoor.fq
open Go.RowKit
open bl
open ky (nt)
set_option linter.unusedVariables false

abbrev B := List UInt8
/-- An item that a fetch may ask for: the flags, the uid, the size; a body's part by its number. -/
def It : Type := Option (Option (Option (Bool × Nat)))
def It.fl : It := (none : Option (Option (Option (Bool × Nat))))
def It.ui : It := (some none : Option (Option (Option (Bool × Nat))))
def It.sz : It := (some (some none) : Option (Option (Option (Bool × Nat))))
def It.bd (pk : Bool) (i : Nat) : It := (some (some (some (pk, i))) : Option (Option (Option (Bool × Nat))))
def It.arm {A : Type} (i : It) (a b c : A) (d : Bool → Nat → A) : A :=
  match (show Option (Option (Option (Bool × Nat))) from i) with
  | none => a
  | some none => b
  | some (some none) => c
  | some (some (some (pk, j))) => d pk j
theorem It.four (i : It) : i = .fl ∨ i = .ui ∨ i = .sz ∨ ∃ pk j, i = .bd pk j :=
  match (show Option (Option (Option (Bool × Nat))) from i) with
  | none => .inl rfl
  | some none => .inr (.inl rfl)
  | some (some none) => .inr (.inr (.inl rfl))
  | some (some (some (pk, j))) => .inr (.inr (.inr ⟨pk, j, rfl⟩))
def pt (i : Nat) : B := if i = 0 then [] else if i = 1 then ml.hdr else ml.txt
def kFl : B := [70, 76, 65, 71, 83]
def kUi : B := [85, 73, 68]
def kSz : B := [82, 70, 67, 56, 50, 50, 46, 83, 73, 90, 69]
def kBo : B := [66, 79, 68, 89]
def kPk : B := [66, 79, 68, 89, 46, 80, 69, 69, 75]
def hd (pk : Bool) : B := (if pk = true then kPk else kBo) ++ [91]
def bo (pk : Bool) (i : Nat) : B := hd pk ++ pt i ++ [93]
def itw (w : B) : Option It :=
  if w = kFl then some .fl else if w = kUi then some .ui else if w = kSz then some .sz
  else if w = bo false 0 then some (.bd false 0) else if w = bo false 1 then some (.bd false 1) else if w = bo false 2 then some (.bd false 2)
  else if w = bo true 0 then some (.bd true 0) else if w = bo true 1 then some (.bd true 1) else if w = bo true 2 then some (.bd true 2)
  else none
/-- A word that is no item. -/
def NoIt (w : B) : Prop := w ≠ kFl ∧ w ≠ kUi ∧ w ≠ kSz ∧ ∀ pk i, i < 3 → w ≠ bo pk i
theorem nine (w : B) : w = kFl ∨ w = kUi ∨ w = kSz ∨ (∃ pk i, i < 3 ∧ w = bo pk i) ∨ (NoIt w ∧ itw w = none) := by
  by_cases h1 : w = kFl
  · exact .inl h1
  by_cases h2 : w = kUi
  · exact .inr (.inl h2)
  by_cases h3 : w = kSz
  · exact .inr (.inr (.inl h3))
  by_cases h4 : ∃ pk i, i < 3 ∧ w = bo pk i
  · exact .inr (.inr (.inr (.inl h4)))
  have hn : ∀ pk i, i < 3 → w ≠ bo pk i := fun pk i hi e => h4 ⟨pk, i, hi, e⟩
  refine .inr (.inr (.inr (.inr ⟨⟨h1, h2, h3, hn⟩, ?_⟩)))
  unfold itw
  rw [if_neg h1, if_neg h2, if_neg h3, if_neg (hn _ _ (by omega)), if_neg (hn _ _ (by omega)), if_neg (hn _ _ (by omega)), if_neg (hn _ _ (by omega)), if_neg (hn _ _ (by omega)), if_neg (hn _ _ (by omega))]
theorem itw_bo : ∀ (pk : Bool) (i : Nat), i < 3 → itw (bo pk i) = some (.bd pk i) := by
  intro pk i hi
  have hc : i = 0 ∨ i = 1 ∨ i = 2 := by omega
  cases pk <;> rcases hc with rfl | rfl | rfl <;> rfl
theorem pt_is {p : B} (h : p = [] ∨ p = ml.hdr ∨ p = ml.txt) : ∃ i, i < 3 ∧ p = pt i := by
  rcases h with rfl | rfl | rfl
  · exact ⟨0, by omega, rfl⟩
  · exact ⟨1, by omega, rfl⟩
  · exact ⟨2, by omega, rfl⟩
theorem pt_in (i : Nat) : pt i = [] ∨ pt i = ml.hdr ∨ pt i = ml.txt := by
  unfold pt
  split
  · exact .inl rfl
  · split
    · exact .inr (.inl rfl)
    · exact .inr (.inr rfl)
theorem pt_len (i : Nat) : (pt i).length ≤ 6 := by
  rcases pt_in i with h | h | h <;> rw [h] <;> decide
/-- A word with a body's head and a bracket at its end has no part of a mail between them, if it is no item. -/
theorem mid_no {w m : B} {pk : Bool} (h : NoIt w) (e : w = hd pk ++ m ++ [93]) : ¬ (m = [] ∨ m = ml.hdr ∨ m = ml.txt) := fun y => by
  obtain ⟨i, hi, rfl⟩ := pt_is y
  exact h.2.2.2 pk i hi e

/-- What is told of: the mail's text, its uid, its flags, its body if it is one. -/
structure Fm where
  l : B
  u : Nat
  f : Nat
  ob : Option B
/-- The body is told as it is. -/
def Fm.Is (x : Fm) : Prop := (∃ b fs, x.ob = some b ∧ ml.IsMail x.l fs b) ∨ (x.ob = none ∧ ¬ ∃ fs b, ml.IsMail x.l fs b)
structure Fm.Ok (x : Fm) : Prop where
  is : x.Is
  l : x.l.length ≤ 4000
  u : x.u ≤ 1000
  f : x.f < 32
def part (x : Fm) (b : B) (i : Nat) : B := ml.partOf x.l (pt i) b
def bodyTx (x : Fm) (b : B) (i : Nat) : B := kBo ++ [91] ++ pt i ++ [93, 32, 123] ++ Lib.decDigits (part x b i).length ++ [125, 13, 10] ++ part x b i
def ftx (x : Fm) : B := kFl ++ [32] ++ (fg.FT x.f).data.toList
def utx (x : Fm) : B := kUi ++ [32] ++ Lib.decDigits x.u
def stx (x : Fm) : B := kSz ++ [32] ++ Lib.decDigits x.l.length
def TI (x : Fm) (i : It) : Option B := i.arm (some (ftx x)) (some (utx x)) (some (stx x)) fun _ j => x.ob.map fun b => bodyTx x b j
/-- A word's item. -/
def itm (s : ByteArray) : Option It := itw (up.lower s.data.toList)
def tx1 (x : Fm) (s : ByteArray) : Option B := (itm s).bind (TI x)
def tx (x : Fm) (s : ByteArray) : B := (tx1 x s).getD []
def isUi (s : ByteArray) : Bool := match itm s with | some i => i.arm false true false fun _ _ => false | none => false
def isSn (s : ByteArray) : Bool := match itm s with | some i => i.arm false false false fun pk _ => !pk | none => false

/-- The texts that a fetch tells. -/
def txs (x : Fm) (ks : List ByteArray) (wu : Bool) : List B := (if (wu && !ks.any isUi) = true then [utx x] else []) ++ ks.map (tx x)
def cl (n : Nat) (wd : B) : B := [42, 32] ++ Lib.decDigits n ++ [32] ++ wd ++ [13, 10]
def fin (x : Fm) (seq : Nat) (ks : List ByteArray) (wu : Bool) : B := [42, 32] ++ Lib.decDigits seq ++ [32, 70, 69, 84, 67, 72, 32, 40] ++ jn 32 (txs x ks wu) ++ [41, 13, 10]
/-- What FetchText answers: all items are told, or one is none. -/
def Fr (x : Fm) (seq : Nat) (ks : List ByteArray) (wu : Bool) (X : ByteArray) (s : Bool) (c : Int) : Prop :=
  ((∀ j, j < ks.length → ∃ t, tx1 x (ks.getD j nt) = some t) ∧ X = ⟨(fin x seq ks wu).toArray⟩ ∧ s = ks.any isSn ∧ c = 0) ∨
  ((∃ j, j < ks.length ∧ tx1 x (ks.getD j nt) = none) ∧ X = ⟨#[]⟩ ∧ s = false ∧ c = 3)
theorem fr_one {x : Fm} {seq : Nat} {ks : List ByteArray} {wu : Bool} {X X' : ByteArray} {s s' : Bool} {c c' : Int} (h : Fr x seq ks wu X s c) (h' : Fr x seq ks wu X' s' c') : X = X' ∧ s = s' ∧ c = c' := by
  rcases h with ⟨h1, rfl, rfl, rfl⟩ | ⟨⟨j, hj, hn⟩, rfl, rfl, rfl⟩ <;> rcases h' with ⟨h1', rfl, rfl, rfl⟩ | ⟨⟨j', hj', hn'⟩, rfl, rfl, rfl⟩
  · exact ⟨rfl, rfl, rfl⟩
  · obtain ⟨t, ht⟩ := h1 j' hj'
    rw [hn'] at ht; cases ht
  · obtain ⟨t, ht⟩ := h1' j hj
    rw [hn] at ht; cases ht
  · exact ⟨rfl, rfl, rfl⟩

theorem part_len (x : Fm) (b : B) (i : Nat) (fs : List (B × B)) (h : ml.IsMail x.l fs b) : (part x b i).length ≤ x.l.length := by
  obtain ⟨kk, hk1, hk2⟩ := ml.par_len h.2.1
  unfold part ml.partOf
  split
  · exact Nat.le_refl _
  · split
    · rw [List.length_take]; omega
    · rw [hk2, List.length_drop]; omega
theorem dec4 {n : Nat} (h : n ≤ 4294967295) : (Lib.decDigits n).length ≤ 10 := dx.dec_small h
theorem ftx_len {x : Fm} (h : x.Ok) : (ftx x).length ≤ 60 := by
  have e := fg.FT_is x.f
  have h1 := fg.tx_size (f := x.f) (k := 5) (by omega)
  have h2 : (fg.FT x.f).size ≤ 52 := by
    rw [e, ByteArray.size_append, ByteArray.size_append]
    show 1 + _ + 1 ≤ 52
    omega
  rw [Lib.size_eq] at h2
  unfold ftx kFl
  simp only [List.length_append, List.length_cons, List.length_nil]
  omega
theorem utx_len {x : Fm} (h : x.Ok) : (utx x).length ≤ 20 := by
  have := dec4 (n := x.u) (by have := h.u; omega)
  unfold utx kUi
  simp only [List.length_append, List.length_cons, List.length_nil]
  omega
theorem stx_len {x : Fm} (h : x.Ok) : (stx x).length ≤ 30 := by
  have := dec4 (n := x.l.length) (by have := h.l; omega)
  unfold stx kSz
  simp only [List.length_append, List.length_cons, List.length_nil]
  omega
theorem body_len {x : Fm} (h : x.Ok) {b : B} {fs : List (B × B)} (hm : ml.IsMail x.l fs b) (i : Nat) : (bodyTx x b i).length ≤ 4060 := by
  have h1 := part_len x b i fs hm
  have h0 := h.l
  have h2 := dec4 (n := (part x b i).length) (by omega)
  have h3 := pt_len i
  unfold bodyTx kBo
  simp only [List.length_append, List.length_cons, List.length_nil]
  omega
theorem TI_len {x : Fm} (h : x.Ok) {i : It} {t : B} (e : TI x i = some t) : t.length ≤ 4060 := by
  rcases It.four i with rfl | rfl | rfl | ⟨pk, i, rfl⟩
  · have e : some (ftx x) = some t := e
    cases e; have := ftx_len h; omega
  · have e : some (utx x) = some t := e
    cases e; have := utx_len h; omega
  · have e : some (stx x) = some t := e
    cases e; have := stx_len h; omega
  · have e : Option.map (fun b => bodyTx x b i) x.ob = some t := e
    rcases h.is with ⟨b, fs, hb, hm⟩ | ⟨hb, _⟩
    · rw [hb] at e
      cases e
      exact body_len h hm i
    · rw [hb] at e
      cases e
theorem tx_len {x : Fm} (h : x.Ok) (s : ByteArray) : (tx x s).length ≤ 4060 := by
  unfold tx tx1
  cases h1 : itm s with
  | none => simp
  | some i =>
    rw [Option.bind_some]
    cases h2 : TI x i with
    | none => simp
    | some t => exact TI_len h h2
theorem lens_app : ∀ (a b : List B), lens (a ++ b) = lens a + lens b := fun a b => by
  induction a with
  | nil => simp [lens]
  | cons x a ih => simp [lens] at ih ⊢; omega
theorem lens_le {V : List B} {n : Nat} (h : ∀ v ∈ V, v.length ≤ n) : lens V ≤ n * V.length := by
  induction V with
  | nil => simp [lens]
  | cons x V ih =>
    have h1 := h x List.mem_cons_self
    have h2 := ih fun v hv => h v (List.mem_cons_of_mem _ hv)
    have e : lens (x :: V) = x.length + lens V := rfl
    rw [e, List.length_cons, Nat.mul_succ]
    omega
theorem txs_len {x : Fm} (h : x.Ok) (ks : List ByteArray) (wu : Bool) (hk : ks.length ≤ 30) : (txs x ks wu).length ≤ 31 ∧ lens (txs x ks wu) ≤ 140000 := by
  have h1 : (txs x ks wu).length ≤ 31 := by
    unfold txs
    split <;> simp <;> omega
  refine ⟨h1, ?_⟩
  have h2 := lens_le (V := txs x ks wu) (n := 4060) (fun v hv => by
    unfold txs at hv
    rcases List.mem_append.1 hv with hv | hv
    · split at hv
      · rw [List.mem_singleton] at hv
        rw [hv]
        have := utx_len h
        omega
      · cases hv
    · obtain ⟨s, _, rfl⟩ := List.mem_map.1 hv
      exact tx_len h s)
  omega
theorem jn_small {x : Fm} (h : x.Ok) (ks : List ByteArray) (wu : Bool) (hk : ks.length ≤ 30) : (jn 32 (txs x ks wu)).length ≤ 150000 := by
  have h1 := txs_len h ks wu hk
  have h2 := fg.jn_len 32 (txs x ks wu)
  omega
end Go.Proofs.YtejmfffapkmjoaaDoor.fq
