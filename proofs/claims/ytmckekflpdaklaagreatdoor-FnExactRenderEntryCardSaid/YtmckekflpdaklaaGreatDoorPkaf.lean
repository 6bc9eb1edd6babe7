/-
  Plain facts on repairing a text: the runes that are read, written again, are the bytes that were read, and the stand-in where none begins.
  Plain facts on rows that a call owns: beside an iterator over a string, behind an append, and turned into a text.
  The contract of impl.RuneSize: how many bytes a rune has, 0 of no rune.
  Contracts of both TextOfRunes functions: the bytes of the runes of a list, and the code otherwise.
-/
import Derived.Test.YtmckekflpdaklaaGreatDoorPkaa
import Derived.Laws.Cover4
import Derived.WalkKit
import Derived.WalkLawsBesides
import Derived.Lib.OthersKept
import Derived.Laws.IdiomStrings
import Derived.Laws.BytesArg
import Derived.Lib.AppendStr
import Derived.Test.YtmckekflpdaklaaGreatDoorPkab

namespace Go.Proofs.YtmckekflpdaklaaGreatDoor.ut
open Go.RowKit
set_option linter.unusedVariables false

theorem F_wide1 (n k b0 b1 b2 b3 : Nat) : 1 ≤ (decF n k b0 b1 b2 b3).2 := by
  unfold decF
  repeat' split
  all_goals simp
theorem pos_up (s : ByteArray) (n : Nat) : pos s n < pos s (n + 1) := by
  have : 1 ≤ (Utf8.decode s (pos s n)).2 := by rw [dec_eq]; exact F_wide1 _ _ _ _ _ _
  simp only [pos]
  omega
theorem pos_lt (s : ByteArray) {a b : Nat} (h : a < b) : pos s a < pos s b := by
  have h1 := pos_mono s (a + 1) (b - (a + 1))
  rw [show a + 1 + (b - (a + 1)) = b from by omega] at h1
  have := pos_up s a
  omega
theorem pos_inj (s : ByteArray) {a b : Nat} (h : pos s a = pos s b) : a = b := by
  rcases Nat.lt_trichotomy a b with e | e | e
  · have := pos_lt s e; omega
  · exact e
  · have := pos_lt s e; omega
theorem pos_ge (s : ByteArray) (n : Nat) : n ≤ pos s n := by
  induction n with
  | zero => exact Nat.zero_le _
  | succ n ih => have := pos_up s n; omega

/-- The runes of the first n steps. -/
def runesL (s : ByteArray) : Nat → List Int
  | 0 => []
  | n + 1 => runesL s n ++ [((Utf8.decode s (pos s n)).1 : Int)]
theorem runesL_len (s : ByteArray) (n : Nat) : (runesL s n).length = n := by
  induction n with
  | zero => rfl
  | succ n ih => simp [runesL, ih]
/-- What a repaired text has for one step. -/
def piece (s : ByteArray) (k : Nat) : List UInt8 := if Utf8.decode s k = (65533, 1) then [239, 191, 189] else (s.extract k (k + (Utf8.decode s k).2)).data.toList
def fixL (s : ByteArray) : Nat → List UInt8
  | 0 => []
  | n + 1 => fixL s n ++ piece s (pos s n)
theorem piece_bad {s : ByteArray} {k : Nat} (h : badAt s k) : piece s k = [239, 191, 189] := by rw [badAt] at h; unfold piece; rw [if_pos h]
theorem piece_good {s : ByteArray} {k : Nat} (h : ¬ badAt s k) : piece s k = (s.extract k (k + (Utf8.decode s k).2)).data.toList := by rw [badAt] at h; unfold piece; rw [if_neg h]

theorem piece_len (s : ByteArray) (k : Nat) : (piece s k).length ≤ 3 * (Utf8.decode s k).2 := by
  have : 1 ≤ (Utf8.decode s k).2 := by rw [dec_eq]; exact F_wide1 _ _ _ _ _ _
  by_cases h : badAt s k
  · rw [piece_bad h]; simp; omega
  · rw [piece_good h, Lib.extract_data, List.length_take]; omega
theorem fix_len (s : ByteArray) (n : Nat) : (fixL s n).length ≤ 3 * pos s n := by
  induction n with
  | zero => simp [fixL]
  | succ n ih =>
    have := piece_len s (pos s n)
    simp only [fixL, pos, List.length_append]
    omega
theorem valid_nat (c : Nat) : Utf8.valid (c : Int) = true ↔ c < 55296 ∨ (57344 ≤ c ∧ c ≤ 1114111) := by simp [Utf8.valid]; omega
theorem enc1 {c : Nat} (h : c < 128) : (Utf8.encode (c : Int)).data.toList = [UInt8.ofNat c] := by
  have hv : Utf8.valid (c : Int) = true := (valid_nat c).2 (by omega)
  simp only [Utf8.encode, hv, if_true, Int.toNat_natCast]
  rw [if_pos h]
theorem enc2 {c : Nat} (h : 128 ≤ c) (h' : c < 2048) : (Utf8.encode (c : Int)).data.toList = [UInt8.ofNat (192 + c / 64), UInt8.ofNat (128 + c % 64)] := by
  have hv : Utf8.valid (c : Int) = true := (valid_nat c).2 (by omega)
  simp only [Utf8.encode, hv, if_true, Int.toNat_natCast]
  rw [if_neg (by omega), if_pos h']
theorem enc3 {c : Nat} (h : 2048 ≤ c) (h' : c < 65536) (hv : Utf8.valid (c : Int) = true) : (Utf8.encode (c : Int)).data.toList = [UInt8.ofNat (224 + c / 4096), UInt8.ofNat (128 + c / 64 % 64), UInt8.ofNat (128 + c % 64)] := by
  simp only [Utf8.encode, hv, if_true, Int.toNat_natCast]
  rw [if_neg (by omega), if_neg (by omega), if_pos h']
theorem enc4 {c : Nat} (h : 65536 ≤ c) (hv : Utf8.valid (c : Int) = true) : (Utf8.encode (c : Int)).data.toList = [UInt8.ofNat (240 + c / 262144), UInt8.ofNat (128 + c / 4096 % 64), UInt8.ofNat (128 + c / 64 % 64), UInt8.ofNat (128 + c % 64)] := by
  simp only [Utf8.encode, hv, if_true, Int.toNat_natCast]
  rw [if_neg (by omega), if_neg (by omega), if_neg (by omega)]
theorem of_nat {b : UInt8} {x : Nat} (h : x = b.toNat) : UInt8.ofNat x = b := by rw [h]; exact UInt8.ofNat_toNat

theorem ext1 (s : ByteArray) (k : Nat) (h : k < s.size) : (s.extract k (k + 1)).data.toList = [s.get! k] := by
  rw [Lib.extract_data, get_byte s k h]
  have hl : s.data.toList.length = s.size := (Lib.size_eq s).symm
  rw [List.drop_eq_getElem_cons (by omega), show k + 1 - k = 1 from by omega]
  rfl
theorem ext2 (s : ByteArray) (k : Nat) (h : k + 1 < s.size) : (s.extract k (k + 2)).data.toList = [s.get! k, s.get! (k + 1)] := by
  rw [Lib.extract_data, get_byte s k (by omega), get_byte s (k + 1) h]
  have hl : s.data.toList.length = s.size := (Lib.size_eq s).symm
  rw [List.drop_eq_getElem_cons (by omega), List.drop_eq_getElem_cons (by omega), show k + 2 - k = 2 from by omega]
  rfl
theorem ext3 (s : ByteArray) (k : Nat) (h : k + 2 < s.size) : (s.extract k (k + 3)).data.toList = [s.get! k, s.get! (k + 1), s.get! (k + 2)] := by
  rw [Lib.extract_data, get_byte s k (by omega), get_byte s (k + 1) (by omega), get_byte s (k + 2) h]
  have hl : s.data.toList.length = s.size := (Lib.size_eq s).symm
  rw [List.drop_eq_getElem_cons (by omega), List.drop_eq_getElem_cons (by omega), List.drop_eq_getElem_cons (by omega), show k + 3 - k = 3 from by omega]
  rfl
theorem ext4 (s : ByteArray) (k : Nat) (h : k + 3 < s.size) : (s.extract k (k + 4)).data.toList = [s.get! k, s.get! (k + 1), s.get! (k + 2), s.get! (k + 3)] := by
  rw [Lib.extract_data, get_byte s k (by omega), get_byte s (k + 1) (by omega), get_byte s (k + 2) (by omega), get_byte s (k + 3) h]
  have hl : s.data.toList.length = s.size := (Lib.size_eq s).symm
  rw [List.drop_eq_getElem_cons (by omega), List.drop_eq_getElem_cons (by omega), List.drop_eq_getElem_cons (by omega), List.drop_eq_getElem_cons (by omega), show k + 4 - k = 4 from by omega]
  rfl

theorem enc_piece (s : ByteArray) (k : Nat) (hk : k < s.size) : (Utf8.encode ((Utf8.decode s k).1 : Int)).data.toList = piece s k := by
  have u0 := UInt8.toNat_lt (s.get! k)
  have u1 := UInt8.toNat_lt (s.get! (k + 1))
  have u2 := UInt8.toNat_lt (s.get! (k + 2))
  have u3 := UInt8.toNat_lt (s.get! (k + 3))
  by_cases hb : badAt s k
  · rw [piece_bad hb, bad_rune hb]
    rfl
  rw [piece_good hb]
  rw [badAt] at hb
  have e := dec_eq s k
  revert e hb
  generalize Utf8.decode s k = d
  unfold decF
  split
  · rename_i g
    rintro hb rfl
    rw [enc1 g, ext1 s k hk, of_nat rfl]
  split
  · rename_i g0 g; simp at g
    split
    · rename_i g2
      rintro hb rfl
      rw [enc2 g2 (by omega), ext2 s k (by omega), of_nat (b := s.get! k) (by omega), of_nat (b := s.get! (k + 1)) (by omega)]
    · rintro hb rfl; exact absurd rfl hb
  split
  · rename_i g0 g1 g; simp at g
    split
    · rename_i g2
      simp only [Bool.and_eq_true, decide_eq_true_eq] at g2
      rintro hb rfl
      rw [enc3 g2.1 (by omega) g2.2, ext3 s k (by omega), of_nat (b := s.get! k) (by omega), of_nat (b := s.get! (k + 1)) (by omega), of_nat (b := s.get! (k + 2)) (by omega)]
    · rintro hb rfl; exact absurd rfl hb
  split
  · rename_i g0 g1 g3 g; simp at g
    split
    · rename_i g2
      simp only [Bool.and_eq_true, decide_eq_true_eq] at g2
      rintro hb rfl
      rw [enc4 g2.1 g2.2, ext4 s k (by omega), of_nat (b := s.get! k) (by omega), of_nat (b := s.get! (k + 1)) (by omega), of_nat (b := s.get! (k + 2)) (by omega), of_nat (b := s.get! (k + 3)) (by omega)]
    · rintro hb rfl; exact absurd rfl hb
  · rintro hb rfl; exact absurd rfl hb

theorem runesBytes_snoc (l : List Int) (r : Int) : runesBytes (l ++ [r]) = runesBytes l ++ Utf8.encode r := by simp [runesBytes]
theorem bytes_ext {a b : ByteArray} (h : a.data.toList = b.data.toList) : a = b := by
  rw [← Lib.mk_data a, ← Lib.mk_data b, h]
theorem runes_fix (s : ByteArray) (n : Nat) (h : ∀ m, m < n → pos s m < s.size) : (runesBytes (runesL s n)).data.toList = fixL s n := by
  induction n with
  | zero => rfl
  | succ n ih =>
    rw [runesL, runesBytes_snoc, fixL, ← enc_piece s (pos s n) (h n (by omega)), ← ih (fun m hm => h m (by omega))]
    rw [ByteArray.data_append, Array.toList_append]
end Go.Proofs.YtmckekflpdaklaaGreatDoor.ut

namespace Go.Proofs.YtmckekflpdaklaaGreatDoor.ow
open Go.RowKit
set_option linter.unusedVariables false

theorem dt {p : Prop} {d : Decidable p} (h : p) : @decide p d = true := decide_eq_true h
theorem df {p : Prop} {d : Decidable p} (h : ¬ p) : @decide p d = false := decide_eq_false h
theorem dof {p : Prop} {d : Decidable p} (h : @decide p d = true) : p := of_decide_eq_true h
theorem dnof {p : Prop} {d : Decidable p} (h : @decide p d = false) : ¬ p := of_decide_eq_false h
/-- Two texts are one, or not. -/
def decB (a b : ByteArray) : Decidable (a = b) := decidable_of_iff (a.data = b.data) ⟨fun h => ByteArray.ext h, fun h => by rw [h]⟩
/-- A call that answers whether something holds. -/
def Says (p : Prop) (e : Ending) : Prop := ∃ b : Bool, e = .returned (.bool b) ∧ (b = true ↔ p)
theorem says_no {p : Prop} (h : ¬ p) : Says p (.returned (.bool false)) := ⟨false, rfl, fun x => (by cases x), fun x => absurd x h⟩
theorem says_yes {p : Prop} (h : p) : Says p (.returned (.bool true)) := ⟨true, rfl, fun _ => h, fun _ => rfl⟩
theorem says_true {p : Prop} {e : Ending} (h : Says p e) (hp : p) : e = .returned (.bool true) := by
  obtain ⟨b, rfl, hb⟩ := h
  rw [hb.2 hp]
theorem says_false {p : Prop} {e : Ending} (h : Says p e) (hp : ¬ p) : e = .returned (.bool false) := by
  obtain ⟨b, rfl, hb⟩ := h
  cases b
  · rfl
  · exact absurd (hb.1 rfl) hp

section
variable {w w' W : World} {base e size n k p : Nat} {v : Value} {xs : List Value} {s : ByteArray}

theorem own_iter (h : w.ownsRow base e size v n xs) (hk : w.heap[k]? = some (.stringIter s p)) (q : Nat) : (w.iterAt k s q).ownsRow base e size v n xs := by
  obtain ⟨h1, h2⟩ := h
  refine ⟨h1, ?_⟩
  rcases h2 with h2 | ⟨g, cap, cur, a, b, c, d⟩
  · exact .inl h2
  · have hne : g ≠ k := by
      intro e
      subst e
      rw [hk] at c
      cases c
    exact .inr ⟨g, cap, cur, a, b, by rw [Lib.iterAt_other _ _ _ _ _ hne]; exact c, d⟩
theorem own_not_iter (h : w.ownsRow base e size v n xs) (hk : w.heap[k]? = some (.stringIter s p)) : some k ≠ v.ownBlock := by
  rcases h.2 with ⟨rfl, _⟩ | ⟨g, cap, cur, rfl, _, c, _⟩
  · exact fun x => by cases x
  · intro x
    have : k = g := by simpa [Value.ownBlock] using x
    subst this
    rw [hk] at c
    cases c
theorem own_lt (h : w.ownsRow base e size v n xs) : ∀ j, v.ownBlock = some j → base ≤ j := by
  intro j hj
  rcases h.2 with ⟨rfl, _⟩ | ⟨g, cap, cur, rfl, b, c, _⟩
  · cases hj
  · have : g = j := by simpa [Value.ownBlock] using hj
    omega
theorem own_base {base' : Nat} (h : w.ownsRow base e size v n xs) (hb : base' ≤ base) : w.ownsRow base' e size v n xs := by
  obtain ⟨h1, h2⟩ := h
  refine ⟨h1, ?_⟩
  rcases h2 with h2 | ⟨g, cap, cur, a, b, c⟩
  · exact .inl h2
  · exact .inr ⟨g, cap, cur, a, Nat.le_trans hb b, c⟩
/-- What a call owns stays as it is behind whatever turns nothing that was there. -/
theorem own_below (h : w.ownsRow base e size v n xs) (hb : Below w.heap.size w w') : w'.ownsRow base e size v n xs := by
  obtain ⟨h1, h2⟩ := h
  refine ⟨h1, ?_⟩
  rcases h2 with h2 | ⟨g, cap, cur, a, b, c, d⟩
  · exact .inl h2
  · have hlt : g < w.heap.size := (Array.getElem?_eq_some_iff.1 c).1
    exact .inr ⟨g, cap, cur, a, b, (hb.block g hlt).trans c, d⟩
/-- Two rows of which the second was made behind the first lie apart. -/
theorem apart {w2 : World} {e2 size2 n2 : Nat} {v2 : Value} {xs2 : List Value} (h : w.ownsRow base e size v n xs) (h2 : w2.ownsRow w.heap.size e2 size2 v2 n2 xs2) : v.ownBlock = none ∨ v.ownBlock ≠ v2.ownBlock := by
  rcases h.2 with ⟨rfl, _⟩ | ⟨g, cap, cur, rfl, b, c, d⟩
  · exact .inl rfl
  · right
    intro e
    have hlt : g < w.heap.size := (Array.getElem?_eq_some_iff.1 c).1
    have := own_lt h2 g e.symm
    omega
/-- Behind an append onto an owned row, of what was laid in a new block: an iterator stands as it stood, and what was below the call's own blocks too. -/
theorem after (h : w.ownsRow base e size v n xs) (hk : w.heap[k]? = some (.stringIter s p)) (hb : Below base W w) (hB : base ≤ w.heap.size) (o : Obj) (hg : (w.alloc o).grownBy w' v.ownBlock) :
    w'.heap[k]? = some (.stringIter s p) ∧ Below base W w' := by
  have hlt : k < w.heap.size := (Array.getElem?_eq_some_iff.1 hk).1
  refine ⟨?_, Below.grown (hb.alloc hB _) hg (by simp; omega) (own_lt h)⟩
  rw [hg.block k (by simp; omega) (own_not_iter h hk), Below.heap_alloc _ _ _ hlt]
  exact hk
theorem own_empty (w : World) (t : TypeId) : (w.alloc (.cells #[] t)).ownsRow w.heap.size t 1 (.slice (some ⟨w.heap.size, 0, none⟩) 0 0) 0 [] := by
  have h1 : (w.alloc (.cells #[] t)).heap[w.heap.size]? = some (.cells #[] t) := by
    show (w.heap.push (.cells #[] t))[w.heap.size]? = _
    simp
  exact ⟨rfl, .inr ⟨_, 0, #[], rfl, Nat.le_refl _, h1, Nat.le_refl _, Nat.zero_le _, rfl, rfl⟩⟩
/-- The cells of a block that has just been laid. -/
theorem cells_new (w : World) (c : List Value) (t : TypeId) : ∀ j u, c[j]? = some u → (w.alloc (.cells c.toArray t)).cell? ((⟨w.heap.size, 0, none⟩ : Addr).add j) = some u := by
  intro j u hj
  have h1 : (w.alloc (.cells c.toArray t)).heap[w.heap.size]? = some (.cells c.toArray t) := by
    show (w.heap.push (.cells c.toArray t))[w.heap.size]? = _
    simp
  rw [show ((⟨w.heap.size, 0, none⟩ : Addr).add j) = ⟨w.heap.size, j, none⟩ from by simp [Addr.add]; omega]
  rw [cell_of_row _ _ j _ t _ h1]
  simpa using hj
theorem add_at (g j : Nat) : (⟨g, 0, none⟩ : Addr).add j = ⟨g, j, none⟩ := by simp [Addr.add]; omega
theorem cell_new (w : World) (c : List Value) (t : TypeId) (j : Nat) (u : Value) (h : c[j]? = some u) : (w.alloc (.cells c.toArray t)).cell? ⟨w.heap.size, j, none⟩ = some u := by
  rw [← add_at]
  exact cells_new w c t j u h
end

section
variable {P : Program} {w : World} {base n : Nat} {src dst e : TypeId} {v : Value}
theorem conv_bytes (l : List UInt8) (h : w.ownsRow base e 1 v n (l.map fun b => Value.int .u8 (b.toNat : Int)))
    (hs : P.underlying src = some (.slice e)) (he : P.underlying e = some (.int .u8)) (hd : P.underlying dst = some .string) :
    (convert src dst v).run P w = .ok (.string ⟨l.toArray⟩) w := by
  have hl : l.length = n := by have := h.1; simpa using this
  rcases h.2 with ⟨rfl, h0⟩ | ⟨g, cap, cur, rfl, _⟩
  · have : l = [] := List.eq_nil_of_length_eq_zero (by omega)
    subst this
    rw [run_convert_bytes_string w src dst e _ _ _ hs he hd]
    rfl
  · subst hl
    refine run_convert_bytes_back w src dst e ⟨g, 0, none⟩ cap l hs he hd (fun j hj => ?_)
    rw [show ((⟨g, 0, none⟩ : Addr).add j) = ⟨g, j, none⟩ from by simp [Addr.add]; omega, h.cellAt j (by omega)]
    simp [hj]
theorem slice_str (t : TypeId) (s : ByteArray) (k k' : IntKind) (p q : Nat) (h : P.underlying t = some .string) (i j : Int) (hi : i = p) (hj : j = q) (h1 : p ≤ q) (h2 : q ≤ s.size) (wx : World) :
    (Instr.slice t (.string s) (some (.int k i)) (some (.int k' j)) none).run P wx = .ok (.string (s.extract p q)) wx := by
  subst hi hj
  rw [run_slice_string (P := P) (w := wx) t s k k' _ _ h (by omega) (by omega) (by omega)]
  rfl
theorem conv_runes (zs : List Int) (h : w.ownsRow base e 1 v n (zs.map (Value.int .i32)))
    (hs : P.underlying src = some (.slice e)) (he : P.underlying e = some (.int .i32)) (hd : P.underlying dst = some .string) :
    (convert src dst v).run P w = .ok (.string (runesBytes zs)) w := by
  have hl : zs.length = n := by have := h.1; simpa using this
  rcases h.2 with ⟨rfl, h0⟩ | ⟨g, cap, cur, rfl, _⟩
  · have : zs = [] := List.eq_nil_of_length_eq_zero (by omega)
    subst this
    exact run_convert_runes_nil w src dst e 0 0 hs he hd
  · subst hl
    have := run_convert_runes (P := P) w src dst e ⟨g, 0, none⟩ zs.length cap zs (Nat.le_refl _) hs he hd (fun j hj => by
      rw [show ((⟨g, 0, none⟩ : Addr).add j) = ⟨g, j, none⟩ from by simp [Addr.add]; omega, h.cellAt j (by omega)]
      simp [hj])
    rw [List.take_length] at this
    exact this
end
/-- A slice value whose elements are these numbers. -/
def Reads (k : IntKind) (w : World) (v : Value) (zs : List Int) : Prop :=
  ∃ (a : Option Addr) (cap : Nat), v = .slice a zs.length cap ∧ (zs = [] ∨ ∃ b off, a = some ⟨b, off, none⟩ ∧ ∀ j, j < zs.length → w.cell? ⟨b, off + j, none⟩ = some (.int k (zs.getD j 0)))

theorem reads_own {k : IntKind} {w : World} {base e n : Nat} {v : Value} {zs : List Int} (h : w.ownsRow base e 1 v n (zs.map (Value.int k))) : Reads k w v zs := by
  have hl : zs.length = n := by have := h.1; simpa using this
  rcases h.2 with ⟨rfl, h0⟩ | ⟨g, cap, cur, rfl, _⟩
  · have : zs = [] := List.eq_nil_of_length_eq_zero (by omega)
    subst this
    exact ⟨none, 0, rfl, .inl rfl⟩
  · subst hl
    refine ⟨_, cap, rfl, .inr ⟨g, 0, rfl, fun j hj => ?_⟩⟩
    rw [Nat.zero_add, h.cellAt j (by omega)]
    simp [hj]
theorem reads_keep {k : IntKind} {w w' : World} {v : Value} {zs : List Int} (h : Reads k w v zs) (hc : ∀ a u, w.cell? a = some u → w'.cell? a = some u) : Reads k w' v zs := by
  obtain ⟨a, cap, rfl, h⟩ := h
  refine ⟨a, cap, rfl, ?_⟩
  rcases h with h | ⟨b, off, rfl, h⟩
  · exact .inl h
  · exact .inr ⟨b, off, rfl, fun j hj => hc _ _ (h j hj)⟩

theorem getD_ext {zs ys : List Int} (hl : zs.length = ys.length) (h : ∀ j, j < zs.length → zs.getD j 0 = ys.getD j 0) : zs = ys := by
  refine List.ext_getElem hl (fun j h1 h2 => ?_)
  have := h j h1
  rw [List.getD_eq_getElem?_getD, List.getD_eq_getElem?_getD, List.getElem?_eq_getElem h1, List.getElem?_eq_getElem h2] at this
  simpa using this

theorem grown_trans {a b c : World} {row : Option Nat} (h : a.grownBy b row) (k : b.grownBy c row) : a.grownBy c row :=
  ⟨k.os.trans h.os, k.tape.trans h.tape, k.output.trans h.output, Nat.le_trans h.size k.size, fun i hi hr => (k.block i (Nat.lt_of_lt_of_le hi h.size) hr).trans (h.block i hi hr)⟩
theorem grown_refl (a : World) (row : Option Nat) : a.grownBy a row := ⟨rfl, rfl, rfl, Nat.le_refl _, fun _ _ _ => rfl⟩

/-- Behind a growth by steps of block b's, an append onto a row of the call's own leaves all but block b as it was. -/
theorem grown_new {w w1 w2 : World} {b base e size n : Nat} {v : Value} {xs : List Value} (h : w.grownBy w1 (some b)) (hown : w1.ownsRow base e size v n xs) (hb : w.heap.size ≤ base) (o : Obj) (hg : (w1.alloc o).grownBy w2 v.ownBlock) : w.grownBy w2 (some b) := by
  refine ⟨hg.os.trans h.os, hg.tape.trans h.tape, hg.output.trans h.output, Nat.le_trans h.size (Nat.le_trans (by simp) hg.size), fun k hk hr => ?_⟩
  have hk1 : k < w1.heap.size := Nat.lt_of_lt_of_le hk h.size
  rw [hg.block k (by simp; omega) (fun x => by have := own_lt hown k x.symm; omega), Below.heap_alloc _ _ _ hk1]
  exact h.block k hk hr
theorem grown_alloc {w w1 : World} {row : Option Nat} (h : w.grownBy w1 row) (o : Obj) : w.grownBy (w1.alloc o) row :=
  ⟨h.os, h.tape, h.output, Nat.le_trans h.size (by simp), fun k hk hr => by rw [Below.heap_alloc _ _ _ (Nat.lt_of_lt_of_le hk h.size)]; exact h.block k hk hr⟩
theorem grown_drewN {w w1 : World} {row : Option Nat} (h : w.grownBy w1 row) (n : Nat) : w.grownBy (w1.drewN n) row := ⟨h.os, h.tape, h.output, h.size, h.block⟩
theorem grown_below {w w1 : World} {row : Option Nat} (h : Below w.heap.size w w1) : w.grownBy w1 row := ⟨h.os, h.tape, h.output, h.size, fun k hk _ => h.block k hk⟩
end Go.Proofs.YtmckekflpdaklaaGreatDoor.ow

namespace Go.Proofs.YtmckekflpdaklaaGreatDoor.ut
open Go.RowKit
set_option linter.unusedVariables false

theorem rsz_no {n : Int} (h : n < 0 ∨ 1114111 < n ∨ (55296 ≤ n ∧ n ≤ 57343)) : rsz n = 0 := by
  unfold rsz
  rw [if_neg]
  simp [scB, inB]
  omega
theorem rsz_yes {n : Int} (h0 : 0 ≤ n) (h1 : n ≤ 1114111) (h2 : n < 55296 ∨ 57343 < n) : rsz n = if n < 128 then 1 else if n < 2048 then 2 else if n < 65536 then 3 else 4 := by
  unfold rsz
  rw [if_pos]
  simp [scB, inB]
  omega

set_option maxHeartbeats 400000 in
theorem implSize_any (n : Int) (w : World) : Calls Tryz.prog 160 #[.int .i64 n] w fun e w' => e = .returned (.int .i64 (rsz n)) ∧ w' = w := by
  go_enter Tryz.func160, Tryz.ntmps160
  go_wp2
  all_goals go_ret
  all_goals first | exact ⟨ret_int (by rw [rsz_no (by omega)]), rfl⟩ | exact ⟨ret_int (by rw [rsz_yes (by omega) (by omega) (by omega)]; (repeat' split) <;> omega), rfl⟩
end Go.Proofs.YtmckekflpdaklaaGreatDoor.ut

namespace Go.Proofs.YtmckekflpdaklaaGreatDoor.ut
open Go.RowKit
set_option linter.unusedVariables false

/-- A rune's bytes as cells. -/
def cellsOf (l : List UInt8) : List Value := l.map fun b => Value.int .u8 (b.toNat : Int)
def encB (r : Int) : List UInt8 := (Utf8.encode r).data.toList
theorem cells_one (l : List UInt8) : ∀ u ∈ cellsOf l, u.oneCell' = true := by
  intro u hu
  simp only [cellsOf, List.mem_map] at hu
  obtain ⟨b, _, rfl⟩ := hu
  rfl
theorem sc_valid {c : Nat} (h : scB (c : Int) = true) : Utf8.valid (c : Int) = true := by
  rw [valid_nat]
  simp [scB, inB] at h
  omega

theorem nat_of {x : Nat} (h : x < 256) : ((UInt8.ofNat x).toNat : Int) = (x : Int) := by
  rw [UInt8.toNat_ofNat']
  omega
theorem cells1 {c : Nat} (h : c < 128) : encB c = [UInt8.ofNat c] ∧ cellsOf (encB c) = [.int .u8 (c : Int)] := by
  have e : encB c = [UInt8.ofNat c] := by rw [encB]; exact enc1 h
  refine ⟨e, ?_⟩
  rw [e]
  simp only [cellsOf, List.map_cons, List.map_nil]
  rw [nat_of (by omega)]
theorem cells2 {c : Nat} (h : 128 ≤ c) (h' : c < 2048) : (encB c).length = 2 ∧ cellsOf (encB c) = [.int .u8 (192 + (c : Int) / 64), .int .u8 (128 + (c : Int) % 64)] := by
  rw [encB, enc2 h h']
  refine ⟨rfl, ?_⟩
  simp only [cellsOf, List.map_cons, List.map_nil]
  rw [nat_of (by omega), nat_of (by omega), show ((192 + c / 64 : Nat) : Int) = 192 + (c : Int) / 64 from by omega, show ((128 + c % 64 : Nat) : Int) = 128 + (c : Int) % 64 from by omega]
theorem cells3 {c : Nat} (hv : scB (c : Int) = true) (h : 2048 ≤ c) (h' : c < 65536) : (encB c).length = 3 ∧ cellsOf (encB c) = [.int .u8 (224 + (c : Int) / 4096), .int .u8 (128 + (c : Int) / 64 % 64), .int .u8 (128 + (c : Int) % 64)] := by
  rw [encB, enc3 h h' (sc_valid hv)]
  refine ⟨rfl, ?_⟩
  simp only [cellsOf, List.map_cons, List.map_nil]
  rw [nat_of (by omega), nat_of (by omega), nat_of (by omega), show ((224 + c / 4096 : Nat) : Int) = 224 + (c : Int) / 4096 from by omega, show ((128 + c / 64 % 64 : Nat) : Int) = 128 + (c : Int) / 64 % 64 from by omega, show ((128 + c % 64 : Nat) : Int) = 128 + (c : Int) % 64 from by omega]
theorem cells4 {c : Nat} (hv : scB (c : Int) = true) (h : 65536 ≤ c) (h' : c ≤ 1114111) : (encB c).length = 4 ∧ cellsOf (encB c) = [.int .u8 (240 + (c : Int) / 262144), .int .u8 (128 + (c : Int) / 4096 % 64), .int .u8 (128 + (c : Int) / 64 % 64), .int .u8 (128 + (c : Int) % 64)] := by
  rw [encB, enc4 h (sc_valid hv)]
  refine ⟨rfl, ?_⟩
  simp only [cellsOf, List.map_cons, List.map_nil]
  rw [nat_of (by omega), nat_of (by omega), nat_of (by omega), nat_of (by omega), show ((240 + c / 262144 : Nat) : Int) = 240 + (c : Int) / 262144 from by omega, show ((128 + c / 4096 % 64 : Nat) : Int) = 128 + (c : Int) / 4096 % 64 from by omega, show ((128 + c / 64 % 64 : Nat) : Int) = 128 + (c : Int) / 64 % 64 from by omega, show ((128 + c % 64 : Nat) : Int) = 128 + (c : Int) % 64 from by omega]

/-- What both TextOfRunes functions answer. -/
def TextRet (zs : List Int) (e : Ending) : Prop :=
  (4096 < zs.length ∧ e = .returned (.tuple #[.string ⟨#[]⟩, .int .i64 2])) ∨
  (zs.length ≤ 4096 ∧ (∃ j, j < zs.length ∧ scB (zs.getD j 0) = false) ∧ e = .returned (.tuple #[.string ⟨#[]⟩, .int .i64 4])) ∨
  (zs.length ≤ 4096 ∧ (∀ j, j < zs.length → scB (zs.getD j 0) = true) ∧ e = .returned (.tuple #[.string ⟨(zs.flatMap encB).toArray⟩, .int .i64 0]))
theorem text_same {zs : List Int} {e e' : Ending} (h : TextRet zs e) (h' : TextRet zs e') : ∃ (x : ByteArray) (c : Int), e = .returned (.tuple #[.string x, .int .i64 c]) ∧ e' = .returned (.tuple #[.string x, .int .i64 c]) := by
  rcases h with ⟨a, rfl⟩ | ⟨a, ⟨j, hj, hf⟩, rfl⟩ | ⟨a, a2, rfl⟩ <;> rcases h' with ⟨b, rfl⟩ | ⟨b, ⟨i, hi, hg⟩, rfl⟩ | ⟨b, b2, rfl⟩ <;>
  first | exact ⟨_, _, rfl, rfl⟩ | (exfalso; omega) | (exfalso; have := a2 i hi; rw [hg] at this; cases this) | (exfalso; have := b2 j hj; rw [hf] at this; cases this)
theorem enc_len (r : Int) : (encB r).length ≤ 4 := by
  have := encode_size_le r
  rw [Lib.size_eq] at this
  exact this
theorem flat_len (l : List Int) : (l.flatMap encB).length ≤ 4 * l.length := by
  induction l with
  | nil => simp
  | cons a l ih =>
    have := enc_len a
    simp only [List.flatMap_cons, List.length_append, List.length_cons]
    omega
theorem flat_runes (zs : List Int) : runesBytes zs = ⟨(zs.flatMap encB).toArray⟩ := by
  refine bytes_ext ?_
  have key : ∀ (l : List Int) (b : ByteArray), (l.foldl (fun r n => r ++ Utf8.encode n) b).data.toList = b.data.toList ++ l.flatMap encB := by
    intro l
    induction l with
    | nil => intro b; simp
    | cons a l ih =>
      intro b
      rw [List.foldl_cons, ih, ByteArray.data_append, Array.toList_append, List.flatMap_cons, List.append_assoc]
      rfl
  rw [runesBytes, key]
  rfl
theorem take_step (zs : List Int) (k : Nat) (h : k < zs.length) : zs.take (k + 1) = zs.take k ++ [zs.getD k 0] := by
  rw [List.take_succ_eq_append_getElem h, List.getD_eq_getElem?_getD, List.getElem?_eq_getElem h]
  rfl
theorem rsz_zero (x : Int) : rsz x = 0 ↔ scB x = false := by
  unfold rsz
  cases h : scB x
  · simp
  · simp only [if_true]
    constructor
    · intro e
      exfalso
      revert e
      (repeat' split) <;> omega
    · intro e; cases e
end Go.Proofs.YtmckekflpdaklaaGreatDoor.ut
