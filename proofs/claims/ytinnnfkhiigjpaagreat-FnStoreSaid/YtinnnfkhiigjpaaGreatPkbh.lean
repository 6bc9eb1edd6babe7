/-
  Plain facts on encoded words: what is encoded is safe, and is read back.
  Plain facts on repairing: what is read are runes, what is repaired is right, and what is right stays.
  A row of bytes that a call made, cell by cell: also one that a text was turned into, behind which a mark lies; appending to it.
  The contract of the specification's parting of a text at each blank: a list of its parts, which the call made.
  Contracts of both HeaderNameOK functions: whether a text is a field's name.
-/
import Derived.Test.YtinnnfkhiigjpaaGreatPkbd
import Derived.Test.YtinnnfkhiigjpaaGreatPkbf
import Derived.Test.YtinnnfkhiigjpaaGreatPkbg
import Derived.Test.YtinnnfkhiigjpaaGreatPkbe
import Derived.Laws.IdiomCopy
import Derived.Laws.Append
import Derived.Maps.AppendAt
import Derived.Test.YtinnnfkhiigjpaaGreatPkaa
import Derived.Test.YtinnnfkhiigjpaaGreatRows
import Derived.WalkKit
import Derived.WalkLawsBesides
import Derived.Laws.AppendOwn
import Derived.Lib.FieldsLaws

namespace Go.Proofs.YtinnnfkhiigjpaaGreat.hd
open Go
set_option linter.unusedVariables false

/-- Words with blanks between. -/
def joinB : Bool → List (List UInt8) → List UInt8
  | _, [] => []
  | f, x :: r => (if f then [] else [32]) ++ x ++ joinB false r
theorem join_cut : ∀ (l cur : List UInt8) (f : Bool), joinB f (cutGo cur l) = (if f then [] else [32]) ++ cur ++ l
  | [], cur, f => by simp [cutGo, joinB]
  | b :: l, cur, f => by
    rw [cutGo]
    split
    · rename_i h
      have hb : b = 32 := by rw [← UInt8.toNat_inj]; exact h
      rw [joinB, join_cut l [] false]
      simp [hb]
    · rw [join_cut l (cur ++ [b]) f]
      simp
theorem dec_join : ∀ (ws : List (List UInt8)) (f was : Bool) (o : List UInt8), (∀ x ∈ ws, ∀ y, ¬ Coded x y) → Dec f was ws o → o = joinB f ws
  | [], f, was, o, _, h => h
  | x :: r, f, was, o, hn, h => by
    rcases h with ⟨y, p, hc, _⟩ | ⟨_, p, hd, rfl⟩
    · exact absurd hc (hn x List.mem_cons_self y)
    · rw [joinB, dec_join r false false p (fun z hz => hn z (List.mem_cons_of_mem _ hz)) hd]
theorem cut_infix : ∀ (l cur x : List UInt8), x ∈ cutGo cur l → ∃ p q, cur ++ l = p ++ x ++ q
  | [], cur, x, h => by
    simp [cutGo] at h
    exact ⟨[], [], by simp [h]⟩
  | b :: l, cur, x, h => by
    rw [cutGo] at h
    split at h
    · rcases List.mem_cons.1 h with rfl | h
      · exact ⟨[], b :: l, by simp⟩
      · obtain ⟨p, q, e⟩ := cut_infix l [] x h
        exact ⟨cur ++ b :: p, q, by rw [List.nil_append] at e; rw [e]; simp⟩
    · obtain ⟨p, q, e⟩ := cut_infix l (cur ++ [b]) x h
      exact ⟨p, q, by rw [← e]; simp⟩
theorem coded_sign {x y p q : List UInt8} (h : Coded x y) : Lib.contains (p ++ x ++ q) sign = true := by
  obtain ⟨t, ht⟩ := List.isPrefixOf_iff_prefix.1 h.1
  rw [contains_iff, ← ht]
  refine ⟨p.length, ?_, ?_⟩
  · rw [List.append_assoc, List.getElem?_append_right (Nat.le_refl _)]
    simp [head]
  · rw [List.append_assoc, List.getElem?_append_right (by omega)]
    simp [head]
theorem plain_back {l o : List UInt8} (h : Plain l) (hd : Dec true false (cutGo [] l) o) : o = l := by
  have := dec_join _ _ _ _ (fun x hx y hc => by
    obtain ⟨p, q, e⟩ := cut_infix l [] x hx
    have h1 := coded_sign (p := p) (q := q) hc
    rw [List.nil_append] at e
    rw [← e, h.2] at h1
    cases h1) hd
  rw [this, join_cut]
  simp

/-- Characters of words. -/
def signs (x : List UInt8) : Prop := ∀ b ∈ x, 33 ≤ b.toNat ∧ b.toNat ≤ 126
theorem cut_last : ∀ (x cur : List UInt8), signs x → cutGo cur x = [cur ++ x]
  | [], cur, _ => by simp [cutGo]
  | b :: x, cur, h => by
    have hb := h b List.mem_cons_self
    rw [cutGo, if_neg (by omega), cut_last x (cur ++ [b]) (fun c hc => h c (List.mem_cons_of_mem _ hc))]
    simp
theorem cut_first : ∀ (x cur r : List UInt8), signs x → cutGo cur (x ++ 32 :: r) = (cur ++ x) :: cutGo [] r
  | [], cur, r, _ => by simp [cutGo]
  | b :: x, cur, r, h => by
    have hb := h b List.mem_cons_self
    rw [List.cons_append, cutGo, if_neg (by omega), cut_first x (cur ++ [b]) r (fun c hc => h c (List.mem_cons_of_mem _ hc))]
    simp
theorem cut_join : ∀ (r : List (List UInt8)) (x : List UInt8), signs x → (∀ y ∈ r, signs y) → cutGo [] (x ++ joinB false r) = x :: r
  | [], x, h, _ => by
    rw [joinB, List.append_nil, cut_last x [] h]
    rfl
  | y :: r, x, h, hr => by
    have e : x ++ joinB false (y :: r) = x ++ 32 :: (y ++ joinB false r) := by simp [joinB]
    rw [e, cut_first x [] _ h, cut_join r y (hr y List.mem_cons_self) (fun z hz => hr z (List.mem_cons_of_mem _ hz))]
    rfl
theorem wid_word : ∀ (x : List UInt8) (w : Nat), signs x → w + x.length ≤ 200 → x.foldl step (some w) = some (w + x.length)
  | [], w, _, _ => rfl
  | b :: x, w, h, hl => by
    have hb := h b List.mem_cons_self
    simp only [List.length_cons] at hl
    rw [List.foldl_cons, st_ch (by omega) (by omega) (by omega) (by omega), wid_word x (w + 1) (fun c hc => h c (List.mem_cons_of_mem _ hc)) (by omega)]
    simp
    omega
theorem wid_join : ∀ (r : List (List UInt8)) (x : List UInt8), signs x → x ≠ [] → x.length ≤ 200 → (∀ y ∈ r, signs y ∧ y ≠ [] ∧ y.length ≤ 200) → ∃ w, wid (x ++ joinB false r) = some w ∧ 0 < w
  | [], x, h, h0, hl, _ => by
    rw [joinB, List.append_nil]
    exact ⟨0 + x.length, wid_word x 0 h (by omega), by have := List.length_pos_iff.2 h0; omega⟩
  | y :: r, x, h, h0, hl, hr => by
    have hy := hr y List.mem_cons_self
    obtain ⟨w, hw, hp⟩ := wid_join r y hy.1 hy.2.1 hy.2.2 (fun z hz => hr z (List.mem_cons_of_mem _ hz))
    refine ⟨w, ?_, hp⟩
    have e : x ++ joinB false (y :: r) = x ++ 32 :: (y ++ joinB false r) := by simp [joinB]
    rw [e]
    unfold wid
    rw [List.foldl_append, wid_word x 0 h (by omega), List.foldl_cons, st_sp (by rfl) (by have := List.length_pos_iff.2 h0; omega)]
    exact hw
theorem letter_sign : ∀ n : Fin 64, 33 ≤ (b6.L n.val).toNat ∧ (b6.L n.val).toNat ≤ 126 := by decide +kernel
theorem lsign (n : Nat) (h : n < 64) : 33 ≤ (b6.L n).toNat ∧ (b6.L n).toNat ≤ 126 := letter_sign ⟨n, h⟩
theorem enc_signs : ∀ (n : Nat) (l : List UInt8), l.length ≤ n → signs (b6.enc l)
  | n, [], _ => by simp [b6.enc, signs]
  | n, [a], _ => by
    have ha := a.toNat_lt
    intro b hb
    simp only [b6.enc, List.mem_cons, List.not_mem_nil, or_false] at hb
    rcases hb with rfl | rfl | rfl | rfl
    · exact lsign _ (by omega)
    · exact lsign _ (by omega)
    · decide
    · decide
  | n, [a, c], _ => by
    have ha := a.toNat_lt
    have hc := c.toNat_lt
    intro b hb
    simp only [b6.enc, List.mem_cons, List.not_mem_nil, or_false] at hb
    rcases hb with rfl | rfl | rfl | rfl
    · exact lsign _ (by omega)
    · exact lsign _ (by omega)
    · exact lsign _ (by omega)
    · decide
  | 0, a :: c :: d :: r, h => by simp at h
  | n + 1, a :: c :: d :: r, h => by
    have ha := a.toNat_lt
    have hc := c.toNat_lt
    have hd := d.toNat_lt
    intro b hb
    simp only [b6.enc, List.mem_cons] at hb
    have ih := enc_signs n r (by simp at h; omega)
    rcases hb with hb | hb | hb | hb | hb
    · rw [hb]; exact lsign _ (by omega)
    · rw [hb]; exact lsign _ (by omega)
    · rw [hb]; exact lsign _ (by omega)
    · rw [hb]; exact lsign _ (by omega)
    · exact ih b hb
theorem word_signs (q : List UInt8) : signs (wordL q) := by
  intro b hb
  unfold wordL at hb
  rcases List.mem_append.1 hb with hb | hb
  · rcases List.mem_append.1 hb with hb | hb
    · have : ∀ b ∈ head, 33 ≤ b.toNat ∧ b.toNat ≤ 126 := by decide
      exact this b hb
    · exact enc_signs q.length q (Nat.le_refl _) b hb
  · have : ∀ b ∈ tail, 33 ≤ b.toNat ∧ b.toNat ≤ 126 := by decide
    exact this b hb
theorem word_coded {q : List UInt8} (h : q ≠ []) (hr : ut.Right ⟨q.toArray⟩) : Coded (wordL q) q := by
  have e : (wordL q).drop 10 = b6.enc q ++ tail := by
    unfold wordL
    rw [List.append_assoc]
    exact List.drop_left (l₁ := head)
  refine ⟨?_, ?_, ?_, h, hr⟩
  · exact List.isPrefixOf_iff_prefix.2 ⟨b6.enc q ++ tail, by unfold wordL; simp⟩
  · rw [e]
    exact List.isSuffixOf_iff_suffix.2 ⟨b6.enc q, rfl⟩
  · rw [e, List.length_append, show tail.length = 2 from rfl, Nat.add_sub_cancel, List.take_left]
    exact b6.dec_enc q
theorem dec_codes : ∀ (qs : List (List UInt8)) (f was : Bool), (f = true ∨ was = true) → (∀ q ∈ qs, Coded (wordL q) q) → Dec f was (qs.map wordL) qs.flatten
  | [], f, was, _, _ => rfl
  | q :: qs, f, was, hf, h => by
    have := dec_code (f := f) (was := was) (h q List.mem_cons_self) (dec_codes qs false true (.inr rfl) (fun z hz => h z (List.mem_cons_of_mem _ hz)))
    rw [if_pos (by rcases hf with hf | hf <;> simp [hf])] at this
    simpa using this
/-- Words that follow others. -/
def rows (out : List UInt8) (qs : List (List UInt8)) : List UInt8 := qs.foldl (fun o q => o ++ sep o ++ wordL q) out
theorem word_ne (q : List UInt8) : wordL q ≠ [] := by simp [wordL, head]
theorem rows_more : ∀ (qs : List (List UInt8)) (out : List UInt8), out ≠ [] → rows out qs = out ++ joinB false (qs.map wordL)
  | [], out, _ => by simp [rows, joinB]
  | q :: qs, out, h => by
    have e : rows out (q :: qs) = rows (out ++ sep out ++ wordL q) qs := rfl
    rw [e, rows_more qs _ (by simp [word_ne]), sep, if_neg h]
    simp [joinB]
theorem ext_suf (A B : List UInt8) : (ut.mk (A ++ B)).extract A.length (ut.mk (A ++ B)).size = ut.mk B := by
  refine ut.bytes_ext ?_
  rw [Lib.extract_data, ut.mk_list, ut.mk_list, ut.mk_size]
  simp
theorem ends_chunks : ∀ (n : Nat) (zs : List Int) (out r : List UInt8), ut.Runes zs → Ends n (ut.mk (zs.flatMap ut.encB)) out r → ∃ qs : List (List UInt8), zs.flatMap ut.encB = qs.flatten ∧ (∀ q ∈ qs, q ≠ [] ∧ q.length ≤ 45 ∧ ut.Right ⟨q.toArray⟩) ∧ r = rows out qs ∧ r.length ≤ out.length + 73 + 2 * (zs.flatMap ut.encB).length ∧ (zs.flatMap ut.encB = [] → r = out) := by
  intro n
  induction n with
  | zero =>
    intro zs out r hz h
    have h1 : zs.flatMap ut.encB = [] := List.eq_nil_of_length_eq_zero (by rw [← ut.mk_size]; exact h.1)
    exact ⟨[], by rw [h1]; rfl, fun q hq => (by cases hq), h.2, by rw [h.2]; omega, fun _ => h.2⟩
  | succ n ih =>
    intro zs out r hz h
    rcases h with h | ⟨h0, k, hk, h⟩
    · have h1 : zs.flatMap ut.encB = [] := List.eq_nil_of_length_eq_zero (by rw [← ut.mk_size]; exact h.1)
      exact ⟨[], by rw [h1]; rfl, fun q hq => (by cases hq), h.2, by rw [h.2]; omega, fun _ => h.2⟩
    · obtain ⟨k0, k1, k2⟩ := cut_pos h0 hk
      obtain ⟨j, hkj, hks, hkn, hx⟩ := hk
      have hj : j ≤ zs.length := by
        by_cases e : j ≤ zs.length
        · exact e
        · have := ut.pos_lt (ut.mk (zs.flatMap ut.encB)) (show zs.length < j by omega)
          rw [ut.pos_flat_end zs hz] at this
          omega
      have hp := ut.pos_flat zs hz j hj
      have hsplit : zs.flatMap ut.encB = (zs.take j).flatMap ut.encB ++ (zs.drop j).flatMap ut.encB := by rw [← List.flatMap_append, List.take_append_drop]
      obtain ⟨A, hA⟩ : ∃ A, A = (zs.take j).flatMap ut.encB := ⟨_, rfl⟩
      obtain ⟨B, hB⟩ : ∃ B, B = (zs.drop j).flatMap ut.encB := ⟨_, rfl⟩
      have hAl : A.length = k := by rw [hA, ← hp, ← hkj]
      have e1 : (ut.mk (zs.flatMap ut.encB)).extract 0 k = ut.mk A := by rw [hsplit, ← hA, ← hAl]; exact ut.extract_pre A _
      have e2 : (ut.mk (zs.flatMap ut.encB)).extract k (ut.mk (zs.flatMap ut.encB)).size = ut.mk B := by rw [hsplit, ← hA, ← hB, ← hAl]; exact ext_suf A B
      rw [e1, e2, hB, ut.mk_list] at h
      obtain ⟨qs, q1, q2, q3, q4, q5⟩ := ih (zs.drop j) _ _ (fun r hr => hz r (List.mem_of_mem_drop hr)) h
      rw [← hB] at q1 q4 q5
      have hfl : (zs.flatMap ut.encB).length = A.length + B.length := by rw [hsplit, ← hA, ← hB, List.length_append]
      have hsl : (out ++ sep out ++ wordL A).length ≤ out.length + 1 + 72 := by
        rw [List.length_append, List.length_append, word_len]
        have : (sep out).length ≤ 1 := by unfold sep; split <;> simp
        omega
      refine ⟨A :: qs, by rw [hsplit, ← hA, ← hB, q1]; rfl, ?_, q3, ?_, fun e => ?_⟩
      · intro q hq
        rcases List.mem_cons.1 hq with rfl | hq
        · refine ⟨fun e => by rw [e] at hAl; simp at hAl; omega, by omega, ?_⟩
          have := ut.right_flat (zs.take j) (fun r hr => hz r (List.mem_of_mem_take hr))
          rw [hA]
          exact this
        · exact q2 q hq
      · by_cases hB0 : B = []
        · rw [q5 hB0]
          omega
        · have hk42 : 42 ≤ k := by
            rcases hx with hx | hx
            · rw [ut.pos, ← hkj] at hx
              have := wide4 (ut.mk (zs.flatMap ut.encB)) k
              omega
            · exfalso
              rw [ut.mk_size, hfl, hAl] at hx
              have := List.length_pos_iff.2 hB0
              omega
          omega
      · exfalso
        rw [e] at h0
        exact h0 rfl
/-- What a right text is encoded to is safe, and is read back. -/
theorem round_trip {zs : List Int} (hz : ut.Runes zs) (hl : (zs.flatMap ut.encB).length ≤ 900) {r : ByteArray} (h : EncIs (ut.mk (zs.flatMap ut.encB)) r) : Safe r.data.toList ∧ ∀ o, Dec true false (cutGo [] r.data.toList) o → o = zs.flatMap ut.encB := by
  rcases h with ⟨hp, rfl⟩ | ⟨hp, n, he⟩
  · exact ⟨hp.1, fun o ho => plain_back hp ho⟩
  · obtain ⟨qs, q1, q2, q3, q4, q5⟩ := ends_chunks n zs [] _ hz he
    match qs, q1, q2, q3 with
    | [], q1, q2, q3 =>
      exfalso
      apply hp
      rw [ut.mk_list, q1]
      exact ⟨⟨by simp, .inl rfl⟩, rfl⟩
    | q :: qs, q1, q2, q3 =>
      have e : r.data.toList = wordL q ++ joinB false (qs.map wordL) := by
        rw [q3]
        have : rows [] (q :: qs) = rows (wordL q) qs := rfl
        rw [this, rows_more qs _ (word_ne q)]
      have hws : ∀ y ∈ qs.map wordL, signs y ∧ y ≠ [] ∧ y.length ≤ 200 := fun y hy => by
        obtain ⟨z, hz, rfl⟩ := List.mem_map.1 hy
        refine ⟨word_signs z, word_ne z, ?_⟩
        have := (q2 z (List.mem_cons_of_mem _ hz)).2.1
        rw [word_len]
        omega
      have hq := q2 q List.mem_cons_self
      constructor
      · refine ⟨by rw [List.length_nil] at q4; omega, .inr ?_⟩
        rw [e]
        exact wid_join _ _ (word_signs q) (word_ne q) (by rw [word_len]; omega) hws
      · intro o ho
        rw [e, cut_join _ _ (word_signs q) (fun y hy => (hws y hy).1)] at ho
        have := dec_codes (q :: qs) true false (.inl rfl) (fun z hz => word_coded (q2 z hz).1 (q2 z hz).2.2)
        rw [q1]
        exact dec_one _ _ _ _ _ ho this
end Go.Proofs.YtinnnfkhiigjpaaGreat.hd

namespace Go.Proofs.YtinnnfkhiigjpaaGreat.ut
open Go.RowKit
set_option linter.unusedVariables false

theorem F_sc (n k b0 b1 b2 b3 : Nat) : scB (((decF n k b0 b1 b2 b3).1 : Nat) : Int) = true := by
  have hs : ∀ c : Nat, Utf8.valid (c : Int) = true → scB (c : Int) = true := by
    intro c h
    rw [valid_nat] at h
    simp [scB, inB]
    omega
  unfold decF
  split
  · simp [scB, inB]; omega
  split
  · split
    · simp only; simp [scB, inB]; omega
    · rfl
  split
  · split
    · rename_i g; simp only [Bool.and_eq_true] at g; exact hs _ g.2
    · rfl
  split
  · split
    · rename_i g; simp only [Bool.and_eq_true] at g; exact hs _ g.2
    · rfl
  · rfl
theorem runesL_sc (s : ByteArray) (n : Nat) : Runes (runesL s n) := by
  induction n with
  | zero => intro r hr; cases hr
  | succ n ih =>
    intro r hr
    rw [runesL] at hr
    rcases List.mem_append.1 hr with h | h
    · exact ih r h
    · rw [List.mem_singleton.1 h, dec_eq]
      exact F_sc _ _ _ _ _ _
theorem fix_flat (s : ByteArray) (n : Nat) (h : pos s n = s.size) : fixL s n = (runesL s n).flatMap encB := by
  have h1 := runes_fix s n (fun m hm => by rw [← h]; exact pos_lt s hm)
  have h2 := flat_runes (runesL s n)
  rw [h2] at h1
  exact h1.symm
theorem fix_right (s : ByteArray) (hr : Right s) (n : Nat) (h : pos s n ≤ s.size) : fixL s n = s.data.toList.take (pos s n) := by
  induction n with
  | zero => simp [fixL, pos]
  | succ n ih =>
    have hup := pos_up s n
    have hlt : pos s n < s.size := by omega
    rw [fixL, ih (by omega), piece_good (hr n hlt), Lib.extract_data, show pos s n + (Utf8.decode s (pos s n)).2 - pos s n = (Utf8.decode s (pos s n)).2 from by omega]
    rw [show pos s (n + 1) = pos s n + (Utf8.decode s (pos s n)).2 from rfl, List.take_add]
end Go.Proofs.YtinnnfkhiigjpaaGreat.ut

namespace Go.Proofs.YtinnnfkhiigjpaaGreat.ow
open Go.RowKit
set_option linter.unusedVariables false

/-- A slice of bytes whose cells the call may write, as far as its room goes. -/
def OwnC (w : World) (base : Nat) (v : Value) (l : List UInt8) : Prop :=
  ∃ g cap, v = .slice (some ⟨g, 0, none⟩) l.length cap ∧ base ≤ g ∧ g < w.heap.size ∧ l.length ≤ cap ∧ cap ≤ maxLen ∧
    (∀ j, j < cap → (w.cell? ⟨g, j, none⟩).isSome = true ∧ w.frozen? ⟨g, j, none⟩ = false) ∧ ∀ j, j < l.length → w.cell? ⟨g, j, none⟩ = some (.int .u8 ((l.getD j 0).toNat : Int))

/-- The bytes of a block. -/
theorem ownC_new {w : World} {g cap : Nat} {e : TypeId} {fz : Nat × Nat} {cs : Array Value} {base : Nat} (l : List UInt8) (hg : w.heap[g]? = some (.cells cs e fz)) (hs : cs.size = cap) (hf : fz = (0, 0) ∨ cap ≤ fz.1) (hb : base ≤ g) (hl : l.length ≤ cap) (hm : cap ≤ maxLen)
    (hc : ∀ j, j < l.length → cs[j]? = some (.int .u8 ((l.getD j 0).toNat : Int))) : OwnC w base (.slice (some ⟨g, 0, none⟩) l.length cap) l := by
  have hcell : ∀ j, w.cell? ⟨g, j, none⟩ = cs[j]? := fun j => cell_of_row w g j _ e fz hg
  refine ⟨g, cap, rfl, hb, (Array.getElem?_eq_some_iff.1 hg).1, hl, hm, fun j hj => ⟨?_, ?_⟩, fun j hj => ?_⟩
  · rw [hcell, Array.getElem?_eq_getElem (by omega)]
    rfl
  · obtain ⟨lo, hi⟩ := fz
    simp only [World.frozen?, hg]
    rcases hf with hf | hf
    · cases hf
      simp
    · simp only at hf
      simp only [Bool.and_eq_false_iff, decide_eq_false_iff_not]
      left
      omega
  · rw [hcell]
    exact hc j hj

theorem grow {w : World} {base cap : Nat} {e : TypeId} (l news : List UInt8) (hb : base ≤ w.heap.size) (hm : cap ≤ maxLen) (hc : l.length + news.length ≤ cap) :
    OwnC (w.drew.alloc (.cells ((Lib.byteCells l).toArray ++ (Lib.byteCells news).toArray ++ Builtin.zeroCells (Value.int .u8 0).cells (cap - (l.length + news.length))) e)) base (.slice (some ⟨w.heap.size, 0, none⟩) (l ++ news).length cap) (l ++ news) := by
  refine ownC_new (l ++ news) (heap_alloc_new w.drew _) ?_ (.inl rfl) hb (by rw [List.length_append]; exact hc) hm (fun j hj => ?_)
  · rw [Array.size_append, Array.size_append, List.size_toArray, List.size_toArray, size_zeroCells, Lib.byteCells_length, Lib.byteCells_length]
    show _ + (cap - (l.length + news.length)) * 1 = cap
    omega
  · rw [List.length_append] at hj
    have e1 : (Lib.byteCells l).toArray ++ (Lib.byteCells news).toArray = (Lib.byteCells (l ++ news)).toArray := by rw [Lib.byteCells_append]; simp
    rw [e1, Array.getElem?_append_left (by rw [List.size_toArray, Lib.byteCells_length, List.length_append]; exact hj)]
    have hj2 : j < (l ++ news).length := by rw [List.length_append]; exact hj
    clear e1
    generalize l ++ news = q at hj2 ⊢
    simp [Lib.byteCells, List.getD_eq_getElem?_getD, hj2]

section
variable {P : Program} (w : World)
end
end Go.Proofs.YtinnnfkhiigjpaaGreat.ow

namespace Go.Proofs.YtinnnfkhiigjpaaGreat.hd
open Go.RowKit
set_option linter.unusedVariables false

theorem infoStr : (Tryz.prog.info? 9).map (fun i => (i.zero, i.size, i.bytes)) = some (some (.string ByteArray.empty), 1, 16) := by kernel_rfl
/-- A text as a value. -/
def tv (l : List UInt8) : Value := .string ⟨l.toArray⟩
def piece (s : ByteArray) (f i : Nat) : List UInt8 := (s.data.toList.drop f).take (i - f)
theorem tv_piece (s : ByteArray) (f i : Nat) : tv (piece s f i) = .string (s.extract f i) := by
  unfold tv piece
  congr 1
  apply ByteArray.ext
  rw [← Array.toList_inj]
  show (List.take _ _).toArray.toList = _
  rw [List.toList_toArray, ← Lib.toList_data (s.extract f i), Lib.extract_toList]
theorem drop_at (s : ByteArray) (i : Nat) (h : i < s.size) : s.data.toList.drop i = s[i] :: s.data.toList.drop (i + 1) := by
  rw [List.drop_eq_getElem_cons (by simpa using h)]
  rfl
theorem cut_blank {s : ByteArray} {f i : Nat} {ws : List (List UInt8)} (h : ws ++ cutGo (piece s f i) (s.data.toList.drop i) = cutGo [] s.data.toList) (hi : i < s.size) (hb : (s[i]'hi).toNat = 32) :
    (ws ++ [piece s f i]) ++ cutGo (piece s (i + 1) (i + 1)) (s.data.toList.drop (i + 1)) = cutGo [] s.data.toList := by
  rw [drop_at s i hi, cutGo, if_pos hb] at h
  rw [← h, show piece s (i + 1) (i + 1) = [] from by simp [piece], List.append_assoc]
  rfl
theorem cut_sign {s : ByteArray} {f i : Nat} {ws : List (List UInt8)} (h : ws ++ cutGo (piece s f i) (s.data.toList.drop i) = cutGo [] s.data.toList) (hf : f ≤ i) (hi : i < s.size) (hb : (s[i]'hi).toNat ≠ 32) :
    ws ++ cutGo (piece s f (i + 1)) (s.data.toList.drop (i + 1)) = cutGo [] s.data.toList := by
  rw [drop_at s i hi, cutGo, if_neg hb] at h
  rw [← h, show piece s f (i + 1) = piece s f i ++ [s[i]] from Lib.piece_more hf (by rw [List.getElem?_eq_getElem (by simpa using hi)]; rfl)]
theorem cut_end {s : ByteArray} {f i : Nat} {ws : List (List UInt8)} (h : ws ++ cutGo (piece s f i) (s.data.toList.drop i) = cutGo [] s.data.toList) (hi : s.size ≤ i) : ws ++ [piece s f i] = cutGo [] s.data.toList := by
  rw [List.drop_eq_nil_of_le (by rw [← Lib.size_eq]; exact hi)] at h
  exact h

set_option maxHeartbeats 2000000 in
set_option maxRecDepth 100000 in
theorem cut_any (s : ByteArray) (w : World) (hs : s.size ≤ 1048576) :
    Calls Tryz.prog 96 #[.string s, .int .u8 32] w fun e w' => ∃ v, e = .returned v ∧ w'.ownsRow w.heap.size 9 1 v (cutGo [] s.data.toList).length ((cutGo [] s.data.toList).map tv) ∧ Below w.heap.size w w' := by
  obtain ⟨i0, hi, hz0, hz1, hz2⟩ := info_parts infoStr
  go_enter Tryz.func96, Tryz.ntmps96
  go_wp2
  go_loopw [5, 6, 7] (fun v a b wr => ∃ (f i : Nat) (ws : List (List UInt8)), f ≤ i ∧ i ≤ s.size ∧ a = .int .i64 f ∧ b = .int .i64 i ∧ ws.length ≤ i ∧ wr.ownsRow w.heap.size 9 1 v ws.length (ws.map tv) ∧ Below w.heap.size w wr ∧ ws ++ cutGo (piece s f i) (s.data.toList.drop i) = cutGo [] s.data.toList) (fun _ _ b _ => s.size - (intOf b).toNat)
  case atStart => exact ⟨0, 0, [], Nat.le_refl _, Nat.zero_le _, rfl, rfl, Nat.le_refl _, ow.own_empty w _, (Below.refl _ _).alloc (Nat.le_refl _) _, rfl⟩
  case round =>
    obtain ⟨f, i, ws, hfi, his, rfl, rfl, hwl, hown, hbw, hc⟩ := hrel
    have HC : Hid (ws ++ cutGo (piece s f i) (s.data.toList.drop i) = cutGo [] s.data.toList) := hc
    clear hc
    have hBs := hbw.size
    have c1 : (0 : Int) ≤ (f : Int) := by omega
    have c2 : (f : Int) ≤ (i : Int) := by omega
    have c3 : (i : Int) ≤ (s.size : Int) := by omega
    by_cases hlt : i < s.size
    · by_cases hb : (s[i]'hlt).toNat = 32
      · have d1 : (((s[i]'hlt).toNat : Int) == 32) = true := beq_iff_eq.2 (by omega)
        have HB : Hid ((s[i]'hlt).toNat = 32) := hb
        clear hb
        go_wp2_with (at_builtin; refine wpList_append_own _ rfl _ _ 36 rfl w.heap.size 9 i0 (.string ByteArray.empty) 1 16 Tryz.underlying36 hi hz0 hz1 hz2 rfl (by decide) _ _ _ rfl (hown.alloc _) ⟨wr.heap.size, 0, none⟩ 1 1 [.string (s.extract f i)] rfl rfl (ow.cells_new _ [.string (s.extract f i)] _) (by intro u hu; simp at hu; subst hu; rfl) (by unfold maxLen; omega) (by omega) (by simp; omega) ?_; intro v' w3 hown3 hgrow3 hnil3)
        have hb3 := Below.grown (hbw.alloc hBs _) hgrow3 (by simp; omega) (ow.own_lt hown)
        have HA : Hid (w3.ownsRow w.heap.size 9 1 v' (ws ++ [piece s f i]).length ((ws ++ [piece s f i]).map tv) ∧ Below w.heap.size w w3) := ⟨by rw [List.map_append, List.map_cons, tv_piece, List.length_append]; exact hown3, hb3⟩
        clear hown3 hgrow3 hnil3 hb3 hown hbw
        go_wp2
        go_roundw
        case rel => exact ⟨i + 1, i + 1, ws ++ [piece s f i], Nat.le_refl _, by omega, by go_num, by go_num, by simp; omega, HA.out.1, HA.out.2, cut_blank HC.out hlt HB.out⟩
        case measure => simp [intOf]; omega
      · have d1 : (((s[i]'hlt).toNat : Int) == 32) = false := beq_eq_false_iff_ne.2 (by omega)
        go_wp2
        go_roundw
        case rel => exact ⟨f, i + 1, ws, by omega, by omega, rfl, by go_num, by omega, hown, hbw, cut_sign HC.out hfi hlt hb⟩
        case measure => simp [intOf]; omega
    · have c4 : (f : Int) ≤ (s.size : Int) := by omega
      go_wp2_with (at_builtin; refine wpList_append_own _ rfl _ _ 36 rfl w.heap.size 9 i0 (.string ByteArray.empty) 1 16 Tryz.underlying36 hi hz0 hz1 hz2 rfl (by decide) _ _ _ rfl (hown.alloc _) ⟨wr.heap.size, 0, none⟩ 1 1 [.string (s.extract f s.size)] rfl rfl (ow.cells_new _ [.string (s.extract f s.size)] _) (by intro u hu; simp at hu; subst hu; rfl) (by unfold maxLen; omega) (by omega) (by simp; omega) ?_; intro v' w3 hown3 hgrow3 hnil3)
      have hb3 := Below.grown (hbw.alloc hBs _) hgrow3 (by simp; omega) (ow.own_lt hown)
      have HA : Hid (w3.ownsRow w.heap.size 9 1 v' (cutGo [] s.data.toList).length ((cutGo [] s.data.toList).map tv) ∧ Below w.heap.size w w3) := by
        have e : i = s.size := by omega
        have hc := cut_end HC.out (by omega)
        rw [← hc, List.map_append, List.map_cons, tv_piece, List.length_append, e]
        exact ⟨hown3, hb3⟩
      clear hown3 hgrow3 hnil3 hb3 hown hbw HC
      go_wp2
      go_ret
      exact ⟨v', rfl, HA.out⟩
end Go.Proofs.YtinnnfkhiigjpaaGreat.hd

namespace Go.Proofs.YtinnnfkhiigjpaaGreat.hn
open Go.RowKit
set_option linter.unusedVariables false

def Says (p : Prop) (e : Ending) : Prop := ∃ b : Bool, e = .returned (.bool b) ∧ (b = true ↔ p)
theorem says_no {p : Prop} (h : ¬ p) : Says p (.returned (.bool false)) := ⟨false, rfl, fun x => (by cases x), fun x => absurd x h⟩
theorem says_yes {p : Prop} (h : p) : Says p (.returned (.bool true)) := ⟨true, rfl, fun _ => h, fun _ => rfl⟩

/-- The byte at a place may stand in a field's name. -/
def good (s : ByteArray) (j : Nat) : Prop := ∃ h : j < s.size, 33 ≤ ((s[j]'h).toNat : Int) ∧ ((s[j]'h).toNat : Int) ≤ 126 ∧ ((s[j]'h).toNat : Int) ≠ 58
/-- A text is a field's name. -/
def IsName (s : ByteArray) : Prop := 1 ≤ s.size ∧ s.size ≤ 40 ∧ ∀ j, j < s.size → good s j
theorem not_name {s : ByteArray} {k : Nat} (h : k < s.size) (hb : ((s[k]'h).toNat : Int) < 33 ∨ 126 < ((s[k]'h).toNat : Int) ∨ ((s[k]'h).toNat : Int) = 58) : ¬ IsName s := by
  rintro ⟨_, _, hg⟩
  obtain ⟨h', h1, h2, h3⟩ := hg k h
  omega
theorem no_size {s : ByteArray} (h : s.size = 0 ∨ 40 < s.size) : ¬ IsName s := fun x => by have h1 := x.1; have h2 := x.2.1; omega
theorem step {s : ByteArray} {k : Nat} (hg : ∀ j, j < k → good s j) (h : k < s.size) (hx : 33 ≤ ((s[k]'h).toNat : Int)) (hx2 : ((s[k]'h).toNat : Int) ≤ 126) (hx3 : ((s[k]'h).toNat : Int) ≠ 58) : ∀ j, j < k + 1 → good s j := by
  intro j hj
  by_cases e : j = k
  · subst e; exact ⟨h, hx, hx2, hx3⟩
  · exact hg j (by omega)

def inB (n a b : Int) : Bool := decide (a ≤ n ∧ n ≤ b)
set_option maxHeartbeats 400000 in
theorem in_any (n a b : Int) (w : World) : Calls Tryz.prog 35 #[.int .i64 n, .int .i64 a, .int .i64 b] w fun e w' => e = .returned (.bool (inB n a b)) ∧ w' = w := by
  by_cases h : a ≤ n
  · go_enter Tryz.func35, Tryz.ntmps35
    go_wp2
    all_goals (go_ret; exact ⟨by simp [inB, h], rfl⟩)
  · have h' : decide (a ≤ n) = false := decide_eq_false h
    go_enter Tryz.func35, Tryz.ntmps35
    go_wp2
    all_goals (go_ret; exact ⟨by rw [show inB n a b = false from decide_eq_false (by omega)]; rfl, rfl⟩)
theorem in_yes {n a b : Int} (h : a ≤ n) (h' : n ≤ b) : inB n a b = true := decide_eq_true ⟨h, h'⟩
theorem in_no {n a b : Int} (h : n < a ∨ b < n) : inB n a b = false := decide_eq_false (by omega)

end Go.Proofs.YtinnnfkhiigjpaaGreat.hn
