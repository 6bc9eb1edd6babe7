/-
  Plain facts on encoded words: what is encoded is safe, and is read back.
  Plain facts on repairing: what is read are runes, what is repaired is right, and what is right stays.
  A row of bytes that a call made, cell by cell: also one that a text was turned into, behind which a mark lies; appending to it.
-/
import Derived.Test.YtinnnfkhiigjpaaPkaf
import Derived.Test.YtinnnfkhiigjpaaPkah
import Derived.Test.YtinnnfkhiigjpaaPkai
import Derived.Test.YtinnnfkhiigjpaaPkag
import Derived.Laws.IdiomCopy
import Derived.Laws.Append
import Derived.Maps.AppendAt

namespace Go.Proofs.Ytinnnfkhiigjpaa.hd
open Go
set_option linter.unusedVariables false

/-- Words with blanks between. -/
def joinB : Bool → List (List UInt8) → List UInt8
  | _, [] => []
  | f, x :: r => (if f then [] else [32]) ++ x ++ joinB false r
theorem join_cut : ∀ (l cur : List UInt8) (f : Bool), joinB f (cutGo cur l) = (if f then [] else [32]) ++ cur ++ l
  | [], cur, f => by simp [cutGo, joinB]
  | b :: l, cur, f => by
    rw [cutGo]
    split
    · rename_i h
      have hb : b = 32 := by rw [← UInt8.toNat_inj]; exact h
      rw [joinB, join_cut l [] false]
      simp [hb]
    · rw [join_cut l (cur ++ [b]) f]
      simp
theorem dec_join : ∀ (ws : List (List UInt8)) (f was : Bool) (o : List UInt8), (∀ x ∈ ws, ∀ y, ¬ Coded x y) → Dec f was ws o → o = joinB f ws
  | [], f, was, o, _, h => h
  | x :: r, f, was, o, hn, h => by
    rcases h with ⟨y, p, hc, _⟩ | ⟨_, p, hd, rfl⟩
    · exact absurd hc (hn x List.mem_cons_self y)
    · rw [joinB, dec_join r false false p (fun z hz => hn z (List.mem_cons_of_mem _ hz)) hd]
theorem cut_infix : ∀ (l cur x : List UInt8), x ∈ cutGo cur l → ∃ p q, cur ++ l = p ++ x ++ q
  | [], cur, x, h => by
    simp [cutGo] at h
    exact ⟨[], [], by simp [h]⟩
  | b :: l, cur, x, h => by
    rw [cutGo] at h
    split at h
    · rcases List.mem_cons.1 h with rfl | h
      · exact ⟨[], b :: l, by simp⟩
      · obtain ⟨p, q, e⟩ := cut_infix l [] x h
        exact ⟨cur ++ b :: p, q, by rw [List.nil_append] at e; rw [e]; simp⟩
    · obtain ⟨p, q, e⟩ := cut_infix l (cur ++ [b]) x h
      exact ⟨p, q, by rw [← e]; simp⟩
theorem coded_sign {x y p q : List UInt8} (h : Coded x y) : Lib.contains (p ++ x ++ q) sign = true := by
  obtain ⟨t, ht⟩ := List.isPrefixOf_iff_prefix.1 h.1
  rw [contains_iff, ← ht]
  refine ⟨p.length, ?_, ?_⟩
  · rw [List.append_assoc, List.getElem?_append_right (Nat.le_refl _)]
    simp [head]
  · rw [List.append_assoc, List.getElem?_append_right (by omega)]
    simp [head]
theorem plain_back {l o : List UInt8} (h : Plain l) (hd : Dec true false (cutGo [] l) o) : o = l := by
  have := dec_join _ _ _ _ (fun x hx y hc => by
    obtain ⟨p, q, e⟩ := cut_infix l [] x hx
    have h1 := coded_sign (p := p) (q := q) hc
    rw [List.nil_append] at e
    rw [← e, h.2] at h1
    cases h1) hd
  rw [this, join_cut]
  simp

/-- Characters of words. -/
def signs (x : List UInt8) : Prop := ∀ b ∈ x, 33 ≤ b.toNat ∧ b.toNat ≤ 126
theorem cut_last : ∀ (x cur : List UInt8), signs x → cutGo cur x = [cur ++ x]
  | [], cur, _ => by simp [cutGo]
  | b :: x, cur, h => by
    have hb := h b List.mem_cons_self
    rw [cutGo, if_neg (by omega), cut_last x (cur ++ [b]) (fun c hc => h c (List.mem_cons_of_mem _ hc))]
    simp
theorem cut_first : ∀ (x cur r : List UInt8), signs x → cutGo cur (x ++ 32 :: r) = (cur ++ x) :: cutGo [] r
  | [], cur, r, _ => by simp [cutGo]
  | b :: x, cur, r, h => by
    have hb := h b List.mem_cons_self
    rw [List.cons_append, cutGo, if_neg (by omega), cut_first x (cur ++ [b]) r (fun c hc => h c (List.mem_cons_of_mem _ hc))]
    simp
theorem cut_join : ∀ (r : List (List UInt8)) (x : List UInt8), signs x → (∀ y ∈ r, signs y) → cutGo [] (x ++ joinB false r) = x :: r
  | [], x, h, _ => by
    rw [joinB, List.append_nil, cut_last x [] h]
    rfl
  | y :: r, x, h, hr => by
    have e : x ++ joinB false (y :: r) = x ++ 32 :: (y ++ joinB false r) := by simp [joinB]
    rw [e, cut_first x [] _ h, cut_join r y (hr y List.mem_cons_self) (fun z hz => hr z (List.mem_cons_of_mem _ hz))]
    rfl
theorem wid_word : ∀ (x : List UInt8) (w : Nat), signs x → w + x.length ≤ 200 → x.foldl step (some w) = some (w + x.length)
  | [], w, _, _ => rfl
  | b :: x, w, h, hl => by
    have hb := h b List.mem_cons_self
    simp only [List.length_cons] at hl
    rw [List.foldl_cons, st_ch (by omega) (by omega) (by omega) (by omega), wid_word x (w + 1) (fun c hc => h c (List.mem_cons_of_mem _ hc)) (by omega)]
    simp
    omega
theorem wid_join : ∀ (r : List (List UInt8)) (x : List UInt8), signs x → x ≠ [] → x.length ≤ 200 → (∀ y ∈ r, signs y ∧ y ≠ [] ∧ y.length ≤ 200) → ∃ w, wid (x ++ joinB false r) = some w ∧ 0 < w
  | [], x, h, h0, hl, _ => by
    rw [joinB, List.append_nil]
    exact ⟨0 + x.length, wid_word x 0 h (by omega), by have := List.length_pos_iff.2 h0; omega⟩
  | y :: r, x, h, h0, hl, hr => by
    have hy := hr y List.mem_cons_self
    obtain ⟨w, hw, hp⟩ := wid_join r y hy.1 hy.2.1 hy.2.2 (fun z hz => hr z (List.mem_cons_of_mem _ hz))
    refine ⟨w, ?_, hp⟩
    have e : x ++ joinB false (y :: r) = x ++ 32 :: (y ++ joinB false r) := by simp [joinB]
    rw [e]
    unfold wid
    rw [List.foldl_append, wid_word x 0 h (by omega), List.foldl_cons, st_sp (by rfl) (by have := List.length_pos_iff.2 h0; omega)]
    exact hw
theorem letter_sign : ∀ n : Fin 64, 33 ≤ (b6.L n.val).toNat ∧ (b6.L n.val).toNat ≤ 126 := by decide +kernel
theorem lsign (n : Nat) (h : n < 64) : 33 ≤ (b6.L n).toNat ∧ (b6.L n).toNat ≤ 126 := letter_sign ⟨n, h⟩
theorem enc_signs : ∀ (n : Nat) (l : List UInt8), l.length ≤ n → signs (b6.enc l)
  | n, [], _ => by simp [b6.enc, signs]
  | n, [a], _ => by
    have ha := a.toNat_lt
    intro b hb
    simp only [b6.enc, List.mem_cons, List.not_mem_nil, or_false] at hb
    rcases hb with rfl | rfl | rfl | rfl
    · exact lsign _ (by omega)
    · exact lsign _ (by omega)
    · decide
    · decide
  | n, [a, c], _ => by
    have ha := a.toNat_lt
    have hc := c.toNat_lt
    intro b hb
    simp only [b6.enc, List.mem_cons, List.not_mem_nil, or_false] at hb
    rcases hb with rfl | rfl | rfl | rfl
    · exact lsign _ (by omega)
    · exact lsign _ (by omega)
    · exact lsign _ (by omega)
    · decide
  | 0, a :: c :: d :: r, h => by simp at h
  | n + 1, a :: c :: d :: r, h => by
    have ha := a.toNat_lt
    have hc := c.toNat_lt
    have hd := d.toNat_lt
    intro b hb
    simp only [b6.enc, List.mem_cons] at hb
    have ih := enc_signs n r (by simp at h; omega)
    rcases hb with hb | hb | hb | hb | hb
    · rw [hb]; exact lsign _ (by omega)
    · rw [hb]; exact lsign _ (by omega)
    · rw [hb]; exact lsign _ (by omega)
    · rw [hb]; exact lsign _ (by omega)
    · exact ih b hb
theorem word_signs (q : List UInt8) : signs (wordL q) := by
  intro b hb
  unfold wordL at hb
  rcases List.mem_append.1 hb with hb | hb
  · rcases List.mem_append.1 hb with hb | hb
    · have : ∀ b ∈ head, 33 ≤ b.toNat ∧ b.toNat ≤ 126 := by decide
      exact this b hb
    · exact enc_signs q.length q (Nat.le_refl _) b hb
  · have : ∀ b ∈ tail, 33 ≤ b.toNat ∧ b.toNat ≤ 126 := by decide
    exact this b hb
theorem word_coded {q : List UInt8} (h : q ≠ []) (hr : ut.Right ⟨q.toArray⟩) : Coded (wordL q) q := by
  have e : (wordL q).drop 10 = b6.enc q ++ tail := by
    unfold wordL
    rw [List.append_assoc]
    exact List.drop_left (l₁ := head)
  refine ⟨?_, ?_, ?_, h, hr⟩
  · exact List.isPrefixOf_iff_prefix.2 ⟨b6.enc q ++ tail, by unfold wordL; simp⟩
  · rw [e]
    exact List.isSuffixOf_iff_suffix.2 ⟨b6.enc q, rfl⟩
  · rw [e, List.length_append, show tail.length = 2 from rfl, Nat.add_sub_cancel, List.take_left]
    exact b6.dec_enc q
theorem dec_codes : ∀ (qs : List (List UInt8)) (f was : Bool), (f = true ∨ was = true) → (∀ q ∈ qs, Coded (wordL q) q) → Dec f was (qs.map wordL) qs.flatten
  | [], f, was, _, _ => rfl
  | q :: qs, f, was, hf, h => by
    have := dec_code (f := f) (was := was) (h q List.mem_cons_self) (dec_codes qs false true (.inr rfl) (fun z hz => h z (List.mem_cons_of_mem _ hz)))
    rw [if_pos (by rcases hf with hf | hf <;> simp [hf])] at this
    simpa using this
/-- Words that follow others. -/
def rows (out : List UInt8) (qs : List (List UInt8)) : List UInt8 := qs.foldl (fun o q => o ++ sep o ++ wordL q) out
theorem word_ne (q : List UInt8) : wordL q ≠ [] := by simp [wordL, head]
theorem rows_more : ∀ (qs : List (List UInt8)) (out : List UInt8), out ≠ [] → rows out qs = out ++ joinB false (qs.map wordL)
  | [], out, _ => by simp [rows, joinB]
  | q :: qs, out, h => by
    have e : rows out (q :: qs) = rows (out ++ sep out ++ wordL q) qs := rfl
    rw [e, rows_more qs _ (by simp [word_ne]), sep, if_neg h]
    simp [joinB]
theorem ext_suf (A B : List UInt8) : (ut.mk (A ++ B)).extract A.length (ut.mk (A ++ B)).size = ut.mk B := by
  refine ut.bytes_ext ?_
  rw [Lib.extract_data, ut.mk_list, ut.mk_list, ut.mk_size]
  simp
theorem ends_chunks : ∀ (n : Nat) (zs : List Int) (out r : List UInt8), ut.Runes zs → Ends n (ut.mk (zs.flatMap ut.encB)) out r → ∃ qs : List (List UInt8), zs.flatMap ut.encB = qs.flatten ∧ (∀ q ∈ qs, q ≠ [] ∧ q.length ≤ 45 ∧ ut.Right ⟨q.toArray⟩) ∧ r = rows out qs ∧ r.length ≤ out.length + 73 + 2 * (zs.flatMap ut.encB).length ∧ (zs.flatMap ut.encB = [] → r = out) := by
  intro n
  induction n with
  | zero =>
    intro zs out r hz h
    have h1 : zs.flatMap ut.encB = [] := List.eq_nil_of_length_eq_zero (by rw [← ut.mk_size]; exact h.1)
    exact ⟨[], by rw [h1]; rfl, fun q hq => (by cases hq), h.2, by rw [h.2]; omega, fun _ => h.2⟩
  | succ n ih =>
    intro zs out r hz h
    rcases h with h | ⟨h0, k, hk, h⟩
    · have h1 : zs.flatMap ut.encB = [] := List.eq_nil_of_length_eq_zero (by rw [← ut.mk_size]; exact h.1)
      exact ⟨[], by rw [h1]; rfl, fun q hq => (by cases hq), h.2, by rw [h.2]; omega, fun _ => h.2⟩
    · obtain ⟨k0, k1, k2⟩ := cut_pos h0 hk
      obtain ⟨j, hkj, hks, hkn, hx⟩ := hk
      have hj : j ≤ zs.length := by
        by_cases e : j ≤ zs.length
        · exact e
        · have := ut.pos_lt (ut.mk (zs.flatMap ut.encB)) (show zs.length < j by omega)
          rw [ut.pos_flat_end zs hz] at this
          omega
      have hp := ut.pos_flat zs hz j hj
      have hsplit : zs.flatMap ut.encB = (zs.take j).flatMap ut.encB ++ (zs.drop j).flatMap ut.encB := by rw [← List.flatMap_append, List.take_append_drop]
      obtain ⟨A, hA⟩ : ∃ A, A = (zs.take j).flatMap ut.encB := ⟨_, rfl⟩
      obtain ⟨B, hB⟩ : ∃ B, B = (zs.drop j).flatMap ut.encB := ⟨_, rfl⟩
      have hAl : A.length = k := by rw [hA, ← hp, ← hkj]
      have e1 : (ut.mk (zs.flatMap ut.encB)).extract 0 k = ut.mk A := by rw [hsplit, ← hA, ← hAl]; exact ut.extract_pre A _
      have e2 : (ut.mk (zs.flatMap ut.encB)).extract k (ut.mk (zs.flatMap ut.encB)).size = ut.mk B := by rw [hsplit, ← hA, ← hB, ← hAl]; exact ext_suf A B
      rw [e1, e2, hB, ut.mk_list] at h
      obtain ⟨qs, q1, q2, q3, q4, q5⟩ := ih (zs.drop j) _ _ (fun r hr => hz r (List.mem_of_mem_drop hr)) h
      rw [← hB] at q1 q4 q5
      have hfl : (zs.flatMap ut.encB).length = A.length + B.length := by rw [hsplit, ← hA, ← hB, List.length_append]
      have hsl : (out ++ sep out ++ wordL A).length ≤ out.length + 1 + 72 := by
        rw [List.length_append, List.length_append, word_len]
        have : (sep out).length ≤ 1 := by unfold sep; split <;> simp
        omega
      refine ⟨A :: qs, by rw [hsplit, ← hA, ← hB, q1]; rfl, ?_, q3, ?_, fun e => ?_⟩
      · intro q hq
        rcases List.mem_cons.1 hq with rfl | hq
        · refine ⟨fun e => by rw [e] at hAl; simp at hAl; omega, by omega, ?_⟩
          have := ut.right_flat (zs.take j) (fun r hr => hz r (List.mem_of_mem_take hr))
          rw [hA]
          exact this
        · exact q2 q hq
      · by_cases hB0 : B = []
        · rw [q5 hB0]
          omega
        · have hk42 : 42 ≤ k := by
            rcases hx with hx | hx
            · rw [ut.pos, ← hkj] at hx
              have := wide4 (ut.mk (zs.flatMap ut.encB)) k
              omega
            · exfalso
              rw [ut.mk_size, hfl, hAl] at hx
              have := List.length_pos_iff.2 hB0
              omega
          omega
      · exfalso
        rw [e] at h0
        exact h0 rfl
/-- What a right text is encoded to is safe, and is read back. -/
theorem round_trip {zs : List Int} (hz : ut.Runes zs) (hl : (zs.flatMap ut.encB).length ≤ 900) {r : ByteArray} (h : EncIs (ut.mk (zs.flatMap ut.encB)) r) : Safe r.data.toList ∧ ∀ o, Dec true false (cutGo [] r.data.toList) o → o = zs.flatMap ut.encB := by
  rcases h with ⟨hp, rfl⟩ | ⟨hp, n, he⟩
  · exact ⟨hp.1, fun o ho => plain_back hp ho⟩
  · obtain ⟨qs, q1, q2, q3, q4, q5⟩ := ends_chunks n zs [] _ hz he
    match qs, q1, q2, q3 with
    | [], q1, q2, q3 =>
      exfalso
      apply hp
      rw [ut.mk_list, q1]
      exact ⟨⟨by simp, .inl rfl⟩, rfl⟩
    | q :: qs, q1, q2, q3 =>
      have e : r.data.toList = wordL q ++ joinB false (qs.map wordL) := by
        rw [q3]
        have : rows [] (q :: qs) = rows (wordL q) qs := rfl
        rw [this, rows_more qs _ (word_ne q)]
      have hws : ∀ y ∈ qs.map wordL, signs y ∧ y ≠ [] ∧ y.length ≤ 200 := fun y hy => by
        obtain ⟨z, hz, rfl⟩ := List.mem_map.1 hy
        refine ⟨word_signs z, word_ne z, ?_⟩
        have := (q2 z (List.mem_cons_of_mem _ hz)).2.1
        rw [word_len]
        omega
      have hq := q2 q List.mem_cons_self
      constructor
      · refine ⟨by rw [List.length_nil] at q4; omega, .inr ?_⟩
        rw [e]
        exact wid_join _ _ (word_signs q) (word_ne q) (by rw [word_len]; omega) hws
      · intro o ho
        rw [e, cut_join _ _ (word_signs q) (fun y hy => (hws y hy).1)] at ho
        have := dec_codes (q :: qs) true false (.inl rfl) (fun z hz => word_coded (q2 z hz).1 (q2 z hz).2.2)
        rw [q1]
        exact dec_one _ _ _ _ _ ho this
end Go.Proofs.Ytinnnfkhiigjpaa.hd

namespace Go.Proofs.Ytinnnfkhiigjpaa.ut
open Go.RowKit
set_option linter.unusedVariables false

theorem F_sc (n k b0 b1 b2 b3 : Nat) : scB (((decF n k b0 b1 b2 b3).1 : Nat) : Int) = true := by
  have hs : ∀ c : Nat, Utf8.valid (c : Int) = true → scB (c : Int) = true := by
    intro c h
    rw [valid_nat] at h
    simp [scB, inB]
    omega
  unfold decF
  split
  · simp [scB, inB]; omega
  split
  · split
    · simp only; simp [scB, inB]; omega
    · rfl
  split
  · split
    · rename_i g; simp only [Bool.and_eq_true] at g; exact hs _ g.2
    · rfl
  split
  · split
    · rename_i g; simp only [Bool.and_eq_true] at g; exact hs _ g.2
    · rfl
  · rfl
theorem runesL_sc (s : ByteArray) (n : Nat) : Runes (runesL s n) := by
  induction n with
  | zero => intro r hr; cases hr
  | succ n ih =>
    intro r hr
    rw [runesL] at hr
    rcases List.mem_append.1 hr with h | h
    · exact ih r h
    · rw [List.mem_singleton.1 h, dec_eq]
      exact F_sc _ _ _ _ _ _
theorem fix_flat (s : ByteArray) (n : Nat) (h : pos s n = s.size) : fixL s n = (runesL s n).flatMap encB := by
  have h1 := runes_fix s n (fun m hm => by rw [← h]; exact pos_lt s hm)
  have h2 := flat_runes (runesL s n)
  rw [h2] at h1
  exact h1.symm
theorem fix_right (s : ByteArray) (hr : Right s) (n : Nat) (h : pos s n ≤ s.size) : fixL s n = s.data.toList.take (pos s n) := by
  induction n with
  | zero => simp [fixL, pos]
  | succ n ih =>
    have hup := pos_up s n
    have hlt : pos s n < s.size := by omega
    rw [fixL, ih (by omega), piece_good (hr n hlt), Lib.extract_data, show pos s n + (Utf8.decode s (pos s n)).2 - pos s n = (Utf8.decode s (pos s n)).2 from by omega]
    rw [show pos s (n + 1) = pos s n + (Utf8.decode s (pos s n)).2 from rfl, List.take_add]
/-- What is known of the repaired text x of s. -/
def FixFacts (s x : ByteArray) : Prop := Right x ∧ (Right s ↔ x = s) ∧ x.size ≤ 3 * s.size ∧ ∀ m, pos x m = x.size → (mk (fixL x m)) = x
theorem fix_facts (s : ByteArray) (n : Nat) (h : pos s n = s.size) : FixFacts s (mk (fixL s n)) := by
  have hf := fix_flat s n h
  have hr : Right (mk (fixL s n)) := by rw [hf]; exact right_flat _ (runesL_sc s n)
  have hall : ∀ (x : ByteArray), Right x → ∀ m, pos x m = x.size → mk (fixL x m) = x := by
    intro x hx m hm
    refine bytes_ext ?_
    rw [mk_list, fix_right x hx m (by omega), hm, Lib.size_eq, List.take_length]
  refine ⟨hr, ⟨fun hs => hall s hs n h, fun e => by rw [← e]; exact hr⟩, ?_, hall _ hr⟩
  rw [mk_size]
  have := fix_len s n
  omega
theorem sum_rsz {r : Int} (h : scB r = true) : rsz r = ((encB r).length : Int) := by
  obtain ⟨c, rfl⟩ : ∃ c : Nat, r = (c : Int) := ⟨r.toNat, by simp [scB, inB] at h; omega⟩
  unfold rsz
  rw [if_pos h]
  rcases enc_list h (by simp [scB, inB] at h; omega) with ⟨_, e⟩ | ⟨_, _, e⟩ | ⟨_, _, e⟩ | ⟨_, e⟩ <;> rw [e] <;> (repeat' split) <;> simp <;> omega
end Go.Proofs.Ytinnnfkhiigjpaa.ut

namespace Go.Proofs.Ytinnnfkhiigjpaa.ow
open Go.RowKit
set_option linter.unusedVariables false

/-- A slice of bytes whose cells the call may write, as far as its room goes. -/
def OwnC (w : World) (base : Nat) (v : Value) (l : List UInt8) : Prop :=
  ∃ g cap, v = .slice (some ⟨g, 0, none⟩) l.length cap ∧ base ≤ g ∧ g < w.heap.size ∧ l.length ≤ cap ∧ cap ≤ maxLen ∧
    (∀ j, j < cap → (w.cell? ⟨g, j, none⟩).isSome = true ∧ w.frozen? ⟨g, j, none⟩ = false) ∧ ∀ j, j < l.length → w.cell? ⟨g, j, none⟩ = some (.int .u8 ((l.getD j 0).toNat : Int))

theorem ownC_below {w w' : World} {base : Nat} {v : Value} {l : List UInt8} (h : OwnC w base v l) (hb : Below w.heap.size w w') : OwnC w' base v l := by
  obtain ⟨g, cap, hv, h1, h2, h3, h4, h5, h6⟩ := h
  refine ⟨g, cap, hv, h1, Nat.lt_of_lt_of_le h2 hb.size, h3, h4, fun j hj => ?_, fun j hj => ?_⟩
  · rw [hb.cell (p := ⟨g, j, none⟩) h2, hb.frozen (p := ⟨g, j, none⟩) h2]
    exact h5 j hj
  · rw [hb.cell (p := ⟨g, j, none⟩) h2]
    exact h6 j hj
theorem ownC_alloc {w : World} {base : Nat} {v : Value} {l : List UInt8} (h : OwnC w base v l) (o : Obj) : OwnC (w.alloc o) base v l := ownC_below h ((Below.refl _ _).alloc (Nat.le_refl _) _)
theorem ownC_block {w : World} {base : Nat} {v : Value} {l : List UInt8} (h : OwnC w base v l) : ∀ k, v.ownBlock = some k → base ≤ k := by
  obtain ⟨g, cap, rfl, h1, _⟩ := h
  intro k hk
  cases hk
  exact h1
theorem ownC_slice {w : World} {base : Nat} {v : Value} {l : List UInt8} (h : OwnC w base v l) : ∃ ao cap, v = .slice ao l.length cap := by
  obtain ⟨g, cap, rfl, _⟩ := h
  exact ⟨_, _, rfl⟩
/-- The bytes of a block. -/
theorem ownC_new {w : World} {g cap : Nat} {e : TypeId} {fz : Nat × Nat} {cs : Array Value} {base : Nat} (l : List UInt8) (hg : w.heap[g]? = some (.cells cs e fz)) (hs : cs.size = cap) (hf : fz = (0, 0) ∨ cap ≤ fz.1) (hb : base ≤ g) (hl : l.length ≤ cap) (hm : cap ≤ maxLen)
    (hc : ∀ j, j < l.length → cs[j]? = some (.int .u8 ((l.getD j 0).toNat : Int))) : OwnC w base (.slice (some ⟨g, 0, none⟩) l.length cap) l := by
  have hcell : ∀ j, w.cell? ⟨g, j, none⟩ = cs[j]? := fun j => cell_of_row w g j _ e fz hg
  refine ⟨g, cap, rfl, hb, (Array.getElem?_eq_some_iff.1 hg).1, hl, hm, fun j hj => ⟨?_, ?_⟩, fun j hj => ?_⟩
  · rw [hcell, Array.getElem?_eq_getElem (by omega)]
    rfl
  · obtain ⟨lo, hi⟩ := fz
    simp only [World.frozen?, hg]
    rcases hf with hf | hf
    · cases hf
      simp
    · simp only at hf
      simp only [Bool.and_eq_false_iff, decide_eq_false_iff_not]
      left
      omega
  · rw [hcell]
    exact hc j hj
/-- A text turned into bytes. -/
theorem ownC_conv (w : World) (e : TypeId) (s : ByteArray) (hs : s.size ≤ maxLen) : OwnC (Lib.bytesWorld w e s) w.heap.size (.slice (some ⟨w.heap.size, 0, none⟩) s.size (grownCap w s.size 0 e)) s.data.toList := by
  have hge := grownCap_ge w s.size 0 e
  have hsz : (Lib.bytesCells w e s).size = grownCap w s.size 0 e := by
    unfold Lib.bytesCells
    rw [Array.size_append, Array.size_map, Array.size_replicate]
    have : s.data.size = s.size := rfl
    omega
  have := ownC_new (base := w.heap.size) s.data.toList (Lib.bytesWorld_at_new w e s) hsz (.inr (by rw [hsz]; exact Nat.le_refl _)) (Nat.le_refl _) (by rw [← Lib.size_eq]; exact hge) (grownCap_le_maxLen w s.size 0 e hs) (fun j hj => by
    have hj' : j < s.size := by rw [Lib.size_eq]; exact hj
    have h1 := Lib.bytesWorld_cell w e s j hj'
    rw [cell_of_row _ _ j _ _ _ (Lib.bytesWorld_at_new w e s)] at h1
    exact h1)
  rw [← Lib.size_eq] at this
  exact this

theorem grown_setCells (g : Nat) : ∀ (vs : List Value) (o : Nat) (w : World), w.grownBy (w.setCells g o vs) (some g)
  | [], o, w => ⟨rfl, rfl, rfl, Nat.le_refl _, fun _ _ _ => rfl⟩
  | v :: r, o, w => by
    have h1 : w.grownBy (w.setCell ⟨g, o, none⟩ v) (some g) := ⟨rfl, rfl, rfl, by simp [World.setCell], fun k _ hk => Below.heap_setCell _ _ _ _ (fun e => hk (by simp [e]))⟩
    exact h1.trans (grown_setCells g r (o + 1) _)
theorem room {w : World} {base g cap : Nat} {l : List UInt8} (news : List UInt8) (h : OwnC w base (.slice (some ⟨g, 0, none⟩) l.length cap) l) (hr : l.length + news.length ≤ cap) :
    OwnC (w.setCells g l.length (Lib.byteCells news)) base (.slice (some ⟨g, 0, none⟩) (l ++ news).length cap) (l ++ news) := by
  obtain ⟨g', cap', hv, h1, h2, h3, h4, h5, h6⟩ := h
  cases hv
  have hbl := Lib.byteCells_length news
  refine ⟨g, cap, rfl, h1, Nat.lt_of_lt_of_le h2 (grown_setCells g _ _ w).size, by rw [List.length_append]; exact hr, h4, fun j hj => ?_, fun j hj => ?_⟩
  · rw [World.frozen?_setCells]
    refine ⟨?_, (h5 j hj).2⟩
    by_cases hin : l.length ≤ j ∧ j < l.length + news.length
    · have := World.cell?_setCells_in g (Lib.byteCells news) l.length w (fun i hi => (h5 (l.length + i) (by omega)).1) (j - l.length) (by omega)
      rw [show l.length + (j - l.length) = j from by omega] at this
      rw [this]
      rfl
    · rw [World.cell?_setCells_out g (Lib.byteCells news) l.length w ⟨g, j, none⟩ (fun _ _ => by simp only; omega)]
      exact (h5 j hj).1
  · rw [List.length_append] at hj
    by_cases hin : j < l.length
    · rw [World.cell?_setCells_out g (Lib.byteCells news) l.length w ⟨g, j, none⟩ (fun _ _ => by simp only; omega), h6 j hin]
      simp [List.getD_eq_getElem?_getD, List.getElem?_append_left hin, hin]
    · have := World.cell?_setCells_in g (Lib.byteCells news) l.length w (fun i hi => (h5 (l.length + i) (by omega)).1) (j - l.length) (by omega)
      rw [show l.length + (j - l.length) = j from by omega] at this
      rw [this]
      simp [Lib.byteCells, List.getD_eq_getElem?_getD, List.getElem_append, hin, show j < l.length + news.length from hj]
theorem grow {w : World} {base cap : Nat} {e : TypeId} (l news : List UInt8) (hb : base ≤ w.heap.size) (hm : cap ≤ maxLen) (hc : l.length + news.length ≤ cap) :
    OwnC (w.drew.alloc (.cells ((Lib.byteCells l).toArray ++ (Lib.byteCells news).toArray ++ Builtin.zeroCells (Value.int .u8 0).cells (cap - (l.length + news.length))) e)) base (.slice (some ⟨w.heap.size, 0, none⟩) (l ++ news).length cap) (l ++ news) := by
  refine ownC_new (l ++ news) (heap_alloc_new w.drew _) ?_ (.inl rfl) hb (by rw [List.length_append]; exact hc) hm (fun j hj => ?_)
  · rw [Array.size_append, Array.size_append, List.size_toArray, List.size_toArray, size_zeroCells, Lib.byteCells_length, Lib.byteCells_length]
    show _ + (cap - (l.length + news.length)) * 1 = cap
    omega
  · rw [List.length_append] at hj
    have e1 : (Lib.byteCells l).toArray ++ (Lib.byteCells news).toArray = (Lib.byteCells (l ++ news)).toArray := by rw [Lib.byteCells_append]; simp
    rw [e1, Array.getElem?_append_left (by rw [List.size_toArray, Lib.byteCells_length, List.length_append]; exact hj)]
    have hj2 : j < (l ++ news).length := by rw [List.length_append]; exact hj
    clear e1
    generalize l ++ news = q at hj2 ⊢
    simp [Lib.byteCells, List.getD_eq_getElem?_getD, hj2]

section
variable {P : Program} (w : World)
/-- Appending bytes that lie in a block. -/
theorem app_bytes (base : Nat) (t ty e : TypeId) (i : TypeInfo) (ht : P.underlying t = some (.slice e)) (hi : P.info? e = some i) (hz : i.zero = some (.int .u8 0)) (hs1 : i.size = 1) (hby : i.bytes = 1)
    (v : Value) (l : List UInt8) (h : OwnC w base v l) (a : Addr) (c : Nat) (news : List UInt8) (hn : ∀ j u, (Lib.byteCells news)[j]? = some u → w.cell? (a.add j) = some u) (hlen : l.length + news.length ≤ 140737488355328) (hb : base ≤ w.heap.size) :
    ∃ v' w', (Builtin.append_ #[t, t] ty #[v, .slice (some a) news.length c]).run P w = .ok v' w' ∧ OwnC w' base v' (l ++ news) ∧ w.grownBy w' v.ownBlock ∧ (v'.ownBlock = v.ownBlock ∨ v'.ownBlock = some w.heap.size) := by
  have h0 := h
  obtain ⟨g, cap, rfl, h1, h2, h3, h4, h5, h6⟩ := h
  have hbl := Lib.byteCells_length news
  by_cases hr : l.length + news.length ≤ cap
  · have hf := run_firstCells_some (P := P) w 1 news.length a news.length c (Lib.byteCells news) (by rw [hbl, Nat.mul_one]) hn
    have hst := run_storeCells_cells (P := P) g l.length (Lib.byteCells news) 0 w (fun j hj => (h5 (l.length + 0 + j) (by omega)).1) (fun j hj => (h5 (l.length + 0 + j) (by omega)).2) (one_bytes news)
    rw [Nat.add_zero] at hst
    refine ⟨.slice (some ⟨g, 0, none⟩) (l ++ news).length cap, w.setCells g l.length (Lib.byteCells news), ?_, room news h0 hr, grown_setCells g _ _ w, .inl rfl⟩
    rw [List.length_append]
    simp [Builtin.append_, run_underlying ht, sizeOf, typeInfo, hi, hs1, Builtin.lenOf, hr, hf, Addr.add_lit, hst]
  · have hg := run_append_grow (P := P) w t ty e i (.int .u8 0) ht hi hz ⟨g, 0, none⟩ l.length cap (Lib.byteCells l) (by rw [Lib.byteCells_length, hs1, Nat.mul_one]) (fun j u hj => by
      have hj' : j < l.length := by rw [← Lib.byteCells_length]; exact (List.getElem?_eq_some_iff.1 hj).1
      rw [add_at, h6 j hj']
      rw [← hj]
      simp [Lib.byteCells, List.getD_eq_getElem?_getD, hj']) a news.length c (Lib.byteCells news) (by rw [hbl, hs1, Nat.mul_one]) hn (by omega) (by omega) (growslice_fits (by omega) (by rw [hby]; omega))
    refine ⟨_, _, hg, ?_, ⟨rfl, rfl, rfl, by simp, fun k hk _ => heap_alloc_old w.drew _ hk⟩, .inr rfl⟩
    have := grow (w := w) (e := e) (cap := grownCap w (l.length + news.length) cap e) l news hb (grownCap_le_maxLen _ _ _ _ (by unfold maxLen; omega)) (grownCap_ge _ _ _ _)
    rw [List.length_append] at this
    exact this
/-- Appending a text's bytes. -/
theorem app_text (base : Nat) (t u ty e : TypeId) (i : TypeInfo) (ht : P.underlying t = some (.slice e)) (hu : P.underlying u = some .string) (hi : P.info? e = some i) (hz : i.zero = some (.int .u8 0)) (hs1 : i.size = 1) (hby : i.bytes = 1)
    (v : Value) (l : List UInt8) (h : OwnC w base v l) (s : ByteArray) (hlen : l.length + s.size ≤ 140737488355328) (hb : base ≤ w.heap.size) :
    ∃ v' w', (Builtin.append_ #[t, u] ty #[v, .string s]).run P w = .ok v' w' ∧ OwnC w' base v' (l ++ s.data.toList) ∧ w.grownBy w' v.ownBlock ∧ (v'.ownBlock = v.ownBlock ∨ v'.ownBlock = some w.heap.size) := by
  have h0 := h
  obtain ⟨g, cap, rfl, h1, h2, h3, h4, h5, h6⟩ := h
  have hbl := Lib.byteCells_length s.data.toList
  have hse := Lib.size_eq s
  by_cases hr : l.length + s.size ≤ cap
  · have hf := Lib.run_firstCells_string (P := P) w 1 s
    have hst := run_storeCells_cells (P := P) g l.length (Lib.strCells s) 0 w (fun j hj => (h5 (l.length + 0 + j) (by rw [Lib.strCells_length] at hj; omega)).1) (fun j hj => (h5 (l.length + 0 + j) (by rw [Lib.strCells_length] at hj; omega)).2) (Lib.strCells_oneCell s)
    rw [Nat.add_zero] at hst
    refine ⟨.slice (some ⟨g, 0, none⟩) (l ++ s.data.toList).length cap, w.setCells g l.length (Lib.byteCells s.data.toList), ?_, room s.data.toList h0 (by omega), grown_setCells g _ _ w, .inl rfl⟩
    rw [List.length_append, ← hse, ← Lib.strCells_eq]
    simp [Builtin.append_, run_underlying ht, run_underlying hu, sizeOf, typeInfo, hi, hs1, Builtin.lenOf, hr, hf, Addr.add_lit, hst]
  · have hg := Lib.run_append_grow_string (P := P) w t u ty e i (.int .u8 0) ht hu hi hz ⟨g, 0, none⟩ l.length cap (Lib.byteCells l) (by rw [Lib.byteCells_length, hs1, Nat.mul_one]) (fun j u hj => by
      have hj' : j < l.length := by rw [← Lib.byteCells_length]; exact (List.getElem?_eq_some_iff.1 hj).1
      rw [add_at, h6 j hj']
      rw [← hj]
      simp [Lib.byteCells, List.getD_eq_getElem?_getD, hj']) s (by omega) (by omega) (growslice_fits (by omega) (by rw [hby]; omega))
    refine ⟨_, _, hg, ?_, ⟨rfl, rfl, rfl, by simp, fun k hk _ => heap_alloc_old w.drew _ hk⟩, .inr rfl⟩
    have := grow (w := w) (e := e) (cap := grownCap w (l.length + s.size) cap e) l s.data.toList hb (grownCap_le_maxLen _ _ _ _ (by unfold maxLen; omega)) (by rw [← hse]; exact grownCap_ge _ _ _ _)
    rw [List.length_append, ← hse] at this
    exact this
/-- The two appends as operations of a walk. -/
theorem wp_bytes {ops : Array Oper} {rest : List Oper} {o : Oper} {a : Act} {Q : Exit → Act → World → Prop} (hgd : o.guard = none) (s x : Operand) (t : TypeId) (ho : o.op = .call { callee := .builtin .append, args := #[s, x], argTypes := #[t, t] })
    (base : Nat) (e : TypeId) (i : TypeInfo) (ht : P.underlying t = some (.slice e)) (hi : P.info? e = some i) (hz : i.zero = some (.int .u8 0)) (hs1 : i.size = 1) (hby : i.bytes = 1)
    (v : Value) (l : List UInt8) (hs : a.eval s = v) (h : OwnC w base v l) (ad : Addr) (m c : Nat) (news : List UInt8) (hx : a.eval x = .slice (some ad) m c) (hm : news.length = m) (hn : ∀ j u, (Lib.byteCells news)[j]? = some u → w.cell? (ad.add j) = some u) (hlen : l.length + m ≤ 140737488355328) (hb : base ≤ w.heap.size)
    (H : ∀ v' w', OwnC w' base v' (l ++ news) → w.grownBy w' v.ownBlock → (v'.ownBlock = v.ownBlock ∨ v'.ownBlock = some w.heap.size) → wpList P ops Q rest (a.put o.dst v') w') : wpList P ops Q (o :: rest) a w := by
  subst hm
  refine wpList_plain hgd fun K hK => ?_
  obtain ⟨v', w', hr, h2, h3, h4⟩ := app_bytes (P := P) w base t o.type e i ht hi hz hs1 hby v l h ad c news hn hlen hb
  unfold Oper.wp execOp
  simp only [ho, resolve, invoke, builtin, Sem.run_bind, Sem.run_pure, Result.andThen_ok, List.map_toArray, List.map_cons, List.map_nil, hs, hx, hr]
  exact hK _ _ (H v' w' h2 h3 h4)
theorem wp_text {ops : Array Oper} {rest : List Oper} {o : Oper} {a : Act} {Q : Exit → Act → World → Prop} (hgd : o.guard = none) (sl x : Operand) (t u : TypeId) (ho : o.op = .call { callee := .builtin .append, args := #[sl, x], argTypes := #[t, u] })
    (base : Nat) (e : TypeId) (i : TypeInfo) (ht : P.underlying t = some (.slice e)) (hu : P.underlying u = some .string) (hi : P.info? e = some i) (hz : i.zero = some (.int .u8 0)) (hs1 : i.size = 1) (hby : i.bytes = 1)
    (v : Value) (l : List UInt8) (hs : a.eval sl = v) (h : OwnC w base v l) (s : ByteArray) (hx : a.eval x = .string s) (hlen : l.length + s.size ≤ 140737488355328) (hb : base ≤ w.heap.size)
    (H : ∀ v' w', OwnC w' base v' (l ++ s.data.toList) → w.grownBy w' v.ownBlock → (v'.ownBlock = v.ownBlock ∨ v'.ownBlock = some w.heap.size) → wpList P ops Q rest (a.put o.dst v') w') : wpList P ops Q (o :: rest) a w := by
  refine wpList_plain hgd fun K hK => ?_
  obtain ⟨v', w', hr, h2, h3, h4⟩ := app_text (P := P) w base t u o.type e i ht hu hi hz hs1 hby v l h s hlen hb
  unfold Oper.wp execOp
  simp only [ho, resolve, invoke, builtin, Sem.run_bind, Sem.run_pure, Result.andThen_ok, List.map_toArray, List.map_cons, List.map_nil, hs, hx, hr]
  exact hK _ _ (H v' w' h2 h3 h4)
end
theorem conv_ownC {P : Program} {w : World} {base : Nat} {src dst e : TypeId} {v : Value} (l : List UInt8) (h : OwnC w base v l)
    (hs : P.underlying src = some (.slice e)) (he : P.underlying e = some (.int .u8)) (hd : P.underlying dst = some .string) : (convert src dst v).run P w = .ok (.string ⟨l.toArray⟩) w := by
  obtain ⟨g, cap, rfl, _, _, _, _, _, h6⟩ := h
  refine run_convert_bytes_back w src dst e ⟨g, 0, none⟩ cap l hs he hd (fun j hj => ?_)
  rw [add_at, h6 j hj]
  simp [List.getD_eq_getElem?_getD, hj]
theorem kept_block {w w' : World} {v v' : Value} {g : Nat} {o : Obj} (hb : v.ownBlock ≠ some g) (hg : w.grownBy w' v.ownBlock) (ho : w.heap[g]? = some o) (hv : v'.ownBlock = v.ownBlock ∨ v'.ownBlock = some w.heap.size) : w'.heap[g]? = some o ∧ v'.ownBlock ≠ some g := by
  have hlt := (Array.getElem?_eq_some_iff.1 ho).1
  refine ⟨(hg.block g hlt (fun e => hb e.symm)).trans ho, ?_⟩
  rcases hv with hv | hv
  · rw [hv]; exact hb
  · rw [hv]
    intro e
    cases e
    omega
/-- What was below stays, behind such an append. -/
theorem app_below {w w' W : World} {base : Nat} {v : Value} {l : List UInt8} (h : OwnC w base v l) (hb : Below base W w) (hB : base ≤ w.heap.size) (hg : w.grownBy w' v.ownBlock) : Below base W w' := Below.grown hb hg hB (ownC_block h)
theorem own_kept {w w' : World} {base base2 e size n : Nat} {v x : Value} {l : List UInt8} {xs : List Value} (h : OwnC w base v l) (hx : w.ownsRow base2 e size x n xs) (hne : x.ownBlock ≠ v.ownBlock) (hg : w.grownBy w' v.ownBlock) : w'.ownsRow base2 e size x n xs := hx.kept hg (.inr hne)
end Go.Proofs.Ytinnnfkhiigjpaa.ow
