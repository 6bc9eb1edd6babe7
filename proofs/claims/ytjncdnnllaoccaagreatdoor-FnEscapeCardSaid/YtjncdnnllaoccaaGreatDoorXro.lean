/-
  A text of runes of XML, escaped and put into an element, is made of runes of XML.
-/
import Derived.Test.YtjncdnnllaoccaaGreatDoorXrn
import Derived.Test.YtjncdnnllaoccaaGreatDoorFlt
namespace Go.Proofs.YtjncdnnllaoccaaGreatDoor.xd
open Go.RowKit
open ut (encB scB Runes mk pos)
set_option linter.unusedVariables false

theorem pos_lt (zs : List Int) (hz : Runes zs) (m : Nat) (hm : m < zs.length) : pos (mk (zs.flatMap encB)) m < (mk (zs.flatMap encB)).size := by
  have h1 := ut.pos_mono (mk (zs.flatMap encB)) (m + 1) (zs.length - (m + 1))
  rw [show m + 1 + (zs.length - (m + 1)) = zs.length by omega, ut.pos_flat_end zs hz] at h1
  have h2 : pos (mk (zs.flatMap encB)) (m + 1) = pos (mk (zs.flatMap encB)) m + (Utf8.decode (mk (zs.flatMap encB)) (pos (mk (zs.flatMap encB)) m)).2 := rfl
  rw [ut.pos_flat zs hz m (by omega), ut.dec_flat zs hz m hm] at h2
  have h3 := (ut.enc_pos (hz _ (List.getElem_mem hm))).1
  rw [ut.pos_flat zs hz m (by omega)]
  simp only at h2
  omega
theorem rune_nat {r : Int} (h : scB r = true) : (r.toNat : Int) = r := by simp [scB, ut.inB] at h; omega
theorem good_flat (zs : List Int) (hz : Runes zs) (hx : ∀ r ∈ zs, xm.xr r = true) : xm.GoodTo (mk (zs.flatMap encB)) (mk (zs.flatMap encB)).size := by
  refine ⟨zs.length, (ut.pos_flat_end zs hz).symm, Nat.le_refl _, fun m hm => ?_, .inl rfl⟩
  rintro (h | h)
  · exact ut.right_flat zs hz m (pos_lt zs hz m hm) h
  · rw [ut.pos_flat zs hz m (by omega), ut.dec_flat zs hz m hm] at h
    simp only at h
    rw [rune_nat (hz _ (List.getElem_mem hm)), hx _ (List.getElem_mem hm)] at h
    cases h
theorem flat_good (zs : List Int) (hz : Runes zs) (h : xm.GoodTo (mk (zs.flatMap encB)) (mk (zs.flatMap encB)).size) : ∀ r ∈ zs, xm.xr r = true := by
  obtain ⟨n, hn, _, hb, _⟩ := h
  intro r hr
  obtain ⟨j, hj, rfl⟩ := List.getElem_of_mem hr
  have hjn : j < n := by
    have h1 := pos_lt zs hz j hj
    by_cases hle : n ≤ j
    · have h2 := ut.pos_mono (mk (zs.flatMap encB)) n (j - n)
      rw [show n + (j - n) = j by omega] at h2
      omega
    · omega
  have h3 := hb j hjn
  cases hx : xm.xr zs[j]
  · exfalso
    apply h3
    right
    rw [ut.pos_flat zs hz j (by omega), ut.dec_flat zs hz j hj]
    simp only
    rw [rune_nat (hz _ (List.getElem_mem hj)), hx]
  · rfl

def escR (r : Int) : List Int :=
  if r = 38 then [38, 97, 109, 112, 59] else if r = 60 then [38, 108, 116, 59] else if r = 62 then [38, 103, 116, 59]
  else if r = 34 then [38, 113, 117, 111, 116, 59] else if r = 13 then [38, 35, 49, 51, 59] else [r]
theorem esc_id (l : List UInt8) (h : ∀ c ∈ l, c ≠ 38 ∧ c ≠ 60 ∧ c ≠ 62 ∧ c ≠ 34 ∧ c ≠ 13) : xm.esc l = l := by
  induction l with
  | nil => rfl
  | cons c l ih =>
    obtain ⟨h1, h2, h3, h4, h5⟩ := h c List.mem_cons_self
    have e : xm.escB c = [c] := by rw [xm.escB, if_neg h1, if_neg h2, if_neg h3, if_neg h4, if_neg h5]
    have := ih (fun d hd => h d (List.mem_cons_of_mem _ hd))
    simp only [xm.esc, List.flatMap_cons] at this ⊢
    rw [e, this]
    rfl
theorem byte_not (n k : Nat) (hk : k < 256) (hn : n < 256) (h : n ≠ k) : UInt8.ofNat n ≠ UInt8.ofNat k := by
  intro e
  have := congrArg UInt8.toNat e
  rw [ut.nat_byte hn, ut.nat_byte hk] at this
  exact h this
theorem esc_rune (r : Int) (hr : scB r = true) : xm.esc (encB r) = (escR r).flatMap encB ∧ (∀ x ∈ escR r, scB x = true) ∧ (xm.xr r = true → ∀ x ∈ escR r, xm.xr x = true) := by
  unfold escR
  by_cases h1 : r = 38
  · rw [if_pos h1]; subst h1; exact ⟨by decide +kernel, by decide +kernel, fun _ => by decide +kernel⟩
  by_cases h2 : r = 60
  · rw [if_neg h1, if_pos h2]; subst h2; exact ⟨by decide +kernel, by decide +kernel, fun _ => by decide +kernel⟩
  by_cases h3 : r = 62
  · rw [if_neg h1, if_neg h2, if_pos h3]; subst h3; exact ⟨by decide +kernel, by decide +kernel, fun _ => by decide +kernel⟩
  by_cases h4 : r = 34
  · rw [if_neg h1, if_neg h2, if_neg h3, if_pos h4]; subst h4; exact ⟨by decide +kernel, by decide +kernel, fun _ => by decide +kernel⟩
  by_cases h5 : r = 13
  · rw [if_neg h1, if_neg h2, if_neg h3, if_neg h4, if_pos h5]; subst h5; exact ⟨by decide +kernel, by decide +kernel, fun _ => by decide +kernel⟩
  rw [if_neg h1, if_neg h2, if_neg h3, if_neg h4, if_neg h5]
  refine ⟨?_, fun x hx => by simp at hx; rw [hx]; exact hr, fun h x hx => by simp at hx; rw [hx]; exact h⟩
  rw [List.flatMap_cons, List.flatMap_nil, List.append_nil]
  refine esc_id _ ?_
  obtain ⟨c, rfl⟩ : ∃ c : Nat, r = (c : Int) := ⟨r.toNat, (rune_nat hr).symm⟩
  have hm : c ≤ 1114111 := by simp [scB, ut.inB] at hr; omega
  have key : ∀ n : Nat, n < 256 → n ≠ 38 → n ≠ 60 → n ≠ 62 → n ≠ 34 → n ≠ 13 → (UInt8.ofNat n ≠ 38 ∧ UInt8.ofNat n ≠ 60 ∧ UInt8.ofNat n ≠ 62 ∧ UInt8.ofNat n ≠ 34 ∧ UInt8.ofNat n ≠ 13) := fun n hn a b c d e =>
    ⟨byte_not n 38 (by omega) hn a, byte_not n 60 (by omega) hn b, byte_not n 62 (by omega) hn c, byte_not n 34 (by omega) hn d, byte_not n 13 (by omega) hn e⟩
  rcases ut.enc_list hr hm with ⟨h, e⟩ | ⟨h, h', e⟩ | ⟨h, h', e⟩ | ⟨h, e⟩
  all_goals
    rw [e]
    intro d hd
    simp only [List.mem_cons, List.not_mem_nil, or_false] at hd
  · subst hd; exact key c (by omega) (by omega) (by omega) (by omega) (by omega) (by omega)
  · rcases hd with rfl | rfl <;> exact key _ (by omega) (by omega) (by omega) (by omega) (by omega) (by omega)
  · rcases hd with rfl | rfl | rfl <;> exact key _ (by omega) (by omega) (by omega) (by omega) (by omega) (by omega)
  · rcases hd with rfl | rfl | rfl | rfl <;> exact key _ (by omega) (by omega) (by omega) (by omega) (by omega) (by omega)
theorem esc_flat (zs : List Int) (hz : Runes zs) : xm.esc (zs.flatMap encB) = (zs.flatMap escR).flatMap encB := by
  induction zs with
  | nil => rfl
  | cons r zs ih =>
    rw [List.flatMap_cons, xm.esc_append, (esc_rune r (hz r List.mem_cons_self)).1, ih (fun x hx => hz x (List.mem_cons_of_mem _ hx)), List.flatMap_cons, List.flatMap_append]

/-- The whole text. -/
def whole (t : List UInt8) : List UInt8 := [60, 97, 32, 98, 61, 34] ++ (xm.esc t ++ (34 :: 62 :: (xm.esc t ++ [60, 47, 97, 62])))
theorem whole_good (zs : List Int) (hz : Runes zs) (hx : ∀ r ∈ zs, xm.xr r = true) : xm.GoodTo (mk (whole (zs.flatMap encB))) (mk (whole (zs.flatMap encB))).size := by
  have hE : ∀ x ∈ zs.flatMap escR, scB x = true ∧ xm.xr x = true := by
    intro x h
    obtain ⟨r, hr, h⟩ := List.mem_flatMap.1 h
    exact ⟨(esc_rune r (hz r hr)).2.1 x h, (esc_rune r (hz r hr)).2.2 (hx r hr) x h⟩
  have e : whole (zs.flatMap encB) = ([60, 97, 32, 98, 61, 34] ++ (zs.flatMap escR ++ ([34, 62] ++ (zs.flatMap escR ++ [60, 47, 97, 62])))).flatMap encB := by
    unfold whole
    rw [esc_flat zs hz]
    simp only [List.flatMap_append]
    have e1 : ([60, 97, 32, 98, 61, 34] : List Int).flatMap encB = [60, 97, 32, 98, 61, 34] := by decide +kernel
    have e2 : ([34, 62] : List Int).flatMap encB = [34, 62] := by decide +kernel
    have e3 : ([60, 47, 97, 62] : List Int).flatMap encB = [60, 47, 97, 62] := by decide +kernel
    rw [e1, e2, e3]
    rfl
  rw [e]
  have hc1 : ∀ x ∈ ([60, 97, 32, 98, 61, 34] : List Int), scB x = true ∧ xm.xr x = true := by decide +kernel
  have hc2 : ∀ x ∈ ([34, 62] : List Int), scB x = true ∧ xm.xr x = true := by decide +kernel
  have hc3 : ∀ x ∈ ([60, 47, 97, 62] : List Int), scB x = true ∧ xm.xr x = true := by decide +kernel
  have hall : ∀ x ∈ ([60, 97, 32, 98, 61, 34] : List Int) ++ (zs.flatMap escR ++ ([34, 62] ++ (zs.flatMap escR ++ [60, 47, 97, 62]))), scB x = true ∧ xm.xr x = true := by
    intro x h
    rcases List.mem_append.1 h with h | h
    · exact hc1 x h
    rcases List.mem_append.1 h with h | h
    · exact hE x h
    rcases List.mem_append.1 h with h | h
    · exact hc2 x h
    rcases List.mem_append.1 h with h | h
    · exact hE x h
    · exact hc3 x h
  exact good_flat _ (fun x h => (hall x h).1) (fun x h => (hall x h).2)
theorem flat_len (zs : List Int) (hz : Runes zs) (h : zs.length ≤ 11) : (zs.flatMap encB).length ≤ 44 := by
  have : ∀ ys : List Int, (∀ r ∈ ys, scB r = true) → (ys.flatMap encB).length ≤ 4 * ys.length := by
    intro ys
    induction ys with
    | nil => intro _; simp
    | cons r ys ih =>
      intro hy
      have h1 := (ut.enc_pos (hy r List.mem_cons_self)).2
      have h2 := ih (fun x hx => hy x (List.mem_cons_of_mem _ hx))
      rw [List.flatMap_cons, List.length_append, List.length_cons]
      omega
  have := this zs hz
  omega
end Go.Proofs.YtjncdnnllaoccaaGreatDoor.xd
