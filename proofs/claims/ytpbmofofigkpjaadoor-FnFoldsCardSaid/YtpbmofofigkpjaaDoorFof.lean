/-
  Plain facts on a folded field: it is read back, and how long its lines are.
-/
import Derived.Test.YtpbmofofigkpjaaDoorLop
import Derived.Test.YtpbmofofigkpjaaDoorUfp
import Derived.Test.YtpbmofofigkpjaaDoorHdw
namespace Go.Proofs.YtpbmofofigkpjaaDoor.ff
open Go
open Go.Proofs.YtpbmofofigkpjaaDoor.hd (cutGo foldGo foldL)
open Go.Proofs.YtpbmofofigkpjaaDoor.qu (llw llw_nil llw_crlf llw_on)
open Go.Proofs.YtpbmofofigkpjaaDoor.uf (unf unf_fw)
set_option linter.unusedVariables false

theorem join : ∀ (l cur : List UInt8), ∃ x r, cutGo cur l = x :: r ∧ x ++ r.flatMap (fun y => 32 :: y) = cur ++ l
  | [], cur => ⟨cur, [], rfl, by simp⟩
  | b :: l, cur => by
    rw [cutGo]
    by_cases h : b.toNat = 32
    · rw [if_pos h]
      obtain ⟨x, r, h1, h2⟩ := join l []
      have hb : b = 32 := UInt8.toNat_inj.1 h
      refine ⟨cur, cutGo [] l, rfl, ?_⟩
      rw [h1, List.flatMap_cons, hb]
      simp only [List.nil_append] at h2
      rw [← h2]
      simp
    · rw [if_neg h]
      obtain ⟨x, r, h1, h2⟩ := join l (cur ++ [b])
      exact ⟨x, r, h1, by rw [h2]; simp⟩
theorem mem_cut : ∀ (l cur x : List UInt8), x ∈ cutGo cur l → ∀ b ∈ x, b ∈ cur ∨ b ∈ l
  | [], cur, x, h, b, hb => by
    rw [cutGo, List.mem_singleton] at h
    subst h
    exact .inl hb
  | c :: l, cur, x, h, b, hb => by
    rw [cutGo] at h
    split at h
    · rcases List.mem_cons.1 h with rfl | h
      · exact .inl hb
      · rcases mem_cut l [] x h b hb with h | h
        · cases h
        · exact .inr (List.mem_cons_of_mem _ h)
    · rcases mem_cut l (cur ++ [c]) x h b hb with h | h
      · rcases List.mem_append.1 h with h | h
        · exact .inl h
        · rw [List.mem_singleton] at h
          exact .inr (by rw [h]; exact List.mem_cons_self)
      · exact .inr (List.mem_cons_of_mem _ h)
theorem unf_app : ∀ (a y : List UInt8), (∀ b ∈ a, b ≠ 13) → unf false (a ++ y) = (unf false y).map (a ++ ·)
  | [], y, _ => by simp
  | c :: a, y, h => by
    rw [List.cons_append, unf, if_neg (h c List.mem_cons_self), unf_app a y (fun b hb => h b (List.mem_cons_of_mem _ hb))]
    cases unf false y <;> simp
theorem unf_fold : ∀ (r : List (List UInt8)) (wd : Nat), (∀ x ∈ r, ∀ b ∈ x, b ≠ 13) → unf false (foldGo false wd r) = some (r.flatMap (fun y => 32 :: y))
  | [], wd, _ => by rw [foldGo]; rfl
  | x :: r, wd, h => by
    have hx := h x List.mem_cons_self
    have hr := fun y hy => h y (List.mem_cons_of_mem _ hy)
    by_cases hw : 78 < wd + 1 + x.length
    · rw [hd.foldGo_yes r hw]
      show unf false (13 :: 10 :: 32 :: (x ++ foldGo false (1 + x.length) r)) = _
      rw [unf_fw, unf_app x _ hx, unf_fold r _ hr]
      simp
    · rw [hd.foldGo_no r (.inr (by omega))]
      show unf false ((32 :: x) ++ foldGo false (wd + 1 + x.length) r) = _
      rw [unf_app (32 :: x) _ (fun b hb => by
        rcases List.mem_cons.1 hb with rfl | hb
        · decide
        · exact hx b hb), unf_fold r _ hr]
      simp
theorem words_ok {v : List UInt8} (h : hd.Safe v) : ∀ x ∈ cutGo [] v, ∀ b ∈ x, b ≠ 13 := by
  intro x hx b hb e
  rcases mem_cut v [] x hx b hb with hm | hm
  · cases hm
  · have := hd.ascii h b hm
    rw [e] at this
    exact absurd this.1 (by decide)
/-- The folded field is read back. -/
theorem field {P : ByteArray → Prop} {nm v : List UInt8} (hn : P ⟨nm.toArray⟩) (h58 : 58 ∉ nm) (hv : hd.Safe v) : uf.Field P (foldL nm v) nm v := by
  obtain ⟨x, r, h1, h2⟩ := join v []
  have hw := words_ok hv
  rw [h1] at hw
  refine ⟨x ++ foldGo false (nm.length + 1 + 1 + x.length) r, ⟨?_, h58⟩, hn, ?_, hv⟩
  · unfold foldL
    rw [h1, hd.foldGo_no r (.inl rfl)]
    simp
  · rw [unf_app x _ (hw x List.mem_cons_self), unf_fold r _ (fun y hy => hw y (List.mem_cons_of_mem _ hy))]
    simp only [List.nil_append] at h2
    rw [Option.map_some, h2]

/-- The longest word, behind w characters of one, b being the longest so far. -/
def lw : Nat → Nat → List UInt8 → Nat
  | _, b, [] => b
  | w, b, c :: r => if c.toNat = 32 then lw 0 b r else lw (w + 1) (max b (w + 1)) r
theorem lw_ge : ∀ (l : List UInt8) (w b : Nat), b ≤ lw w b l
  | [], w, b => Nat.le_refl _
  | c :: r, w, b => by
    rw [lw]
    split
    · exact lw_ge r 0 b
    · have := lw_ge r (w + 1) (max b (w + 1))
      omega
theorem lw_cut : ∀ (l cur : List UInt8) (b : Nat), cur.length ≤ b → ∀ x ∈ cutGo cur l, x.length ≤ lw cur.length b l
  | [], cur, b, hb, x, hx => by
    rw [cutGo, List.mem_singleton] at hx
    rw [hx, lw]
    exact hb
  | c :: l, cur, b, hb, x, hx => by
    rw [cutGo] at hx
    rw [lw]
    by_cases h : c.toNat = 32
    · rw [if_pos h] at hx ⊢
      rcases List.mem_cons.1 hx with rfl | hx
      · have := lw_ge l 0 b
        omega
      · exact lw_cut l [] b (Nat.zero_le _) x hx
    · rw [if_neg h] at hx ⊢
      have := lw_cut l (cur ++ [c]) (max b (cur.length + 1)) (by simp; omega) x hx
      simpa using this
theorem llw_app : ∀ (a : List UInt8) (w b : Nat) (y : List UInt8), w ≤ b → (∀ c ∈ a, c ≠ 13) → llw w b (a ++ y) = llw (w + a.length) (max b (w + a.length)) y
  | [], w, b, y, hw, _ => by
    rw [List.nil_append, List.length_nil, Nat.add_zero, Nat.max_eq_left hw]
  | c :: a, w, b, y, hw, h => by
    rw [List.cons_append, llw_on (h c List.mem_cons_self), llw_app a (w + 1) _ y (by omega) (fun d hd => h d (List.mem_cons_of_mem _ hd)), List.length_cons]
    congr 1
    · omega
    · omega
theorem ll_fold (M L : Nat) (h78 : 78 ≤ M) (hL : L + 1 ≤ M) : ∀ (r : List (List UInt8)) (wd b : Nat), wd ≤ b → b ≤ M → (∀ x ∈ r, x.length ≤ L ∧ ∀ c ∈ x, c ≠ 13) → llw wd b (foldGo false wd r ++ [13, 10]) ≤ M
  | [], wd, b, _, hb, _ => by
    rw [foldGo, List.nil_append, llw_crlf, llw_nil]
    exact hb
  | x :: r, wd, b, hwb, hb, h => by
    obtain ⟨hxl, hx⟩ := h x List.mem_cons_self
    have hr := fun y hy => h y (List.mem_cons_of_mem _ hy)
    have hsx : ∀ c ∈ (32 :: x : List UInt8), c ≠ 13 := fun c hc => by
      rcases List.mem_cons.1 hc with rfl | hc
      · decide
      · exact hx c hc
    by_cases hw : 78 < wd + 1 + x.length
    · rw [hd.foldGo_yes r hw]
      show llw wd b (13 :: 10 :: ((32 :: x) ++ foldGo false (1 + x.length) r ++ [13, 10])) ≤ M
      rw [llw_crlf, List.append_assoc, llw_app (32 :: x) 0 b _ (Nat.zero_le _) hsx]
      have e : 0 + (32 :: x : List UInt8).length = 1 + x.length := by simp; omega
      rw [e]
      exact ll_fold M L h78 hL r (1 + x.length) _ (by omega) (by omega) hr
    · rw [hd.foldGo_no r (.inr (by omega))]
      show llw wd b ((32 :: x) ++ foldGo false (wd + 1 + x.length) r ++ [13, 10]) ≤ M
      rw [List.append_assoc, llw_app (32 :: x) wd b _ hwb hsx]
      have e : wd + (32 :: x : List UInt8).length = wd + 1 + x.length := by simp; omega
      rw [e]
      exact ll_fold M L h78 hL r (wd + 1 + x.length) _ (by omega) (by omega) hr
/-- No line of the folded field is longer than 78, or than its name with its longest word. -/
theorem ll_field {nm v : List UInt8} (hn : ∀ c ∈ nm, c ≠ 13) (hv : hd.Safe v) : ln.ll (foldL nm v) ≤ max 78 (lw 0 0 v + nm.length + 2) := by
  obtain ⟨x, r, h1, h2⟩ := join v []
  have hw := words_ok hv
  have hl := lw_cut v [] 0 (Nat.le_refl _)
  rw [h1] at hw hl
  rw [List.length_nil] at hl
  have hx := hl x List.mem_cons_self
  have e : foldL nm v = (nm ++ [58, 32] ++ x) ++ (foldGo false (nm.length + 1 + 1 + x.length) r ++ [13, 10]) := by
    unfold foldL
    rw [h1, hd.foldGo_no r (.inl rfl)]
    simp
  unfold ln.ll
  rw [e, llw_app _ 0 0 _ (Nat.le_refl _) (fun c hc => by
    rcases List.mem_append.1 hc with hc | hc
    · rcases List.mem_append.1 hc with hc | hc
      · exact hn c hc
      · rcases List.mem_cons.1 hc with rfl | hc
        · decide
        · rw [List.mem_singleton] at hc
          rw [hc]
          decide
    · exact hw x List.mem_cons_self c hc)]
  have e2 : 0 + (nm ++ [58, 32] ++ x).length = nm.length + 1 + 1 + x.length := by simp; omega
  rw [e2]
  exact ll_fold _ (lw 0 0 v) (by omega) (by omega) r _ _ (by omega) (by omega) (fun y hy => ⟨hl y (List.mem_cons_of_mem _ hy), hw y (List.mem_cons_of_mem _ hy)⟩)
theorem fold_len : ∀ (r : List (List UInt8)) (f : Bool) (wd : Nat), (foldGo f wd r).length ≤ 3 * ((r.map List.length).sum + r.length)
  | [], f, wd => by rw [foldGo]; simp
  | x :: r, f, wd => by
    rw [foldGo]
    split
    · have := fold_len r false (1 + x.length)
      simp
      omega
    · have := fold_len r false (wd + 1 + x.length)
      simp
      omega
theorem field_len (nm v : List UInt8) : (foldL nm v).length ≤ nm.length + 3 * v.length + 6 := by
  have h1 := fold_len (cutGo [] v) true (nm.length + 1)
  have h2 := hd.cutGo_len v []
  unfold foldL
  simp at h1 h2 ⊢
  omega
theorem lw_snoc : ∀ (l : List UInt8) (w b : Nat), lw w b l ≤ max b (w + l.length)
  | [], w, b => by rw [lw]; omega
  | c :: r, w, b => by
    rw [lw]
    split
    · have := lw_snoc r 0 b
      simp
      omega
    · have := lw_snoc r (w + 1) (max b (w + 1))
      simp
      omega
/-- A name, byte by byte. -/
theorem name_of (l : List UInt8) (h : ∀ b ∈ l, 33 ≤ b.toNat ∧ b.toNat ≤ 126 ∧ b ≠ 58) (h1 : 1 ≤ l.length) (h2 : l.length ≤ 40) : hn.IsName ⟨l.toArray⟩ := by
  have hs : (⟨l.toArray⟩ : ByteArray).size = l.length := by rw [Lib.size_eq]
  refine ⟨by omega, by omega, fun j hj => ⟨hj, ?_⟩⟩
  have hm : ((⟨l.toArray⟩ : ByteArray)[j]'hj) ∈ l := by
    have : (⟨l.toArray⟩ : ByteArray)[j]'hj = l[j]'(by omega) := rfl
    rw [this]
    exact List.getElem_mem _
  obtain ⟨a, b, c⟩ := h _ hm
  exact ⟨by omega, by omega, fun e => c (UInt8.toNat_inj.1 (Int.ofNat.inj e))⟩
end Go.Proofs.YtpbmofofigkpjaaDoor.ff
