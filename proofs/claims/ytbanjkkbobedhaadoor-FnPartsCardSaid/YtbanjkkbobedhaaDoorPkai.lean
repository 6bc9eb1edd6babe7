/-
  Plain facts on a folded field: it is read back, and how long its lines are.
  Plain facts on a mail that is made of folded fields: it is cut into them again.
  Plain facts on quoted text: its characters, one by one.
  Plain facts on a mail that is made of folded fields and quoted text: it is lines of a mail.
-/
import Derived.Test.YtbanjkkbobedhaaDoorPkah
import Derived.Test.YtbanjkkbobedhaaDoorPkac
import Derived.Test.YtbanjkkbobedhaaDoorPkad
import Derived.Test.YtbanjkkbobedhaaDoorPkaf

namespace Go.Proofs.YtbanjkkbobedhaaDoor.ff
open Go
open Go.Proofs.YtbanjkkbobedhaaDoor.hd (cutGo foldGo foldL)
open Go.Proofs.YtbanjkkbobedhaaDoor.qu (llw llw_nil llw_crlf llw_on)
open Go.Proofs.YtbanjkkbobedhaaDoor.uf (unf unf_fw)
set_option linter.unusedVariables false

theorem join : ∀ (l cur : List UInt8), ∃ x r, cutGo cur l = x :: r ∧ x ++ r.flatMap (fun y => 32 :: y) = cur ++ l
  | [], cur => ⟨cur, [], rfl, by simp⟩
  | b :: l, cur => by
    rw [cutGo]
    by_cases h : b.toNat = 32
    · rw [if_pos h]
      obtain ⟨x, r, h1, h2⟩ := join l []
      have hb : b = 32 := UInt8.toNat_inj.1 h
      refine ⟨cur, cutGo [] l, rfl, ?_⟩
      rw [h1, List.flatMap_cons, hb]
      simp only [List.nil_append] at h2
      rw [← h2]
      simp
    · rw [if_neg h]
      obtain ⟨x, r, h1, h2⟩ := join l (cur ++ [b])
      exact ⟨x, r, h1, by rw [h2]; simp⟩
theorem mem_cut : ∀ (l cur x : List UInt8), x ∈ cutGo cur l → ∀ b ∈ x, b ∈ cur ∨ b ∈ l
  | [], cur, x, h, b, hb => by
    rw [cutGo, List.mem_singleton] at h
    subst h
    exact .inl hb
  | c :: l, cur, x, h, b, hb => by
    rw [cutGo] at h
    split at h
    · rcases List.mem_cons.1 h with rfl | h
      · exact .inl hb
      · rcases mem_cut l [] x h b hb with h | h
        · cases h
        · exact .inr (List.mem_cons_of_mem _ h)
    · rcases mem_cut l (cur ++ [c]) x h b hb with h | h
      · rcases List.mem_append.1 h with h | h
        · exact .inl h
        · rw [List.mem_singleton] at h
          exact .inr (by rw [h]; exact List.mem_cons_self)
      · exact .inr (List.mem_cons_of_mem _ h)
theorem unf_app : ∀ (a y : List UInt8), (∀ b ∈ a, b ≠ 13) → unf false (a ++ y) = (unf false y).map (a ++ ·)
  | [], y, _ => by simp
  | c :: a, y, h => by
    rw [List.cons_append, unf, if_neg (h c List.mem_cons_self), unf_app a y (fun b hb => h b (List.mem_cons_of_mem _ hb))]
    cases unf false y <;> simp
theorem unf_fold : ∀ (r : List (List UInt8)) (wd : Nat), (∀ x ∈ r, ∀ b ∈ x, b ≠ 13) → unf false (foldGo false wd r) = some (r.flatMap (fun y => 32 :: y))
  | [], wd, _ => by rw [foldGo]; rfl
  | x :: r, wd, h => by
    have hx := h x List.mem_cons_self
    have hr := fun y hy => h y (List.mem_cons_of_mem _ hy)
    by_cases hw : 78 < wd + 1 + x.length
    · rw [hd.foldGo_yes r hw]
      show unf false (13 :: 10 :: 32 :: (x ++ foldGo false (1 + x.length) r)) = _
      rw [unf_fw, unf_app x _ hx, unf_fold r _ hr]
      simp
    · rw [hd.foldGo_no r (.inr (by omega))]
      show unf false ((32 :: x) ++ foldGo false (wd + 1 + x.length) r) = _
      rw [unf_app (32 :: x) _ (fun b hb => by
        rcases List.mem_cons.1 hb with rfl | hb
        · decide
        · exact hx b hb), unf_fold r _ hr]
      simp
theorem words_ok {v : List UInt8} (h : hd.Safe v) : ∀ x ∈ cutGo [] v, ∀ b ∈ x, b ≠ 13 := by
  intro x hx b hb e
  rcases mem_cut v [] x hx b hb with hm | hm
  · cases hm
  · have := hd.ascii h b hm
    rw [e] at this
    exact absurd this.1 (by decide)
/-- The folded field is read back. -/
theorem field {P : ByteArray → Prop} {nm v : List UInt8} (hn : P ⟨nm.toArray⟩) (h58 : 58 ∉ nm) (hv : hd.Safe v) : uf.Field P (foldL nm v) nm v := by
  obtain ⟨x, r, h1, h2⟩ := join v []
  have hw := words_ok hv
  rw [h1] at hw
  refine ⟨x ++ foldGo false (nm.length + 1 + 1 + x.length) r, ⟨?_, h58⟩, hn, ?_, hv⟩
  · unfold foldL
    rw [h1, hd.foldGo_no r (.inl rfl)]
    simp
  · rw [unf_app x _ (hw x List.mem_cons_self), unf_fold r _ (fun y hy => hw y (List.mem_cons_of_mem _ hy))]
    simp only [List.nil_append] at h2
    rw [Option.map_some, h2]

/-- The longest word, behind w characters of one, b being the longest so far. -/
def lw : Nat → Nat → List UInt8 → Nat
  | _, b, [] => b
  | w, b, c :: r => if c.toNat = 32 then lw 0 b r else lw (w + 1) (max b (w + 1)) r
theorem lw_ge : ∀ (l : List UInt8) (w b : Nat), b ≤ lw w b l
  | [], w, b => Nat.le_refl _
  | c :: r, w, b => by
    rw [lw]
    split
    · exact lw_ge r 0 b
    · have := lw_ge r (w + 1) (max b (w + 1))
      omega
theorem lw_cut : ∀ (l cur : List UInt8) (b : Nat), cur.length ≤ b → ∀ x ∈ cutGo cur l, x.length ≤ lw cur.length b l
  | [], cur, b, hb, x, hx => by
    rw [cutGo, List.mem_singleton] at hx
    rw [hx, lw]
    exact hb
  | c :: l, cur, b, hb, x, hx => by
    rw [cutGo] at hx
    rw [lw]
    by_cases h : c.toNat = 32
    · rw [if_pos h] at hx ⊢
      rcases List.mem_cons.1 hx with rfl | hx
      · have := lw_ge l 0 b
        omega
      · exact lw_cut l [] b (Nat.zero_le _) x hx
    · rw [if_neg h] at hx ⊢
      have := lw_cut l (cur ++ [c]) (max b (cur.length + 1)) (by simp; omega) x hx
      simpa using this
theorem llw_app : ∀ (a : List UInt8) (w b : Nat) (y : List UInt8), w ≤ b → (∀ c ∈ a, c ≠ 13) → llw w b (a ++ y) = llw (w + a.length) (max b (w + a.length)) y
  | [], w, b, y, hw, _ => by
    rw [List.nil_append, List.length_nil, Nat.add_zero, Nat.max_eq_left hw]
  | c :: a, w, b, y, hw, h => by
    rw [List.cons_append, llw_on (h c List.mem_cons_self), llw_app a (w + 1) _ y (by omega) (fun d hd => h d (List.mem_cons_of_mem _ hd)), List.length_cons]
    congr 1
    · omega
    · omega
theorem ll_fold (M L : Nat) (h78 : 78 ≤ M) (hL : L + 1 ≤ M) : ∀ (r : List (List UInt8)) (wd b : Nat), wd ≤ b → b ≤ M → (∀ x ∈ r, x.length ≤ L ∧ ∀ c ∈ x, c ≠ 13) → llw wd b (foldGo false wd r ++ [13, 10]) ≤ M
  | [], wd, b, _, hb, _ => by
    rw [foldGo, List.nil_append, llw_crlf, llw_nil]
    exact hb
  | x :: r, wd, b, hwb, hb, h => by
    obtain ⟨hxl, hx⟩ := h x List.mem_cons_self
    have hr := fun y hy => h y (List.mem_cons_of_mem _ hy)
    have hsx : ∀ c ∈ (32 :: x : List UInt8), c ≠ 13 := fun c hc => by
      rcases List.mem_cons.1 hc with rfl | hc
      · decide
      · exact hx c hc
    by_cases hw : 78 < wd + 1 + x.length
    · rw [hd.foldGo_yes r hw]
      show llw wd b (13 :: 10 :: ((32 :: x) ++ foldGo false (1 + x.length) r ++ [13, 10])) ≤ M
      rw [llw_crlf, List.append_assoc, llw_app (32 :: x) 0 b _ (Nat.zero_le _) hsx]
      have e : 0 + (32 :: x : List UInt8).length = 1 + x.length := by simp; omega
      rw [e]
      exact ll_fold M L h78 hL r (1 + x.length) _ (by omega) (by omega) hr
    · rw [hd.foldGo_no r (.inr (by omega))]
      show llw wd b ((32 :: x) ++ foldGo false (wd + 1 + x.length) r ++ [13, 10]) ≤ M
      rw [List.append_assoc, llw_app (32 :: x) wd b _ hwb hsx]
      have e : wd + (32 :: x : List UInt8).length = wd + 1 + x.length := by simp; omega
      rw [e]
      exact ll_fold M L h78 hL r (wd + 1 + x.length) _ (by omega) (by omega) hr
/-- No line of the folded field is longer than 78, or than its name with its longest word. -/
theorem ll_field {nm v : List UInt8} (hn : ∀ c ∈ nm, c ≠ 13) (hv : hd.Safe v) : ln.ll (foldL nm v) ≤ max 78 (lw 0 0 v + nm.length + 2) := by
  obtain ⟨x, r, h1, h2⟩ := join v []
  have hw := words_ok hv
  have hl := lw_cut v [] 0 (Nat.le_refl _)
  rw [h1] at hw hl
  rw [List.length_nil] at hl
  have hx := hl x List.mem_cons_self
  have e : foldL nm v = (nm ++ [58, 32] ++ x) ++ (foldGo false (nm.length + 1 + 1 + x.length) r ++ [13, 10]) := by
    unfold foldL
    rw [h1, hd.foldGo_no r (.inl rfl)]
    simp
  unfold ln.ll
  rw [e, llw_app _ 0 0 _ (Nat.le_refl _) (fun c hc => by
    rcases List.mem_append.1 hc with hc | hc
    · rcases List.mem_append.1 hc with hc | hc
      · exact hn c hc
      · rcases List.mem_cons.1 hc with rfl | hc
        · decide
        · rw [List.mem_singleton] at hc
          rw [hc]
          decide
    · exact hw x List.mem_cons_self c hc)]
  have e2 : 0 + (nm ++ [58, 32] ++ x).length = nm.length + 1 + 1 + x.length := by simp; omega
  rw [e2]
  exact ll_fold _ (lw 0 0 v) (by omega) (by omega) r _ _ (by omega) (by omega) (fun y hy => ⟨hl y (List.mem_cons_of_mem _ hy), hw y (List.mem_cons_of_mem _ hy)⟩)
theorem fold_len : ∀ (r : List (List UInt8)) (f : Bool) (wd : Nat), (foldGo f wd r).length ≤ 3 * ((r.map List.length).sum + r.length)
  | [], f, wd => by rw [foldGo]; simp
  | x :: r, f, wd => by
    rw [foldGo]
    split
    · have := fold_len r false (1 + x.length)
      simp
      omega
    · have := fold_len r false (wd + 1 + x.length)
      simp
      omega
theorem field_len (nm v : List UInt8) : (foldL nm v).length ≤ nm.length + 3 * v.length + 6 := by
  have h1 := fold_len (cutGo [] v) true (nm.length + 1)
  have h2 := hd.cutGo_len v []
  unfold foldL
  simp at h1 h2 ⊢
  omega
theorem lw_snoc : ∀ (l : List UInt8) (w b : Nat), lw w b l ≤ max b (w + l.length)
  | [], w, b => by rw [lw]; omega
  | c :: r, w, b => by
    rw [lw]
    split
    · have := lw_snoc r 0 b
      simp
      omega
    · have := lw_snoc r (w + 1) (max b (w + 1))
      simp
      omega
/-- A name, byte by byte. -/
theorem name_of (l : List UInt8) (h : ∀ b ∈ l, 33 ≤ b.toNat ∧ b.toNat ≤ 126 ∧ b ≠ 58) (h1 : 1 ≤ l.length) (h2 : l.length ≤ 40) : hn.IsName ⟨l.toArray⟩ := by
  have hs : (⟨l.toArray⟩ : ByteArray).size = l.length := by rw [Lib.size_eq]
  refine ⟨by omega, by omega, fun j hj => ⟨hj, ?_⟩⟩
  have hm : ((⟨l.toArray⟩ : ByteArray)[j]'hj) ∈ l := by
    have : (⟨l.toArray⟩ : ByteArray)[j]'hj = l[j]'(by omega) := rfl
    rw [this]
    exact List.getElem_mem _
  obtain ⟨a, b, c⟩ := h _ hm
  exact ⟨by omega, by omega, fun e => c (UInt8.toNat_inj.1 (Int.ofNat.inj e))⟩
end Go.Proofs.YtbanjkkbobedhaaDoor.ff

namespace Go.Proofs.YtbanjkkbobedhaaDoor.ml
open Go
open Go.Proofs.YtbanjkkbobedhaaDoor.hd (cutGo foldGo foldL)
set_option linter.unusedVariables false

/-- Each end of a line is followed by a blank. -/
def Fd : B → Prop
  | [] => True
  | c :: r => (c = 13 → r.take 2 = [10, 32]) ∧ Fd r
theorem fd_app : ∀ (a y : B), (∀ b ∈ a, b ≠ 13) → Fd y → Fd (a ++ y)
  | [], y, _, h => h
  | c :: a, y, h, hy => ⟨fun e => absurd e (h c List.mem_cons_self), fd_app a y (fun b hb => h b (List.mem_cons_of_mem _ hb)) hy⟩
theorem fd_fold : ∀ (r : List B) (f : Bool) (wd : Nat), (∀ x ∈ r, ∀ b ∈ x, b ≠ 13) → Fd (foldGo f wd r)
  | [], f, wd, _ => by rw [foldGo]; exact trivial
  | x :: r, f, wd, h => by
    have hx := h x List.mem_cons_self
    have hr := fun y hy => h y (List.mem_cons_of_mem _ hy)
    rw [foldGo]
    split
    · rw [List.append_assoc]
      refine ⟨fun _ => rfl, fun e => absurd e (by decide), fun e => absurd e (by decide), ?_⟩
      exact fd_app x _ hx (fd_fold r _ _ hr)
    · rw [List.append_assoc]
      refine ⟨fun e => absurd e (by decide), ?_⟩
      exact fd_app x _ hx (fd_fold r _ _ hr)
theorem no_end : ∀ (x q : B) (j : Nat), Fd x → j < x.length → ¬ EndAt (x ++ q) j
  | [], q, j, _, h => absurd h (Nat.not_lt_zero _)
  | c :: r, q, 0, h, _ => by
    rintro ⟨h1, h2⟩
    rw [List.drop_zero, List.cons_append] at h1
    have hc : c = 13 := by
      cases hr : r ++ q with
      | nil => rw [hr] at h1; simp [nl] at h1
      | cons a t => rw [hr] at h1; simp [nl] at h1; exact h1.1
    have h3 := h.1 hc
    match r, h3 with
    | a :: b :: t, h3 =>
      simp at h3
      apply h2
      simp [h3.2]
  | c :: r, q, j + 1, h, hj => by
    have ih := no_end r q j h.2 (by simpa using hj)
    rintro ⟨h1, h2⟩
    exact ih ⟨by simpa using h1, by simpa using h2⟩
theorem fold_ne {nm v : B} (hn : ∀ b ∈ nm, b ≠ 13) (hv : hd.Safe v) : Fd (nm ++ [58] ++ foldGo true (nm.length + 1) (cutGo [] v)) := by
  rw [List.append_assoc]
  refine fd_app nm _ hn (fd_app [58] _ (by intro b hb; rw [List.mem_singleton] at hb; subst hb; decide) (fd_fold _ _ _ (ff.words_ok hv)))
/-- The first field of a text that begins with a folded one. -/
theorem chunk_fold {nm v q : B} (hn : ∀ b ∈ nm, b ≠ 13) (hv : hd.Safe v) (hq : q.head? ≠ some 32) : Chunk (foldL nm v ++ q) (foldL nm v) q := by
  have hx := fold_ne hn hv
  unfold foldL
  generalize nm ++ [58] ++ foldGo true (nm.length + 1) (cutGo [] v) = x at hx
  refine ⟨x.length, ?_, ?_, ⟨?_, ?_⟩, ?_⟩
  · rw [List.take_append_of_le_length (by simp), List.take_of_length_le (by simp)]
  · rw [List.drop_append_of_le_length (by simp), List.drop_of_length_le (by simp)]; simp
  · rw [List.append_assoc, List.drop_left]; simp [nl]
  · rw [List.drop_append_of_le_length (by simp), List.drop_of_length_le (by simp)]; simpa using hq
  · intro j hj
    rw [List.append_assoc]
    exact no_end x _ j hx hj
/-- A name of a field: no end of a line, no colon, and it begins with a sign. -/
def NmOK (nm : B) : Prop := hn.IsName ⟨nm.toArray⟩
theorem nm_sign {nm : B} (h : NmOK nm) : nm ≠ [] ∧ ∀ b ∈ nm, 33 ≤ b.toNat ∧ b.toNat ≤ 126 ∧ b ≠ 58 := by
  obtain ⟨h1, h2, h3⟩ := h
  rw [Lib.size_eq] at h1
  refine ⟨fun e => by subst e; simp at h1, fun b hb => ?_⟩
  obtain ⟨j, hj, rfl⟩ := List.mem_iff_getElem.1 hb
  obtain ⟨hj', g1, g2, g3⟩ := h3 j (by rw [Lib.size_eq]; exact hj)
  have e : (⟨nm.toArray⟩ : ByteArray)[j]'hj' = nm[j] := rfl
  rw [e] at g1 g2 g3
  refine ⟨by omega, by omega, fun e2 => ?_⟩
  rw [e2] at g3
  exact g3 rfl
/-- Fields folded, one behind the other. -/
def foldM (fs : List (B × B)) : B := fs.flatMap fun x => foldL x.1 x.2
theorem foldM_head (fs : List (B × B)) (y : B) (h : ∀ x ∈ fs, NmOK x.1) (hy : y.head? ≠ some 32) : (foldM fs ++ y).head? ≠ some 32 := by
  cases fs with
  | nil => exact hy
  | cons x fs =>
    obtain ⟨h1, h2⟩ := nm_sign (h x List.mem_cons_self)
    cases hn : x.1 with
    | nil => exact absurd hn h1
    | cons c r =>
      have := h2 c (by rw [hn]; exact List.mem_cons_self)
      simp only [foldM, List.flatMap_cons, foldL, hn, List.cons_append, List.head?_cons]
      intro e
      cases e
      exact absurd this.1 (by decide)
theorem run_fold : ∀ (fs : List (B × B)) (y : B), (∀ x ∈ fs, NmOK x.1 ∧ hd.Safe x.2) → y.head? ≠ some 32 → Run F fs (foldM fs ++ y) y
  | [], y, _, _ => rfl
  | x :: fs, y, h, hy => by
    have hx := h x List.mem_cons_self
    have hr := fun z hz => h z (List.mem_cons_of_mem _ hz)
    obtain ⟨n1, n2⟩ := nm_sign hx.1
    have e : foldM (x :: fs) ++ y = foldL x.1 x.2 ++ (foldM fs ++ y) := by simp [foldM]
    rw [e]
    refine ⟨?_, foldL x.1 x.2, foldM fs ++ y, chunk_fold (fun b hb e => ?_) hx.2 (foldM_head fs y (fun z hz => (hr z hz).1) hy), ff.field hx.1 (fun h58 => (n2 58 h58).2.2 rfl) hx.2, run_fold fs y hr hy⟩
    · intro hp
      unfold Pre at hp
      cases hn : x.1 with
      | nil => exact n1 hn
      | cons c r =>
        have := n2 c (by rw [hn]; exact List.mem_cons_self)
        simp only [foldL, hn, List.cons_append, nl] at hp
        rw [List.take_succ_cons] at hp
        have hc := (List.cons.inj hp).1
        rw [hc] at this
        exact absurd this.1 (by decide)
    · have := n2 b hb
      subst e
      exact absurd this.1 (by decide)
theorem par_fold (fs : List (B × B)) (b : B) (h : ∀ x ∈ fs, NmOK x.1 ∧ hd.Safe x.2) : Par F fs (foldM fs ++ nl ++ b) b := by
  refine ⟨nl ++ b, ?_, rfl, rfl⟩
  rw [List.append_assoc]
  exact run_fold fs _ h (by simp [nl])
end Go.Proofs.YtbanjkkbobedhaaDoor.ml

namespace Go.Proofs.YtbanjkkbobedhaaDoor.qu
set_option linter.unusedVariables false

/-- Characters from 32 to 126 and ends of lines, no blank ahead of an end. -/
def good : List UInt8 → Prop
  | [] => True
  | [c] => okc c ∧ c ≠ 32
  | a :: b :: r => (a = 13 ∧ b = 10 ∧ good r) ∨ (okc a ∧ (a = 32 → b ≠ 13) ∧ good (b :: r))

theorem good_cons {c : UInt8} {x : List UInt8} (hc : okc c) (hx : good x) (h32 : c = 32 → ∃ b r, x = b :: r ∧ b ≠ 13) : good (c :: x) := by
  cases x with
  | nil => exact ⟨hc, fun e => by obtain ⟨b, r, h, _⟩ := h32 e; cases h⟩
  | cons b r =>
    refine .inr ⟨hc, fun e => ?_, hx⟩
    obtain ⟨b', r', h, hb⟩ := h32 e
    obtain ⟨rfl, rfl⟩ := List.cons.inj h
    exact hb
theorem good_crlf {x : List UInt8} (hx : good x) : good (13 :: 10 :: x) := .inl ⟨rfl, rfl, hx⟩

/-- What a text that goes on begins with. -/
theorem qt_head {w : Nat} {c : UInt8} {r : List UInt8} (h : crlf (c :: r) = false) : ∃ b t, qt w (c :: r) = b :: t ∧ b ≠ 13 := by
  have hok := form_ok c (lastb r)
  have hf := form_len c (lastb r)
  by_cases h2 : lim (lastb r) < w + (form c (lastb r)).length
  · rw [qt_soft h h2]
    exact ⟨_, _, rfl, by decide⟩
  · rw [qt_on h h2]
    cases hh : form c (lastb r) with
    | nil => rw [hh] at hf; simp at hf
    | cons a t => exact ⟨a, _, rfl, (okc_ne (hok a (by rw [hh]; simp))).1⟩
theorem good_form {c : UInt8} {r x : List UInt8} (hx : good x) (hh : lastb r = false → ∃ b t, x = b :: t ∧ b ≠ 13) : good (form c (lastb r) ++ x) := by
  have hl := c.toNat_lt
  have hok := form_ok c (lastb r)
  obtain ⟨_, _, _, a3, a4⟩ := hv_hx' ⟨c.toNat / 16, by omega⟩
  obtain ⟨_, _, _, b3, b4⟩ := hv_hx' ⟨c.toNat % 16, by omega⟩
  simp only at a3 a4 b3 b4
  unfold form at hok ⊢
  by_cases h : plain c (lastb r) = true
  · rw [if_pos h] at hok ⊢
    refine good_cons (hok c (by simp)) hx (fun e => hh ?_)
    subst e
    unfold plain at h
    cases hb : lastb r with
    | false => rfl
    | true => rw [hb] at h; revert h; decide
  · rw [if_neg h] at hok ⊢
    have n32 : ∀ y : UInt8, 48 ≤ y.toNat → y ≠ 32 := fun y hy e => by rw [e] at hy; exact absurd hy (by decide)
    refine good_cons (hok 61 (by simp)) (good_cons (hok _ (by simp)) (good_cons (hok _ (by simp)) hx (fun e => absurd e (n32 _ b3))) (fun e => absurd e (n32 _ a3))) (fun e => absurd e (by decide))
theorem good_qt_n : ∀ (n : Nat) (w : Nat) (l : List UInt8), l.length ≤ n → good (qt w l) := by
  intro n
  induction n with
  | zero =>
    intro w l h
    obtain rfl : l = [] := List.eq_nil_of_length_eq_zero (by omega)
    rw [qt_nil]
    exact trivial
  | succ n ih =>
    intro w l h
    match l, h with
    | [], _ => rw [qt_nil]; exact trivial
    | c :: r, h =>
      have hr : r.length ≤ n := by simp at h; omega
      by_cases hc : crlf (c :: r) = true
      · obtain ⟨r', hr'⟩ := crlf_iff.1 hc
        obtain ⟨rfl, rfl⟩ := List.cons.inj hr'
        rw [qt_crlf]
        exact good_crlf (ih 0 r' (by simp at hr; omega))
      · have hcf : crlf (c :: r) = false := by simpa using hc
        have hhd : ∀ w', lastb r = false → ∃ b t, qt w' r = b :: t ∧ b ≠ 13 := by
          intro w' hl
          cases r with
          | nil => cases hl
          | cons a t =>
            unfold lastb at hl
            exact qt_head (by simpa using hl)
        by_cases h2 : lim (lastb r) < w + (form c (lastb r)).length
        · rw [qt_soft hcf h2]
          exact good_cons (by unfold okc; decide) (good_crlf (good_form (ih _ r hr) (hhd _))) (fun e => absurd e (by decide))
        · rw [qt_on hcf h2]
          exact good_form (ih _ r hr) (hhd _)
theorem good_qt (l : List UInt8) : good (qt 0 l) := good_qt_n l.length 0 l (Nat.le_refl _)

/-- What the law asks of each character. -/
def Okay (l : List UInt8) (i : Nat) : Prop :=
  (okc (l.getD i 0) ∨ (l.getD i 0 = 13 ∧ i + 1 < l.length ∧ l.getD (i + 1) 0 = 10) ∨ (l.getD i 0 = 10 ∧ 0 < i ∧ l.getD (i - 1) 0 = 13)) ∧
  (l.getD i 0 = 32 → i + 1 < l.length ∧ l.getD (i + 1) 0 ≠ 13)
theorem okay_shift {l : List UInt8} {a : UInt8} {i : Nat} (h : Okay l i) : Okay (a :: l) (i + 1) := by
  obtain ⟨h1, h2⟩ := h
  refine ⟨?_, fun e => ?_⟩
  · rcases h1 with h1 | ⟨x, y, z⟩ | ⟨x, y, z⟩
    · exact .inl h1
    · exact .inr (.inl ⟨x, by simp; omega, z⟩)
    · refine .inr (.inr ⟨x, by omega, ?_⟩)
      obtain ⟨j, rfl⟩ : ∃ j, i = j + 1 := ⟨i - 1, by omega⟩
      exact z
  · obtain ⟨p, q⟩ := h2 e
    exact ⟨by simp; omega, q⟩
theorem okay_all : ∀ (n : Nat) (l : List UInt8), l.length ≤ n → good l → ∀ i, i < l.length → Okay l i := by
  intro n
  induction n with
  | zero => intro l h _ i hi; omega
  | succ n ih =>
    intro l h hg i hi
    match l, h, hg with
    | [], _, _ => simp at hi
    | [c], _, hg =>
      obtain rfl : i = 0 := by simp at hi; omega
      exact ⟨.inl hg.1, fun e => absurd e hg.2⟩
    | a :: b :: r, h, hg =>
      rcases hg with ⟨rfl, rfl, hr⟩ | ⟨hok, h32, hr⟩
      · match i, hi with
        | 0, _ => exact ⟨.inr (.inl ⟨rfl, by simp, rfl⟩), fun e => absurd (show (13 : UInt8) = 32 from e) (by decide)⟩
        | 1, _ => exact ⟨.inr (.inr ⟨rfl, by decide, rfl⟩), fun e => absurd (show (10 : UInt8) = 32 from e) (by decide)⟩
        | j + 2, hi => exact okay_shift (okay_shift (ih r (by simp at h; omega) hr j (by simp at hi; omega)))
      · match i, hi with
        | 0, _ => exact ⟨.inl hok, fun e => ⟨by simp, h32 e⟩⟩
        | j + 1, hi => exact okay_shift (ih (b :: r) (by simp at h ⊢; omega) hr j (by simp at hi ⊢; omega))
theorem okay_qt (l : List UInt8) (i : Nat) (h : i < (qt 0 l).length) : Okay (qt 0 l) i := okay_all _ _ (Nat.le_refl _) (good_qt l) i h
end Go.Proofs.YtbanjkkbobedhaaDoor.qu

namespace Go.Proofs.YtbanjkkbobedhaaDoor.ml
open Go
open Go.Proofs.YtbanjkkbobedhaaDoor.hd (cutGo foldGo foldL)
open Go.Proofs.YtbanjkkbobedhaaDoor.qu (llw llw_nil llw_crlf llw_on okc)
set_option linter.unusedVariables false

theorem llw_ge (w b : Nat) (l : B) : b ≤ llw w b l := by
  have := ln.more l false w b 0
  rw [Nat.max_eq_left (Nat.zero_le b)] at this
  unfold llw
  rw [this]
  exact Nat.le_max_left _ _
/-- Characters from 32 to 126, and ends of lines. -/
def cp : B → Prop
  | [] => True
  | [c] => okc c
  | a :: b :: r => (a = 13 ∧ b = 10 ∧ cp r) ∨ (okc a ∧ cp (b :: r))
theorem cp_cons {c : UInt8} {x : B} (hc : okc c) (hx : cp x) : cp (c :: x) := by
  cases x with
  | nil => exact hc
  | cons b r => exact .inr ⟨hc, hx⟩
theorem cp_app : ∀ (a y : B), (∀ c ∈ a, okc c) → cp y → cp (a ++ y)
  | [], y, _, h => h
  | c :: a, y, h, hy => cp_cons (h c List.mem_cons_self) (cp_app a y (fun b hb => h b (List.mem_cons_of_mem _ hb)) hy)
theorem cp_good : ∀ (n : Nat) (l : B), l.length ≤ n → qu.good l → cp l
  | n, [], _, _ => trivial
  | n, [c], _, h => h.1
  | 0, a :: b :: r, hl, _ => by simp at hl
  | n + 1, a :: b :: r, hl, h => by
    simp only [List.length_cons] at hl
    rcases h with ⟨h1, h2, h3⟩ | ⟨h1, _, h3⟩
    · exact .inl ⟨h1, h2, cp_good n r (by omega) h3⟩
    · exact .inr ⟨h1, cp_good n (b :: r) (by simp only [List.length_cons]; omega) h3⟩
theorem not_bad {c : UInt8} (h : okc c) : bad c = false := by
  have h13 := qu.okc_ne h
  unfold bad
  have h0 : c ≠ 0 := fun e => by rw [e] at h; exact absurd h.1 (by decide)
  have h1 := h.2
  simp [h0, h13.1, h13.2]
  omega
theorem mok_cp : ∀ (n : Nat) (l : B) (w b : Nat), l.length ≤ n → cp l → llw w b l ≤ 998 → mok w (l ++ nl) = true
  | n, [], w, b, _, _, _ => by
    show mok w (13 :: 10 :: []) = true
    rw [mok_end]
    rfl
  | n, [c], w, b, _, hc, hl => by
    have h13 := qu.okc_ne hc
    rw [llw_on h13.1] at hl
    have := llw_ge (w + 1) (max b (w + 1)) []
    show mok w (c :: 13 :: 10 :: []) = true
    rw [mok_good (by rintro ⟨e, _⟩; exact h13.1 e) (not_bad hc) (by omega), mok_end]
    rfl
  | 0, a :: b' :: r, w, b, hn, _, _ => by simp at hn
  | n + 1, a :: b' :: r, w, b, hn, hc, hl => by
    simp only [List.length_cons] at hn
    rcases hc with ⟨rfl, rfl, h3⟩ | ⟨h1, h3⟩
    · rw [llw_crlf] at hl
      show mok w (13 :: 10 :: (r ++ nl)) = true
      rw [mok_end]
      exact mok_cp n r 0 b (by omega) h3 hl
    · have h13 := qu.okc_ne h1
      rw [llw_on h13.1] at hl
      have := llw_ge (w + 1) (max b (w + 1)) (b' :: r)
      show mok w (a :: (b' :: r ++ nl)) = true
      rw [mok_good (by rintro ⟨e, _⟩; exact h13.1 e) (not_bad h1) (by omega)]
      exact mok_cp n (b' :: r) (w + 1) _ (by simp only [List.length_cons]; omega) h3 hl
theorem llw_nl : ∀ (n : Nat) (l : B) (w b : Nat), l.length ≤ n → cp l → llw w b (l ++ nl) = llw w b l
  | n, [], w, b, _, _ => by
    show llw w b (13 :: 10 :: []) = _
    rw [llw_crlf, llw_nil, llw_nil]
  | n, [c], w, b, _, hc => by
    have h13 := qu.okc_ne hc
    show llw w b (c :: 13 :: 10 :: []) = _
    rw [llw_on h13.1, llw_on h13.1, llw_crlf, llw_nil, llw_nil]
  | 0, a :: b' :: r, w, b, hn, _ => by simp at hn
  | n + 1, a :: b' :: r, w, b, hn, hc => by
    simp only [List.length_cons] at hn
    rcases hc with ⟨rfl, rfl, h3⟩ | ⟨h1, h3⟩
    · show llw w b (13 :: 10 :: (r ++ nl)) = _
      rw [llw_crlf, llw_crlf]
      exact llw_nl n r 0 b (by omega) h3
    · have h13 := qu.okc_ne h1
      show llw w b (a :: (b' :: r ++ nl)) = _
      rw [llw_on h13.1, llw_on h13.1]
      exact llw_nl n (b' :: r) (w + 1) _ (by simp only [List.length_cons]; omega) h3
theorem okc32 : okc 32 := ⟨by decide, by decide⟩
theorem okc58 : okc 58 := ⟨by decide, by decide⟩
theorem cp_fold : ∀ (r : List B) (f : Bool) (wd : Nat), (∀ x ∈ r, ∀ b ∈ x, okc b) → cp (foldGo f wd r)
  | [], f, wd, _ => by rw [foldGo]; exact trivial
  | x :: r, f, wd, h => by
    have hx := h x List.mem_cons_self
    have hr := fun y hy => h y (List.mem_cons_of_mem _ hy)
    rw [foldGo]
    split
    · rw [List.append_assoc]
      exact .inl ⟨rfl, rfl, cp_cons okc32 (cp_app x _ hx (cp_fold r _ _ hr))⟩
    · rw [List.append_assoc]
      exact cp_cons okc32 (cp_app x _ hx (cp_fold r _ _ hr))
theorem words_okc {v : B} (h : hd.Safe v) : ∀ x ∈ cutGo [] v, ∀ b ∈ x, okc b := by
  intro x hx b hb
  rcases ff.mem_cut v [] x hx b hb with h1 | h1
  · cases h1
  · exact hd.ascii h b h1
theorem step_some (w : Nat) (c : UInt8) : hd.step (some w) c = if c.toNat < 32 ∨ 126 < c.toNat then none else if c.toNat = 32 then (if w = 0 then none else some 0) else if 200 ≤ w then none else some (w + 1) := rfl
/-- No word of a safe value is longer than 200 characters. -/
theorem lw_safe : ∀ (v : B) (w b w' : Nat), v.foldl hd.step (some w) = some w' → w ≤ 200 → ff.lw w b v ≤ max b 200
  | [], w, b, w', _, _ => by rw [ff.lw]; omega
  | c :: r, w, b, w', h, hw => by
    rw [List.foldl_cons, step_some] at h
    rw [ff.lw]
    by_cases h1 : c.toNat < 32 ∨ 126 < c.toNat
    · rw [if_pos h1] at h
      rw [hd.fold_none r] at h
      cases h
    · rw [if_neg h1] at h
      by_cases h2 : c.toNat = 32
      · rw [if_pos h2] at h ⊢
        by_cases h3 : w = 0
        · rw [if_pos h3] at h
          rw [hd.fold_none r] at h
          cases h
        · rw [if_neg h3] at h
          exact lw_safe r 0 b w' h (Nat.zero_le _)
      · rw [if_neg h2] at h ⊢
        by_cases h3 : 200 ≤ w
        · rw [if_pos h3] at h
          rw [hd.fold_none r] at h
          cases h
        · rw [if_neg h3] at h
          have := lw_safe r (w + 1) (max b (w + 1)) w' h (by omega)
          omega
theorem lw_le {v : B} (h : hd.Safe v) : ff.lw 0 0 v ≤ 200 := by
  rcases h.2 with rfl | ⟨w, hw, _⟩
  · simp [ff.lw]
  · have := lw_safe v 0 0 w hw (Nat.zero_le _)
    omega
/-- A folded field is lines of a mail. -/
theorem mok_field {nm v : B} (hn : NmOK nm) (h40 : nm.length ≤ 40) (hv : hd.Safe v) : mok 0 (foldL nm v) = true := by
  obtain ⟨n1, n2⟩ := nm_sign hn
  have hx : cp (nm ++ [58] ++ foldGo true (nm.length + 1) (cutGo [] v)) := by
    rw [List.append_assoc]
    exact cp_app nm _ (fun c hc => ⟨by have := n2 c hc; omega, (n2 c hc).2.1⟩) (cp_app [58] _ (by intro b hb; rw [List.mem_singleton] at hb; subst hb; exact okc58) (cp_fold _ _ _ (words_okc hv)))
  have hl := ff.ll_field (nm := nm) (fun c hc e => by have := n2 c hc; rw [e] at this; exact absurd this.1 (by decide)) hv
  have h2 := lw_le hv
  unfold ln.ll at hl
  unfold foldL at hl ⊢
  refine mok_cp _ _ 0 0 (Nat.le_refl _) hx ?_
  rw [show ([13, 10] : B) = nl from rfl, llw_nl _ _ 0 0 (Nat.le_refl _) hx] at hl
  omega
theorem mok_app : ∀ (n : Nat) (l : B) (w : Nat) (y : B), l.length ≤ n → mok w l = true → mok w (l ++ y) = mok 0 y
  | n, [], w, y, _, h => by
    rw [mok] at h
    rw [List.nil_append, show w = 0 from by simpa using h]
  | n, [c], w, y, _, h => by rw [mok] at h; cases h
  | 0, a :: b :: r, w, y, hn, _ => by simp at hn
  | n + 1, a :: b :: r, w, y, hn, h => by
    simp only [List.length_cons] at hn
    rw [mok] at h
    show mok w (a :: b :: (r ++ y)) = _
    rw [mok]
    split
    · rename_i hc
      rw [if_pos hc] at h
      exact mok_app n r 0 y (by omega) h
    · rename_i hc
      rw [if_neg hc] at h
      split
      · rename_i hb
        rw [if_pos hb] at h
        cases h
      · rename_i hb
        rw [if_neg hb] at h
        exact mok_app n (b :: r) (w + 1) y (by simp only [List.length_cons]; omega) h
theorem mok_foldM : ∀ (fs : List (B × B)) (y : B), (∀ x ∈ fs, NmOK x.1 ∧ x.1.length ≤ 40 ∧ hd.Safe x.2) → mok 0 (foldM fs ++ y) = mok 0 y
  | [], y, _ => rfl
  | x :: fs, y, h => by
    obtain ⟨h1, h2, h3⟩ := h x List.mem_cons_self
    have e : foldM (x :: fs) ++ y = foldL x.1 x.2 ++ (foldM fs ++ y) := by simp [foldM]
    rw [e, mok_app _ _ 0 _ (Nat.le_refl _) (mok_field h1 h2 h3)]
    exact mok_foldM fs y fun z hz => h z (List.mem_cons_of_mem _ hz)
/-- A mail of folded fields and quoted text is a mail; its fields are those, its body is that text. -/
theorem isMail_fold (fs : List (B × B)) (l : B) (h : ∀ x ∈ fs, NmOK x.1 ∧ x.1.length ≤ 40 ∧ hd.Safe x.2) (hl : fs.length ≤ 40) : IsMail (foldM fs ++ nl ++ (qu.qt 0 l ++ nl)) fs (qu.qt 0 l ++ nl) := by
  refine ⟨?_, par_fold fs _ (fun x hx => ⟨(h x hx).1, (h x hx).2.2⟩), hl⟩
  rw [List.append_assoc, mok_foldM fs _ h]
  show mok 0 (13 :: 10 :: (qu.qt 0 l ++ nl)) = true
  rw [mok_end]
  refine mok_cp _ _ 0 0 (Nat.le_refl _) (cp_good _ _ (Nat.le_refl _) (qu.good_qt l)) ?_
  have := qu.ll_qt l
  omega
end Go.Proofs.YtbanjkkbobedhaaDoor.ml
