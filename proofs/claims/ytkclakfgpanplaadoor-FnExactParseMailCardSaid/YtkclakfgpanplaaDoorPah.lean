/-
  Mails held against one another and marked by the law's own functions; the program's ParseMail.
-/
import Derived.Test.YtkclakfgpanplaaDoorPae
import Derived.Test.YtkclakfgpanplaaDoorMrf
namespace Go.Proofs.YtkclakfgpanplaaDoor.ml
open Go.RowKit
open fa
set_option linter.unusedVariables false

/-- Fields as pairs of texts. -/
def prs (fs : List (B × B)) : List Pr := fs.map fun x => (⟨x.1.toArray⟩, ⟨x.2.toArray⟩)
theorem prs_len (fs : List (B × B)) : (prs fs).length = fs.length := by simp [prs]
theorem fcells_at : ∀ (fs : List (B × B)) (j : Nat), j < fs.length → (fcells fs)[j * 2]? = some (.string ((prs fs).getD j no).1) ∧ (fcells fs)[j * 2 + 1]? = some (.string ((prs fs).getD j no).2)
  | [], j, h => absurd h (Nat.not_lt_zero _)
  | x :: fs, 0, h => ⟨rfl, rfl⟩
  | x :: fs, j + 1, h => by
    have ih := fcells_at fs j (by simpa using h)
    rw [show (j + 1) * 2 = j * 2 + 1 + 1 from by omega]
    simpa [fcells, prs] using ih
theorem fields_attrs {w : World} {base : Nat} {v : Value} {fs : List (B × B)} (h : FieldsAt w base v fs) : AttrsAt w v (prs fs) := by
  rcases h.2 with ⟨rfl, h0⟩ | ⟨g, cap, cur, rfl, _⟩
  · refine ⟨none, 0, by rw [prs_len, h0], .inl ?_⟩
    rw [List.eq_nil_of_length_eq_zero h0]
    rfl
  · refine ⟨_, cap, by rw [prs_len], .inr ⟨g, 0, rfl, fun j hj => ?_⟩⟩
    rw [prs_len] at hj
    obtain ⟨h1, h2⟩ := fcells_at fs j hj
    rw [Nat.zero_add, h.cellAt _ (by omega), h.cellAt _ (by omega)]
    exact ⟨h1, h2⟩

/-- What both ParseMail functions answer, as the law reads it: fields, a body, a code. -/
def PmIs (l : B) (fs : List (B × B)) (b : B) (c : Int) : Prop :=
  (65536 < l.length ∧ fs = [] ∧ b = [] ∧ c = 2) ∨ (l.length ≤ 65536 ∧ (¬ ∃ fs b, IsMail l fs b) ∧ fs = [] ∧ b = [] ∧ c = 3) ∨ (l.length ≤ 65536 ∧ IsMail l fs b ∧ c = 0)
theorem pm_of {l : B} {base : Nat} {e : Ending} {w : World} (h : RlRet l base e w) : ∃ fs b v c, PmIs l fs b c ∧ e = .returned (.tuple #[.agg #[v, tv b], .int .i64 c]) ∧ FieldsAt w base v fs ∧ fs.length ≤ 1048576 := by
  rcases h with ⟨hl, rfl⟩ | ⟨hl, hno, rfl⟩ | ⟨hl, fs, b, v, hm, rfl, hfa⟩
  · exact ⟨[], [], .slice none 0 0, 2, .inl ⟨hl, rfl, rfl, rfl⟩, rfl, fields_nil _ _, by simp⟩
  · exact ⟨[], [], .slice none 0 0, 3, .inr (.inl ⟨hl, hno, rfl, rfl, rfl⟩), rfl, fields_nil _ _, by simp⟩
  · exact ⟨fs, b, v, 0, .inr (.inr ⟨hl, hm, rfl⟩), rfl, hfa, by have := hm.2.2; omega⟩
theorem pm_one {l : B} {fs fs' : List (B × B)} {b b' : B} {c c' : Int} (h : PmIs l fs b c) (h' : PmIs l fs' b' c') : fs = fs' ∧ b = b' ∧ c = c' := by
  rcases h with ⟨x, rfl, rfl, rfl⟩ | ⟨x, x2, rfl, rfl, rfl⟩ | ⟨x, hf, rfl⟩ <;>
  rcases h' with ⟨y, rfl, rfl, rfl⟩ | ⟨y, y2, rfl, rfl, rfl⟩ | ⟨y, hf', rfl⟩ <;>
  first | exact ⟨rfl, rfl, rfl⟩ | (exfalso; omega) | (exfalso; exact x2 ⟨_, _, hf'⟩) | (exfalso; exact y2 ⟨_, _, hf⟩) | (obtain ⟨rfl, rfl⟩ := isMail_one hf hf'; exact ⟨rfl, rfl, rfl⟩)
set_option maxHeartbeats 1000000 in
set_option maxRecDepth 100000 in
theorem eqMail_any (v u : Value) (T : ByteArray) (ps : List Pr) (w : World) (h1 : AttrsAt w v ps) (h2 : AttrsAt w u ps) (hn : ps.length ≤ 1048576) :
    Calls Tryd.prog 10 #[.agg #[v, .string T], .agg #[u, .string T]] w fun e w' => e = .returned (.bool true) ∧ Below w.heap.size w w' := by
  have k1 := h1
  have k2 := h2
  obtain ⟨a, cap, rfl, _⟩ := h1
  obtain ⟨c, cap2, rfl, _⟩ := h2
  have b0 : Below w.heap.size w ((w.alloc (.cells #[.slice a ps.length cap, .string T] 27)).alloc (.cells #[.slice c ps.length cap2, .string T] 27)) := ((Below.refl _ w).alloc (Nat.le_refl _) _).alloc (by simp) _
  have H1 : Hid (AttrsAt ((w.alloc (.cells #[.slice a ps.length cap, .string T] 27)).alloc (.cells #[.slice c ps.length cap2, .string T] 27)) (.slice a ps.length cap) ps) := at_below k1 b0
  have H2 : Hid (AttrsAt ((w.alloc (.cells #[.slice a ps.length cap, .string T] 27)).alloc (.cells #[.slice c ps.length cap2, .string T] 27)) (.slice c ps.length cap2) ps) := at_below k2 b0
  have X1 := b2.new w 27 (.slice a ps.length cap) (.string T)
  have X1' := X1.below ((Below.refl _ _).alloc (Nat.le_refl _) (.cells #[.slice c ps.length cap2, .string T] 27))
  have X2 := b2.new (w.alloc (.cells #[.slice a ps.length cap, .string T] 27)) 27 (.slice c ps.length cap2) (.string T)
  rw [show (w.alloc (.cells #[.slice a ps.length cap, .string T] 27)).heap.size = w.heap.size + 1 from by simp] at X2
  have HX1 : Hid (b2.Box ((w.alloc (.cells #[.slice a ps.length cap, .string T] 27)).alloc (.cells #[.slice c ps.length cap2, .string T] 27)) w.heap.size 27 (.slice a ps.length cap) (.string T)) := X1'
  have HX2 : Hid (b2.Box ((w.alloc (.cells #[.slice a ps.length cap, .string T] 27)).alloc (.cells #[.slice c ps.length cap2, .string T] 27)) (w.heap.size + 1) 27 (.slice c ps.length cap2) (.string T)) := X2
  have HB0 : Hid (Below w.heap.size w ((w.alloc (.cells #[.slice a ps.length cap, .string T] 27)).alloc (.cells #[.slice c ps.length cap2, .string T] 27))) := b0
  clear X1 X1' X2 b0 k1 k2
  go_enter Tryd.func10, Tryd.ntmps10
  go_wp2_with fail
  generalize hW : World.alloc _ _ = W at HX1 HX2 H1 H2 HB0 ⊢
  clear hW
  refine (eqAttrS_any _ _ ps W H1.out H2.out hn).mono ?_
  rintro e w1 ⟨rfl, hb1⟩
  have c1 := (HX1.out.below hb1).c1
  have d1 := (HX2.out.below hb1).c1
  have hb3 := HB0.out.trans (hb1.mono HB0.out.size)
  have hTT : (T.toList == T.toList) = true := by simp
  clear hb1
  go_wp2
  go_ret
  exact ⟨rfl, hb3⟩
theorem own_keep {w w' : World} {base e size n : Nat} {v : Value} {xs : List Value} (h : w.ownsRow base e size v n xs) (hb : Below w.heap.size w w') : w'.ownsRow base e size v n xs := ow.own_below h hb
set_option maxHeartbeats 1000000 in
set_option maxRecDepth 100000 in
theorem markMail_any (v : Value) (T : ByteArray) (base n : Nat) (xs : List Value) (k : Int) (w : World) (h : w.ownsRow base 57 2 v n xs) (hn : n ≤ 1048576) (h0 : 0 < k) (h1 : k ≤ 10000000) :
    Calls Tryd.prog 11 #[.agg #[v, .string T], .int .i64 k] w fun e w' => e = .returned (.int .i64 (k + 2 * (n : Int))) ∧ w'.ownsRow base 57 2 v n (mk.marks k (n * 2)) ∧ w.grownBy w' v.ownBlock := by
  obtain ⟨a, cap, rfl⟩ := slice_form h
  have hbw : Below w.heap.size w (w.alloc (.cells #[.slice a n cap, .string T] 27)) := (Below.refl _ _).alloc (Nat.le_refl _) _
  have HR := mk.markFields_any (.slice a n cap) base n xs k _ (own_keep h hbw) hn h0 h1
  clear h
  go_enter Tryd.func11, Tryd.ntmps11
  go_wp2_with fail
  refine HR.mono ?_
  rintro e w2 ⟨rfl, ho, hg⟩
  have HG : Hid (w.grownBy w2 (Value.slice a n cap).ownBlock) := ow.grown_trans (ow.grown_below hbw) hg
  have HO : Hid (w2.ownsRow base 57 2 (.slice a n cap) n (mk.marks k (n * 2))) := ho
  clear hg hbw HR ho
  go_wp2
  go_ret
  exact ⟨rfl, HO.out, HG.out⟩
set_option maxHeartbeats 1000000 in
set_option maxRecDepth 100000 in
theorem heldMail_any (v : Value) (T : ByteArray) (base n : Nat) (k : Int) (w : World) (h : w.ownsRow base 57 2 v n (mk.marks k (n * 2))) (hn : n ≤ 1048576) (h0 : 0 < k) (h1 : k ≤ 10000000) :
    Calls Tryd.prog 12 #[.agg #[v, .string T], .int .i64 k] w fun e w' => e = .returned (.int .i64 (k + 2 * (n : Int))) ∧ Below w.heap.size w w' := by
  obtain ⟨a, cap, rfl⟩ := slice_form h
  have hbw : Below w.heap.size w (w.alloc (.cells #[.slice a n cap, .string T] 27)) := (Below.refl _ _).alloc (Nat.le_refl _) _
  have HR := mk.heldFields_any (.slice a n cap) base n k _ (own_keep h hbw) hn h0 h1
  clear h
  have hK : ¬ k + 2 * (n : Int) < 0 := by omega
  go_enter Tryd.func12, Tryd.ntmps12
  go_wp2_with fail
  refine HR.mono ?_
  rintro e w2 ⟨rfl, hb⟩
  have hb3 := hbw.trans (hb.mono hbw.size)
  clear hbw HR hb
  go_wp2
  go_ret
  exact ⟨rfl, hb3⟩
set_option maxHeartbeats 4000000 in
set_option maxRecDepth 100000 in
theorem implMail_any (s : ByteArray) (w : World) (m : Int) (hm : w.cell? ⟨0, 0, none⟩ = some (.int .i64 m)) (hs : s.size ≤ 1048576) :
    Calls Tryd.prog 9 #[.string s] w fun e w' => RlRet s.data.toList w.heap.size e w' ∧ Below w.heap.size w w' := by
  have b00 : Below w.heap.size w (w.alloc (.cells #[.slice none 0 0, .string ⟨#[]⟩] 27)) := (Below.refl _ w).alloc (Nat.le_refl _) _
  have hgl := World.block_lt_of_cell? _ _ hm
  have HRL := readLetter_any s (w.alloc (.cells #[.slice none 0 0, .string ⟨#[]⟩] 27)) m ((b00.cell (p := ⟨0, 0, none⟩) hgl).trans hm) hs
  have L0 := b2.new w 27 (.slice none 0 0) (.string ⟨#[]⟩)
  clear hm hgl
  go_enter Tryd.func9, Tryd.ntmps9
  go_wp2_with fail
  generalize hW0 : World.alloc _ _ = W0 at HRL L0 b00 ⊢
  clear hW0
  refine HRL.mono ?_
  rintro e w1 ⟨hr, hb1⟩
  have HB1 : Hid (Below w.heap.size w w1) := b00.trans (hb1.mono b00.size)
  have HL1 : Hid (b2.Box w1 w.heap.size 27 (.slice none 0 0) (.string ⟨#[]⟩)) := L0.below hb1
  have hz := b00.size
  clear HRL hb1 L0 b00
  rcases hr with ⟨hl, rfl⟩ | ⟨hl, hno, rfl⟩ | ⟨hl, fs, b, v, hmail, rfl, hfa⟩
  · unfold noMV
    have L3 : b2.Box (w1.alloc (.cells #[.slice none 0 0, .string ⟨#[]⟩] 38)) w.heap.size 27 (.slice none 0 0) (.string ⟨#[]⟩) := HL1.out.below ((Below.refl _ _).alloc (Nat.le_refl _) _)
    have c0 := L3.c0
    have c1 := L3.c1
    have f0 := L3.f 0
    have f1 := L3.f 1
    have HL3 : Hid (b2.Box (w1.alloc (.cells #[.slice none 0 0, .string ⟨#[]⟩] 38)) w.heap.size 27 (.slice none 0 0) (.string ⟨#[]⟩)) := L3
    clear L3
    go_wp2
    have L4 := HL3.out.put (a' := .slice none 0 0) (b' := .string ⟨#[]⟩)
    have b4 := b2.put_below (a := .slice none 0 0) (b := .string ⟨#[]⟩) (HB1.out.alloc HB1.out.size (.cells #[.slice none 0 0, .string ⟨#[]⟩] 38)) (Nat.le_refl _)
    clear c0 c1 f0 f1
    unfold b2.put at L4 b4
    generalize hX : World.setCell _ _ _ = X at L4 b4 ⊢
    clear hX
    have c0 := L4.c0
    have c1 := L4.c1
    refine bodyPost_ret (v := .tuple #[noMV, .int .i64 2]) (by simp [results, Tryd.results9, go_sem, noMV, c0, c1]) rfl ⟨.inl ⟨hl, rfl⟩, b4⟩
  · have HNO : Hid (¬ ∃ fs b, IsMail s.data.toList fs b) := hno
    clear hno
    unfold noMV
    have L3 : b2.Box (w1.alloc (.cells #[.slice none 0 0, .string ⟨#[]⟩] 38)) w.heap.size 27 (.slice none 0 0) (.string ⟨#[]⟩) := HL1.out.below ((Below.refl _ _).alloc (Nat.le_refl _) _)
    have c0 := L3.c0
    have c1 := L3.c1
    have f0 := L3.f 0
    have f1 := L3.f 1
    have HL3 : Hid (b2.Box (w1.alloc (.cells #[.slice none 0 0, .string ⟨#[]⟩] 38)) w.heap.size 27 (.slice none 0 0) (.string ⟨#[]⟩)) := L3
    clear L3
    go_wp2
    have L4 := HL3.out.put (a' := .slice none 0 0) (b' := .string ⟨#[]⟩)
    have b4 := b2.put_below (a := .slice none 0 0) (b := .string ⟨#[]⟩) (HB1.out.alloc HB1.out.size (.cells #[.slice none 0 0, .string ⟨#[]⟩] 38)) (Nat.le_refl _)
    clear c0 c1 f0 f1
    unfold b2.put at L4 b4
    generalize hX : World.setCell _ _ _ = X at L4 b4 ⊢
    clear hX
    have c0 := L4.c0
    have c1 := L4.c1
    refine bodyPost_ret (v := .tuple #[noMV, .int .i64 3]) (by simp [results, Tryd.results9, go_sem, noMV, c0, c1]) rfl ⟨.inr (.inl ⟨hl, HNO.out, rfl⟩), b4⟩
  · obtain ⟨a, cap, rfl⟩ := fields_form hfa
    obtain ⟨_, hbl⟩ := isMail_body hmail hl
    have HMA : Hid (IsMail s.data.toList fs b) := hmail
    have HFA : Hid (FieldsAt w1 w.heap.size (.slice a fs.length cap) fs) := ow.own_base hfa hz
    clear hmail hfa
    unfold MV
    generalize hln : fs.length = ln at *
    obtain ⟨T, hT⟩ : ∃ T : ByteArray, T = ⟨b.toArray⟩ := ⟨_, rfl⟩
    have htb : tv b = .string T := by rw [hT]; rfl
    have hTs : T.size ≤ 65536 := by rw [Lib.size_eq, hT]; exact hbl
    rw [htb]
    have HTB : Hid (tv b = .string T) := htb
    clear hT htb hbl
    have bx : Below w1.heap.size w1 (w1.alloc (.cells #[.slice a ln cap, .string T] 38)) := (Below.refl _ _).alloc (Nat.le_refl _) _
    have X0 := b2.new w1 38 (.slice a ln cap) (.string T)
    have HX0 : Hid (b2.Box (w1.alloc (.cells #[.slice a ln cap, .string T] 38)) w1.heap.size 38 (.slice a ln cap) (.string T)) := X0
    have HL3 : Hid (b2.Box (w1.alloc (.cells #[.slice a ln cap, .string T] 38)) w.heap.size 27 (.slice none 0 0) (.string ⟨#[]⟩)) := HL1.out.below bx
    have HF3 : Hid (FieldsAt (w1.alloc (.cells #[.slice a ln cap, .string T] 38)) w.heap.size (.slice a ln cap) fs) := ow.own_below HFA.out bx
    have HB3 : Hid (Below w.heap.size w (w1.alloc (.cells #[.slice a ln cap, .string T] 38))) := HB1.out.alloc HB1.out.size _
    clear bx X0 HL1 HFA HB1
    go_wp2_with fail
    generalize hW2 : World.alloc _ _ = W2 at HX0 HL3 HF3 HB3 ⊢
    clear hW2
    have HCL : Hid (∀ W, Calls Tryd.prog 20 #[.string T] W fun e w' => e = .returned (.string T) ∧ Below W.heap.size W w') := fun W => uf.clone_uf T W (by omega)
    have e0 := HX0.out.c0
    have e1 := HX0.out.c1
    go_region_with (go_at_call 20; refine (HCL.out _).mono ?_; rintro e w3 ⟨rfl, hb3⟩; have L4 : b2.Box w3 w.heap.size 27 (.slice none 0 0) (.string ⟨#[]⟩) := b2.Box.below (w := W2.drew) HL3.out hb3; have y0 : w3.cell? ⟨w1.heap.size, 0, none⟩ = some (.slice a ln cap) := (b2.Box.below (w := W2.drew) HX0.out hb3).c0; have HF4 : Hid (FieldsAt w3 w.heap.size (.slice a ln cap) fs) := ow.own_below (w := W2.drew) HF3.out hb3; have HB4 : Hid (Below w.heap.size w w3) := HB3.out.drew.trans (hb3.mono HB3.out.size); have c0 := L4.c0; have c1 := L4.c1; have f0 := L4.f 0; have f1 := L4.f 1; have HL4 : Hid (b2.Box w3 w.heap.size 27 (.slice none 0 0) (.string ⟨#[]⟩)) := L4; clear L4 hb3)
    all_goals (try go_wp2)
    all_goals
      have L5 := HL4.out.put (a' := .slice a ln cap) (b' := .string T)
      have b5 := b2.put_below (a := .slice a ln cap) (b := .string T) HB4.out (Nat.le_refl _)
      have o5 : FieldsAt (b2.put w3 w.heap.size (.slice a ln cap) (.string T)) w.heap.size (.slice a ln cap) fs := b2.own_put HL4.out (by decide) HF4.out
      clear c0 c1 f0 f1 e0 e1 y0
      unfold b2.put at L5 b5 o5
      generalize hX : World.setCell _ _ _ = X at L5 b5 o5 ⊢
      clear hX
      have c0 := L5.c0
      have c1 := L5.c1
      refine bodyPost_ret (v := .tuple #[MV (.slice a ln cap) b, .int .i64 0]) (by simp [results, Tryd.results9, go_sem, MV, HTB.out, c0, c1]) rfl ⟨.inr (.inr ⟨hl, fs, b, _, HMA.out, rfl, o5⟩), b5⟩
end Go.Proofs.YtkclakfgpanplaaDoor.ml
