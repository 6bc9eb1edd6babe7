/-
  Plain facts on the mail of an entry: every field is one.
  A law on regions that draw their order: each operation brings its own fact, which abides what the others do; whatever the order, all facts hold behind the last.
  Contracts of both EncodeWords functions.
  Contracts of the specification's own parts of an entry's mail: ends of lines, fields.
-/
import Derived.Test.YtbokolpjdaamiaaGreatDoorPkax
import Derived.Orders
import Derived.RegionTactic
import Derived.Test.YtbokolpjdaamiaaGreatDoorPkao
import Derived.Test.YtbokolpjdaamiaaGreatDoorPkan
import Derived.Test.YtbokolpjdaamiaaGreatDoorPkas
import Derived.Laws.AppendOwn

namespace Go.Proofs.YtbokolpjdaamiaaGreatDoor.rn
open Go.RowKit
set_option linter.unusedVariables false

theorem sum_dec (e : en.En) : ck.sum (b6.bz e.i.data.toList) < 10 ^ (9 + 1) := by
  have hb : ck.Bytes (b6.bz e.i.data.toList) := fun j hj => by
    rw [b6.bz_at]
    have := (e.i.data.toList.getD j 0).toNat_lt
    omega
  have := ck.sum_lt hb
  have e10 : (10 : Nat) ^ (9 + 1) = 10000000000 := by decide
  omega
theorem mid_list (e : en.En) (box : ByteArray) : (mid e box).data.toList = [60] ++ Lib.decDigits (ck.sum (b6.bz e.i.data.toList)) ++ [64] ++ box.data.toList ++ [62] := by
  unfold mid
  simp [ByteArray.data_append]
theorem mid_safe (e : en.En) (box : ByteArray) (h : nm.IsName box) : hd.Safe (mid e box).data.toList ∧ (mid e box).size ≤ 100 := by
  obtain ⟨h1, h2⟩ := name_signs h
  have hd1 := dec_signs 9 _ (sum_dec e)
  have hd2 := dx.dec_len 9 _ (sum_dec e)
  have hbl : box.data.toList.length ≤ 40 := by rw [← Lib.size_eq]; exact h2
  have hl : (mid e box).data.toList.length ≤ 100 := by
    rw [mid_list]
    simp only [List.length_append, List.length_cons, List.length_nil]
    omega
  refine ⟨?_, by rw [Lib.size_eq]; exact hl⟩
  refine safe_signs ?_ ?_ (by omega)
  · rw [mid_list]
    have one : ∀ c : UInt8, 33 ≤ c.toNat ∧ c.toNat ≤ 126 → hd.signs [c] := fun c hc b hb => by
      rw [List.mem_singleton] at hb; subst hb; exact hc
    exact signs_app (signs_app (signs_app (signs_app (one _ (by decide)) hd1) (one _ (by decide))) h1) (one _ (by decide))
  · rw [mid_list]; simp
theorem eok_cases {e : en.En} (h : en.eok e = true) : en.fld e.i = true ∧ en.fld e.t = true ∧ en.fld e.l = true ∧ en.fld e.a = true ∧ (e.c.size ≤ 1000 ∧ xm.GoodTo e.c e.c.size) ∧ 0 ≤ e.d ∧ e.d ≤ 4102444799 := by
  unfold en.eok at h
  simp only [Bool.and_eq_true] at h
  obtain ⟨⟨⟨⟨⟨⟨_, h1⟩, h2⟩, h3⟩, h4⟩, h5⟩, h6⟩ := h
  exact ⟨h1, h2, h3, h4, en.ofx_cases h5, of_decide_eq_true h6⟩
/-- What a value of an entry is encoded to. -/
def Enc (s : ByteArray) : Prop := hd.EncIs s (EN s) ∧ hd.Safe (EN s).data.toList ∧ (EN s).size ≤ 2000
theorem enc_of {s r : ByteArray} (h : en.fld s = true) (hr : hd.EncIs s r) : Enc s ∧ r = EN s := by
  have e := en_is hr
  have hs := enc_ok h hr
  rw [e] at hs hr
  exact ⟨⟨hr, hs, by rw [Lib.size_eq]; exact hs.1⟩, e⟩
theorem safe_const {l : B} (h : l.length ≤ 2000) {w : Nat} (hw : hd.wid l = some w) (h0 : 0 < w) : hd.Safe l := ⟨h, .inr ⟨w, hw, h0⟩⟩
/-- Every field of an entry's mail is one, if its values are encoded. -/
theorem flds_good {e : en.En} {box : ByteArray} (h : en.eok e = true) (hb : nm.IsName box) (ha : Enc e.a) (ht : Enc e.t) (hi : Enc e.i) (hl : Enc e.l) : ∀ p ∈ flds e box, Good p ∧ p.1.size ≤ 40 ∧ p.2.size ≤ 2000 := by
  obtain ⟨_, _, _, _, _, hd0, hd1⟩ := eok_cases h
  have hdate := date_safe e.d hd0 hd1
  have hmid := mid_safe e box hb
  intro p hp
  simp only [flds, List.mem_cons, List.mem_nil_iff, or_false] at hp
  have N : ∀ l : B, (∀ b ∈ l, 33 ≤ b.toNat ∧ b.toNat ≤ 126 ∧ b ≠ 58) → 1 ≤ l.length → l.length ≤ 40 → hn.IsName ⟨l.toArray⟩ ∧ (⟨l.toArray⟩ : ByteArray).size ≤ 40 := fun l h1 h2 h3 => ⟨name_ok l h1 h2 h3, by rw [Lib.size_eq]; exact h3⟩
  rcases hp with rfl | rfl | rfl | rfl | rfl | rfl | rfl | rfl | rfl
  · have := N [70, 114, 111, 109] (by decide) (by decide) (by decide)
    exact ⟨⟨this.1, ha.2.1⟩, this.2, ha.2.2⟩
  · have := N [68, 97, 116, 101] (by decide) (by decide) (by decide)
    refine ⟨⟨this.1, hdate.1⟩, this.2, ?_⟩
    show (⟨(dx.t82 e.d).toArray⟩ : ByteArray).size ≤ 2000
    rw [Lib.size_eq]
    have := hdate.2
    show (dx.t82 e.d).length ≤ 2000
    omega
  · have := N [83, 117, 98, 106, 101, 99, 116] (by decide) (by decide) (by decide)
    exact ⟨⟨this.1, ht.2.1⟩, this.2, ht.2.2⟩
  · have := N [77, 101, 115, 115, 97, 103, 101, 45, 73, 68] (by decide) (by decide) (by decide)
    exact ⟨⟨this.1, hmid.1⟩, this.2, Nat.le_trans hmid.2 (by omega)⟩
  · have := N [88, 45, 73, 100] (by decide) (by decide) (by decide)
    exact ⟨⟨this.1, hi.2.1⟩, this.2, hi.2.2⟩
  · have := N [88, 45, 76, 105, 110, 107] (by decide) (by decide) (by decide)
    exact ⟨⟨this.1, hl.2.1⟩, this.2, hl.2.2⟩
  · have := N [77, 73, 77, 69, 45, 86, 101, 114, 115, 105, 111, 110] (by decide) (by decide) (by decide)
    exact ⟨⟨this.1, safe_const (by decide) (w := 3) (by decide) (by decide)⟩, this.2, by decide⟩
  · have := N [67, 111, 110, 116, 101, 110, 116, 45, 84, 121, 112, 101] (by decide) (by decide) (by decide)
    exact ⟨⟨this.1, safe_const (by decide) (w := 13) (by decide) (by decide)⟩, this.2, by decide⟩
  · have := N [67, 111, 110, 116, 101, 110, 116, 45, 84, 114, 97, 110, 115, 102, 101, 114, 45, 69, 110, 99, 111, 100, 105, 110, 103] (by decide) (by decide) (by decide)
    exact ⟨⟨this.1, safe_const (by decide) (w := 16) (by decide) (by decide)⟩, this.2, by decide⟩
/-- How long a folded field may be. -/
theorem go_len : ∀ (r : List B) (f : Bool) (wd : Nat), (hd.foldGo f wd r).length ≤ 3 * ((r.map List.length).sum + r.length)
  | [], f, wd => by simp [hd.foldGo]
  | x :: r, f, wd => by
    rw [hd.foldGo]
    split
    · have := go_len r false (1 + x.length)
      simp only [List.length_append, List.length_cons, List.length_nil, List.map_cons, List.sum_cons]
      omega
    · have := go_len r false (wd + 1 + x.length)
      simp only [List.length_append, List.length_cons, List.length_nil, List.map_cons, List.sum_cons]
      omega
theorem cut_sum : ∀ (l cur : B), ((hd.cutGo cur l).map List.length).sum + (hd.cutGo cur l).length ≤ cur.length + l.length + 1
  | [], cur => by simp [hd.cutGo]
  | b :: l, cur => by
    rw [hd.cutGo]
    split
    · have := cut_sum l []
      simp only [List.map_cons, List.sum_cons, List.length_cons, List.length_nil] at this ⊢
      omega
    · have := cut_sum l (cur ++ [b])
      simp only [List.length_append, List.length_cons, List.length_nil] at this ⊢
      omega
theorem fo_len (nm s : ByteArray) (h1 : nm.size ≤ 40) (h2 : s.size ≤ 2000) : (FO nm s).size ≤ 6100 := by
  rw [Lib.size_eq]
  show (hd.foldL nm.data.toList s.data.toList).length ≤ 6100
  unfold hd.foldL
  have a := go_len (hd.cutGo [] s.data.toList) true (nm.data.toList.length + 1)
  have b := cut_sum s.data.toList []
  rw [Lib.size_eq] at h1 h2
  simp only [List.length_append, List.length_cons, List.length_nil] at b ⊢
  omega
theorem all_snoc (ps : List Pr) (p : Pr) : foldAll (ps ++ [p]) = foldAll ps ++ FO p.1 p.2 := by simp [foldAll]
theorem all_take (ps : List Pr) (k : Nat) (h : k < ps.length) : foldAll (ps.take (k + 1)) = foldAll (ps.take k) ++ FO (ps[k]).1 (ps[k]).2 := by
  rw [List.take_succ_eq_append_getElem h, all_snoc]
theorem all_len : ∀ (ps : List Pr), (∀ p ∈ ps, p.1.size ≤ 40 ∧ p.2.size ≤ 2000) → (foldAll ps).size ≤ 6100 * ps.length := by
  intro ps
  rw [← List.reverse_reverse ps]
  generalize ps.reverse = qs
  induction qs with
  | nil => intro _; exact Nat.zero_le _
  | cons p qs ih =>
    intro h
    rw [List.reverse_cons, all_snoc, ByteArray.size_append, List.length_append]
    have h1 := ih (fun q hq => h q (by rw [List.reverse_cons]; exact List.mem_append_left _ hq))
    have hp := h p (by simp)
    have h2 := fo_len p.1 p.2 hp.1 hp.2
    simp only [List.length_singleton]
    omega
end Go.Proofs.YtbokolpjdaamiaaGreatDoor.rn

namespace Go.Proofs.YtbokolpjdaamiaaGreatDoor.rr
set_option linter.unusedVariables false

/-- How many have not come up yet. -/
def left (l : Array Bool) : Nat := l.toList.countP (fun b => !b)
theorem count_set : ∀ (l : List Bool) (i : Nat), l[i]? = some false → (l.set i true).countP (fun b => !b) + 1 = l.countP (fun b => !b)
  | [], i, h => by simp at h
  | b :: l, 0, h => by
    have hb : b = false := by simpa using h
    subst hb
    simp
  | b :: l, i + 1, h => by
    have ih := count_set l i (by simpa using h)
    rw [List.set_cons_succ, List.countP_cons, List.countP_cons]
    omega
theorem get_false {l : Array Bool} {i : Nat} (h : l.getD i true = false) : l.toList[i]? = some false := by
  cases hl : l[i]? with
  | none => simp [hl] at h
  | some b =>
    simp [hl] at h
    subst h
    simpa using hl
theorem left_set {l : Array Bool} {i : Nat} (h : l.getD i true = false) : left (l.setIfInBounds i true) + 1 = left l := by
  unfold left
  rw [Array.toList_setIfInBounds]
  exact count_set _ _ (get_false h)
theorem left_zero {l : Array Bool} (h : left l = 0) (i : Nat) : l.getD i true = true := by
  cases hg : l.getD i true with
  | true => rfl
  | false =>
    have := left_set hg
    omega

section
variable {P : Program} {ops : Array Oper} {Q : Exit → Act → World → Prop}
theorem inv {md : Region.Mode} (I : Array Bool → Act → World → Prop)
    (hstep : ∀ listed a w i, I listed a w → i ∈ Region.ready md ops listed → wpOp P ops Q i (fun a' w' => I (listed.setIfInBounds i true) a' w') a w)
    (hend : ∀ listed a w, I listed a w → Region.ready md ops listed = [] → Q .normal a w) :
    ∀ (fuel : Nat) (listed : Array Bool) (a : Act) (w : World), left listed ≤ fuel → I listed a w → wpAny P md ops Q fuel listed a w
  | 0, listed, a, w, hl, h => by
    have hr : Region.ready md ops listed = [] := by
      rw [List.eq_nil_iff_forall_not_mem]
      intro i hi
      have := (mem_ready.1 hi).1
      rw [left_zero (by omega) i] at this
      cases this
    exact ⟨hr, hend listed a w h hr⟩
  | fuel + 1, listed, a, w, hl, h => by
    refine ⟨fun hr => hend listed a w h hr, fun i hi => ?_⟩
    have h1 := left_set (mem_ready.1 hi).1
    exact wpOp_mono (fun a' w' h' => inv I hstep hend fuel _ a' w' (by omega) h') (hstep listed a w i h hi)

def upd (f : Nat → Value) (i : Nat) (v : Value) : Nat → Value := fun j => if j = i then v else f j
theorem upd_same (f : Nat → Value) (i : Nat) (v : Value) : upd f i v i = v := by simp [upd]
theorem upd_other (f : Nat → Value) (i : Nat) (v : Value) {j : Nat} (h : j ≠ i) : upd f i v j = f j := by simp [upd, h]
theorem getD_set {l : Array Bool} {i j : Nat} (h : (l.setIfInBounds i true).getD j false = true) : j = i ∨ l.getD j false = true := by
  by_cases e : j = i
  · exact .inl e
  · right
    simpa [Array.getElem?_setIfInBounds_ne (Ne.symm e)] using h
theorem all_listed {md : Region.Mode} {listed : Array Bool} (hs : listed.size = ops.size) (hdeps : ∀ (i : Nat) (o : Oper), ops[i]? = some o → ∀ e ∈ o.after, e.on < i) (hr : Region.ready md ops listed = []) : ∀ (k i : Nat), i < k → i < ops.size → listed.getD i false = true
  | 0, i, h, _ => by omega
  | k + 1, i, h, hi => by
    by_cases hk : i < k
    · exact all_listed hs hdeps hr k i hk hi
    · have hik : i = k := by omega
      subst hik
      cases hg : listed.getD i true with
      | true =>
        have hlt : i < listed.size := by omega
        simp [Array.getElem?_eq_getElem hlt] at hg ⊢
        exact hg
      | false =>
        exfalso
        have ho : ops[i]? = some ops[i] := Array.getElem?_eq_getElem hi
        have : i ∈ Region.ready md ops listed := mem_ready.2 ⟨hg, _, ho, fun e he _ => all_listed hs hdeps hr i e.on (hdeps i _ ho e he) (Nat.lt_trans (hdeps i _ ho e he) hi)⟩
        rw [hr] at this
        cases this
/-- As region_rel, and what has not come up yet is as it was. -/
theorem region_rel2 {id : Nat} {a : Act} {w : World} (hm : P.follows .mixedOrders = true) (act : (Nat → Value) → Act) (C : World → Prop) (R : Nat → (Nat → Value) → World → Prop) (v0 : Nat → Value)
    (ha : a = act v0) (hC : C w.drew) (hdeps : ∀ (i : Nat) (o : Oper), ops[i]? = some o → ∀ e ∈ o.after, e.on < i)
    (hop : ∀ (i : Nat) (o : Oper), ops[i]? = some o → ∀ (D : Nat → Prop) (vals : Nat → Value) (w : World), C w → (∀ j, D j → R j vals w) → (∀ e ∈ o.after, Region.binds .any e = true → D e.on) → ¬ D i → (∀ (j : Nat) (oj : Oper), D j → ops[j]? = some oj → ∀ e ∈ oj.after, Region.binds .any e = true → D e.on) → (∀ j, ¬ D j → vals j = v0 j) →
      wpOp P ops Q i (fun a' w' => ∃ v, a' = act (upd vals i v) ∧ C w' ∧ R i (upd vals i v) w' ∧ ∀ j, j ≠ i → D j → R j (upd vals i v) w') (act vals) w)
    (hend : ∀ (vals : Nat → Value) (w : World), C w → (∀ i, i < ops.size → R i vals w) → Q .normal (act vals) w) :
    (Code.region id ops true).wp P Q a w := by
  refine wp_region_any hm ?_
  refine inv (fun listed a w => listed.size = ops.size ∧ (∀ (j : Nat) (oj : Oper), listed.getD j false = true → ops[j]? = some oj → ∀ e ∈ oj.after, Region.binds .any e = true → listed.getD e.on false = true) ∧ ∃ vals, a = act vals ∧ C w ∧ (∀ j, listed.getD j false = true → R j vals w) ∧ ∀ j, ¬ listed.getD j false = true → vals j = v0 j) ?_ ?_ _ _ _ _ ?_ ?_
  · rintro listed a w i ⟨hs, hcl, vals, rfl, hc, hR, hV⟩ hi
    obtain ⟨hg, o, ho, hall⟩ := mem_ready.1 hi
    have hni : ¬ listed.getD i false = true := by
      have h1 := get_false hg
      have h2 : listed[i]? = some false := by simpa using h1
      simp [h2]
    refine wpOp_mono ?_ (hop i o ho (fun j => listed.getD j false = true) vals w hc hR hall hni hcl hV)
    rintro a' w' ⟨v, rfl, hc', hi', hj'⟩
    have hup : ∀ k, listed.getD k false = true → (listed.setIfInBounds i true).getD k false = true := fun k hk => by
      by_cases e : k = i
      · subst e; exact absurd hk hni
      · simpa [Array.getElem?_setIfInBounds_ne (Ne.symm e)] using hk
    have hlt : i < listed.size := by
      have h1 := get_false hg
      have h2 : listed[i]? = some false := by simpa using h1
      exact (Array.getElem?_eq_some_iff.1 h2).1
    refine ⟨by rw [Array.size_setIfInBounds]; exact hs, fun j oj hj hoj e he hb => ?_, _, rfl, hc', fun j hj => ?_, fun j hj => ?_⟩
    · rcases getD_set hj with h | h
      · subst h
        rw [ho] at hoj
        cases hoj
        exact hup _ (hall e he hb)
      · exact hup _ (hcl j oj h hoj e he hb)
    · by_cases e : j = i
      · subst e; exact hi'
      · rcases getD_set hj with h | h
        · exact absurd h e
        · exact hj' j e h
    · by_cases e : j = i
      · subst e
        exact absurd (by simp [Array.getElem?_setIfInBounds_self_of_lt hlt]) hj
      · rw [upd_other vals i v e]
        exact hV j (fun h => hj (hup j h))
  · rintro listed a w ⟨hs, _, vals, rfl, hc, hR, _⟩ hr
    exact hend vals w hc (fun i hi => hR i (all_listed hs hdeps hr (i + 1) i (Nat.lt_succ_self i) hi))
  · unfold left
    refine Nat.le_trans List.countP_le_length ?_
    simp
  · have hno : ∀ j, ¬ (Array.replicate ops.size false).getD j false = true := fun j hj => by
      by_cases hj2 : j < ops.size
      · simp [hj2] at hj
      · simp [hj2] at hj
    exact ⟨by simp, fun j _ hj => absurd hj (hno j), v0, ha, hC, fun j hj => absurd hj (hno j), fun _ _ => rfl⟩
theorem deps_of (h : (ops.toList.zipIdx.all fun x => x.1.after.all fun e => decide (e.on < x.2)) = true) : ∀ (i : Nat) (o : Oper), ops[i]? = some o → ∀ e ∈ o.after, e.on < i := by
  intro i o ho e he
  have h1 : (o, i) ∈ ops.toList.zipIdx := by
    rw [List.mk_mem_zipIdx_iff_getElem?]
    simpa using ho
  have h2 := List.all_eq_true.1 h _ h1
  have h3 := Array.all_eq_true_iff_forall_mem.1 h2 e he
  simpa using h3
end
end Go.Proofs.YtbokolpjdaamiaaGreatDoor.rr

namespace Go.Proofs.YtbokolpjdaamiaaGreatDoor.hd
open Go.RowKit
set_option linter.unusedVariables false

/-- What both EncodeWords functions answer. -/
def EwRet (s : ByteArray) (e : Ending) : Prop :=
  (65536 < s.size ∧ e = .returned (.tuple #[.string ⟨#[]⟩, .int .i64 2])) ∨
  (s.size ≤ 65536 ∧ ¬ ut.Right s ∧ e = .returned (.tuple #[.string ⟨#[]⟩, .int .i64 3])) ∨
  (s.size ≤ 65536 ∧ ut.Right s ∧ 1000 < s.size ∧ e = .returned (.tuple #[.string ⟨#[]⟩, .int .i64 4])) ∨
  (ut.Right s ∧ s.size ≤ 1000 ∧ ∃ r, EncIs s r ∧ e = .returned (.tuple #[.string r, .int .i64 0]))
theorem ew_ex {s : ByteArray} {e : Ending} (h : EwRet s e) : ∃ (r : ByteArray) (c : Int), e = .returned (.tuple #[.string r, .int .i64 c]) := by
  rcases h with ⟨_, rfl⟩ | ⟨_, _, rfl⟩ | ⟨_, _, _, rfl⟩ | ⟨_, _, r, _, rfl⟩ <;> exact ⟨_, _, rfl⟩
theorem ew_same {s r r' : ByteArray} {c c' : Int} (h : EwRet s (.returned (.tuple #[.string r, .int .i64 c]))) (h' : EwRet s (.returned (.tuple #[.string r', .int .i64 c']))) : r = r' ∧ c = c' := by
  rcases h with ⟨a, h⟩ | ⟨a, a2, h⟩ | ⟨a, a2, a3, h⟩ | ⟨a, a2, q, hq, h⟩ <;>
  rcases h' with ⟨b, h'⟩ | ⟨b, b2, h'⟩ | ⟨b, b2, b3, h'⟩ | ⟨b, b2, q', hq', h'⟩ <;>
  cases h <;> cases h' <;>
  first | exact ⟨rfl, rfl⟩ | exact ⟨enc_same hq hq', rfl⟩ | (exfalso; omega) | (exfalso; exact a2 b2) | (exfalso; exact b2 a2) | (exfalso; exact a2 b) | (exfalso; exact b2 a)

end Go.Proofs.YtbokolpjdaamiaaGreatDoor.hd

namespace Go.Proofs.YtbokolpjdaamiaaGreatDoor.rn
open Go.RowKit
open gr
set_option linter.unusedVariables false

theorem crl_app (a b : B) : crl (a ++ b) = crl a ++ crl b := by simp [crl]
theorem byteCells_one (c : UInt8) : Lib.byteCells [c] = [Value.int .u8 (c.toNat : Int)] := rfl
theorem infoB : (Tryz.prog.info? 5).map (fun i => (i.zero, i.size, i.bytes)) = some (some (.int .u8 0), 1, 1) := by kernel_rfl

set_option maxHeartbeats 4000000 in
set_option maxRecDepth 100000 in
theorem crlf_any (s : ByteArray) (w : World) (hs : s.size ≤ 1048576) :
    Calls Tryz.prog 31 #[.string s] w fun e w' => (∃ v, e = .returned v ∧ w'.ownsRow w.heap.size 5 1 v (crl s.data.toList).length (Lib.byteCells (crl s.data.toList))) ∧ Below w.heap.size w w' := by
  obtain ⟨i0, hi, hz0, hz1, hz2⟩ := info_parts infoB
  go_enter Tryz.func31, Tryz.ntmps31
  go_wp2
  go_loopw [3, 4] (fun v i wr => ∃ (k : Nat) (q : B), k ≤ s.size ∧ i = .int .i64 k ∧ q = crl (s.data.toList.take k) ∧ q.length ≤ 2 * k ∧ wr.ownsRow w.heap.size 5 1 v q.length (Lib.byteCells q) ∧ Below w.heap.size w wr) (fun _ i _ => s.size - (intOf i).toNat)
  case atStart => exact ⟨0, [], Nat.zero_le _, rfl, rfl, by simp, ow.own_empty w _, (Below.refl _ _).alloc (Nat.le_refl _) _⟩
  case round =>
    obtain ⟨k, q, hk, rfl, hq, hql, hown, hbw⟩ := hrel
    have HQ : Hid (q = crl (s.data.toList.take k)) := hq
    clear hq
    have hBs := hbw.size
    by_cases hlt : k < s.size
    · have htk : s.data.toList.take (k + 1) = s.data.toList.take k ++ [s[k]'hlt] := by rw [List.take_succ_eq_append_getElem (by simpa using hlt)]; rfl
      by_cases h10 : ((s[k]'hlt).toNat : Int) = 10
      · have d10 : (((s[k]'hlt).toNat : Int) == 10) = true := beq_iff_eq.2 h10
        have e10 : s[k]'hlt = 10 := by rw [← UInt8.toNat_inj]; show (s[k]'hlt).toNat = 10; omega
        have HN : Hid (q ++ [13] ++ [10] = crl (s.data.toList.take (k + 1))) := (show _ = _ by rw [htk, crl_app, ← HQ.out, e10]; simp [crl])
        clear htk e10
        go_upto_region 7 with (at_builtin; go_loud (refine wpList_append_own _ rfl _ _ 22 rfl w.heap.size 5 i0 (.int .u8 0) 1 1 Tryz.underlying22 hi hz0 hz1 hz2 rfl (by decide) _ _ _ rfl (hown.alloc _) ⟨wr.heap.size, 0, none⟩ 1 1 [.int .u8 13] rfl rfl (ow.cells_new _ [.int .u8 13] _) (by simp [Value.oneCell']) (by unfold maxLen; omega) (by omega) (by simp; omega) ?_); intro v' w3 hown3 hg3 _)
        have hb3 := Below.grown (hbw.alloc hBs _) hg3 (by simp; omega) (ow.own_lt hown)
        have ho3 : w3.ownsRow w.heap.size 5 1 v' (q ++ [13]).length (Lib.byteCells (q ++ [13])) := by
          rw [List.length_append, Lib.byteCells_append]; exact hown3
        have hBs3 := hb3.size
        clear hown hbw hown3 hg3
        go_wp2_with (at_builtin; go_loud (refine wpList_append_own _ rfl _ _ 22 rfl w.heap.size 5 i0 (.int .u8 0) 1 1 Tryz.underlying22 hi hz0 hz1 hz2 rfl (by decide) _ _ _ rfl (ho3.alloc _) ⟨w3.heap.size, 0, none⟩ 1 1 [.int .u8 10] rfl rfl (by have hh := ow.cells_new w3 [Value.int .u8 10] 5; simpa [h10] using hh) (by simp [Value.oneCell']) (by simp; unfold maxLen; omega) (by simp; omega) (by simp; omega) ?_); intro v'' w4 hown4 hg4 _)
        have hb4 := Below.grown (hb3.alloc hBs3 _) hg4 (by simp; omega) (ow.own_lt ho3)
        have HO4 : Hid (w4.ownsRow w.heap.size 5 1 v'' (q ++ [13] ++ [10]).length (Lib.byteCells (q ++ [13] ++ [10]))) := (show w4.ownsRow _ _ _ _ _ _ by
          rw [List.length_append, Lib.byteCells_append]; exact hown4)
        clear hown4 hg4 ho3 hb3
        go_roundw
        case rel => exact ⟨k + 1, q ++ [13] ++ [10], by omega, by go_num, HN.out, by simp; omega, HO4.out, hb4⟩
        case measure => simp [intOf]; omega
      · have d10 : (((s[k]'hlt).toNat : Int) == 10) = false := beq_eq_false_iff_ne.2 h10
        have e10 : s[k]'hlt ≠ 10 := fun e => h10 (by rw [e]; rfl)
        have HN : Hid (q ++ [s[k]'hlt] = crl (s.data.toList.take (k + 1))) := (show _ = _ by rw [htk, crl_app, ← HQ.out]; simp [crl, e10])
        clear htk e10
        go_wp2_with (at_builtin; go_loud (refine wpList_append_own _ rfl _ _ 22 rfl w.heap.size 5 i0 (.int .u8 0) 1 1 Tryz.underlying22 hi hz0 hz1 hz2 rfl (by decide) _ _ _ rfl (hown.alloc _) ⟨wr.heap.size, 0, none⟩ 1 1 [.int .u8 ((s[k]'hlt).toNat : Int)] rfl rfl (ow.cells_new _ [.int .u8 ((s[k]'hlt).toNat : Int)] _) (by simp [Value.oneCell']) (by unfold maxLen; omega) (by omega) (by simp; omega) ?_); intro v' w3 hown3 hg3 _)
        have hb3 := Below.grown (hbw.alloc hBs _) hg3 (by simp; omega) (ow.own_lt hown)
        have HO3 : Hid (w3.ownsRow w.heap.size 5 1 v' (q ++ [s[k]'hlt]).length (Lib.byteCells (q ++ [s[k]'hlt]))) := (show w3.ownsRow _ _ _ _ _ _ by
          rw [List.length_append, Lib.byteCells_append]; exact hown3)
        clear hown hbw hown3 hg3
        go_roundw
        case rel => exact ⟨k + 1, q ++ [s[k]'hlt], by omega, by go_num, HN.out, by simp; omega, HO3.out, hb3⟩
        case measure => simp [intOf]; omega
    · have e : q = crl s.data.toList := by rw [HQ.out, List.take_of_length_le (by rw [← Lib.size_eq]; omega)]
      subst e
      go_wp2
      go_ret
      exact ⟨⟨_, rfl, hown⟩, hbw⟩

theorem encS (s : ByteArray) (h : en.fld s = true) (w : World) : Calls Tryz.prog 26 #[.string s] w fun e w' => e = .returned (.string (EN s)) ∧ Below w.heap.size w w' :=
  (hd.specEncode_any s w (by have := (en.fld_cases h).1; omega)).mono fun e w' ⟨⟨r, he, hr⟩, hb⟩ => ⟨by rw [he, (enc_of h hr).2], hb⟩
theorem enc_fact (s : ByteArray) (h : en.fld s = true) (w : World) (hn : ∃ r, hd.EncIs s r) : Enc s := by
  obtain ⟨r, hr⟩ := hn
  exact (enc_of h hr).1
theorem foldS (nm s : ByteArray) (w : World) (h1 : nm.size ≤ 40) (h2 : s.size ≤ 2000) : Calls Tryz.prog 25 #[.string nm, .string s] w fun e w' => e = .returned (.string (FO nm s)) ∧ Below w.heap.size w w' :=
  (hf.specFold_any nm s w h1 h2).mono fun e w' ⟨⟨r, he, hr⟩, hb⟩ => ⟨by rw [he, fo_is hr], hb⟩
theorem reads_bytes (l : B) : ck.Bytes (b6.bz l) := fun j hj => by
  rw [b6.bz_at]
  have := (l.getD j 0).toNat_lt
  omega
end Go.Proofs.YtbokolpjdaamiaaGreatDoor.rn
