/-
  Plain facts on what a mail's entry is: its fields, its body, what both functions answer.
  The contract of the program's reading of words of another number or form.
  The walks of the program's ReadRfc822, one a way, the callees' contracts as premises.
  The contract of the program's ReadRfc822 at every text.
  A law on regions that draw their order: each operation brings its own fact, which abides what the others do; whatever the order, all facts hold behind the last.
-/
import Derived.Test.YtadfdfmebdcfgaaGreatDoorPge
import Derived.Test.YtadfdfmebdcfgaaGreatDoorPgh
import Derived.Test.YtadfdfmebdcfgaaGreatDoorPgi
import Derived.Test.YtadfdfmebdcfgaaGreatDoorPgf
import Derived.Test.YtadfdfmebdcfgaaGreatDoorRdn
import Derived.Test.YtadfdfmebdcfgaaGreatDoorDwf
import Derived.Test.YtadfdfmebdcfgaaGreatDoorRdo
import Derived.Test.YtadfdfmebdcfgaaGreatDoorShf
import Derived.Orders
import Derived.RegionTactic

namespace Go.Proofs.YtadfdfmebdcfgaaGreatDoor.me
open Go.RowKit
open fa fo ml
set_option linter.unusedVariables false

/-- Fields as pairs of texts. -/
def prs (fs : List (B × B)) : List Pr := fs.map fun x => (⟨x.1.toArray⟩, ⟨x.2.toArray⟩)
theorem fcells_at : ∀ (fs : List (B × B)) (j : Nat), j < fs.length → (fcells fs)[j * 2]? = some (.string ((prs fs).getD j no).1) ∧ (fcells fs)[j * 2 + 1]? = some (.string ((prs fs).getD j no).2)
  | x :: fs, 0, _ => ⟨rfl, rfl⟩
  | x :: fs, j + 1, h => by
    have := fcells_at fs j (by simpa using h)
    rw [show (j + 1) * 2 = j * 2 + 2 from by omega]
    exact this
theorem attrs_of {w : World} {base : Nat} {v : Value} {fs : List (B × B)} (h : FieldsAt w base v fs) : AttrsAt w v (prs fs) := by
  have hl : (prs fs).length = fs.length := by simp [prs]
  rcases h.2 with ⟨rfl, h0⟩ | ⟨g, cap, cur, rfl, _⟩
  · refine ⟨none, 0, by rw [hl, h0], .inl ?_⟩
    exact List.eq_nil_of_length_eq_zero (by rw [hl, h0])
  · refine ⟨_, cap, by rw [hl], .inr ⟨g, 0, rfl, fun j hj => ?_⟩⟩
    rw [hl] at hj
    obtain ⟨h1, h2⟩ := fcells_at fs j hj
    have c1 := h.cellAt (j * 2) (by omega)
    have c2 := h.cellAt (j * 2 + 1) (by omega)
    rw [h1] at c1
    rw [h2] at c2
    rw [Nat.zero_add]
    exact ⟨c1, c2⟩
theorem run_mem : ∀ (fs : List (B × B)) (l r : B), Run F fs l r → ∀ x ∈ fs, ∃ f, F f x.1 x.2
  | y :: fs, l, r, ⟨_, f, q, _, hF, hr⟩, x, hx => by
    rcases List.mem_cons.1 hx with rfl | hx
    · exact ⟨f, hF⟩
    · exact run_mem fs q r hr x hx
theorem mail_mem {l : B} {fs : List (B × B)} {b : B} (h : IsMail l fs b) : ∀ x ∈ fs, x.1.length ≤ 40 ∧ hd.Safe x.2 := by
  intro x hx
  obtain ⟨r, hr, _⟩ := h.2.1
  obtain ⟨f, y, _, hn, _, hs⟩ := run_mem fs l r hr x hx
  exact ⟨hn.2.1, hs⟩
theorem small_of {l : B} {fs : List (B × B)} {b : B} (h : IsMail l fs b) : fa.Small (prs fs) := by
  have h40 := h.2.2
  refine ⟨by simp [prs]; omega, fun j hj => ?_⟩
  have hj' : j < fs.length := by simpa [prs] using hj
  have hm := mail_mem h fs[j] (List.getElem_mem hj')
  have e : (prs fs).getD j no = (⟨(fs[j]).1.toArray⟩, ⟨(fs[j]).2.toArray⟩) := by simp [prs, List.getD_eq_getElem?_getD, hj']
  rw [e]
  have h2 := hm.2.1
  constructor
  · show ((fs[j]).1.toArray).size ≤ _
    simp
    omega
  · show ((fs[j]).2.toArray).size ≤ _
    simp
    omega
theorem find_safe {l : B} {fs : List (B × B)} {b : B} (h : IsMail l fs b) {nm x : ByteArray} (hf : find (prs fs) nm = some x) : hd.Safe x.data.toList := by
  unfold find at hf
  obtain ⟨p, hp, rfl⟩ := Option.map_eq_some_iff.1 hf
  have hm := List.mem_of_find?_eq_some hp
  obtain ⟨y, hy, rfl⟩ := List.mem_map.1 hm
  exact (mail_mem h y hy).2
theorem safe_size {x : ByteArray} (h : hd.Safe x.data.toList) : x.size ≤ 2000 := h.1

theorem mok_ends : ∀ (n : Nat) (w : Nat) (l : B), l.length ≤ n → mok w l = true → (w = 0 ∧ l = []) ∨ ∃ x, l = x ++ nl
  | n, w, [], _, h => by
    left
    refine ⟨?_, rfl⟩
    have h' : mok w [] = decide (w = 0) := rfl
    rw [h'] at h
    exact of_decide_eq_true h
  | 0, w, c :: r, hn, h => by simp at hn
  | n + 1, w, c :: r, hn, h => by
    by_cases hc : c = 13 ∧ r.head? = some 10
    · obtain ⟨rfl, hr⟩ := hc
      cases r with
      | nil => cases hr
      | cons d r =>
        have hd : d = 10 := by simpa using hr
        subst hd
        rw [mok_end] at h
        rcases mok_ends n 0 r (by simp at hn; omega) h with ⟨_, rfl⟩ | ⟨x, rfl⟩
        · exact .inr ⟨[], rfl⟩
        · exact .inr ⟨13 :: 10 :: x, rfl⟩
    · rw [mok_cons hc, Bool.and_eq_true] at h
      rcases mok_ends n (w + 1) r (by simp at hn; omega) h.2 with ⟨h0, _⟩ | ⟨x, rfl⟩
      · omega
      · exact .inr ⟨c :: x, rfl⟩
theorem run_ends : ∀ (fs : List (B × B)) (l r : B), Run F fs l r → ml.Ends l → ml.Ends r
  | [], l, r, h, he => by cases h; exact he
  | y :: fs, l, r, ⟨_, f, q, ⟨k, _, hq, hk, _⟩, _, hr⟩, he => by
    rw [hq] at hr
    exact run_ends fs _ r hr (ends_drop he hk.1)
theorem body_ends {l : B} {fs : List (B × B)} {b : B} (h : IsMail l fs b) : ml.Ends b := by
  have he : ml.Ends l := by
    rcases mok_ends l.length 0 l (Nat.le_refl _) h.1 with ⟨_, e⟩ | e
    · exact .inl e
    · exact .inr e
  obtain ⟨r, hr, hp, rfl⟩ := h.2.1
  have h1 := run_ends fs l r hr he
  have := ends_drop (k := 0) h1 (by rw [List.drop_zero]; exact hp)
  simpa using this
theorem run_len : ∀ (fs : List (B × B)) (l r : B), Run F fs l r → r.length ≤ l.length
  | [], l, r, h => by cases h; exact Nat.le_refl _
  | y :: fs, l, r, ⟨_, f, q, ⟨k, _, hq, _, _⟩, _, hr⟩ => by
    have := run_len fs q r hr
    rw [hq, List.length_drop] at this
    omega
theorem body_len {l : B} {fs : List (B × B)} {b : B} (h : IsMail l fs b) : b.length ≤ l.length := by
  obtain ⟨r, hr, hp, rfl⟩ := h.2.1
  have := run_len fs l r hr
  rw [List.length_drop]
  omega

def nFrom : ByteArray := ⟨#[70, 114, 111, 109]⟩
def nDate : ByteArray := ⟨#[68, 97, 116, 101]⟩
def nSubj : ByteArray := ⟨#[83, 117, 98, 106, 101, 99, 116]⟩
def nXid : ByteArray := ⟨#[88, 45, 73, 100]⟩
def nXlnk : ByteArray := ⟨#[88, 45, 76, 105, 110, 107]⟩
def names : List ByteArray := [nFrom, nDate, nSubj, nXid, nXlnk]
/-- What a field's value says. -/
def Dv (ps : List Pr) (nm r : ByteArray) : Prop := hd.Dec true false (hd.cutGo [] ((find ps nm).getD ⟨#[]⟩).data.toList) r.data.toList
theorem dv_one {ps : List Pr} {nm r r' : ByteArray} (h : Dv ps nm r) (h' : Dv ps nm r') : r = r' := ByteArray.ext (Array.toList_inj.1 (hd.dec_one _ _ _ _ _ h h'))
/-- All five fields are there, and safe. -/
def AllIn (ps : List Pr) : Prop := ∀ nm ∈ names, ∃ x, find ps nm = some x ∧ hd.Safe x.data.toList
theorem allIn_of {l : B} {fs : List (B × B)} {b : B} (h : IsMail l fs b) (ha : hasAll (prs fs) names = true) : AllIn (prs fs) := by
  intro nm hnm
  unfold hasAll at ha
  have h1 := List.all_eq_true.1 ha nm hnm
  obtain ⟨x, hx⟩ := Option.isSome_iff_exists.1 h1
  exact ⟨x, hx, find_safe h hx⟩
theorem says_dv {ps : List Pr} {nm r x : ByteArray} (hf : find ps nm = some x) (hs : hd.Safe x.data.toList) (h : Says ps nm r) : Dv ps nm r := by
  obtain ⟨c, h⟩ := h
  unfold Dv
  rw [hf] at h ⊢
  have hx := safe_size hs
  rcases h with ⟨a, _⟩ | ⟨_, a, _⟩ | ⟨_, _, q, hq, e⟩
  · have : 65536 < x.size := a
    omega
  · exact absurd hs a
  · cases e
    exact hq
theorem coded_le {x y : List UInt8} (h : hd.Coded x y) : y.length ≤ x.length := by
  have e := b6.enc_dec_n _ _ _ (Nat.le_refl _) h.2.2.1
  have h1 := b6.enc_length y
  rw [e, List.length_take, List.length_drop] at h1
  omega
theorem dec_le : ∀ (ws : List (List UInt8)) (f was : Bool) (o : List UInt8), hd.Dec f was ws o → o.length ≤ (ws.map fun x => x.length + 1).sum
  | [], f, was, o, h => by rw [show o = [] from h]; exact Nat.zero_le _
  | x :: r, f, was, o, h => by
    rw [List.map_cons, List.sum_cons]
    rcases h with ⟨y, p, hc, hd, rfl⟩ | ⟨hc, p, hd, rfl⟩
    · have h1 := dec_le r false true p hd
      have h2 := coded_le hc
      rw [List.length_append, List.length_append]
      have h3 : (if (f || was) = true then ([] : List UInt8) else [32]).length ≤ 1 := by split <;> simp
      omega
    · have h1 := dec_le r false false p hd
      rw [List.length_append, List.length_append]
      have h3 : (if f = true then ([] : List UInt8) else [32]).length ≤ 1 := by split <;> simp
      omega
theorem cut_sum : ∀ (l cur : List UInt8), ((hd.cutGo cur l).map fun x => x.length + 1).sum = cur.length + l.length + 1
  | [], cur => by simp [hd.cutGo]
  | b :: l, cur => by
    rw [hd.cutGo]
    split
    · rw [List.map_cons, List.sum_cons, cut_sum l []]
      simp
      omega
    · rw [cut_sum l (cur ++ [b])]
      simp
      omega
theorem dv_size {ps : List Pr} {nm r x : ByteArray} (hf : find ps nm = some x) (hs : hd.Safe x.data.toList) (h : Dv ps nm r) : r.size ≤ 2001 := by
  unfold Dv at h
  rw [hf] at h
  have h1 := dec_le _ _ _ _ h
  rw [cut_sum] at h1
  have h2 := hs.1
  rw [Lib.size_eq]
  have h3 : ((some x).getD (⟨#[]⟩ : ByteArray)).data.toList.length ≤ 2000 := h2
  simp only [List.length_nil] at h1
  omega
/-- An entry of nothing. -/
def noEn : en.En := ⟨⟨#[]⟩, ⟨#[]⟩, ⟨#[]⟩, ⟨#[]⟩, 0, ⟨#[]⟩⟩
def ER (e : en.En) (c : Int) : Ending := .returned (.tuple #[en.EV e, .int .i64 c])
/-- What a date says. -/
def dateR (ps : List Pr) : Value := rd.r8 ((find ps nDate).getD ⟨#[]⟩).data.toList
/-- What is answered of a mail that has its fields. -/
def EntIs (ps : List Pr) (T : ByteArray) (e : Ending) : Prop :=
  ∃ st c : Int, dateR ps = .tuple #[.int .i64 st, .int .i64 c] ∧
    (((c ≠ 0 ∨ (con T).2 = false) ∧ e = ER noEn 3) ∨
     (c = 0 ∧ (con T).2 = true ∧ ∃ ri rt rl ra, Dv ps nXid ri ∧ Dv ps nSubj rt ∧ Dv ps nXlnk rl ∧ Dv ps nFrom ra ∧
       ((en.eok ⟨ri, rt, rl, ra, st, (con T).1⟩ = true ∧ e = ER ⟨ri, rt, rl, ra, st, (con T).1⟩ 0) ∨ (en.eok ⟨ri, rt, rl, ra, st, (con T).1⟩ = false ∧ e = ER noEn 3))))
theorem entIs_one {ps : List Pr} {T : ByteArray} {e e' : Ending} (h : EntIs ps T e) (h' : EntIs ps T e') : e = e' := by
  obtain ⟨st, c, hd, h⟩ := h
  obtain ⟨st', c', hd', h'⟩ := h'
  rw [hd] at hd'
  cases hd'
  rcases h with ⟨h1, rfl⟩ | ⟨h1, h2, ri, rt, rl, ra, d1, d2, d3, d4, h⟩
  · rcases h' with ⟨_, rfl⟩ | ⟨k1, k2, _⟩
    · rfl
    · rcases h1 with h1 | h1
      · exact absurd k1 h1
      · rw [k2] at h1; cases h1
  · rcases h' with ⟨k1, rfl⟩ | ⟨_, _, ri', rt', rl', ra', k1, k2, k3, k4, h'⟩
    · rcases k1 with k1 | k1
      · exact absurd h1 k1
      · rw [h2] at k1; cases k1
    · cases dv_one d1 k1
      cases dv_one d2 k2
      cases dv_one d3 k3
      cases dv_one d4 k4
      rcases h with ⟨q, rfl⟩ | ⟨q, rfl⟩ <;> rcases h' with ⟨q', rfl⟩ | ⟨q', rfl⟩
      · rfl
      · rw [q] at q'; cases q'
      · rw [q] at q'; cases q'
      · rfl
/-- What both MailEntry functions answer. -/
def MeRet (l : B) (e : Ending) : Prop :=
  (65536 < l.length ∧ e = ER noEn 2) ∨
  (l.length ≤ 65536 ∧ (¬ ∃ fs b, IsMail l fs b) ∧ e = ER noEn 3) ∨
  (l.length ≤ 65536 ∧ ∃ fs b, IsMail l fs b ∧ ((hasAll (prs fs) names = false ∧ e = ER noEn 5) ∨ (hasAll (prs fs) names = true ∧ EntIs (prs fs) ⟨b.toArray⟩ e)))
theorem meRet_one {l : B} {e e' : Ending} (h : MeRet l e) (h' : MeRet l e') : e = e' := by
  rcases h with ⟨h, rfl⟩ | ⟨h, hn, rfl⟩ | ⟨h, fs, b, hm, ha⟩ <;> rcases h' with ⟨k, rfl⟩ | ⟨k, kn, rfl⟩ | ⟨k, fs', b', km, ka⟩
  · rfl
  · omega
  · omega
  · omega
  · rfl
  · exact absurd ⟨_, _, km⟩ hn
  · omega
  · exact absurd ⟨_, _, hm⟩ kn
  · obtain ⟨rfl, rfl⟩ := isMail_one hm km
    rcases ha with ⟨q, rfl⟩ | ⟨q, ha⟩ <;> rcases ka with ⟨q', rfl⟩ | ⟨q', ka⟩
    · rfl
    · rw [q] at q'; cases q'
    · rw [q] at q'; cases q'
    · exact entIs_one ha ka
theorem dateR_form (ps : List Pr) : ∃ st c : Int, dateR ps = .tuple #[.int .i64 st, .int .i64 c] := by
  exact rd.r8_two _
end Go.Proofs.YtadfdfmebdcfgaaGreatDoor.me

namespace Go.Proofs.YtadfdfmebdcfgaaGreatDoor.rd
open Go.RowKit
open dt
set_option linter.unusedVariables false
/-- What is answered where words don't serve. -/
def noW : Value := .tuple #[C6 0 0 0 0 0 0, .string ⟨#[]⟩, .bool false]
set_option maxHeartbeats 2000000 in
set_option maxRecDepth 100000 in
theorem words_len (w : World) (a : Option Addr) (n c : Nat) (h : n ≠ 5) (hn : n ≤ 1048576) : Calls Tryz.prog 119 #[.slice a n c] w fun e w' => e = .returned noW ∧ Below w.heap.size w w' := by
  have d5 : ((n : Int) != 5) = true := bne_iff_ne.2 (by omega)
  have d5' : ((n : Int) == 5) = false := beq_eq_false_iff_ne.2 (by omega)
  unfold noW C6
  go_enter Tryz.func119, Tryz.ntmps119
  go_wp2
  refine bodyPost_ret (v := .tuple #[.agg #[.int .i64 0, .int .i64 0, .int .i64 0, .int .i64 0, .int .i64 0, .int .i64 0], .string ⟨#[]⟩, .bool false]) (by simp [results, Tryz.results119, go_sem]) rfl ⟨rfl, dw.bel_box _ _⟩
set_option maxHeartbeats 4000000 in
set_option maxRecDepth 100000 in
theorem words_form (w : World) (b : Nat) (D M Y C Z : ByteArray) (L : Five w b D M Y C Z) (hD : D.size ≤ 65536) (hY : Y.size ≤ 65536) (hC : C.size ≤ 65536) (h : formI D.data.toList Y.data.toList C.data.toList = false) :
    Calls Tryz.prog 119 #[.slice (some ⟨b, 0, none⟩) 5 5] w fun e w' => e = .returned noW ∧ Below w.heap.size w w' := by
  have H1 : Hid (∀ w, Calls Tryz.prog 164 #[.string D, .string ⟨#[48]⟩] w fun e w' => e = .returned (.bool (hf D.data.toList [48])) ∧ Drawn w w') := fun w => hf_any D ⟨#[48]⟩ (by omega) w
  have H2 : Hid (∀ w, Calls Tryz.prog 164 #[.string D, .string ⟨#[48, 48]⟩] w fun e w' => e = .returned (.bool (hf D.data.toList [48, 48])) ∧ Drawn w w') := fun w => hf_any D ⟨#[48, 48]⟩ (by omega) w
  have H3 : Hid (∀ w, Calls Tryz.prog 164 #[.string Y, .string ⟨#[48, 48, 48, 48]⟩] w fun e w' => e = .returned (.bool (hf Y.data.toList F4)) ∧ Drawn w w') := fun w => hf_any Y ⟨#[48, 48, 48, 48]⟩ (by omega) w
  have H4 : Hid (∀ w, Calls Tryz.prog 164 #[.string C, .string ⟨#[48, 48, 58, 48, 48, 58, 48, 48]⟩] w fun e w' => e = .returned (.bool (hf C.data.toList F8)) ∧ Drawn w w') := fun w => hf_any C ⟨#[48, 48, 58, 48, 48, 58, 48, 48]⟩ (by omega) w
  unfold formI at h
  generalize hf D.data.toList [48] = t1 at H1 h
  generalize hf D.data.toList [48, 48] = t2 at H2 h
  generalize hf Y.data.toList F4 = t3 at H3 h
  generalize hf C.data.toList F8 = t4 at H4 h
  unfold noW C6
  go_enter Tryz.func119, Tryz.ntmps119
  go_upto_region 3 with fail
  have F0 := L.below (dw.bel_box w (.cells #[.int .i64 0, .int .i64 0, .int .i64 0, .int .i64 0, .int .i64 0, .int .i64 0] 99))
  have L0 := dw.lies_new w 0 0 0 0 0 0
  have b0 := dw.bel_box w (.cells #[.int .i64 0, .int .i64 0, .int .i64 0, .int .i64 0, .int .i64 0, .int .i64 0] 99)
  generalize w.alloc _ = w0 at F0 L0 b0 ⊢
  have q0 := F0.c0
  have q2 := F0.c2
  have q3 := F0.c3
  go_quiet (fail)
  have L1 := L0.below (drawn_below ⟨nq, rfl⟩)
  have b1 := b0.trans ((drawn_below (w := w0) ⟨nq, rfl⟩).mono b0.size)
  generalize w0.drewN nq = w1 at L1 b1 ⊢
  clear q0 q2 q3 F0 L0 b0 L
  go_wp2_with fail
  refine (H1.out _).mono ?_
  rintro e w2 ⟨rfl, dr2⟩
  have L2 := L1.below (drawn_below dr2)
  have b2 := b1.trans ((drawn_below dr2).mono b1.size)
  clear L1 b1 dr2 H1
  cases t1
  · go_wp2_with fail
    refine (H2.out _).mono ?_
    rintro e w3 ⟨rfl, dr3⟩
    have L3 := L2.below (drawn_below dr3)
    have b3 := b2.trans ((drawn_below dr3).mono b2.size)
    clear L2 b2 dr3 H2
    cases t2
    · have r0 := L3.c0
      have r1 := L3.c1
      have r2 := L3.c2
      have r3 := L3.c3
      have r4 := L3.c4
      have r5 := L3.c5
      have f0 : w3.frozen? ⟨w.heap.size, 0, none⟩ = false := frozen_of_row _ _ _ _ _ L3
      have f1 : w3.frozen? ⟨w.heap.size, 0 + 1, none⟩ = false := frozen_of_row _ _ _ _ _ L3
      have f2 : w3.frozen? ⟨w.heap.size, 0 + 2, none⟩ = false := frozen_of_row _ _ _ _ _ L3
      have f3 : w3.frozen? ⟨w.heap.size, 0 + 3, none⟩ = false := frozen_of_row _ _ _ _ _ L3
      have f4 : w3.frozen? ⟨w.heap.size, 0 + 4, none⟩ = false := frozen_of_row _ _ _ _ _ L3
      have f5 : w3.frozen? ⟨w.heap.size, 0 + 5, none⟩ = false := frozen_of_row _ _ _ _ _ L3
      go_wp2
      have L8 := dw.put6_lies (y := 0) (m := 0) (d := 0) (h := 0) (i := 0) (s := 0) L3
      have b8 := dw.put6_below (y := 0) (m := 0) (d := 0) (h := 0) (i := 0) (s := 0) b3 (Nat.le_refl _)
      clear r0 r1 r2 r3 r4 r5 f0 f1 f2 f3 f4 f5 L3 b3
      unfold dw.put6 at L8 b8
      generalize hX : World.setCell _ _ _ = X at L8 b8 ⊢
      clear hX
      have c0 := L8.c0
      have c1 := L8.c1
      have c2 := L8.c2
      have c3 := L8.c3
      have c4 := L8.c4
      have c5 := L8.c5
      simp only [Nat.zero_add] at c1 c2 c3 c4 c5
      exact bodyPost_ret (v := .tuple #[.agg #[.int .i64 0, .int .i64 0, .int .i64 0, .int .i64 0, .int .i64 0, .int .i64 0], .string ⟨#[]⟩, .bool false]) (by simp [results, Tryz.results119, go_sem, c0, c1, c2, c3, c4, c5]) rfl ⟨rfl, b8⟩
    · go_wp2_with fail
      refine (H3.out _).mono ?_
      rintro e w4 ⟨rfl, dr4⟩
      have L4 := L3.below (drawn_below dr4)
      have b4 := b3.trans ((drawn_below dr4).mono b3.size)
      clear L3 b3 dr4 H3
      cases t3
      · have r0 := L4.c0
        have r1 := L4.c1
        have r2 := L4.c2
        have r3 := L4.c3
        have r4 := L4.c4
        have r5 := L4.c5
        have f0 : w4.frozen? ⟨w.heap.size, 0, none⟩ = false := frozen_of_row _ _ _ _ _ L4
        have f1 : w4.frozen? ⟨w.heap.size, 0 + 1, none⟩ = false := frozen_of_row _ _ _ _ _ L4
        have f2 : w4.frozen? ⟨w.heap.size, 0 + 2, none⟩ = false := frozen_of_row _ _ _ _ _ L4
        have f3 : w4.frozen? ⟨w.heap.size, 0 + 3, none⟩ = false := frozen_of_row _ _ _ _ _ L4
        have f4 : w4.frozen? ⟨w.heap.size, 0 + 4, none⟩ = false := frozen_of_row _ _ _ _ _ L4
        have f5 : w4.frozen? ⟨w.heap.size, 0 + 5, none⟩ = false := frozen_of_row _ _ _ _ _ L4
        go_wp2
        have L8 := dw.put6_lies (y := 0) (m := 0) (d := 0) (h := 0) (i := 0) (s := 0) L4
        have b8 := dw.put6_below (y := 0) (m := 0) (d := 0) (h := 0) (i := 0) (s := 0) b4 (Nat.le_refl _)
        clear r0 r1 r2 r3 r4 r5 f0 f1 f2 f3 f4 f5 L4 b4
        unfold dw.put6 at L8 b8
        generalize hX : World.setCell _ _ _ = X at L8 b8 ⊢
        clear hX
        have c0 := L8.c0
        have c1 := L8.c1
        have c2 := L8.c2
        have c3 := L8.c3
        have c4 := L8.c4
        have c5 := L8.c5
        simp only [Nat.zero_add] at c1 c2 c3 c4 c5
        exact bodyPost_ret (v := .tuple #[.agg #[.int .i64 0, .int .i64 0, .int .i64 0, .int .i64 0, .int .i64 0, .int .i64 0], .string ⟨#[]⟩, .bool false]) (by simp [results, Tryz.results119, go_sem, c0, c1, c2, c3, c4, c5]) rfl ⟨rfl, b8⟩
      · obtain rfl : t4 = false := by simpa using h
        go_wp2_with fail
        refine (H4.out _).mono ?_
        rintro e w5 ⟨rfl, dr5⟩
        have L5 := L4.below (drawn_below dr5)
        have b5 := b4.trans ((drawn_below dr5).mono b4.size)
        clear L4 b4 dr5 H4
        have r0 := L5.c0
        have r1 := L5.c1
        have r2 := L5.c2
        have r3 := L5.c3
        have r4 := L5.c4
        have r5 := L5.c5
        have f0 : w5.frozen? ⟨w.heap.size, 0, none⟩ = false := frozen_of_row _ _ _ _ _ L5
        have f1 : w5.frozen? ⟨w.heap.size, 0 + 1, none⟩ = false := frozen_of_row _ _ _ _ _ L5
        have f2 : w5.frozen? ⟨w.heap.size, 0 + 2, none⟩ = false := frozen_of_row _ _ _ _ _ L5
        have f3 : w5.frozen? ⟨w.heap.size, 0 + 3, none⟩ = false := frozen_of_row _ _ _ _ _ L5
        have f4 : w5.frozen? ⟨w.heap.size, 0 + 4, none⟩ = false := frozen_of_row _ _ _ _ _ L5
        have f5 : w5.frozen? ⟨w.heap.size, 0 + 5, none⟩ = false := frozen_of_row _ _ _ _ _ L5
        go_wp2
        have L8 := dw.put6_lies (y := 0) (m := 0) (d := 0) (h := 0) (i := 0) (s := 0) L5
        have b8 := dw.put6_below (y := 0) (m := 0) (d := 0) (h := 0) (i := 0) (s := 0) b5 (Nat.le_refl _)
        clear r0 r1 r2 r3 r4 r5 f0 f1 f2 f3 f4 f5 L5 b5
        unfold dw.put6 at L8 b8
        generalize hX : World.setCell _ _ _ = X at L8 b8 ⊢
        clear hX
        have c0 := L8.c0
        have c1 := L8.c1
        have c2 := L8.c2
        have c3 := L8.c3
        have c4 := L8.c4
        have c5 := L8.c5
        simp only [Nat.zero_add] at c1 c2 c3 c4 c5
        exact bodyPost_ret (v := .tuple #[.agg #[.int .i64 0, .int .i64 0, .int .i64 0, .int .i64 0, .int .i64 0, .int .i64 0], .string ⟨#[]⟩, .bool false]) (by simp [results, Tryz.results119, go_sem, c0, c1, c2, c3, c4, c5]) rfl ⟨rfl, b8⟩
  · go_wp2_with fail
    refine (H3.out _).mono ?_
    rintro e w3 ⟨rfl, dr3⟩
    have L3 := L2.below (drawn_below dr3)
    have b3 := b2.trans ((drawn_below dr3).mono b2.size)
    clear L2 b2 dr3 H3
    cases t3
    · have r0 := L3.c0
      have r1 := L3.c1
      have r2 := L3.c2
      have r3 := L3.c3
      have r4 := L3.c4
      have r5 := L3.c5
      have f0 : w3.frozen? ⟨w.heap.size, 0, none⟩ = false := frozen_of_row _ _ _ _ _ L3
      have f1 : w3.frozen? ⟨w.heap.size, 0 + 1, none⟩ = false := frozen_of_row _ _ _ _ _ L3
      have f2 : w3.frozen? ⟨w.heap.size, 0 + 2, none⟩ = false := frozen_of_row _ _ _ _ _ L3
      have f3 : w3.frozen? ⟨w.heap.size, 0 + 3, none⟩ = false := frozen_of_row _ _ _ _ _ L3
      have f4 : w3.frozen? ⟨w.heap.size, 0 + 4, none⟩ = false := frozen_of_row _ _ _ _ _ L3
      have f5 : w3.frozen? ⟨w.heap.size, 0 + 5, none⟩ = false := frozen_of_row _ _ _ _ _ L3
      go_wp2
      have L8 := dw.put6_lies (y := 0) (m := 0) (d := 0) (h := 0) (i := 0) (s := 0) L3
      have b8 := dw.put6_below (y := 0) (m := 0) (d := 0) (h := 0) (i := 0) (s := 0) b3 (Nat.le_refl _)
      clear r0 r1 r2 r3 r4 r5 f0 f1 f2 f3 f4 f5 L3 b3
      unfold dw.put6 at L8 b8
      generalize hX : World.setCell _ _ _ = X at L8 b8 ⊢
      clear hX
      have c0 := L8.c0
      have c1 := L8.c1
      have c2 := L8.c2
      have c3 := L8.c3
      have c4 := L8.c4
      have c5 := L8.c5
      simp only [Nat.zero_add] at c1 c2 c3 c4 c5
      exact bodyPost_ret (v := .tuple #[.agg #[.int .i64 0, .int .i64 0, .int .i64 0, .int .i64 0, .int .i64 0, .int .i64 0], .string ⟨#[]⟩, .bool false]) (by simp [results, Tryz.results119, go_sem, c0, c1, c2, c3, c4, c5]) rfl ⟨rfl, b8⟩
    · obtain rfl : t4 = false := by simpa using h
      go_wp2_with fail
      refine (H4.out _).mono ?_
      rintro e w4 ⟨rfl, dr4⟩
      have L4 := L3.below (drawn_below dr4)
      have b4 := b3.trans ((drawn_below dr4).mono b3.size)
      clear L3 b3 dr4 H4
      have r0 := L4.c0
      have r1 := L4.c1
      have r2 := L4.c2
      have r3 := L4.c3
      have r4 := L4.c4
      have r5 := L4.c5
      have f0 : w4.frozen? ⟨w.heap.size, 0, none⟩ = false := frozen_of_row _ _ _ _ _ L4
      have f1 : w4.frozen? ⟨w.heap.size, 0 + 1, none⟩ = false := frozen_of_row _ _ _ _ _ L4
      have f2 : w4.frozen? ⟨w.heap.size, 0 + 2, none⟩ = false := frozen_of_row _ _ _ _ _ L4
      have f3 : w4.frozen? ⟨w.heap.size, 0 + 3, none⟩ = false := frozen_of_row _ _ _ _ _ L4
      have f4 : w4.frozen? ⟨w.heap.size, 0 + 4, none⟩ = false := frozen_of_row _ _ _ _ _ L4
      have f5 : w4.frozen? ⟨w.heap.size, 0 + 5, none⟩ = false := frozen_of_row _ _ _ _ _ L4
      go_wp2
      have L8 := dw.put6_lies (y := 0) (m := 0) (d := 0) (h := 0) (i := 0) (s := 0) L4
      have b8 := dw.put6_below (y := 0) (m := 0) (d := 0) (h := 0) (i := 0) (s := 0) b4 (Nat.le_refl _)
      clear r0 r1 r2 r3 r4 r5 f0 f1 f2 f3 f4 f5 L4 b4
      unfold dw.put6 at L8 b8
      generalize hX : World.setCell _ _ _ = X at L8 b8 ⊢
      clear hX
      have c0 := L8.c0
      have c1 := L8.c1
      have c2 := L8.c2
      have c3 := L8.c3
      have c4 := L8.c4
      have c5 := L8.c5
      simp only [Nat.zero_add] at c1 c2 c3 c4 c5
      exact bodyPost_ret (v := .tuple #[.agg #[.int .i64 0, .int .i64 0, .int .i64 0, .int .i64 0, .int .i64 0, .int .i64 0], .string ⟨#[]⟩, .bool false]) (by simp [results, Tryz.results119, go_sem, c0, c1, c2, c3, c4, c5]) rfl ⟨rfl, b8⟩
end Go.Proofs.YtadfdfmebdcfgaaGreatDoor.rd

namespace Go.Proofs.YtadfdfmebdcfgaaGreatDoor.rd
open Go.RowKit
open dt
set_option linter.unusedVariables false
set_option maxHeartbeats 4000000 in
set_option maxRecDepth 100000 in
theorem way_told_noW (s ab cb : ByteArray) (hb : (s.size : Int) ≤ 65536) (Q : Value → World → Prop) (w : World)
    (HC : Hid (Calls Tryz.prog 30 #[.string s, .string ⟨#[44, 32]⟩] w fun e w' => e = .returned (.tuple #[.string ab, .string cb, .bool true]) ∧ Drawn w w'))
    (HS : Hid (∀ w', Below w.heap.size w w' → Calls Tryz.prog 120 #[.string cb, .string ⟨#[32]⟩] w' fun e w'' => ∃ v, e = .returned v ∧ Below w'.heap.size w' w'' ∧ Q v w''))
    (HW : Hid (∀ w' v, Below w.heap.size w w' → Q v w' → Calls Tryz.prog 119 #[v] w' fun e w'' => e = .returned (.tuple #[.agg #[.int .i64 0, .int .i64 0, .int .i64 0, .int .i64 0, .int .i64 0, .int .i64 0], .string ⟨#[]⟩, .bool false]) ∧ Below w'.heap.size w' w''))
    : Calls Tryz.prog 68 #[.string s] w fun e w' => e = .returned (.tuple #[.int .i64 0, .int .i64 3]) ∧ Below w.heap.size w w' := by
  go_enter Tryz.func68, Tryz.ntmps68
  go_wp2_with fail
  refine HC.out.mono ?_
  rintro e w1 ⟨rfl, dr1⟩
  have b1 := drawn_below dr1
  clear dr1 HC
  go_wp2_with fail
  refine (HS.out _ b1).mono ?_
  rintro e w2 ⟨v, rfl, b2, hq⟩
  have b3 := b1.trans (b2.mono b1.size)
  clear HS b1 b2
  go_wp2_with fail
  refine (HW.out _ v b3 hq).mono ?_
  rintro e w3 ⟨rfl, b4⟩
  have b5 := b3.trans (b4.mono b3.size)
  clear b3 b4 HW hq
  go_wp2
  go_ret2
  exact ⟨rfl, b5.alloc b5.size _⟩
set_option maxHeartbeats 4000000 in
set_option maxRecDepth 100000 in
theorem way_told_notOk (s ab cb : ByteArray) (hb : (s.size : Int) ≤ 65536) (Q : Value → World → Prop) (w : World)
    (zb : ByteArray) (y m d h i sc : Int)
    (HC : Hid (Calls Tryz.prog 30 #[.string s, .string ⟨#[44, 32]⟩] w fun e w' => e = .returned (.tuple #[.string ab, .string cb, .bool true]) ∧ Drawn w w'))
    (HS : Hid (∀ w', Below w.heap.size w w' → Calls Tryz.prog 120 #[.string cb, .string ⟨#[32]⟩] w' fun e w'' => ∃ v, e = .returned v ∧ Below w'.heap.size w' w'' ∧ Q v w''))
    (HW : Hid (∀ w' v, Below w.heap.size w w' → Q v w' → Calls Tryz.prog 119 #[v] w' fun e w'' => e = .returned (.tuple #[.agg #[.int .i64 y, .int .i64 m, .int .i64 d, .int .i64 h, .int .i64 i, .int .i64 sc], .string zb, .bool true]) ∧ Below w'.heap.size w' w''))
    (K : Hid (¬ Ok y m d h i sc))
    : Calls Tryz.prog 68 #[.string s] w fun e w' => e = .returned (.tuple #[.int .i64 0, .int .i64 3]) ∧ Below w.heap.size w w' := by
  go_enter Tryz.func68, Tryz.ntmps68
  go_wp2_with fail
  refine HC.out.mono ?_
  rintro e w1 ⟨rfl, dr1⟩
  have b1 := drawn_below dr1
  clear dr1 HC
  go_wp2_with fail
  refine (HS.out _ b1).mono ?_
  rintro e w2 ⟨v, rfl, b2, hq⟩
  have b3 := b1.trans (b2.mono b1.size)
  clear HS b1 b2
  go_wp2_with fail
  refine (HW.out _ v b3 hq).mono ?_
  rintro e w3 ⟨rfl, b4⟩
  have b5 := b3.trans (b4.mono b3.size)
  clear b3 b4 HW hq
  go_wp2_with fail
  have LC := dw.lies_new w3 y m d h i sc
  have b6 := b5.alloc b5.size (.cells #[.int .i64 y, .int .i64 m, .int .i64 d, .int .i64 h, .int .i64 i, .int .i64 sc] 99)
  generalize w3.alloc _ = w4 at LC b6 ⊢
  clear b5
  have c0 := LC.c0
  have c1 := LC.c1
  have c2 := LC.c2
  have c3 := LC.c3
  have c4 := LC.c4
  have c5 := LC.c5
  go_wp2_with fail
  refine (dw.impl_ok y m d h i sc _).mono ?_
  rintro e w5 ⟨t, rfl, ht, b7⟩
  have L5 := LC.below b7
  have b8 := b6.trans (b7.mono b6.size)
  clear c0 c1 c2 c3 c4 c5 b6 b7 LC
  obtain rfl : t = false := by
    cases t
    · rfl
    · exact absurd (ht.1 rfl) K.out
  clear ht L5
  go_wp2
  go_ret2
  exact ⟨rfl, b8⟩
set_option maxHeartbeats 4000000 in
set_option maxRecDepth 100000 in
theorem way_told_day (s ab cb : ByteArray) (hb : (s.size : Int) ≤ 65536) (Q : Value → World → Prop) (w : World)
    (zb : ByteArray) (y m d h i sc : Int)
    (HC : Hid (Calls Tryz.prog 30 #[.string s, .string ⟨#[44, 32]⟩] w fun e w' => e = .returned (.tuple #[.string ab, .string cb, .bool true]) ∧ Drawn w w'))
    (HS : Hid (∀ w', Below w.heap.size w w' → Calls Tryz.prog 120 #[.string cb, .string ⟨#[32]⟩] w' fun e w'' => ∃ v, e = .returned v ∧ Below w'.heap.size w' w'' ∧ Q v w''))
    (HW : Hid (∀ w' v, Below w.heap.size w w' → Q v w' → Calls Tryz.prog 119 #[v] w' fun e w'' => e = .returned (.tuple #[.agg #[.int .i64 y, .int .i64 m, .int .i64 d, .int .i64 h, .int .i64 i, .int .i64 sc], .string zb, .bool true]) ∧ Below w'.heap.size w' w''))
    (K : Hid (Ok y m d h i sc))
    (nm : ByteArray) (HN : Hid (∀ w', Below w.heap.size w w' → Calls Tryz.prog 122 #[.agg #[.int .i64 y, .int .i64 m, .int .i64 d, .int .i64 h, .int .i64 i, .int .i64 sc]] w' fun e w'' => e = .returned (.string nm) ∧ Below w'.heap.size w' w'')) (dn : (ab.toList == nm.toList) = false)
    : Calls Tryz.prog 68 #[.string s] w fun e w' => e = .returned (.tuple #[.int .i64 0, .int .i64 3]) ∧ Below w.heap.size w w' := by
  have dn' : (ab.toList != nm.toList) = true := by rw [bne, dn]; rfl
  go_enter Tryz.func68, Tryz.ntmps68
  go_wp2_with fail
  refine HC.out.mono ?_
  rintro e w1 ⟨rfl, dr1⟩
  have b1 := drawn_below dr1
  clear dr1 HC
  go_wp2_with fail
  refine (HS.out _ b1).mono ?_
  rintro e w2 ⟨v, rfl, b2, hq⟩
  have b3 := b1.trans (b2.mono b1.size)
  clear HS b1 b2
  go_wp2_with fail
  refine (HW.out _ v b3 hq).mono ?_
  rintro e w3 ⟨rfl, b4⟩
  have b5 := b3.trans (b4.mono b3.size)
  clear b3 b4 HW hq
  go_wp2_with fail
  have LC := dw.lies_new w3 y m d h i sc
  have b6 := b5.alloc b5.size (.cells #[.int .i64 y, .int .i64 m, .int .i64 d, .int .i64 h, .int .i64 i, .int .i64 sc] 99)
  generalize w3.alloc _ = w4 at LC b6 ⊢
  clear b5
  have c0 := LC.c0
  have c1 := LC.c1
  have c2 := LC.c2
  have c3 := LC.c3
  have c4 := LC.c4
  have c5 := LC.c5
  go_wp2_with fail
  refine (dw.impl_ok y m d h i sc _).mono ?_
  rintro e w5 ⟨t, rfl, ht, b7⟩
  have L5 := LC.below b7
  have b8 := b6.trans (b7.mono b6.size)
  clear c0 c1 c2 c3 c4 c5 b6 b7 LC
  obtain rfl : t = true := ht.2 K.out
  clear ht
  have c0 := L5.c0
  have c1 := L5.c1
  have c2 := L5.c2
  have c3 := L5.c3
  have c4 := L5.c4
  have c5 := L5.c5
  go_wp2_with fail
  refine (HN.out _ b8).mono ?_
  rintro e w6 ⟨rfl, b9⟩
  have L6 := L5.below b9
  have b10 := b8.trans (b9.mono b8.size)
  clear c0 c1 c2 c3 c4 c5 b8 b9 L5 HN
  clear L6
  go_wp2
  go_ret2
  exact ⟨rfl, b10⟩
set_option maxHeartbeats 4000000 in
set_option maxRecDepth 100000 in
theorem way_told_GMT (s ab cb : ByteArray) (hb : (s.size : Int) ≤ 65536) (Q : Value → World → Prop) (w : World)
    (zb : ByteArray) (y m d h i sc : Int)
    (HC : Hid (Calls Tryz.prog 30 #[.string s, .string ⟨#[44, 32]⟩] w fun e w' => e = .returned (.tuple #[.string ab, .string cb, .bool true]) ∧ Drawn w w'))
    (HS : Hid (∀ w', Below w.heap.size w w' → Calls Tryz.prog 120 #[.string cb, .string ⟨#[32]⟩] w' fun e w'' => ∃ v, e = .returned v ∧ Below w'.heap.size w' w'' ∧ Q v w''))
    (HW : Hid (∀ w' v, Below w.heap.size w w' → Q v w' → Calls Tryz.prog 119 #[v] w' fun e w'' => e = .returned (.tuple #[.agg #[.int .i64 y, .int .i64 m, .int .i64 d, .int .i64 h, .int .i64 i, .int .i64 sc], .string zb, .bool true]) ∧ Below w'.heap.size w' w''))
    (K : Hid (Ok y m d h i sc))
    (nm : ByteArray) (HN : Hid (∀ w', Below w.heap.size w w' → Calls Tryz.prog 122 #[.agg #[.int .i64 y, .int .i64 m, .int .i64 d, .int .i64 h, .int .i64 i, .int .i64 sc]] w' fun e w'' => e = .returned (.string nm) ∧ Below w'.heap.size w' w'')) (dn : (ab.toList == nm.toList) = true)
    (dz1 : (zb.toList == [71, 77, 84]) = true)
    (x c : Int) (HI : Hid (∀ w, Calls Tryz.prog 124 #[.agg #[.int .i64 y, .int .i64 m, .int .i64 d, .int .i64 h, .int .i64 i, .int .i64 sc], .int .i64 0] w fun e w' => e = .returned (.tuple #[.int .i64 x, .int .i64 c]) ∧ Below w.heap.size w w'))
    : Calls Tryz.prog 68 #[.string s] w fun e w' => e = .returned (.tuple #[.int .i64 x, .int .i64 c]) ∧ Below w.heap.size w w' := by
  have dn' : (ab.toList != nm.toList) = false := by rw [bne, dn]; rfl
  go_enter Tryz.func68, Tryz.ntmps68
  go_wp2_with fail
  refine HC.out.mono ?_
  rintro e w1 ⟨rfl, dr1⟩
  have b1 := drawn_below dr1
  clear dr1 HC
  go_wp2_with fail
  refine (HS.out _ b1).mono ?_
  rintro e w2 ⟨v, rfl, b2, hq⟩
  have b3 := b1.trans (b2.mono b1.size)
  clear HS b1 b2
  go_wp2_with fail
  refine (HW.out _ v b3 hq).mono ?_
  rintro e w3 ⟨rfl, b4⟩
  have b5 := b3.trans (b4.mono b3.size)
  clear b3 b4 HW hq
  go_wp2_with fail
  have LC := dw.lies_new w3 y m d h i sc
  have b6 := b5.alloc b5.size (.cells #[.int .i64 y, .int .i64 m, .int .i64 d, .int .i64 h, .int .i64 i, .int .i64 sc] 99)
  generalize w3.alloc _ = w4 at LC b6 ⊢
  clear b5
  have c0 := LC.c0
  have c1 := LC.c1
  have c2 := LC.c2
  have c3 := LC.c3
  have c4 := LC.c4
  have c5 := LC.c5
  go_wp2_with fail
  refine (dw.impl_ok y m d h i sc _).mono ?_
  rintro e w5 ⟨t, rfl, ht, b7⟩
  have L5 := LC.below b7
  have b8 := b6.trans (b7.mono b6.size)
  clear c0 c1 c2 c3 c4 c5 b6 b7 LC
  obtain rfl : t = true := ht.2 K.out
  clear ht
  have c0 := L5.c0
  have c1 := L5.c1
  have c2 := L5.c2
  have c3 := L5.c3
  have c4 := L5.c4
  have c5 := L5.c5
  go_wp2_with fail
  refine (HN.out _ b8).mono ?_
  rintro e w6 ⟨rfl, b9⟩
  have L6 := L5.below b9
  have b10 := b8.trans (b9.mono b8.size)
  clear c0 c1 c2 c3 c4 c5 b8 b9 L5 HN
  have L7 := L6
  have b11 := b10
  clear L6 b10
  have c0 := L7.c0
  have c1 := L7.c1
  have c2 := L7.c2
  have c3 := L7.c3
  have c4 := L7.c4
  have c5 := L7.c5
  go_wp2_with fail
  refine (HI.out _).mono ?_
  rintro e w8 ⟨rfl, b12⟩
  have b13 := b11.trans (b12.mono b11.size)
  clear c0 c1 c2 c3 c4 c5 L7 b11 b12 HI
  go_wp2
  go_ret2
  exact ⟨rfl, b13⟩
set_option maxHeartbeats 4000000 in
set_option maxRecDepth 100000 in
theorem way_told_UT (s ab cb : ByteArray) (hb : (s.size : Int) ≤ 65536) (Q : Value → World → Prop) (w : World)
    (zb : ByteArray) (y m d h i sc : Int)
    (HC : Hid (Calls Tryz.prog 30 #[.string s, .string ⟨#[44, 32]⟩] w fun e w' => e = .returned (.tuple #[.string ab, .string cb, .bool true]) ∧ Drawn w w'))
    (HS : Hid (∀ w', Below w.heap.size w w' → Calls Tryz.prog 120 #[.string cb, .string ⟨#[32]⟩] w' fun e w'' => ∃ v, e = .returned v ∧ Below w'.heap.size w' w'' ∧ Q v w''))
    (HW : Hid (∀ w' v, Below w.heap.size w w' → Q v w' → Calls Tryz.prog 119 #[v] w' fun e w'' => e = .returned (.tuple #[.agg #[.int .i64 y, .int .i64 m, .int .i64 d, .int .i64 h, .int .i64 i, .int .i64 sc], .string zb, .bool true]) ∧ Below w'.heap.size w' w''))
    (K : Hid (Ok y m d h i sc))
    (nm : ByteArray) (HN : Hid (∀ w', Below w.heap.size w w' → Calls Tryz.prog 122 #[.agg #[.int .i64 y, .int .i64 m, .int .i64 d, .int .i64 h, .int .i64 i, .int .i64 sc]] w' fun e w'' => e = .returned (.string nm) ∧ Below w'.heap.size w' w'')) (dn : (ab.toList == nm.toList) = true)
    (dz1 : (zb.toList == [71, 77, 84]) = false) (dz2 : (zb.toList == [85, 84]) = true)
    (x c : Int) (HI : Hid (∀ w, Calls Tryz.prog 124 #[.agg #[.int .i64 y, .int .i64 m, .int .i64 d, .int .i64 h, .int .i64 i, .int .i64 sc], .int .i64 0] w fun e w' => e = .returned (.tuple #[.int .i64 x, .int .i64 c]) ∧ Below w.heap.size w w'))
    : Calls Tryz.prog 68 #[.string s] w fun e w' => e = .returned (.tuple #[.int .i64 x, .int .i64 c]) ∧ Below w.heap.size w w' := by
  have dn' : (ab.toList != nm.toList) = false := by rw [bne, dn]; rfl
  go_enter Tryz.func68, Tryz.ntmps68
  go_wp2_with fail
  refine HC.out.mono ?_
  rintro e w1 ⟨rfl, dr1⟩
  have b1 := drawn_below dr1
  clear dr1 HC
  go_wp2_with fail
  refine (HS.out _ b1).mono ?_
  rintro e w2 ⟨v, rfl, b2, hq⟩
  have b3 := b1.trans (b2.mono b1.size)
  clear HS b1 b2
  go_wp2_with fail
  refine (HW.out _ v b3 hq).mono ?_
  rintro e w3 ⟨rfl, b4⟩
  have b5 := b3.trans (b4.mono b3.size)
  clear b3 b4 HW hq
  go_wp2_with fail
  have LC := dw.lies_new w3 y m d h i sc
  have b6 := b5.alloc b5.size (.cells #[.int .i64 y, .int .i64 m, .int .i64 d, .int .i64 h, .int .i64 i, .int .i64 sc] 99)
  generalize w3.alloc _ = w4 at LC b6 ⊢
  clear b5
  have c0 := LC.c0
  have c1 := LC.c1
  have c2 := LC.c2
  have c3 := LC.c3
  have c4 := LC.c4
  have c5 := LC.c5
  go_wp2_with fail
  refine (dw.impl_ok y m d h i sc _).mono ?_
  rintro e w5 ⟨t, rfl, ht, b7⟩
  have L5 := LC.below b7
  have b8 := b6.trans (b7.mono b6.size)
  clear c0 c1 c2 c3 c4 c5 b6 b7 LC
  obtain rfl : t = true := ht.2 K.out
  clear ht
  have c0 := L5.c0
  have c1 := L5.c1
  have c2 := L5.c2
  have c3 := L5.c3
  have c4 := L5.c4
  have c5 := L5.c5
  go_wp2_with fail
  refine (HN.out _ b8).mono ?_
  rintro e w6 ⟨rfl, b9⟩
  have L6 := L5.below b9
  have b10 := b8.trans (b9.mono b8.size)
  clear c0 c1 c2 c3 c4 c5 b8 b9 L5 HN
  have L7 := L6
  have b11 := b10
  clear L6 b10
  have c0 := L7.c0
  have c1 := L7.c1
  have c2 := L7.c2
  have c3 := L7.c3
  have c4 := L7.c4
  have c5 := L7.c5
  go_wp2_with fail
  refine (HI.out _).mono ?_
  rintro e w8 ⟨rfl, b12⟩
  have b13 := b11.trans (b12.mono b11.size)
  clear c0 c1 c2 c3 c4 c5 L7 b11 b12 HI
  go_wp2
  go_ret2
  exact ⟨rfl, b13⟩
set_option maxHeartbeats 4000000 in
set_option maxRecDepth 100000 in
theorem way_told_none (s ab cb : ByteArray) (hb : (s.size : Int) ≤ 65536) (Q : Value → World → Prop) (w : World)
    (zb : ByteArray) (y m d h i sc : Int)
    (HC : Hid (Calls Tryz.prog 30 #[.string s, .string ⟨#[44, 32]⟩] w fun e w' => e = .returned (.tuple #[.string ab, .string cb, .bool true]) ∧ Drawn w w'))
    (HS : Hid (∀ w', Below w.heap.size w w' → Calls Tryz.prog 120 #[.string cb, .string ⟨#[32]⟩] w' fun e w'' => ∃ v, e = .returned v ∧ Below w'.heap.size w' w'' ∧ Q v w''))
    (HW : Hid (∀ w' v, Below w.heap.size w w' → Q v w' → Calls Tryz.prog 119 #[v] w' fun e w'' => e = .returned (.tuple #[.agg #[.int .i64 y, .int .i64 m, .int .i64 d, .int .i64 h, .int .i64 i, .int .i64 sc], .string zb, .bool true]) ∧ Below w'.heap.size w' w''))
    (K : Hid (Ok y m d h i sc))
    (nm : ByteArray) (HN : Hid (∀ w', Below w.heap.size w w' → Calls Tryz.prog 122 #[.agg #[.int .i64 y, .int .i64 m, .int .i64 d, .int .i64 h, .int .i64 i, .int .i64 sc]] w' fun e w'' => e = .returned (.string nm) ∧ Below w'.heap.size w' w'')) (dn : (ab.toList == nm.toList) = true)
    (dz1 : (zb.toList == [71, 77, 84]) = false) (dz2 : (zb.toList == [85, 84]) = false)
    (HZ : Hid (∀ w, Calls Tryz.prog 123 #[.string zb, .string ⟨#[48, 48, 48, 48]⟩] w fun e w' => e = .returned (.tuple #[.int .i64 0, .bool false]) ∧ Drawn w w'))
    : Calls Tryz.prog 68 #[.string s] w fun e w' => e = .returned (.tuple #[.int .i64 0, .int .i64 3]) ∧ Below w.heap.size w w' := by
  have dn' : (ab.toList != nm.toList) = false := by rw [bne, dn]; rfl
  go_enter Tryz.func68, Tryz.ntmps68
  go_wp2_with fail
  refine HC.out.mono ?_
  rintro e w1 ⟨rfl, dr1⟩
  have b1 := drawn_below dr1
  clear dr1 HC
  go_wp2_with fail
  refine (HS.out _ b1).mono ?_
  rintro e w2 ⟨v, rfl, b2, hq⟩
  have b3 := b1.trans (b2.mono b1.size)
  clear HS b1 b2
  go_wp2_with fail
  refine (HW.out _ v b3 hq).mono ?_
  rintro e w3 ⟨rfl, b4⟩
  have b5 := b3.trans (b4.mono b3.size)
  clear b3 b4 HW hq
  go_wp2_with fail
  have LC := dw.lies_new w3 y m d h i sc
  have b6 := b5.alloc b5.size (.cells #[.int .i64 y, .int .i64 m, .int .i64 d, .int .i64 h, .int .i64 i, .int .i64 sc] 99)
  generalize w3.alloc _ = w4 at LC b6 ⊢
  clear b5
  have c0 := LC.c0
  have c1 := LC.c1
  have c2 := LC.c2
  have c3 := LC.c3
  have c4 := LC.c4
  have c5 := LC.c5
  go_wp2_with fail
  refine (dw.impl_ok y m d h i sc _).mono ?_
  rintro e w5 ⟨t, rfl, ht, b7⟩
  have L5 := LC.below b7
  have b8 := b6.trans (b7.mono b6.size)
  clear c0 c1 c2 c3 c4 c5 b6 b7 LC
  obtain rfl : t = true := ht.2 K.out
  clear ht
  have c0 := L5.c0
  have c1 := L5.c1
  have c2 := L5.c2
  have c3 := L5.c3
  have c4 := L5.c4
  have c5 := L5.c5
  go_wp2_with fail
  refine (HN.out _ b8).mono ?_
  rintro e w6 ⟨rfl, b9⟩
  have L6 := L5.below b9
  have b10 := b8.trans (b9.mono b8.size)
  clear c0 c1 c2 c3 c4 c5 b8 b9 L5 HN
  go_wp2_with fail
  refine (HZ.out _).mono ?_
  rintro e w7 ⟨rfl, dr⟩
  have L7 := L6.below (drawn_below dr)
  have b11 := b10.trans ((drawn_below dr).mono b10.size)
  clear L6 b10 dr HZ
  clear L7
  go_wp2
  go_ret2
  exact ⟨rfl, b11⟩
set_option maxHeartbeats 4000000 in
set_option maxRecDepth 100000 in
theorem way_told_some (s ab cb : ByteArray) (hb : (s.size : Int) ≤ 65536) (Q : Value → World → Prop) (w : World)
    (zb : ByteArray) (y m d h i sc : Int)
    (HC : Hid (Calls Tryz.prog 30 #[.string s, .string ⟨#[44, 32]⟩] w fun e w' => e = .returned (.tuple #[.string ab, .string cb, .bool true]) ∧ Drawn w w'))
    (HS : Hid (∀ w', Below w.heap.size w w' → Calls Tryz.prog 120 #[.string cb, .string ⟨#[32]⟩] w' fun e w'' => ∃ v, e = .returned v ∧ Below w'.heap.size w' w'' ∧ Q v w''))
    (HW : Hid (∀ w' v, Below w.heap.size w w' → Q v w' → Calls Tryz.prog 119 #[v] w' fun e w'' => e = .returned (.tuple #[.agg #[.int .i64 y, .int .i64 m, .int .i64 d, .int .i64 h, .int .i64 i, .int .i64 sc], .string zb, .bool true]) ∧ Below w'.heap.size w' w''))
    (K : Hid (Ok y m d h i sc))
    (nm : ByteArray) (HN : Hid (∀ w', Below w.heap.size w w' → Calls Tryz.prog 122 #[.agg #[.int .i64 y, .int .i64 m, .int .i64 d, .int .i64 h, .int .i64 i, .int .i64 sc]] w' fun e w'' => e = .returned (.string nm) ∧ Below w'.heap.size w' w'')) (dn : (ab.toList == nm.toList) = true)
    (dz1 : (zb.toList == [71, 77, 84]) = false) (dz2 : (zb.toList == [85, 84]) = false)
    (a : Int)
    (HZ : Hid (∀ w, Calls Tryz.prog 123 #[.string zb, .string ⟨#[48, 48, 48, 48]⟩] w fun e w' => e = .returned (.tuple #[.int .i64 a, .bool true]) ∧ Drawn w w'))
    (x c : Int) (HI : Hid (∀ w, Calls Tryz.prog 124 #[.agg #[.int .i64 y, .int .i64 m, .int .i64 d, .int .i64 h, .int .i64 i, .int .i64 sc], .int .i64 a] w fun e w' => e = .returned (.tuple #[.int .i64 x, .int .i64 c]) ∧ Below w.heap.size w w'))
    : Calls Tryz.prog 68 #[.string s] w fun e w' => e = .returned (.tuple #[.int .i64 x, .int .i64 c]) ∧ Below w.heap.size w w' := by
  have dn' : (ab.toList != nm.toList) = false := by rw [bne, dn]; rfl
  go_enter Tryz.func68, Tryz.ntmps68
  go_wp2_with fail
  refine HC.out.mono ?_
  rintro e w1 ⟨rfl, dr1⟩
  have b1 := drawn_below dr1
  clear dr1 HC
  go_wp2_with fail
  refine (HS.out _ b1).mono ?_
  rintro e w2 ⟨v, rfl, b2, hq⟩
  have b3 := b1.trans (b2.mono b1.size)
  clear HS b1 b2
  go_wp2_with fail
  refine (HW.out _ v b3 hq).mono ?_
  rintro e w3 ⟨rfl, b4⟩
  have b5 := b3.trans (b4.mono b3.size)
  clear b3 b4 HW hq
  go_wp2_with fail
  have LC := dw.lies_new w3 y m d h i sc
  have b6 := b5.alloc b5.size (.cells #[.int .i64 y, .int .i64 m, .int .i64 d, .int .i64 h, .int .i64 i, .int .i64 sc] 99)
  generalize w3.alloc _ = w4 at LC b6 ⊢
  clear b5
  have c0 := LC.c0
  have c1 := LC.c1
  have c2 := LC.c2
  have c3 := LC.c3
  have c4 := LC.c4
  have c5 := LC.c5
  go_wp2_with fail
  refine (dw.impl_ok y m d h i sc _).mono ?_
  rintro e w5 ⟨t, rfl, ht, b7⟩
  have L5 := LC.below b7
  have b8 := b6.trans (b7.mono b6.size)
  clear c0 c1 c2 c3 c4 c5 b6 b7 LC
  obtain rfl : t = true := ht.2 K.out
  clear ht
  have c0 := L5.c0
  have c1 := L5.c1
  have c2 := L5.c2
  have c3 := L5.c3
  have c4 := L5.c4
  have c5 := L5.c5
  go_wp2_with fail
  refine (HN.out _ b8).mono ?_
  rintro e w6 ⟨rfl, b9⟩
  have L6 := L5.below b9
  have b10 := b8.trans (b9.mono b8.size)
  clear c0 c1 c2 c3 c4 c5 b8 b9 L5 HN
  go_wp2_with fail
  refine (HZ.out _).mono ?_
  rintro e w7 ⟨rfl, dr⟩
  have L7 := L6.below (drawn_below dr)
  have b11 := b10.trans ((drawn_below dr).mono b10.size)
  clear L6 b10 dr HZ
  have c0 := L7.c0
  have c1 := L7.c1
  have c2 := L7.c2
  have c3 := L7.c3
  have c4 := L7.c4
  have c5 := L7.c5
  go_wp2_with fail
  refine (HI.out _).mono ?_
  rintro e w8 ⟨rfl, b12⟩
  have b13 := b11.trans (b12.mono b11.size)
  clear c0 c1 c2 c3 c4 c5 L7 b11 b12 HI
  go_wp2
  go_ret2
  exact ⟨rfl, b13⟩
set_option maxHeartbeats 4000000 in
set_option maxRecDepth 100000 in
theorem way_plain_noW (s ab cb : ByteArray) (hb : (s.size : Int) ≤ 65536) (Q : Value → World → Prop) (w : World)
    (HC : Hid (Calls Tryz.prog 30 #[.string s, .string ⟨#[44, 32]⟩] w fun e w' => e = .returned (.tuple #[.string ab, .string cb, .bool false]) ∧ Drawn w w'))
    (HS : Hid (∀ w', Below w.heap.size w w' → Calls Tryz.prog 120 #[.string s, .string ⟨#[32]⟩] w' fun e w'' => ∃ v, e = .returned v ∧ Below w'.heap.size w' w'' ∧ Q v w''))
    (HW : Hid (∀ w' v, Below w.heap.size w w' → Q v w' → Calls Tryz.prog 119 #[v] w' fun e w'' => e = .returned (.tuple #[.agg #[.int .i64 0, .int .i64 0, .int .i64 0, .int .i64 0, .int .i64 0, .int .i64 0], .string ⟨#[]⟩, .bool false]) ∧ Below w'.heap.size w' w''))
    : Calls Tryz.prog 68 #[.string s] w fun e w' => e = .returned (.tuple #[.int .i64 0, .int .i64 3]) ∧ Below w.heap.size w w' := by
  go_enter Tryz.func68, Tryz.ntmps68
  go_wp2_with fail
  refine HC.out.mono ?_
  rintro e w1 ⟨rfl, dr1⟩
  have b1 := drawn_below dr1
  clear dr1 HC
  go_wp2_with fail
  refine (HS.out _ b1).mono ?_
  rintro e w2 ⟨v, rfl, b2, hq⟩
  have b3 := b1.trans (b2.mono b1.size)
  clear HS b1 b2
  go_wp2_with fail
  refine (HW.out _ v b3 hq).mono ?_
  rintro e w3 ⟨rfl, b4⟩
  have b5 := b3.trans (b4.mono b3.size)
  clear b3 b4 HW hq
  go_wp2
  go_ret2
  exact ⟨rfl, b5.alloc b5.size _⟩
set_option maxHeartbeats 4000000 in
set_option maxRecDepth 100000 in
theorem way_plain_notOk (s ab cb : ByteArray) (hb : (s.size : Int) ≤ 65536) (Q : Value → World → Prop) (w : World)
    (zb : ByteArray) (y m d h i sc : Int)
    (HC : Hid (Calls Tryz.prog 30 #[.string s, .string ⟨#[44, 32]⟩] w fun e w' => e = .returned (.tuple #[.string ab, .string cb, .bool false]) ∧ Drawn w w'))
    (HS : Hid (∀ w', Below w.heap.size w w' → Calls Tryz.prog 120 #[.string s, .string ⟨#[32]⟩] w' fun e w'' => ∃ v, e = .returned v ∧ Below w'.heap.size w' w'' ∧ Q v w''))
    (HW : Hid (∀ w' v, Below w.heap.size w w' → Q v w' → Calls Tryz.prog 119 #[v] w' fun e w'' => e = .returned (.tuple #[.agg #[.int .i64 y, .int .i64 m, .int .i64 d, .int .i64 h, .int .i64 i, .int .i64 sc], .string zb, .bool true]) ∧ Below w'.heap.size w' w''))
    (K : Hid (¬ Ok y m d h i sc))
    : Calls Tryz.prog 68 #[.string s] w fun e w' => e = .returned (.tuple #[.int .i64 0, .int .i64 3]) ∧ Below w.heap.size w w' := by
  go_enter Tryz.func68, Tryz.ntmps68
  go_wp2_with fail
  refine HC.out.mono ?_
  rintro e w1 ⟨rfl, dr1⟩
  have b1 := drawn_below dr1
  clear dr1 HC
  go_wp2_with fail
  refine (HS.out _ b1).mono ?_
  rintro e w2 ⟨v, rfl, b2, hq⟩
  have b3 := b1.trans (b2.mono b1.size)
  clear HS b1 b2
  go_wp2_with fail
  refine (HW.out _ v b3 hq).mono ?_
  rintro e w3 ⟨rfl, b4⟩
  have b5 := b3.trans (b4.mono b3.size)
  clear b3 b4 HW hq
  go_wp2_with fail
  have LC := dw.lies_new w3 y m d h i sc
  have b6 := b5.alloc b5.size (.cells #[.int .i64 y, .int .i64 m, .int .i64 d, .int .i64 h, .int .i64 i, .int .i64 sc] 99)
  generalize w3.alloc _ = w4 at LC b6 ⊢
  clear b5
  have c0 := LC.c0
  have c1 := LC.c1
  have c2 := LC.c2
  have c3 := LC.c3
  have c4 := LC.c4
  have c5 := LC.c5
  go_wp2_with fail
  refine (dw.impl_ok y m d h i sc _).mono ?_
  rintro e w5 ⟨t, rfl, ht, b7⟩
  have L5 := LC.below b7
  have b8 := b6.trans (b7.mono b6.size)
  clear c0 c1 c2 c3 c4 c5 b6 b7 LC
  obtain rfl : t = false := by
    cases t
    · rfl
    · exact absurd (ht.1 rfl) K.out
  clear ht L5
  go_wp2
  go_ret2
  exact ⟨rfl, b8⟩
set_option maxHeartbeats 4000000 in
set_option maxRecDepth 100000 in
theorem way_plain_GMT (s ab cb : ByteArray) (hb : (s.size : Int) ≤ 65536) (Q : Value → World → Prop) (w : World)
    (zb : ByteArray) (y m d h i sc : Int)
    (HC : Hid (Calls Tryz.prog 30 #[.string s, .string ⟨#[44, 32]⟩] w fun e w' => e = .returned (.tuple #[.string ab, .string cb, .bool false]) ∧ Drawn w w'))
    (HS : Hid (∀ w', Below w.heap.size w w' → Calls Tryz.prog 120 #[.string s, .string ⟨#[32]⟩] w' fun e w'' => ∃ v, e = .returned v ∧ Below w'.heap.size w' w'' ∧ Q v w''))
    (HW : Hid (∀ w' v, Below w.heap.size w w' → Q v w' → Calls Tryz.prog 119 #[v] w' fun e w'' => e = .returned (.tuple #[.agg #[.int .i64 y, .int .i64 m, .int .i64 d, .int .i64 h, .int .i64 i, .int .i64 sc], .string zb, .bool true]) ∧ Below w'.heap.size w' w''))
    (K : Hid (Ok y m d h i sc))
    (dz1 : (zb.toList == [71, 77, 84]) = true)
    (x c : Int) (HI : Hid (∀ w, Calls Tryz.prog 124 #[.agg #[.int .i64 y, .int .i64 m, .int .i64 d, .int .i64 h, .int .i64 i, .int .i64 sc], .int .i64 0] w fun e w' => e = .returned (.tuple #[.int .i64 x, .int .i64 c]) ∧ Below w.heap.size w w'))
    : Calls Tryz.prog 68 #[.string s] w fun e w' => e = .returned (.tuple #[.int .i64 x, .int .i64 c]) ∧ Below w.heap.size w w' := by
  go_enter Tryz.func68, Tryz.ntmps68
  go_wp2_with fail
  refine HC.out.mono ?_
  rintro e w1 ⟨rfl, dr1⟩
  have b1 := drawn_below dr1
  clear dr1 HC
  go_wp2_with fail
  refine (HS.out _ b1).mono ?_
  rintro e w2 ⟨v, rfl, b2, hq⟩
  have b3 := b1.trans (b2.mono b1.size)
  clear HS b1 b2
  go_wp2_with fail
  refine (HW.out _ v b3 hq).mono ?_
  rintro e w3 ⟨rfl, b4⟩
  have b5 := b3.trans (b4.mono b3.size)
  clear b3 b4 HW hq
  go_wp2_with fail
  have LC := dw.lies_new w3 y m d h i sc
  have b6 := b5.alloc b5.size (.cells #[.int .i64 y, .int .i64 m, .int .i64 d, .int .i64 h, .int .i64 i, .int .i64 sc] 99)
  generalize w3.alloc _ = w4 at LC b6 ⊢
  clear b5
  have c0 := LC.c0
  have c1 := LC.c1
  have c2 := LC.c2
  have c3 := LC.c3
  have c4 := LC.c4
  have c5 := LC.c5
  go_wp2_with fail
  refine (dw.impl_ok y m d h i sc _).mono ?_
  rintro e w5 ⟨t, rfl, ht, b7⟩
  have L5 := LC.below b7
  have b8 := b6.trans (b7.mono b6.size)
  clear c0 c1 c2 c3 c4 c5 b6 b7 LC
  obtain rfl : t = true := ht.2 K.out
  clear ht
  have L6 := L5
  have b10 := b8
  clear L5 b8
  have L7 := L6
  have b11 := b10
  clear L6 b10
  have c0 := L7.c0
  have c1 := L7.c1
  have c2 := L7.c2
  have c3 := L7.c3
  have c4 := L7.c4
  have c5 := L7.c5
  go_wp2_with fail
  refine (HI.out _).mono ?_
  rintro e w8 ⟨rfl, b12⟩
  have b13 := b11.trans (b12.mono b11.size)
  clear c0 c1 c2 c3 c4 c5 L7 b11 b12 HI
  go_wp2
  go_ret2
  exact ⟨rfl, b13⟩
set_option maxHeartbeats 4000000 in
set_option maxRecDepth 100000 in
theorem way_plain_UT (s ab cb : ByteArray) (hb : (s.size : Int) ≤ 65536) (Q : Value → World → Prop) (w : World)
    (zb : ByteArray) (y m d h i sc : Int)
    (HC : Hid (Calls Tryz.prog 30 #[.string s, .string ⟨#[44, 32]⟩] w fun e w' => e = .returned (.tuple #[.string ab, .string cb, .bool false]) ∧ Drawn w w'))
    (HS : Hid (∀ w', Below w.heap.size w w' → Calls Tryz.prog 120 #[.string s, .string ⟨#[32]⟩] w' fun e w'' => ∃ v, e = .returned v ∧ Below w'.heap.size w' w'' ∧ Q v w''))
    (HW : Hid (∀ w' v, Below w.heap.size w w' → Q v w' → Calls Tryz.prog 119 #[v] w' fun e w'' => e = .returned (.tuple #[.agg #[.int .i64 y, .int .i64 m, .int .i64 d, .int .i64 h, .int .i64 i, .int .i64 sc], .string zb, .bool true]) ∧ Below w'.heap.size w' w''))
    (K : Hid (Ok y m d h i sc))
    (dz1 : (zb.toList == [71, 77, 84]) = false) (dz2 : (zb.toList == [85, 84]) = true)
    (x c : Int) (HI : Hid (∀ w, Calls Tryz.prog 124 #[.agg #[.int .i64 y, .int .i64 m, .int .i64 d, .int .i64 h, .int .i64 i, .int .i64 sc], .int .i64 0] w fun e w' => e = .returned (.tuple #[.int .i64 x, .int .i64 c]) ∧ Below w.heap.size w w'))
    : Calls Tryz.prog 68 #[.string s] w fun e w' => e = .returned (.tuple #[.int .i64 x, .int .i64 c]) ∧ Below w.heap.size w w' := by
  go_enter Tryz.func68, Tryz.ntmps68
  go_wp2_with fail
  refine HC.out.mono ?_
  rintro e w1 ⟨rfl, dr1⟩
  have b1 := drawn_below dr1
  clear dr1 HC
  go_wp2_with fail
  refine (HS.out _ b1).mono ?_
  rintro e w2 ⟨v, rfl, b2, hq⟩
  have b3 := b1.trans (b2.mono b1.size)
  clear HS b1 b2
  go_wp2_with fail
  refine (HW.out _ v b3 hq).mono ?_
  rintro e w3 ⟨rfl, b4⟩
  have b5 := b3.trans (b4.mono b3.size)
  clear b3 b4 HW hq
  go_wp2_with fail
  have LC := dw.lies_new w3 y m d h i sc
  have b6 := b5.alloc b5.size (.cells #[.int .i64 y, .int .i64 m, .int .i64 d, .int .i64 h, .int .i64 i, .int .i64 sc] 99)
  generalize w3.alloc _ = w4 at LC b6 ⊢
  clear b5
  have c0 := LC.c0
  have c1 := LC.c1
  have c2 := LC.c2
  have c3 := LC.c3
  have c4 := LC.c4
  have c5 := LC.c5
  go_wp2_with fail
  refine (dw.impl_ok y m d h i sc _).mono ?_
  rintro e w5 ⟨t, rfl, ht, b7⟩
  have L5 := LC.below b7
  have b8 := b6.trans (b7.mono b6.size)
  clear c0 c1 c2 c3 c4 c5 b6 b7 LC
  obtain rfl : t = true := ht.2 K.out
  clear ht
  have L6 := L5
  have b10 := b8
  clear L5 b8
  have L7 := L6
  have b11 := b10
  clear L6 b10
  have c0 := L7.c0
  have c1 := L7.c1
  have c2 := L7.c2
  have c3 := L7.c3
  have c4 := L7.c4
  have c5 := L7.c5
  go_wp2_with fail
  refine (HI.out _).mono ?_
  rintro e w8 ⟨rfl, b12⟩
  have b13 := b11.trans (b12.mono b11.size)
  clear c0 c1 c2 c3 c4 c5 L7 b11 b12 HI
  go_wp2
  go_ret2
  exact ⟨rfl, b13⟩
set_option maxHeartbeats 4000000 in
set_option maxRecDepth 100000 in
theorem way_plain_none (s ab cb : ByteArray) (hb : (s.size : Int) ≤ 65536) (Q : Value → World → Prop) (w : World)
    (zb : ByteArray) (y m d h i sc : Int)
    (HC : Hid (Calls Tryz.prog 30 #[.string s, .string ⟨#[44, 32]⟩] w fun e w' => e = .returned (.tuple #[.string ab, .string cb, .bool false]) ∧ Drawn w w'))
    (HS : Hid (∀ w', Below w.heap.size w w' → Calls Tryz.prog 120 #[.string s, .string ⟨#[32]⟩] w' fun e w'' => ∃ v, e = .returned v ∧ Below w'.heap.size w' w'' ∧ Q v w''))
    (HW : Hid (∀ w' v, Below w.heap.size w w' → Q v w' → Calls Tryz.prog 119 #[v] w' fun e w'' => e = .returned (.tuple #[.agg #[.int .i64 y, .int .i64 m, .int .i64 d, .int .i64 h, .int .i64 i, .int .i64 sc], .string zb, .bool true]) ∧ Below w'.heap.size w' w''))
    (K : Hid (Ok y m d h i sc))
    (dz1 : (zb.toList == [71, 77, 84]) = false) (dz2 : (zb.toList == [85, 84]) = false)
    (HZ : Hid (∀ w, Calls Tryz.prog 123 #[.string zb, .string ⟨#[48, 48, 48, 48]⟩] w fun e w' => e = .returned (.tuple #[.int .i64 0, .bool false]) ∧ Drawn w w'))
    : Calls Tryz.prog 68 #[.string s] w fun e w' => e = .returned (.tuple #[.int .i64 0, .int .i64 3]) ∧ Below w.heap.size w w' := by
  go_enter Tryz.func68, Tryz.ntmps68
  go_wp2_with fail
  refine HC.out.mono ?_
  rintro e w1 ⟨rfl, dr1⟩
  have b1 := drawn_below dr1
  clear dr1 HC
  go_wp2_with fail
  refine (HS.out _ b1).mono ?_
  rintro e w2 ⟨v, rfl, b2, hq⟩
  have b3 := b1.trans (b2.mono b1.size)
  clear HS b1 b2
  go_wp2_with fail
  refine (HW.out _ v b3 hq).mono ?_
  rintro e w3 ⟨rfl, b4⟩
  have b5 := b3.trans (b4.mono b3.size)
  clear b3 b4 HW hq
  go_wp2_with fail
  have LC := dw.lies_new w3 y m d h i sc
  have b6 := b5.alloc b5.size (.cells #[.int .i64 y, .int .i64 m, .int .i64 d, .int .i64 h, .int .i64 i, .int .i64 sc] 99)
  generalize w3.alloc _ = w4 at LC b6 ⊢
  clear b5
  have c0 := LC.c0
  have c1 := LC.c1
  have c2 := LC.c2
  have c3 := LC.c3
  have c4 := LC.c4
  have c5 := LC.c5
  go_wp2_with fail
  refine (dw.impl_ok y m d h i sc _).mono ?_
  rintro e w5 ⟨t, rfl, ht, b7⟩
  have L5 := LC.below b7
  have b8 := b6.trans (b7.mono b6.size)
  clear c0 c1 c2 c3 c4 c5 b6 b7 LC
  obtain rfl : t = true := ht.2 K.out
  clear ht
  have L6 := L5
  have b10 := b8
  clear L5 b8
  go_wp2_with fail
  refine (HZ.out _).mono ?_
  rintro e w7 ⟨rfl, dr⟩
  have L7 := L6.below (drawn_below dr)
  have b11 := b10.trans ((drawn_below dr).mono b10.size)
  clear L6 b10 dr HZ
  clear L7
  go_wp2
  go_ret2
  exact ⟨rfl, b11⟩
set_option maxHeartbeats 4000000 in
set_option maxRecDepth 100000 in
theorem way_plain_some (s ab cb : ByteArray) (hb : (s.size : Int) ≤ 65536) (Q : Value → World → Prop) (w : World)
    (zb : ByteArray) (y m d h i sc : Int)
    (HC : Hid (Calls Tryz.prog 30 #[.string s, .string ⟨#[44, 32]⟩] w fun e w' => e = .returned (.tuple #[.string ab, .string cb, .bool false]) ∧ Drawn w w'))
    (HS : Hid (∀ w', Below w.heap.size w w' → Calls Tryz.prog 120 #[.string s, .string ⟨#[32]⟩] w' fun e w'' => ∃ v, e = .returned v ∧ Below w'.heap.size w' w'' ∧ Q v w''))
    (HW : Hid (∀ w' v, Below w.heap.size w w' → Q v w' → Calls Tryz.prog 119 #[v] w' fun e w'' => e = .returned (.tuple #[.agg #[.int .i64 y, .int .i64 m, .int .i64 d, .int .i64 h, .int .i64 i, .int .i64 sc], .string zb, .bool true]) ∧ Below w'.heap.size w' w''))
    (K : Hid (Ok y m d h i sc))
    (dz1 : (zb.toList == [71, 77, 84]) = false) (dz2 : (zb.toList == [85, 84]) = false)
    (a : Int)
    (HZ : Hid (∀ w, Calls Tryz.prog 123 #[.string zb, .string ⟨#[48, 48, 48, 48]⟩] w fun e w' => e = .returned (.tuple #[.int .i64 a, .bool true]) ∧ Drawn w w'))
    (x c : Int) (HI : Hid (∀ w, Calls Tryz.prog 124 #[.agg #[.int .i64 y, .int .i64 m, .int .i64 d, .int .i64 h, .int .i64 i, .int .i64 sc], .int .i64 a] w fun e w' => e = .returned (.tuple #[.int .i64 x, .int .i64 c]) ∧ Below w.heap.size w w'))
    : Calls Tryz.prog 68 #[.string s] w fun e w' => e = .returned (.tuple #[.int .i64 x, .int .i64 c]) ∧ Below w.heap.size w w' := by
  go_enter Tryz.func68, Tryz.ntmps68
  go_wp2_with fail
  refine HC.out.mono ?_
  rintro e w1 ⟨rfl, dr1⟩
  have b1 := drawn_below dr1
  clear dr1 HC
  go_wp2_with fail
  refine (HS.out _ b1).mono ?_
  rintro e w2 ⟨v, rfl, b2, hq⟩
  have b3 := b1.trans (b2.mono b1.size)
  clear HS b1 b2
  go_wp2_with fail
  refine (HW.out _ v b3 hq).mono ?_
  rintro e w3 ⟨rfl, b4⟩
  have b5 := b3.trans (b4.mono b3.size)
  clear b3 b4 HW hq
  go_wp2_with fail
  have LC := dw.lies_new w3 y m d h i sc
  have b6 := b5.alloc b5.size (.cells #[.int .i64 y, .int .i64 m, .int .i64 d, .int .i64 h, .int .i64 i, .int .i64 sc] 99)
  generalize w3.alloc _ = w4 at LC b6 ⊢
  clear b5
  have c0 := LC.c0
  have c1 := LC.c1
  have c2 := LC.c2
  have c3 := LC.c3
  have c4 := LC.c4
  have c5 := LC.c5
  go_wp2_with fail
  refine (dw.impl_ok y m d h i sc _).mono ?_
  rintro e w5 ⟨t, rfl, ht, b7⟩
  have L5 := LC.below b7
  have b8 := b6.trans (b7.mono b6.size)
  clear c0 c1 c2 c3 c4 c5 b6 b7 LC
  obtain rfl : t = true := ht.2 K.out
  clear ht
  have L6 := L5
  have b10 := b8
  clear L5 b8
  go_wp2_with fail
  refine (HZ.out _).mono ?_
  rintro e w7 ⟨rfl, dr⟩
  have L7 := L6.below (drawn_below dr)
  have b11 := b10.trans ((drawn_below dr).mono b10.size)
  clear L6 b10 dr HZ
  have c0 := L7.c0
  have c1 := L7.c1
  have c2 := L7.c2
  have c3 := L7.c3
  have c4 := L7.c4
  have c5 := L7.c5
  go_wp2_with fail
  refine (HI.out _).mono ?_
  rintro e w8 ⟨rfl, b12⟩
  have b13 := b11.trans (b12.mono b11.size)
  clear c0 c1 c2 c3 c4 c5 L7 b11 b12 HI
  go_wp2
  go_ret2
  exact ⟨rfl, b13⟩
end Go.Proofs.YtadfdfmebdcfgaaGreatDoor.rd

namespace Go.Proofs.YtadfdfmebdcfgaaGreatDoor.rd
open Go.RowKit
open dt
set_option linter.unusedVariables false
theorem wds_len : ∀ (l acc : List UInt8), ∀ u ∈ wds acc l, u.length ≤ acc.length + l.length
  | [], acc, u, h => by simp [wds] at h; rw [h]; simp
  | b :: l, acc, u, h => by
    rw [wds] at h
    split at h
    · rcases List.mem_cons.1 h with rfl | h
      · simp
      · have := wds_len l [] u h
        simp at this ⊢
        omega
    · have := wds_len l _ u h
      simp at this ⊢
      omega
/-- Words lie where a slice leads to. -/
def WordsAt (V : List (List UInt8)) (v : Value) (w : World) : Prop := ∃ b, v = .slice (some ⟨b, 0, none⟩) V.length V.length ∧ w.heap[b]? = some (.cells ((V.map fun l => Value.string ⟨l.toArray⟩)).toArray 9)
theorem split_cells (s : ByteArray) : Lib.countB s ⟨#[32]⟩ + 1 = (wds [] s.data.toList).length ∧ ((Lib.splitB ⟨#[32]⟩ 0 (Lib.countB s ⟨#[32]⟩) s).map Value.string).toArray = ((wds [] s.data.toList).map fun l => Value.string ⟨l.toArray⟩).toArray := by
  have e := split_words s
  have hc := Lib.splitB_all ⟨#[32]⟩ (by decide) 0 _ s rfl
  rw [← e]
  refine ⟨by rw [List.length_map, hc], ?_⟩
  rw [List.map_map]
  rfl
theorem split_any (s : ByteArray) (hs : s.size ≤ 65536) (w : World) (mx : Int) (hm : w.cell? ⟨4, 0, none⟩ = some (.int .i64 mx)) :
    Calls Tryz.prog 120 #[.string s, .string ⟨#[32]⟩] w fun e w'' => ∃ v, e = .returned v ∧ Below w.heap.size w w'' ∧ WordsAt (wds [] s.data.toList) v w'' := by
  obtain ⟨q1, q2⟩ := split_cells s
  refine (Tryz.strings_Split s ⟨#[32]⟩ mx w (by omega) hm (by decide)).mono ?_
  rintro e w'' ⟨rfl, rfl⟩
  refine ⟨_, rfl, dw.bel_box _ _, w.heap.size, by rw [q1], ?_⟩
  rw [q2]
  show (w.heap.push _)[w.heap.size]? = _
  simp
theorem five_of {V : List (List UInt8)} {v : Value} {w : World} {d mo y c z : List UInt8} (h : WordsAt V v w) (e : V = [d, mo, y, c, z]) : ∃ b, v = .slice (some ⟨b, 0, none⟩) 5 5 ∧ Five w b ⟨d.toArray⟩ ⟨mo.toArray⟩ ⟨y.toArray⟩ ⟨c.toArray⟩ ⟨z.toArray⟩ := by
  obtain ⟨b, h1, h2⟩ := h
  subst e
  exact ⟨b, h1, h2⟩
theorem words_bad (V : List (List UInt8)) (hV : ∀ u ∈ V, u.length ≤ 65536) (hn : V.length ≤ 1048576) (w : World) (v : Value) (h : WordsAt V v w) (hb : V.length ≠ 5 ∨ ∃ d mo y c z, V = [d, mo, y, c, z] ∧ formI d y c = false) :
    Calls Tryz.prog 119 #[v] w fun e w'' => e = .returned noW ∧ Below w.heap.size w w'' := by
  rcases hb with hb | ⟨d, mo, y, c, z, e, hf⟩
  · obtain ⟨b, rfl, _⟩ := h
    exact words_len w _ _ _ hb hn
  · obtain ⟨b, rfl, L⟩ := five_of h e
    subst e
    exact words_form w b _ _ _ _ _ L (hV d (by simp)) (hV y (by simp)) (hV c (by simp)) hf
theorem words_fine (w : World) (v : Value) (d mo y c z : List UInt8) (h : WordsAt [d, mo, y, c, z] v w) (hT : td.TN w) (hf0 : formI d y c = true) :
    Calls Tryz.prog 119 #[v] w fun e w'' => e = .returned (.tuple #[C6 (num y) (mon mo) (num d) (num (g c 0 2)) (num (g c 3 2)) (num (g c 6 2)), .string ⟨z.toArray⟩, .bool true]) ∧ Below w.heap.size w w'' := by
  obtain ⟨b, rfl, L⟩ := five_of h rfl
  unfold formI at hf0
  simp only [Bool.and_eq_true, Bool.or_eq_true] at hf0
  obtain ⟨⟨h1, h2⟩, h3⟩ := hf0
  cases q : hf d [48]
  · rcases h1 with h1 | h1
    · rw [q] at h1; cases h1
    · exact words_good w b _ _ _ _ _ L hT q h1 h2 h3
  · exact words_one w b _ _ _ _ _ L hT q h2 h3

set_option maxHeartbeats 2000000 in
theorem told_822 (s ab cb : ByteArray) (hb : (s.size : Int) ≤ 65536) (a V0 : List UInt8) (w : World)
    (HC : Hid (Calls Tryz.prog 30 #[.string s, .string ⟨#[44, 32]⟩] w fun e w' => e = .returned (.tuple #[.string ab, .string cb, .bool true]) ∧ Drawn w w'))
    (hab : ab.data.toList = a) (hrb : cb.data.toList = V0) (hV0 : V0.length ≤ 65536) (HT : ∀ w', Below w.heap.size w w' → td.TN w' ∧ td.TW w')
    (HS : Hid (∀ w', Below w.heap.size w w' → Calls Tryz.prog 120 #[.string cb, .string ⟨#[32]⟩] w' fun e w'' => ∃ v, e = .returned v ∧ Below w'.heap.size w' w'' ∧ WordsAt (wds [] V0) v w'')) :
    Calls Tryz.prog 68 #[.string s] w fun e w' => e = .returned (coreI (some a) (wds [] V0)) ∧ Below w.heap.size w w' := by
  have hV : ∀ u ∈ wds [] V0, u.length ≤ 65536 := fun u hu => by have := wds_len V0 [] u hu; simp at this; omega
  by_cases hbad : (wds [] V0).length ≠ 5 ∨ ∃ d mo y c z, wds [] V0 = [d, mo, y, c, z] ∧ formI d y c = false
  · have e : coreI (some a) (wds [] V0) = bad := by
      rcases hbad with h | ⟨d, mo, y, c, z, e, h⟩
      · exact coreI_len h
      · rw [e]; exact coreI_form h
    rw [e]
    have hn : (wds [] V0).length ≤ 1048576 := by
      have e := split_words ⟨V0.toArray⟩
      rw [show (⟨V0.toArray⟩ : ByteArray).data.toList = V0 from by simp] at e
      rw [← e, List.length_map]
      have h1 := Lib.splitB_length_le ⟨#[32]⟩ 0 (Lib.countB ⟨V0.toArray⟩ ⟨#[32]⟩) ⟨V0.toArray⟩
      have h2 := Lib.countB_le ⟨#[32]⟩ (by decide) _ ⟨V0.toArray⟩ (Nat.le_refl _)
      have h3 : (⟨V0.toArray⟩ : ByteArray).size = V0.length := by simp [ByteArray.size]
      omega
    exact way_told_noW s ab cb hb (WordsAt (wds [] V0)) w HC HS (fun w' v hb' hq => words_bad _ hV hn w' v hq hbad)
  have h5 : (wds [] V0).length = 5 := Classical.byContradiction fun h => hbad (.inl h)
  obtain ⟨d, mo, y, c, z, eV⟩ : ∃ d mo y c z, wds [] V0 = [d, mo, y, c, z] := by
    match hv : wds [] V0, h5 with
    | [d, mo, y, c, z], _ => exact ⟨d, mo, y, c, z, rfl⟩
  have hf0 : formI d y c = true := by
    cases q : formI d y c
    · exact absurd (.inr ⟨d, mo, y, c, z, eV, q⟩) hbad
    · rfl
  have hzl : z.length ≤ 65536 := hV z (by rw [eV]; simp)
  rw [eV] at HS ⊢
  rw [coreI_yes hf0]
  have HW : Hid (∀ w' v, Below w.heap.size w w' → WordsAt [d, mo, y, c, z] v w' → Calls Tryz.prog 119 #[v] w' fun e w'' => e = .returned (.tuple #[C6 (num y) (mon mo) (num d) (num (g c 0 2)) (num (g c 3 2)) (num (g c 6 2)), .string ⟨z.toArray⟩, .bool true]) ∧ Below w'.heap.size w' w'') := fun w' v hb' hq => words_fine w' v d mo y c z hq (HT w' hb').1 hf0
  generalize num y = Y at HW ⊢
  generalize mon mo = M at HW ⊢
  generalize num d = D at HW ⊢
  generalize num (g c 0 2) = H at HW ⊢
  generalize num (g c 3 2) = I at HW ⊢
  generalize num (g c 6 2) = S at HW ⊢
  by_cases hok : Ok Y M D H I S
  rotate_left
  · rw [coreC_no hok]
    exact way_told_notOk s ab cb hb _ w ⟨z.toArray⟩ Y M D H I S HC HS HW hok
  have HN : Hid (∀ w', Below w.heap.size w w' → Calls Tryz.prog 122 #[C6 Y M D H I S] w' fun e w'' => e = .returned (.string ⟨(wnm (st Y M D H I S)).toArray⟩) ∧ Below w'.heap.size w' w'') := fun w' hb' => week_any Y M D H I S hok w' (HT w' hb').2
  by_cases hday : a = wnm (st Y M D H I S)
  rotate_left
  · rw [coreC_day hday]
    exact way_told_day s ab cb hb _ w ⟨z.toArray⟩ Y M D H I S HC HS HW hok ⟨(wnm (st Y M D H I S)).toArray⟩ HN (by rw [Lib.toList_data, Lib.toList_data, hab]; exact beq_eq_false_iff_ne.2 (by simpa using hday))
  have dn : (ab.toList == (⟨(wnm (st Y M D H I S)).toArray⟩ : ByteArray).toList) = true := by rw [Lib.toList_data, Lib.toList_data, hab]; exact beq_iff_eq.2 (by simpa using hday)
  have HI : ∀ q : Int, -90000 ≤ q → q ≤ 90000 → ∃ x c : Int, fin Y M D H I S q = .tuple #[.int .i64 x, .int .i64 c] ∧ Hid (∀ w, Calls Tryz.prog 124 #[C6 Y M D H I S, .int .i64 q] w fun e w' => e = .returned (.tuple #[.int .i64 x, .int .i64 c]) ∧ Below w.heap.size w w') := fun q q0 q1 => by
    obtain ⟨x, c, hx⟩ := fin_form Y M D H I S q
    refine ⟨x, c, hx, fun w => ?_⟩
    rw [← hx]
    exact in_stamp Y M D H I S q hok q0 q1 w
  by_cases z1 : z = [71, 77, 84]
  · obtain ⟨x, c, hx, HI0⟩ := HI 0 (by decide) (by decide)
    rw [coreC_fin (a := 0) hok (.inr (by rw [hday])) (by rw [zw, if_pos (.inl z1)]), hx]
    exact way_told_GMT s ab cb hb _ w ⟨z.toArray⟩ Y M D H I S HC HS HW hok ⟨(wnm (st Y M D H I S)).toArray⟩ HN dn (by rw [Lib.toList_data]; exact beq_iff_eq.2 (by simpa using z1)) x c HI0
  have d1 : ((⟨z.toArray⟩ : ByteArray).toList == [71, 77, 84]) = false := by rw [Lib.toList_data]; exact beq_eq_false_iff_ne.2 (by simpa using z1)
  by_cases z2 : z = [85, 84]
  · obtain ⟨x, c, hx, HI0⟩ := HI 0 (by decide) (by decide)
    rw [coreC_fin (a := 0) hok (.inr (by rw [hday])) (by rw [zw, if_pos (.inr z2)]), hx]
    exact way_told_UT s ab cb hb _ w ⟨z.toArray⟩ Y M D H I S HC HS HW hok ⟨(wnm (st Y M D H I S)).toArray⟩ HN dn d1 (by rw [Lib.toList_data]; exact beq_iff_eq.2 (by simpa using z2)) x c HI0
  have d2 : ((⟨z.toArray⟩ : ByteArray).toList == [85, 84]) = false := by rw [Lib.toList_data]; exact beq_eq_false_iff_ne.2 (by simpa using z2)
  have hzw : zw z = zp z := by rw [zw, if_neg (by rintro (h | h) <;> contradiction)]
  have HZ : ∀ w, Calls Tryz.prog 123 #[.string ⟨z.toArray⟩, .string ⟨#[48, 48, 48, 48]⟩] w fun e w' => e = .returned (zr (zp z)) ∧ Drawn w w' := fun w => by
    have := sec_any ⟨z.toArray⟩ ⟨#[48, 48, 48, 48]⟩ hzl (.inr rfl) w
    rw [show (⟨#[48, 48, 48, 48]⟩ : ByteArray).data.toList = F4 from rfl, show (⟨z.toArray⟩ : ByteArray).data.toList = z from by simp, zi_plain] at this
    exact this
  cases hz : zp z with
  | none =>
    rw [coreC_zone (by rw [hzw]; exact hz)]
    rw [hz] at HZ
    exact way_told_none s ab cb hb _ w ⟨z.toArray⟩ Y M D H I S HC HS HW hok ⟨(wnm (st Y M D H I S)).toArray⟩ HN dn d1 d2 HZ
  | some q =>
    obtain ⟨q0, q1⟩ := zp_bound hz
    obtain ⟨x, c, hx, HI0⟩ := HI q q0 q1
    rw [coreC_fin (a := q) hok (.inr (by rw [hday])) (by rw [hzw]; exact hz), hx]
    rw [hz] at HZ
    exact way_told_some s ab cb hb _ w ⟨z.toArray⟩ Y M D H I S HC HS HW hok ⟨(wnm (st Y M D H I S)).toArray⟩ HN dn d1 d2 q HZ x c HI0

set_option maxHeartbeats 2000000 in
theorem plain_822 (s ab cb : ByteArray) (hb : (s.size : Int) ≤ 65536) (a V0 : List UInt8) (w : World)
    (HC : Hid (Calls Tryz.prog 30 #[.string s, .string ⟨#[44, 32]⟩] w fun e w' => e = .returned (.tuple #[.string ab, .string cb, .bool false]) ∧ Drawn w w'))
    (hab : ab.data.toList = a) (hrb : s.data.toList = V0) (hV0 : V0.length ≤ 65536) (HT : ∀ w', Below w.heap.size w w' → td.TN w' ∧ td.TW w')
    (HS : Hid (∀ w', Below w.heap.size w w' → Calls Tryz.prog 120 #[.string s, .string ⟨#[32]⟩] w' fun e w'' => ∃ v, e = .returned v ∧ Below w'.heap.size w' w'' ∧ WordsAt (wds [] V0) v w'')) :
    Calls Tryz.prog 68 #[.string s] w fun e w' => e = .returned (coreI none (wds [] V0)) ∧ Below w.heap.size w w' := by
  have hV : ∀ u ∈ wds [] V0, u.length ≤ 65536 := fun u hu => by have := wds_len V0 [] u hu; simp at this; omega
  by_cases hbad : (wds [] V0).length ≠ 5 ∨ ∃ d mo y c z, wds [] V0 = [d, mo, y, c, z] ∧ formI d y c = false
  · have e : coreI none (wds [] V0) = bad := by
      rcases hbad with h | ⟨d, mo, y, c, z, e, h⟩
      · exact coreI_len h
      · rw [e]; exact coreI_form h
    rw [e]
    have hn : (wds [] V0).length ≤ 1048576 := by
      have e := split_words ⟨V0.toArray⟩
      rw [show (⟨V0.toArray⟩ : ByteArray).data.toList = V0 from by simp] at e
      rw [← e, List.length_map]
      have h1 := Lib.splitB_length_le ⟨#[32]⟩ 0 (Lib.countB ⟨V0.toArray⟩ ⟨#[32]⟩) ⟨V0.toArray⟩
      have h2 := Lib.countB_le ⟨#[32]⟩ (by decide) _ ⟨V0.toArray⟩ (Nat.le_refl _)
      have h3 : (⟨V0.toArray⟩ : ByteArray).size = V0.length := by simp [ByteArray.size]
      omega
    exact way_plain_noW s ab cb hb (WordsAt (wds [] V0)) w HC HS (fun w' v hb' hq => words_bad _ hV hn w' v hq hbad)
  have h5 : (wds [] V0).length = 5 := Classical.byContradiction fun h => hbad (.inl h)
  obtain ⟨d, mo, y, c, z, eV⟩ : ∃ d mo y c z, wds [] V0 = [d, mo, y, c, z] := by
    match hv : wds [] V0, h5 with
    | [d, mo, y, c, z], _ => exact ⟨d, mo, y, c, z, rfl⟩
  have hf0 : formI d y c = true := by
    cases q : formI d y c
    · exact absurd (.inr ⟨d, mo, y, c, z, eV, q⟩) hbad
    · rfl
  have hzl : z.length ≤ 65536 := hV z (by rw [eV]; simp)
  rw [eV] at HS ⊢
  rw [coreI_yes hf0]
  have HW : Hid (∀ w' v, Below w.heap.size w w' → WordsAt [d, mo, y, c, z] v w' → Calls Tryz.prog 119 #[v] w' fun e w'' => e = .returned (.tuple #[C6 (num y) (mon mo) (num d) (num (g c 0 2)) (num (g c 3 2)) (num (g c 6 2)), .string ⟨z.toArray⟩, .bool true]) ∧ Below w'.heap.size w' w'') := fun w' v hb' hq => words_fine w' v d mo y c z hq (HT w' hb').1 hf0
  generalize num y = Y at HW ⊢
  generalize mon mo = M at HW ⊢
  generalize num d = D at HW ⊢
  generalize num (g c 0 2) = H at HW ⊢
  generalize num (g c 3 2) = I at HW ⊢
  generalize num (g c 6 2) = S at HW ⊢
  by_cases hok : Ok Y M D H I S
  rotate_left
  · rw [coreC_no hok]
    exact way_plain_notOk s ab cb hb _ w ⟨z.toArray⟩ Y M D H I S HC HS HW hok
  have HI : ∀ q : Int, -90000 ≤ q → q ≤ 90000 → ∃ x c : Int, fin Y M D H I S q = .tuple #[.int .i64 x, .int .i64 c] ∧ Hid (∀ w, Calls Tryz.prog 124 #[C6 Y M D H I S, .int .i64 q] w fun e w' => e = .returned (.tuple #[.int .i64 x, .int .i64 c]) ∧ Below w.heap.size w w') := fun q q0 q1 => by
    obtain ⟨x, c, hx⟩ := fin_form Y M D H I S q
    refine ⟨x, c, hx, fun w => ?_⟩
    rw [← hx]
    exact in_stamp Y M D H I S q hok q0 q1 w
  by_cases z1 : z = [71, 77, 84]
  · obtain ⟨x, c, hx, HI0⟩ := HI 0 (by decide) (by decide)
    rw [coreC_fin (a := 0) hok (.inl rfl) (by rw [zw, if_pos (.inl z1)]), hx]
    exact way_plain_GMT s ab cb hb _ w ⟨z.toArray⟩ Y M D H I S HC HS HW hok (by rw [Lib.toList_data]; exact beq_iff_eq.2 (by simpa using z1)) x c HI0
  have d1 : ((⟨z.toArray⟩ : ByteArray).toList == [71, 77, 84]) = false := by rw [Lib.toList_data]; exact beq_eq_false_iff_ne.2 (by simpa using z1)
  by_cases z2 : z = [85, 84]
  · obtain ⟨x, c, hx, HI0⟩ := HI 0 (by decide) (by decide)
    rw [coreC_fin (a := 0) hok (.inl rfl) (by rw [zw, if_pos (.inr z2)]), hx]
    exact way_plain_UT s ab cb hb _ w ⟨z.toArray⟩ Y M D H I S HC HS HW hok d1 (by rw [Lib.toList_data]; exact beq_iff_eq.2 (by simpa using z2)) x c HI0
  have d2 : ((⟨z.toArray⟩ : ByteArray).toList == [85, 84]) = false := by rw [Lib.toList_data]; exact beq_eq_false_iff_ne.2 (by simpa using z2)
  have hzw : zw z = zp z := by rw [zw, if_neg (by rintro (h | h) <;> contradiction)]
  have HZ : ∀ w, Calls Tryz.prog 123 #[.string ⟨z.toArray⟩, .string ⟨#[48, 48, 48, 48]⟩] w fun e w' => e = .returned (zr (zp z)) ∧ Drawn w w' := fun w => by
    have := sec_any ⟨z.toArray⟩ ⟨#[48, 48, 48, 48]⟩ hzl (.inr rfl) w
    rw [show (⟨#[48, 48, 48, 48]⟩ : ByteArray).data.toList = F4 from rfl, show (⟨z.toArray⟩ : ByteArray).data.toList = z from by simp, zi_plain] at this
    exact this
  cases hz : zp z with
  | none =>
    rw [coreC_zone (by rw [hzw]; exact hz)]
    rw [hz] at HZ
    exact way_plain_none s ab cb hb _ w ⟨z.toArray⟩ Y M D H I S HC HS HW hok d1 d2 HZ
  | some q =>
    obtain ⟨q0, q1⟩ := zp_bound hz
    obtain ⟨x, c, hx, HI0⟩ := HI q q0 q1
    rw [coreC_fin (a := q) hok (.inl rfl) (by rw [hzw]; exact hz), hx]
    rw [hz] at HZ
    exact way_plain_some s ab cb hb _ w ⟨z.toArray⟩ Y M D H I S HC HS HW hok d1 d2 q HZ x c HI0

set_option maxHeartbeats 2000000 in
theorem impl_822 (s : ByteArray) (hs : s.size ≤ 1048576) (w : World) (mx : Int) (hm : w.cell? ⟨4, 0, none⟩ = some (.int .i64 mx)) (hT : td.TN w) (hTW : td.TW w) :
    Calls Tryz.prog 68 #[.string s] w fun e w' => e = .returned (r8 s.data.toList) ∧ Below w.heap.size w w' := by
  by_cases hbig : 65536 < s.size
  · have hb : (65536 : Int) < (s.size : Int) := by omega
    rw [show r8 s.data.toList = .tuple #[.int .i64 0, .int .i64 2] from if_pos hbig]
    go_enter Tryz.func68, Tryz.ntmps68
    go_wp2
    go_ret2
    exact ⟨rfl, Below.refl _ _⟩
  rw [show r8 s.data.toList = implR s.data.toList from if_neg hbig]
  have hb : (s.size : Int) ≤ 65536 := by omega
  have hgl := World.block_lt_of_cell? _ _ hm
  have hmm : ∀ w', Below w.heap.size w w' → w'.cell? ⟨4, 0, none⟩ = some (.int .i64 mx) := fun w' hb' => (hb'.cell (p := ⟨4, 0, none⟩) hgl).trans hm
  have HT : ∀ w', Below w.heap.size w w' → td.TN w' ∧ td.TW w' := fun w' hb' => ⟨td.keepS hT hb', td.keepS hTW hb'⟩
  have HC := Tryz.strings_Cut s ⟨#[44, 32]⟩ mx w (by omega) hm
  rw [show (⟨#[44, 32]⟩ : ByteArray).data.toList = [44, 32] from rfl] at HC
  rcases index_comma s.data.toList with h1 | ⟨a, b, e, h1⟩
  · rw [implR_none h1]
    rw [cut_none h1] at HC
    exact plain_822 s ⟨s.data.toList.toArray⟩ ⟨([] : List UInt8).toArray⟩ hb _ s.data.toList w HC rfl rfl (by rw [len_eq]; omega) HT (fun w' hb' => split_any s (by omega) w' mx (hmm w' hb'))
  · rw [implR_some e h1]
    rw [cut_some e h1] at HC
    have hlb : b.length ≤ 65536 := by
      have := congrArg List.length e
      rw [len_eq] at this
      simp at this
      omega
    exact told_822 s ⟨a.toArray⟩ ⟨b.toArray⟩ hb a b w HC (by simp) (by simp) hlb HT (fun w' hb' => by
      have := split_any ⟨b.toArray⟩ (by simpa [ByteArray.size] using hlb) w' mx (hmm w' hb')
      rw [show (⟨b.toArray⟩ : ByteArray).data.toList = b from by simp] at this
      exact this)
end Go.Proofs.YtadfdfmebdcfgaaGreatDoor.rd

namespace Go.Proofs.YtadfdfmebdcfgaaGreatDoor.rq
set_option linter.unusedVariables false

/-- How many have not come up yet. -/
def left (l : Array Bool) : Nat := l.toList.countP (fun b => !b)
theorem count_set : ∀ (l : List Bool) (i : Nat), l[i]? = some false → (l.set i true).countP (fun b => !b) + 1 = l.countP (fun b => !b)
  | [], i, h => by simp at h
  | b :: l, 0, h => by
    have hb : b = false := by simpa using h
    subst hb
    simp
  | b :: l, i + 1, h => by
    have ih := count_set l i (by simpa using h)
    rw [List.set_cons_succ, List.countP_cons, List.countP_cons]
    omega
theorem get_false {l : Array Bool} {i : Nat} (h : l.getD i true = false) : l.toList[i]? = some false := by
  cases hl : l[i]? with
  | none => simp [hl] at h
  | some b =>
    simp [hl] at h
    subst h
    simpa using hl
theorem left_set {l : Array Bool} {i : Nat} (h : l.getD i true = false) : left (l.setIfInBounds i true) + 1 = left l := by
  unfold left
  rw [Array.toList_setIfInBounds]
  exact count_set _ _ (get_false h)
theorem left_zero {l : Array Bool} (h : left l = 0) (i : Nat) : l.getD i true = true := by
  cases hg : l.getD i true with
  | true => rfl
  | false =>
    have := left_set hg
    omega

section
variable {P : Program} {ops : Array Oper} {Q : Exit → Act → World → Prop}
theorem inv {md : Region.Mode} (I : Array Bool → Act → World → Prop)
    (hstep : ∀ listed a w i, I listed a w → i ∈ Region.ready md ops listed → wpOp P ops Q i (fun a' w' => I (listed.setIfInBounds i true) a' w') a w)
    (hend : ∀ listed a w, I listed a w → Region.ready md ops listed = [] → Q .normal a w) :
    ∀ (fuel : Nat) (listed : Array Bool) (a : Act) (w : World), left listed ≤ fuel → I listed a w → wpAny P md ops Q fuel listed a w
  | 0, listed, a, w, hl, h => by
    have hr : Region.ready md ops listed = [] := by
      rw [List.eq_nil_iff_forall_not_mem]
      intro i hi
      have := (mem_ready.1 hi).1
      rw [left_zero (by omega) i] at this
      cases this
    exact ⟨hr, hend listed a w h hr⟩
  | fuel + 1, listed, a, w, hl, h => by
    refine ⟨fun hr => hend listed a w h hr, fun i hi => ?_⟩
    have h1 := left_set (mem_ready.1 hi).1
    exact wpOp_mono (fun a' w' h' => inv I hstep hend fuel _ a' w' (by omega) h') (hstep listed a w i h hi)

def upd (f : Nat → Value) (i : Nat) (v : Value) : Nat → Value := fun j => if j = i then v else f j
theorem upd_same (f : Nat → Value) (i : Nat) (v : Value) : upd f i v i = v := by simp [upd]
theorem upd_other (f : Nat → Value) (i : Nat) (v : Value) {j : Nat} (h : j ≠ i) : upd f i v j = f j := by simp [upd, h]
theorem getD_set {l : Array Bool} {i j : Nat} (h : (l.setIfInBounds i true).getD j false = true) : j = i ∨ l.getD j false = true := by
  by_cases e : j = i
  · exact .inl e
  · right
    simpa [Array.getElem?_setIfInBounds_ne (Ne.symm e)] using h
theorem all_listed {md : Region.Mode} {listed : Array Bool} (hs : listed.size = ops.size) (hdeps : ∀ (i : Nat) (o : Oper), ops[i]? = some o → ∀ e ∈ o.after, Region.binds md e = true → e.on < i) (hr : Region.ready md ops listed = []) : ∀ (k i : Nat), i < k → i < ops.size → listed.getD i false = true
  | 0, i, h, _ => by omega
  | k + 1, i, h, hi => by
    by_cases hk : i < k
    · exact all_listed hs hdeps hr k i hk hi
    · have hik : i = k := by omega
      subst hik
      cases hg : listed.getD i true with
      | true =>
        have hlt : i < listed.size := by omega
        simp [Array.getElem?_eq_getElem hlt] at hg ⊢
        exact hg
      | false =>
        exfalso
        have ho : ops[i]? = some ops[i] := Array.getElem?_eq_getElem hi
        have : i ∈ Region.ready md ops listed := mem_ready.2 ⟨hg, _, ho, fun e he hb => all_listed hs hdeps hr i e.on (hdeps i _ ho e he hb) (Nat.lt_trans (hdeps i _ ho e he hb) hi)⟩
        rw [hr] at this
        cases this
/-- As region_rel, and what has not come up yet is as it was. -/
theorem region_rel2 {id : Nat} {a : Act} {w : World} (hm : P.follows .mixedOrders = true) (act : (Nat → Value) → Act) (C : World → Prop) (R : Nat → (Nat → Value) → World → Prop) (v0 : Nat → Value)
    (ha : a = act v0) (hC : C w.drew) (hdeps : ∀ (i : Nat) (o : Oper), ops[i]? = some o → ∀ e ∈ o.after, Region.binds .any e = true → e.on < i)
    (hop : ∀ (i : Nat) (o : Oper), ops[i]? = some o → ∀ (D : Nat → Prop) (vals : Nat → Value) (w : World), C w → (∀ j, D j → R j vals w) → (∀ e ∈ o.after, Region.binds .any e = true → D e.on) → ¬ D i → (∀ (j : Nat) (oj : Oper), D j → ops[j]? = some oj → ∀ e ∈ oj.after, Region.binds .any e = true → D e.on) → (∀ j, ¬ D j → vals j = v0 j) →
      wpOp P ops Q i (fun a' w' => ∃ v, a' = act (upd vals i v) ∧ C w' ∧ R i (upd vals i v) w' ∧ ∀ j, j ≠ i → D j → R j (upd vals i v) w') (act vals) w)
    (hend : ∀ (vals : Nat → Value) (w : World), C w → (∀ i, i < ops.size → R i vals w) → Q .normal (act vals) w) :
    (Code.region id ops true).wp P Q a w := by
  refine wp_region_any hm ?_
  refine inv (fun listed a w => listed.size = ops.size ∧ (∀ (j : Nat) (oj : Oper), listed.getD j false = true → ops[j]? = some oj → ∀ e ∈ oj.after, Region.binds .any e = true → listed.getD e.on false = true) ∧ ∃ vals, a = act vals ∧ C w ∧ (∀ j, listed.getD j false = true → R j vals w) ∧ ∀ j, ¬ listed.getD j false = true → vals j = v0 j) ?_ ?_ _ _ _ _ ?_ ?_
  · rintro listed a w i ⟨hs, hcl, vals, rfl, hc, hR, hV⟩ hi
    obtain ⟨hg, o, ho, hall⟩ := mem_ready.1 hi
    have hni : ¬ listed.getD i false = true := by
      have h1 := get_false hg
      have h2 : listed[i]? = some false := by simpa using h1
      simp [h2]
    refine wpOp_mono ?_ (hop i o ho (fun j => listed.getD j false = true) vals w hc hR hall hni hcl hV)
    rintro a' w' ⟨v, rfl, hc', hi', hj'⟩
    have hup : ∀ k, listed.getD k false = true → (listed.setIfInBounds i true).getD k false = true := fun k hk => by
      by_cases e : k = i
      · subst e; exact absurd hk hni
      · simpa [Array.getElem?_setIfInBounds_ne (Ne.symm e)] using hk
    have hlt : i < listed.size := by
      have h1 := get_false hg
      have h2 : listed[i]? = some false := by simpa using h1
      exact (Array.getElem?_eq_some_iff.1 h2).1
    refine ⟨by rw [Array.size_setIfInBounds]; exact hs, fun j oj hj hoj e he hb => ?_, _, rfl, hc', fun j hj => ?_, fun j hj => ?_⟩
    · rcases getD_set hj with h | h
      · subst h
        rw [ho] at hoj
        cases hoj
        exact hup _ (hall e he hb)
      · exact hup _ (hcl j oj h hoj e he hb)
    · by_cases e : j = i
      · subst e; exact hi'
      · rcases getD_set hj with h | h
        · exact absurd h e
        · exact hj' j e h
    · by_cases e : j = i
      · subst e
        exact absurd (by simp [Array.getElem?_setIfInBounds_self_of_lt hlt]) hj
      · rw [upd_other vals i v e]
        exact hV j (fun h => hj (hup j h))
  · rintro listed a w ⟨hs, _, vals, rfl, hc, hR, _⟩ hr
    exact hend vals w hc (fun i hi => hR i (all_listed hs hdeps hr (i + 1) i (Nat.lt_succ_self i) hi))
  · unfold left
    refine Nat.le_trans List.countP_le_length ?_
    simp
  · have hno : ∀ j, ¬ (Array.replicate ops.size false).getD j false = true := fun j hj => by
      by_cases hj2 : j < ops.size
      · simp [hj2] at hj
      · simp [hj2] at hj
    exact ⟨by simp, fun j _ hj => absurd hj (hno j), v0, ha, hC, fun j hj => absurd hj (hno j), fun _ _ => rfl⟩
theorem deps_of (h : (ops.toList.zipIdx.all fun x => x.1.after.all fun e => !Region.binds .any e || decide (e.on < x.2)) = true) : ∀ (i : Nat) (o : Oper), ops[i]? = some o → ∀ e ∈ o.after, Region.binds .any e = true → e.on < i := by
  intro i o ho e he hbd
  have h1 : (o, i) ∈ ops.toList.zipIdx := by
    rw [List.mk_mem_zipIdx_iff_getElem?]
    simpa using ho
  have h2 := List.all_eq_true.1 h _ h1
  have h3 := Array.all_eq_true_iff_forall_mem.1 h2 e he
  rw [hbd] at h3
  simpa using h3
end
end Go.Proofs.YtadfdfmebdcfgaaGreatDoor.rq
