/-
  Contracts of both FeedOK functions: whether a feed is right.
-/
import Derived.Test.YtbgoejalbhkmeaaDoorEne
namespace Go.Proofs.YtbgoejalbhkmeaaDoor.en
open Go.RowKit
set_option linter.unusedVariables false

/-- Whether a feed is right. -/
def fok (t : ByteArray) (es : List En) : Bool := fld t && decide (es.length ≤ 20) && es.all eok
def Right (es : List En) (k : Nat) : Prop := ∀ j, j < k → eok (es.getD j noE) = true
theorem get_mem {es : List En} {j : Nat} (h : j < es.length) : es.getD j noE ∈ es := by rw [List.getD_eq_getElem?_getD, List.getElem?_eq_getElem h]; exact List.getElem_mem h
theorem fok_title {t : ByteArray} {es : List En} (h : fld t = false) : fok t es = false := by simp [fok, h]
theorem fok_many {t : ByteArray} {es : List En} (h : 20 < es.length) : fok t es = false := by
  have : decide (es.length ≤ 20) = false := decide_eq_false (by omega)
  simp only [fok, this, Bool.and_false, Bool.false_and]
theorem fok_bad {t : ByteArray} {es : List En} {j : Nat} (hj : j < es.length) (h : eok (es.getD j noE) = false) : fok t es = false := by
  have : es.all eok = false := by
    rw [List.all_eq_false]
    exact ⟨_, get_mem hj, by rw [h]; simp⟩
  simp only [fok, this, Bool.and_false]
theorem fok_yes {t : ByteArray} {es : List En} (ht : fld t = true) (hn : es.length ≤ 20) (h : Right es es.length) : fok t es = true := by
  have h1 : es.all eok = true := by
    rw [List.all_eq_true]
    intro x hx
    obtain ⟨j, hj, rfl⟩ := List.mem_iff_getElem.1 hx
    have := h j hj
    rwa [List.getD_eq_getElem?_getD, List.getElem?_eq_getElem hj] at this
  have h2 : decide (es.length ≤ 20) = true := decide_eq_true hn
  simp only [fok, h1, h2, ht, Bool.and_true]

theorem ents_in {w : World} {a : Option Addr} {n cap : Nat} {es : List En} (h : EntsAt w (.slice a n cap) es) : es = [] ∨ ∃ b off, a = some ⟨b, off, none⟩ ∧ ∀ j, j < es.length → At6 w b (off + j * 6) (es.getD j noE) := by
  obtain ⟨a', cap', hv, hh⟩ := h
  simp only [Value.slice.injEq] at hv
  obtain ⟨rfl, _, _⟩ := hv
  exact hh

set_option maxHeartbeats 2000000 in
set_option maxRecDepth 100000 in
theorem impl_fok (f : Bool) (t : ByteArray) (v : Value) (es : List En) (w : World) (h : EntsAt w v es) (hsm : Smalls es) (ht : t.size ≤ 1048576) :
    Calls Tryd.prog 13 #[FV f t v] w fun e w' => e = .returned (.bool (fok t es)) ∧ Below w.heap.size w w' := by
  unfold FV
  have hn := hsm.1
  have HSM : Hid (Smalls es) := hsm
  clear hsm
  have hbw : Below w.heap.size w (w.alloc (.cells #[.bool f, .string t, v] 30)) := (Below.refl _ _).alloc (Nat.le_refl _) _
  have K := liesF_new w 30 f t v
  have HB : Hid (EntsAt (w.alloc (.cells #[.bool f, .string t, v] 30)) v es) := ents_below h hbw
  obtain ⟨a, cap, rfl, _⟩ := h
  obtain ⟨n, hn'⟩ : ∃ n, n = es.length := ⟨_, rfl⟩
  have HN : Hid (n = es.length) := hn'
  rw [← hn'] at hn K hbw HB ⊢
  clear hn'
  go_enter Tryd.func13, Tryd.ntmps13
  go_wp2_with fail
  generalize w.alloc _ = W at K hbw HB ⊢
  refine (impl_fld t W ht).mono ?_
  rintro e w1 ⟨rfl, hb1⟩
  have K1 := K.keep hb1
  have b1 := hbw.trans (hb1.mono hbw.size)
  have HE : Hid (EntsAt w1 (.slice a n cap) es) := ents_below HB.out hb1
  clear K hbw hb1 HB
  have c2 := K1.c2
  cases ft : fld t
  · have HR : Hid (fok t es = false) := fok_title ft
    clear ft
    go_wp2
    go_ret
    exact ⟨by rw [HR.out]; rfl, b1⟩
  have FT : Hid (fld t = true) := ft
  clear ft
  by_cases hbig : 20 < n
  · have hbig' : (20 : Int) < (n : Int) := by omega
    have HR : Hid (fok t es = false) := fok_many (by rw [← HN.out]; exact hbig)
    go_wp2
    go_ret
    exact ⟨by rw [HR.out]; rfl, b1⟩
  have hsmall : (n : Int) ≤ 20 := by omega
  have HH : Hid (es = [] ∨ ∃ b off, a = some ⟨b, off, none⟩ ∧ ∀ j, j < es.length → At6 w1 b (off + j * 6) (es.getD j noE)) := ents_in HE.out
  clear HE
  go_wp2
  go_loopw [18] (fun i wr => ∃ k : Nat, k ≤ n ∧ i = .int .i64 k ∧ Right es k ∧ Below w1.heap.size w1 wr) (fun i _ => n - (intOf i).toNat)
  case atStart => exact ⟨0, Nat.zero_le _, rfl, fun j hj => absurd hj (Nat.not_lt_zero _), Below.refl _ _⟩
  case round =>
    clear c2
    obtain ⟨k, hk, rfl, hg, hbr⟩ := hrel
    have HG : Hid (Right es k) := hg
    have c2 := (K1.keep hbr).c2
    clear hg
    by_cases hlt : k < n
    · have hka : k < es.length := by rw [← HN.out]; exact hlt
      rcases HH.out with e | ⟨b, off, rfl, hcells⟩
      · rw [e] at hka; simp at hka
      have hat := (hcells k hka).keep hbr (hcells k hka).lt
      have hse := HSM.out.2 k hka
      have HJ : Hid (k < es.length) := hka
      clear hcells hka
      generalize hx : es.getD k noE = x at hat hse
      have HX : Hid (es.getD k noE = x) := hx
      have HC : Hid (∀ w, Calls Tryd.prog 27 #[.agg #[.string x.i, .string x.t, .string x.l, .string x.a, .int .i64 x.d, .string x.c]] w fun r w' => r = .returned (.bool (eok x)) ∧ Below w.heap.size w w') := fun w => impl_eok x w hse
      obtain ⟨c30, c31, c32, c33, c34, c35⟩ := hat
      clear hx hse
      have hlt' : (k : Int) < (n : Int) := by omega
      have hk0 : (0 : Int) ≤ (k : Int) := by omega
      go_wp2_with fail
      have hbx : Below w1.heap.size w1 (wr.alloc (.cells #[.string x.i, .string x.t, .string x.l, .string x.a, .int .i64 x.d, .string x.c] 40)) := hbr.alloc hbr.size _
      refine (HC.out _).mono ?_
      rintro e w2 ⟨rfl, hb2⟩
      have hb3 := hbx.trans (hb2.mono hbx.size)
      clear hb2 hbx HC c30 c31 c32 c33 c34 c35 c2
      cases hok : eok x
      · have HR : Hid (fok t es = false) := fok_bad HJ.out (by rw [HX.out]; exact hok)
        clear hok
        go_wp2
        go_ret
        exact ⟨by rw [HR.out]; rfl, b1.trans (hb3.mono b1.size)⟩
      · have HO : Hid (eok x = true) := hok
        clear hok
        go_wp2
        go_roundw
        case rel => exact ⟨k + 1, by omega, by go_num, fun j hj => by by_cases hjk : j = k; subst hjk; rw [HX.out]; exact HO.out; exact HG.out j (by omega), hb3⟩
        case measure => simp [intOf]; omega
    · have HR : Hid (fok t es = true) := fok_yes FT.out (by have := HN.out; omega) (fun j hj => HG.out j (by have := HN.out; omega))
      go_wp2
      go_ret
      exact ⟨by rw [HR.out]; rfl, b1.trans (hbr.mono b1.size)⟩

set_option maxHeartbeats 2000000 in
set_option maxRecDepth 100000 in
theorem spec_fok (f : Bool) (t : ByteArray) (v : Value) (es : List En) (w : World) (h : EntsAt w v es) (hsm : Smalls es) (ht : t.size ≤ 1048576) :
    Calls Tryd.prog 10 #[FV f t v] w fun e w' => e = .returned (.bool (fok t es)) ∧ Below w.heap.size w w' := by
  unfold FV
  have hn := hsm.1
  have HSM : Hid (Smalls es) := hsm
  clear hsm
  have hbw : Below w.heap.size w (w.alloc (.cells #[.bool f, .string t, v] 30)) := (Below.refl _ _).alloc (Nat.le_refl _) _
  have K := liesF_new w 30 f t v
  have HB : Hid (EntsAt (w.alloc (.cells #[.bool f, .string t, v] 30)) v es) := ents_below h hbw
  obtain ⟨a, cap, rfl, _⟩ := h
  obtain ⟨n, hn'⟩ : ∃ n, n = es.length := ⟨_, rfl⟩
  have HN : Hid (n = es.length) := hn'
  rw [← hn'] at hn K hbw HB ⊢
  clear hn'
  go_enter Tryd.func10, Tryd.ntmps10
  go_wp2_with fail
  generalize w.alloc _ = W at K hbw HB ⊢
  refine (spec_fld t W ht).mono ?_
  rintro e w1 ⟨rfl, hb1⟩
  have K1 := K.keep hb1
  have b1 := hbw.trans (hb1.mono hbw.size)
  have HE : Hid (EntsAt w1 (.slice a n cap) es) := ents_below HB.out hb1
  clear K hbw hb1 HB
  have c2 := K1.c2
  cases ft : fld t
  · have HR : Hid (fok t es = false) := fok_title ft
    clear ft
    go_wp2
    go_ret
    exact ⟨by rw [HR.out]; rfl, b1⟩
  have FT : Hid (fld t = true) := ft
  clear ft
  by_cases hbig : 20 < n
  · have hbig' : (20 : Int) < (n : Int) := by omega
    have HR : Hid (fok t es = false) := fok_many (by rw [← HN.out]; exact hbig)
    go_wp2
    go_ret
    exact ⟨by rw [HR.out]; rfl, b1⟩
  have hsmall : (n : Int) ≤ 20 := by omega
  have HH : Hid (es = [] ∨ ∃ b off, a = some ⟨b, off, none⟩ ∧ ∀ j, j < es.length → At6 w1 b (off + j * 6) (es.getD j noE)) := ents_in HE.out
  clear HE
  go_wp2
  go_loopw [3] (fun i wr => ∃ k : Nat, k ≤ n ∧ i = .int .i64 k ∧ Right es k ∧ Below w1.heap.size w1 wr) (fun i _ => n - (intOf i).toNat)
  case atStart => exact ⟨0, Nat.zero_le _, rfl, fun j hj => absurd hj (Nat.not_lt_zero _), Below.refl _ _⟩
  case round =>
    clear c2
    obtain ⟨k, hk, rfl, hg, hbr⟩ := hrel
    have HG : Hid (Right es k) := hg
    have c2 := (K1.keep hbr).c2
    clear hg
    by_cases hlt : k < n
    · have hka : k < es.length := by rw [← HN.out]; exact hlt
      rcases HH.out with e | ⟨b, off, rfl, hcells⟩
      · rw [e] at hka; simp at hka
      have hat := (hcells k hka).keep hbr (hcells k hka).lt
      have hse := HSM.out.2 k hka
      have HJ : Hid (k < es.length) := hka
      clear hcells hka
      generalize hx : es.getD k noE = x at hat hse
      have HX : Hid (es.getD k noE = x) := hx
      have HC : Hid (∀ w, Calls Tryd.prog 21 #[.agg #[.string x.i, .string x.t, .string x.l, .string x.a, .int .i64 x.d, .string x.c]] w fun r w' => r = .returned (.bool (eok x)) ∧ Below w.heap.size w w') := fun w => spec_eok x w hse
      obtain ⟨c30, c31, c32, c33, c34, c35⟩ := hat
      clear hx hse
      have hlt' : (k : Int) < (n : Int) := by omega
      have hk0 : (0 : Int) ≤ (k : Int) := by omega
      go_wp2_with fail
      have hbx := hbr
      refine (HC.out _).mono ?_
      rintro e w2 ⟨rfl, hb2⟩
      have hb3 := hbx.trans (hb2.mono hbx.size)
      clear hb2 hbx HC c30 c31 c32 c33 c34 c35 c2
      cases hok : eok x
      · have HR : Hid (fok t es = false) := fok_bad HJ.out (by rw [HX.out]; exact hok)
        clear hok
        go_wp2
        go_ret
        exact ⟨by rw [HR.out]; rfl, b1.trans (hb3.mono b1.size)⟩
      · have HO : Hid (eok x = true) := hok
        clear hok
        go_wp2
        go_roundw
        case rel => exact ⟨k + 1, by omega, by go_num, fun j hj => by by_cases hjk : j = k; subst hjk; rw [HX.out]; exact HO.out; exact HG.out j (by omega), hb3⟩
        case measure => simp [intOf]; omega
    · have HR : Hid (fok t es = true) := fok_yes FT.out (by have := HN.out; omega) (fun j hj => HG.out j (by have := HN.out; omega))
      go_wp2
      go_ret
      exact ⟨by rw [HR.out]; rfl, b1.trans (hbr.mono b1.size)⟩

end Go.Proofs.YtbgoejalbhkmeaaDoor.en
