/-
  Contracts of both FeedKeys functions: the Ids of a feed, each once.
-/
import Derived.Test.YtabhnbcledicgaaEnf
import Derived.Test.YtabhnbcledicgaaKya
namespace Go.Proofs.Ytabhnbcledicgaa.ky
open Go.RowKit
open en
set_option linter.unusedVariables false

/-- A key more, if it is not there. -/
def addK (ks : List ByteArray) (s : ByteArray) : List ByteArray := if has ks s then ks else ks ++ [s]
def keysTo (es : List En) (k : Nat) : List ByteArray := ((es.take k).map En.i).foldl addK []
theorem take_getD (es : List En) (k : Nat) (h : k < es.length) : es.take (k + 1) = es.take k ++ [es.getD k noE] := by
  rw [List.take_add_one, List.getElem?_eq_getElem h]
  simp [List.getD_eq_getElem?_getD, h]
theorem keys_step (es : List En) (k : Nat) (h : k < es.length) : keysTo es (k + 1) = addK (keysTo es k) (es.getD k noE).i := by
  unfold keysTo
  rw [take_getD es k h]
  simp
theorem addK_yes {ks : List ByteArray} {s : ByteArray} (h : has ks s = true) : addK ks s = ks := by simp [addK, h]
theorem addK_no {ks : List ByteArray} {s : ByteArray} (h : has ks s = false) : addK ks s = ks ++ [s] := by simp [addK, h]
theorem addK_len (ks : List ByteArray) (s : ByteArray) : (addK ks s).length ≤ ks.length + 1 := by
  unfold addK; split <;> simp
theorem keys_len (es : List En) : ∀ k, (keysTo es k).length ≤ k := by
  intro k
  induction k with
  | zero => simp [keysTo]
  | succ k ih =>
    by_cases h : k < es.length
    · rw [keys_step es k h]
      have := addK_len (keysTo es k) (es.getD k noE).i
      omega
    · unfold keysTo at ih ⊢
      rw [List.take_of_length_le (by omega)] at ih ⊢
      omega
/-- What a call of FeedKeys answers. -/
def keysOut (t : ByteArray) (es : List En) : List ByteArray × Int := if fok t es then (keysTo es es.length, 0) else ([], 1)
theorem out_no {t : ByteArray} {es : List En} (h : fok t es = false) : keysOut t es = ([], 1) := by simp [keysOut, h]
theorem out_yes {t : ByteArray} {es : List En} (h : fok t es = true) : keysOut t es = (keysTo es es.length, 0) := by simp [keysOut, h]
theorem fok_len {t : ByteArray} {es : List En} (h : fok t es = true) : es.length ≤ 20 := by
  simp only [fok, Bool.and_eq_true, decide_eq_true_eq] at h
  exact h.1.2
theorem out_len (t : ByteArray) (es : List En) : (keysOut t es).1.length ≤ 20 := by
  cases h : fok t es
  · rw [out_no h]; simp
  · rw [out_yes h]
    have := keys_len es es.length
    have := fok_len h
    simp only
    omega
theorem infoT : (Try.prog.info? 9).map (fun i => (i.zero, i.size, i.bytes)) = some (some (.string ⟨#[]⟩), 1, 16) := by kernel_rfl
theorem clone_any (s : ByteArray) (w : World) (h : s.size ≤ 1048576) : Calls Try.prog 38 #[.string s] w fun e w' => e = .returned (.string s) ∧ Below w.heap.size w w' := by
  go_enter Try.func38, Try.ntmps38
  go_wp2_with fail
  refine (Try.stringslite_Clone s _ (by omega)).mono ?_
  rintro e w' ⟨rfl, hb⟩
  go_wp2
  go_ret
  exact ⟨rfl, hb⟩

set_option maxHeartbeats 2000000 in
set_option maxRecDepth 100000 in
theorem impl_keys (f : Bool) (t : ByteArray) (v : Value) (es : List En) (w : World) (h : EntsAt w v es) (hsm : Smalls es) (ht : t.size ≤ 1048576) :
    Calls Try.prog 17 #[FV f t v] w fun e w' => (∃ r, e = .returned (.tuple #[r, .int .i64 (keysOut t es).2]) ∧ OwnT w' w.heap.size r (keysOut t es).1) ∧ Below w.heap.size w w' := by
  unfold FV
  obtain ⟨i0, hi, hz0, hz1, hz2⟩ := info_parts infoT
  have hn := hsm.1
  have HSM : Hid (Smalls es) := hsm
  clear hsm
  have hbw : Below w.heap.size w (w.alloc (.cells #[.bool f, .string t, v] 36)) := (Below.refl _ _).alloc (Nat.le_refl _) _
  have K := liesF_new w 36 f t v
  have HB : Hid (EntsAt (w.alloc (.cells #[.bool f, .string t, v] 36)) v es) := ents_below h hbw
  obtain ⟨a, cap, rfl, _⟩ := h
  obtain ⟨n, hn'⟩ : ∃ n, n = es.length := ⟨_, rfl⟩
  have HN : Hid (n = es.length) := hn'
  rw [← hn'] at hn K hbw HB ⊢
  clear hn'
  go_enter Try.func17, Try.ntmps17
  go_wp2_with fail
  generalize w.alloc _ = W at K hbw HB ⊢
  refine (impl_fok f t _ es W HB.out HSM.out ht).mono ?_
  rintro e w1 ⟨rfl, hb1⟩
  have K1 := K.keep hb1
  have b1 := hbw.trans (hb1.mono hbw.size)
  have HE : Hid (EntsAt w1 (.slice a n cap) es) := ents_below HB.out hb1
  clear K hbw hb1 HB
  have c2 := K1.c2
  cases ft : fok t es
  · have HR : Hid (keysOut t es = ([], 1)) := out_no ft
    clear ft
    go_wp2
    go_ret2
    rw [HR.out]
    exact ⟨⟨_, rfl, World.ownsRow_nil _ _ _ _⟩, b1⟩
  have HR : Hid (keysOut t es = (keysTo es n, 0)) := by rw [HN.out]; exact out_yes ft
  have hsmall : n ≤ 20 := by rw [HN.out]; exact fok_len ft
  clear ft
  have HH : Hid (es = [] ∨ ∃ b off, a = some ⟨b, off, none⟩ ∧ ∀ j, j < es.length → At6 w1 b (off + j * 6) (es.getD j noE)) := ents_in HE.out
  clear HE
  go_wp2
  go_loopw [4, 13] (fun r i wr => ∃ k : Nat, k ≤ n ∧ i = .int .i64 k ∧ OwnT wr w1.heap.size r (keysTo es k) ∧ Below w1.heap.size w1 wr) (fun _ i _ => n - (intOf i).toNat)
  case atStart => exact ⟨0, Nat.zero_le _, rfl, World.ownsRow_nil _ _ _ _, Below.refl _ _⟩
  case round =>
    clear c2
    obtain ⟨k, hk, rfl, hown, hbr⟩ := hrel
    have hkl := keys_len es k
    by_cases hlt : k < n
    · have hka : k < es.length := by rw [← HN.out]; exact hlt
      rcases HH.out with e | ⟨b, off, rfl, hcells⟩
      · rw [e] at hka; simp at hka
      have hat := (hcells k hka).keep hbr (hcells k hka).lt
      have hse := (HSM.out.2 k hka).1
      have HST : Hid (keysTo es (k + 1) = addK (keysTo es k) (es.getD k noE).i) := keys_step es k hka
      clear hcells hka
      generalize hx : es.getD k noE = x at hat hse HST
      generalize hks : keysTo es k = ks at hown hkl HST
      obtain ⟨c30, c31, c32, c33, c34, c35⟩ := hat
      clear hx hks
      have hlt' : (k : Int) < (n : Int) := by omega
      have hk0 : (0 : Int) ≤ (k : Int) := by omega
      have hbx : Below w1.heap.size w1 (wr.alloc (.cells #[.string x.i, .string x.t, .string x.l, .string x.a, .int .i64 x.d, .string x.c] 26)) := hbr.alloc hbr.size _
      have hown1 : OwnT (wr.alloc (.cells #[.string x.i, .string x.t, .string x.l, .string x.a, .int .i64 x.d, .string x.c] 26)) w1.heap.size _ ks := hown.alloc _
      have K0 := lies_new wr 26 x
      clear hown hbr
      go_wp2_with fail
      unfold cl at K0
      generalize wr.alloc _ = X at hbx hown1 K0 ⊢
      refine (contains_any _ ks x.i X (own_texts hown1) (by omega)).mono ?_
      rintro e X2 ⟨rfl, hX⟩
      subst X2
      have q0 := K0.c0
      clear c30 c31 c32 c33 c34 c35
      cases hh : has ks x.i
      · have HA : Hid (keysTo es (k + 1) = ks ++ [x.i]) := HST.out.trans (addK_no hh)
        clear hh HST
        go_wp2_with fail
        refine (clone_any x.i X hse).mono ?_
        rintro e X3 ⟨rfl, hb3⟩
        have hown3 := ow.own_below hown1 hb3
        have hbx3 := hbx.trans (hb3.mono hbx.size)
        have hsz := hbx3.size
        have hlm : (ks.map Value.string).length = ks.length := by simp
        clear hown1 hbx hb3 q0 K0
        go_wp2_with (at_builtin; go_loud (refine wpList_append_own _ rfl _ _ 40 rfl w1.heap.size 9 i0 (.string ⟨#[]⟩) 1 16 Try.underlying40 hi hz0 hz1 hz2 rfl (by decide) _ _ _ rfl (hown3.alloc _) ⟨_, 0, none⟩ 1 1 [Value.string x.i] rfl rfl (ow.cells_new _ [Value.string x.i] 9) (by simp [Value.oneCell']) (by unfold maxLen; omega) (by omega) (by simp; omega) ?_); intro v' w4 hown' hgrow _)
        have hbz := (hbx3.alloc hsz _).grown hgrow (by simp; omega) (ow.own_lt hown3)
        have hown2 : OwnT w4 w1.heap.size v' (keysTo es (k + 1)) := by
          unfold OwnT
          rw [HA.out, List.length_append, List.map_append]; exact hown'
        clear hown' hown3 hgrow
        go_wp2
        go_roundw
        case rel => exact ⟨k + 1, by omega, by go_num, hown2, hbz⟩
        case measure => simp [intOf]; omega
      · have HA : Hid (keysTo es (k + 1) = ks) := HST.out.trans (addK_yes hh)
        clear hh HST
        go_wp2
        go_roundw
        case rel => exact ⟨k + 1, by omega, by go_num, by rw [HA.out]; exact hown1, hbx⟩
        case measure => simp [intOf]; omega
    · obtain rfl : k = n := by omega
      go_wp2
      go_ret2
      rw [HR.out]
      exact ⟨⟨_, rfl, ow.own_base hown b1.size⟩, b1.trans (hbr.mono b1.size)⟩
end Go.Proofs.Ytabhnbcledicgaa.ky
