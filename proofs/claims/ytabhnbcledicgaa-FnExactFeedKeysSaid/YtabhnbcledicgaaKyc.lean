/-
  The specification's FeedKeys: the Ids of a feed, each once.
-/
import Derived.Test.YtabhnbcledicgaaKyb
namespace Go.Proofs.Ytabhnbcledicgaa.ky
open Go.RowKit
open en
set_option linter.unusedVariables false

set_option maxHeartbeats 2000000 in
set_option maxRecDepth 100000 in
theorem spec_keys (f : Bool) (t : ByteArray) (v : Value) (es : List En) (w : World) (h : EntsAt w v es) (hsm : Smalls es) (ht : t.size ≤ 1048576) :
    Calls Try.prog 16 #[FV f t v] w fun e w' => (∃ r, e = .returned (.tuple #[r, .int .i64 (keysOut t es).2]) ∧ OwnT w' w.heap.size r (keysOut t es).1) ∧ Below w.heap.size w w' := by
  unfold FV
  obtain ⟨i0, hi, hz0, hz1, hz2⟩ := info_parts infoT
  have hn := hsm.1
  have HSM : Hid (Smalls es) := hsm
  clear hsm
  have hbw : Below w.heap.size w (w.alloc (.cells #[.bool f, .string t, v] 36)) := (Below.refl _ _).alloc (Nat.le_refl _) _
  have K := liesF_new w 36 f t v
  have HB : Hid (EntsAt (w.alloc (.cells #[.bool f, .string t, v] 36)) v es) := ents_below h hbw
  obtain ⟨a, cap, rfl, _⟩ := h
  obtain ⟨n, hn'⟩ : ∃ n, n = es.length := ⟨_, rfl⟩
  have HN : Hid (n = es.length) := hn'
  rw [← hn'] at hn K hbw HB ⊢
  clear hn'
  go_enter Try.func16, Try.ntmps16
  go_wp2_with fail
  generalize w.alloc _ = W at K hbw HB ⊢
  refine (spec_fok f t _ es W HB.out HSM.out ht).mono ?_
  rintro e w1 ⟨rfl, hb1⟩
  have K1 := K.keep hb1
  have b1 := hbw.trans (hb1.mono hbw.size)
  have HE : Hid (EntsAt w1 (.slice a n cap) es) := ents_below HB.out hb1
  clear K hbw hb1 HB
  cases ft : fok t es
  · have HR : Hid (keysOut t es = ([], 1)) := out_no ft
    clear ft
    go_wp2
    go_ret2
    rw [HR.out]
    exact ⟨⟨_, rfl, ow.own_base (ow.own_empty w1 _) b1.size⟩, b1.alloc b1.size _⟩
  have HR : Hid (keysOut t es = (keysTo es n, 0)) := by rw [HN.out]; exact out_yes ft
  have hsmall : n ≤ 20 := by rw [HN.out]; exact fok_len ft
  clear ft
  have HH : Hid (es = [] ∨ ∃ b off, a = some ⟨b, off, none⟩ ∧ ∀ j, j < es.length → At6 w1 b (off + j * 6) (es.getD j noE)) := ents_in HE.out
  clear HE
  go_wp2
  go_loopw [4, 5] (fun r i wr => ∃ k : Nat, k ≤ n ∧ i = .int .i64 k ∧ OwnT wr w1.heap.size r (keysTo es k) ∧ Below w1.heap.size w1 wr) (fun _ i _ => n - (intOf i).toNat)
  case atStart => exact ⟨0, Nat.zero_le _, rfl, ow.own_empty w1 _, (Below.refl _ _).alloc (Nat.le_refl _) _⟩
  case round =>
    obtain ⟨k, hk, rfl, hown, hbr⟩ := hrel
    have hkl := keys_len es k
    have c2 := (K1.keep hbr).c2
    by_cases hlt : k < n
    · have hka : k < es.length := by rw [← HN.out]; exact hlt
      rcases HH.out with e | ⟨b, off, rfl, hcells⟩
      · rw [e] at hka; simp at hka
      have hat := (hcells k hka).keep hbr (hcells k hka).lt
      have HST : Hid (keysTo es (k + 1) = addK (keysTo es k) (es.getD k noE).i) := keys_step es k hka
      clear hcells hka
      generalize hx : es.getD k noE = x at hat HST
      generalize hks : keysTo es k = ks at hown hkl HST
      obtain ⟨c30, c31, c32, c33, c34, c35⟩ := hat
      clear hx hks c31 c32 c33 c34 c35
      have hlt' : (k : Int) < (n : Int) := by omega
      have hk0 : (0 : Int) ≤ (k : Int) := by omega
      go_wp2_with fail
      refine (spec_has _ ks x.i wr (own_texts hown) (by omega)).mono ?_
      rintro e X2 ⟨rfl, hX⟩
      subst X2
      cases hh : has ks x.i
      · have HA : Hid (keysTo es (k + 1) = ks ++ [x.i]) := HST.out.trans (addK_no hh)
        have hsz := hbr.size
        clear hh HST
        go_wp2_with (at_builtin; go_loud (refine wpList_append_own _ rfl _ _ 40 rfl w1.heap.size 9 i0 (.string ⟨#[]⟩) 1 16 Try.underlying40 hi hz0 hz1 hz2 rfl (by decide) _ _ _ rfl (hown.alloc _) ⟨_, 0, none⟩ 1 1 [Value.string x.i] rfl rfl (ow.cells_new _ [Value.string x.i] 9) (by simp [Value.oneCell']) (by unfold maxLen; omega) (by omega) (by simp; omega) ?_); intro v' w4 hown' hgrow _)
        have hbz := (hbr.alloc hsz _).grown hgrow (by simp; omega) (ow.own_lt hown)
        have hown2 : OwnT w4 w1.heap.size v' (keysTo es (k + 1)) := by
          unfold OwnT
          rw [HA.out, List.length_append, List.map_append]; exact hown'
        clear hown' hown hgrow
        go_wp2
        go_roundw
        case rel => exact ⟨k + 1, by omega, by go_num, hown2, hbz⟩
        case measure => simp [intOf]; omega
      · have HA : Hid (keysTo es (k + 1) = ks) := HST.out.trans (addK_yes hh)
        clear hh HST
        go_wp2
        go_roundw
        case rel => exact ⟨k + 1, by omega, by go_num, by rw [HA.out]; exact hown, hbr⟩
        case measure => simp [intOf]; omega
    · obtain rfl : k = n := by omega
      go_wp2
      go_ret2
      rw [HR.out]
      exact ⟨⟨_, rfl, ow.own_base hown b1.size⟩, b1.trans (hbr.mono b1.size)⟩
end Go.Proofs.Ytabhnbcledicgaa.ky
