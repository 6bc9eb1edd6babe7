/-
  The specification's FeedText.
-/
import Derived.Test.YtbgoejalbhkmeaaDoorFxc
namespace Go.Proofs.YtbgoejalbhkmeaaDoor.fx
open Go.RowKit
open en gr
set_option linter.unusedVariables false

set_option maxHeartbeats 4000000 in
set_option maxRecDepth 100000 in
theorem spec_l06_rss (t : ByteArray) (v : Value) (es : List En) (w : World) (h : EntsAt w v es) (ht2 : t.size ≤ 200) (hsmall0 : es.length ≤ 20) (hright : Right es es.length) :
    Calls Tryd.prog 11 #[FV false t v] w fun e w' => e = .returned (.string (total false (inn false t es es.length))) ∧ Below w.heap.size w w' := by
  unfold FV
  have hbw : Below w.heap.size w (w.alloc (.cells #[.bool false, .string t, v] 30)) := (Below.refl _ _).alloc (Nat.le_refl _) _
  have K := liesF_new w 30 false t v
  have HB : Hid (EntsAt (w.alloc (.cells #[.bool false, .string t, v] 30)) v es) := ents_below h hbw
  obtain ⟨a, cap, rfl, _⟩ := h
  obtain ⟨n, hn'⟩ : ∃ n, n = es.length := ⟨_, rfl⟩
  have HN : Hid (n = es.length) := hn'
  have hsmall : n ≤ 20 := by rw [hn']; exact hsmall0
  have HIS : Hid (∀ k, k ≤ es.length → (inn false t es k).size ≤ 2000 + 15000 * k) := inn_size ht2 hright
  have HRT : Hid (Right es es.length) := hright
  have HGO : Hid (total false (inn false t es es.length) = total false (inn false t es n)) := by rw [hn']; exact (rfl : _ = _)
  rw [← hn'] at K hbw HB
  rw [show Value.slice a es.length cap = Value.slice a n cap from by rw [hn']]
  clear hn' hright hsmall0
  go_enter Tryd.func11, Tryd.ntmps11
  go_wp2_with fail
  generalize w.alloc _ = w1 at K hbw HB ⊢
  refine (spec_tag _ t w1 (by decide) (by omega)).mono ?_
  rintro e w2 ⟨rfl, hb2⟩
  have K2 := K.keep hb2
  have b2 := hbw.trans (hb2.mono hbw.size)
  have HH : Hid (es = [] ∨ ∃ b off, a = some ⟨b, off, none⟩ ∧ ∀ j, j < es.length → At6 w2 b (off + j * 6) (es.getD j noE)) := ents_in (ents_below HB.out hb2)
  clear K hbw hb2 HB
  have H0 : Hid (tag (⟨#[116, 105, 116, 108, 101]⟩ : ByteArray) (E t) = inn false t es 0) := rfl
  generalize tag (⟨#[116, 105, 116, 108, 101]⟩ : ByteArray) (E t) = x0 at H0 ⊢
  go_wp2
  go_loopw [3, 4] (fun r i wr => ∃ k : Nat, k ≤ n ∧ i = .int .i64 k ∧ r = .string (inn false t es k) ∧ Below w2.heap.size w2 wr) (fun _ i _ => n - (intOf i).toNat)
  case atStart => exact ⟨0, Nat.zero_le _, rfl, by rw [H0.out], Below.refl _ _⟩
  case round =>
    obtain ⟨k, hk, rfl, rfl, hbr⟩ := hrel
    have c0 := (K2.keep hbr).c0
    have c2 := (K2.keep hbr).c2
    have hxs := HIS.out k (by rw [← HN.out]; exact hk)
    by_cases hlt : k < n
    · have hka : k < es.length := by rw [← HN.out]; exact hlt
      rcases HH.out with e | ⟨b, off, rfl, hcells⟩
      · rw [e] at hka; simp at hka
      have hat := (hcells k hka).keep hbr (hcells k hka).lt
      have hsh := short_of (HRT.out k hka)
      have HX : Hid (inn false t es (k + 1) = inn false t es k ++ rssT (es.getD k noE)) := rfl
      clear hcells hka
      generalize es.getD k noE = x at hat hsh HX
      generalize inn false t es k = y at hxs HX ⊢
      have his : (rssT x).size ≤ 15000 := item_size (f := false) hsh
      obtain ⟨c30, c31, c32, c33, c34, c35⟩ := hat
      have hlt' : (k : Int) < (n : Int) := by omega
      have hk0 : (0 : Int) ≤ (k : Int) := by omega
      have HC : Hid (∀ w, Calls Tryd.prog 24 #[.agg #[.string x.i, .string x.t, .string x.l, .string x.a, .int .i64 x.d, .string x.c]] w fun r w' => r = .returned (.string (rssT x)) ∧ Below w.heap.size w w') := fun w => spec_rss x w hsh
      generalize rssT x = z at his HX HC
      clear hsh
      go_wp2_with fail
      refine (HC.out _).mono ?_
      rintro e w3 ⟨rfl, hb3⟩
      have hb4 := hbr.trans (hb3.mono hbr.size)
      clear hb3 hbr HC c30 c31 c32 c33 c34 c35 c0 c2
      go_wp2
      go_roundw
      case rel => exact ⟨k + 1, by omega, by go_num, by rw [HX.out], hb4⟩
      case measure => simp [intOf]; omega
    · obtain rfl : k = n := by omega
      have b3 := b2.trans (hbr.mono b2.size)
      generalize inn false t es k = x at hxs HGO ⊢
      have HTT : Hid ((⟨#[60, 114, 115, 115, 32, 118, 101, 114, 115, 105, 111, 110, 61, 34, 50, 46, 48, 34, 62, 60, 99, 104, 97, 110, 110, 101, 108, 62]⟩ : ByteArray) ++ x ++ (⟨#[60, 47, 99, 104, 97, 110, 110, 101, 108, 62, 60, 47, 114, 115, 115, 62]⟩ : ByteArray) = total false x) := total_rss x
      go_wp2
      go_ret
      exact ⟨by rw [HGO.out, ← HTT.out]; rfl, b3⟩

set_option maxHeartbeats 4000000 in
set_option maxRecDepth 100000 in
theorem spec_l06_atom (t : ByteArray) (v : Value) (es : List En) (w : World) (h : EntsAt w v es) (ht2 : t.size ≤ 200) (hsmall0 : es.length ≤ 20) (hright : Right es es.length) :
    Calls Tryd.prog 11 #[FV true t v] w fun e w' => e = .returned (.string (total true (inn true t es es.length))) ∧ Below w.heap.size w w' := by
  unfold FV
  have hbw : Below w.heap.size w (w.alloc (.cells #[.bool true, .string t, v] 30)) := (Below.refl _ _).alloc (Nat.le_refl _) _
  have K := liesF_new w 30 true t v
  have HB : Hid (EntsAt (w.alloc (.cells #[.bool true, .string t, v] 30)) v es) := ents_below h hbw
  obtain ⟨a, cap, rfl, _⟩ := h
  obtain ⟨n, hn'⟩ : ∃ n, n = es.length := ⟨_, rfl⟩
  have HN : Hid (n = es.length) := hn'
  have hsmall : n ≤ 20 := by rw [hn']; exact hsmall0
  have HIS : Hid (∀ k, k ≤ es.length → (inn true t es k).size ≤ 2000 + 15000 * k) := inn_size ht2 hright
  have HRT : Hid (Right es es.length) := hright
  have HGO : Hid (total true (inn true t es es.length) = total true (inn true t es n)) := by rw [hn']; exact (rfl : _ = _)
  rw [← hn'] at K hbw HB
  rw [show Value.slice a es.length cap = Value.slice a n cap from by rw [hn']]
  clear hn' hright hsmall0
  go_enter Tryd.func11, Tryd.ntmps11
  go_wp2_with fail
  generalize w.alloc _ = w1 at K hbw HB ⊢
  refine (spec_tag _ t w1 (by decide) (by omega)).mono ?_
  rintro e w2 ⟨rfl, hb2⟩
  have K2 := K.keep hb2
  have b2 := hbw.trans (hb2.mono hbw.size)
  have HH : Hid (es = [] ∨ ∃ b off, a = some ⟨b, off, none⟩ ∧ ∀ j, j < es.length → At6 w2 b (off + j * 6) (es.getD j noE)) := ents_in (ents_below HB.out hb2)
  clear K hbw hb2 HB
  have H0 : Hid (tag (⟨#[116, 105, 116, 108, 101]⟩ : ByteArray) (E t) = inn true t es 0) := rfl
  generalize tag (⟨#[116, 105, 116, 108, 101]⟩ : ByteArray) (E t) = x0 at H0 ⊢
  go_wp2
  go_loopw [3, 4] (fun r i wr => ∃ k : Nat, k ≤ n ∧ i = .int .i64 k ∧ r = .string (inn true t es k) ∧ Below w2.heap.size w2 wr) (fun _ i _ => n - (intOf i).toNat)
  case atStart => exact ⟨0, Nat.zero_le _, rfl, by rw [H0.out], Below.refl _ _⟩
  case round =>
    obtain ⟨k, hk, rfl, rfl, hbr⟩ := hrel
    have c0 := (K2.keep hbr).c0
    have c2 := (K2.keep hbr).c2
    have hxs := HIS.out k (by rw [← HN.out]; exact hk)
    by_cases hlt : k < n
    · have hka : k < es.length := by rw [← HN.out]; exact hlt
      rcases HH.out with e | ⟨b, off, rfl, hcells⟩
      · rw [e] at hka; simp at hka
      have hat := (hcells k hka).keep hbr (hcells k hka).lt
      have hsh := short_of (HRT.out k hka)
      have HX : Hid (inn true t es (k + 1) = inn true t es k ++ atomT (es.getD k noE)) := rfl
      clear hcells hka
      generalize es.getD k noE = x at hat hsh HX
      generalize inn true t es k = y at hxs HX ⊢
      have his : (atomT x).size ≤ 15000 := item_size (f := true) hsh
      obtain ⟨c30, c31, c32, c33, c34, c35⟩ := hat
      have hlt' : (k : Int) < (n : Int) := by omega
      have hk0 : (0 : Int) ≤ (k : Int) := by omega
      have HC : Hid (∀ w, Calls Tryd.prog 23 #[.agg #[.string x.i, .string x.t, .string x.l, .string x.a, .int .i64 x.d, .string x.c]] w fun r w' => r = .returned (.string (atomT x)) ∧ Below w.heap.size w w') := fun w => spec_atom x w hsh
      generalize atomT x = z at his HX HC
      clear hsh
      go_wp2_with fail
      refine (HC.out _).mono ?_
      rintro e w3 ⟨rfl, hb3⟩
      have hb4 := hbr.trans (hb3.mono hbr.size)
      clear hb3 hbr HC c30 c31 c32 c33 c34 c35 c0 c2
      go_wp2
      go_roundw
      case rel => exact ⟨k + 1, by omega, by go_num, by rw [HX.out], hb4⟩
      case measure => simp [intOf]; omega
    · obtain rfl : k = n := by omega
      have b3 := b2.trans (hbr.mono b2.size)
      generalize inn true t es k = x at hxs HGO ⊢
      have HTT : Hid ((⟨#[60, 102, 101, 101, 100, 62]⟩ : ByteArray) ++ x ++ (⟨#[60, 47, 102, 101, 101, 100, 62]⟩ : ByteArray) = total true x) := total_atom x
      go_wp2
      go_ret
      exact ⟨by rw [HGO.out, ← HTT.out]; rfl, b3⟩

set_option maxHeartbeats 2000000 in
theorem spec_l06 (f : Bool) (t : ByteArray) (v : Value) (es : List En) (w : World) (h : EntsAt w v es) (ht2 : t.size ≤ 200) (hsmall0 : es.length ≤ 20) (hright : Right es es.length) :
    Calls Tryd.prog 11 #[FV f t v] w fun e w' => e = .returned (.string (total f (inn f t es es.length))) ∧ Below w.heap.size w w' := by
  cases f
  · exact spec_l06_rss t v es w h ht2 hsmall0 hright
  · exact spec_l06_atom t v es w h ht2 hsmall0 hright
theorem impl_text (f : Bool) (t : ByteArray) (v : Value) (es : List En) (w : World) (h : EntsAt w v es) (hsm : Smalls es) (ht : t.size ≤ 1048576) (hT : tb.TP w) (hTW : tb.TW w) (hTN : tb.TN w) :
    Calls Tryd.prog 7 #[FV f t v] w fun e w' => TextRet f t es e ∧ Below w.heap.size w w' := by
  cases f
  · exact impl_text_rss t v es w h hsm ht hT hTW hTN
  · exact impl_text_atom t v es w h hsm ht hT hTW hTN
set_option maxHeartbeats 2000000 in
set_option maxRecDepth 100000 in
theorem spec_text (f : Bool) (t : ByteArray) (v : Value) (es : List En) (w : World) (h : EntsAt w v es) (hsm : Smalls es) (ht : t.size ≤ 1048576) :
    Calls Tryd.prog 5 #[FV f t v] w fun e w' => TextRet f t es e ∧ Below w.heap.size w w' := by
  unfold FV
  have hn := hsm.1
  have HSM : Hid (Smalls es) := hsm
  clear hsm
  have hbw : Below w.heap.size w (w.alloc (.cells #[.bool f, .string t, v] 30)) := (Below.refl _ _).alloc (Nat.le_refl _) _
  have K := liesF_new w 30 f t v
  have HB : Hid (EntsAt (w.alloc (.cells #[.bool f, .string t, v] 30)) v es) := ents_below h hbw
  obtain ⟨a, cap, rfl, _⟩ := h
  go_enter Tryd.func5, Tryd.ntmps5
  go_wp2_with fail
  generalize w.alloc _ = W at K hbw HB ⊢
  refine (spec_fok f t _ es W HB.out HSM.out ht).mono ?_
  rintro e w1 ⟨rfl, hb1⟩
  have K1 := K.keep hb1
  have b1 := hbw.trans (hb1.mono hbw.size)
  have HE : Hid (EntsAt w1 (.slice a es.length cap) es) := ents_below HB.out hb1
  clear K hbw hb1 HB
  have c0 := K1.c0
  have c1 := K1.c1
  have c2 := K1.c2
  cases ft : fok t es
  · have HR : Hid (fok t es = false) := ft
    clear ft
    go_wp2
    go_ret2
    exact ⟨.inl ⟨HR.out, rfl⟩, b1⟩
  have HF : Hid (fok t es = true) := ft
  have hp := fok_parts ft
  have HL : Hid (Calls Tryd.prog 11 #[.agg #[.bool f, .string t, .slice a es.length cap]] w1 fun e w' => e = .returned (.string (total f (inn f t es es.length))) ∧ Below w1.heap.size w1 w') := spec_l06 f t _ es w1 HE.out hp.1 hp.2.1 hp.2.2
  have HG : Hid (∀ e, TextRet f t es e ↔ TextRet f t es e) := fun e => Iff.rfl
  clear ft
  generalize hx : total f (inn f t es es.length) = x at HL
  have HX : Hid (total f (inn f t es es.length) = x) := hx
  clear hx
  go_wp2_with fail
  refine HL.out.mono ?_
  rintro e w2 ⟨rfl, hb2⟩
  have b2 := b1.trans (hb2.mono b1.size)
  clear hb2 b1 HL K1 HE c0 c1 c2
  by_cases hbig : 65536 < x.size
  · have hbig' : (65536 : Int) < (x.size : Int) := by omega
    go_wp2
    go_ret2
    exact ⟨.inr (.inl ⟨HF.out, by rw [HX.out]; exact hbig, rfl⟩), b2⟩
  · have hbig' : (x.size : Int) ≤ 65536 := by omega
    go_wp2
    go_ret2
    exact ⟨.inr (.inr ⟨HF.out, by rw [HX.out]; omega, by rw [HX.out]; rfl⟩), b2⟩
end Go.Proofs.YtbgoejalbhkmeaaDoor.fx
