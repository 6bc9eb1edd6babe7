/-
  Contracts of both FeedText functions.
-/
import Derived.Test.YtbgoejalbhkmeaaDoorFxb
namespace Go.Proofs.YtbgoejalbhkmeaaDoor.fx
open Go.RowKit
open en gr
set_option linter.unusedVariables false

def item (f : Bool) (e : En) : ByteArray := if f then atomT e else rssT e
/-- What stands within, behind so many entries. -/
def inn (f : Bool) (t : ByteArray) (es : List En) : Nat → ByteArray
  | 0 => tag (⟨#[116, 105, 116, 108, 101]⟩ : ByteArray) (E t)
  | k + 1 => inn f t es k ++ item f (es.getD k noE)
/-- The text of a feed. -/
def total (f : Bool) (x : ByteArray) : ByteArray := if f then tag (⟨#[102, 101, 101, 100]⟩ : ByteArray) x else (⟨#[60, 114, 115, 115, 32, 118, 101, 114, 115, 105, 111, 110, 61, 34, 50, 46, 48, 34, 62]⟩ : ByteArray) ++ tag (⟨#[99, 104, 97, 110, 110, 101, 108]⟩ : ByteArray) x ++ (⟨#[60, 47, 114, 115, 115, 62]⟩ : ByteArray)
theorem rss_size {e : En} (h : Short e) : (rssT e).size ≤ 15000 := by
  obtain ⟨h0, h1, h2, h3, h4, h5, h6⟩ := h
  have e0 := E_size e.i
  have e1 := E_size e.t
  have e2 := E_size e.l
  have e3 := E_size e.a
  have e4 := E_size e.c
  have e5 := E_size (D82 e.d)
  have e6 := D82_size e.d
  unfold rssT rssHead
  simp only [tag_size, ByteArray.size_append]
  show 5 + 2 * 4 + (5 + 2 * 4 + _ + (5 + 2 * 5 + _) + (5 + 2 * 4 + _) + (5 + 2 * 6 + _) + (5 + 2 * 7 + _) + (5 + 2 * 11 + _)) ≤ _
  omega
theorem atom_size {e : En} (h : Short e) : (atomT e).size ≤ 15000 := by
  obtain ⟨h0, h1, h2, h3, h4, h5, h6⟩ := h
  have e0 := E_size e.i
  have e1 := E_size e.t
  have e2 := E_size e.l
  have e3 := E_size e.a
  have e4 := E_size e.c
  have e5 := E_size (D39 e.d)
  have e6 := D39_size e.d
  unfold atomT atomHead lnk
  simp only [tag_size, ByteArray.size_append]
  show 5 + 2 * 5 + (5 + 2 * 2 + _ + (5 + 2 * 5 + _) + (12 + _ + 3) + (5 + 2 * 6 + (5 + 2 * 4 + _)) + (5 + 2 * 7 + _) + (5 + 2 * 7 + _)) ≤ _
  omega
theorem item_size {f : Bool} {e : En} (h : Short e) : (item f e).size ≤ 15000 := by
  cases f
  · exact rss_size h
  · exact atom_size h
theorem inn_size {f : Bool} {t : ByteArray} {es : List En} (ht : t.size ≤ 200) (h : Right es es.length) : ∀ k, k ≤ es.length → (inn f t es k).size ≤ 2000 + 15000 * k := by
  intro k
  induction k with
  | zero =>
    intro _
    have := esc_size (⟨#[116, 105, 116, 108, 101]⟩ : ByteArray) t
    show (tag (⟨#[116, 105, 116, 108, 101]⟩ : ByteArray) (E t)).size ≤ _
    have h5 : (⟨#[116, 105, 116, 108, 101]⟩ : ByteArray).size = 5 := rfl
    omega
  | succ k ih =>
    intro hk
    have h1 := ih (by omega)
    have h2 := item_size (f := f) (short_of (h k (by omega)))
    show (inn f t es k ++ item f (es.getD k noE)).size ≤ _
    rw [ByteArray.size_append]
    omega
theorem fok_parts {t : ByteArray} {es : List En} (h : fok t es = true) : t.size ≤ 200 ∧ es.length ≤ 20 ∧ Right es es.length := by
  simp only [fok, Bool.and_eq_true, decide_eq_true_eq, List.all_eq_true] at h
  refine ⟨(fld_cases h.1.1).1, h.1.2, fun j hj => ?_⟩
  exact h.2 _ (get_mem hj)
/-- What a call of FeedText answers. -/
def TextRet (f : Bool) (t : ByteArray) (es : List En) (e : Ending) : Prop :=
  (fok t es = false ∧ e = .returned (.tuple #[.string ⟨#[]⟩, .int .i64 1])) ∨
  (fok t es = true ∧ 65536 < (total f (inn f t es es.length)).size ∧ e = .returned (.tuple #[.string ⟨#[]⟩, .int .i64 7])) ∨
  (fok t es = true ∧ (total f (inn f t es es.length)).size ≤ 65536 ∧ e = .returned (.tuple #[.string (total f (inn f t es es.length)), .int .i64 0]))
theorem text_same {f : Bool} {t : ByteArray} {es : List En} {e e' : Ending} (h : TextRet f t es e) (h' : TextRet f t es e') : e = e' := by
  rcases h with ⟨a, rfl⟩ | ⟨a, b, rfl⟩ | ⟨a, b, rfl⟩ <;> rcases h' with ⟨a', rfl⟩ | ⟨a', b', rfl⟩ | ⟨a', b', rfl⟩ <;> first | rfl | omega | (rw [a] at a'; cases a')
theorem text_form {f : Bool} {t : ByteArray} {es : List En} {e : Ending} (h : TextRet f t es e) : ∃ (s : ByteArray) (c : Int), e = .returned (.tuple #[.string s, .int .i64 c]) := by
  rcases h with ⟨a, rfl⟩ | ⟨a, b, rfl⟩ | ⟨a, b, rfl⟩ <;> exact ⟨_, _, rfl⟩
theorem total_rss (x : ByteArray) : (⟨#[60, 114, 115, 115, 32, 118, 101, 114, 115, 105, 111, 110, 61, 34, 50, 46, 48, 34, 62, 60, 99, 104, 97, 110, 110, 101, 108, 62]⟩ : ByteArray) ++ x ++ (⟨#[60, 47, 99, 104, 97, 110, 110, 101, 108, 62, 60, 47, 114, 115, 115, 62]⟩ : ByteArray) = total false x := by
  apply bytes_eq
  show _ = ((⟨#[60, 114, 115, 115, 32, 118, 101, 114, 115, 105, 111, 110, 61, 34, 50, 46, 48, 34, 62]⟩ : ByteArray) ++ tag (⟨#[99, 104, 97, 110, 110, 101, 108]⟩ : ByteArray) x ++ (⟨#[60, 47, 114, 115, 115, 62]⟩ : ByteArray)).data.toList
  unfold tag
  simp only [data_app, List.append_assoc, List.cons_append, List.nil_append]
theorem total_atom (x : ByteArray) : (⟨#[60, 102, 101, 101, 100, 62]⟩ : ByteArray) ++ x ++ (⟨#[60, 47, 102, 101, 101, 100, 62]⟩ : ByteArray) = total true x := by
  apply bytes_eq
  show _ = (tag (⟨#[102, 101, 101, 100]⟩ : ByteArray) x).data.toList
  unfold tag
  simp only [data_app, List.append_assoc, List.cons_append, List.nil_append]

set_option maxHeartbeats 4000000 in
set_option maxRecDepth 100000 in
theorem impl_text_rss (t : ByteArray) (v : Value) (es : List En) (w : World) (h : EntsAt w v es) (hsm : Smalls es) (ht : t.size ≤ 1048576) (hT : tb.TP w) (hTW : tb.TW w) (hTN : tb.TN w) :
    Calls Tryd.prog 7 #[FV false t v] w fun e w' => TextRet false t es e ∧ Below w.heap.size w w' := by
  unfold FV
  have hn := hsm.1
  have HSM : Hid (Smalls es) := hsm
  clear hsm
  have hbw : Below w.heap.size w (w.alloc (.cells #[.bool false, .string t, v] 30)) := (Below.refl _ _).alloc (Nat.le_refl _) _
  have K := liesF_new w 30 false t v
  have HB : Hid (EntsAt (w.alloc (.cells #[.bool false, .string t, v] 30)) v es) := ents_below h hbw
  have HT0 : Hid (tb.TP w ∧ tb.TW w ∧ tb.TN w) := ⟨hT, hTW, hTN⟩
  clear hT hTW hTN
  obtain ⟨a, cap, rfl, _⟩ := h
  obtain ⟨n, hn'⟩ : ∃ n, n = es.length := ⟨_, rfl⟩
  have HN : Hid (n = es.length) := hn'
  rw [← hn'] at hn K hbw HB ⊢
  clear hn'
  go_enter Tryd.func7, Tryd.ntmps7
  go_wp2_with fail
  generalize w.alloc _ = W at K hbw HB ⊢
  refine (impl_fok false t _ es W HB.out HSM.out ht).mono ?_
  rintro e w1 ⟨rfl, hb1⟩
  have K1 := K.keep hb1
  have b1 := hbw.trans (hb1.mono hbw.size)
  have HE : Hid (EntsAt w1 (.slice a n cap) es) := ents_below HB.out hb1
  clear K hbw hb1 HB
  have c1 := K1.c1
  cases ft : fok t es
  · have HR : Hid (fok t es = false) := ft
    clear ft
    go_wp2
    go_ret2
    exact ⟨.inl ⟨HR.out, rfl⟩, b1⟩
  have HF : Hid (fok t es = true) := ft
  obtain ⟨ht2, hsmall, hright⟩ := fok_parts ft
  rw [← HN.out] at hsmall
  have HRT : Hid (Right es es.length) := hright
  have HIS : Hid (∀ k, k ≤ es.length → (inn false t es k).size ≤ 2000 + 15000 * k) := inn_size ht2 hright
  clear ft hright
  go_wp2_with fail
  refine (impl_lone _ t w1 (by decide) ht).mono ?_
  rintro e w2 ⟨rfl, hb2⟩
  have K2 := K1.keep hb2
  have b2 := b1.trans (hb2.mono b1.size)
  have HH : Hid (es = [] ∨ ∃ b off, a = some ⟨b, off, none⟩ ∧ ∀ j, j < es.length → At6 w2 b (off + j * 6) (es.getD j noE)) := ents_in (ents_below HE.out hb2)
  have HT : Hid (tb.TP w2 ∧ tb.TW w2 ∧ tb.TN w2) := ⟨tb.keep' HT0.out.1 b2, tb.keepS HT0.out.2.1 b2, tb.keepS HT0.out.2.2 b2⟩
  clear K1 b1 hb2 HE HT0 c1
  have c2 := K2.c2
  have H0 : Hid (tag (⟨#[116, 105, 116, 108, 101]⟩ : ByteArray) (E t) = inn false t es 0) := rfl
  generalize tag (⟨#[116, 105, 116, 108, 101]⟩ : ByteArray) (E t) = x0 at H0 ⊢
  go_wp2
  go_loopw [4, 17] (fun r i wr => ∃ k : Nat, k ≤ n ∧ i = .int .i64 k ∧ r = .string (inn false t es k) ∧ Below w2.heap.size w2 wr) (fun _ i _ => n - (intOf i).toNat)
  case atStart => exact ⟨0, Nat.zero_le _, rfl, by rw [H0.out], Below.refl _ _⟩
  case round =>
    clear c2
    obtain ⟨k, hk, rfl, rfl, hbr⟩ := hrel
    have c0 := (K2.keep hbr).c0
    have hxs := HIS.out k (by rw [← HN.out]; exact hk)
    by_cases hlt : k < n
    · have hka : k < es.length := by rw [← HN.out]; exact hlt
      rcases HH.out with e | ⟨b, off, rfl, hcells⟩
      · rw [e] at hka; simp at hka
      have hat := (hcells k hka).keep hbr (hcells k hka).lt
      have hsh := short_of (HRT.out k hka)
      have HX : Hid (inn false t es (k + 1) = inn false t es k ++ rssT (es.getD k noE)) := rfl
      clear hcells hka
      generalize es.getD k noE = x at hat hsh HX
      generalize inn false t es k = y at hxs HX ⊢
      have his : (rssT x).size ≤ 15000 := item_size (f := false) hsh
      obtain ⟨c30, c31, c32, c33, c34, c35⟩ := hat
      have hlt' : (k : Int) < (n : Int) := by omega
      have hk0 : (0 : Int) ≤ (k : Int) := by omega
      have hbx : Below w2.heap.size w2 (wr.alloc (.cells #[.string x.i, .string x.t, .string x.l, .string x.a, .int .i64 x.d, .string x.c] 40)) := hbr.alloc hbr.size _
      have d0 : (wr.alloc (.cells #[.string x.i, .string x.t, .string x.l, .string x.a, .int .i64 x.d, .string x.c] 40)).cell? ⟨w.heap.size, 0, none⟩ = some (.bool false) := (K2.keep hbx).c0
      have HC : Hid (∀ w, tb.TP w → tb.TW w → tb.TN w → Calls Tryd.prog 16 #[.agg #[.string x.i, .string x.t, .string x.l, .string x.a, .int .i64 x.d, .string x.c]] w fun r w' => r = .returned (.string (rssT x)) ∧ Below w.heap.size w w') := fun w h1 h2 h3 => impl_rss x w (by assumption) h1 h2 h3
      generalize rssT x = z at his HX HC
      clear hsh
      go_wp2_with fail
      refine (HC.out _ (tb.keep' HT.out.1 hbx) (tb.keepS HT.out.2.1 hbx) (tb.keepS HT.out.2.2 hbx)).mono ?_
      rintro e w3 ⟨rfl, hb3⟩
      have hb4 := hbx.trans (hb3.mono hbx.size)
      clear hb3 hbx HC c30 c31 c32 c33 c34 c35 c0 d0
      go_wp2
      go_roundw
      case rel => exact ⟨k + 1, by omega, by go_num, by rw [HX.out], hb4⟩
      case measure => simp [intOf]; omega
    · obtain rfl : k = n := by omega
      have HI : Hid (inn false t es es.length = inn false t es k) := (congrArg (inn false t es) HN.out).symm
      generalize inn false t es k = x at hxs HI ⊢
      have hct : (tag (⟨#[99, 104, 97, 110, 110, 101, 108]⟩ : ByteArray) x).size ≤ 400000 := by rw [tag_size]; show 5 + 2 * 7 + _ ≤ _; omega
      have hft : (tag (⟨#[102, 101, 101, 100]⟩ : ByteArray) x).size ≤ 400000 := by rw [tag_size]; show 5 + 2 * 4 + _ ≤ _; omega
      have b3 := b2.trans (hbr.mono b2.size)
      go_wp2_with fail
      refine (impl_around _ x _ (by decide) (by omega)).mono ?_
      rintro e w5 ⟨rfl, hw5⟩
      subst w5
      have HTT : Hid ((⟨#[60, 114, 115, 115, 32, 118, 101, 114, 115, 105, 111, 110, 61, 34, 50, 46, 48, 34, 62]⟩ : ByteArray) ++ tag (⟨#[99, 104, 97, 110, 110, 101, 108]⟩ : ByteArray) x ++ (⟨#[60, 47, 114, 115, 115, 62]⟩ : ByteArray) = total false x) := rfl
      have hys : ((⟨#[60, 114, 115, 115, 32, 118, 101, 114, 115, 105, 111, 110, 61, 34, 50, 46, 48, 34, 62]⟩ : ByteArray) ++ tag (⟨#[99, 104, 97, 110, 110, 101, 108]⟩ : ByteArray) x ++ (⟨#[60, 47, 114, 115, 115, 62]⟩ : ByteArray)).size ≤ 500000 := by
        rw [ByteArray.size_append, ByteArray.size_append]
        show 19 + _ + 6 ≤ _
        omega
      go_upto_region 12 with (fail)
      generalize (⟨#[60, 114, 115, 115, 32, 118, 101, 114, 115, 105, 111, 110, 61, 34, 50, 46, 48, 34, 62]⟩ : ByteArray) ++ tag (⟨#[99, 104, 97, 110, 110, 101, 108]⟩ : ByteArray) x ++ (⟨#[60, 47, 114, 115, 115, 62]⟩ : ByteArray) = y at hys HTT ⊢
      by_cases hbig : 65536 < y.size
      · have hbig' : (65536 : Int) < (y.size : Int) := by omega
        go_wp2
        go_ret2
        exact ⟨.inr (.inl ⟨HF.out, by rw [HI.out, ← HTT.out]; exact hbig, rfl⟩), b3⟩
      · have hbig' : (y.size : Int) ≤ 65536 := by omega
        go_wp2
        go_ret2
        exact ⟨.inr (.inr ⟨HF.out, by rw [HI.out, ← HTT.out]; omega, by rw [HI.out, ← HTT.out]; rfl⟩), b3⟩

set_option maxHeartbeats 4000000 in
set_option maxRecDepth 100000 in
theorem impl_text_atom (t : ByteArray) (v : Value) (es : List En) (w : World) (h : EntsAt w v es) (hsm : Smalls es) (ht : t.size ≤ 1048576) (hT : tb.TP w) (hTW : tb.TW w) (hTN : tb.TN w) :
    Calls Tryd.prog 7 #[FV true t v] w fun e w' => TextRet true t es e ∧ Below w.heap.size w w' := by
  unfold FV
  have hn := hsm.1
  have HSM : Hid (Smalls es) := hsm
  clear hsm
  have hbw : Below w.heap.size w (w.alloc (.cells #[.bool true, .string t, v] 30)) := (Below.refl _ _).alloc (Nat.le_refl _) _
  have K := liesF_new w 30 true t v
  have HB : Hid (EntsAt (w.alloc (.cells #[.bool true, .string t, v] 30)) v es) := ents_below h hbw
  have HT0 : Hid (tb.TP w ∧ tb.TW w ∧ tb.TN w) := ⟨hT, hTW, hTN⟩
  clear hT hTW hTN
  obtain ⟨a, cap, rfl, _⟩ := h
  obtain ⟨n, hn'⟩ : ∃ n, n = es.length := ⟨_, rfl⟩
  have HN : Hid (n = es.length) := hn'
  rw [← hn'] at hn K hbw HB ⊢
  clear hn'
  go_enter Tryd.func7, Tryd.ntmps7
  go_wp2_with fail
  generalize w.alloc _ = W at K hbw HB ⊢
  refine (impl_fok true t _ es W HB.out HSM.out ht).mono ?_
  rintro e w1 ⟨rfl, hb1⟩
  have K1 := K.keep hb1
  have b1 := hbw.trans (hb1.mono hbw.size)
  have HE : Hid (EntsAt w1 (.slice a n cap) es) := ents_below HB.out hb1
  clear K hbw hb1 HB
  have c1 := K1.c1
  cases ft : fok t es
  · have HR : Hid (fok t es = false) := ft
    clear ft
    go_wp2
    go_ret2
    exact ⟨.inl ⟨HR.out, rfl⟩, b1⟩
  have HF : Hid (fok t es = true) := ft
  obtain ⟨ht2, hsmall, hright⟩ := fok_parts ft
  rw [← HN.out] at hsmall
  have HRT : Hid (Right es es.length) := hright
  have HIS : Hid (∀ k, k ≤ es.length → (inn true t es k).size ≤ 2000 + 15000 * k) := inn_size ht2 hright
  clear ft hright
  go_wp2_with fail
  refine (impl_lone _ t w1 (by decide) ht).mono ?_
  rintro e w2 ⟨rfl, hb2⟩
  have K2 := K1.keep hb2
  have b2 := b1.trans (hb2.mono b1.size)
  have HH : Hid (es = [] ∨ ∃ b off, a = some ⟨b, off, none⟩ ∧ ∀ j, j < es.length → At6 w2 b (off + j * 6) (es.getD j noE)) := ents_in (ents_below HE.out hb2)
  have HT : Hid (tb.TP w2 ∧ tb.TW w2 ∧ tb.TN w2) := ⟨tb.keep' HT0.out.1 b2, tb.keepS HT0.out.2.1 b2, tb.keepS HT0.out.2.2 b2⟩
  clear K1 b1 hb2 HE HT0 c1
  have c2 := K2.c2
  have H0 : Hid (tag (⟨#[116, 105, 116, 108, 101]⟩ : ByteArray) (E t) = inn true t es 0) := rfl
  generalize tag (⟨#[116, 105, 116, 108, 101]⟩ : ByteArray) (E t) = x0 at H0 ⊢
  go_wp2
  go_loopw [4, 17] (fun r i wr => ∃ k : Nat, k ≤ n ∧ i = .int .i64 k ∧ r = .string (inn true t es k) ∧ Below w2.heap.size w2 wr) (fun _ i _ => n - (intOf i).toNat)
  case atStart => exact ⟨0, Nat.zero_le _, rfl, by rw [H0.out], Below.refl _ _⟩
  case round =>
    clear c2
    obtain ⟨k, hk, rfl, rfl, hbr⟩ := hrel
    have c0 := (K2.keep hbr).c0
    have hxs := HIS.out k (by rw [← HN.out]; exact hk)
    by_cases hlt : k < n
    · have hka : k < es.length := by rw [← HN.out]; exact hlt
      rcases HH.out with e | ⟨b, off, rfl, hcells⟩
      · rw [e] at hka; simp at hka
      have hat := (hcells k hka).keep hbr (hcells k hka).lt
      have hsh := short_of (HRT.out k hka)
      have HX : Hid (inn true t es (k + 1) = inn true t es k ++ atomT (es.getD k noE)) := rfl
      clear hcells hka
      generalize es.getD k noE = x at hat hsh HX
      generalize inn true t es k = y at hxs HX ⊢
      have his : (atomT x).size ≤ 15000 := item_size (f := true) hsh
      obtain ⟨c30, c31, c32, c33, c34, c35⟩ := hat
      have hlt' : (k : Int) < (n : Int) := by omega
      have hk0 : (0 : Int) ≤ (k : Int) := by omega
      have hbx : Below w2.heap.size w2 (wr.alloc (.cells #[.string x.i, .string x.t, .string x.l, .string x.a, .int .i64 x.d, .string x.c] 40)) := hbr.alloc hbr.size _
      have d0 : (wr.alloc (.cells #[.string x.i, .string x.t, .string x.l, .string x.a, .int .i64 x.d, .string x.c] 40)).cell? ⟨w.heap.size, 0, none⟩ = some (.bool true) := (K2.keep hbx).c0
      have HC : Hid (∀ w, tb.TP w → tb.TW w → tb.TN w → Calls Tryd.prog 15 #[.agg #[.string x.i, .string x.t, .string x.l, .string x.a, .int .i64 x.d, .string x.c]] w fun r w' => r = .returned (.string (atomT x)) ∧ Below w.heap.size w w') := fun w h1 h2 h3 => impl_atom x w (by assumption) h1
      generalize atomT x = z at his HX HC
      clear hsh
      go_wp2_with fail
      refine (HC.out _ (tb.keep' HT.out.1 hbx) (tb.keepS HT.out.2.1 hbx) (tb.keepS HT.out.2.2 hbx)).mono ?_
      rintro e w3 ⟨rfl, hb3⟩
      have hb4 := hbx.trans (hb3.mono hbx.size)
      clear hb3 hbx HC c30 c31 c32 c33 c34 c35 c0 d0
      go_wp2
      go_roundw
      case rel => exact ⟨k + 1, by omega, by go_num, by rw [HX.out], hb4⟩
      case measure => simp [intOf]; omega
    · obtain rfl : k = n := by omega
      have HI : Hid (inn true t es es.length = inn true t es k) := (congrArg (inn true t es) HN.out).symm
      generalize inn true t es k = x at hxs HI ⊢
      have hct : (tag (⟨#[99, 104, 97, 110, 110, 101, 108]⟩ : ByteArray) x).size ≤ 400000 := by rw [tag_size]; show 5 + 2 * 7 + _ ≤ _; omega
      have hft : (tag (⟨#[102, 101, 101, 100]⟩ : ByteArray) x).size ≤ 400000 := by rw [tag_size]; show 5 + 2 * 4 + _ ≤ _; omega
      have b3 := b2.trans (hbr.mono b2.size)
      go_wp2_with fail
      refine (impl_around _ x _ (by decide) (by omega)).mono ?_
      rintro e w5 ⟨rfl, hw5⟩
      subst w5
      go_wp2_with fail
      refine (impl_around _ x _ (by decide) (by omega)).mono ?_
      rintro e w5 ⟨rfl, hw5⟩
      subst w5
      have HTT : Hid (tag (⟨#[102, 101, 101, 100]⟩ : ByteArray) x = total true x) := rfl
      generalize tag (⟨#[102, 101, 101, 100]⟩ : ByteArray) x = y at hft HTT ⊢
      by_cases hbig : 65536 < y.size
      · have hbig' : (65536 : Int) < (y.size : Int) := by omega
        go_wp2
        go_ret2
        exact ⟨.inr (.inl ⟨HF.out, by rw [HI.out, ← HTT.out]; exact hbig, rfl⟩), b3⟩
      · have hbig' : (y.size : Int) ≤ 65536 := by omega
        go_wp2
        go_ret2
        exact ⟨.inr (.inr ⟨HF.out, by rw [HI.out, ← HTT.out]; omega, by rw [HI.out, ← HTT.out]; rfl⟩), b3⟩
end Go.Proofs.YtbgoejalbhkmeaaDoor.fx
