/-
  What is fetched of a drawn entry's mail.
-/
import Derived.Test.YtbokolpjdaamiaaGreatDoorPkbe
import Derived.Test.YtbokolpjdaamiaaGreatDoorPkbq

namespace Go.Proofs.YtbokolpjdaamiaaGreatDoor.fe
open Go.RowKit
open fq
set_option linter.unusedVariables false

set_option maxHeartbeats 2000000 in
set_option maxRecDepth 100000 in
theorem at_any (w : World) (a : Option Addr) (len cap : Nat) (i n : Nat) (h : se.Bytes w a len) (hl : len ≤ 1048576) (hi : i ≤ 1000000) (hn : 2 ≤ n) (hn2 : n ≤ 1000) :
    Calls Tryz.prog 6 #[.slice a len cap, .int .i64 i, .int .i64 n] w fun e w' => (∃ z : Int, e = .returned (.int .i64 z) ∧ 0 ≤ z ∧ z < n) ∧ Below w.heap.size w w' := by
  by_cases h0 : len = 0
  · subst h0
    clear h
    go_enter Tryz.func6, Tryz.ntmps6
    go_wp2
    go_ret
    exact ⟨⟨_, rfl, Int.emod_nonneg _ (by omega), Int.emod_lt_of_pos _ (by omega)⟩, Below.refl _ _⟩
  · obtain ⟨_, h | ⟨cb, off, rfl, hc⟩⟩ := h
    · exact absurd h h0
    have hp1 : i % len < len := Nat.mod_lt _ (by omega)
    have hq1 : (i + 1) % len < len := Nat.mod_lt _ (by omega)
    have e1 : ((i : Int) % (len : Int)) = ((i % len : Nat) : Int) := rfl
    have e2 : (((i : Int) + 1) % (len : Int)) = (((i + 1) % len : Nat) : Int) := rfl
    have e3 : ((i : Int) / (len : Int)) = ((i / len : Nat) : Int) := rfl
    have hr1 : i / len ≤ i := Nat.div_le_self _ _
    obtain ⟨z1, a1, a2, c1⟩ := hc (i % len) hp1
    obtain ⟨z2, a3, a4, c2⟩ := hc ((i + 1) % len) hq1
    generalize i % len = p at hp1 e1 c1
    generalize (i + 1) % len = q at hq1 e2 c2
    generalize i / len = r at hr1 e3
    have hz : ((len : Int) == 0) = false := beq_eq_false_iff_ne.2 (by omega)
    clear hc
    go_enter Tryz.func6, Tryz.ntmps6
    go_wp2_with fail
    go_quiet (fail)
    go_wp2
    go_ret
    exact ⟨⟨_, rfl, Int.emod_nonneg _ (by omega), Int.emod_lt_of_pos _ (by omega)⟩, ⟨rfl, rfl, rfl, Nat.le_refl _, fun _ _ => rfl⟩⟩

/-! How long a drawn entry's mail may be. -/
theorem fld_len : ∀ t ∈ en.fldL, (rn.EN t).size ≤ 100 := by decide +kernel
theorem id_len : ∀ t ∈ en.idL, (rn.EN t).size ≤ 100 := by decide +kernel
theorem link_len : ∀ t ∈ en.linkL, (rn.EN t).size ≤ 100 := by decide +kernel
theorem con_len : ∀ t ∈ en.conL, t.size ≤ 91 := by decide +kernel
theorem rend_small {i t l a c : ByteArray} {d : Int} (hi : i ∈ en.idL) (ht : t ∈ en.fldL) (hl : l ∈ en.linkL) (ha : a ∈ en.fldL) (hc : c ∈ en.conL) (d0 : 0 ≤ d) (d1 : d ≤ 4102444799) : (rn.rend ⟨i, t, l, a, d, c⟩ me.news).data.toList.length ≤ 4000 := by
  obtain ⟨_, _, _, _, _, e6, e7⟩ := rn.eok_cases (en.drawn_ok hi ht hl ha hc d0 d1)
  have hm := (rn.mid_safe ⟨i, t, l, a, d, c⟩ me.news me.news_name).2
  have hdt := (rn.date_safe d e6 e7).2
  have hq := qu.qt_len 0 (rn.crl c.data.toList)
  have hcl := rn.crl_len c.data.toList
  have h1 := fld_len a ha
  have h2 := fld_len t ht
  have h3 := id_len i hi
  have h4 := link_len l hl
  have h5 := con_len c hc
  rw [Lib.size_eq] at hm h1 h2 h3 h4 h5
  rw [me.rend_list]
  unfold me.hea me.bod
  have F := fun nm v => ff.field_len nm v
  simp only [rn.flds, me.lst, ml.foldM, List.map_cons, List.map_nil, List.flatMap_cons, List.flatMap_nil, List.length_append, List.length_nil]
  have f1 := F [70, 114, 111, 109] (rn.EN a).data.toList
  have f2 := F [68, 97, 116, 101] (dx.t82 d)
  have f3 := F [83, 117, 98, 106, 101, 99, 116] (rn.EN t).data.toList
  have f4 := F [77, 101, 115, 115, 97, 103, 101, 45, 73, 68] (rn.mid ⟨i, t, l, a, d, c⟩ me.news).data.toList
  have f5 := F [88, 45, 73, 100] (rn.EN i).data.toList
  have f6 := F [88, 45, 76, 105, 110, 107] (rn.EN l).data.toList
  have f7 := F [77, 73, 77, 69, 45, 86, 101, 114, 115, 105, 111, 110] [49, 46, 48]
  have f8 := F [67, 111, 110, 116, 101, 110, 116, 45, 84, 121, 112, 101] [116, 101, 120, 116, 47, 112, 108, 97, 105, 110, 59, 32, 99, 104, 97, 114, 115, 101, 116, 61, 117, 116, 102, 45, 56]
  have f9 := F [67, 111, 110, 116, 101, 110, 116, 45, 84, 114, 97, 110, 115, 102, 101, 114, 45, 69, 110, 99, 111, 100, 105, 110, 103] [113, 117, 111, 116, 101, 100, 45, 112, 114, 105, 110, 116, 97, 98, 108, 101]
  have hnl : ml.nl.length = 2 := rfl
  simp only [List.length_cons, List.length_nil] at f1 f2 f3 f4 f5 f6 f7 f8 f9
  simp only at *
  omega
/-- A drawn entry's mail. -/
theorem drawn {i t l a c : ByteArray} {d : Int} (hi : i ∈ en.idL) (ht : t ∈ en.fldL) (hl : l ∈ en.linkL) (ha : a ∈ en.fldL) (hc : c ∈ en.conL) (d0 : 0 ≤ d) (d1 : d ≤ 4102444799) :
    ∃ s : ByteArray, en.Small ⟨i, t, l, a, d, c⟩ ∧ (∀ r, rn.ReRet ⟨i, t, l, a, d, c⟩ me.news r → r = .returned (.tuple #[.string s, .int .i64 0])) ∧ s.size ≤ 4000 ∧ ∃ fs b, ml.IsMail s.data.toList fs b := by
  have hok := en.drawn_ok hi ht hl ha hc d0 d1
  obtain ⟨s0, H, T, ps, sv, hT⟩ := me.told_of hok
  obtain ⟨e1, e2, e3, e4, e5, e6, e7⟩ := rn.eok_cases hok
  have hA := rn.enc_all a e4 default
  have hB := rn.enc_all t e2 default
  have hI := rn.enc_all i e1 default
  have hL := rn.enc_all l e3 default
  refine ⟨rn.rend ⟨i, t, l, a, d, c⟩ me.news, hT.small, ?_, by rw [Lib.size_eq]; exact rend_small hi ht hl ha hc d0 d1, _, _, me.rend_mail hok me.news_name hA hB hI hL⟩
  intro r hr
  rcases hr with ⟨h1, _⟩ | ⟨_, h1, _⟩ | ⟨_, _, h1⟩
  · exact absurd h1 (by decide)
  · exact absurd ⟨hok, me.news_name⟩ h1
  · exact h1

/-! The three lists of items. -/
def wP : ByteArray := ⟨#[98, 111, 100, 121, 46, 112, 101, 101, 107, 91, 93]⟩
def wF : ByteArray := ⟨#[70, 76, 65, 71, 83]⟩
def wT : ByteArray := ⟨#[66, 79, 68, 89, 91, 84, 69, 88, 84, 93]⟩
def wS : ByteArray := ⟨#[82, 70, 67, 56, 50, 50, 46, 83, 73, 90, 69]⟩
def wN : ByteArray := ⟨#[110, 111, 110, 101]⟩
theorem itP : itm wP = some (.bd true 0) := rfl
theorem itF : itm wF = some .fl := rfl
theorem itT : itm wT = some (.bd false 2) := rfl
theorem itS : itm wS = some .sz := rfl
theorem itN : itm wN = none := rfl
structure Dr (x : Fm) (u f : Int) (s : ByteArray) (b : B) (fs : List (B × B)) : Prop where
  of : Of x u f s
  u : 1 ≤ u ∧ u ≤ 100
  f : 0 ≤ f ∧ f ≤ 31
  size : s.size ≤ 4000
  ob : x.ob = some b
  mail : ml.IsMail x.l fs b
theorem dr_ex {u f : Int} {s : ByteArray} (hu : 1 ≤ u ∧ u ≤ 100) (hf : 0 ≤ f ∧ f ≤ 31) (hs : s.size ≤ 4000) (hm : ∃ fs b, ml.IsMail s.data.toList fs b) : ∃ x b fs, Dr x u f s b fs := by
  obtain ⟨fs, b, hm⟩ := hm
  exact ⟨⟨s.data.toList, u.toNat, f.toNat, some b⟩, b, fs, ⟨rfl, rfl, rfl, .inl ⟨b, fs, rfl, hm⟩⟩, hu, hf, hs, rfl, hm⟩
theorem fr_of {x : Fm} {u f : Int} {s : ByteArray} {b : B} {fs : List (B × B)} (h : Dr x u f s b fs) {q : Int} (hq : 1 ≤ q ∧ q ≤ 100) {ks : List ByteArray} (hk : ks.length ≤ 30) {wu : Bool} {A : ByteArray} {sn : Bool} {c : Int} (hr : FtRet x u f s q ks wu (.returned (.tuple #[.string A, .bool sn, .int .i64 c]))) : Fr x q.toNat ks wu A sn c := by
  have hfit : Fits u f s ks := ⟨hk, ⟨by have := h.u; omega, by have := h.u; omega⟩, h.f, h.size⟩
  obtain ⟨B', r, d, e, hv⟩ := hr
  simp only [Ending.returned.injEq, Value.tuple.injEq, Array.mk.injEq, List.cons.injEq, Value.string.injEq, Value.bool.injEq, Value.int.injEq, and_true, true_and] at e
  obtain ⟨rfl, rfl, rfl⟩ := e
  rcases hv with ⟨a1, _⟩ | ⟨_, a2, _⟩ | ⟨_, a2, _⟩ | ⟨_, _, a3⟩
  · omega
  · exact absurd hfit a2
  · exact absurd ⟨hq.1, by omega⟩ a2
  · exact a3
theorem tx_bd {x : Fm} {u f : Int} {s : ByteArray} {b : B} {fs : List (B × B)} (h : Dr x u f s b fs) (pk : Bool) (i : Nat) : TI x (.bd pk i) = some (bodyTx x b i) := by
  show Option.map (fun b => bodyTx x b i) x.ob = _
  rw [h.ob]
  rfl
theorem one {x : Fm} {u f : Int} {s : ByteArray} {b : B} {fs : List (B × B)} (h : Dr x u f s b fs) {q : Int} (hq : 1 ≤ q ∧ q ≤ 100) {A : ByteArray} {sn : Bool} {c : Int} (hr : FtRet x u f s q [wP] false (.returned (.tuple #[.string A, .bool sn, .int .i64 c]))) :
    sn = false ∧ c = 0 ∧ ∃ P : ByteArray, 2 ≤ P.size ∧ P.size ≤ 100 ∧ A = P ++ s ++ ⟨#[41, 13, 10]⟩ := by
  have ht : tx1 x wP = some (bodyTx x b 0) := by unfold tx1; rw [itP]; exact tx_bd h true 0
  rcases fr_of h hq (by decide) hr with ⟨_, hA, hs, hc⟩ | ⟨⟨j, hj, hn⟩, _⟩
  rotate_left
  · have hj0 : j = 0 := by simp at hj; omega
    subst hj0
    rw [show ([wP] : List ByteArray).getD 0 ky.nt = wP from rfl, ht] at hn
    cases hn
  refine ⟨by rw [hs]; rfl, hc, ⟨([42, 32] ++ Lib.decDigits q.toNat ++ [32, 70, 69, 84, 67, 72, 32, 40] ++ (kBo ++ [91] ++ pt 0 ++ [93, 32, 123] ++ Lib.decDigits (fq.part x b 0).length ++ [125, 13, 10])).toArray⟩, ?_, ?_, ?_⟩
  · rw [Lib.size_eq]
    simp only [List.length_append, List.length_cons, List.length_nil]
    omega
  · have h1 := dec4 (n := q.toNat) (by have := hq.2; omega)
    have h2 := dec4 (n := (fq.part x b 0).length) (by have := fq.part_len x b 0 fs h.mail; have h3 := h.of.1; have h4 := h.size; rw [h3, ← Lib.size_eq] at this; omega)
    rw [Lib.size_eq]
    show ([42, 32] ++ Lib.decDigits q.toNat ++ [32, 70, 69, 84, 67, 72, 32, 40] ++ ([66, 79, 68, 89] ++ [91] ++ [] ++ [93, 32, 123] ++ Lib.decDigits (fq.part x b 0).length ++ [125, 13, 10]) : List UInt8).length ≤ 100
    simp only [List.length_append, List.length_cons, List.length_nil]
    omega
  · have e1 : txs x [wP] false = [bodyTx x b 0] := by
      show [] ++ [tx x wP] = _
      unfold tx
      rw [ht]
      rfl
    have e2 : fq.part x b 0 = s.data.toList := by
      show ml.partOf x.l [] b = _
      unfold ml.partOf
      rw [if_pos rfl]
      exact h.of.1
    have e3 : (⟨s.data.toList.toArray⟩ : ByteArray) = s := by cases s; simp
    rw [hA]
    unfold fin
    rw [e1]
    conv => rhs; rw [← e3]
    rw [show (⟨#[41, 13, 10]⟩ : ByteArray) = ⟨([41, 13, 10] : List UInt8).toArray⟩ from rfl, cat2, cat2]
    show (⟨([42, 32] ++ Lib.decDigits q.toNat ++ [32, 70, 69, 84, 67, 72, 32, 40] ++ (bodyTx x b 0 ++ []) ++ [41, 13, 10]).toArray⟩ : ByteArray) = _
    unfold bodyTx
    rw [e2]
    simp
theorem two {x : Fm} {u f : Int} {s : ByteArray} {b : B} {fs : List (B × B)} (h : Dr x u f s b fs) {q : Int} (hq : 1 ≤ q ∧ q ≤ 100) {A : ByteArray} {sn : Bool} {c : Int} (hr : FtRet x u f s q [wF, wT, wS] true (.returned (.tuple #[.string A, .bool sn, .int .i64 c]))) : sn = true ∧ c = 0 := by
  rcases fr_of h hq (by decide) hr with ⟨_, _, hs, hc⟩ | ⟨⟨j, hj, hn⟩, _⟩
  · exact ⟨by rw [hs]; rfl, hc⟩
  · exfalso
    have hj3 : j = 0 ∨ j = 1 ∨ j = 2 := by simp at hj; omega
    rcases hj3 with rfl | rfl | rfl
    · have : tx1 x wF = some (ftx x) := by unfold tx1; rw [itF]; rfl
      rw [show ([wF, wT, wS] : List ByteArray).getD 0 ky.nt = wF from rfl, this] at hn
      cases hn
    · have : tx1 x wT = some (bodyTx x b 2) := by unfold tx1; rw [itT]; exact tx_bd h false 2
      rw [show ([wF, wT, wS] : List ByteArray).getD 1 ky.nt = wT from rfl, this] at hn
      cases hn
    · have : tx1 x wS = some (stx x) := by unfold tx1; rw [itS]; rfl
      rw [show ([wF, wT, wS] : List ByteArray).getD 2 ky.nt = wS from rfl, this] at hn
      cases hn
theorem three {x : Fm} {u f : Int} {s : ByteArray} {b : B} {fs : List (B × B)} (h : Dr x u f s b fs) {q : Int} (hq : 1 ≤ q ∧ q ≤ 100) {A : ByteArray} {sn : Bool} {c : Int} (hr : FtRet x u f s q [wN] false (.returned (.tuple #[.string A, .bool sn, .int .i64 c]))) : c = 3 := by
  rcases fr_of h hq (by decide) hr with ⟨hall, _⟩ | ⟨_, _, _, hc⟩
  · obtain ⟨t, ht⟩ := hall 0 (by decide)
    have : tx1 x wN = none := tx1_none itN
    rw [show ([wN] : List ByteArray).getD 0 ky.nt = wN from rfl, this] at ht
    cases ht
  · exact hc
/-- The mail and the end behind it, cut off again. -/
theorem cuts {A P s : ByteArray} (h : A = P ++ s ++ ⟨#[41, 13, 10]⟩) : A.size = P.size + s.size + 3 ∧ A.extract (P.size + s.size) (P.size + s.size + 3) = ⟨#[41, 13, 10]⟩ ∧ A.extract P.size (P.size + s.size) = s := by
  have hs : A.size = P.size + s.size + 3 := by rw [h, ByteArray.size_append, ByteArray.size_append]; rfl
  have hl : A.data.toList = P.data.toList ++ s.data.toList ++ [41, 13, 10] := by rw [h, ByteArray.data_append, Array.toList_append, ByteArray.data_append, Array.toList_append]
  have e3 : (⟨s.data.toList.toArray⟩ : ByteArray) = s := by cases s; simp
  refine ⟨hs, ut.bytes_ext ?_, ut.bytes_ext ?_⟩
  · rw [ext_mid, hl, Lib.size_eq P, Lib.size_eq s]
    rw [List.drop_append_of_le_length (by simp), show (P.data.toList.length + s.data.toList.length) = (P.data.toList ++ s.data.toList).length by simp, List.drop_length, Nat.add_sub_cancel_left]
    rfl
  · rw [ext_mid, hl, Lib.size_eq P, Lib.size_eq s, List.append_assoc, List.drop_left, show P.data.toList.length + s.data.toList.length - P.data.toList.length = s.data.toList.length by omega, List.take_left]
theorem texts1 (w : World) (p : ByteArray) : ky.TextsAt (w.alloc (.cells #[.string p] 9)) (.slice (some ⟨w.heap.size, 0, none⟩) 1 1) [p] := by
  refine ⟨_, 1, rfl, .inr ⟨w.heap.size, 0, rfl, fun j hj => ?_⟩⟩
  have hj0 : j = 0 := by simp at hj; omega
  subst hj0
  exact cell3 w #[.string p] 9 0 _ rfl
theorem texts3 (w : World) (p q r : ByteArray) : ky.TextsAt (w.alloc (.cells #[.string p, .string q, .string r] 9)) (.slice (some ⟨w.heap.size, 0, none⟩) 3 3) [p, q, r] := by
  refine ⟨_, 3, rfl, .inr ⟨w.heap.size, 0, rfl, fun j hj => ?_⟩⟩
  have hj3 : j = 0 ∨ j = 1 ∨ j = 2 := by simp at hj; omega
  rcases hj3 with rfl | rfl | rfl
  · exact cell3 w #[.string p, .string q, .string r] 9 0 _ rfl
  · exact cell3 w #[.string p, .string q, .string r] 9 1 _ rfl
  · exact cell3 w #[.string p, .string q, .string r] 9 2 _ rfl
theorem smallP : tx.Smalls [wP] := ⟨by decide, fun j hj => by have hj0 : j = 0 := by simp at hj; omega
                                                              subst hj0; decide⟩
theorem smallN : tx.Smalls [wN] := ⟨by decide, fun j hj => by have hj0 : j = 0 := by simp at hj; omega
                                                              subst hj0; decide⟩
theorem smallK : tx.Smalls [wF, wT, wS] := ⟨by decide, fun j hj => by have hj3 : j = 0 ∨ j = 1 ∨ j = 2 := by simp at hj; omega
                                                                      rcases hj3 with rfl | rfl | rfl <;> decide⟩
end Go.Proofs.YtbokolpjdaamiaaGreatDoor.fe
