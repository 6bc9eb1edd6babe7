/-
  What a fetch tells of a mail: all items together, the program's way.
-/
import Derived.Test.YtbokolpjdaamiaaGreatDoorPkbn

namespace Go.Proofs.YtbokolpjdaamiaaGreatDoor.fq
open Go.RowKit
open gr bl
open ky (TextsAt nt)
set_option linter.unusedVariables false

set_option maxHeartbeats 1000000 in
set_option maxRecDepth 100000 in
theorem count_big (n : Nat) (wd : List UInt8) (w : World) (hT : tb.TP w) (hn : n ≤ 4294967295) (hw : wd.length ≤ 200000) :
    Calls Tryz.prog 37 #[.int .i64 (n : Int), .string ⟨wd.toArray⟩] w fun e w' => e = .returned (.string ⟨(cl n wd).toArray⟩) ∧ Below w.heap.size w w' := by
  have hd := dz.dec_small hn
  have HC : Hid ((⟨#[42, 32]⟩ : ByteArray) ++ ⟨(Lib.decDigits n).toArray⟩ ++ ⟨#[32]⟩ ++ ⟨wd.toArray⟩ ++ ⟨#[13, 10]⟩ = ⟨(cl n wd).toArray⟩) := by
    show (⟨[42, 32].toArray⟩ : ByteArray) ++ ⟨(Lib.decDigits n).toArray⟩ ++ ⟨[32].toArray⟩ ++ ⟨wd.toArray⟩ ++ ⟨[13, 10].toArray⟩ = _
    rw [cat2, cat2, cat2, cat2]
    rfl
  have HI := dz.itoa_any n hn w hT
  clear hT
  obtain ⟨D, hD⟩ : ∃ D : ByteArray, D = ⟨(Lib.decDigits n).toArray⟩ := ⟨_, rfl⟩
  obtain ⟨X, hX⟩ : ∃ X : ByteArray, X = ⟨wd.toArray⟩ := ⟨_, rfl⟩
  have hDs : D.size ≤ 10 := by rw [hD, Lib.size_eq]; simpa using hd
  have hXs : X.size ≤ 200000 := by rw [hX, Lib.size_eq]; simpa using hw
  rw [← hD] at HI HC
  rw [← hX] at HC ⊢
  clear hD hX hd hw
  go_enter Tryz.func37, Tryz.ntmps37
  go_wp2_with fail
  refine HI.mono ?_
  rintro e w1 ⟨rfl, hb⟩
  clear HI
  have s1 : ((⟨#[42, 32]⟩ : ByteArray) ++ D).size ≤ 20 := by rw [ByteArray.size_append]; show 2 + D.size ≤ 20; omega
  have s2 : ((⟨#[42, 32]⟩ : ByteArray) ++ D ++ ⟨#[32]⟩).size ≤ 30 := by rw [ByteArray.size_append]; show _ + 1 ≤ 30; omega
  have s3 : ((⟨#[42, 32]⟩ : ByteArray) ++ D ++ ⟨#[32]⟩ ++ X).size ≤ 200040 := by rw [ByteArray.size_append]; omega
  have s4 : ((⟨#[42, 32]⟩ : ByteArray) ++ D ++ ⟨#[32]⟩ ++ X ++ ⟨#[13, 10]⟩).size ≤ 200050 := by rw [ByteArray.size_append]; show _ + 2 ≤ 200050; omega
  go_wp2
  go_ret
  exact ⟨congrArg (fun t => Ending.returned (Value.string t)) HC.out, hb⟩

/-! The items of words, and what is asked of them. -/
def tl (x : Fm) (is : List It) : List B := is.map fun i => (TI x i).getD []
theorem at_of {ks : List ByteArray} {s : ByteArray} (h : AllIt ks ks.length) (hs : s ∈ ks) : ∃ i, itm s = some i := by
  obtain ⟨j, hj, rfl⟩ := List.getElem_of_mem hs
  have := h j hj
  rw [List.getD_eq_getElem?_getD, List.getElem?_eq_getElem hj] at this
  exact Option.ne_none_iff_exists'.1 this
theorem tl_its {x : Fm} {ks : List ByteArray} (h : AllIt ks ks.length) : tl x (its ks) = ks.map (tx x) := by
  unfold tl its
  rw [List.map_map]
  refine List.map_congr_left fun s hs => ?_
  obtain ⟨i, hi⟩ := at_of h hs
  show (TI x ((itm s).getD .fl)).getD [] = tx x s
  unfold tx tx1
  rw [hi]
  rfl
theorem has_ui {ks : List ByteArray} (h : AllIt ks ks.length) : hasN (its ks) kUi = ks.any isUi := by
  unfold hasN its
  rw [List.any_map]
  rw [Bool.eq_iff_iff, List.any_eq_true, List.any_eq_true]
  refine exists_congr fun s => and_congr_right fun hs => ?_
  obtain ⟨i, hi⟩ := at_of h hs
  show decide (nmOf ((itm s).getD .fl) = kUi) = true ↔ isUi s = true
  unfold isUi
  rw [hi]
  rcases It.four i with rfl | rfl | rfl | ⟨pk, j, rfl⟩
  · decide
  · decide
  · decide
  · cases pk with
    | false => exact ⟨fun y => by exact absurd (of_decide_eq_true y) (by show ¬ kBo = kUi; decide), fun y => by exact absurd (show false = true from y) (by decide)⟩
    | true => exact ⟨fun y => by exact absurd (of_decide_eq_true y) (by show ¬ kPk = kUi; decide), fun y => by exact absurd (show false = true from y) (by decide)⟩
theorem has_sn {ks : List ByteArray} (h : AllIt ks ks.length) : hasN (its ks) kBo = ks.any isSn := by
  unfold hasN its
  rw [List.any_map]
  rw [Bool.eq_iff_iff, List.any_eq_true, List.any_eq_true]
  refine exists_congr fun s => and_congr_right fun hs => ?_
  obtain ⟨i, hi⟩ := at_of h hs
  show decide (nmOf ((itm s).getD .fl) = kBo) = true ↔ isSn s = true
  unfold isSn
  rw [hi]
  rcases It.four i with rfl | rfl | rfl | ⟨pk, j, rfl⟩
  · decide
  · decide
  · decide
  · cases pk with
    | false => exact ⟨fun _ => rfl, fun _ => decide_eq_true rfl⟩
    | true => exact ⟨fun y => by exact absurd (of_decide_eq_true y) (by show ¬ kPk = kBo; decide), fun y => by exact absurd (show false = true from y) (by decide)⟩
theorem tx1_of {x : Fm} {ks : List ByteArray} {k : Nat} (h : AllIt ks ks.length) (hk : k < ks.length) : tx1 x (ks.getD k nt) = TI x ((its ks).getD k .fl) := by
  obtain ⟨i, hi⟩ := Option.ne_none_iff_exists'.1 (h k hk)
  rw [its_at hk hi]
  unfold tx1
  rw [hi]
  rfl
theorem tl_len (x : Fm) (is : List It) : (tl x is).length = is.length := by simp [tl]
theorem tl_at {x : Fm} {is : List It} {k : Nat} (h : k < is.length) {t : B} (e : TI x (is.getD k .fl) = some t) : (tl x is).getD k [] = t := by
  have e2 : is[k]? = some (is.getD k .fl) := by rw [List.getD_eq_getElem?_getD, List.getElem?_eq_getElem h]; rfl
  unfold tl
  rw [List.getD_eq_getElem?_getD, List.getElem?_map, e2]
  show ((TI x (is.getD k .fl)).getD []) = t
  rw [e]
  rfl
def LayT (V : List B) (k : Nat) (xs : List Value) : Prop := ∀ j, j < k → xs[j]? = some (.string ⟨(V.getD j []).toArray⟩)
theorem layT_step {V : List B} {k : Nat} {xs : List Value} (h : LayT V k xs) (hl : k < xs.length) {t : B} (e : V.getD k [] = t) : LayT V (k + 1) (xs.set k (.string ⟨t.toArray⟩)) := by
  intro j hj
  by_cases ee : j = k
  · subst ee
    rw [e, List.getElem?_set_self hl]
  · rw [List.getElem?_set_ne (by omega)]
    exact h j (by omega)
/-- What fetched answers. -/
def FdRet (x : Fm) (seq : Nat) (ks : List ByteArray) (wu : Bool) (e : Ending) : Prop :=
  ((∀ j, j < ks.length → ∃ t, tx1 x (ks.getD j nt) = some t) ∧ e = .returned (.tuple #[.string ⟨(fin x seq ks wu).toArray⟩, .int .i64 0])) ∨
  ((∃ j, j < ks.length ∧ tx1 x (ks.getD j nt) = none) ∧ e = .returned (.tuple #[.string ⟨#[]⟩, .int .i64 3]))
theorem fin_cl (x : Fm) (seq : Nat) (ks : List ByteArray) (wu : Bool) : cl seq ([70, 69, 84, 67, 72, 32, 40] ++ jn 32 (txs x ks wu) ++ [41]) = fin x seq ks wu := by
  unfold cl fin
  simp
/-- The list that is told of: the words' items, ahead of them perhaps the uid. -/
def Told (x : Fm) (ks : List ByteArray) (wu : Bool) (is : List It) : Prop :=
  is.length ≤ 31 ∧ tl x is = txs x ks wu ∧ ((∀ j, j < is.length → ∃ t, TI x (is.getD j .fl) = some t) → ∀ j, j < ks.length → ∃ t, tx1 x (ks.getD j nt) = some t) ∧ ∀ k, k < is.length → TI x (is.getD k .fl) = none → ∃ j, j < ks.length ∧ tx1 x (ks.getD j nt) = none
theorem told_same {x : Fm} {ks : List ByteArray} {wu : Bool} (h : AllIt ks ks.length) (hl : ks.length ≤ 30) (hw : (wu && !ks.any isUi) = false) : Told x ks wu (its ks) := by
  refine ⟨by rw [its_len]; omega, ?_, fun y j hj => ?_, fun k hk y => ?_⟩
  · rw [tl_its h]
    unfold txs
    rw [hw]
    rfl
  · rw [tx1_of h hj]
    exact y j (by rw [its_len]; exact hj)
  · rw [its_len] at hk
    exact ⟨k, hk, by rw [tx1_of h hk]; exact y⟩
theorem told_more {x : Fm} {ks : List ByteArray} {wu : Bool} (h : AllIt ks ks.length) (hl : ks.length ≤ 30) (hw : (wu && !ks.any isUi) = true) : Told x ks wu (.ui :: its ks) := by
  refine ⟨by rw [List.length_cons, its_len]; omega, ?_, fun y j hj => ?_, fun k hk y => ?_⟩
  · unfold txs
    rw [if_pos hw, ← tl_its h]
    rfl
  · rw [tx1_of h hj]
    exact y (j + 1) (by rw [List.length_cons, its_len]; omega)
  · rw [List.length_cons, its_len] at hk
    cases k with
    | zero => exact absurd (show some (utx x) = none from y) (by simp)
    | succ k => exact ⟨k, by omega, by rw [tx1_of h (by omega)]; exact y⟩

set_option maxHeartbeats 8000000 in
set_option maxRecDepth 100000 in
theorem fetched_any (x : Fm) (T : ByteArray) (hT : x.l = T.data.toList) (hx : x.Ok) (v : Value) (ks : List ByteArray) (hall : AllIt ks ks.length) (seq : Nat) (wu : Bool) (w : World) (h : ItAt w v (its ks)) (hl : ks.length ≤ 30) (hseq : seq ≤ 4294967295) (hP : tb.TP w) (hF : tb.TF w) (mx : Int) (hm : w.cell? ⟨1, 0, none⟩ = some (.int .i64 mx)) :
    Calls Tryz.prog 18 #[.agg #[.int .i64 (x.u : Int), .int .i64 (x.f : Int), .string T], .int .i64 (seq : Int), v, .bool wu] w fun e w' => FdRet x seq ks wu e ∧ Below w.heap.size w w' := by
  obtain ⟨i0, hi, hz0, hz1, hz2⟩ := info_parts sp.infoStr
  obtain ⟨j0, hj, jz0, jz1, jz2⟩ := info_parts infoIt
  have HU := has_ui hall
  have HTS : (wu && !ks.any isUi) = false → Told x ks wu (its ks) := told_same hall hl
  have HTM : (wu && !ks.any isUi) = true → Told x ks wu (.ui :: its ks) := told_more hall hl
  have hg : 1 < w.heap.size := World.block_lt_of_cell? w _ hm
  have HTX : Hid (∀ i W, Below w.heap.size w W → Calls Tryz.prog 36 #[.agg #[.string (nmB i), .string (paB i)], .agg #[.int .i64 (x.u : Int), .int .i64 (x.f : Int), .string T]] W fun e w' => TxRet x i e ∧ Below W.heap.size W w') := fun i W hW => text_any x T hT hx i W (tb.keep' hP hW) (tb.keepS hF hW) mx ((hW.cell (p := ⟨1, 0, none⟩) hg).trans hm)
  have HHA : Hid (∀ W u is l, ItAt W u is → is.length ≤ 31 → Calls Tryz.prog 19 #[u, .string ⟨l.toArray⟩] W fun e w' => e = .returned (.bool (hasN is l)) ∧ Below W.heap.size W w') := fun W u is l h1 h2 => has_any u is l W h1 (by omega)
  have HCL : Hid (∀ wd W, wd.length ≤ 200000 → Below w.heap.size w W → Calls Tryz.prog 37 #[.int .i64 (seq : Int), .string ⟨wd.toArray⟩] W fun e w' => e = .returned (.string ⟨(cl seq wd).toArray⟩) ∧ Below W.heap.size W w') := fun wd W h1 h2 => count_big seq wd W (tb.keep' hP h2) hseq h1
  have HJO : Hid (∀ (u : Value) (V : List B) W, ((V = [] ∧ ∃ a cap, u = .slice a 0 cap) ∨ ∃ b cap, u = .slice (some ⟨b, 0, none⟩) V.length cap ∧ V.length ≤ cap ∧ b < W.heap.size ∧ ∀ j, j < V.length → W.cell? ⟨b, j, none⟩ = some (.string ⟨(V.getD j []).toArray⟩)) → V.length + lens V ≤ 1048576 → Calls Tryz.prog 38 #[u, .string ⟨#[32]⟩] W fun e w' => e = .returned (.string ⟨(jn 32 V).toArray⟩) ∧ Below W.heap.size W w') := fun u V W h1 h2 => join_any u V 32 W h1 h2
  have HSM := txs_len hx ks wu hl
  have HSMH : Hid ((txs x ks wu).length ≤ 31 ∧ lens (txs x ks wu) ≤ 140000) := HSM
  have HJS : Hid ((jn 32 (txs x ks wu)).length ≤ 150000) := jn_small hx ks wu hl
  have c0 := cell3 w #[.int .i64 (x.u : Int), .int .i64 (x.f : Int), .string T] 30 0 _ rfl
  have c1 := cell3 w #[.int .i64 (x.u : Int), .int .i64 (x.f : Int), .string T] 30 1 _ rfl
  have c2 := cell3 w #[.int .i64 (x.u : Int), .int .i64 (x.f : Int), .string T] 30 2 _ rfl
  have b0 : Below w.heap.size w (w.alloc (.cells #[.int .i64 (x.u : Int), .int .i64 (x.f : Int), .string T] 30)) := (Below.refl _ _).alloc (Nat.le_refl _) _
  have hal := it_below h b0
  obtain ⟨W0, hW0⟩ : ∃ W0, W0 = w.alloc (.cells #[.int .i64 (x.u : Int), .int .i64 (x.f : Int), .string T] 30) := ⟨_, rfl⟩
  have HW0 : Hid (w.alloc (.cells #[.int .i64 (x.u : Int), .int .i64 (x.f : Int), .string T] 30) = W0) := hW0.symm
  rw [← hW0] at c0 c1 c2 b0 hal
  have HCE : Hid (∀ W, Below W0.heap.size W0 W → W.cell? ⟨w.heap.size, 0, none⟩ = some (.int .i64 (x.u : Int)) ∧ W.cell? ⟨w.heap.size, 1, none⟩ = some (.int .i64 (x.f : Int)) ∧ W.cell? ⟨w.heap.size, 2, none⟩ = some (.string T)) := fun W hW => ⟨kq hW c0, kq hW c1, kq hW c2⟩
  have HBW : Hid (∀ W, Below W0.heap.size W0 W → Below w.heap.size w W) := fun W hW => b0.trans (hW.mono b0.size)
  obtain ⟨b, off, cap, rfl, hh⟩ := h
  have HAL : Hid (ItAt W0 (.slice (some ⟨b, off, none⟩) (its ks).length cap) (its ks)) := hal
  have hil : (its ks).length ≤ 30 := by rw [its_len]; exact hl
  have HIL : Hid ((its ks).length = ks.length) := its_len ks
  clear hT hx hall hP hF hm hg hseq c0 c1 c2 b0 hal hh hW0 HSM
  obtain ⟨nn, hnn⟩ : ∃ nn, nn = (its ks).length := ⟨_, rfl⟩
  rw [← hnn] at hil
  cases wu with
  | false =>
    have HTD : Hid (Told x ks false (its ks)) := HTS (by rfl)
    have HNN : Hid (nn = (its ks).length) := hnn
    have HAT : Hid (ItAt W0 (.slice (some ⟨b, off, none⟩) nn cap) (its ks)) := (show ItAt _ _ _ by rw [hnn]; exact HAL.out)
    have HBT : Hid (Below W0.heap.size W0 W0) := Below.refl _ _
    rw [← hnn]
    clear HU HTS HTM hnn
    go_enter Tryz.func18, Tryz.ntmps18
    have HAC : Hid (∀ W, Below W0.heap.size W0 W → ∀ j, j < (its ks).length → W.cell? ⟨b, off + j * 2, none⟩ = some (.string (nmB ((its ks).getD j .fl))) ∧ W.cell? ⟨b, off + j * 2 + 1, none⟩ = some (.string (paB ((its ks).getD j .fl)))) := fun W hW => by
      obtain ⟨b2, off2, cap2, he2, hh2⟩ := it_below HAT.out hW
      simp only [Value.slice.injEq, Option.some.injEq, Addr.mk.injEq] at he2
      obtain ⟨⟨rfl, rfl, _⟩, _, _⟩ := he2
      exact hh2
    go_wp2_with (at_make; rw [HW0.out]; refine wpList_make_full _ rfl _ _ 33 rfl W0.heap.size 9 i0 _ 1 Tryz.underlying33 hi hz0 hz1 _ _ _ _ nn rfl rfl rfl rfl (by rw [hz2]; omega) (by unfold maxLen; omega) (Nat.le_refl _) ?_; intro w1 hown1 hg1)
    have hb1 : Below W0.heap.size W0 w1 := (Below.refl _ _).grown hg1 (Nat.le_refl _) (fun k hk => by cases hk)
    clear hg1
    go_loopw [30] (fun i wr => ∃ (k : Nat) (xs : List Value), k ≤ nn ∧ i = .int .i64 k ∧ xs.length = nn * 1 ∧ LayT (tl x (its ks)) k xs ∧ (∀ j, j < k → ∃ t, TI x ((its ks).getD j .fl) = some t) ∧ wr.ownsRow W0.heap.size 9 1 (.slice (some ⟨W0.heap.size, 0, none⟩) nn nn) nn xs ∧ Below W0.heap.size W0 wr) (fun i _ => nn - (intOf i).toNat)
    case atStart => exact ⟨0, _, Nat.zero_le _, rfl, hown1.1.symm ▸ rfl, fun j hj => absurd hj (Nat.not_lt_zero _), fun j hj => absurd hj (Nat.not_lt_zero _), hown1, hb1⟩
    case round =>
      clear hown1 hb1
      obtain ⟨k, xs, hk, rfl, hxl, hlay, hok, hown, hbw⟩ := hrel
      have HLY : Hid (LayT (tl x (its ks)) k xs) := hlay
      have HL : Hid (xs.length = nn * 1) := hxl
      have HOK : Hid (∀ j, j < k → ∃ t, TI x ((its ks).getD j .fl) = some t) := hok
      have HBT2 : Hid (Below W0.heap.size W0 wr) := HBT.out.trans (hbw.mono HBT.out.size)
      clear hxl hlay hok
      by_cases hlt : k < nn
      · have hka : k < (its ks).length := by rw [← HNN.out]; exact hlt
        have HKA : Hid (k < (its ks).length) := hka
        obtain ⟨v0, v1⟩ := HAC.out wr hbw k hka
        try simp only [Nat.zero_add] at v0 v1
        have hlt' : (k : Int) < (nn : Int) := by omega
        obtain ⟨m0, m1, m2⟩ := HCE.out wr HBT2.out
        have HTE : Hid (∀ W, Below w.heap.size w W → Calls Tryz.prog 36 #[.agg #[.string (nmB ((its ks).getD k .fl)), .string (paB ((its ks).getD k .fl))], .agg #[.int .i64 (x.u : Int), .int .i64 (x.f : Int), .string T]] W fun e w' => TxRet x ((its ks).getD k .fl) e ∧ Below W.heap.size W w') := fun W hW => HTX.out _ W hW
        generalize nmB ((its ks).getD k .fl) = X at v0 HTE
        generalize paB ((its ks).getD k .fl) = Y at v1 HTE
        have HBN : Hid (Below wr.heap.size wr (wr.alloc (.cells #[.string X, .string Y] 63))) := (Below.refl _ _).alloc (Nat.le_refl _) _
        have hGm : w.heap.size < wr.heap.size := World.block_lt_of_cell? wr _ m0
        clear hka
        go_wp2_with fail
        refine (HTE.out _ (HBW.out _ (HBT2.out.trans (HBN.out.mono HBT2.out.size)))).mono ?_
        rintro e w2 ⟨htx, hb2⟩
        have hb3 := HBN.out.trans (hb2.mono HBN.out.size)
        have hown2 := ow.own_below hown hb3
        have HB3 : Hid (Below W0.heap.size W0 w2) := hbw.trans (hb3.mono hbw.size)
        have HO : Hid (w2.ownsRow W0.heap.size 9 1 (.slice (some ⟨W0.heap.size, 0, none⟩) nn nn) nn xs) := hown2
        clear hb2 hb3 hown hbw v0 v1 m0 m1 m2 HTE
        rcases htx with ⟨t, ht, rfl⟩ | ⟨hno, O, rfl⟩
        · have HLY2 : Hid (LayT (tl x (its ks)) (k + 1) (xs.set k (.string ⟨t.toArray⟩))) := layT_step HLY.out (by rw [HL.out]; omega) (tl_at HKA.out ht)
          have HOK2 : Hid (∀ j, j < k + 1 → ∃ t, TI x ((its ks).getD j .fl) = some t) := fun j hj => by
            by_cases ee : j = k
            · subst ee; exact ⟨t, ht⟩
            · exact HOK.out j (by omega)
          clear ht
          generalize (⟨t.toArray⟩ : ByteArray) = Z at HLY2 ⊢
          have q0 := hown2.cellAt k (by omega)
          rw [List.getElem?_eq_getElem (by rw [HL.out]; omega)] at q0
          have f0 := hown2.frozenAt k
          clear hown2
          generalize xs[k]'(by rw [HL.out]; omega) = u0 at q0
          go_wp2
          go_roundw
          case rel => exact ⟨k + 1, xs.set k (.string Z), by omega, by go_num, by rw [List.length_set]; exact HL.out, HLY2.out, HOK2.out, (HO.out.stored _ _).1, HB3.out.setCell (Nat.le_refl _) _⟩
          case measure => simp [intOf]; omega
        · have HR : Hid (FdRet x seq ks false (.returned (.tuple #[.string ⟨#[]⟩, .int .i64 3]))) := .inr ⟨HTD.out.2.2.2 k HKA.out hno, rfl⟩
          have HB4 : Hid (Below w.heap.size w w2) := HBW.out _ (HBT.out.trans (HB3.out.mono HBT.out.size))
          clear hown2 hno
          go_wp2
          go_ret2
          exact ⟨HR.out, HB4.out⟩
      · have hkn : k = nn := by omega
        have hV : (tl x (its ks)).length = nn := by rw [tl_len, HNN.out]
        have hcl : ∀ j, j < (tl x (its ks)).length → wr.cell? ⟨W0.heap.size, j, none⟩ = some (.string ⟨((tl x (its ks)).getD j []).toArray⟩) := fun j hj => by
          have e := hown.cellAt j (by omega)
          rw [HLY.out j (by omega)] at e
          exact e
        have hlb : W0.heap.size < wr.heap.size := hown.lt _ rfl |>.2
        have HTL : tl x (its ks) = txs x ks false := HTD.out.2.1
        have hJ := HJO.out (.slice (some ⟨W0.heap.size, 0, none⟩) nn nn) (tl x (its ks)) wr (.inr ⟨_, nn, by rw [hV], by omega, hlb, hcl⟩) (by rw [HTL]; have := HSMH.out; omega)
        rw [HTL] at hJ
        have HJ : Hid (Calls Tryz.prog 38 #[.slice (some ⟨W0.heap.size, 0, none⟩) nn nn, .string ⟨#[32]⟩] wr fun e w' => e = .returned (.string ⟨(jn 32 (txs x ks false)).toArray⟩) ∧ Below wr.heap.size wr w') := hJ
        have HOKN : Hid (∀ j, j < ks.length → ∃ t, tx1 x (ks.getD j nt) = some t) := HTD.out.2.2.1 fun j hj => HOK.out j (by have := HNN.out; omega)
        have HWD : Hid ((⟨#[70, 69, 84, 67, 72, 32, 40]⟩ : ByteArray) ++ ⟨(jn 32 (txs x ks false)).toArray⟩ ++ ⟨#[41]⟩ = ⟨([70, 69, 84, 67, 72, 32, 40] ++ jn 32 (txs x ks false) ++ [41]).toArray⟩) := (show _ = _ by
          rw [show (⟨#[70, 69, 84, 67, 72, 32, 40]⟩ : ByteArray) = ⟨([70, 69, 84, 67, 72, 32, 40] : List UInt8).toArray⟩ from rfl, show (⟨#[41]⟩ : ByteArray) = ⟨([41] : List UInt8).toArray⟩ from rfl, cat2, cat2])
        have HCC : Hid (∀ W, Below w.heap.size w W → Calls Tryz.prog 37 #[.int .i64 (seq : Int), .string ((⟨#[70, 69, 84, 67, 72, 32, 40]⟩ : ByteArray) ++ ⟨(jn 32 (txs x ks false)).toArray⟩ ++ ⟨#[41]⟩)] W fun e w' => e = .returned (.string ⟨(fin x seq ks false).toArray⟩) ∧ Below W.heap.size W w') := fun W hW => by
          rw [HWD.out, ← fin_cl]
          exact HCL.out _ W (by rw [List.length_append, List.length_append]; have := HJS.out; show 7 + _ + 1 ≤ 200000; omega) hW
        have hJs : (⟨(jn 32 (txs x ks false)).toArray⟩ : ByteArray).size ≤ 150000 := by rw [Lib.size_eq]; exact HJS.out
        clear hJ HWD hV hcl hlb HTL hown
        generalize (⟨(jn 32 (txs x ks false)).toArray⟩ : ByteArray) = J at HJ HCC hJs
        have s1 : ((⟨#[70, 69, 84, 67, 72, 32, 40]⟩ : ByteArray) ++ J).size ≤ 150010 := by rw [ByteArray.size_append]; show 7 + J.size ≤ 150010; omega
        have s2 : ((⟨#[70, 69, 84, 67, 72, 32, 40]⟩ : ByteArray) ++ J ++ ⟨#[41]⟩).size ≤ 150020 := by rw [ByteArray.size_append]; show _ + 1 ≤ 150020; omega
        have HR : Hid (FdRet x seq ks false (.returned (.tuple #[.string ⟨(fin x seq ks false).toArray⟩, .int .i64 0]))) := .inl ⟨HOKN.out, rfl⟩
        generalize (⟨(fin x seq ks false).toArray⟩ : ByteArray) = FI at HCC HR
        clear hbw hkn
        go_wp2_with fail
        refine HJ.out.mono ?_
        rintro e w5 ⟨rfl, hb5⟩
        have HB5 : Hid (Below w.heap.size w w5) := (HBW.out _ HBT2.out).trans (hb5.mono (HBW.out _ HBT2.out).size)
        clear hb5 HJ
        go_wp2_with fail
        refine (HCC.out w5 HB5.out).mono ?_
        rintro e w6 ⟨rfl, hb6⟩
        have HB6 : Hid (Below w.heap.size w w6) := HB5.out.trans (hb6.mono HB5.out.size)
        clear hb6 HCC
        go_wp2
        go_ret2
        exact ⟨HR.out, HB6.out⟩
  | true =>
    have HHC : Hid (Calls Tryz.prog 19 #[.slice (some ⟨b, off, none⟩) nn cap, .string ⟨#[85, 73, 68]⟩] W0 fun e w' => e = .returned (.bool (ks.any isUi)) ∧ Below W0.heap.size W0 w') := (show Calls _ _ _ _ _ by
      have := HHA.out W0 (.slice (some ⟨b, off, none⟩) (its ks).length cap) (its ks) kUi HAL.out (by omega)
      rw [HU, ← hnn] at this
      exact this)
    cases hui : ks.any isUi with
    | true =>
      have HTD : Hid (Told x ks true (its ks)) := HTS (by rw [hui]; rfl)
      have HNN : Hid (nn = (its ks).length) := hnn
      rw [hui] at HHC
      rw [← hnn]
      have HAQ : Hid (∀ W, Below W0.heap.size W0 W → ItAt W (.slice (some ⟨b, off, none⟩) nn cap) (its ks)) := fun W hW => by rw [hnn]; exact it_below HAL.out hW
      clear HU HTS HTM hnn hui
      go_enter Tryz.func18, Tryz.ntmps18
      go_wp2_with fail
      rw [HW0.out]
      refine HHC.out.mono ?_
      rintro e wz ⟨rfl, hbz⟩
      have HBT : Hid (Below W0.heap.size W0 wz) := hbz
      have HAT : Hid (ItAt wz (.slice (some ⟨b, off, none⟩) nn cap) (its ks)) := HAQ.out wz hbz
      clear hbz HHC
      have HAC : Hid (∀ W, Below wz.heap.size wz W → ∀ j, j < (its ks).length → W.cell? ⟨b, off + j * 2, none⟩ = some (.string (nmB ((its ks).getD j .fl))) ∧ W.cell? ⟨b, off + j * 2 + 1, none⟩ = some (.string (paB ((its ks).getD j .fl)))) := fun W hW => by
        obtain ⟨b2, off2, cap2, he2, hh2⟩ := it_below HAT.out hW
        simp only [Value.slice.injEq, Option.some.injEq, Addr.mk.injEq] at he2
        obtain ⟨⟨rfl, rfl, _⟩, _, _⟩ := he2
        exact hh2
      go_wp2_with (at_make; refine wpList_make_full _ rfl _ _ 33 rfl wz.heap.size 9 i0 _ 1 Tryz.underlying33 hi hz0 hz1 _ _ _ _ nn rfl rfl rfl rfl (by rw [hz2]; omega) (by unfold maxLen; omega) (Nat.le_refl _) ?_; intro w1 hown1 hg1)
      have hb1 : Below wz.heap.size wz w1 := (Below.refl _ _).grown hg1 (Nat.le_refl _) (fun k hk => by cases hk)
      clear hg1
      go_loopw [30] (fun i wr => ∃ (k : Nat) (xs : List Value), k ≤ nn ∧ i = .int .i64 k ∧ xs.length = nn * 1 ∧ LayT (tl x (its ks)) k xs ∧ (∀ j, j < k → ∃ t, TI x ((its ks).getD j .fl) = some t) ∧ wr.ownsRow wz.heap.size 9 1 (.slice (some ⟨wz.heap.size, 0, none⟩) nn nn) nn xs ∧ Below wz.heap.size wz wr) (fun i _ => nn - (intOf i).toNat)
      case atStart => exact ⟨0, _, Nat.zero_le _, rfl, hown1.1.symm ▸ rfl, fun j hj => absurd hj (Nat.not_lt_zero _), fun j hj => absurd hj (Nat.not_lt_zero _), hown1, hb1⟩
      case round =>
        clear hown1 hb1
        obtain ⟨k, xs, hk, rfl, hxl, hlay, hok, hown, hbw⟩ := hrel
        have HLY : Hid (LayT (tl x (its ks)) k xs) := hlay
        have HL : Hid (xs.length = nn * 1) := hxl
        have HOK : Hid (∀ j, j < k → ∃ t, TI x ((its ks).getD j .fl) = some t) := hok
        have HBT2 : Hid (Below W0.heap.size W0 wr) := HBT.out.trans (hbw.mono HBT.out.size)
        clear hxl hlay hok
        by_cases hlt : k < nn
        · have hka : k < (its ks).length := by rw [← HNN.out]; exact hlt
          have HKA : Hid (k < (its ks).length) := hka
          obtain ⟨v0, v1⟩ := HAC.out wr hbw k hka
          try simp only [Nat.zero_add] at v0 v1
          have hlt' : (k : Int) < (nn : Int) := by omega
          obtain ⟨m0, m1, m2⟩ := HCE.out wr HBT2.out
          have HTE : Hid (∀ W, Below w.heap.size w W → Calls Tryz.prog 36 #[.agg #[.string (nmB ((its ks).getD k .fl)), .string (paB ((its ks).getD k .fl))], .agg #[.int .i64 (x.u : Int), .int .i64 (x.f : Int), .string T]] W fun e w' => TxRet x ((its ks).getD k .fl) e ∧ Below W.heap.size W w') := fun W hW => HTX.out _ W hW
          generalize nmB ((its ks).getD k .fl) = X at v0 HTE
          generalize paB ((its ks).getD k .fl) = Y at v1 HTE
          have HBN : Hid (Below wr.heap.size wr (wr.alloc (.cells #[.string X, .string Y] 63))) := (Below.refl _ _).alloc (Nat.le_refl _) _
          have hGm : w.heap.size < wr.heap.size := World.block_lt_of_cell? wr _ m0
          clear hka
          go_wp2_with fail
          refine (HTE.out _ (HBW.out _ (HBT2.out.trans (HBN.out.mono HBT2.out.size)))).mono ?_
          rintro e w2 ⟨htx, hb2⟩
          have hb3 := HBN.out.trans (hb2.mono HBN.out.size)
          have hown2 := ow.own_below hown hb3
          have HB3 : Hid (Below wz.heap.size wz w2) := hbw.trans (hb3.mono hbw.size)
          have HO : Hid (w2.ownsRow wz.heap.size 9 1 (.slice (some ⟨wz.heap.size, 0, none⟩) nn nn) nn xs) := hown2
          clear hb2 hb3 hown hbw v0 v1 m0 m1 m2 HTE
          rcases htx with ⟨t, ht, rfl⟩ | ⟨hno, O, rfl⟩
          · have HLY2 : Hid (LayT (tl x (its ks)) (k + 1) (xs.set k (.string ⟨t.toArray⟩))) := layT_step HLY.out (by rw [HL.out]; omega) (tl_at HKA.out ht)
            have HOK2 : Hid (∀ j, j < k + 1 → ∃ t, TI x ((its ks).getD j .fl) = some t) := fun j hj => by
              by_cases ee : j = k
              · subst ee; exact ⟨t, ht⟩
              · exact HOK.out j (by omega)
            clear ht
            generalize (⟨t.toArray⟩ : ByteArray) = Z at HLY2 ⊢
            have q0 := hown2.cellAt k (by omega)
            rw [List.getElem?_eq_getElem (by rw [HL.out]; omega)] at q0
            have f0 := hown2.frozenAt k
            clear hown2
            generalize xs[k]'(by rw [HL.out]; omega) = u0 at q0
            go_wp2
            go_roundw
            case rel => exact ⟨k + 1, xs.set k (.string Z), by omega, by go_num, by rw [List.length_set]; exact HL.out, HLY2.out, HOK2.out, (HO.out.stored _ _).1, HB3.out.setCell (Nat.le_refl _) _⟩
            case measure => simp [intOf]; omega
          · have HR : Hid (FdRet x seq ks true (.returned (.tuple #[.string ⟨#[]⟩, .int .i64 3]))) := .inr ⟨HTD.out.2.2.2 k HKA.out hno, rfl⟩
            have HB4 : Hid (Below w.heap.size w w2) := HBW.out _ (HBT.out.trans (HB3.out.mono HBT.out.size))
            clear hown2 hno
            go_wp2
            go_ret2
            exact ⟨HR.out, HB4.out⟩
        · have hkn : k = nn := by omega
          have hV : (tl x (its ks)).length = nn := by rw [tl_len, HNN.out]
          have hcl : ∀ j, j < (tl x (its ks)).length → wr.cell? ⟨wz.heap.size, j, none⟩ = some (.string ⟨((tl x (its ks)).getD j []).toArray⟩) := fun j hj => by
            have e := hown.cellAt j (by omega)
            rw [HLY.out j (by omega)] at e
            exact e
          have hlb : wz.heap.size < wr.heap.size := hown.lt _ rfl |>.2
          have HTL : tl x (its ks) = txs x ks true := HTD.out.2.1
          have hJ := HJO.out (.slice (some ⟨wz.heap.size, 0, none⟩) nn nn) (tl x (its ks)) wr (.inr ⟨_, nn, by rw [hV], by omega, hlb, hcl⟩) (by rw [HTL]; have := HSMH.out; omega)
          rw [HTL] at hJ
          have HJ : Hid (Calls Tryz.prog 38 #[.slice (some ⟨wz.heap.size, 0, none⟩) nn nn, .string ⟨#[32]⟩] wr fun e w' => e = .returned (.string ⟨(jn 32 (txs x ks true)).toArray⟩) ∧ Below wr.heap.size wr w') := hJ
          have HOKN : Hid (∀ j, j < ks.length → ∃ t, tx1 x (ks.getD j nt) = some t) := HTD.out.2.2.1 fun j hj => HOK.out j (by have := HNN.out; omega)
          have HWD : Hid ((⟨#[70, 69, 84, 67, 72, 32, 40]⟩ : ByteArray) ++ ⟨(jn 32 (txs x ks true)).toArray⟩ ++ ⟨#[41]⟩ = ⟨([70, 69, 84, 67, 72, 32, 40] ++ jn 32 (txs x ks true) ++ [41]).toArray⟩) := (show _ = _ by
            rw [show (⟨#[70, 69, 84, 67, 72, 32, 40]⟩ : ByteArray) = ⟨([70, 69, 84, 67, 72, 32, 40] : List UInt8).toArray⟩ from rfl, show (⟨#[41]⟩ : ByteArray) = ⟨([41] : List UInt8).toArray⟩ from rfl, cat2, cat2])
          have HCC : Hid (∀ W, Below w.heap.size w W → Calls Tryz.prog 37 #[.int .i64 (seq : Int), .string ((⟨#[70, 69, 84, 67, 72, 32, 40]⟩ : ByteArray) ++ ⟨(jn 32 (txs x ks true)).toArray⟩ ++ ⟨#[41]⟩)] W fun e w' => e = .returned (.string ⟨(fin x seq ks true).toArray⟩) ∧ Below W.heap.size W w') := fun W hW => by
            rw [HWD.out, ← fin_cl]
            exact HCL.out _ W (by rw [List.length_append, List.length_append]; have := HJS.out; show 7 + _ + 1 ≤ 200000; omega) hW
          have hJs : (⟨(jn 32 (txs x ks true)).toArray⟩ : ByteArray).size ≤ 150000 := by rw [Lib.size_eq]; exact HJS.out
          clear hJ HWD hV hcl hlb HTL hown
          generalize (⟨(jn 32 (txs x ks true)).toArray⟩ : ByteArray) = J at HJ HCC hJs
          have s1 : ((⟨#[70, 69, 84, 67, 72, 32, 40]⟩ : ByteArray) ++ J).size ≤ 150010 := by rw [ByteArray.size_append]; show 7 + J.size ≤ 150010; omega
          have s2 : ((⟨#[70, 69, 84, 67, 72, 32, 40]⟩ : ByteArray) ++ J ++ ⟨#[41]⟩).size ≤ 150020 := by rw [ByteArray.size_append]; show _ + 1 ≤ 150020; omega
          have HR : Hid (FdRet x seq ks true (.returned (.tuple #[.string ⟨(fin x seq ks true).toArray⟩, .int .i64 0]))) := .inl ⟨HOKN.out, rfl⟩
          generalize (⟨(fin x seq ks true).toArray⟩ : ByteArray) = FI at HCC HR
          clear hbw hkn
          go_wp2_with fail
          refine HJ.out.mono ?_
          rintro e w5 ⟨rfl, hb5⟩
          have HB5 : Hid (Below w.heap.size w w5) := (HBW.out _ HBT2.out).trans (hb5.mono (HBW.out _ HBT2.out).size)
          clear hb5 HJ
          go_wp2_with fail
          refine (HCC.out w5 HB5.out).mono ?_
          rintro e w6 ⟨rfl, hb6⟩
          have HB6 : Hid (Below w.heap.size w w6) := HB5.out.trans (hb6.mono HB5.out.size)
          clear hb6 HCC
          go_wp2
          go_ret2
          exact ⟨HR.out, HB6.out⟩
    | false =>
      have HTD : Hid (Told x ks true (.ui :: its ks)) := HTM (by rw [hui]; rfl)
      have HNN0 : Hid (nn = (its ks).length) := hnn
      rw [hui] at HHC
      rw [← hnn]
      have HAQ : Hid (∀ W, Below W0.heap.size W0 W → ItAt W (.slice (some ⟨b, off, none⟩) nn cap) (its ks)) := fun W hW => by rw [hnn]; exact it_below HAL.out hW
      clear HU HTS HTM hnn hui
      go_enter Tryz.func18, Tryz.ntmps18
      go_wp2_with fail
      rw [HW0.out]
      refine HHC.out.mono ?_
      rintro e wz ⟨rfl, hbz⟩
      have HBZ : Hid (Below W0.heap.size W0 wz) := hbz
      have hnc := news_cell (fun j hj => by
        obtain ⟨b2, off2, cap2, he2, hh2⟩ := HAQ.out wz hbz
        simp only [Value.slice.injEq, Option.some.injEq, Addr.mk.injEq] at he2
        obtain ⟨⟨rfl, rfl, _⟩, _, _⟩ := he2
        exact hh2 j hj)
      have hownn := own_it wz (nmB .ui) (paB .ui)
      have hbb := (Below.refl wz.heap.size wz).alloc (Nat.le_refl _) (.cells #[.string (nmB .ui), .string (paB .ui)] 63)
      have hnc2 : ∀ j u, (newsOf (its ks))[j]? = some u → (wz.alloc (.cells #[.string (nmB .ui), .string (paB .ui)] 63)).cell? ((⟨b, off, none⟩ : Addr).add j) = some u := fun j u hu => kq hbb (hnc j u hu)
      have hnl : (newsOf (its ks)).length = nn * 2 := by rw [news_len, HNN0.out]
      have hn1 := news_one (its ks)
      have HLM : Hid (Lay (.ui :: its ks) (1 + nn) ([.string (nmB .ui), .string (paB .ui)] ++ newsOf (its ks))) := (show Lay _ _ _ by rw [HNN0.out]; exact lay_more _ _)
      generalize newsOf (its ks) = news at hnc2 hnl hn1 HLM
      rw [show nmB .ui = ⟨#[85, 73, 68]⟩ from rfl, show paB .ui = ⟨#[]⟩ from rfl] at hownn hnc2 hbb HLM
      clear hbz HHC hnc HAQ
      go_wp2_with (first
        | (at_builtin
           go_loud (refine wpList_append_own _ rfl _ _ 42 rfl wz.heap.size 63 j0 (.agg #[.string ByteArray.empty, .string ByteArray.empty]) 2 32 Tryz.underlying42 hj jz0 jz1 jz2 rfl (by decide) _ _ _ rfl hownn ⟨b, off, none⟩ nn cap news rfl hnl hnc2 hn1 (by unfold maxLen; omega) (by omega) (by simp) ?_)
           intro v' w3 hown3 hgrow3 hnil3
           have hb3 := bel_app (Nat.le_refl _) ((Below.refl wz.heap.size wz).alloc (Nat.le_refl _) _) hgrow3 (ow.own_lt hownn)
           obtain ⟨g3, gc3, rfl, hgc3, hgB3, hgl3⟩ := row_some hown3 (fun e => by cases (hnil3.1 e).1)
           obtain ⟨n2, hn2⟩ : ∃ n2, n2 = 1 + nn := ⟨_, rfl⟩
           rw [← hn2] at hown3 HLM ⊢
           have HNN : Hid (n2 = (It.ui :: its ks).length) := (show n2 = _ by rw [List.length_cons, ← HNN0.out, hn2]; omega)
           have HBT : Hid (Below W0.heap.size W0 w3) := HBZ.out.trans (hb3.mono HBZ.out.size)
           have HAT : Hid (ItAt w3 (.slice (some ⟨g3, 0, none⟩) n2 gc3) (.ui :: its ks)) := (show ItAt _ _ _ by rw [HNN.out]; exact it_lay rfl (by rw [HNN.out] at hown3; exact hown3) (by have := HLM.out; rw [HNN.out] at this; exact this))
           have hn31 : n2 ≤ 31 := by omega
           clear hown3 hgrow3 hnil3 hb3 hownn hbb hnc2 hnl hn1 HLM hn2 hil hgc3 hgB3 hgl3 HBZ


           have HAC : Hid (∀ W, Below w3.heap.size w3 W → ∀ j, j < (.ui :: its ks).length → W.cell? ⟨g3, 0 + j * 2, none⟩ = some (.string (nmB ((.ui :: its ks).getD j .fl))) ∧ W.cell? ⟨g3, 0 + j * 2 + 1, none⟩ = some (.string (paB ((.ui :: its ks).getD j .fl)))) := fun W hW => by
             obtain ⟨b2, off2, cap2, he2, hh2⟩ := it_below HAT.out hW
             simp only [Value.slice.injEq, Option.some.injEq, Addr.mk.injEq] at he2
             obtain ⟨⟨rfl, rfl, _⟩, _, _⟩ := he2
             exact hh2)
        | (at_make; refine wpList_make_full _ rfl _ _ 33 rfl w3.heap.size 9 i0 _ 1 Tryz.underlying33 hi hz0 hz1 _ _ _ _ n2 rfl rfl rfl rfl (by rw [hz2]; omega) (by unfold maxLen; omega) (Nat.le_refl _) ?_; intro w1 hown1 hg1))
      have hb1 : Below w3.heap.size w3 w1 := (Below.refl _ _).grown hg1 (Nat.le_refl _) (fun k hk => by cases hk)
      clear hg1
      go_loopw [30] (fun i wr => ∃ (k : Nat) (xs : List Value), k ≤ n2 ∧ i = .int .i64 k ∧ xs.length = n2 * 1 ∧ LayT (tl x (.ui :: its ks)) k xs ∧ (∀ j, j < k → ∃ t, TI x ((.ui :: its ks).getD j .fl) = some t) ∧ wr.ownsRow w3.heap.size 9 1 (.slice (some ⟨w3.heap.size, 0, none⟩) n2 n2) n2 xs ∧ Below w3.heap.size w3 wr) (fun i _ => n2 - (intOf i).toNat)
      case atStart => exact ⟨0, _, Nat.zero_le _, rfl, hown1.1.symm ▸ rfl, fun j hj => absurd hj (Nat.not_lt_zero _), fun j hj => absurd hj (Nat.not_lt_zero _), hown1, hb1⟩
      case round =>
        clear hown1 hb1
        obtain ⟨k, xs, hk, rfl, hxl, hlay, hok, hown, hbw⟩ := hrel
        have HLY : Hid (LayT (tl x (.ui :: its ks)) k xs) := hlay
        have HL : Hid (xs.length = n2 * 1) := hxl
        have HOK : Hid (∀ j, j < k → ∃ t, TI x ((.ui :: its ks).getD j .fl) = some t) := hok
        have HBT2 : Hid (Below W0.heap.size W0 wr) := HBT.out.trans (hbw.mono HBT.out.size)
        clear hxl hlay hok
        by_cases hlt : k < n2
        · have hka : k < (.ui :: its ks).length := by rw [← HNN.out]; exact hlt
          have HKA : Hid (k < (.ui :: its ks).length) := hka
          obtain ⟨v0, v1⟩ := HAC.out wr hbw k hka
          try simp only [Nat.zero_add] at v0 v1
          have hlt' : (k : Int) < (n2 : Int) := by omega
          obtain ⟨m0, m1, m2⟩ := HCE.out wr HBT2.out
          have HTE : Hid (∀ W, Below w.heap.size w W → Calls Tryz.prog 36 #[.agg #[.string (nmB ((.ui :: its ks).getD k .fl)), .string (paB ((.ui :: its ks).getD k .fl))], .agg #[.int .i64 (x.u : Int), .int .i64 (x.f : Int), .string T]] W fun e w' => TxRet x ((.ui :: its ks).getD k .fl) e ∧ Below W.heap.size W w') := fun W hW => HTX.out _ W hW
          generalize nmB ((.ui :: its ks).getD k .fl) = X at v0 HTE
          generalize paB ((.ui :: its ks).getD k .fl) = Y at v1 HTE
          have HBN : Hid (Below wr.heap.size wr (wr.alloc (.cells #[.string X, .string Y] 63))) := (Below.refl _ _).alloc (Nat.le_refl _) _
          have hGm : w.heap.size < wr.heap.size := World.block_lt_of_cell? wr _ m0
          clear hka
          go_wp2_with fail
          refine (HTE.out _ (HBW.out _ (HBT2.out.trans (HBN.out.mono HBT2.out.size)))).mono ?_
          rintro e w2 ⟨htx, hb2⟩
          have hb3 := HBN.out.trans (hb2.mono HBN.out.size)
          have hown2 := ow.own_below hown hb3
          have HB3 : Hid (Below w3.heap.size w3 w2) := hbw.trans (hb3.mono hbw.size)
          have HO : Hid (w2.ownsRow w3.heap.size 9 1 (.slice (some ⟨w3.heap.size, 0, none⟩) n2 n2) n2 xs) := hown2
          clear hb2 hb3 hown hbw v0 v1 m0 m1 m2 HTE
          rcases htx with ⟨t, ht, rfl⟩ | ⟨hno, O, rfl⟩
          · have HLY2 : Hid (LayT (tl x (.ui :: its ks)) (k + 1) (xs.set k (.string ⟨t.toArray⟩))) := layT_step HLY.out (by rw [HL.out]; omega) (tl_at HKA.out ht)
            have HOK2 : Hid (∀ j, j < k + 1 → ∃ t, TI x ((.ui :: its ks).getD j .fl) = some t) := fun j hj => by
              by_cases ee : j = k
              · subst ee; exact ⟨t, ht⟩
              · exact HOK.out j (by omega)
            clear ht
            generalize (⟨t.toArray⟩ : ByteArray) = Z at HLY2 ⊢
            have q0 := hown2.cellAt k (by omega)
            rw [List.getElem?_eq_getElem (by rw [HL.out]; omega)] at q0
            have f0 := hown2.frozenAt k
            clear hown2
            generalize xs[k]'(by rw [HL.out]; omega) = u0 at q0
            go_wp2
            go_roundw
            case rel => exact ⟨k + 1, xs.set k (.string Z), by omega, by go_num, by rw [List.length_set]; exact HL.out, HLY2.out, HOK2.out, (HO.out.stored _ _).1, HB3.out.setCell (Nat.le_refl _) _⟩
            case measure => simp [intOf]; omega
          · have HR : Hid (FdRet x seq ks true (.returned (.tuple #[.string ⟨#[]⟩, .int .i64 3]))) := .inr ⟨HTD.out.2.2.2 k HKA.out hno, rfl⟩
            have HB4 : Hid (Below w.heap.size w w2) := HBW.out _ (HBT.out.trans (HB3.out.mono HBT.out.size))
            clear hown2 hno
            go_wp2
            go_ret2
            exact ⟨HR.out, HB4.out⟩
        · have hkn : k = n2 := by omega
          have hV : (tl x (.ui :: its ks)).length = n2 := by rw [tl_len, HNN.out]
          have hcl : ∀ j, j < (tl x (.ui :: its ks)).length → wr.cell? ⟨w3.heap.size, j, none⟩ = some (.string ⟨((tl x (.ui :: its ks)).getD j []).toArray⟩) := fun j hj => by
            have e := hown.cellAt j (by omega)
            rw [HLY.out j (by omega)] at e
            exact e
          have hlb : w3.heap.size < wr.heap.size := hown.lt _ rfl |>.2
          have HTL : tl x (.ui :: its ks) = txs x ks true := HTD.out.2.1
          have hJ := HJO.out (.slice (some ⟨w3.heap.size, 0, none⟩) n2 n2) (tl x (.ui :: its ks)) wr (.inr ⟨_, n2, by rw [hV], by omega, hlb, hcl⟩) (by rw [HTL]; have := HSMH.out; omega)
          rw [HTL] at hJ
          have HJ : Hid (Calls Tryz.prog 38 #[.slice (some ⟨w3.heap.size, 0, none⟩) n2 n2, .string ⟨#[32]⟩] wr fun e w' => e = .returned (.string ⟨(jn 32 (txs x ks true)).toArray⟩) ∧ Below wr.heap.size wr w') := hJ
          have HOKN : Hid (∀ j, j < ks.length → ∃ t, tx1 x (ks.getD j nt) = some t) := HTD.out.2.2.1 fun j hj => HOK.out j (by have := HNN.out; omega)
          have HWD : Hid ((⟨#[70, 69, 84, 67, 72, 32, 40]⟩ : ByteArray) ++ ⟨(jn 32 (txs x ks true)).toArray⟩ ++ ⟨#[41]⟩ = ⟨([70, 69, 84, 67, 72, 32, 40] ++ jn 32 (txs x ks true) ++ [41]).toArray⟩) := (show _ = _ by
            rw [show (⟨#[70, 69, 84, 67, 72, 32, 40]⟩ : ByteArray) = ⟨([70, 69, 84, 67, 72, 32, 40] : List UInt8).toArray⟩ from rfl, show (⟨#[41]⟩ : ByteArray) = ⟨([41] : List UInt8).toArray⟩ from rfl, cat2, cat2])
          have HCC : Hid (∀ W, Below w.heap.size w W → Calls Tryz.prog 37 #[.int .i64 (seq : Int), .string ((⟨#[70, 69, 84, 67, 72, 32, 40]⟩ : ByteArray) ++ ⟨(jn 32 (txs x ks true)).toArray⟩ ++ ⟨#[41]⟩)] W fun e w' => e = .returned (.string ⟨(fin x seq ks true).toArray⟩) ∧ Below W.heap.size W w') := fun W hW => by
            rw [HWD.out, ← fin_cl]
            exact HCL.out _ W (by rw [List.length_append, List.length_append]; have := HJS.out; show 7 + _ + 1 ≤ 200000; omega) hW
          have hJs : (⟨(jn 32 (txs x ks true)).toArray⟩ : ByteArray).size ≤ 150000 := by rw [Lib.size_eq]; exact HJS.out
          clear hJ HWD hV hcl hlb HTL hown
          generalize (⟨(jn 32 (txs x ks true)).toArray⟩ : ByteArray) = J at HJ HCC hJs
          have s1 : ((⟨#[70, 69, 84, 67, 72, 32, 40]⟩ : ByteArray) ++ J).size ≤ 150010 := by rw [ByteArray.size_append]; show 7 + J.size ≤ 150010; omega
          have s2 : ((⟨#[70, 69, 84, 67, 72, 32, 40]⟩ : ByteArray) ++ J ++ ⟨#[41]⟩).size ≤ 150020 := by rw [ByteArray.size_append]; show _ + 1 ≤ 150020; omega
          have HR : Hid (FdRet x seq ks true (.returned (.tuple #[.string ⟨(fin x seq ks true).toArray⟩, .int .i64 0]))) := .inl ⟨HOKN.out, rfl⟩
          generalize (⟨(fin x seq ks true).toArray⟩ : ByteArray) = FI at HCC HR
          clear hbw hkn
          go_wp2_with fail
          refine HJ.out.mono ?_
          rintro e w5 ⟨rfl, hb5⟩
          have HB5 : Hid (Below w.heap.size w w5) := (HBW.out _ HBT2.out).trans (hb5.mono (HBW.out _ HBT2.out).size)
          clear hb5 HJ
          go_wp2_with fail
          refine (HCC.out w5 HB5.out).mono ?_
          rintro e w6 ⟨rfl, hb6⟩
          have HB6 : Hid (Below w.heap.size w w6) := HB5.out.trans (hb6.mono HB5.out.size)
          clear hb6 HCC
          go_wp2
          go_ret2
          exact ⟨HR.out, HB6.out⟩

end Go.Proofs.YtbokolpjdaamiaaGreatDoor.fq
