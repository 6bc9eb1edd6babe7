/-
  What a fetch tells of a mail: the specification's way.
-/
import Derived.Test.YtbokolpjdaamiaaGreatDoorPkbi
import Derived.Test.YtbokolpjdaamiaaGreatDoorPkbj
import Derived.Test.YtbokolpjdaamiaaGreatDoorPkbc
import Derived.Test.YtbokolpjdaamiaaGreatDoorPkas
import Derived.Test.YtbokolpjdaamiaaGreatDoorPkae
import Derived.Test.YtbokolpjdaamiaaGreatDoorPkaf
import Derived.Laws.AppendOwn
import Derived.Laws.DeepStrings4

namespace Go.Proofs.YtbokolpjdaamiaaGreatDoor.fq
open Go.RowKit
open gr bl
open ky (TextsAt nt)
set_option linter.unusedVariables false

theorem kp {w w' : World} {p : Addr} {v : Value} (hb : Below w.heap.size w w') (h : w.cell? p = some v) : w'.cell? p = some v := (hb.cell (World.block_lt_of_cell? w _ h)).trans h
def txB (x : Fm) (s : ByteArray) : ByteArray := ⟨(tx x s).toArray⟩
theorem take_snoc {A : Type} (V : List A) (k : Nat) (d : A) (h : k < V.length) : V.take (k + 1) = V.take k ++ [V.getD k d] := by
  rw [List.take_succ_eq_append_getElem h]
  congr 1
  simp [List.getD_eq_getElem?_getD, h]
theorem any_next (ks : List ByteArray) (p : ByteArray → Bool) (k : Nat) (h : k < ks.length) : (ks.take (k + 1)).any p = ((ks.take k).any p || p (ks.getD k nt)) := by
  rw [take_snoc ks k nt h, List.any_append]
  simp
theorem map_next (ks : List ByteArray) (x : Fm) (k : Nat) (h : k < ks.length) : (ks.take (k + 1)).map (txB x) = (ks.take k).map (txB x) ++ [txB x (ks.getD k nt)] := by
  rw [take_snoc ks k nt h, List.map_append]
  rfl
theorem ok_next {x : Fm} {ks : List ByteArray} {k : Nat} {t : B} (h : ∀ j, j < k → ∃ t, tx1 x (ks.getD j nt) = some t) (h1 : tx1 x (ks.getD k nt) = some t) : ∀ j, j < k + 1 → ∃ t, tx1 x (ks.getD j nt) = some t := fun j hj => by
  by_cases e : j = k
  · subst e; exact ⟨t, h1⟩
  · exact h j (by omega)
theorem it_of {x : Fm} {s : ByteArray} {i : It} {t : B} (h1 : itm s = some i) (h2 : TI x i = some t) : tx1 x s = some t ∧ txB x s = ⟨t.toArray⟩ := by
  have e : tx1 x s = some t := by unfold tx1; rw [h1]; exact h2
  exact ⟨e, by unfold txB tx; rw [e]; rfl⟩

/-! l00Join -/
def jk (V : List B) (k : Nat) : ByteArray := ⟨(jn 32 (V.take k)).toArray⟩
theorem jk_zero (V : List B) : jk V 0 = ⟨#[]⟩ := rfl
theorem jk_first (V : List B) (h : 0 < V.length) : jk V (0 + 1) = jk V 0 ++ ⟨(V.getD 0 []).toArray⟩ := by
  unfold jk
  rw [take_snoc V 0 [] h, fg.mk_app]
  simp [jn, tails]
theorem jk_more (V : List B) (k : Nat) (h : k < V.length) (h0 : 0 < k) : jk V (k + 1) = jk V k ++ ⟨#[32]⟩ ++ ⟨(V.getD k []).toArray⟩ := by
  have e : (⟨#[32]⟩ : ByteArray) = ⟨([32] : List UInt8).toArray⟩ := rfl
  unfold jk
  rw [e, fg.mk_app, fg.mk_app, take_snoc V k [] h, fg.jn_snoc 32 _ _ (fun y => by have := congrArg List.length y; rw [List.length_take, List.length_nil] at this; omega)]
  simp
theorem jk_size (V : List B) (k : Nat) (hl : V.length ≤ 40) (hs : lens V ≤ 150000) : (jk V k).size ≤ 150100 := by
  have h1 := fg.jn_len 32 (V.take k)
  have h2 := lens_take_le V k
  have h3 : (V.take k).length ≤ 40 := by rw [List.length_take]; omega
  rw [Lib.size_eq]
  show (jn 32 (V.take k)).length ≤ _
  omega
theorem jk_all (V : List B) : jk V V.length = ⟨(jn 32 V).toArray⟩ := by unfold jk; rw [List.take_of_length_le (Nat.le_refl _)]
/-- A slice of texts told as lists. -/
def LisAt (w : World) (v : Value) (V : List B) : Prop := ∃ a cap, v = .slice a V.length cap ∧ (V = [] ∨ ∃ b off, a = some ⟨b, off, none⟩ ∧ ∀ j, j < V.length → w.cell? ⟨b, off + j, none⟩ = some (.string ⟨(V.getD j []).toArray⟩))
def JkIs (V : List B) (k : Nat) (z : Value) : Prop := z = .string (jk V k)
set_option maxHeartbeats 4000000 in
set_option maxRecDepth 100000 in
theorem ljoin_any (v : Value) (V : List B) (w : World) (h : LisAt w v V) (hl : V.length ≤ 40) (hs : lens V ≤ 150000) :
    Calls Tryz.prog 44 #[v, .string ⟨#[32]⟩] w fun e w' => e = .returned (.string ⟨(jn 32 V).toArray⟩) ∧ w' = w := by
  obtain ⟨a, cap, rfl, h⟩ := h
  rw [← jk_all]
  have HL : Hid (V.length ≤ 40 ∧ lens V ≤ 150000) := ⟨hl, hs⟩
  obtain ⟨n, hn⟩ : ∃ n, n = V.length := ⟨_, rfl⟩
  have HN : Hid (n = V.length) := hn
  have HH : Hid (V = [] ∨ ∃ b off, a = some ⟨b, off, none⟩ ∧ ∀ j, j < V.length → w.cell? ⟨b, off + j, none⟩ = some (.string ⟨(V.getD j []).toArray⟩)) := h
  rw [← hn] at hl ⊢
  clear h hn hs
  go_enter Tryz.func44, Tryz.ntmps44
  go_wp2
  go_loopw [5, 6] (fun z i wr => ∃ k : Nat, k ≤ n ∧ JkIs V k z ∧ i = .int .i64 k ∧ wr = w) (fun _ i _ => n - (intOf i).toNat)
  case atStart => exact ⟨0, Nat.zero_le _, rfl, rfl, rfl⟩
  case round =>
    obtain ⟨k, hk, hz, rfl, hwr⟩ := hrel
    obtain rfl : _ = _ := hz
    have hwr := hwr.symm
    subst hwr
    have hts := jk_size V k HL.out.1 HL.out.2
    by_cases hlt : k < n
    · have hka : k < V.length := by rw [← HN.out]; exact hlt
      have hts1 := jk_size V (k + 1) HL.out.1 HL.out.2
      rcases HH.out with e | ⟨b, off, rfl, hcells⟩
      · rw [e] at hka; simp at hka
      have c0 := hcells k hka
      have hlt' : (k : Int) < (n : Int) := by omega
      by_cases hk0 : k = 0
      · have HZ : Hid (jk V (k + 1) = jk V k ++ ⟨(V.getD k []).toArray⟩) := by subst hk0; exact jk_first V hka
        have hs3 : (jk V k ++ ⟨(V.getD k []).toArray⟩).size ≤ 150100 := by rw [← HZ.out]; exact hts1
        have q0 : ¬ 0 < k := by omega
        have q1 : ¬ (0 : Int) < (k : Int) := by omega
        clear hcells hka hts1
        generalize jk V k = T at hts HZ hs3 ⊢
        generalize (⟨(V.getD k []).toArray⟩ : ByteArray) = Y at c0 HZ hs3
        clear hk0
        have hs4 : T.size + Y.size ≤ 150100 := by rw [← ByteArray.size_append]; exact hs3
        have hs5 : Y.size ≤ 150100 := by omega
        go_wp2
        go_roundw
        case rel => exact ⟨k + 1, by omega, by unfold JkIs; rw [HZ.out], by go_num, by trivial⟩
        case measure => simp [intOf]; omega
      · have HZ : Hid (jk V (k + 1) = jk V k ++ ⟨#[32]⟩ ++ ⟨(V.getD k []).toArray⟩) := jk_more V k hka (by omega)
        have hs3 : (jk V k ++ ⟨#[32]⟩ ++ ⟨(V.getD k []).toArray⟩).size ≤ 150100 := by rw [← HZ.out]; exact hts1
        have hs2 : (jk V k ++ ⟨#[32]⟩).size ≤ 150200 := by rw [ByteArray.size_append]; show _ + 1 ≤ _; omega
        have q0 : 0 < k := by omega
        have q1 : (0 : Int) < (k : Int) := by omega
        clear hcells hka hts1 hk0
        generalize jk V k = T at hts HZ hs2 hs3 ⊢
        generalize (⟨(V.getD k []).toArray⟩ : ByteArray) = Y at c0 HZ hs3
        have hs4 : T.size + 1 + Y.size ≤ 150100 := by have := hs3; rw [ByteArray.size_append, ByteArray.size_append] at this; exact this
        have hs5 : Y.size ≤ 150100 := by omega
        go_wp2
        go_roundw
        case rel => exact ⟨k + 1, by omega, by unfold JkIs; rw [HZ.out], by go_num, by trivial⟩
        case measure => simp [intOf]; omega
    · have hkn : k = n := by omega
      subst hkn
      have HJK : Hid (JkIs V k (.string (jk V k))) := rfl
      generalize jk V k = T at hts HJK ⊢
      go_wp2
      go_ret
      exact ⟨congrArg Ending.returned HJK.out, rfl⟩

/-! l07Part at any name -/
def Pa (x : Fm) (p : ByteArray) (e : Ending) : Prop :=
  (∃ (b : B) (fs : List (B × B)) (i : Nat) (O : ByteArray), i < 3 ∧ p.data.toList = pt i ∧ x.ob = some b ∧ ml.IsMail x.l fs b ∧ O = ⟨(part x b i).toArray⟩ ∧ e = .returned (.tuple #[.string O, .bool true])) ∨
  ((x.ob = none ∨ ¬ (p.data.toList = [] ∨ p.data.toList = ml.hdr ∨ p.data.toList = ml.txt)) ∧ ∃ O : ByteArray, e = .returned (.tuple #[.string O, .bool false]))
set_option maxHeartbeats 4000000 in
set_option maxRecDepth 100000 in
theorem part_spec (x : Fm) (T p : ByteArray) (hT : x.l = T.data.toList) (hx : x.Ok) (w : World) :
    Calls Tryz.prog 43 #[.string T, .string p] w fun e w' => Pa x p e ∧ Below w.heap.size w w' := by
  have hs : T.size ≤ 65536 := by rw [Lib.size_eq, ← hT]; have := hx.l; omega
  by_cases hin : p.data.toList = [] ∨ p.data.toList = ml.hdr ∨ p.data.toList = ml.txt
  · refine (ml.specPt_any T p w hs hin).mono ?_
    rintro e w' ⟨h, hb⟩
    refine ⟨?_, hb⟩
    rcases h with ⟨hno, rfl⟩ | ⟨fs, b, hm, rfl⟩
    · rcases hx.is with ⟨b, fs, _, hm⟩ | ⟨hob, _⟩
      · rw [← hT] at hno
        exact absurd ⟨fs, b, hm⟩ hno
      · exact .inr ⟨.inl hob, _, rfl⟩
    · rw [← hT] at hm
      rcases hx.is with ⟨b', fs', hob, hm'⟩ | ⟨_, hno⟩
      · obtain ⟨_, rfl⟩ := ml.isMail_one hm hm'
        obtain ⟨i, hi, hp⟩ := pt_is hin
        refine .inl ⟨_, fs, i, _, hi, hp, hob, hm, rfl, ?_⟩
        rw [hp, ← hT]
        rfl
      · exact absurd ⟨fs, b, hm⟩ hno
  · have HPC := ml.part_cases p
    have HIN : Hid (¬ (p.data.toList = [] ∨ p.data.toList = ml.hdr ∨ p.data.toList = ml.txt)) := hin
    rcases HPC with ⟨q0, _⟩ | ⟨q0, _⟩ | ⟨q0, _⟩ | ⟨q0, q1, q2, q3⟩
    · exact absurd (.inl q0) hin
    · exact absurd (.inr (.inl q0)) hin
    · exact absurd (.inr (.inr q0)) hin
    clear q0 hin hT hx
    go_enter Tryz.func43, Tryz.ntmps43
    go_wp2_with fail
    refine (ml.specWhole_any T w hs).mono ?_
    rintro e w1 ⟨hr, hb1⟩
    have HB1 : Hid (Below w.heap.size w w1) := hb1
    clear hb1
    rcases hr with ⟨hno, rfl⟩ | ⟨fs, b, a, n, c, hmail, rfl⟩
    · clear hno
      unfold ml.noMV
      go_wp2
      go_ret2
      exact ⟨.inr ⟨.inr HIN.out, _, rfl⟩, HB1.out.alloc HB1.out.size _⟩
    · clear hmail
      unfold ml.MV
      unfold ml.tv
      go_wp2
      go_ret2
      exact ⟨.inr ⟨.inr HIN.out, _, rfl⟩, HB1.out.alloc HB1.out.size _⟩

/-! The words that open a body. -/
def pkOf (U : B) : Bool := decide (10 < U.length ∧ U.take 10 = hd true)
def midOf (U : B) (n : Nat) : B := (U.drop n).take (U.length - 1 - n)
theorem bo_facts : ∀ (pk : Bool) (i : Nat), i < 3 → pkOf (bo pk i) = pk ∧ (hd pk).length < (bo pk i).length ∧ (bo pk i).take (hd pk).length = hd pk ∧ (bo pk i).getD ((bo pk i).length - 1) 0 = 93 ∧ midOf (bo pk i) (hd pk).length = pt i ∧ bo pk i ≠ kFl ∧ bo pk i ≠ kUi ∧ bo pk i ≠ kSz := by
  intro pk i hi
  have hc : i = 0 ∨ i = 1 ∨ i = 2 := by omega
  cases pk <;> rcases hc with rfl | rfl | rfl <;> decide
/-- A word that is not any of the first three and does not open and shut as a body does is no item. -/
theorem no_open {U : B} {pk : Bool} (hp : pkOf U = pk) (n1 : U ≠ kFl) (n2 : U ≠ kUi) (n3 : U ≠ kSz) (h : U.length ≤ (hd pk).length ∨ U.take (hd pk).length ≠ hd pk ∨ U.getD (U.length - 1) 0 ≠ 93) : itw U = none := by
  rcases nine U with e | e | e | ⟨pk', i, hi, rfl⟩ | ⟨_, e⟩
  · exact absurd e n1
  · exact absurd e n2
  · exact absurd e n3
  · obtain ⟨f1, f2, f3, f4, _⟩ := bo_facts pk' i hi
    obtain rfl : pk' = pk := f1.symm.trans hp
    rcases h with h | h | h
    · omega
    · exact absurd f3 h
    · exact absurd f4 h
  · exact e
theorem parted {U : B} {n : Nat} (h1 : n < U.length) (h3 : U.getD (U.length - 1) 0 = 93) : U = U.take n ++ midOf U n ++ [93] := by
  have hd1 : U.drop n = midOf U n ++ [93] := by
    unfold midOf
    have hl : (U.drop n).length = U.length - n := List.length_drop
    have e := List.take_append_drop (U.length - 1 - n) (U.drop n)
    have e2 : (U.drop n).drop (U.length - 1 - n) = [93] := by
      rw [List.drop_drop, show n + (U.length - 1 - n) = U.length - 1 by omega, List.drop_eq_getElem_cons (by omega)]
      rw [List.drop_eq_nil_of_le (by omega)]
      rw [List.getD_eq_getElem?_getD, List.getElem?_eq_getElem (by omega)] at h3
      exact congrArg (fun z => [z]) h3
    rw [e2] at e
    exact e.symm
  rw [List.append_assoc, ← hd1, List.take_append_drop]
/-- What opens and shuts as a body does is one if its name is a part's, and none else. -/
theorem is_open {U : B} {pk : Bool} (hp : pkOf U = pk) (n1 : U ≠ kFl) (n2 : U ≠ kUi) (n3 : U ≠ kSz) (h1 : (hd pk).length < U.length) (h2 : U.take (hd pk).length = hd pk) (h3 : U.getD (U.length - 1) 0 = 93) :
    (∀ i, i < 3 → midOf U (hd pk).length = pt i → itw U = some (.bd pk i)) ∧ (¬ (midOf U (hd pk).length = [] ∨ midOf U (hd pk).length = ml.hdr ∨ midOf U (hd pk).length = ml.txt) → itw U = none) := by
  have e := parted h1 h3
  rw [h2] at e
  refine ⟨fun i hi hm => ?_, fun hn => ?_⟩
  · rw [hm] at e
    rw [show U = bo pk i from e]
    exact itw_bo pk i hi
  · rcases nine U with y | y | y | ⟨pk', i, hi, hU⟩ | ⟨_, y⟩
    · exact absurd y n1
    · exact absurd y n2
    · exact absurd y n3
    · exfalso
      obtain ⟨f1, _, _, _, f5, _⟩ := bo_facts pk' i hi
      rw [← hU] at f1 f5
      obtain rfl : pk' = pk := f1.symm.trans hp
      exact hn (by rw [f5]; exact pt_in i)
    · exact y
theorem ext_mid (s : ByteArray) (a b : Nat) : (s.extract a b).data.toList = (s.data.toList.drop a).take (b - a) := by
  simp
theorem sz_ext (s : ByteArray) (a b : Nat) (h : b ≤ s.size) : (s.extract a b).size = b - a := by
  rw [ByteArray.size_extract]
  omega
theorem last_at (s : ByteArray) (k : Nat) (h : k < s.size) : s.data.toList.getD k 0 = s[k]'h := by
  have hk' : k < s.data.toList.length := by rw [← Lib.size_eq]; exact h
  rw [List.getD_eq_getElem?_getD, List.getElem?_eq_getElem hk']
  rfl
theorem tlq (s : ByteArray) (l : B) : (s.toList == l) = decide (s.data.toList = l) := by
  rw [Lib.toList_data, Bool.eq_iff_iff, beq_iff_eq, decide_eq_true_iff]

theorem lis_keep {w w' : World} {v : Value} {V : List B} (h : LisAt w v V) (hb : Below w.heap.size w w') : LisAt w' v V := by
  obtain ⟨a, cap, e, h⟩ := h
  exact ⟨a, cap, e, h.imp id fun ⟨b, off, e, hc⟩ => ⟨b, off, e, fun j hj => kp hb (hc j hj)⟩⟩
theorem fin_is (x : Fm) (seq : Nat) (ks : List ByteArray) (wu : Bool) : (⟨#[42, 32]⟩ : ByteArray) ++ ⟨(Lib.decDigits seq).toArray⟩ ++ ⟨#[32, 70, 69, 84, 67, 72, 32, 40]⟩ ++ ⟨(jn 32 (txs x ks wu)).toArray⟩ ++ ⟨#[41, 13, 10]⟩ = ⟨(fin x seq ks wu).toArray⟩ := by
  rw [show (⟨#[42, 32]⟩ : ByteArray) = ⟨([42, 32] : List UInt8).toArray⟩ from rfl, show (⟨#[32, 70, 69, 84, 67, 72, 32, 40]⟩ : ByteArray) = ⟨([32, 70, 69, 84, 67, 72, 32, 40] : List UInt8).toArray⟩ from rfl, show (⟨#[41, 13, 10]⟩ : ByteArray) = ⟨([41, 13, 10] : List UInt8).toArray⟩ from rfl, fg.mk_app, fg.mk_app, fg.mk_app, fg.mk_app]
  rfl

def L13 (x : Fm) (seq : Nat) (ks : List ByteArray) (wu : Bool) (e : Ending) : Prop := ∃ (X : ByteArray) (s : Bool) (c : Int), e = .returned (.tuple #[.string X, .bool s, .bool (decide (c = 0))]) ∧ Fr x seq ks wu X s c
theorem fr_no {x : Fm} {seq : Nat} {ks : List ByteArray} {wu : Bool} {j : Nat} (hj : j < ks.length) (h : tx1 x (ks.getD j nt) = none) : L13 x seq ks wu (.returned (.tuple #[.string ⟨#[]⟩, .bool false, .bool false])) :=
  ⟨_, _, 3, rfl, .inr ⟨⟨j, hj, h⟩, rfl, rfl, rfl⟩⟩
theorem tx1_none {x : Fm} {s : ByteArray} (h : itm s = none) : tx1 x s = none := by unfold tx1; rw [h]; rfl
theorem tx1_no {x : Fm} {s : ByteArray} {pk : Bool} {i : Nat} (h : itm s = some (.bd pk i)) (h0 : x.ob = none) : tx1 x s = none := by unfold tx1; rw [h]; show Option.map _ x.ob = none; rw [h0]; rfl
theorem row_some {w : World} {base e size n : Nat} {v : Value} {xs : List Value} (h : w.ownsRow base e size v n xs) (hv : v ≠ .slice none 0 0) : ∃ g cap, v = .slice (some ⟨g, 0, none⟩) n cap ∧ n ≤ cap ∧ base ≤ g ∧ g < w.heap.size := by
  rcases h.2 with ⟨e, _⟩ | ⟨g, cap, cur, a, b, c, d⟩
  · exact absurd e hv
  · exact ⟨g, cap, a, by omega, by omega, (Array.getElem?_eq_some_iff.1 c).1⟩
theorem any_step {ks : List ByteArray} {p : ByteArray → Bool} {k : Nat} {b : Bool} (h : k < ks.length) {s : Bool} (hs : s = (ks.take k).any p) (hp : p (ks.getD k nt) = b) : (s || b) = (ks.take (k + 1)).any p := by
  rw [any_next ks p k h, ← hs, hp]
theorem bel_app {B : Nat} {w0 w w' : World} {v : Value} (hB : B ≤ w0.heap.size) (hb : Below B w0 w) (hg : w.grownBy w' v.ownBlock) (hv : ∀ k, v.ownBlock = some k → B ≤ k) : Below B w0 w' :=
  Below.grown hb hg (Nat.le_trans hB hb.size) hv
theorem cell3 (w : World) (xs : Array Value) (t : TypeId) (j : Nat) (u : Value) (h : xs[j]? = some u) : (w.alloc (.cells xs t)).cell? ⟨w.heap.size, j, none⟩ = some u := by
  have := ow.cell_new w xs.toList t j u (by simpa using h)
  simpa using this
theorem own_one (w : World) (base : Nat) (Y : ByteArray) (h : base ≤ w.heap.size) : (w.alloc (.cells #[.string Y] 9)).ownsRow base 9 1 (.slice (some ⟨w.heap.size, 0, none⟩) 1 1) 1 [.string Y] :=
  ⟨by simp, .inr ⟨w.heap.size, 1, #[.string Y], rfl, h, (MapKept.heap_alloc w _).1, Nat.le_refl _, by unfold maxLen; omega, rfl, by simp⟩⟩
theorem own_made (w : World) (base : Nat) (h : base ≤ w.heap.size) : (w.alloc (.cells #[] 9)).ownsRow base 9 1 (.slice (some ⟨w.heap.size, 0, none⟩) 0 0) 0 [] := World.ownsRow_made w #[] 0 h (Nat.zero_le _) rfl
set_option maxHeartbeats 32000000 in
set_option maxRecDepth 100000 in
theorem l13_any (x : Fm) (T : ByteArray) (hT : x.l = T.data.toList) (hx : x.Ok) (v : Value) (ks : List ByteArray) (seq : Nat) (wu : Bool) (w : World) (h : TextsAt w v ks) (hl : ks.length ≤ 30) (hz : ∀ j, j < ks.length → (ks.getD j nt).size ≤ 1048576) (hseq : seq ≤ 4294967295) :
    Calls Tryz.prog 21 #[.agg #[.int .i64 (x.u : Int), .int .i64 (x.f : Int), .string T], .int .i64 (seq : Int), v, .bool wu] w fun e w' => L13 x seq ks wu e ∧ Below w.heap.size w w' := by
  obtain ⟨a, cap, rfl, hh⟩ := h
  obtain ⟨n, hn⟩ : ∃ n, n = ks.length := ⟨_, rfl⟩
  have HN : Hid (n = ks.length) := hn
  rw [← hn] at hl ⊢
  obtain ⟨i0, hi, hz0, hz1, hz2⟩ := info_parts sp.infoStr
  have HZ : Hid (∀ j, j < ks.length → (ks.getD j nt).size ≤ 1048576) := hz
  have HTL : Hid (x.l.length = T.size) := (show x.l.length = T.size by rw [hT, ← Lib.size_eq])
  have HTL4 : Hid (T.size ≤ 4000) := (show T.size ≤ 4000 by have := hx.l; rw [← HTL.out]; exact this)
  have hTs := HTL4.out
  have HUP : Hid (∀ (s : ByteArray) (W : World), s.size ≤ 1048576 → Calls Tryz.prog 41 #[.string s] W fun e w' => e = .returned (.string ⟨(up.lower s.data.toList).toArray⟩) ∧ Below W.heap.size W w') := fun s W hs => up.spec_upper s W hs
  have HFL : Hid (∀ W, Calls Tryz.prog 42 #[.int .i64 (x.f : Int)] W fun e w' => e = .returned (.string (fg.FT x.f)) ∧ Below W.heap.size W w') := fun W => fg.specFlags x.f W hx.f
  have HDG : Hid (∀ (m : Nat) W, m ≤ 4294967295 → Calls Tryz.prog 28 #[.int .i64 (m : Int)] W fun e w' => e = .returned (.string ⟨(Lib.decDigits m).toArray⟩) ∧ Below W.heap.size W w') := fun m W hm => dz.digs_any m hm W
  have HPT : Hid (∀ p W, Calls Tryz.prog 43 #[.string T, .string p] W fun e w' => Pa x p e ∧ Below W.heap.size W w') := fun p W => part_spec x T p hT hx W
  have HX : Hid x.Ok := hx
  have hux := hx.u
  have hfx := hx.f
  have HSQ : Hid (seq ≤ 4294967295) := hseq
  have HJ : Hid (∀ (V : List B) (u : Value) W, LisAt W u V → V.length ≤ 40 → lens V ≤ 150000 → Calls Tryz.prog 44 #[u, .string ⟨#[32]⟩] W fun e w' => e = .returned (.string ⟨(jn 32 V).toArray⟩) ∧ w' = W) := fun V u W h1 h2 h3 => ljoin_any u V W h1 h2 h3
  have HH : Hid (ks = [] ∨ ∃ b off, a = some ⟨b, off, none⟩ ∧ ∀ j, j < ks.length → w.cell? ⟨b, off + j, none⟩ = some (.string (ks.getD j nt))) := hh
  have c0 := cell3 w #[.int .i64 (x.u : Int), .int .i64 (x.f : Int), .string T] 30 0 _ rfl
  have c1 := cell3 w #[.int .i64 (x.u : Int), .int .i64 (x.f : Int), .string T] 30 1 _ rfl
  have c2 := cell3 w #[.int .i64 (x.u : Int), .int .i64 (x.f : Int), .string T] 30 2 _ rfl
  have b0 : Below w.heap.size w (w.alloc (.cells #[.int .i64 (x.u : Int), .int .i64 (x.f : Int), .string T] 30)) := (Below.refl _ _).alloc (Nat.le_refl _) _
  clear hn hz hT hx hh hseq
  go_enter Tryz.func21, Tryz.ntmps21
  go_wp2
  have hws : (w.alloc (.cells #[.int .i64 (x.u : Int), .int .i64 (x.f : Int), .string T] 30)).heap.size = w.heap.size + 1 := by simp
  generalize w.alloc _ = w0 at c0 c1 c2 b0 hws ⊢
  obtain ⟨B, hB⟩ : ∃ B, B = w0.heap.size := ⟨_, rfl⟩
  have HB : Hid (B ≤ w0.heap.size) := Nat.le_of_eq hB
  have HCL : Hid (∀ W, Below B w0 W → W.cell? ⟨w.heap.size, 0, none⟩ = some (.int .i64 (x.u : Int)) ∧ W.cell? ⟨w.heap.size, 1, none⟩ = some (.int .i64 (x.f : Int)) ∧ W.cell? ⟨w.heap.size, 2, none⟩ = some (.string T)) := fun W hW => by
    rw [hB] at hW
    exact ⟨kp hW c0, kp hW c1, kp hW c2⟩
  have HKS : Hid (∀ W, Below B w0 W → ks = [] ∨ ∃ b off, a = some ⟨b, off, none⟩ ∧ ∀ j, j < ks.length → W.cell? ⟨b, off + j, none⟩ = some (.string (ks.getD j nt))) := fun W hW => by
    rw [hB] at hW
    exact HH.out.imp id fun ⟨b, off, e, hc⟩ => ⟨b, off, e, fun j hj => kp hW (kp b0 (hc j hj))⟩
  have HBW : Hid (∀ W, Below B w0 W → Below w.heap.size w W) := fun W hW => by
    rw [hB] at hW
    exact b0.trans (hW.mono b0.size)
  have HS0 : Hid ((w0.alloc (.cells #[] 9)).ownsRow B 9 1 (.slice (some ⟨w.heap.size + 1, 0, none⟩) 0 0) 0 [] ∧ Below B w0 (w0.alloc (.cells #[] 9))) := (show _ ∧ _ by rw [← hws]; exact ⟨own_made w0 B HB.out, (Below.refl _ _).alloc HB.out _⟩)
  clear c0 c1 c2 b0 HH hB hws
  go_loopw [11, 12, 13, 14] (fun r s' u' i wr => ∃ (k : Nat) (sn ud : Bool), i = .int .i64 k ∧ k ≤ n ∧ s' = .bool sn ∧ u' = .bool ud ∧ sn = (ks.take k).any isSn ∧ ud = (ks.take k).any isUi ∧ (∀ j, j < k → ∃ t, tx1 x (ks.getD j nt) = some t) ∧ r ≠ .slice none 0 0 ∧ wr.ownsRow B 9 1 r k (((ks.take k).map (txB x)).map Value.string) ∧ Below B w0 wr) (fun _ _ _ i _ => n - (intOf i).toNat)
  case atStart => exact ⟨0, false, false, rfl, Nat.zero_le _, rfl, rfl, rfl, rfl, fun j hj => absurd hj (Nat.not_lt_zero _), (fun e => by cases e), HS0.out.1, HS0.out.2⟩
  case round =>
    clear HS0
    obtain ⟨k, sn, ud, rfl, hkn, rfl, rfl, hsn, hud, hok, hrn, hown, hbw⟩ := hrel
    generalize u11 = r at hrn hown ⊢
    have HOK : Hid (∀ j, j < k → ∃ t, tx1 x (ks.getD j nt) = some t) := hok
    have HSN0 : Hid (sn = (ks.take k).any isSn) := hsn
    have HUN0 : Hid (ud = (ks.take k).any isUi) := hud
    have HRN : Hid (r ≠ .slice none 0 0) := hrn
    clear hok hsn hud hrn
    by_cases hlt : k < n
    · have hkl : k < ks.length := by have := HN.out; omega
      have hlt' : (k : Int) < (n : Int) := by omega
      have hBr : B ≤ wr.heap.size := Nat.le_trans HB.out hbw.size
      rcases HKS.out wr hbw with e | ⟨b, off, rfl, hcell⟩
      · rw [e] at hkl; simp at hkl
      have hc := hcell k hkl
      have hsz := HZ.out k hkl
      have HKL : Hid (k < ks.length) := hkl
      have HOKN : Hid (∀ t, tx1 x (ks.getD k nt) = some t → ∀ j, j < k + 1 → ∃ t, tx1 x (ks.getD j nt) = some t) := fun t ht => ok_next HOK.out ht
      have HFAIL : Hid (tx1 x (ks.getD k nt) = none → L13 x seq ks wu (.returned (.tuple #[.string ⟨#[]⟩, .bool false, .bool false]))) := fun y => fr_no hkl y
      have HMT0 : Hid ((ks.take (k + 1)).map (txB x) = (ks.take k).map (txB x) ++ [txB x (ks.getD k nt)]) := map_next ks x k hkl
      have HSNX : Hid (∀ b, isSn (ks.getD k nt) = b → (sn || b) = (ks.take (k + 1)).any isSn) := fun b hb => any_step hkl HSN0.out hb
      have HUNX : Hid (∀ b, isUi (ks.getD k nt) = b → (ud || b) = (ks.take (k + 1)).any isUi) := fun b hb => any_step hkl HUN0.out hb
      clear hcell hkl
      generalize ks.getD k nt = s at hc hsz HOKN HFAIL HMT0 HSNX HUNX
      have HIT : Hid (itm s = itw (up.lower s.data.toList)) := rfl
      have hul : (up.lower s.data.toList).length ≤ 1048576 := by rw [up.lower_len, ← Lib.size_eq]; exact hsz
      have hN := nine (up.lower s.data.toList)
      go_wp2_with fail
      refine (HUP.out s wr hsz).mono ?_
      rintro e w1 ⟨rfl, b1⟩
      have hown1 := ow.own_below hown b1
      have hbw1 := hbw.trans (b1.mono hBr)
      have hB1 : B ≤ w1.heap.size := Nat.le_trans hBr b1.size
      clear hown hbw b1 hBr hc
      obtain ⟨k0, k1, k2⟩ := HCL.out w1 hbw1
      generalize up.lower s.data.toList = U at HIT hul hN ⊢
      by_cases e1 : U = kFl
      · skip
        subst e1
        have HI1 : Hid (itm s = some .fl) := HIT.out
        have hI1 := it_of HI1.out (show TI x .fl = some (ftx x) from rfl)
        have HOK2 : Hid (∀ j, j < k + 1 → ∃ t, tx1 x (ks.getD j nt) = some t) := HOKN.out _ hI1.1
        have HSN : Hid (sn = (ks.take (k + 1)).any isSn) := (show sn = (ks.take (k + 1)).any isSn by have := HSNX.out false (by unfold isSn; rw [HI1.out]; rfl); rwa [Bool.or_false] at this)
        have HUN : Hid (ud = (ks.take (k + 1)).any isUi) := (show ud = (ks.take (k + 1)).any isUi by have := HUNX.out false (by unfold isUi; rw [HI1.out]; rfl); rw [Bool.or_false] at this; exact this)
        obtain ⟨Y, hY⟩ : ∃ Y : ByteArray, Y = ⟨(ftx x).toArray⟩ := ⟨_, rfl⟩
        have HMT : Hid ((ks.take (k + 1)).map (txB x) = (ks.take k).map (txB x) ++ [Y]) := (show (ks.take (k + 1)).map (txB x) = (ks.take k).map (txB x) ++ [Y] by rw [HMT0.out, hI1.2, hY])
        have hYs : Y.size ≤ 60 := by rw [hY, Lib.size_eq]; have := ftx_len HX.out; show (ftx x).length ≤ 60; omega
        have hcat : (⟨#[70, 76, 65, 71, 83, 32]⟩ : ByteArray) ++ fg.FT x.f = Y := by
          rw [hY, show (⟨#[70, 76, 65, 71, 83, 32]⟩ : ByteArray) = ⟨([70, 76, 65, 71, 83, 32] : List UInt8).toArray⟩ from rfl, show fg.FT x.f = ⟨(fg.FT x.f).data.toList.toArray⟩ by simp, fg.mk_app]
          unfold ftx kFl
          simp
        have hcs : (fg.FT x.f : ByteArray).size ≤ 60 := by have h := congrArg ByteArray.size hcat; rw [ByteArray.size_append] at h; omega
        clear hY hI1 HI1 HOKN HFAIL HMT0 HSNX HUNX HIT hul hN
        rw [show (⟨kFl.toArray⟩ : ByteArray) = ⟨#[70, 76, 65, 71, 83]⟩ from rfl]
        go_wp2_with fail
        refine (HFL.out w1).mono ?_
        rintro e w2 ⟨rfl, b2⟩
        have hownq := ow.own_below hown1 b2
        have hbq := hbw1.trans (b2.mono hB1)
        have hBq : B ≤ w2.heap.size := Nat.le_trans hB1 b2.size
        clear hown1 hbw1 b2 hB1 k0 k1 k2
        go_wp2_with (at_builtin; refine wpList_append_own _ rfl _ _ 33 rfl B 9 i0 (.string ByteArray.empty) 1 16 Tryz.underlying33 hi hz0 hz1 hz2 rfl (by decide) _ _ _ rfl (hownq.alloc _) ⟨w2.heap.size, 0, none⟩ 1 1 [.string Y] rfl rfl (ow.cells_new _ [.string Y] _) (by intro u hu; simp at hu; subst hu; rfl) (by unfold maxLen; omega) (by omega) (by simp; omega) ?_; intro v' w3 hown3 hgrow3 hnil3)
        have hb3 := bel_app HB.out (hbq.alloc hBq _) hgrow3 (ow.own_lt hownq)
        have HA : Hid (w3.ownsRow B 9 1 v' (k + 1) (((ks.take (k + 1)).map (txB x)).map Value.string) ∧ Below B w0 w3 ∧ v' ≠ .slice none 0 0) := ⟨by rw [HMT.out, List.map_append]; exact hown3, hb3, fun e => by have := (hnil3.1 e).2; omega⟩
        clear hown3 hgrow3 hnil3 hb3 hownq hbq
        go_wp2
        go_roundw
        case rel => exact ⟨k + 1, sn, ud, by go_num, by omega, rfl, rfl, HSN.out, HUN.out, HOK2.out, HA.out.2.2, HA.out.1, HA.out.2.1⟩
        case measure => first | (simp [intOf]; done) | (simp [intOf]; omega)
      by_cases e1 : U = kUi
      · skip
        subst e1
        have HI1 : Hid (itm s = some .ui) := HIT.out
        have hI1 := it_of HI1.out (show TI x .ui = some (utx x) from rfl)
        have HOK2 : Hid (∀ j, j < k + 1 → ∃ t, tx1 x (ks.getD j nt) = some t) := HOKN.out _ hI1.1
        have HSN : Hid (sn = (ks.take (k + 1)).any isSn) := (show sn = (ks.take (k + 1)).any isSn by have := HSNX.out false (by unfold isSn; rw [HI1.out]; rfl); rwa [Bool.or_false] at this)
        have HUN : Hid (true = (ks.take (k + 1)).any isUi) := (show true = (ks.take (k + 1)).any isUi by have := HUNX.out true (by unfold isUi; rw [HI1.out]; rfl); rw [Bool.or_true] at this; exact this)
        obtain ⟨Y, hY⟩ : ∃ Y : ByteArray, Y = ⟨(utx x).toArray⟩ := ⟨_, rfl⟩
        have HMT : Hid ((ks.take (k + 1)).map (txB x) = (ks.take k).map (txB x) ++ [Y]) := (show (ks.take (k + 1)).map (txB x) = (ks.take k).map (txB x) ++ [Y] by rw [HMT0.out, hI1.2, hY])
        have hYs : Y.size ≤ 60 := by rw [hY, Lib.size_eq]; have := utx_len HX.out; show (utx x).length ≤ 60; omega
        have hcat : (⟨#[85, 73, 68, 32]⟩ : ByteArray) ++ ⟨(Lib.decDigits x.u).toArray⟩ = Y := by
          rw [hY, show (⟨#[85, 73, 68, 32]⟩ : ByteArray) = ⟨([85, 73, 68, 32] : List UInt8).toArray⟩ from rfl, fg.mk_app]
          unfold utx kUi
          simp
        have hcs : (⟨(Lib.decDigits x.u).toArray⟩ : ByteArray).size ≤ 60 := by have h := congrArg ByteArray.size hcat; rw [ByteArray.size_append] at h; omega
        have hcl : (Lib.decDigits x.u).length ≤ 60 := by have h := hcs; rw [Lib.size_eq] at h; exact h
        clear hY hI1 HI1 HOKN HFAIL HMT0 HSNX HUNX HIT hul hN
        rw [show (⟨kUi.toArray⟩ : ByteArray) = ⟨#[85, 73, 68]⟩ from rfl]
        go_wp2_with fail
        refine (HDG.out x.u w1 (by omega)).mono ?_
        rintro e w2 ⟨rfl, b2⟩
        have hownq := ow.own_below hown1 b2
        have hbq := hbw1.trans (b2.mono hB1)
        have hBq : B ≤ w2.heap.size := Nat.le_trans hB1 b2.size
        clear hown1 hbw1 b2 hB1 k0 k1 k2
        go_wp2_with (at_builtin; refine wpList_append_own _ rfl _ _ 33 rfl B 9 i0 (.string ByteArray.empty) 1 16 Tryz.underlying33 hi hz0 hz1 hz2 rfl (by decide) _ _ _ rfl (hownq.alloc _) ⟨w2.heap.size, 0, none⟩ 1 1 [.string Y] rfl rfl (ow.cells_new _ [.string Y] _) (by intro u hu; simp at hu; subst hu; rfl) (by unfold maxLen; omega) (by omega) (by simp; omega) ?_; intro v' w3 hown3 hgrow3 hnil3)
        have hb3 := bel_app HB.out (hbq.alloc hBq _) hgrow3 (ow.own_lt hownq)
        have HA : Hid (w3.ownsRow B 9 1 v' (k + 1) (((ks.take (k + 1)).map (txB x)).map Value.string) ∧ Below B w0 w3 ∧ v' ≠ .slice none 0 0) := ⟨by rw [HMT.out, List.map_append]; exact hown3, hb3, fun e => by have := (hnil3.1 e).2; omega⟩
        clear hown3 hgrow3 hnil3 hb3 hownq hbq
        go_wp2
        go_roundw
        case rel => exact ⟨k + 1, sn, true, by go_num, by omega, rfl, rfl, HSN.out, HUN.out, HOK2.out, HA.out.2.2, HA.out.1, HA.out.2.1⟩
        case measure => first | (simp [intOf]; done) | (simp [intOf]; omega)
      by_cases e1 : U = kSz
      · skip
        subst e1
        have HI1 : Hid (itm s = some .sz) := HIT.out
        have hI1 := it_of HI1.out (show TI x .sz = some (stx x) from rfl)
        have HOK2 : Hid (∀ j, j < k + 1 → ∃ t, tx1 x (ks.getD j nt) = some t) := HOKN.out _ hI1.1
        have HSN : Hid (sn = (ks.take (k + 1)).any isSn) := (show sn = (ks.take (k + 1)).any isSn by have := HSNX.out false (by unfold isSn; rw [HI1.out]; rfl); rwa [Bool.or_false] at this)
        have HUN : Hid (ud = (ks.take (k + 1)).any isUi) := (show ud = (ks.take (k + 1)).any isUi by have := HUNX.out false (by unfold isUi; rw [HI1.out]; rfl); rw [Bool.or_false] at this; exact this)
        obtain ⟨Y, hY⟩ : ∃ Y : ByteArray, Y = ⟨(stx x).toArray⟩ := ⟨_, rfl⟩
        have HMT : Hid ((ks.take (k + 1)).map (txB x) = (ks.take k).map (txB x) ++ [Y]) := (show (ks.take (k + 1)).map (txB x) = (ks.take k).map (txB x) ++ [Y] by rw [HMT0.out, hI1.2, hY])
        have hYs : Y.size ≤ 60 := by rw [hY, Lib.size_eq]; have := stx_len HX.out; show (stx x).length ≤ 60; omega
        have hcat : (⟨#[82, 70, 67, 56, 50, 50, 46, 83, 73, 90, 69, 32]⟩ : ByteArray) ++ ⟨(Lib.decDigits T.size).toArray⟩ = Y := by
          rw [hY, show (⟨#[82, 70, 67, 56, 50, 50, 46, 83, 73, 90, 69, 32]⟩ : ByteArray) = ⟨([82, 70, 67, 56, 50, 50, 46, 83, 73, 90, 69, 32] : List UInt8).toArray⟩ from rfl, fg.mk_app]
          unfold stx kSz
          rw [HTL.out]
          simp
        have hcs : (⟨(Lib.decDigits T.size).toArray⟩ : ByteArray).size ≤ 60 := by have h := congrArg ByteArray.size hcat; rw [ByteArray.size_append] at h; omega
        have hcl : (Lib.decDigits T.size).length ≤ 60 := by have h := hcs; rw [Lib.size_eq] at h; exact h
        clear hY hI1 HI1 HOKN HFAIL HMT0 HSNX HUNX HIT hul hN
        rw [show (⟨kSz.toArray⟩ : ByteArray) = ⟨#[82, 70, 67, 56, 50, 50, 46, 83, 73, 90, 69]⟩ from rfl]
        go_wp2_with fail
        refine (HDG.out T.size w1 (by omega)).mono ?_
        rintro e w2 ⟨rfl, b2⟩
        have hownq := ow.own_below hown1 b2
        have hbq := hbw1.trans (b2.mono hB1)
        have hBq : B ≤ w2.heap.size := Nat.le_trans hB1 b2.size
        clear hown1 hbw1 b2 hB1 k0 k1 k2
        go_wp2_with (at_builtin; refine wpList_append_own _ rfl _ _ 33 rfl B 9 i0 (.string ByteArray.empty) 1 16 Tryz.underlying33 hi hz0 hz1 hz2 rfl (by decide) _ _ _ rfl (hownq.alloc _) ⟨w2.heap.size, 0, none⟩ 1 1 [.string Y] rfl rfl (ow.cells_new _ [.string Y] _) (by intro u hu; simp at hu; subst hu; rfl) (by unfold maxLen; omega) (by omega) (by simp; omega) ?_; intro v' w3 hown3 hgrow3 hnil3)
        have hb3 := bel_app HB.out (hbq.alloc hBq _) hgrow3 (ow.own_lt hownq)
        have HA : Hid (w3.ownsRow B 9 1 v' (k + 1) (((ks.take (k + 1)).map (txB x)).map Value.string) ∧ Below B w0 w3 ∧ v' ≠ .slice none 0 0) := ⟨by rw [HMT.out, List.map_append]; exact hown3, hb3, fun e => by have := (hnil3.1 e).2; omega⟩
        clear hown3 hgrow3 hnil3 hb3 hownq hbq
        go_wp2
        go_roundw
        case rel => exact ⟨k + 1, sn, ud, by go_num, by omega, rfl, rfl, HSN.out, HUN.out, HOK2.out, HA.out.2.2, HA.out.1, HA.out.2.1⟩
        case measure => first | (simp [intOf]; done) | (simp [intOf]; omega)
      have HN1 : Hid (U ≠ kFl ∧ U ≠ kUi ∧ U ≠ kSz) := ⟨by assumption, by assumption, by assumption⟩
      obtain ⟨UB, hUB⟩ : ∃ UB : ByteArray, UB = ⟨U.toArray⟩ := ⟨_, rfl⟩
      rw [← hUB]
      obtain rfl : U = UB.data.toList := by rw [hUB]
      clear hUB
      have t1 : (UB.toList == [70, 76, 65, 71, 83]) = false := by rw [tlq]; exact decide_eq_false HN1.out.1
      have t2 : (UB.toList == [85, 73, 68]) = false := by rw [tlq]; exact decide_eq_false HN1.out.2.1
      have t3 : (UB.toList == [82, 70, 67, 56, 50, 50, 46, 83, 73, 90, 69]) = false := by rw [tlq]; exact decide_eq_false HN1.out.2.2
      have hus : UB.size ≤ 1048576 := by rw [Lib.size_eq]; exact hul
      have HLS : Hid (UB.data.toList.length = UB.size) := (Lib.size_eq UB).symm
      clear hul hN
      by_cases g10 : UB.size ≤ 10
      · have g10i : ¬ (10 : Int) < (UB.size : Int) := by omega
        have HPK : Hid (pkOf UB.data.toList = false) := decide_eq_false fun y => by rw [HLS.out] at y; omega
        by_cases f1 : UB.size ≤ 5
        · have f1i : (UB.size : Int) ≤ 5 := by omega
          have HR : Hid (L13 x seq ks wu (.returned (.tuple #[.string ⟨#[]⟩, .bool false, .bool false]))) := HFAIL.out (tx1_none (by rw [HIT.out]; exact no_open HPK.out HN1.out.1 HN1.out.2.1 HN1.out.2.2 (.inl (by rw [HLS.out]; show UB.size ≤ 5; omega))))
          have HBB : Hid (Below B w0 w1) := hbw1
          clear hown1 hbw1 HFAIL HOKN HMT0 HSNX HUNX
          go_wp2
          go_ret3
          exact ⟨HR.out, HBW.out _ HBB.out⟩
        have f1i : ¬ (UB.size : Int) ≤ 5 := by omega
        have hs5 : ∀ wx : World, (Instr.slice 9 (.string UB) none (some (.int .i64 5)) none).run Tryz.prog wx = .ok (.string (UB.extract 0 5)) wx := fun wx => by
          rw [run_slice_string_to_if wx 9 UB .i64 5 Tryz.underlying9, if_pos ⟨by omega, by omega⟩]
          rfl
        have e5l : (UB.extract 0 5).size = 5 := sz_ext _ _ _ (by omega)
        have HE5 : Hid ((UB.extract 0 5).data.toList = UB.data.toList.take 5) := (show (UB.extract 0 5).data.toList = UB.data.toList.take 5 by rw [ext_mid]; simp)
        by_cases f2 : UB.data.toList.take 5 = hd false
        rotate_left
        · have e5 : ((UB.extract 0 5).toList == [66, 79, 68, 89, 91]) = false := by rw [tlq]; exact decide_eq_false fun y => f2 (by rw [← HE5.out, y]; rfl)
          have HR : Hid (L13 x seq ks wu (.returned (.tuple #[.string ⟨#[]⟩, .bool false, .bool false]))) := HFAIL.out (tx1_none (by rw [HIT.out]; exact no_open HPK.out HN1.out.1 HN1.out.2.1 HN1.out.2.2 (.inr (.inl f2))))
          have HBB : Hid (Below B w0 w1) := hbw1
          clear hown1 hbw1 HFAIL HOKN HMT0 HSNX HUNX f2
          generalize UB.extract 0 5 = E5 at hs5 e5 e5l HE5
          go_wp2
          go_ret3
          exact ⟨HR.out, HBW.out _ HBB.out⟩
        have e5 : ((UB.extract 0 5).toList == [66, 79, 68, 89, 91]) = true := by rw [tlq]; exact decide_eq_true (by rw [HE5.out, f2]; rfl)
        have HE2 : Hid (UB.data.toList.take (hd false).length = hd false) := f2
        clear f2 HE5
        generalize UB.extract 0 5 = E5 at hs5 e5 e5l
        have hix : ∀ wx : World, (Instr.index 9 (.string UB) (.int .i64 ((UB.size : Int) - 1))).run Tryz.prog wx = .ok (.int .u8 (((UB[UB.size - 1]'(by omega)).toNat : Nat) : Int)) wx := fun wx => by
          rw [show ((UB.size : Int) - 1) = ((UB.size - 1 : Nat) : Int) by omega, run_index_string wx 9 UB .i64 ((UB.size - 1 : Nat) : Int) Tryz.underlying9, dif_pos ⟨by omega, by omega⟩]
          rfl
        have HLB : Hid (UB.data.toList.getD (UB.data.toList.length - 1) 0 = (UB[UB.size - 1]'(by omega))) := (show UB.data.toList.getD (UB.data.toList.length - 1) 0 = (UB[UB.size - 1]'(by omega)) by rw [HLS.out]; exact last_at UB (UB.size - 1) (by omega))
        generalize (UB[UB.size - 1]'(by omega)) = z at hix HLB
        by_cases f3 : z = 93
        rotate_left
        · have dz : ((z.toNat : Int) != 93) = true := by rw [bne_iff_ne]; intro y; exact f3 (UInt8.toNat_inj.1 (by show z.toNat = 93; omega))
          have HR : Hid (L13 x seq ks wu (.returned (.tuple #[.string ⟨#[]⟩, .bool false, .bool false]))) := HFAIL.out (tx1_none (by rw [HIT.out]; exact no_open HPK.out HN1.out.1 HN1.out.2.1 HN1.out.2.2 (.inr (.inr (by rw [HLB.out]; exact f3)))))
          have HBB : Hid (Below B w0 w1) := hbw1
          clear hown1 hbw1 HFAIL HOKN HMT0 HSNX HUNX f3
          go_wp2
          go_ret3
          exact ⟨HR.out, HBW.out _ HBB.out⟩
        have dz : ((z.toNat : Int) != 93) = false := by rw [f3]; rfl
        have HLA : Hid (UB.data.toList.getD (UB.data.toList.length - 1) 0 = 93) := (show UB.data.toList.getD (UB.data.toList.length - 1) 0 = 93 by rw [HLB.out, f3])
        clear f3 HLB
        have HOP := is_open HPK.out HN1.out.1 HN1.out.2.1 HN1.out.2.2 (show (hd false).length < UB.data.toList.length by rw [HLS.out]; show 5 < UB.size; omega) HE2.out HLA.out
        have HOP1 : Hid (∀ i, i < 3 → (UB.extract 5 (UB.size - 1)).data.toList = pt i → itm s = some (.bd false i)) := fun i hi hm => by rw [HIT.out]; exact HOP.1 i hi (by rw [← hm, ext_mid, midOf, HLS.out]; rfl)
        have HOP2 : Hid (¬ ((UB.extract 5 (UB.size - 1)).data.toList = [] ∨ (UB.extract 5 (UB.size - 1)).data.toList = ml.hdr ∨ (UB.extract 5 (UB.size - 1)).data.toList = ml.txt) → itm s = none) := fun hn => by rw [HIT.out]; exact HOP.2 (fun y => hn (by rw [ext_mid]; rw [midOf, HLS.out] at y; exact y))
        have hNs : (UB.extract 5 (UB.size - 1)).size ≤ 1048576 := by rw [sz_ext _ _ _ (by omega)]; omega
        have hss : ∀ wx : World, (Instr.slice 9 (.string UB) (some (.int .i64 5)) (some (.int .i64 ((UB.size : Int) - 1))) none).run Tryz.prog wx = .ok (.string (UB.extract 5 (UB.size - 1))) wx := fun wx => by
          rw [show ((UB.size : Int) - 1) = ((UB.size - 1 : Nat) : Int) by omega, run_slice_string_if wx 9 UB .i64 .i64 5 ((UB.size - 1 : Nat) : Int) Tryz.underlying9, if_pos ⟨by omega, by omega⟩, if_pos ⟨by omega, by omega⟩]
          rfl
        clear HOP
        generalize UB.extract 5 (UB.size - 1) = N at HOP1 HOP2 hNs hss
        go_wp2_with fail
        refine (HPT.out N w1).mono ?_
        rintro e w2 ⟨hr, b2⟩
        have hownq := ow.own_below hown1 b2
        have hbq := hbw1.trans (b2.mono hB1)
        have hBq : B ≤ w2.heap.size := Nat.le_trans hB1 b2.size
        clear hown1 hbw1 b2 hB1 hss
        rcases hr with ⟨bb, fs, i, O, hi3, hNp, hob, hmail, hO, rfl⟩ | ⟨hno, O, rfl⟩
        rotate_left
        · have HR : Hid (L13 x seq ks wu (.returned (.tuple #[.string ⟨#[]⟩, .bool false, .bool false]))) := by
            refine HFAIL.out ?_
            by_cases hin : N.data.toList = [] ∨ N.data.toList = ml.hdr ∨ N.data.toList = ml.txt
            · obtain ⟨i, hi, hp⟩ := pt_is hin
              exact tx1_no (HOP1.out i hi hp) (by rcases hno with h | h; exact h; exact absurd hin h)
            · exact tx1_none (HOP2.out hin)
          have HBB : Hid (Below B w0 w2) := hbq
          clear hno hownq hbq HFAIL HOKN HMT0 HSNX HUNX
          go_wp2
          go_ret3
          exact ⟨HR.out, HBW.out _ HBB.out⟩
        have HI1 : Hid (itm s = some (.bd false i)) := HOP1.out i hi3 hNp
        have hTI : TI x (.bd false i) = some (bodyTx x bb i) := by show Option.map _ x.ob = _; rw [hob]; rfl
        have hI1 := it_of HI1.out hTI
        have HOK2 : Hid (∀ j, j < k + 1 → ∃ t, tx1 x (ks.getD j nt) = some t) := HOKN.out _ hI1.1
        have HSN : Hid ((sn || true) = (ks.take (k + 1)).any isSn) := HSNX.out _ (by unfold isSn; rw [HI1.out]; rfl)
        have HUN : Hid (ud = (ks.take (k + 1)).any isUi) := (show ud = (ks.take (k + 1)).any isUi by have := HUNX.out false (by unfold isUi; rw [HI1.out]; rfl); rw [Bool.or_false] at this; exact this)
        obtain ⟨Y, hY⟩ : ∃ Y : ByteArray, Y = ⟨(bodyTx x bb i).toArray⟩ := ⟨_, rfl⟩
        have HMT : Hid ((ks.take (k + 1)).map (txB x) = (ks.take k).map (txB x) ++ [Y]) := (show (ks.take (k + 1)).map (txB x) = (ks.take k).map (txB x) ++ [Y] by rw [HMT0.out, hI1.2, hY])
        have hYs : Y.size ≤ 4060 := by rw [hY, Lib.size_eq]; exact body_len HX.out hmail i
        have hOl : O.size = (part x bb i).length := by rw [hO, Lib.size_eq]
        have hOs : O.size ≤ 4000 := by rw [hOl]; have h1 := part_len x bb i fs hmail; have h2 := HX.out.l; omega
        have hN6 : N.size ≤ 6 := by rw [Lib.size_eq, hNp]; exact pt_len i
        obtain ⟨D, hD⟩ : ∃ D : ByteArray, D = ⟨(Lib.decDigits O.size).toArray⟩ := ⟨_, rfl⟩
        have hDs : D.size ≤ 10 := by rw [hD, Lib.size_eq]; exact dec4 (by omega)
        have hcat : (⟨#[66, 79, 68, 89, 91]⟩ : ByteArray) ++ N ++ ⟨#[93, 32, 123]⟩ ++ D ++ ⟨#[125, 13, 10]⟩ ++ O = Y := by
          rw [hY, hD, hOl, hO, show N = ⟨(pt i).toArray⟩ by rw [← hNp], show (⟨#[66, 79, 68, 89, 91]⟩ : ByteArray) = ⟨([66, 79, 68, 89, 91] : List UInt8).toArray⟩ from rfl, show (⟨#[93, 32, 123]⟩ : ByteArray) = ⟨([93, 32, 123] : List UInt8).toArray⟩ from rfl, show (⟨#[125, 13, 10]⟩ : ByteArray) = ⟨([125, 13, 10] : List UInt8).toArray⟩ from rfl, fg.mk_app, fg.mk_app, fg.mk_app, fg.mk_app, fg.mk_app]
          unfold bodyTx kBo
          simp
        have s1 : ((⟨#[66, 79, 68, 89, 91]⟩ : ByteArray) ++ N).size ≤ 20 := by rw [ByteArray.size_append]; show 5 + N.size ≤ 20; omega
        have s2 : ((⟨#[66, 79, 68, 89, 91]⟩ : ByteArray) ++ N ++ ⟨#[93, 32, 123]⟩).size ≤ 30 := by rw [ByteArray.size_append]; show _ + 3 ≤ 30; omega
        have s3 : ((⟨#[66, 79, 68, 89, 91]⟩ : ByteArray) ++ N ++ ⟨#[93, 32, 123]⟩ ++ D).size ≤ 50 := by rw [ByteArray.size_append]; omega
        have s4 : ((⟨#[66, 79, 68, 89, 91]⟩ : ByteArray) ++ N ++ ⟨#[93, 32, 123]⟩ ++ D ++ ⟨#[125, 13, 10]⟩).size ≤ 60 := by rw [ByteArray.size_append]; show _ + 3 ≤ 60; omega
        have HDD : Hid (∀ W, Calls Tryz.prog 28 #[.int .i64 (O.size : Int)] W fun e w' => e = .returned (.string D) ∧ Below W.heap.size W w') := fun W => by rw [hD]; exact HDG.out O.size W (by omega)
        clear hY hI1 HI1 HOKN HFAIL HMT0 HSNX HUNX hTI hob hmail hO hOl hNp hD HOP1 HOP2
        cases sn
        all_goals
          go_wp2_with fail
          refine (HDD.out _).mono ?_
          rintro e w4 ⟨rfl, b4⟩
          have hownq := ow.own_below hownq b4
          have hbq := hbq.trans (b4.mono hBq)
          have hBq : B ≤ w4.heap.size := Nat.le_trans hBq b4.size
          clear b4
          go_wp2_with (at_builtin; refine wpList_append_own _ rfl _ _ 33 rfl B 9 i0 (.string ByteArray.empty) 1 16 Tryz.underlying33 hi hz0 hz1 hz2 rfl (by decide) _ _ _ rfl (hownq.alloc _) ⟨w4.heap.size, 0, none⟩ 1 1 [.string Y] rfl rfl (ow.cells_new _ [.string Y] _) (by intro u hu; simp at hu; subst hu; rfl) (by unfold maxLen; omega) (by omega) (by simp; omega) ?_; intro v' w3 hown3 hgrow3 hnil3)
          have hb3 := bel_app HB.out (hbq.alloc hBq _) hgrow3 (ow.own_lt hownq)
          have HA : Hid (w3.ownsRow B 9 1 v' (k + 1) (((ks.take (k + 1)).map (txB x)).map Value.string) ∧ Below B w0 w3 ∧ v' ≠ .slice none 0 0) := ⟨by rw [HMT.out, List.map_append]; exact hown3, hb3, fun e => by have := (hnil3.1 e).2; omega⟩
          clear hown3 hgrow3 hnil3 hb3 hownq hbq
          go_wp2
          go_roundw
          case rel => exact ⟨k + 1, _, ud, by go_num, by omega, rfl, rfl, HSN.out, HUN.out, HOK2.out, HA.out.2.2, HA.out.1, HA.out.2.1⟩
          case measure => first | (simp [intOf]; done) | (simp [intOf]; omega)
      have g10i : (10 : Int) < (UB.size : Int) := by omega
      have hs10 : ∀ wx : World, (Instr.slice 9 (.string UB) none (some (.int .i64 10)) none).run Tryz.prog wx = .ok (.string (UB.extract 0 10)) wx := fun wx => by
        rw [run_slice_string_to_if wx 9 UB .i64 10 Tryz.underlying9, if_pos ⟨by omega, by omega⟩]
        rfl
      have e10l : (UB.extract 0 10).size = 10 := sz_ext _ _ _ (by omega)
      have HE10 : Hid ((UB.extract 0 10).data.toList = UB.data.toList.take 10) := (show (UB.extract 0 10).data.toList = UB.data.toList.take 10 by rw [ext_mid]; simp)
      by_cases gp : UB.data.toList.take 10 = hd true
      · have e10 : ((UB.extract 0 10).toList == [66, 79, 68, 89, 46, 80, 69, 69, 75, 91]) = true := by rw [tlq]; exact decide_eq_true (by rw [HE10.out, gp]; rfl)
        have HPK : Hid (pkOf UB.data.toList = true) := decide_eq_true ⟨by rw [HLS.out]; omega, gp⟩
        have HE2 : Hid (UB.data.toList.take (hd true).length = hd true) := gp
        have g10n : ¬ (UB.size : Int) ≤ 10 := by omega
        clear gp HE10
        generalize UB.extract 0 10 = E10 at hs10 e10 e10l
        have hix : ∀ wx : World, (Instr.index 9 (.string UB) (.int .i64 ((UB.size : Int) - 1))).run Tryz.prog wx = .ok (.int .u8 (((UB[UB.size - 1]'(by omega)).toNat : Nat) : Int)) wx := fun wx => by
          rw [show ((UB.size : Int) - 1) = ((UB.size - 1 : Nat) : Int) by omega, run_index_string wx 9 UB .i64 ((UB.size - 1 : Nat) : Int) Tryz.underlying9, dif_pos ⟨by omega, by omega⟩]
          rfl
        have HLB : Hid (UB.data.toList.getD (UB.data.toList.length - 1) 0 = (UB[UB.size - 1]'(by omega))) := (show UB.data.toList.getD (UB.data.toList.length - 1) 0 = (UB[UB.size - 1]'(by omega)) by rw [HLS.out]; exact last_at UB (UB.size - 1) (by omega))
        generalize (UB[UB.size - 1]'(by omega)) = z at hix HLB
        by_cases f3 : z = 93
        rotate_left
        · have dz : ((z.toNat : Int) != 93) = true := by rw [bne_iff_ne]; intro y; exact f3 (UInt8.toNat_inj.1 (by show z.toNat = 93; omega))
          have HR : Hid (L13 x seq ks wu (.returned (.tuple #[.string ⟨#[]⟩, .bool false, .bool false]))) := HFAIL.out (tx1_none (by rw [HIT.out]; exact no_open HPK.out HN1.out.1 HN1.out.2.1 HN1.out.2.2 (.inr (.inr (by rw [HLB.out]; exact f3)))))
          have HBB : Hid (Below B w0 w1) := hbw1
          clear hown1 hbw1 HFAIL HOKN HMT0 HSNX HUNX f3
          go_wp2
          go_ret3
          exact ⟨HR.out, HBW.out _ HBB.out⟩
        have dz : ((z.toNat : Int) != 93) = false := by rw [f3]; rfl
        have HLA : Hid (UB.data.toList.getD (UB.data.toList.length - 1) 0 = 93) := (show UB.data.toList.getD (UB.data.toList.length - 1) 0 = 93 by rw [HLB.out, f3])
        clear f3 HLB
        have HOP := is_open HPK.out HN1.out.1 HN1.out.2.1 HN1.out.2.2 (show (hd true).length < UB.data.toList.length by rw [HLS.out]; show 10 < UB.size; omega) HE2.out HLA.out
        have HOP1 : Hid (∀ i, i < 3 → (UB.extract 10 (UB.size - 1)).data.toList = pt i → itm s = some (.bd true i)) := fun i hi hm => by rw [HIT.out]; exact HOP.1 i hi (by rw [← hm, ext_mid, midOf, HLS.out]; rfl)
        have HOP2 : Hid (¬ ((UB.extract 10 (UB.size - 1)).data.toList = [] ∨ (UB.extract 10 (UB.size - 1)).data.toList = ml.hdr ∨ (UB.extract 10 (UB.size - 1)).data.toList = ml.txt) → itm s = none) := fun hn => by rw [HIT.out]; exact HOP.2 (fun y => hn (by rw [ext_mid]; rw [midOf, HLS.out] at y; exact y))
        have hNs : (UB.extract 10 (UB.size - 1)).size ≤ 1048576 := by rw [sz_ext _ _ _ (by omega)]; omega
        have hss : ∀ wx : World, (Instr.slice 9 (.string UB) (some (.int .i64 10)) (some (.int .i64 ((UB.size : Int) - 1))) none).run Tryz.prog wx = .ok (.string (UB.extract 10 (UB.size - 1))) wx := fun wx => by
          rw [show ((UB.size : Int) - 1) = ((UB.size - 1 : Nat) : Int) by omega, run_slice_string_if wx 9 UB .i64 .i64 10 ((UB.size - 1 : Nat) : Int) Tryz.underlying9, if_pos ⟨by omega, by omega⟩, if_pos ⟨by omega, by omega⟩]
          rfl
        clear HOP
        generalize UB.extract 10 (UB.size - 1) = N at HOP1 HOP2 hNs hss
        go_wp2_with fail
        refine (HPT.out N w1).mono ?_
        rintro e w2 ⟨hr, b2⟩
        have hownq := ow.own_below hown1 b2
        have hbq := hbw1.trans (b2.mono hB1)
        have hBq : B ≤ w2.heap.size := Nat.le_trans hB1 b2.size
        clear hown1 hbw1 b2 hB1 hss
        rcases hr with ⟨bb, fs, i, O, hi3, hNp, hob, hmail, hO, rfl⟩ | ⟨hno, O, rfl⟩
        rotate_left
        · have HR : Hid (L13 x seq ks wu (.returned (.tuple #[.string ⟨#[]⟩, .bool false, .bool false]))) := by
            refine HFAIL.out ?_
            by_cases hin : N.data.toList = [] ∨ N.data.toList = ml.hdr ∨ N.data.toList = ml.txt
            · obtain ⟨i, hi, hp⟩ := pt_is hin
              exact tx1_no (HOP1.out i hi hp) (by rcases hno with h | h; exact h; exact absurd hin h)
            · exact tx1_none (HOP2.out hin)
          have HBB : Hid (Below B w0 w2) := hbq
          clear hno hownq hbq HFAIL HOKN HMT0 HSNX HUNX
          go_wp2
          go_ret3
          exact ⟨HR.out, HBW.out _ HBB.out⟩
        have HI1 : Hid (itm s = some (.bd true i)) := HOP1.out i hi3 hNp
        have hTI : TI x (.bd true i) = some (bodyTx x bb i) := by show Option.map _ x.ob = _; rw [hob]; rfl
        have hI1 := it_of HI1.out hTI
        have HOK2 : Hid (∀ j, j < k + 1 → ∃ t, tx1 x (ks.getD j nt) = some t) := HOKN.out _ hI1.1
        have HSN : Hid ((sn || false) = (ks.take (k + 1)).any isSn) := HSNX.out _ (by unfold isSn; rw [HI1.out]; rfl)
        have HUN : Hid (ud = (ks.take (k + 1)).any isUi) := (show ud = (ks.take (k + 1)).any isUi by have := HUNX.out false (by unfold isUi; rw [HI1.out]; rfl); rw [Bool.or_false] at this; exact this)
        obtain ⟨Y, hY⟩ : ∃ Y : ByteArray, Y = ⟨(bodyTx x bb i).toArray⟩ := ⟨_, rfl⟩
        have HMT : Hid ((ks.take (k + 1)).map (txB x) = (ks.take k).map (txB x) ++ [Y]) := (show (ks.take (k + 1)).map (txB x) = (ks.take k).map (txB x) ++ [Y] by rw [HMT0.out, hI1.2, hY])
        have hYs : Y.size ≤ 4060 := by rw [hY, Lib.size_eq]; exact body_len HX.out hmail i
        have hOl : O.size = (part x bb i).length := by rw [hO, Lib.size_eq]
        have hOs : O.size ≤ 4000 := by rw [hOl]; have h1 := part_len x bb i fs hmail; have h2 := HX.out.l; omega
        have hN6 : N.size ≤ 6 := by rw [Lib.size_eq, hNp]; exact pt_len i
        obtain ⟨D, hD⟩ : ∃ D : ByteArray, D = ⟨(Lib.decDigits O.size).toArray⟩ := ⟨_, rfl⟩
        have hDs : D.size ≤ 10 := by rw [hD, Lib.size_eq]; exact dec4 (by omega)
        have hcat : (⟨#[66, 79, 68, 89, 91]⟩ : ByteArray) ++ N ++ ⟨#[93, 32, 123]⟩ ++ D ++ ⟨#[125, 13, 10]⟩ ++ O = Y := by
          rw [hY, hD, hOl, hO, show N = ⟨(pt i).toArray⟩ by rw [← hNp], show (⟨#[66, 79, 68, 89, 91]⟩ : ByteArray) = ⟨([66, 79, 68, 89, 91] : List UInt8).toArray⟩ from rfl, show (⟨#[93, 32, 123]⟩ : ByteArray) = ⟨([93, 32, 123] : List UInt8).toArray⟩ from rfl, show (⟨#[125, 13, 10]⟩ : ByteArray) = ⟨([125, 13, 10] : List UInt8).toArray⟩ from rfl, fg.mk_app, fg.mk_app, fg.mk_app, fg.mk_app, fg.mk_app]
          unfold bodyTx kBo
          simp
        have s1 : ((⟨#[66, 79, 68, 89, 91]⟩ : ByteArray) ++ N).size ≤ 20 := by rw [ByteArray.size_append]; show 5 + N.size ≤ 20; omega
        have s2 : ((⟨#[66, 79, 68, 89, 91]⟩ : ByteArray) ++ N ++ ⟨#[93, 32, 123]⟩).size ≤ 30 := by rw [ByteArray.size_append]; show _ + 3 ≤ 30; omega
        have s3 : ((⟨#[66, 79, 68, 89, 91]⟩ : ByteArray) ++ N ++ ⟨#[93, 32, 123]⟩ ++ D).size ≤ 50 := by rw [ByteArray.size_append]; omega
        have s4 : ((⟨#[66, 79, 68, 89, 91]⟩ : ByteArray) ++ N ++ ⟨#[93, 32, 123]⟩ ++ D ++ ⟨#[125, 13, 10]⟩).size ≤ 60 := by rw [ByteArray.size_append]; show _ + 3 ≤ 60; omega
        have HDD : Hid (∀ W, Calls Tryz.prog 28 #[.int .i64 (O.size : Int)] W fun e w' => e = .returned (.string D) ∧ Below W.heap.size W w') := fun W => by rw [hD]; exact HDG.out O.size W (by omega)
        clear hY hI1 HI1 HOKN HFAIL HMT0 HSNX HUNX hTI hob hmail hO hOl hNp hD HOP1 HOP2
        cases sn
        all_goals
          go_wp2_with fail
          refine (HDD.out _).mono ?_
          rintro e w4 ⟨rfl, b4⟩
          have hownq := ow.own_below hownq b4
          have hbq := hbq.trans (b4.mono hBq)
          have hBq : B ≤ w4.heap.size := Nat.le_trans hBq b4.size
          clear b4
          go_wp2_with (at_builtin; refine wpList_append_own _ rfl _ _ 33 rfl B 9 i0 (.string ByteArray.empty) 1 16 Tryz.underlying33 hi hz0 hz1 hz2 rfl (by decide) _ _ _ rfl (hownq.alloc _) ⟨w4.heap.size, 0, none⟩ 1 1 [.string Y] rfl rfl (ow.cells_new _ [.string Y] _) (by intro u hu; simp at hu; subst hu; rfl) (by unfold maxLen; omega) (by omega) (by simp; omega) ?_; intro v' w3 hown3 hgrow3 hnil3)
          have hb3 := bel_app HB.out (hbq.alloc hBq _) hgrow3 (ow.own_lt hownq)
          have HA : Hid (w3.ownsRow B 9 1 v' (k + 1) (((ks.take (k + 1)).map (txB x)).map Value.string) ∧ Below B w0 w3 ∧ v' ≠ .slice none 0 0) := ⟨by rw [HMT.out, List.map_append]; exact hown3, hb3, fun e => by have := (hnil3.1 e).2; omega⟩
          clear hown3 hgrow3 hnil3 hb3 hownq hbq
          go_wp2
          go_roundw
          case rel => exact ⟨k + 1, _, ud, by go_num, by omega, rfl, rfl, HSN.out, HUN.out, HOK2.out, HA.out.2.2, HA.out.1, HA.out.2.1⟩
          case measure => first | (simp [intOf]; done) | (simp [intOf]; omega)
      have e10 : ((UB.extract 0 10).toList == [66, 79, 68, 89, 46, 80, 69, 69, 75, 91]) = false := by rw [tlq]; exact decide_eq_false fun y => gp (by rw [← HE10.out, y]; rfl)
      have HPK : Hid (pkOf UB.data.toList = false) := decide_eq_false fun y => gp y.2
      clear gp HE10
      generalize UB.extract 0 10 = E10 at hs10 e10 e10l
      by_cases f1 : UB.size ≤ 5
      · have f1i : (UB.size : Int) ≤ 5 := by omega
        have HR : Hid (L13 x seq ks wu (.returned (.tuple #[.string ⟨#[]⟩, .bool false, .bool false]))) := HFAIL.out (tx1_none (by rw [HIT.out]; exact no_open HPK.out HN1.out.1 HN1.out.2.1 HN1.out.2.2 (.inl (by rw [HLS.out]; show UB.size ≤ 5; omega))))
        have HBB : Hid (Below B w0 w1) := hbw1
        clear hown1 hbw1 HFAIL HOKN HMT0 HSNX HUNX
        go_wp2
        go_ret3
        exact ⟨HR.out, HBW.out _ HBB.out⟩
      have f1i : ¬ (UB.size : Int) ≤ 5 := by omega
      have hs5 : ∀ wx : World, (Instr.slice 9 (.string UB) none (some (.int .i64 5)) none).run Tryz.prog wx = .ok (.string (UB.extract 0 5)) wx := fun wx => by
        rw [run_slice_string_to_if wx 9 UB .i64 5 Tryz.underlying9, if_pos ⟨by omega, by omega⟩]
        rfl
      have e5l : (UB.extract 0 5).size = 5 := sz_ext _ _ _ (by omega)
      have HE5 : Hid ((UB.extract 0 5).data.toList = UB.data.toList.take 5) := (show (UB.extract 0 5).data.toList = UB.data.toList.take 5 by rw [ext_mid]; simp)
      by_cases f2 : UB.data.toList.take 5 = hd false
      rotate_left
      · have e5 : ((UB.extract 0 5).toList == [66, 79, 68, 89, 91]) = false := by rw [tlq]; exact decide_eq_false fun y => f2 (by rw [← HE5.out, y]; rfl)
        have HR : Hid (L13 x seq ks wu (.returned (.tuple #[.string ⟨#[]⟩, .bool false, .bool false]))) := HFAIL.out (tx1_none (by rw [HIT.out]; exact no_open HPK.out HN1.out.1 HN1.out.2.1 HN1.out.2.2 (.inr (.inl f2))))
        have HBB : Hid (Below B w0 w1) := hbw1
        clear hown1 hbw1 HFAIL HOKN HMT0 HSNX HUNX f2
        generalize UB.extract 0 5 = E5 at hs5 e5 e5l HE5
        go_wp2
        go_ret3
        exact ⟨HR.out, HBW.out _ HBB.out⟩
      have e5 : ((UB.extract 0 5).toList == [66, 79, 68, 89, 91]) = true := by rw [tlq]; exact decide_eq_true (by rw [HE5.out, f2]; rfl)
      have HE2 : Hid (UB.data.toList.take (hd false).length = hd false) := f2
      clear f2 HE5
      generalize UB.extract 0 5 = E5 at hs5 e5 e5l
      have hix : ∀ wx : World, (Instr.index 9 (.string UB) (.int .i64 ((UB.size : Int) - 1))).run Tryz.prog wx = .ok (.int .u8 (((UB[UB.size - 1]'(by omega)).toNat : Nat) : Int)) wx := fun wx => by
        rw [show ((UB.size : Int) - 1) = ((UB.size - 1 : Nat) : Int) by omega, run_index_string wx 9 UB .i64 ((UB.size - 1 : Nat) : Int) Tryz.underlying9, dif_pos ⟨by omega, by omega⟩]
        rfl
      have HLB : Hid (UB.data.toList.getD (UB.data.toList.length - 1) 0 = (UB[UB.size - 1]'(by omega))) := (show UB.data.toList.getD (UB.data.toList.length - 1) 0 = (UB[UB.size - 1]'(by omega)) by rw [HLS.out]; exact last_at UB (UB.size - 1) (by omega))
      generalize (UB[UB.size - 1]'(by omega)) = z at hix HLB
      by_cases f3 : z = 93
      rotate_left
      · have dz : ((z.toNat : Int) != 93) = true := by rw [bne_iff_ne]; intro y; exact f3 (UInt8.toNat_inj.1 (by show z.toNat = 93; omega))
        have HR : Hid (L13 x seq ks wu (.returned (.tuple #[.string ⟨#[]⟩, .bool false, .bool false]))) := HFAIL.out (tx1_none (by rw [HIT.out]; exact no_open HPK.out HN1.out.1 HN1.out.2.1 HN1.out.2.2 (.inr (.inr (by rw [HLB.out]; exact f3)))))
        have HBB : Hid (Below B w0 w1) := hbw1
        clear hown1 hbw1 HFAIL HOKN HMT0 HSNX HUNX f3
        go_wp2
        go_ret3
        exact ⟨HR.out, HBW.out _ HBB.out⟩
      have dz : ((z.toNat : Int) != 93) = false := by rw [f3]; rfl
      have HLA : Hid (UB.data.toList.getD (UB.data.toList.length - 1) 0 = 93) := (show UB.data.toList.getD (UB.data.toList.length - 1) 0 = 93 by rw [HLB.out, f3])
      clear f3 HLB
      have HOP := is_open HPK.out HN1.out.1 HN1.out.2.1 HN1.out.2.2 (show (hd false).length < UB.data.toList.length by rw [HLS.out]; show 5 < UB.size; omega) HE2.out HLA.out
      have HOP1 : Hid (∀ i, i < 3 → (UB.extract 5 (UB.size - 1)).data.toList = pt i → itm s = some (.bd false i)) := fun i hi hm => by rw [HIT.out]; exact HOP.1 i hi (by rw [← hm, ext_mid, midOf, HLS.out]; rfl)
      have HOP2 : Hid (¬ ((UB.extract 5 (UB.size - 1)).data.toList = [] ∨ (UB.extract 5 (UB.size - 1)).data.toList = ml.hdr ∨ (UB.extract 5 (UB.size - 1)).data.toList = ml.txt) → itm s = none) := fun hn => by rw [HIT.out]; exact HOP.2 (fun y => hn (by rw [ext_mid]; rw [midOf, HLS.out] at y; exact y))
      have hNs : (UB.extract 5 (UB.size - 1)).size ≤ 1048576 := by rw [sz_ext _ _ _ (by omega)]; omega
      have hss : ∀ wx : World, (Instr.slice 9 (.string UB) (some (.int .i64 5)) (some (.int .i64 ((UB.size : Int) - 1))) none).run Tryz.prog wx = .ok (.string (UB.extract 5 (UB.size - 1))) wx := fun wx => by
        rw [show ((UB.size : Int) - 1) = ((UB.size - 1 : Nat) : Int) by omega, run_slice_string_if wx 9 UB .i64 .i64 5 ((UB.size - 1 : Nat) : Int) Tryz.underlying9, if_pos ⟨by omega, by omega⟩, if_pos ⟨by omega, by omega⟩]
        rfl
      clear HOP
      generalize UB.extract 5 (UB.size - 1) = N at HOP1 HOP2 hNs hss
      go_wp2_with fail
      refine (HPT.out N w1).mono ?_
      rintro e w2 ⟨hr, b2⟩
      have hownq := ow.own_below hown1 b2
      have hbq := hbw1.trans (b2.mono hB1)
      have hBq : B ≤ w2.heap.size := Nat.le_trans hB1 b2.size
      clear hown1 hbw1 b2 hB1 hss
      rcases hr with ⟨bb, fs, i, O, hi3, hNp, hob, hmail, hO, rfl⟩ | ⟨hno, O, rfl⟩
      rotate_left
      · have HR : Hid (L13 x seq ks wu (.returned (.tuple #[.string ⟨#[]⟩, .bool false, .bool false]))) := by
          refine HFAIL.out ?_
          by_cases hin : N.data.toList = [] ∨ N.data.toList = ml.hdr ∨ N.data.toList = ml.txt
          · obtain ⟨i, hi, hp⟩ := pt_is hin
            exact tx1_no (HOP1.out i hi hp) (by rcases hno with h | h; exact h; exact absurd hin h)
          · exact tx1_none (HOP2.out hin)
        have HBB : Hid (Below B w0 w2) := hbq
        clear hno hownq hbq HFAIL HOKN HMT0 HSNX HUNX
        go_wp2
        go_ret3
        exact ⟨HR.out, HBW.out _ HBB.out⟩
      have HI1 : Hid (itm s = some (.bd false i)) := HOP1.out i hi3 hNp
      have hTI : TI x (.bd false i) = some (bodyTx x bb i) := by show Option.map _ x.ob = _; rw [hob]; rfl
      have hI1 := it_of HI1.out hTI
      have HOK2 : Hid (∀ j, j < k + 1 → ∃ t, tx1 x (ks.getD j nt) = some t) := HOKN.out _ hI1.1
      have HSN : Hid ((sn || true) = (ks.take (k + 1)).any isSn) := HSNX.out _ (by unfold isSn; rw [HI1.out]; rfl)
      have HUN : Hid (ud = (ks.take (k + 1)).any isUi) := (show ud = (ks.take (k + 1)).any isUi by have := HUNX.out false (by unfold isUi; rw [HI1.out]; rfl); rw [Bool.or_false] at this; exact this)
      obtain ⟨Y, hY⟩ : ∃ Y : ByteArray, Y = ⟨(bodyTx x bb i).toArray⟩ := ⟨_, rfl⟩
      have HMT : Hid ((ks.take (k + 1)).map (txB x) = (ks.take k).map (txB x) ++ [Y]) := (show (ks.take (k + 1)).map (txB x) = (ks.take k).map (txB x) ++ [Y] by rw [HMT0.out, hI1.2, hY])
      have hYs : Y.size ≤ 4060 := by rw [hY, Lib.size_eq]; exact body_len HX.out hmail i
      have hOl : O.size = (part x bb i).length := by rw [hO, Lib.size_eq]
      have hOs : O.size ≤ 4000 := by rw [hOl]; have h1 := part_len x bb i fs hmail; have h2 := HX.out.l; omega
      have hN6 : N.size ≤ 6 := by rw [Lib.size_eq, hNp]; exact pt_len i
      obtain ⟨D, hD⟩ : ∃ D : ByteArray, D = ⟨(Lib.decDigits O.size).toArray⟩ := ⟨_, rfl⟩
      have hDs : D.size ≤ 10 := by rw [hD, Lib.size_eq]; exact dec4 (by omega)
      have hcat : (⟨#[66, 79, 68, 89, 91]⟩ : ByteArray) ++ N ++ ⟨#[93, 32, 123]⟩ ++ D ++ ⟨#[125, 13, 10]⟩ ++ O = Y := by
        rw [hY, hD, hOl, hO, show N = ⟨(pt i).toArray⟩ by rw [← hNp], show (⟨#[66, 79, 68, 89, 91]⟩ : ByteArray) = ⟨([66, 79, 68, 89, 91] : List UInt8).toArray⟩ from rfl, show (⟨#[93, 32, 123]⟩ : ByteArray) = ⟨([93, 32, 123] : List UInt8).toArray⟩ from rfl, show (⟨#[125, 13, 10]⟩ : ByteArray) = ⟨([125, 13, 10] : List UInt8).toArray⟩ from rfl, fg.mk_app, fg.mk_app, fg.mk_app, fg.mk_app, fg.mk_app]
        unfold bodyTx kBo
        simp
      have s1 : ((⟨#[66, 79, 68, 89, 91]⟩ : ByteArray) ++ N).size ≤ 20 := by rw [ByteArray.size_append]; show 5 + N.size ≤ 20; omega
      have s2 : ((⟨#[66, 79, 68, 89, 91]⟩ : ByteArray) ++ N ++ ⟨#[93, 32, 123]⟩).size ≤ 30 := by rw [ByteArray.size_append]; show _ + 3 ≤ 30; omega
      have s3 : ((⟨#[66, 79, 68, 89, 91]⟩ : ByteArray) ++ N ++ ⟨#[93, 32, 123]⟩ ++ D).size ≤ 50 := by rw [ByteArray.size_append]; omega
      have s4 : ((⟨#[66, 79, 68, 89, 91]⟩ : ByteArray) ++ N ++ ⟨#[93, 32, 123]⟩ ++ D ++ ⟨#[125, 13, 10]⟩).size ≤ 60 := by rw [ByteArray.size_append]; show _ + 3 ≤ 60; omega
      have HDD : Hid (∀ W, Calls Tryz.prog 28 #[.int .i64 (O.size : Int)] W fun e w' => e = .returned (.string D) ∧ Below W.heap.size W w') := fun W => by rw [hD]; exact HDG.out O.size W (by omega)
      clear hY hI1 HI1 HOKN HFAIL HMT0 HSNX HUNX hTI hob hmail hO hOl hNp hD HOP1 HOP2
      cases sn
      all_goals
        go_wp2_with fail
        refine (HDD.out _).mono ?_
        rintro e w4 ⟨rfl, b4⟩
        have hownq := ow.own_below hownq b4
        have hbq := hbq.trans (b4.mono hBq)
        have hBq : B ≤ w4.heap.size := Nat.le_trans hBq b4.size
        clear b4
        go_wp2_with (at_builtin; refine wpList_append_own _ rfl _ _ 33 rfl B 9 i0 (.string ByteArray.empty) 1 16 Tryz.underlying33 hi hz0 hz1 hz2 rfl (by decide) _ _ _ rfl (hownq.alloc _) ⟨w4.heap.size, 0, none⟩ 1 1 [.string Y] rfl rfl (ow.cells_new _ [.string Y] _) (by intro u hu; simp at hu; subst hu; rfl) (by unfold maxLen; omega) (by omega) (by simp; omega) ?_; intro v' w3 hown3 hgrow3 hnil3)
        have hb3 := bel_app HB.out (hbq.alloc hBq _) hgrow3 (ow.own_lt hownq)
        have HA : Hid (w3.ownsRow B 9 1 v' (k + 1) (((ks.take (k + 1)).map (txB x)).map Value.string) ∧ Below B w0 w3 ∧ v' ≠ .slice none 0 0) := ⟨by rw [HMT.out, List.map_append]; exact hown3, hb3, fun e => by have := (hnil3.1 e).2; omega⟩
        clear hown3 hgrow3 hnil3 hb3 hownq hbq
        go_wp2
        go_roundw
        case rel => exact ⟨k + 1, _, ud, by go_num, by omega, rfl, rfl, HSN.out, HUN.out, HOK2.out, HA.out.2.2, HA.out.1, HA.out.2.1⟩
        case measure => first | (simp [intOf]; done) | (simp [intOf]; omega)
    · have hkn2 : k = n := by omega
      have HKN : Hid (k = ks.length) := (show k = ks.length by rw [hkn2]; exact HN.out)
      have hlt2 : ¬ (k : Int) < (n : Int) := by omega
      have HSA : Hid (sn = ks.any isSn) := (show sn = ks.any isSn by rw [HSN0.out, List.take_of_length_le (by rw [HKN.out]; exact Nat.le_refl _)])
      have HUA : Hid (ud = ks.any isUi) := (show ud = ks.any isUi by rw [HUN0.out, List.take_of_length_le (by rw [HKN.out]; exact Nat.le_refl _)])
      rw [List.take_of_length_le (by rw [HKN.out]; exact Nat.le_refl _)] at hown
      obtain ⟨g, gc, rfl, hgc, hgB, hgl⟩ := row_some hown HRN.out
      have HFIN : Hid (∀ X : ByteArray, X = ⟨(fin x seq ks wu).toArray⟩ → L13 x seq ks wu (.returned (.tuple #[.string X, .bool sn, .bool true]))) := fun X hX => ⟨X, sn, 0, rfl, .inl ⟨fun j hj => HOK.out j (by rw [HKN.out]; exact hj), hX, HSA.out, rfl⟩⟩
      have HSM := txs_len HX.out ks wu (by rw [← HKN.out]; omega)
      have HJS : Hid ((jn 32 (txs x ks wu)).length ≤ 150000) := jn_small HX.out ks wu (by rw [← HKN.out]; omega)
      have hk30 : k ≤ 30 := by omega
      clear hkn hlt hkn2 HSN0 HUN0 HRN
      by_cases hwu : (wu && !ud) = true
      · obtain ⟨rfl, rfl⟩ : wu = true ∧ ud = false := by cases wu <;> cases ud <;> simp_all
        have HTX : Hid (txs x ks true = utx x :: ks.map (tx x)) := (show txs x ks true = utx x :: ks.map (tx x) by unfold txs; rw [if_pos (by rw [← HUA.out]; rfl)]; rfl)
        obtain ⟨k0, k1, k2⟩ := HCL.out wr hbw
        obtain ⟨Y, hY⟩ : ∃ Y : ByteArray, Y = ⟨(utx x).toArray⟩ := ⟨_, rfl⟩
        have hcat : (⟨#[85, 73, 68, 32]⟩ : ByteArray) ++ ⟨(Lib.decDigits x.u).toArray⟩ = Y := by
          rw [hY, show (⟨#[85, 73, 68, 32]⟩ : ByteArray) = ⟨([85, 73, 68, 32] : List UInt8).toArray⟩ from rfl, fg.mk_app]
          unfold utx kUi
          simp
        have hYs : Y.size ≤ 60 := by rw [hY, Lib.size_eq]; have := utx_len HX.out; show (utx x).length ≤ 60; omega
        have HYL : Hid (Y = ⟨(utx x).toArray⟩) := hY
        have hBr : B ≤ wr.heap.size := Nat.le_trans HB.out hbw.size
        have hcs : (⟨(Lib.decDigits x.u).toArray⟩ : ByteArray).size ≤ 60 := by have h := congrArg ByteArray.size hcat; rw [ByteArray.size_append] at h; omega
        have hcl : (Lib.decDigits x.u).length ≤ 60 := by have h := hcs; rw [Lib.size_eq] at h; exact h
        clear hwu hY
        go_wp2_with fail
        refine (HDG.out x.u wr (by omega)).mono ?_
        rintro e w2 ⟨rfl, b2⟩
        have hown2 := ow.own_below hown b2
        have hbw2 := hbw.trans (b2.mono hBr)
        have hB2 : B ≤ w2.heap.size := Nat.le_trans hBr b2.size
        have hg2 : g < w2.heap.size := Nat.lt_of_lt_of_le hgl b2.size
        have hcells : ∀ j u, (((ks.map (txB x)).map Value.string))[j]? = some u → (w2.alloc (.cells #[.string Y] 9)).cell? ((⟨g, 0, none⟩ : Addr).add j) = some u := fun j u hu => by
          rw [show ((⟨g, 0, none⟩ : Addr).add j) = ⟨g, j, none⟩ from by simp [Addr.add] <;> (intro e; omega)]
          have hjl : j < k := by
            have := (List.getElem?_eq_some_iff.1 hu).1
            rw [List.length_map, List.length_map] at this
            rw [HKN.out]; exact this
          have e := hown2.cellAt j (by omega)
          rw [hu] at e
          have e2 := ((Below.refl w2.heap.size w2).alloc (Nat.le_refl _) (.cells #[.string Y] 9)).cell (p := ⟨g, j, none⟩) hg2
          exact e2.trans e
        have hownn : (w2.alloc (.cells #[.string Y] 9)).ownsRow B 9 1 (.slice (some ⟨w2.heap.size, 0, none⟩) 1 1) 1 [.string Y] := own_one w2 B Y hB2
        have hlen : ((ks.map (txB x)).map Value.string).length = k * 1 := by rw [List.length_map, List.length_map, ← HKN.out, Nat.mul_one]
        have hone : ∀ u ∈ (ks.map (txB x)).map Value.string, u.oneCell' = true := fun u hu => by
          obtain ⟨s, _, rfl⟩ := List.mem_map.1 hu
          rfl
        clear hown hbw b2 k0 k1 k2 hown2 hgl hg2
        go_wp2_with (at_builtin; go_loud (refine wpList_append_own _ rfl _ _ 33 rfl B 9 i0 (.string ByteArray.empty) 1 16 Tryz.underlying33 hi hz0 hz1 hz2 rfl (by decide) _ _ _ rfl hownn ⟨g, 0, none⟩ k gc ((ks.map (txB x)).map Value.string) rfl hlen hcells hone (by unfold maxLen; omega) (by omega) (by simp; omega) ?_); intro v' w3 hown3 hgrow3 hnil3)
        have hb3 := bel_app HB.out (hbw2.alloc hB2 _) hgrow3 (ow.own_lt hownn)
        obtain ⟨g3, gc3, rfl, hgc3, hgB3, hgl3⟩ := row_some hown3 (fun e => by cases (hnil3.1 e).1)
        have HLA : Hid (LisAt w3 (.slice (some ⟨g3, 0, none⟩) (1 + k : Nat) gc3) (txs x ks true)) := by
          refine ⟨some ⟨g3, 0, none⟩, gc3, by rw [HTX.out]; congr 1; simp; have := HKN.out; omega, .inr ⟨g3, 0, rfl, fun j hj => ?_⟩⟩
          rw [Nat.zero_add]
          have e := hown3.cellAt j (by rw [HTX.out] at hj; simp at hj; have := HKN.out; omega)
          rw [e, HTX.out]
          cases j with
          | zero => simp [HYL.out]
          | succ j =>
            rw [HTX.out] at hj
            simp at hj
            simp [List.getD_eq_getElem?_getD, hj, txB]
        have HBB : Hid (Below B w0 w3) := hb3
        clear hown3 hgrow3 hnil3 hb3 hownn hcells hlen hone hbw2 hB2 hcat
        have HFQ := fin_is x seq ks true
        have HJC : Hid (∀ W, LisAt W (.slice (some ⟨g3, 0, none⟩) (1 + k : Nat) gc3) (txs x ks true) → Calls Tryz.prog 44 #[.slice (some ⟨g3, 0, none⟩) (1 + k : Nat) gc3, .string ⟨#[32]⟩] W fun e w' => e = .returned (.string ⟨(jn 32 (txs x ks true)).toArray⟩) ∧ w' = W) := fun W h => HJ.out _ _ W h (by have := HSM.1; omega) (by have := HSM.2; omega)
        have hJs : (⟨(jn 32 (txs x ks true)).toArray⟩ : ByteArray).size ≤ 150000 := by rw [Lib.size_eq]; exact HJS.out
        have HDQ : Hid (∀ W, Calls Tryz.prog 28 #[.int .i64 (seq : Int)] W fun e w' => e = .returned (.string ⟨(Lib.decDigits seq).toArray⟩) ∧ Below W.heap.size W w') := fun W => HDG.out seq W HSQ.out
        have hDs : (⟨(Lib.decDigits seq).toArray⟩ : ByteArray).size ≤ 10 := by rw [Lib.size_eq]; exact dec4 HSQ.out
        generalize (⟨(jn 32 (txs x ks true)).toArray⟩ : ByteArray) = J at HFQ HJC hJs
        generalize (⟨(Lib.decDigits seq).toArray⟩ : ByteArray) = D at HFQ HDQ hDs
        have s1 : ((⟨#[42, 32]⟩ : ByteArray) ++ D).size ≤ 20 := by rw [ByteArray.size_append]; show 2 + D.size ≤ 20; omega
        have s2 : ((⟨#[42, 32]⟩ : ByteArray) ++ D ++ ⟨#[32, 70, 69, 84, 67, 72, 32, 40]⟩).size ≤ 30 := by rw [ByteArray.size_append]; show _ + 8 ≤ 30; omega
        have s3 : ((⟨#[42, 32]⟩ : ByteArray) ++ D ++ ⟨#[32, 70, 69, 84, 67, 72, 32, 40]⟩ ++ J).size ≤ 150100 := by rw [ByteArray.size_append]; omega
        have s4 : ((⟨#[42, 32]⟩ : ByteArray) ++ D ++ ⟨#[32, 70, 69, 84, 67, 72, 32, 40]⟩ ++ J ++ ⟨#[41, 13, 10]⟩).size ≤ 150200 := by rw [ByteArray.size_append]; show _ + 3 ≤ 150200; omega
        have HFI : Hid (∀ X : ByteArray, X = (⟨#[42, 32]⟩ : ByteArray) ++ D ++ ⟨#[32, 70, 69, 84, 67, 72, 32, 40]⟩ ++ J ++ ⟨#[41, 13, 10]⟩ → L13 x seq ks true (.returned (.tuple #[.string X, .bool sn, .bool true]))) := fun X hX => HFIN.out X (hX.trans HFQ)
        clear HFQ HFIN HSM HJS
        go_wp2_with fail
        refine (HDQ.out w3).mono ?_
        rintro e w4 ⟨rfl, b4⟩
        have HL4 : Hid (LisAt w4 (.slice (some ⟨g3, 0, none⟩) (1 + k : Nat) gc3) (txs x ks true)) := lis_keep HLA.out b4
        have HB4 : Hid (Below B w0 w4) := HBB.out.trans (b4.mono (Nat.le_trans HB.out HBB.out.size))
        clear b4 HLA
        go_wp2_with fail
        refine (HJC.out w4 HL4.out).mono ?_
        rintro e w5 ⟨rfl, hw5⟩
        have hw5 := hw5.symm
        subst hw5
        clear HL4
        go_wp2
        go_ret3
        exact ⟨HFI.out _ rfl, HBW.out _ HB4.out⟩
      · have HTX : Hid (txs x ks wu = ks.map (tx x)) := by unfold txs; rw [if_neg (by rw [← HUA.out]; exact hwu)]; rfl
        have HLA : Hid (LisAt wr (.slice (some ⟨g, 0, none⟩) k gc) (txs x ks wu)) := by
          refine ⟨some ⟨g, 0, none⟩, gc, by rw [HTX.out]; congr 1; simp; have := HKN.out; omega, .inr ⟨g, 0, rfl, fun j hj => ?_⟩⟩
          rw [Nat.zero_add]
          have e := hown.cellAt j (by rw [HTX.out] at hj; simp at hj; have := HKN.out; omega)
          rw [e, HTX.out]
          rw [HTX.out] at hj
          simp at hj
          simp [List.getD_eq_getElem?_getD, hj, txB]
        have HBB : Hid (Below B w0 wr) := hbw
        clear hown hbw
        have hw2 : wu = false ∨ (wu = true ∧ ud = true) := by cases wu <;> cases ud <;> simp_all
        clear hwu
        rcases hw2 with rfl | ⟨rfl, rfl⟩
        · skip
          have HFQ := fin_is x seq ks false
          have HJC : Hid (∀ W, LisAt W (.slice (some ⟨g, 0, none⟩) k gc) (txs x ks false) → Calls Tryz.prog 44 #[.slice (some ⟨g, 0, none⟩) k gc, .string ⟨#[32]⟩] W fun e w' => e = .returned (.string ⟨(jn 32 (txs x ks false)).toArray⟩) ∧ w' = W) := fun W h => HJ.out _ _ W h (by have := HSM.1; omega) (by have := HSM.2; omega)
          have hJs : (⟨(jn 32 (txs x ks false)).toArray⟩ : ByteArray).size ≤ 150000 := by rw [Lib.size_eq]; exact HJS.out
          have HDQ : Hid (∀ W, Calls Tryz.prog 28 #[.int .i64 (seq : Int)] W fun e w' => e = .returned (.string ⟨(Lib.decDigits seq).toArray⟩) ∧ Below W.heap.size W w') := fun W => HDG.out seq W HSQ.out
          have hDs : (⟨(Lib.decDigits seq).toArray⟩ : ByteArray).size ≤ 10 := by rw [Lib.size_eq]; exact dec4 HSQ.out
          generalize (⟨(jn 32 (txs x ks false)).toArray⟩ : ByteArray) = J at HFQ HJC hJs
          generalize (⟨(Lib.decDigits seq).toArray⟩ : ByteArray) = D at HFQ HDQ hDs
          have s1 : ((⟨#[42, 32]⟩ : ByteArray) ++ D).size ≤ 20 := by rw [ByteArray.size_append]; show 2 + D.size ≤ 20; omega
          have s2 : ((⟨#[42, 32]⟩ : ByteArray) ++ D ++ ⟨#[32, 70, 69, 84, 67, 72, 32, 40]⟩).size ≤ 30 := by rw [ByteArray.size_append]; show _ + 8 ≤ 30; omega
          have s3 : ((⟨#[42, 32]⟩ : ByteArray) ++ D ++ ⟨#[32, 70, 69, 84, 67, 72, 32, 40]⟩ ++ J).size ≤ 150100 := by rw [ByteArray.size_append]; omega
          have s4 : ((⟨#[42, 32]⟩ : ByteArray) ++ D ++ ⟨#[32, 70, 69, 84, 67, 72, 32, 40]⟩ ++ J ++ ⟨#[41, 13, 10]⟩).size ≤ 150200 := by rw [ByteArray.size_append]; show _ + 3 ≤ 150200; omega
          have HFI : Hid (∀ X : ByteArray, X = (⟨#[42, 32]⟩ : ByteArray) ++ D ++ ⟨#[32, 70, 69, 84, 67, 72, 32, 40]⟩ ++ J ++ ⟨#[41, 13, 10]⟩ → L13 x seq ks false (.returned (.tuple #[.string X, .bool sn, .bool true]))) := fun X hX => HFIN.out X (hX.trans HFQ)
          clear HFQ HFIN HSM HJS
          go_wp2_with fail
          refine (HDQ.out wr).mono ?_
          rintro e w4 ⟨rfl, b4⟩
          have HL4 : Hid (LisAt w4 (.slice (some ⟨g, 0, none⟩) k gc) (txs x ks false)) := lis_keep HLA.out b4
          have HB4 : Hid (Below B w0 w4) := HBB.out.trans (b4.mono (Nat.le_trans HB.out HBB.out.size))
          clear b4 HLA
          go_wp2_with fail
          refine (HJC.out w4 HL4.out).mono ?_
          rintro e w5 ⟨rfl, hw5⟩
          have hw5 := hw5.symm
          subst hw5
          clear HL4
          go_wp2
          go_ret3
          exact ⟨HFI.out _ rfl, HBW.out _ HB4.out⟩
        · skip
          have HFQ := fin_is x seq ks true
          have HJC : Hid (∀ W, LisAt W (.slice (some ⟨g, 0, none⟩) k gc) (txs x ks true) → Calls Tryz.prog 44 #[.slice (some ⟨g, 0, none⟩) k gc, .string ⟨#[32]⟩] W fun e w' => e = .returned (.string ⟨(jn 32 (txs x ks true)).toArray⟩) ∧ w' = W) := fun W h => HJ.out _ _ W h (by have := HSM.1; omega) (by have := HSM.2; omega)
          have hJs : (⟨(jn 32 (txs x ks true)).toArray⟩ : ByteArray).size ≤ 150000 := by rw [Lib.size_eq]; exact HJS.out
          have HDQ : Hid (∀ W, Calls Tryz.prog 28 #[.int .i64 (seq : Int)] W fun e w' => e = .returned (.string ⟨(Lib.decDigits seq).toArray⟩) ∧ Below W.heap.size W w') := fun W => HDG.out seq W HSQ.out
          have hDs : (⟨(Lib.decDigits seq).toArray⟩ : ByteArray).size ≤ 10 := by rw [Lib.size_eq]; exact dec4 HSQ.out
          generalize (⟨(jn 32 (txs x ks true)).toArray⟩ : ByteArray) = J at HFQ HJC hJs
          generalize (⟨(Lib.decDigits seq).toArray⟩ : ByteArray) = D at HFQ HDQ hDs
          have s1 : ((⟨#[42, 32]⟩ : ByteArray) ++ D).size ≤ 20 := by rw [ByteArray.size_append]; show 2 + D.size ≤ 20; omega
          have s2 : ((⟨#[42, 32]⟩ : ByteArray) ++ D ++ ⟨#[32, 70, 69, 84, 67, 72, 32, 40]⟩).size ≤ 30 := by rw [ByteArray.size_append]; show _ + 8 ≤ 30; omega
          have s3 : ((⟨#[42, 32]⟩ : ByteArray) ++ D ++ ⟨#[32, 70, 69, 84, 67, 72, 32, 40]⟩ ++ J).size ≤ 150100 := by rw [ByteArray.size_append]; omega
          have s4 : ((⟨#[42, 32]⟩ : ByteArray) ++ D ++ ⟨#[32, 70, 69, 84, 67, 72, 32, 40]⟩ ++ J ++ ⟨#[41, 13, 10]⟩).size ≤ 150200 := by rw [ByteArray.size_append]; show _ + 3 ≤ 150200; omega
          have HFI : Hid (∀ X : ByteArray, X = (⟨#[42, 32]⟩ : ByteArray) ++ D ++ ⟨#[32, 70, 69, 84, 67, 72, 32, 40]⟩ ++ J ++ ⟨#[41, 13, 10]⟩ → L13 x seq ks true (.returned (.tuple #[.string X, .bool sn, .bool true]))) := fun X hX => HFIN.out X (hX.trans HFQ)
          clear HFQ HFIN HSM HJS
          go_wp2_with fail
          refine (HDQ.out wr).mono ?_
          rintro e w4 ⟨rfl, b4⟩
          have HL4 : Hid (LisAt w4 (.slice (some ⟨g, 0, none⟩) k gc) (txs x ks true)) := lis_keep HLA.out b4
          have HB4 : Hid (Below B w0 w4) := HBB.out.trans (b4.mono (Nat.le_trans HB.out HBB.out.size))
          clear b4 HLA
          go_wp2_with fail
          refine (HJC.out w4 HL4.out).mono ?_
          rintro e w5 ⟨rfl, hw5⟩
          have hw5 := hw5.symm
          subst hw5
          clear HL4
          go_wp2
          go_ret3
          exact ⟨HFI.out _ rfl, HBW.out _ HB4.out⟩
end Go.Proofs.YtbokolpjdaamiaaGreatDoor.fq
