/-
  The contract of the laws' drawn records.
-/
import Derived.Test.YtcmhpkgboacojaaDoorSrm
import Derived.Test.YtcmhpkgboacojaaDoorOwm
import Derived.Laws.AppendOwn
namespace Go.Proofs.YtcmhpkgboacojaaDoor.sr
open Go.RowKit
set_option linter.unusedVariables false

theorem infoB : (Tryd.prog.info? 5).map (fun i => (i.zero, i.size, i.bytes)) = some (some (.int .u8 0), 1, 1) := by kernel_rfl
/-- What drawn bytes leave. -/
def BytedR (w : World) (b : Nat) (a : Option Addr) (len cap : Nat) (at_ : Int) (top : Nat) (e : Ending) (w' : World) : Prop :=
  ∃ (v : Value) (l : List UInt8) (at2 sd2 : Int), e = .returned v ∧ l.length ≤ top ∧ w'.ownsRow w.heap.size 5 1 v l.length (Lib.byteCells l) ∧ w.grownBy w' (some b) ∧ at_ ≤ at2 ∧ at2 ≤ at_ + 4000 ∧ 0 ≤ sd2 ∧ sd2 < 2147483648 ∧ Src w' b a len cap at2 sd2 ∧ Code w' b a len

theorem own_src {w w' : World} {base b e size n : Nat} {v : Value} {xs : List Value} (h : w.ownsRow base e size v n xs) (hb : b < base) (hg : w.grownBy w' (some b)) : w'.ownsRow base e size v n xs := by
  refine h.kept hg ?_
  rcases h.2 with ⟨rfl, _⟩ | ⟨g, cp, cur, rfl, hge, _⟩
  · exact .inl rfl
  · right; simp [Value.ownBlock]; omega

set_option maxHeartbeats 2000000 in
set_option maxRecDepth 100000 in
theorem bytesR_any (w : World) (b : Nat) (a : Option Addr) (len cap : Nat) (at_ sd : Int) (top : Nat) (hs : Src w b a len cap at_ sd) (hc : Code w b a len) (h0 : 0 ≤ at_) (h1 : at_ ≤ 1000) (s0 : 0 ≤ sd) (s1 : sd < 2147483648) (ht : top ≤ 1000) :
    Calls Tryd.prog 50 #[.pointer (some ⟨b, 0, none⟩), .int .i64 top] w fun e w' => BytedR w b a len cap at_ top e w' := by
  obtain ⟨i0, hi, hz0, hz1, hz2⟩ := info_parts infoB
  have hbw : b < w.heap.size := (Array.getElem?_eq_some_iff.1 hs).1
  have hga : w.grownBy (w.alloc (.cells #[] 5)) (some b) := World.grownBy_alloc _ _ _
  have hsa : Src (w.alloc (.cells #[] 5)) b a len cap at_ sd := src_keep hs (World.grownBy_alloc _ _ none) (by simp)
  have hca := code_keep hc hga
  have hoa := ow.own_empty w 5
  go_enter Tryd.func50, Tryd.ntmps50
  go_wp2_with fail
  refine (next_any _ b a len cap at_ sd ((top : Int) + 1) (by exact hsa) (by exact hca) h0 (by omega) s0 s1 (by omega) (by omega)).mono ?_
  rintro e w1 ⟨x, at1, sd1, rfl, x0, x1, a0, a1, d0, d1, hs1, hg1⟩
  have hc1 := code_keep hca hg1
  have ho1 := own_src hoa hbw hg1
  have hgw := ow.grown_trans hga hg1
  clear hga hsa hca hoa hg1 hs hc
  obtain ⟨n0, rfl⟩ : ∃ n0 : Nat, x = (n0 : Int) := ⟨x.toNat, by omega⟩
  go_wp2
  go_loopw [5, 6] (fun v i wr => ∃ (k : Nat) (l : List UInt8) (at2 sd2 : Int), i = .int .i64 k ∧ l.length + k ≤ top ∧ at_ ≤ at2 ∧ at2 ≤ at_ + 3 + 3 * l.length ∧ 0 ≤ sd2 ∧ sd2 < 2147483648 ∧ Src wr b a len cap at2 sd2 ∧ w.grownBy wr (some b) ∧ Code wr b a len ∧
      wr.ownsRow w.heap.size 5 1 v l.length (Lib.byteCells l)) (fun _ i _ => (intOf i).toNat)
  case atStart => exact ⟨n0, [], at1, sd1, rfl, by simp; omega, a0, by simp; omega, d0, d1, hs1, hgw, hc1, ho1⟩
  case round =>
    clear hs1 hgw hc1 ho1
    obtain ⟨k, l, at2, sd2, rfl, hk, e0, e1, f0, f1, hs2, hg2, hc2, hown⟩ := hrel
    by_cases hpos : 0 < k
    case neg =>
      have hk0 : ¬ (0 : Int) < (k : Int) := by omega
      go_wp2
      go_ret
      exact ⟨_, l, at2, sd2, rfl, by omega, hown, hg2, by omega, by omega, f0, f1, hs2, hc2⟩
    have hk0 : (0 : Int) < (k : Int) := by omega
    go_wp2_with fail
    refine (next_any _ b a len cap at2 sd2 256 hs2 hc2 (by omega) (by omega) f0 f1 (by omega) (by omega)).mono ?_
    rintro e w3 ⟨y, at3, sd3, rfl, y0, y1, g0, g1, d2, d3, hs3, hg3⟩
    have hc3 := code_keep hc2 hg3
    have hgw3 := ow.grown_trans hg2 hg3
    have hown3 := own_src hown hbw hg3
    have hsz3 := hgw3.size
    clear hs2 hc2 hg2 hg3 hown
    obtain ⟨c, rfl⟩ : ∃ c : Nat, y = (c : Int) := ⟨y.toNat, by omega⟩
    have hc256 : c < 256 := by omega
    have HB : Hid (Lib.byteCells [UInt8.ofNat c] = [Value.int .u8 (c : Int)]) := by
      have : ((UInt8.ofNat c).toNat : Int) = (c : Int) := by rw [UInt8.toNat_ofNat']; omega
      show [Value.int .u8 ((UInt8.ofNat c).toNat : Int)] = _
      rw [this]
    have hS4 := src_keep hs3 (World.grownBy_alloc w3 (.cells #[Value.int .u8 (c : Int)] 5) none) (by simp)
    go_wp2_with (at_builtin; go_loud (refine wpList_append_own _ rfl _ _ 36 rfl w.heap.size 5 i0 (.int .u8 0) 1 1 Tryd.underlying36 hi hz0 hz1 hz2 rfl (by decide) _ _ _ rfl (hown3.alloc _) ⟨w3.heap.size, 0, none⟩ 1 1 [Value.int .u8 (c : Int)] rfl rfl (ow.cells_new w3 _ 5) (by simp [Value.oneCell']) (by unfold maxLen; omega) (by omega) (by simp; omega) ?_); intro v' w4 hown' hgrow _)
    have hgz := ow.grown_new hgw3 hown3 (Nat.le_refl _) _ hgrow
    have hcz := code_keep' hc3 (ow.grown_alloc (ow.grown_refl w3 none) (.cells #[Value.int .u8 (c : Int)] 5)) (fun k hk => by cases hk)
    have hcz2 := code_keep' hcz hgrow (fun j hj => Nat.le_trans (Nat.le_of_lt hbw) (ow.own_lt hown3 j hj))
    have hsz4 := src_keep hS4 hgrow (fun x => by have := ow.own_lt hown3 b x.symm; omega)
    obtain ⟨ao, n', cap', rfl⟩ : ∃ ao n' cap, v' = .slice ao n' cap := by
      rcases hown'.2 with ⟨hv, _⟩ | ⟨g, cap, cur, hv, _⟩
      · exact ⟨_, _, _, hv⟩
      · exact ⟨_, _, _, hv⟩
    rw [← HB.out, ← Lib.byteCells_append] at hown'
    clear hs3 hc3 hown3 hgw3 hS4 hcz hgrow
    go_wp2
    go_roundw
    case rel => exact ⟨k - 1, l ++ [UInt8.ofNat c], at3, sd3, by go_num, by rw [List.length_append]; simp; omega, by omega, by rw [List.length_append]; simp; omega, d2, d3, hsz4, hgz, hcz2, by rw [List.length_append]; exact hown'⟩
    case measure => simp [intOf]; omega

/-- What picking a text leaves. -/
def PickedQ (w : World) (b : Nat) (a : Option Addr) (len cap : Nat) (at_ k : Int) (Q : ByteArray → Prop) (e : Ending) (w' : World) : Prop :=
  ∃ (s : ByteArray) (at' sd' : Int), e = .returned (.string s) ∧ Q s ∧ at_ ≤ at' ∧ at' ≤ at_ + k ∧ 0 ≤ sd' ∧ sd' < 2147483648 ∧ Src w' b a len cap at' sd' ∧ w.grownBy w' (some b)

set_option maxHeartbeats 1000000 in
theorem pickQ_any (w : World) (b : Nat) (a : Option Addr) (len cap : Nat) (at_ sd : Int) (lb n c2 : Nat) (Q : ByteArray → Prop) (hs : Src w b a len cap at_ sd) (hc : Code w b a len) (h0 : 0 ≤ at_) (h1 : at_ ≤ 900000) (s0 : 0 ≤ sd) (s1 : sd < 2147483648)
    (hn : 1 ≤ n) (hn2 : n ≤ 1000) (hne : lb ≠ b) (hcell : ∀ j, j < n → ∃ s : ByteArray, Q s ∧ w.cell? ⟨lb, j, none⟩ = some (.string s)) :
    Calls Tryd.prog 49 #[.pointer (some ⟨b, 0, none⟩), .slice (some ⟨lb, 0, none⟩) n c2] w fun e w' => PickedQ w b a len cap at_ 3 Q e w' := by
  have hz : ((n : Int) == 0) = false := beq_eq_false_iff_ne.2 (by omega)
  go_enter Tryd.func49, Tryd.ntmps49
  go_wp2_with fail
  refine (next_any _ b a len cap at_ sd n hs hc h0 h1 s0 s1 (by omega) (by omega)).mono ?_
  rintro e w1 ⟨x, at1, sd1, rfl, x0, x1, a0, a1, d0, d1, hs1, hg1⟩
  obtain ⟨k, rfl⟩ : ∃ k : Nat, x = (k : Int) := ⟨x.toNat, by omega⟩
  obtain ⟨s, hsz, hk⟩ := hcell k (by omega)
  have hk1 : w1.cell? ⟨lb, k, none⟩ = some (.string s) := hg1.cell hk (fun e => hne (by simpa using e))
  have HH : Hid (Src w1 b a len cap at1 sd1 ∧ w.grownBy w1 (some b) ∧ Q s) := ⟨hs1, hg1, hsz⟩
  clear hs1 hg1 hs hc hcell hk hsz
  have hlt : (k : Int) < (n : Int) := by omega
  go_wp2
  go_ret
  exact ⟨s, at1, sd1, rfl, HH.out.2.2, a0, a1, d0, d1, HH.out.1, HH.out.2.1⟩


/-- A drawn record. -/
def Rec (s : ByteArray) : Prop := 1 ≤ s.size ∧ s.size ≤ 21
def recRow (x : ByteArray) : List Value := [.string ⟨#[111, 110, 101]⟩, .string ⟨#[114, 101, 99, 111, 114, 100, 32, 116, 119, 111]⟩, .string ⟨#[120]⟩, .string ⟨#[0, 0]⟩, .string x]
theorem rec_at (x : ByteArray) (hx : Rec x) (j : Nat) (h : j < 5) : ∃ s : ByteArray, Rec s ∧ (recRow x)[j]? = some (.string s) := by
  have : j = 0 ∨ j = 1 ∨ j = 2 ∨ j = 3 ∨ j = 4 := by omega
  rcases this with rfl | rfl | rfl | rfl | rfl
  · exact ⟨_, ⟨by decide, by decide⟩, rfl⟩
  · exact ⟨_, ⟨by decide, by decide⟩, rfl⟩
  · exact ⟨_, ⟨by decide, by decide⟩, rfl⟩
  · exact ⟨_, ⟨by decide, by decide⟩, rfl⟩
  · exact ⟨x, hx, rfl⟩
theorem rec_cells (w : World) (x : ByteArray) (hx : Rec x) (j : Nat) (h : j < 5) : ∃ s : ByteArray, Rec s ∧ (w.alloc (.cells (recRow x).toArray 9)).cell? ⟨w.heap.size, j, none⟩ = some (.string s) := by
  obtain ⟨s, h1, h2⟩ := rec_at x hx j h
  exact ⟨s, h1, ow.cell_new w (recRow x) _ j _ h2⟩

set_option maxHeartbeats 1000000 in
set_option maxRecDepth 100000 in
theorem record_any (w : World) (b : Nat) (a : Option Addr) (len cap : Nat) (sd : Int) (hs : Src w b a len cap 0 sd) (hc : Code w b a len) (s0 : 0 ≤ sd) (s1 : sd < 2147483648) :
    Calls Tryd.prog 37 #[.pointer (some ⟨b, 0, none⟩)] w fun e w' => (∃ s, e = .returned (.string s) ∧ Rec s) ∧ w.grownBy w' (some b) := by
  have hbw : b < w.heap.size := (Array.getElem?_eq_some_iff.1 hs).1
  go_enter Tryd.func37, Tryd.ntmps37
  go_wp2_with fail
  refine (bytesR_any w b a len cap 0 sd 20 hs hc (by omega) (by omega) s0 s1 (by omega)).mono ?_
  rintro e w1 ⟨v, l, at2, sd2, rfl, hl, own1, g1, t0, t1, u0, u1, hs1, hc1⟩
  have hcv := ow.conv_bytes (P := Tryd.prog) (src := 36) (dst := 9) l (by unfold Lib.byteCells at own1; exact own1) Tryd.underlying36 Tryd.underlying5 Tryd.underlying9
  obtain ⟨x, hx⟩ : ∃ x : ByteArray, (⟨l.toArray⟩ : ByteArray) = x := ⟨_, rfl⟩
  have hxs : x.size ≤ 20 := by rw [← hx]; show l.toArray.size ≤ 20; simp; exact hl
  rw [hx] at hcv
  have hm : (9223372036854775807 < x.size + 1) = False := eq_false (by omega)
  have hm2 : (9223372036854775807 < x.size + ByteArray.size ⟨#[46]⟩) = False := eq_false (by show ¬ 9223372036854775807 < x.size + 1; omega)
  have hy : Rec (x ++ ⟨#[46]⟩) := by
    have : (x ++ (⟨#[46]⟩ : ByteArray)).size = x.size + 1 := ByteArray.size_append
    exact ⟨by omega, by omega⟩
  have hga : w1.grownBy (w1.alloc (.cells (recRow (x ++ ⟨#[46]⟩)).toArray 9)) (some b) := World.grownBy_alloc _ _ _
  have hsa : Src (w1.alloc (.cells (recRow (x ++ ⟨#[46]⟩)).toArray 9)) b a len cap at2 sd2 := src_keep hs1 (World.grownBy_alloc _ _ none) (by simp)
  have hca := code_keep hc1 hga
  have hb1 : b < w1.heap.size := Nat.lt_of_lt_of_le hbw g1.size
  have HP : Hid (Calls Tryd.prog 49 #[.pointer (some ⟨b, 0, none⟩), .slice (some ⟨w1.heap.size, 0, none⟩) 5 5] (w1.alloc (.cells (recRow (x ++ ⟨#[46]⟩)).toArray 9)) fun e w' => PickedQ (w1.alloc (.cells (recRow (x ++ ⟨#[46]⟩)).toArray 9)) b a len cap at2 3 Rec e w') :=
    pickQ_any _ b a len cap at2 sd2 w1.heap.size 5 5 Rec hsa hca (by omega) (by omega) u0 u1 (by omega) (by omega) (by omega) (fun j hj => rec_cells w1 _ hy j hj)
  have HG : Hid (w.grownBy (w1.alloc (.cells (recRow (x ++ ⟨#[46]⟩)).toArray 9)) (some b)) := ow.grown_trans g1 hga
  clear hsa hca hs hc hs1 hc1 own1 hga g1 hy hx
  go_wp2_with fail
  refine Calls.mono HP.out ?_
  rintro e w2 ⟨s, at3, sd3, rfl, hq, _, _, _, _, _, g2⟩
  have HH : Hid (w.grownBy w2 (some b) ∧ Rec s) := ⟨ow.grown_trans HG.out g2, hq⟩
  clear g2 hq HP HG hcv
  go_wp2
  go_ret
  exact ⟨⟨s, rfl, HH.out.2⟩, HH.out.1⟩

set_option maxHeartbeats 1000000 in
set_option maxRecDepth 100000 in
theorem recordOf_any (w : World) (a : Option Addr) (len cap : Nat) (h : Bytes w a len) :
    Calls Tryd.prog 18 #[.slice a len cap] w fun e w' => (∃ s, e = .returned (.string s) ∧ Rec s) ∧ Below w.heap.size w w' := by
  have hl := h.1
  go_enter Tryd.func18, Tryd.ntmps18
  go_wp2_with fail
  refine (source_any _ a len cap hl).mono ?_
  rintro e w1 ⟨rfl, rfl⟩
  have hs := src_started w a len cap
  have hc := code_started (cap := cap) h
  have hb : Below w.heap.size w (started w a len cap) := (Below.refl _ _).alloc (Nat.le_refl _) _
  generalize started w a len cap = w1 at hs hc hb ⊢
  go_wp2_with fail
  refine (record_any _ _ a len cap _ hs hc (by omega) (by omega)).mono ?_
  rintro e w2 ⟨⟨s, rfl, hq⟩, hg⟩
  have HH : Hid (Below w.heap.size w w2) := Below.grown hb hg hb.size (fun k e => Nat.le_of_eq (Option.some.inj e))
  have HQ : Hid (Rec s) := hq
  clear hg hb hs hc h hq
  go_wp2
  go_ret
  exact ⟨⟨s, rfl, HQ.out⟩, HH.out⟩
end Go.Proofs.YtcmhpkgboacojaaDoor.sr
