/-
  Drawn commands: lines that are taken as they stand.
-/
import Derived.Test.YtakdpicjkbfpiaaDoorTka
import Derived.Test.YtakdpicjkbfpiaaDoorSrs
import Derived.Test.YtakdpicjkbfpiaaDoorDig
import Derived.Laws.AppendOwn
namespace Go.Proofs.YtakdpicjkbfpiaaDoor.tk
open Go.RowKit
open sr se
set_option linter.unusedVariables false

/-- A text of a line, of at most so many bytes. -/
def Lt (k : Nat) (s : ByteArray) : Prop := s.size ≤ k ∧ ∀ b ∈ s.data.toList, b ≠ 13 ∧ b ≠ 123
theorem lt_app {a b : ByteArray} {j k : Nat} (ha : Lt j a) (hb : Lt k b) : Lt (j + k) (a ++ b) := by
  refine ⟨by rw [ByteArray.size_append]; exact Nat.add_le_add ha.1 hb.1, fun x hx => ?_⟩
  rw [ByteArray.data_append, Array.toList_append] at hx
  rcases List.mem_append.1 hx with h | h
  · exact ha.2 x h
  · exact hb.2 x h
def ltB (k : Nat) (s : ByteArray) : Bool := decide (s.size ≤ k) && s.data.toList.all fun b => b != 13 && b != 123
theorem lt_of {k : Nat} {s : ByteArray} (h : ltB k s = true) : Lt k s := by
  simp only [ltB, Bool.and_eq_true, decide_eq_true_eq, List.all_eq_true, bne_iff_ne] at h
  exact h
theorem lt_mono {j k : Nat} {s : ByteArray} (h : Lt j s) (hk : j ≤ k) : Lt k s := ⟨Nat.le_trans h.1 hk, h.2⟩
def tagL : List ByteArray := [⟨#[97]⟩, ⟨#[98, 49]⟩, ⟨#[120]⟩]
theorem tag_lt : ∀ s ∈ tagL, Lt 2 s := by
  intro s hs
  simp only [tagL, List.mem_cons, List.not_mem_nil, or_false] at hs
  rcases hs with rfl | rfl | rfl <;> exact lt_of (by decide)
theorem set_lt : ∀ s ∈ setL, Lt 10 s := by
  intro s hs
  simp only [setL, List.mem_cons, List.not_mem_nil, or_false] at hs
  rcases hs with rfl | rfl | rfl | rfl | rfl | rfl | rfl | rfl | rfl <;> exact lt_of (by decide)
theorem dg_lt (n : Int) (h0 : 0 ≤ n) (h1 : n ≤ 9) : Lt 1 ⟨#[dx.dg n]⟩ := by
  have h : n = 0 ∨ n = 1 ∨ n = 2 ∨ n = 3 ∨ n = 4 ∨ n = 5 ∨ n = 6 ∨ n = 7 ∨ n = 8 ∨ n = 9 := by omega
  rcases h with rfl | rfl | rfl | rfl | rfl | rfl | rfl | rfl | rfl | rfl <;> exact lt_of (by decide)

set_option maxHeartbeats 1000000 in
set_option maxRecDepth 100000 in
theorem size_any (w : World) (b : Nat) (a : Option Addr) (len cap : Nat) (at_ sd : Int) (most : Nat) (hs : Src w b a len cap at_ sd) (hl : len ≤ 1048576) (hm : 1 ≤ most) (hm2 : most ≤ 1000) :
    Calls Tryd.prog 38 #[.pointer (some ⟨b, 0, none⟩), .int .i64 most] w fun e w' => ∃ z : Nat, e = .returned (.int .i64 z) ∧ 1 ≤ z ∧ z ≤ most ∧ w' = w := by
  have c0 := hs.c0
  obtain ⟨q, hd, hd2⟩ : ∃ q : Nat, (len : Int) / 12 = (q : Int) ∧ q ≤ 1048576 := ⟨len / 12, rfl, by omega⟩
  clear hs
  go_enter Tryd.func38, Tryd.ntmps38
  go_wp2
  go_ret
  have e : ((min (1 + q) most : Nat) : Int) = min (1 + (q : Int)) (most : Int) := by omega
  exact ⟨min (1 + q) most, by rw [e]; rfl, by omega, by omega, rfl⟩

-- CMDL
def cmdL (x y z : ByteArray) : List ByteArray := [⟨#[110, 111, 111, 112]⟩, ⟨#[99, 97, 112, 97, 98, 105, 108, 105, 116, 121]⟩, ⟨#[108, 105, 115, 116, 32, 34, 34, 32, 34, 42, 34]⟩, ⟨#[108, 105, 115, 116, 32, 34, 34, 32, 110, 101, 119, 115]⟩, ⟨#[115, 101, 108, 101, 99, 116, 32, 110, 101, 119, 115]⟩, ⟨#[101, 120, 97, 109, 105, 110, 101, 32, 110, 101, 119, 115]⟩, ⟨#[115, 101, 108, 101, 99, 116, 32, 110, 111, 110, 101]⟩, ⟨#[115, 116, 97, 116, 117, 115, 32, 110, 101, 119, 115, 32, 40, 77, 69, 83, 83, 65, 71, 69, 83, 32, 85, 78, 83, 69, 69, 78, 32, 85, 73, 68, 78, 69, 88, 84, 32, 85, 73, 68, 86, 65, 76, 73, 68, 73, 84, 89, 32, 82, 69, 67, 69, 78, 84, 41]⟩, ⟨#[115, 116, 97, 116, 117, 115, 32, 110, 101, 119, 115, 32, 40, 78, 79, 78, 69, 41]⟩, ⟨#[102, 101, 116, 99, 104, 32, 49, 58, 42, 32, 40, 102, 108, 97, 103, 115, 32, 117, 105, 100, 41]⟩, ⟨#[102, 101, 116, 99, 104, 32]⟩ ++ x ++ ⟨#[32, 98, 111, 100, 121, 91, 93]⟩, ⟨#[102, 101, 116, 99, 104, 32, 49, 32, 40, 98, 111, 100, 121, 46, 112, 101, 101, 107, 91, 104, 101, 97, 100, 101, 114, 93, 32, 114, 102, 99, 56, 50, 50, 46, 115, 105, 122, 101, 41]⟩, ⟨#[102, 101, 116, 99, 104, 32, 49, 58, 50, 32, 98, 111, 100, 121, 91, 116, 101, 120, 116, 93]⟩, ⟨#[102, 101, 116, 99, 104, 32, 49, 32, 110, 111, 110, 101]⟩, ⟨#[117, 105, 100, 32, 102, 101, 116, 99, 104, 32, 49, 58, 42, 32, 102, 108, 97, 103, 115]⟩, ⟨#[117, 105, 100, 32, 102, 101, 116, 99, 104, 32]⟩ ++ y ++ ⟨#[32, 40, 117, 105, 100, 32, 98, 111, 100, 121, 46, 112, 101, 101, 107, 91, 93, 41]⟩, ⟨#[115, 116, 111, 114, 101, 32]⟩ ++ z ++ ⟨#[32, 43, 102, 108, 97, 103, 115, 32, 40, 92, 68, 101, 108, 101, 116, 101, 100, 41]⟩, ⟨#[115, 116, 111, 114, 101, 32, 49, 58, 42, 32, 102, 108, 97, 103, 115, 32, 40, 92, 83, 101, 101, 110, 32, 92, 70, 108, 97, 103, 103, 101, 100, 41]⟩, ⟨#[115, 116, 111, 114, 101, 32, 49, 32, 45, 102, 108, 97, 103, 115, 46, 115, 105, 108, 101, 110, 116, 32, 40, 92, 83, 101, 101, 110, 41]⟩, ⟨#[117, 105, 100, 32, 115, 116, 111, 114, 101, 32, 49, 58, 51, 32, 43, 70, 76, 65, 71, 83, 32, 40, 92, 65, 110, 115, 119, 101, 114, 101, 100, 41]⟩, ⟨#[115, 116, 111, 114, 101, 32, 49, 32, 102, 108, 97, 103, 115, 32, 40, 92, 78, 111, 110, 101, 41]⟩, ⟨#[115, 101, 97, 114, 99, 104, 32, 117, 110, 115, 101, 101, 110]⟩, ⟨#[115, 101, 97, 114, 99, 104, 32, 110, 111, 116, 32, 100, 101, 108, 101, 116, 101, 100, 32, 115, 117, 98, 106, 101, 99, 116, 32, 116, 105, 116, 108, 101]⟩, ⟨#[117, 105, 100, 32, 115, 101, 97, 114, 99, 104, 32, 97, 108, 108]⟩, ⟨#[115, 101, 97, 114, 99, 104, 32, 49, 58, 50, 32, 116, 101, 120, 116, 32, 98]⟩, ⟨#[115, 101, 97, 114, 99, 104, 32, 110, 111, 110, 101]⟩, ⟨#[101, 120, 112, 117, 110, 103, 101]⟩, ⟨#[99, 108, 111, 115, 101]⟩, ⟨#[108, 111, 103, 111, 117, 116]⟩, ⟨#[108, 111, 103, 105, 110, 32, 117, 115, 101, 114, 32, 102, 101, 101, 100]⟩, ⟨#[108, 111, 103, 105, 110, 32, 117, 115, 101, 114, 32, 98, 97, 100]⟩, ⟨#[103, 111]⟩]
theorem cmd_lt {x y z : ByteArray} (hx : Lt 10 x) (hy : Lt 10 y) (hz : Lt 10 z) : ∀ s ∈ cmdL x y z, Lt 60 s := by
  intro s hs
  simp only [cmdL, List.mem_cons, List.not_mem_nil, or_false] at hs
  rcases hs with rfl | rfl | rfl | rfl | rfl | rfl | rfl | rfl | rfl | rfl | rfl | rfl | rfl | rfl | rfl | rfl | rfl | rfl | rfl | rfl | rfl | rfl | rfl | rfl | rfl | rfl | rfl | rfl | rfl | rfl | rfl | rfl
  · exact lt_of (by decide)
  · exact lt_of (by decide)
  · exact lt_of (by decide)
  · exact lt_of (by decide)
  · exact lt_of (by decide)
  · exact lt_of (by decide)
  · exact lt_of (by decide)
  · exact lt_of (by decide)
  · exact lt_of (by decide)
  · exact lt_of (by decide)
  · exact lt_mono (lt_app (lt_app (lt_of (k := 20) (by decide)) (hx)) (lt_of (k := 20) (by decide))) (by omega)
  · exact lt_of (by decide)
  · exact lt_of (by decide)
  · exact lt_of (by decide)
  · exact lt_of (by decide)
  · exact lt_mono (lt_app (lt_app (lt_of (k := 20) (by decide)) (hy)) (lt_of (k := 20) (by decide))) (by omega)
  · exact lt_mono (lt_app (lt_app (lt_of (k := 20) (by decide)) (hz)) (lt_of (k := 20) (by decide))) (by omega)
  · exact lt_of (by decide)
  · exact lt_of (by decide)
  · exact lt_of (by decide)
  · exact lt_of (by decide)
  · exact lt_of (by decide)
  · exact lt_of (by decide)
  · exact lt_of (by decide)
  · exact lt_of (by decide)
  · exact lt_of (by decide)
  · exact lt_of (by decide)
  · exact lt_of (by decide)
  · exact lt_of (by decide)
  · exact lt_of (by decide)
  · exact lt_of (by decide)
  · exact lt_of (by decide)
-- CMDL END
/-- A drawn line. -/
def Cm (w : World) (b : Nat) (a : Option Addr) (len cap : Nat) (at_ : Int) (e : Ending) (w' : World) : Prop :=
  ∃ (s : ByteArray) (at' sd' : Int), e = .returned (.string s) ∧ Lt 64 s ∧ at_ ≤ at' ∧ at' ≤ at_ + 20 ∧ 0 ≤ sd' ∧ sd' < 2147483648 ∧ Src w' b a len cap at' sd' ∧ sr.Code w' b a len ∧ w.grownBy w' (some b)
set_option maxHeartbeats 4000000 in
set_option maxRecDepth 100000 in
theorem command_any (w : World) (b : Nat) (a : Option Addr) (len cap : Nat) (at_ sd : Int) (hs : Src w b a len cap at_ sd) (hc : sr.Code w b a len) (h0 : 0 ≤ at_) (h1 : at_ ≤ 800000) (s0 : 0 ≤ sd) (s1 : sd < 2147483648) :
    Calls Tryd.prog 39 #[.pointer (some ⟨b, 0, none⟩)] w fun e w' => Cm w b a len cap at_ e w' := by
  have HL : Hid (Calls Tryd.prog 52 #[.pointer (some ⟨b, 0, none⟩), .slice (some ⟨w.heap.size, 0, none⟩) 3 3] (w.alloc (.cells (tagL.map Value.string).toArray 9)) fun e w' => Pk w b a len cap at_ tagL e w') := list_any tagL 3 w b a len cap at_ sd hs hc h0 (by omega) s0 s1 rfl (by omega) (by omega)
  clear hs hc
  go_enter Tryd.func39, Tryd.ntmps39
  go_wp2_with fail
  refine HL.out.mono ?_
  rintro e w1 ⟨t, at1, sd1, rfl, ht, a0, a1, d0, d1, hs1, hc1, hg1⟩
  have HT : Hid (Lt 2 t) := tag_lt t ht
  have hts : t.size ≤ 2 := HT.out.1
  have HN : Hid (Calls Tryd.prog 37 #[.pointer (some ⟨b, 0, none⟩), .int .i64 9] w1 fun e w' => Step w1 b a len cap at1 3 0 (9 - 1) e w') := next_any w1 b a len cap at1 sd1 9 hs1 hc1 (by omega) (by omega) d0 d1 (by omega) (by omega)
  have HC1 : Hid (sr.Code w1 b a len) := hc1
  have HG1 : Hid (w.grownBy w1 (some b)) := hg1
  clear HL ht hs1 hc1 hg1
  go_wp2_with fail
  refine HN.out.mono ?_
  rintro e w2 ⟨r, at2, sd2, rfl, r0, r1, a2, a3, d2, d3, hs2, hg2⟩
  have HS2 : Hid (Src w2 b a len cap at2 sd2) := hs2
  have HC2 : Hid (sr.Code w2 b a len) := sr.code_keep HC1.out hg2
  have HG2 : Hid (w.grownBy w2 (some b)) := ow.grown_trans HG1.out hg2
  clear HN HC1 HG1 hs2 hg2
  go_wp2_with fail
  refine (dx.digs_one r (by omega) (by omega) _).mono ?_
  rintro e w3 ⟨rfl, hb3⟩
  have HS3 : Hid (Src w3 b a len cap at2 sd2) := sr.src_keep HS2.out (ow.grown_below (row := none) hb3) (by simp)
  have HC3 : Hid (sr.Code w3 b a len) := sr.code_keep HC2.out (ow.grown_below hb3)
  have HG3 : Hid (w.grownBy w3 (some b)) := ow.grown_trans HG2.out (ow.grown_below hb3)
  have HTG : Hid (Lt 4 (t ++ ⟨#[dx.dg r]⟩ ++ ⟨#[32]⟩)) := lt_app (lt_app HT.out (dg_lt r (by omega) (by omega))) (lt_of (k := 1) (by decide))
  obtain ⟨D, hD⟩ : ∃ D : ByteArray, D = ⟨#[dx.dg r]⟩ := ⟨_, rfl⟩
  have hDs : D.size = 1 := by rw [hD]; rfl
  rw [← hD] at HTG ⊢
  clear HS2 HC2 HG2 hb3 hD HT
  have HQ : Hid (∀ (W : World) (at_ sd : Int), Src W b a len cap at_ sd → sr.Code W b a len → 0 ≤ at_ → at_ ≤ 900000 → 0 ≤ sd → sd < 2147483648 → Calls Tryd.prog 54 #[.pointer (some ⟨b, 0, none⟩)] W fun e w' => Pk W b a len cap at_ setL e w') := fun W at_ sd h1 h2 h3 h4 h5 h6 => setText_any W b a len cap at_ sd h1 h2 h3 h4 h5 h6
  go_wp2_with fail
  refine (HQ.out _ at2 sd2 HS3.out HC3.out (by omega) (by omega) d2 d3).mono ?_
  rintro e w4 ⟨x, at4, sd4, rfl, hx, a4, a5, d4, d5, hs4, hc4, hg4⟩
  have HX : Hid (Lt 10 x) := set_lt x hx
  have hxs : x.size ≤ 10 := HX.out.1
  have HS4 : Hid (Src w4 b a len cap at4 sd4) := hs4
  have HC4 : Hid (sr.Code w4 b a len) := hc4
  have HG4 : Hid (w.grownBy w4 (some b)) := ow.grown_trans HG3.out hg4
  clear HS3 HC3 HG3 hs4 hc4 hg4 hx
  go_wp2_with fail
  refine (HQ.out _ at4 sd4 HS4.out HC4.out (by omega) (by omega) d4 d5).mono ?_
  rintro e w5 ⟨y, at5, sd5, rfl, hy, a6, a7, d6, d7, hs5, hc5, hg5⟩
  have HY : Hid (Lt 10 y) := set_lt y hy
  have hys : y.size ≤ 10 := HY.out.1
  have HS5 : Hid (Src w5 b a len cap at5 sd5) := hs5
  have HC5 : Hid (sr.Code w5 b a len) := hc5
  have HG5 : Hid (w.grownBy w5 (some b)) := ow.grown_trans HG4.out hg5
  clear HS4 HC4 HG4 hs5 hc5 hg5 hy
  go_wp2_with fail
  refine (HQ.out _ at5 sd5 HS5.out HC5.out (by omega) (by omega) d6 d7).mono ?_
  rintro e w6 ⟨z, at6, sd6, rfl, hz, a8, a9, d8, d9, hs6, hc6, hg6⟩
  have HZ : Hid (Lt 10 z) := set_lt z hz
  have hzs : z.size ≤ 10 := HZ.out.1
  have HG6 : Hid (w.grownBy w6 (some b)) := ow.grown_trans HG5.out hg6
  have HL : Hid (Calls Tryd.prog 52 #[.pointer (some ⟨b, 0, none⟩), .slice (some ⟨w6.heap.size, 0, none⟩) 32 32] (w6.alloc (.cells ((cmdL x y z).map Value.string).toArray 9)) fun e w' => Pk w6 b a len cap at6 (cmdL x y z) e w') := list_any (cmdL x y z) 32 w6 b a len cap at6 sd6 hs6 hc6 (by omega) (by omega) d8 d9 rfl (by omega) (by omega)
  clear HS5 HC5 HG5 hs6 hc6 hg6 hz HQ
  go_wp2_with fail
  refine HL.out.mono ?_
  rintro e w7 ⟨s, at7, sd7, rfl, hs, a10, a11, d10, d11, hs7, hc7, hg7⟩
  have HSS : Hid (Lt 60 s) := cmd_lt HX.out HY.out HZ.out s hs
  have hss : s.size ≤ 60 := HSS.out.1
  have HE : Hid (Src w7 b a len cap at7 sd7 ∧ sr.Code w7 b a len ∧ w.grownBy w7 (some b)) := ⟨hs7, hc7, ow.grown_trans HG6.out hg7⟩
  clear HL hs hs7 hc7 hg7 HX HY HZ HG6
  go_wp2
  go_ret
  exact ⟨_, at7, sd7, rfl, lt_app HTG.out HSS.out, by omega, by omega, d10, d11, HE.out⟩
end Go.Proofs.YtakdpicjkbfpiaaDoor.tk
