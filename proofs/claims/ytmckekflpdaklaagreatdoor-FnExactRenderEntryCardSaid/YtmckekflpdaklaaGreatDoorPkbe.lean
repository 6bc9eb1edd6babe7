/-
  The contract of the program's RenderEntry.
  An entry as an argument: opened; measured and copied by the law's own functions.
-/
import Derived.Test.YtmckekflpdaklaaGreatDoorPkbd
import Derived.Test.YtmckekflpdaklaaGreatDoorPkar
import Derived.ProofKit
import Derived.OpenShut
import Derived.ChangeOld
import Derived.Below
import Derived.Deep.Fields
import Derived.Deep.Slices

namespace Go.Proofs.YtmckekflpdaklaaGreatDoor.rn
open Go.RowKit
open gr
set_option linter.unusedVariables false

theorem re_ex {e : en.En} {box : ByteArray} {r : Ending} (h : ReRet e box r) : ∃ (s : ByteArray) (c : Int), r = .returned (.tuple #[.string s, .int .i64 c]) := by
  rcases h with ⟨_, rfl⟩ | ⟨_, _, rfl⟩ | ⟨_, _, rfl⟩ <;> exact ⟨_, _, rfl⟩

set_option maxHeartbeats 4000000 in
set_option maxRecDepth 100000 in
theorem implRE_any (e : en.En) (box : ByteArray) (w : World) (hs : en.Small e) (hb : box.size ≤ 1048576) (m : Int) (HT : ∀ w', Below w.heap.size w w' → Tabs m w' ∧ tb.TA w') :
    Calls Tryz.prog 8 #[en.EV e, .string box] w fun r w' => ReRet e box r ∧ Below w.heap.size w w' := by
  obtain ⟨i, t, l, a, d, c⟩ := e
  have L0 := en.lies_new w 27 ⟨i, t, l, a, d, c⟩
  have b0 : Below w.heap.size w (w.alloc (.cells (en.cl ⟨i, t, l, a, d, c⟩) 27)) := (Below.refl _ w).alloc (Nat.le_refl _) _
  have HOK : Hid (∀ W, Calls Tryz.prog 15 #[.agg #[.string i, .string t, .string l, .string a, .int .i64 d, .string c]] W fun r w' => r = .returned (.bool (en.eok ⟨i, t, l, a, d, c⟩)) ∧ Below W.heap.size W w') := fun W => en.impl_eok ⟨i, t, l, a, d, c⟩ W hs
  have HNM : Hid (∀ W, Calls Tryz.prog 16 #[.string box] W fun e w' => nm.NameRet box e ∧ w' = W) := fun W => nm.implName_any box W hb
  have HTT : Hid (∀ w', Below w.heap.size w w' → Tabs m w' ∧ tb.TA w') := HT
  clear HT
  unfold en.cl at L0 b0
  unfold en.EV en.cl
  go_enter Tryz.func8, Tryz.ntmps8
  go_upto_region 1 with fail
  generalize hX : World.alloc _ _ = X at L0 b0 ⊢
  clear hX
  generalize hBx : w.heap.size = Bx at L0 b0 ⊢
  have hBX : Bx < X.heap.size := L0.lt
  have HL0 := L0
  by_cases h : box.size ≤ 65536
  case neg =>
    have h' : (65536 : Int) < (box.size : Int) := by omega
    clear L0 HL0
    go_wp2
    go_ret2
    subst hBx
    exact ⟨.inl ⟨by omega, rfl⟩, b0⟩
  have h' : (box.size : Int) ≤ 65536 := by omega
  have x0 : X.cell? ⟨Bx, 0, none⟩ = some (.string i) := L0.c0
  have x1 : X.cell? ⟨Bx, 1, none⟩ = some (.string t) := L0.c1
  have x2 : X.cell? ⟨Bx, 2, none⟩ = some (.string l) := L0.c2
  have x3 : X.cell? ⟨Bx, 3, none⟩ = some (.string a) := L0.c3
  have x4 : X.cell? ⟨Bx, 4, none⟩ = some (.int .i64 d) := L0.c4
  have x5 : X.cell? ⟨Bx, 5, none⟩ = some (.string c) := L0.c5
  have HL : Hid (en.Lies X Bx 27 ⟨i, t, l, a, d, c⟩) := L0
  clear L0 HL0
  have HB0 : Hid (Below Bx w X) := b0
  clear b0
  go_wp2_with fail
  refine (HOK.out _).mono ?_
  rintro r w1 ⟨rfl, b1⟩
  have HL1 : Hid (en.Lies w1 Bx 27 ⟨i, t, l, a, d, c⟩) := (show _ = _ from (b1.block Bx hBX).trans HL.out)
  have HB1 : Hid (Below Bx w w1) := HB0.out.trans (b1.mono (Nat.le_of_lt hBX))
  clear b1 x0 x1 x2 x3 x4 x5
  cases he : en.eok ⟨i, t, l, a, d, c⟩ with
  | false =>
    have he' : ¬ (en.eok ⟨i, t, l, a, d, c⟩ = true) := by rw [he]; simp
    clear he
    go_wp2
    go_ret2
    subst hBx
    exact ⟨.inr (.inl ⟨h, fun k => he' k.1, rfl⟩), HB1.out⟩
  | true =>
    have HE : Hid (en.eok ⟨i, t, l, a, d, c⟩ = true) := he
    clear he
    go_wp2_with fail
    refine (HNM.out _).mono ?_
    rintro r w2 ⟨⟨b, rfl, hn⟩, rfl⟩
    cases b with
    | false =>
      have hn' : ¬ nm.IsName box := fun k => by cases hn.2 k
      clear hn
      go_wp2
      go_ret2
      subst hBx
      exact ⟨.inr (.inl ⟨h, fun k => hn' k.2, rfl⟩), HB1.out⟩
    | true =>
      have HN : Hid (nm.IsName box) := hn.1 rfl
      clear hn
      have HLT : Hid (∀ W, Below w.heap.size w W → Calls Tryz.prog 17 #[.agg #[.string i, .string t, .string l, .string a, .int .i64 d, .string c], .string box] W fun e w' => LetAt ⟨i, t, l, a, d, c⟩ box W.heap.size e w' ∧ Below W.heap.size W w') := fun W hW => letter_any i t l a c box d W m HE.out HN.out (fun w' h' => (HTT.out w' (hW.trans (h'.mono hW.size))).1)
      have HGD : Hid (∀ p ∈ flds ⟨i, t, l, a, d, c⟩ box, Good p ∧ p.1.size ≤ 40 ∧ p.2.size ≤ 2000) := (show _ from by
        obtain ⟨gi, gt, gl, ga, _⟩ := eok_cases HE.out
        exact flds_good HE.out HN.out (enc_all a ga w) (enc_all t gt w) (enc_all i gi w) (enc_all l gl w))
      have hc := (eok_cases HE.out).2.2.2.2.1.1
      have x0 : w2.cell? ⟨Bx, 0, none⟩ = some (.string i) := HL1.out.c0
      have x1 : w2.cell? ⟨Bx, 1, none⟩ = some (.string t) := HL1.out.c1
      have x2 : w2.cell? ⟨Bx, 2, none⟩ = some (.string l) := HL1.out.c2
      have x3 : w2.cell? ⟨Bx, 3, none⟩ = some (.string a) := HL1.out.c3
      have x4 : w2.cell? ⟨Bx, 4, none⟩ = some (.int .i64 d) := HL1.out.c4
      have x5 : w2.cell? ⟨Bx, 5, none⟩ = some (.string c) := HL1.out.c5
      subst hBx
      go_wp2_with fail
      refine (HLT.out _ HB1.out).mono ?_
      rintro r w3 ⟨⟨g, hg, rfl, hfa⟩, b3⟩
      clear x0 x1 x2 x3 x4 x5
      obtain ⟨QC, hQC⟩ : ∃ x : ByteArray, x = ⟨(qu.qt 0 (crl c.data.toList)).toArray⟩ ++ ⟨#[13, 10]⟩ := ⟨_, rfl⟩
      obtain ⟨FA, hFA⟩ : ∃ x : ByteArray, x = foldAll (flds ⟨i, t, l, a, d, c⟩ box) ++ ⟨#[13, 10]⟩ := ⟨_, rfl⟩
      have HRE : Hid (rend ⟨i, t, l, a, d, c⟩ box = FA ++ QC) := (show _ = _ by rw [hFA, hQC]; rfl)
      have hQs : QC.size ≤ 400002 := by
        rw [hQC, ByteArray.size_append, Lib.size_eq]
        have := qu.qt_len 0 (crl c.data.toList)
        have h0 : c.size ≤ 1000 := hc
        have hcl := crl_len c.data.toList
        rw [Lib.size_eq] at h0
        show (qu.qt 0 (crl c.data.toList)).length + 2 ≤ 400002
        omega
      have hFs : FA.size ≤ 54902 := by
        rw [hFA, ByteArray.size_append]
        have := all_len (flds ⟨i, t, l, a, d, c⟩ box) (fun p hp => (HGD.out p hp).2)
        have e9 : (flds ⟨i, t, l, a, d, c⟩ box).length = 9 := rfl
        rw [e9] at this
        have e2 : (⟨#[13, 10]⟩ : ByteArray).size = 2 := rfl
        omega
      rw [← hQC]
      have b4 : Below w.heap.size w w3 := HB1.out.trans (b3.mono HB1.out.size)
      have hgl : g < w3.heap.size := World.block_lt_of_cell? w3 _ (hfa 0 (by show 0 < 9; omega)).1
      have bA : Below w3.heap.size w3 (w3.alloc (.cells #[.slice (some ⟨g, 0, none⟩) 9 9, .string QC] 39)) := (Below.refl _ _).alloc (Nat.le_refl _) _
      have HX : b2.Box (w3.alloc (.cells #[.slice (some ⟨g, 0, none⟩) 9 9, .string QC] 39)) w3.heap.size 39 (.slice (some ⟨g, 0, none⟩) 9 9) (.string QC) := b2.new _ _ _ _
      have HFO : Hid (∀ W, Below w3.heap.size w3 W → Calls Tryz.prog 18 #[.slice (some ⟨g, 0, none⟩) 9 9] W fun e w' => e = .returned (.string FA) ∧ Below W.heap.size W w') := fun W hW => by
        rw [hFA]
        refine folded_any g 0 9 (flds ⟨i, t, l, a, d, c⟩ box) W (fun j hj => ?_) (by show 9 ≤ 40; omega) HGD.out (fun w' h' => (HTT.out w' (b4.trans ((hW.trans (h'.mono hW.size)).mono b4.size))).2)
        obtain ⟨q0, q1⟩ := hfa j hj
        exact ⟨(hW.cell (p := ⟨g, 0 + j * 2, none⟩) hgl).trans q0, (hW.cell (p := ⟨g, 0 + j * 2 + 1, none⟩) hgl).trans q1⟩
      have HB4 : Hid (Below w.heap.size w w3) := b4
      clear hfa hQC hFA hgl hg b3 b4 HGD HLT HTT HOK HNM HL1 HB1 HL HB0
      go_upto_region 6 with fail
      generalize hWA : World.alloc _ _ = WA at bA HX ⊢
      clear hWA
      have HBA : Hid (Below w3.heap.size w3 WA) := bA
      have hz : (9223372036854775807 < FA.size + QC.size) = False := eq_false (by omega)
      have ne := ext_some WA
      have c0 := fun x : Ext WA => gw_cell x HX.c0
      have c1 := fun x : Ext WA => gw_cell x HX.c1
      have HFW : Hid (∀ x : Ext WA, Calls Tryz.prog 18 #[.slice (some ⟨g, 0, none⟩) 9 9] (gw x) fun e w' => e = .returned (.string FA) ∧ Below (gw x).heap.size (gw x) w') := fun x => HFO.out _ (HBA.out.trans ((gw_below x).mono HBA.out.size))
      clear bA HX HFO
      refine region_lit (by kernel_rfl) (by kernel_rfl) ?_
      repeat (go_big_quiet_step (first | (go_at_call 18; exact grow_of (HFW.out _))))
      refine wpQuiet_nil ?_
      rintro W' ⟨x, rfl⟩
      have b5 := gw_below x
      generalize gw x = W5 at b5 ⊢
      go_wp2_with fail
      go_ret2
      refine ⟨.inr (.inr ⟨h, ⟨HE.out, HN.out⟩, by rw [HRE.out]; rfl⟩), HB4.out.trans ((HBA.out.trans (b5.mono HBA.out.size)).mono HB4.out.size)⟩
end Go.Proofs.YtmckekflpdaklaaGreatDoor.rn

namespace Go.Proofs.YtmckekflpdaklaaGreatDoor.en
open Go.ChangeShapes Go.WideShapes Go.ChangeAt Go.RowKit Go.Deep
set_option linter.unusedVariables false

theorem six_list {α : Type} {l : List α} (h : l.length = 6) : ∃ a b c d e f, l = [a, b, c, d, e, f] := by
  match l, h with
  | [a, b, c, d, e, f], _ => exact ⟨a, b, c, d, e, f, rfl⟩
theorem six_array {α : Type} {l : Array α} (h : l.size = 6) : ∃ a b c d e f, l = #[a, b, c, d, e, f] := by
  obtain ⟨l⟩ := l
  obtain ⟨a, b, c, d, e, f, rfl⟩ := six_list (show l.length = 6 from h)
  exact ⟨a, b, c, d, e, f, rfl⟩
/-- An entry of texts that a machine can hold. -/
def Held (e : En) : Prop := e.i.size ≤ maxLen ∧ e.t.size ≤ maxLen ∧ e.l.size ≤ maxLen ∧ e.a.size ≤ maxLen ∧ e.c.size ≤ maxLen
theorem cellsE : Tryz.prog.cellsOf 23 = 6 := by kernel_rfl
theorem oneE : ∃ fs : Array Field, Tryz.prog.underlying 23 = some (.struct fs) ∧ fs.size = 6 ∧ oneCellFields Tryz.prog fs = true ∧ ∀ (j : Nat) (f : Field), fs[j]? = some f → f.type = if j = 4 then 3 else 9 := by
  refine ⟨_, Tryz.underlying23, by kernel_rfl, by kernel_rfl, ?_⟩
  intro j f hf
  match j, hf with
  | 0, hf => cases hf; rfl
  | 1, hf => cases hf; rfl
  | 2, hf => cases hf; rfl
  | 3, hf => cases hf; rfl
  | 4, hf => cases hf; rfl
  | 5, hf => cases hf; rfl
  | j + 6, hf => simp at hf
section
variable {H : Type} {enc : TypeId × Value → H} {w : World} {base : Nat} {spare : Nat → Bool} {held : Bool}
set_option maxRecDepth 100000 in
theorem trod_entry {fuel : Nat} {cs : List Value} {x : DataW H × List MemPlace} (h : DataW.trod enc Tryz.prog w base spare held fuel 23 cs = some x) : ∃ e : En, cs = (cl e).toList ∧ Held e := by
  obtain ⟨fs, hs, h6, hone, hty⟩ := oneE
  obtain ⟨xs, n, _, hx, hcl, hlen, hf⟩ := DataW.trod_struct hs h
  rw [cellsE] at hcl
  obtain ⟨c0, c1, c2, c3, c4, c5, rfl⟩ := six_list hcl
  obtain ⟨y0, y1, y2, y3, y4, y5, rfl⟩ := six_list (hlen.trans h6)
  have cell : ∀ (j : Nat) (c : Value) (y : DataW H × List MemPlace), j < 6 → ([c0, c1, c2, c3, c4, c5] : List Value)[j]? = some c → ([y0, y1, y2, y3, y4, y5] : List (DataW H × List MemPlace))[j]? = some y → DataW.trod enc Tryz.prog w base spare held n (if j = 4 then 3 else 9) [c] = some y := by
    intro j c y hj hc hy
    have hfj : fs[j]? = some fs[j] := by simp [h6, hj]
    have hh := hf j _ hfj
    obtain ⟨o, k⟩ := hone_of hone j _ hfj
    rw [o, k, hty j _ hfj, hy] at hh
    have : (([c0, c1, c2, c3, c4, c5] : List Value).drop j).take 1 = [c] := by
      have : j = 0 ∨ j = 1 ∨ j = 2 ∨ j = 3 ∨ j = 4 ∨ j = 5 := by omega
      rcases this with rfl | rfl | rfl | rfl | rfl | rfl
      all_goals
        cases hc
        rfl
    rwa [this] at hh
  have str : ∀ (j : Nat) (c : Value) (y : DataW H × List MemPlace), j < 6 → j ≠ 4 → ([c0, c1, c2, c3, c4, c5] : List Value)[j]? = some c → ([y0, y1, y2, y3, y4, y5] : List (DataW H × List MemPlace))[j]? = some y → ∃ s : ByteArray, c = .string s ∧ s.size ≤ maxLen := by
    intro j c y hj h4 hc hy
    have hh := cell j c y hj hc hy
    rw [if_neg h4] at hh
    obtain ⟨s, e, _, hl⟩ := DataW.trod_string Tryz.underlying9 hh
    simp only [List.cons.injEq, and_true] at e
    exact ⟨s, e, hl⟩
  obtain ⟨s0, rfl, l0⟩ := str 0 _ _ (by omega) (by omega) rfl rfl
  obtain ⟨s1, rfl, l1⟩ := str 1 _ _ (by omega) (by omega) rfl rfl
  obtain ⟨s2, rfl, l2⟩ := str 2 _ _ (by omega) (by omega) rfl rfl
  obtain ⟨s3, rfl, l3⟩ := str 3 _ _ (by omega) (by omega) rfl rfl
  obtain ⟨s5, rfl, l5⟩ := str 5 _ _ (by omega) (by omega) rfl rfl
  have hh := cell 4 _ _ (by omega) rfl rfl
  rw [if_pos rfl] at hh
  obtain ⟨z, e, _, _⟩ := DataW.trod_int Tryz.underlying3 hh
  simp only [List.cons.injEq, and_true] at e
  subst e
  exact ⟨⟨s0, s1, s2, s3, z, s5⟩, rfl, l0, l1, l2, l3, l5⟩
set_option maxRecDepth 100000 in
theorem open_entry {r : Reach} {b0 : Nat} {v : Value} {d : DataW H} {p : List MemPlace} (hv : Value.okWide Tryz.prog w r b0 23 v) (h : DataW.Trod enc Tryz.prog w base spare held 23 v d p) : ∃ e : En, v = EV e ∧ Held e := by
  obtain ⟨fs, hs, h6, hone, hty⟩ := oneE
  obtain ⟨cs, rfl, hsz⟩ := okWide_struct hs hv
  obtain ⟨fuel, hf⟩ := h
  obtain ⟨e, he, hh⟩ := trod_entry hf
  refine ⟨e, ?_, hh⟩
  have : cs.toList = (cl e).toList := by simpa [Value.cells] using he
  exact congrArg Value.agg (Array.toList_inj.1 this)
end

set_option maxHeartbeats 1000000 in
theorem szEntry_any (e : En) (left : Int) (w : World) (h0 : 0 ≤ left) (h1 : left ≤ 1048576) (hh : Held e) :
    Calls Tryz.prog 5 #[EV e, .int .i64 left] w fun r w' => (∃ z : Int, r = .returned (.int .i64 z) ∧ z ≤ left ∧ -1 ≤ z ∧ (0 ≤ z → Small e)) ∧ Below w.heap.size w w' := by
  obtain ⟨i, t, l, a, d, c⟩ := e
  obtain ⟨s0, s1, s2, s3, s5⟩ := hh
  unfold maxLen at s0 s1 s2 s3 s5
  simp only at s0 s1 s2 s3 s5
  have hbw : Below w.heap.size w (w.alloc (.cells #[.string i, .string t, .string l, .string a, .int .i64 d, .string c] 23)) := (Below.refl _ _).alloc (Nat.le_refl _) _
  unfold EV cl
  simp only
  by_cases g0 : left - (i.size : Int) < 0
  · go_enter Tryz.func5, Tryz.ntmps5
    go_wp2
    go_ret
    exact ⟨⟨-1, rfl, by omega, by omega, by omega⟩, hbw⟩
  by_cases g1 : left - (i.size : Int) - (t.size : Int) < 0
  · go_enter Tryz.func5, Tryz.ntmps5
    go_wp2
    go_ret
    exact ⟨⟨-1, rfl, by omega, by omega, by omega⟩, hbw⟩
  by_cases g2 : left - (i.size : Int) - (t.size : Int) - (l.size : Int) < 0
  · go_enter Tryz.func5, Tryz.ntmps5
    go_wp2
    go_ret
    exact ⟨⟨-1, rfl, by omega, by omega, by omega⟩, hbw⟩
  by_cases g3 : left - (i.size : Int) - (t.size : Int) - (l.size : Int) - (a.size : Int) < 0
  · go_enter Tryz.func5, Tryz.ntmps5
    go_wp2
    go_ret
    exact ⟨⟨-1, rfl, by omega, by omega, by omega⟩, hbw⟩
  by_cases g4 : left - (i.size : Int) - (t.size : Int) - (l.size : Int) - (a.size : Int) - (c.size : Int) < 0
  · go_enter Tryz.func5, Tryz.ntmps5
    go_wp2
    go_ret
    exact ⟨⟨-1, rfl, by omega, by omega, by omega⟩, hbw⟩
  · go_enter Tryz.func5, Tryz.ntmps5
    go_wp2
    go_ret
    exact ⟨⟨_, rfl, by omega, by omega, fun _ => ⟨by show i.size ≤ _; omega, by show t.size ≤ _; omega, by show l.size ≤ _; omega, by show a.size ≤ _; omega, by show c.size ≤ _; omega⟩⟩, hbw⟩

set_option maxHeartbeats 1000000 in
set_option maxRecDepth 100000 in
theorem toEntry_any (e : En) (w : World) : Calls Tryz.prog 7 #[EV e] w fun r w' => r = .returned (EV e) ∧ Below w.heap.size w w' := by
  obtain ⟨i, t, l, a, d, c⟩ := e
  unfold EV cl
  simp only
  go_enter Tryz.func7, Tryz.ntmps7
  go_wp2
  refine bodyPost_ret (v := .agg #[.string i, .string t, .string l, .string a, .int .i64 d, .string c]) (by simp [results, Tryz.results7, go_sem]) rfl ⟨rfl, ?_⟩
  exact (((Below.refl _ w).alloc (Nat.le_refl _) _).alloc (by simp) _).alloc (by simp; omega) _
end Go.Proofs.YtmckekflpdaklaaGreatDoor.en
