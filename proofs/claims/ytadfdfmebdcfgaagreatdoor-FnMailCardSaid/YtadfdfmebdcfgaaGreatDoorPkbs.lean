/-
  The contract of the program's RenderEntry.
  What FnMail asks of an entry that is drawn, put together: its mail, what is read of it, and two entries held against each other.
-/
import Derived.Test.YtadfdfmebdcfgaaGreatDoorPkbr
import Derived.Test.YtadfdfmebdcfgaaGreatDoorPkbm
import Derived.Test.YtadfdfmebdcfgaaGreatDoorPkbn
import Derived.Test.YtadfdfmebdcfgaaGreatDoorPkbo
import Derived.Test.YtadfdfmebdcfgaaGreatDoorPkbg
import Derived.DeepKeys

namespace Go.Proofs.YtadfdfmebdcfgaaGreatDoor.rn
open Go.RowKit
open gr
set_option linter.unusedVariables false

set_option maxHeartbeats 4000000 in
set_option maxRecDepth 100000 in
theorem implRE_any (e : en.En) (box : ByteArray) (w : World) (hs : en.Small e) (hb : box.size ≤ 1048576) (m : Int) (HT : ∀ w', Below w.heap.size w w' → Tabs m w' ∧ tb.TA w') :
    Calls Tryz.prog 6 #[en.EV e, .string box] w fun r w' => ReRet e box r ∧ Below w.heap.size w w' := by
  obtain ⟨i, t, l, a, d, c⟩ := e
  have L0 := en.lies_new w 24 ⟨i, t, l, a, d, c⟩
  have b0 : Below w.heap.size w (w.alloc (.cells (en.cl ⟨i, t, l, a, d, c⟩) 24)) := (Below.refl _ w).alloc (Nat.le_refl _) _
  have HOK : Hid (∀ W, Calls Tryz.prog 13 #[.agg #[.string i, .string t, .string l, .string a, .int .i64 d, .string c]] W fun r w' => r = .returned (.bool (en.eok ⟨i, t, l, a, d, c⟩)) ∧ Below W.heap.size W w') := fun W => en.impl_eok ⟨i, t, l, a, d, c⟩ W hs
  have HNM : Hid (∀ W, Calls Tryz.prog 18 #[.string box] W fun e w' => nm.NameRet box e ∧ w' = W) := fun W => nm.implName_any box W hb
  have HTT : Hid (∀ w', Below w.heap.size w w' → Tabs m w' ∧ tb.TA w') := HT
  clear HT
  unfold en.cl at L0 b0
  unfold en.EV en.cl
  go_enter Tryz.func6, Tryz.ntmps6
  go_upto_region 1 with fail
  generalize hX : World.alloc _ _ = X at L0 b0 ⊢
  clear hX
  generalize hBx : w.heap.size = Bx at L0 b0 ⊢
  have hBX : Bx < X.heap.size := L0.lt
  have HL0 := L0
  by_cases h : box.size ≤ 65536
  case neg =>
    have h' : (65536 : Int) < (box.size : Int) := by omega
    clear L0 HL0
    go_wp2
    go_ret2
    subst hBx
    exact ⟨.inl ⟨by omega, rfl⟩, b0⟩
  have h' : (box.size : Int) ≤ 65536 := by omega
  have x0 : X.cell? ⟨Bx, 0, none⟩ = some (.string i) := L0.c0
  have x1 : X.cell? ⟨Bx, 1, none⟩ = some (.string t) := L0.c1
  have x2 : X.cell? ⟨Bx, 2, none⟩ = some (.string l) := L0.c2
  have x3 : X.cell? ⟨Bx, 3, none⟩ = some (.string a) := L0.c3
  have x4 : X.cell? ⟨Bx, 4, none⟩ = some (.int .i64 d) := L0.c4
  have x5 : X.cell? ⟨Bx, 5, none⟩ = some (.string c) := L0.c5
  have HL : Hid (en.Lies X Bx 24 ⟨i, t, l, a, d, c⟩) := L0
  clear L0 HL0
  have HB0 : Hid (Below Bx w X) := b0
  clear b0
  go_wp2_with fail
  refine (HOK.out _).mono ?_
  rintro r w1 ⟨rfl, b1⟩
  have HL1 : Hid (en.Lies w1 Bx 24 ⟨i, t, l, a, d, c⟩) := (show _ = _ from (b1.block Bx hBX).trans HL.out)
  have HB1 : Hid (Below Bx w w1) := HB0.out.trans (b1.mono (Nat.le_of_lt hBX))
  clear b1 x0 x1 x2 x3 x4 x5
  cases he : en.eok ⟨i, t, l, a, d, c⟩ with
  | false =>
    have he' : ¬ (en.eok ⟨i, t, l, a, d, c⟩ = true) := by rw [he]; simp
    clear he
    go_wp2
    go_ret2
    subst hBx
    exact ⟨.inr (.inl ⟨h, fun k => he' k.1, rfl⟩), HB1.out⟩
  | true =>
    have HE : Hid (en.eok ⟨i, t, l, a, d, c⟩ = true) := he
    clear he
    go_wp2_with fail
    refine (HNM.out _).mono ?_
    rintro r w2 ⟨⟨b, rfl, hn⟩, rfl⟩
    cases b with
    | false =>
      have hn' : ¬ nm.IsName box := fun k => by cases hn.2 k
      clear hn
      go_wp2
      go_ret2
      subst hBx
      exact ⟨.inr (.inl ⟨h, fun k => hn' k.2, rfl⟩), HB1.out⟩
    | true =>
      have HN : Hid (nm.IsName box) := hn.1 rfl
      clear hn
      have HLT : Hid (∀ W, Below w.heap.size w W → Calls Tryz.prog 19 #[.agg #[.string i, .string t, .string l, .string a, .int .i64 d, .string c], .string box] W fun e w' => LetAt ⟨i, t, l, a, d, c⟩ box W.heap.size e w' ∧ Below W.heap.size W w') := fun W hW => letter_any i t l a c box d W m HE.out HN.out (fun w' h' => (HTT.out w' (hW.trans (h'.mono hW.size))).1)
      have HGD : Hid (∀ p ∈ flds ⟨i, t, l, a, d, c⟩ box, Good p ∧ p.1.size ≤ 40 ∧ p.2.size ≤ 2000) := (show _ from by
        obtain ⟨gi, gt, gl, ga, _⟩ := eok_cases HE.out
        exact flds_good HE.out HN.out (enc_all a ga w) (enc_all t gt w) (enc_all i gi w) (enc_all l gl w))
      have hc := (eok_cases HE.out).2.2.2.2.1.1
      have x0 : w2.cell? ⟨Bx, 0, none⟩ = some (.string i) := HL1.out.c0
      have x1 : w2.cell? ⟨Bx, 1, none⟩ = some (.string t) := HL1.out.c1
      have x2 : w2.cell? ⟨Bx, 2, none⟩ = some (.string l) := HL1.out.c2
      have x3 : w2.cell? ⟨Bx, 3, none⟩ = some (.string a) := HL1.out.c3
      have x4 : w2.cell? ⟨Bx, 4, none⟩ = some (.int .i64 d) := HL1.out.c4
      have x5 : w2.cell? ⟨Bx, 5, none⟩ = some (.string c) := HL1.out.c5
      subst hBx
      go_wp2_with fail
      refine (HLT.out _ HB1.out).mono ?_
      rintro r w3 ⟨⟨g, hg, rfl, hfa⟩, b3⟩
      clear x0 x1 x2 x3 x4 x5
      obtain ⟨QC, hQC⟩ : ∃ x : ByteArray, x = ⟨(qu.qt 0 (crl c.data.toList)).toArray⟩ ++ ⟨#[13, 10]⟩ := ⟨_, rfl⟩
      obtain ⟨FA, hFA⟩ : ∃ x : ByteArray, x = foldAll (flds ⟨i, t, l, a, d, c⟩ box) ++ ⟨#[13, 10]⟩ := ⟨_, rfl⟩
      have HRE : Hid (rend ⟨i, t, l, a, d, c⟩ box = FA ++ QC) := (show _ = _ by rw [hFA, hQC]; rfl)
      have hQs : QC.size ≤ 400002 := by
        rw [hQC, ByteArray.size_append, Lib.size_eq]
        have := qu.qt_len 0 (crl c.data.toList)
        have h0 : c.size ≤ 1000 := hc
        have hcl := crl_len c.data.toList
        rw [Lib.size_eq] at h0
        show (qu.qt 0 (crl c.data.toList)).length + 2 ≤ 400002
        omega
      have hFs : FA.size ≤ 54902 := by
        rw [hFA, ByteArray.size_append]
        have := all_len (flds ⟨i, t, l, a, d, c⟩ box) (fun p hp => (HGD.out p hp).2)
        have e9 : (flds ⟨i, t, l, a, d, c⟩ box).length = 9 := rfl
        rw [e9] at this
        have e2 : (⟨#[13, 10]⟩ : ByteArray).size = 2 := rfl
        omega
      rw [← hQC]
      have b4 : Below w.heap.size w w3 := HB1.out.trans (b3.mono HB1.out.size)
      have hgl : g < w3.heap.size := World.block_lt_of_cell? w3 _ (hfa 0 (by show 0 < 9; omega)).1
      have bA : Below w3.heap.size w3 (w3.alloc (.cells #[.slice (some ⟨g, 0, none⟩) 9 9, .string QC] 43)) := (Below.refl _ _).alloc (Nat.le_refl _) _
      have HX : b2.Box (w3.alloc (.cells #[.slice (some ⟨g, 0, none⟩) 9 9, .string QC] 43)) w3.heap.size 43 (.slice (some ⟨g, 0, none⟩) 9 9) (.string QC) := b2.new _ _ _ _
      have HFO : Hid (∀ W, Below w3.heap.size w3 W → Calls Tryz.prog 20 #[.slice (some ⟨g, 0, none⟩) 9 9] W fun e w' => e = .returned (.string FA) ∧ Below W.heap.size W w') := fun W hW => by
        rw [hFA]
        refine folded_any g 0 9 (flds ⟨i, t, l, a, d, c⟩ box) W (fun j hj => ?_) (by show 9 ≤ 40; omega) HGD.out (fun w' h' => (HTT.out w' (b4.trans ((hW.trans (h'.mono hW.size)).mono b4.size))).2)
        obtain ⟨q0, q1⟩ := hfa j hj
        exact ⟨(hW.cell (p := ⟨g, 0 + j * 2, none⟩) hgl).trans q0, (hW.cell (p := ⟨g, 0 + j * 2 + 1, none⟩) hgl).trans q1⟩
      have HB4 : Hid (Below w.heap.size w w3) := b4
      clear hfa hQC hFA hgl hg b3 b4 HGD HLT HTT HOK HNM HL1 HB1 HL HB0
      go_upto_region 6 with fail
      generalize hWA : World.alloc _ _ = WA at bA HX ⊢
      clear hWA
      have HBA : Hid (Below w3.heap.size w3 WA) := bA
      have hz : (9223372036854775807 < FA.size + QC.size) = False := eq_false (by omega)
      have ne := ext_some WA
      have c0 := fun x : Ext WA => gw_cell x HX.c0
      have c1 := fun x : Ext WA => gw_cell x HX.c1
      have HFW : Hid (∀ x : Ext WA, Calls Tryz.prog 20 #[.slice (some ⟨g, 0, none⟩) 9 9] (gw x) fun e w' => e = .returned (.string FA) ∧ Below (gw x).heap.size (gw x) w') := fun x => HFO.out _ (HBA.out.trans ((gw_below x).mono HBA.out.size))
      clear bA HX HFO
      refine region_lit (by kernel_rfl) (by kernel_rfl) ?_
      repeat (go_big_quiet_step (first | (go_at_call 20; exact grow_of (HFW.out _))))
      refine wpQuiet_nil ?_
      rintro W' ⟨x, rfl⟩
      have b5 := gw_below x
      generalize gw x = W5 at b5 ⊢
      go_wp2_with fail
      go_ret2
      refine ⟨.inr (.inr ⟨h, ⟨HE.out, HN.out⟩, by rw [HRE.out]; rfl⟩), HB4.out.trans ((HBA.out.trans (b5.mono HBA.out.size)).mono HB4.out.size)⟩
end Go.Proofs.YtadfdfmebdcfgaaGreatDoor.rn

namespace Go.Proofs.YtadfdfmebdcfgaaGreatDoor.me
open Go.RowKit Go.WideShapes
set_option linter.unusedVariables false

theorem row_bytes {w : World} {a : Option Addr} {len cap : Nat} {zs : List Int} (h : ag.IsRow .u8 w a len cap zs) (hl : len ≤ 1048576) : se.Bytes w a len := by
  refine ⟨hl, ?_⟩
  rcases h with ⟨rfl, rfl, rfl, rfl⟩ | ⟨x, rfl, hlc, hm, hz, hcell, hwz⟩
  · exact .inl rfl
  · by_cases h0 : len = 0
    · exact .inl h0
    · right
      obtain ⟨b, off, spot⟩ := x
      have hc := hcell 0 (by omega)
      have hspot : spot = none := by simpa [Addr.add] using World.cell?_spot hc
      subst hspot
      refine ⟨b, off, rfl, fun j hj => ?_⟩
      have hj2 : j < zs.length := by omega
      have hb := bounds_u8 (hwz (zs.getD j 0) (by rw [List.getD_eq_getElem?_getD, List.getElem?_eq_getElem hj2]; exact List.getElem_mem hj2))
      refine ⟨zs.getD j 0, hb.1, hb.2, ?_⟩
      rw [← hcell j hj2]
      congr 1
      simp [Addr.add]
def lits (i t l a : ByteArray) (d : Int) (c : ByteArray) : List Lit := [.string i.data.toList, .string t.data.toList, .string l.data.toList, .string a.data.toList, .int .i64 d, .string c.data.toList]
set_option maxRecDepth 100000 in
theorem lits_of (i t l a : ByteArray) (d : Int) (c : ByteArray) (hi : i.size ≤ 1048576) (ht : t.size ≤ 1048576) (hl : l.size ≤ 1048576) (ha : a.size ≤ 1048576) (d0 : 0 ≤ d) (d1 : d ≤ 4102444799) (hc : c.size ≤ 1048576) : Tryz.prog.keyLits 2 24 [.string i, .string t, .string l, .string a, .int .i64 d, .string c] = some (lits i t l a d c) := by
  have w0 : (Lit.int .i64 d).wf = true := WalkArith.wf_i64 (by omega)
  have hce : Tryz.prog.cellsOf 24 = 6 := by kernel_rfl
  have hci : Tryz.prog.cellsOf 3 = 1 := by kernel_rfl
  have hcs : Tryz.prog.cellsOf 9 = 1 := by kernel_rfl
  simp [Program.keyLits, Tryz.underlying24, Tryz.underlying3, Tryz.underlying9, hce, hci, hcs, w0, lits, show i.size ≤ maxLen by unfold maxLen; omega, show t.size ≤ maxLen by unfold maxLen; omega, show l.size ≤ maxLen by unfold maxLen; omega, show a.size ≤ maxLen by unfold maxLen; omega, show c.size ≤ maxLen by unfold maxLen; omega]
theorem formed_of (i t l a : ByteArray) (d : Int) (c : ByteArray) : (Value.agg #[.string i, .string t, .string l, .string a, .int .i64 d, .string c]).formed Tryz.prog 24 = true := by
  have hc : Tryz.prog.cellsOf 24 = 6 := by kernel_rfl
  simp [Value.formed, Tryz.underlying24, hc]
theorem key_at : Tryz.prog.keyTypeAt 2 24 = true := by kernel_rfl
/-- An entry is what it is. -/
theorem eqE_run (i t l a : ByteArray) (d : Int) (c : ByteArray) (hi : i.size ≤ 1048576) (ht : t.size ≤ 1048576) (hl : l.size ≤ 1048576) (ha : a.size ≤ 1048576) (d0 : 0 ≤ d) (d1 : d ≤ 4102444799) (hc : c.size ≤ 1048576) (w : World) : (Op.equal 24 (.agg #[.string i, .string t, .string l, .string a, .int .i64 d, .string c]) (.agg #[.string i, .string t, .string l, .string a, .int .i64 d, .string c])).run Tryz.prog w = .ok true w := by
  have hL := lits_of i t l a d c hi ht hl ha d0 d1 hc
  obtain ⟨r, h1, h2⟩ := run_equalIn_deep (P := Tryz.prog) 9998 2 24 key_at w 2 2 (.agg #[.string i, .string t, .string l, .string a, .int .i64 d, .string c]) (.agg #[.string i, .string t, .string l, .string a, .int .i64 d, .string c]) (lits i t l a d c) (lits i t l a d c) (formed_of i t l a d c) (formed_of i t l a d c) (by simpa [Value.cells] using hL) (by simpa [Value.cells] using hL)
  rw [← h2.2 rfl]
  exact h1
theorem eqB_run (i t l a : ByteArray) (d : Int) (c : ByteArray) (hi : i.size ≤ 1048576) (ht : t.size ≤ 1048576) (hl : l.size ≤ 1048576) (ha : a.size ≤ 1048576) (d0 : 0 ≤ d) (d1 : d ≤ 4102444799) (hc : c.size ≤ 1048576) (w : World) : (Go.binOp .eql 24 (.agg #[.string i, .string t, .string l, .string a, .int .i64 d, .string c]) (.agg #[.string i, .string t, .string l, .string a, .int .i64 d, .string c])).run Tryz.prog w = .ok (.bool true) w := by
  simp [Go.binOp, eqE_run i t l a d c hi ht hl ha d0 d1 hc w, Result.andThen]
theorem guardE_run (x y : Operand) (a b : Array Value) (w : World) : (eqGuard .eql 24 x y (.agg a) (.agg b)).run Tryz.prog w = .ok () w := by
  have h : Tryz.prog.eqGuardType Tryz.prog.depth 24 = false := by kernel_rfl
  simp [eqGuard, h, Result.andThen]
theorem bel_drewN {B : Nat} {a w : World} (h : Below B a w) (n : Nat) : Below B a (w.drewN n) := ⟨h.os, h.tape, h.output, h.size, h.block⟩
/-- The name that the law gives. -/
def news : ByteArray := ⟨#[110, 101, 119, 115]⟩
theorem news_name : nm.IsName news := by
  refine ⟨by decide, by decide, fun j hj => ⟨hj, .inl ?_⟩⟩
  have h4 : j < 4 := hj
  match j, h4 with
  | 0, _ => rfl
  | 1, _ => rfl
  | 2, _ => rfl
  | 3, _ => rfl
/-- All that is told of a drawn entry. -/
structure Told (i t l a : ByteArray) (d : Int) (c s : ByteArray) : Prop where
  ok : en.eok ⟨i, t, l, a, d, c⟩ = true
  small : en.Small ⟨i, t, l, a, d, c⟩
  re : ∀ r, rn.ReRet ⟨i, t, l, a, d, c⟩ news r → r = .returned (.tuple #[.string s, .int .i64 0])
  size : s.size ≤ 65536
  mail : ml.mok 0 s.data.toList = true
  long : ln.lret s ≤ 998
  back : ∀ x, MeRet s.data.toList x → x = .returned (.tuple #[.agg #[.string i, .string t, .string l, .string a, .int .i64 d, .string c], .int .i64 0])
  lines : ∀ x, ml.MlRet s.data.toList x → ∃ n : Int, x = .returned (.tuple #[.int .i64 n, .int .i64 0])
theorem told_of {i t l a c : ByteArray} {d : Int} (h : en.eok ⟨i, t, l, a, d, c⟩ = true) : ∃ s, Told i t l a d c s := by
  obtain ⟨e1, e2, e3, e4, e5, e6, e7⟩ := rn.eok_cases h
  have ha := rn.enc_all a e4 default
  have ht := rn.enc_all t e2 default
  have hi := rn.enc_all i e1 default
  have hl := rn.enc_all l e3 default
  have hm := rend_mail h news_name ha ht hi hl
  have hz := rend_len h news_name ha ht hi hl
  have hlr := rend_ll h news_name ha ht hi hl
  have hsz : (rn.rend ⟨i, t, l, a, d, c⟩ news).size ≤ 65536 := by rw [Lib.size_eq]; exact hz
  refine ⟨rn.rend ⟨i, t, l, a, d, c⟩ news, h, ?_, ?_, hsz, hm.1, ?_, ?_, ?_⟩
  · have h1 := (en.fld_cases e1).1
    have h2 := (en.fld_cases e2).1
    have h3 := (en.fld_cases e3).1
    have h4 := (en.fld_cases e4).1
    have h5 := e5.1
    simp only at h1 h2 h3 h4 h5
    exact ⟨show i.size ≤ _ by omega, show t.size ≤ _ by omega, show l.size ≤ _ by omega, show a.size ≤ _ by omega, show c.size ≤ _ by omega⟩
  · intro r hr
    rcases hr with ⟨h1, _⟩ | ⟨_, h1, _⟩ | ⟨_, _, h1⟩
    · exact absurd h1 (by decide)
    · exact absurd ⟨h, news_name⟩ h1
    · exact h1
  · unfold ln.lret
    rw [if_pos hsz]
    omega
  · intro x hx
    exact meRet_rend h news_name ha ht hi hl hz hx
  · intro x hx
    rcases hx with ⟨h1, _⟩ | ⟨_, h1, _⟩ | ⟨_, fs, b, _, h1⟩
    · omega
    · exact absurd ⟨_, _, hm⟩ h1
    · exact ⟨_, h1⟩
end Go.Proofs.YtadfdfmebdcfgaaGreatDoor.me
