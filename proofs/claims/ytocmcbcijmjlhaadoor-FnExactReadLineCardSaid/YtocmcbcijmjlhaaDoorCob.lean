/-
  The reader of a console's line: what it takes off a line.
-/
import Derived.Test.YtocmcbcijmjlhaaDoorCoa
import Derived.Test.YtocmcbcijmjlhaaDoorCon
namespace Go.Proofs.YtocmcbcijmjlhaaDoor.cn
open Go.RowKit
open sp nu
set_option linter.unusedVariables false

/-- What the library's variables hold, behind whatever was done to block b. -/
def Env (b : Nat) (w : World) : Prop := ∃ (w0 : World) (mx : Int), w0.cell? ⟨0, 0, none⟩ = some (.int .i64 mx) ∧ Sents w0 ∧ tb.TP w0 ∧ w0.heap.size ≤ b ∧ Below w0.heap.size w0 w
section
variable {w w' : World} {b : Nat}
theorem below_grown (h : w.grownBy w' (some b)) (hb : b ≤ w.heap.size) : Below b w w' := ⟨h.os, h.tape, h.output, h.size, fun k hk => h.block k (by omega) (fun e => by injection e with e; omega)⟩
theorem Env.step (h : Env b w) (hb : b ≤ w.heap.size) (g : w.grownBy w' (some b)) : Env b w' := by
  obtain ⟨w0, mx, h1, h2, h3, h4, h5⟩ := h
  exact ⟨w0, mx, h1, h2, h3, h4, h5.trans ((below_grown g hb).mono h4)⟩
theorem Env.mx (h : Env b w) : ∃ mx : Int, w.cell? ⟨0, 0, none⟩ = some (.int .i64 mx) := by
  obtain ⟨w0, mx, h1, h2, h3, h4, h5⟩ := h
  exact ⟨mx, (h5.cell (p := ⟨0, 0, none⟩) (World.block_lt_of_cell? w0 _ h1)).trans h1⟩
theorem Env.se (h : Env b w) : Sents w := by
  obtain ⟨w0, mx, h1, h2, h3, h4, h5⟩ := h
  exact sents_keep h2 h5
theorem Env.tp (h : Env b w) : tb.TP w := by
  obtain ⟨w0, mx, h1, h2, h3, h4, h5⟩ := h
  exact tb.keep' h3 h5
end
def cn1 (o : Option Int) (r x d : List UInt8) : Option (List UInt8 × Int × List UInt8 × List UInt8) := match o with | none => none | some n => some (r, n, x, d)
/-- What a taker makes of what is left, Conn, Box and Data. -/
def tkM (N : Nat) (r : List UInt8) (c : Int) (x d : List UInt8) : Option (List UInt8 × Int × List UInt8 × List UInt8) :=
  if N = 15 then (if wd r = [] then none else some (rs r, c, wd r, d))
  else if N = 16 then (if tb r = [] then none else some ([], c, x, tb r))
  else if N = 17 then (if wd r = [] then none else cn1 (numO (wd r)) (rs r) x d)
  else some ([], c, x, tb r ++ [13, 10])
def TkRet (b : Nat) (w : World) (k : Int) (o : Option (List UInt8 × Int × List UInt8 × List UInt8)) (e : Ending) (w' : World) : Prop :=
  match o with
  | none => Pan e ∧ w.grownBy w' (some b)
  | some (r, c, x, d) => e = .returned (.tuple #[]) ∧ St w b r k c x d w'

set_option maxHeartbeats 1000000 in
set_option maxRecDepth 100000 in
theorem takeBox_any (b : Nat) (r : List UInt8) (k c : Int) (x d : List UInt8) (w : World) (h : Rd w b r k c x d) (hr : r.length ≤ 1048576) (hv : Env b w) :
    Calls Tryd.prog 15 #[.pointer (some ⟨b, 0, none⟩)] w fun e w' => TkRet b w k (if wd r = [] then none else some (rs r, c, wd r, d)) e w' := by
  obtain ⟨mx, hm⟩ := hv.mx
  by_cases hw : wd r = []
  · have HW : Hid (Calls Tryd.prog 13 #[.pointer (some ⟨b, 0, none⟩)] w fun e w' => Pan e ∧ w.grownBy w' (some b)) := word_none b r k c x d w h hr mx hm hw
    rw [if_pos hw]
    clear h hm hw hv
    go_enter Tryd.func15, Tryd.ntmps15
    go_wp2_with fail
    refine HW.out.mono ?_
    rintro e w1 ⟨⟨T, v, rfl⟩, hg⟩
    go_wp2
    exact ⟨rfl, ⟨_, _, rfl⟩, hg⟩
  · have HW : Hid (Calls Tryd.prog 13 #[.pointer (some ⟨b, 0, none⟩)] w fun e w' => e = .returned (.string ⟨(wd r).toArray⟩) ∧ St w b (rs r) k c x d w') := word_some b r k c x d w h hr mx hm hw
    have HCL : Hid (∀ W, Calls Tryd.prog 22 #[.string ⟨(wd r).toArray⟩] W fun e w' => e = .returned (.string ⟨(wd r).toArray⟩) ∧ Below W.heap.size W w') := fun W => clone_any _ W (by show (wd r).toArray.size ≤ _; have := wd_len r; simp; omega)
    rw [if_neg hw]
    clear h hm hw hv
    go_enter Tryd.func15, Tryd.ntmps15
    go_wp2_with fail
    refine HW.out.mono ?_
    rintro e w1 ⟨rfl, hs⟩
    go_wp2_with fail
    refine (HCL.out _).mono ?_
    rintro e w2 ⟨rfl, hb⟩
    have HG : Hid (St w b (rs r) k c x d w2) := hs.below hb
    have f4 := HG.out.1.f 4
    have c4 := HG.out.1.c4
    clear hs hb HW HCL
    go_wp2
    go_end0
    exact ⟨rfl, HG.out.p4⟩

set_option maxHeartbeats 1000000 in
set_option maxRecDepth 100000 in
theorem takeFeed_any (b : Nat) (r : List UInt8) (k c : Int) (x d : List UInt8) (w : World) (h : Rd w b r k c x d) (hr : r.length ≤ 1048576) (hv : Env b w) :
    Calls Tryd.prog 16 #[.pointer (some ⟨b, 0, none⟩)] w fun e w' => TkRet b w k (if tb r = [] then none else some ([], c, x, tb r)) e w' := by
  have HW : Hid (Calls Tryd.prog 21 #[.pointer (some ⟨b, 0, none⟩)] w fun e w' => e = .returned (.string ⟨(tb r).toArray⟩) ∧ St w b [] k c x d w') := tail_any b r k c x d w h hr
  by_cases hw : tb r = []
  · obtain ⟨hE, hE2⟩ := emp_of hw
    rw [if_pos hw]
    clear h hw hv
    go_enter Tryd.func16, Tryd.ntmps16
    go_wp2_with fail
    refine HW.out.mono ?_
    rintro e w1 ⟨rfl, hs⟩
    have HG : Hid (w.grownBy w1 (some b)) := hs.2
    clear hs HW
    go_wp2
    exact ⟨rfl, ⟨_, _, rfl⟩, HG.out⟩
  · have HCL : Hid (∀ W, Calls Tryd.prog 22 #[.string ⟨(tb r).toArray⟩] W fun e w' => e = .returned (.string ⟨(tb r).toArray⟩) ∧ Below W.heap.size W w') := fun W => clone_any _ W (by show (tb r).toArray.size ≤ _; have := tb_len r; simp; omega)
    obtain ⟨hE, hE2⟩ := emp_ne hw
    rw [if_neg hw]
    clear h hw hv
    go_enter Tryd.func16, Tryd.ntmps16
    go_wp2_with fail
    refine HW.out.mono ?_
    rintro e w1 ⟨rfl, hs⟩
    go_wp2_with fail
    refine (HCL.out _).mono ?_
    rintro e w2 ⟨rfl, hb⟩
    have HG : Hid (St w b [] k c x d w2) := hs.below hb
    have f5 := HG.out.1.f 5
    have c5 := HG.out.1.c5
    clear hs hb HW HCL
    go_wp2
    go_end0
    exact ⟨rfl, HG.out.p5⟩

set_option maxHeartbeats 1000000 in
set_option maxRecDepth 100000 in
theorem takeBytes_any (b : Nat) (r : List UInt8) (k c : Int) (x d : List UInt8) (w : World) (h : Rd w b r k c x d) (hr : r.length ≤ 1048576) (hv : Env b w) :
    Calls Tryd.prog 18 #[.pointer (some ⟨b, 0, none⟩)] w fun e w' => TkRet b w k (some ([], c, x, tb r ++ [13, 10])) e w' := by
  have HW : Hid (Calls Tryd.prog 21 #[.pointer (some ⟨b, 0, none⟩)] w fun e w' => e = .returned (.string ⟨(tb r).toArray⟩) ∧ St w b [] k c x d w') := tail_any b r k c x d w h hr
  have hcat : (⟨(tb r).toArray⟩ : ByteArray) ++ ⟨#[13, 10]⟩ = ⟨(tb r ++ [13, 10]).toArray⟩ := by
    apply ByteArray.ext
    simp
  have hDs : ¬ 9223372036854775807 < (⟨(tb r).toArray⟩ : ByteArray).size + 2 := by
    have : (⟨(tb r).toArray⟩ : ByteArray).size = (tb r).length := by show (tb r).toArray.size = _; simp
    have := tb_len r
    omega
  generalize (⟨(tb r).toArray⟩ : ByteArray) = D at HW hcat hDs
  clear h hv
  go_enter Tryd.func18, Tryd.ntmps18
  go_wp2_with fail
  refine HW.out.mono ?_
  rintro e w1 ⟨rfl, hs⟩
  have HG : Hid (St w b [] k c x d w1) := hs
  have f5 := HG.out.1.f 5
  have c5 := HG.out.1.c5
  clear hs HW
  go_wp2
  go_end0
  exact ⟨rfl, HG.out.p5⟩

set_option maxHeartbeats 1000000 in
set_option maxRecDepth 100000 in
theorem takeConn_any (b : Nat) (r : List UInt8) (k c : Int) (x d : List UInt8) (w : World) (h : Rd w b r k c x d) (hr : r.length ≤ 1048576) (hv : Env b w) :
    Calls Tryd.prog 17 #[.pointer (some ⟨b, 0, none⟩)] w fun e w' => TkRet b w k (if wd r = [] then none else cn1 (numO (wd r)) (rs r) x d) e w' := by
  obtain ⟨mx, hm⟩ := hv.mx
  by_cases hw : wd r = []
  · have HW : Hid (Calls Tryd.prog 13 #[.pointer (some ⟨b, 0, none⟩)] w fun e w' => Pan e ∧ w.grownBy w' (some b)) := word_none b r k c x d w h hr mx hm hw
    rw [if_pos hw]
    clear h hm hw hv
    go_enter Tryd.func17, Tryd.ntmps17
    go_wp2_with fail
    refine HW.out.mono ?_
    rintro e w1 ⟨⟨T, v, rfl⟩, hg⟩
    go_wp2
    exact ⟨rfl, ⟨_, _, rfl⟩, hg⟩
  · have HW : Hid (Calls Tryd.prog 13 #[.pointer (some ⟨b, 0, none⟩)] w fun e w' => e = .returned (.string ⟨(wd r).toArray⟩) ∧ St w b (rs r) k c x d w') := word_some b r k c x d w h hr mx hm hw
    have HV : Hid (Env b w) := hv
    have hlt : Hid (b ≤ w.heap.size) := Nat.le_of_lt h.lt
    have hl : (⟨(wd r).toArray⟩ : ByteArray).size ≤ 1048576 := by show (wd r).toArray.size ≤ _; have := wd_len r; simp; omega
    have HN : Hid (∀ W, Env b W → Calls Tryd.prog 23 #[.string ⟨(wd r).toArray⟩] W fun e w' => NumRetZ (wd r) e ∧ Below W.heap.size W w') := fun W y => said_any _ hl W y.se y.tp
    rw [if_neg hw]
    clear h hm hw hv hl
    go_enter Tryd.func17, Tryd.ntmps17
    go_wp2_with fail
    refine HW.out.mono ?_
    rintro e w1 ⟨rfl, hs⟩
    have HV1 : Hid (Env b w1) := HV.out.step hlt.out hs.2
    go_wp2_with fail
    refine (HN.out _ HV1.out).mono ?_
    rintro e w2 ⟨⟨v, B, rfl, hz⟩, hb⟩
    have HG : Hid (St w b (rs r) k c x d w2) := hs.below hb
    have f2 := HG.out.1.f 2
    have c2 := HG.out.1.c2
    clear hs hb HW HN HV1 HV hlt
    rcases gets_numO hz with ⟨rfl, e0⟩ | ⟨rfl, e0⟩
    · have E0 : Hid (numO (wd r) = some v) := e0
      clear hz e0
      go_wp2
      go_end0
      rw [E0.out]
      exact ⟨rfl, HG.out.p2⟩
    · have E0 : Hid (numO (wd r) = none) := e0
      clear hz e0
      go_wp2
      rw [E0.out]
      exact ⟨rfl, ⟨_, _, rfl⟩, HG.out.2⟩
/-- Each of the takers. -/
theorem tk_any (N : Nat) (hN : N = 15 ∨ N = 16 ∨ N = 17 ∨ N = 18) (b : Nat) (r : List UInt8) (k c : Int) (x d : List UInt8) (w : World) (h : Rd w b r k c x d) (hr : r.length ≤ 1048576) (hv : Env b w) :
    Calls Tryd.prog N #[.pointer (some ⟨b, 0, none⟩)] w fun e w' => TkRet b w k (tkM N r c x d) e w' := by
  rcases hN with rfl | rfl | rfl | rfl
  · exact takeBox_any b r k c x d w h hr hv
  · exact takeFeed_any b r k c x d w h hr hv
  · exact takeConn_any b r k c x d w h hr hv
  · exact takeBytes_any b r k c x d w h hr hv
end Go.Proofs.YtocmcbcijmjlhaaDoor.cn
