/-
  A set's text read: the program's way.
-/
import Derived.Test.YtofpnabfecimhaaDoorNur
namespace Go.Proofs.YtofpnabfecimhaaDoor.nu
open Go.RowKit
open rg sp
set_option linter.unusedVariables false

/-- The cells of ranges. -/
def cl (ps : List Pr) : List Value := ps.flatMap fun p => [.int .i64 p.1, .int .i64 p.2]
theorem cl_snoc (ps : List Pr) (p : Pr) : cl (ps ++ [p]) = cl ps ++ [.int .i64 p.1, .int .i64 p.2] := by simp [cl]
theorem cl_len (ps : List Pr) : (cl ps).length = ps.length * 2 := by
  induction ps with
  | nil => rfl
  | cons a r ih => simp [cl] at ih ⊢; omega
theorem cl_at : ∀ (ps : List Pr) (j : Nat), j < ps.length → (cl ps)[j * 2]? = some (.int .i64 (ps.getD j no).1) ∧ (cl ps)[j * 2 + 1]? = some (.int .i64 (ps.getD j no).2)
  | [], j, h => by simp at h
  | a :: r, 0, _ => ⟨rfl, rfl⟩
  | a :: r, j + 1, h => by
    have ih := cl_at r j (by simpa using h)
    have e : cl (a :: r) = .int .i64 a.1 :: .int .i64 a.2 :: cl r := rfl
    rw [e, show (j + 1) * 2 = j * 2 + 1 + 1 from by omega, show j * 2 + 1 + 1 + 1 = (j * 2 + 1) + 1 + 1 from rfl]
    simpa using ih
/-- Ranges that a call has made. -/
def OwnP (w : World) (base : Nat) (v : Value) (ps : List Pr) : Prop := w.ownsRow base 38 2 v ps.length (cl ps)
theorem own_at {w : World} {base : Nat} {v : Value} {ps : List Pr} (h : OwnP w base v ps) : RgAt w v ps := by
  have h0 : w.ownsRow base 38 2 v ps.length (cl ps) := h
  obtain ⟨_, h2⟩ := h
  rcases h2 with ⟨rfl, hn⟩ | ⟨g, cap, cur, rfl, _⟩
  · have := List.length_eq_zero_iff.1 hn
    subst this
    exact at_nil w
  · refine ⟨_, cap, rfl, .inr ⟨g, 0, rfl, fun j hj => ?_⟩⟩
    obtain ⟨e0, e1⟩ := cl_at ps j hj
    exact ⟨by rw [Nat.zero_add, h0.cellAt (j * 2) (by omega), e0], by rw [Nat.zero_add, h0.cellAt (j * 2 + 1) (by omega), e1]⟩
theorem own_slice {w : World} {base : Nat} {v : Value} {ps : List Pr} (h : OwnP w base v ps) : ∃ a cap, v = .slice a ps.length cap := by
  obtain ⟨a, cap, hv, _⟩ := own_at h
  exact ⟨a, cap, hv⟩
def strLen : Value → Nat
  | .string s => s.size
  | _ => 0
def bOf : Value → Nat
  | .bool true => 1
  | _ => 0
/-- How far the reading has come. -/
def Stt (R : Option (List Pr)) (l : List UInt8) (acc : List Pr) (b : Value) : Prop := (b = .bool true ∧ st (cutS 44 [] l) acc = R) ∨ (b = .bool false ∧ some acc = R)
/-- What reading a set's text answers. -/
def SetRet (R : Option (List Pr)) (w : World) (base : Nat) (e : Ending) : Prop := (∃ ps v, R = some ps ∧ e = .returned (.tuple #[v, .bool true]) ∧ OwnP w base v ps ∧ ps.length ≤ 50) ∨ (R = none ∧ ∃ v, e = .returned (.tuple #[v, .bool false]) ∧ ∃ a c, v = .slice a 0 c)

set_option maxHeartbeats 4000000 in
set_option maxRecDepth 100000 in
theorem rangesOf_any (s : ByteArray) (hs : s.size ≤ 1048576) (w : World) (mx : Int) (hm : w.cell? ⟨1, 0, none⟩ = some (.int .i64 mx)) (h : Sents w) (hT : tb.TP w) :
    Calls Tryd.prog 23 #[.string s] w fun e w' => SetRet (st (cutS 44 [] s.data.toList) []) w' w.heap.size e ∧ Below w.heap.size w w' := by
  generalize hR : st (cutS 44 [] s.data.toList) [] = R
  have HR0 : Hid (Stt R s.data.toList [] (.bool true)) := .inl ⟨rfl, hR⟩
  have HM : Hid (w.cell? ⟨1, 0, none⟩ = some (.int .i64 mx)) := hm
  have HS : Hid (Sents w) := h
  have HT : Hid (tb.TP w) := hT
  obtain ⟨i0, hi, hz0, hz1, hz2⟩ := info_parts rg.infoAt
  clear hR hm h hT
  go_enter Tryd.func23, Tryd.ntmps23
  go_wp2
  go_loopw [0, 4, 5] (fun t v b wr => ∃ (T : ByteArray) (acc : List Pr), t = .string T ∧ T.size ≤ 1048576 ∧ acc.length ≤ 50 ∧ Stt R T.data.toList acc b ∧ OwnP wr w.heap.size v acc ∧ Below w.heap.size w wr) (fun t _ b _ => strLen t + bOf b)
  case atStart => exact ⟨s, [], rfl, hs, Nat.zero_le _, HR0.out, World.ownsRow_nil _ _ _ _, Below.refl _ _⟩
  case round =>
    obtain ⟨T, acc, rfl, hTs, hacc, hst, hown, hbw⟩ := hrel
    obtain ⟨av, capv, rfl⟩ := own_slice hown
    rcases hst with ⟨rfl, hst⟩ | ⟨rfl, hst⟩
    · have HST : Hid (st (cutS 44 [] T.data.toList) acc = R) := hst
      have HO : Hid (OwnP wr w.heap.size (.slice av acc.length capv) acc ∧ Below w.heap.size w wr) := ⟨hown, hbw⟩
      have HM1 : Hid (wr.cell? ⟨1, 0, none⟩ = some (.int .i64 mx)) := (hbw.cell (p := ⟨1, 0, none⟩) (World.block_lt_of_cell? w _ HM.out)).trans HM.out
      clear hst hown hbw
      go_wp2_with fail
      refine (cut1_any 44 T hTs wr mx HM1.out).mono ?_
      rintro e wd ⟨u, r, B, rfl, hcut, nd, hwd⟩
      have bd0 : Below wr.heap.size wr wd := by rw [hwd]; exact below_drewN (Below.refl _ _) nd
      have bd := HO.out.2.trans (bd0.mono HO.out.2.size)
      have ownd := ow.own_below (show wr.ownsRow w.heap.size 38 2 (.slice av acc.length capv) acc.length (cl acc) from HO.out.1) bd0
      have HMd : Hid (wd.cell? ⟨1, 0, none⟩ = some (.int .i64 mx)) := (bd.cell (p := ⟨1, 0, none⟩) (World.block_lt_of_cell? w _ HM.out)).trans HM.out
      have HSd : Hid (Sents wd) := sents_keep HS.out bd
      have HTd : Hid (tb.TP wd) := tb.keep' HT.out bd
      obtain ⟨U, hU⟩ : ∃ U : ByteArray, U = ⟨u.toArray⟩ := ⟨_, rfl⟩
      obtain ⟨RR, hRR⟩ : ∃ R : ByteArray, R = ⟨r.toArray⟩ := ⟨_, rfl⟩
      have HUL : Hid (U.data.toList = u) := (show U.data.toList = u from by rw [hU])
      have HRL : Hid (RR.data.toList = r) := (show RR.data.toList = r from by rw [hRR])
      rw [← hU, ← hRR]
      have hsz := Lib.size_eq T
      have HCU : Hid (cutS 44 [] T.data.toList = u :: (if B = true then cutS 44 [] r else []) ∧ U.size ≤ 1048576 ∧ RR.size + (if B = true then 1 else 0) < T.size + 1) := by
        rcases hcut with ⟨rfl, e, hno⟩ | ⟨rfl, e, er, hno⟩
        · rw [e] at hsz ⊢
          rw [List.length_append, List.length_cons] at hsz
          refine ⟨by rw [cutS_at 44 u [] r hno]; rfl, by rw [Lib.size_eq, HUL.out]; omega, by rw [Lib.size_eq RR, HRL.out]; simp only [if_true]; omega⟩
        · rw [e] at hsz ⊢
          refine ⟨by rw [cutS_none 44 u [] hno]; rfl, by rw [Lib.size_eq, HUL.out]; omega, by rw [Lib.size_eq RR, HRL.out, er]; simp⟩
      clear hU hRR hwd bd0 HO HM1 hcut hsz
      go_wp2_with fail
      refine (rangeOf_any U HCU.out.2.1 wd mx HMd.out HSd.out HTd.out).mono ?_
      rintro e w1 ⟨⟨x, y, OB, rfl, hrg⟩, b1⟩
      have HRG : Hid ((OB = true ∧ rg1 u = some (x, y)) ∨ (OB = false ∧ rg1 u = none)) := by rw [HUL.out] at hrg; exact hrg
      have own1 := ow.own_below ownd b1
      have bb1 := bd.trans (b1.mono bd.size)
      clear hrg b1 bd ownd HMd HSd HTd
      have bb2 := bb1.trans ((new_below w1 38 #[.int .i64 x, .int .i64 y]).mono bb1.size)
      have own2 := ow.own_below own1 (new_below w1 38 #[.int .i64 x, .int .i64 y])
      have k3 : (w1.alloc (.cells #[.int .i64 x, .int .i64 y] 38)).cell? ⟨w1.heap.size, 0, none⟩ = some (.int .i64 x) := by
        rw [cell_of_row _ _ _ _ _ _ (MapKept.heap_alloc w1 _).1]; rfl
      have k4 : (w1.alloc (.cells #[.int .i64 x, .int .i64 y] 38)).cell? ⟨w1.heap.size, 0 + 1, none⟩ = some (.int .i64 y) := by
        rw [cell_of_row _ _ _ _ _ _ (MapKept.heap_alloc w1 _).1]; rfl
      have HB2 : Hid (Below w.heap.size w (w1.alloc (.cells #[.int .i64 x, .int .i64 y] 38))) := bb2
      have hg2 : w.heap.size ≤ (w1.alloc (.cells #[.int .i64 x, .int .i64 y] 38)).heap.size := bb2.size
      cases OB
      · have HN : Hid (R = none) := by
          rcases HRG.out with ⟨h, _⟩ | ⟨_, h⟩
          · cases h
          · rw [← HST.out, HCU.out.1]; exact st_bad (.inl h)
        clear own1 own2 bb1 bb2 k3 k4 hg2
        go_wp2
        go_ret2
        exact ⟨.inr ⟨HN.out, _, rfl, _, _, rfl⟩, HB2.out⟩
      · have HRG2 : Hid (rg1 u = some (x, y)) := by
          rcases HRG.out with ⟨_, h⟩ | ⟨h, _⟩
          · exact h
          · cases h
        by_cases h50 : acc.length = 50
        · have h50b : ((acc.length : Int) == 50) = true := beq_iff_eq.2 (by omega)
          have HN : Hid (R = none) := by rw [← HST.out, HCU.out.1]; exact st_bad (.inr h50)
          clear own1 own2 bb1 bb2 k3 k4 hg2 h50
          go_wp2
          go_ret2
          exact ⟨.inr ⟨HN.out, _, rfl, _, _, rfl⟩, HB2.out⟩
        · have h50b : ((acc.length : Int) == 50) = false := beq_eq_false_iff_ne.2 (by omega)
          have HNX : Hid (st (if B = true then cutS 44 [] r else []) (acc ++ [(x, y)]) = R) := by
            have := HST.out
            rw [HCU.out.1, st_good HRG2.out h50] at this
            exact this
          have HLT : Hid (acc.length + 1 ≤ 50) := (show acc.length + 1 ≤ 50 by omega)
          have hal : acc.length ≤ 50 := hacc
          clear h50 own1 bb1 bb2 HRG HRG2 HST
          go_wp2_with (at_builtin; go_loud (refine wpList_append_own _ rfl _ _ 29 rfl w.heap.size 38 i0 _ 2 16 Tryd.underlying29 hi hz0 hz1 hz2 rfl (by decide) _ _ _ rfl (own2.alloc _) ⟨w1.heap.size + 1, 0, none⟩ 1 1 [Value.int .i64 x, Value.int .i64 y] rfl rfl (by have hh := ow.cells_new (w1.alloc (.cells #[.int .i64 x, .int .i64 y] 38)) [Value.int .i64 x, Value.int .i64 y] 38; simpa using hh) (by simp [Value.oneCell']) (by unfold maxLen; omega) (by omega) (by have := hg2; simp at this ⊢; omega) ?_); intro v' w6 hown' hgrow _)
          have hb6 := Below.grown (HB2.out.alloc hg2 _) hgrow (by have := hg2; simp at this ⊢; omega) (ow.own_lt own2)
          have HO6 : Hid (OwnP w6 w.heap.size v' (acc ++ [(x, y)]) ∧ Below w.heap.size w w6) := ⟨by unfold OwnP; rw [cl_snoc, List.length_append]; exact hown', hb6⟩
          have HSS : Hid (Stt R RR.data.toList (acc ++ [(x, y)]) (.bool B)) := by
            have := HNX.out
            rw [← HRL.out] at this
            cases B
            · exact .inr ⟨rfl, by simpa [st] using this⟩
            · exact .inl ⟨rfl, this⟩
          have HMS : Hid (RR.size ≤ 1048576 ∧ RR.size + bOf (.bool B) < T.size + 1) := by
            have := HCU.out.2.2
            cases B
            · exact ⟨by simp at this; omega, by simp [bOf] at this ⊢; omega⟩
            · exact ⟨by simp at this; omega, by simp [bOf] at this ⊢; omega⟩
          clear hown' hgrow hb6 own2 k3 k4 hg2 HB2
          go_wp2
          go_roundw
          case rel => exact ⟨RR, acc ++ [(x, y)], rfl, HMS.out.1, by rw [List.length_append]; exact HLT.out, HSS.out, HO6.out.1, HO6.out.2⟩
          case measure => have := HMS.out.2; simp only [strLen, bOf] at this ⊢; omega
    · have HE : Hid (some acc = R) := hst
      have HO : Hid (OwnP wr w.heap.size (.slice av acc.length capv) acc ∧ Below w.heap.size w wr) := ⟨hown, hbw⟩
      clear hst hown hbw
      go_wp2
      go_ret2
      exact ⟨.inl ⟨acc, _, HE.out.symm, rfl, HO.out.1, hacc⟩, HO.out.2⟩
end Go.Proofs.YtofpnabfecimhaaDoor.nu
