/-
  The contract of the program's DotUnstuff.
-/
import Derived.Test.YtcflfejdpjphjaaDoorDus
import Derived.Test.YtcflfejdpjphjaaDoorBld
namespace Go.Proofs.YtcflfejdpjphjaaDoor.dt
open Go.RowKit
set_option linter.unusedVariables false

theorem bdrew {B : Nat} {a w : World} (h : Below B a w) (n : Nat) : Below B a (w.drewN n) := ⟨h.os, h.tape, h.output, h.size, h.block⟩
theorem mk_list (s : ByteArray) : s = ⟨s.data.toList.toArray⟩ := by cases s; simp
theorem cut_len {l a r : List UInt8} {b : Bool} (h : CutIs l a r b) : a.length + r.length + (if b = true then 2 else 0) = l.length := by
  rcases h with ⟨rfl, _, _, _, _, he⟩ | ⟨rfl, _, rfl, rfl⟩
  · rw [if_pos rfl]
    have := congrArg List.length he
    simp [nl] at this
    omega
  · simp
theorem pre_len {l r : List UInt8} {b : Bool} (h : PreIs l r b) : r.length ≤ l.length := by
  rcases h with ⟨_, rfl⟩ | ⟨_, rfl, _⟩
  · simp
  · exact Nat.le_refl _
theorem next_un {l out t q : List UInt8} {r : List UInt8} (h : un 0 l = pre out (un 0 t)) (h2 : un 0 t = pre (q ++ nl) (un 0 r)) : un 0 l = pre (out ++ (q ++ nl)) (un 0 r) := by
  rw [h, h2, pre_pre]
theorem code_un {l out t : List UInt8} {c : Int} (hc : c ≠ 0) (h : un 0 l = pre out (un 0 t)) (h2 : un 0 t = (c, [])) : un 0 l = (c, []) := by
  rw [h, h2]
  unfold pre
  rw [if_neg hc]

set_option maxHeartbeats 2000000 in
set_option maxRecDepth 100000 in
theorem implUn_any (a : ByteArray) (w : World) (m : Int) (hm : w.cell? ⟨0, 0, none⟩ = some (.int .i64 m)) (hs : a.size ≤ 1048576) :
    Calls Tryd.prog 8 #[.string a] w fun e w' => UnIs a e ∧ Below w.heap.size w w' := by
  by_cases hbig : 65536 < a.size
  · have h' : (65536 : Int) < (a.size : Int) := by omega
    have HR : Hid (UnIs a (.returned (.tuple #[.string ⟨#[]⟩, .int .i64 2]))) := (show UnIs _ _ by unfold UnIs unR; rw [if_pos hbig])
    clear hbig hm
    go_enter Tryd.func8, Tryd.ntmps8
    go_wp2
    go_ret2
    exact ⟨HR.out, Below.refl _ _⟩
  have hn : a.size ≤ 65536 := by omega
  have h' : (a.size : Int) ≤ 65536 := by omega
  have hgl := World.block_lt_of_cell? _ _ hm
  have HM : Hid (∀ W, Below w.heap.size w W → W.cell? ⟨0, 0, none⟩ = some (.int .i64 m)) := fun W hW => (hW.cell (p := ⟨0, 0, none⟩) hgl).trans hm
  clear hm hgl hbig hs
  go_enter Tryd.func8, Tryd.ntmps8
  go_wp2_with fail
  go_loopw [0] (fun q wr => ∃ (t : ByteArray) (out : List UInt8), q = .string t ∧ out.length + t.size ≤ a.size ∧ bl.Bd w.heap.size w.heap.size out wr ∧ Below w.heap.size w wr ∧ Hid (un 0 a.data.toList = pre out (un 0 t.data.toList))) (fun q _ => (match q with | .string r => r.size | _ => 0))
  case atStart =>
    refine ⟨a, [], rfl, by simp, bl.fresh w, (Below.refl _ _).alloc (Nat.le_refl _) _, ?_⟩
    rw [pre_nil]
    exact (rfl : _ = _)
  case round =>
    obtain ⟨t, out, rfl, hol, hbd, hbw, HU⟩ := hrel
    have hBs := hbw.size
    have hts : t.size ≤ 65536 := by omega
    have HBD : Hid (bl.Bd w.heap.size w.heap.size out wr) := hbd
    clear hbd
    go_wp2_with fail
    refine (Tryd.strings_Cut t ⟨#[13, 10]⟩ m _ (by omega) (HM.out _ hbw)).mono ?_
    rw [show (⟨#[13, 10]⟩ : ByteArray).data.toList = nl from rfl]
    have hC := cut_is t.data.toList
    obtain ⟨ln, hln⟩ : ∃ x, x = (Lib.cut t.data.toList nl).1 := ⟨_, rfl⟩
    obtain ⟨rs, hrs⟩ : ∃ x, x = (Lib.cut t.data.toList nl).2.1 := ⟨_, rfl⟩
    obtain ⟨en, hen⟩ : ∃ x, x = (Lib.cut t.data.toList nl).2.2 := ⟨_, rfl⟩
    rw [← hln, ← hrs, ← hen] at hC ⊢
    clear hln hrs hen
    rintro e w1 ⟨rfl, q1, hw1⟩
    have HB1 : Hid (Below w.heap.size w w1) := (show Below _ _ _ by rw [hw1]; exact bdrew hbw _)
    have HD1 : Hid (bl.Bd w.heap.size w.heap.size out w1) := (show bl.Bd _ _ _ _ by rw [hw1]; exact bl.keep HBD.out (bdrew (Below.refl _ _) _))
    have hBs1 : w.heap.size ≤ w1.heap.size := HB1.out.size
    have hCl := cut_len hC
    rw [← Lib.size_eq] at hCl
    have HC : Hid (CutIs t.data.toList ln rs en) := hC
    clear hw1 hC hbw HBD
    obtain ⟨L, hL⟩ : ∃ A : ByteArray, A = ⟨ln.toArray⟩ := ⟨_, rfl⟩
    obtain ⟨R, hR⟩ : ∃ A : ByteArray, A = ⟨rs.toArray⟩ := ⟨_, rfl⟩
    have hLl : L.data.toList = ln := by rw [hL]
    have hRl : R.data.toList = rs := by rw [hR]
    rw [← hL, ← hR]
    have hRz : R.size = rs.length := by rw [Lib.size_eq, hRl]
    have HRR : Hid (R = ⟨rs.toArray⟩) := hR
    have HRL : Hid (R.data.toList = rs) := hRl
    clear hL hR hRl
    go_wp2_with fail
    refine (Tryd.strings_CutPrefix L ⟨#[46]⟩ _).mono ?_
    rw [show (⟨#[46]⟩ : ByteArray).data.toList = [46] from rfl, hLl]
    have hP := pre_is ln
    obtain ⟨q, hq⟩ : ∃ x, x = Lib.trimPrefix ln [46] := ⟨_, rfl⟩
    obtain ⟨p, hp⟩ : ∃ x, x = Lib.hasPrefix ln [46] := ⟨_, rfl⟩
    rw [← hq, ← hp] at hP ⊢
    clear hq hp
    rintro e w2 ⟨rfl, hw2⟩
    rw [hw2]
    clear hw2
    have hPl := pre_len hP
    have HP : Hid (PreIs ln q p) := hP
    obtain ⟨I, hI⟩ : ∃ A : ByteArray, A = ⟨q.toArray⟩ := ⟨_, rfl⟩
    have hIl : I.data.toList = q := by rw [hI]
    rw [← hI]
    have hIz : I.size = q.length := by rw [Lib.size_eq, hIl]
    have HII : Hid (I = ⟨q.toArray⟩) := hI
    have HIL : Hid (I.data.toList = q) := hIl
    clear hP hI hLl
    have HH : Hid (∀ W, Calls Tryd.prog 20 #[.string I, .string ⟨#[46]⟩] W fun e w' => e = .returned (.bool (decide (q.head? = some 46))) ∧ w' = W) := fun W => by
      have := Tryd.strings_HasPrefix I ⟨#[46]⟩ W
      rw [show (⟨#[46]⟩ : ByteArray).data.toList = [46] from rfl, hIl, has_dot] at this
      exact this
    have HF : Hid (p = true → ¬ (q = [] ∧ en = true ∧ rs = []) → q.head? ≠ some 46 → UnIs a (.returned (.tuple #[.string ⟨#[]⟩, .int .i64 3]))) := fun e1 e2 e3 => un_is (l := []) hn (code_un (by decide) HU.out (line_bad HC.out (by rcases HP.out with ⟨_, h⟩ | ⟨h, _⟩; exact h; rw [e1] at h; cases h) e2 e3))
    have HMo : Hid (en = false → (p = true → q.head? = some 46) → UnIs a (.returned (.tuple #[.string ⟨#[]⟩, .int .i64 18]))) := fun e1 e2 => un_is (l := []) hn (code_un (by decide) HU.out (line_more (by rw [← e1]; exact HC.out) HP.out e2))
    have HNx : Hid (en = true → (p = true → q.head? = some 46) → un 0 a.data.toList = pre (out ++ (q ++ nl)) (un 0 R.data.toList)) := fun e1 e2 => by
      rw [HRL.out]
      exact next_un HU.out (line_next (by rw [← e1]; exact HC.out) HP.out e2)
    clear hIl
    cases p with
    | true =>
      by_cases hq0 : q = []
      · have hI0 : I = ⟨#[]⟩ := by rw [HII.out, hq0]
        cases en with
        | true =>
          by_cases hr0 : rs = []
          · have hR0 : R = ⟨#[]⟩ := by rw [HRR.out, hr0]
            have HR : Hid (UnIs a (.returned (.tuple #[.string ⟨out.toArray⟩, .int .i64 0]))) := un_is hn (show un 0 a.data.toList = (0, out) by rw [HU.out, line_end (q := q) HC.out (by rcases HP.out with ⟨_, h⟩ | ⟨h, _⟩; exact h; cases h) hq0 hr0]; simp [pre])
            subst hI0 hR0
            clear hq0 hr0 HU HC HP HF HMo HNx HH HII HIL HRR HRL
            go_wp2_with fail
            refine (bl.said _ _ out _ HD1.out hBs1).mono ?_
            rintro e w3 ⟨rfl, hb3⟩
            have hb4 := HB1.out.trans hb3
            go_wp2
            go_ret2
            exact ⟨HR.out, hb4⟩
          · have hRe : R.toList.isEmpty = false := by rw [Lib.toList_data, HRL.out]; cases rs with | nil => exact absurd rfl hr0 | cons => rfl
            have HR := HF.out rfl (fun x => hr0 x.2.2) (by rw [hq0]; simp)
            have hh : decide (q.head? = some 46) = false := by rw [hq0]; rfl
            have HR' : Hid (UnIs a (.returned (.tuple #[.string ⟨#[]⟩, .int .i64 3]))) := HR
            subst hI0
            clear hq0 hr0 HU HC HP HF HMo HNx HR HII HIL HRR HRL
            go_wp2_with fail
            refine (HH.out _).mono ?_
            rintro e w3 ⟨rfl, rfl⟩
            rw [hh]
            go_wp2
            go_ret2
            exact ⟨HR'.out, HB1.out⟩
        | false =>
          have HR := HF.out rfl (fun x => by cases x.2.1) (by rw [hq0]; simp)
          have hh : decide (q.head? = some 46) = false := by rw [hq0]; rfl
          have HR' : Hid (UnIs a (.returned (.tuple #[.string ⟨#[]⟩, .int .i64 3]))) := HR
          subst hI0
          clear hq0 HU HC HP HF HMo HNx HR HII HIL HRR HRL
          go_wp2_with fail
          refine (HH.out _).mono ?_
          rintro e w3 ⟨rfl, rfl⟩
          rw [hh]
          go_wp2
          go_ret2
          exact ⟨HR'.out, HB1.out⟩
      · have hIe : I.toList.isEmpty = false := by rw [Lib.toList_data, HIL.out]; cases q with | nil => exact absurd rfl hq0 | cons => rfl
        by_cases hd : q.head? = some 46
        · have hh : decide (q.head? = some 46) = true := decide_eq_true hd
          cases en with
          | false =>
            have HR' : Hid (UnIs a (.returned (.tuple #[.string ⟨#[]⟩, .int .i64 18]))) := HMo.out rfl (fun _ => hd)
            clear hq0 HU HC HP HF HMo HNx hd
            go_wp2_with fail
            refine (HH.out _).mono ?_
            rintro e w3 ⟨rfl, rfl⟩
            rw [hh]
            go_wp2
            go_ret2
            exact ⟨HR'.out, HB1.out⟩
          | true =>
            have HN' : Hid (un 0 a.data.toList = pre (out ++ (q ++ nl)) (un 0 R.data.toList)) := HNx.out rfl (fun _ => hd)
            clear hq0 HU HC HP HF HMo HNx hd
            simp only [if_true] at hCl
            have hIb : (I.size : Int) ≤ 65536 := by omega
            go_wp2_with fail
            refine (HH.out _).mono ?_
            rintro e w3 ⟨rfl, rfl⟩
            rw [hh]
            go_wp2_with fail
            refine (bl.text w.heap.size w.heap.size out _ _ HD1.out (by rw [ByteArray.size_append]; have e2 : (⟨#[13, 10]⟩ : ByteArray).size = 2 := rfl; omega) hBs1).mono ?_
            rintro e w4 ⟨⟨v4, rfl⟩, hd4, hb4⟩
            have HA : Hid (bl.Bd w.heap.size w.heap.size (out ++ (q ++ nl)) w4 ∧ Below w.heap.size w w4) := ⟨(by rw [← HIL.out]; simpa [nl] using hd4), HB1.out.trans hb4⟩
            clear hd4 hb4
            go_wp2
            go_roundw
            case rel => exact ⟨R, out ++ (q ++ nl), rfl, by simp [nl]; omega, HA.out.1, HA.out.2, HN'⟩
            case measure => simp; omega
        · have hh : decide (q.head? = some 46) = false := decide_eq_false hd
          have HR' : Hid (UnIs a (.returned (.tuple #[.string ⟨#[]⟩, .int .i64 3]))) := HF.out rfl (fun x => hq0 x.1) hd
          clear hq0 HU HC HP HF HMo HNx hd
          go_wp2_with fail
          refine (HH.out _).mono ?_
          rintro e w3 ⟨rfl, rfl⟩
          rw [hh]
          go_wp2
          go_ret2
          exact ⟨HR'.out, HB1.out⟩
    | false =>
      cases en with
      | false =>
        have HR' : Hid (UnIs a (.returned (.tuple #[.string ⟨#[]⟩, .int .i64 18]))) := HMo.out rfl (fun x => by cases x)
        clear HU HC HP HF HMo HNx HH
        go_wp2
        go_ret2
        exact ⟨HR'.out, HB1.out⟩
      | true =>
        have HN' : Hid (un 0 a.data.toList = pre (out ++ (q ++ nl)) (un 0 R.data.toList)) := HNx.out rfl (fun x => by cases x)
        clear HU HC HP HF HMo HNx HH
        simp only [if_true] at hCl
        have hIb : (I.size : Int) ≤ 65536 := by omega
        go_wp2_with fail
        refine (bl.text w.heap.size w.heap.size out _ _ HD1.out (by rw [ByteArray.size_append]; have e2 : (⟨#[13, 10]⟩ : ByteArray).size = 2 := rfl; omega) hBs1).mono ?_
        rintro e w4 ⟨⟨v4, rfl⟩, hd4, hb4⟩
        have HA : Hid (bl.Bd w.heap.size w.heap.size (out ++ (q ++ nl)) w4 ∧ Below w.heap.size w w4) := ⟨(by rw [← HIL.out]; simpa [nl] using hd4), HB1.out.trans hb4⟩
        clear hd4 hb4
        go_wp2
        go_roundw
        case rel => exact ⟨R, out ++ (q ++ nl), rfl, by simp [nl]; omega, HA.out.1, HA.out.2, HN'⟩
        case measure => simp; omega
end Go.Proofs.YtcflfejdpjphjaaDoor.dt
