/-
  However drawn commands fall into pieces, the program's TakeCommand takes them off one by one, as they were: the law FnTake holds for every two slices of bytes; the package variables that its row lists start as the program's text lays them.
-/
import Derived.Test.YtakdpicjkbfpiaaDoorCards
import Derived.Test.YtakdpicjkbfpiaaDoorTie
import Derived.Test.YtakdpicjkbfpiaaDoorTke
import Derived.Test.YtakdpicjkbfpiaaDoorArg
import Derived.WalkKit
import Derived.ProofKit
import Derived.OpenShut
import Derived.ShutString
import Derived.OpenVars
import Derived.ChangeOld
import Derived.Below
import Derived.Deep.DeepHandedRow
import Derived.Deep.DeepWitnessRowRef
import Derived.LaidMore
import Derived.Lib.LaidTab
namespace Go.Proofs.YtakdpicjkbfpiaaDoor.fnTake
open Go.ChangeShapes Go.WideShapes Go.ChangeAt Go.RowKit
open Go.ChangeMaps (open_string shut_string)
set_option linter.unusedVariables false

theorem own : ownKnob Tryd.prog.godebug = none := by kernel_rfl
theorem laidOut : laidOutB Tryd.prog = true := by kernel_rfl

set_option maxHeartbeats 4000000 in
set_option maxRecDepth 100000 in
theorem walk (a0 : Option Addr) (len0 cap0 : Nat) (z0 : List Int) (a1 : Option Addr) (len1 cap1 : Nat) (z1 : List Int) (w : World) (w0 : ag.IsRow .u8 w a0 len0 cap0 z0) (w1 : ag.IsRow .u8 w a1 len1 cap1 z1) (m : Int) (hm : w.cell? ⟨0, 0, none⟩ = some (.int .i64 m)) :
    Calls Tryd.prog 5 #[.slice a0 len0 cap0, .slice a1 len1 cap1] w fun e w' => e = .returned (.bool true) ∧ Below w.heap.size w w' := by
  have HM : Hid (w.cell? ⟨0, 0, none⟩ = some (.int .i64 m)) := hm
  have HW0 : Hid (ag.IsRow .u8 w a0 len0 cap0 z0) := w0
  have HW1 : Hid (ag.IsRow .u8 w a1 len1 cap1 z1) := w1
  clear hm w0 w1
  by_cases hlen : 1048576 < len0
  · have hlen' : (1048576 : Int) < (len0 : Int) := by omega
    go_enter Tryd.func5, Tryd.ntmps5
    go_wp2
    go_ret
    exact ⟨rfl, Below.refl _ _⟩
  have hlen' : decide ((1048576 : Int) < (len0 : Int)) = false := decide_eq_false (by omega)
  by_cases hlen1 : 1048576 < len1
  · have hlen1' : decide ((1048576 : Int) < (len1 : Int)) = true := decide_eq_true (by omega)
    go_enter Tryd.func5, Tryd.ntmps5
    go_wp2
    go_ret
    exact ⟨rfl, Below.refl _ _⟩
  have hlen1' : decide ((1048576 : Int) < (len1 : Int)) = false := decide_eq_false (by omega)
  have HB0 : Hid (se.Bytes w a0 len0) := ag.row_bytes HW0.out (by omega)
  have HB1 : Hid (ag.Bytes w a1 len1) := ag.row_bytes HW1.out (by omega)
  clear HW0 HW1
  have HMK : Hid (∀ W, Below w.heap.size w W → W.cell? ⟨0, 0, none⟩ = some (.int .i64 m)) := fun W hW => (hW.cell (p := ⟨0, 0, none⟩) (World.block_lt_of_cell? w _ HM.out)).trans HM.out
  have HAT : Hid (∀ (W : World) (i : Nat), Below w.heap.size w W → i ≤ 1000000 → Calls Tryd.prog 14 #[.slice a1 len1 cap1, .int .i64 i, .int .i64 9] W fun e w' => (∃ z : Int, e = .returned (.int .i64 z) ∧ 0 ≤ z ∧ z < 9) ∧ Below W.heap.size W w') := fun W i hW hi => ag.at_any W a1 len1 cap1 i 9 (ag.bytes_below HB1.out hW) (by omega) hi (by omega) (by omega)
  clear HM HB1
  go_enter Tryd.func5, Tryd.ntmps5
  go_wp2_with fail
  refine (tk.linesOf_any w a0 len0 cap0 HB0.out).mono ?_
  rintro e w1 ⟨⟨v1, L, rfl, hLn, hLt, hown1⟩, b1⟩
  obtain ⟨n, hn⟩ : ∃ n, n = L.length := ⟨_, rfl⟩
  have HN : Hid (n = L.length) := hn
  have hn18 : n ≤ 18 := by omega
  have HLT : Hid (∀ s ∈ L, tk.Lt 64 s) := hLt
  have HTX : Hid (ky.TextsAt w1 v1 L) := ky.own_texts hown1
  obtain ⟨av, capv, rfl, hcells⟩ := HTX.out
  have HCE : Hid (L = [] ∨ ∃ b off, av = some ⟨b, off, none⟩ ∧ ∀ j, j < L.length → w1.cell? ⟨b, off + j, none⟩ = some (.string (L.getD j ky.nt))) := hcells
  rw [← hn] at HTX ⊢
  clear hn hLt hown1 hcells HB0 hLn hlen hlen1
  go_wp2
  go_loopw [6, 7] (fun t i wr => ∃ (k : Nat) (A : ByteArray), k ≤ n ∧ i = .int .i64 k ∧ t = .string A ∧ A.size ≤ 66 * k ∧ A.data.toList = tk.cat (tk.fl (L.take k)) ∧ wr = w1) (fun _ i _ => n - (intOf i).toNat)
  case atStart => exact ⟨0, ⟨#[]⟩, Nat.zero_le _, rfl, rfl, by show 0 ≤ _; omega, rfl, rfl⟩
  case round =>
    obtain ⟨k, A, hk, rfl, rfl, hAs, hA, hwr⟩ := hrel
    have hwr := hwr.symm
    subst hwr
    have HA : Hid (A.data.toList = tk.cat (tk.fl (L.take k))) := hA
    clear hA
    by_cases hlt : k < n
    · have hlt' : (k : Int) < (n : Int) := by omega
      have hk0 : (0 : Int) ≤ (k : Int) := by omega
      have HKL : Hid (k < L.length) := by rw [← HN.out]; exact hlt
      obtain ⟨x, hx⟩ : ∃ x, x = L.getD k ky.nt := ⟨_, rfl⟩
      have HX : Hid (x = L.getD k ky.nt) := hx
      have hxs : x.size ≤ 64 := by
        rw [hx, List.getD_eq_getElem?_getD, List.getElem?_eq_getElem HKL.out]
        exact (HLT.out _ (List.getElem_mem _)).1
      rcases HCE.out with e | ⟨b, off, rfl, hc⟩
      · have := HKL.out; rw [e] at this; simp at this
      have c0 : w1.cell? ⟨b, off + k, none⟩ = some (.string x) := by rw [hx]; exact hc k HKL.out
      clear hx hc
      go_wp2
      go_roundw
      case rel =>
        refine ⟨k + 1, A ++ (x ++ ⟨#[13, 10]⟩), by omega, by go_num, rfl, ?_, tk.cat_next HKL.out HX.out HA.out, by trivial⟩
        rw [ByteArray.size_append, ByteArray.size_append]
        show A.size + (x.size + 2) ≤ _
        omega
      case measure => simp [intOf]; omega
    · have hkn : k = n := by omega
      subst hkn
      have HA2 : Hid (A.data.toList = tk.cat (tk.fl L)) := by
        have := HA.out
        rw [HN.out, List.take_length] at this
        exact this
      clear HA hlt hk
      obtain ⟨T, hT⟩ : ∃ T, T = A.size := ⟨_, rfl⟩
      have hTs : T ≤ 1188 := by omega
      clear hAs
      go_wp2
      go_loopw [6, 8, 9, 10] (fun t g bf i wr => ∃ (j q : Nat) (C B : ByteArray), j + C.size ≤ T ∧ i = .int .i64 j ∧ t = .string C ∧ bf = .string B ∧ q ≤ k ∧ B.size ≤ 121 ∧ (C.size = 0 → B.size = 0 ∧ q = k) ∧ B.data.toList ++ C.data.toList = tk.cat (tk.fl (L.drop q)) ∧ ky.OwnT wr w1.heap.size g (L.take q) ∧ Below w1.heap.size w1 wr) (fun t _ _ _ _ => tk.strLen t)
      case atStart =>
        refine ⟨0, 0, A, ⟨#[]⟩, by omega, rfl, rfl, rfl, Nat.zero_le _, by decide, fun e => ⟨rfl, ?_⟩, by rw [List.drop_zero]; exact HA2.out, ow.own_empty w1 _, (Below.refl _ _).alloc (Nat.le_refl _) _⟩
        have h2 := HA2.out
        have h3 : A.data.toList = [] := List.eq_nil_of_length_eq_zero (by rw [← Lib.size_eq]; exact e)
        rw [h3] at h2
        have h4 : L = [] := by
          cases L with
          | nil => rfl
          | cons a r => simp [tk.fl, tk.cat] at h2
        rw [HN.out, h4]
        rfl
      case round =>
        obtain ⟨j, q, C, B, hjC, rfl, rfl, rfl, hq, hBs, hC0, hBC, hown, hbw⟩ := hrel
        have HC0 : Hid (C.size = 0 → B.size = 0 ∧ q = k) := hC0
        have HBC : Hid (B.data.toList ++ C.data.toList = tk.cat (tk.fl (L.drop q))) := hBC
        have HOWN : Hid (ky.OwnT wr w1.heap.size u8 (L.take q)) := hown
        clear hC0 hBC hown hT HA2
        by_cases hne : C.size = 0
        · obtain ⟨e1, e2⟩ := HC0.out hne
          subst e2
          obtain ⟨f1, f2, f3⟩ := tk.empty_of hne
          obtain ⟨g1, g2, g3⟩ := tk.empty_of e1
          have HT2 : Hid (ky.TextsAt wr u8 L) := by
            have := ky.own_texts HOWN.out
            rw [HN.out, List.take_length] at this
            exact this
          have HT1 : Hid (ky.TextsAt wr (.slice av q capv) L) := ky.texts_below HTX.out hbw
          have HLL : Hid (L.length ≤ 1048576) := by rw [← HN.out]; exact (show q ≤ 1048576 by omega)
          have b2 := b1.trans (hbw.mono b1.size)
          clear hne e1 HC0 HBC HOWN hbw
          go_wp2_with fail
          refine (tk.sameTexts_any _ _ L wr HT2.out HT1.out HLL.out).mono ?_
          rintro e w3 ⟨rfl, hb3⟩
          have b4 := b2.trans (hb3.mono b2.size)
          clear hb3 b2
          go_wp2
          go_ret
          exact ⟨rfl, b4⟩
        · obtain ⟨f1, f2, f3⟩ := tk.some_of hne
          clear HC0
          go_wp2_with fail
          refine (HAT.out wr j (b1.trans (hbw.mono b1.size)) (by omega)).mono ?_
          rintro e w2 ⟨⟨z, rfl, z0, z1⟩, hb2⟩
          have b2 := hbw.trans (hb2.mono hbw.size)
          have HOWN2 : Hid (ky.OwnT w2 w1.heap.size u8 (L.take q)) := ow.own_below HOWN.out hb2
          obtain ⟨d, hd, hd1, hd2, hd3⟩ : ∃ d : Nat, min (C.size : Int) (1 + z) = (d : Int) ∧ 1 ≤ d ∧ d ≤ 9 ∧ d ≤ C.size := ⟨(min (C.size : Int) (1 + z)).toNat, by omega, by omega, by omega, by omega⟩
          obtain ⟨P, hP⟩ : ∃ P, P = C.extract 0 d := ⟨_, rfl⟩
          obtain ⟨R, hR⟩ : ∃ R, R = C.extract d C.size := ⟨_, rfl⟩
          have hPs : P.size = d := by rw [hP, ByteArray.size_extract]; omega
          have hRs : R.size = C.size - d := by rw [hR, ByteArray.size_extract]; omega
          have HS1 : ∀ wx : World, (Instr.slice 9 (.string C) none (some (.int .i64 (d : Int))) none).run Tryd.prog wx = .ok (.string P) wx := fun wx => by
            rw [run_slice_string_to_if wx 9 C .i64 _ Tryd.underlying9, if_pos ⟨by omega, by omega⟩, Int.toNat_natCast, hP]
          have HS2 : ∀ wx : World, (Instr.slice 9 (.string C) (some (.int .i64 (d : Int))) none none).run Tryd.prog wx = .ok (.string R) wx := fun wx => by
            rw [run_slice_string_from_if wx 9 C .i64 _ Tryd.underlying9, if_pos ⟨by omega, by omega⟩, Int.toNat_natCast, hR]
          have HBR : Hid ((B ++ P).data.toList ++ R.data.toList = tk.cat (tk.fl (L.drop q))) := by
            rw [hP, hR, tk.ext_cut hd3]
            exact HBC.out
          clear hP hR HBC HOWN hb2 hbw
          go_wp2
          clear HS1 HS2 hd hne f1 f2 f3 z0 z1
          go_loopw [8, 9] (fun g bf wq => ∃ (q : Nat) (B : ByteArray), bf = .string B ∧ q ≤ k ∧ B.size ≤ 130 ∧ B.data.toList ++ R.data.toList = tk.cat (tk.fl (L.drop q)) ∧ ky.OwnT wq w1.heap.size g (L.take q) ∧ Below w1.heap.size w1 wq) (fun _ bf _ => tk.strLen bf)
          case atStart => exact ⟨q, B ++ P, rfl, hq, by rw [ByteArray.size_append]; omega, HBR.out, HOWN2.out, b2⟩
          case round =>
            clear HBR HOWN2 b2 hq hBs hPs
            obtain ⟨q2, D, rfl, hq2, hDs, hDR, hown, hbw⟩ := hrel
            have HOWN : Hid (ky.OwnT wr w1.heap.size u8 (L.take q2)) := hown
            have HDR : Hid (D.data.toList ++ R.data.toList = tk.cat (tk.fl (L.drop q2))) := hDR
            have hbw0 := b1.trans (hbw.mono b1.size)
            rcases tk.part2 (by rw [← HN.out]; exact hq2) hDR HLT.out with ⟨hi, hs, h0⟩ | ⟨s, r, hqk, hls, hB, hr, htk⟩
            · have HC : Hid (Calls Tryd.prog 7 #[.string D] wr fun e w' => e = .returned (.tuple #[.string ⟨#[]⟩, .string D, .int .i64 18]) ∧ Below wr.heap.size wr w') := tk.take_more D wr m (HMK.out wr hbw0) (by omega) hi
              have H0 : Hid (R.size = 0 → D.size = 0 ∧ q2 = k) := by rw [HN.out]; exact h0
              have hDD : (D.toList == D.toList) = true := by simp
              have hDD2 : (D.toList != D.toList) = false := by simp
              clear hown hDR hi h0 hbw0
              go_wp2_with fail
              refine HC.out.mono ?_
              rintro e w3 ⟨rfl, hb3⟩
              have b3 := hbw.trans (hb3.mono hbw.size)
              have HO3 : Hid (ky.OwnT w3 w1.heap.size u8 (L.take q2)) := ow.own_below HOWN.out hb3
              clear HC hb3 hbw HOWN
              go_wp2
              go_roundw
              case rel => exact ⟨j + 1, q2, R, D, by omega, by go_num, rfl, rfl, hq2, hs, H0.out, HDR.out, HO3.out, b3⟩
              case measure => simp [tk.strLen]; omega
            · have HC : Hid (Calls Tryd.prog 7 #[.string D] wr fun e w' => e = .returned (.tuple #[.string s, .string r, .int .i64 0]) ∧ Below wr.heap.size wr w') := tk.take_one D s r wr m (HMK.out wr hbw0) (by omega) hB hls.2
              have HTK : Hid (L.take (q2 + 1) = L.take q2 ++ [s]) := htk
              have HRR : Hid (r.data.toList ++ R.data.toList = tk.cat (tk.fl (L.drop (q2 + 1)))) := hr
              have hrs : r.size < D.size := by
                have e1 := Lib.size_eq D
                have e2 := Lib.size_eq r
                rw [hB] at e1
                simp only [List.length_append, List.length_cons] at e1
                omega
              have hqk2 : q2 < k := by rw [HN.out]; exact hqk
              have HTL : Hid ((L.take q2).length = q2) := by rw [List.length_take]; exact (show _ = _ by omega)
              have hgq : ((q2 : Int) == (k : Int)) = false := beq_eq_false_iff_ne.2 (by omega)
              obtain ⟨i0, hi, hz0, hz1, hz2⟩ := info_parts tk.infoStr
              clear hown hDR hB hr htk hqk hls hbw0
              go_wp2_with fail
              refine HC.out.mono ?_
              rintro e w3 ⟨rfl, hb3⟩
              have b3 := hbw.trans (hb3.mono hbw.size)
              have hsz3 := b3.size
              have hown3 : w3.ownsRow w1.heap.size 9 1 u8 q2 ((L.take q2).map Value.string) := by
                have := ow.own_below HOWN.out hb3
                rw [HTL.out] at this
                exact this
              obtain ⟨ag8, cg8, hu8⟩ : ∃ a c, u8 = .slice a q2 c := by
                rcases hown3.2 with ⟨e, h0⟩ | ⟨g, cap, cur, e, _⟩
                · exact ⟨none, 0, by rw [e, h0]⟩
                · exact ⟨_, cap, e⟩
              subst hu8
              clear HC hb3 hbw HOWN
              go_wp2_with (at_builtin; refine wpList_append_own _ rfl _ _ 25 rfl w1.heap.size 9 i0 (.string ByteArray.empty) 1 16 Tryd.underlying25 hi hz0 hz1 hz2 rfl (by decide) _ _ _ rfl (hown3.alloc _) ⟨w3.heap.size, 0, none⟩ 1 1 [.string s] rfl rfl (ow.cells_new _ [.string s] _) (by intro u hu; simp at hu; subst hu; rfl) (by unfold maxLen; omega) (by omega) (by simp; omega) ?_; intro v' w5 hown5 hgrow5 hnil5)
              have HE : Hid (ky.OwnT w5 w1.heap.size v' (L.take (q2 + 1)) ∧ Below w1.heap.size w1 w5) := by
                refine ⟨?_, Below.grown (b3.alloc hsz3 _) hgrow5 (by simp; omega) (ow.own_lt hown3)⟩
                unfold ky.OwnT
                rw [HTK.out, List.map_append, List.length_append, HTL.out]
                exact hown5
              clear hown5 hgrow5 hnil5 hown3 b3 hsz3
              go_wp2
              go_roundw
              case rel => exact ⟨q2 + 1, r, rfl, by omega, by omega, HRR.out, HE.out.1, HE.out.2⟩
              case measure => simp [tk.strLen]; omega

set_option maxRecDepth 100000 in
theorem contract (H : Type) (enc : TypeId × Value → H) (W : World) (base : Nat) (args : Array Value) (ds gs : List (DataW H)) (before : List MemPlace)
    (hval : ∀ (j : Nat) t v, Tryd.f5.params[j]? = some t → args[j]? = some v → Value.okWide Tryd.prog W .any base t v)
    (hW : DataW.Whole enc Tryd.prog Tryd.f5.params.toList Rows.fnTakeSpec.vars false W args.toList ds gs before) (hL : laidMetH Tryd.prog Rows.fnTakeRow.laid W) (hsh : W.ShapedOpen Tryd.prog) :
    Calls Tryd.prog 5 args W fun e W' => ∃ v, e = .returned v ∧ Rows.fnTakeSpec.post enc Tryd.prog Tryd.f5 false true false false W args v W' := by
  have hW' := hW
  obtain ⟨p, q, hA0, hV, rfl, hfz, hnd⟩ := hW
  have hA : DataW.TrodAll enc Tryd.prog W 0 (fun _ => true) true Tryd.f5.params.toList args.toList ds p := hA0
  rw [Tryd.params5] at hA hval
  obtain ⟨v0, vs0, d0, ds0, p0, q0, hargs0, rfl, rfl, h0, r0⟩ := trodAll_cons hA
  obtain ⟨v1, vs1, d1, ds1, p1, q1, hargs1, rfl, rfl, h1, r1⟩ := trodAll_cons r0
  obtain ⟨hnil, rfl, rfl⟩ := trodAll_nil r1
  obtain rfl : args = #[v0, v1] := by cases args; simp_all
  obtain ⟨a0, len0, cap0, rfl⟩ := okWide_slice Tryd.underlying30 (hval 0 30 v0 rfl rfl)
  have k0 := h0
  have lt0 : ∀ x ∈ p0, x.block < W.heap.size := by obtain ⟨m, hm⟩ := k0; exact DataW.trod_lt m _ _ _ hm
  obtain ⟨z0, w0⟩ : ∃ zs, ag.IsRow .u8 W a0 len0 cap0 zs := by
    obtain ⟨fuel, hf⟩ := h0
    rcases open_ints Tryd.underlying30 Tryd.underlying5 (by kernel_rfl) hf with ⟨hcs, _⟩ | ⟨x, l, c, zs, hcs, _, hl, hm, hz, _, hcell, hwz⟩
    · simp [Value.cells] at hcs
      obtain ⟨rfl, rfl, rfl⟩ := hcs
      exact ⟨[], .inl ⟨rfl, rfl, rfl, rfl⟩⟩
    · simp [Value.cells] at hcs
      obtain ⟨rfl, rfl, rfl⟩ := hcs
      exact ⟨zs, .inr ⟨_, rfl, hl, hm, by simpa using hz, hcell, hwz⟩⟩
  obtain ⟨a1, len1, cap1, rfl⟩ := okWide_slice Tryd.underlying30 (hval 1 30 v1 rfl rfl)
  have k1 := h1
  have lt1 : ∀ x ∈ p1, x.block < W.heap.size := by obtain ⟨m, hm⟩ := k1; exact DataW.trod_lt m _ _ _ hm
  obtain ⟨z1, w1⟩ : ∃ zs, ag.IsRow .u8 W a1 len1 cap1 zs := by
    obtain ⟨fuel, hf⟩ := h1
    rcases open_ints Tryd.underlying30 Tryd.underlying5 (by kernel_rfl) hf with ⟨hcs, _⟩ | ⟨x, l, c, zs, hcs, _, hl, hm, hz, _, hcell, hwz⟩
    · simp [Value.cells] at hcs
      obtain ⟨rfl, rfl, rfl⟩ := hcs
      exact ⟨[], .inl ⟨rfl, rfl, rfl, rfl⟩⟩
    · simp [Value.cells] at hcs
      obtain ⟨rfl, rfl, rfl⟩ := hcs
      exact ⟨zs, .inr ⟨_, rfl, hl, hm, by simpa using hz, hcell, hwz⟩⟩
  clear hA0
  simp only [List.append_nil] at hW'
  have hLL : laidMet Tryd.prog Rows.fnTakeRow.laid W := hL
  obtain ⟨ps, hLV, _⟩ := hLL
  obtain ⟨rfl, rfl⟩ := trodVars_none hV
  obtain ⟨m, hm⟩ := Tryd.laysM219.s1_3 W hsh
  refine (walk a0 len0 cap0 z0 a1 len1 cap1 z1 W w0 w1 m hm).mono fun e W' ⟨he, bel⟩ => ?_
  subst he
  exact ⟨_, rfl, _, _, _, [], _, [], hW', trodAll_cons_mk (shut_bool Tryd.underlying4 _) trodAll_mk0, (trodAll_cons_mk (Below.trod laidOut (by kernel_rfl) (of_decide_eq_true (by kernel_rfl)) k0 bel lt0) (trodAll_cons_mk (Below.trod laidOut (by kernel_rfl) (of_decide_eq_true (by kernel_rfl)) k1 bel lt1) trodAll_mk0)), rfl, bel.frame _, fun h => by cases h⟩
set_option maxRecDepth 100000 in
theorem laid_met (os : Os) : laidMet Tryd.prog Rows.fnTakeRow.laid ((World.doorLaid Tryd.prog 72 os).forCall (fun _ _ => 0) ⟨#[], #[Value.slice none 0 0, Value.slice none 0 0], []⟩).memory :=
  laidMet_of_run' 8 (by kernel_rfl) (by kernel_rfl)
theorem reads (os : Os) {H : Type} (enc : TypeId × Value → H) : ∃ places, DataW.whole enc Tryd.prog ((World.doorLaid Tryd.prog 72 os).forCall (fun _ _ => 0) ⟨#[], #[Value.slice none 0 0, Value.slice none 0 0], []⟩).memory Tryd.f5.params.toList Rows.fnTakeSpec.vars false #[Value.slice none 0 0, Value.slice none 0 0].toList 8 = some ([.nil, .nil], [], places) :=
  ⟨[], by kernel_rfl⟩

set_option maxRecDepth 100000 in
theorem lifted (os : Os) (started : os.Started) (H : Type) (enc : TypeId × Value → H) (F : Stop.Interp) :
    ReturnsInHanded {} Tryd.checked os 5 .any ((OpenSpec.ofChange Rows.fnTakeSpec).preRow enc Tryd.prog Tryd.f5 Rows.fnTakeRow.domain false Rows.fnTakeRow.laid) (((OpenSpec.ofChange Rows.fnTakeSpec).at F).post enc Tryd.prog Tryd.f5 false true false false) := by
  obtain ⟨places, hx⟩ := reads os enc
  refine returnsInHanded_of_row (C := Tryd.checked) (s := OpenSpec.ofChange Rows.fnTakeSpec) own started (by kernel_rfl) Tryd.func5
    (witness_row_atRef (enc := enc) (C := Tryd.checked) false (World.doorLaid Tryd.prog 72 os) #[Value.slice none 0 0, Value.slice none 0 0] rfl (by kernel_rfl) (by kernel_rfl) (by kernel_rfl)
      (OpenSpec.preRow_of_cond 8 hx (by kernel_rfl) (fun k hk => by cases hk) (by kernel_rfl) (laid_met os))) ?_
  intro W base args ds gs before hval hW _ _ _ hL hsh _
  exact contract H enc W base args ds gs before hval hW hL hsh

theorem said : Rows.FnTakeSaid :=
  OpenClaim.holds_of_cond 5 Tryd.f5 rfl rfl rfl rfl rfl rfl rfl ⟨rfl, rfl, rfl, rfl, rfl⟩ rfl rfl rfl rfl rfl (by kernel_rfl) Tryd.func5 (by kernel_rfl)
    (of_decide_eq_true (by kernel_rfl)) (by unfold Func.isWrapper; first | (rw [if_pos (by decide +kernel)]; kernel_rfl) | (rw [if_neg (by decide +kernel)]; exact ⟨rfl, rfl⟩))
    (fun os started H enc _ F => by rw [OpenClaim.pre_eq_preRow]; exact lifted os started H enc F)

theorem plain (f : FuncId) (fn : Func) (hf : Tryd.pinned.checked.prog.funcNamed Rows.fnTakeRow.func = some f) (hfn : Tryd.pinned.checked.prog.funcs[f]? = some fn) :
    true = Tryd.pinned.checked.prog.looks [] ∧ ∀ (j : Nat) t, fn.params[j]? = some t → Tryd.pinned.checked.prog.wantsStandIn t = false := by
  obtain rfl : f = 5 := Option.some.inj ((show Tryd.prog.funcNamed Rows.fnTakeRow.func = some 5 by kernel_rfl).symm.trans hf) |>.symm
  obtain rfl : fn = Tryd.f5 := (Option.some.inj (Tryd.func5.symm.trans hfn)).symm
  refine ⟨by kernel_rfl, fun j t ht => ?_⟩
  rw [Tryd.params5] at ht
  obtain rfl : t = 30 := by simpa using Array.mem_of_getElem? ht
  exact (show Tryd.prog.wantsStandIn 30 = false by kernel_rfl)

theorem card : Rows.FnTakeCardSaid :=
  Claim7.holds_tied_plain_at .later [] _ _ _ _ said (fun _ h => by cases h) (by kernel_rfl) (fun _ h => by cases h) fnTake_row_tie rfl ⟨rfl, rfl⟩ (by kernel_rfl) rfl plain (by kernel_rfl)
end Go.Proofs.YtakdpicjkbfpiaaDoor.fnTake
namespace Go.Proofs.YtakdpicjkbfpiaaDoor
theorem fnTake_card : Rows.FnTakeCardSaid := fnTake.card
#print axioms fnTake_card
end Go.Proofs.YtakdpicjkbfpiaaDoor
