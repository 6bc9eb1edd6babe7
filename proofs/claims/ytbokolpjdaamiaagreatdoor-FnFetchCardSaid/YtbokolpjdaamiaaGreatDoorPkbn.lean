/-
  What a fetch tells of a mail: an item's text, the program's way.
-/
import Derived.Test.YtbokolpjdaamiaaGreatDoorPkbm

namespace Go.Proofs.YtbokolpjdaamiaaGreatDoor.fq
open Go.RowKit
open gr bl
open ky (TextsAt nt)
set_option linter.unusedVariables false

def TxRet (x : Fm) (i : It) (e : Ending) : Prop := (∃ t, TI x i = some t ∧ e = .returned (.tuple #[.string ⟨t.toArray⟩, .int .i64 0])) ∨ (TI x i = none ∧ ∃ O : ByteArray, e = .returned (.tuple #[.string O, .int .i64 3]))
theorem txRet_ok {x : Fm} {i : It} {t : B} (h : TI x i = some t) {O : ByteArray} (hO : O = ⟨t.toArray⟩) : TxRet x i (.returned (.tuple #[.string O, .int .i64 0])) := .inl ⟨t, h, by rw [hO]⟩
/-- The two variables at the entry. -/
structure Ent (w W : World) (X Y : ByteArray) (u f : Int) (T : ByteArray) : Prop where
  b : Below w.heap.size w W
  k0 : W.cell? ⟨w.heap.size, 0, none⟩ = some (.string X)
  k1 : W.cell? ⟨w.heap.size, 1, none⟩ = some (.string Y)
  m0 : W.cell? ⟨w.heap.size + 1, 0, none⟩ = some (.int .i64 u)
  m1 : W.cell? ⟨w.heap.size + 1, 1, none⟩ = some (.int .i64 f)
  m2 : W.cell? ⟨w.heap.size + 1, 2, none⟩ = some (.string T)
theorem ent_new (w : World) (X Y : ByteArray) (u f : Int) (T : ByteArray) : Ent w ((w.alloc (.cells #[.string X, .string Y] 63)).alloc (.cells #[.int .i64 u, .int .i64 f, .string T] 30)) X Y u f T := by
  have hs : (w.alloc (.cells #[.string X, .string Y] 63)).heap.size = w.heap.size + 1 := by simp
  have b0 : Below w.heap.size w (w.alloc (.cells #[.string X, .string Y] 63)) := (Below.refl _ _).alloc (Nat.le_refl _) _
  have b1 : Below (w.alloc (.cells #[.string X, .string Y] 63)).heap.size (w.alloc (.cells #[.string X, .string Y] 63)) ((w.alloc (.cells #[.string X, .string Y] 63)).alloc (.cells #[.int .i64 u, .int .i64 f, .string T] 30)) := (Below.refl _ _).alloc (Nat.le_refl _) _
  have k0 := cell3 w #[.string X, .string Y] 63 0 _ rfl
  have k1 := cell3 w #[.string X, .string Y] 63 1 _ rfl
  have m0 := cell3 (w.alloc (.cells #[.string X, .string Y] 63)) #[.int .i64 u, .int .i64 f, .string T] 30 0 _ rfl
  have m1 := cell3 (w.alloc (.cells #[.string X, .string Y] 63)) #[.int .i64 u, .int .i64 f, .string T] 30 1 _ rfl
  have m2 := cell3 (w.alloc (.cells #[.string X, .string Y] 63)) #[.int .i64 u, .int .i64 f, .string T] 30 2 _ rfl
  rw [hs] at m0 m1 m2
  exact ⟨b0.trans (b1.mono b0.size), kq b1 k0, kq b1 k1, m0, m1, m2⟩
theorem Ent.more {w W W' : World} {X Y : ByteArray} {u f : Int} {T : ByteArray} (h : Ent w W X Y u f T) (hb : Below W.heap.size W W') : Ent w W' X Y u f T :=
  ⟨h.b.trans (hb.mono h.b.size), kq hb h.k0, kq hb h.k1, kq hb h.m0, kq hb h.m1, kq hb h.m2⟩
theorem cat2 {a b : B} : (⟨a.toArray⟩ : ByteArray) ++ ⟨b.toArray⟩ = ⟨(a ++ b).toArray⟩ := dz.app a b

set_option maxHeartbeats 4000000 in
set_option maxRecDepth 100000 in
theorem text_any (x : Fm) (T : ByteArray) (hT : x.l = T.data.toList) (hx : x.Ok) (i : It) (w : World) (hP : tb.TP w) (hF : tb.TF w) (mx : Int) (hm : w.cell? ⟨1, 0, none⟩ = some (.int .i64 mx)) :
    Calls Tryz.prog 36 #[.agg #[.string (nmB i), .string (paB i)], .agg #[.int .i64 (x.u : Int), .int .i64 (x.f : Int), .string T]] w fun e w' => TxRet x i e ∧ Below w.heap.size w w' := by
  have hl4 : x.l.length = T.size := by rw [hT, ← Lib.size_eq]
  have hTs : T.size ≤ 4000 := by have := hx.l; omega
  have hux := hx.u
  have hfx := hx.f
  have HEN := ent_new w (nmB i) (paB i) (x.u : Int) (x.f : Int) T
  generalize hW0 : (w.alloc (.cells #[.string (nmB i), .string (paB i)] 63)).alloc (.cells #[.int .i64 (x.u : Int), .int .i64 (x.f : Int), .string T] 30) = W0 at HEN
  have HW0 : Hid ((w.alloc (.cells #[.string (nmB i), .string (paB i)] 63)).alloc (.cells #[.int .i64 (x.u : Int), .int .i64 (x.f : Int), .string T] 30) = W0) := hW0
  clear hW0
  have HIT : Hid (∀ (n : Nat) W, n ≤ 4294967295 → Below w.heap.size w W → Calls Tryz.prog 64 #[.int .i64 (n : Int)] W fun e w' => e = .returned (.string ⟨(Lib.decDigits n).toArray⟩) ∧ Below W.heap.size W w') := fun n W hn hW => dz.itoa_any n hn W (tb.keep' hP hW)
  rcases It.four i with rfl | rfl | rfl | ⟨pk, j, rfl⟩
  · skip
    have HFT : Hid (∀ W, Below w.heap.size w W → Calls Tryz.prog 63 #[.int .i64 (x.f : Int)] W fun e w' => e = .returned (.tuple #[.string (fg.FT x.f), .int .i64 0]) ∧ Below W.heap.size W w') := fun W hW => by
      have := fg.implFT (x.f : Int) W (tb.keepS hF hW)
      rwa [show fg.FR (x.f : Int) = (fg.FT x.f, 0) by unfold fg.FR; rw [if_pos (by omega)]; rfl] at this
    have HE : Hid ((⟨#[70, 76, 65, 71, 83, 32]⟩ : ByteArray) ++ fg.FT x.f = ⟨(ftx x).toArray⟩) := (show _ = _ by
      rw [show (⟨#[70, 76, 65, 71, 83, 32]⟩ : ByteArray) = ⟨([70, 76, 65, 71, 83, 32] : List UInt8).toArray⟩ from rfl, show fg.FT x.f = ⟨(fg.FT x.f).data.toList.toArray⟩ by simp, cat2]
      unfold ftx kFl
      simp)
    have hFs : (fg.FT x.f).size ≤ 60 := by have := ftx_len hx; unfold ftx kFl at this; rw [Lib.size_eq]; simp only [List.length_append, List.length_cons, List.length_nil] at this; omega
    rw [show nmB .fl = ⟨#[70, 76, 65, 71, 83]⟩ from rfl] at HEN HW0 ⊢
    rw [show paB .fl = ⟨#[]⟩ from rfl] at HEN HW0 ⊢
    have HR : Hid (∀ O : ByteArray, O = ⟨(ftx x).toArray⟩ → TxRet x .fl (.returned (.tuple #[.string O, .int .i64 0]))) := fun O hO => txRet_ok rfl hO
    clear hT hx HIT hm hP hF
    generalize fg.FT x.f = F at HFT HE hFs
    have HENH : Hid (Ent w W0 ⟨#[70, 76, 65, 71, 83]⟩ ⟨#[]⟩ (x.u : Int) (x.f : Int) T) := HEN
    clear HEN
    go_enter Tryz.func36, Tryz.ntmps36
    go_wp2_with fail
    rw [HW0.out]
    refine (HFT.out W0 HENH.out.b).mono ?_
    rintro e w2 ⟨rfl, b2⟩
    have HB : Hid (Below w.heap.size w w2) := (HENH.out.more b2).b
    clear b2 HFT HW0
    go_wp2
    go_ret2
    exact ⟨HR.out _ HE.out, HB.out⟩
  · skip
    have HE : Hid ((⟨#[85, 73, 68, 32]⟩ : ByteArray) ++ ⟨(Lib.decDigits x.u).toArray⟩ = ⟨(utx x).toArray⟩) := (show _ = _ by
      rw [show (⟨#[85, 73, 68, 32]⟩ : ByteArray) = ⟨([85, 73, 68, 32] : List UInt8).toArray⟩ from rfl, cat2]
      unfold utx kUi
      simp)
    have hDs : (⟨(Lib.decDigits x.u).toArray⟩ : ByteArray).size ≤ 10 := by rw [Lib.size_eq]; exact dec4 (by omega)
    have HIU : Hid (∀ W, Below w.heap.size w W → Calls Tryz.prog 64 #[.int .i64 (x.u : Int)] W fun e w' => e = .returned (.string ⟨(Lib.decDigits x.u).toArray⟩) ∧ Below W.heap.size W w') := fun W hW => HIT.out x.u W (by omega) hW
    rw [show nmB .ui = ⟨#[85, 73, 68]⟩ from rfl] at HEN HW0 ⊢
    rw [show paB .ui = ⟨#[]⟩ from rfl] at HEN HW0 ⊢
    have HR : Hid (∀ O : ByteArray, O = ⟨(utx x).toArray⟩ → TxRet x .ui (.returned (.tuple #[.string O, .int .i64 0]))) := fun O hO => txRet_ok rfl hO
    clear hT hx HIT hm hP hF
    generalize (⟨(Lib.decDigits x.u).toArray⟩ : ByteArray) = D at HE hDs HIU
    have HENH : Hid (Ent w W0 ⟨#[85, 73, 68]⟩ ⟨#[]⟩ (x.u : Int) (x.f : Int) T) := HEN
    clear HEN
    go_enter Tryz.func36, Tryz.ntmps36
    go_wp2_with fail
    rw [HW0.out]
    refine (HIU.out W0 HENH.out.b).mono ?_
    rintro e w2 ⟨rfl, b2⟩
    have HB : Hid (Below w.heap.size w w2) := (HENH.out.more b2).b
    clear b2 HIU HW0
    go_wp2
    go_ret2
    exact ⟨HR.out _ HE.out, HB.out⟩
  · skip
    have HE : Hid ((⟨#[82, 70, 67, 56, 50, 50, 46, 83, 73, 90, 69, 32]⟩ : ByteArray) ++ ⟨(Lib.decDigits T.size).toArray⟩ = ⟨(stx x).toArray⟩) := (show _ = _ by
      rw [show (⟨#[82, 70, 67, 56, 50, 50, 46, 83, 73, 90, 69, 32]⟩ : ByteArray) = ⟨([82, 70, 67, 56, 50, 50, 46, 83, 73, 90, 69, 32] : List UInt8).toArray⟩ from rfl, cat2]
      unfold stx kSz
      rw [hl4]
      simp)
    have hDs : (⟨(Lib.decDigits T.size).toArray⟩ : ByteArray).size ≤ 10 := by rw [Lib.size_eq]; exact dec4 (by omega)
    have HIU : Hid (∀ W, Below w.heap.size w W → Calls Tryz.prog 64 #[.int .i64 (T.size : Int)] W fun e w' => e = .returned (.string ⟨(Lib.decDigits T.size).toArray⟩) ∧ Below W.heap.size W w') := fun W hW => HIT.out T.size W (by omega) hW
    rw [show nmB .sz = ⟨#[82, 70, 67, 56, 50, 50, 46, 83, 73, 90, 69]⟩ from rfl] at HEN HW0 ⊢
    rw [show paB .sz = ⟨#[]⟩ from rfl] at HEN HW0 ⊢
    have HR : Hid (∀ O : ByteArray, O = ⟨(stx x).toArray⟩ → TxRet x .sz (.returned (.tuple #[.string O, .int .i64 0]))) := fun O hO => txRet_ok rfl hO
    clear hT hx HIT hm hP hF
    generalize (⟨(Lib.decDigits T.size).toArray⟩ : ByteArray) = D at HE hDs HIU
    have HENH : Hid (Ent w W0 ⟨#[82, 70, 67, 56, 50, 50, 46, 83, 73, 90, 69]⟩ ⟨#[]⟩ (x.u : Int) (x.f : Int) T) := HEN
    clear HEN
    go_enter Tryz.func36, Tryz.ntmps36
    go_wp2_with fail
    rw [HW0.out]
    refine (HIU.out W0 HENH.out.b).mono ?_
    rintro e w2 ⟨rfl, b2⟩
    have HB : Hid (Below w.heap.size w w2) := (HENH.out.more b2).b
    clear b2 HIU HW0
    go_wp2
    go_ret2
    exact ⟨HR.out _ HE.out, HB.out⟩
  · skip
    have hpa : (paB (.bd pk j)).data.toList = pt j := by show (⟨(pt j).toArray⟩ : ByteArray).data.toList = pt j; simp
    have hn1 : ((nmB (.bd pk j)).toList == [70, 76, 65, 71, 83]) = false := by unfold nmB; rw [tl_of]; exact decide_eq_false (by cases pk; exact (show kBo ≠ _ by decide); exact (show kPk ≠ _ by decide))
    have hn2 : ((nmB (.bd pk j)).toList == [85, 73, 68]) = false := by unfold nmB; rw [tl_of]; exact decide_eq_false (by cases pk; exact (show kBo ≠ _ by decide); exact (show kPk ≠ _ by decide))
    have hn3 : ((nmB (.bd pk j)).toList == [82, 70, 67, 56, 50, 50, 46, 83, 73, 90, 69]) = false := by unfold nmB; rw [tl_of]; exact decide_eq_false (by cases pk; exact (show kBo ≠ _ by decide); exact (show kPk ≠ _ by decide))
    have hps : (paB (.bd pk j)).size ≤ 6 := by rw [Lib.size_eq, hpa]; exact pt_len j
    have hg : 1 < w.heap.size := World.block_lt_of_cell? w _ hm
    have HMP : Hid (∀ W, Below w.heap.size w W → Calls Tryz.prog 65 #[.string T, .string (paB (.bd pk j))] W fun e w' => ml.MpRet x.l (pt j) e ∧ Below W.heap.size W w') := fun W hW => by
      have := ml.implPart_any T (paB (.bd pk j)) W mx ((hW.cell (p := ⟨1, 0, none⟩) hg).trans hm) (by omega) (by omega)
      rwa [hpa, ← hT] at this
    have HTX : Hid (∀ (b : B) (fs : List (B × B)) (D O : ByteArray), ml.IsMail x.l fs b → x.ob = some b → O = ⟨(part x b j).toArray⟩ → D = ⟨(Lib.decDigits O.size).toArray⟩ → O.size ≤ 4000 ∧ (∀ Z : ByteArray, Z = (⟨#[66, 79, 68, 89, 91]⟩ : ByteArray) ++ paB (.bd pk j) ++ ⟨#[93, 32, 123]⟩ ++ D ++ ⟨#[125]⟩ ++ ⟨#[13, 10]⟩ ++ O → TxRet x (.bd pk j) (.returned (.tuple #[.string Z, .int .i64 0])))) := by
      intro b fs D O hmail hob hO hD
      have hOl : O.size = (part x b j).length := by rw [hO, Lib.size_eq]
      refine ⟨by have := part_len x b j fs hmail; omega, fun Z hZ => ?_⟩
      refine txRet_ok (x := x) (i := .bd pk j) (t := bodyTx x b j) (by show Option.map (fun b => bodyTx x b j) x.ob = _; rw [hob]; rfl) ?_
      rw [hZ, hD, hOl, hO, show paB (.bd pk j) = ⟨(pt j).toArray⟩ from rfl, show (⟨#[66, 79, 68, 89, 91]⟩ : ByteArray) = ⟨([66, 79, 68, 89, 91] : List UInt8).toArray⟩ from rfl, show (⟨#[93, 32, 123]⟩ : ByteArray) = ⟨([93, 32, 123] : List UInt8).toArray⟩ from rfl, show (⟨#[125]⟩ : ByteArray) = ⟨([125] : List UInt8).toArray⟩ from rfl, show (⟨#[13, 10]⟩ : ByteArray) = ⟨([13, 10] : List UInt8).toArray⟩ from rfl, cat2, cat2, cat2, cat2, cat2, cat2]
      unfold bodyTx kBo
      simp
    have HIS : Hid x.Is := hx.is
    have HNO : Hid (∀ (Z : ByteArray), x.ob = none → TxRet x (.bd pk j) (.returned (.tuple #[.string Z, .int .i64 3]))) := fun Z h => .inr ⟨(show Option.map _ x.ob = none by rw [h]; rfl), Z, rfl⟩
    have hl65 : x.l.length ≤ 65536 := by omega
    have HL65 : Hid (x.l.length ≤ 65536) := hl65
    clear hT hx hm hP hF hg hpa hl65 hl4
    generalize nmB (.bd pk j) = X at HEN HW0 hn1 hn2 hn3 ⊢
    generalize paB (.bd pk j) = Y at HEN HW0 HMP HTX hps ⊢
    have HENH : Hid (Ent w W0 X Y (x.u : Int) (x.f : Int) T) := HEN
    clear HEN
    go_enter Tryz.func36, Tryz.ntmps36
    go_wp2_with fail
    rw [HW0.out]
    refine (HMP.out W0 HENH.out.b).mono ?_
    rintro e w2 ⟨hr, b2⟩
    have HEN2 : Hid (Ent w w2 X Y (x.u : Int) (x.f : Int) T) := HENH.out.more b2
    clear b2 HMP HW0 HENH
    rcases hr with ⟨hbig, rfl⟩ | ⟨_, _, hnp, rfl⟩ | ⟨_, _, _, hnm, rfl⟩ | ⟨_, _, _, fs, b, hmail, rfl⟩
    · exfalso
      have := pt_len j
      have := HL65.out
      omega
    · exact absurd (pt_in j) hnp
    · have hob : x.ob = none := by
        rcases HIS.out with ⟨b, fs, _, h⟩ | ⟨h, _⟩
        · exact absurd ⟨fs, b, h⟩ hnm
        · exact h
      have HNZ : Hid (∀ (Z : ByteArray), TxRet x (.bd pk j) (.returned (.tuple #[.string Z, .int .i64 3]))) := fun Z => HNO.out Z hob
      obtain ⟨D, hD⟩ : ∃ D : ByteArray, D = ⟨(Lib.decDigits 0).toArray⟩ := ⟨_, rfl⟩
      have hDs : D.size ≤ 10 := by rw [hD, Lib.size_eq]; exact dec4 (by omega)
      have HI0 : Hid (∀ W, Below w.heap.size w W → Calls Tryz.prog 64 #[.int .i64 0] W fun e w' => e = .returned (.string D) ∧ Below W.heap.size W w') := fun W hW => by rw [hD]; exact HIT.out 0 W (by omega) hW
      clear hD
      have k1 := HEN2.out.k1
      clear hnm hob HIT HNO HTX HIS HL65
      go_wp2_with fail
      refine (HI0.out w2 HEN2.out.b).mono ?_
      rintro e w3 ⟨rfl, b3⟩
      have HEN3 : Hid (Ent w w3 X Y (x.u : Int) (x.f : Int) T) := HEN2.out.more b3
      clear b3 k1 HEN2
      have k1 := HEN3.out.k1
      go_wp2
      go_ret2
      exact ⟨HNZ.out _, HEN3.out.b⟩
    · have hob : x.ob = some b := by
        rcases HIS.out with ⟨b', fs', h, h'⟩ | ⟨_, h⟩
        · obtain ⟨_, rfl⟩ := ml.isMail_one hmail h'
          exact h
        · exact absurd ⟨fs, b, hmail⟩ h
      obtain ⟨O, hO⟩ : ∃ O : ByteArray, O = ⟨(part x b j).toArray⟩ := ⟨_, rfl⟩
      obtain ⟨D, hD⟩ : ∃ D : ByteArray, D = ⟨(Lib.decDigits O.size).toArray⟩ := ⟨_, rfl⟩
      have hT2 := HTX.out b fs D O hmail hob hO hD
      have hOs := hT2.1
      have HZ : Hid (∀ Z : ByteArray, Z = (⟨#[66, 79, 68, 89, 91]⟩ : ByteArray) ++ Y ++ ⟨#[93, 32, 123]⟩ ++ D ++ ⟨#[125]⟩ ++ ⟨#[13, 10]⟩ ++ O → TxRet x (.bd pk j) (.returned (.tuple #[.string Z, .int .i64 0]))) := hT2.2
      have hDs : D.size ≤ 10 := by rw [hD, Lib.size_eq]; exact dec4 (by omega)
      have HI0 : Hid (∀ W, Below w.heap.size w W → Calls Tryz.prog 64 #[.int .i64 (O.size : Int)] W fun e w' => e = .returned (.string D) ∧ Below W.heap.size W w') := fun W hW => by rw [hD]; exact HIT.out O.size W (by omega) hW
      have HOT : Hid (ml.tv (ml.partOf x.l (pt j) b) = .string O) := (show _ = _ by rw [hO]; rfl)
      rw [HOT.out]
      have k1 := HEN2.out.k1
      have s1 : ((⟨#[66, 79, 68, 89, 91]⟩ : ByteArray) ++ Y).size ≤ 20 := by rw [ByteArray.size_append]; show 5 + Y.size ≤ 20; omega
      have s2 : ((⟨#[66, 79, 68, 89, 91]⟩ : ByteArray) ++ Y ++ ⟨#[93, 32, 123]⟩).size ≤ 30 := by rw [ByteArray.size_append]; show _ + 3 ≤ 30; omega
      have s3 : ((⟨#[66, 79, 68, 89, 91]⟩ : ByteArray) ++ Y ++ ⟨#[93, 32, 123]⟩ ++ D).size ≤ 40 := by rw [ByteArray.size_append]; omega
      have s4 : ((⟨#[66, 79, 68, 89, 91]⟩ : ByteArray) ++ Y ++ ⟨#[93, 32, 123]⟩ ++ D ++ ⟨#[125]⟩).size ≤ 50 := by rw [ByteArray.size_append]; show _ + 1 ≤ 50; omega
      have s5 : ((⟨#[66, 79, 68, 89, 91]⟩ : ByteArray) ++ Y ++ ⟨#[93, 32, 123]⟩ ++ D ++ ⟨#[125]⟩ ++ ⟨#[13, 10]⟩).size ≤ 60 := by rw [ByteArray.size_append]; show _ + 2 ≤ 60; omega
      clear hmail hob HIT HNO HTX HIS HL65 hO hD hT2 HOT
      go_wp2_with fail
      refine (HI0.out w2 HEN2.out.b).mono ?_
      rintro e w3 ⟨rfl, b3⟩
      have HEN3 : Hid (Ent w w3 X Y (x.u : Int) (x.f : Int) T) := HEN2.out.more b3
      clear b3 k1 HEN2 HI0
      have k1 := HEN3.out.k1
      go_wp2
      go_ret2
      exact ⟨HZ.out _ rfl, HEN3.out.b⟩
end Go.Proofs.YtbokolpjdaamiaaGreatDoor.fq
