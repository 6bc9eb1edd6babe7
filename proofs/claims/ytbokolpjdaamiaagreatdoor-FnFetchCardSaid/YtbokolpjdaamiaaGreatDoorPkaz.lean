/-
  The contract of the specification's l07Render: the mail of an entry.
-/
import Derived.Test.YtbokolpjdaamiaaGreatDoorPkay

namespace Go.Proofs.YtbokolpjdaamiaaGreatDoor.rn
open Go.RowKit
open gr rr
set_option linter.unusedVariables false

/-- What an operation of a region brings: a value, or a fact on its value and memory. -/
def Rg (V : List (Option Value)) (Sp : Nat → Value → World → Prop) (n : Nat) (f : Nat → Value) (w : World) : Prop := (∀ v, V.getD n none = some v → f n = v) ∧ Sp n (f n) w
theorem Rg.keep {V : List (Option Value)} {Sp : Nat → Value → World → Prop} (hs : ∀ n v w w', Sp n v w → Below w.heap.size w w' → Sp n v w') {f : Nat → Value} {w w' : World} {i : Nat} {u : Value} (hb : Below w.heap.size w w') (j : Nat) (h : j ≠ i) (k : Rg V Sp j f w) : Rg V Sp j (upd f i u) w' :=
  ⟨fun v hv => (upd_other f i u h).trans (k.1 v hv), by rw [upd_other f i u h]; exact hs j _ w w' k.2 hb⟩
/-- Bytes that a text was turned into. -/
def Spc (s : ByteArray) : Nat → Value → World → Prop
  | 3, v, w => (∃ a n c, v = .slice a n c) ∧ ow.Reads .u8 w v (b6.bz s.data.toList)
  | _, _, _ => True
theorem spc_keep (s : ByteArray) : ∀ n v w w', Spc s n v w → Below w.heap.size w w' → Spc s n v w' := by
  intro n v w w' h hb
  unfold Spc at h ⊢
  split
  · exact ⟨h.1, ow.reads_below h.2 hb⟩
  · trivial
/-- Bytes that have a list. -/
def Sq (l : List UInt8) : Nat → Value → World → Prop
  | 4, v, w => ow.Reads .u8 w v (b6.bz l)
  | _, _, _ => True
theorem sq_keep (l : List UInt8) : ∀ n v w w', Sq l n v w → Below w.heap.size w w' → Sq l n v w' := by
  intro n v w w' h hb
  unfold Sq at h ⊢
  split
  · exact ow.reads_below h hb
  · trivial
def Vq (O3 Q c : ByteArray) (Bx : Nat) : List (Option Value) := [some (.string (O3)), some (.string (O3 ++ ⟨#[13, 10]⟩)), some (.pointer (some ⟨Bx, 5, none⟩)), some (.string (c)), none, some (.string (Q)), some (.string ((O3 ++ ⟨#[13, 10]⟩) ++ Q)), some (.string (((O3 ++ ⟨#[13, 10]⟩) ++ Q) ++ ⟨#[13, 10]⟩)), some (.string (((O3 ++ ⟨#[13, 10]⟩) ++ Q) ++ ⟨#[13, 10]⟩))]
def Vs (OUT i l box DG : ByteArray) (SM : Nat) (F4 F5 F6 I1 L1 : ByteArray) (Bx : Nat) : List (Option Value) := [some (.string (OUT)), some (.pointer (some ⟨Bx, 0, none⟩)), some (.string (i)), none, some (.int .i64 (SM : Nat)), some (.string (DG)), some (.string (⟨#[60]⟩ ++ DG)), some (.string ((⟨#[60]⟩ ++ DG) ++ ⟨#[64]⟩)), some (.string (box)), some (.string (((⟨#[60]⟩ ++ DG) ++ ⟨#[64]⟩) ++ box)), some (.string ((((⟨#[60]⟩ ++ DG) ++ ⟨#[64]⟩) ++ box) ++ ⟨#[62]⟩)), some (.string (F4)), some (.pointer (some ⟨Bx, 0, none⟩)), some (.string (i)), some (.string (I1)), some (.string (F5)), some (.string (F4 ++ F5)), some (.pointer (some ⟨Bx, 2, none⟩)), some (.string (l)), some (.string (L1)), some (.string (F6)), some (.string ((F4 ++ F5) ++ F6)), some (.string (OUT ++ ((F4 ++ F5) ++ F6))), some (.string (OUT ++ ((F4 ++ F5) ++ F6)))]

theorem enc_all (s : ByteArray) (h : en.fld s = true) (w : World) : Enc s := by
  obtain ⟨e, w', _, ⟨⟨r, _, hr⟩, _⟩, _⟩ := hd.specEncode_any s w (by have := (en.fld_cases h).1; omega) []
  exact (enc_of h hr).1
theorem rend_spec (e : en.En) (box F1 F2 F3 F4 F5 F6 F7 F8 F9 Q : ByteArray) (h1 : F1 = FO ⟨#[70, 114, 111, 109]⟩ (EN e.a)) (h2 : F2 = FO ⟨#[68, 97, 116, 101]⟩ ⟨(dx.t82 e.d).toArray⟩) (h3 : F3 = FO ⟨#[83, 117, 98, 106, 101, 99, 116]⟩ (EN e.t)) (h4 : F4 = FO ⟨#[77, 101, 115, 115, 97, 103, 101, 45, 73, 68]⟩ (mid e box)) (h5 : F5 = FO ⟨#[88, 45, 73, 100]⟩ (EN e.i)) (h6 : F6 = FO ⟨#[88, 45, 76, 105, 110, 107]⟩ (EN e.l)) (h7 : F7 = FO ⟨#[77, 73, 77, 69, 45, 86, 101, 114, 115, 105, 111, 110]⟩ ⟨#[49, 46, 48]⟩) (h8 : F8 = FO ⟨#[67, 111, 110, 116, 101, 110, 116, 45, 84, 121, 112, 101]⟩ ⟨#[116, 101, 120, 116, 47, 112, 108, 97, 105, 110, 59, 32, 99, 104, 97, 114, 115, 101, 116, 61, 117, 116, 102, 45, 56]⟩) (h9 : F9 = FO ⟨#[67, 111, 110, 116, 101, 110, 116, 45, 84, 114, 97, 110, 115, 102, 101, 114, 45, 69, 110, 99, 111, 100, 105, 110, 103]⟩ ⟨#[113, 117, 111, 116, 101, 100, 45, 112, 114, 105, 110, 116, 97, 98, 108, 101]⟩) (hQ : Q = ⟨(qu.qt 0 (crl e.c.data.toList)).toArray⟩) :
    rend e box = ((((((F1 ++ F2) ++ F3) ++ ((F4 ++ F5) ++ F6)) ++ ((F7 ++ F8) ++ F9)) ++ ⟨#[13, 10]⟩) ++ Q) ++ ⟨#[13, 10]⟩ := by
  subst h1 h2 h3 h4 h5 h6 h7 h8 h9 hQ
  apply ByteArray.ext
  rw [← Array.toList_inj]
  simp [rend, foldAll, flds, ByteArray.data_append]

set_option maxHeartbeats 16000000 in
set_option maxRecDepth 100000 in
theorem render_any (i t l a c box : ByteArray) (d : Int) (w : World) (h : en.eok ⟨i, t, l, a, d, c⟩ = true) (hb : nm.IsName box) :
    Calls Tryz.prog 11 #[.agg #[.string i, .string t, .string l, .string a, .int .i64 d, .string c], .string box] w fun e w' => e = .returned (.string (rend ⟨i, t, l, a, d, c⟩ box)) ∧ Below w.heap.size w w' := by
  obtain ⟨gi, gt, gl, ga, gc, gd0, gd1⟩ := eok_cases h
  have Ea := enc_all a ga w
  have Et := enc_all t gt w
  have Ei := enc_all i gi w
  have El := enc_all l gl w
  have hG := flds_good h hb Ea Et Ei El
  have hbs : box.size ≤ 40 := (name_signs hb).2
  have hmd := (mid_safe ⟨i, t, l, a, d, c⟩ box hb).2
  have his := (en.fld_cases gi).1
  have hcs := gc.1
  have hd8 := (date_safe d gd0 gd1).2
  have hcl := crl_len c.data.toList
  obtain ⟨SM, hSM⟩ : ∃ n, n = ck.sum (b6.bz i.data.toList) := ⟨_, rfl⟩
  have HSM : Hid (ck.sum (b6.bz i.data.toList) = SM) := hSM.symm
  obtain ⟨DG, hDG⟩ : ∃ x : ByteArray, x = ⟨(Lib.decDigits SM).toArray⟩ := ⟨_, rfl⟩
  have hSMl : SM < 10 ^ (9 + 1) := by rw [hSM]; exact sum_dec ⟨i, t, l, a, d, c⟩
  have hDGs : DG.size ≤ 10 := by rw [hDG, Lib.size_eq]; exact dx.dec_len 9 SM hSMl
  have HDG : Hid (∀ w, Calls Tryz.prog 28 #[.int .i64 (SM : Nat)] w fun e w' => e = .returned (.string DG) ∧ Below w.heap.size w w') := fun w => by rw [hDG]; exact dx.spec_digs 9 SM hSMl (by omega) w
  have hMD : mid ⟨i, t, l, a, d, c⟩ box = (((⟨#[60]⟩ ++ DG) ++ ⟨#[64]⟩) ++ box) ++ ⟨#[62]⟩ := by rw [hDG, hSM]; rfl
  obtain ⟨A1, hA1⟩ : ∃ x, x = EN a := ⟨_, rfl⟩
  obtain ⟨T1, hT1⟩ : ∃ x, x = EN t := ⟨_, rfl⟩
  obtain ⟨I1, hI1⟩ : ∃ x, x = EN i := ⟨_, rfl⟩
  obtain ⟨L1, hL1⟩ : ∃ x, x = EN l := ⟨_, rfl⟩
  obtain ⟨D8, hD8⟩ : ∃ x : ByteArray, x = ⟨(dx.t82 d).toArray⟩ := ⟨_, rfl⟩
  have hD8s : D8.size ≤ 100 := by rw [hD8, Lib.size_eq]; exact hd8
  have HEa : Hid (∀ w, Calls Tryz.prog 26 #[.string a] w fun e w' => e = .returned (.string A1) ∧ Below w.heap.size w w') := fun w => by rw [hA1]; exact encS a ga w
  have HEt : Hid (∀ w, Calls Tryz.prog 26 #[.string t] w fun e w' => e = .returned (.string T1) ∧ Below w.heap.size w w') := fun w => by rw [hT1]; exact encS t gt w
  have HEi : Hid (∀ w, Calls Tryz.prog 26 #[.string i] w fun e w' => e = .returned (.string I1) ∧ Below w.heap.size w w') := fun w => by rw [hI1]; exact encS i gi w
  have HEl : Hid (∀ w, Calls Tryz.prog 26 #[.string l] w fun e w' => e = .returned (.string L1) ∧ Below w.heap.size w w') := fun w => by rw [hL1]; exact encS l gl w
  have HD8 : Hid (∀ w, Calls Tryz.prog 27 #[.int .i64 d] w fun e w' => e = .returned (.string D8) ∧ Below w.heap.size w w') := fun w => by rw [hD8]; exact dx.spec_f82 d gd0 gd1 w
  obtain ⟨F1, hF1⟩ : ∃ x, x = FO ⟨#[70, 114, 111, 109]⟩ (A1) := ⟨_, rfl⟩
  have hF1s : F1.size ≤ 6100 := by rw [hF1]; exact fo_len _ _ (by decide) (by rw [hA1]; exact Ea.2.2)
  have HF1 : Hid (∀ w, Calls Tryz.prog 25 #[.string ⟨#[70, 114, 111, 109]⟩, .string (A1)] w fun e w' => e = .returned (.string F1) ∧ Below w.heap.size w w') := fun w => by rw [hF1]; exact foldS _ _ w (by decide) (by rw [hA1]; exact Ea.2.2)
  obtain ⟨F2, hF2⟩ : ∃ x, x = FO ⟨#[68, 97, 116, 101]⟩ (D8) := ⟨_, rfl⟩
  have hF2s : F2.size ≤ 6100 := by rw [hF2]; exact fo_len _ _ (by decide) (by omega)
  have HF2 : Hid (∀ w, Calls Tryz.prog 25 #[.string ⟨#[68, 97, 116, 101]⟩, .string (D8)] w fun e w' => e = .returned (.string F2) ∧ Below w.heap.size w w') := fun w => by rw [hF2]; exact foldS _ _ w (by decide) (by omega)
  obtain ⟨F3, hF3⟩ : ∃ x, x = FO ⟨#[83, 117, 98, 106, 101, 99, 116]⟩ (T1) := ⟨_, rfl⟩
  have hF3s : F3.size ≤ 6100 := by rw [hF3]; exact fo_len _ _ (by decide) (by rw [hT1]; exact Et.2.2)
  have HF3 : Hid (∀ w, Calls Tryz.prog 25 #[.string ⟨#[83, 117, 98, 106, 101, 99, 116]⟩, .string (T1)] w fun e w' => e = .returned (.string F3) ∧ Below w.heap.size w w') := fun w => by rw [hF3]; exact foldS _ _ w (by decide) (by rw [hT1]; exact Et.2.2)
  obtain ⟨F4, hF4⟩ : ∃ x, x = FO ⟨#[77, 101, 115, 115, 97, 103, 101, 45, 73, 68]⟩ ((((⟨#[60]⟩ ++ DG) ++ ⟨#[64]⟩) ++ box) ++ ⟨#[62]⟩) := ⟨_, rfl⟩
  have hF4s : F4.size ≤ 6100 := by rw [hF4]; exact fo_len _ _ (by decide) (by rw [← hMD]; omega)
  have HF4 : Hid (∀ w, Calls Tryz.prog 25 #[.string ⟨#[77, 101, 115, 115, 97, 103, 101, 45, 73, 68]⟩, .string ((((⟨#[60]⟩ ++ DG) ++ ⟨#[64]⟩) ++ box) ++ ⟨#[62]⟩)] w fun e w' => e = .returned (.string F4) ∧ Below w.heap.size w w') := fun w => by rw [hF4]; exact foldS _ _ w (by decide) (by rw [← hMD]; omega)
  obtain ⟨F5, hF5⟩ : ∃ x, x = FO ⟨#[88, 45, 73, 100]⟩ (I1) := ⟨_, rfl⟩
  have hF5s : F5.size ≤ 6100 := by rw [hF5]; exact fo_len _ _ (by decide) (by rw [hI1]; exact Ei.2.2)
  have HF5 : Hid (∀ w, Calls Tryz.prog 25 #[.string ⟨#[88, 45, 73, 100]⟩, .string (I1)] w fun e w' => e = .returned (.string F5) ∧ Below w.heap.size w w') := fun w => by rw [hF5]; exact foldS _ _ w (by decide) (by rw [hI1]; exact Ei.2.2)
  obtain ⟨F6, hF6⟩ : ∃ x, x = FO ⟨#[88, 45, 76, 105, 110, 107]⟩ (L1) := ⟨_, rfl⟩
  have hF6s : F6.size ≤ 6100 := by rw [hF6]; exact fo_len _ _ (by decide) (by rw [hL1]; exact El.2.2)
  have HF6 : Hid (∀ w, Calls Tryz.prog 25 #[.string ⟨#[88, 45, 76, 105, 110, 107]⟩, .string (L1)] w fun e w' => e = .returned (.string F6) ∧ Below w.heap.size w w') := fun w => by rw [hF6]; exact foldS _ _ w (by decide) (by rw [hL1]; exact El.2.2)
  obtain ⟨F7, hF7⟩ : ∃ x, x = FO ⟨#[77, 73, 77, 69, 45, 86, 101, 114, 115, 105, 111, 110]⟩ (⟨#[49, 46, 48]⟩) := ⟨_, rfl⟩
  have hF7s : F7.size ≤ 6100 := by rw [hF7]; exact fo_len _ _ (by decide) (by decide)
  have HF7 : Hid (∀ w, Calls Tryz.prog 25 #[.string ⟨#[77, 73, 77, 69, 45, 86, 101, 114, 115, 105, 111, 110]⟩, .string (⟨#[49, 46, 48]⟩)] w fun e w' => e = .returned (.string F7) ∧ Below w.heap.size w w') := fun w => by rw [hF7]; exact foldS _ _ w (by decide) (by decide)
  obtain ⟨F8, hF8⟩ : ∃ x, x = FO ⟨#[67, 111, 110, 116, 101, 110, 116, 45, 84, 121, 112, 101]⟩ (⟨#[116, 101, 120, 116, 47, 112, 108, 97, 105, 110, 59, 32, 99, 104, 97, 114, 115, 101, 116, 61, 117, 116, 102, 45, 56]⟩) := ⟨_, rfl⟩
  have hF8s : F8.size ≤ 6100 := by rw [hF8]; exact fo_len _ _ (by decide) (by decide)
  have HF8 : Hid (∀ w, Calls Tryz.prog 25 #[.string ⟨#[67, 111, 110, 116, 101, 110, 116, 45, 84, 121, 112, 101]⟩, .string (⟨#[116, 101, 120, 116, 47, 112, 108, 97, 105, 110, 59, 32, 99, 104, 97, 114, 115, 101, 116, 61, 117, 116, 102, 45, 56]⟩)] w fun e w' => e = .returned (.string F8) ∧ Below w.heap.size w w') := fun w => by rw [hF8]; exact foldS _ _ w (by decide) (by decide)
  obtain ⟨F9, hF9⟩ : ∃ x, x = FO ⟨#[67, 111, 110, 116, 101, 110, 116, 45, 84, 114, 97, 110, 115, 102, 101, 114, 45, 69, 110, 99, 111, 100, 105, 110, 103]⟩ (⟨#[113, 117, 111, 116, 101, 100, 45, 112, 114, 105, 110, 116, 97, 98, 108, 101]⟩) := ⟨_, rfl⟩
  have hF9s : F9.size ≤ 6100 := by rw [hF9]; exact fo_len _ _ (by decide) (by decide)
  have HF9 : Hid (∀ w, Calls Tryz.prog 25 #[.string ⟨#[67, 111, 110, 116, 101, 110, 116, 45, 84, 114, 97, 110, 115, 102, 101, 114, 45, 69, 110, 99, 111, 100, 105, 110, 103]⟩, .string (⟨#[113, 117, 111, 116, 101, 100, 45, 112, 114, 105, 110, 116, 97, 98, 108, 101]⟩)] w fun e w' => e = .returned (.string F9) ∧ Below w.heap.size w w') := fun w => by rw [hF9]; exact foldS _ _ w (by decide) (by decide)
  obtain ⟨Q, hQ⟩ : ∃ x : ByteArray, x = ⟨(qu.qt 0 (crl c.data.toList)).toArray⟩ := ⟨_, rfl⟩
  have HREND : Hid (rend ⟨i, t, l, a, d, c⟩ box = ((((((F1 ++ F2) ++ F3) ++ ((F4 ++ F5) ++ F6)) ++ ((F7 ++ F8) ++ F9)) ++ ⟨#[13, 10]⟩) ++ Q) ++ ⟨#[13, 10]⟩) := rend_spec ⟨i, t, l, a, d, c⟩ box F1 F2 F3 F4 F5 F6 F7 F8 F9 Q (by rw [hF1, hA1]) (by rw [hF2, hD8]) (by rw [hF3, hT1]) (by rw [hF4, hMD]) (by rw [hF5, hI1]) (by rw [hF6, hL1]) hF7 hF8 hF9 hQ
  have hccl : (crl c.data.toList).length ≤ 2000 := by have h0 : c.size ≤ 1000 := hcs; rw [Lib.size_eq] at h0; omega
  have HQ : Hid (∀ w v, ow.Reads .u8 w v (b6.bz (crl c.data.toList)) → Calls Tryz.prog 30 #[v] w fun e w' => e = .returned (.string Q) ∧ Below w.heap.size w w') := fun w v hr => by rw [hQ]; exact qu.specQt_any v _ w hr (by omega)
  have hQs : Q.size ≤ 400000 := by
    rw [hQ, Lib.size_eq]
    have := qu.qt_len 0 (crl c.data.toList)
    show (qu.qt 0 (crl c.data.toList)).length ≤ 400000
    omega
  have HCR : Hid (∀ w, Calls Tryz.prog 31 #[.string c] w fun e w' => (∃ v, e = .returned v ∧ w'.ownsRow w.heap.size 5 1 v (crl c.data.toList).length (Lib.byteCells (crl c.data.toList))) ∧ Below w.heap.size w w') := fun w => crlf_any c w (by have : c.size ≤ 1000 := hcs; omega)
  have hisz : i.size ≤ 200 := his
  generalize rend ⟨i, t, l, a, d, c⟩ box = R at HREND ⊢
  clear hF1 hF2 hF3 hF4 hF5 hF6 hF7 hF8 hF9 hQ hA1 hT1 hI1 hL1 hD8 hMD hDG hSM hSMl hcl hd8 hcs his hmd hG Ea Et Ei El gi gt gl ga gc gd0 gd1 h hb hccl
  have L0 := en.lies_new w 26 ⟨i, t, l, a, d, c⟩
  have b0 : Below w.heap.size w (w.alloc (.cells (en.cl ⟨i, t, l, a, d, c⟩) 26)) := (Below.refl _ w).alloc (Nat.le_refl _) _
  unfold en.cl at L0 b0
  go_enter Tryz.func11, Tryz.ntmps11
  go_upto_region 1 with fail
  generalize hX : World.alloc _ _ = X at L0 b0 ⊢
  clear hX
  generalize hBx : w.heap.size = Bx at L0 b0 ⊢
  have x0 : X.cell? ⟨Bx, 0, none⟩ = some (.string i) := L0.c0
  have x1 : X.cell? ⟨Bx, 1, none⟩ = some (.string t) := L0.c1
  have x2 : X.cell? ⟨Bx, 2, none⟩ = some (.string l) := L0.c2
  have x3 : X.cell? ⟨Bx, 3, none⟩ = some (.string a) := L0.c3
  have x4 : X.cell? ⟨Bx, 4, none⟩ = some (.int .i64 d) := L0.c4
  have x5 : X.cell? ⟨Bx, 5, none⟩ = some (.string c) := L0.c5
  have hBX : Bx < X.heap.size := L0.lt
  clear L0
  obtain ⟨OUT, hOUT⟩ : ∃ x, x = (F1 ++ F2) ++ F3 := ⟨_, rfl⟩
  have hOUTs : OUT.size ≤ 18300 := by rw [hOUT, ByteArray.size_append, ByteArray.size_append]; omega
  go_cut [5] (fun o wx => o = .string OUT ∧ Below X.heap.size X wx)
  case first =>
    have ne := ext_some X
    have c3 := fun x : Ext X => gw_cell x x3
    have c4 := fun x : Ext X => gw_cell x x4
    have c1 := fun x : Ext X => gw_cell x x1
    refine region_lit (by kernel_rfl) (by kernel_rfl) ?_
    repeat (go_big_quiet_step (first | (go_at_call_of 26 a; exact grow_of (HEa.out _)) | (go_at_call_of 26 t; exact grow_of (HEt.out _)) | (go_at_call 27; exact grow_of (HD8.out _)) | (go_at_call_of 25 A1; exact grow_of (HF1.out _)) | (go_at_call_of 25 D8; exact grow_of (HF2.out _)) | (go_at_call_of 25 T1; exact grow_of (HF3.out _))))
    refine wpQuiet_nil ?_
    rintro W' ⟨x, rfl⟩
    have b3 := gw_below x
    generalize gw x = W' at b3 ⊢
    go_wp2_with fail
    go_meet
    exact ⟨by rw [hOUT], b3⟩
  case rest =>
    obtain ⟨rfl, hb1⟩ := hcut
    go_at_K
    have HOUT : Hid (OUT = (F1 ++ F2) ++ F3) := hOUT
    clear hOUT
    have HB1 : Hid (Below X.heap.size X wc) := hb1
    clear hb1
    go_wp2_with fail
    refine region_rel2 (by kernel_rfl) (fun f => { tmps := #[.agg #[.string i, .string t, .string l, .string a, .int .i64 d, .string c], .string box, .pointer (some ⟨Bx, 0, none⟩), undef, .string ⟨#[]⟩, f 23, u6, u7, u8, u9, u10, u11, u12, u13, u14, u15, u16, u17, u18, u19, f 0, f 1, f 2, f 3, f 4, f 5, f 6, f 7, f 8, f 9, f 10, f 11, f 12, f 13, f 14, f 15, f 16, f 17, f 18, f 19, f 20, f 21, f 22, u43, u44, u45, u46, u47, u48, u49, u50, u51, u52, u53, u54, u55, u56, u57], defers := [] }) (fun w => Below X.heap.size X w) (Rg (Vs OUT i l box DG SM F4 F5 F6 I1 L1 Bx) (Spc i)) (fun k => ([u20, u21, u22, u23, u24, u25, u26, u27, u28, u29, u30, u31, u32, u33, u34, u35, u36, u37, u38, u39, u40, u41, u42, .string OUT] : List Value).getD k undef) rfl (HB1.out.drew) (deps_of (by kernel_rfl)) ?_ ?_
    · intro i' o ho D f w hc hR hall hni hcl hV
      match i', ho with
      | 0, ho =>
        cases ho
        have n23 : ¬ D 23 := fun h => hni (hcl 22 _ (hcl 23 _ h rfl { on := 22, ground := Ground.data } (by simp) rfl) rfl { on := 0, ground := Ground.data } (by simp) rfl)
        have h23 : f 23 = .string OUT := hV 23 n23
        have HRR : Hid (∀ j, D j → Rg (Vs OUT i l box DG SM F4 F5 F6 I1 L1 Bx) (Spc i) j f w) := hR
        clear hR hall hcl hV
        refine wpOp_step rfl (fun K' hK => ?_)
        simp only [h23]
        go_simp
        exact hK _ _ ⟨.string (OUT), by simp [upd, h23], hc, ⟨fun v hv => (upd_same f 0 _).trans (Option.some.inj (show some (.string (OUT) : Value) = some v from hv)), trivial⟩, fun j hj hd => Rg.keep (spc_keep i) (Below.refl _ _) j hj (HRR.out j hd)⟩
      | 1, ho =>
        cases ho
        have HRR : Hid (∀ j, D j → Rg (Vs OUT i l box DG SM F4 F5 F6 I1 L1 Bx) (Spc i) j f w) := hR
        clear hR hall hcl hV
        refine wpOp_step rfl (fun K' hK => ?_)
        go_simp
        exact hK _ _ ⟨.pointer (some ⟨Bx, 0, none⟩), by simp [upd], hc, ⟨fun v hv => (upd_same f 1 _).trans (Option.some.inj (show some (.pointer (some ⟨Bx, 0, none⟩) : Value) = some v from hv)), trivial⟩, fun j hj hd => Rg.keep (spc_keep i) (Below.refl _ _) j hj (HRR.out j hd)⟩
      | 2, ho =>
        cases ho
        have d1 : D 1 := hall { on := 1, ground := Ground.data } (by simp) rfl
        have h1 : f 1 = .pointer (some ⟨Bx, 0, none⟩) := (hR 1 d1).1 _ rfl
        have c0 := (hc.cell (p := ⟨Bx, 0, none⟩) hBX).trans x0
        have HRR : Hid (∀ j, D j → Rg (Vs OUT i l box DG SM F4 F5 F6 I1 L1 Bx) (Spc i) j f w) := hR
        clear hR hall hcl hV
        refine wpOp_step rfl (fun K' hK => ?_)
        simp only [h1]
        go_simp
        exact hK _ _ ⟨.string (i), by simp [upd, h1], hc, ⟨fun v hv => (upd_same f 2 _).trans (Option.some.inj (show some (.string (i) : Value) = some v from hv)), trivial⟩, fun j hj hd => Rg.keep (spc_keep i) (Below.refl _ _) j hj (HRR.out j hd)⟩
      | 3, ho =>
        cases ho
        have d2 : D 2 := hall { on := 2, ground := Ground.data } (by simp) rfl
        have h2 : f 2 = .string (i) := (hR 2 d2).1 _ rfl
        have HRR : Hid (∀ j, D j → Rg (Vs OUT i l box DG SM F4 F5 F6 I1 L1 Bx) (Spc i) j f w) := hR
        have hcv := Lib.run_convert_string_bytes (P := Tryz.prog) w 9 22 5 i Tryz.underlying9 Tryz.underlying22 Tryz.underlying5
        have hlc := ow.lies_conv w 5 i
        have hbc := ow.below_conv w 5 i
        generalize grownCap w i.size 0 5 = cap at hcv hlc
        generalize Lib.bytesWorld w 5 i = W' at hcv hlc hbc
        clear hR hall hcl hV
        refine wpOp_step rfl (fun K' hK => ?_)
        simp only [h2]
        go_simp
        exact hK _ _ ⟨.slice (some ⟨w.heap.size, 0, none⟩) i.size cap, by simp [upd, h2], hc.trans (hbc.mono hc.size), ⟨fun v hv => (by cases hv), (by show Spc i 3 (upd f 3 _ 3) W'; rw [upd_same]; exact ⟨⟨_, _, _, rfl⟩, ow.reads_lies hlc⟩)⟩, fun j hj hd => Rg.keep (spc_keep i) hbc j hj (HRR.out j hd)⟩
      | 4, ho =>
        cases ho
        have d3 : D 3 := hall { on := 3, ground := Ground.data } (by simp) rfl
        obtain ⟨⟨ya, yn, yc, h3⟩, hrd⟩ : Spc i 3 (f 3) w := (hR 3 d3).2
        rw [h3] at hrd
        have HRR : Hid (∀ j, D j → Rg (Vs OUT i l box DG SM F4 F5 F6 I1 L1 Bx) (Spc i) j f w) := hR
        have HC0 : Hid (Calls Tryz.prog 29 #[.slice ya yn yc] w fun e w' => e = .returned (.int .i64 (SM : Nat)) ∧ Below w.heap.size w w') := by have := ck.spec_l07Check _ _ w hrd (reads_bytes _) (by rw [b6.bz_len, ← Lib.size_eq]; omega); rw [HSM.out] at this; exact this.mono fun e w' ⟨h1, h2⟩ => ⟨h1, by rw [h2]; exact Below.refl _ _⟩
        clear hR hall hcl hV
        refine wpOp_step rfl (fun K' hK => ?_)
        simp only [h3]
        go_wp2_with (go_at_call 29; refine HC0.out.mono ?_; rintro e w' ⟨rfl, hb⟩)
        exact ⟨.int .i64 (SM : Nat), by simp [upd, h3], hc.trans (hb.mono hc.size), ⟨fun v hv => (upd_same f 4 _).trans (Option.some.inj (show some (.int .i64 (SM : Nat) : Value) = some v from hv)), trivial⟩, fun j hj hd => Rg.keep (spc_keep i) (hb) j hj (HRR.out j hd)⟩
      | 5, ho =>
        cases ho
        have d4 : D 4 := hall { on := 4, ground := Ground.data } (by simp) rfl
        have h4 : f 4 = .int .i64 (SM : Nat) := (hR 4 d4).1 _ rfl
        have HRR : Hid (∀ j, D j → Rg (Vs OUT i l box DG SM F4 F5 F6 I1 L1 Bx) (Spc i) j f w) := hR
        have HC0 : Hid (Calls Tryz.prog 28 #[.int .i64 (SM : Nat)] w fun e w' => e = .returned (.string (DG)) ∧ Below w.heap.size w w') := HDG.out w
        clear hR hall hcl hV
        refine wpOp_step rfl (fun K' hK => ?_)
        simp only [h4]
        go_wp2_with (go_at_call 28; refine HC0.out.mono ?_; rintro e w' ⟨rfl, hb⟩)
        exact ⟨.string (DG), by simp [upd, h4], hc.trans (hb.mono hc.size), ⟨fun v hv => (upd_same f 5 _).trans (Option.some.inj (show some (.string (DG) : Value) = some v from hv)), trivial⟩, fun j hj hd => Rg.keep (spc_keep i) (hb) j hj (HRR.out j hd)⟩
      | 6, ho =>
        cases ho
        have d5 : D 5 := hall { on := 5, ground := Ground.data } (by simp) rfl
        have h5 : f 5 = .string (DG) := (hR 5 d5).1 _ rfl
        have HRR : Hid (∀ j, D j → Rg (Vs OUT i l box DG SM F4 F5 F6 I1 L1 Bx) (Spc i) j f w) := hR
        clear hR hall hcl hV
        refine wpOp_step rfl (fun K' hK => ?_)
        simp only [h5]
        go_simp
        rw [if_neg (by first | omega | (simp only [ByteArray.size_append]; omega))]
        go_simp
        exact hK _ _ ⟨.string (⟨#[60]⟩ ++ DG), by simp [upd, h5], hc, ⟨fun v hv => (upd_same f 6 _).trans (Option.some.inj (show some (.string (⟨#[60]⟩ ++ DG) : Value) = some v from hv)), trivial⟩, fun j hj hd => Rg.keep (spc_keep i) (Below.refl _ _) j hj (HRR.out j hd)⟩
      | 7, ho =>
        cases ho
        have d6 : D 6 := hall { on := 6, ground := Ground.data } (by simp) rfl
        have h6 : f 6 = .string (⟨#[60]⟩ ++ DG) := (hR 6 d6).1 _ rfl
        have HRR : Hid (∀ j, D j → Rg (Vs OUT i l box DG SM F4 F5 F6 I1 L1 Bx) (Spc i) j f w) := hR
        clear hR hall hcl hV
        refine wpOp_step rfl (fun K' hK => ?_)
        simp only [h6]
        go_simp
        rw [if_neg (by first | omega | (simp only [ByteArray.size_append]; omega))]
        go_simp
        exact hK _ _ ⟨.string ((⟨#[60]⟩ ++ DG) ++ ⟨#[64]⟩), by simp [upd, h6], hc, ⟨fun v hv => (upd_same f 7 _).trans (Option.some.inj (show some (.string ((⟨#[60]⟩ ++ DG) ++ ⟨#[64]⟩) : Value) = some v from hv)), trivial⟩, fun j hj hd => Rg.keep (spc_keep i) (Below.refl _ _) j hj (HRR.out j hd)⟩
      | 8, ho =>
        cases ho
        have HRR : Hid (∀ j, D j → Rg (Vs OUT i l box DG SM F4 F5 F6 I1 L1 Bx) (Spc i) j f w) := hR
        clear hR hall hcl hV
        refine wpOp_step rfl (fun K' hK => ?_)
        go_simp
        exact hK _ _ ⟨.string (box), by simp [upd], hc, ⟨fun v hv => (upd_same f 8 _).trans (Option.some.inj (show some (.string (box) : Value) = some v from hv)), trivial⟩, fun j hj hd => Rg.keep (spc_keep i) (Below.refl _ _) j hj (HRR.out j hd)⟩
      | 9, ho =>
        cases ho
        have d7 : D 7 := hall { on := 7, ground := Ground.data } (by simp) rfl
        have h7 : f 7 = .string ((⟨#[60]⟩ ++ DG) ++ ⟨#[64]⟩) := (hR 7 d7).1 _ rfl
        have d8 : D 8 := hall { on := 8, ground := Ground.data } (by simp) rfl
        have h8 : f 8 = .string (box) := (hR 8 d8).1 _ rfl
        have HRR : Hid (∀ j, D j → Rg (Vs OUT i l box DG SM F4 F5 F6 I1 L1 Bx) (Spc i) j f w) := hR
        clear hR hall hcl hV
        refine wpOp_step rfl (fun K' hK => ?_)
        simp only [h7, h8]
        go_simp
        rw [if_neg (by first | omega | (simp only [ByteArray.size_append]; omega))]
        go_simp
        exact hK _ _ ⟨.string (((⟨#[60]⟩ ++ DG) ++ ⟨#[64]⟩) ++ box), by simp [upd, h7, h8], hc, ⟨fun v hv => (upd_same f 9 _).trans (Option.some.inj (show some (.string (((⟨#[60]⟩ ++ DG) ++ ⟨#[64]⟩) ++ box) : Value) = some v from hv)), trivial⟩, fun j hj hd => Rg.keep (spc_keep i) (Below.refl _ _) j hj (HRR.out j hd)⟩
      | 10, ho =>
        cases ho
        have d9 : D 9 := hall { on := 9, ground := Ground.data } (by simp) rfl
        have h9 : f 9 = .string (((⟨#[60]⟩ ++ DG) ++ ⟨#[64]⟩) ++ box) := (hR 9 d9).1 _ rfl
        have HRR : Hid (∀ j, D j → Rg (Vs OUT i l box DG SM F4 F5 F6 I1 L1 Bx) (Spc i) j f w) := hR
        clear hR hall hcl hV
        refine wpOp_step rfl (fun K' hK => ?_)
        simp only [h9]
        go_simp
        rw [if_neg (by first | omega | (simp only [ByteArray.size_append]; omega))]
        go_simp
        exact hK _ _ ⟨.string ((((⟨#[60]⟩ ++ DG) ++ ⟨#[64]⟩) ++ box) ++ ⟨#[62]⟩), by simp [upd, h9], hc, ⟨fun v hv => (upd_same f 10 _).trans (Option.some.inj (show some (.string ((((⟨#[60]⟩ ++ DG) ++ ⟨#[64]⟩) ++ box) ++ ⟨#[62]⟩) : Value) = some v from hv)), trivial⟩, fun j hj hd => Rg.keep (spc_keep i) (Below.refl _ _) j hj (HRR.out j hd)⟩
      | 11, ho =>
        cases ho
        have d10 : D 10 := hall { on := 10, ground := Ground.data } (by simp) rfl
        have h10 : f 10 = .string ((((⟨#[60]⟩ ++ DG) ++ ⟨#[64]⟩) ++ box) ++ ⟨#[62]⟩) := (hR 10 d10).1 _ rfl
        have HRR : Hid (∀ j, D j → Rg (Vs OUT i l box DG SM F4 F5 F6 I1 L1 Bx) (Spc i) j f w) := hR
        have HC0 : Hid (Calls Tryz.prog 25 #[.string ⟨#[77, 101, 115, 115, 97, 103, 101, 45, 73, 68]⟩, .string ((((⟨#[60]⟩ ++ DG) ++ ⟨#[64]⟩) ++ box) ++ ⟨#[62]⟩)] w fun e w' => e = .returned (.string (F4)) ∧ Below w.heap.size w w') := HF4.out w
        clear hR hall hcl hV
        refine wpOp_step rfl (fun K' hK => ?_)
        simp only [h10]
        go_wp2_with (go_at_call 25; refine HC0.out.mono ?_; rintro e w' ⟨rfl, hb⟩)
        exact ⟨.string (F4), by simp [upd, h10], hc.trans (hb.mono hc.size), ⟨fun v hv => (upd_same f 11 _).trans (Option.some.inj (show some (.string (F4) : Value) = some v from hv)), trivial⟩, fun j hj hd => Rg.keep (spc_keep i) (hb) j hj (HRR.out j hd)⟩
      | 12, ho =>
        cases ho
        have HRR : Hid (∀ j, D j → Rg (Vs OUT i l box DG SM F4 F5 F6 I1 L1 Bx) (Spc i) j f w) := hR
        clear hR hall hcl hV
        refine wpOp_step rfl (fun K' hK => ?_)
        go_simp
        exact hK _ _ ⟨.pointer (some ⟨Bx, 0, none⟩), by simp [upd], hc, ⟨fun v hv => (upd_same f 12 _).trans (Option.some.inj (show some (.pointer (some ⟨Bx, 0, none⟩) : Value) = some v from hv)), trivial⟩, fun j hj hd => Rg.keep (spc_keep i) (Below.refl _ _) j hj (HRR.out j hd)⟩
      | 13, ho =>
        cases ho
        have d12 : D 12 := hall { on := 12, ground := Ground.data } (by simp) rfl
        have h12 : f 12 = .pointer (some ⟨Bx, 0, none⟩) := (hR 12 d12).1 _ rfl
        have c0 := (hc.cell (p := ⟨Bx, 0, none⟩) hBX).trans x0
        have HRR : Hid (∀ j, D j → Rg (Vs OUT i l box DG SM F4 F5 F6 I1 L1 Bx) (Spc i) j f w) := hR
        clear hR hall hcl hV
        refine wpOp_step rfl (fun K' hK => ?_)
        simp only [h12]
        go_simp
        exact hK _ _ ⟨.string (i), by simp [upd, h12], hc, ⟨fun v hv => (upd_same f 13 _).trans (Option.some.inj (show some (.string (i) : Value) = some v from hv)), trivial⟩, fun j hj hd => Rg.keep (spc_keep i) (Below.refl _ _) j hj (HRR.out j hd)⟩
      | 14, ho =>
        cases ho
        have d13 : D 13 := hall { on := 13, ground := Ground.data } (by simp) rfl
        have h13 : f 13 = .string (i) := (hR 13 d13).1 _ rfl
        have HRR : Hid (∀ j, D j → Rg (Vs OUT i l box DG SM F4 F5 F6 I1 L1 Bx) (Spc i) j f w) := hR
        have HC0 : Hid (Calls Tryz.prog 26 #[.string i] w fun e w' => e = .returned (.string (I1)) ∧ Below w.heap.size w w') := HEi.out w
        clear hR hall hcl hV
        refine wpOp_step rfl (fun K' hK => ?_)
        simp only [h13]
        go_wp2_with (go_at_call 26; refine HC0.out.mono ?_; rintro e w' ⟨rfl, hb⟩)
        exact ⟨.string (I1), by simp [upd, h13], hc.trans (hb.mono hc.size), ⟨fun v hv => (upd_same f 14 _).trans (Option.some.inj (show some (.string (I1) : Value) = some v from hv)), trivial⟩, fun j hj hd => Rg.keep (spc_keep i) (hb) j hj (HRR.out j hd)⟩
      | 15, ho =>
        cases ho
        have d14 : D 14 := hall { on := 14, ground := Ground.data } (by simp) rfl
        have h14 : f 14 = .string (I1) := (hR 14 d14).1 _ rfl
        have HRR : Hid (∀ j, D j → Rg (Vs OUT i l box DG SM F4 F5 F6 I1 L1 Bx) (Spc i) j f w) := hR
        have HC0 : Hid (Calls Tryz.prog 25 #[.string ⟨#[88, 45, 73, 100]⟩, .string I1] w fun e w' => e = .returned (.string (F5)) ∧ Below w.heap.size w w') := HF5.out w
        clear hR hall hcl hV
        refine wpOp_step rfl (fun K' hK => ?_)
        simp only [h14]
        go_wp2_with (go_at_call 25; refine HC0.out.mono ?_; rintro e w' ⟨rfl, hb⟩)
        exact ⟨.string (F5), by simp [upd, h14], hc.trans (hb.mono hc.size), ⟨fun v hv => (upd_same f 15 _).trans (Option.some.inj (show some (.string (F5) : Value) = some v from hv)), trivial⟩, fun j hj hd => Rg.keep (spc_keep i) (hb) j hj (HRR.out j hd)⟩
      | 16, ho =>
        cases ho
        have d11 : D 11 := hall { on := 11, ground := Ground.data } (by simp) rfl
        have h11 : f 11 = .string (F4) := (hR 11 d11).1 _ rfl
        have d15 : D 15 := hall { on := 15, ground := Ground.data } (by simp) rfl
        have h15 : f 15 = .string (F5) := (hR 15 d15).1 _ rfl
        have HRR : Hid (∀ j, D j → Rg (Vs OUT i l box DG SM F4 F5 F6 I1 L1 Bx) (Spc i) j f w) := hR
        clear hR hall hcl hV
        refine wpOp_step rfl (fun K' hK => ?_)
        simp only [h11, h15]
        go_simp
        rw [if_neg (by first | omega | (simp only [ByteArray.size_append]; omega))]
        go_simp
        exact hK _ _ ⟨.string (F4 ++ F5), by simp [upd, h11, h15], hc, ⟨fun v hv => (upd_same f 16 _).trans (Option.some.inj (show some (.string (F4 ++ F5) : Value) = some v from hv)), trivial⟩, fun j hj hd => Rg.keep (spc_keep i) (Below.refl _ _) j hj (HRR.out j hd)⟩
      | 17, ho =>
        cases ho
        have HRR : Hid (∀ j, D j → Rg (Vs OUT i l box DG SM F4 F5 F6 I1 L1 Bx) (Spc i) j f w) := hR
        clear hR hall hcl hV
        refine wpOp_step rfl (fun K' hK => ?_)
        go_simp
        exact hK _ _ ⟨.pointer (some ⟨Bx, 2, none⟩), by simp [upd], hc, ⟨fun v hv => (upd_same f 17 _).trans (Option.some.inj (show some (.pointer (some ⟨Bx, 2, none⟩) : Value) = some v from hv)), trivial⟩, fun j hj hd => Rg.keep (spc_keep i) (Below.refl _ _) j hj (HRR.out j hd)⟩
      | 18, ho =>
        cases ho
        have d17 : D 17 := hall { on := 17, ground := Ground.data } (by simp) rfl
        have h17 : f 17 = .pointer (some ⟨Bx, 2, none⟩) := (hR 17 d17).1 _ rfl
        have c2 := (hc.cell (p := ⟨Bx, 2, none⟩) hBX).trans x2
        have HRR : Hid (∀ j, D j → Rg (Vs OUT i l box DG SM F4 F5 F6 I1 L1 Bx) (Spc i) j f w) := hR
        clear hR hall hcl hV
        refine wpOp_step rfl (fun K' hK => ?_)
        simp only [h17]
        go_simp
        exact hK _ _ ⟨.string (l), by simp [upd, h17], hc, ⟨fun v hv => (upd_same f 18 _).trans (Option.some.inj (show some (.string (l) : Value) = some v from hv)), trivial⟩, fun j hj hd => Rg.keep (spc_keep i) (Below.refl _ _) j hj (HRR.out j hd)⟩
      | 19, ho =>
        cases ho
        have d18 : D 18 := hall { on := 18, ground := Ground.data } (by simp) rfl
        have h18 : f 18 = .string (l) := (hR 18 d18).1 _ rfl
        have HRR : Hid (∀ j, D j → Rg (Vs OUT i l box DG SM F4 F5 F6 I1 L1 Bx) (Spc i) j f w) := hR
        have HC0 : Hid (Calls Tryz.prog 26 #[.string l] w fun e w' => e = .returned (.string (L1)) ∧ Below w.heap.size w w') := HEl.out w
        clear hR hall hcl hV
        refine wpOp_step rfl (fun K' hK => ?_)
        simp only [h18]
        go_wp2_with (go_at_call 26; refine HC0.out.mono ?_; rintro e w' ⟨rfl, hb⟩)
        exact ⟨.string (L1), by simp [upd, h18], hc.trans (hb.mono hc.size), ⟨fun v hv => (upd_same f 19 _).trans (Option.some.inj (show some (.string (L1) : Value) = some v from hv)), trivial⟩, fun j hj hd => Rg.keep (spc_keep i) (hb) j hj (HRR.out j hd)⟩
      | 20, ho =>
        cases ho
        have d19 : D 19 := hall { on := 19, ground := Ground.data } (by simp) rfl
        have h19 : f 19 = .string (L1) := (hR 19 d19).1 _ rfl
        have HRR : Hid (∀ j, D j → Rg (Vs OUT i l box DG SM F4 F5 F6 I1 L1 Bx) (Spc i) j f w) := hR
        have HC0 : Hid (Calls Tryz.prog 25 #[.string ⟨#[88, 45, 76, 105, 110, 107]⟩, .string L1] w fun e w' => e = .returned (.string (F6)) ∧ Below w.heap.size w w') := HF6.out w
        clear hR hall hcl hV
        refine wpOp_step rfl (fun K' hK => ?_)
        simp only [h19]
        go_wp2_with (go_at_call 25; refine HC0.out.mono ?_; rintro e w' ⟨rfl, hb⟩)
        exact ⟨.string (F6), by simp [upd, h19], hc.trans (hb.mono hc.size), ⟨fun v hv => (upd_same f 20 _).trans (Option.some.inj (show some (.string (F6) : Value) = some v from hv)), trivial⟩, fun j hj hd => Rg.keep (spc_keep i) (hb) j hj (HRR.out j hd)⟩
      | 21, ho =>
        cases ho
        have d16 : D 16 := hall { on := 16, ground := Ground.data } (by simp) rfl
        have h16 : f 16 = .string (F4 ++ F5) := (hR 16 d16).1 _ rfl
        have d20 : D 20 := hall { on := 20, ground := Ground.data } (by simp) rfl
        have h20 : f 20 = .string (F6) := (hR 20 d20).1 _ rfl
        have HRR : Hid (∀ j, D j → Rg (Vs OUT i l box DG SM F4 F5 F6 I1 L1 Bx) (Spc i) j f w) := hR
        clear hR hall hcl hV
        refine wpOp_step rfl (fun K' hK => ?_)
        simp only [h16, h20]
        go_simp
        rw [if_neg (by first | omega | (simp only [ByteArray.size_append]; omega))]
        go_simp
        exact hK _ _ ⟨.string ((F4 ++ F5) ++ F6), by simp [upd, h16, h20], hc, ⟨fun v hv => (upd_same f 21 _).trans (Option.some.inj (show some (.string ((F4 ++ F5) ++ F6) : Value) = some v from hv)), trivial⟩, fun j hj hd => Rg.keep (spc_keep i) (Below.refl _ _) j hj (HRR.out j hd)⟩
      | 22, ho =>
        cases ho
        have d0 : D 0 := hall { on := 0, ground := Ground.data } (by simp) rfl
        have h0 : f 0 = .string (OUT) := (hR 0 d0).1 _ rfl
        have d21 : D 21 := hall { on := 21, ground := Ground.data } (by simp) rfl
        have h21 : f 21 = .string ((F4 ++ F5) ++ F6) := (hR 21 d21).1 _ rfl
        have HRR : Hid (∀ j, D j → Rg (Vs OUT i l box DG SM F4 F5 F6 I1 L1 Bx) (Spc i) j f w) := hR
        clear hR hall hcl hV
        refine wpOp_step rfl (fun K' hK => ?_)
        simp only [h0, h21]
        go_simp
        rw [if_neg (by first | omega | (simp only [ByteArray.size_append]; omega))]
        go_simp
        exact hK _ _ ⟨.string (OUT ++ ((F4 ++ F5) ++ F6)), by simp [upd, h0, h21], hc, ⟨fun v hv => (upd_same f 22 _).trans (Option.some.inj (show some (.string (OUT ++ ((F4 ++ F5) ++ F6)) : Value) = some v from hv)), trivial⟩, fun j hj hd => Rg.keep (spc_keep i) (Below.refl _ _) j hj (HRR.out j hd)⟩
      | 23, ho =>
        cases ho
        have d22 : D 22 := hall { on := 22, ground := Ground.data } (by simp) rfl
        have h22 : f 22 = .string (OUT ++ ((F4 ++ F5) ++ F6)) := (hR 22 d22).1 _ rfl
        have HRR : Hid (∀ j, D j → Rg (Vs OUT i l box DG SM F4 F5 F6 I1 L1 Bx) (Spc i) j f w) := hR
        clear hR hall hcl hV
        refine wpOp_step rfl (fun K' hK => ?_)
        simp only [h22]
        go_simp
        exact hK _ _ ⟨.string (OUT ++ ((F4 ++ F5) ++ F6)), by simp [upd, h22], hc, ⟨fun v hv => (upd_same f 23 _).trans (Option.some.inj (show some (.string (OUT ++ ((F4 ++ F5) ++ F6)) : Value) = some v from hv)), trivial⟩, fun j hj hd => Rg.keep (spc_keep i) (Below.refl _ _) j hj (HRR.out j hd)⟩
      | k + 24, ho => simp at ho
    · intro f w3 hc hR
      have h23 : f 23 = .string (OUT ++ ((F4 ++ F5) ++ F6)) := (hR 23 (by simp)).1 _ rfl
      obtain ⟨O2, hO2⟩ : ∃ x, x = OUT ++ ((F4 ++ F5) ++ F6) := ⟨_, rfl⟩
      have hO2s : O2.size ≤ 36600 := by rw [hO2]; simp only [ByteArray.size_append]; omega
      rw [← hO2] at h23
      have HO2 : Hid (O2 = OUT ++ ((F4 ++ F5) ++ F6)) := hO2
      simp only [h23]
      clear hR h23 hO2
      have x5' : w3.cell? ⟨Bx, 5, none⟩ = some (.string c) := (hc.cell (p := ⟨Bx, 5, none⟩) hBX).trans x5
      have hBX3 : Bx < w3.heap.size := by have := hc.size; omega
      have HBB : Hid (Below X.heap.size X w3) := hc
      clear hc x0 x1 x2 x3 x4 x5 HB1
      generalize f 0 = g0
      have HS1 : (9223372036854775807 < F7.size + F8.size) = False := eq_false (by omega)
      have HS2 : (9223372036854775807 < F7.size + F8.size + F9.size) = False := eq_false (by omega)
      have HS3 : (9223372036854775807 < O2.size + (F7.size + F8.size + F9.size)) = False := eq_false (by omega)
      clear HF1 HF2 HF3 HF4 HF5 HF6 HEa HEt HEi HEl HD8 HSM HDG
      obtain ⟨O3, hO3⟩ : ∃ x, x = O2 ++ ((F7 ++ F8) ++ F9) := ⟨_, rfl⟩
      have hO3s : O3.size ≤ 54900 := by rw [hO3]; simp only [ByteArray.size_append]; omega
      simp only [Exit.then]
      rename_i K2 hK2
      refine hK2 _ _ ?_
      clear hK2
      go_upto_region 3 with fail
      go_cut [5] (fun o wx => o = .string O3 ∧ Below w3.heap.size w3 wx)
      case first =>
        go_wp2_with (first | (go_at_call_of 25 (Value.string ⟨#[77, 73, 77, 69, 45, 86, 101, 114, 115, 105, 111, 110]⟩); refine (HF7.out _).mono ?_; rintro e w4 ⟨rfl, b4⟩) | (go_at_call_of 25 (Value.string ⟨#[67, 111, 110, 116, 101, 110, 116, 45, 84, 121, 112, 101]⟩); refine (HF8.out _).mono ?_; rintro e w5 ⟨rfl, bb5⟩) | (go_at_call_of 25 (Value.string ⟨#[67, 111, 110, 116, 101, 110, 116, 45, 84, 114, 97, 110, 115, 102, 101, 114, 45, 69, 110, 99, 111, 100, 105, 110, 103]⟩); refine (HF9.out _).mono ?_; rintro e w6 ⟨rfl, bb6⟩))
        go_meet
        exact ⟨by rw [hO3], b4.trans ((bb5.trans (bb6.mono bb5.size)).mono b4.size)⟩
      case rest =>
        obtain ⟨rfl, hb1⟩ := hcut
        go_at_K
        have HO3 : Hid (O3 = O2 ++ ((F7 ++ F8) ++ F9)) := hO3
        clear hO3 HF7 HF8 HF9 HS1 HS2 HS3
        have y5 : wc.cell? ⟨Bx, 5, none⟩ = some (.string c) := (hb1.cell (p := ⟨Bx, 5, none⟩) hBX3).trans x5'
        have hBX4 : Bx < wc.heap.size := by have := hb1.size; omega
        have HB4 : Hid (Below w3.heap.size w3 wc) := hb1
        clear hb1 x5'
        have HS4 : (9223372036854775807 < O3.size + 2) = False := eq_false (by omega)
        have HS5 : (9223372036854775807 < O3.size + 2 + Q.size) = False := eq_false (by omega)
        have HS6 : (9223372036854775807 < O3.size + 2 + Q.size + 2) = False := eq_false (by omega)
        go_wp2_with (first | (go_at_call 31; refine (HCR.out _).mono ?_; rintro e w4 ⟨⟨v, rfl, hown⟩, hb⟩; have HR : Hid (ow.Reads .u8 w4 v (b6.bz (crl c.data.toList))) := ow.reads_lies (ow.lies_own hown); clear hown) | (go_at_call 30; refine (HQ.out _ _ HR.out).mono ?_; rintro e w5 ⟨rfl, hb5⟩))
        go_ret
        refine ⟨?_, ?_⟩
        · rw [HREND.out, HO3.out, HO2.out, HOUT.out]; rfl
        · subst hBx
          have s1 := b0.size
          have s2 := HBB.out.size
          have s3 := HB4.out.size
          exact b0.trans ((HBB.out.trans ((HB4.out.trans ((hb.trans (hb5.mono hb.size)).mono s3)).mono s2)).mono s1)
end Go.Proofs.YtbokolpjdaamiaaGreatDoor.rn
