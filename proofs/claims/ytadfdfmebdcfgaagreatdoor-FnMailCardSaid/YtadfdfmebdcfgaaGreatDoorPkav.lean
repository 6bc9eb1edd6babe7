/-
  Contracts of the program's quoted text.
-/
import Derived.Test.YtadfdfmebdcfgaaGreatDoorPkaf
import Derived.Test.YtadfdfmebdcfgaaGreatDoorPkae
import Derived.Laws.BitsAll
import Derived.Deep.DeepCutAuto
import Derived.Deep.Cut
import Derived.Deep.CutRange
import Derived.BigRegion

namespace Go.Proofs.YtadfdfmebdcfgaaGreatDoor.qu
open Go.RowKit
set_option linter.unusedVariables false

set_option maxHeartbeats 1000000 in
theorem lim_any (la : Bool) (w : World) : Calls Tryz.prog 97 #[.bool la] w fun e w' => e = .returned (.int .i64 (lim la : Nat)) ∧ w' = w := by
  cases la
  · go_enter Tryz.func97, Tryz.ntmps97
    go_wp2
    go_ret
    exact ⟨rfl, rfl⟩
  · go_enter Tryz.func97, Tryz.ntmps97
    go_wp2
    go_ret
    exact ⟨rfl, rfl⟩

theorem js13 : ∀ c : UInt8, ((c.toNat : Int) == 61) = (c == 61) := fun c => b6.byte_all (p := fun c => ((c.toNat : Int) == 61) = (c == 61)) (by decide +kernel) c
theorem js32 : ∀ c : UInt8, ((c.toNat : Int) == 32) = (c == 32) := fun c => b6.byte_all (p := fun c => ((c.toNat : Int) == 32) = (c == 32)) (by decide +kernel) c

theorem and15 (x : Nat) (h : x < 256) : bits .and .u8 (x : Int) 15 = ((x % 16 : Nat) : Int) := by
  have := bits_mask .u8 8 (by decide) wraps_u8 4 (by decide) (x : Int) (by omega) (by omega)
  have e : ((2 : Int) ^ 4 - 1) = 15 := by decide
  rw [e] at this
  rw [this]
  omega
theorem conv_new (w : World) (l : List UInt8) (hl : l.length ≤ 1000) : (convert 22 9 (.slice (some ⟨w.heap.size, 0, none⟩) l.length l.length)).run Tryz.prog (w.alloc (.cells (Lib.byteCells l).toArray 5)) = .ok (.string ⟨l.toArray⟩) (w.alloc (.cells (Lib.byteCells l).toArray 5)) := by
  refine ow.conv_bytes (base := w.heap.size) (n := l.length) (e := 5) l ⟨by simp, .inr ⟨w.heap.size, l.length, (Lib.byteCells l).toArray, rfl, Nat.le_refl _, heap_alloc_new w _, Nat.le_refl _, by unfold maxLen; omega, by simp [Lib.byteCells_length], ?_⟩⟩ Tryz.underlying22 Tryz.underlying5 Tryz.underlying9
  rw [Nat.mul_one]
  exact List.take_of_length_le (Nat.le_of_eq (Lib.byteCells_length l))

set_option maxHeartbeats 2000000 in
set_option maxRecDepth 100000 in
theorem form_any (c : UInt8) (la : Bool) (w : World) (hT : tb.TD w) :
    Calls Tryz.prog 96 #[.int .u8 (c.toNat : Int), .bool la] w fun e w' => e = .returned (.string ⟨(form c la).toArray⟩) ∧ Below w.heap.size w w' := by
  have hc := c.toNat_lt
  have b61 := js13 c
  have b32 := js32 c
  have ct1 := tb.td_cell hT (c.toNat / 16) (by omega)
  have ct2 := tb.td_cell hT (c.toNat % 16) (by omega)
  have HP : Hid (plain c la = ((decide (33 ≤ c.toNat) && decide (c.toNat ≤ 126) && !(c == 61)) || (c == 32 && !la))) := rfl
  have HF : Hid (form c la = if plain c la then [c] else [61, hx (c.toNat / 16), hx (c.toNat % 16)]) := rfl
  have hB1 : [c] = [UInt8.ofNat c.toNat] := by simp
  obtain ⟨x, hx0⟩ : ∃ x, x = c.toNat := ⟨_, rfl⟩
  have HX : Hid (UInt8.ofNat x = c) := (show UInt8.ofNat x = c from by rw [hx0]; simp)
  rw [← hx0] at hc b61 b32 ct1 ct2 HP HF ⊢
  have hd1 : decide ((33 : Int) ≤ (x : Int)) = decide (33 ≤ x) := by congr 1; exact propext (by omega)
  have hd2 : decide ((x : Int) ≤ 126) = decide (x ≤ 126) := by congr 1; exact propext (by omega)
  have hne2 : ((x : Int) != 61) = !(c == 61) := by rw [← b61]; rfl
  generalize hFo : form c la = F at HF ⊢
  clear hFo hB1 hx0 hT
  have hx' : (x : Int) ≤ 255 := by omega
  have e1 : (x : Int) / 16 = ((x / 16 : Nat) : Int) := by omega
  have e2 : bits .and .u8 (x : Int) 15 = ((x % 16 : Nat) : Int) := and15 x (by omega)
  have k1 : x / 16 < 16 := by omega
  have k2 : x % 16 < 16 := by omega
  have HD : Hid (hx (x / 16) = tb.digs.getD (x / 16) 0 ∧ hx (x % 16) = tb.digs.getD (x % 16) 0) := ⟨rfl, rfl⟩
  generalize hy1 : x / 16 = y1 at ct1 e1 k1 HF HD
  generalize hy2 : x % 16 = y2 at ct2 e2 k2 HF HD
  clear hy1 hy2
  have k1' : (y1 : Int) < 16 := by omega
  have k2' : (y2 : Int) < 16 := by omega
  rw [← HD.out.1] at ct1
  rw [← HD.out.2] at ct2
  clear HD
  generalize hx y1 = d1 at ct1 HF
  generalize hx y2 = d2 at ct2 HF
  generalize hp : plain c la = P at HP HF
  clear hp
  go_enter Tryz.func96, Tryz.ntmps96
  go_upto_region 1 with fail
  go_cut [22] (fun t wx => t = .bool P ∧ wx = w)
  case first =>
    rw [← hd1, ← hd2] at HP
    by_cases h33 : (33 : Int) ≤ (x : Int)
    · have h33d : decide ((33 : Int) ≤ (x : Int)) = true := decide_eq_true h33
      rw [h33d] at HP
      by_cases h126 : (x : Int) ≤ 126
      · have h126d : decide ((x : Int) ≤ 126) = true := decide_eq_true h126
        rw [h126d] at HP
        clear hd1 hd2
        generalize (c == 61) = p61 at HP b61 hne2
        generalize (c == 32) = p32 at HP b32
        cases p61 <;> cases p32 <;> cases la <;> (go_wp2_with fail; go_meet; exact ⟨by rw [HP.out]; rfl, rfl⟩)
      · have h126d : decide ((x : Int) ≤ 126) = false := decide_eq_false h126
        rw [h126d] at HP
        clear hd1 hd2
        generalize (c == 32) = p32 at HP b32
        cases p32 <;> cases la <;> (go_wp2_with fail; go_meet; exact ⟨by rw [HP.out]; rfl, rfl⟩)
    · have h33d : decide ((33 : Int) ≤ (x : Int)) = false := decide_eq_false h33
      rw [h33d] at HP
      clear hd1 hd2
      generalize (c == 32) = p32 at HP b32
      cases p32 <;> cases la <;> (go_wp2_with fail; go_meet; exact ⟨by rw [HP.out]; rfl, rfl⟩)
  case rest =>
    obtain ⟨rfl, hwc⟩ := hcut
    subst hwc
    clear HP b61 b32 hne2 hd1 hd2
    go_at_K
    cases P
    · have HF2 : Hid (F = [61, d1, d2]) := HF.out
      clear HF
      have cv : ∀ W : World, W.drew = wc.drew → True := fun _ _ => trivial
      have cvn := conv_new wc [61, d1, d2] (by simp)
      have cvn2 : (convert 22 9 (.slice (some ⟨wc.heap.size, 0, none⟩) 3 3)).run Tryz.prog (wc.alloc (.cells #[Value.int .u8 61, Value.int .u8 (d1.toNat : Int), Value.int .u8 (d2.toNat : Int)] 5)).drew = .ok (.string ⟨#[61, d1, d2]⟩) (wc.alloc (.cells #[Value.int .u8 61, Value.int .u8 (d1.toNat : Int), Value.int .u8 (d2.toNat : Int)] 5)).drew := conv_new wc.drew [61, d1, d2] (by simp)
      clear cv cvn
      go_wp2
      go_region
      go_wp2
      go_ret
      exact ⟨by rw [HF2.out]; rfl, ((Below.refl _ _).alloc (Nat.le_refl _) _).drew⟩
    · have HF2 : Hid (F = [c]) := HF.out
      clear HF ct1 ct2
      have cvn : (convert 22 9 (.slice (some ⟨wc.heap.size, 0, none⟩) 1 1)).run Tryz.prog (wc.alloc (.cells #[Value.int .u8 (x : Int)] 5)) = .ok (.string ⟨#[c]⟩) (wc.alloc (.cells #[Value.int .u8 (x : Int)] 5)) := by
        have h1 := conv_new wc [c] (by simp)
        have h2 : Lib.byteCells [c] = [Value.int .u8 (x : Int)] := by
          rw [← HX.out]
          show [Value.int .u8 ((UInt8.ofNat x).toNat : Int)] = _
          have : ((UInt8.ofNat x).toNat : Int) = (x : Int) := by rw [UInt8.toNat_ofNat']; omega
          rw [this]
        rw [h2] at h1
        exact h1
      go_wp2
      go_ret
      exact ⟨by rw [HF2.out]; rfl, (Below.refl _ _).alloc (Nat.le_refl _) _⟩

theorem ext_drop (r : ByteArray) (p : Nat) (h : p ≤ r.size) : (r.extract p r.size).data.toList = r.data.toList.drop p := by
  rw [Lib.extract_data]
  exact List.take_of_length_le (by rw [List.length_drop]; exact Nat.le_refl _)
theorem ext_size (r : ByteArray) (p : Nat) (h : p ≤ r.size) : (r.extract p r.size).size = r.size - p := by
  have : (r.extract p r.size).size = (r.extract p r.size).data.toList.length := rfl
  rw [this, ext_drop r p h, List.length_drop]
  rfl
theorem str_first (s : ByteArray) (hj : 0 < s.size) (wx : World) : (Instr.index 9 (.string s) (.int .i64 0)).run Tryz.prog wx = .ok (.int .u8 ((s.data.toList.getD 0 0).toNat : Int)) wx := by
  have hc : s.data.toList.getD 0 0 = s[0]'hj := by
    rw [List.getD_eq_getElem?_getD, Array.getElem?_toList, Array.getElem?_eq_getElem (show 0 < s.data.size from hj)]
    rfl
  rw [run_index_string wx 9 s .i64 0 Tryz.underlying9, dif_pos ⟨by omega, by omega⟩, hc]
  rfl
/-- The size of a text. -/
def sz (v : Value) : Nat := match v with
  | .string s => s.size
  | _ => 0
theorem prefix_crlf (s : ByteArray) : Lib.hasPrefix s.data.toList (⟨#[13, 10]⟩ : ByteArray).data.toList = crlf s.data.toList := by
  unfold Lib.hasPrefix
  match h : s.data.toList with
  | [] => rfl
  | [a] => simp [crlf, List.isPrefixOf]
  | a :: b :: r =>
    rw [Bool.eq_iff_iff, List.isPrefixOf_iff_prefix, crlf_iff]
    constructor
    · rintro ⟨t, ht⟩
      exact ⟨t, ht.symm⟩
    · rintro ⟨t, ht⟩
      exact ⟨t, ht.symm⟩
set_option maxHeartbeats 1000000 in
theorem pre_any (s : ByteArray) (w : World) : Calls Tryz.prog 94 #[.string s, .string ⟨#[13, 10]⟩] w fun e w' => e = .returned (.bool (crlf s.data.toList)) ∧ w' = w := by
  have := Tryz.strings_HasPrefix s ⟨#[13, 10]⟩ w
  rw [prefix_crlf] at this
  exact this

set_option maxHeartbeats 4000000 in
set_option maxRecDepth 100000 in
theorem implQt_any (v : Value) (l : List UInt8) (w : World) (h : ow.Reads .u8 w v (b6.bz l)) (hcv : (convert 22 9 v).run Tryz.prog (w.alloc (.cells #[.pointer none, .slice none 0 0] 116)) = .ok (.string ⟨l.toArray⟩) (w.alloc (.cells #[.pointer none, .slice none 0 0] 116))) (hT : tb.TD w) (hn : l.length ≤ 65536) :
    Calls Tryz.prog 47 #[v] w fun e w' => e = .returned (.tuple #[.string ⟨(qt 0 l).toArray⟩, .int .i64 0]) ∧ Below w.heap.size w w' := by
  have HQL : Hid ((qt 0 l).length ≤ 6 * l.length) := qt_len 0 l
  obtain ⟨a, cap, rfl, h⟩ := h
  rw [b6.bz_len] at h hcv ⊢
  clear h
  have hn2 : (l.length : Int) ≤ 65536 := by omega
  have hnd : decide (65536 < (l.length : Int)) = false := decide_eq_false (by omega)
  obtain ⟨r0, hr0⟩ : ∃ r : ByteArray, r = ⟨l.toArray⟩ := ⟨_, rfl⟩
  have HR0 : Hid (r0.data.toList = l) := (show r0.data.toList = l from by rw [hr0])
  rw [← hr0] at hcv
  clear hr0
  have HTT : Hid (∀ W, Below w.heap.size w W → tb.TD W) := fun W hW => tb.keep' hT hW
  clear hT
  go_enter Tryz.func47, Tryz.ntmps47
  go_wp2
  go_loopw [5, 6] (fun s x wr => ∃ (r : ByteArray) (wd : Nat) (q : List UInt8), s = .string r ∧ wd ≤ 1000 ∧ x = .int .i64 wd ∧ Hid (q ++ qt wd r.data.toList = qt 0 l) ∧ bl.Bd w.heap.size w.heap.size q wr ∧ Below w.heap.size w wr) (fun s _ _ => sz s)
  case atStart => exact ⟨r0, 0, [], rfl, by decide, rfl, (show [] ++ qt 0 r0.data.toList = qt 0 l from by rw [HR0.out]; rfl), bl.fresh w, (Below.refl _ _).alloc (Nat.le_refl _) _⟩
  case round =>
    obtain ⟨r, wd, q, rfl, hwd, rfl, HQ, hbd, hbw⟩ := hrel
    have HLQ : Hid (q.length ≤ 400000) := by
      have e1 := congrArg List.length HQ.out
      have e2 := HQL.out
      rw [List.length_append] at e1
      show q.length ≤ 400000
      omega
    by_cases hr : r.size = 0
    · have hE : r.toList.isEmpty = true := by
        rw [ByteArray.toList_eq, List.isEmpty_iff]
        exact List.eq_nil_of_length_eq_zero hr
      have hq : q = qt 0 l := by
        have h1 := HQ.out
        rw [List.eq_nil_of_length_eq_zero (show r.data.toList.length = 0 from hr), qt_nil] at h1
        simpa using h1
      subst hq
      clear HQ
      go_wp2_with fail
      refine (bl.said w.heap.size w.heap.size _ _ hbd hbw.size).mono ?_
      rintro e w1 ⟨rfl, hb1⟩
      go_wp2
      go_ret2
      exact ⟨rfl, hbw.trans hb1⟩
    · have hr1 : 1 ≤ r.size := by omega
      have hE : r.toList.isEmpty = false := by
        rw [ByteArray.toList_eq]
        cases hh : r.data.toList with
        | nil => exact absurd (show r.data.toList.length = 0 by rw [hh]; rfl) hr
        | cons => rfl
      go_wp2_with fail
      refine (pre_any r _).mono ?_
      rintro e wx ⟨rfl, hwx⟩
      subst hwx
      cases hcr : crlf r.data.toList
      case true =>
        have hr2 : 2 ≤ r.size := by
          obtain ⟨t, ht⟩ := crlf_iff.1 hcr
          show 2 ≤ r.data.toList.length
          rw [ht]
          simp
        have hr2' : (2 : Int) ≤ (r.size : Int) := by omega
        have HG : Hid ((q ++ [13, 10]) ++ qt 0 (r.data.toList.drop 2) = qt 0 l) := by
          obtain ⟨t, ht⟩ := crlf_iff.1 hcr
          have h1 := HQ.out
          rw [ht, qt_crlf] at h1
          rw [ht]
          show (q ++ [13, 10]) ++ qt 0 t = qt 0 l
          rw [← h1]
          simp
        clear HQ hcr
        go_wp2_with fail
        refine (bl.text w.heap.size w.heap.size q ⟨#[13, 10]⟩ _ hbd (by have := HLQ.out; show q.length + 2 ≤ _; omega) hbw.size).mono ?_
        rintro e w2 ⟨⟨vv, rfl⟩, hbd2, hbw2⟩
        clear hbd
        go_wp2
        refine ⟨⟨_, 0, q ++ [13, 10], rfl, by decide, rfl, ?_, hbd2, hbw.trans hbw2⟩, ?_⟩
        · rw [ext_drop r 2 hr2]; exact HG
        · show (r.extract 2 r.size).size < r.size
          rw [ext_size r 2 hr2]
          omega
      case false =>
        obtain ⟨c0, hc0⟩ : ∃ c, c = r.data.toList.getD 0 0 := ⟨_, rfl⟩
        have hix := str_first r (by omega)
        rw [← hc0] at hix
        have hdr := ext_drop r 1 hr1
        have hds := ext_size r 1 hr1
        have HCO : Hid (r.data.toList = c0 :: r.data.toList.drop 1) := by
          have := b6.drop_cons (l := r.data.toList) (k := 0) (show 0 < r.data.toList.length from (by omega : 0 < r.size))
          rw [List.drop_zero, ← hc0] at this
          exact this
        have hr1' : (1 : Int) ≤ (r.size : Int) := by omega
        have hcl : c0.toNat < 256 := c0.toNat_lt
        obtain ⟨r', hr'⟩ : ∃ x, x = r.extract 1 r.size := ⟨_, rfl⟩
        rw [← hr'] at hdr hds
        have hsl : ∀ wx : World, (Instr.slice 9 (.string r) (some (.int .i64 1)) none none).run Tryz.prog wx = .ok (.string r') wx := fun wx => by
          rw [hr']
          exact (run_slice_string_l (P := Tryz.prog) (w := wx) 9 r Tryz.underlying9 .i64 1 (by decide) hr1')
        clear hr' hc0
        rw [← hdr] at HCO
        have HCR : Hid (crlf (c0 :: r'.data.toList) = false) := by rw [← HCO.out]; exact hcr
        have HQ2 : Hid (q ++ qt wd (c0 :: r'.data.toList) = qt 0 l) := by rw [← HCO.out]; exact HQ.out
        clear HQ HCO hcr hdr
        go_upto_region 11 with fail
        go_cut [8] (fun t wy => t = .bool (lastb r'.data.toList) ∧ wy = wx)
        case first =>
          clear hbd HQ2 HCR hix hsl
          by_cases h0 : r'.size = 0
          · have hE' : r'.toList.isEmpty = true := by
              rw [ByteArray.toList_eq, List.isEmpty_iff]
              exact List.eq_nil_of_length_eq_zero h0
            have HR : Hid (lastb r'.data.toList = true) := (show lastb r'.data.toList = true from by
              rw [List.eq_nil_of_length_eq_zero (show r'.data.toList.length = 0 from h0)]; rfl)
            go_wp2_with fail
            go_meet
            exact ⟨by rw [HR.out], rfl⟩
          · have hE' : r'.toList.isEmpty = false := by
              rw [ByteArray.toList_eq]
              cases hh : r'.data.toList with
              | nil => exact absurd (show r'.data.toList.length = 0 by rw [hh]; rfl) h0
              | cons => rfl
            have HR : Hid (lastb r'.data.toList = crlf r'.data.toList) := (show lastb r'.data.toList = crlf r'.data.toList from by
              unfold lastb
              rw [← ByteArray.toList_eq, hE']
              rfl)
            go_wp2_with fail
            refine (pre_any r' _).mono ?_
            rintro e wz ⟨rfl, hwz⟩
            subst hwz
            go_wp2_with fail
            go_meet
            exact ⟨by rw [HR.out], rfl⟩
        case rest =>
          obtain ⟨rfl, hwc⟩ := hcut
          subst hwc
          go_at_K
          clear hix hsl
          have HSZ : Hid (r'.size < r.size) := (show r'.size < r.size by omega)
          clear hds hE hr hr1 hr1'
          obtain ⟨la, hla⟩ : ∃ la, la = lastb r'.data.toList := ⟨_, rfl⟩
          have HLA2 : Hid (la = lastb r'.data.toList) := hla
          rw [← hla]
          clear hla
          have hTD := HTT.out _ hbw
          go_wp2_with fail
          refine (form_any c0 la _ hTD).mono ?_
          rintro e w2 ⟨rfl, hb2⟩
          have hbd2 := bl.keep hbd hb2
          have hbw2 := hbw.trans (hb2.mono hbw.size)
          clear hbd hTD hb2
          obtain ⟨f, hf⟩ : ∃ f, f = form c0 la := ⟨_, rfl⟩
          have HF : Hid (f = form c0 la) := hf
          have hfl := form_len c0 la
          rw [← hf] at hfl ⊢
          clear hf
          obtain ⟨fs, hfs⟩ : ∃ s : ByteArray, s = ⟨f.toArray⟩ := ⟨_, rfl⟩
          have HFS : Hid (fs.data.toList = f) := (show fs.data.toList = f from by rw [hfs])
          have hfz : fs.size = f.length := by rw [← HFS.out]; rfl
          rw [← hfs]
          clear hfs
          go_wp2_with fail
          refine (lim_any la _).mono ?_
          rintro e w3 ⟨rfl, hw3⟩
          subst hw3
          have hlm : lim la ≤ 76 := by cases la <;> decide
          by_cases hsoft : lim la < wd + f.length
          · have hs' : (lim la : Int) < (wd : Int) + (fs.size : Int) := by omega
            have hsd : decide ((lim la : Int) < (wd : Int) + (fs.size : Int)) = true := decide_eq_true hs'
            have HG : Hid ((q ++ [61, 13, 10] ++ f) ++ qt f.length r'.data.toList = qt 0 l) := by
              have h1 := HQ2.out
              rw [qt_soft HCR.out (by rw [← HLA2.out, ← HF.out]; exact hsoft), ← HLA2.out, ← HF.out] at h1
              show (q ++ [61, 13, 10] ++ f) ++ qt f.length r'.data.toList = qt 0 l
              rw [← h1]
              simp
            clear HQ2 HCR HLA2 HF
            go_wp2_with fail
            refine (bl.text w.heap.size w.heap.size q ⟨#[61, 13, 10]⟩ _ hbd2 (by have := HLQ.out; show q.length + 3 ≤ _; omega) hbw2.size).mono ?_
            rintro e w4 ⟨⟨vv, rfl⟩, hbd4, hbw4⟩
            have hbw4' := hbw2.trans hbw4
            clear hbd2 hbw2 hbw4
            go_wp2_with fail
            refine (bl.text w.heap.size w.heap.size _ fs _ hbd4 (by have := HLQ.out; rw [List.length_append]; show q.length + 3 + fs.size ≤ _; omega) hbw4'.size).mono ?_
            rintro e w5 ⟨⟨vv2, rfl⟩, hbd5, hbw5⟩
            rw [HFS.out] at hbd5
            clear hbd4
            go_wp2
            refine ⟨⟨r', f.length, _, rfl, by omega, by rw [← hfz], HG, hbd5, hbw4'.trans hbw5⟩, HSZ.out⟩
          · have hs' : (wd : Int) + (fs.size : Int) ≤ (lim la : Int) := by omega
            have hsd : decide ((lim la : Int) < (wd : Int) + (fs.size : Int)) = false := decide_eq_false (by omega)
            have HG : Hid ((q ++ f) ++ qt (wd + f.length) r'.data.toList = qt 0 l) := by
              have h1 := HQ2.out
              rw [qt_on HCR.out (by rw [← HLA2.out, ← HF.out]; exact hsoft), ← HLA2.out, ← HF.out] at h1
              show (q ++ f) ++ qt (wd + f.length) r'.data.toList = qt 0 l
              rw [← h1]
              simp
            clear HQ2 HCR HLA2 HF
            go_wp2_with fail
            refine (bl.text w.heap.size w.heap.size _ fs _ hbd2 (by have := HLQ.out; omega) hbw2.size).mono ?_
            rintro e w5 ⟨⟨vv2, rfl⟩, hbd5, hbw5⟩
            rw [HFS.out] at hbd5
            clear hbd2
            go_wp2
            refine ⟨⟨r', wd + f.length, _, rfl, by omega, by rw [← hfz]; go_num, HG, hbd5, hbw2.trans hbw5⟩, HSZ.out⟩
end Go.Proofs.YtadfdfmebdcfgaaGreatDoor.qu
