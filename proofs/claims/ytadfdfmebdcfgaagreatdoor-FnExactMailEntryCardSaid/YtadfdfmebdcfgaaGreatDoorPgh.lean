/-
  Contracts of the program's quoted text.
  Plain facts on reading quoted text, step by step.
  Contracts of the program's reading of quoted text.
  Contracts of the program's reading of quoted text: the beginning, and the whole.
  Plain facts: a text whose ends of lines of two bytes are turned into ends of one byte.
  The contract of the program's (letter).content: what a mail's body says.
-/
import Derived.Test.YtadfdfmebdcfgaaGreatDoorPgg
import Derived.Test.YtadfdfmebdcfgaaGreatDoorPgb
import Derived.Test.YtadfdfmebdcfgaaGreatDoorPga
import Derived.Laws.BitsAll
import Derived.Deep.DeepCutAuto
import Derived.Deep.Cut
import Derived.Deep.CutRange
import Derived.BigRegion
import Derived.Test.YtadfdfmebdcfgaaGreatDoorPgd
import Derived.Deep.RegionWith
import Derived.WalkKit
import Derived.Lib.ReplaceLaws
import Derived.Laws.Cover4
import Derived.Test.YtadfdfmebdcfgaaGreatDoorOwn
import Derived.Test.YtadfdfmebdcfgaaGreatDoorPge
import Derived.Test.YtadfdfmebdcfgaaGreatDoorUtx
import Derived.Test.YtadfdfmebdcfgaaGreatDoorCtl
import Derived.Test.YtadfdfmebdcfgaaGreatDoorShf
import Derived.Test.YtadfdfmebdcfgaaGreatDoorPgf
import Derived.Test.YtadfdfmebdcfgaaGreatDoorDxe
import Derived.Test.YtadfdfmebdcfgaaGreatDoorDxc
import Derived.Lib.ItoaNum
import Derived.Test.YtadfdfmebdcfgaaGreatDoorRows
import Derived.WalkLawsBesides
import Derived.Test.YtadfdfmebdcfgaaGreatDoorPgc
import Derived.ProofKit
import Derived.OpenShut
import Derived.Laws.BitsAllLaws
import Derived.Lib.IndexLaws
import Derived.Orders
import Derived.RegionTactic
import Derived.Test.YtadfdfmebdcfgaaGreatDoorGrw
import Derived.Laws.AppendOwn

namespace Go.Proofs.YtadfdfmebdcfgaaGreatDoor.qu
open Go.RowKit
set_option linter.unusedVariables false

set_option maxHeartbeats 1000000 in
theorem lim_any (la : Bool) (w : World) : Calls Tryz.prog 97 #[.bool la] w fun e w' => e = .returned (.int .i64 (lim la : Nat)) ∧ w' = w := by
  cases la
  · go_enter Tryz.func97, Tryz.ntmps97
    go_wp2
    go_ret
    exact ⟨rfl, rfl⟩
  · go_enter Tryz.func97, Tryz.ntmps97
    go_wp2
    go_ret
    exact ⟨rfl, rfl⟩

theorem js13 : ∀ c : UInt8, ((c.toNat : Int) == 61) = (c == 61) := fun c => b6.byte_all (p := fun c => ((c.toNat : Int) == 61) = (c == 61)) (by decide +kernel) c
theorem js32 : ∀ c : UInt8, ((c.toNat : Int) == 32) = (c == 32) := fun c => b6.byte_all (p := fun c => ((c.toNat : Int) == 32) = (c == 32)) (by decide +kernel) c

theorem and15 (x : Nat) (h : x < 256) : bits .and .u8 (x : Int) 15 = ((x % 16 : Nat) : Int) := by
  have := bits_mask .u8 8 (by decide) wraps_u8 4 (by decide) (x : Int) (by omega) (by omega)
  have e : ((2 : Int) ^ 4 - 1) = 15 := by decide
  rw [e] at this
  rw [this]
  omega
theorem conv_new (w : World) (l : List UInt8) (hl : l.length ≤ 1000) : (convert 22 9 (.slice (some ⟨w.heap.size, 0, none⟩) l.length l.length)).run Tryz.prog (w.alloc (.cells (Lib.byteCells l).toArray 5)) = .ok (.string ⟨l.toArray⟩) (w.alloc (.cells (Lib.byteCells l).toArray 5)) := by
  refine ow.conv_bytes (base := w.heap.size) (n := l.length) (e := 5) l ⟨by simp, .inr ⟨w.heap.size, l.length, (Lib.byteCells l).toArray, rfl, Nat.le_refl _, heap_alloc_new w _, Nat.le_refl _, by unfold maxLen; omega, by simp [Lib.byteCells_length], ?_⟩⟩ Tryz.underlying22 Tryz.underlying5 Tryz.underlying9
  rw [Nat.mul_one]
  exact List.take_of_length_le (Nat.le_of_eq (Lib.byteCells_length l))

set_option maxHeartbeats 2000000 in
set_option maxRecDepth 100000 in
theorem form_any (c : UInt8) (la : Bool) (w : World) (hT : tb.TD w) :
    Calls Tryz.prog 96 #[.int .u8 (c.toNat : Int), .bool la] w fun e w' => e = .returned (.string ⟨(form c la).toArray⟩) ∧ Below w.heap.size w w' := by
  have hc := c.toNat_lt
  have b61 := js13 c
  have b32 := js32 c
  have ct1 := tb.td_cell hT (c.toNat / 16) (by omega)
  have ct2 := tb.td_cell hT (c.toNat % 16) (by omega)
  have HP : Hid (plain c la = ((decide (33 ≤ c.toNat) && decide (c.toNat ≤ 126) && !(c == 61)) || (c == 32 && !la))) := rfl
  have HF : Hid (form c la = if plain c la then [c] else [61, hx (c.toNat / 16), hx (c.toNat % 16)]) := rfl
  have hB1 : [c] = [UInt8.ofNat c.toNat] := by simp
  obtain ⟨x, hx0⟩ : ∃ x, x = c.toNat := ⟨_, rfl⟩
  have HX : Hid (UInt8.ofNat x = c) := (show UInt8.ofNat x = c from by rw [hx0]; simp)
  rw [← hx0] at hc b61 b32 ct1 ct2 HP HF ⊢
  have hd1 : decide ((33 : Int) ≤ (x : Int)) = decide (33 ≤ x) := by congr 1; exact propext (by omega)
  have hd2 : decide ((x : Int) ≤ 126) = decide (x ≤ 126) := by congr 1; exact propext (by omega)
  have hne2 : ((x : Int) != 61) = !(c == 61) := by rw [← b61]; rfl
  generalize hFo : form c la = F at HF ⊢
  clear hFo hB1 hx0 hT
  have hx' : (x : Int) ≤ 255 := by omega
  have e1 : (x : Int) / 16 = ((x / 16 : Nat) : Int) := by omega
  have e2 : bits .and .u8 (x : Int) 15 = ((x % 16 : Nat) : Int) := and15 x (by omega)
  have k1 : x / 16 < 16 := by omega
  have k2 : x % 16 < 16 := by omega
  have HD : Hid (hx (x / 16) = tb.digs.getD (x / 16) 0 ∧ hx (x % 16) = tb.digs.getD (x % 16) 0) := ⟨rfl, rfl⟩
  generalize hy1 : x / 16 = y1 at ct1 e1 k1 HF HD
  generalize hy2 : x % 16 = y2 at ct2 e2 k2 HF HD
  clear hy1 hy2
  have k1' : (y1 : Int) < 16 := by omega
  have k2' : (y2 : Int) < 16 := by omega
  rw [← HD.out.1] at ct1
  rw [← HD.out.2] at ct2
  clear HD
  generalize hx y1 = d1 at ct1 HF
  generalize hx y2 = d2 at ct2 HF
  generalize hp : plain c la = P at HP HF
  clear hp
  go_enter Tryz.func96, Tryz.ntmps96
  go_upto_region 1 with fail
  go_cut [22] (fun t wx => t = .bool P ∧ wx = w)
  case first =>
    rw [← hd1, ← hd2] at HP
    by_cases h33 : (33 : Int) ≤ (x : Int)
    · have h33d : decide ((33 : Int) ≤ (x : Int)) = true := decide_eq_true h33
      rw [h33d] at HP
      by_cases h126 : (x : Int) ≤ 126
      · have h126d : decide ((x : Int) ≤ 126) = true := decide_eq_true h126
        rw [h126d] at HP
        clear hd1 hd2
        generalize (c == 61) = p61 at HP b61 hne2
        generalize (c == 32) = p32 at HP b32
        cases p61 <;> cases p32 <;> cases la <;> (go_wp2_with fail; go_meet; exact ⟨by rw [HP.out]; rfl, rfl⟩)
      · have h126d : decide ((x : Int) ≤ 126) = false := decide_eq_false h126
        rw [h126d] at HP
        clear hd1 hd2
        generalize (c == 32) = p32 at HP b32
        cases p32 <;> cases la <;> (go_wp2_with fail; go_meet; exact ⟨by rw [HP.out]; rfl, rfl⟩)
    · have h33d : decide ((33 : Int) ≤ (x : Int)) = false := decide_eq_false h33
      rw [h33d] at HP
      clear hd1 hd2
      generalize (c == 32) = p32 at HP b32
      cases p32 <;> cases la <;> (go_wp2_with fail; go_meet; exact ⟨by rw [HP.out]; rfl, rfl⟩)
  case rest =>
    obtain ⟨rfl, hwc⟩ := hcut
    subst hwc
    clear HP b61 b32 hne2 hd1 hd2
    go_at_K
    cases P
    · have HF2 : Hid (F = [61, d1, d2]) := HF.out
      clear HF
      have cv : ∀ W : World, W.drew = wc.drew → True := fun _ _ => trivial
      have cvn := conv_new wc [61, d1, d2] (by simp)
      have cvn2 : (convert 22 9 (.slice (some ⟨wc.heap.size, 0, none⟩) 3 3)).run Tryz.prog (wc.alloc (.cells #[Value.int .u8 61, Value.int .u8 (d1.toNat : Int), Value.int .u8 (d2.toNat : Int)] 5)).drew = .ok (.string ⟨#[61, d1, d2]⟩) (wc.alloc (.cells #[Value.int .u8 61, Value.int .u8 (d1.toNat : Int), Value.int .u8 (d2.toNat : Int)] 5)).drew := conv_new wc.drew [61, d1, d2] (by simp)
      clear cv cvn
      go_wp2
      go_region
      go_wp2
      go_ret
      exact ⟨by rw [HF2.out]; rfl, ((Below.refl _ _).alloc (Nat.le_refl _) _).drew⟩
    · have HF2 : Hid (F = [c]) := HF.out
      clear HF ct1 ct2
      have cvn : (convert 22 9 (.slice (some ⟨wc.heap.size, 0, none⟩) 1 1)).run Tryz.prog (wc.alloc (.cells #[Value.int .u8 (x : Int)] 5)) = .ok (.string ⟨#[c]⟩) (wc.alloc (.cells #[Value.int .u8 (x : Int)] 5)) := by
        have h1 := conv_new wc [c] (by simp)
        have h2 : Lib.byteCells [c] = [Value.int .u8 (x : Int)] := by
          rw [← HX.out]
          show [Value.int .u8 ((UInt8.ofNat x).toNat : Int)] = _
          have : ((UInt8.ofNat x).toNat : Int) = (x : Int) := by rw [UInt8.toNat_ofNat']; omega
          rw [this]
        rw [h2] at h1
        exact h1
      go_wp2
      go_ret
      exact ⟨by rw [HF2.out]; rfl, (Below.refl _ _).alloc (Nat.le_refl _) _⟩

theorem ext_drop (r : ByteArray) (p : Nat) (h : p ≤ r.size) : (r.extract p r.size).data.toList = r.data.toList.drop p := by
  rw [Lib.extract_data]
  exact List.take_of_length_le (by rw [List.length_drop]; exact Nat.le_refl _)
theorem ext_size (r : ByteArray) (p : Nat) (h : p ≤ r.size) : (r.extract p r.size).size = r.size - p := by
  have : (r.extract p r.size).size = (r.extract p r.size).data.toList.length := rfl
  rw [this, ext_drop r p h, List.length_drop]
  rfl
theorem str_first (s : ByteArray) (hj : 0 < s.size) (wx : World) : (Instr.index 9 (.string s) (.int .i64 0)).run Tryz.prog wx = .ok (.int .u8 ((s.data.toList.getD 0 0).toNat : Int)) wx := by
  have hc : s.data.toList.getD 0 0 = s[0]'hj := by
    rw [List.getD_eq_getElem?_getD, Array.getElem?_toList, Array.getElem?_eq_getElem (show 0 < s.data.size from hj)]
    rfl
  rw [run_index_string wx 9 s .i64 0 Tryz.underlying9, dif_pos ⟨by omega, by omega⟩, hc]
  rfl
/-- The size of a text. -/
def sz (v : Value) : Nat := match v with
  | .string s => s.size
  | _ => 0
theorem prefix_crlf (s : ByteArray) : Lib.hasPrefix s.data.toList (⟨#[13, 10]⟩ : ByteArray).data.toList = crlf s.data.toList := by
  unfold Lib.hasPrefix
  match h : s.data.toList with
  | [] => rfl
  | [a] => simp [crlf, List.isPrefixOf]
  | a :: b :: r =>
    rw [Bool.eq_iff_iff, List.isPrefixOf_iff_prefix, crlf_iff]
    constructor
    · rintro ⟨t, ht⟩
      exact ⟨t, ht.symm⟩
    · rintro ⟨t, ht⟩
      exact ⟨t, ht.symm⟩
set_option maxHeartbeats 1000000 in
theorem pre_any (s : ByteArray) (w : World) : Calls Tryz.prog 94 #[.string s, .string ⟨#[13, 10]⟩] w fun e w' => e = .returned (.bool (crlf s.data.toList)) ∧ w' = w := by
  have := Tryz.strings_HasPrefix s ⟨#[13, 10]⟩ w
  rw [prefix_crlf] at this
  exact this

set_option maxHeartbeats 4000000 in
set_option maxRecDepth 100000 in
theorem implQt_any (v : Value) (l : List UInt8) (w : World) (h : ow.Reads .u8 w v (b6.bz l)) (hcv : (convert 22 9 v).run Tryz.prog (w.alloc (.cells #[.pointer none, .slice none 0 0] 116)) = .ok (.string ⟨l.toArray⟩) (w.alloc (.cells #[.pointer none, .slice none 0 0] 116))) (hT : tb.TD w) (hn : l.length ≤ 65536) :
    Calls Tryz.prog 47 #[v] w fun e w' => e = .returned (.tuple #[.string ⟨(qt 0 l).toArray⟩, .int .i64 0]) ∧ Below w.heap.size w w' := by
  have HQL : Hid ((qt 0 l).length ≤ 6 * l.length) := qt_len 0 l
  obtain ⟨a, cap, rfl, h⟩ := h
  rw [b6.bz_len] at h hcv ⊢
  clear h
  have hn2 : (l.length : Int) ≤ 65536 := by omega
  have hnd : decide (65536 < (l.length : Int)) = false := decide_eq_false (by omega)
  obtain ⟨r0, hr0⟩ : ∃ r : ByteArray, r = ⟨l.toArray⟩ := ⟨_, rfl⟩
  have HR0 : Hid (r0.data.toList = l) := (show r0.data.toList = l from by rw [hr0])
  rw [← hr0] at hcv
  clear hr0
  have HTT : Hid (∀ W, Below w.heap.size w W → tb.TD W) := fun W hW => tb.keep' hT hW
  clear hT
  go_enter Tryz.func47, Tryz.ntmps47
  go_wp2
  go_loopw [5, 6] (fun s x wr => ∃ (r : ByteArray) (wd : Nat) (q : List UInt8), s = .string r ∧ wd ≤ 1000 ∧ x = .int .i64 wd ∧ Hid (q ++ qt wd r.data.toList = qt 0 l) ∧ bl.Bd w.heap.size w.heap.size q wr ∧ Below w.heap.size w wr) (fun s _ _ => sz s)
  case atStart => exact ⟨r0, 0, [], rfl, by decide, rfl, (show [] ++ qt 0 r0.data.toList = qt 0 l from by rw [HR0.out]; rfl), bl.fresh w, (Below.refl _ _).alloc (Nat.le_refl _) _⟩
  case round =>
    obtain ⟨r, wd, q, rfl, hwd, rfl, HQ, hbd, hbw⟩ := hrel
    have HLQ : Hid (q.length ≤ 400000) := by
      have e1 := congrArg List.length HQ.out
      have e2 := HQL.out
      rw [List.length_append] at e1
      show q.length ≤ 400000
      omega
    by_cases hr : r.size = 0
    · have hE : r.toList.isEmpty = true := by
        rw [ByteArray.toList_eq, List.isEmpty_iff]
        exact List.eq_nil_of_length_eq_zero hr
      have hq : q = qt 0 l := by
        have h1 := HQ.out
        rw [List.eq_nil_of_length_eq_zero (show r.data.toList.length = 0 from hr), qt_nil] at h1
        simpa using h1
      subst hq
      clear HQ
      go_wp2_with fail
      refine (bl.said w.heap.size w.heap.size _ _ hbd hbw.size).mono ?_
      rintro e w1 ⟨rfl, hb1⟩
      go_wp2
      go_ret2
      exact ⟨rfl, hbw.trans hb1⟩
    · have hr1 : 1 ≤ r.size := by omega
      have hE : r.toList.isEmpty = false := by
        rw [ByteArray.toList_eq]
        cases hh : r.data.toList with
        | nil => exact absurd (show r.data.toList.length = 0 by rw [hh]; rfl) hr
        | cons => rfl
      go_wp2_with fail
      refine (pre_any r _).mono ?_
      rintro e wx ⟨rfl, hwx⟩
      subst hwx
      cases hcr : crlf r.data.toList
      case true =>
        have hr2 : 2 ≤ r.size := by
          obtain ⟨t, ht⟩ := crlf_iff.1 hcr
          show 2 ≤ r.data.toList.length
          rw [ht]
          simp
        have hr2' : (2 : Int) ≤ (r.size : Int) := by omega
        have HG : Hid ((q ++ [13, 10]) ++ qt 0 (r.data.toList.drop 2) = qt 0 l) := by
          obtain ⟨t, ht⟩ := crlf_iff.1 hcr
          have h1 := HQ.out
          rw [ht, qt_crlf] at h1
          rw [ht]
          show (q ++ [13, 10]) ++ qt 0 t = qt 0 l
          rw [← h1]
          simp
        clear HQ hcr
        go_wp2_with fail
        refine (bl.text w.heap.size w.heap.size q ⟨#[13, 10]⟩ _ hbd (by have := HLQ.out; show q.length + 2 ≤ _; omega) hbw.size).mono ?_
        rintro e w2 ⟨⟨vv, rfl⟩, hbd2, hbw2⟩
        clear hbd
        go_wp2
        refine ⟨⟨_, 0, q ++ [13, 10], rfl, by decide, rfl, ?_, hbd2, hbw.trans hbw2⟩, ?_⟩
        · rw [ext_drop r 2 hr2]; exact HG
        · show (r.extract 2 r.size).size < r.size
          rw [ext_size r 2 hr2]
          omega
      case false =>
        obtain ⟨c0, hc0⟩ : ∃ c, c = r.data.toList.getD 0 0 := ⟨_, rfl⟩
        have hix := str_first r (by omega)
        rw [← hc0] at hix
        have hdr := ext_drop r 1 hr1
        have hds := ext_size r 1 hr1
        have HCO : Hid (r.data.toList = c0 :: r.data.toList.drop 1) := by
          have := b6.drop_cons (l := r.data.toList) (k := 0) (show 0 < r.data.toList.length from (by omega : 0 < r.size))
          rw [List.drop_zero, ← hc0] at this
          exact this
        have hr1' : (1 : Int) ≤ (r.size : Int) := by omega
        have hcl : c0.toNat < 256 := c0.toNat_lt
        obtain ⟨r', hr'⟩ : ∃ x, x = r.extract 1 r.size := ⟨_, rfl⟩
        rw [← hr'] at hdr hds
        have hsl : ∀ wx : World, (Instr.slice 9 (.string r) (some (.int .i64 1)) none none).run Tryz.prog wx = .ok (.string r') wx := fun wx => by
          rw [hr']
          exact (run_slice_string_l (P := Tryz.prog) (w := wx) 9 r Tryz.underlying9 .i64 1 (by decide) hr1')
        clear hr' hc0
        rw [← hdr] at HCO
        have HCR : Hid (crlf (c0 :: r'.data.toList) = false) := by rw [← HCO.out]; exact hcr
        have HQ2 : Hid (q ++ qt wd (c0 :: r'.data.toList) = qt 0 l) := by rw [← HCO.out]; exact HQ.out
        clear HQ HCO hcr hdr
        go_upto_region 11 with fail
        go_cut [8] (fun t wy => t = .bool (lastb r'.data.toList) ∧ wy = wx)
        case first =>
          clear hbd HQ2 HCR hix hsl
          by_cases h0 : r'.size = 0
          · have hE' : r'.toList.isEmpty = true := by
              rw [ByteArray.toList_eq, List.isEmpty_iff]
              exact List.eq_nil_of_length_eq_zero h0
            have HR : Hid (lastb r'.data.toList = true) := (show lastb r'.data.toList = true from by
              rw [List.eq_nil_of_length_eq_zero (show r'.data.toList.length = 0 from h0)]; rfl)
            go_wp2_with fail
            go_meet
            exact ⟨by rw [HR.out], rfl⟩
          · have hE' : r'.toList.isEmpty = false := by
              rw [ByteArray.toList_eq]
              cases hh : r'.data.toList with
              | nil => exact absurd (show r'.data.toList.length = 0 by rw [hh]; rfl) h0
              | cons => rfl
            have HR : Hid (lastb r'.data.toList = crlf r'.data.toList) := (show lastb r'.data.toList = crlf r'.data.toList from by
              unfold lastb
              rw [← ByteArray.toList_eq, hE']
              rfl)
            go_wp2_with fail
            refine (pre_any r' _).mono ?_
            rintro e wz ⟨rfl, hwz⟩
            subst hwz
            go_wp2_with fail
            go_meet
            exact ⟨by rw [HR.out], rfl⟩
        case rest =>
          obtain ⟨rfl, hwc⟩ := hcut
          subst hwc
          go_at_K
          clear hix hsl
          have HSZ : Hid (r'.size < r.size) := (show r'.size < r.size by omega)
          clear hds hE hr hr1 hr1'
          obtain ⟨la, hla⟩ : ∃ la, la = lastb r'.data.toList := ⟨_, rfl⟩
          have HLA2 : Hid (la = lastb r'.data.toList) := hla
          rw [← hla]
          clear hla
          have hTD := HTT.out _ hbw
          go_wp2_with fail
          refine (form_any c0 la _ hTD).mono ?_
          rintro e w2 ⟨rfl, hb2⟩
          have hbd2 := bl.keep hbd hb2
          have hbw2 := hbw.trans (hb2.mono hbw.size)
          clear hbd hTD hb2
          obtain ⟨f, hf⟩ : ∃ f, f = form c0 la := ⟨_, rfl⟩
          have HF : Hid (f = form c0 la) := hf
          have hfl := form_len c0 la
          rw [← hf] at hfl ⊢
          clear hf
          obtain ⟨fs, hfs⟩ : ∃ s : ByteArray, s = ⟨f.toArray⟩ := ⟨_, rfl⟩
          have HFS : Hid (fs.data.toList = f) := (show fs.data.toList = f from by rw [hfs])
          have hfz : fs.size = f.length := by rw [← HFS.out]; rfl
          rw [← hfs]
          clear hfs
          go_wp2_with fail
          refine (lim_any la _).mono ?_
          rintro e w3 ⟨rfl, hw3⟩
          subst hw3
          have hlm : lim la ≤ 76 := by cases la <;> decide
          by_cases hsoft : lim la < wd + f.length
          · have hs' : (lim la : Int) < (wd : Int) + (fs.size : Int) := by omega
            have hsd : decide ((lim la : Int) < (wd : Int) + (fs.size : Int)) = true := decide_eq_true hs'
            have HG : Hid ((q ++ [61, 13, 10] ++ f) ++ qt f.length r'.data.toList = qt 0 l) := by
              have h1 := HQ2.out
              rw [qt_soft HCR.out (by rw [← HLA2.out, ← HF.out]; exact hsoft), ← HLA2.out, ← HF.out] at h1
              show (q ++ [61, 13, 10] ++ f) ++ qt f.length r'.data.toList = qt 0 l
              rw [← h1]
              simp
            clear HQ2 HCR HLA2 HF
            go_wp2_with fail
            refine (bl.text w.heap.size w.heap.size q ⟨#[61, 13, 10]⟩ _ hbd2 (by have := HLQ.out; show q.length + 3 ≤ _; omega) hbw2.size).mono ?_
            rintro e w4 ⟨⟨vv, rfl⟩, hbd4, hbw4⟩
            have hbw4' := hbw2.trans hbw4
            clear hbd2 hbw2 hbw4
            go_wp2_with fail
            refine (bl.text w.heap.size w.heap.size _ fs _ hbd4 (by have := HLQ.out; rw [List.length_append]; show q.length + 3 + fs.size ≤ _; omega) hbw4'.size).mono ?_
            rintro e w5 ⟨⟨vv2, rfl⟩, hbd5, hbw5⟩
            rw [HFS.out] at hbd5
            clear hbd4
            go_wp2
            refine ⟨⟨r', f.length, _, rfl, by omega, by rw [← hfz], HG, hbd5, hbw4'.trans hbw5⟩, HSZ.out⟩
          · have hs' : (wd : Int) + (fs.size : Int) ≤ (lim la : Int) := by omega
            have hsd : decide ((lim la : Int) < (wd : Int) + (fs.size : Int)) = false := decide_eq_false (by omega)
            have HG : Hid ((q ++ f) ++ qt (wd + f.length) r'.data.toList = qt 0 l) := by
              have h1 := HQ2.out
              rw [qt_on HCR.out (by rw [← HLA2.out, ← HF.out]; exact hsoft), ← HLA2.out, ← HF.out] at h1
              show (q ++ f) ++ qt (wd + f.length) r'.data.toList = qt 0 l
              rw [← h1]
              simp
            clear HQ2 HCR HLA2 HF
            go_wp2_with fail
            refine (bl.text w.heap.size w.heap.size _ fs _ hbd2 (by have := HLQ.out; omega) hbw2.size).mono ?_
            rintro e w5 ⟨⟨vv2, rfl⟩, hbd5, hbw5⟩
            rw [HFS.out] at hbd5
            clear hbd2
            go_wp2
            refine ⟨⟨r', wd + f.length, _, rfl, by omega, by rw [← hfz]; go_num, HG, hbd5, hbw2.trans hbw5⟩, HSZ.out⟩
end Go.Proofs.YtadfdfmebdcfgaaGreatDoor.qu

namespace Go.Proofs.YtadfdfmebdcfgaaGreatDoor.qu
set_option linter.unusedVariables false

/-- The value of a digit, -1 of what is none. -/
def hv (c : UInt8) : Int := if 48 ≤ c.toNat ∧ c.toNat ≤ 57 then (c.toNat : Int) - 48 else if 65 ≤ c.toNat ∧ c.toNat ≤ 70 then (c.toNat : Int) - 55 else -1
theorem hv_cases (c : UInt8) : hv c = -1 ∨ (0 ≤ hv c ∧ hv c < 16) := by
  unfold hv
  split
  · right; omega
  · split
    · right; omega
    · left; rfl
def soft (l : List UInt8) : Bool := l.head? == some 61 && crlf l.tail
/-- What the beginning stands for, and how many bytes say it. -/
def fq (l : List UInt8) : Option (List UInt8 × Nat) :=
  if soft l then some ([], 3)
  else if crlf l then some ([13, 10], 2)
  else if l.getD 0 0 = 61 then (if l.length < 3 ∨ hv (l.getD 1 0) < 0 ∨ hv (l.getD 2 0) < 0 then none else some ([UInt8.ofNat ((hv (l.getD 1 0)).toNat * 16 + (hv (l.getD 2 0)).toNat)], 3))
  else if 32 ≤ (l.getD 0 0).toNat ∧ (l.getD 0 0).toNat ≤ 126 then some ([l.getD 0 0], 1)
  else none
/-- The bytes of a quoted text; the number bounds the steps. -/
def uqn : Nat → List UInt8 → Option (List UInt8)
  | _, [] => some []
  | 0, _ => none
  | n + 1, l => (fq l).bind fun p => (uqn n (l.drop p.2)).map (p.1 ++ ·)
def uq (l : List UInt8) : Option (List UInt8) := uqn l.length l

theorem soft_iff {l : List UInt8} : soft l = true ↔ ∃ r, l = 61 :: 13 :: 10 :: r := by
  match l with
  | [] => simp [soft]
  | a :: t =>
    unfold soft
    rw [Bool.and_eq_true]
    simp only [List.tail_cons, List.head?_cons, beq_iff_eq, Option.some.injEq, crlf_iff]
    constructor
    · rintro ⟨rfl, r, rfl⟩
      exact ⟨r, rfl⟩
    · rintro ⟨r, hr⟩
      obtain ⟨rfl, rfl⟩ := List.cons.inj hr
      exact ⟨rfl, r, rfl⟩
theorem fq_size {l : List UInt8} {p : List UInt8} {n : Nat} (h : fq l = some (p, n)) (hl : l ≠ []) : 1 ≤ n ∧ n ≤ l.length ∧ p.length ≤ n := by
  have h1 : 1 ≤ l.length := by
    cases l with
    | nil => exact absurd rfl hl
    | cons => simp
  unfold fq at h
  split at h
  · rename_i hs
    obtain ⟨r, rfl⟩ := soft_iff.1 hs
    simp only [Option.some.injEq, Prod.mk.injEq] at h
    obtain ⟨rfl, rfl⟩ := h
    simp
  · split at h
    · rename_i hs
      obtain ⟨r, rfl⟩ := crlf_iff.1 hs
      simp only [Option.some.injEq, Prod.mk.injEq] at h
      obtain ⟨rfl, rfl⟩ := h
      simp
    · split at h
      · split at h
        · cases h
        · rename_i h3
          simp only [Option.some.injEq, Prod.mk.injEq] at h
          obtain ⟨rfl, rfl⟩ := h
          simp
          omega
      · split at h
        · simp only [Option.some.injEq, Prod.mk.injEq] at h
          obtain ⟨rfl, rfl⟩ := h
          simp
          omega
        · cases h
theorem uqn_more : ∀ (m n : Nat) (l : List UInt8), l.length ≤ m → l.length ≤ n → uqn m l = uqn n l := by
  intro m
  induction m with
  | zero =>
    intro n l h1 h2
    obtain rfl : l = [] := List.eq_nil_of_length_eq_zero (by omega)
    cases n <;> rfl
  | succ m ih =>
    intro n l h1 h2
    cases l with
    | nil => cases n <;> rfl
    | cons a t =>
      cases n with
      | zero => simp at h2
      | succ n =>
        show ((fq (a :: t)).bind fun p => (uqn m ((a :: t).drop p.2)).map (p.1 ++ ·)) = ((fq (a :: t)).bind fun p => (uqn n ((a :: t).drop p.2)).map (p.1 ++ ·))
        cases hf : fq (a :: t) with
        | none => rfl
        | some p =>
          obtain ⟨p, k⟩ := p
          obtain ⟨k1, k2, _⟩ := fq_size hf (by simp)
          simp only [Option.bind_some]
          rw [ih n _ (by rw [List.length_drop]; omega) (by rw [List.length_drop]; omega)]
theorem uq_nil : uq [] = some [] := rfl
theorem uq_none {l : List UInt8} (hl : l ≠ []) (h : fq l = none) : uq l = none := by
  unfold uq
  cases l with
  | nil => exact absurd rfl hl
  | cons a t =>
    show ((fq (a :: t)).bind fun p => (uqn t.length ((a :: t).drop p.2)).map (p.1 ++ ·)) = none
    rw [h]
    rfl
theorem uq_some {l p : List UInt8} {n : Nat} (hl : l ≠ []) (h : fq l = some (p, n)) : uq l = (uq (l.drop n)).map (p ++ ·) := by
  obtain ⟨k1, k2, _⟩ := fq_size h hl
  unfold uq
  cases l with
  | nil => exact absurd rfl hl
  | cons a t =>
    show ((fq (a :: t)).bind fun p => (uqn t.length ((a :: t).drop p.2)).map (p.1 ++ ·)) = _
    rw [h]
    simp only [Option.bind_some]
    rw [uqn_more t.length ((a :: t).drop n).length _ (by rw [List.length_drop]; simp at k2 ⊢; omega) (Nat.le_refl _)]
theorem uq_len_n : ∀ (m : Nat) (l o : List UInt8), l.length ≤ m → uq l = some o → o.length ≤ l.length := by
  intro m
  induction m with
  | zero =>
    intro l o h hu
    obtain rfl : l = [] := List.eq_nil_of_length_eq_zero (by omega)
    rw [uq_nil] at hu
    cases hu
    exact Nat.le_refl _
  | succ m ih =>
    intro l o h hu
    by_cases hl : l = []
    · subst hl
      rw [uq_nil] at hu
      cases hu
      exact Nat.le_refl _
    cases hf : fq l with
    | none => rw [uq_none hl hf] at hu; cases hu
    | some p =>
      obtain ⟨p, n⟩ := p
      obtain ⟨k1, k2, k3⟩ := fq_size hf hl
      rw [uq_some hl hf] at hu
      obtain ⟨x, hx, rfl⟩ := Option.map_eq_some_iff.1 hu
      have := ih (l.drop n) x (by rw [List.length_drop]; omega) hx
      rw [List.length_drop] at this
      rw [List.length_append]
      omega
theorem uq_len {l o : List UInt8} (h : uq l = some o) : o.length ≤ l.length := uq_len_n l.length l o (Nat.le_refl _) h
theorem u_more {q p : List UInt8} {l : List UInt8} {n : Nat} {r : Option (List UInt8)} (hl : l ≠ []) (h : (uq l).map (q ++ ·) = r) (e : fq l = some (p, n)) : (uq (l.drop n)).map ((q ++ p) ++ ·) = r := by
  rw [← h, uq_some hl e, Option.map_map]
  congr 1
  funext x
  simp
theorem u_fall {q : List UInt8} {l : List UInt8} {r : Option (List UInt8)} (hl : l ≠ []) (h : (uq l).map (q ++ ·) = r) (e : fq l = none) : r = none := by
  rw [← h, uq_none hl e]
  rfl
/-- The bytes and the code that are answered to a text. -/
def ul (s : ByteArray) : List UInt8 := if s.size ≤ 65536 then (uq s.data.toList).getD [] else []
def uc (s : ByteArray) : Int := if s.size ≤ 65536 then (if (uq s.data.toList).isSome then 0 else 3) else 2
theorem ul_none {s : ByteArray} (hl : s.size ≤ 65536) (h : uq s.data.toList = none) : ul s = [] ∧ uc s = 3 := by
  unfold ul uc
  rw [if_pos hl, if_pos hl, h]
  exact ⟨rfl, rfl⟩
theorem ul_some {s : ByteArray} {o : List UInt8} (hl : s.size ≤ 65536) (h : uq s.data.toList = some o) : ul s = o ∧ uc s = 0 := by
  unfold ul uc
  rw [if_pos hl, if_pos hl, h]
  exact ⟨rfl, rfl⟩
theorem ul_len (s : ByteArray) : (ul s).length ≤ 65536 := by
  unfold ul
  split
  · rename_i h
    cases hd : uq s.data.toList with
    | none => simp
    | some o =>
      have e := uq_len hd
      have : s.data.toList.length = s.size := rfl
      simp only [Option.getD_some]
      omega
  · simp
end Go.Proofs.YtadfdfmebdcfgaaGreatDoor.qu

namespace Go.Proofs.YtadfdfmebdcfgaaGreatDoor.qu
open Go.RowKit
set_option linter.unusedVariables false

theorem dx0 (wx : World) : (Instr.index 145 (.agg ((b6.bz tb.digs).map (Value.int .u8)).toArray) (.int .i64 0)).run Tryz.prog wx = .ok (.int .u8 ((hx 0).toNat : Int)) wx := by kernel_rfl
theorem dx1 (wx : World) : (Instr.index 145 (.agg ((b6.bz tb.digs).map (Value.int .u8)).toArray) (.int .i64 1)).run Tryz.prog wx = .ok (.int .u8 ((hx 1).toNat : Int)) wx := by kernel_rfl
theorem dx2 (wx : World) : (Instr.index 145 (.agg ((b6.bz tb.digs).map (Value.int .u8)).toArray) (.int .i64 2)).run Tryz.prog wx = .ok (.int .u8 ((hx 2).toNat : Int)) wx := by kernel_rfl
theorem dx3 (wx : World) : (Instr.index 145 (.agg ((b6.bz tb.digs).map (Value.int .u8)).toArray) (.int .i64 3)).run Tryz.prog wx = .ok (.int .u8 ((hx 3).toNat : Int)) wx := by kernel_rfl
theorem dx4 (wx : World) : (Instr.index 145 (.agg ((b6.bz tb.digs).map (Value.int .u8)).toArray) (.int .i64 4)).run Tryz.prog wx = .ok (.int .u8 ((hx 4).toNat : Int)) wx := by kernel_rfl
theorem dx5 (wx : World) : (Instr.index 145 (.agg ((b6.bz tb.digs).map (Value.int .u8)).toArray) (.int .i64 5)).run Tryz.prog wx = .ok (.int .u8 ((hx 5).toNat : Int)) wx := by kernel_rfl
theorem dx6 (wx : World) : (Instr.index 145 (.agg ((b6.bz tb.digs).map (Value.int .u8)).toArray) (.int .i64 6)).run Tryz.prog wx = .ok (.int .u8 ((hx 6).toNat : Int)) wx := by kernel_rfl
theorem dx7 (wx : World) : (Instr.index 145 (.agg ((b6.bz tb.digs).map (Value.int .u8)).toArray) (.int .i64 7)).run Tryz.prog wx = .ok (.int .u8 ((hx 7).toNat : Int)) wx := by kernel_rfl
theorem dx8 (wx : World) : (Instr.index 145 (.agg ((b6.bz tb.digs).map (Value.int .u8)).toArray) (.int .i64 8)).run Tryz.prog wx = .ok (.int .u8 ((hx 8).toNat : Int)) wx := by kernel_rfl
theorem dx9 (wx : World) : (Instr.index 145 (.agg ((b6.bz tb.digs).map (Value.int .u8)).toArray) (.int .i64 9)).run Tryz.prog wx = .ok (.int .u8 ((hx 9).toNat : Int)) wx := by kernel_rfl
theorem dx10 (wx : World) : (Instr.index 145 (.agg ((b6.bz tb.digs).map (Value.int .u8)).toArray) (.int .i64 10)).run Tryz.prog wx = .ok (.int .u8 ((hx 10).toNat : Int)) wx := by kernel_rfl
theorem dx11 (wx : World) : (Instr.index 145 (.agg ((b6.bz tb.digs).map (Value.int .u8)).toArray) (.int .i64 11)).run Tryz.prog wx = .ok (.int .u8 ((hx 11).toNat : Int)) wx := by kernel_rfl
theorem dx12 (wx : World) : (Instr.index 145 (.agg ((b6.bz tb.digs).map (Value.int .u8)).toArray) (.int .i64 12)).run Tryz.prog wx = .ok (.int .u8 ((hx 12).toNat : Int)) wx := by kernel_rfl
theorem dx13 (wx : World) : (Instr.index 145 (.agg ((b6.bz tb.digs).map (Value.int .u8)).toArray) (.int .i64 13)).run Tryz.prog wx = .ok (.int .u8 ((hx 13).toNat : Int)) wx := by kernel_rfl
theorem dx14 (wx : World) : (Instr.index 145 (.agg ((b6.bz tb.digs).map (Value.int .u8)).toArray) (.int .i64 14)).run Tryz.prog wx = .ok (.int .u8 ((hx 14).toNat : Int)) wx := by kernel_rfl
theorem dx15 (wx : World) : (Instr.index 145 (.agg ((b6.bz tb.digs).map (Value.int .u8)).toArray) (.int .i64 15)).run Tryz.prog wx = .ok (.int .u8 ((hx 15).toNat : Int)) wx := by kernel_rfl
theorem dx_at (tt : Array Value) (htt : tt = ((b6.bz tb.digs).map (Value.int .u8)).toArray) (k : Nat) (h : k < 16) (wx : World) : (Instr.index 145 (.agg tt) (.int .i64 (k : Int))).run Tryz.prog wx = .ok (.int .u8 ((hx k).toNat : Int)) wx := by
  subst htt
  match k, h with
  | 0, _ => exact dx0 wx
  | 1, _ => exact dx1 wx
  | 2, _ => exact dx2 wx
  | 3, _ => exact dx3 wx
  | 4, _ => exact dx4 wx
  | 5, _ => exact dx5 wx
  | 6, _ => exact dx6 wx
  | 7, _ => exact dx7 wx
  | 8, _ => exact dx8 wx
  | 9, _ => exact dx9 wx
  | 10, _ => exact dx10 wx
  | 11, _ => exact dx11 wx
  | 12, _ => exact dx12 wx
  | 13, _ => exact dx13 wx
  | 14, _ => exact dx14 wx
  | 15, _ => exact dx15 wx
  | n + 16, h => exact absurd h (by omega)
theorem hv_hx_all : ∀ k : Fin 16, hv (hx k.val) = (k.val : Int) := by decide +kernel
theorem hv_none_all : ∀ n : Fin 256, (∀ k : Fin 16, hx k.val ≠ UInt8.ofNat n.val) → hv (UInt8.ofNat n.val) = -1 := by decide +kernel
theorem hv_none (c : UInt8) (h : ∀ k, k < 16 → hx k ≠ c) : hv c = -1 :=
  b6.byte_all (p := fun c => (∀ k : Fin 16, hx k.val ≠ c) → hv c = -1) hv_none_all c (fun k => h k.val k.isLt)

set_option maxHeartbeats 1000000 in
set_option maxRecDepth 100000 in
theorem digit_any (c : UInt8) (w : World) (h : tb.TD w) : Calls Tryz.prog 204 #[.int .u8 (c.toNat : Int)] w fun e w' => e = .returned (.int .i64 (hv c)) ∧ w' = w := by
  obtain ⟨t, fr, h⟩ := h
  obtain ⟨tt, htt⟩ : ∃ tt, tt = ((b6.bz tb.digs).map (Value.int .u8)).toArray := ⟨_, rfl⟩
  rw [← htt] at h
  have HIX : Hid (∀ (k : Nat) (h : k < 16) (wx : World), (Instr.index 145 (.agg tt) (.int .i64 (k : Int))).run Tryz.prog wx = .ok (.int .u8 ((hx k).toNat : Int)) wx) := dx_at tt htt
  have hsz : (Tryz.prog.info? 145).map (·.size) = some tt.size := by rw [htt]; kernel_rfl
  clear htt
  go_enter Tryz.func204, Tryz.ntmps204
  go_wp2_with (refine wpList_load_row rfl 145 _ rfl 2 rfl t tt fr _ h Tryz.underlying145 rfl hsz ?_)
  go_loop [3, 4, 6] (fun _ _ i => ∃ k : Nat, k ≤ 16 ∧ i = .int .i64 k ∧ Hid (∀ j, j < k → hx j ≠ c)) (fun _ _ i => 16 - (intOf i).toNat)
  case atStart => exact ⟨0, Nat.zero_le _, rfl, fun j hj => absurd hj (Nat.not_lt_zero _)⟩
  case round =>
    clear h hsz
    obtain ⟨k, hk, rfl, HG⟩ := hrel
    by_cases hlt : k < 16
    · have hlt' : (k : Int) < 16 := by omega
      have hxx := HIX.out k hlt
      by_cases he : hx k = c
      · have hv' : hv c = (k : Int) := by rw [← he]; exact hv_hx_all ⟨k, hlt⟩
        have HV : Hid (hv c = (k : Int)) := hv'
        rw [he] at hxx
        clear he hv'
        have hbe : ((c.toNat : Int) == (c.toNat : Int)) = true := beq_self_eq_true _
        go_wp2
        go_ret
        exact ⟨by rw [HV.out]; rfl, rfl⟩
      · have hne : (((hx k).toNat : Int) == (c.toNat : Int)) = false := by
          rw [beq_eq_false_iff_ne]
          intro e
          exact he (UInt8.toNat_inj.1 (by omega))
        have hne2 : ¬ (hx k).toNat = c.toNat := fun e => he (UInt8.toNat_inj.1 e)
        have HE : Hid (hx k ≠ c) := he
        clear he
        generalize (hx k).toNat = x at hxx hne hne2
        go_wp2
        go_round
        case rel => exact ⟨k + 1, by omega, by go_num, fun j hj => by
          by_cases e : j = k
          · subst e; exact HE.out
          · exact HG.out j (by omega)⟩
        case measure => simp [intOf]; omega
    · have hlt' : 16 ≤ (k : Int) := by omega
      go_wp2
      go_ret
      exact ⟨by rw [hv_none c (fun j hj => HG.out j (by omega))]; rfl, rfl⟩

theorem str_ix2 (s : ByteArray) (z : Int) (j : Nat) (hz : z = j) (hj : j < s.size) (wx : World) : (Instr.index 9 (.string s) (.int .i64 z)).run Tryz.prog wx = .ok (.int .u8 ((s.data.toList.getD j 0).toNat : Int)) wx := by
  subst hz
  have hb : s[(j : Int).toNat]'(by simpa using hj) = s[j]'hj := by simp
  have hc : s.data.toList.getD j 0 = s[j]'hj := by
    rw [List.getD_eq_getElem?_getD, Array.getElem?_toList, Array.getElem?_eq_getElem (show j < s.data.size from hj)]
    rfl
  rw [run_index_string wx 9 s .i64 (j : Int) Tryz.underlying9, dif_pos ⟨by omega, by omega⟩, hb, hc]

/-- What a beginning that was read comes to: its bytes, and how many said it. -/
def First (o : Option (List UInt8 × Nat)) (e : Ending) : Prop :=
  ∃ p : ByteArray, e = .returned (.tuple #[.string p, .int .i64 ((o.map (·.2)).getD 0 : Nat)]) ∧ p.data.toList = (o.map (·.1)).getD []
theorem first_none {o : Option (List UInt8 × Nat)} (h : o = none) : First o (.returned (.tuple #[.string ⟨#[]⟩, .int .i64 0])) := by subst h; exact ⟨_, rfl, rfl⟩
theorem first_some {o : Option (List UInt8 × Nat)} {p : List UInt8} {n : Nat} (h : o = some (p, n)) : First o (.returned (.tuple #[.string ⟨p.toArray⟩, .int .i64 (n : Int)])) := by subst h; exact ⟨_, rfl, rfl⟩

set_option maxHeartbeats 2000000 in
set_option maxRecDepth 100000 in
theorem byte_any (s : ByteArray) (w : World) (hs : s.size ≤ 65536) (hT : tb.TD w) :
    Calls Tryz.prog 192 #[.string s] w fun e w' => First (if s.size < 3 ∨ hv (s.data.toList.getD 1 0) < 0 ∨ hv (s.data.toList.getD 2 0) < 0 then none else some ([UInt8.ofNat ((hv (s.data.toList.getD 1 0)).toNat * 16 + (hv (s.data.toList.getD 2 0)).toNat)], 3)) e ∧ Below w.heap.size w w' := by
  have hs' : (s.size : Int) ≤ 65536 := by omega
  by_cases h3 : s.size < 3
  · have h3' : (s.size : Int) < 3 := by omega
    have HX := first_none (o := if s.size < 3 ∨ hv (s.data.toList.getD 1 0) < 0 ∨ hv (s.data.toList.getD 2 0) < 0 then none else some ([UInt8.ofNat ((hv (s.data.toList.getD 1 0)).toNat * 16 + (hv (s.data.toList.getD 2 0)).toNat)], 3)) (if_pos (.inl h3))
    clear hT
    generalize (if s.size < 3 ∨ hv (s.data.toList.getD 1 0) < 0 ∨ hv (s.data.toList.getD 2 0) < 0 then none else some ([UInt8.ofNat ((hv (s.data.toList.getD 1 0)).toNat * 16 + (hv (s.data.toList.getD 2 0)).toNat)], 3)) = o at HX ⊢
    have HX : Hid (First o (.returned (.tuple #[.string ⟨#[]⟩, .int .i64 0]))) := HX
    go_enter Tryz.func192, Tryz.ntmps192
    go_wp2
    go_ret2
    exact ⟨HX.out, Below.refl _ _⟩
  have h3d : decide ((s.size : Int) < 3) = false := decide_eq_false (by omega)
  have v1 := str_ix2 s 1 1 rfl (by omega)
  have v2 := str_ix2 s 2 2 rfl (by omega)
  have HO : Hid (∀ o : Option (List UInt8 × Nat), o = (if s.size < 3 ∨ hv (s.data.toList.getD 1 0) < 0 ∨ hv (s.data.toList.getD 2 0) < 0 then none else some ([UInt8.ofNat ((hv (s.data.toList.getD 1 0)).toNat * 16 + (hv (s.data.toList.getD 2 0)).toNat)], 3)) → o = if hv (s.data.toList.getD 1 0) < 0 ∨ hv (s.data.toList.getD 2 0) < 0 then none else some ([UInt8.ofNat ((hv (s.data.toList.getD 1 0)).toNat * 16 + (hv (s.data.toList.getD 2 0)).toNat)], 3)) := fun o h => by rw [h]; simp only [h3, false_or]
  generalize ho : (if s.size < 3 ∨ hv (s.data.toList.getD 1 0) < 0 ∨ hv (s.data.toList.getD 2 0) < 0 then none else some ([UInt8.ofNat ((hv (s.data.toList.getD 1 0)).toNat * 16 + (hv (s.data.toList.getD 2 0)).toNat)], 3)) = o
  have HO2 := HO.out o ho.symm
  clear HO ho
  generalize s.data.toList.getD 1 0 = c1 at v1 HO2
  generalize s.data.toList.getD 2 0 = c2 at v2 HO2
  have HO3 : Hid (o = if hv c1 < 0 ∨ hv c2 < 0 then none else some ([UInt8.ofNat ((hv c1).toNat * 16 + (hv c2).toNat)], 3)) := HO2
  clear HO2
  have C1 : Hid (∀ W, tb.TD W → Calls Tryz.prog 204 #[.int .u8 (c1.toNat : Int)] W fun e w' => e = .returned (.int .i64 (hv c1)) ∧ w' = W) := fun W hW => digit_any c1 W hW
  have C2 : Hid (∀ W, tb.TD W → Calls Tryz.prog 204 #[.int .u8 (c2.toNat : Int)] W fun e w' => e = .returned (.int .i64 (hv c2)) ∧ w' = W) := fun W hW => digit_any c2 W hW
  have q1 := hv_cases c1
  have q2 := hv_cases c2
  have Q12 : Hid ((hv c1 = -1 ∨ (0 ≤ hv c1 ∧ hv c1 < 16)) ∧ (hv c2 = -1 ∨ (0 ≤ hv c2 ∧ hv c2 < 16))) := ⟨q1, q2⟩
  clear q1 q2
  have HTD : Hid (tb.TD w) := hT
  clear hT
  go_enter Tryz.func192, Tryz.ntmps192
  go_upto_region 3 with fail
  go_cut [4, 5] (fun a b wx => a = .int .i64 (hv c1) ∧ b = .int .i64 (hv c2) ∧ Below w.heap.size w wx)
  case first =>
    generalize c1.toNat = x1 at v1 C1
    generalize c2.toNat = x2 at v2 C2
    go_region_with (first
      | (go_at_call_of 204 (Value.int IntKind.u8 (x1 : Int)); refine (C1.out _ ?_).mono ?_; exact HTD.out; rintro e wz ⟨rfl, rfl⟩)
      | (go_at_call_of 204 (Value.int IntKind.u8 (x2 : Int)); refine (C2.out _ ?_).mono ?_; exact HTD.out; rintro e wz ⟨rfl, rfl⟩))
    all_goals (try go_wp2_with fail)
    all_goals go_meet
    all_goals exact ⟨rfl, rfl, (Below.refl _ _).drew⟩
  case rest =>
    obtain ⟨rfl, rfl, hb⟩ := hcut
    go_at_K
    clear C1 C2 v1 v2 HTD
    by_cases h1 : hv c1 < 0
    · have h1d : decide (hv c1 < 0) = true := decide_eq_true h1
      have HX : Hid (First o (.returned (.tuple #[.string ⟨#[]⟩, .int .i64 0]))) := first_none (by rw [HO3.out, if_pos (.inl h1)])
      clear HO3 Q12
      generalize hv c1 = y1 at h1 h1d ⊢
      generalize hv c2 = y2
      go_wp2
      go_ret2
      exact ⟨HX.out, hb⟩
    have h1d : decide (hv c1 < 0) = false := decide_eq_false h1
    by_cases h2 : hv c2 < 0
    · have h2d : decide (hv c2 < 0) = true := decide_eq_true h2
      have HX : Hid (First o (.returned (.tuple #[.string ⟨#[]⟩, .int .i64 0]))) := first_none (by rw [HO3.out, if_pos (.inr h2)])
      clear HO3 Q12
      generalize hv c1 = y1 at h1 h1d ⊢
      generalize hv c2 = y2 at h2 h2d ⊢
      go_wp2
      go_ret2
      exact ⟨HX.out, hb⟩
    have h2d : decide (hv c2 < 0) = false := decide_eq_false h2
    obtain ⟨y1, hy1⟩ : ∃ h : Nat, hv c1 = (h : Int) := ⟨(hv c1).toNat, by omega⟩
    obtain ⟨y2, hy2⟩ : ∃ h : Nat, hv c2 = (h : Int) := ⟨(hv c2).toNat, by omega⟩
    have k1 : y1 < 16 := by rcases Q12.out.1 with h | h <;> omega
    have k2 : y2 < 16 := by rcases Q12.out.2 with h | h <;> omega
    have HX : Hid (First o (.returned (.tuple #[.string ⟨#[UInt8.ofNat (y1 * 16 + y2)]⟩, .int .i64 3]))) := by
      have h5 := first_some (o := o) (p := [UInt8.ofNat (y1 * 16 + y2)]) (n := 3) (by rw [HO3.out, if_neg (by omega), hy1, hy2]; rfl)
      exact h5
    rw [hy1] at h1d ⊢
    rw [hy2] at h2d ⊢
    clear HO3 Q12 hy1 hy2 h1 h2
    have cvn := conv_new wc [UInt8.ofNat (y1 * 16 + y2)] (by simp)
    have eb : Lib.byteCells [UInt8.ofNat (y1 * 16 + y2)] = [Value.int .u8 ((y1 : Int) * 16 + (y2 : Int))] := by
      show [Value.int .u8 ((UInt8.ofNat (y1 * 16 + y2)).toNat : Int)] = _
      have : ((UInt8.ofNat (y1 * 16 + y2)).toNat : Int) = (y1 : Int) * 16 + (y2 : Int) := by rw [UInt8.toNat_ofNat']; omega
      rw [this]
    rw [eb] at cvn
    have cvn2 : (convert 22 9 (.slice (some ⟨wc.heap.size, 0, none⟩) 1 1)).run Tryz.prog (wc.alloc (.cells #[Value.int .u8 ((y1 : Int) * 16 + (y2 : Int))] 5)) = .ok (.string ⟨#[UInt8.ofNat (y1 * 16 + y2)]⟩) (wc.alloc (.cells #[Value.int .u8 ((y1 : Int) * 16 + (y2 : Int))] 5)) := cvn
    clear cvn eb
    have j1 : (y1 : Int) < 16 := by omega
    have j2 : (y2 : Int) < 16 := by omega
    generalize UInt8.ofNat (y1 * 16 + y2) = bb at HX cvn2
    have eo : bits .or .i64 ((y1 : Int) * 16) (y2 : Int) = (y1 : Int) * 16 + (y2 : Int) := by
      have h7 := b6.or_add 4 (y1 * 16) y2 (by omega) (by omega) (by omega) (by omega) (by decide)
      rw [show (((y1 * 16 : Nat)) : Int) = (y1 : Int) * 16 from by omega] at h7
      rw [h7]
      omega
    go_wp2
    go_ret2
    exact ⟨HX.out, hb.alloc hb.size _⟩
end Go.Proofs.YtadfdfmebdcfgaaGreatDoor.qu

namespace Go.Proofs.YtadfdfmebdcfgaaGreatDoor.qu
open Go.RowKit
set_option linter.unusedVariables false

theorem prefix_soft (s : ByteArray) : Lib.hasPrefix s.data.toList (⟨#[61, 13, 10]⟩ : ByteArray).data.toList = soft s.data.toList := by
  unfold Lib.hasPrefix
  rw [Bool.eq_iff_iff, List.isPrefixOf_iff_prefix, soft_iff]
  constructor
  · rintro ⟨t, ht⟩
    exact ⟨t, ht.symm⟩
  · rintro ⟨t, ht⟩
    exact ⟨t, ht.symm⟩
theorem pre3_any (s : ByteArray) (w : World) : Calls Tryz.prog 94 #[.string s, .string ⟨#[61, 13, 10]⟩] w fun e w' => e = .returned (.bool (soft s.data.toList)) ∧ w' = w := by
  have := Tryz.strings_HasPrefix s ⟨#[61, 13, 10]⟩ w
  rw [prefix_soft] at this
  exact this
theorem ls61 : ∀ c : UInt8, ((c.toNat : Int) == 61) = (c == 61) := fun c => b6.byte_all (p := fun c => ((c.toNat : Int) == 61) = (c == 61)) (by decide +kernel) c

set_option maxHeartbeats 2000000 in
set_option maxRecDepth 100000 in
theorem first_any (s : ByteArray) (w : World) (hs : s.size ≤ 65536) (h1 : 1 ≤ s.size) (hT : tb.TD w) :
    Calls Tryz.prog 171 #[.string s] w fun e w' => First (fq s.data.toList) e ∧ Below w.heap.size w w' := by
  have v0 := str_ix2 s 0 0 rfl (by omega)
  have HFQ : Hid (fq s.data.toList = if soft s.data.toList then some ([], 3) else if crlf s.data.toList then some ([13, 10], 2)
      else if s.data.toList.getD 0 0 = 61 then (if s.size < 3 ∨ hv (s.data.toList.getD 1 0) < 0 ∨ hv (s.data.toList.getD 2 0) < 0 then none else some ([UInt8.ofNat ((hv (s.data.toList.getD 1 0)).toNat * 16 + (hv (s.data.toList.getD 2 0)).toNat)], 3))
      else if 32 ≤ (s.data.toList.getD 0 0).toNat ∧ (s.data.toList.getD 0 0).toNat ≤ 126 then some ([s.data.toList.getD 0 0], 1) else none) := rfl
  have HBY : Hid (Calls Tryz.prog 192 #[.string s] w fun e w' => First (if s.size < 3 ∨ hv (s.data.toList.getD 1 0) < 0 ∨ hv (s.data.toList.getD 2 0) < 0 then none else some ([UInt8.ofNat ((hv (s.data.toList.getD 1 0)).toNat * 16 + (hv (s.data.toList.getD 2 0)).toNat)], 3)) e ∧ Below w.heap.size w w') := byte_any s w hs hT
  generalize (if s.size < 3 ∨ hv (s.data.toList.getD 1 0) < 0 ∨ hv (s.data.toList.getD 2 0) < 0 then none else some ([UInt8.ofNat ((hv (s.data.toList.getD 1 0)).toNat * 16 + (hv (s.data.toList.getD 2 0)).toNat)], 3)) = ob at HFQ HBY
  have HEX : Hid ((s.extract 0 1).data.toList = [s.data.toList.getD 0 0]) := by
    rw [Lib.extract_data, List.drop_zero]
    cases hh : s.data.toList with
    | nil => exact absurd (show s.data.toList.length = 0 by rw [hh]; rfl) (by show ¬ s.size = 0; omega)
    | cons a t => exact rfl
  generalize s.data.toList.getD 0 0 = c0 at v0 HFQ HEX
  have b61 := ls61 c0
  have hc0 := c0.toNat_lt
  have HL61 : Hid (((c0.toNat : Int) == 61) = (c0 == 61)) := b61
  clear b61 hT
  have h1' : (1 : Int) ≤ (s.size : Int) := by omega
  generalize hF : fq s.data.toList = F at HFQ
  clear hF
  go_enter Tryz.func171, Tryz.ntmps171
  go_wp2_with fail
  refine (pre3_any s _).mono ?_
  rintro e w1 ⟨rfl, hw1⟩
  subst hw1
  cases hso : soft s.data.toList
  case true =>
    have HX : Hid (First F (.returned (.tuple #[.string ⟨#[]⟩, .int .i64 3]))) := first_some (p := []) (n := 3) (by rw [HFQ.out, if_pos hso])
    clear HFQ HBY HEX
    go_wp2
    go_ret2
    exact ⟨HX.out, Below.refl _ _⟩
  case false =>
    go_wp2_with fail
    refine (pre_any s _).mono ?_
    rintro e w2 ⟨rfl, hw2⟩
    subst hw2
    cases hcr : crlf s.data.toList
    case true =>
      have HX : Hid (First F (.returned (.tuple #[.string ⟨#[13, 10]⟩, .int .i64 2]))) := first_some (p := [13, 10]) (n := 2) (by rw [HFQ.out, hso, if_neg (by decide), if_pos hcr])
      clear HFQ HBY HEX
      go_wp2
      go_ret2
      exact ⟨HX.out, Below.refl _ _⟩
    case false =>
      by_cases e61 : c0 = 61
      · have hb61 : ((c0.toNat : Int) == 61) = true := by rw [HL61.out, e61]; rfl
        have HOB : Hid (F = ob) := (show F = ob from by rw [HFQ.out, hso, hcr, if_neg (by decide), if_neg (by decide), if_pos e61])
        clear HFQ HEX e61 HL61
        go_wp2_with fail
        refine HBY.out.mono ?_
        rintro e w3 ⟨⟨p, rfl, hp⟩, hb⟩
        rw [← HOB.out] at hp ⊢
        have HP : Hid (p.data.toList = (F.map (·.1)).getD []) := hp
        clear hp HBY HOB
        go_wp2
        go_ret2
        exact ⟨⟨p, rfl, HP.out⟩, hb⟩
      · have hb61 : ((c0.toNat : Int) == 61) = false := by rw [HL61.out]; simpa using e61
        by_cases hin : 32 ≤ c0.toNat ∧ c0.toNat ≤ 126
        · have h32 : (32 : Int) ≤ (c0.toNat : Int) := by omega
          have h32d : decide ((32 : Int) ≤ (c0.toNat : Int)) = true := decide_eq_true h32
          have h126 : (c0.toNat : Int) ≤ 126 := by omega
          have h126d : decide ((c0.toNat : Int) ≤ 126) = true := decide_eq_true h126
          have HX : Hid (First F (.returned (.tuple #[.string (s.extract 0 1), .int .i64 1]))) := ⟨_, by rw [HFQ.out, hso, hcr, if_neg (by decide), if_neg (by decide), if_neg e61, if_pos hin]; rfl, by rw [HEX.out, HFQ.out, hso, hcr, if_neg (by decide), if_neg (by decide), if_neg e61, if_pos hin]; rfl⟩
          clear HFQ HBY HEX e61 HL61 hin
          generalize c0.toNat = x0 at v0 hb61 hc0 h32 h32d h126 h126d
          go_wp2
          go_ret2
          exact ⟨HX.out, Below.refl _ _⟩
        · have HX : Hid (First F (.returned (.tuple #[.string ⟨#[]⟩, .int .i64 0]))) := first_none (by rw [HFQ.out, hso, hcr, if_neg (by decide), if_neg (by decide), if_neg e61, if_neg hin])
          clear HFQ HBY HEX e61 HL61
          by_cases h32 : (32 : Int) ≤ (c0.toNat : Int)
          · have h32d : decide ((32 : Int) ≤ (c0.toNat : Int)) = true := decide_eq_true h32
            have h126d : decide ((c0.toNat : Int) ≤ 126) = false := decide_eq_false (by omega)
            clear hin
            generalize c0.toNat = x0 at v0 hb61 hc0 h32 h32d h126d
            go_wp2
            go_ret2
            exact ⟨HX.out, Below.refl _ _⟩
          · have h32d : decide ((32 : Int) ≤ (c0.toNat : Int)) = false := decide_eq_false h32
            clear hin
            generalize c0.toNat = x0 at v0 hb61 hc0 h32 h32d
            go_wp2
            go_ret2
            exact ⟨HX.out, Below.refl _ _⟩

/-- What both readings answer. -/
def Got (s : ByteArray) (base : Nat) (e : Ending) (w' : World) : Prop :=
  ∃ v, e = .returned (.tuple #[v, .int .i64 (uc s)]) ∧ w'.ownsRow base 5 1 v (ul s).length (Lib.byteCells (ul s))
theorem got_none {s : ByteArray} {base : Nat} {w : World} {c : Int} (h1 : ul s = []) (h2 : uc s = c) : Got s base (.returned (.tuple #[.slice none 0 0, .int .i64 c])) w :=
  ⟨_, by rw [h2], by rw [h1]; exact World.ownsRow_nil _ _ _ _⟩

set_option maxHeartbeats 4000000 in
set_option maxRecDepth 100000 in
theorem implUn_any (s : ByteArray) (w : World) (hT : tb.TD w) (hs : s.size ≤ maxLen) :
    Calls Tryz.prog 126 #[.string s] w fun e w' => Got s w.heap.size e w' ∧ Below w.heap.size w w' := by
  unfold maxLen at hs
  by_cases hl : s.size ≤ 65536
  case neg =>
    have hd : (65536 : Int) < (s.size : Int) := by omega
    have HX : Hid (ul s = [] ∧ uc s = 2) := ⟨if_neg hl, if_neg hl⟩
    clear hT
    go_enter Tryz.func126, Tryz.ntmps126
    go_wp2
    go_ret2
    exact ⟨got_none HX.out.1 HX.out.2, Below.refl _ _⟩
  have hld : decide (65536 < (s.size : Int)) = false := decide_eq_false (by omega)
  have hl' : (s.size : Int) ≤ 65536 := by omega
  obtain ⟨i0, hi, hz0, hz1, hz2⟩ := info_parts bl.info1
  have HTT : Hid (∀ W, Below w.heap.size w W → tb.TD W) := fun W hW => tb.keep' hT hW
  clear hT
  go_enter Tryz.func126, Tryz.ntmps126
  go_wp2_with (at_make; go_loud (refine wpList_make_own _ rfl _ _ 22 rfl w.heap.size 5 i0 (.int .u8 0) 1 Tryz.underlying22 hi hz0 hz1 _ _ _ s.size rfl rfl rfl (by rw [hz2]; omega) (by unfold maxLen; omega) (Nat.le_refl _) ?_); intro w1 hown1 hg1)
  have hbw1 : Below w.heap.size w w1 := (Below.refl _ _).grown hg1 (Nat.le_refl _) (fun k hk => by cases hk)
  clear hg1
  go_loopw [0, 4] (fun x b wr => ∃ (r : ByteArray) (q : List UInt8), x = .string r ∧ Hid (r.size + q.length ≤ s.size) ∧ Hid ((uq r.data.toList).map (q ++ ·) = uq s.data.toList) ∧ wr.ownsRow w.heap.size 5 1 b q.length (Lib.byteCells q) ∧ Below w.heap.size w wr) (fun x _ _ => sz x)
  case atStart => exact ⟨s, [], rfl, Nat.le_of_eq (Nat.add_zero _), (show (uq s.data.toList).map ([] ++ ·) = uq s.data.toList from by simp), hown1, hbw1⟩
  case round =>
    clear hown1 hbw1
    obtain ⟨r, q, rfl, HSZ, HQ, hown, hbw⟩ := hrel
    by_cases hr : r.size = 0
    · have hE : r.toList.isEmpty = true := by
        rw [ByteArray.toList_eq, List.isEmpty_iff]
        exact List.eq_nil_of_length_eq_zero hr
      have HX : Hid (ul s = q ∧ uc s = 0) := ul_some hl (by rw [← HQ.out, List.eq_nil_of_length_eq_zero (show r.data.toList.length = 0 from hr), uq_nil]; simp)
      clear HQ
      go_wp2
      go_ret2
      exact ⟨⟨_, by rw [HX.out.2]; rfl, by rw [HX.out.1]; exact hown⟩, hbw⟩
    · have hr1 : 1 ≤ r.size := by omega
      have hE : r.toList.isEmpty = false := by
        rw [ByteArray.toList_eq]
        cases hh : r.data.toList with
        | nil => exact absurd (show r.data.toList.length = 0 by rw [hh]; rfl) hr
        | cons => rfl
      have hne : r.data.toList ≠ [] := fun e => hr (show r.data.toList.length = 0 by rw [e]; rfl)
      have HNE : Hid (r.data.toList ≠ []) := hne
      clear hne
      go_wp2_with fail
      refine (first_any r _ (by have := HSZ.out; omega) hr1 (HTT.out _ hbw)).mono ?_
      rintro e w2 ⟨⟨p, rfl, hp⟩, hb2⟩
      have hbw2 := hbw.trans (hb2.mono hbw.size)
      have hown2 := ow.own_below hown hb2
      clear hown hb2 hbw
      cases hfq : fq r.data.toList with
      | none =>
        have HX : Hid (ul s = [] ∧ uc s = 3) := ul_none hl (u_fall HNE.out HQ.out hfq)
        clear HQ hown2 hp hfq
        go_wp2
        go_ret2
        exact ⟨got_none HX.out.1 HX.out.2, hbw2⟩
      | some pn =>
        obtain ⟨p', n⟩ := pn
        obtain ⟨k1, k2, k3⟩ := fq_size hfq HNE.out
        have k2 : n ≤ r.size := k2
        have HM : Hid ((uq (r.data.toList.drop n)).map ((q ++ p') ++ ·) = uq s.data.toList) := u_more HNE.out HQ.out hfq
        rw [hfq] at hp
        have hpp : p.data.toList = p' := hp
        have hpl : p.size = p'.length := by rw [← hpp]; rfl
        have HPP : Hid (p.data.toList = p') := hpp
        clear HQ hp hfq hpp
        simp only [Option.map_some, Option.getD_some]
        have hn0 : ((n : Int) == 0) = false := by rw [beq_eq_false_iff_ne]; omega
        have hn1 : (n : Int) ≤ (r.size : Int) := by omega
        have hn2 : (1 : Int) ≤ (n : Int) := by omega
        have hsw := hbw2.size
        go_wp2_with (at_builtin; go_loud (refine Lib.wpList_append_own_string _ rfl _ _ 22 9 rfl w.heap.size 5 i0 Tryz.underlying22 Tryz.underlying9 hi hz0 hz1 hz2 _ _ _ rfl hown2 p rfl (by have := HSZ.out; unfold maxLen; omega) (by have := HSZ.out; omega) hsw ?_); intro v' w3 hown' hgrow _)
        have hbz := hbw2.grown hgrow hsw (ow.own_lt hown2)
        have hown3 : w3.ownsRow w.heap.size 5 1 v' (q ++ p').length (Lib.byteCells (q ++ p')) := by
          rw [List.length_append, Lib.byteCells_append, ← HPP.out, ← Lib.strCells_eq]
          exact hown'
        exact ⟨⟨_, q ++ p', rfl, (show (r.extract n r.size).size + (q ++ p').length ≤ s.size from by rw [ext_size r n k2, List.length_append]; have := HSZ.out; omega), (by rw [ext_drop r n k2]; exact HM), hown3, hbz⟩, by show (r.extract n r.size).size < r.size; rw [ext_size r n k2]; omega⟩
end Go.Proofs.YtadfdfmebdcfgaaGreatDoor.qu

namespace Go.Proofs.YtadfdfmebdcfgaaGreatDoor.lfp
open Go.RowKit
set_option linter.unusedVariables false

/-- Each 13 ahead of a 10 left out. -/
def lfr : List UInt8 → List UInt8
  | [] => []
  | a :: l => (if a = 13 ∧ l.head? = some 10 then [] else [a]) ++ lfr l
theorem lfr_cons (a : UInt8) (l : List UInt8) : lfr (a :: l) = (if a = 13 ∧ l.head? = some 10 then [] else [a]) ++ lfr l := rfl
theorem lfr_len : ∀ l : List UInt8, (lfr l).length ≤ l.length
  | [] => Nat.le_refl _
  | a :: l => by
    have := lfr_len l
    rw [lfr_cons, List.length_append, List.length_cons]
    split <;> simp <;> omega
def cr : List UInt8 := [13, 10]
theorem cr_pre {c : UInt8} {r : List UInt8} : cr.isPrefixOf (c :: r) = true ↔ c = 13 ∧ r.head? = some 10 := by
  unfold cr
  cases r with
  | nil => simp [List.isPrefixOf]
  | cons b r =>
    simp only [List.isPrefixOf, Bool.and_true, Bool.and_eq_true, beq_iff_eq, List.head?_cons, Option.some.injEq]
    exact ⟨fun h => ⟨h.1.symm, h.2.symm⟩, fun h => ⟨h.1.symm, h.2.symm⟩⟩
theorem lfr_hit : ∀ (x : List UInt8) (i : Nat), Lib.index x cr = i → lfr x = x.take i ++ [10] ++ lfr (x.drop (i + 2))
  | [], i, h => by simp [Lib.index, cr] at h
  | c :: r, i, h => by
    rw [Lib.index] at h
    by_cases hp : cr.isPrefixOf (c :: r) = true
    · rw [if_pos hp] at h
      obtain rfl : i = 0 := by omega
      obtain ⟨rfl, hr⟩ := cr_pre.1 hp
      cases r with
      | nil => simp at hr
      | cons b r =>
        obtain rfl : b = 10 := by simpa using hr
        rw [lfr_cons, if_pos ⟨rfl, rfl⟩, lfr_cons, if_neg (by simp)]
        rfl
    · rw [if_neg hp] at h
      have hge := Lib.index_ge r cr
      by_cases h1 : Lib.index r cr = -1
      · rw [if_pos (by rw [h1]; rfl)] at h
        omega
      · rw [if_neg (by simpa using h1)] at h
        obtain ⟨j, rfl⟩ : ∃ j, i = j + 1 := ⟨i - 1, by omega⟩
        rw [lfr_cons, if_neg (fun e => hp (cr_pre.2 e)), lfr_hit r j (by omega)]
        simp
theorem lfr_miss : ∀ (x : List UInt8), Lib.index x cr = -1 → lfr x = x
  | [], h => rfl
  | c :: r, h => by
    rw [Lib.index] at h
    by_cases hp : cr.isPrefixOf (c :: r) = true
    · rw [if_pos hp] at h
      cases h
    · rw [if_neg hp] at h
      by_cases h1 : Lib.index r cr = -1
      · rw [lfr_cons, if_neg (fun e => hp (cr_pre.2 e)), lfr_miss r h1]
        rfl
      · rw [if_neg (by simpa using h1)] at h
        have := Lib.index_ge r cr
        omega
theorem lfr_rep : ∀ (n : Nat) (x : List UInt8), x.length ≤ n → Lib.replaceK cr [10] (Lib.count x cr) x = lfr x
  | n, x, hn => by
    by_cases h : Lib.index x cr = -1
    · rw [Lib.count_miss h, lfr_miss x h]
      rfl
    · obtain ⟨i, hi⟩ : ∃ i : Nat, Lib.index x cr = i := ⟨(Lib.index x cr).toNat, by have := Lib.index_ge x cr; omega⟩
      have hr := Lib.index_room x cr (by rw [hi]; omega)
      rw [hi] at hr
      have e1 : cr.length = 2 := rfl
      match n with
      | 0 => omega
      | n + 1 =>
        have hc := Lib.count_hit (s := x) (sub := cr) (i := i) (by simp [cr]) hi
        rw [hc, Nat.add_comm, Lib.replaceK_hit _ _ _ _ i hi, lfr_hit x i hi]
        rw [e1, lfr_rep n (x.drop (i + 2)) (by rw [List.length_drop]; omega)]
theorem replace_lfr (x : List UInt8) : Lib.replaceAll x cr [10] = lfr x := by
  unfold Lib.replaceAll Lib.replace Lib.replaceNum
  rw [if_neg (by simp [cr]), if_pos (.inl (by decide))]
  exact lfr_rep x.length x (Nat.le_refl _)
/-- The bytes ahead of a place, each told by the whole text. -/
def upto (l : List UInt8) (k : Nat) : List UInt8 := (List.range k).flatMap fun j => if l.getD j 0 = 13 ∧ l[j + 1]? = some 10 then [] else [l.getD j 0]
theorem upto_succ (l : List UInt8) (k : Nat) : upto l (k + 1) = upto l k ++ (if l.getD k 0 = 13 ∧ l[k + 1]? = some 10 then [] else [l.getD k 0]) := by
  unfold upto
  rw [List.range_succ, List.flatMap_append]
  simp
theorem upto_len (l : List UInt8) : ∀ k, (upto l k).length ≤ k
  | 0 => Nat.le_refl _
  | k + 1 => by
    have := upto_len l k
    rw [upto_succ, List.length_append]
    split <;> simp <;> omega
theorem upto_all : ∀ l : List UInt8, upto l l.length = lfr l
  | [] => rfl
  | a :: l => by
    have ih := upto_all l
    unfold upto at ih ⊢
    rw [List.length_cons, List.range_succ_eq_map, List.flatMap_cons, List.flatMap_map, lfr_cons, ← ih]
    simp [List.head?_eq_getElem?]
end Go.Proofs.YtadfdfmebdcfgaaGreatDoor.lfp

namespace Go.Proofs.YtadfdfmebdcfgaaGreatDoor.me
open Go.RowKit
open gr
set_option linter.unusedVariables false

/-- A body's quoted text. -/
def quoted (T : ByteArray) : ByteArray := ⟨(Lib.trimSuffix T.data.toList lfp.cr).toArray⟩
def ended (T : ByteArray) : Bool := Lib.hasSuffix T.data.toList lfp.cr
/-- What a body says, and whether it says anything. -/
def con (T : ByteArray) : ByteArray × Bool := if ended T = true ∧ qu.uc (quoted T) = 0 then (⟨(lfp.lfr (qu.ul (quoted T))).toArray⟩, true) else (⟨#[]⟩, false)
theorem con_yes {T : ByteArray} (h : ended T = true) (h2 : qu.uc (quoted T) = 0) : con T = (⟨(lfp.lfr (qu.ul (quoted T))).toArray⟩, true) := if_pos ⟨h, h2⟩
theorem con_no {T : ByteArray} (h : ¬ (ended T = true ∧ qu.uc (quoted T) = 0)) : con T = (⟨#[]⟩, false) := if_neg h
theorem quoted_len (T : ByteArray) : (quoted T).size ≤ T.size := by
  rw [Lib.size_eq, Lib.size_eq]
  show (Lib.trimSuffix T.data.toList lfp.cr).length ≤ _
  unfold Lib.trimSuffix
  split
  · rw [List.length_take]; omega
  · exact Nat.le_refl _

set_option maxHeartbeats 4000000 in
set_option maxRecDepth 100000 in
theorem content_any (a : Option Addr) (n cap : Nat) (T : ByteArray) (w : World) (m : Int) (hs : T.size ≤ 65536) (HT : ∀ w', Below w.heap.size w w' → w'.cell? ⟨4, 0, none⟩ = some (.int .i64 m) ∧ tb.TD w') :
    Calls Tryz.prog 69 #[.agg #[.slice a n cap, .string T]] w fun e w' => e = .returned (.tuple #[.string (con T).1, .bool (con T).2]) ∧ Below w.heap.size w w' := by
  have HTT : Hid (∀ w', Below w.heap.size w w' → w'.cell? ⟨4, 0, none⟩ = some (.int .i64 m) ∧ tb.TD w') := HT
  have L0 : b2.Box (w.alloc (.cells #[.slice a n cap, .string T] 43)) w.heap.size 43 (.slice a n cap) (.string T) := b2.new _ _ _ _
  have b0 : Below w.heap.size w (w.alloc (.cells #[.slice a n cap, .string T] 43)) := (Below.refl _ w).alloc (Nat.le_refl _) _
  have HCS : Hid (∀ W, Calls Tryz.prog 125 #[.string T, .string ⟨#[13, 10]⟩] W fun e w' => e = .returned (.tuple #[.string (quoted T), .bool (ended T)]) ∧ w' = W) := fun W => Tryz.strings_CutSuffix T ⟨#[13, 10]⟩ W (by omega)
  have hql := quoted_len T
  have HUL : Hid ((qu.ul (quoted T)).length ≤ 65536) := (show _ ≤ _ by have := qu.ul_len (quoted T); omega)
  clear HT
  go_enter Tryz.func69, Tryz.ntmps69
  go_upto_region 1 with fail
  generalize hW0 : World.alloc _ _ = W0 at L0 b0 ⊢
  clear hW0
  have c1 := L0.c1
  have HB0 : Hid (Below w.heap.size w W0) := b0
  clear L0 b0
  go_wp2_with (go_at_call 125; refine (HCS.out _).mono ?_; rintro e w1 ⟨rfl, rfl⟩)
  refine (qu.implUn_any (quoted T) _ (HTT.out _ HB0.out).2 (by unfold maxLen; omega)).mono ?_
  rintro e w2 ⟨⟨v, rfl, hown⟩, hb2⟩
  have HB2 : Hid (Below w.heap.size w w2) := HB0.out.trans (hb2.mono HB0.out.size)
  clear hb2 c1
  cases he : ended T with
  | false =>
    have HR : Hid (con T = (⟨#[]⟩, false)) := con_no (fun k => by rw [he] at k; cases k.1)
    clear he
    go_wp2
    go_ret2
    exact ⟨by rw [HR.out]; rfl, HB2.out⟩
  | true =>
    by_cases hc : qu.uc (quoted T) = 0
    · have HR : Hid (con T = (⟨(lfp.lfr (qu.ul (quoted T))).toArray⟩, true)) := con_yes he hc
      have d0 : (qu.uc (quoted T) == 0) = true := beq_iff_eq.2 hc
      have d1 : (qu.uc (quoted T) != 0) = false := by rw [hc]; rfl
      have cv := ow.conv_bytes (P := Tryz.prog) (src := 22) (dst := 9) (qu.ul (quoted T)) hown Tryz.underlying22 Tryz.underlying5 Tryz.underlying9
      have HRP : Hid (Calls Tryz.prog 48 #[.string ⟨(qu.ul (quoted T)).toArray⟩, .string ⟨#[13, 10]⟩, .string ⟨#[10]⟩] w2 fun e w' => e = .returned (.string ⟨(lfp.lfr (qu.ul (quoted T))).toArray⟩) ∧ Below w2.heap.size w2 w') := by
        have hz : (⟨(qu.ul (quoted T)).toArray⟩ : ByteArray).size ≤ 65536 := by rw [Lib.size_eq]; exact HUL.out
        have hk := Lib.countB_mul_le ⟨#[13, 10]⟩ (by decide) (⟨(qu.ul (quoted T)).toArray⟩ : ByteArray).size ⟨(qu.ul (quoted T)).toArray⟩ (Nat.le_refl _)
        have e1 : (⟨#[13, 10]⟩ : ByteArray).size = 2 := rfl
        have e2 : (⟨#[10]⟩ : ByteArray).size = 1 := rfl
        rw [e1] at hk
        have := Tryz.strings_ReplaceAll ⟨(qu.ul (quoted T)).toArray⟩ ⟨#[13, 10]⟩ ⟨#[10]⟩ m w2 (by omega) (HTT.out w2 HB2.out).1 (by decide) (by rw [e2]; omega)
        rw [show Lib.replaceAll (⟨(qu.ul (quoted T)).toArray⟩ : ByteArray).data.toList (⟨#[13, 10]⟩ : ByteArray).data.toList (⟨#[10]⟩ : ByteArray).data.toList = lfp.lfr (qu.ul (quoted T)) from lfp.replace_lfr _] at this
        exact this
      generalize (⟨(lfp.lfr (qu.ul (quoted T))).toArray⟩ : ByteArray) = R at HR HRP
      generalize (⟨(qu.ul (quoted T)).toArray⟩ : ByteArray) = U at cv HRP
      clear he hown
      go_wp2_with (go_at_call 48; refine HRP.out.mono ?_; rintro e w3 ⟨rfl, b3⟩)
      go_ret2
      exact ⟨by rw [HR.out]; rfl, HB2.out.trans (b3.mono HB2.out.size)⟩
    · have HR : Hid (con T = (⟨#[]⟩, false)) := con_no (fun k => hc k.2)
      have d0 : (qu.uc (quoted T) == 0) = false := beq_eq_false_iff_ne.2 hc
      have d1 : (qu.uc (quoted T) != 0) = true := by simp [hc]
      clear he
      go_wp2
      go_ret2
      exact ⟨by rw [HR.out]; rfl, HB2.out⟩
end Go.Proofs.YtadfdfmebdcfgaaGreatDoor.me
