/-
  The first field of a name, in letters of either size: both searches.
  The contract of the program's (header).has: whether a mail has each field of some names.
  Plain facts on runes and on the model's decoding of a byte string: which rune begins at a place, in the words of the specification's reader.
  Plain facts on the places at which a reader of a text stands: after n steps, and when every step finds a rune.
  Contracts of the functions on runes: what a rune's size is, which rune begins at a place of a text.
-/
import Derived.Test.YtadfdfmebdcfgaaGreatDoorPkah
import Derived.Test.YtadfdfmebdcfgaaGreatDoorPkad
import Derived.Test.YtadfdfmebdcfgaaGreatDoorPkab
import Derived.WalkKit
import Derived.Laws.RangeAny
import Derived.Lib.Strings
import Derived.Lib.IndexBytes
import Derived.Test.YtadfdfmebdcfgaaGreatDoorRows
import Derived.WalkLawsBesides

namespace Go.Proofs.YtadfdfmebdcfgaaGreatDoor.fo
open Go.RowKit
open fa lo gr
set_option linter.unusedVariables false

def sameB (a b : ByteArray) : Bool := decide (lower a.data.toList = lower b.data.toList)
/-- The first field of a name. -/
def find (ps : List Pr) (nm : ByteArray) : Option ByteArray := (ps.find? fun p => sameB p.1 nm).map (·.2)
theorem find_drop {ps : List Pr} {nm : ByteArray} {k : Nat} (h : find ps nm = find (ps.drop k) nm) (hk : k < ps.length) (hn : sameB (ps.getD k no).1 nm = false) : find ps nm = find (ps.drop (k + 1)) nm := by
  rw [h, List.drop_eq_getElem_cons hk]
  have e : ps.getD k no = ps[k] := by simp [List.getD_eq_getElem?_getD, hk]
  rw [e] at hn
  unfold find
  rw [List.find?_cons_of_neg (by rw [hn]; simp)]
theorem find_at {ps : List Pr} {nm : ByteArray} {k : Nat} (h : find ps nm = find (ps.drop k) nm) (hk : k < ps.length) (hn : sameB (ps.getD k no).1 nm = true) : find ps nm = some (ps.getD k no).2 := by
  rw [h, List.drop_eq_getElem_cons hk]
  have e : ps.getD k no = ps[k] := by simp [List.getD_eq_getElem?_getD, hk]
  rw [e] at hn ⊢
  unfold find
  rw [List.find?_cons_of_pos (p := fun p : Pr => sameB p.1 nm) hn]
  rfl
theorem find_end {ps : List Pr} {nm : ByteArray} {k : Nat} (h : find ps nm = find (ps.drop k) nm) (hk : ps.length ≤ k) : find ps nm = none := by
  rw [h, List.drop_eq_nil_of_le hk]
  rfl
theorem tl_same (a b : ByteArray) : ((⟨(lower a.data.toList).toArray⟩ : ByteArray).toList == (⟨(lower b.data.toList).toArray⟩ : ByteArray).toList) = sameB a b := by
  rw [Lib.toList_data, Lib.toList_data, Bool.eq_iff_iff, beq_iff_eq, sameB, decide_eq_true_iff]
/-- What a search answers. -/
def FRet (o : Option ByteArray) : Value := match o with
  | some v => .tuple #[.string v, .bool true]
  | none => .tuple #[.string ⟨#[]⟩, .bool false]

set_option maxHeartbeats 2000000 in
set_option maxRecDepth 100000 in
theorem same_any (a b : ByteArray) (w : World) (ha : a.size ≤ 1048576) (hb : b.size ≤ 1048576) :
    Calls Tryz.prog 118 #[.string a, .string b] w fun e w' => e = .returned (.bool (sameB a b)) ∧ Below w.heap.size w w' := by
  by_cases hl : a.size = b.size
  case neg =>
    have hd : ((a.size : Int) == (b.size : Int)) = false := beq_eq_false_iff_ne.2 (by omega)
    have HF : Hid (sameB a b = false) := (show sameB a b = false from decide_eq_false (fun h => hl (by have := congrArg List.length h; rw [lower_len, lower_len] at this; rw [Lib.size_eq, Lib.size_eq]; exact this)))
    go_enter Tryz.func118, Tryz.ntmps118
    go_wp2
    go_ret
    exact ⟨by rw [HF.out]; rfl, Below.refl _ _⟩
  have hd : ((a.size : Int) == (b.size : Int)) = true := beq_iff_eq.2 (by omega)
  have HT := tl_same a b
  have HA : Hid (∀ W, Calls Tryz.prog 163 #[.string a] W fun e w' => e = .returned (.string ⟨(lower a.data.toList).toArray⟩) ∧ Below W.heap.size W w') := fun W => impl_lower a W ha
  have HB : Hid (∀ W, Calls Tryz.prog 163 #[.string b] W fun e w' => e = .returned (.string ⟨(lower b.data.toList).toArray⟩) ∧ Below W.heap.size W w') := fun W => impl_lower b W hb
  generalize (⟨(lower a.data.toList).toArray⟩ : ByteArray) = A at HT HA
  generalize (⟨(lower b.data.toList).toArray⟩ : ByteArray) = B at HT HB
  generalize sameB a b = R at HT ⊢
  go_enter Tryz.func118, Tryz.ntmps118
  go_wp2_with fail
  refine (HA.out _).mono ?_
  rintro e w1 ⟨rfl, b1⟩
  go_wp2_with fail
  refine (HB.out _).mono ?_
  rintro e w2 ⟨rfl, b2⟩
  have b3 := b1.trans (b2.mono b1.size)
  go_wp2
  go_ret
  exact ⟨rfl, b3⟩
set_option maxHeartbeats 4000000 in
set_option maxRecDepth 100000 in
theorem value_any (v : Value) (ps : List Pr) (nm : ByteArray) (w : World) (h : AttrsAt w v ps) (hsm : Small ps) (hn : nm.size ≤ 1048576) :
    Calls Tryz.prog 67 #[v, .string nm] w fun e w' => e = .returned (FRet (find ps nm)) ∧ Below w.heap.size w w' := by
  obtain ⟨a, cap, rfl, h⟩ := h
  obtain ⟨n, hn'⟩ : ∃ n, n = ps.length := ⟨_, rfl⟩
  have HN : Hid (n = ps.length) := hn'
  have HH : Hid (ps = [] ∨ ∃ b off, a = some ⟨b, off, none⟩ ∧ ∀ j, j < ps.length → w.cell? ⟨b, off + j * 2, none⟩ = some (.string (ps.getD j no).1) ∧ w.cell? ⟨b, off + j * 2 + 1, none⟩ = some (.string (ps.getD j no).2)) := h
  have HS : Hid (Small ps) := hsm
  have hln : n ≤ 1048576 := by rw [hn']; exact hsm.1
  rw [← hn']
  clear h hsm hn'
  go_enter Tryz.func67, Tryz.ntmps67
  go_wp2
  go_loopw [10] (fun i wr => ∃ k : Nat, k ≤ n ∧ i = .int .i64 k ∧ find ps nm = find (ps.drop k) nm ∧ Below w.heap.size w wr) (fun i _ => n - (intOf i).toNat)
  case atStart => exact ⟨0, Nat.zero_le _, rfl, rfl, Below.refl _ _⟩
  case round =>
    obtain ⟨k, hk, rfl, hf, hbw⟩ := hrel
    have HF : Hid (find ps nm = find (ps.drop k) nm) := hf
    clear hf
    by_cases hlt : k < n
    · have hlt' : (k : Int) < (n : Int) := by omega
      have hka : k < ps.length := by rw [← HN.out]; exact hlt
      have hsz := HS.out.2 k hka
      rcases HH.out with e | ⟨b, off, rfl, hcells⟩
      · rw [e] at hka; simp at hka
      obtain ⟨v0, v1⟩ := hcells k hka
      have hblt : b < w.heap.size := World.block_lt_of_cell? w _ v0
      have c0 := (hbw.cell (p := ⟨b, off + k * 2, none⟩) hblt).trans v0
      have c1 := (hbw.cell (p := ⟨b, off + k * 2 + 1, none⟩) hblt).trans v1
      have HFN : Hid (sameB (ps.getD k no).1 nm = false → find ps nm = find (ps.drop (k + 1)) nm) := fun h => find_drop HF.out hka h
      have HFA : Hid (sameB (ps.getD k no).1 nm = true → find ps nm = some (ps.getD k no).2) := fun h => find_at HF.out hka h
      clear hcells v0 v1 hka
      generalize (ps.getD k no).1 = nk at c0 hsz HFN HFA
      generalize (ps.getD k no).2 = vk at c1 hsz HFA
      have HB0 : Hid (Below w.heap.size w wr) := hbw
      have HX : Hid (b2.Box (wr.alloc (.cells #[.string nk, .string vk] 81)) wr.heap.size 81 (.string nk) (.string vk)) := b2.new _ _ _ _
      have HB1 : Hid (Below w.heap.size w (wr.alloc (.cells #[.string nk, .string vk] 81))) := hbw.alloc hbw.size _
      clear hbw
      go_wp2_with fail
      generalize hW : World.alloc _ _ = W at HX HB1 ⊢
      clear hW c0 c1
      refine (same_any nk nm W hsz.1 hn).mono ?_
      rintro e w2 ⟨rfl, hb2⟩
      have HB2 : Hid (Below w.heap.size w w2) := HB1.out.trans (hb2.mono HB1.out.size)
      have d1 := (HX.out.below hb2).c1
      clear hb2
      cases hsb : sameB nk nm with
      | true =>
        have HR : Hid (FRet (find ps nm) = .tuple #[.string vk, .bool true]) := (show _ = _ by rw [HFA.out hsb]; rfl)
        clear hsb
        go_wp2
        go_ret2
        exact ⟨by rw [HR.out]; rfl, HB2.out⟩
      | false =>
        have HR : Hid (find ps nm = find (ps.drop (k + 1)) nm) := HFN.out hsb
        clear hsb
        go_wp2
        go_roundw
        case rel => exact ⟨k + 1, by omega, by go_num, HR.out, HB2.out⟩
        case measure => simp [intOf]; omega
    · have hlt' : ¬ (k : Int) < (n : Int) := by omega
      have HR : Hid (FRet (find ps nm) = .tuple #[.string ⟨#[]⟩, .bool false]) := (show _ = _ by rw [find_end HF.out (by have := HN.out; omega)]; rfl)
      go_wp2
      go_ret2
      exact ⟨by rw [HR.out]; rfl, hbw⟩
end Go.Proofs.YtadfdfmebdcfgaaGreatDoor.fo

namespace Go.Proofs.YtadfdfmebdcfgaaGreatDoor.me
open Go.RowKit
open fa fo gr
set_option linter.unusedVariables false

/-- Texts in a row. -/
def TxtsAt (w : World) (b off : Nat) (ns : List ByteArray) : Prop := ∀ j (hj : j < ns.length), w.cell? ⟨b, off + j, none⟩ = some (.string (ns[j]))
def hasAll (ps : List Pr) (ns : List ByteArray) : Bool := ns.all fun nm => (find ps nm).isSome
theorem hasAll_take {ps : List Pr} {ns : List ByteArray} {k : Nat} (h : hasAll ps (ns.take k) = true) (hk : k < ns.length) (hf : (find ps (ns[k])).isSome = true) : hasAll ps (ns.take (k + 1)) = true := by
  unfold hasAll at h ⊢
  rw [List.take_succ_eq_append_getElem hk, List.all_append, h]
  simpa using hf
theorem hasAll_no {ps : List Pr} {ns : List ByteArray} {k : Nat} (hk : k < ns.length) (hf : find ps (ns[k]) = none) : hasAll ps ns = false := by
  unfold hasAll
  rw [List.all_eq_false]
  exact ⟨ns[k], List.getElem_mem hk, by rw [hf]; simp⟩

set_option maxHeartbeats 4000000 in
set_option maxRecDepth 100000 in
theorem has_any (v : Value) (ps : List Pr) (b off cap : Nat) (ns : List ByteArray) (w : World) (h : AttrsAt w v ps) (hsm : Small ps) (hns : TxtsAt w b off ns) (hl : ns.length ≤ 40) (hz : ∀ s ∈ ns, s.size ≤ 40) :
    Calls Tryz.prog 25 #[v, .slice (some ⟨b, off, none⟩) ns.length cap] w fun e w' => e = .returned (.bool (hasAll ps ns)) ∧ Below w.heap.size w w' := by
  obtain ⟨n, hn'⟩ : ∃ n, n = ns.length := ⟨_, rfl⟩
  have HN : Hid (n = ns.length) := hn'
  have HV : Hid (∀ (W : World) (nm : ByteArray), Below w.heap.size w W → nm.size ≤ 40 → Calls Tryz.prog 67 #[v, .string nm] W fun e w' => e = .returned (FRet (find ps nm)) ∧ Below W.heap.size W w') := fun W nm hW hz => value_any v ps nm W (at_below h hW) hsm (by omega)
  have HC : Hid (TxtsAt w b off ns) := hns
  have HZ : Hid (∀ s ∈ ns, s.size ≤ 40) := hz
  have hln : n ≤ 40 := by rw [hn']; exact hl
  rw [← hn']
  clear h hsm hns hz hn' hl
  go_enter Tryz.func25, Tryz.ntmps25
  go_wp2
  go_loopw [11] (fun i wr => ∃ k : Nat, k ≤ n ∧ i = .int .i64 k ∧ hasAll ps (ns.take k) = true ∧ Below w.heap.size w wr) (fun i _ => n - (intOf i).toNat)
  case atStart => exact ⟨0, Nat.zero_le _, rfl, rfl, Below.refl _ _⟩
  case round =>
    obtain ⟨k, hk, rfl, hf, hbw⟩ := hrel
    have HF : Hid (hasAll ps (ns.take k) = true) := hf
    clear hf
    by_cases hlt : k < n
    · have hlt' : (k : Int) < (n : Int) := by omega
      have hka : k < ns.length := by rw [← HN.out]; exact hlt
      have v0 := HC.out k hka
      have hblt : b < w.heap.size := World.block_lt_of_cell? w _ v0
      have c0 := (hbw.cell (p := ⟨b, off + k, none⟩) hblt).trans v0
      have HCV : Hid (Calls Tryz.prog 67 #[v, .string (ns[k])] wr fun e w' => e = .returned (FRet (find ps (ns[k]))) ∧ Below wr.heap.size wr w') := HV.out wr _ hbw (HZ.out _ (List.getElem_mem hka))
      have HY : Hid ((find ps (ns[k])).isSome = true → hasAll ps (ns.take (k + 1)) = true) := fun h => hasAll_take HF.out hka h
      have HNO : Hid (find ps (ns[k]) = none → hasAll ps ns = false) := fun h => hasAll_no hka h
      generalize ns[k] = s at c0 HCV HY HNO
      have HB0 : Hid (Below w.heap.size w wr) := hbw
      clear v0 hka hbw
      cases hfd : find ps s with
      | none =>
        have HR : Hid (hasAll ps ns = false) := HNO.out hfd
        rw [hfd] at HCV
        unfold FRet at HCV
        clear hfd
        go_wp2_with (go_at_call 67; refine HCV.out.mono ?_; rintro e w2 ⟨rfl, hb2⟩)
        go_ret
        exact ⟨by rw [HR.out]; rfl, HB0.out.trans (hb2.mono HB0.out.size)⟩
      | some x =>
        have HR : Hid (hasAll ps (ns.take (k + 1)) = true) := HY.out (by rw [hfd]; rfl)
        rw [hfd] at HCV
        unfold FRet at HCV
        clear hfd
        go_wp2_with (go_at_call 67; refine HCV.out.mono ?_; rintro e w2 ⟨rfl, hb2⟩)
        have HB2 : Hid (Below w.heap.size w w2) := HB0.out.trans (hb2.mono HB0.out.size)
        go_roundw
        case rel => exact ⟨k + 1, by omega, by go_num, HR.out, HB2.out⟩
        case measure => simp [intOf]; omega
    · have hlt' : ¬ (k : Int) < (n : Int) := by omega
      have HR : Hid (hasAll ps ns = true) := (show _ = _ by have := HF.out; rwa [List.take_of_length_le (by have := HN.out; omega)] at this)
      go_wp2
      go_ret
      exact ⟨by rw [HR.out]; rfl, hbw⟩
end Go.Proofs.YtadfdfmebdcfgaaGreatDoor.me

namespace Go.Proofs.YtadfdfmebdcfgaaGreatDoor.ut
open Go.RowKit

theorem ret_bool {a b : Bool} (h : a = b) : Ending.returned (.bool a) = .returned (.bool b) := by rw [h]
theorem ret_int {k : IntKind} {a b : Int} (h : a = b) : Ending.returned (.int k a) = .returned (.int k b) := by rw [h]

def inB (n a b : Int) : Bool := decide (a ≤ n ∧ n ≤ b)
def scB (n : Int) : Bool := inB n 0 55295 || inB n 57344 1114111
def rsz (n : Int) : Int := if scB n = true then (if n < 128 then 1 else if n < 2048 then 2 else if n < 65536 then 3 else 4) else 0

/-- The model's decoding, its bytes as numbers. -/
def decF (n k b0 b1 b2 b3 : Nat) : Nat × Nat :=
  if b0 < 128 then (b0, 1)
  else if b0 / 32 == 6 && (decide (k + 1 < n) && b1 / 64 == 2) then
    if (b0 % 32) * 64 + b1 % 64 ≥ 128 then ((b0 % 32) * 64 + b1 % 64, 2) else (65533, 1)
  else if b0 / 16 == 14 && (decide (k + 1 < n) && b1 / 64 == 2) && (decide (k + 2 < n) && b2 / 64 == 2) then
    if decide ((b0 % 16) * 4096 + (b1 % 64) * 64 + b2 % 64 ≥ 2048) && Utf8.valid (((b0 % 16) * 4096 + (b1 % 64) * 64 + b2 % 64 : Nat) : Int) then ((b0 % 16) * 4096 + (b1 % 64) * 64 + b2 % 64, 3) else (65533, 1)
  else if b0 / 8 == 30 && (decide (k + 1 < n) && b1 / 64 == 2) && (decide (k + 2 < n) && b2 / 64 == 2) && (decide (k + 3 < n) && b3 / 64 == 2) then
    if decide ((b0 % 8) * 262144 + (b1 % 64) * 4096 + (b2 % 64) * 64 + b3 % 64 ≥ 65536) && Utf8.valid (((b0 % 8) * 262144 + (b1 % 64) * 4096 + (b2 % 64) * 64 + b3 % 64 : Nat) : Int) then ((b0 % 8) * 262144 + (b1 % 64) * 4096 + (b2 % 64) * 64 + b3 % 64, 4) else (65533, 1)
  else (65533, 1)

theorem dec_eq (s : ByteArray) (k : Nat) : Utf8.decode s k = decF s.size k (s.get! k).toNat (s.get! (k + 1)).toNat (s.get! (k + 2)).toNat (s.get! (k + 3)).toNat := rfl

theorem get_byte (s : ByteArray) (i : Nat) (h : i < s.size) : s.get! i = s[i]'h := by
  simp [ByteArray.get!, getElem!_pos, h]
  rfl

/-- No rune begins at this place. -/
def badAt (s : ByteArray) (k : Nat) : Prop := Utf8.decode s k = (65533, 1)
/-- What the specification's reader answers at a place. -/
def RuneRet (s : ByteArray) (k : Nat) (e : Ending) : Prop :=
  (badAt s k ∧ e = .returned (.tuple #[.int .i64 0, .int .i64 1, .bool false])) ∨
  (¬ badAt s k ∧ e = .returned (.tuple #[.int .i64 (Utf8.decode s k).1, .int .i64 (Utf8.decode s k).2, .bool true]))

theorem F1 {n k b0 b1 b2 b3 : Nat} (h : b0 < 128) : decF n k b0 b1 b2 b3 = (b0, 1) := by simp [decF, h]
theorem F2 {n k b0 b1 b2 b3 : Nat} (h : 194 ≤ b0) (h' : b0 ≤ 223) (hn : k + 1 < n) (c : 128 ≤ b1) (c' : b1 ≤ 191) :
    decF n k b0 b1 b2 b3 = ((b0 - 192) * 64 + (b1 - 128), 2) := by
  have e0 : b0 / 32 = 6 := by omega
  have e1 : b1 / 64 = 2 := by omega
  have e2 : (b0 % 32) * 64 + b1 % 64 ≥ 128 := by omega
  have e3 : ¬ b0 < 128 := by omega
  simp only [decF, e0, e1, e2, e3, hn]
  simp
  omega
theorem F3 {n k b0 b1 b2 b3 : Nat} (h : 224 ≤ b0) (h' : b0 ≤ 239) (hn : k + 2 < n) (c : 128 ≤ b1) (c' : b1 ≤ 191) (d : 128 ≤ b2) (d' : b2 ≤ 191) :
    decF n k b0 b1 b2 b3 = if 2048 ≤ (b0 - 224) * 4096 + (b1 - 128) * 64 + (b2 - 128) ∧ ((b0 - 224) * 4096 + (b1 - 128) * 64 + (b2 - 128) < 55296 ∨ 57344 ≤ (b0 - 224) * 4096 + (b1 - 128) * 64 + (b2 - 128)) then ((b0 - 224) * 4096 + (b1 - 128) * 64 + (b2 - 128), 3) else (65533, 1) := by
  have e0 : ¬ b0 / 32 = 6 := by omega
  have f0 : b0 / 16 = 14 := by omega
  have e1 : b1 / 64 = 2 := by omega
  have e2 : b2 / 64 = 2 := by omega
  have e3 : ¬ b0 < 128 := by omega
  have hn1 : k + 1 < n := by omega
  have ec : (b0 % 16) * 4096 + (b1 % 64) * 64 + b2 % 64 = (b0 - 224) * 4096 + (b1 - 128) * 64 + (b2 - 128) := by omega
  have hc : (b0 - 224) * 4096 + (b1 - 128) * 64 + (b2 - 128) < 65536 := by omega
  unfold decF
  rw [if_neg e3, if_neg (by simp [e0]), if_pos (by simp [f0, e1, e2, hn, hn1]), ec]
  generalize (b0 - 224) * 4096 + (b1 - 128) * 64 + (b2 - 128) = m at hc
  have hiff : (decide (m ≥ 2048) && Utf8.valid (m : Int)) = true ↔ 2048 ≤ m ∧ (m < 55296 ∨ 57344 ≤ m) := by simp [Utf8.valid]; omega
  by_cases g : 2048 ≤ m ∧ (m < 55296 ∨ 57344 ≤ m)
  · rw [if_pos g, if_pos (hiff.2 g)]
  · rw [if_neg g, if_neg (fun x => g (hiff.1 x))]
theorem F4 {n k b0 b1 b2 b3 : Nat} (h : 240 ≤ b0) (h' : b0 ≤ 244) (hn : k + 3 < n) (c : 128 ≤ b1) (c' : b1 ≤ 191) (d : 128 ≤ b2) (d' : b2 ≤ 191) (f : 128 ≤ b3) (f' : b3 ≤ 191) :
    decF n k b0 b1 b2 b3 = if 65536 ≤ (b0 - 240) * 262144 + (b1 - 128) * 4096 + (b2 - 128) * 64 + (b3 - 128) ∧ (b0 - 240) * 262144 + (b1 - 128) * 4096 + (b2 - 128) * 64 + (b3 - 128) ≤ 1114111 then ((b0 - 240) * 262144 + (b1 - 128) * 4096 + (b2 - 128) * 64 + (b3 - 128), 4) else (65533, 1) := by
  have e0 : ¬ b0 / 32 = 6 := by omega
  have f0 : ¬ b0 / 16 = 14 := by omega
  have g0 : b0 / 8 = 30 := by omega
  have e1 : b1 / 64 = 2 := by omega
  have e2 : b2 / 64 = 2 := by omega
  have e4 : b3 / 64 = 2 := by omega
  have e3 : ¬ b0 < 128 := by omega
  have hn1 : k + 1 < n := by omega
  have hn2 : k + 2 < n := by omega
  have ec : (b0 % 8) * 262144 + (b1 % 64) * 4096 + (b2 % 64) * 64 + b3 % 64 = (b0 - 240) * 262144 + (b1 - 128) * 4096 + (b2 - 128) * 64 + (b3 - 128) := by omega
  unfold decF
  rw [if_neg e3, if_neg (by simp [e0]), if_neg (by simp [f0]), if_pos (by simp [g0, e1, e2, e4, hn, hn1, hn2]), ec]
  generalize (b0 - 240) * 262144 + (b1 - 128) * 4096 + (b2 - 128) * 64 + (b3 - 128) = m
  have hiff : (decide (m ≥ 65536) && Utf8.valid (m : Int)) = true ↔ 65536 ≤ m ∧ m ≤ 1114111 := by simp [Utf8.valid]; omega
  by_cases g : 65536 ≤ m ∧ m ≤ 1114111
  · rw [if_pos g, if_pos (hiff.2 g)]
  · rw [if_neg g, if_neg (fun x => g (hiff.1 x))]
theorem Fbad {n k b0 b1 b2 b3 : Nat} (h0 : 128 ≤ b0)
    (h : b0 < 194 ∨ 245 ≤ b0 ∨ n ≤ k + 1 ∨ b1 < 128 ∨ 192 ≤ b1 ∨ (224 ≤ b0 ∧ (n ≤ k + 2 ∨ b2 < 128 ∨ 192 ≤ b2)) ∨ (240 ≤ b0 ∧ (n ≤ k + 3 ∨ b3 < 128 ∨ 192 ≤ b3))) :
    decF n k b0 b1 b2 b3 = (65533, 1) := by
  have e3 : ¬ b0 < 128 := by omega
  unfold decF
  rw [if_neg e3]
  split
  · rename_i g
    simp at g
    rw [if_neg (by omega)]
  split
  · rename_i g
    simp at g
    exfalso
    omega
  split
  · rename_i g
    simp at g
    rw [if_neg]
    simp [Utf8.valid]
    omega
  · rfl

section
variable {s : ByteArray} {k : Nat}
theorem r_ok1 (hk : k < s.size) (h : ((s[k]'hk).toNat : Int) < 128) : RuneRet s k (.returned (.tuple #[.int .i64 ((s[k]'hk).toNat : Int), .int .i64 1, .bool true])) := by
  have e : Utf8.decode s k = ((s[k]'hk).toNat, 1) := by rw [dec_eq, get_byte s k hk, F1 (by omega)]
  refine .inr ⟨fun hb => ?_, by rw [e]; rfl⟩
  rw [badAt, e] at hb
  simp at hb
  omega
theorem r_ok2 (hk : k < s.size) (h1 : k + 1 < s.size) (h : 194 ≤ ((s[k]'hk).toNat : Int)) (h' : ((s[k]'hk).toNat : Int) ≤ 223)
    (c : 128 ≤ ((s[k + 1]'h1).toNat : Int)) (c' : ((s[k + 1]'h1).toNat : Int) ≤ 191) :
    RuneRet s k (.returned (.tuple #[.int .i64 ((((s[k]'hk).toNat : Int) - 192) * 64 + ((s[k + 1]'h1).toNat : Int) - 128), .int .i64 2, .bool true])) := by
  have e : Utf8.decode s k = (((s[k]'hk).toNat - 192) * 64 + ((s[k + 1]'h1).toNat - 128), 2) := by rw [dec_eq, get_byte s k hk, get_byte s (k + 1) h1, F2 (by omega) (by omega) h1 (by omega) (by omega)]
  refine .inr ⟨fun hb => ?_, ?_⟩
  · rw [badAt, e] at hb
    simp at hb
  · rw [e]
    have e2 : (((s[k]'hk).toNat : Int) - 192) * 64 + ((s[k + 1]'h1).toNat : Int) - 128 = ((((s[k]'hk).toNat - 192) * 64 + ((s[k + 1]'h1).toNat - 128) : Nat) : Int) := by omega
    rw [e2]
    rfl
theorem r_ok3 (hk : k < s.size) (h1 : k + 1 < s.size) (h2 : k + 2 < s.size) (h : 224 ≤ ((s[k]'hk).toNat : Int)) (h' : ((s[k]'hk).toNat : Int) ≤ 239)
    (c : 128 ≤ ((s[k + 1]'h1).toNat : Int)) (c' : ((s[k + 1]'h1).toNat : Int) ≤ 191) (d : 128 ≤ ((s[k + 2]'h2).toNat : Int)) (d' : ((s[k + 2]'h2).toNat : Int) ≤ 191)
    (g : 2048 ≤ ((((s[k]'hk).toNat : Int) - 224) * 64 + ((s[k + 1]'h1).toNat : Int) - 128) * 64 + ((s[k + 2]'h2).toNat : Int) - 128)
    (g' : ((((s[k]'hk).toNat : Int) - 224) * 64 + ((s[k + 1]'h1).toNat : Int) - 128) * 64 + ((s[k + 2]'h2).toNat : Int) - 128 ≤ 55295 ∨ 57344 ≤ ((((s[k]'hk).toNat : Int) - 224) * 64 + ((s[k + 1]'h1).toNat : Int) - 128) * 64 + ((s[k + 2]'h2).toNat : Int) - 128) :
    RuneRet s k (.returned (.tuple #[.int .i64 (((((s[k]'hk).toNat : Int) - 224) * 64 + ((s[k + 1]'h1).toNat : Int) - 128) * 64 + ((s[k + 2]'h2).toNat : Int) - 128), .int .i64 3, .bool true])) := by
  have e : Utf8.decode s k = (((s[k]'hk).toNat - 224) * 4096 + ((s[k + 1]'h1).toNat - 128) * 64 + ((s[k + 2]'h2).toNat - 128), 3) := by
    rw [dec_eq, get_byte s k hk, get_byte s (k + 1) h1, get_byte s (k + 2) h2, F3 (by omega) (by omega) h2 (by omega) (by omega) (by omega) (by omega), if_pos (by omega)]
  refine .inr ⟨fun hb => ?_, ?_⟩
  · rw [badAt, e] at hb
    simp at hb
  · rw [e]
    have e2 : ((((s[k]'hk).toNat : Int) - 224) * 64 + ((s[k + 1]'h1).toNat : Int) - 128) * 64 + ((s[k + 2]'h2).toNat : Int) - 128 = ((((s[k]'hk).toNat - 224) * 4096 + ((s[k + 1]'h1).toNat - 128) * 64 + ((s[k + 2]'h2).toNat - 128) : Nat) : Int) := by omega
    rw [e2]
    rfl
theorem r_ok4 (hk : k < s.size) (h1 : k + 1 < s.size) (h2 : k + 2 < s.size) (h3 : k + 3 < s.size) (h : 240 ≤ ((s[k]'hk).toNat : Int)) (h' : ((s[k]'hk).toNat : Int) ≤ 244)
    (c : 128 ≤ ((s[k + 1]'h1).toNat : Int)) (c' : ((s[k + 1]'h1).toNat : Int) ≤ 191) (d : 128 ≤ ((s[k + 2]'h2).toNat : Int)) (d' : ((s[k + 2]'h2).toNat : Int) ≤ 191)
    (f : 128 ≤ ((s[k + 3]'h3).toNat : Int)) (f' : ((s[k + 3]'h3).toNat : Int) ≤ 191)
    (g : 65536 ≤ (((((s[k]'hk).toNat : Int) - 240) * 64 + ((s[k + 1]'h1).toNat : Int) - 128) * 64 + ((s[k + 2]'h2).toNat : Int) - 128) * 64 + ((s[k + 3]'h3).toNat : Int) - 128)
    (g' : (((((s[k]'hk).toNat : Int) - 240) * 64 + ((s[k + 1]'h1).toNat : Int) - 128) * 64 + ((s[k + 2]'h2).toNat : Int) - 128) * 64 + ((s[k + 3]'h3).toNat : Int) - 128 ≤ 1114111) :
    RuneRet s k (.returned (.tuple #[.int .i64 ((((((s[k]'hk).toNat : Int) - 240) * 64 + ((s[k + 1]'h1).toNat : Int) - 128) * 64 + ((s[k + 2]'h2).toNat : Int) - 128) * 64 + ((s[k + 3]'h3).toNat : Int) - 128), .int .i64 4, .bool true])) := by
  have e : Utf8.decode s k = (((s[k]'hk).toNat - 240) * 262144 + ((s[k + 1]'h1).toNat - 128) * 4096 + ((s[k + 2]'h2).toNat - 128) * 64 + ((s[k + 3]'h3).toNat - 128), 4) := by
    rw [dec_eq, get_byte s k hk, get_byte s (k + 1) h1, get_byte s (k + 2) h2, get_byte s (k + 3) h3, F4 (by omega) (by omega) h3 (by omega) (by omega) (by omega) (by omega) (by omega) (by omega), if_pos (by omega)]
  refine .inr ⟨fun hb => ?_, ?_⟩
  · rw [badAt, e] at hb
    simp at hb
  · rw [e]
    have e2 : (((((s[k]'hk).toNat : Int) - 240) * 64 + ((s[k + 1]'h1).toNat : Int) - 128) * 64 + ((s[k + 2]'h2).toNat : Int) - 128) * 64 + ((s[k + 3]'h3).toNat : Int) - 128 = ((((s[k]'hk).toNat - 240) * 262144 + ((s[k + 1]'h1).toNat - 128) * 4096 + ((s[k + 2]'h2).toNat - 128) * 64 + ((s[k + 3]'h3).toNat - 128) : Nat) : Int) := by omega
    rw [e2]
    rfl
theorem r_bad (h : badAt s k) : RuneRet s k (.returned (.tuple #[.int .i64 0, .int .i64 1, .bool false])) := .inl ⟨h, rfl⟩
theorem b_lead (hk : k < s.size) (h0 : 128 ≤ ((s[k]'hk).toNat : Int)) (h : ((s[k]'hk).toNat : Int) < 194 ∨ 244 < ((s[k]'hk).toNat : Int)) : badAt s k := by
  rw [badAt, dec_eq, get_byte s k hk, Fbad (by omega) (by omega)]
theorem b_short2 (hk : k < s.size) (h0 : 128 ≤ ((s[k]'hk).toNat : Int)) (h : s.size < k + 2) : badAt s k := by
  rw [badAt, dec_eq, get_byte s k hk, Fbad (by omega) (by omega)]
theorem b_short3 (hk : k < s.size) (h0 : 224 ≤ ((s[k]'hk).toNat : Int)) (h : s.size < k + 3) : badAt s k := by
  rw [badAt, dec_eq, get_byte s k hk, Fbad (by omega) (by omega)]
theorem b_short4 (hk : k < s.size) (h0 : 240 ≤ ((s[k]'hk).toNat : Int)) (h : s.size < k + 4) : badAt s k := by
  rw [badAt, dec_eq, get_byte s k hk, Fbad (by omega) (by omega)]
theorem b_c1 (hk : k < s.size) (h1 : k + 1 < s.size) (h0 : 128 ≤ ((s[k]'hk).toNat : Int)) (h : ((s[k + 1]'h1).toNat : Int) < 128 ∨ 191 < ((s[k + 1]'h1).toNat : Int)) : badAt s k := by
  rw [badAt, dec_eq, get_byte s k hk, get_byte s (k + 1) h1, Fbad (by omega) (by omega)]
theorem b_c2 (hk : k < s.size) (h2 : k + 2 < s.size) (h0 : 224 ≤ ((s[k]'hk).toNat : Int)) (h : ((s[k + 2]'h2).toNat : Int) < 128 ∨ 191 < ((s[k + 2]'h2).toNat : Int)) : badAt s k := by
  rw [badAt, dec_eq, get_byte s k hk, get_byte s (k + 2) h2, Fbad (by omega) (by omega)]
theorem b_c3 (hk : k < s.size) (h3 : k + 3 < s.size) (h0 : 240 ≤ ((s[k]'hk).toNat : Int)) (h : ((s[k + 3]'h3).toNat : Int) < 128 ∨ 191 < ((s[k + 3]'h3).toNat : Int)) : badAt s k := by
  rw [badAt, dec_eq, get_byte s k hk, get_byte s (k + 3) h3, Fbad (by omega) (by omega)]
theorem b_size3 (hk : k < s.size) (h1 : k + 1 < s.size) (h2 : k + 2 < s.size) (h : 224 ≤ ((s[k]'hk).toNat : Int)) (h' : ((s[k]'hk).toNat : Int) ≤ 239)
    (c : 128 ≤ ((s[k + 1]'h1).toNat : Int)) (c' : ((s[k + 1]'h1).toNat : Int) ≤ 191) (d : 128 ≤ ((s[k + 2]'h2).toNat : Int)) (d' : ((s[k + 2]'h2).toNat : Int) ≤ 191)
    (g : ((((s[k]'hk).toNat : Int) - 224) * 64 + ((s[k + 1]'h1).toNat : Int) - 128) * 64 + ((s[k + 2]'h2).toNat : Int) - 128 < 2048 ∨ (55295 < ((((s[k]'hk).toNat : Int) - 224) * 64 + ((s[k + 1]'h1).toNat : Int) - 128) * 64 + ((s[k + 2]'h2).toNat : Int) - 128 ∧ ((((s[k]'hk).toNat : Int) - 224) * 64 + ((s[k + 1]'h1).toNat : Int) - 128) * 64 + ((s[k + 2]'h2).toNat : Int) - 128 < 57344)) : badAt s k := by
  rw [badAt, dec_eq, get_byte s k hk, get_byte s (k + 1) h1, get_byte s (k + 2) h2, F3 (by omega) (by omega) h2 (by omega) (by omega) (by omega) (by omega), if_neg (by omega)]
theorem b_size4 (hk : k < s.size) (h1 : k + 1 < s.size) (h2 : k + 2 < s.size) (h3 : k + 3 < s.size) (h : 240 ≤ ((s[k]'hk).toNat : Int)) (h' : ((s[k]'hk).toNat : Int) ≤ 244)
    (c : 128 ≤ ((s[k + 1]'h1).toNat : Int)) (c' : ((s[k + 1]'h1).toNat : Int) ≤ 191) (d : 128 ≤ ((s[k + 2]'h2).toNat : Int)) (d' : ((s[k + 2]'h2).toNat : Int) ≤ 191)
    (f : 128 ≤ ((s[k + 3]'h3).toNat : Int)) (f' : ((s[k + 3]'h3).toNat : Int) ≤ 191)
    (g : (((((s[k]'hk).toNat : Int) - 240) * 64 + ((s[k + 1]'h1).toNat : Int) - 128) * 64 + ((s[k + 2]'h2).toNat : Int) - 128) * 64 + ((s[k + 3]'h3).toNat : Int) - 128 < 65536 ∨ 1114111 < (((((s[k]'hk).toNat : Int) - 240) * 64 + ((s[k + 1]'h1).toNat : Int) - 128) * 64 + ((s[k + 2]'h2).toNat : Int) - 128) * 64 + ((s[k + 3]'h3).toNat : Int) - 128) : badAt s k := by
  rw [badAt, dec_eq, get_byte s k hk, get_byte s (k + 1) h1, get_byte s (k + 2) h2, get_byte s (k + 3) h3, F4 (by omega) (by omega) h3 (by omega) (by omega) (by omega) (by omega) (by omega) (by omega), if_neg (by omega)]
end
end Go.Proofs.YtadfdfmebdcfgaaGreatDoor.ut

namespace Go.Proofs.YtadfdfmebdcfgaaGreatDoor.ut
open Go.RowKit
set_option linter.unusedVariables false

/-- The place after n steps, each as wide as the model's decoding says. -/
def pos (s : ByteArray) : Nat → Nat
  | 0 => 0
  | n + 1 => pos s n + (Utf8.decode s (pos s n)).2
/-- A text is right: a rune begins at every place that is come to. -/
def Right (s : ByteArray) : Prop := ∀ n, pos s n < s.size → ¬ badAt s (pos s n)
/-- A call that answers whether something holds. -/
def Says (p : Prop) (e : Ending) : Prop := ∃ b : Bool, e = .returned (.bool b) ∧ (b = true ↔ p)

theorem says_no {p : Prop} (h : ¬ p) : Says p (.returned (.bool false)) := ⟨false, rfl, fun x => (by cases x), fun x => absurd x h⟩
theorem says_yes {p : Prop} (h : p) : Says p (.returned (.bool true)) := ⟨true, rfl, fun _ => h, fun _ => rfl⟩
theorem says_ex {p : Prop} {e : Ending} (h : Says p e) : ∃ b : Bool, e = .returned (.bool b) := ⟨h.choose, h.choose_spec.1⟩
theorem says_iff {p : Prop} {b : Bool} (h : Says p (.returned (.bool b))) : b = true ↔ p := by
  obtain ⟨x, hx, h⟩ := h
  cases hx
  exact h

theorem F_wide (n k b0 b1 b2 b3 : Nat) (hk : k < n) : 1 ≤ (decF n k b0 b1 b2 b3).2 ∧ k + (decF n k b0 b1 b2 b3).2 ≤ n := by
  unfold decF
  split
  · simp; omega
  split
  · rename_i g; simp at g
    split <;> simp <;> omega
  split
  · rename_i g; simp at g
    split <;> simp <;> omega
  split
  · rename_i g; simp at g
    split <;> simp <;> omega
  · simp; omega
theorem wide (s : ByteArray) (k : Nat) (hk : k < s.size) : 1 ≤ (Utf8.decode s k).2 ∧ k + (Utf8.decode s k).2 ≤ s.size := by
  rw [dec_eq]
  exact F_wide _ _ _ _ _ _ hk
theorem pos_le (s : ByteArray) (n : Nat) (h : pos s n < s.size) : pos s (n + 1) ≤ s.size ∧ pos s n < pos s (n + 1) := by
  have := wide s _ h
  simp only [pos]
  omega
theorem pos_mono (s : ByteArray) (n m : Nat) : pos s n ≤ pos s (n + m) := by
  induction m with
  | zero => exact Nat.le_refl _
  | succ m ih => rw [← Nat.add_assoc]; simp only [pos]; omega
theorem right_of (s : ByteArray) (n : Nat) (h : s.size ≤ pos s n) (hg : ∀ m, m < n → ¬ badAt s (pos s m)) : Right s := by
  intro m hm
  by_cases hmn : m < n
  · exact hg m hmn
  · have := pos_mono s n (m - n)
    rw [show n + (m - n) = m from by omega] at this
    omega
theorem right_step {s : ByteArray} {n : Nat} (hg : ∀ m, m < n → ¬ badAt s (pos s m)) (h : ¬ badAt s (pos s n)) : ∀ m, m < n + 1 → ¬ badAt s (pos s m) := by
  intro m hm
  by_cases e : m = n
  · subst e; exact h
  · exact hg m (by omega)
theorem wrong_at {s : ByteArray} {n : Nat} (h : pos s n < s.size) (hb : badAt s (pos s n)) : ¬ Right s := fun hr => hr n h hb
theorem bad_wide {s : ByteArray} {k : Nat} (h : badAt s k) : (Utf8.decode s k).2 = 1 := by rw [badAt] at h; rw [h]
theorem bad_rune {s : ByteArray} {k : Nat} (h : badAt s k) : (Utf8.decode s k).1 = 65533 := by rw [badAt] at h; rw [h]

theorem F_stand {n k b0 b1 b2 b3 : Nat} (h : (decF n k b0 b1 b2 b3).1 = 65533) (u0 : b0 ≤ 255) (u1 : b1 ≤ 255) (u2 : b2 ≤ 255) :
    decF n k b0 b1 b2 b3 = (65533, 1) ∨ (k + 2 < n ∧ b0 = 239 ∧ b1 = 191 ∧ b2 = 189) := by
  revert h
  unfold decF
  split
  · intro h; simp at h; omega
  split
  · rename_i g; simp at g
    split
    · intro h; simp at h; omega
    · intro _; exact .inl rfl
  split
  · rename_i g; simp at g
    split
    · intro h; simp at h
      right
      omega
    · intro _; exact .inl rfl
  split
  · rename_i g; simp at g
    split
    · rename_i g2; simp at g2
      intro h; simp at h; omega
    · intro _; exact .inl rfl
  · intro _; exact .inl rfl

/-- The three bytes of the stand-in lie at a place. -/
def standAt (s : ByteArray) (p : Nat) : Bool := ((s.extract p s.size).extract 0 3).toList == [239, 191, 189]
theorem stand_list (s : ByteArray) (p : Nat) (h : p + 2 < s.size) : ((s.extract p s.size).extract 0 3).toList = [s.get! p, s.get! (p + 1), s.get! (p + 2)] := by
  rw [Lib.extract_toList, Lib.extract_to_end]
  rw [get_byte s p (by omega), get_byte s (p + 1) (by omega), get_byte s (p + 2) (by omega)]
  have hl : s.data.toList.length = s.size := (Lib.size_eq s).symm
  rw [List.drop_zero, List.drop_eq_getElem_cons (by omega), List.drop_eq_getElem_cons (by omega), List.drop_eq_getElem_cons (by omega)]
  rfl
theorem stand_bad {s : ByteArray} {p : Nat} (hp : p < s.size) (h : ((Utf8.decode s p).1 : Int) = 65533) (hb : standAt s p = false) : badAt s p := by
  have h' : (decF s.size p (s.get! p).toNat (s.get! (p + 1)).toNat (s.get! (p + 2)).toNat (s.get! (p + 3)).toNat).1 = 65533 := by rw [← dec_eq]; omega
  rcases F_stand h' (by have := UInt8.toNat_lt (s.get! p); omega) (by have := UInt8.toNat_lt (s.get! (p + 1)); omega) (by have := UInt8.toNat_lt (s.get! (p + 2)); omega) with e | ⟨hn, e0, e1, e2⟩
  · rw [badAt, dec_eq, e]
  · exfalso
    rw [standAt, stand_list s p hn] at hb
    have f0 : s.get! p = 239 := UInt8.toNat_inj.1 e0
    have f1 : s.get! (p + 1) = 191 := UInt8.toNat_inj.1 e1
    have f2 : s.get! (p + 2) = 189 := UInt8.toNat_inj.1 e2
    rw [f0, f1, f2] at hb
    simp at hb
theorem stand_short {s : ByteArray} {p : Nat} (hp : p < s.size) (h : ((Utf8.decode s p).1 : Int) = 65533) (hb : s.size < p + 3) : badAt s p := by
  have h' : (decF s.size p (s.get! p).toNat (s.get! (p + 1)).toNat (s.get! (p + 2)).toNat (s.get! (p + 3)).toNat).1 = 65533 := by rw [← dec_eq]; omega
  rcases F_stand h' (by have := UInt8.toNat_lt (s.get! p); omega) (by have := UInt8.toNat_lt (s.get! (p + 1)); omega) (by have := UInt8.toNat_lt (s.get! (p + 2)); omega) with e | ⟨hn, e0, e1, e2⟩
  · rw [badAt, dec_eq, e]
  · omega
theorem stand_good {s : ByteArray} {p : Nat} (hn : p + 2 < s.size) (hb : standAt s p = true) : ¬ badAt s p := by
  rw [standAt, stand_list s p hn] at hb
  simp at hb
  obtain ⟨f0, f1, f2⟩ := hb
  rw [badAt, dec_eq, f0, f1, f2]
  intro h
  rw [show UInt8.toNat 239 = 239 from rfl, show UInt8.toNat 191 = 191 from rfl, show UInt8.toNat 189 = 189 from rfl, F3 (by omega) (by omega) hn (by omega) (by omega) (by omega) (by omega), if_pos (by omega)] at h
  simp at h
end Go.Proofs.YtadfdfmebdcfgaaGreatDoor.ut

namespace Go.Proofs.YtadfdfmebdcfgaaGreatDoor.ut
open Go.RowKit
set_option linter.unusedVariables false

set_option maxHeartbeats 400000 in
theorem in_any (n a b : Int) (w : World) : Calls Tryz.prog 55 #[.int .i64 n, .int .i64 a, .int .i64 b] w fun e w' => e = .returned (.bool (inB n a b)) ∧ w' = w := by
  by_cases h : a ≤ n
  · go_enter Tryz.func55, Tryz.ntmps55
    go_wp2
    go_ret
    exact ⟨ret_bool (by simp [inB, h]), rfl⟩
  · go_enter Tryz.func55, Tryz.ntmps55
    go_wp2
    go_ret
    exact ⟨ret_bool (by simp [inB]; omega), rfl⟩

set_option maxHeartbeats 400000 in
theorem scalar_any (n : Int) (w : World) : Calls Tryz.prog 156 #[.int .i64 n] w fun e w' => e = .returned (.bool (scB n)) ∧ w' = w := by
  cases h : inB n 0 55295
  all_goals
    go_enter Tryz.func156, Tryz.ntmps156
    go_wp2_with (go_at_call 55; refine (in_any _ _ _ _).mono ?_; rintro e w' ⟨rfl, rfl⟩)
    go_ret
    exact ⟨ret_bool (by simp [scB, h]), rfl⟩

set_option maxHeartbeats 1000000 in
set_option maxRecDepth 100000 in
theorem rune_1 (s : ByteArray) (k : Nat) (w : World) (hs : s.size ≤ 1048576) (hk : k < s.size) (b : ((s[k]'hk).toNat : Int) < 128) :
    Calls Tryz.prog 106 #[.string s, .int .i64 k] w fun e w' => RuneRet s k e ∧ w' = w := by
  have u0 : ((s[k]'hk).toNat : Int) ≤ 255 := by have := UInt8.toNat_lt (s[k]'hk); omega
  go_enter Tryz.func106, Tryz.ntmps106
  go_wp2_with (first | go_in)
  go_ret3
  exact ⟨r_ok1 hk b, rfl⟩
set_option maxHeartbeats 1000000 in
set_option maxRecDepth 100000 in
theorem rune_lo (s : ByteArray) (k : Nat) (w : World) (hs : s.size ≤ 1048576) (hk : k < s.size) (b : 128 ≤ ((s[k]'hk).toNat : Int)) (b2 : ((s[k]'hk).toNat : Int) < 194) :
    Calls Tryz.prog 106 #[.string s, .int .i64 k] w fun e w' => RuneRet s k e ∧ w' = w := by
  have u0 : ((s[k]'hk).toNat : Int) ≤ 255 := by have := UInt8.toNat_lt (s[k]'hk); omega
  go_enter Tryz.func106, Tryz.ntmps106
  go_wp2_with (first | go_in)
  go_ret3
  exact ⟨r_bad (b_lead hk b (.inl b2)), rfl⟩
set_option maxHeartbeats 1000000 in
set_option maxRecDepth 100000 in
theorem rune_hi (s : ByteArray) (k : Nat) (w : World) (hs : s.size ≤ 1048576) (hk : k < s.size) (b : 244 < ((s[k]'hk).toNat : Int)) :
    Calls Tryz.prog 106 #[.string s, .int .i64 k] w fun e w' => RuneRet s k e ∧ w' = w := by
  have u0 : ((s[k]'hk).toNat : Int) ≤ 255 := by have := UInt8.toNat_lt (s[k]'hk); omega
  go_enter Tryz.func106, Tryz.ntmps106
  go_wp2_with (first | go_in)
  go_ret3
  exact ⟨r_bad (b_lead hk (by omega) (.inr b)), rfl⟩
set_option maxHeartbeats 1000000 in
set_option maxRecDepth 100000 in
theorem rune_2s (s : ByteArray) (k : Nat) (w : World) (hs : s.size ≤ 1048576) (hk : k < s.size) (b : 194 ≤ ((s[k]'hk).toNat : Int)) (b2 : ((s[k]'hk).toNat : Int) ≤ 223) (hn : s.size < k + 2) :
    Calls Tryz.prog 106 #[.string s, .int .i64 k] w fun e w' => RuneRet s k e ∧ w' = w := by
  have u0 : ((s[k]'hk).toNat : Int) ≤ 255 := by have := UInt8.toNat_lt (s[k]'hk); omega
  have hn2 : (s.size : Int) < (k : Int) + 2 := by omega
  go_enter Tryz.func106, Tryz.ntmps106
  go_wp2_with (first | go_in)
  go_ret3
  exact ⟨r_bad (b_short2 hk (by omega) hn), rfl⟩
set_option maxHeartbeats 1000000 in
set_option maxRecDepth 100000 in
theorem rune_2c1lo (s : ByteArray) (k : Nat) (w : World) (hs : s.size ≤ 1048576) (hk : k < s.size) (b : 194 ≤ ((s[k]'hk).toNat : Int)) (b2 : ((s[k]'hk).toNat : Int) ≤ 223) (h1 : k + 1 < s.size) (x : ((s[k + 1]'h1).toNat : Int) < 128) :
    Calls Tryz.prog 106 #[.string s, .int .i64 k] w fun e w' => RuneRet s k e ∧ w' = w := by
  have u0 : ((s[k]'hk).toNat : Int) ≤ 255 := by have := UInt8.toNat_lt (s[k]'hk); omega
  have u1 : ((s[k + 1]'h1).toNat : Int) ≤ 255 := by have := UInt8.toNat_lt (s[k + 1]'h1); omega
  go_enter Tryz.func106, Tryz.ntmps106
  go_wp2_with (first | go_in)
  refine wp_loop_rounds 2 ?_
  rw [rounds_succ]
  go_wp2_with (first | go_in)
  go_ret3
  exact ⟨r_bad (b_c1 hk h1 (by omega) (.inl x)), rfl⟩
set_option maxHeartbeats 1000000 in
set_option maxRecDepth 100000 in
theorem rune_2c1hi (s : ByteArray) (k : Nat) (w : World) (hs : s.size ≤ 1048576) (hk : k < s.size) (b : 194 ≤ ((s[k]'hk).toNat : Int)) (b2 : ((s[k]'hk).toNat : Int) ≤ 223) (h1 : k + 1 < s.size) (x : 191 < ((s[k + 1]'h1).toNat : Int)) :
    Calls Tryz.prog 106 #[.string s, .int .i64 k] w fun e w' => RuneRet s k e ∧ w' = w := by
  have u0 : ((s[k]'hk).toNat : Int) ≤ 255 := by have := UInt8.toNat_lt (s[k]'hk); omega
  have u1 : ((s[k + 1]'h1).toNat : Int) ≤ 255 := by have := UInt8.toNat_lt (s[k + 1]'h1); omega
  have xd : decide (((s[k + 1]'h1).toNat : Int) ≤ 191) = false := decide_eq_false (by omega)
  go_enter Tryz.func106, Tryz.ntmps106
  go_wp2_with (first | go_in)
  refine wp_loop_rounds 2 ?_
  rw [rounds_succ]
  go_wp2_with (first | go_in)
  go_ret3
  exact ⟨r_bad (b_c1 hk h1 (by omega) (.inr x)), rfl⟩
set_option maxHeartbeats 1000000 in
set_option maxRecDepth 100000 in
theorem rune_2 (s : ByteArray) (k : Nat) (w : World) (hs : s.size ≤ 1048576) (hk : k < s.size) (b : 194 ≤ ((s[k]'hk).toNat : Int)) (b2 : ((s[k]'hk).toNat : Int) ≤ 223) (h1 : k + 1 < s.size) (c1 : 128 ≤ ((s[k + 1]'h1).toNat : Int)) (c1' : ((s[k + 1]'h1).toNat : Int) ≤ 191) :
    Calls Tryz.prog 106 #[.string s, .int .i64 k] w fun e w' => RuneRet s k e ∧ w' = w := by
  have u0 : ((s[k]'hk).toNat : Int) ≤ 255 := by have := UInt8.toNat_lt (s[k]'hk); omega
  have u1 : ((s[k + 1]'h1).toNat : Int) ≤ 255 := by have := UInt8.toNat_lt (s[k + 1]'h1); omega
  go_enter Tryz.func106, Tryz.ntmps106
  go_wp2_with (first | go_in)
  refine wp_loop_rounds 2 ?_
  rw [rounds_succ]
  go_wp2_with (first | go_in)
  rw [rounds_succ]
  go_wp2_with (first | go_in)
  go_ret3
  exact ⟨r_ok2 hk h1 b b2 c1 c1', rfl⟩
set_option maxHeartbeats 1000000 in
set_option maxRecDepth 100000 in
theorem rune_3s (s : ByteArray) (k : Nat) (w : World) (hs : s.size ≤ 1048576) (hk : k < s.size) (b : 224 ≤ ((s[k]'hk).toNat : Int)) (b2 : ((s[k]'hk).toNat : Int) ≤ 239) (hn : s.size < k + 3) :
    Calls Tryz.prog 106 #[.string s, .int .i64 k] w fun e w' => RuneRet s k e ∧ w' = w := by
  have u0 : ((s[k]'hk).toNat : Int) ≤ 255 := by have := UInt8.toNat_lt (s[k]'hk); omega
  have hn2 : (s.size : Int) < (k : Int) + 3 := by omega
  go_enter Tryz.func106, Tryz.ntmps106
  go_wp2_with (first | go_in)
  go_ret3
  exact ⟨r_bad (b_short3 hk (by omega) hn), rfl⟩
set_option maxHeartbeats 1000000 in
set_option maxRecDepth 100000 in
theorem rune_3c1lo (s : ByteArray) (k : Nat) (w : World) (hs : s.size ≤ 1048576) (hk : k < s.size) (b : 224 ≤ ((s[k]'hk).toNat : Int)) (b2 : ((s[k]'hk).toNat : Int) ≤ 239) (h1 : k + 1 < s.size) (h2 : k + 2 < s.size) (x : ((s[k + 1]'h1).toNat : Int) < 128) :
    Calls Tryz.prog 106 #[.string s, .int .i64 k] w fun e w' => RuneRet s k e ∧ w' = w := by
  have u0 : ((s[k]'hk).toNat : Int) ≤ 255 := by have := UInt8.toNat_lt (s[k]'hk); omega
  have u1 : ((s[k + 1]'h1).toNat : Int) ≤ 255 := by have := UInt8.toNat_lt (s[k + 1]'h1); omega
  go_enter Tryz.func106, Tryz.ntmps106
  go_wp2_with (first | go_in)
  refine wp_loop_rounds 3 ?_
  rw [rounds_succ]
  go_wp2_with (first | go_in)
  go_ret3
  exact ⟨r_bad (b_c1 hk h1 (by omega) (.inl x)), rfl⟩
set_option maxHeartbeats 1000000 in
set_option maxRecDepth 100000 in
theorem rune_3c1hi (s : ByteArray) (k : Nat) (w : World) (hs : s.size ≤ 1048576) (hk : k < s.size) (b : 224 ≤ ((s[k]'hk).toNat : Int)) (b2 : ((s[k]'hk).toNat : Int) ≤ 239) (h1 : k + 1 < s.size) (h2 : k + 2 < s.size) (x : 191 < ((s[k + 1]'h1).toNat : Int)) :
    Calls Tryz.prog 106 #[.string s, .int .i64 k] w fun e w' => RuneRet s k e ∧ w' = w := by
  have u0 : ((s[k]'hk).toNat : Int) ≤ 255 := by have := UInt8.toNat_lt (s[k]'hk); omega
  have u1 : ((s[k + 1]'h1).toNat : Int) ≤ 255 := by have := UInt8.toNat_lt (s[k + 1]'h1); omega
  have xd : decide (((s[k + 1]'h1).toNat : Int) ≤ 191) = false := decide_eq_false (by omega)
  go_enter Tryz.func106, Tryz.ntmps106
  go_wp2_with (first | go_in)
  refine wp_loop_rounds 3 ?_
  rw [rounds_succ]
  go_wp2_with (first | go_in)
  go_ret3
  exact ⟨r_bad (b_c1 hk h1 (by omega) (.inr x)), rfl⟩
set_option maxHeartbeats 1000000 in
set_option maxRecDepth 100000 in
theorem rune_3c2lo (s : ByteArray) (k : Nat) (w : World) (hs : s.size ≤ 1048576) (hk : k < s.size) (b : 224 ≤ ((s[k]'hk).toNat : Int)) (b2 : ((s[k]'hk).toNat : Int) ≤ 239) (h1 : k + 1 < s.size) (h2 : k + 2 < s.size) (c1 : 128 ≤ ((s[k + 1]'h1).toNat : Int)) (c1' : ((s[k + 1]'h1).toNat : Int) ≤ 191) (x : ((s[k + 2]'h2).toNat : Int) < 128) :
    Calls Tryz.prog 106 #[.string s, .int .i64 k] w fun e w' => RuneRet s k e ∧ w' = w := by
  have u0 : ((s[k]'hk).toNat : Int) ≤ 255 := by have := UInt8.toNat_lt (s[k]'hk); omega
  have u1 : ((s[k + 1]'h1).toNat : Int) ≤ 255 := by have := UInt8.toNat_lt (s[k + 1]'h1); omega
  have u2 : ((s[k + 2]'h2).toNat : Int) ≤ 255 := by have := UInt8.toNat_lt (s[k + 2]'h2); omega
  go_enter Tryz.func106, Tryz.ntmps106
  go_wp2_with (first | go_in)
  refine wp_loop_rounds 3 ?_
  rw [rounds_succ]
  go_wp2_with (first | go_in)
  rw [rounds_succ]
  go_wp2_with (first | go_in)
  go_ret3
  exact ⟨r_bad (b_c2 hk h2 (by omega) (.inl x)), rfl⟩
set_option maxHeartbeats 1000000 in
set_option maxRecDepth 100000 in
theorem rune_3c2hi (s : ByteArray) (k : Nat) (w : World) (hs : s.size ≤ 1048576) (hk : k < s.size) (b : 224 ≤ ((s[k]'hk).toNat : Int)) (b2 : ((s[k]'hk).toNat : Int) ≤ 239) (h1 : k + 1 < s.size) (h2 : k + 2 < s.size) (c1 : 128 ≤ ((s[k + 1]'h1).toNat : Int)) (c1' : ((s[k + 1]'h1).toNat : Int) ≤ 191) (x : 191 < ((s[k + 2]'h2).toNat : Int)) :
    Calls Tryz.prog 106 #[.string s, .int .i64 k] w fun e w' => RuneRet s k e ∧ w' = w := by
  have u0 : ((s[k]'hk).toNat : Int) ≤ 255 := by have := UInt8.toNat_lt (s[k]'hk); omega
  have u1 : ((s[k + 1]'h1).toNat : Int) ≤ 255 := by have := UInt8.toNat_lt (s[k + 1]'h1); omega
  have u2 : ((s[k + 2]'h2).toNat : Int) ≤ 255 := by have := UInt8.toNat_lt (s[k + 2]'h2); omega
  have xd : decide (((s[k + 2]'h2).toNat : Int) ≤ 191) = false := decide_eq_false (by omega)
  go_enter Tryz.func106, Tryz.ntmps106
  go_wp2_with (first | go_in)
  refine wp_loop_rounds 3 ?_
  rw [rounds_succ]
  go_wp2_with (first | go_in)
  rw [rounds_succ]
  go_wp2_with (first | go_in)
  go_ret3
  exact ⟨r_bad (b_c2 hk h2 (by omega) (.inr x)), rfl⟩
set_option maxHeartbeats 1000000 in
set_option maxRecDepth 100000 in
theorem rune_4s (s : ByteArray) (k : Nat) (w : World) (hs : s.size ≤ 1048576) (hk : k < s.size) (b : 240 ≤ ((s[k]'hk).toNat : Int)) (b2 : ((s[k]'hk).toNat : Int) ≤ 244) (hn : s.size < k + 4) :
    Calls Tryz.prog 106 #[.string s, .int .i64 k] w fun e w' => RuneRet s k e ∧ w' = w := by
  have u0 : ((s[k]'hk).toNat : Int) ≤ 255 := by have := UInt8.toNat_lt (s[k]'hk); omega
  have hn2 : (s.size : Int) < (k : Int) + 4 := by omega
  go_enter Tryz.func106, Tryz.ntmps106
  go_wp2_with (first | go_in)
  go_ret3
  exact ⟨r_bad (b_short4 hk (by omega) hn), rfl⟩
set_option maxHeartbeats 1000000 in
set_option maxRecDepth 100000 in
theorem rune_4c1lo (s : ByteArray) (k : Nat) (w : World) (hs : s.size ≤ 1048576) (hk : k < s.size) (b : 240 ≤ ((s[k]'hk).toNat : Int)) (b2 : ((s[k]'hk).toNat : Int) ≤ 244) (h1 : k + 1 < s.size) (h2 : k + 2 < s.size) (h3 : k + 3 < s.size) (x : ((s[k + 1]'h1).toNat : Int) < 128) :
    Calls Tryz.prog 106 #[.string s, .int .i64 k] w fun e w' => RuneRet s k e ∧ w' = w := by
  have u0 : ((s[k]'hk).toNat : Int) ≤ 255 := by have := UInt8.toNat_lt (s[k]'hk); omega
  have u1 : ((s[k + 1]'h1).toNat : Int) ≤ 255 := by have := UInt8.toNat_lt (s[k + 1]'h1); omega
  go_enter Tryz.func106, Tryz.ntmps106
  go_wp2_with (first | go_in)
  refine wp_loop_rounds 4 ?_
  rw [rounds_succ]
  go_wp2_with (first | go_in)
  go_ret3
  exact ⟨r_bad (b_c1 hk h1 (by omega) (.inl x)), rfl⟩
set_option maxHeartbeats 1000000 in
set_option maxRecDepth 100000 in
theorem rune_4c1hi (s : ByteArray) (k : Nat) (w : World) (hs : s.size ≤ 1048576) (hk : k < s.size) (b : 240 ≤ ((s[k]'hk).toNat : Int)) (b2 : ((s[k]'hk).toNat : Int) ≤ 244) (h1 : k + 1 < s.size) (h2 : k + 2 < s.size) (h3 : k + 3 < s.size) (x : 191 < ((s[k + 1]'h1).toNat : Int)) :
    Calls Tryz.prog 106 #[.string s, .int .i64 k] w fun e w' => RuneRet s k e ∧ w' = w := by
  have u0 : ((s[k]'hk).toNat : Int) ≤ 255 := by have := UInt8.toNat_lt (s[k]'hk); omega
  have u1 : ((s[k + 1]'h1).toNat : Int) ≤ 255 := by have := UInt8.toNat_lt (s[k + 1]'h1); omega
  have xd : decide (((s[k + 1]'h1).toNat : Int) ≤ 191) = false := decide_eq_false (by omega)
  go_enter Tryz.func106, Tryz.ntmps106
  go_wp2_with (first | go_in)
  refine wp_loop_rounds 4 ?_
  rw [rounds_succ]
  go_wp2_with (first | go_in)
  go_ret3
  exact ⟨r_bad (b_c1 hk h1 (by omega) (.inr x)), rfl⟩
set_option maxHeartbeats 1000000 in
set_option maxRecDepth 100000 in
theorem rune_4c2lo (s : ByteArray) (k : Nat) (w : World) (hs : s.size ≤ 1048576) (hk : k < s.size) (b : 240 ≤ ((s[k]'hk).toNat : Int)) (b2 : ((s[k]'hk).toNat : Int) ≤ 244) (h1 : k + 1 < s.size) (h2 : k + 2 < s.size) (h3 : k + 3 < s.size) (c1 : 128 ≤ ((s[k + 1]'h1).toNat : Int)) (c1' : ((s[k + 1]'h1).toNat : Int) ≤ 191) (x : ((s[k + 2]'h2).toNat : Int) < 128) :
    Calls Tryz.prog 106 #[.string s, .int .i64 k] w fun e w' => RuneRet s k e ∧ w' = w := by
  have u0 : ((s[k]'hk).toNat : Int) ≤ 255 := by have := UInt8.toNat_lt (s[k]'hk); omega
  have u1 : ((s[k + 1]'h1).toNat : Int) ≤ 255 := by have := UInt8.toNat_lt (s[k + 1]'h1); omega
  have u2 : ((s[k + 2]'h2).toNat : Int) ≤ 255 := by have := UInt8.toNat_lt (s[k + 2]'h2); omega
  go_enter Tryz.func106, Tryz.ntmps106
  go_wp2_with (first | go_in)
  refine wp_loop_rounds 4 ?_
  rw [rounds_succ]
  go_wp2_with (first | go_in)
  rw [rounds_succ]
  go_wp2_with (first | go_in)
  go_ret3
  exact ⟨r_bad (b_c2 hk h2 (by omega) (.inl x)), rfl⟩
set_option maxHeartbeats 1000000 in
set_option maxRecDepth 100000 in
theorem rune_4c2hi (s : ByteArray) (k : Nat) (w : World) (hs : s.size ≤ 1048576) (hk : k < s.size) (b : 240 ≤ ((s[k]'hk).toNat : Int)) (b2 : ((s[k]'hk).toNat : Int) ≤ 244) (h1 : k + 1 < s.size) (h2 : k + 2 < s.size) (h3 : k + 3 < s.size) (c1 : 128 ≤ ((s[k + 1]'h1).toNat : Int)) (c1' : ((s[k + 1]'h1).toNat : Int) ≤ 191) (x : 191 < ((s[k + 2]'h2).toNat : Int)) :
    Calls Tryz.prog 106 #[.string s, .int .i64 k] w fun e w' => RuneRet s k e ∧ w' = w := by
  have u0 : ((s[k]'hk).toNat : Int) ≤ 255 := by have := UInt8.toNat_lt (s[k]'hk); omega
  have u1 : ((s[k + 1]'h1).toNat : Int) ≤ 255 := by have := UInt8.toNat_lt (s[k + 1]'h1); omega
  have u2 : ((s[k + 2]'h2).toNat : Int) ≤ 255 := by have := UInt8.toNat_lt (s[k + 2]'h2); omega
  have xd : decide (((s[k + 2]'h2).toNat : Int) ≤ 191) = false := decide_eq_false (by omega)
  go_enter Tryz.func106, Tryz.ntmps106
  go_wp2_with (first | go_in)
  refine wp_loop_rounds 4 ?_
  rw [rounds_succ]
  go_wp2_with (first | go_in)
  rw [rounds_succ]
  go_wp2_with (first | go_in)
  go_ret3
  exact ⟨r_bad (b_c2 hk h2 (by omega) (.inr x)), rfl⟩
set_option maxHeartbeats 1000000 in
set_option maxRecDepth 100000 in
theorem rune_4c3lo (s : ByteArray) (k : Nat) (w : World) (hs : s.size ≤ 1048576) (hk : k < s.size) (b : 240 ≤ ((s[k]'hk).toNat : Int)) (b2 : ((s[k]'hk).toNat : Int) ≤ 244) (h1 : k + 1 < s.size) (h2 : k + 2 < s.size) (h3 : k + 3 < s.size) (c1 : 128 ≤ ((s[k + 1]'h1).toNat : Int)) (c1' : ((s[k + 1]'h1).toNat : Int) ≤ 191) (c2 : 128 ≤ ((s[k + 2]'h2).toNat : Int)) (c2' : ((s[k + 2]'h2).toNat : Int) ≤ 191) (x : ((s[k + 3]'h3).toNat : Int) < 128) :
    Calls Tryz.prog 106 #[.string s, .int .i64 k] w fun e w' => RuneRet s k e ∧ w' = w := by
  have u0 : ((s[k]'hk).toNat : Int) ≤ 255 := by have := UInt8.toNat_lt (s[k]'hk); omega
  have u1 : ((s[k + 1]'h1).toNat : Int) ≤ 255 := by have := UInt8.toNat_lt (s[k + 1]'h1); omega
  have u2 : ((s[k + 2]'h2).toNat : Int) ≤ 255 := by have := UInt8.toNat_lt (s[k + 2]'h2); omega
  have u3 : ((s[k + 3]'h3).toNat : Int) ≤ 255 := by have := UInt8.toNat_lt (s[k + 3]'h3); omega
  go_enter Tryz.func106, Tryz.ntmps106
  go_wp2_with (first | go_in)
  refine wp_loop_rounds 4 ?_
  rw [rounds_succ]
  go_wp2_with (first | go_in)
  rw [rounds_succ]
  go_wp2_with (first | go_in)
  rw [rounds_succ]
  go_wp2_with (first | go_in)
  go_ret3
  exact ⟨r_bad (b_c3 hk h3 (by omega) (.inl x)), rfl⟩
set_option maxHeartbeats 1000000 in
set_option maxRecDepth 100000 in
theorem rune_4c3hi (s : ByteArray) (k : Nat) (w : World) (hs : s.size ≤ 1048576) (hk : k < s.size) (b : 240 ≤ ((s[k]'hk).toNat : Int)) (b2 : ((s[k]'hk).toNat : Int) ≤ 244) (h1 : k + 1 < s.size) (h2 : k + 2 < s.size) (h3 : k + 3 < s.size) (c1 : 128 ≤ ((s[k + 1]'h1).toNat : Int)) (c1' : ((s[k + 1]'h1).toNat : Int) ≤ 191) (c2 : 128 ≤ ((s[k + 2]'h2).toNat : Int)) (c2' : ((s[k + 2]'h2).toNat : Int) ≤ 191) (x : 191 < ((s[k + 3]'h3).toNat : Int)) :
    Calls Tryz.prog 106 #[.string s, .int .i64 k] w fun e w' => RuneRet s k e ∧ w' = w := by
  have u0 : ((s[k]'hk).toNat : Int) ≤ 255 := by have := UInt8.toNat_lt (s[k]'hk); omega
  have u1 : ((s[k + 1]'h1).toNat : Int) ≤ 255 := by have := UInt8.toNat_lt (s[k + 1]'h1); omega
  have u2 : ((s[k + 2]'h2).toNat : Int) ≤ 255 := by have := UInt8.toNat_lt (s[k + 2]'h2); omega
  have u3 : ((s[k + 3]'h3).toNat : Int) ≤ 255 := by have := UInt8.toNat_lt (s[k + 3]'h3); omega
  have xd : decide (((s[k + 3]'h3).toNat : Int) ≤ 191) = false := decide_eq_false (by omega)
  go_enter Tryz.func106, Tryz.ntmps106
  go_wp2_with (first | go_in)
  refine wp_loop_rounds 4 ?_
  rw [rounds_succ]
  go_wp2_with (first | go_in)
  rw [rounds_succ]
  go_wp2_with (first | go_in)
  rw [rounds_succ]
  go_wp2_with (first | go_in)
  go_ret3
  exact ⟨r_bad (b_c3 hk h3 (by omega) (.inr x)), rfl⟩
end Go.Proofs.YtadfdfmebdcfgaaGreatDoor.ut
