/-
  The first field of a name, in letters of either size: both searches.
-/
import Derived.Test.YtglgaangkffbiaaDoorLow
import Derived.Test.YtglgaangkffbiaaDoorFla
import Derived.Test.YtglgaangkffbiaaDoorGrw
import Derived.Test.YtglgaangkffbiaaDoorBxt
import Derived.Test.YtglgaangkffbiaaDoorShf
namespace Go.Proofs.YtglgaangkffbiaaDoor.fo
open Go.RowKit
open fa lo gr
set_option linter.unusedVariables false

def sameB (a b : ByteArray) : Bool := decide (lower a.data.toList = lower b.data.toList)
/-- The first field of a name. -/
def find (ps : List Pr) (nm : ByteArray) : Option ByteArray := (ps.find? fun p => sameB p.1 nm).map (·.2)
theorem find_drop {ps : List Pr} {nm : ByteArray} {k : Nat} (h : find ps nm = find (ps.drop k) nm) (hk : k < ps.length) (hn : sameB (ps.getD k no).1 nm = false) : find ps nm = find (ps.drop (k + 1)) nm := by
  rw [h, List.drop_eq_getElem_cons hk]
  have e : ps.getD k no = ps[k] := by simp [List.getD_eq_getElem?_getD, hk]
  rw [e] at hn
  unfold find
  rw [List.find?_cons_of_neg (by rw [hn]; simp)]
theorem find_at {ps : List Pr} {nm : ByteArray} {k : Nat} (h : find ps nm = find (ps.drop k) nm) (hk : k < ps.length) (hn : sameB (ps.getD k no).1 nm = true) : find ps nm = some (ps.getD k no).2 := by
  rw [h, List.drop_eq_getElem_cons hk]
  have e : ps.getD k no = ps[k] := by simp [List.getD_eq_getElem?_getD, hk]
  rw [e] at hn ⊢
  unfold find
  rw [List.find?_cons_of_pos (p := fun p : Pr => sameB p.1 nm) hn]
  rfl
theorem find_end {ps : List Pr} {nm : ByteArray} {k : Nat} (h : find ps nm = find (ps.drop k) nm) (hk : ps.length ≤ k) : find ps nm = none := by
  rw [h, List.drop_eq_nil_of_le hk]
  rfl
theorem tl_same (a b : ByteArray) : ((⟨(lower a.data.toList).toArray⟩ : ByteArray).toList == (⟨(lower b.data.toList).toArray⟩ : ByteArray).toList) = sameB a b := by
  rw [Lib.toList_data, Lib.toList_data, Bool.eq_iff_iff, beq_iff_eq, sameB, decide_eq_true_iff]
/-- What a search answers. -/
def FRet (o : Option ByteArray) : Value := match o with
  | some v => .tuple #[.string v, .bool true]
  | none => .tuple #[.string ⟨#[]⟩, .bool false]

set_option maxHeartbeats 2000000 in
set_option maxRecDepth 100000 in
theorem same_any (a b : ByteArray) (w : World) (ha : a.size ≤ 1048576) (hb : b.size ≤ 1048576) :
    Calls Tryd.prog 53 #[.string a, .string b] w fun e w' => e = .returned (.bool (sameB a b)) ∧ Below w.heap.size w w' := by
  by_cases hl : a.size = b.size
  case neg =>
    have hd : ((a.size : Int) == (b.size : Int)) = false := beq_eq_false_iff_ne.2 (by omega)
    have HF : Hid (sameB a b = false) := (show sameB a b = false from decide_eq_false (fun h => hl (by have := congrArg List.length h; rw [lower_len, lower_len] at this; rw [Lib.size_eq, Lib.size_eq]; exact this)))
    go_enter Tryd.func53, Tryd.ntmps53
    go_wp2
    go_ret
    exact ⟨by rw [HF.out]; rfl, Below.refl _ _⟩
  have hd : ((a.size : Int) == (b.size : Int)) = true := beq_iff_eq.2 (by omega)
  have HT := tl_same a b
  have HA : Hid (∀ W, Calls Tryd.prog 74 #[.string a] W fun e w' => e = .returned (.string ⟨(lower a.data.toList).toArray⟩) ∧ Below W.heap.size W w') := fun W => impl_lower a W ha
  have HB : Hid (∀ W, Calls Tryd.prog 74 #[.string b] W fun e w' => e = .returned (.string ⟨(lower b.data.toList).toArray⟩) ∧ Below W.heap.size W w') := fun W => impl_lower b W hb
  generalize (⟨(lower a.data.toList).toArray⟩ : ByteArray) = A at HT HA
  generalize (⟨(lower b.data.toList).toArray⟩ : ByteArray) = B at HT HB
  generalize sameB a b = R at HT ⊢
  go_enter Tryd.func53, Tryd.ntmps53
  go_wp2_with fail
  refine (HA.out _).mono ?_
  rintro e w1 ⟨rfl, b1⟩
  go_wp2_with fail
  refine (HB.out _).mono ?_
  rintro e w2 ⟨rfl, b2⟩
  have b3 := b1.trans (b2.mono b1.size)
  go_wp2
  go_ret
  exact ⟨rfl, b3⟩
set_option maxHeartbeats 4000000 in
set_option maxRecDepth 100000 in
theorem value_any (v : Value) (ps : List Pr) (nm : ByteArray) (w : World) (h : AttrsAt w v ps) (hsm : Small ps) (hn : nm.size ≤ 1048576) :
    Calls Tryd.prog 32 #[v, .string nm] w fun e w' => e = .returned (FRet (find ps nm)) ∧ Below w.heap.size w w' := by
  obtain ⟨a, cap, rfl, h⟩ := h
  obtain ⟨n, hn'⟩ : ∃ n, n = ps.length := ⟨_, rfl⟩
  have HN : Hid (n = ps.length) := hn'
  have HH : Hid (ps = [] ∨ ∃ b off, a = some ⟨b, off, none⟩ ∧ ∀ j, j < ps.length → w.cell? ⟨b, off + j * 2, none⟩ = some (.string (ps.getD j no).1) ∧ w.cell? ⟨b, off + j * 2 + 1, none⟩ = some (.string (ps.getD j no).2)) := h
  have HS : Hid (Small ps) := hsm
  have hln : n ≤ 1048576 := by rw [hn']; exact hsm.1
  rw [← hn']
  clear h hsm hn'
  go_enter Tryd.func32, Tryd.ntmps32
  go_wp2
  go_loopw [10] (fun i wr => ∃ k : Nat, k ≤ n ∧ i = .int .i64 k ∧ find ps nm = find (ps.drop k) nm ∧ Below w.heap.size w wr) (fun i _ => n - (intOf i).toNat)
  case atStart => exact ⟨0, Nat.zero_le _, rfl, rfl, Below.refl _ _⟩
  case round =>
    obtain ⟨k, hk, rfl, hf, hbw⟩ := hrel
    have HF : Hid (find ps nm = find (ps.drop k) nm) := hf
    clear hf
    by_cases hlt : k < n
    · have hlt' : (k : Int) < (n : Int) := by omega
      have hka : k < ps.length := by rw [← HN.out]; exact hlt
      have hsz := HS.out.2 k hka
      rcases HH.out with e | ⟨b, off, rfl, hcells⟩
      · rw [e] at hka; simp at hka
      obtain ⟨v0, v1⟩ := hcells k hka
      have hblt : b < w.heap.size := World.block_lt_of_cell? w _ v0
      have c0 := (hbw.cell (p := ⟨b, off + k * 2, none⟩) hblt).trans v0
      have c1 := (hbw.cell (p := ⟨b, off + k * 2 + 1, none⟩) hblt).trans v1
      have HFN : Hid (sameB (ps.getD k no).1 nm = false → find ps nm = find (ps.drop (k + 1)) nm) := fun h => find_drop HF.out hka h
      have HFA : Hid (sameB (ps.getD k no).1 nm = true → find ps nm = some (ps.getD k no).2) := fun h => find_at HF.out hka h
      clear hcells v0 v1 hka
      generalize (ps.getD k no).1 = nk at c0 hsz HFN HFA
      generalize (ps.getD k no).2 = vk at c1 hsz HFA
      have HB0 : Hid (Below w.heap.size w wr) := hbw
      have HX : Hid (b2.Box (wr.alloc (.cells #[.string nk, .string vk] 84)) wr.heap.size 84 (.string nk) (.string vk)) := b2.new _ _ _ _
      have HB1 : Hid (Below w.heap.size w (wr.alloc (.cells #[.string nk, .string vk] 84))) := hbw.alloc hbw.size _
      clear hbw
      go_wp2_with fail
      generalize hW : World.alloc _ _ = W at HX HB1 ⊢
      clear hW c0 c1
      refine (same_any nk nm W hsz.1 hn).mono ?_
      rintro e w2 ⟨rfl, hb2⟩
      have HB2 : Hid (Below w.heap.size w w2) := HB1.out.trans (hb2.mono HB1.out.size)
      have d1 := (HX.out.below hb2).c1
      clear hb2
      cases hsb : sameB nk nm with
      | true =>
        have HR : Hid (FRet (find ps nm) = .tuple #[.string vk, .bool true]) := (show _ = _ by rw [HFA.out hsb]; rfl)
        clear hsb
        go_wp2
        go_ret2
        exact ⟨by rw [HR.out]; rfl, HB2.out⟩
      | false =>
        have HR : Hid (find ps nm = find (ps.drop (k + 1)) nm) := HFN.out hsb
        clear hsb
        go_wp2
        go_roundw
        case rel => exact ⟨k + 1, by omega, by go_num, HR.out, HB2.out⟩
        case measure => simp [intOf]; omega
    · have hlt' : ¬ (k : Int) < (n : Int) := by omega
      have HR : Hid (FRet (find ps nm) = .tuple #[.string ⟨#[]⟩, .bool false]) := (show _ = _ by rw [find_end HF.out (by have := HN.out; omega)]; rfl)
      go_wp2
      go_ret2
      exact ⟨by rw [HR.out]; rfl, hbw⟩
set_option maxHeartbeats 4000000 in
set_option maxRecDepth 100000 in
theorem specField_any (v : Value) (T : ByteArray) (ps : List Pr) (nm : ByteArray) (w : World) (h : AttrsAt w v ps) (hsm : Small ps) (hn : nm.size ≤ 1048576) :
    Calls Tryd.prog 51 #[.agg #[v, .string T], .string nm] w fun e w' => e = .returned (FRet (find ps nm)) ∧ Below w.heap.size w w' := by
  have k1 := h
  obtain ⟨a, cap, rfl, _⟩ := h
  have bx : Below w.heap.size w (w.alloc (.cells #[.slice a ps.length cap, .string T] 42)) := (Below.refl _ _).alloc (Nat.le_refl _) _
  have HAT := at_below k1 bx
  have HX : Hid (b2.Box (w.alloc (.cells #[.slice a ps.length cap, .string T] 42)) w.heap.size 42 (.slice a ps.length cap) (.string T)) := b2.new _ _ _ _
  obtain ⟨n, hn'⟩ : ∃ n, n = ps.length := ⟨_, rfl⟩
  have HN : Hid (n = ps.length) := hn'
  have HS : Hid (Small ps) := hsm
  have hln : n ≤ 1048576 := by rw [hn']; exact hsm.1
  rw [← hn'] at HX HAT bx ⊢
  have HH : Hid (ps = [] ∨ ∃ b off, a = some ⟨b, off, none⟩ ∧ ∀ j, j < ps.length → (w.alloc (.cells #[.slice a n cap, .string T] 42)).cell? ⟨b, off + j * 2, none⟩ = some (.string (ps.getD j no).1) ∧ (w.alloc (.cells #[.slice a n cap, .string T] 42)).cell? ⟨b, off + j * 2 + 1, none⟩ = some (.string (ps.getD j no).2)) := by
    obtain ⟨a', cap', hv, hh⟩ := HAT
    simp only [Value.slice.injEq] at hv
    obtain ⟨rfl, _, rfl⟩ := hv
    exact hh
  have HB0 : Hid (Below w.heap.size w (w.alloc (.cells #[.slice a n cap, .string T] 42))) := bx
  have HLN : Hid (∀ W, Calls Tryd.prog 72 #[.string nm] W fun e w' => e = .returned (.string ⟨(lower nm.data.toList).toArray⟩) ∧ Below W.heap.size W w') := fun W => spec_lower nm W hn
  clear hsm hn' HAT bx k1
  go_enter Tryd.func51, Tryd.ntmps51
  go_wp2
  generalize hW0 : World.alloc _ _ = W0 at HX HH HB0 ⊢
  clear hW0
  go_loopw [6] (fun i wr => ∃ k : Nat, k ≤ n ∧ i = .int .i64 k ∧ find ps nm = find (ps.drop k) nm ∧ Below W0.heap.size W0 wr) (fun i _ => n - (intOf i).toNat)
  case atStart => exact ⟨0, Nat.zero_le _, rfl, rfl, Below.refl _ _⟩
  case round =>
    obtain ⟨k, hk, rfl, hf, hbw⟩ := hrel
    have HF : Hid (find ps nm = find (ps.drop k) nm) := hf
    have m0 := (HX.out.below hbw).c0
    clear hf
    by_cases hlt : k < n
    · have hlt' : (k : Int) < (n : Int) := by omega
      have hk0 : (0 : Int) ≤ (k : Int) := by omega
      have hka : k < ps.length := by rw [← HN.out]; exact hlt
      have hsz := HS.out.2 k hka
      rcases HH.out with e | ⟨b, off, rfl, hcells⟩
      · rw [e] at hka; simp at hka
      obtain ⟨v0, v1⟩ := hcells k hka
      have hblt : b < W0.heap.size := World.block_lt_of_cell? W0 _ v0
      have c0 := (hbw.cell (p := ⟨b, off + k * 2, none⟩) hblt).trans v0
      have HV1 : Hid (∀ W, Below W0.heap.size W0 W → W.cell? ⟨b, off + k * 2 + 1, none⟩ = some (.string (ps.getD k no).2)) := fun W hW => (hW.cell (p := ⟨b, off + k * 2 + 1, none⟩) hblt).trans v1
      have HFN : Hid (sameB (ps.getD k no).1 nm = false → find ps nm = find (ps.drop (k + 1)) nm) := fun h => find_drop HF.out hka h
      have HFA : Hid (sameB (ps.getD k no).1 nm = true → find ps nm = some (ps.getD k no).2) := fun h => find_at HF.out hka h
      clear hcells v0 v1 hka
      generalize (ps.getD k no).1 = nk at c0 hsz HFN HFA
      generalize (ps.getD k no).2 = vk at HV1 hsz HFA
      have HT := tl_same nk nm
      have HA : Hid (∀ W, Calls Tryd.prog 72 #[.string nk] W fun e w' => e = .returned (.string ⟨(lower nk.data.toList).toArray⟩) ∧ Below W.heap.size W w') := fun W => spec_lower nk W hsz.1
      have HL2 : Hid (∀ W, Calls Tryd.prog 72 #[.string nm] W fun e w' => e = .returned (.string ⟨(lower nm.data.toList).toArray⟩) ∧ Below W.heap.size W w') := HLN.out
      generalize (⟨(lower nk.data.toList).toArray⟩ : ByteArray) = A at HT HA
      generalize (⟨(lower nm.data.toList).toArray⟩ : ByteArray) = B at HT HL2
      have HB1 : Hid (Below W0.heap.size W0 wr) := hbw
      clear hbw
      go_wp2_with fail
      refine (HA.out _).mono ?_
      rintro e w2 ⟨rfl, hb2⟩
      have HB2 : Hid (Below W0.heap.size W0 w2) := HB1.out.trans (hb2.mono HB1.out.size)
      clear hb2 c0 m0
      go_wp2_with fail
      refine (HL2.out _).mono ?_
      rintro e w3 ⟨rfl, hb3⟩
      have HB3 : Hid (Below W0.heap.size W0 w3) := HB2.out.trans (hb3.mono HB2.out.size)
      have m0 := (HX.out.below HB3.out).c0
      have c1 := HV1.out _ HB3.out
      clear hb3
      cases hsb : sameB nk nm with
      | true =>
        rw [hsb] at HT
        have HR : Hid (FRet (find ps nm) = .tuple #[.string vk, .bool true]) := (show _ = _ by rw [HFA.out hsb]; rfl)
        have hb4 := HB0.out.trans (HB3.out.mono HB0.out.size)
        clear hsb
        go_wp2
        go_ret2
        exact ⟨by rw [HR.out]; rfl, hb4⟩
      | false =>
        rw [hsb] at HT
        have HR : Hid (find ps nm = find (ps.drop (k + 1)) nm) := HFN.out hsb
        clear hsb
        go_wp2
        go_roundw
        case rel => exact ⟨k + 1, by omega, by go_num, HR.out, HB3.out⟩
        case measure => simp [intOf]; omega
    · have hlt' : ¬ (k : Int) < (n : Int) := by omega
      have HR : Hid (FRet (find ps nm) = .tuple #[.string ⟨#[]⟩, .bool false]) := (show _ = _ by rw [find_end HF.out (by have := HN.out; omega)]; rfl)
      have hb3 := HB0.out.trans (hbw.mono HB0.out.size)
      go_wp2
      go_ret2
      exact ⟨by rw [HR.out]; rfl, hb3⟩
/-- What both FieldOf functions answer. -/
def foC (ps : List Pr) (nm : ByteArray) : ByteArray × Int :=
  if 65536 < nm.size then (⟨#[]⟩, 2) else if 40 < ps.length then (⟨#[]⟩, 1) else match find ps nm with
    | some v => (v, 0)
    | none => (⟨#[]⟩, 5)
theorem find_mem {ps : List Pr} {nm v : ByteArray} (h : find ps nm = some v) (hs : Small ps) : v.size ≤ 1048576 := by
  unfold find at h
  cases hf : ps.find? (fun p => sameB p.1 nm) with
  | none => rw [hf] at h; cases h
  | some p =>
    rw [hf] at h
    obtain rfl : p.2 = v := Option.some.inj h
    obtain ⟨j, hj, e⟩ := List.mem_iff_getElem.1 (List.mem_of_find?_eq_some hf)
    have := (hs.2 j hj).2
    rw [List.getD_eq_getElem?_getD, List.getElem?_eq_getElem hj, Option.getD_some, e] at this
    exact this
end Go.Proofs.YtglgaangkffbiaaDoor.fo
