/-
  Plain facts on what is cut off a text that is the bytes of some runes.
  Contracts of both SafeValue functions: whether a text is safe as a field's value.
  The contract of the specification's l03Plain: whether a text stays as it is in a field.
  Plain facts on a row that a call owns while another block is laid and written.
  Contracts of the text builder's methods at this program: the check of its place, writing a text, writing bytes.
-/
import Derived.Test.YtinnnfkhiigjpaaGreatPkbe
import Derived.Test.YtinnnfkhiigjpaaGreatPkbd
import Derived.Test.YtinnnfkhiigjpaaGreatRows
import Derived.WalkKit
import Derived.WalkLawsBesides
import Derived.Test.YtinnnfkhiigjpaaGreatPkaa
import Derived.Lib.Builder
import Derived.Lib.ConvBytes
import Derived.Lib.AtoiErrMem
import Derived.Lib.Strings
import Derived.Test.YtinnnfkhiigjpaaGreatPkaf
import Derived.Laws.AppendOwn

namespace Go.Proofs.YtinnnfkhiigjpaaGreat.ut
open Go.RowKit
set_option linter.unusedVariables false

theorem extract_pre (A B : List UInt8) : (mk (A ++ B)).extract 0 A.length = mk A := by
  refine bytes_ext ?_
  rw [Lib.extract_data, mk_list, mk_list]
  simp
end Go.Proofs.YtinnnfkhiigjpaaGreat.ut

namespace Go.Proofs.YtinnnfkhiigjpaaGreat.sv
open Go.RowKit
set_option linter.unusedVariables false

def Says (p : Prop) (e : Ending) : Prop := ∃ b : Bool, e = .returned (.bool b) ∧ (b = true ↔ p)
theorem says_no {p : Prop} (h : ¬ p) : Says p (.returned (.bool false)) := ⟨false, rfl, fun x => (by cases x), fun x => absurd x h⟩
theorem says_yes {p : Prop} (h : p) : Says p (.returned (.bool true)) := ⟨true, rfl, fun _ => h, fun _ => rfl⟩
theorem says_true {p : Prop} {e : Ending} (h : Says p e) (hp : p) : e = .returned (.bool true) := by
  obtain ⟨b, rfl, hb⟩ := h
  rw [hb.2 hp]
theorem says_false {p : Prop} {e : Ending} (h : Says p e) (hp : ¬ p) : e = .returned (.bool false) := by
  obtain ⟨b, rfl, hb⟩ := h
  cases b
  · rfl
  · exact absurd (hb.1 rfl) hp

def inB (n a b : Int) : Bool := decide (a ≤ n ∧ n ≤ b)
set_option maxHeartbeats 400000 in
theorem in_any (n a b : Int) (w : World) : Calls Tryz.prog 35 #[.int .i64 n, .int .i64 a, .int .i64 b] w fun e w' => e = .returned (.bool (inB n a b)) ∧ w' = w := by
  by_cases h : a ≤ n
  · go_enter Tryz.func35, Tryz.ntmps35
    go_wp2
    all_goals (go_ret; exact ⟨by simp [inB, h], rfl⟩)
  · have h' : decide (a ≤ n) = false := decide_eq_false h
    go_enter Tryz.func35, Tryz.ntmps35
    go_wp2
    all_goals (go_ret; exact ⟨by rw [show inB n a b = false from decide_eq_false (by omega)]; rfl, rfl⟩)
theorem in_yes {n a b : Int} (h : a ≤ n) (h' : n ≤ b) : inB n a b = true := decide_eq_true ⟨h, h'⟩
theorem in_no {n a b : Int} (h : n < a ∨ b < n) : inB n a b = false := decide_eq_false (by omega)

set_option maxHeartbeats 1000000 in
set_option maxRecDepth 100000 in
theorem spec_any (s : ByteArray) (w : World) (hs : s.size ≤ maxLen) :
    Calls Tryz.prog 105 #[.string s] w fun e w' => Says (hd.Safe s.data.toList) e ∧ w' = w := by
  unfold maxLen at hs
  by_cases h9 : 65536 < s.size
  · have b9 : (65536 : Int) < (s.size : Int) := by omega
    go_enter Tryz.func105, Tryz.ntmps105
    go_wp2
    go_ret
    exact ⟨says_no (hd.big (by omega)), rfl⟩
  have b9 : (s.size : Int) ≤ 65536 := by omega
  by_cases h4 : 2000 < s.size
  · have h4' : (2000 : Int) < (s.size : Int) := by omega
    go_enter Tryz.func105, Tryz.ntmps105
    go_wp2
    go_ret
    exact ⟨says_no (hd.big h4), rfl⟩
  have h4' : (s.size : Int) ≤ 2000 := by omega
  go_enter Tryz.func105, Tryz.ntmps105
  go_wp2
  go_loop [3, 4] (fun t i => ∃ k wd : Nat, k ≤ s.size ∧ i = .int .i64 k ∧ t = .int .i64 wd ∧ hd.wid (s.data.toList.take k) = some wd ∧ (wd = 0 → k = 0 ∨ k < s.size)) (fun _ i => s.size - (intOf i).toNat)
  case atStart => exact ⟨0, 0, Nat.zero_le _, rfl, rfl, rfl, fun _ => .inl rfl⟩
  case round =>
    obtain ⟨k, wd, hk, rfl, rfl, hg, hq⟩ := hrel
    have hw := hd.width_le hg
    have hw' : (wd : Int) ≤ 200 := by omega
    have HG : Hid (hd.wid (s.data.toList.take k) = some wd) := hg
    have HQ : Hid (wd = 0 → k = 0 ∨ k < s.size) := hq
    clear hg hq
    by_cases hlt : k < s.size
    · have u : ((s[k]'hlt).toNat : Int) ≤ 255 := by have := (s[k]'hlt).toNat_lt; omega
      have HN : Hid (∀ o, hd.step (some wd) (s[k]'hlt) = o → hd.wid (s.data.toList.take (k + 1)) = o) := fun o ho => by rw [hd.wid_at s k hlt, HG.out]; exact ho
      by_cases c1 : ((s[k]'hlt).toNat : Int) < 32 ∨ 126 < ((s[k]'hlt).toNat : Int)
      · have b2 : inB ((s[k]'hlt).toNat : Int) 32 126 = false := in_no c1
        have HC : Hid (((s[k]'hlt).toNat : Int) < 32 ∨ 126 < ((s[k]'hlt).toNat : Int)) := c1
        clear c1
        go_wp2_with (go_at_call 35; refine (in_any _ _ _ _).mono ?_; rintro e w' ⟨rfl, rfl⟩)
        go_ret
        exact ⟨says_no (hd.bad_at hlt HG.out (hd.st_bad HC.out)), rfl⟩
      have b2 : inB ((s[k]'hlt).toNat : Int) 32 126 = true := in_yes (by omega) (by omega)
      have c1' : 32 ≤ ((s[k]'hlt).toNat : Int) := by omega
      have c2' : ((s[k]'hlt).toNat : Int) ≤ 126 := by omega
      clear c1
      by_cases c3 : ((s[k]'hlt).toNat : Int) = 32
      · have d3 : (((s[k]'hlt).toNat : Int) != 32) = false := by rw [bne_eq_false_iff_eq]; exact c3
        have HC : Hid (((s[k]'hlt).toNat : Int) = 32) := c3
        clear c3 c1' c2'
        by_cases c4 : wd = 0
        · have d4 : ((wd : Int) == 0) = true := beq_iff_eq.2 (by omega)
          have H4 : Hid (wd = 0) := c4
          clear c4
          go_wp2_with (go_at_call 35; refine (in_any _ _ _ _).mono ?_; rintro e w' ⟨rfl, rfl⟩)
          go_ret
          exact ⟨says_no (hd.bad_at hlt HG.out (by rw [H4.out]; exact hd.st_sp0 HC.out)), rfl⟩
        · have d4 : ((wd : Int) == 0) = false := beq_eq_false_iff_ne.2 (by omega)
          by_cases c5 : k + 1 = s.size
          · have d5 : ((k : Int) + 1 == (s.size : Int)) = true := beq_iff_eq.2 (by omega)
            have H5 : Hid (k + 1 = s.size) := c5
            clear c5
            go_wp2_with (go_at_call 35; refine (in_any _ _ _ _).mono ?_; rintro e w' ⟨rfl, rfl⟩)
            go_ret
            exact ⟨says_no (hd.endBad (by omega) (by have := HN.out _ (hd.st_sp HC.out c4); rw [hd.take_all s (k + 1) (by have := H5.out; omega)] at this; exact this)), rfl⟩
          · have d5 : ((k : Int) + 1 == (s.size : Int)) = false := beq_eq_false_iff_ne.2 (by omega)
            go_wp2_with (go_at_call 35; refine (in_any _ _ _ _).mono ?_; rintro e w' ⟨rfl, rfl⟩)
            go_round
            case rel => exact ⟨k + 1, 0, by omega, by go_num, rfl, HN.out _ (hd.st_sp HC.out c4), fun _ => .inr (by omega)⟩
            case measure => simp [intOf]; omega
      · have d3 : (((s[k]'hlt).toNat : Int) != 32) = true := by rw [bne_iff_ne]; exact c3
        by_cases c4 : 200 ≤ wd
        · have d4 : (200 : Int) < (wd : Int) + 1 := by omega
          go_wp2_with (go_at_call 35; refine (in_any _ _ _ _).mono ?_; rintro e w' ⟨rfl, rfl⟩)
          go_ret
          exact ⟨says_no (hd.bad_at hlt HG.out (hd.st_long c3 c4)), rfl⟩
        · have d4 : (wd : Int) + 1 ≤ 200 := by omega
          go_wp2_with (go_at_call 35; refine (in_any _ _ _ _).mono ?_; rintro e w' ⟨rfl, rfl⟩)
          go_round
          case rel => exact ⟨k + 1, wd + 1, by omega, by go_num, by go_num, HN.out _ (hd.st_ch (by omega) (by omega) c3 (by omega)), fun h => by omega⟩
          case measure => simp [intOf]; omega
    · have HA : Hid (hd.wid s.data.toList = some wd) := by have := HG.out; rw [hd.take_all s k (by omega)] at this; exact this
      go_wp2
      go_ret
      exact ⟨says_yes (hd.good (by omega) HA.out (by have := HQ.out; omega)), rfl⟩
end Go.Proofs.YtinnnfkhiigjpaaGreat.sv

namespace Go.Proofs.YtinnnfkhiigjpaaGreat.hd
open Go.RowKit
set_option linter.unusedVariables false

theorem at_some (s : ByteArray) (k : Nat) (h : k < s.size) : s.data.toList[k]? = some s[k] := by
  rw [List.getElem?_eq_getElem (by simpa using h)]; rfl
theorem byte_is {c : UInt8} {n : Nat} (hn : n < 256) (h : (c.toNat : Int) = n) : c = UInt8.ofNat n := by
  rw [← UInt8.toNat_inj, UInt8.toNat_ofNat']; omega
theorem sign_at {s : ByteArray} {k : Nat} (h : k + 1 < s.size) (h1 : ((s[k]'(by omega)).toNat : Int) = 61) (h2 : ((s[k + 1]'h).toNat : Int) = 63) : Lib.contains s.data.toList sign = true := by
  rw [contains_iff]
  refine ⟨k, ?_, ?_⟩
  · rw [at_some s k (by omega), byte_is (n := 61) (by decide) h1]; rfl
  · rw [at_some s (k + 1) h, byte_is (n := 63) (by decide) h2]; rfl
/-- No sign begins ahead of a place. -/
def Clear (s : ByteArray) (k : Nat) : Prop := ∀ j, j < k → ¬ (s.data.toList[j]? = some 61 ∧ s.data.toList[j + 1]? = some 63)
theorem clear_step {s : ByteArray} {k : Nat} (hc : Clear s k) (h : k + 1 < s.size) (hx : ((s[k]'(by omega)).toNat : Int) ≠ 61 ∨ ((s[k + 1]'h).toNat : Int) ≠ 63) : Clear s (k + 1) := by
  intro j hj
  by_cases e : j = k
  · subst e
    rw [at_some s j (by omega), at_some s (j + 1) h]
    rintro ⟨h1, h2⟩
    rcases hx with hx | hx
    · rw [Option.some.inj h1] at hx; exact hx rfl
    · rw [Option.some.inj h2] at hx; exact hx rfl
  · exact hc j (by omega)
theorem clear_end {s : ByteArray} {k : Nat} (hc : Clear s k) (h : s.size ≤ k + 1) : Lib.contains s.data.toList sign = false := by
  rw [Bool.eq_false_iff]
  intro hx
  obtain ⟨j, h1, h2⟩ := (contains_iff _).1 hx
  have : j + 1 < s.size := by rw [Lib.size_eq]; exact (List.getElem?_eq_some_iff.1 h2).1
  exact hc j (by omega) ⟨h1, h2⟩

set_option maxHeartbeats 1000000 in
set_option maxRecDepth 100000 in
theorem plain_any (s : ByteArray) (w : World) (hs : s.size ≤ 65536) :
    Calls Tryz.prog 97 #[.string s] w fun e w' => sv.Says (Plain s.data.toList) e ∧ w' = w := by
  by_cases hsafe : Safe s.data.toList
  case neg =>
    go_enter Tryz.func97, Tryz.ntmps97
    go_wp2_with fail
    refine (sv.spec_any s _ (by unfold maxLen; omega)).mono ?_
    rintro e w' ⟨h1, rfl⟩
    obtain rfl := sv.says_false h1 hsafe
    go_wp2
    go_ret
    exact ⟨sv.says_no (fun x => hsafe x.1), rfl⟩
  have HS : Hid (Safe s.data.toList) := hsafe
  clear hsafe
  go_enter Tryz.func97, Tryz.ntmps97
  go_wp2_with fail
  refine (sv.spec_any s _ (by unfold maxLen; omega)).mono ?_
  rintro e w' ⟨h1, rfl⟩
  obtain rfl := sv.says_true h1 HS.out
  clear h1
  go_wp2
  go_loop [3] (fun i => ∃ k : Nat, k ≤ s.size ∧ i = .int .i64 k ∧ Clear s k) (fun i => s.size - (intOf i).toNat)
  case atStart => exact ⟨0, Nat.zero_le _, rfl, fun j hj => absurd hj (Nat.not_lt_zero _)⟩
  case round =>
    obtain ⟨k, hk, rfl, hg⟩ := hrel
    have HG : Hid (Clear s k) := hg
    clear hg
    by_cases hlt : k + 1 < s.size
    · have hlt' : (k : Int) + 1 < (s.size : Int) := by omega
      have hk0 : k < s.size := by omega
      by_cases c1 : ((s[k]'hk0).toNat : Int) = 61
      · have d1 : (((s[k]'hk0).toNat : Int) == 61) = true := beq_iff_eq.2 c1
        have H1 : Hid (((s[k]'hk0).toNat : Int) = 61) := c1
        clear c1
        by_cases c2 : ((s[k + 1]'hlt).toNat : Int) = 63
        · have d2 : (((s[k + 1]'hlt).toNat : Int) == 63) = true := beq_iff_eq.2 c2
          have H2 : Hid (((s[k + 1]'hlt).toNat : Int) = 63) := c2
          clear c2
          go_wp2
          go_ret
          exact ⟨sv.says_no (fun x => by have := x.2; rw [sign_at hlt H1.out H2.out] at this; cases this), rfl⟩
        · have d2 : (((s[k + 1]'hlt).toNat : Int) == 63) = false := beq_eq_false_iff_ne.2 c2
          go_wp2
          go_round
          case rel => exact ⟨k + 1, by omega, by go_num, clear_step HG.out hlt (.inr c2)⟩
          case measure => simp [intOf]; omega
      · have d1 : (((s[k]'hk0).toNat : Int) == 61) = false := beq_eq_false_iff_ne.2 c1
        go_wp2
        go_round
        case rel => exact ⟨k + 1, by omega, by go_num, clear_step HG.out hlt (.inl c1)⟩
        case measure => simp [intOf]; omega
    · have hlt' : (s.size : Int) ≤ (k : Int) + 1 := by omega
      go_wp2
      go_ret
      exact ⟨sv.says_yes ⟨HS.out, clear_end HG.out (by omega)⟩, rfl⟩
end Go.Proofs.YtinnnfkhiigjpaaGreat.hd

namespace Go.Proofs.YtinnnfkhiigjpaaGreat.ow
open Go.RowKit
set_option linter.unusedVariables false

theorem own_ne_block {w : World} {base e size n g : Nat} {v : Value} {xs : List Value} (h : w.ownsRow base e size v n xs) (hg : w.heap.size ≤ g) : v.ownBlock ≠ some g := by
  rcases h.2 with ⟨rfl, _⟩ | ⟨b, cap, cur, rfl, _, c, _⟩
  · exact fun x => by cases x
  · intro x
    have e : b = g := by simpa [Value.ownBlock] using x
    have := (Array.getElem?_eq_some_iff.1 c).1
    omega
/-- A block was laid, and an order drawn. -/
theorem built {w wr W : World} {base e size n : Nat} {v : Value} {xs : List Value} {cs : Array Value} {t : TypeId} (hW : W = (wr.alloc (.cells cs t)).drew) (hown : wr.ownsRow base e size v n xs) (hbw : Below base w wr) (hB : base ≤ wr.heap.size) :
    W.ownsRow base e size v n xs ∧ Below base w W ∧ W.heap[wr.heap.size]? = some (.cells cs t (0, 0)) ∧ v.ownBlock ≠ some wr.heap.size ∧ W.heap.size = wr.heap.size + 1 := by
  subst hW
  refine ⟨own_below hown (((Below.refl _ _).alloc (Nat.le_refl _) _).drew), (hbw.alloc hB _).drew, ?_, own_ne_block hown (Nat.le_refl _), ?_⟩
  · show (wr.heap.push (.cells cs t))[wr.heap.size]? = _
    simp
  · show (wr.heap.push (.cells cs t)).size = _
    simp
theorem laid {w wr W : World} {base e size n : Nat} {v : Value} {xs : List Value} {cs : Array Value} {t : TypeId} (hW : W = wr.alloc (.cells cs t)) (hown : wr.ownsRow base e size v n xs) (hbw : Below base w wr) (hB : base ≤ wr.heap.size) :
    W.ownsRow base e size v n xs ∧ Below base w W ∧ W.heap[wr.heap.size]? = some (.cells cs t (0, 0)) ∧ v.ownBlock ≠ some wr.heap.size ∧ W.heap.size = wr.heap.size + 1 := by
  subst hW
  refine ⟨own_below hown ((Below.refl _ _).alloc (Nat.le_refl _) _), hbw.alloc hB _, ?_, own_ne_block hown (Nat.le_refl _), ?_⟩
  · show (wr.heap.push (.cells cs t))[wr.heap.size]? = _
    simp
  · show (wr.heap.push (.cells cs t)).size = _
    simp
/-- A cell of that block is written. -/
theorem wrote {w W : World} {base e size n g : Nat} {v : Value} {xs : List Value} {cs : Array Value} {t : TypeId} (j : Nat) (u : Value) (hown : W.ownsRow base e size v n xs) (hbw : Below base w W) (hg : base ≤ g) (hblk : W.heap[g]? = some (.cells cs t (0, 0))) (hne : v.ownBlock ≠ some g) :
    (W.setCell ⟨g, j, none⟩ u).ownsRow base e size v n xs ∧ Below base w (W.setCell ⟨g, j, none⟩ u) ∧ (W.setCell ⟨g, j, none⟩ u).heap[g]? = some (.cells (cs.setIfInBounds j u) t (0, 0)) ∧ (W.setCell ⟨g, j, none⟩ u).heap.size = W.heap.size := by
  refine ⟨?_, hbw.setCell (p := ⟨g, j, none⟩) hg _, ?_, ?_⟩
  · refine hown.kept (row := some g) ⟨rfl, rfl, rfl, by simp [World.setCell], fun k _ hk => Below.heap_setCell _ _ _ _ (fun e => hk (by simp [e]))⟩ (Or.inr hne)
  · simp [World.setCell, Array.getElem?_modify, hblk]
  · simp [World.setCell]
theorem cell_blk {W : World} {g : Nat} {cs : Array Value} {t : TypeId} (hblk : W.heap[g]? = some (.cells cs t (0, 0))) (j : Nat) : W.cell? ⟨g, j, none⟩ = cs[j]? := Lib.cell_of_heap hblk j
theorem frozen_blk {W : World} {g : Nat} {cs : Array Value} {t : TypeId} (hblk : W.heap[g]? = some (.cells cs t (0, 0))) (j : Nat) : W.frozen? ⟨g, j, none⟩ = false := Lib.frozen_of_heap hblk j
theorem news_blk {W : World} {g : Nat} {cs : Array Value} {t : TypeId} {xs : List Value} (hblk : W.heap[g]? = some (.cells cs t (0, 0))) (hxs : ∀ (j : Nat) (u : Value), xs[j]? = some u → cs[j]? = some u) : ∀ (j : Nat) (u : Value), xs[j]? = some u → W.cell? ((⟨g, 0, none⟩ : Addr).add j) = some u := by
  intro j u hj
  rw [add_at, cell_blk hblk]
  exact hxs j u hj
theorem reads_below {k : IntKind} {w w' : World} {v : Value} {zs : List Int} (h : Reads k w v zs) (hb : Below w.heap.size w w') : Reads k w' v zs :=
  reads_keep h fun a u ha => (hb.cell (World.block_lt_of_cell? w _ ha)).trans ha
theorem one_bytes (l : List UInt8) : ∀ u ∈ Lib.byteCells l, u.oneCell' = true := by
  intro u hu
  obtain ⟨x, _, rfl⟩ := List.mem_map.1 hu
  rfl
/-- A slice value under which these bytes lie. -/
def Lies (w : World) (v : Value) (l : List UInt8) : Prop :=
  ∃ ao cap, v = .slice ao l.length cap ∧ (l = [] ∨ ∃ b, ao = some ⟨b, 0, none⟩ ∧ l.length ≤ cap ∧ ∀ j, j < l.length → w.cell? ⟨b, j, none⟩ = some (.int .u8 ((l.getD j 0).toNat : Int)))
theorem lies_own {w : World} {base e : Nat} {v : Value} {l : List UInt8} (h : w.ownsRow base e 1 v l.length (Lib.byteCells l)) : Lies w v l := by
  rcases h.2 with ⟨hv, h0⟩ | ⟨g, cap, cur, hv, _, _, hc, _⟩
  · exact ⟨none, 0, by rw [hv, h0], .inl (List.eq_nil_of_length_eq_zero h0)⟩
  · refine ⟨_, cap, hv, .inr ⟨g, rfl, hc, fun j hj => ?_⟩⟩
    subst hv
    rw [h.cellAt j (by omega)]
    simp [Lib.byteCells, hj]
/-- The bytes of a text, behind its conversion. -/
theorem lies_conv (w : World) (e : TypeId) (s : ByteArray) : Lies (Lib.bytesWorld w e s) (.slice (some ⟨w.heap.size, 0, none⟩) s.size (grownCap w s.size 0 e)) s.data.toList := by
  refine ⟨_, _, by rw [← Lib.size_eq], .inr ⟨_, rfl, by rw [← Lib.size_eq]; exact grownCap_ge _ _ _ _, fun j hj => ?_⟩⟩
  rw [Lib.bytesWorld_cell w e s j (by rw [Lib.size_eq]; exact hj)]
theorem reads_lies {w : World} {v : Value} {l : List UInt8} (h : Lies w v l) : Reads .u8 w v (l.map fun b => (b.toNat : Int)) := by
  obtain ⟨ao, cap, rfl, h⟩ := h
  refine ⟨ao, cap, by rw [List.length_map], ?_⟩
  rcases h with rfl | ⟨b, rfl, _, hc⟩
  · exact .inl rfl
  · refine .inr ⟨b, 0, rfl, fun j hj => ?_⟩
    rw [List.length_map] at hj
    rw [Nat.zero_add, hc j hj]
    simp [List.getD_eq_getElem?_getD, hj]
theorem below_conv (w : World) (e : TypeId) (s : ByteArray) : Below w.heap.size w (Lib.bytesWorld w e s) := Lib.bytesWorld_below w e s
end Go.Proofs.YtinnnfkhiigjpaaGreat.ow

namespace Go.Proofs.YtinnnfkhiigjpaaGreat.bl
open Go.RowKit
set_option linter.unusedVariables false

theorem info1 : (Tryz.prog.info? 5).map (fun i => (i.zero, i.size, i.bytes)) = some (some (.int .u8 0), 1, 1) := by kernel_rfl

end Go.Proofs.YtinnnfkhiigjpaaGreat.bl
