/-
  What a connection is sent: both SayAll functions.
-/
import Derived.Test.YtbfplmafffnghaaDoorSaw
import Derived.Test.YtbfplmafffnghaaDoorSpl
import Derived.Laws.AppendOwn
namespace Go.Proofs.YtbfplmafffnghaaDoor.sw
open Go.RowKit
open nu li te
open ky (TextsAt OwnT nt)
set_option linter.unusedVariables false

def Ok (kind : Int) (t : ByteArray) : Prop := t.size + 2 ≤ 4000 ∧ Wh kind t.data.toList
/-- What becomes of lines of a right kind. -/
def Say (kind : Int) (ks : List ByteArray) (out : List ByteArray) (c : Int) : Prop :=
  (c = 0 ∧ (∀ j, j < ks.length → Ok kind (ks.getD j nt)) ∧ out = ks.map ln) ∨
  (out = [] ∧ ∃ k, k < ks.length ∧ (∀ j, j < k → Ok kind (ks.getD j nt)) ∧ ((4000 < (ks.getD k nt).size + 2 ∧ c = 4) ∨ ((ks.getD k nt).size + 2 ≤ 4000 ∧ ¬ Wh kind (ks.getD k nt).data.toList ∧ c = 3)))
def SayIs (ks : List ByteArray) (kind : Int) (out : List ByteArray) (c : Int) : Prop :=
  (4096 < ks.length ∧ out = [] ∧ c = 2) ∨ (ks.length ≤ 4096 ∧ ¬ (kind = 1 ∨ kind = 2) ∧ out = [] ∧ c = 1) ∨ (ks.length ≤ 4096 ∧ (kind = 1 ∨ kind = 2) ∧ Say kind ks out c)
theorem say_one {kind : Int} {ks out out' : List ByteArray} {c c' : Int} (h : Say kind ks out c) (h' : Say kind ks out' c') : out = out' ∧ c = c' := by
  rcases h with ⟨rfl, h1, rfl⟩ | ⟨rfl, k, hk, h1, h2⟩ <;> rcases h' with ⟨rfl, g1, rfl⟩ | ⟨rfl, k', hk', g1, g2⟩
  · exact ⟨rfl, rfl⟩
  · exfalso
    have := h1 k' hk'
    rcases g2 with ⟨x, _⟩ | ⟨_, x, _⟩
    · have := this.1; omega
    · exact x this.2
  · exfalso
    have := g1 k hk
    rcases h2 with ⟨x, _⟩ | ⟨_, x, _⟩
    · have := this.1; omega
    · exact x this.2
  · have hkk : k = k' := by
      rcases Nat.lt_trichotomy k k' with g | g | g
      · exfalso
        have := g1 k g
        rcases h2 with ⟨x, _⟩ | ⟨_, x, _⟩
        · have := this.1; omega
        · exact x this.2
      · exact g
      · exfalso
        have := h1 k' g
        rcases g2 with ⟨x, _⟩ | ⟨_, x, _⟩
        · have := this.1; omega
        · exact x this.2
    subst hkk
    rcases h2 with ⟨x, rfl⟩ | ⟨x, y, rfl⟩ <;> rcases g2 with ⟨x', rfl⟩ | ⟨x', y', rfl⟩
    · exact ⟨rfl, rfl⟩
    · omega
    · omega
    · exact ⟨rfl, rfl⟩
theorem sayIs_one {kind : Int} {ks out out' : List ByteArray} {c c' : Int} (h : SayIs ks kind out c) (h' : SayIs ks kind out' c') : out = out' ∧ c = c' := by
  rcases h with ⟨h1, rfl, rfl⟩ | ⟨h1, h2, rfl, rfl⟩ | ⟨h1, h2, h3⟩ <;> rcases h' with ⟨g1, rfl, rfl⟩ | ⟨g1, g2, rfl, rfl⟩ | ⟨g1, g2, g3⟩
  · exact ⟨rfl, rfl⟩
  · omega
  · omega
  · omega
  · exact ⟨rfl, rfl⟩
  · exact absurd g2 h2
  · omega
  · exact absurd h2 g2
  · exact say_one h3 g3
/-- What SayAll answers. -/
def SayRet (ks : List ByteArray) (kind : Int) (base : Nat) (e : Ending) (w : World) : Prop := ∃ (v : Value) (out : List ByteArray) (c : Int), e = .returned (.tuple #[v, .int .i64 c]) ∧ SayIs ks kind out c ∧ OwnT w base v out
theorem own_nilT (w : World) (base : Nat) : OwnT w base (.slice none 0 0) [] := World.ownsRow_nil _ _ _ _
theorem map_take {ks : List ByteArray} {k : Nat} (hk : k < ks.length) : (ks.take (k + 1)).map ln = (ks.take k).map ln ++ [ln (ks.getD k nt)] := by
  rw [List.take_succ_eq_append_getElem hk, List.map_append, List.getD_eq_getElem?_getD, List.getElem?_eq_getElem hk]
  rfl
theorem bytes_drewN {B : Nat} {a w : World} (h : Below B a w) (n : Nat) : Below B a (w.drewN n) := ⟨h.os, h.tape, h.output, h.size, h.block⟩
theorem ok_next {kind : Int} {ks : List ByteArray} {k : Nat} (h : ∀ j, j < k → Ok kind (ks.getD j nt)) (g : Ok kind (ks.getD k nt)) : ∀ j, j < k + 1 → Ok kind (ks.getD j nt) := fun j hj => by
  by_cases e : j = k
  · subst e; exact g
  · exact h j (by omega)

set_option maxHeartbeats 4000000 in
set_option maxRecDepth 100000 in
theorem say_impl (v : Value) (ks : List ByteArray) (kind : Int) (w : World) (h : TextsAt w v ks) (hl : ks.length ≤ 1048576) (hz : ∀ j, j < ks.length → (ks.getD j nt).size ≤ 1048576) (m : Int) (hm : w.cell? ⟨0, 0, none⟩ = some (.int .i64 m)) (hS : cn.Sents w) (hT : tb.TP w) :
    Calls Tryd.prog 7 #[v, .int .i64 kind] w fun e w' => SayRet ks kind w.heap.size e w' ∧ Below w.heap.size w w' := by
  obtain ⟨a, cap, rfl, hh⟩ := h
  obtain ⟨n, hn⟩ : ∃ n, n = ks.length := ⟨_, rfl⟩
  have HN : Hid (n = ks.length) := hn
  rw [← hn] at hl ⊢
  by_cases hbig : 4096 < n
  · have hb : (4096 : Int) < (n : Int) := by omega
    have HR : Hid (SayIs ks kind [] 2) := .inl ⟨by omega, rfl, rfl⟩
    clear hh hm hS hT hz hn hbig
    go_enter Tryd.func7, Tryd.ntmps7
    go_wp2
    go_ret2
    exact ⟨⟨_, [], 2, rfl, HR.out, own_nilT _ _⟩, Below.refl _ _⟩
  have hb : ¬ (4096 : Int) < (n : Int) := by omega
  have hbd : decide ((4096 : Int) < (n : Int)) = false := decide_eq_false hb
  by_cases hk : kind = 1 ∨ kind = 2
  rotate_left
  · have k1 : ((kind : Int) != 1) = true := by rw [bne_iff_ne]; exact fun e => hk (.inl e)
    have k2 : ((kind : Int) != 2) = true := by rw [bne_iff_ne]; exact fun e => hk (.inr e)
    have HR : Hid (SayIs ks kind [] 1) := .inr (.inl ⟨by omega, hk, rfl, rfl⟩)
    clear hh hm hS hT hz hn hbig hk
    go_enter Tryd.func7, Tryd.ntmps7
    go_wp2
    go_ret2
    exact ⟨⟨_, [], 1, rfl, HR.out, own_nilT _ _⟩, Below.refl _ _⟩
  have HK : Hid (kind = 1 ∨ kind = 2) := hk
  have HFIN : Hid (∀ out c, Say kind ks out c → SayIs ks kind out c) := fun out c y => .inr (.inr ⟨by omega, hk, y⟩)
  have kk : (((kind : Int) != 1) = true ∧ ((kind : Int) != 2) = false) ∨ ((kind : Int) != 1) = false := by
    rcases hk with rfl | rfl
    · exact .inr (by decide)
    · exact .inl ⟨by decide, by decide⟩
  have HENV : Hid (∀ W, Below w.heap.size w W → W.cell? ⟨0, 0, none⟩ = some (.int .i64 m) ∧ cn.Sents W ∧ tb.TP W) := fun W hW => ⟨mx_keep hm hW, cn.sents_keep hS hW, tb.keep' hT hW⟩
  have HH : Hid (ks = [] ∨ ∃ b off, a = some ⟨b, off, none⟩ ∧ ∀ j, j < ks.length → w.cell? ⟨b, off + j, none⟩ = some (.string (ks.getD j nt))) := hh
  have HZ : Hid (∀ j, j < ks.length → (ks.getD j nt).size ≤ 1048576) := hz
  obtain ⟨i0, hi, hz0, hz1, hz2⟩ := info_parts sp.infoStr
  clear hh hm hS hT hz hn hbig hk
  go_enter Tryd.func7, Tryd.ntmps7
  rcases kk with ⟨k1, k2⟩ | k1
  all_goals
    go_wp2
    go_loopw [6, 20] (fun r i wr => ∃ k : Nat, i = .int .i64 k ∧ k ≤ n ∧ (∀ j, j < k → Ok kind (ks.getD j nt)) ∧ wr.ownsRow w.heap.size 9 1 r k (((ks.take k).map ln).map Value.string) ∧ Below w.heap.size w wr) (fun _ i _ => n - (intOf i).toNat)
    case atStart => exact ⟨0, rfl, Nat.zero_le _, fun j hj => absurd hj (Nat.not_lt_zero _), World.ownsRow_nil _ _ _ _, Below.refl _ _⟩
    case round =>
      obtain ⟨k, rfl, hkn, hok, hown, hbw⟩ := hrel
      have HOK : Hid (∀ j, j < k → Ok kind (ks.getD j nt)) := hok
      have hBs := hbw.size
      clear hok
      by_cases hlt : k < n
      · have hkl : k < ks.length := by have := HN.out; omega
        have hlt' : (k : Int) < (n : Int) := by omega
        have hk0 : (0 : Int) ≤ (k : Int) := by omega
        rcases HH.out with e | ⟨b, off, rfl, hcell⟩
        · rw [e] at hkl; simp at hkl
        have hc := (hbw.cell (p := ⟨b, off + k, none⟩) (World.block_lt_of_cell? w _ (hcell k hkl))).trans (hcell k hkl)
        have hsz := HZ.out k hkl
        have HKL : Hid (k < ks.length) := hkl
        have HT : Hid (∃ t, t = ks.getD k nt) := ⟨_, rfl⟩
        have HOUT : Hid (∀ out c, (4000 < (ks.getD k nt).size + 2 ∧ c = 4) ∨ ((ks.getD k nt).size + 2 ≤ 4000 ∧ ¬ Wh kind (ks.getD k nt).data.toList ∧ c = 3) → out = [] → SayIs ks kind out c) := fun out c y e => HFIN.out out c (.inr ⟨e, k, HKL.out, HOK.out, y⟩)
        have HNX : Hid (Ok kind (ks.getD k nt) → ∀ j, j < k + 1 → Ok kind (ks.getD j nt)) := fun y => ok_next HOK.out y
        have HMT : Hid ((ks.take (k + 1)).map ln = (ks.take k).map ln ++ [ln (ks.getD k nt)]) := map_take hkl
        clear hcell hkl
        generalize ks.getD k nt = t at hc hsz HOUT HNX HMT
        by_cases ht : t.size + 2 ≤ 4000
        rotate_left
        · have d1 : (4000 : Int) < (t.size : Int) + 2 := by omega
          have HR : Hid (SayIs ks kind [] 4) := HOUT.out [] 4 (.inl ⟨by omega, rfl⟩) rfl
          have HBW : Hid (Below w.heap.size w wr) := hbw
          clear ht HOUT HNX hown hbw
          go_wp2
          go_ret2
          exact ⟨⟨_, [], 4, rfl, HR.out, own_nilT _ _⟩, HBW.out⟩
        have d1 : ¬ (4000 : Int) < (t.size : Int) + 2 := by omega
        have d1d : decide ((4000 : Int) < (t.size : Int) + 2) = false := decide_eq_false d1
        have HONE : Hid (Calls Tryd.prog 14 #[.string t, .int .i64 kind] wr fun e w' => Bo (Wh kind t.data.toList) e ∧ Below wr.heap.size wr w') := isOne_any t kind HK.out ht wr m (HENV.out wr hbw).1 (HENV.out wr hbw).2.1 (HENV.out wr hbw).2.2
        have HTS : Hid (t.size + 2 ≤ 4000) := ht
        have hcat := ln_cat t
        have hDs : ¬ 9223372036854775807 < t.size + 2 := by omega
        clear ht
        go_wp2_with fail
        refine HONE.out.mono ?_
        rintro e w1 ⟨⟨o, rfl, ho⟩, b1⟩
        have hown1 := ow.own_below hown b1
        have hbw1 := hbw.trans (b1.mono hBs)
        have hBs1 := hbw1.size
        clear HONE hown hbw b1
        cases o with
        | false =>
          have HR : Hid (SayIs ks kind [] 3) := HOUT.out [] 3 (.inr ⟨HTS.out, fun y => absurd (ho.2 y) (by decide), rfl⟩) rfl
          have HBW : Hid (Below w.heap.size w w1) := hbw1
          clear ho HOUT HNX hown1 hbw1
          go_wp2
          go_ret2
          exact ⟨⟨_, [], 3, rfl, HR.out, own_nilT _ _⟩, HBW.out⟩
        | true =>
          have HOK2 : Hid (∀ j, j < k + 1 → Ok kind (ks.getD j nt)) := HNX.out ⟨HTS.out, ho.1 rfl⟩
          clear ho HOUT HNX
          go_wp2_with (at_builtin; refine wpList_append_own _ rfl _ _ 22 rfl w.heap.size 9 i0 (.string ByteArray.empty) 1 16 Tryd.underlying22 hi hz0 hz1 hz2 rfl (by decide) _ _ _ rfl (hown1.alloc _) ⟨w1.heap.size, 0, none⟩ 1 1 [.string (ln t)] rfl rfl (ow.cells_new _ [.string (ln t)] _) (by intro u hu; simp at hu; subst hu; rfl) (by unfold maxLen; omega) (by omega) (by simp; omega) ?_; intro v' w3 hown3 hgrow3 hnil3)
          have hb3 := Below.grown (hbw1.alloc hBs1 _) hgrow3 (by simp; omega) (ow.own_lt hown1)
          have HA : Hid (w3.ownsRow w.heap.size 9 1 v' (k + 1) (((ks.take (k + 1)).map ln).map Value.string) ∧ Below w.heap.size w w3) := ⟨by rw [HMT.out, List.map_append]; exact hown3, hb3⟩
          clear hown3 hgrow3 hnil3 hb3 hown1 hbw1
          go_wp2
          go_roundw
          case rel => exact ⟨k + 1, by go_num, by omega, HOK2.out, HA.out.1, HA.out.2⟩
          case measure => first | (simp [intOf]; done) | (simp [intOf]; omega)
      · have hkn2 : k = n := by omega
        have HR : Hid (SayIs ks kind (ks.map ln) 0) := HFIN.out _ _ (.inl ⟨rfl, fun j hj => HOK.out j (by have := HN.out; omega), rfl⟩)
        have HKN : Hid (k = n) := hkn2
        rw [List.take_of_length_le (by have := HN.out; omega)] at hown
        have hlt' : decide ((k : Int) < (n : Int)) = false := decide_eq_false (by omega)
        have hlt2 : ¬ (k : Int) < (n : Int) := by omega
        have HBW : Hid (Below w.heap.size w wr) := hbw
        clear hbw hlt hkn hkn2
        go_wp2
        go_ret2
        exact ⟨⟨_, _, 0, rfl, HR.out, by unfold OwnT; rw [List.length_map, ← HN.out, ← HKN.out]; exact hown⟩, HBW.out⟩
end Go.Proofs.YtbfplmafffnghaaDoor.sw
