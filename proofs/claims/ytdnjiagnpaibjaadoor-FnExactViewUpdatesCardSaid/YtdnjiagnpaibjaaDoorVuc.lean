/-
  Lines with counts, the last of a view, the uids of a box.
-/
import Derived.Test.YtdnjiagnpaibjaaDoorVup
namespace Go.Proofs.YtdnjiagnpaibjaaDoor.vu
open Go.RowKit
open ow (Reads)
set_option linter.unusedVariables false

theorem appB (a b : List UInt8) : (⟨a.toArray⟩ : ByteArray) ++ ⟨b.toArray⟩ = ⟨(a ++ b).toArray⟩ := dx.app a b
set_option maxHeartbeats 1000000 in
set_option maxRecDepth 100000 in
theorem count_any (n : Nat) (wd : List UInt8) (w : World) (hT : tb.TP w) (hn : n ≤ 4294967295) (hw : wd.length ≤ 7) :
    Calls Tryd.prog 54 #[.int .i64 (n : Int), .string ⟨wd.toArray⟩] w fun e w' => e = .returned (.string ⟨(cl n wd).toArray⟩) ∧ Below w.heap.size w w' := by
  have hd := dx.dec_small hn
  have HC : Hid ((⟨#[42, 32]⟩ : ByteArray) ++ ⟨(Lib.decDigits n).toArray⟩ ++ ⟨#[32]⟩ ++ ⟨wd.toArray⟩ ++ ⟨#[13, 10]⟩ = ⟨(cl n wd).toArray⟩) := by
    show (⟨[42, 32].toArray⟩ : ByteArray) ++ ⟨(Lib.decDigits n).toArray⟩ ++ ⟨[32].toArray⟩ ++ ⟨wd.toArray⟩ ++ ⟨[13, 10].toArray⟩ = _
    rw [appB, appB, appB, appB]
    rfl
  have HI := dx.itoa_any n hn w hT
  clear hT
  obtain ⟨D, hD⟩ : ∃ D : ByteArray, D = ⟨(Lib.decDigits n).toArray⟩ := ⟨_, rfl⟩
  obtain ⟨X, hX⟩ : ∃ X : ByteArray, X = ⟨wd.toArray⟩ := ⟨_, rfl⟩
  have hDs : D.size ≤ 10 := by rw [hD, Lib.size_eq]; simpa using hd
  have hXs : X.size ≤ 7 := by rw [hX, Lib.size_eq]; simpa using hw
  rw [← hD] at HI HC
  rw [← hX] at HC ⊢
  clear hD hX hd hw
  go_enter Tryd.func54, Tryd.ntmps54
  go_wp2_with fail
  refine HI.mono ?_
  rintro e w1 ⟨rfl, hb⟩
  clear HI
  have s1 : ((⟨#[42, 32]⟩ : ByteArray) ++ D).size ≤ 20 := by rw [ByteArray.size_append]; show 2 + D.size ≤ 20; omega
  have s2 : ((⟨#[42, 32]⟩ : ByteArray) ++ D ++ ⟨#[32]⟩).size ≤ 30 := by rw [ByteArray.size_append]; show _ + 1 ≤ 30; omega
  have s3 : ((⟨#[42, 32]⟩ : ByteArray) ++ D ++ ⟨#[32]⟩ ++ X).size ≤ 40 := by rw [ByteArray.size_append]; omega
  have s4 : ((⟨#[42, 32]⟩ : ByteArray) ++ D ++ ⟨#[32]⟩ ++ X ++ ⟨#[13, 10]⟩).size ≤ 50 := by rw [ByteArray.size_append]; show _ + 2 ≤ 50; omega
  go_wp2
  go_ret
  exact ⟨congrArg (fun t => Ending.returned (Value.string t)) HC.out, hb⟩

set_option maxHeartbeats 1000000 in
set_option maxRecDepth 100000 in
theorem last_any (v : Value) (zs : List Int) (w : World) (h : Reads .i64 w v zs) (hn : zs.length ≤ 1048576) :
    Calls Tryd.prog 55 #[v] w fun e w' => e = .returned (.int .i64 (lst zs)) ∧ w' = w := by
  obtain ⟨a, cap, rfl, h⟩ := h
  by_cases h0 : zs = []
  · subst h0
    clear h
    go_enter Tryd.func55, Tryd.ntmps55
    go_wp2
    go_ret
    exact ⟨rfl, rfl⟩
  rcases h with h | ⟨b, off, rfl, h⟩
  · exact absurd h h0
  have hl : 0 < zs.length := by cases zs with | nil => exact absurd rfl h0 | cons a b => simp
  have c0 := h (zs.length - 1) (by omega)
  have HL : Hid (zs.getD (zs.length - 1) 0 = lst zs) := rfl
  generalize zs.getD (zs.length - 1) 0 = x at c0 HL
  obtain ⟨m, hm⟩ : ∃ m, zs.length = m + 1 := ⟨zs.length - 1, by omega⟩
  rw [hm] at c0 hn ⊢
  clear h hl hm h0
  have c1 : w.cell? ⟨b, off + m, none⟩ = some (.int .i64 x) := c0
  clear c0
  have e0 : (((m + 1 : Nat) : Int) == 0) = false := beq_eq_false_iff_ne.2 (by omega)
  have e0' : (((m : Int) + 1) == 0) = false := beq_eq_false_iff_ne.2 (by omega)
  have e1 : (m : Int) + 1 - 1 = (m : Int) := by omega
  have e1' : ((m + 1 : Nat) : Int) - 1 = (m : Int) := by omega
  have hm1 : (m : Int) < ((m + 1 : Nat) : Int) := by omega
  have hm2 : (m : Int) < (m : Int) + 1 := by omega
  go_enter Tryd.func55, Tryd.ntmps55
  go_wp2
  go_ret
  exact ⟨congrArg (fun t => Ending.returned (Value.int .i64 t)) HL.out, rfl⟩

set_option maxHeartbeats 2000000 in
set_option maxRecDepth 100000 in
theorem uids_any (x : bx.Bx) (p q : Value) (w : World) (h : bx.RowsAt w p q x.ms x.ks) (hl : x.ms.length ≤ 30) :
    Calls Tryd.prog 56 #[bx.BV x p q] w fun e w' => (∃ v', e = .returned v' ∧ w'.ownsRow w.heap.size 3 1 v' x.ms.length ((uo x.ms).map (Value.int .i64))) ∧ Below w.heap.size w w' := by
  obtain ⟨i0, hi, hz0, hz1, hz2⟩ := info_parts ow.Tryd.infoNum
  have L0 := bx.lies_new w 32 x p q
  have b0 := bx.new_below w 32 #[.string x.nm, .int .i64 x.vd, .int .i64 x.nx, p, q]
  have HA := bx.rows_below h b0
  obtain ⟨⟨a, cap, rfl, _⟩, ⟨a1, cap1, rfl, _⟩⟩ := h
  obtain ⟨nm, vd, nx, ms, ks⟩ := x
  unfold bx.BV
  simp only at L0 b0 HA hl ⊢
  obtain ⟨n, hn⟩ : ∃ n, n = ms.length := ⟨_, rfl⟩
  have HN : Hid (n = ms.length) := hn
  rw [← hn] at L0 b0 HA hl ⊢
  clear hn
  have c3 := L0.c3
  go_enter Tryd.func56, Tryd.ntmps56
  go_upto_region 1 with fail
  generalize hW : w.alloc _ = w0 at L0 b0 HA c3 ⊢
  have HB0 : Hid (Below w.heap.size w w0) := b0
  have HA0 : Hid (bx.RowsAt w0 (.slice a n cap) (.slice a1 ks.length cap1) ms ks) := HA
  clear hW b0 HA
  go_upto_region 2 with (at_make; refine wpList_make_full _ rfl _ _ 26 rfl w0.heap.size 3 i0 (.int .i64 0) 1 Tryd.underlying26 hi hz0 hz1 _ _ _ _ n rfl rfl rfl rfl (by rw [hz2]; omega) (by unfold maxLen; omega) (Nat.le_refl _) ?_; intro w1 hown1 hg1)
  have hb1 : Below w0.heap.size w0 w1 := (Below.refl _ _).grown hg1 (Nat.le_refl _) (fun k hk => by cases hk)
  have hrep : (madeCells (Value.cells (.int .i64 0)) (n * 1)).toList = (List.replicate n (0 : Int)).map (Value.int .i64) := by
    rw [Nat.mul_one, List.map_replicate]
    exact toList_madeCells_one _ _
  rw [hrep] at hown1
  have L1 := L0.keep hb1
  have c3 := L1.c3
  clear hg1 hrep L0
  go_wp2_with fail
  clear c3 L1
  go_loopw [13] (fun i wr => ∃ (k : Nat) (ys : List Int), k ≤ n ∧ i = .int .i64 k ∧ ys.length = n ∧ (∀ j, j < k → ys.getD j 0 = (uo ms).getD j 0) ∧ wr.ownsRow w0.heap.size 3 1 (.slice (some ⟨w0.heap.size, 0, none⟩) n n) n (ys.map (Value.int .i64)) ∧ Below w0.heap.size w0 wr) (fun i _ => n - (intOf i).toNat)
  case atStart => exact ⟨0, List.replicate n 0, Nat.zero_le _, rfl, List.length_replicate, fun j hj => absurd hj (Nat.not_lt_zero _), hown1, hb1⟩
  case round =>
    clear hown1 hb1
    obtain ⟨k, ys, hk, rfl, hyl, hm, hown, hbw⟩ := hrel
    have HM : Hid (∀ j, j < k → ys.getD j 0 = (uo ms).getD j 0) := hm
    have HL : Hid (ys.length = n) := hyl
    clear hm hyl
    by_cases hlt : k < n
    · have hka : k < ms.length := by rw [← HN.out]; exact hlt
      have HKA : Hid (k < ms.length) := hka
      obtain ⟨b, off, ha, hat⟩ : ∃ b off, a = some ⟨b, off, none⟩ ∧ st.At3 wr b (off + k * 3) (ms.getD k st.noS) := by
        obtain ⟨a', cap', e, hh⟩ := HA0.out.1
        cases e
        rcases hh with e | ⟨b, off, e, hb, hc⟩
        · rw [e] at hka; simp at hka
        · exact ⟨b, off, e, (hc k hka).keep (hbw.mono (Nat.le_refl _)) hb⟩
      subst ha
      have HX : Hid ((uo ms).getD k 0 = (ms.getD k st.noS).u) := uo_at hka
      clear hka
      generalize ms.getD k st.noS = m at hat HX
      obtain ⟨uu, ff, tt⟩ := m
      obtain ⟨d0, d1, d2⟩ := hat
      simp only at d0 d1 d2 HX
      have hlt' : (k : Int) < (n : Int) := by omega
      go_upto_region 5 with fail
      have hb2 := bx.new_below wr 49 #[.int .i64 uu, .int .i64 ff, .string tt]
      have M0 : (wr.alloc (.cells #[.int .i64 uu, .int .i64 ff, .string tt] 49)).heap[wr.heap.size]? = some (.cells #[.int .i64 uu, .int .i64 ff, .string tt] 49 (0, 0)) := bx.heap_new _ _
      have hown2 := ow.own_below hown hb2
      have hbw2 := hbw.trans (hb2.mono hbw.size)
      clear hown hbw d0 d1 d2
      generalize wr.alloc _ = X at M0 hown2 hbw2 ⊢
      have m0 : X.cell? ⟨wr.heap.size, 0, none⟩ = some (.int .i64 uu) := by rw [cell_of_row X _ _ _ _ _ M0]; rfl
      clear M0 hb2
      have hc := hown2.cellAt k (by omega)
      have hyk : (ys.map (Value.int .i64))[k]? = some (.int .i64 (ys.getD k 0)) := by have := HL.out; simp [show k < ys.length from by omega]
      rw [hyk] at hc
      have hf := hown2.frozenAt k
      have hst := hown2.stored k (.int .i64 uu)
      rw [← List.map_set] at hst
      have HS : Hid ((X.setCell ⟨w0.heap.size, k, none⟩ (.int .i64 uu)).ownsRow w0.heap.size 3 1 (.slice (some ⟨w0.heap.size, 0, none⟩) n n) n ((ys.set k uu).map (Value.int .i64)) ∧ Below w0.heap.size w0 (X.setCell ⟨w0.heap.size, k, none⟩ (.int .i64 uu))) := ⟨hst.1, hbw2.setCell (Nat.le_refl _) _⟩
      clear hst hbw2 hown2 hyk
      go_wp2
      go_roundw
      case rel => exact ⟨k + 1, ys.set k uu, by omega, by go_num, by rw [List.length_set]; exact HL.out, fun j hj => by
          rw [ow.getD_set (by rw [HL.out]; exact hlt)]
          by_cases e : j = k
          · rw [if_pos e, e, HX.out]
          · rw [if_neg e]; exact HM.out j (by omega), HS.out.1, HS.out.2⟩
      case measure => simp [intOf]; omega
    · have hyz : ys = uo ms := ow.getD_ext (by rw [HL.out, uo_len, HN.out]) (fun j hj => HM.out j (by have := HL.out; omega))
      subst hyz
      have HZ : Hid (wr.ownsRow w.heap.size 3 1 (.slice (some ⟨w0.heap.size, 0, none⟩) n n) n ((uo ms).map (Value.int .i64))) := ⟨hown.1, hown.2.imp id fun ⟨g, cap, cur, he, hb', r⟩ => ⟨g, cap, cur, he, Nat.le_trans HB0.out.size hb', r⟩⟩
      have HB : Hid (Below w.heap.size w wr) := HB0.out.trans (hbw.mono HB0.out.size)
      clear hown hbw
      go_wp2
      go_ret
      exact ⟨⟨_, rfl, HZ.out⟩, HB.out⟩
end Go.Proofs.YtdnjiagnpaibjaaDoor.vu
