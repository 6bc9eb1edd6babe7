/-
  Helpers of the laws on a log: texts held against texts; bytes put together of one and others.
-/
import Derived.Test.YtcmhpkgboacojaaDoorLgq
import Derived.Test.YtcmhpkgboacojaaDoorLgu
import Derived.Test.YtcmhpkgboacojaaDoorSrr
import Derived.Test.YtcmhpkgboacojaaDoorArg
import Derived.Laws.OwnMore
namespace Go.Proofs.YtcmhpkgboacojaaDoor.lg
open Go.RowKit
open ky (OwnT TextsAt own_texts texts_below)
set_option linter.unusedVariables false

set_option maxHeartbeats 1000000 in
set_option maxRecDepth 100000 in
theorem sameTexts_any (v u : Value) (ks : List ByteArray) (w : World) (h1 : TextsAt w v ks) (h2 : TextsAt w u ks) (hn : ks.length ≤ 1048576) :
    Calls Tryd.prog 21 #[v, u] w fun e w' => e = .returned (.bool true) ∧ Below w.heap.size w w' := by
  obtain ⟨a, cap, rfl, h1⟩ := h1
  obtain ⟨c, cap2, rfl, h2⟩ := h2
  obtain ⟨n, hn'⟩ : ∃ n, n = ks.length := ⟨_, rfl⟩
  have HN : Hid (n = ks.length) := hn'
  have H1 : Hid (ks = [] ∨ ∃ b off, a = some ⟨b, off, none⟩ ∧ ∀ j, j < ks.length → w.cell? ⟨b, off + j, none⟩ = some (.string (ks.getD j ky.nt))) := h1
  have H2 : Hid (ks = [] ∨ ∃ b off, c = some ⟨b, off, none⟩ ∧ ∀ j, j < ks.length → w.cell? ⟨b, off + j, none⟩ = some (.string (ks.getD j ky.nt))) := h2
  rw [← hn'] at hn ⊢
  clear h1 h2 hn'
  have hnn : ((n : Int) != (n : Int)) = false := by simp
  go_enter Tryd.func21, Tryd.ntmps21
  go_wp2
  go_loopw [5] (fun i wr => ∃ k : Nat, k ≤ n ∧ i = .int .i64 k ∧ Below w.heap.size w wr) (fun i _ => n - (intOf i).toNat)
  case atStart => exact ⟨0, Nat.zero_le _, rfl, Below.refl _ _⟩
  case round =>
    obtain ⟨k, hk, rfl, hbw⟩ := hrel
    by_cases hlt : k < n
    · have hka : k < ks.length := by rw [← HN.out]; exact hlt
      rcases H1.out with e | ⟨b, off, rfl, hcells⟩
      · rw [e] at hka; simp at hka
      rcases H2.out with e | ⟨b2, off2, rfl, hcells2⟩
      · rw [e] at hka; simp at hka
      have v0 := hcells k hka
      have u0 := hcells2 k hka
      have c0 := (hbw.cell (p := ⟨b, off + k, none⟩) (World.block_lt_of_cell? w _ v0)).trans v0
      have d0 := (hbw.cell (p := ⟨b2, off2 + k, none⟩) (World.block_lt_of_cell? w _ u0)).trans u0
      clear hcells hka hcells2 v0 u0
      generalize ks.getD k ky.nt = x at c0 d0
      have hxx : (x.toList == x.toList) = true := by simp
      have hlt' : (k : Int) < (n : Int) := by omega
      have hk0 : (0 : Int) ≤ (k : Int) := by omega
      go_wp2
      go_quiet (fail)
      have b3 : Below w.heap.size w (wr.drewN nq) := ⟨hbw.os, hbw.tape, hbw.output, hbw.size, hbw.block⟩
      clear c0 d0
      go_wp2
      go_roundw
      case rel => exact ⟨k + 1, by omega, by go_num, b3⟩
      case measure => simp [intOf]; omega
    · go_wp2
      go_ret
      exact ⟨rfl, hbw⟩

theorem cat_small : ∀ {l : List ByteArray}, (∀ x ∈ l, sr.Rec x) → (catR l).size ≤ 28 * l.length
  | [], _ => Nat.le_refl _
  | x :: l, h => by
    rw [catR_cons, List.length_cons]
    have h1 := (h x (by simp)).2
    have h2 := cat_small (l := l) (fun y hy => h y (by simp [hy]))
    omega
theorem cat_rights {l : List ByteArray} (h : ∀ x ∈ l, sr.Rec x) : Rights l := fun x hx => ⟨(h x hx).1, by have := (h x hx).2; omega⟩
theorem take_size : ∀ (l : List ByteArray) (j : Nat), (catR (l.take j)).size ≤ (catR l).size
  | [], j => by rw [List.take_nil]; exact Nat.le_refl _
  | x :: l, 0 => Nat.zero_le _
  | x :: l, j + 1 => by
    rw [List.take_succ_cons, catR_cons, catR_cons]
    have := take_size l j
    omega
theorem own_one (w : World) (t : TypeId) (u : Value) : (w.alloc (.cells #[u] t)).ownsRow w.heap.size t 1 (.slice (some ⟨w.heap.size, 0, none⟩) 1 1) 1 [u] := by
  have h1 : (w.alloc (.cells #[u] t)).heap[w.heap.size]? = some (.cells #[u] t) := by
    show (w.heap.push (.cells #[u] t))[w.heap.size]? = _
    simp
  exact ⟨rfl, .inr ⟨_, 1, #[u], rfl, Nat.le_refl _, h1, Nat.le_refl _, by unfold maxLen; omega, rfl, rfl⟩⟩
theorem own_bytes {w : World} {base n : Nat} {v : Value} {zs : List Int} (h : w.ownsRow base 5 1 v n (zs.map (Value.int .u8))) (hn : n ≤ 2097152) (hz : ∀ z ∈ zs, 0 ≤ z ∧ z ≤ 255) : ∃ a cap, v = .slice a n cap ∧ sr.Bytes w a n := by
  have hl : zs.length = n := by have := h.1; simpa using this
  rcases h.2 with ⟨rfl, rfl⟩ | ⟨g, cap, cur, rfl, _⟩
  · exact ⟨none, 0, rfl, by omega, .inl rfl⟩
  · refine ⟨_, cap, rfl, hn, ?_⟩
    by_cases h0 : n = 0
    · exact .inl h0
    · refine .inr ⟨g, 0, rfl, fun j hj => ?_⟩
      have hc := h.cellAt j (by omega)
      have hj2 : j < zs.length := by omega
      rw [List.getElem?_map, List.getElem?_eq_getElem hj2] at hc
      have hb := hz _ (List.getElem_mem hj2)
      rw [Nat.zero_add]
      exact ⟨_, hb.1, hb.2, hc⟩
theorem row_cells {w : World} {a : Option Addr} {len cap : Nat} {zs : List Int} (h : ag.IsRow .u8 w a len cap zs) : ∀ z ∈ zs.take len, 0 ≤ z ∧ z ≤ 255 := by
  intro z hz
  rcases h with ⟨rfl, rfl, rfl, rfl⟩ | ⟨x, rfl, hlc, hm, hz2, hcell, hwz⟩
  · simp at hz
  · exact bounds_u8 (hwz z (List.mem_of_mem_take hz))

theorem row_below {w w' : World} {a : Option Addr} {len cap : Nat} {zs : List Int} (h : ag.IsRow .u8 w a len cap zs) (hb : Below w.heap.size w w') : ag.IsRow .u8 w' a len cap zs := by
  rcases h with h | ⟨x, rfl, h1, h2, h3, hcell, h4⟩
  · exact .inl h
  · exact .inr ⟨x, rfl, h1, h2, h3, fun i hi => (hb.cell (World.block_lt_of_cell? w _ (hcell i hi))).trans (hcell i hi), h4⟩

theorem wp_code {ops : Array Oper} {rest : List Oper} {o : Oper} {a : Act} {Q : Exit → Act → World → Prop} {w : World} (hgd : o.guard = none) (s x : Operand)
    (ho : o.op = .call { callee := .builtin .append, args := #[s, x], argTypes := #[36, 36] })
    (base : Nat) (z : Int) (v : Value) (a0 : Option Addr) (len0 cap0 : Nat) (z0 : List Int) (hs : a.eval s = v) (hx : a.eval x = .slice a0 len0 cap0)
    (hown : w.ownsRow base 5 1 v 1 [.int .u8 z]) (hz : 0 ≤ z ∧ z ≤ 255) (hrow : ag.IsRow .u8 w a0 len0 cap0 z0) (hl : len0 ≤ 1048576) (hbase : base ≤ w.heap.size)
    (h : ∀ ax cx w', sr.Bytes w' ax (1 + len0) → w.grownBy w' v.ownBlock → wpList Tryd.prog ops Q rest (a.put o.dst (.slice ax (1 + len0) cx)) w') : wpList Tryd.prog ops Q (o :: rest) a w := by
  obtain ⟨i0, hi, hz0, hz1, hz2⟩ := info_parts sr.infoB
  have hr2 := hrow
  have hz' : ∀ y ∈ z :: z0.take len0, 0 ≤ y ∧ y ≤ 255 := by
    intro y hy
    rcases List.mem_cons.1 hy with rfl | hy
    · exact hz
    · exact row_cells hr2 y hy
  rcases hrow with ⟨rfl, rfl, rfl, rfl⟩ | ⟨ad, rfl, hlc, hm, hzl, hcell, hwz⟩
  · refine wpList_plain hgd fun _ hK => ?_
    have hr := run_append_owned_none (P := Tryd.prog) w base 36 o.type 5 i0 1 Tryd.underlying36 hi v 1 [Value.int .u8 z] hown
    unfold Oper.wp execOp
    simp only [ho, resolve, invoke, builtin, Sem.run_bind, Sem.run_pure, Result.andThen_ok, List.map_toArray, List.map_cons, List.map_nil, hs, hx, hr]
    obtain ⟨ax, cx, rfl, hB⟩ := own_bytes (zs := [z]) hown (by omega) (by simpa using hz)
    exact hK _ _ (h ax cx w hB (ow.grown_refl _ _))
  · refine wpList_append_own _ hgd s x 36 ho base 5 i0 (.int .u8 0) 1 1 Tryd.underlying36 hi hz0 hz1 hz2 rfl (by decide) v 1 [.int .u8 z] hs hown ad len0 cap0 ((z0.take len0).map (Value.int .u8)) hx ?_ ?_ ?_ (by unfold maxLen; omega) (by omega) hbase ?_
    · rw [List.length_map, List.length_take]
      omega
    · intro j u hj
      rw [List.getElem?_map, List.getElem?_take] at hj
      split at hj
      · rename_i hjl
        have hj2 : j < z0.length := by omega
        rw [List.getElem?_eq_getElem hj2] at hj
        have := hcell j hj2
        rw [List.getD_eq_getElem?_getD, List.getElem?_eq_getElem hj2] at this
        rw [this]
        exact hj
      · cases hj
    · intro u hu
      obtain ⟨y, _, rfl⟩ := List.mem_map.1 hu
      rfl
    · intro v' w' h1 h2 _
      obtain ⟨ax, cx, rfl, hB⟩ := own_bytes (zs := z :: z0.take len0) h1 (by omega) hz'
      exact h ax cx w' hB h2
end Go.Proofs.YtcmhpkgboacojaaDoor.lg
