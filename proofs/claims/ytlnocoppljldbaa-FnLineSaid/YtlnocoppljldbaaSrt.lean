/-
  Contracts of the specification's drawn texts: a drawn rune, a drawn right text, and one that may have bytes that are none.
-/
import Derived.Test.YtlnocoppljldbaaSrc
import Derived.Test.YtlnocoppljldbaaTew
namespace Go.Proofs.Ytlnocoppljldbaa.sr
open Go.RowKit
open Go.Proofs.Ytlnocoppljldbaa.ut (scB inB encB cellsOf enc_len flat_len cells_one bytes_any)
set_option linter.unusedVariables false

theorem Try.infoByte : (Try.prog.info? 5).map (fun i => (i.zero, i.size, i.bytes)) = some (some (.int .u8 0), 1, 1) := by kernel_rfl

/-- What a drawn rune leaves. -/
def Runed (w : World) (b : Nat) (a : Option Addr) (len cap : Nat) (at_ k : Int) (e : Ending) (w' : World) : Prop :=
  ∃ r at' sd' : Int, e = .returned (.int .i64 r) ∧ scB r = true ∧ at_ ≤ at' ∧ at' ≤ at_ + k ∧ 0 ≤ sd' ∧ sd' < 2147483648 ∧ Src w' b a len cap at' sd' ∧ w.grownBy w' (some b)

def runeRow (x y : Int) : List Int := [x, y, 228, 2047, 2048, 8364, 55295, 57344, 65535, 65536, 128512, 1114111]
theorem runeRow_ok (x y : Int) (x0 : 0 ≤ x) (x1 : x ≤ 127) (y0 : 97 ≤ y) (y1 : y ≤ 122) (k : Nat) (h : k < 12) : ∃ r, scB r = true ∧ ((runeRow x y).map (Value.int .i64))[k]? = some (.int .i64 r) := by
  match k, h with
  | 0, _ => exact ⟨x, by simp [scB, inB]; omega, rfl⟩
  | 1, _ => exact ⟨y, by simp [scB, inB]; omega, rfl⟩
  | 2, _ => exact ⟨228, rfl, rfl⟩
  | 3, _ => exact ⟨2047, rfl, rfl⟩
  | 4, _ => exact ⟨2048, rfl, rfl⟩
  | 5, _ => exact ⟨8364, rfl, rfl⟩
  | 6, _ => exact ⟨55295, rfl, rfl⟩
  | 7, _ => exact ⟨57344, rfl, rfl⟩
  | 8, _ => exact ⟨65535, rfl, rfl⟩
  | 9, _ => exact ⟨65536, rfl, rfl⟩
  | 10, _ => exact ⟨128512, rfl, rfl⟩
  | 11, _ => exact ⟨1114111, rfl, rfl⟩
  | n + 12, h => exact absurd h (by omega)

set_option maxHeartbeats 1000000 in
set_option maxRecDepth 100000 in
theorem rune_any (w : World) (b : Nat) (a : Option Addr) (len cap : Nat) (at_ sd : Int) (hs : Src w b a len cap at_ sd) (hc : Code w b a len) (h0 : 0 ≤ at_) (h1 : at_ ≤ 800000) (s0 : 0 ≤ sd) (s1 : sd < 2147483648) :
    Calls Try.prog 47 #[.pointer (some ⟨b, 0, none⟩)] w fun e w' => Runed w b a len cap at_ 9 e w' := by
  go_enter Try.func47, Try.ntmps47
  go_wp2_with fail
  refine (next_any _ b a len cap at_ sd 128 hs hc h0 (by omega) s0 s1 (by omega) (by omega)).mono ?_
  rintro e w1 ⟨x, at1, sd1, rfl, x0, x1, a0, a1, d0, d1, hs1, hg1⟩
  have hc1 := code_keep hc hg1
  go_wp2_with fail
  refine (next_any _ b a len cap at1 sd1 26 hs1 hc1 (by omega) (by omega) d0 d1 (by omega) (by omega)).mono ?_
  rintro e w2 ⟨y, at2, sd2, rfl, y0, y1, a2, a3, d2, d3, hs2, hg2⟩
  have hc2 := code_keep hc1 hg2
  have hb2 : b < w2.heap.size := (Array.getElem?_eq_some_iff.1 hs2).1
  have hga : w2.grownBy (w2.alloc (.cells ((runeRow x (97 + y)).map (Value.int .i64)).toArray 3)) (some b) := World.grownBy_alloc _ _ _
  have hsa : Src (w2.alloc (.cells ((runeRow x (97 + y)).map (Value.int .i64)).toArray 3)) b a len cap at2 sd2 := src_keep hs2 (World.grownBy_alloc _ _ none) (by simp)
  have hca := code_keep hc2 hga
  have hg12 := ow.grown_trans (ow.grown_trans hg1 hg2) hga
  clear hs hs1 hs2 hc hc1 hc2 hg1 hg2 hga
  go_wp2_with fail
  refine (next_any _ b a len cap at2 sd2 12 (by exact hsa) (by exact hca) (by omega) (by omega) d2 d3 (by omega) (by omega)).mono ?_
  rintro e w3 ⟨z, at3, sd3, rfl, z0, z1, a4, a5, d4, d5, hs3, hg3⟩
  obtain ⟨k, rfl⟩ : ∃ k : Nat, z = (k : Int) := ⟨z.toNat, by omega⟩
  obtain ⟨r, hr, hrow⟩ := runeRow_ok x (97 + y) x0 (by omega) (by omega) (by omega) k (by omega)
  have hcell := ow.cell_new w2 ((runeRow x (97 + y)).map (Value.int .i64)) 3 k _ hrow
  have hcell3 : w3.cell? ⟨w2.heap.size, k, none⟩ = some (.int .i64 r) := hg3.cell hcell (fun e => by simp at e; omega)
  have HH : Hid _ := And.intro hs3 (ow.grown_trans hg12 hg3)
  clear hs3 hg3 hg12 hsa hca hcell hrow
  have HR : Hid (scB r = true) := hr
  clear hr
  have hk12 : (k : Int) < 12 := by omega
  go_wp2
  go_ret
  exact ⟨r, at3, sd3, rfl, HR.out, by omega, by omega, d4, d5, HH.out.1, HH.out.2⟩

/-- What a drawn right text leaves: the bytes of some runes. -/
def Texted (w : World) (b : Nat) (a : Option Addr) (len cap : Nat) (at_ k : Int) (e : Ending) (w' : World) : Prop :=
  ∃ (zs : List Int) (at' sd' : Int), e = .returned (.string ⟨(zs.flatMap encB).toArray⟩) ∧ zs.length ≤ 11 ∧ (∀ r ∈ zs, scB r = true) ∧ at_ ≤ at' ∧ at' ≤ at_ + k ∧ 0 ≤ sd' ∧ sd' < 2147483648 ∧ Src w' b a len cap at' sd' ∧ w.grownBy w' (some b)

theorem lx0 (wx : World) : (Instr.index 9 (.string { data := #[97, 98, 99, 32, 120, 121, 122, 46] }) (.int .i64 0)).run Try.prog wx = .ok (.int .u8 97) wx := by kernel_rfl
theorem lx1 (wx : World) : (Instr.index 9 (.string { data := #[97, 98, 99, 32, 120, 121, 122, 46] }) (.int .i64 1)).run Try.prog wx = .ok (.int .u8 98) wx := by kernel_rfl
theorem lx2 (wx : World) : (Instr.index 9 (.string { data := #[97, 98, 99, 32, 120, 121, 122, 46] }) (.int .i64 2)).run Try.prog wx = .ok (.int .u8 99) wx := by kernel_rfl
theorem lx3 (wx : World) : (Instr.index 9 (.string { data := #[97, 98, 99, 32, 120, 121, 122, 46] }) (.int .i64 3)).run Try.prog wx = .ok (.int .u8 32) wx := by kernel_rfl
theorem lx4 (wx : World) : (Instr.index 9 (.string { data := #[97, 98, 99, 32, 120, 121, 122, 46] }) (.int .i64 4)).run Try.prog wx = .ok (.int .u8 120) wx := by kernel_rfl
theorem lx5 (wx : World) : (Instr.index 9 (.string { data := #[97, 98, 99, 32, 120, 121, 122, 46] }) (.int .i64 5)).run Try.prog wx = .ok (.int .u8 121) wx := by kernel_rfl
theorem lx6 (wx : World) : (Instr.index 9 (.string { data := #[97, 98, 99, 32, 120, 121, 122, 46] }) (.int .i64 6)).run Try.prog wx = .ok (.int .u8 122) wx := by kernel_rfl
theorem lx7 (wx : World) : (Instr.index 9 (.string { data := #[97, 98, 99, 32, 120, 121, 122, 46] }) (.int .i64 7)).run Try.prog wx = .ok (.int .u8 46) wx := by kernel_rfl
theorem letter_ix (k : Nat) (h : k < 8) : ∃ c : Nat, c < 128 ∧ ∀ wx : World, (Instr.index 9 (.string { data := #[97, 98, 99, 32, 120, 121, 122, 46] }) (.int .i64 (k : Int))).run Try.prog wx = .ok (.int .u8 (c : Int)) wx := by
  match k, h with
  | 0, _ => exact ⟨97, by decide, lx0⟩
  | 1, _ => exact ⟨98, by decide, lx1⟩
  | 2, _ => exact ⟨99, by decide, lx2⟩
  | 3, _ => exact ⟨32, by decide, lx3⟩
  | 4, _ => exact ⟨120, by decide, lx4⟩
  | 5, _ => exact ⟨121, by decide, lx5⟩
  | 6, _ => exact ⟨122, by decide, lx6⟩
  | 7, _ => exact ⟨46, by decide, lx7⟩
  | n + 8, h => exact absurd h (by omega)

set_option maxHeartbeats 2000000 in
set_option maxRecDepth 100000 in
theorem text_any (w : World) (b : Nat) (a : Option Addr) (len cap : Nat) (at_ sd : Int) (hs : Src w b a len cap at_ sd) (hc : Code w b a len) (h0 : 0 ≤ at_) (h1 : at_ ≤ 700000) (s0 : 0 ≤ sd) (s1 : sd < 2147483648) :
    Calls Try.prog 27 #[.pointer (some ⟨b, 0, none⟩)] w fun e w' => Texted w b a len cap at_ 1000 e w' := by
  obtain ⟨i0, hi, hz0, hz1, hz2⟩ := info_parts Try.infoByte
  have hbw : b < w.heap.size := (Array.getElem?_eq_some_iff.1 hs).1
  have hga : w.grownBy (w.alloc (.cells #[] 5)) (some b) := World.grownBy_alloc _ _ _
  have hsa : Src (w.alloc (.cells #[] 5)) b a len cap at_ sd := src_keep hs (World.grownBy_alloc _ _ none) (by simp)
  have hca := code_keep hc hga
  have hoa := ow.own_empty w 5
  go_enter Try.func27, Try.ntmps27
  go_wp2_with fail
  refine (next_any _ b a len cap at_ sd 12 (by exact hsa) (by exact hca) h0 (by omega) s0 s1 (by omega) (by omega)).mono ?_
  rintro e w1 ⟨x, at1, sd1, rfl, x0, x1, a0, a1, d0, d1, hs1, hg1⟩
  have hc1 := code_keep hca hg1
  have ho1 := hoa.kept hg1 (.inr (by simp [Value.ownBlock]; omega))
  have hgw := ow.grown_trans hga hg1
  clear hga hsa hca hoa hg1 hs hc
  obtain ⟨n0, rfl⟩ : ∃ n0 : Nat, x = (n0 : Int) := ⟨x.toNat, by omega⟩
  go_wp2
  go_loopw [3, 4] (fun v i wr => ∃ (k : Nat) (zs : List Int) (at2 sd2 : Int), i = .int .i64 k ∧ zs.length + k ≤ 11 ∧ (∀ r ∈ zs, scB r = true) ∧ at_ ≤ at2 ∧ at2 ≤ at_ + 3 + 12 * zs.length ∧ 0 ≤ sd2 ∧ sd2 < 2147483648 ∧ Src wr b a len cap at2 sd2 ∧ w.grownBy wr (some b) ∧ Code wr b a len ∧
      wr.ownsRow w.heap.size 5 1 v (zs.flatMap encB).length (cellsOf (zs.flatMap encB))) (fun _ i _ => (intOf i).toNat)
  case atStart => exact ⟨n0, [], at1, sd1, rfl, by simp; omega, by simp, a0, by simp; omega, d0, d1, hs1, hgw, hc1, ho1⟩
  case round =>
    clear hs1 hgw hc1 ho1
    obtain ⟨k, zs, at2, sd2, rfl, hk, hall, e0, e1, f0, f1, hs2, hg2, hc2, hown⟩ := hrel
    have HALL : Hid (∀ r ∈ zs, scB r = true) := hall
    clear hall
    have hfl := flat_len zs
    by_cases hpos : 0 < k
    case neg =>
      have hcv := ow.conv_bytes (P := Try.prog) (zs.flatMap encB) hown Try.underlying22 Try.underlying5 Try.underlying9
      have hk0 : ¬ (0 : Int) < (k : Int) := by omega
      have HH : Hid _ := And.intro hs2 hg2
      clear hs2 hg2 hc2 hown
      go_wp2
      go_ret
      exact ⟨zs, at2, sd2, rfl, by omega, HALL.out, e0, by omega, f0, f1, HH.out.1, HH.out.2⟩
    have hk0 : (0 : Int) < (k : Int) := by omega
    go_wp2_with fail
    refine (chance_any _ b a len cap at2 sd2 2 hs2 hc2 (by omega) (by omega) f0 f1 (by omega) (by omega)).mono ?_
    rintro e w3 ⟨ch, at3, sd3, rfl, g0, g1, d2, d3, hs3, hg3⟩
    have hc3 := code_keep hc2 hg3
    have hgw3 := ow.grown_trans hg2 hg3
    have hown3 := hown.kept hg3 (by
      rcases hown.2 with ⟨rfl, _⟩ | ⟨g, cp, cur, rfl, hge, _⟩
      · exact .inl rfl
      · right; simp [Value.ownBlock]; omega)
    have hsz3 := hgw3.size
    clear hs2 hc2 hg2 hg3 hown
    cases ch
    · go_wp2_with fail
      refine (rune_any _ b a len cap at3 sd3 hs3 hc3 (by omega) (by omega) d2 d3).mono ?_
      rintro e w4 ⟨r, at4, sd4, rfl, hr, g2, g3, d4, d5, hs4, hg4⟩
      have hc4 := code_keep hc3 hg4
      have hgw4 := ow.grown_trans hgw3 hg4
      have hown4 := hown3.kept hg4 (by
        rcases hown3.2 with ⟨rfl, _⟩ | ⟨g, cp, cur, rfl, hge, _⟩
        · exact .inl rfl
        · right; simp [Value.ownBlock]; omega)
      have hsz4 := hgw4.size
      clear hs3 hc3 hg4 hown3 hgw3
      obtain ⟨c, rfl⟩ : ∃ c : Nat, r = (c : Int) := ⟨r.toNat, by simp [scB, inB] at hr; omega⟩
      have hel := enc_len (c : Int)
      go_wp2_with fail
      refine (bytes_any c hr _).mono ?_
      rintro e w5 ⟨rfl, rfl⟩
      have hx63 : (zs.flatMap encB).length + (encB c).length ≤ maxLen := by unfold maxLen; omega
      have hx47 : ((zs.flatMap encB).length + (encB c).length) * 1 ≤ 140737488355328 := by omega
      have hcl : (cellsOf (encB c)).length = (encB c).length * 1 := by simp [cellsOf]
      obtain ⟨nc, hnc⟩ : ∃ nc, nc = cellsOf (encB c) := ⟨_, rfl⟩
      have hone := cells_one (encB c)
      rw [← hnc] at hcl hone ⊢
      have HNC : Hid (nc = cellsOf (encB c)) := hnc
      clear hnc
      obtain ⟨ne, hne⟩ : ∃ ne, ne = (encB c).length := ⟨_, rfl⟩
      rw [← hne] at hcl hx63 hx47 ⊢
      have HNE : Hid (ne = (encB c).length) := hne
      clear hne hel
      go_wp2_with (at_builtin; refine wpList_append_own _ rfl _ _ 22 rfl w.heap.size 5 i0 (.int .u8 0) 1 1 Try.underlying22 hi hz0 hz1 hz2 rfl (by decide) _ _ _ rfl (hown4.alloc _) ⟨w4.heap.size, 0, none⟩ ne ne nc rfl hcl (ow.cells_new _ nc _) hone hx63 hx47 (by simp; omega) ?_; intro v' w6 hown6 hgrow6 hnil6)
      have hga6 := ow.grown_new hgw4 hown4 (Nat.le_refl _) _ hgrow6
      have hs6 : Src w6 b a len cap at4 sd4 := src_keep (src_keep hs4 (World.grownBy_alloc _ _ none) (by simp)) hgrow6 (fun x => by have := ow.own_lt hown4 b x.symm; omega)
      have hc6 : Code w6 b a len := code_keep' (code_keep hc4 (World.grownBy_alloc _ _ _)) hgrow6 (fun k x => by have := ow.own_lt hown4 k x; omega)
      have HA : Hid (w6.ownsRow w.heap.size 5 1 v' ((zs ++ [(c : Int)]).flatMap encB).length (cellsOf ((zs ++ [(c : Int)]).flatMap encB)) ∧ Src w6 b a len cap at4 sd4 ∧ w.grownBy w6 (some b) ∧ Code w6 b a len) := by
        refine ⟨?_, hs6, hga6, hc6⟩
        rw [List.flatMap_append, List.flatMap_cons, List.flatMap_nil, List.append_nil, List.length_append, ← HNE.out]
        rw [show cellsOf (zs.flatMap encB ++ encB c) = cellsOf (zs.flatMap encB) ++ nc from by rw [HNC.out]; exact List.map_append]
        exact hown6
      clear hs4 hc4 hgw4 hown4 hs6 hc6 hga6 hown6 hgrow6 hnil6 hcl hone hx63 hx47
      have HR : Hid (scB (c : Int) = true) := hr
      clear hr
      go_wp2
      go_roundw
      case rel =>
        obtain ⟨j, rfl⟩ : ∃ j, k = j + 1 := ⟨k - 1, by omega⟩
        exact ⟨j, zs ++ [(c : Int)], at4, sd4, by go_num, by simp; omega, fun r hr => by
          rcases List.mem_append.1 hr with h | h
          · exact HALL.out r h
          · rw [List.mem_singleton.1 h]; exact HR.out, by omega, by simp; omega, d4, d5, HA.out.2.1, HA.out.2.2.1, HA.out.2.2.2, HA.out.1⟩
      case measure => simp [intOf]; omega
    · go_wp2_with fail
      refine (next_any _ b a len cap at3 sd3 8 hs3 hc3 (by omega) (by omega) d2 d3 (by omega) (by omega)).mono ?_
      rintro e w4 ⟨x, at4, sd4, rfl, x2, x3, g2, g3, d4, d5, hs4, hg4⟩
      have hc4 := code_keep hc3 hg4
      have hgw4 := ow.grown_trans hgw3 hg4
      have hown4 := hown3.kept hg4 (by
        rcases hown3.2 with ⟨rfl, _⟩ | ⟨g, cp, cur, rfl, hge, _⟩
        · exact .inl rfl
        · right; simp [Value.ownBlock]; omega)
      have hsz4 := hgw4.size
      clear hs3 hc3 hg4 hown3 hgw3
      obtain ⟨kk, rfl⟩ : ∃ kk : Nat, x = (kk : Int) := ⟨x.toNat, by omega⟩
      obtain ⟨c, hc128, hix⟩ := letter_ix kk (by omega)
      have hx63 : (zs.flatMap encB).length + 1 ≤ maxLen := by unfold maxLen; omega
      have hx47 : ((zs.flatMap encB).length + 1) * 1 ≤ 140737488355328 := by omega
      go_wp2_with (at_builtin; refine wpList_append_own _ rfl _ _ 22 rfl w.heap.size 5 i0 (.int .u8 0) 1 1 Try.underlying22 hi hz0 hz1 hz2 rfl (by decide) _ _ _ rfl (hown4.alloc _) ⟨w4.heap.size, 0, none⟩ 1 1 [.int .u8 (c : Int)] rfl rfl (ow.cells_new _ [.int .u8 (c : Int)] _) (by intro u hu; simp at hu; subst hu; rfl) hx63 hx47 (by simp; omega) ?_; intro v' w6 hown6 hgrow6 hnil6)
      have hga6 := ow.grown_new hgw4 hown4 (Nat.le_refl _) _ hgrow6
      have hs6 : Src w6 b a len cap at4 sd4 := src_keep (src_keep hs4 (World.grownBy_alloc _ _ none) (by simp)) hgrow6 (fun x => by have := ow.own_lt hown4 b x.symm; omega)
      have hc6 : Code w6 b a len := code_keep' (code_keep hc4 (World.grownBy_alloc _ _ _)) hgrow6 (fun k x => by have := ow.own_lt hown4 k x; omega)
      have HA : Hid (w6.ownsRow w.heap.size 5 1 v' ((zs ++ [(c : Int)]).flatMap encB).length (cellsOf ((zs ++ [(c : Int)]).flatMap encB)) ∧ Src w6 b a len cap at4 sd4 ∧ w.grownBy w6 (some b) ∧ Code w6 b a len) := by
        refine ⟨?_, hs6, hga6, hc6⟩
        rw [List.flatMap_append, List.flatMap_cons, List.flatMap_nil, List.append_nil, List.length_append]
        rw [show cellsOf (zs.flatMap encB ++ encB c) = cellsOf (zs.flatMap encB) ++ [.int .u8 (c : Int)] from by rw [← (ut.cells1 hc128).2]; exact List.map_append]
        rw [show (encB (c : Int)).length = 1 from by rw [(ut.cells1 hc128).1]; rfl]
        exact hown6
      clear hs4 hc4 hgw4 hown4 hs6 hc6 hga6 hown6 hgrow6 hnil6 hx63 hx47 hix
      go_wp2
      go_roundw
      case rel =>
        obtain ⟨j, rfl⟩ : ∃ j, k = j + 1 := ⟨k - 1, by omega⟩
        exact ⟨j, zs ++ [(c : Int)], at4, sd4, by go_num, by simp; omega, fun r hr => by
          rcases List.mem_append.1 hr with h | h
          · exact HALL.out r h
          · rw [List.mem_singleton.1 h]; simp [scB, inB]; omega, by omega, by simp; omega, d4, d5, HA.out.2.1, HA.out.2.2.1, HA.out.2.2.2, HA.out.1⟩
      case measure => simp [intOf]; omega
end Go.Proofs.Ytlnocoppljldbaa.sr
