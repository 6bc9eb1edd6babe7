/-
  The contracts of the program's inWords and newLetter.
  The contract of the program's (header).folded: the fields' lines, and the empty one.
  The contract of the specification's RenderEntry.
-/
import Derived.Test.YtadfdfmebdcfgaaGreatDoorPkbp
import Derived.Test.YtadfdfmebdcfgaaGreatDoorPkad
import Derived.Test.YtadfdfmebdcfgaaGreatDoorPkab

namespace Go.Proofs.YtadfdfmebdcfgaaGreatDoor.rn
open Go.RowKit
set_option linter.unusedVariables false

theorem encI (s : ByteArray) (h : en.fld s = true) (w : World) (m : Int) (hm : w.cell? ⟨4, 0, none⟩ = some (.int .i64 m)) (hT : tb.TC w) :
    Calls Tryz.prog 100 #[.string s] w fun e w' => e = .returned (.tuple #[.string (EN s), .int .i64 0]) ∧ Below w.heap.size w w' := by
  have hr := fld_right h
  refine (hd.implEw_any s w m hm hT (by omega)).mono ?_
  rintro e w' ⟨h1 | h1 | h1 | h1, hb⟩
  · omega
  · exact absurd hr.1 h1.2.1
  · omega
  · obtain ⟨_, _, r, he, rfl⟩ := h1
    exact ⟨by rw [(enc_of h he).2], hb⟩

set_option maxHeartbeats 2000000 in
set_option maxRecDepth 100000 in
theorem inWords_any (nm s : ByteArray) (h : en.fld s = true) (w : World) (m : Int) (HT : ∀ w', Below w.heap.size w w' → w'.cell? ⟨4, 0, none⟩ = some (.int .i64 m) ∧ tb.TC w') :
    Calls Tryz.prog 50 #[.string nm, .string s] w fun e w' => e = .returned (.agg #[.string nm, .string (EN s)]) ∧ Below w.heap.size w w' := by
  have HC : Hid (∀ w', Below w.heap.size w w' → Calls Tryz.prog 100 #[.string s] w' fun e w'' => e = .returned (.tuple #[.string (EN s), .int .i64 0]) ∧ Below w'.heap.size w' w'') := fun w' hb => encI s h w' m (HT w' hb).1 (HT w' hb).2
  clear HT h
  generalize EN s = R at HC ⊢
  go_enter Tryz.func50, Tryz.ntmps50
  go_wp2_with fail
  generalize hW0 : World.alloc _ _ = W0
  have L0 : b2.Box W0 w.heap.size 81 (.string ⟨#[]⟩) (.string ⟨#[]⟩) := by rw [← hW0]; exact b2.new _ _ _ _
  have b0 : Below w.heap.size w W0 := by rw [← hW0]; exact (Below.refl _ w).alloc (Nat.le_refl _) _
  clear hW0
  refine (HC.out W0 b0).mono ?_
  rintro e w1 ⟨rfl, hb1⟩
  have L1 := L0.below hb1
  have HB1 : Hid (Below w.heap.size w w1) := b0.trans (hb1.mono b0.size)
  have HL1 : Hid (b2.Box w1 w.heap.size 81 (.string ⟨#[]⟩) (.string ⟨#[]⟩)) := L1
  clear L0 b0 hb1 HC
  have c0 := L1.c0
  have c1 := L1.c1
  have f0 := L1.f 0
  have f1 := L1.f 1
  clear L1
  go_wp2
  have L2 := HL1.out.put (a' := .string nm) (b' := .string R)
  have b3 := b2.put_below (a := .string nm) (b := .string R) HB1.out (Nat.le_refl _)
  clear c0 c1 f0 f1
  unfold b2.put at L2 b3
  generalize hX : World.setCell _ _ _ = X at L2 b3 ⊢
  clear hX
  have c0 := L2.c0
  have c1 := L2.c1
  exact bodyPost_ret (v := .agg #[.string nm, .string R]) (by simp [results, Tryz.results50, go_sem, c0, c1]) rfl ⟨rfl, b3⟩

set_option maxHeartbeats 2000000 in
set_option maxRecDepth 100000 in
theorem newLetter_any (s : ByteArray) (a : Option Addr) (n cap : Nat) (w : World) :
    Calls Tryz.prog 49 #[.string s, .slice a n cap] w fun e w' => e = .returned (.agg #[.slice a n cap, .string s]) ∧ Below w.heap.size w w' := by
  have L0 : b2.Box (w.alloc (.cells #[.slice none 0 0, .string ⟨#[]⟩] 43)) w.heap.size 43 (.slice none 0 0) (.string ⟨#[]⟩) := b2.new _ _ _ _
  have b0 : Below w.heap.size w (w.alloc (.cells #[.slice none 0 0, .string ⟨#[]⟩] 43)) := (Below.refl _ w).alloc (Nat.le_refl _) _
  go_enter Tryz.func49, Tryz.ntmps49
  go_upto_region 1 with fail
  generalize hW0 : World.alloc _ _ = W0 at L0 b0 ⊢
  clear hW0
  have HB1 : Hid (Below w.heap.size w W0) := b0
  have HL1 : Hid (b2.Box W0 w.heap.size 43 (.slice none 0 0) (.string ⟨#[]⟩)) := L0
  have c0 := L0.c0
  have c1 := L0.c1
  have f0 := L0.f 0
  have f1 := L0.f 1
  clear L0 b0
  go_wp2
  have L2 := HL1.out.put (a' := .slice a n cap) (b' := .string s)
  have b3 := b2.put_below (a := .slice a n cap) (b := .string s) HB1.out (Nat.le_refl _)
  clear c0 c1 f0 f1
  unfold b2.put at L2 b3
  generalize hX : World.setCell _ _ _ = X at L2 b3 ⊢
  clear hX
  have c0 := L2.c0
  have c1 := L2.c1
  exact bodyPost_ret (v := .agg #[.slice a n cap, .string s]) (by simp [results, Tryz.results49, go_sem, c0, c1]) rfl ⟨rfl, b3⟩
end Go.Proofs.YtadfdfmebdcfgaaGreatDoor.rn

namespace Go.Proofs.YtadfdfmebdcfgaaGreatDoor.rn
open Go.RowKit
open gr
set_option linter.unusedVariables false

theorem foldI (nm s : ByteArray) (w : World) (hG : Good (nm, s)) (h1 : nm.size ≤ 40) (h2 : s.size ≤ 2000) (hT : tb.TA w) :
    Calls Tryz.prog 53 #[.string nm, .string s] w fun e w' => e = .returned (.tuple #[.string (FO nm s), .int .i64 0]) ∧ Below w.heap.size w w' := by
  refine (hf.implFh_any nm s w hT (by omega) (by omega)).mono ?_
  rintro e w' ⟨h | h | h, hb⟩
  · omega
  · exact absurd hG h.2.2.1
  · obtain ⟨_, _, _, r, hr, rfl⟩ := h
    exact ⟨by rw [fo_is hr], hb⟩
/-- Fields in a row. -/
def FldsAt (w : World) (b off : Nat) (ps : List Pr) : Prop := ∀ j (hj : j < ps.length), w.cell? ⟨b, off + j * 2, none⟩ = some (.string (ps[j]).1) ∧ w.cell? ⟨b, off + j * 2 + 1, none⟩ = some (.string (ps[j]).2)

set_option maxHeartbeats 4000000 in
set_option maxRecDepth 100000 in
theorem folded_any (b off cap : Nat) (ps : List Pr) (w : World) (h : FldsAt w b off ps) (hl : ps.length ≤ 40) (hG : ∀ p ∈ ps, Good p ∧ p.1.size ≤ 40 ∧ p.2.size ≤ 2000) (HT : ∀ w', Below w.heap.size w w' → tb.TA w') :
    Calls Tryz.prog 20 #[.slice (some ⟨b, off, none⟩) ps.length cap] w fun e w' => e = .returned (.string (foldAll ps ++ ⟨#[13, 10]⟩)) ∧ Below w.heap.size w w' := by
  obtain ⟨n, hn'⟩ : ∃ n, n = ps.length := ⟨_, rfl⟩
  have HN : Hid (n = ps.length) := hn'
  have HH : Hid (FldsAt w b off ps) := h
  have HG : Hid (∀ p ∈ ps, Good p ∧ p.1.size ≤ 40 ∧ p.2.size ≤ 2000) := hG
  have HTT : Hid (∀ w', Below w.heap.size w w' → tb.TA w') := HT
  have hln : n ≤ 40 := by rw [hn']; exact hl
  have HSZ : Hid (∀ k, (foldAll (ps.take k)).size ≤ 244000) := fun k => by
    have := all_len (ps.take k) (fun p hp => (hG p (List.mem_of_mem_take hp)).2)
    have h2 : (ps.take k).length ≤ 40 := by rw [List.length_take]; omega
    have := Nat.mul_le_mul_left 6100 h2
    omega
  rw [← hn']
  clear h hn' hG HT hl
  go_enter Tryz.func20, Tryz.ntmps20
  go_wp2
  go_loopw [3, 10] (fun t i wr => ∃ k : Nat, k ≤ n ∧ i = .int .i64 k ∧ t = .string (foldAll (ps.take k)) ∧ Below w.heap.size w wr) (fun _ i _ => n - (intOf i).toNat)
  case atStart => exact ⟨0, Nat.zero_le _, rfl, rfl, Below.refl _ _⟩
  case round =>
    obtain ⟨k, hk, rfl, rfl, hbw⟩ := hrel
    have hT := HSZ.out k
    by_cases hlt : k < n
    · have hlt' : (k : Int) < (n : Int) := by omega
      have hka : k < ps.length := by rw [← HN.out]; exact hlt
      obtain ⟨hg, hs1, hs2⟩ := HG.out _ (List.getElem_mem hka)
      obtain ⟨v0, v1⟩ := HH.out k hka
      have hblt : b < w.heap.size := World.block_lt_of_cell? w _ v0
      have c0 := (hbw.cell (p := ⟨b, off + k * 2, none⟩) hblt).trans v0
      have c1 := (hbw.cell (p := ⟨b, off + k * 2 + 1, none⟩) hblt).trans v1
      have HST : Hid (foldAll (ps.take (k + 1)) = foldAll (ps.take k) ++ FO (ps[k]).1 (ps[k]).2) := all_take ps k hka
      have hF := fo_len _ _ hs1 hs2
      have HC : Hid (∀ W, Below w.heap.size w W → Calls Tryz.prog 53 #[.string (ps[k]).1, .string (ps[k]).2] W fun e w' => e = .returned (.tuple #[.string (FO (ps[k]).1 (ps[k]).2), .int .i64 0]) ∧ Below W.heap.size W w') := fun W hW => foldI _ _ W hg hs1 hs2 (HTT.out W hW)
      clear v0 v1 hg
      generalize FO (ps[k]).1 (ps[k]).2 = F at HST hF HC
      generalize (ps[k]).1 = nk at c0 hs1 HC
      generalize (ps[k]).2 = vk at c1 hs2 HC
      generalize foldAll (ps.take k) = T at HST hT ⊢
      clear hka
      have hz : (9223372036854775807 < T.size + F.size) = False := eq_false (by omega)
      have HX : Hid (b2.Box (wr.alloc (.cells #[.string nk, .string vk] 81)) wr.heap.size 81 (.string nk) (.string vk)) := b2.new _ _ _ _
      have HB1 : Hid (Below w.heap.size w (wr.alloc (.cells #[.string nk, .string vk] 81))) := hbw.alloc hbw.size _
      clear hbw
      go_wp2_with fail
      generalize hW : World.alloc _ _ = W at HX HB1 ⊢
      clear hW c0 c1
      refine (HC.out W HB1.out).mono ?_
      rintro e w2 ⟨rfl, hb2⟩
      have HB2 : Hid (Below w.heap.size w w2) := HB1.out.trans (hb2.mono HB1.out.size)
      clear hb2
      go_wp2
      go_roundw
      case rel => exact ⟨k + 1, by omega, by go_num, by rw [HST.out], HB2.out⟩
      case measure => simp [intOf]; omega
    · have hlt' : ¬ (k : Int) < (n : Int) := by omega
      have HR : Hid (foldAll ps = foldAll (ps.take k)) := (show _ = _ by rw [List.take_of_length_le (by have := HN.out; omega)])
      generalize foldAll (ps.take k) = T at hT HR ⊢
      have hz : (9223372036854775807 < T.size + 2) = False := eq_false (by omega)
      go_wp2
      go_ret
      exact ⟨by rw [HR.out]; rfl, hbw⟩
end Go.Proofs.YtadfdfmebdcfgaaGreatDoor.rn

namespace Go.Proofs.YtadfdfmebdcfgaaGreatDoor.rn
open Go.RowKit
set_option linter.unusedVariables false

/-- What a call of RenderEntry answers. -/
def ReRet (e : en.En) (box : ByteArray) (r : Ending) : Prop :=
  (65536 < box.size ∧ r = .returned (.tuple #[.string ⟨#[]⟩, .int .i64 2])) ∨ (box.size ≤ 65536 ∧ ¬ (en.eok e = true ∧ nm.IsName box) ∧ r = .returned (.tuple #[.string ⟨#[]⟩, .int .i64 1])) ∨ (box.size ≤ 65536 ∧ (en.eok e = true ∧ nm.IsName box) ∧ r = .returned (.tuple #[.string (rend e box), .int .i64 0]))

set_option maxHeartbeats 4000000 in
set_option maxRecDepth 100000 in
theorem specRE_any (e : en.En) (box : ByteArray) (w : World) (hs : en.Small e) (hb : box.size ≤ 1048576) :
    Calls Tryz.prog 7 #[en.EV e, .string box] w fun r w' => ReRet e box r ∧ Below w.heap.size w w' := by
  obtain ⟨i, t, l, a, d, c⟩ := e
  have L0 := en.lies_new w 24 ⟨i, t, l, a, d, c⟩
  have b0 : Below w.heap.size w (w.alloc (.cells (en.cl ⟨i, t, l, a, d, c⟩) 24)) := (Below.refl _ w).alloc (Nat.le_refl _) _
  have HOK : Hid (∀ W, Calls Tryz.prog 21 #[.agg #[.string i, .string t, .string l, .string a, .int .i64 d, .string c]] W fun r w' => r = .returned (.bool (en.eok ⟨i, t, l, a, d, c⟩)) ∧ Below W.heap.size W w') := fun W => en.spec_eok ⟨i, t, l, a, d, c⟩ W hs
  have HNM : Hid (∀ W, Calls Tryz.prog 22 #[.string box] W fun e w' => nm.NameRet box e ∧ w' = W) := fun W => nm.specName_any box W hb
  unfold en.cl at L0 b0
  unfold en.EV en.cl
  go_enter Tryz.func7, Tryz.ntmps7
  go_upto_region 1 with fail
  generalize hX : World.alloc _ _ = X at L0 b0 ⊢
  clear hX
  generalize hBx : w.heap.size = Bx at L0 b0 ⊢
  have hBX : Bx < X.heap.size := L0.lt
  have HL0 := L0
  by_cases h : box.size ≤ 65536
  case neg =>
    have h' : (65536 : Int) < (box.size : Int) := by omega
    clear L0 HL0
    go_wp2
    go_ret2
    subst hBx
    exact ⟨.inl ⟨by omega, rfl⟩, b0⟩
  have h' : (box.size : Int) ≤ 65536 := by omega
  have x0 : X.cell? ⟨Bx, 0, none⟩ = some (.string i) := L0.c0
  have x1 : X.cell? ⟨Bx, 1, none⟩ = some (.string t) := L0.c1
  have x2 : X.cell? ⟨Bx, 2, none⟩ = some (.string l) := L0.c2
  have x3 : X.cell? ⟨Bx, 3, none⟩ = some (.string a) := L0.c3
  have x4 : X.cell? ⟨Bx, 4, none⟩ = some (.int .i64 d) := L0.c4
  have x5 : X.cell? ⟨Bx, 5, none⟩ = some (.string c) := L0.c5
  have HL : Hid (en.Lies X Bx 24 ⟨i, t, l, a, d, c⟩) := L0
  clear L0 HL0
  have HB0 : Hid (Below Bx w X) := b0
  clear b0
  go_wp2_with fail
  refine (HOK.out _).mono ?_
  rintro r w1 ⟨rfl, b1⟩
  have HL1 : Hid (en.Lies w1 Bx 24 ⟨i, t, l, a, d, c⟩) := (show _ = _ from (b1.block Bx hBX).trans HL.out)
  have HB1 : Hid (Below Bx w w1) := HB0.out.trans (b1.mono (Nat.le_of_lt hBX))
  clear b1 x0 x1 x2 x3 x4 x5
  cases he : en.eok ⟨i, t, l, a, d, c⟩ with
  | false =>
    have he' : ¬ (en.eok ⟨i, t, l, a, d, c⟩ = true) := by rw [he]; simp
    clear he
    go_wp2
    go_ret2
    subst hBx
    exact ⟨.inr (.inl ⟨h, fun k => he' k.1, rfl⟩), HB1.out⟩
  | true =>
    have HE : Hid (en.eok ⟨i, t, l, a, d, c⟩ = true) := he
    clear he
    go_wp2_with fail
    refine (HNM.out _).mono ?_
    rintro r w2 ⟨⟨b, rfl, hn⟩, rfl⟩
    cases b with
    | false =>
      have hn' : ¬ nm.IsName box := fun k => by cases hn.2 k
      clear hn
      go_wp2
      go_ret2
      subst hBx
      exact ⟨.inr (.inl ⟨h, fun k => hn' k.2, rfl⟩), HB1.out⟩
    | true =>
      have HN : Hid (nm.IsName box) := hn.1 rfl
      clear hn
      have HC : Hid (∀ w, Calls Tryz.prog 23 #[.agg #[.string i, .string t, .string l, .string a, .int .i64 d, .string c], .string box] w fun e w' => e = .returned (.string (rend ⟨i, t, l, a, d, c⟩ box)) ∧ Below w.heap.size w w') := fun w => render_any i t l a c box d w HE.out HN.out
      have x0 : w2.cell? ⟨Bx, 0, none⟩ = some (.string i) := HL1.out.c0
      have x1 : w2.cell? ⟨Bx, 1, none⟩ = some (.string t) := HL1.out.c1
      have x2 : w2.cell? ⟨Bx, 2, none⟩ = some (.string l) := HL1.out.c2
      have x3 : w2.cell? ⟨Bx, 3, none⟩ = some (.string a) := HL1.out.c3
      have x4 : w2.cell? ⟨Bx, 4, none⟩ = some (.int .i64 d) := HL1.out.c4
      have x5 : w2.cell? ⟨Bx, 5, none⟩ = some (.string c) := HL1.out.c5
      generalize hRR : rend ⟨i, t, l, a, d, c⟩ box = RR at HC
      go_wp2_with (go_at_call 23; refine (HC.out _).mono ?_; rintro r w3 ⟨rfl, b3⟩)
      go_ret2
      subst hBx hRR
      exact ⟨.inr (.inr ⟨h, ⟨HE.out, HN.out⟩, rfl⟩), HB1.out.trans (b3.mono HB1.out.size)⟩
end Go.Proofs.YtadfdfmebdcfgaaGreatDoor.rn
