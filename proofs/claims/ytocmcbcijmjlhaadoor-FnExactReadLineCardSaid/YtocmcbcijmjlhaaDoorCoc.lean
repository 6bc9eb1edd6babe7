/-
  The reader of a console's line: fill and read.
-/
import Derived.Test.YtocmcbcijmjlhaaDoorCob
namespace Go.Proofs.YtocmcbcijmjlhaaDoor.cn
open Go.RowKit
open sp nu
set_option linter.unusedVariables false

/-- What takers make of a reader, one behind the other. -/
def runM : List Nat → List UInt8 → Int → List UInt8 → List UInt8 → Option (List UInt8 × Int × List UInt8 × List UInt8)
  | [], r, c, x, d => some (r, c, x, d)
  | N :: fs, r, c, x, d => match tkM N r c x d with | none => none | some (r', c', x', d') => runM fs r' c' x' d'
def IsTk (N : Nat) : Prop := N = 15 ∨ N = 16 ∨ N = 17 ∨ N = 18
theorem tkM_len {N : Nat} {r r' x x' d d' : List UInt8} {c c' : Int} (h : tkM N r c x d = some (r', c', x', d')) : r'.length ≤ r.length := by
  unfold tkM at h
  split at h
  · split at h
    · cases h
    · cases h; exact rs_len r
  · split at h
    · split at h
      · cases h
      · cases h; simp
    · split at h
      · split at h
        · cases h
        · unfold cn1 at h
          split at h
          · cases h
          · cases h; exact rs_len r
      · cases h; simp
/-- What fill answers. -/
def FillRet (b : Nat) (w : World) (k : Int) (o : Option (List UInt8 × Int × List UInt8 × List UInt8)) (e : Ending) (w' : World) : Prop :=
  match o with
  | none => Pan e ∧ w.grownBy w' (some b)
  | some (r, c, x, d) => if tb r = [] then e = .returned (.tuple #[]) ∧ St w b [] k c x d w' else Pan e ∧ w.grownBy w' (some b)
theorem fill_no {b : Nat} {w w' : World} {k : Int} {e : Ending} {o : Option (List UInt8 × Int × List UInt8 × List UInt8)} (ho : o = none) (h : Pan e ∧ w.grownBy w' (some b)) : FillRet b w k o e w' := by
  subst ho; exact h
theorem run_step {fs : List Nat} {i : Nat} (hi : i < fs.length) (r : List UInt8) (c : Int) (x d : List UInt8) : runM (fs.drop i) r c x d = match tkM fs[i] r c x d with | none => none | some (r', c', x', d') => runM (fs.drop (i + 1)) r' c' x' d' := by
  rw [List.drop_eq_getElem_cons hi]
  rfl
/-- The takers lie where a slice leads to. -/
def TksAt (w : World) (b g : Nat) (fs : List Nat) : Prop := ∀ i, (h : i < fs.length) → w.cell? ⟨g, i, none⟩ = some (.func (.func fs[i]) #[.pointer (some ⟨b, 0, none⟩)] #[])


set_option maxHeartbeats 4000000 in
set_option maxRecDepth 100000 in
theorem fill_any (b : Nat) (g : Nat) (fs : List Nat) (cap : Nat) (r : List UInt8) (k k0 c : Int) (x d : List UInt8) (w : World) (h : Rd w b r k0 c x d) (hr : r.length ≤ 1048576) (hv : Env b w) (hfl : fs.length ≤ 4) (hF : ∀ N ∈ fs, IsTk N) (hg : TksAt w b g fs) (hgb : g ≠ b) (hgl : g < w.heap.size) :
    Calls Tryd.prog 14 #[.pointer (some ⟨b, 0, none⟩), .int .i64 k, .slice (some ⟨g, 0, none⟩) fs.length cap] w fun e w' => FillRet b w k (runM fs r c x d) e w' := by
  have f1 := h.f 1
  have c1 := h.c1
  have HG0 : Hid (St w b r k c x d (w.setCell ⟨b, 1, none⟩ (.int .i64 k))) := (St.refl h).p1
  have HV : Hid (Env b w) := hv
  have hlt : Hid (b ≤ w.heap.size) := Nat.le_of_lt h.lt
  have HT : Hid (∀ w', w.grownBy w' (some b) → TksAt w' b g fs) := fun w' y i hi => (World.cell?_of_block (w := w) (y.block g hgl (fun e => hgb (by injection e)))).trans (hg i hi)
  clear h hv
  go_enter Tryd.func14, Tryd.ntmps14
  go_wp2
  go_loopw [15] (fun i wr => ∃ (n : Nat) (r' : List UInt8) (c' : Int) (x' d' : List UInt8), n ≤ fs.length ∧ i = .int .i64 n ∧ r'.length ≤ 1048576 ∧ runM (fs.drop n) r' c' x' d' = runM fs r c x d ∧ St w b r' k c' x' d' wr) (fun i _ => fs.length - (intOf i).toNat)
  case atStart => exact ⟨0, r, c, x, d, Nat.zero_le _, rfl, hr, rfl, HG0.out⟩
  case round =>
    obtain ⟨n, r', c', x', d', hn, rfl, hr', hrun, hst⟩ := hrel
    have HS : Hid (St w b r' k c' x' d' wr) := hst
    have HRN : Hid (runM (fs.drop n) r' c' x' d' = runM fs r c x d) := hrun
    have HV1 : Hid (Env b wr) := HV.out.step hlt.out hst.2
    clear hst hrun f1 c1
    by_cases hlt1 : n < fs.length
    · have hlt2 : (n : Int) < (fs.length : Int) := by omega
      have HLT : Hid (n + 1 ≤ fs.length) := hlt1
      have hn4 : (n : Int) ≤ 4 := by omega
      have hn0 : (0 : Int) ≤ (n : Int) := by omega
      have hc : wr.cell? ⟨g, n, none⟩ = some (.func (.func fs[n]) #[.pointer (some ⟨b, 0, none⟩)] #[]) := HT.out wr HS.out.2 n hlt1
      have HK := hF _ (List.getElem_mem hlt1)
      have HC : Hid (Calls Tryd.prog fs[n] #[.pointer (some ⟨b, 0, none⟩)] wr fun e w' => TkRet b wr k (tkM fs[n] r' c' x' d') e w') := tk_any _ HK b r' k c' x' d' wr HS.out.1 hr' HV1.out
      have HST : Hid (runM fs r c x d = match tkM fs[n] r' c' x' d' with | none => none | some (r', c', x', d') => runM (fs.drop (n + 1)) r' c' x' d') := by rw [← HRN.out]; exact run_step hlt1 _ _ _ _
      have HL : Hid (∀ {y}, tkM fs[n] r' c' x' d' = some y → y.1.length ≤ 1048576) := fun {y} e => Nat.le_trans (tkM_len e) hr'
      clear HRN
      generalize fs[n] = N at hc HK HC HST HL
      cases hm : tkM N r' c' x' d' with
      | none =>
        rw [hm] at HC HST
        rcases HK with rfl | rfl | rfl | rfl
        all_goals
          clear hm
          go_wp2_with fail
          refine HC.out.mono ?_
          rintro e w1 ⟨⟨T, v, rfl⟩, hg⟩
          go_wp2
          exact ⟨rfl, fill_no HST.out ⟨⟨_, _, rfl⟩, ow.grown_trans HS.out.2 hg⟩⟩
      | some y =>
        obtain ⟨r2, c2, x2, d2⟩ := y
        have hl2 : Hid (r2.length ≤ 1048576) := HL.out hm
        rw [hm] at HC HST
        rcases HK with rfl | rfl | rfl | rfl
        all_goals
          clear hm
          go_wp2_with fail
          refine HC.out.mono ?_
          rintro e w1 ⟨rfl, hs⟩
          have HG : Hid (St w b r2 k c2 x2 d2 w1) := HS.out.trans hs
          clear hs HC hc
          go_wp2
          go_roundw
          case rel => exact ⟨n + 1, r2, c2, x2, d2, HLT.out, by go_num, hl2.out, HST.out.symm, HG.out⟩
          case measure => have := HLT.out; simp [intOf]; omega
    · have hge : decide ((n : Int) < (fs.length : Int)) = false := decide_eq_false (by omega)
      have hn0 : n = fs.length := by omega
      have HF : Hid (runM fs r c x d = some (r', c', x', d')) := by rw [← HRN.out, hn0, List.drop_length]; rfl
      have HW : Hid (Calls Tryd.prog 21 #[.pointer (some ⟨b, 0, none⟩)] wr fun e w' => e = .returned (.string ⟨(tb r').toArray⟩) ∧ St wr b [] k c' x' d' w') := tail_any b r' k c' x' d' wr HS.out.1 hr'
      clear hn hn0 HRN HV1
      by_cases hz : tb r' = []
      · obtain ⟨hE, hE2⟩ := emp_of hz
        have HZ : Hid (tb r' = []) := hz
        clear hz
        go_wp2_with fail
        refine HW.out.mono ?_
        rintro e w1 ⟨rfl, hs⟩
        have HG : Hid (St w b [] k c' x' d' w1) := HS.out.trans hs
        clear hs HW HS
        go_wp2
        go_end0
        rw [HF.out]
        show if tb r' = [] then _ else _
        rw [if_pos HZ.out]
        exact ⟨rfl, HG.out⟩
      · obtain ⟨hE, hE2⟩ := emp_ne hz
        have HZ : Hid (¬ tb r' = []) := hz
        clear hz
        go_wp2_with fail
        refine HW.out.mono ?_
        rintro e w1 ⟨rfl, hs⟩
        have HG : Hid (St w b [] k c' x' d' w1) := HS.out.trans hs
        clear hs HW HS
        go_wp2
        refine ⟨rfl, ?_⟩
        rw [HF.out]
        show if tb r' = [] then _ else _
        rw [if_neg HZ.out]
        exact ⟨⟨_, _, rfl⟩, HG.out.2⟩


set_option maxHeartbeats 4000000 in
set_option maxRecDepth 100000 in
theorem fill_nil (b : Nat) (r : List UInt8) (k k0 c : Int) (x d : List UInt8) (w : World) (h : Rd w b r k0 c x d) (hr : r.length ≤ 1048576) (hv : Env b w) :
    Calls Tryd.prog 14 #[.pointer (some ⟨b, 0, none⟩), .int .i64 k, .slice none 0 0] w fun e w' => FillRet b w k (runM ([] : List Nat) r c x d) e w' := by
  have f1 := h.f 1
  have c1 := h.c1
  have HG0 : Hid (St w b r k c x d (w.setCell ⟨b, 1, none⟩ (.int .i64 k))) := (St.refl h).p1
  have HV : Hid (Env b w) := hv
  have hlt : Hid (b ≤ w.heap.size) := Nat.le_of_lt h.lt
  clear h hv
  go_enter Tryd.func14, Tryd.ntmps14
  go_wp2
  go_loopw [15] (fun i wr => ∃ (n : Nat) (r' : List UInt8) (c' : Int) (x' d' : List UInt8), n ≤ 0 ∧ i = .int .i64 n ∧ r'.length ≤ 1048576 ∧ runM (([] : List Nat).drop n) r' c' x' d' = runM ([] : List Nat) r c x d ∧ St w b r' k c' x' d' wr) (fun i _ => 0 - (intOf i).toNat)
  case atStart => exact ⟨0, r, c, x, d, Nat.zero_le _, rfl, hr, rfl, HG0.out⟩
  case round =>
    obtain ⟨n, r', c', x', d', hn, rfl, hr', hrun, hst⟩ := hrel
    have HS : Hid (St w b r' k c' x' d' wr) := hst
    have HRN : Hid (runM (([] : List Nat).drop n) r' c' x' d' = runM ([] : List Nat) r c x d) := hrun
    have HV1 : Hid (Env b wr) := HV.out.step hlt.out hst.2
    clear hst hrun f1 c1
    by_cases hlt1 : n < 0
    · omega
    · have hge : decide ((n : Int) < (0 : Int)) = false := decide_eq_false (by omega)
      have hn0 : n = 0 := by omega
      have HF : Hid (runM ([] : List Nat) r c x d = some (r', c', x', d')) := by rw [← HRN.out, hn0, List.drop_zero]; rfl
      have HW : Hid (Calls Tryd.prog 21 #[.pointer (some ⟨b, 0, none⟩)] wr fun e w' => e = .returned (.string ⟨(tb r').toArray⟩) ∧ St wr b [] k c' x' d' w') := tail_any b r' k c' x' d' wr HS.out.1 hr'
      clear hn hn0 HRN HV1
      by_cases hz : tb r' = []
      · obtain ⟨hE, hE2⟩ := emp_of hz
        have HZ : Hid (tb r' = []) := hz
        clear hz
        go_wp2_with fail
        refine HW.out.mono ?_
        rintro e w1 ⟨rfl, hs⟩
        have HG : Hid (St w b [] k c' x' d' w1) := HS.out.trans hs
        clear hs HW HS
        go_wp2
        go_end0
        rw [HF.out]
        show if tb r' = [] then _ else _
        rw [if_pos HZ.out]
        exact ⟨rfl, HG.out⟩
      · obtain ⟨hE, hE2⟩ := emp_ne hz
        have HZ : Hid (¬ tb r' = []) := hz
        clear hz
        go_wp2_with fail
        refine HW.out.mono ?_
        rintro e w1 ⟨rfl, hs⟩
        have HG : Hid (St w b [] k c' x' d' w1) := HS.out.trans hs
        clear hs HW HS
        go_wp2
        refine ⟨rfl, ?_⟩
        rw [HF.out]
        show if tb r' = [] then _ else _
        rw [if_neg HZ.out]
        exact ⟨⟨_, _, rfl⟩, HG.out.2⟩

end Go.Proofs.YtocmcbcijmjlhaaDoor.cn
