/-
  The program's overview.
-/
import Derived.Test.YtglgaangkffbiaaDoorOvs
import Derived.Test.YtglgaangkffbiaaDoorApk
import Derived.Test.YtglgaangkffbiaaDoorRst
import Derived.Test.YtglgaangkffbiaaDoorJon
import Derived.Laws.AppendOwn
namespace Go.Proofs.YtglgaangkffbiaaDoor.ov
open Go.RowKit
open fa fo ml fp gr
set_option linter.unusedVariables false

theorem isUid_any (u : Int) (w : World) : Calls Tryd.prog 23 #[.int .i64 u] w fun e w' => e = .returned (.bool (decide (1 ≤ u ∧ u ≤ 1000))) ∧ w' = w := by
  go_enter Tryd.func23, Tryd.ntmps23
  go_wp2
  all_goals (go_ret; exact ⟨ret_bool (by rw [Bool.eq_iff_iff]; simp; try omega), rfl⟩)
/-- The columns: the uid and the first fields. -/
def cols (u : Nat) (ps : List Pr) : Nat → List ByteArray
  | 0 => [⟨(Lib.decDigits u).toArray⟩]
  | k + 1 => cols u ps k ++ [fv ps (nmAt k)]
theorem cols_len (u : Nat) (ps : List Pr) : ∀ k, (cols u ps k).length = k + 1
  | 0 => rfl
  | k + 1 => by rw [cols, List.length_append, cols_len u ps k]; rfl
theorem infoS : (Tryd.prog.info? 9).map (fun i => (i.zero, i.size, i.bytes)) = some (some (.string ⟨#[]⟩), 1, 16) := by kernel_rfl
theorem own_lit (w : World) (cs : List Value) (t : TypeId) (hl : cs.length ≤ 1000) : (w.alloc (.cells cs.toArray t)).ownsRow w.heap.size t 1 (.slice (some ⟨w.heap.size, 0, none⟩) cs.length cs.length) cs.length cs := by
  refine ⟨by simp, .inr ⟨w.heap.size, cs.length, cs.toArray, rfl, Nat.le_refl _, heap_alloc_new w _, Nat.le_refl _, by unfold maxLen; omega, by simp, ?_⟩⟩
  rw [Nat.mul_one]
  exact List.take_of_length_le (by simp)
/-- One of the four names, by its number. -/
def nmA : Value := .agg #[.string ⟨#[83, 117, 98, 106, 101, 99, 116]⟩, .string ⟨#[70, 114, 111, 109]⟩, .string ⟨#[68, 97, 116, 101]⟩, .string ⟨#[77, 101, 115, 115, 97, 103, 101, 45, 73, 68]⟩]
theorem ix0 (wx : World) : (Instr.index 65 (.agg #[.string ⟨#[83, 117, 98, 106, 101, 99, 116]⟩, .string ⟨#[70, 114, 111, 109]⟩, .string ⟨#[68, 97, 116, 101]⟩, .string ⟨#[77, 101, 115, 115, 97, 103, 101, 45, 73, 68]⟩]) (.int .i64 0)).run Tryd.prog wx = .ok (.string (nmAt 0)) wx := by kernel_rfl
theorem ix1 (wx : World) : (Instr.index 65 (.agg #[.string ⟨#[83, 117, 98, 106, 101, 99, 116]⟩, .string ⟨#[70, 114, 111, 109]⟩, .string ⟨#[68, 97, 116, 101]⟩, .string ⟨#[77, 101, 115, 115, 97, 103, 101, 45, 73, 68]⟩]) (.int .i64 1)).run Tryd.prog wx = .ok (.string (nmAt 1)) wx := by kernel_rfl
theorem ix2 (wx : World) : (Instr.index 65 (.agg #[.string ⟨#[83, 117, 98, 106, 101, 99, 116]⟩, .string ⟨#[70, 114, 111, 109]⟩, .string ⟨#[68, 97, 116, 101]⟩, .string ⟨#[77, 101, 115, 115, 97, 103, 101, 45, 73, 68]⟩]) (.int .i64 2)).run Tryd.prog wx = .ok (.string (nmAt 2)) wx := by kernel_rfl
theorem ix3 (wx : World) : (Instr.index 65 (.agg #[.string ⟨#[83, 117, 98, 106, 101, 99, 116]⟩, .string ⟨#[70, 114, 111, 109]⟩, .string ⟨#[68, 97, 116, 101]⟩, .string ⟨#[77, 101, 115, 115, 97, 103, 101, 45, 73, 68]⟩]) (.int .i64 3)).run Tryd.prog wx = .ok (.string (nmAt 3)) wx := by kernel_rfl
theorem ix_nm (k : Nat) (h : k < 4) (wx : World) : (Instr.index 65 (.agg #[.string ⟨#[83, 117, 98, 106, 101, 99, 116]⟩, .string ⟨#[70, 114, 111, 109]⟩, .string ⟨#[68, 97, 116, 101]⟩, .string ⟨#[77, 101, 115, 115, 97, 103, 101, 45, 73, 68]⟩]) (.int .i64 (k : Int))).run Tryd.prog wx = .ok (.string (nmAt k)) wx := by
  match k, h with
  | 0, _ => exact ix0 wx
  | 1, _ => exact ix1 wx
  | 2, _ => exact ix2 wx
  | 3, _ => exact ix3 wx
theorem fold_len : ∀ (V : List (List UInt8)), bl.lens V = V.foldr (fun x n => x.length + n) 0 := fun V => rfl
theorem jn_ov (u n k : Nat) (ps : List Pr) : bl.jn 9 ((cols u ps 4 ++ [(⟨#[]⟩ : ByteArray), ⟨(Lib.decDigits n).toArray⟩, ⟨(Lib.decDigits k).toArray⟩]).map fun s : ByteArray => s.data.toList) = ovT u n k ps := by
  simp [cols, bl.jn, bl.tails, ovT, ov1]

def V13 (Vc lt : Value) (P : Nat) (s D1 D2 : ByteArray) (tn : Int) : Nat → Option Value
  | 0 => some Vc
  | 1 => some (.pointer (some ⟨P, 0 + 2, none⟩))
  | 2 => some (.string s)
  | 3 => some (.int .i64 (s.size : Int))
  | 4 => some (.string D1)
  | 5 => some lt
  | 6 => some (.int .i64 tn)
  | 7 => some (.string D2)
  | _ => none
def news (D1 D2 : ByteArray) : List Value := [.string ⟨#[]⟩, .string D1, .string D2]
structure Q where
  w : World
  W : World
  Vc : Value
  lt : Value
  P : Nat
  s : ByteArray
  D1 : ByteArray
  D2 : ByteArray
  tn : Int
  n : Nat
  cs : List Value
def Q.V (q : Q) : Nat → Option Value := V13 q.Vc q.lt q.P q.s q.D1 q.D2 q.tn
def J (q : Q) (D : Nat → Prop) (f : Nat → Value) (x : World) : Prop :=
  (∀ j, D j → ∀ y, q.V j = some y → f j = y) ∧ (¬ D 9 → Below q.W.heap.size q.W x) ∧
  (D 8 → ¬ D 9 → ∃ g, f 8 = .slice (some ⟨g, 0, none⟩) 3 3 ∧ ∀ j u, (news q.D1 q.D2)[j]? = some u → x.cell? ⟨g, j, none⟩ = some u) ∧
  (D 9 → x.ownsRow q.w.heap.size 9 1 (f 9) (q.n + 3) (q.cs ++ news q.D1 q.D2) ∧ Below q.w.heap.size q.w x) ∧
  (D 10 → D 9 ∧ f 10 = f 9) ∧ (¬ D 10 → f 10 = q.Vc)
theorem vals {V : Nat → Option Value} {D : Nat → Prop} {f : Nat → Value} {i : Nat} {y : Value} (h : ∀ j, D j → ∀ z, V j = some z → f j = z) (hy : ∀ z, V i = some z → y = z) : ∀ j, (j = i ∨ D j) → ∀ z, V j = some z → rs.upd f i y j = z := by
  intro j hj z hz
  by_cases e : j = i
  · subst e
    rw [rs.upd_same]
    exact hy z hz
  · rw [rs.upd_other f i y e]
    exact h j (hj.resolve_left e) z hz
section
variable {q : Q} {D : Nat → Prop} {f : Nat → Value} {x x' : World} {i : Nat}
theorem J.start (h : Below q.W.heap.size q.W x) (h0 : f 10 = q.Vc) : J q (fun _ => False) f x := ⟨fun j hj => hj.elim, fun _ => h, fun d => d.elim, fun d => d.elim, fun d => d.elim, fun _ => h0⟩
/-- An operation ahead of the row of three. -/
theorem J.grow (y : Value) (h : J q D f x) (hi : i < 8) (hy : ∀ z, q.V i = some z → y = z) (hb : Below x.heap.size x x') (hw : q.w.heap.size ≤ x.heap.size) : J q (fun j => j = i ∨ D j) (rs.upd f i y) x' := by
  obtain ⟨hv, ha, hc, hd, he, h10⟩ := h
  refine ⟨vals hv hy, fun n => ?_, fun d n => ?_, fun d => ?_, fun d => ?_, fun d => ?_⟩
  · have := ha (fun d => n (.inr d))
    exact this.trans (hb.mono this.size)
  · obtain ⟨g, e, hg⟩ := hc (d.resolve_left (by omega)) (fun d => n (.inr d))
    rw [rs.upd_other f i y (by omega)]
    exact ⟨g, e, fun j u hu => (hb.cell (p := ⟨g, j, none⟩) (World.block_lt_of_cell? x _ (hg j u hu))).trans (hg j u hu)⟩
  · have := hd (d.resolve_left (by omega))
    rw [rs.upd_other f i y (by omega)]
    exact ⟨ow.own_below this.1 hb, this.2.trans (hb.mono hw)⟩
  · have := he (d.resolve_left (by omega))
    rw [rs.upd_other f i y (by omega), rs.upd_other f i y (by omega)]
    exact ⟨.inr this.1, this.2⟩
  · rw [rs.upd_other f i y (by omega)]
    exact h10 (fun e => d (.inr e))
theorem J.build (g : Nat) (h : J q D f x) (hn : ¬ D 9) (hb : Below x.heap.size x x') (hg : ∀ j u, (news q.D1 q.D2)[j]? = some u → x'.cell? ⟨g, j, none⟩ = some u) : J q (fun j => j = 8 ∨ D j) (rs.upd f 8 (.slice (some ⟨g, 0, none⟩) 3 3)) x' := by
  obtain ⟨hv, ha, hc, hd, he, h10⟩ := h
  refine ⟨vals hv (fun z hz => by cases hz), fun n => (ha hn).trans (hb.mono (ha hn).size), fun d n => ⟨g, by rw [rs.upd_same], hg⟩, fun d => absurd (d.resolve_left (by decide)) hn, fun d => ?_, fun d => ?_⟩
  · exact absurd (he (d.resolve_left (by decide))).1 hn
  · rw [rs.upd_other f 8 _ (by decide)]
    exact h10 (fun e => d (.inr e))
theorem J.app (v' : Value) (h : J q D f x) (hn : ¬ D 9) (ho : x'.ownsRow q.w.heap.size 9 1 v' (q.n + 3) (q.cs ++ news q.D1 q.D2)) (hb : Below q.w.heap.size q.w x') : J q (fun j => j = 9 ∨ D j) (rs.upd f 9 v') x' := by
  obtain ⟨hv, ha, hc, hd, he, h10⟩ := h
  refine ⟨vals hv (fun z hz => by cases hz), fun n => absurd (.inl rfl) n, fun d n => absurd (.inl rfl) n, fun d => ?_, fun d => ?_, fun d => ?_⟩
  · rw [rs.upd_same]
    exact ⟨ho, hb⟩
  · exact absurd (he (d.resolve_left (by decide))).1 hn
  · rw [rs.upd_other f 9 _ (by decide)]
    exact h10 (fun e => d (.inr e))
theorem J.last (y : Value) (h : J q D f x) (h9 : D 9) (hy : y = f 9) : J q (fun j => j = 10 ∨ D j) (rs.upd f 10 y) x := by
  obtain ⟨hv, ha, hc, hd, he, h10⟩ := h
  refine ⟨vals hv (fun z hz => by cases hz), fun n => absurd (.inr h9) n, fun d n => absurd (.inr h9) n, fun d => ?_, fun d => ?_, fun d => absurd (.inl rfl) d⟩
  · rw [rs.upd_other f 10 y (by decide)]
    exact hd h9
  · rw [rs.upd_same, rs.upd_other f 10 y (by decide)]
    exact ⟨.inr h9, hy⟩
end

set_option maxHeartbeats 4000000 in
set_option maxRecDepth 100000 in
theorem implOl_any (u fl : Int) (s : ByteArray) (w : World) (m : Int) (hm : w.cell? ⟨0, 0, none⟩ = some (.int .i64 m)) (hTP : tb.TP w) (hs : s.size ≤ 1048576) :
    Calls Tryd.prog 16 #[.agg #[.int .i64 u, .int .i64 fl, .string s]] w fun e w' => OvIs u s e ∧ Below w.heap.size w w' := by
  have hgl := World.block_lt_of_cell? _ _ hm
  have HM : Hid (∀ W, Below w.heap.size w W → W.cell? ⟨0, 0, none⟩ = some (.int .i64 m) ∧ tb.TP W) := fun W hW => ⟨(hW.cell (p := ⟨0, 0, none⟩) hgl).trans hm, tb.keep' hTP hW⟩
  clear hm hgl hTP
  have hsI : (s.size : Int) ≤ 1048576 := by omega
  obtain ⟨i0, hi, hz0, hz1, hz2⟩ := info_parts infoS
  have c0 := box_cell w #[.int .i64 u, .int .i64 fl, .string s] 32 0 _ rfl
  have c2 := box_cell w #[.int .i64 u, .int .i64 fl, .string s] 32 2 _ rfl
  have b0 : Below w.heap.size w (w.alloc (.cells #[.int .i64 u, .int .i64 fl, .string s] 32)) := (Below.refl _ _).alloc (Nat.le_refl _) _
  have HIN : Hid (∀ W, Calls Tryd.prog 23 #[.int .i64 u] W fun e w' => e = .returned (.bool (decide (1 ≤ u ∧ u ≤ 1000))) ∧ w' = W) := fun W => isUid_any u W
  by_cases hu : 1 ≤ u ∧ u ≤ 1000
  case neg =>
    rw [decide_eq_false hu] at HIN
    have HU : Hid (¬ (1 ≤ u ∧ u ≤ 1000)) := hu
    clear hu
    go_enter Tryd.func16, Tryd.ntmps16
    go_wp2_with fail
    generalize w.alloc _ = w0 at c0 c2 b0 ⊢
    refine (HIN.out _).mono ?_
    rintro e w' ⟨rfl, rfl⟩
    go_wp2
    go_ret2
    exact ⟨.inl ⟨HU.out, rfl⟩, b0⟩
  rw [decide_eq_true hu] at HIN
  have HU : Hid (1 ≤ u ∧ u ≤ 1000) := hu
  obtain ⟨n, rfl⟩ : ∃ n : Nat, u = (n : Int) := ⟨u.toNat, by omega⟩
  have hn : n ≤ 1000 := by omega
  clear hu
  go_enter Tryd.func16, Tryd.ntmps16
  go_wp2_with fail
  generalize w.alloc _ = w0 at c0 c2 b0 ⊢
  refine (HIN.out _).mono ?_
  rintro e w' ⟨rfl, rfl⟩
  have HW0 : Hid (∀ W, Below w'.heap.size w' W → W.cell? ⟨w.heap.size, 0, none⟩ = some (.int .i64 (n : Int)) ∧ W.cell? ⟨w.heap.size, 2, none⟩ = some (.string s)) := fun W hW => ⟨kp hW c0, kp hW c2⟩
  have HB0 : Hid (Below w.heap.size w w') := b0
  go_wp2_with fail
  clear c0 c2 b0 HIN
  refine (readLetter_any s w' m (HM.out _ HB0.out).1 hs).mono ?_
  rintro e w1 ⟨hr, hb1⟩
  have HB1 : Hid (Below w.heap.size w w1) := HB0.out.trans (hb1.mono HB0.out.size)
  rcases hr with ⟨hl, rfl⟩ | ⟨hl, hno, rfl⟩ | ⟨hl, fs, b, v, hmail, rfl, hfa⟩
  · have HNO : Hid (¬ ∃ fs b, s.size ≤ 65536 ∧ IsMail s.data.toList fs b) := (show ¬ _ from fun ⟨_, _, h, _⟩ => by rw [← Lib.size_eq] at hl; omega)
    clear hl hb1
    unfold noMV
    go_wp2
    go_ret2
    exact ⟨.inr (.inl ⟨HU.out, HNO.out, rfl⟩), HB1.out.alloc HB1.out.size _⟩
  · have HNO : Hid (¬ ∃ fs b, s.size ≤ 65536 ∧ IsMail s.data.toList fs b) := (show ¬ _ from fun ⟨fs, b, _, h⟩ => hno ⟨fs, b, h⟩)
    clear hl hno hb1
    unfold noMV
    go_wp2
    go_ret2
    exact ⟨.inr (.inl ⟨HU.out, HNO.out, rfl⟩), HB1.out.alloc HB1.out.size _⟩
  have hat := attrs_of hfa
  obtain ⟨a, cap, rfl⟩ := fields_form hfa
  obtain ⟨hbm, hbl⟩ := isMail_body hmail hl
  have HMA : Hid (IsMail s.data.toList fs b) := hmail
  have hs6 : s.size ≤ 65536 := by rw [Lib.size_eq]; exact hl
  obtain ⟨T, hT⟩ : ∃ T : ByteArray, T = ⟨b.toArray⟩ := ⟨_, rfl⟩
  have hTl : T.data.toList = b := by rw [hT]
  have hTs : T.size ≤ 65536 := by rw [Lib.size_eq, hTl]; exact hbl
  unfold MV
  rw [show tv b = .string T from by rw [hT]; rfl]
  have htn : tens b ≤ 65536 := Nat.le_trans (tens_le _) hbl
  have HLN : Hid (∀ W, Below w.heap.size w W → Calls Tryd.prog 20 #[.agg #[.slice a fs.length cap, .string T]] W fun e w' => e = .returned (.int .i64 ((tens b : Nat) : Int)) ∧ Below W.heap.size W w') := fun W hW => by
    have := lines_any a fs.length cap T W m (HM.out _ hW).1 (by omega) (by rw [hTl]; exact hbm)
    rw [hTl] at this
    exact this
  have bb1 : Below w1.heap.size w1 (w1.alloc (.cells #[.slice a fs.length cap, .string T] 48)) := (Below.refl _ _).alloc (Nat.le_refl _) _
  have m0 := b2.new w1 48 (.slice a fs.length cap) (.string T)
  have hat1 := at_below hat bb1
  have HW1 : Hid (∀ W, Below w1.heap.size w1 W → W.cell? ⟨w.heap.size, 0, none⟩ = some (.int .i64 (n : Int)) ∧ W.cell? ⟨w.heap.size, 2, none⟩ = some (.string s)) := fun W hW => HW0.out W (hb1.trans (hW.mono hb1.size))
  have d0 := (HW1.out _ bb1).1
  clear hT hTl hfa hbm hbl hb1 HW0 hat hmail hl
  go_wp2_with fail
  clear d0
  generalize w1.heap.size = P at m0 ⊢
  generalize w1.alloc _ = w2 at m0 hat1 bb1 ⊢
  have HB2 : Hid (Below w.heap.size w w2) := HB1.out.trans (bb1.mono HB1.out.size)
  have HW2 : Hid ((∀ W, Below w2.heap.size w2 W → W.cell? ⟨w.heap.size, 2, none⟩ = some (.string s)) ∧ b2.Box w2 P 48 (.slice a fs.length cap) (.string T) ∧ AttrsAt w2 (.slice a fs.length cap) (prs fs)) := ⟨fun W hW => (HW1.out W (bb1.trans (hW.mono bb1.size))).2, m0, hat1⟩
  clear m0 hat1 bb1 HW1 HB1
  refine (dx.itoa_any n (by omega) w2 (HM.out _ HB2.out).2).mono ?_
  rintro e w3 ⟨rfl, hb3⟩
  have hD := dec_size (n := n) (by omega)
  have hown : (w3.alloc (.cells #[.string ⟨(Lib.decDigits n).toArray⟩] 9)).ownsRow w3.heap.size 9 1 (.slice (some ⟨w3.heap.size, 0, none⟩) 1 1) 1 ((cols n (prs fs) 0).map Value.string) := own_lit w3 ((cols n (prs fs) 0).map Value.string) 9 (by simp [cols])
  have bb3 : Below w3.heap.size w3 (w3.alloc (.cells #[.string ⟨(Lib.decDigits n).toArray⟩] 9)) := (Below.refl _ _).alloc (Nat.le_refl _) _
  have HB3 : Hid (Below w.heap.size w w3) := HB2.out.trans (hb3.mono HB2.out.size)
  have HW3 : Hid ((∀ W, Below w3.heap.size w3 W → W.cell? ⟨w.heap.size, 2, none⟩ = some (.string s)) ∧ b2.Box w3 P 48 (.slice a fs.length cap) (.string T) ∧ AttrsAt w3 (.slice a fs.length cap) (prs fs)) := ⟨fun W hW => HW2.out.1 W (hb3.trans (hW.mono hb3.size)), HW2.out.2.1.below hb3, at_below HW2.out.2.2 hb3⟩
  have HBW : Hid (∀ W, Below w3.heap.size w3 W → Below w.heap.size w W) := fun W hW => HB3.out.trans (hW.mono HB3.out.size)
  clear hb3 HW2 HB2
  generalize (⟨(Lib.decDigits n).toArray⟩ : ByteArray) = D at hD hown bb3 ⊢
  go_wp2_with fail
  generalize w3.alloc _ = w4 at hown bb3 ⊢
  go_loopw [6, 28] (fun v i wr => ∃ (k : Nat), k ≤ 4 ∧ i = .int .i64 k ∧ wr.ownsRow w3.heap.size 9 1 v (cols n (prs fs) k).length ((cols n (prs fs) k).map Value.string) ∧ Below w3.heap.size w3 wr) (fun _ i _ => 4 - (intOf i).toNat)
  case atStart => exact ⟨0, by omega, rfl, hown, bb3⟩
  case round =>
    clear hown bb3
    obtain ⟨k, hk, rfl, hown, hbw⟩ := hrel
    have hBs := hbw.size
    have hcl := cols_len n (prs fs) k
    by_cases hk4 : k < 4
    · have hk4' : (k : Int) < 4 := by omega
      have hix := ix_nm k hk4
      have q0 := (HW3.out.2.1.below hbw).c0
      have hsm := small_of HMA.out
      have HV : Hid (Calls Tryd.prog 32 #[.slice a fs.length cap, .string (nmAt k)] wr fun e w' => e = .returned (.tuple #[.string (fv (prs fs) (nmAt k)), .bool (find (prs fs) (nmAt k)).isSome]) ∧ Below wr.heap.size wr w') := (show Calls _ _ _ _ _ by
        rw [← fret]
        exact value_any _ (prs fs) (nmAt k) wr (at_below HW3.out.2.2 hbw) hsm (by have := nm_size k; omega))
      have HN : Hid (cols n (prs fs) (k + 1) = cols n (prs fs) k ++ [fv (prs fs) (nmAt k)]) := (show _ = _ from rfl)
      clear hsm
      generalize (find (prs fs) (nmAt k)).isSome = is at HV
      generalize fv (prs fs) (nmAt k) = V at HV HN
      generalize nmAt k = NM at HV hix
      generalize cols n (prs fs) k = C at hown hcl HN
      go_wp2_with fail
      refine HV.out.mono ?_
      rintro e w5 ⟨rfl, hb5⟩
      have hown5 := ow.own_below hown hb5
      have hbw5 := hbw.trans (hb5.mono hBs)
      have hBs5 := hbw5.size
      clear hown hbw hb5 HV q0 hix
      go_wp2_with (at_builtin; refine wpList_append_own _ rfl _ _ 27 rfl w3.heap.size 9 i0 (.string ⟨#[]⟩) 1 16 Tryd.underlying27 hi hz0 hz1 hz2 rfl (by decide) _ _ _ rfl (hown5.alloc _) ⟨w5.heap.size, 0, none⟩ 1 1 [.string V] rfl rfl (ow.cells_new _ [.string V] _) (by intro u hu; simp at hu; subst hu; rfl) (by unfold maxLen; omega) (by omega) (by simp; omega) ?_; intro v' w6 hown6 hgrow6 hnil6)
      have hb6 := Below.grown (hbw5.alloc hBs5 _) hgrow6 (by simp; omega) (ow.own_lt hown5)
      have HA : Hid (w6.ownsRow w3.heap.size 9 1 v' (cols n (prs fs) (k + 1)).length ((cols n (prs fs) (k + 1)).map Value.string) ∧ Below w3.heap.size w3 w6) := ⟨by rw [HN.out, List.map_append, List.length_append]; exact hown6, hb6⟩
      clear hown6 hgrow6 hnil6 hb6 hown5 hbw5 HN
      go_wp2
      go_roundw
      case rel => exact ⟨k + 1, by omega, by go_num, HA.out.1, HA.out.2⟩
      case measure => simp [intOf]; omega
    · have hk4' : (4 : Int) ≤ (k : Int) := by omega
      have HK4 : Hid (k = 4) := (show k = 4 by omega)
      have HOW : Hid (wr.ownsRow w3.heap.size 9 1 u6 5 ((cols n (prs fs) 4).map Value.string)) := (show World.ownsRow _ _ _ _ _ _ _ by
        have h := hown
        rw [hcl, HK4.out] at h
        exact h)
      obtain ⟨va, vn, vc, rfl⟩ : ∃ va vn vc, u6 = .slice va vn vc := by
        rcases hown.2 with ⟨h, _⟩ | ⟨g, c, cur, h, _⟩
        · exact ⟨_, _, _, h⟩
        · exact ⟨_, _, _, h⟩
      have HBR : Hid (Below w3.heap.size w3 wr) := hbw
      clear hown hbw hcl
      go_wp2_with fail
      have htnI : tens b ≤ 4294967295 := by omega
      have HC1 : Hid (∀ W, Below w3.heap.size w3 W → Calls Tryd.prog 31 #[.int .i64 (s.size : Int)] W fun e w' => e = .returned (.string ⟨(Lib.decDigits s.size).toArray⟩) ∧ Below W.heap.size W w') := fun W hW => dx.itoa_any s.size (by omega) W (HM.out W (HBW.out W hW)).2
      have HC2 : Hid (∀ W, Below w3.heap.size w3 W → Calls Tryd.prog 31 #[.int .i64 ((tens b : Nat) : Int)] W fun e w' => e = .returned (.string ⟨(Lib.decDigits (tens b)).toArray⟩) ∧ Below W.heap.size W w') := fun W hW => dx.itoa_any (tens b) htnI W (HM.out W (HBW.out W hW)).2
      have hd1 := dec_size (n := s.size) (by omega)
      have hd2 := dec_size (n := tens b) htnI
      have HJN : Hid (bl.jn 9 ((cols n (prs fs) 4 ++ [(⟨#[]⟩ : ByteArray), ⟨(Lib.decDigits s.size).toArray⟩, ⟨(Lib.decDigits (tens b)).toArray⟩]).map fun s : ByteArray => s.data.toList) = ovT n s.size (tens b) (prs fs)) := jn_ov n s.size (tens b) (prs fs)
      have HFZ : Hid (∀ k, (fv (prs fs) (nmAt k)).size ≤ 2000) := fun k => fv_size HMA.out (nmAt k)
      generalize ((tens b : Nat) : Int) = tn at HC2 HLN
      generalize (⟨(Lib.decDigits s.size).toArray⟩ : ByteArray) = D1 at HC1 hd1 HJN
      generalize (⟨(Lib.decDigits (tens b)).toArray⟩ : ByteArray) = D2 at HC2 hd2 HJN
      refine rs.region_st (by kernel_rfl) (fun f => { tmps := List.toArray ((.agg #[.int .i64 (n : Int), .int .i64 fl, .string s] : Value) :: .pointer (some ⟨w.heap.size, 0, none⟩) :: .string ⟨#[]⟩ :: .int .i64 0 :: .pointer (some ⟨P, 0, none⟩) :: .int .i64 0 :: f 10 :: undef :: u8 :: u9 :: u10 :: .pointer (some ⟨w.heap.size, 0, none⟩) :: .int .i64 (n : Int) :: .bool true :: .bool false :: .tuple #[.agg #[.slice a fs.length cap, .string T], .int .i64 0] :: .pointer (some ⟨w.heap.size, 2, none⟩) :: .string s :: .tuple #[.agg #[.slice a fs.length cap, .string T], .int .i64 0] :: .agg #[.slice a fs.length cap, .string T] :: .int .i64 0 :: .int .i64 0 :: .bool false :: .pointer (some ⟨w.heap.size, 0, none⟩) :: .int .i64 (n : Int) :: .string D :: .slice (some ⟨w3.heap.size, 0, none⟩) 1 1 :: .agg #[.string ⟨#[83, 117, 98, 106, 101, 99, 116]⟩, .string ⟨#[70, 114, 111, 109]⟩, .string ⟨#[68, 97, 116, 101]⟩, .string ⟨#[77, 101, 115, 115, 97, 103, 101, 45, 73, 68]⟩] :: .int .i64 (k : Int) :: .bool (decide ((k : Int) < 4)) :: u30 :: u31 :: u32 :: u33 :: u34 :: u35 :: u36 :: u37 :: u38 :: u39 :: u40 :: u41 :: u42 :: f 0 :: f 1 :: f 2 :: f 3 :: f 4 :: f 5 :: f 6 :: f 7 :: f 8 :: f 9 :: undef :: undef :: []), defers := [] }) (J (⟨w3, wr, .slice va vn vc, .agg #[.slice a fs.length cap, .string T], w.heap.size, s, D1, D2, tn, 5, (cols n (prs fs) 4).map Value.string⟩ : Q)) (fun j => match j with | 10 => .slice va vn vc | _ => undef) rfl (J.start (Below.refl _ _).drew rfl) (rs.deps_of (by kernel_rfl)) ?_ ?_
      · intro i o ho D f X hJ hall hni hcl
        match i, ho with
        | 0, ho =>
          cases ho
          have n9 : ¬ D 9 := fun h => hni (hcl 9 _ h rfl { on := 0, ground := Ground.data } (by simp) rfl)
          have hbX := hJ.2.1 n9
          have hbx := HBR.out.trans (hbX.mono HBR.out.size)
          have hsz : w3.heap.size ≤ X.heap.size := hbx.size
          have HJ : Hid (J (⟨w3, wr, .slice va vn vc, .agg #[.slice a fs.length cap, .string T], w.heap.size, s, D1, D2, tn, 5, (cols n (prs fs) 4).map Value.string⟩ : Q) D f X) := hJ
          have h10 : f 10 = .slice va vn vc := hJ.2.2.2.2.2 (fun e => n9 (hJ.2.2.2.2.1 e).1)
          clear hJ hall hcl hni
          refine wpOp_step rfl (fun K' hK => ?_)
          simp only [h10]
          go_simp
          exact hK _ _ ⟨.slice va vn vc, by simp [rs.upd, h10], HJ.out.grow _ (by decide) (fun z hz => Option.some.inj hz) (Below.refl _ _) hsz⟩
        | 1, ho =>
          cases ho
          have n9 : ¬ D 9 := fun h => hni (hcl 2 _ (hcl 3 _ (hcl 4 _ (hcl 8 _ (hcl 9 _ h rfl { on := 8, ground := Ground.data } (by simp) rfl) rfl { on := 4, ground := Ground.data } (by simp) rfl) rfl { on := 3, ground := Ground.data } (by simp) rfl) rfl { on := 2, ground := Ground.data } (by simp) rfl) rfl { on := 1, ground := Ground.data } (by simp) rfl)
          have hbX := hJ.2.1 n9
          have hbx := HBR.out.trans (hbX.mono HBR.out.size)
          have hsz : w3.heap.size ≤ X.heap.size := hbx.size
          have HJ : Hid (J (⟨w3, wr, .slice va vn vc, .agg #[.slice a fs.length cap, .string T], w.heap.size, s, D1, D2, tn, 5, (cols n (prs fs) 4).map Value.string⟩ : Q) D f X) := hJ
          clear hJ hall hcl hni
          refine wpOp_step rfl (fun K' hK => ?_)
          go_simp
          exact hK _ _ ⟨.pointer (some ⟨w.heap.size, 0 + 2, none⟩), by simp [rs.upd], HJ.out.grow _ (by decide) (fun z hz => Option.some.inj hz) (Below.refl _ _) hsz⟩
        | 2, ho =>
          cases ho
          have d1 : D 1 := hall { on := 1, ground := Ground.data } (by simp) rfl
          have h1 : f 1 = .pointer (some ⟨w.heap.size, 0 + 2, none⟩) := hJ.1 1 d1 _ rfl
          have n9 : ¬ D 9 := fun h => hni (hcl 3 _ (hcl 4 _ (hcl 8 _ (hcl 9 _ h rfl { on := 8, ground := Ground.data } (by simp) rfl) rfl { on := 4, ground := Ground.data } (by simp) rfl) rfl { on := 3, ground := Ground.data } (by simp) rfl) rfl { on := 2, ground := Ground.data } (by simp) rfl)
          have hbX := hJ.2.1 n9
          have hbx := HBR.out.trans (hbX.mono HBR.out.size)
          have hsz : w3.heap.size ≤ X.heap.size := hbx.size
          have HJ : Hid (J (⟨w3, wr, .slice va vn vc, .agg #[.slice a fs.length cap, .string T], w.heap.size, s, D1, D2, tn, 5, (cols n (prs fs) 4).map Value.string⟩ : Q) D f X) := hJ
          have cS : X.cell? ⟨w.heap.size, 0 + 2, none⟩ = some (.string s) := HW3.out.1 X hbx
          clear hJ hall hcl hni
          refine wpOp_step rfl (fun K' hK => ?_)
          simp only [h1]
          go_wp2_with fail
          exact ⟨.string s, by simp [rs.upd, h1], HJ.out.grow _ (by decide) (fun z hz => Option.some.inj hz) (Below.refl _ _) hsz⟩
        | 3, ho =>
          cases ho
          have d2 : D 2 := hall { on := 2, ground := Ground.data } (by simp) rfl
          have h2 : f 2 = .string s := hJ.1 2 d2 _ rfl
          have n9 : ¬ D 9 := fun h => hni (hcl 4 _ (hcl 8 _ (hcl 9 _ h rfl { on := 8, ground := Ground.data } (by simp) rfl) rfl { on := 4, ground := Ground.data } (by simp) rfl) rfl { on := 3, ground := Ground.data } (by simp) rfl)
          have hbX := hJ.2.1 n9
          have hbx := HBR.out.trans (hbX.mono HBR.out.size)
          have hsz : w3.heap.size ≤ X.heap.size := hbx.size
          have HJ : Hid (J (⟨w3, wr, .slice va vn vc, .agg #[.slice a fs.length cap, .string T], w.heap.size, s, D1, D2, tn, 5, (cols n (prs fs) 4).map Value.string⟩ : Q) D f X) := hJ
          clear hJ hall hcl hni
          refine wpOp_step rfl (fun K' hK => ?_)
          simp only [h2]
          go_simp
          exact hK _ _ ⟨.int .i64 (s.size : Int), by simp [rs.upd, h2], HJ.out.grow _ (by decide) (fun z hz => Option.some.inj hz) (Below.refl _ _) hsz⟩
        | 4, ho =>
          cases ho
          have d3 : D 3 := hall { on := 3, ground := Ground.data } (by simp) rfl
          have h3 : f 3 = .int .i64 (s.size : Int) := hJ.1 3 d3 _ rfl
          have n9 : ¬ D 9 := fun h => hni (hcl 8 _ (hcl 9 _ h rfl { on := 8, ground := Ground.data } (by simp) rfl) rfl { on := 4, ground := Ground.data } (by simp) rfl)
          have hbX := hJ.2.1 n9
          have hbx := HBR.out.trans (hbX.mono HBR.out.size)
          have hsz : w3.heap.size ≤ X.heap.size := hbx.size
          have HJ : Hid (J (⟨w3, wr, .slice va vn vc, .agg #[.slice a fs.length cap, .string T], w.heap.size, s, D1, D2, tn, 5, (cols n (prs fs) 4).map Value.string⟩ : Q) D f X) := hJ
          have HC := HC1.out X hbx
          clear hJ hall hcl hni
          refine wpOp_step rfl (fun K' hK => ?_)
          simp only [h3]
          go_wp2_with (go_at_call 31; refine HC.mono ?_; rintro e X' ⟨rfl, hb⟩)
          exact ⟨.string D1, by simp [rs.upd, h3], HJ.out.grow _ (by decide) (fun z hz => Option.some.inj hz) hb hsz⟩
        | 5, ho =>
          cases ho
          have n9 : ¬ D 9 := fun h => hni (hcl 6 _ (hcl 7 _ (hcl 8 _ (hcl 9 _ h rfl { on := 8, ground := Ground.data } (by simp) rfl) rfl { on := 7, ground := Ground.data } (by simp) rfl) rfl { on := 6, ground := Ground.data } (by simp) rfl) rfl { on := 5, ground := Ground.data } (by simp) rfl)
          have hbX := hJ.2.1 n9
          have hbx := HBR.out.trans (hbX.mono HBR.out.size)
          have hsz : w3.heap.size ≤ X.heap.size := hbx.size
          have HJ : Hid (J (⟨w3, wr, .slice va vn vc, .agg #[.slice a fs.length cap, .string T], w.heap.size, s, D1, D2, tn, 5, (cols n (prs fs) 4).map Value.string⟩ : Q) D f X) := hJ
          have hLX := HW3.out.2.1.below hbx
          have q0 := hLX.c0
          have q1 := hLX.c1
          clear hLX
          clear hJ hall hcl hni
          refine wpOp_step rfl (fun K' hK => ?_)
          go_wp2_with fail
          exact ⟨.agg #[.slice a fs.length cap, .string T], by simp [rs.upd], HJ.out.grow _ (by decide) (fun z hz => Option.some.inj hz) (Below.refl _ _) hsz⟩
        | 6, ho =>
          cases ho
          have d5 : D 5 := hall { on := 5, ground := Ground.data } (by simp) rfl
          have h5 : f 5 = .agg #[.slice a fs.length cap, .string T] := hJ.1 5 d5 _ rfl
          have n9 : ¬ D 9 := fun h => hni (hcl 7 _ (hcl 8 _ (hcl 9 _ h rfl { on := 8, ground := Ground.data } (by simp) rfl) rfl { on := 7, ground := Ground.data } (by simp) rfl) rfl { on := 6, ground := Ground.data } (by simp) rfl)
          have hbX := hJ.2.1 n9
          have hbx := HBR.out.trans (hbX.mono HBR.out.size)
          have hsz : w3.heap.size ≤ X.heap.size := hbx.size
          have HJ : Hid (J (⟨w3, wr, .slice va vn vc, .agg #[.slice a fs.length cap, .string T], w.heap.size, s, D1, D2, tn, 5, (cols n (prs fs) 4).map Value.string⟩ : Q) D f X) := hJ
          have HC := HLN.out X (HBW.out X hbx)
          clear hJ hall hcl hni
          refine wpOp_step rfl (fun K' hK => ?_)
          simp only [h5]
          go_wp2_with (go_at_call 20; refine HC.mono ?_; rintro e X' ⟨rfl, hb⟩)
          exact ⟨.int .i64 tn, by simp [rs.upd, h5], HJ.out.grow _ (by decide) (fun z hz => Option.some.inj hz) hb hsz⟩
        | 7, ho =>
          cases ho
          have d6 : D 6 := hall { on := 6, ground := Ground.data } (by simp) rfl
          have h6 : f 6 = .int .i64 tn := hJ.1 6 d6 _ rfl
          have n9 : ¬ D 9 := fun h => hni (hcl 8 _ (hcl 9 _ h rfl { on := 8, ground := Ground.data } (by simp) rfl) rfl { on := 7, ground := Ground.data } (by simp) rfl)
          have hbX := hJ.2.1 n9
          have hbx := HBR.out.trans (hbX.mono HBR.out.size)
          have hsz : w3.heap.size ≤ X.heap.size := hbx.size
          have HJ : Hid (J (⟨w3, wr, .slice va vn vc, .agg #[.slice a fs.length cap, .string T], w.heap.size, s, D1, D2, tn, 5, (cols n (prs fs) 4).map Value.string⟩ : Q) D f X) := hJ
          have HC := HC2.out X hbx
          clear hJ hall hcl hni
          refine wpOp_step rfl (fun K' hK => ?_)
          simp only [h6]
          go_wp2_with (go_at_call 31; refine HC.mono ?_; rintro e X' ⟨rfl, hb⟩)
          exact ⟨.string D2, by simp [rs.upd, h6], HJ.out.grow _ (by decide) (fun z hz => Option.some.inj hz) hb hsz⟩
        | 8, ho =>
          cases ho
          have d4 : D 4 := hall { on := 4, ground := Ground.data } (by simp) rfl
          have d7 : D 7 := hall { on := 7, ground := Ground.data } (by simp) rfl
          have h4 : f 4 = .string D1 := hJ.1 4 d4 _ rfl
          have h7 : f 7 = .string D2 := hJ.1 7 d7 _ rfl
          have n9 : ¬ D 9 := fun h => hni (hcl 9 _ h rfl { on := 8, ground := Ground.data } (by simp) rfl)
          have hbX := hJ.2.1 n9
          have hbx := HBR.out.trans (hbX.mono HBR.out.size)
          have hsz : w3.heap.size ≤ X.heap.size := hbx.size
          have HJ : Hid (J (⟨w3, wr, .slice va vn vc, .agg #[.slice a fs.length cap, .string T], w.heap.size, s, D1, D2, tn, 5, (cols n (prs fs) 4).map Value.string⟩ : Q) D f X) := hJ
          have HN : Hid (J (⟨w3, wr, .slice va vn vc, .agg #[.slice a fs.length cap, .string T], w.heap.size, s, D1, D2, tn, 5, (cols n (prs fs) 4).map Value.string⟩ : Q) (fun j => j = 8 ∨ D j) (rs.upd f 8 (.slice (some ⟨X.heap.size, 0, none⟩) 3 3)) (X.alloc (.cells #[.string ⟨#[]⟩, .string D1, .string D2] 9))) := hJ.build _ n9 ((Below.refl _ _).alloc (Nat.le_refl _) _) (fun j u hj => by have := ow.cells_new X (news D1 D2) 9 j u hj; rwa [ow.add_at] at this)
          clear hJ hall hcl hni
          refine wpOp_step rfl (fun K' hK => ?_)
          simp only [h4, h7]
          go_wp2_with fail
          exact ⟨_, by simp [rs.upd, h4, h7], HN.out⟩
        | 9, ho =>
          cases ho
          have d0 : D 0 := hall { on := 0, ground := Ground.data } (by simp) rfl
          have d8 : D 8 := hall { on := 8, ground := Ground.data } (by simp) rfl
          have h0 : f 0 = .slice va vn vc := hJ.1 0 d0 _ rfl
          have hbX := hJ.2.1 hni
          have hbx := HBR.out.trans (hbX.mono HBR.out.size)
          have hsz : w3.heap.size ≤ X.heap.size := hbx.size
          obtain ⟨g, hgB, hgc⟩ := hJ.2.2.1 d8 hni
          have hownX := ow.own_below HOW.out hbX
          refine wpOp_step rfl (fun K' hK => ?_)
          rw [if_pos (by rfl)]
          refine apk.wp_append_keep X (.tmp 43) (.tmp 51) 27 rfl w3.heap.size 9 i0 (.string ⟨#[]⟩) 1 16 Tryd.underlying27 hi hz0 hz1 hz2 rfl (by decide) (.slice va vn vc) 5 ((cols n (prs fs) 4).map Value.string) h0 hownX ⟨g, 0, none⟩ 3 3 (news D1 D2) hgB rfl (fun j u hj => by rw [ow.add_at]; exact hgc j u hj) (by intro u hu; simp [news] at hu; rcases hu with rfl | rfl | rfl <;> rfl) (by unfold maxLen; omega) (by omega) hsz (fun v' X' hown' hgr' hkp => hK _ _ ⟨v', by simp [rs.upd, Act.put], hJ.app v' hni hown' (Below.grown hbx hgr' hsz (ow.own_lt hownX))⟩)
        | 10, ho =>
          cases ho
          have d9 : D 9 := hall { on := 9, ground := Ground.data } (by simp) rfl
          have hown9 := (hJ.2.2.2.1 d9).1
          obtain ⟨ra, rn, rc, h9⟩ : ∃ ra rn rc, f 9 = .slice ra rn rc := by rcases hown9.2 with ⟨h, _⟩ | ⟨g, c, cur, h, _⟩; exact ⟨_, _, _, h⟩; exact ⟨_, _, _, h⟩
          have HN : Hid (J (⟨w3, wr, .slice va vn vc, .agg #[.slice a fs.length cap, .string T], w.heap.size, s, D1, D2, tn, 5, (cols n (prs fs) 4).map Value.string⟩ : Q) (fun j => j = 10 ∨ D j) (rs.upd f 10 (.slice ra rn rc)) X) := hJ.last _ d9 h9.symm
          clear hown9
          clear hJ hall hcl hni
          refine wpOp_step rfl (fun K' hK => ?_)
          simp only [h9]
          go_simp
          exact hK _ _ ⟨.slice ra rn rc, by simp [rs.upd, h9], HN.out⟩
        | k + 11, ho => simp at ho
      · intro D f w7 hD hJ
        obtain ⟨hown7, hb7⟩ := hJ.2.2.2.1 (hD 9 (by decide))
        have h10' : f 10 = f 9 := (hJ.2.2.2.2.1 (hD 10 (by decide))).2
        have hown7' : w7.ownsRow w3.heap.size 9 1 (f 9) 8 ((cols n (prs fs) 4 ++ [(⟨#[]⟩ : ByteArray), D1, D2]).map Value.string) := by rw [List.map_append]; exact hown7
        have hv : (([] : List (List UInt8)) = ((cols n (prs fs) 4 ++ [(⟨#[]⟩ : ByteArray), D1, D2]).map fun s : ByteArray => s.data.toList) ∧ False) ∨ ∃ b' cap', f 9 = .slice (some ⟨b', 0, none⟩) 8 cap' ∧ 8 ≤ cap' ∧ b' < w7.heap.size ∧ ∀ j, j < 8 → w7.cell? ⟨b', j, none⟩ = some (.string ⟨(((cols n (prs fs) 4 ++ [(⟨#[]⟩ : ByteArray), D1, D2]).map fun s : ByteArray => s.data.toList).getD j []).toArray⟩) := by
          right
          rcases hown7'.2 with ⟨h, h0⟩ | ⟨g, c, cur, h, hb, hh, hc, _⟩
          · cases h0
          · refine ⟨g, c, h, hc, (Array.getElem?_eq_some_iff.1 hh).1, fun j hj => ?_⟩
            have hcell := hown7'.cells (g := g) (by rw [h]; rfl)
            have hlen : (cols n (prs fs) 4 ++ [(⟨#[]⟩ : ByteArray), D1, D2]).length = 8 := by rw [List.length_append, cols_len]; rfl
            have := hcell j (.string ((cols n (prs fs) 4 ++ [(⟨#[]⟩ : ByteArray), D1, D2])[j]'(by omega))) (by rw [List.getElem?_map, List.getElem?_eq_getElem (by omega)]; rfl)
            rw [ow.add_at] at this
            rw [this]
            congr 2
            rw [List.getD_eq_getElem?_getD, List.getElem?_map, List.getElem?_eq_getElem (by omega)]
            cases (cols n (prs fs) 4 ++ [(⟨#[]⟩ : ByteArray), D1, D2])[j]'(by omega)
            simp
        rcases hv with ⟨_, hF⟩ | ⟨g, gc, h9, hgc, hgl, hgcell⟩
        · exact hF.elim
        have HVL : Hid (((cols n (prs fs) 4 ++ [(⟨#[]⟩ : ByteArray), D1, D2]).map fun s : ByteArray => s.data.toList).length = 8 ∧ bl.lens ((cols n (prs fs) 4 ++ [(⟨#[]⟩ : ByteArray), D1, D2]).map fun s : ByteArray => s.data.toList) ≤ 9000) := by
          refine ⟨by rw [List.length_map, List.length_append, cols_len]; rfl, ?_⟩
          have f0 := HFZ.out 0
          have f1 := HFZ.out 1
          have f2 := HFZ.out 2
          have f3 := HFZ.out 3
          have hdn : (Lib.decDigits n).length ≤ 10 := dx.dec_small (by omega)
          rw [Lib.size_eq] at f0 f1 f2 f3 hd1 hd2
          simp [cols, bl.lens] at f0 f1 f2 f3 hd1 hd2 hdn ⊢
          omega
        rw [h10', h9]
        clear hJ hD h10' h9 hown7 hown7'
        generalize f 0 = g_0
        generalize f 1 = g_1
        generalize f 2 = g_2
        generalize f 3 = g_3
        generalize f 4 = g_4
        generalize f 5 = g_5
        generalize f 6 = g_6
        generalize f 7 = g_7
        generalize f 8 = g_8
        clear f D
        generalize ((cols n (prs fs) 4 ++ [(⟨#[]⟩ : ByteArray), D1, D2]).map fun s : ByteArray => s.data.toList) = VL at HJN HVL hgcell
        have HJO : Hid (Calls Tryd.prog 33 #[.slice (some ⟨g, 0, none⟩) 8 gc, .string ⟨#[9]⟩] w7 fun e w' => e = .returned (.string ⟨(ovT n s.size (tens b) (prs fs)).toArray⟩) ∧ Below w7.heap.size w7 w') := (show Calls _ _ _ _ _ by
          have := bl.join_any (.slice (some ⟨g, 0, none⟩) 8 gc) VL 9 w7 (.inr ⟨g, gc, by rw [HVL.out.1], by rw [HVL.out.1]; exact hgc, hgl, fun j hj => hgcell j (by rw [HVL.out.1] at hj; exact hj)⟩) (by have := HVL.out; omega)
          rw [HJN.out] at this
          exact this)
        have HB7 : Hid (Below w.heap.size w w7) := HBW.out w7 hb7
        clear hgcell hb7
        go_wp2_with fail
        refine HJO.out.mono ?_
        rintro e w8 ⟨rfl, hb8⟩
        have HB8 : Hid (Below w.heap.size w w8) := HB7.out.trans (hb8.mono HB7.out.size)
        clear hb8
        go_wp2
        go_ret2
        exact ⟨.inr (.inr ⟨HU.out, fs, b, hs6, HMA.out, rfl⟩), HB8.out⟩
end Go.Proofs.YtglgaangkffbiaaDoor.ov
