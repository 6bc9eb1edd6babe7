/-
  The contract of the program's fieldsOf: the fields of a header.
-/
import Derived.Test.YtejmfffapkmjoaaDoorPaa
import Derived.Test.YtejmfffapkmjoaaDoorUfi
import Derived.Test.YtejmfffapkmjoaaDoorOwn
import Derived.Laws.AppendOwn
namespace Go.Proofs.YtejmfffapkmjoaaDoor.ml
open Go.RowKit
set_option linter.unusedVariables false

theorem infoField : (Tryd.prog.info? 89).map (fun i => (i.zero, i.size, i.bytes)) = some (some (.agg #[.string ⟨#[]⟩, .string ⟨#[]⟩]), 2, 32) := by kernel_rfl
/-- A field of a name and a value. -/
def F : B → B → B → Prop := uf.Field hn.IsName
theorem F_one : One F := fun l a b a' b' h h' => uf.field_one h h'
/-- A text as a value, the cells of fields. -/
def tv (l : B) : Value := .string ⟨l.toArray⟩
def fcells : List (B × B) → List Value
  | [] => []
  | x :: fs => tv x.1 :: tv x.2 :: fcells fs
theorem fcells_snoc (fs : List (B × B)) (x : B × B) : fcells (fs ++ [x]) = fcells fs ++ [tv x.1, tv x.2] := by
  induction fs with
  | nil => rfl
  | cons y fs ih => simp [fcells, ih]
theorem fcells_len (fs : List (B × B)) : (fcells fs).length = fs.length * 2 := by
  induction fs with
  | nil => rfl
  | cons y fs ih => simp [fcells, ih]; omega
/-- Fields in memory that the call made. -/
def FieldsAt (w : World) (base : Nat) (v : Value) (fs : List (B × B)) : Prop := w.ownsRow base 89 2 v fs.length (fcells fs)
theorem fields_form {w : World} {base : Nat} {v : Value} {fs : List (B × B)} (h : FieldsAt w base v fs) : ∃ a cap, v = .slice a fs.length cap := by
  rcases h.2 with ⟨rfl, h0⟩ | ⟨g, cap, cur, rfl, _⟩
  · exact ⟨none, 0, by rw [h0]⟩
  · exact ⟨_, cap, rfl⟩
theorem fields_nil (w : World) (base : Nat) : FieldsAt w base (.slice none 0 0) [] := World.ownsRow_nil _ _ _ _

def FoRet (l : B) (base : Nat) (e : Ending) (w' : World) : Prop :=
  (∃ fs v, e = .returned (.tuple #[v, .bool true]) ∧ RunE F fs l [] ∧ fs.length ≤ 40 ∧ FieldsAt w' base v fs) ∨
  (e = .returned (.tuple #[.slice none 0 0, .bool false]) ∧ ∃ fs r f q, RunE F fs l r ∧ Chunk r f q ∧ (fs.length = 40 ∨ ¬ ∃ a v, F f a v))

set_option maxHeartbeats 4000000 in
set_option maxRecDepth 100000 in
theorem fieldsOf_any (s : ByteArray) (w : World) (m : Int) (hm : w.cell? ⟨1, 0, none⟩ = some (.int .i64 m)) (hs : s.size ≤ 65536) (hE : Ends s.data.toList) :
    Calls Tryd.prog 58 #[.string s] w fun e w' => FoRet s.data.toList w.heap.size e w' ∧ Below w.heap.size w w' := by
  obtain ⟨i0, hi, hz0, hz1, hz2⟩ := info_parts infoField
  have hgl := World.block_lt_of_cell? _ _ hm
  have HM : Hid (∀ W, Below w.heap.size w W → W.cell? ⟨1, 0, none⟩ = some (.int .i64 m)) := fun W hW => (hW.cell (p := ⟨1, 0, none⟩) hgl).trans hm
  have HE : Hid (Ends s.data.toList) := hE
  clear hm hgl hE
  go_enter Tryd.func58, Tryd.ntmps58
  go_wp2
  go_loopw [0, 4] (fun t v wr => ∃ (r : ByteArray) (fs : List (B × B)), t = .string r ∧ r.size ≤ 65536 ∧ Ends r.data.toList ∧ RunE F fs s.data.toList r.data.toList ∧ fs.length ≤ 40 ∧ FieldsAt wr w.heap.size v fs ∧ Below w.heap.size w wr) (fun t _ _ => (match t with | .string r => r.size | _ => 0))
  case atStart => exact ⟨s, [], rfl, hs, HE.out, rfl, by simp, fields_nil _ _, Below.refl _ _⟩
  case round =>
    obtain ⟨r, fs, rfl, hrl, hEr, hrun, hfl, hfa, hbw⟩ := hrel
    have HRUN : Hid (RunE F fs s.data.toList r.data.toList) := hrun
    have HBW : Hid (Below w.heap.size w wr) := hbw
    have hBs := hbw.size
    obtain ⟨a, cap, rfl⟩ := fields_form hfa
    have HFA : Hid (FieldsAt wr w.heap.size (.slice a fs.length cap) fs) := hfa
    clear hrun hfa
    by_cases h0 : r.data.toList = []
    · have hr0 : r = ⟨#[]⟩ := by rw [mk_list r, h0]
      subst hr0
      go_wp2
      go_ret2
      exact ⟨.inl ⟨fs, _, rfl, HRUN.out, hfl, HFA.out⟩, HBW.out⟩
    have he : r.toList.isEmpty = false := by rw [Lib.toList_data]; exact isEmpty_no h0
    have HFS : Hid (Calls Tryd.prog 74 #[.string r] wr fun e w' => (∃ p : Nat, e = .returned (.int .i64 p) ∧ Seek r.data.toList p ∧ (r.data.toList.drop p).head? ≠ some 32) ∧ ∃ n, w' = wr.drewN n) := (show Calls _ _ _ _ _ from fieldSize_any r wr m (HM.out _ hbw) hrl hEr h0)
    have HEr : Hid (Ends r.data.toList) := hEr
    clear hbw hEr h0
    go_wp2_with fail
    refine HFS.out.mono ?_
    rintro e w1 ⟨⟨p, rfl, hsk, hnb⟩, n1, hw1⟩
    have hple := seek_le hsk
    rw [← Lib.size_eq] at hple
    have hch := seek_end hsk hnb
    have hpz : 2 ≤ p := by obtain ⟨j, hj, _⟩ := hsk; omega
    have hE2 := seek_ends hsk HEr.out
    have HB1 : Hid (Below w.heap.size w w1) := (show Below _ _ _ by rw [hw1]; exact uf.bdrew HBW.out n1)
    have HF1 : Hid (FieldsAt w1 w.heap.size (.slice a fs.length cap) fs) := (show FieldsAt _ _ _ _ by rw [hw1]; exact ow.own_below HFA.out (uf.bdrew (Below.refl _ _) n1))
    have hBs1 : w.heap.size ≤ w1.heap.size := HB1.out.size
    have hp1 : (0 : Int) ≤ (p : Int) := by omega
    have hp2 : (p : Int) ≤ (r.size : Int) := by omega
    have HUN := uf.implUh_any (r.extract 0 p) w1 m (HM.out _ HB1.out) (by rw [ext_size _ _ _ hple]; omega)
    have HCH : Hid (Chunk r.data.toList (r.data.toList.take p) (r.data.toList.drop p)) := hch
    have HE2 : Hid (Ends (r.data.toList.drop p)) := hE2
    clear hw1 hsk hnb hch hE2 HFS HFA HBW
    go_wp2_with fail
    refine HUN.mono ?_
    rintro e w2 ⟨hur, hb2⟩
    have HB2 : Hid (Below w.heap.size w w2) := HB1.out.trans (hb2.mono hBs1)
    have HF2 : Hid (FieldsAt w2 w.heap.size (.slice a fs.length cap) fs) := ow.own_below HF1.out hb2
    have hBs2 : w.heap.size ≤ w2.heap.size := HB2.out.size
    clear hb2 HUN HB1 HF1
    rcases hur with ⟨hbig, _⟩ | ⟨_, hno, rfl⟩ | ⟨_, nm, v, hf, rfl⟩
    · rw [ext_size _ _ _ hple] at hbig
      omega
    · have HN : Hid (¬ ∃ a v, F (r.data.toList.take p) a v) := (show ¬ _ by rw [ext_front] at hno; exact hno)
      clear hno
      go_wp2
      go_ret2
      exact ⟨.inr ⟨rfl, fs, _, _, _, HRUN.out, HCH.out, .inr HN.out⟩, HB2.out⟩
    · have HFF : Hid (F (r.data.toList.take p) nm v) := (show F _ _ _ by rw [ext_front] at hf; exact hf)
      clear hf
      by_cases h40 : fs.length = 40
      · have d40 : ((fs.length : Int) == 40) = true := beq_iff_eq.2 (by omega)
        have H40 : Hid (fs.length = 40) := h40
        clear h40
        go_wp2
        go_ret2
        exact ⟨.inr ⟨rfl, fs, _, _, _, HRUN.out, HCH.out, .inl H40.out⟩, HB2.out⟩
      · have d40 : ((fs.length : Int) == 40) = false := beq_eq_false_iff_ne.2 (by omega)
        have hown := HF2.out
        unfold FieldsAt at hown
        generalize hnb' : (⟨nm.toArray⟩ : ByteArray) = NM
        generalize hvb' : (⟨v.toArray⟩ : ByteArray) = VV
        have HNM : Hid (tv nm = .string NM ∧ tv v = .string VV) := (show _ ∧ _ by rw [← hnb', ← hvb']; exact ⟨rfl, rfl⟩)
        clear hnb' hvb'
        go_wp2_with (at_builtin; go_loud (refine wpList_append_own _ rfl _ _ 60 rfl w.heap.size 89 i0 _ 2 32 Tryd.underlying60 hi hz0 hz1 hz2 rfl (by decide) _ _ _ rfl (hown.alloc _) ⟨w2.heap.size, 0, none⟩ 1 1 [Value.string NM, Value.string VV] rfl rfl (by have hh := ow.cells_new w2 [Value.string NM, Value.string VV] 89; simpa using hh) (by simp [Value.oneCell']) (by unfold maxLen; omega) (by omega) (by simp; omega) ?_); intro v' w6 hown' hgrow _)
        have hb6 : Below w.heap.size w w6 := Below.grown (HB2.out.alloc hBs2 _) hgrow (by simp; omega) (ow.own_lt hown)
        have HB6 : Hid (Below w.heap.size w w6) := hb6
        have HF6 : Hid (FieldsAt w6 w.heap.size v' (fs ++ [(nm, v)])) := (show FieldsAt _ _ _ _ by
          unfold FieldsAt
          rw [fcells_snoc, List.length_append, HNM.out.1, HNM.out.2]
          exact hown')
        clear hown' hgrow hb6 hown
        go_wp2
        go_roundw
        case rel =>
          refine ⟨r.extract p r.size, fs ++ [(nm, v)], rfl, by rw [ext_size _ _ _ (Nat.le_refl _)]; omega, by rw [ext_tail]; exact HE2.out, ?_, by simp; omega, HF6.out, HB6.out⟩
          rw [ext_tail]
          exact runE_snoc HRUN.out HCH.out HFF.out
        case measure => simp [ext_size r p r.size (Nat.le_refl _)]; omega
end Go.Proofs.YtejmfffapkmjoaaDoor.ml
