/-
  Contracts of the specification's reading of base 64.
-/
import Derived.Test.YtpbmofofigkpjaaDoorBgr
import Derived.Test.YtpbmofofigkpjaaDoorSen
import Derived.Test.YtpbmofofigkpjaaDoorBld
import Derived.Test.YtpbmofofigkpjaaDoorOwm
namespace Go.Proofs.YtpbmofofigkpjaaDoor.b6
open Go.RowKit
set_option linter.unusedVariables false

theorem letter_all : ∀ n : Fin 256, (∀ j : Fin 64, L j.val ≠ UInt8.ofNat n.val) → V (UInt8.ofNat n.val) = -1 := by decide +kernel
theorem letter_none (c : UInt8) (h : ∀ j, j < 64 → L j ≠ c) : V c = -1 :=
  byte_all (p := fun c => (∀ j : Fin 64, L j.val ≠ c) → V c = -1) letter_all c (fun j => h j.val j.isLt)

theorem gst_iff {p q : Prop} [Decidable p] [Decidable q] (h : p ↔ q) (ch : Nat → UInt8) : ∀ m, gst p ch m = gst q ch m := by
  intro m
  induction m with
  | zero => rfl
  | succ m ih => rw [gst_succ, gst_succ, ih]; simp only [h]
theorem dec_short : ∀ (n : Nat) (t : List UInt8), t.length ≤ n → t.length % 4 ≠ 0 → dec t = none := by
  intro n
  induction n with
  | zero => intro t h h4; exact absurd (by omega) h4
  | succ n ih =>
    intro t h h4
    match t, h, h4 with
    | [], _, h4 => exact absurd rfl h4
    | [_], _, _ => rfl
    | [_, _], _, _ => rfl
    | [_, _, _], _, _ => rfl
    | a :: b :: c :: d :: r, h, h4 =>
      have hr : r.length % 4 ≠ 0 := by simp at h4; omega
      have hn : r ≠ [] := by intro e; rw [e] at hr; exact hr rfl
      simp only [dec]
      rw [ih r (by simp at h; omega) hr]
      repeat' split
      all_goals first
        | rfl
        | (rename_i hh; exact absurd hh.1 hn)
        | simp_all
/-- What a reading answers: the bytes and whether there are such. -/
def ReadRet (base : Nat) (o : Option (List UInt8)) (e : Ending) (w' : World) : Prop :=
  ∃ v, e = .returned (.tuple #[v, .bool o.isSome]) ∧ w'.ownsRow base 5 1 v (o.getD []).length (Lib.byteCells (o.getD []))
theorem ret_none {base : Nat} {o : Option (List UInt8)} {w : World} (h : o = none) (hb : base ≤ w.heap.size) : ReadRet base o (.returned (.tuple #[.slice (some ⟨w.heap.size, 0, none⟩) 0 0, .bool false])) (w.alloc (.cells #[] 5)) := by
  subst h
  exact ⟨_, rfl, ow.own_base (ow.own_empty _ _) hb⟩
theorem drop4 {t : List UInt8} {k : Nat} (h : k + 4 ≤ t.length) : t.drop k = t.getD k 0 :: t.getD (k + 1) 0 :: t.getD (k + 2) 0 :: t.getD (k + 3) 0 :: t.drop (k + 4) := by
  rw [drop_cons (l := t) (k := k) (by omega), drop_cons (l := t) (k := k + 1) (by omega), drop_cons (l := t) (k := k + 1 + 1) (by omega), drop_cons (l := t) (k := k + 1 + 1 + 1) (by omega)]
/-- The group at k, in the words of its number and signs. -/
theorem dec_at {t : List UInt8} {k n : Nat} (hn : n = t.length) (h : k + 4 ≤ n) : dec (t.drop k) = (gst (k + 4 = n) (fun m => t.getD (k + m) 0) 4).bind fun p => grp p.1 p.2 (t.drop (k + 4)) := by
  have := dec_gst (t.getD k 0) (t.getD (k + 1) 0) (t.getD (k + 2) 0) (t.getD (k + 3) 0) (t.drop (k + 4)) (fun m => t.getD (k + m) 0) rfl rfl rfl rfl
  rw [drop4 (by omega), this]
  rw [gst_iff (p := t.drop (k + 4) = []) (q := k + 4 = n)]
  rw [List.drop_eq_nil_iff]
  omega

theorem gst_none4 {last : Prop} [Decidable last] {ch : Nat → UInt8} {m : Nat} (hm : m < 4) (h : gst last ch (m + 1) = none) : gst last ch 4 = none := by
  have := gst_none h (3 - m)
  rwa [show m + 1 + (3 - m) = 4 from by omega] at this
theorem start_map (t : List UInt8) : (dec (t.drop 0)).map ([] ++ ·) = dec t := by simp
theorem str_at (s : ByteArray) (z : Int) (j : Nat) (hz : z = j) (hj : j < s.size) (wx : World) : (Instr.index 9 (.string s) (.int .i64 z)).run Tryd.prog wx = .ok (.int .u8 ((s.data.toList.getD j 0).toNat : Int)) wx := by
  subst hz
  have hb : s[(j : Int).toNat]'(by simpa using hj) = s[j]'hj := by simp
  have hc : s.data.toList.getD j 0 = s[j]'hj := by
    rw [List.getD_eq_getElem?_getD, Array.getElem?_toList, Array.getElem?_eq_getElem (show j < s.data.size from hj)]
    rfl
  rw [run_index_string wx 9 s .i64 (j : Int) Tryd.underlying9, dif_pos ⟨by omega, by omega⟩, hb, hc]
theorem more {q out : List UInt8} {t : List UInt8} {k : Nat} {o : Option (List UInt8)} (h : (dec (t.drop k)).map (q ++ ·) = o) (e : dec (t.drop k) = (dec (t.drop (k + 4))).map (out ++ ·)) : (dec (t.drop (k + 4))).map ((q ++ out) ++ ·) = o := by
  rw [← h, e, Option.map_map]
  congr 1
  funext x
  simp [List.append_assoc]
theorem fall {q : List UInt8} {t : List UInt8} {k : Nat} (h : (dec (t.drop k)).map (q ++ ·) = dec t) (e : dec (t.drop k) = none) : dec t = none := by
  rw [← h, e]
  rfl

/-- The bytes and the code that are answered to a text. -/
def rl (s : ByteArray) : List UInt8 := if s.size ≤ 65536 then (dec s.data.toList).getD [] else []
def rc (s : ByteArray) : Int := if s.size ≤ 65536 then (if (dec s.data.toList).isSome then 0 else 3) else 2
/-- What both readings answer. -/
def Got (s : ByteArray) (base : Nat) (e : Ending) (w' : World) : Prop :=
  ∃ v, e = .returned (.tuple #[v, .int .i64 (rc s)]) ∧ w'.ownsRow base 5 1 v (rl s).length (Lib.byteCells (rl s))

end Go.Proofs.YtpbmofofigkpjaaDoor.b6
