/-
  A console's line, its words: plain facts.
-/
import Derived.Test.YtocmcbcijmjlhaaDoorSpl
import Derived.Test.YtocmcbcijmjlhaaDoorNuw
import Derived.Lib.TrimByte
namespace Go.Proofs.YtocmcbcijmjlhaaDoor.cn
open Go.RowKit
open sp
set_option linter.unusedVariables false

def isp (b : UInt8) : Bool := b == 32
def nsp (b : UInt8) : Bool := !isp b
/-- Without the blanks ahead; its first word; what stands behind that; the same without the blank. -/
def tl (l : List UInt8) : List UInt8 := l.dropWhile isp
def wd (l : List UInt8) : List UInt8 := (tl l).takeWhile nsp
def sk (l : List UInt8) : List UInt8 := (tl l).dropWhile nsp
def rs (l : List UInt8) : List UInt8 := (sk l).drop 1
def tr (l : List UInt8) : List UInt8 := (l.reverse.dropWhile isp).reverse
def tb (l : List UInt8) : List UInt8 := tl (tr l)
def ne (L : List (List UInt8)) : List (List UInt8) := L.filter fun u => !u.isEmpty
def wds (l : List UInt8) : List (List UInt8) := ne (cutS 32 [] l)
theorem tl_lib (l : List UInt8) : Lib.trimLeftB l 32 = tl l := rfl
theorem tb_lib (l : List UInt8) : Lib.trimB l 32 = tb l := rfl
theorem dw_head (p : UInt8 → Bool) : ∀ l : List UInt8, l.dropWhile p = [] ∨ ∃ b r, l.dropWhile p = b :: r ∧ p b = false
  | [] => .inl rfl
  | b :: l => by
    rw [List.dropWhile_cons]
    by_cases h : p b = true
    · rw [if_pos h]; exact dw_head p l
    · rw [if_neg h]; exact .inr ⟨b, l, rfl, by simpa using h⟩
theorem isp_eq {b : UInt8} (h : isp b = true) : b = 32 := by simpa [isp] using h
theorem isp_ne {b : UInt8} (h : isp b = false) : b ≠ 32 := by simpa [isp] using h
theorem nsp_of {b : UInt8} (h : b ≠ 32) : nsp b = true := by simp [nsp, isp, h]
theorem nsp_eq {b : UInt8} (h : nsp b = false) : b = 32 := by simpa [nsp, isp] using h
theorem nsp_ne {b : UInt8} (h : nsp b = true) : b ≠ 32 := by simpa [nsp, isp] using h
theorem tl_sp (l : List UInt8) : tl (32 :: l) = tl l := rfl
theorem tl_ns {b : UInt8} (l : List UInt8) (h : b ≠ 32) : tl (b :: l) = b :: l := by
  unfold tl
  rw [List.dropWhile_cons, if_neg (by simpa [isp] using h)]
theorem wd_ns (l : List UInt8) : ∀ b ∈ wd l, b ≠ 32 := fun b hb => nsp_ne (by simpa using List.all_takeWhile (p := nsp) (l := tl l) |> fun h => (List.all_eq_true.1 h) b hb)
theorem tl_split (l : List UInt8) : tl l = wd l ++ sk l := (List.takeWhile_append_dropWhile (p := nsp) (l := tl l)).symm
theorem sk_head (l : List UInt8) : sk l = [] ∨ sk l = 32 :: rs l := by
  rcases dw_head nsp (tl l) with h | ⟨b, r, h, hb⟩
  · exact .inl h
  · right
    have hs : sk l = b :: r := h
    unfold rs
    rw [hs, nsp_eq hb]
    rfl
theorem cut_wd {l u r : List UInt8} {B : Bool} (h : Cut1 32 (tl l) u r B) : u = wd l ∧ r = rs l := by
  rcases h with ⟨_, e, hu⟩ | ⟨_, e, hr, hu⟩
  · unfold wd rs sk
    rw [e, List.takeWhile_append_of_pos (fun b hb => nsp_of (hu b hb)), List.dropWhile_append_of_pos (fun b hb => nsp_of (hu b hb))]
    exact ⟨by simp [nsp, isp], by simp [nsp, isp]⟩
  · unfold wd rs sk
    subst hr
    rw [e]
    have h1 : u.takeWhile nsp = u := by
      have := List.takeWhile_append_of_pos (l₁ := u) (l₂ := []) (p := nsp) (fun b hb => nsp_of (hu b hb))
      simpa using this
    have h2 : u.dropWhile nsp = [] := by
      have := List.dropWhile_append_of_pos (l₁ := u) (l₂ := []) (p := nsp) (fun b hb => nsp_of (hu b hb))
      simpa using this
    rw [h1, h2]
    exact ⟨rfl, rfl⟩
theorem ne_cons_nil (L : List (List UInt8)) : ne ([] :: L) = ne L := rfl
theorem ne_cons {u : List UInt8} (L : List (List UInt8)) (h : u ≠ []) : ne (u :: L) = u :: ne L := by
  unfold ne
  rw [List.filter_cons, if_pos (by cases u <;> simp_all)]
theorem wds_sp (l : List UInt8) : wds (32 :: l) = wds l := by
  unfold wds
  rw [cutS, if_pos rfl, ne_cons_nil]
theorem wds_tl : ∀ l : List UInt8, wds l = wds (tl l)
  | [] => rfl
  | b :: l => by
    by_cases h : b = 32
    · subst h
      rw [wds_sp, tl_sp]
      exact wds_tl l
    · rw [tl_ns l h]
theorem wds_eq (l : List UInt8) : wds l = if wd l = [] then [] else wd l :: wds (rs l) := by
  rw [wds_tl]
  have hs := tl_split l
  by_cases h : wd l = []
  · rw [if_pos h]
    rcases dw_head isp l with e | ⟨b, r, e, hb⟩
    · have : tl l = [] := e
      rw [this]; rfl
    · exfalso
      have e' : tl l = b :: r := e
      unfold wd at h
      rw [e', List.takeWhile_cons, if_pos (nsp_of (isp_ne hb))] at h
      cases h
  · rw [if_neg h]
    rcases sk_head l with e | e
    · rw [e, List.append_nil] at hs
      have er : rs l = [] := by unfold rs; rw [e]; rfl
      rw [hs, er]
      show ne (cutS 32 [] (wd l)) = wd l :: ne (cutS 32 [] [])
      rw [cutS_none 32 (wd l) [] (wd_ns l), List.nil_append, ne_cons _ h]
      rfl
    · rw [e] at hs
      rw [hs]
      show ne (cutS 32 [] (wd l ++ 32 :: rs l)) = _
      rw [cutS_at 32 (wd l) [] (rs l) (wd_ns l), List.nil_append, ne_cons _ h]
      rfl
theorem tl_sk (l : List UInt8) : tl (sk l) = tl (rs l) := by
  rcases sk_head l with e | e
  · have er : rs l = [] := by unfold rs; rw [e]; rfl
    rw [e, er]
  · rw [e, tl_sp]
theorem sk_sk (l : List UInt8) : sk (sk l) = sk (rs l) := by
  show (tl (sk l)).dropWhile nsp = _
  rw [tl_sk]
  rfl
theorem tr_cons (b : UInt8) (l : List UInt8) : tr (b :: l) = if tr l = [] ∧ isp b = true then [] else b :: tr l := by
  unfold tr
  rw [List.reverse_cons, List.dropWhile_append]
  by_cases h : (l.reverse.dropWhile isp).isEmpty = true
  · have h' : l.reverse.dropWhile isp = [] := List.isEmpty_iff.1 h
    rw [if_pos h, h']
    by_cases hb : isp b = true
    · rw [if_pos ⟨rfl, hb⟩, List.dropWhile_cons, if_pos hb]
      rfl
    · rw [if_neg (fun y => hb y.2), List.dropWhile_cons, if_neg hb]
      rfl
  · have h' : (l.reverse.dropWhile isp).reverse ≠ [] := fun y => h (by rw [List.isEmpty_iff]; simpa using y)
    rw [if_neg h, if_neg (fun y => h' y.1), List.reverse_append]
    rfl
theorem tl_tr : ∀ l : List UInt8, tl (tr l) = tr (tl l)
  | [] => rfl
  | b :: l => by
    rw [tr_cons]
    by_cases hb : isp b = true
    · have := isp_eq hb
      subst this
      rw [tl_sp, ← tl_tr l]
      by_cases h : tr l = []
      · rw [if_pos ⟨h, hb⟩, h]
      · rw [if_neg (fun y => h y.1), tl_sp]
    · rw [if_neg (fun y => hb y.2), tl_ns _ (isp_ne (by simpa using hb)), tl_ns _ (isp_ne (by simpa using hb)), tr_cons, if_neg (fun y => hb y.2)]
theorem tb_sk (l : List UInt8) : tb (sk l) = tb (rs l) := by
  unfold tb
  rw [tl_tr, tl_tr, tl_sk]
/-- What the specification says of what stands behind two words. -/
theorem rest_two (l : List UInt8) : tr (tl (sk (sk l))) = tb (rs (rs l)) := by
  rw [sk_sk, ← tl_tr]
  exact tb_sk (rs l)
theorem wd_nil (l : List UInt8) : wd l = [] ↔ tl l = [] := by
  constructor
  · intro h
    rcases dw_head isp l with e | ⟨b, r, e, hb⟩
    · exact e
    · exfalso
      have e' : tl l = b :: r := e
      unfold wd at h
      rw [e', List.takeWhile_cons, if_pos (nsp_of (isp_ne hb))] at h
      cases h
  · intro h
    unfold wd
    rw [h]
    rfl
theorem tb_nil (l : List UInt8) : tb l = [] ↔ wd l = [] := by
  rw [wd_nil]
  unfold tb
  rw [tl_tr]
  constructor
  · intro h
    rcases dw_head isp l with e | ⟨b, r, e, hb⟩
    · exact e
    · exfalso
      have e' : tl l = b :: r := e
      rw [e', tr_cons, if_neg (fun y => by rw [hb] at y; exact absurd y.2 (by decide))] at h
      cases h
  · intro h
    rw [h]
    rfl
/-- An event: its Kind, Conn, Box and Data. -/
abbrev Ev := Int × Int × List UInt8 × List UInt8
def kMake : List UInt8 := [109, 97, 107, 101]
def kPoll : List UInt8 := [112, 111, 108, 108]
def kImap : List UInt8 := [105, 109, 97, 112]
def kNntp : List UInt8 := [110, 110, 116, 112]
def kClose : List UInt8 := [99, 108, 111, 115, 101]
def kSay : List UInt8 := [115, 97, 121]
def kCrash : List UInt8 := [99, 114, 97, 115, 104]
/-- An event that wants a number alone. -/
def evConn (k : Int) (r : List UInt8) : Option Ev := if wd r = [] then none else match nu.numO (wd r) with | none => none | some n => if tb (rs r) = [] then some (k, n, [], []) else none
/-- The event that a line says. -/
def evOf (l : List UInt8) : Option Ev :=
  if wd l = [] then none
  else if wd l = kMake then (if wd (rs l) = [] then none else if tb (rs (rs l)) = [] then some (6, 0, wd (rs l), []) else none)
  else if wd l = kPoll then (if wd (rs l) = [] then none else if tb (rs (rs l)) = [] then none else some (5, 0, wd (rs l), tb (rs (rs l))))
  else if wd l = kImap then evConn 1 (rs l)
  else if wd l = kNntp then evConn 2 (rs l)
  else if wd l = kClose then evConn 4 (rs l)
  else if wd l = kSay then (if wd (rs l) = [] then none else match nu.numO (wd (rs l)) with | none => none | some n => some (3, n, [], tb (rs (rs l)) ++ [13, 10]))
  else if wd l = kCrash then (if tb (rs l) = [] then some (7, 0, [], []) else none)
  else none
end Go.Proofs.YtocmcbcijmjlhaaDoor.cn
