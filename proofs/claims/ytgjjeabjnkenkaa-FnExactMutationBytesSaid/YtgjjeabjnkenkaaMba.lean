/-
  Plain facts on a mutation's bytes.
-/
import Derived.Test.YtgjjeabjnkenkaaRap
import Derived.Test.YtgjjeabjnkenkaaMub
import Derived.Test.YtgjjeabjnkenkaaLgg
namespace Go.Proofs.Ytgjjeabjnkenkaa.mb
open Go.RowKit
open it mu
open lg (be be_len)
set_option linter.unusedVariables false

/-- A number's byte. -/
def u8 (z : Int) : UInt8 := UInt8.ofNat z.toNat
theorem wrap8 {z : Int} (h0 : 0 ≤ z) (h1 : z < 256) : IntKind.u8.wrap z = ((u8 z).toNat : Int) := by
  have e : (u8 z).toNat = z.toNat := by
    unfold u8
    rw [UInt8.toNat_ofNat']
    omega
  rw [e]
  have h256 : (2 : Int) ^ IntKind.u8.bits = 256 := rfl
  unfold IntKind.wrap
  simp only [h256, show IntKind.u8.signed = false from rfl, Bool.false_and, Bool.false_eq_true, if_false]
  omega
def hdB (x : Mu) : List UInt8 := [u8 x.k, u8 x.m, u8 x.f, u8 (x.ps.length : Int), u8 (x.b.size : Int)]
def itB (p : Pr) : List UInt8 := be 2 p.1.size ++ be 2 p.2.size ++ p.1.data.toList ++ p.2.data.toList
def itsB (ps : List Pr) (k : Nat) : List UInt8 := (ps.take k).flatMap itB
theorem itsB_step {ps : List Pr} {k : Nat} (h : k < ps.length) : itsB ps (k + 1) = itsB ps k ++ itB (ps.getD k no) := by
  unfold itsB
  rw [List.take_succ_eq_append_getElem h, List.flatMap_append]
  simp [List.getD_eq_getElem?_getD, h]
/-- A mutation's bytes. -/
def mB (x : Mu) : List UInt8 := hdB x ++ be 2 x.u.toNat ++ x.b.data.toList ++ itsB x.ps x.ps.length
theorem size_list (b : ByteArray) : b.data.toList.length = b.size := rfl
theorem itB_len (p : Pr) : (itB p).length = 4 + p.1.size + p.2.size := by
  simp [itB, be_len]
  omega
/-- What a right mutation's parts are. -/
structure Fits (x : Mu) : Prop where
  k : 0 ≤ x.k ∧ x.k < 256
  u : 0 ≤ x.u ∧ x.u < 65536
  m : 0 ≤ x.m ∧ x.m < 256
  f : 0 ≤ x.f ∧ x.f < 256
  b : x.b.size ≤ 40
  n : x.ps.length ≤ 20
  i : ∀ j, j < x.ps.length → (x.ps.getD j no).1.size ≤ 200 ∧ (x.ps.getD j no).2.size ≤ 4000
theorem fits_of {x : Mu} (h : mok x = true) : Fits x := by
  unfold mok at h
  rw [Bool.and_eq_true, Bool.and_eq_true] at h
  obtain ⟨⟨h1, h2⟩, h3⟩ := h
  have hn : nm.IsName x.b := by
    unfold nmB at h1
    exact ow.dof h1
  have hi := its_of h2
  have hk := of_decide_eq_true h3
  refine ⟨by omega, by omega, by omega, by omega, hn.2.1, hi.1, fun j hj => ?_⟩
  have := of_decide_eq_true (hi.2 j hj)
  exact ⟨this.1.2, this.2⟩
theorem itsB_len {x : Mu} (h : Fits x) : ∀ k, k ≤ x.ps.length → (itsB x.ps k).length ≤ k * 4204
  | 0, _ => by simp [itsB]
  | k + 1, hk => by
    have h1 := itsB_len h k (by omega)
    have h2 := h.i k (by omega)
    rw [itsB_step (by omega), List.length_append, itB_len]
    omega
theorem mB_len {x : Mu} (h : Fits x) : (mB x).length ≤ 100000 := by
  have h1 := itsB_len h x.ps.length (Nat.le_refl _)
  have h2 := h.n
  have h3 := h.b
  simp only [mB, List.length_append, be_len, size_list, hdB, List.length_cons, List.length_nil]
  omega
theorem bz_cells (n N : Nat) : (lg.bz n N).map (Value.int .u8) = Lib.byteCells (be n N) := by
  simp [lg.bz, Lib.byteCells]
theorem cells_str (b : ByteArray) : Lib.strCells b = Lib.byteCells b.data.toList := rfl
/-- A variable of two texts. -/
def IVar (x : World) (G : Nat) (a b : ByteArray) : Prop := x.heap[G]? = some (.cells #[.string a, .string b] 75 (0, 0))
section
variable {x x' : World} {G : Nat} {a b : ByteArray}
theorem IVar.c0 (h : IVar x G a b) : x.cell? ⟨G, 0, none⟩ = some (.string a) := by rw [cell_of_row _ _ 0 _ _ _ h]; rfl
theorem IVar.c1 (h : IVar x G a b) : x.cell? ⟨G, 0 + 1, none⟩ = some (.string b) := by rw [cell_of_row _ _ _ _ _ _ h]; rfl
theorem IVar.lt (h : IVar x G a b) : G < x.heap.size := (Array.getElem?_eq_some_iff.1 h).1
theorem IVar.below (h : IVar x G a b) (hb : Below x.heap.size x x') : IVar x' G a b := (hb.block G h.lt).trans h
theorem IVar.row {B : Nat} {v : Value} {l : List UInt8} (h : IVar x G a b) (ho : ra.Own x B v l) (hg : x.grownBy x' v.ownBlock) : IVar x' G a b := by
  refine (hg.block G h.lt (fun e => ?_)).trans h
  rcases ho.2 with ⟨rfl, _⟩ | ⟨g, cap, cur, rfl, _, hb, _⟩
  · simp [Value.ownBlock] at e
  · have e : G = g := by simpa [Value.ownBlock] using e
    subst e
    unfold IVar at h
    rw [h] at hb
    simp at hb
end
/-- What lies below stays. -/
def K0 (w1 : World) (x : World) : Prop := Below w1.heap.size w1 x
theorem K0.below {w1 x x' : World} (h : K0 w1 x) (hb : Below x.heap.size x x') : K0 w1 x' := Below.trans h (hb.mono (Below.size h))
theorem K0.row {w1 x x' : World} {v : Value} {l : List UInt8} (h : K0 w1 x) (ho : ra.Own x w1.heap.size v l) (hg : x.grownBy x' v.ownBlock) : K0 w1 x' := Below.grown h hg (Below.size h) (fun k hk => (ho.lt k hk).1)
theorem own_five (x : World) (B : Nat) (c0 c1 c2 c3 c4 : UInt8) (hB : B ≤ x.heap.size) : ra.Own (x.alloc (.cells #[.int .u8 (c0.toNat : Int), .int .u8 (c1.toNat : Int), .int .u8 (c2.toNat : Int), .int .u8 (c3.toNat : Int), .int .u8 (c4.toNat : Int)] 5)) B (.slice (some ⟨x.heap.size, 0, none⟩) 5 5) [c0, c1, c2, c3, c4] :=
  ⟨by simp [Lib.byteCells], .inr ⟨x.heap.size, 5, _, rfl, hB, (MapKept.heap_alloc x _).1, Nat.le_refl _, by unfold maxLen; omega, rfl, rfl⟩⟩
end Go.Proofs.Ytgjjeabjnkenkaa.mb
