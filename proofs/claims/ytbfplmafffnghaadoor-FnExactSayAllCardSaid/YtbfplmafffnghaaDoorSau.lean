/-
  What the law of SayAll walks over: rows of texts that stand beside each other.
-/
import Derived.Test.YtbfplmafffnghaaDoorSay
import Derived.Test.YtbfplmafffnghaaDoorBow
import Derived.Test.YtbfplmafffnghaaDoorMkx
import Derived.Test.YtbfplmafffnghaaDoorMrl
import Derived.Test.YtbfplmafffnghaaDoorLaj
namespace Go.Proofs.YtbfplmafffnghaaDoor.nu
open Go.RowKit
/-- The two sentinels that strconv's faults hold. -/
abbrev Sents (w : World) : Prop := cn.Sents w
end Go.Proofs.YtbfplmafffnghaaDoor.nu
namespace Go.Proofs.YtbfplmafffnghaaDoor.sw
open Go.RowKit
open ky (TextsAt OwnT nt)
open tx (TextsIn)
set_option linter.unusedVariables false

theorem own_in {w : World} {base : Nat} {v : Value} {ks : List ByteArray} (h : OwnT w base v ks) : TextsIn w w.heap.size v ks := by
  obtain ⟨a, cap, rfl, hh⟩ := ky.own_texts h
  refine ⟨a, cap, rfl, ?_⟩
  rcases hh with hh | ⟨b, off, rfl, hc⟩
  · exact .inl hh
  · by_cases h0 : ks = []
    · exact .inl h0
    · have h1 := World.block_lt_of_cell? w _ (hc 0 (List.length_pos_iff.2 h0))
      exact .inr ⟨b, off, rfl, h1, hc⟩
theorem own_slice {w : World} {base : Nat} {v : Value} {ks : List ByteArray} (h : OwnT w base v ks) : ∃ a cc, v = .slice a ks.length cc := by
  obtain ⟨a, cap, e, _⟩ := ky.own_texts h
  exact ⟨a, cap, e⟩
theorem own_grown {w w' : World} {base e size n X : Nat} {v : Value} {xs : List Value} (h : w.ownsRow base e size v n xs) (hg : w.grownBy w' (some X)) (hX : X < base) : w'.ownsRow base e size v n xs := by
  obtain ⟨h1, h2⟩ := h
  refine ⟨h1, ?_⟩
  rcases h2 with h2 | ⟨g, cap, cur, a, b, c, d⟩
  · exact .inl h2
  · have hlt : g < w.heap.size := (Array.getElem?_eq_some_iff.1 c).1
    exact .inr ⟨g, cap, cur, a, b, (hg.block g hlt (fun e => by have := Option.some.inj e; omega)).trans c, d⟩
theorem own_some {w : World} {base e size n g cap : Nat} {xs : List Value} (h : w.ownsRow base e size (.slice (some ⟨g, 0, none⟩) n cap) n xs) : g < w.heap.size := by
  rcases h.2 with ⟨h2, _⟩ | ⟨g', cap', cur, a, b, c, d⟩
  · cases h2
  · cases a
    exact (Array.getElem?_eq_some_iff.1 c).1
theorem out_len {ks : List ByteArray} {kind : Int} {out : List ByteArray} {c : Int} (h : SayIs ks kind out c) : out.length ≤ 4096 := by
  rcases h with ⟨_, rfl, _⟩ | ⟨_, _, rfl, _⟩ | ⟨h1, _, ⟨_, _, rfl⟩ | ⟨rfl, _⟩⟩
  · simp
  · simp
  · simpa using h1
  · simp
/-- What the law holds: the given rows' texts below N, the specification's answer below X, where its copy of the argument stands, and the program's answer above it. -/
structure St (w : World) (X G : Nat) (vv gv : Value) (out gs : List ByteArray) : Prop where
  vt : TextsIn w X vv out
  go : OwnT w G gv gs
  hX : X < G
  hG : G ≤ w.heap.size
theorem St.below {w w' : World} {X G : Nat} {vv gv : Value} {out gs : List ByteArray} (h : St w X G vv gv out gs) (hb : Below w.heap.size w w') : St w' X G vv gv out gs :=
  ⟨tx.texts_below h.vt hb (Nat.le_trans (Nat.le_of_lt h.hX) h.hG), ow.own_below h.go hb, h.hX, Nat.le_trans h.hG hb.size⟩
theorem St.mark {w w' : World} {X G : Nat} {vv gv : Value} {out gs : List ByteArray} (h : St w X G vv gv out gs) (hg : w.grownBy w' (some X)) : St w' X G vv gv out gs :=
  ⟨tx.texts_below h.vt (Below.grown (Below.refl _ _) hg (Nat.le_trans (Nat.le_of_lt h.hX) h.hG) (fun k hk => by have := Option.some.inj hk; omega)) (Nat.le_refl _), own_grown h.go hg h.hX, h.hX, Nat.le_trans h.hG hg.size⟩
theorem St.made {w w' : World} {X G : Nat} {vv gv : Value} {out gs gs' : List ByteArray} (h : St w X G vv gv out gs) (hg : w.grownBy w' gv.ownBlock) (ho : OwnT w' G gv gs') : St w' X G vv gv out gs' :=
  ⟨tx.texts_below h.vt (Below.grown (Below.refl _ _) hg h.hG (fun k hk => ow.own_lt h.go k hk)) (Nat.le_of_lt h.hX), ho, h.hX, Nat.le_trans h.hG hg.size⟩
end Go.Proofs.YtbfplmafffnghaaDoor.sw
