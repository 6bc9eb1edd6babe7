/-
  A variable of an interface's type that reads as listed holds a value of a type.
-/
import Derived.Test.YtbfplmafffnghaaDoorNuw
import Derived.LaidLaws
namespace Go.Proofs.YtbfplmafffnghaaDoor.nu
open Go.RowKit
set_option linter.unusedVariables false

section
variable {P : Program} {W : World} {name nm : String} {d : DataW Unit} {g : Nat} {t : TypeId} {ms : Array (String × TypeId)}
theorem iface_laid (hg : P.globalNamed name = some g) (hty : (P.globals[g]?).map (·.type) = some t) (hi : P.underlying t = some (.interface ms)) :
    ∀ {laid : List (String × DataW Unit)} {ps : List MemPlace}, (name, DataW.iface nm d) ∈ laid → DataW.LaidVars P W laid ps → ∃ te pe, W.cell? ⟨g, 0, none⟩ = some (.iface te pe) := by
  intro laid
  induction laid with
  | nil => intro ps h; cases h
  | cons x xs ih =>
    intro ps hm hl
    obtain ⟨g', t', cs, fuel, p, q, hg', ht', hvar, hd, hr, _⟩ := hl
    rcases List.mem_cons.1 hm with e1 | e1
    · subst e1
      obtain rfl := Option.some.inj (hg.symm.trans hg')
      obtain rfl := Option.some.inj (hty.symm.trans ht')
      obtain ⟨_, u, v, hcs, _⟩ := iface_of_trod hi hd
      have h0 := World.var?_cell hg hvar 0
      refine ⟨u, v, ?_⟩
      have e : cs[0]? = some (.iface u v) := by rw [← Array.getElem?_toList, hcs]; rfl
      rw [← e]
      simpa using h0
    · exact ih e1 hr
end
end Go.Proofs.YtbfplmafffnghaaDoor.nu
