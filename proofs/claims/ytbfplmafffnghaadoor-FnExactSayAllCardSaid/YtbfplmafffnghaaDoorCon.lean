/-
  A number's text read: the program's way.
-/
import Derived.Test.YtbfplmafffnghaaDoorNuw
import Derived.Test.YtbfplmafffnghaaDoorOwn
import Derived.Test.YtbfplmafffnghaaDoorOwm
import Derived.Test.YtbfplmafffnghaaDoorShf
import Derived.Test.YtbfplmafffnghaaDoorTab
import Derived.Lib.ItoaMem
import Derived.Shelf.Strconv.Itoa3
import Derived.Below
namespace Go.Proofs.YtbfplmafffnghaaDoor.cn
open Go.RowKit
open nu
set_option linter.unusedVariables false

/-- The two sentinels that strconv's faults hold. -/
def Sents (w : World) : Prop := ∃ e0 e1, w.cell? ⟨1, 0, none⟩ = some e0 ∧ w.cell? ⟨2, 0, none⟩ = some e1 ∧ (e0 = .nilIface ∨ ∃ te pe, e0 = .iface te pe) ∧ (e1 = .nilIface ∨ ∃ te pe, e1 = .iface te pe)
theorem sents_keep {w w' : World} (h : Sents w) (hb : Below w.heap.size w w') : Sents w' := by
  obtain ⟨e0, e1, h0, h1, h2, h3⟩ := h
  exact ⟨e0, e1, (hb.cell (p := ⟨1, 0, none⟩) (World.block_lt_of_cell? w _ h0)).trans h0, (hb.cell (p := ⟨2, 0, none⟩) (World.block_lt_of_cell? w _ h1)).trans h1, h2, h3⟩
theorem itoaZ (v : Int) (h0 : -9223372036854775808 ≤ v) (h1 : v ≤ 9223372036854775807) (w : World) (hT : tb.TP w) : Calls Tryd.prog 34 #[.int .i64 v] w fun e w' => e = .returned (.string ⟨(Lib.itoa v).toArray⟩) ∧ Below w.heap.size w w' := by
  refine (Any.strconv_Itoa Tryd.laysM171 v h0 h1 w (tb.tp_is hT)).mono ?_
  rintro e w' ⟨rfl, k, os, rfl⟩
  exact ⟨rfl, Lib.below_grow _ _ (Nat.le_refl _) _ _⟩

end Go.Proofs.YtbfplmafffnghaaDoor.cn
