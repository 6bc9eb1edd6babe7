/-
  DERIVED. GIVEN WITH THE SEED: THE PROGRAM's TIES (one call each: nine closed facts by the kernel) AND EACH ROW's TIE, after the 31st guide's Derived/Test/Toyas{Tie, Card}.lean. No idea stands in it: it is a product of the set-up. Laid BY PROGRAM, IN A SANDBOX (cutbox-door.mjs). By AI agents, Wed Nov 11 2026. No macro, syntax, notation, axiom, sorry.
-/
import Derived.Test.YthfppbjjnkdekaaDoorRows
import Derived.LaidByTextLater
import Derived.SevenTiedAt
import Derived.LaidSub
import Derived.LaidOnce
namespace Go.Proofs.YthfppbjjnkdekaaDoor
open Go
set_option maxRecDepth 100000
theorem seatTie1 : Tryd.prog.laidByTextLater [("unicode/utf8.acceptRanges", Rows.laid_unicode_utf8_acceptRanges), ("loop.example/g00268/impl.base64Chars", Rows.laid_loop_example_g00268_impl_base64Chars), ("loop.example/g00268/impl.base64Values", Rows.laid_loop_example_g00268_impl_base64Values), ("loop.example/g00268/impl.digitChars", Rows.laid_loop_example_g00268_impl_digitChars)] [.data, .data, .data, .data] true :=
  Program.laidByTextLater_by_one 34 8 129 (by kernel_rfl) (by kernel_rfl) (by kernel_rfl) (by kernel_rfl) (by kernel_rfl) (by kernel_rfl) (fun _ _ => by kernel_rfl)
theorem pin_laid_unicode_utf8_first : Tryd.pinned.checked.prog.pinnedFits "unicode/utf8.first" = true := by kernel_rfl
theorem noOwnUnsafe : Tryd.pinned.checked.prog.headLifts.contains "ownunsafe" = false := by kernel_rfl
theorem tie : Tryd.prog.laidByTextLater [("loop.example/g00268/impl.base64Chars", Rows.laid_loop_example_g00268_impl_base64Chars), ("loop.example/g00268/impl.base64Values", Rows.laid_loop_example_g00268_impl_base64Values)] [.data, .data] true :=
  Program.laidByTextLater.sub seatTie1 ["loop.example/g00268/impl.base64Chars", "loop.example/g00268/impl.base64Values"] (by kernel_rfl) (by kernel_rfl)
theorem fnBase64_row_tie : Rows.fnBase64Row.laidByTextAt .later Tryd.pinned [.data, .data] true :=
  OpenClaim.laidByTextAt_later rfl rfl tie noOwnUnsafe
theorem fits2 : Tryd.pinned.checked.prog.listedFits [("unicode/utf8.acceptRanges", Rows.laid_unicode_utf8_acceptRanges), ("loop.example/g00268/impl.digitChars", Rows.laid_loop_example_g00268_impl_digitChars), ("unicode/utf8.first", Rows.laid_unicode_utf8_first)] = true := by
  unfold Program.listedFits
  rw [noOwnUnsafe]
  kernel_rfl
theorem tie2 : Tryd.prog.laidByTextLater [("unicode/utf8.acceptRanges", Rows.laid_unicode_utf8_acceptRanges), ("loop.example/g00268/impl.digitChars", Rows.laid_loop_example_g00268_impl_digitChars)] [.data, .data] true :=
  Program.laidByTextLater.sub seatTie1 ["unicode/utf8.acceptRanges", "loop.example/g00268/impl.digitChars"] (by kernel_rfl) (by kernel_rfl)
theorem fnQuoted_row_tie : Rows.fnQuotedRow.laidByTextAt .later Tryd.pinned [.data, .data, .pinned] true :=
  OpenClaim.laidByTextAt_pinned rfl rfl tie2 rfl rfl rfl rfl (fun y hy _e => by
    simp only [Rows.fnQuotedRow, List.zip_cons_cons, List.zip_nil_right, List.mem_cons, List.mem_nil_iff, or_false] at hy
    rcases hy with rfl | rfl | rfl
    · cases _e
    · cases _e
    · exact ⟨pin_laid_unicode_utf8_first, by kernel_rfl⟩) fits2
theorem tie3 : Tryd.prog.laidByTextLater [("loop.example/g00268/impl.base64Chars", Rows.laid_loop_example_g00268_impl_base64Chars)] [.data] true :=
  Program.laidByTextLater.sub seatTie1 ["loop.example/g00268/impl.base64Chars"] (by kernel_rfl) (by kernel_rfl)
theorem fnExactBase64Text_row_tie : Rows.fnExactBase64TextRow.laidByTextAt .later Tryd.pinned [.data] true :=
  OpenClaim.laidByTextAt_later rfl rfl tie3 noOwnUnsafe
theorem tie4 : Tryd.prog.laidByTextLater [("loop.example/g00268/impl.base64Values", Rows.laid_loop_example_g00268_impl_base64Values)] [.data] true :=
  Program.laidByTextLater.sub seatTie1 ["loop.example/g00268/impl.base64Values"] (by kernel_rfl) (by kernel_rfl)
theorem fnExactReadBase64_row_tie : Rows.fnExactReadBase64Row.laidByTextAt .later Tryd.pinned [.data] true :=
  OpenClaim.laidByTextAt_later rfl rfl tie4 noOwnUnsafe
theorem tie5 : Tryd.prog.laidByTextLater [("loop.example/g00268/impl.digitChars", Rows.laid_loop_example_g00268_impl_digitChars)] [.data] true :=
  Program.laidByTextLater.sub seatTie1 ["loop.example/g00268/impl.digitChars"] (by kernel_rfl) (by kernel_rfl)
theorem fnExactQuotedText_row_tie : Rows.fnExactQuotedTextRow.laidByTextAt .later Tryd.pinned [.data] true :=
  OpenClaim.laidByTextAt_later rfl rfl tie5 noOwnUnsafe
theorem fnExactReadQuoted_row_tie : Rows.fnExactReadQuotedRow.laidByTextAt .later Tryd.pinned [.data] true :=
  OpenClaim.laidByTextAt_later rfl rfl tie5 noOwnUnsafe
theorem fnBase64Upto_row_tie : Rows.fnBase64UptoRow.laidByTextAt .later Tryd.pinned [.data, .data] true :=
  OpenClaim.laidByTextAt_later rfl rfl tie noOwnUnsafe
theorem fnQuotedUpto_row_tie : Rows.fnQuotedUptoRow.laidByTextAt .later Tryd.pinned [.data, .data, .pinned] true :=
  OpenClaim.laidByTextAt_pinned rfl rfl tie2 rfl rfl rfl rfl (fun y hy _e => by
    simp only [Rows.fnQuotedUptoRow, List.zip_cons_cons, List.zip_nil_right, List.mem_cons, List.mem_nil_iff, or_false] at hy
    rcases hy with rfl | rfl | rfl
    · cases _e
    · cases _e
    · exact ⟨pin_laid_unicode_utf8_first, by kernel_rfl⟩) fits2
theorem fnExactBase64TextUpto_row_tie : Rows.fnExactBase64TextUptoRow.laidByTextAt .later Tryd.pinned [.data] true :=
  OpenClaim.laidByTextAt_later rfl rfl tie3 noOwnUnsafe
theorem fnExactReadBase64Upto_row_tie : Rows.fnExactReadBase64UptoRow.laidByTextAt .later Tryd.pinned [.data] true :=
  OpenClaim.laidByTextAt_later rfl rfl tie4 noOwnUnsafe
theorem fnExactQuotedTextUpto_row_tie : Rows.fnExactQuotedTextUptoRow.laidByTextAt .later Tryd.pinned [.data] true :=
  OpenClaim.laidByTextAt_later rfl rfl tie5 noOwnUnsafe
theorem fnExactReadQuotedUpto_row_tie : Rows.fnExactReadQuotedUptoRow.laidByTextAt .later Tryd.pinned [.data] true :=
  OpenClaim.laidByTextAt_later rfl rfl tie5 noOwnUnsafe
end Go.Proofs.YthfppbjjnkdekaaDoor
