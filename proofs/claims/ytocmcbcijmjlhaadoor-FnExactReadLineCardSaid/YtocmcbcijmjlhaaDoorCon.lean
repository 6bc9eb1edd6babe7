/-
  A number's text read: the program's way.
-/
import Derived.Test.YtocmcbcijmjlhaaDoorNuw
import Derived.Test.YtocmcbcijmjlhaaDoorOwn
import Derived.Test.YtocmcbcijmjlhaaDoorOwm
import Derived.Test.YtocmcbcijmjlhaaDoorShf
import Derived.Test.YtocmcbcijmjlhaaDoorTab
import Derived.Lib.ItoaMem
import Derived.Shelf.Strconv.Itoa3
import Derived.Below
namespace Go.Proofs.YtocmcbcijmjlhaaDoor.cn
open Go.RowKit
open nu
set_option linter.unusedVariables false

/-- The two sentinels that strconv's faults hold. -/
def Sents (w : World) : Prop := ∃ e0 e1, w.cell? ⟨3, 0, none⟩ = some e0 ∧ w.cell? ⟨4, 0, none⟩ = some e1 ∧ (e0 = .nilIface ∨ ∃ te pe, e0 = .iface te pe) ∧ (e1 = .nilIface ∨ ∃ te pe, e1 = .iface te pe)
theorem sents_keep {w w' : World} (h : Sents w) (hb : Below w.heap.size w w') : Sents w' := by
  obtain ⟨e0, e1, h0, h1, h2, h3⟩ := h
  exact ⟨e0, e1, (hb.cell (p := ⟨3, 0, none⟩) (World.block_lt_of_cell? w _ h0)).trans h0, (hb.cell (p := ⟨4, 0, none⟩) (World.block_lt_of_cell? w _ h1)).trans h1, h2, h3⟩
theorem itoaZ (v : Int) (h0 : -9223372036854775808 ≤ v) (h1 : v ≤ 9223372036854775807) (w : World) (hT : tb.TP w) : Calls Tryd.prog 32 #[.int .i64 v] w fun e w' => e = .returned (.string ⟨(Lib.itoa v).toArray⟩) ∧ Below w.heap.size w w' := by
  refine (Any.strconv_Itoa Tryd.laysM171 v h0 h1 w (tb.tp_is hT)).mono ?_
  rintro e w' ⟨rfl, k, os, rfl⟩
  exact ⟨rfl, Lib.below_grow _ _ (Nat.le_refl _) _ _⟩

set_option maxHeartbeats 2000000 in
set_option maxRecDepth 100000 in
theorem said_any (s : ByteArray) (hs : s.size ≤ 1048576) (w : World) (h : Sents w) (hT : tb.TP w) :
    Calls Tryd.prog 23 #[.string s] w fun e w' => NumRetZ s.data.toList e ∧ Below w.heap.size w w' := by
  obtain ⟨e0, e1, h0, h1, h2, h3⟩ := h
  rcases ha : Lib.atoiAll s.data.toList with v | _ | _
  · have HA : Hid (∀ n, NumIs s.data.toList n → n = v) := fun n e => by have := atoi_num e; rw [ha] at this; injection this with this; exact this.symm
    have HC : Hid (∀ w, Calls Tryd.prog 31 #[.string s] w fun e w' => e = .returned (.tuple #[.int .i64 v, .nilIface]) ∧ Below w.heap.size w w') := fun w => by
      refine (Tryd.strconv_Atoi_ok s (by omega) v ha w).mono ?_
      rintro e w' ⟨rfl, hw⟩
      refine ⟨rfl, ?_⟩
      rcases hw with rfl | ⟨t, rfl⟩
      · exact Below.refl _ _
      · exact ow.below_conv w _ t
    have HT : Hid (tb.TP w) := hT
    clear h0 h1 h2 h3 ha hT
    by_cases b1 : -1000000000000000000 < v
    · have d1 : decide (-1000000000000000000 < v) = true := decide_eq_true b1
      by_cases b2 : v < 1000000000000000000
      · have d2 : decide (v < 1000000000000000000) = true := decide_eq_true b2
        have HB : Hid (-1000000000000000000 < v ∧ v < 1000000000000000000) := ⟨b1, b2⟩
        have HI : Hid (∀ w, tb.TP w → Calls Tryd.prog 32 #[.int .i64 v] w fun e w' => e = .returned (.string ⟨(Lib.itoa v).toArray⟩) ∧ Below w.heap.size w w') := fun w y => itoaZ v (by omega) (by omega) w y
        have HE : Hid (((⟨(Lib.itoa v).toArray⟩ : ByteArray).toList == s.toList) = decide (Lib.itoa v = s.data.toList)) := by
          rw [Lib.toList_data, Lib.toList_data]
          exact Bool.eq_iff_iff.2 (by simp)
        generalize (⟨(Lib.itoa v).toArray⟩ : ByteArray) = D at HI HE
        clear b1 b2
        go_enter Tryd.func23, Tryd.ntmps23
        go_wp2_with fail
        refine (HC.out _).mono ?_
        rintro e w1 ⟨rfl, k1⟩
        have HT1 : Hid (tb.TP w1) := tb.keep' HT.out k1
        go_wp2_with fail
        refine (HI.out _ HT1.out).mono ?_
        rintro e w2 ⟨rfl, k2⟩
        have k3 := k1.trans (k2.mono k1.size)
        clear HT HT1 k1 k2 HC HI
        by_cases hd : s.data.toList = Lib.itoa v
        · have he : (D.toList == s.toList) = true := by rw [HE.out]; exact decide_eq_true hd.symm
          have HR : Hid (NumIs s.data.toList v) := ⟨HB.out.1, HB.out.2, hd⟩
          clear HE hd
          go_wp2
          go_ret2
          exact ⟨⟨v, true, rfl, .inl ⟨rfl, HR.out⟩⟩, k3⟩
        · have he : (D.toList == s.toList) = false := by rw [HE.out]; exact decide_eq_false (fun y => hd y.symm)
          have HR : Hid (∀ n, ¬ NumIs s.data.toList n) := fun n y => hd (by have := HA.out n y; subst this; exact y.2.2)
          clear HE hd
          go_wp2
          go_ret2
          exact ⟨⟨v, false, rfl, .inr ⟨rfl, HR.out⟩⟩, k3⟩
      · have d2 : decide (v < 1000000000000000000) = false := decide_eq_false b2
        have HR : Hid (∀ n, ¬ NumIs s.data.toList n) := fun n y => b2 (by have := HA.out n y; subst this; exact y.2.1)
        clear b1 b2
        go_enter Tryd.func23, Tryd.ntmps23
        go_wp2_with fail
        refine (HC.out _).mono ?_
        rintro e w1 ⟨rfl, k1⟩
        go_wp2
        go_ret2
        exact ⟨⟨v, false, rfl, .inr ⟨rfl, HR.out⟩⟩, k1⟩
    · have d1 : decide (-1000000000000000000 < v) = false := decide_eq_false b1
      have HR : Hid (∀ n, ¬ NumIs s.data.toList n) := fun n y => b1 (by have := HA.out n y; subst this; exact y.1)
      clear b1
      go_enter Tryd.func23, Tryd.ntmps23
      go_wp2_with fail
      refine (HC.out _).mono ?_
      rintro e w1 ⟨rfl, k1⟩
      go_wp2
      go_ret2
      exact ⟨⟨v, false, rfl, .inr ⟨rfl, HR.out⟩⟩, k1⟩
  all_goals
    have HR : Hid (∀ n, ¬ NumIs s.data.toList n) := fun n e => by have := atoi_num e; rw [ha] at this; cases this
    have HC : Hid (Calls Tryd.prog 31 #[.string s] w fun e w' => ∃ v T p, e = .returned (.tuple #[.int .i64 v, .iface T p]) ∧ Below w.heap.size w w') := by
      first
        | (refine (Tryd.strconv_Atoi_syntax s (by omega) ha e0 w h0 h2).mono ?_
           rintro e w' ⟨N, rfl, _, _, hb⟩
           exact ⟨_, _, _, rfl, hb⟩)
        | (refine (Tryd.strconv_Atoi_range s (by omega) ha e1 w h1 h3).mono ?_
           rintro e w' ⟨N, rfl, _, _, hb⟩
           exact ⟨_, _, _, rfl, hb⟩)
    clear h0 h1 h2 h3 ha hT
    go_enter Tryd.func23, Tryd.ntmps23
    go_wp2_with fail
    refine HC.out.mono ?_
    rintro e w1 ⟨v, T, p, rfl, k1⟩
    go_wp2
    go_ret2
    exact ⟨⟨v, false, rfl, .inr ⟨rfl, HR.out⟩⟩, k1⟩
end Go.Proofs.YtocmcbcijmjlhaaDoor.cn
