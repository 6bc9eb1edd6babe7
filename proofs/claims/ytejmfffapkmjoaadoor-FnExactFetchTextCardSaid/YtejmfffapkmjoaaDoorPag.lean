/-
  The contracts of both MailPart functions, and of the program's ParseMail.
-/
import Derived.Test.YtejmfffapkmjoaaDoorPaf
namespace Go.Proofs.YtejmfffapkmjoaaDoor.ml
open Go.RowKit
set_option linter.unusedVariables false


set_option maxHeartbeats 1000000 in
set_option maxRecDepth 100000 in
theorem isPart_any (p : ByteArray) (w : World) : Calls Tryd.prog 35 #[.string p] w fun e w' => (∃ b : Bool, e = .returned (.bool b) ∧ (b = true ↔ (p.data.toList = [] ∨ p.data.toList = hdr ∨ p.data.toList = txt))) ∧ w' = w := by
  rcases part_cases p with ⟨q0, q1, q2, q3⟩ | ⟨q0, q1, q2, q3⟩ | ⟨q0, q1, q2, q3⟩ | ⟨q0, q1, q2, q3⟩
  · have H0 : Hid (p.data.toList = []) := q0
    clear q0
    go_enter Tryd.func35, Tryd.ntmps35
    go_wp2
    go_ret
    exact ⟨⟨_, rfl, fun _ => .inl H0.out, fun _ => by simp⟩, rfl⟩
  · have H0 : Hid (p.data.toList = hdr) := q0
    clear q0
    go_enter Tryd.func35, Tryd.ntmps35
    go_wp2
    go_ret
    exact ⟨⟨_, rfl, fun _ => .inr (.inl H0.out), fun _ => by simp⟩, rfl⟩
  · have H0 : Hid (p.data.toList = txt) := q0
    clear q0
    go_enter Tryd.func35, Tryd.ntmps35
    go_wp2
    go_ret
    exact ⟨⟨_, rfl, fun _ => .inr (.inr H0.out), fun _ => by simp⟩, rfl⟩
  · have H0 : Hid (¬ (p.data.toList = [] ∨ p.data.toList = hdr ∨ p.data.toList = txt)) := q0
    clear q0
    go_enter Tryd.func35, Tryd.ntmps35
    go_wp2
    go_ret
    exact ⟨⟨_, rfl, fun e => by simp at e, fun e => absurd e H0.out⟩, rfl⟩
set_option maxHeartbeats 8000000 in
set_option maxRecDepth 100000 in
theorem implPart_any (s p : ByteArray) (w : World) (m : Int) (hm : w.cell? ⟨1, 0, none⟩ = some (.int .i64 m)) (hs : s.size ≤ 1048576) (hp : p.size ≤ 1048576) :
    Calls Tryd.prog 38 #[.string s, .string p] w fun e w' => MpRet s.data.toList p.data.toList e ∧ Below w.heap.size w w' := by
  have HRL := readLetter_any s w m hm hs
  clear hm
  by_cases hl : s.size ≤ 65536
  case neg =>
    have hl' : (65536 : Int) < (s.size : Int) := by omega
    have hd : decide ((65536 : Int) < (s.size : Int)) = true := decide_eq_true hl'
    clear HRL
    go_enter Tryd.func38, Tryd.ntmps38
    go_wp2
    go_ret2
    exact ⟨.inl ⟨.inl (by rw [← Lib.size_eq]; omega), rfl⟩, Below.refl _ _⟩
  have hd : decide ((65536 : Int) < (s.size : Int)) = false := decide_eq_false (by omega)
  by_cases hl2 : p.size ≤ 65536
  case neg =>
    have hl' : (65536 : Int) < (p.size : Int) := by omega
    have hd2 : decide ((65536 : Int) < (p.size : Int)) = true := decide_eq_true hl'
    clear HRL
    go_enter Tryd.func38, Tryd.ntmps38
    go_wp2
    go_ret2
    exact ⟨.inl ⟨.inr (by rw [← Lib.size_eq]; omega), rfl⟩, Below.refl _ _⟩
  have hd2 : decide ((65536 : Int) < (p.size : Int)) = false := decide_eq_false (by omega)
  have HL : Hid (s.data.toList.length ≤ 65536 ∧ p.data.toList.length ≤ 65536) := (show _ ∧ _ by rw [← Lib.size_eq, ← Lib.size_eq]; exact ⟨hl, hl2⟩)
  have HPC := part_cases p
  by_cases hin : p.data.toList = [] ∨ p.data.toList = hdr ∨ p.data.toList = txt
  case neg =>
    rcases HPC with ⟨q0, _⟩ | ⟨q0, _⟩ | ⟨q0, _⟩ | ⟨q0, q1, q2, q3⟩
    · exact absurd (.inl q0) hin
    · exact absurd (.inr (.inl q0)) hin
    · exact absurd (.inr (.inr q0)) hin
    · have HN : Hid (¬ (p.data.toList = [] ∨ p.data.toList = hdr ∨ p.data.toList = txt)) := q0
      clear q0 hin HRL
      go_enter Tryd.func38, Tryd.ntmps38
      go_wp2_with (go_at_call 35; refine (isPart_any p _).mono ?_; rintro e w' ⟨⟨bb, rfl, hbb⟩, rfl⟩; obtain rfl : bb = false := Bool.eq_false_iff.2 (fun y => HN.out (hbb.1 y)); clear hbb)
      go_ret2
      exact ⟨.inr (.inl ⟨HL.out.1, HL.out.2, HN.out, rfl⟩), Below.refl _ _⟩
  have HIN : Hid (p.data.toList = [] ∨ p.data.toList = hdr ∨ p.data.toList = txt) := hin
  have HPE : Hid (∀ b : B, ∀ T : ByteArray, tv b = .string T → T.size = b.length → (p.toList.isEmpty = true → tv (partOf s.data.toList p.data.toList b) = .string s) ∧ ((p.toList == [72, 69, 65, 68, 69, 82]) = true → tv (partOf s.data.toList p.data.toList b) = .string (s.extract 0 (s.size - T.size))) ∧ ((p.toList == [84, 69, 88, 84]) = true → tv (partOf s.data.toList p.data.toList b) = .string T)) := fun b T h1 h2 => by
    refine ⟨fun h => ?_, fun h => ?_, fun h => ?_⟩
    · rw [tl_empty, decide_eq_true_iff] at h
      rw [h, partOf, if_pos rfl, tv_all]
    · rw [tl_beq, decide_eq_true_iff] at h
      rw [h, partOf, if_neg (by decide), if_pos (show [72, 69, 65, 68, 69, 82] = hdr from rfl), tv_front, h2, Lib.size_eq]
    · rw [tl_beq, decide_eq_true_iff] at h
      rw [h, partOf, if_neg (by decide), if_neg (by decide), h1]
  clear hin
  rcases HPC with ⟨q0, q1, q2, q3⟩ | ⟨q0, q1, q2, q3⟩ | ⟨q0, q1, q2, q3⟩ | ⟨q0, _⟩
  case inr.inr.inr => exact absurd HIN.out q0
  all_goals
    clear q0
    go_enter Tryd.func38, Tryd.ntmps38
    go_wp2_with fail
    refine (isPart_any p _).mono ?_
    rintro e w' ⟨⟨bb, rfl, hbb⟩, hw'⟩
    have hw' := hw'.symm
    subst hw'
    obtain rfl : bb = true := hbb.2 HIN.out
    clear hbb
    go_wp2_with fail
    refine HRL.mono ?_
    rintro e w1 ⟨hr, hb1⟩
    have HB1 : Hid (Below w.heap.size w w1) := hb1
    clear HRL hb1
    rcases hr with ⟨hx, rfl⟩ | ⟨hx, hno, rfl⟩ | ⟨hx, fs, b, v, hmail, rfl, hfa⟩
    · exfalso
      have := HL.out.1
      omega
    · have HNO : Hid (¬ ∃ fs b, IsMail s.data.toList fs b) := hno
      clear hno
      unfold noMV
      go_wp2
      go_ret2
      exact ⟨.inr (.inr (.inl ⟨HL.out.1, HL.out.2, HIN.out, HNO.out, rfl⟩)), HB1.out.alloc HB1.out.size _⟩
    · obtain ⟨a, cap, rfl⟩ := fields_form hfa
      obtain ⟨kk, hk1, hk2⟩ := par_len hmail.2.1
      have HMA : Hid (IsMail s.data.toList fs b) := hmail
      clear hmail hfa
      unfold MV
      generalize hln : fs.length = ln at *
      obtain ⟨T, hT⟩ : ∃ T : ByteArray, T = ⟨b.toArray⟩ := ⟨_, rfl⟩
      have htb : tv b = .string T := by rw [hT]; rfl
      have hTl : T.size = b.length := by rw [Lib.size_eq, hT]
      have hTs : T.size ≤ s.size := by rw [hTl, hk2, List.length_drop, Lib.size_eq]; omega
      have HQ := HPE.out b T htb hTl
      have HQQ : Hid ((p.toList.isEmpty = true → tv (partOf s.data.toList p.data.toList b) = .string s) ∧ ((p.toList == [72, 69, 65, 68, 69, 82]) = true → tv (partOf s.data.toList p.data.toList b) = .string (s.extract 0 (s.size - T.size))) ∧ ((p.toList == [84, 69, 88, 84]) = true → tv (partOf s.data.toList p.data.toList b) = .string T)) := HQ
      rw [htb]
      clear hT htb hTl hk1 hk2 HQ hx
      have hTs' : (T.size : Int) ≤ (s.size : Int) := by omega
      have hsub : (0 : Int) ≤ (s.size : Int) - (T.size : Int) := by omega
      have hes : (s.extract 0 (s.size - T.size)).size ≤ 1048576 := by rw [ext_size _ _ _ (by omega)]; omega
      have HCL : Hid (∀ (x : ByteArray) (W : World), x.size ≤ 1048576 → Calls Tryd.prog 49 #[.string x] W fun e w' => e = .returned (.string x) ∧ Below W.heap.size W w') := fun x W h => uf.clone_uf x W h
      go_wp2_with fail
      refine (HCL.out _ _ (by omega)).mono ?_
      rintro e w2 ⟨rfl, hb2⟩
      have hb3 := (HB1.out.alloc HB1.out.size _).trans (hb2.mono (HB1.out.alloc HB1.out.size _).size)
      clear hb2
      go_wp2
      go_ret2
      exact ⟨.inr (.inr (.inr ⟨HL.out.1, HL.out.2, HIN.out, fs, b, HMA.out, by first | (rw [HQQ.out.1 q1]; rfl) | (rw [HQQ.out.2.1 q2]; rfl) | (rw [HQQ.out.2.2 q3]; rfl)⟩)), hb3⟩
end Go.Proofs.YtejmfffapkmjoaaDoor.ml
