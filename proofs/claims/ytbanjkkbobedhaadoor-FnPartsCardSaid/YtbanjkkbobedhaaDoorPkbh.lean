/-
  Plain facts on the mail of an entry that is drawn: its parts, put together again, and its fields.
-/
import Derived.Test.YtbanjkkbobedhaaDoorPkai
import Derived.Test.YtbanjkkbobedhaaDoorPkbb
import Derived.Test.YtbanjkkbobedhaaDoorPkbe
import Derived.Test.YtbanjkkbobedhaaDoorPkbf
import Derived.Test.YtbanjkkbobedhaaDoorPkbg

namespace Go.Proofs.YtbanjkkbobedhaaDoor.me
open Go Go.RowKit Go.WideShapes
open fa fo ml
set_option linter.unusedVariables false

theorem row_bytes {w : World} {a : Option Addr} {len cap : Nat} {zs : List Int} (h : ag.IsRow .u8 w a len cap zs) (hl : len ≤ 1048576) : se.Bytes w a len := by
  refine ⟨hl, ?_⟩
  rcases h with ⟨rfl, rfl, rfl, rfl⟩ | ⟨x, rfl, hlc, hm, hz, hcell, hwz⟩
  · exact .inl rfl
  · by_cases h0 : len = 0
    · exact .inl h0
    · right
      obtain ⟨b, off, spot⟩ := x
      have hc := hcell 0 (by omega)
      have hspot : spot = none := by simpa [Addr.add] using World.cell?_spot hc
      subst hspot
      refine ⟨b, off, rfl, fun j hj => ?_⟩
      have hj2 : j < zs.length := by omega
      have hb := bounds_u8 (hwz (zs.getD j 0) (by rw [List.getD_eq_getElem?_getD, List.getElem?_eq_getElem hj2]; exact List.getElem_mem hj2))
      refine ⟨zs.getD j 0, hb.1, hb.2, ?_⟩
      rw [← hcell j hj2]
      congr 1
      simp [Addr.add]
theorem row_reads {w : World} {a : Option Addr} {len cap : Nat} {zs : List Int} (h : ag.IsRow .u8 w a len cap zs) : ∃ ys : List Int, ow.Reads .u8 w (.slice a len cap) ys ∧ ys.length = len ∧ ck.Bytes ys := by
  rcases h with ⟨rfl, rfl, rfl, rfl⟩ | ⟨x, rfl, hl, hm, hz, hcell, hwz⟩
  · exact ⟨[], ⟨none, 0, rfl, .inl rfl⟩, rfl, fun j hj => absurd hj (Nat.not_lt_zero _)⟩
  · have hlen : (zs.take len).length = len := by rw [List.length_take]; omega
    have hget : ∀ j, j < len → (zs.take len).getD j 0 = zs.getD j 0 := fun j hj => by rw [List.getD_eq_getElem?_getD, List.getD_eq_getElem?_getD, List.getElem?_take, if_pos hj]
    refine ⟨zs.take len, ⟨some x, cap, by rw [hlen], ?_⟩, hlen, fun j hj => ?_⟩
    · by_cases h0 : len = 0
      · left; subst h0; rfl
      · right
        obtain ⟨b, off, spot⟩ := x
        have hc := hcell 0 (by omega)
        have hspot : spot = none := by simpa [Addr.add] using World.cell?_spot hc
        subst hspot
        refine ⟨b, off, rfl, fun j hj => ?_⟩
        rw [hlen] at hj
        have := hcell j (by omega)
        rw [hget j hj, ← this]
        congr 1
        simp [Addr.add]
    · rw [hlen] at hj
      have hj2 : j < zs.length := by omega
      rw [hget j hj]
      have hb := bounds_u8 (hwz (zs.getD j 0) (by rw [List.getD_eq_getElem?_getD, List.getElem?_eq_getElem hj2]; exact List.getElem_mem hj2))
      exact ⟨hb.1, by omega⟩
/-- The fields, as bytes. -/
def lst (ps : List Pr) : List (B × B) := ps.map fun p => (p.1.data.toList, p.2.data.toList)
theorem prs_lst (ps : List Pr) : prs (lst ps) = ps := by
  unfold prs lst
  rw [List.map_map]
  conv => rhs; rw [← List.map_id ps]
  rfl
theorem all_list : ∀ (ps : List Pr) (a : ByteArray), (ps.foldl (fun acc p => acc ++ rn.FO p.1 p.2) a).data.toList = a.data.toList ++ foldM (lst ps)
  | [], a => by simp [foldM, lst]
  | p :: ps, a => by
    rw [List.foldl_cons, all_list ps]
    rw [ByteArray.data_append, Array.toList_append, List.append_assoc]
    rfl
/-- The text of a mail of an entry. -/
def bod (e : en.En) : B := qu.qt 0 (rn.crl e.c.data.toList) ++ nl
/-- What stands ahead of it. -/
def hea (e : en.En) (box : ByteArray) : B := foldM (lst (rn.flds e box)) ++ nl
theorem rend_list (e : en.En) (box : ByteArray) : (rn.rend e box).data.toList = hea e box ++ bod e := by
  unfold rn.rend rn.foldAll hea bod
  rw [ByteArray.data_append, Array.toList_append, ByteArray.data_append, Array.toList_append, all_list]
  rfl
theorem rend_mail {e : en.En} {box : ByteArray} (h : en.eok e = true) (hb : nm.IsName box) (ha : rn.Enc e.a) (ht : rn.Enc e.t) (hi : rn.Enc e.i) (hl : rn.Enc e.l) :
    IsMail (rn.rend e box).data.toList (lst (rn.flds e box)) (bod e) := by
  rw [rend_list]
  refine isMail_fold _ _ ?_ (by simp [lst, rn.flds])
  intro x hx
  obtain ⟨p, hp, rfl⟩ := List.mem_map.1 hx
  obtain ⟨⟨g1, g2⟩, g3, g4⟩ := rn.flds_good h hb ha ht hi hl p hp
  exact ⟨g1, by rw [← Lib.size_eq]; exact g3, g2⟩
theorem rend_len {e : en.En} {box : ByteArray} (h : en.eok e = true) (hb : nm.IsName box) (ha : rn.Enc e.a) (ht : rn.Enc e.t) (hi : rn.Enc e.i) (hl : rn.Enc e.l) : (rn.rend e box).data.toList.length ≤ 65536 := by
  obtain ⟨_, _, _, _, ⟨e5, _⟩, e6, e7⟩ := rn.eok_cases h
  have hm := (rn.mid_safe e box hb).2
  have hdt := (rn.date_safe e.d e6 e7).2
  have hq := qu.qt_len 0 (rn.crl e.c.data.toList)
  have hc := rn.crl_len e.c.data.toList
  have h1 := ha.2.2
  have h2 := ht.2.2
  have h3 := hi.2.2
  have h4 := hl.2.2
  rw [Lib.size_eq] at hm h1 h2 h3 h4 e5
  rw [rend_list]
  unfold hea bod
  have F := fun nm v => ff.field_len nm v
  simp only [rn.flds, lst, foldM, List.map_cons, List.map_nil, List.flatMap_cons, List.flatMap_nil, List.length_append, List.length_nil]
  have f1 := F [70, 114, 111, 109] (rn.EN e.a).data.toList
  have f2 := F [68, 97, 116, 101] (dx.t82 e.d)
  have f3 := F [83, 117, 98, 106, 101, 99, 116] (rn.EN e.t).data.toList
  have f4 := F [77, 101, 115, 115, 97, 103, 101, 45, 73, 68] (rn.mid e box).data.toList
  have f5 := F [88, 45, 73, 100] (rn.EN e.i).data.toList
  have f6 := F [88, 45, 76, 105, 110, 107] (rn.EN e.l).data.toList
  have f7 := F [77, 73, 77, 69, 45, 86, 101, 114, 115, 105, 111, 110] [49, 46, 48]
  have f8 := F [67, 111, 110, 116, 101, 110, 116, 45, 84, 121, 112, 101] [116, 101, 120, 116, 47, 112, 108, 97, 105, 110, 59, 32, 99, 104, 97, 114, 115, 101, 116, 61, 117, 116, 102, 45, 56]
  have f9 := F [67, 111, 110, 116, 101, 110, 116, 45, 84, 114, 97, 110, 115, 102, 101, 114, 45, 69, 110, 99, 111, 100, 105, 110, 103] [113, 117, 111, 116, 101, 100, 45, 112, 114, 105, 110, 116, 97, 98, 108, 101]
  have hnl : nl.length = 2 := rfl
  simp only [List.length_cons, List.length_nil] at f1 f2 f3 f4 f5 f6 f7 f8 f9
  omega
theorem end4 (A C : B) : ∃ x : B, A ++ (C ++ [13, 10]) ++ nl = x ++ [13, 10, 13, 10] := ⟨A ++ C, by simp [nl]⟩
/-- Its head ends in two ends of lines. -/
theorem hea_end (e : en.En) (box : ByteArray) : ∃ x : B, hea e box = x ++ [13, 10, 13, 10] := by
  unfold hea foldM lst
  rw [List.flatMap_map]
  have : rn.flds e box = (rn.flds e box).dropLast ++ [(rn.flds e box).getLast (by simp [rn.flds])] := (List.dropLast_concat_getLast _).symm
  rw [this, List.flatMap_append]
  simp only [List.flatMap_cons, List.flatMap_nil, List.append_nil, hd.foldL]
  exact end4 _ _
def news : ByteArray := ⟨#[110, 101, 119, 115]⟩
theorem news_name : nm.IsName news := by
  refine ⟨by decide, by decide, fun j hj => ⟨hj, .inl ?_⟩⟩
  have h4 : j < 4 := hj
  match j, h4 with
  | 0, _ => rfl
  | 1, _ => rfl
  | 2, _ => rfl
  | 3, _ => rfl
def hdrT : ByteArray := ⟨#[72, 69, 65, 68, 69, 82]⟩
def txtT : ByteArray := ⟨#[84, 69, 88, 84]⟩
def subA : ByteArray := ⟨#[115, 117, 98, 106, 101, 99, 116]⟩
def subB : ByteArray := ⟨#[83, 85, 66, 74, 69, 67, 84]⟩
/-- All that FnParts asks of a drawn entry's mail s, its head H and its text T. -/
structure Told (i t l a : ByteArray) (d : Int) (c s H T : ByteArray) (ps : List Pr) (sv : ByteArray) : Prop where
  small : en.Small ⟨i, t, l, a, d, c⟩
  re : ∀ r, rn.ReRet ⟨i, t, l, a, d, c⟩ news r → r = .returned (.tuple #[.string s, .int .i64 0])
  size : s.size ≤ 65536
  all : ∀ x, MpRet s.data.toList [] x → x = .returned (.tuple #[.string s, .int .i64 0])
  head : ∀ x, MpRet s.data.toList hdrT.data.toList x → x = .returned (.tuple #[.string H, .int .i64 0])
  text : ∀ x, MpRet s.data.toList txtT.data.toList x → x = .returned (.tuple #[.string T, .int .i64 0])
  both : H ++ T = s
  four : 4 ≤ H.size
  ends : H.extract (H.size - 4) H.size = ⟨#[13, 10, 13, 10]⟩
  parse : ∀ base x w, RlRet s.data.toList base x w → ∃ v, x = .returned (.tuple #[.agg #[v, .string T], .int .i64 0]) ∧ AttrsAt w v ps
  few : fa.Small ps
  subj : foC ps subA = (sv, 0)
  subj2 : foC ps subB = (sv, 0)
theorem told_of {i t l a c : ByteArray} {d : Int} (h : en.eok ⟨i, t, l, a, d, c⟩ = true) : ∃ s H T ps sv, Told i t l a d c s H T ps sv := by
  obtain ⟨e1, e2, e3, e4, e5, e6, e7⟩ := rn.eok_cases h
  have ha := rn.enc_all a e4 default
  have ht := rn.enc_all t e2 default
  have hi := rn.enc_all i e1 default
  have hl := rn.enc_all l e3 default
  have hm := rend_mail h news_name ha ht hi hl
  have hz := rend_len h news_name ha ht hi hl
  have hgood := rn.flds_good h news_name ha ht hi hl
  have hL := rend_list ⟨i, t, l, a, d, c⟩ news
  obtain ⟨x4, hx4⟩ := hea_end ⟨i, t, l, a, d, c⟩ news
  have hsz : (rn.rend ⟨i, t, l, a, d, c⟩ news).size ≤ 65536 := by rw [Lib.size_eq]; exact hz
  obtain ⟨s, hs⟩ : ∃ s, s = rn.rend ⟨i, t, l, a, d, c⟩ news := ⟨_, rfl⟩
  have hre : ∀ r, rn.ReRet ⟨i, t, l, a, d, c⟩ news r → r = .returned (.tuple #[.string s, .int .i64 0]) := by
    intro r hr
    rcases hr with ⟨h1, _⟩ | ⟨_, h1, _⟩ | ⟨_, _, h1⟩
    · exact absurd h1 (by decide)
    · exact absurd ⟨h, news_name⟩ h1
    · rw [hs]; exact h1
  rw [← hs] at hm hz hL hsz
  generalize hea ⟨i, t, l, a, d, c⟩ news = Hl at hL hx4
  generalize bod ⟨i, t, l, a, d, c⟩ = Tl at hL hm
  have hmk : (⟨s.data.toList.toArray⟩ : ByteArray) = s := by cases s; simp
  have mp : ∀ p x, p.length ≤ 65536 → (p = [] ∨ p = hdr ∨ p = txt) → MpRet s.data.toList p x → x = .returned (.tuple #[tv (partOf s.data.toList p Tl), .int .i64 0]) := by
    intro p x hp hc hx
    rcases hx with ⟨h1, _⟩ | ⟨_, _, h1, _⟩ | ⟨_, _, _, h1, _⟩ | ⟨_, _, _, fs, b, hm', hx⟩
    · omega
    · exact absurd hc h1
    · exact absurd ⟨_, _, hm⟩ h1
    · obtain ⟨_, rfl⟩ := isMail_one hm' hm
      exact hx
  refine ⟨s, ⟨Hl.toArray⟩, ⟨Tl.toArray⟩, rn.flds ⟨i, t, l, a, d, c⟩ news, rn.EN t, ?_, hre, hsz, ?_, ?_, ?_, ?_, ?_, ?_, ?_, ?_, rfl, rfl⟩
  · have h1 := (en.fld_cases e1).1
    have h2 := (en.fld_cases e2).1
    have h3 := (en.fld_cases e3).1
    have h4 := (en.fld_cases e4).1
    have h5 := e5.1
    simp only at h1 h2 h3 h4 h5
    exact ⟨show i.size ≤ _ by omega, show t.size ≤ _ by omega, show l.size ≤ _ by omega, show a.size ≤ _ by omega, show c.size ≤ _ by omega⟩
  · intro x hx
    have := mp [] x (by simp) (.inl rfl) hx
    rw [this]
    show Ending.returned (.tuple #[.string ⟨s.data.toList.toArray⟩, _]) = _
    rw [hmk]
  · intro x hx
    have := mp hdr x (by decide) (.inr (.inl rfl)) hx
    rw [this]
    have e : partOf s.data.toList hdr Tl = Hl := by
      unfold partOf
      rw [if_neg (by decide), if_pos rfl, hL, List.length_append, Nat.add_sub_cancel]
      simp
    rw [e]
    rfl
  · intro x hx
    have := mp txt x (by decide) (.inr (.inr rfl)) hx
    rw [this]
    have e : partOf s.data.toList txt Tl = Tl := by
      unfold partOf
      rw [if_neg (by decide), if_neg (by decide)]
    rw [e]
    rfl
  · rw [← hmk, hL]
    apply ByteArray.ext
    simp
  · rw [hx4]
    show 4 ≤ ((x4 ++ [13, 10, 13, 10]).toArray).size
    simp
  · rw [hx4]
    apply ByteArray.ext
    rw [ByteArray.data_extract]
    apply Array.toList_inj.1
    have hsz4 : (⟨(x4 ++ [13, 10, 13, 10]).toArray⟩ : ByteArray).size = x4.length + 4 := by
      show ((x4 ++ [13, 10, 13, 10]).toArray).size = _
      simp
    rw [hsz4]
    simp [List.extract_eq_take_drop]
  · intro base x w hx
    rcases hx with ⟨h1, _⟩ | ⟨_, h1, _⟩ | ⟨_, fs, b, v, hm', rfl, hf⟩
    · omega
    · exact absurd ⟨_, _, hm⟩ h1
    · obtain ⟨rfl, rfl⟩ := isMail_one hm' hm
      refine ⟨v, rfl, ?_⟩
      have := fields_attrs hf
      rw [prs_lst] at this
      exact this
  · refine ⟨by simp [rn.flds], fun j hj => ?_⟩
    have e : (rn.flds ⟨i, t, l, a, d, c⟩ news).getD j no = (rn.flds ⟨i, t, l, a, d, c⟩ news)[j] := by simp [List.getD_eq_getElem?_getD, hj]
    rw [e]
    have := hgood _ (List.getElem_mem hj)
    exact ⟨by omega, by omega⟩
end Go.Proofs.YtbanjkkbobedhaaDoor.me
