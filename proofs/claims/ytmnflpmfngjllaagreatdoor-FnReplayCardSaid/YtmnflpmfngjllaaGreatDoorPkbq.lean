/-
  FnReplayCardSaid
-/
import Derived.Test.YtmnflpmfngjllaaGreatDoorPkbp
import Derived.Laws.Append
import Derived.Maps.AppendAt
set_option maxHeartbeats 16000000
set_option maxRecDepth 100000
set_option linter.unusedVariables false
namespace Go.Proofs.YtmnflpmfngjllaaGreatDoor
namespace hd
open Go.RowKit
def EncIs(s r:ByteArray):Prop:=(Plain s.data.toList∧r=s)∨(¬Plain s.data.toList∧EndsAny s [] r.data.toList)
theorem rune_parts{s:ByteArray}{k:Nat}{e:Ending}(h:ut.zau s k e):∃(r:Int) (b:Bool),e=.returned (.tuple #[.int .i64 r,.int .i64 ((Utf8.decode s k).2:Int),.bool b]):=by
 rcases h with⟨hb,rfl⟩|⟨_,rfl⟩
 ·exact⟨0,false,by rw[ut.bad_wide hb];rfl⟩
 ·exact⟨_,true,rfl⟩
theorem zdv(s:ByteArray)(w:World)(hs:s.size≤1000) :
  Calls Tryz.prog 97 #[.string s] w λe w'=>(∃r,e=.returned (.string r)∧EncIs s r)∧Below w.heap.size w w':=by
 by_cases hp:Plain s.data.toList
 ·go_enter Tryz.func97,Tryz.ntmps97
  go_wp2_with fail
  refine(plain_any s _ (by omega)).mono ?_;rintro e w' ⟨h1,rfl⟩;obtain rfl:=sv.says_true h1 hp;go_wp2;go_ret;exact⟨⟨s,rfl,.inl ⟨hp,rfl⟩⟩,Below.refl _ _⟩
 have HP:=hD hp;clear hp;go_enter Tryz.func97,Tryz.ntmps97
 go_wp2_with fail
 refine(plain_any s _ (by omega)).mono ?_;rintro e w' ⟨h1,rfl⟩;obtain rfl:=sv.says_false h1 HP.out;clear h1;go_wp2
 go_loopw [0,3] (λt o wr=>∃c out:ByteArray,t=.string c∧o=.string out∧c.size≤1000∧out.size+200*c.size≤200000∧Below w'.heap.size w' wr∧Hid (∀r,EndsAny c out.data.toList r→EndsAny s [] r)) (λt _ _=>(match t with | .string c=>c.size|_=>0))
 case atStart=>exact⟨s,⟨#[]⟩,rfl,rfl,hs,by show 0+_≤_;omega,Below.refl _ _,λr h=>h⟩
 case round =>
  obtain⟨c,out,rfl,rfl,hc,hlen,hbw,HE⟩:=hrel;by_cases h0:c.size=0
  ·have z:c.toList.isEmpty=true:=by rw[zcq];simp[h0]
   go_wp2;go_ret;exact⟨⟨out,rfl,.inr ⟨HP.out,HE.out _ (ends_nil _ h0)⟩⟩,hbw⟩
  have z:c.toList.isEmpty=false:=by rw[zcq];simp[h0]
  have hB:=hbw.size;go_wp2
  go_loop [4] (λi=>∃j:Nat,ut.pos c j≤c.size∧ut.pos c j≤45∧i=.int .i64 (ut.pos c j)) (λi=>c.size-(intOf i).toNat)
  case atStart=>exact⟨0,Nat.zero_le _,Nat.zero_le _,rfl⟩
  case round =>
   obtain⟨j,hj1,hj2,rfl⟩:=hrel;obtain⟨p,hp⟩:∃p,p=ut.pos c j:=⟨_,rfl⟩
   rw[←hp] at hj1 hj2 ⊢;have HPJ:=hD hp;clear hp;have cp0:(0:Int)≤(p:Int):=by omega
   have cp1:(p:Int)≤(c.size:Int):=by omega
   by_cases hlt:p<c.size
   ·have hwd:=ut.wide c p hlt;have hw4:=wide4 c p
    go_wp2_with fail
    refine(ut.rune_any c p _ (by omega) hlt).mono ?_;rintro e w1 ⟨hr,rfl⟩;obtain⟨r,b,rfl⟩:=rune_parts hr;clear hr;obtain⟨m,hm⟩:∃m,m=(Utf8.decode c p).2:=⟨_,rfl⟩
    rw[←hm] at hwd hw4 ⊢;have HM:=hD hm;clear hm;by_cases hbr:45<p+m
    ·have hbr':(45:Int)<(p:Int)+(m:Int):=by omega
     have hcut:ut.CutAt c 45 p:=⟨j,HPJ.out,hj1,by omega,.inl (by rw[ut.pos,←HPJ.out,←HM.out];omega)⟩
     have hcp:=cut_pos h0 hcut;obtain⟨k0,k1,k2⟩:=hcp;have HK:=hD hcut;clear hcut;by_cases ho:out.size=0
     all_goals
      first
      | (have zo:out.toList.isEmpty=true:=by rw[zcq];exact decide_eq_true ho
         obtain⟨o2,ho2⟩:∃o2,o2=out:=⟨_,rfl⟩
         have HO:Hid (o2.data.toList=out.data.toList++sep out.data.toList):=by
           rw[ho2,show out.data.toList=[] from List.eq_nil_of_length_eq_zero (by rw[←Lib.size_eq];exact ho)];exact rfl
         have ho3:o2.size≤out.size+1:=by rw[ho2];omega
         go_wp2_with fail
         rw[←ho2]
         clear ho2 ho)
      | (have zo:out.toList.isEmpty=false:=by rw[zcq];exact decide_eq_false ho
         obtain⟨o2,ho2⟩:∃o2,o2=out++{data:=#[32]}:=⟨_,rfl⟩
         have HO:Hid (o2.data.toList=out.data.toList++sep out.data.toList):=by
           rw[ho2];unfold sep;rw[if_neg (λe=>ho (by rw[Lib.size_eq,e];rfl))];exact(by simp:(out++{data:=#[32]}:ByteArray).data.toList=out.data.toList++[32])
         have ho3:o2.size≤out.size+1:=by rw[ho2,ByteArray.size_append];exact Nat.le_refl _
         go_wp2_with fail
         rw[←ho2]
         clear ho2 ho)
     all_goals
      have hql:(c.extract 0 p).data.toList.length=p:=by rw[←Lib.size_eq,ByteArray.size_extract];omega
      obtain⟨W3,cap,hcv,hlies,hb3⟩:∃W3 cap,(convert 9 22 (.string (c.extract 0 p))).run Tryz.prog w1=.ok (.slice (some ⟨w1.heap.size,0,none⟩) p cap) W3∧ow.Lies W3 (.slice (some ⟨w1.heap.size,0,none⟩) p cap) (c.extract 0 p).data.toList∧Below w1.heap.size w1 W3:=by
       have e:(c.extract 0 p).size=p:=by rw[ByteArray.size_extract];omega
       have h1:=Lib.run_convert_string_bytes (P:=Tryz.prog) w1 9 22 5 (c.extract 0 p) Tryz.underlying9 Tryz.underlying22 Tryz.underlying5;have h2:=ow.zct w1 5 (c.extract 0 p);rw[e] at h1 h2;exact⟨_,_,h1,h2,ow.zcp _ _ _⟩
      have hbw3:=hbw.trans (hb3.mono hbw.size);have HL:=hD (ow.zcm hlies);obtain⟨q,hq⟩:∃q,q=(c.extract 0 p).data.toList:=⟨_,rfl⟩
      rw[←hq] at hql HL;have HQ:=hD hq;clear hlies hb3 hq;rw[hcv];simp only[Result.andThen];rw[Oper.upon_value]
      go_wp2_with fail
      refine(b6.specEnc_any _ q _ HL.out (by omega)).mono ?_;rintro e W4 ⟨rfl,hb4⟩;have hbw4:=hbw3.trans (hb4.mono hbw3.size);clear HL hbw3 hb4 hcv hbw;obtain⟨E,hE⟩:∃E:ByteArray,E=⟨(b6.enc q).toArray⟩:=⟨_,rfl⟩
      have hEs:E.size≤64:=by rw[Lib.size_eq,hE];show(b6.enc q).length≤64;rw[b6.zc0];omega
      have hEs':(E.size:Int)≤64:=by omega
      have ho4:(o2.size:Int)≤200001:=by omega
      rw[←hE];have HE2:=hD hE;clear hE;go_wp2
      go_roundw
      case rel =>
       have e2:(o2++(({data:=#[61,63,117,116,102,45,56,63,66,63]}:ByteArray)++E++{data:=#[63,61]})).data.toList=out.data.toList++sep out.data.toList++zaB q:=by
        rw[←HO.out,HE2.out];simp[zaB,head,tail]
       refine⟨c.extract p c.size,_,rfl,rfl,by rw[ByteArray.size_extract];omega,?_,hbw4,λr hr=>HE.out r (ends_step h0 HK.out (by rw[←HQ.out,←e2];exact hr))⟩;rw[ByteArray.size_append,ByteArray.size_append,ByteArray.size_append,ByteArray.size_extract];show _+(10+E.size+2)+_≤_;omega
      case measure =>
       simp only[ByteArray.size_extract];simp;omega
    ·have hbr':(p:Int)+(m:Int)≤45:=by omega
     go_wp2
     go_round
     case rel=>exact⟨j+1,by rw[ut.pos,←HPJ.out,←HM.out];omega,by rw[ut.pos,←HPJ.out,←HM.out];omega,by rw[ut.pos,←HPJ.out,←HM.out];go_num⟩
     case measure=>simp[intOf];omega
   ·have hcut:ut.CutAt c 45 p:=⟨j,HPJ.out,hj1,by omega,.inr (by omega)⟩
    have hcp:=cut_pos h0 hcut;obtain⟨k0,k1,k2⟩:=hcp;have HK:=hD hcut;clear hcut;by_cases ho:out.size=0
    all_goals
     first
     | (have zo:out.toList.isEmpty=true:=by rw[zcq];exact decide_eq_true ho
        obtain⟨o2,ho2⟩:∃o2,o2=out:=⟨_,rfl⟩
        have HO:Hid (o2.data.toList=out.data.toList++sep out.data.toList):=by
          rw[ho2,show out.data.toList=[] from List.eq_nil_of_length_eq_zero (by rw[←Lib.size_eq];exact ho)];exact rfl
        have ho3:o2.size≤out.size+1:=by rw[ho2];omega
        go_wp2_with fail
        rw[←ho2]
        clear ho2 ho)
     | (have zo:out.toList.isEmpty=false:=by rw[zcq];exact decide_eq_false ho
        obtain⟨o2,ho2⟩:∃o2,o2=out++{data:=#[32]}:=⟨_,rfl⟩
        have HO:Hid (o2.data.toList=out.data.toList++sep out.data.toList):=by
          rw[ho2];unfold sep;rw[if_neg (λe=>ho (by rw[Lib.size_eq,e];rfl))];exact(by simp:(out++{data:=#[32]}:ByteArray).data.toList=out.data.toList++[32])
        have ho3:o2.size≤out.size+1:=by rw[ho2,ByteArray.size_append];exact Nat.le_refl _
        go_wp2_with fail
        rw[←ho2]
        clear ho2 ho)
    all_goals
     have hql:(c.extract 0 p).data.toList.length=p:=by rw[←Lib.size_eq,ByteArray.size_extract];omega
     obtain⟨W3,cap,hcv,hlies,hb3⟩:∃W3 cap,(convert 9 22 (.string (c.extract 0 p))).run Tryz.prog wr=.ok (.slice (some ⟨wr.heap.size,0,none⟩) p cap) W3∧ow.Lies W3 (.slice (some ⟨wr.heap.size,0,none⟩) p cap) (c.extract 0 p).data.toList∧Below wr.heap.size wr W3:=by
      have e:(c.extract 0 p).size=p:=by rw[ByteArray.size_extract];omega
      have h1:=Lib.run_convert_string_bytes (P:=Tryz.prog) wr 9 22 5 (c.extract 0 p) Tryz.underlying9 Tryz.underlying22 Tryz.underlying5;have h2:=ow.zct wr 5 (c.extract 0 p);rw[e] at h1 h2;exact⟨_,_,h1,h2,ow.zcp _ _ _⟩
     have hbw3:=hbw.trans (hb3.mono hbw.size);have HL:=hD (ow.zcm hlies);obtain⟨q,hq⟩:∃q,q=(c.extract 0 p).data.toList:=⟨_,rfl⟩
     rw[←hq] at hql HL;have HQ:=hD hq;clear hlies hb3 hq;rw[hcv];simp only[Result.andThen];rw[Oper.upon_value]
     go_wp2_with fail
     refine(b6.specEnc_any _ q _ HL.out (by omega)).mono ?_;rintro e W4 ⟨rfl,hb4⟩;have hbw4:=hbw3.trans (hb4.mono hbw3.size);clear HL hbw3 hb4 hcv hbw;obtain⟨E,hE⟩:∃E:ByteArray,E=⟨(b6.enc q).toArray⟩:=⟨_,rfl⟩
     have hEs:E.size≤64:=by rw[Lib.size_eq,hE];show(b6.enc q).length≤64;rw[b6.zc0];omega
     have hEs':(E.size:Int)≤64:=by omega
     have ho4:(o2.size:Int)≤200001:=by omega
     rw[←hE];have HE2:=hD hE;clear hE;go_wp2
     go_roundw
     case rel =>
      have e2:(o2++(({data:=#[61,63,117,116,102,45,56,63,66,63]}:ByteArray)++E++{data:=#[63,61]})).data.toList=out.data.toList++sep out.data.toList++zaB q:=by
       rw[←HO.out,HE2.out];simp[zaB,head,tail]
      refine⟨c.extract p c.size,_,rfl,rfl,by rw[ByteArray.size_extract];omega,?_,hbw4,λr hr=>HE.out r (ends_step h0 HK.out (by rw[←HQ.out,←e2];exact hr))⟩;rw[ByteArray.size_append,ByteArray.size_append,ByteArray.size_append,ByteArray.size_extract];show _+(10+E.size+2)+_≤_;omega
     case measure =>
      simp only[ByteArray.size_extract];simp;omega
end hd
namespace hd
open Go
def zaL:Bool→List (List UInt8)→List UInt8
 | _,[]=>[]
 | f,x::r=>(if f then[] else[32])++x++zaL false r
theorem join_cut:∀(l cur:List UInt8) (f:Bool),zaL f (cutGo cur l)=(if f then[] else[32])++cur++l
 | [],cur,f=>by simp[cutGo,zaL]
 | b::l,cur,f=>by
  rw[cutGo]
  split
  ·rename_i h;have hb:b=32:=by rw[←UInt8.toNat_inj];exact h
   rw[zaL,join_cut l [] false];simp[hb]
  ·rw[join_cut l (cur++[b]) f];simp
theorem dec_join:∀(ws:List (List UInt8)) (f was:Bool) (o:List UInt8),(∀x∈ws,∀y,¬Coded x y)→Dec f was ws o→o=zaL f ws
 | [],f,was,o,_,h=>h
 | x::r,f,was,o,hn,h=>by
  rcases h with⟨y,p,hc,_⟩|⟨_,p,hd,rfl⟩
  ·exact absurd hc (hn x List.mem_cons_self y)
  ·rw[zaL,dec_join r false false p (λz hz=>hn z (List.mem_cons_of_mem _ hz)) hd]
theorem cut_infix:∀(l cur x:List UInt8),x∈cutGo cur l→∃p q,cur++l=p++x++q
 | [],cur,x,h=>by
  simp[cutGo] at h;exact⟨[],[],by simp[h]⟩
 | b::l,cur,x,h=>by
  rw[cutGo] at h
  split at h
  ·rcases List.mem_cons.1 h with rfl|h
   ·exact⟨[],b::l,by simp⟩
   ·obtain⟨p,q,e⟩:=cut_infix l [] x h;exact⟨cur++b::p,q,by rw[List.nil_append] at e;rw[e];simp⟩
  ·obtain⟨p,q,e⟩:=cut_infix l (cur++[b]) x h;exact⟨p,q,by rw[←e];simp⟩
theorem coded_sign{x y p q:List UInt8}(h:Coded x y):Lib.contains (p++x++q) sign=true:=by
 obtain⟨t,ht⟩:=List.isPrefixOf_iff_prefix.1 h.1;rw[contains_iff,←ht];refine⟨p.length,?_,?_⟩
 ·rw[List.append_assoc,List.getElem?_append_right lR];simp[head]
 ·rw[List.append_assoc,List.getElem?_append_right (by omega)];simp[head]
theorem plain_back{l o:List UInt8}(h:Plain l)(hd:Dec true false (cutGo [] l) o):o=l:=by
 have:=dec_join _ _ _ _ (λx hx y hc=>by
  obtain⟨p,q,e⟩:=cut_infix l [] x hx;have h1:=coded_sign (p:=p) (q:=q) hc;rw[List.nil_append] at e;rw[←e,h.2] at h1
  cases h1) hd
 rw[this,join_cut];simp
def signs(x:List UInt8):Prop:=∀b∈x,33≤b.toNat∧b.toNat≤126
theorem cut_last:∀(x cur:List UInt8),signs x→cutGo cur x=[cur++x]
 | [],cur,_=>by simp[cutGo]
 | b::x,cur,h=>by
  have hb:=h b List.mem_cons_self;rw[cutGo,if_neg (by omega),cut_last x (cur++[b]) (λc hc=>h c (List.mem_cons_of_mem _ hc))];simp
theorem cut_first:∀(x cur r:List UInt8),signs x→cutGo cur (x++32::r)=(cur++x)::cutGo [] r
 | [],cur,r,_=>by simp[cutGo]
 | b::x,cur,r,h=>by
  have hb:=h b List.mem_cons_self;rw[List.cons_append,cutGo,if_neg (by omega),cut_first x (cur++[b]) r (λc hc=>h c (List.mem_cons_of_mem _ hc))];simp
theorem cut_join:∀(r:List (List UInt8)) (x:List UInt8),signs x→(∀y∈r,signs y)→cutGo [] (x++zaL false r)=x::r
 | [],x,h,_=>by
  rw[zaL,List.append_nil,cut_last x [] h];rfl
 | y::r,x,h,hr=>by
  have e:x++zaL false (y::r)=x++32::(y++zaL false r):=by simp[zaL]
  rw[e,cut_first x [] _ h,cut_join r y (hr y List.mem_cons_self) (λz hz=>hr z (List.mem_cons_of_mem _ hz))];rfl
theorem wid_word:∀(x:List UInt8) (w:Nat),signs x→w+x.length≤200→x.foldl step (some w)=some (w+x.length)
 | [],w,_,_=>rfl
 | b::x,w,h,hl=>by
  have hb:=h b List.mem_cons_self;simp only[List.length_cons] at hl;rw[List.foldl_cons,st_ch (by omega) (by omega) (by omega) (by omega),wid_word x (w+1) (λc hc=>h c (List.mem_cons_of_mem _ hc)) (by omega)];simp;omega
theorem wid_join:∀(r:List (List UInt8)) (x:List UInt8),signs x→x≠[]→x.length≤200→(∀y∈r,signs y∧y≠[]∧y.length≤200)→∃w,wid (x++zaL false r)=some w∧0<w
 | [],x,h,h0,hl,_=>by
  rw[zaL,List.append_nil];exact⟨0+x.length,wid_word x 0 h (by omega),by have:=List.length_pos_iff.2 h0;omega⟩
 | y::r,x,h,h0,hl,hr=>by
  have hy:=hr y List.mem_cons_self;obtain⟨w,hw,hp⟩:=wid_join r y hy.1 hy.2.1 hy.2.2 (λz hz=>hr z (List.mem_cons_of_mem _ hz));refine⟨w,?_,hp⟩;have e:x++zaL false (y::r)=x++32::(y++zaL false r):=by simp[zaL]
  rw[e];unfold wid;rw[List.foldl_append,wid_word x 0 h (by omega),List.foldl_cons,st_sp (by rfl) (by have:=List.length_pos_iff.2 h0;omega)];exact hw
theorem letter_sign:∀n:Fin 64,33≤(b6.L n.val).toNat∧(b6.L n.val).toNat≤126:=by decide +kernel
theorem lsign(n:Nat)(h:n<64):33≤(b6.L n).toNat∧(b6.L n).toNat≤126:=letter_sign ⟨n,h⟩
theorem enc_signs:∀(n:Nat) (l:List UInt8),l.length≤n→signs (b6.enc l)
 | n,[],_=>by simp[b6.enc,signs]
 | n,[a],_=>by
  have ha:=a.toNat_lt;intro b hb;simp only[b6.enc,List.mem_cons,List.not_mem_nil,or_false] at hb
  rcases hb with rfl|rfl|rfl|rfl
  ·exact lsign _ (by omega)
  ·exact lsign _ (by omega)
  ·decide
  ·decide
 | n,[a,c],_=>by
  have ha:=a.toNat_lt;have hc:=c.toNat_lt;intro b hb;simp only[b6.enc,List.mem_cons,List.not_mem_nil,or_false] at hb
  rcases hb with rfl|rfl|rfl|rfl
  ·exact lsign _ (by omega)
  ·exact lsign _ (by omega)
  ·exact lsign _ (by omega)
  ·decide
 | 0,a::c::d::r,h=>by simp at h
 | n+1,a::c::d::r,h=>by
  have ha:=a.toNat_lt;have hc:=c.toNat_lt;have hd:=d.toNat_lt;intro b hb;simp only[b6.enc,List.mem_cons] at hb;have ih:=enc_signs n r (by simp at h;omega)
  rcases hb with hb|hb|hb|hb|hb
  ·rw[hb];exact lsign _ (by omega)
  ·rw[hb];exact lsign _ (by omega)
  ·rw[hb];exact lsign _ (by omega)
  ·rw[hb];exact lsign _ (by omega)
  ·exact ih b hb
theorem word_signs(q:List UInt8):signs (zaB q):=by
 intro b hb;unfold zaB at hb
 rcases List.mem_append.1 hb with hb|hb
 ·rcases List.mem_append.1 hb with hb|hb
  ·have:∀b∈head,33≤b.toNat∧b.toNat≤126:=by decide
   exact this b hb
  ·exact enc_signs q.length q lR b hb
 ·have:∀b∈tail,33≤b.toNat∧b.toNat≤126:=by decide
  exact this b hb
theorem word_coded{q:List UInt8}(h:q≠[])(hr:ut.Right ⟨q.toArray⟩):Coded (zaB q) q:=by
 have e:(zaB q).drop 10=b6.enc q++tail:=by
  unfold zaB;rw[List.append_assoc];exact List.drop_left (l₁:=head)
 refine⟨?_,?_,?_,h,hr⟩
 ·exact List.isPrefixOf_iff_prefix.2 ⟨b6.enc q++tail,by unfold zaB;simp⟩
 ·rw[e];exact List.isSuffixOf_iff_suffix.2 ⟨b6.enc q,rfl⟩
 ·rw[e,List.length_append,show tail.length=2 from rfl,Nat.add_sub_cancel,List.take_left];exact b6.dec_enc q
theorem dec_codes:∀(qs:List (List UInt8)) (f was:Bool),(f=true∨was=true)→(∀q∈qs,Coded (zaB q) q)→Dec f was (qs.map zaB) qs.flatten
 | [],f,was,_,_=>rfl
 | q::qs,f,was,hf,h=>by
  have:=dec_code (f:=f) (was:=was) (h q List.mem_cons_self) (dec_codes qs false true (.inr rfl) (λz hz=>h z (List.mem_cons_of_mem _ hz)));rw[if_pos (by rcases hf with hf|hf<;>simp[hf])] at this;simpa using this
def rows(out:List UInt8)(qs:List (List UInt8)):List UInt8:=qs.foldl (λo q=>o++sep o++zaB q) out
theorem word_ne(q:List UInt8):zaB q≠[]:=by simp[zaB,head]
theorem zbt:∀(qs:List (List UInt8)) (out:List UInt8),out≠[]→rows out qs=out++zaL false (qs.map zaB)
 | [],out,_=>by simp[rows,zaL]
 | q::qs,out,h=>by
  have e:rows out (q::qs)=rows (out++sep out++zaB q) qs:=rfl;rw[e,zbt qs _ (by simp[word_ne]),sep,if_neg h];simp[zaL]
theorem ext_suf(A B:List UInt8):(ut.mk (A++B)).extract A.length (ut.mk (A++B)).size=ut.mk B:=by
 refine ut.zcX ?_;rw[Lib.extract_data,ut.mk_list,ut.mk_list,ut.zb5];simp
theorem ends_chunks:∀(n:Nat) (zs:List Int) (out r:List UInt8),ut.Runes zs→Ends n (ut.mk (zs.flatMap ut.encB)) out r→∃qs:List (List UInt8),zs.flatMap ut.encB=qs.flatten∧(∀q∈qs,q≠[]∧q.length≤45∧ut.Right ⟨q.toArray⟩)∧r=rows out qs∧r.length≤out.length+73+2*(zs.flatMap ut.encB).length∧(zs.flatMap ut.encB=[]→r=out):=by
 intro n
 induction n with
 | zero =>
  intro zs out r hz h;have h1:=List.eq_nil_of_length_eq_zero (by rw[←ut.zb5];exact h.1);exact⟨[],by rw[h1];rfl,λq hq=>(by cases hq),h.2,by rw[h.2];omega,λ_=>h.2⟩
 | succ n ih =>
  intro zs out r hz h
  rcases h with h|⟨h0,k,hk,h⟩
  ·have h1:=List.eq_nil_of_length_eq_zero (by rw[←ut.zb5];exact h.1);exact⟨[],by rw[h1];rfl,λq hq=>(by cases hq),h.2,by rw[h.2];omega,λ_=>h.2⟩
  ·obtain⟨k0,k1,k2⟩:=cut_pos h0 hk;obtain⟨j,hkj,hks,hkn,hx⟩:=hk;have hj:j≤zs.length:=by
    by_cases e:j≤zs.length
    ·exact e
    ·have:=ut.pos_lt (ut.mk (zs.flatMap ut.encB)) (show zs.length<j by omega);rw[ut.pos_flat_end zs hz] at this;omega
   have hp:=ut.pos_flat zs hz j hj;have hsplit:zs.flatMap ut.encB=(zs.take j).flatMap ut.encB++(zs.drop j).flatMap ut.encB:=by rw[←List.flatMap_append,List.take_append_drop]
   obtain⟨A,hA⟩:∃A,A=(zs.take j).flatMap ut.encB:=⟨_,rfl⟩
   obtain⟨B,hB⟩:∃B,B=(zs.drop j).flatMap ut.encB:=⟨_,rfl⟩
   have hAl:A.length=k:=by rw[hA,←hp,←hkj]
   have e1:(ut.mk (zs.flatMap ut.encB)).extract 0 k=ut.mk A:=by rw[hsplit,←hA,←hAl];exact ut.extract_pre A _
   have e2:(ut.mk (zs.flatMap ut.encB)).extract k (ut.mk (zs.flatMap ut.encB)).size=ut.mk B:=by rw[hsplit,←hA,←hB,←hAl];exact ext_suf A B
   rw[e1,e2,hB,ut.mk_list] at h;obtain⟨qs,q1,q2,q3,q4,q5⟩:=ih (zs.drop j) _ _ (λr hr=>hz r (List.mem_of_mem_drop hr)) h;rw[←hB] at q1 q4 q5;have hfl:(zs.flatMap ut.encB).length=A.length+B.length:=by rw[hsplit,←hA,←hB,List.length_append]
   have hsl:(out++sep out++zaB A).length≤out.length+1+72:=by
    rw[List.length_append,List.length_append,word_len];have:(sep out).length≤1:=by unfold sep;split<;>simp
    omega
   refine⟨A::qs,by rw[hsplit,←hA,←hB,q1];rfl,?_,q3,?_,λe=>?_⟩
   ·intro q hq
    rcases List.mem_cons.1 hq with rfl|hq
    ·refine⟨λe=>by rw[e] at hAl;simp at hAl;omega,by omega,?_⟩;have:=ut.right_flat (zs.take j) (λr hr=>hz r (List.mem_of_mem_take hr));rw[hA];exact this
    ·exact q2 q hq
   ·by_cases hB0:B=[]
    ·rw[q5 hB0];omega
    ·have hk42:42≤k:=by
      rcases hx with hx|hx
      ·rw[ut.pos,←hkj] at hx;have:=wide4 (ut.mk (zs.flatMap ut.encB)) k;omega
      ·exfalso
       rw[ut.zb5,hfl,hAl] at hx;have:=List.length_pos_iff.2 hB0;omega
     omega
   ·exfalso
    rw[e] at h0;exact h0 rfl
theorem round_trip{zs:List Int}(hz:ut.Runes zs)(hl:(zs.flatMap ut.encB).length≤900){r:ByteArray}(h:EncIs (ut.mk (zs.flatMap ut.encB)) r):Safe r.data.toList∧∀o,Dec true false (cutGo [] r.data.toList) o→o=zs.flatMap ut.encB:=by
 rcases h with⟨hp,rfl⟩|⟨hp,n,he⟩
 ·exact⟨hp.1,λo ho=>plain_back hp ho⟩
 ·obtain⟨qs,q1,q2,q3,q4,q5⟩:=ends_chunks n zs [] _ hz he
  match qs,q1,q2,q3 with
  | [],q1,q2,q3 =>
   exfalso
   apply hp;rw[ut.mk_list,q1];exact⟨⟨by simp,.inl rfl⟩,rfl⟩
  | q::qs,q1,q2,q3 =>
   have e:r.data.toList=zaB q++zaL false (qs.map zaB):=by
    rw[q3];have:rows [] (q::qs)=rows (zaB q) qs:=rfl;rw[this,zbt qs _ (word_ne q)]
   have hws:∀y∈qs.map zaB,signs y∧y≠[]∧y.length≤200:=λy hy=>by
    obtain⟨z,hz,rfl⟩:=List.mem_map.1 hy;refine⟨word_signs z,word_ne z,?_⟩;have:=(q2 z (List.mem_cons_of_mem _ hz)).2.1;rw[word_len];omega
   have hq:=q2 q List.mem_cons_self;constructor
   ·refine⟨by rw[List.length_nil] at q4;omega,.inr ?_⟩;rw[e];exact wid_join _ _ (word_signs q) (word_ne q) (by rw[word_len];omega) hws
   ·intro o ho;rw[e,cut_join _ _ (word_signs q) (λy hy=>(hws y hy).1)] at ho;have:=dec_codes (q::qs) true false (.inl rfl) (λz hz=>word_coded (q2 z hz).1 (q2 z hz).2.2);rw[q1];exact dec_one _ _ _ _ _ ho this
end hd
namespace ut
open Go.RowKit
theorem F_sc(n k b0 b1 b2 b3:Nat):scB (((decF n k b0 b1 b2 b3).1:Nat):Int)=true:=by
 have hs:∀c:Nat,Utf8.valid (c:Int)=true→scB (c:Int)=true:=by
  intro c h;rw[zdi] at h;simp[scB,inB];omega
 unfold decF
 split
 ·simp[scB,inB];omega
 split
 ·split
  ·simp only;simp[scB,inB];omega
  ·rfl
 split
 ·split
  ·rename_i g;simp only[Bool.and_eq_true] at g;exact hs _ g.2
  ·rfl
 split
 ·split
  ·rename_i g;simp only[Bool.and_eq_true] at g;exact hs _ g.2
  ·rfl
 ·rfl
theorem runesL_sc(s:ByteArray)(n:Nat):Runes (runesL s n):=by
 induction n with
 | zero=>intro r hr;cases hr
 | succ n ih =>
  intro r hr;rw[runesL] at hr
  rcases List.mem_append.1 hr with h|h
  ·exact ih r h
  ·rw[List.mem_singleton.1 h,zaJ];exact F_sc _ _ _ _ _ _
theorem fix_flat(s:ByteArray)(n:Nat)(h:pos s n=s.size):fixL s n=(runesL s n).flatMap encB:=by
 have h1:=runes_fix s n (λm hm=>by rw[←h];exact pos_lt s hm);have h2:=flat_runes (runesL s n);rw[h2] at h1;exact h1.symm
theorem fix_right(s:ByteArray)(hr:Right s)(n:Nat)(h:pos s n≤s.size):fixL s n=s.data.toList.take (pos s n):=by
 induction n with
 | zero=>simp[fixL,pos]
 | succ n ih =>
  have hup:=pos_up s n;have hlt:pos s n<s.size:=by omega
  rw[fixL,ih (by omega),piece_good (hr n hlt),Lib.extract_data,show pos s n+(Utf8.decode s (pos s n)).2-pos s n=(Utf8.decode s (pos s n)).2 from by omega];rw[show pos s (n+1)=pos s n+(Utf8.decode s (pos s n)).2 from rfl,List.take_add]
end ut
namespace ow
open Go.RowKit
section
variable {P:Program}(w:World)
end
end ow
namespace hd
open Go.RowKit
theorem infoStr:(Tryz.prog.info? 9).map (λi=>(i.zero,i.size,i.bytes))=some (some (.string ByteArray.empty),1,16):=by kernel_rfl
def tv(l:List UInt8):Value:=.string ⟨l.toArray⟩
def piece(s:ByteArray)(f i:Nat):List UInt8:=(s.data.toList.drop f).take (i-f)
theorem tv_piece(s:ByteArray)(f i:Nat):tv (piece s f i)=.string (s.extract f i):=by
 unfold tv piece
 congr 1
 apply ByteArray.ext;rw[←Array.toList_inj];show(List.take _ _).toArray.toList=_;rw[List.toList_toArray,←Lib.toList_data (s.extract f i),Lib.extract_toList]
theorem drop_at(s:ByteArray)(i:Nat)(h:i<s.size):s.data.toList.drop i=s[i]::s.data.toList.drop (i+1):=by
 rw[List.drop_eq_getElem_cons (by simpa using h)];rfl
theorem cut_blank{s:ByteArray}{f i:Nat}{ws:List (List UInt8)}(h:ws++cutGo (piece s f i) (s.data.toList.drop i)=cutGo [] s.data.toList)(hi:i<s.size)(hb:(s[i]'hi).toNat=32) :
  (ws++[piece s f i])++cutGo (piece s (i+1) (i+1)) (s.data.toList.drop (i+1))=cutGo [] s.data.toList:=by
 rw[drop_at s i hi,cutGo,if_pos hb] at h;rw[←h,show piece s (i+1) (i+1)=[] from by simp[piece],List.append_assoc];rfl
theorem cut_sign{s:ByteArray}{f i:Nat}{ws:List (List UInt8)}(h:ws++cutGo (piece s f i) (s.data.toList.drop i)=cutGo [] s.data.toList)(hf:f≤i)(hi:i<s.size)(hb:(s[i]'hi).toNat≠32) :
  ws++cutGo (piece s f (i+1)) (s.data.toList.drop (i+1))=cutGo [] s.data.toList:=by
 rw[drop_at s i hi,cutGo,if_neg hb] at h;rw[←h,show piece s f (i+1)=piece s f i++[s[i]] from Lib.piece_more hf (by rw[List.getElem?_eq_getElem (by simpa using hi)];rfl)]
theorem cut_end{s:ByteArray}{f i:Nat}{ws:List (List UInt8)}(h:ws++cutGo (piece s f i) (s.data.toList.drop i)=cutGo [] s.data.toList)(hi:s.size≤i):ws++[piece s f i]=cutGo [] s.data.toList:=by
 rw[List.drop_eq_nil_of_le (by rw[←Lib.size_eq];exact hi)] at h;exact h
theorem cut_any(s:ByteArray)(w:World)(hs:s.size≤1048576) :
  Calls Tryz.prog 123 #[.string s,.int .u8 32] w λe w'=>∃v,e=.returned v∧w'.ownsRow w.heap.size 9 1 v (cutGo [] s.data.toList).length ((cutGo [] s.data.toList).map tv)∧Below w.heap.size w w':=by
 obtain⟨i0,hi,hz0,hz1,hz2⟩:=info_parts infoStr;go_enter Tryz.func123,Tryz.ntmps123;go_wp2
 go_loopw [5,6,7] (λv a b wr=>∃(f i:Nat) (ws:List (List UInt8)),f≤i∧i≤s.size∧a=.int .i64 f∧b=.int .i64 i∧ws.length≤i∧wr.ownsRow w.heap.size 9 1 v ws.length (ws.map tv)∧Below w.heap.size w wr∧ws++cutGo (piece s f i) (s.data.toList.drop i)=cutGo [] s.data.toList) (λ_ _ b _=>s.size-(intOf b).toNat)
 case atStart=>exact⟨0,0,[],Nat.le_refl _,Nat.zero_le _,rfl,rfl,Nat.le_refl _,ow.zcw w _,bR.alloc lR _,rfl⟩
 case round =>
  obtain⟨f,i,ws,hfi,his,rfl,rfl,hwl,hown,hbw,hc⟩:=hrel;have HC:=hD hc;clear hc;have hBs:=hbw.size;have c1:(0:Int)≤(f:Int):=by omega
  have c2:(f:Int)≤(i:Int):=by omega
  have c3:(i:Int)≤(s.size:Int):=by omega
  by_cases hlt:i<s.size
  ·by_cases hb:(s[i]'hlt).toNat=32
   ·have d1:=beq_iff_eq.2 (by omega);have HB:=hD hb;clear hb
    go_wp2_with (at_builtin;refine wpList_append_own _ rfl _ _ 39 rfl w.heap.size 9 i0 (.string ByteArray.empty) 1 16 Tryz.underlying39 hi hz0 hz1 hz2 rfl (by decide) _ _ _ rfl (hown.alloc _) ⟨wr.heap.size,0,none⟩ 1 1 [.string (s.extract f i)] rfl rfl (ow.zaI _ [.string (s.extract f i)] _) (by intro u hu;simp at hu;subst hu;rfl) (by unfold maxLen;omega) (by omega) (by simp;omega) ?_;intro v' w3 hown3 hgrow3 hnil3)
    have hb3:=Below.grown (hbw.alloc hBs _) hgrow3 (by simp;omega) (ow.zaN hown);have HA:Hid (w3.ownsRow w.heap.size 9 1 v' (ws++[piece s f i]).length ((ws++[piece s f i]).map tv)∧Below w.heap.size w w3):=⟨by rw[List.map_append,List.map_cons,tv_piece,List.length_append];exact hown3,hb3⟩
    clear hown3 hgrow3 hnil3 hb3 hown hbw;go_wp2
    go_roundw
    case rel=>exact⟨i+1,i+1,ws++[piece s f i],Nat.le_refl _,by omega,by go_num,by go_num,by simp;omega,HA.out.1,HA.out.2,cut_blank HC.out hlt HB.out⟩
    case measure=>simp[intOf];omega
   ·have d1:=beq_eq_false_iff_ne.2 (by omega);go_wp2
    go_roundw
    case rel=>exact⟨f,i+1,ws,by omega,by omega,rfl,by go_num,by omega,hown,hbw,cut_sign HC.out hfi hlt hb⟩
    case measure=>simp[intOf];omega
  ·have c4:(f:Int)≤(s.size:Int):=by omega
   go_wp2_with (at_builtin;refine wpList_append_own _ rfl _ _ 39 rfl w.heap.size 9 i0 (.string ByteArray.empty) 1 16 Tryz.underlying39 hi hz0 hz1 hz2 rfl (by decide) _ _ _ rfl (hown.alloc _) ⟨wr.heap.size,0,none⟩ 1 1 [.string (s.extract f s.size)] rfl rfl (ow.zaI _ [.string (s.extract f s.size)] _) (by intro u hu;simp at hu;subst hu;rfl) (by unfold maxLen;omega) (by omega) (by simp;omega) ?_;intro v' w3 hown3 hgrow3 hnil3)
   have hb3:=Below.grown (hbw.alloc hBs _) hgrow3 (by simp;omega) (ow.zaN hown);have HA:Hid (w3.ownsRow w.heap.size 9 1 v' (cutGo [] s.data.toList).length ((cutGo [] s.data.toList).map tv)∧Below w.heap.size w w3):=by
    have e:i=s.size:=by omega
    have hc:=cut_end HC.out (by omega);rw[←hc,List.map_append,List.map_cons,tv_piece,List.length_append,e];exact⟨hown3,hb3⟩
   clear hown3 hgrow3 hnil3 hb3 hown hbw HC;go_wp2;go_ret;exact⟨v',rfl,HA.out⟩
end hd
namespace hn
open Go.RowKit
def Says(p:Prop)(e:Ending):Prop:=∃b:Bool,e=.returned (.bool b)∧(b=true↔p)
def good(s:ByteArray)(j:Nat):Prop:=∃h:j<s.size,33≤((s[j]'h).toNat:Int)∧((s[j]'h).toNat:Int)≤126∧((s[j]'h).toNat:Int)≠58
def za9(s:ByteArray):Prop:=1≤s.size∧s.size≤40∧∀j,j<s.size→good s j
def inB(n a b:Int):Bool:=decide (a≤n∧n≤b)
end hn
end Go.Proofs.YtmnflpmfngjllaaGreatDoor
