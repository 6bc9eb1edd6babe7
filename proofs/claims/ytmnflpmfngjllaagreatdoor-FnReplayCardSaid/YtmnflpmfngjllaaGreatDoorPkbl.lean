/-
  FnReplayCardSaid
-/
import Derived.Test.YtmnflpmfngjllaaGreatDoorPkbk
set_option maxHeartbeats 16000000
set_option maxRecDepth 100000
set_option linter.unusedVariables false
namespace Go.Proofs.YtmnflpmfngjllaaGreatDoor
namespace mb
open Go.RowKit
open it mu
open rm (pl its its_next mtn_is rok_yes mtn fin rok numB)
def tx(l:List UInt8):ByteArray:=⟨l.toArray⟩
theorem zco(l:List UInt8):(tx l).size=l.length:=by simp[tx,ByteArray.size]
theorem tx_self(b:ByteArray):tx b.data.toList=b:=by cases b;simp[tx]
theorem tx_get(l:List UInt8)(i:Nat)(h:i<(tx l).size)(h':i<l.length):(tx l)[i]=l[i]:=by
 show(l.toArray)[i]'_=_;simp
theorem tx_ex(A B C:List UInt8)(i j:Nat)(hi:i=A.length)(hj:j=A.length+B.length):(tx (A++B++C)).extract i j=tx B:=by
 subst hi hj;apply ByteArray.ext;show _=B.toArray;rw[ByteArray.data_extract];apply Array.toList_inj.1;simp[tx,List.extract_eq_take_drop]
theorem be2(n:Nat):lg.be 2 n=[UInt8.ofNat (n / 256),UInt8.ofNat n]:=by simp[lg.be]
theorem num_be2(n:Nat)(h:n<65536):numB (tx (lg.be 2 n))=n:=by
 unfold rm.numB rm.num tx;rw[be2];simp;omega
theorem take_split{ps:List Pr}{j:Nat}(h:j<ps.length):itsB ps ps.length=itsB ps j++itB (ps.getD j no)++(ps.drop (j+1)).flatMap itB:=by
 have e:ps=ps.take j++ps.getD j no::ps.drop (j+1):=by
  have:ps.getD j no=ps[j]:=by simp[List.getD_eq_getElem?_getD,h]
  rw[this,←List.drop_eq_getElem_cons h,List.take_append_drop]
 unfold itsB;rw[List.take_length]
 conv=>lhs;rw[e]
 rw[List.flatMap_append,List.flatMap_cons,List.append_assoc]
theorem its_read{ps:List Pr}{H:List UInt8}(hf:∀j,j<ps.length→(ps.getD j no).1.size≤200∧(ps.getD j no).2.size≤4000):∀j,j≤ps.length→its j (pl (tx (H++itsB ps ps.length)) H.length)=(ps.take j,pl (tx (H++itsB ps ps.length)) (H.length+(itsB ps j).length))
 | 0,_=>by simp[its,itsB]
 | j+1,hj=>by
  have ih:=its_read (H:=H) hf j (by omega);have hp:=hf j (by omega);obtain⟨k,hk⟩:∃k,k=ps.getD j no:=⟨_,rfl⟩
  have hs:=take_split (ps:=ps) (j:=j) (by omega);have hlen:=itB_len (ps.getD j no);have hst:=zc7 (ps:=ps) (k:=j) (by omega);have h1:=num_be2 (ps.getD j no).1.size (by omega);have h2:=num_be2 (ps.getD j no).2.size (by omega);have hsz:(tx (H++itsB ps ps.length)).size=H.length+(itsB ps j).length+(4+(ps.getD j no).1.size+(ps.getD j no).2.size)+((ps.drop (j+1)).flatMap itB).length:=by
   rw[zco,hs];simp only[List.length_append,hlen];omega
  have htk:ps.take (j+1)=ps.take j++[ps.getD j no]:=by
   rw[List.take_add_one]
   congr 1
   have:j<ps.length:=by omega
   simp[List.getD_eq_getElem?_getD,this]
  rw[←hk] at *;have hl1:k.1.data.toList.length=k.1.size:=rfl;have hl2:k.2.data.toList.length=k.2.size:=rfl;have hb1:=lg.be_len 2 k.1.size;have hb2:=lg.be_len 2 k.2.size;have x1:(tx (H++itsB ps ps.length)).extract (H.length+(itsB ps j).length) (H.length+(itsB ps j).length+2)=tx (lg.be 2 k.1.size):=by
   rw[hs];have:=tx_ex (H++itsB ps j) (lg.be 2 k.1.size) (lg.be 2 k.2.size++k.1.data.toList++k.2.data.toList++(ps.drop (j+1)).flatMap itB) (H.length+(itsB ps j).length) (H.length+(itsB ps j).length+2) (by simp) (by simp[hb1]);simpa [itB,List.append_assoc] using this
  have x2:(tx (H++itsB ps ps.length)).extract (H.length+(itsB ps j).length+2) (H.length+(itsB ps j).length+4)=tx (lg.be 2 k.2.size):=by
   rw[hs];have:=tx_ex (H++itsB ps j++lg.be 2 k.1.size) (lg.be 2 k.2.size) (k.1.data.toList++k.2.data.toList++(ps.drop (j+1)).flatMap itB) (H.length+(itsB ps j).length+2) (H.length+(itsB ps j).length+4) (by simp[hb1];omega) (by simp[hb1,hb2];omega);simpa [itB,List.append_assoc] using this
  have x3:(tx (H++itsB ps ps.length)).extract (H.length+(itsB ps j).length+4) (H.length+(itsB ps j).length+4+k.1.size)=k.1:=by
   rw[hs];have:=tx_ex (H++itsB ps j++lg.be 2 k.1.size++lg.be 2 k.2.size) k.1.data.toList (k.2.data.toList++(ps.drop (j+1)).flatMap itB) (H.length+(itsB ps j).length+4) (H.length+(itsB ps j).length+4+k.1.size) (by simp[hb1,hb2];omega) (by simp[hb1,hb2];omega);rw[tx_self] at this;simpa [itB,List.append_assoc] using this
  have x4:(tx (H++itsB ps ps.length)).extract (H.length+(itsB ps j).length+4+k.1.size) (H.length+(itsB ps j).length+4+k.1.size+k.2.size)=k.2:=by
   rw[hs];have:=tx_ex (H++itsB ps j++lg.be 2 k.1.size++lg.be 2 k.2.size++k.1.data.toList) k.2.data.toList ((ps.drop (j+1)).flatMap itB) (H.length+(itsB ps j).length+4+k.1.size) (H.length+(itsB ps j).length+4+k.1.size+k.2.size) (by simp[hb1,hb2];omega) (by simp[hb1,hb2];omega);rw[tx_self] at this;simpa [itB,List.append_assoc] using this
  have:=its_next ih (k:=k.1.size) (n:=k.2.size) (by omega) (by rw[x1,h1]) (by rw[x2,h2]) (by omega);rw[this,x3,x4,htk,hst]
  congr 2
  simp only[List.length_append,hlen];omega
theorem u8_back{z:Int}(h:0≤z∧z<256):(((u8 z).toNat:Nat):Int)=z:=by
 unfold u8;rw[UInt8.toNat_ofNat'];omega
theorem mu_eq{k u m f:Int}{b:ByteArray}{ps:List Pr}{M:Mu}(h1:k=M.k)(h2:u=M.u)(h3:m=M.m)(h4:f=M.f)(h5:b=M.b)(h6:ps=M.ps):(⟨k,u,m,f,b,ps⟩:Mu)=M:=by
 subst h1 h2 h3 h4 h5 h6;rfl
theorem mb_back{M:Mu}(h:mok M=true):rok (tx (mB M))=true∧mtn (tx (mB M),false)=M:=by
 have hf:=fits_of h;obtain⟨hk,hu,hm,hfl,hb,hn,hi⟩:=hf;have hbl:M.b.data.toList.length=M.b.size:=rfl;have hH:(hdB M++lg.be 2 M.u.toNat++M.b.data.toList).length=7+M.b.size:=by
  simp[hdB,lg.be_len,hbl];omega
 have hsz:(tx (mB M)).size=7+M.b.size+(itsB M.ps M.ps.length).length:=by
  rw[zco,mB,List.length_append,hH]
 have h7:7≤(tx (mB M)).size:=by omega
 have g0:(tx (mB M))[0]=u8 M.k:=(tx_get (mB M) 0 (by omega) (by rw[←zco];omega)).trans (by simp[mB,hdB]);have g1:(tx (mB M))[1]=u8 M.m:=(tx_get (mB M) 1 (by omega) (by rw[←zco];omega)).trans (by simp[mB,hdB]);have g2:(tx (mB M))[2]=u8 M.f:=(tx_get (mB M) 2 (by omega) (by rw[←zco];omega)).trans (by simp[mB,hdB]);have g3:(tx (mB M))[3]=u8 (M.ps.length:Int):=(tx_get (mB M) 3 (by omega) (by rw[←zco];omega)).trans (by simp[mB,hdB]);have g4:(tx (mB M))[4]=u8 (M.b.size:Int):=(tx_get (mB M) 4 (by omega) (by rw[←zco];omega)).trans (by simp[mB,hdB]);have n3:((tx (mB M))[3]).toNat=M.ps.length:=by rw[g3];have:=u8_back (z:=(M.ps.length:Int)) (by omega);omega
 have n4:((tx (mB M))[4]).toNat=M.b.size:=by rw[g4];have:=u8_back (z:=(M.b.size:Int)) (by omega);omega
 have x5:(tx (mB M)).extract 5 7=tx (lg.be 2 M.u.toNat):=by
  have:=tx_ex (hdB M) (lg.be 2 M.u.toNat) (M.b.data.toList++itsB M.ps M.ps.length) 5 7 (by simp[hdB]) (by simp[hdB,lg.be_len]);simpa [mB,List.append_assoc] using this
 have x7:(tx (mB M)).extract 7 (7+M.b.size)=M.b:=by
  have:=tx_ex (hdB M++lg.be 2 M.u.toNat) M.b.data.toList (itsB M.ps M.ps.length) 7 (7+M.b.size) (by simp[hdB,lg.be_len]) (by simp[hdB,lg.be_len,hbl]);rw[tx_self] at this;simpa [mB,List.append_assoc] using this
 have hi2:=its_read (H:=hdB M++lg.be 2 M.u.toNat++M.b.data.toList) hi M.ps.length lR;rw[hH,List.take_length] at hi2;have hi3:its ((tx (mB M))[3]).toNat (pl (tx (mB M)) (7+((tx (mB M))[4]).toNat))=(M.ps,pl (tx (mB M)) (7+M.b.size+(itsB M.ps M.ps.length).length)):=by
  rw[n3,n4];exact hi2
 have hu5:=num_be2 M.u.toNat (by omega);obtain⟨e1,e2⟩:=mtn_is h7 (by rw[n4];omega) hi3;have e3:mtn (tx (mB M),false)=M:=by
  refine e1.trans (mu_eq ?_ ?_ ?_ ?_ ?_ rfl)
  ·rw[g0];exact u8_back hk
  ·rw[x5,hu5];omega
  ·rw[g1];exact u8_back hm
  ·rw[g2];exact u8_back hfl
  ·rw[n4];exact x7
 refine⟨?_,e3⟩;rw[rok_yes (by rw[e2];rfl) (by rw[e2,rm.pl_size,hsz];omega),e3];exact h
end mb
namespace lg
open Go.RowKit
theorem next_fr{t:ByteArray}{p:Nat}(h:(next t p).1=0):t.extract p (p+7+(next t p).2.size)=fr (next t p).2:=by
 have hk:=next_ok h;unfold next at h hk ⊢;by_cases h1:t.size<p+7
 ·rw[if_pos h1] at h;cases h
 rw[if_neg h1] at h hk ⊢;by_cases h2:numB (t.extract p (p+3))=0∨20000<numB (t.extract p (p+3))
 ·rw[if_pos h2] at h;cases h
 rw[if_neg h2] at h hk ⊢;by_cases h3:t.size<p+7+numB (t.extract p (p+3))
 ·rw[if_pos h3] at h;cases h
 rw[if_neg h3] at h hk ⊢;by_cases h4:fr (t.extract (p+7) (p+7+numB (t.extract p (p+3))))≠t.extract p (p+7+numB (t.extract p (p+3)))
 ·rw[if_pos h4] at h;cases h
 rw[if_neg h4];have h5:=Classical.not_not.1 h4;simp only;rw[zbu (by omega) (by omega),show p+7+(p+7+numB (t.extract p (p+3))-(p+7))=p+7+numB (t.extract p (p+3)) from by omega];exact h5.symm
theorem scan_cat(t:ByteArray):∀f p acc,p≤t.size→t.size-p<f→t.extract 0 p=catR acc→Rights acc→(scan t f p acc).2.2=0→t.extract 0 (scan t f p acc).2.1=catR (scan t f p acc).1∧Rights (scan t f p acc).1
 | 0,p,acc,hp,hf,he,hr,h0=>by omega
 | f+1,p,acc,hp,hf,he,hr,h0=>by
  rw[scan] at h0 ⊢;by_cases h1:t.size≤p
  ·rw[if_pos h1];exact⟨he,hr⟩
  rw[if_neg h1] at h0 ⊢;by_cases h2:(next t p).1=0
  ·rw[if_pos h2] at h0 ⊢;have hk:=next_ok h2;refine scan_cat t f _ _ hk.1 (by omega) ?_ ?_ h0
   ·rw[catR_app,←he,←next_fr h2,ByteArray.extract_append_extract,Nat.min_eq_left (Nat.zero_le _),Nat.max_eq_right (by omega)]
   ·intro x hx
    rcases List.mem_append.1 hx with hx|hx
    ·exact hr x hx
    ·rw[List.mem_singleton] at hx;subst hx;exact⟨hk.2.1,hk.2.2⟩
  ·rw[if_neg h2] at h0;exact absurd h0 h2
theorem recs_cat{d:ByteArray}(h:(recs d).2.2=0)(he:(recs d).2.1=d.size):d=catR (recs d).1∧Rights (recs d).1:=by
 have:=scan_cat d (d.size+1) 0 [] (Nat.zero_le _) (by omega) (by apply ByteArray.ext;simp[catR,nt]) (λx hx=>absurd hx List.not_mem_nil) h;have h2:d.extract 0 (recs d).2.1=catR (recs d).1:=this.1;rw[he,ex_over lR] at h2;exact⟨h2,this.2⟩
end lg
namespace eg
open Go.RowKit
open bx bl
open lg (LV RV fr recs left catR Rights Right)
theorem getD_ext{α:Type}{xs ys:List α}(d:α)(hl:xs.length=ys.length)(h:∀j,j<xs.length→xs.getD j d=ys.getD j d):xs=ys:=by
 refine List.ext_getElem hl λj h1 h2=>?_
 have:=h j h1;simpa [List.getD_eq_getElem?_getD,h1,h2] using this
theorem sameB_eq{x y:Bx}(h:sm.zaO x y):x=y:=by
 obtain⟨h1,h2,h3,h4,h5⟩:=h;have e4:=getD_ext st.noS h4.1 h4.2;have e5:=getD_ext ky.nt h5.1 h5.2;cases x;cases y;simp only at h1 h2 h3 e4 e5;subst h1 h2 h3 e4 e5;rfl
theorem same_eq{xs ys:List Bx}(h:sm.zat xs ys=true):xs=ys:=by
 have h:=ow.dof h;exact getD_ext noB h.1 λj hj=>sameB_eq (h.2 j hj)
theorem rp_app{t:ByteArray}{r:List Bx×Bool}:∀{ts:List ByteArray} {xs ys:List Bx},rp.Rp ts xs (ys,true)→rp.Rp [t] ys r→rp.Rp (ts++[t]) xs r:=by
 intro ts
 induction ts with
 | nil =>
  intro xs ys h h';rw[rp.Rp] at h
  injection h with h _
  subst h;exact h'
 | cons t0 ts ih =>
  intro xs ys h h';rw[List.cons_append];rw[rp.Rp] at h ⊢
  rcases h with⟨_,e⟩|⟨h1,zs,c,hA,hc⟩
  ·exact absurd (show true=false from congrArg Prod.snd e) (by decide)
  ·refine .inr ⟨h1,zs,c,hA,?_⟩
   rcases hc with⟨_,e⟩|⟨c0,hR⟩
   ·exact absurd (show true=false from congrArg Prod.snd e) (by decide)
   ·exact .inr ⟨c0,ih hR h'⟩
def fx(d:ByteArray)(s keep:Int):ByteArray:=(d.extract 0 (left d.size s keep)).extract 0 (recs (d.extract 0 (left d.size s keep))).2.1
structure Fx (r:Int) (d:ByteArray) (s:Int) (D:ByteArray) (keep:Int):Prop where
 ok:lg.ok r D.size s=true
 size:D.size≤60000
 cut:lg.ok r (D.extract 0 (left D.size s keep)).size ((left D.size s keep:Nat):Int)=true
 cutn:(D.extract 0 (left D.size s keep)).size=left D.size s keep
 code:(recs (D.extract 0 (left D.size s keep))).2.2≠8
 len:(recs (D.extract 0 (left D.size s keep))).2.1=(fx D s keep).size
 good:lg.ok r (fx D s keep).size (((fx D s keep).size:Nat):Int)=true
 say:∀ys n c,rp.RlIs r (fx D s keep) (((fx D s keep).size:Nat):Int) ys n c→c=0
end eg
namespace kp
open Go.RowKit Go.WideShapes Go.Deep
open bx
open st (St noS At3)
open ky (TextsAt)
theorem ne_same(x:St)(hx:st.Small x)(w:World):(Go.binOp .neq 92 (.agg #[.int .i64 x.u,.int .i64 x.f,.string x.t]) (.agg #[.int .i64 x.u,.int .i64 x.f,.string x.t])).run Tryz.prog w=.ok (.bool false) w:=by
 rw[sm.ne_run x x hx hx w];have:sm.eqS x x=true:=ow.dt rfl;rw[this];rfl
theorem sameTexts_any(v u:Value)(ks:List ByteArray)(w:World)(h1:TextsAt w v ks)(h2:TextsAt w u ks)(hn:ks.length≤1048576) :
  Calls Tryz.prog 49 #[v,u] w λe w'=>e=.returned (.bool true)∧Below w.heap.size w w':=by
 obtain⟨a,cap,rfl,h1⟩:=h1;obtain⟨c,cap2,rfl,h2⟩:=h2;obtain⟨n,hn'⟩:∃n,n=ks.length:=⟨_,rfl⟩
 have HN:=hD hn';have H1:=hD h1;have H2:=hD h2;rw[←hn'] at hn ⊢;clear h1 h2 hn';have hnn:((n:Int) != (n:Int))=false:=by simp
 go_enter Tryz.func49,Tryz.ntmps49;go_wp2
 go_loopw [5] (λi wr=>∃k:Nat,k≤n∧i=.int .i64 k∧Below w.heap.size w wr) (λi _=>n-(intOf i).toNat)
 case atStart=>exact⟨0,Nat.zero_le _,rfl,Below.refl _ _⟩
 case round =>
  obtain⟨k,hk,rfl,hbw⟩:=hrel;by_cases hlt:k<n
  ·have hka:k<ks.length:=by rw[←HN.out];exact hlt
   rcases H1.out with e|⟨b,off,rfl,hcells⟩
   ·rw[e] at hka;simp at hka
   rcases H2.out with e|⟨b2,off2,rfl,hcells2⟩
   ·rw[e] at hka;simp at hka
   have v0:=hcells k hka;have u0:=hcells2 k hka;have c0:=(hbw.cell (p:=⟨b,off+k,none⟩) (World.block_lt_of_cell? w _ v0)).trans v0;have d0:=(hbw.cell (p:=⟨b2,off2+k,none⟩) (World.block_lt_of_cell? w _ u0)).trans u0;clear hcells hka hcells2 v0 u0;generalize ks.getD k ky.nt=x at c0 d0;have hxx:(x.toList == x.toList)=true:=by simp
   have hxn:(x.toList != x.toList)=false:=by simp
   have hlt':(k:Int)<(n:Int):=by omega
   have hk0:(0:Int)≤(k:Int):=by omega
   go_wp2
   go_quiet (fail)
   have b3:Below w.heap.size w (wr.drewN nq):=⟨hbw.os,hbw.tape,hbw.output,hbw.size,hbw.block⟩
   clear c0 d0;go_wp2
   go_roundw
   case rel=>exact⟨k+1,by omega,by go_num,b3⟩
   case measure=>simp[intOf];omega
  ·go_wp2;go_ret;exact⟨rfl,hbw⟩
theorem zdo(x:Bx)(v u v' u':Value)(w:World)(h1:zaE w v u x.ms x.ks)(h2:zaE w v' u' x.ms x.ks)(hs:bx.Small x) :
  Calls Tryz.prog 25 #[BV x v u,BV x v' u'] w λe w'=>e=.returned (.bool true)∧Below w.heap.size w w':=by
 obtain⟨⟨a,cap,rfl,p1⟩,⟨a1,cap1,rfl,p2⟩⟩:=id h1;obtain⟨⟨c,cap',rfl,q1⟩,⟨c1,cap1',rfl,q2⟩⟩:=id h2;obtain⟨nm,vd,nx,ms,ks⟩:=x;simp only at p1 p2 q1 q2 h1 h2;have HS:Hid ((ms.length≤1048576∧∀j,j<ms.length→st.Small (ms.getD j noS))∧ks.length≤1048576):=⟨hs.2.2.1,hs.2.2.2.1⟩
 obtain⟨W,hW⟩:∃W,W=(w.alloc (.cells #[.string nm,.int .i64 vd,.int .i64 nx,.slice a ms.length cap,.slice a1 ks.length cap1] 65)).alloc (.cells #[.string nm,.int .i64 vd,.int .i64 nx,.slice c ms.length cap',.slice c1 ks.length cap1'] 65):=⟨_,rfl⟩
 have HW:=hD hW;have hbw:Below w.heap.size w W:=by rw[hW];exact(new_below w 65 _).alloc (by simp) _
 have HL0:Hid (Lies W w.heap.size 65 ⟨nm,vd,nx,ms,ks⟩ (.slice a ms.length cap) (.slice a1 ks.length cap1)):=by
  rw[hW];exact(zan w 65 ⟨nm,vd,nx,ms,ks⟩ (.slice a ms.length cap) (.slice a1 ks.length cap1)).keep (new_below _ _ _)
 have HL1:Hid (Lies W (w.heap.size+1) 65 ⟨nm,vd,nx,ms,ks⟩ (.slice c ms.length cap') (.slice c1 ks.length cap1')):=by
  have:=zan (w.alloc (.cells #[.string nm,.int .i64 vd,.int .i64 nx,.slice a ms.length cap,.slice a1 ks.length cap1] 65)) 65 ⟨nm,vd,nx,ms,ks⟩ (.slice c ms.length cap') (.slice c1 ks.length cap1');rw[show(w.alloc (.cells #[.string nm,.int .i64 vd,.int .i64 nx,.slice a ms.length cap,.slice a1 ks.length cap1] 65)).heap.size=w.heap.size+1 by simp] at this;rw[hW];exact this
 have HA:=hD (zaT h1 hbw);have HB:=hD (zaT h2 hbw);have HBW:=hD hbw;clear hW hbw p1 p2 q1 q2 h1 h2 hs;unfold BV;simp only;have k1:((vd:Int) != vd)=false:=by simp
 have k2:((nx:Int) != nx)=false:=by simp
 have k3:(nm.toList != nm.toList)=false:=by simp
 obtain⟨n,hn⟩:∃n,n=ms.length:=⟨_,rfl⟩
 have HN:=hD hn;rw[←hn] at HW HL0 HL1 HA HB ⊢;have hnl:n≤1048576:=by rw[hn];exact HS.out.1.1
 clear hn;have k4:((n:Int) != (n:Int))=false:=by simp
 go_enter Tryz.func25,Tryz.ntmps25
 go_wp2_with fail
 rw[←HW.out];refine(sameTexts_any _ _ ks W (tx.texts_at HA.out.2) (tx.texts_at HB.out.2) HS.out.2).mono ?_;rintro e W2 ⟨rfl,hb2⟩;have HX:=hD hb2;clear hb2 k1 k2 k3 k4;go_wp2
 go_loopw [5] (λi wr=>∃k:Nat,k≤n∧i=.int .i64 k∧Below W.heap.size W wr) (λi _=>n-(intOf i).toNat)
 case atStart=>exact⟨0,Nat.zero_le _,rfl,HX.out⟩
 case round =>
  clear HX HW;obtain⟨k,hk,rfl,hbw⟩:=hrel;have l0:=(HL0.out.keep hbw).c3;have l1:=(HL1.out.keep hbw).c3;by_cases hlt:k<n
  ·have hka:k<ms.length:=by rw[←HN.out];exact hlt
   have hsm:=HS.out.1.2 k hka;have hlt':(k:Int)<(n:Int):=by omega
   have hk0:(0:Int)≤(k:Int):=by omega
   obtain⟨⟨a',cp,e',hA⟩,_⟩:=HA.out;obtain⟨⟨c',cp',e'',hB⟩,_⟩:=HB.out;cases e';cases e''
   rcases hA with e|⟨b,off,rfl,_,hcells⟩
   ·rw[e] at hka;simp at hka
   rcases hB with e|⟨b2,off2,rfl,_,hcells2⟩
   ·rw[e] at hka;simp at hka
   obtain⟨v0,v1,v2⟩:=hcells k hka;obtain⟨y0,y1,y2⟩:=hcells2 k hka;have hblt:=World.block_lt_of_cell? W _ v0;have hblt2:=World.block_lt_of_cell? W _ y0;have c0:=(hbw.cell (p:=⟨b,off+k*3,none⟩) hblt).trans v0;have c1:=(hbw.cell (p:=⟨b,off+k*3+1,none⟩) hblt).trans v1;have c2:=(hbw.cell (p:=⟨b,off+k*3+2,none⟩) hblt).trans v2;have d0:=(hbw.cell (p:=⟨b2,off2+k*3,none⟩) hblt2).trans y0;have d1:=(hbw.cell (p:=⟨b2,off2+k*3+1,none⟩) hblt2).trans y1;have d2:=(hbw.cell (p:=⟨b2,off2+k*3+2,none⟩) hblt2).trans y2;clear hcells hcells2 hka v0 v1 v2 y0 y1 y2;generalize ms.getD k noS=x at c0 c1 c2 d0 d1 d2 hsm;have hr:=ne_same x hsm;have hg:=sm.guard_run;have HWR:Hid (∀z,Below W.heap.size W (wr.drewN z)):=λz=>below_drewN hbw z
   clear hbw hsm
   go_wp2_with fail
   go_quiet (fail)
   clear hr hg;go_wp2
   go_roundw
   case rel=>exact⟨k+1,by omega,by go_num,HWR.out _⟩
   case measure=>simp[intOf];omega
  ·have hkn:k=n:=by omega
   subst hkn;go_wp2;go_ret;exact⟨rfl,HBW.out.trans (hbw.mono HBW.out.size)⟩
end kp
namespace kp
open Go.RowKit
open bx bl sa wi
open st (St noS Rising)
structure KB (x y:Bx):Prop where
 nm:x.nm=y.nm
 vd:x.vd=y.vd
 nx:x.nx≤y.nx
 ks:x.ks <+: y.ks
 ms:∀m∈y.ms,(∀s∈x.ms,s.u=m.u→s.t=m.t)∧(m.u<x.nx→∃s∈x.ms,s.u=m.u)
def U(x:Bx):Prop:=(∀s∈x.ms,∀s'∈x.ms,s.u=s'.u→s=s')∧∀s∈x.ms,s.u<x.nx
end kp
namespace kp
open Go.RowKit Go.WideShapes Go.Deep
open bx gr
open st (St noS At3)
open ky (TextsAt)
theorem zdt(v u:Value)(xs:List Bx)(vs us:Nat→Value×Value)(w:World)(h1:zaa w v xs vs)(h2:zaa w u xs us)(hs:zac xs) :
  Calls Tryz.prog 11 #[v,u] w λe w'=>e=.returned (.bool true)∧Below w.heap.size w w':=by
 have HALL:Hid (zaa w v xs vs∧zaa w u xs us):=⟨h1,h2⟩
 obtain⟨⟨a,cap,rfl,hc1⟩,_⟩:=h1;obtain⟨⟨c,cap2,rfl,hc2⟩,_⟩:=h2;obtain⟨n,hn⟩:∃n,n=xs.length:=⟨_,rfl⟩
 have HN:=hD hn;have H1:=hD hc1;have H2:=hD hc2;have HS:=hD hs;have hl:n≤1048576:=by rw[hn];exact hs.1
 rw[←hn] at HALL ⊢;clear hc1 hc2 hs hn;have hnn:((n:Int) != (n:Int))=false:=by simp
 go_enter Tryz.func11,Tryz.ntmps11;go_wp2
 go_loopw [5] (λi wr=>∃k:Nat,k≤n∧i=.int .i64 k∧Below w.heap.size w wr) (λi _=>n-(intOf i).toNat)
 case atStart=>exact⟨0,Nat.zero_le _,rfl,Below.refl _ _⟩
 case round =>
  obtain⟨k,hk,rfl,hbw⟩:=hrel;by_cases hlt:k<n
  ·have hka:k<xs.length:=by rw[←HN.out];exact hlt
   rcases H1.out with e|⟨b,off,rfl,hb1,hcells⟩
   ·rw[e] at hka;simp at hka
   rcases H2.out with e|⟨b2,off2,rfl,hb2,hcells2⟩
   ·rw[e] at hka;simp at hka
   have ha:=(hcells k hka).keep hbw hb1;have hb:=(hcells2 k hka).keep hbw hb2;have hr1:=zbt ((za6 HALL.out.1 hbw lR).2 k hka) hbw.size;have hr2:=zbt ((za6 HALL.out.2 hbw lR).2 k hka) hbw.size;have hsk:=HS.out.2 k hka;clear hcells hka hcells2;generalize xs.getD k noB=x at ha hb hr1 hr2 hsk;generalize vs k=q at ha hr1;generalize us k=r at hb hr2;obtain⟨q1,q2⟩:=q;obtain⟨r1,r2⟩:=r;obtain⟨c0,c1,c2,c3,c4⟩:=ha;obtain⟨d0,d1,d2,d3,d4⟩:=hb;simp only at c0 c1 c2 c3 c4 d0 d1 d2 d3 d4 hr1 hr2;have hpl:x.ms.length≤1048576∧x.ks.length≤1048576:=⟨hsk.2.2.1.1,hsk.2.2.2.1⟩
   have HE:Hid (∀y:Ext wr,Calls Tryz.prog 25 #[.agg #[.string x.nm,.int .i64 x.vd,.int .i64 x.nx,q1,q2],.agg #[.string x.nm,.int .i64 x.vd,.int .i64 x.nx,r1,r2]] (gw y) λe w'=>e=.returned (.bool true)∧Below (gw y).heap.size (gw y) w'):=λy=>zdo x q1 q2 r1 r2 (gw y) (zaT hr1 (zbe y)) (zaT hr2 (zbe y)) hsk
   obtain⟨⟨a2,cap2,rfl,_⟩,⟨a3,cap3,rfl,_⟩⟩:=hr1;obtain⟨⟨a4,cap4,rfl,_⟩,⟨a5,cap5,rfl,_⟩⟩:=hr2;clear hsk hpl;have hlt':(k:Int)<(n:Int):=by omega
   have hk0:(0:Int)≤(k:Int):=by omega
   go_wp2_with fail
   have ne:=zcC wr;have c0:=λy:Ext wr=>zaA y c0
   have c1:=λy:Ext wr=>zaA y c1
   have c2:=λy:Ext wr=>zaA y c2
   have c3:=λy:Ext wr=>zaA y c3
   have c4:=λy:Ext wr=>zaA y c4
   have d0:=λy:Ext wr=>zaA y d0
   have d1:=λy:Ext wr=>zaA y d1
   have d2:=λy:Ext wr=>zaA y d2
   have d3:=λy:Ext wr=>zaA y d3
   have d4:=λy:Ext wr=>zaA y d4
   refine zca (by kernel_rfl) (by kernel_rfl) ?_
   repeat (go_big_quiet_step ((go_at_call 25;exact zaQ (HE.out _))))
   refine wpQuiet_nil ?_;rintro W' ⟨y,rfl⟩;have b3:=hbw.trans ((zbe y).mono hbw.size);generalize gw y=W' at b3 ⊢;clear c0 c1 c2 c3 c4 d0 d1 d2 d3 d4 hbw HE;go_wp2
   go_roundw
   case rel=>exact⟨k+1,by omega,by go_num,b3⟩
   case measure=>simp[intOf];omega
  ·go_wp2;go_ret;exact⟨rfl,hbw⟩
end kp
namespace sr
open Go.RowKit
def Src(w:World)(b:Nat)(a:Option Addr)(len cap:Nat)(at_ sd:Int):Prop :=
 w.heap[b]?=some (.cells #[.slice a len cap,.int .i64 at_,.int .i64 sd] 69 (0,0))
def Code(w:World)(b:Nat)(a:Option Addr)(len:Nat):Prop :=
 len≤1048576∧(len=0∨∃cb off,a=some ⟨cb,off,none⟩∧cb<b∧∀j,j<len→∃z:Int,0≤z∧z≤255∧w.cell? ⟨cb,off+j,none⟩=some (.int .u8 z))
section
variable {w:World}{b:Nat}{a:Option Addr}{len cap:Nat}{at_ sd:Int}
theorem Src.c0(h:Src w b a len cap at_ sd):w.cell? ⟨b,0,none⟩=some (.slice a len cap):=by rw[cell_of_row w b 0 _ _ _ h];rfl
theorem Src.c1(h:Src w b a len cap at_ sd):w.cell? ⟨b,0+1,none⟩=some (.int .i64 at_):=by rw[cell_of_row w b _ _ _ _ h];rfl
theorem Src.c2(h:Src w b a len cap at_ sd):w.cell? ⟨b,0+2,none⟩=some (.int .i64 sd):=by rw[cell_of_row w b _ _ _ _ h];rfl
theorem Src.f(h:Src w b a len cap at_ sd)(j:Nat):w.frozen? ⟨b,j,none⟩=false:=frozen_of_row w b j _ _ h
end
theorem src_one{w:World}{b:Nat}{a:Option Addr}{len cap:Nat}{at_ sd x:Int}(h:Src w b a len cap at_ sd):Src (w.setCell ⟨b,1,none⟩ (.int .i64 x)) b a len cap x sd:=heap_setCell_same w b 1 _ _ _ h
theorem src_two{w:World}{b:Nat}{a:Option Addr}{len cap:Nat}{at_ sd x y:Int}(h:Src w b a len cap at_ sd):Src ((w.setCell ⟨b,1,none⟩ (.int .i64 x)).setCell ⟨b,2,none⟩ (.int .i64 y)) b a len cap x y:=heap_setCell_same _ b 2 _ _ _ (src_one h)
theorem zam(w:World)(b j:Nat)(u:Value):w.grownBy (w.setCell ⟨b,j,none⟩ u) (some b) :=
 ⟨rfl,rfl,rfl,by simp,λk _ hk=>heap_setCell_other w ⟨b,j,none⟩ k u (λe=>hk (by simp[e]))⟩
theorem grown_d1(w:World)(b:Nat)(u:Value)(n:Nat):w.grownBy ((w.setCell ⟨b,1,none⟩ u).drewN n) (some b):=ow.grown_drewN (zam w b 1 u) n
theorem grown_d2(w:World)(b:Nat)(u v:Value)(n:Nat):w.grownBy (((w.setCell ⟨b,1,none⟩ u).drewN n).setCell ⟨b,2,none⟩ v) (some b) :=
 ow.zah (grown_d1 w b u n) (zam _ b 2 v)
theorem grown_d3(w:World)(b:Nat)(u v:Value)(n m:Nat):w.grownBy ((((w.setCell ⟨b,1,none⟩ u).drewN n).setCell ⟨b,2,none⟩ v).drewN m) (some b):=ow.grown_drewN (grown_d2 w b u v n) m
def Step(w:World)(b:Nat)(a:Option Addr)(len cap:Nat)(at_ k:Int)(lo hi:Int)(e:Ending)(w':World):Prop :=
 ∃r at' sd':Int,e=.returned (.int .i64 r)∧lo≤r∧r≤hi∧at_≤at'∧at'≤at_+k∧0≤sd'∧sd'<2147483648∧Src w' b a len cap at' sd'∧w.grownBy w' (some b)
theorem byte_zero(w:World)(b:Nat)(a:Option Addr)(len cap:Nat)(at_ sd:Int)(hs:Src w b a len cap at_ sd)(h0:0≤at_)(h1:at_≤1000000)(hx:(len:Int)<at_+1)(hy:3000<at_+1)(s0:0≤sd)(s1:sd<2147483648) :
  Calls Tryz.prog 53 #[.pointer (some ⟨b,0,none⟩)] w λe w'=>Step w b a len cap at_ 1 0 255 e w':=by
 have c0:=hs.c0;have c1:=hs.c1;have c2:=hs.c2;have f1:=hs.f 1;have HS:Hid _:=hs;clear hs;go_enter Tryz.func53,Tryz.ntmps53;go_wp2
 go_quiet (fail)
 go_wp2;go_ret;exact⟨0,at_+1,sd,rfl,by omega,by omega,by omega,by omega,s0,s1,src_one HS.out,grown_d1 _ _ _ _⟩
theorem byte_seed(w:World)(b:Nat)(a:Option Addr)(len cap:Nat)(at_ sd:Int)(hs:Src w b a len cap at_ sd)(h0:0≤at_)(h1:at_≤1000000)(hx:(len:Int)<at_+1)(hy:at_+1≤3000)(s0:0≤sd)(s1:sd<2147483648) :
  Calls Tryz.prog 53 #[.pointer (some ⟨b,0,none⟩)] w λe w'=>Step w b a len cap at_ 1 0 255 e w':=by
 have c0:=hs.c0;have c1:=hs.c1;have c2:=hs.c2;have f1:=hs.f 1;have f2:=hs.f 2;have HS:Hid _:=hs;clear hs;go_enter Tryz.func53,Tryz.ntmps53;go_wp2
 go_quiet (fail)
 go_wp2;go_ret;exact⟨_,at_+1,_,rfl,by omega,by omega,by omega,by omega,by omega,by omega,src_two HS.out,grown_d2 _ _ _ _ _⟩
theorem byte_code(w:World)(b cb off:Nat)(len cap:Nat)(at_:Nat)(sd z:Int)(hs:Src w b (some ⟨cb,off,none⟩) len cap at_ sd)(h1:at_≤1000000)(hx:at_<len)(hl:len≤1048576)(s0:0≤sd)(s1:sd<2147483648)
  (hne:cb≠b) (hz:w.cell? ⟨cb,off+at_,none⟩=some (.int .u8 z)) (z0:0≤z) (z1:z≤255) :
  Calls Tryz.prog 53 #[.pointer (some ⟨b,0,none⟩)] w λe w'=>Step w b (some ⟨cb,off,none⟩) len cap at_ 1 0 255 e w':=by
 have c0:=hs.c0;have c1:=hs.c1;have c2:=hs.c2;have f1:=hs.f 1;have f2:=hs.f 2;have HS:Hid _:=hs;clear hs;have hx':(at_:Int)+1≤(len:Int):=by omega
 have hx2:(at_:Int)<(len:Int):=by omega
 have hx3:(0:Int)≤(at_:Int):=by omega
 go_enter Tryz.func53,Tryz.ntmps53;go_wp2
 go_quiet (fail)
 go_wp2
 go_region
 all_goals go_wp2
 all_goals go_quiet (fail)
 all_goals go_wp2
 all_goals go_ret
 all_goals exact⟨z,at_+1,_,rfl,z0,z1,by omega,by omega,by omega,by omega,src_two HS.out,grown_d3 _ _ _ _ _ _⟩
theorem byte_any(w:World)(b:Nat)(a:Option Addr)(len cap:Nat)(at_ sd:Int)(hs:Src w b a len cap at_ sd)(hc:Code w b a len)(h0:0≤at_)(h1:at_≤1000000)(s0:0≤sd)(s1:sd<2147483648) :
  Calls Tryz.prog 53 #[.pointer (some ⟨b,0,none⟩)] w λe w'=>Step w b a len cap at_ 1 0 255 e w':=by
 by_cases hx:(len:Int)<at_+1
 ·by_cases hy:3000<at_+1
  ·exact byte_zero w b a len cap at_ sd hs h0 h1 hx hy s0 s1
  ·exact byte_seed w b a len cap at_ sd hs h0 h1 hx (by omega) s0 s1
 ·obtain⟨n,rfl⟩:∃n:Nat,at_=(n:Int):=⟨at_.toNat,by omega⟩
  obtain⟨hl,hc⟩:=hc
  rcases hc with e|⟨cb,off,rfl,hne,hcell⟩
  ·omega
  obtain⟨z,z0,z1,hz⟩:=hcell n (by omega);exact byte_code w b cb off len cap n sd z hs (by omega) (by omega) hl s0 s1 (by omega) hz z0 z1
theorem code_keep'{w w':World}{b:Nat}{a:Option Addr}{len:Nat}{row:Option Nat}(h:Code w b a len)(hg:w.grownBy w' row)(hr:∀k,row=some k→b≤k):Code w' b a len:=by
 obtain⟨hl,h⟩:=h;refine⟨hl,?_⟩
 rcases h with h|⟨cb,off,rfl,hne,hc⟩
 ·exact .inl h
 ·refine .inr ⟨cb,off,rfl,hne,λj hj=>?_⟩;obtain⟨z,z0,z1,hz⟩:=hc j hj;exact⟨z,z0,z1,hg.cell hz (λe=>by have:=hr cb e.symm;omega)⟩
theorem code_keep{w w':World}{b:Nat}{a:Option Addr}{len:Nat}(h:Code w b a len)(hg:w.grownBy w' (some b)):Code w' b a len :=
 code_keep' h hg (λk e=>by(have:b=k:=by simpa using e);omega)
theorem src_keep{w w':World}{b:Nat}{a:Option Addr}{len cap:Nat}{at_ sd:Int}{row:Option Nat}(h:Src w b a len cap at_ sd)(hg:w.grownBy w' row)(hne:some b≠row):Src w' b a len cap at_ sd:=by
 unfold Src at h ⊢;rw[hg.block b (Array.getElem?_eq_some_iff.1 h).1 hne];exact h
theorem next_any(w:World)(b:Nat)(a:Option Addr)(len cap:Nat)(at_ sd n:Int)(hs:Src w b a len cap at_ sd)(hc:Code w b a len)(h0:0≤at_)(h1:at_≤900000)(s0:0≤sd)(s1:sd<2147483648)(n1:1≤n)(n2:n≤1000000) :
  Calls Tryz.prog 27 #[.pointer (some ⟨b,0,none⟩),.int .i64 n] w λe w'=>Step w b a len cap at_ 3 0 (n-1) e w':=by
 by_cases hn:n≤1
 ·have HS:Hid _:=hs;clear hs;go_enter Tryz.func27,Tryz.ntmps27;go_wp2;go_ret;exact⟨0,at_,sd,rfl,by omega,by omega,by omega,by omega,s0,s1,HS.out,ow.zc3 _ _⟩
 by_cases hn2:n≤256
 ·go_enter Tryz.func27,Tryz.ntmps27
  go_wp2_with fail
  refine(byte_any _ b a len cap at_ sd hs hc h0 (by omega) s0 s1).mono ?_;rintro e w1 ⟨r,at1,sd1,rfl,r0,r1,a0,a1,d0,d1,hs1,hg1⟩;have HH:Hid _:=And.intro hs1 hg1;clear hs1 hg1 hs hc;go_wp2;go_ret;exact⟨_,at1,sd1,rfl,Int.emod_nonneg _ (by omega),by have:=Int.emod_lt_of_pos r (show 0<n by omega);omega,a0,by omega,d0,d1,HH.out.1,HH.out.2⟩
 go_enter Tryz.func27,Tryz.ntmps27
 go_wp2_with fail
 refine(byte_any _ b a len cap at_ sd hs hc h0 (by omega) s0 s1).mono ?_;rintro e w1 ⟨r,at1,sd1,rfl,r0,r1,a0,a1,d0,d1,hs1,hg1⟩;have hc1:=code_keep hc hg1
 go_wp2_with fail
 refine(byte_any _ b a len cap at1 sd1 hs1 hc1 (by omega) (by omega) d0 d1).mono ?_;rintro e w2 ⟨q,at2,sd2,rfl,q0,q1,a2,a3,d2,d3,hs2,hg2⟩;have hc2:=code_keep hc1 hg2
 go_wp2_with fail
 refine(byte_any _ b a len cap at2 sd2 hs2 hc2 (by omega) (by omega) d2 d3).mono ?_;rintro e w3 ⟨p,at3,sd3,rfl,p0,p1,a4,a5,d4,d5,hs3,hg3⟩;have HH:Hid _:=And.intro hs3 (ow.zah (ow.zah hg1 hg2) hg3);clear hs1 hg1 hs hc hc1 hc2 hs2 hs3 hg2 hg3;go_wp2;go_ret;exact⟨_,at3,sd3,rfl,Int.emod_nonneg _ (by omega),by have:=Int.emod_lt_of_pos (r*65536+q*256+p) (show 0<n by omega);omega,by omega,by omega,d4,d5,HH.out.1,HH.out.2⟩
def Chance(w:World)(b:Nat)(a:Option Addr)(len cap:Nat)(at_ k:Int)(e:Ending)(w':World):Prop :=
 ∃(c:Bool) (at' sd':Int),e=.returned (.bool c)∧at_≤at'∧at'≤at_+k∧0≤sd'∧sd'<2147483648∧Src w' b a len cap at' sd'∧w.grownBy w' (some b)
theorem chance_any(w:World)(b:Nat)(a:Option Addr)(len cap:Nat)(at_ sd n:Int)(hs:Src w b a len cap at_ sd)(hc:Code w b a len)(h0:0≤at_)(h1:at_≤900000)(s0:0≤sd)(s1:sd<2147483648)(n1:1≤n)(n2:n≤1000000) :
  Calls Tryz.prog 30 #[.pointer (some ⟨b,0,none⟩),.int .i64 n] w λe w'=>Chance w b a len cap at_ 3 e w':=by
 go_enter Tryz.func30,Tryz.ntmps30
 go_wp2_with fail
 refine(next_any _ b a len cap at_ sd n hs hc h0 h1 s0 s1 n1 n2).mono ?_;rintro e w1 ⟨r,at1,sd1,rfl,r0,r1,a0,a1,d0,d1,hs1,hg1⟩;have HH:Hid _:=And.intro hs1 hg1;clear hs1 hg1 hs hc;go_wp2;go_ret;exact⟨_,at1,sd1,rfl,a0,a1,d0,d1,HH.out.1,HH.out.2⟩
end sr
end Go.Proofs.YtmnflpmfngjllaaGreatDoor
