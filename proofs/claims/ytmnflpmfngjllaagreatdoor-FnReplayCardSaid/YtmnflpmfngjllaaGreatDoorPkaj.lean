/-
  FnReplayCardSaid
-/
import Derived.Test.YtmnflpmfngjllaaGreatDoorPkai
set_option maxHeartbeats 16000000
set_option maxRecDepth 100000
set_option linter.unusedVariables false
namespace Go.Proofs.YtmnflpmfngjllaaGreatDoor
namespace bl
open Go.ChangeShapes Go.WideShapes Go.ChangeAt Go.RowKit Go.Deep Go.Joins
open st gr bx mx
theorem ownM_cell{w:World}{base g n c j:Nat}{L:List St}(h:OwnM w base (.slice (some ⟨g,0,none⟩) n c) L)(hj:j<L.length):At3 w g (j*3) (L.getD j noS):=by
 obtain⟨h0,h1,h2⟩:=mc_at L j hj;have hl:=zbD L;have h:=h;obtain rfl:n=L.length:=by
  rcases h.2 with⟨e,_⟩|⟨g',cap,cur,e,_⟩
  ·cases e
  ·cases e;rfl
 exact⟨by rw[h.cellAt (j*3) (by omega)];exact h0,by rw[h.cellAt (j*3+1) (by omega)];exact h1,by rw[h.cellAt (j*3+2) (by omega)];exact h2⟩
def del(x:St):Bool:=bits .and .i64 x.f 8 == 8
theorem has_any(x:St)(w:World):Calls Tryz.prog 118 #[.agg #[.int .i64 x.u,.int .i64 x.f,.string x.t],.int .i64 8] w λe w'=>e=.returned (.bool (del x))∧Below w.heap.size w w':=by
 go_enter Tryz.func118,Tryz.ntmps118;go_wp2;go_ret;exact⟨rfl,bR.alloc lR _⟩
theorem goes_any(x:St)(w:World):Calls Tryz.prog 117 #[.agg #[.int .i64 x.u,.int .i64 x.f,.string x.t]] w λe w'=>e=.returned (.bool (del x))∧Below w.heap.size w w':=by
 go_enter Tryz.func117,Tryz.ntmps117
 go_wp2_with fail
 refine(has_any x _).mono ?_;rintro e w1 ⟨rfl,b1⟩;have b2:=((Below.refl _ w).alloc lR (.cells #[.int .i64 x.u,.int .i64 x.f,.string x.t] 92)).trans (b1.mono (by simp));clear b1;go_wp2;go_ret;exact⟨rfl,b2⟩
def Fst(ms:List St)(r:Int):Prop:=(∃k:Nat,r=k∧k<ms.length∧del (ms.getD k noS)=true∧∀j,j<k→del (ms.getD j noS)=false)∨(r=-1∧∀j,j<ms.length→del (ms.getD j noS)=false)
theorem first_any(N:Nat)(v:Value)(ms:List St)(w:World)(h:za5 w N v ms)(hN:N≤w.heap.size)(hn:ms.length≤1048576) :
  Calls Tryz.prog 137 #[v,.func (Fn.func 117) #[] #[]] w λe w'=>(∃r:Int,e=.returned (.int .i64 r)∧Fst ms r)∧Below w.heap.size w w':=by
 obtain⟨a,cap,rfl,hc⟩:=h;obtain⟨n,hn'⟩:∃n,n=ms.length:=⟨_,rfl⟩
 have HN:=hD hn';have HH:=hD hc;rw[←hn'] at hn ⊢;clear hc hn';go_enter Tryz.func137,Tryz.ntmps137;go_wp2
 go_loopw [8] (λi wr=>∃k:Nat,k≤n∧i=.int .i64 k∧(∀j,j<k→del (ms.getD j noS)=false)∧Below w.heap.size w wr) (λi _=>n-(intOf i).toNat)
 case atStart=>exact⟨0,Nat.zero_le _,rfl,λj hj=>absurd hj (Nat.not_lt_zero _),Below.refl _ _⟩
 case round =>
  obtain⟨k,hk,rfl,hno,hbw⟩:=hrel;have HNO:=hD hno;clear hno;by_cases hlt:k<n
  ·have hka:k<ms.length:=by rw[←HN.out];exact hlt
   rcases HH.out with e|⟨b,off,rfl,hbl,hcells⟩
   ·rw[e] at hka;simp at hka
   have hat:=(hcells k hka).keep hbw (by omega);have HKA:=hD hka;clear hcells hka;generalize hx:ms.getD k noS=x at hat;have HX:=hD hx;clear hx;obtain⟨c0,c1,c2⟩:=hat;have hlt':(k:Int)<(n:Int):=by omega
   go_wp2_with fail
   refine(goes_any x wr).mono ?_;rintro e w2 ⟨rfl,hb2⟩;have b2:=hbw.trans (hb2.mono hbw.size);clear hb2 hbw c0 c1 c2;have HD:=hD (congrArg del HX.out);generalize del x=B at HD ⊢;cases B
   ·have HE:Hid (∀j,j<k+1→del (ms.getD j noS)=false):=λj hj=>by
     by_cases e:j=k
     ·rw[e];exact HD.out
     ·exact HNO.out j (by omega)
    go_wp2
    go_roundw
    case rel=>exact⟨k+1,by omega,by go_num,HE.out,b2⟩
    case measure=>simp[intOf];omega
   ·have HE:Hid (Fst ms k):=.inl ⟨k,rfl,HKA.out,HD.out,HNO.out⟩;go_wp2;go_ret;exact⟨⟨k,rfl,HE.out⟩,b2⟩
  ·have HE:Hid (Fst ms (-1)):=.inr ⟨rfl,λj hj=>HNO.out j (by have:=HN.out;omega)⟩;go_wp2;go_ret;exact⟨⟨-1,rfl,HE.out⟩,hbw⟩
def kept(ms:List St):List St:=ms.filter λx=>!del x
theorem kept_none{ms:List St}(h:∀j,j<ms.length→del (ms.getD j noS)=false):kept ms=ms:=by
 unfold kept;rw[List.filter_eq_self];intro x hx;obtain⟨j,hj,rfl⟩:=List.mem_iff_getElem.1 hx;have:=h j hj;rw[List.getD_eq_getElem?_getD,List.getElem?_eq_getElem hj] at this;simpa using this
theorem zc8{ms:List St}{j:Nat}(hj:j<ms.length):kept (ms.take (j+1))=if del (ms.getD j noS)=true then kept (ms.take j) else kept (ms.take j)++[ms.getD j noS]:=by
 have e:ms.getD j noS=ms[j]:=by simp[List.getD_eq_getElem?_getD,hj]
 unfold kept;rw[List.take_succ_eq_append_getElem hj,List.filter_append,e];by_cases h:del ms[j]=true
 ·rw[if_pos h];simp[h]
 ·rw[if_neg h];simp[h]
theorem zbK{w:World}{base g n c:Nat}{L:List St}(h:OwnM w base (.slice (some ⟨g,0,none⟩) n c) L):n=L.length:=by
 rcases h.2 with⟨e,_⟩|⟨g',cap,cur,e,_⟩
 ·cases e
 ·cases e;rfl
theorem fr3{w:World}{base g n c:Nat}{L:List St}(h:OwnM w base (.slice (some ⟨g,0,none⟩) n c) L)(j:Nat):w.frozen? ⟨g,j,none⟩=false:=by
 have h':w.ownsRow base 92 3 (.slice (some ⟨g,0,none⟩) n c) L.length (mc L):=h;obtain rfl:=zbK h;exact h'.frozenAt j
theorem mc_put{L:List St}{i:Nat}(hi:i<L.length)(x:St):(((mc L).set (i*3) (.int .i64 x.u)).set (i*3+1) (.int .i64 x.f)).set (i*3+2) (.string x.t)=mc (L.set i x):=by
 have hl:=zbD L;refine mc_ext (by simp[hl]) (λj hj=>?_);rw[List.length_set] at hj;by_cases e:j=i
 ·subst e;have ex:(L.set j x).getD j noS=x:=by simp[List.getD_eq_getElem?_getD,hi]
  rw[ex];refine⟨?_,?_,?_⟩
  ·rw[List.getElem?_set_ne (by omega),List.getElem?_set_ne (by omega),List.getElem?_set_self (by omega)]
  ·rw[List.getElem?_set_ne (by omega),List.getElem?_set_self (by rw[List.length_set];omega)]
  ·rw[List.getElem?_set_self (by rw[List.length_set,List.length_set];omega)]
 ·have ex:(L.set i x).getD j noS=L.getD j noS:=by
   rw[List.getD_eq_getElem?_getD,List.getElem?_set_ne (by omega),←List.getD_eq_getElem?_getD]
  rw[ex];obtain⟨h0,h1,h2⟩:=mc_at L j hj;refine⟨?_,?_,?_⟩
  ·rw[List.getElem?_set_ne (by omega),List.getElem?_set_ne (by omega),List.getElem?_set_ne (by omega)];exact h0
  ·rw[List.getElem?_set_ne (by omega),List.getElem?_set_ne (by omega),List.getElem?_set_ne (by omega)];exact h1
  ·rw[List.getElem?_set_ne (by omega),List.getElem?_set_ne (by omega),List.getElem?_set_ne (by omega)];exact h2
theorem put3{w:World}{base g n c i:Nat}{L:List St}(h:OwnM w base (.slice (some ⟨g,0,none⟩) n c) L)(hi:i<L.length)(x:St) :
  OwnM (((w.setCell ⟨g,i*3,none⟩ (.int .i64 x.u)).setCell ⟨g,i*3+1,none⟩ (.int .i64 x.f)).setCell ⟨g,i*3+2,none⟩ (.string x.t)) base (.slice (some ⟨g,0,none⟩) n c) (L.set i x)∧w.grownBy (((w.setCell ⟨g,i*3,none⟩ (.int .i64 x.u)).setCell ⟨g,i*3+1,none⟩ (.int .i64 x.f)).setCell ⟨g,i*3+2,none⟩ (.string x.t)) (some g):=by
 have h':w.ownsRow base 92 3 (.slice (some ⟨g,0,none⟩) n c) L.length (mc L):=h;obtain rfl:=zbK h;have s1:=h'.stored (i*3) (.int .i64 x.u);have s2:=s1.1.stored (i*3+1) (.int .i64 x.f);have s3:=s2.1.stored (i*3+2) (.string x.t);refine⟨?_,ow.zah (ow.zah s1.2 s2.2) s3.2⟩;have:=s3.1;rw[mc_put hi x] at this;unfold OwnM;rw[List.length_set];exact this
theorem own_cap{w:World}{base g n c:Nat}{L:List St}(h:OwnM w base (.slice (some ⟨g,0,none⟩) n c) L):n≤c:=by
 rcases h.2 with⟨e,_⟩|⟨g',cap,cur,e,_,_,hc,_⟩
 ·cases e
 ·cases e;exact hc
theorem mc_take:∀(L:List St) (i:Nat),mc (L.take i)=(mc L).take (i*3)
 | [],i=>by simp[mc]
 | x::L,0=>by simp[mc]
 | x::L,i+1=>by
  rw[List.take_succ_cons,mc,mc,mc_take L i,show(i+1)*3=i*3+3 from by omega];rfl
theorem own_cells{base g e size n cap:Nat}:∀(vs:List Value) (o:Nat) (w:World) (xs:List Value),w.ownsRow base e size (.slice (some ⟨g,0,none⟩) n cap) n xs→∃xs',(w.setCells g o vs).ownsRow base e size (.slice (some ⟨g,0,none⟩) n cap) n xs'∧xs'.take o=xs.take o∧w.grownBy (w.setCells g o vs) (some g)
 | [],o,w,xs,h=>⟨xs,h,rfl,ow.zc3 _ _⟩
 | v::r,o,w,xs,h=>by
  have s:=h.stored o v;obtain⟨xs',h1,h2,h3⟩:=own_cells r (o+1) _ _ s.1;refine⟨xs',h1,?_,ow.zah s.2 h3⟩;have e:=congrArg (List.take o) h2;rw[List.take_take,List.take_take,Nat.min_eq_left (by omega),List.take_set_of_le lR] at e;exact e
theorem own_cut{w:World}{base g e size n cap i:Nat}{xs:List Value}(h:w.ownsRow base e size (.slice (some ⟨g,0,none⟩) n cap) n xs)(hi:i≤n):w.ownsRow base e size (.slice (some ⟨g,0,none⟩) i cap) i (xs.take (i*size)):=by
 obtain⟨h1,h2⟩:=h;have hle:i*size≤n*size:=Nat.mul_le_mul_right _ hi;refine⟨by rw[List.length_take];omega,?_⟩
 rcases h2 with⟨e,_⟩|⟨g',cap',cur,e,hb,hg,hnc,hcm,hcs,ht⟩
 ·cases e
 ·cases e;refine .inr ⟨g,cap,cur,rfl,hb,hg,by omega,hcm,hcs,?_⟩;rw[←ht,List.take_take,Nat.min_eq_left hle]
def zS:Value:=.agg #[.int .i64 0,.int .i64 0,.string ByteArray.empty]
theorem zero_one:∀(k:Nat),∀v∈(Builtin.zeroCells zS.cells k).toList,v.oneCell'=true:=by
 intro k v hv;simp[Builtin.zeroCells,zS,Value.cells] at hv;obtain⟨a,_,rfl⟩:=hv;have h3:a % 3=0∨a % 3=1∨a % 3=2:=by omega
 rcases h3 with h|h|h<;>rw[h]<;>rfl
theorem zero_len(k:Nat):(Builtin.zeroCells zS.cells k).toList.length=k*3:=by simp[Builtin.zeroCells,zS,Value.cells]
theorem clear_tail{w:World}{base g n c i:Nat}{L:List St}(h:OwnM w base (.slice (some ⟨g,0,none⟩) n c) L)(hi:i<n) :
  ∃X,(Builtin.clear_ #[63] 0 #[.slice (some ⟨g,i*3,none⟩) (n-i) (c-i)]).run Tryz.prog w=.ok (.tuple #[]) X∧OwnM X base (.slice (some ⟨g,0,none⟩) i c) (L.take i)∧w.grownBy X (some g):=by
 have h':w.ownsRow base 92 3 (.slice (some ⟨g,0,none⟩) n c) L.length (mc L):=h;obtain rfl:=zbK h;have hl:=zbD L;have hr:=cl.run_clear_cells (P:=Tryz.prog) w 63 92 0 zS Tryz.underlying63 (λw=>by kernel_rfl) g (i*3) (L.length-i) (c-i) (by omega) (zero_one _) (λj hj=>by
  rw[zero_len] at hj;rw[h'.cellAt (i*3+j) (by omega),List.getElem?_eq_getElem (by omega)]
  rfl) (λj hj=>h'.frozenAt _)
 obtain⟨xs',h1,h2,h3⟩:=own_cells (Builtin.zeroCells zS.cells (L.length-i)).toList (i*3) w (mc L) h';refine⟨_,hr,?_,h3⟩;have h4:=own_cut h1 (show i≤L.length by omega);rw[h2,←mc_take] at h4;unfold OwnM;rw[List.length_take,Nat.min_eq_left (by omega)];exact h4
def Go(ms L:List St)(i j:Nat):Prop:=L.length=ms.length∧i<j∧j≤ms.length∧L.take i=kept (ms.take j)∧∀p,j≤p→p<ms.length→L.getD p noS=ms.getD p noS
theorem go_start{ms:List St}{k:Nat}(hk:k<ms.length)(hd:del (ms.getD k noS)=true)(hno:∀j,j<k→del (ms.getD j noS)=false):Go ms ms k (k+1):=by
 refine⟨rfl,by omega,by omega,?_,λp _ _=>rfl⟩;rw[zc8 hk,if_pos hd,kept_none];intro j hj;rw[List.length_take] at hj;have e:(ms.take k).getD j noS=ms.getD j noS:=by simp[List.getD_eq_getElem?_getD,show j<k by omega]
 rw[e];exact hno j (by omega)
theorem go_pass{ms L:List St}{i j:Nat}(h:Go ms L i j)(hj:j<ms.length)(hd:del (ms.getD j noS)=true):Go ms L i (j+1):=by
 obtain⟨h1,h2,h3,h4,h5⟩:=h;exact⟨h1,by omega,by omega,by rw[zc8 hj,if_pos hd,h4],λp hp hq=>h5 p (by omega) hq⟩
theorem go_move{ms L:List St}{i j:Nat}(h:Go ms L i j)(hj:j<ms.length)(hd:del (ms.getD j noS)=false):Go ms (L.set i (ms.getD j noS)) (i+1) (j+1):=by
 obtain⟨h1,h2,h3,h4,h5⟩:=h;refine⟨by rw[List.length_set];exact h1,by omega,by omega,?_,λp hp hq=>?_⟩
 ·rw[zc8 hj,if_neg (by rw[hd];simp),←h4,List.take_succ_eq_append_getElem (by rw[List.length_set];omega),List.getElem_set_self,List.take_set_of_le lR]
 ·rw[←h5 p (by omega) hq,List.getD_eq_getElem?_getD,List.getElem?_set_ne (by omega),←List.getD_eq_getElem?_getD]
theorem dele_some(g n c base:Nat)(ms:List St)(w:World)(h:OwnM w base (.slice (some ⟨g,0,none⟩) n c) ms)(hb:base≤w.heap.size)(hn:ms.length≤30) :
  Calls Tryz.prog 116 #[.slice (some ⟨g,0,none⟩) n c,.func (Fn.func 117) #[] #[]] w λe w'=>(∃k,e=.returned (.slice (some ⟨g,0,none⟩) k c)∧OwnM w' base (.slice (some ⟨g,0,none⟩) k c) (kept ms))∧w.grownBy w' (some g):=by
 have hnm:n=ms.length:=by
  rcases h.2 with⟨e,_⟩|⟨g',cap,cur,e,_⟩
  ·cases e
  ·cases e;rfl
 have HNM:=hD hnm;have hn30:n≤30:=by omega
 have HO:=hD h;have HF:=hD (first_any w.heap.size _ ms w (ownM_in h lR) lR (by omega));clear h hnm;go_enter Tryz.func116,Tryz.ntmps116
 go_wp2_with fail
 refine HF.out.mono ?_;rintro e w1 ⟨⟨r,rfl,hr⟩,b1⟩;have HO1:Hid (OwnM w1 base (.slice (some ⟨g,0,none⟩) n c) ms∧w.grownBy w1 (some g)):=⟨ow.own_below HO.out b1,ow.zbC b1⟩
 clear HF HO b1
 rcases hr with⟨k,rfl,hk,hd,hno⟩|⟨rfl,hno⟩
 ·have HG:Hid (Go ms ms k (k+1)):=go_start hk hd hno;have hkn:k<n:=by rw[HNM.out];exact hk
  have hk1:((k:Int) == -1)=false:=beq_eq_false_iff_ne.2 (by omega);clear hd hno hk;go_wp2
  go_loopw [5,6] (λa b wr=>∃(i j:Nat) (L:List St),a=.int .i64 i∧b=.int .i64 j∧Go ms L i j∧OwnM wr base (.slice (some ⟨g,0,none⟩) n c) L∧w.grownBy wr (some g)) (λ_ b _=>n-(intOf b).toNat)
  case atStart=>exact⟨k,k+1,ms,rfl,rfl,HG.out,HO1.out.1,HO1.out.2⟩
  case round =>
   obtain⟨i,j,L,rfl,rfl,hgo,hown,hgr⟩:=hrel;have HGO:=hD hgo;have hjn:j≤n:=by rw[HNM.out];exact hgo.2.2.1
   have hij:i<j:=hgo.2.1;have HLL:Hid (L.length=n):=by rw[HNM.out];exact hgo.1
   have HOW:=hD hown;have HGR:=hD hgr;by_cases hlt:j<n
   ·have hlt':(j:Int)<(n:Int):=by omega
    have hj0:(0:Int)≤(j:Int):=by omega
    have hx:=hgo.2.2.2.2 j lR (by rw[←HNM.out];exact hlt);generalize hX:ms.getD j noS=x at hx;have HX:=hD hX;have hin:=ownM_cell hown (show j<L.length by rw[HLL.out];exact hlt);rw[hx] at hin;obtain⟨q0,q1,q2⟩:=hin;clear hgo hown hgr hX hx
    go_wp2_with fail
    have hba:=(Below.refl wr.heap.size wr).alloc lR (.cells #[.int .i64 x.u,.int .i64 x.f,.string x.t] 92);have HB3:Hid (B3 (wr.alloc (.cells #[.int .i64 x.u,.int .i64 x.f,.string x.t] 92)) wr.heap.size 92 (.int .i64 x.u) (.int .i64 x.f) (.string x.t)):=zbN wr _ _ _ _;refine(goes_any x _).mono ?_;rintro e w2 ⟨rfl,hb2⟩;have b2:=hba.trans (hb2.mono hba.size);have HOW2:=hD (ow.own_below HOW.out b2);have HGR2:=hD (ow.zah HGR.out (ow.zbC b2));have R:=HB3.out.keep hb2;have HD:=hD (congrArg del HX.out);have HJM:Hid (j<ms.length):=by rw[←HNM.out];exact hlt
    clear q0 q1 q2 hba hb2 HB3 HOW HGR;generalize del x=B at HD ⊢;cases B
    ·have r0:=R.c0;have r1:=R.c1';have r2:=R.c2';have hin:=ownM_cell HOW2.out (show i<L.length by rw[HLL.out];omega);obtain⟨s0,s1,s2⟩:=hin;have hin':(i:Int)<(n:Int):=by omega
     have hi0:(0:Int)≤(i:Int):=by omega
     clear b2;have f0:=fr3 HOW2.out (i*3);have f1:=fr3 HOW2.out (i*3+1);have f2:=fr3 HOW2.out (i*3+2);have HE:Hid (Go ms (L.set i x) (i+1) (j+1)):=by
      have:=go_move HGO.out HJM.out HD.out;rw[HX.out] at this;exact this
     have HP:=put3 HOW2.out (show i<L.length by rw[HLL.out];omega) x;have HPO:Hid (OwnM (((w2.setCell ⟨g,i*3,none⟩ (.int .i64 x.u)).setCell ⟨g,i*3+1,none⟩ (.int .i64 x.f)).setCell ⟨g,i*3+2,none⟩ (.string x.t)) base (.slice (some ⟨g,0,none⟩) n c) (L.set i x)∧w.grownBy (((w2.setCell ⟨g,i*3,none⟩ (.int .i64 x.u)).setCell ⟨g,i*3+1,none⟩ (.int .i64 x.f)).setCell ⟨g,i*3+2,none⟩ (.string x.t)) (some g)):=⟨HP.1,ow.zah HGR2.out HP.2⟩
     clear HP;go_wp2
     go_roundw
     case rel=>exact⟨i+1,j+1,L.set i x,by go_num,by go_num,HE.out,HPO.out.1,HPO.out.2⟩
     case measure=>simp[intOf];omega
    ·have HE:Hid (Go ms L i (j+1)):=go_pass HGO.out HJM.out HD.out;clear R b2;go_wp2
     go_roundw
     case rel=>exact⟨i,j+1,L,rfl,by go_num,HE.out,HOW2.out,HGR2.out⟩
     case measure=>simp[intOf];omega
   ·have hjn2:j=n:=by omega
    subst hjn2;have hcap:=own_cap hown;have hic:(i:Int)≤(j:Int):=by omega
    have hi0:(0:Int)≤(i:Int):=by omega
    have hci:¬c=i:=by omega
    have hicc:(i:Int)≤(c:Int):=by omega
    obtain⟨X,hX,hXo,hXg⟩:=clear_tail hown (show i<j by omega);have HXO:Hid (OwnM X base (.slice (some ⟨g,0,none⟩) i c) (kept ms)):=by
     rw[show kept ms=L.take i from by rw[hgo.2.2.2.1,HNM.out,List.take_length]];exact hXo
    have HXG:=hD (ow.zah hgr hXg);clear hgo hown hgr hlt hXo hXg;go_wp2;go_ret;exact⟨⟨i,rfl,HXO.out⟩,HXG.out⟩
 ·have HK:Hid (kept ms=ms):=kept_none hno;clear hno;go_wp2;go_ret;exact⟨⟨n,rfl,by rw[HK.out];exact HO1.out.1⟩,HO1.out.2⟩
end bl
namespace bl
open Go.ChangeShapes Go.WideShapes Go.ChangeAt Go.RowKit Go.Deep Go.Joins
open st gr bx mx
theorem zcL{w:World}{g:Nat}{T:TypeId}{x:Bx}{v u:Value}(h:Lies w g T x v u):Lies (zaf w g (.string ⟨#[]⟩) (.int .i64 0) (.int .i64 0) (.slice none 0 0) (.slice none 0 0)) g T B0 (.slice none 0 0) (.slice none 0 0) :=
 heap_setCell_same _ g 4 _ _ _ (heap_setCell_same _ g 3 _ _ _ (heap_setCell_same _ g 2 _ _ _ (heap_setCell_same _ g 1 _ _ _ (heap_setCell_same _ g 0 _ _ _ h))))
theorem drew_grown{w x:World}{r:Option Nat}(h:w.grownBy x r):w.grownBy x.drew r:=⟨h.os,h.tape,h.output,h.size,h.block⟩
theorem withFlags_any(y:Bx)(v u:Value)(m:mu.Mu)(iv:Value)(base:Nat)(w:World)(hm:OwnM w base v y.ms)(hk:OwnK w base u y.ks)(hiv:∃a n c,iv=.slice a n c)(hl:y.ms.length≤30)(hr:Rising y.ms)(hmo:m.m=1∨m.m=2∨m.m=3) :
  Calls Tryz.prog 115 #[BV y v u,mu.MV m iv] w λe w'=>((∃y',e=.returned (.tuple #[BV y' v u,.int .i64 0])∧Wf y m y' 0∧OwnM w' base v y'.ms∧OwnK w' base u y'.ks)∨(e=.returned (.tuple #[BV B0 (.slice none 0 0) (.slice none 0 0),.int .i64 17])∧Wf y m B0 17∧OwnM w' base v y.ms∧OwnK w' base u y.ks))∧w.grownBy w' v.ownBlock:=by
 obtain⟨ia,inn,ic,rfl⟩:=hiv;obtain⟨va,vn,vc,rfl⟩:=zak (zaj hm);obtain⟨ua,un,uc,rfl⟩:=zak (zaj hk);obtain⟨W,hW⟩:∃W,W=(((w.alloc (.cells #[.string y.nm,.int .i64 y.vd,.int .i64 y.nx,.slice va vn vc,.slice ua un uc] 65)).alloc (.cells #[.int .i64 m.k,.int .i64 m.u,.int .i64 m.m,.int .i64 m.f,.string m.b,.slice ia inn ic] 35)).alloc (.cells #[.string ⟨#[]⟩,.int .i64 0,.int .i64 0,.slice none 0 0,.slice none 0 0] 65)):=⟨_,rfl⟩
 have b3:Below w.heap.size w W:=by rw[hW];exact((bx.new_below w _ _).alloc (by simp) _).alloc (by simp;omega) _
 have k0:bx.Lies W w.heap.size 65 y (.slice va vn vc) (.slice ua un uc):=by
  rw[hW];exact((bx.zan w 65 y (.slice va vn vc) (.slice ua un uc)).keep (bx.new_below _ _ _)).keep (bx.new_below _ _ _)
 have k1:mu.Lies W (w.heap.size+1) 35 m (.slice ia inn ic):=by rw[hW];exact new1 _ _ _ _
 have k2:bx.Lies W (w.heap.size+1+1) 65 B0 (.slice none 0 0) (.slice none 0 0):=by rw[hW];exact new2 _ _ _ _
 have HM:Hid (OwnM W base (.slice va vn vc) y.ms∧OwnK W base (.slice ua un uc) y.ks):=⟨ow.own_below hm b3,ow.own_below hk b3⟩
 have HR:=hD hr;have HL:Hid (bx.Lies W w.heap.size 65 y (.slice va vn vc) (.slice ua un uc)∧mu.Lies W (w.heap.size+1) 35 m (.slice ia inn ic)∧bx.Lies W (w.heap.size+1+1) 65 B0 (.slice none 0 0) (.slice none 0 0)):=⟨k0,k1,k2⟩
 have HB:=hD b3;have c0:=k0.c0;have c1:=k0.c1;have c2:=k0.c2;have c3:=k0.c3;have c4:=k0.c4;have d1:=k1.c1;unfold BV mu.MV;clear hm hk hr b3 k0 k1 k2;go_enter Tryz.func115,Tryz.ntmps115
 go_wp2_with (rw[←hW])
 clear hW;refine(mailAt_any y _ _ m.u W ⟨ownM_in HM.out.1 lR,ownK_in HM.out.2 lR⟩ hl HR.out).mono ?_;rintro e W1 ⟨⟨i,b,rfl,hf,hil⟩,hb1⟩;have HM1:Hid (OwnM W1 base (.slice va vn vc) y.ms∧OwnK W1 base (.slice ua un uc) y.ks):=⟨ow.own_below HM.out.1 hb1,ow.own_below HM.out.2 hb1⟩
 have HL1:Hid (bx.Lies W1 w.heap.size 65 y (.slice va vn vc) (.slice ua un uc)∧mu.Lies W1 (w.heap.size+1) 35 m (.slice ia inn ic)∧bx.Lies W1 (w.heap.size+1+1) 65 B0 (.slice none 0 0) (.slice none 0 0)):=⟨HL.out.1.keep hb1,HL.out.2.1.keep hb1,HL.out.2.2.keep hb1⟩
 have HB1:=hD (HB.out.trans (hb1.mono HB.out.size));clear HM HL HB HR hb1 c0 c1 c2 c3 c4 d1
 cases b with
 | false =>
  have HF:Hid (∀k,k<y.ms.length→(y.ms.getD k noS).u≠m.u):=by
   rcases hf with⟨e,_⟩|⟨_,h⟩
   ·cases e
   ·exact h
  clear hf;have R0:=HL1.out.2.2;have r0:=R0.c0;have r1:=R0.c1;have r2:=R0.c2;have r3:=R0.c3;have r4:=R0.c4;have fr:=R0.f;have HE:Hid (bx.Lies (zaf W1 (w.heap.size+1+1) (.string ⟨#[]⟩) (.int .i64 0) (.int .i64 0) (.slice none 0 0) (.slice none 0 0)) (w.heap.size+1+1) 65 B0 (.slice none 0 0) (.slice none 0 0)∧Below w.heap.size w (zaf W1 (w.heap.size+1+1) (.string ⟨#[]⟩) (.int .i64 0) (.int .i64 0) (.slice none 0 0) (.slice none 0 0))∧OwnM (zaf W1 (w.heap.size+1+1) (.string ⟨#[]⟩) (.int .i64 0) (.int .i64 0) (.slice none 0 0) (.slice none 0 0)) base (.slice va vn vc) y.ms∧OwnK (zaf W1 (w.heap.size+1+1) (.string ⟨#[]⟩) (.int .i64 0) (.int .i64 0) (.slice none 0 0) (.slice none 0 0)) base (.slice ua un uc) y.ks) :=
   ⟨zcL R0,zdn HB1.out (by omega),zaD HM1.out.1 (zax _ _ _ _ _ _ _) (zay HM1.out.1 R0 (by decide)),zaD HM1.out.2 (zax _ _ _ _ _ _ _) (zay HM1.out.2 R0 (by decide))⟩
  clear R0;go_wp2;change bodyPost _ _ _ _ _ (zaf W1 (w.heap.size+1+1) (.string ⟨#[]⟩) (.int .i64 0) (.int .i64 0) (.slice none 0 0) (.slice none 0 0));generalize zaf _ _ _ _ _ _ _=W9 at HE ⊢;have d0:W9.cell? ⟨w.heap.size+1+1,0,none⟩=some (.string ⟨#[]⟩):=HE.out.1.c0;have d1:W9.cell? ⟨w.heap.size+1+1,0+1,none⟩=some (.int .i64 0):=HE.out.1.c1;have d2:W9.cell? ⟨w.heap.size+1+1,0+2,none⟩=some (.int .i64 0):=HE.out.1.c2;have d3:=HE.out.1.c3;have d4:=HE.out.1.c4;exact bodyPost_ret (v:=.tuple #[.agg #[.string ⟨#[]⟩,.int .i64 0,.int .i64 0,.slice none 0 0,.slice none 0 0],.int .i64 17]) (by simp[results,Tryz.results115,go_sem,d0,d1,d2,d3,d4]) rfl ⟨.inr ⟨rfl,.inr ⟨HF.out,rfl,rfl⟩,HE.out.2.2.1,HE.out.2.2.2⟩,ow.zbC HE.out.2.1⟩
 | true =>
  obtain⟨hi,hu⟩:i<y.ms.length∧(y.ms.getD i noS).u=m.u:=by
   rcases hf with⟨_,h1,h2⟩|⟨e,_⟩
   ·exact⟨h1,h2⟩
   ·cases e
  have HU:=hD hu;clear hf hu;obtain⟨g,rfl,hvn⟩:∃g,va=some ⟨g,0,none⟩∧vn=y.ms.length:=by
   rcases HM1.out.1.2 with⟨e,hz⟩|⟨g,cap,cur,e,_⟩
   ·omega
   ·cases e;exact⟨g,rfl,rfl⟩
  subst hvn;have hown:=HM1.out.1;obtain⟨e0,e1,e2⟩:=mc_at y.ms i hi;have L0:=HL1.out.1;have L1:=HL1.out.2.1;have L2:=HL1.out.2.2;have c3:=L0.c3;have d3:=L1.c3;have q1:=(hown.cellAt (i*3+1) (by omega)).trans e1;have f1:=hown.frozenAt (i*3+1);have hi':(i:Int)<(y.ms.length:Int):=by omega
  have hi0:(0:Int)≤(i:Int):=by omega
  generalize hE:y.ms.getD i noS=E at q1;have HEE:=hD hE;clear hown e0 e1 e2 L0 L2 hE
  rcases hmo with hmo|hmo|hmo
  ·have d2:W1.cell? ⟨w.heap.size+1,0+2,none⟩=some (.int .i64 1):=by rw[←hmo];exact L1.c2
   clear L1
   go_upto_region 12 with fail
   have HX:Hid (OwnM (W1.setCell ⟨g,i*3+1,none⟩ (.int .i64 m.f)) base (.slice (some ⟨g,0,none⟩) y.ms.length vc) (setF y.ms i m.f)∧OwnK (W1.setCell ⟨g,i*3+1,none⟩ (.int .i64 m.f)) base (.slice ua un uc) y.ks∧bx.Lies (W1.setCell ⟨g,i*3+1,none⟩ (.int .i64 m.f)) w.heap.size 65 y (.slice (some ⟨g,0,none⟩) y.ms.length vc) (.slice ua un uc)∧bx.Lies (W1.setCell ⟨g,i*3+1,none⟩ (.int .i64 m.f)) (w.heap.size+1+1) 65 B0 (.slice none 0 0) (.slice none 0 0)∧w.grownBy (W1.setCell ⟨g,i*3+1,none⟩ (.int .i64 m.f)) (some g)) :=
    ⟨zdd HM1.out.1 hi _,za2 HM1.out.2 (u:=(.slice (some ⟨g,0,none⟩) y.ms.length vc)) (mk.zam _ _ _ _) (zaG HM1.out.2 HM1.out.1 (by decide)),zaX HL1.out.1 HM1.out.1 (mk.zam _ _ _ _) (by decide),zaX HL1.out.2.2 HM1.out.1 (mk.zam _ _ _ _) (by decide),ow.zah (ow.zbC HB1.out) (mk.zam _ _ _ _)⟩
   clear c3 d3 q1 f1 d2;generalize W1.setCell _ _=X at HX ⊢;have c0:=HX.out.2.2.1.c0;have c1:=HX.out.2.2.1.c1;have c2:=HX.out.2.2.1.c2;have c3:=HX.out.2.2.1.c3;have c4:=HX.out.2.2.1.c4;have r0:=HX.out.2.2.2.1.c0;have r1:=HX.out.2.2.2.1.c1;have r2:=HX.out.2.2.2.1.c2;have r3:=HX.out.2.2.2.1.c3;have r4:=HX.out.2.2.2.1.c4;have fr:=HX.out.2.2.2.1.f;have HE:Hid (bx.Lies (zaf X (w.heap.size+1+1) (.string y.nm) (.int .i64 y.vd) (.int .i64 y.nx) (.slice (some ⟨g,0,none⟩) y.ms.length vc) (.slice ua un uc)) (w.heap.size+1+1) 65 y (.slice (some ⟨g,0,none⟩) y.ms.length vc) (.slice ua un uc)∧OwnM (zaf X (w.heap.size+1+1) (.string y.nm) (.int .i64 y.vd) (.int .i64 y.nx) (.slice (some ⟨g,0,none⟩) y.ms.length vc) (.slice ua un uc)) base (.slice (some ⟨g,0,none⟩) y.ms.length vc) (setF y.ms i m.f)∧OwnK (zaf X (w.heap.size+1+1) (.string y.nm) (.int .i64 y.vd) (.int .i64 y.nx) (.slice (some ⟨g,0,none⟩) y.ms.length vc) (.slice ua un uc)) base (.slice ua un uc) y.ks∧w.grownBy (zaf X (w.heap.size+1+1) (.string y.nm) (.int .i64 y.vd) (.int .i64 y.nx) (.slice (some ⟨g,0,none⟩) y.ms.length vc) (.slice ua un uc)) (some g)) :=
    ⟨zbV HX.out.2.2.2.1,zaD HX.out.1 (zax _ _ _ _ _ _ _) (zay HX.out.1 HX.out.2.2.2.1 (by decide)),zaD HX.out.2.1 (zax _ _ _ _ _ _ _) (zay HX.out.2.1 HX.out.2.2.2.1 (by decide)),zcy HX.out.2.2.2.2 (by omega)⟩
   clear HX;go_wp2;change bodyPost _ _ _ _ _ (zaf X (w.heap.size+1+1) (.string y.nm) (.int .i64 y.vd) (.int .i64 y.nx) (.slice (some ⟨g,0,none⟩) y.ms.length vc) (.slice ua un uc));generalize zaf _ _ _ _ _ _ _=W9 at HE ⊢;have x0:=HE.out.1.c0;have x1:=HE.out.1.c1;have x2:=HE.out.1.c2;have x3:=HE.out.1.c3;have x4:=HE.out.1.c4;exact bodyPost_ret (v:=.tuple #[.agg #[.string y.nm,.int .i64 y.vd,.int .i64 y.nx,(.slice (some ⟨g,0,none⟩) y.ms.length vc),(.slice ua un uc)],.int .i64 0]) (by simp[results,Tryz.results115,go_sem,x0,x1,x2,x3,x4]) rfl ⟨.inl ⟨⟨y.nm,y.vd,y.nx,setF y.ms i m.f,y.ks⟩,rfl,.inl ⟨i,hi,HU.out,by rw[HEE.out,flg_set hmo],rfl⟩,HE.out.2.1,HE.out.2.2.1⟩,HE.out.2.2.2⟩
  ·have d2:W1.cell? ⟨w.heap.size+1,0+2,none⟩=some (.int .i64 2):=by rw[←hmo];exact L1.c2
   clear L1
   go_upto_region 9 with fail
   go_region_with fail
   all_goals (go_upto_region 12 with fail)
   all_goals (
    have hx0:(OwnM (W1.setCell ⟨g,i*3+1,none⟩ (.int .i64 (bits .or .i64 E.f m.f))) base (.slice (some ⟨g,0,none⟩) y.ms.length vc) (setF y.ms i (bits .or .i64 E.f m.f))∧OwnK (W1.setCell ⟨g,i*3+1,none⟩ (.int .i64 (bits .or .i64 E.f m.f))) base (.slice ua un uc) y.ks∧bx.Lies (W1.setCell ⟨g,i*3+1,none⟩ (.int .i64 (bits .or .i64 E.f m.f))) w.heap.size 65 y (.slice (some ⟨g,0,none⟩) y.ms.length vc) (.slice ua un uc)∧bx.Lies (W1.setCell ⟨g,i*3+1,none⟩ (.int .i64 (bits .or .i64 E.f m.f))) (w.heap.size+1+1) 65 B0 (.slice none 0 0) (.slice none 0 0)∧w.grownBy (W1.setCell ⟨g,i*3+1,none⟩ (.int .i64 (bits .or .i64 E.f m.f))) (some g)) :=
     ⟨zdd HM1.out.1 hi _,za2 HM1.out.2 (u:=(.slice (some ⟨g,0,none⟩) y.ms.length vc)) (mk.zam _ _ _ _) (zaG HM1.out.2 HM1.out.1 (by decide)),zaX HL1.out.1 HM1.out.1 (mk.zam _ _ _ _) (by decide),zaX HL1.out.2.2 HM1.out.1 (mk.zam _ _ _ _) (by decide),ow.zah (ow.zbC HB1.out) (mk.zam _ _ _ _)⟩
    have HX:Hid (OwnM (W1.setCell ⟨g,i*3+1,none⟩ (.int .i64 (bits .or .i64 E.f m.f))).drew base (.slice (some ⟨g,0,none⟩) y.ms.length vc) (setF y.ms i (bits .or .i64 E.f m.f))∧OwnK (W1.setCell ⟨g,i*3+1,none⟩ (.int .i64 (bits .or .i64 E.f m.f))).drew base (.slice ua un uc) y.ks∧bx.Lies (W1.setCell ⟨g,i*3+1,none⟩ (.int .i64 (bits .or .i64 E.f m.f))).drew w.heap.size 65 y (.slice (some ⟨g,0,none⟩) y.ms.length vc) (.slice ua un uc)∧bx.Lies (W1.setCell ⟨g,i*3+1,none⟩ (.int .i64 (bits .or .i64 E.f m.f))).drew (w.heap.size+1+1) 65 B0 (.slice none 0 0) (.slice none 0 0)∧w.grownBy (W1.setCell ⟨g,i*3+1,none⟩ (.int .i64 (bits .or .i64 E.f m.f))).drew (some g)):=⟨hx0.1,hx0.2.1,hx0.2.2.1,hx0.2.2.2.1,drew_grown hx0.2.2.2.2⟩
    clear hx0;clear c3 d3 q1 f1 d2;generalize World.drew _=X at HX ⊢;have c0:=HX.out.2.2.1.c0;have c1:=HX.out.2.2.1.c1;have c2:=HX.out.2.2.1.c2;have c3:=HX.out.2.2.1.c3;have c4:=HX.out.2.2.1.c4;have r0:=HX.out.2.2.2.1.c0;have r1:=HX.out.2.2.2.1.c1;have r2:=HX.out.2.2.2.1.c2;have r3:=HX.out.2.2.2.1.c3;have r4:=HX.out.2.2.2.1.c4;have fr:=HX.out.2.2.2.1.f;have HE:Hid (bx.Lies (zaf X (w.heap.size+1+1) (.string y.nm) (.int .i64 y.vd) (.int .i64 y.nx) (.slice (some ⟨g,0,none⟩) y.ms.length vc) (.slice ua un uc)) (w.heap.size+1+1) 65 y (.slice (some ⟨g,0,none⟩) y.ms.length vc) (.slice ua un uc)∧OwnM (zaf X (w.heap.size+1+1) (.string y.nm) (.int .i64 y.vd) (.int .i64 y.nx) (.slice (some ⟨g,0,none⟩) y.ms.length vc) (.slice ua un uc)) base (.slice (some ⟨g,0,none⟩) y.ms.length vc) (setF y.ms i (bits .or .i64 E.f m.f))∧OwnK (zaf X (w.heap.size+1+1) (.string y.nm) (.int .i64 y.vd) (.int .i64 y.nx) (.slice (some ⟨g,0,none⟩) y.ms.length vc) (.slice ua un uc)) base (.slice ua un uc) y.ks∧w.grownBy (zaf X (w.heap.size+1+1) (.string y.nm) (.int .i64 y.vd) (.int .i64 y.nx) (.slice (some ⟨g,0,none⟩) y.ms.length vc) (.slice ua un uc)) (some g)) :=
     ⟨zbV HX.out.2.2.2.1,zaD HX.out.1 (zax _ _ _ _ _ _ _) (zay HX.out.1 HX.out.2.2.2.1 (by decide)),zaD HX.out.2.1 (zax _ _ _ _ _ _ _) (zay HX.out.2.1 HX.out.2.2.2.1 (by decide)),zcy HX.out.2.2.2.2 (by omega)⟩
    clear HX;go_wp2;change bodyPost _ _ _ _ _ (zaf X (w.heap.size+1+1) (.string y.nm) (.int .i64 y.vd) (.int .i64 y.nx) (.slice (some ⟨g,0,none⟩) y.ms.length vc) (.slice ua un uc));generalize zaf _ _ _ _ _ _ _=W9 at HE ⊢;have x0:=HE.out.1.c0;have x1:=HE.out.1.c1;have x2:=HE.out.1.c2;have x3:=HE.out.1.c3;have x4:=HE.out.1.c4
    exact bodyPost_ret (v:=.tuple #[.agg #[.string y.nm,.int .i64 y.vd,.int .i64 y.nx,(.slice (some ⟨g,0,none⟩) y.ms.length vc),(.slice ua un uc)],.int .i64 0]) (by simp[results,Tryz.results115,go_sem,x0,x1,x2,x3,x4]) rfl ⟨.inl ⟨⟨y.nm,y.vd,y.nx,setF y.ms i (bits .or .i64 E.f m.f),y.ks⟩,rfl,.inl ⟨i,hi,HU.out,by rw[HEE.out,flg_add hmo],rfl⟩,HE.out.2.1,HE.out.2.2.1⟩,HE.out.2.2.2⟩)
  ·have d2:W1.cell? ⟨w.heap.size+1,0+2,none⟩=some (.int .i64 3):=by rw[←hmo];exact L1.c2
   clear L1
   go_upto_region 11 with fail
   go_region_with fail
   all_goals (go_upto_region 12 with fail)
   all_goals (
    have hx0:(OwnM (W1.setCell ⟨g,i*3+1,none⟩ (.int .i64 (bits .andNot .i64 E.f m.f))) base (.slice (some ⟨g,0,none⟩) y.ms.length vc) (setF y.ms i (bits .andNot .i64 E.f m.f))∧OwnK (W1.setCell ⟨g,i*3+1,none⟩ (.int .i64 (bits .andNot .i64 E.f m.f))) base (.slice ua un uc) y.ks∧bx.Lies (W1.setCell ⟨g,i*3+1,none⟩ (.int .i64 (bits .andNot .i64 E.f m.f))) w.heap.size 65 y (.slice (some ⟨g,0,none⟩) y.ms.length vc) (.slice ua un uc)∧bx.Lies (W1.setCell ⟨g,i*3+1,none⟩ (.int .i64 (bits .andNot .i64 E.f m.f))) (w.heap.size+1+1) 65 B0 (.slice none 0 0) (.slice none 0 0)∧w.grownBy (W1.setCell ⟨g,i*3+1,none⟩ (.int .i64 (bits .andNot .i64 E.f m.f))) (some g)) :=
     ⟨zdd HM1.out.1 hi _,za2 HM1.out.2 (u:=(.slice (some ⟨g,0,none⟩) y.ms.length vc)) (mk.zam _ _ _ _) (zaG HM1.out.2 HM1.out.1 (by decide)),zaX HL1.out.1 HM1.out.1 (mk.zam _ _ _ _) (by decide),zaX HL1.out.2.2 HM1.out.1 (mk.zam _ _ _ _) (by decide),ow.zah (ow.zbC HB1.out) (mk.zam _ _ _ _)⟩
    have HX:Hid (OwnM (W1.setCell ⟨g,i*3+1,none⟩ (.int .i64 (bits .andNot .i64 E.f m.f))).drew base (.slice (some ⟨g,0,none⟩) y.ms.length vc) (setF y.ms i (bits .andNot .i64 E.f m.f))∧OwnK (W1.setCell ⟨g,i*3+1,none⟩ (.int .i64 (bits .andNot .i64 E.f m.f))).drew base (.slice ua un uc) y.ks∧bx.Lies (W1.setCell ⟨g,i*3+1,none⟩ (.int .i64 (bits .andNot .i64 E.f m.f))).drew w.heap.size 65 y (.slice (some ⟨g,0,none⟩) y.ms.length vc) (.slice ua un uc)∧bx.Lies (W1.setCell ⟨g,i*3+1,none⟩ (.int .i64 (bits .andNot .i64 E.f m.f))).drew (w.heap.size+1+1) 65 B0 (.slice none 0 0) (.slice none 0 0)∧w.grownBy (W1.setCell ⟨g,i*3+1,none⟩ (.int .i64 (bits .andNot .i64 E.f m.f))).drew (some g)):=⟨hx0.1,hx0.2.1,hx0.2.2.1,hx0.2.2.2.1,drew_grown hx0.2.2.2.2⟩
    clear hx0;clear c3 d3 q1 f1 d2;generalize World.drew _=X at HX ⊢;have c0:=HX.out.2.2.1.c0;have c1:=HX.out.2.2.1.c1;have c2:=HX.out.2.2.1.c2;have c3:=HX.out.2.2.1.c3;have c4:=HX.out.2.2.1.c4;have r0:=HX.out.2.2.2.1.c0;have r1:=HX.out.2.2.2.1.c1;have r2:=HX.out.2.2.2.1.c2;have r3:=HX.out.2.2.2.1.c3;have r4:=HX.out.2.2.2.1.c4;have fr:=HX.out.2.2.2.1.f;have HE:Hid (bx.Lies (zaf X (w.heap.size+1+1) (.string y.nm) (.int .i64 y.vd) (.int .i64 y.nx) (.slice (some ⟨g,0,none⟩) y.ms.length vc) (.slice ua un uc)) (w.heap.size+1+1) 65 y (.slice (some ⟨g,0,none⟩) y.ms.length vc) (.slice ua un uc)∧OwnM (zaf X (w.heap.size+1+1) (.string y.nm) (.int .i64 y.vd) (.int .i64 y.nx) (.slice (some ⟨g,0,none⟩) y.ms.length vc) (.slice ua un uc)) base (.slice (some ⟨g,0,none⟩) y.ms.length vc) (setF y.ms i (bits .andNot .i64 E.f m.f))∧OwnK (zaf X (w.heap.size+1+1) (.string y.nm) (.int .i64 y.vd) (.int .i64 y.nx) (.slice (some ⟨g,0,none⟩) y.ms.length vc) (.slice ua un uc)) base (.slice ua un uc) y.ks∧w.grownBy (zaf X (w.heap.size+1+1) (.string y.nm) (.int .i64 y.vd) (.int .i64 y.nx) (.slice (some ⟨g,0,none⟩) y.ms.length vc) (.slice ua un uc)) (some g)) :=
     ⟨zbV HX.out.2.2.2.1,zaD HX.out.1 (zax _ _ _ _ _ _ _) (zay HX.out.1 HX.out.2.2.2.1 (by decide)),zaD HX.out.2.1 (zax _ _ _ _ _ _ _) (zay HX.out.2.1 HX.out.2.2.2.1 (by decide)),zcy HX.out.2.2.2.2 (by omega)⟩
    clear HX;go_wp2;change bodyPost _ _ _ _ _ (zaf X (w.heap.size+1+1) (.string y.nm) (.int .i64 y.vd) (.int .i64 y.nx) (.slice (some ⟨g,0,none⟩) y.ms.length vc) (.slice ua un uc));generalize zaf _ _ _ _ _ _ _=W9 at HE ⊢;have x0:=HE.out.1.c0;have x1:=HE.out.1.c1;have x2:=HE.out.1.c2;have x3:=HE.out.1.c3;have x4:=HE.out.1.c4
    exact bodyPost_ret (v:=.tuple #[.agg #[.string y.nm,.int .i64 y.vd,.int .i64 y.nx,(.slice (some ⟨g,0,none⟩) y.ms.length vc),(.slice ua un uc)],.int .i64 0]) (by simp[results,Tryz.results115,go_sem,x0,x1,x2,x3,x4]) rfl ⟨.inl ⟨⟨y.nm,y.vd,y.nx,setF y.ms i (bits .andNot .i64 E.f m.f),y.ks⟩,rfl,.inl ⟨i,hi,HU.out,by rw[HEE.out,flg_less hmo],rfl⟩,HE.out.2.1,HE.out.2.2.1⟩,HE.out.2.2.2⟩)
end bl
end Go.Proofs.YtmnflpmfngjllaaGreatDoor
