/-
  FnReplayCardSaid
-/
import Derived.Test.YtmnflpmfngjllaaGreatDoorPkbw
set_option maxHeartbeats 16000000
set_option maxRecDepth 100000
set_option linter.unusedVariables false
namespace Go.Proofs.YtmnflpmfngjllaaGreatDoor
namespace dm
open Go.RowKit Go.Deep
open it
open sr (Src src_keep code_keep code_keep' next_any)
open se (B6 Pk list_any)
structure St (w:World) (b:Nat) (a:Option Addr) (len cap:Nat) (at0 k:Int) (x:World) (at' sd':Int):Prop where
 s:Src x b a len cap at' sd'
 c:sr.Code x b a len
 g:w.grownBy x (some b)
 z:Zero x w.heap.size
 lo:at0≤at'
 hi:at'≤at0+k
 s0:0≤sd'
 s1:sd'<2147483648
section
variable {w x x':World}{b:Nat}{a:Option Addr}{len cap:Nat}{at0 k at' sd':Int}
theorem St.lt(h:St w b a len cap at0 k x at' sd')(hb:b<w.heap.size):w.heap.size<x.heap.size:=B6.lt h.z
theorem St.on(h:St w b a len cap at0 k x at' sd')(hb:b<w.heap.size){at'' sd'':Int}(hs:Src x' b a len cap at'' sd'')(hg:x.grownBy x' (some b))(h1:at'≤at''){j:Int}(h2:at''≤at'+j)(d0:0≤sd'')(d1:sd''<2147483648):St w b a len cap at0 (k+j) x' at'' sd'' :=
 ⟨hs,code_keep h.c hg,ow.zah h.g hg,B6.grow h.z hg (λe=>by have:=Option.some.inj e;omega),Int.le_trans h.lo h1,by have:=h.hi;omega,d0,d1⟩
theorem St.new(h:St w b a len cap at0 k x at' sd')(hb:b<w.heap.size)(hg:Below x.heap.size x x'):St w b a len cap at0 k x' at' sd':=by
 have hgr:=grown_of hg;exact⟨src_keep h.s hgr (by simp),code_keep' h.c hgr (by simp),ow.zah h.g (grown_wide b hgr),B6.grow h.z hgr (by simp),h.lo,h.hi,h.s0,h.s1⟩
theorem St.put(h:St w b a len cap at0 k x at' sd')(hb:b<w.heap.size){M:Nat}(hM:w.heap.size<M)(hg:x.grownBy x' (some M)):St w b a len cap at0 k x' at' sd' :=
 ⟨src_keep h.s hg (λe=>by have:=Option.some.inj e;omega),code_keep' h.c hg (λk e=>by have:=Option.some.inj e;omega),zbq h.g hg (λk e=>by have:=Option.some.inj e;omega),B6.grow h.z hg (λe=>by have:=Option.some.inj e;omega),h.lo,h.hi,h.s0,h.s1⟩
theorem St.mono(h:St w b a len cap at0 k x at' sd'){j:Int}(hj:k≤j):St w b a len cap at0 j x at' sd':=⟨h.s,h.c,h.g,h.z,h.lo,by have:=h.hi;omega,h.s0,h.s1⟩
theorem St.next(h:St w b a len cap at0 k x at' sd')(hb:b<w.heap.size)(h0:0≤at0)(h1:at0+k≤900000)(n:Int)(n1:1≤n)(n2:n≤1000) :
  Calls Tryz.prog 27 #[.pointer (some ⟨b,0,none⟩),.int .i64 n] x λe x'=>∃r at'' sd'':Int,e=.returned (.int .i64 r)∧0≤r∧r≤n-1∧St w b a len cap at0 (k+3) x' at'' sd''∧x.grownBy x' (some b):=by
 have q1:=h.lo;have q2:=h.hi;refine(next_any x b a len cap at' sd' n h.s h.c (by omega) (by omega) h.s0 h.s1 n1 (by omega)).mono ?_;rintro e x' ⟨r,a2,s2,rfl,r0,r1,a0,a1,d0,d1,hs,hg⟩;exact⟨r,a2,s2,rfl,r0,r1,h.on hb hs hg a0 a1 d0 d1,hg⟩
theorem boxName_any(w:World)(b:Nat)(a:Option Addr)(len cap:Nat)(at_ sd:Int)(hs:Src w b a len cap at_ sd)(hc:sr.Code w b a len)(h0:0≤at_)(h1:at_≤900000)(s0:0≤sd)(s1:sd<2147483648) :
  Calls Tryz.prog 54 #[.pointer (some ⟨b,0,none⟩)] w λe w'=>Pk w b a len cap at_ za8 e w':=by
 have hl:=list_any za8 4 w b a len cap at_ sd hs hc h0 h1 s0 s1 rfl (by omega) (by omega);have HL:=hD hl;clear hl hs hc;go_enter Tryz.func54,Tryz.ntmps54
 go_wp2_with fail
 refine HL.out.mono ?_;rintro e w' ⟨t,at',sd',rfl,ht,a0,a1,d0,d1,hs1,hc1,hg1⟩;have HP:Hid (t∈za8∧at_≤at'∧at'≤at_+3∧0≤sd'∧sd'<2147483648∧Src w' b a len cap at' sd'∧sr.Code w' b a len∧w.grownBy w' (some b)):=⟨ht,a0,a1,d0,d1,hs1,hc1,hg1⟩
 clear ht a0 a1 d0 d1 hs1 hc1 hg1 HL;go_wp2;go_ret;exact⟨t,at',sd',rfl,HP.out⟩
theorem St.name(h:St w b a len cap at0 k x at' sd')(hb:b<w.heap.size)(h0:0≤at0)(h1:at0+k≤900000) :
  Calls Tryz.prog 54 #[.pointer (some ⟨b,0,none⟩)] x λe x'=>∃(s:ByteArray) (at'' sd'':Int),e=.returned (.string s)∧s∈za8∧St w b a len cap at0 (k+3) x' at'' sd''∧x.grownBy x' (some b):=by
 have q1:=h.lo;have q2:=h.hi;refine(boxName_any x b a len cap at' sd' h.s h.c (by omega) (by omega) h.s0 h.s1).mono ?_;rintro e x' ⟨s,a2,s2,rfl,hm,a0,a1,d0,d1,hs,hc,hg⟩;exact⟨s,a2,s2,rfl,hm,h.on hb hs hg a0 a1 d0 d1,hg⟩
theorem St.entry(h:St w b a len cap at0 k x at' sd')(hb:b<w.heap.size)(h0:0≤at0)(h1:at0+k≤700000) :
  Calls Tryz.prog 55 #[.pointer (some ⟨b,0,none⟩)] x λe x'=>∃(i t l au c:ByteArray) (d at'' sd'':Int),e=.returned (se.EV6 i t l au d c)∧(i∈se.idL∧t∈se.fldL∧l∈se.linkL∧au∈se.fldL∧c∈se.conL∧0≤d∧d≤4102444799)∧St w b a len cap at0 (k+24) x' at'' sd''∧x.grownBy x' (some b):=by
 have q1:=h.lo;have q2:=h.hi;refine(se.entry_any x b a len cap at' sd' h.s h.c (by omega) (by omega) h.s0 h.s1).mono ?_;rintro e x' ⟨i,t,l,au,c,d,a2,s2,rfl,hm,a0,a1,d0,d1,hs,hc,hg⟩;exact⟨i,t,l,au,c,d,a2,s2,rfl,hm,h.on hb hs hg a0 a1 d0 d1,hg⟩
end
def DrawnM(w:World)(b:Nat)(a:Option Addr)(len cap:Nat)(at0:Int)(e:Ending)(w':World):Prop :=
 ∃(x:mu.Mu) (v:Value) (at' sd':Int),e=.returned (mu.MV x v)∧mu.mok x=true∧x.ps.length≤3∧zag w' w.heap.size v x.ps∧at0≤at'∧at'≤at0+200∧0≤sd'∧sd'<2147483648∧Src w' b a len cap at' sd'∧sr.Code w' b a len∧w.grownBy w' (some b)
theorem mok_of{x:mu.Mu}(h1:x.b∈za8)(h2:x.ps.length≤3)(h3:∀j,j<x.ps.length→ItD (x.ps.getD j no))(h4:mu.zbb x.k x.u x.m x.f x.ps.length=true):mu.mok x=true:=by
 rw[mu.zcH (zcv _ h1) (mu.its_yes (by omega) λj hj=>decide_eq_true (h3 j hj))];exact h4
def MV6(x:World)(g:Nat)(k u m f:Int)(bx:ByteArray)(v:Value):Prop:=B6 x g 35 (.int .i64 k) (.int .i64 u) (.int .i64 m) (.int .i64 f) (.string bx) v
theorem zcO{w:World}{B:Nat}(hB:B≤w.heap.size):zag (w.alloc (.cells #[] 103)) B (.slice (some ⟨w.heap.size,0,none⟩) 0 0) []:=World.ownsRow_made w #[] 0 hB (Nat.zero_le _) rfl
theorem zdl(w:World)(b:Nat)(a:Option Addr)(len cap:Nat)(at_ sd:Int)(hs:Src w b a len cap at_ sd)(hc:sr.Code w b a len)(h0:0≤at_)(h1:at_≤600000)(s0:0≤sd)(s1:sd<2147483648) :
  Calls Tryz.prog 29 #[.pointer (some ⟨b,0,none⟩)] w λe w'=>DrawnM w b a len cap at_ e w':=by
 have hbw:b<w.heap.size:=(Array.getElem?_eq_some_iff.1 hs).1;have S0:Hid (St w b a len cap at_ 0 (w.alloc (.cells #[.int .i64 0,.int .i64 0,.int .i64 0,.int .i64 0,.string ⟨#[]⟩,.slice none 0 0] 35)) at_ sd) :=
  ⟨src_keep hs (World.grownBy_alloc _ _ none) (by simp),code_keep' hc (World.grownBy_alloc _ _ none) (by simp),World.grownBy_alloc _ _ _,(MapKept.heap_alloc w _).1,Int.le_refl _,by omega,s0,s1⟩
 clear hs hc;go_enter Tryz.func29,Tryz.ntmps29
 go_wp2_with fail
 generalize w.alloc _=w0 at S0 ⊢;refine(S0.out.name hbw h0 (by omega)).mono ?_;rintro e w1 ⟨nm,at1,sd1,rfl,hn,hs1,_⟩;have HN:Hid (nm∈za8):=hn;have S1:Hid (St w b a len cap at_ (0+3) w1 at1 sd1):=hs1;clear hn hs1 S0
 go_wp2_with fail
 refine(S1.out.next hbw h0 (by omega) 6 (by omega) (by omega)).mono ?_;rintro e w2 ⟨u,at2,sd2,rfl,u0,u1,hs2,_⟩;have S2:Hid (St w b a len cap at_ (0+3+3) w2 at2 sd2):=hs2;clear hs2 S1
 go_wp2_with fail
 refine(S2.out.next hbw h0 (by omega) 3 (by omega) (by omega)).mono ?_;rintro e w3 ⟨md,at3,sd3,rfl,m0,m1,hs3,_⟩;have S3:Hid (St w b a len cap at_ (0+3+3+3) w3 at3 sd3):=hs3;clear hs3 S2
 go_wp2_with fail
 refine(S3.out.next hbw h0 (by omega) 32 (by omega) (by omega)).mono ?_;rintro e w4 ⟨fl,at4,sd4,rfl,f0,f1,hs4,_⟩;have hz4:=hs4.lt hbw;have hbz4:b<w4.heap.size:=by omega
 have gI:Below w4.heap.size w4 (w4.alloc (.cells #[] 103)):=(Below.refl _ _).alloc (Nat.le_refl _) _;have gM:Below (w4.alloc (.cells #[] 103)).heap.size (w4.alloc (.cells #[] 103)) ((w4.alloc (.cells #[] 103)).alloc (.cells #[.int .i64 3,.int .i64 (1+u),.int .i64 (1+md),.int .i64 fl,.string nm,.slice (some ⟨w4.heap.size,0,none⟩) 0 0] 35)):=(Below.refl _ _).alloc (Nat.le_refl _) _;have S5:Hid (St w b a len cap at_ (0+3+3+3+3) ((w4.alloc (.cells #[] 103)).alloc (.cells #[.int .i64 3,.int .i64 (1+u),.int .i64 (1+md),.int .i64 fl,.string nm,.slice (some ⟨w4.heap.size,0,none⟩) 0 0] 35)) at4 sd4):=(hs4.new hbw gI).new hbw gM;have M5:Hid (MV6 ((w4.alloc (.cells #[] 103)).alloc (.cells #[.int .i64 3,.int .i64 (1+u),.int .i64 (1+md),.int .i64 fl,.string nm,.slice (some ⟨w4.heap.size,0,none⟩) 0 0] 35)) (w4.heap.size+1) 3 (1+u) (1+md) fl nm (.slice (some ⟨w4.heap.size,0,none⟩) 0 0)):=by
  have:=(MapKept.heap_alloc (w4.alloc (.cells #[] 103)) (.cells #[.int .i64 3,.int .i64 (1+u),.int .i64 (1+md),.int .i64 fl,.string nm,.slice (some ⟨w4.heap.size,0,none⟩) 0 0] 35)).1;rw[show(w4.alloc (.cells #[] 103)).heap.size=w4.heap.size+1 by simp] at this;exact this
 have R5:Hid (zag ((w4.alloc (.cells #[] 103)).alloc (.cells #[.int .i64 3,.int .i64 (1+u),.int .i64 (1+md),.int .i64 fl,.string nm,.slice (some ⟨w4.heap.size,0,none⟩) 0 0] 35)) w4.heap.size (.slice (some ⟨w4.heap.size,0,none⟩) 0 0) []):=zaF (zcO (Nat.le_refl _)) (grown_of gM) (λk e=>by cases e);have hzM:w.heap.size<w4.heap.size+1:=by omega
 clear hs4 S3 gI gM
 go_wp2_with fail
 generalize(w4.alloc _).alloc _=w5 at S5 M5 R5 ⊢;generalize w4.heap.size+1=M at M5 hzM ⊢;generalize w4.heap.size=B at R5 M5 hz4 hbz4 ⊢;refine(S5.out.next hbw h0 (by omega) 6 (by omega) (by omega)).mono ?_;rintro e w6 ⟨c,at6,sd6,rfl,c0,c1,hs6,hg6⟩;have S6:Hid (St w b a len cap at_ (0+3+3+3+3+3) w6 at6 sd6):=hs6;have M6:Hid (MV6 w6 M 3 (1+u) (1+md) fl nm (.slice (some ⟨B,0,none⟩) 0 0)):=B6.grow M5.out hg6 (λe=>by have:=Option.some.inj e;omega);have R6:Hid (zag w6 B (.slice (some ⟨B,0,none⟩) 0 0) []):=zaF R5.out hg6 (λk e=>by have:=Option.some.inj e;omega);have hM6:M<w6.heap.size:=B6.lt M6.out;clear hs6 hg6 S5 M5 R5;obtain hcc:c=0∨c=1∨c=2∨c=3∨4≤c:=by omega
 rcases hcc with rfl|rfl|rfl|rfl|hcc
 ·clear c0 c1 R6
  go_wp2_with fail
  refine(S6.out.name hbw h0 (by omega)).mono ?_;rintro e w7 ⟨n2,at7,sd7,rfl,hn2,hs7,hg7⟩;have HN2:Hid (n2∈za8):=hn2;have gI:Below w7.heap.size w7 (w7.alloc (.cells #[] 103)):=(Below.refl _ _).alloc (Nat.le_refl _) _;have S7:Hid (St w b a len cap at_ (0+3+3+3+3+3+3) (w7.alloc (.cells #[] 103)) at7 sd7):=hs7.new hbw gI;have M7:MV6 w7 M 3 (1+u) (1+md) fl nm (.slice (some ⟨B,0,none⟩) 0 0):=B6.grow M6.out hg7 (λe=>by have:=Option.some.inj e;omega);have HM7:Hid (M<w7.heap.size):=B6.lt M7;have MX:Hid (MV6 (w7.alloc (.cells #[] 103)) M 3 (1+u) (1+md) fl nm (.slice (some ⟨B,0,none⟩) 0 0)):=B6.grow M7 (grown_of gI) (by simp);have a0:(w7.alloc (.cells #[] 103)).cell? ⟨M,0,none⟩=_:=MX.out.cell 0 _ rfl;have a1:(w7.alloc (.cells #[] 103)).cell? ⟨M,0+1,none⟩=_:=MX.out.cell 1 _ rfl;have a2:(w7.alloc (.cells #[] 103)).cell? ⟨M,0+2,none⟩=_:=MX.out.cell 2 _ rfl;have a3:(w7.alloc (.cells #[] 103)).cell? ⟨M,0+3,none⟩=_:=MX.out.cell 3 _ rfl;have a4:(w7.alloc (.cells #[] 103)).cell? ⟨M,0+4,none⟩=_:=MX.out.cell 4 _ rfl;have a5:(w7.alloc (.cells #[] 103)).cell? ⟨M,0+5,none⟩=_:=MX.out.cell 5 _ rfl;have fM:=MX.out.f;clear hn2 hs7 hg7 S6 M6 gI M7
  go_upto_region 15 with fail
  generalize hX:World.setCell _ _ _=X;have hM7:=HM7.out;clear HM7;have eX:X=put6 (w7.alloc (.cells #[] 103)) M (.int .i64 1) (.int .i64 0) (.int .i64 0) (.int .i64 0) (.string n2) (.slice (some ⟨w7.heap.size,0,none⟩) 0 0):=hX.symm;have hp:=zbk (w7.alloc (.cells #[] 103)) M (.int .i64 1) (.int .i64 0) (.int .i64 0) (.int .i64 0) (.string n2) (.slice (some ⟨w7.heap.size,0,none⟩) 0 0);have M8:Hid (MV6 X M 1 0 0 0 n2 (.slice (some ⟨w7.heap.size,0,none⟩) 0 0)):=by rw[eX];exact B6.put MX.out
  have S8:Hid (St w b a len cap at_ (0+3+3+3+3+3+3) X at7 sd7):=by rw[eX];exact S7.out.put hbw hzM hp
  have R8:Hid (zag X w7.heap.size (.slice (some ⟨w7.heap.size,0,none⟩) 0 0) []):=by rw[eX];exact zaF (zcO (Nat.le_refl _)) hp (λk e=>by have:=Option.some.inj e;omega)
  clear hX eX hp a0 a1 a2 a3 a4 a5 fM MX S7;generalize w7.heap.size=B2 at M8 R8 hM7 ⊢;have A5:=B6.put (a:=.int .i64 1) (b:=.int .i64 0) (c:=.int .i64 0) (d:=.int .i64 0) (e:=.string n2) (f:=.slice (some ⟨B2,0,none⟩) 0 0) S8.out.z;have HW:Hid (DrawnM w b a len cap at_ (.returned (.agg #[.int .i64 1,.int .i64 0,.int .i64 0,.int .i64 0,.string n2,.slice (some ⟨B2,0,none⟩) 0 0])) (put6 X w.heap.size (.int .i64 1) (.int .i64 0) (.int .i64 0) (.int .i64 0) (.string n2) (.slice (some ⟨B2,0,none⟩) 0 0))):=by
   have hg:=zbk X w.heap.size (.int .i64 1) (.int .i64 0) (.int .i64 0) (.int .i64 0) (.string n2) (.slice (some ⟨B2,0,none⟩) 0 0);have q:=S8.out;refine⟨⟨1,0,0,0,n2,[]⟩,_,_,_,rfl,mok_of HN2.out (Nat.zero_le _) (λj hj=>absurd hj (Nat.not_lt_zero _)) (by show mu.zbb 1 0 0 0 0=true;decide),?_,zaM (zaF R8.out hg (λk e=>by have:=Option.some.inj e;omega)) (by omega),q.lo,Int.le_trans q.hi (by omega),q.s0,q.s1,src_keep q.s hg (λe=>by have:=Option.some.inj e;omega),code_keep' q.c hg (λk e=>by have:=Option.some.inj e;omega),zbq q.g hg (λk e=>by have:=Option.some.inj e;omega)⟩;exact Nat.zero_le _
  have a0:X.cell? ⟨M,0,none⟩=_:=M8.out.cell 0 _ rfl;have a1:X.cell? ⟨M,0+1,none⟩=_:=M8.out.cell 1 _ rfl;have a2:X.cell? ⟨M,0+2,none⟩=_:=M8.out.cell 2 _ rfl;have a3:X.cell? ⟨M,0+3,none⟩=_:=M8.out.cell 3 _ rfl;have a4:X.cell? ⟨M,0+4,none⟩=_:=M8.out.cell 4 _ rfl;have a5:X.cell? ⟨M,0+5,none⟩=_:=M8.out.cell 5 _ rfl;have b0:X.cell? ⟨w.heap.size,0,none⟩=_:=S8.out.z.cell 0 _ rfl;have b1:X.cell? ⟨w.heap.size,0+1,none⟩=_:=S8.out.z.cell 1 _ rfl;have b2:X.cell? ⟨w.heap.size,0+2,none⟩=_:=S8.out.z.cell 2 _ rfl;have b3:X.cell? ⟨w.heap.size,0+3,none⟩=_:=S8.out.z.cell 3 _ rfl;have b4:X.cell? ⟨w.heap.size,0+4,none⟩=_:=S8.out.z.cell 4 _ rfl;have b5:X.cell? ⟨w.heap.size,0+5,none⟩=_:=S8.out.z.cell 5 _ rfl;have fz:=S8.out.z.f;clear S8 M8 R8;go_wp2;change bodyPost _ _ _ _ _ (put6 X w.heap.size (.int .i64 1) (.int .i64 0) (.int .i64 0) (.int .i64 0) (.string n2) (.slice (some ⟨B2,0,none⟩) 0 0));generalize put6 _ _ _ _ _ _ _ _=W5 at A5 HW ⊢;have d0:W5.cell? ⟨w.heap.size,0,none⟩=_:=A5.cell 0 _ rfl;have d1:W5.cell? ⟨w.heap.size,0+1,none⟩=_:=A5.cell 1 _ rfl;have d2:W5.cell? ⟨w.heap.size,0+2,none⟩=_:=A5.cell 2 _ rfl;have d3:W5.cell? ⟨w.heap.size,0+3,none⟩=_:=A5.cell 3 _ rfl;have d4:W5.cell? ⟨w.heap.size,0+4,none⟩=_:=A5.cell 4 _ rfl;have d5:W5.cell? ⟨w.heap.size,0+5,none⟩=_:=A5.cell 5 _ rfl;exact bodyPost_ret (v:=.agg #[.int .i64 1,.int .i64 0,.int .i64 0,.int .i64 0,.string n2,.slice (some ⟨B2,0,none⟩) 0 0]) (by simp[results,Tryz.results29,go_sem,d0,d1,d2,d3,d4,d5]) rfl HW.out
 ·clear c0 c1 R6
  go_wp2_with fail
  refine(S6.out.name hbw h0 (by omega)).mono ?_;rintro e w7 ⟨n2,at7,sd7,rfl,hn2,hs7,hg7⟩;have HN2:Hid (n2∈za8):=hn2;have gI:Below w7.heap.size w7 (w7.alloc (.cells #[] 103)):=(Below.refl _ _).alloc (Nat.le_refl _) _;have S7:Hid (St w b a len cap at_ (0+3+3+3+3+3+3) (w7.alloc (.cells #[] 103)) at7 sd7):=hs7.new hbw gI;have M7:MV6 w7 M 3 (1+u) (1+md) fl nm (.slice (some ⟨B,0,none⟩) 0 0):=B6.grow M6.out hg7 (λe=>by have:=Option.some.inj e;omega);have HM7:Hid (M<w7.heap.size):=B6.lt M7;have MX:Hid (MV6 (w7.alloc (.cells #[] 103)) M 3 (1+u) (1+md) fl nm (.slice (some ⟨B,0,none⟩) 0 0)):=B6.grow M7 (grown_of gI) (by simp);have a0:(w7.alloc (.cells #[] 103)).cell? ⟨M,0,none⟩=_:=MX.out.cell 0 _ rfl;have a1:(w7.alloc (.cells #[] 103)).cell? ⟨M,0+1,none⟩=_:=MX.out.cell 1 _ rfl;have a2:(w7.alloc (.cells #[] 103)).cell? ⟨M,0+2,none⟩=_:=MX.out.cell 2 _ rfl;have a3:(w7.alloc (.cells #[] 103)).cell? ⟨M,0+3,none⟩=_:=MX.out.cell 3 _ rfl;have a4:(w7.alloc (.cells #[] 103)).cell? ⟨M,0+4,none⟩=_:=MX.out.cell 4 _ rfl;have a5:(w7.alloc (.cells #[] 103)).cell? ⟨M,0+5,none⟩=_:=MX.out.cell 5 _ rfl;have fM:=MX.out.f;clear hn2 hs7 hg7 S6 M6 gI M7
  go_upto_region 8 with fail
  generalize hX:World.setCell _ _ _=X;have hM7:=HM7.out;clear HM7;have eX:X=put6 (w7.alloc (.cells #[] 103)) M (.int .i64 2) (.int .i64 0) (.int .i64 0) (.int .i64 0) (.string n2) (.slice (some ⟨w7.heap.size,0,none⟩) 0 0):=hX.symm;have hp:=zbk (w7.alloc (.cells #[] 103)) M (.int .i64 2) (.int .i64 0) (.int .i64 0) (.int .i64 0) (.string n2) (.slice (some ⟨w7.heap.size,0,none⟩) 0 0);have M8:Hid (MV6 X M 2 0 0 0 n2 (.slice (some ⟨w7.heap.size,0,none⟩) 0 0)):=by rw[eX];exact B6.put MX.out
  have S8:Hid (St w b a len cap at_ (0+3+3+3+3+3+3) X at7 sd7):=by rw[eX];exact S7.out.put hbw hzM hp
  have R8:Hid (zag X w7.heap.size (.slice (some ⟨w7.heap.size,0,none⟩) 0 0) []):=by rw[eX];exact zaF (zcO (Nat.le_refl _)) hp (λk e=>by have:=Option.some.inj e;omega)
  clear hX eX hp a0 a1 a2 a3 a4 a5 fM MX S7;generalize w7.heap.size=B2 at M8 R8 hM7 ⊢
  go_wp2_with fail
  refine(S8.out.next hbw h0 (by omega) 3 (by omega) (by omega)).mono ?_;rintro e w8 ⟨nn,at8,sd8,rfl,nn0,nn1,hs8,hg8⟩;have S9:Hid (St w b a len cap at_ (0+3+3+3+3+3+3+3) w8 at8 sd8):=hs8;have M9:Hid (MV6 w8 M 2 0 0 0 n2 (.slice (some ⟨B2,0,none⟩) 0 0)):=B6.grow M8.out hg8 (λe=>by have:=Option.some.inj e;omega);have R9:Hid (zag w8 (M+1) (.slice (some ⟨B2,0,none⟩) 0 0) []):=zaM (zaF R8.out hg8 (λk e=>by have:=Option.some.inj e;omega)) (by omega);clear hs8 hg8 S8 M8 R8;obtain⟨K,hK⟩:∃K:Nat,1+nn=(K:Int):=⟨(1+nn).toNat,by omega⟩
  have hK1:1≤K∧K≤3:=by omega
  skip
  obtain⟨i0,hi,hz0,hz1,hz2⟩:=info_parts infoAt;go_wp2
  go_loopw [4] (λi wr=>∃(k:Nat) (v:Value) (ps:List Pr) (at' sd':Int),i=.int .i64 k∧ps.length+k=K∧(∀j,j<ps.length→ItD (ps.getD j no))∧St w b a len cap at_ (24+30*(ps.length:Int)) wr at' sd'∧MV6 wr M 2 0 0 0 n2 v∧zag wr (M+1) v ps) (λi _=>(intOf i).toNat)
  case atStart=>exact⟨K,_,[],at8,sd8,rfl,by simp,λj hj=>absurd hj (Nat.not_lt_zero _),S9.out.mono (by simp),M9.out,R9.out⟩
  case round =>
   clear S9 M9 R9 nn0 nn1 hK;obtain⟨k,v,ps,at9,sd9,rfl,hkK,hps,hsw,hmw,hrw⟩:=hrel;have HPS:Hid (∀j,j<ps.length→ItD (ps.getD j no)):=hps;have HSW:Hid (St w b a len cap at_ (24+30*(ps.length:Int)) wr at9 sd9):=hsw;have HMW:Hid (MV6 wr M 2 0 0 0 n2 v):=hmw;have HRW:Hid (zag wr (M+1) v ps):=hrw;obtain⟨av,nv,cv,rfl⟩:∃a n c,v=.slice a n c:=by
    rcases hrw.2 with⟨rfl,_⟩|⟨g,cap,cur,rfl,_⟩
    ·exact⟨_,_,_,rfl⟩
    ·exact⟨_,_,_,rfl⟩
   clear hps hsw hmw hrw;by_cases hlt:0<k
   ·have hlt':(k:Int) > 0:=by omega
    have hlen:ps.length≤2:=by omega
    have Hk:Hid (ps.length+k=K∧0<k∧ps.length≤2):=⟨hkK,hlt,hlen⟩
    have hk3:(k:Int)≤3:=by omega
    clear hkK hlt hlen
    go_wp2_with fail
    refine(HSW.out.entry hbw h0 (by have:=Hk.out.2.2;omega)).mono ?_;rintro e w9 ⟨i,t,l,au,cc,d,at10,sd10,rfl,hd,hs9,hg9⟩;have HD:Hid (i∈se.idL∧t∈se.fldL∧l∈se.linkL∧au∈se.fldL∧cc∈se.conL∧0≤d∧d≤4102444799):=hd;have mw:MV6 w9 M 2 0 0 0 n2 (.slice av nv cv):=B6.grow HMW.out hg9 (λe=>by have:=Option.some.inj e;omega);have rw9:zag w9 (M+1) (.slice av nv cv) ps:=zaF HRW.out hg9 (λk e=>by have:=Option.some.inj e;omega);have hM9:M<w9.heap.size:=B6.lt mw;unfold se.EV6
    go_upto_region 12 with fail
    have hEl:w9.heap.size<(w9.alloc (.cells #[.string i,.string t,.string l,.string au,.int .i64 d,.string cc] 98)).heap.size:=by simp
    have hB9:Below w9.heap.size w9 (w9.alloc (.cells #[.string i,.string t,.string l,.string au,.int .i64 d,.string cc] 98)).drew:=((Below.refl _ _).alloc (Nat.le_refl _) _).drew;obtain⟨TX,hTX⟩:∃TX,TX=rn.rend ⟨i,t,l,au,d,cc⟩ n2:=⟨_,rfl⟩
    have HTX:Hid (TX=rn.rend ⟨i,t,l,au,d,cc⟩ n2):=hTX;have s9:=hs9.new hbw hB9;have HT:Hid (0≤at10∧at10≤900000∧0≤sd10∧sd10<2147483648):=⟨by have:=hs9.lo;omega,by have:=hs9.hi;have:=Hk.out.2.2;omega,hs9.s0,hs9.s1⟩
    have HP:Hid (Pl ⟨w,b,a,len,cap,at10,sd10,M,w9.heap.size,n2,.slice av nv cv,ps,i,t,l,au,d,cc,TX⟩):=⟨hbw,hzM,hM9⟩
    have HNE:Hid ((Value.slice av nv cv).ownBlock≠some w9.heap.size):=λe=>by have:=(rw9.lt _ e).2;omega
    have hJ0:J ⟨w,b,a,len,cap,at10,sd10,M,w9.heap.size,n2,.slice av nv cv,ps,i,t,l,au,d,cc,TX⟩ (λ_=>False) (λj=>match j with|0=>u42|1=>u43|2=>u44|3=>u45|4=>u46|5=>u47|6=>u48|7=>u49|8=>u50|9=>u51|10=>u52|11=>u53|12=>u54|13=>u55|14=>u56|_=>u57) (w9.alloc (.cells #[.string i,.string t,.string l,.string au,.int .i64 d,.string cc] 98)).drew :=
     J.start ⟨s9.g,s9.z,(MapKept.heap_alloc w9 _).1,s9.c⟩ s9.s (zaF rw9 (grown_of hB9) (λk e=>by cases e)) (B6.grow mw (grown_of hB9) (by simp))
    have HREL:Hid (∀(v:Value) (x:World) (n:Nat),(Later ⟨w,b,a,len,cap,at10,sd10,M,w9.heap.size,n2,.slice av nv cv,ps,i,t,l,au,d,cc,TX⟩ x∧Fx ⟨w,b,a,len,cap,at10,sd10,M,w9.heap.size,n2,.slice av nv cv,ps,i,t,l,au,d,cc,TX⟩ x∧MV6 x M 2 0 0 0 n2 v∧zag x (M+1) v (ps++[(key i n,TX)])∧n≤2)→∃(k':Nat) (v':Value) (ps':List Pr) (at' sd':Int),Value.int .i64 ((k:Int)-1)=.int .i64 k'∧ps'.length+k'=K∧(∀j,j<ps'.length→ItD (ps'.getD j no))∧St w b a len cap at_ (24+30*(ps'.length:Int)) x at' sd'∧MV6 x M 2 0 0 0 n2 v'∧zag x (M+1) v' ps'):=by
     rintro v x n ⟨⟨a2,s2,l1,l2,l3,l4,l5⟩,hf,hm,hr,hn⟩;have q1:=hs9.lo;have q2:=hs9.hi;have hk0:=Hk.out;refine⟨k-1,v,ps++[(key i n,TX)],a2,s2,by congr 1;omega,by simp;omega,λj hj=>?_,⟨l5,hf.cd,hf.gr,hf.z,Int.le_trans q1 l1,?_,l3,l4⟩,hm,hr⟩
     ·by_cases e:j<ps.length
      ·rw[List.getD_eq_getElem?_getD,List.getElem?_append_left e,←List.getD_eq_getElem?_getD];exact HPS.out j e
      ·have e2:j=ps.length:=by simp at hj;omega
       subst e2;rw[List.getD_eq_getElem?_getD,List.getElem?_append_right (Nat.le_refl _)];simp only[Nat.sub_self,List.getElem?_cons_zero,Option.getD_some];refine⟨key_ok (rn.idL_few i HD.out.1).2 hn,?_⟩;show TX.size≤4000;rw[HTX.out];exact rn.rend_few (zdc _ (zcv _ HN2.out)) HD.out.1 HD.out.2.1 HD.out.2.2.1 HD.out.2.2.2.1 HD.out.2.2.2.2.1 HD.out.2.2.2.2.2.1 HD.out.2.2.2.2.2.2
     ·have:a2≤at10+3:=l2;simp only[List.length_append,List.length_cons,List.length_nil];omega
    clear hEl hB9 hTX s9 hs9 hg9 mw rw9 hM9 HSW HMW HRW;refine rs.zaW (by kernel_rfl) (λf=>{tmps:=List.toArray ((.pointer (some ⟨b,0,none⟩):Value)::undef::.pointer (some ⟨w.heap.size,0,none⟩)::.pointer (some ⟨M,0,none⟩)::.int .i64 (k:Int)::.pointer (some ⟨w9.heap.size,0,none⟩)::.pointer (some ⟨b,0,none⟩)::.string nm::.pointer (some ⟨b,0,none⟩)::.int .i64 u::.int .i64 (1+u)::.pointer (some ⟨b,0,none⟩)::.int .i64 md::.int .i64 (1+md)::.pointer (some ⟨b,0,none⟩)::.int .i64 fl::.slice (some ⟨B,0,none⟩) 0 0::.agg #[.int .i64 3,.int .i64 (1+u),.int .i64 (1+md),.int .i64 fl,.string nm,.slice (some ⟨B,0,none⟩) 0 0]::.pointer (some ⟨b,0,none⟩)::.int .i64 1::.bool false::.bool false::undef::undef::undef::undef::.bool true::.bool true::undef::.pointer (some ⟨b,0,none⟩)::.string n2::.slice (some ⟨B2,0,none⟩) 0 0::.agg #[.int .i64 2,.int .i64 0,.int .i64 0,.int .i64 0,.string n2,.slice (some ⟨B2,0,none⟩) 0 0]::.pointer (some ⟨b,0,none⟩)::.int .i64 nn::.int .i64 (K:Int)::.int .i64 (k:Int)::.bool true::u38::u39::.pointer (some ⟨b,0,none⟩)::.agg #[.string i,.string t,.string l,.string au,.int .i64 d,.string cc]::f 0::f 1::f 2::f 3::f 4::f 5::f 6::f 7::f 8::f 9::f 10::f 11::f 12::f 13::f 14::f 15::undef::undef::undef::undef::undef::undef::undef::[]),defers:=[]}) (J ⟨w,b,a,len,cap,at10,sd10,M,w9.heap.size,n2,.slice av nv cv,ps,i,t,l,au,d,cc,TX⟩) (λj=>match j with|0=>u42|1=>u43|2=>u44|3=>u45|4=>u46|5=>u47|6=>u48|7=>u49|8=>u50|9=>u51|10=>u52|11=>u53|12=>u54|13=>u55|14=>u56|_=>u57) rfl hJ0 (rs.zaK (by kernel_rfl)) ?_ ?_
    ·intro i_ o ho D f x hJ hall hni hcl
     match i_,ho with
     | 0,ho =>
      cases ho;have HN:Hid (J ⟨w,b,a,len,cap,at10,sd10,M,w9.heap.size,n2,.slice av nv cv,ps,i,t,l,au,d,cc,TX⟩ (λj=>j=0∨D j) (rs.upd f 0 (.pointer (some ⟨M,0+5,none⟩))) x):=hJ.pure _ HP.out (λz hz=>Option.some.inj hz) (by decide) (Below.refl _ _);clear hJ hall hcl hni;refine wpOp_step rfl (λK' hK=>?_);go_simp;exact hK _ _ ⟨.pointer (some ⟨M,0+5,none⟩),by simp[rs.upd],HN.out⟩
     | 1,ho =>
      cases ho;have d0:D 0:=hall {on:=0,ground:=.data} (by simp) rfl;have h0:f 0=.pointer (some ⟨M,0+5,none⟩):=hJ.1 0 d0 _ rfl;have n16:¬D 16:=λh=>hni (hcl 14 _ (hcl 16 _ (h) rfl {on:=14,ground:=.data} (by simp) rfl) rfl {on:=1,ground:=.data} (by simp) rfl)
      have c5:x.cell? ⟨M,0+5,none⟩=some (.slice av nv cv):=(hJ.2.2.2.2.2.1 n16).cell 5 _ rfl;have HN:Hid (J ⟨w,b,a,len,cap,at10,sd10,M,w9.heap.size,n2,.slice av nv cv,ps,i,t,l,au,d,cc,TX⟩ (λj=>j=1∨D j) (rs.upd f 1 (.slice av nv cv)) x):=hJ.pure _ HP.out (λz hz=>Option.some.inj hz) (by decide) (Below.refl _ _);clear hJ hall hcl hni;refine wpOp_step rfl (λK' hK=>?_);simp only[h0]
      go_wp2_with fail
      exact⟨.slice av nv cv,by simp[rs.upd,h0],HN.out⟩
     | 2,ho =>
      cases ho;have HN:Hid (J ⟨w,b,a,len,cap,at10,sd10,M,w9.heap.size,n2,.slice av nv cv,ps,i,t,l,au,d,cc,TX⟩ (λj=>j=2∨D j) (rs.upd f 2 (.pointer (some ⟨w9.heap.size,0,none⟩))) x):=hJ.pure _ HP.out (λz hz=>Option.some.inj hz) (by decide) (Below.refl _ _);clear hJ hall hcl hni;refine wpOp_step rfl (λK' hK=>?_);go_simp;exact hK _ _ ⟨.pointer (some ⟨w9.heap.size,0,none⟩),by simp[rs.upd],HN.out⟩
     | 3,ho =>
      cases ho;have d2:D 2:=hall {on:=2,ground:=.data} (by simp) rfl;have h2:f 2=.pointer (some ⟨w9.heap.size,0,none⟩):=hJ.1 2 d2 _ rfl;have c5:x.cell? ⟨w9.heap.size,0,none⟩=some (.string i):=hJ.2.1.en.cell 0 _ rfl;have HN:Hid (J ⟨w,b,a,len,cap,at10,sd10,M,w9.heap.size,n2,.slice av nv cv,ps,i,t,l,au,d,cc,TX⟩ (λj=>j=3∨D j) (rs.upd f 3 (.string i)) x):=hJ.pure _ HP.out (λz hz=>Option.some.inj hz) (by decide) (Below.refl _ _);clear hJ hall hcl hni;refine wpOp_step rfl (λK' hK=>?_);simp only[h2]
      go_wp2_with fail
      exact⟨.string i,by simp[rs.upd,h2],HN.out⟩
     | 4,ho =>
      cases ho;have HN:Hid (J ⟨w,b,a,len,cap,at10,sd10,M,w9.heap.size,n2,.slice av nv cv,ps,i,t,l,au,d,cc,TX⟩ (λj=>j=4∨D j) (rs.upd f 4 (.pointer (some ⟨b,0,none⟩))) x):=hJ.pure _ HP.out (λz hz=>Option.some.inj hz) (by decide) (Below.refl _ _);clear hJ hall hcl hni;refine wpOp_step rfl (λK' hK=>?_);go_simp;exact hK _ _ ⟨.pointer (some ⟨b,0,none⟩),by simp[rs.upd],HN.out⟩
     | 5,ho =>
      cases ho;have d4:D 4:=hall {on:=4,ground:=.data} (by simp) rfl;have h4:f 4=.pointer (some ⟨b,0,none⟩):=hJ.1 4 d4 _ rfl;have n6:¬D 6:=λh=>hni (hcl 6 _ (h) rfl {on:=5,ground:=.data} (by simp) rfl)
      have n7:¬D 7:=λh=>hni (hcl 6 _ (hcl 7 _ (h) rfl {on:=6,ground:=.data} (by simp) rfl) rfl {on:=5,ground:=.data} (by simp) rfl)
      have n12:¬D 12:=λh=>hni (hcl 6 _ (hcl 7 _ (hcl 12 _ (h) rfl {on:=7,ground:=.data} (by simp) rfl) rfl {on:=6,ground:=.data} (by simp) rfl) rfl {on:=5,ground:=.data} (by simp) rfl)
      have n13:¬D 13:=λh=>hni (hcl 6 _ (hcl 7 _ (hcl 12 _ (hcl 13 _ (h) rfl {on:=12,ground:=.data} (by simp) rfl) rfl {on:=7,ground:=.data} (by simp) rfl) rfl {on:=6,ground:=.data} (by simp) rfl) rfl {on:=5,ground:=.data} (by simp) rfl)
      have n14:¬D 14:=λh=>hni (hcl 6 _ (hcl 7 _ (hcl 12 _ (hcl 13 _ (hcl 14 _ (h) rfl {on:=13,ground:=.data} (by simp) rfl) rfl {on:=12,ground:=.data} (by simp) rfl) rfl {on:=7,ground:=.data} (by simp) rfl) rfl {on:=6,ground:=.data} (by simp) rfl) rfl {on:=5,ground:=.data} (by simp) rfl)
      have n16:¬D 16:=λh=>hni (hcl 6 _ (hcl 7 _ (hcl 12 _ (hcl 13 _ (hcl 14 _ (hcl 16 _ (h) rfl {on:=14,ground:=.data} (by simp) rfl) rfl {on:=13,ground:=.data} (by simp) rfl) rfl {on:=12,ground:=.data} (by simp) rfl) rfl {on:=7,ground:=.data} (by simp) rfl) rfl {on:=6,ground:=.data} (by simp) rfl) rfl {on:=5,ground:=.data} (by simp) rfl)
      have HC:Hid (Calls Tryz.prog 27 #[.pointer (some ⟨b,0,none⟩),.int .i64 3] x λe w'=>∃n:Nat,e=.returned (.int .i64 (n:Int))∧J ⟨w,b,a,len,cap,at10,sd10,M,w9.heap.size,n2,.slice av nv cv,ps,i,t,l,au,d,cc,TX⟩ (λj=>j=5∨D j) (rs.upd f 5 (.int .i64 (n:Int))) w'):=by
       refine(next_any x b a len cap at10 sd10 3 (hJ.2.2.1 hni) hJ.2.1.cd HT.out.1 HT.out.2.1 HT.out.2.2.1 HT.out.2.2.2 (by omega) (by omega)).mono ?_;rintro e w' ⟨r,a2,s2,rfl,r0,r1,a0,a1,d0,d1,hs,hg⟩;obtain⟨n,rfl⟩:∃n:Nat,r=(n:Int):=⟨r.toNat,by omega⟩
       exact⟨n,rfl,hJ.next n HP.out rfl hni n6 n7 n12 n13 n14 n16 (by omega) hg ⟨a2,s2,a0,a1,d0,d1,hs⟩⟩
      clear hJ hall hcl hni n6 n7 n12 n13 n14 n16;refine wpOp_step rfl (λK' hK=>?_);simp only[h4]
      go_wp2_with (go_at_call 27;refine HC.out.mono ?_;rintro e w' ⟨n,rfl,hf'⟩)
      exact⟨.int .i64 (n:Int),by simp[rs.upd,h4],hf'⟩
     | 6,ho =>
      cases ho;have d5:D 5:=hall {on:=5,ground:=.data} (by simp) rfl;obtain⟨_,n,ln,e5,e6,e7,e12,e13,e14⟩:=hJ.2.2.2.1 d5;have HN:Hid (∀w',Below x.heap.size x w'→J ⟨w,b,a,len,cap,at10,sd10,M,w9.heap.size,n2,.slice av nv cv,ps,i,t,l,au,d,cc,TX⟩ (λj=>j=6∨D j) (rs.upd f 6 (.string ⟨(Lib.decDigits n).toArray⟩)) w'):=λw' hb=>hJ.told (λn=>.string ⟨(Lib.decDigits n).toArray⟩) HP.out (.inl rfl) d5 hni hb rfl n e5 (λ_=>rfl) (λe=>absurd e (by decide)) (λe=>absurd e (by decide))
      have HC:Hid (Calls Tryz.prog 56 #[.int .i64 (n:Int)] x λe w'=>e=.returned (.string ⟨(Lib.decDigits n).toArray⟩)∧Below x.heap.size x w'):=dx.zdg 0 n (by omega) (by omega) x;clear hJ hall hcl hni e6 e7 e12 e13 e14;refine wpOp_step rfl (λK' hK=>?_);simp only[e5]
      go_wp2_with (go_at_call 56;refine HC.out.mono ?_;rintro e w' ⟨rfl,hb'⟩)
      exact⟨.string ⟨(Lib.decDigits n).toArray⟩,by simp[rs.upd,e5],HN.out _ hb'⟩
     | 7,ho =>
      cases ho;have d3:D 3:=hall {on:=3,ground:=.data} (by simp) rfl;have h3:f 3=.string i:=hJ.1 3 d3 _ rfl;have d6:D 6:=hall {on:=6,ground:=.data} (by simp) rfl;have d5:D 5:=hcl 6 _ d6 rfl {on:=5,ground:=.data} (by simp) rfl;obtain⟨_,n,ln,e5,e6,e7,e12,e13,e14⟩:=hJ.2.2.2.1 d5;have h6:=e6 d6;have hsz:¬9223372036854775807<i.size+(Lib.decDigits n).length:=by
       have q1:=(rn.idL_few i HD.out.1).2;have q2:=dx.zce 0 n (by omega);omega
      have HN:Hid (J ⟨w,b,a,len,cap,at10,sd10,M,w9.heap.size,n2,.slice av nv cv,ps,i,t,l,au,d,cc,TX⟩ (λj=>j=7∨D j) (rs.upd f 7 (.string (key i n))) x):=hJ.told (λn=>.string (key i n)) HP.out (.inr (.inl rfl)) d5 hni (Below.refl _ _) rfl n e5 (λe=>absurd e (by decide)) (λ_=>rfl) (λe=>absurd e (by decide));clear hJ hall hcl hni e5 e6 e7 e12 e13 e14;refine wpOp_step rfl (λK' hK=>?_);simp only[h3,h6];go_simp;exact hK _ _ ⟨.string (key i n),by simp[rs.upd,h3,h6,key],HN.out⟩
     | 8,ho =>
      cases ho;have c0:x.cell? ⟨w9.heap.size,0,none⟩=_:=hJ.2.1.en.cell 0 _ rfl;have c1:x.cell? ⟨w9.heap.size,0+1,none⟩=_:=hJ.2.1.en.cell 1 _ rfl;have c2:x.cell? ⟨w9.heap.size,0+2,none⟩=_:=hJ.2.1.en.cell 2 _ rfl;have c3:x.cell? ⟨w9.heap.size,0+3,none⟩=_:=hJ.2.1.en.cell 3 _ rfl;have c4:x.cell? ⟨w9.heap.size,0+4,none⟩=_:=hJ.2.1.en.cell 4 _ rfl;have c5:x.cell? ⟨w9.heap.size,0+5,none⟩=_:=hJ.2.1.en.cell 5 _ rfl;have HN:Hid (J ⟨w,b,a,len,cap,at10,sd10,M,w9.heap.size,n2,.slice av nv cv,ps,i,t,l,au,d,cc,TX⟩ (λj=>j=8∨D j) (rs.upd f 8 (.agg #[.string i,.string t,.string l,.string au,.int .i64 d,.string cc])) x):=hJ.pure _ HP.out (λz hz=>Option.some.inj hz) (by decide) (Below.refl _ _);clear hJ hall hcl hni;refine wpOp_step rfl (λK' hK=>?_)
      go_wp2_with fail
      exact⟨.agg #[.string i,.string t,.string l,.string au,.int .i64 d,.string cc],by simp[rs.upd],HN.out⟩
     | 9,ho =>
      cases ho;have HN:Hid (J ⟨w,b,a,len,cap,at10,sd10,M,w9.heap.size,n2,.slice av nv cv,ps,i,t,l,au,d,cc,TX⟩ (λj=>j=9∨D j) (rs.upd f 9 (.pointer (some ⟨M,0+4,none⟩))) x):=hJ.pure _ HP.out (λz hz=>Option.some.inj hz) (by decide) (Below.refl _ _);clear hJ hall hcl hni;refine wpOp_step rfl (λK' hK=>?_);go_simp;exact hK _ _ ⟨.pointer (some ⟨M,0+4,none⟩),by simp[rs.upd],HN.out⟩
     | 10,ho =>
      cases ho;have d9:D 9:=hall {on:=9,ground:=.data} (by simp) rfl;have h9:f 9=.pointer (some ⟨M,0+4,none⟩):=hJ.1 9 d9 _ rfl;have c5:x.cell? ⟨M,0+4,none⟩=some (.string n2):=by
       by_cases d16:D 16
       ·exact(hJ.2.2.2.2.2.2 d16).cell 4 _ rfl
       ·exact(hJ.2.2.2.2.2.1 d16).cell 4 _ rfl
      have HN:Hid (J ⟨w,b,a,len,cap,at10,sd10,M,w9.heap.size,n2,.slice av nv cv,ps,i,t,l,au,d,cc,TX⟩ (λj=>j=10∨D j) (rs.upd f 10 (.string n2)) x):=hJ.pure _ HP.out (λz hz=>Option.some.inj hz) (by decide) (Below.refl _ _);clear hJ hall hcl hni;refine wpOp_step rfl (λK' hK=>?_);simp only[h9]
      go_wp2_with fail
      exact⟨.string n2,by simp[rs.upd,h9],HN.out⟩
     | 11,ho =>
      cases ho;have d8:D 8:=hall {on:=8,ground:=.data} (by simp) rfl;have h8:f 8=.agg #[.string i,.string t,.string l,.string au,.int .i64 d,.string cc]:=hJ.1 8 d8 _ rfl;have d10:D 10:=hall {on:=10,ground:=.data} (by simp) rfl;have h10:f 10=.string n2:=hJ.1 10 d10 _ rfl;have HN:Hid (∀w',Below x.heap.size x w'→J ⟨w,b,a,len,cap,at10,sd10,M,w9.heap.size,n2,.slice av nv cv,ps,i,t,l,au,d,cc,TX⟩ (λj=>j=11∨D j) (rs.upd f 11 (.string TX)) w'):=λw' hb=>hJ.pure _ HP.out (λz hz=>Option.some.inj hz) (by decide) hb
      have HC:Hid (Calls Tryz.prog 57 #[.agg #[.string i,.string t,.string l,.string au,.int .i64 d,.string cc],.string n2] x λe w'=>e=.returned (.string TX)∧Below x.heap.size x w'):=by rw[HTX.out];exact rn.render_any i t l au cc n2 d x (en.drawn_ok HD.out.1 HD.out.2.1 HD.out.2.2.1 HD.out.2.2.2.1 HD.out.2.2.2.2.1 HD.out.2.2.2.2.2.1 HD.out.2.2.2.2.2.2) (zdc _ (zcv _ HN2.out))
      clear hJ hall hcl hni;refine wpOp_step rfl (λK' hK=>?_);simp only[h8,h10]
      go_wp2_with (go_at_call 57;refine HC.out.mono ?_;rintro e w' ⟨rfl,hb'⟩)
      exact⟨.string TX,by simp[rs.upd,h8,h10],HN.out _ hb'⟩
     | 12,ho =>
      cases ho;have d7:D 7:=hall {on:=7,ground:=.data} (by simp) rfl;have d11:D 11:=hall {on:=11,ground:=.data} (by simp) rfl;have h11:f 11=.string TX:=hJ.1 11 d11 _ rfl;have d5:D 5:=hcl 6 _ (hcl 7 _ d7 rfl {on:=6,ground:=.data} (by simp) rfl) rfl {on:=5,ground:=.data} (by simp) rfl;obtain⟨_,n,ln,e5,e6,e7,e12,e13,e14⟩:=hJ.2.2.2.1 d5;have h7:=e7 d7;have HN:Hid (J ⟨w,b,a,len,cap,at10,sd10,M,w9.heap.size,n2,.slice av nv cv,ps,i,t,l,au,d,cc,TX⟩ (λj=>j=12∨D j) (rs.upd f 12 (.agg #[.string (key i n),.string TX])) x):=hJ.told (λn=>.agg #[.string (key i n),.string TX]) HP.out (.inr (.inr rfl)) d5 hni (Below.refl _ _) rfl n e5 (λe=>absurd e (by decide)) (λe=>absurd e (by decide)) (λ_=>rfl);clear hJ hall hcl hni e5 e6 e7 e12 e13 e14;refine wpOp_step rfl (λK' hK=>?_);simp only[h7,h11];go_simp;exact hK _ _ ⟨.agg #[.string (key i n),.string TX],by simp[rs.upd,h7,h11],HN.out⟩
     | 13,ho =>
      cases ho;have d12:D 12:=hall {on:=12,ground:=.data} (by simp) rfl;have d5:D 5:=hcl 6 _ (hcl 7 _ (hcl 12 _ d12 rfl {on:=7,ground:=.data} (by simp) rfl) rfl {on:=6,ground:=.data} (by simp) rfl) rfl {on:=5,ground:=.data} (by simp) rfl;obtain⟨_,n,ln,e5,e6,e7,e12,e13,e14⟩:=hJ.2.2.2.1 d5;have h12:=e12 d12;have n14:¬D 14:=λh=>hni (hcl 14 _ (h) rfl {on:=13,ground:=.data} (by simp) rfl)
      have n16:¬D 16:=λh=>hni (hcl 14 _ (hcl 16 _ (h) rfl {on:=14,ground:=.data} (by simp) rfl) rfl {on:=13,ground:=.data} (by simp) rfl)
      have HN:Hid (J ⟨w,b,a,len,cap,at10,sd10,M,w9.heap.size,n2,.slice av nv cv,ps,i,t,l,au,d,cc,TX⟩ (λj=>j=13∨D j) (rs.upd f 13 (.slice (some ⟨x.heap.size,0,none⟩) 1 1)) (x.alloc (.cells #[.string (key i n),.string TX] 103))):=by
       have hnew:=(MapKept.heap_alloc x (.cells #[.string (key i n),.string TX] 103)).1;refine hJ.build x.heap.size HP.out rfl d5 n14 n16 ((Below.refl _ _).alloc (Nat.le_refl _) _) n e5 ?_ ?_
       ·rw[cell_of_row _ _ _ _ _ _ hnew];rfl
       ·rw[cell_of_row _ _ _ _ _ _ hnew];rfl
      clear hJ hall hcl hni e5 e6 e7 e12 e13 e14 n14 n16;refine wpOp_step rfl (λK' hK=>?_);simp only[h12]
      go_wp2_with fail
      exact⟨.slice (some ⟨x.heap.size,0,none⟩) 1 1,by simp[rs.upd,h12],HN.out⟩
     | 14,ho =>
      cases ho;have d1:D 1:=hall {on:=1,ground:=.data} (by simp) rfl;have h1:f 1=.slice av nv cv:=hJ.1 1 d1 _ rfl;have d13:D 13:=hall {on:=13,ground:=.data} (by simp) rfl;have d5:D 5:=hcl 6 _ (hcl 7 _ (hcl 12 _ (hcl 13 _ d13 rfl {on:=12,ground:=.data} (by simp) rfl) rfl {on:=7,ground:=.data} (by simp) rfl) rfl {on:=6,ground:=.data} (by simp) rfl) rfl {on:=5,ground:=.data} (by simp) rfl;obtain⟨_,n,ln,e5,e6,e7,e12,e13,e14⟩:=hJ.2.2.2.1 d5;have n16:¬D 16:=λh=>hni (hcl 16 _ (h) rfl {on:=14,ground:=.data} (by simp) rfl)
      obtain⟨g,h13,hc0,hc1⟩:=e13 d13 hni;have fr0:=hJ.2.2.2.2.1 hni;have hbs:M+1≤x.heap.size:=B6.lt (hJ.2.2.2.2.2.1 n16);have HN:Hid (∀v' w',w'.ownsRow (M+1) 103 2 v' (ps.length+1) (zaw ps++[.string (key i n),.string TX])→x.grownBy w' (Value.slice av nv cv).ownBlock→J ⟨w,b,a,len,cap,at10,sd10,M,w9.heap.size,n2,.slice av nv cv,ps,i,t,l,au,d,cc,TX⟩ (λj=>j=14∨D j) (rs.upd f 14 v') w'):=λv' w' ho hg=>hJ.app v' HP.out (λ_=>HNE.out) rfl d5 hni n16 n e5 ho hg
      clear hJ hall hcl hni e5 e6 e7 e12 e13 e14;refine wpOp_step rfl (λK' hK=>?_);rw[if_pos (by rfl)];refine wp_append_own x (.tmp 43) (.tmp 55) 33 rfl (M+1) 103 i0 _ 2 32 Tryz.underlying33 hi hz0 hz1 hz2 rfl (by decide) (.slice av nv cv) ps.length (zaw ps) (show f 1=_ from h1) fr0 ⟨g,0,none⟩ 1 1 [.string (key i n),.string TX] (show f 13=_ from h13) rfl ?_ ?_ (by have:=Hk.out.2.2;unfold maxLen;omega) (by have:=Hk.out.2.2;omega) hbs ?_
      ·intro j u hu
       match j,hu with
       | 0,hu=>cases hu;exact hc0
       | 1,hu=>cases hu;exact hc1
       | j+2,hu=>simp at hu
      ·intro u hu;simp at hu
       rcases hu with rfl|rfl<;>rfl
      ·intro v' w' hown hg hnil;exact hK _ _ ⟨v',rfl,HN.out v' w' hown hg⟩
     | 15,ho =>
      cases ho;have HN:Hid (J ⟨w,b,a,len,cap,at10,sd10,M,w9.heap.size,n2,.slice av nv cv,ps,i,t,l,au,d,cc,TX⟩ (λj=>j=15∨D j) (rs.upd f 15 (.pointer (some ⟨M,0+5,none⟩))) x):=hJ.pure _ HP.out (λz hz=>Option.some.inj hz) (by decide) (Below.refl _ _);clear hJ hall hcl hni;refine wpOp_step rfl (λK' hK=>?_);go_simp;exact hK _ _ ⟨.pointer (some ⟨M,0+5,none⟩),by simp[rs.upd],HN.out⟩
     | 16,ho =>
      cases ho;have d15:D 15:=hall {on:=15,ground:=.data} (by simp) rfl;have h15:f 15=.pointer (some ⟨M,0+5,none⟩):=hJ.1 15 d15 _ rfl;have d14:D 14:=hall {on:=14,ground:=.data} (by simp) rfl;have d5:D 5:=hcl 6 _ (hcl 7 _ (hcl 12 _ (hcl 13 _ (hcl 14 _ d14 rfl {on:=13,ground:=.data} (by simp) rfl) rfl {on:=12,ground:=.data} (by simp) rfl) rfl {on:=7,ground:=.data} (by simp) rfl) rfl {on:=6,ground:=.data} (by simp) rfl) rfl {on:=5,ground:=.data} (by simp) rfl;obtain⟨_,n,ln,e5,e6,e7,e12,e13,e14⟩:=hJ.2.2.2.1 d5;have fr0:=e14 d14;obtain⟨a',n',c',h14⟩:∃a n c,f 14=.slice a n c:=by
       rcases fr0.2 with⟨e,_⟩|⟨g,cap,cur,e,_⟩
       ·exact⟨_,_,_,e⟩
       ·exact⟨_,_,_,e⟩
      have hB:=hJ.2.2.2.2.2.1 hni;have m5:x.cell? ⟨M,0+5,none⟩=_:=hB.cell 5 _ rfl;have m5':x.cell? ⟨M,5,none⟩=_:=hB.cell 5 _ rfl;have fM:=hB.f;have HN:Hid (J ⟨w,b,a,len,cap,at10,sd10,M,w9.heap.size,n2,.slice av nv cv,ps,i,t,l,au,d,cc,TX⟩ (λj=>j=16∨D j) (rs.upd f 16 undef) (x.setCell ⟨M,5,none⟩ (.slice a' n' c'))):=by rw[←h14];exact hJ.store undef HP.out rfl d5 d14 hni
      clear hJ hall hcl hni e5 e6 e7 e12 e13 e14 fr0 hB;refine wpOp_step rfl (λK' hK=>?_);simp only[h15,h14]
      go_wp2_with fail
      exact⟨undef,by simp[rs.upd,h15,h14],HN.out⟩
     | k+17,ho=>simp at ho
    ·intro D f x hD hJ;obtain⟨_,hf,_,h5,_,_,h16⟩:=hJ;obtain⟨hl,n,n2_,_,_,_,_,_,e14⟩:=h5 (hD 5 (by decide));have HE1:Hid (Later ⟨w,b,a,len,cap,at10,sd10,M,w9.heap.size,n2,.slice av nv cv,ps,i,t,l,au,d,cc,TX⟩ x∧Fx ⟨w,b,a,len,cap,at10,sd10,M,w9.heap.size,n2,.slice av nv cv,ps,i,t,l,au,d,cc,TX⟩ x∧MV6 x M 2 0 0 0 n2 (f 14)∧zag x (M+1) (f 14) (ps++[(key i n,TX)])∧n≤2):=⟨hl,hf,h16 (hD 16 (by decide)),e14 (hD 14 (by decide)),n2_⟩
     clear hl hf h5 h16 e14 hJ0 n2_;go_wp2
     go_roundw
     case rel=>exact HREL.out _ x n HE1.out
     case measure=>simp[intOf];have:=Hk.out;omega
   ·obtain rfl:k=0:=by omega
    have hkk:mu.zbb 2 0 0 0 ps.length=true:=decide_eq_true (.inr (.inl ⟨rfl,rfl,rfl,rfl,by omega⟩));have hk0:¬((0:Nat):Int) > 0:=by omega
    have A5:=B6.put (a:=.int .i64 2) (b:=.int .i64 0) (c:=.int .i64 0) (d:=.int .i64 0) (e:=.string n2) (f:=.slice av nv cv) HSW.out.z;have HW:Hid (DrawnM w b a len cap at_ (.returned (.agg #[.int .i64 2,.int .i64 0,.int .i64 0,.int .i64 0,.string n2,.slice av nv cv])) (put6 wr w.heap.size (.int .i64 2) (.int .i64 0) (.int .i64 0) (.int .i64 0) (.string n2) (.slice av nv cv))):=by
     have hg:=zbk wr w.heap.size (.int .i64 2) (.int .i64 0) (.int .i64 0) (.int .i64 0) (.string n2) (.slice av nv cv);have q:=HSW.out;refine⟨⟨2,0,0,0,n2,ps⟩,_,_,_,rfl,mok_of HN2.out (by show ps.length≤3;omega) HPS.out hkk,?_,zaM (zaF HRW.out hg (λk e=>by have:=Option.some.inj e;omega)) (by omega),q.lo,Int.le_trans q.hi (by omega),q.s0,q.s1,src_keep q.s hg (λe=>by have:=Option.some.inj e;omega),code_keep' q.c hg (λk e=>by have:=Option.some.inj e;omega),zbq q.g hg (λk e=>by have:=Option.some.inj e;omega)⟩;show ps.length≤3;omega
    have a0:wr.cell? ⟨M,0,none⟩=_:=HMW.out.cell 0 _ rfl;have a1:wr.cell? ⟨M,0+1,none⟩=_:=HMW.out.cell 1 _ rfl;have a2:wr.cell? ⟨M,0+2,none⟩=_:=HMW.out.cell 2 _ rfl;have a3:wr.cell? ⟨M,0+3,none⟩=_:=HMW.out.cell 3 _ rfl;have a4:wr.cell? ⟨M,0+4,none⟩=_:=HMW.out.cell 4 _ rfl;have a5:wr.cell? ⟨M,0+5,none⟩=_:=HMW.out.cell 5 _ rfl;have b0:wr.cell? ⟨w.heap.size,0,none⟩=_:=HSW.out.z.cell 0 _ rfl;have b1:wr.cell? ⟨w.heap.size,0+1,none⟩=_:=HSW.out.z.cell 1 _ rfl;have b2:wr.cell? ⟨w.heap.size,0+2,none⟩=_:=HSW.out.z.cell 2 _ rfl;have b3:wr.cell? ⟨w.heap.size,0+3,none⟩=_:=HSW.out.z.cell 3 _ rfl;have b4:wr.cell? ⟨w.heap.size,0+4,none⟩=_:=HSW.out.z.cell 4 _ rfl;have b5:wr.cell? ⟨w.heap.size,0+5,none⟩=_:=HSW.out.z.cell 5 _ rfl;have fz:=HSW.out.z.f;clear HSW HMW HRW HPS;go_wp2;change bodyPost _ _ _ _ _ (put6 wr w.heap.size (.int .i64 2) (.int .i64 0) (.int .i64 0) (.int .i64 0) (.string n2) (.slice av nv cv));generalize put6 _ _ _ _ _ _ _ _=W5 at A5 HW ⊢;have d0:W5.cell? ⟨w.heap.size,0,none⟩=_:=A5.cell 0 _ rfl;have d1:W5.cell? ⟨w.heap.size,0+1,none⟩=_:=A5.cell 1 _ rfl;have d2:W5.cell? ⟨w.heap.size,0+2,none⟩=_:=A5.cell 2 _ rfl;have d3:W5.cell? ⟨w.heap.size,0+3,none⟩=_:=A5.cell 3 _ rfl;have d4:W5.cell? ⟨w.heap.size,0+4,none⟩=_:=A5.cell 4 _ rfl;have d5:W5.cell? ⟨w.heap.size,0+5,none⟩=_:=A5.cell 5 _ rfl;exact bodyPost_ret (v:=.agg #[.int .i64 2,.int .i64 0,.int .i64 0,.int .i64 0,.string n2,.slice av nv cv]) (by simp[results,Tryz.results29,go_sem,d0,d1,d2,d3,d4,d5]) rfl HW.out
 ·clear c0 c1 R6
  go_wp2_with fail
  refine(S6.out.name hbw h0 (by omega)).mono ?_;rintro e w7 ⟨n2,at7,sd7,rfl,hn2,hs7,hg7⟩;have HN2:Hid (n2∈za8):=hn2;have gI:Below w7.heap.size w7 (w7.alloc (.cells #[] 103)):=(Below.refl _ _).alloc (Nat.le_refl _) _;have S7:Hid (St w b a len cap at_ (0+3+3+3+3+3+3) (w7.alloc (.cells #[] 103)) at7 sd7):=hs7.new hbw gI;have M7:MV6 w7 M 3 (1+u) (1+md) fl nm (.slice (some ⟨B,0,none⟩) 0 0):=B6.grow M6.out hg7 (λe=>by have:=Option.some.inj e;omega);have HM7:Hid (M<w7.heap.size):=B6.lt M7;have MX:Hid (MV6 (w7.alloc (.cells #[] 103)) M 3 (1+u) (1+md) fl nm (.slice (some ⟨B,0,none⟩) 0 0)):=B6.grow M7 (grown_of gI) (by simp);have a0:(w7.alloc (.cells #[] 103)).cell? ⟨M,0,none⟩=_:=MX.out.cell 0 _ rfl;have a1:(w7.alloc (.cells #[] 103)).cell? ⟨M,0+1,none⟩=_:=MX.out.cell 1 _ rfl;have a2:(w7.alloc (.cells #[] 103)).cell? ⟨M,0+2,none⟩=_:=MX.out.cell 2 _ rfl;have a3:(w7.alloc (.cells #[] 103)).cell? ⟨M,0+3,none⟩=_:=MX.out.cell 3 _ rfl;have a4:(w7.alloc (.cells #[] 103)).cell? ⟨M,0+4,none⟩=_:=MX.out.cell 4 _ rfl;have a5:(w7.alloc (.cells #[] 103)).cell? ⟨M,0+5,none⟩=_:=MX.out.cell 5 _ rfl;have fM:=MX.out.f;clear hn2 hs7 hg7 S6 M6 gI M7
  go_upto_region 8 with fail
  generalize hX:World.setCell _ _ _=X;have hM7:=HM7.out;clear HM7;have eX:X=put6 (w7.alloc (.cells #[] 103)) M (.int .i64 2) (.int .i64 0) (.int .i64 0) (.int .i64 0) (.string n2) (.slice (some ⟨w7.heap.size,0,none⟩) 0 0):=hX.symm;have hp:=zbk (w7.alloc (.cells #[] 103)) M (.int .i64 2) (.int .i64 0) (.int .i64 0) (.int .i64 0) (.string n2) (.slice (some ⟨w7.heap.size,0,none⟩) 0 0);have M8:Hid (MV6 X M 2 0 0 0 n2 (.slice (some ⟨w7.heap.size,0,none⟩) 0 0)):=by rw[eX];exact B6.put MX.out
  have S8:Hid (St w b a len cap at_ (0+3+3+3+3+3+3) X at7 sd7):=by rw[eX];exact S7.out.put hbw hzM hp
  have R8:Hid (zag X w7.heap.size (.slice (some ⟨w7.heap.size,0,none⟩) 0 0) []):=by rw[eX];exact zaF (zcO (Nat.le_refl _)) hp (λk e=>by have:=Option.some.inj e;omega)
  clear hX eX hp a0 a1 a2 a3 a4 a5 fM MX S7;generalize w7.heap.size=B2 at M8 R8 hM7 ⊢
  go_wp2_with fail
  refine(S8.out.next hbw h0 (by omega) 3 (by omega) (by omega)).mono ?_;rintro e w8 ⟨nn,at8,sd8,rfl,nn0,nn1,hs8,hg8⟩;have S9:Hid (St w b a len cap at_ (0+3+3+3+3+3+3+3) w8 at8 sd8):=hs8;have M9:Hid (MV6 w8 M 2 0 0 0 n2 (.slice (some ⟨B2,0,none⟩) 0 0)):=B6.grow M8.out hg8 (λe=>by have:=Option.some.inj e;omega);have R9:Hid (zag w8 (M+1) (.slice (some ⟨B2,0,none⟩) 0 0) []):=zaM (zaF R8.out hg8 (λk e=>by have:=Option.some.inj e;omega)) (by omega);clear hs8 hg8 S8 M8 R8;obtain⟨K,hK⟩:∃K:Nat,1+nn=(K:Int):=⟨(1+nn).toNat,by omega⟩
  have hK1:1≤K∧K≤3:=by omega
  skip
  obtain⟨i0,hi,hz0,hz1,hz2⟩:=info_parts infoAt;go_wp2
  go_loopw [4] (λi wr=>∃(k:Nat) (v:Value) (ps:List Pr) (at' sd':Int),i=.int .i64 k∧ps.length+k=K∧(∀j,j<ps.length→ItD (ps.getD j no))∧St w b a len cap at_ (24+30*(ps.length:Int)) wr at' sd'∧MV6 wr M 2 0 0 0 n2 v∧zag wr (M+1) v ps) (λi _=>(intOf i).toNat)
  case atStart=>exact⟨K,_,[],at8,sd8,rfl,by simp,λj hj=>absurd hj (Nat.not_lt_zero _),S9.out.mono (by simp),M9.out,R9.out⟩
  case round =>
   clear S9 M9 R9 nn0 nn1 hK;obtain⟨k,v,ps,at9,sd9,rfl,hkK,hps,hsw,hmw,hrw⟩:=hrel;have HPS:Hid (∀j,j<ps.length→ItD (ps.getD j no)):=hps;have HSW:Hid (St w b a len cap at_ (24+30*(ps.length:Int)) wr at9 sd9):=hsw;have HMW:Hid (MV6 wr M 2 0 0 0 n2 v):=hmw;have HRW:Hid (zag wr (M+1) v ps):=hrw;obtain⟨av,nv,cv,rfl⟩:∃a n c,v=.slice a n c:=by
    rcases hrw.2 with⟨rfl,_⟩|⟨g,cap,cur,rfl,_⟩
    ·exact⟨_,_,_,rfl⟩
    ·exact⟨_,_,_,rfl⟩
   clear hps hsw hmw hrw;by_cases hlt:0<k
   ·have hlt':(k:Int) > 0:=by omega
    have hlen:ps.length≤2:=by omega
    have Hk:Hid (ps.length+k=K∧0<k∧ps.length≤2):=⟨hkK,hlt,hlen⟩
    have hk3:(k:Int)≤3:=by omega
    clear hkK hlt hlen
    go_wp2_with fail
    refine(HSW.out.entry hbw h0 (by have:=Hk.out.2.2;omega)).mono ?_;rintro e w9 ⟨i,t,l,au,cc,d,at10,sd10,rfl,hd,hs9,hg9⟩;have HD:Hid (i∈se.idL∧t∈se.fldL∧l∈se.linkL∧au∈se.fldL∧cc∈se.conL∧0≤d∧d≤4102444799):=hd;have mw:MV6 w9 M 2 0 0 0 n2 (.slice av nv cv):=B6.grow HMW.out hg9 (λe=>by have:=Option.some.inj e;omega);have rw9:zag w9 (M+1) (.slice av nv cv) ps:=zaF HRW.out hg9 (λk e=>by have:=Option.some.inj e;omega);have hM9:M<w9.heap.size:=B6.lt mw;unfold se.EV6
    go_upto_region 12 with fail
    have hEl:w9.heap.size<(w9.alloc (.cells #[.string i,.string t,.string l,.string au,.int .i64 d,.string cc] 98)).heap.size:=by simp
    have hB9:Below w9.heap.size w9 (w9.alloc (.cells #[.string i,.string t,.string l,.string au,.int .i64 d,.string cc] 98)).drew:=((Below.refl _ _).alloc (Nat.le_refl _) _).drew;obtain⟨TX,hTX⟩:∃TX,TX=rn.rend ⟨i,t,l,au,d,cc⟩ n2:=⟨_,rfl⟩
    have HTX:Hid (TX=rn.rend ⟨i,t,l,au,d,cc⟩ n2):=hTX;have s9:=hs9.new hbw hB9;have HT:Hid (0≤at10∧at10≤900000∧0≤sd10∧sd10<2147483648):=⟨by have:=hs9.lo;omega,by have:=hs9.hi;have:=Hk.out.2.2;omega,hs9.s0,hs9.s1⟩
    have HP:Hid (Pl ⟨w,b,a,len,cap,at10,sd10,M,w9.heap.size,n2,.slice av nv cv,ps,i,t,l,au,d,cc,TX⟩):=⟨hbw,hzM,hM9⟩
    have HNE:Hid ((Value.slice av nv cv).ownBlock≠some w9.heap.size):=λe=>by have:=(rw9.lt _ e).2;omega
    have hJ0:J ⟨w,b,a,len,cap,at10,sd10,M,w9.heap.size,n2,.slice av nv cv,ps,i,t,l,au,d,cc,TX⟩ (λ_=>False) (λj=>match j with|0=>u42|1=>u43|2=>u44|3=>u45|4=>u46|5=>u47|6=>u48|7=>u49|8=>u50|9=>u51|10=>u52|11=>u53|12=>u54|13=>u55|14=>u56|_=>u57) (w9.alloc (.cells #[.string i,.string t,.string l,.string au,.int .i64 d,.string cc] 98)).drew :=
     J.start ⟨s9.g,s9.z,(MapKept.heap_alloc w9 _).1,s9.c⟩ s9.s (zaF rw9 (grown_of hB9) (λk e=>by cases e)) (B6.grow mw (grown_of hB9) (by simp))
    have HREL:Hid (∀(v:Value) (x:World) (n:Nat),(Later ⟨w,b,a,len,cap,at10,sd10,M,w9.heap.size,n2,.slice av nv cv,ps,i,t,l,au,d,cc,TX⟩ x∧Fx ⟨w,b,a,len,cap,at10,sd10,M,w9.heap.size,n2,.slice av nv cv,ps,i,t,l,au,d,cc,TX⟩ x∧MV6 x M 2 0 0 0 n2 v∧zag x (M+1) v (ps++[(key i n,TX)])∧n≤2)→∃(k':Nat) (v':Value) (ps':List Pr) (at' sd':Int),Value.int .i64 ((k:Int)-1)=.int .i64 k'∧ps'.length+k'=K∧(∀j,j<ps'.length→ItD (ps'.getD j no))∧St w b a len cap at_ (24+30*(ps'.length:Int)) x at' sd'∧MV6 x M 2 0 0 0 n2 v'∧zag x (M+1) v' ps'):=by
     rintro v x n ⟨⟨a2,s2,l1,l2,l3,l4,l5⟩,hf,hm,hr,hn⟩;have q1:=hs9.lo;have q2:=hs9.hi;have hk0:=Hk.out;refine⟨k-1,v,ps++[(key i n,TX)],a2,s2,by congr 1;omega,by simp;omega,λj hj=>?_,⟨l5,hf.cd,hf.gr,hf.z,Int.le_trans q1 l1,?_,l3,l4⟩,hm,hr⟩
     ·by_cases e:j<ps.length
      ·rw[List.getD_eq_getElem?_getD,List.getElem?_append_left e,←List.getD_eq_getElem?_getD];exact HPS.out j e
      ·have e2:j=ps.length:=by simp at hj;omega
       subst e2;rw[List.getD_eq_getElem?_getD,List.getElem?_append_right (Nat.le_refl _)];simp only[Nat.sub_self,List.getElem?_cons_zero,Option.getD_some];refine⟨key_ok (rn.idL_few i HD.out.1).2 hn,?_⟩;show TX.size≤4000;rw[HTX.out];exact rn.rend_few (zdc _ (zcv _ HN2.out)) HD.out.1 HD.out.2.1 HD.out.2.2.1 HD.out.2.2.2.1 HD.out.2.2.2.2.1 HD.out.2.2.2.2.2.1 HD.out.2.2.2.2.2.2
     ·have:a2≤at10+3:=l2;simp only[List.length_append,List.length_cons,List.length_nil];omega
    clear hEl hB9 hTX s9 hs9 hg9 mw rw9 hM9 HSW HMW HRW;refine rs.zaW (by kernel_rfl) (λf=>{tmps:=List.toArray ((.pointer (some ⟨b,0,none⟩):Value)::undef::.pointer (some ⟨w.heap.size,0,none⟩)::.pointer (some ⟨M,0,none⟩)::.int .i64 (k:Int)::.pointer (some ⟨w9.heap.size,0,none⟩)::.pointer (some ⟨b,0,none⟩)::.string nm::.pointer (some ⟨b,0,none⟩)::.int .i64 u::.int .i64 (1+u)::.pointer (some ⟨b,0,none⟩)::.int .i64 md::.int .i64 (1+md)::.pointer (some ⟨b,0,none⟩)::.int .i64 fl::.slice (some ⟨B,0,none⟩) 0 0::.agg #[.int .i64 3,.int .i64 (1+u),.int .i64 (1+md),.int .i64 fl,.string nm,.slice (some ⟨B,0,none⟩) 0 0]::.pointer (some ⟨b,0,none⟩)::.int .i64 2::.bool false::.bool false::undef::undef::undef::undef::.bool true::.bool false::.bool true::.pointer (some ⟨b,0,none⟩)::.string n2::.slice (some ⟨B2,0,none⟩) 0 0::.agg #[.int .i64 2,.int .i64 0,.int .i64 0,.int .i64 0,.string n2,.slice (some ⟨B2,0,none⟩) 0 0]::.pointer (some ⟨b,0,none⟩)::.int .i64 nn::.int .i64 (K:Int)::.int .i64 (k:Int)::.bool true::u38::u39::.pointer (some ⟨b,0,none⟩)::.agg #[.string i,.string t,.string l,.string au,.int .i64 d,.string cc]::f 0::f 1::f 2::f 3::f 4::f 5::f 6::f 7::f 8::f 9::f 10::f 11::f 12::f 13::f 14::f 15::undef::undef::undef::undef::undef::undef::undef::[]),defers:=[]}) (J ⟨w,b,a,len,cap,at10,sd10,M,w9.heap.size,n2,.slice av nv cv,ps,i,t,l,au,d,cc,TX⟩) (λj=>match j with|0=>u42|1=>u43|2=>u44|3=>u45|4=>u46|5=>u47|6=>u48|7=>u49|8=>u50|9=>u51|10=>u52|11=>u53|12=>u54|13=>u55|14=>u56|_=>u57) rfl hJ0 (rs.zaK (by kernel_rfl)) ?_ ?_
    ·intro i_ o ho D f x hJ hall hni hcl
     match i_,ho with
     | 0,ho =>
      cases ho;have HN:Hid (J ⟨w,b,a,len,cap,at10,sd10,M,w9.heap.size,n2,.slice av nv cv,ps,i,t,l,au,d,cc,TX⟩ (λj=>j=0∨D j) (rs.upd f 0 (.pointer (some ⟨M,0+5,none⟩))) x):=hJ.pure _ HP.out (λz hz=>Option.some.inj hz) (by decide) (Below.refl _ _);clear hJ hall hcl hni;refine wpOp_step rfl (λK' hK=>?_);go_simp;exact hK _ _ ⟨.pointer (some ⟨M,0+5,none⟩),by simp[rs.upd],HN.out⟩
     | 1,ho =>
      cases ho;have d0:D 0:=hall {on:=0,ground:=.data} (by simp) rfl;have h0:f 0=.pointer (some ⟨M,0+5,none⟩):=hJ.1 0 d0 _ rfl;have n16:¬D 16:=λh=>hni (hcl 14 _ (hcl 16 _ (h) rfl {on:=14,ground:=.data} (by simp) rfl) rfl {on:=1,ground:=.data} (by simp) rfl)
      have c5:x.cell? ⟨M,0+5,none⟩=some (.slice av nv cv):=(hJ.2.2.2.2.2.1 n16).cell 5 _ rfl;have HN:Hid (J ⟨w,b,a,len,cap,at10,sd10,M,w9.heap.size,n2,.slice av nv cv,ps,i,t,l,au,d,cc,TX⟩ (λj=>j=1∨D j) (rs.upd f 1 (.slice av nv cv)) x):=hJ.pure _ HP.out (λz hz=>Option.some.inj hz) (by decide) (Below.refl _ _);clear hJ hall hcl hni;refine wpOp_step rfl (λK' hK=>?_);simp only[h0]
      go_wp2_with fail
      exact⟨.slice av nv cv,by simp[rs.upd,h0],HN.out⟩
     | 2,ho =>
      cases ho;have HN:Hid (J ⟨w,b,a,len,cap,at10,sd10,M,w9.heap.size,n2,.slice av nv cv,ps,i,t,l,au,d,cc,TX⟩ (λj=>j=2∨D j) (rs.upd f 2 (.pointer (some ⟨w9.heap.size,0,none⟩))) x):=hJ.pure _ HP.out (λz hz=>Option.some.inj hz) (by decide) (Below.refl _ _);clear hJ hall hcl hni;refine wpOp_step rfl (λK' hK=>?_);go_simp;exact hK _ _ ⟨.pointer (some ⟨w9.heap.size,0,none⟩),by simp[rs.upd],HN.out⟩
     | 3,ho =>
      cases ho;have d2:D 2:=hall {on:=2,ground:=.data} (by simp) rfl;have h2:f 2=.pointer (some ⟨w9.heap.size,0,none⟩):=hJ.1 2 d2 _ rfl;have c5:x.cell? ⟨w9.heap.size,0,none⟩=some (.string i):=hJ.2.1.en.cell 0 _ rfl;have HN:Hid (J ⟨w,b,a,len,cap,at10,sd10,M,w9.heap.size,n2,.slice av nv cv,ps,i,t,l,au,d,cc,TX⟩ (λj=>j=3∨D j) (rs.upd f 3 (.string i)) x):=hJ.pure _ HP.out (λz hz=>Option.some.inj hz) (by decide) (Below.refl _ _);clear hJ hall hcl hni;refine wpOp_step rfl (λK' hK=>?_);simp only[h2]
      go_wp2_with fail
      exact⟨.string i,by simp[rs.upd,h2],HN.out⟩
     | 4,ho =>
      cases ho;have HN:Hid (J ⟨w,b,a,len,cap,at10,sd10,M,w9.heap.size,n2,.slice av nv cv,ps,i,t,l,au,d,cc,TX⟩ (λj=>j=4∨D j) (rs.upd f 4 (.pointer (some ⟨b,0,none⟩))) x):=hJ.pure _ HP.out (λz hz=>Option.some.inj hz) (by decide) (Below.refl _ _);clear hJ hall hcl hni;refine wpOp_step rfl (λK' hK=>?_);go_simp;exact hK _ _ ⟨.pointer (some ⟨b,0,none⟩),by simp[rs.upd],HN.out⟩
     | 5,ho =>
      cases ho;have d4:D 4:=hall {on:=4,ground:=.data} (by simp) rfl;have h4:f 4=.pointer (some ⟨b,0,none⟩):=hJ.1 4 d4 _ rfl;have n6:¬D 6:=λh=>hni (hcl 6 _ (h) rfl {on:=5,ground:=.data} (by simp) rfl)
      have n7:¬D 7:=λh=>hni (hcl 6 _ (hcl 7 _ (h) rfl {on:=6,ground:=.data} (by simp) rfl) rfl {on:=5,ground:=.data} (by simp) rfl)
      have n12:¬D 12:=λh=>hni (hcl 6 _ (hcl 7 _ (hcl 12 _ (h) rfl {on:=7,ground:=.data} (by simp) rfl) rfl {on:=6,ground:=.data} (by simp) rfl) rfl {on:=5,ground:=.data} (by simp) rfl)
      have n13:¬D 13:=λh=>hni (hcl 6 _ (hcl 7 _ (hcl 12 _ (hcl 13 _ (h) rfl {on:=12,ground:=.data} (by simp) rfl) rfl {on:=7,ground:=.data} (by simp) rfl) rfl {on:=6,ground:=.data} (by simp) rfl) rfl {on:=5,ground:=.data} (by simp) rfl)
      have n14:¬D 14:=λh=>hni (hcl 6 _ (hcl 7 _ (hcl 12 _ (hcl 13 _ (hcl 14 _ (h) rfl {on:=13,ground:=.data} (by simp) rfl) rfl {on:=12,ground:=.data} (by simp) rfl) rfl {on:=7,ground:=.data} (by simp) rfl) rfl {on:=6,ground:=.data} (by simp) rfl) rfl {on:=5,ground:=.data} (by simp) rfl)
      have n16:¬D 16:=λh=>hni (hcl 6 _ (hcl 7 _ (hcl 12 _ (hcl 13 _ (hcl 14 _ (hcl 16 _ (h) rfl {on:=14,ground:=.data} (by simp) rfl) rfl {on:=13,ground:=.data} (by simp) rfl) rfl {on:=12,ground:=.data} (by simp) rfl) rfl {on:=7,ground:=.data} (by simp) rfl) rfl {on:=6,ground:=.data} (by simp) rfl) rfl {on:=5,ground:=.data} (by simp) rfl)
      have HC:Hid (Calls Tryz.prog 27 #[.pointer (some ⟨b,0,none⟩),.int .i64 3] x λe w'=>∃n:Nat,e=.returned (.int .i64 (n:Int))∧J ⟨w,b,a,len,cap,at10,sd10,M,w9.heap.size,n2,.slice av nv cv,ps,i,t,l,au,d,cc,TX⟩ (λj=>j=5∨D j) (rs.upd f 5 (.int .i64 (n:Int))) w'):=by
       refine(next_any x b a len cap at10 sd10 3 (hJ.2.2.1 hni) hJ.2.1.cd HT.out.1 HT.out.2.1 HT.out.2.2.1 HT.out.2.2.2 (by omega) (by omega)).mono ?_;rintro e w' ⟨r,a2,s2,rfl,r0,r1,a0,a1,d0,d1,hs,hg⟩;obtain⟨n,rfl⟩:∃n:Nat,r=(n:Int):=⟨r.toNat,by omega⟩
       exact⟨n,rfl,hJ.next n HP.out rfl hni n6 n7 n12 n13 n14 n16 (by omega) hg ⟨a2,s2,a0,a1,d0,d1,hs⟩⟩
      clear hJ hall hcl hni n6 n7 n12 n13 n14 n16;refine wpOp_step rfl (λK' hK=>?_);simp only[h4]
      go_wp2_with (go_at_call 27;refine HC.out.mono ?_;rintro e w' ⟨n,rfl,hf'⟩)
      exact⟨.int .i64 (n:Int),by simp[rs.upd,h4],hf'⟩
     | 6,ho =>
      cases ho;have d5:D 5:=hall {on:=5,ground:=.data} (by simp) rfl;obtain⟨_,n,ln,e5,e6,e7,e12,e13,e14⟩:=hJ.2.2.2.1 d5;have HN:Hid (∀w',Below x.heap.size x w'→J ⟨w,b,a,len,cap,at10,sd10,M,w9.heap.size,n2,.slice av nv cv,ps,i,t,l,au,d,cc,TX⟩ (λj=>j=6∨D j) (rs.upd f 6 (.string ⟨(Lib.decDigits n).toArray⟩)) w'):=λw' hb=>hJ.told (λn=>.string ⟨(Lib.decDigits n).toArray⟩) HP.out (.inl rfl) d5 hni hb rfl n e5 (λ_=>rfl) (λe=>absurd e (by decide)) (λe=>absurd e (by decide))
      have HC:Hid (Calls Tryz.prog 56 #[.int .i64 (n:Int)] x λe w'=>e=.returned (.string ⟨(Lib.decDigits n).toArray⟩)∧Below x.heap.size x w'):=dx.zdg 0 n (by omega) (by omega) x;clear hJ hall hcl hni e6 e7 e12 e13 e14;refine wpOp_step rfl (λK' hK=>?_);simp only[e5]
      go_wp2_with (go_at_call 56;refine HC.out.mono ?_;rintro e w' ⟨rfl,hb'⟩)
      exact⟨.string ⟨(Lib.decDigits n).toArray⟩,by simp[rs.upd,e5],HN.out _ hb'⟩
     | 7,ho =>
      cases ho;have d3:D 3:=hall {on:=3,ground:=.data} (by simp) rfl;have h3:f 3=.string i:=hJ.1 3 d3 _ rfl;have d6:D 6:=hall {on:=6,ground:=.data} (by simp) rfl;have d5:D 5:=hcl 6 _ d6 rfl {on:=5,ground:=.data} (by simp) rfl;obtain⟨_,n,ln,e5,e6,e7,e12,e13,e14⟩:=hJ.2.2.2.1 d5;have h6:=e6 d6;have hsz:¬9223372036854775807<i.size+(Lib.decDigits n).length:=by
       have q1:=(rn.idL_few i HD.out.1).2;have q2:=dx.zce 0 n (by omega);omega
      have HN:Hid (J ⟨w,b,a,len,cap,at10,sd10,M,w9.heap.size,n2,.slice av nv cv,ps,i,t,l,au,d,cc,TX⟩ (λj=>j=7∨D j) (rs.upd f 7 (.string (key i n))) x):=hJ.told (λn=>.string (key i n)) HP.out (.inr (.inl rfl)) d5 hni (Below.refl _ _) rfl n e5 (λe=>absurd e (by decide)) (λ_=>rfl) (λe=>absurd e (by decide));clear hJ hall hcl hni e5 e6 e7 e12 e13 e14;refine wpOp_step rfl (λK' hK=>?_);simp only[h3,h6];go_simp;exact hK _ _ ⟨.string (key i n),by simp[rs.upd,h3,h6,key],HN.out⟩
     | 8,ho =>
      cases ho;have c0:x.cell? ⟨w9.heap.size,0,none⟩=_:=hJ.2.1.en.cell 0 _ rfl;have c1:x.cell? ⟨w9.heap.size,0+1,none⟩=_:=hJ.2.1.en.cell 1 _ rfl;have c2:x.cell? ⟨w9.heap.size,0+2,none⟩=_:=hJ.2.1.en.cell 2 _ rfl;have c3:x.cell? ⟨w9.heap.size,0+3,none⟩=_:=hJ.2.1.en.cell 3 _ rfl;have c4:x.cell? ⟨w9.heap.size,0+4,none⟩=_:=hJ.2.1.en.cell 4 _ rfl;have c5:x.cell? ⟨w9.heap.size,0+5,none⟩=_:=hJ.2.1.en.cell 5 _ rfl;have HN:Hid (J ⟨w,b,a,len,cap,at10,sd10,M,w9.heap.size,n2,.slice av nv cv,ps,i,t,l,au,d,cc,TX⟩ (λj=>j=8∨D j) (rs.upd f 8 (.agg #[.string i,.string t,.string l,.string au,.int .i64 d,.string cc])) x):=hJ.pure _ HP.out (λz hz=>Option.some.inj hz) (by decide) (Below.refl _ _);clear hJ hall hcl hni;refine wpOp_step rfl (λK' hK=>?_)
      go_wp2_with fail
      exact⟨.agg #[.string i,.string t,.string l,.string au,.int .i64 d,.string cc],by simp[rs.upd],HN.out⟩
     | 9,ho =>
      cases ho;have HN:Hid (J ⟨w,b,a,len,cap,at10,sd10,M,w9.heap.size,n2,.slice av nv cv,ps,i,t,l,au,d,cc,TX⟩ (λj=>j=9∨D j) (rs.upd f 9 (.pointer (some ⟨M,0+4,none⟩))) x):=hJ.pure _ HP.out (λz hz=>Option.some.inj hz) (by decide) (Below.refl _ _);clear hJ hall hcl hni;refine wpOp_step rfl (λK' hK=>?_);go_simp;exact hK _ _ ⟨.pointer (some ⟨M,0+4,none⟩),by simp[rs.upd],HN.out⟩
     | 10,ho =>
      cases ho;have d9:D 9:=hall {on:=9,ground:=.data} (by simp) rfl;have h9:f 9=.pointer (some ⟨M,0+4,none⟩):=hJ.1 9 d9 _ rfl;have c5:x.cell? ⟨M,0+4,none⟩=some (.string n2):=by
       by_cases d16:D 16
       ·exact(hJ.2.2.2.2.2.2 d16).cell 4 _ rfl
       ·exact(hJ.2.2.2.2.2.1 d16).cell 4 _ rfl
      have HN:Hid (J ⟨w,b,a,len,cap,at10,sd10,M,w9.heap.size,n2,.slice av nv cv,ps,i,t,l,au,d,cc,TX⟩ (λj=>j=10∨D j) (rs.upd f 10 (.string n2)) x):=hJ.pure _ HP.out (λz hz=>Option.some.inj hz) (by decide) (Below.refl _ _);clear hJ hall hcl hni;refine wpOp_step rfl (λK' hK=>?_);simp only[h9]
      go_wp2_with fail
      exact⟨.string n2,by simp[rs.upd,h9],HN.out⟩
     | 11,ho =>
      cases ho;have d8:D 8:=hall {on:=8,ground:=.data} (by simp) rfl;have h8:f 8=.agg #[.string i,.string t,.string l,.string au,.int .i64 d,.string cc]:=hJ.1 8 d8 _ rfl;have d10:D 10:=hall {on:=10,ground:=.data} (by simp) rfl;have h10:f 10=.string n2:=hJ.1 10 d10 _ rfl;have HN:Hid (∀w',Below x.heap.size x w'→J ⟨w,b,a,len,cap,at10,sd10,M,w9.heap.size,n2,.slice av nv cv,ps,i,t,l,au,d,cc,TX⟩ (λj=>j=11∨D j) (rs.upd f 11 (.string TX)) w'):=λw' hb=>hJ.pure _ HP.out (λz hz=>Option.some.inj hz) (by decide) hb
      have HC:Hid (Calls Tryz.prog 57 #[.agg #[.string i,.string t,.string l,.string au,.int .i64 d,.string cc],.string n2] x λe w'=>e=.returned (.string TX)∧Below x.heap.size x w'):=by rw[HTX.out];exact rn.render_any i t l au cc n2 d x (en.drawn_ok HD.out.1 HD.out.2.1 HD.out.2.2.1 HD.out.2.2.2.1 HD.out.2.2.2.2.1 HD.out.2.2.2.2.2.1 HD.out.2.2.2.2.2.2) (zdc _ (zcv _ HN2.out))
      clear hJ hall hcl hni;refine wpOp_step rfl (λK' hK=>?_);simp only[h8,h10]
      go_wp2_with (go_at_call 57;refine HC.out.mono ?_;rintro e w' ⟨rfl,hb'⟩)
      exact⟨.string TX,by simp[rs.upd,h8,h10],HN.out _ hb'⟩
     | 12,ho =>
      cases ho;have d7:D 7:=hall {on:=7,ground:=.data} (by simp) rfl;have d11:D 11:=hall {on:=11,ground:=.data} (by simp) rfl;have h11:f 11=.string TX:=hJ.1 11 d11 _ rfl;have d5:D 5:=hcl 6 _ (hcl 7 _ d7 rfl {on:=6,ground:=.data} (by simp) rfl) rfl {on:=5,ground:=.data} (by simp) rfl;obtain⟨_,n,ln,e5,e6,e7,e12,e13,e14⟩:=hJ.2.2.2.1 d5;have h7:=e7 d7;have HN:Hid (J ⟨w,b,a,len,cap,at10,sd10,M,w9.heap.size,n2,.slice av nv cv,ps,i,t,l,au,d,cc,TX⟩ (λj=>j=12∨D j) (rs.upd f 12 (.agg #[.string (key i n),.string TX])) x):=hJ.told (λn=>.agg #[.string (key i n),.string TX]) HP.out (.inr (.inr rfl)) d5 hni (Below.refl _ _) rfl n e5 (λe=>absurd e (by decide)) (λe=>absurd e (by decide)) (λ_=>rfl);clear hJ hall hcl hni e5 e6 e7 e12 e13 e14;refine wpOp_step rfl (λK' hK=>?_);simp only[h7,h11];go_simp;exact hK _ _ ⟨.agg #[.string (key i n),.string TX],by simp[rs.upd,h7,h11],HN.out⟩
     | 13,ho =>
      cases ho;have d12:D 12:=hall {on:=12,ground:=.data} (by simp) rfl;have d5:D 5:=hcl 6 _ (hcl 7 _ (hcl 12 _ d12 rfl {on:=7,ground:=.data} (by simp) rfl) rfl {on:=6,ground:=.data} (by simp) rfl) rfl {on:=5,ground:=.data} (by simp) rfl;obtain⟨_,n,ln,e5,e6,e7,e12,e13,e14⟩:=hJ.2.2.2.1 d5;have h12:=e12 d12;have n14:¬D 14:=λh=>hni (hcl 14 _ (h) rfl {on:=13,ground:=.data} (by simp) rfl)
      have n16:¬D 16:=λh=>hni (hcl 14 _ (hcl 16 _ (h) rfl {on:=14,ground:=.data} (by simp) rfl) rfl {on:=13,ground:=.data} (by simp) rfl)
      have HN:Hid (J ⟨w,b,a,len,cap,at10,sd10,M,w9.heap.size,n2,.slice av nv cv,ps,i,t,l,au,d,cc,TX⟩ (λj=>j=13∨D j) (rs.upd f 13 (.slice (some ⟨x.heap.size,0,none⟩) 1 1)) (x.alloc (.cells #[.string (key i n),.string TX] 103))):=by
       have hnew:=(MapKept.heap_alloc x (.cells #[.string (key i n),.string TX] 103)).1;refine hJ.build x.heap.size HP.out rfl d5 n14 n16 ((Below.refl _ _).alloc (Nat.le_refl _) _) n e5 ?_ ?_
       ·rw[cell_of_row _ _ _ _ _ _ hnew];rfl
       ·rw[cell_of_row _ _ _ _ _ _ hnew];rfl
      clear hJ hall hcl hni e5 e6 e7 e12 e13 e14 n14 n16;refine wpOp_step rfl (λK' hK=>?_);simp only[h12]
      go_wp2_with fail
      exact⟨.slice (some ⟨x.heap.size,0,none⟩) 1 1,by simp[rs.upd,h12],HN.out⟩
     | 14,ho =>
      cases ho;have d1:D 1:=hall {on:=1,ground:=.data} (by simp) rfl;have h1:f 1=.slice av nv cv:=hJ.1 1 d1 _ rfl;have d13:D 13:=hall {on:=13,ground:=.data} (by simp) rfl;have d5:D 5:=hcl 6 _ (hcl 7 _ (hcl 12 _ (hcl 13 _ d13 rfl {on:=12,ground:=.data} (by simp) rfl) rfl {on:=7,ground:=.data} (by simp) rfl) rfl {on:=6,ground:=.data} (by simp) rfl) rfl {on:=5,ground:=.data} (by simp) rfl;obtain⟨_,n,ln,e5,e6,e7,e12,e13,e14⟩:=hJ.2.2.2.1 d5;have n16:¬D 16:=λh=>hni (hcl 16 _ (h) rfl {on:=14,ground:=.data} (by simp) rfl)
      obtain⟨g,h13,hc0,hc1⟩:=e13 d13 hni;have fr0:=hJ.2.2.2.2.1 hni;have hbs:M+1≤x.heap.size:=B6.lt (hJ.2.2.2.2.2.1 n16);have HN:Hid (∀v' w',w'.ownsRow (M+1) 103 2 v' (ps.length+1) (zaw ps++[.string (key i n),.string TX])→x.grownBy w' (Value.slice av nv cv).ownBlock→J ⟨w,b,a,len,cap,at10,sd10,M,w9.heap.size,n2,.slice av nv cv,ps,i,t,l,au,d,cc,TX⟩ (λj=>j=14∨D j) (rs.upd f 14 v') w'):=λv' w' ho hg=>hJ.app v' HP.out (λ_=>HNE.out) rfl d5 hni n16 n e5 ho hg
      clear hJ hall hcl hni e5 e6 e7 e12 e13 e14;refine wpOp_step rfl (λK' hK=>?_);rw[if_pos (by rfl)];refine wp_append_own x (.tmp 43) (.tmp 55) 33 rfl (M+1) 103 i0 _ 2 32 Tryz.underlying33 hi hz0 hz1 hz2 rfl (by decide) (.slice av nv cv) ps.length (zaw ps) (show f 1=_ from h1) fr0 ⟨g,0,none⟩ 1 1 [.string (key i n),.string TX] (show f 13=_ from h13) rfl ?_ ?_ (by have:=Hk.out.2.2;unfold maxLen;omega) (by have:=Hk.out.2.2;omega) hbs ?_
      ·intro j u hu
       match j,hu with
       | 0,hu=>cases hu;exact hc0
       | 1,hu=>cases hu;exact hc1
       | j+2,hu=>simp at hu
      ·intro u hu;simp at hu
       rcases hu with rfl|rfl<;>rfl
      ·intro v' w' hown hg hnil;exact hK _ _ ⟨v',rfl,HN.out v' w' hown hg⟩
     | 15,ho =>
      cases ho;have HN:Hid (J ⟨w,b,a,len,cap,at10,sd10,M,w9.heap.size,n2,.slice av nv cv,ps,i,t,l,au,d,cc,TX⟩ (λj=>j=15∨D j) (rs.upd f 15 (.pointer (some ⟨M,0+5,none⟩))) x):=hJ.pure _ HP.out (λz hz=>Option.some.inj hz) (by decide) (Below.refl _ _);clear hJ hall hcl hni;refine wpOp_step rfl (λK' hK=>?_);go_simp;exact hK _ _ ⟨.pointer (some ⟨M,0+5,none⟩),by simp[rs.upd],HN.out⟩
     | 16,ho =>
      cases ho;have d15:D 15:=hall {on:=15,ground:=.data} (by simp) rfl;have h15:f 15=.pointer (some ⟨M,0+5,none⟩):=hJ.1 15 d15 _ rfl;have d14:D 14:=hall {on:=14,ground:=.data} (by simp) rfl;have d5:D 5:=hcl 6 _ (hcl 7 _ (hcl 12 _ (hcl 13 _ (hcl 14 _ d14 rfl {on:=13,ground:=.data} (by simp) rfl) rfl {on:=12,ground:=.data} (by simp) rfl) rfl {on:=7,ground:=.data} (by simp) rfl) rfl {on:=6,ground:=.data} (by simp) rfl) rfl {on:=5,ground:=.data} (by simp) rfl;obtain⟨_,n,ln,e5,e6,e7,e12,e13,e14⟩:=hJ.2.2.2.1 d5;have fr0:=e14 d14;obtain⟨a',n',c',h14⟩:∃a n c,f 14=.slice a n c:=by
       rcases fr0.2 with⟨e,_⟩|⟨g,cap,cur,e,_⟩
       ·exact⟨_,_,_,e⟩
       ·exact⟨_,_,_,e⟩
      have hB:=hJ.2.2.2.2.2.1 hni;have m5:x.cell? ⟨M,0+5,none⟩=_:=hB.cell 5 _ rfl;have m5':x.cell? ⟨M,5,none⟩=_:=hB.cell 5 _ rfl;have fM:=hB.f;have HN:Hid (J ⟨w,b,a,len,cap,at10,sd10,M,w9.heap.size,n2,.slice av nv cv,ps,i,t,l,au,d,cc,TX⟩ (λj=>j=16∨D j) (rs.upd f 16 undef) (x.setCell ⟨M,5,none⟩ (.slice a' n' c'))):=by rw[←h14];exact hJ.store undef HP.out rfl d5 d14 hni
      clear hJ hall hcl hni e5 e6 e7 e12 e13 e14 fr0 hB;refine wpOp_step rfl (λK' hK=>?_);simp only[h15,h14]
      go_wp2_with fail
      exact⟨undef,by simp[rs.upd,h15,h14],HN.out⟩
     | k+17,ho=>simp at ho
    ·intro D f x hD hJ;obtain⟨_,hf,_,h5,_,_,h16⟩:=hJ;obtain⟨hl,n,n2_,_,_,_,_,_,e14⟩:=h5 (hD 5 (by decide));have HE1:Hid (Later ⟨w,b,a,len,cap,at10,sd10,M,w9.heap.size,n2,.slice av nv cv,ps,i,t,l,au,d,cc,TX⟩ x∧Fx ⟨w,b,a,len,cap,at10,sd10,M,w9.heap.size,n2,.slice av nv cv,ps,i,t,l,au,d,cc,TX⟩ x∧MV6 x M 2 0 0 0 n2 (f 14)∧zag x (M+1) (f 14) (ps++[(key i n,TX)])∧n≤2):=⟨hl,hf,h16 (hD 16 (by decide)),e14 (hD 14 (by decide)),n2_⟩
     clear hl hf h5 h16 e14 hJ0 n2_;go_wp2
     go_roundw
     case rel=>exact HREL.out _ x n HE1.out
     case measure=>simp[intOf];have:=Hk.out;omega
   ·obtain rfl:k=0:=by omega
    have hkk:mu.zbb 2 0 0 0 ps.length=true:=decide_eq_true (.inr (.inl ⟨rfl,rfl,rfl,rfl,by omega⟩));have hk0:¬((0:Nat):Int) > 0:=by omega
    have A5:=B6.put (a:=.int .i64 2) (b:=.int .i64 0) (c:=.int .i64 0) (d:=.int .i64 0) (e:=.string n2) (f:=.slice av nv cv) HSW.out.z;have HW:Hid (DrawnM w b a len cap at_ (.returned (.agg #[.int .i64 2,.int .i64 0,.int .i64 0,.int .i64 0,.string n2,.slice av nv cv])) (put6 wr w.heap.size (.int .i64 2) (.int .i64 0) (.int .i64 0) (.int .i64 0) (.string n2) (.slice av nv cv))):=by
     have hg:=zbk wr w.heap.size (.int .i64 2) (.int .i64 0) (.int .i64 0) (.int .i64 0) (.string n2) (.slice av nv cv);have q:=HSW.out;refine⟨⟨2,0,0,0,n2,ps⟩,_,_,_,rfl,mok_of HN2.out (by show ps.length≤3;omega) HPS.out hkk,?_,zaM (zaF HRW.out hg (λk e=>by have:=Option.some.inj e;omega)) (by omega),q.lo,Int.le_trans q.hi (by omega),q.s0,q.s1,src_keep q.s hg (λe=>by have:=Option.some.inj e;omega),code_keep' q.c hg (λk e=>by have:=Option.some.inj e;omega),zbq q.g hg (λk e=>by have:=Option.some.inj e;omega)⟩;show ps.length≤3;omega
    have a0:wr.cell? ⟨M,0,none⟩=_:=HMW.out.cell 0 _ rfl;have a1:wr.cell? ⟨M,0+1,none⟩=_:=HMW.out.cell 1 _ rfl;have a2:wr.cell? ⟨M,0+2,none⟩=_:=HMW.out.cell 2 _ rfl;have a3:wr.cell? ⟨M,0+3,none⟩=_:=HMW.out.cell 3 _ rfl;have a4:wr.cell? ⟨M,0+4,none⟩=_:=HMW.out.cell 4 _ rfl;have a5:wr.cell? ⟨M,0+5,none⟩=_:=HMW.out.cell 5 _ rfl;have b0:wr.cell? ⟨w.heap.size,0,none⟩=_:=HSW.out.z.cell 0 _ rfl;have b1:wr.cell? ⟨w.heap.size,0+1,none⟩=_:=HSW.out.z.cell 1 _ rfl;have b2:wr.cell? ⟨w.heap.size,0+2,none⟩=_:=HSW.out.z.cell 2 _ rfl;have b3:wr.cell? ⟨w.heap.size,0+3,none⟩=_:=HSW.out.z.cell 3 _ rfl;have b4:wr.cell? ⟨w.heap.size,0+4,none⟩=_:=HSW.out.z.cell 4 _ rfl;have b5:wr.cell? ⟨w.heap.size,0+5,none⟩=_:=HSW.out.z.cell 5 _ rfl;have fz:=HSW.out.z.f;clear HSW HMW HRW HPS;go_wp2;change bodyPost _ _ _ _ _ (put6 wr w.heap.size (.int .i64 2) (.int .i64 0) (.int .i64 0) (.int .i64 0) (.string n2) (.slice av nv cv));generalize put6 _ _ _ _ _ _ _ _=W5 at A5 HW ⊢;have d0:W5.cell? ⟨w.heap.size,0,none⟩=_:=A5.cell 0 _ rfl;have d1:W5.cell? ⟨w.heap.size,0+1,none⟩=_:=A5.cell 1 _ rfl;have d2:W5.cell? ⟨w.heap.size,0+2,none⟩=_:=A5.cell 2 _ rfl;have d3:W5.cell? ⟨w.heap.size,0+3,none⟩=_:=A5.cell 3 _ rfl;have d4:W5.cell? ⟨w.heap.size,0+4,none⟩=_:=A5.cell 4 _ rfl;have d5:W5.cell? ⟨w.heap.size,0+5,none⟩=_:=A5.cell 5 _ rfl;exact bodyPost_ret (v:=.agg #[.int .i64 2,.int .i64 0,.int .i64 0,.int .i64 0,.string n2,.slice av nv cv]) (by simp[results,Tryz.results29,go_sem,d0,d1,d2,d3,d4,d5]) rfl HW.out
 ·clear c0 c1 R6
  go_wp2_with fail
  refine(S6.out.name hbw h0 (by omega)).mono ?_;rintro e w7 ⟨n2,at7,sd7,rfl,hn2,hs7,hg7⟩;have HN2:Hid (n2∈za8):=hn2;have gI:Below w7.heap.size w7 (w7.alloc (.cells #[] 103)):=(Below.refl _ _).alloc (Nat.le_refl _) _;have S7:Hid (St w b a len cap at_ (0+3+3+3+3+3+3) (w7.alloc (.cells #[] 103)) at7 sd7):=hs7.new hbw gI;have M7:MV6 w7 M 3 (1+u) (1+md) fl nm (.slice (some ⟨B,0,none⟩) 0 0):=B6.grow M6.out hg7 (λe=>by have:=Option.some.inj e;omega);have HM7:Hid (M<w7.heap.size):=B6.lt M7;have MX:Hid (MV6 (w7.alloc (.cells #[] 103)) M 3 (1+u) (1+md) fl nm (.slice (some ⟨B,0,none⟩) 0 0)):=B6.grow M7 (grown_of gI) (by simp);have a0:(w7.alloc (.cells #[] 103)).cell? ⟨M,0,none⟩=_:=MX.out.cell 0 _ rfl;have a1:(w7.alloc (.cells #[] 103)).cell? ⟨M,0+1,none⟩=_:=MX.out.cell 1 _ rfl;have a2:(w7.alloc (.cells #[] 103)).cell? ⟨M,0+2,none⟩=_:=MX.out.cell 2 _ rfl;have a3:(w7.alloc (.cells #[] 103)).cell? ⟨M,0+3,none⟩=_:=MX.out.cell 3 _ rfl;have a4:(w7.alloc (.cells #[] 103)).cell? ⟨M,0+4,none⟩=_:=MX.out.cell 4 _ rfl;have a5:(w7.alloc (.cells #[] 103)).cell? ⟨M,0+5,none⟩=_:=MX.out.cell 5 _ rfl;have fM:=MX.out.f;clear hn2 hs7 hg7 S6 M6 gI M7
  go_upto_region 15 with fail
  generalize hX:World.setCell _ _ _=X;have hM7:=HM7.out;clear HM7;have eX:X=put6 (w7.alloc (.cells #[] 103)) M (.int .i64 4) (.int .i64 0) (.int .i64 0) (.int .i64 0) (.string n2) (.slice (some ⟨w7.heap.size,0,none⟩) 0 0):=hX.symm;have hp:=zbk (w7.alloc (.cells #[] 103)) M (.int .i64 4) (.int .i64 0) (.int .i64 0) (.int .i64 0) (.string n2) (.slice (some ⟨w7.heap.size,0,none⟩) 0 0);have M8:Hid (MV6 X M 4 0 0 0 n2 (.slice (some ⟨w7.heap.size,0,none⟩) 0 0)):=by rw[eX];exact B6.put MX.out
  have S8:Hid (St w b a len cap at_ (0+3+3+3+3+3+3) X at7 sd7):=by rw[eX];exact S7.out.put hbw hzM hp
  have R8:Hid (zag X w7.heap.size (.slice (some ⟨w7.heap.size,0,none⟩) 0 0) []):=by rw[eX];exact zaF (zcO (Nat.le_refl _)) hp (λk e=>by have:=Option.some.inj e;omega)
  clear hX eX hp a0 a1 a2 a3 a4 a5 fM MX S7;generalize w7.heap.size=B2 at M8 R8 hM7 ⊢;have A5:=B6.put (a:=.int .i64 4) (b:=.int .i64 0) (c:=.int .i64 0) (d:=.int .i64 0) (e:=.string n2) (f:=.slice (some ⟨B2,0,none⟩) 0 0) S8.out.z;have HW:Hid (DrawnM w b a len cap at_ (.returned (.agg #[.int .i64 4,.int .i64 0,.int .i64 0,.int .i64 0,.string n2,.slice (some ⟨B2,0,none⟩) 0 0])) (put6 X w.heap.size (.int .i64 4) (.int .i64 0) (.int .i64 0) (.int .i64 0) (.string n2) (.slice (some ⟨B2,0,none⟩) 0 0))):=by
   have hg:=zbk X w.heap.size (.int .i64 4) (.int .i64 0) (.int .i64 0) (.int .i64 0) (.string n2) (.slice (some ⟨B2,0,none⟩) 0 0);have q:=S8.out;refine⟨⟨4,0,0,0,n2,[]⟩,_,_,_,rfl,mok_of HN2.out (Nat.zero_le _) (λj hj=>absurd hj (Nat.not_lt_zero _)) (by show mu.zbb 4 0 0 0 0=true;decide),?_,zaM (zaF R8.out hg (λk e=>by have:=Option.some.inj e;omega)) (by omega),q.lo,Int.le_trans q.hi (by omega),q.s0,q.s1,src_keep q.s hg (λe=>by have:=Option.some.inj e;omega),code_keep' q.c hg (λk e=>by have:=Option.some.inj e;omega),zbq q.g hg (λk e=>by have:=Option.some.inj e;omega)⟩;exact Nat.zero_le _
  have a0:X.cell? ⟨M,0,none⟩=_:=M8.out.cell 0 _ rfl;have a1:X.cell? ⟨M,0+1,none⟩=_:=M8.out.cell 1 _ rfl;have a2:X.cell? ⟨M,0+2,none⟩=_:=M8.out.cell 2 _ rfl;have a3:X.cell? ⟨M,0+3,none⟩=_:=M8.out.cell 3 _ rfl;have a4:X.cell? ⟨M,0+4,none⟩=_:=M8.out.cell 4 _ rfl;have a5:X.cell? ⟨M,0+5,none⟩=_:=M8.out.cell 5 _ rfl;have b0:X.cell? ⟨w.heap.size,0,none⟩=_:=S8.out.z.cell 0 _ rfl;have b1:X.cell? ⟨w.heap.size,0+1,none⟩=_:=S8.out.z.cell 1 _ rfl;have b2:X.cell? ⟨w.heap.size,0+2,none⟩=_:=S8.out.z.cell 2 _ rfl;have b3:X.cell? ⟨w.heap.size,0+3,none⟩=_:=S8.out.z.cell 3 _ rfl;have b4:X.cell? ⟨w.heap.size,0+4,none⟩=_:=S8.out.z.cell 4 _ rfl;have b5:X.cell? ⟨w.heap.size,0+5,none⟩=_:=S8.out.z.cell 5 _ rfl;have fz:=S8.out.z.f;clear S8 M8 R8;go_wp2;change bodyPost _ _ _ _ _ (put6 X w.heap.size (.int .i64 4) (.int .i64 0) (.int .i64 0) (.int .i64 0) (.string n2) (.slice (some ⟨B2,0,none⟩) 0 0));generalize put6 _ _ _ _ _ _ _ _=W5 at A5 HW ⊢;have d0:W5.cell? ⟨w.heap.size,0,none⟩=_:=A5.cell 0 _ rfl;have d1:W5.cell? ⟨w.heap.size,0+1,none⟩=_:=A5.cell 1 _ rfl;have d2:W5.cell? ⟨w.heap.size,0+2,none⟩=_:=A5.cell 2 _ rfl;have d3:W5.cell? ⟨w.heap.size,0+3,none⟩=_:=A5.cell 3 _ rfl;have d4:W5.cell? ⟨w.heap.size,0+4,none⟩=_:=A5.cell 4 _ rfl;have d5:W5.cell? ⟨w.heap.size,0+5,none⟩=_:=A5.cell 5 _ rfl;exact bodyPost_ret (v:=.agg #[.int .i64 4,.int .i64 0,.int .i64 0,.int .i64 0,.string n2,.slice (some ⟨B2,0,none⟩) 0 0]) (by simp[results,Tryz.results29,go_sem,d0,d1,d2,d3,d4,d5]) rfl HW.out
 ·have e0:(c == 0)=false:=beq_eq_false_iff_ne.2 (by omega);have e1:(c == 1)=false:=beq_eq_false_iff_ne.2 (by omega);have e2:(c == 2)=false:=beq_eq_false_iff_ne.2 (by omega);have e3:(c == 3)=false:=beq_eq_false_iff_ne.2 (by omega);clear c0 c1 hcc;have hkk:mu.zbb 3 (1+u) (1+md) fl 0=true:=decide_eq_true (.inr (.inr ⟨rfl,rfl,by omega,by omega,by omega,by omega,by omega,by omega⟩));have A5:=B6.put (a:=.int .i64 3) (b:=.int .i64 (1+u)) (c:=.int .i64 (1+md)) (d:=.int .i64 fl) (e:=.string nm) (f:=.slice (some ⟨B,0,none⟩) 0 0) S6.out.z;have HW:Hid (DrawnM w b a len cap at_ (.returned (.agg #[.int .i64 3,.int .i64 (1+u),.int .i64 (1+md),.int .i64 fl,.string nm,.slice (some ⟨B,0,none⟩) 0 0])) (put6 w6 w.heap.size (.int .i64 3) (.int .i64 (1+u)) (.int .i64 (1+md)) (.int .i64 fl) (.string nm) (.slice (some ⟨B,0,none⟩) 0 0))):=by
   have hg:=zbk w6 w.heap.size (.int .i64 3) (.int .i64 (1+u)) (.int .i64 (1+md)) (.int .i64 fl) (.string nm) (.slice (some ⟨B,0,none⟩) 0 0);have q:=S6.out;refine⟨⟨3,(1+u),(1+md),fl,nm,[]⟩,_,_,_,rfl,mok_of HN.out (Nat.zero_le _) (λj hj=>absurd hj (Nat.not_lt_zero _)) hkk,?_,zaM (zaF R6.out hg (λk e=>by have:=Option.some.inj e;omega)) (by omega),q.lo,Int.le_trans q.hi (by omega),q.s0,q.s1,src_keep q.s hg (λe=>by have:=Option.some.inj e;omega),code_keep' q.c hg (λk e=>by have:=Option.some.inj e;omega),zbq q.g hg (λk e=>by have:=Option.some.inj e;omega)⟩;exact Nat.zero_le _
  have a0:w6.cell? ⟨M,0,none⟩=_:=M6.out.cell 0 _ rfl;have a1:w6.cell? ⟨M,0+1,none⟩=_:=M6.out.cell 1 _ rfl;have a2:w6.cell? ⟨M,0+2,none⟩=_:=M6.out.cell 2 _ rfl;have a3:w6.cell? ⟨M,0+3,none⟩=_:=M6.out.cell 3 _ rfl;have a4:w6.cell? ⟨M,0+4,none⟩=_:=M6.out.cell 4 _ rfl;have a5:w6.cell? ⟨M,0+5,none⟩=_:=M6.out.cell 5 _ rfl;have b0:w6.cell? ⟨w.heap.size,0,none⟩=_:=S6.out.z.cell 0 _ rfl;have b1:w6.cell? ⟨w.heap.size,0+1,none⟩=_:=S6.out.z.cell 1 _ rfl;have b2:w6.cell? ⟨w.heap.size,0+2,none⟩=_:=S6.out.z.cell 2 _ rfl;have b3:w6.cell? ⟨w.heap.size,0+3,none⟩=_:=S6.out.z.cell 3 _ rfl;have b4:w6.cell? ⟨w.heap.size,0+4,none⟩=_:=S6.out.z.cell 4 _ rfl;have b5:w6.cell? ⟨w.heap.size,0+5,none⟩=_:=S6.out.z.cell 5 _ rfl;have fz:=S6.out.z.f;clear S6 M6 R6;go_wp2;change bodyPost _ _ _ _ _ (put6 w6 w.heap.size (.int .i64 3) (.int .i64 (1+u)) (.int .i64 (1+md)) (.int .i64 fl) (.string nm) (.slice (some ⟨B,0,none⟩) 0 0));generalize put6 _ _ _ _ _ _ _ _=W5 at A5 HW ⊢;have d0:W5.cell? ⟨w.heap.size,0,none⟩=_:=A5.cell 0 _ rfl;have d1:W5.cell? ⟨w.heap.size,0+1,none⟩=_:=A5.cell 1 _ rfl;have d2:W5.cell? ⟨w.heap.size,0+2,none⟩=_:=A5.cell 2 _ rfl;have d3:W5.cell? ⟨w.heap.size,0+3,none⟩=_:=A5.cell 3 _ rfl;have d4:W5.cell? ⟨w.heap.size,0+4,none⟩=_:=A5.cell 4 _ rfl;have d5:W5.cell? ⟨w.heap.size,0+5,none⟩=_:=A5.cell 5 _ rfl;exact bodyPost_ret (v:=.agg #[.int .i64 3,.int .i64 (1+u),.int .i64 (1+md),.int .i64 fl,.string nm,.slice (some ⟨B,0,none⟩) 0 0]) (by simp[results,Tryz.results29,go_sem,d0,d1,d2,d3,d4,d5]) rfl HW.out
end dm
end Go.Proofs.YtmnflpmfngjllaaGreatDoor
