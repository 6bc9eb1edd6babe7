/-
  FnReplayCardSaid
-/
import Derived.Test.YtmnflpmfngjllaaGreatDoorPkbr
import Derived.Lib.ItoaMem
import Derived.Lib.ItoaNum
import Derived.Lib.AppendIntMem
import Derived.Shelf.Strconv.Itoa3
set_option maxHeartbeats 16000000
set_option maxRecDepth 100000
set_option linter.unusedVariables false
namespace Go.Proofs.YtmnflpmfngjllaaGreatDoor
namespace dx
open Go.RowKit
open gr
theorem belA{w w1:World}{o:Obj}(b1:Below w.drew.heap.size w.drew w1):Below w.heap.size w (w1.alloc o):=((Below.refl _ w).drew.trans b1).alloc b1.size _
theorem belB{w w1:World}{o:Obj}(b1:Below (w.alloc o).drew.heap.size (w.alloc o).drew w1):Below w.heap.size w w1:=(zbO w o).drew.trans (b1.mono (by show w.heap.size≤(w.heap.push o).size;simp))
theorem conv_at(w:World)(g:Nat)(l:List UInt8)(cs:Array Value)(h:cs.toList=l.map λb=>Value.int .u8 (b.toNat:Int))(hg:w.heap[g]?=some (.cells cs 5)) :
  (convert 22 9 (.slice (some ⟨g,0,none⟩) l.length l.length)).run Tryz.prog w=.ok (.string ⟨l.toArray⟩) w:=by
 refine run_convert_bytes_back _ 22 9 5 ⟨g,0,none⟩ l.length l Tryz.underlying22 Tryz.underlying5 Tryz.underlying9 (λj hj=>?_);rw[ow.add_at,cell_of_row w g j _ _ _ hg,←Array.getElem?_toList,h];simp[hj]
theorem conv_one(w:World){z:Int}{b:UInt8}(hz:(b.toNat:Int)=z) :
  (convert 22 9 (.slice (some ⟨w.heap.size,0,none⟩) 1 1)).run Tryz.prog (w.alloc (.cells #[.int .u8 z] 5))=.ok (.string ⟨#[b]⟩) (w.alloc (.cells #[.int .u8 z] 5)) :=
 conv_new w [b] #[.int .u8 z] (by rw[←hz];rfl)
theorem conv_oneD(w:World){z:Int}{b:UInt8}(hz:(b.toNat:Int)=z) :
  (convert 22 9 (.slice (some ⟨w.heap.size,0,none⟩) 1 1)).run Tryz.prog (w.alloc (.cells #[.int .u8 z] 5)).drew=.ok (.string ⟨#[b]⟩) (w.alloc (.cells #[.int .u8 z] 5)).drew:=by
 refine conv_at (w.alloc (.cells #[.int .u8 z] 5)).drew w.heap.size [b] #[.int .u8 z] (by rw[←hz];rfl) ?_;show(w.heap.push _)[w.heap.size]?=_;simp
theorem conv_keptD{w w1:World}{z:Int}{b:UInt8}(hz:(b.toNat:Int)=z)(hb:Below (w.alloc (.cells #[.int .u8 z] 5)).drew.heap.size (w.alloc (.cells #[.int .u8 z] 5)).drew w1) :
  (convert 22 9 (.slice (some ⟨w.heap.size,0,none⟩) 1 1)).run Tryz.prog w1=.ok (.string ⟨#[b]⟩) w1:=by
 refine conv_at w1 w.heap.size [b] #[.int .u8 z] (by rw[←hz];rfl) ?_;rw[hb.block w.heap.size (by show w.heap.size<(w.heap.push _).size;simp)];show(w.heap.push _)[w.heap.size]?=_;simp
theorem digs_one(n:Int)(h0:0≤n)(h1:n≤9)(w:World):Calls Tryz.prog 56 #[.int .i64 n] w λe w'=>e=.returned (.string ⟨#[dg n]⟩)∧Below w.heap.size w w':=by
 have cv:=conv_one w (dg_nat h0 h1);have d1:(n == -9223372036854775808)=false:=beq_eq_false_iff_ne.2 (by omega);go_enter Tryz.func56,Tryz.ntmps56;go_wp2;go_ret;exact⟨rfl,zbO _ _⟩
theorem digs_step(n:Int)(h0:10≤n)(h1:n≤99999)(l:List UInt8)(hl:l.length≤4)(ih:∀w,Calls Tryz.prog 56 #[.int .i64 (n / 10)] w λe w'=>e=.returned (.string ⟨l.toArray⟩)∧Below w.heap.size w w')(w:World) :
  Calls Tryz.prog 56 #[.int .i64 n] w λe w'=>e=.returned (.string ⟨(l++[dg (n % 10)]).toArray⟩)∧Below w.heap.size w w':=by
 have hz:((dg (n % 10)).toNat:Int)=48+n % 10:=dg_nat (by omega) (by omega);have HZ:=hD hz;have cv:=conv_oneD w hz;clear hz;have IH:=hD ih;clear ih;have d1:(n == -9223372036854775808)=false:=beq_eq_false_iff_ne.2 (by omega);have hs:(9223372036854775807<l.length+1)=False:=eq_false (by omega);have e0:n.tdiv 10=n / 10:=Int.tdiv_eq_ediv_of_nonneg (by omega);have e00:n.tmod 10=n % 10:=Int.tmod_eq_emod_of_nonneg (by omega);have e1:IntKind.i64.wrap (n / 10)=n / 10:=by rw[IntKind.wrap_i64];omega
 have e2:IntKind.i64.wrap (n % 10)=n % 10:=by rw[IntKind.wrap_i64];omega
 have e3:IntKind.i64.wrap (48+n % 10)=48+n % 10:=by rw[IntKind.wrap_i64];omega
 have e4:IntKind.u8.wrap (48+n % 10)=48+n % 10:=by rw[IntKind.wrap_u8];omega
 go_enter Tryz.func56,Tryz.ntmps56
 go_wp2_with fail
 go_region_with (go_at_call 56;refine(IH.out _).mono ?_;rintro e w1 ⟨rfl,b1⟩;have cw:=conv_one w1 (z:=48+n % 10) (b:=dg (n % 10)) HZ.out;first|(have ck:=conv_keptD (w:=w) (z:=48+n % 10) (b:=dg (n % 10)) HZ.out b1)|skip)
 all_goals go_wp2
 all_goals go_ret
 all_goals refine⟨by rw[←app];rfl,?_⟩
 all_goals first
  | exact belA b1
  | exact belB b1
def four(y:Int):List UInt8:=[dg (y / 1000),dg (y / 100 % 10),dg (y / 10 % 10),dg (y % 10)]
theorem spec_four(y:Int)(h0:1000≤y)(h1:y≤9999)(w:World):Calls Tryz.prog 56 #[.int .i64 y] w λe w'=>e=.returned (.string ⟨(four y).toArray⟩)∧Below w.heap.size w w':=by
 have a:=λw=>digs_one (y / 10 / 10 / 10) (by omega) (by omega) w
 have b:=λw=>digs_step (y / 10 / 10) (by omega) (by omega) [dg (y / 10 / 10 / 10)] (by simp) a w
 have c:=λw=>digs_step (y / 10) (by omega) (by omega) ([dg (y / 10 / 10 / 10)]++[dg (y / 10 / 10 % 10)]) (by simp) b w
 have d:=digs_step y (by omega) (by omega) ([dg (y / 10 / 10 / 10)]++[dg (y / 10 / 10 % 10)]++[dg (y / 10 % 10)]) (by simp) c w;unfold four;rw[show y / 1000=y / 10 / 10 / 10 by omega,show y / 100=y / 10 / 10 by omega];exact d
end dx
namespace dw
open Go.RowKit
open dt
def cv(n:Int):Value:=if inB n 0 4102444799 then .tuple #[civ n,.int .i64 0] else .tuple #[C6 0 0 0 0 0 0,.int .i64 4]
def wc(w:World)(z m d n:Int):World:=(w.alloc (.cells #[.int .i64 0,.int .i64 0,.int .i64 0,.int .i64 0,.int .i64 0,.int .i64 0] 169)).alloc (.cells #[.int .i64 z,.int .i64 m,.int .i64 d,.int .i64 (n / 3600 % 24),.int .i64 (n / 60 % 60),.int .i64 (n % 60)] 169)
theorem spec_civ(n:Int)(h1:0≤n)(h2:n≤4102444799)(w:World):Calls Tryz.prog 127 #[.int .i64 n] w λe w'=>e=.returned (civ n)∧Below w.heap.size w w':=by
 go_enter Tryz.func127,Tryz.ntmps127
 go_wp2_with fail
 go_loopw [4] (λt wr=>∃z:Int,1970≤z∧yd z≤n / 86400∧t=.int .i64 (n / 86400-yd z)∧wr=wc w z 1 0 n) (λt _=>(intOf t).toNat)
 case atStart=>exact⟨1970,by omega,by rw[yd_first];omega,by rw[yd_first];simp,rfl⟩
 case round =>
  obtain⟨z,z1,z2,rfl,rfl⟩:=hrel;have z3:z≤2099:=by unfold yd at z2;omega
  have u3:=lp_01 z;have hs:=yd_step z;have u1:=yd_pos z1;unfold wc;by_cases hlt:365+lp z≤n / 86400-yd z
  ·go_wp2_with fail
   refine(leap_any z z1 z3 _).mono ?_;rintro e w' ⟨rfl,rfl⟩
   go_wp2_with fail
   refine(bit_any _ _).mono ?_;rintro e w' ⟨rfl,rfl⟩;rw[←lp_bit]
   go_wp2_with fail
   refine(leap_any z z1 z3 _).mono ?_;rintro e w' ⟨rfl,rfl⟩
   go_wp2_with fail
   refine(bit_any _ _).mono ?_;rintro e w' ⟨rfl,rfl⟩;rw[←lp_bit];go_wp2
   go_round
   case rel=>exact⟨z+1,by omega,by omega,by rw[hs];go_num,rfl⟩
   case measure=>simp[intOf];omega
  ·have ez:=yr_is h1 z2 (by omega);subst ez;have r1:=rs_lo h1;have r2:=rs_hi h1
   go_wp2_with fail
   refine(leap_any (yr n) z1 z3 _).mono ?_;rintro e w' ⟨rfl,rfl⟩
   go_wp2_with fail
   refine(bit_any _ _).mono ?_;rintro e w' ⟨rfl,rfl⟩;rw[←lp_bit]
   go_wp2_with fail
   go_loopw [4] (λt wr=>∃j:Nat,j≤11∧ms (yr n) j≤rs n∧t=.int .i64 (rs n-ms (yr n) j)∧wr=wc w (yr n) ((j:Int)+1) 0 n) (λt _=>(intOf t).toNat)
   case atStart=>exact⟨0,by omega,r1,by simp[rs,ms],rfl⟩
   case round =>
    obtain⟨j,hj,hm,rfl,rfl⟩:=hrel;have u3:=ms_pos (yr n) j;have u4:=ms_le (y:=yr n) (show j≤12 by omega);have u5:=dm_pos (yr n) ((j:Int)+1);have u6:=lp_01 (yr n);unfold wc;by_cases hlt2:dm (yr n) ((j:Int)+1)≤rs n-ms (yr n) j
    ·have hj':j+1≤11:=by
      rcases Nat.lt_or_ge j 11 with q|q
      ·omega
      ·obtain rfl:j=11:=by omega
       have q2:=ms_12 (yr n);have q3:ms (yr n) 12=ms (yr n) 11+dm (yr n) (((11:Nat):Int)+1):=rfl;omega
     go_wp2_with (go_at_call 142;refine(spec_dm (yr n) _ z1 z3 _).mono ?_;rintro e w' ⟨rfl,rfl⟩)
     go_round
     case rel=>exact⟨j+1,hj',by rw[ms_succ];omega,by rw[ms_succ];go_num,rfl⟩
     case measure=>simp[intOf];omega
    ·have em:=mo_is r1 r2 hm (by rw[ms_succ];omega);have HM:=hD em;clear em
     go_wp2_with (go_at_call 142;refine(spec_dm (yr n) _ z1 z3 _).mono ?_;rintro e w' ⟨rfl,rfl⟩)
     have e:civ n=.agg #[.int .i64 (yr n),.int .i64 ((j:Int)+1),.int .i64 (rs n-ms (yr n) j+1),.int .i64 (n / 3600 % 24),.int .i64 (n / 60 % 60),.int .i64 (n % 60)]:=by
      unfold civ C6 mn dy;rw[HM.out];rfl
     refine bodyPost_ret (v:=.agg #[.int .i64 (yr n),.int .i64 ((j:Int)+1),.int .i64 (rs n-ms (yr n) j+1),.int .i64 (n / 3600 % 24),.int .i64 (n / 60 % 60),.int .i64 (n % 60)]) (by simp[results,Tryz.results127,go_sem]) rfl ⟨by rw[e],?_⟩;exact(zbO _ _).alloc (by simp) _
def put6(w:World)(b:Nat)(y m d h i s:Int):World :=
 (((((w.setCell ⟨b,0,none⟩ (.int .i64 y)).setCell ⟨b,1,none⟩ (.int .i64 m)).setCell ⟨b,2,none⟩ (.int .i64 d)).setCell ⟨b,3,none⟩ (.int .i64 h)).setCell ⟨b,4,none⟩ (.int .i64 i)).setCell ⟨b,5,none⟩ (.int .i64 s)
end dw
namespace td
open Go.RowKit
section
variable {P:Program}{W:World}{name:String}{g:Nat}{t e:TypeId}{n:Nat}
end
def wks:List (List UInt8):=[[83,117,110],[77,111,110],[84,117,101],[87,101,100],[84,104,117],[70,114,105],[83,97,116]]
def mts:List (List UInt8):=[[],[74,97,110],[70,101,98],[77,97,114],[65,112,114],[77,97,121],[74,117,110],[74,117,108],[65,117,103],[83,101,112],[79,99,116],[78,111,118],[68,101,99]]
end td
namespace dx
open Go.RowKit
open dt gr
theorem two_len(n:Int):(two n).length=2:=rfl
theorem four_len(n:Int):(four n).length=4:=rfl
theorem clk_len(h i s:Int):(clk h i s).length=8:=rfl
end dx
namespace dx
open Go.RowKit
open dt gr
def wkn(a:Nat):List UInt8:=td.wks.getD a []
def mtn(m:Nat):List UInt8:=td.mts.getD m []
theorem wkn_len{a:Nat}(h:a<7):(wkn a).length=3:=by
 have:a=0∨a=1∨a=2∨a=3∨a=4∨a=5∨a=6:=by omega
 rcases this with rfl|rfl|rfl|rfl|rfl|rfl|rfl<;>rfl
theorem mtn_len{m:Nat}(h0:1≤m)(h:m<13):(mtn m).length=3:=by
 have:m=1∨m=2∨m=3∨m=4∨m=5∨m=6∨m=7∨m=8∨m=9∨m=10∨m=11∨m=12:=by omega
 rcases this with rfl|rfl|rfl|rfl|rfl|rfl|rfl|rfl|rfl|rfl|rfl|rfl<;>rfl
theorem spec_wkn(a:Nat)(h:a<7)(w:World):Calls Tryz.prog 128 #[.int .i64 (a:Int)] w λe w'=>e=.returned (.string ⟨(wkn a).toArray⟩)∧Below w.heap.size w w':=by
 have:a=0∨a=1∨a=2∨a=3∨a=4∨a=5∨a=6:=by omega
 rcases this with rfl|rfl|rfl|rfl|rfl|rfl|rfl
 all_goals
  go_enter Tryz.func128,Tryz.ntmps128;go_wp2;go_ret;exact⟨rfl,zbO _ _⟩
theorem spec_mtn(m:Nat)(h0:1≤m)(h:m<13)(w:World):Calls Tryz.prog 130 #[.int .i64 (m:Int)] w λe w'=>e=.returned (.string ⟨(mtn m).toArray⟩)∧Below w.heap.size w w':=by
 have:m=1∨m=2∨m=3∨m=4∨m=5∨m=6∨m=7∨m=8∨m=9∨m=10∨m=11∨m=12:=by omega
 rcases this with rfl|rfl|rfl|rfl|rfl|rfl|rfl|rfl|rfl|rfl|rfl|rfl
 all_goals
  go_enter Tryz.func130,Tryz.ntmps130;go_wp2;go_ret;exact⟨rfl,zbO _ _⟩
def f82(a:Nat)(y:Int)(m:Nat)(d h i s:Int):List UInt8:=wkn a++[44,32]++two d++[32]++mtn m++[32]++four y++[32]++clk h i s++[32,43,48,48,48,48]
def wkd(n:Int):Nat:=((n / 86400+4) % 7).toNat
def t82(n:Int):List UInt8:=f82 (wkd n) (yr n) (mn n).toNat (dy n) (hr n) (dt.mt n) (sc n)
end dx
namespace dx
open Go.RowKit
open dt gr
theorem spec_f82(n:Int)(n0:0≤n)(n1:n≤4102444799)(w:World):Calls Tryz.prog 98 #[.int .i64 n] w λe w'=>e=.returned (.string ⟨(t82 n).toArray⟩)∧Below w.heap.size w w':=by
 have hok:=civ_ok n0 n1;have hx:Hid (∀w,Calls Tryz.prog 127 #[.int .i64 n] w λe w'=>e=.returned (C6 (yr n) (mn n) (dy n) (hr n) (dt.mt n) (sc n))∧Below w.heap.size w w'):=λw=>dw.spec_civ n n0 n1 w
 unfold t82;have ha:(n / 86400+4) % 7=((wkd n:Nat):Int):=by unfold wkd;omega
 have ha7:wkd n<7:=by unfold wkd;omega
 obtain⟨q,hq⟩:∃q:Nat,mn n=(q:Int):=⟨(mn n).toNat,by have:=hok.2.2.1;omega⟩
 rw[hq] at hx hok ⊢;rw[Int.toNat_natCast];generalize yr n=y,dy n=d,hr n=h,dt.mt n=i,sc n=s,wkd n=a at hx hok ha ha7 ⊢;clear hq;obtain⟨k1,k2,k3,k4,k5,k6,k7,k8,k9,k10,k11,k12⟩:=hok;have k13:=dm_pos y (q:Int);go_enter Tryz.func98,Tryz.ntmps98
 go_wp2_with fail
 refine(hx.out _).mono ?_;rintro e w1 ⟨rfl,b1⟩;unfold C6;clear hx
 go_wp2_with fail
 have L:=dw.zan w1 y (q:Int) d h i s;have b2:=b1.trans ((zbO w1 (.cells #[.int .i64 y,.int .i64 (q:Int),.int .i64 d,.int .i64 h,.int .i64 i,.int .i64 s] 169)).mono b1.size);generalize w1.alloc _=W at L b2 ⊢;have HF:Hid (∀W,Calls Tryz.prog 56 #[.int .i64 y] W λe w'=>e=.returned (.string ⟨(four y).toArray⟩)∧Below W.heap.size W w'):=λW=>spec_four y (by omega) (by omega) W
 have HW:Hid (∀W,Calls Tryz.prog 128 #[.int .i64 ((n / 86400+4) % 7)] W λe w'=>e=.returned (.string ⟨(wkn a).toArray⟩)∧Below W.heap.size W w'):=λW=>by rw[ha];exact spec_wkn a ha7 W
 have HM:Hid (∀W,Calls Tryz.prog 130 #[.int .i64 (q:Int)] W λe w'=>e=.returned (.string ⟨(mtn q).toArray⟩)∧Below W.heap.size W w'):=λW=>spec_mtn q (by omega) (by omega) W
 have d0:0≤d:=by omega
 have d9:d≤99:=by omega
 have HC:Hid (∀W,Calls Tryz.prog 131 #[C6 y (q:Int) d h i s] W λe w'=>e=.returned (.string ⟨(clk h i s).toArray⟩)∧Below W.heap.size W w'):=λW=>spec_clk y (q:Int) d h i s (by omega) (by omega) (by omega) (by omega) (by omega) (by omega) W
 unfold C6 at HC;have ne:=zcC W;have l2:=two_len;have l4:=four_len;have l8:=clk_len;have l3:=wkn_len ha7;have l3m:=mtn_len (m:=q) (by omega) (by omega);have c0:=λx:Ext W=>zaA x L.c0
 have c1:=λx:Ext W=>zaA x L.c1
 have c2:=λx:Ext W=>zaA x L.c2
 have c3:=λx:Ext W=>zaA x L.c3
 have c4:=λx:Ext W=>zaA x L.c4
 have c5:=λx:Ext W=>zaA x L.c5
 clear L b1 ha;refine zca (by kernel_rfl) (by kernel_rfl) ?_
 repeat (go_big_quiet_step ((first|(go_at_call 56;exact zaQ (HF.out _))|(go_at_call 129;exact zaQ (spec_two _ (by assumption) (by assumption) _))|(go_at_call 128;exact zaQ (HW.out _))|(go_at_call 130;exact zaQ (HM.out _))|(go_at_call 131;exact zaQ (HC.out _)))))
 refine wpQuiet_nil ?_;rintro W' ⟨x,rfl⟩;have b3:=b2.trans ((zbe x).mono b2.size);generalize gw x=W' at b3 ⊢;clear c0 c1 c2 c3 c4 c5 ne HF HW HM HC b2;go_wp2;go_ret;refine⟨?_,b3⟩;unfold f82;simp only[←app];rfl
end dx
namespace dx
open Go.RowKit
open gr
theorem digs_more(n:Int)(h0:10≤n)(h1:n≤9999999999)(l:List UInt8)(hl:l.length≤40)(ih:∀w,Calls Tryz.prog 56 #[.int .i64 (n / 10)] w λe w'=>e=.returned (.string ⟨l.toArray⟩)∧Below w.heap.size w w')(w:World) :
  Calls Tryz.prog 56 #[.int .i64 n] w λe w'=>e=.returned (.string ⟨(l++[dg (n % 10)]).toArray⟩)∧Below w.heap.size w w':=by
 have hz:((dg (n % 10)).toNat:Int)=48+n % 10:=dg_nat (by omega) (by omega);have HZ:=hD hz;have cv:=conv_oneD w hz;clear hz;have IH:=hD ih;clear ih;have d1:(n == -9223372036854775808)=false:=beq_eq_false_iff_ne.2 (by omega);have hs:(9223372036854775807<l.length+1)=False:=eq_false (by omega);have e0:n.tdiv 10=n / 10:=Int.tdiv_eq_ediv_of_nonneg (by omega);have e00:n.tmod 10=n % 10:=Int.tmod_eq_emod_of_nonneg (by omega);have e1:IntKind.i64.wrap (n / 10)=n / 10:=by rw[IntKind.wrap_i64];omega
 have e2:IntKind.i64.wrap (n % 10)=n % 10:=by rw[IntKind.wrap_i64];omega
 have e3:IntKind.i64.wrap (48+n % 10)=48+n % 10:=by rw[IntKind.wrap_i64];omega
 have e4:IntKind.u8.wrap (48+n % 10)=48+n % 10:=by rw[IntKind.wrap_u8];omega
 go_enter Tryz.func56,Tryz.ntmps56
 go_wp2_with fail
 go_region_with (go_at_call 56;refine(IH.out _).mono ?_;rintro e w1 ⟨rfl,b1⟩;have cw:=conv_one w1 (z:=48+n % 10) (b:=dg (n % 10)) HZ.out;first|(have ck:=conv_keptD (w:=w) (z:=48+n % 10) (b:=dg (n % 10)) HZ.out b1)|skip)
 all_goals go_wp2
 all_goals go_ret
 all_goals refine⟨by rw[←app];rfl,?_⟩
 all_goals first
  | exact belA b1
  | exact belB b1
theorem zce:∀(k n:Nat),n<10 ^ (k+1)→(Lib.decDigits n).length≤k+1
 | 0,n,h=>by
  rw[Lib.decDigits,dif_pos (by omega)];simp
 | k+1,n,h=>by
  rw[Lib.decDigits];by_cases h9:n<10
  ·rw[dif_pos h9];simp
  ·rw[dif_neg h9,List.length_append];have:=zce k (n / 10) (by rw[Nat.pow_succ] at h;omega);simp;exact this
theorem zdg:∀(k n:Nat),n<10 ^ (k+1)→k≤9→∀w:World,Calls Tryz.prog 56 #[.int .i64 (n:Int)] w λe w'=>e=.returned (.string ⟨(Lib.decDigits n).toArray⟩)∧Below w.heap.size w w'
 | 0,n,h,_,w=>by
  have:=digs_one (n:Int) (by omega) (by omega) w;rw[Lib.decDigits,dif_pos (by omega)];exact this
 | k+1,n,h,hk,w=>by
  by_cases h9:n<10
  ·have:=digs_one (n:Int) (by omega) (by omega) w;rw[Lib.decDigits,dif_pos h9];exact this
  ·have hp:n / 10<10 ^ (k+1):=by rw[Nat.pow_succ] at h;omega
   have hl:=zce k (n / 10) hp;have h10:n≤9999999999:=by
    have:10 ^ (k+1+1)≤10 ^ 10:=Nat.pow_le_pow_right (by omega) (by omega);have e:(10:Nat) ^ 10=10000000000:=by decide
    omega
   have:=digs_more (n:Int) (by omega) (by omega) (Lib.decDigits (n / 10)) (by omega) (λw=>by
    have:=zdg k (n / 10) hp (by omega) w;rw[show((n / 10:Nat):Int)=(n:Int) / 10 from by omega] at this
    exact this) w
   rw[Lib.decDigits,dif_neg h9];have e:dg ((n:Int) % 10)=UInt8.ofNat (48+n % 10):=by
    unfold dg
    congr 1
   rw[e] at this;exact this
end dx
namespace qu
def crlf(l:List UInt8):Bool:=l.head? == some 13&&l.tail.head? == some 10
def zas(r:List UInt8):Bool:=r.isEmpty||crlf r
def hx(n:Nat):UInt8:=tb.digs.getD n 0
def plain(c:UInt8)(la:Bool):Bool:=(decide (33≤c.toNat)&&decide (c.toNat≤126)&&c != 61)||(c == 32&&!la)
def form(c:UInt8)(la:Bool):List UInt8:=if plain c la then[c] else[61,hx (c.toNat / 16),hx (c.toNat % 16)]
def lim(la:Bool):Nat:=if la then 76 else 75
def qtS:Bool→Nat→List UInt8→List UInt8
 | _,_,[]=>[]
 | true,_,_::r=>qtS false 0 r
 | false,w,c::r=>if crlf (c::r) then 13::10::qtS true 0 r
  else if lim (zas r)<w+(form c (zas r)).length then 61::13::10::(form c (zas r)++qtS false (form c (zas r)).length r)
  else form c (zas r)++qtS false (w+(form c (zas r)).length) r
def qt(w:Nat)(l:List UInt8):List UInt8:=qtS false w l
theorem qt_nil(w:Nat):qt w []=[]:=by rw[qt,qtS]
theorem qt_crlf(w:Nat)(r:List UInt8):qt w (13::10::r)=13::10::qt 0 r:=by
 rw[qt,qtS,if_pos (by simp[crlf]),qtS,qt]
theorem qt_soft{w:Nat}{c:UInt8}{r:List UInt8}(h:crlf (c::r)=false)(h2:lim (zas r)<w+(form c (zas r)).length):qt w (c::r)=61::13::10::(form c (zas r)++qt (form c (zas r)).length r):=by
 rw[qt,qtS,if_neg (by rw[h];decide),if_pos h2,qt]
theorem qt_on{w:Nat}{c:UInt8}{r:List UInt8}(h:crlf (c::r)=false)(h2:¬lim (zas r)<w+(form c (zas r)).length):qt w (c::r)=form c (zas r)++qt (w+(form c (zas r)).length) r:=by
 rw[qt,qtS,if_neg (by rw[h];decide),if_neg h2,qt]
theorem form_len(c:UInt8)(la:Bool):1≤(form c la).length∧(form c la).length≤3:=by
 unfold form
 split<;>simp
theorem crlf_iff{l:List UInt8}:crlf l=true↔∃r,l=13::10::r:=by
 match l with
 | []=>simp[crlf]
 | [a]=>simp[crlf]
 | a::b::r=>simp[crlf]
theorem crlf_at(l:List UInt8)(i:Nat):crlf (l.drop i)=(l.getD i 0 == 13&&l.getD (i+1) 0 == 10):=by
 by_cases h:i<l.length
 ·rw[b6.drop_cons h];by_cases h2:i+1<l.length
  ·rw[b6.drop_cons h2];simp[crlf]
  ·rw[List.drop_eq_nil_of_le (i:=i+1) (by omega)];have e:l.getD (i+1) 0=0:=by rw[List.getD_eq_getElem?_getD,List.getElem?_eq_none (by omega)];rfl
   rw[e];simp[crlf]
 ·rw[List.drop_eq_nil_of_le (by omega)];have e:l.getD i 0=0:=by rw[List.getD_eq_getElem?_getD,List.getElem?_eq_none (by omega)];rfl
  rw[e];simp[crlf]
theorem last_at(l:List UInt8)(i:Nat):zas (l.drop i)=(decide (l.length≤i)||(l.getD i 0 == 13&&l.getD (i+1) 0 == 10)):=by
 unfold zas;rw[crlf_at]
 congr 1
 by_cases h:l.length≤i
 ·rw[List.drop_eq_nil_of_le h];simp[h]
 ·rw[b6.drop_cons (by omega)];simp[h]
theorem at_crlf{l:List UInt8}{i w:Nat}(h:crlf (l.drop i)=true):qt w (l.drop i)=[13,10]++qt 0 (l.drop (i+2)):=by
 obtain⟨r,hr⟩:=crlf_iff.1 h;have e:l.drop (i+2)=r:=by rw[←List.drop_drop,hr];rfl
 rw[hr,qt_crlf,e];rfl
theorem at_soft{l:List UInt8}{i w:Nat}{la:Bool}{f:List UInt8}(hi:i<l.length)(h:crlf (l.drop i)=false)(hla:la=zas (l.drop (i+1)))(hf:f=form (l.getD i 0) la)(h2:lim la<w+f.length):qt w (l.drop i)=([61,13,10]++f)++qt f.length (l.drop (i+1)):=by
 subst hla hf;rw[b6.drop_cons hi] at h ⊢;rw[qt_soft h h2];simp
theorem at_on{l:List UInt8}{i w:Nat}{la:Bool}{f:List UInt8}(hi:i<l.length)(h:crlf (l.drop i)=false)(hla:la=zas (l.drop (i+1)))(hf:f=form (l.getD i 0) la)(h2:¬lim la<w+f.length):qt w (l.drop i)=f++qt (w+f.length) (l.drop (i+1)):=by
 subst hla hf;rw[b6.drop_cons hi] at h ⊢;rw[qt_on h h2]
theorem grow{q p:List UInt8}{l:List UInt8}{i j w w':Nat}(h:q++qt w (l.drop i)=qt 0 l)(e:qt w (l.drop i)=p++qt w' (l.drop j)):(q++p)++qt w' (l.drop j)=qt 0 l:=by
 rw[List.append_assoc,←e,h]
theorem qt_len_n:∀(n:Nat) (w:Nat) (l:List UInt8),l.length≤n→(qt w l).length≤6*l.length:=by
 intro n
 induction n with
 | zero =>
  intro w l h;obtain rfl:l=[]:=List.eq_nil_of_length_eq_zero (by omega);rw[qt_nil];simp
 | succ n ih =>
  intro w l h
  match l,h with
  | [],_=>rw[qt_nil];simp
  | c::r,h =>
   have hr:r.length≤n:=by simp at h;omega
   by_cases hc:crlf (c::r)=true
   ·obtain⟨r',hr'⟩:=crlf_iff.1 hc;obtain⟨rfl,rfl⟩:=List.cons.inj hr';rw[qt_crlf];have:=ih 0 r' (by simp at hr;omega);simp;omega
   ·have hcf:crlf (c::r)=false:=by simpa using hc
    have hf:=form_len c (zas r);by_cases h2:lim (zas r)<w+(form c (zas r)).length
    ·rw[qt_soft hcf h2];have:=ih (form c (zas r)).length r hr;simp;omega
    ·rw[qt_on hcf h2];have:=ih (w+(form c (zas r)).length) r hr;simp;omega
theorem qt_len(w:Nat)(l:List UInt8):(qt w l).length≤6*l.length:=qt_len_n l.length w l lR
end qu
namespace qu
open Go.RowKit
def sz(v:Value):Nat:=match v with
 | .string s=>s.size
 | _=>0
end qu
end Go.Proofs.YtmnflpmfngjllaaGreatDoor
