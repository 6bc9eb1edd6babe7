/-
  FnReplayCardSaid
-/
import Derived.Test.YtmnflpmfngjllaaGreatDoorPkav
import Derived.Deep.RegionWith
import Derived.LaidEql
import Derived.Stop.Asserts
import Derived.RowKitTokens
set_option maxHeartbeats 16000000
set_option maxRecDepth 100000
set_option linter.unusedVariables false
namespace Go.Proofs.YtmnflpmfngjllaaGreatDoor
namespace lg
open Go.ChangeShapes Go.WideShapes Go.ChangeAt Go.RowKit Go.Deep Go.Joins
def app1(r:Int)(d:ByteArray)(s:Int)(x:ByteArray):Value:=if r<(d.size:Int)+7+x.size then RV r d s 7 else RV r (d++fr x) s 0
def app(r:Int)(d:ByteArray)(s:Int)(x:ByteArray):Value :=
 if 65536<x.size then RV 0 ⟨#[]⟩ 0 2 else if ok r d.size s=false then RV 0 ⟨#[]⟩ 0 1 else if 1≤x.size∧x.size≤20000 then app1 r d s x else RV r d s 4
theorem isLen_any(n:Int)(w:World):Calls Tryz.prog 85 #[.int .i64 n] w λe w'=>e=.returned (.bool (decide (1≤n∧n≤20000)))∧w'=w:=by
 by_cases h0:1≤n
 ·by_cases h1:n≤20000
  ·rw[decide_eq_true ⟨h0,h1⟩];go_enter Tryz.func85,Tryz.ntmps85;go_wp2;go_ret;exact⟨rfl,rfl⟩
  ·rw[decide_eq_false (by omega)];go_enter Tryz.func85,Tryz.ntmps85;go_wp2;go_ret;exact⟨rfl,rfl⟩
 ·rw[decide_eq_false (by omega)];go_enter Tryz.func85,Tryz.ntmps85;go_wp2;go_ret;exact⟨rfl,rfl⟩
theorem impl_app(r:Int)(d:ByteArray)(s:Int)(x:ByteArray)(w:World)(hr:In r)(hd:d.size≤1048576)(hs:In s)(hx:x.size≤1048576) :
  Calls Tryz.prog 64 #[LV r d s,.string x] w λe w'=>e=.returned (app r d s x)∧Below w.heap.size w w':=by
 obtain⟨A1,R1,b1⟩:=two_new w 24 r d s;have HO:=λW=>impl_ok r d s W hr (Nat.le_trans hd (by unfold maxLen;omega)) hs
 have HP:=λW=>zcY r d s W hd
 have HN:=λW=>isLen_any x.size W
 unfold app LV;have HP':Hid _:=HP;clear HP;by_cases h0:65536<x.size
 ·rw[if_pos h0];unfold RV LV;clear HO HN HP';go_enter Tryz.func64,Tryz.ntmps64;go_wp2;refine bodyPost_ret (v:=.tuple #[.agg #[.int .i64 0,.string ⟨#[]⟩,.int .i64 0],.int .i64 2]) (by simp[results,Tryz.results64,go_sem]) rfl ⟨rfl,b1⟩
 rw[if_neg h0];by_cases ho:ok r d.size s=false
 ·rw[ho] at HO;rw[if_pos ho];have HO':Hid _:=HO;clear HO ho hr hs HN HP';unfold RV LV;go_enter Tryz.func64,Tryz.ntmps64
  go_wp2_with fail
  generalize(w.alloc (.cells #[.int .i64 r,.string d,.int .i64 s] 24)).alloc (.cells #[.int .i64 0,.string ⟨#[]⟩,.int .i64 0] 24)=w1 at A1 R1 b1 ⊢;refine(HO'.out w1).mono ?_;rintro e w3 ⟨rfl,k2⟩;have R3:=R1.keep k2;have b3:=b1.trans (k2.mono b1.size);clear A1 R1 k2 b1;have r0:=R3.c0;have r1:=R3.c1';have r2:=R3.c2';have f0:=R3.f 0;have f1:=R3.f 1;have f2:=R3.f 2;go_wp2;have A5:=R3.put (a':=.int .i64 0) (b':=.string ⟨#[]⟩) (c':=.int .i64 0);have b5:=zbr (g:=w.heap.size+1) (a:=.int .i64 0) (b:=.string ⟨#[]⟩) (c:=.int .i64 0) b3 (by omega);change bodyPost _ _ _ _ _ (lg.put w3 (w.heap.size+1) (.int .i64 0) (.string ⟨#[]⟩) (.int .i64 0));generalize lg.put _ _ _ _ _=W5 at A5 b5 ⊢;have d0:=A5.c0;have d1:=A5.c1;have d2:=A5.c2;exact bodyPost_ret (v:=.tuple #[.agg #[.int .i64 0,.string ⟨#[]⟩,.int .i64 0],.int .i64 1]) (by simp[results,Tryz.results64,go_sem,d0,d1,d2]) rfl ⟨rfl,b5⟩
 have ho1:ok r d.size s=true:=by simpa using ho
 rw[if_neg ho];rw[ho1] at HO;have ho2:=of_decide_eq_true ho1;have HO':Hid _:=HO;clear HO ho ho1 hr hs;by_cases h1:1≤x.size∧x.size≤20000
 ·rw[if_pos h1];rw[decide_eq_true (show 1≤(x.size:Int)∧(x.size:Int)≤20000 from by omega)] at HN;have HN':Hid _:=HN;clear HN;obtain⟨h11,h12⟩:=h1;unfold app1;by_cases h2:r<(d.size:Int)+7+x.size
  ·rw[if_pos h2];unfold RV LV;go_enter Tryz.func64,Tryz.ntmps64
   go_wp2_with fail
   generalize(w.alloc (.cells #[.int .i64 r,.string d,.int .i64 s] 24)).alloc (.cells #[.int .i64 0,.string ⟨#[]⟩,.int .i64 0] 24)=w1 at A1 R1 b1 ⊢;refine(HO'.out w1).mono ?_;rintro e w2 ⟨rfl,k2⟩;have A2:=A1.keep k2;have R2:=R1.keep k2;have b2:=b1.trans (k2.mono b1.size);clear A1 R1 k2 b1;have a0:=A2.c0;have a1:=A2.c1;have a2:=A2.c2;have a1':=A2.c1';have a2':=A2.c2'
   go_wp2_with fail
   refine(HN'.out w2).mono ?_;rintro e w3 ⟨rfl,rfl⟩
   go_wp2_with fail
   refine(HP'.out w3).mono ?_;rintro e w4 ⟨rfl,k3⟩;unfold LV;have R3:=R2.keep k3;have b3:=b2.trans (k3.mono b2.size);clear A2 R2 b2 a0 a1 a2 a1' a2' k3;have r0:=R3.c0;have r1:=R3.c1';have r2:=R3.c2';have f0:=R3.f 0;have f1:=R3.f 1;have f2:=R3.f 2;go_wp2;have A5:=R3.put (a':=.int .i64 r) (b':=.string d) (c':=.int .i64 s);have b5:=zbr (g:=w.heap.size+1) (a:=.int .i64 r) (b:=.string d) (c:=.int .i64 s) b3 (by omega);change bodyPost _ _ _ _ _ (lg.put w4 (w.heap.size+1) (.int .i64 r) (.string d) (.int .i64 s));generalize lg.put _ _ _ _ _=W5 at A5 b5 ⊢;have d0:=A5.c0;have d1:=A5.c1;have d2:=A5.c2;exact bodyPost_ret (v:=.tuple #[.agg #[.int .i64 r,.string d,.int .i64 s],.int .i64 7]) (by simp[results,Tryz.results64,go_sem,d0,d1,d2]) rfl ⟨rfl,b5⟩
  ·rw[if_neg h2];have HT:=λW=>recordText_any x W h12
   have hfs:=zbA x;generalize fr x=f at HT hfs ⊢;have HT':Hid _:=HT;have m1:(9223372036854775807<d.size+f.size)=False:=eq_false (by omega);clear HT;unfold RV LV;clear hfs HP';go_enter Tryz.func64,Tryz.ntmps64
   go_wp2_with fail
   generalize(w.alloc (.cells #[.int .i64 r,.string d,.int .i64 s] 24)).alloc (.cells #[.int .i64 0,.string ⟨#[]⟩,.int .i64 0] 24)=w1 at A1 R1 b1 ⊢;refine(HO'.out w1).mono ?_;rintro e w2 ⟨rfl,k2⟩;have A2:=A1.keep k2;have R2:=R1.keep k2;have b2:=b1.trans (k2.mono b1.size);clear A1 R1 k2 b1;have a0:=A2.c0;have a1:=A2.c1;have a2:=A2.c2;have a1':=A2.c1';have a2':=A2.c2'
   go_wp2_with fail
   refine(HN'.out w2).mono ?_;rintro e w3 ⟨rfl,rfl⟩;have HA3:=hD A2;have HR3:=hD R2;have HB3:=hD b2;clear A2 R2 b2;have g1:=HA3.out.f 1
   go_wp2_with fail
   go_region_with (go_at_call 105;refine(HT'.out _).mono ?_;rintro e w4 ⟨rfl,k4⟩;have A4:B3 w4 w.heap.size 24 (.int .i64 r) (.string d) (.int .i64 s):=B3.keep (w:=w3.drew) HA3.out k4;have HR4:Hid (B3 w4 (w.heap.size+1) 24 (.int .i64 0) (.string ⟨#[]⟩) (.int .i64 0)):=B3.keep (w:=w3.drew) HR3.out k4;have HB4:Hid (Below w.heap.size w w4):=HB3.out.drew.trans (k4.mono HB3.out.size);have y0:=A4.c0;have y1:=A4.c1;have y1':=A4.c1';have y2:=A4.c2;have y2':=A4.c2';have z1:=A4.f 1;have v0:=HR4.out.c0;have v1:=HR4.out.c1';have v2:=HR4.out.c2';have v3:=HR4.out.f 0;have v4:=HR4.out.f 1;have v5:=HR4.out.f 2;clear A4 k4)
   all_goals (try go_wp2)
   all_goals
    have A5:=(HR4.out.other (g':=w.heap.size) 1 (.string (d++f)) (by omega)).put (a':=.int .i64 r) (b':=.string (d++f)) (c':=.int .i64 s);have b5:=zbr (g:=w.heap.size+1) (a:=.int .i64 r) (b:=.string (d++f)) (c:=.int .i64 s) (HB4.out.setCell (p:=⟨w.heap.size,1,none⟩) lR (.string (d++f))) (by omega);change bodyPost _ _ _ _ _ (lg.put (w4.setCell ⟨w.heap.size,1,none⟩ (.string (d++f))) (w.heap.size+1) (.int .i64 r) (.string (d++f)) (.int .i64 s));generalize lg.put _ _ _ _ _=W5 at A5 b5 ⊢;have d0:=A5.c0;have d1:=A5.c1;have d2:=A5.c2;exact bodyPost_ret (v:=.tuple #[.agg #[.int .i64 r,.string (d++f),.int .i64 s],.int .i64 0]) (by simp[results,Tryz.results64,go_sem,d0,d1,d2]) rfl ⟨rfl,b5⟩
 ·rw[if_neg h1];rw[decide_eq_false (show¬(1≤(x.size:Int)∧(x.size:Int)≤20000) from by omega)] at HN;have HN':Hid _:=HN;clear HN h1;unfold RV LV;go_enter Tryz.func64,Tryz.ntmps64
  go_wp2_with fail
  generalize(w.alloc (.cells #[.int .i64 r,.string d,.int .i64 s] 24)).alloc (.cells #[.int .i64 0,.string ⟨#[]⟩,.int .i64 0] 24)=w1 at A1 R1 b1 ⊢;refine(HO'.out w1).mono ?_;rintro e w2 ⟨rfl,k2⟩;have A2:=A1.keep k2;have R2:=R1.keep k2;have b2:=b1.trans (k2.mono b1.size);clear A1 R1 k2 b1;have a0:=A2.c0;have a1:=A2.c1;have a2:=A2.c2;have a1':=A2.c1';have a2':=A2.c2'
  go_wp2_with fail
  refine(HN'.out w2).mono ?_;rintro e w3 ⟨rfl,rfl⟩
  go_wp2_with fail
  refine(HP'.out w3).mono ?_;rintro e w4 ⟨rfl,k3⟩;unfold LV;have R3:=R2.keep k3;have b3:=b2.trans (k3.mono b2.size);clear A2 R2 b2 a0 a1 a2 a1' a2' k3;have r0:=R3.c0;have r1:=R3.c1';have r2:=R3.c2';have f0:=R3.f 0;have f1:=R3.f 1;have f2:=R3.f 2;go_wp2;have A5:=R3.put (a':=.int .i64 r) (b':=.string d) (c':=.int .i64 s);have b5:=zbr (g:=w.heap.size+1) (a:=.int .i64 r) (b:=.string d) (c:=.int .i64 s) b3 (by omega);change bodyPost _ _ _ _ _ (lg.put w4 (w.heap.size+1) (.int .i64 r) (.string d) (.int .i64 s));generalize lg.put _ _ _ _ _=W5 at A5 b5 ⊢;have d0:=A5.c0;have d1:=A5.c1;have d2:=A5.c2;exact bodyPost_ret (v:=.tuple #[.agg #[.int .i64 r,.string d,.int .i64 s],.int .i64 4]) (by simp[results,Tryz.results64,go_sem,d0,d1,d2]) rfl ⟨rfl,b5⟩
theorem l08Append_any(r:Int)(d:ByteArray)(s:Int)(x:ByteArray)(w:World)(hd:d.size≤1048576)(hr:In r)(hx:x.size≤20000) :
  Calls Tryz.prog 41 #[LV r d s,.string x] w λe w'=>e=.returned (app1 r d s x)∧Below w.heap.size w w':=by
 obtain⟨A1,R1,b1⟩:=two_new w 24 r d s;have HT:=λW=>l08Frame_any x W hx
 have hfs:=zbA x;have hap:app1 r d s x=if r<(d.size:Int)+7+x.size then RV r d s 7 else RV r (d++fr x) s 0:=rfl
 rw[hap];clear hap;generalize fr x=f at HT hfs ⊢;have HT':Hid _:=HT;have m1:(9223372036854775807<d.size+f.size)=False:=eq_false (by omega);have h2':(r<(d.size:Int)+7+x.size)=(r<(d.size:Int)+f.size):=propext ⟨λh=>by omega,λh=>by omega⟩;simp only[h2'];clear HT h2';unfold LV;by_cases h2:r<(d.size:Int)+f.size
 ·rw[if_pos h2];unfold RV LV;go_enter Tryz.func41,Tryz.ntmps41
  go_wp2_with fail
  generalize(w.alloc (.cells #[.int .i64 r,.string d,.int .i64 s] 24)).alloc (.cells #[.int .i64 0,.string ⟨#[]⟩,.int .i64 0] 24)=w1 at A1 R1 b1 ⊢;refine(HT'.out w1).mono ?_;rintro e w3 ⟨rfl,k2⟩;have A2:=A1.keep k2;have R3:=R1.keep k2;have b3:=b1.trans (k2.mono b1.size);clear A1 R1 k2 b1;have a0:=A2.c0;have a1:=A2.c1;have a2:=A2.c2;have a1':=A2.c1';have a2':=A2.c2';have r0:=R3.c0;have r1:=R3.c1';have r2:=R3.c2';have f0:=R3.f 0;have f1:=R3.f 1;have f2:=R3.f 2;go_wp2;have A5:=R3.put (a':=.int .i64 r) (b':=.string d) (c':=.int .i64 s);have b5:=zbr (g:=w.heap.size+1) (a:=.int .i64 r) (b:=.string d) (c:=.int .i64 s) b3 (by omega);change bodyPost _ _ _ _ _ (lg.put w3 (w.heap.size+1) (.int .i64 r) (.string d) (.int .i64 s));generalize lg.put _ _ _ _ _=W5 at A5 b5 ⊢;have d0:=A5.c0;have d1:=A5.c1;have d2:=A5.c2;exact bodyPost_ret (v:=.tuple #[.agg #[.int .i64 r,.string d,.int .i64 s],.int .i64 7]) (by simp[results,Tryz.results41,go_sem,d0,d1,d2]) rfl ⟨rfl,b5⟩
 ·rw[if_neg h2];unfold RV LV;go_enter Tryz.func41,Tryz.ntmps41
  go_wp2_with fail
  generalize(w.alloc (.cells #[.int .i64 r,.string d,.int .i64 s] 24)).alloc (.cells #[.int .i64 0,.string ⟨#[]⟩,.int .i64 0] 24)=w1 at A1 R1 b1 ⊢;refine(HT'.out w1).mono ?_;rintro e w4 ⟨rfl,k2⟩;have A2:=A1.keep k2;have R3:=R1.keep k2;have b3:=b1.trans (k2.mono b1.size);clear A1 R1 k2 b1;have a0:=A2.c0;have a1:=A2.c1;have a2:=A2.c2;have a1':=A2.c1';have a2':=A2.c2';have g1:=A2.f 1;have r0:=R3.c0;have r1:=R3.c1';have r2:=R3.c2';have f0:=R3.f 0;have f1:=R3.f 1;have f2:=R3.f 2;go_wp2;have A5:=(R3.other (g':=w.heap.size) 1 (.string (d++f)) (by omega)).put (a':=.int .i64 r) (b':=.string (d++f)) (c':=.int .i64 s);have b5:=zbr (g:=w.heap.size+1) (a:=.int .i64 r) (b:=.string (d++f)) (c:=.int .i64 s) (b3.setCell (p:=⟨w.heap.size,1,none⟩) lR (.string (d++f))) (by omega);change bodyPost _ _ _ _ _ (lg.put (w4.setCell ⟨w.heap.size,1,none⟩ (.string (d++f))) (w.heap.size+1) (.int .i64 r) (.string (d++f)) (.int .i64 s));generalize lg.put _ _ _ _ _=W5 at A5 b5 ⊢;have d0:=A5.c0;have d1:=A5.c1;have d2:=A5.c2;exact bodyPost_ret (v:=.tuple #[.agg #[.int .i64 r,.string (d++f),.int .i64 s],.int .i64 0]) (by simp[results,Tryz.results41,go_sem,d0,d1,d2]) rfl ⟨rfl,b5⟩
end lg
namespace er
open Go.RowKit Go.Extern.Stop Go.Stop Go.Extern
def FV(p:Int)(v:Value):Value:=.iface 87 (.agg #[.int .i64 p,v])
def EV(a:Addr):Value:=.iface 185 (.pointer (some a))
theorem isTypeOf(v:Value)(w:World):(Extern.ReflectliteType.typeOf #[.iface 185 v]).run Tryz.prog w=.ok (.iface 152 (.agg #[.pointer (some ⟨2,185,none⟩)])) w:=by kernel_rfl
def cmpr:Array Value→Sem Value:=Extern.ReflectliteType.method λt=>do Go.Extern.Rtype.noPackHeld "Comparable" t;pure (.bool (←typeInfo t).comparable)
theorem isComparable(w:World):(cmpr #[.agg #[.pointer (some ⟨2,185,none⟩)]]).run Tryz.prog w=.ok (.bool true) w:=by kernel_rfl
theorem zdq(v:Value)(w:World):(Go.method 320 152 v "Comparable").run Tryz.prog w=.ok (173,v) w:=by kernel_rfl
theorem isComp:(Tryz.prog.info? 185).map (·.comparable)=some true:=by kernel_rfl
theorem isSize:(Tryz.prog.info? 208).map (·.size)=some 1:=by kernel_rfl
theorem noIsE(v:Value)(xT:TypeId)(w:World):(Instr.typeAssert (.iface 185 v) xT 154 true).run Tryz.prog w=.ok (.tuple #[.nilIface,.bool false]) w:=run_typeAssert_lacksB Tryz.underlying154 (by kernel_rfl) (by kernel_rfl) v xT w
theorem noUnwrapE(v:Value)(xT:TypeId)(w:World):(Instr.typeAssert (.iface 185 v) xT 157 true).run Tryz.prog w=.ok (.tuple #[.nilIface,.bool false]) w:=run_typeAssert_lacksB Tryz.underlying157 (by kernel_rfl) (by kernel_rfl) v xT w
theorem noUnwrapsE(v:Value)(xT:TypeId)(w:World):(Instr.typeAssert (.iface 185 v) xT 159 true).run Tryz.prog w=.ok (.tuple #[.nilIface,.bool false]) w:=run_typeAssert_lacksB Tryz.underlying159 (by kernel_rfl) (by kernel_rfl) v xT w
theorem noIsW(v:Value)(xT:TypeId)(w:World):(Instr.typeAssert (.iface 87 v) xT 154 true).run Tryz.prog w=.ok (.tuple #[.nilIface,.bool false]) w:=run_typeAssert_lacksB Tryz.underlying154 (by kernel_rfl) (by kernel_rfl) v xT w
theorem hasUnwrapW(v:Value)(xT:TypeId)(w:World):(Instr.typeAssert (.iface 87 v) xT 157 true).run Tryz.prog w=.ok (.tuple #[.iface 87 v,.bool true]) w:=run_typeAssert_hasB Tryz.underlying157 (by kernel_rfl) v xT w
theorem methodUnwrap(v:Value)(w:World):(Go.method 320 87 v "Unwrap").run Tryz.prog w=.ok (169,v) w:=by kernel_rfl
theorem unwrap_any(p:Int)(v:Value)(w:World):Calls Tryz.prog 169 #[.agg #[.int .i64 p,v]] w λe w'=>e=.returned v∧Below w.heap.size w w':=by
 go_enter Tryz.func169,Tryz.ntmps169;go_wp2;go_ret;exact⟨rfl,(Below.refl _ w).alloc lR _⟩
theorem is_nil(b:Addr)(w:World) :
  Calls Tryz.prog 48 #[.nilIface,EV b] w λe w'=>e=.returned (.bool false)∧Below w.heap.size w w':=by
 have hn:=run_eql_iface_nil_left (P:=Tryz.prog) w 185 (.pointer (some b)) Tryz.underlying58;unfold EV;go_enter Tryz.func48,Tryz.ntmps48;go_wp2;go_ret;exact⟨rfl,Below.refl _ _⟩
theorem is_same(p:Int)(b:Addr)(w:World) :
  Calls Tryz.prog 48 #[FV p (EV b),EV b] w λe w'=>e=.returned (.bool true)∧Below w.heap.size w w':=by
 obtain⟨i,hi,hcmp⟩:=Option.map_eq_some_iff.1 isComp;obtain⟨j,hj,hjs⟩:=Option.map_eq_some_iff.1 isSize;have h8:=@run_callFunc_extern Tryz.prog 88 _ Extern.ReflectliteType.typeOf Tryz.func88 (by kernel_rfl) (by kernel_rfl) (by kernel_rfl) (by kernel_rfl);have h32:=@run_callFunc_extern Tryz.prog 173 _ cmpr Tryz.func173 (by kernel_rfl) (by kernel_rfl) (by kernel_rfl) (by kernel_rfl);have tT:=isTypeOf;have cT:=isComparable;have mR:=zdq;have nE:=noIsE;have uE:=noUnwrapE;have vE:=noUnwrapsE;have nW:=noIsW;have uW:=hasUnwrapW;have mU:=methodUnwrap;have HU:Hid (∀w,Calls Tryz.prog 169 #[.agg #[.int .i64 p,.iface 185 (.pointer (some b))]] w λe w'=>e=.returned (.iface 185 (.pointer (some b)))∧Below w.heap.size w w'):=λw=>unwrap_any p _ w
 have hty:=λw=>run_eql_iface_types (P:=Tryz.prog) 87 185 (.agg #[.int .i64 p,.iface 185 (.pointer (some b))]) (.pointer (some b)) Tryz.underlying58 (by decide) w
 have heq:=λw=>run_eql_iface_ptr_same (P:=Tryz.prog) w b Tryz.underlying58 Tryz.underlying185 hi hcmp hj
 unfold FV EV;go_enter Tryz.func48,Tryz.ntmps48;go_wp2;refine wp_loop_rounds 2 ?_;rw[rounds_succ]
 go_wp2_with (go_at_call 169;refine(HU.out _).mono ?_;rintro e w' ⟨rfl,hb⟩)
 rw[rounds_succ];go_wp2;go_ret;exact⟨rfl,hb⟩
theorem is_other(p:Int)(a b:Addr)(ca cb:Array Value)(ta tb:TypeId)(w:World)(hne:a≠b)(ha:w.heap[a.block]?=some (.cells ca ta (0,0)))(hb:w.heap[b.block]?=some (.cells cb tb (0,0))) :
  Calls Tryz.prog 48 #[FV p (EV a),EV b] w λe w'=>e=.returned (.bool false)∧Below w.heap.size w w':=by
 obtain⟨i,hi,hcmp⟩:=Option.map_eq_some_iff.1 isComp;obtain⟨j,hj,hjs⟩:=Option.map_eq_some_iff.1 isSize;have h8:=@run_callFunc_extern Tryz.prog 88 _ Extern.ReflectliteType.typeOf Tryz.func88 (by kernel_rfl) (by kernel_rfl) (by kernel_rfl) (by kernel_rfl);have h32:=@run_callFunc_extern Tryz.prog 173 _ cmpr Tryz.func173 (by kernel_rfl) (by kernel_rfl) (by kernel_rfl) (by kernel_rfl);have tT:=isTypeOf;have cT:=isComparable;have mR:=zdq;have nE:=noIsE;have uE:=noUnwrapE;have vE:=noUnwrapsE;have nW:=noIsW;have uW:=hasUnwrapW;have mU:=methodUnwrap;have HU:Hid (∀w,Calls Tryz.prog 169 #[.agg #[.int .i64 p,.iface 185 (.pointer (some a))]] w λe w'=>e=.returned (.iface 185 (.pointer (some a)))∧Below w.heap.size w w'):=λw=>unwrap_any p _ w
 have hty:=λw=>run_eql_iface_types (P:=Tryz.prog) 87 185 (.agg #[.int .i64 p,.iface 185 (.pointer (some a))]) (.pointer (some b)) Tryz.underlying58 (by decide) w
 have HEQ0:=λ(w':World) (hbw:Below w.heap.size w w')=>run_eql_iface_ptr_other (P:=Tryz.prog) w' Tryz.underlying58 Tryz.underlying185 hi hcmp hj (by rw[hjs];decide) hne ((hbw.block a.block (Array.getElem?_eq_some_iff.1 ha).1).trans ha) ((hbw.block b.block (Array.getElem?_eq_some_iff.1 hb).1).trans hb)
 have HEQ:Hid _:=HEQ0;clear HEQ0;clear ha hb;unfold FV EV;go_enter Tryz.func48,Tryz.ntmps48;go_wp2;refine wp_loop_rounds 2 ?_;rw[rounds_succ]
 go_wp2_with (go_at_call 169;refine(HU.out _).mono ?_;rintro e w' ⟨rfl,hb⟩)
 have heq:=HEQ.out w' hb;rw[rounds_succ];go_wp2;go_ret;exact⟨rfl,hb⟩
end er
namespace lg
open Go.RowKit
open er
theorem i64o(a b:Nat)(ha:a<4294967296)(hb:b<4294967296):bits .or .i64 (a:Int) (b:Int)=((a ||| b:Nat):Int):=by
 have hx:=Nat.or_lt_two_pow (n:=32) ha hb;show IntKind.i64.wrap ((BitVec.ofInt 64 (a:Int) ||| BitVec.ofInt 64 (b:Int)).toNat:Int)=_;rw[BitVec.toNat_or,ofInt_u64 a (by omega),ofInt_u64 b (by omega)];simp only[IntKind.wrap,IntKind.bits,IntKind.signed];simp;omega
theorem or_add(a:Nat)(b:UInt8)(ha:a<16777216):bits .or .i64 ((a:Int)*256) (b.toNat:Int)=((a*256+b.toNat:Nat):Int):=by
 have hb:=b.toNat_lt;have h:(a*256) ||| b.toNat=a*256+b.toNat:=by
  have:=Nat.two_pow_add_eq_or_of_lt (i:=8) (b:=b.toNat) (by omega) a;rw[Nat.mul_comm a 256];exact this.symm
 rw[←h,←i64o (a*256) b.toNat (by omega) (by omega)];rfl
theorem zdm(s:ByteArray)(w:World)(hs:s.size≤3) :
  Calls Tryz.prog 84 #[.string s] w λe w'=>e=.returned (.int .i64 (numB s))∧w'=w:=by
 go_enter Tryz.func84,Tryz.ntmps84;go_wp2
 go_loop [3,7] (λn i=>∃k:Nat,k≤s.size∧i=.int .i64 k∧n=.int .i64 (num (s.data.toList.take k):Nat)) (λ_ i=>s.size-(intOf i).toNat)
 case atStart=>exact⟨0,Nat.zero_le _,rfl,rfl⟩
 case round =>
  obtain⟨k,hk,rfl,rfl⟩:=hrel;have hq:=zbG (s.data.toList.take k);have hlen:(s.data.toList.take k).length=k:=by rw[List.length_take];exact Nat.min_eq_left hk
  rw[hlen] at hq;by_cases hlt:k<s.size
  ·have hst:=zck s.data.toList k hlt;have hq2:=Nat.lt_of_lt_of_le hq (Nat.pow_le_pow_right (n:=256) (by omega) (show k≤3 by omega));have hb':(s[k]).toNat<256:=(s[k]).toNat_lt;have HO:=hD (or_add (num (s.data.toList.take k)) (s[k]) hq2);have HS:=hD hst;clear hst;generalize num (s.data.toList.take k)=q at *;go_wp2
   go_round
   case rel=>exact⟨k+1,by omega,by go_num,by rw[HS.out];exact congrArg (Value.int .i64) HO.out⟩
   case measure=>simp[intOf];omega
  ·have hkn:k=s.size:=by omega
   subst hkn;have e:s.data.toList.take s.size=s.data.toList:=List.take_length;rw[e];have HN:Hid (num s.data.toList=numB s):=rfl;rw[HN.out];go_wp2;go_ret;exact⟨rfl,rfl⟩
theorem zcF(s:ByteArray)(w:World)(hs:s.size≤3) :
  Calls Tryz.prog 107 #[.string s] w λe w'=>e=.returned (.int .i64 (numB s))∧w'=w:=by
 go_enter Tryz.func107,Tryz.ntmps107;go_wp2
 go_loop [3,4] (λn i=>∃k:Nat,k≤s.size∧i=.int .i64 k∧n=.int .i64 (num (s.data.toList.take k):Nat)) (λ_ i=>s.size-(intOf i).toNat)
 case atStart=>exact⟨0,Nat.zero_le _,rfl,rfl⟩
 case round =>
  obtain⟨k,hk,rfl,rfl⟩:=hrel;have hq:=zbG (s.data.toList.take k);have hlen:(s.data.toList.take k).length=k:=by rw[List.length_take];exact Nat.min_eq_left hk
  rw[hlen] at hq;by_cases hlt:k<s.size
  ·have hst:=zck s.data.toList k hlt;have hq2:=Nat.lt_of_lt_of_le hq (Nat.pow_le_pow_right (n:=256) (by omega) (show k≤3 by omega));have hb:=(s.data.toList[k]).toNat_lt;have hb':(s[k]).toNat<256:=(s[k]).toNat_lt;have HS:=hD hst;clear hst hb;generalize num (s.data.toList.take k)=q at *;go_wp2
   go_round
   case rel=>exact⟨k+1,by omega,by go_num,by rw[HS.out];rfl⟩
   case measure=>simp[intOf];omega
  ·have hkn:k=s.size:=by omega
   subst hkn;have e:s.data.toList.take s.size=s.data.toList:=List.take_length;rw[e];have HN:Hid (num s.data.toList=numB s):=rfl;rw[HN.out];go_wp2;go_ret;exact⟨rfl,rfl⟩
theorem below_drewN{B:Nat}{a w:World}(h:Below B a w)(n:Nat):Below B a (w.drewN n):=⟨h.os,h.tape,h.output,h.size,h.block⟩
structure Errs (w:World) (c b:Addr) (ca cb:Array Value) (ta tb:TypeId):Prop where
 hc:w.cell? ⟨0,0,none⟩=some (EV c)
 hw:w.cell? ⟨1,0,none⟩=some (EV b)
 hne:c≠b
 ha:w.heap[c.block]?=some (.cells ca ta (0,0))
 hb:w.heap[b.block]?=some (.cells cb tb (0,0))
theorem Errs.keep{w w':World}{c b:Addr}{ca cb:Array Value}{ta tb:TypeId}(h:Errs w c b ca cb ta tb)(k:Below w.heap.size w w'):Errs w' c b ca cb ta tb :=
 ⟨(k.cell (p:=⟨0,0,none⟩) (World.block_lt_of_cell? w _ h.hc)).trans h.hc,(k.cell (p:=⟨1,0,none⟩) (World.block_lt_of_cell? w _ h.hw)).trans h.hw,h.hne,(k.block _ (Array.getElem?_eq_some_iff.1 h.ha).1).trans h.ha,(k.block _ (Array.getElem?_eq_some_iff.1 h.hb).1).trans h.hb⟩
def errv(c b:Addr)(code:Nat):Value:=if code=0 then .nilIface else if code=18 then EV c else EV b
theorem firstRecord_any(T:ByteArray)(w:World)(c b:Addr)(ca cb:Array Value)(ta tb:TypeId)(hT:T.size≤1048576)(hE:Errs w c b ca cb ta tb) :
  Calls Tryz.prog 46 #[.string T] w λe w'=>e=.returned (.tuple #[.string (nextT T).2,errv c b (nextT T).1])∧Below w.heap.size w w':=by
 have hc:=hE.hc;have hw:=hE.hw;have HE:=hD hE;have hn0:nextT T=if T.size<7 then(18,nt) else if numB (T.extract 0 3)=0∨20000<numB (T.extract 0 3) then(8,nt) else if T.size-7<numB (T.extract 0 3) then(18,nt) else
  if T.extract 3 7≠sb (T.extract 0 3) ((T.extract 7 T.size).extract 0 (numB (T.extract 0 3))) then(8,nt) else(0,(T.extract 7 T.size).extract 0 (numB (T.extract 0 3))):=rfl
 rw[hn0];clear hn0;by_cases h1:T.size<7
 ·rw[if_pos h1];unfold errv EV nt;simp only[if_neg (show¬(18:Nat)=0 by decide),if_pos];unfold EV at hc hw;go_enter Tryz.func46,Tryz.ntmps46
  go_wp2_with fail
  go_quiet (fail)
  go_wp2;go_ret2;exact⟨rfl,below_drewN bR nq⟩
 rw[if_neg h1];have hL3:(T.extract 0 3).size=3:=by rw[zbu (by omega) (by omega)]
 have HF0:=λW=>zdm (T.extract 0 3) W (by omega)
 have hlt:=zbG (T.extract 0 3).data.toList;have hlen3:(T.extract 0 3).data.toList.length=3:=hL3;rw[hlen3] at hlt;have hnlt:numB (T.extract 0 3)<16777216:=hlt;have HI0:=λW=>isLen_any (numB (T.extract 0 3)) W
 obtain⟨n,hn⟩:∃n,numB (T.extract 0 3)=n:=⟨_,rfl⟩
 have hsz7:(T.extract 7 T.size).size=T.size-7:=zbu (by omega) lR;rw[hn] at HF0 HI0 hnlt ⊢;have HF:Hid _:=HF0;clear HF0 hlt hlen3;by_cases h2:n=0∨20000<n
 ·rw[if_pos h2];rw[decide_eq_false (show¬(1≤(n:Int)∧(n:Int)≤20000) from by omega)] at HI0;have HI:Hid _:=HI0;clear HI0;unfold errv EV nt;simp only[if_neg (show¬(8:Nat)=0 by decide),if_neg (show¬(8:Nat)=18 by decide)];go_enter Tryz.func46,Tryz.ntmps46
  go_wp2_with fail
  go_quiet (fail)
  have k1:Below w.heap.size w (w.drewN nq):=below_drewN bR nq;generalize w.drewN nq=w1 at k1 ⊢
  go_wp2_with fail
  refine(HF.out w1).mono ?_;rintro e w2 ⟨rfl,rfl⟩
  go_wp2_with fail
  refine(HI.out w2).mono ?_;rintro e w3 ⟨rfl,rfl⟩;have hw3:=(HE.out.keep k1).hw;unfold EV at hw3
  go_wp2_with fail
  go_quiet (fail)
  go_wp2;go_ret2;exact⟨rfl,below_drewN k1 _⟩
 rw[if_neg h2];rw[decide_eq_true (show 1≤(n:Int)∧(n:Int)≤20000 from by omega)] at HI0;have HI:Hid _:=HI0;clear HI0;by_cases h3:T.size-7<n
 ·rw[if_pos h3];unfold errv EV nt;simp only[if_neg (show¬(18:Nat)=0 by decide),if_pos];go_enter Tryz.func46,Tryz.ntmps46
  go_wp2_with fail
  go_quiet (fail)
  have k1:Below w.heap.size w (w.drewN nq):=below_drewN bR nq;generalize w.drewN nq=w1 at k1 ⊢
  go_wp2_with fail
  refine(HF.out w1).mono ?_;rintro e w2 ⟨rfl,rfl⟩
  go_wp2_with fail
  refine(HI.out w2).mono ?_;rintro e w3 ⟨rfl,rfl⟩;have hw3:=(HE.out.keep k1).hc;unfold EV at hw3
  go_wp2_with fail
  go_quiet (fail)
  go_wp2;go_ret2;exact⟨rfl,below_drewN k1 _⟩
 rw[if_neg h3];have hX:((T.extract 7 T.size).extract 0 n).size=n:=by rw[zbu (by omega) (by omega)];omega
 have HR:Hid (∀W,Calls Tryz.prog 86 #[.string (T.extract 0 3),.string ((T.extract 7 T.size).extract 0 n)] W λe w'=>e=.returned (.string (sb (T.extract 0 3) ((T.extract 7 T.size).extract 0 n)))∧Below W.heap.size W w'):=λW=>zds _ _ W (by omega)
 obtain⟨S,hS⟩:∃S,sb (T.extract 0 3) ((T.extract 7 T.size).extract 0 n)=S:=⟨_,rfl⟩
 rw[hS] at HR ⊢;clear hS hX;by_cases h4:T.extract 3 7≠S
 ·rw[if_pos h4];have hne:=beq_eq_false_iff_ne.2 λe=>h4 (WideShapes.bytes_inj (by rw[←Lib.toList_data,←Lib.toList_data];exact e))
  clear h4;unfold errv EV nt;simp only[if_neg (show¬(8:Nat)=0 by decide),if_neg (show¬(8:Nat)=18 by decide)];go_enter Tryz.func46,Tryz.ntmps46
  go_wp2_with fail
  go_quiet (fail)
  have k1:Below w.heap.size w (w.drewN nq):=below_drewN bR nq;generalize w.drewN nq=w1 at k1 ⊢
  go_wp2_with fail
  refine(HF.out w1).mono ?_;rintro e w2 ⟨rfl,rfl⟩
  go_wp2_with fail
  refine(HI.out w2).mono ?_;rintro e w3 ⟨rfl,rfl⟩
  go_wp2_with fail
  refine(HR.out w3).mono ?_;rintro e w4 ⟨rfl,k4⟩;have k5:=k1.trans (k4.mono k1.size);have hw3:=(HE.out.keep k5).hw;unfold EV at hw3
  go_wp2_with fail
  go_quiet (fail)
  go_wp2;go_ret2;exact⟨rfl,below_drewN k5 _⟩
 ·have h5:=Classical.not_not.1 h4;rw[if_neg h4];have heq:((T.extract 3 7).toList == S.toList)=true:=by rw[h5];exact beq_self_eq_true _
  clear h4 h5;unfold errv;simp only[if_pos];go_enter Tryz.func46,Tryz.ntmps46
  go_wp2_with fail
  go_quiet (fail)
  have k1:Below w.heap.size w (w.drewN nq):=below_drewN bR nq;generalize w.drewN nq=w1 at k1 ⊢
  go_wp2_with fail
  refine(HF.out w1).mono ?_;rintro e w2 ⟨rfl,rfl⟩
  go_wp2_with fail
  refine(HI.out w2).mono ?_;rintro e w3 ⟨rfl,rfl⟩
  go_wp2_with fail
  refine(HR.out w3).mono ?_;rintro e w4 ⟨rfl,k4⟩;have k5:=k1.trans (k4.mono k1.size);go_wp2;go_ret2;exact⟨rfl,k5⟩
end lg
namespace lg
open Go.RowKit
open er
open ky (OwnT TextsAt own_texts)
theorem infoT:(Tryz.prog.info? 9).map (λi=>(i.zero,i.size,i.bytes))=some (some (.string ⟨#[]⟩),1,16):=by kernel_rfl
def fault(c b:Addr)(p code:Nat):Value:=if code=0 then .nilIface else FV p (errv c b code)
theorem recordsOf_any(t:ByteArray)(w:World)(c b:Addr)(ca cb:Array Value)(ta tb:TypeId)(ht:t.size≤1048576)(hE:Errs w c b ca cb ta tb) :
  Calls Tryz.prog 23 #[.string t] w λe w'=>(∃v,e=.returned (.tuple #[v,.int .i64 (recs t).2.1,fault c b (recs t).2.1 (recs t).2.2])∧OwnT w' w.heap.size v (recs t).1)∧Below w.heap.size w w':=by
 obtain⟨i0,hi,hz0,hz1,hz2⟩:=info_parts infoT;have HE:=hD hE;clear hE;obtain⟨RR,hRR⟩:∃R,recs t=R:=⟨_,rfl⟩
 have HRR:=hD hRR;rw[hRR];clear hRR;go_enter Tryz.func23,Tryz.ntmps23;go_wp2
 go_loopw [5,6] (λv i wr=>∃(p f:Nat) (acc:List ByteArray),p≤t.size∧i=.int .i64 p∧scan t f p acc=RR∧t.size-p<f∧acc.length≤p∧OwnT wr w.heap.size v acc∧Below w.heap.size w wr) (λ_ i _=>t.size-(intOf i).toNat)
 case atStart=>exact⟨0,t.size+1,[],Nat.zero_le _,rfl,HRR.out,by omega,Nat.le_refl _,World.ownsRow_nil _ _ _ _,Below.refl _ _⟩
 case round =>
  obtain⟨p,f,acc,hp,rfl,hsc,hf,hal,hown,hbw⟩:=hrel;have HSC:=hD hsc;clear hsc HRR;by_cases hlt:p<t.size
  ·have hlt':(p:Int)<(t.size:Int):=by omega
   have hNX:=next_eq (Nat.le_of_lt hlt);have HFR:Hid (∀W,Below w.heap.size w W→Calls Tryz.prog 46 #[.string (t.extract p t.size)] W λe w'=>e=.returned (.tuple #[.string (next t p).2,errv c b (next t p).1])∧Below W.heap.size W w'):=by
    intro W hW;have h1:=firstRecord_any (t.extract p t.size) W c b ca cb ta tb (by rw[zbu (by omega) lR];omega) (HE.out.keep hW);rw[hNX] at h1;exact h1
   clear hNX;by_cases hc0:(next t p).1=0
   ·obtain⟨g,hg,hsg⟩:=scan_step (acc:=acc) hlt hf hc0;have hok:=next_ok hc0;have HS2:=hD (hsg.symm.trans HSC.out);rw[hc0] at HFR;clear hsg HSC;obtain⟨x,hx⟩:∃x,(next t p).2=x:=⟨_,rfl⟩
    rw[hx] at HFR HS2 hok hg;clear hx hc0;unfold errv at HFR;simp only[if_pos] at HFR
    go_wp2_with fail
    refine(HFR.out wr hbw).mono ?_;rintro e w2 ⟨rfl,k2⟩;have own2:=ow.own_below hown k2;have b2:=hbw.trans (k2.mono hbw.size);clear hown hbw k2 HFR
    go_wp2_with fail
    refine(zbz x w2 (by omega)).mono ?_;rintro e w3 ⟨rfl,k3⟩;have own3:=ow.own_below own2 k3;have b3:=b2.trans (k3.mono b2.size);have hBs:=b3.size;clear own2 b2 k3
    go_wp2_with (at_builtin;refine wpList_append_own _ rfl _ _ 39 rfl w.heap.size 9 i0 (.string ⟨#[]⟩) 1 16 Tryz.underlying39 hi hz0 hz1 hz2 rfl (by decide) _ _ _ rfl (own3.alloc _) ⟨w3.heap.size,0,none⟩ 1 1 [.string x] rfl rfl (ow.zaI _ [.string x] _) (by intro u hu;simp at hu;subst hu;rfl) (by unfold maxLen;omega) (by omega) (by simp;omega) ?_;intro v' w4 hown4 hgrow4 hnil4)
    have hb4:=Below.grown (b3.alloc hBs _) hgrow4 (by simp;omega) (ow.zaN own3);have HA:Hid (Below w.heap.size w w4∧OwnT w4 w.heap.size v' (acc++[x])):=by
     refine⟨hb4,?_⟩;unfold OwnT;rw[List.length_append,List.map_append];exact hown4
    clear hb4 hown4 hgrow4 hnil4 own3 b3;go_wp2
    go_roundw
    case rel=>exact⟨p+7+x.size,g,acc++[x],by omega,by go_num,HS2.out,hg,by rw[List.length_append];simp only[List.length_singleton];omega,HA.out.2,HA.out.1⟩
    case measure=>simp[intOf];omega
   ·have hst:=zcQ (acc:=acc) hlt hf hc0;have hR:=HSC.out.symm.trans hst;have hnn:=next_none hc0;rw[hnn] at HFR;have hcd:=next_code t p;obtain⟨q,hq⟩:∃q,(next t p).1=q:=⟨_,rfl⟩
    rw[hq] at HFR hcd hc0 hR;clear HSC hst hq hnn;subst hR;obtain⟨E,hE2⟩:∃E:Addr,errv c b q=EV E:=by
     unfold errv;rw[if_neg hc0]
     split
     ·exact⟨_,rfl⟩
     ·exact⟨_,rfl⟩
    have HF:Hid (fault c b p q=.iface 87 (.agg #[.int .i64 p,.iface 185 (.pointer (some E))])):=by
     show fault c b p q=_;unfold fault;rw[if_neg hc0,hE2];rfl
    rw[hE2] at HFR;unfold EV nt at HFR;clear hE2 hcd
    go_wp2_with fail
    refine(HFR.out wr hbw).mono ?_;rintro e w2 ⟨rfl,k2⟩;have own2:=ow.own_below hown k2;have b2:=hbw.trans (k2.mono hbw.size);clear hown hbw k2 HFR;go_wp2
    go_ret3
    rw[HF.out];exact⟨⟨_,rfl,own2⟩,b2⟩
  ·have hR:=HSC.out.symm.trans (scan_end (by omega));subst hR;have HF:Hid (fault c b p 0=.nilIface):=rfl;go_wp2
   go_ret3
   rw[HF.out];exact⟨⟨_,rfl,hown⟩,hbw⟩
end lg
end Go.Proofs.YtmnflpmfngjllaaGreatDoor
