/- Texts of one proof, one behind the other: SB, SC, SZQ, PShelf, PJ, PK, PL, PM, PN, PO, SM, LA, LB. -/
import Derived.Test.YtfbbjiidccbaiaaGreatDoorQAB
import Derived.Deep.QuietTactic
import Derived.BigQuiet
import Derived.Outline
import Derived.StillTailTactics
import Derived.Shelf.Spec.TrailingZeros
import Derived.ChangeKeysEq
import Derived.Deep.MidRow
import Derived.Test.YtfbbjiidccbaiaaGreatDoorRows
import Derived.ProofKit
import Derived.LaidMore
import Derived.OpenShut
import Derived.Stop.Joined
import Derived.Carry
import Derived.Lib.LaidTab
import Derived.Shelf.Strings.Builder1
import Derived.Shelf.Strings.Builder2
import Derived.Shelf.Strings.BuilderF
import Derived.Shelf.Sort.Plain
import Derived.Shelf.Strings.Prefix
import Derived.Shelf.Bits.Mul64
import Derived.Shelf.Strings.Repeat
import Derived.Shelf.Slices.In.SortNone
import Derived.Test.YtfbbjiidccbaiaaGreatDoorProg
import Derived.Sort.Grow
import Derived.Sort.OwnSorted
import Derived.Laws.MakeOwn
import Derived.Test.YtfbbjiidccbaiaaGreatDoorQAA
import Derived.Laws.BitsAllLaws
import Derived.IntWalk
set_option maxRecDepth 100000
set_option maxHeartbeats 6400000
namespace Go.Proofs.YtfbbjiidccbaiaaGreatDoor
open Go.RowKit
theorem BU1 (x r:Nat)(hx:x<18446744073709551616):(bits BinOp.and IntKind.u64 ((x:Int) / 2 ^ r) 1 == 1)=x.testBit r:=by
 have e:(x:Int) / 2 ^ r=((x / 2 ^ r:Nat):Int):=by simp
 have hlt:x / 2 ^ r<18446744073709551616:=Nat.lt_of_le_of_lt (Nat.div_le_self _ _) hx;rw[e,show (1:Int)=((1:Nat):Int) from rfl,bits_and_u64_nat _ _ hlt (by decide),Nat.and_one_is_mod,Nat.testBit_eq_decide_div_mod_eq]
 have h2:x / 2 ^ r % 2=0\/x / 2 ^ r % 2=1:=by omega
 rcases h2 with h2|h2 <;> rw[h2] <;> rfl
theorem AO0 {a b:Int}(h:a=b):Ending.returned (.int .i64 a)=.returned (.int .i64 b):=by rw[h]
theorem BC3 {a b:Bool}(h:a=b):Ending.returned (.bool a)=.returned (.bool b):=by rw[h]
theorem AK2 (b o:Nat)(h:Hd)(q:Nat)(w:World)(a:DJ w b o h)(k:h.Ok)(hq:q<4096) :
  Calls Tryz.prog 106 #[.pointer (some ⟨b,o,none⟩),.int .i64 q] w λe w'=>e=.returned (.bool (h.isFree q))/\w'=w:=by
 have hc:=a.word k (show q / 64<64 by omega)
 obtain⟨x,hx⟩:∃x,x=h.word (q / 64):=⟨_,rfl⟩;have hlt:=k.lt (q / 64);rw[<-hx]at hc hlt;have hfr:h.isFree q=x.testBit (q % 64):=by rw[Hd.isFree,hx]
 rw[hfr];have hj64:(q:Int) / 64<64:=by omega
 clear a k hfr hx;go_enter Tryz.func106,Tryz.ntmps106;go_wp2;go_ret;exact⟨BC3 (BU1 x _ hlt),rfl⟩
theorem BT0 (b o:Nat)(h:Hd)(q:Int)(w:World)(a:DJ w b o h)(k:h.Ok) :
  Calls Tryz.prog 96 #[.pointer (some ⟨b,o,none⟩),.int .i64 q] w λe w'=>e=.returned (.bool (decide (1<=q/\h.has q.toNat)))/\w'=w:=by
 have hc:=a.count;have hcnt:=k.cnt;by_cases h1:q<1
 ·have hp:¬(1<=q/\h.has q.toNat):=by omega
  rw[decide_eq_false hp];have h2:decide (1<=q)=false:=decide_eq_false (by omega)
  clear a k hp;go_enter Tryz.func96,Tryz.ntmps96;go_wp2;go_ret;exact⟨rfl,rfl⟩
 ·obtain⟨n,rfl⟩:∃n:Nat,q=n:=⟨q.toNat,by omega⟩
  rw[Int.toNat_natCast];by_cases h2:h.count<n
  ·have hp:¬(1<=(n:Int)/\h.has n):=λe=>by have:=e.2.2.1;omega
   rw[decide_eq_false hp];obtain⟨c,hce⟩:∃c,c=h.count:=⟨_,rfl⟩;rw[<-hce]at hc h2;have h3:decide (n<=c)=false:=decide_eq_false (by omega)
   have h4:decide ((n:Int)<=c)=false:=decide_eq_false (by omega)
   have h5:1<=n:=by omega
   clear a k hp hce;go_enter Tryz.func96,Tryz.ntmps96;go_wp2;go_ret;exact⟨rfl,rfl⟩
  ·have HF:=yH (AK2 b o h n w a k (by omega))
   obtain⟨f,hf⟩:∃f,f=h.isFree n:=⟨_,rfl⟩;have hp:decide (1<=(n:Int)/\h.has n)=!f:=by
    have ht:(1<=(n:Int)/\h.has n) ↔ f=false:=⟨λe=>hf.trans e.2.2.2,λe=>⟨by omega,by omega,by omega,hf.symm.trans e⟩⟩
    rw[decide_eq_decide.2 ht];cases f <;> rfl
   rw[hp];rw[<-hf]at HF;obtain⟨c,hce⟩:∃c,c=h.count:=⟨_,rfl⟩;rw[<-hce]at hc h2;have h3:decide (n<=c)=true:=decide_eq_true (by omega)
   have h4:decide ((n:Int)<=c)=true:=decide_eq_true (by omega)
   have h5:1<=n:=by omega
   clear a k hp hce hf;go_enter Tryz.func96,Tryz.ntmps96;go_wp2_with fail;refine HF.out.mono ?_;rintro e w' ⟨rfl,hw⟩;subst w';go_wp2;go_ret;exact⟨rfl,rfl⟩
theorem AR1 (b o:Nat)(h:Hd)(w:World)(a:DJ w b o h)(k:h.Ok) :
  Calls Tryz.prog 149 #[.pointer (some ⟨b,o,none⟩)] w λe w'=>e=.returned (.int .i64 ((h.count / 64+1:Nat):Int))/\w'=w:=by
 have hc:=a.count;have hcnt:=k.cnt;obtain⟨c,hce⟩:∃c,c=h.count:=⟨_,rfl⟩;rw[<-hce]at hc hcnt ⊢
 clear a k hce;go_enter Tryz.func149,Tryz.ntmps149;go_wp2;go_ret;exact⟨AO0 (by omega),rfl⟩
theorem QR (n:Int)(w:World):Calls Tryz.prog 54 #[.int .i64 n] w λe w'=>e=.returned (.bool (decide (0<=n/\n<16)))/\w'=w:=by
 by_cases h1:0<=n
 ·by_cases h2:n<16
  ·rw[decide_eq_true (⟨h1,h2⟩:0<=n/\n<16)];go_enter Tryz.func54,Tryz.ntmps54;go_wp2;go_ret;exact⟨by simp,rfl⟩
  ·rw[decide_eq_false (λe:0<=n/\n<16=>h2 e.2)]
   go_enter Tryz.func54,Tryz.ntmps54;go_wp2;go_ret;exact⟨by simp,rfl⟩
 ·rw[decide_eq_false (λe:0<=n/\n<16=>h1 e.1)]
  have h3:decide (0<=n)=false:=decide_eq_false h1;go_enter Tryz.func54,Tryz.ntmps54;go_wp2;go_ret;exact⟨by simp,rfl⟩
theorem AY1 (x r:Nat)(hx:x<18446744073709551616)(hr:r<64):bits BinOp.xor IntKind.u64 (x:Int) (IntKind.u64.wrap (2 ^ r))=((x ^^^ 2 ^ r:Nat):Int):=by
 have h2:2 ^ r<18446744073709551616:=Nat.pow_lt_pow_right (n:=64) (by omega) hr
 have e:IntKind.u64.wrap (2 ^ r)=((2 ^ r:Nat):Int):=by
  rw[IntKind.wrap_u64,show (2:Int) ^ r=((2 ^ r:Nat):Int) by simp]
  exact Int.emod_eq_of_lt (Int.natCast_nonneg _) (Int.ofNat_lt.2 h2)
 rw[e,bits_xor_u64_nat _ _ hx h2]
theorem DJ.set {w:World}{b o:Nat}{h h':Hd}(a:DJ w b o h){i:Nat}{v:Value}(hi:i<h.cells.length)(he:h'.cells=h.cells.set i v):DJ (w.setCell ⟨b,o+i,none⟩ v) b o h':=by
 unfold DJ;rw[he];exact AA2 a i hi v
theorem U2 (b o:Nat)(h:Hd)(q:Nat)(w:World)(a:DJ w b o h)(k:h.Ok)(hq:q<4096)(hz:∀j,w.frozen? ⟨b,j,none⟩=false) :
  Calls Tryz.prog 56 #[.pointer (some ⟨b,o,none⟩),.int .i64 q] w λe w'=>e=.returned (.tuple #[])/\DJ w' b o (h.turn q)/\BJ b o 81 w w'/\AC (λk=>k=b) w w':=by
 have hc:=a.word k (show q / 64<64 by omega)
 obtain⟨x,hx⟩:∃x,x=h.word (q / 64):=⟨_,rfl⟩;have hlt:=k.lt (q / 64);rw[<-hx]at hc hlt;have hzz:=hz (o+1+q / 64);have hj64:(q:Int) / 64<64:=by omega
 have hbt:=AY1 x (q % 64) hlt (by omega)
 have HE:Hid (∀W:World,DJ W b o h->DJ (W.setCell ⟨b,o+1+q / 64,none⟩ (.int .u64 ((x ^^^ 2 ^ (q % 64):Nat):Int))) b o (h.turn q)):=yH (λW aW=>by
  have hi:1+q / 64<h.cells.length:=by rw[Hd.cells_length k];omega
  have:=aW.set (h':=h.turn q) (v:=.int .u64 ((x ^^^ 2 ^ (q % 64):Nat):Int)) hi (by rw[Hd.turn,Hd.cells_setWord k (by omega),hx])
  rwa [<-Nat.add_assoc]at this)
 have HA:=yH a;have HB:=yH hbt;have hw1:IntKind.i64.wrap ((q:Int) / 64)=(q:Int) / 64:=IntWalk.i64_in _ (by omega)
 have hj0:0<=(q:Int) / 64:=by omega
 have hjn:((q:Int) / 64).toNat=q / 64:=by omega
 have hsh:Op.shift .shl .u64 1 .i64 ((q:Int).tmod 64)=pure (.int .u64 (IntKind.u64.wrap (1*2 ^ (q % 64)))):=by
  have e:(q:Int).tmod 64=((q % 64:Nat):Int):=by rw[Int.tmod_eq_emod_of_nonneg (by omega)];omega
  rw[e];have:=shift_shl .u64 .i64 1 ((q % 64:Nat):Int) (by omega) (by show ((q % 64:Nat):Int)<=((64:Nat):Int);omega)
  rwa [Int.toNat_natCast]at this
 clear a k hx hz hbt;go_enter Tryz.func56,Tryz.ntmps56;go_still_tail 14,(by kernel_rfl)
 rw[HB.out];go_wp2;go_end0
 refine⟨rfl,(HE.out w HA.out).block rfl,?_,?_⟩
 ·exact (BJ.setCell (fb:=b) (o:=o) (n:=81) (i:=o+1+q / 64) w _ (by omega) (by omega)).trans (BJ.ofBlock rfl)
 ·exact (AC.setCell (λk=>k=b) w (b:=b) rfl _).trans (AC.ofBelow (S:=λk=>k=b) (Below.refl _ _).drew) (λ_ hi=>.inl hi)
def Tab (w:World):Prop:=1<=w.heap.size/\∀j,j<64->w.cell? ⟨0,j,none⟩=some (.int .u8 (Lib.deBruijn64tab.getD j 0))
theorem Tab.kept {S:Nat->Prop}{w w':World}(h:Tab w)(hk:AC S w w')(hS:¬S 0):Tab w' :=
 ⟨Nat.le_trans h.1 hk.size,λj hj=>(World.cell?_of_block (hk.block 0 h.1 hS)).trans (h.2 j hj)⟩
theorem Tab.below {w w':World}{B:Nat}(h:Tab w)(hb:Below B w w')(hB:1<=B):Tab w' :=
 ⟨Nat.le_trans h.1 hb.size,λj hj=>(World.cell?_of_block (hb.block 0 hB)).trans (h.2 j hj)⟩
theorem BK3 (x:Nat)(h0:x≠0)(h:x<18446744073709551616):Lib.ctz 64 x<64/\x.testBit (Lib.ctz 64 x)=true/\∀j,j<Lib.ctz 64 x->x.testBit j=false:=by
 obtain⟨m,hm,hk⟩:=Lib.ctzFrom_spec 64 x (by omega) h
 have e:Lib.ctz 64 x=Lib.ctzFrom 64 x:=by simp[Lib.ctz,h0]
 rw[e];obtain⟨k,hk'⟩:∃k,k=Lib.ctzFrom 64 x:=⟨_,rfl⟩;rw[<-hk']at hm hk ⊢
 refine⟨hk,?_,λj hj=>?_⟩
 ·rw[hm,Nat.mul_comm,Nat.testBit_mul_two_pow];simp
 ·rw[hm,Nat.mul_comm,Nat.testBit_mul_two_pow];simp;omega
theorem AZ9 (x:Nat)(hx0:x≠0)(hx:x<18446744073709551616)(w:World)(hT:Tab w) :
  Calls Tryz.prog 100 #[.int .u64 x] w λe w'=>e=.returned (.int .i64 (Lib.ctz 64 x))/\w'=w:=by
 obtain⟨hlow,hk⟩:=Lib.lowest_bit 64 x hx0 hx;obtain⟨hi,htab⟩:=Lib.deBruijn64_at _ hk;have hcell:=hT.2 _ hi;rw[htab]at hcell;have key:=tz64_key x _ hx hx0 hlow;obtain⟨k,hk'⟩:∃k,k=Lib.ctz 64 x:=⟨_,rfl⟩;rw[<-hk']at hcell key hi hk ⊢
 obtain⟨idx,hidx⟩:∃idx,idx=2 ^ k*285870213051353865 % 18446744073709551616 / 288230376151711744:=⟨_,rfl⟩;rw[<-hidx]at hcell key hi;have hx1:((x:Int) == 0)=false:=by simp;omega
 clear hlow htab hT hk' hidx hx0 hx;go_enter Tryz.func100,Tryz.ntmps100;go_wp2_with (simp only[key])
 go_ret;exact⟨rfl,rfl⟩
def Hd.NextIs (h:Hd)(q:Nat)(h':Hd):Prop :=
 h.isFree q=true/\(∀j,j<q->h.isFree j=false)/\h'=h.turn q\/(∀j,h.isFree j=false)/\h.count<4095/\q=h.count+1/\h'=h.setCount q
theorem Hd.Ok.isFree_lt {h:Hd}(k:h.Ok){q:Nat}(hf:h.isFree q=true):1<=q/\q<=h.count/\q<4096:=by
 have:=k.in_ q hf
 have:=k.cnt
 omega
theorem Hd.isFree_setCount (h:Hd)(n j:Nat):(h.setCount n).isFree j=h.isFree j:=rfl
theorem Hd.Ok.setCount {h:Hd}(k:h.Ok){n:Nat}(hn:h.count<=n)(h2:n<4096):(h.setCount n).Ok :=
 ⟨k.nf,k.nr,h2,k.lt,k.rt,λq hq=>⟨(k.in_ q hq).1,Nat.le_trans (k.in_ q hq).2 hn⟩⟩
theorem Hd.NextIs.spec {h h':Hd}{q:Nat}(k:h.Ok)(hn:h.NextIs q h'):h'.Ok/\1<=q/\q<4096/\¬h.has q/\(∀j,h'.has j ↔ h.has j\/j=q)/\h'.roots=h.roots:=by
 rcases hn with⟨h1,_,rfl⟩|⟨h1,h2,rfl,rfl⟩
 ·obtain⟨a,b,c⟩:=k.isFree_lt h1;refine⟨k.turn c ⟨a,b⟩,a,c,(λe=>by rw[e.2.2]at h1;cases h1),λj=>?_,rfl⟩
  unfold Hd.has;rw[Hd.isFree_turn k c];show (1<=j/\j<=h.count/\_) ↔ _;by_cases hj:j=q
  ·subst hj;simp[h1];omega
  ·simp[hj]
 ·refine⟨k.setCount (by omega) (by omega),by omega,by omega,(λe=>by have:=e.2.1;omega),λj=>?_,rfl⟩
  unfold Hd.has;rw[Hd.isFree_setCount,h1 j];show (1<=j/\j<=h.count+1/\_) ↔ _;simp;omega
def ND (b o:Nat)(h:Hd)(w:World)(e:Ending)(w':World):Prop :=
 (∃q h',h.NextIs q h'/\e=.returned (.int .i64 q)/\DJ w' b o h'/\BJ b o 81 w w'/\AC (λk=>k=b) w w')\/((∀j,h.isFree j=false)/\h.count=4095/\e=.returned (.int .i64 0)/\w'=w)
theorem LI (t e:TypeId)(n:Nat)(cs:Array Value)(v:Value)(i:Nat)(w:World)(h:Tryz.prog.underlying t=some (.array n e))(he:Tryz.prog.plainKey e=true)(hs:(Tryz.prog.info? e).map (·.size)=some 1)(hi:i<n)(hv:cs[i]? = some v) :
  (Instr.index t (.agg cs) (.int .i64 i)).run Tryz.prog w=.ok v w:=by
 have hin:(0:Int)<=i/\(i:Int)<n:=by omega
 cases hq:Tryz.prog.info? e with
 | none=>simp[hq]at hs
 | some inf =>
  have hsz:inf.size=1:=by simpa [hq] using hs
  have hp:(part e cs (i*1)).run Tryz.prog w=.ok v w:=run_part_plain w he (by rw[Nat.mul_one];exact hv)
  simp only[Instr.index,asIntOf,Sem.run_bind,Sem.run_pure,Result.andThen_ok,run_underlying h,if_pos hin,sizeOf,typeInfo,Int.toNat_natCast];simpa [hq,hsz] using hp
theorem BA6 (b o:Nat)(h:Hd)(w:World)(a:DJ w b o h)(k:h.Ok)(hT:Tab w)(hz:∀j,w.frozen? ⟨b,j,none⟩=false) :
  Calls Tryz.prog 53 #[.pointer (some ⟨b,o,none⟩)] w (ND b o h w):=by
 have hc:=a.count;have hzz:=hz o;have hcnt:=k.cnt;obtain⟨cs,hcs⟩:∃cs:List Value,cs=h.free.map (λx:Nat=>Value.int .u64 (x:Int)):=⟨_,rfl⟩
 have hcl:cs.length=64:=by rw[hcs];simp[k.nf]
 have hcv:∀i,i<64->cs.toArray[i]? = some (.int .u64 (h.word i:Int)):=λi hi=>by
  have h1:i<h.free.length:=by rw[k.nf];exact hi
  rw[hcs,List.getElem?_toArray,List.getElem?_map,List.getElem?_eq_getElem h1,Hd.word,List.getD_eq_getElem?_getD,List.getElem?_eq_getElem h1];rfl
 have hrg:w.rangeAt b (o+1) cs:=λj v hv=>by
  have hj:=(List.getElem?_eq_some_iff.1 hv).1;rw[hcl]at hj;have h2:=hcv j hj;rw[List.getElem?_toArray]at h2;rw[h2]at hv;cases hv;exact a.word k hj
 have HR:=yH hrg;have HI:Hid ((Tryz.prog.info? 34).map (·.size)=some cs.length):=yH (by rw[hcl];kernel_rfl)
 have HIX:Hid (∀i:Nat,i<64->∀W,(Instr.index 34 (.agg cs.toArray) (.int .i64 i)).run Tryz.prog W=.ok (.int .u64 (h.word i:Int)) W):=yH (λi hi W=>LI 34 33 64 _ _ i W (by kernel_rfl) (by kernel_rfl) (by kernel_rfl) hi (hcv i hi))
 obtain⟨X,hX⟩:∃X,X=cs.toArray:=⟨_,rfl⟩;have HA:=yH a;have HK:=yH k;have HT:=yH hT;have HZ:=yH hz
 obtain⟨c,hce⟩:∃c,c=h.count:=⟨_,rfl⟩;rw[<-hce]at hc hcnt;have HCE:=yH hce;have HX:=yH hX;clear hcs hcl hcv hrg a k hT hz hce hX;go_enter Tryz.func53,Tryz.ntmps53;go_wp2_with (refine wpList_load_mid rfl 34 _ rfl b (o+1) (by rfl) cs _ HR.out Tryz.underlying34 rfl HI.out ?_)
 rw[<-HX.out];rw[<-HX.out]at HIX;go_wp2;go_loop [10] (λi=>∃k:Nat,k<=64/\i=.int .i64 k/\Hid (∀j,j<k->h.word j=0)) (λi=>64-(intOf i).toNat)
 case atStart=>exact⟨0,by omega,rfl,yH (λj hj=>by omega)⟩
 case round =>
  obtain⟨k,hk,rfl,hz0⟩:=hrel;by_cases hlt:k<64
  ·have hlt':(k:Int)<64:=by omega
   by_cases hx:h.word k=0
   ·have hix:(Instr.index 34 (.agg X) (.int .i64 k)).run Tryz.prog w=.ok (.int .u64 0) w:=by rw[HIX.out k hlt w,hx];rfl
    have hz1:Hid (∀j,j<k+1->h.word j=0):=yH (λj hj=>by
     by_cases hjk:j=k
     ·rw[hjk,hx]
     ·exact hz0.out j (by omega))
    clear hx;go_wp2;go_round
    case rel=>exact⟨k+1,by omega,by go_num,hz1⟩
    case measure=>simp[intOf];omega
   ·have hix:=HIX.out k hlt w;obtain⟨x,hxe⟩:∃x,x=h.word k:=⟨_,rfl⟩;have hxlt:=HK.out.lt k;rw[<-hxe]at hix hx hxlt;have hx1:((x:Int) != 0)=true:=by simp;omega
    obtain⟨hc64,hbit,hlow⟩:=BK3 x hx hxlt;have HTZ:=yH (AZ9 x hx hxlt w HT.out);obtain⟨t,ht⟩:∃t,t=Lib.ctz 64 x:=⟨_,rfl⟩;rw[<-ht]at hc64 hbit hlow HTZ;have hq:k*64+t<4096:=by omega
    have hdiv:(k*64+t) / 64=k:=by omega
    have hmod:(k*64+t) % 64=t:=by omega
    have hfr:h.isFree (k*64+t)=true:=by unfold Hd.isFree;rw[hdiv,hmod,<-hxe];exact hbit
    have hmin:∀j,j<k*64+t->h.isFree j=false:=λj hj=>by
     unfold Hd.isFree;by_cases hjk:j / 64=k
     ·rw[hjk,<-hxe];exact hlow _ (by omega)
     ·rw[hz0.out _ (by omega)];simp
    have HTN:Hid (Calls Tryz.prog 56 #[.pointer (some ⟨b,o,none⟩),.int .i64 ((k:Int)*64+(t:Int))] w λe w'=>e=.returned (.tuple #[])/\Hid (ND b o h w (.returned (.int .i64 ((k:Int)*64+(t:Int)))) w')):=yH (by
     have:=U2 b o h (k*64+t) w HA.out HK.out hq HZ.out
     rw[show (k:Int)*64+(t:Int)=((k*64+t:Nat):Int) by omega]
     refine this.mono ?_;rintro e w' ⟨h1,h2,h3,h4⟩;exact⟨h1,yH (.inl ⟨_,_,.inl ⟨hfr,hmin,rfl⟩,rfl,h2,h3,h4⟩)⟩)
    clear hxe hxlt hbit hlow ht hdiv hmod hfr hmin hx;go_wp2_with fail;refine HTZ.out.mono ?_;rintro e w' ⟨rfl,hw⟩;subst w';go_wp2_with fail;refine HTN.out.mono ?_;rintro e w' ⟨rfl,hp⟩;go_wp2;go_ret;exact hp.out
  ·obtain rfl:k=64:=by omega
   have hnf:∀j,h.isFree j=false:=λj=>by
    cases hf:h.isFree j with
    | false=>rfl
    | true =>
     have hj:=(HK.out.isFree_lt hf).2.2;unfold Hd.isFree at hf;rw[hz0.out _ (by omega)]at hf
     simp at hf
   have HNF:=yH hnf;clear hnf
   by_cases hfull:c=4095
   ·have HE:=yH (show ND b o h w (.returned (.int .i64 0)) w from .inr ⟨HNF.out,by rw[<-HCE.out,hfull],rfl,rfl⟩)
    subst hfull;go_wp2;go_ret;exact HE.out
   ·have hne:((c:Int) == 4095)=false:=by simp;omega
    have HS:Hid (ND b o h w (.returned (.int .i64 ((c:Int)+1))) (w.setCell ⟨b,o,none⟩ (.int .i64 ((c:Int)+1)))):=yH (by
     refine .inl ⟨c+1,h.setCount (c+1),.inr ⟨HNF.out,by rw[<-HCE.out];omega,by rw[<-HCE.out],rfl⟩,rfl,?_,BJ.setCell (fb:=b) (o:=o) (n:=81) (i:=o) w _ (by omega) (by omega),AC.setCell (λk=>k=b) w (b:=b) rfl _⟩
     exact HA.out.set (i:=0) (v:=.int .i64 ((c+1:Nat):Int)) (by rw[Hd.cells_length HK.out];omega) (Hd.cells_setCount h (c+1)))
    go_wp2;go_ret;exact HS.out
end Go.Proofs.YtfbbjiidccbaiaaGreatDoor
set_option maxRecDepth 100000
set_option maxHeartbeats 6400000
namespace Go.Proofs.YtfbbjiidccbaiaaGreatDoor
open Go Go.ChangeShapes Go.WideShapes Go.ChangeAt Go.RowKit
theorem CD6:ownKnob Tryz.prog.godebug=none:=by kernel_rfl
abbrev QN:List (String × DataW Unit):=[("math/bits.deBruijn64tab",Rows.laid_math_bits_deBruijn64tab)]
theorem CB9:Tryz.prog.globalNamed "math/bits.deBruijn64tab" = some 0:=by kernel_rfl
theorem CD5:(Tryz.prog.globals[0]?).map (·.type)=some 212:=by kernel_rfl
theorem BL6:Tryz.prog.cellsOf 212=64:=by kernel_rfl
theorem BT8:Tryz.prog.cellsOf 5=1:=by kernel_rfl
theorem CD9:Lib.deBruijn64tab.length=64:=by decide
theorem BS4 {W:World}(h:laidMetH Tryz.prog QN W):Tab W:=by
 rw[MakeChecks.laidMetH_plain _ _ _ (by kernel_rfl)]at h
 have ht:Lib.TabIs Tryz.prog W "math/bits.deBruijn64tab" .u8 (Lib.deBruijn64tab.map (λx:Nat=>(x:Int))):=Lib.tabIs_of_head CB9 CD5 Tryz.underlying212 Tryz.underlying5 BT8 BL6 h
 have hc:∀j,j<64->W.cell? ⟨0,j,none⟩=some (.int .u8 (Lib.deBruijn64tab.getD j 0)):=λj hj=>by
  have:=World.var?_cell CB9 ht j
  rw[this,List.getElem?_toArray,List.getElem?_map,List.getElem?_map,List.getD_eq_getElem?_getD,List.getElem?_eq_getElem (by rw[CD9];exact hj)]
  rfl
 exact⟨Nat.lt_of_le_of_lt (Nat.zero_le _) (World.block_lt_of_cell? W _ (hc 0 (by omega))),hc⟩
end Go.Proofs.YtfbbjiidccbaiaaGreatDoor
namespace Go.Proofs
open Go.Shelf
open Go.RowKit in
open Go.RowKit in
open Go.RowKit in
open Go.RowKit in
open Go.RowKit in
open Go.RowKit in
open Go.RowKit in
open Go.RowKit in
open Go.RowKit in
open Go.RowKit in
def Tryz.lays189_ren : Go.Shelf.Ren := ⟨fun | 189 => 89 | 125 => 129 | 257 => 128 | 128 => 174 | 129 => 175 | 294 => 165 | 295 => 166 | 296 => 167 | 297 => 168 | 298 => 169 | 299 => 170 | 216 => 171 | 300 => 172 | 301 => 173 | 328 => 189 | 329 => 190 | 330 => 191 | 331 => 192 | 332 => 193 | 215 => 194 | 343 => 205 | n => n, fun | 28 => 57 | 3 => 3 | 46 => 200 | 0 => 0 | 51 => 242 | 53 => 33 | 4 => 4 | 183 => 235 | 182 => 234 | 131 => 182 | 5 => 5 | 9 => 9 | 218 => 257 | 222 => 261 | 228 => 277 | 229 => 278 | n => n, fun | n => n⟩
theorem Tryz.lays189 : Go.Proofs.Lays.n189 Tryz.prog Tryz.lays189_ren := {
  mixed := by kernel_rfl
  f125 := Tryz.func129.trans (congrArg some (by kernel_rfl))
  f128 := Tryz.func174.trans (congrArg some (by kernel_rfl))
  f129 := Tryz.func175.trans (congrArg some (by kernel_rfl))
  f189 := Tryz.func89.trans (congrArg some (by kernel_rfl))
  f215 := Tryz.func194.trans (congrArg some (by kernel_rfl))
  f216 := Tryz.func171.trans (congrArg some (by kernel_rfl))
  f257 := Tryz.func128.trans (congrArg some (by kernel_rfl))
  f294 := Tryz.func165.trans (congrArg some (by kernel_rfl))
  f295 := Tryz.func166.trans (congrArg some (by kernel_rfl))
  f296 := Tryz.func167.trans (congrArg some (by kernel_rfl))
  f297 := Tryz.func168.trans (congrArg some (by kernel_rfl))
  f298 := Tryz.func169.trans (congrArg some (by kernel_rfl))
  f299 := Tryz.func170.trans (congrArg some (by kernel_rfl))
  f300 := Tryz.func172.trans (congrArg some (by kernel_rfl))
  f301 := Tryz.func173.trans (congrArg some (by kernel_rfl))
  f328 := Tryz.func189.trans (congrArg some (by kernel_rfl))
  f329 := Tryz.func190.trans (congrArg some (by kernel_rfl))
  f330 := Tryz.func191.trans (congrArg some (by kernel_rfl))
  f331 := Tryz.func192.trans (congrArg some (by kernel_rfl))
  f332 := Tryz.func193.trans (congrArg some (by kernel_rfl))
  f343 := Tryz.func205.trans (congrArg some (by kernel_rfl))
  t0 := Tryz.underlying0
  a0 := Tryz.isAgg0
  z0 := Tryz.sizeOf0
  v0 := Tryz.zeroValue0
  t3 := Tryz.underlying3
  a3 := Tryz.isAgg3
  z3 := Tryz.sizeOf3
  v3 := Tryz.zeroValue3
  t4 := Tryz.underlying4
  a4 := Tryz.isAgg4
  z4 := Tryz.sizeOf4
  v4 := Tryz.zeroValue4
  t5 := Tryz.underlying5
  a5 := Tryz.isAgg5
  z5 := Tryz.sizeOf5
  v5 := Tryz.zeroValue5
  t9 := Tryz.underlying9
  a9 := Tryz.isAgg9
  z9 := Tryz.sizeOf9
  v9 := Tryz.zeroValue9
  t28 := Tryz.underlying57
  a28 := Tryz.isAgg57
  z28 := Tryz.sizeOf57
  v28 := Tryz.zeroValue57
  t46 := Tryz.underlying200
  a46 := Tryz.isAgg200
  z46 := Tryz.sizeOf200
  v46 := Tryz.zeroValue200
  t51 := Tryz.underlying242
  a51 := Tryz.isAgg242
  z51 := Tryz.sizeOf242
  v51 := Tryz.zeroValue242
  t53 := Tryz.underlying33
  a53 := Tryz.isAgg33
  z53 := Tryz.sizeOf33
  v53 := Tryz.zeroValue33
  t131 := Tryz.underlying182
  a131 := Tryz.isAgg182
  z131 := Tryz.sizeOf182
  v131 := Tryz.zeroValue182
  t182 := Tryz.underlying234
  a182 := Tryz.isAgg234
  z182 := Tryz.sizeOf234
  v182 := Tryz.zeroValue234
  t183 := Tryz.underlying235
  a183 := Tryz.isAgg235
  z183 := Tryz.sizeOf235
  v183 := Tryz.zeroValue235
  t218 := Tryz.underlying257
  a218 := Tryz.isAgg257
  z218 := Tryz.sizeOf257
  v218 := Tryz.zeroValue257
  t222 := Tryz.underlying261
  a222 := Tryz.isAgg261
  z222 := Tryz.sizeOf261
  v222 := Tryz.zeroValue261
  t228 := Tryz.underlying277
  a228 := Tryz.isAgg277
  z228 := Tryz.sizeOf277
  v228 := Tryz.zeroValue277
  t229 := Tryz.underlying278
  a229 := Tryz.isAgg278
  z229 := Tryz.sizeOf278
  v229 := Tryz.zeroValue278 }
open Go.Sort Go.RowKit in
theorem Tryz.slices_Sort_int (blk off cap : Nat)(zs : List Int)(w : World)(hH : Holds (Value.int .i64) w blk off zs.toArray)(hblk : blk<w.heap.size)(hsz : zs.length<4611686018427387904) :
    Calls Tryz.prog 89 #[.slice (some ⟨blk, off, none⟩) zs.length cap] w λe w' =>
      e = .returned (.tuple #[]) /\ ∃n os, w' = grow (putRow (Value.int .i64) (Sort.ahead w n) blk off (zs.mergeSort λx y => decide (x <= y)).toArray) os := Any.slices_Sort_int Tryz.lays189 blk off cap zs w hH hblk hsz
open Go.RowKit Go.Lib in
open Go.RowKit Go.Lib in
open Go.RowKit Go.Lib in
def Tryz.lays105_ren : Go.Shelf.Ren := ⟨fun | 105 => 179 | 212 => 195 | 99 => 196 | 165 => 197 | 166 => 198 | 170 => 199 | 169 => 200 | 263 => 206 | 264 => 207 | 206 => 208 | 240 => 209 | 241 => 210 | 276 => 212 | 277 => 213 | n => n, fun | 9 => 9 | 3 => 3 | 4 => 4 | 20 => 20 | 0 => 0 | 46 => 200 | 109 => 263 | 5 => 5 | 72 => 267 | 76 => 270 | 51 => 242 | 146 => 280 | 53 => 33 | 148 => 282 | 70 => 265 | 37 => 102 | 75 => 269 | 127 => 272 | 164 => 285 | 80 => 209 | n => n, fun | n => n⟩
theorem Tryz.lays105 : Go.Proofs.Lays.n105 Tryz.prog Tryz.lays105_ren := {
  mixed := by kernel_rfl
  f99 := Tryz.func196.trans (congrArg some (by kernel_rfl))
  f105 := Tryz.func179.trans (congrArg some (by kernel_rfl))
  f165 := Tryz.func197.trans (congrArg some (by kernel_rfl))
  f166 := Tryz.func198.trans (congrArg some (by kernel_rfl))
  f169 := Tryz.func200.trans (congrArg some (by kernel_rfl))
  f170 := Tryz.func199.trans (congrArg some (by kernel_rfl))
  f206 := Tryz.func208.trans (congrArg some (by kernel_rfl))
  f212 := Tryz.func195.trans (congrArg some (by kernel_rfl))
  f240 := Tryz.func209.trans (congrArg some (by kernel_rfl))
  f241 := Tryz.func210.trans (congrArg some (by kernel_rfl))
  f263 := Tryz.func206.trans (congrArg some (by kernel_rfl))
  f264 := Tryz.func207.trans (congrArg some (by kernel_rfl))
  f276 := Tryz.func212.trans (congrArg some (by kernel_rfl))
  f277 := Tryz.func213.trans (congrArg some (by kernel_rfl))
  t0 := Tryz.underlying0
  a0 := Tryz.isAgg0
  z0 := Tryz.sizeOf0
  v0 := Tryz.zeroValue0
  t3 := Tryz.underlying3
  a3 := Tryz.isAgg3
  z3 := Tryz.sizeOf3
  v3 := Tryz.zeroValue3
  t4 := Tryz.underlying4
  a4 := Tryz.isAgg4
  z4 := Tryz.sizeOf4
  v4 := Tryz.zeroValue4
  t5 := Tryz.underlying5
  a5 := Tryz.isAgg5
  z5 := Tryz.sizeOf5
  v5 := Tryz.zeroValue5
  t9 := Tryz.underlying9
  a9 := Tryz.isAgg9
  z9 := Tryz.sizeOf9
  v9 := Tryz.zeroValue9
  t20 := Tryz.underlying20
  a20 := Tryz.isAgg20
  z20 := Tryz.sizeOf20
  v20 := Tryz.zeroValue20
  t37 := Tryz.underlying102
  a37 := Tryz.isAgg102
  z37 := Tryz.sizeOf102
  v37 := Tryz.zeroValue102
  t46 := Tryz.underlying200
  a46 := Tryz.isAgg200
  z46 := Tryz.sizeOf200
  v46 := Tryz.zeroValue200
  t51 := Tryz.underlying242
  a51 := Tryz.isAgg242
  z51 := Tryz.sizeOf242
  v51 := Tryz.zeroValue242
  t53 := Tryz.underlying33
  a53 := Tryz.isAgg33
  z53 := Tryz.sizeOf33
  v53 := Tryz.zeroValue33
  t70 := Tryz.underlying265
  a70 := Tryz.isAgg265
  z70 := Tryz.sizeOf265
  v70 := Tryz.zeroValue265
  t72 := Tryz.underlying267
  a72 := Tryz.isAgg267
  z72 := Tryz.sizeOf267
  v72 := Tryz.zeroValue267
  t75 := Tryz.underlying269
  a75 := Tryz.isAgg269
  z75 := Tryz.sizeOf269
  v75 := Tryz.zeroValue269
  t76 := Tryz.underlying270
  a76 := Tryz.isAgg270
  z76 := Tryz.sizeOf270
  v76 := Tryz.zeroValue270
  t109 := Tryz.underlying263
  a109 := Tryz.isAgg263
  z109 := Tryz.sizeOf263
  v109 := Tryz.zeroValue263
  t127 := Tryz.underlying272
  a127 := Tryz.isAgg272
  z127 := Tryz.sizeOf272
  v127 := Tryz.zeroValue272
  t146 := Tryz.underlying280
  a146 := Tryz.isAgg280
  z146 := Tryz.sizeOf280
  v146 := Tryz.zeroValue280
  t148 := Tryz.underlying282
  a148 := Tryz.isAgg282
  z148 := Tryz.sizeOf282
  v148 := Tryz.zeroValue282
  t164 := Tryz.underlying285
  a164 := Tryz.isAgg285
  z164 := Tryz.sizeOf285
  v164 := Tryz.zeroValue285 }
theorem Tryz.Builder_Extra_105 : Builder.Extra Tryz.prog Tryz.lays105_ren := {
  sizeBuilder := by kernel_rfl
  liesBuilder := by kernel_rfl
  t5 := Tryz.underlying5
  a5 := Tryz.isAgg5
  z5 := Tryz.sizeOf5
  v5 := Tryz.zeroValue5
  infoByte := by kernel_rfl
  cellsByte := by kernel_rfl
  sizeByte := by kernel_rfl
  neB5 := by decide }
open Go.RowKit Go.Lib in
open Go.RowKit Go.Lib in
open Go.RowKit Go.Lib in
open Go.RowKit Go.Lib in
open Go.RowKit Go.Lib in
theorem Tryz.strings_Repeat (s : ByteArray)(c : Nat)(w : World)(hc : c <= 9223372036854775807)(hlen : s.size * c <= 140737488355328) :
    Calls Tryz.prog 179 #[.string s, .int .i64 c] w λe w' => e = .returned (.string ⟨(Lib.repeatL s.data.toList c).toArray⟩) /\ Below w.heap.size w w' := Any.strings_Repeat Tryz.lays105 Tryz.Builder_Extra_105 s c w hc hlen
open Go.RowKit Go.Sort in
theorem Tryz.slices_Sort_int_none (p : Option Addr)(cap : Nat)(w : World) :
    Calls Tryz.prog 89 #[.slice p 0 cap] w λe w' => e = .returned (.tuple #[]) /\ w' = w := Any.slices_Sort_int_none Tryz.lays189 p cap w
end Go.Proofs
set_option maxRecDepth 100000
set_option maxHeartbeats 6400000
namespace Go.Proofs.YtfbbjiidccbaiaaGreatDoor
open Go.RowKit
theorem BS9:(Tryz.prog.info? 3).map (λi=>(i.zero,i.size,i.bytes))=some (some (.int .i64 0),1,8):=by kernel_rfl
def IZ (l:List Int):List Value:=l.map (Value.int .i64)
open Go.Sort in
theorem AK7 {w:World}{g:Nat}{cur:Array Value}{l:List Int}(hb:w.heap[g]? = some (.cells cur 3 (0,0)))(ht:cur.toList.take l.length=IZ l):Holds (Value.int .i64) w g 0 l.toArray:=by
 intro j hj;have hj':j<l.length:=by simpa using hj
 refine⟨?_,Lib.frozen_of_heap hb _⟩;rw[yC hb,Nat.zero_add,<-Array.getElem?_toList];have h1:=List.getElem?_take_of_lt (l:=cur.toList) hj';rw[<-h1,ht];simp[IZ,hj']
open Go.Sort in
theorem ZT {w:World}{g n:Nat}{os:Array Obj}{cur:Array Value}{l:List Int}(hb:w.heap[g]? = some (.cells cur 3 (0,0)))(hl:l.length<=cur.size) :
  (∀j u,(IZ l)[j]? = some u->(grow (putRow (Value.int .i64) (Sort.ahead w n) g 0 l.toArray) os).cell? ⟨g,j,none⟩=some u)/\w.grownBy (grow (putRow (Value.int .i64) (Sort.ahead w n) g 0 l.toArray) os) (some g) /\
   g<(grow (putRow (Value.int .i64) (Sort.ahead w n) g 0 l.toArray) os).heap.size:=by
 have hg:g<w.heap.size:=(Array.getElem?_eq_some_iff.1 hb).1;have hh:(grow (putRow (Value.int .i64) (Sort.ahead w n) g 0 l.toArray) os).heap[g]? = some (.cells (putCells (Value.int .i64) 0 l.toArray cur) 3 (0,0)):=by
  rw[heap_grow_old _ _ (by simpa using hg)]
  simp[putRow,mapBlock,Sort.ahead,Array.getElem?_modify,hb,onCells]
 refine⟨λj u hu=>?_,⟨rfl,rfl,rfl,by simp,λk hk hne=>?_⟩,by simp;omega⟩
 ·have hj:j<l.length:=by have:=(List.getElem?_eq_some_iff.1 hu).1;simpa [IZ] using this
  rw[yC hh,<-hu];simp[putCells,IZ,hj,show j<cur.size by omega]
 ·rw[heap_grow_old _ _ (by simpa using hk)]
  have:g≠k:=λe=>hne (by rw[e])
  simp[putRow,mapBlock,Sort.ahead,Array.getElem?_modify,this]
theorem QB (F:List UInt8)(q j:Nat):(BT F q)[j]? = if j<512 then some ((F[q*512+j]?).getD 0) else none:=by
 have hl:((F.drop (q*512)).take 512).length=min 512 (F.length-q*512):=by simp
 unfold BT;simp only
 by_cases h:j<512
 ·rw[if_pos h];by_cases h2:j<F.length-q*512
  ·rw[List.getElem?_append_left (by omega),List.getElem?_take,if_pos h,List.getElem?_drop,List.getElem?_eq_getElem (by omega)]
   rfl
  ·rw[List.getElem?_append_right (by omega),List.getElem?_replicate,if_pos (by omega),List.getElem?_eq_none (by omega)]
   rfl
 ·rw[if_neg h,List.getElem?_eq_none];have:=FJ F q
  unfold BT at this;simp only at this;omega
theorem BD3 (F:List UInt8)(a:Nat)(cs:List UInt8)(j:Nat):((MT F a cs)[j]?).getD 0=if a<=j/\j<a+cs.length then (cs[j-a]?).getD 0 else (F[j]?).getD 0:=by
 unfold MT;rw[LT _ _ _ (by simp;omega)]
 by_cases h:a<=j/\j<a+cs.length
 ·rw[if_pos h,if_pos h]
 ·rw[if_neg h,if_neg h];by_cases h1:j<F.length
  ·rw[List.getElem?_append_left h1]
  ·rw[List.getElem?_append_right (by omega),List.getElem?_replicate,List.getElem?_eq_none (show F.length<=j by omega)]
   split <;> rfl
theorem L5 (F:List UInt8)(q q':Nat)(bs:List UInt8)(hb:bs.length=512):BT (MT F (q*512) bs) q'=if q'=q then bs else BT F q':=by
 apply List.ext_getElem?
 intro j;rw[QB,BD3,hb];by_cases hq:q'=q
 ·subst hq;rw[if_pos rfl];by_cases hj:j<512
  ·rw[if_pos hj,if_pos (by omega),show q'*512+j-q'*512=j by omega,List.getElem?_eq_getElem (by omega)]
   rfl
  ·rw[if_neg hj,List.getElem?_eq_none (by omega)]
 ·rw[if_neg hq,QB];by_cases hj:j<512
  ·rw[if_pos hj,if_pos hj,if_neg];rintro⟨h1,h2⟩;have:q'<q\/q<q':=by omega
   omega
  ·rw[if_neg hj,if_neg hj]
def cb:Option Fr->Nat
 | some f=>if f.changed then 1 else 0
 | none=>0
def chg:Nat->(Nat->Option Fr)->Nat
 | 0,_=>0
 | n+1,fr=>chg n fr+cb (fr n)
theorem BZ3 {n i:Nat}{fr:Nat->Option Fr}(x:Option Fr)(h:n<=i):chg n (upd fr i x)=chg n fr:=by
 induction n with
 | zero=>rfl
 | succ n ih=>rw[chg,chg,ih (by omega),AA _ _ (by omega)]
theorem IX {n i:Nat}(fr:Nat->Option Fr)(x:Option Fr)(h:i<n):chg n (upd fr i x)+cb (fr i)=chg n fr+cb x:=by
 induction n with
 | zero=>omega
 | succ n ih =>
  rw[chg,chg];by_cases hi:i=n
  ·subst hi;rw[BZ3 x (Nat.le_refl _),AB];omega
  ·rw[AA _ _ (λe=>hi e.symm)]
   have:=ih (by omega)
   omega
theorem AE4 {n:Nat}{fr fr':Nat->Option Fr}(h:∀i,cb (fr' i)=cb (fr i)):chg n fr'=chg n fr:=by
 induction n with
 | zero=>rfl
 | succ n ih=>rw[chg,chg,ih,h]
structure EN (n:Nat)(fr:Nat->Option Fr)(ops:List AD)(C:Nat->List UInt8)(P:Nat->Nat)(N:Nat):Prop where
 held:∀i f,fr i=some f->C f.page=f.bytes/\P f.page=f.pins/\(f.changed=false->f.bytes=BT (BN ops 1) f.page)
 free:∀q,(∀i f,fr i=some f->f.page≠q)->C q=BT (BN ops 1) q/\P q=0
 cost:ops.length+chg n fr<=N
 bnd:∀q,P q<=N
theorem BD9 (ops:List AD)(q:Nat)(bs:List UInt8):BN (ops++[.put 1 (q*512) ⟨bs.toArray⟩]) 1=MT (BN ops 1) (q*512) bs:=by
 rw[F3,AD.run,AB]
section
variable {n N:Nat} {fr fr':Nat->Option Fr} {ops:List AD} {C:Nat->List UInt8} {P:Nat->Nat}
theorem EN.more (h:EN n fr ops C P N){M:Nat}(hM:N<=M):EN n fr ops C P M:=⟨h.held,h.free,Nat.le_trans h.cost hM,λq=>Nat.le_trans (h.bnd q) hM⟩
theorem EN.late (h:EN n fr ops C P N)(hl:JD fr fr'):EN n fr' ops C P N:=by
 have hb:∀i f',fr' i=some f'->∃f,fr i=some f/\f'.page=f.page/\f'.pins=f.pins/\f'.changed=f.changed/\f'.bytes=f.bytes:=λi f' hi=>by
  obtain⟨b,hb⟩:=hl i;rw[hi]at hb;cases hf:fr i with
  | none=>rw[hf]at hb;cases hb
  | some f=>rw[hf]at hb;simp at hb;subst hb;exact⟨f,rfl,rfl,rfl,rfl,rfl⟩
 have hb2:∀i f,fr i=some f->∃f',fr' i=some f'/\f'.page=f.page:=λi f hi=>by
  obtain⟨b,hb⟩:=hl i;rw[hi]at hb;exact⟨_,hb,rfl⟩
 refine⟨λi f' hi=>?_,λq hq=>h.free q (λi f hi=>?_),?_,h.bnd⟩
 ·obtain⟨f,hf,e1,e2,e3,e4⟩:=hb i f' hi;rw[e1,e2,e3,e4];exact h.held i f hf
 ·obtain⟨f',hf',e⟩:=hb2 i f hi;rw[<-e];exact hq i f' hf'
 ·rw[AE4 (fr:=fr)]
  ·exact h.cost
  ·intro i;obtain⟨b,hb⟩:=hl i;rw[hb];cases fr i <;> rfl
theorem EN.save (h:EN n fr ops C P N)(one:∀i j f g,fr i=some f->fr j=some g->f.page=g.page->i=j){i:Nat}{f:Fr}(hi:fr i=some f)(hin:i<n)(hb:f.bytes.length=512)(hc:f.changed=true) :
  EN n (upd fr i (some { f with changed:=false })) (ops++[.put 1 (f.page*512) ⟨f.bytes.toArray⟩]) C P N:=by
 have hpl:=BD9 ops f.page f.bytes;refine⟨λj g hg=>?_,λq hq=>?_,?_,h.bnd⟩
 ·by_cases hj:j=i
  ·subst hj;rw[AB]at hg;cases hg
   obtain⟨h1,h2,_⟩:=h.held j f hi;exact⟨h1,h2,λ_=>by rw[hpl,L5 _ _ _ _ hb,if_pos rfl]⟩
  ·rw[AA _ _ hj]at hg;obtain⟨h1,h2,h3⟩:=h.held j g hg;refine⟨h1,h2,λhc'=>?_⟩
   rw[hpl,L5 _ _ _ _ hb,if_neg (λe=>hj (one j i g f hg hi e))]
   exact h3 hc'
 ·have hqf:q≠f.page:=λe=>hq i _ (AB _ _ _) e.symm
  obtain⟨h1,h2⟩:=h.free q (λj g hg=>by
   by_cases hj:j=i
   ·subst hj;rw[hi]at hg;cases hg;exact λe=>hqf e.symm
   ·exact hq j g (by rw[AA _ _ hj];exact hg))
  rw[hpl,L5 _ _ _ _ hb,if_neg hqf];exact⟨h1,h2⟩
 ·have:=IX fr (some { f with changed:=false }) hin
  have hcb:cb (fr i)=1:=by rw[hi];simp[cb,hc]
  have hcb2:cb (some { f with changed:=false })=0:=rfl;have:=h.cost
  simp only[List.length_append,List.length_cons,List.length_nil];omega
theorem EN.drop (h:EN n fr ops C P N){i:Nat}{f:Fr}(hi:fr i=some f)(hin:i<n)(hc:f.changed=false)(hp:f.pins=0):EN n (upd fr i none) ops C P N:=by
 refine⟨λj g hg=>?_,λq hq=>?_,?_,h.bnd⟩
 ·by_cases hj:j=i
  ·subst hj;rw[AB]at hg;cases hg
  ·rw[AA _ _ hj]at hg;exact h.held j g hg
 ·by_cases hqf:f.page=q
  ·obtain⟨h1,h2,h3⟩:=h.held i f hi;subst hqf;exact⟨by rw[h1];exact h3 hc,by rw[h2,hp]⟩
  ·refine h.free q (λj g hg e=>?_)
   by_cases hj:j=i
   ·subst hj;rw[hi]at hg;cases hg;exact hqf e
   ·exact hq j g (by rw[AA _ _ hj];exact hg) e
 ·have:=IX fr none hin
  have hcb:cb (fr i)=0:=by rw[hi];simp[cb,hc]
  have hcb2:cb none=0:=rfl;have:=h.cost
  omega
theorem EN.evict (h:EN n fr ops C P N)(one:∀i j f g,fr i=some f->fr j=some g->f.page=g.page->i=j){i:Nat}{f:Fr}(hi:fr i=some f)(hin:i<n)(hb:f.bytes.length=512)(hp:f.pins=0):EN n (upd fr i none) (FV f ops) C P N:=by
 unfold FV;cases hc:f.changed
 ·exact h.drop hi hin hc hp
 ·have h1:=h.save one hi hin hb hc;have h2:=h1.drop (AB _ _ _) hin rfl hp;have:upd (upd fr i (some { f with changed:=false })) i none=upd fr i none:=by
   funext j
   by_cases hj:j=i
   ·subst hj;rw[AB,AB]
   ·rw[AA _ _ hj,AA _ _ hj,AA _ _ hj]
  rw[this]at h2;exact h2
theorem EN.load (h:EN n fr ops C P N){i q:Nat}(hi:fr i=none)(hin:i<n)(hno:∀j f,fr j=some f->f.page≠q):EN n (upd fr i (some ⟨q,1,true,false,BT (BN ops 1) q⟩)) ops C (upd P q 1) (N+1):=by
 refine⟨λj g hg=>?_,λx hx=>?_,?_,λx=>?_⟩
 ·by_cases hj:j=i
  ·subst hj;rw[AB]at hg;cases hg
   exact⟨(h.free q hno).1,AB _ _ _,λ_=>rfl⟩
  ·rw[AA _ _ hj]at hg;obtain⟨h1,h2,h3⟩:=h.held j g hg;exact⟨h1,by rw[AA _ _ (hno j g hg)];exact h2,h3⟩
 ·have hxq:x≠q:=λe=>hx i _ (AB _ _ _) e.symm
  obtain⟨h1,h2⟩:=h.free x (λj g hg=>by
   by_cases hj:j=i
   ·subst hj;rw[hi]at hg;cases hg
   ·exact hx j g (by rw[AA _ _ hj];exact hg))
  exact⟨h1,by rw[AA _ _ hxq];exact h2⟩
 ·have:=IX fr (some (⟨q,1,true,false,BT (BN ops 1) q⟩:Fr)) hin
  have hcb2:cb (some (⟨q,1,true,false,BT (BN ops 1) q⟩:Fr))=0:=rfl;have:=h.cost
  omega
 ·by_cases hxq:x=q
  ·subst hxq;rw[AB];omega
  ·rw[AA _ _ hxq];have:=h.bnd x;omega
theorem EN.turn (h:EN n fr ops C P N)(one:∀i j f g,fr i=some f->fr j=some g->f.page=g.page->i=j){i:Nat}{f f':Fr}(hi:fr i=some f)(hin:i<n)(hpg:f'.page=f.page)(hc:f'.changed=false->f.changed=false/\f'.bytes=f.bytes)(hN:f'.pins<=N+1) :
  EN n (upd fr i (some f')) ops (upd C f.page f'.bytes) (upd P f.page f'.pins) (N+1):=by
 refine⟨λj g hg=>?_,λx hx=>?_,?_,λx=>?_⟩
 ·by_cases hj:j=i
  ·subst hj;rw[AB]at hg;cases hg
   rw[hpg];refine⟨AB _ _ _,AB _ _ _,λhc'=>?_⟩
   obtain⟨h1,h2⟩:=hc hc';rw[h2];exact (h.held j f hi).2.2 h1
  ·rw[AA _ _ hj]at hg;have hne:g.page≠f.page:=λe=>hj (one j i g f hg hi e)
   rw[AA _ _ hne,AA _ _ hne];exact h.held j g hg
 ·have hxq:x≠f.page:=λe=>hx i f' (AB _ _ _) (by rw[hpg,e])
  rw[AA _ _ hxq,AA _ _ hxq];refine h.free x (λj g hg=>?_)
  by_cases hj:j=i
  ·subst hj;rw[hi]at hg;cases hg;exact λe=>hxq e.symm
  ·exact hx j g (by rw[AA _ _ hj];exact hg)
 ·have:=IX fr (some f') hin
  have hle:cb (some f')<=1:=by unfold cb;simp only;split <;> omega
  have:=h.cost
  omega
 ·by_cases hxq:x=f.page
  ·subst hxq;rw[AB];exact hN
  ·rw[AA _ _ hxq];have:=h.bnd x;omega
end
def DF (P:Nat->Nat):Nat:=((List.range 4096).filter λq=>decide (0<P q)).length
theorem MZ {α:Type}[DecidableEq α]:∀(l l':List α),l.Nodup->(∀x ∈ l,x ∈ l')->l.length<=l'.length
 | [],_,_,_=>by simp
 | a::l,l',hd,hs=>by
  obtain⟨h1,h2⟩:=List.nodup_cons.1 hd;have ha:=hs a (by simp)
  have:=MZ l (l'.erase a) h2 (λx hx=>(List.mem_erase_of_ne (λe=>by subst e;exact h1 hx)).2 (hs x (by simp[hx])))
  rw[List.length_erase_of_mem ha]at this;have:=List.length_pos_of_mem ha
  simp only[List.length_cons];omega
theorem L8 {P:Nat->Nat}{q:Nat}:q ∈ ((List.range 4096).filter λq=>decide (0<P q)) ↔ q<4096/\0<P q:=by simp
theorem MV (P:Nat->Nat):((List.range 4096).filter λq=>decide (0<P q)).Nodup:=List.Pairwise.filter _ List.nodup_range
theorem MX {P:Nat->Nat}{l:List Nat}(hd:l.Nodup)(hm:∀q,q ∈ l ↔ q<4096/\0<P q):l.length=DF P :=
 Nat.le_antisymm (MZ _ _ hd (λq hq=>L8.2 ((hm q).1 hq))) (MZ _ _ (MV P) (λq hq=>(hm q).2 (L8.1 hq)))
section
variable {p d fb mb n hand m N:Nat} {fr:Nat->Option Fr} {w:World} {ops:List AD} {C:Nat->List UInt8} {P:Nat->Nat}
def NU (fr:Nat->Option Fr)(i:Nat):Nat:=match fr i with | some f=>f.page | none=>0
theorem NX (h:AR p d fb mb n hand m fr w)(hv:EN n fr ops C P N){q:Nat}(hq:0<P q):∃i f,fr i=some f/\f.page=q/\i<n/\f.pins=P q/\q<4096:=by
 by_cases hx:∃i f,fr i=some f/\f.page=q
 ·obtain⟨i,f,hi,rfl⟩:=hx;obtain⟨h1,_,_,h4⟩:=h.at_ i f hi;exact⟨i,f,hi,rfl,h1,(hv.held i f hi).2.1.symm,h4⟩
 ·have:=(hv.free q (λi f hi e=>hx ⟨i,f,hi,e⟩)).2
  omega
theorem AD0 (h:AR p d fb mb n hand m fr w)(hv:EN n fr ops C P N)(ha:∀i,i<n->∃f,fr i=some f/\0<f.pins):DF P=n:=by
 have hnd:((List.range n).map (NU fr)).Nodup:=by
  refine List.pairwise_map.2 ((List.pairwise_lt_range (n:=n)).imp_of_mem ?_);intro a b ha' hb' hab e;obtain⟨f,hf,_⟩:=ha a (List.mem_range.1 ha');obtain⟨g,hg,_⟩:=ha b (List.mem_range.1 hb');unfold NU at e;rw[hf,hg]at e;have:=h.one a b f g hf hg e
  omega
 have:=MX (P:=P) hnd (λq=>by
  constructor
  ·intro hq;obtain⟨i,hi,rfl⟩:=List.mem_map.1 hq;obtain⟨f,hf,hp⟩:=ha i (List.mem_range.1 hi);unfold NU;rw[hf];exact⟨(h.at_ i f hf).2.2.2,by rw[(hv.held i f hf).2.1];exact hp⟩
  ·rintro⟨_,hp⟩;obtain⟨i,f,hf,e,hin,_⟩:=NX h hv hp;exact List.mem_map.2 ⟨i,List.mem_range.2 hin,by unfold NU;rw[hf];exact e⟩)
 rw[<-this];simp
theorem KV (h:AR p d fb mb n hand m fr w)(hv:EN n fr ops C P N){i:Nat}(hi:i<n)(hp:∀f,fr i=some f->f.pins=0):DF P≠n:=by
 have hle:DF P<=(((List.range n).erase i).map (NU fr)).length:=by
  refine MZ _ _ (MV P) (λq hq=>?_)
  obtain⟨_,hpq⟩:=L8.1 hq;obtain⟨j,f,hf,e,hjn,hfp,_⟩:=NX h hv hpq;refine List.mem_map.2 ⟨j,(List.mem_erase_of_ne (λe=>?_)).2 (List.mem_range.2 hjn),by unfold NU;rw[hf];exact e⟩
  subst e;have:=hp f hf
  omega
 rw[List.length_map,List.length_erase_of_mem (List.mem_range.2 hi),List.length_range]at hle;omega
end
def AO (S:Nat->Prop)(w:World)(S':Nat->Prop)(w':World):Prop:=AC S w w'/\∀k,k<w.heap.size->S' k->S k
theorem AO.refl (S:Nat->Prop)(w:World):AO S w S w:=⟨AC.refl _ _,λ_ _ h=>h⟩
theorem AO.trans {S S' S'':Nat->Prop}{w w' w'':World}(h:AO S w S' w')(k:AO S' w' S'' w''):AO S w S'' w'':=by
 refine⟨h.1.trans k.1 (λi hi=>?_),λi hi hs=>h.2 i hi (k.2 i (Nat.lt_of_lt_of_le hi h.1.size) hs)⟩
 rcases Nat.lt_or_ge i w.heap.size with hlt|hge
 ·exact .inl (h.2 i hlt hi)
 ·exact .inr hge
section
variable {B p d n N:Nat} {S:Nat->Prop} {w w':World} {C:Nat->List UInt8} {P:Nat->Nat}
end
theorem GV {α:Type}(F:Nat->α)(f:Nat):upd F f (F f)=F:=by
 funext i
 by_cases h:i=f
 ·subst h;rw[AB]
 ·rw[AA _ _ h]
theorem CG {fr fr':Nat->Option Fr}(h:JD fr fr'){i:Nat}{f':Fr}(hi:fr' i=some f'):∃f,fr i=some f/\f'.page=f.page/\f'.pins=f.pins/\f'.changed=f.changed/\f'.bytes=f.bytes:=by
 obtain⟨b,hb⟩:=h i;rw[hi]at hb;cases hf:fr i with
 | none=>rw[hf]at hb;cases hb
 | some f=>rw[hf]at hb;simp at hb;subst hb;exact⟨f,rfl,rfl,rfl,rfl,rfl⟩
theorem F4 {fr fr':Nat->Option Fr}(h:JD fr fr'){i:Nat}{f:Fr}(hi:fr i=some f):∃b,fr' i=some { f with lately:=b }:=by
 obtain⟨b,hb⟩:=h i;rw[hi]at hb;exact⟨b,hb⟩
section
variable {B p d n N:Nat} {S:Nat->Prop} {w:World} {C:Nat->List UInt8} {P:Nat->Nat}
end
theorem BV2 (v:Value)(n:Int)(w:World)(hp:BN5 v w) :
  Calls Tryz.prog 46 #[v,.int .i64 n] w λe w'=>e=.returned (.tuple #[.pointer none,.int .i64 1])/\w'=w:=by
 have HR:=yH (AA1 v 1 0 0 w hp);clear hp;go_enter Tryz.func46,Tryz.ntmps46;go_wp2_with fail;refine HR.out.mono ?_;rintro e w2 ⟨rfl,rfl⟩;go_wp2;go_ret2;exact⟨rfl,rfl⟩
theorem BY5:(Tryz.prog.info? 176).map (λi=>(i.zero,i.size,i.bytes))=some (some (.agg (EA 0).cells.toArray),516,536):=by kernel_rfl
theorem BQ5 (d n:Nat)(S:Nat->Prop)(ops:List AD)(w:World)(h:AT S d ops w)(h1:1<=n)(h2:n<=1024) :
  Calls Tryz.prog 46 #[.pointer (some ⟨d,0,none⟩),.int .i64 n] w λe w'=>∃p fb mb,e=.returned (.tuple #[.pointer (some ⟨p,0,none⟩),.int .i64 0])/\AR p d fb mb n 0 0 (λ_=>none) w'/\(w.heap.size<=p/\w.heap.size<=fb/\w.heap.size<=mb)/\Below w.heap.size w w':=by
 have HR:=yH (KN 1 0 0 S d ops w h (by omega) (by omega))
 simp only[List.take_zero]at HR;obtain⟨i,hi,hz,hs,hby⟩:=info_parts BY5;have hmk:∀W:World,(Instr.makeSlice 154 (.int .i64 n) (.int .i64 n)).run Tryz.prog W=.ok (.slice (some ⟨W.heap.size,0,none⟩) n n) (W.alloc (.cells (madeCells (EA 0).cells.toArray (n*516)) 176)):=λW=>by
  have h:=run_make (P:=Tryz.prog) W 154 176 i _ Tryz.underlying154 hi hz .i64 .i64 n n (by omega) (by omega) (by rw[hby];omega) (by omega)
  rw[hs]at h;rw[show (Value.agg (EA 0).cells.toArray).cells=(EA 0).cells.toArray from rfl]at h
  simpa using h
 obtain⟨M,hM⟩:∃M,M=madeCells (EA 0).cells.toArray (n*516):=⟨_,rfl⟩;have hMs:M.size=n*516:=by rw[hM,size_madeCells]
 rw[<-hM]at hmk;have hmm:=@run_makeMap Tryz.prog;have hg1:¬((n:Int)<1):=by omega
 have hg2:¬((1024:Int)<n):=by omega
 have HH:=yH h;clear hM hi hz hs hby h;go_enter Tryz.func46,Tryz.ntmps46;go_wp2_with fail;refine HR.out.mono ?_;rintro e w2 ⟨rfl,hw⟩;subst w2;have hend:AR (w.heap.size+1+1) d w.heap.size (w.heap.size+1) n 0 0 (λ_=>none) (((w.alloc (.cells M 176)).alloc (.map #[] 0)).alloc (.cells #[.pointer (some ⟨w.heap.size+1+1,0,none⟩),.pointer (some ⟨d,0,none⟩),.slice (some ⟨w.heap.size,0,none⟩) n n,.map (some (w.heap.size+1)),.int .i64 0] 157)):=by
  obtain⟨X,hX⟩:∃X:Obj,X=.cells #[.pointer (some ⟨w.heap.size+1+1,0,none⟩),.pointer (some ⟨d,0,none⟩),.slice (some ⟨w.heap.size,0,none⟩) n n,.map (some (w.heap.size+1)),.int .i64 0] 157:=⟨_,rfl⟩;have hfb:(((w.alloc (.cells M 176)).alloc (.map #[] 0)).alloc X).heap[w.heap.size]? = some (.cells M 176 (0,0)):=by
   rw[Below.heap_alloc _ _ _ (by simp;omega),Below.heap_alloc _ _ _ (by simp)]
   exact heap_alloc_new w _
  have hp:(((w.alloc (.cells M 176)).alloc (.map #[] 0)).alloc X).heap[w.heap.size+1+1]? = some X:=by
   have:=heap_alloc_new ((w.alloc (.cells M 176)).alloc (.map #[] 0)) X
   simpa using this
  rw[<-hX];refine⟨by rw[hp,hX];rfl,h1,h2,h1,λj hj=>⟨?_,Lib.frozen_of_heap hfb _⟩,λj=>Lib.frozen_of_heap hfb _,(λi f hf=>by cases hf),(λi j f g hf=>by cases hf),⟨λ_=>none,?_,λi f hf=>by (cases hf),λq v hv=>by (cases hv)⟩,by omega,by omega,by omega⟩
  ·rw[yC hfb,Nat.zero_add,Array.getElem?_eq_getElem (by omega)];rfl
  ·have:=NT (w.alloc (.cells M 176))
   simp only[World.size_alloc]at this;exact this.block (Below.heap_alloc _ _ _ (by simp))
 have HE:=yH hend;clear hend
 go_wp2;go_ret2;exact⟨_,_,_,rfl,HE.out,⟨by omega,by omega,by omega⟩,(((Below.refl _ w).alloc (Nat.le_refl _) _).alloc (by simp) _).alloc (by simp;omega) _⟩
theorem BL2 (n:Nat):chg n (λ_=>none)=0:=by
 induction n with
 | zero=>rfl
 | succ n ih=>rw[chg,ih];rfl
section
variable {B p d n N:Nat} {S:Nat->Prop} {w:World} {C:Nat->List UInt8} {P:Nat->Nat}
end
theorem MW {P:Nat->Nat}(h:∀q,P q=0):DF P=0 :=
 (MX (l:=[]) List.nodup_nil (λq=>by simp[h q])).symm
def BD (J:List AD->Prop)(B:Nat)(S:Nat->Prop)(p d n:Nat)(C:Nat->List UInt8)(P:Nat->Nat)(N:Nat)(w:World):Prop :=
 ∃fb mb hand m fr Sd ops,J ops/\AR p d fb mb n hand m fr w/\N6 n m fr/\AT Sd d ops w/\EN n fr ops C P N/\(¬Sd p/\¬Sd fb/\¬Sd mb)/\(∀k,Sd k\/k=p\/k=fb\/k=mb->S k)/\∀k,S k->B<=k/\k<w.heap.size
section
variable {B p d n N:Nat} {S:Nat->Prop} {w w':World} {C:Nat->List UInt8} {P:Nat->Nat} {J:List AD->Prop}
theorem BD.size (h:BD J B S p d n C P N w):B<=w.heap.size:=by
 obtain⟨fb,mb,hand,m,fr,Sd,ops,hJ,h1,_,_,_,_,h6,h7⟩:=h;have:=h7 p (h6 p (.inr (.inl rfl)))
 omega
theorem BD.low (h:BD J B S p d n C P N w):∀k,S k->B<=k/\k<w.heap.size:=by
 obtain⟨fb,mb,hand,m,fr,Sd,ops,hJ,h1,_,_,_,_,h6,h7⟩:=h;exact h7
theorem BD.more (h:BD J B S p d n C P N w){M:Nat}(hM:N<=M):BD J B S p d n C P M w:=by
 obtain⟨fb,mb,hand,m,fr,Sd,ops,hJ,h1,h2,h3,h4,h5⟩:=h;exact⟨fb,mb,hand,m,fr,Sd,ops,hJ,h1,h2,h3,h4.more hM,h5⟩
theorem BD.kept {T:Nat->Prop}(h:BD J B S p d n C P N w)(hk:AC T w w')(hd:∀k,k<w.heap.size->S k->¬T k):BD J B S p d n C P N w':=by
 obtain⟨fb,mb,hand,m,fr,Sd,ops,hJ,h1,h2,h3,h4,h5,h6,h7⟩:=h;have hn:∀k,Sd k\/k=p\/k=fb\/k=mb->¬T k:=λk hk'=>hd k (h7 k (h6 k hk')).2 (h6 k hk')
 refine⟨fb,mb,hand,m,fr,Sd,ops,hJ,h1.kept hk (hn p (.inr (.inl rfl))) (hn fb (.inr (.inr (.inl rfl)))) (hn mb (.inr (.inr (.inr rfl)))),h2,h3.kept hk (λk _ hs=>hn k (.inl hs)),h4,h5,h6,λk hs=>⟨(h7 k hs).1,Nat.lt_of_lt_of_le (h7 k hs).2 hk.size⟩⟩
theorem BD.below (h:BD J B S p d n C P N w)(hk:Below w.heap.size w w'):BD J B S p d n C P N w' :=
 h.kept (AC.ofBelow (S:=λ_=>False) hk) (λ_ _ _=>id)
theorem G5 {fb mb hand m:Nat}{fr:Nat->Option Fr}{Sd:Nat->Prop}{ops:List AD}(hJ:J ops)(h1:AR p d fb mb n hand m fr w')(h2:N6 n m fr)(h3:AT Sd d ops w')(h4:EN n fr ops C P N)(h5:¬Sd p/\¬Sd fb/\¬Sd mb)
  (h6:∀k,Sd k->S k\/w.heap.size<=k) (h7:S p/\S fb/\S mb) (h8:∀k,S k->B<=k/\k<w.heap.size) (h9:AC S w w'):∃S',AO S w S' w'/\BD J B S' p d n C P N w':=by
 refine⟨λk=>(S k\/w.heap.size<=k)/\k<w'.heap.size,⟨h9,λk hk hs=>hs.1.elim id (by omega)⟩,fb,mb,hand,m,fr,λk=>Sd k/\k<w'.heap.size,ops,hJ,h1,h2,h3.bound,h4,⟨λh=>h5.1 h.1,λh=>h5.2.1 h.1,λh=>h5.2.2 h.1⟩,?_,?_⟩
 ·rintro k (⟨h,hlt⟩ | rfl | rfl | rfl)
  ·exact⟨h6 k h,hlt⟩
  ·exact⟨.inl h7.1,h1.lt⟩
  ·exact⟨.inl h7.2.1,h1.ltF⟩
  ·exact⟨.inl h7.2.2,h1.ltM⟩
 ·rintro k ⟨hk,hlt⟩;refine⟨hk.elim (λh=>(h8 k h).1) (λh=>?_),hlt⟩
  have:=h8 p h7.1
  omega
end
def BN1 (J:List AD->Prop)(B:Nat)(S:Nat->Prop)(p d n:Nat)(C:Nat->List UInt8)(P:Nat->Nat)(N q:Nat)(w:World)(e:Ending)(w':World):Prop :=
 ∃S',AO S w S' w'/\(e=.returned (.int .i64 40)/\P q=0/\DF P=n/\BD J B S' p d n C P N w'\/e=.returned (.int .i64 0)/\¬(P q=0/\DF P=n)/\BD J B S' p d n C (upd P q (P q+1)) (N+1) w')
theorem CB2 (J:List AD->Prop)(B:Nat)(S:Nat->Prop)(p d n:Nat)(C:Nat->List UInt8)(P:Nat->Nat)(N q:Nat)(w:World)(h:BD J B S p d n C P N w)(hN:N<=4398046511104)(hq:q<4096)(hcl:∀ops q,J ops->J (ops++[.put 1 (q*512) ⟨(C q).toArray⟩])) :
  Calls Tryz.prog 97 #[.pointer (some ⟨p,0,none⟩),.int .i64 q] w (BN1 J B S p d n C P N q w):=by
 obtain⟨fb,mb,hand,m,fr,Sd,ops,hJ,hG,hF,hD,hV,hO,hS,hB⟩:=h;have hSS:S p/\S fb/\S mb:=⟨hS p (.inr (.inl rfl)),hS fb (.inr (.inr (.inl rfl))),hS mb (.inr (.inr (.inr rfl)))⟩;by_cases hx:∃i f,fr i=some f/\f.page=q
 ·
  obtain⟨i,f,hi,rfl⟩:=hx;obtain⟨hin,_,hfb,_⟩:=hG.at_ i f hi;obtain⟨hC,hP,_⟩:=hV.held i f hi;have hpn:f.pins<=N:=by rw[<-hP];exact hV.bnd _
  refine (AA5 p d fb mb n hand m i fr f w hG hi (by omega)).mono ?_
  rintro e w' ⟨rfl,g1,g2⟩;have hV2:=hV.turn hG.one hi hin (f':={ f with pins:=f.pins+1,lately:=true }) rfl (λh=>⟨h,rfl⟩) (by show f.pins+1<=N+1;omega)
  have hC2:upd C f.page f.bytes=C:=by rw[<-hC];exact GV _ _
  have hV3:EN n (upd fr i (some { f with pins:=f.pins+1,lately:=true })) ops C (upd P f.page (P f.page+1)) (N+1):=by
   rw[hP];rw[show ({ f with pins:=f.pins+1,lately:=true }:Fr).bytes=f.bytes from rfl,hC2]at hV2;exact hV2
  obtain⟨S',hT,hSt⟩:=G5 (S:=S) (B:=B) (w:=w) hJ g1 ⟨hF.1,λj=>by
   rw[hF.2 j];by_cases hj:j=i
   ·subst hj;rw[AB];exact⟨λ_=>⟨_,rfl⟩,λ_=>⟨f,hi⟩⟩
   ·rw[AA _ _ hj]⟩ (hD.kept g2 (λk _ hs e=>hO.2.1 (e ▸ hs))) hV3 hO (λk hk=>.inl (hS k (.inl hk))) hSS hB (g2.mono (λk hk=>hk ▸ hSS.2.1))
  refine⟨S',hT,.inr ⟨rfl,?_,hSt⟩⟩;rintro⟨h0,h1⟩;exact KV hG hV hin (λg hg=>by rw[hi]at hg;cases hg;omega) h1
 ·have hno:∀j f,fr j=some f->f.page≠q:=λj f hj e=>hx ⟨j,f,hj,e⟩
  have hP0:=(hV.free q hno).2;by_cases hm:m<n
  ·
   have hnone:fr m=none:=by
    cases hf:fr m with
    | none=>rfl
    | some f=>have:=(hF.2 m).2 ⟨f,hf⟩;omega
   have hs:Calls Tryz.prog 137 #[.pointer (some ⟨p,0,none⟩)] w λe w'=>∃i hand' m' fr' S ops',e=.returned (DK fb i)/\N2 S p d fb mb n q hand' m' fr' ops' i w'/\(i=m/\m'=m/\fr'=fr/\S=Sd/\ops'=ops/\w'=w) :=
    (PY p d fb mb n hand m fr w hG hm).mono λe w' ⟨h1,h2⟩=>⟨m,hand,m,fr,Sd,ops,h1,by subst h2;exact⟨hG,hnone,hm,hF.1,hno,hD,hO.1,hO.2.1,hO.2.2⟩,rfl,rfl,rfl,rfl,rfl,h2⟩
   refine (OX p d fb mb n hand m fr q (λi m' fr' S ops' w'=>i=m/\m'=m/\fr'=fr/\S=Sd/\ops'=ops/\w'=w) w hG hq hno hs).mono ?_
   rintro e w' ⟨rfl,i,hand',m',fr',S2,ops',w1,_,⟨hX1,hX2,hX3,hX4,hX5,hX6⟩,g1,g2,g3⟩;subst hX2 hX3 hX4 hX5 hX6;rw[hX1]at g1;obtain⟨S',hT,hSt⟩:=G5 (S:=S) (B:=B) (w:=w1) hJ g1 ⟨hm,λj=>by
    by_cases hj:j=m'
    ·subst hj;rw[AB];exact⟨λ_=>⟨_,rfl⟩,λ_=>by omega⟩
    ·rw[AA _ _ hj,<-hF.2 j];omega⟩ g2 (hV.load hnone hm hno) hO (λk hk=>.inl (hS k (.inl hk))) hSS hB (g3.mono (λk hk=>by rcases hk with rfl | rfl;exact hSS.2.1;exact hSS.2.2))
   refine⟨S',hT,.inr ⟨rfl,?_,?_⟩⟩
   ·rintro⟨_,h1⟩;exact KV hG hV hm (λg hg=>by rw[hnone]at hg;cases hg) h1
   ·rw[hP0];exact hSt
  ·have hmn:m=n:=by have:=hF.1;omega
   have hsp:=PX p d fb mb n hand m fr Sd ops w hG hF hmn hD (by have:=hV.cost;omega) hO.1 hO.2.1 hO.2.2
   by_cases hall:∀i,i<n->∃f,fr i=some f/\0<f.pins
   ·
    have hs:Calls Tryz.prog 137 #[.pointer (some ⟨p,0,none⟩)] w λe w'=>e=.returned (.pointer none)/\∃hand' fr',JD fr fr'/\AR p d fb mb n hand' m fr' w'/\AC (λk=>k=p\/k=fb) w w':=by
     refine hsp.mono ?_;rintro e w' ⟨hand',fr',hL,he | ⟨i,f,S',hin,hi,hp,_⟩⟩
     ·exact⟨he.1,hand',fr',hL,he.2.1,he.2.2.2⟩
     ·exfalso
      obtain⟨f0,hf0,_,e2,_⟩:=CG hL hi;obtain⟨g,hg,hgp⟩:=hall i hin;rw[hf0]at hg;cases hg
      omega
    refine (AO3 p d fb mb n hand m fr q (λw'=>∃hand' fr',JD fr fr'/\AR p d fb mb n hand' m fr' w'/\AC (λk=>k=p\/k=fb) w w') w hG hq hno hs).mono ?_
    rintro e w' ⟨rfl,hand',fr',hL,g1,g2⟩;obtain⟨S',hT,hSt⟩:=G5 (S:=S) (B:=B) (w:=w) hJ g1 ⟨hF.1,λj=>by
     rw[hF.2 j];constructor
     ·rintro⟨f,hf⟩;obtain⟨b,hb⟩:=F4 hL hf;exact⟨_,hb⟩
     ·rintro⟨f,hf⟩;obtain⟨f0,hf0,_⟩:=CG hL hf;exact⟨_,hf0⟩⟩ (hD.kept g2 (λk _ hsd e=>by rcases e with rfl | rfl;exact hO.1 hsd;exact hO.2.1 hsd)) (hV.late hL) hO (λk hk=>.inl (hS k (.inl hk))) hSS hB (g2.mono (λk hk=>by rcases hk with rfl | rfl;exact hSS.1;exact hSS.2.1))
    exact⟨S',hT,.inl ⟨rfl,hP0,AD0 hG hV hall,hSt⟩⟩
   ·
    obtain⟨i0,hi0,hp0⟩:∃i,i<n/\∀f,fr i=some f->f.pins=0:=by
     refine Classical.byContradiction λhc=>hall λi hi=>?_
     obtain⟨f,hf⟩:=(hF.2 i).1 (by omega)
     refine⟨f,hf,?_⟩;refine Classical.byContradiction λhc2=>hc ⟨i,hi,λg hg=>?_⟩
     rw[hf]at hg;cases hg;omega
    have hs:Calls Tryz.prog 137 #[.pointer (some ⟨p,0,none⟩)] w λe w'=>∃i hand' m' fr2 S2 ops',e=.returned (DK fb i)/\N2 S2 p d fb mb n q hand' m' fr2 ops' i w' /\
      (m'=m-1/\(∃fr1 f,JD fr fr1/\fr1 i=some f/\f.pins=0/\fr2=upd fr1 i none/\ops'=FV f ops/\f.bytes.length=512)/\AC (λk=>Sd k\/k=p\/k=fb\/k=mb) w w'/\∀k,S2 k->Sd k\/w.heap.size<=k):=by
     refine hsp.mono ?_;rintro e w' ⟨hand',fr',hL,⟨_,_,ha,_⟩ | ⟨i,f,S2,hin,hi,hp,he,g1,g2,g3,g4⟩⟩
     ·exfalso
      obtain⟨f,hf⟩:=(hF.2 i0).1 (by omega)
      obtain⟨b,hb⟩:=F4 hL hf;have h1:=ha i0 _ hi0 hb;have h2:=hp0 f hf;simp only at h1;omega
     ·obtain⟨f0,hf0,_,_,_,e4⟩:=CG hL hi;have hbl:f.bytes.length=512:=by rw[e4];exact (hG.at_ i f0 hf0).2.2.1
      refine⟨i,hand',m-1,upd fr' i none,S2,FV f ops,he,⟨g1,AB _ _ _,hin,by omega,λj g hg=>?_,g2,?_,?_,?_⟩,rfl,⟨fr',f,hL,hi,hp,rfl,rfl,hbl⟩,g3,g4⟩
      ·by_cases hj:j=i
       ·subst hj;rw[AB]at hg;cases hg
       ·rw[AA _ _ hj]at hg;obtain⟨g0,hg0,e1,_⟩:=CG hL hg;rw[e1];exact hno j g0 hg0
      ·exact λhh=>(g4 p hh).elim hO.1 (by have:=hG.lt;omega)
      ·exact λhh=>(g4 fb hh).elim hO.2.1 (by have:=hG.ltF;omega)
      ·exact λhh=>(g4 mb hh).elim hO.2.2 (by have:=hG.ltM;omega)
    refine (OX p d fb mb n hand m fr q _ w hG hq hno hs).mono ?_;rintro e w' ⟨rfl,i,hand',m',fr2,S2,ops',w1,hSp,⟨rfl,⟨fr1,f,hL,hi,hp,rfl,rfl,hbl⟩,k1,k2⟩,g1,g2,g3⟩;have one1:∀a b x y,fr1 a=some x->fr1 b=some y->x.page=y.page->a=b:=λa b x y hx hy hxy=>by
     obtain⟨x0,hx0,ex,_⟩:=CG hL hx;obtain⟨y0,hy0,ey,_⟩:=CG hL hy;exact hG.one a b x0 y0 hx0 hy0 (by omega)
    have hV1:=(hV.late hL).evict one1 hi hSp.lt hbl hp;have hV2:=hV1.load hSp.none_ hSp.lt hSp.no;have hn1:=hG.n1;have hJ2:J (FV f ops):=by
     unfold FV;cases hc:f.changed
     ·exact hJ
     ·have:=hcl ops f.page hJ
      rwa [((hV.late hL).held i f hi).1]at this
    obtain⟨S',hT,hSt⟩:=G5 (S:=S) (B:=B) (w:=w) hJ2 g1 ⟨by omega,λj=>by
     by_cases hj:j=i
     ·subst hj;rw[AB]
      have:=hSp.lt
      exact⟨λ_=>⟨_,rfl⟩,λ_=>by omega⟩
     ·rw[AA _ _ hj,AA _ _ hj];rw[show j<m-1+1 ↔ j<m from by omega,hF.2 j]
      constructor
      ·rintro⟨f,hf⟩;obtain⟨b,hb⟩:=F4 hL hf;exact⟨_,hb⟩
      ·rintro⟨f,hf⟩;obtain⟨f0,hf0,_⟩:=CG hL hf;exact⟨_,hf0⟩⟩ g2 hV2 ⟨hSp.oP,hSp.oF,hSp.oM⟩ (λk hk=>(k2 k hk).imp (λh=>hS k (.inl h)) id) hSS hB
     ((k1.mono (λk hk=>hS k hk)).trans g3 (λk hk=>by rcases hk with rfl | rfl;exact .inl hSS.2.1;exact .inl hSS.2.2))
    refine⟨S',hT,.inr ⟨rfl,?_,?_⟩⟩
    ·rintro⟨_,h1⟩;exact KV hG hV hi0 hp0 h1
    ·rw[hP0];exact hSt
section
variable {B p d n N:Nat} {S:Nat->Prop} {w:World} {C:Nat->List UInt8} {P:Nat->Nat} {J:List AD->Prop}
theorem BX0 (h:BD J B S p d n C P N w)(q:Nat)(hp:0<P q) :
  Calls Tryz.prog 98 #[.pointer (some ⟨p,0,none⟩),.int .i64 q] w λe w'=>e=.returned (.tuple #[.string ⟨(C q).toArray⟩,.int .i64 0])/\w'=w:=by
 obtain⟨fb,mb,hand,m,fr,Sd,ops,hJ,hG,_,_,hV,_⟩:=h;obtain⟨i,f,hi,rfl,_,hfp,_⟩:=NX hG hV hp;rw[(hV.held i f hi).1];exact AT8 p d fb mb n hand m i fr f w hG hi (by omega)
def AQ2 (J:List AD->Prop)(B:Nat)(S:Nat->Prop)(p d n:Nat)(C:Nat->List UInt8)(P:Nat->Nat)(N:Nat)(w:World)(e:Ending)(w':World):Prop :=
 e=.returned (.int .i64 0)/\∃S',AO S w S' w'/\BD J B S' p d n C P N w'
theorem BA1 {fb mb hand m i:Nat}{fr:Nat->Option Fr}{Sd:Nat->Prop}{ops:List AD}{f f':Fr}{w':World}(hJ:J ops)(hG:AR p d fb mb n hand m fr w)(hF:N6 n m fr)(hD:AT Sd d ops w)(hV:EN n fr ops C P N)(hO:¬Sd p/\¬Sd fb/\¬Sd mb)(hS:∀k,Sd k\/k=p\/k=fb\/k=mb->S k)(hB:∀k,S k->B<=k/\k<w.heap.size)
  (hi:fr i=some f) (hFr:D2 w' fb (i*516) f') (hT:BJ fb (i*516) 516 w w') (hK:AC (λk=>k=fb) w w') (hb:f'.bytes.length=512) (hpg:f'.page=f.page) (hc:f'.changed=false->f.changed=false/\f'.bytes=f.bytes) (hN:f'.pins<=N+1) :
  ∃S',AO S w S' w'/\BD J B S' p d n (upd C f.page f'.bytes) (upd P f.page f'.pins) (N+1) w':=by
 have hSS:S p/\S fb/\S mb:=⟨hS p (.inr (.inl rfl)),hS fb (.inr (.inr (.inl rfl))),hS mb (.inr (.inr (.inr rfl)))⟩;exact G5 hJ (hG.turnFr hi hT hK hFr hb hpg) ⟨hF.1,λj=>by
   rw[hF.2 j];by_cases hj:j=i
   ·subst hj;rw[AB];exact⟨λ_=>⟨_,rfl⟩,λ_=>⟨f,hi⟩⟩
   ·rw[AA _ _ hj]⟩ (hD.kept hK (λk _ hs e=>hO.2.1 (e ▸ hs))) (hV.turn hG.one hi (hG.at_ i f hi).1 hpg hc hN) hO (λk hk=>.inl (hS k (.inl hk))) hSS hB (hK.mono (λk hk=>hk ▸ hSS.2.1))
theorem BO8 (h:BD J B S p d n C P N w)(q:Nat)(hp:0<P q)(hN:N<=4398046511104) :
  Calls Tryz.prog 99 #[.pointer (some ⟨p,0,none⟩),.int .i64 q] w (AQ2 J B S p d n C (upd P q (P q-1)) (N+1) w):=by
 obtain⟨fb,mb,hand,m,fr,Sd,ops,hJ,hG,hF,hD,hV,hO,hS,hB⟩:=h;obtain⟨i,f,hi,rfl,_,hfp,_⟩:=NX hG hV hp;have hb:=hV.bnd f.page;refine (RW p d fb mb n hand m i fr f w hG hi (by omega) (by omega)).mono ?_
 rintro e w' ⟨rfl,g1,g2,g3⟩;obtain⟨S',hT,hSt⟩:=BA1 hJ hG hF hD hV hO hS hB hi g1 g2 g3 (hG.at_ i f hi).2.2.1 rfl (λh=>⟨h,rfl⟩) (by show f.pins-1<=N+1;omega)
 refine⟨rfl,S',hT,?_⟩;have hC:=(hV.held i f hi).1;rw[show ({ f with pins:=f.pins-1 }:Fr).bytes=C f.page from hC.symm,GV]at hSt
 rw[<-hfp];exact hSt
theorem BO1 (h:BD J B S p d n C P N w)(q a:Nat)(s:ByteArray)(hp:0<P q)(ha:a+s.size<=512) :
  Calls Tryz.prog 135 #[.pointer (some ⟨p,0,none⟩),.int .i64 q,.int .i64 a,.string s] w (AQ2 J B S p d n (upd C q (splice (C q) a s.data.toList)) P (N+1) w):=by
 obtain⟨fb,mb,hand,m,fr,Sd,ops,hJ,hG,hF,hD,hV,hO,hS,hB⟩:=h;obtain⟨i,f,hi,rfl,_,hfp,_⟩:=NX hG hV hp;have hb:=hV.bnd f.page;have hbl:=(hG.at_ i f hi).2.2.1;refine (AI8 p d fb mb n hand m i a fr f s w hG hi (by omega) ha).mono ?_
 rintro e w' ⟨rfl,g1,g2,g3⟩;have he:s.data.toList.length=s.size:=rfl;obtain⟨S',hT,hSt⟩:=BA1 hJ hG hF hD hV hO hS hB hi g1 g2 g3 (by show (splice f.bytes a s.data.toList).length=512;rw[length_splice _ _ _ (by rw[he,hbl];exact ha)];exact hbl) rfl (λh=>by
  simp only[Bool.or_eq_false_iff,decide_eq_false_iff_not,ne_eq,Classical.not_not]at h;refine⟨h.1,?_⟩;have:s.data.toList=[]:=List.eq_nil_of_length_eq_zero (by rw[he,h.2])
  show splice f.bytes a s.data.toList=f.bytes;rw[this,LS]) (by show f.pins<=N+1;omega)
 refine⟨rfl,S',hT,?_⟩;have hC:=(hV.held i f hi).1;have hP:=(hV.held i f hi).2.1;rw[show ({ f with bytes:=splice f.bytes a s.data.toList,changed:=f.changed || decide (s.size≠0) }:Fr).bytes=splice f.bytes a s.data.toList from rfl,show ({ f with bytes:=splice f.bytes a s.data.toList,changed:=f.changed || decide (s.size≠0) }:Fr).pins=P f.page from hP.symm,GV]at hSt
 rw[hC];exact hSt
end
def w4 (n:Nat):List UInt8:=[UInt8.ofNat (n / 16777216),UInt8.ofNat (n / 65536),UInt8.ofNat (n / 256),UInt8.ofNat n]
def v4 (l:List UInt8):Nat:=l.foldl (λu c=>u*256+c.toNat) 0
theorem VY (l:List UInt8)(c:UInt8):v4 (l++[c])=v4 l*256+c.toNat:=by simp[v4]
theorem E8 (n:Nat):(w4 n).length=4:=rfl
theorem BV1 (n:Nat)(h:n<4294967296):v4 (w4 n)=n:=by
 simp only[v4,w4,List.foldl_cons,List.foldl_nil,UInt8.toNat_ofNat'];omega
theorem AZ8 (l:List UInt8):∀k,l.length<=k->v4 l<256 ^ k:=by
 have H:∀(l:List UInt8) u k,u<256 ^ k->l.foldl (λu c=>u*256+c.toNat) u<256 ^ (k+l.length):=by
  intro l;induction l with
  | nil=>intro u k h;simpa using h
  | cons c l ih =>
   intro u k h;have hc:=c.toNat_lt;have:=ih (u*256+c.toNat) (k+1) (by rw[Nat.pow_succ];omega)
   rw[List.foldl_cons,List.length_cons,show k+(l.length+1)=k+1+l.length by omega]
   exact this
 intro k hk;have:=H l 0 0 (by decide)
 rw[Nat.zero_add]at this;exact Nat.lt_of_lt_of_le this (Nat.pow_le_pow_right (by decide) hk)
def frm (r:ByteArray)(k:Nat):List UInt8:=w4 r.size++r.data.toList++w4 k
theorem GF (r:ByteArray)(k:Nat):(frm r k).length=r.size+8:=by
 have:r.data.toList.length=r.size:=rfl
 simp only[frm,List.length_append,E8,this];omega
def QM:Nat->List ByteArray->List UInt8
 | _,[]=>[]
 | k,r::rs=>frm r k++QM (k+1) rs
def DO (rs:List ByteArray):List UInt8:=QM 1 rs
theorem T2 (r:ByteArray):∀(rs:List ByteArray) (k:Nat),QM k (rs++[r])=QM k rs++frm r (k+rs.length)
 | [],k=>by simp[QM]
 | q::rs,k=>by
  have:=T2 r rs (k+1)
  simp only[List.cons_append,QM,this,List.append_assoc,List.length_cons];rw[show k+1+rs.length=k+(rs.length+1) by omega]
theorem T3 (rs:List ByteArray)(r:ByteArray):DO (rs++[r])=DO rs++frm r (rs.length+1):=by
 rw[DO,T2,Nat.add_comm 1 rs.length];rfl
def GL (rs:List ByteArray):Prop:=∀r ∈ rs,1<=r.size/\r.size<=1048576
theorem GL.nil:GL []:=λr hr=>by simp at hr
theorem OF:∀(rs:List ByteArray) (k:Nat),GL rs->9*rs.length<=(QM k rs).length
 | [],_,_=>by simp
 | r::rs,k,h=>by
  have h1:=OF rs (k+1) (λx hx=>h x (by simp[hx]))
  have h2:=(h r (by simp)).1
  simp only[QM,List.length_append,GF,List.length_cons];omega
theorem JZ {rs:List ByteArray}(h:GL rs):9*rs.length<=(DO rs).length:=OF rs 1 h
def RS (l:List UInt8):Option (List UInt8 × List UInt8) :=
 if l.length<8 then none else if l.length-8<v4 (l.take 4) then none else some ((l.drop 4).take (v4 (l.take 4)),l.drop (v4 (l.take 4)+8))
theorem BK2 {r:ByteArray}{k:Nat}{rest:List UInt8}(h:r.size<=1048576):RS (frm r k++rest)=some (r.data.toList,rest):=by
 have hl:r.data.toList.length=r.size:=rfl;have e1:(frm r k++rest).take 4=w4 r.size:=by
  simp only[frm,List.append_assoc];exact List.take_left' (E8 _)
 have e2:(frm r k++rest).drop 4=r.data.toList++(w4 k++rest):=by
  simp only[frm,List.append_assoc];exact List.drop_left' (E8 _)
 have e3:(frm r k++rest).drop (r.size+8)=rest:=List.drop_left' (GF r k);have e4:(frm r k++rest).length=r.size+8+rest.length:=by rw[List.length_append,GF]
 unfold RS;rw[e1,e2,BV1 _ (by omega),e3,if_neg (by omega),if_neg (by omega),List.take_left' hl]
theorem AD9 {l a b:List UInt8}(h:RS l=some (a,b)):b.length<l.length/\a.length=v4 (l.take 4)/\a.length+8<=l.length:=by
 unfold RS at h;split at h
 ·cases h
 ·split at h
  ·cases h
  ·rename_i h1 h2
   injection h with h
   injection h with h3 h4
   subst h3;subst h4
   simp only[List.length_drop,List.length_take];omega
theorem AU8 {rs:List ByteArray}(h:rs≠[])(hl:(DO rs).length<=4194304)(hr:GL rs):4<=(DO rs).length/\v4 ((DO rs).drop ((DO rs).length-4))=rs.length:=by
 have h9:=JZ hr;have hne:0<rs.length:=List.length_pos_iff.2 h;refine⟨by omega,?_⟩
 obtain⟨q,r,rfl⟩:∃q r,rs=q++[r]:=⟨rs.dropLast,rs.getLast h,(List.dropLast_concat_getLast h).symm⟩;rw[T3,frm,<-List.append_assoc];have:(DO q++(w4 r.size++r.data.toList)++w4 (q.length+1)).length-4=(DO q++(w4 r.size++r.data.toList)).length:=by simp only[List.length_append,E8];omega
 rw[this,List.drop_left,BV1,List.length_append,List.length_singleton];simp only[List.length_append,List.length_singleton]at h9;omega
theorem BD4 (l cs:List UInt8):MT l l.length cs=l++cs:=by
 unfold MT splice;rw[List.take_left,List.drop_of_length_le (by simp),List.append_nil]
def AK (w:World)(a:Option Addr)(l:List UInt8):Prop :=
 l=[]\/∃b off,a=some ⟨b,off,none⟩/\b<w.heap.size/\∀j (h:j<l.length),w.cell? ⟨b,off+j,none⟩=some (.int .u8 (l[j].toNat:Int))
theorem AK.at {w:World}{a:Option Addr}{l:List UInt8}(h:AK w a l)(hl:0<l.length):∃b off,a=some ⟨b,off,none⟩/\b<w.heap.size/\∀j (h:j<l.length),w.cell? ⟨b,off+j,none⟩=some (.int .u8 (l[j].toNat:Int)):=by
 rcases h with rfl|h
 ·simp at hl
 ·exact h
theorem AK.below {w w':World}{a:Option Addr}{l:List UInt8}(h:AK w a l)(hb:Below w.heap.size w w'):AK w' a l:=by
 rcases h with h|⟨b,off,h1,h2,h3⟩
 ·exact .inl h
 ·exact .inr ⟨b,off,h1,Nat.lt_of_lt_of_le h2 hb.size,λj hj=>(hb.cell (p:=⟨b,off+j,none⟩) h2).trans (h3 j hj)⟩
theorem BE3 (N:Nat)(b:Nat)(hN:N<36028797018963968)(hb:b<256):bits BinOp.or IntKind.i64 ((N:Int)*256) (b:Int)=((N*256+b:Nat):Int):=by
 have h1:(BitVec.ofInt 64 ((N:Int)*256)).toNat=N*256:=by rw[BitVec.toNat_ofInt];omega
 have h2:(BitVec.ofInt 64 (b:Int)).toNat=b:=by rw[BitVec.toNat_ofInt];omega
 show IntKind.i64.wrap ((BitVec.ofInt 64 ((N:Int)*256) ||| BitVec.ofInt 64 (b:Int)).toNat:Int)=_
 rw[BitVec.toNat_or,h1,h2,nat_join 8 (N*256) b (by omega) hb,IntKind.wrap_i64]
 omega
theorem AH0 (a:Option Addr)(l:List UInt8)(c:Nat)(w:World)(hl:l.length<=6)(hR:AK w a l) :
  Calls Tryz.prog 176 #[.slice a l.length c] w λe w'=>e=.returned (.int .i64 (v4 l))/\w'=w:=by
 have HR:=yH hR;clear hR
 go_enter Tryz.func176,Tryz.ntmps176;go_wp2;go_loop [3,5,8] (λn _ i=>∃k:Nat,k<=l.length/\i=.int .i64 k/\n=.int .i64 (v4 (l.take k))) (λ_ _ i=>l.length-(intOf i).toNat)
 case atStart=>exact⟨0,by omega,rfl,rfl⟩
 case round =>
  obtain⟨k,hk,rfl,rfl⟩:=hrel;by_cases hlt:k<l.length
  ·obtain⟨b,off,rfl,_,hc⟩:=HR.out.at (by omega)
   have hck:=hc k hlt;clear hc;have hN:v4 (l.take k)<36028797018963968:=by
    refine Nat.lt_of_lt_of_le (AZ8 _ 6 ?_) (by decide)
    have:=List.length_take_le k l
    omega
   have hcb:=l[k].toNat_lt;have hor:=BE3 (v4 (l.take k)) l[k].toNat hN hcb;have HS:Hid (v4 (l.take (k+1))=v4 (l.take k)*256+l[k].toNat):=yH (by rw[List.take_succ_eq_append_getElem hlt,VY])
   have HOR:=yH hor;clear hor
   go_wp2_with fail;go_round
   case rel=>exact⟨k+1,by omega,by go_num,by rw[HS.out,HOR.out]⟩
   case measure=>simp[intOf];omega
  ·obtain rfl:k=l.length:=by omega
   go_wp2;go_ret;exact⟨rfl,rfl⟩
theorem AZ5 (w:World)(n:Nat)(hn:n<4294967296) :
  (convert 102 9 (.slice (some ⟨w.heap.size,0,none⟩) 4 4)).run Tryz.prog (w.alloc (.cells #[.int .u8 ((n:Int) / 16777216),.int .u8 ((n:Int) / 65536 % 256),.int .u8 ((n:Int) / 256 % 256),.int .u8 ((n:Int) % 256)] 5)) =
   .ok (.string ⟨(w4 n).toArray⟩) (w.alloc (.cells #[.int .u8 ((n:Int) / 16777216),.int .u8 ((n:Int) / 65536 % 256),.int .u8 ((n:Int) / 256 % 256),.int .u8 ((n:Int) % 256)] 5)):=by
 refine run_convert_bytes_back (P:=Tryz.prog) _ 102 9 5 ⟨w.heap.size,0,none⟩ 4 (w4 n) Tryz.underlying102 Tryz.underlying5 Tryz.underlying9 ?_;intro j hj;have hj':j<4:=hj;have hc:j=0\/j=1\/j=2\/j=3:=by omega
 rw[show (⟨w.heap.size,0,none⟩:Addr).add j=⟨w.heap.size,j,none⟩ by rw[Addr.add_lit,Nat.zero_add],yC (b:=w.heap.size) (cs:=#[.int .u8 ((n:Int) / 16777216),.int .u8 ((n:Int) / 65536 % 256),.int .u8 ((n:Int) / 256 % 256),.int .u8 ((n:Int) % 256)]) (heap_alloc_new w _)]
 rcases hc with rfl|rfl|rfl|rfl <;> simp[w4] <;> omega
theorem Y4 (n:Nat)(w:World)(hn:n<4294967296) :
  Calls Tryz.prog 182 #[.int .i64 n] w λe w'=>e=.returned (.string ⟨(w4 n).toArray⟩)/\Below w.heap.size w w':=by
 have hcv:=AZ5 w n hn;go_enter Tryz.func182,Tryz.ntmps182;go_wp2;go_ret;exact⟨rfl,(Below.refl _ _).alloc (Nat.le_refl _) _⟩
theorem VL (a b:List UInt8):(⟨a.toArray⟩:ByteArray)++⟨b.toArray⟩=⟨(a++b).toArray⟩:=ByteArray.ext (by simp)
theorem AL7 (s:ByteArray):s=⟨s.data.toList.toArray⟩:=ByteArray.ext (by simp)
theorem AK9 (r:ByteArray)(k:Nat)(w:World)(hr:r.size<=1048576)(hk:k<4294967296) :
  Calls Tryz.prog 144 #[.string r,.int .i64 k] w λe w'=>e=.returned (.string ⟨(frm r k).toArray⟩)/\Below w.heap.size w w':=by
 have hlen:¬9223372036854775807<(w4 r.size).length+r.size:=by rw[E8];omega
 have hlen2:¬9223372036854775807<(w4 r.size).length+r.size+(w4 k).length:=by rw[E8,E8];omega
 go_enter Tryz.func144,Tryz.ntmps144;go_wp2_with fail;refine (Y4 _ _ (by omega)).mono ?_
 rintro e w1 ⟨rfl,hb1⟩;go_wp2_with fail;refine (Y4 _ _ hk).mono ?_;rintro e w2 ⟨rfl,hb2⟩;go_wp2;go_ret;refine⟨?_,hb1.trans (hb2.mono hb1.size)⟩;have e:(⟨(w4 r.size).toArray⟩:ByteArray)++r++⟨(w4 k).toArray⟩=⟨(frm r k).toArray⟩:=by
  conv=>lhs;rw[AL7 r,VL,VL]
  rfl
 rw[<-e];rfl
end Go.Proofs.YtfbbjiidccbaiaaGreatDoor
