/- Texts of one proof, one behind the other: WY, YA, SZM, YO, YZ, ZA, ZB, ZC, ZD, ZE, ZF. -/
import Derived.Test.YtfbbjiidccbaiaaGreatDoorQAU
import Derived.Test.YtfbbjiidccbaiaaGreatDoorQAQ
import Derived.Deep.CutRange
import Derived.Test.YtfbbjiidccbaiaaGreatDoorQAI
import Derived.Test.YtfbbjiidccbaiaaGreatDoorQAP
import Derived.Lib.AppendZerosOnto
import Derived.Test.YtfbbjiidccbaiaaGreatDoorRows
import Derived.ProofKit
import Derived.SizedLaws
import Derived.LaidMore
import Derived.OpenShut
import Derived.Lib.SmallJoins
import Derived.Deep.Slices
import Derived.Deep.Fields
import Derived.ChangeSame
import Derived.Carry
import Derived.Test.YtfbbjiidccbaiaaGreatDoorQAA
set_option maxRecDepth 100000
set_option maxHeartbeats 6400000
namespace Go.Proofs.YtfbbjiidccbaiaaGreatDoor
open Go.RowKit
section
variable {J:List AD->Prop} {B:Nat} {S:Nat->Prop} {c:Ac} {h:Hd} {G:Nat->List UInt8} {w:World} {tb r L:Nat} {t:Tr L} {lo:List UInt8} {hi:Option (List UInt8)} {n0:NO} {vlo vhi:Value}
theorem PZ (hrec:0<L->AG2 J B c h G tb r L t lo hi n0)(x:AU J B S c h G w)(ht:AH w tb c.a r)(htS:¬S tb)(hn:DM S w n0)(his:n0.level=L/\n0.ens=t.ens)(htd:CJ t)(hord:Ord t lo hi)(hlo:CY S w vlo lo)(hhi:HiO S w vhi hi) :
  Calls Tryz.prog 74 #[.pointer (some ⟨tb,0,none⟩),n0.ptr,vlo,vhi] w λe w'=>e=.returned (.bool true)/\BI J B S c h G w w':=by
 have HRD:Hid (∀(S':Nat->Prop) (wr:World) (i:Nat),I9 J B S c h G w S' wr->i<n0.ens.length->∃(bb of:Nat) (kv vv kk vn:Value),n0.arr=some ⟨bb,of,none⟩/\AM4 J B S c h G tb L n0.ens.length n0.cap n0 vlo vhi i bb of kv vv kk vn w wr):=yH λS' wr i I hi=>ZO hrec I ht htS hn his htd hord hlo hhi hi
 have HI0:Hid (∃S',I9 J B S c h G w S' w):=yH ⟨S,x,AO.refl S w⟩;have HN2:Hid (∀(S':Nat->Prop) (wr:World),I9 J B S c h G w S' wr->wr.cell? ⟨n0.blk,2,none⟩=some (.slice n0.arr n0.ens.length n0.cap)):=yH λS' wr I=>(hn.turn I.turn).1.c2
 have hne:1<=n0.ens.length:=by
  rw[his.2];exact List.length_pos_iff.2 htd.2.1
 have h512:=hn.1.short.1;have c2:=hn.1.c2;obtain⟨Al,cl,rfl,-⟩:=hlo.reads;obtain⟨ll,hll⟩:∃ll,ll=lo.length:=⟨_,rfl⟩;rw[<-hll]at HRD ⊢
 clear hrec x ht htS hn his htd hord hlo hhi hll;unfold NO.ptr;obtain⟨nb,hnb⟩:∃nb,nb=n0.blk:=⟨_,rfl⟩;obtain⟨N,hN⟩:∃N,N=n0.ens.length:=⟨_,rfl⟩;obtain⟨ar,har⟩:∃ar,ar=n0.arr:=⟨_,rfl⟩;obtain⟨cp,hcp⟩:∃cp,cp=n0.cap:=⟨_,rfl⟩;rw[<-hnb,<-hN,<-har,<-hcp]at c2 HN2;rw[<-hN,<-har,<-hcp]at HRD;rw[<-hN]at hne h512;rw[<-hnb];have HNB:=yH hnb;clear hnb hN har hcp;have hN0:(0:Int)<(N:Int):=by omega
 have hN1:decide (0<N)=true:=decide_eq_true (by omega)
 go_enter Tryz.func74,Tryz.ntmps74;go_wp2;go_loopw [17] (λi wr=>∃k:Nat,k<=N/\i=.int .i64 k/\Hid (∃S',I9 J B S c h G w S' wr)) (λi _=>N-(intOf i).toNat)
 case atStart=>exact⟨0,by omega,rfl,HI0⟩
 case round =>
  obtain⟨k,hk,rfl,HI⟩:=hrel;by_cases hkn:k<N
  ·obtain⟨bb,of,kv,vv,kk,vn,harr,HR⟩:∃(bb of:Nat) (kv vv kk vn:Value),ar=some ⟨bb,of,none⟩/\Hid (AM4 J B S c h G tb L N cp n0 (.slice Al ll cl) vhi k bb of kv vv kk vn w wr):=by
    obtain⟨S',I⟩:=HI.out;obtain⟨bb,of,kv,vv,kk,vn,h1,h2⟩:=HRD.out S' wr k I hkn;exact⟨bb,of,kv,vv,kk,vn,h1,yH h2⟩
   subst harr;obtain⟨Ak,lk,ck,rfl⟩:=HR.out.s1;obtain⟨Av,lv,cv,rfl⟩:=HR.out.s2;obtain⟨W1,hW1⟩:∃W1,W1=wr.alloc (.cells #[kk,.slice Av lv cv] 135):=⟨_,rfl⟩;have hb1:Below wr.heap.size wr W1:=by rw[hW1];exact (Below.refl _ _).alloc (Nat.le_refl _) _
   have hz1:W1.heap.size=wr.heap.size+1:=by rw[hW1];simp
   have hnew:W1.heap[wr.heap.size]? = some (.cells #[kk,.slice Av lv cv] 135 (0,0)):=by rw[hW1];exact heap_alloc_new wr _
   have q0:wr.cell? ⟨nb,1,none⟩=some (.int .i64 L):=by rw[HNB.out];exact (HR.out.lev wr (Below.refl _ _)).1
   have q00:wr.cell? ⟨nb,2,none⟩=some (.slice (some ⟨bb,of,none⟩) N cp):=by rw[HNB.out];exact (HR.out.lev wr (Below.refl _ _)).2
   have q1:W1.cell? ⟨nb,1,none⟩=some (.int .i64 L):=by rw[HNB.out];exact (HR.out.lev W1 hb1).1
   have q2:W1.cell? ⟨nb,2,none⟩=some (.slice (some ⟨bb,of,none⟩) N cp):=by rw[HNB.out];exact (HR.out.lev W1 hb1).2
   have hnl:nb<wr.heap.size:=World.block_lt_of_cell? wr _ q0;have e1:=HR.out.e1;have e2:=HR.out.e2;have HC1:Hid (AM9 kk (.slice Al ll cl) W1):=yH (HR.out.c1 W1 hb1);have HK:=yH HR.out.k;have HVN1:Hid (k+1<N->wr.cell? ⟨bb,of+(k+1)*2,none⟩=some vn/\W1.cell? ⟨bb,of+(k+1)*2,none⟩=some vn):=yH λhl=>⟨HR.out.n1 hl wr (Below.refl _ _),HR.out.n1 hl W1 hb1⟩
   have HVN2:=yH HR.out.n2;have HC2:Hid (vn=.slice none 0 0\/∃(ad:Addr) (l cc:Nat),vn=.slice (some ad) l cc/\YC kk vn W1):=yH (HR.out.c2.imp id λ⟨ad,l,cc,h1,h2⟩=>⟨ad,l,cc,h1,h2 W1 hb1⟩)
   have HLEAF:Hid (∀n,∃S',I9 J B S c h G w S' (W1.drewN n)):=yH λn=>HR.out.leaf _ (AE hb1 (AF W1 n))
   have hbd:Below wr.heap.size wr W1.drew:=AE hb1 (Below.refl W1.heap.size W1).drew;have hzd:W1.drew.heap.size=W1.heap.size:=rfl;have heb:∀W':World,W'.heap[wr.heap.size]? = W1.drew.heap[wr.heap.size]?->W'.cell? ⟨wr.heap.size,0,none⟩=some kk:=λW' hW'=>by
    have h1:W'.heap[wr.heap.size]? = some (.cells #[kk,.slice Av lv cv] 135 (0,0)):=hW'.trans hnew;rw[yC h1];rfl
   have HS0:Hid (W1.drew.cell? ⟨nb,1,none⟩=some (.int .i64 L)/\W1.drew.cell? ⟨wr.heap.size,0,none⟩=some kk):=yH ⟨q1,heb _ rfl⟩;have HBL:Hid (0<L->Calls Tryz.prog 114 #[.pointer (some ⟨tb,0,none⟩),.pointer (some ⟨nb,0,none⟩),.int .i64 k] W1.drew λe w4=>∃yb:Nat,e=.returned (.pointer (some ⟨yb,0,none⟩))/\Hid (w4.cell? ⟨nb,1,none⟩=some (.int .i64 L)/\w4.cell? ⟨wr.heap.size,0,none⟩=some kk) /\
     Hid (Calls Tryz.prog 74 #[.pointer (some ⟨tb,0,none⟩),.pointer (some ⟨yb,0,none⟩),kk,vn] w4 λe w5=>e=.returned (.bool true)/\Hid (w5.cell? ⟨nb,1,none⟩=some (.int .i64 L)/\w5.cell? ⟨wr.heap.size,0,none⟩=some kk)/\Hid (∃S5,I9 J B S c h G w S5 w5))):=yH λhL=>by
    rw[HNB.out];refine (HR.out.node hL _ hbd).mono ?_;rintro e w4 ⟨yb,rfl,hk4,hl4,hs⟩;refine⟨yb,rfl,yH ⟨hl4,heb _ (hk4 _ (Nat.le_refl _) (by rw[hzd];omega))⟩,yH (hs.out.mono ?_)⟩
    rintro e w5 ⟨rfl,hk5,hl5,hI5⟩;exact⟨rfl,yH ⟨hl5,heb _ (hk5 _ (Nat.le_refl _) (by rw[hzd];omega))⟩,yH hI5⟩
   have f1:IntKind.i64.wrap ((k:Int)+1)=(k:Int)+1:=IntWalk.i64_in _ (by omega)
   have f2:(k:Int)<(N:Int):=by omega
   have f3:(0:Int)<=(k:Int)+1:=by omega
   obtain⟨eb,heb'⟩:∃eb,eb=wr.heap.size:=⟨_,rfl⟩;clear HR HRD HI HI0 HN2 heb hbd hzd hnew hz1 hb1;have HQ1:=yH q1;have HQ:Hid (∀W:World,(W.cell? ⟨nb,1,none⟩=some (.int .i64 L)/\W.cell? ⟨wr.heap.size,0,none⟩=some kk)->W.cell? ⟨nb,1,none⟩=some (.int .i64 L)/\W.cell? ⟨wr.heap.size,0,none⟩=some kk):=yH λ_ h=>h
   clear q1;obtain⟨bL,hbL⟩:∃bL,bL=decide (0<L/\k=0):=⟨_,rfl⟩;have HBL0:=yH hbL;clear hbL;obtain⟨bN,hbN⟩:∃bN,bN=decide (k+1<N):=⟨_,rfl⟩;have HBN:=yH hbN;clear hbN;obtain⟨W0,hW0⟩:∃W0,W0=wr.alloc (.cells #[.slice Ak lk ck,.slice Av lv cv] 135):=⟨_,rfl⟩;have z1:W0.cell? ⟨nb,1,none⟩=some (.int .i64 L):=by rw[hW0];exact (((Below.refl _ _).alloc (Nat.le_refl _) _).cell (p:=⟨nb,1,none⟩) hnl).trans q0
   have hn0:W0.heap[wr.heap.size]? = some (.cells #[.slice Ak lk ck,.slice Av lv cv] 135 (0,0)):=by rw[hW0];exact heap_alloc_new wr _
   have z2:W0.cell? ⟨wr.heap.size,0,none⟩=some (.slice Ak lk ck):=by rw[yC hn0];rfl
   have z3:W0.frozen? ⟨wr.heap.size,0,none⟩=false:=by simp[World.frozen?,hn0]
   have HZ:Hid (wr.heap.size<W0.heap.size):=yH (by rw[hW0];simp)
   have HSET:Hid (W0.setCell ⟨wr.heap.size,0,none⟩ kk=W1):=yH (by
    rw[hW0,hW1,World.setCell_alloc_at _ _ _ _ _ rfl];rfl)
   have HW0:=yH hW0;have HW1:=yH hW1;have q3:W1.cell? ⟨wr.heap.size,0,none⟩=some kk:=HS0.out.2;have HQ2:=yH q2;have HQ3:=yH q3;clear q00 hW0 hW1 hn0 q2 q3;go_upto_region 4 with fail
   go_cut [30,17] from 17 to 84 (λb x wx=>b=.bool bL/\x=.int .i64 k/\wx=W0)
   case first =>
    rw[<-HW0.out];clear e1 e2 q0;by_cases hL1:0<L
    ·have g1:(0:Int)<(L:Int):=by omega
     by_cases hk0:k=0
     ·have g2:(k:Int)=0:=by omega
      have hb:=HBL0.out;rw[decide_eq_true (show 0<L/\k=0 from⟨hL1,hk0⟩)]at hb
      subst hb;clear hk0;go_wp2_with fail;go_meet;exact⟨by first | rfl | trivial,by first | go_num | trivial,by first | rfl | trivial⟩
     ·have g2:¬(k:Int)=0:=by omega
      have g3:((k:Int) == 0)=false:=by simp;omega
      have hb:=HBL0.out;rw[decide_eq_false (show ¬(0<L/\k=0) from λh=>hk0 h.2)]at hb
      subst hb;clear hk0;go_wp2_with fail;go_meet;exact⟨by first | rfl | trivial,by first | rfl | trivial,by first | rfl | trivial⟩
    ·have g1:¬(0:Int)<(L:Int):=by omega
     have hb:=HBL0.out;rw[decide_eq_false (show ¬(0<L/\k=0) from λh=>hL1 h.1)]at hb
     subst hb;go_wp2_with fail;go_meet;exact⟨by first | rfl | trivial,by first | rfl | trivial,by first | rfl | trivial⟩
   case rest =>
   obtain⟨rfl,rfl,hwc⟩:=hcut;obtain rfl:W0=wc:=hwc.symm;go_upto_if 30 with fail
   go_cut [17] from 17 to 84 (λx wx=>x=.int .i64 k/\wx=W1)
   case first =>
    have hkk:=HK.out;have hset:=HSET.out;have hbl:=HBL0.out;clear HK HBL HS0 HQ HC1 HVN1 HVN2 HC2 HLEAF;cases bL with
    | true =>
     have hp:=of_decide_eq_true hbl.symm;rw[if_pos hp]at hkk;subst hkk;clear hp hbl;go_wp2_with fail;go_meet;exact⟨by first | rfl | trivial,by first | exact hset | trivial⟩
    | false =>
     have hp:=of_decide_eq_false hbl.symm;rw[if_neg hp]at hkk;subst hkk;have hw:W0=W1:=by rw[HW0.out,HW1.out]
     clear hp hbl hset;go_wp2_with fail;go_meet;exact⟨by first | rfl | trivial,by first | exact hw | rfl | trivial⟩
   case rest =>
   obtain⟨rfl,hwc⟩:=hcut;obtain rfl:W1=wc:=hwc.symm;clear z1 z2 z3 HSET HW0;have q1:=HQ1.out;have q2:=HQ2.out;go_upto_region 7 with fail
   go_cut [41,17] from 17 to 84 (λb x wx=>b=.bool bN/\x=.int .i64 k/\wx=W1)
   case first =>
    have hbn:=HBN.out;clear HK HBL HS0 HQ HC1 HVN1 HVN2 HC2 HLEAF;by_cases hl:k+1<N
    ·have f4:(k:Int)+1<(N:Int):=by omega
     rw[decide_eq_true hl]at hbn;subst hbn;go_wp2_with fail;go_meet;exact⟨by first | rfl | trivial,by first | rfl | trivial,by first | rfl | trivial⟩
    ·have f4:¬(k:Int)+1<(N:Int):=by omega
     rw[decide_eq_false hl]at hbn;subst hbn;go_wp2_with fail;go_meet;exact⟨by first | rfl | trivial,by first | rfl | trivial,by first | rfl | trivial⟩
   case rest =>
   obtain⟨rfl,rfl,hwc⟩:=hcut;obtain rfl:W1=wc:=hwc.symm;go_upto_if 41 with fail
   go_cut [11,17] from 17 to 84 (λv x wx=>v=vn/\x=.int .i64 k/\wx=W1)
   case first =>
    have hbn:=HBN.out;clear HK HBL HS0 HQ HC1 HC2 HLEAF;cases bN with
    | true =>
     have hl:=of_decide_eq_true hbn.symm;obtain⟨-,v1⟩:=HVN1.out hl;have f4:(k:Int)+1<(N:Int):=by omega
     clear HVN1 HVN2 hbn;go_wp2_with fail;go_meet;exact⟨by first | rfl | trivial,by first | rfl | trivial,by first | rfl | trivial⟩
    | false =>
     have hl:=of_decide_eq_false hbn.symm;have hv:=HVN2.out hl;clear HVN1 HVN2 hbn;go_wp2_with fail;go_meet;exact⟨hv.symm,by first | rfl | trivial,by first | rfl | trivial⟩
   case rest =>
   obtain⟨hvv,rfl,hwc⟩:=hcut;have hvv':=hvv.symm;clear hvv;subst hvv';obtain rfl:W1=wc:=hwc.symm;go_upto_region 9 with fail
   go_cut [66,17] from 17 to 84 (λb x wx=>b=.bool false/\x=.int .i64 k/\wx=W1)
   case first =>
    have q3:=HQ3.out;clear HK HBL HS0 HQ HVN1 HVN2 HLEAF;rcases HC2.out with hv|⟨ad,l2,c2',hv,hc⟩
    ·subst hv;clear HC2;go_wp2_with fail;refine HC1.out.mono ?_;rintro e w1 ⟨⟨r1,rfl,hr1⟩,hw1⟩;subst w1;have hr1':=of_decide_eq_false hr1;clear HC1;go_wp2_with fail;go_meet;exact⟨by first | rfl | trivial,by first | rfl | trivial,by first | rfl | trivial⟩
    ·subst hv;have HC:=yH hc;clear HC2 hc;go_wp2_with fail;refine HC1.out.mono ?_;rintro e w1 ⟨⟨r1,rfl,hr1⟩,hw1⟩;subst w1;have hr1':=of_decide_eq_false hr1;clear HC1;go_wp2_with fail;refine HC.out.mono ?_;rintro e w1 ⟨⟨r2,rfl,hr2⟩,hw1⟩;subst w1;have hr2':=of_decide_eq_false hr2;clear HC;go_wp2_with fail;go_meet;exact⟨by first | rfl | trivial,by first | rfl | trivial,by first | rfl | trivial⟩
   case rest =>
   obtain⟨rfl,rfl,hwc⟩:=hcut;obtain rfl:W1=wc:=hwc.symm;clear HC1 HC2 HVN1 HVN2 HK HBN HBL0 HQ2 HQ3 q2;by_cases hL:L=0
   ·subst hL;clear HBL HS0 HQ;go_wp2;go_quiet (fail);go_wp2;go_roundw
    case rel=>exact⟨k+1,by omega,by go_num,yH (HLEAF.out _)⟩
    case measure=>simp[intOf];omega
   ·have hlp:0<L:=by omega
    have g1:(0:Int)<(L:Int):=by omega
    clear HLEAF hL;go_wp2;have HB1:=yH (HBL.out hlp);clear HBL;refine BS (S:=λW=>W.cell? ⟨nb,1,none⟩=some (.int .i64 L)/\W.cell? ⟨wr.heap.size,0,none⟩=some kk) [] (by kernel_rfl) ?_
    refine AJ.take (i:=0) (v:=.pointer (some ⟨nb,0,none⟩)) rfl (by kernel_rfl) (by kernel_rfl) (by kernel_rfl) (by kernel_rfl) (λ_ _ _ h=>h) (Or.inl ⟨by rfl,λW hW=>by go_simp⟩) HS0.out ?_
    refine AJ.take (i:=1) (v:=.pointer (some ⟨nb,0,none⟩)) rfl (by kernel_rfl) (by kernel_rfl) (by kernel_rfl) (by kernel_rfl) (λ_ _ _ h=>h) (Or.inl ⟨by rfl,λW hW=>by go_simp⟩) HS0.out ?_
    refine AJ.take (i:=2) (v:=.pointer (some ⟨nb,1,none⟩)) rfl (by kernel_rfl) (by kernel_rfl) (by kernel_rfl) (by kernel_rfl) (λ_ _ _ h=>h) (Or.inl ⟨by rfl,λW hW=>by go_simp⟩) HS0.out ?_
    refine AJ.take (i:=3) (v:=.int .i64 L) rfl (by kernel_rfl) (by kernel_rfl) (by kernel_rfl) (by kernel_rfl) (λ_ _ _ h=>h) (Or.inl ⟨by rfl,λW hW=>by have x1:=(HQ.out W hW).1;clear hW;go_simp⟩) HS0.out ?_
    refine AJ.take (i:=4) (v:=.bool true) rfl (by kernel_rfl) (by kernel_rfl) (by kernel_rfl) (by kernel_rfl) (λ_ _ _ h=>h) (Or.inl ⟨by rfl,λW hW=>by go_simp⟩) HS0.out ?_
    refine AJ.take (i:=5) (v:=.bool true) rfl (by kernel_rfl) (by kernel_rfl) (by kernel_rfl) (by kernel_rfl) (λ_ _ _ h=>h) (Or.inl ⟨by rfl,λW hW=>by go_simp⟩) HS0.out ?_
    refine AJ.take (i:=6) (v:=.pointer (some ⟨tb,0,none⟩)) rfl (by kernel_rfl) (by kernel_rfl) (by kernel_rfl) (by kernel_rfl) (λ_ _ _ h=>h) (Or.inl ⟨by (unfold Region.wanted yielded;go_simp),λW hW=>by go_simp⟩) HS0.out ?_
    refine AJ.take (i:=7) (v:=.pointer (some ⟨tb,0,none⟩)) rfl (by kernel_rfl) (by kernel_rfl) (by kernel_rfl) (by kernel_rfl) (λ_ _ _ h=>h) (Or.inl ⟨by (unfold Region.wanted yielded;go_simp),λW hW=>by go_simp⟩) HS0.out ?_
    refine AJ.take (i:=8) (v:=.pointer (some ⟨nb,0,none⟩)) rfl (by kernel_rfl) (by kernel_rfl) (by kernel_rfl) (by kernel_rfl) (λ_ _ _ h=>h) (Or.inl ⟨by (unfold Region.wanted yielded;go_simp),λW hW=>by go_simp⟩) HS0.out ?_
    refine AJ.take (i:=9) (v:=.int .i64 k) rfl (by kernel_rfl) (by kernel_rfl) (by kernel_rfl) (by kernel_rfl) (λ_ _ _ h=>h) (Or.inl ⟨by (unfold Region.wanted yielded;go_simp),λW hW=>by go_simp⟩) HS0.out ?_
    refine AJ.take (i:=11) (v:=.pointer (some ⟨wr.heap.size,0,none⟩)) rfl (by kernel_rfl) (by kernel_rfl) (by kernel_rfl) (by kernel_rfl) (λ_ _ _ h=>h) (Or.inl ⟨by (unfold Region.wanted yielded;go_simp),λW hW=>by go_simp⟩) HS0.out ?_
    refine AJ.take (i:=12) (v:=kk) rfl (by kernel_rfl) (by kernel_rfl) (by kernel_rfl) (by kernel_rfl) (λ_ _ _ h=>h) (Or.inl ⟨by (unfold Region.wanted yielded;go_simp),λW hW=>by have x1:=(HQ.out W hW).2;clear hW;go_simp⟩) HS0.out ?_
    refine AJ.take (i:=13) (v:=vn) rfl (by kernel_rfl) (by kernel_rfl) (by kernel_rfl) (by kernel_rfl) (λ_ _ _ h=>h) (Or.inl ⟨by (unfold Region.wanted yielded;go_simp),λW hW=>by go_simp⟩) HS0.out ?_
    refine AJ.ready (rs:=[10]) (by kernel_rfl) (by simp) ?_
    refine AI.cons rfl (λK' hK=>?_) AI.nil
    go_simp
    go_at_call 114;refine HB1.out.mono ?_;rintro e w4 ⟨yb,rfl,HS4,HSN⟩;clear HB1;refine hK.out _ _ (λ_=>HS4.out) ?_
    clear hK K';refine AJ.ready (rs:=[14]) (by kernel_rfl) (by simp) ?_
    refine AI.cons rfl (λK' hK=>?_) AI.nil
    go_simp
    go_at_call 74;refine HSN.out.mono ?_;rintro e w5 ⟨rfl,HS5,HI5⟩;clear HSN;refine hK.out _ _ (λ_=>HS5.out) ?_
    clear hK K';refine AJ.ready (rs:=[15]) (by kernel_rfl) (by simp) ?_
    refine AI.cons rfl (λK' hK=>?_) AI.nil
    go_simp
    refine hK.out _ _ (λ_=>HS5.out) ?_
    clear hK K';refine AJ.ready (rs:=[16]) (by kernel_rfl) (by simp) ?_
    refine AI.cons rfl (λK' hK=>?_) AI.nil
    go_simp
    refine hK.out _ _ (λ_=>HS5.out) ?_
    clear hK K';refine AJ.done (by kernel_rfl) ?_ _
    go_wp2;go_roundw
    case rel=>exact⟨k+1,by omega,by go_num,HI5⟩
    case measure=>simp[intOf];omega
  ·obtain rfl:k=N:=by omega
   obtain⟨S',I⟩:=HI.out;have c2r:=HN2.out S' wr I;clear HI HRD HI0 HN2;have HI:=yH I;clear I;go_wp2;go_ret;exact⟨rfl,S',HI.out.turn,HI.out.act⟩
end
section
variable {J:List AD->Prop} {B:Nat} {c:Ac} {h:Hd} {G:Nat->List UInt8} {tb r:Nat}
theorem R3:∀{L:Nat} {t:Tr L} {lo:List UInt8} {hi:Option (List UInt8)} {n0:NO} {vlo vhi:Value} {S:Nat->Prop} {w:World},AU J B S c h G w->AH w tb c.a r->¬S tb->DM S w n0->(n0.level=L/\n0.ens=t.ens)->CJ t->Ord t lo hi->Rep (FF h G) t->CY S w vlo lo->HiO S w vhi hi ->
  Calls Tryz.prog 74 #[.pointer (some ⟨tb,0,none⟩),n0.ptr,vlo,vhi] w λe w'=>e=.returned (.bool true)/\BI J B S c h G w w'
 | 0,_,_,_,_,_,_,_,_,x,ht,htS,hn,his,htd,hord,_,hlo,hhi=>PZ (λh0=>absurd h0 (by omega)) x ht htS hn his htd hord hlo hhi
 | L+1,t,lo,hi,n0,vlo,vhi,S,w,x,ht,htS,hn,his,htd,hord,hR,hlo,hhi=>by
  refine PZ (λ_ i e S' W kk vn he hA hT hS hn' hk hv=>?_) x ht htS hn his htd hord hlo hhi
  obtain⟨y,rfl,hy,hty,hoy⟩:=AS1 htd hord he;obtain⟨q1,q2,q3⟩:=(hR.kid y hy).at_;have hp:=hA.has_lt q1;have hc:(kEn y).child=y.2.page:=CV y (by omega)
  refine (GH hA hT _ n0 hn'.1 hn'.2.1 i (kEn y) (by rw[his.2];exact he) rfl L y.2.ens his.1 (by rw[hc];exact q1) (by rw[hc];exact q2) q3).mono ?_
  rintro e w4 ⟨yn,S4,rfl,hL⟩;refine⟨yn.blk,S4,rfl,hL.turn,?_⟩;exact R3 hL.act (hT.kept hL.turn.1 hS) (hL.turn.not hT.lt hS) hL.nodeO ⟨hL.info.2.1,hL.info.2.2.1⟩ hty hoy (hR.kid y hy) (hk.turn hL.turn) (hv.turn hL.turn)
end
section
variable {J:List AD->Prop} {B:Nat} {S:Nat->Prop} {c:Ac} {h:Hd} {G:Nat->List UInt8} {w:World} {tb r:Nat} {F:List En} {ps:List Nat}
theorem BL3 (x:AU J B S c h G w)(ht:AH w tb c.a r)(htS:¬S tb)(hr16:r<16)(on:AY h G (h.root r) F ps) :
  Calls Tryz.prog 30 #[.pointer (some ⟨tb,0,none⟩)] w λe w'=>e=.returned (.bool true)/\BI J B S c h G w w':=by
 have HTOP:=yH (F9 x ht hr16);have hpo:Hid (∀W,Below w.heap.size w W->BI J B S c h G w W):=yH λW hb=>⟨S,AO.ofBelow hb,x.below hb⟩
 have HLD:Hid (h.root r≠0->∀k,Calls Tryz.prog 75 #[.pointer (some ⟨tb,0,none⟩),.int .i64 (h.root r)] (w.drewN k) λe w2=>∃yb:Nat,e=.returned (.pointer (some ⟨yb,0,none⟩))/\Hid (Calls Tryz.prog 74 #[.pointer (some ⟨tb,0,none⟩),.pointer (some ⟨yb,0,none⟩),.slice none 0 0,.slice none 0 0] w2 λe w3=>e=.returned (.bool true)/\Hid (∀W,Below w3.heap.size w3 W->BI J B S c h G w W))):=yH λhne k=>by
  have hbk:Below w.heap.size w (w.drewN k):=AF w k;have xk:=x.below hbk;have htk:=ht.below hbk;rcases on.is with⟨_,h0,_⟩|⟨m,t,hr,ho,rfl,hpg,rfl,hrep⟩
  ·exact absurd h0 hne
  ·obtain⟨q1,q2,q3⟩:=hrep.at_;rw[<-hpg];refine (KR xk htk t.page m t.ens q1 q2 q3).mono ?_;rintro e w2 ⟨y,S2,rfl,hL⟩;refine⟨y.blk,rfl,yH ?_⟩;refine (R3 (lo:=[]) (hi:=none) hL.act (htk.kept hL.turn.1 htS) (hL.turn.not htk.lt htS) hL.nodeO ⟨hL.info.2.1,hL.info.2.2.1⟩ hr.1 ho hrep (A7.nil_ _ _) rfl).mono ?_;rintro e w3 ⟨rfl,S3,hT3,hA3⟩;refine⟨rfl,yH λW hb=>⟨S3,?_,hA3.below hb⟩⟩
   exact (((AO.ofBelow hbk).trans hL.turn).trans hT3).trans (AO.ofBelow hb)
 obtain⟨rt,hrt⟩:∃rt,rt=h.root r:=⟨_,rfl⟩;rw[<-hrt]at HTOP HLD;clear x ht htS on hrt;go_enter Tryz.func30,Tryz.ntmps30;go_wp2_with fail;refine HTOP.out.mono ?_;rintro e w1 ⟨rfl,k,rfl⟩;clear HTOP;by_cases h0:rt=0
 ·subst h0;clear HLD;go_wp2;go_ret;exact⟨rfl,hpo.out _ (by first | exact AF w _ | exact (AF w _).drew)⟩
 ·have f1:¬((rt:Int)=0):=by omega
  have f2:((rt:Int) == 0)=false:=by simp;omega
  have HL:=yH (HLD.out h0);clear HLD;go_wp2_with fail;refine (HL.out k).mono ?_;rintro e w2 ⟨yb,rfl,HSN⟩;clear HL;go_wp2_with fail;refine HSN.out.mono ?_;rintro e w3 ⟨rfl,HE⟩;clear HSN;go_wp2;go_ret;exact⟨rfl,HE.out _ (Below.refl _ _)⟩
end
def hA:Hd:=(Hd.zero.setCount 1).setRoot 3 1
theorem BB3 (ops:List AD)(rs:List ByteArray)(h:JL rs [] ops):(rHd (BN ops 2,false)).2.2=true:=by rw[h.2];decide +kernel
section
variable {J:List AD->Prop} {B:Nat} {S:Nat->Prop} {c:Ac} {h:Hd} {G:Nat->List UInt8} {w:World}
theorem W7 (x:AU J B S c h G w)(r:Nat)(hr:r<16) :
  Calls Tryz.prog 28 #[.pointer (some ⟨c.a,0,none⟩),.int .i64 r] w λe w'=>∃tb,e=.returned (.tuple #[.pointer (some ⟨tb,0,none⟩),.int .i64 0])/\AH w' tb c.a r/\w.heap.size<=tb/\Below w.heap.size w w':=by
 have HRT:=yH (BB9 x r hr);have h2:¬(r:Int)<0:=by omega
 have h3:¬(16:Int)<=(r:Int):=by omega
 obtain⟨rt,hrt⟩:∃rt,rt=h.root r:=⟨_,rfl⟩;rw[<-hrt]at HRT;obtain⟨a,ha⟩:∃a,a=c.a:=⟨_,rfl⟩;rw[<-ha]at HRT ⊢
 clear x hrt ha;have HE:Hid (AH (w.alloc (.cells #[.pointer (some ⟨w.heap.size,0,none⟩),.pointer (some ⟨a,0,none⟩),.int .i64 r] 84)) w.heap.size a r/\Below w.heap.size w (w.alloc (.cells #[.pointer (some ⟨w.heap.size,0,none⟩),.pointer (some ⟨a,0,none⟩),.int .i64 r] 84))):=yH ⟨heap_alloc_new w _,(Below.refl _ _).alloc (Nat.le_refl _) _⟩;go_enter Tryz.func28,Tryz.ntmps28;go_wp2_with fail;refine HRT.out.mono ?_;rintro e w1 ⟨rfl,hw⟩;subst w1;go_wp2;go_ret2;exact⟨_,rfl,HE.out.1,Nat.le_refl _,HE.out.2⟩
end
theorem Y2 (q:Nat):¬Hd.zero.has q:=λh=>by
 have h1:=h.1;have h2:=h.2.1
 have h3:Hd.zero.count=0:=rfl;omega
theorem AQ9 (r:Nat):Hd.zero.root r=0:=by
 unfold Hd.root Hd.zero;simp only[List.getD_eq_getElem?_getD];rcases Nat.lt_or_ge r 16 with h|h
 ·rw[List.getElem?_replicate,if_pos h];rfl
 ·rw[List.getElem?_eq_none (by simpa using h)];rfl
def BN6 (B:Nat)(c:Ac)(S:Nat->Prop)(w:World):Prop:=AU (JL [] []) B S c Hd.zero c.C w/\∀q,(c.C q).length=512
theorem T5 {B:Nat}{S3:Nat->Prop}{c:Ac}{h:Hd}{w:World}{m:Nat}{J:List AD->Prop}(h3:CK J B S3 c.a c.s c.d c.l c.p c.db m c.n c.C c.N c.last h (λ_=>none) w)(hJ:ID J)(hN:c.N<=4398046511000)(hT:Tab w)(hB:1<=B)(hh:∀q,h.has q->c.last.has q):AU J B (λk=>S3 k\/k=c.a\/k=c.s\/k=c.l\/k=c.db) c h c.C w:=by
 have hlt:c.a<w.heap.size/\c.s<w.heap.size/\c.l<w.heap.size/\c.db<w.heap.size:=⟨h3.act.ac.lt,h3.act.sp.lt,h3.lg.lt,h3.act.dr.ltM⟩;obtain⟨l1,l2,l3,l4,_⟩:=h3.low;refine⟨⟨m,λ_=>none,S3,h3,λk hk=>.inl hk,(λq x hq=>by cases hq),⟨(λq x hq=>by cases hq),(λq x hq=>by cases hq),λq hq _=>hh q hq⟩,λq _=>rfl⟩,⟨.inr (.inl rfl),.inr (.inr (.inl rfl)),.inr (.inr (.inr (.inl rfl))),.inr (.inr (.inr (.inr rfl)))⟩,λk hk=>?_,hJ,hN,hT,hB⟩
 rcases hk with hk|rfl|rfl|rfl|rfl
 ·exact h3.pool.low k hk
 ·exact⟨l1,hlt.1⟩
 ·exact⟨l2,hlt.2.1⟩
 ·exact⟨l3,hlt.2.2.1⟩
 ·exact⟨l4,hlt.2.2.2⟩
theorem AU9 {B:Nat}{S3:Nat->Prop}{c:Ac}{h:Hd}{w:World}{m:Nat}{J:List AD->Prop}(h3:CK J B S3 c.a c.s c.d c.l c.p c.db m c.n c.C c.N c.last h (λ_=>none) w)(hJ:ID J)(hN:c.N<=4398046511000)(hT:Tab w)(hB:1<=B)(hh:∀q,h.has q->c.last.has q):∃S,AU J B S c h c.C w :=
 ⟨_,T5 h3 hJ hN hT hB hh⟩
theorem VM (w:World)(hT:Tab w):Calls Tryz.prog 25 #[] w λe w'=>∃(c:Ac) (S:Nat->Prop),e=.returned (.tuple #[.pointer (some ⟨c.d,0,none⟩),.pointer (some ⟨c.s,0,none⟩),.pointer (some ⟨c.a,0,none⟩),.bool true])/\BN6 w.heap.size c S w'/\Below w.heap.size w w'/\c.last=Hd.zero/\c.N=0:=by
 obtain⟨B,hBe⟩:∃B,B=w.heap.size:=⟨_,rfl⟩;have hB1:1<=B:=by rw[hBe];exact hT.1
 have HT:=yH hT;have HBE:=yH hBe;clear hBe hT;go_enter Tryz.func25,Tryz.ntmps25;go_wp2_with fail;refine (BE8 _).mono ?_;rintro e w1 ⟨rfl,hd1,hb1⟩;rw[<-HBE.out]at hd1 hb1 ⊢
 have HB1:=yH hb1;have HD1:=yH hd1.bound;clear hd1 hb1
 go_wp2_with fail;refine (BQ8 (J:=JL [] []) (B:=B) (n:=16) (N:=0) [] [] [] HD1.out (λk hk=>hk) rfl (λr hr=>by cases hr) (by omega) (by omega) (by simp) ⟨rfl,rfl⟩ rfl (λi h1=>by simp at h1) (by decide) Hd.zero_ok (ID.jl _ _) (λops h=>BB3 ops _ h) (by have:=HB1.out.size;have:=HBE.out;omega)).mono ?_
 rintro e w2 ⟨s,l,p,S2,rfl,hs2,hb2⟩;have HB2:=yH (HB1.out.trans hb2);have HS2:=yH hs2;clear hs2 hb2
 go_wp2_with fail;refine (BL9 HS2.out).mono ?_;rintro e w3 ⟨a,db,rfl,h3,hb3,_⟩;have HB3:=yH (HB2.out.trans hb3);have H3:=yH h3;clear h3 hb3 HS2
 have hT3:Tab w3:=HT.out.below (HB3.out.mono (by have:=HBE.out;omega)) (by have:=HBE.out;have:=HT.out.1;omega)
 have HAV:=yH (AU9 (c:=⟨a,s,B,l,p,db,16,FT 0 [],LV (λq=>BT (BN [] 1) q) [],JJ Hd.zero []⟩) H3.out (ID.jl _ _) (by show FT 0 []<=_;decide) hT3 hB1 (λq hq=>hq))
 clear hT3;go_wp2;refine bodyPost_ret (v:=.tuple #[.pointer (some ⟨B,0,none⟩),.pointer (some ⟨s,0,none⟩),.pointer (some ⟨a,0,none⟩),.bool true]) (by simp[results,Tryz.results25,go_sem]) rfl ?_
 obtain⟨S,hA⟩:=HAV.out;refine⟨⟨a,s,B,l,p,db,16,FT 0 [],LV (λq=>BT (BN [] 1) q) [],JJ Hd.zero []⟩,S,rfl,⟨?_,λq=>?_⟩,by rw[<-HBE.out];exact HB3.out,rfl,rfl⟩
 ·rw[<-HBE.out];exact hA
 ·exact FJ _ _
theorem BL8 (w:World)(hT:Tab w):Calls Tryz.prog 25 #[] w λe w'=>∃(c:Ac) (S:Nat->Prop),e=.returned (.tuple #[.pointer (some ⟨c.d,0,none⟩),.pointer (some ⟨c.s,0,none⟩),.pointer (some ⟨c.a,0,none⟩),.bool true])/\BN6 w.heap.size c S w'/\Below w.heap.size w w' :=
 (VM w hT).mono λ_ _ ⟨c,S,h1,h2,h3,_⟩=>⟨c,S,h1,h2,h3⟩
structure Us where
 l:List Nat
 z:Hd->(Nat->List UInt8)->List Nat->Prop
def U0:Us:=⟨[],λ_ _ _=>True⟩
def Us.Ok (U:Us):Prop:=U.l.length<=2000/\∀h G ps,U.z h G ps
theorem AN2:U0.Ok:=⟨Nat.zero_le _,λ_ _ _=>trivial⟩
def BO (J:List AD->Prop)(B:Nat)(S:Nat->Prop)(c:Ac)(tb r:Nat)(F:List En)(U:Us)(w:World):Prop :=
 ∃(h:Hd) (G:Nat->List UInt8) (ps:List Nat),AU J B S c h G w/\AH w tb c.a r/\¬S tb/\AY h G (h.root r) F ps/\(∀q,h.has q->q ∈ ps\/q ∈ U.l)/\U.z h G ps
section
variable {J:List AD->Prop} {B:Nat} {S S':Nat->Prop} {c:Ac} {h:Hd} {G:Nat->List UInt8} {w w':World} {tb r:Nat} {F F':List En} {U:Us} {ps:List Nat}
theorem Z6 {top:Nat}{U:List Nat}(on:AY h G top F ps)(ho:∀q,h.has q->q ∈ ps\/q ∈ U)(hF:F.length<=1001)(hU:U.length<=2000):CU h (ps++U) 16:=by
 refine⟨λq hq=>List.mem_append.2 (ho q hq),?_⟩
 have:=on.few
 rw[List.length_append];omega
theorem BO.below (x:BO J B S c tb r F U w)(hb:Below w.heap.size w w'):BO J B S c tb r F U w':=by
 obtain⟨h,G,ps,h1,h2,h3,h4,h5⟩:=x;exact⟨h,G,ps,h1.below hb,h2.below hb,h3,h4,h5⟩
theorem BO.srt (x:BO J B S c tb r F U w):Srt F:=by
 obtain⟨h,G,ps,h1,h2,h3,h4,h5⟩:=x;exact h4.srt
def NE (J:List AD->Prop)(B:Nat)(S:Nat->Prop)(c:Ac)(tb r:Nat)(F':List En)(U:Us)(w w':World):Prop:=∃S',BO J B S' c tb r F' U w'/\AO S w S' w'
theorem ZG (ht:AH w tb c.a r)(htS:¬S tb)(ho:∀q,h.has q->q ∈ ps\/q ∈ U.l)(hz:∀h G ps,U.z h G ps)(hp:CN J B S c h G tb r ps F' w w'):NE J B S c tb r F' U w w':=by
 obtain⟨h',G',S',ps',h1,h2,h3,h4,h5⟩:=hp;exact⟨S',⟨h',G',ps',h1,h3,h2.not ht.lt htS,h4,h5.only ho,hz _ _ _⟩,h2⟩
theorem EM (ht:AH w tb c.a r)(htS:¬S tb)(on:AY h G (h.root r) F ps)(ho:(∀q,h.has q->q ∈ ps\/q ∈ U.l)/\U.z h G ps)(hp:BI J B S c h G w w'):NE J B S c tb r F U w w':=by
 obtain⟨S',hT,hA⟩:=hp;exact⟨S',⟨h,G,ps,hA,ht.kept hT.1 htS,hT.not ht.lt htS,on,ho⟩,hT⟩
theorem AD1 {B:Nat}(hf:BN6 B c S w){w2:World}(hb:Below w.heap.size w w2)(ht:AH w2 tb c.a r)(htb:w.heap.size<=tb):BO (JL [] []) B S c tb r [] U0 w2:=by
 refine⟨Hd.zero,c.C,[],hf.1.below hb,ht,λhs=>?_,?_,λq hq=>absurd hq (Y2 q),trivial⟩
 ·have:=(hf.1.low _ hs).2;omega
 ·rw[AQ9];exact AY.none_ _ _
theorem BA3 (x:BO J B S c tb r F U w)(hr16:r<16)(hC:∀q,(c.C q).length=512)(hF:F.length<=1001)(hU:U.Ok)(key val:ByteArray)(hk1:1<=key.size)(hk2:key.size<=96)(hv:val.size<=32) :
  Calls Tryz.prog 35 #[.pointer (some ⟨tb,0,none⟩),.string key,.string val] w λe w'=>e=.returned (.tuple #[.bool !(A6 key.data.toList F),.int .i64 0])/\NE J B S c tb r (CM key.data.toList val.data.toList F) U w w':=by
 obtain⟨h,G,ps,h1,h2,h3,h4,h5⟩:=x;exact (BD0 h1 h2 h3 hr16 hC h4 (Z6 h4 h5.1 hF hU.1) key val hk1 hk2 hv).mono λe w' hp=>⟨hp.1,ZG h2 h3 h5.1 hU.2 hp.2⟩
theorem BW3 (x:BO J B S c tb r F U w)(hr16:r<16)(key:ByteArray) :
  Calls Tryz.prog 34 #[.pointer (some ⟨tb,0,none⟩),.string key] w λe w'=>e=.returned (RR key.data.toList F)/\NE J B S c tb r F U w w':=by
 obtain⟨h,G,ps,h1,h2,h3,h4,h5⟩:=x;exact (BI2 h1 h2 h3 hr16 h4 key).mono λe w' hp=>⟨hp.1,EM h2 h3 h4 h5 hp.2⟩
theorem AN4 (x:BO J B S c tb r F U w)(hr16:r<16)(key:ByteArray) :
  Calls Tryz.prog 36 #[.pointer (some ⟨tb,0,none⟩),.string key] w λe w'=>e=.returned (.tuple #[itV (ED key.data.toList F),.bool (ED key.data.toList F).isSome])/\NE J B S c tb r F U w w':=by
 obtain⟨h,G,ps,h1,h2,h3,h4,h5⟩:=x;exact (XK h1 h2 h3 hr16 h4 key).mono λe w' hp=>⟨hp.1,EM h2 h3 h4 h5 hp.2⟩
theorem BP0 (x:BO J B S c tb r F U w)(hr16:r<16)(key:ByteArray)(hk:key.size<9223372036854775807) :
  Calls Tryz.prog 37 #[.pointer (some ⟨tb,0,none⟩),.string key] w λe w'=>e=.returned (.tuple #[itV (ED (key.data.toList++[0]) F),.bool (ED (key.data.toList++[0]) F).isSome])/\NE J B S c tb r F U w w':=by
 obtain⟨h,G,ps,h1,h2,h3,h4,h5⟩:=x;exact (AO6 h1 h2 h3 hr16 h4 key hk).mono λe w' hp=>⟨hp.1,EM h2 h3 h4 h5 hp.2⟩
theorem BO9 (x:BO J B S c tb r F U w)(hr16:r<16)(key:ByteArray) :
  Calls Tryz.prog 38 #[.pointer (some ⟨tb,0,none⟩),.string key] w λe w'=>e=.returned (.tuple #[itV (EC key.data.toList F),.bool (EC key.data.toList F).isSome])/\NE J B S c tb r F U w w':=by
 obtain⟨h,G,ps,h1,h2,h3,h4,h5⟩:=x;exact (AO2 h1 h2 h3 hr16 h4 key).mono λe w' hp=>⟨hp.1,EM h2 h3 h4 h5 hp.2⟩
theorem BP1 (x:BO J B S c tb r F U w)(hr16:r<16) :
  Calls Tryz.prog 39 #[.pointer (some ⟨tb,0,none⟩)] w λe w'=>e=.returned (.tuple #[itV F.getLast?,.bool F.getLast?.isSome])/\NE J B S c tb r F U w w':=by
 obtain⟨h,G,ps,h1,h2,h3,h4,h5⟩:=x;exact (BS3 h1 h2 h3 hr16 h4).mono λe w' hp=>⟨hp.1,EM h2 h3 h4 h5 hp.2⟩
theorem BW2 (x:BO J B S c tb r F U w)(hr16:r<16) :
  Calls Tryz.prog 41 #[.pointer (some ⟨tb,0,none⟩)] w λe w'=>e=.returned (.int .i64 F.length)/\NE J B S c tb r F U w w':=by
 obtain⟨h,G,ps,h1,h2,h3,h4,h5⟩:=x;exact (BP3 h1 h2 h3 hr16 h4).mono λe w' hp=>⟨hp.1,EM h2 h3 h4 h5 hp.2⟩
theorem BA4 (x:BO J B S c tb r F U w)(hr16:r<16) :
  Calls Tryz.prog 30 #[.pointer (some ⟨tb,0,none⟩)] w λe w'=>e=.returned (.bool true)/\NE J B S c tb r F U w w':=by
 obtain⟨h,G,ps,h1,h2,h3,h4,h5⟩:=x;exact (BL3 h1 h2 h3 hr16 h4).mono λe w' hp=>⟨hp.1,EM h2 h3 h4 h5 hp.2⟩
theorem NE.bel (hx:NE J B S c tb r F U w w')(hS:∀k,S k->B<=k)(hB:B<=w.heap.size):Below B w w':=by
 obtain⟨S',_,hT⟩:=hx;exact hT.1.toBelow hB hS
theorem BO.low (x:BO J B S c tb r F U w):(∀k,S k->B<=k)/\B<=w.heap.size:=by
 obtain⟨h,G,ps,h1,_⟩:=x;exact⟨λk hk=>(h1.low k hk).1,h1.size⟩
end
def kB:ByteArray:=⟨#[98]⟩
theorem CB8:CM kB.data.toList (⟨#[49]⟩:ByteArray).data.toList []=[⟨[98],[49]⟩]:=rfl
theorem CB7:CM kB.data.toList (⟨#[50]⟩:ByteArray).data.toList [⟨[98],[49]⟩]=[⟨[98],[50]⟩]:=by
 show CM [98] [50] [⟨[98],[49]⟩]=_;unfold CM;rw[if_neg (lt_irrefl _),if_pos rfl]
theorem CD7:RR kB.data.toList [⟨[98],[50]⟩]=.tuple #[.string ⟨#[50]⟩,.int .i64 0]:=by
 unfold RR;rw[if_pos (by decide)];rfl
theorem PT (w:World)(hT:Tab w):Calls Tryz.prog 27 #[] w λe w'=>e=.returned (.bool true)/\Below w.heap.size w w':=by
 obtain⟨B,hBe⟩:∃B,B=w.heap.size:=⟨_,rfl⟩;have HT:=yH hT;have HBE:=yH hBe;rw[<-hBe];clear hBe hT;go_enter Tryz.func27,Tryz.ntmps27;go_wp2_with fail;refine (BL8 w HT.out).mono ?_;rintro e w1 ⟨c,S,rfl,hf,hb1⟩;rw[<-HBE.out]at hf hb1;have HF:=yH hf;have HB1:=yH hb1;have HC:=yH hf.2;clear hf hb1;go_wp2_with fail;refine (W7 HF.out.1 2 (by omega)).mono ?_
 rintro e w2 ⟨tb,rfl,ht,htb,hb2⟩;have HS2:=yH (AD1 HF.out hb2 ht htb);have HB2:=yH (HB1.out.trans (hb2.mono HF.out.1.size));clear ht htb hb2 HF HB1;go_wp2_with fail;refine (BA3 HS2.out (by omega) HC.out (by simp) AN2 kB ⟨#[49]⟩ (by decide) (by decide) (by decide)).mono ?_
 rintro e w3 ⟨rfl,h3⟩;rw[CB8]at h3;have HB3:=yH (HB2.out.trans (h3.bel HS2.out.low.1 HS2.out.low.2));obtain⟨S3,h3,-⟩:=h3;have HS3:=yH h3;clear h3 HS2 HB2;rw[show (!A6 kB.data.toList [])=true from rfl]
 go_wp2_with fail;refine (BA3 HS3.out (by omega) HC.out (by simp) AN2 kB ⟨#[50]⟩ (by decide) (by decide) (by decide)).mono ?_
 rintro e w4 ⟨rfl,h4⟩;rw[CB7]at h4;have HB4:=yH (HB3.out.trans (h4.bel HS3.out.low.1 HS3.out.low.2));obtain⟨S4,h4,-⟩:=h4;have HS4:=yH h4;clear h4 HS3 HB3;rw[show (!A6 kB.data.toList [⟨[98],[49]⟩])=false from by decide]
 go_wp2_with fail;refine (BW3 HS4.out (by omega) kB).mono ?_
 rintro e w5 ⟨rfl,h5⟩;have HB5:=yH (HB4.out.trans (h5.bel HS4.out.low.1 HS4.out.low.2));obtain⟨S5,h5,-⟩:=h5;have HS5:=yH h5;clear h5 HS4 HB4;rw[CD7];go_wp2_with fail;refine (AN4 HS5.out (by omega) ⟨#[]⟩).mono ?_
 rintro e w6 ⟨rfl,h6⟩;have HB6:=yH (HB5.out.trans (h6.bel HS5.out.low.1 HS5.out.low.2));obtain⟨S6,h6,-⟩:=h6;have HS6:=yH h6;clear h6 HS5 HB5;rw[show ED (⟨#[]⟩:ByteArray).data.toList [⟨[98],[50]⟩]=some ⟨[98],[50]⟩ from rfl,show itV (some ⟨[98],[50]⟩)=.agg #[.string ⟨#[98]⟩,.string ⟨#[50]⟩] from rfl,show (some (⟨[98],[50]⟩:En)).isSome=true from rfl]
 have HCK:Hid (∀W,Below w6.heap.size w6 W->Calls Tryz.prog 30 #[.pointer (some ⟨tb,0,none⟩)] W λe w'=>e=.returned (.bool true)/\Below B w w'):=yH λW hb=>by
  have hs:=HS6.out.below hb;refine (BA4 hs (by omega)).mono ?_
  rintro e w7 ⟨rfl,h7⟩;exact⟨rfl,(HB6.out.trans (hb.mono HS6.out.low.2)).trans (h7.bel hs.low.1 hs.low.2)⟩
 clear HS6 HB6;go_wp2_with fail;refine (HCK.out _ ((Below.refl _ _).alloc (Nat.le_refl _) _)).mono ?_;rintro e w7 ⟨rfl,hb7⟩;have HB7:=yH hb7;clear hb7 HCK;go_wp2;go_ret;exact⟨rfl,HB7.out⟩
theorem U8 {F:List En}(hs:Srt F){j:Nat}{e:En}(hj:F[j]? = some e):AP e.key F=j:=by
 obtain⟨hjl,rfl⟩:=List.getElem?_eq_some_iff.1 hj;have hF:F=F.take j++(F[j]::F.drop (j+1)):=by rw[<-List.drop_eq_getElem_cons hjl,List.take_append_drop]
 have hs2:Srt (F.take j++(F[j]::F.drop (j+1))):=by rw[<-hF];exact hs
 obtain⟨h1,h2,h3⟩:=DE.1 hs2;have h4:=AE3 (k:=F[j].key) (A:=F.take j) (B:=F[j]::F.drop (j+1)) (λa ha=>h3 a ha F[j] List.mem_cons_self) (λb hb=>by
  simp only[List.head?_cons,Option.some.injEq]at hb;subst hb;exact lt_irrefl _)
 rw[<-hF,List.length_take]at h4;omega
theorem BR5 {F:List En}(hs:Srt F){j:Nat}{e:En}(hj:F[j]? = some e):ED (e.key++[0]) F=F[j+1]?:=by
 have h1:=U8 hs hj;unfold ED;rw[MB _ hs,h1];have h2:A6 e.key F=true:=by unfold A6;rw[h1,hj];simp
 rw[if_pos h2]
theorem BQ4 {F:List En}(hs:Srt F){j:Nat}{e:En}(hj:F[j]? = some e):EC e.key F=if j=0 then none else F[j-1]?:=by
 unfold EC;rw[U8 hs hj]
theorem BD8 {F:List En}(hs:Srt F){j:Nat}{e:En}(hj:F.reverse[j]? = some e):EC e.key F=F.reverse[j+1]?:=by
 have hlt:=(List.getElem?_eq_some_iff.1 hj).1;rw[List.length_reverse]at hlt;rw[List.getElem?_reverse hlt]at hj;rw[BQ4 hs hj];by_cases h0:F.length-1-j=0
 ·rw[if_pos h0,List.getElem?_eq_none (by rw[List.length_reverse];omega)]
 ·rw[if_neg h0,List.getElem?_reverse (by omega),show F.length-1-j-1=F.length-1-(j+1) by omega]
theorem BJ0 (F:List En):ED [] F=F[0]?:=by
 unfold ED;cases F with
 | nil=>rfl
 | cons a r=>rw[EV (FC _)]
theorem BG1 (F:List En):F.getLast? = F.reverse[0]?:=by rw[List.getLast?_eq_head?_reverse,List.head?_eq_getElem?]
def BS1:Value->Nat
 | .slice _ n _=>n
 | _=>0
structure WhI (J:List AD->Prop)(B:Nat)(c:Ac)(tb r:Nat)(F:List En)(U:Us)(S:Nat->Prop)(w:World)(n1:Nat)(vo vb:Value)(fo fb:List En)(o:Option En)(wr:World):Prop where
 st:∃S',BO J B S' c tb r F U wr/\AO S w S' wr/\LiI S' wr vo fo/\LiI S' wr vb fb/\¬S' n1
 x:∃a b:ByteArray,wr.heap[n1]? = some (.cells #[.string a,.string b] 89 (0,0))/\itV o=.agg #[.string a,.string b]
 ne:vo.ownBlock≠some n1/\vb.ownBlock≠some n1/\(∀g,vo.ownBlock=some g->vb.ownBlock≠some g)/\w.heap.size<=n1
section
variable {J:List AD->Prop} {B:Nat} {S:Nat->Prop} {c:Ac} {w wr:World} {tb r n1:Nat} {F fo fb:List En} {U:Us} {vo vb:Value} {o:Option En}
theorem WhI.below {W:World}(I:WhI J B c tb r F U S w n1 vo vb fo fb o wr)(hb:Below wr.heap.size wr W):WhI J B c tb r F U S w n1 vo vb fo fb o W:=by
 obtain⟨S',h1,h2,h3,h4,h5⟩:=I.st;obtain⟨a,b,h6,h7⟩:=I.x;exact⟨⟨S',h1.below hb,h2.trans (AO.ofBelow hb),h3.below hb,h4.below hb,h5⟩,⟨a,b,(hb.block n1 (Array.getElem?_eq_some_iff.1 h6).1).trans h6,h7⟩,I.ne⟩
theorem WhI.swap (I:WhI J B c tb r F U S w n1 vo vb fo fb o wr):WhI J B c tb r F U S w n1 vb vo fb fo o wr:=by
 obtain⟨S',h1,h2,h3,h4,h5⟩:=I.st;exact⟨⟨S',h1,h2,h4,h3,h5⟩,I.x,I.ne.2.1,I.ne.1,λg hg e=>I.ne.2.2.1 g e hg,I.ne.2.2.2⟩
theorem BO.kept {S' T:Nat->Prop}{W:World}(x:BO J B S' c tb r F U wr)(hk:AC T wr W)(hT:∀k,T k->k<wr.heap.size->¬S' k/\1<=k/\k≠tb):BO J B S' c tb r F U W:=by
 obtain⟨h,G,ps,h1,h2,h3,h4,h5⟩:=x;exact⟨h,G,ps,h1.kept hk (λk hk hl=>⟨(hT k hk hl).1,(hT k hk hl).2.1⟩),h2.kept hk (λht=>(hT tb ht h2.lt).2.2 rfl),h3,h4,h5⟩
theorem WhI.app (I:WhI J B c tb r F U S w n1 vo vb fo fb o wr)(htb:tb<w.heap.size)(hnew:∀g,vo.ownBlock=some g->w.heap.size<=g){e:En}(ho:o=some e)(hl:fo.length<=90000) :
  ∃(a b:ByteArray),wr.cell? ⟨n1,0,none⟩=some (.string a)/\wr.cell? ⟨n1,1,none⟩=some (.string b)/\∃v2 w2,(Builtin.append_ #[74,74] 74 #[vo,.slice (some ⟨wr.heap.size,0,none⟩) 1 1]).run Tryz.prog (wr.alloc (.cells #[.string a,.string b] 89))=.ok v2 w2 /\
   WhI J B c tb r F U S w n1 v2 vb (fo++[e]) fb o w2/\(∀g,v2.ownBlock=some g->w.heap.size<=g)/\w2.cell? ⟨n1,0,none⟩=some (.string a)/\a.data.toList=e.key/\∃A c2,v2=.slice A (fo.length+1) c2:=by
 obtain⟨S',h1,h2,h3,h4,h5⟩:=I.st;obtain⟨a,b,h6,h7⟩:=I.x;obtain⟨i1,i2,i3,i4⟩:=I.ne;subst ho;have h7:Value.agg #[.string ⟨e.key.toArray⟩,.string ⟨e.val.toArray⟩]=.agg #[.string a,.string b]:=h7;injection h7 with h7
 have h8:[Value.string ⟨e.key.toArray⟩,.string ⟨e.val.toArray⟩]=[.string a,.string b]:=congrArg Array.toList h7;injection h8 with h8 h9
 injection h9 with h9 _
 injection h8 with h8
 injection h9 with h9
 subst h8 h9;have hn1l:n1<wr.heap.size:=(Array.getElem?_eq_some_iff.1 h6).1;have hz:=h2.1.size;refine⟨_,_,by rw[yC h6];rfl,by rw[yC h6];rfl,?_⟩
 obtain⟨wa,hwa⟩:∃wa,wa=wr.alloc (.cells #[.string ⟨e.key.toArray⟩,.string ⟨e.val.toArray⟩] 89):=⟨_,rfl⟩;have hba:Below wr.heap.size wr wa:=by rw[hwa];exact (Below.refl _ _).alloc (Nat.le_refl _) _
 have hza:wa.heap.size=wr.heap.size+1:=by rw[hwa];simp
 have hnw:wa.heap[wr.heap.size]? = some (.cells #[.string ⟨e.key.toArray⟩,.string ⟨e.val.toArray⟩] 89 (0,0)):=by rw[hwa];exact heap_alloc_new wr _
 obtain⟨v2,w2,hr,j1,j2⟩:=M8 wa 74 vo fo [e] (h3.is.below hba) ⟨wr.heap.size,0,none⟩ 1 (λi u hu=>by
  rw[EL,Nat.zero_add,yC hnw,<-hu];simp[itC]) (by simp;omega)
 have hk:AC (λk=>vo.ownBlock=some k) wa w2:=⟨j2.1.os,j2.1.tape,j2.1.output,j2.1.size,λk hk hne=>j2.1.block k hk (λe=>hne e.symm)⟩
 have hkw:AC (λk=>vo.ownBlock=some k) wr w2:=(AC.ofBelow (S:=λk=>vo.ownBlock=some k) hba).trans hk (λ_ h=>.inl h)
 have hlow:∀k,S' k->k<wr.heap.size:=λk hk=>by
  obtain⟨h,G,ps,hA,_⟩:=h1;exact (hA.low k hk).2
 have hown2:∀g,v2.ownBlock=some g->vo.ownBlock=some g\/wr.heap.size<=g:=λg hg=>(j2.2 g hg).imp id (λh=>by omega)
 have hx2:w2.heap[n1]? = some (.cells #[.string ⟨e.key.toArray⟩,.string ⟨e.val.toArray⟩] 89 (0,0)):=(hkw.block n1 hn1l i1).trans h6;refine⟨v2,w2,by rw[<-hwa];exact hr,⟨⟨S',h1.kept hkw (λk hk hl=>⟨h3.out k hk,by have:=hnew k hk;omega,by have:=hnew k hk;omega⟩),⟨h2.1.trans hkw (λk hk=>.inr (hnew k hk)),h2.2⟩,⟨j1,λg hg hs=>(hown2 g hg).elim (λh=>h3.out g h hs) (λh=>by have:=hlow g hs;omega)⟩,⟨h4.is.kept hkw (λg hg e=>i3 g e hg),h4.out⟩,h5⟩,⟨_,_,hx2,rfl⟩,λh=>(hown2 n1 h).elim i1 (λh=>by omega),i2,λg hg hb=>(hown2 g hg).elim (λh=>i3 g h hb) (λh=>by have:=h4.is.lt g hb;omega),i4⟩,λg hg=>(hown2 g hg).elim (hnew g) (λh=>by omega),by rw[yC hx2];rfl,rfl,?_⟩
 obtain⟨A,c2,hv,_⟩:=j1.slice;exact⟨A,c2,by rw[hv];simp⟩
theorem WhI.tell (I:WhI J B c tb r F U S w n1 vo vb fo fb o wr)(htb:tb<w.heap.size){f:Nat}{args:Array Value}{o':Option En}
  (hc:∀S',BO J B S' c tb r F U wr->Calls Tryz.prog f args wr λe w'=>e=.returned (.tuple #[itV o',.bool o'.isSome])/\NE J B S' c tb r F U wr w') :
  Calls Tryz.prog f args wr λe w3=>∃(s1 s2:ByteArray),e=.returned (.tuple #[.agg #[.string s1,.string s2],.bool o'.isSome])/\n1<w3.heap.size/\w3.frozen? ⟨n1,0,none⟩=false/\w3.frozen? ⟨n1,1,none⟩=false/\(∃u,w3.cell? ⟨n1,0,none⟩=some u)/\(∃u,w3.cell? ⟨n1,1,none⟩=some u) /\
   Hid (WhI J B c tb r F U S w n1 vo vb fo fb o' ((w3.setCell ⟨n1,0,none⟩ (.string s1)).setCell ⟨n1,1,none⟩ (.string s2))):=by
 obtain⟨S',h1,h2,h3,h4,h5⟩:=I.st;obtain⟨a,b,h6,h7⟩:=I.x;obtain⟨i1,i2,i3,i4⟩:=I.ne;refine (hc S' h1).mono ?_;rintro e w3 ⟨rfl,S3,k1,k2⟩;have hn1l:n1<wr.heap.size:=(Array.getElem?_eq_some_iff.1 h6).1;have hx3:=(k2.1.block n1 hn1l h5).trans h6;have hS3:¬S3 n1:=k2.not hn1l h5;have l3:=h3.turn k2;have l4:=h4.turn k2;obtain⟨s1,s2,bb,hv,hb⟩:=GE o';have y1:=BW (i:=0) hx3 (.string s1);have y2:=BW (i:=1) y1 (.string s2);have hk:AC (λk=>k=n1) w3 ((w3.setCell ⟨n1,0,none⟩ (.string s1)).setCell ⟨n1,1,none⟩ (.string s2)):=(AC.setCell (λk=>k=n1) w3 (b:=n1) (i:=0) rfl (.string s1)).trans (AC.setCell (λk=>k=n1) _ (b:=n1) (i:=1) rfl (.string s2)) (λk e=>.inl e)
 refine⟨s1,s2,by rw[hv],(Array.getElem?_eq_some_iff.1 hx3).1,by simp[World.frozen?,hx3],by simp[World.frozen?,hx3],⟨_,by rw[yC hx3];rfl⟩,⟨_,by rw[yC hx3];rfl⟩,yH ⟨⟨S3,k1.kept hk (λk e _=>by subst e;exact⟨hS3,by omega,by omega⟩),⟨(h2.trans k2).1.trans hk (λk e=>.inr (by omega)),(h2.trans k2).2⟩,⟨l3.is.kept hk (λg hg e=>i1 (e ▸ hg)),l3.out⟩,⟨l4.is.kept hk (λg hg e=>i2 (e ▸ hg)),l4.out⟩,hS3⟩,⟨s1,s2,y2,hv⟩,i1,i2,i3,i4⟩⟩
end
section
variable {J:List AD->Prop} {B:Nat} {S:Nat->Prop} {c:Ac} {w:World} {tb r:Nat} {F:List En} {U:Us}
def AQ5 (J:List AD->Prop)(B:Nat)(c:Ac)(tb r:Nat)(F:List En)(U:Us)(S:Nat->Prop)(w:World)(n1:Nat)(fwd:Bool)(f:Nat)(va vb:Value)(Lst:List En)(j:Nat)(fb:List En)(wr:World):Prop :=
 ∃(a b:ByteArray) (v2:Value) (w2:World) (A:Option Addr) (c2:Nat),wr.cell? ⟨n1,0,none⟩=some (.string a)/\wr.cell? ⟨n1,1,none⟩=some (.string b)/\v2=.slice A (j+1) c2 /\
  (Builtin.append_ #[74,74] 74 #[va,.slice (some ⟨wr.heap.size,0,none⟩) 1 1]).run Tryz.prog (wr.alloc (.cells #[.string a,.string b] 89))=.ok v2 w2/\w2.cell? ⟨n1,0,none⟩=some (.string a) /\
  Hid (Calls Tryz.prog f #[.pointer (some ⟨tb,0,none⟩),.string a] w2 λe w3=>∃(s1 s2:ByteArray),e=.returned (.tuple #[.agg #[.string s1,.string s2],.bool (Lst[j+1]?).isSome])/\n1<w3.heap.size/\w3.frozen? ⟨n1,0,none⟩=false/\w3.frozen? ⟨n1,1,none⟩=false/\(∃u,w3.cell? ⟨n1,0,none⟩=some u)/\(∃u,w3.cell? ⟨n1,1,none⟩=some u) /\
   Hid ((if fwd then WhI J B c tb r F U S w n1 v2 vb (Lst.take (j+1)) fb (Lst[j+1]?) ((w3.setCell ⟨n1,0,none⟩ (.string s1)).setCell ⟨n1,1,none⟩ (.string s2)) else WhI J B c tb r F U S w n1 vb v2 fb (Lst.take (j+1)) (Lst[j+1]?) ((w3.setCell ⟨n1,0,none⟩ (.string s1)).setCell ⟨n1,1,none⟩ (.string s2)))/\∀g,v2.ownBlock=some g->w.heap.size<=g))
theorem BI3 {n1 j:Nat}{va:Value}{wr:World}(htb:tb<w.heap.size)(hr16:r<16)(hF:F.length<=60000)(hks:∀e ∈ F,e.key.length<=96)(I:WhI J B c tb r F U S w n1 va (.slice none 0 0) (F.take j) [] (F[j]?) wr)(hown:∀g,va.ownBlock=some g->w.heap.size<=g)(hj:j<F.length) :
  AQ5 J B c tb r F U S w n1 true 37 va (.slice none 0 0) F j [] wr:=by
 have he:F[j]? = some F[j]:=List.getElem?_eq_getElem hj;have hs:Srt F:=by
  obtain⟨S',h1,_⟩:=I.st;exact h1.srt
 obtain⟨a,b,k1,k2,v2,w2,k3,I2,k4,k5,k6,A,c2,k7⟩:=I.app htb hown (e:=F[j]) he (by rw[List.length_take];omega)
 rw[show F.take j++[F[j]]=F.take (j+1) from (List.take_succ_eq_append_getElem hj).symm]at I2
 rw[show (F.take j).length=j by rw[List.length_take];omega]at k7
 refine⟨a,b,v2,w2,A,c2,k1,k2,k7,k3,k5,yH ?_⟩;have hka:a.size<=96:=by
  have h2:=hks F[j] (List.getElem_mem _);rw[<-k6]at h2;exact h2
 have hnx:=BR5 hs he;rw[<-k6]at hnx;refine (I2.tell (f:=37) htb (o':=F[j+1]?) (λS' hS=>?_)).mono ?_
 ·have:=BP0 hS hr16 a (by omega)
  rw[hnx]at this;exact this
 ·rintro e w3 ⟨s1,s2,e1,e2,e3,e4,e5,e6,H⟩;exact⟨s1,s2,e1,e2,e3,e4,e5,e6,yH ⟨by rw[if_pos rfl];exact H.out,k4⟩⟩
theorem AW3 {n1 j:Nat}{va vo:Value}{fo:List En}{wr:World}(htb:tb<w.heap.size)(hr16:r<16)(hF:F.length<=60000)(I:WhI J B c tb r F U S w n1 vo va fo (F.reverse.take j) (F.reverse[j]?) wr)(hown:∀g,va.ownBlock=some g->w.heap.size<=g)(hj:j<F.length) :
  AQ5 J B c tb r F U S w n1 false 38 va vo F.reverse j fo wr:=by
 have hjr:j<F.reverse.length:=by rw[List.length_reverse];exact hj
 have he:F.reverse[j]? = some F.reverse[j]:=List.getElem?_eq_getElem hjr;have hs:Srt F:=by
  obtain⟨S',h1,_⟩:=I.st;exact h1.srt
 obtain⟨a,b,k1,k2,v2,w2,k3,I2,k4,k5,k6,A,c2,k7⟩:=I.swap.app htb hown (e:=F.reverse[j]) he (by rw[List.length_take,List.length_reverse];omega)
 rw[show F.reverse.take j++[F.reverse[j]]=F.reverse.take (j+1) from (List.take_succ_eq_append_getElem hjr).symm]at I2
 rw[show (F.reverse.take j).length=j by rw[List.length_take,List.length_reverse];omega]at k7
 refine⟨a,b,v2,w2,A,c2,k1,k2,k7,k3,k5,yH ?_⟩;have hnx:=BD8 hs he;rw[<-k6]at hnx;refine (I2.swap.tell (f:=38) htb (o':=F.reverse[j+1]?) (λS' hS=>?_)).mono ?_
 ·have:=BO9 hS hr16 a
  rw[hnx]at this;exact this
 ·rintro e w3 ⟨s1,s2,e1,e2,e3,e4,e5,e6,H⟩;exact⟨s1,s2,e1,e2,e3,e4,e5,e6,yH ⟨by rw[if_neg (by simp)];exact H.out,k4⟩⟩
end
section
variable {J:List AD->Prop} {B:Nat} {S:Nat->Prop} {c:Ac} {w:World} {tb r:Nat} {F:List En} {U:Us}
theorem MN {α:Type}(l:List α)(j:Nat):(l[j]?).isSome=decide (j<l.length):=by
 by_cases h:j<l.length
 ·rw[List.getElem?_eq_getElem h];simp[h]
 ·rw[List.getElem?_eq_none (by omega)];simp[h]
theorem BO.okL (x:BO J B S c tb r F U w):∀e ∈ F,e.key.length<=96:=by
 obtain⟨h,G,ps,h1,h2,h3,h4,h5⟩:=x;intro e he;exact (h4.okL e he).2.1
theorem BO.tblt (x:BO J B S c tb r F U w):tb<w.heap.size:=by
 obtain⟨h,G,ps,h1,h2,h3,h4,h5⟩:=x;exact h2.lt
def AP9 (J:List AD->Prop)(B:Nat)(S:Nat->Prop)(c:Ac)(tb r:Nat)(F:List En)(U:Us)(v':Value)(w w':World):Prop:=∃S',BO J B S' c tb r F U w'/\AO S w S' w'/\LiI S' w' v' F
theorem AZ2 {f:Nat}{args:Array Value}(hc:Calls Tryz.prog f args w λe w'=>e=.returned (.tuple #[itV (F[0]?),.bool (F[0]?).isSome])/\NE J B S c tb r F U w w') :
  Calls Tryz.prog f args w λe w1=>∃(s1 s2:ByteArray),e=.returned (.tuple #[.agg #[.string s1,.string s2],.bool (decide (0<F.length))])/\w.heap.size<=w1.heap.size/\Hid (WhI J B c tb r F U S w w1.heap.size (.slice none 0 0) (.slice none 0 0) (F.take 0) [] (F[0]?) (w1.alloc (.cells #[.string s1,.string s2] 89))):=by
 refine hc.mono ?_;rintro e w1 ⟨rfl,S',h1,h2⟩;obtain⟨s1,s2,bb,hv,hb⟩:=GE (F[0]?);have hba:Below w1.heap.size w1 (w1.alloc (.cells #[.string s1,.string s2] 89)):=(Below.refl _ _).alloc (Nat.le_refl _) _;have hlow:∀k,S' k->k<w1.heap.size:=λk hk=>by
  obtain⟨h,G,ps,hA,_⟩:=h1;exact (hA.low k hk).2
 have hnn:(Value.slice none 0 0).ownBlock=none:=rfl;refine⟨s1,s2,by rw[hv,MN],h2.1.size,yH ⟨⟨S',h1.below hba,h2.trans (AO.ofBelow hba),by rw[List.take_zero];exact LiI.nil_ _ _,LiI.nil_ _ _,λhs=>by have:=hlow _ hs;omega⟩,⟨s1,s2,heap_alloc_new w1 _,hv⟩,by rw[hnn];simp,by rw[hnn];simp,(λg hg=>by rw[hnn]at hg;cases hg),h2.1.size⟩⟩
theorem AZ1 (x:BO J B S c tb r F U w)(hr16:r<16)(hF:F.length<=60000) :
  Calls Tryz.prog 31 #[.pointer (some ⟨tb,0,none⟩)] w λe w'=>∃v',e=.returned (.tuple #[v',.bool true])/\AP9 J B S c tb r F U v' w w':=by
 have htb:=x.tblt;have hks:=x.okL;have HFROM:=yH (AZ2 (by have:=AN4 x hr16 ⟨#[]⟩;rw[BJ0]at this;exact this))
 have HFW:Hid (∀n1 va j wr,WhI J B c tb r F U S w n1 va (.slice none 0 0) (F.take j) [] (F[j]?) wr->(∀g,va.ownBlock=some g->w.heap.size<=g)->j<F.length->AQ5 J B c tb r F U S w n1 true 37 va (.slice none 0 0) F j [] wr):=yH λn1 va j wr I ho hj=>BI3 htb hr16 hF hks I ho hj
 have HBW:Hid (∀n1 va vo j wr,WhI J B c tb r F U S w n1 vo va F (F.reverse.take j) (F.reverse[j]?) wr->(∀g,va.ownBlock=some g->w.heap.size<=g)->j<F.length->AQ5 J B c tb r F U S w n1 false 38 va vo F.reverse j F wr):=yH λn1 va vo j wr I ho hj=>AW3 htb hr16 hF I ho hj
 have HLAST:Hid (∀n1 vo vb fo fb o wr,WhI J B c tb r F U S w n1 vo vb fo fb o wr->Calls Tryz.prog 39 #[.pointer (some ⟨tb,0,none⟩)] wr λe w3=>∃(s1 s2:ByteArray),e=.returned (.tuple #[.agg #[.string s1,.string s2],.bool (decide (0<F.length))])/\n1<w3.heap.size/\w3.frozen? ⟨n1,0,none⟩=false/\w3.frozen? ⟨n1,1,none⟩=false/\(∃u,w3.cell? ⟨n1,0,none⟩=some u)/\(∃u,w3.cell? ⟨n1,1,none⟩=some u) /\
   Hid (WhI J B c tb r F U S w n1 vo vb fo fb (F.reverse[0]?) ((w3.setCell ⟨n1,0,none⟩ (.string s1)).setCell ⟨n1,1,none⟩ (.string s2)))):=yH λn1 vo vb fo fb o wr I=>by
  have:=I.tell (f:=39) (args:=#[.pointer (some ⟨tb,0,none⟩)]) htb (o':=F.reverse[0]?) (λS' hS=>by
   have h1:=BP1 hS hr16;rw[BG1]at h1;exact h1)
  rw[MN,List.length_reverse]at this;exact this
 have HSL:Hid (∀n1 vo vb fo fb o wr,WhI J B c tb r F U S w n1 vo vb fo fb o wr->(∃A c0,vo=.slice A fo.length c0)/\∃A c0,vb=.slice A fb.length c0):=yH λn1 vo vb fo fb o wr I=>by
  obtain⟨S',h1,h2,h3,h4,h5⟩:=I.st;obtain⟨A,c0,e,_⟩:=h3.is.slice;obtain⟨A',c0',e',_⟩:=h4.is.slice;exact⟨⟨A,c0,e⟩,A',c0',e'⟩
 have HLEN:Hid (∀n1 vo vb fo fb o wr,WhI J B c tb r F U S w n1 vo vb fo fb o wr->fo=F->Calls Tryz.prog 41 #[.pointer (some ⟨tb,0,none⟩)] wr λe w'=>e=.returned (.int .i64 F.length)/\Hid (AP9 J B S c tb r F U vo w w')):=yH λn1 vo vb fo fb o wr I hfo=>by
  subst hfo;obtain⟨S',h1,h2,h3,h4,h5⟩:=I.st;refine (BW2 h1 hr16).mono ?_;rintro e w' ⟨rfl,S2,h6,h7⟩;exact⟨rfl,yH ⟨S2,h6,h2.trans h7,h3.turn h7⟩⟩
 have HCMP:Hid (∀n1 vo vb o wr i,WhI J B c tb r F U S w n1 vo vb F F.reverse o wr->i<F.length->∃g g2 cc cc2 p q,vo=.slice (some ⟨g,0,none⟩) F.length cc/\vb=.slice (some ⟨g2,0,none⟩) F.length cc2/\wr.cell? ⟨g2,i*2,none⟩=some (.string p)/\wr.cell? ⟨g2,i*2+1,none⟩=some (.string q)/\wr.cell? ⟨g,(F.length-1-i)*2,none⟩=some (.string p)/\wr.cell? ⟨g,(F.length-1-i)*2+1,none⟩=some (.string q)):=yH λn1 vo vb o wr i I hi=>by
  obtain⟨S',h1,h2,h3,h4,h5⟩:=I.st;have hm:F.length-1-i<F.length:=by omega
  have e1:F[F.length-1-i]? = some F[F.length-1-i]:=List.getElem?_eq_getElem hm;have e2:F.reverse[i]? = some F[F.length-1-i]:=by rw[List.getElem?_reverse hi];exact e1
  obtain⟨g,cc,a1,_,a2,a3⟩:=h3.is.at_ e1;obtain⟨g2,cc2,b1,_,b2,b3⟩:=h4.is.at_ e2;rw[List.length_reverse]at b1;exact⟨g,g2,cc,cc2,_,_,a1,b1,b2,b3,a2,a3⟩
 obtain⟨n,hn⟩:∃n,n=F.length:=⟨_,rfl⟩;have HN:=yH hn;rw[<-hn]at HFROM HFW HBW HLAST HLEN HCMP hF;clear x hks hn;go_enter Tryz.func31,Tryz.ntmps31;go_wp2_with fail;refine HFROM.out.mono ?_;rintro e w1 ⟨s1,s2,rfl,hn1,HI0⟩;obtain⟨n1,hn1d⟩:∃n1,n1=w1.heap.size:=⟨_,rfl⟩;have HI1:Hid (WhI J B c tb r F U S w n1 (.slice none 0 0) (.slice none 0 0) (F.take 0) [] (F[0]?) (w1.alloc (.cells #[.string s1,.string s2] 89))/\∀g,(Value.slice none 0 0).ownBlock=some g->w.heap.size<=g):=yH ⟨by rw[hn1d];exact HI0.out,λg hg=>by cases hg⟩
 have HN1:=yH hn1d;obtain⟨b0,hb0⟩:∃b0,b0=decide (0<n):=⟨_,rfl⟩;rw[<-hb0];have HB0:=yH hb0;clear HFROM HI0 hn1 hb0;go_wp2;rw[<-HN1.out];clear HN1 hn1d;go_loopw [4,7] (λvo ok wr=>∃(j:Nat) (b:Bool) (A0:Option Addr) (c0:Nat),vo=.slice A0 j c0/\j<=n/\ok=.bool b/\Hid (b=decide (j<n))/\Hid (WhI J B c tb r F U S w n1 (.slice A0 j c0) (.slice none 0 0) (F.take j) [] (F[j]?) wr/\∀g,(Value.slice A0 j c0).ownBlock=some g->w.heap.size<=g)) (λvo _ _=>n-BS1 vo)
 case atStart=>exact⟨0,b0,none,0,rfl,by omega,rfl,HB0,HI1⟩
 case round =>
  obtain⟨j,b,A0,c0,rfl,hjn,rfl,HB,HI⟩:=hrel;cases b with
  | true =>
   have hj:j<n:=of_decide_eq_true HB.out.symm;obtain⟨a,b2,v2,w2,A,c2,d1,d2,rfl,hr,d3,HNX⟩:=HFW.out n1 _ j wr HI.out.1 HI.out.2 hj;have f1:¬(65536:Int)<(j:Int)+1:=by omega
   have f2:¬65536<j+1:=by omega
   clear HI HB HI1;go_wp2_with (at_builtin;refine Lib.wpList_append_run _ rfl (.tmp 15) (.tmp 17) 74 74 rfl _ _ rfl rfl _ _ hr ?_)
   clear hr d1 d2;refine HNX.out.mono ?_;rintro e w3 ⟨s3,s4,rfl,d4,d5,d6,⟨u,d7⟩,⟨u',d8⟩,HW⟩;obtain⟨b3,hb3⟩:∃b3,b3=(F[j+1]?).isSome:=⟨_,rfl⟩;rw[<-hb3];have HB3:Hid (b3=decide (j+1<n)):=yH (by rw[hb3,MN,<-HN.out])
   clear HNX hb3;go_wp2;go_roundw
   case rel=>exact⟨j+1,b3,A,c2,rfl,by omega,rfl,HB3,yH ⟨by have:=HW.out.1;first | exact this | rwa [if_pos rfl]at this,HW.out.2⟩⟩
   case measure=>simp[BS1];omega
  | false =>
   have hj:¬j<n:=of_decide_eq_false HB.out.symm;obtain rfl:j=n:=by omega
   have HI2:Hid (WhI J B c tb r F U S w n1 (.slice A0 j c0) (.slice none 0 0) F [] (F[j]?) wr):=yH (by
    have:=HI.out.1
    rwa [List.take_of_length_le (by rw[<-HN.out];exact Nat.le_refl _)]at this)
   clear HB HI1 HFW HI hj HB0;go_wp2_with fail;refine (HLAST.out _ _ _ _ _ _ _ HI2.out).mono ?_;rintro e w3 ⟨s3,s4,rfl,d4,d5,d6,⟨u,d7⟩,⟨u',d8⟩,HW⟩;obtain⟨b1,hb1⟩:∃b1,b1=decide (0<j):=⟨_,rfl⟩;rw[<-hb1];have HB1:=yH hb1;have HI3:Hid (WhI J B c tb r F U S w n1 (.slice A0 j c0) (.slice none 0 0) F (F.reverse.take 0) (F.reverse[0]?) ((w3.setCell ⟨n1,0,none⟩ (.string s3)).setCell ⟨n1,1,none⟩ (.string s4))/\∀g,(Value.slice none 0 0).ownBlock=some g->w.heap.size<=g):=yH ⟨by rw[List.take_zero];exact HW.out,λg hg=>by cases hg⟩
   clear HLAST HI2 hb1 HW;go_wp2;clear d4 d5 d6 d7 d8;go_loopw [5,7] (λvb ok wr=>∃(i:Nat) (b:Bool) (A1:Option Addr) (c1:Nat),vb=.slice A1 i c1/\i<=j/\ok=.bool b/\Hid (b=decide (i<j))/\Hid (WhI J B c tb r F U S w n1 (.slice A0 j c0) (.slice A1 i c1) F (F.reverse.take i) (F.reverse[i]?) wr/\∀g,(Value.slice A1 i c1).ownBlock=some g->w.heap.size<=g)) (λvb _ _=>j-BS1 vb)
   case atStart=>exact⟨0,b1,none,0,rfl,by omega,rfl,HB1,HI3⟩
   case round =>
    obtain⟨i,b,A1,c1,rfl,hin,rfl,HB,HI⟩:=hrel;cases b with
    | true =>
     have hi:i<j:=of_decide_eq_true HB.out.symm;obtain⟨a,b2,v2,w2,A,c2,d1,d2,rfl,hr,d3,HNX⟩:=HBW.out n1 _ _ i wr HI.out.1 HI.out.2 hi;have f1:¬(j:Int)<(i:Int)+1:=by omega
     have f2:¬j<i+1:=by omega
     clear HI HB HI3 HB1;go_wp2_with (at_builtin;refine Lib.wpList_append_run _ rfl (.tmp 35) (.tmp 37) 74 74 rfl _ _ rfl rfl _ _ hr ?_)
     clear hr d1 d2;refine HNX.out.mono ?_;rintro e w4 ⟨s5,s6,rfl,d4,d5,d6,⟨u2,d7⟩,⟨u3,d8⟩,HW⟩;obtain⟨b3,hb3⟩:∃b3,b3=(F.reverse[i+1]?).isSome:=⟨_,rfl⟩;rw[<-hb3];have HB3:Hid (b3=decide (i+1<j)):=yH (by rw[hb3,MN,List.length_reverse,<-HN.out])
     clear HNX hb3;go_wp2;go_roundw
     case rel=>exact⟨i+1,b3,A,c2,rfl,by omega,rfl,HB3,yH ⟨by have:=HW.out.1;rwa [if_neg (by simp)]at this,HW.out.2⟩⟩
     case measure=>simp[BS1];omega
    | false =>
     have hi:¬i<j:=of_decide_eq_false HB.out.symm;obtain rfl:i=j:=by omega
     have HI4:Hid (∃o,WhI J B c tb r F U S w n1 (.slice A0 i c0) (.slice A1 i c1) F F.reverse o wr):=yH ⟨_,by
      have:=HI.out.1
      rwa [List.take_of_length_le (by rw[List.length_reverse,<-HN.out];exact Nat.le_refl _)]at this⟩
     clear HB HBW HI hi HI3 HB1;go_wp2;go_loopw [8] (λv wr=>∃k:Nat,k<=i/\v=.int .i64 k/\Hid (∃o,WhI J B c tb r F U S w n1 (.slice A0 i c0) (.slice A1 i c1) F F.reverse o wr)) (λv _=>i-(intOf v).toNat)
     case atStart=>exact⟨0,by omega,rfl,HI4⟩
     case round =>
      obtain⟨k,hk,rfl,HI⟩:=hrel;by_cases hki:k<i
      ·obtain⟨g,g2,cc,cc2,p,q,h1,h2,d1,d2,d3,d4⟩:∃g g2 cc cc2 p q,(Value.slice A0 i c0)=.slice (some ⟨g,0,none⟩) i cc/\(Value.slice A1 i c1)=.slice (some ⟨g2,0,none⟩) i cc2/\wr.cell? ⟨g2,k*2,none⟩=some (.string p)/\wr.cell? ⟨g2,k*2+1,none⟩=some (.string q)/\wr.cell? ⟨g,(i-1-k)*2,none⟩=some (.string p)/\wr.cell? ⟨g,(i-1-k)*2+1,none⟩=some (.string q):=by
        obtain⟨o,h⟩:=HI.out;exact HCMP.out _ _ _ o wr k h hki
       injection h1 with h1 _ h3
       injection h2 with h2 _ h4
       subst h1 h2 h3 h4;obtain⟨m,hm⟩:∃m,m=i-1-k:=⟨_,rfl⟩;rw[<-hm]at d3 d4;have f1:(k:Int)<(i:Int):=by omega
       have f2:(0:Int)<=(k:Int):=by omega
       have f3:IntKind.i64.wrap ((i:Int)-1)=(i:Int)-1:=IntWalk.i64_in _ (by omega)
       have f4:IntKind.i64.wrap ((i:Int)-1-(k:Int))=(m:Int):=by rw[IntWalk.i64_in _ (by omega)];omega
       have f5:(m:Int)<(i:Int):=by omega
       have f6:m<i:=by omega
       have HBD:Hid (∀q2,∃o,WhI J B c tb r F U S w n1 (.slice (some ⟨g,0,none⟩) i c0) (.slice (some ⟨g2,0,none⟩) i c1) F F.reverse o (wr.drewN q2)):=yH λq2=>by
        obtain⟨o,h⟩:=HI.out;exact⟨o,h.below (AF wr q2)⟩
       clear HI HI4 HCMP HLEN hm;go_wp2;go_quiet (fail);go_wp2;go_roundw
       case rel=>exact⟨k+1,by omega,by go_num,yH (HBD.out _)⟩
       case measure=>simp[intOf];omega
      ·obtain rfl:k=i:=by omega
       obtain⟨o,hI⟩:=HI.out;have HL:=yH (HLEN.out _ _ _ _ _ _ _ hI rfl);clear HI HI4 HCMP HLEN hI;go_wp2_with fail;refine HL.out.mono ?_;rintro e w5 ⟨rfl,HE⟩;clear HL;go_wp2;go_ret2;exact⟨_,rfl,HE.out⟩
end
def OA (kd:Int)(key val:ByteArray)(l:List En):List En :=
 if kd=1 then NS key val l else if kd=2 then DI key.data.toList l else if kd=7 then [] else l
theorem R0 (kd:Int)(key val:ByteArray)(l:List En):(OA kd key val l).length<=l.length+1:=by
 have hi:∀(k v:List UInt8) (l:List En),(CM k v l).length<=l.length+1:=λk v l=>by
  induction l with
  | nil=>exact Nat.le_refl _
  | cons a r ih =>
   unfold CM;split
   ·simp only[List.length_cons];omega
   ·split
    ·simp
    ·simp
 unfold OA NS;split
 ·split
  ·exact hi _ _ _
  ·omega
 ·split
  ·exact Nat.le_succ_of_le (List.length_filter_le _ _)
  ·split
   ·simp
   ·omega
section
variable {J:List AD->Prop} {B:Nat} {S:Nat->Prop} {c:Ac} {h:Hd} {G:Nat->List UInt8} {w:World} {tb r:Nat} {F l:List En} {ps:List Nat} {U:List Nat} {v:Value}
theorem BJ5 (x:AU J B S c h G w)(ht:AH w tb c.a r)(htS:¬S tb)(hr16:r<16)(hC:∀q,(c.C q).length=512)(on:AY h G (h.root r) F ps)(hrm:CU h U 16)(li:LiI S w v l)(hl:l.length<=80000)(hs:Srt l)(kd:Int)(key val:ByteArray)(hks:key.size<9223372036854775807) :
  Calls Tryz.prog 29 #[.pointer (some ⟨tb,0,none⟩),v,.agg #[.int .i64 kd,.string key,.string val]] w (E6 J B S c h G tb r ps (OA kd key val F) (OA kd key val l) (l=F) w):=by
 have hn:∀m:Int,m≠1->m≠2->m≠7->∀l,OA m key val l=l:=λm h1 h2 h3 l=>by unfold OA;rw[if_neg h1,if_neg h2,if_neg h3]
 by_cases h1:kd=1
 ·subst h1;exact BJ2 x ht htS hr16 hC on hrm li hl key val
 by_cases h2:kd=2
 ·subst h2;exact BJ4 x ht htS hr16 hC on hrm li hl hs key val
 by_cases h7:kd=7
 ·subst h7;exact AX2 x ht htS hr16 on key val
 rw[hn kd h1 h2 h7,hn kd h1 h2 h7];by_cases h3:kd=3
 ·subst h3;exact BJ3 x ht htS hr16 on li hl key val
 by_cases h4:kd=4
 ·subst h4;exact AX1 x ht htS hr16 on li hl key val
 by_cases h5:kd=5
 ·subst h5;exact AX0 x ht htS hr16 on li hl key val hks
 by_cases h6:kd=6
 ·subst h6;exact AW9 x ht htS hr16 on li hl key val
 exact AL4 x ht on li kd (by omega) key val
theorem AN5 {U:Us}(x:BO J B S c tb r F U w)(hr16:r<16)(hC:∀q,(c.C q).length=512)(hF:F.length<=1001)(hU:U.Ok)(li:LiI S w v l)(hl:l.length<=80000)(hs:Srt l)(kd:Int)(key val:ByteArray)(hks:key.size<9223372036854775807) :
  Calls Tryz.prog 29 #[.pointer (some ⟨tb,0,none⟩),v,.agg #[.int .i64 kd,.string key,.string val]] w λe w'=>∃(v':Value) (b:Bool) (S':Nat->Prop),e=.returned (.tuple #[v',.bool b])/\(l=F->b=true)/\BO J B S' c tb r (OA kd key val F) U w'/\AO S w S' w'/\LiI S' w' v' (OA kd key val l):=by
 obtain⟨h,G,ps,h1,h2,h3,h4,h5⟩:=x;refine (BJ5 h1 h2 h3 hr16 hC h4 (Z6 h4 h5.1 hF hU.1) li hl hs kd key val hks).mono ?_;rintro e w' ⟨v',b,rfl,hb,h',G',S',ps',q1,q2,q3,q4,q5,q6⟩;exact⟨v',b,S',rfl,hb,⟨h',G',ps',q1,q3,q2.not h2.lt h3,q4,q5.only h5.1,hU.2 _ _ _⟩,q2,q6⟩
end
end Go.Proofs.YtfbbjiidccbaiaaGreatDoor
set_option maxRecDepth 100000
set_option maxHeartbeats 6400000
namespace Go.Proofs.YtfbbjiidccbaiaaGreatDoor
open Go Go.ChangeShapes Go.WideShapes Go.ChangeAt Go.RowKit Go.Deep Go.Joins
theorem BS5:laidOutB Tryz.prog=true:=by kernel_rfl
theorem AI4:Tryz.prog.readableRec 67=true:=by kernel_rfl
theorem BT9:Tryz.prog.cellsOf 78=3:=by kernel_rfl
theorem BZ5:Tryz.prog.cellsOf 3=1:=by kernel_rfl
theorem BZ4:Tryz.prog.cellsOf 9=1:=by kernel_rfl
structure It where
 k:Int
 f:ByteArray
 n:ByteArray
def I64 (n:Int):Prop:=-9223372036854775808<=n/\n<=9223372036854775807
def It.Fits (x:It):Prop:=I64 x.k/\x.f.size<=9223372036854775807/\x.n.size<=9223372036854775807
def Sl (w:World)(a:Option Addr)(xs:List It):Prop :=
 xs=[]\/∃b off,a=some ⟨b,off,none⟩/\b<w.heap.size/\∀j (h:j<xs.length),w.cell? ⟨b,off+j*3,none⟩=some (.int .i64 (xs[j]'h).k)/\w.cell? ⟨b,off+j*3+1,none⟩=some (.string (xs[j]'h).f)/\w.cell? ⟨b,off+j*3+2,none⟩=some (.string (xs[j]'h).n)
theorem Sl.below {w w':World}{a:Option Addr}{xs:List It}(h:Sl w a xs)(hb:Below w.heap.size w w'):Sl w' a xs:=by
 rcases h with h|⟨b,off,ha,hbw,hc⟩
 ·exact .inl h
 ·refine .inr ⟨b,off,ha,Nat.lt_of_lt_of_le hbw hb.size,λj hj=>?_⟩
  obtain⟨h0,h1,h2⟩:=hc j hj;exact⟨(hb.cell hbw).trans h0,(hb.cell hbw).trans h1,(hb.cell hbw).trans h2⟩
section
variable {H:Type} {enc:TypeId × Value->H} {W:World} {base:Nat} {sp:Nat->Bool} {held:Bool}
theorem AV7 {n:Int}(h:(Lit.int .i64 n).wf=true):I64 n:=by
 have e1:IntKind.i64.min=-9223372036854775808:=rfl;have e2:IntKind.i64.max=9223372036854775807:=rfl;simp[Lit.wf,e1,e2]at h;exact⟨h.1,h.2⟩
theorem BC8 {fuel:Nat}{v:Value}{y:DataW H × List MemPlace}(h:DataW.trod enc Tryz.prog W base sp held fuel 3 [v]=some y):∃n,v=.int .i64 n/\I64 n:=by
 obtain⟨n,e,_,wf⟩:=DataW.trod_int Tryz.underlying3 h;simp at e;exact⟨n,e,AV7 wf⟩
theorem SO {fuel:Nat}{v:Value}{y:DataW H × List MemPlace}(h:DataW.trod enc Tryz.prog W base sp held fuel 9 [v]=some y):∃s,v=.string s/\y=(.lit (.string s.data.toList),[])/\s.size<=9223372036854775807:=by
 obtain⟨s,e,hy,hs⟩:=DataW.trod_string Tryz.underlying9 h;simp at e;exact⟨s,e,hy,hs⟩
def AM6 (W:World)(a:Addr)(i:Nat)(x:It):Prop :=
 W.cell? (a.add (i*3))=some (.int .i64 x.k)/\W.cell? (a.add (i*3+1))=some (.string x.f)/\W.cell? (a.add (i*3+2))=some (.string x.n)/\x.Fits
def AG3 (d:DataW H)(x:It):Prop:=∃a c,d=.agg [a,.lit (.string x.f.data.toList),c]
theorem AT5 {a:Addr}{i n:Nat}{cs:List Value}{y:DataW H × List MemPlace}(hc:W.cells? base (a.add (i*3)) 3=some cs)(h:DataW.trod enc Tryz.prog W base sp held n 78 cs=some y):∃x,AM6 W a i x/\AG3 y.1 x:=by
 obtain⟨ys,n',_,hy,_,hyl,hf⟩:=DataW.trod_struct Tryz.underlying78 h;obtain⟨_,hcl,hat⟩:=World.cells?_some hc;match cs,hcl,ys,hyl with
 | [u0,u1,u2],_,[y0,y1,y2],_ =>
  have f0:DataW.trod enc Tryz.prog W base sp held n' 3 (([u0,u1,u2].drop 0).take (Tryz.prog.cellsOf 3))=some y0:=hf 0 _ rfl;have f1:DataW.trod enc Tryz.prog W base sp held n' 9 (([u0,u1,u2].drop 1).take (Tryz.prog.cellsOf 9))=some y1:=hf 1 _ rfl;have f2:DataW.trod enc Tryz.prog W base sp held n' 9 (([u0,u1,u2].drop 2).take (Tryz.prog.cellsOf 9))=some y2:=hf 2 _ rfl;rw[BZ5]at f0;rw[BZ4]at f1 f2;obtain⟨k,rfl,hk⟩:=BC8 (v:=u0) (y:=y0) f0;obtain⟨f,rfl,e1,hf'⟩:=SO (v:=u1) (y:=y1) f1;obtain⟨m,rfl,_,hm⟩:=SO (v:=u2) (y:=y2) f2;refine⟨⟨k,f,m⟩,⟨?_,?_,?_,hk,hf',hm⟩,⟨y0.1,y2.1,by rw[hy,e1];rfl⟩⟩
  ·exact hat 0 (by omega)
  ·rw[<-add_add];exact hat 1 (by omega)
  ·rw[<-add_add];exact hat 2 (by omega)
theorem AB0 {r:Reach}{b0:Nat}{v:Value}{d:DataW H}{p:List MemPlace}(hv:Value.okWide Tryz.prog W r b0 67 v)(hd:DataW.Trod enc Tryz.prog W base sp held 67 v d p) :
  ∃(a:Option Addr) (xs:List It) (lc:Nat),v=.slice a xs.length lc/\Sl W a xs/\(∀x ∈ xs,x.Fits)/\(d=.nil/\xs=[]\/∃elems spare,d=.slice elems spare/\xs.length<=elems.length/\∀x ∈ xs,∃e ∈ elems,AG3 e x):=by
 obtain⟨a1,len1,cap1,rfl⟩:=okWide_slice Tryz.underlying67 hv;obtain⟨fuel,h⟩:=hd;rcases open_slice Tryz.underlying67 h with⟨e,hd0⟩|⟨a,len,cap,m,n,D,Pl,e,hd0,hl,hdd,hm,hh,hi⟩
 ·simp[Value.cells]at e;obtain⟨rfl,rfl,rfl⟩:=e;have hd1:d=.nil:=congrArg Prod.fst hd0;exact⟨none,[],0,rfl,.inl rfl,(λx hx=>by simp at hx),.inl ⟨hd1,rfl⟩⟩
 ·simp[Value.cells]at e;obtain⟨rfl,rfl,rfl⟩:=e;have hd1:d=.slice (List.map D (List.range len1)) (List.map (λj=>D (len1+j)) (List.range (m-len1))):=congrArg Prod.fst hh
  have hlen:len1<=m:=by rw[hm];split <;> omega
  rw[BT9]at hi;have hx:∀i,i<len1->∃x,AM6 W a i x/\AG3 (D i) x:=λi hil=>by
   obtain⟨cs',hc,ht⟩:=hi i (by omega)
   exact AT5 hc ht
  let f:Nat->It:=λi=>if h:i<len1 then Classical.choose (hx i h) else ⟨0,⟨#[]⟩,⟨#[]⟩⟩
  have hf:∀i,i<len1->AM6 W a i (f i)/\AG3 (D i) (f i):=λi hil=>by
   have:f i=Classical.choose (hx i hil):=dif_pos hil
   rw[this];exact Classical.choose_spec (hx i hil)
  have hlf:((List.range len1).map f).length=len1:=by simp
  have hget:∀j (hj:j<((List.range len1).map f).length),((List.range len1).map f)[j]'hj=f j:=λj hj=>by simp
  refine⟨some a,(List.range len1).map f,cap1,by rw[hlf],?_,?_,?_⟩
  ·cases len1 with
   | zero=>exact .inl rfl
   | succ len =>
    obtain⟨b,off,spot⟩:=a;have h0:=(hf 0 (by omega)).1.1
    have hspot:spot=none:=by simpa [Addr.add] using World.cell?_spot h0
    subst hspot;refine .inr ⟨b,off,rfl,?_,λj hj=>?_⟩
    ·rw[add_plain]at h0;unfold World.cell? at h0
     split at h0
     ·rename_i hh
      exact (Array.getElem?_eq_some_iff.1 hh).1
     ·cases h0
    ·obtain⟨⟨e0,e1,e2,_⟩,_⟩:=hf j (by rw[hlf]at hj;exact hj)
     rw[add_plain]at e0 e1 e2;rw[hget j hj];exact⟨e0,e1,e2⟩
  ·intro x hx;obtain⟨i,hi,rfl⟩:=List.mem_map.1 hx;exact (hf i (List.mem_range.1 hi)).1.2.2.2
  ·refine .inr ⟨_,_,hd1,by simp,λx hx=>?_⟩
   obtain⟨i,hi,rfl⟩:=List.mem_map.1 hx;exact⟨D i,List.mem_map.2 ⟨i,hi,rfl⟩,(hf i (List.mem_range.1 hi)).2⟩
end
end Go.Proofs.YtfbbjiidccbaiaaGreatDoor
set_option maxRecDepth 100000
set_option maxHeartbeats 6400000
namespace Go.Proofs.YtfbbjiidccbaiaaGreatDoor
open Go Go.RowKit
def PlI (c:Ac)(tb r:Nat)(w:World)(v:Value)(k:Nat)(wr:World):Prop:=∃(S:Nat->Prop) (F:List En),BO (JL [] []) w.heap.size S c tb r F U0 wr/\LiI S wr v F/\F.length<=k/\Below w.heap.size w wr
section
variable {c:Ac} {tb r k:Nat} {w wr:World} {v:Value} {xs:List It} {a:Option Addr}
theorem PlI.does (I:PlI c tb r w v k wr)(hr16:r<16)(hC:∀q,(c.C q).length=512)(hS:Sl w a xs)(hks:∀x ∈ xs,x.f.size<9223372036854775807)(hn:xs.length<=1000)(hk:k<xs.length) :
  ∃(b off:Nat) (kd:Int) (key val:ByteArray),a=some ⟨b,off,none⟩/\wr.cell? ⟨b,off+k*3,none⟩=some (.int .i64 kd)/\wr.cell? ⟨b,off+k*3+1,none⟩=some (.string key)/\wr.cell? ⟨b,off+k*3+2,none⟩=some (.string val) /\
   Calls Tryz.prog 29 #[.pointer (some ⟨tb,0,none⟩),v,.agg #[.int .i64 kd,.string key,.string val]] wr λe w2=>∃v',e=.returned (.tuple #[v',.bool true])/\Hid (PlI c tb r w v' (k+1) w2):=by
 obtain⟨S,F,h1,h2,h3,h4⟩:=I;rcases hS.below h4 with h0|⟨b,off,ha,hbw,hcell⟩
 ·rw[h0]at hk;simp at hk
 ·obtain⟨c0,c1,c2⟩:=hcell k hk;refine⟨b,off,_,_,_,ha,c0,c1,c2,?_⟩;refine (AN5 h1 hr16 hC (by omega) AN2 h2 (by omega) h1.srt _ _ _ (hks _ (List.getElem_mem hk))).mono ?_
  rintro e w2 ⟨v',b2,S',rfl,hb,q1,q2,q3⟩;rw[hb rfl];have hl:=R0 (xs[k]'hk).k (xs[k]'hk).f (xs[k]'hk).n F;exact⟨v',rfl,yH ⟨S',_,q1,q3,by omega,h4.trans (q2.1.toBelow h4.size h1.low.1)⟩⟩
end
end Go.Proofs.YtfbbjiidccbaiaaGreatDoor
