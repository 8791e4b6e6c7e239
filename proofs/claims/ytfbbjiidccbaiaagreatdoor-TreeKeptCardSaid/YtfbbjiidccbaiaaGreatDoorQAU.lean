/- Texts of one proof, one behind the other: YV, WV, YW, WL, WU, WW, YX, YY, WX. -/
import Derived.Test.YtfbbjiidccbaiaaGreatDoorQAS
import Derived.Test.YtfbbjiidccbaiaaGreatDoorQAT
import Derived.Test.YtfbbjiidccbaiaaGreatDoorQAQ
import Derived.Test.YtfbbjiidccbaiaaGreatDoorQAR
import Derived.Test.YtfbbjiidccbaiaaGreatDoorQAP
import Derived.Test.YtfbbjiidccbaiaaGreatDoorQAA
set_option maxRecDepth 100000
set_option maxHeartbeats 6400000
namespace Go.Proofs.YtfbbjiidccbaiaaGreatDoor
open Go.RowKit
section
variable {J:List AD->Prop} {B:Nat} {S:Nat->Prop} {c:Ac} {h:Hd} {G:Nat->List UInt8} {w:World} {tb r:Nat} {F l:List En} {ps:List Nat} {U:List Nat} {v:Value}
structure CC4 (n0:Nat)(S:Nat->Prop)(kd:Int)(key val:ByteArray)(w W0:World):Prop where
 bel:Below w.heap.size w W0
 c0:W0.cell? ⟨n0,0,none⟩=some (.int .i64 kd)
 c1:W0.cell? ⟨n0,1,none⟩=some (.string key)
 turn:∀(W:World) (S':Nat->Prop),AO S W0 S' W->W.cell? ⟨n0,1,none⟩=some (.string key)
theorem QG (x:AU J B S c h G w)(kd:Int)(key val:ByteArray){W0:World}(hW0:W0=w.alloc (.cells #[.int .i64 kd,.string key,.string val] 78)):CC4 w.heap.size S kd key val w W0:=by
 have hz0:W0.heap.size=w.heap.size+1:=by rw[hW0];simp
 have hop:W0.heap[w.heap.size]? = some (.cells #[.int .i64 kd,.string key,.string val] 78 (0,0)):=by rw[hW0];exact heap_alloc_new w _
 have hopS:¬S w.heap.size:=λhs=>by have:=(x.low _ hs).2;omega
 refine⟨by rw[hW0];exact (Below.refl _ _).alloc (Nat.le_refl _) _,by rw[yC hop];rfl,by rw[yC hop];rfl,λW S' hT=>?_⟩
 have:=(hT.1.block w.heap.size (by omega) hopS).trans hop
 rw[yC this];rfl
theorem BG6 {k:List UInt8}{l:List En}(hs:Srt l)(h:A6 k l=false):DI k l=l:=BJ7 λhh=>by rw[(G9 hs).2 hh]at h;cases h
theorem BJ4 (x:AU J B S c h G w)(ht:AH w tb c.a r)(htS:¬S tb)(hr16:r<16)(hC:∀q,(c.C q).length=512)(on:AY h G (h.root r) F ps)(hrm:CU h U 16)(li:LiI S w v l)(hl:l.length<=80000)(hs:Srt l)(key val:ByteArray) :
  Calls Tryz.prog 29 #[.pointer (some ⟨tb,0,none⟩),v,.agg #[.int .i64 2,.string key,.string val]] w (E6 J B S c h G tb r ps (DI key.data.toList F) (DI key.data.toList l) (l=F) w):=by
 obtain⟨W0,hW0⟩:∃W0,W0=w.alloc (.cells #[.int .i64 2,.string key,.string val] 78):=⟨_,rfl⟩;have o:=QG x 2 key val hW0;have e0:=o.c0;have e1:=o.c1;have HDEL:Hid (Calls Tryz.prog 40 #[.pointer (some ⟨tb,0,none⟩),.string key] W0 λe w1=>∃ec:Int,(ec=0\/ec=3)/\e=.returned (.int .i64 ec)/\w1.cell? ⟨w.heap.size,1,none⟩=some (.string key)/\(l=F->(A6 key.data.toList l=true->ec=0)/\(A6 key.data.toList l=false->ec=3)) /\
   Hid (Calls Tryz.prog 67 #[v,.string key] w1 λe w3=>e=.returned (.bool (A6 key.data.toList l))/\w3=w1) /\
   Hid (A6 key.data.toList l=false->BU J B S c h G tb r ps (DI key.data.toList F) (DI key.data.toList l) v w w1) /\
   Hid (A6 key.data.toList l=true->Calls Tryz.prog 68 #[v,.string key] w1 λe w2=>∃v2,e=.returned v2/\Hid (BU J B S c h G tb r ps (DI key.data.toList F) (DI key.data.toList l) v2 w w2))):=yH (by
  have li0:=li.below o.bel;refine (BZ0 (x.below o.bel) (ht.below o.bel) htS hr16 hC on hrm key).mono ?_;rintro e w1 ⟨rfl,hp⟩;have hp0:=hp;obtain⟨h',G',S',ps',q1,q2,q3,q4,q5⟩:=hp;have li1:=li0.turn q2;refine⟨_,by split <;> simp,rfl,o.turn _ _ q2,λe=>⟨λhb=>by rw[<-e,hb];rfl,λhb=>by rw[<-e,hb];rfl⟩,yH (GZ li1.is (by omega) key),yH λhb=>?_,yH λ_=>?_⟩
  ·rw[BG6 hs hb];exact (BU.of hp0 li0).older o.bel
  ·refine (BC9 li1.is (by omega) key).mono ?_
   rintro e w2 ⟨v2,rfl,hn,hb⟩;exact⟨v2,rfl,yH (((BU.of hp0 li0).renew hn hb).older o.bel)⟩)
 obtain⟨bl,hbl⟩:∃bl,bl=A6 key.data.toList l:=⟨_,rfl⟩;rw[<-hbl]at HDEL;clear x ht htS hC on hrm li o hbl hs;go_enter Tryz.func29,Tryz.ntmps29;go_wp2_with fail;rw[<-hW0];refine HDEL.out.mono ?_;rintro e w1 ⟨ec,hec,rfl,c1,hgd,HH,HN,HY⟩;have HG:=yH hgd;clear HDEL e0 e1 hW0 hgd;go_wp2_with fail;refine HH.out.mono ?_;rintro e w3 ⟨rfl,hw⟩;subst w3;clear HH;cases bl with
 | false =>
  have H1:=yH (HN.out rfl);clear HN HY;rcases hec with rfl|rfl
  ·go_wp2;go_ret2;exact⟨v,_,rfl,λe=>absurd ((HG.out e).2 (by first | rfl | trivial)) (by decide),H1.out⟩
  ·go_wp2;go_ret2;exact⟨v,_,rfl,λ_=>rfl,H1.out⟩
 | true =>
  have H1:=yH (HY.out rfl);clear HN HY;go_wp2_with fail;refine H1.out.mono ?_;rintro e w2 ⟨v2,rfl,HS⟩;clear H1;rcases hec with rfl|rfl
  ·go_wp2;go_ret2;exact⟨v2,_,rfl,λ_=>rfl,HS.out⟩
  ·go_wp2;go_ret2;exact⟨v2,_,rfl,λe=>absurd ((HG.out e).1 (by first | rfl | trivial)) (by decide),HS.out⟩
theorem AX2 (x:AU J B S c h G w)(ht:AH w tb c.a r)(htS:¬S tb)(hr16:r<16)(on:AY h G (h.root r) F ps)(key val:ByteArray) :
  Calls Tryz.prog 29 #[.pointer (some ⟨tb,0,none⟩),v,.agg #[.int .i64 7,.string key,.string val]] w (E6 J B S c h G tb r ps [] [] (l=F) w):=by
 obtain⟨W0,hW0⟩:∃W0,W0=w.alloc (.cells #[.int .i64 7,.string key,.string val] 78):=⟨_,rfl⟩;have o:=QG x 7 key val hW0;have e0:=o.c0;have HD:Hid (Calls Tryz.prog 43 #[.pointer (some ⟨tb,0,none⟩)] W0 λe w1=>e=.returned (.int .i64 0)/\Hid (BU J B S c h G tb r ps [] [] (.slice none 0 0) w w1)):=yH (by
  refine (BT3 (x.below o.bel) (ht.below o.bel) htS hr16 on).mono ?_;rintro e w1 ⟨rfl,hp⟩;exact⟨rfl,yH ((BU.of hp (LiI.nil_ _ _)).older o.bel)⟩)
 clear x ht htS on o;go_enter Tryz.func29,Tryz.ntmps29;go_wp2_with fail;rw[<-hW0];refine HD.out.mono ?_;rintro e w1 ⟨rfl,HS⟩;clear HD e0 hW0;go_wp2;go_ret2;exact⟨_,_,rfl,λ_=>rfl,HS.out⟩
theorem AL4 (x:AU J B S c h G w)(ht:AH w tb c.a r)(on:AY h G (h.root r) F ps)(li:LiI S w v l)(kd:Int)(hk:¬(1<=kd/\kd<=7))(key val:ByteArray) :
  Calls Tryz.prog 29 #[.pointer (some ⟨tb,0,none⟩),v,.agg #[.int .i64 kd,.string key,.string val]] w (E6 J B S c h G tb r ps F l (l=F) w):=by
 obtain⟨W0,hW0⟩:∃W0,W0=w.alloc (.cells #[.int .i64 kd,.string key,.string val] 78):=⟨_,rfl⟩;have o:=QG x kd key val hW0;have e0:=o.c0;have HS:Hid (BU J B S c h G tb r ps F l v w W0):=yH (BU.same x ht on li o.bel);have f1:¬kd=1:=by omega
 have f2:¬kd=2:=by omega
 have f3:¬kd=3:=by omega
 have f4:¬kd=4:=by omega
 have f5:¬kd=5:=by omega
 have f6:¬kd=6:=by omega
 have f7:¬kd=7:=by omega
 clear x ht on li o hk;go_enter Tryz.func29,Tryz.ntmps29;go_wp2;rw[<-hW0];go_ret2;exact⟨_,_,rfl,λ_=>rfl,HS.out⟩
end
section
variable {J:List AD->Prop} {B:Nat} {S:Nat->Prop} {c:Ac} {h:Hd} {G:Nat->List UInt8} {w:World} {tb r:Nat} {F:List En} {ps:List Nat}
def RR (key:List UInt8)(F:List En):Value:=if A6 key F then .tuple #[.string ⟨((ED key F).elim [] (·.val)).toArray⟩,.int .i64 0] else .tuple #[.string ⟨#[]⟩,.int .i64 3]
def O9 (J:List AD->Prop)(B:Nat)(S:Nat->Prop)(c:Ac)(h:Hd)(G:Nat->List UInt8)(o:Value)(w:World)(e:Ending)(w':World):Prop:=e=.returned o/\BI J B S c h G w w'
structure CC3 (J:List AD->Prop)(B:Nat)(S:Nat->Prop)(c:Ac)(h:Hd)(G:Nat->List UInt8)(o:Value)(w:World)(xb at_ gw m N cap:Nat)(arr:Option Addr)(b:Bool)(w3:World):Prop where
 cells:w3.cell? ⟨gw,m*2,none⟩=some (.pointer (some ⟨xb,0,none⟩))/\w3.cell? ⟨gw,m*2+1,none⟩=some (.int .i64 at_)
 small:m<=900/\at_<=N/\N<=512
 node:∀W,Below w3.heap.size w3 W->W.cell? ⟨xb,2,none⟩=some (.slice arr N cap)
 held:b=true->at_<N/\∃(bb of l c2:Nat) (A:Option Addr) (s:ByteArray),arr=some ⟨bb,of,none⟩/\∀W,Below w3.heap.size w3 W->W.cell? ⟨bb,of+at_*2+1,none⟩=some (.slice A l c2)/\(convert 102 9 (.slice A l c2)).run Tryz.prog W=.ok (.string s) W/\O9 J B S c h G o w (.returned (.tuple #[.string s,.int .i64 0])) W
 not_:b=false->∀W,Below w3.heap.size w3 W->O9 J B S c h G o w (.returned (.tuple #[.string ⟨#[]⟩,.int .i64 3])) W
theorem BT2 (x:AU J B S c h G w)(ht:AH w tb c.a r)(htS:¬S tb)(on:AY h G (h.root r) F ps)(key:ByteArray)(k:Nat) :
  ∃kc W,(convert 9 102 (.string key)).run Tryz.prog (w.drewN k)=.ok (.slice (some ⟨w.heap.size,0,none⟩) key.size kc) W/\Hid (Calls Tryz.prog 76 #[.pointer (some ⟨tb,0,none⟩),.int .i64 (h.root r),.slice (some ⟨w.heap.size,0,none⟩) key.size kc] W λe w3=>∃(b:Bool) (xb at_ gw m cv N cap:Nat) (arr:Option Addr),e=.returned (.tuple #[.slice (some ⟨gw,0,none⟩) (m+1) cv,.bool b])/\CC3 J B S c h G (RR key.data.toList F) w xb at_ gw m N cap arr b w3):=by
 obtain⟨kc,W,h1,h2,h3,h4⟩:=B7 (w.drewN k) key;have hbk:Below w.heap.size w (w.drewN k):=AF w k;have hbW:Below w.heap.size w W:=hbk.trans (h4.mono hbk.size);refine⟨kc,W,h1,yH ?_⟩;refine (PP (kc:=kc) (key:=key.data.toList) x ht htS on hbW rfl h3 (λad ha=>by cases ha;exact hbk.size)).mono ?_
 rintro e w3 ⟨b,x0,at_,gw,n,cv,S3,X3,sts,rfl,R,-⟩;obtain⟨m,rfl⟩:∃m,n=m+1:=⟨n-1,by have:=R.len.2.1;omega⟩
 obtain⟨c1,c2,hn,hnS,hle,h512⟩:=R.endAt;rw[Nat.add_sub_cancel]at c1 c2;obtain⟨pre0,q0,z00,hs0⟩:=R.seen;have hpo:∀W,Below w3.heap.size w3 W->BI J B S c h G w W:=λW hb=>⟨S3,R.turn.trans (AO.ofBelow hb),R.act.below hb⟩
 refine⟨b,x0.blk,at_,gw,m,cv,x0.ens.length,x0.cap,x0.arr,rfl,⟨⟨c1,c2⟩,⟨by have:=R.len.2.2;omega,hle,h512⟩,λW hb=>(hn.below hb).c2,λhb=>?_,λhb W hbw=>⟨?_,hpo W hbw⟩⟩⟩
 ·have hlt:=hs0.held hb;have hi:x0.ens[at_]? = some x0.ens[at_]:=List.getElem?_eq_getElem hlt;obtain⟨bb,of,kv,vv,harr,hbl,hfr,k1,k2,k3,k4⟩:=hn.ents.at_ hi;obtain⟨A2,cc2,rfl,_,_,hA2,_⟩:=k4;refine⟨hlt,bb,of,_,cc2,A2,⟨x0.ens[at_].val.toArray⟩,harr,λW hbw=>⟨(hbw.cell (p:=⟨bb,of+at_*2+1,none⟩) hbl).trans k2,QW W A2 _ cc2 (hA2.below hbw),?_,hpo W hbw⟩⟩
  unfold RR;rw[<-hs0.is,hb,if_pos rfl,hs0.next,if_pos hlt,hi];rfl
 ·unfold RR;rw[<-hs0.is,hb];rfl
theorem BI2 (x:AU J B S c h G w)(ht:AH w tb c.a r)(htS:¬S tb)(hr16:r<16)(on:AY h G (h.root r) F ps)(key:ByteArray) :
  Calls Tryz.prog 34 #[.pointer (some ⟨tb,0,none⟩),.string key] w (O9 J B S c h G (RR key.data.toList F) w):=by
 have HTOP:=yH (F9 x ht hr16);have HGO:=yH (BT2 x ht htS on key);obtain⟨rt,hrt⟩:∃rt,rt=h.root r:=⟨_,rfl⟩;rw[<-hrt]at HTOP HGO;obtain⟨o,ho⟩:∃o,o=RR key.data.toList F:=⟨_,rfl⟩;rw[<-ho]at HGO ⊢
 clear x ht htS on hrt ho;go_enter Tryz.func34,Tryz.ntmps34;go_wp2_with fail;refine HTOP.out.mono ?_;rintro e w1 ⟨rfl,k,rfl⟩;obtain⟨kc,W,hcv,HWY⟩:=HGO.out k;clear HTOP HGO;go_wp2_with fail;refine HWY.out.mono ?_;rintro e w3 ⟨b,xb,at_,gw,m,cv,N,cap,arr,rfl,hR⟩;have HR:=yH hR;obtain⟨e1,e2⟩:=hR.cells;obtain⟨f5,f6,f7⟩:=hR.small;clear hcv HWY hR;cases b with
 | false =>
  have HN:=yH (HR.out.not_ rfl w3 (Below.refl _ _));clear HR e1 e2;go_wp2;go_ret2;exact HN.out
 | true =>
 have f1:IntKind.i64.wrap (m:Int)=m:=IntWalk.i64_in _ (by omega)
 have f2:m<m+1:=by omega
 have f3:(m:Int)<(m:Int)+1:=by omega
 have f4:(0:Int)<=(m:Int):=by omega
 obtain⟨W5,hW5⟩:∃W5,W5=w3.alloc (.cells #[.pointer (some ⟨xb,0,none⟩),.int .i64 at_] 133):=⟨_,rfl⟩;obtain⟨sb,hsb⟩:∃sb,sb=w3.heap.size:=⟨_,rfl⟩;obtain⟨g0,bb,of,l,c2,A,s,harr,hit⟩:=HR.out.held rfl;have g4:(at_:Int)<(N:Int):=by omega
 have g5:(0:Int)<=(at_:Int):=by omega
 subst harr;have HSP:Hid (∀W,Below W5.heap.size W5 W->(W.cell? ⟨sb,0,none⟩=some (.pointer (some ⟨xb,0,none⟩))/\W.cell? ⟨sb,1,none⟩=some (.int .i64 at_)/\W.cell? ⟨xb,2,none⟩=some (.slice (some ⟨bb,of,none⟩) N cap)/\W.cell? ⟨bb,of+at_*2+1,none⟩=some (.slice A l c2))/\(convert 102 9 (.slice A l c2)).run Tryz.prog W=.ok (.string s) W/\O9 J B S c h G o w (.returned (.tuple #[.string s,.int .i64 0])) W):=yH λW hb=>by
  have hz5:W5.heap.size=w3.heap.size+1:=by rw[hW5];simp
  have hb5:Below w3.heap.size w3 W5:=by rw[hW5];exact (Below.refl _ _).alloc (Nat.le_refl _) _
  have hbw:Below w3.heap.size w3 W:=hb5.trans (hb.mono (by omega))
  have hn:W5.heap[sb]? = some (.cells #[.pointer (some ⟨xb,0,none⟩),.int .i64 at_] 133 (0,0)):=by rw[hW5,hsb];exact heap_alloc_new w3 _
  have hn2:=(hb.block sb (by omega)).trans hn
  obtain⟨q1,q2,q3⟩:=hit W hbw;exact⟨⟨by rw[yC hn2];rfl,by rw[yC hn2];rfl,HR.out.node W hbw,q1⟩,q2,q3⟩
 clear hit HR;go_wp2;rw[<-hW5,<-hsb];clear hW5 hsb e1 e2;have HS0:=yH (HSP.out _ (Below.refl W5.heap.size W5).drew).1;have HCV:=yH (HSP.out _ (Below.refl W5.heap.size W5).drew).2.1;have HEN:=yH (HSP.out _ (Below.refl W5.heap.size W5).drew).2.2;have HQ:Hid (∀W:World,(W.cell? ⟨sb,0,none⟩=some (.pointer (some ⟨xb,0,none⟩))/\W.cell? ⟨sb,1,none⟩=some (.int .i64 at_)/\W.cell? ⟨xb,2,none⟩=some (.slice (some ⟨bb,of,none⟩) N cap)/\W.cell? ⟨bb,of+at_*2+1,none⟩=some (.slice A l c2))->W.cell? ⟨sb,0,none⟩=some (.pointer (some ⟨xb,0,none⟩))/\W.cell? ⟨sb,1,none⟩=some (.int .i64 at_)/\W.cell? ⟨xb,2,none⟩=some (.slice (some ⟨bb,of,none⟩) N cap)/\W.cell? ⟨bb,of+at_*2+1,none⟩=some (.slice A l c2)):=yH λ_ h=>h
 clear HSP;refine BS (S:=λW=>W.cell? ⟨sb,0,none⟩=some (.pointer (some ⟨xb,0,none⟩))/\W.cell? ⟨sb,1,none⟩=some (.int .i64 at_)/\W.cell? ⟨xb,2,none⟩=some (.slice (some ⟨bb,of,none⟩) N cap)/\W.cell? ⟨bb,of+at_*2+1,none⟩=some (.slice A l c2)) [] (by kernel_rfl) ?_
 refine AJ.take (i:=0) (v:=.pointer (some ⟨sb,0,none⟩)) rfl (by kernel_rfl) (by kernel_rfl) (by kernel_rfl) (by kernel_rfl) (λ_ _ _ h=>h) (Or.inl ⟨by rfl,λW hW=>by go_simp⟩) HS0.out ?_
 refine AJ.take (i:=1) (v:=.pointer (some ⟨xb,0,none⟩)) rfl (by kernel_rfl) (by kernel_rfl) (by kernel_rfl) (by kernel_rfl) (λ_ _ _ h=>h) (Or.inl ⟨by rfl,λW hW=>by have x1:=(HQ.out W hW).1;clear hW;go_simp⟩) HS0.out ?_
 refine AJ.take (i:=2) (v:=.pointer (some ⟨xb,0,none⟩)) rfl (by kernel_rfl) (by kernel_rfl) (by kernel_rfl) (by kernel_rfl) (λ_ _ _ h=>h) (Or.inl ⟨by rfl,λW hW=>by go_simp⟩) HS0.out ?_
 refine AJ.take (i:=3) (v:=.pointer (some ⟨xb,2,none⟩)) rfl (by kernel_rfl) (by kernel_rfl) (by kernel_rfl) (by kernel_rfl) (λ_ _ _ h=>h) (Or.inl ⟨by rfl,λW hW=>by go_simp⟩) HS0.out ?_
 refine AJ.take (i:=4) (v:=.slice (some ⟨bb,of,none⟩) N cap) rfl (by kernel_rfl) (by kernel_rfl) (by kernel_rfl) (by kernel_rfl) (λ_ _ _ h=>h) (Or.inl ⟨by rfl,λW hW=>by have x1:=(HQ.out W hW).2.2.1;clear hW;go_simp⟩) HS0.out ?_
 refine AJ.take (i:=5) (v:=.pointer (some ⟨sb,1,none⟩)) rfl (by kernel_rfl) (by kernel_rfl) (by kernel_rfl) (by kernel_rfl) (λ_ _ _ h=>h) (Or.inl ⟨by rfl,λW hW=>by go_simp⟩) HS0.out ?_
 refine AJ.take (i:=6) (v:=.int .i64 at_) rfl (by kernel_rfl) (by kernel_rfl) (by kernel_rfl) (by kernel_rfl) (λ_ _ _ h=>h) (Or.inl ⟨by rfl,λW hW=>by have x1:=(HQ.out W hW).2.1;clear hW;go_simp⟩) HS0.out ?_
 refine AJ.take (i:=7) (v:=.pointer (some ⟨bb,of+at_*2,none⟩)) rfl (by kernel_rfl) (by kernel_rfl) (by kernel_rfl) (by kernel_rfl) (λ_ _ _ h=>h) (Or.inl ⟨by rfl,λW hW=>by go_simp⟩) HS0.out ?_
 refine AJ.take (i:=8) (v:=.pointer (some ⟨bb,of+at_*2+1,none⟩)) rfl (by kernel_rfl) (by kernel_rfl) (by kernel_rfl) (by kernel_rfl) (λ_ _ _ h=>h) (Or.inl ⟨by rfl,λW hW=>by go_simp⟩) HS0.out ?_
 refine AJ.take (i:=9) (v:=.slice A l c2) rfl (by kernel_rfl) (by kernel_rfl) (by kernel_rfl) (by kernel_rfl) (λ_ _ _ h=>h) (Or.inl ⟨by rfl,λW hW=>by have x1:=(HQ.out W hW).2.2.2;clear hW;go_simp⟩) HS0.out ?_
 refine AJ.ready (rs:=[10]) (by kernel_rfl) (by simp) ?_
 refine AI.cons rfl (λK' hK=>?_) AI.nil
 have hcv:=HCV.out;go_simp
 clear hcv;refine hK.out _ _ (λ_=>HS0.out) ?_
 clear hK K';refine AJ.ready (rs:=[11]) (by kernel_rfl) (by simp) ?_
 refine AI.cons rfl (λK' hK=>?_) AI.nil
 go_simp
 refine hK.out _ _ (λ_=>HS0.out) ?_
 clear hK K';refine AJ.ready (rs:=[12]) (by kernel_rfl) (by simp) ?_
 refine AI.cons rfl (λK' hK=>?_) AI.nil
 go_simp
 refine hK.out _ _ (λ_=>HS0.out) ?_
 clear hK K';refine AJ.done (by kernel_rfl) ?_ _
 go_wp2;go_ret2;exact HEN.out
end
theorem AD5 {s:ByteArray}(h:s=⟨#[]⟩):s.toList=[]/\s.toList.isEmpty=true:=by subst h;exact⟨by rw[ByteArray.toList_eq],by rw[ByteArray.toList_eq];rfl⟩
theorem QK {s:ByteArray}(h:¬s=⟨#[]⟩):¬s.toList=[]/\s.toList.isEmpty=false:=by
 have h1:¬s.toList=[]:=λe=>h (by
  rw[ByteArray.toList_eq]at e;have h2:s.data=#[]:=Array.toList_eq_nil_iff.1 e;cases s;cases h2;rfl)
 refine⟨h1,?_⟩;cases hb:s.toList.isEmpty with
 | false=>rfl
 | true=>exact absurd (List.isEmpty_iff.1 hb) h1
section
variable {J:List AD->Prop} {B:Nat} {S:Nat->Prop} {c:Ac} {h:Hd} {G:Nat->List UInt8} {w:World} {tb r:Nat} {F l:List En} {ps:List Nat} {v:Value}
theorem BJ3 (x:AU J B S c h G w)(ht:AH w tb c.a r)(htS:¬S tb)(hr16:r<16)(on:AY h G (h.root r) F ps)(li:LiI S w v l)(hl:l.length<=80000)(key val:ByteArray) :
  Calls Tryz.prog 29 #[.pointer (some ⟨tb,0,none⟩),v,.agg #[.int .i64 3,.string key,.string val]] w (E6 J B S c h G tb r ps F l (l=F) w):=by
 obtain⟨W0,hW0⟩:∃W0,W0=w.alloc (.cells #[.int .i64 3,.string key,.string val] 78):=⟨_,rfl⟩;have o:=QG x 3 key val hW0;have e0:=o.c0;have e1:=o.c1;obtain⟨Av,cv,rfl,hcv,_⟩:=li.is.slice;have HGET:Hid (Calls Tryz.prog 34 #[.pointer (some ⟨tb,0,none⟩),.string key] W0 λe w1=>∃(s:ByteArray) (ec:Int),(ec=0\/ec=3)/\e=.returned (.tuple #[.string s,.int .i64 ec])/\w1.cell? ⟨w.heap.size,1,none⟩=some (.string key) /\
   Hid (l=F->(A6 key.data.toList l=true->ec=0)/\(A6 key.data.toList l=false->ec=3/\s=⟨#[]⟩)) /\
   Hid (Calls Tryz.prog 67 #[.slice Av l.length cv,.string key] w1 λe w3=>e=.returned (.bool (A6 key.data.toList l))/\w3=w1) /\
   Hid (Calls Tryz.prog 69 #[.slice Av l.length cv,.string key] w1 λe w3=>e=.returned (.int .i64 (AP key.data.toList l))/\w3=w1) /\
   Hid (A6 key.data.toList l=true->AP key.data.toList l<l.length/\∃(g:Nat) (t:ByteArray),Av=some ⟨g,0,none⟩/\w1.cell? ⟨g,AP key.data.toList l*2+1,none⟩=some (.string t)/\(l=F->s=t)) /\
   Hid (BU J B S c h G tb r ps F l (.slice Av l.length cv) w w1)):=yH (by
  have li0:=li.below o.bel;refine (BI2 (x.below o.bel) (ht.below o.bel) htS hr16 on key).mono ?_;rintro e w1 ⟨rfl,hp⟩;have hst:=(BU.act hp (ht.below o.bel) htS on li0).older o.bel;obtain⟨S',hT,hA⟩:=hp;have li1:=li0.turn hT;obtain⟨s,ec,hg,h1,h2⟩:∃(s:ByteArray) (ec:Int),RR key.data.toList F=.tuple #[.string s,.int .i64 ec]/\(A6 key.data.toList F=true->ec=0/\s=⟨((ED key.data.toList F).elim [] (·.val)).toArray⟩)/\(A6 key.data.toList F=false->ec=3/\s=⟨#[]⟩):=by
   unfold RR;cases hb:A6 key.data.toList F with
   | true=>exact⟨_,_,if_pos rfl,λ_=>⟨rfl,rfl⟩,λh=>by cases h⟩
   | false=>exact⟨_,_,if_neg (by simp),λh=>(by cases h),λ_=>⟨rfl,rfl⟩⟩
  refine⟨s,ec,?_,by rw[hg],o.turn _ _ hT,yH λe=>⟨λhb=>(h1 (by rw[<-e];exact hb)).1,λhb=>h2 (by rw[<-e];exact hb)⟩,yH (GZ li1.is (by omega) key),yH (F0 li1.is (by omega) key),yH λhb=>?_,yH hst⟩
  ·cases hb:A6 key.data.toList F with
   | true=>exact .inl (h1 hb).1
   | false=>exact .inr (h2 hb).1
  ·have hlt:=XH hb;have he:l[AP key.data.toList l]? = some l[AP key.data.toList l]:=List.getElem?_eq_getElem hlt;obtain⟨g,c2,hv,_,_,k2⟩:=li1.is.at_ he;injection hv with hA _ _
   refine⟨hlt,g,_,hA,k2,λe=>?_⟩
   subst e;rw[(h1 hb).2];unfold ED;rw[he];rfl)
 obtain⟨bl,hbl⟩:∃bl,bl=A6 key.data.toList l:=⟨_,rfl⟩;obtain⟨m,hm⟩:∃m,m=AP key.data.toList l:=⟨_,rfl⟩;obtain⟨n,hn⟩:∃n,n=l.length:=⟨_,rfl⟩;rw[<-hbl,<-hm,<-hn]at HGET;rw[<-hn];clear x ht htS on li o hbl hm hn hl hcv;go_enter Tryz.func29,Tryz.ntmps29;go_wp2_with fail;rw[<-hW0];refine HGET.out.mono ?_;rintro e w1 ⟨s,ec,hec,rfl,c1,HG,HH,HF,HC,HS⟩;clear HGET e0 e1 hW0;go_wp2_with fail;refine HH.out.mono ?_;rintro e w3 ⟨rfl,hw⟩;subst w3;clear HH;cases bl with
 | false =>
  clear HF HC;by_cases hs:s=⟨#[]⟩
  ·obtain⟨s1,s2⟩:=AD5 hs;have HSE:=yH hs;clear hs;rcases hec with rfl|rfl
   ·go_wp2;go_ret2;exact⟨_,_,rfl,λe=>absurd ((HG.out e).2 (by first | rfl | trivial)).1 (by decide),HS.out⟩
   ·go_wp2;go_ret2;exact⟨_,_,rfl,λ_=>rfl,HS.out⟩
  ·obtain⟨s1,s2⟩:=QK hs;have HSE:=yH hs;clear hs;go_wp2;go_ret2;exact⟨_,_,rfl,λe=>absurd ((HG.out e).2 (by first | rfl | trivial)).2 HSE.out,HS.out⟩
 | true =>
  obtain⟨hlt,g,t,rfl,k2,hst⟩:=HC.out (by first | rfl | trivial)
  have HST:=yH hst;have f1:(m:Int)<(n:Int):=by omega
  clear HC hst;go_wp2_with fail;refine HF.out.mono ?_;rintro e w3 ⟨rfl,hw⟩;subst w3;clear HF;by_cases hs:s.toList=t.toList
  ·have s1:(s.toList == t.toList)=true:=beq_iff_eq.2 hs;clear hs;rcases hec with rfl|rfl
   ·go_wp2;go_ret2;exact⟨_,_,rfl,λ_=>rfl,HS.out⟩
   ·go_wp2;go_ret2;exact⟨_,_,rfl,λe=>absurd ((HG.out e).1 (by first | rfl | trivial)) (by decide),HS.out⟩
  ·have s1:(s.toList == t.toList)=false:=by
    cases hb:s.toList == t.toList with
    | false=>rfl
    | true=>exact absurd (beq_iff_eq.1 hb) hs
   have HSE:=yH hs;clear hs;go_wp2;go_ret2;exact⟨_,_,rfl,λe=>absurd (by rw[HST.out e]) HSE.out,HS.out⟩
end
section
variable (v:Value) (w:World) (hN:∀W,Below w.heap.size w W->BN4 v W)
include hN
end
section
variable {J:List AD->Prop} {B:Nat} {S:Nat->Prop} {c:Ac} {h:Hd} {G:Nat->List UInt8} {w:World} {tb r:Nat} {F:List En} {ps:List Nat}
structure BZ8 (J:List AD->Prop)(B:Nat)(S:Nat->Prop)(c:Ac)(h:Hd)(G:Nat->List UInt8)(o:Option En)(w:World)(tb xb at_ gw m cv N cap:Nat)(arr:Option Addr)(w3:World):Prop where
 cells:w3.cell? ⟨gw,m*2,none⟩=some (.pointer (some ⟨xb,0,none⟩))/\w3.cell? ⟨gw,m*2+1,none⟩=some (.int .i64 at_)
 small:m<=900/\at_<=N/\N<=512
 node:∀W,Below w3.heap.size w3 W->W.cell? ⟨xb,2,none⟩=some (.slice arr N cap)
 item:∀p,p=at_->at_<N->∃(bb of l1 l2 c1 c2:Nat) (A1 A2:Option Addr) (s1 s2:ByteArray),arr=some ⟨bb,of,none⟩/\∀W,Below w3.heap.size w3 W->W.cell? ⟨bb,of+p*2,none⟩=some (.slice A1 l1 c1)/\W.cell? ⟨bb,of+p*2+1,none⟩=some (.slice A2 l2 c2) /\
   Calls Tryz.prog 82 #[.agg #[.slice A1 l1 c1,.slice A2 l2 c2]] W λe w4=>e=.returned (.agg #[.string s1,.string s2])/\Below W.heap.size W w4/\DR w.heap.size s1 s2 w4 λW'=>BX J B S c h G o w (.returned (.tuple #[.agg #[.string s1,.string s2],.bool true])) W'
 beside:¬at_<N->∀W,Below w3.heap.size w3 W->Calls Tryz.prog 83 #[.pointer (some ⟨tb,0,none⟩),.slice (some ⟨gw,0,none⟩) (m+1) cv,.int .i64 1] W λe w4=>∃(s1 s2:ByteArray) (bb:Bool),e=.returned (.tuple #[.agg #[.string s1,.string s2],.bool bb])/\DR w.heap.size s1 s2 w4 λW'=>BX J B S c h G o w (.returned (.tuple #[.agg #[.string s1,.string s2],.bool bb])) W'
theorem BI4 (x:AU J B S c h G w)(ht:AH w tb c.a r)(htS:¬S tb)(on:AY h G (h.root r) F ps){W0:World}(hW0:W0=w.alloc (.cells #[.string ⟨#[]⟩,.string ⟨#[]⟩] 89))(key:ByteArray)(k:Nat) :
  ∃kc W,(convert 9 102 (.string key)).run Tryz.prog (W0.drewN k)=.ok (.slice (some ⟨W0.heap.size,0,none⟩) key.size kc) W/\Hid (Calls Tryz.prog 76 #[.pointer (some ⟨tb,0,none⟩),.int .i64 (h.root r),.slice (some ⟨W0.heap.size,0,none⟩) key.size kc] W λe w3=>∃(b:Bool) (xb at_ gw m cv N cap:Nat) (arr:Option Addr),e=.returned (.tuple #[.slice (some ⟨gw,0,none⟩) (m+1) cv,.bool b])/\BZ8 J B S c h G (ED key.data.toList F) w tb xb at_ gw m cv N cap arr w3):=by
 have hb0:Below w.heap.size w W0:=by rw[hW0];exact (Below.refl _ _).alloc (Nat.le_refl _) _
 have hz0:W0.heap.size=w.heap.size+1:=by rw[hW0];simp
 have hn0:W0.heap[w.heap.size]? = some itZ:=by rw[hW0];exact heap_alloc_new w _
 obtain⟨kc,W,h1,h2,h3,h4⟩:=B7 (W0.drewN k) key;have hbk:Below w.heap.size w (W0.drewN k):=hb0.trans ((AF W0 k).mono hb0.size);have hbW:Below w.heap.size w W:=hbk.trans (h4.mono hbk.size);have hrW:W.heap[w.heap.size]? = some itZ:=(h4.block _ (by have:=(AF W0 k).size;omega)).trans hn0
 refine⟨kc,W,h1,yH ?_⟩;refine (PP (kc:=kc) (key:=key.data.toList) x ht htS on hbW rfl h3 (λad ha=>by cases ha;exact hbk.size)).mono ?_
 rintro e w3 ⟨b,x0,at_,gw,n,cv,S3,X3,sts,rfl,R,hres⟩;have hr3:w3.heap[w.heap.size]? = some itZ/\¬S3 w.heap.size:=by
  obtain⟨e1,e2⟩:=hres w.heap.size (Nat.le_refl _) (Array.getElem?_eq_some_iff.1 hrW).1;exact⟨e1.trans hrW,e2⟩
 obtain⟨m,rfl⟩:∃m,n=m+1:=⟨n-1,by have:=R.len.2.1;omega⟩
 obtain⟨c1,c2,hn,hnS,hle,h512⟩:=R.endAt;rw[Nat.add_sub_cancel]at c1 c2;obtain⟨pre0,q0,z00,hs0⟩:=R.seen;refine⟨b,x0.blk,at_,gw,m,cv,x0.ens.length,x0.cap,x0.arr,rfl,⟨⟨c1,c2⟩,⟨by have:=R.len.2.2;omega,hle,h512⟩,λW hb=>(hn.below hb).c2,λp hp hlt=>?_,λhge W hb=>?_⟩⟩
 ·subst hp;refine R.item (i:=p) (List.getElem?_eq_getElem hlt) ?_ (Nat.le_refl _) hr3;rw[hs0.next,if_pos hlt];exact List.getElem?_eq_getElem hlt
 ·exact R.beside true (λpre q z0 hs=>by rw[hs.next,if_neg hge]) (Nat.le_refl _) hr3 hb
theorem XK (x:AU J B S c h G w)(ht:AH w tb c.a r)(htS:¬S tb)(hr16:r<16)(on:AY h G (h.root r) F ps)(key:ByteArray) :
  Calls Tryz.prog 36 #[.pointer (some ⟨tb,0,none⟩),.string key] w (BX J B S c h G (ED key.data.toList F) w):=by
 obtain⟨W0,hW0⟩:∃W0,W0=w.alloc (.cells #[.string ⟨#[]⟩,.string ⟨#[]⟩] 89):=⟨_,rfl⟩;have hb0:Below w.heap.size w W0:=by rw[hW0];exact (Below.refl _ _).alloc (Nat.le_refl _) _
 have HTOP:=yH (F9 (x.below hb0) (ht.below hb0) hr16);have HGO:=yH (BI4 x ht htS on hW0 key);obtain⟨rt,hrt⟩:∃rt,rt=h.root r:=⟨_,rfl⟩;rw[<-hrt]at HTOP HGO;clear x ht htS on hrt hb0;go_enter Tryz.func36,Tryz.ntmps36;go_wp2_with fail;rw[<-hW0];refine HTOP.out.mono ?_;rintro e w1 ⟨rfl,k,rfl⟩;obtain⟨kc,W,hcv,HWY⟩:=HGO.out k;clear HTOP HGO hW0;go_wp2_with fail;refine HWY.out.mono ?_;rintro e w3 ⟨b,xb,at_,gw,m,cv,N,cap,arr,rfl,hR⟩;have HR:=yH hR;obtain⟨e1,e2⟩:=hR.cells;obtain⟨f5,f6,f7⟩:=hR.small;clear hcv HWY hR;have f1:IntKind.i64.wrap (m:Int)=m:=IntWalk.i64_in _ (by omega)
 have f2:m<m+1:=by omega
 have f3:(m:Int)<(m:Int)+1:=by omega
 have f4:(0:Int)<=(m:Int):=by omega
 obtain⟨W5,hW5⟩:∃W5,W5=w3.alloc (.cells #[.pointer (some ⟨xb,0,none⟩),.int .i64 at_] 133):=⟨_,rfl⟩;obtain⟨sb,hsb⟩:∃sb,sb=w3.heap.size:=⟨_,rfl⟩;have HSP:Hid (∀W,Below W5.heap.size W5 W->Below w3.heap.size w3 W/\W.cell? ⟨sb,0,none⟩=some (.pointer (some ⟨xb,0,none⟩))/\W.cell? ⟨sb,1,none⟩=some (.int .i64 at_)/\W.cell? ⟨xb,2,none⟩=some (.slice arr N cap)):=yH λW hb=>by
  have hz5:W5.heap.size=w3.heap.size+1:=by rw[hW5];simp
  have hb5:Below w3.heap.size w3 W5:=by rw[hW5];exact (Below.refl _ _).alloc (Nat.le_refl _) _
  have hbw:Below w3.heap.size w3 W:=hb5.trans (hb.mono (by omega))
  have hn:W5.heap[sb]? = some (.cells #[.pointer (some ⟨xb,0,none⟩),.int .i64 at_] 133 (0,0)):=by rw[hW5,hsb];exact heap_alloc_new w3 _
  have hn2:=(hb.block sb (by omega)).trans hn
  exact⟨hbw,by rw[yC hn2];rfl,by rw[yC hn2];rfl,HR.out.node W hbw⟩
 go_wp2;rw[<-hW5,<-hsb];clear hW5 hsb e1 e2;obtain⟨_,s0,s1,s2⟩:=HSP.out W5 (Below.refl _ _);go_quiet (fail);by_cases hlt:at_<N
 ·have hd:decide (at_<N)=true:=decide_eq_true hlt;have g4:(at_:Int)<(N:Int):=by omega
  obtain⟨bb,of,l1,l2,c1,c2,A1,A2,r1,r2,harr,hit⟩:=HR.out.item at_ rfl hlt;obtain⟨W6,hW6⟩:∃W6,W6=W5.drewN nq:=⟨_,rfl⟩;have h65:Below W5.heap.size W5 W6:=by rw[hW6];exact AF W5 nq
  subst harr;have HIT:=yH hit;have HSF:Hid (∀W,Below W6.heap.size W6 W->W.cell? ⟨sb,0,none⟩=some (.pointer (some ⟨xb,0,none⟩))/\W.cell? ⟨sb,1,none⟩=some (.int .i64 at_)/\W.cell? ⟨xb,2,none⟩=some (.slice (some ⟨bb,of,none⟩) N cap)/\W.cell? ⟨bb,of+at_*2,none⟩=some (.slice A1 l1 c1)/\W.cell? ⟨bb,of+at_*2+1,none⟩=some (.slice A2 l2 c2)):=yH λW hb=>by
   obtain⟨q1,q2,q3,q4⟩:=HSP.out W (AE h65 hb);obtain⟨q5,q6,_⟩:=HIT.out W q1;exact⟨q2,q3,q4,q5,q6⟩
  have HS0:Hid (W6.drew.cell? ⟨sb,0,none⟩=some (.pointer (some ⟨xb,0,none⟩))/\W6.drew.cell? ⟨sb,1,none⟩=some (.int .i64 at_)/\W6.drew.cell? ⟨xb,2,none⟩=some (.slice (some ⟨bb,of,none⟩) N cap)/\W6.drew.cell? ⟨bb,of+at_*2,none⟩=some (.slice A1 l1 c1)/\W6.drew.cell? ⟨bb,of+at_*2+1,none⟩=some (.slice A2 l2 c2)):=yH (HSF.out _ (Below.refl _ _).drew);have HIC:=yH (HIT.out _ (HSP.out _ (AE h65 (Below.refl W6.heap.size W6).drew)).1).2.2;have HQ:Hid (∀W:World,(W.cell? ⟨sb,0,none⟩=some (.pointer (some ⟨xb,0,none⟩))/\W.cell? ⟨sb,1,none⟩=some (.int .i64 at_)/\W.cell? ⟨xb,2,none⟩=some (.slice (some ⟨bb,of,none⟩) N cap)/\W.cell? ⟨bb,of+at_*2,none⟩=some (.slice A1 l1 c1)/\W.cell? ⟨bb,of+at_*2+1,none⟩=some (.slice A2 l2 c2))->W.cell? ⟨sb,0,none⟩=some (.pointer (some ⟨xb,0,none⟩))/\W.cell? ⟨sb,1,none⟩=some (.int .i64 at_)/\W.cell? ⟨xb,2,none⟩=some (.slice (some ⟨bb,of,none⟩) N cap)/\W.cell? ⟨bb,of+at_*2,none⟩=some (.slice A1 l1 c1)/\W.cell? ⟨bb,of+at_*2+1,none⟩=some (.slice A2 l2 c2)):=yH λ_ h=>h
  clear hit HIT HSP HR s0 s1 s2 h65;go_wp2;rw[<-hW6];clear hW6;refine BS (S:=λW=>W.cell? ⟨sb,0,none⟩=some (.pointer (some ⟨xb,0,none⟩))/\W.cell? ⟨sb,1,none⟩=some (.int .i64 at_)/\W.cell? ⟨xb,2,none⟩=some (.slice (some ⟨bb,of,none⟩) N cap)/\W.cell? ⟨bb,of+at_*2,none⟩=some (.slice A1 l1 c1)/\W.cell? ⟨bb,of+at_*2+1,none⟩=some (.slice A2 l2 c2)) [10,11] (by kernel_rfl) ?_
  refine AJ.take (i:=0) (v:=.pointer (some ⟨sb,0,none⟩)) rfl (by kernel_rfl) (by kernel_rfl) (by kernel_rfl) (by kernel_rfl) (λ_ _ _ h=>h) (Or.inl ⟨by rfl,λW hW=>by go_simp⟩) HS0.out ?_
  refine AJ.take (i:=1) (v:=.pointer (some ⟨xb,0,none⟩)) rfl (by kernel_rfl) (by kernel_rfl) (by kernel_rfl) (by kernel_rfl) (λ_ _ _ h=>h) (Or.inl ⟨by rfl,λW hW=>by have x1:=(HQ.out W hW).1;clear hW;go_simp⟩) HS0.out ?_
  refine AJ.take (i:=2) (v:=.pointer (some ⟨xb,0,none⟩)) rfl (by kernel_rfl) (by kernel_rfl) (by kernel_rfl) (by kernel_rfl) (λ_ _ _ h=>h) (Or.inl ⟨by rfl,λW hW=>by go_simp⟩) HS0.out ?_
  refine AJ.take (i:=3) (v:=.pointer (some ⟨xb,2,none⟩)) rfl (by kernel_rfl) (by kernel_rfl) (by kernel_rfl) (by kernel_rfl) (λ_ _ _ h=>h) (Or.inl ⟨by rfl,λW hW=>by go_simp⟩) HS0.out ?_
  refine AJ.take (i:=4) (v:=.slice (some ⟨bb,of,none⟩) N cap) rfl (by kernel_rfl) (by kernel_rfl) (by kernel_rfl) (by kernel_rfl) (λ_ _ _ h=>h) (Or.inl ⟨by rfl,λW hW=>by have x1:=(HQ.out W hW).2.2.1;clear hW;go_simp⟩) HS0.out ?_
  refine AJ.take (i:=5) (v:=.pointer (some ⟨sb,1,none⟩)) rfl (by kernel_rfl) (by kernel_rfl) (by kernel_rfl) (by kernel_rfl) (λ_ _ _ h=>h) (Or.inl ⟨by rfl,λW hW=>by go_simp⟩) HS0.out ?_
  refine AJ.take (i:=6) (v:=.int .i64 at_) rfl (by kernel_rfl) (by kernel_rfl) (by kernel_rfl) (by kernel_rfl) (λ_ _ _ h=>h) (Or.inl ⟨by rfl,λW hW=>by have x1:=(HQ.out W hW).2.1;clear hW;go_simp⟩) HS0.out ?_
  refine AJ.take (i:=7) (v:=.pointer (some ⟨bb,of+at_*2,none⟩)) rfl (by kernel_rfl) (by kernel_rfl) (by kernel_rfl) (by kernel_rfl) (λ_ _ _ h=>h) (Or.inl ⟨by rfl,λW hW=>by go_simp⟩) HS0.out ?_
  refine AJ.take (i:=8) (v:=.agg #[.slice A1 l1 c1,.slice A2 l2 c2]) rfl (by kernel_rfl) (by kernel_rfl) (by kernel_rfl) (by kernel_rfl) (λ_ _ _ h=>h) (Or.inl ⟨by rfl,λW hW=>by have x1:=(HQ.out W hW).2.2.2.1;have x2:=(HQ.out W hW).2.2.2.2;clear hW;go_simp⟩) HS0.out ?_
  refine AJ.ready (rs:=[9]) (by kernel_rfl) (by simp) ?_
  refine AI.cons rfl (λK' hK=>?_) AI.nil
  go_simp
  go_at_call 82;refine HIC.out.mono ?_;rintro e w4 ⟨rfl,hb4,d1,d2,d3,d4,d5,d6,d7,HE⟩;have HS4:=yH (HSF.out w4 (AE (Below.refl W6.heap.size W6).drew hb4));clear hb4 HIC HSF;refine hK.out _ _ (λ_=>HS4.out) ?_
  clear hK K';refine AJ.ready (rs:=[10]) (by kernel_rfl) (by simp) ?_
  refine AI.cons rfl (λK' hK=>?_) AI.nil
  go_simp
  refine hK.out _ _ (λh=>absurd h (by decide)) ?_
  clear hK K';refine AJ.ready (rs:=[11]) (by kernel_rfl) (by simp) ?_
  refine AI.cons rfl (λK' hK=>?_) AI.nil
  go_simp
  refine hK.out _ _ (λh=>absurd h (by decide)) ?_
  clear hK K';refine AJ.done (by kernel_rfl) ?_ _
  go_wp2;exact bodyPost_ret (v:=.tuple #[.agg #[.string r1,.string r2],.bool true]) (by simp[results,Tryz.results36,go_sem,d6,d7]) rfl HE.out
 ·have hd:decide (at_<N)=false:=decide_eq_false hlt;have HBE:=yH (HR.out.beside hlt _ (HSP.out _ (AF W5 nq)).1);clear HSP HR s0 s1 s2;go_wp2_with fail;refine HBE.out.mono ?_;rintro e w4 ⟨r1,r2,bb,rfl,d1,d2,d3,d4,d5,d6,d7,HE⟩;clear HBE;go_wp2;exact bodyPost_ret (v:=.tuple #[.agg #[.string r1,.string r2],.bool bb]) (by simp[results,Tryz.results36,go_sem,d6,d7]) rfl HE.out
structure BZ7 (J:List AD->Prop)(B:Nat)(S:Nat->Prop)(c:Ac)(h:Hd)(G:Nat->List UInt8)(o:Option En)(w:World)(tb xb at_ gw m cv N cap:Nat)(arr:Option Addr)(w3:World):Prop where
 cells:w3.cell? ⟨gw,m*2,none⟩=some (.pointer (some ⟨xb,0,none⟩))/\w3.cell? ⟨gw,m*2+1,none⟩=some (.int .i64 at_)
 small:m<=900/\at_<=N/\N<=512
 node:∀W,Below w3.heap.size w3 W->W.cell? ⟨xb,2,none⟩=some (.slice arr N cap)
 item:∀p,at_=p+1->∃(bb of l1 l2 c1 c2:Nat) (A1 A2:Option Addr) (s1 s2:ByteArray),arr=some ⟨bb,of,none⟩/\∀W,Below w3.heap.size w3 W->W.cell? ⟨bb,of+p*2,none⟩=some (.slice A1 l1 c1)/\W.cell? ⟨bb,of+p*2+1,none⟩=some (.slice A2 l2 c2) /\
   Calls Tryz.prog 82 #[.agg #[.slice A1 l1 c1,.slice A2 l2 c2]] W λe w4=>e=.returned (.agg #[.string s1,.string s2])/\Below W.heap.size W w4/\DR w.heap.size s1 s2 w4 λW'=>BX J B S c h G o w (.returned (.tuple #[.agg #[.string s1,.string s2],.bool true])) W'
 beside:at_=0->∀W,Below w3.heap.size w3 W->Calls Tryz.prog 83 #[.pointer (some ⟨tb,0,none⟩),.slice (some ⟨gw,0,none⟩) (m+1) cv,.int .i64 (-1)] W λe w4=>∃(s1 s2:ByteArray) (bb:Bool),e=.returned (.tuple #[.agg #[.string s1,.string s2],.bool bb])/\DR w.heap.size s1 s2 w4 λW'=>BX J B S c h G o w (.returned (.tuple #[.agg #[.string s1,.string s2],.bool bb])) W'
theorem BD7 (x:AU J B S c h G w)(ht:AH w tb c.a r)(htS:¬S tb)(on:AY h G (h.root r) F ps){W0:World}(hW0:W0=w.alloc (.cells #[.string ⟨#[]⟩,.string ⟨#[]⟩] 89))(key:ByteArray)(k:Nat) :
  ∃kc W,(convert 9 102 (.string key)).run Tryz.prog (W0.drewN k)=.ok (.slice (some ⟨W0.heap.size,0,none⟩) key.size kc) W/\Hid (Calls Tryz.prog 76 #[.pointer (some ⟨tb,0,none⟩),.int .i64 (h.root r),.slice (some ⟨W0.heap.size,0,none⟩) key.size kc] W λe w3=>∃(b:Bool) (xb at_ gw m cv N cap:Nat) (arr:Option Addr),e=.returned (.tuple #[.slice (some ⟨gw,0,none⟩) (m+1) cv,.bool b])/\BZ7 J B S c h G (EC key.data.toList F) w tb xb at_ gw m cv N cap arr w3):=by
 have hb0:Below w.heap.size w W0:=by rw[hW0];exact (Below.refl _ _).alloc (Nat.le_refl _) _
 have hz0:W0.heap.size=w.heap.size+1:=by rw[hW0];simp
 have hn0:W0.heap[w.heap.size]? = some itZ:=by rw[hW0];exact heap_alloc_new w _
 obtain⟨kc,W,h1,h2,h3,h4⟩:=B7 (W0.drewN k) key;have hbk:Below w.heap.size w (W0.drewN k):=hb0.trans ((AF W0 k).mono hb0.size);have hbW:Below w.heap.size w W:=hbk.trans (h4.mono hbk.size);have hrW:W.heap[w.heap.size]? = some itZ:=(h4.block _ (by have:=(AF W0 k).size;omega)).trans hn0
 refine⟨kc,W,h1,yH ?_⟩;refine (PP (kc:=kc) (key:=key.data.toList) x ht htS on hbW rfl h3 (λad ha=>by cases ha;exact hbk.size)).mono ?_
 rintro e w3 ⟨b,x0,at_,gw,n,cv,S3,X3,sts,rfl,R,hres⟩;have hr3:w3.heap[w.heap.size]? = some itZ/\¬S3 w.heap.size:=by
  obtain⟨e1,e2⟩:=hres w.heap.size (Nat.le_refl _) (Array.getElem?_eq_some_iff.1 hrW).1;exact⟨e1.trans hrW,e2⟩
 obtain⟨m,rfl⟩:∃m,n=m+1:=⟨n-1,by have:=R.len.2.1;omega⟩
 obtain⟨c1,c2,hn,hnS,hle,h512⟩:=R.endAt;rw[Nat.add_sub_cancel]at c1 c2;obtain⟨pre0,q0,z00,hs0⟩:=R.seen;refine⟨b,x0.blk,at_,gw,m,cv,x0.ens.length,x0.cap,x0.arr,rfl,⟨⟨c1,c2⟩,⟨by have:=R.len.2.2;omega,hle,h512⟩,λW hb=>(hn.below hb).c2,λp hp=>?_,λhge W hb=>?_⟩⟩
 ·have hp2:p<x0.ens.length:=by omega
  refine R.item (i:=p) (List.getElem?_eq_getElem hp2) ?_ (Nat.le_refl _) hr3;rw[hs0.prev,if_neg (by omega),hp,Nat.add_sub_cancel]
  exact List.getElem?_eq_getElem hp2
 ·exact R.beside false (λpre q z0 hs=>by rw[hs.prev,if_pos hge]) (Nat.le_refl _) hr3 hb
theorem AO2 (x:AU J B S c h G w)(ht:AH w tb c.a r)(htS:¬S tb)(hr16:r<16)(on:AY h G (h.root r) F ps)(key:ByteArray) :
  Calls Tryz.prog 38 #[.pointer (some ⟨tb,0,none⟩),.string key] w (BX J B S c h G (EC key.data.toList F) w):=by
 obtain⟨W0,hW0⟩:∃W0,W0=w.alloc (.cells #[.string ⟨#[]⟩,.string ⟨#[]⟩] 89):=⟨_,rfl⟩;have hb0:Below w.heap.size w W0:=by rw[hW0];exact (Below.refl _ _).alloc (Nat.le_refl _) _
 have HTOP:=yH (F9 (x.below hb0) (ht.below hb0) hr16);have HGO:=yH (BD7 x ht htS on hW0 key);obtain⟨rt,hrt⟩:∃rt,rt=h.root r:=⟨_,rfl⟩;rw[<-hrt]at HTOP HGO;clear x ht htS on hrt hb0;go_enter Tryz.func38,Tryz.ntmps38;go_wp2_with fail;rw[<-hW0];refine HTOP.out.mono ?_;rintro e w1 ⟨rfl,k,rfl⟩;obtain⟨kc,W,hcv,HWY⟩:=HGO.out k;clear HTOP HGO hW0;go_wp2_with fail;refine HWY.out.mono ?_;rintro e w3 ⟨b,xb,at_,gw,m,cv,N,cap,arr,rfl,hR⟩;have HR:=yH hR;obtain⟨e1,e2⟩:=hR.cells;obtain⟨f5,f6,f7⟩:=hR.small;clear hcv HWY hR;have f1:IntKind.i64.wrap (m:Int)=m:=IntWalk.i64_in _ (by omega)
 have f2:m<m+1:=by omega
 have f3:(m:Int)<(m:Int)+1:=by omega
 have f4:(0:Int)<=(m:Int):=by omega
 obtain⟨W5,hW5⟩:∃W5,W5=w3.alloc (.cells #[.pointer (some ⟨xb,0,none⟩),.int .i64 at_] 133):=⟨_,rfl⟩;obtain⟨sb,hsb⟩:∃sb,sb=w3.heap.size:=⟨_,rfl⟩;have HSP:Hid (∀W,Below W5.heap.size W5 W->Below w3.heap.size w3 W/\W.cell? ⟨sb,0,none⟩=some (.pointer (some ⟨xb,0,none⟩))/\W.cell? ⟨sb,1,none⟩=some (.int .i64 at_)/\W.cell? ⟨xb,2,none⟩=some (.slice arr N cap)):=yH λW hb=>by
  have hz5:W5.heap.size=w3.heap.size+1:=by rw[hW5];simp
  have hb5:Below w3.heap.size w3 W5:=by rw[hW5];exact (Below.refl _ _).alloc (Nat.le_refl _) _
  have hbw:Below w3.heap.size w3 W:=hb5.trans (hb.mono (by omega))
  have hn:W5.heap[sb]? = some (.cells #[.pointer (some ⟨xb,0,none⟩),.int .i64 at_] 133 (0,0)):=by rw[hW5,hsb];exact heap_alloc_new w3 _
  have hn2:=(hb.block sb (by omega)).trans hn
  exact⟨hbw,by rw[yC hn2];rfl,by rw[yC hn2];rfl,HR.out.node W hbw⟩
 by_cases hlt:0<at_
 ·obtain⟨p,rfl⟩:∃p,at_=p+1:=⟨at_-1,by omega⟩
  obtain⟨bb,of,l1,l2,c1,c2,A1,A2,r1,r2,harr,hit⟩:=HR.out.item p rfl;have g1:(0:Int)<((p+1:Nat):Int):=by omega
  rw[show ((p+1:Nat):Int)=(p:Int)+1 from rfl]at hW5 HSP
  have g2:(0:Int)<(p:Int)+1:=by omega
  have g3:IntKind.i64.wrap (p:Int)=p:=IntWalk.i64_in _ (by omega)
  have g4:(p:Int)<(N:Int):=by omega
  have g5:p<N:=by omega
  go_wp2;rw[<-hW5,<-hsb];clear hW5 hsb e1 e2;obtain⟨_,s0,s1,s2⟩:=HSP.out W5 (Below.refl _ _);obtain⟨W6,hW6⟩:∃W6,W6=W5:=⟨_,rfl⟩;have h65:Below W5.heap.size W5 W6:=by rw[hW6];exact Below.refl _ _
  subst harr;have HIT:=yH hit;have HSF:Hid (∀W,Below W6.heap.size W6 W->W.cell? ⟨sb,0,none⟩=some (.pointer (some ⟨xb,0,none⟩))/\W.cell? ⟨sb,1,none⟩=some (.int .i64 ((p:Int)+1))/\W.cell? ⟨xb,2,none⟩=some (.slice (some ⟨bb,of,none⟩) N cap)/\W.cell? ⟨bb,of+p*2,none⟩=some (.slice A1 l1 c1)/\W.cell? ⟨bb,of+p*2+1,none⟩=some (.slice A2 l2 c2)):=yH λW hb=>by
   obtain⟨q1,q2,q3,q4⟩:=HSP.out W (AE h65 hb);obtain⟨q5,q6,_⟩:=HIT.out W q1;exact⟨q2,q3,q4,q5,q6⟩
  have HS0:Hid (W6.drew.cell? ⟨sb,0,none⟩=some (.pointer (some ⟨xb,0,none⟩))/\W6.drew.cell? ⟨sb,1,none⟩=some (.int .i64 ((p:Int)+1))/\W6.drew.cell? ⟨xb,2,none⟩=some (.slice (some ⟨bb,of,none⟩) N cap)/\W6.drew.cell? ⟨bb,of+p*2,none⟩=some (.slice A1 l1 c1)/\W6.drew.cell? ⟨bb,of+p*2+1,none⟩=some (.slice A2 l2 c2)):=yH (HSF.out _ (Below.refl _ _).drew);have HIC:=yH (HIT.out _ (HSP.out _ (AE h65 (Below.refl W6.heap.size W6).drew)).1).2.2;have HQ:Hid (∀W:World,(W.cell? ⟨sb,0,none⟩=some (.pointer (some ⟨xb,0,none⟩))/\W.cell? ⟨sb,1,none⟩=some (.int .i64 ((p:Int)+1))/\W.cell? ⟨xb,2,none⟩=some (.slice (some ⟨bb,of,none⟩) N cap)/\W.cell? ⟨bb,of+p*2,none⟩=some (.slice A1 l1 c1)/\W.cell? ⟨bb,of+p*2+1,none⟩=some (.slice A2 l2 c2))->W.cell? ⟨sb,0,none⟩=some (.pointer (some ⟨xb,0,none⟩))/\W.cell? ⟨sb,1,none⟩=some (.int .i64 ((p:Int)+1))/\W.cell? ⟨xb,2,none⟩=some (.slice (some ⟨bb,of,none⟩) N cap)/\W.cell? ⟨bb,of+p*2,none⟩=some (.slice A1 l1 c1)/\W.cell? ⟨bb,of+p*2+1,none⟩=some (.slice A2 l2 c2)):=yH λ_ h=>h
  clear hit HIT HSP HR s0 s1 s2 h65;rw[<-hW6];clear hW6;refine BS (S:=λW=>W.cell? ⟨sb,0,none⟩=some (.pointer (some ⟨xb,0,none⟩))/\W.cell? ⟨sb,1,none⟩=some (.int .i64 ((p:Int)+1))/\W.cell? ⟨xb,2,none⟩=some (.slice (some ⟨bb,of,none⟩) N cap)/\W.cell? ⟨bb,of+p*2,none⟩=some (.slice A1 l1 c1)/\W.cell? ⟨bb,of+p*2+1,none⟩=some (.slice A2 l2 c2)) [11,12] (by kernel_rfl) ?_
  refine AJ.take (i:=0) (v:=.pointer (some ⟨sb,0,none⟩)) rfl (by kernel_rfl) (by kernel_rfl) (by kernel_rfl) (by kernel_rfl) (λ_ _ _ h=>h) (Or.inl ⟨by rfl,λW hW=>by go_simp⟩) HS0.out ?_
  refine AJ.take (i:=1) (v:=.pointer (some ⟨xb,0,none⟩)) rfl (by kernel_rfl) (by kernel_rfl) (by kernel_rfl) (by kernel_rfl) (λ_ _ _ h=>h) (Or.inl ⟨by rfl,λW hW=>by have x1:=(HQ.out W hW).1;clear hW;go_simp⟩) HS0.out ?_
  refine AJ.take (i:=2) (v:=.pointer (some ⟨xb,0,none⟩)) rfl (by kernel_rfl) (by kernel_rfl) (by kernel_rfl) (by kernel_rfl) (λ_ _ _ h=>h) (Or.inl ⟨by rfl,λW hW=>by go_simp⟩) HS0.out ?_
  refine AJ.take (i:=3) (v:=.pointer (some ⟨xb,2,none⟩)) rfl (by kernel_rfl) (by kernel_rfl) (by kernel_rfl) (by kernel_rfl) (λ_ _ _ h=>h) (Or.inl ⟨by rfl,λW hW=>by go_simp⟩) HS0.out ?_
  refine AJ.take (i:=4) (v:=.slice (some ⟨bb,of,none⟩) N cap) rfl (by kernel_rfl) (by kernel_rfl) (by kernel_rfl) (by kernel_rfl) (λ_ _ _ h=>h) (Or.inl ⟨by rfl,λW hW=>by have x1:=(HQ.out W hW).2.2.1;clear hW;go_simp⟩) HS0.out ?_
  refine AJ.take (i:=5) (v:=.pointer (some ⟨sb,1,none⟩)) rfl (by kernel_rfl) (by kernel_rfl) (by kernel_rfl) (by kernel_rfl) (λ_ _ _ h=>h) (Or.inl ⟨by rfl,λW hW=>by go_simp⟩) HS0.out ?_
  refine AJ.take (i:=6) (v:=.int .i64 ((p:Int)+1)) rfl (by kernel_rfl) (by kernel_rfl) (by kernel_rfl) (by kernel_rfl) (λ_ _ _ h=>h) (Or.inl ⟨by rfl,λW hW=>by have x1:=(HQ.out W hW).2.1;clear hW;go_simp⟩) HS0.out ?_
  refine AJ.take (i:=7) (v:=.int .i64 p) rfl (by kernel_rfl) (by kernel_rfl) (by kernel_rfl) (by kernel_rfl) (λ_ _ _ h=>h) (Or.inl ⟨by rfl,λW hW=>by go_simp⟩) HS0.out ?_
  refine AJ.take (i:=8) (v:=.pointer (some ⟨bb,of+p*2,none⟩)) rfl (by kernel_rfl) (by kernel_rfl) (by kernel_rfl) (by kernel_rfl) (λ_ _ _ h=>h) (Or.inl ⟨by rfl,λW hW=>by go_simp⟩) HS0.out ?_
  refine AJ.take (i:=9) (v:=.agg #[.slice A1 l1 c1,.slice A2 l2 c2]) rfl (by kernel_rfl) (by kernel_rfl) (by kernel_rfl) (by kernel_rfl) (λ_ _ _ h=>h) (Or.inl ⟨by rfl,λW hW=>by have x1:=(HQ.out W hW).2.2.2.1;have x2:=(HQ.out W hW).2.2.2.2;clear hW;go_simp⟩) HS0.out ?_
  refine AJ.ready (rs:=[10]) (by kernel_rfl) (by simp) ?_
  refine AI.cons rfl (λK' hK=>?_) AI.nil
  go_simp
  go_at_call 82;refine HIC.out.mono ?_;rintro e w4 ⟨rfl,hb4,d1,d2,d3,d4,d5,d6,d7,HE⟩;have HS4:=yH (HSF.out w4 (AE (Below.refl W6.heap.size W6).drew hb4));clear hb4 HIC HSF;refine hK.out _ _ (λ_=>HS4.out) ?_
  clear hK K';refine AJ.ready (rs:=[11]) (by kernel_rfl) (by simp) ?_
  refine AI.cons rfl (λK' hK=>?_) AI.nil
  go_simp
  refine hK.out _ _ (λh=>absurd h (by decide)) ?_
  clear hK K';refine AJ.ready (rs:=[12]) (by kernel_rfl) (by simp) ?_
  refine AI.cons rfl (λK' hK=>?_) AI.nil
  go_simp
  refine hK.out _ _ (λh=>absurd h (by decide)) ?_
  clear hK K';refine AJ.done (by kernel_rfl) ?_ _
  go_wp2;exact bodyPost_ret (v:=.tuple #[.agg #[.string r1,.string r2],.bool true]) (by simp[results,Tryz.results38,go_sem,d6,d7]) rfl HE.out
 ·obtain rfl:at_=0:=by omega
  have HBE:=yH (HR.out.beside rfl _ (HSP.out _ (Below.refl W5.heap.size W5)).1);rw[show ((0:Nat):Int)=0 from rfl]at hW5
  clear HSP HR;go_wp2_with fail;rw[<-hW5];refine HBE.out.mono ?_;rintro e w4 ⟨r1,r2,bb,rfl,d1,d2,d3,d4,d5,d6,d7,HE⟩;clear HBE;go_wp2;exact bodyPost_ret (v:=.tuple #[.agg #[.string r1,.string r2],.bool bb]) (by simp[results,Tryz.results38,go_sem,d6,d7]) rfl HE.out
end
section
variable (v:Value) (w:World) (hN:∀W,Below w.heap.size w W->BN4 v W)
include hN
end
section
variable {J:List AD->Prop} {B:Nat} {S:Nat->Prop} {c:Ac} {h:Hd} {G:Nat->List UInt8} {w:World} {tb r:Nat} {F:List En} {ps:List Nat}
theorem PU {o:Option En}{W0:World}(hW0:W0=w.alloc (.cells #[.string ⟨#[]⟩,.string ⟨#[]⟩] 89))(x:AU J B S c h G w){e:Ending}{w4:World}(hp:BX J B S c h G o W0 e w4) :
  ∃(s1 s2:ByteArray) (bb:Bool),e=.returned (.tuple #[.agg #[.string s1,.string s2],.bool bb])/\DR w.heap.size s1 s2 w4 λW'=>BX J B S c h G o w (.returned (.tuple #[.agg #[.string s1,.string s2],.bool bb])) W':=by
 have hb0:Below w.heap.size w W0:=by rw[hW0];exact (Below.refl _ _).alloc (Nat.le_refl _) _
 have hz0:W0.heap.size=w.heap.size+1:=by rw[hW0];simp
 have hn0:W0.heap[w.heap.size]? = some itZ:=by rw[hW0];exact heap_alloc_new w _
 have hnS:¬S w.heap.size:=λhs=>by have:=(x.low _ hs).2;omega
 obtain⟨he,S4,hT4,hA4⟩:=hp;obtain⟨s1,s2,bb,e6,e7⟩:=GE o;have hr4:=(hT4.1.block w.heap.size (by omega) hnS).trans hn0
 refine⟨s1,s2,bb,by rw[he,e6,e7],FX hr4 _ _ λW' hk=>⟨by rw[e6,e7],IB x.tab.1.1 hA4 ((AO.ofBelow hb0).trans hT4) ⟨hr4,hT4.not (by omega) hnS,Nat.le_refl _⟩ hk⟩⟩
theorem AO6 (x:AU J B S c h G w)(ht:AH w tb c.a r)(htS:¬S tb)(hr16:r<16)(on:AY h G (h.root r) F ps)(key:ByteArray)(hk:key.size<9223372036854775807) :
  Calls Tryz.prog 37 #[.pointer (some ⟨tb,0,none⟩),.string key] w (BX J B S c h G (ED (key.data.toList++[0]) F) w):=by
 obtain⟨W0,hW0⟩:∃W0,W0=w.alloc (.cells #[.string ⟨#[]⟩,.string ⟨#[]⟩] 89):=⟨_,rfl⟩;have hb0:Below w.heap.size w W0:=by rw[hW0];exact (Below.refl _ _).alloc (Nat.le_refl _) _
 have HF:Hid (∀k2:ByteArray,k2.data.toList=key.data.toList++[0]->Calls Tryz.prog 36 #[.pointer (some ⟨tb,0,none⟩),.string k2] W0 λe w4=>∃(s1 s2:ByteArray) (bb:Bool),e=.returned (.tuple #[.agg #[.string s1,.string s2],.bool bb])/\DR w.heap.size s1 s2 w4 λW'=>BX J B S c h G (ED (key.data.toList++[0]) F) w (.returned (.tuple #[.agg #[.string s1,.string s2],.bool bb])) W'):=yH λk2 hk=>by
  have h1:=XK (x.below hb0) (ht.below hb0) htS hr16 on k2;rw[hk]at h1;exact h1.mono λe w4 hp=>PU hW0 x hp
 obtain⟨o,ho⟩:∃o,o=ED (key.data.toList++[0]) F:=⟨_,rfl⟩;rw[<-ho]at HF ⊢
 have z1:¬9223372036854775807<key.size+(⟨#[0]⟩:ByteArray).size:=by show ¬9223372036854775807<key.size+1;omega
 have z2:¬9223372036854775807<key.size+1:=by omega
 clear x ht htS on ho hb0 hk;go_enter Tryz.func37,Tryz.ntmps37;go_wp2_with fail;rw[<-hW0];refine (HF.out _ ?_).mono ?_
 ·simp
 rintro e w4 ⟨s1,s2,bb,rfl,d1,d2,d3,d4,d5,d6,d7,HE⟩;clear HF;go_wp2;exact bodyPost_ret (v:=.tuple #[.agg #[.string s1,.string s2],.bool bb]) (by simp[results,Tryz.results37,go_sem,d6,d7]) rfl HE.out
end
section
variable {J:List AD->Prop} {B:Nat} {S:Nat->Prop} {c:Ac} {h:Hd} {G:Nat->List UInt8} {w:World} {tb r:Nat} {F l:List En} {ps:List Nat} {v:Value}
def NC (J:List AD->Prop)(B:Nat)(S:Nat->Prop)(c:Ac)(h:Hd)(G:Nat->List UInt8)(tb r:Nat)(ps:List Nat)(F l:List En)(v:Value)(key:ByteArray)(rf:Nat)(w:World)(e:Ending)(w1:World):Prop :=
 ∃(s1 s2:ByteArray) (b1:Bool),e=.returned (.tuple #[.agg #[.string s1,.string s2],.bool b1])/\(w1.alloc (.cells #[.string s1,.string s2] 89)).cell? ⟨w.heap.size,1,none⟩=some (.string key) /\
  Hid (Calls Tryz.prog rf #[v,.string key] (w1.alloc (.cells #[.string s1,.string s2] 89)) λe w3=>∃(t1 t2:ByteArray) (b2:Bool),e=.returned (.tuple #[.agg #[.string t1,.string t2],.bool b2])/\w1.heap.size<w3.heap.size /\
   w3.cell? ⟨w1.heap.size,0,none⟩=some (.string s1)/\w3.cell? ⟨w1.heap.size,1,none⟩=some (.string s2)/\Hid (l=F->s1=t1/\s2=t2/\b1=b2)/\Hid (∀W,Below w3.heap.size w3 W->BU J B S c h G tb r ps F l v w W))
theorem NK {W0:World}{key val:ByteArray}{kd:Int}{rf:Nat}{o1 o2:Option En}(o:CC4 w.heap.size S kd key val w W0)(hn0:w.heap.size<W0.heap.size)(ht:AH W0 tb c.a r)(htS:¬S tb)(on:AY h G (h.root r) F ps)(li:LiI S W0 v l)
  (hrf:∀W,ItV W v l->Calls Tryz.prog rf #[v,.string key] W λe w'=>e=.returned (.tuple #[itV o2,.bool o2.isSome])/\Below W.heap.size W w') (heq:l=F->o1=o2) {e:Ending} {w1:World} (hp:BX J B S c h G o1 W0 e w1):NC J B S c h G tb r ps F l v key rf w e w1:=by
 obtain⟨rfl,hp⟩:=hp;have hst:=(BU.act hp ht htS on li).older o.bel;obtain⟨S',hT,hA⟩:=hp;have hz:=hT.1.size;obtain⟨s1,s2,b1,h1,h1b⟩:=GE o1;obtain⟨t1,t2,b2,h2,h2b⟩:=GE o2;have hb:Below w1.heap.size w1 (w1.alloc (.cells #[.string s1,.string s2] 89)):=(Below.refl _ _).alloc (Nat.le_refl _) _;have hnew:=heap_alloc_new w1 (.cells #[.string s1,.string s2] 89);have hza:(w1.alloc (.cells #[.string s1,.string s2] 89)).heap.size=w1.heap.size+1:=by simp
 refine⟨s1,s2,b1,by rw[h1,h1b],?_,yH ?_⟩
 ·rw[hb.cell (p:=⟨w.heap.size,1,none⟩) (by show w.heap.size<_;omega)]
  exact o.turn _ _ hT
 ·refine (hrf _ ((li.turn hT).below hb).is).mono ?_;rintro e w3 ⟨rfl,hb3⟩;have hz3:=hb3.size;have hn3:=(hb3.block w1.heap.size (by omega)).trans hnew
  refine⟨t1,t2,b2,by rw[h2,h2b],by omega,by rw[yC hn3];rfl,by rw[yC hn3];rfl,yH λe=>?_,yH λW hW=>?_⟩
  ·have e1:=heq e;subst e1;rw[h1]at h2;injection h2 with h2
   have h3:[Value.string s1,.string s2]=[.string t1,.string t2]:=congrArg Array.toList h2;injection h3 with h4 h5
   injection h5 with h5 _
   injection h4 with h4
   injection h5 with h5
   exact⟨h4,h5,h1b.symm.trans h2b⟩
  ·exact hst.below ((hb.trans (hb3.mono (by omega))).trans (hW.mono (by omega)))
theorem D5 (a b:ByteArray):(a=b/\(a.toList == b.toList)=true)\/(¬a=b/\(a.toList == b.toList)=false):=by
 by_cases h:a=b
 ·exact .inl ⟨h,by rw[h];exact beq_self_eq_true _⟩
 ·refine .inr ⟨h,?_⟩;cases hb:a.toList == b.toList with
  | false=>rfl
  | true =>
   have h1:=beq_iff_eq.1 hb;rw[ByteArray.toList_eq,ByteArray.toList_eq]at h1;have h2:=Array.toList_inj.1 h1;cases a;cases b;cases h2
   exact absurd rfl h
theorem AX1 (x:AU J B S c h G w)(ht:AH w tb c.a r)(htS:¬S tb)(hr16:r<16)(on:AY h G (h.root r) F ps)(li:LiI S w v l)(hl:l.length<=80000)(key val:ByteArray) :
  Calls Tryz.prog 29 #[.pointer (some ⟨tb,0,none⟩),v,.agg #[.int .i64 4,.string key,.string val]] w (E6 J B S c h G tb r ps F l (l=F) w):=by
 obtain⟨W0,hW0⟩:∃W0,W0=w.alloc (.cells #[.int .i64 4,.string key,.string val] 78):=⟨_,rfl⟩;have o:=QG x 4 key val hW0;have e0:=o.c0;have e1:=o.c1;have hn0:w.heap.size<W0.heap.size:=by rw[hW0];simp
 have HTL:Hid (Calls Tryz.prog 36 #[.pointer (some ⟨tb,0,none⟩),.string key] W0 (NC J B S c h G tb r ps F l v key 70 w)):=yH (
  (XK (x.below o.bel) (ht.below o.bel) htS hr16 on key).mono λe w1 hp=>NK o hn0 (ht.below o.bel) htS on (li.below o.bel) (λW hi=>AT2 hi (by omega) key) (λe=>by rw[e];rfl) hp)
 clear x ht htS on li o hl hn0;go_enter Tryz.func29,Tryz.ntmps29;go_wp2_with fail;rw[<-hW0];refine HTL.out.mono ?_;rintro e w1 ⟨s1,s2,b1,rfl,c1,HR⟩;clear HTL e0 e1 hW0;go_wp2_with fail;refine HR.out.mono ?_;rintro e w3 ⟨t1,t2,b2,rfl,hlt,d1,d2,HG,HS⟩;clear HR c1;have HS4:=yH (HS.out (w3.alloc (.cells #[.string t1,.string t2] 89)) ((Below.refl _ _).alloc (Nat.le_refl _) _));clear HS;have hne:¬w1.heap.size=w3.heap.size:=by omega
 rcases D5 s1 t1 with⟨q1,q2⟩|⟨q1,q2⟩
 ·rcases D5 s2 t2 with⟨q3,q4⟩|⟨q3,q4⟩
  ·have HQ:=yH q1;have HQ3:=yH q3
   clear q1 q3;go_wp2;go_ret2;refine⟨v,_,rfl,λe=>?_,HS4.out⟩
   rw[(HG.out e).2.2];simp
  ·have HQ3:=yH q3;clear q1 q3;go_wp2;go_ret2;exact⟨v,_,rfl,λe=>absurd (HG.out e).2.1 HQ3.out,HS4.out⟩
 ·have HQ1:=yH q1;clear q1;go_wp2;go_ret2;exact⟨v,_,rfl,λe=>absurd (HG.out e).1 HQ1.out,HS4.out⟩
theorem AW9 (x:AU J B S c h G w)(ht:AH w tb c.a r)(htS:¬S tb)(hr16:r<16)(on:AY h G (h.root r) F ps)(li:LiI S w v l)(hl:l.length<=80000)(key val:ByteArray) :
  Calls Tryz.prog 29 #[.pointer (some ⟨tb,0,none⟩),v,.agg #[.int .i64 6,.string key,.string val]] w (E6 J B S c h G tb r ps F l (l=F) w):=by
 obtain⟨W0,hW0⟩:∃W0,W0=w.alloc (.cells #[.int .i64 6,.string key,.string val] 78):=⟨_,rfl⟩;have o:=QG x 6 key val hW0;have e0:=o.c0;have e1:=o.c1;have hn0:w.heap.size<W0.heap.size:=by rw[hW0];simp
 have HTL:Hid (Calls Tryz.prog 38 #[.pointer (some ⟨tb,0,none⟩),.string key] W0 (NC J B S c h G tb r ps F l v key 72 w)):=yH (
  (AO2 (x.below o.bel) (ht.below o.bel) htS hr16 on key).mono λe w1 hp=>NK o hn0 (ht.below o.bel) htS on (li.below o.bel) (λW hi=>AS8 hi (by omega) key) (λe=>by rw[e]) hp)
 clear x ht htS on li o hl hn0;go_enter Tryz.func29,Tryz.ntmps29;go_wp2_with fail;rw[<-hW0];refine HTL.out.mono ?_;rintro e w1 ⟨s1,s2,b1,rfl,c1,HR⟩;clear HTL e0 e1 hW0;go_wp2_with fail;refine HR.out.mono ?_;rintro e w3 ⟨t1,t2,b2,rfl,hlt,d1,d2,HG,HS⟩;clear HR c1;have HS4:=yH (HS.out (w3.alloc (.cells #[.string t1,.string t2] 89)) ((Below.refl _ _).alloc (Nat.le_refl _) _));clear HS;have hne:¬w1.heap.size=w3.heap.size:=by omega
 rcases D5 s1 t1 with⟨q1,q2⟩|⟨q1,q2⟩
 ·rcases D5 s2 t2 with⟨q3,q4⟩|⟨q3,q4⟩
  ·have HQ:=yH q1;have HQ3:=yH q3
   clear q1 q3;go_wp2;go_ret2;refine⟨v,_,rfl,λe=>?_,HS4.out⟩
   rw[(HG.out e).2.2];simp
  ·have HQ3:=yH q3;clear q1 q3;go_wp2;go_ret2;exact⟨v,_,rfl,λe=>absurd (HG.out e).2.1 HQ3.out,HS4.out⟩
 ·have HQ1:=yH q1;clear q1;go_wp2;go_ret2;exact⟨v,_,rfl,λe=>absurd (HG.out e).1 HQ1.out,HS4.out⟩
theorem AX0 (x:AU J B S c h G w)(ht:AH w tb c.a r)(htS:¬S tb)(hr16:r<16)(on:AY h G (h.root r) F ps)(li:LiI S w v l)(hl:l.length<=80000)(key val:ByteArray)(hks:key.size<9223372036854775807) :
  Calls Tryz.prog 29 #[.pointer (some ⟨tb,0,none⟩),v,.agg #[.int .i64 5,.string key,.string val]] w (E6 J B S c h G tb r ps F l (l=F) w):=by
 obtain⟨W0,hW0⟩:∃W0,W0=w.alloc (.cells #[.int .i64 5,.string key,.string val] 78):=⟨_,rfl⟩;have o:=QG x 5 key val hW0;have e0:=o.c0;have e1:=o.c1;have hn0:w.heap.size<W0.heap.size:=by rw[hW0];simp
 have HTL:Hid (Calls Tryz.prog 37 #[.pointer (some ⟨tb,0,none⟩),.string key] W0 (NC J B S c h G tb r ps F l v key 71 w)):=yH (
  (AO6 (x.below o.bel) (ht.below o.bel) htS hr16 on key hks).mono λe w1 hp=>NK o hn0 (ht.below o.bel) htS on (li.below o.bel) (λW hi=>AT1 hi (by omega) key) (λe=>by rw[e];unfold ED;rw[MB _ on.srt]) hp)
 clear x ht htS on li o hl hn0 hks;go_enter Tryz.func29,Tryz.ntmps29;go_wp2_with fail;rw[<-hW0];refine HTL.out.mono ?_;rintro e w1 ⟨s1,s2,b1,rfl,c1,HR⟩;clear HTL e0 e1 hW0;go_wp2_with fail;refine HR.out.mono ?_;rintro e w3 ⟨t1,t2,b2,rfl,hlt,d1,d2,HG,HS⟩;clear HR c1;have HS4:=yH (HS.out (w3.alloc (.cells #[.string t1,.string t2] 89)) ((Below.refl _ _).alloc (Nat.le_refl _) _));clear HS;have hne:¬w1.heap.size=w3.heap.size:=by omega
 rcases D5 s1 t1 with⟨q1,q2⟩|⟨q1,q2⟩
 ·rcases D5 s2 t2 with⟨q3,q4⟩|⟨q3,q4⟩
  ·have HQ:=yH q1;have HQ3:=yH q3
   clear q1 q3;go_wp2;go_ret2;refine⟨v,_,rfl,λe=>?_,HS4.out⟩
   rw[(HG.out e).2.2];simp
  ·have HQ3:=yH q3;clear q1 q3;go_wp2;go_ret2;exact⟨v,_,rfl,λe=>absurd (HG.out e).2.1 HQ3.out,HS4.out⟩
 ·have HQ1:=yH q1;clear q1;go_wp2;go_ret2;exact⟨v,_,rfl,λe=>absurd (HG.out e).1 HQ1.out,HS4.out⟩
end
section
variable {J:List AD->Prop} {B:Nat} {S:Nat->Prop} {c:Ac} {h:Hd} {G:Nat->List UInt8} {w:World} {tb r:Nat} {F:List En} {ps:List Nat}
theorem AW7 {X:Nat->Prop}{n0:NO}{tv:Value}(hn:AM X w n0)(he:n0.ens=[]) :
  Calls Tryz.prog 84 #[tv,n0.ptr,.int .i64 1] w λe w'=>e=.returned (.tuple #[itV none,.bool false])/\Below w.heap.size w w':=by
 have c2:=hn.c2;rw[he]at c2;have c2:w.cell? ⟨n0.blk,2,none⟩=some (.slice n0.arr 0 n0.cap):=c2;have hlt:=hn.lt;obtain⟨W0,hW0⟩:∃W0,W0=w.alloc (.cells #[.string ⟨#[]⟩,.string ⟨#[]⟩] 89):=⟨_,rfl⟩;have hb0:Below w.heap.size w W0:=by rw[hW0];exact (Below.refl _ _).alloc (Nat.le_refl _) _
 have hr0:W0.heap[w.heap.size]? = some itZ:=by rw[hW0];exact heap_alloc_new w _
 have e2:=(hb0.cell (p:=⟨n0.blk,2,none⟩) hlt).trans c2;unfold NO.ptr;obtain⟨nb,hnb⟩:∃nb,nb=n0.blk:=⟨_,rfl⟩;rw[<-hnb]at c2 e2 ⊢
 have HRS:Hid (∀W,W.heap[w.heap.size]? = some itZ->Below w.heap.size w W->DR w.heap.size ⟨#[]⟩ ⟨#[]⟩ W λW'=>Below w.heap.size w W'):=yH λW hr hb=>FX hr ⟨#[]⟩ ⟨#[]⟩ λW' hk=>hb.trans (hk.toBelow hb.size (λi e=>Nat.le_of_eq e.symm))
 have HS0:Hid (DR w.heap.size ⟨#[]⟩ ⟨#[]⟩ W0 λW'=>Below w.heap.size w W'):=yH (HRS.out W0 hr0 hb0)
 clear hn he hlt hnb hr0 hb0;go_enter Tryz.func84,Tryz.ntmps84;go_wp2;rw[<-hW0];clear hW0;go_loopw [1] (λp wr=>p=.pointer (some ⟨nb,0,none⟩)/\W0=wr) (λ_ _=>0)
 case atStart=>exact⟨rfl,rfl⟩
 case round =>
  obtain⟨rfl,rfl⟩:=hrel;obtain⟨d1,d2,d3,d4,d5,d6,d7,HE⟩:=HS0.out;clear HS0 HRS;go_wp2;exact bodyPost_ret (v:=.tuple #[.agg #[.string ⟨#[]⟩,.string ⟨#[]⟩],.bool false]) (by simp[results,Tryz.results84,go_sem,d6,d7]) rfl ⟨rfl,HE.out⟩
theorem BS3 (x:AU J B S c h G w)(ht:AH w tb c.a r)(htS:¬S tb)(hr16:r<16)(on:AY h G (h.root r) F ps) :
  Calls Tryz.prog 39 #[.pointer (some ⟨tb,0,none⟩)] w (BX J B S c h G F.getLast? w):=by
 obtain⟨W0,hW0⟩:∃W0,W0=w.alloc (.cells #[.string ⟨#[]⟩,.string ⟨#[]⟩] 89):=⟨_,rfl⟩;have hb0:Below w.heap.size w W0:=by rw[hW0];exact (Below.refl _ _).alloc (Nat.le_refl _) _
 have x0:=x.below hb0;have ht0:=ht.below hb0;have HTOP:=yH (F9 x0 ht0 hr16);have HLD:Hid (∀k,Calls Tryz.prog 75 #[.pointer (some ⟨tb,0,none⟩),.int .i64 (h.root r)] (W0.drewN k) λe w2=>∃yb:Nat,e=.returned (.pointer (some ⟨yb,0,none⟩))/\Hid (Calls Tryz.prog 84 #[.pointer (some ⟨tb,0,none⟩),.pointer (some ⟨yb,0,none⟩),.int .i64 1] w2 λe w4=>∃(s1 s2:ByteArray) (bb:Bool),e=.returned (.tuple #[.agg #[.string s1,.string s2],.bool bb])/\DR w.heap.size s1 s2 w4 λW'=>BX J B S c h G F.getLast? w (.returned (.tuple #[.agg #[.string s1,.string s2],.bool bb])) W')):=yH λk=>by
  have hbk:Below W0.heap.size W0 (W0.drewN k):=AF W0 k;have xk:=x0.below hbk;have htk:=ht0.below hbk;rcases on.is with⟨rfl,h0,_⟩|⟨m,t,hr,ho,rfl,hpg,rfl,hrep⟩
  ·rw[h0];refine (KQ xk htk).mono ?_;rintro e w2 ⟨rfl,rfl⟩;refine⟨_,rfl,yH ?_⟩;obtain⟨w2,hw2⟩:∃w2,w2=(W0.drewN k).alloc (.cells (BA (W0.drewN k).heap.size 0).cells 138):=⟨_,rfl⟩;rw[<-hw2];have hn:AM (λ_=>True) w2 (BA (W0.drewN k).heap.size 0):=by rw[hw2];exact OU _ 0 (by omega) _ trivial
   have hb2:Below W0.heap.size W0 w2:=by rw[hw2];exact hbk.trans (((Below.refl _ _).alloc (Nat.le_refl _) _).mono hbk.size)
   refine (AW7 (tv:=.pointer (some ⟨tb,0,none⟩)) hn rfl).mono ?_;rintro e w4 ⟨rfl,hb4⟩;have hb5:Below W0.heap.size W0 w4:=hb2.trans (hb4.mono hb2.size);exact PU (o:=none) hW0 x ⟨rfl,S,AO.ofBelow hb5,x0.below hb5⟩
  ·obtain⟨q1,q2,q3⟩:=hrep.at_;rw[<-hpg];refine (KR xk htk t.page m t.ens q1 q2 q3).mono ?_;rintro e w2 ⟨y,S2,rfl,hL⟩;refine⟨y.blk,rfl,yH ?_⟩;have hT2:AO S W0 S2 w2:=(AO.ofBelow hbk).trans hL.turn;have hed:=AP4 (by have:=hT2.1.size;have:=ht0.lt;omega) hL.act (htk.kept hL.turn.1 htS) (hL.turn.not htk.lt htS) (hL.node (λ_=>False) (λ_ h=>h.elim)) hL.new.2.2.1 ⟨hL.info.2.1,hL.info.2.2.1⟩ hr.1 hrep false 1 rfl
   refine hed.mono ?_;rintro e w4 ⟨he,S4,hT4,hA4⟩;exact PU hW0 x ⟨he,S4,hT2.trans hT4,hA4⟩
 obtain⟨rt,hrt⟩:∃rt,rt=h.root r:=⟨_,rfl⟩;rw[<-hrt]at HTOP HLD;clear x ht htS on hrt hb0 x0 ht0;go_enter Tryz.func39,Tryz.ntmps39;go_wp2_with fail;rw[<-hW0];clear hW0;refine HTOP.out.mono ?_;rintro e w1 ⟨rfl,k,rfl⟩;clear HTOP;have HL:=yH (HLD.out k);clear HLD;go_wp2_with fail;refine HL.out.mono ?_;rintro e w2 ⟨yb,rfl,HE⟩;clear HL;go_wp2_with fail;refine HE.out.mono ?_;rintro e w4 ⟨r1,r2,bb,rfl,d1,d2,d3,d4,d5,d6,d7,HE4⟩;clear HE;go_wp2;exact bodyPost_ret (v:=.tuple #[.agg #[.string r1,.string r2],.bool bb]) (by simp[results,Tryz.results39,go_sem,d6,d7]) rfl HE4.out
end
section
variable {J:List AD->Prop} {B:Nat} {S S':Nat->Prop} {c:Ac} {h:Hd} {G:Nat->List UInt8} {w wr:World} {tb r L:Nat} {t:Tr L} {lo:List UInt8} {hi:Option (List UInt8)} {n0:NO} {vlo vhi:Value}
def AM9 (a b:Value)(W:World):Prop:=Calls Tryz.prog 113 #[a,b] W λe w'=>(∃r:Int,e=.returned (.int .i64 r)/\decide (r<0)=false)/\W=w'
def YC (a b:Value)(W:World):Prop:=Calls Tryz.prog 113 #[a,b] W λe w'=>(∃r:Int,e=.returned (.int .i64 r)/\decide (0<=r)=false)/\W=w'
theorem CY.reads {v:Value}{l:List UInt8}(h:CY S w v l):∃A c,v=.slice A l.length c/\AK w A l:=by
 obtain⟨A,c,h1,_,_,h2,_⟩:=h;exact⟨A,c,h1,h2⟩
theorem BT7 {a b:Value}{la lb:List UInt8}(ha:CY S w a la)(hb:CY S w b lb)(hl:le lb la):AM9 a b w:=by
 obtain⟨A,ca,rfl,h1⟩:=ha.reads;obtain⟨B',cb,rfl,h2⟩:=hb.reads;refine (J5 A B' la lb _ _ ca cb w rfl rfl h1 h2).mono ?_;rintro e w' ⟨rfl,h3⟩;exact⟨⟨_,rfl,decide_eq_false λh=>hl ((GQ la lb).1 h)⟩,h3⟩
theorem BK9 {a b:Value}{la lb:List UInt8}(ha:CY S w a la)(hb:CY S w b lb)(hl:lt la lb):YC a b w:=by
 obtain⟨A,ca,rfl,h1⟩:=ha.reads;obtain⟨B',cb,rfl,h2⟩:=hb.reads;refine (J5 A B' la lb _ _ ca cb w rfl rfl h1 h2).mono ?_;rintro e w' ⟨rfl,h3⟩;exact⟨⟨_,rfl,decide_eq_false λh=>by have:=(GQ la lb).2 hl;omega⟩,h3⟩
def AG2 (J:List AD->Prop)(B:Nat)(c:Ac)(h:Hd)(G:Nat->List UInt8)(tb r L:Nat)(t:Tr L)(lo:List UInt8)(hi:Option (List UInt8))(n0:NO):Prop :=
 ∀(i:Nat) (e:En) (S':Nat->Prop) (W:World) (kk vn:Value),t.ens[i]? = some e->AU J B S' c h G W->AH W tb c.a r->¬S' tb->DM S' W n0->CY S' W kk (OQ L lo i e)->HiO S' W vn (G8 t hi i) ->
  Calls Tryz.prog 114 #[.pointer (some ⟨tb,0,none⟩),n0.ptr,.int .i64 i] W λe w4=>∃(yb:Nat) (S4:Nat->Prop),e=.returned (.pointer (some ⟨yb,0,none⟩))/\AO S' W S4 w4/\Calls Tryz.prog 74 #[.pointer (some ⟨tb,0,none⟩),.pointer (some ⟨yb,0,none⟩),kk,vn] w4 λe w5=>e=.returned (.bool true)/\BI J B S4 c h G w4 w5
structure I9 (J:List AD->Prop)(B:Nat)(S:Nat->Prop)(c:Ac)(h:Hd)(G:Nat->List UInt8)(w:World)(S':Nat->Prop)(wr:World):Prop where
 act:AU J B S' c h G wr
 turn:AO S w S' wr
structure AM4 (J:List AD->Prop)(B:Nat)(S:Nat->Prop)(c:Ac)(h:Hd)(G:Nat->List UInt8)(tb L N cap:Nat)(n0:NO)(vlo vhi:Value)(i bb of:Nat)(kv vv kk vn:Value)(w wr:World):Prop where
 lev:∀W,Below wr.heap.size wr W->W.cell? ⟨n0.blk,1,none⟩=some (.int .i64 L)/\W.cell? ⟨n0.blk,2,none⟩=some (.slice (some ⟨bb,of,none⟩) N cap)
 e1:wr.cell? ⟨bb,of+i*2,none⟩=some kv
 e2:wr.cell? ⟨bb,of+i*2+1,none⟩=some vv
 k:kk=if 0<L/\i=0 then vlo else kv
 s1:∃(A:Option Addr) (l cc:Nat),kv=.slice A l cc
 s2:∃(A:Option Addr) (l cc:Nat),vv=.slice A l cc
 n1:i+1<N->∀W,Below wr.heap.size wr W->W.cell? ⟨bb,of+(i+1)*2,none⟩=some vn
 n2:¬i+1<N->vn=vhi
 c1:∀W,Below wr.heap.size wr W->AM9 kk vlo W
 c2:vn=.slice none 0 0\/∃(ad:Addr) (l cc:Nat),vn=.slice (some ad) l cc/\∀W,Below wr.heap.size wr W->YC kk vn W
 leaf:∀W,Below wr.heap.size wr W->∃S',I9 J B S c h G w S' W
 node:0<L->∀W,Below wr.heap.size wr W->Calls Tryz.prog 114 #[.pointer (some ⟨tb,0,none⟩),n0.ptr,.int .i64 i] W λe w4=>∃yb:Nat,e=.returned (.pointer (some ⟨yb,0,none⟩))/\(∀k,wr.heap.size<=k->k<W.heap.size->w4.heap[k]? = W.heap[k]?)/\w4.cell? ⟨n0.blk,1,none⟩=some (.int .i64 L) /\
  Hid (Calls Tryz.prog 74 #[.pointer (some ⟨tb,0,none⟩),.pointer (some ⟨yb,0,none⟩),kk,vn] w4 λe w5=>e=.returned (.bool true)/\(∀k,wr.heap.size<=k->k<W.heap.size->w5.heap[k]? = W.heap[k]?)/\w5.cell? ⟨n0.blk,1,none⟩=some (.int .i64 L)/\∃S5,I9 J B S c h G w S5 w5)
theorem ZO (hrec:0<L->AG2 J B c h G tb r L t lo hi n0)(I:I9 J B S c h G w S' wr)(ht:AH w tb c.a r)(htS:¬S tb)(hn:DM S w n0)(his:n0.level=L/\n0.ens=t.ens)(htd:CJ t)(hord:Ord t lo hi)(hlo:CY S w vlo lo)(hhi:HiO S w vhi hi){i:Nat}(hiN:i<n0.ens.length) :
  ∃(bb of:Nat) (kv vv kk vn:Value),n0.arr=some ⟨bb,of,none⟩/\AM4 J B S c h G tb L n0.ens.length n0.cap n0 vlo vhi i bb of kv vv kk vn w wr:=by
 have hn':=hn.turn I.turn;have hlo':=hlo.turn I.turn;have hhi':=hhi.turn I.turn;have htS':¬S' tb:=I.turn.not ht.lt htS;have ht':=ht.kept I.turn.1 htS;have hei:n0.ens[i]? = some n0.ens[i]:=List.getElem?_eq_getElem hiN;obtain⟨e,he⟩:∃e,e=n0.ens[i]:=⟨_,rfl⟩;rw[<-he]at hei;have hti:t.ens[i]? = some e:=by rw[<-his.2];exact hei
 obtain⟨bb,of,kv,vv,harr,hbl,hfr,k1,k2,k3,k4⟩:=hn'.ent hei;have hkk:CY S' wr (if 0<L/\i=0 then vlo else kv) (OQ L lo i e):=by
  unfold OQ;by_cases h0:0<L/\i=0
  ·rw[if_pos h0,if_pos h0];exact hlo'
  ·rw[if_neg h0,if_neg h0];exact k3
 obtain⟨kk,hk⟩:∃kk,kk=if 0<L/\i=0 then vlo else kv:=⟨_,rfl⟩
 rw[<-hk]at hkk;have hvn:∃vn,HiO S' wr vn (G8 t hi i)/\(i+1<n0.ens.length->∀W,Below wr.heap.size wr W->W.cell? ⟨bb,of+(i+1)*2,none⟩=some vn)/\(¬i+1<n0.ens.length->vn=vhi):=by
  by_cases hl:i+1<n0.ens.length
  ·have hx:n0.ens[i+1]? = some n0.ens[i+1]:=List.getElem?_eq_getElem hl;obtain⟨bb2,of2,kv2,vv2,harr2,hbl2,hfr2,q1,q2,q3,q4⟩:=hn'.ent hx;rw[harr]at harr2;injection harr2 with ha
   injection ha with ha1 ha2
   subst ha1 ha2;have htx:t.ens[i+1]? = some n0.ens[i+1]:=by rw[<-his.2];exact hx
   refine⟨kv2,?_,λ_ W hb=>(hb.cell (p:=⟨bb,of+(i+1)*2,none⟩) hbl).trans q1,λh=>absurd hl h⟩
   unfold G8;rw[htx];exact⟨BR4 htd hord hti htx,q3⟩
  ·have htx:t.ens[i+1]? = none:=by rw[<-his.2];exact List.getElem?_eq_none (by omega)
   refine⟨vhi,?_,λh=>absurd h hl,λ_=>rfl⟩
   unfold G8;rw[htx];exact hhi'
 obtain⟨vn,hv1,hv2,hv3⟩:=hvn;obtain⟨s1,s2⟩:=ZP htd hord hti;have hlev:∀{S2:Nat->Prop} {W:World},DM S2 W n0->W.cell? ⟨n0.blk,1,none⟩=some (.int .i64 L):=λhx=>by
  have:=hx.1.c1
  rw[his.1]at this;exact this
 refine⟨bb,of,kv,vv,kk,vn,harr,⟨λW hb=>?_,k1,k2,hk,k3.reads.imp λ_ ⟨cc,h,_⟩=>⟨_,cc,h⟩,k4.reads.imp λ_ ⟨cc,h,_⟩=>⟨_,cc,h⟩,hv2,hv3,λW hb=>BT7 (hkk.below hb) (hlo'.below hb) s1,?_,λW hb=>⟨S',I.act.below hb,I.turn.trans (AO.ofBelow hb)⟩,λh0 W hb=>?_⟩⟩
 ·have hx:=hn'.below hb;refine⟨hlev hx,?_⟩;have h2:=hx.1.c2;rw[harr]at h2;exact h2
 ·cases hnk:G8 t hi i with
  | none=>rw[hnk]at hv1;exact .inl hv1
  | some x =>
   rw[hnk]at hv1;obtain⟨hx0,hx1⟩:=hv1;obtain⟨A,cc,hA,hr⟩:=hx1.reads;cases A with
   | none =>
    rcases hr with h1|⟨_,_,h1,_⟩
    ·exact absurd h1 hx0
    ·cases h1
   | some ad=>exact .inr ⟨ad,_,cc,hA,λW hb=>BK9 (hkk.below hb) (hx1.below hb) (s2 x hnk)⟩
 ·have hTb:AO S' wr S' W:=AO.ofBelow hb;have hltW:∀k,wr.heap.size<=k->k<W.heap.size->¬S' k:=λk h1 h2 hs=>by have:=(I.act.low _ hs).2;omega
  refine ((hrec h0) i e S' W kk vn hti (I.act.below hb) (ht'.below hb) htS' (hn'.below hb) (hkk.below hb) (hv1.below hb)).mono ?_;rintro e4 w4 ⟨yb,S4,rfl,hT4,hS⟩;refine⟨yb,rfl,λk h1 h2=>hT4.1.block k h2 (hltW k h1 h2),hlev ((hn'.below hb).turn hT4),yH (hS.mono ?_)⟩
  rintro e5 w5 ⟨rfl,S5,hT5,hA5⟩;have hT45:=hT4.trans hT5;exact⟨rfl,λk h1 h2=>hT45.1.block k h2 (hltW k h1 h2),hlev ((hn'.below hb).turn hT45),S5,hA5,(I.turn.trans hTb).trans hT45⟩
end
end Go.Proofs.YtfbbjiidccbaiaaGreatDoor
