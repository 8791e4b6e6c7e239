/- Texts of one proof, one behind the other: SK, SN, SQ, SR, ST, SU, SV. -/
import Derived.Test.YtfbbjiidccbaiaaGreatDoorQAD
import Derived.Lib.AppendStr
import Derived.Lib.IndexBytes
import Derived.Test.YtfbbjiidccbaiaaGreatDoorQAA
set_option maxRecDepth 100000
set_option maxHeartbeats 6400000
namespace Go.Proofs.YtfbbjiidccbaiaaGreatDoor
open Go.RowKit
def BM (k n:Nat):List UInt8:=(List.range k).map λj=>UInt8.ofNat (n / 256 ^ (k-1-j))
theorem AW (k n:Nat):(BM k n).length=k:=by simp[BM]
theorem BE5 (k n j:Nat)(hj:j<k):(BM k n)[j]? = some (UInt8.ofNat (n / 256 ^ (k-1-j))):=by simp[BM,hj]
def EZ (B:Nat)(w:World)(v:Value)(l:List UInt8):Prop:=w.ownsRow B 5 1 v l.length (Lib.byteCells l)
theorem EZ.below {B:Nat}{w w':World}{v:Value}{l:List UInt8}(h:EZ B w v l)(hb:Below w.heap.size w w'):EZ B w' v l:=AX h hb
theorem EZ.shape {B:Nat}{w:World}{v:Value}{l:List UInt8}(h:EZ B w v l):∃a c,v=.slice a l.length c:=by
 rcases h.2 with⟨h1,h0⟩|⟨g,cap,cur,hv,_⟩
 ·exact⟨none,0,by rw[h1,h0]⟩
 ·exact⟨_,cap,hv⟩
theorem EZ.nil (B:Nat)(w:World):EZ B w (.slice none 0 0) []:=⟨rfl,.inl ⟨rfl,rfl⟩⟩
theorem BU0 (n r:Nat):(n:Int) / 2 ^ (8*r) % 256=((UInt8.ofNat (n / 256 ^ r)).toNat:Int):=by
 have e:(256:Nat) ^ r=2 ^ (8*r):=by rw[show (256:Nat)=2 ^ 8 from rfl,<-Nat.pow_mul]
 rw[UInt8.toNat_ofNat',e];have:((2:Int) ^ (8*r))=((2 ^ (8*r):Nat):Int):=by simp
 rw[this];omega
theorem C3.refl (w:World)(v:Value):C3 w w v v:=⟨⟨rfl,rfl,rfl,Nat.le_refl _,λ_ _ _=>rfl⟩,λ_ hk=>.inl hk⟩
theorem C3.trans {a b c:World}{u v x:Value}(h:C3 a b u v)(k:C3 b c v x):C3 a c u x:=by
 refine⟨⟨k.1.os.trans h.1.os,k.1.tape.trans h.1.tape,k.1.output.trans h.1.output,Nat.le_trans h.1.size k.1.size,λi hi hne=>?_⟩,λi hi=>?_⟩
 ·refine (k.1.block i (Nat.lt_of_lt_of_le hi h.1.size) (λe=>?_)).trans (h.1.block i hi hne)
  rcases h.2 i e.symm with h1|h1
  ·exact hne h1.symm
  ·omega
 ·rcases k.2 i hi with h1|h1
  ·exact h.2 i h1
  ·exact .inr (Nat.le_trans h.1.size h1)
theorem C3.ofBelow {a b:World}(h:Below a.heap.size a b)(v:Value):C3 a b v v:=⟨⟨h.os,h.tape,h.output,h.size,λi hi _=>h.block i hi⟩,λ_ hk=>.inl hk⟩
theorem C3.below {a b:World}{u v:Value}{B:Nat}(h:C3 a b u v)(hB:B<=a.heap.size)(hu:∀k,u.ownBlock=some k->B<=k):Below B a b :=
 ⟨h.1.os,h.1.tape,h.1.output,h.1.size,λi hi=>h.1.block i (Nat.lt_of_lt_of_le hi hB) (λe=>by have:=hu i e.symm;omega)⟩
theorem MY {w:World}{e:TypeId}{sz n B:Nat}{v:Value}{xs:List Value}(h:w.ownsRow 0 e sz v n xs)(hB:∀k,v.ownBlock=some k->B<=k):w.ownsRow B e sz v n xs :=
 ⟨h.1,h.2.imp id (λ⟨g,cap,cur,hv,_,r⟩=>⟨g,cap,cur,hv,hB g (by rw[hv];rfl),r⟩)⟩
theorem IS {w:World}{e:TypeId}{sz n B:Nat}{v:Value}{xs:List Value}(h:w.ownsRow B e sz v n xs):w.ownsRow 0 e sz v n xs :=
 ⟨h.1,h.2.imp id (λ⟨g,cap,cur,hv,_,r⟩=>⟨g,cap,cur,hv,Nat.zero_le _,r⟩)⟩
theorem EZ.lt {B:Nat}{w:World}{v:Value}{l:List UInt8}(h:EZ B w v l):∀k,v.ownBlock=some k->B<=k:=λk hk=>(World.ownsRow.lt h k hk).1
theorem C3.own {B:Nat}{a b:World}{u v:Value}(h:C3 a b u v)(hB:B<=a.heap.size)(hu:∀k,u.ownBlock=some k->B<=k):∀k,v.ownBlock=some k->B<=k:=λk hk=>(h.2 k hk).elim (hu k) (λe=>Nat.le_trans hB e)
theorem GP (v:Value)(l:List UInt8)(k n:Nat)(w:World)(h:EZ 0 w v l)(hk:k<=8)(hl:l.length<=33554432) :
  Calls Tryz.prog 142 #[v,.int .i64 k,.int .u64 n] w λe w'=>∃v',e=.returned v'/\EZ 0 w' v' (l++BM k n)/\C3 w w' v v':=by
 obtain⟨i0,hi,q0,q1,q2⟩:=info_parts infoByte;have HO:=yH h;obtain⟨a0,c0,rfl⟩:=h.shape;obtain⟨L,hL⟩:∃L,L=l.length:=⟨_,rfl⟩;rw[<-hL]at HO hl ⊢
 have HL:=yH hL;clear h hL;go_enter Tryz.func142,Tryz.ntmps142;go_wp2;go_loopw [0,7] (λv i wr=>∃(j m:Nat) (a:Option Addr) (c:Nat),j<=k/\m=L+j/\v=.slice a m c/\(j<k/\i=.int .i64 ((k-1-j:Nat):Int)\/j=k/\i=.int .i64 (-1))/\Hid (EZ 0 wr (.slice a m c) (l++(BM k n).take j))/\Hid (C3 w wr (.slice a0 L c0) (.slice a m c))) (λ_ i _=>(intOf i+1).toNat)
 case atStart =>
  refine⟨0,L,a0,c0,by omega,rfl,rfl,?_,yH (by rw[List.take_zero,List.append_nil];exact HO.out),yH (C3.refl _ _)⟩
  by_cases hk0:k=0
  ·subst hk0;exact .inr ⟨rfl,rfl⟩
  ·exact .inl ⟨by omega,by rw[show ((k-1-0:Nat):Int)=(k:Int)-1 by omega]⟩
 case round =>
  obtain⟨j,m,a,c,hj,rfl,rfl,(⟨hlt,rfl⟩ | ⟨rfl,rfl⟩),ho,hb⟩:=hrel
  ·obtain⟨r,hr⟩:∃r,r=k-1-j:=⟨_,rfl⟩;rw[<-hr];have hr8:r<8:=by omega
   have hr0:(0:Int)<=(r:Int):=by omega
   have HRR:=yH hr;have HV:=yH (BU0 n r);have hrk:r+j+1=k:=by omega
   have hlen:(l++(BM k n).take j).length=L+j:=by rw[List.length_append,List.length_take,AW,HL.out];omega
   have HO1:Hid (wr.ownsRow 0 5 1 (.slice a (L+j) c) (L+j) (Lib.byteCells (l++(BM k n).take j))):=yH (by have:=ho.out;unfold EZ at this;rwa [hlen]at this)
   have HRK:=yH hrk;obtain⟨v',w2,hrun,hown',hgrow⟩:=DZ (wr.alloc (.cells #[.int .u8 ((n:Int) / 2 ^ (8*r) % 256)] 5)) 102 102 5 i0 (.int .u8 0) 1 1 Tryz.underlying102 hi q0 q1 q2 rfl (by decide) _ _ _ (HO1.out.alloc _) ⟨wr.heap.size,0,none⟩ 1 1 [.int .u8 ((n:Int) / 2 ^ (8*r) % 256)] rfl (by
    intro q u hu;have hq:q=0:=by
     have:=(List.getElem?_eq_some_iff.1 hu).1
     simp at this;omega
    subst hq;simp at hu;subst hu;exact yC (w:=wr.alloc (.cells #[.int .u8 ((n:Int) / 2 ^ (8*r) % 256)] 5)) (b:=wr.heap.size) (heap_alloc_new wr _) 0) (by intro u hu;simp at hu;subst hu;rfl) (by unfold maxLen;omega) (by omega) (by omega)
   obtain⟨av',cv',rfl⟩:∃a c,v'=.slice a (L+j+1) c:=by
    rcases hown'.2 with⟨_,h0⟩|⟨g',cap',cur,hv,_⟩
    ·omega
    ·exact⟨_,cap',hv⟩
   have HB2:Hid (C3 w w2 (.slice a0 L c0) (.slice av' (L+j+1) cv')):=yH ((hb.out.trans (C3.ofBelow ((Below.refl _ wr).alloc (Nat.le_refl _) _) _)).trans hgrow);have HO2:Hid (EZ 0 w2 (.slice av' (L+j+1) cv') (l++(BM k n).take (j+1))):=yH (by
    have hg:=BE5 k n j (by omega)
    have hjl:j<(BM k n).length:=by rw[AW];omega
    rw[List.getElem?_eq_getElem hjl]at hg;have hg':=Option.some.inj hg;rw[List.take_succ_eq_append_getElem hjl,hg',<-List.append_assoc];unfold EZ;have e1:(l++(BM k n).take j++[UInt8.ofNat (n / 256 ^ (k-1-j))]).length=L+j+1:=by
     rw[List.length_append,List.length_append,List.length_take,AW,HL.out];simp;omega
    have e2:Lib.byteCells (l++(BM k n).take j++[UInt8.ofNat (n / 256 ^ (k-1-j))])=Lib.byteCells (l++(BM k n).take j)++[.int .u8 ((n:Int) / 2 ^ (8*r) % 256)]:=by
     rw[HV.out,HRR.out];simp[Lib.byteCells]
    rw[e1,e2];exact hown')
   have HRUN:=yH hrun;clear hr hlen hrk hown' hgrow hrun;go_wp2_with (at_builtin;refine Lib.wpList_append_run _ rfl _ _ 102 102 rfl _ _ rfl rfl _ _ HRUN.out ?_)
   by_cases hr1:r=0
   ·subst hr1;have:=HRK.out
    go_wp2;go_roundw
    case rel=>exact⟨j+1,L+j+1,av',cv',by omega,by omega,rfl,.inr ⟨by omega,rfl⟩,HO2,HB2⟩
    case measure=>simp[intOf]
   ·obtain⟨r',rfl⟩:∃r',r=r'+1:=⟨r-1,by omega⟩
    have:=HRK.out
    go_wp2;go_roundw
    case rel=>exact⟨j+1,L+j+1,av',cv',by omega,by omega,rfl,.inl ⟨by omega,by rw[show k-1-(j+1)=r' by omega] <;> go_num⟩,HO2,HB2⟩
    case measure=>simp[intOf];omega
  ·go_wp2;go_ret;refine⟨_,rfl,?_,hb.out⟩;have:=ho.out
   rwa [List.take_of_length_le (by rw[AW];exact Nat.le_refl _)]at this
theorem L6 (B:Nat)(v:Value)(l:List UInt8)(k n:Nat)(w:World)(h:EZ B w v l)(hB:B<=w.heap.size)(hk:k<=8)(hl:l.length<=33554432) :
  Calls Tryz.prog 142 #[v,.int .i64 k,.int .u64 n] w λe w'=>∃v',e=.returned v'/\EZ B w' v' (l++BM k n)/\Below B w w':=by
 refine (GP v l k n w (IS h) hk hl).mono ?_;rintro e w' ⟨v',he,h1,h2⟩;exact⟨v',he,MY h1 (h2.own hB h.lt),h2.below hB h.lt⟩
def hdB (h:Hd):List UInt8:=BM 2 h.count++((List.range 16).flatMap λi=>BM 4 (h.root i))++((List.range (h.count / 64+1)).flatMap λi=>BM 8 (h.word i))
theorem H0 (f:Nat->List UInt8)(k:Nat):(List.range (k+1)).flatMap f=(List.range k).flatMap f++f k:=by
 rw[List.range_succ,List.flatMap_append];simp
theorem DB (f:Nat->List UInt8)(c:Nat)(hf:∀i,(f i).length=c)(k:Nat):((List.range k).flatMap f).length=c*k:=by
 induction k with
 | zero=>simp
 | succ k ih=>rw[H0,List.length_append,ih,hf,Nat.mul_succ]
theorem JS (W:World)(b o n:Nat)(hn:n<=64):(Instr.sliceAt 34 (.pointer (some ⟨b,o,none⟩)) none (some (.int .i64 n)) none).run Tryz.prog W=.ok (.slice (some ⟨b,o,none⟩) n 64) W:=by
 obtain⟨i,hi,_⟩:=Option.map_eq_some_iff.1 (show (Tryz.prog.info? 33).map (·.size)=some 1 by kernel_rfl)
 simp[Instr.sliceAt,run_underlying Tryz.underlying34,Instr.sureAddr,Instr.sliceBounds,Instr.sliceBound,asIntOf,sizeOf,typeInfo,hi,Result.andThen];rw[if_pos hn];simp[A3]
theorem AK8 (b o:Nat)(h:Hd)(w:World)(a:DJ w b o h)(k:h.Ok)(hb:b<w.heap.size) :
  Calls Tryz.prog 109 #[.pointer (some ⟨b,o,none⟩)] w λe w'=>∃v',e=.returned v'/\EZ w.heap.size w' v' (hdB h)/\Below w.heap.size w w':=by
 have HA:=yH a;have HK:=yH k;have hc:=a.count;have hcnt:=k.cnt;obtain⟨rs,hrs⟩:∃rs:List Value,rs=h.roots.map (λx:Nat=>Value.int .i64 (x:Int)):=⟨_,rfl⟩
 have hrl:rs.length=16:=by rw[hrs];simp[k.nr]
 have hrv:∀i,i<16->rs.toArray[i]? = some (.int .i64 (h.root i:Int)):=λi hi=>by
  have h1:i<h.roots.length:=by rw[k.nr];exact hi
  rw[hrs,List.getElem?_toArray,List.getElem?_map,List.getElem?_eq_getElem h1,Hd.root,List.getD_eq_getElem?_getD,List.getElem?_eq_getElem h1];rfl
 have HRG:Hid (∀W:World,Below w.heap.size w W->W.rangeAt b (o+65) rs):=yH (λW hW j v hv=>by
  have hj:=(List.getElem?_eq_some_iff.1 hv).1;rw[hrl]at hj;have h2:=hrv j hj;rw[List.getElem?_toArray]at h2;rw[h2]at hv;cases hv;exact (HA.out.block (hW.block b hb)).root HK.out hj)
 have HRI:Hid ((Tryz.prog.info? 35).map (·.size)=some rs.length):=yH (by rw[hrl];kernel_rfl)
 obtain⟨X,hX⟩:∃X,X=rs.toArray:=⟨_,rfl⟩;have HIX:Hid (∀i:Nat,i<16->∀W,(Instr.index 35 (.agg X) (.int .i64 i)).run Tryz.prog W=.ok (.int .i64 (h.root i:Int)) W):=yH (λi hi W=>LI 35 3 16 _ _ i W (by kernel_rfl) (by kernel_rfl) (by kernel_rfl) hi (by rw[hX];exact hrv i hi))
 have HX:=yH hX;obtain⟨c,hce⟩:∃c,c=h.count:=⟨_,rfl⟩;rw[<-hce]at hc hcnt;obtain⟨n,hn⟩:∃n,n=c / 64+1:=⟨_,rfl⟩;have hn64:n<=64:=by omega
 have HW:Hid (∀(W:World),Below w.heap.size w W->Calls Tryz.prog 149 #[.pointer (some ⟨b,o,none⟩)] W λe w'=>e=.returned (.int .i64 n)/\w'=W):=yH (λW hW=>by
  have:=AR1 b o h W (HA.out.block (hW.block b hb)) HK.out
  rwa [<-hce,<-hn]at this)
 have hsl:=λW=>JS W b (o+1) n hn64
 have hu64:IntKind.u64.wrap (c:Int)=(c:Int):=by rw[IntKind.wrap_u64];omega
 have HC:=yH hc;have HCE:=yH hce;have HN:=yH hn;have HS:Hid (h.root=h.root):=yH rfl;have hB0:w.heap.size<=w.heap.size:=Nat.le_refl _;have hnum:=L6 w.heap.size (.slice none 0 0) [] 2 c w (EZ.nil _ _) hB0 (by omega) (by simp)
 have HNUM:=yH hnum;clear a k hrs hrl hrv hX hce hn HS hnum;go_enter Tryz.func109,Tryz.ntmps109;go_wp2_with fail;refine HNUM.out.mono ?_;rintro e w1 ⟨v1,rfl,ho1,hb1⟩;rw[List.nil_append]at ho1;obtain⟨a1,c1,rfl⟩:=ho1.shape;rw[AW]at ho1 ⊢
 have HO1:=yH ho1;have HB1:=yH hb1;clear ho1 hb1;go_wp2_with (refine wpList_load_mid rfl 35 _ rfl b (o+65) (by rfl) rs _ (HRG.out _ HB1.out) Tryz.underlying35 rfl HRI.out ?_)
 rw[<-HX.out];go_wp2;go_loopw [3,18] (λv i wr=>∃(q m:Nat) (a:Option Addr) (cc:Nat),q<=16/\m=2+4*q/\i=.int .i64 q/\v=.slice a m cc/\Hid (EZ w.heap.size wr (.slice a m cc) (BM 2 c++(List.range q).flatMap λi=>BM 4 (h.root i)))/\Hid (Below w.heap.size w wr)) (λ_ i _=>16-(intOf i).toNat)
 case atStart=>exact⟨0,2,a1,c1,by omega,rfl,rfl,rfl,yH (by simpa using HO1.out),HB1⟩
 case round =>
  obtain⟨q,m,a,cc,hq,rfl,rfl,rfl,ho,hbw⟩:=hrel;by_cases hlt:q<16
  ·have hix:=HIX.out q hlt wr;have hr31:=HK.out.rt q;obtain⟨r,hr⟩:∃r,r=h.root q:=⟨_,rfl⟩;rw[<-hr]at hix hr31;have hur:IntKind.u64.wrap (r:Int)=(r:Int):=by rw[IntKind.wrap_u64];omega
   have hq16:(q:Int)<16:=by omega
   have hnum:=L6 w.heap.size _ _ 4 r wr ho.out hbw.out.size (by omega) (by
    rw[List.length_append,AW,DB _ 4 (λi=>AW 4 _)];omega)
   rw[List.append_assoc,hr,<-H0 (λi=>BM 4 (h.root i)) q,<-hr]at hnum
   have HNM:=yH hnum;clear hnum hr31 hr;go_wp2_with fail;refine HNM.out.mono ?_;rintro e w2 ⟨v2,rfl,ho2,hb2⟩;obtain⟨a2,c2,rfl⟩:=ho2.shape;have hl2:(BM 2 c++(List.range (q+1)).flatMap λi=>BM 4 (h.root i)).length=2+4*(q+1):=by rw[List.length_append,AW,DB _ 4 (λi=>AW 4 _)]
   rw[hl2]at ho2 ⊢
   have HO2:=yH ho2;have HB2:=yH (hbw.out.trans hb2);clear ho2 hb2 hl2;go_wp2;go_roundw
   case rel=>exact⟨q+1,2+4*(q+1),a2,c2,by omega,rfl,by go_num,rfl,HO2,HB2⟩
   case measure=>simp[intOf];omega
  ·have hge:¬((q:Int)<16):=by omega
   have HQ:Hid (q=16):=yH (by omega)
   have hw16:=HW.out;have HW2:Hid (∀n',Calls Tryz.prog 149 #[.pointer (some ⟨b,o,none⟩)] (wr.drewN n') λe w'=>e=.returned (.int .i64 n)/\w'=wr.drewN n'):=yH (λn'=>HW.out _ (hbw.out.trans ((AF wr n').mono hbw.out.size)))
   clear hw16;go_wp2_with fail;go_quiet ((go_at_call 149;exact Calls.quiet_of_same (HW2.out _)))
   have HST:Hid (∀n',EZ w.heap.size (wr.drewN n') (.slice a (2+4*q) cc) (BM 2 c++(List.range 16).flatMap λi=>BM 4 (h.root i))/\Below w.heap.size w (wr.drewN n')):=yH (λn'=>⟨by have:=ho.out.below (AF wr n');rwa [show List.range q=List.range 16 by rw[HQ.out]]at this,hbw.out.trans ((AF wr n').mono hbw.out.size)⟩)
   have hm66:66+8*0=2+4*q:=by have:=HQ.out;omega
   have HM66:=yH hm66;clear ho hbw hlt hm66;go_wp2;go_loopw [3,33] (λv i wr=>∃(q m:Nat) (a:Option Addr) (cc:Nat),q<=n/\m=66+8*q/\i=.int .i64 q/\v=.slice a m cc/\Hid (EZ w.heap.size wr (.slice a m cc) ((BM 2 c++(List.range 16).flatMap λi=>BM 4 (h.root i))++(List.range q).flatMap λi=>BM 8 (h.word i)))/\Hid (Below w.heap.size w wr)) (λ_ i _=>n-(intOf i).toNat)
   case atStart=>exact⟨0,2+4*q,a,cc,by omega,HM66.out.symm,rfl,rfl,yH (by simpa using (HST.out _).1),yH (HST.out _).2⟩
   case round =>
    obtain⟨q,m,a,cc,hq,rfl,rfl,rfl,ho,hbw⟩:=hrel;by_cases hlt:q<n
    ·have hcw:=(HA.out.block (hbw.out.block b hb)).word HK.out (show q<64 by omega)
     obtain⟨r,hr⟩:∃r,r=h.word q:=⟨_,rfl⟩;rw[<-hr]at hcw;have hqn:(q:Int)<n:=by omega
     have hnum:=L6 w.heap.size _ _ 8 r wr ho.out hbw.out.size (by omega) (by
      rw[List.length_append,List.length_append,AW,DB _ 4 (λi=>AW 4 _),DB _ 8 (λi=>AW 8 _)];omega)
     rw[List.append_assoc,hr,<-H0 (λi=>BM 8 (h.word i)) q,<-hr]at hnum
     have HNM:=yH hnum;clear hnum hr;go_wp2_with fail;refine HNM.out.mono ?_;rintro e w2 ⟨v2,rfl,ho2,hb2⟩;obtain⟨a2,c2,rfl⟩:=ho2.shape;have hl2:((BM 2 c++(List.range 16).flatMap λi=>BM 4 (h.root i))++(List.range (q+1)).flatMap λi=>BM 8 (h.word i)).length=66+8*(q+1):=by rw[List.length_append,List.length_append,AW,DB _ 4 (λi=>AW 4 _),DB _ 8 (λi=>AW 8 _)]
     rw[hl2]at ho2 ⊢
     have HO2:=yH ho2;have HB2:=yH (hbw.out.trans hb2);clear ho2 hb2 hl2;go_wp2;go_roundw
     case rel=>exact⟨q+1,66+8*(q+1),a2,c2,by omega,rfl,by go_num,rfl,HO2,HB2⟩
     case measure=>simp[intOf];omega
    ·obtain rfl:q=n:=by omega
     go_wp2;go_ret;refine⟨_,rfl,?_,hbw.out⟩;unfold hdB;rw[<-HCE.out,<-HN.out];exact ho.out
structure Pt where
 page:Nat
 at_:Nat
 s:ByteArray
def Pt.cells (p:Pt):List Value:=[.int .i64 p.page,.int .i64 p.at_,.string p.s]
def BP (B:Nat)(w:World)(v:Value)(ps:List Pt):Prop:=w.ownsRow B 207 3 v ps.length (ps.flatMap Pt.cells)
theorem BP.below {B:Nat}{w w':World}{v:Value}{ps:List Pt}(h:BP B w v ps)(hb:Below w.heap.size w w'):BP B w' v ps:=AX h hb
theorem BP.shape {B:Nat}{w:World}{v:Value}{ps:List Pt}(h:BP B w v ps):∃a c,v=.slice a ps.length c:=by
 rcases h.2 with⟨h1,h0⟩|⟨g,cap,cur,hv,_⟩
 ·exact⟨none,0,by rw[h1,h0]⟩
 ·exact⟨_,cap,hv⟩
theorem CC0 (ps:List Pt)(k:Nat)(hk:k<ps.length)(j:Nat)(hj:j<3):(ps.flatMap Pt.cells)[k*3+j]? = ps[k].cells[j]?:=by
 induction ps generalizing k with
 | nil=>simp at hk
 | cons p r ih =>
  rw[List.flatMap_cons];have hl:p.cells.length=3:=rfl;cases k with
  | zero=>rw[List.getElem?_append_left (by omega)];simp
  | succ k =>
   rw[List.getElem?_append_right (by omega),show (k+1)*3+j-p.cells.length=k*3+j by omega,ih k (by simpa using hk)]
   rfl
theorem BP.at {B:Nat}{w:World}{a:Option Addr}{n c:Nat}{ps:List Pt}(h:BP B w (.slice a n c) ps){k:Nat}(hk:k<ps.length) :
  ∃g,a=some ⟨g,0,none⟩/\B<=g/\g<w.heap.size/\w.cell? ⟨g,k*3,none⟩=some (.int .i64 ps[k].page)/\w.cell? ⟨g,k*3+1,none⟩=some (.int .i64 ps[k].at_)/\w.cell? ⟨g,k*3+2,none⟩=some (.string ps[k].s):=by
 rcases h.2 with⟨_,h0⟩|⟨g,cap,cur,hv,hB,hg,_⟩
 ·omega
 ·injection hv with hv _ _
  subst hv;have hc:∀j,j<3->w.cell? ⟨g,k*3+j,none⟩=ps[k].cells[j]?:=λj hj=>by
   have:=h.cells (g:=g) rfl (k*3+j)
   cases hv:ps[k].cells[j]? with
   | none=>have:ps[k].cells.length=3:=rfl;rw[List.getElem?_eq_none_iff]at hv;omega
   | some u =>
    have:=this u (by rw[CC0 ps k hk j hj,hv])
    rwa [A3,Nat.zero_add]at this
  exact⟨g,rfl,hB,(Array.getElem?_eq_some_iff.1 hg).1,hc 0 (by omega),hc 1 (by omega),hc 2 (by omega)⟩
def ptB (p:Pt):List UInt8:=BM 2 p.page++BM 2 p.at_++BM 2 p.s.size++p.s.data.toList
def EI (h:Hd)(ps:List Pt):List UInt8:=hdB h++ps.flatMap ptB
theorem BD6 (p:Pt):∀ps:List Pt,p ∈ ps->p.s.size<=(ps.flatMap ptB).length
 | q::r,h=>by
  rw[List.flatMap_cons,List.length_append];rcases List.mem_cons.1 h with rfl|h
  ·have:p.s.data.toList.length=p.s.size:=rfl
   unfold ptB;simp only[List.length_append];omega
  ·have:=BD6 p r h
   omega
theorem BX9 {l:List UInt8}(h:l.length<=16777216)(k n:Nat):(l++BM k n).length<=16777216+k:=by rw[List.length_append,AW];omega
theorem EZ.conv {B:Nat}{w:World}{a:Option Addr}{n c:Nat}{l:List UInt8}(h:EZ B w (.slice a n c) l)(hn:l.length=n):(convert 102 9 (.slice a n c)).run Tryz.prog w=.ok (.string ⟨l.toArray⟩) w:=by
 have hb:Bytes w (.slice a n c) l:=IS h;have:=LM w _ l hb 0 n (by omega) a c (λh0=>by
  rcases h.2 with⟨_,e⟩|⟨g,cap,cur,hv,_⟩
  ·omega
  ·injection hv with hv _ _
   exact⟨g,by rw[hv];rfl,hv⟩)
 rw[this,List.drop_zero,List.take_of_length_le (by omega)]
theorem BM3 (l:List UInt8)(r:List Pt)(pg pa:Nat)(s:ByteArray):l++(r++([⟨pg,pa,s⟩]:List Pt)).flatMap ptB=(l++r.flatMap ptB++BM 2 pg++BM 2 pa++BM 2 s.size)++s.data.toList:=by
 have e:ptB ⟨pg,pa,s⟩=BM 2 pg++BM 2 pa++BM 2 s.size++s.data.toList:=rfl;rw[List.flatMap_append,List.flatMap_cons,List.flatMap_nil,List.append_nil,e];simp only[List.append_assoc]
theorem RT (l:List UInt8)(s:ByteArray):Lib.byteCells (l++s.data.toList)=Lib.byteCells l++Lib.strCells s:=by
 unfold Lib.byteCells Lib.strCells;rw[List.map_append]
theorem BS0 (l:List UInt8)(s:ByteArray):(l++s.data.toList).length=l.length+s.size:=by
 rw[List.length_append];rfl
theorem V6 (B:Nat)(h:Hd)(v:Value)(ps:List Pt)(w:World)(k:h.Ok)(hp:BP B w v ps)(hl:(EI h ps).length<=16777216)(hp2:∀p ∈ ps,p.page<65536/\p.at_<65536) :
  Calls Tryz.prog 104 #[.agg h.cells.toArray,v] w λe w'=>e=.returned (.string ⟨(EI h ps).toArray⟩)/\Below w.heap.size w w':=by
 obtain⟨i0,hi,q0,q1,q2⟩:=info_parts infoByte;obtain⟨va,vc,rfl⟩:=hp.shape;obtain⟨X,hX⟩:∃X,X=h.cells.toArray:=⟨_,rfl⟩;rw[<-hX];obtain⟨w1,hw1⟩:∃w1,w1=w.alloc (.cells X 37):=⟨_,rfl⟩;have hb1:Below w.heap.size w w1:=by rw[hw1];exact (Below.refl _ _).alloc (Nat.le_refl _) _
 have hnew:w1.heap[w.heap.size]? = some (.cells X 37 (0,0)):=by rw[hw1];exact heap_alloc_new w _
 have hA1:DJ w1 w.heap.size 0 h:=λj u hu=>by
  rw[Nat.zero_add,yC hnew,hX,List.getElem?_toArray];exact hu
 have hsz1:w1.heap.size=w.heap.size+1:=by rw[hw1];simp
 have HHB:=yH (AK8 w.heap.size 0 h w1 hA1 k (by omega))
 rw[hw1]at HHB;have HP:=yH hp;obtain⟨n,hn⟩:∃n,n=ps.length:=⟨_,rfl⟩;have HN:=yH hn;have HL:=yH hl;have HP2:=yH hp2;have HB1:=yH hb1;have HSZ:=yH hsz1;have HW1:=yH hw1;rw[<-hn];have hn63:n<=9223372036854775807:=by
  rcases hp.2 with⟨_,h0⟩|⟨g,cap,cur,hv,_,_,h1,h2,_⟩
  ·omega
  ·unfold maxLen at h2;omega
 clear k hp hl hX hw1 hb1 hnew hA1 hsz1 hn hp2;go_enter Tryz.func104,Tryz.ntmps104;go_wp2_with fail;refine HHB.out.mono ?_;rintro e w2 ⟨v2,rfl,ho2,hb2⟩;rw[<-HW1.out]at ho2 hb2;obtain⟨B2,hB2⟩:∃B2,B2=w1.heap.size:=⟨_,rfl⟩;rw[<-hB2]at ho2 hb2;have HB2:=yH hb2;have HBE:=yH hB2;obtain⟨a2,c2,rfl⟩:=ho2.shape;obtain⟨m2,hm2⟩:∃m2,m2=(hdB h).length:=⟨_,rfl⟩;rw[<-hm2]at ho2 ⊢
 have HO2:=yH ho2;have HM2:=yH hm2;clear ho2 hb2 hB2 hm2;go_wp2;go_loopw [5,13] (λv i wr=>∃(q m:Nat) (a:Option Addr) (cc:Nat),q<=n/\i=.int .i64 q/\v=.slice a m cc/\Hid (m=(hdB h++(ps.take q).flatMap ptB).length)/\Hid (EZ B2 wr (.slice a m cc) (hdB h++(ps.take q).flatMap ptB))/\Hid (Below B2 w1 wr)) (λ_ i _=>n-(intOf i).toNat)
 case atStart=>exact⟨0,m2,a2,c2,by omega,rfl,rfl,yH (by rw[HM2.out];simp),yH (by simpa using HO2.out),HB2⟩
 case round =>
  obtain⟨q,m,a,cc,hq,rfl,rfl,hm,ho,hbw⟩:=hrel;by_cases hlt:q<n
  ·have hlt':q<ps.length:=by rw[<-HN.out];exact hlt
   have hqn:(q:Int)<n:=by omega
   have hbB:Below w.heap.size w wr:=HB1.out.trans (hbw.out.mono (by rw[HBE.out,HSZ.out];omega))
   obtain⟨g,rfl,hBg,hgl,e0,e1,e2⟩:=(HP.out.below hbB).at (by rw[<-HN.out]at hlt';exact (show q<ps.length by rw[<-HN.out];exact hlt))
   obtain⟨p,hpe⟩:∃p,p=ps[q]:=⟨_,rfl⟩;have hmem:p ∈ ps:=by rw[hpe];exact List.getElem_mem hlt'
   rw[<-hpe]at e0 e1 e2;obtain⟨hpp1,hpp2⟩:=HP2.out p hmem;have hss:p.s.size<=16777216:=by
    have h1:=HL.out;have h2:=BD6 p ps hmem;unfold EI at h1;rw[List.length_append]at h1;omega
   have HTK:Hid (ps.take (q+1)=ps.take q++[p]):=yH (by rw[List.take_succ_eq_append_getElem hlt',hpe])
   have hll:(hdB h++(ps.take q).flatMap ptB).length<=16777216:=by
    have h1:=HL.out;have h2:((ps.take q).flatMap ptB).length<=(ps.flatMap ptB).length:=by
     have:ps.flatMap ptB=(ps.take q).flatMap ptB++(ps.drop q).flatMap ptB:=by rw[<-List.flatMap_append,List.take_append_drop]
     rw[this,List.length_append];omega
    unfold EI at h1;rw[List.length_append]at h1 ⊢
    omega
   have HLL:=yH hll;clear hpe hmem hll hlt';obtain⟨pg,pa,s⟩:=p;simp only at e0 e1 e2 hpp1 hpp2 hss;have u1:IntKind.u64.wrap (pg:Int)=(pg:Int):=by rw[IntKind.wrap_u64];omega
   have u2:IntKind.u64.wrap (pa:Int)=(pa:Int):=by rw[IntKind.wrap_u64];omega
   have u3:IntKind.u64.wrap (s.size:Int)=(s.size:Int):=by rw[IntKind.wrap_u64];omega
   have i3:∀(x y z:Value) (W:World),(Instr.index 217 (.agg #[x,y,z]) (.int .i64 0)).run Tryz.prog W=.ok x W:=λ_ _ _ _=>by kernel_rfl
   have i4:∀(x y z:Value) (W:World),(Instr.index 217 (.agg #[x,y,z]) (.int .i64 1)).run Tryz.prog W=.ok y W:=λ_ _ _ _=>by kernel_rfl
   have i5:∀(x y z:Value) (W:World),(Instr.index 217 (.agg #[x,y,z]) (.int .i64 2)).run Tryz.prog W=.ok z W:=λ_ _ _ _=>by kernel_rfl
   go_wp2_with fail;have HLT:Hid (∀k,(Value.slice a m cc).ownBlock=some k->B2<=k/\k<wr.heap.size):=yH (λk hk=>World.ownsRow.lt ho.out k hk)
   have HSB:Hid (B2<=wr.heap.size):=yH (by rw[HBE.out];exact hbw.out.size)
   refine wp_loop_rounds 4 ?_;rw[rounds_succ];go_wp2_with fail;refine (GP (.slice a m cc) _ 2 pg _ (IS (ho.out.alloc _)) (by omega) (by have:=HLL.out;omega)).mono ?_
   rintro e w3 ⟨v3,rfl,o3,g3⟩;obtain⟨a3,c3,rfl⟩:=o3.shape;have hl3:=BX9 HLL.out 2 pg;obtain⟨m3,hm3⟩:∃m3,m3=(hdB h++(ps.take q).flatMap ptB++BM 2 pg).length:=⟨_,rfl⟩;rw[<-hm3]at o3 g3 ⊢
   have O3:=yH o3;have G3:=yH g3;have M3:=yH hm3;have L3:=yH hl3
   clear o3 g3 hm3 hl3;go_wp2;rw[rounds_succ];go_wp2_with fail;refine (GP (.slice a3 m3 c3) _ 2 pa _ O3.out (by omega) (by have:=L3.out;omega)).mono ?_
   rintro e w4 ⟨v4,rfl,o4,g4⟩;obtain⟨a4,c4,rfl⟩:=o4.shape;obtain⟨m4,hm4⟩:∃m4,m4=(hdB h++(ps.take q).flatMap ptB++BM 2 pg++BM 2 pa).length:=⟨_,rfl⟩;rw[<-hm4]at o4 g4 ⊢
   have hl4:(hdB h++(ps.take q).flatMap ptB++BM 2 pg++BM 2 pa).length<=33554432:=by have:=L3.out;rw[List.length_append,AW];omega
   have O4:=yH o4;have G4:=yH (G3.out.trans g4);have M4:=yH hm4;have L4:=yH hl4
   clear o4 g4 hm4 hl4;go_wp2;rw[rounds_succ];go_wp2_with fail;refine (GP (.slice a4 m4 c4) _ 2 s.size _ O4.out (by omega) L4.out).mono ?_
   rintro e w5 ⟨v5,rfl,o5,g5⟩;obtain⟨a5,c5,rfl⟩:=o5.shape;obtain⟨m5,hm5⟩:∃m5,m5=(hdB h++(ps.take q).flatMap ptB++BM 2 pg++BM 2 pa++BM 2 s.size).length:=⟨_,rfl⟩;rw[<-hm5]at o5 g5 ⊢
   have hl5:m5<=33554432:=by have:=L3.out;rw[hm5,List.length_append,List.length_append,AW,AW];omega
   have hg5:=G4.out.trans g5;have hblk:w5.heap[wr.heap.size]? = some (.cells #[.int .i64 pg,.int .i64 pa,.string s] 207 (0,0)):=by
    rw[hg5.1.block wr.heap.size (by simp) (λe=>by have:=(HLT.out _ e.symm).2;omega)]
    exact heap_alloc_new wr _
   have cs5:w5.cell? ⟨wr.heap.size,2,none⟩=some (.string s):=by rw[yC hblk];rfl
   have hown5:EZ B2 w5 (.slice a5 m5 c5) (hdB h++(ps.take q).flatMap ptB++BM 2 pg++BM 2 pa++BM 2 s.size) :=
    MY o5 (hg5.own (B:=B2) (by simp;have:=HSB.out;omega) (λk hk=>(HLT.out k hk).1))
   have hb5:Below B2 w1 w5:=hbw.out.trans (by
    have h1:Below B2 wr (wr.alloc (.cells #[.int .i64 pg,.int .i64 pa,.string s] 207)):=(Below.refl _ wr).alloc HSB.out _;exact h1.trans (hg5.below (by simp;have:=HSB.out;omega) (λk hk=>(HLT.out k hk).1)))
   have HO5:Hid (w5.ownsRow B2 5 1 (.slice a5 m5 c5) m5 (Lib.byteCells (hdB h++(ps.take q).flatMap ptB++BM 2 pg++BM 2 pa++BM 2 s.size))):=yH (by have:=hown5;unfold EZ at this;rwa [<-hm5]at this)
   have HB5:=yH hb5;have HM5:=yH hm5;have hB5:B2<=w5.heap.size:=by rw[HBE.out];exact hb5.size
   clear o5 g5 hm5 hg5 hblk hown5 hb5;obtain⟨acc,hac⟩:∃acc,acc=hdB h++(ps.take q).flatMap ptB++BM 2 pg++BM 2 pa++BM 2 s.size:=⟨_,rfl⟩;rw[<-hac]at HO5 HM5;have HAC:=yH hac;clear hac;go_wp2;rw[rounds_succ];go_wp2_with (at_builtin;refine Lib.wpList_append_own_string _ rfl _ _ 102 9 rfl B2 5 i0 Tryz.underlying102 Tryz.underlying9 hi q0 q1 q2 _ _ _ rfl HO5.out s rfl ?c1 ?c2 ?c3 ?_)
   case c1=>unfold maxLen;omega
   case c2=>omega
   case c3=>exact hB5
   intro v6 w6 hown6 hgrow6 _;obtain⟨a6,c6,rfl⟩:∃a c,v6=.slice a (m5+s.size) c:=by
    rcases hown6.2 with⟨h1,h0⟩|⟨g',cap',cur,hv,_⟩
    ·exact⟨none,0,by rw[h1,h0]⟩
    ·exact⟨_,cap',hv⟩
   have hacc:=BM3 (hdB h) (ps.take q) pg pa s;rw[<-HTK.out]at hacc;have hm5:=HM5.out;rw[<-HAC.out]at hacc;have HM6:Hid (m5+s.size=(hdB h++(ps.take (q+1)).flatMap ptB).length):=yH (by rw[hacc,BS0,<-hm5])
   have HO6:Hid (EZ B2 w6 (.slice a6 (m5+s.size) c6) (hdB h++(ps.take (q+1)).flatMap ptB)):=yH (by
    unfold EZ;rw[<-HM6.out,hacc,RT];exact hown6)
   have HB6:Hid (Below B2 w1 w6):=yH (HB5.out.trans ⟨hgrow6.os,hgrow6.tape,hgrow6.output,hgrow6.size,λi hi=>hgrow6.block i (by omega) (λe=>by have:=(HO5.out.lt i e.symm).1;omega)⟩)
   clear hown6 hgrow6 hacc hm5;go_wp2;go_roundw
   case rel=>exact⟨q+1,m5+s.size,a6,c6,by omega,by go_num,rfl,HM6,HO6,HB6⟩
   case measure=>simp[intOf];omega
  ·obtain rfl:q=n:=by omega
   have hcv:=ho.out.conv hm.out.symm;have HE:Hid (hdB h++(ps.take q).flatMap ptB=EI h ps):=yH (by rw[HN.out,List.take_length];rfl)
   have hbB:Below w.heap.size w wr:=HB1.out.trans (hbw.out.mono (by rw[HBE.out,HSZ.out];omega))
   have HBB:=yH hbB;rw[HE.out]at hcv;clear hbB;go_wp2;go_ret;exact⟨rfl,HBB.out⟩
structure FU (w:World)(r:Nat)(s:ByteArray)(sh:Bool):Prop where
 b:w.cell? ⟨r,0,none⟩=some (.string s)
 short:w.cell? ⟨r,1,none⟩=some (.bool sh)
 froz:∀j,w.frozen? ⟨r,j,none⟩=false
theorem FU.lt {w:World}{r:Nat}{s:ByteArray}{sh:Bool}(h:FU w r s sh):r<w.heap.size:=World.block_lt_of_cell? w _ h.b
theorem FU.block {w w':World}{r:Nat}{s:ByteArray}{sh:Bool}(h:FU w r s sh)(hb:w'.heap[r]? = w.heap[r]?):FU w' r s sh :=
 ⟨(World.cell?_of_block hb).trans h.b,(World.cell?_of_block hb).trans h.short,λj=>(World.frozen?_of_block hb).trans (h.froz j)⟩
theorem FU.below {w w':World}{r:Nat}{s:ByteArray}{sh:Bool}(h:FU w r s sh)(hb:Below w.heap.size w w'):FU w' r s sh:=h.block (hb.block r h.lt)
def rTk (l:List UInt8)(sh:Bool)(n:Nat):List UInt8 × List UInt8 × Bool:=if l.length<n then ([],[],true) else (l.take n,l.drop n,sh)
def J9 (r:Nat)(x:List UInt8 × Bool)(w w':World):Prop:=(∃s,FU w' r s x.2/\s.data.toList=x.1)/\AC (λk=>k=r) w w'
theorem R9 (r:Nat)(s:ByteArray)(sh:Bool)(n:Nat)(w:World)(h:FU w r s sh) :
  Calls Tryz.prog 178 #[.pointer (some ⟨r,0,none⟩),.int .i64 n] w λe w'=>∃t,e=.returned (.string t)/\t.data.toList=(rTk s.data.toList sh n).1/\J9 r (rTk s.data.toList sh n).2 w w':=by
 have c0:=h.b;have f0:=h.froz 0;have f1:=h.froz 1;have c1:=h.short;have hsl:s.data.toList.length=s.size:=rfl;by_cases hlt:s.size<n
 ·have hr:rTk s.data.toList sh n=([],[],true):=by rw[rTk,if_pos (by rw[hsl];exact hlt)]
  rw[hr];have HE:Hid (J9 r ([],true) w ((w.setCell ⟨r,0,none⟩ (.string ⟨#[]⟩)).setCell ⟨r,1,none⟩ (.bool true))):=yH ⟨⟨⟨#[]⟩,⟨by
   rw[World.cell?_setCell_other _ _ _ _ (λe=>by injection e with _ e _;omega)];exact World.cell?_setCell_same _ _ _ c0,World.cell?_setCell_same _ _ _ ((World.cell?_setCell_other w ⟨r,0,none⟩ ⟨r,1,none⟩ _ (λe=>by injection e with _ e _;omega)).trans c1),λj=>by rw[World.frozen?_setCell,World.frozen?_setCell];exact h.froz j⟩,rfl⟩,
   (AC.setCell (λk=>k=r) w (b:=r) rfl _).trans (AC.setCell (λk=>k=r) _ (b:=r) rfl _) (λ_ hi=>.inl hi)⟩
  have hgt:(s.size:Int)<n:=by omega
  clear h hr hsl;go_enter Tryz.func178,Tryz.ntmps178;go_wp2;go_ret;exact⟨⟨#[]⟩,rfl,rfl,HE.out⟩
 ·have hr:rTk s.data.toList sh n=(s.data.toList.take n,s.data.toList.drop n,sh):=by rw[rTk,if_neg (by rw[hsl];exact hlt)]
  rw[hr];have HE:Hid (∀t,t=s.extract n s.size->J9 r (s.data.toList.drop n,sh) w (w.setCell ⟨r,0,none⟩ (.string t))):=yH (λt ht=>⟨⟨t,⟨World.cell?_setCell_same _ _ _ c0,(World.cell?_setCell_other _ _ _ _ (λe=>by injection e with _ e _;omega)).trans c1,λj=>by rw[World.frozen?_setCell];exact h.froz j⟩,by rw[ht];exact Lib.extract_to_end s n⟩,AC.setCell (λk=>k=r) w (b:=r) rfl _⟩)
  have HT:Hid ((s.extract 0 n).data.toList=s.data.toList.take n):=yH (by rw[Lib.extract_data];simp)
  have hge:(n:Int)<=s.size:=by omega
  clear h hr hsl;go_enter Tryz.func178,Tryz.ntmps178;go_wp2;go_ret;exact⟨_,rfl,HT.out,HE.out _ rfl⟩
theorem BP8 {a b:Int}(h:a=b):Ending.returned (.int .u64 a)=.returned (.int .u64 b):=by rw[h]
theorem BX6 (N:Nat)(b:Nat)(hN:N<72057594037927936)(hb:b<256):bits BinOp.or IntKind.u64 ((N:Int)*256) (b:Int)=((N*256+b:Nat):Int):=by
 have e:(N:Int)*256=((N*256:Nat):Int):=by omega
 rw[e,bits_or_u64_nat _ _ (by omega) (by omega)]
 have:N*256 ||| b=N*256+b:=by
  have:=Nat.shiftLeft_add_eq_or_of_lt (i:=8) (b:=b) (by omega) N
  rw[Nat.shiftLeft_eq]at this;exact this.symm
 rw[this]
theorem Z7 (r:Nat)(s:ByteArray)(sh:Bool)(k:Nat)(w:World)(h:FU w r s sh)(hk:k<=8) :
  Calls Tryz.prog 177 #[.pointer (some ⟨r,0,none⟩),.int .i64 k] w λe w'=>e=.returned (.int .u64 (v4 (rTk s.data.toList sh k).1))/\J9 r (rTk s.data.toList sh k).2 w w':=by
 have HT:=yH (R9 r s sh k w h);have hlen:(rTk s.data.toList sh k).1.length<=8:=by
  unfold rTk;split
  ·simp
  ·have:=List.length_take_le k s.data.toList;simp only;omega
 obtain⟨l,hl⟩:∃l,l=(rTk s.data.toList sh k).1:=⟨_,rfl⟩;rw[<-hl]at HT hlen ⊢
 obtain⟨x,hx⟩:∃x,x=(rTk s.data.toList sh k).2:=⟨_,rfl⟩;rw[<-hx]at HT ⊢
 clear h hl hx;go_enter Tryz.func177,Tryz.ntmps177;go_wp2_with fail;refine HT.out.mono ?_;rintro e w1 ⟨t,rfl,ht,hp⟩;obtain⟨c,W,hcv,hc,hR,hbW⟩:=B7 w1 t;rw[ht]at hR;have hts:t.size=l.length:=by rw[<-ht];rfl
 obtain⟨L,hL⟩:∃L,L=t.size:=⟨_,rfl⟩;rw[<-hL]at hcv hts;have HLL:=yH hts;have hL8:L<=8:=by omega
 have HE:Hid (∀n,J9 r x w (W.drewN n)):=yH (λn=>by
  have hb:=hbW.trans ((AF W n).mono hbW.size);exact⟨hp.1.imp (λ_ h=>⟨h.1.below hb,h.2⟩),hp.2.trans (AC.ofBelow (S:=λk=>k=r) hb) (λ_ hi=>.inl hi)⟩)
 have HR:=yH hR;clear hp hc hR hbW ht hts hL;go_wp2;go_loop [5,13] (λn i=>∃k:Nat,k<=L/\i=.int .i64 k/\n=.int .u64 (v4 (l.take k))) (λ_ i=>L-(intOf i).toNat)
 case atStart=>exact⟨0,by omega,rfl,rfl⟩
 case round =>
  obtain⟨k,hk,rfl,rfl⟩:=hrel;by_cases hlt:k<L
  ·have hlt2:k<l.length:=by have:=HLL.out;omega
   obtain⟨b,off,heq,_,hcc⟩:=HR.out.at (by omega)
   have hck:=hcc k hlt2;injection heq with heq
   injection heq with h1 h2 _
   subst h1;subst h2;rw[Nat.zero_add]at hck;clear hcc;have hN:v4 (l.take k)<72057594037927936:=by
    refine Nat.lt_of_lt_of_le (AZ8 _ 7 ?_) (by decide)
    have:=List.length_take_le k l
    have:=HLL.out
    omega
   have hcb:=l[k].toNat_lt;have hor:=BX6 (v4 (l.take k)) l[k].toNat hN hcb;have HS:Hid (v4 (l.take (k+1))=v4 (l.take k)*256+l[k].toNat):=yH (by rw[List.take_succ_eq_append_getElem hlt2,VY])
   have hw1:IntKind.u64.wrap ((v4 (l.take k):Int)*256)=(v4 (l.take k):Int)*256:=by rw[IntKind.wrap_u64];omega
   have hw2:IntKind.u64.wrap ((l[k].toNat:Nat):Int)=((l[k].toNat:Nat):Int):=by rw[IntKind.wrap_u64];omega
   have HOR:=yH hor;clear hor
   have hkL:(k:Int)<L:=by omega
   go_wp2_with fail;go_round
   case rel=>exact⟨k+1,by omega,by go_num,by rw[HS.out,HOR.out]⟩
   case measure=>simp[intOf];omega
  ·obtain rfl:k=L:=by omega
   go_wp2;go_ret;exact⟨BP8 (by rw[HLL.out,List.take_length]),HE.out 0⟩
def Hd.Len (h:Hd):Prop:=h.free.length=64/\h.roots.length=16
theorem Hd.Ok.len {h:Hd}(k:h.Ok):h.Len:=⟨k.nf,k.nr⟩
theorem Hd.zero_len:Hd.zero.Len:=⟨rfl,rfl⟩
theorem Hd.Len.cells {h:Hd}(k:h.Len):h.cells.length=81:=by simp[Hd.cells,k.1,k.2]
theorem Hd.Len.setCount {h:Hd}(k:h.Len)(n:Nat):(h.setCount n).Len:=k
theorem Hd.Len.setRoot {h:Hd}(k:h.Len)(i n:Nat):(h.setRoot i n).Len:=⟨k.1,by simp[Hd.setRoot,k.2]⟩
theorem Hd.Len.setWord {h:Hd}(k:h.Len)(i n:Nat):(h.setWord i n).Len:=⟨by simp[Hd.setWord,k.1],k.2⟩
theorem Hd.Len.cells_setWord {h:Hd}(k:h.Len){i:Nat}(hi:i<64)(x:Nat):(h.setWord i x).cells=h.cells.set (1+i) (.int .u64 (x:Int)):=by
 rw[show 1+i=i+1 by omega]
 simp only[Hd.setWord,Hd.cells,List.set_cons_succ];rw[List.set_append_left _ _ (by simp[k.1];omega),List.map_set]
theorem Hd.Len.cells_setRoot {h:Hd}(k:h.Len){i:Nat}(x:Nat):(h.setRoot i x).cells=h.cells.set (65+i) (.int .i64 (x:Int)):=by
 rw[show 65+i=(64+i)+1 by omega]
 simp only[Hd.setRoot,Hd.cells,List.set_cons_succ];rw[List.set_append_right _ _ (by simp[k.1]),List.map_set]
 simp[k.1]
def BY (w:World)(b:Nat)(h:Hd):Prop:=DJ w b 0 h/\∀j,w.frozen? ⟨b,j,none⟩=false
theorem BY.block {w w':World}{b:Nat}{h:Hd}(x:BY w b h)(hb:w'.heap[b]? = w.heap[b]?):BY w' b h:=⟨x.1.block hb,λj=>(World.frozen?_of_block hb).trans (x.2 j)⟩
theorem BY.lt {w:World}{b:Nat}{h:Hd}(x:BY w b h):b<w.heap.size:=World.block_lt_of_cell? w _ x.1.count
theorem BY.kept {S:Nat->Prop}{w w':World}{b:Nat}{h:Hd}(x:BY w b h)(hk:AC S w w')(hb:¬S b):BY w' b h:=x.block (hk.block b x.lt hb)
theorem BY.new (w:World)(h:Hd):BY (w.alloc (.cells h.cells.toArray 37)) w.heap.size h:=by
 have hg:=heap_alloc_new w (.cells h.cells.toArray 37);exact⟨λj v hv=>by rw[Nat.zero_add,yC hg,List.getElem?_toArray];exact hv,λj=>Lib.frozen_of_heap hg _⟩
theorem BY.there {w:World}{b:Nat}{h:Hd}(x:BY w b h)(k:h.Len):w.there b 0 81:=λj hj =>
 ⟨by rw[x.1 j _ (List.getElem?_eq_getElem (by rw[k.cells];exact hj))];rfl,x.2 _⟩
theorem ER {w:World}{b o:Nat}(ht:w.there b o 81)(h:Hd)(k:h.Len):DJ (w.setCells b o h.cells) b o h/\BJ b o 81 w (w.setCells b o h.cells)/\AC (λj=>j=b) w (w.setCells b o h.cells):=by
 have hl:=k.cells;exact⟨World.rangeAt_setCells_same w b o h.cells (by rw[hl];exact ht),BJ.setCells w o _ (Nat.le_refl _) (by rw[hl];exact Nat.le_refl _),AC.setCells (λj=>j=b) w (fb:=b) rfl _⟩
theorem BY.put {w:World}{b:Nat}{h h':Hd}(x:BY w b h)(k:h.Len)(k':h'.Len):BY (w.setCells b 0 h'.cells) b h'/\AC (λj=>j=b) w (w.setCells b 0 h'.cells):=by
 obtain⟨h1,h2,h3⟩:=ER (x.there k) h' k';exact⟨⟨h1,λj=>(h2.froz j).trans (x.2 j)⟩,h3⟩
theorem EF {a:Act}{o:Oper}(ho:o.op=.alloc 37)(W:World):(execOp a.eval o).run Tryz.prog W=.ok (.value (.pointer (some ⟨W.heap.size,0,none⟩))) (W.alloc (.cells Hd.zero.cells.toArray 37)):=by
 have hz:(zeroValue 37).run Tryz.prog W=.ok (.agg Hd.zero.cells.toArray) W:=by kernel_rfl
 unfold execOp;simp only[ho,Instr.alloc,Sem.run_bind,hz,Result.andThen_ok];simp[go_sem]
theorem OK:Tryz.prog.built 37 []=some Hd.zero.cells.toArray:=by kernel_rfl
theorem AE8 (c:Int):Tryz.prog.built 37 [(0,.int .i64 c)]=some (.int .i64 c::Hd.zero.cells.tail).toArray:=by kernel_rfl
theorem Hd.zero_count (c:Nat):(Hd.zero.setCount c).cells=.int .i64 (c:Int)::Hd.zero.cells.tail:=rfl
theorem Hd.all_one (h:Hd):h.cells.toArray.all (·.oneCell')=true:=all_oneCell_toArray h.one
theorem Hd.Len.size {h:Hd}(k:h.Len):(Tryz.prog.info? 37).map (·.size)=some h.cells.toArray.size:=by rw[List.size_toArray,k.cells];exact NN
theorem Hd.Len.size' {h:Hd}(k:h.Len):(Tryz.prog.info? 37).map (·.size)=some h.cells.length:=by rw[k.cells];exact NN
theorem MP {fn:Func}{p:Tmp}(h:fn.results=#[.cell p 37])(tmps:Array Value)(w:World)(g:Nat)(hh:Hd)(k:hh.Len)(hp:tmps.getD p undef=.pointer (some ⟨g,0,none⟩))(hg:DJ w g 0 hh) :
  (results fn tmps).run Tryz.prog w=.ok (.agg hh.cells.toArray) w:=by
 have hp':tmps[p]?.getD undef=.pointer (some ⟨g,0,none⟩):=by simpa using hp
 simp[results,h,hp',asAddr,run_loadVar_mid (P:=Tryz.prog) w g 0 37 hh.cells _ hg Tryz.underlying37 rfl k.size']
theorem BY.cell {w:World}{b:Nat}{h:Hd}(x:BY w b h)(k:h.Len){i:Nat}(hi:i<81):∃v,w.cell? ⟨b,i,none⟩=some v:=by
 have:=x.1 i _ (List.getElem?_eq_getElem (by rw[k.cells];exact hi))
 rw[Nat.zero_add]at this;exact⟨_,this⟩
theorem BY.setAt {w:World}{b:Nat}{h h':Hd}(x:BY w b h)(k:h.Len){i:Nat}{v:Value}(hi:i<81)(he:h'.cells=h.cells.set i v):BY (w.setCell ⟨b,i,none⟩ v) b h'/\AC (λj=>j=b) w (w.setCell ⟨b,i,none⟩ v):=by
 have:=x.1.set (h':=h') (i:=i) (v:=v) (by rw[k.cells];exact hi) he
 rw[Nat.zero_add]at this;exact⟨⟨this,λj=>by rw[World.frozen?_setCell];exact x.2 j⟩,AC.setCell (λj=>j=b) w (b:=b) rfl _⟩
theorem AR0 (b o:Nat)(h:Hd)(w:World)(a:DJ w b o h)(hcnt:h.count<4096) :
  Calls Tryz.prog 149 #[.pointer (some ⟨b,o,none⟩)] w λe w'=>e=.returned (.int .i64 ((h.count / 64+1:Nat):Int))/\w'=w:=by
 have hc:=a.count;obtain⟨c,hce⟩:∃c,c=h.count:=⟨_,rfl⟩;rw[<-hce]at hc hcnt ⊢
 clear a hce;go_enter Tryz.func149,Tryz.ntmps149;go_wp2;go_ret;exact⟨AO0 (by omega),rfl⟩
def CF (x:List UInt8 × Bool)(k:Nat):Nat × (List UInt8 × Bool):=(v4 (rTk x.1 x.2 k).1,(rTk x.1 x.2 k).2)
def DY:Nat->Hd × (List UInt8 × Bool)->Hd × (List UInt8 × Bool)
 | 0,y=>y
 | k+1,y=>((DY k y).1.setRoot k (CF (DY k y).2 4).1,(CF (DY k y).2 4).2)
def EJ:Nat->Hd × (List UInt8 × Bool)->Hd × (List UInt8 × Bool)
 | 0,y=>y
 | k+1,y=>((EJ k y).1.setWord k (CF (EJ k y).2 8).1,(CF (EJ k y).2 8).2)
def rHd (x:List UInt8 × Bool):Hd × (List UInt8 × Bool) :=
 if 4096<=(CF x 2).1 then (Hd.zero,((CF x 2).2.1,true))
 else EJ ((CF x 2).1 / 64+1) (DY 16 (Hd.zero.setCount (CF x 2).1,(CF x 2).2))
theorem IQ (y:Hd × (List UInt8 × Bool))(h:y.1.Len):∀k,(DY k y).1.Len
 | 0=>h
 | k+1=>(IQ y h k).setRoot _ _
theorem MR (y:Hd × (List UInt8 × Bool)):∀k,(DY k y).1.count=y.1.count
 | 0=>rfl
 | k+1=>MR y k
theorem LX (y:Hd × (List UInt8 × Bool))(h:y.1.Len):∀k,(EJ k y).1.Len
 | 0=>h
 | k+1=>(LX y h k).setWord _ _
theorem OW (x:List UInt8 × Bool):(rHd x).1.Len:=by
 unfold rHd;split
 ·exact Hd.zero_len
 ·exact LX _ (IQ _ (Hd.zero_len.setCount _) _) _
theorem AI6 (l:List UInt8)(sh:Bool)(n:Nat):(rTk l sh n).1.length<=n:=by
 unfold rTk;split
 ·simp
 ·exact List.length_take_le _ _
theorem MS (x:List UInt8 × Bool)(k:Nat):(CF x k).1<256 ^ k:=AZ8 _ k (AI6 _ _ _)
def CE (w:World)(r:Nat)(x:List UInt8 × Bool):Prop:=∃s,FU w r s x.2/\s.data.toList=x.1
theorem CE.block {w w':World}{r:Nat}{x:List UInt8 × Bool}(h:CE w r x)(hb:w'.heap[r]? = w.heap[r]?):CE w' r x:=h.imp λ_ k=>⟨k.1.block hb,k.2⟩
theorem CE.lt {w:World}{r:Nat}{x:List UInt8 × Bool}(h:CE w r x):r<w.heap.size:=h.elim λ_ k=>k.1.lt
theorem FZ (r:Nat)(x:List UInt8 × Bool)(k:Nat)(w:World)(h:CE w r x)(hk:k<=8) :
  Calls Tryz.prog 177 #[.pointer (some ⟨r,0,none⟩),.int .i64 k] w λe w'=>e=.returned (.int .u64 (CF x k).1)/\CE w' r (CF x k).2/\AC (λj=>j=r) w w':=by
 obtain⟨s,h1,h2⟩:=h;obtain⟨l,sh⟩:=x;simp only at h1 h2;subst h2;exact (Z7 r s sh k w h1 hk).mono λe w' ⟨g1,g2⟩=>⟨g1,g2.1,g2.2⟩
theorem SJ (r:Nat)(x:List UInt8 × Bool)(w:World)(h:CE w r x) :
  Calls Tryz.prog 133 #[.pointer (some ⟨r,0,none⟩)] w λe w'=>e=.returned (.agg (rHd x).1.cells.toArray)/\CE w' r (rHd x).2/\AC (λj=>j=r) w w':=by
 obtain⟨Z,hZ⟩:∃Z:Array Value,Z=Hd.zero.cells.toArray:=⟨_,rfl⟩;have hex:∀(a:Act) (o:Oper) (_:o.op=.alloc 37) (W:World),(execOp a.eval o).run Tryz.prog W=.ok (.value (.pointer (some ⟨W.heap.size,0,none⟩))) (W.alloc (.cells Z 37)):=by rw[hZ];exact λ_ _ ho W=>EF ho W
 have HEX:=yH hex;have hrl:=h.lt;obtain⟨w0,hw0⟩:∃w0,w0=w.alloc (.cells Z 37):=⟨_,rfl⟩;have hv0:BY w0 w.heap.size Hd.zero:=by rw[hw0,hZ];exact BY.new w Hd.zero
 have hr0:CE w0 r x:=by rw[hw0];exact h.block (Below.heap_alloc _ _ _ hrl)
 have hs0:w0.heap.size=w.heap.size+1:=by rw[hw0];simp
 have HB0:Hid (Below w.heap.size w w0):=yH (by rw[hw0];exact (Below.refl _ _).alloc (Nat.le_refl _) _)
 have HNUM:=yH (FZ r x 2 w0 hr0 (by omega))
 obtain⟨c,hc⟩:∃c,c=(CF x 2).1:=⟨_,rfl⟩;obtain⟨x1,hx1⟩:∃x1,x1=(CF x 2).2:=⟨_,rfl⟩;have hclt:c<65536:=by rw[hc];exact MS x 2
 rw[<-hc,<-hx1]at HNUM;have HW0:=yH hw0;rw[hw0]at HNUM;have hwc:IntKind.i64.wrap (c:Int)=(c:Int):=IntWalk.i64_in _ (by omega)
 have HC:=yH hc;have HX1:=yH hx1;have HV0:=yH hv0;have HS0:=yH hs0;have HZ:=yH hZ
 obtain⟨X1,hX1⟩:∃X1:Array Value,X1=(Hd.zero.setCount c).cells.toArray:=⟨_,rfl⟩;have HBT:=yH (AE8 (c:Int));rw[<-Hd.zero_count,<-hX1]at HBT;have HX1E:=yH hX1;have HI1:Hid ((Tryz.prog.info? 37).map (·.size)=some X1.size):=yH (by rw[hX1];exact (Hd.zero_len.setCount c).size)
 have HO1:Hid (X1.all (·.oneCell')=true):=yH (by rw[hX1];exact Hd.all_one _)
 have HT1:Hid (∀W:World,(W.alloc (.cells Z 37)).there W.heap.size 0 X1.size):=yH (λW=>by
  have:=(BY.new W Hd.zero).there Hd.zero_len
  rw[<-hZ]at this;have e:X1.size=81:=by rw[hX1,List.size_toArray,(Hd.zero_len.setCount c).cells]
  rw[e];exact this)
 clear hex hw0 hv0 hr0 hs0 hc hx1 hX1 h hZ;go_enter Tryz.func133,Tryz.ntmps133;go_wp2_with (refine BK rfl _ (HEX.out _ _ rfl _) ?_)
 refine HNUM.out.mono ?_;rintro e w1 ⟨rfl,hr1,hk1⟩;rw[<-HW0.out]at hk1;obtain⟨b3,hb3⟩:∃b3,b3=w1.heap.size:=⟨_,rfl⟩;obtain⟨w2,hw2⟩:∃w2,w2=(w1.alloc (.cells Z 37)).setCells b3 0 X1.toList:=⟨_,rfl⟩;have hv1:BY (w1.alloc (.cells Z 37)) b3 Hd.zero:=by rw[HZ.out,hb3];exact BY.new w1 Hd.zero
 obtain⟨hv2,hk2⟩:BY w2 b3 (Hd.zero.setCount c)/\AC (λj=>j=b3) (w1.alloc (.cells Z 37)) w2:=by
  have:=hv1.put Hd.zero_len (Hd.zero_len.setCount c)
  rw[hw2,HX1E.out,List.toList_toArray];exact this
 have hrl1:=hr1.lt;have hk12:AC (λj=>j=r) w0 w2:=(hk1.trans (AC.ofBelow (S:=λj=>j=r) ((Below.refl _ w1).alloc (Nat.le_refl _) _)) (λ_ hi=>.inl hi)).trans hk2 (λi hi=>.inr (by have:=hk1.size;omega))
 have hr2:CE w2 r x1:=(hr1.block (Below.heap_alloc _ _ _ hrl1)).block (hk2.block r (by simp;omega) (by omega))
 have hlt3:b3<w2.heap.size:=hv2.lt;have cc:=hv2.1.count;have HW2:Hid ((w1.alloc (.cells Z 37)).setCells w1.heap.size 0 X1.toList=w2):=yH (by rw[hw2,hb3])
 have cc':w2.cell? ⟨w1.heap.size,0,none⟩=some (.int .i64 c):=by rw[<-hb3];exact cc
 have HR2:=yH hr2;have HK2:=yH hk12;have HV2:=yH hv2;have HB3:=yH hb3;have HL3:=yH hlt3
 have hb30:w0.heap.size<=b3:=by rw[hb3];exact hk1.size
 have HB30:=yH hb30;clear hr1 hk1 hv1 hv2 hk2 hrl1 hk12 hr2 hlt3 cc hw2 hb3 hb30;by_cases hbig:4096<=c
 ·have hsm:decide ((4096:Int)<=c)=true:=decide_eq_true (by omega)
  have hsm1:decide (4096<=c)=true:=decide_eq_true (by omega)
  have hfx:rHd x=(Hd.zero,(x1.1,true)):=by
   unfold rHd;rw[<-HC.out,if_pos hbig,<-HX1.out]
  obtain⟨s,hs,hsl⟩:=HR2.out;have k1:=hs.short;have z1:=hs.froz 1;have hr3:CE (w2.setCell ⟨r,1,none⟩ (.bool true)) r (x1.1,true):=⟨s,⟨(World.cell?_setCell_other w2 ⟨r,1,none⟩ ⟨r,0,none⟩ _ (λe=>by injection e with _ e _;omega)).trans hs.b,World.cell?_setCell_same _ _ _ k1,λj=>by rw[World.frozen?_setCell];exact hs.froz j⟩,hsl⟩
  have hw00:w.heap.size<w0.heap.size:=by have:=HS0.out;omega
  have hne3:r≠w.heap.size:=by omega
  have hvr:BY (w2.setCell ⟨r,1,none⟩ (.bool true)) w.heap.size Hd.zero:=(HV0.out.kept HK2.out (by omega)).block (Below.heap_setCell _ _ _ _ (λe=>hne3 e.symm))
  obtain⟨hv7,hk7⟩:=hvr.put Hd.zero_len Hd.zero_len;have HE:Hid (DJ ((w2.setCell ⟨r,1,none⟩ (.bool true)).setCells w.heap.size 0 Hd.zero.cells) w.heap.size 0 Hd.zero/\CE ((w2.setCell ⟨r,1,none⟩ (.bool true)).setCells w.heap.size 0 Hd.zero.cells) r (x1.1,true)/\AC (λj=>j=r) w ((w2.setCell ⟨r,1,none⟩ (.bool true)).setCells w.heap.size 0 Hd.zero.cells)):=yH
   ⟨hv7.1,hr3.block (hk7.block r (by simpa using HR2.out.lt) hne3),(((AC.ofBelow (S:=λj=>j=r) HB0.out).trans HK2.out (λ_ hi=>.inl hi)).trans (AC.setCell (λj=>j=r) w2 (b:=r) rfl _) (λ_ hi=>.inl hi)).trans hk7 (λi hi=>.inr (by omega))⟩
  have HTH:Hid ((w2.setCell ⟨r,1,none⟩ (.bool true)).there w.heap.size 0 Z.size):=yH (by
   have e:Z.size=81:=by rw[HZ.out,List.size_toArray,Hd.zero_len.cells]
   rw[e];exact hvr.there Hd.zero_len)
  have hs2:=Hd.zero_len.size;have ha1:=Hd.all_one Hd.zero;have hb0:=OK;rw[<-HZ.out]at hs2 ha1 hb0;have hZl:Z.toList=Hd.zero.cells:=by rw[HZ.out,List.toList_toArray]
  have HS2:=yH hs2;have HA1:=yH ha1;have HB00:=yH hb0;have HFX:=yH hfx;have HZL:=yH hZl
  clear hfx hs hsl hr3 hw00 hne3 hvr hv7 hk7 hs2 ha1 hb0 hZl;go_wp2_with (first
   | (refine BK rfl _ (CT rfl [(0,.int .i64 c)] (by simp[go_sem]) X1 HBT.out w1) ?_)
   | (refine BK rfl _ (HEX.out _ _ rfl _) ?_)
   | (refine wpList_store_mid rfl 37 _ _ rfl w1.heap.size 0 X1 (by rfl) (by rfl) (HT1.out w1) HI1.out HO1.out ?_;rw[HW2.out])
   | (refine BK rfl _ (CT rfl [] (by simp[go_sem]) Z HB00.out _) ?_)
   | (refine wpList_store_mid rfl 37 _ _ rfl w.heap.size 0 Z (by rfl) (by rfl) HTH.out HS2.out HA1.out ?_;rw[HZL.out]))
  refine bodyPost_ret (v:=.agg Hd.zero.cells.toArray) (MP Tryz.results133 _ _ w.heap.size Hd.zero Hd.zero_len (by rfl) HE.out.1) rfl ⟨by rw[HFX.out],by rw[HFX.out];exact HE.out.2⟩
 ·have hsm:decide ((4096:Int)<=c)=false:=decide_eq_false (by omega)
  have hsm1:decide (4096<=c)=false:=decide_eq_false (by omega)
  obtain⟨y,hy⟩:∃y,y=(Hd.zero.setCount c,x1):=⟨_,rfl⟩;have hylen:y.1.Len:=by rw[hy];exact Hd.zero_len.setCount c
  have HY0:Hid (y.1.count=c):=yH (by rw[hy];rfl)
  have HR2':Hid (CE w2 r y.2):=yH (by rw[hy];exact HR2.out)
  have HV2':Hid (BY w2 b3 y.1):=yH (by rw[hy];exact HV2.out)
  have HYE:=yH hy;have HYL:=yH hylen
  clear hy hylen;go_wp2_with (first
   | (refine BK rfl _ (CT rfl [(0,.int .i64 c)] (by simp[go_sem]) X1 HBT.out w1) ?_)
   | (refine BK rfl _ (HEX.out _ _ rfl _) ?_)
   | (refine wpList_store_mid rfl 37 _ _ rfl w1.heap.size 0 X1 (by rfl) (by rfl) (HT1.out w1) HI1.out HO1.out ?_;rw[HW2.out]))
  go_loopw [17] (λi wr=>∃k:Nat,k<=16/\i=.int .i64 k/\Hid (CE wr r (DY k y).2)/\Hid (BY wr b3 (DY k y).1)/\Hid (AC (λj=>j=r) w0 wr)) (λi _=>16-(intOf i).toNat)
  case atStart=>exact⟨0,by omega,rfl,HR2',HV2',HK2⟩
  case round =>
   obtain⟨k,hk,rfl,hr,hv,hkp⟩:=hrel;by_cases hlt:k<16
   ·have hn:=FZ r _ 4 wr hr.out (by omega)
    have hnl:=MS (DY k y).2 4;obtain⟨z,hz⟩:∃z,z=DY k y:=⟨_,rfl⟩;have hnx:DY (k+1) y=(z.1.setRoot k (CF z.2 4).1,(CF z.2 4).2):=by rw[hz];rfl
    rw[<-hz]at hn hnl hv;obtain⟨n,hne⟩:∃n,n=(CF z.2 4).1:=⟨_,rfl⟩;rw[<-hne]at hn hnl hnx;have HN:=yH hn;have HNX:=yH hnx
    have hzl:z.1.Len:=by rw[hz];exact IQ y HYL.out k
    have HZL:=yH hzl;have hwn:IntKind.i64.wrap (n:Int)=(n:Int):=IntWalk.i64_in _ (by omega)
    have hk16:(k:Int)<16:=by omega
    clear hn hnx hne hz hzl hr;go_wp2_with fail;refine HN.out.mono ?_;rintro e w4 ⟨rfl,hr4,hk4⟩;have hbr:b3≠r:=by have h1:=HR2.out.lt;have h2:=HB30.out;have h3:=HS0.out;omega
    have hv4:=hv.out.kept hk4 hbr;obtain⟨u,hu⟩:=hv4.cell HZL.out (show 65+k<81 by omega)
    have hf:=hv4.2 (65+k);obtain⟨hv5,hk5⟩:=hv4.setAt (h':=z.1.setRoot k n) HZL.out (show 65+k<81 by omega) (HZL.out.cells_setRoot n)
    have HV5:Hid (BY (w4.setCell ⟨b3,65+k,none⟩ (.int .i64 n)) b3 (DY (k+1) y).1):=yH (by rw[HNX.out];exact hv5)
    have HR5:Hid (CE (w4.setCell ⟨b3,65+k,none⟩ (.int .i64 n)) r (DY (k+1) y).2):=yH (by rw[HNX.out];exact hr4.block (Below.heap_setCell _ _ _ _ (λe=>hbr e.symm)))
    have HK5:Hid (AC (λj=>j=r) w0 (w4.setCell ⟨b3,65+k,none⟩ (.int .i64 n))):=yH ((hkp.out.trans hk4 (λi hi=>.inl hi)).trans hk5 (λi hi=>.inr (by have h2:=HB30.out;omega)))
    rw[HB3.out]at hu hf HV5 HR5 HK5;clear hr4 hk4 hbr hv4 hv5 hk5;go_wp2;go_roundw
    case rel=>exact⟨k+1,by omega,by go_num,HR5,by rw[HB3.out];exact HV5,HK5⟩
    case measure=>simp[intOf];omega
   ·have hge:¬((k:Int)<16):=by omega
    obtain⟨y2,hy2⟩:∃y2,y2=DY 16 y:=⟨_,rfl⟩;have hk16:k=16:=by omega
    have hr2:=hr.out;have hv2:=hv.out;rw[hk16,<-hy2]at hr2 hv2;have hyl2:y2.1.Len:=by rw[hy2];exact IQ y HYL.out 16
    have hyc2:y2.1.count=c:=by rw[hy2,MR];exact HY0.out
    have HYL2:=yH hyl2;have HYC2:=yH hyc2;have HY2:=yH hy2
    obtain⟨n,hn⟩:∃n,n=c / 64+1:=⟨_,rfl⟩;have hn64:n<=64:=by omega
    have HNE:=yH hn;have hwd:=AR0 b3 0 y2.1 wr hv2.1 (by rw[hyc2];omega)
    rw[hyc2,<-hn,HB3.out]at hwd;have HWD:=yH hwd;have hsl:=λW=>JS W w1.heap.size 1 n hn64
    have HR3:=yH hr2;have HV3:=yH hv2
    clear hlt hk16 hr2 hv2 hyl2 hyc2 hy2 hn hwd hr hv hk;go_wp2_with fail;refine HWD.out.mono ?_;rintro e w5 ⟨rfl,hw⟩;subst w5;go_wp2;go_loopw [31] (λi wr=>∃k:Nat,k<=n/\i=.int .i64 k/\Hid (CE wr r (EJ k y2).2)/\Hid (BY wr b3 (EJ k y2).1)/\Hid (AC (λj=>j=r) w0 wr)) (λi _=>n-(intOf i).toNat)
    case atStart=>exact⟨0,by omega,rfl,HR3,HV3,hkp⟩
    case round =>
     obtain⟨k,hk,rfl,hr,hv,hkp⟩:=hrel;by_cases hlt:k<n
     ·have hnn:=FZ r _ 8 wr hr.out (by omega)
      obtain⟨z,hz⟩:∃z,z=EJ k y2:=⟨_,rfl⟩;have hnx:EJ (k+1) y2=(z.1.setWord k (CF z.2 8).1,(CF z.2 8).2):=by rw[hz];rfl
      rw[<-hz]at hnn hv;obtain⟨u8,hne⟩:∃u8,u8=(CF z.2 8).1:=⟨_,rfl⟩;rw[<-hne]at hnn hnx;have HN:=yH hnn;have HNX:=yH hnx
      have hzl:z.1.Len:=by rw[hz];exact LX y2 HYL2.out k
      have HZL:=yH hzl;have hkn:(k:Int)<n:=by omega
      have hk64:(k:Int)<64:=by omega
      clear hnn hnx hne hz hzl hr;go_wp2_with fail;refine HN.out.mono ?_;rintro e w4 ⟨rfl,hr4,hk4⟩;have hbr:b3≠r:=by have h1:=HR2.out.lt;have h2:=HB30.out;have h3:=HS0.out;omega
      have hv4:=hv.out.kept hk4 hbr;obtain⟨u,hu⟩:=hv4.cell HZL.out (show 1+k<81 by omega)
      have hf:=hv4.2 (1+k);obtain⟨hv5,hk5⟩:=hv4.setAt (h':=z.1.setWord k u8) HZL.out (show 1+k<81 by omega) (HZL.out.cells_setWord (by omega) u8)
      have HV5:Hid (BY (w4.setCell ⟨b3,1+k,none⟩ (.int .u64 u8)) b3 (EJ (k+1) y2).1):=yH (by rw[HNX.out];exact hv5)
      have HR5:Hid (CE (w4.setCell ⟨b3,1+k,none⟩ (.int .u64 u8)) r (EJ (k+1) y2).2):=yH (by rw[HNX.out];exact hr4.block (Below.heap_setCell _ _ _ _ (λe=>hbr e.symm)))
      have HK5:Hid (AC (λj=>j=r) w0 (w4.setCell ⟨b3,1+k,none⟩ (.int .u64 u8))):=yH ((hkp.out.trans hk4 (λi hi=>.inl hi)).trans hk5 (λi hi=>.inr (by have h2:=HB30.out;omega)))
      rw[HB3.out]at hu hf HV5 HR5 HK5;clear hr4 hk4 hbr hv4 hv5 hk5;go_wp2;go_roundw
      case rel=>exact⟨k+1,by omega,by go_num,HR5,by rw[HB3.out];exact HV5,HK5⟩
      case measure=>simp[intOf];omega
     ·have hge2:¬((k:Int)<n):=by omega
      obtain⟨f,hf⟩:∃f,f=(rHd x).1:=⟨_,rfl⟩;have hfx:rHd x=EJ k y2:=by
       unfold rHd;rw[<-HC.out,if_neg hbig,<-HX1.out,<-HYE.out,<-HNE.out,show n=k by omega,HY2.out]
      have hv6:BY wr b3 f:=by rw[hf,hfx];exact hv.out
      have hr6:CE wr r (rHd x).2:=by rw[hfx];exact hr.out
      have hfl:f.Len:=by rw[hf];exact OW x
      have hw00:w.heap.size<w0.heap.size:=by have:=HS0.out;omega
      have hvr:BY wr w.heap.size Hd.zero:=HV0.out.kept hkp.out (by omega)
      obtain⟨hv7,hk7⟩:=hvr.put Hd.zero_len hfl;have hne3:r≠w.heap.size:=by omega
      have HE:Hid (DJ (wr.setCells w.heap.size 0 f.cells) w.heap.size 0 f/\CE (wr.setCells w.heap.size 0 f.cells) r (rHd x).2/\AC (λj=>j=r) w (wr.setCells w.heap.size 0 f.cells)):=yH ⟨hv7.1,hr6.block (hk7.block r hr6.lt hne3),((AC.ofBelow (S:=λj=>j=r) HB0.out).trans hkp.out (λ_ hi=>.inl hi)).trans hk7 (λi hi=>.inr (by omega))⟩
      have HFL:=yH hfl;have HRG:Hid (wr.rangeAt w1.heap.size 0 f.cells):=yH (by rw[<-HB3.out];exact hv6.1)
      have HTH:Hid (wr.there w.heap.size 0 f.cells.toArray.size):=yH (by
       have e:f.cells.toArray.size=81:=by rw[List.size_toArray,hfl.cells]
       rw[e];exact hvr.there Hd.zero_len)
      have HF:=yH hf;obtain⟨fc,hfc⟩:∃fc,fc=f.cells:=⟨_,rfl⟩;have hs1:=hfl.size';have hs2:=hfl.size;have ha1:=Hd.all_one f;rw[<-hfc]at hs1 hs2 ha1 HRG HTH HE;have HS1:=yH hs1;have HS2:=yH hs2;have HA1:=yH ha1;have HFC:=yH hfc
      clear hf hfx hv6 hr6 hfl hvr hv7 hk7 hne3 hfc hs1 hs2 ha1 hw00;go_wp2_with (first
       | (refine wpList_load_mid rfl 37 _ rfl w1.heap.size 0 (by rfl) fc _ HRG.out Tryz.underlying37 rfl HS1.out ?_)
       | (refine wpList_store_mid rfl 37 _ _ rfl w.heap.size 0 fc.toArray (by rfl) (by rfl) HTH.out HS2.out HA1.out ?_;rw[List.toList_toArray]))
      refine bodyPost_ret (v:=.agg f.cells.toArray) (MP Tryz.results133 _ _ w.heap.size f HFL.out (by rfl) (by have:=HE.out.1;rw[HFC.out]at this ⊢;exact this)) rfl ⟨by rw[HF.out],HE.out.2⟩
theorem BP7 (r:Nat)(x:List UInt8 × Bool)(n:Nat)(w:World)(h:CE w r x) :
  Calls Tryz.prog 178 #[.pointer (some ⟨r,0,none⟩),.int .i64 n] w λe w'=>∃t,e=.returned (.string t)/\t.data.toList=(rTk x.1 x.2 n).1/\CE w' r (rTk x.1 x.2 n).2/\AC (λj=>j=r) w w':=by
 obtain⟨s,h1,h2⟩:=h;obtain⟨l,sh⟩:=x;simp only at h1 h2;subst h2;exact (R9 r s sh n w h1).mono λe w' ⟨t,g1,g2,g3⟩=>⟨t,g1,g2,g3.1,g3.2⟩
def rPt (x:List UInt8 × Bool):(Nat × Nat × List UInt8) × (List UInt8 × Bool) :=
 let p1:=CF x 2
 let p2:=CF p1.2 2
 let p3:=CF p2.2 2
 let t:=rTk p3.2.1 p3.2.2 p3.1
 ((p1.1,p2.1,t.1),t.2)
theorem AI1 {fn:Func}{p:Tmp}(h:fn.results=#[.cell p 207])(tmps:Array Value)(w:World)(g:Nat)(cs:List Value)(k:cs.length=3)(hp:tmps.getD p undef=.pointer (some ⟨g,0,none⟩))(hg:w.rangeAt g 0 cs) :
  (results fn tmps).run Tryz.prog w=.ok (.agg cs.toArray) w:=by
 have hp':tmps[p]?.getD undef=.pointer (some ⟨g,0,none⟩):=by simpa using hp
 simp[results,h,hp',asAddr,run_loadVar_mid (P:=Tryz.prog) w g 0 207 cs _ hg Tryz.underlying207 rfl (by rw[k];kernel_rfl)]
theorem BX1 (W:World)(g:Nat)(u0 u1 u2 x y z:Value)(h0:W.cell? ⟨g,0,none⟩=some u0)(h1:W.cell? ⟨g,1,none⟩=some u1)(h2:W.cell? ⟨g,2,none⟩=some u2) :
  (((W.setCell ⟨g,0,none⟩ x).setCell ⟨g,1,none⟩ y).setCell ⟨g,2,none⟩ z).rangeAt g 0 [x,y,z]:=by
 have ne:∀{i j:Nat},i≠j->(⟨g,i,none⟩:Addr)≠⟨g,j,none⟩:=λh e=>by injection e with _ e _;exact h e
 have c1:(W.setCell ⟨g,0,none⟩ x).cell? ⟨g,1,none⟩=some u1:=(World.cell?_setCell_other _ _ _ _ (ne (by omega))).trans h1
 have c2:((W.setCell ⟨g,0,none⟩ x).setCell ⟨g,1,none⟩ y).cell? ⟨g,2,none⟩=some u2:=(World.cell?_setCell_other _ _ _ _ (ne (by omega))).trans ((World.cell?_setCell_other _ _ _ _ (ne (by omega))).trans h2)
 intro j v hv;have hj:j=0\/j=1\/j=2:=by have:=(List.getElem?_eq_some_iff.1 hv).1;simp at this;omega
 rw[Nat.zero_add];rcases hj with rfl|rfl|rfl
 ·simp at hv;subst hv
  exact (World.cell?_setCell_other _ _ _ _ (ne (by omega))).trans ((World.cell?_setCell_other _ _ _ _ (ne (by omega))).trans (World.cell?_setCell_same _ _ _ h0))
 ·simp at hv;subst hv
  exact (World.cell?_setCell_other _ _ _ _ (ne (by omega))).trans (World.cell?_setCell_same _ _ _ c1)
 ·simp at hv;subst hv
  exact World.cell?_setCell_same _ _ _ c2
theorem AI0 (r:Nat)(x:List UInt8 × Bool)(w:World)(h:CE w r x) :
  Calls Tryz.prog 134 #[.pointer (some ⟨r,0,none⟩)] w λe w'=>∃t:ByteArray,e=.returned (.agg #[.int .i64 (rPt x).1.1,.int .i64 (rPt x).1.2.1,.string t])/\t.data.toList=(rPt x).1.2.2/\CE w' r (rPt x).2/\AC (λj=>j=r) w w':=by
 have hrl:=h.lt;obtain⟨w0,hw0⟩:∃w0,w0=w.alloc (.cells #[.int .i64 0,.int .i64 0,.string ⟨#[]⟩] 207):=⟨_,rfl⟩;have hr0:CE w0 r x:=by rw[hw0];exact h.block (Below.heap_alloc _ _ _ hrl)
 have hg0:w0.heap[w.heap.size]? = some (.cells #[.int .i64 0,.int .i64 0,.string ⟨#[]⟩] 207 (0,0)):=by rw[hw0];exact heap_alloc_new w _
 have hb0:Below w.heap.size w w0:=by rw[hw0];exact (Below.refl _ _).alloc (Nat.le_refl _) _
 have hs0:w0.heap.size=w.heap.size+1:=by rw[hw0];simp
 have HN1:=yH (FZ r x 2 w0 hr0 (by omega))
 rw[hw0]at HN1;obtain⟨n1,hn1⟩:∃n,n=(CF x 2).1:=⟨_,rfl⟩;obtain⟨x1,hx1⟩:∃y,y=(CF x 2).2:=⟨_,rfl⟩;obtain⟨n2,hn2⟩:∃n,n=(CF x1 2).1:=⟨_,rfl⟩;obtain⟨x2,hx2⟩:∃y,y=(CF x1 2).2:=⟨_,rfl⟩;obtain⟨n3,hn3⟩:∃n,n=(CF x2 2).1:=⟨_,rfl⟩;obtain⟨x3,hx3⟩:∃y,y=(CF x2 2).2:=⟨_,rfl⟩;have l1:n1<65536:=by rw[hn1];exact MS x 2
 have l2:n2<65536:=by rw[hn2];exact MS x1 2
 have l3:n3<65536:=by rw[hn3];exact MS x2 2
 have hpt:rPt x=((n1,n2,(rTk x3.1 x3.2 n3).1),(rTk x3.1 x3.2 n3).2):=by
  unfold rPt;simp only
  rw[<-hx1,<-hx2,<-hx3,<-hn1,<-hn2,<-hn3]
 rw[hpt];rw[<-hn1,<-hx1]at HN1;have HX2:Hid (n2=(CF x1 2).1/\x2=(CF x1 2).2/\n3=(CF x2 2).1/\x3=(CF x2 2).2):=yH ⟨hn2,hx2,hn3,hx3⟩;have v1:IntKind.i64.wrap (n1:Int)=(n1:Int):=IntWalk.i64_in _ (by omega)
 have v2:IntKind.i64.wrap (n2:Int)=(n2:Int):=IntWalk.i64_in _ (by omega)
 have v3:IntKind.i64.wrap (n3:Int)=(n3:Int):=IntWalk.i64_in _ (by omega)
 have HW0:=yH hw0;have HG0:=yH hg0;have HB0:=yH hb0;have HS0:=yH hs0
 clear h hw0 hr0 hg0 hb0 hs0 hn1 hx1 hn2 hx2 hn3 hx3 hpt;go_enter Tryz.func134,Tryz.ntmps134;go_wp2_with fail;refine HN1.out.mono ?_;rintro e w1 ⟨rfl,hr1,hk1⟩;rw[<-HW0.out]at hk1;have hn:=FZ r x1 2 w1 hr1 (by omega)
 rw[<-HX2.out.1,<-HX2.out.2.1]at hn;have HN2:=yH hn;have HK1:=yH hk1;clear hn hr1 hk1;go_wp2_with fail;refine HN2.out.mono ?_;rintro e w2 ⟨rfl,hr2,hk2⟩;have hk02:=HK1.out.trans hk2 (λ_ hi=>.inl hi)
 have hk2s:=yH hk2.size;have hrl2:=hr2.lt;obtain⟨w3,hw3⟩:∃w3,w3=w2.alloc (.cells #[.int .i64 n1,.int .i64 n2,.string ⟨#[]⟩] 207):=⟨_,rfl⟩;have hr3:CE w3 r x2:=by rw[hw3];exact hr2.block (Below.heap_alloc _ _ _ hrl2)
 have hg3:w3.heap[w2.heap.size]? = some (.cells #[.int .i64 n1,.int .i64 n2,.string ⟨#[]⟩] 207 (0,0)):=by rw[hw3];exact heap_alloc_new w2 _
 have hk03:AC (λj=>j=r) w0 w3:=hk02.trans (AC.ofBelow (S:=λj=>j=r) (by rw[hw3];exact (Below.refl _ _).alloc (Nat.le_refl _) _)) (λ_ hi=>.inl hi)
 have hn:=FZ r x2 2 w3 hr3 (by omega)
 rw[<-HX2.out.2.2.1,<-HX2.out.2.2.2,hw3]at hn;have HN3:=yH hn;have HW3:=yH hw3;have HG3:=yH hg3;have HK3:=yH hk03;have HRL2:=yH hrl2
 clear hn hk2 hk02 hr2 hrl2 hw3 hr3 hg3 hk03;go_wp2_with fail;refine HN3.out.mono ?_;rintro e w4 ⟨rfl,hr4,hk4⟩;rw[<-HW3.out]at hk4;have HT:=yH (BP7 r x3 n3 w4 hr4);have HK4:=yH hk4;clear hr4 hk4;go_wp2_with fail;refine HT.out.mono ?_;rintro e w5 ⟨t,rfl,ht,hr5,hk5⟩;have hk35:=HK4.out.trans hk5 (λ_ hi=>.inl hi)
 have h2r:w2.heap.size≠r:=by have:=HRL2.out;omega
 have hg5:w5.heap[w2.heap.size]? = some (.cells #[.int .i64 n1,.int .i64 n2,.string ⟨#[]⟩] 207 (0,0)):=(hk35.block w2.heap.size (by rw[HW3.out];simp) h2r).trans HG3.out
 have hk05:=HK3.out.trans hk35 (λ_ hi=>.inl hi)
 have hwr:w.heap.size≠r:=by omega
 have hg50:w5.heap[w.heap.size]? = some (.cells #[.int .i64 0,.int .i64 0,.string ⟨#[]⟩] 207 (0,0)):=(hk05.block w.heap.size (by have:=HS0.out;omega) hwr).trans HG0.out
 have hAR:¬w2.heap.size=w.heap.size:=by
  have h1:=HK3.out.size;have h2:=HK1.out.size;have h3:=HS0.out;have h4:=hk2s.out;omega
 have hRA:¬w.heap.size=w2.heap.size:=λe=>hAR e.symm
 have a0:w5.cell? ⟨w2.heap.size,0,none⟩=some (.int .i64 n1):=by rw[yC hg5];rfl
 have a1:w5.cell? ⟨w2.heap.size,1,none⟩=some (.int .i64 n2):=by rw[yC hg5];rfl
 have a2:w5.cell? ⟨w2.heap.size,2,none⟩=some (.string ⟨#[]⟩):=by rw[yC hg5];rfl
 have f2:w5.frozen? ⟨w2.heap.size,2,none⟩=false:=Lib.frozen_of_heap hg5 _;have b0:w5.cell? ⟨w.heap.size,0,none⟩=some (.int .i64 0):=by rw[yC hg50];rfl
 have b1:w5.cell? ⟨w.heap.size,1,none⟩=some (.int .i64 0):=by rw[yC hg50];rfl
 have b2:w5.cell? ⟨w.heap.size,2,none⟩=some (.string ⟨#[]⟩):=by rw[yC hg50];rfl
 have e0:w5.frozen? ⟨w.heap.size,0,none⟩=false:=Lib.frozen_of_heap hg50 _;have e1:w5.frozen? ⟨w.heap.size,1,none⟩=false:=Lib.frozen_of_heap hg50 _;have e2:w5.frozen? ⟨w.heap.size,2,none⟩=false:=Lib.frozen_of_heap hg50 _;have HE:Hid (CE ((((w5.setCell ⟨w2.heap.size,2,none⟩ (.string t)).setCell ⟨w.heap.size,0,none⟩ (.int .i64 n1)).setCell ⟨w.heap.size,1,none⟩ (.int .i64 n2)).setCell ⟨w.heap.size,2,none⟩ (.string t)) r (rTk x3.1 x3.2 n3).2 /\
   AC (λj=>j=r) w ((((w5.setCell ⟨w2.heap.size,2,none⟩ (.string t)).setCell ⟨w.heap.size,0,none⟩ (.int .i64 n1)).setCell ⟨w.heap.size,1,none⟩ (.int .i64 n2)).setCell ⟨w.heap.size,2,none⟩ (.string t))):=yH (by
  have hn1:r≠w2.heap.size:=λe=>h2r e.symm
  have hn2:r≠w.heap.size:=λe=>hwr e.symm
  refine⟨(((hr5.block (Below.heap_setCell _ _ _ _ hn1)).block (Below.heap_setCell _ _ _ _ hn2)).block (Below.heap_setCell _ _ _ _ hn2)).block (Below.heap_setCell _ _ _ _ hn2),?_⟩;have hA2:w.heap.size<=w2.heap.size:=by
   have h2:=HK1.out.size;have h3:=HS0.out;have h4:=hk2s.out;omega
  have k0:AC (λj=>j=r) w w5:=(AC.ofBelow (S:=λj=>j=r) HB0.out).trans hk05 (λ_ hi=>.inl hi)
  exact (((k0.trans (AC.setCell (λj=>j=w2.heap.size) _ (b:=w2.heap.size) rfl _) (λi hi=>.inr (by omega))).trans (AC.setCell (λj=>j=w.heap.size) _ (b:=w.heap.size) rfl _) (λi hi=>.inr (by omega))).trans (AC.setCell (λj=>j=w.heap.size) _ (b:=w.heap.size) rfl _) (λi hi=>.inr (by omega))).trans (AC.setCell (λj=>j=w.heap.size) _ (b:=w.heap.size) rfl _) (λi hi=>.inr (by omega)))
 have HTT:=yH ht;clear hk5 hk35 hg5 hk05 hg50 hr5 ht h2r hwr;go_wp2;refine bodyPost_ret (v:=.agg #[.int .i64 n1,.int .i64 n2,.string t]) ?_ rfl ⟨t,rfl,HTT.out,HE.out⟩;refine AI1 Tryz.results134 _ _ w.heap.size [.int .i64 n1,.int .i64 n2,.string t] rfl (by rfl) ?_
 have hoo:∀i,(w5.setCell ⟨w2.heap.size,2,none⟩ (.string t)).cell? ⟨w.heap.size,i,none⟩=w5.cell? ⟨w.heap.size,i,none⟩:=λi=>World.cell?_setCell_other _ _ _ _ (λe=>by injection e with e _ _;exact hAR e)
 exact BX1 _ _ _ _ _ _ _ _ ((hoo 0).trans b0) ((hoo 1).trans b1) ((hoo 2).trans b2)
end Go.Proofs.YtfbbjiidccbaiaaGreatDoor
