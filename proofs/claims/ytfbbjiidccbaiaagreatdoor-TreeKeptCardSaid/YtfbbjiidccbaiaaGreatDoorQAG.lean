/- Texts of one proof, one behind the other: SZF, SZG, PIter, SZH, PIterN, TX, TA, TB. -/
import Derived.Test.YtfbbjiidccbaiaaGreatDoorQAF
import Derived.BigQuiet
import Derived.Deep.RegionHeld3
import Derived.Lib.SmallJoins
import Derived.Shelf.SlIterI.Nil
import Derived.Test.YtfbbjiidccbaiaaGreatDoorProg
import Derived.Test.YtfbbjiidccbaiaaGreatDoorQAC
import Derived.Test.YtfbbjiidccbaiaaGreatDoorQAA
set_option maxRecDepth 100000
set_option maxHeartbeats 6400000
namespace Go.Proofs.YtfbbjiidccbaiaaGreatDoor
open Go.RowKit
def sgC (x:Nat × Nat):List Value:=[.int .i64 x.1,.int .i64 x.2]
def OS (B:Nat)(w:World)(v:Value)(l:List (Nat × Nat)):Prop:=w.ownsRow B 216 2 v l.length (l.flatMap sgC)
theorem BB4 (l:List (Nat × Nat)):(l.flatMap sgC).length=l.length*2:=by
 induction l with
 | nil=>rfl
 | cons x r ih=>rw[List.flatMap_cons,List.length_append,ih];simp[sgC];omega
theorem CC1 (l:List (Nat × Nat))(k:Nat)(hk:k<l.length)(j:Nat)(hj:j<2):(l.flatMap sgC)[k*2+j]? = (sgC l[k])[j]?:=by
 induction l generalizing k with
 | nil=>simp at hk
 | cons p r ih =>
  rw[List.flatMap_cons];have hl:(sgC p).length=2:=rfl;cases k with
  | zero=>rw[List.getElem?_append_left (by omega)];simp
  | succ k =>
   rw[List.getElem?_append_right (by omega),show (k+1)*2+j-(sgC p).length=k*2+j by omega,ih k (by simpa using hk)]
   rfl
theorem BW8 (l:List (Nat × Nat))(x:Nat × Nat)(t:Nat):((l++[x]).flatMap sgC).set (l.length*2+1) (.int .i64 t)=(l++[(x.1,t)]).flatMap sgC:=by
 rw[List.flatMap_append,List.flatMap_append,List.set_append_right _ _ (by rw[BB4];omega),BB4,show l.length*2+1-l.length*2=1 by omega]
 rfl
theorem OS.at {B:Nat}{w:World}{a:Option Addr}{n c:Nat}{l:List (Nat × Nat)}(h:OS B w (.slice a n c) l){k:Nat}(hk:k<l.length) :
  ∃g,a=some ⟨g,0,none⟩/\B<=g/\g<w.heap.size/\n=l.length/\w.cell? ⟨g,k*2,none⟩=some (.int .i64 l[k].1)/\w.cell? ⟨g,k*2+1,none⟩=some (.int .i64 l[k].2):=by
 rcases h.2 with⟨_,h0⟩|⟨g,cap,cur,hv,hB,hg,_⟩
 ·omega
 ·injection hv with hv hn _
  subst hv;have hc:∀j,j<2->w.cell? ⟨g,k*2+j,none⟩=(sgC l[k])[j]?:=λj hj=>by
   have:=h.cells (g:=g) rfl (k*2+j)
   cases hv:(sgC l[k])[j]? with
   | none=>have:(sgC l[k]).length=2:=rfl;rw[List.getElem?_eq_none_iff]at hv;omega
   | some u =>
    have:=this u (by rw[CC1 l k hk j hj,hv])
    rwa [A3,Nat.zero_add]at this
  exact⟨g,rfl,hB,(Array.getElem?_eq_some_iff.1 hg).1,hn,hc 0 (by omega),hc 1 (by omega)⟩
def GS (was now:List UInt8)(l:List (Nat × Nat))(i:Nat):List (Nat × Nat) :=
 if now.getD i 0=was.getD i 0 then l
 else match l.getLast? with
  | some x=>if i<=x.2+6 then l.dropLast++[(x.1,i+1)] else l++[(i,i+1)]
  | none=>l++[(i,i+1)]
def CI (was now:List UInt8):Nat->List (Nat × Nat)
 | 0=>[]
 | q+1=>GS was now (CI was now q) q
def XY (q:Nat)(l:List (Nat × Nat)):Prop:=l.length<=q/\∀x ∈ l,x.1<x.2/\x.2<=q
theorem XY.step {was now:List UInt8}{l:List (Nat × Nat)}{q:Nat}(h:XY q l):XY (q+1) (GS was now l q):=by
 have h0:XY (q+1) l:=⟨by have:=h.1;omega,λx hx=>by have:=h.2 x hx;omega⟩
 have h1:XY (q+1) (l++[(q,q+1)]):=⟨by rw[List.length_append];have:=h.1;simp;omega,λx hx=>by
  rcases List.mem_append.1 hx with hx|hx
  ·exact h0.2 x hx
  ·rw[List.mem_singleton]at hx;subst hx;simp⟩
 unfold GS;split
 ·exact h0
 ·split
  ·rename_i x hx
   split
   ·have hm:=List.mem_of_getLast? hx;refine⟨?_,λy hy=>?_⟩
    ·rw[List.length_append,List.length_dropLast];have:=h.1;have:=List.length_pos_of_mem hm;simp;omega
    ·rcases List.mem_append.1 hy with hy|hy
     ·exact h0.2 y ((List.dropLast_sublist l).subset hy)
     ·rw[List.mem_singleton]at hy;subst hy
      have:=h.2 x hm
      simp only;omega
   ·exact h1
  ·exact h1
theorem EQ (was now:List UInt8)(q:Nat):XY q (CI was now q):=by
 induction q with
 | zero=>exact⟨by simp[CI],by simp[CI]⟩
 | succ q ih=>exact ih.step
theorem BY4:(Tryz.prog.info? 216).map (λi=>(i.zero,i.size,i.bytes))=some (some (.agg #[.int .i64 0,.int .i64 0]),2,16):=by kernel_rfl
theorem OJ (l:List UInt8)(i:Nat)(hi:i<l.length):(Lib.byteCells l)[i]? = some (.int .u8 ((l.getD i 0).toNat:Int)):=by
 simp[Lib.byteCells,List.getElem?_map,List.getElem?_eq_getElem hi,List.getD_eq_getElem?_getD]
theorem Dr.at_was {w:World}{x:Dr}(h:w.rangeAt x.blk 0 x.cells)(h1:x.was.length=512){i:Nat}(hi:i<512):w.cell? ⟨x.blk,1+i,none⟩=some (.int .u8 ((x.was.getD i 0).toNat:Int)):=by
 have:=h (1+i) (.int .u8 ((x.was.getD i 0).toNat:Int)) (by
  rw[Dr.cells,show 1+i=i+1 by omega,List.getElem?_cons_succ,List.getElem?_append_left (by rw[Lib.byteCells_length];omega),OJ _ _ (by omega)])
 rwa [Nat.zero_add]at this
theorem Dr.at_now {w:World}{x:Dr}(h:w.rangeAt x.blk 0 x.cells)(h1:x.was.length=512)(h2:x.now.length=512){i:Nat}(hi:i<512):w.cell? ⟨x.blk,513+i,none⟩=some (.int .u8 ((x.now.getD i 0).toNat:Int)):=by
 have:=h (513+i) (.int .u8 ((x.now.getD i 0).toNat:Int)) (by
  rw[Dr.cells,show 513+i=(512+i)+1 by omega,List.getElem?_cons_succ,List.getElem?_append_right (by rw[Lib.byteCells_length];omega),Lib.byteCells_length,h1,show 512+i-512=i by omega,OJ _ _ (by omega)])
 rwa [Nat.zero_add]at this
theorem AE5 (x:Dr)(w:World)(hr:w.rangeAt x.blk 0 x.cells)(h1:x.was.length=512)(h2:x.now.length=512) :
  Calls Tryz.prog 141 #[x.ptr] w λe w'=>∃v,e=.returned v/\OS w.heap.size w' v (CI x.was x.now 512)/\Below w.heap.size w w':=by
 obtain⟨ip,hip,q0,q1,q2⟩:=info_parts BY4;have hlt:x.blk<w.heap.size:=World.block_lt_of_cell? w _ (hr 0 _ rfl);have HC:Hid (∀W,Below w.heap.size w W->∀i,i<512->W.cell? ⟨x.blk,1+i,none⟩=some (.int .u8 ((x.was.getD i 0).toNat:Int))/\W.cell? ⟨x.blk,513+i,none⟩=some (.int .u8 ((x.now.getD i 0).toNat:Int))):=yH (λW hb i hi=>by
  have hW:W.rangeAt x.blk 0 x.cells:=λj v hv=>(World.cell?_of_block (hb.block x.blk hlt)).trans (hr j v hv)
  exact⟨Dr.at_was hW h1 hi,Dr.at_now hW h1 h2 hi⟩)
 obtain⟨blk,fr,was,now⟩:=x;simp only[Dr.ptr]at *
 clear hr h1 h2 hlt;go_enter Tryz.func141,Tryz.ntmps141;go_wp2;go_loopw [3,6] (λv i wr=>∃(q m:Nat) (a:Option Addr) (c:Nat) (acc:List (Nat × Nat)),q<=512/\i=.int .i64 q/\v=.slice a m c/\Hid (m=acc.length/\acc=CI was now q)/\Hid (OS w.heap.size wr (.slice a m c) acc)/\Hid (Below w.heap.size w wr)) (λ_ i _=>512-(intOf i).toNat)
 case atStart=>exact⟨0,0,none,0,[],by omega,rfl,rfl,yH ⟨rfl,rfl⟩,yH ⟨rfl,.inl ⟨rfl,rfl⟩⟩,yH (Below.refl _ _)⟩
 case round =>
  obtain⟨q,m,a,c,acc,hq,rfl,rfl,hm,ho,hb⟩:=hrel;have hok:XY q acc:=by rw[hm.out.2];exact EQ _ _ _
  by_cases hlt:q<512
  ·have hqi:(q:Int)<512:=by omega
   have hq0:(0:Int)<=q:=by omega
   have hwr:IntKind.i64.wrap ((q:Int)+1)=(q:Int)+1:=IntWalk.i64_in _ (by omega)
   obtain⟨c1,c2⟩:=HC.out wr hb.out q hlt;obtain⟨y,hy⟩:∃y:Int,y=((was.getD q 0).toNat:Int):=⟨_,rfl⟩;obtain⟨z,hz⟩:∃z:Int,z=((now.getD q 0).toNat:Int):=⟨_,rfl⟩;rw[<-hy]at c1;rw[<-hz]at c2;have hyz:z=y ↔ now.getD q 0=was.getD q 0:=by
    rw[hy,hz];constructor
    ·intro e;exact UInt8.toNat_inj.1 (by omega)
    ·intro e;rw[e]
   by_cases he:now.getD q 0=was.getD q 0
   ·obtain rfl:=hyz.2 he;have hn:acc=CI was now (q+1):=by rw[hm.out.2];conv=>rhs;unfold CI;unfold GS;rw[if_pos he]
    have HM:=yH (show m=acc.length/\acc=CI was now (q+1) from⟨hm.out.1,hn⟩)
    clear hy hz hyz he hn hok hm;go_wp2;go_quiet (fail);obtain⟨W,hW⟩:∃W,W=wr.drewN nq:=⟨_,rfl⟩;rw[<-hW];have hwb:Below wr.heap.size wr W:=by rw[hW];exact⟨rfl,rfl,rfl,Nat.le_refl _,λ_ _=>rfl⟩
    have HO:=yH (show OS w.heap.size W (.slice a m c) acc from AX ho.out hwb)
    have HB:=yH (hb.out.trans (hwb.mono hb.out.size));clear hwb hW c1 c2;go_wp2;go_roundw
    case rel=>exact⟨q+1,m,a,c,acc,by omega,by simp,rfl,HM,HO,HB⟩
    case measure=>simp[intOf];omega
   ·have hstep:CI was now (q+1)=GS was now acc q:=by rw[hm.out.2];rfl
    have hzy:(z == y)=false:=by
     rw[beq_eq_false_iff_ne];intro e;exact he (hyz.1 e)
    have hzy2:decide (z=y)=false:=decide_eq_false (λe=>he (hyz.1 e))
    have hcase:(acc=[]/\m=0)\/∃(k:Nat) (l0:List (Nat × Nat)) (x:Nat × Nat),acc=l0++[x]/\l0.length=k/\m=k+1:=by
     rcases List.eq_nil_or_concat acc with h|⟨l0,x,h⟩
     ·exact .inl ⟨h,by rw[hm.out.1,h];rfl⟩
     ·rw[List.concat_eq_append]at h;exact .inr ⟨l0.length,l0,x,h,rfl,by rw[hm.out.1,h];simp⟩
    have hml:m=acc.length:=hm.out.1;rcases hcase with⟨rfl,rfl⟩|⟨k,l0,x,rfl,hk,rfl⟩
    ·have hn:CI was now (q+1)=[(q,q+1)]:=by rw[hstep];unfold GS;rw[if_neg he];rfl
     have HN:=yH hn;clear hy hz hyz he hn hok hm hstep hml;go_wp2;go_quiet (fail);obtain⟨W,hW⟩:∃W,W=wr.drewN nq:=⟨_,rfl⟩;rw[<-hW];have hwb:Below wr.heap.size wr W:=by rw[hW];exact⟨rfl,rfl,rfl,Nat.le_refl _,λ_ _=>rfl⟩
     have hO:W.ownsRow w.heap.size 216 2 (.slice a 0 c) 0 []:=AX ho.out hwb;have HO:=yH hO;have hB:=hb.out.trans (hwb.mono hb.out.size);have HB:=yH hB;have hWs:=hB.size;clear hwb hW c1 c2 hO hB ho hb;go_wp2_with (at_builtin;refine wpList_append_own _ rfl _ _ 213 rfl w.heap.size 216 ip (.agg #[.int .i64 0,.int .i64 0]) 2 16 Tryz.underlying213 hip q0 q1 q2 rfl (by decide) _ _ _ rfl (HO.out.alloc _) ⟨W.heap.size,0,none⟩ 1 1 [.int .i64 q,.int .i64 ((q:Int)+1)] rfl rfl ?c1 ?c2 ?c3 ?c4 ?c5 ?_)
     case c1 =>
      intro j u hu;have hq:j=0\/j=1:=by
       have:=(List.getElem?_eq_some_iff.1 hu).1
       simp at this;omega
      have hg:=heap_alloc_new W (.cells #[.int .i64 q,.int .i64 ((q:Int)+1)] 216);rw[A3,Nat.zero_add,yC hg];rcases hq with rfl|rfl <;> exact hu
     case c2 =>
      intro u hu;simp only[List.mem_cons,List.not_mem_nil,or_false]at hu;rcases hu with rfl|rfl <;> rfl
     case c3=>unfold maxLen;omega
     case c4=>omega
     case c5=>simp;omega
     intro v6 w6 hown6 hgrow6 _;obtain⟨a6,c6,rfl⟩:∃a c,v6=.slice a 1 c:=by
      rcases hown6.2 with⟨_,h0⟩|⟨g',cap',cur,hv,_⟩
      ·omega
      ·exact⟨_,cap',hv⟩
     have HO6:Hid (OS w.heap.size w6 (.slice a6 1 c6) [(q,q+1)]):=yH hown6;have HB6:=yH ((HB.out.alloc hWs (.cells #[.int .i64 q,.int .i64 ((q:Int)+1)] 216)).grown hgrow6 (by simp;omega) (λk hk=>(World.ownsRow.lt HO.out k hk).1))
     clear hown6 hgrow6;go_wp2;go_roundw
     case rel=>exact⟨q+1,1,a6,c6,_,by omega,by simp,rfl,yH ⟨rfl,HN.out.symm⟩,HO6,HB6⟩
     case measure=>simp[intOf];omega
    ·obtain⟨g,rfl,hBg,hgl,-,-,e1⟩:=ho.out.at (k:=k) (by rw[<-hk];simp)
     have hxk:(l0++[x])[k]'(by rw[<-hk];simp)=x:=by simp[<-hk]
     rw[hxk]at e1;have hx:=hok.2 x (by simp)
     obtain⟨t,ht⟩:∃t,t=x.2:=⟨_,rfl⟩;rw[<-ht]at e1 hx;have hlast:(l0++[x]).getLast? = some x:=by simp
     have hkq:k+1<=q:=by have:=hok.1;simp at this;omega
     have htq:(t:Int)<=q:=by omega
     have ht0:(0:Int)<=t:=by omega
     have h0k:(0:Int)<(k:Int)+1:=by omega
     have HCE:Hid (∀W,Below wr.heap.size wr W->W.cell? ⟨g,k*2+1,none⟩=some (.int .i64 t)/\W.frozen? ⟨g,k*2+1,none⟩=false):=yH (λW hb=>⟨(World.cell?_of_block (hb.block g hgl)).trans e1,(show W.ownsRow w.heap.size 216 2 (.slice (some ⟨g,0,none⟩) (k+1) c) (k+1) ((l0++[x]).flatMap sgC) from by have:=AX ho.out hb;rw[<-hml]at this;exact this).frozenAt _⟩)
     have HK:=yH hk;have HT:=yH ht;have HML:=yH hml
     by_cases hnear:q<=t+6
     ·have hn:CI was now (q+1)=l0++[(x.1,q+1)]:=by rw[hstep];unfold GS;rw[if_neg he,hlast];simp only;rw[<-ht,if_pos hnear];simp
      have hnear2:(q:Int)-t<=6:=by omega
      have hst:∀W,Below wr.heap.size wr W->OS w.heap.size (W.setCell ⟨g,k*2+1,none⟩ (.int .i64 ((q:Int)+1))) (.slice (some ⟨g,0,none⟩) (k+1) c) (l0++[(x.1,q+1)])/\Below w.heap.size w (W.setCell ⟨g,k*2+1,none⟩ (.int .i64 ((q:Int)+1))):=λW hWb=>by
       have h1:W.ownsRow w.heap.size 216 2 (.slice (some ⟨g,0,none⟩) (k+1) c) (l0++[x]).length ((l0++[x]).flatMap sgC):=AX ho.out hWb;rw[<-hml]at h1;obtain⟨h2,h3⟩:=h1.stored (k*2+1) (.int .i64 ((q:Int)+1));rw[<-hk,show ((q:Int)+1)=((q+1:Nat):Int) by simp,BW8,hk]at h2
       refine⟨?_,(hb.out.trans (hWb.mono hb.out.size)).grown h3 (by have:=hb.out.size;have:=hWb.size;omega) (λj hj=>by cases hj;exact hBg)⟩
       unfold OS;rw[show (l0++[(x.1,q+1)]).length=k+1 by simp[hk]]
       exact h2
      have HST:=yH hst;have HN:=yH hn;clear hy hz hyz he hn hok hm hstep hml hlast hxk hx ht hk hst hnear ho hb e1;go_wp2;go_quiet (fail);obtain⟨W,hW⟩:∃W,W=wr.drewN nq:=⟨_,rfl⟩;rw[<-hW];have hwb:Below wr.heap.size wr W:=by rw[hW];exact⟨rfl,rfl,rfl,Nat.le_refl _,λ_ _=>rfl⟩
      obtain⟨e1,e2⟩:=HCE.out W hwb;obtain⟨s1,s2⟩:=HST.out W hwb;have HS1:=yH s1;have HS2:=yH s2
      clear hwb hW c1 c2 s1 s2;go_wp2;go_roundw
      case rel=>exact⟨q+1,k+1,_,c,_,by omega,by simp,rfl,yH ⟨by rw[List.length_append,HK.out];rfl,HN.out.symm⟩,HS1,HS2⟩
      case measure=>simp[intOf];omega
     ·have hn:CI was now (q+1)=(l0++[x])++[(q,q+1)]:=by rw[hstep];unfold GS;rw[if_neg he,hlast];simp only;rw[<-ht,if_neg hnear]
      have hfar:(6:Int)<(q:Int)-t:=by omega
      obtain⟨acc,hacc⟩:∃acc,acc=l0++[x]:=⟨_,rfl⟩;rw[<-hacc]at hn hml ho;have HN:=yH hn;have HML:=yH hml;clear hy hz hyz he hn hok hm hstep hml hlast hxk hx ht hk hnear e1 hacc;go_wp2;go_quiet (fail);obtain⟨W,hW⟩:∃W,W=wr.drewN nq:=⟨_,rfl⟩;rw[<-hW];have hwb:Below wr.heap.size wr W:=by rw[hW];exact⟨rfl,rfl,rfl,Nat.le_refl _,λ_ _=>rfl⟩
      obtain⟨e1,e2⟩:=HCE.out W hwb;have hO:W.ownsRow w.heap.size 216 2 (.slice (some ⟨g,0,none⟩) (k+1) c) (k+1) (acc.flatMap sgC):=by
       have:=AX ho.out hwb
       rw[<-HML.out]at this;exact this
      have HO:=yH hO;have hB:=hb.out.trans (hwb.mono hb.out.size);have HB:=yH hB;have hWs:=hB.size;clear hwb hW c1 c2 hO hB ho hb;go_wp2_with (at_builtin;refine wpList_append_own _ rfl _ _ 213 rfl w.heap.size 216 ip (.agg #[.int .i64 0,.int .i64 0]) 2 16 Tryz.underlying213 hip q0 q1 q2 rfl (by decide) _ _ _ rfl (HO.out.alloc _) ⟨W.heap.size,0,none⟩ 1 1 [.int .i64 q,.int .i64 ((q:Int)+1)] rfl rfl ?c1 ?c2 ?c3 ?c4 ?c5 ?_)
      case c1 =>
       intro j u hu;have hq:j=0\/j=1:=by
        have:=(List.getElem?_eq_some_iff.1 hu).1
        simp at this;omega
       have hg:=heap_alloc_new W (.cells #[.int .i64 q,.int .i64 ((q:Int)+1)] 216);rw[A3,Nat.zero_add,yC hg];rcases hq with rfl|rfl <;> exact hu
      case c2 =>
       intro u hu;simp only[List.mem_cons,List.not_mem_nil,or_false]at hu;rcases hu with rfl|rfl <;> rfl
      case c3=>unfold maxLen;omega
      case c4=>omega
      case c5=>simp;omega
      intro v6 w6 hown6 hgrow6 _;obtain⟨a6,c6,rfl⟩:∃a c,v6=.slice a (k+1+1) c:=by
       rcases hown6.2 with⟨_,h0⟩|⟨g',cap',cur,hv,_⟩
       ·omega
       ·exact⟨_,cap',hv⟩
      have HO6:Hid (OS w.heap.size w6 (.slice a6 (k+1+1) c6) (acc++[(q,q+1)])):=yH (by
       unfold OS;rw[List.length_append,List.flatMap_append,<-HML.out];exact hown6)
      have HB6:=yH ((HB.out.alloc hWs (.cells #[.int .i64 q,.int .i64 ((q:Int)+1)] 216)).grown hgrow6 (by simp;omega) (λk hk=>(World.ownsRow.lt HO.out k hk).1))
      clear hown6 hgrow6;go_wp2;go_roundw
      case rel=>exact⟨q+1,k+1+1,a6,c6,_,by omega,by simp,rfl,yH ⟨by rw[List.length_append,<-HML.out];rfl,HN.out.symm⟩,HO6,HB6⟩
      case measure=>simp[intOf];omega
  ·have hq5:q=512:=by omega
   subst hq5;have HA:=yH hm.out.2;clear hm hok;go_wp2;go_ret;exact⟨_,rfl,by rw[<-HA.out];exact ho.out,hb.out⟩
theorem FW {ops:Array Oper}{o:Oper}{a:Act}{K:Act->World->Prop}{Q:Exit->Act->World->Prop}{E:Prop}{w w':World}(hgd:o.guard=none)(s x:Operand)(t:TypeId)
  (ho:o.op=.call { callee:=.builtin .append,args:=#[s,x],argTypes:=#[t,t] }) (sv xv v:Value) (hs:a.eval s=sv) (hx:a.eval x=xv) (hr:(Builtin.append_ #[t,t] o.type #[sv,xv]).run Tryz.prog w=.ok v w') (h:K (a.put o.dst v) w') :
  if Region.wanted o (yielded ops a.tmps)=true then Oper.wp Tryz.prog o a w K Q else E:=by
 have hw:Region.wanted o (yielded ops a.tmps)=true:=by simp[Region.wanted,hgd]
 rw[if_pos hw];unfold Oper.wp;simp[execOp,ho,resolve,invoke,builtin,hs,hx,hr,Result.andThen];rw[Oper.upon_value];exact h
theorem BX4 (l:List Pt):(l.flatMap Pt.cells).length=l.length*3:=by
 induction l with
 | nil=>rfl
 | cons x r ih=>rw[List.flatMap_cons,List.length_append,ih];simp[Pt.cells];omega
theorem Q4 (w:World)(v:Value)(ps qs:List Pt)(ad:Addr)(c:Nat)(h:BP 0 w v ps)(hc:∀j u,(qs.flatMap Pt.cells)[j]? = some u->w.cell? (ad.add j)=some u)(hl:ps.length+qs.length<=4194304)(ty:TypeId) :
  ∃v' w',(Builtin.append_ #[116,116] ty #[v,.slice (some ad) qs.length c]).run Tryz.prog w=.ok v' w'/\BP 0 w' v' (ps++qs)/\C3 w w' v v':=by
 obtain⟨i0,hi,q0,q1,q2⟩:=info_parts AK6;obtain⟨v',w',hr,h1,h2⟩:=DZ w 116 ty 207 i0 (.agg #[.int .i64 0,.int .i64 0,.string ⟨#[]⟩]) 3 32 Tryz.underlying116 hi q0 q1 q2 rfl (by decide) v ps.length (ps.flatMap Pt.cells) h ad qs.length c (qs.flatMap Pt.cells) (BX4 qs) hc (λu hu=>by
  obtain⟨p,_,hu⟩:=List.mem_flatMap.1 hu;simp only[Pt.cells,List.mem_cons,List.not_mem_nil,or_false]at hu;rcases hu with rfl|rfl|rfl <;> rfl) (by unfold maxLen;omega) (by omega) (by omega)
 refine⟨v',w',hr,?_,h2⟩;rw[BP,List.flatMap_append,List.length_append];exact h1
theorem Q5 (w:World)(v:Value)(ps:List Pt)(p:Pt)(ad:Addr)(c:Nat)(h:BP 0 w v ps)(hc:∀j u,p.cells[j]? = some u->w.cell? (ad.add j)=some u)(hl:ps.length<4194304)(ty:TypeId) :
  ∃a' c' w',(Builtin.append_ #[116,116] ty #[v,.slice (some ad) 1 c]).run Tryz.prog w=.ok (.slice a' (ps.length+1) c') w'/\BP 0 w' (.slice a' (ps.length+1) c') (ps++[p])/\C3 w w' v (.slice a' (ps.length+1) c'):=by
 obtain⟨v',w',h1,h2,h3⟩:=Q4 w v ps [p] ad c h (by simpa using hc) (by simp;omega) ty
 obtain⟨a',c',hv⟩:=h2.shape;rw[List.length_append]at hv;subst hv;exact⟨a',c',w',h1,h2,h3⟩
theorem AF4 (w:World)(v u:Value)(ps qs:List Pt)(B:Nat)(h:BP 0 w v ps)(hu:BP B w u qs)(hl:ps.length+qs.length<=4194304)(ty:TypeId) :
  ∃v' w',(Builtin.append_ #[116,116] ty #[v,u]).run Tryz.prog w=.ok v' w'/\BP 0 w' v' (ps++qs)/\C3 w w' v v':=by
 rcases hu.2 with⟨rfl,h0⟩|⟨g,cap,cur,rfl,hB,hg,_⟩
 ·obtain rfl:qs=[]:=List.eq_nil_of_length_eq_zero h0;obtain⟨i0,hi,q0,q1,q2⟩:=info_parts AK6;have hr:=run_append_owned_none (P:=Tryz.prog) (w:=w) 0 116 ty 207 i0 3 Tryz.underlying116 hi v _ _ h;exact⟨_,_,hr,by rw[List.append_nil];exact h,C3.refl _ _⟩
 ·exact Q4 w v ps qs ⟨g,0,none⟩ cap h (λj u hj=>hu.cells (g:=g) rfl j u hj) hl ty
def FK (q:Nat)(fr:Bool):List Pt:=if fr then [⟨q,0,⟨#[]⟩⟩] else []
def IN (q:Nat)(now:List UInt8)(s:Nat × Nat):Pt:=⟨q,s.1,⟨((now.drop s.1).take (s.2-s.1)).toArray⟩⟩
def DL (q:Nat)(x:Dr):List Pt:=FK q x.fresh++(CI x.was x.now 512).map (IN q x.now)
theorem K9 (W:World)(b o f t:Nat)(h1:f<t)(h2:t<=512):(Instr.sliceAt 109 (.pointer (some ⟨b,o,none⟩)) (some (.int .i64 f)) (some (.int .i64 t)) none).run Tryz.prog W=.ok (.slice (some ⟨b,o+f,none⟩) (t-f) (512-f)) W:=by
 obtain⟨i,hi,hs⟩:=Option.map_eq_some_iff.1 (show (Tryz.prog.info? 5).map (·.size)=some 1 by kernel_rfl)
 have e1:f<=t:=by omega
 have e2:¬512=f:=by omega
 simp[Instr.sliceAt,run_underlying Tryz.underlying109,Instr.sureAddr,Instr.sliceBounds,Instr.sliceBound,asIntOf,sizeOf,typeInfo,hi,hs,Result.andThen,e1,h2,e2,A3]
theorem Dr.string_part {w:World}{b f t c:Nat}{now:List UInt8}(h:w.rangeAt b 513 (Lib.byteCells now))(h2:now.length=512)(hft:f<t)(ht:t<=512):(convert 102 9 (.slice (some ⟨b,513+f,none⟩) (t-f) c)).run Tryz.prog w=.ok (.string ⟨((now.drop f).take (t-f)).toArray⟩) w:=by
 have hl:((now.drop f).take (t-f)).length=t-f:=by simp[h2];omega
 have:=DX w b (513+f) c ((now.drop f).take (t-f)) (λj v hv=>by
  rw[<-EW,<-J6,List.getElem?_take]at hv;split at hv
  ·rw[List.getElem?_drop]at hv;have:=h (f+j) v hv
   rwa [show 513+f+j=513+(f+j) by omega]
  ·cases hv)
 rwa [hl]at this
theorem XN (q:Nat)(x:Dr)(w:World)(hr:w.rangeAt x.blk 0 x.cells)(h1:x.was.length=512)(h2:x.now.length=512) :
  Calls Tryz.prog 103 #[x.ptr,.int .i64 q] w λe w'=>∃v,e=.returned v/\BP w.heap.size w' v (DL q x)/\Below w.heap.size w w':=by
 have hlt:x.blk<w.heap.size:=World.block_lt_of_cell? w _ (hr 0 _ rfl);have HLT:=yH hlt;have HRW:Hid (∀W,Below w.heap.size w W->W.rangeAt x.blk 0 x.cells):=yH (λW hb j v hv=>(World.cell?_of_block (hb.block x.blk hlt)).trans (hr j v hv))
 have HCH:Hid (∀W,Below w.heap.size w W->Calls Tryz.prog 141 #[x.ptr] W λe w'=>∃a c,e=.returned (.slice a (CI x.was x.now 512).length c)/\OS W.heap.size w' (.slice a (CI x.was x.now 512).length c) (CI x.was x.now 512)/\Below W.heap.size W w'):=yH (λW hb=>(AE5 x W (HRW.out W hb) h1 h2).mono λe w' ⟨v,e1,e2,e3⟩=>by
  have:∃a c,v=.slice a (CI x.was x.now 512).length c:=by
   rcases e2.2 with⟨h1,h0⟩|⟨g,cap,cur,hv,_⟩
   ·exact⟨none,0,by rw[h1,h0]⟩
   ·exact⟨_,cap,hv⟩
  obtain⟨a,c,rfl⟩:=this;exact⟨a,c,e1,e2,e3⟩)
 have c0:w.cell? ⟨x.blk,0,none⟩=some (.bool x.fresh):=hr 0 _ rfl;have HOK:Hid (XY 512 (CI x.was x.now 512)):=yH (EQ _ _ _);have HNW:Hid (∀W,Below w.heap.size w W->W.rangeAt x.blk 513 (Lib.byteCells x.now)):=yH (λW hb=>Dr.range_now (HRW.out W hb) h1)
 unfold DL;obtain⟨L,hL⟩:∃L,L=CI x.was x.now 512:=⟨_,rfl⟩;rw[<-hL]at HCH HOK ⊢
 obtain⟨blk,fr,was,now⟩:=x;simp only[Dr.ptr]at *
 have H2:=yH h2;obtain⟨n,hn⟩:∃n,n=L.length:=⟨_,rfl⟩;have HN:=yH hn;rw[<-hn]at HCH;have hn512:n<=512:=by rw[hn];exact HOK.out.1
 clear hr h1 h2 hL hn HRW;have hq9:L.length<=512:=HOK.out.1;have HQ9:=yH hq9;clear hq9;obtain⟨pre,hpre⟩:∃pre,pre=FK q fr:=⟨_,rfl⟩;have hprl:pre.length<=1:=by rw[hpre];cases fr <;> simp[FK]
 have HPL:=yH hprl;rw[<-hpre];have HPRE:=yH hpre;clear hpre hprl;cases fr
 case' false =>
  obtain⟨v0,hv0⟩:∃v0,v0=Value.slice none 0 0:=⟨_,rfl⟩;obtain⟨wa,hwa⟩:∃wa,wa=w:=⟨_,rfl⟩;have HP0:Hid (BP w.heap.size wa v0 pre):=yH (by rw[hv0,HPRE.out];exact⟨rfl,.inl ⟨rfl,rfl⟩⟩)
  have HB0:Hid (Below w.heap.size w wa):=yH (by rw[hwa];exact Below.refl _ _)
  have HPZ:Hid (0=pre.length):=yH (by rw[HPRE.out];rfl)
  have HV0:=yH hv0;have HWA:=yH hwa;clear hv0 hwa;go_enter Tryz.func103,Tryz.ntmps103;go_wp2_with fail;rw[<-HWA.out]
 case' true =>
  obtain⟨a6,c6,w6,hr6,ho6,hg6⟩:=Q5 (w.alloc (.cells #[.int .i64 q,.int .i64 0,.string ⟨#[]⟩] 207)) (.slice none 0 0) [] ⟨q,0,⟨#[]⟩⟩ ⟨w.heap.size,0,none⟩ 1 ⟨rfl,.inl ⟨rfl,rfl⟩⟩ (λj u hu=>by
   have hg:=heap_alloc_new w (.cells #[.int .i64 q,.int .i64 0,.string ⟨#[]⟩] 207);rw[A3,Nat.zero_add,yC hg,List.getElem?_toArray];exact hu) (by simp) 116
  have hb0:Below w.heap.size w (w.alloc (.cells #[.int .i64 q,.int .i64 0,.string ⟨#[]⟩] 207)):=(Below.refl _ _).alloc (Nat.le_refl _) _;have HP0:Hid (BP w.heap.size w6 (.slice a6 1 c6) pre):=yH (by
   rw[HPRE.out];rcases ho6.2 with h|⟨g,cap,cur,hv,_,r⟩
   ·exact⟨ho6.1,.inl h⟩
   ·refine⟨ho6.1,.inr ⟨g,cap,cur,hv,?_,r⟩⟩;have:=hg6.own (B:=w.heap.size) (by simp) (λk hk=>by simp[Value.ownBlock]at hk) g (by rw[hv];rfl)
    exact this)
  have HB0:Hid (Below w.heap.size w w6):=yH (hb0.trans (hg6.below (by simp) (λk hk=>by simp[Value.ownBlock]at hk)))
  obtain⟨v0,hv0⟩:∃v0,v0=Value.slice a6 1 c6:=⟨_,rfl⟩;obtain⟨wa,hwa⟩:∃wa,wa=w6:=⟨_,rfl⟩;rw[<-hv0]at HP0;rw[<-hwa]at HP0 HB0;have HPZ:Hid (1=pre.length):=yH (by rw[HPRE.out];rfl)
  have HV0:=yH hv0;have HWA:=yH hwa;have HR6:Hid ((Builtin.append_ #[116,116] 116 #[.slice none 0 0,.slice (some ⟨w.heap.size,0,none⟩) 1 1]).run Tryz.prog (w.alloc (.cells #[.int .i64 q,.int .i64 0,.string ⟨#[]⟩] 207))=.ok (.slice a6 1 c6) w6):=yH hr6;clear hv0 hwa hr6 ho6 hg6 hb0;go_enter Tryz.func103,Tryz.ntmps103;go_wp2_with (at_builtin;refine Lib.wpList_append_run _ rfl _ _ 116 116 rfl _ _ rfl rfl _ _ HR6.out ?_)
  rw[<-HWA.out]
 all_goals
  refine (HCH.out _ HB0.out).mono ?_;rintro e w2 ⟨a2,cc2,rfl,hsg,hb2⟩;have HO0:Hid (∀k,v0.ownBlock=some k->w.heap.size<=k):=yH (λk hk=>(World.ownsRow.lt HP0.out k hk).1)
  have HSG:Hid (∀W v,C3 w2 W v0 v->OS 0 W (.slice a2 n cc2) L):=yH (λW v hg=>by
   have h1:w2.ownsRow 0 216 2 (.slice a2 n cc2) L.length (L.flatMap sgC):=Joins.ownsRow_le hsg (Nat.zero_le _);refine AG h1 (λk hk=>hg.1.block k (World.ownsRow.lt h1 k hk).2 (λe=>?_))
   have h2:=(World.ownsRow.lt HP0.out k e.symm).2;have h3:=(World.ownsRow.lt hsg k hk).1;omega)
  have HP2:Hid (BP 0 w2 v0 pre):=yH (Joins.ownsRow_le (AX HP0.out hb2) (Nat.zero_le _));have HB2:Hid (Below w.heap.size w w2):=yH (HB0.out.trans (hb2.mono HB0.out.size));clear hsg hb2;go_wp2;go_loopw [5,20] (λv i wr=>∃(k m:Nat) (a:Option Addr) (c:Nat) (acc:List Pt),k<=n/\i=.int .i64 k/\v=.slice a m c/\Hid (m=acc.length/\acc=pre++(L.take k).map (IN q now))/\Hid (BP 0 wr (.slice a m c) acc)/\Hid (C3 w2 wr v0 (.slice a m c))) (λ_ i _=>n-(intOf i).toNat)
  case atStart=>exact⟨0,_,_,_,pre,by omega,rfl,rfl,yH ⟨HPZ.out,by simp⟩,yH (by rw[<-HV0.out];exact HP2.out),yH (by rw[<-HV0.out];exact C3.refl _ _)⟩
  case round =>
   obtain⟨k,m,a,c,acc,hk,rfl,rfl,hm,ho,hg⟩:=hrel;by_cases hlt:k<n
   ·have hlt':k<L.length:=by rw[<-HN.out];exact hlt
    have hkn:(k:Int)<n:=by omega
    obtain⟨g,rfl,-,hgl,-,e0,e1⟩:=(HSG.out wr _ hg.out).at hlt';obtain⟨f,hf⟩:∃f,f=L[k].1:=⟨_,rfl⟩;obtain⟨t,ht⟩:∃t,t=L[k].2:=⟨_,rfl⟩;have hft:=HOK.out.2 L[k] (List.getElem_mem hlt');rw[<-hf,<-ht]at hft;rw[<-hf]at e0;rw[<-ht]at e1;obtain⟨hft1,hft2⟩:=hft;have hBr:Below w.heap.size w wr:=HB2.out.trans (hg.out.below HB2.out.size HO0.out);have hb1:Below wr.heap.size wr ((wr.alloc (.cells #[.int .i64 f,.int .i64 t] 216)).drew):=((Below.refl _ wr).alloc (Nat.le_refl _) _).drew;have hsl:=λW=>K9 W blk 513 f t hft1 hft2
    have hcv:=Dr.string_part (c:=512-f) (HNW.out _ (hBr.trans (hb1.mono hBr.size))) H2.out hft1 hft2;obtain⟨S,hS⟩:∃S:ByteArray,S=⟨((now.drop f).take (t-f)).toArray⟩:=⟨_,rfl⟩;have hptk:IN q now L[k]=⟨q,f,S⟩:=by rw[hS,hf,ht];rfl
    obtain⟨cn,hcn⟩:∃cn,cn=wr.heap.size:=⟨_,rfl⟩;obtain⟨W0,hW0⟩:∃W0,W0=(wr.alloc (.cells #[.int .i64 f,.int .i64 t] 216)).drew:=⟨_,rfl⟩;have hb1:Below wr.heap.size wr W0:=by rw[hW0];exact ((Below.refl _ wr).alloc (Nat.le_refl _) _).drew
    have hgc:W0.heap[cn]? = some (.cells #[.int .i64 f,.int .i64 t] 216 (0,0)):=by rw[hW0,hcn];exact heap_alloc_new wr _
    have hz0:W0.heap.size=cn+1:=by rw[hW0,hcn];simp
    have hblk:blk<wr.heap.size:=Nat.lt_of_lt_of_le HLT.out hBr.size;have hnw0:W0.rangeAt blk 513 (Lib.byteCells now):=HNW.out _ (hBr.trans (hb1.mono hBr.size));obtain⟨W1,hW1⟩:∃W1,W1=W0.alloc (.cells #[.int .i64 q,.int .i64 f,.string S] 207):=⟨_,rfl⟩;have hb2:Below W0.heap.size W0 W1:=by rw[hW1];exact (Below.refl _ W0).alloc (Nat.le_refl _) _
    have hb3:Below wr.heap.size wr W1:=hb1.trans (hb2.mono hb1.size);have hcap:acc.length<4194304:=by
     rw[hm.out.2,List.length_append,List.length_map,List.length_take];have h1:=HPL.out;have h2:=HQ9.out
     omega
    obtain⟨a6,c6,w6,hr6,ho6,hg6⟩:=Q5 W1 (.slice a m c) acc ⟨q,f,S⟩ ⟨cn+1,0,none⟩ 1 (Joins.ownsRow_le (AX ho.out hb3) (Nat.zero_le _)) (λj u hu=>by
     have hg:=heap_alloc_new W0 (.cells #[.int .i64 q,.int .i64 f,.string S] 207);rw[hz0]at hg;have h2:=yC (w:=W1) (by rw[hW1];exact hg) (0+j)
     rw[A3,h2,Nat.zero_add,List.getElem?_toArray];exact hu) hcap 116
    have hown:∀k,(Value.slice a m c).ownBlock=some k->w.heap.size<=k/\k<wr.heap.size:=λk hk=>⟨hg.out.own HB2.out.size HO0.out k hk,(World.ownsRow.lt ho.out k hk).2⟩
    have hkeep:∀k,k<W1.heap.size->(k=cn\/k=blk)->w6.heap[k]? = W1.heap[k]?:=λk hk hkk=>hg6.1.block k hk (λe=>by
     have h1:=hown k e.symm;have h2:=HLT.out;rcases hkk with h|h <;> omega)
    have hS0:W0.heap[cn]? = some (.cells #[.int .i64 f,.int .i64 t] 216 (0,0))/\W0.rangeAt blk 513 (Lib.byteCells now):=⟨hgc,hnw0⟩;have hlc:cn<W1.heap.size/\blk<W1.heap.size:=by have:=hb2.size;omega
    have hS1:W1.heap[cn]? = some (.cells #[.int .i64 f,.int .i64 t] 216 (0,0))/\W1.rangeAt blk 513 (Lib.byteCells now):=⟨(hb2.block cn (by omega)).trans hgc,λj v hv=>(World.cell?_of_block (hb2.block blk (by omega))).trans (hnw0 j v hv)⟩
    have hS6:w6.heap[cn]? = some (.cells #[.int .i64 f,.int .i64 t] 216 (0,0))/\w6.rangeAt blk 513 (Lib.byteCells now):=⟨(hkeep cn hlc.1 (.inl rfl)).trans hS1.1,λj v hv=>(World.cell?_of_block (hkeep blk hlc.2 (.inr rfl))).trans (hS1.2 j v hv)⟩
    rw[<-hm.out.1]at hr6 ho6 hg6;have HR6:=yH hr6;have HO6:=yH ho6;have HG6:Hid (C3 w2 w6 v0 (.slice a6 (m+1) c6)):=yH ((hg.out.trans (C3.ofBelow hb3 _)).trans hg6);have HM6:Hid (m+1=(acc++[(⟨q,f,S⟩:Pt)]).length/\acc++[(⟨q,f,S⟩:Pt)]=pre++(L.take (k+1)).map (IN q now)):=yH ⟨by rw[List.length_append,<-hm.out.1];rfl,by
     rw[List.take_succ_eq_append_getElem hlt',List.map_append,<-List.append_assoc,<-hm.out.2,List.map_cons,List.map_nil,hptk]⟩
    have hf0:(0:Int)<=f:=by omega
    have HCV:Hid (∀W:World,(W.heap[cn]? = some (.cells #[.int .i64 f,.int .i64 t] 216 (0,0))/\W.rangeAt blk 513 (Lib.byteCells now))->(convert 102 9 (.slice (some ⟨blk,513+f,none⟩) (t-f) (512-f))).run Tryz.prog W=.ok (.string S) W):=yH (λW hW=>by rw[hS];exact Dr.string_part hW.2 H2.out hft1 hft2)
    have HL0:Hid (∀W:World,(W.heap[cn]? = some (.cells #[.int .i64 f,.int .i64 t] 216 (0,0))/\W.rangeAt blk 513 (Lib.byteCells now))->W.cell? ⟨cn,0,none⟩=some (.int .i64 f)/\W.cell? ⟨cn,1,none⟩=some (.int .i64 t)):=yH (λW hW=>⟨by rw[yC hW.1];rfl,by rw[yC hW.1];rfl⟩)
    have HSL:Hid (∀W:World,(Instr.sliceAt 109 (.pointer (some ⟨blk,513,none⟩)) (some (.int .i64 f)) (some (.int .i64 t)) none).run Tryz.prog W=.ok (.slice (some ⟨blk,513+f,none⟩) (t-f) (512-f)) W):=yH (λW=>K9 W blk 513 f t hft1 hft2)
    have HS0:=yH hS0;have HS1:=yH hS1;have HS6:=yH hS6
    have HW0:=yH hW0;have HW1:=yH hW1;have HCN:=yH hcn;have HZ0:=yH hz0
    clear hf ht hm ho hg hr6 ho6 hg6 hptk hS hBr hb1 hb2 hb3 hcap hlt' hown hkeep hS0 hS1 hS6 hlc hnw0 hgc hW0 hW1 hcn hz0 hblk;go_wp2;rw[<-HCN.out];refine wp_region_held_drew (S:=λW=>W.heap[cn]? = some (.cells #[.int .i64 f,.int .i64 t] 216 (0,0))/\W.rangeAt blk 513 (Lib.byteCells now)) (by kernel_rfl) (by rw[<-HW0.out];exact HS0.out) (λhHeld=>?_)
    rw[<-HW0.out];refine wpAnyH_take (i:=0) (v:=.slice a m c) rfl (by kernel_rfl) (by kernel_rfl) (by kernel_rfl) (λ_ _ _ h=>h) (Or.inl ⟨by rfl,λW hW=>by go_simp⟩) HS0.out ?_
    refine wpAnyH_take (i:=1) (v:=.int .i64 q) rfl (by kernel_rfl) (by kernel_rfl) (by kernel_rfl) (λ_ _ _ h=>h) (Or.inl ⟨by rfl,λW hW=>by go_simp⟩) HS0.out ?_
    refine wpAnyH_take (i:=2) (v:=.pointer (some ⟨cn,0,none⟩)) rfl (by kernel_rfl) (by kernel_rfl) (by kernel_rfl) (λ_ _ _ h=>h) (Or.inl ⟨by rfl,λW hW=>by go_simp⟩) HS0.out ?_
    refine wpAnyH_take (i:=3) (v:=.int .i64 f) rfl (by kernel_rfl) (by kernel_rfl) (by kernel_rfl) (λ_ _ _ h=>h) (Or.inl ⟨by rfl,λW hW=>by obtain⟨x0,x1⟩:=HL0.out W hW;clear hW;go_simp⟩) HS0.out ?_
    refine wpAnyH_take (i:=4) (v:=.pointer (some ⟨blk,0,none⟩)) rfl (by kernel_rfl) (by kernel_rfl) (by kernel_rfl) (λ_ _ _ h=>h) (Or.inl ⟨by rfl,λW hW=>by go_simp⟩) HS0.out ?_
    refine wpAnyH_take (i:=5) (v:=.pointer (some ⟨blk,0,none⟩)) rfl (by kernel_rfl) (by kernel_rfl) (by kernel_rfl) (λ_ _ _ h=>h) (Or.inl ⟨by rfl,λW hW=>by go_simp⟩) HS0.out ?_
    refine wpAnyH_take (i:=6) (v:=.pointer (some ⟨blk,513,none⟩)) rfl (by kernel_rfl) (by kernel_rfl) (by kernel_rfl) (λ_ _ _ h=>h) (Or.inl ⟨by rfl,λW hW=>by go_simp⟩) HS0.out ?_
    refine wpAnyH_take (i:=7) (v:=.pointer (some ⟨cn,0,none⟩)) rfl (by kernel_rfl) (by kernel_rfl) (by kernel_rfl) (λ_ _ _ h=>h) (Or.inl ⟨by rfl,λW hW=>by go_simp⟩) HS0.out ?_
    refine wpAnyH_take (i:=8) (v:=.int .i64 f) rfl (by kernel_rfl) (by kernel_rfl) (by kernel_rfl) (λ_ _ _ h=>h) (Or.inl ⟨by rfl,λW hW=>by obtain⟨x0,x1⟩:=HL0.out W hW;clear hW;go_simp⟩) HS0.out ?_
    refine wpAnyH_take (i:=9) (v:=.pointer (some ⟨cn,1,none⟩)) rfl (by kernel_rfl) (by kernel_rfl) (by kernel_rfl) (λ_ _ _ h=>h) (Or.inl ⟨by rfl,λW hW=>by go_simp⟩) HS0.out ?_
    refine wpAnyH_take (i:=10) (v:=.int .i64 t) rfl (by kernel_rfl) (by kernel_rfl) (by kernel_rfl) (λ_ _ _ h=>h) (Or.inl ⟨by rfl,λW hW=>by obtain⟨x0,x1⟩:=HL0.out W hW;clear hW;go_simp⟩) HS0.out ?_
    refine wpAnyH_take (i:=11) (v:=.slice (some ⟨blk,513+f,none⟩) (t-f) (512-f)) rfl (by kernel_rfl) (by kernel_rfl) (by kernel_rfl) (λ_ _ _ h=>h) (Or.inl ⟨by rfl,λW hW=>by have hh:=HSL.out W;clear hW;go_simp⟩) HS0.out ?_
    refine wpAnyH_take (i:=12) (v:=.string S) rfl (by kernel_rfl) (by kernel_rfl) (by kernel_rfl) (λ_ _ _ h=>h) (Or.inl ⟨by rfl,λW hW=>by have hh:=HCV.out W hW;clear hW;go_simp⟩) HS0.out ?_
    refine wpAnyH_take (i:=13) (v:=.agg #[.int .i64 q,.int .i64 f,.string S]) rfl (by kernel_rfl) (by kernel_rfl) (by kernel_rfl) (λ_ _ _ h=>h) (Or.inl ⟨by rfl,λW hW=>by clear hW;go_simp⟩) HS0.out ?_
    refine wpAnyH_ready (rs:=[14]) (by kernel_rfl) (by simp) ?_
    refine AllReadyH.cons rfl (λK hK=>?_) AllReadyH.nil
    go_simp
    rw[HZ0.out,<-HW1.out];refine hK.out _ _ HS1.out (λhHeld2=>?_)
    clear hK K;refine wpAnyH_ready (rs:=[15]) (by kernel_rfl) (by simp) ?_
    refine AllReadyH.cons rfl (λK hK=>?_) AllReadyH.nil
    refine FW rfl _ _ 116 rfl _ _ _ (by rfl) (by rfl) HR6.out ?_
    refine hK.out _ _ HS6.out (λhHeld3=>?_)
    clear hK K;refine wpAnyH_take (i:=16) (v:=.slice a6 (m+1) c6) rfl (by kernel_rfl) (by kernel_rfl) (by kernel_rfl) (λ_ _ _ h=>h) (Or.inl ⟨by rfl,λW hW=>by clear hW;go_simp⟩) HS6.out ?_
    refine wpAnyH_done (by kernel_rfl) ?_ _
    clear hHeld hHeld2 hHeld3;go_wp2;go_roundw
    case rel =>
     exact⟨k+1,m+1,a6,c6,_,by omega,by simp,rfl,HM6,HO6,HG6⟩
    case measure=>simp[intOf];omega
   ·have hkn:k=n:=by omega
    subst hkn;have hacc:acc=pre++L.map (IN q now):=by rw[hm.out.2,List.take_of_length_le (by rw[<-HN.out];exact Nat.le_refl _)]
    have HE:Hid (BP w.heap.size wr (.slice a m c) (pre++L.map (IN q now))/\Below w.heap.size w wr):=yH ⟨by
     rw[<-hacc];rcases ho.out.2 with h|⟨g,cap,cur,hv,_,r⟩
     ·exact⟨ho.out.1,.inl h⟩
     ·exact⟨ho.out.1,.inr ⟨g,cap,cur,hv,hg.out.own HB2.out.size HO0.out g (by rw[hv];rfl),r⟩⟩,HB2.out.trans (hg.out.below HB2.out.size HO0.out)⟩
    clear hacc hm ho hg;go_wp2;go_ret;exact⟨_,rfl,HE.out.1,HE.out.2⟩
end Go.Proofs.YtfbbjiidccbaiaaGreatDoor
namespace Go.Proofs
open Go.Shelf
def Tryz.keysA_ren : Go.Shelf.Ren := ⟨fun | 7 => 102 | 10 => 140 | n => n, fun | 23 => 38 | 26 => 3 | 3 => 108 | 28 => 167 | 0 => 0 | 27 => 166 | 33 => 113 | 4 => 4 | n => n, fun | n => n⟩
theorem Tryz.keysA : Go.Proofs.SlLaysZI.n7 Tryz.prog Tryz.keysA_ren := {
  mixed := by kernel_rfl
  f7 := ⟨Tryz.f102.name, by decide, Tryz.func102.trans (congrArg some (by kernel_rfl))⟩
  f10 := ⟨Tryz.f140.name, by decide, Tryz.func140.trans (congrArg some (by kernel_rfl))⟩
  t0 := Tryz.underlying0
  a0 := Tryz.isAgg0
  z0 := Tryz.sizeOf0
  v0 := Tryz.zeroValue0
  t4 := Tryz.underlying4
  a4 := Tryz.isAgg4
  z4 := Tryz.sizeOf4
  v4 := Tryz.zeroValue4
  t23 := Tryz.underlying38
  a23 := Tryz.isAgg38
  z23 := Tryz.sizeOf38
  v23 := Tryz.zeroValue38
  t26 := Tryz.underlying3
  a26 := Tryz.isAgg3
  z26 := Tryz.sizeOf3
  v26 := Tryz.zeroValue3
  t27 := Tryz.underlying166
  a27 := Tryz.isAgg166
  z27 := Tryz.sizeOf166
  v27 := Tryz.zeroValue166
  t28 := Tryz.underlying167
  a28 := Tryz.isAgg167
  z28 := Tryz.sizeOf167
  v28 := Tryz.zeroValue167
  t33 := Tryz.underlying113
  a33 := Tryz.isAgg113
  z33 := Tryz.sizeOf113
  v33 := Tryz.zeroValue113 }
def Tryz.sortedA_ren : Go.Shelf.Ren := ⟨fun | 6 => 101 | 8 => 139 | 9 => 89 | 11 => 181 | 13 => 129 | 12 => 128 | 23 => 174 | 24 => 175 | 14 => 165 | 15 => 166 | 16 => 167 | 17 => 168 | 18 => 169 | 19 => 170 | 20 => 171 | 21 => 172 | 22 => 173 | 25 => 189 | 26 => 190 | 27 => 191 | 28 => 192 | 29 => 193 | 30 => 194 | 31 => 205 | n => n, fun | 26 => 3 | 28 => 167 | 24 => 57 | 0 => 0 | 3 => 3 | 37 => 200 | 48 => 242 | 50 => 33 | 4 => 4 | 40 => 235 | 39 => 234 | 45 => 182 | 5 => 5 | 9 => 9 | 51 => 257 | 55 => 261 | 57 => 277 | 58 => 278 | 33 => 113 | n => n, fun | n => n⟩
theorem Tryz.sortedA : Go.Proofs.SlLaysZI.n6 Tryz.prog Tryz.sortedA_ren := {
  mixed := by kernel_rfl
  f6 := ⟨Tryz.f101.name, by decide, Tryz.func101.trans (congrArg some (by kernel_rfl))⟩
  f8 := ⟨Tryz.f139.name, by decide, Tryz.func139.trans (congrArg some (by kernel_rfl))⟩
  f11 := ⟨Tryz.f181.name, by decide, Tryz.func181.trans (congrArg some (by kernel_rfl))⟩
  t0 := Tryz.underlying0
  a0 := Tryz.isAgg0
  z0 := Tryz.sizeOf0
  v0 := Tryz.zeroValue0
  t24 := Tryz.underlying57
  a24 := Tryz.isAgg57
  z24 := Tryz.sizeOf57
  v24 := Tryz.zeroValue57
  t26 := Tryz.underlying3
  a26 := Tryz.isAgg3
  z26 := Tryz.sizeOf3
  v26 := Tryz.zeroValue3
  t28 := Tryz.underlying167
  a28 := Tryz.isAgg167
  z28 := Tryz.sizeOf167
  v28 := Tryz.zeroValue167
  i26 := by kernel_rfl }
end Go.Proofs
set_option maxRecDepth 100000
set_option maxHeartbeats 6400000
namespace Go.Proofs.YtfbbjiidccbaiaaGreatDoor
open Go.RowKit Go.Maps Go.Sort Go.Shelf
def E3 (D:Nat->Option Dr)(ks:List Nat):Prop:=ks.Pairwise (λx y=>x<y)/\∀q,q ∈ ks ↔ (D q).isSome=true
theorem D7 {w:World}{b n:Nat}{D0:DataW Value}{R:Value->Option (DataW Value × List MemPlace)}(hown:w.ownsMap Tryz.prog 3 R b n D0) :
  (intKeys D0).Nodup/\(∀x,x ∈ intKeys D0 ↔ Maps.has D0 (.int .i64 x)=true)/\(intKeys D0).length=Maps.size D0:=by
 obtain⟨es,hD,hpw,_⟩:=hown.entries XG;obtain⟨es',hD',hko⟩:=hown.keysOf;obtain rfl:es=es':=by rw[hD]at hD';simpa using hD'
 subst hD;have hk:∀p ∈ es,∃x,p.1=.int .i64 x:=λp hp=>by
  obtain⟨v,hv⟩:=hko p hp;obtain⟨x,_,hx,_⟩:=Maps.keyOf_i64 Tryz.underlying3 hv;exact⟨x,hx⟩
 refine⟨?_,λx=>?_,by simp[intKeys,Maps.size]⟩
 ·show (es.map λp=>Go.intOf p.1).Nodup
  refine List.pairwise_map.2 (hpw.imp_of_mem λ{p q} hp hq hne e=>hne ?_)
  obtain⟨a,ha⟩:=hk p hp;obtain⟨c,hc⟩:=hk q hq;rw[ha,hc]at e ⊢
  exact congrArg _ e
 ·show x ∈ es.map (λp=>Go.intOf p.1) ↔ _
  rw[List.mem_map,has_eq,List.any_eq_true];refine⟨λ⟨p,hp,hx⟩=>⟨p,hp,?_⟩,λ⟨p,hp,hx⟩=>⟨p,hp,?_⟩⟩
  ·obtain⟨a,ha⟩:=hk p hp;rw[ha]at hx ⊢
   subst hx;simp[Lit.sameKey,Go.intOf]
  ·obtain⟨a,ha⟩:=hk p hp;rw[ha]at hx ⊢
   simpa [Lit.sameKey,Go.intOf] using hx
theorem NQ (N:Nat):∀(l:List Nat) (lo:Nat),l.Pairwise (λx y=>x<y)->(∀x ∈ l,lo<=x/\x<N)->l=[]\/l.length+lo<=N
 | [],_,_,_=>.inl rfl
 | a::r,lo,hp,hb=>by
  have ha:=hb a (by simp)
  obtain⟨h1,h2⟩:=List.pairwise_cons.1 hp;rcases NQ N r (a+1) h2 (λx hx=>⟨h1 x hx,(hb x (by simp[hx])).2⟩) with rfl | h
  ·exact .inr (by simp;omega)
  ·exact .inr (by simp;omega)
theorem A4.keys {w:World}{db m:Nat}{D:Nat->Option Dr}(h:A4 w db m D) :
  ∃D0:DataW Value,w.ownsMap Tryz.prog 3 AY3 db m D0/\Maps.size D0=m/\∀ss:List Int,ss.Perm (intKeys D0)->∃ks:List Nat,E3 D ks/\ks.length=ss.length/\(ss.mergeSort (λx y=>decide (x<=y))).map encZ=ks.map λk:Nat=>Value.int .i64 (k:Int):=by
 obtain⟨F,⟨D0,h1,h2,h3⟩,h4,h5⟩:=h.map;refine⟨D0,h1,h2,λss hp=>?_⟩
 obtain⟨hnd,hmem,_⟩:=D7 h1;have hwf:=intKeys_wf h1 Tryz.underlying3;obtain⟨zs,hzs⟩:∃zs,zs=ss.mergeSort (λx y=>decide (x<=y)):=⟨_,rfl⟩
 have hpz:zs.Perm (intKeys D0):=by rw[hzs];exact (List.mergeSort_perm ss _).trans hp
 have hkey:∀z,z ∈ zs ↔ ∃n:Nat,(n:Int)=z/\(D n).isSome=true:=λz=>by
  rw[hpz.mem_iff];constructor
  ·intro hz;rcases h3 z (hwf z hz) with⟨_,e⟩|⟨v,e,_⟩
   ·rw[(hmem z).1 hz]at e;cases e
   ·obtain⟨n,x,hn,hx,_⟩:=h5 z v e;exact⟨n,hn,by rw[hx];rfl⟩
  ·rintro⟨n,rfl,hn⟩;obtain⟨x,hx⟩:=Option.isSome_iff_exists.1 hn;rw[hmem];rcases h3 n (WalkArith.wf_i64 (by have:=(h.at_ n x hx).1;omega)) with⟨e,_⟩|⟨v,_,e,_⟩
   ·rw[h4 n x hx]at e;cases e
   ·exact e
 have hsorted:zs.Pairwise (λx y=>x<y):=by
  have tr:∀a b c:Int,decide (a<=b)=true->decide (b<=c)=true->decide (a<=c)=true:=λa b c x y=>by simp only[decide_eq_true_eq]at *;omega
  have tot:∀a b:Int,(decide (a<=b) || decide (b<=a))=true:=λa b=>by simp only[Bool.or_eq_true,decide_eq_true_eq];omega
  have hle:=List.pairwise_mergeSort tr tot ss;rw[<-hzs]at hle;have hne:zs.Nodup:=hpz.nodup_iff.2 hnd;refine (hle.and hne).imp (λ{a b} ⟨x,y⟩=>?_)
  have:=of_decide_eq_true x
  omega
 have hlen:zs.length=ss.length:=by rw[hzs];exact List.length_mergeSort ss
 rw[<-hzs];refine⟨zs.map Int.toNat,⟨?_,λq=>?_⟩,by rw[List.length_map,hlen],?_⟩
 ·refine List.pairwise_map.2 (hsorted.imp_of_mem λ{a b} ha hb hab=>?_)
  obtain⟨n,hn,_⟩:=(hkey a).1 ha;obtain⟨k,hk,_⟩:=(hkey b).1 hb;omega
 ·rw[List.mem_map];constructor
  ·rintro⟨z,hz,rfl⟩;obtain⟨n,rfl,hn⟩:=(hkey z).1 hz;simpa using hn
  ·intro hq;exact⟨q,(hkey q).2 ⟨q,rfl,hq⟩,by simp⟩
 ·rw[List.map_map];refine List.map_congr_left λz hz=>?_
  obtain⟨n,rfl,_⟩:=(hkey z).1 hz;simp[encZ]
theorem E3.le {w:World}{db m:Nat}{D:Nat->Option Dr}(h:A4 w db m D){ks:List Nat}(hk:E3 D ks):ks.length<=4096:=by
 rcases NQ 4096 ks 0 hk.1 (λx hx=>⟨by omega,by
  obtain⟨y,hy⟩:=Option.isSome_iff_exists.1 ((hk.2 x).1 hx);exact (h.at_ x y hy).1⟩) with rfl | h
 ·simp
 ·omega
theorem A4.few {w:World}{db m:Nat}{D:Nat->Option Dr}(h:A4 w db m D):m<=4096:=by
 obtain⟨D0,h1,h2,h3⟩:=h.keys;obtain⟨ks,hk,hl,_⟩:=h3 _ (List.Perm.refl _);have:=(D7 h1).2.2
 have:=E3.le h hk
 omega
theorem BA9 (m:Nat):AnyZI.SortsIn Tryz.prog Tryz.sortedA_ren Fence.wide m :=
 ⟨λblk off cap ss W hH hblk hsz=>callsIn_wide.2 (Tryz.slices_Sort_int blk off cap ss W hH hblk hsz),λp cap W=>callsIn_wide.2 (Tryz.slices_Sort_int_none p cap W)⟩
theorem AV2 (db:Nat)(W:World):Calls Tryz.prog 102 #[.map (some db)] W λe w'=>e=.returned (.func (.func 140) #[] #[.pointer (some ⟨W.heap.size,0,none⟩)])/\w'=W.alloc (.cells #[.map (some db)] 38) :=
 callsIn_wide.1 (AnyZI.keys_in Tryz.keysA Fence.wide 5 trivial rfl (some db) W)
theorem ZU {w:World}{db m:Nat}{D:Nat->Option Dr}(h:A4 w db m D) :
  Calls Tryz.prog 101 #[.func (.func 140) #[] #[.pointer (some ⟨w.heap.size,0,none⟩)]] (w.alloc (.cells #[.map (some db)] 38)) λe w'=>∃(v:Value) (ks:List Nat),e=.returned v/\E3 D ks /\
   w'.ownsRow w.heap.size 3 1 v ks.length (ks.map λk:Nat=>Value.int .i64 (k:Int))/\Below w.heap.size w w':=by
 obtain⟨D0,hown,hsz,hkeys⟩:=h.keys;have hm:=h.few;have hbl:=hown.lt;have hseq:SeqGives Fence.wide 2 Tryz.prog 140 #[.pointer (some ⟨w.heap.size,0,none⟩)] encZ (λss=>ss.Perm (intKeys D0)) (Maps.size D0) (w.alloc (.cells #[.map (some db)] 38)) :=
  AnyZI.keys_gives (ρ:=Tryz.keysA_ren) { Tryz.keysA with } Fence.wide _ trivial rfl (by omega) w.heap.size db m D0 _ (by simp) (by simp) (by
   obtain⟨es,clock,hb,Ft,hs,hD⟩:=hown;exact⟨es,clock,(Below.heap_alloc _ _ db hbl).trans hb,Ft,hs,hD⟩)
 have cS:=AnyZI.sorted_in Tryz.sortedA Fence.wide 5 trivial trivial trivial trivial rfl (by omega) (BA9 _) (enters_of Tryz.func89 (by kernel_rfl) rfl) 140 #[.pointer (some ⟨w.heap.size,0,none⟩)] trivial (enters_of Tryz.func140 (by kernel_rfl) rfl) _ _ (by unfold maxLen;omega) (by omega) _ hseq
 refine (callsIn_wide.1 cS).mono λe w' ⟨v,ss,h1,h2,h3,_,h5⟩=>?_
 obtain⟨ks,hk,hl,hr⟩:=hkeys ss h2;refine⟨v,ks,h1,hk,?_,((Below.refl _ w).alloc (Nat.le_refl _) _).trans (h5.mono (by simp))⟩
 rw[hl,<-hr];exact Joins.ownsRow_le h3 (by simp)
end Go.Proofs.YtfbbjiidccbaiaaGreatDoor
namespace Go.Proofs
open Go.Shelf
def Tryz.keysN_ren : Go.Shelf.Ren := ⟨fun | 7 => 163 | 10 => 188 | n => n, fun | 23 => 184 | 26 => 3 | 3 => 127 | 28 => 167 | 0 => 0 | 27 => 166 | 33 => 113 | 4 => 4 | n => n, fun | n => n⟩
theorem Tryz.keysN : Go.Proofs.SlLaysZI.n7 Tryz.prog Tryz.keysN_ren := {
  mixed := by kernel_rfl
  f7 := ⟨Tryz.f163.name, by decide, Tryz.func163.trans (congrArg some (by kernel_rfl))⟩
  f10 := ⟨Tryz.f188.name, by decide, Tryz.func188.trans (congrArg some (by kernel_rfl))⟩
  t0 := Tryz.underlying0
  a0 := Tryz.isAgg0
  z0 := Tryz.sizeOf0
  v0 := Tryz.zeroValue0
  t4 := Tryz.underlying4
  a4 := Tryz.isAgg4
  z4 := Tryz.sizeOf4
  v4 := Tryz.zeroValue4
  t23 := Tryz.underlying184
  a23 := Tryz.isAgg184
  z23 := Tryz.sizeOf184
  v23 := Tryz.zeroValue184
  t26 := Tryz.underlying3
  a26 := Tryz.isAgg3
  z26 := Tryz.sizeOf3
  v26 := Tryz.zeroValue3
  t27 := Tryz.underlying166
  a27 := Tryz.isAgg166
  z27 := Tryz.sizeOf166
  v27 := Tryz.zeroValue166
  t28 := Tryz.underlying167
  a28 := Tryz.isAgg167
  z28 := Tryz.sizeOf167
  v28 := Tryz.zeroValue167
  t33 := Tryz.underlying113
  a33 := Tryz.isAgg113
  z33 := Tryz.sizeOf113
  v33 := Tryz.zeroValue113 }
end Go.Proofs
set_option maxRecDepth 100000
set_option maxHeartbeats 6400000
namespace Go.Proofs.YtfbbjiidccbaiaaGreatDoor
open Go.RowKit Go.Maps Go.Sort Go.Shelf
structure EB (w:World)(b m:Nat)(D:Nat->Option Value):Prop where
 map:∃F,FR w b m F/\(∀(q:Nat) v,D q=some v->F q=some v)/\∀(q:Int) v,F q=some v->∃n:Nat,(n:Int)=q/\D n=some v
 lt:∀q v,D q=some v->q<4096
def AG6 (D:Nat->Option Value)(ks:List Nat):Prop:=ks.Pairwise (λx y=>x<y)/\∀q,q ∈ ks ↔ (D q).isSome=true
section
variable {w w':World} {b m:Nat} {D:Nat->Option Value}
theorem EB.block (h:EB w b m D)(hb:w'.heap[b]? = w.heap[b]?):EB w' b m D:=by
 obtain⟨F,h1,h2⟩:=h.map;exact⟨⟨F,h1.block hb,h2⟩,h.lt⟩
theorem T7 (w:World):EB (w.alloc (.map #[] 0)) w.heap.size 0 (λ_=>none):=⟨⟨_,NT w,(λq v h=>by cases h),(λq v h=>by cases h)⟩,λq v h=>by cases h⟩
theorem EB.look (h:EB w b m D){t e:TypeId}(ht:Tryz.prog.underlying t=some (.map 3 e))(hz:(zeroValue e).run Tryz.prog w=.ok (.pointer none) w)(q:Nat)(hq:q<4096) :
  (Instr.lookup t (.map (some b)) (.int .i64 q) false).run Tryz.prog w=.ok ((D q).getD (.pointer none)) w:=by
 obtain⟨F,h1,h2,h3⟩:=h.map;rw[h1.look ht hz q (WalkArith.wf_i64 (by omega))]
 have:F q=D q:=by
  cases hF:F q with
  | none =>
   cases hD:D q with
   | none=>rfl
   | some v=>rw[h2 q v hD]at hF;cases hF
  | some v =>
   obtain⟨n,hn,hD⟩:=h3 q v hF;have:n=q:=by omega
   subst this;exact hD.symm
 rw[this]
theorem EB.put (h:EB w b m D){t e:TypeId}(ht:Tryz.prog.underlying t=some (.map 3 e))(hm:m<maxLen)(q:Nat)(hq:q<4096)(hD:D q=none)(v:Value) :
  ∃w',(Instr.mapUpdate t (.map (some b)) (.int .i64 q) v).run Tryz.prog w=.ok () w'/\EB w' b (m+1) (upd D q (some v))/\w.mapTurned w' b:=by
 obtain⟨F,h1,h2,h3⟩:=h.map;have hF:F q=none:=by
  cases hF:F q with
  | none=>rfl
  | some u =>
   obtain⟨n,hn,h4⟩:=h3 q u hF;have:n=q:=by omega
   subst this;rw[hD]at h4;cases h4
 obtain⟨w',hr,hp,ht'⟩:=h1.put ht hm q (WalkArith.wf_i64 (by omega)) hF v
 refine⟨w',hr,⟨⟨_,hp,λj u hj=>?_,λj u hj=>?_⟩,λj u hj=>?_⟩,ht'⟩
 ·by_cases hjq:j=q
  ·subst hjq;rw[AB]at hj;rw[C5];exact hj
  ·rw[AA _ _ hjq]at hj;rw[BZ _ _ (by omega)];exact h2 j u hj
 ·by_cases hjq:j=(q:Int)
  ·subst hjq;rw[C5]at hj;exact⟨q,rfl,by rw[AB];exact hj⟩
  ·rw[BZ _ _ hjq]at hj;obtain⟨n,hn,h4⟩:=h3 j u hj;exact⟨n,hn,by rw[AA _ _ (by omega)];exact h4⟩
 ·by_cases hjq:j=q
  ·omega
  ·rw[AA _ _ hjq]at hj;exact h.lt j u hj
theorem EB.del (h:EB w b (m+1) D){t e:TypeId}(ht:Tryz.prog.underlying t=some (.map 3 e))(q:Nat){v:Value}(hD:D q=some v)(ty:TypeId) :
  ∃w',(Builtin.delete_ #[t,3] ty #[.map (some b),.int .i64 q]).run Tryz.prog w=.ok (.tuple #[]) w'/\EB w' b m (upd D q none)/\w.mapTurned w' b:=by
 obtain⟨F,h1,h2,h3⟩:=h.map;have hq:=h.lt q v hD;obtain⟨w',hr,hp,ht'⟩:=h1.del ht q (WalkArith.wf_i64 (by omega)) (h2 q v hD) ty
 refine⟨w',hr,⟨⟨_,hp,λj u hj=>?_,λj u hj=>?_⟩,λj u hj=>?_⟩,ht'⟩
 ·by_cases hjq:j=q
  ·subst hjq;rw[AB]at hj;cases hj
  ·rw[AA _ _ hjq]at hj;rw[BZ _ _ (by omega)];exact h2 j u hj
 ·by_cases hjq:j=(q:Int)
  ·subst hjq;rw[C5]at hj;cases hj
  ·rw[BZ _ _ hjq]at hj;obtain⟨n,hn,h4⟩:=h3 j u hj;exact⟨n,hn,by rw[AA _ _ (by omega)];exact h4⟩
 ·by_cases hjq:j=q
  ·subst hjq;rw[AB]at hj;cases hj
  ·rw[AA _ _ hjq]at hj;exact h.lt j u hj
theorem EB.keys (h:EB w b m D) :
  ∃D0:DataW Value,w.ownsMap Tryz.prog 3 AY3 b m D0/\Maps.size D0=m/\∀ss:List Int,ss.Perm (intKeys D0)->∃ks:List Nat,AG6 D ks/\ks.length=ss.length/\(ss.mergeSort (λx y=>decide (x<=y))).map encZ=ks.map λk:Nat=>Value.int .i64 (k:Int):=by
 obtain⟨F,⟨D0,h1,h2,h3⟩,h4,h5⟩:=h.map;refine⟨D0,h1,h2,λss hp=>?_⟩
 obtain⟨hnd,hmem,_⟩:=D7 h1;have hwf:=intKeys_wf h1 Tryz.underlying3;obtain⟨zs,hzs⟩:∃zs,zs=ss.mergeSort (λx y=>decide (x<=y)):=⟨_,rfl⟩
 have hpz:zs.Perm (intKeys D0):=by rw[hzs];exact (List.mergeSort_perm ss _).trans hp
 have hkey:∀z,z ∈ zs ↔ ∃n:Nat,(n:Int)=z/\(D n).isSome=true:=λz=>by
  rw[hpz.mem_iff];constructor
  ·intro hz;rcases h3 z (hwf z hz) with⟨_,e⟩|⟨v,e,_⟩
   ·rw[(hmem z).1 hz]at e;cases e
   ·obtain⟨n,hn,hx⟩:=h5 z v e;exact⟨n,hn,by rw[hx];rfl⟩
  ·rintro⟨n,rfl,hn⟩;obtain⟨x,hx⟩:=Option.isSome_iff_exists.1 hn;rw[hmem];rcases h3 n (WalkArith.wf_i64 (by have:=h.lt n x hx;omega)) with⟨e,_⟩|⟨v,_,e,_⟩
   ·rw[h4 n x hx]at e;cases e
   ·exact e
 have hsorted:zs.Pairwise (λx y=>x<y):=by
  have tr:∀a b c:Int,decide (a<=b)=true->decide (b<=c)=true->decide (a<=c)=true:=λa b c x y=>by simp only[decide_eq_true_eq]at *;omega
  have tot:∀a b:Int,(decide (a<=b) || decide (b<=a))=true:=λa b=>by simp only[Bool.or_eq_true,decide_eq_true_eq];omega
  have hle:=List.pairwise_mergeSort tr tot ss;rw[<-hzs]at hle;have hne:zs.Nodup:=hpz.nodup_iff.2 hnd;refine (hle.and hne).imp (λ{a b} ⟨x,y⟩=>?_)
  have:=of_decide_eq_true x
  omega
 have hlen:zs.length=ss.length:=by rw[hzs];exact List.length_mergeSort ss
 rw[<-hzs];refine⟨zs.map Int.toNat,⟨?_,λq=>?_⟩,by rw[List.length_map,hlen],?_⟩
 ·refine List.pairwise_map.2 (hsorted.imp_of_mem λ{a b} ha hb hab=>?_)
  obtain⟨n,hn,_⟩:=(hkey a).1 ha;obtain⟨k,hk,_⟩:=(hkey b).1 hb;omega
 ·rw[List.mem_map];constructor
  ·rintro⟨z,hz,rfl⟩;obtain⟨n,rfl,hn⟩:=(hkey z).1 hz;simpa using hn
  ·intro hq;exact⟨q,(hkey q).2 ⟨q,rfl,hq⟩,by simp⟩
 ·rw[List.map_map];refine List.map_congr_left λz hz=>?_
  obtain⟨n,rfl,_⟩:=(hkey z).1 hz;simp[encZ]
theorem AG6.le (h:EB w b m D){ks:List Nat}(hk:AG6 D ks):ks.length<=4096:=by
 rcases NQ 4096 ks 0 hk.1 (λx hx=>⟨by omega,by
  obtain⟨y,hy⟩:=Option.isSome_iff_exists.1 ((hk.2 x).1 hx);exact h.lt x y hy⟩) with rfl | h
 ·simp
 ·omega
theorem EB.few (h:EB w b m D):m<=4096:=by
 obtain⟨D0,h1,h2,h3⟩:=h.keys;obtain⟨ks,hk,hl,_⟩:=h3 _ (List.Perm.refl _);have:=(D7 h1).2.2
 have:=AG6.le h hk
 omega
end
theorem AK0 (db:Nat)(W:World):Calls Tryz.prog 163 #[.map (some db)] W λe w'=>e=.returned (.func (.func 188) #[] #[.pointer (some ⟨W.heap.size,0,none⟩)])/\w'=W.alloc (.cells #[.map (some db)] 184) :=
 callsIn_wide.1 (AnyZI.keys_in Tryz.keysN Fence.wide 5 trivial rfl (some db) W)
theorem V0 {w:World}{db m:Nat}{D:Nat->Option Value}(h:EB w db m D) :
  Calls Tryz.prog 101 #[.func (.func 188) #[] #[.pointer (some ⟨w.heap.size,0,none⟩)]] (w.alloc (.cells #[.map (some db)] 184)) λe w'=>∃(v:Value) (ks:List Nat),e=.returned v/\AG6 D ks /\
   w'.ownsRow w.heap.size 3 1 v ks.length (ks.map λk:Nat=>Value.int .i64 (k:Int))/\Below w.heap.size w w':=by
 obtain⟨D0,hown,hsz,hkeys⟩:=h.keys;have hm:=h.few;have hbl:=hown.lt;have hseq:SeqGives Fence.wide 2 Tryz.prog 188 #[.pointer (some ⟨w.heap.size,0,none⟩)] encZ (λss=>ss.Perm (intKeys D0)) (Maps.size D0) (w.alloc (.cells #[.map (some db)] 184)) :=
  AnyZI.keys_gives (ρ:=Tryz.keysN_ren) { Tryz.keysN with } Fence.wide _ trivial rfl (by omega) w.heap.size db m D0 _ (by simp) (by simp) (by
   obtain⟨es,clock,hb,Ft,hs,hD⟩:=hown;exact⟨es,clock,(Below.heap_alloc _ _ db hbl).trans hb,Ft,hs,hD⟩)
 have cS:=AnyZI.sorted_in Tryz.sortedA Fence.wide 5 trivial trivial trivial trivial rfl (by omega) (BA9 _) (enters_of Tryz.func89 (by kernel_rfl) rfl) 188 #[.pointer (some ⟨w.heap.size,0,none⟩)] trivial (enters_of Tryz.func188 (by kernel_rfl) rfl) _ _ (by unfold maxLen;omega) (by omega) _ hseq
 refine (callsIn_wide.1 cS).mono λe w' ⟨v,ss,h1,h2,h3,_,h5⟩=>?_
 obtain⟨ks,hk,hl,hr⟩:=hkeys ss h2;refine⟨v,ks,h1,hk,?_,((Below.refl _ w).alloc (Nat.le_refl _) _).trans (h5.mono (by simp))⟩
 rw[hl,<-hr];exact Joins.ownsRow_le h3 (by simp)
end Go.Proofs.YtfbbjiidccbaiaaGreatDoor
set_option maxRecDepth 100000
set_option maxHeartbeats 6400000
namespace Go.Proofs.YtfbbjiidccbaiaaGreatDoor
open Go.RowKit
structure En where
 key:List UInt8
 val:List UInt8
def En.size (e:En):Nat:=2+e.key.length+e.val.length
def En.nil:En:=⟨[],[]⟩
def szE:List En->Nat
 | []=>0
 | e::r=>e.size+szE r
theorem CX (a b:List En):szE (a++b)=szE a+szE b:=by
 induction a with
 | nil=>simp[szE]
 | cons x r ih=>simp[szE,ih,Nat.add_assoc]
theorem ZI (a:List En)(e:En):szE (a++[e])=szE a+e.size:=by simp[CX,szE]
theorem KK (l:List En):2*l.length<=szE l:=by
 induction l with
 | nil=>simp[szE]
 | cons x r ih=>simp only[szE,List.length_cons,En.size];omega
theorem JQ (l:List En)(k:Nat):szE (l.take k)<=szE l:=by
 have h:=congrArg szE (List.take_append_drop k l);rw[CX]at h;omega
def En.bytes (e:En):List UInt8:=UInt8.ofNat e.key.length::UInt8.ofNat e.val.length::(e.key++e.val)
theorem En.bytes_length (e:En):e.bytes.length=e.size:=by simp[En.bytes,En.size];omega
def JK:List En->List UInt8
 | []=>[]
 | e::r=>e.bytes++JK r
theorem AD4 (a b:List En):JK (a++b)=JK a++JK b:=by
 induction a with
 | nil=>simp[JK]
 | cons x r ih=>simp[JK,ih]
theorem OH (l:List En):(JK l).length=szE l:=by
 induction l with
 | nil=>rfl
 | cons x r ih=>simp[JK,szE,ih,En.bytes_length]
def ndB (level:Nat)(l:List En):List UInt8:=UInt8.ofNat level::UInt8.ofNat l.length::JK l
theorem AJ4 (level:Nat)(l:List En):(ndB level l).length=2+szE l:=by simp[ndB,OH];omega
def pgB (level:Nat)(l:List En):List UInt8:=ndB level l++List.replicate (510-szE l) 0
theorem GD (level:Nat)(l:List En)(h:szE l<=510):(pgB level l).length=512:=by simp[pgB,AJ4];omega
def En.child (e:En):Nat:=(e.val.getD 0 0).toNat*256+(e.val.getD 1 0).toNat
def okE (level i:Nat)(e:En):Bool:=(decide (e.key.length=0) == (decide (0<level) && decide (i=0))) && decide (e.key.length<=96) && decide (e.val.length<=32) && (decide (level=0) || (decide (e.val.length=2) && decide (e.child<4096)))
def AU2 (level:Nat):Nat->List En->Bool
 | _,[]=>true
 | i,e::r=>okE level i e && AU2 level (i+1) r
def stN (level:Nat)(es:List En):Bool:=AU2 level 0 es && decide (0<es.length)
theorem AO4 (level:Nat):∀(es:List En) (i:Nat),AU2 level i es=true->∀j (h:j<es.length),okE level (i+j) es[j]=true
 | [],_,_,j,h=>by simp at h
 | e::r,i,hk,j,h=>by
  rw[AU2,Bool.and_eq_true]at hk;cases j with
  | zero=>exact hk.1
  | succ j =>
   have:=AO4 level r (i+1) hk.2 j (by simpa using h)
   rw[List.getElem_cons_succ,show i+(j+1)=i+1+j by omega]
   exact this
theorem AB1 (level:Nat):∀(es:List En) (i:Nat),(∀j (h:j<es.length),okE level (i+j) es[j]=true)->AU2 level i es=true
 | [],_,_=>rfl
 | e::r,i,hk=>by
  rw[AU2,Bool.and_eq_true];refine⟨hk 0 (by simp),AB1 level r (i+1) λj h=>?_⟩
  have:=hk (j+1) (by simpa using h)
  rw[List.getElem_cons_succ,show i+(j+1)=i+1+j by omega]at this
  exact this
def lt (a b:List UInt8):Prop:=Op.bytesLess a b=true
instance (a b:List UInt8):Decidable (lt a b):=inferInstanceAs (Decidable (Op.bytesLess a b=true))
def le (a b:List UInt8):Prop:=¬lt b a
theorem FC (a:List UInt8):¬lt a []:=by cases a <;> simp[lt,Op.bytesLess]
theorem BE7 {a:List UInt8}(h:a≠[]):lt [] a:=by cases a with | nil=>exact absurd rfl h | cons _ _=>rfl
theorem DG {x y:UInt8}{a b:List UInt8}:lt (x::a) (y::b) ↔ x.toNat<y.toNat\/x=y/\lt a b:=by
 simp[lt,Op.bytesLess,UInt8.lt_iff_toNat_lt]
theorem lt_irrefl (a:List UInt8):¬lt a a:=by
 induction a with
 | nil=>exact FC _
 | cons x a ih=>rw[DG];rintro (h | ⟨_,h⟩);exact Nat.lt_irrefl _ h;exact ih h
theorem C7:∀{a b c:List UInt8},lt a b->lt b c->lt a c
 | _,_,[],_,h=>absurd h (FC _)
 | _,[],_,h,_=>absurd h (FC _)
 | [],_::_,_::_,_,_=>rfl
 | x::a,y::b,z::c,h1,h2=>by
  rw[DG]at h1 h2 ⊢
  rcases h1 with h1|⟨rfl,h1⟩ <;> rcases h2 with h2|⟨rfl,h2⟩
  ·exact .inl (by omega)
  ·exact .inl h1
  ·exact .inl h2
  ·exact .inr ⟨rfl,C7 h1 h2⟩
theorem BF1:∀(a b:List UInt8),lt a b\/a=b\/lt b a
 | [],[]=>.inr (.inl rfl)
 | [],_::_=>.inl rfl
 | _::_,[]=>.inr (.inr rfl)
 | x::a,y::b=>by
  rw[DG,DG];rcases Nat.lt_trichotomy x.toNat y.toNat with h|h|h
  ·exact .inl (.inl h)
  ·have hxy:x=y:=UInt8.toNat_inj.1 h;subst hxy;rcases BF1 a b with h|rfl|h
   ·exact .inl (.inr ⟨rfl,h⟩)
   ·exact .inr (.inl rfl)
   ·exact .inr (.inr (.inr ⟨rfl,h⟩))
  ·exact .inr (.inr (.inl h))
theorem JY {a b:List UInt8}(h:lt a b):¬lt b a:=λh'=>lt_irrefl _ (C7 h h')
theorem lt.ne {a b:List UInt8}(h:lt a b):a≠b:=λe=>lt_irrefl b (e ▸ h)
theorem M0 (a:List UInt8):le a a:=lt_irrefl a
theorem lt.le {a b:List UInt8}(h:lt a b):le a b:=JY h
theorem QO {a b:List UInt8}:le a b ↔ lt a b\/a=b:=by
 constructor
 ·intro h;rcases BF1 a b with h1|h1|h1
  ·exact .inl h1
  ·exact .inr h1
  ·exact absurd h1 h
 ·rintro (h | rfl)
  ·exact h.le
  ·exact M0 _
theorem AJ3 (a:List UInt8):le [] a:=FC a
theorem FN {a b c:List UInt8}(h:le a b)(k:lt b c):lt a c:=by
 rcases QO.1 h with h|rfl
 ·exact C7 h k
 ·exact k
theorem EO {a b c:List UInt8}(h:lt a b)(k:le b c):lt a c:=by
 rcases QO.1 k with k|rfl
 ·exact C7 h k
 ·exact h
theorem KS {a b c:List UInt8}(h:le a b)(k:le b c):le a c:=λx=>k (EO x h)
def Chn {α:Type}(R:α->α->Prop):List α->Prop
 | []=>True
 | [_]=>True
 | a::b::r=>R a b/\Chn R (b::r)
section
variable {α:Type} {R:α->α->Prop}
theorem Chn.tail {a:α}{r:List α}(h:Chn R (a::r)):Chn R r:=by
 cases r with
 | nil=>trivial
 | cons b r=>exact h.2
theorem Chn.mid (A:List α)(x:α)(B:List α):Chn R (A++x::B) ↔ Chn R (A++[x])/\Chn R (x::B):=by
 induction A with
 | nil=>simp[Chn]
 | cons a A ih =>
  cases A with
  | nil=>simp[Chn]
  | cons b A =>
   simp only[List.cons_append,Chn]at ih ⊢
   rw[ih,and_assoc]
theorem Chn.two (A:List α)(x y:α)(B:List α):Chn R (A++x::y::B) ↔ Chn R (A++[x])/\R x y/\Chn R (y::B):=by
 rw[Chn.mid];rfl
theorem Chn.left {A B:List α}(h:Chn R (A++B)):Chn R A:=by
 induction A with
 | nil=>trivial
 | cons a A ih =>
  cases A with
  | nil=>trivial
  | cons b A=>exact⟨h.1,ih h.2⟩
theorem Chn.right {A B:List α}(h:Chn R (A++B)):Chn R B:=by
 induction A with
 | nil=>exact h
 | cons a A ih=>exact ih h.tail
theorem Chn.last {A:List α}{x y:α}(h:Chn R (A++[x]))(hxy:∀a,R a x->R a y):Chn R (A++[y]):=by
 induction A with
 | nil=>trivial
 | cons a A ih =>
  cases A with
  | nil=>exact⟨hxy _ h.1,trivial⟩
  | cons b A=>exact⟨h.1,ih h.2⟩
theorem Chn.first {B:List α}{x y:α}(h:Chn R (x::B))(hxy:∀b,R x b->R y b):Chn R (y::B):=by
 cases B with
 | nil=>trivial
 | cons b B=>exact⟨hxy _ h.1,h.2⟩
theorem Chn.at_ {l:List α}(h:Chn R l){i:Nat}{a b:α}(ha:l[i]? = some a)(hb:l[i+1]? = some b):R a b:=by
 induction l generalizing i with
 | nil=>simp at ha
 | cons x l ih =>
  cases l with
  | nil=>simp at hb
  | cons y l =>
   cases i with
   | zero=>simp at ha hb;subst ha hb;exact h.1
   | succ i=>exact ih h.2 (by simpa using ha) (by simpa using hb)
end
def Bd (lo:List UInt8)(hi:Option (List UInt8)):Prop:=∀x,hi=some x->lt lo x
def Inn (lo:List UInt8)(hi:Option (List UInt8))(k:List UInt8):Prop:=le lo k/\∀x,hi=some x->lt k x
def Kl (a b:En):Prop:=lt a.key b.key
def Srt (l:List En):Prop:=Chn Kl l
theorem Srt.cons_lt {e:En}{l:List En}(h:Srt (e::l)):∀x ∈ l,lt e.key x.key:=by
 induction l generalizing e with
 | nil=>intro x hx;cases hx
 | cons a l ih =>
  intro x hx;rcases List.mem_cons.1 hx with rfl|hx
  ·exact h.1
  ·exact C7 h.1 (ih h.2 x hx)
theorem DE {A B:List En}:Srt (A++B) ↔ Srt A/\Srt B/\∀a ∈ A,∀b ∈ B,lt a.key b.key:=by
 induction A with
 | nil=>simp[Srt,Chn]
 | cons a A ih =>
  constructor
  ·intro h;have h1:=ih.1 h.tail;have h2:=Srt.cons_lt h;refine⟨Chn.left h,h1.2.1,λx hx b hb=>?_⟩
   rcases List.mem_cons.1 hx with rfl|hx
   ·exact h2 b (by simp[hb])
   ·exact h1.2.2 x hx b hb
  ·rintro⟨h1,h2,h3⟩;have h4:Srt (A++B):=ih.2 ⟨h1.tail,h2,λx hx b hb=>h3 x (by simp[hx]) b hb⟩
   cases A with
   | nil =>
    cases B with
    | nil=>trivial
    | cons b B=>exact⟨h3 a (by simp) b (by simp),h4⟩
   | cons a' A=>exact⟨h1.1,h4⟩
theorem GX {e:En}{l:List En}:Srt (e::l) ↔ Srt l/\∀x ∈ l,lt e.key x.key:=by
 have:=DE (A:=[e]) (B:=l)
 simp only[List.singleton_append,List.mem_singleton,forall_eq]at this;rw[this];exact⟨λh=>h.2,λh=>⟨trivial,h⟩⟩
def CM (k v:List UInt8):List En->List En
 | []=>[⟨k,v⟩]
 | e::r=>if lt e.key k then e::CM k v r else if e.key=k then ⟨k,v⟩::r else ⟨k,v⟩::e::r
def DI (k:List UInt8)(l:List En):List En:=l.filter λe=>decide (e.key≠k)
def BH6 (k:List UInt8)(l:List En):Prop:=∃e ∈ l,e.key=k
def AP (k:List UInt8):List En->Nat
 | []=>0
 | e::r=>if lt e.key k then AP k r+1 else 0
theorem EG (k:List UInt8)(l:List En):AP k l<=l.length:=by
 induction l with
 | nil=>exact Nat.le_refl _
 | cons e r ih=>unfold AP;split <;> simp <;> omega
theorem AE3 {k:List UInt8}{A B:List En}(hA:∀a ∈ A,lt a.key k)(hB:∀b,B.head? = some b->¬lt b.key k):AP k (A++B)=A.length:=by
 induction A with
 | nil =>
  cases B with
  | nil=>rfl
  | cons b B=>unfold AP;rw[List.nil_append];simp only[if_neg (hB b rfl)];rfl
 | cons a A ih =>
  have:=ih (λx hx=>hA x (by simp[hx]))
  simp only[List.cons_append,AP,if_pos (hA a (by simp)),this,List.length_cons]
theorem OZ {l:List En}(h:Srt l)(k:List UInt8):l=l.take (AP k l)++l.drop (AP k l)/\(∀a ∈ l.take (AP k l),lt a.key k)/\(∀b ∈ l.drop (AP k l),¬lt b.key k):=by
 refine⟨(List.take_append_drop _ _).symm,?_⟩;induction l with
 | nil=>simp
 | cons e r ih =>
  unfold AP;by_cases hlt:lt e.key k
  ·rw[if_pos hlt];have:=ih h.tail
   refine⟨λa ha=>?_,λb hb=>this.2 b (by simpa using hb)⟩
   rw[List.take_succ_cons]at ha;rcases List.mem_cons.1 ha with rfl|ha
   ·exact hlt
   ·exact this.1 a ha
  ·rw[if_neg hlt];refine⟨by simp,λb hb=>?_⟩
   rw[List.drop_zero]at hb;rcases List.mem_cons.1 hb with rfl|hb
   ·exact hlt
   ·exact JY (FN hlt (Srt.cons_lt h b hb))
theorem BH0 {k v:List UInt8}{A M:List En}(hA:∀a ∈ A,lt a.key k):CM k v (A++M)=A++CM k v M:=by
 induction A with
 | nil=>rfl
 | cons a A ih =>
  simp only[List.cons_append,CM,if_pos (hA a (by simp))]
  rw[ih (λx hx=>hA x (by simp[hx]))]
theorem AV5 {k v:List UInt8}{M B:List En}(hB:∀b ∈ B,lt k b.key):CM k v (M++B)=CM k v M++B:=by
 induction M with
 | nil =>
  cases B with
  | nil=>rfl
  | cons b B =>
   have h1:=hB b (by simp)
   simp only[List.nil_append,CM,if_neg (JY h1),if_neg (Ne.symm h1.ne),List.singleton_append]
 | cons e M ih =>
  simp only[List.cons_append,CM];split
  ·rw[ih];rfl
  ·split <;> rfl
theorem AD8 {k:List UInt8}{A M B:List En}(hA:∀a ∈ A,lt a.key k)(hB:∀b ∈ B,lt k b.key):DI k (A++M++B)=A++DI k M++B:=by
 unfold DI;have e1:List.filter (λe:En=>decide (e.key≠k)) A=A:=List.filter_eq_self.2 (λa ha=>by simp[(hA a ha).ne])
 have e2:List.filter (λe:En=>decide (e.key≠k)) B=B:=List.filter_eq_self.2 (λb hb=>by simp[Ne.symm (hB b hb).ne])
 rw[List.filter_append,List.filter_append,e1,e2]
theorem BH5 {k:List UInt8}{A M B:List En}(hA:∀a ∈ A,lt a.key k)(hB:∀b ∈ B,lt k b.key):BH6 k (A++M++B) ↔ BH6 k M:=by
 constructor
 ·rintro⟨e,he,rfl⟩;simp only[List.mem_append]at he;rcases he with (he|he)|he
  ·exact absurd (hA e he) (lt_irrefl _)
  ·exact⟨e,he,rfl⟩
  ·exact absurd (hB e he) (lt_irrefl _)
 ·rintro⟨e,he,rfl⟩;exact⟨e,by simp[he],rfl⟩
theorem QU {k v:List UInt8}{l:List En}{e:En}(h:e ∈ CM k v l):e=⟨k,v⟩\/e ∈ l:=by
 induction l with
 | nil=>simp[CM]at h;exact .inl h
 | cons a l ih =>
  unfold CM at h;split at h
  ·rcases List.mem_cons.1 h with rfl|h
   ·exact .inr (by simp)
   ·rcases ih h with h|h
    ·exact .inl h
    ·exact .inr (by simp[h])
  ·split at h
   ·rcases List.mem_cons.1 h with rfl|h
    ·exact .inl rfl
    ·exact .inr (by simp[h])
   ·rcases List.mem_cons.1 h with rfl|h
    ·exact .inl rfl
    ·exact .inr h
theorem BG8 {k v:List UInt8}{l:List En}(h:Srt l):Srt (CM k v l):=by
 induction l with
 | nil=>trivial
 | cons e l ih =>
  rw[GX]at h;unfold CM;split
  ·rename_i hlt
   rw[GX];refine⟨ih h.1,λx hx=>?_⟩
   rcases QU hx with rfl|hx
   ·exact hlt
   ·exact h.2 x hx
  ·rename_i hlt
   split
   ·rename_i he
    subst he;exact GX.2 ⟨h.1,h.2⟩
   ·rename_i he
    have hke:lt k e.key:=(QO.1 hlt).elim id λe'=>absurd e'.symm he
    exact GX.2 ⟨GX.2 h,λx hx=>(List.mem_cons.1 hx).elim (λe'=>e' ▸ hke) (λhx=>C7 hke (h.2 x hx))⟩
theorem Srt.sub {l r:List En}(h:Srt l)(hs:r.Sublist l):Srt r:=by
 induction hs with
 | slnil=>trivial
 | cons a _ ih=>exact ih h.tail
 | cons_cons a hs ih =>
  rw[GX]at h ⊢
  exact⟨ih h.1,λx hx=>h.2 x (hs.subset hx)⟩
theorem BJ9 {k:List UInt8}{l:List En}(h:Srt l):Srt (DI k l):=h.sub (List.filter_sublist)
end Go.Proofs.YtfbbjiidccbaiaaGreatDoor
