/- Texts of one proof, one behind the other: WG, WM, WN, WO, WP, WR. -/
import Derived.Test.YtfbbjiidccbaiaaGreatDoorQAP
import Derived.Deep.RegionHeld
import Derived.Test.YtfbbjiidccbaiaaGreatDoorProg
import Derived.Test.YtfbbjiidccbaiaaGreatDoorQAA
set_option maxRecDepth 100000
set_option maxHeartbeats 6400000
namespace Go.Proofs.YtfbbjiidccbaiaaGreatDoor
open Go.RowKit
section
variable {J:List AD->Prop} {B:Nat} {S:Nat->Prop} {c:Ac} {h:Hd} {G:Nat->List UInt8} {w:World} {tb r:Nat} {key:List UInt8} {KA:Option Addr} {kn kc L:Nat} {t:Tr L}
def RI (J:List AD->Prop)(B:Nat)(S:Nat->Prop)(c:Ac)(h:Hd)(G:Nat->List UInt8)(w:World)(tb r:Nat){L:Nat}(t:Tr L)(key:List UInt8)(e:Ending)(w':World):Prop :=
 ∃(cb mb:Nat) (wv:Value) (s:Hst) (b:Bool) (above:NO) (sts:List (NO × Nat)),e=.returned (.tuple #[.pointer (some ⟨cb,0,none⟩),.bool b]) /\
  D4 ⟨J,B,c,S,w,tb,r,cb,mb,wv,(above,0)::sts⟩ s t key b above sts w'/\s.h=h/\s.G=G
theorem JR {w:World}{a:Option Addr}{n cv:Nat}{sts:List (NO × Nat)}(h:BL w (.slice a n cv) sts)(hn:0<n):sts.length=n/\∃gw,a=some ⟨gw,0,none⟩/\gw<w.heap.size:=by
 rcases h.2 with⟨h2,_⟩|⟨g,cap,cur,h2,_,hh,_⟩
 ·injection h2 with _ h2 _;omega
 ·injection h2 with h1 h2 _
  exact⟨h2.symm,g,h1,(Array.getElem?_eq_some_iff.1 hh).1⟩
theorem IM {w:World}{gw n cv:Nat}{sts:List (NO × Nat)}(h:BL w (.slice (some ⟨gw,0,none⟩) n cv) sts){j:Nat}{x:NO}{a:Nat}(hj:sts[j]? = some (x,a)):w.cell? ⟨gw,j*2,none⟩=some x.ptr/\w.cell? ⟨gw,j*2+1,none⟩=some (.int .i64 a):=by
 have hc:∀(l:List (NO × Nat)) (j:Nat),l[j]? = some (x,a)->(l.flatMap stC)[j*2]? = some x.ptr/\(l.flatMap stC)[j*2+1]? = some (.int .i64 a):=by
  intro l;induction l with
  | nil=>intro j hj;cases hj
  | cons y r ih =>
   intro j hj;cases j with
   | zero =>
    simp only[List.getElem?_cons_zero,Option.some.injEq]at hj;subst hj;simp[stC]
   | succ j =>
    have:=ih j (by simpa using hj)
    rw[List.flatMap_cons];have e1:(j+1)*2=(stC y).length+j*2:=by simp[stC];omega
    rw[e1,List.getElem?_append_right (by omega),Nat.add_sub_cancel_left,Nat.add_assoc,List.getElem?_append_right (by omega),Nat.add_sub_cancel_left]
    exact this
 have hcell:∀i u,(sts.flatMap stC)[i]? = some u->w.cell? ⟨gw,i,none⟩=some u:=λi u hu=>by
  have:=World.ownsRow.cells (w:=w) h (g:=gw) rfl i u hu
  rw[A3,Nat.zero_add]at this;exact this
 obtain⟨c1,c2⟩:=hc sts j hj;exact⟨hcell _ _ c1,hcell _ _ c2⟩
structure Y0 (J:List AD->Prop)(B:Nat)(S:Nat->Prop)(c:Ac)(h:Hd)(G:Nat->List UInt8)(w:World)(tb r:Nat){L:Nat}(t:Tr L)(key:List UInt8)(b:Bool)(sts:List (NO × Nat))(gw n cv:Nat)(w1:World):Prop where
 wl:NI key b L t sts
 len:sts.length=n
 gl:gw<w1.heap.size
 steps:BL w1 (.slice (some ⟨gw,0,none⟩) n cv) sts
 beg:∀(above:NO) (W9:World) (g c' cb:Nat),above.blk=w1.heap.size->above.page=0->above.level=L+1->above.ens=[⟨[],pgV t.page⟩]->above.was=[]->above.cap=1->above.sole=true->(∃eb,above.arr=some ⟨eb,0,none⟩/\cb<eb)->Below w1.heap.size w1 W9 ->
  EB W9 (w1.heap.size+1) 0 (λ_=>none)->BL W9 (.slice (some ⟨g,0,none⟩) (n+1) c') ((above,0)::sts)->(g=w1.heap.size+2\/w1.heap.size+3<=g)->g<cb->w1.heap.size+3<=cb ->
  W9.heap[cb]? = some (.cells #[.pointer (some ⟨tb,0,none⟩),.map (some (w1.heap.size+1)),.slice (some ⟨g,0,none⟩) (n+1) c',.slice none 0 0,.slice none 0 0] 186 (0,0)) ->
  above.ab<W9.heap.size->(∀X:Nat->Prop,(∀k,X k->(k<cb\/k=cb\/k=above.ab))->X above.blk->X above.ab->AM X W9 above) ->
  ∃s,ChI ⟨J,B,c,S,w,tb,r,cb,w1.heap.size+1,.slice (some ⟨g,0,none⟩) (n+1) c',(above,0)::sts⟩ h G above sts (.slice (some ⟨gw,0,none⟩) n cv) 0 s W9
theorem BL5 (hpos:1<=w.heap.size)(hw:AH w tb c.a r)(htS:¬S tb)(st:EY h G t){sts:List (NO × Nat)}{a:Option Addr}{cv:Nat}{b:Bool}{S' X':Nat->Prop}{w1:World}(hwl:NI key b L t sts)(hN:DV X' S' w1 (sts.map (·.1)))(hs:BL w1 (.slice a (L+1) cv) sts)(hA:AU J B S' c h G w1)(hT:AO S w S' w1)(hfr:∀x ∈ sts.map (·.1),w.heap.size<=x.blk/\w.heap.size<=x.ab) :
  ∃gw,a=some ⟨gw,0,none⟩/\Y0 J B S c h G w tb r t key b sts gw (L+1) cv w1:=by
 obtain⟨hlen,gw,rfl,hgl⟩:=JR hs (by omega)
 refine⟨gw,rfl,hwl,hlen,hgl,hs,λabove W9 g c' cb a1 a2 a3 a4 a5 a6 a7 ⟨eb,a8,a9⟩ hb9 hmap hst hg hgc hcb3 hcb habl hnd=>?_⟩
 have hab:above.ab=eb:=by unfold NO.ab;rw[a8]
 obtain⟨s,H,e1,e2,e3,e4,e5,e6⟩:=M7 (ix:=NO.page) hpos hw htS hN hA hT hfr (λy hy=>by
  obtain⟨l,es,p1,_,p3,_,p5,_⟩:=NH hwl st.rep y hy;refine⟨p5,λ_ e=>?_⟩
  rw[p3]at e;have:=p1.2.2.len
  rw[e]at this;simp at this) a2 ⟨a1,a2,a7,λ_=>by omega,by omega⟩ hb9 rfl rfl hmap hst hg hgc hcb3 hcb habl (by omega) hnd
 exact⟨s,H,⟨e1,e2,e4,e5⟩,by rw[e3];rfl,e6,AX hs hb9⟩
theorem RZ {w:World}{v:Value}{x y:NO}{a:Nat}{sts:List (NO × Nat)}(h:BL w v ((x,a)::sts))(e:x.blk=y.blk):BL w v ((y,a)::sts):=by
 unfold BL at h ⊢
 have e2:stC (x,a)=stC (y,a):=by unfold stC NO.ptr;rw[e]
 rw[List.flatMap_cons,List.length_cons]at h ⊢
 rw[<-e2];exact h
theorem BL4 {b:Bool}{sts:List (NO × Nat)}{gw cv q:Nat}{w1:World}(F:Y0 J B S c h G w tb r t key b sts gw (L+1) cv w1)(hL:L<=900)(hq:q=t.page)(hq4:q<4096) :
  ∃g c' W2,(Builtin.append_ #[129,129] 129 #[.slice (some ⟨w1.heap.size+2,0,none⟩) 1 1,.slice (some ⟨gw,0,none⟩) (L+1) cv]).run Tryz.prog (((w1.alloc (.cells #[.int .i64 0,.int .i64 ((L:Int)+1),.slice none 0 0,.string ⟨#[]⟩,.int .i64 0] 138)).alloc (.map #[] 0)).alloc (.cells #[.pointer (some ⟨w1.heap.size,0,none⟩),.int .i64 0] 133))=.ok (.slice (some ⟨g,0,none⟩) (L+1+1) c') W2 /\
   Hid (Calls Tryz.prog 118 #[.slice none 0 0,.int .i64 q] (W2.alloc (.cells #[.pointer (some ⟨tb,0,none⟩),.map (some (w1.heap.size+1)),.slice (some ⟨g,0,none⟩) (L+1+1) c',.slice none 0 0,.slice none 0 0] 186)) λe w7=>∃vb,e=.returned (.agg #[.slice none 0 0,.slice (some ⟨vb,0,none⟩) 2 2])/\w7.cell? ⟨w1.heap.size,2,none⟩=some (.slice none 0 0)/\w7.frozen? ⟨w1.heap.size,2,none⟩=false/\w1.heap.size<w7.heap.size /\
    Hid (∃s above,ChI ⟨J,B,c,S,w,tb,r,W2.heap.size,w1.heap.size+1,.slice (some ⟨g,0,none⟩) (L+1+1) c',(above,0)::sts⟩ h G above sts (.slice (some ⟨gw,0,none⟩) (L+1) cv) 0 s ((w7.alloc (.cells #[.slice none 0 0,.slice (some ⟨vb,0,none⟩) 2 2] 135)).setCell ⟨w1.heap.size,2,none⟩ (.slice (some ⟨w7.heap.size,0,none⟩) 1 1)) /\
     above.page=0/\above.level=L+1/\above.ens=[⟨[],pgV t.page⟩]/\above.was=[]/\above.sole=true/\above.cap=1)):=by
 obtain⟨A0,hA0⟩:∃a,a=w1.heap.size:=⟨_,rfl⟩;obtain⟨Wa,hWa⟩:∃W,W=w1.alloc (.cells #[.int .i64 0,.int .i64 ((L:Int)+1),.slice none 0 0,.string ⟨#[]⟩,.int .i64 0] 138):=⟨_,rfl⟩;obtain⟨Wm,hWm⟩:∃W,W=Wa.alloc (.map #[] 0):=⟨_,rfl⟩;obtain⟨W',hW'⟩:∃W,W=Wm.alloc (.cells #[.pointer (some ⟨w1.heap.size,0,none⟩),.int .i64 0] 133):=⟨_,rfl⟩;have za:Wa.heap.size=A0+1:=by rw[hWa,hA0];simp
 have zm:Wm.heap.size=A0+2:=by rw[hWm];simp;omega
 have z':W'.heap.size=A0+3:=by rw[hW'];simp;omega
 have hba:Below w1.heap.size w1 Wa:=by rw[hWa];exact (Below.refl _ _).alloc (Nat.le_refl _) _
 have hbm:Below Wa.heap.size Wa Wm:=by rw[hWm];exact (Below.refl _ _).alloc (Nat.le_refl _) _
 have hb':Below Wm.heap.size Wm W':=by rw[hW'];exact (Below.refl _ _).alloc (Nat.le_refl _) _
 have na:Wa.heap[A0]? = some (.cells #[.int .i64 0,.int .i64 ((L:Int)+1),.slice none 0 0,.string ⟨#[]⟩,.int .i64 0] 138 (0,0)):=by rw[hWa,hA0];exact heap_alloc_new w1 _
 have nm:EB Wm (A0+1) 0 λ_=>none:=by rw[hWm,<-za];exact T7 Wa
 have ns:W'.heap[A0+2]? = some (.cells #[.pointer (some ⟨A0,0,none⟩),.int .i64 0] 133 (0,0)):=by rw[hW',<-zm,hA0];exact heap_alloc_new Wm _
 have hb1:Below w1.heap.size w1 W':=(hba.trans (hbm.mono (by omega))).trans (hb'.mono (by omega))
 obtain⟨g,c',W2,hrun,hst2,hk2,hg,hgl⟩:=Q3 W' (A0+2) A0 (BA A0 (L+1)) (L+1) cv gw sts rfl ns (AX F.steps hb1) (by omega) 129
 rw[hA0,hW',hWm,hWa]at hrun;refine⟨g,c',W2,hrun,yH ?_⟩;obtain⟨W6,hW6⟩:∃W,W=W2.alloc (.cells #[.pointer (some ⟨tb,0,none⟩),.map (some (w1.heap.size+1)),.slice (some ⟨g,0,none⟩) (L+1+1) c',.slice none 0 0,.slice none 0 0] 186):=⟨_,rfl⟩;have z2:=hk2.size;have z6:W6.heap.size=W2.heap.size+1:=by rw[hW6];simp
 have hb6:Below W2.heap.size W2 W6:=by rw[hW6];exact (Below.refl _ _).alloc (Nat.le_refl _) _
 have n6:W6.heap[W2.heap.size]? = some (.cells #[.pointer (some ⟨tb,0,none⟩),.map (some (w1.heap.size+1)),.slice (some ⟨g,0,none⟩) (L+1+1) c',.slice none 0 0,.slice none 0 0] 186 (0,0)):=by rw[hW6];exact heap_alloc_new W2 _
 rw[<-hW6];refine (J3 none 0 0 q W6 hq4).mono ?_;rintro e w7 ⟨vb,rfl,hvb,hrv,hb7⟩;have z7:=hb7.size;have hvl:vb<w7.heap.size:=hrv.blk_lt (by unfold pgV;simp)
 have old7:∀k,k<A0+3->k≠A0+2->w7.heap[k]? = W'.heap[k]?:=λk hk hne=>((hb7.block k (by omega)).trans (hb6.block k (by omega))).trans (hk2.block k (by omega) hne)
 have a7:w7.heap[A0]? = some (.cells #[.int .i64 0,.int .i64 ((L:Int)+1),.slice none 0 0,.string ⟨#[]⟩,.int .i64 0] 138 (0,0)):=(old7 A0 (by omega) (by omega)).trans (((hb'.block A0 (by omega)).trans (hbm.block A0 (by omega))).trans na)
 refine⟨vb,rfl,?_,?_,by omega,yH ?_⟩
 ·rw[<-hA0,yC a7];rfl
 ·rw[<-hA0];simp[World.frozen?,a7]
 obtain⟨W8,hW8⟩:∃W,W=w7.alloc (.cells #[.slice none 0 0,.slice (some ⟨vb,0,none⟩) 2 2] 135):=⟨_,rfl⟩;have z8:W8.heap.size=w7.heap.size+1:=by rw[hW8];simp
 have hb8:Below w7.heap.size w7 W8:=by rw[hW8];exact (Below.refl _ _).alloc (Nat.le_refl _) _
 have n8:W8.heap[w7.heap.size]? = some (.cells #[.slice none 0 0,.slice (some ⟨vb,0,none⟩) 2 2] 135 (0,0)):=by rw[hW8];exact heap_alloc_new w7 _
 rw[<-hW8,<-hA0];obtain⟨W9,hW9⟩:∃W,W=W8.setCell ⟨A0,2,none⟩ (.slice (some ⟨w7.heap.size,0,none⟩) 1 1):=⟨_,rfl⟩;have hk9:AC (λk=>k=A0) W8 W9:=by rw[hW9];exact AC.setCell (λk=>k=A0) W8 (b:=A0) (i:=2) rfl _
 have z9:=hk9.size;have a9:W9.heap[A0]? = some (.cells (NY A0 (L+1) w7.heap.size q).cells 138 (0,0)):=by
  rw[hW9,BW ((hb8.block A0 (by omega)).trans a7)]
  unfold NY NO.cells;simp
 have up9:∀k,k<w7.heap.size->k≠A0->W9.heap[k]? = w7.heap[k]?:=λk hk hne=>(hk9.block k (by omega) hne).trans (hb8.block k hk)
 rw[<-hW9];have hb9:Below w1.heap.size w1 W9:=by
  have e2:Below w1.heap.size W' W2:=hk2.toBelow (by omega) (λk hk=>by omega)
  have e9:Below w1.heap.size W8 W9:=hk9.toBelow (by omega) (λk hk=>by omega)
  exact ((((hb1.trans e2).trans (hb6.mono (by omega))).trans (hb7.mono (by omega))).trans (hb8.mono (by omega))).trans e9
 obtain⟨above,hab⟩:∃a,a=NY A0 (L+1) w7.heap.size q:=⟨_,rfl⟩;have hb_:above.blk=A0/\above.page=0/\above.level=L+1/\above.ens=[⟨[],pgV t.page⟩]/\above.was=[]/\above.cap=1/\above.sole=true/\above.arr=some ⟨w7.heap.size,0,none⟩/\above.ab=w7.heap.size:=by
  rw[hab,<-hq];exact⟨rfl,rfl,rfl,rfl,rfl,rfl,rfl,rfl,rfl⟩
 obtain⟨b1,b2,b3,b4,b5,b6,b7,b8,b9⟩:=hb_;obtain⟨s,hs⟩:=F.beg above W9 g c' W2.heap.size (b1.trans hA0) b2 b3 b4 b5 b6 b7 ⟨w7.heap.size,b8,by omega⟩ hb9 (by
   rw[<-hA0];exact nm.block ((up9 _ (by omega) (by omega)).trans ((old7 _ (by omega) (by omega)).trans (hb'.block _ (by omega))))) (by
   refine RZ (x:=BA A0 (L+1)) (AG hst2 λk hk=>?_) (by rw[b1];rfl)
   simp only[Value.ownBlock,Option.some.injEq]at hk;subst hk;exact ((up9 g (by omega) (by omega)).trans (hb7.block g (by omega))).trans (hb6.block g hgl)) (by omega) hgl (by omega) (((up9 _ (by omega) (by omega)).trans (hb7.block _ (by omega))).trans n6) (by rw[b9];omega) (λX hX hX1 hX2=>by
   have hXv:¬X vb:=λhx=>by
    have:=hX vb hx
    rw[b9]at this;omega
   rw[hab]at hX1 hX2 ⊢
   refine⟨a9,hX1,.inr ⟨w7.heap.size,0,_,rfl,(hk9.block _ (by omega) (by omega)).trans n8,hX2,λi hi=>?_⟩,⟨Nat.le_refl _,by unfold maxLen NY;simp⟩,⟨by show 0<4096;omega,by show L+1<=1000;omega,by show 0<=1000000;omega⟩,⟨by simp[NY],λy hy=>?_⟩,λ_ _=>⟨w7.heap.size,rfl⟩⟩
   ·have hi0:i=0:=by simp[NY]at hi;exact hi
    subst hi0;refine⟨.slice none 0 0,.slice (some ⟨vb,0,none⟩) 2 2,rfl,rfl,A7.nil_ _ _,⟨some ⟨vb,0,none⟩,2,rfl,Nat.le_refl _,by unfold maxLen;omega,?_,λad ha _=>by cases ha;exact hXv⟩⟩
    have h8:AK W8 (some ⟨vb,0,none⟩) (pgV q):=hrv.below hb8;exact h8.kept hk9 (λad ha _ _=>by cases ha;show vb≠A0;omega)
   ·have hy:y ∈ [(⟨[],pgV q⟩:En)]:=hy;rw[List.mem_singleton]at hy;subst hy;simp[pgV])
 rw[<-hA0]at hs;exact⟨s,above,hs,b2,b3,b4,b5,b7,b6⟩
theorem U9 (x:AU J B S c h G w)(hw:AH w tb c.a r)(htS:¬S tb)(st:EY h G t)(hkn:key.length=kn)(hK:AK w KA key)(hKS:∀ad,KA=some ad->key≠[]->¬S ad.block)(hL:L<=900) :
  Calls Tryz.prog 77 #[.pointer (some ⟨tb,0,none⟩),.int .i64 t.page,.slice KA kn kc] w (RI J B S c h G w tb r t key):=by
 have hpos:1<=w.heap.size:=x.tab.1.1;have hpg:=x.has_lt (st.has _ (AS t));have HWY:Hid (Calls Tryz.prog 76 #[.pointer (some ⟨tb,0,none⟩),.int .i64 t.page,.slice KA kn kc] w λe w1=>∃(gw cv:Nat) (b:Bool) (sts:List (NO × Nat)) (x0 a0:Nat),e=.returned (.tuple #[.slice (some ⟨gw,0,none⟩) (L+1) cv,.bool b])/\w1.cell? ⟨gw,0,none⟩=some (.pointer (some ⟨x0,0,none⟩))/\w1.cell? ⟨x0,1,none⟩=some (.int .i64 L)/\Hid (Y0 J B S c h G w tb r t key b sts gw (L+1) cv w1)):=yH ((AZ4 (kc:=kc) x hw htS hkn hK hKS hL st.rep st.root.1.1 (λ_=>st.root.1.2.1) st.ord).mono λe w1 hp=>by
  obtain⟨sts,a,cv,b,S',X',rfl,hwl,hN,hs,hA,hT,hnew,hrow,hfr⟩:=hp;obtain⟨gw,rfl,hf⟩:=BL5 hpos hw htS st hwl hN hs hA hT hfr;obtain⟨y,a0,rest,rfl,hy1,hy2⟩:=AR2 hwl;obtain⟨c1,_⟩:=IM hs (j:=0) rfl;have hny:=(hN.at_ y (by simp)).1.c1
  rw[hy2]at hny;exact⟨gw,cv,b,_,y.blk,a0,rfl,c1,hny,yH hf⟩)
 obtain⟨q,hq⟩:∃q,q=t.page:=⟨_,rfl⟩;rw[<-hq]at HWY hpg ⊢
 have HQ:=yH hq;have HST:=yH st;have hLw:IntKind.i64.wrap ((L:Int)+1)=(L:Int)+1:=IntWalk.i64_in _ (by omega)
 have hq0:((q:Int) == 0)=false:=by simp;omega
 have hq1:q≠0:=by omega
 have hq2:((q:Int) != 0)=true:=by simp;omega
 clear x hw htS st hkn hK hKS hpos hq;go_enter Tryz.func77,Tryz.ntmps77;go_wp2_with fail;refine HWY.out.mono ?_;rintro e w1 ⟨gw,cv,b,sts,x0,a0,rfl,c1,c2,HF⟩;clear HWY;obtain⟨g,c',W2,hrun,HEN⟩:=BL4 HF.out hL HQ.out hpg.2;have hmm:=@run_makeMap Tryz.prog;go_wp2_with (at_builtin;refine Lib.wpList_append_run _ rfl _ _ 129 129 rfl _ _ rfl rfl _ _ hrun ?_)
 clear hrun hmm c1 c2;refine HEN.out.mono ?_;rintro e w7 ⟨vb,rfl,d1,d2,d3,HC⟩;clear HEN;go_wp2;obtain⟨s0,above,hs0,hab⟩:=HC.out;have HAB:=yH hab;clear HC hab d1 d2;obtain⟨cb,hcb⟩:∃cb,cb=W2.heap.size:=⟨_,rfl⟩;obtain⟨K,hK⟩:∃K:Kc,K=⟨J,B,c,S,w,tb,r,W2.heap.size,w1.heap.size+1,.slice (some ⟨g,0,none⟩) (L+1+1) c',(above,0)::sts⟩:=⟨_,rfl⟩;rw[<-hK]at hs0;have HKE:=yH hK;have hkc:K.cb=cb:=by rw[hK,hcb]
 have hkm:K.mb=w1.heap.size+1:=by rw[hK]
 have HKC:=yH hkc;have HKM:=yH hkm
 have HS0:Hid (∃s,ChI K h G above sts (.slice (some ⟨gw,0,none⟩) (L+1) cv) 0 s ((w7.setCell ⟨w1.heap.size,2,none⟩ (.slice (some ⟨w7.heap.size,0,none⟩) 1 1)).alloc (.cells #[.slice none 0 0,.slice (some ⟨vb,0,none⟩) 2 2] 135))):=yH ⟨s0,by rw[<-World.setCell_alloc_past _ _ _ _ d3];exact hs0⟩
 have HRD:Hid (∀(j:Nat) (wr:World),j<L+1->(∃s,ChI K h G above sts (.slice (some ⟨gw,0,none⟩) (L+1) cv) j s wr)->∃xb a pg:Nat,wr.cell? ⟨gw,j*2,none⟩=some (.pointer (some ⟨xb,0,none⟩))/\wr.cell? ⟨gw,j*2+1,none⟩=some (.int .i64 a)/\wr.cell? ⟨cb,1,none⟩=some (.map (some (w1.heap.size+1)))/\cb<wr.heap.size/\wr.cell? ⟨xb,0,none⟩=some (.int .i64 pg)/\xb<wr.heap.size /\
   Hid (∀W,Below wr.heap.size wr W->∃w2,(Instr.mapUpdate 184 (.map (some (w1.heap.size+1))) (.int .i64 pg) (.pointer (some ⟨xb,0,none⟩))).run Tryz.prog W=.ok () w2/\Hid (∃s',ChI K h G above sts (.slice (some ⟨gw,0,none⟩) (L+1) cv) (j+1) s' w2))):=yH λj wr hj ⟨s,I⟩=>by
  have hjl:j<sts.length:=by rw[HF.out.len];exact hj
  obtain⟨⟨x,a⟩,hxa⟩:∃y,sts[j]? = some y:=⟨_,List.getElem?_eq_getElem hjl⟩;have hm:(x,a) ∈ sts:=List.mem_of_getElem? hxa;have hpgs:=PQ HF.out.wl;obtain⟨l,es,p1,_,_,p4,_⟩:=NH HF.out.wl HST.out.rep _ hm;have hlt:=I.H.act.has_lt (by rw[I.hG.1];exact p1.1)
  have hgm:gw≠K.mb:=by rw[HKM.out];have:=HF.out.gl;omega
  obtain⟨r1,r2,r3⟩:=I.round hgm hxa ⟨hlt.1,hlt.2,p1.1,p4.trans p1.2.1.symm⟩ (HST.out.nodup.sublist hpgs);obtain⟨q1,q2,_⟩:=r3 wr (Below.refl _ _);have hxn:=(I.nodes x (List.mem_map_of_mem (f:=(·.1)) hm)).at_.lt
  have hcl:=I.H.cbl;rw[HKC.out]at q1 hcl;rw[HKM.out]at q1;refine⟨x.blk,a,x.page,r1,r2,q1,hcl,q2,hxn,yH λW hb=>?_⟩
  obtain⟨_,_,w2,hr,s',I2⟩:=r3 W hb;rw[HKM.out]at hr;exact⟨w2,hr,yH ⟨s',I2⟩⟩
 have HFIN:Hid (∀wr,(∃s,ChI K h G above sts (.slice (some ⟨gw,0,none⟩) (L+1) cv) (L+1) s wr)->RI J B S c h G w tb r t key (.returned (.tuple #[.pointer (some ⟨cb,0,none⟩),.bool b])) wr):=yH λwr ⟨s,I⟩=>by
  have hM:=I.M;rw[List.take_of_length_le (by rw[HF.out.len];exact Nat.le_refl _)]at hM
  obtain⟨b2,b3,b4,b5,b7,b6⟩:=HAB.out;have hH:=I.H;rw[HKE.out]at hH;rw[hcb];exact⟨W2.heap.size,w1.heap.size+1,_,s,b,above,sts,rfl,⟨hH,rfl,HF.out.wl,hM,⟨I.hG.2.2.1,I.hG.2.2.2⟩,⟨b2,b3,b4,b5,b7,b6⟩⟩,I.hG.1,I.hG.2.1⟩
 rw[<-hcb];clear hs0 hK hkc hkm hcb d3;go_loopw [13,50] (λ_ i wr=>∃j:Nat,j<=L+1/\i=.int .i64 j/\Hid (∃s,ChI K h G above sts (.slice (some ⟨gw,0,none⟩) (L+1) cv) j s wr)) (λ_ i _=>L+1-(intOf i).toNat)
 case atStart=>exact⟨0,by omega,rfl,HS0⟩
 case round =>
  obtain⟨j,hj,rfl,HI⟩:=hrel;by_cases hlt:j<L+1
  ·obtain⟨xb,a,pg,e1,e2,e3,e4,e5,e6,HMU⟩:=HRD.out j wr hlt HI.out;have hd:decide (j<L+1)=true:=decide_eq_true hlt;have hi:(j:Int)<(L:Int)+1:=by omega
   clear HI HS0 HRD HFIN;go_wp2;obtain⟨W,hW⟩:∃W,W=wr.alloc (.cells #[.pointer (some ⟨xb,0,none⟩),.int .i64 a] 133):=⟨_,rfl⟩;have hb:Below wr.heap.size wr W:=by rw[hW];exact (Below.refl _ _).alloc (Nat.le_refl _) _
   have f1:W.cell? ⟨cb,1,none⟩=some (.map (some (w1.heap.size+1))):=(hb.cell (p:=⟨cb,1,none⟩) e4).trans e3;have f2:W.cell? ⟨xb,0,none⟩=some (.int .i64 pg):=(hb.cell (p:=⟨xb,0,none⟩) e6).trans e5;have f3:W.cell? ⟨wr.heap.size,0,none⟩=some (.pointer (some ⟨xb,0,none⟩)):=by rw[hW,yC (heap_alloc_new wr _)];rfl
   rw[<-hW];have HM2:Hid (∀k,∃w2,(Instr.mapUpdate 184 (.map (some (w1.heap.size+1))) (.int .i64 pg) (.pointer (some ⟨xb,0,none⟩))).run Tryz.prog (W.drewN k)=.ok () w2/\Hid (∃s',ChI K h G above sts (.slice (some ⟨gw,0,none⟩) (L+1) cv) (j+1) s' w2)):=yH λk=>HMU.out _ (AE hb (AF W k))
   clear hb hW HMU e1 e2 e3 e5;go_still_tail 11,(by kernel_rfl)
   obtain⟨w2,hr2,HI2⟩:=HM2.out 1;have HR2:=yH hr2;clear hr2;go_wp2_with (refine B8 rfl _ _ _ 184 rfl _ _ _ (by rfl) (by rfl) (by rfl) HR2.out ?_)
   go_roundw
   case rel=>exact⟨j+1,by omega,by go_num,HI2⟩
   case measure=>simp[intOf];omega
  ·obtain rfl:j=L+1:=by omega
   have HE:=yH (HFIN.out wr HI.out);clear HS0 HRD HFIN HI;go_wp2;go_ret2;exact HE.out
end
section
variable {J:List AD->Prop} {B:Nat} {S:Nat->Prop} {c:Ac} {h:Hd} {G:Nat->List UInt8} {w:World} {tb r:Nat} {key:List UInt8} {KA:Option Addr} {kn kc:Nat}
structure Y1 (K:Kc)(s:Hst)(above x:NO)(w:World):Prop where
 H:Hnd K s w
 M:s.M=upd (upd (λ_=>none) 0 (some above)) 4096 (some x)
 tg:s.tk=[]/\s.gn=[]
 ab:above.page=0/\above.level=1/\above.ens=[]/\above.was=[]/\above.sole=true/\above.cap=0/\above.arr=none
 x:x.page=0/\x.level=0/\x.ens=[]/\x.was=[]/\x.sole=true/\x.cap=0/\x.arr=none/\x.had=0
def KJ (J:List AD->Prop)(B:Nat)(S:Nat->Prop)(c:Ac)(h:Hd)(G:Nat->List UInt8)(w:World)(tb r:Nat)(e:Ending)(w':World):Prop :=
 ∃(cb mb:Nat) (wv:Value) (s:Hst) (above x:NO),e=.returned (.tuple #[.pointer (some ⟨cb,0,none⟩),.bool false]) /\
  Y1 ⟨J,B,c,S,w,tb,r,cb,mb,wv,[(above,0),(x,0)]⟩ s above x w'/\s.h=h/\s.G=G
theorem Hnd.take4096 {K:Kc}{s:Hst}{w:World}{x:NO}(H:Hnd K s w)(hx:DS s.ρ w 4096 x):Hnd K { s with M:=upd s.M 4096 (some x) } w:=by
 have hpe:C9 (upd s.M 4096 (some x))=C9 s.M:=E9 λj h1 h2=>by rw[AA _ _ (by omega)]
 refine H.step (T:=λ_=>False) (R:=λ_=>False) (AC.ofBelow (Below.refl _ _)) (λ_ _ h=>h) id (λ_ _=>.inl rfl) H.lt (.inl ⟨id,rfl,rfl,rfl⟩) (.inl ⟨id,rfl,rfl⟩) (.inl ⟨id,hpe⟩) id (.inl ⟨id,rfl,rfl⟩) (.inl ⟨id,rfl,rfl⟩) (λj y hj=>?_) (λj y hj h1 h2=>?_) ⟨H.gok.1,λj hj=>⟨(H.gok.2 j hj).1,?_⟩⟩ H.tok
 ·dsimp only at hj
  by_cases hjq:j=4096
  ·subst hjq;rw[AB]at hj;cases hj;exact .inr hx
  ·rw[AA _ _ hjq]at hj;exact .inl ⟨hj,id,id,id⟩
 ·dsimp only at hj
  rw[AA _ _ (by omega)]at hj
  exact H.was j y hj h1 h2
 ·have:=(H.has_lt (H.gok.2 j hj).1).2
  dsimp only
  rw[AA _ _ (by omega)];exact (H.gok.2 j hj).2
theorem AY0 (hpos:1<=w.heap.size)(hw:AH w tb c.a r)(htS:¬S tb){x0:NO}(hx0:x0=BA w.heap.size 0){a:Option Addr}{cv:Nat}{S' X':Nat->Prop}{w1:World}(hN:DV X' S' w1 [x0])(hs:BL w1 (.slice a 1 cv) [(x0,0)])(hA:AU J B S' c h G w1)(hT:AO S w S' w1) :
  ∃gw,a=some ⟨gw,0,none⟩/\w1.cell? ⟨gw,0,none⟩=some (.pointer (some ⟨w.heap.size,0,none⟩))/\w1.cell? ⟨w.heap.size,1,none⟩=some (.int .i64 0) /\
  ∃g c' W2,(Builtin.append_ #[129,129] 129 #[.slice (some ⟨w1.heap.size+2,0,none⟩) 1 1,.slice (some ⟨gw,0,none⟩) 1 cv]).run Tryz.prog (((w1.alloc (.cells #[.int .i64 0,.int .i64 1,.slice none 0 0,.string ⟨#[]⟩,.int .i64 0] 138)).alloc (.map #[] 0)).alloc (.cells #[.pointer (some ⟨w1.heap.size,0,none⟩),.int .i64 0] 133))=.ok (.slice (some ⟨g,0,none⟩) 2 c') W2 /\
   Hid (KJ J B S c h G w tb r (.returned (.tuple #[.pointer (some ⟨W2.heap.size,0,none⟩),.bool false])) (W2.alloc (.cells #[.pointer (some ⟨tb,0,none⟩),.map (some (w1.heap.size+1)),.slice (some ⟨g,0,none⟩) 2 c',.slice none 0 0,.slice none 0 0] 186))):=by
 obtain⟨_,gw,rfl,hgl⟩:=JR hs (by omega)
 obtain⟨c1,_⟩:=IM hs (j:=0) rfl;obtain⟨m1,m2,m3,m4⟩:=hN.at_ x0 (by simp)
 have hny:=m1.c1;have hxb:x0.blk=w.heap.size:=by rw[hx0];rfl
 have hxl:x0.level=0:=by rw[hx0];rfl
 rw[hxl,hxb]at hny;have hptr:x0.ptr=.pointer (some ⟨w.heap.size,0,none⟩):=by unfold NO.ptr;rw[hxb]
 rw[hptr]at c1;refine⟨gw,rfl,c1,hny,?_⟩;have hz:=hT.1.size;have hxlt:=m1.lt;rw[hxb]at hxlt;obtain⟨A0,hA0⟩:∃a,a=w1.heap.size:=⟨_,rfl⟩;obtain⟨Wa,hWa⟩:∃W,W=w1.alloc (.cells #[.int .i64 0,.int .i64 1,.slice none 0 0,.string ⟨#[]⟩,.int .i64 0] 138):=⟨_,rfl⟩;obtain⟨Wm,hWm⟩:∃W,W=Wa.alloc (.map #[] 0):=⟨_,rfl⟩;obtain⟨W',hW'⟩:∃W,W=Wm.alloc (.cells #[.pointer (some ⟨w1.heap.size,0,none⟩),.int .i64 0] 133):=⟨_,rfl⟩;have za:Wa.heap.size=A0+1:=by rw[hWa,hA0];simp
 have zm:Wm.heap.size=A0+2:=by rw[hWm];simp;omega
 have z':W'.heap.size=A0+3:=by rw[hW'];simp;omega
 have hba:Below w1.heap.size w1 Wa:=by rw[hWa];exact (Below.refl _ _).alloc (Nat.le_refl _) _
 have hbm:Below Wa.heap.size Wa Wm:=by rw[hWm];exact (Below.refl _ _).alloc (Nat.le_refl _) _
 have hb':Below Wm.heap.size Wm W':=by rw[hW'];exact (Below.refl _ _).alloc (Nat.le_refl _) _
 have na:Wa.heap[A0]? = some (.cells (BA A0 1).cells 138 (0,0)):=by rw[hWa,hA0];exact heap_alloc_new w1 _
 have nm:EB Wm (A0+1) 0 λ_=>none:=by rw[hWm,<-za];exact T7 Wa
 have ns:W'.heap[A0+2]? = some (.cells #[.pointer (some ⟨A0,0,none⟩),.int .i64 0] 133 (0,0)):=by rw[hW',<-zm,hA0];exact heap_alloc_new Wm _
 have hb1:Below w1.heap.size w1 W':=(hba.trans (hbm.mono (by omega))).trans (hb'.mono (by omega))
 obtain⟨g,c',W2,hrun,hst2,hk2,hg,hgl2⟩:=Q3 W' (A0+2) A0 (BA A0 1) 1 cv gw [(x0,0)] rfl ns (AX hs hb1) (by omega) 129
 rw[hA0,hW',hWm,hWa]at hrun;refine⟨g,c',W2,hrun,yH ?_⟩;obtain⟨W6,hW6⟩:∃W,W=W2.alloc (.cells #[.pointer (some ⟨tb,0,none⟩),.map (some (w1.heap.size+1)),.slice (some ⟨g,0,none⟩) 2 c',.slice none 0 0,.slice none 0 0] 186):=⟨_,rfl⟩;have z2:=hk2.size;have z6:W6.heap.size=W2.heap.size+1:=by rw[hW6];simp
 have hb6:Below W2.heap.size W2 W6:=by rw[hW6];exact (Below.refl _ _).alloc (Nat.le_refl _) _
 have n6:W6.heap[W2.heap.size]? = some (.cells #[.pointer (some ⟨tb,0,none⟩),.map (some (w1.heap.size+1)),.slice (some ⟨g,0,none⟩) 2 c',.slice none 0 0,.slice none 0 0] 186 (0,0)):=by rw[hW6];exact heap_alloc_new W2 _
 rw[<-hW6];have old6:∀k,k<A0+3->k≠A0+2->W6.heap[k]? = W'.heap[k]?:=λk hk hne=>(hb6.block k (by omega)).trans (hk2.block k (by omega) hne)
 have a6:W6.heap[A0]? = some (.cells (BA A0 1).cells 138 (0,0)):=(old6 A0 (by omega) (by omega)).trans (((hb'.block A0 (by omega)).trans (hbm.block A0 (by omega))).trans na)
 have hb9:Below w1.heap.size w1 W6:=by
  have e2:Below w1.heap.size W' W2:=hk2.toBelow (by omega) (λk hk=>by omega)
  exact (hb1.trans e2).trans (hb6.mono (by omega))
 have hab:(BA A0 1).ab=w1.heap.size:=hA0;obtain⟨s,H,e1,e2,e3,e4,e5,e6⟩:=M7 (n:=1) (sts:=[(x0,0)]) (above:=BA A0 1) (ix:=λx=>if x.blk=A0 then 0 else 4096) hpos hw htS (X':=X') (by simpa using hN) hA hT (λy hy=>by
   have hy:y ∈ [x0]:=hy;rw[List.mem_singleton]at hy;subst hy;have:y.ab=w.heap.size:=by rw[hx0];rfl
   exact⟨by omega,by omega⟩) (λy hy=>by
   rw[List.mem_singleton]at hy;subst hy;rw[hx0];exact⟨rfl,λh=>absurd rfl h⟩) (if_pos rfl) ⟨hA0,rfl,rfl,λh=>absurd rfl h,.inl hab⟩ hb9 rfl rfl (by
   rw[<-hA0];exact nm.block ((old6 _ (by omega) (by omega)).trans (hb'.block _ (by omega)))) (AG hst2 λk hk=>by
   simp only[Value.ownBlock,Option.some.injEq]at hk;subst hk;exact hb6.block g hgl2) (by omega) hgl2 (by omega) n6 (by rw[hab];omega) (.inl hab) (λX hX hX1 _=>by
   refine⟨a6,hX1,.inl rfl,⟨Nat.le_refl _,Nat.zero_le _⟩,⟨by show 0<4096;omega,by show 1<=1000;omega,by show 0<=1000000;omega⟩,⟨by simp[BA],λe he=>by cases he⟩,λ_ h=>absurd rfl h⟩)
 have hxo:=e6 x0 (by simp)
 have hne:x0.blk≠A0:=by omega
 simp only[if_neg hne]at hxo;refine⟨W2.heap.size,w1.heap.size+1,_,_,BA A0 1,x0,rfl,⟨H.take4096 hxo,by show upd s.M 4096 _=_;rw[e3],⟨e4,e5⟩,⟨rfl,rfl,rfl,rfl,rfl,rfl,rfl⟩,by rw[hx0];exact⟨rfl,rfl,rfl,rfl,rfl,rfl,rfl,rfl⟩⟩,e1,e2⟩
theorem OI (x:AU J B S c h G w)(hw:AH w tb c.a r)(htS:¬S tb)(hkn:key.length=kn)(hK:AK w KA key) :
  Calls Tryz.prog 77 #[.pointer (some ⟨tb,0,none⟩),.int .i64 0,.slice KA kn kc] w (KJ J B S c h G w tb r):=by
 have hpos:1<=w.heap.size:=x.tab.1.1;have HWY:Hid (Calls Tryz.prog 76 #[.pointer (some ⟨tb,0,none⟩),.int .i64 0,.slice KA kn kc] w λe w1=>∃(gw cv:Nat),e=.returned (.tuple #[.slice (some ⟨gw,0,none⟩) 1 cv,.bool false])/\w1.cell? ⟨gw,0,none⟩=some (.pointer (some ⟨w.heap.size,0,none⟩))/\w1.cell? ⟨w.heap.size,1,none⟩=some (.int .i64 0) /\
   ∃g c' W2,(Builtin.append_ #[129,129] 129 #[.slice (some ⟨w1.heap.size+2,0,none⟩) 1 1,.slice (some ⟨gw,0,none⟩) 1 cv]).run Tryz.prog (((w1.alloc (.cells #[.int .i64 0,.int .i64 1,.slice none 0 0,.string ⟨#[]⟩,.int .i64 0] 138)).alloc (.map #[] 0)).alloc (.cells #[.pointer (some ⟨w1.heap.size,0,none⟩),.int .i64 0] 133))=.ok (.slice (some ⟨g,0,none⟩) 2 c') W2 /\
   Hid (KJ J B S c h G w tb r (.returned (.tuple #[.pointer (some ⟨W2.heap.size,0,none⟩),.bool false])) (W2.alloc (.cells #[.pointer (some ⟨tb,0,none⟩),.map (some (w1.heap.size+1)),.slice (some ⟨g,0,none⟩) 2 c',.slice none 0 0,.slice none 0 0] 186)))):=yH ((Y6 (kc:=kc) x hw hkn hK).mono λe w1 hp=>by
  obtain⟨sts,a,cv,b,S',X',rfl,⟨rfl,rfl⟩,hN,hs,hA,hT,hnew,hrow,hfr⟩:=hp;obtain⟨gw,rfl,c1,c2,hx⟩:=AY0 hpos hw htS rfl (by simpa using hN) hs hA hT
  exact⟨gw,cv,rfl,c1,c2,hx⟩)
 clear x hw htS hkn hK hpos;go_enter Tryz.func77,Tryz.ntmps77;go_wp2_with fail;refine HWY.out.mono ?_;rintro e w1 ⟨gw,cv,rfl,c1,c2,g,c',W2,hrun,HP⟩;clear HWY;have hmm:=@run_makeMap Tryz.prog;go_wp2_with (at_builtin;refine Lib.wpList_append_run _ rfl _ _ 129 129 rfl _ _ rfl rfl _ _ hrun ?_)
 go_ret2;exact HP.out
end
section
variable {K:Kc} {s:Hst} {w:World}
theorem Hnd.rewayed (H:Hnd K s w){way:List (NO × Nat)}(hw:BL w K.wv way):Hnd { K with way:=way } s w :=
 ⟨H.pos,H.tree,H.act,H.sub,H.turn,H.low,H.lt,H.chg,H.map,⟨hw,H.way.2⟩,H.tak,H.gon,H.node,H.was,H.gok,H.tok⟩
theorem AP2 (H:Hnd K s w){l:List (NO × Nat)}{x:NO}{a:Nat}(hl:K.way=l++[(x,a)])(h9:K.way.length<=1000) :
  Calls Tryz.prog 79 #[.pointer (some ⟨K.cb,0,none⟩)] w λe w'=>e=.returned (.agg #[x.ptr,.int .i64 a])/\Below w.heap.size w w':=by
 obtain⟨g,cap,hv,d1,d2⟩:=H.wayAt (j:=l.length) (x:=x) (a:=a) (by rw[hl,List.getElem?_append_right (Nat.le_refl _),Nat.sub_self];rfl)
 have c2:=H.cb2;rw[hv]at c2;have hN:K.way.length=l.length+1:=by rw[hl];simp
 rw[hN]at c2 h9;have hcl:=H.cbl;have hgl:g<w.heap.size:=by
  have:=JV H.way.1 g (by rw[hv];rfl)
  exact this
 obtain⟨n,hn⟩:∃n,n=l.length:=⟨_,rfl⟩;rw[<-hn]at c2 d1 d2 h9;obtain⟨cb,hcb⟩:∃b,b=K.cb:=⟨_,rfl⟩;rw[<-hcb]at c2 hcl ⊢
 obtain⟨W,hW⟩:∃W,W=w.alloc (.cells #[.pointer none,.int .i64 0] 133):=⟨_,rfl⟩;have hb:Below w.heap.size w W:=by rw[hW];exact (Below.refl _ _).alloc (Nat.le_refl _) _
 have hr:W.heap[w.heap.size]? = some (.cells #[.pointer none,.int .i64 0] 133 (0,0)):=by rw[hW];exact heap_alloc_new w _
 have e2:=(hb.cell (p:=⟨cb,2,none⟩) hcl).trans c2;have e3:=(hb.cell (p:=⟨g,n*2,none⟩) hgl).trans d1;have e4:=(hb.cell (p:=⟨g,n*2+1,none⟩) hgl).trans d2;have r0:W.cell? ⟨w.heap.size,0,none⟩=some (.pointer none):=by rw[yC hr];rfl
 have r1:W.cell? ⟨w.heap.size,1,none⟩=some (.int .i64 0):=by rw[yC hr];rfl
 have r2:W.frozen? ⟨w.heap.size,0,none⟩=false:=by simp[World.frozen?,hr]
 have r3:W.frozen? ⟨w.heap.size,1,none⟩=false:=by simp[World.frozen?,hr]
 have h1:=BW (i:=0) hr x.ptr;have h2:=BW (i:=1) h1 (.int .i64 a);have q0:((W.setCell ⟨w.heap.size,0,none⟩ x.ptr).setCell ⟨w.heap.size,1,none⟩ (.int .i64 a)).drew.cell? ⟨w.heap.size,0,none⟩=some x.ptr:=(yC h2 0).trans rfl;have q1:((W.setCell ⟨w.heap.size,0,none⟩ x.ptr).setCell ⟨w.heap.size,1,none⟩ (.int .i64 a)).drew.cell? ⟨w.heap.size,1,none⟩=some (.int .i64 a):=(yC h2 1).trans rfl;have HB:Hid (Below w.heap.size w ((W.setCell ⟨w.heap.size,0,none⟩ x.ptr).setCell ⟨w.heap.size,1,none⟩ (.int .i64 a)).drew):=yH (by
  have hk:AC (λk=>k=w.heap.size) W ((W.setCell ⟨w.heap.size,0,none⟩ x.ptr).setCell ⟨w.heap.size,1,none⟩ (.int .i64 a)):=(AC.setCell (λk=>k=w.heap.size) _ (b:=w.heap.size) (i:=0) rfl x.ptr).trans (AC.setCell (λk=>k=w.heap.size) _ (b:=w.heap.size) (i:=1) rfl (.int .i64 a)) (λk e=>.inl e)
  exact (hb.trans (hk.toBelow hb.size (λi e=>Nat.le_of_eq e.symm))).drew)
 unfold NO.ptr at *
 obtain⟨xb,hxb⟩:∃b,b=x.blk:=⟨_,rfl⟩;rw[<-hxb]at e3 q0 q1 HB ⊢
 have f1:IntKind.i64.wrap (n:Int)=n:=IntWalk.i64_in _ (by omega)
 have f2:n<n+1:=by omega
 have f3:(n:Int)<(n:Int)+1:=by omega
 have f4:(0:Int)<=(n:Int):=by omega
 clear H hl hv d1 d2 c2 hN hcl hgl hn hcb hb hr h1 h2 hxb;go_enter Tryz.func79,Tryz.ntmps79;go_wp2;rw[<-hW];clear hW;go_still_tail 12,(by kernel_rfl)
 go_wp2;exact bodyPost_ret (v:=.agg #[.pointer (some ⟨xb,0,none⟩),.int .i64 a]) (by simp[results,Tryz.results79,go_sem,q0,q1]) rfl ⟨rfl,HB.out⟩
def K3 (K:Kc)(s:Hst)(x:NO)(w':World):Prop :=
 ∃(q:Nat) (h':Hd) (s':Hst) (above':NO),s.h.NextIs q h'/\Hnd { K with way:=[(above',0),(x,0)] } s' w'/\s'.h=h'/\s'.G=upd s.G q A9/\s'.M=upd (upd (upd s.M 4096 none) q (some { x with page:=q })) 0 (some above')/\s'.gn=s.gn /\
  above'.page=0/\above'.level=1/\above'.ens=[⟨[],pgV q⟩]/\above'.was=[]/\above'.sole=true/\above'.cap=1
variable {above x:NO}
theorem AT9 (B0:Y1 K s above x w)(hway:K.way=[(above,0),(x,0)]){e:Ending}{w1:World}(hp:K5 K s 4096 x e w1) :
  e=.returned (.int .i64 0)/\∃q gw cap:Nat,q<4096/\(K.cb≠above.blk/\gw≠above.blk/\x.blk≠above.blk)/\∀W,Below w1.heap.size w1 W->(W.cell? ⟨K.cb,2,none⟩=some (.slice (some ⟨gw,0,none⟩) 2 cap)/\W.cell? ⟨gw,0,none⟩=some above.ptr/\W.cell? ⟨x.blk,0,none⟩=some (.int .i64 q)) /\
   Calls Tryz.prog 118 #[.slice none 0 0,.int .i64 q] W λe w7=>∃vb,e=.returned (.agg #[.slice none 0 0,.slice (some ⟨vb,0,none⟩) 2 2])/\Below w1.heap.size w1 w7/\Below w1.heap.size w1 (w7.alloc (.cells #[.slice none 0 0,.slice (some ⟨vb,0,none⟩) 2 2] 135)) /\
    w7.cell? ⟨above.blk,2,none⟩=some (.slice none 0 0)/\w7.frozen? ⟨above.blk,2,none⟩=false/\above.blk<w7.heap.size/\Hid (K3 K s x ((w7.alloc (.cells #[.slice none 0 0,.slice (some ⟨vb,0,none⟩) 2 2] 135)).setCell ⟨above.blk,2,none⟩ (.slice (some ⟨w7.heap.size,0,none⟩) 1 1))):=by
 obtain⟨rfl,q,h',S',ρ',av',hnx,H1⟩:=hp;obtain⟨hok',q1,q2,hnq,hhas,hroots⟩:=hnx.spec B0.H.act.ok;obtain⟨g,cap,hv,d1,_⟩:=H1.wayAt (j:=0) (x:=above) (a:=0) (by rw[hway];rfl)
 have hl2:K.way.length=2:=by rw[hway];rfl
 rw[hl2]at hv;rw[Nat.zero_mul]at d1;have c2:=H1.cb2;rw[hv]at c2;have hgl:g<w1.heap.size:=JV H1.way.1 g (by rw[hv];rfl)
 have hM0:(upd (upd s.M 4096 none) q (some { x with page:=q })) 0=some above:=by
  rw[AA _ _ (by omega),AA _ _ (by omega),B0.M,AA _ _ (by omega),AB]
 have hMq:(upd (upd s.M 4096 none) q (some { x with page:=q })) q=some { x with page:=q }:=AB _ _ _;have hxn:=(H1.node q _ hMq).at_;have hxl:x.blk<w1.heap.size:=hxn.lt;have r1:=H1.chg.2;have r2:=(H1.node 0 above hM0).blk;have r3:=(H1.node q _ hMq).blk;have r4:=H1.way.2 g (by rw[hv];rfl)
 dsimp only at r1 r2 r3 r4
 refine⟨rfl,q,g,cap,q2,⟨λe=>by rw[e,r2]at r1;omega,λe=>by rw[e,r2]at r4;omega,λe=>by rw[e,r2]at r3;omega⟩,λW hb=>⟨⟨(hb.cell (p:=⟨K.cb,2,none⟩) H1.cbl).trans c2,(hb.cell (p:=⟨g,0,none⟩) hgl).trans d1,(hb.cell (p:=⟨x.blk,0,none⟩) hxl).trans hxn.c0⟩,?_⟩⟩
 have HW:=H1.below hb;refine (J3 none 0 0 q W q2).mono ?_;rintro e w7 ⟨vb,rfl,hvb,hrv,hb7⟩;have H7:=HW.below hb7;have hb17:Below w1.heap.size w1 w7:=AE hb hb7;obtain⟨W8,hW8⟩:∃W,W=w7.alloc (.cells #[.slice none 0 0,.slice (some ⟨vb,0,none⟩) 2 2] 135):=⟨_,rfl⟩;have hb8:Below w7.heap.size w7 W8:=by rw[hW8];exact (Below.refl _ _).alloc (Nat.le_refl _) _
 have n8:W8.heap[w7.heap.size]? = some (.cells #[.slice none 0 0,.slice (some ⟨vb,0,none⟩) 2 2] 135 (0,0)):=by rw[hW8];exact heap_alloc_new w7 _
 have han:=(H7.node 0 above hM0).at_;have ha2:=han.c2;obtain⟨a1,a2,a3,a4,a5,a6,a7⟩:=B0.ab;rw[a7,a3,a6]at ha2;have hz8:W8.heap.size=w7.heap.size+1:=by rw[hW8];simp
 refine⟨vb,rfl,?_⟩;rw[<-hW8];refine⟨hb17,AE hb17 hb8,ha2,han.frozen 2,han.lt,yH ?_⟩;have hzW:=HW.lt;have hρ0:ρ' vb=0:=by
  rcases Nat.eq_zero_or_pos (ρ' vb) with e|e
  ·exact e
  ·have:=hzW vb (by show ρ' vb≠0;omega);omega
 obtain⟨ρ2,H8⟩:=H7.newRow (i:=0) (n:=above) hM0 hb8 (g:=w7.heap.size) (c:=1) (Nat.le_refl _) (vs:=[.slice none 0 0,.slice (some ⟨vb,0,none⟩) 2 2]) (R:=[]) (es:=[⟨[],pgV q⟩]) n8
  ⟨A7.nil_ _ _,⟨some ⟨vb,0,none⟩,2,rfl,Nat.le_refl _,by unfold maxLen;omega,hrv,λad ha _=>by cases ha;exact λhx=>hx hρ0⟩,trivial⟩ ⟨Nat.le_refl _,by unfold maxLen;omega⟩ ⟨by simp,λy hy=>by
   rw[List.mem_singleton]at hy;subst hy;simp[pgV]⟩
 have H9:=H8.rewayed (way:=[({ above with ens:=[⟨[],pgV q⟩],arr:=some ⟨w7.heap.size,0,none⟩,cap:=1,sole:=true },0),(x,0)]) (by
  have:=H8.way.1
  rw[hway]at this;exact RZ this rfl)
 exact⟨q,h',_,_,hnx,H9,rfl,rfl,rfl,rfl,a1,a2,rfl,a4,rfl,rfl⟩
theorem BQ6 (B0:Y1 K s above x w)(hway:K.way=[(above,0),(x,0)]){U:List Nat}{k:Nat}(hr:CU s.h U (k+1)) :
  Calls Tryz.prog 78 #[.pointer (some ⟨K.cb,0,none⟩)] w λe w'=>e=.returned (.int .i64 0)/\K3 K s x w':=by
 have HEN:=yH (AP2 B0.H (l:=[(above,0)]) (x:=x) (a:=0) (by rw[hway];rfl) (by rw[hway];simp))
 have hM4:s.M 4096=some x:=by rw[B0.M,AB]
 have HHO:Hid (∀W,Below w.heap.size w W->Calls Tryz.prog 119 #[.pointer (some ⟨K.cb,0,none⟩),x.ptr] W (λe w1=>e=.returned (.int .i64 0)/\∃q gw cap:Nat,q<4096/\(K.cb≠above.blk/\gw≠above.blk/\x.blk≠above.blk)/\Hid (∀W,Below w1.heap.size w1 W->(W.cell? ⟨K.cb,2,none⟩=some (.slice (some ⟨gw,0,none⟩) 2 cap)/\W.cell? ⟨gw,0,none⟩=some above.ptr/\W.cell? ⟨x.blk,0,none⟩=some (.int .i64 q)) /\
   Calls Tryz.prog 118 #[.slice none 0 0,.int .i64 q] W λe w7=>∃vb,e=.returned (.agg #[.slice none 0 0,.slice (some ⟨vb,0,none⟩) 2 2])/\Below w1.heap.size w1 w7/\Below w1.heap.size w1 (w7.alloc (.cells #[.slice none 0 0,.slice (some ⟨vb,0,none⟩) 2 2] 135)) /\
    w7.cell? ⟨above.blk,2,none⟩=some (.slice none 0 0)/\w7.frozen? ⟨above.blk,2,none⟩=false/\above.blk<w7.heap.size/\Hid (K3 K s x ((w7.alloc (.cells #[.slice none 0 0,.slice (some ⟨vb,0,none⟩) 2 2] 135)).setCell ⟨above.blk,2,none⟩ (.slice (some ⟨w7.heap.size,0,none⟩) 1 1)))))):=yH λW hb =>
  (XI (B0.H.below hb) hM4 (.inr (Nat.le_refl _)) B0.x.2.2.2.1 hr).mono λe w1 hp=>by
   obtain⟨rfl,q,gw,cap,h1,h3,h2⟩:=AT9 ⟨B0.H.below hb,B0.M,B0.tg,B0.ab,B0.x⟩ hway hp;exact⟨rfl,q,gw,cap,h1,h3,yH h2⟩
 unfold NO.ptr at *
 obtain⟨xb,hxb⟩:∃b,b=x.blk:=⟨_,rfl⟩;obtain⟨ab,hab⟩:∃b,b=above.blk:=⟨_,rfl⟩;obtain⟨cb,hcb⟩:∃b,b=K.cb:=⟨_,rfl⟩;rw[<-hxb,<-hcb]at HEN HHO;rw[<-hab]at HHO;rw[<-hcb];clear B0 hway hr hM4 hxb hab hcb;have hfd:∀W:World,(Instr.field 133 (.agg #[.pointer (some ⟨xb,0,none⟩),.int .i64 0]) 0).run Tryz.prog W=.ok (.pointer (some ⟨xb,0,none⟩)) W:=λ_=>by kernel_rfl
 go_enter Tryz.func78,Tryz.ntmps78;go_wp2_with fail;refine HEN.out.mono ?_;rintro e w0 ⟨rfl,hb0⟩;go_wp2_with fail;refine (HHO.out w0 hb0).mono ?_;rintro e w1 ⟨rfl,q,gw,cap,hq4,⟨n1,n2,n3⟩,HF⟩;clear HEN HHO hb0;go_wp2;have HS0:Hid (w1.drew.cell? ⟨cb,2,none⟩=some (.slice (some ⟨gw,0,none⟩) 2 cap)/\w1.drew.cell? ⟨gw,0,none⟩=some (.pointer (some ⟨ab,0,none⟩))/\w1.drew.cell? ⟨xb,0,none⟩=some (.int .i64 q)):=yH (HF.out _ (Below.refl _ _).drew).1;have HQ:Hid (∀W:World,(W.cell? ⟨cb,2,none⟩=some (.slice (some ⟨gw,0,none⟩) 2 cap)/\W.cell? ⟨gw,0,none⟩=some (.pointer (some ⟨ab,0,none⟩))/\W.cell? ⟨xb,0,none⟩=some (.int .i64 q))->W.cell? ⟨cb,2,none⟩=some (.slice (some ⟨gw,0,none⟩) 2 cap)/\W.cell? ⟨gw,0,none⟩=some (.pointer (some ⟨ab,0,none⟩))/\W.cell? ⟨xb,0,none⟩=some (.int .i64 q)):=yH λ_ h=>h
 refine wp_region_held_drew (S:=λW=>W.cell? ⟨cb,2,none⟩=some (.slice (some ⟨gw,0,none⟩) 2 cap)/\W.cell? ⟨gw,0,none⟩=some (.pointer (some ⟨ab,0,none⟩))/\W.cell? ⟨xb,0,none⟩=some (.int .i64 q)) (by kernel_rfl) HS0.out (λhHeld=>?_)
 refine wpAnyH_take (i:=0) (v:=.pointer (some ⟨cb,0,none⟩)) rfl (by kernel_rfl) (by kernel_rfl) (by kernel_rfl) (λ_ _ _ h=>h) (Or.inl ⟨by rfl,λW hW=>by go_simp⟩) HS0.out ?_
 refine wpAnyH_take (i:=1) (v:=.pointer (some ⟨cb,0,none⟩)) rfl (by kernel_rfl) (by kernel_rfl) (by kernel_rfl) (λ_ _ _ h=>h) (Or.inl ⟨by rfl,λW hW=>by go_simp⟩) HS0.out ?_
 refine wpAnyH_take (i:=2) (v:=.pointer (some ⟨cb,2,none⟩)) rfl (by kernel_rfl) (by kernel_rfl) (by kernel_rfl) (λ_ _ _ h=>h) (Or.inl ⟨by rfl,λW hW=>by go_simp⟩) HS0.out ?_
 refine wpAnyH_take (i:=3) (v:=.slice (some ⟨gw,0,none⟩) 2 cap) rfl (by kernel_rfl) (by kernel_rfl) (by kernel_rfl) (λ_ _ _ h=>h) (Or.inl ⟨by rfl,λW hW=>by have x1:=(HQ.out W hW).1;clear hW;go_simp⟩) HS0.out ?_
 refine wpAnyH_take (i:=4) (v:=.pointer (some ⟨gw,0,none⟩)) rfl (by kernel_rfl) (by kernel_rfl) (by kernel_rfl) (λ_ _ _ h=>h) (Or.inl ⟨by rfl,λW hW=>by go_simp⟩) HS0.out ?_
 refine wpAnyH_take (i:=5) (v:=.pointer (some ⟨gw,0,none⟩)) rfl (by kernel_rfl) (by kernel_rfl) (by kernel_rfl) (λ_ _ _ h=>h) (Or.inl ⟨by rfl,λW hW=>by go_simp⟩) HS0.out ?_
 refine wpAnyH_take (i:=6) (v:=.pointer (some ⟨ab,0,none⟩)) rfl (by kernel_rfl) (by kernel_rfl) (by kernel_rfl) (λ_ _ _ h=>h) (Or.inl ⟨by rfl,λW hW=>by have x1:=(HQ.out W hW).2.1;clear hW;go_simp⟩) HS0.out ?_
 refine wpAnyH_take (i:=7) (v:=.pointer (some ⟨xb,0,none⟩)) rfl (by kernel_rfl) (by kernel_rfl) (by kernel_rfl) (λ_ _ _ h=>h) (Or.inl ⟨by rfl,λW hW=>by go_simp⟩) HS0.out ?_
 refine wpAnyH_take (i:=8) (v:=.pointer (some ⟨xb,0,none⟩)) rfl (by kernel_rfl) (by kernel_rfl) (by kernel_rfl) (λ_ _ _ h=>h) (Or.inl ⟨by rfl,λW hW=>by go_simp⟩) HS0.out ?_
 refine wpAnyH_take (i:=9) (v:=.pointer (some ⟨xb,0,none⟩)) rfl (by kernel_rfl) (by kernel_rfl) (by kernel_rfl) (λ_ _ _ h=>h) (Or.inl ⟨by rfl,λW hW=>by go_simp⟩) HS0.out ?_
 refine wpAnyH_take (i:=10) (v:=.int .i64 q) rfl (by kernel_rfl) (by kernel_rfl) (by kernel_rfl) (λ_ _ _ h=>h) (Or.inl ⟨by rfl,λW hW=>by have x1:=(HQ.out W hW).2.2;clear hW;go_simp⟩) HS0.out ?_
 refine wpAnyH_ready (rs:=[11]) (by kernel_rfl) (by simp) ?_
 refine AllReadyH.cons rfl (λK' hK=>?_) AllReadyH.nil
 go_simp
 go_at_call 118;refine (HF.out _ (Below.refl _ _).drew).2.mono ?_;rintro e w7 ⟨vb,rfl,hb7,hb8,d1,d2,d3,HP⟩;have HS7:=yH (HF.out _ hb7).1;have HS8:=yH (HF.out _ hb8).1;clear HF hb7 hb8;refine hK.out _ _ HS7.out (λhHeld2=>?_)
 clear hK K' hHeld hHeld2;refine wpAnyH_ready (rs:=[12]) (by kernel_rfl) (by simp) ?_
 refine AllReadyH.cons rfl (λK' hK=>?_) AllReadyH.nil
 go_simp
 refine hK.out _ _ HS8.out (λhHeld3=>?_)
 clear hK K' hHeld3;refine wpAnyH_take (i:=13) (v:=.pointer (some ⟨ab,0,none⟩)) rfl (by kernel_rfl) (by kernel_rfl) (by kernel_rfl) (λ_ _ _ h=>h) (Or.inl ⟨by rfl,λW hW=>by go_simp⟩) HS8.out ?_
 refine wpAnyH_take (i:=14) (v:=.pointer (some ⟨ab,2,none⟩)) rfl (by kernel_rfl) (by kernel_rfl) (by kernel_rfl) (λ_ _ _ h=>h) (Or.inl ⟨by rfl,λW hW=>by go_simp⟩) HS8.out ?_
 refine wpAnyH_ready (rs:=[15]) (by kernel_rfl) (by simp) ?_
 refine AllReadyH.cons rfl (λK' hK=>?_) AllReadyH.nil
 go_simp
 rw[<-World.setCell_alloc_past _ _ _ _ d3];have ho:∀(W:World) (b j:Nat) (v:Value),b≠ab->(W.setCell ⟨ab,2,none⟩ v).cell? ⟨b,j,none⟩=W.cell? ⟨b,j,none⟩:=λW b j v hb=>World.cell?_setCell_other _ _ _ _ (λh=>hb (by injection h with e;exact e.symm))
 refine hK.out _ _ ⟨(ho _ cb 2 _ n1).trans HS8.out.1,(ho _ gw 0 _ n2).trans HS8.out.2.1,(ho _ xb 0 _ n3).trans HS8.out.2.2⟩ (λhHeld4=>?_)
 clear hK K' hHeld4;refine wpAnyH_done (by kernel_rfl) ?_ _
 go_wp2;go_ret;exact⟨rfl,HP.out⟩
end
theorem CU.le {h:Hd}{U:List Nat}{k j:Nat}(hr:CU h U k)(hj:j<=k):CU h U j:=⟨hr.1,by have:=hr.2;omega⟩
theorem OG {X:Nat->Prop}{n:NO}{A B:List En}{key val:List UInt8}{w:World}(hn:AM X w n)(hs:n.sole=true)(hcap:n.cap=n.ens.length)(h0:n.ens=[]->n.arr=none)(he:n.ens=A++B)(h5:n.ens.length<=511){vb:Nat}{kv vv:Value}(hv:w.heap[vb]? = some (.cells #[kv,vv] 135 (0,0)))(hk:A7 X w kv key)(hvv:A7 X w vv val) :
  Calls Tryz.prog 80 #[.slice n.arr n.ens.length n.cap,.int .i64 A.length,.slice (some ⟨vb,0,none⟩) 1 1] w λe w'=>∃(g c:Nat) (vs R:List Value),e=.returned (.slice (some ⟨g,0,none⟩) (n.ens.length+1) c)/\n.ens.length+1<=c/\c<=maxLen/\w.heap.size<=g/\w'.heap[g]? = some (.cells (vs++R).toArray 135 (0,0))/\BE X w vs (A++⟨key,val⟩::B)/\Below w.heap.size w w':=by
 have hone:kv.oneCell'=true/\vv.oneCell'=true:=⟨hk.one,hvv.one⟩;have hnew:BE X w [kv,vv] [⟨key,val⟩]:=⟨hk,hvv,trivial⟩;by_cases hne:n.ens=[]
 ·have hA:A=[]/\B=[]:=by rw[hne]at he;simpa using he.symm
  obtain⟨rfl,rfl⟩:=hA;rw[h0 hne,hcap,hne];refine (AK3 vb kv vv w hv).mono ?_;rintro e w' ⟨g,c,R',rfl,h1,h2,h3,h4,h6⟩;exact⟨g,c,[kv,vv],R',rfl,h1,h2,h3,by rw[h4];simp,hnew,h6⟩
 ·obtain⟨g0,harr⟩:=hn.alone hs hne;have hent:=hn.ents;rw[harr]at hent;obtain⟨Lz,vs,R,hLz,hrow⟩:=hent.row hne;obtain rfl:Lz=[]:=List.eq_nil_of_length_eq_zero hLz;have hpr:=hrow.pairs;rw[he]at hpr;obtain⟨P,Q,rfl,hpP,hpQ⟩:=hpr.split A B;have hPl:=hpP.len;have hQl:=hpQ.len;have hN:n.ens.length=A.length+B.length:=by rw[he];simp
  have hpos:=List.length_pos_iff.2 hne;have hins:=QS g0 n.ens.length A.length vb P Q R kv vv w (by rw[hrow.blk];simp) hv hPl (by rw[hQl];congr 1;omega) (by omega) (by omega) (by omega) hpQ.one hone
  rw[harr,hcap];refine hins.mono ?_;rintro e w' ⟨g,c,R',rfl,h1,h2,h3,h4,h6⟩;exact⟨g,c,P++([kv,vv]++Q),R',rfl,h1,h2,h3,by rw[h4];simp,hpP.app (hnew.app hpQ),h6⟩
section
variable {K:Kc} {s:Hst} {L:Nat} {t:Tr L} {key val:List UInt8} {b:Bool} {above:NO} {sts pre:List (NO × Nat)} {x0:NO} {c0:Tr 0} {z0:Zip 0} {w:World} {U:List Nat}
def KY (K:Kc)(h:Hd)(G:Nat->List UInt8)(ps:List Nat)(F':List En)(W:World):Prop :=
 Calls Tryz.prog 81 #[.pointer (some ⟨K.cb,0,none⟩)] W λe w'=>e=.returned (.int .i64 0)/\CN K.J K.B K.S0 K.c h G K.tb K.r ps F' K.w0 w'
theorem D4.settle (h:D4 K s t key b above sts w)(st:EY s.h s.G t)(e:GT (FF s.h s.G) key t.flat (0::t.pages) b sts [(above,0)] pre x0 c0 z0)(hat:∀p had,z0.Hat p had)(hr16:K.r<16)(hC:∀q,(K.c.C q).length=512)(hrm:CU s.h U 16){x':NO}{c':Tr 0}{F':List En}{ρ':Nat->Nat}{W:World}(H':Hnd K { s with M:=upd s.M x0.page (some x'),ρ:=ρ' } W)
  (hm:Mid z0 c' c0.size F' (0::t.pages) [] []) (hc:c'.page=c0.page) (hx:x'.blk=x0.blk/\x'.was=x0.was/\x'.level=0/\x'.ens=c'.ens/\x'.sole=true/\x'.had=x0.had):KY K s.h s.G t.pages F' W:=by
 have hL:L<=12:=st.root.level st.nodup λq hq=>(h.H.act.has_lt (st.has q hq)).2
 have hlen:K.way.length=L+2:=by rw[h.way,List.length_cons,MI h.wl]
 have hlop:=h.lop st e hat H' hm hc hx (hrm.le (j:=K.way.length) (by omega))
 have h00:¬s.h.has 0:=λh9=>by have:=(h.H.act.has_lt h9).1;omega
 refine (Z0 (by omega) hlop (λy a hy=>?_) (h.low st e) hC hr16).mono λe w' hs=>?_
 ·rw[h.way]at hy;cases hy;exact h.ab.2.2.2.1
 ·exact R5 (s0:={ s with M:=upd s.M x0.page (some x'),ρ:=ρ' }) hr16 rfl h00 hs
theorem D4.endN (h:D4 K s t key b above sts w)(st:EY s.h s.G t)(e:GT (FF s.h s.G) key t.flat (0::t.pages) b sts [(above,0)] pre x0 c0 z0):DS s.ρ w x0.page x0/\x0.level=0/\x0.ens=c0.es/\x0.sole=true/\x0.cap=x0.ens.length/\x0.ens≠[]/\x0.ens.length<=255:=by
 obtain⟨eM,_,_⟩:=h.endM st e;have hv:=e.rep.1.at_.2.2.len;have he:x0.ens=c0.es:=e.node.2.2.1;have he2:c0.ens=c0.es:=rfl;rw[he2]at hv;refine⟨h.H.node _ _ eM,e.node.2.1,he,e.node.2.2.2.2.2.1,by rw[he];exact e.node.2.2.2.2.2.2,λh0=>?_,by rw[he];exact hv.2⟩
 rw[<-he,h0]at hv;simp at hv
theorem BD1 (h:D4 K s t key true above sts w)(st:EY s.h s.G t)(e:GT (FF s.h s.G) key t.flat (0::t.pages) true sts [(above,0)] pre x0 c0 z0)(hat:∀p had,z0.Hat p had)(hr16:K.r<16)(hC:∀q,(K.c.C q).length=512)(hrm:CU s.h U 16)(hk:okL ⟨key,val⟩) :
  ∃g,x0.arr=some ⟨g,0,none⟩/\g<w.heap.size/\AP key c0.es<x0.ens.length/\∀W v,Below w.heap.size w W->A7 (λk=>s.ρ k≠0) W v val->W.frozen? ⟨g,AP key c0.es*2+1,none⟩=false/\(∃u,W.cell? ⟨g,AP key c0.es*2+1,none⟩=some u) /\
   ∀Z,Below (W.setCell ⟨g,AP key c0.es*2+1,none⟩ v).heap.size (W.setCell ⟨g,AP key c0.es*2+1,none⟩ v) Z->KY K s.h s.G t.pages (CM key val t.flat) Z:=by
 obtain⟨n1,n2,n3,n4,n5,n6,n7⟩:=h.endN st e;obtain⟨eM,_,_⟩:=h.endM st e;obtain⟨A,f,Bq,hl,hA,hf,hins⟩:=XR (k:=key) (l:=c0.es) e.at_.symm;obtain⟨g,harr⟩:=n1.at_.alone n4 n6;have hgl:g<w.heap.size:=h.H.lt g (by have:=n1.row _ harr;rw[if_pos n4]at this;dsimp only at this;omega)
 refine⟨g,harr,hgl,by rw[n3,hl,List.length_append,<-hl,<-hA];simp,λW v hb hv=>?_⟩
 obtain⟨g',harr',_,hfz,hu,HS⟩:=(h.H.below hb).setVal (x:=x0) eM n4 (by rw[n3];exact hl) hv (by have h2:okL ⟨key,val⟩:=hk;unfold okL at h2;simp only at h2;omega)
 rw[harr]at harr';injection harr' with harr'
 injection harr' with harr'
 subst harr';rw[hA]at hfz hu HS;refine⟨hfz,hu,λZ hZ=>?_⟩
 have hm:=e.was.ins val hk;rw[hins val]at hm;have H2:=HS.below hZ;rw[hf]at H2;exact h.settle st e hat hr16 hC hrm (ρ':=s.ρ) H2 hm rfl ⟨rfl,rfl,n2,rfl,n4,rfl⟩
theorem BQ2 (h:D4 K s t key false above sts w)(st:EY s.h s.G t)(e:GT (FF s.h s.G) key t.flat (0::t.pages) false sts [(above,0)] pre x0 c0 z0)(hat:∀p had,z0.Hat p had)(hr16:K.r<16)(hC:∀q,(K.c.C q).length=512)(hrm:CU s.h U 16)(hk:okL ⟨key,val⟩){W:World}(hb:Below w.heap.size w W){vb:Nat}{kv vv:Value}(hv:W.heap[vb]? = some (.cells #[kv,vv] 135 (0,0)))(hkv:A7 (λk=>s.ρ k≠0) W kv key)(hvv:A7 (λk=>s.ρ k≠0) W vv val) :
  Calls Tryz.prog 80 #[.slice x0.arr x0.ens.length x0.cap,.int .i64 (AP key c0.es),.slice (some ⟨vb,0,none⟩) 1 1] W λe w7=>∃g c:Nat,e=.returned (.slice (some ⟨g,0,none⟩) (x0.ens.length+1) c)/\(∃u,w7.cell? ⟨x0.blk,2,none⟩=some u)/\w7.frozen? ⟨x0.blk,2,none⟩=false/\x0.blk<w7.heap.size/\Below W.heap.size W w7 /\
   ∀Z,Below (w7.setCell ⟨x0.blk,2,none⟩ (.slice (some ⟨g,0,none⟩) (x0.ens.length+1) c)).heap.size (w7.setCell ⟨x0.blk,2,none⟩ (.slice (some ⟨g,0,none⟩) (x0.ens.length+1) c)) Z->KY K s.h s.G t.pages (CM key val t.flat) Z:=by
 obtain⟨n1,n2,n3,n4,n5,n6,n7⟩:=h.endN st e;obtain⟨eM,_,_⟩:=h.endM st e;obtain⟨A,Bq,hl,hA,hins⟩:=BV4 (k:=key) (l:=c0.es) e.at_.symm;have HW:=h.H.below hb;have hnW:=(HW.node _ _ eM).at_;rw[<-hA];refine (OG hnW n4 n5 (λh0=>absurd h0 n6) (by rw[n3];exact hl) (by omega) hv hkv hvv).mono ?_
 rintro e7 w7 ⟨g,c,vs,R,rfl,h1,h2,h3,h4,h5,h6⟩;have H7:=HW.below h6;have hn7:=(H7.node _ _ eM).at_;refine⟨g,c,rfl,⟨_,hn7.c2⟩,hn7.frozen 2,hn7.lt,h6,λZ hZ=>?_⟩
 have hlen:(A++⟨key,val⟩::Bq).length=x0.ens.length+1:=by rw[n3,hl];simp;omega
 have hsh:DU (A++⟨key,val⟩::Bq):=by
  have h8:=hnW.short;rw[n3,hl]at h8;have h9:okL ⟨key,val⟩:=hk;unfold okL at h9;simp only at h9;refine⟨by rw[hlen];omega,λy hy=>?_⟩
  simp only[List.mem_append,List.mem_cons]at hy;rcases hy with hy|rfl|hy
  ·exact h8.2 y (by simp[hy])
  ·exact⟨by simp only;omega,by simp only;omega⟩
  ·exact h8.2 y (by simp[hy])
 obtain⟨ρ',H8⟩:=HW.newRow eM h6 h3 h4 h5 (c:=c) ⟨by rw[hlen];exact h1,h2⟩ hsh
 rw[hlen]at H8;have hm:=e.was.ins val hk;rw[hins val]at hm;exact h.settle st e hat hr16 hC hrm (H8.below hZ) hm rfl ⟨rfl,rfl,n2,rfl,rfl,rfl⟩
end
def D3 (w W:World)(v:Value)(l:List UInt8):Prop:=∃A c,v=.slice A l.length c/\l.length<=c/\c<=maxLen/\AK W A l/\∀ad,A=some ad->w.heap.size<=ad.block
theorem D3.below {w W W':World}{v:Value}{l:List UInt8}(h:D3 w W v l)(hb:Below W.heap.size W W'):D3 w W' v l:=by
 obtain⟨A,c,h1,h2,h3,h4,h5⟩:=h;exact⟨A,c,h1,h2,h3,h4.below hb,h5⟩
theorem D3.to {w W:World}{v:Value}{l:List UInt8}{ρ:Nat->Nat}(h:D3 w W v l)(hlt:∀k,ρ k≠0->k<w.heap.size):A7 (λk=>ρ k≠0) W v l:=by
 obtain⟨A,c,h1,h2,h3,h4,h5⟩:=h;exact⟨A,c,h1,h2,h3,h4,λad ha _ hx=>by have:=hlt _ hx;have:=h5 ad ha;omega⟩
theorem CQ (w W:World)(s:ByteArray)(hw:w.heap.size<=W.heap.size)(hs:s.size<=1000) :
  ∃c W',(convert 9 102 (.string s)).run Tryz.prog W=.ok (.slice (some ⟨W.heap.size,0,none⟩) s.size c) W'/\D3 w W' (.slice (some ⟨W.heap.size,0,none⟩) s.size c) s.data.toList/\Below W.heap.size W W':=by
 have h:=run_bytes_of_string (P:=Tryz.prog) W 9 102 5 s Tryz.underlying9 Tryz.underlying102 Tryz.underlying5;obtain⟨c2,W2,h2,h3,h4,h5⟩:=B7 W s;rw[h2]at h;injection h with h6 h7
 injection h6 with h8 h9 h10
 refine⟨c2,W2,h2,⟨_,c2,rfl,h3,?_,h4,λad ha=>by cases ha;exact hw⟩,h5⟩
 rw[h10];exact grownCap_le_maxLen _ _ _ _ (by unfold maxLen;omega)
structure JB (cb xb at_ N cap:Nat)(arr:Option Addr)(key val:List UInt8)(held:Bool)(Q:World->Prop)(w:World):Prop where
 end_:∀W,Below w.heap.size w W->Calls Tryz.prog 79 #[.pointer (some ⟨cb,0,none⟩)] W λe w'=>e=.returned (.agg #[.pointer (some ⟨xb,0,none⟩),.int .i64 at_])/\Below W.heap.size W w'
 node:∀W,Below w.heap.size w W->W.cell? ⟨xb,2,none⟩=some (.slice arr N cap)/\xb<W.heap.size/\W.frozen? ⟨xb,2,none⟩=false
 small:N<=300/\at_<=N
 new:held=false->∀W vb kv vv,Below w.heap.size w W->W.heap[vb]? = some (.cells #[kv,vv] 135 (0,0))->D3 w W kv key->D3 w W vv val ->
  Calls Tryz.prog 80 #[.slice arr N cap,.int .i64 at_,.slice (some ⟨vb,0,none⟩) 1 1] W λe w7=>∃g c:Nat,e=.returned (.slice (some ⟨g,0,none⟩) (N+1) c)/\Below W.heap.size W w7/\∀Z,Below (w7.setCell ⟨xb,2,none⟩ (.slice (some ⟨g,0,none⟩) (N+1) c)).heap.size (w7.setCell ⟨xb,2,none⟩ (.slice (some ⟨g,0,none⟩) (N+1) c)) Z->Q Z
 old:held=true->at_<N/\∃g,arr=some ⟨g,0,none⟩/\g<w.heap.size/\∀W v,Below w.heap.size w W->D3 w W v val->W.frozen? ⟨g,at_*2+1,none⟩=false/\(∃u,W.cell? ⟨g,at_*2+1,none⟩=some u)/\∀Z,Below (W.setCell ⟨g,at_*2+1,none⟩ v).heap.size (W.setCell ⟨g,at_*2+1,none⟩ v) Z->Q Z
section
variable {K:Kc} {s:Hst} {L:Nat} {t:Tr L} {key val:List UInt8} {b:Bool} {above x:NO} {sts:List (NO × Nat)} {w:World} {U:List Nat}
theorem D4.putEnd (h:D4 K s t key b above sts w)(st:EY s.h s.G t)(hr16:K.r<16)(hC:∀q,(K.c.C q).length=512)(hrm:CU s.h U 16)(hk:okL ⟨key,val⟩) :
  ∃xb at_ N cap arr,JB K.cb xb at_ N cap arr key val b (KY K s.h s.G t.pages (CM key val t.flat)) w/\b=A6 key t.flat:=by
 obtain⟨pre,x0,c0,z0,e,hat⟩:=h.end_ st;obtain⟨n1,n2,n3,n4,n5,n6,n7⟩:=h.endN st e;obtain⟨eM,_,_⟩:=h.endM st e;have hw:=h.endW e;have hL:L<=12:=st.root.level st.nodup λq hq=>(h.H.act.has_lt (st.has q hq)).2
 have hlen:K.way.length=L+2:=by rw[h.way,List.length_cons,MI h.wl]
 have hbt:b=A6 key t.flat:=by
  obtain⟨_,_,_,m4⟩:=e.was.near;rw[e.at_,Bool.eq_iff_iff,m4,G9 st.ord.flat.1]
 refine⟨x0.blk,AP key c0.es,x0.ens.length,x0.cap,x0.arr,⟨λW hb=>?_,λW hb=>?_,⟨by omega,by rw[n3];exact EG _ _⟩,λhf W vb kv vv hb hv hkv hvv=>?_,λhf=>?_⟩,hbt⟩
 ·exact AP2 (h.H.below hb) hw (by omega)
 ·have hn:=((h.H.below hb).node _ _ eM).at_;exact⟨hn.c2,hn.lt,hn.frozen 2⟩
 ·subst hf;refine (BQ2 h st e hat hr16 hC hrm hk hb hv (hkv.to h.H.lt) (hvv.to h.H.lt)).mono ?_;rintro e7 w7 ⟨g,c,rfl,_,_,_,hb7,hZ⟩;exact⟨g,c,rfl,hb7,hZ⟩
 ·subst hf;obtain⟨g,h1,h2,h3,h4⟩:=BD1 h st e hat hr16 hC hrm hk;exact⟨h3,g,h1,h2,λW v hb hv=>h4 W v hb (hv.to h.H.lt)⟩
theorem AT6 (B0:Y1 K s above x w)(hr16:K.r<16)(hC:∀q,(K.c.C q).length=512)(hrm:CU s.h U 16)(hk:okL ⟨key,val⟩){w1:World}(hp:K3 K s x w1) :
  JB K.cb x.blk 0 0 0 none key val false (KY K s.h s.G [] [⟨key,val⟩]) w1:=by
 obtain⟨q,h',s',above',hnx,H1,e1,e2,e3,e4,a1,a2,a3,a4,a5,a6⟩:=hp;obtain⟨hok',q1,q2,hnq,hhas,hroots⟩:=hnx.spec B0.H.act.ok;obtain⟨b1,b2,b3,b4,b5,b6,b7,b8⟩:=B0.x;have hMq:s'.M q=some { x with page:=q }:=by rw[e3,AA _ _ (by omega),AB]
 have hM0:s'.M 0=some above':=by rw[e3,AB]
 have node:∀W,Below w1.heap.size w1 W->AM (λk=>s'.ρ k≠0) W { x with page:=q }:=λW hb=>((H1.below hb).node _ _ hMq).at_
 have c2:∀W,Below w1.heap.size w1 W->W.cell? ⟨x.blk,2,none⟩=some (.slice none 0 0):=λW hb=>by
  have:=(node W hb).c2
  dsimp only at this
  rw[b3,b6,b7]at this;exact this
 have h00:¬s.h.has 0:=λh9=>by have:=(B0.H.act.has_lt h9).1;omega
 refine⟨λW hb=>?_,λW hb=>⟨c2 W hb,(node W hb).lt,(node W hb).frozen 2⟩,⟨by omega,Nat.le_refl _⟩,λ_ W vb kv vv hb hv hkv hvv=>?_,λh=>by cases h⟩
 ·exact AP2 (K:={ K with way:=[(above',0),(x,0)] }) (H1.below hb) (l:=[(above',0)]) rfl (by simp)
 ·have HW:=H1.below hb;have hnW:=node W hb;have hins:=OG (A:=[]) (B:=[]) hnW b5 (by rw[b3,b6];rfl) (λ_=>b7) (by rw[b3];rfl) (by rw[b3];simp) hv (hkv.to H1.lt) (hvv.to H1.lt)
  dsimp only at hins
  rw[b3,b6,b7]at hins;refine hins.mono ?_;rintro e7 w7 ⟨g,c,vs,R,rfl,i1,i2,i3,i4,i5,i6⟩;refine⟨g,c,rfl,i6,λZ hZ=>?_⟩
  have hkk:okL ⟨key,val⟩:=hk;unfold okL at hkk;simp only at hkk;obtain⟨ρ',H8⟩:=HW.newRow hMq i6 i3 i4 i5 (c:=c) ⟨i1,i2⟩ ⟨by simp,λy hy=>by
   have hy:y ∈ [(⟨key,val⟩:En)]:=hy;rw[List.mem_singleton]at hy;subst hy;exact⟨by simp only;omega,by simp only;omega⟩⟩
  have H9:=H8.below hZ;have hm:=BR7 q ⟨q1,q2⟩ ⟨key,val⟩ hk;have hlop:Lop { K with way:=[(above',0),(x,0)] } s [⟨key,val⟩] [0] 1 Z:=by
   refine⟨0,_,_,0,[q],[],[(above',0)],_,_,x,0,⟨H9,hm,?_,⟨(λy hy=>by cases hy),(λy hy=>by cases hy),trivial⟩,trivial,λy hy=>?_,⟨AB _ _ _,b2,rfl,rfl,λ_=>b8⟩,by show s'.gn=[];rw[e4];exact B0.tg.2,λj=>?_,⟨?_,λj hj=>?_,λj hj=>?_⟩,?_,⟨q::U,?_⟩⟩,rfl,by show 1<2;omega,rfl,rfl,rfl,?_⟩
   ·exact⟨above',[],rfl,a1,a2,by rw[a3];rfl,λh=>h.elim,a5,by rw[a6,a3];rfl,rfl⟩
   ·rw[List.mem_singleton]at hy;subst hy;refine⟨?_,by rw[a1];omega⟩
    show upd s'.M q _ above'.page=_;rw[a1,AA _ _ (by omega)];exact hM0
   ·show s'.h.has j ↔ _;rw[e1,hhas j,List.mem_singleton]
   ·simp;omega
   ·rw[List.mem_singleton]at hj;exact .inl hj
   ·rw[List.mem_singleton]at hj;subst hj;exact⟨q1,hnq⟩
   ·refine⟨λj hj=>?_,λj hj=>?_,λj hj=>?_,λj h4 hj=>?_,⟨[],?_,λj hj=>by cases hj⟩,?_⟩
    ·show s'.h.has j;rw[e1];exact (hhas j).2 (.inl hj)
    ·have hj:s'.h.has j:=hj;rw[e1]at hj;exact ((hhas j).1 hj).imp id λe=>by simp[e]
    ·show s'.G j=s.G j;rw[e2,AA _ _ (λe:j=q=>hnq (e ▸ hj))]
    ·simp only[List.cons_append,List.nil_append,List.mem_cons,List.not_mem_nil,or_false,not_or]at hj;show upd s'.M q _ j=s.M j;rw[AA _ _ hj.2,e3,AA _ _ hj.1,AA _ _ hj.2,AA _ _ (by omega)]
    ·show s'.gn=s.gn++[];rw[e4,List.append_nil]
    ·show s'.h.roots=s.h.roots;rw[e1];exact hroots
   ·show CU s'.h (q::U) 2;rw[e1];exact (hrm.le (j:=3) (by omega)).next B0.H.act.ok hnx
   ·show 1<=1/\(0:Nat)=0/\szU ([]:List (Kid 0)) [] []<=380;refine⟨by omega,rfl,?_⟩
    simp[szU,IK]
  refine (Z0 (K:={ K with way:=[(above',0),(x,0)] }) (by show 2<=2/\2<=1000;omega) hlop (λy a hy=>?_) (λj y hj h1 h4=>?_) hC hr16).mono λe w' hs=>?_
  ·cases hy;exact a4
  ·rw[B0.M,AA _ _ (by omega),AA _ _ (by omega)]at hj
   cases hj
  ·exact R5 (K:={ K with way:=[(above',0),(x,0)] }) (s0:=s) hr16 rfl h00 hs
theorem JB.mono {cb xb at_ N cap:Nat}{arr:Option Addr}{held:Bool}{Q Q':World->Prop}(h:JB cb xb at_ N cap arr key val held Q w)(hQ:∀Z,Q Z->Q' Z):JB cb xb at_ N cap arr key val held Q' w :=
 ⟨h.end_,h.node,h.small,λhf W vb kv vv hb hv h1 h2=>(h.new hf W vb kv vv hb hv h1 h2).mono λe w7 ⟨g,c,he,hb7,hZ⟩=>⟨g,c,he,hb7,λZ hz=>hQ Z (hZ Z hz)⟩,λhf=>by
  obtain⟨h1,g,h2,h3,h4⟩:=h.old hf;refine⟨h1,g,h2,h3,λW v hb hv=>?_⟩
  obtain⟨h5,h6,h7⟩:=h4 W v hb hv;exact⟨h5,h6,λZ hz=>hQ Z (h7 Z hz)⟩⟩
end
theorem JB.stepped {cb xb at_ N cap:Nat}{arr:Option Addr}{key val:List UInt8}{held:Bool}{Q:World->Prop}{w w4:World}(h:JB cb xb at_ N cap arr key val held Q w)(hb4:Below w.heap.size w w4):∀W,Below (w4.alloc (.cells #[.pointer (some ⟨xb,0,none⟩),.int .i64 at_] 133)).heap.size (w4.alloc (.cells #[.pointer (some ⟨xb,0,none⟩),.int .i64 at_] 133)) W ->
  Below w.heap.size w W/\W.cell? ⟨w4.heap.size,0,none⟩=some (.pointer (some ⟨xb,0,none⟩))/\W.cell? ⟨w4.heap.size,1,none⟩=some (.int .i64 at_)/\W.cell? ⟨xb,2,none⟩=some (.slice arr N cap):=by
 intro W hb;have hz:(w4.alloc (.cells #[.pointer (some ⟨xb,0,none⟩),.int .i64 at_] 133)).heap.size=w4.heap.size+1:=by simp
 have hb5:Below w4.heap.size w4 (w4.alloc (.cells #[.pointer (some ⟨xb,0,none⟩),.int .i64 at_] 133)):=(Below.refl _ _).alloc (Nat.le_refl _) _;have hbw:Below w.heap.size w W:=(hb4.trans (hb5.mono hb4.size)).trans (hb.mono (by have:=hb4.size;omega))
 have hn:=heap_alloc_new w4 (.cells #[.pointer (some ⟨xb,0,none⟩),.int .i64 at_] 133);have hn2:=(hb.block w4.heap.size (by omega)).trans hn
 exact⟨hbw,by rw[yC hn2];rfl,by rw[yC hn2];rfl,(h.node W hbw).1⟩
theorem CN.older {J:List AD->Prop}{B:Nat}{S:Nat->Prop}{c:Ac}{h:Hd}{G:Nat->List UInt8}{tb r:Nat}{ps:List Nat}{F':List En}{w w1 w':World}(hp:CN J B S c h G tb r ps F' w1 w')(hb:Below w.heap.size w w1):CN J B S c h G tb r ps F' w w':=by
 obtain⟨h',G',S',ps',h1,h2,h3⟩:=hp;exact⟨h',G',S',ps',h1,(AO.ofBelow hb).trans h2,h3⟩
end Go.Proofs.YtfbbjiidccbaiaaGreatDoor
set_option maxRecDepth 100000
set_option maxHeartbeats 6400000
namespace Go.Proofs.YtfbbjiidccbaiaaGreatDoor
open Go
section
variable {P:Program} {ops:Array Oper} {Q:Exit->Act->World->Prop} {md:Region.Mode} {S:World->Prop} {zs:List Nat}
def AJ (P:Program)(md:Region.Mode)(ops:Array Oper)(Q:Exit->Act->World->Prop)(S:World->Prop)(zs:List Nat):Nat->Array Bool->Act->World->Prop
 | 0,l,a,w=>Region.ready md ops l=[]/\Q .normal a w
 | n+1,l,a,w=>(Region.ready md ops l=[]->Q .normal a w)/\∀j ∈ Region.ready md ops l,wpOp P ops Q j (λa' w'=>(zs.contains j=false->S w')/\AJ P md ops Q S zs n (l.setIfInBounds j true) a' w') a w
theorem AJ.any:∀(n:Nat) (l:Array Bool) (a:Act) (w:World),AJ P md ops Q S zs n l a w->wpAny P md ops Q n l a w
 | 0,_,_,_,h=>h
 | n+1,_,_,_,h=>⟨h.1,λj hj=>wpOp_mono (λa' w' h'=>AJ.any n _ a' w' h'.2) (h.2 j hj)⟩
def MK (md:Region.Mode)(ops:Array Oper)(z i:Nat):Bool:=i != z && (match ops[z]? with
 | some o=>o.after.any λe=>Region.binds md e && e.on == i
 | none=>true)
theorem AH1 {z i:Nat}{l:Array Bool}(h:MK md ops z i=true)(hi:l.getD i true=false):i≠z/\z ∉ Region.ready md ops l:=by
 unfold MK at h;rw[Bool.and_eq_true]at h;refine⟨by simpa using h.1,λhz=>?_⟩
 obtain⟨_,o,ho,hall⟩:=mem_ready.1 hz;have h2:=h.2;rw[ho]at h2;obtain⟨e,he,h3⟩:=Array.any_eq_true'.1 h2;rw[Bool.and_eq_true]at h3;have h4:=hall e he h3.1;rw[show e.on=i by simpa using h3.2]at h4
 rcases Nat.lt_or_ge i l.size with hl|hl
 ·simp[hl]at h4 hi;rw[hi]at h4;cases h4
 ·simp[Array.getElem?_eq_none hl]at h4
theorem AJ.before {i:Nat}{oi:Oper}{v:Value}(hi:ops[i]? = some oi)(hw:(zs.all λz=>MK md ops z i)=true)(hsel:∀(j:Nat) (o:Oper) cs b,ops[j]? = some o->o.op≠.select cs b)
  (hQ:∀c a w,Q (.panic c) (a.put oi.dst v) w->Q (.panic c) a w):∀(n:Nat) (l:Array Bool) (a:Act) (w:World),
   (∀j oj,ops[j]? = some oj->j≠i->l.getD j true=false->(∀e ∈ oj.after,Region.binds md e=true->e.on≠i)->oi.apart ops oj=true) ->
   i ∈ Region.ready md ops l->YieldsIf P ops S oi v a->S w->AJ P md ops Q S zs n (l.setIfInBounds i true) (a.put oi.dst v) w->AJ P md ops Q S zs (n+1) l a w:=by
 intro n;induction n with
 | zero =>
  intro l a w _ hr hy hS H;refine⟨λh0=>(by rw[h0]at hr;cases hr),λj hj=>?_⟩
  by_cases e:j=i
  ·subst e;exact hy.wpOp hi hS ⟨λ_=>hS,H⟩
  ·have h1:=ready_mono hj e;rw[H.1]at h1;cases h1
 | succ n ih =>
  intro l a w hfree hr hy hS H;have hun:=(mem_ready.1 hr).1;refine⟨λh0=>(by rw[h0]at hr;cases hr),λj hj=>?_⟩
  by_cases e:j=i
  ·subst e;exact hy.wpOp hi hS ⟨λ_=>hS,H⟩
  ·have hjz:zs.contains j=false:=by
    cases hc:zs.contains j with
    | false=>rfl
    | true=>exact absurd hj (AH1 (List.all_eq_true.1 hw j (by simpa using hc)) hun).2
   obtain⟨hjun,oj,hoj,hall⟩:=mem_ready.1 hj;have hno:∀e ∈ oj.after,Region.binds md e=true->e.on≠i:=λe he hb h1=>by
    have h2:=hall e he hb;rw[h1]at h2;rcases Nat.lt_or_ge i l.size with hl|hl
    ·simp[hl]at hun h2;rw[hun]at h2;cases h2
    ·simp[Array.getElem?_eq_none hl]at h2
   have h2:=wpOp_putIf hoj (hfree j oj hoj e hjun hno) (λcs b=>hsel i oi cs b hi) (λcs b=>hsel j oj cs b hoj) hQ hy (H.2 j (ready_mono hj e))
   refine wpOp_mono (λa' w' h3=>⟨λ_=>h3.2.1 hjz,ih (l.setIfInBounds j true) a' w' (λk ok hk hki hku hkn=>?_) (ready_mono hr (Ne.symm e)) h3.1 (h3.2.1 hjz) ?_⟩) h2
   ·refine hfree k ok hk hki ?_ hkn;by_cases hjk:j=k
    ·subst hjk;exact hjun
    ·rw[getD_set_ne true hjk]at hku;exact hku
   ·rw[Array.setIfInBounds_comm _ _ e];exact h3.2.2
theorem AJ.take {i:Nat}{oi:Oper}{v:Value}{n:Nat}{l:Array Bool}{a:Act}{w:World}(hi:ops[i]? = some oi)(hw:(zs.all λz=>MK md ops z i)=true)(hs:Region.noSelect ops=true)(hf:Region.free md ops l i=true)(hr:(Region.ready md ops l).contains i=true)
  (hQ:∀c a w,Q (.panic c) (a.put oi.dst v) w->Q (.panic c) a w) (hy:YieldsIf P ops S oi v a) (hS:S w) (h:AJ P md ops Q S zs n (l.setIfInBounds i true) (a.put oi.dst v) w):AJ P md ops Q S zs (n+1) l a w :=
 AJ.before hi hw (Region.noSelect_spec hs) hQ n l a w (Region.free_spec hi hf) (by simpa using hr) hy hS h
def AI (P:Program)(md:Region.Mode)(ops:Array Oper)(Q:Exit->Act->World->Prop)(S:World->Prop)(zs:List Nat)(n:Nat)(l:Array Bool)(a:Act)(w:World)(rs:List Nat):Prop :=
 ∀j ∈ rs,wpOp P ops Q j (λa' w'=>(zs.contains j=false->S w')/\AJ P md ops Q S zs n (l.setIfInBounds j true) a' w') a w
theorem AI.nil {n:Nat}{l:Array Bool}{a:Act}{w:World}:AI P md ops Q S zs n l a w []:=λ_ h=>by cases h
theorem AI.cons {n i:Nat}{l:Array Bool}{a:Act}{w:World}{o:Oper}{rs:List Nat}(ho:ops[i]? = some o)
  (h:∀K':Act->World->Prop,Shut (∀a w,(zs.contains i=false->S w)->AJ P md ops Q S zs n (l.setIfInBounds i true) a w->K' a w)->if Region.wanted o (yielded ops a.tmps)=true then Oper.wp P o a w K' Q else K' (a.put o.dst undef) w) (hs:AI P md ops Q S zs n l a w rs):AI P md ops Q S zs n l a w (i::rs):=λj hj=>by
 rcases List.mem_cons.1 hj with rfl|hj
 ·exact wpOp_step ho λK' hK=>h K' λa w h1 h2=>hK a w ⟨h1,h2⟩
 ·exact hs j hj
theorem AJ.ready {n:Nat}{l:Array Bool}{a:Act}{w:World}{rs:List Nat}(hr:Region.ready md ops l=rs)(hne:rs≠[])(h:AI P md ops Q S zs n l a w rs):AJ P md ops Q S zs (n+1) l a w :=
 ⟨λh0=>absurd (hr ▸ h0) hne,hr ▸ h⟩
theorem AJ.done {l:Array Bool}{a:Act}{w:World}(hr:Region.ready md ops l=[])(h:Q .normal a w):∀n,AJ P md ops Q S zs n l a w
 | 0=>⟨hr,h⟩
 | _+1=>⟨λ_=>h,by rw[hr];simp⟩
theorem BS {id:Nat}{a:Act}{w:World}(zs:List Nat)(hm:P.follows .mixedOrders=true)(h:AJ P .any ops Q S zs ops.size (Array.replicate ops.size false) a w.drew):(Code.region id ops true).wp P Q a w :=
 wp_region_any hm (AJ.any _ _ _ _ h)
end
end Go.Proofs.YtfbbjiidccbaiaaGreatDoor
