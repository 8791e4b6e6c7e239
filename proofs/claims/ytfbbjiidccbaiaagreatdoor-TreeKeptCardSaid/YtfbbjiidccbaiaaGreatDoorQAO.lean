/- Texts of one proof, one behind the other: UZ, VA, VB, VC, VD, VE, VF, VG, VH, VI, VJ, VK. -/
import Derived.Test.YtfbbjiidccbaiaaGreatDoorQAN
import Derived.Deep.RegionLaw
import Derived.Test.YtfbbjiidccbaiaaGreatDoorQAJ
import Derived.Test.YtfbbjiidccbaiaaGreatDoorQAA
set_option maxRecDepth 100000
set_option maxHeartbeats 6400000
namespace Go.Proofs.YtfbbjiidccbaiaaGreatDoor
open Go.RowKit
section
variable {K:Kc} {s:Hst} {w w' W w3:World}
theorem Hnd.park (H:Hnd K s w){q m:Nat}{x:NO}(hq:1<=q/\q<4096)(hM:s.M q=some x)(hk:AC (λk=>k=K.mb) w w')(hm:EB w' K.mb m (upd (C9 s.M) q none)) :
  ∃ρ',Hnd K { s with M:=upd (upd s.M q none) 4096 (some x),ρ:=ρ' } w':=by
 have hn:=H.node q x hM;have hT:∀k,k<w.heap.size->k=K.mb->s.ρ k=3\/s.ρ k=8+2*q\/s.ρ k=9+2*q:=λk _ e=>.inl (e ▸ H.map.2)
 have hpe:C9 (upd (upd s.M q none) 4096 (some x))=upd (C9 s.M) q none:=by
  have:C9 (upd (upd s.M q none) 4096 (some x))=C9 (upd s.M q none):=E9 λj h1 h2=>by rw[AA _ _ (by omega)]
  rw[this,MU _ hq];rfl
 have hz0:∀k,(if s.ρ k=8+2*q then 8+2*4096 else if s.ρ k=9+2*q then 9+2*4096 else s.ρ k)≠0 ↔ s.ρ k≠0:=λk=>by
  split
  ·omega
  ·split <;> omega
 refine⟨λk=>if s.ρ k=8+2*q then 8+2*4096 else if s.ρ k=9+2*q then 9+2*4096 else s.ρ k,H.step (T:=λk=>k=K.mb) (R:=λr=>r=3\/r=8+2*q\/r=9+2*q) hk hT (by omega) (λk _=>?_) (λk hk'=>Nat.lt_of_lt_of_le (H.lt k ((hz0 k).1 hk')) hk.size) (.inl ⟨by omega,rfl,rfl,rfl⟩) (.inl ⟨by omega,rfl,rfl⟩) (.inr ⟨⟨m,by show EB w' K.mb m (C9 (upd (upd s.M q none) 4096 (some x)));rw[hpe];exact hm⟩,?_⟩) (by omega) (.inl ⟨by omega,rfl,rfl⟩) (.inl ⟨by omega,rfl,rfl⟩) (λj y hj=>?_) (λj y hj h1 h2=>?_) ⟨H.gok.1,λj hj=>⟨(H.gok.2 j hj).1,?_⟩⟩ H.tok⟩
 ·dsimp only
  split
  ·right;omega
  ·split
   ·right;omega
   ·left;rfl
 ·dsimp only
  rw[H.map.2,if_neg (by omega),if_neg (by omega)]
 ·dsimp only at hj
  by_cases hjq:j=4096
  ·subst hjq;rw[AB]at hj;cases hj;have e:(λk=>(if s.ρ k=8+2*q then 8+2*4096 else if s.ρ k=9+2*q then 9+2*4096 else s.ρ k)≠0)=λk=>s.ρ k≠0:=by
    funext k
    exact propext (hz0 k)
   refine .inr ⟨?_,?_,λad ha=>?_⟩
   ·dsimp only
    rw[e];refine hn.at_.kept hk (λk _ h=>by rw[h,H.map.2];omega) (λ_ _ h=>h) (λ_ h=>h) (λh=>?_) (λad ha _ h=>?_)
    ·have h1:=hn.blk;rw[h,H.map.2]at h1;omega
    ·have h1:=hn.row ad ha;rw[h,H.map.2]at h1;split at h1 <;> omega
   ·dsimp only
    rw[if_pos hn.blk]
   ·dsimp only
    have h1:=hn.row ad ha;by_cases hs:x.sole=true
    ·rw[if_pos hs]at h1 ⊢
     rw[if_neg (by omega),if_pos h1]
    ·rw[if_neg hs]at h1 ⊢
     rw[if_neg (by omega),if_neg (by omega)];exact h1
  ·rw[AA _ _ hjq]at hj;by_cases hji:j=q
   ·subst hji;rw[AB]at hj;cases hj
   ·rw[AA _ _ hji]at hj;exact .inl ⟨hj,by omega,by omega,by omega⟩
 ·dsimp only at hj
  rw[AA _ _ (by omega)]at hj
  by_cases hjq:j=q
  ·subst hjq;rw[AB]at hj;cases hj
  ·rw[AA _ _ hjq]at hj;exact H.was j y hj h1 h2
 ·have h3:=(H.has_lt (H.gok.2 j hj).1).2;dsimp only
  rw[AA _ _ (by omega)]
  by_cases hjq:j=q
  ·subst hjq;exact AB _ _ _
  ·rw[AA _ _ hjq];exact (H.gok.2 j hj).2
def RF (K:Kc)(s:Hst)(q:Nat)(x:NO)(e:Ending)(w':World):Prop:=e=.returned (.tuple #[])/\∃v' ρ',Hnd K { s with M:=upd (upd s.M q none) 4096 (some x),gn:=s.gn++[q],gv:=v',ρ:=ρ' } w'
theorem BF4 (H:Hnd K s w){q:Nat}{x:NO}(hM:s.M q=some x)(hq:1<=q/\q<4096) :
  Calls Tryz.prog 160 #[.pointer (some ⟨K.cb,0,none⟩),x.ptr] w (RF K s q x):=by
 obtain⟨hpg,hhas,_⟩:=H.was q x hM hq.1 hq.2;have hxn:=H.node q x hM;have Hd:=H.below (Below.refl w.heap.size w).drew;obtain⟨m,hm⟩:=Hd.map.1;have hpt:C9 s.M q=some x.ptr:=by rw[IR _ hq,hM];rfl
 obtain⟨m0,rfl⟩:∃m0,m=m0+1:=by
  rcases Nat.eq_zero_or_pos m with e|e
  ·exfalso
   subst e;obtain⟨F,⟨D0,h1,h2,h3⟩,h4,_⟩:=hm.map;have hF:=h4 q _ hpt;rcases h3 q (WalkArith.wf_i64 (by omega)) with⟨hn,_⟩|⟨v,_,hh,_⟩
   ·rw[hF]at hn;cases hn
   ·have h5:=(D7 h1);have h6:(intKeys D0).length=0:=by rw[h5.2.2,h2]
    have h7:=(h5.2.1 (q:Int)).2 hh;rw[List.length_eq_zero_iff.1 h6]at h7;cases h7
  ·exact⟨m-1,by omega⟩
 obtain⟨w1,hdr,hp,ht⟩:=hm.del (t:=184) (e:=127) Tryz.underlying184 q hpt 0;obtain⟨ρ1,H1⟩:=Hd.park hq hM (AC.ofTurned ht rfl) hp;have x0:=hxn.at_.c0;have hb1:=ht.grown;have hxb1:w1.heap[x.blk]? = w.heap[x.blk]?:=(AC.ofTurned (S:=λk=>k=K.mb) ht rfl).block x.blk hxn.at_.lt (λe=>by have h1:=hxn.blk;rw[e,H.map.2]at h1;omega)
 have x01:w1.cell? ⟨x.blk,0,none⟩=some (.int .i64 q):=by rw[World.cell?_of_block hxb1,x0,hpg]
 rw[hpg]at x0;obtain⟨W2,hW2⟩:∃W2,W2=(w1.alloc (.cells #[.int .i64 q] 3)).drew:=⟨_,rfl⟩;have hbW:Below w1.heap.size w1 W2:=by rw[hW2];exact ((Below.refl _ _).alloc (Nat.le_refl _) _).drew
 have hcx:W2.cell? ⟨w1.heap.size,0,none⟩=some (.int .i64 q):=by
  have:W2.heap[w1.heap.size]? = some (.cells #[.int .i64 q] 3 (0,0)):=by rw[hW2];exact heap_alloc_new w1 _
  rw[yC this];rfl
 have H1W:=H1.below hbW;obtain⟨v',w3,hr3,hn3,hg3⟩:=MC W2 s.gv s.gn q w1.heap.size 1 H1W.gon.1 hcx (by have:=H.gn_few;omega) 57
 obtain⟨ρ',H4⟩:=H1.pushG (q:=q) hbW hg3 hn3 hhas (by show upd (upd s.M q none) 4096 (some x) q=none;rw[AA _ _ (by omega),AB]) (λhg=>by have:=(H.gok.2 q hg).2;rw[hM]at this;cases this)
 obtain⟨ga,gc,hgv⟩:=H1W.gon.1.shape;obtain⟨va,vc,hvv⟩:=hn3.shape;have hkg:AC (λk=>s.gv.ownBlock=some k) W2 w3:=AC.ofGrown hg3.1 (λk e=>e)
 have hcb3:w3.heap[K.cb]? = some (.cells (K.cells { s with M:=upd (upd s.M q none) 4096 (some x),ρ:=ρ1 }) 186 (0,0)):=(hkg.block _ H1W.cbl (λe=>by have h1:=H1W.gon.2 _ e;have h2:=H1W.chg.2;omega)).trans H1W.chg.1
 have f4:w3.frozen? ⟨K.cb,4,none⟩=false:=by simp[World.frozen?,hcb3]
 have d4:w3.cell? ⟨K.cb,4,none⟩=some s.gv:=by rw[yC hcb3];rfl
 have c1:=H.cb1;have c4:=H1.cb4;have hcl1:=H1.cbl;have hxl1:x.blk<w1.heap.size:=by have:=hxn.at_.lt;have h2:=(AC.ofTurned (S:=λk=>k=K.mb) ht rfl).size;exact Nat.lt_of_lt_of_le this h2
 dsimp only at c4
 obtain⟨gn,hgn⟩:∃n,n=s.gn.length:=⟨_,rfl⟩;simp only[<-hgn]at hgv;have hvl:(s.gn++[q]).length=gn+1:=by rw[List.length_append,<-hgn];rfl
 rw[hvl]at hvv;rw[hgv]at hr3 c4 d4;rw[hvv]at hr3;have HE:Hid (RF K s q x (.returned (.tuple #[])) (w3.setCell ⟨K.cb,4,none⟩ (.slice va (gn+1) vc))):=yH ⟨rfl,v',ρ',by rw[hvv]at H4 ⊢;exact H4⟩
 unfold NO.ptr;obtain⟨xb,hxb⟩:∃b,b=x.blk:=⟨_,rfl⟩;rw[<-hxb]at x0 x01 hxl1 ⊢
 obtain⟨cb,hcb⟩:∃b,b=K.cb:=⟨_,rfl⟩;rw[<-hcb]at c1 c4 f4 d4 HE hcl1 ⊢
 rw[hW2]at hr3;have HDR:=yH hdr;have HR3:=yH hr3;clear H hM hq hpg hhas hxn Hd hm hpt hdr hp ht H1 hb1 hxb1 hW2 hbW hcx H1W hr3 hn3 hg3 H4 hgv hvv hkg hcb3 hgn hvl hxb hcb;go_enter Tryz.func160,Tryz.ntmps160;go_wp2;go_still_tail 8,(by kernel_rfl)
 go_wp2_with (refine DT rfl _ _ 184 3 rfl _ _ (by rfl) (by rfl) HDR.out ?_)
 go_region_law (refine FW rfl _ _ 57 rfl _ _ _ (by rfl) (by rfl) HR3.out ?_)
 all_goals go_wp2
 all_goals go_end0
 all_goals exact HE.out
end
section
variable {K:Kc} {s0 s s':Hst} {w w':World} {F:List En} {P:List Nat}
structure Fin (K:Kc)(s0 s:Hst)(F:List En)(P:List Nat)(r:Nat)(ps born dead:List Nat)(w:World):Prop where
 H:Hnd K s w
 gn:s.gn=dead
 has:∀q,s.h.has q ↔ s0.h.has q\/q ∈ born
 new:(P++born).Nodup/\(∀q ∈ P,q=0\/s0.h.has q)/\(∀q ∈ born,1<=q/\¬s0.h.has q)
 fram:C8 s0 s (P++born)
 perm:(ps++0::dead).Perm (P++born)
 tree:(F=[]/\r=0/\ps=[])\/∃(m:Nat) (t:Tr m),MF t/\Ord t [] none/\t.flat=F/\t.page=r/\t.pages=ps/\Rep (Cur s) t
structure Top (K:Kc)(s0 s:Hst)(F:List En)(P:List Nat)(x:NO){L:Nat}(ks:List (Kid L))(born dead:List Nat)(w:World):Prop where
 H:Hnd K s w
 M:s.M 0=some x
 level:x.level=L+1
 ens:x.ens=ks.map kEn
 was:x.was=[]
 done:AG9 ks F P born dead
 rep:∀k ∈ ks,Rep (Cur s) k.2
 gn:s.gn=dead
 has:∀q,s.h.has q ↔ s0.h.has q\/q ∈ born
 new:(P++born).Nodup/\(∀q ∈ P,q=0\/s0.h.has q)/\(∀q ∈ born,1<=q/\¬s0.h.has q)
 fram:C8 s0 s (P++born)
 room:∃U,CU s.h U 1
theorem Lop.top (h:Lop K s0 F P 0 w)(hw0:∀y a,K.way[0]? = some (y,a)->y.was=[]):∃(s:Hst) (x:NO) (L:Nat) (ks:List (Kid L)) (born dead:List Nat) (y:NO) (a:Nat),K.way[0]? = some (y,a)/\y.blk=x.blk/\Top K s0 s F P x ks born dead w:=by
 obtain⟨l,z,c,had,born,dead,pre,xc,s,y,a,h,hpre,hjl,hw,hb,hws,hat⟩:=h;obtain rfl:pre=[]:=by rw[hpre];rfl
 cases z with
 | up p A k B z =>
  exfalso
  obtain⟨x,rest,h1,_⟩:=h.on;cases h1
 | top _ =>
  obtain⟨h1,h2,h3⟩:=hat;obtain⟨L,rfl⟩:∃L,l=L+1:=⟨l-1,by omega⟩
  have hc:c=.node 0 c.ks:=by rw[<-h2];exact c.node_eta
  have hx:=h.x;have hmid:=h.mid;rw[hc]at hmid;rw[h2]at hx;refine⟨s,xc,L,c.ks,born,dead,y,a,hw,hb,h.H,hx.1,hx.2.1,by rw[hx.2.2.1,AZ],by rw[<-hws];exact hw0 y a hw,hmid.done h3,h.kids,h.gn,h.has,h.new,h.fram,?_⟩
  obtain⟨U,hU⟩:=h.room;exact⟨U,hU⟩
variable {x:NO} {L:Nat} {born dead:List Nat}
theorem Top.none_ (h:Top K s0 s F P x ([]:List (Kid L)) born dead w)(hk:Hnd K s w'):Fin K s0 s F P 0 [] born dead w' :=
 ⟨hk,h.gn,h.has,h.new,h.fram,by have:=h.done.perm;simpa [FI] using this,.inl ⟨h.done.none_,rfl,rfl⟩⟩
structure Cro (K:Kc)(s0 s:Hst)(P:List Nat){L:Nat}(a:Kid L)(born dead:List Nat){l:Nat}(t:Tr l)(d:List Nat)(x:NO)(w:World):Prop where
 H:Hnd K s w
 x:s.M t.page=some x/\x.level=l/\x.ens=t.ens
 tidy:CJ t
 rep:Rep (Cur s) t
 ctx:∀(m:Nat) (r:Tr m) (d':List Nat),RH t r d'->RH a.2 r (d++d')
 gn:s.gn=dead++d
 has:∀q,s.h.has q ↔ s0.h.has q\/q ∈ born
 nodup:t.pages.Nodup
 sub:∀q ∈ t.pages,q ∈ P++born
 fram:C8 s0 s (P++born)
theorem Top.one {a:Kid L}(h:Top K s0 s F P x [a] born dead w):x.ens[0]? = some (kEn a)/\Cur s (kEn a).child L a.2.ens/\∀(x1:NO) (s1:Hst) (w1:World),Hnd K s1 w1->Got s s1 (kEn a).child L a.2.ens x1->Cro K s0 s1 P a born dead a.2 [] x1 w1:=by
 have ht:=h.done.tidy.2 a (by simp)
 have hc:(kEn a).child=a.2.page:=CV a (by have:=ht.2.2.2;omega)
 have hr:=h.rep a (by simp)
 have hpm:=h.done.perm;have hsub:∀q ∈ a.2.pages,q ∈ P++born:=λq hq=>hpm.mem_iff.1 (by rw[AN];simp[hq])
 have hnd:a.2.pages.Nodup:=by
  have h1:=hpm.nodup_iff.2 h.new.1;rw[AN,FI,List.append_nil,List.nodup_append]at h1;exact h1.1
 refine⟨by rw[h.ens];rfl,by rw[hc];exact hr.at_,λx1 s1 w1 H1 G1=>?_⟩
 rw[hc]at G1;have hF:C8 s s1 (P++born):=G1.fram.to2.mono λq hq=>by rw[List.mem_singleton]at hq;rw[hq];exact hsub _ (AS _)
 exact⟨H1,⟨by rw[G1.M,AB],G1.x.1,G1.x.2.1⟩,ht,O7 hr G1 hnd ht.2.2.2.1 ht.2.2.2.2,λm r d' hd=>hd,by rw[G1.same.2.2.2,h.gn,List.append_nil],λq=>by rw[G1.same.1];exact h.has q,hnd,hsub,h.fram.trans hF⟩
theorem Cro.fin {a:Kid L}{l:Nat}{t:Tr l}{d:List Nat}{x1:NO}{s1:Hst}{w1:World}(h:Top K s0 s F P x [a] born dead w)(c:Cro K s0 s1 P a born dead t d x1 w1)(hs:0<l->t.ens.length≠1)(H2:Hnd K s1 w'):Fin K s0 s1 F P t.page t.pages born (dead++d) w':=by
 have hcr:=c.ctx l t [] (.stay t hs);rw[List.append_nil]at hcr;obtain⟨o1,o2,o3,o4⟩:=h.done.one hcr;exact⟨H2,c.gn,c.has,h.new,c.fram,o4,.inr ⟨l,t,o1,o2,o3,rfl,rfl,c.rep⟩⟩
theorem Cro.down {a:Kid L}{l:Nat}{t:Tr (l+1)}{d:List Nat}{x1:NO}{s1:Hst}{w1:World}(c:Cro K s0 s1 P a born dead t d x1 w1)(hone:t.ens.length=1)(W:World)(hbW:Below w1.heap.size w1 W) :
  Calls Tryz.prog 160 #[.pointer (some ⟨K.cb,0,none⟩),x1.ptr] W λe w2=>e=.returned (.tuple #[])/\Calls Tryz.prog 159 #[.pointer (some ⟨K.cb,0,none⟩),x1.ptr,.int .i64 (0:Nat)] w2 λe w3=>∃(x2:NO) (s2:Hst) (t2:Tr l) (d2:List Nat),e=.returned x2.ptr/\Cro K s0 s2 P a born dead t2 d2 x2 w3:=by
 have htp:=c.tidy.2.2.2;obtain⟨b,hb⟩:∃b,t.ks=[b]:=by
  rw[AZ,List.length_map]at hone;match hk:t.ks,hone with
  | [b],_=>exact⟨b,rfl⟩
 have hl:=(AL.1 c.tidy.1).1;rw[hb]at hl;have hbt:=hl.2 b (by simp)
 refine (BF4 (c.H.below hbW) c.x.1 htp).mono ?_;rintro e w2 ⟨rfl,gv,ρ2,H2⟩;refine⟨rfl,?_⟩;have hcb:(kEn b).child=b.2.page:=CV b (by have:=hbt.2.2.2;omega)
 have hpg:=c.nodup;rw[AQ,hb,AN,FI,List.append_nil,List.nodup_cons]at hpg;have hF:C8 s1 { s1 with M:=upd (upd s1.M t.page none) 4096 (some x1),gn:=s1.gn++[t.page],gv:=gv,ρ:=ρ2 } [t.page] :=
  ⟨λj h=>h,λj h=>.inl h,λj _=>rfl,λj h4 hj=>by
   show upd (upd s1.M t.page none) 4096 _ j=s1.M j;rw[AA _ _ (by omega),AA _ _ (by simpa using hj)],⟨[t.page],rfl,λj hj=>hj⟩,rfl⟩
 have hrb:Rep (Cur { s1 with M:=upd (upd s1.M t.page none) 4096 (some x1),gn:=s1.gn++[t.page],gv:=gv,ρ:=ρ2 }) b.2:=by
  have:=c.rep.kid b (by rw[hb];simp)
  exact G0 hF this λj hj=>by rw[List.mem_singleton];exact λe=>hpg.1 (e ▸ hj)
 have hen:x1.ens[0]? = some (kEn b):=by rw[c.x.2.2,AZ,hb];rfl
 have hM4:upd (upd s1.M t.page none) 4096 (some x1) 4096=some x1:=AB _ _ _;refine (O8 H2 (i:=4096) (n:=x1) hM4 (at_:=0) hen rfl c.x.2.1 (by rw[hcb];exact hrb.at_)).mono ?_
 rintro e w3 ⟨x2,s2,rfl,H3,G3⟩;rw[hcb]at G3;have hF2:C8 s1 s2 (P++born):=(hF.mono λq hq=>by rw[List.mem_singleton]at hq;rw[hq];exact c.sub _ (AS _)).trans (G3.fram.to2.mono λq hq=>by
  rw[List.mem_singleton]at hq;rw[hq];exact c.sub _ (by rw[AQ,hb,AN];simp[AS]))
 refine⟨x2,s2,b.2,d++[t.page],rfl,H3,⟨by rw[G3.M,AB],G3.x.1,G3.x.2.1⟩,hbt,O7 hrb G3 hpg.2 hbt.2.2.2.1 hbt.2.2.2.2,λm r d' hd=>?_,by rw[G3.same.2.2.2,<-List.append_assoc,<-c.gn],λq=>by rw[G3.same.1];exact c.has q,hpg.2,λq hq=>c.sub q (by rw[AQ,hb,AN];simp[hq]),c.fram.trans hF2⟩
 have:=c.ctx m r (t.page::d') (.down t b r d' hb hd)
 rwa [List.append_assoc,List.singleton_append]
theorem Top.more {ks:List (Kid L)}(h:Top K s0 s F P x ks born dead w)(h2:2<=ks.length){e:Ending}(hp:K5 K s 0 x e w') :
  e=.returned (.int .i64 0)/\∃(q:Nat) (s':Hst),w'.cell? ⟨x.blk,0,none⟩=some (.int .i64 q)/\Fin K s0 s' F P q (q::pgK ks) (born++[q]) dead w':=by
 obtain⟨rfl,q,h',S',ρ',av',hnx,H'⟩:=hp;obtain⟨hok',q1,q2,hnq,hhas,hroots⟩:=hnx.spec h.H.act.ok;have hM':(upd (upd s.M 0 none) q (some { x with page:=q })) q=some { x with page:=q }:=AB _ _ _;have hc0:=(H'.node q _ hM').at_.c0;have hfresh:q ∉ P++born:=λhm=>by
  rcases List.mem_append.1 hm with hm|hm
  ·rcases h.new.2.1 q hm with e|e
   ·omega
   ·exact hnq ((h.has q).2 (.inl e))
  ·exact hnq ((h.has q).2 (.inr hm))
 obtain⟨o1,o2,o3,o4⟩:=h.done.more h2 q ⟨q1,q2⟩;have hF:C8 s { s with S:=S',ρ:=ρ',h:=h',G:=upd s.G q A9,M:=upd (upd s.M 0 none) q (some { x with page:=q }),tk:=s.tk++[q],av:=av' } [0,q]:=by
  refine⟨λj hj=>(hhas j).2 (.inl hj),λj hj=>((hhas j).1 hj).imp id λe=>by simp[e],λj hj=>?_,λj h4 hj=>?_,⟨[],(List.append_nil _).symm,λj hj=>by cases hj⟩,hroots⟩
  ·exact AA _ _ (λe:j=q=>hnq (e ▸ hj))
  ·simp only[List.mem_cons,List.not_mem_nil,or_false,not_or]at hj;show upd (upd s.M 0 none) q _ j=s.M j;rw[AA _ _ hj.2,AA _ _ hj.1]
 have hks:∀j ∈ pgK ks,j ∉ [0,q]:=λj hj=>by
  have hm:j ∈ P++born:=h.done.perm.mem_iff.1 (List.mem_append.2 (.inl hj));have hn:=h.done.perm.nodup_iff.2 h.new.1;simp only[List.mem_cons,List.not_mem_nil,or_false,not_or];refine⟨λe=>?_,λe=>hfresh (e ▸ hm)⟩
  rw[List.nodup_append]at hn;exact hn.2.2 j hj 0 (by simp) e
 have hP0:(0:Nat) ∈ P++(born++[q]):=by
  have:(0:Nat) ∈ P++born:=h.done.perm.mem_iff.1 (by simp)
  rw[<-List.append_assoc];exact List.mem_append.2 (.inl this)
 refine⟨rfl,q,_,hc0,H',h.gn,λj=>?_,⟨?_,h.new.2.1,λj hj=>?_⟩,?_,o4,.inr ⟨L+1,.node q ks,o1,o2,o3,rfl,rfl,?_⟩⟩
 ·rw[List.mem_append,List.mem_singleton,<-or_assoc,<-h.has j];exact hhas j
 ·rw[<-List.append_assoc,List.nodup_append];refine⟨h.new.1,by simp,λa ha b hb e=>?_⟩
  rw[List.mem_singleton]at hb;exact hfresh (hb ▸ e ▸ ha)
 ·rcases List.mem_append.1 hj with hj|hj
  ·exact h.new.2.2 j hj
  ·rw[List.mem_singleton]at hj;subst hj;exact⟨q1,λe=>hnq ((h.has j).2 (.inl e))⟩
 ·refine (h.fram.mono λj hj=>?_).trans (hF.mono λj hj=>?_)
  ·rw[<-List.append_assoc];exact List.mem_append.2 (.inl hj)
  ·simp only[List.mem_cons,List.not_mem_nil,or_false]at hj;rcases hj with rfl|rfl
   ·exact hP0
   ·simp
 ·refine Rep.mk (GG q1 q2 hM' h.level (by rw[AZ,A5];exact h.ens)) λk hk=>?_
  exact G0 hF (h.rep k hk) λj hj=>hks j (BB hk hj)
end
section
variable {K:Kc} {s0:Hst} {w:World} {F:List En} {P:List Nat}
def II (K:Kc)(s0:Hst)(F:List En)(P:List Nat)(e:Ending)(w':World):Prop:=∃(r:Nat),e=.returned (.tuple #[.int .i64 r,.int .i64 0])/\Hid (∃(s:Hst) (ps born dead:List Nat),Fin K s0 s F P r ps born dead w')
theorem BT6 (h:Lop K s0 F P 0 w)(hw0:∀y a,K.way[0]? = some (y,a)->y.was=[]) :
  Calls Tryz.prog 124 #[.pointer (some ⟨K.cb,0,none⟩)] w (II K s0 F P):=by
 obtain⟨s,x,L,ks,born,dead,y,a,hw,hb,hT⟩:=h.top hw0;obtain⟨g,cap,hv,d1,_⟩:=hT.H.wayAt hw;have c2:=hT.H.cb2;rw[hv]at c2;have hN:0<K.way.length:=(List.getElem?_eq_some_iff.1 hw).1;rw[Nat.zero_mul]at d1;have hxn:=(hT.H.node 0 x hT.M).at_;have e2:=hxn.c2;have hlen:x.ens.length=ks.length:=by rw[hT.ens,List.length_map]
 rw[hlen]at e2;have hyp:y.ptr=.pointer (some ⟨x.blk,0,none⟩):=by unfold NO.ptr;rw[hb]
 rw[hyp]at d1;obtain⟨N,hNd⟩:∃N,N=K.way.length:=⟨_,rfl⟩;rw[<-hNd]at c2 hN;obtain⟨xb,hxb⟩:∃b,b=x.blk:=⟨_,rfl⟩;have HXB:=yH hxb;rw[<-hxb]at d1 e2;have hNi:(0:Int)<(N:Int):=by omega
 have hks5:ks.length<=512:=by have:=hxn.short.1;omega
 match hk:ks,hT with
 | [],hT =>
  have HF:Hid (∀w',Below w.heap.size w w'->II K s0 F P (.returned (.tuple #[.int .i64 ((0:Nat):Int),.int .i64 0])) w'):=yH λw' hb=>⟨0,rfl,yH ⟨s,[],born,dead,hT.none_ (hT.H.below hb)⟩⟩
  have HFw:=yH (HF.out w (Below.refl _ _));clear hT hv hw hb hxn hlen hyp hxb hNd HF HXB h hw0 hks5;simp only[List.length_nil]at e2;go_enter Tryz.func124,Tryz.ntmps124;go_wp2;go_ret2;exact HFw.out
 | [b],hT =>
  obtain⟨hen,hcur,hgot⟩:=hT.one;have HCH:=yH (O8 hT.H hT.M hen rfl hT.level hcur);have HG:=yH hgot;have HT:=yH hT;have hxp:x.ptr=.pointer (some ⟨xb,0,none⟩):=by unfold NO.ptr;rw[hxb]
  rw[hxp]at HCH;clear hT hv hw hb hxn hlen hyp hxb hNd HXB h hw0 hks5 hen hcur hgot hxp;simp only[List.length_singleton]at e2;go_enter Tryz.func124,Tryz.ntmps124;go_wp2_with fail;refine HCH.out.mono ?_;rintro e w1 ⟨x1,s1,rfl,H1,G1⟩;have HC0:=yH (HG.out x1 s1 w1 H1 G1);clear H1 G1 HCH HG;go_wp2;go_loopw [5] (λp wr=>∃(x1:NO) (s1:Hst) (l:Nat) (t:Tr l) (d:List Nat),p=x1.ptr/\Hid (Cro K s0 s1 P b born dead t d x1 wr)) (λp wr=>JW p wr)
  case atStart=>exact⟨x1,s1,L,b.2,[],rfl,HC0⟩
  case round =>
   obtain⟨x2,s2,l,t,d,rfl,HC⟩:=hrel;have hxn:=(HC.out.H.node _ x2 HC.out.x.1).at_;have hlv:=HC.out.x.2.1;have c1:=hxn.c1;have HME:=yH ((FB hxn).trans hlv);have f2:=hxn.c2;have f0:=hxn.c0;have hpg:=(HC.out.H.was _ x2 HC.out.x.1 HC.out.tidy.2.2.2.1 HC.out.tidy.2.2.2.2).1;rw[hpg]at f0;rw[hlv]at c1;rw[HC.out.x.2.2]at f2;have h512:t.ens.length<=512:=by have:=hxn.short.1;rw[HC.out.x.2.2]at this;exact this
   cases l with
   | zero =>
    have HE:Hid (II K s0 F P (.returned (.tuple #[.int .i64 (t.page:Nat),.int .i64 0])) wr):=yH ⟨t.page,rfl,yH ⟨s2,_,_,_,HC.out.fin HT.out (λh=>absurd h (by omega)) HC.out.H⟩⟩
    obtain⟨tp,htp⟩:∃p,p=t.page:=⟨_,rfl⟩;rw[<-htp]at HE f0;obtain⟨tl,htl⟩:∃p,p=t.ens.length:=⟨_,rfl⟩;rw[<-htl]at f2 h512;unfold NO.ptr;clear hxn hlv hpg htp htl HC HME HC0;go_wp2;go_ret2;exact HE.out
   | succ l =>
    have hpos:(0:Int)<((l+1:Nat):Int):=by omega
    by_cases hone:t.ens.length=1
    ·have HDN:=yH (HC.out.down hone wr (Below.refl _ _));rw[hone]at f2;unfold NO.ptr at HDN ⊢
     clear hxn hlv hpg HC HC0 h512;go_wp2_with fail;refine HDN.out.mono ?_;rintro e w2 ⟨rfl,h2⟩;have H2:=yH h2;clear h2 HDN;go_wp2_with fail;refine H2.out.mono ?_;rintro e w3 ⟨x3,s3,t3,d3,rfl,h3⟩;have HM3:Hid (JW x3.ptr w3=l):=yH ((FB ((h3.H.node _ x3 h3.x.1).at_)).trans h3.x.2.1);have H3:=yH h3;clear h3 H2;go_wp2;go_roundw
     case rel=>exact⟨x3,s3,l,t3,d3,rfl,H3⟩
     case measure =>
      have h1:=HM3.out;have h2:=HME.out
      unfold NO.ptr at h1 h2;show JW _ w3<JW _ wr;omega
    ·have HE:Hid (II K s0 F P (.returned (.tuple #[.int .i64 (t.page:Nat),.int .i64 0])) wr):=yH ⟨t.page,rfl,yH ⟨s2,_,_,_,HC.out.fin HT.out (λ_=>hone) HC.out.H⟩⟩
     obtain⟨tp,htp⟩:∃p,p=t.page:=⟨_,rfl⟩;rw[<-htp]at HE f0;obtain⟨tl,htl⟩:∃p,p=t.ens.length:=⟨_,rfl⟩;rw[<-htl]at f2 h512 hone;have hone2:decide (tl=1)=false:=decide_eq_false hone;have hone3:((tl:Int) == 1)=false:=by simp;omega
     unfold NO.ptr;clear hxn hlv hpg htp htl HC HME HC0;go_wp2;go_ret2;exact HE.out
 | b::b2::r,hT =>
  obtain⟨U,hU⟩:=hT.room;have HHO:Hid (Calls Tryz.prog 119 #[.pointer (some ⟨K.cb,0,none⟩),x.ptr] w λe w'=>e=.returned (.int .i64 0)/\∃q:Nat,w'.cell? ⟨x.blk,0,none⟩=some (.int .i64 q)/\Hid (II K s0 F P (.returned (.tuple #[.int .i64 q,.int .i64 0])) w')):=yH ((XI hT.H hT.M (.inl rfl) hT.was (U:=U) (k:=0) hU).mono λe w' hp=>by
   obtain⟨rfl,q,s',hq,hf⟩:=hT.more (by simp) hp
   exact⟨rfl,q,hq,yH ⟨q,rfl,yH ⟨s',_,_,_,hf⟩⟩⟩)
  have hxp:x.ptr=.pointer (some ⟨xb,0,none⟩):=by unfold NO.ptr;rw[hxb]
  rw[hxp,<-hxb]at HHO;have hl0:((b::b2::r).length:Int)=(r.length:Int)+2:=by simp;omega
  obtain⟨n2,hn2⟩:∃n,n=(b::b2::r).length:=⟨_,rfl⟩;rw[<-hn2]at e2 hks5;have hn3:2<=n2:=by rw[hn2];simp
  have g0:((n2:Int) == 0)=false:=by simp;omega
  have g1:((n2:Int) == 1)=false:=by simp;omega
  have g2:decide (n2=0)=false:=decide_eq_false (by omega)
  have g3:decide (n2=1)=false:=decide_eq_false (by omega)
  clear hT hv hw hb hxn hlen hyp hxb hNd HXB h hw0 hxp hl0 hn2;go_enter Tryz.func124,Tryz.ntmps124;go_wp2_with fail;refine HHO.out.mono ?_;rintro e w2 ⟨rfl,q,q0,HE⟩;clear HHO;go_wp2;go_ret2;exact HE.out
end
theorem AF0:Tryz.prog.built 111 []=some (Dr.cells ⟨0,false,A9,A9⟩).toArray:=by kernel_rfl
theorem V3 (W:World)(x:Addr):(Instr.sliceAt 109 (.pointer (some x)) none none none).run Tryz.prog W=.ok (.slice (some x) 512 512) W:=by
 obtain⟨i,hi,_⟩:=Option.map_eq_some_iff.1 BH1;simp[Instr.sliceAt,run_underlying Tryz.underlying109,Instr.sureAddr,Instr.sliceBounds,sizeOf,typeInfo,hi,Result.andThen];cases x;rfl
theorem U1:(Tryz.prog.info? 109).map (·.size)=some 512:=by kernel_rfl
def VU (t:ByteArray)(w:World)(e:Ending)(w':World):Prop:=∃b,e=.returned (.pointer (some ⟨b,0,none⟩))/\w.heap.size<=b/\b<w'.heap.size/\Below w.heap.size w w'/\(∀j,w'.frozen? ⟨b,j,none⟩=false)/\w'.rangeAt b 0 (Dr.cells ⟨b,false,t.data.toList,t.data.toList⟩)
theorem AL3 (t:ByteArray)(w:World)(ht:t.size=512):Calls Tryz.prog 55 #[.string t] w (VU t w):=by
 have htl:t.data.toList.length=512:=ht;have hbl:(Lib.byteCells t.data.toList).length=512:=by rw[Lib.byteCells_length];exact htl
 obtain⟨Y,hY⟩:∃Y:Array Value,Y=(Dr.cells ⟨0,false,A9,A9⟩).toArray:=⟨_,rfl⟩;have HB:=yH AF0;rw[<-hY]at HB;obtain⟨w1,hw1⟩:∃w1,w1=w.alloc (.cells Y 111):=⟨_,rfl⟩;obtain⟨b,hb⟩:∃b,b=w.heap.size:=⟨_,rfl⟩;have hnew:w1.heap[b]? = some (.cells Y 111 (0,0)):=by rw[hw1,hb];exact heap_alloc_new w _
 have hYl:Y.size=1025:=by rw[hY];show (Dr.cells ⟨0,false,A9,A9⟩).length=1025;exact Dr.cells_length _ CS CS
 have hth:w1.there b 0 1025:=λj hj=>by
  refine⟨?_,Lib.frozen_of_heap hnew _⟩;rw[Nat.zero_add,yC hnew,Array.getElem?_eq_getElem (by rw[hYl];exact hj)];rfl
 have hth1:w1.there b 1 512:=DC hth (by omega) (by omega)
 have hcp:=CL w1 102 9 3 5 b 1 512 512 t Tryz.underlying102 (by kernel_rfl) (by rw[ht];exact hth1) (by omega)
 obtain⟨w2,hw2⟩:∃w2,w2=w1.setCells b 1 (Lib.byteCells t.data.toList):=⟨_,rfl⟩;rw[<-hw2]at hcp;have hr2:w2.rangeAt b 1 (Lib.byteCells t.data.toList):=by rw[hw2];exact World.rangeAt_setCells_same w1 b 1 _ (by rw[hbl];exact hth1)
 have hth2:w2.there b 0 1025:=by rw[hw2];exact World.there_setCells hth b 1 _
 have hth3:w2.there b 513 512:=DC hth2 (by omega) (by omega)
 obtain⟨w3,hw3⟩:∃w3,w3=w2.setCells b 513 (Lib.byteCells t.data.toList):=⟨_,rfl⟩;have hk3:AC (λk=>k=b) w1 w3:=by
  rw[hw3,hw2];exact (AC.setCells (λk=>k=b) w1 rfl _).trans (AC.setCells (λk=>k=b) _ rfl _) (λ_ e=>.inl e)
 have hb1:Below w.heap.size w w1:=by rw[hw1];exact (Below.refl _ _).alloc (Nat.le_refl _) _
 have hb3:Below w.heap.size w w3:=hb1.trans (hk3.toBelow hb1.size (λk e=>by rw[e,hb];exact Nat.le_refl _))
 have hr3:w3.rangeAt b 0 (Dr.cells ⟨b,false,t.data.toList,t.data.toList⟩):=λj v hv=>by
  rw[Nat.zero_add];unfold Dr.cells at hv;cases j with
  | zero =>
   simp only[List.getElem?_cons_zero,Option.some.injEq]at hv;subst hv;have h0:w1.cell? ⟨b,0,none⟩=some (.bool false):=by
    rw[yC hnew,hY];rfl
   rw[hw3,World.cell?_setCells_out b _ 513 w2 _ (λ_ _=>.inl (by show 0<513;omega)),hw2,World.cell?_setCells_out b _ 1 w1 _ (λ_ _=>.inl (by show 0<1;omega))]
   exact h0
  | succ j =>
   rw[List.getElem?_cons_succ]at hv;by_cases hj:j<512
   ·rw[List.getElem?_append_left (by rw[hbl];exact hj)]at hv
    have:=hr2 j v hv
    rw[hw3,World.cell?_setCells_out b _ 513 w2 _ (λ_ _=>.inl (by show j+1<513;omega)),Nat.add_comm]
    exact this
   ·rw[List.getElem?_append_right (by rw[hbl];omega),hbl]at hv
    have:=World.rangeAt_setCells_same w2 b 513 (Lib.byteCells t.data.toList) (by rw[hbl];exact hth3) (j-512) v hv
    rw[hw3,show j+1=513+(j-512) by omega]
    exact this
 have HE:Hid (VU t w (.returned (.pointer (some ⟨b,0,none⟩))) w3):=yH ⟨b,rfl,by omega,by
  have h1:=(Array.getElem?_eq_some_iff.1 hnew).1;exact Nat.lt_of_lt_of_le h1 hk3.size,hb3,λj=>by rw[hw3,World.frozen?_setCells,hw2,World.frozen?_setCells];exact Lib.frozen_of_heap hnew _,hr3⟩
 obtain⟨X,hX⟩:∃X:Array Value,X=(Lib.byteCells t.data.toList).toArray:=⟨_,rfl⟩;have HX:Hid (X.size=512):=yH (by rw[hX];exact hbl)
 have hXl:X.toList=Lib.byteCells t.data.toList:=by rw[hX]
 have HR2:Hid (w2.rangeAt b 1 X.toList):=yH (by rw[hXl];exact hr2)
 have HT3:Hid (w2.there b 513 X.size):=yH (by rw[HX.out];exact hth3)
 have HI:Hid ((Tryz.prog.info? 109).map (·.size)=some X.size):=yH (by rw[HX.out];exact U1)
 have HIL:Hid ((Tryz.prog.info? 109).map (·.size)=some X.toList.length):=yH (by rw[Array.length_toList,HX.out];exact U1)
 have HO:Hid (X.all (·.oneCell')=true):=yH (by rw[hX];exact all_oneCell_toArray (Lib.byteCells_one _))
 have HW3:Hid (w2.setCells b 513 X.toList=w3):=yH (by rw[hXl,hw3])
 have hsl:=λW=>V3 W ⟨b,1,none⟩
 have hts:(t.size:Int)=512:=by omega
 clear hbl htl hY hnew hYl hth hth1 hw2 hr2 hth2 hth3 hw3 hk3 hb1 hb3 hr3 hX hXl ht;rw[hw1]at hcp;clear hw1;subst hb;go_enter Tryz.func55,Tryz.ntmps55;go_wp2_with (refine BK rfl (.agg Y) (CT rfl _ (by simp[go_sem]) Y HB.out w) ?_)
 refine wp_load_mid 109 _ rfl w.heap.size 1 (by rfl) X.toList _ HR2.out Tryz.underlying109 rfl HIL.out ?_
 rw[Array.toArray_toList];go_wp2_with (first
  | (refine wpList_store_mid rfl 109 _ _ rfl w.heap.size 513 X (by rfl) (by rfl) HT3.out HI.out HO.out ?_;rw[HW3.out])
  | (refine wp_store_mid 109 _ _ rfl w.heap.size 513 X (by rfl) (by rfl) HT3.out HI.out HO.out ?_;rw[HW3.out]))
 go_ret;exact HE.out
theorem MM {l bs:List UInt8}(h1:l.length=512)(h2:bs.length=512):splice l 0 bs=bs:=by
 unfold splice;simp[h2,List.drop_of_length_le (by omega:l.length<=512)]
theorem AR4 {α:Type}(F:Nat->α)(q:Nat)(a b:α):upd (upd F q a) q b=upd F q b:=by
 funext j
 by_cases hj:j=q
 ·subst hj;rw[AB,AB]
 ·rw[AA _ _ hj,AA _ _ hj,AA _ _ hj]
section
variable {J:List AD->Prop} {B:Nat} {S:Nat->Prop} {c:Ac} {h:Hd} {G:Nat->List UInt8} {w:World}
theorem AU7 (x:AU J B S c h G w){m:Nat}{D:Nat->Option Dr}{S0:Nat->Prop}(hL:CK J B S0 c.a c.s c.d c.l c.p c.db m c.n c.C c.N c.last h D w)(h1:∀k,S0 k->S k)(h2:∀q x,D q=some x->S x.blk)(h3:CA0 c.last h c.C D)(h4:∀q,h.has q->G q=pgD c.C D q)
  (q:Nat) (hq:h.has q) (hD:D q=none) (hC:(c.C q).length=512) (t:ByteArray) (ht:t.size=512) :
  Calls Tryz.prog 52 #[.pointer (some ⟨c.s,1,none⟩),.int .i64 q] w λe w1=>e=.returned (.string ⟨(c.C q).toArray⟩) /\
   Calls Tryz.prog 55 #[.string ⟨(c.C q).toArray⟩] w1 λe w2=>∃b w3,e=.returned (.pointer (some ⟨b,0,none⟩))/\w2.cell? ⟨c.a,83,none⟩=some (.map (some c.db)) /\
    (Instr.mapUpdate 38 (.map (some c.db)) (.int .i64 q) (.pointer (some ⟨b,0,none⟩))).run Tryz.prog w2=.ok () w3 /\
     (Builtin.copy_ #[102,9] 3 #[.slice (some ⟨b,513,none⟩) 512 512,.string t]).run Tryz.prog w3=.ok (goInt t.size) (w3.setCells b 513 (Lib.byteCells t.data.toList)) /\
      Hid (BI J B S c h (upd G q t.data.toList) w (w3.setCells b 513 (Lib.byteCells t.data.toList))):=by
 have hq4:q<4096:=by have:=hq.2.1;have:=x.ok.cnt;omega
 have htl:t.data.toList.length=512:=ht;refine (AN7 q hL.act.sp hL.ns hL.pool hq4 hL.n0 x.cost x.saves).mono ?_;rintro e w1 ⟨rfl,S1,hT,hp⟩;refine⟨rfl,?_⟩;have hL1:=hL.turn hT hp;have hsz:=x.size;have hT1:AO S w (λk=>(S k\/w.heap.size<=k)/\k<w1.heap.size) w1:=⟨hT.1.mono h1,λk hlt hs=>hs.1.elim id (by omega)⟩
 have x1:AU J B (λk=>(S k\/w.heap.size<=k)/\k<w1.heap.size) c h G w1:=by
  refine⟨⟨m,D,S1,hL1,λk hs=>⟨?_,(hp.low k hs).2⟩,λr y hr=>⟨.inl (h2 r y hr),by have:=(x.low _ (h2 r y hr)).2;have:=hT.1.size;omega⟩,h3,h4⟩,?_,?_,x.saves,x.cost,x.tab.1.kept hT.1 (λh0=>?_),x.tab.2⟩
  ·rcases Nat.lt_or_ge k w.heap.size with hlt|hge
   ·exact .inl (h1 k (hT.2 k hlt hs))
   ·exact .inr hge
  ·have hz:=hT.1.size;have f:∀k,S k->(S k\/w.heap.size<=k)/\k<w1.heap.size:=λk hs=>⟨.inl hs,by have:=(x.low k hs).2;omega⟩
   exact⟨f _ x.own.1,f _ x.own.2.1,f _ x.own.2.2.1,f _ x.own.2.2.2⟩
  ·rintro k ⟨hs,hlt⟩;refine⟨hs.elim (λh=>(x.low k h).1) (λh=>by omega),hlt⟩
  ·have:=(x.low 0 (h1 0 h0)).1
   have:=x.tab.2
   omega
 have hs1:∀k,S1 k->(S k\/w.heap.size<=k)/\k<w1.heap.size:=λk hs=>⟨by
  rcases Nat.lt_or_ge k w.heap.size with hlt|hge
  ·exact .inl (h1 k (hT.2 k hlt hs))
  ·exact .inr hge,(hp.low k hs).2⟩
 refine (AL3 ⟨(c.C q).toArray⟩ w1 (by show (c.C q).toArray.size=512;simpa using hC)).mono ?_
 rintro e w2 ⟨b,rfl,hb1,hb2,hbl,hfz,hrg⟩;have hrg':w2.rangeAt b 0 (Dr.cells ⟨b,false,c.C q,c.C q⟩):=by
  have:(⟨(c.C q).toArray⟩:ByteArray).data.toList=c.C q:=by simp
  rw[this]at hrg;exact hrg
 have hL2:=hL1.below hbl;have hX2:=hL2.act;have hdl:=hL1.act.dr.ltM;have hal:=hL1.act.ac.lt;have hsl:=hL1.act.sp.lt;have hll:=hL1.lg.lt;have hBw:=hL1.size;obtain⟨w3,hr,hD3,hk3⟩:=hX2.dr.put (by have:=hL.act.dr.few;omega) hq4 hD ⟨b,false,c.C q,c.C q⟩ hrg' hfz hC hC (by show b≠c.db;omega) hb2 (λj y hj=>by
  have:=(hL1.act.dr.at_ j y hj).2.2.2.2.2.2
  show y.blk≠b;omega)
 have hX3:CH w3 c.a c.s c.d c.l c.p c.db (m+1) c.last h (upd D q (some ⟨b,false,c.C q,c.C q⟩)):=by
  refine⟨hX2.sp.kept hk3 hX2.ne.2.2,hX2.ac.kept hk3 hX2.ne.2.1,hD3,hX2.okl,hX2.ok,λj y hj=>?_,hX2.ne,λj y hj=>?_⟩
  ·by_cases hjq:j=q
   ·rw[hjq];exact hq
   ·rw[AA _ _ hjq]at hj;exact hX2.has j y hj
  ·by_cases hjq:j=q
   ·subst hjq;rw[AB]at hj;cases hj
    show b≠c.a/\b≠c.s;omega
   ·rw[AA _ _ hjq]at hj;exact hX2.blk j y hj
 obtain⟨hX4,hk4⟩:=hX3.turnDr (q:=q) (AB _ _ _) (at_:=0) (bs:=t.data.toList) (by rw[htl];omega)
 rw[AR4]at hX4;have hth:w3.there b 0 1025:=by
  obtain⟨_,g2,g3,g4,g5,_⟩:=hX3.dr.at_ q _ (AB _ _ _);exact Dr.there_ g2 g3 g4 g5
 have hcp:=CL w3 102 9 3 5 b 513 512 512 t Tryz.underlying102 (by kernel_rfl) (by rw[ht];exact DC hth (by omega) (by omega)) (by omega)
 refine⟨b,w3,rfl,hX2.ac.dr,hr,hcp,yH ?_⟩;simp only[Nat.add_zero]at hX4 hk4;have hk:AC (λk=>k=c.db) w1 (w3.setCells b 513 (Lib.byteCells t.data.toList)):=by
  refine ((AC.ofBelow (S:=λk=>k=c.db) hbl).trans hk3 (λ_ e=>.inl e)).trans hk4 (λk e=>.inr ?_)
  have e':k=b:=e;omega
 have hk24:AC (λk=>k=c.db\/k=b) w2 (w3.setCells b 513 (Lib.byteCells t.data.toList)) :=
  (hk3.mono (T:=λk=>k=c.db\/k=b) (λ_ e=>.inl e)).trans (hk4.mono (T:=λk=>k=c.db\/k=b) (λ_ e=>.inr e)) (λ_ e=>.inl e)
 have hlow:=hL1.low;have hL4:CK J B S1 c.a c.s c.d c.l c.p c.db (m+1) c.n c.C c.N c.last h (upd D q (some ((⟨b,false,c.C q,c.C q⟩:Dr).put 0 t.data.toList))) (w3.setCells b 513 (Lib.byteCells t.data.toList)):=by
  refine⟨hX4,hL2.pool.kept hk24 (λk _ hS he=>?_),hL2.lg.kept hk24 ?_,hL1.ns,hL1.na,hL1.nl,hL1.nb,λj y hj=>?_,⟨hL1.ne.1,hL1.ne.2.1,hL1.ne.2.2.1,λj y hj=>?_⟩,⟨hlow.1,hlow.2.1,hlow.2.2.1,hlow.2.2.2.1,λj y hj=>?_⟩,hL1.n0⟩
  ·rcases he with rfl|rfl
   ·exact hL1.nb hS
   ·have:=(hp.low _ hS).2;omega
  ·rintro (e | e)
   ·exact hL1.ne.2.2.1 e
   ·omega
  all_goals
   by_cases hjq:j=q
   ·subst hjq;rw[AB]at hj;cases hj
    first
     | (intro hh;have:=(hp.low _ hh).2;simp only[Dr.put]at this;omega)
     | (simp only[Dr.put];omega)
   ·rw[AA _ _ hjq]at hj;first
     | exact hL1.nd j y hj
     | exact hL1.ne.2.2.2 j y hj
     | exact hlow.2.2.2.2 j y hj
 have hpo:=GJ (G':=upd G q t.data.toList) x1 hk (λk e=>e ▸ x1.own.2.2.2) hL4 hs1 (λr y hr'=>?_) ⟨λr y hr'=>?_,λr y hr'=>?_,λr hr' hn'=>?_⟩ (λr hr'=>?_)
 ·obtain⟨S',hT4,x4⟩:=hpo;exact⟨S',hT1.trans hT4,x4⟩
 ·by_cases hrq:r=q
  ·subst hrq;rw[AB]at hr';cases hr';exact .inr hb1
  ·rw[AA _ _ hrq]at hr';exact .inl ⟨.inl (h2 r y hr'),(hL1.act.dr.at_ r y hr').2.2.2.2.2.2⟩
 ·by_cases hrq:r=q
  ·subst hrq;rw[AB]at hr';cases hr';rfl
  ·rw[AA _ _ hrq]at hr';exact h3.1 r y hr'
 ·by_cases hrq:r=q
  ·subst hrq;exact .inr (h3.2.2 r hq hD)
  ·rw[AA _ _ hrq]at hr';exact h3.2.1 r y hr'
 ·by_cases hrq:r=q
  ·subst hrq;rw[AB]at hn';cases hn'
  ·rw[AA _ _ hrq]at hn';exact h3.2.2 r hr' hn'
 ·by_cases hrq:r=q
  ·subst hrq;rw[AB];unfold pgD;rw[AB]
   exact (MM hC htl).symm
  ·rw[AA _ _ hrq,h4 r hr'];unfold pgD;rw[AA _ _ hrq]
end
section
variable {J:List AD->Prop} {B:Nat} {S:Nat->Prop} {c:Ac} {h:Hd} {G:Nat->List UInt8} {w:World}
theorem BO0 (x:AU J B S c h G w)(q:Nat)(hq:h.has q)(t:ByteArray)(ht:t.size=512)(hG:(G q).length=512) :
  Calls Tryz.prog 16 #[.pointer (some ⟨c.a,0,none⟩),.int .i64 q,.int .i64 0,.string t] w λe w'=>e=.returned (.int .i64 0)/\BI J B S c h (upd G q t.data.toList) w w':=by
 obtain⟨m,D,S0,hL,h1,h2,h3,h4⟩:=x.live;have htl:t.data.toList.length=512:=ht;cases hD:D q with
 | some y =>
  have g:=hL.act.dr.at_ q y hD;refine (XQ q 0 y t hL.act hD (by omega)).mono ?_
  rintro e w' ⟨rfl,hA,hk⟩;have hyb:(y.put 0 t.data.toList).blk=y.blk:=rfl;have hL':CK J B S0 c.a c.s c.d c.l c.p c.db m c.n c.C c.N c.last h (upd D q (some (y.put 0 t.data.toList))) w':=by
   refine⟨hA,hL.pool.kept hk (λk _ hS he=>hL.nd q y hD (he ▸ hS)),hL.lg.kept hk (λe=>hL.ne.2.2.2 q y hD e.symm),hL.ns,hL.na,hL.nl,hL.nb,λj z hj=>?_,⟨hL.ne.1,hL.ne.2.1,hL.ne.2.2.1,λj z hj=>?_⟩,⟨hL.low.1,hL.low.2.1,hL.low.2.2.1,hL.low.2.2.2.1,λj z hj=>?_⟩,hL.n0⟩
   all_goals
    by_cases hjq:j=q
    ·subst hjq;rw[AB]at hj;cases hj
     rw[hyb];first
      | exact hL.nd j y hD
      | exact hL.ne.2.2.2 j y hD
      | exact hL.low.2.2.2.2 j y hD
    ·rw[AA _ _ hjq]at hj;first
      | exact hL.nd j z hj
      | exact hL.ne.2.2.2 j z hj
      | exact hL.low.2.2.2.2 j z hj
  refine⟨rfl,GJ x hk (λk e=>e ▸ h2 q y hD) hL' h1 (λr z hr=>?_) ⟨λr z hr=>?_,λr z hr=>?_,λr hr hn'=>?_⟩ (λr hr=>?_)⟩
  ·by_cases hrq:r=q
   ·subst hrq;rw[AB]at hr;cases hr;exact .inl (h2 r y hD)
   ·rw[AA _ _ hrq]at hr;exact .inl (h2 r z hr)
  ·by_cases hrq:r=q
   ·subst hrq;rw[AB]at hr;cases hr;exact h3.1 r y hD
   ·rw[AA _ _ hrq]at hr;exact h3.1 r z hr
  ·by_cases hrq:r=q
   ·subst hrq;rw[AB]at hr;cases hr;exact h3.2.1 r y hD
   ·rw[AA _ _ hrq]at hr;exact h3.2.1 r z hr
  ·by_cases hrq:r=q
   ·subst hrq;rw[AB]at hn';cases hn'
   ·rw[AA _ _ hrq]at hn';exact h3.2.2 r hr hn'
  ·by_cases hrq:r=q
   ·subst hrq;rw[AB];unfold pgD;rw[AB]
    exact (MM g.2.2.2.2.1 htl).symm
   ·rw[AA _ _ hrq,h4 r hr];unfold pgD;rw[AA _ _ hrq]
 | none =>
  have hC:(c.C q).length=512:=by
   have:=h4 q hq
   unfold pgD at this;rw[hD]at this;have h':G q=c.C q:=this;rw[<-h'];exact hG
  have HCH:=yH (AU7 x hL h1 h2 h3 h4 q hq hD hC t ht);have h1':=CR q hL.act;rw[if_pos (by rw[Int.toNat_natCast];exact⟨by have:=hq.1;omega,hq⟩)]at h1'
  have HP:=yH h1';have hq4:q<4096:=by have:=hq.2.1;have:=x.ok.cnt;omega
  have hlk:=hL.act.dr.look_none hq4 hD;have c83:=hL.act.ac.dr;have c1:=hL.act.ac.st;have hts:(t.size:Int)=512:=by omega
  have hsl:∀(W:World) (b:Nat),(Instr.sliceAt 109 (.pointer (some ⟨b,513,none⟩)) (some (.int .i64 0)) none none).run Tryz.prog W=.ok (.slice (some ⟨b,513,none⟩) 512 512) W:=λW b=>by
   have:=IP W ⟨b,513,none⟩ 0 (by omega)
   rw[if_neg (by omega),A3]at this
   exact this
  obtain⟨cs,hcs⟩:∃s:ByteArray,s=⟨(c.C q).toArray⟩:=⟨_,rfl⟩;rw[<-hcs]at HCH;clear hL h1 h2 h3 h4 htl hD hC h1' hq4 hcs hq hG x ht;go_enter Tryz.func16,Tryz.ntmps16;go_wp2_with fail;refine HP.out.mono ?_;rintro e w' ⟨rfl,hw⟩;subst w';go_wp2_with fail;refine HCH.out.mono ?_;rintro e w1 ⟨rfl,hn⟩;have HN:=yH hn;clear hn HCH HP;go_wp2_with fail;refine HN.out.mono ?_;rintro e w2 ⟨b,w3,rfl,d83,hmu,hcp,HE⟩;have HMU:=yH hmu;clear hmu HN hlk c83 c1;go_wp2_with (refine B8 rfl _ _ _ 38 rfl _ _ _ (by rfl) (by rfl) (by rfl) HMU.out ?_)
  go_ret;exact⟨rfl,HE.out⟩
end
structure Hw (K:Kc)(s:Hst)(S':Nat->Prop)(ρ':Nat->Nat)(h':Hd)(G':Nat->List UInt8)(w:World):Prop where
 pos:1<=K.w0.heap.size
 tree:AH w K.tb K.c.a K.r/\ρ' K.tb=0
 act:AU K.J K.B S' K.c h' G' w
 sub:∀k,S' k->ρ' k=1
 turn:AO K.S0 K.w0 S' w
 low:∀k,2<=ρ' k->K.w0.heap.size<=k
 lt:∀k,ρ' k≠0->k<w.heap.size
 chg:w.heap[K.cb]? = some (.cells (K.cells s) 186 (0,0))/\ρ' K.cb=2
 map:(∃m,EB w K.mb m (C9 s.M))/\ρ' K.mb=3
 gon:E0 w s.gv s.gn/\∀k,s.gv.ownBlock=some k->ρ' k=6
 node:∀q x,s.M q=some x->DS ρ' w q x
section
variable {K:Kc} {s:Hst} {S':Nat->Prop} {ρ':Nat->Nat} {h':Hd} {G':Nat->List UInt8} {w w':World}
theorem Hnd.hw (H:Hnd K s w):Hw K s s.S s.ρ s.h s.G w:=⟨H.pos,H.tree,H.act,H.sub,H.turn,H.low,H.lt,H.chg,H.map,H.gon,H.node⟩
theorem Hw.acts (H:Hw K s S' ρ' h' G' w){S2:Nat->Prop}{h2:Hd}{G2:Nat->List UInt8}{ρ2:Nat->Nat}(hT:AO S' w S2 w')(hA:AU K.J K.B S2 K.c h2 G2 w')(hρ:∀k,k<w.heap.size->ρ2 k=ρ' k)(hS:∀k,w.heap.size<=k->S2 k->ρ2 k=1)(hlt:∀k,w.heap.size<=k->ρ2 k≠0->k<w'.heap.size)
  (h1:∀k,w.heap.size<=k->ρ2 k<=1):Hw K s S2 ρ2 h2 G2 w':=by
 have hz:=hT.1.size;have hTR:∀k,k<w.heap.size->S' k->ρ' k=1:=λk _ h=>H.sub k h
 have same:∀k,ρ' k≠0->ρ2 k=ρ' k:=λk h1=>hρ k (H.lt k h1)
 have blk:∀k,ρ' k≠0->ρ' k≠1->w'.heap[k]? = w.heap[k]?:=λk h1 h2=>hT.1.block k (H.lt k h1) λh=>h2 (H.sub k h)
 have htb:=H.tree.1.lt;refine⟨H.pos,⟨H.tree.1.kept hT.1 (λh=>?_),(hρ _ htb).trans H.tree.2⟩,hA,λk hk=>?_,H.turn.trans hT,λk hk=>?_,λk hk=>?_,⟨?_,?_⟩,⟨?_,?_⟩,⟨AG H.gon.1 λk hk'=>?_,λk hk'=>?_⟩,λq x hq=>?_⟩
 ·have e1:=H.sub _ h;rw[H.tree.2]at e1;omega
 ·rcases Nat.lt_or_ge k w.heap.size with h|h
  ·exact (hρ k h).trans (H.sub k (hT.2 k h hk))
  ·exact hS k h hk
 ·rcases Nat.lt_or_ge k w.heap.size with h|h
  ·rw[hρ k h]at hk;exact H.low k hk
  ·have:=h1 k h;omega
 ·rcases Nat.lt_or_ge k w.heap.size with h|h
  ·omega
  ·exact hlt k h hk
 ·have hr:=H.chg.2;rw[blk _ (by omega) (by omega)];exact H.chg.1
 ·have hr:=H.chg.2;rw[same _ (by omega)];exact hr
 ·have hr:=H.map.2;obtain⟨m,hm⟩:=H.map.1;exact⟨m,hm.block (blk _ (by omega) (by omega))⟩
 ·have hr:=H.map.2;rw[same _ (by omega)];exact hr
 ·have hr:=H.gon.2 k hk';exact blk _ (by omega) (by omega)
 ·have hr:=H.gon.2 k hk';rw[same _ (by omega)];exact hr
 ·exact (H.node q x hq).go (R:=λr=>r=1) hT.1 hTR (by omega) (λk hk=>.inl (hρ k hk)) H.lt ⟨by omega,by omega,by omega⟩
theorem Hw.post (H:Hw K s S' ρ' h' G' w){h2:Hd}{G2:Nat->List UInt8}(hA:BI K.J K.B S' K.c h2 G2 w w'):∃S2 ρ2,Hw K s S2 ρ2 h2 G2 w'/\∀k,k<w.heap.size->ρ' k=0->ρ2 k=0/\w'.heap[k]? = w.heap[k]?:=by
 obtain⟨S2,hT,hA⟩:=hA;obtain⟨ρ2,h1,h2,h3⟩:=NP ρ' w.heap.size S2;have h0:∀k,w.heap.size<=k->ρ' k=0:=λk hk=>by
  rcases Nat.eq_zero_or_pos (ρ' k) with e|e
  ·exact e
  ·have:=H.lt k (by omega);omega
 refine⟨S2,ρ2,H.acts hT hA h1 h2 (λk hk h0'=>?_) (λk hk=>?_),λk hk hz=>⟨(h1 k hk).trans hz,hT.1.block k hk λhs=>by have:=H.sub k hs;omega⟩⟩
 ·by_cases hs:S2 k
  ·exact (hA.low k hs).2
  ·rw[h3 k hk hs,h0 k hk]at h0';exact absurd rfl h0'
 ·by_cases hs:S2 k
  ·rw[h2 k hk hs];exact Nat.le_refl _
  ·rw[h3 k hk hs,h0 k hk];omega
theorem Hw.below (H:Hw K s S' ρ' h' G' w)(hb:Below w.heap.size w w'):Hw K s S' ρ' h' G' w':=by
 have hz:=hb.size;have h0:∀k,w.heap.size<=k->ρ' k=0:=λk hk=>by
  rcases Nat.eq_zero_or_pos (ρ' k) with e|e
  ·exact e
  ·have:=H.lt k (by omega);omega
 have hT:AO S' w S' w':=⟨AC.ofBelow hb,λk _ h=>h⟩
 exact H.acts hT (H.act.below hb) (λ_ _=>rfl) (λk hk hs=>H.sub k hs) (λk hk h=>absurd (h0 k hk) h) (λk hk=>by rw[h0 k hk];omega)
theorem Hw.cb0 (H:Hw K s S' ρ' h' G' w):w.cell? ⟨K.cb,0,none⟩=some (.pointer (some ⟨K.tb,0,none⟩)):=by rw[yC H.chg.1];rfl
theorem Hw.cb1 (H:Hw K s S' ρ' h' G' w):w.cell? ⟨K.cb,1,none⟩=some (.map (some K.mb)):=by rw[yC H.chg.1];rfl
theorem Hw.cb4 (H:Hw K s S' ρ' h' G' w):w.cell? ⟨K.cb,4,none⟩=some s.gv:=by rw[yC H.chg.1];rfl
theorem Hw.look (H:Hw K s S' ρ' h' G' w){q:Nat}(hq:1<=q/\q<4096){x:NO}(hx:s.M q=some x):(Instr.lookup 184 (.map (some K.mb)) (.int .i64 q) false).run Tryz.prog w=.ok x.ptr w:=by
 obtain⟨m,hm⟩:=H.map.1;have:=hm.look (t:=184) (e:=127) Tryz.underlying184 (AY9 w) q hq.2
 rw[IR _ hq,hx]at this;exact this
end
theorem BC6 {P:Nat->Nat->List En->Prop}:∀{L:Nat} {t:Tr L},Rep P t->CJ t->L<256->∀q ∈ t.pages,∃l es,P q l es/\VN l es
 | 0,t,hr,ht,hL,q,hq=>by
  have:q=t.page:=by simpa [Tr.pages,LZ] using hq
  subst this;exact⟨0,t.ens,hr.at_,AN6 ht hL⟩
 | L+1,t,hr,ht,hL,q,hq=>by
  rw[AQ]at hq;rcases List.mem_cons.1 hq with rfl|hq
  ·exact⟨L+1,t.ens,hr.at_,AN6 ht hL⟩
  ·obtain⟨k,hk,hq⟩:=List.mem_flatMap.1 hq;exact BC6 (hr.kid k hk) ((AL.1 ht.1).1.2 k hk) (by omega) q hq
section
variable {K:Kc} {s0 s:Hst} {w w':World} {F:List En} {P ps born dead:List Nat} {r:Nat}
theorem Fin.nodes (f:Fin K s0 s F P r ps born dead w)(h0:∀q x,s0.M q=some x->1<=q->q<4096->q ∈ P):∀q x,s.M q=some x->1<=q->q<4096->VN x.level x.ens:=by
 intro q x hx h1 h2;by_cases hq:q ∈ P++born
 ·have hm:=f.perm.mem_iff.2 hq;rcases List.mem_append.1 hm with hm|hm
  ·rcases f.tree with⟨_,_,e⟩|⟨m,t,ht,_,_,_,hpg,hr⟩
   ·rw[e]at hm;cases hm
   ·have hlev:m<=12:=by
     have hnd:=f.perm.nodup_iff.2 f.new.1;rw[List.nodup_append]at hnd;refine ht.level (by rw[hpg];exact hnd.1) λj hj=>?_
     exact (f.H.has_lt (f.H.rep_has hr j hj)).2
    rw[<-hpg]at hm;obtain⟨l,es,hc,hv⟩:=BC6 hr ht.1 (by omega) q hm
    obtain⟨_,_,hc⟩:=hc;rw[hx]at hc;obtain⟨e1,e2⟩:=hc;rw[e1,e2];exact hv
  ·rcases List.mem_cons.1 hm with e|hm
   ·omega
   ·have:=(f.H.gok.2 q (by rw[f.gn];exact hm)).2
    rw[hx]at this;cases this
 ·have h3:=f.fram.M q h2 hq;rw[hx]at h3;exact absurd (List.mem_append.2 (.inl (h0 q x h3.symm h1 h2))) hq
def wG (s:Hst)(l:List Nat):Nat->List UInt8:=λq=>if q ∈ l then (match s.M q with
 | some x=>pgB x.level x.ens
 | none=>s.G q) else s.G q
theorem BV7 (s:Hst):wG s []=s.G:=by funext q;unfold wG;rw[if_neg (by simp)]
theorem AN0 (s:Hst)(l:List Nat){q:Nat}{x:NO}(hx:s.M q=some x):wG s (l++[q])=upd (wG s l) q (pgB x.level x.ens):=by
 funext j
 by_cases hj:j=q
 ·subst hj;rw[AB];unfold wG;rw[if_pos (by simp),hx]
 ·rw[AA _ _ hj];unfold wG;have:(j ∈ l++[q])=(j ∈ l):=by simp[hj]
  simp only[this]
def Wr (K:Kc)(s:Hst)(g:Nat)(o:Obj)(l:List Nat)(w:World):Prop:=∃S' ρ',Hw K s S' ρ' s.h (wG s l) w/\ρ' g=0/\w.heap[g]? = some o
theorem Wr.same {g:Nat}{o:Obj}{l:List Nat}{q:Nat}{x:NO}(h:Wr K s g o l w)(hx:s.M q=some x)(hq:q ∉ l)(he:s.G q=pgB x.level x.ens):Wr K s g o (l++[q]) w:=by
 obtain⟨S',ρ',H,hz,hgo⟩:=h;refine⟨S',ρ',⟨H.pos,H.tree,H.act.congr λj _=>?_,H.sub,H.turn,H.low,H.lt,H.chg,H.map,H.gon,H.node⟩,hz,hgo⟩
 rw[AN0 s l hx];by_cases hj:j=q
 ·subst hj;rw[AB];unfold wG;rw[if_neg hq];exact he.symm
 ·rw[AA _ _ hj]
theorem Wr.round {g:Nat}{o:Obj}{l:List Nat}{q:Nat}{x:NO}(h:Wr K s g o l w)(hM:s.M q=some x)(hq:1<=q/\q<4096)(hl:q ∉ l)(hv:VN x.level x.ens)(hhas:s.h.has q)(hG:∀q,s.h.has q->(s.G q).length=512)(hw:x.was=s.G q\/x.was=[]) :
  w.cell? ⟨K.cb,1,none⟩=some (.map (some K.mb))/\(Instr.lookup 184 (.map (some K.mb)) (.int .i64 q) false).run Tryz.prog w=.ok x.ptr w /\
   Calls Tryz.prog 164 #[x.ptr] w λe w1=>e=.returned (.string ⟨(pgB x.level x.ens).toArray⟩)/\w1.cell? ⟨x.blk,3,none⟩=some (.string ⟨x.was.toArray⟩) /\
    (pgB x.level x.ens=x.was->Hid (Wr K s g o (l++[q]) w1))/\w1.cell? ⟨K.cb,0,none⟩=some (.pointer (some ⟨K.tb,0,none⟩))/\w1.cell? ⟨K.tb,1,none⟩=some (.pointer (some ⟨K.c.a,0,none⟩)) /\
     Hid (Calls Tryz.prog 16 #[.pointer (some ⟨K.c.a,0,none⟩),.int .i64 q,.int .i64 0,.string ⟨(pgB x.level x.ens).toArray⟩] w1 λe w2=>e=.returned (.int .i64 0)/\Hid (Wr K s g o (l++[q]) w2)):=by
 obtain⟨S',ρ',H,hz,hgo⟩:=h;have hgl:g<w.heap.size:=(Array.getElem?_eq_some_iff.1 hgo).1;have hlen:=GD x.level x.ens hv.fit;refine⟨H.cb1,H.look hq hM,(BP4 _ x w (H.node q x hM).at_ hv).mono ?_⟩;rintro e w1 ⟨rfl,hb⟩;have H1:=H.below hb;have hgo1:w1.heap[g]? = some o:=(hb.block g hgl).trans hgo;refine⟨rfl,(H1.node q x hM).at_.c3,λe=>yH (Wr.same ⟨S',ρ',H1,hz,hgo1⟩ hM hl ?_),H1.cb0,H1.tree.1.c1,yH ?_⟩
 ·rcases hw with hw|hw
  ·rw[<-hw,e]
  ·rw[e,hw]at hlen;simp at hlen
 ·have hg:(wG s l q).length=512:=by unfold wG;rw[if_neg hl];exact hG q hhas
  refine (BO0 H1.act q hhas ⟨(pgB x.level x.ens).toArray⟩ (by show (pgB x.level x.ens).toArray.size=512;simpa using hlen) hg).mono ?_
  rintro e w2 ⟨rfl,hp⟩;obtain⟨S2,ρ2,H2,hk⟩:=H1.post hp;obtain⟨hz2,hgo2⟩:=hk g (Nat.lt_of_lt_of_le hgl hb.size) hz;have he:(⟨(pgB x.level x.ens).toArray⟩:ByteArray).data.toList=pgB x.level x.ens:=by simp
  rw[he,<-AN0 s l hM]at H2;exact⟨rfl,yH ⟨S2,ρ2,H2,hz2,hgo2.trans hgo1⟩⟩
end
section
variable {K:Kc} {s:Hst} {w w':World}
theorem P8 {w:World}{base:Nat}{v:Value}{l:List Nat}(h:w.ownsRow base 3 1 v l.length (l.map λk:Nat=>Value.int .i64 (k:Int))){j q:Nat}(hj:l[j]? = some q):∃g cap,base<=g/\v=.slice (some ⟨g,0,none⟩) l.length cap/\∃o,w.heap[g]? = some o/\∀W:World,W.heap[g]? = some o->W.cell? ⟨g,j,none⟩=some (.int .i64 (q:Nat)):=by
 have hlt:=(List.getElem?_eq_some_iff.1 hj).1;rcases h.2 with⟨_,h0⟩|⟨g,cap,cur,hv,hb,hh,_,_,_,htk⟩
 ·omega
 ·refine⟨g,cap,hb,hv,_,hh,λW hW=>?_⟩
  have h1:(l.map λk:Nat=>Value.int .i64 (k:Int))[j]? = some (.int .i64 (q:Nat)):=by rw[List.getElem?_map,hj];rfl
  rw[<-htk,List.getElem?_take,if_pos (by omega)]at h1
  rw[yC hW,<-Array.getElem?_toList];exact h1
theorem AS9 {w:World}{base:Nat}{v:Value}{l:List Nat}(h:w.ownsRow base 3 1 v l.length (l.map λk:Nat=>Value.int .i64 (k:Int))):∃a cap,v=.slice a l.length cap:=by
 rcases h.2 with⟨rfl,h0⟩|⟨g,cap,cur,hv,_⟩
 ·exact⟨none,0,by rw[h0]⟩
 ·exact⟨_,_,hv⟩
def Fre (K:Kc)(s:Hst)(ks l:List Nat)(w:World):Prop:=∃S' ρ' h',Hw K s S' ρ' h' (wG s ks) w/\(∀q,h'.has q ↔ s.h.has q/\q ∉ l)/\h'.roots=s.h.roots
theorem Wr.fre {g:Nat}{o:Obj}{ks:List Nat}(h:Wr K s g o ks w):Fre K s ks [] w:=by
 obtain⟨S',ρ',H,_⟩:=h;exact⟨S',ρ',s.h,H,λq=>by simp,rfl⟩
theorem Fre.round {ks l:List Nat}(h:Fre K s ks l w){j q:Nat}(hj:s.gn[j]? = some q)(hq:s.h.has q)(hl:q ∉ l) :
  ∃g cap,s.gv=.slice (some ⟨g,0,none⟩) s.gn.length cap/\w.cell? ⟨g,j,none⟩=some (.int .i64 (q:Nat))/\w.cell? ⟨K.cb,0,none⟩=some (.pointer (some ⟨K.tb,0,none⟩))/\w.cell? ⟨K.tb,1,none⟩=some (.pointer (some ⟨K.c.a,0,none⟩)) /\
   Hid (Calls Tryz.prog 17 #[.pointer (some ⟨K.c.a,0,none⟩),.int .i64 (q:Nat)] w λe w2=>e=.returned (.int .i64 0)/\Hid (Fre K s ks (l++[q]) w2)):=by
 obtain⟨S',ρ',h',H,hh,hr⟩:=h;obtain⟨g,cap,_,hv,o,ho,hc⟩:=P8 H.gon.1 hj;have hhq:h'.has q:=(hh q).2 ⟨hq,hl⟩;refine⟨g,cap,hv,hc w ho,H.cb0,H.tree.1.c1,yH ((BI5 H.act q hhq).mono ?_)⟩;rintro e w2 ⟨rfl,hp⟩;obtain⟨S2,ρ2,H2,_⟩:=H.post hp;refine⟨rfl,yH ⟨S2,ρ2,h'.turn q,H2,λr=>?_,hr⟩⟩
 rw[M5 H.act.ok hhq r,hh r,List.mem_append,List.mem_singleton,not_or,and_assoc]
end
section
variable {K:Kc} {s:Hst} {w:World}
def VP (K:Kc)(s:Hst)(e:Ending)(w':World):Prop:=e=.returned (.tuple #[])/\∃ks,(∀q,q ∈ ks ↔ (1<=q/\q<4096)/\(s.M q).isSome=true)/\Fre K s ks s.gn w'
theorem BD5 (M:Nat->Option NO)(q:Nat):(C9 M q).isSome=true ↔ (1<=q/\q<4096)/\(M q).isSome=true:=by
 unfold C9;by_cases h:1<=q/\q<4096
 ·rw[if_pos h];simp[h]
 ·rw[if_neg h];simp[h]
theorem BZ6 {T U:ByteArray}(h:T.toList=U.toList):T=U:=by
 rw[ByteArray.toList_eq,ByteArray.toList_eq]at h;cases T;cases U
 congr 1
 exact Array.ext' h
theorem NM {l:List Nat}{j q:Nat}(h:l[j]? = some q):l.take j++[q]=l.take (j+1):=by
 rw[List.take_add_one,h];rfl
theorem ZH {l:List Nat}(hn:l.Nodup){j q:Nat}(h:l[j]? = some q):q ∉ l.take j:=λhm=>by
 have h1:(l.take (j+1)).Nodup:=hn.sublist (List.take_sublist _ _);rw[<-NM h,List.nodup_append]at h1;exact h1.2.2 q hm q (by simp) rfl
theorem BO2 (H:Hnd K s w)(hvn:∀q x,s.M q=some x->1<=q->q<4096->VN x.level x.ens)(hG:∀q,s.h.has q->(s.G q).length=512) :
  Calls Tryz.prog 125 #[.pointer (some ⟨K.cb,0,none⟩)] w (VP K s):=by
 obtain⟨m,hm⟩:=H.map.1;have HK:=yH (AK0 K.mb w);have HSO:Hid (Calls Tryz.prog 101 #[.func (.func 188) #[] #[.pointer (some ⟨w.heap.size,0,none⟩)]] (w.alloc (.cells #[.map (some K.mb)] 184)) λe w1=>∃(va:Option Addr) (N cap:Nat),e=.returned (.slice va N cap)/\Hid (∃(ks:List Nat) (g:Nat) (o:Obj),ks.length=N/\(∀q,q ∈ ks ↔ (1<=q/\q<4096)/\(s.M q).isSome=true)/\ks.Nodup/\Wr K s g o [] w1/\∀j q,ks[j]? = some q->va=some ⟨g,0,none⟩/\∀W:World,W.heap[g]? = some o->W.cell? ⟨g,j,none⟩=some (.int .i64 (q:Nat)))):=yH (by
  refine (V0 hm).mono ?_;rintro e w1 ⟨v,ks,rfl,hk,hrow,hb⟩;obtain⟨va,cap,rfl⟩:=AS9 hrow;refine⟨va,ks.length,cap,rfl,yH ?_⟩;have H1:=(H.hw).below hb;have hks:∀q,q ∈ ks ↔ (1<=q/\q<4096)/\(s.M q).isSome=true:=λq=>(hk.2 q).trans (BD5 s.M q)
  have hnd:ks.Nodup:=hk.1.imp λh=>by omega
  have hwr:∀g o,s.ρ g=0->w1.heap[g]? = some o->Wr K s g o [] w1:=λg o hz ho=>⟨s.S,s.ρ,by rw[BV7];exact H1,hz,ho⟩
  cases hk0:ks with
  | nil =>
   have htb:=H1.tree.1.lt;exact⟨[],K.tb,_,rfl,by rw[<-hk0];exact hks,List.nodup_nil,hwr K.tb _ H.tree.2 (Array.getElem?_eq_getElem htb),λj q hj=>by simp at hj⟩
  | cons q0 r =>
   obtain⟨g,cap',hge,hv,o,ho,_⟩:=P8 hrow (j:=0) (q:=q0) (by rw[hk0];rfl)
   rw[<-hk0];refine⟨ks,g,o,rfl,hks,hnd,hwr g o ?_ ho,λj q hj=>?_⟩
   ·rcases Nat.eq_zero_or_pos (s.ρ g) with e|e
    ·exact e
    ·have:=H.lt g (by omega);omega
   ·obtain⟨g',cap2,_,hv',o',ho',hc'⟩:=P8 hrow hj;rw[hv]at hv';injection hv' with e1 _ _
    injection e1 with e1
    injection e1 with e1
    subst e1;rw[ho]at ho';injection ho' with ho'
    subst ho';injection hv with e2 _ _
    exact⟨e2,hc'⟩)
 have c1:=H.cb1;have HHN:=yH H;have HVN:=yH hvn;have HG:=yH hG
 have hgl:s.gn.length<=4096:=H.gn_few;obtain⟨ga,gc,hgv⟩:=H.gon.1.shape;obtain⟨gl,hgl'⟩:∃n,n=s.gn.length:=⟨_,rfl⟩;rw[<-hgl']at hgv hgl;have HGV:=yH hgv;have HGL:=yH hgl'
 clear H hvn hG hm hgv hgl';go_enter Tryz.func125,Tryz.ntmps125;go_wp2_with fail;refine HK.out.mono ?_;rintro e w0 ⟨rfl,hw0⟩;subst w0;go_wp2_with fail;refine HSO.out.mono ?_;rintro e w1 ⟨va,N,cap,rfl,HE⟩;obtain⟨ks,g,o,hkl,hks,hnd,hwr,hcell⟩:=HE.out;have HKL:=yH hkl;have HKS:=yH hks;have HND:=yH hnd;have HWR:=yH hwr;have HCE:=yH hcell
 have hN:N<=4096:=by
  rw[<-hkl];exact L7 hnd λq hq=>((hks q).1 hq).1.2
 clear HE HSO HK hkl hks hnd hwr hcell c1;go_wp2;go_loopw [15] (λi wr=>∃j:Nat,j<=N/\i=.int .i64 j/\Hid (Wr K s g o (ks.take j) wr)) (λi _=>N-(intOf i).toNat)
 case atStart=>exact⟨0,by omega,rfl,yH (by rw[List.take_zero];exact HWR.out)⟩
 case round =>
  obtain⟨j,hj,rfl,HW⟩:=hrel;by_cases hlt:j<N
  ·obtain⟨q,hq⟩:∃q,ks[j]? = some q:=⟨_,List.getElem?_eq_getElem (by rw[HKL.out];exact hlt)⟩
   obtain⟨⟨q1,q2⟩,hsome⟩:=(HKS.out q).1 (List.mem_of_getElem? hq);obtain⟨x,hx⟩:=Option.isSome_iff_exists.1 hsome;obtain⟨hva,hc⟩:=HCE.out j q hq;obtain⟨_,hhas,hwas⟩:=HHN.out.was q x hx q1 q2;obtain⟨_,_,_,_,hgo⟩:=id HW.out;have d0:=hc wr hgo;obtain⟨d1,hlk,htx⟩:=HW.out.round hx ⟨q1,q2⟩ (ZH HND.out hq) (HVN.out q x hx q1 q2) hhas HG.out hwas;rw[NM hq]at htx;have HTX:=yH htx;obtain⟨T,hT⟩:∃t:ByteArray,t=⟨(pgB x.level x.ens).toArray⟩:=⟨_,rfl⟩;obtain⟨U,hU⟩:∃t:ByteArray,t=⟨x.was.toArray⟩:=⟨_,rfl⟩;have HTU:Hid (T=U->pgB x.level x.ens=x.was):=yH λe=>by
    rw[hT,hU]at e;injection e with e
    exact List.toArray_inj e
   rw[<-hT,<-hU]at HTX;unfold NO.ptr at HTX hlk;have HX:=yH hva;subst hva;have hd:decide (j<N)=true:=decide_eq_true hlt;clear hq hsome hx hhas hwas hgo hc htx hT hU HX;go_wp2_with fail;refine HTX.out.mono ?_;rintro e w2 ⟨rfl,d3,hsame,e0,e1,HWT⟩;have HSA:=yH hsame;clear hsame;by_cases hTU:T=U
   ·have HS:=yH (HSA.out (HTU.out hTU));subst hTU;clear HWT HSA HTU;go_wp2;go_roundw
    case rel=>exact⟨j+1,by omega,by go_num,HS.out⟩
    case measure=>simp[intOf];omega
   ·have hTU2:(T.toList == U.toList)=false:=by
     cases hb:T.toList == U.toList with
     | false=>rfl
     | true=>exact absurd (BZ6 (eq_of_beq hb)) hTU
    have hTU3:decide (T=U)=false:=decide_eq_false hTU;clear HSA HTU;go_wp2_with fail;refine HWT.out.mono ?_;rintro e w3 ⟨rfl,HS⟩;clear HWT;go_wp2;go_roundw
    case rel=>exact⟨j+1,by omega,by go_num,HS⟩
    case measure=>simp[intOf];omega
  ·have hd:decide (j<N)=false:=decide_eq_false hlt;have hjN:j=N:=by omega
   subst hjN;have HF:Hid (Fre K s ks [] wr):=yH (by
    have h:=HW.out;rw[List.take_of_length_le (by rw[HKL.out];exact Nat.le_refl _)]at h
    exact h.fre)
   have g4:wr.cell? ⟨K.cb,4,none⟩=some (.slice ga gl gc):=by
    obtain⟨_,_,_,H2,_⟩:=HF.out;rw[<-HGV.out];exact H2.cb4
   clear HW HCE;go_wp2;go_loopw [49] (λi wq=>∃j:Nat,j<=gl/\i=.int .i64 j/\Hid (Fre K s ks (s.gn.take j) wq)) (λi _=>gl-(intOf i).toNat)
   case atStart=>exact⟨0,by omega,rfl,yH (by rw[List.take_zero];exact HF.out)⟩
   case round =>
    obtain⟨i,hi,rfl,HV⟩:=hrel;by_cases hlt2:i<gl
    ·have hd2:decide (i<gl)=true:=decide_eq_true hlt2;obtain⟨q,hq⟩:∃q,s.gn[i]? = some q:=⟨_,List.getElem?_eq_getElem (by rw[<-HGL.out];exact hlt2)⟩
     obtain⟨g2,cap2,hgv2,d0,e0,e1,HFR⟩:=HV.out.round hq (HHN.out.gok.2 q (List.mem_of_getElem? hq)).1 (ZH HHN.out.gok.1 hq);rw[NM hq]at HFR;rw[HGV.out]at hgv2;injection hgv2 with hga h2 h3
     clear h2 h3;subst hga;clear hq HV HF g4;go_wp2_with fail;refine HFR.out.mono ?_;rintro e w3 ⟨rfl,HS⟩;clear HFR;go_wp2;go_roundw
     case rel=>first | exact⟨i+1,by omega,by go_num,HS⟩ | ((repeat apply Exists.intro);exact⟨⟨i+1,by omega,by go_num,HS⟩,rfl⟩)
     case measure=>simp[intOf];omega
    ·have hd2:decide (i<gl)=false:=decide_eq_false hlt2;have HE:Hid (VP K s (.returned (.tuple #[])) wr):=yH ⟨rfl,ks,HKS.out,by
      have h:=HV.out;rw[List.take_of_length_le (by rw[<-HGL.out];omega)]at h
      exact h⟩
     clear HV HF g4;go_wp2;first | (go_end0;exact HE.out) | exact bodyPost_ret (v:=.tuple #[]) (by simp[results,Tryz.results125,go_sem]) rfl HE.out
end
section
variable {K:Kc} {s0 s:Hst} {w w':World} {F:List En} {P ps born dead ks:List Nat} {r:Nat}
theorem Hnd.laid (H:Hnd K s w)(hks:∀q,q ∈ ks ↔ (1<=q/\q<4096)/\(s.M q).isSome=true)(hvn:∀q x,s.M q=some x->1<=q->q<4096->VN x.level x.ens){h':Hd}(hh:∀q,h'.has q ↔ s.h.has q/\q ∉ s.gn){L:Nat}{t:Tr L}(hr:Rep (Cur s) t):Rep (FF h' (wG s ks)) t:=by
 refine hr.congr λq _ l es hc=>?_
 obtain⟨q1,q2,hc⟩:=hc;cases hm:s.M q with
 | some x =>
  rw[hm]at hc;obtain⟨e1,e2⟩:=hc;have hin:q ∈ ks:=(hks q).2 ⟨⟨q1,q2⟩,by rw[hm];rfl⟩
  have hv:=hvn q x hm q1 q2;rw[e1,e2]at hv;refine⟨(hh q).2 ⟨(H.was q x hm q1 q2).2.1,λhg=>?_⟩,?_,hv⟩
  ·have:=(H.gok.2 q hg).2
   rw[hm]at this;cases this
  ·unfold wG;rw[if_pos hin,hm]
   show pgB x.level x.ens=pgB l es;rw[e1,e2]
 | none =>
  rw[hm]at hc;obtain⟨⟨g1,g2,g3⟩,g4⟩:=hc;refine⟨(hh q).2 ⟨g1,g4⟩,?_,g3⟩;unfold wG;rw[if_neg (λhin=>by have:=((hks q).1 hin).2;rw[hm]at this;cases this)]
  exact g2
structure CC6 (K:Kc)(s0:Hst)(F:List En)(P:List Nat)(r:Nat)(ps:List Nat)(h':Hd)(G':Nat->List UInt8):Prop where
 tree:(F=[]/\r=0/\ps=[])\/∃(m:Nat) (t:Tr m),MF t/\Ord t [] none/\t.flat=F/\t.page=r/\t.pages=ps/\Rep (FF h' G') t
 has:∀q,h'.has q ↔ (s0.h.has q/\q ∉ P)\/q ∈ ps
 other:∀q,s0.h.has q->q ∉ P->G' q=s0.G q
 roots:h'.roots=s0.h.roots
 nodup:ps.Nodup
 new:∀q ∈ ps,q ∈ P\/¬s0.h.has q
theorem Fin.left (f:Fin K s0 s F P r ps born dead w)(hks:∀q,q ∈ ks ↔ (1<=q/\q<4096)/\(s.M q).isSome=true)(hvn:∀q x,s.M q=some x->1<=q->q<4096->VN x.level x.ens)(h0:∀q x,s0.M q=some x->1<=q->q<4096->q ∈ P){h':Hd}(hh:∀q,h'.has q ↔ s.h.has q/\q ∉ s.gn)(hrt:h'.roots=s.h.roots) :
  CC6 K s0 F P r ps h' (wG s ks):=by
 have hnd:=f.perm.nodup_iff.2 f.new.1;rw[List.nodup_append]at hnd;refine⟨f.tree.imp id λ⟨m,t,a,b,c,d,e,g⟩=>⟨m,t,a,b,c,d,e,f.H.laid hks hvn hh g⟩,λq=>?_,λq hq hP=>?_,hrt.trans f.fram.roots,hnd.1,λq hq=>?_⟩
 ·rw[hh q,f.has q,f.gn];constructor
  ·rintro⟨h1,h2⟩;by_cases hm:q ∈ P++born
   ·rcases List.mem_append.1 (f.perm.mem_iff.2 hm) with h3|h3
    ·exact .inr h3
    ·rcases List.mem_cons.1 h3 with e|h3
     ·subst e;exfalso
      have h9:s.h.has 0:=(f.has 0).2 h1;have:=(f.H.has_lt h9).1
      omega
     ·exact absurd h3 h2
   ·have hb:q ∉ born:=λhb=>hm (List.mem_append.2 (.inr hb))
    exact .inl ⟨h1.resolve_right hb,λhP=>hm (List.mem_append.2 (.inl hP))⟩
  ·rintro (⟨h1,h2⟩ | h1)
   ·refine⟨.inl h1,λhd=>?_⟩
    rcases List.mem_append.1 (f.perm.mem_iff.1 (List.mem_append.2 (.inr (List.mem_cons_of_mem _ hd)))) with h3|h3
    ·exact h2 h3
    ·exact (f.new.2.2 q h3).2 h1
   ·have h0':q≠0:=λe=>hnd.2.2 q h1 0 (by simp) e
    refine⟨?_,λhd=>hnd.2.2 q h1 q (List.mem_cons_of_mem _ hd) rfl⟩
    rcases List.mem_append.1 (f.perm.mem_iff.1 (List.mem_append.2 (.inl h1))) with h3|h3
    ·exact .inl ((f.new.2.1 q h3).resolve_left h0')
    ·exact .inr h3
 ·have hb:q ∉ born:=λhb=>(f.new.2.2 q hb).2 hq
  have hm:q ∉ P++born:=λhm=>(List.mem_append.1 hm).elim hP hb
  have hlt:=f.H.has_lt (f.fram.has q hq);have hn:q ∉ ks:=λhin=>by
   have h1:=((hks q).1 hin).2;rw[f.fram.M q hlt.2 hm]at h1;obtain⟨x,hx⟩:=Option.isSome_iff_exists.1 h1;exact hP (h0 q x hx hlt.1 hlt.2)
  unfold wG;rw[if_neg hn];exact f.fram.G q hq
 ·rcases List.mem_append.1 (f.perm.mem_iff.1 (List.mem_append.2 (.inl hq))) with h3|h3
  ·exact .inl h3
  ·exact .inr (f.new.2.2 q h3).2
end
section
variable {K:Kc} {s0:Hst} {w:World} {F:List En} {P:List Nat}
def RB (K:Kc)(s0:Hst)(F:List En)(P:List Nat)(e:Ending)(w':World):Prop:=e=.returned (.int .i64 0)/\∃(r:Nat) (ps:List Nat) (h':Hd) (G':Nat->List UInt8) (S':Nat->Prop),CC6 K s0 F P r ps h' G'/\AU K.J K.B S' K.c (h'.setRoot K.r r) G' w'/\AO K.S0 K.w0 S' w'/\AH w' K.tb K.c.a K.r
theorem Z0 (hway:2<=K.way.length/\K.way.length<=1000)(h0:Lop K s0 F P (K.way.length-1) w)(hw0:∀y a,K.way[0]? = some (y,a)->y.was=[])(hM0:∀q x,s0.M q=some x->1<=q->q<4096->q ∈ P)(hC:∀q,(K.c.C q).length=512)(hr16:K.r<16) :
  Calls Tryz.prog 81 #[.pointer (some ⟨K.cb,0,none⟩)] w (RB K s0 F P):=by
 refine ZZ hway h0 λw1 h1=>(BT6 h1 hw0).mono ?_
 rintro e w2 ⟨r,rfl,hf⟩;obtain⟨s,ps,born,dead,f⟩:=hf.out;refine⟨r,rfl,?_⟩;have hvn:=f.nodes hM0;refine (BO2 f.H hvn λq hq=>f.H.act.len hq (hC q)).mono ?_
 rintro e w3 ⟨rfl,ks,hks,S',ρ',h',H3,hh,hrt⟩;have hl:=f.left hks hvn hM0 hh hrt;have hr31:r<2147483648:=by
  rcases hl.tree with⟨_,e,_⟩|⟨m,t,ht,_,_,e,_⟩
  ·omega
  ·have:=ht.1.2.2.2;omega
 refine⟨rfl,H3.cb0,H3.tree.1.c1,H3.tree.1.c2,?_⟩;have H4:=H3.below (Below.refl w3.heap.size w3).drew;refine (R8 H4.act K.r r hr16 hr31).mono ?_;rintro e w4 ⟨rfl,hp⟩;obtain⟨S2,ρ2,H5,_⟩:=H4.post hp;exact⟨0,rfl,yH ⟨rfl,r,ps,h',_,S2,hl,H5.act,H5.turn,H5.tree.1⟩⟩
end
end Go.Proofs.YtfbbjiidccbaiaaGreatDoor
