/- Texts of one proof, one behind the other: UP, UQ, UR, US, UT, UV, UW, UX, UY. -/
import Derived.Test.YtfbbjiidccbaiaaGreatDoorQAM
import Derived.Deep.RegionWith
import Derived.IntWalk
import Derived.Test.YtfbbjiidccbaiaaGreatDoorQAA
set_option maxRecDepth 100000
set_option maxHeartbeats 6400000
namespace Go.Proofs.YtfbbjiidccbaiaaGreatDoor
open Go.RowKit
section
variable {K:Kc} {s:Hst} {i:Nat} {n:NO} {w w':World}
theorem Hnd.paged (H:Hnd K s w)(hM:s.M i=some n)(hi:i=0\/4096<=i)(q:Nat)(hq:q<4096):Hnd K { s with M:=upd s.M i (some { n with page:=q }) } (w.setCell ⟨n.blk,0,none⟩ (.int .i64 q)):=by
 have hn:=H.node i n hM;have hk:=AC.setCell (λk=>k=n.blk) w (b:=n.blk) (i:=0) rfl (.int .i64 q)
 have hlt:=λk hk'=>Nat.lt_of_lt_of_le (H.lt k hk') hk.size
 have hpe:C9 (upd s.M i (some { n with page:=q }))=C9 s.M:=E9 λj h1 h2=>by rw[AA _ _ (by omega)]
 refine H.step (T:=λk=>k=n.blk) (R:=λr=>r=8+2*i) hk (λk _ e=>e ▸ hn.blk) (by omega) (λ_ _=>.inl rfl) hlt (.inl ⟨by omega,rfl,rfl,rfl⟩) (.inl ⟨by omega,rfl,rfl⟩) (.inl ⟨by omega,hpe⟩) (by omega) (.inl ⟨by omega,rfl,rfl⟩) (.inl ⟨by omega,rfl,rfl⟩) (λj y hj=>?_) (λj y hj h1 h2=>?_) ⟨H.gok.1,λj hj=>⟨(H.gok.2 j hj).1,?_⟩⟩ H.tok
 ·dsimp only at hj
  by_cases hjq:j=i
  ·subst hjq;rw[AB]at hj;cases hj;refine .inr ⟨⟨by show (w.setCell ⟨n.blk,0,none⟩ (.int .i64 q)).heap[n.blk]? = _;rw[BW hn.at_.blk];rfl,hn.at_.own,?_,hn.at_.cap,⟨hq,hn.at_.small.2⟩,hn.at_.short,hn.at_.alone⟩,hn.blk,hn.row⟩
   refine hn.at_.ents.kept hk (λk _ e=>e ▸ hn.at_.own) (λ_ _ h=>h) (λ_ h=>h) (λad ha hne e=>?_)
   have hr:=hn.row ad ha;rw[e,hn.blk]at hr;split at hr <;> omega
  ·rw[AA _ _ hjq]at hj;exact .inl ⟨hj,by omega,by omega,by omega⟩
 ·dsimp only at hj
  rw[AA _ _ (by omega)]at hj
  exact H.was j y hj h1 h2
 ·have:j≠i:=λe=>by have:=(H.gok.2 j hj).2;rw[e,hM]at this;cases this
  dsimp only
  rw[AA _ _ this];exact (H.gok.2 j hj).2
theorem Hnd.named (H:Hnd K s w)(hM:s.M i=some n)(hi:i=0\/4096<=i){q m:Nat}(hq:1<=q/\q<4096)(hp:n.page=q/\s.h.has q/\n.was=[])(hqM:s.M q=none)(hg:q ∉ s.gn)(hk:AC (λk=>k=K.mb) w w')(hm:EB w' K.mb m (upd (C9 s.M) q (some n.ptr))) :
  ∃ρ',Hnd K { s with M:=upd (upd s.M i none) q (some n),ρ:=ρ' } w':=by
 have hn:=H.node i n hM;have hT:∀k,k<w.heap.size->k=K.mb->s.ρ k=3\/s.ρ k=8+2*i\/s.ρ k=9+2*i:=λk _ e=>.inl (e ▸ H.map.2)
 have hiq:i≠q:=by omega
 have hpe:C9 (upd (upd s.M i none) q (some n))=upd (C9 s.M) q (some n.ptr):=by
  rw[MU _ hq];congr 1
  exact E9 λj h1 h2=>by rw[AA _ _ (by omega)]
 have hr2:∀k,(if s.ρ k=8+2*i then 8+2*q else if s.ρ k=9+2*i then 9+2*q else s.ρ k)=s.ρ k\/((s.ρ k=3\/s.ρ k=8+2*i\/s.ρ k=9+2*i)/\2<=s.ρ k/\2<=(if s.ρ k=8+2*i then 8+2*q else if s.ρ k=9+2*i then 9+2*q else s.ρ k)):=λk=>by
  split
  ·right;omega
  ·split
   ·right;omega
   ·left;rfl
 have hz0:∀k,(if s.ρ k=8+2*i then 8+2*q else if s.ρ k=9+2*i then 9+2*q else s.ρ k)≠0 ↔ s.ρ k≠0:=λk=>by
  split
  ·omega
  ·split <;> omega
 refine⟨λk=>if s.ρ k=8+2*i then 8+2*q else if s.ρ k=9+2*i then 9+2*q else s.ρ k,H.step (T:=λk=>k=K.mb) (R:=λr=>r=3\/r=8+2*i\/r=9+2*i) hk hT (by omega) (λk _=>hr2 k) (λk hk'=>Nat.lt_of_lt_of_le (H.lt k ((hz0 k).1 hk')) hk.size) (.inl ⟨by omega,rfl,rfl,rfl⟩) (.inl ⟨by omega,rfl,rfl⟩) (.inr ⟨⟨m,by show EB w' K.mb m (C9 (upd (upd s.M i none) q (some n)));rw[hpe];exact hm⟩,?_⟩) (by omega) (.inl ⟨by omega,rfl,rfl⟩) (.inl ⟨by omega,rfl,rfl⟩) (λj y hj=>?_) (λj y hj h1 h2=>?_) ⟨H.gok.1,λj hj=>⟨(H.gok.2 j hj).1,?_⟩⟩ H.tok⟩
 ·dsimp only
  rw[H.map.2,if_neg (by omega),if_neg (by omega)]
 ·dsimp only at hj
  by_cases hjq:j=q
  ·subst hjq;rw[AB]at hj;cases hj;have e:(λk=>(if s.ρ k=8+2*i then 8+2*j else if s.ρ k=9+2*i then 9+2*j else s.ρ k)≠0)=λk=>s.ρ k≠0:=by
    funext k
    exact propext (hz0 k)
   refine .inr ⟨?_,?_,λad ha=>?_⟩
   ·dsimp only
    rw[e];refine hn.at_.kept hk (λk _ h=>by rw[h,H.map.2];omega) (λ_ _ h=>h) (λ_ h=>h) (λh=>?_) (λad ha _ h=>?_)
    ·have h1:=hn.blk;rw[h,H.map.2]at h1;omega
    ·have h1:=hn.row ad ha;rw[h,H.map.2]at h1;split at h1 <;> omega
   ·dsimp only
    rw[if_pos hn.blk]
   ·dsimp only
    have h1:=hn.row ad ha;by_cases hs:n.sole=true
    ·rw[if_pos hs]at h1 ⊢
     rw[if_neg (by omega),if_pos h1]
    ·rw[if_neg hs]at h1 ⊢
     rw[if_neg (by omega),if_neg (by omega)];exact h1
  ·rw[AA _ _ hjq]at hj;by_cases hji:j=i
   ·subst hji;rw[AB]at hj;cases hj
   ·rw[AA _ _ hji]at hj;exact .inl ⟨hj,by omega,by omega,by omega⟩
 ·dsimp only at hj
  by_cases hjq:j=q
  ·subst hjq;rw[AB]at hj;cases hj;exact⟨hp.1,hp.2.1,.inr hp.2.2⟩
  ·rw[AA _ _ hjq,AA _ _ (by omega)]at hj
   exact H.was j y hj h1 h2
 ·have h1:=(H.gok.2 j hj).2;dsimp only
  rw[AA _ _ (show j≠q from λe=>hg (e ▸ hj))]
  by_cases hji:j=i
  ·subst hji;exact AB _ _ _
  ·rw[AA _ _ hji];exact h1
theorem XI (H:Hnd K s w)(hM:s.M i=some n)(hi:i=0\/4096<=i)(hw:n.was=[]){U:List Nat}{k:Nat}(hr:CU s.h U (k+1)) :
  Calls Tryz.prog 119 #[.pointer (some ⟨K.cb,0,none⟩),n.ptr] w (K5 K s i n):=by
 have HAL:Hid (Calls Tryz.prog 14 #[.pointer (some ⟨K.c.a,0,none⟩)] w λe w1=>∃q,e=.returned (.tuple #[.int .i64 (q:Nat),.int .i64 0])/\q<4096 /\
   ∃v' w3 w4,w1.cell? ⟨n.blk,0,none⟩=some (.int .i64 n.page)/\w1.frozen? ⟨n.blk,0,none⟩=false/\(∃gl a c c',v'=Value.slice a (gl+1) c/\∃ga,s.av=.slice ga gl c' /\
    w1.cell? ⟨K.cb,3,none⟩=some (.slice ga gl c') /\
    (Builtin.append_ #[57,57] 57 #[.slice ga gl c',.slice (some ⟨w1.heap.size,0,none⟩) 1 1]).run Tryz.prog ((w1.setCell ⟨n.blk,0,none⟩ (.int .i64 q)).alloc (.cells #[.int .i64 q] 3))=.ok v' w3 /\
    w3.cell? ⟨K.cb,3,none⟩=some (.slice ga gl c')/\w3.frozen? ⟨K.cb,3,none⟩=false) /\
    w3.cell? ⟨K.cb,1,none⟩=some (.map (some K.mb)) /\
    (Instr.mapUpdate 184 (.map (some K.mb)) (.int .i64 q) n.ptr).run Tryz.prog (w3.setCell ⟨K.cb,3,none⟩ v')=.ok () w4/\Hid (K5 K s i n (.returned (.int .i64 0)) w4)):=yH (by
  refine (BU3 H.act).mono ?_;rintro e w1 (⟨q,h',hnx,rfl,hA⟩ | ⟨hf,hc,_⟩)
  ·obtain⟨hok',q1,q2,hnq,hhas,hroots⟩:=hnx.spec H.act.ok;obtain⟨S',ρ1,H1⟩:=H.act0 hA (λj x hj h1 h2=>by
    have:=H.was j x hj h1 h2
    refine⟨(hhas j).2 (.inl this.2.1),?_⟩;rw[AA _ _ (show j≠q from λe=>hnq (e ▸ this.2.1))]
    exact this.2.2) (λj hj=>(hhas j).2 (.inl (H.gok.2 j hj).1)) (λj hj=>(hhas j).2 (.inl (H.tok.2 j hj)))
   have hn1:=(H1.node i n hM).at_;have H2:=H1.paged hM hi q q2;refine⟨q,rfl,q2,?_⟩;obtain⟨W2,hW2⟩:∃W2,W2=w1.setCell ⟨n.blk,0,none⟩ (.int .i64 q):=⟨_,rfl⟩;have hWs:W2.heap.size=w1.heap.size:=by rw[hW2];simp[World.setCell]
   rw[<-hW2]at H2 ⊢
   rw[<-hWs];have hb:Below W2.heap.size W2 (W2.alloc (.cells #[.int .i64 q] 3)):=(Below.refl _ _).alloc (Nat.le_refl _) _;have H2W:=H2.below hb;have hcx:(W2.alloc (.cells #[.int .i64 q] 3)).cell? ⟨W2.heap.size,0,none⟩=some (.int .i64 q):=by rw[yC (heap_alloc_new W2 _)];rfl
   obtain⟨v',w3,hr3,hn3,hg3⟩:=MC _ s.av s.tk q W2.heap.size 1 H2W.tak.1 hcx (by have:=H.tk_few;omega) 57
   obtain⟨ρ3,H3⟩:=H2.pushT (q:=q) hb hg3 hn3 ((hhas q).2 (.inr rfl)) (λht=>hnq (H.tok.2 q ht))
   obtain⟨ga,c',hav⟩:=H2W.tak.1.shape;obtain⟨va,c,hvv⟩:=hn3.shape;dsimp only at hav
   have hkg:AC (λk=>s.av.ownBlock=some k) (W2.alloc (.cells #[.int .i64 q] 3)) w3:=AC.ofGrown hg3.1 (λk e=>e)
   have hcb3:w3.heap[K.cb]? = (W2.alloc (.cells #[.int .i64 q] 3)).heap[K.cb]?:=hkg.block _ H2W.cbl (λe=>by have h1:=H2W.tak.2 _ e;have h2:=H2W.chg.2;omega)
   have d3:=H2W.cb3;have f3:=H2W.cbf 3;obtain⟨m,hm⟩:=H3.map.1;have hqM:s.M q=none:=by
    cases hx:s.M q with
    | none=>rfl
    | some x=>exact absurd (H.was q x hx q1 q2).2.1 hnq
   have hM3:(upd s.M i (some { n with page:=q })) i=some { n with page:=q }:=AB _ _ _;obtain⟨w4,hr4,hp4,ht4⟩:=hm.put (t:=184) (e:=127) Tryz.underlying184 (by have:=hm.few;unfold maxLen;omega) q q2 (by rw[IR _ ⟨q1,q2⟩];show (upd s.M i (some { n with page:=q }) q).map NO.ptr=none;rw[AA _ _ (by omega),hqM];rfl) n.ptr
   obtain⟨ρ4,H4⟩:=H3.named hM3 hi ⟨q1,q2⟩ ⟨rfl,(hhas q).2 (.inr rfl),hw⟩ (by show upd s.M i (some { n with page:=q }) q=none;rw[AA _ _ (by omega),hqM]) (λhg=>hnq (H.gok.2 q hg).1) (AC.ofTurned ht4 rfl) hp4
   have hu:upd (upd (upd s.M i (some { n with page:=q })) i none) q (some { n with page:=q })=upd (upd s.M i none) q (some { n with page:=q }):=by
    congr 1
    funext j
    by_cases hj:j=i
    ·subst hj;rw[AB,AB]
    ·rw[AA _ _ hj,AA _ _ hj,AA _ _ hj]
   dsimp only at H4
   rw[hu]at H4;refine⟨v',w3,w4,hn1.c0,hn1.frozen 0,⟨s.tk.length,va,c,c',by rw[hvv,List.length_append];rfl,ga,hav,?_,?_,?_,?_⟩,?_,hr4,yH ⟨rfl,q,h',S',ρ4,v',hnx,H4⟩⟩
   ·rw[<-hav];exact H1.cb3
   ·rw[<-hav];exact hr3
   ·rw[World.cell?_of_block hcb3,<-hav];exact d3
   ·have:w3.frozen? ⟨K.cb,3,none⟩=(W2.alloc (.cells #[.int .i64 q] 3)).frozen? ⟨K.cb,3,none⟩:=by simp only[World.frozen?,hcb3]
    rw[this];exact f3
   ·rw[World.cell?_of_block hcb3];exact H2W.cb1
  ·exact (hr.not_full hf hc).elim)
 have c0:=H.cb0;have t1:=H.tree.1.c1;have hcl:=H.cbl;have hne:K.cb≠n.blk:=λe=>by have h1:=H.chg.2;have h2:=(H.node i n hM).blk;rw[<-e]at h2;omega
 unfold NO.ptr at HAL ⊢
 obtain⟨nb,hnb⟩:∃b,b=n.blk:=⟨_,rfl⟩;obtain⟨cb,hcb⟩:∃b,b=K.cb:=⟨_,rfl⟩;rw[<-hnb,<-hcb]at HAL;rw[<-hcb]at c0 hcl hne ⊢
 rw[<-hnb]at hne ⊢
 clear H hM hi hw hr hnb hcb;go_enter Tryz.func119,Tryz.ntmps119;go_wp2_with fail;refine HAL.out.mono ?_;rintro e w1 ⟨q,rfl,hq4,v',w3,w4,n0,nf,⟨gl,a,c,c',rfl,ga,_,d3,hr3,d3',f3'⟩,c1,hmu,hpo⟩;have HMU:=yH hmu;have HR3:=yH hr3
 clear hmu hr3;go_wp2_with (first
  | (at_builtin;refine Lib.wpList_append_run _ rfl _ _ 57 57 rfl _ _ rfl rfl _ _ HR3.out ?_)
  | (refine B8 rfl _ _ _ 184 rfl _ _ _ (by rfl) (by rfl) (by rfl) HMU.out ?_))
 go_ret;exact hpo.out
end
section
variable {K:Kc} {s s' s'':Hst} {i:Nat} {n:NO} {w w':World}
def BA (b l:Nat):NO:=⟨b,0,l,[],none,0,[],0,true⟩
theorem Hnd.temp (H:Hnd K s w)(l:Nat)(hl:l<=1000):∃ρ',Hnd K { s with M:=upd s.M 4096 (some (BA w.heap.size l)),ρ:=ρ' } (w.alloc (.cells #[.int .i64 0,.int .i64 l,.slice none 0 0,.string ⟨#[]⟩,.int .i64 0] 138)):=by
 have hb:Below w.heap.size w (w.alloc (.cells #[.int .i64 0,.int .i64 l,.slice none 0 0,.string ⟨#[]⟩,.int .i64 0] 138)):=(Below.refl _ _).alloc (Nat.le_refl _) _;have hz:(w.alloc (.cells #[.int .i64 0,.int .i64 l,.slice none 0 0,.string ⟨#[]⟩,.int .i64 0] 138)).heap.size=w.heap.size+1:=by simp
 have hpe:C9 (upd s.M 4096 (some (BA w.heap.size l)))=C9 s.M:=E9 λj h1 h2=>by rw[AA _ _ (by omega)]
 refine⟨upd s.ρ w.heap.size 8200,H.step (T:=λ_=>False) (R:=λ_=>False) (AC.ofBelow hb) (λ_ _ h=>h) id (λk hk=>.inl (AA _ _ (by omega))) (λk hk=>?_) (.inl ⟨id,rfl,rfl,rfl⟩) (.inl ⟨id,rfl,rfl⟩) (.inl ⟨id,hpe⟩) id (.inl ⟨id,rfl,rfl⟩) (.inl ⟨id,rfl,rfl⟩) (λj y hj=>?_) (λj y hj h1 h2=>?_) ⟨H.gok.1,λj hj=>⟨(H.gok.2 j hj).1,?_⟩⟩ H.tok⟩
 ·dsimp only at hk
  rw[hz];by_cases hkg:k=w.heap.size
  ·omega
  ·rw[AA _ _ hkg]at hk;have:=H.lt k hk
   omega
 ·dsimp only at hj
  by_cases hjq:j=4096
  ·subst hjq;rw[AB]at hj;cases hj;refine .inr ⟨⟨heap_alloc_new w _,?_,.inl rfl,⟨Nat.le_refl _,Nat.zero_le _⟩,⟨by show 0<4096;omega,hl,by show 0<=1000000;omega⟩,⟨by simp[BA],λe he=>by cases he⟩,λ_ h=>absurd rfl h⟩,AB _ _ _,λad ha=>by cases ha⟩
   show upd s.ρ w.heap.size 8200 w.heap.size≠0;rw[AB];omega
  ·rw[AA _ _ hjq]at hj;exact .inl ⟨hj,id,id,id⟩
 ·dsimp only at hj
  rw[AA _ _ (by omega)]at hj
  exact H.was j y hj h1 h2
 ·have:=(H.has_lt (H.gok.2 j hj).1).2
  dsimp only
  rw[AA _ _ (by omega)];exact (H.gok.2 j hj).2
theorem Hnd.halved (H:Hnd K s w){p q:Nat}{x y:NO}(hx:s.M p=some x)(hy:s.M q=some y)(hpq:p≠q)(hs:x.sole=true){e:Ending}(h:IH (λk=>s.ρ k≠0) x y w e w') :
  ∃A b B v ρ',x.ens=A++b::B/\VS x.ens A.length/\A≠[]/\szE A<=510/\szE (b::B)<=510/\e=.returned v/\A7 (λk=>ρ' k≠0) w' v (OP x.level A b) /\
   ∃x' y':NO,x'.blk=x.blk/\x'.page=x.page/\x'.level=x.level/\x'.ens=A/\x'.was=x.was/\x'.had=x.had/\y'.blk=y.blk/\y'.page=y.page/\y'.level=y.level/\y'.ens=hd0 x.level (b::B)/\y'.was=y.was/\y'.had=y.had/\Hnd K { s with M:=upd (upd s.M p (some x')) q (some y'),ρ:=ρ' } w':=by
 obtain⟨A,b,B,v,g,h1,h2,h3,h4,h5,harr,rfl,hv,nx,ny,hk⟩:=h;have hxn:=H.node p x hx;have hyn:=H.node q y hy;have hgr:s.ρ g=9+2*p:=by have:=hxn.row _ harr;rwa [if_pos hs]at this
 have hab:x.ab=g:=by unfold NO.ab;rw[harr]
 have hz0:∀k,(if s.ρ k=9+2*p then 7 else s.ρ k)≠0 ↔ s.ρ k≠0:=λk=>by split <;> omega
 have e:(λk=>(if s.ρ k=9+2*p then 7 else s.ρ k)≠0)=λk=>s.ρ k≠0:=by
  funext k
  exact propext (hz0 k)
 have hpe:C9 (upd (upd s.M p (some { x with ens:=A,cap:=A.length,sole:=false })) q (some { y with ens:=hd0 x.level (b::B),arr:=some ⟨g,A.length*2,none⟩,cap:=x.cap-A.length,sole:=false }))=C9 s.M:=E9 λj _ _=>by
  by_cases hj:j=q
  ·subst hj;rw[AB,hy];rfl
  ·rw[AA _ _ hj];by_cases hj2:j=p
   ·subst hj2;rw[AB,hx];rfl
   ·rw[AA _ _ hj2]
 refine⟨A,b,B,v,λk=>if s.ρ k=9+2*p then 7 else s.ρ k,h1,h2,h3,h4,h5,rfl,by dsimp only;rw[e];exact hv,{ x with ens:=A,cap:=A.length,sole:=false },{ y with ens:=hd0 x.level (b::B),arr:=some ⟨g,A.length*2,none⟩,cap:=x.cap-A.length,sole:=false },rfl,rfl,rfl,rfl,rfl,rfl,rfl,rfl,rfl,rfl,rfl,rfl,?_⟩
 refine H.step (T:=λk=>k=x.blk\/k=x.ab\/k=y.blk) (R:=λr=>r=8+2*p\/r=9+2*p\/r=8+2*q) hk (λk _ e=>?_) (by omega) (λk _=>?_) (λk hk'=>Nat.lt_of_lt_of_le (H.lt k ((hz0 k).1 hk')) hk.size) (.inl ⟨by omega,rfl,rfl,rfl⟩) (.inl ⟨by omega,rfl,rfl⟩) (.inl ⟨by omega,hpe⟩) (by omega) (.inl ⟨by omega,rfl,rfl⟩) (.inl ⟨by omega,rfl,rfl⟩) (λj z hj=>?_) (λj z hj h1 h2=>?_) ⟨H.gok.1,λj hj=>⟨(H.gok.2 j hj).1,?_⟩⟩ H.tok
 ·rcases e with rfl|rfl|rfl
  ·exact .inl hxn.blk
  ·exact .inr (.inl (by rw[hab];exact hgr))
  ·exact .inr (.inr hyn.blk)
 ·dsimp only
  split
  ·right;omega
  ·left;rfl
 ·dsimp only at hj
  by_cases hjq:j=q
  ·subst hjq;rw[AB]at hj;cases hj;refine .inr ⟨by dsimp only;rw[e];exact ny,?_,λad ha=>?_⟩
   ·dsimp only
    have:=hyn.blk
    rw[if_neg (by omega)];exact this
   ·cases ha;dsimp only
    rw[if_pos hgr];rfl
  ·rw[AA _ _ hjq]at hj;by_cases hjp:j=p
   ·subst hjp;rw[AB]at hj;cases hj;refine .inr ⟨by dsimp only;rw[e];exact nx,?_,λad ha=>?_⟩
    ·dsimp only
     have:=hxn.blk
     rw[if_neg (by omega)];exact this
    ·rw[harr]at ha;cases ha;dsimp only
     rw[if_pos hgr];rfl
   ·rw[AA _ _ hjp]at hj;by_cases hR:(j=p\/j=q)
    ·omega
    ·exact .inl ⟨hj,by omega,by omega,by omega⟩
 ·dsimp only at hj
  by_cases hjq:j=q
  ·subst hjq;rw[AB]at hj;cases hj;exact H.was j y hy h1 h2
  ·rw[AA _ _ hjq]at hj;by_cases hjp:j=p
   ·subst hjp;rw[AB]at hj;cases hj;exact H.was j x hx h1 h2
   ·rw[AA _ _ hjp]at hj;exact H.was j z hj h1 h2
 ·have h1:=(H.gok.2 j hj).2;dsimp only
  rw[AA _ _ (λe=>by rw[e,hy]at h1;cases h1),AA _ _ (λe=>by rw[e,hx]at h1;cases h1)]
  exact h1
structure C8 (s s':Hst)(ps:List Nat):Prop where
 has:∀q,s.h.has q->s'.h.has q
 back:∀q,s'.h.has q->s.h.has q\/q ∈ ps
 G:∀q,s.h.has q->s'.G q=s.G q
 M:∀q,q<4096->q ∉ ps->s'.M q=s.M q
 gn:∃d,s'.gn=s.gn++d/\∀q ∈ d,q ∈ ps
 roots:s'.h.roots=s.h.roots
theorem FY.to2 {ps:List Nat}(h:FY s s' ps):C8 s s' ps:=⟨λq hq=>by rw[h.same.1];exact hq,λq hq=>.inl (by rw[h.same.1]at hq;exact hq),λq _=>by rw[h.same.2.1],λq _ hq=>h.M q hq,h.gn,by rw[h.same.1]⟩
theorem C8.refl (s:Hst)(ps:List Nat):C8 s s ps:=(FY.refl s ps).to2
theorem C8.trans {ps:List Nat}(h:C8 s s' ps)(k:C8 s' s'' ps):C8 s s'' ps:=by
 obtain⟨d,h1,h2⟩:=h.gn;obtain⟨d',k1,k2⟩:=k.gn;refine⟨λq hq=>k.has q (h.has q hq),λq hq=>(k.back q hq).elim (h.back q) .inr,λq hq=>(k.G q (h.has q hq)).trans (h.G q hq),λq hl hq=>(k.M q hl hq).trans (h.M q hl hq),⟨d++d',by rw[k1,h1,List.append_assoc],λq hq=>?_⟩,k.roots.trans h.roots⟩
 rcases List.mem_append.1 hq with hq|hq
 ·exact h2 q hq
 ·exact k2 q hq
theorem C8.mono {ps ps':List Nat}(h:C8 s s' ps)(hp:∀q ∈ ps,q ∈ ps'):C8 s s' ps':=by
 obtain⟨d,h1,h2⟩:=h.gn;exact⟨h.has,λq hq=>(h.back q hq).imp id (hp q),h.G,λq hl hq=>h.M q hl (λh'=>hq (hp q h')),⟨d,h1,λq hq=>hp q (h2 q hq)⟩,h.roots⟩
theorem Cur.fram2 {ps:List Nat}(h:C8 s s' ps){q l:Nat}{es:List En}(hc:Cur s q l es)(hq:q ∉ ps):Cur s' q l es:=by
 obtain⟨h1,h2,h3⟩:=hc;refine⟨h1,h2,?_⟩;rw[h.M q h2 hq];cases hm:s.M q with
 | some x=>rw[hm]at h3;exact h3
 | none =>
  rw[hm]at h3;obtain⟨d,hd,hdp⟩:=h.gn;dsimp only at h3 ⊢
  obtain⟨⟨g1,g2,g3⟩,g4⟩:=h3;rw[hd];refine⟨⟨h.has q g1,(h.G q g1).trans g2,g3⟩,λhg=>?_⟩
  rcases List.mem_append.1 hg with hg|hg
  ·exact g4 hg
  ·exact hq (hdp q hg)
theorem G0 {ps:List Nat}(h:C8 s s' ps){L:Nat}{t:Tr L}(hr:Rep (Cur s) t)(hd:∀q ∈ t.pages,q ∉ ps):Rep (Cur s') t:=hr.congr λq hq _ _ hc=>hc.fram2 h (hd q hq)
theorem Hnd.cur_has (H:Hnd K s w){q l:Nat}{es:List En}(hc:Cur s q l es):s.h.has q:=by
 obtain⟨h1,h2,h3⟩:=hc;cases hm:s.M q with
 | some x=>exact (H.was q x hm h1 h2).2.1
 | none=>rw[hm]at h3;exact h3.1.1
theorem Hnd.rep_has (H:Hnd K s w){L:Nat}{t:Tr L}(hr:Rep (Cur s) t):∀q ∈ t.pages,s.h.has q:=by
 induction L with
 | zero =>
  intro q hq;have:q=t.page:=by simpa [Tr.pages,LZ] using hq
  subst this;exact H.cur_has hr.at_
 | succ L ih =>
  intro q hq;rw[AQ]at hq;rcases List.mem_cons.1 hq with rfl|hq
  ·exact H.cur_has hr.at_
  ·obtain⟨k,hk,hq⟩:=List.mem_flatMap.1 hq;exact ih (hr.kid k hk) q hq
theorem BK5:∀(a b:List UInt8),lt a b->cpl a b<b.length
 | _,[],h=>absurd h (FC _)
 | [],y::b,_=>by simp[cpl]
 | x::a,y::b,h=>by
  rw[DG]at h;unfold cpl;split
  ·rename_i hxy
   subst hxy;have:=BK5 a b (h.elim (λh=>absurd h (Nat.lt_irrefl _)) (λh=>h.2))
   simp only[List.length_cons];omega
  ·simp
end
section
variable {K:Kc} {s:Hst} {i:Nat} {n x:NO} {w:World} {L:Nat} {A:List (Kid L)} {k:List UInt8} {c:Tr L} {B:List (Kid L)} {had:Nat}
structure D9 (K:Kc)(s:Hst)(i:Nat)(n:NO){L:Nat}(A:List (Kid L))(k:List UInt8)(c:Tr L)(B:List (Kid L))(had:Nat)(x:NO)(w:World):Prop where
 H:Hnd K s w
 M:s.M i=some n
 sole:n.sole=true
 level:n.level=L+1
 ens:n.ens=(A++(k,c)::B).map kEn
 cap:n.cap=n.ens.length
 pre:AM8 A k c B had
 size:c.size<=640
 ord:∃lo hi,Ord c lo hi
 x:s.M c.page=some x/\x.level=L/\x.ens=c.ens/\x.sole=true/\x.had=had
 rep:∀y ∈ A++(k,c)::B,Rep (Cur s) y.2
 nodup:(pgK (A++(k,c)::B)).Nodup
 apart:i ∉ pgK (A++(k,c)::B)/\i<4096/\(s.h.has i\/i=0)
 sz:szU A k B<=510
structure BN7 (K:Kc)(s:Hst)(i:Nat)(n:NO){L:Nat}(A:List (Kid L))(k:List UInt8)(c:Tr L)(B:List (Kid L))(had:Nat)(s':Hst)(n':NO)(ks':List (Kid L))(born dead:List Nat)(w:World):Prop where
 H:Hnd K s' w
 M:s'.M i=some n'
 is:N3 n n' (ks'.map kEn)
 fit:BZ9 A k c B had ks' born dead
 rep:∀y ∈ ks',Rep (Cur s') y.2
 gn:s'.gn=s.gn++dead
 new:∀q ∈ born,¬s.h.has q
 has:∀q,s'.h.has q ↔ s.h.has q\/q ∈ born
 fram:C8 s s' (i::(pgK (A++(k,c)::B)++born))
def E4 (K:Kc)(s:Hst)(i:Nat)(n:NO){L:Nat}(A:List (Kid L))(k:List UInt8)(c:Tr L)(B:List (Kid L))(had:Nat)(e:Ending)(w:World):Prop :=
 e=.returned (.int .i64 0)/\∃s' n' ks' born dead,BN7 K s i n A k c B had s' n' ks' born dead w
theorem D9.page (h:D9 K s i n A k c B had x w):1<=c.page/\c.page<4096:=h.pre.mid.2
theorem D9.kid (h:D9 K s i n A k c B had x w):n.ens[A.length]? = some (kEn (k,c))/\(kEn (k,c)).child=c.page:=by
 refine⟨by rw[h.ens];simp,CV (k,c) (by have:=h.page;show c.page<65536;omega)⟩
theorem D9.ne (h:D9 K s i n A k c B had x w):i≠c.page:=λe=>h.apart.1 (e ▸ BB (k:=(k,c)) (by simp) (AS c))
theorem AB5 {c:Tr L}(h:FS c):∀e ∈ c.ens,e.size<=130:=by
 cases L with
 | zero =>
  intro e he;have:=(IV.1 h) e he
  unfold okL at this;unfold En.size;omega
 | succ L =>
  intro e he;obtain⟨ht,_⟩:=AL.1 h;rw[AZ]at he;obtain⟨y,hy,rfl⟩:=List.mem_map.1 he;have:=F5 ht.1 y hy
  unfold En.size kEn pgV;simp;omega
theorem BF5 {c:Tr 0}{lo:List UInt8}{hi:Option (List UInt8)}(h:Ord c lo hi){A:List En}{a b:En}{B:List En}(he:c.ens=A++a::b::B):cpl a.key b.key<b.key.length:=by
 have hs:=(AA9.1 h).2.1;rw[<-IA,he]at hs;exact BK5 _ _ ((Chn.two _ _ _ _).1 hs).2.1
theorem ZL {c:Tr L}(hl:FS c)(q:Nat){A':List En}{b:En}{B':List En}(he:c.ens=A'++b::B')(hA:A'≠[]) :
  ∃c1 k2 c2,XX c q c1 k2 c2/\c1.ens=A'/\c2.ens=hd0 L (b::B')/\c1.page=c.page/\c2.page=q/\k2=OP L A' b/\∀P P0:Nat->Nat->List En->Prop,P c.page L A'->P q L (hd0 L (b::B'))->Rep P0 c->(∀r ∈ c.pages,r≠c.page->∀l es,P0 r l es->P r l es)->c.pages.Nodup->Rep P c1/\Rep P c2:=by
 cases L with
 | zero =>
  obtain⟨E1,x,rfl⟩:∃E1 x,A'=E1++[x]:=by
   rcases List.eq_nil_or_concat A' with e|⟨E1,x,e⟩
   ·exact absurd e hA
   ·exact⟨E1,x,by rw[e,List.concat_eq_append]⟩
  have hb:=(IV.1 hl) b (by rw[<-IA,he];simp)
  refine⟨.leaf c.page (E1++[x]),OP 0 (E1++[x]) b,.leaf q (b::B'),⟨E1,x,B',b,he,rfl,rfl,λhlt=>?_⟩,rfl,(J2 _).symm,rfl,rfl,rfl,λP _ h1 h2 _ _ _=>⟨h1,by rw[J2]at h2;exact h2⟩⟩
  have hk:OP 0 (E1++[x]) b=IC x.key b.key:=by simp[OP]
  rw[hk];obtain⟨b1,b2,b3⟩:=AP7 _ _ hlt;refine⟨b1,b2,b3,?_⟩;unfold IC;rw[List.length_take];unfold okL at hb;omega
 | succ L =>
  rw[AZ]at he;obtain⟨K1,K0,hks,h1,h2⟩:=List.map_eq_append_iff.1 he;obtain⟨y,K2,rfl,h3,h4⟩:=List.map_eq_cons_iff.1 h2;subst h1;subst h3;subst h4
  refine⟨.node c.page K1,y.1,.node q (([],y.2)::K2),⟨K1,y.2,K2,hks,λe=>hA (by rw[e];rfl),rfl,rfl⟩,rfl,by simp[AZ,hd0,kEn],rfl,rfl,by simp[OP,kEn],λP P0 p1 p2 hr0 hcp hnd=>?_⟩
  have hk0:=hr0.kid;rw[AQ]at hnd;have hn:=(List.nodup_cons.1 hnd).1;have hkid:∀z ∈ c.ks,Rep P z.2:=λz hz=>(hk0 z hz).congr λr hr l es h=>hcp r (by rw[AQ];exact List.mem_cons_of_mem _ (BB hz hr)) (λe=>hn (e ▸ BB hz hr)) l es h
  rw[hks]at hkid;refine⟨Rep.mk p1 λz hz=>hkid z (by simp[show z ∈ K1 from hz]),Rep.mk ?_ λz hz=>?_⟩
  ·have:(Tr.node q (([],y.2)::K2)).ens=hd0 (L+1) (kEn y::K2.map kEn):=by simp[AZ,hd0,kEn]
   rw[this];exact p2
  ·rcases List.mem_cons.1 (show z ∈ ([],y.2)::K2 from hz) with rfl|hz
   ·exact hkid y (by simp)
   ·exact hkid z (by simp[hz])
end
theorem QS (g N i vb:Nat)(P Q R:List Value)(kv vv:Value)(w:World)(h:w.heap[g]? = some (.cells (P++(Q++R)).toArray 135 (0,0)))(hv:w.heap[vb]? = some (.cells #[kv,vv] 135 (0,0)))(hP:P.length=i*2)(hQ:Q.length=(N-i)*2)(hi:i<=N)(hN:1<=N)(hN5:N<=512)
  (hone:∀v ∈ Q,v.oneCell'=true) (hone2:kv.oneCell'=true/\vv.oneCell'=true) :
  Calls Tryz.prog 80 #[.slice (some ⟨g,0,none⟩) N N,.int .i64 i,.slice (some ⟨vb,0,none⟩) 1 1] w (JE N P [kv,vv] Q w):=by
 rcases Nat.lt_or_ge i N with hlt|hge
 ·exact AK4 g N i vb P Q R kv vv w h hv hP hQ hlt hN5 hone hone2
 ·obtain rfl:i=N:=by omega
  obtain rfl:Q=[]:=List.eq_nil_of_length_eq_zero (by rw[hQ];simp)
  exact AK5 g i vb P R kv vv w h hv hP hN hN5
section
variable {K:Kc} {s s4:Hst} {i:Nat} {n x:NO} {w w4:World} {L:Nat} {A:List (Kid L)} {k:List UInt8} {c:Tr L} {B:List (Kid L)} {had:Nat}
structure CC7 (K:Kc)(s s4:Hst)(i:Nat)(n:NO){L:Nat}(c:Tr L)(q:Nat)(A':List En)(b:En)(B':List En)(v:Value)(w:World):Prop where
 H:Hnd K s4 w
 Mn:s4.M i=some n
 x:∃x',s4.M c.page=some x'/\x'.level=L/\x'.ens=A'
 y:∃y',s4.M q=some y'/\y'.level=L/\y'.ens=hd0 L (b::B')
 key:A7 (λk=>s4.ρ k≠0) w v (OP L A' b)
 qok:1<=q/\q<4096/\¬s.h.has q
 has:∀j,s4.h.has j ↔ s.h.has j\/j=q
 gn:s4.gn=s.gn
 fram:C8 s s4 [c.page,q]
 ens:c.ens=A'++b::B'/\A'≠[]/\szE A'<=510/\szE (b::B')<=510
theorem BH3 (l:Nat)(es:List En):szE (hd0 l es)<=szE es:=by
 cases es with
 | nil=>exact Nat.le_refl _
 | cons e r =>
  unfold hd0;simp only
  split
  ·exact Nat.le_refl _
  ·simp only[szE,En.size,List.length_nil];omega
structure BN3 (K:Kc)(s s7:Hst)(i:Nat)(n n7:NO){L:Nat}(A:List (Kid L))(k:List UInt8)(c:Tr L)(B:List (Kid L))(q:Nat)(c1:Tr L)(k2:List UInt8)(c2:Tr L)(w:World):Prop where
 pre:CP K s7 i n7 (A++(k,c1)::(k2,c2)::B) w
 is:N3 n n7 ((A++(k,c1)::(k2,c2)::B).map kEn)
 split:XX c q c1 k2 c2/\c1.size<=510/\c2.size<=510
 qok:1<=q/\q<4096/\¬s.h.has q
 has:∀j,s7.h.has j ↔ s.h.has j\/j=q
 gn:s7.gn=s.gn
 fram:C8 s s7 (i::c.page::q::[])
 perm:(pgK (A++(k,c1)::(k2,c2)::B)).Perm (q::pgK (A++(k,c)::B))
theorem AR8 (F:D9 K s i n A k c B had x w){q:Nat}{A':List En}{b:En}{B':List En}{v:Value}(h:CC7 K s s4 i n c q A' b B' v w4)(hv:∃ka kl kc,v=.slice ka kl kc) :
  Calls Tryz.prog 118 #[v,.int .i64 q] w4.drew λe w'=>∃vb,e=.returned (.agg #[v,.slice (some ⟨vb,0,none⟩) 2 2])/\w'.cell? ⟨n.blk,2,none⟩=some (.slice n.arr n.ens.length n.cap) /\
   Calls Tryz.prog 80 #[.slice n.arr n.ens.length n.cap,.int .i64 ((A.length:Int)+1),.slice (some ⟨w'.heap.size,0,none⟩) 1 1] (w'.alloc (.cells #[v,.slice (some ⟨vb,0,none⟩) 2 2] 135)) λe w7=>∃g c',e=.returned (.slice (some ⟨g,0,none⟩) (n.ens.length+1) c')/\(∃u,w7.cell? ⟨n.blk,2,none⟩=some u)/\w7.frozen? ⟨n.blk,2,none⟩=false/\n.blk<w7.heap.size /\
    ∃s7 n7 c1 k2 c2,n7.blk=n.blk/\BN3 K s s7 i n n7 A k c B q c1 k2 c2 (w7.setCell ⟨n.blk,2,none⟩ (.slice (some ⟨g,0,none⟩) (n.ens.length+1) c')):=by
 obtain⟨ka,kl,kc,rfl⟩:=hv;obtain⟨lo,hi,hord⟩:=F.ord;obtain⟨c1,k2,c2,hsp,he1,he2,hp1,hp2,hk2,hrep⟩:=ZL F.pre.mid.1 q h.ens.1 h.ens.2.1;have hS:=ZM F.pre.mid.1 hord hsp;have hn4:=h.H.node i n h.Mn;have hN:n.ens.length=A.length+1+B.length:=by rw[F.ens,List.length_map];simp;omega
 have hsz:szE n.ens<=510:=by
  have h1:=F.sz;have h2:=PV A k c B;unfold szK at h2;rw[F.ens,h2];exact h1
 have hN5:n.ens.length<=255:=by have:=KK n.ens;omega
 have hne:n.ens≠[]:=by rw[F.ens];simp
 obtain⟨g0,harr⟩:=hn4.at_.alone F.sole hne;have hb4:Below w4.heap.size w4 w4.drew:=(Below.refl _ _).drew;refine (J3 ka kl kc q w4.drew h.qok.2.1).mono ?_;rintro e w' ⟨vb,rfl,hvb,hvr,hb5⟩;have hb45:Below w4.heap.size w4 w':=hb4.trans hb5;have H5:=h.H.below hb45;have hn5:=(H5.node i n h.Mn).at_;refine⟨vb,rfl,hn5.c2,?_⟩;obtain⟨Wa,hWa⟩:∃Wa,Wa=w'.alloc (.cells #[.slice ka kl kc,.slice (some ⟨vb,0,none⟩) 2 2] 135):=⟨_,rfl⟩;have hba:Below w'.heap.size w' Wa:=by rw[hWa];exact (Below.refl _ _).alloc (Nat.le_refl _) _
 have hnew:Wa.heap[w'.heap.size]? = some (.cells #[.slice ka kl kc,.slice (some ⟨vb,0,none⟩) 2 2] 135 (0,0)):=by rw[hWa];exact heap_alloc_new w' _
 rw[<-hWa];have hent:=hn5.ents;rw[harr]at hent;obtain⟨Lz,vs,R,hLz,hrow⟩:=hent.row hne;obtain rfl:Lz=[]:=List.eq_nil_of_length_eq_zero hLz;have hpr:=hrow.pairs;have hsplit:n.ens=(A.map kEn++[kEn (k,c)])++B.map kEn:=by rw[F.ens];simp
 rw[hsplit]at hpr;obtain⟨P,Q,rfl,hpP,hpQ⟩:=hpr.split _ _;have hPl:=hpP.len;have hQl:=hpQ.len;have hal:(A.map kEn++[kEn (k,c)]).length=A.length+1:=by simp
 rw[hal]at hPl;rw[List.length_map]at hQl;have hgl:g0<w'.heap.size:=(Array.getElem?_eq_some_iff.1 hrow.blk).1;have hga:Wa.heap[g0]? = some (.cells (P++(Q++R)).toArray 135 (0,0)):=by rw[hba.block g0 hgl,hrow.blk];simp
 have hins:=QS g0 n.ens.length (A.length+1) w'.heap.size P Q R (.slice ka kl kc) (.slice (some ⟨vb,0,none⟩) 2 2) Wa hga hnew hPl (by rw[hQl];congr 1;omega) (by omega) (by omega) (by omega) hpQ.one ⟨rfl,rfl⟩
 rw[show ((A.length+1:Nat):Int)=(A.length:Int)+1 by omega]at hins
 rw[harr,F.cap];refine hins.mono ?_;rintro e w7 ⟨g,c',R',rfl,hc1,hc2,hg,hh7,hb7⟩;have hb57:Below w'.heap.size w' w7:=AE hba hb7;have hn7l:n.blk<w7.heap.size:=Nat.lt_of_lt_of_le hn5.lt hb57.size;refine⟨g,c',rfl,⟨_,(hb57.cell (p:=⟨n.blk,2,none⟩) hn5.lt).trans hn5.c2⟩,(hb57.frozen (p:=⟨n.blk,2,none⟩) hn5.lt).trans (hn5.frozen 2),hn7l,?_⟩;obtain⟨es7,hes7⟩:∃es7,es7=(A.map kEn++[kEn (k,c)])++(⟨k2,pgV q⟩::B.map kEn):=⟨_,rfl⟩;have hkb:=FP F.pre.keys;have he7:es7=(A++(k,c1)::(k2,c2)::B).map kEn:=by rw[hes7];simp[kEn,hp1,hp2]
 have hl7:es7.length=n.ens.length+1:=by rw[hes7,hsplit];simp;omega
 have hgw:w'.heap.size<=g:=Nat.le_trans hba.size hg;have hkey5:A7 (λk=>s4.ρ k≠0) w' (.slice ka kl kc) k2:=by rw[hk2];exact h.key.below hb45
 have hval5:A7 (λk=>s4.ρ k≠0) w' (.slice (some ⟨vb,0,none⟩) 2 2) (pgV q):=by
  refine⟨some ⟨vb,0,none⟩,2,rfl,Nat.le_refl _,by unfold maxLen;omega,hvr,λad ha _ hx=>?_⟩
  cases ha;have:=h.H.lt vb hx
  have hz:w4.drew.heap.size=w4.heap.size:=rfl;omega
 have hp7:BE (λk=>s4.ρ k≠0) w' (P++([.slice ka kl kc,.slice (some ⟨vb,0,none⟩) 2 2]++Q)) es7:=by
  rw[hes7];exact hpP.app ⟨hkey5,hval5,hpQ⟩
 have hsh7:DU es7:=by
  refine⟨by rw[hl7];omega,λe he=>?_⟩
  rw[hes7]at he;simp only[List.mem_append,List.mem_cons]at he;have h255:=hn4.at_.short.2;have hkl:=hS.key;rcases he with (he|he)|rfl|he
  ·exact h255 e (by rw[hsplit];simp[he])
  ·exact h255 e (by rw[hsplit];simp only[List.mem_append];exact .inl (.inr (by simpa using he)))
  ·refine⟨by simp only;omega,by simp[pgV]⟩
  ·exact h255 e (by rw[hsplit];simp only[List.mem_append];exact .inr he)
 obtain⟨ρ7,H7⟩:=H5.newRow h.Mn hb57 hgw (R:=R') (c:=c') (by rw[hh7];simp) hp7 (by rw[hl7];exact⟨hc1,hc2⟩) hsh7
 rw[hl7]at H7;have hin:i≠c.page:=F.ne;have hiq:i≠q:=λe=>by
  have h1:=F.apart.2.2;rcases h1 with h1|h1
  ·exact h.qok.2.2 (e ▸ h1)
  ·have:=h.qok;omega
 have hqp:q≠c.page:=λe=>h.qok.2.2 (e ▸ F.H.rep_has (F.rep (k,c) (by simp)) _ (AS c))
 have hF7:C8 s { s4 with M:=upd s4.M i (some { n with ens:=es7,arr:=some ⟨g,0,none⟩,cap:=c',sole:=true }),ρ:=ρ7 } (i::c.page::q::[]):=by
  refine⟨h.fram.has,λj hj=>(h.fram.back j hj).imp id (λh=>List.mem_cons_of_mem _ h),h.fram.G,λj hl hj=>?_,?_,h.fram.roots⟩
  ·simp only[List.mem_cons,List.not_mem_nil,or_false,not_or]at hj;show upd s4.M i _ j=_;rw[AA _ _ hj.1];exact h.fram.M j hl (by simp[hj.2.1,hj.2.2])
  ·obtain⟨d,hd,hdp⟩:=h.fram.gn;exact⟨d,hd,λj hj=>List.mem_cons_of_mem _ (by simpa using hdp j hj)⟩
 have hperm:(pgK (A++(k,c1)::(k2,c2)::B)).Perm (q::pgK (A++(k,c)::B)):=by
  have h1:=hS.perm;rw[List.perm_iff_count]at h1 ⊢
  intro j;have:=h1 j
  rw[A8,AN,AN,A8,AN];simp only[List.count_append,List.count_cons]at this ⊢
  omega
 have hqn:q ∉ pgK (A++(k,c)::B):=λhm=>by
  obtain⟨y,hy,hq⟩:=List.mem_flatMap.1 hm;exact h.qok.2.2 (F.H.rep_has (F.rep y hy) q hq)
 have hnd:(pgK (A++(k,c1)::(k2,c2)::B)).Nodup:=hperm.nodup_iff.2 (List.nodup_cons.2 ⟨hqn,F.nodup⟩);have hip:i ∉ pgK (A++(k,c1)::(k2,c2)::B):=λhm=>by
  rcases List.mem_cons.1 (hperm.mem_iff.1 hm) with e|e
  ·exact hiq e
  ·exact F.apart.1 e
 have s1:c1.size<=510:=by unfold Tr.size;rw[he1];exact h.ens.2.2.1
 have s2:c2.size<=510:=by unfold Tr.size;rw[he2];exact Nat.le_trans (BH3 _ _) h.ens.2.2.2
 have hT:EX (A++(k,c1)::(k2,c2)::B):=by
  refine⟨EK (t:=c1) F.pre.keys λz hz=>?_,λz hz=>?_⟩
  ·rcases List.mem_cons.1 hz with rfl|hz
   ·exact hS.key
   ·exact hkb z hz
  ·simp only[List.mem_append,List.mem_cons]at hz;rcases hz with hz|rfl|rfl|hz
   ·exact F.pre.left z hz
   ·exact⟨hS.left,hS.ne.1,s1,by rw[hS.page.1];exact F.pre.mid.2⟩
   ·exact⟨hS.right,hS.ne.2,s2,by rw[hS.page.2];exact⟨h.qok.1,h.qok.2.1⟩⟩
   ·exact F.pre.right z hz
 obtain⟨x',hx',hxl,hxe⟩:=h.x;obtain⟨y',hy',hyl,hye⟩:=h.y;have hnA:∀z ∈ A,∀j ∈ z.2.pages,j ∉ i::c.page::q::[]:=λz hz j hj=>by
  have hm:j ∈ pgK (A++(k,c)::B):=BB (k:=z) (by simp[hz]) hj
  simp only[List.mem_cons,List.not_mem_nil,or_false,not_or];refine⟨λe=>F.apart.1 (e ▸ hm),λe=>?_,λe=>hqn (e ▸ hm)⟩
  have hnd2:=F.nodup;rw[A8,List.nodup_append]at hnd2;exact hnd2.2.2 j (BB hz hj) j (by rw[AN];exact List.mem_append.2 (.inl (e ▸ AS c))) rfl
 have hnB:∀z ∈ B,∀j ∈ z.2.pages,j ∉ i::c.page::q::[]:=λz hz j hj=>by
  have hm:j ∈ pgK (A++(k,c)::B):=BB (k:=z) (by simp[hz]) hj
  simp only[List.mem_cons,List.not_mem_nil,or_false,not_or];refine⟨λe=>F.apart.1 (e ▸ hm),λe=>?_,λe=>hqn (e ▸ hm)⟩
  have hnd2:=F.nodup;rw[A8,List.nodup_append]at hnd2;have hnd3:=hnd2.2.1;rw[AN,List.nodup_append]at hnd3;exact hnd3.2.2 c.page (AS c) j (BB hz hj) e.symm
 refine⟨_,{ n with ens:=es7,arr:=some ⟨g,0,none⟩,cap:=c',sole:=true },c1,k2,c2,rfl,⟨⟨H7,AB _ _ _,rfl,F.level,he7,hT,λz hz=>?_,hnd,hip⟩,⟨rfl,rfl,rfl,he7,rfl,rfl,rfl⟩,⟨hsp,s1,s2⟩,h.qok,h.has,h.gn,hF7,hperm⟩⟩
 have hcp:1<=c.page/\c.page<4096:=F.page;have hboth:Rep (Cur { s4 with M:=upd s4.M i (some { n with ens:=es7,arr:=some ⟨g,0,none⟩,cap:=c',sole:=true }),ρ:=ρ7 }) c1/\Rep (Cur { s4 with M:=upd s4.M i (some { n with ens:=es7,arr:=some ⟨g,0,none⟩,cap:=c',sole:=true }),ρ:=ρ7 }) c2:=by
  refine hrep _ (Cur s) ?_ ?_ (F.rep (k,c) (by simp)) (λr hr hrc l es hc=>hc.fram2 hF7 ?_) ?_
  ·exact GG hcp.1 hcp.2 (show upd s4.M i _ c.page=some x' by rw[AA _ _ (Ne.symm hin)];exact hx') hxl hxe
  ·exact GG h.qok.1 h.qok.2.1 (show upd s4.M i _ q=some y' by rw[AA _ _ (Ne.symm hiq)];exact hy') hyl hye
  ·have hm:r ∈ pgK (A++(k,c)::B):=BB (k:=(k,c)) (by simp) hr
   simp only[List.mem_cons,List.not_mem_nil,or_false,not_or];exact⟨λe=>F.apart.1 (e ▸ hm),hrc,λe=>hqn (e ▸ hm)⟩
  ·have hnd2:=F.nodup;rw[A8,List.nodup_append]at hnd2;have hnd3:=hnd2.2.1;rw[AN,List.nodup_append]at hnd3;exact hnd3.1
 simp only[List.mem_append,List.mem_cons]at hz;rcases hz with hz|rfl|rfl|hz
 ·exact G0 hF7 (F.rep z (by simp[hz])) (hnA z hz)
 ·exact hboth.1
 ·exact hboth.2
 ·exact G0 hF7 (F.rep z (by simp[hz])) (hnB z hz)
end
section
variable {K:Kc} {s:Hst} {i:Nat} {n x:NO} {w:World} {L:Nat} {A:List (Kid L)} {k:List UInt8} {c:Tr L} {B:List (Kid L)} {had:Nat}
theorem AR9 {c:Tr L}{lo:List UInt8}{hi:Option (List UInt8)}(h:Ord c lo hi):L=0->∀A a b B,c.ens=A++a::b::B->cpl a.key b.key<b.key.length:=by
 cases L with
 | zero=>exact λ_ A a b B he=>BF5 h he
 | succ L=>exact λe=>absurd e (by omega)
def KX (K:Kc)(s:Hst)(i:Nat)(n:NO){L:Nat}(A:List (Kid L))(k:List UInt8)(c:Tr L)(B:List (Kid L))(had:Nat)(w:World):Prop :=
 Calls Tryz.prog 162 #[.pointer (some ⟨K.cb,0,none⟩),n.ptr,.int .i64 ((A.length:Int)+1)] w λe w8=>e=.returned (.tuple #[]) /\
  Calls Tryz.prog 162 #[.pointer (some ⟨K.cb,0,none⟩),n.ptr,.int .i64 ((A.length:Int)-1)] w8 λe w9=>e=.returned (.tuple #[])/\E4 K s i n A k c B had (.returned (.int .i64 0)) w9
theorem AH5 (F:D9 K s i n A k c B had x w)(hbig:510<c.size){s7:Hst}{n7:NO}{q:Nat}{c1 c2:Tr L}{k2:List UInt8}{w7:World}(hb:n7.blk=n.blk)(h:BN3 K s s7 i n n7 A k c B q c1 k2 c2 w7):KX K s i n A k c B had w7:=by
 have hA9:A.length<=800:=by
  have h1:=(F.H.node i n F.M).at_.short.1;rw[F.ens,List.length_map]at h1;simp at h1;omega
 have hp:n.ptr=n7.ptr:=by unfold NO.ptr;rw[hb]
 unfold KX;rw[hp];have hj:=NW L K s7 i n7 _ w7 h.pre (A.length+1) (by omega)
 rw[show ((A.length+1:Nat):Int)=(A.length:Int)+1 by omega]at hj
 refine hj.mono ?_;intro e w8 h8;obtain⟨rfl,s8,ks1,d1,n8,hJ1,hP8,hN8,hg8,hF8,hpm8⟩:=h8.next h.pre;refine⟨rfl,?_⟩;have hp8:n7.ptr=n8.ptr:=by unfold NO.ptr;rw[hN8.1]
 rw[hp8];refine (BG3 hP8 A.length (by omega)).mono ?_
 rintro e w9 ⟨rfl,s9,ks2,d2,n9,hJ2,hP9,hN9,hg9,hF9,hpm9⟩;refine⟨rfl,rfl,s9,n9,ks2,[q],d1++d2,⟨hP9.H,hP9.M,?_,.inr (.inl ⟨hbig,q,c1,k2,c2,ks1,d1,d2,h.split.1,h.split.2.1,h.split.2.2,h.qok.1,h.qok.2.1,hJ1,hJ2,rfl,rfl⟩),hP9.rep,?_,?_,?_,?_⟩⟩
 ·exact⟨hN9.1.trans (hN8.1.trans h.is.1),hN9.2.1.trans (hN8.2.1.trans h.is.2.1),hN9.2.2.1.trans (hN8.2.2.1.trans h.is.2.2.1),hP9.ens,hP9.sole,hN9.2.2.2.2.2.1.trans (hN8.2.2.2.2.2.1.trans h.is.2.2.2.2.2.1),hN9.2.2.2.2.2.2.trans (hN8.2.2.2.2.2.2.trans h.is.2.2.2.2.2.2)⟩
 ·rw[hg9,hg8,h.gn,List.append_assoc]
 ·intro j hj;rw[List.mem_singleton]at hj;subst hj;exact h.qok.2.2
 ·intro j;rw[hF9.same.1,hF8.same.1,h.has j,List.mem_singleton]
 ·have hsub:∀j ∈ pgK (A++(k,c1)::(k2,c2)::B),j ∈ i::(pgK (A++(k,c)::B)++[q]):=λj hj=>by
   rcases List.mem_cons.1 (h.perm.mem_iff.1 hj) with e|e
   ·simp[e]
   ·exact List.mem_cons_of_mem _ (List.mem_append.2 (.inl e))
  have hpg:∀j ∈ pgK ks1,j ∈ i::(pgK (A++(k,c)::B)++[q]):=λj hj=>hsub j (hpm8.mem_iff.1 (List.mem_append.2 (.inl hj)))
  refine (h.fram.mono λj hj=>?_).trans ((hF8.to2.mono λj hj=>?_).trans (hF9.to2.mono λj hj=>?_))
  ·simp only[List.mem_cons,List.not_mem_nil,or_false]at hj;rcases hj with rfl|rfl|rfl
   ·simp
   ·exact List.mem_cons_of_mem _ (List.mem_append.2 (.inl (BB (k:=(k,c)) (by simp) (AS c))))
   ·simp
  ·rcases List.mem_cons.1 hj with rfl|hj
   ·simp
   ·exact hsub j hj
  ·rcases List.mem_cons.1 hj with rfl|hj
   ·simp
   ·exact hpg j hj
def AG1 (K:Kc)(s:Hst)(i:Nat)(n:NO){L:Nat}(A:List (Kid L))(k:List UInt8)(c:Tr L)(B:List (Kid L))(had:Nat)(q:Nat)(v:Value)(w4:World):Prop :=
 Calls Tryz.prog 118 #[v,.int .i64 q] w4.drew λe w'=>∃vb,e=.returned (.agg #[v,.slice (some ⟨vb,0,none⟩) 2 2])/\w'.cell? ⟨n.blk,2,none⟩=some (.slice n.arr n.ens.length n.cap) /\
   Calls Tryz.prog 80 #[.slice n.arr n.ens.length n.cap,.int .i64 ((A.length:Int)+1),.slice (some ⟨w'.heap.size,0,none⟩) 1 1] (w'.alloc (.cells #[v,.slice (some ⟨vb,0,none⟩) 2 2] 135)) λe w7=>∃g c',e=.returned (.slice (some ⟨g,0,none⟩) (n.ens.length+1) c')/\(∃u,w7.cell? ⟨n.blk,2,none⟩=some u)/\w7.frozen? ⟨n.blk,2,none⟩=false/\n.blk<w7.heap.size /\
    Hid (KX K s i n A k c B had (w7.setCell ⟨n.blk,2,none⟩ (.slice (some ⟨g,0,none⟩) (n.ens.length+1) c')))
theorem ZN (F:D9 K s i n A k c B had x w)(hbig:510<c.size){U:List Nat}{m:Nat}(hr:CU s.h U (m+1)) :
  Calls Tryz.prog 159 #[.pointer (some ⟨K.cb,0,none⟩),n.ptr,.int .i64 A.length] w λe w1=>e=.returned x.ptr/\w1.cell? ⟨x.blk,1,none⟩=some (.int .i64 L) /\
   Calls Tryz.prog 119 #[.pointer (some ⟨K.cb,0,none⟩),.pointer (some ⟨w1.heap.size,0,none⟩)] (w1.alloc (.cells #[.int .i64 0,.int .i64 L,.slice none 0 0,.string ⟨#[]⟩,.int .i64 0] 138)) λe w3=>e=.returned (.int .i64 0) /\
    Calls Tryz.prog 186 #[x.ptr,.pointer (some ⟨w1.heap.size,0,none⟩)] w3 λe w4=>∃ka kl kc q,e=.returned (.slice ka kl kc)/\w4.cell? ⟨n.blk,2,none⟩=some (.slice n.arr n.ens.length n.cap)/\w4.cell? ⟨w1.heap.size,0,none⟩=some (.int .i64 (q:Nat)) /\
     AG1 K s i n A k c B had q (.slice ka kl kc) w4:=by
 obtain⟨hk,hkc⟩:=F.kid;obtain⟨hp1,hp2⟩:=F.page;obtain⟨hxM,hxl,hxe,hxs,hxh⟩:=F.x;refine (QX F.H F.M hk rfl F.level (by rw[hkc];exact⟨hp1,hp2⟩) (by rw[hkc];exact hxM) hxl).mono ?_
 rintro e w1 ⟨rfl,H1⟩;have c1:=(H1.node _ x hxM).at_.c1;rw[hxl]at c1;refine⟨rfl,c1,?_⟩;have hL:=(H1.node _ x hxM).at_.small.2.1;rw[hxl]at hL;obtain⟨ρ2,H2⟩:=H1.temp L hL;obtain⟨yb,hyb⟩:∃b,b=w1.heap.size:=⟨_,rfl⟩;rw[<-hyb]at H2 ⊢
 have hM4:upd s.M 4096 (some (BA yb L)) 4096=some (BA yb L):=AB _ _ _;have hHO:=XI (i:=4096) (n:=BA yb L) H2 hM4 (.inr (Nat.le_refl 4096)) rfl (U:=U) (k:=m) hr;have hpt:(BA yb L).ptr=.pointer (some ⟨yb,0,none⟩):=rfl;rw[hpt]at hHO;refine hHO.mono ?_;rintro e w3 ⟨rfl,q,h',S',ρ',av',hnx,H3⟩;refine⟨rfl,?_⟩;obtain⟨hok',q1,q2,hnq,hhas,hroots⟩:=hnx.spec H2.act.ok;dsimp only at hnq hhas hroots H3
 have hcn:s.h.has c.page:=(F.H.was _ x hxM hp1 hp2).2.1;have hpq:c.page≠q:=λe=>hnq (e ▸ hcn)
 have hip:=F.ne;have hiq:i≠q:=λe=>by
  rcases F.apart.2.2 with h1|h1
  ·exact hnq (e ▸ h1)
  ·omega
 have hi4:=F.apart.2.1;have hM3:∀j,j<4096->j≠q->(upd (upd (upd s.M 4096 (some (BA yb L))) 4096 none) q (some { BA yb L with page:=q })) j=s.M j:=λj h1 h2=>by
  rw[AA _ _ h2,AA _ _ (by omega),AA _ _ (by omega)]
 have hxM3:=(hM3 c.page hp2 hpq).trans hxM;have hyM3:(upd (upd (upd s.M 4096 (some (BA yb L))) 4096 none) q (some { BA yb L with page:=q })) q=some { BA yb L with page:=q }:=AB _ _ _;have hxn:=(H3.node _ x hxM3).at_;have hyn:=(H3.node _ _ hyM3).at_;have hne:x.blk≠yb:=λe=>by
  have h1:=(H3.node _ x hxM3).blk;have h2:ρ' yb=8+2*q:=(H3.node _ _ hyM3).blk;rw[e]at h1;dsimp only at h1
  omega
 obtain⟨lo,hi,hord⟩:=F.ord;have hlt:x.level=0->∀A a b B,x.ens=A++a::b::B->cpl a.key b.key<b.key.length:=by rw[hxl,hxe];exact AR9 hord
 have hsx:szE x.ens=c.size:=by rw[hxe];rfl
 refine (BH7 _ x _ w3 hxn hyn hxs (by show L=x.level;exact hxl.symm) hne rfl H3.lt (by rw[hxe];exact AB5 F.pre.mid.1) (by rw[hsx];exact hbig) (by rw[hsx];exact F.size) hlt).mono ?_
 intro e w4 h4;obtain⟨A',b,B',v,ρ4,e1,_,e3,e4,e5,rfl,hv,x',y',xb1,_,xl1,xe1,_,_,yb1,yp1,yl1,ye1,_,_,H4⟩:=H3.halved hxM3 hyM3 hpq hxs h4;have hMn:(upd (upd (upd (upd (upd s.M 4096 (some (BA yb L))) 4096 none) q (some { BA yb L with page:=q })) c.page (some x')) q (some y')) i=some n:=by
  rw[AA _ _ hiq,AA _ _ hip];exact (hM3 i hi4 hiq).trans F.M
 have hyM4:(upd (upd (upd (upd (upd s.M 4096 (some (BA yb L))) 4096 none) q (some { BA yb L with page:=q })) c.page (some x')) q (some y')) q=some y':=AB _ _ _;obtain⟨ka,kc,rfl,_⟩:=id hv;have y0:=(H4.node _ _ hyM4).at_.c0;rw[yb1,yp1]at y0;have hHv:∃s4,CC7 K s s4 i n c q A' b B' (.slice ka (OP x.level A' b).length kc) w4:=by
  refine⟨_,H4,hMn,⟨x',?_,xl1.trans hxl,xe1⟩,⟨y',hyM4,yl1,by rw[ye1,hxl]⟩,?_,⟨q1,q2,hnq⟩,hhas,rfl,⟨λj hj=>(hhas j).2 (.inl hj),λj hj=>((hhas j).1 hj).imp id λe=>by simp[e],λj hj=>?_,λj h1 h2=>?_,⟨[],(List.append_nil _).symm,λj hj=>by cases hj⟩,hroots⟩,⟨by rw[<-hxe];exact e1,e3,e4,e5⟩⟩
  ·show upd (upd _ c.page (some x')) q (some y') c.page=some x';rw[AA _ _ hpq,AB]
  ·rw[hxl]at hv;rw[hxl];exact hv
  ·show upd s.G q A9 j=s.G j;exact AA _ _ (λe:j=q=>hnq (e ▸ hj))
  ·simp only[List.mem_cons,List.not_mem_nil,or_false,not_or]at h2;show upd (upd _ c.page (some x')) q (some y') j=s.M j;rw[AA _ _ h2.2,AA _ _ h2.1];exact hM3 j h1 h2.2
 obtain⟨s4,hHv⟩:=hHv;refine⟨ka,_,kc,q,rfl,(H4.node _ _ hMn).at_.c2,y0,?_⟩;refine (AR8 F hHv ⟨_,_,_,rfl⟩).mono ?_;rintro e w' ⟨vb,rfl,hn2,hins⟩;refine⟨vb,rfl,hn2,hins.mono ?_⟩;rintro e w7 ⟨g,c',rfl,hu,hf,hl,s7,n7,c1',k2,c2',hb7,hP⟩;exact⟨g,c',rfl,hu,hf,hl,yH (AH5 F hbig hb7 hP)⟩
end
section
variable {K:Kc} {s:Hst} {i:Nat} {n x:NO} {w:World} {L:Nat} {A:List (Kid L)} {k:List UInt8} {c:Tr L} {B:List (Kid L)} {had:Nat}
theorem BP5 (F:D9 K s i n A k c B had x w)(hbig:510<c.size){U:List Nat}{m:Nat}(hr:CU s.h U (m+1)) :
  Calls Tryz.prog 161 #[.pointer (some ⟨K.cb,0,none⟩),n.ptr,.int .i64 A.length] w (E4 K s i n A k c B had):=by
 have HC:=yH (ZN F hbig hr);have hA9:A.length<=800:=by
  have h1:=(F.H.node i n F.M).at_.short.1;rw[F.ens,List.length_map]at h1;simp at h1;omega
 have hN9:n.ens.length<=512:=(F.H.node i n F.M).at_.short.1;unfold AG1 KX at HC;unfold NO.ptr at HC ⊢
 obtain⟨nb,hnb⟩:∃b,b=n.blk:=⟨_,rfl⟩;obtain⟨xb,hxb⟩:∃b,b=x.blk:=⟨_,rfl⟩;obtain⟨na,hna⟩:∃b,b=n.arr:=⟨_,rfl⟩;obtain⟨N,hN⟩:∃b,b=n.ens.length:=⟨_,rfl⟩;obtain⟨nc,hnc⟩:∃b,b=n.cap:=⟨_,rfl⟩;rw[<-hnb,<-hxb,<-hna,<-hN,<-hnc]at HC;rw[<-hnb];rw[<-hN]at hN9;obtain⟨al,hal⟩:∃l,l=A.length:=⟨_,rfl⟩;rw[<-hal]at HC hA9 ⊢
 clear hnb hxb hna hN hnc hal hr hbig F;go_enter Tryz.func161,Tryz.ntmps161;go_wp2_with fail;refine HC.out.mono ?_;rintro e w1 ⟨rfl,x1,h1⟩;have H1:=yH h1;clear h1;go_wp2_with fail;refine H1.out.mono ?_;rintro e w3 ⟨rfl,h3⟩;have H3:=yH h3;clear h3;go_wp2_with fail;refine H3.out.mono ?_;rintro e w4 ⟨ka,kl,kc,q,rfl,n2,y0,h4⟩;have H4:=yH h4;clear h4 x1 H1 H3 HC;obtain⟨yb,hyb⟩:∃b,b=w1.heap.size:=⟨_,rfl⟩;rw[<-hyb]at y0 ⊢
 clear hyb;go_wp2;have hw:IntKind.i64.wrap ((al:Int)+1)=(al:Int)+1:=IntWalk.i64_in _ (by omega)
 go_region_with (first
  | (go_at_call 118;refine H4.out.mono ?_;rintro e w5 ⟨vb,rfl,n5,h5⟩;have n5':(w5.alloc (.cells #[.slice ka kl kc,.slice (some ⟨vb,0,none⟩) 2 2] 135)).cell? ⟨nb,2,none⟩=some (.slice na N nc):=(World.cell?_alloc_some w5 _ _ (by rw[n5];rfl)).trans n5;have H5:=yH h5;clear h5)
  | (go_at_call 80;refine H5.out.mono ?_;rintro e w7 ⟨g,c7,rfl,⟨u7,n7⟩,f7,l7,H7⟩))
 all_goals (
  clear n2 y0 H4;go_wp2_with fail;refine H7.out.mono ?_;rintro e w8 ⟨rfl,h8⟩;have H8:=yH h8;clear h8 H7;go_wp2_with fail;refine H8.out.mono ?_;rintro e w9 ⟨rfl,hP⟩;have HP:=yH hP;clear hP H8;go_wp2;go_ret;exact HP.out)
end
section
variable {K:Kc} {s:Hst} {i:Nat} {n x:NO} {w w1:World} {L:Nat} {A:List (Kid L)} {k:List UInt8} {c:Tr L} {B:List (Kid L)} {had:Nat}
theorem BH4 (ks:List (Kid L)):hd0 (L+1) (ks.map kEn)=(LW ks).map kEn:=by
 cases ks with
 | nil=>rfl
 | cons a r=>simp[hd0,LW,kEn]
theorem BC7 {ks:List (Kid L)}{y:Kid L}(h:y ∈ LW ks):∃z ∈ ks,z.2=y.2:=by
 cases ks with
 | nil=>cases h
 | cons a r =>
  rcases List.mem_cons.1 h with rfl|h
  ·exact⟨a,by simp,rfl⟩
  ·exact⟨y,by simp[h],rfl⟩
theorem D9.at9 (F:D9 K s i n A k c B had x w):A.length<=800/\n.ens.length<=512:=by
 have h1:=(F.H.node i n F.M).at_.short.1;refine⟨?_,h1⟩;rw[F.ens,List.length_map]at h1;simp at h1;omega
theorem D9.off (F:D9 K s i n A k c B had x w):(∀z ∈ A,∀j ∈ z.2.pages,j≠i/\j≠c.page)/\(∀z ∈ B,∀j ∈ z.2.pages,j≠i/\j≠c.page):=by
 have hnd:=F.nodup;rw[A8,List.nodup_append]at hnd;have hnd3:=hnd.2.1;rw[AN,List.nodup_append]at hnd3;refine⟨λz hz j hj=>⟨λe=>F.apart.1 (e ▸ BB (k:=z) (by simp[hz]) hj),λe=>?_⟩,λz hz j hj=>⟨λe=>F.apart.1 (e ▸ BB (k:=z) (by simp[hz]) hj),λe=>?_⟩⟩
 ·exact hnd.2.2 j (BB hz hj) j (by rw[AN];exact List.mem_append.2 (.inl (e ▸ AS c))) rfl
 ·exact hnd3.2.2 c.page (AS c) j (BB hz hj) e.symm
theorem BI8 (F:D9 K s i n A k c B had x w)(he:c.ens=[])(H1:Hnd K s w1) :
  Calls Tryz.prog 85 #[n.ptr,.int .i64 A.length] w1 λe w2=>e=.returned (.tuple #[])/\Calls Tryz.prog 160 #[.pointer (some ⟨K.cb,0,none⟩),x.ptr] w2 λe w3=>e=.returned (.tuple #[])/\E4 K s i n A k c B had (.returned (.int .i64 0)) w3:=by
 obtain⟨hp1,hp2⟩:=F.page;obtain⟨hxM,hxl,hxe,hxs,hxh⟩:=F.x;have hn1:=(H1.node i n F.M).at_;have hens:n.ens=A.map kEn++kEn (k,c)::B.map kEn:=by rw[F.ens];simp
 have hrm:=NR _ n (A.map kEn) (B.map kEn) (kEn (k,c)) _ hn1 F.sole hens;rw[List.length_map]at hrm;refine hrm.mono ?_;rintro e w2 hr;have H2:=H1.removed F.M F.sole hr;refine⟨hr.1,?_⟩;have hip:=F.ne;have hMx:upd s.M i (some { n with ens:=hd0 n.level (A.map kEn++B.map kEn) }) c.page=some x:=by rw[AA _ _ (Ne.symm hip)];exact hxM
 refine (AO9 H2 hMx ⟨hp1,hp2⟩).mono ?_;rintro e w3 ⟨rfl,gv,ρ3,H3⟩;have hhd:hd0 n.level (A.map kEn++B.map kEn)=(LW (A++B)).map kEn:=by rw[F.level,<-List.map_append];exact BH4 _
 have hF:∀ps:List Nat,i ∈ ps->c.page ∈ ps->C8 s { s with M:=upd (upd s.M i (some { n with ens:=hd0 n.level (A.map kEn++B.map kEn) })) c.page none,gn:=s.gn++[c.page],gv:=gv,ρ:=ρ3 } ps:=λps hi hc =>
  ⟨λj h=>h,λj h=>.inl h,λj _=>rfl,λj _ hj=>by
   show upd (upd s.M i _) c.page none j=s.M j;rw[AA _ _ (λe=>hj (by rw[e];exact hc)),AA _ _ (λe=>hj (by rw[e];exact hi))],⟨[c.page],rfl,λj hj=>by rw[List.mem_singleton]at hj;rw[hj];exact hc⟩,rfl⟩
 have hmem:c.page ∈ pgK (A++(k,c)::B):=BB (k:=(k,c)) (by simp) (AS c)
 refine⟨rfl,rfl,_,{ n with ens:=hd0 n.level (A.map kEn++B.map kEn) },LW (A++B),[],[c.page],⟨H3,?_,⟨rfl,rfl,rfl,hhd,F.sole,rfl,rfl⟩,.inl ⟨he,rfl,rfl,rfl⟩,λy hy=>?_,rfl,(λj hj=>by cases hj),λj=>⟨λh=>.inl h,λh=>h.elim id (λh=>by cases h)⟩,hF _ (by simp) (by simp[hmem])⟩⟩
 ·show upd (upd s.M i _) c.page none i=_;rw[AA _ _ hip,AB]
 ·obtain⟨z,hz,hzy⟩:=BC7 hy;rw[<-hzy];refine G0 (hF [i,c.page] (by simp) (by simp)) (F.rep z (by rcases List.mem_append.1 hz with h | h <;> simp[h])) λj hj=>?_
  simp only[List.mem_cons,List.not_mem_nil,or_false,not_or];rcases List.mem_append.1 hz with h|h
  ·exact F.off.1 z h j hj
  ·exact F.off.2 z h j hj
theorem BI9 (F:D9 K s i n A k c B had x w)(he:c.ens≠[])(h5:c.size<=510)(hlt:c.size<had)(H1:Hnd K s w1) :
  Calls Tryz.prog 162 #[.pointer (some ⟨K.cb,0,none⟩),n.ptr,.int .i64 A.length] w1 λe w8=>e=.returned (.tuple #[]) /\
   Calls Tryz.prog 162 #[.pointer (some ⟨K.cb,0,none⟩),n.ptr,.int .i64 ((A.length:Int)-1)] w8 λe w9=>e=.returned (.tuple #[])/\E4 K s i n A k c B had (.returned (.int .i64 0)) w9:=by
 have hA9:=F.at9.1;have hT:EX (A++(k,c)::B):=⟨F.pre.keys,λz hz=>by
  simp only[List.mem_append,List.mem_cons]at hz;rcases hz with hz|rfl|hz
  ·exact F.pre.left z hz
  ·exact⟨F.pre.mid.1,he,h5,F.pre.mid.2⟩
  ·exact F.pre.right z hz⟩
 have hpre:CP K s i n (A++(k,c)::B) w1:=⟨H1,F.M,F.sole,F.level,F.ens,hT,F.rep,F.nodup,F.apart.1⟩;refine (NW L K s i n _ w1 hpre A.length (by omega)).mono ?_
 intro e w8 h8;obtain⟨rfl,s8,ks1,d1,n8,hJ1,hP8,hN8,hg8,hF8,hpm8⟩:=h8.next hpre;refine⟨rfl,?_⟩;have hp8:n.ptr=n8.ptr:=by unfold NO.ptr;rw[hN8.1]
 rw[hp8];refine (BG3 hP8 A.length (by omega)).mono ?_
 rintro e w9 ⟨rfl,s9,ks2,d2,n9,hJ2,hP9,hN9,hg9,hF9,hpm9⟩;refine⟨rfl,rfl,s9,n9,ks2,[],d1++d2,⟨hP9.H,hP9.M,?_,.inr (.inr (.inl ⟨he,h5,hlt,ks1,d1,d2,hJ1,hJ2,rfl,rfl⟩)),hP9.rep,?_,(λj hj=>by cases hj),λj=>?_,?_⟩⟩
 ·exact⟨hN9.1.trans hN8.1,hN9.2.1.trans hN8.2.1,hN9.2.2.1.trans hN8.2.2.1,hP9.ens,hP9.sole,hN9.2.2.2.2.2.1.trans hN8.2.2.2.2.2.1,hN9.2.2.2.2.2.2.trans hN8.2.2.2.2.2.2⟩
 ·rw[hg9,hg8,List.append_assoc]
 ·rw[hF9.same.1,hF8.same.1];exact⟨λh=>.inl h,λh=>h.elim id (λh=>by cases h)⟩
 ·refine (hF8.to2.mono λj hj=>?_).trans (hF9.to2.mono λj hj=>?_)
  ·rw[List.append_nil];exact hj
  ·rw[List.append_nil];rcases List.mem_cons.1 hj with rfl|hj
   ·simp
   ·exact List.mem_cons_of_mem _ (hpm8.mem_iff.1 (List.mem_append.2 (.inl hj)))
theorem AW5 (F:D9 K s i n A k c B had x w)(he:c.ens≠[])(h5:c.size<=510)(hge:had<=c.size)(H1:Hnd K s w1):E4 K s i n A k c B had (.returned (.int .i64 0)) w1 :=
 ⟨rfl,s,n,_,[],[],⟨H1,F.M,⟨rfl,rfl,rfl,F.ens,F.sole,rfl,rfl⟩,.inr (.inr (.inr ⟨he,h5,hge,rfl,rfl,rfl⟩)),F.rep,(List.append_nil _).symm,(λj hj=>by cases hj),λj=>⟨λh=>.inl h,λh=>h.elim id (λh=>by cases h)⟩,C8.refl s _⟩⟩
theorem D9.below (F:D9 K s i n A k c B had x w)(H1:Hnd K s w1):D9 K s i n A k c B had x w1:={ F with H:=H1 }
theorem CC2 (F:D9 K s i n A k c B had x w){U:List Nat}{m:Nat}(hr:CU s.h U (m+1)) :
  Calls Tryz.prog 122 #[.pointer (some ⟨K.cb,0,none⟩),n.ptr,.int .i64 A.length] w (E4 K s i n A k c B had):=by
 obtain⟨hk,hkc⟩:=F.kid;obtain⟨hp1,hp2⟩:=F.page;obtain⟨hxM,hxl,hxe,hxs,hxh⟩:=F.x;have hA9:=F.at9.1;have HC:=yH (QX F.H F.M hk rfl F.level (by rw[hkc];exact⟨hp1,hp2⟩) (by rw[hkc];exact hxM) hxl)
 have HS:Hid (∀w1,Hnd K s w1->Calls Tryz.prog 154 #[x.ptr] w1 λe w2=>e=.returned (.int .i64 c.size)/\w2.cell? ⟨x.blk,4,none⟩=some (.int .i64 had)/\Hid (Hnd K s w2)):=yH λw1 H1=>by
  have hxn:=(H1.node _ x hxM).at_;refine (P3 _ x w1 hxn).mono ?_;rintro e w2 ⟨rfl,hb⟩;have H2:=H1.below hb;have c4:=(H2.node _ x hxM).at_.c4;rw[hxh]at c4;exact⟨by rw[hxe];rfl,c4,yH H2⟩
 have HF:=yH F;have hz:c.ens=[] ↔ c.size=0:=by
  unfold Tr.size;constructor
  ·intro e;rw[e];rfl
  ·intro e;have:=KK c.ens
   exact List.eq_nil_of_length_eq_zero (by omega)
 have hz6:=F.size;have HR:=yH hr;have HZ:=yH hz;obtain⟨sz,hsz⟩:∃z,z=c.size:=⟨_,rfl⟩;have HSZ:=yH hsz;rw[<-hsz]at HS hz6;have hnp:n.ptr=.pointer (some ⟨n.blk,0,none⟩):=rfl;have hxp:x.ptr=.pointer (some ⟨x.blk,0,none⟩):=rfl;have HN:Hid (∀w1,Hnd K s w1->sz=0->Calls Tryz.prog 85 #[n.ptr,.int .i64 A.length] w1 λe w2=>e=.returned (.tuple #[])/\Calls Tryz.prog 160 #[.pointer (some ⟨K.cb,0,none⟩),x.ptr] w2 λe w3=>e=.returned (.tuple #[])/\E4 K s i n A k c B had (.returned (.int .i64 0)) w3):=yH λw1 H1 h0=>BI8 F (hz.2 (by rw[<-hsz];exact h0)) H1
 have HJ:Hid (∀w1,Hnd K s w1->sz≠0->sz<=510->sz<had->Calls Tryz.prog 162 #[.pointer (some ⟨K.cb,0,none⟩),n.ptr,.int .i64 A.length] w1 λe w8=>e=.returned (.tuple #[]) /\
   Calls Tryz.prog 162 #[.pointer (some ⟨K.cb,0,none⟩),n.ptr,.int .i64 ((A.length:Int)-1)] w8 λe w9=>e=.returned (.tuple #[])/\E4 K s i n A k c B had (.returned (.int .i64 0)) w9):=yH λw1 H1 h0 h5 hlt=>BI9 F (λe=>h0 (by rw[hsz];exact hz.1 e)) (by omega) (by omega) H1
 have HSP:Hid (∀w1,Hnd K s w1->510<sz->Calls Tryz.prog 161 #[.pointer (some ⟨K.cb,0,none⟩),n.ptr,.int .i64 A.length] w1 λe w3=>e=.returned (.int .i64 0)/\E4 K s i n A k c B had (.returned (.int .i64 0)) w3):=yH λw1 H1 h5=>(BP5 (F.below H1) (by omega) hr).mono λe w3 h=>by
  obtain⟨rfl,h⟩:=h;exact⟨rfl,rfl,h⟩
 have HST:Hid (∀w1,Hnd K s w1->sz≠0->sz<=510->had<=sz->E4 K s i n A k c B had (.returned (.int .i64 0)) w1):=yH λw1 H1 h0 h5 hge=>AW5 F (λe=>h0 (by rw[hsz];exact hz.1 e)) (by omega) (by omega) H1
 rw[hnp]at HC HN HJ HSP;rw[hxp]at HC HS HN;rw[hnp];obtain⟨nb,hnb⟩:∃b,b=n.blk:=⟨_,rfl⟩;obtain⟨xb,hxb⟩:∃b,b=x.blk:=⟨_,rfl⟩;rw[<-hnb]at HC HN HJ HSP ⊢
 rw[<-hxb]at HC HS HN;obtain⟨POST,hPOST⟩:∃P,P=E4 K s i n A k c B had:=⟨_,rfl⟩;rw[<-hPOST]at HN HJ HSP HST ⊢
 obtain⟨al,hal⟩:∃l,l=A.length:=⟨_,rfl⟩;rw[<-hal]at HC HN HJ HSP hA9 ⊢
 clear hPOST hnb hxb hal hz hr F hk hkc hp1 hp2 hxM hxl hxe hxs hxh hsz hnp hxp HF HR HZ HSZ;go_enter Tryz.func122,Tryz.ntmps122;go_wp2_with fail;refine HC.out.mono ?_;rintro e w1 ⟨rfl,h1⟩;have H1:=yH h1;clear h1;go_wp2_with fail;refine (HS.out w1 H1.out).mono ?_;rintro e w2 ⟨rfl,x4,H2⟩;clear HC HS H1;by_cases h0:sz=0
 ·have HN2:=yH (HN.out w2 H2.out h0);subst h0;clear HN HJ HSP HST;go_wp2_with fail;refine HN2.out.mono ?_;rintro e w3 ⟨rfl,h3⟩;have H3:=yH h3;clear h3;go_wp2_with fail;refine H3.out.mono ?_;rintro e w4 ⟨rfl,h4⟩;have H4:=yH h4;clear h4;go_wp2;exact H4.out
 ·have hb0:((sz:Int) == 0)=false:=by simp;omega
  by_cases h5:510<sz
  ·have HN2:=yH (HSP.out w2 H2.out h5);have h5':(510:Int)<(sz:Int):=by omega
   clear HN HJ HSP HST;go_wp2_with fail;refine HN2.out.mono ?_;rintro e w3 ⟨rfl,h3⟩;have H3:=yH h3;clear h3;go_wp2;exact H3.out
  ·have h5':¬(510:Int)<(sz:Int):=by omega
   by_cases hlt:sz<had
   ·have HN2:=yH (HJ.out w2 H2.out h0 (by omega) hlt)
    clear HN HJ HSP HST;go_wp2_with fail;refine HN2.out.mono ?_;rintro e w3 ⟨rfl,h3⟩;have H3:=yH h3;clear h3;go_wp2_with fail;refine H3.out.mono ?_;rintro e w4 ⟨rfl,h4⟩;have H4:=yH h4;clear h4;go_wp2;exact H4.out
   ·have HN2:=yH (HST.out w2 H2.out h0 (by omega) (by omega))
    clear HN HJ HSP HST;go_wp2;exact HN2.out
end
def BV6 (P:Nat->Nat->List En->Prop):{l:Nat}->Tr l->Prop
 | 0,_=>True
 | _+1,t=>∀y ∈ t.ks,Rep P y.2
theorem BC5 {P:Nat->Nat->List En->Prop}{l:Nat}{t:Tr l}(h:P t.page l t.ens)(hk:BV6 P t):Rep P t:=by
 cases l with
 | zero=>exact h
 | succ l=>exact Rep.mk h hk
section
variable {K:Kc} {s0 s s':Hst} {w w':World} {F:List En} {P born dead:List Nat}
structure Ist (K:Kc)(s0 s:Hst){l:Nat}(z:Zip l)(c:Tr l)(had:Nat)(F:List En)(P born dead:List Nat)(pre:List (NO × Nat))(xc:NO)(w:World):Prop where
 H:Hnd K s w
 mid:Mid z c had F P born dead
 on:z.On c.page pre.reverse
 reps:z.Reps (Cur s)
 kids:BV6 (Cur s) c
 nodes:∀st ∈ pre,s.M st.1.page=some st.1/\st.1.page<4096
 x:s.M c.page=some xc/\xc.level=l/\xc.ens=c.ens/\xc.sole=true/\(z.In->xc.had=had)
 gn:s.gn=dead
 has:∀q,s.h.has q ↔ s0.h.has q\/q ∈ born
 new:(P++born).Nodup/\(∀q ∈ P,q=0\/s0.h.has q)/\(∀q ∈ born,1<=q/\¬s0.h.has q)
 fram:C8 s0 s (P++born)
 room:∃U,CU s.h U (pre.length+1)
theorem QH:∀{l:Nat} {z:Zip l} {q:Nat} {sts:List (NO × Nat)},z.On q sts->∀st ∈ sts,st.1.page ∈ z.pg
 | _,.top _,_,_,h,st,hst=>by rw[show _=[] from h]at hst;cases hst
 | _,.up p A k B z,_,_,h,st,hst=>by
  obtain⟨x,rest,rfl,hp,_,_,_,_,_,ho⟩:=h;rcases List.mem_cons.1 hst with rfl|hst
  ·simp[Zip.pg,hp]
  ·have:=QH ho st hst
   simp[Zip.pg,this]
variable {l p:Nat} {A:List (Kid l)} {k:List UInt8} {B:List (Kid l)} {z:Zip (l+1)} {c:Tr l} {had:Nat} {pre:List (NO × Nat)} {xc:NO}
theorem Ist.step (h:Ist K s0 s (.up p A k B z) c had F P born dead pre xc w):∃pre' x,pre=pre'++[(x,A.length)]/\x.page=p/\x.level=l+1/\x.ens=(A++(k,c)::B).map kEn/\(z.In->x.had=szU A k B)/\z.On p pre'.reverse/\D9 K s p x A k c B had xc w:=by
 obtain⟨x,rest,hsts,hp,hl,he,hh,hs,hcap,ho⟩:=h.on;have hpre:pre=rest.reverse++[(x,A.length)]:=by
  have:=congrArg List.reverse hsts
  rwa [List.reverse_reverse,List.reverse_cons]at this
 have hxM:=h.nodes (x,A.length) (by rw[hpre];simp)
 simp only at hxM;rw[hp]at hxM;have hpm:=h.mid.perm;have hnd:=hpm.nodup_iff.2 h.new.1;have hpg:1<=c.page/\c.page<4096:=h.mid.page;have hra:(pgK (A++(k,c)::B)).Nodup/\p ∉ pgK (A++(k,c)::B):=by
  simp only[Zip.pg]at hnd;have hq:(c.pages++(pgK A++(pgK B++p::z.pg)++dead)).Perm (p::(pgK (A++(k,c)::B)++(z.pg++dead))):=by
   rw[List.perm_iff_count];intro j;rw[A8,AN];simp only[List.count_append,List.count_cons];omega
  have hn2:=hq.nodup_iff.1 hnd;rw[List.nodup_cons,List.nodup_append]at hn2;exact⟨hn2.2.1,λhm=>hn2.1 (List.mem_append.2 (.inl hm))⟩
 refine⟨rest.reverse,x,hpre,hp,hl,by rw[he];exact XL.symm,hh,by rw[List.reverse_reverse];exact ho,?_⟩
 refine⟨h.H,hxM.1,hs,hl,by rw[he];exact XL.symm,hcap,h.mid.pre,by have h1:=h.mid.size;have h2:=h.mid.hadle;omega,?_,⟨h.x.1,h.x.2.1,h.x.2.2.1,h.x.2.2.2.1,h.x.2.2.2.2 trivial⟩,λy hy=>?_,hra.1,⟨hra.2,hxM.2,?_⟩,h.mid.ok.2.1⟩
 ·obtain⟨lo,hi,_,ho⟩:=h.mid.ord;exact⟨lo,hi,ho⟩
 ·simp only[List.mem_append,List.mem_cons]at hy;rcases hy with hy|rfl|hy
  ·exact h.reps.1 y hy
  ·exact BC5 (GG hpg.1 hpg.2 h.x.1 h.x.2.1 h.x.2.2.1) h.kids
  ·exact h.reps.2.1 y hy
 ·rcases Nat.eq_zero_or_pos p with e|e
  ·exact .inr e
  ·exact .inl (h.H.was p x hxM.1 e hxM.2).2.1
theorem Ist.next (h:Ist K s0 s (.up p A k B z) c had F P born dead pre xc w){pre':List (NO × Nat)}{x:NO}(hpre:pre=pre'++[(x,A.length)])(hp:x.page=p)(hl:x.level=l+1)(hh:z.In->x.had=szU A k B)(ho:z.On p pre'.reverse){n':NO}{ks':List (Kid l)}{b d:List Nat}(hf:BN7 K s p x A k c B had s' n' ks' b d w') :
  Ist K s0 s' z (.node p ks') (szU A k B) F P (born++b) (dead++d) pre' n' w':=by
 have hm:=h.mid.fit hf.fit;have hpm:=h.mid.perm;have hnd:=hpm.nodup_iff.2 h.new.1;have hb:b.length<=1/\∀q ∈ b,1<=q:=by
  rcases hf.fit with⟨_,_,rfl,_⟩|⟨_,q,_,_,_,_,_,_,_,_,_,hq,_,_,_,rfl,_⟩|⟨_,_,_,_,_,_,_,_,rfl,_⟩|⟨_,_,_,_,rfl,_⟩
  ·exact⟨by simp,λq hq=>by cases hq⟩
  ·exact⟨by simp,λj hj=>by rw[List.mem_singleton]at hj;omega⟩
  ·exact⟨by simp,λq hq=>by cases hq⟩
  ·exact⟨by simp,λq hq=>by cases hq⟩
 have hbn:b.Nodup:=by
  match b,hb.1 with
  | [],_=>simp
  | [_],_=>simp
 have hfresh:∀q ∈ b,q ∉ P++born:=λq hq hm=>by
  have h1:=hf.new q hq;rcases List.mem_append.1 hm with hm|hm
  ·rcases h.new.2.1 q hm with e|e
   ·have:=hb.2 q hq;omega
   ·exact h1 ((h.has q).2 (.inl e))
  ·exact h1 ((h.has q).2 (.inr hm))
 have hnew:(P++(born++b)).Nodup:=by
  rw[<-List.append_assoc,List.nodup_append];refine⟨h.new.1,hbn,λa ha j hj e=>hfresh j hj (e ▸ ha)⟩
 have hset:∀q ∈ z.pg,q ∉ p::(pgK (A++(k,c)::B)++b):=λq hq hc=>by
  have hqo:q ∈ P++born:=hpm.mem_iff.1 (by simp[Zip.pg,hq])
  have hq2:(c.pages++(pgK A++(pgK B++p::z.pg)++dead)).Perm ((p::pgK (A++(k,c)::B))++(z.pg++dead)):=by
   rw[List.perm_iff_count];intro j;rw[A8,AN];simp only[List.cons_append,List.count_append,List.count_cons];omega
  have hn2:=hq2.nodup_iff.1 hnd;rw[List.nodup_append]at hn2;rcases List.mem_cons.1 hc with rfl|hc
  ·exact hn2.2.2 q (by simp) q (by simp[hq]) rfl
  ·rcases List.mem_append.1 hc with hc|hc
   ·exact hn2.2.2 q (List.mem_cons_of_mem _ hc) q (by simp[hq]) rfl
   ·exact hfresh q hc hqo
 have hlow:∀q ∈ p::(pgK (A++(k,c)::B)++b),q ∈ P++(born++b):=λq hq=>by
  rcases List.mem_cons.1 hq with rfl|hq
  ·have:q ∈ P++born:=hpm.mem_iff.1 (by simp[Zip.pg])
   rw[<-List.append_assoc];exact List.mem_append.2 (.inl this)
  ·rcases List.mem_append.1 hq with hq|hq
   ·have:q ∈ P++born:=hpm.mem_iff.1 (by
     rw[A8,AN]at hq;simp only[List.mem_append]at hq;simp only[Zip.pg,List.mem_append];rcases hq with hq|hq|hq
     ·exact .inr (.inl (.inl hq))
     ·exact .inl hq
     ·exact .inr (.inl (.inr (.inl hq))))
    rw[<-List.append_assoc];exact List.mem_append.2 (.inl this)
   ·simp[hq]
 have hpo:=QH ho;refine⟨hf.H,hm,ho,h.reps.2.2.congr λq hq _ _ hc=>hc.fram2 hf.fram (hset q hq),hf.rep,λst hst=>?_,⟨hf.M,hf.is.2.2.1.trans hl,by rw[hf.is.2.2.2.1,AZ,A5],hf.is.2.2.2.2.1,λhz=>hf.is.2.2.2.2.2.2.trans (hh hz)⟩,by rw[hf.gn,h.gn],λq=>?_,⟨hnew,h.new.2.1,λq hq=>?_⟩,?_,?_⟩
 ·have h1:=h.nodes st (by rw[hpre];simp[hst])
  refine⟨?_,h1.2⟩;rw[hf.fram.M _ h1.2 (hset _ (hpo st (List.mem_reverse.2 hst)))];exact h1.1
 ·rw[hf.has q,h.has q,List.mem_append,or_assoc]
 ·rcases List.mem_append.1 hq with hq|hq
  ·exact h.new.2.2 q hq
  ·exact⟨hb.2 q hq,λe=>hf.new q hq ((h.has q).2 (.inl e))⟩
 ·refine (h.fram.mono λq hq=>?_).trans (hf.fram.mono hlow)
  rw[<-List.append_assoc];exact List.mem_append.2 (.inl hq)
 ·obtain⟨U,h1,h2⟩:=h.room;refine⟨b++U,λq hq=>?_,?_⟩
  ·rcases (hf.has q).1 hq with e|e
   ·exact List.mem_append.2 (.inr (h1 q e))
   ·exact List.mem_append.2 (.inl e)
  ·rw[hpre,List.length_append]at h2;rw[List.length_append];simp only[List.length_singleton]at h2;have:=hb.1
   omega
theorem Hnd.wayAt (H:Hnd K s w){j:Nat}{x:NO}{a:Nat}(hj:K.way[j]? = some (x,a)):∃g cap,K.wv=.slice (some ⟨g,0,none⟩) K.way.length cap/\w.cell? ⟨g,j*2,none⟩=some x.ptr/\w.cell? ⟨g,j*2+1,none⟩=some (.int .i64 a):=by
 have hlt:=(List.getElem?_eq_some_iff.1 hj).1;have hw:=H.way.1;rcases hw.2 with⟨_,h0⟩|⟨g,cap,cur,hv,_,hh,_,_,_,htk⟩
 ·omega
 ·have hc:∀(l:List (NO × Nat)) (j:Nat),l[j]? = some (x,a)->(l.flatMap stC)[j*2]? = some x.ptr/\(l.flatMap stC)[j*2+1]? = some (.int .i64 a):=by
   intro l;induction l with
   | nil=>intro j hj;cases hj
   | cons y r ih =>
    intro j hj;cases j with
    | zero =>
     simp only[List.getElem?_cons_zero,Option.some.injEq]at hj;subst hj;simp[stC]
    | succ j =>
     have:=ih j (by simpa using hj)
     rw[List.flatMap_cons];have e1:(j+1)*2=(stC y).length+j*2:=by simp[stC];omega
     rw[e1,List.getElem?_append_right (by omega),Nat.add_sub_cancel_left,Nat.add_assoc,List.getElem?_append_right (by omega),Nat.add_sub_cancel_left]
     exact this
  obtain⟨c1,c2⟩:=hc K.way j hj;refine⟨g,cap,hv,?_,?_⟩
  ·rw[<-htk,List.getElem?_take,if_pos (by omega)]at c1
   rw[yC hh,<-Array.getElem?_toList];exact c1
  ·rw[<-htk,List.getElem?_take,if_pos (by omega)]at c2
   rw[yC hh,<-Array.getElem?_toList];exact c2
end
section
variable {K:Kc} {s0:Hst} {w:World} {F:List En} {P:List Nat}
def Zip.Hat:{l:Nat}->Zip l->Nat->Nat->Prop
 | l,.top _,p,had=>1<=l/\p=0/\had<=380
 | _,.up p A k B z,_,_=>z.Hat p (szU A k B)
def Lop (K:Kc)(s0:Hst)(F:List En)(P:List Nat)(j:Nat)(w:World):Prop :=
 ∃(l:Nat) (z:Zip l) (c:Tr l) (had:Nat) (born dead:List Nat) (pre:List (NO × Nat)) (xc:NO) (s:Hst) (y:NO) (a:Nat),Ist K s0 s z c had F P born dead pre xc w/\pre=K.way.take j/\j<K.way.length/\K.way[j]? = some (y,a)/\y.blk=xc.blk/\y.was=xc.was/\z.Hat c.page had
theorem Lop.hnd {j:Nat}(h:Lop K s0 F P j w):∃s,Hnd K s w:=by
 obtain⟨l,z,c,had,born,dead,pre,xc,s,y,a,h,_⟩:=h;exact⟨s,h.H⟩
theorem Lop.round {j:Nat}(h:Lop K s0 F P (j+1) w):∃(nb g cap a:Nat),K.wv=.slice (some ⟨g,0,none⟩) K.way.length cap/\w.cell? ⟨g,j*2,none⟩=some (.pointer (some ⟨nb,0,none⟩))/\w.cell? ⟨g,j*2+1,none⟩=some (.int .i64 (a:Nat))/\w.cell? ⟨K.cb,2,none⟩=some K.wv/\j<K.way.length /\
  ∀W,Below w.heap.size w W->Calls Tryz.prog 122 #[.pointer (some ⟨K.cb,0,none⟩),.pointer (some ⟨nb,0,none⟩),.int .i64 (a:Nat)] W λe w'=>e=.returned (.int .i64 0)/\Hid (Lop K s0 F P j w'):=by
 obtain⟨l,z,c,had,born,dead,pre,xc,s,y,a,h,hpre,hjl,hw,hb,hws,hat⟩:=h;have hlen:pre.length=j+1:=by rw[hpre,List.length_take];omega
 cases z with
 | top _ =>
  exfalso
  have:=h.on
  have:pre.reverse=[]:=this
  rw[List.reverse_eq_nil_iff]at this;rw[this]at hlen;simp at hlen
 | up p A k B z =>
  obtain⟨pre',x,hp1,hxp,hxl,hxe,hxh,hon,hF⟩:=h.step;have hl':pre'.length=j:=by rw[hp1,List.length_append]at hlen;simpa using hlen
  have hj:K.way[j]? = some (x,A.length):=by
   have h1:(K.way.take (j+1))[j]? = some (x,A.length):=by
    rw[<-hpre,hp1,List.getElem?_append_right (by omega),hl',Nat.sub_self];rfl
   rw[List.getElem?_take,if_pos (by omega)]at h1
   exact h1
  have hp':pre'=K.way.take j:=by
   have h1:(K.way.take (j+1)).take j=pre':=by rw[<-hpre,hp1,List.take_append_of_le_length (by omega),List.take_of_length_le (by omega)]
   rw[List.take_take,Nat.min_eq_left (by omega)]at h1
   exact h1.symm
  obtain⟨g,cap,hv,c1,c2⟩:=h.H.wayAt hj;obtain⟨U,hr⟩:=h.room;have hlp:pre.length+1=(pre'.length+1)+1:=by rw[hp1];simp
  rw[hlp]at hr;refine⟨x.blk,g,cap,A.length,hv,c1,c2,h.H.cb2,by omega,λW hbW=>?_⟩
  refine (CC2 (hF.below (h.H.below hbW)) hr).mono ?_;rintro e w' ⟨rfl,s',n',ks',b,d,hO⟩;exact⟨rfl,yH ⟨l+1,z,_,_,_,_,pre',n',s',x,A.length,h.next hp1 hxp hxl hxh hon hO,hp',by omega,hj,hO.is.1.symm,hO.is.2.2.2.2.2.1.symm,hat⟩⟩
theorem ZZ {QQ:Ending->World->Prop}(hway:2<=K.way.length/\K.way.length<=1000)(h0:Lop K s0 F P (K.way.length-1) w)
  (hend:∀w1,Lop K s0 F P 0 w1->Calls Tryz.prog 124 #[.pointer (some ⟨K.cb,0,none⟩)] w1 λe w2=>∃r:Nat,e=.returned (.tuple #[.int .i64 r,.int .i64 0])/\Calls Tryz.prog 125 #[.pointer (some ⟨K.cb,0,none⟩)] w2 λe w3=>e=.returned (.tuple #[]) /\
   w3.cell? ⟨K.cb,0,none⟩=some (.pointer (some ⟨K.tb,0,none⟩))/\w3.cell? ⟨K.tb,1,none⟩=some (.pointer (some ⟨K.c.a,0,none⟩))/\w3.cell? ⟨K.tb,2,none⟩=some (.int .i64 K.r) /\
   Calls Tryz.prog 18 #[.pointer (some ⟨K.c.a,0,none⟩),.int .i64 K.r,.int .i64 r] w3.drew λe w4=>∃er:Int,e=.returned (.int .i64 er)/\Hid (QQ (.returned (.int .i64 er)) w4)) :
  Calls Tryz.prog 81 #[.pointer (some ⟨K.cb,0,none⟩)] w QQ:=by
 obtain⟨s,hH⟩:=h0.hnd;obtain⟨j0,hj0⟩:∃j,K.way.length=j+2:=⟨K.way.length-2,by omega⟩
 have hR0:Hid (Lop K s0 F P (j0+1) w):=yH (by have:=h0;rw[show K.way.length-1=j0+1 by omega]at this;exact this)
 obtain⟨nb,g,cap,a,hwv,hx⟩:=hR0.out.round;clear hx;have c2:=hH.cb2;rw[hwv,hj0]at c2;have HRD:Hid (∀(j:Nat) (wr:World),Lop K s0 F P (j+1) wr->∃(nb a:Nat),wr.cell? ⟨g,j*2,none⟩=some (.pointer (some ⟨nb,0,none⟩))/\wr.cell? ⟨g,j*2+1,none⟩=some (.int .i64 (a:Nat))/\wr.cell? ⟨K.cb,2,none⟩=some (.slice (some ⟨g,0,none⟩) (j0+2) cap)/\j<j0+2 /\
   ∀W,Below wr.heap.size wr W->Calls Tryz.prog 122 #[.pointer (some ⟨K.cb,0,none⟩),.pointer (some ⟨nb,0,none⟩),.int .i64 (a:Nat)] W λe w'=>e=.returned (.int .i64 0)/\Hid (Lop K s0 F P j w')):=yH λj wr h=>by
  obtain⟨nb',g',cap',a',h1,h2,h3,h4,h5,h6⟩:=h.round;rw[hwv,hj0]at h1;injection h1 with e1 _ e2
  injection e1 with e1
  injection e1 with e1
  subst e1 e2;rw[hj0]at h5;rw[hwv,hj0]at h4;exact⟨nb',a',h2,h3,h4,h5,h6⟩
 have HEND:=yH hend;have hjb:j0+2<=1000:=by omega
 clear hend h0 hH hway hwv;go_enter Tryz.func81,Tryz.ntmps81;go_wp2;go_loopw [3] (λi wr=>∃j:Nat,j<=j0+1/\i=.int .i64 ((j:Int)-1)/\Hid (Lop K s0 F P j wr)) (λi _=>(intOf i+1).toNat)
 case atStart=>exact⟨j0+1,by omega,by go_num,hR0⟩
 case round =>
  obtain⟨j,hj,rfl,HL⟩:=hrel;cases j with
  | zero =>
   have HE:=yH (HEND.out wr HL.out);clear HEND HRD HL hR0 c2;go_wp2_with fail;refine HE.out.mono ?_;rintro e w2 ⟨r,rfl,h2⟩;have H2:=yH h2;clear h2 HE;go_wp2_with fail;refine H2.out.mono ?_;rintro e w3 ⟨rfl,x0,t1,t2,h3⟩;have H3:=yH h3;clear h3 H2;go_wp2;go_still_tail 15,(by kernel_rfl)
   go_wp2_with fail;refine H3.out.mono ?_;rintro e w4 ⟨er,rfl,h4⟩;go_wp2;exact h4.out
  | succ m =>
   obtain⟨nb2,a2,d1,d2,d3,d4,hF⟩:=HRD.out m wr HL.out;have HF:=yH (hF _ (Below.refl wr.heap.size wr).drew);have hm:((m+1:Nat):Int)-1=(m:Int):=by omega
   have d5:decide (m<j0+2)=true:=decide_eq_true d4;have d6:(m:Int)<(j0:Int)+2:=by omega
   rw[hm];clear hF HEND HRD HL hR0 c2 hm;go_wp2;go_still_tail 17,(by kernel_rfl)
   go_wp2_with fail;refine HF.out.mono ?_;rintro e w2 ⟨rfl,H2⟩;go_wp2;go_roundw
   case rel=>exact⟨m,by omega,by go_num,H2⟩
   case measure=>simp[intOf]
end
end Go.Proofs.YtfbbjiidccbaiaaGreatDoor
