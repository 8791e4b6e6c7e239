/- Texts of one proof, one behind the other: WA, WB, WC, WD, WE, WF. -/
import Derived.Test.YtfbbjiidccbaiaaGreatDoorQAO
import Derived.Test.YtfbbjiidccbaiaaGreatDoorQAA
set_option maxRecDepth 100000
set_option maxHeartbeats 6400000
namespace Go.Proofs.YtfbbjiidccbaiaaGreatDoor
open Go.RowKit
theorem UU {k:List UInt8}{e:En}{r:List En}(h:lt e.key k):A6 k (e::r)=A6 k r:=by
 unfold A6;rw[show AP k (e::r)=AP k r+1 by conv=>lhs;unfold AP;rw[if_pos h]]
 rfl
theorem T9 {k:List UInt8}{e:En}{r:List En}(h:¬lt e.key k):A6 k (e::r)=decide (e.key=k):=by
 unfold A6;rw[show AP k (e::r)=0 by unfold AP;rw[if_neg h]]
 rfl
theorem XR {k:List UInt8}:∀{l:List En},A6 k l=true->∃A e B,l=A++e::B/\A.length=AP k l/\e.key=k/\∀v,CM k v l=A++⟨k,v⟩::B
 | [],h=>by cases h
 | e::r,h=>by
  by_cases hl:lt e.key k
  ·rw[UU hl]at h;obtain⟨A,f,B,rfl,h1,h2,h3⟩:=XR h;refine⟨e::A,f,B,rfl,?_,h2,λv=>?_⟩
   ·conv=>rhs;unfold AP;rw[if_pos hl]
    rw[List.length_cons,h1]
   ·conv=>lhs;unfold CM;rw[if_pos hl]
    rw[h3];rfl
  ·rw[T9 hl]at h;have he:=of_decide_eq_true h;refine⟨[],e,r,rfl,?_,he,λv=>?_⟩
   ·unfold AP;rw[if_neg hl];rfl
   ·unfold CM;rw[if_neg hl,if_pos he];rfl
theorem BV4 {k:List UInt8}:∀{l:List En},A6 k l=false->∃A B,l=A++B/\A.length=AP k l/\∀v,CM k v l=A++⟨k,v⟩::B
 | [],_=>⟨[],[],rfl,rfl,λ_=>rfl⟩
 | e::r,h=>by
  by_cases hl:lt e.key k
  ·rw[UU hl]at h;obtain⟨A,B,rfl,h1,h3⟩:=BV4 h;refine⟨e::A,B,rfl,?_,λv=>?_⟩
   ·conv=>rhs;unfold AP;rw[if_pos hl]
    rw[List.length_cons,h1]
   ·conv=>lhs;unfold CM;rw[if_pos hl]
    rw[h3];rfl
  ·rw[T9 hl]at h;have he:=of_decide_eq_false h;refine⟨[],e::r,rfl,?_,λv=>?_⟩
   ·unfold AP;rw[if_neg hl];rfl
   ·unfold CM;rw[if_neg hl,if_neg he];rfl
theorem BT4 {k:List UInt8}{A B:List En}{e:En}(hs:Srt (A++e::B))(he:e.key=k):DI k (A++e::B)=A++B:=by
 obtain⟨h1,h2,h3⟩:=DE.1 hs;subst he;have:=AD8 (k:=e.key) (A:=A) (M:=[e]) (B:=B) (λa ha=>h3 a ha e (by simp)) (λb hb=>Srt.cons_lt h2 b hb)
 rw[List.append_assoc,List.singleton_append]at this;rw[this];simp[DI]
theorem BJ7 {k:List UInt8}{l:List En}(h:¬BH6 k l):DI k l=l:=List.filter_eq_self.2 λe he=>decide_eq_true λhk=>h ⟨e,he,hk⟩
def putM (M:Nat->Option NO)(l:List (NO × Nat)):Nat->Option NO:=l.foldl (λM st=>upd M st.1.page (some st.1)) M
theorem AT7 (M:Nat->Option NO)(l:List (NO × Nat))(st:NO × Nat):putM M (l++[st])=upd (putM M l) st.1.page (some st.1):=by simp[putM,List.foldl_append]
theorem GB:∀{l:List (NO × Nat)} {M:Nat->Option NO} {q:Nat},(∀st ∈ l,st.1.page≠q)->putM M l q=M q
 | [],_,_,_=>rfl
 | st::r,M,q,h=>by
  show putM (upd M st.1.page (some st.1)) r q=M q;rw[GB λx hx=>h x (by simp[hx]),AA _ _ (Ne.symm (h st (by simp)))]
theorem V7:∀{l:List (NO × Nat)} {M:Nat->Option NO} {st:NO × Nat},(l.map (·.1.page)).Nodup->st ∈ l->putM M l st.1.page=some st.1
 | [],_,_,_,h=>by cases h
 | a::r,M,st,hn,h=>by
  rw[List.map_cons,List.nodup_cons]at hn;show putM (upd M a.1.page (some a.1)) r st.1.page=some st.1;rcases List.mem_cons.1 h with rfl|h
  ·rw[GB (λx hx e=>hn.1 (List.mem_map.2 ⟨x,hx,e⟩)),AB]
  ·exact V7 hn.2 h
theorem S7:∀{l:List (NO × Nat)} {M:Nat->Option NO} {q:Nat} {x:NO},putM M l q=some x->M q=some x\/∃st ∈ l,st.1=x/\st.1.page=q
 | [],_,_,_,h=>.inl h
 | a::r,M,q,x,h=>by
  rcases S7 (l:=r) (M:=upd M a.1.page (some a.1)) h with h1|⟨st,h1,h2,h3⟩
  ·by_cases hq:q=a.1.page
   ·subst hq;rw[AB]at h1;exact .inr ⟨a,by simp,Option.some.inj h1,rfl⟩
   ·rw[AA _ _ hq]at h1;exact .inl h1
  ·exact .inr ⟨st,by simp[h1],h2,h3⟩
theorem PQ {key:List UInt8}{b:Bool}:∀{L:Nat} {t:Tr L} {sts:List (NO × Nat)},NI key b L t sts->(sts.map (·.1.page)).Sublist t.pages
 | 0,t,_,h=>by
  obtain⟨x,rfl,hx,_⟩:=h;rw[List.map_singleton,show (x,AP key t.es).1.page=t.page from hx.1]
  exact List.Sublist.refl _
 | L+1,t,_,h=>by
  obtain⟨x,rest,A,k,cc,B,rfl,hx,hks,_,_,hr⟩:=h;rw[List.map_cons,show (x,A.length).1.page=t.page from hx.1,AQ,hks,A8,AN]
  refine List.Sublist.cons_cons _ ?_;exact ((PQ hr).trans (List.sublist_append_left _ _)).trans (List.sublist_append_right _ _)
theorem NH {P:Nat->Nat->List En->Prop}{key:List UInt8}{b:Bool}:∀{L:Nat} {t:Tr L} {sts:List (NO × Nat)},NI key b L t sts->Rep P t->∀st ∈ sts,∃(l:Nat) (es:List En),P st.1.page l es/\st.1.level=l/\st.1.ens=es/\st.1.was=pgB l es/\st.1.sole=true/\st.1.cap=es.length/\st.1.had=szE es
 | 0,t,_,h,hr,st,hst=>by
  obtain⟨x,rfl,hx,_⟩:=h;rw[List.mem_singleton]at hst;subst hst;exact⟨0,t.ens,by rw[show (x,AP key t.es).1.page=t.page from hx.1];exact hr.at_,hx.2.1,hx.2.2.1,hx.2.2.2.1,hx.2.2.2.2.2.1,hx.2.2.2.2.2.2,hx.2.2.2.2.1⟩
 | L+1,t,_,h,hr,st,hst=>by
  obtain⟨x,rest,A,k,cc,B,rfl,hx,hks,_,_,hw⟩:=h;rcases List.mem_cons.1 hst with rfl|hst
  ·exact⟨L+1,t.ens,by rw[show (x,A.length).1.page=t.page from hx.1];exact hr.at_,hx.2.1,hx.2.2.1,hx.2.2.2.1,hx.2.2.2.2.2.1,hx.2.2.2.2.2.2,hx.2.2.2.2.1⟩
  ·exact NH hw (hr.kid (k,cc) (by rw[hks];simp)) st hst
theorem AR2 {key:List UInt8}{b:Bool}{L:Nat}{t:Tr L}{sts:List (NO × Nat)}(h:NI key b L t sts):∃x a r,sts=(x,a)::r/\x.page=t.page/\x.level=L:=by
 cases L with
 | zero =>
  obtain⟨x,rfl,hx,_⟩:=h;exact⟨x,_,[],rfl,hx.1,hx.2.1⟩
 | succ L =>
  obtain⟨x,rest,A,k,cc,B,rfl,hx,_⟩:=h;exact⟨x,_,rest,rfl,hx.1,hx.2.1⟩
theorem AM.re {X X':Nat->Prop}{w:World}{x:NO}(h:AM X w x)(hX:∀k,X' k->X k)(hb:X' x.blk)(ha:∀ad,x.arr=some ad->X' ad.block):AM X' w x:=by
 refine⟨h.blk,hb,?_,h.cap,h.small,h.short,h.alone⟩;rcases h.ents with h0|⟨b,o,cs,h1,h2,h3,h4⟩
 ·exact .inl h0
 ·refine .inr ⟨b,o,cs,h1,h2,ha _ h1,λi hi=>?_⟩
  obtain⟨kv,vv,c1,c2,c3,c4⟩:=h4 i hi;exact⟨kv,vv,c1,c2,c3.kept (AC.ofBelow (S:=λ_=>False) (Below.refl _ w)) (λ_ _ h=>h.elim) (λk _ h=>hX k h),c4.kept (AC.ofBelow (S:=λ_=>False) (Below.refl _ w)) (λ_ _ h=>h.elim) (λk _ h=>hX k h)⟩
theorem BV5 {X:Nat->Prop}{w:World}{x:NO}(h:AM X w x)(hne:x.ens≠[]):x.ab≠x.blk:=by
 rcases h.ents with h0|⟨b,o,cs,h1,h2,_⟩
 ·exact absurd h0 hne
 ·unfold NO.ab;rw[h1];intro e;have e:b=x.blk:=e;rw[e,h.blk]at h2;injection h2 with h2
  injection h2 with _ h2 _
  exact absurd h2 (by decide)
def roW (ix:NO->Nat)(ρ:Nat->Nat)(l:List NO):Nat->Nat:=l.foldl (λρ x=>upd (upd ρ x.ab (9+2*ix x)) x.blk (8+2*ix x)) ρ
abbrev CC9 (x y:NO):Prop:=x.blk≠y.blk/\x.ab≠y.ab/\x.blk≠y.ab/\x.ab≠y.blk
theorem KM:∀{ix:NO->Nat} {l:List NO} {ρ:Nat->Nat} {k:Nat},(∀x ∈ l,k≠x.blk/\k≠x.ab)->roW ix ρ l k=ρ k
 | _,[],_,_,_=>rfl
 | ix,a::r,ρ,k,h=>by
  show roW ix (upd (upd ρ a.ab (9+2*ix a)) a.blk (8+2*ix a)) r k=ρ k;have ha:=h a (by simp)
  rw[KM λx hx=>h x (by simp[hx]),AA _ _ ha.1,AA _ _ ha.2]
theorem BC1:∀{ix:NO->Nat} {l:List NO} {ρ:Nat->Nat} {x:NO},l.Pairwise CC9->x ∈ l->roW ix ρ l x.blk=8+2*ix x/\(x.ab≠x.blk->roW ix ρ l x.ab=9+2*ix x)
 | _,[],_,_,_,h=>by cases h
 | ix,a::r,ρ,x,hp,h=>by
  rw[List.pairwise_cons]at hp;show roW ix (upd (upd ρ a.ab (9+2*ix a)) a.blk (8+2*ix a)) r x.blk=_/\(_->roW ix (upd (upd ρ a.ab (9+2*ix a)) a.blk (8+2*ix a)) r x.ab=_);rcases List.mem_cons.1 h with rfl|h
  ·refine⟨?_,λhne=>?_⟩
   ·rw[KM λy hy=>⟨(hp.1 y hy).1,(hp.1 y hy).2.2.1⟩,AB]
   ·rw[KM λy hy=>⟨(hp.1 y hy).2.2.2,(hp.1 y hy).2.1⟩,AA _ _ hne,AB]
  ·exact BC1 hp.2 h
theorem BC0:∀{ix:NO->Nat} {l:List NO} {ρ:Nat->Nat} {k:Nat},roW ix ρ l k≠0->ρ k≠0\/∃x ∈ l,k=x.blk\/k=x.ab
 | _,[],_,_,h=>.inl h
 | ix,a::r,ρ,k,h=>by
  rcases BC0 (l:=r) (ρ:=upd (upd ρ a.ab (9+2*ix a)) a.blk (8+2*ix a)) h with h1|⟨x,h1,h2⟩
  ·by_cases hb:k=a.blk
   ·exact .inr ⟨a,by simp,.inl hb⟩
   ·rw[AA _ _ hb]at h1;by_cases ha:k=a.ab
    ·exact .inr ⟨a,by simp,.inr ha⟩
    ·rw[AA _ _ ha]at h1;exact .inl h1
  ·exact .inr ⟨x,by simp[h1],h2⟩
theorem AV8 {J:List AD->Prop}{B:Nat}{S S' X:Nat->Prop}{c:Ac}{h:Hd}{G:Nat->List UInt8}{w0 w:World}{tb r cb mb g n cap:Nat}{above:NO}{i0:Nat}{ix:NO->Nat}{sts:List (NO × Nat)}{xs:List NO}
  (hpos:1<=w0.heap.size) (ht:AH w tb c.a r) (htl:tb<w0.heap.size) (htS:¬S tb) (hA:AU J B S' c h G w) (hT:AO S w0 S' w)
  (hcb:w.heap[cb]? = some (.cells #[.pointer (some ⟨tb,0,none⟩),.map (some mb),.slice (some ⟨g,0,none⟩) n cap,.slice none 0 0,.slice none 0 0] 186 (0,0)))
  (hmb:EB w mb 0 λ_=>none) (hwv:BL w (.slice (some ⟨g,0,none⟩) n cap) ((above,i0)::sts))
  (hab:ix above=0) (hxs:∀x ∈ above::xs,AM X w x/\¬S' x.blk/\¬S' x.ab/\w0.heap.size<=x.blk/\w0.heap.size<=x.ab/\x.ab<w.heap.size/\x.sole=true/\(x.arr≠none->x.ab≠x.blk))
  (hfar:(above::xs).Pairwise CC9)
  (hown:∀k ∈ [cb,mb,g],w0.heap.size<=k/\k<w.heap.size/\¬S' k/\∀x ∈ above::xs,x.blk≠k/\x.ab≠k) (hnd:[cb,mb,g].Nodup)
  (hX:∀k,(S' k\/k ∈ [cb,mb,g]\/∃x ∈ above::xs,k=x.blk\/k=x.ab)->X k) :
  ∃s:Hst,Hnd ⟨J,B,c,S,w0,tb,r,cb,mb,.slice (some ⟨g,0,none⟩) n cap,(above,i0)::sts⟩ s w/\s.h=h/\s.G=G/\s.M=upd (λ_=>none) 0 (some above)/\s.tk=[]/\s.gn=[]/\(∀x ∈ xs,DS s.ρ w (ix x) x):=by
 obtain⟨ρ0,hρ0⟩:∃ρ0:Nat->Nat,ρ0=λk=>@ite _ (S' k) (Classical.propDecidable _) 1 0:=⟨_,rfl⟩
 have z1:∀k,S' k->ρ0 k=1:=λk hk=>by rw[hρ0];exact if_pos hk
 have z0:∀k,¬S' k->ρ0 k=0:=λk hk=>by rw[hρ0];exact if_neg hk
 simp only[List.nodup_cons,List.mem_cons,List.not_mem_nil,or_false,not_or,not_false_eq_true,List.nodup_nil,and_true]at hnd;obtain⟨⟨n1,n2⟩,n3⟩:=hnd;have ocb:=hown cb (by simp);have omb:=hown mb (by simp);have og:=hown g (by simp)
 obtain⟨ρ,hρ⟩:∃ρ:Nat->Nat,ρ=upd (upd (upd (roW ix ρ0 (above::xs)) cb 2) mb 3) g 4:=⟨_,rfl⟩;have rg:ρ g=4:=by rw[hρ,AB]
 have rm:ρ mb=3:=by rw[hρ,AA _ _ n3,AB]
 have rc:ρ cb=2:=by rw[hρ,AA _ _ n2,AA _ _ n1,AB]
 have ro:∀k,k≠cb->k≠mb->k≠g->ρ k=roW ix ρ0 (above::xs) k:=λk h1 h2 h3=>by rw[hρ,AA _ _ h3,AA _ _ h2,AA _ _ h1]
 have rS:∀k,S' k->ρ k=1:=λk hk=>by
  rw[ro k (λe=>ocb.2.2.1 (e ▸ hk)) (λe=>omb.2.2.1 (e ▸ hk)) (λe=>og.2.2.1 (e ▸ hk)),KM λx hx=>⟨λe=>(hxs x hx).2.1 (e ▸ hk),λe=>(hxs x hx).2.2.1 (e ▸ hk)⟩]
  exact z1 k hk
 have rx:∀x ∈ above::xs,ρ x.blk=8+2*ix x/\(x.ab≠x.blk->ρ x.ab=9+2*ix x):=λx hx=>by
  have h1:=BC1 (ix:=ix) (ρ:=ρ0) hfar hx;refine⟨?_,λhne=>?_⟩
  ·rw[ro _ (ocb.2.2.2 x hx).1 (omb.2.2.2 x hx).1 (og.2.2.2 x hx).1];exact h1.1
  ·rw[ro _ (ocb.2.2.2 x hx).2 (omb.2.2.2 x hx).2 (og.2.2.2 x hx).2];exact h1.2 hne
 have rn:∀k,ρ k≠0->S' k\/k ∈ [cb,mb,g]\/∃x ∈ above::xs,k=x.blk\/k=x.ab:=λk hk=>by
  by_cases h1:k=cb
  ·exact .inr (.inl (by simp[h1]))
  ·by_cases h2:k=mb
   ·exact .inr (.inl (by simp[h2]))
   ·by_cases h3:k=g
    ·exact .inr (.inl (by simp[h3]))
    ·rw[ro k h1 h2 h3]at hk;rcases BC0 hk with h4|h4
     ·by_cases hS:S' k
      ·exact .inl hS
      ·exact absurd (z0 k hS) h4
     ·exact .inr (.inr h4)
 have rw0:∀x ∈ above::xs,DS ρ w (ix x) x:=λx hx=>by
  obtain⟨h1,h2,h3,h4,h5,h6,h7,h8⟩:=hxs x hx;obtain⟨r1,r2⟩:=rx x hx;refine⟨h1.re (λk hk=>hX k (rn k hk)) (by rw[r1];omega) (λad ha=>?_),r1,λad ha=>?_⟩
  ·rw[Q7 ha,r2 (h8 (by rw[ha];simp))];omega
  ·rw[if_pos h7,Q7 ha];exact r2 (h8 (by rw[ha];simp))
 have hz:=hT.1.size;have rlt:∀k,ρ k≠0->k<w.heap.size:=λk hk=>by
  rcases rn k hk with h1|h1|⟨x,h1,rfl|rfl⟩
  ·exact (hA.low k h1).2
  ·exact (hown k h1).2.1
  ·exact (hxs x h1).1.lt
  ·exact (hxs x h1).2.2.2.2.2.1
 have rlow:∀k,2<=ρ k->w0.heap.size<=k:=λk hk=>by
  rcases rn k (by omega) with h1|h1|⟨x,h1,rfl|rfl⟩
  ·have:=rS k h1;omega
  ·exact (hown k h1).1
  ·exact (hxs x h1).2.2.2.1
  ·exact (hxs x h1).2.2.2.2.1
 have rt:ρ tb=0:=by
  rcases Nat.eq_zero_or_pos (ρ tb) with e|e
  ·exact e
  ·exfalso
   rcases rn tb (by omega) with h1|h1|⟨x,h1,h2|h2⟩
   ·exact htS (hT.2 tb htl h1)
   ·have:=(hown tb h1).1;omega
   ·have:=(hxs x h1).2.2.2.1;omega
   ·have:=(hxs x h1).2.2.2.2.1;omega
 have hpt:C9 (upd (λ_=>none) 0 (some above))=λ_=>none:=by
  funext q
  unfold C9;split
  ·rw[AA _ _ (by omega)];rfl
  ·rfl
 refine⟨⟨S',ρ,h,G,upd (λ_=>none) 0 (some above),[],[],.slice none 0 0,.slice none 0 0⟩,⟨hpos,⟨ht,rt⟩,hA,rS,hT,rlow,rlt,⟨hcb,rc⟩,⟨⟨0,?_⟩,rm⟩,⟨hwv,λk hk=>?_⟩,⟨⟨rfl,.inl ⟨rfl,rfl⟩⟩,λk hk=>?_⟩,⟨⟨rfl,.inl ⟨rfl,rfl⟩⟩,λk hk=>?_⟩,λq x hq=>?_,λq x hq h1 h2=>?_,⟨List.nodup_nil,λq hq=>by cases hq⟩,⟨List.nodup_nil,λq hq=>by cases hq⟩⟩,rfl,rfl,rfl,rfl,rfl,λx hx=>rw0 x (by simp[hx])⟩
 ·show EB w mb 0 (C9 (upd (λ_=>none) 0 (some above)))
  rw[hpt];exact hmb
 ·simp only[Value.ownBlock,Option.some.injEq]at hk;exact hk ▸ rg
 ·simp[Value.ownBlock]at hk
 ·simp[Value.ownBlock]at hk
 ·dsimp only at hq
  by_cases h0:q=0
  ·subst h0;rw[AB]at hq;cases hq;have:=rw0 above (by simp)
   rw[hab]at this;exact this
  ·rw[AA _ _ h0]at hq;cases hq
 ·dsimp only at hq
  rw[AA _ _ (by omega)]at hq
  cases hq
abbrev CA2 (L:Nat):Zip L:=.up 0 [] [] [] (.top (L+1))
theorem BO5 {L:Nat}{t:Tr L}(hr:MF t)(ho:Ord t [] none)(key:List UInt8):Was (CA2 L) t t.flat (0::t.pages) key:=by
 have no:∀x:Kid L,x ∉ ([]:List (Kid L)):=λx hx=>by cases hx
 have hb0:Bd [] none:=λx hx=>by cases hx
 refine⟨⟨⟨λc=>⟨rfl,λx hx=>absurd hx (no x)⟩,λx hx=>absurd hx (no x),λx hx=>absurd hx (no x),trivial,trivial,λA' a hA=>?_,λb B' hb=>?_⟩,?_,trivial,trivial⟩,⟨hr.1.1,hr.1.2.2.1⟩,hr.1.2.2.2,⟨[],none,⟨[],none,⟨rfl,rfl⟩,hb0,trivial,rfl,rfl,trivial⟩,ho,⟨AJ3 _,λy hy=>by cases hy⟩⟩,?_,?_,λe he=>?_,λe he=>?_⟩
 ·cases A' <;> cases hA
 ·cases hb
 ·simp[szU,IK]
 ·simp[Zip.fl,Zip.fr,ET]
 ·simp only[Zip.pg,FI,List.nil_append];exact List.perm_append_singleton _ _
 ·simp[Zip.fl,ET]at he
 ·simp[Zip.fr,ET]at he
theorem Z9 {P P':Nat->Nat->List En->Prop}:∀{l:Nat} {z:Zip l} {q:Nat} {sts:List (NO × Nat)},z.Reps P->z.On q sts->z.pg.Nodup->(∀j ∈ z.pg,(∀st ∈ sts,st.1.page≠j)->∀l es,P j l es->P' j l es)->z.Reps P'
 | _,.top _,_,_,_,_,_,_=>trivial
 | _,.up p A k B z,q,sts,hR,ho,hn,hF=>by
  obtain⟨x,rest,rfl,hp,_,_,_,_,_,ho'⟩:=ho;have hsub:=QH ho';have hn0:(pgK A++(pgK B++p::z.pg)).Nodup:=hn;rw[List.nodup_append]at hn0;obtain⟨n1,n2,n3⟩:=hn0;rw[List.nodup_append]at n2;obtain⟨n4,n5,n6⟩:=n2;rw[List.nodup_cons]at n5;have up:∀j,(∀i ∈ p::z.pg,j≠i)->∀st ∈ (x,A.length)::rest,st.1.page≠j:=λj hj st hst e=>by
   rcases List.mem_cons.1 hst with rfl|hst
   ·exact hj p (by simp) (e.symm.trans hp)
   ·exact hj _ (List.mem_cons_of_mem _ (hsub st hst)) e.symm
  refine⟨λy hy=>(hR.1 y hy).congr λj hj l es hl=>?_,λy hy=>(hR.2.1 y hy).congr λj hj l es hl=>?_,Z9 hR.2.2 ho' n5.2 λj hj hs=>hF j ?_ λst hst e=>?_⟩
  ·have hjA:j ∈ pgK A:=List.mem_flatMap.2 ⟨y,hy,hj⟩;exact hF j (List.mem_append.2 (.inl hjA)) (up j λi hi=>n3 j hjA i (List.mem_append.2 (.inr hi))) l es hl
  ·have hjB:j ∈ pgK B:=List.mem_flatMap.2 ⟨y,hy,hj⟩;exact hF j (List.mem_append.2 (.inr (List.mem_append.2 (.inl hjB)))) (up j λi hi=>n6 j hjB i hi) l es hl
  ·exact List.mem_append.2 (.inr (List.mem_append.2 (.inr (List.mem_cons_of_mem _ hj))))
  ·rcases List.mem_cons.1 hst with rfl|hst
   ·have e:p=j:=hp.symm.trans e;exact n5.1 (e ▸ hj)
   ·exact hs st hst e
structure EY (h:Hd)(G:Nat->List UInt8){L:Nat}(t:Tr L):Prop where
 root:MF t
 ord:Ord t [] none
 rep:Rep (FF h G) t
 nodup:t.pages.Nodup
theorem V5 {P:Nat->Nat->List En->Prop}:∀{L:Nat} {t:Tr L},Rep P t->∀q ∈ t.pages,∃l es,P q l es
 | 0,t,h,q,hq=>by
  have:q=t.page:=by simpa [Tr.pages,LZ] using hq
  exact⟨_,_,this ▸ h.at_⟩
 | L+1,t,h,q,hq=>by
  rw[AQ]at hq;rcases List.mem_cons.1 hq with rfl|hq
  ·exact⟨_,_,h.at_⟩
  ·obtain⟨k,hk,hq⟩:=List.mem_flatMap.1 hq;exact V5 (h.kid k hk) q hq
theorem EY.has {h:Hd}{G:Nat->List UInt8}{L:Nat}{t:Tr L}(x:EY h G t):∀q ∈ t.pages,h.has q:=λq hq=>by
 obtain⟨l,es,h1,_⟩:=V5 x.rep q hq;exact h1
structure D4 (K:Kc)(s:Hst){L:Nat}(t:Tr L)(key:List UInt8)(b:Bool)(above:NO)(sts:List (NO × Nat))(w:World):Prop where
 H:Hnd K s w
 way:K.way=(above,0)::sts
 wl:NI key b L t sts
 M:s.M=putM (upd (λ_=>none) 0 (some above)) sts
 tg:s.tk=[]/\s.gn=[]
 ab:above.page=0/\above.level=L+1/\above.ens=[⟨[],pgV t.page⟩]/\above.was=[]/\above.sole=true/\above.cap=1
section
variable {K:Kc} {s:Hst} {L:Nat} {t:Tr L} {key:List UInt8} {b:Bool} {above:NO} {sts pre:List (NO × Nat)} {x0 x':NO} {c0 c':Tr 0} {z0:Zip 0} {F':List En} {w w':World}
theorem D4.end_ (h:D4 K s t key b above sts w)(st:EY s.h s.G t):∃pre x0 c0 z0,GT (FF s.h s.G) key t.flat (0::t.pages) b sts [(above,0)] pre x0 c0 z0/\∀p had,z0.Hat p had:=by
 obtain⟨a1,a2,a3,a4,a5,a6⟩:=h.ab;obtain⟨pre,x0,c0,z0,h1,h2⟩:=VW (P:=FF s.h s.G) (F:=t.flat) (ps:=0::t.pages) (Q:=λ_ z=>∀p had,z.Hat p had) (z:=CA2 L) (up:=[(above,0)]) (λl p A k B z hz _ _=>hz _ _) (BO5 st.root st.ord key) st.rep
  ⟨λx hx=>(by cases hx),λx hx=>(by cases hx),trivial⟩ h.wl ⟨above,[],rfl,a1,a2,by rw[a3];rfl,λh=>h.elim,a5,by rw[a6,a3];rfl,rfl⟩
  (λ_ _=>by
   show 1<=L+1/\(0:Nat)=0/\szU ([]:List (Kid L)) [] []<=380;refine⟨by omega,rfl,?_⟩
   simp[szU,IK])
 exact⟨pre,x0,c0,z0,h1,h2⟩
theorem D4.pages (h:D4 K s t key b above sts w)(st:EY s.h s.G t):(sts.map (·.1.page)).Nodup/\∀y ∈ sts,y.1.page ∈ t.pages/\1<=y.1.page/\y.1.page<4096:=by
 have hs:=PQ h.wl;refine⟨st.nodup.sublist hs,λy hy=>?_⟩
 have h1:=hs.subset (List.mem_map_of_mem (f:=(·.1.page)) hy)
 have h2:=h.H.act.has_lt (st.has _ h1);exact⟨h1,h2.1,h2.2⟩
theorem D4.endM (h:D4 K s t key b above sts w)(st:EY s.h s.G t)(e:GT (FF s.h s.G) key t.flat (0::t.pages) b sts [(above,0)] pre x0 c0 z0):s.M x0.page=some x0/\1<=x0.page/\x0.page<4096:=by
 have hm:(x0,AP key c0.es) ∈ sts:=by rw[e.sts];simp
 have hp:=h.pages st;refine⟨?_,(hp.2 _ hm).2⟩;rw[h.M];exact V7 hp.1 hm
theorem D4.endW (h:D4 K s t key b above sts w)(e:GT (FF s.h s.G) key t.flat (0::t.pages) b sts [(above,0)] pre x0 c0 z0):K.way=((above,0)::pre)++[(x0,AP key c0.es)]:=by rw[h.way,e.sts];rfl
theorem D4.lop (h:D4 K s t key b above sts w)(st:EY s.h s.G t)(e:GT (FF s.h s.G) key t.flat (0::t.pages) b sts [(above,0)] pre x0 c0 z0)(hat:∀p had,z0.Hat p had){ρ':Nat->Nat}(H':Hnd K { s with M:=upd s.M x0.page (some x'),ρ:=ρ' } w')
  (hm:Mid z0 c' c0.size F' (0::t.pages) [] []) (hc:c'.page=c0.page) (hx:x'.blk=x0.blk/\x'.was=x0.was/\x'.level=0/\x'.ens=c'.ens/\x'.sole=true/\x'.had=x0.had) {U:List Nat} (hr:CU s.h U K.way.length) :
  Lop K { s with M:=upd s.M x0.page (some x'),ρ:=ρ' } F' (0::t.pages) (K.way.length-1) w':=by
 have hw:=h.endW e;have hp:=h.pages st;have hlen:K.way.length=pre.length+1+1:=by rw[hw];simp
 have htk:K.way.take (K.way.length-1)=(above,0)::pre:=by
  rw[hw];simp
 obtain⟨eM,e1,e2⟩:=h.endM st e;have hxp:x0.page=c0.page:=e.node.1;have hn1:(pre.map (·.1.page)++[x0.page]).Nodup:=by have:=hp.1;rw[e.sts,List.map_append]at this;exact this
 have hmem:∀y ∈ pre,y ∈ sts:=λy hy=>by rw[e.sts];simp[hy]
 have hPn:(0::t.pages).Nodup:=List.nodup_cons.2 ⟨λh0=>by have:=(h.H.act.has_lt (st.has _ h0)).1;omega,st.nodup⟩
 have hzn:=e.was.perm.nodup_iff.2 hPn;rw[List.nodup_append]at hzn;have hM0:s.M 0=some above:=by
  rw[h.M,GB (λy hy e=>by have:=(hp.2 y hy).2.1;omega),AB]
 refine⟨0,z0,c',c0.size,[],[],(above,0)::pre,x',_,x0,AP key c0.es,⟨H',hm,?_,?_,trivial,λy hy=>?_,⟨?_,hx.2.2.1,hx.2.2.2.1,hx.2.2.2.2.1,λ_=>?_⟩,h.tg.2,λq=>by simp,⟨by simpa using hPn,λq hq=>?_,λq hq=>by cases hq⟩,C8.refl _ _,⟨U,?_⟩⟩,htk.symm,by omega,?_,hx.1.symm,hx.2.1.symm,hat _ _⟩
 ·rw[hc,List.reverse_cons];exact e.on
 ·refine Z9 e.rep.2 e.on hzn.2.1 λj hj hs l es hl=>?_
  have hj0:j≠0:=λe0=>hs (above,0) (by simp) (h.ab.1.trans e0.symm)
  have hjx:j≠x0.page:=λe0=>hzn.2.2 c0.page (AS c0) j hj (by rw[e0,hxp])
  have hjM:s.M j=none:=by
   rw[h.M,GB λy hy=>?_,AA _ _ hj0]
   rw[e.sts]at hy;rcases List.mem_append.1 hy with hy|hy
   ·exact hs y (by simp[hy])
   ·rw[List.mem_singleton]at hy;rw[hy];exact Ne.symm hjx
  have hlt:=h.H.act.has_lt hl.1;refine⟨hlt.1,hlt.2,?_⟩;show (match upd s.M x0.page (some x') j with | some x=>_ | none=>_)
  rw[AA _ _ hjx,hjM];refine⟨hl,?_⟩;show j ∉ s.gn;rw[h.tg.2];simp
 ·rcases List.mem_cons.1 hy with rfl|hy
  ·refine⟨?_,by rw[h.ab.1];omega⟩
   show upd s.M x0.page (some x') above.page=_;rw[h.ab.1,AA _ _ (by omega)];exact hM0
  ·refine⟨?_,(hp.2 y (hmem y hy)).2.2⟩;show upd s.M x0.page (some x') y.1.page=_;have hne:y.1.page≠x0.page:=λe0=>(List.nodup_append.1 hn1).2.2 y.1.page (List.mem_map_of_mem (f:=(·.1.page)) hy) x0.page (by simp) e0
   rw[AA _ _ hne,h.M];exact V7 hp.1 (hmem y hy)
 ·show upd s.M x0.page (some x') c'.page=_;rw[hc,<-hxp,AB]
 ·rw[hx.2.2.2.2.2];exact e.node.2.2.2.2.1
 ·rcases List.mem_cons.1 hq with rfl|hq
  ·exact .inl rfl
  ·exact .inr (st.has q hq)
 ·rw[List.length_cons,<-hlen];exact hr
 ·rw[hlen,hw,List.getElem?_append_right (by simp)]
  simp
theorem D4.low (h:D4 K s t key b above sts w)(st:EY s.h s.G t)(e:GT (FF s.h s.G) key t.flat (0::t.pages) b sts [(above,0)] pre x0 c0 z0):∀q x,upd s.M x0.page (some x') q=some x->1<=q->q<4096->q ∈ 0::t.pages:=by
 intro q x hq h1 _;have hp:=h.pages st;have hm:(x0,AP key c0.es) ∈ sts:=by rw[e.sts];simp
 by_cases hqx:q=x0.page
 ·exact List.mem_cons_of_mem _ (hqx ▸ (hp.2 _ hm).1)
 ·rw[AA _ _ hqx,h.M]at hq;rcases S7 hq with h2|⟨y,h2,_,h3⟩
  ·rw[AA _ _ (by omega)]at h2;cases h2
  ·exact List.mem_cons_of_mem _ (h3 ▸ (hp.2 y h2).1)
theorem Hnd.setVal (H:Hnd K s w){q:Nat}{x:NO}(hM:s.M q=some x)(hs:x.sole=true){A B:List En}{e:En}(he:x.ens=A++e::B){v:Value}{val:List UInt8}(hv:A7 (λk=>s.ρ k≠0) w v val)(hl:val.length<=255) :
  ∃g,x.arr=some ⟨g,0,none⟩/\g<w.heap.size/\w.frozen? ⟨g,A.length*2+1,none⟩=false/\(∃u,w.cell? ⟨g,A.length*2+1,none⟩=some u)/\Hnd K { s with M:=upd s.M q (some { x with ens:=A++⟨e.key,val⟩::B }) } (w.setCell ⟨g,A.length*2+1,none⟩ v):=by
 have hx:=H.node q x hM;have h:=hx.at_;have hne:x.ens≠[]:=by rw[he];simp
 obtain⟨g,harr⟩:=h.alone hs hne;have hab:x.ab=g:=by unfold NO.ab;rw[harr]
 have hgr:s.ρ g=9+2*q:=by have:=hx.row _ harr;rwa [if_pos hs]at this
 have hent:=h.ents;rw[harr]at hent;obtain⟨Lc,vs,R,hL,hrow⟩:=hent.row hne;obtain rfl:Lc=[]:=List.eq_nil_of_length_eq_zero hL;have hp:=hrow.pairs;rw[he]at hp;obtain⟨P,DQ,rfl,hpA,hpB⟩:=hp.split A (e::B);obtain⟨D,Q,rfl,hpD,hpQ⟩:=BE.split (es:=[e]) (fs:=B) hpB;have hPl:=hpA.len;match D,hpD with
 | kv::vv::D',hpD =>
 have hD':D'=[]:=by
  have:=hpD.len
  simp at this;exact this
 subst hD';have hblk:=hrow.blk;rw[List.nil_append]at hblk;have hk:=AC.setCell (λk=>k=g) w (b:=g) (i:=A.length*2+1) rfl v
 have hgl:g<w.heap.size:=(Array.getElem?_eq_some_iff.1 hblk).1;have hnew:(w.setCell ⟨g,A.length*2+1,none⟩ v).heap[g]? = some (.cells (P++([kv,v]++(Q++R))).toArray 135 (0,0)):=by
  rw[BW hblk];congr 2
  apply Array.ext'
  simp only[Array.toList_setIfInBounds,List.append_assoc];rw[<-hPl,List.set_append_right _ _ (by omega)]
  simp
 have hgb:g≠x.blk:=by rw[<-hab];exact BV5 h hne
 refine⟨g,harr,hgl,by simp[World.frozen?,hblk],⟨vv,?_⟩,H.turnM (T:=λk=>k=g) (ρ':=s.ρ) hM hk (λk _ e=>.inr (e ▸ hgr)) (λ_ _=>rfl) (λk hk1 hk2=>by have:=H.lt k hk2;omega) ⟨⟨?_,h.own,?_,?_,h.small,?_,λ_ _=>⟨g,harr⟩⟩,hx.blk,hx.row⟩ ⟨rfl,rfl,rfl⟩⟩
 ·rw[yC hblk,List.getElem?_toArray,<-hPl,List.append_assoc,List.getElem?_append_right (by omega)]
  simp
 ·rw[hk.block _ h.lt (λe=>hgb e.symm),h.blk]
  unfold NO.cells;simp only
  rw[he];simp
 ·have hb1:BE (λk=>s.ρ k≠0) (w.setCell ⟨g,A.length*2+1,none⟩ v) (P++([kv,v]++Q)) (A++([⟨e.key,val⟩]++B)):=by
   have f:∀k,k<w.heap.size->k=g->s.ρ k≠0:=λk _ e=>by rw[e,hgr];omega
   have g1:BE (λk=>s.ρ k≠0) w [kv,v] [⟨e.key,val⟩]:=⟨hpD.1,hv,trivial⟩
   exact (hpA.app (g1.app hpQ)).kept hk f (λ_ _ h=>h)
  have hr1:OT (λk=>s.ρ k≠0) (w.setCell ⟨g,A.length*2+1,none⟩ v) g [] (P++([kv,v]++Q)) R (A++([⟨e.key,val⟩]++B)):=⟨by rw[hnew];simp,by rw[hgr];omega,hb1⟩
  show E5 _ _ x.arr _;rw[harr];exact hr1.ents
 ·have h1:=h.cap;rw[he]at h1;simpa using h1
 ·have h1:=h.short;rw[he]at h1;refine⟨by simpa using h1.1,λy hy=>?_⟩
  have hy:y ∈ A++⟨e.key,val⟩::B:=hy;simp only[List.mem_append,List.mem_cons]at hy;rcases hy with hy|rfl|hy
  ·exact h1.2 y (by simp[hy])
  ·exact⟨(h1.2 e (by simp)).1,hl⟩
  ·exact h1.2 y (by simp[hy])
end
theorem GW:∀{L:Nat} {t:Tr L},CJ t->t.flat≠[]
 | 0,_,h=>h.2.1
 | L+1,t,h=>by
  have hne:=EU.1 h.2.1;have ht:=(AL.1 h.1).1;cases hk:t.ks with
  | nil=>exact absurd hk hne
  | cons a r =>
   rw[B6,hk,BH];have:=GW (ht.2 a (by rw[hk];simp))
   simp[this]
def IT {α:Type}(left:Bool)(l:List α):Option α:=if left then l.head? else l.getLast?
theorem QC {α:Type}(l:List α):IT true l=l.head?:=rfl
theorem KO {α:Type}(l:List α):IT false l=l.getLast?:=rfl
def QD (left:Bool)(n:Nat):Nat:=if left then 0 else n-1
theorem AJ2 {α:Type}(left:Bool)(l:List α):l[QD left l.length]? = IT left l:=by
 cases left with
 | true=>unfold IT QD;cases l <;> rfl
 | false=>unfold IT QD;rw[if_neg (by simp),if_neg (by simp),List.getLast?_eq_getElem?]
theorem AA8 {α:Type}(left:Bool){l:List α}(h:l≠[]):∃a,IT left l=some a:=by
 cases left with
 | true=>exact⟨l.head h,by rw[QC,List.head?_eq_some_head h]⟩
 | false=>exact⟨l.getLast h,by rw[KO,List.getLast?_eq_some_getLast h]⟩
theorem S9 {α:Type}{A B:List α}(h:A≠[]):IT true (A++B)=IT true A:=by
 rw[QC,QC];cases A with
 | nil=>exact absurd rfl h
 | cons a A=>rfl
theorem S8 {α:Type}{A B:List α}(h:B≠[]):IT false (A++B)=IT false B:=by
 rw[KO,KO,List.getLast?_append,List.getLast?_eq_some_getLast h];rfl
theorem BQ7 {L:Nat}{t:Tr (L+1)}(h:CJ t)(left:Bool):∃k,IT left t.ks=some k/\k ∈ t.ks/\t.ens[QD left t.ens.length]? = some (kEn k)/\IT left t.flat=IT left k.2.flat/\CJ k.2:=by
 have hne:=EU.1 h.2.1;have ht:=(AL.1 h.1).1;obtain⟨k,hk⟩:=AA8 left hne;have hm:k ∈ t.ks:=by rw[<-AJ2 left]at hk;exact List.mem_of_getElem? hk
 refine⟨k,hk,hm,?_,?_,ht.2 k hm⟩
 ·rw[AZ,List.length_map,List.getElem?_map,AJ2 left,hk];rfl
 ·rw[B6];have hf:=GW (ht.2 k hm);cases left with
  | true =>
   cases hks:t.ks with
   | nil=>exact absurd hks hne
   | cons a r =>
    rw[hks]at hk;cases hk;rw[BH,S9 hf]
  | false =>
   obtain⟨r,a,hra⟩:∃r a,t.ks=r++[a]:=by
    rcases List.eq_nil_or_concat t.ks with e|⟨r,a,e⟩
    ·exact absurd e hne
    ·exact⟨r,a,by rw[e,List.concat_eq_append]⟩
   rw[hra,KO,List.getLast?_append]at hk;have hka:a=k:=by simpa using hk
   subst hka;rw[hra,DH,BH,ET,List.append_nil,S8 hf]
def Zip.nx (right:Bool){l:Nat}(z:Zip l):Option En:=if right then z.fr.head? else z.fl.getLast?
def AN8 {l:Nat}(right:Bool)(A B:List (Kid l)):Option (Kid l):=if right then B.head? else A.getLast?
theorem CB5 {l:Nat}{right:Bool}{p:Nat}{A:List (Kid l)}{k:List UInt8}{B:List (Kid l)}{z:Zip (l+1)}(hl:∀x ∈ A,CJ x.2)(hr:∀x ∈ B,CJ x.2) :
  (AN8 right A B=none/\Zip.nx right (.up p A k B z)=z.nx right)\/∃y,AN8 right A B=some y/\CJ y.2/\(y ∈ A\/y ∈ B)/\Zip.nx right (.up p A k B z)=IT right y.2.flat:=by
 cases right with
 | true =>
  cases B with
  | nil=>exact .inl ⟨rfl,rfl⟩
  | cons b B =>
   have hb:=hr b (by simp)
   refine .inr ⟨b,rfl,hb,.inr (by simp),?_⟩
   show (flK (b::B)++z.fr).head? = _;rw[BH,List.append_assoc];exact S9 (GW hb)
 | false =>
  rcases List.eq_nil_or_concat A with rfl|⟨A',a,rfl⟩
  ·refine .inl ⟨rfl,?_⟩;show (z.fl++flK []).getLast? = _;rw[ET,List.append_nil];rfl
  ·rw[List.concat_eq_append]at hl ⊢
   have ha:=hl a (by simp)
   refine .inr ⟨a,by show (A'++[a]).getLast? = _;simp,ha,.inl (by simp),?_⟩
   show (z.fl++flK (A'++[a])).getLast? = _;rw[DH,BH,ET,List.append_nil,<-List.append_assoc];exact S8 (GW ha)
theorem BP6 {l:Nat}(right:Bool)(A:List (Kid l))(e:En)(B:List (Kid l)) :
  (AN8 right A B=none->if right then A.length+1=(A.map kEn++(e::B.map kEn)).length else A.length=0) /\
  ∀y,AN8 right A B=some y->(if right then True else 1<=A.length)/\(A.map kEn++(e::B.map kEn))[if right then A.length+1 else A.length-1]? = some (kEn y):=by
 cases right with
 | true =>
  refine⟨λh=>?_,λy h=>⟨trivial,?_⟩⟩
  ·cases B with
   | nil=>simp
   | cons b B=>cases h
  ·cases B with
   | nil=>cases h
   | cons b B =>
    cases h;rw[if_pos rfl,List.getElem?_append_right (by simp)]
    simp
 | false =>
  refine⟨λh=>?_,λy h=>?_⟩
  ·have h:A.getLast? = none:=h;rw[List.getLast?_eq_none_iff]at h;rw[h];simp
  ·have h:A.getLast? = some y:=h;rw[List.getLast?_eq_getElem?]at h;have hl:=(List.getElem?_eq_some_iff.1 h).1;refine⟨by simp;omega,?_⟩
   rw[if_neg (by simp),List.getElem?_append_left (by simp;omega),List.getElem?_map,h];rfl
theorem AR3 {L:Nat}{t:Tr L}(hr:MF t)(ho:Ord t [] none)(key:List UInt8):Was (.top L) t t.flat t.pages key:=by
 refine⟨trivial,⟨hr.1.1,hr.1.2.2.1⟩,trivial,⟨[],none,⟨rfl,rfl⟩,ho,⟨AJ3 _,λy hy=>by cases hy⟩⟩,?_,?_,λe he=>?_,λe he=>?_⟩
 ·simp[Zip.fl,Zip.fr]
 ·simp[Zip.pg]
 ·cases he
 ·cases he
def ED (key:List UInt8)(l:List En):Option En:=l[AP key l]?
def EC (key:List UInt8)(l:List En):Option En:=if AP key l=0 then none else l[AP key l-1]?
theorem Was.near {z:Zip 0}{c:Tr 0}{F:List En}{P:List Nat}{key:List UInt8}(h:Was z c F P key) :
  AP key F=z.fl.length+AP key c.es /\
  ED key F=(if AP key c.es<c.es.length then c.es[AP key c.es]? else z.nx true) /\
  EC key F=(if AP key c.es=0 then z.nx false else c.es[AP key c.es-1]?) /\
  (A6 key c.es=true ↔ BH6 key F):=by
 obtain⟨lo,hi,hz,ho,hin⟩:=h.ord;have hs:=ho.2.1;obtain⟨p1,p2,p3⟩:=OZ hs key;have hle:=EG key c.es;have hF:F=(z.fl++c.es.take (AP key c.es))++(c.es.drop (AP key c.es)++z.fr):=by
  rw[<-h.flat,List.append_assoc,<-List.append_assoc (c.es.take _),<-p1];rfl
 have hc:AP key F=z.fl.length+AP key c.es:=by
  rw[hF,AE3]
  ·rw[List.length_append,List.length_take];omega
  ·intro a ha;rcases List.mem_append.1 ha with ha|ha
   ·exact h.low a ha
   ·exact p2 a ha
  ·intro b hb;have hb:b ∈ c.es.drop (AP key c.es)++z.fr:=List.mem_of_mem_head? hb;rcases List.mem_append.1 hb with hb|hb
   ·exact p3 b hb
   ·exact JY (h.high b hb)
 have hF2:F=z.fl++(c.es++z.fr):=h.flat.symm;refine⟨hc,?_,?_,?_⟩
 ·unfold ED;rw[hc,hF2,List.getElem?_append_right (by omega),Nat.add_sub_cancel_left]
  by_cases hlt:AP key c.es<c.es.length
  ·rw[if_pos hlt,List.getElem?_append_left hlt]
  ·rw[if_neg hlt,List.getElem?_append_right (by omega),show AP key c.es-c.es.length=0 by omega,<-List.head?_eq_getElem?];rfl
 ·unfold EC;rw[hc];by_cases h0:AP key c.es=0
  ·rw[if_pos h0,h0,Nat.add_zero];show _=z.fl.getLast?;by_cases hz0:z.fl.length=0
   ·rw[if_pos hz0,List.length_eq_zero_iff.1 hz0];rfl
   ·rw[if_neg hz0,hF2,List.getElem?_append_left (by omega),List.getLast?_eq_getElem?]
  ·rw[if_neg h0,if_neg (by omega),hF2,List.getElem?_append_right (by omega),List.getElem?_append_left (by omega)]
   congr 1;omega
 ·rw[G9 hs,hF2,<-List.append_assoc];exact (BH5 h.low h.high).symm
structure AY (h:Hd)(G:Nat->List UInt8)(top:Nat)(F:List En)(ps:List Nat):Prop where
 nodup:ps.Nodup
 is:(F=[]/\top=0/\ps=[])\/∃(m:Nat) (t:Tr m),MF t/\Ord t [] none/\t.flat=F/\t.page=top/\t.pages=ps/\Rep (FF h G) t
structure Oth (h:Hd)(G:Nat->List UInt8)(r:Nat)(ps:List Nat)(h':Hd)(G':Nat->List UInt8)(ps':List Nat):Prop where
 has:∀q,h'.has q ↔ (h.has q/\q ∉ ps)\/q ∈ ps'
 G:∀q,h.has q->q ∉ ps->G' q=G q
 root:∀j,j≠r->h'.root j=h.root j
 new:∀q ∈ ps',q ∈ ps\/¬h.has q
section
variable {h h':Hd} {G G':Nat->List UInt8} {top r:Nat} {F:List En} {ps ps':List Nat}
theorem AY.has (x:AY h G top F ps):∀q ∈ ps,h.has q:=by
 intro q hq;rcases x.is with⟨_,_,rfl⟩|⟨m,t,_,_,_,_,rfl,hr⟩
 ·cases hq
 ·obtain⟨l,es,h1,_⟩:=V5 hr q hq;exact h1
theorem AY.srt (x:AY h G top F ps):Srt F:=by
 rcases x.is with⟨rfl,_⟩|⟨m,t,_,ho,rfl,_⟩
 ·trivial
 ·exact ho.flat.1
theorem AY.few (x:AY h G top F ps):ps.length<=2*F.length:=by
 rcases x.is with⟨rfl,_,rfl⟩|⟨m,t,hr,_,rfl,_,rfl,_⟩
 ·exact Nat.le_refl _
 ·exact hr.np
theorem T1:∀{L:Nat} {t:Tr L},FS t->∀e ∈ t.flat,okL e
 | 0,_,h=>h
 | L+1,t,h=>λe he=>by
  obtain⟨k,hk,he⟩:=List.mem_flatMap.1 (show e ∈ t.ks.flatMap λk=>k.2.flat from he)
  exact T1 ((AL.1 h).1.2 k hk).1 e he
theorem AY.okL (x:AY h G top F ps):∀e ∈ F,okL e:=by
 rcases x.is with⟨rfl,_⟩|⟨m,t,hr,_,rfl,_⟩
 ·intro e he;cases he
 ·exact T1 hr.1.1
theorem AY.none_ (h:Hd)(G:Nat->List UInt8):AY h G 0 [] []:=⟨List.nodup_nil,.inl ⟨rfl,rfl,rfl⟩⟩
theorem Oth.refl (h:Hd)(G:Nat->List UInt8)(r:Nat){ps:List Nat}(hp:∀q ∈ ps,h.has q):Oth h G r ps h G ps :=
 ⟨λq=>⟨λhq=>by by_cases hm:q ∈ ps;exact .inr hm;exact .inl ⟨hq,hm⟩,λhq=>hq.elim (·.1) (hp q)⟩,λ_ _ _=>rfl,λ_ _=>rfl,λq hq=>.inl hq⟩
theorem Oth.only (o:Oth h G r ps h' G' ps'){U:List Nat}(hU:∀q,h.has q->q ∈ ps\/q ∈ U):∀q,h'.has q->q ∈ ps'\/q ∈ U:=λq hq=>by
 rcases (o.has q).1 hq with⟨h1,h2⟩|h1
 ·exact .inr ((hU q h1).resolve_left h2)
 ·exact .inl h1
end
section
variable {K:Kc} {s0:Hst} {F:List En} {ps:List Nat} {e:Ending} {w':World}
def CN (J:List AD->Prop)(B:Nat)(S:Nat->Prop)(c:Ac)(h:Hd)(G:Nat->List UInt8)(tb r:Nat)(ps:List Nat)(F':List En)(w w':World):Prop :=
 ∃(h':Hd) (G':Nat->List UInt8) (S':Nat->Prop) (ps':List Nat),AU J B S' c h' G' w'/\AO S w S' w'/\AH w' tb c.a r/\AY h' G' (h'.root r) F' ps'/\Oth h G r ps h' G' ps'
theorem R5 {r:Nat}(hr16:r<16)(hK:K.r=r)(h0:¬s0.h.has 0)(hs:RB K s0 F (0::ps) e w'):e=.returned (.int .i64 0)/\CN K.J K.B K.S0 K.c s0.h s0.G K.tb r ps F K.w0 w':=by
 obtain⟨rfl,top,ps',h',G',S',hl,hA,hT,ht⟩:=hs;subst hK;have hnr:h'.roots.length=16:=by
  have:=hA.ok.nr
  simpa [Hd.setRoot] using this
 have hroot:∀j,(h'.setRoot K.r top).root j=if j=K.r then top else h'.root j:=λj=>by
  unfold Hd.root Hd.setRoot;simp only[List.getD_eq_getElem?_getD,List.getElem?_set];by_cases hj:j=K.r
  ·subst hj;rw[if_pos rfl,if_pos rfl,if_pos (by omega)];rfl
  ·rw[if_neg (Ne.symm hj),if_neg hj]
 refine⟨rfl,h'.setRoot K.r top,G',S',ps',hA,hT,ht,⟨hl.nodup,?_⟩,⟨λq=>?_,λq h1 h2=>hl.other q h1 λh3=>?_,λj hj=>?_,λq hq=>?_⟩⟩
 ·rw[hroot,if_pos rfl];exact hl.tree
 ·refine (hl.has q).trans ?_;constructor
  ·rintro (⟨h1,h2⟩ | h1)
   ·exact .inl ⟨h1,λh3=>h2 (List.mem_cons_of_mem _ h3)⟩
   ·exact .inr h1
  ·rintro (⟨h1,h2⟩ | h1)
   ·refine .inl ⟨h1,λh3=>?_⟩
    rcases List.mem_cons.1 h3 with e|h3
    ·exact h0 (e ▸ h1)
    ·exact h2 h3
   ·exact .inr h1
 ·rcases List.mem_cons.1 h3 with e|h3
  ·exact h0 (e ▸ h1)
  ·exact h2 h3
 ·rw[hroot,if_neg hj];unfold Hd.root;rw[hl.roots]
 ·rcases hl.new q hq with h1|h1
  ·rcases List.mem_cons.1 h1 with e|h1
   ·exact .inr (e ▸ h0)
   ·exact .inl h1
  ·exact .inr h1
end
theorem BB2:(Tryz.prog.info? 84).map (·.size)=some 3:=by kernel_rfl
def BN4 (v:Value)(w:World):Prop:=Calls Tryz.prog 73 #[v] w λe w'=>e=.returned (.tuple #[.int .i64 0,.int .i64 1])/\w'=w
section
variable {J:List AD->Prop} {B:Nat} {S:Nat->Prop} {c:Ac} {h:Hd} {G:Nat->List UInt8} {w:World} {tb r:Nat} {key:List UInt8} {KA:Option Addr} {kn kc:Nat}
theorem F9 (x:AU J B S c h G w)(ht:AH w tb c.a r)(hr:r<16) :
  Calls Tryz.prog 73 #[.pointer (some ⟨tb,0,none⟩)] w λe w'=>e=.returned (.tuple #[.int .i64 (h.root r),.int .i64 0])/\∃k,w'=w.drewN k:=by
 have HRT:Hid (∀k,Calls Tryz.prog 15 #[.pointer (some ⟨c.a,0,none⟩),.int .i64 r] (w.drewN k) λe w'=>e=.returned (.tuple #[.int .i64 (h.root r),.int .i64 0])/\w'=w.drewN k):=yH λk=>BB9 (x.below (AF w k)) r hr
 have c0:=ht.c0;have c1:=ht.c1;have c2:=ht.c2;obtain⟨rt,hrt⟩:∃rt,rt=h.root r:=⟨_,rfl⟩;rw[<-hrt]at HRT ⊢
 clear x ht hrt;obtain⟨j,hj,_⟩:=Option.map_eq_some_iff.1 BB2;have hq:=Lib.run_neq_ptr_same (P:=Tryz.prog) w (tp:=71) (te:=84) ⟨tb,0,none⟩ Tryz.underlying71 hj;go_enter Tryz.func73,Tryz.ntmps73;go_wp2;go_quiet ((go_at_call 15;exact Calls.quiet_of_same (HRT.out _)))
 go_wp2;go_ret2;exact⟨rfl,_,rfl⟩
theorem KQ (x:AU J B S c h G w)(ht:AH w tb c.a r) :
  Calls Tryz.prog 75 #[.pointer (some ⟨tb,0,none⟩),.int .i64 0] w λe w'=>e=.returned (.pointer (some ⟨w.heap.size,0,none⟩))/\w'=w.alloc (.cells (BA w.heap.size 0).cells 138):=by
 have HRD:=yH (AA0 x 0 (by omega))
 have c1:=ht.c1;clear x ht;have HE:Hid (World.alloc w (.cells (BA w.heap.size 0).cells 138)=w.alloc (.cells #[.int .i64 0,.int .i64 0,.slice none 0 0,.string ⟨#[]⟩,.int .i64 0] 138)):=yH rfl;rw[HE.out];go_enter Tryz.func75,Tryz.ntmps75;go_wp2_with fail;refine HRD.out.mono ?_;rintro e w1 ⟨rfl,hw⟩;subst w1;go_wp2;go_ret;exact⟨rfl,rfl⟩
theorem OU (w:World)(l:Nat)(hl:l<=1000)(X:Nat->Prop)(hX:X w.heap.size):AM X (w.alloc (.cells (BA w.heap.size l).cells 138)) (BA w.heap.size l) :=
 ⟨heap_alloc_new w _,hX,.inl rfl,⟨Nat.le_refl _,Nat.zero_le _⟩,⟨by show 0<4096;omega,hl,by show 0<=1000000;omega⟩,⟨by simp[BA],λe he=>by cases he⟩,λ_ h=>absurd rfl h⟩
theorem Y6 (x:AU J B S c h G w)(hw:AH w tb c.a r)(hkn:key.length=kn)(hK:AK w KA key) :
  Calls Tryz.prog 76 #[.pointer (some ⟨tb,0,none⟩),.int .i64 0,.slice KA kn kc] w (XV J B S c h G w (λb sts=>b=false/\sts=[(BA w.heap.size 0,0)]) 1):=by
 have HLD:=yH (KQ x hw);obtain⟨W,hW⟩:∃W,W=w.alloc (.cells (BA w.heap.size 0).cells 138):=⟨_,rfl⟩;have hb:Below w.heap.size w W:=by rw[hW];exact (Below.refl _ _).alloc (Nat.le_refl _) _
 have hsz:W.heap.size=w.heap.size+1:=by rw[hW];simp
 have hnd:AM (λk=>S k\/k=w.heap.size) W (BA w.heap.size 0):=by rw[hW];exact OU w 0 (by omega) _ (.inr rfl)
 rw[<-hW]at HLD;have HFD:Hid (Calls Tryz.prog 117 #[.pointer (some ⟨w.heap.size,0,none⟩),.slice KA kn kc] W λe w'=>e=.returned (.tuple #[.int .i64 0,.bool false])/\Below W.heap.size W w'):=yH (QV _ (BA w.heap.size 0) KA key kn kc W hnd hkn (hK.below hb) trivial)
 have HAP:Hid (∀w1,Below W.heap.size W w1->∃a' c' w2,(Builtin.append_ #[129,129] 129 #[.slice none 0 0,.slice (some ⟨w1.heap.size,0,none⟩) 1 1]).run Tryz.prog (w1.alloc (.cells #[.pointer (some ⟨w.heap.size,0,none⟩),.int .i64 0] 133))=.ok (.slice a' 1 c') w2/\Hid (XV J B S c h G w (λb sts=>b=false/\sts=[(BA w.heap.size 0,0)]) 1 (.returned (.tuple #[.slice a' 1 c',.bool false])) w2)):=yH λw1 hb1=>by
  obtain⟨wa,hwa⟩:∃wa,wa=w1.alloc (.cells #[.pointer (some ⟨w.heap.size,0,none⟩),.int .i64 0] 133):=⟨_,rfl⟩;have hba:Below W.heap.size W wa:=by rw[hwa];exact AE hb1 ((Below.refl _ _).alloc (Nat.le_refl _) _)
  have hnew:wa.heap[w1.heap.size]? = some (.cells #[.pointer (some ⟨w.heap.size,0,none⟩),.int .i64 0] 133 (0,0)):=by rw[hwa];exact heap_alloc_new w1 _
  obtain⟨a',c',w2,hrun,hs2,hg⟩:=J7 wa none 0 0 [] (BA w.heap.size 0,0) ⟨w1.heap.size,0,none⟩ 1 rfl ⟨rfl,.inl ⟨rfl,rfl⟩⟩ (λj u hu=>by
   rw[A3,Nat.zero_add,yC hnew,<-hu];exact List.getElem?_toArray) (by omega) 129
  rw[<-hwa];have hz:=hba.size;have hkg:AC (λ_=>False) wa w2:=AC.ofGrown hg.1 (λk e=>by simp[Value.ownBlock]at e)
  have hbg:Below wa.heap.size wa w2:=hkg.toBelow (Nat.le_refl _) (λi h=>h.elim)
  have hb2:Below w.heap.size w w2:=(hb.trans (hba.mono (by omega))).trans (hbg.mono (by omega))
  have hrow:∀k,(Value.slice a' 1 c').ownBlock=some k->wa.heap.size<=k:=λk hk=>(hg.2 k hk).elim (λe=>by simp[Value.ownBlock]at e) id
  have hlow:=x.low;refine⟨a',c',w2,hrun,yH ⟨[(BA w.heap.size 0,0)],a',c',false,S,λk=>(S k\/k=w.heap.size)\/(Value.slice a' 1 c').ownBlock=some k,rfl,⟨rfl,rfl⟩,⟨λy hy=>?_,λk hk=>.inl (.inl hk),λk hk=>?_,List.pairwise_singleton _ _⟩,hs2,x.below hb2,AO.ofBelow hb2,λk hk=>?_,λk hk=>⟨by have:=hrow k hk;omega,.inr hk,λhs=>by have:=(hlow k hs).2;have:=hrow k hk;omega,λy hy=>?_⟩,λy hy=>?_⟩⟩
  ·rw[List.map_singleton,List.mem_singleton]at hy;subst hy;have hb3:Below W.heap.size W w2:=hba.trans (hbg.mono hz);refine⟨(hnd.kept (T:=λ_=>False) (X':=λk=>(S k\/k=w.heap.size)\/(Value.slice a' 1 c').ownBlock=some k) (AC.ofBelow hb3) (λ_ _ h=>h.elim) (λk hk hx=>hx.elim id λe=>by have:=hrow k e;omega) (λk hk=>.inl hk) id (λ_ _ _ h=>h)),λhs=>?_,λhs=>?_,.inl (.inr rfl)⟩
   ·have:=(hlow _ hs).2
    simp only[BA]at this;omega
   ·have:=(hlow _ hs).2
    simp only[BA,NO.ab]at this;omega
  ·have h2:=hb2.size;rcases hk with (hk|hk)|hk
   ·have:=(hlow k hk).2;omega
   ·have:=hbg.size;omega
   ·exact JV hs2 k hk
  ·rcases hk with (hk|hk)|hk
   ·exact .inl hk
   ·exact .inr (by omega)
   ·exact .inr (by have:=hrow k hk;omega)
  ·rw[List.map_singleton,List.mem_singleton]at hy;subst hy;have:=hrow k hk
   exact⟨by show w.heap.size≠k;omega,by show w.heap.size≠k;omega⟩
  ·rw[List.map_singleton,List.mem_singleton]at hy;subst hy;exact⟨Nat.le_refl _,Nat.le_refl _⟩
 have c1:W.cell? ⟨w.heap.size,1,none⟩=some (.int .i64 0):=hnd.c1;clear x hw hkn hK hW hb hsz hnd;go_enter Tryz.func76,Tryz.ntmps76;go_wp2_with fail;refine HLD.out.mono ?_;rintro e w1 ⟨rfl,hw1⟩;subst w1;go_wp2;go_loopw [8,9] (λv p wr=>v=.slice none 0 0/\p=.pointer (some ⟨w.heap.size,0,none⟩)/\W=wr) (λ_ _ _=>0)
 case atStart=>exact⟨rfl,rfl,rfl⟩
 case round =>
  obtain⟨rfl,rfl,hwr⟩:=hrel;subst hwr;go_wp2_with fail;refine HFD.out.mono ?_;rintro e w2 ⟨rfl,hb2⟩;obtain⟨a',c',w3,hrun,hpo⟩:=HAP.out w2 hb2;go_wp2_with (at_builtin;refine Lib.wpList_append_run _ rfl _ _ 129 129 rfl _ _ rfl rfl _ _ hrun ?_)
  go_ret2;exact hpo.out
end
section
variable {J:List AD->Prop} {B:Nat} {S:Nat->Prop} {c:Ac} {h:Hd} {G:Nat->List UInt8} {w w1:World} {tb r:Nat}
def NY (b l eb q:Nat):NO:=⟨b,0,l,[⟨[],pgV q⟩],some ⟨eb,0,none⟩,1,[],0,true⟩
theorem Q3 (W:World)(sb ab:Nat)(above:NO)(n cv gw:Nat)(sts:List (NO × Nat))(hab:above.blk=ab)(hsb:W.heap[sb]? = some (.cells #[.pointer (some ⟨ab,0,none⟩),.int .i64 0] 133 (0,0)))(hs:BL W (.slice (some ⟨gw,0,none⟩) n cv) sts)(hn:n<=1000)(ty:TypeId) :
  ∃g c' W2,(Builtin.append_ #[129,129] ty #[.slice (some ⟨sb,0,none⟩) 1 1,.slice (some ⟨gw,0,none⟩) n cv]).run Tryz.prog W=.ok (.slice (some ⟨g,0,none⟩) (n+1) c') W2/\BL W2 (.slice (some ⟨g,0,none⟩) (n+1) c') ((above,0)::sts)/\AC (λk=>k=sb) W W2/\(g=sb\/W.heap.size<=g)/\g<W2.heap.size:=by
 obtain⟨i0,hi,q0,q1,q2⟩:=info_parts AC6;have hlen:sts.length=n:=by
  have h1:=hs.2;rcases h1 with⟨h2,h3⟩|⟨g,cap,cur,h2,_⟩
  ·cases h2
  ·injection h2 with _ h2 _;exact h2.symm
 have h0:BL W (.slice (some ⟨sb,0,none⟩) 1 1) [(above,0)]:=by
  refine⟨rfl,.inr ⟨sb,1,_,rfl,by omega,hsb,by simp,by unfold maxLen;omega,rfl,?_⟩⟩
  show List.take _ [_,_]=_;simp[stC,NO.ptr,hab]
 have hcell:∀j u,(sts.flatMap stC)[j]? = some u->W.cell? ((⟨gw,0,none⟩:Addr).add j)=some u:=λj u hu=>World.ownsRow.cells (w:=W) hs (g:=gw) rfl j u hu
 obtain⟨v',w',hr,h1,h2⟩:=DZ W 129 ty 133 i0 (.agg #[.pointer none,.int .i64 0]) 2 16 Tryz.underlying129 hi q0 q1 q2 rfl (by decide) _ 1 _ h0 ⟨gw,0,none⟩ n cv (sts.flatMap stC) (by rw[BW5,hlen]) hcell (λu hu=>by
  obtain⟨s,_,hu⟩:=List.mem_flatMap.1 hu;simp only[stC,List.mem_cons,List.not_mem_nil,or_false]at hu;rcases hu with rfl|rfl <;> rfl) (by unfold maxLen;omega) (by omega) (by omega)
 rw[Nat.add_comm 1 n]at h1;have hs2:BL w' v' ((above,0)::sts):=by
  unfold BL;rw[List.length_cons,hlen,List.flatMap_cons];simpa using h1
 obtain⟨g,c',hv⟩:∃g c',v'=.slice (some ⟨g,0,none⟩) (n+1) c':=by
  rcases h1.2 with⟨rfl,h3⟩|⟨g,cap,cur,rfl,_⟩
  ·omega
  ·exact⟨g,cap,rfl⟩
 subst hv;refine⟨g,c',w',hr,hs2,AC.ofGrown h2.1 (λk e=>by simp only[Value.ownBlock,Option.some.injEq]at e;exact e.symm),?_,JV hs2 g rfl⟩
 rcases h2.2 g rfl with e|e
 ·simp only[Value.ownBlock,Option.some.injEq]at e;exact .inl e.symm
 ·exact .inr e
theorem M7 {ix:NO->Nat}{sts:List (NO × Nat)}{S' X':Nat->Prop}{n:Nat}
  (hpos:1<=w.heap.size) (ht:AH w tb c.a r) (htS:¬S tb)
  (hN:DV X' S' w1 (sts.map (·.1))) (hA:AU J B S' c h G w1) (hT:AO S w S' w1) (hfr:∀x ∈ sts.map (·.1),w.heap.size<=x.blk/\w.heap.size<=x.ab)
  (hsole:∀st ∈ sts,st.1.sole=true/\(st.1.arr≠none->st.1.ens≠[]))
  {above:NO} (hix:ix above=0) (hl:above.blk=w1.heap.size/\above.page=0/\above.sole=true/\(above.arr≠none->above.ab≠above.blk)/\(above.ab=w1.heap.size\/w1.heap.size+4<=above.ab))
  {W9:World} (hb9:Below w1.heap.size w1 W9) {mb sb g c' cb:Nat} (hmb:mb=w1.heap.size+1) (hsb:sb=w1.heap.size+2) (hmap:EB W9 mb 0 λ_=>none) (hst:BL W9 (.slice (some ⟨g,0,none⟩) (n+1) c') ((above,0)::sts)) (hg:g=sb\/w1.heap.size+3<=g) (hgc:g<cb) (hcb3:w1.heap.size+3<=cb)
  (hcb:W9.heap[cb]? = some (.cells #[.pointer (some ⟨tb,0,none⟩),.map (some mb),.slice (some ⟨g,0,none⟩) (n+1) c',.slice none 0 0,.slice none 0 0] 186 (0,0)))
  (habl:above.ab<W9.heap.size) (hac:above.ab=w1.heap.size\/cb<above.ab) (hnd:∀X:Nat->Prop,(∀k,X k->(k<cb\/k=cb\/k=above.ab))->X above.blk->X above.ab->AM X W9 above) :
  ∃s:Hst,Hnd ⟨J,B,c,S,w,tb,r,cb,mb,.slice (some ⟨g,0,none⟩) (n+1) c',(above,0)::sts⟩ s W9/\s.h=h/\s.G=G/\s.M=upd (λ_=>none) 0 (some above)/\s.tk=[]/\s.gn=[]/\(∀x ∈ sts.map (·.1),DS s.ρ W9 (ix x) x):=by
 obtain⟨l1,l2,l3,l4,l5⟩:=hl;have hz:=hT.1.size;have hz9:=hb9.size;have hlow:=hA.low;have hcl:cb<W9.heap.size:=(Array.getElem?_eq_some_iff.1 hcb).1;have hN9:=hN.below hb9;have old:∀x ∈ sts.map (·.1),x.blk<w1.heap.size/\x.ab<w1.heap.size/\AM X' w1 x/\¬S' x.blk/\¬S' x.ab/\X' x.blk/\X' x.ab/\x.sole=true/\(x.arr≠none->x.ab≠x.blk):=λx hx=>by
  obtain⟨h1,h2,h3,h4⟩:=hN.at_ x hx;obtain⟨st,hst,rfl⟩:=List.mem_map.1 hx;obtain⟨e1,e2⟩:=hsole st hst;exact⟨h1.lt,hN.lt _ h4,h1,h2,h3,h1.own,h4,e1,λhne=>BV5 h1 (e2 hne)⟩
 refine AV8 (ix:=ix) (X:=λk=>S' k\/k ∈ [cb,mb,g]\/∃x ∈ above::sts.map (·.1),k=x.blk\/k=x.ab) hpos ((ht.kept hT.1 htS).below hb9) ht.lt htS (hA.below hb9) (hT.trans (AO.ofBelow hb9)) hcb hmap hst hix (λx hx=>?_) ?_ (λk hk=>?_) ?_ (λk hk=>hk)
 ·rcases List.mem_cons.1 hx with rfl|hx
  ·refine⟨hnd _ (λk hk=>?_) (.inr (.inr ⟨x,by simp,.inl rfl⟩)) (.inr (.inr ⟨x,by simp,.inr rfl⟩)),λhs=>?_,λhs=>?_,by omega,by omega,habl,l3,l4⟩
   ·rcases hk with hk|hk|⟨y,hy,hk⟩
    ·have:=(hlow k hk).2;omega
    ·simp only[List.mem_cons,List.not_mem_nil,or_false]at hk;omega
    ·rcases List.mem_cons.1 hy with rfl|hy
     ·omega
     ·have:=old y hy;omega
   ·have:=(hlow _ hs).2;omega
   ·have:=(hlow _ hs).2;omega
  ·obtain⟨o1,o2,o3,o4,o5,o6,o7,o8,o9⟩:=old x hx;have h9:AM (λk=>X' k\/w1.heap.size<=k) W9 x:=o3.kept (T:=λ_=>False) (AC.ofBelow hb9) (λ_ _ h=>h.elim) (λk hk hx=>hx.elim id λe=>by omega) (λk hk=>.inl hk) id (λ_ _ _ h=>h)
   refine⟨h9.re (λk hk=>?_) (.inr (.inr ⟨x,by simp[hx],.inl rfl⟩)) (λad ha=>.inr (.inr ⟨x,by simp[hx],.inr (Q7 ha)⟩)),o4,o5,(hfr x hx).1,(hfr x hx).2,by omega,o8,o9⟩
   rcases hk with hk|hk|⟨y,hy,hk⟩
   ·exact .inl (hN.sub k hk)
   ·simp only[List.mem_cons,List.not_mem_nil,or_false]at hk;exact .inr (by omega)
   ·rcases List.mem_cons.1 hy with rfl|hy
    ·exact .inr (by omega)
    ·have o:=old y hy;rcases hk with rfl|rfl
     ·exact .inl o.2.2.2.2.2.1
     ·exact .inl o.2.2.2.2.2.2.1
 ·refine List.pairwise_cons.2 ⟨λy hy=>?_,hN.far⟩
  have o:=old y hy;exact⟨by omega,by omega,by omega,by omega⟩
 ·simp only[List.mem_cons,List.not_mem_nil,or_false]at hk;refine⟨by omega,by omega,λhs=>by have:=(hlow k hs).2;omega,λx hx=>?_⟩
  rcases List.mem_cons.1 hx with rfl|hx
  ·exact⟨by omega,by omega⟩
  ·have o:=old x hx;exact⟨by omega,by omega⟩
 ·simp only[List.nodup_cons,List.mem_cons,List.not_mem_nil,or_false,not_or,not_false_eq_true,List.nodup_nil,and_true];omega
structure ChI (K:Kc)(h:Hd)(G:Nat->List UInt8)(above:NO)(sts:List (NO × Nat))(v:Value)(j:Nat)(s:Hst)(wr:World):Prop where
 H:Hnd K s wr
 hG:s.h=h/\s.G=G/\s.tk=[]/\s.gn=[]
 M:s.M=putM (upd (λ_=>none) 0 (some above)) (sts.take j)
 nodes:∀x ∈ sts.map (·.1),DS s.ρ wr x.page x
 steps:BL wr v sts
theorem ChI.round {K:Kc}{above:NO}{sts:List (NO × Nat)}{gw n cv j:Nat}{s:Hst}{wr:World}(I:ChI K h G above sts (.slice (some ⟨gw,0,none⟩) n cv) j s wr)(hgm:gw≠K.mb){x:NO}{a:Nat}(hj:sts[j]? = some (x,a))(hp:1<=x.page/\x.page<4096/\h.has x.page/\x.was=G x.page)(hnd:(sts.map (·.1.page)).Nodup) :
  wr.cell? ⟨gw,j*2,none⟩=some x.ptr/\wr.cell? ⟨gw,j*2+1,none⟩=some (.int .i64 a)/\∀W,Below wr.heap.size wr W->W.cell? ⟨K.cb,1,none⟩=some (.map (some K.mb))/\W.cell? ⟨x.blk,0,none⟩=some (.int .i64 x.page) /\
   ∃w2,(Instr.mapUpdate 184 (.map (some K.mb)) (.int .i64 x.page) x.ptr).run Tryz.prog W=.ok () w2/\∃s',ChI K h G above sts (.slice (some ⟨gw,0,none⟩) n cv) (j+1) s' w2:=by
 have hm:(x,a) ∈ sts:=List.mem_of_getElem? hj;have hc:∀(l:List (NO × Nat)) (j:Nat),l[j]? = some (x,a)->(l.flatMap stC)[j*2]? = some x.ptr/\(l.flatMap stC)[j*2+1]? = some (.int .i64 a):=by
  intro l;induction l with
  | nil=>intro j hj;cases hj
  | cons y r ih =>
   intro j hj;cases j with
   | zero =>
    simp only[List.getElem?_cons_zero,Option.some.injEq]at hj;subst hj;simp[stC]
   | succ j =>
    have:=ih j (by simpa using hj)
    rw[List.flatMap_cons];have e1:(j+1)*2=(stC y).length+j*2:=by simp[stC];omega
    rw[e1,List.getElem?_append_right (by omega),Nat.add_sub_cancel_left,Nat.add_assoc,List.getElem?_append_right (by omega),Nat.add_sub_cancel_left]
    exact this
 obtain⟨c1,c2⟩:=hc sts j hj;have hcell:∀i u,(sts.flatMap stC)[i]? = some u->wr.cell? ⟨gw,i,none⟩=some u:=λi u hu=>by
  have:=World.ownsRow.cells (w:=wr) I.steps (g:=gw) rfl i u hu
  rw[A3,Nat.zero_add]at this;exact this
 refine⟨hcell _ _ c1,hcell _ _ c2,λW hb=>?_⟩
 have HW:=I.H.below hb;have hxW:DS s.ρ W x.page x:=by
  have hx:=I.nodes x (List.mem_map_of_mem (f:=(·.1)) hm)
  exact hx.go (T:=λ_=>False) (R:=λ_=>False) (AC.ofBelow hb) (λ_ _ h=>h) id (λ_ _=>.inl rfl) I.H.lt ⟨id,id,id⟩
 obtain⟨m,hmp⟩:=HW.map.1;have hMn:s.M x.page=none:=by
  rw[I.M,GB λy hy e=>?_,AA _ _ (by omega)]
  obtain⟨i,hi,hyi⟩:=List.mem_take_iff_getElem.1 hy;have hi2:i<sts.length:=by omega
  have e1:(sts.map (·.1.page))[i]? = (sts.map (·.1.page))[j]?:=by
   rw[List.getElem?_map,List.getElem?_map,hj,List.getElem?_eq_getElem hi2,hyi];show some y.1.page=some x.page;rw[e]
  have:=(List.getElem?_inj (by simpa using hi2) hnd).1 e1
  omega
 obtain⟨w2,hr,hp2,ht⟩:=hmp.put (t:=184) (e:=127) Tryz.underlying184 (by have:=hmp.few;unfold maxLen;omega) x.page hp.2.1 (by rw[IR _ ⟨hp.1,hp.2.1⟩,hMn];rfl) x.ptr
 have hk:AC (λk=>k=K.mb) W w2:=AC.ofTurned ht rfl
 have H2:=HW.putM ⟨hp.1,hp.2.1⟩ hxW ⟨rfl,by rw[I.hG.1];exact hp.2.2.1,.inl (by rw[I.hG.2.1];exact hp.2.2.2)⟩ (by rw[I.hG.2.2.2];simp) hk hp2
 refine⟨HW.cb1,hxW.at_.c0,w2,hr,_,H2,I.hG,?_,λy hy=>?_,?_⟩
 ·show upd s.M x.page (some x)=_;rw[I.M,List.take_add_one,hj,Option.toList_some,AT7]
 ·have hy0:=I.nodes y hy;have hyW:DS s.ρ W y.page y:=hy0.go (T:=λ_=>False) (R:=λ_=>False) (AC.ofBelow hb) (λ_ _ h=>h) id (λ_ _=>.inl rfl) I.H.lt ⟨id,id,id⟩
  exact hyW.go (T:=λk=>k=K.mb) (R:=λr=>r=3) hk (λk _ e=>e ▸ HW.map.2) (by omega) (λ_ _=>.inl rfl) HW.lt ⟨by omega,by omega,by omega⟩
 ·refine AG (AX I.steps hb) λk hk'=>?_
  simp only[Value.ownBlock,Option.some.injEq]at hk';subst hk';have hgl:=JV (AX I.steps hb) gw rfl;exact hk.block _ hgl hgm
end
end Go.Proofs.YtfbbjiidccbaiaaGreatDoor
