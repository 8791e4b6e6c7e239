/- Texts of one proof, one behind the other: TW, TY, UD, UE, UF, UG, UH, TZ. -/
import Derived.Test.YtfbbjiidccbaiaaGreatDoorQAH
import Derived.Test.YtfbbjiidccbaiaaGreatDoorQAI
import Derived.Test.YtfbbjiidccbaiaaGreatDoorQAK
import Derived.RegionTactic
import Derived.BigRegion
import Derived.Test.YtfbbjiidccbaiaaGreatDoorQAJ
import Derived.Test.YtfbbjiidccbaiaaGreatDoorQAA
set_option maxRecDepth 100000
set_option maxHeartbeats 6400000
namespace Go.Proofs.YtfbbjiidccbaiaaGreatDoor
open Go.RowKit
inductive Zip:Nat->Type where
 | top (l:Nat):Zip l
 | up {l:Nat} (p:Nat) (A:List (Kid l)) (k:List UInt8) (B:List (Kid l)) (z:Zip (l+1)):Zip l
def Zip.fl:{l:Nat}->Zip l->List En
 | _,.top _=>[]
 | _,.up _ A _ _ z=>z.fl++flK A
def Zip.fr:{l:Nat}->Zip l->List En
 | _,.top _=>[]
 | _,.up _ _ _ B z=>flK B++z.fr
def Zip.pg:{l:Nat}->Zip l->List Nat
 | _,.top _=>[]
 | _,.up p A _ B z=>pgK A++(pgK B++p::z.pg)
def szU {l:Nat}(A:List (Kid l))(k:List UInt8)(B:List (Kid l)):Nat:=szK A+(4+k.length)+szK B
theorem PV {l:Nat}(A:List (Kid l))(k:List UInt8)(c:Tr l)(B:List (Kid l)):szK (A++(k,c)::B)=szU A k B:=by
 unfold szU;rw[DD,BG];simp only;omega
structure CD0 {l:Nat}(A:List (Kid l))(k:List UInt8)(B:List (Kid l))(had:Nat):Prop where
 keys:∀c:Tr l,FG (A++(k,c)::B)
 left:∀x ∈ A,CJ x.2
 right:∀x ∈ B,CJ x.2
 chl:Chn Far A
 chr:Chn Far B
 hadl:∀A' a,A=A'++[a]->510<a.2.size+had+sep l k
 hadr:∀b B',B=b::B'->510<had+b.2.size+sep l b.1
def Zip.PgOk {l:Nat}(z:Zip l)(p:Nat):Prop:=match z with
 | .top _=>True
 | .up ..=>1<=p/\p<4096
def Zip.Ok:{l:Nat}->Zip l->Nat->Prop
 | _,.top _,_=>True
 | _,.up p A k B z,had=>CD0 A k B had/\szU A k B<=510/\z.PgOk p/\z.Ok (szU A k B)
def Zip.Ords:{l:Nat}->Zip l->List UInt8->Option (List UInt8)->Prop
 | _,.top _,lo,hi=>lo=[]/\hi=none
 | _,.up _ A k B z,lo,hi=>∃lo' hi',z.Ords lo' hi'/\Bd lo' hi'/\D1 lo' A (some k)/\lo=lof lo' A k/\hi=nxt B hi'/\D1 (hdK B) B hi'
def Zip.Reps (P:Nat->Nat->List En->Prop):{l:Nat}->Zip l->Prop
 | _,.top _=>True
 | _,.up _ A _ B z=>(∀x ∈ A,Rep P x.2)/\(∀x ∈ B,Rep P x.2)/\z.Reps P
theorem Zip.Reps.congr {P P':Nat->Nat->List En->Prop}:∀{l:Nat} {z:Zip l},z.Reps P->(∀q ∈ z.pg,∀l es,P q l es->P' q l es)->z.Reps P'
 | _,.top _,_,_=>trivial
 | _,.up p A k B z,h,hF=>by
  refine⟨λx hx=>(h.1 x hx).congr λq hq=>hF q ?_,λx hx=>(h.2.1 x hx).congr λq hq=>hF q ?_,h.2.2.congr λq hq=>hF q ?_⟩
  ·exact List.mem_append.2 (.inl (List.mem_flatMap.2 ⟨x,hx,hq⟩))
  ·exact List.mem_append.2 (.inr (List.mem_append.2 (.inl (List.mem_flatMap.2 ⟨x,hx,hq⟩))))
  ·exact List.mem_append.2 (.inr (List.mem_append.2 (.inr (List.mem_cons_of_mem _ hq))))
structure Mid {l:Nat}(z:Zip l)(c:Tr l)(had:Nat)(F:List En)(P born dead:List Nat):Prop where
 ok:z.Ok had
 hadle:had<=510
 loose:FS c
 page:z.PgOk c.page
 ord:∃lo hi,z.Ords lo hi/\Ord c lo hi
 flat:z.fl++(c.flat++z.fr)=F
 perm:(c.pages++(z.pg++dead)).Perm (P++born)
 none_:c.ens=[]->had<=if l=0 then 130 else 4
 size:c.size<=had+130
theorem Mid.pre {l p:Nat}{A:List (Kid l)}{k:List UInt8}{B:List (Kid l)}{z:Zip (l+1)}{c:Tr l}{had:Nat}{F:List En}{P born dead:List Nat}(h:Mid (.up p A k B z) c had F P born dead):AM8 A k c B had:=by
 obtain⟨ho,_⟩:=h.ok;exact⟨ho.keys c,ho.left,ho.right,⟨h.loose,h.page⟩,ho.chl,ho.chr,ho.hadl,ho.hadr,h.none_⟩
theorem Mid.ordk {l p:Nat}{A:List (Kid l)}{k:List UInt8}{B:List (Kid l)}{z:Zip (l+1)}{c:Tr l}{had:Nat}{F:List En}{P born dead:List Nat}(h:Mid (.up p A k B z) c had F P born dead):∃lo' hi',z.Ords lo' hi'/\Bd lo' hi'/\D1 lo' (A++(k,c)::B) hi':=by
 obtain⟨lo,hi,⟨lo',hi',hz,hbd,hA,rfl,rfl,hB⟩,hc⟩:=h.ord;exact⟨lo',hi',hz,hbd,(CD _ _ _).2 ⟨hA,hc,hB⟩⟩
theorem Mid.fit {l p:Nat}{A:List (Kid l)}{k:List UInt8}{B:List (Kid l)}{z:Zip (l+1)}{c:Tr l}{had:Nat}{F:List En}{P born dead:List Nat}{ks':List (Kid l)}{b d:List Nat}(h:Mid (.up p A k B z) c had F P born dead)(hf:BZ9 A k c B had ks' b d) :
  Mid z (.node p ks') (szU A k B) F P (born++b) (dead++d):=by
 obtain⟨lo',hi',hz,hbd,hok⟩:=h.ordk;have hF:=BY7 h.pre hok hf;obtain⟨ho1,ho2,ho3,ho4⟩:=h.ok;have hs:=hF.same lo' hi' hok;have hsz:=hF.size;rw[PV]at hsz;refine⟨ho4,ho2,AL.2 ⟨hF.tidy,hF.chn⟩,ho3,⟨lo',hi',hz,B9.2 ⟨hbd,hs.2⟩⟩,?_,?_,λhe=>?_,?_⟩
 ·rw[<-h.flat,B6,A5,hs.1,DH,BH];simp[Zip.fl,Zip.fr]
 ·have h1:=h.perm;have h2:=hF.perm;rw[List.perm_iff_count]at h1 h2 ⊢
  intro q;have a1:=h1 q;have a2:=h2 q
  rw[A8,AN]at a2;rw[AQ,A5,FA];simp only[Zip.pg,List.count_append,List.count_cons]at a1 a2 ⊢
  omega
 ·have h0:ks'=[]:=by rw[AZ,A5,List.map_eq_nil_iff]at he;exact he
  have:=hF.none_ h0
  rw[PV]at this;rw[if_neg (by omega)];exact this
 ·rw[BQ,A5];omega
inductive RH:{l m:Nat}->Tr l->Tr m->List Nat->Prop where
 | stay {l:Nat} (t:Tr l) (h:0<l->t.ens.length≠1):RH t t []
 | down {l m:Nat} (t:Tr (l+1)) (a:Kid l) (r:Tr m) (d:List Nat) (ht:t.ks=[a]) (h:RH a.2 r d):RH t r (t.page::d)
structure BU9 {l m:Nat}(t:Tr l)(r:Tr m)(d:List Nat):Prop where
 root:MF r
 flat:r.flat=t.flat
 perm:(r.pages++d).Perm t.pages
 ord:∀lo hi,Ord t lo hi->Ord r lo hi
 level:m<=l
theorem BK4 {l m:Nat}{t:Tr l}{r:Tr m}{d:List Nat}(ht:CJ t)(h:RH t r d):BU9 t r d:=by
 induction h with
 | stay t h =>
  refine⟨⟨ht,λhl=>?_⟩,rfl,by simp,λ_ _ h=>h,Nat.le_refl _⟩
  have h1:=h hl;have h2:=List.length_pos_iff.2 ht.2.1;omega
 | down t a r d hk _ ih =>
  have hl:=(AL.1 ht.1).1;rw[hk]at hl;have:=ih (hl.2 a (by simp))
  refine⟨this.root,?_,?_,λlo hi ho=>?_,by have:=this.level;omega⟩
  ·rw[this.flat,B6,hk,BH,ET,List.append_nil]
  ·have h1:=this.perm;rw[List.perm_iff_count]at h1 ⊢
   intro q;have:=h1 q
   rw[AQ,hk,AN,FI];simp only[List.count_append,List.count_cons,List.count_nil]at this ⊢
   omega
  ·have h1:=(B9.1 ho).2;rw[hk]at h1;exact this.ord lo hi (BF.1 h1).1
structure Was {l:Nat}(z:Zip l)(c:Tr l)(F:List En)(P:List Nat)(key:List UInt8):Prop where
 ok:z.Ok c.size
 tidy:FS c/\c.size<=510
 page:z.PgOk c.page
 ord:∃lo hi,z.Ords lo hi/\Ord c lo hi/\Inn lo hi key
 flat:z.fl++(c.flat++z.fr)=F
 perm:(c.pages++z.pg).Perm P
 low:∀e ∈ z.fl,lt e.key key
 high:∀e ∈ z.fr,lt key e.key
theorem Was.down {l:Nat}{z:Zip (l+1)}{t:Tr (l+1)}{F:List En}{P:List Nat}{key:List UInt8}{A:List (Kid l)}{k:List UInt8}{c:Tr l}{B:List (Kid l)}(h:Was z t F P key)(hks:t.ks=A++(k,c)::B)(hk:le k key)(hB:∀b B',B=b::B'->lt key b.1) :
  Was (.up t.page A k B z) c F P key:=by
 obtain⟨lo,hi,hz,ho,hin⟩:=h.ord;obtain⟨ht,hch⟩:=AL.1 h.tidy.1;have ho2:=(B9.1 ho).2;rw[hks]at ht hch ho2;have hlf:=AV0 ho2 hk hB;have hc:=ht.2 (k,c) (by simp)
 have hm:=(CD _ _ _).1 ho2;have hsz:t.size=szU A k B:=by rw[BQ,hks,PV]
 refine⟨⟨⟨λc'=>?_,λx hx=>ht.2 x (by simp[hx]),λx hx=>ht.2 x (by simp[hx]),hch.left,?_,λA' a hA=>?_,λb B' hb=>?_⟩,?_,h.page,?_⟩,⟨hc.1,hc.2.2.1⟩,hc.2.2.2,⟨lof lo A k,nxt B hi,⟨lo,hi,hz,ho.bd,hm.1,rfl,rfl,hm.2.2⟩,hm.2.1,hlf.2.2 hin⟩,?_,?_,λe he=>?_,λe he=>?_⟩
 ·exact EK (a:=(k,c)) (t:=c') ht.1 (FP ht.1)
 ·exact (Chn.right hch).tail
 ·subst hA;have:Chn Far (A'++a::(k,c)::B):=by simpa using hch
  exact ((Chn.two _ _ _ _).1 this).2.1
 ·subst hb;exact ((Chn.two _ _ _ _).1 hch).2.1
 ·rw[<-hsz];exact h.tidy.2
 ·rw[<-hsz];exact h.ok
 ·rw[<-h.flat,B6,hks,DH,BH];simp[Zip.fl,Zip.fr]
 ·have h1:=h.perm;rw[List.perm_iff_count]at h1 ⊢
  intro q;have a1:=h1 q;rw[AQ,hks,A8,AN]at a1;simp only[Zip.pg,List.count_append,List.count_cons]at a1 ⊢
  omega
 ·rcases List.mem_append.1 he with he|he
  ·exact h.low e he
  ·exact hlf.1 e he
 ·rcases List.mem_append.1 he with he|he
  ·exact hlf.2.1 e he
  ·exact h.high e he
theorem BG9 (k v:List UInt8)(l:List En):szE (CM k v l)<=szE l+(2+k.length+v.length):=by
 induction l with
 | nil=>simp[CM,szE,En.size]
 | cons e r ih =>
  unfold CM;split
  ·simp only[szE];omega
  ·split
   ·rename_i h;subst h;simp only[szE,En.size];omega
   ·simp only[szE,En.size];omega
theorem BS7 (k v:List UInt8)(l:List En):CM k v l≠[]:=by
 cases l with
 | nil=>simp[CM]
 | cons e r =>
  unfold CM;split
  ·simp
  ·split <;> simp
theorem BS6 {k v:List UInt8}{l:List En}(h:∀e ∈ l,okL e)(hk:okL ⟨k,v⟩):∀e ∈ CM k v l,okL e:=λe he=>(QU he).elim (λh'=>h' ▸ hk) (h e)
theorem Was.ins {z:Zip 0}{c:Tr 0}{F:List En}{P:List Nat}{key:List UInt8}(h:Was z c F P key)(v:List UInt8)(hk:okL ⟨key,v⟩) :
  Mid z (.leaf c.page (CM key v c.es)) c.size (CM key v F) P [] []:=by
 obtain⟨lo,hi,hz,ho,hin⟩:=h.ord;refine⟨h.ok,h.tidy.2,BS6 h.tidy.1 hk,h.page,⟨lo,hi,hz,ho.bd,BG8 ho.2.1,λe he=>?_⟩,?_,?_,λhe=>absurd he (BS7 _ _ _),?_⟩
 ·rcases QU he with rfl|he
  ·exact hin
  ·exact ho.2.2 e he
 ·rw[<-h.flat,BH0 h.low,AV5 h.high];rfl
 ·show (c.pages++(z.pg++[])).Perm (P++[]);simpa using h.perm
 ·have:=BG9 key v c.es
  have h2:okL ⟨key,v⟩:=hk;unfold okL at h2;simp only at h2;rw[BR,BR,D6];omega
theorem BK1 (k:List UInt8)(l:List En):szE (DI k l)<=szE l:=by
 induction l with
 | nil=>simp[DI,szE]
 | cons e r ih =>
  unfold DI at ih ⊢
  rw[List.filter_cons];split
  ·simp only[szE];omega
  ·simp only[szE];omega
theorem BK0 {k:List UInt8}{l:List En}(hs:Srt l)(h:DI k l=[]):l.length<=1:=by
 unfold DI at h;rw[List.filter_eq_nil_iff]at h;match l,hs with
 | [],_=>simp
 | [_],_=>simp
 | a::b::r,hs =>
  exfalso
  have h1:=h a (by simp)
  have h2:=h b (by simp)
  simp only[decide_eq_true_eq,ne_eq,Decidable.not_not]at h1 h2;have h3:lt a.key b.key:=hs.1;rw[h1,h2]at h3;exact lt_irrefl _ h3
theorem Was.del {z:Zip 0}{c:Tr 0}{F:List En}{P:List Nat}{key:List UInt8}(h:Was z c F P key) :
  Mid z (.leaf c.page (DI key c.es)) c.size (DI key F) P [] []:=by
 obtain⟨lo,hi,hz,ho,hin⟩:=h.ord;have hsub:∀e ∈ DI key c.es,e ∈ c.es:=λe he=>(List.mem_filter.1 he).1
 refine⟨h.ok,h.tidy.2,λe he=>h.tidy.1 e (hsub e he),h.page,⟨lo,hi,hz,ho.bd,BJ9 ho.2.1,λe he=>ho.2.2 e (hsub e he)⟩,?_,?_,λhe=>?_,?_⟩
 ·have:=AD8 (k:=key) (A:=z.fl) (M:=c.flat) (B:=z.fr) h.low h.high
  rw[<-h.flat,<-List.append_assoc z.fl c.flat z.fr,this,List.append_assoc];rfl
 ·show (c.pages++(z.pg++[])).Perm (P++[]);simpa using h.perm
 ·rw[if_pos rfl];have h1:=BK0 ho.2.1 he;have h2:=VZ (l:=c.es) h.tidy.1;rw[BR];omega
 ·have:=BK1 key c.es
  rw[BR,BR,D6];omega
theorem BR7 (p:Nat)(hp:1<=p/\p<4096)(e:En)(he:okL e):Mid (.up (l:=0) 0 [] [] [] (.top 1)) (.leaf p [e]) 0 [e] [0] [p] []:=by
 have no:∀x:Kid 0,x ∉ ([]:List (Kid 0)):=λx hx=>by cases hx
 have hb0:Bd [] none:=λx hx=>by cases hx
 refine⟨⟨⟨λc=>⟨rfl,λx hx=>absurd hx (no x)⟩,λx hx=>absurd hx (no x),λx hx=>absurd hx (no x),trivial,trivial,λA' a hA=>?_,λb B' hb=>?_⟩,?_,trivial,trivial⟩,by omega,λx hx=>?_,hp,⟨[],none,⟨[],none,⟨rfl,rfl⟩,hb0,trivial,rfl,rfl,trivial⟩,hb0,trivial,λx _=>⟨AJ3 _,λy hy=>?_⟩⟩,?_,?_,λhe=>?_,?_⟩
 ·cases A' <;> cases hA
 ·cases hb
 ·simp[szU,IK]
 ·rw[D6,List.mem_singleton]at hx;exact hx ▸ he
 ·cases hy
 ·simp[Zip.fl,Zip.fr,ET,Tr.flat,BI6]
 ·simp[Zip.pg,FI,Tr.pages,LZ];exact List.Perm.swap _ _ _
 ·cases he
 ·unfold okL at he;rw[BR,D6];simp[szE,En.size];omega
structure AG9 {l:Nat}(ks:List (Kid l))(F:List En)(P born dead:List Nat):Prop where
 tidy:EX ks
 chn:Chn Far ks
 ord:D1 [] ks none
 flat:flK ks=F
 perm:(pgK ks++0::dead).Perm (P++born)
 size:szK ks<=510
theorem Mid.done {l:Nat}{ks:List (Kid l)}{had:Nat}{F:List En}{P born dead:List Nat}(h:Mid (.top (l+1)) (.node 0 ks) had F P born dead)(hh:had<=380):AG9 ks F P born dead:=by
 obtain⟨ht,hc⟩:=AL.1 h.loose;obtain⟨lo,hi,⟨rfl,rfl⟩,ho⟩:=h.ord;refine⟨ht,hc,(B9.1 ho).2,?_,?_,?_⟩
 ·have:=h.flat
  simpa [Zip.fl,Zip.fr,B6] using this
 ·have:=h.perm
  rw[AQ,A5,FA]at this;rw[List.perm_iff_count]at this ⊢
  intro q;have:=this q
  simp only[Zip.pg,List.count_append,List.count_cons,List.count_nil]at this ⊢
  omega
 ·have h1:=h.size;rw[BQ,A5]at h1;omega
theorem AG9.none_ {l:Nat}{F:List En}{P born dead:List Nat}(h:AG9 (l:=l) [] F P born dead):F=[]:=h.flat.symm
theorem AG9.one {l m:Nat}{a:Kid l}{F:List En}{P born dead d:List Nat}(h:AG9 [a] F P born dead){r:Tr m}(hr:RH a.2 r d):MF r/\Ord r [] none/\r.flat=F/\(r.pages++0::(dead++d)).Perm (P++born):=by
 have hc:=BK4 (h.tidy.2 a (by simp)) hr
 refine⟨hc.root,hc.ord _ _ (BF.1 h.ord).1,?_,?_⟩
 ·rw[hc.flat,<-h.flat,BH,ET,List.append_nil]
 ·have h1:=hc.perm;have h2:=h.perm
  rw[List.perm_iff_count]at h1 h2 ⊢
  intro q;have a1:=h1 q;have a2:=h2 q
  rw[AN,FI]at a2;simp only[List.count_append,List.count_cons,List.count_nil]at a1 a2 ⊢
  omega
theorem AG9.more {l:Nat}{ks:List (Kid l)}{F:List En}{P born dead:List Nat}(h:AG9 ks F P born dead)(h2:2<=ks.length)(p:Nat)(hp:1<=p/\p<4096):MF (Tr.node p ks)/\Ord (Tr.node p ks) [] none/\(Tr.node p ks).flat=F/\((Tr.node p ks).pages++0::dead).Perm (P++(born++[p])):=by
 refine⟨⟨⟨AL.2 ⟨h.tidy,h.chn⟩,?_,h.size,hp⟩,λ_=>by rw[AZ,List.length_map];exact h2⟩,B9.2 ⟨(λx hx=>by cases hx),h.ord⟩,h.flat,?_⟩
 ·rw[EU,A5];intro h0;rw[h0]at h2;simp at h2
 ·have h1:=h.perm;rw[List.perm_iff_count]at h1 ⊢
  intro q;have:=h1 q
  rw[AQ,A5,FA];simp only[List.count_append,List.count_cons,List.count_nil]at this ⊢
  omega
structure VS (es:List En)(m:Nat):Prop where
 le:m<=es.length
 low:∀i e,i<m->es[i]? = some e->2*szE (es.take i)+e.size<szE es
 high:∀e,es[m]? = some e->szE es<=2*szE (es.take m)+e.size
theorem IL {es:List En}{i:Nat}{e:En}(h:es[i]? = some e):szE (es.take (i+1))=szE (es.take i)+e.size:=by
 obtain⟨hl,rfl⟩:=List.getElem?_eq_some_iff.1 h;rw[List.take_succ_eq_append_getElem hl,ZI]
theorem BY1 {es:List En}{m:Nat}(h:VS es m)(he:∀e ∈ es,e.size<=130)(h1:510<szE es)(h2:szE es<=640):1<=m/\m<es.length/\szE (es.take m)<=510/\szE (es.drop m)<=510:=by
 have hs:szE (es.take m)+szE (es.drop m)=szE es:=by rw[<-CX,List.take_append_drop]
 have hm:m<es.length:=by
  rcases Nat.lt_or_ge m es.length with hlt|hge
  ·exact hlt
  ·exfalso
   obtain rfl:m=es.length:=Nat.le_antisymm h.le hge;cases hn:es.length with
   | zero=>rw[List.length_eq_zero_iff]at hn;subst hn;simp[szE]at h1
   | succ n =>
    have hg:es[n]? = some es[n]:=List.getElem?_eq_getElem (by omega)
    have a1:=h.low n _ (by omega) hg
    have a2:=IL hg;rw[<-hn,List.take_of_length_le (Nat.le_refl _)]at a2;omega
 have hg:es[m]? = some es[m]:=List.getElem?_eq_getElem hm;have b1:=h.high _ hg;have b2:=he es[m] (List.getElem_mem _);have hp:1<=m:=by
  rcases Nat.eq_zero_or_pos m with e|e
  ·subst e;rw[List.take_zero]at b1;simp only[szE]at b1;omega
  ·exact e
 refine⟨hp,hm,?_,by omega⟩
 have hg1:es[m-1]? = some es[m-1]:=List.getElem?_eq_getElem (by omega)
 have c1:=h.low (m-1) _ (by omega) hg1
 have c2:=he es[m-1] (List.getElem_mem _);have c3:=IL hg1;rw[Nat.sub_add_cancel hp]at c3;omega
def cpl:List UInt8->List UInt8->Nat
 | [],_=>0
 | _::_,[]=>0
 | x::a,y::b=>if x=y then cpl a b+1 else 0
theorem BK6:∀a b:List UInt8,cpl a b<=a.length/\cpl a b<=b.length
 | [],b=>by simp[cpl]
 | _::_,[]=>by simp[cpl]
 | x::a,y::b=>by
  have:=BK6 a b
  unfold cpl;split
  ·simp only[List.length_cons];omega
  ·simp
theorem AE0:∀(a b:List UInt8) (i:Nat),i<cpl a b->a[i]? = b[i]?
 | [],b,i,h=>by simp[cpl]at h
 | _::_,[],i,h=>by simp[cpl]at h
 | x::a,y::b,i,h=>by
  unfold cpl at h;split at h
  ·rename_i hxy
   subst hxy;cases i with
   | zero=>rfl
   | succ i=>simpa using AE0 a b i (by omega)
  ·omega
theorem AE1:∀(a b:List UInt8),cpl a b<a.length->cpl a b<b.length->a[cpl a b]?≠b[cpl a b]?
 | [],b,h,_=>by simp[cpl]at h
 | _::_,[],_,h=>by simp[cpl]at h
 | x::a,y::b,h1,h2=>by
  unfold cpl at h1 h2 ⊢
  split
  ·rename_i hxy
   rw[if_pos hxy]at h1 h2;simp only[List.length_cons,List.getElem?_cons_succ]at h1 h2 ⊢
   exact AE1 a b (by omega) (by omega)
  ·rename_i hxy
   simpa using hxy
def IC (a b:List UInt8):List UInt8:=b.take (cpl a b+1)
theorem AP7:∀(a b:List UInt8),lt a b->lt a (IC a b)/\le (IC a b) b/\0<(IC a b).length
 | _,[],h=>absurd h (FC _)
 | [],y::b,_=>by
  refine⟨rfl,?_,by simp[IC,cpl]⟩
  simp only[IC,cpl,Nat.zero_add,List.take_succ_cons,List.take_zero];unfold le;rw[DG];rintro (h | ⟨_,h⟩)
  ·exact Nat.lt_irrefl _ h
  ·exact FC _ h
 | x::a,y::b,h=>by
  rw[DG]at h;unfold IC cpl;by_cases hxy:x=y
  ·subst hxy;have h':=h.elim (λh=>absurd h (Nat.lt_irrefl _)) (λh=>h.2)
   obtain⟨i1,i2,i3⟩:=AP7 a b h';unfold IC at i1 i2 i3;rw[if_pos rfl,List.take_succ_cons];refine⟨DG.2 (.inr ⟨rfl,i1⟩),?_,by simp⟩
   unfold le;rw[DG];rintro (h | ⟨_,h⟩)
   ·exact Nat.lt_irrefl _ h
   ·exact i2 h
  ·have h':=h.elim id (λh=>absurd h.1 hxy)
   rw[if_neg hxy,Nat.zero_add,List.take_succ_cons,List.take_zero];refine⟨DG.2 (.inl h'),?_,by simp⟩
   unfold le;rw[DG];rintro (h | ⟨_,h⟩)
   ·exact Nat.lt_irrefl _ h
   ·exact FC _ h
theorem AJ9 {L:Nat}{ks:List (Kid L)}(h:FG ks){i:Nat}{k:Kid L}(hi:ks[i]? = some k):(k.1.length=0 ↔ i=0)/\k.1.length<=96:=by
 cases ks with
 | nil=>simp at hi
 | cons a r =>
  cases i with
  | zero =>
   simp only[List.getElem?_cons_zero,Option.some.injEq]at hi;subst hi;rw[h.1];simp
  | succ i =>
   have:=h.2 k (List.mem_of_getElem? (by simpa using hi))
   omega
theorem AN6 {L:Nat}{t:Tr L}(h:CJ t)(hL:L<256):VN L t.ens:=by
 obtain⟨h1,h2,h3,_⟩:=h;refine⟨?_,hL,h3⟩;unfold stN;rw[Bool.and_eq_true,decide_eq_true_eq];refine⟨AB1 _ _ _ λj hj=>?_,List.length_pos_iff.2 h2⟩
 rw[Nat.zero_add];cases L with
 | zero =>
  have:=(IV.1 h1) t.ens[j] (List.getElem_mem _)
  unfold okL at this;unfold okE;simp only[Bool.and_eq_true,Bool.or_eq_true,beq_iff_eq,decide_eq_true_eq];refine⟨⟨⟨?_,this.2.1⟩,this.2.2⟩,by simp⟩
  rw[decide_eq_false (by omega)];rfl
 | succ L =>
  obtain⟨ht,_⟩:=AL.1 h1;have hjk:j<t.ks.length:=by simpa [AZ] using hj
  have he:t.ens[j]=kEn t.ks[j]:=by simp[AZ]
  have hk:=AJ9 ht.1 (List.getElem?_eq_getElem hjk);have hp:=(ht.2 t.ks[j] (List.getElem_mem _)).2.2.2;have hc:=CV t.ks[j] (by omega)
  rw[he];unfold okE;rw[hc];simp only[Bool.and_eq_true,Bool.or_eq_true,beq_iff_eq,decide_eq_true_eq];refine⟨⟨⟨?_,hk.2⟩,by simp[kEn,pgV]⟩,.inr ⟨by simp[kEn,pgV],hp.2⟩⟩
  have:(kEn t.ks[j]).key=t.ks[j].1:=rfl
  rw[this,decide_eq_true (show 0<L+1 by omega),Bool.true_and,decide_eq_decide]
  exact hk.1
theorem I0 (a:Addr)(i:Nat):(a.add i).block=a.block:=by unfold Addr.add;split <;> rfl
def AQ8 (n:Nat)(V1 V2:List Value)(w:World)(e:Ending)(w':World):Prop :=
 ∃g c R,e=.returned (.slice (some ⟨g,0,none⟩) n c)/\n<=c/\c<=maxLen/\w.heap.size<=g/\w'.heap[g]? = some (.cells (V1++(V2++R)).toArray 135 (0,0))/\Below w.heap.size w w'
theorem AF5 (g n m c:Nat)(V V2 Z:List Value)(a:Addr)(mc:Nat)(w:World)(h:w.heap[g]? = some (.cells (V++Z).toArray 135 (0,0)))(hV:V.length=n*2)(hV2:V2.length=m*2)(hc:n+m<=c)(hZ:V.length+Z.length=c*2)(hs:∀j u,V2[j]? = some u->w.cell? (a.add j)=some u)(h1:∀u ∈ V2,u.oneCell'=true)(ty:TypeId) :
  ∃w' Z',(Builtin.append_ #[136,136] ty #[.slice (some ⟨g,0,none⟩) n c,.slice (some a) m mc]).run Tryz.prog w=.ok (.slice (some ⟨g,0,none⟩) (n+m) c) w'/\w'.heap[g]? = some (.cells ((V++V2)++Z').toArray 135 (0,0))/\(V++V2).length+Z'.length=c*2/\AC (λk=>k=g) w w':=by
 obtain⟨i0,hi0,q0,q1,q2⟩:=info_parts EP;have hr:=run_append_room (P:=Tryz.prog) w 136 ty 135 i0 Tryz.underlying136 hi0 g n c _ h a m mc V2 (by rw[q1];exact hV2) hs h1 hc (by rw[q1];simp;omega)
 refine⟨_,Z.drop V2.length,hr,?_,by simp;omega,J1 _ _ _⟩
 rw[setRow_heap w g _ _ _ _ h,q1,List.toList_toArray,List.take_left' hV,<-hV,J4]
theorem AX6 (ab n1 n2 c1 c2:Nat)(a1 a2:Addr)(V1 V2:List Value)(w:World)(hab:w.heap[ab]? = some (.cells #[.slice (some a1) n1 c1,.slice (some a2) n2 c2] 136 (0,0)))(h1:V1.length=n1*2)(h2:V2.length=n2*2)(hn1:1<=n1/\n1<=512)(hn2:1<=n2/\n2<=512)
  (hv1:∀j u,V1[j]? = some u->w.cell? (a1.add j)=some u) (hv2:∀j u,V2[j]? = some u->w.cell? (a2.add j)=some u) (ho1:∀u ∈ V1,u.oneCell'=true) (ho2:∀u ∈ V2,u.oneCell'=true) (hl:a1.block<w.heap.size/\a2.block<w.heap.size) :
  Calls Tryz.prog 187 #[.slice (some ⟨ab,0,none⟩) 2 2] w (AQ8 (n1+n2) V1 V2 w):=by
 have hlt:ab<w.heap.size:=(Array.getElem?_eq_some_iff.1 hab).1;have HAB:Hid (∀W:World,W.heap[ab]? = w.heap[ab]?->W.cell? ⟨ab,0,none⟩=some (.slice (some a1) n1 c1)/\W.cell? ⟨ab,1,none⟩=some (.slice (some a2) n2 c2)/\W.frozen? ⟨ab,0,none⟩=false/\W.frozen? ⟨ab,1,none⟩=false):=yH λW h=>by
  rw[hab]at h;refine⟨by rw[yC h];rfl,by rw[yC h];rfl,by simp[World.frozen?,h],by simp[World.frozen?,h]⟩
 have HGR:Hid (Calls Tryz.prog 204 #[.slice none 0 0,.int .i64 ((n1:Int)+(n2:Int))] w λe w'=>∃c,e=.returned (.slice (some ⟨w.heap.size,0,none⟩) 0 c)/\Hid (w'.heap[ab]? = w.heap[ab]?) /\
   ∃W1,(Builtin.append_ #[136,136] 136 #[.slice (some ⟨w.heap.size,0,none⟩) 0 c,.slice (some a1) n1 c1]).run Tryz.prog w'=.ok (.slice (some ⟨w.heap.size,0,none⟩) n1 c) W1/\Hid (W1.heap[ab]? = w.heap[ab]?) /\
    ∃W2,(Builtin.append_ #[136,136] 136 #[.slice (some ⟨w.heap.size,0,none⟩) n1 c,.slice (some a2) n2 c2]).run Tryz.prog W1=.ok (.slice (some ⟨w.heap.size,0,none⟩) (n1+n2) c) W2/\AQ8 (n1+n2) V1 V2 w (.returned (.slice (some ⟨w.heap.size,0,none⟩) (n1+n2) c)) W2):=yH (by
  have:=BT1 (n1+n2) w (by omega) (by omega)
  rw[show ((n1+n2:Nat):Int)=(n1:Int)+(n2:Int) by omega]at this
  refine this.mono ?_;rintro e w' ⟨c,Z,rfl,hc1,hc2,hZ,hh,hb⟩;refine⟨c,rfl,yH (hb.block ab hlt),?_⟩;obtain⟨W1,Z1,r1,g1,g2,g3⟩:=AF5 w.heap.size 0 n1 c [] V1 Z a1 c1 w' hh rfl h1 (by omega) (by rw[hZ];simp) (λj u hu=>by rw[hb.cell (p:=a1.add j) (by rw[I0];exact hl.1)];exact hv1 j u hu) ho1 136
  rw[Nat.zero_add]at r1;have hk1:∀k,k<w.heap.size->W1.heap[k]? = w.heap[k]?:=λk hk=>(g3.block k (by have:=hb.size;omega) (by omega)).trans (hb.block k hk)
  refine⟨W1,r1,yH (hk1 ab hlt),?_⟩;obtain⟨W2,Z2,r2,k1,k2,k3⟩:=AF5 w.heap.size n1 n2 c V1 V2 Z1 a2 c2 W1 g1 h1 h2 (by omega) g2 (λj u hu=>by rw[World.cell?_of_block (hk1 _ (by rw[I0];exact hl.2))];exact hv2 j u hu) ho2 136
  refine⟨W2,r2,w.heap.size,c,Z2,rfl,hc1,hc2,Nat.le_refl _,?_,?_⟩
  ·rw[k1,List.append_assoc]
  ·exact (hb.trans (g3.toBelow (B:=w.heap.size) hb.size (λk hk=>by omega))).trans (k3.toBelow (B:=w.heap.size) (Nat.le_trans hb.size g3.size) (λk hk=>by omega)))
 have hltab:=hlt;clear hab h1 h2 hv1 hv2 ho1 ho2 hl;obtain⟨d0,d1,d2,d3⟩:=HAB.out w rfl;go_enter Tryz.func187,Tryz.ntmps187;go_wp2;go_loop [3,11] (λs i=>(i=.int .i64 0/\s=.int .i64 0)\/(i=.int .i64 1/\s=.int .i64 n1)\/(i=.int .i64 2/\s=.int .i64 ((n1:Int)+(n2:Int)))) (λ_ i=>2-(intOf i).toNat)
 case atStart=>exact .inl ⟨rfl,rfl⟩
 case round =>
  rcases hrel with⟨rfl,rfl⟩|⟨rfl,rfl⟩|⟨rfl,rfl⟩
  ·go_wp2;go_round
   case rel=>exact .inr (.inl ⟨rfl,by simp⟩)
   case measure=>simp[intOf]
  ·go_wp2;go_round
   case rel=>exact .inr (.inr ⟨rfl,rfl⟩)
   case measure=>simp[intOf]
  ·clear d0 d1 d2 d3;go_wp2_with fail;refine HGR.out.mono ?_;rintro e w1 ⟨c,rfl,hb1,W1,hr1,hb2,W2,hr2,hpost⟩;have HR1:=yH hr1;have HR2:=yH hr2;have HPO:=yH hpost
   clear hr1 hr2 hpost;go_wp2;go_loopw [6,27] (λv i wr=>(i=.int .i64 0/\v=.slice (some ⟨w.heap.size,0,none⟩) 0 c/\wr=w1)\/(i=.int .i64 1/\v=.slice (some ⟨w.heap.size,0,none⟩) n1 c/\wr=W1)\/(i=.int .i64 2/\v=.slice (some ⟨w.heap.size,0,none⟩) (n1+n2) c/\wr=W2)) (λ_ i _=>2-(intOf i).toNat)
   case atStart=>exact .inl ⟨rfl,rfl,rfl⟩
   case round =>
    rcases hrel with⟨rfl,rfl,hw⟩|⟨rfl,rfl,hw⟩|⟨rfl,rfl,hw⟩
    ·subst hw;obtain⟨d0,d1,d2,d3⟩:=HAB.out _ hb1.out;go_wp2_with (at_builtin;refine Lib.wpList_append_run _ rfl _ _ 136 136 rfl _ _ rfl rfl _ _ HR1.out ?_)
     go_roundw
     case rel=>exact .inr (.inl ⟨rfl,rfl,by simp⟩)
     case measure=>simp[intOf]
    ·subst hw;obtain⟨d0,d1,d2,d3⟩:=HAB.out _ hb2.out;go_wp2_with (at_builtin;refine Lib.wpList_append_run _ rfl _ _ 136 136 rfl _ _ rfl rfl _ _ HR2.out ?_)
     go_roundw
     case rel=>exact .inr (.inr ⟨rfl,rfl,by simp⟩)
     case measure=>simp[intOf]
    ·subst hw;go_wp2;go_ret;exact HPO.out
def hd0 (level:Nat)(es:List En):List En:=match es with
 | []=>[]
 | e::r=>if level=0 then e::r else ⟨[],e.val⟩::r
theorem J2 (es:List En):hd0 0 es=es:=by cases es <;> rfl
theorem O6 (level:Nat)(es:List En):(hd0 level es).length=es.length:=by
 cases es with
 | nil=>rfl
 | cons e r=>unfold hd0;simp only;split <;> rfl
theorem BW {w:World}{g i:Nat}{cs:Array Value}{t:TypeId}(h:w.heap[g]? = some (.cells cs t (0,0)))(v:Value):(w.setCell ⟨g,i,none⟩ v).heap[g]? = some (.cells (cs.setIfInBounds i v) t (0,0)):=by
 simp[World.setCell,Array.getElem?_modify,h]
theorem R4 {level:Nat}{es:List En}(h:DU es):DU (hd0 level es):=by
 refine⟨by rw[O6];exact h.1,λe he=>?_⟩
 cases es with
 | nil=>cases he
 | cons a r =>
  unfold hd0 at he;simp only at he;split at he
  ·exact h.2 e he
  ·rcases List.mem_cons.1 he with rfl|he
   ·have:=h.2 a (by simp)
    exact⟨by simp,this.2⟩
   ·exact h.2 e (by simp[he])
theorem DU.sub {es fs:List En}(h:DU es)(hs:∀e ∈ fs,e ∈ es)(hl:fs.length<=es.length):DU fs:=⟨Nat.le_trans hl h.1,λe he=>h.2 e (hs e he)⟩
def KZ (X:Nat->Prop)(x:NO)(es:List En)(w:World)(e:Ending)(w':World):Prop :=
 e=.returned (.tuple #[])/\AM X w' { x with ens:=es }/\AC (λk=>k=x.blk\/k=x.ab) w w'
theorem T0 {w:World}{x:NO}(hb:w.heap[x.blk]? = some (.cells x.cells 138 (0,0)))(arr:Option Addr)(es:List En)(cap:Nat) :
  (w.setCell ⟨x.blk,2,none⟩ (.slice arr es.length cap)).heap[x.blk]? = some (.cells ({ x with arr:=arr,ens:=es,cap:=cap }:NO).cells 138 (0,0)):=by
 rw[BW hb];rfl
theorem NR (X:Nat->Prop)(x:NO)(A B:List En)(en:En)(w:World)(h:AM X w x)(hs:x.sole=true)(he:x.ens=A++en::B) :
  Calls Tryz.prog 85 #[x.ptr,.int .i64 A.length] w (KZ X x (hd0 x.level (A++B)) w):=by
 have hne:x.ens≠[]:=by rw[he];simp
 obtain⟨g,harr⟩:=h.alone hs hne;have hab:x.ab=g:=by unfold NO.ab;rw[harr]
 have hent:=h.ents;rw[harr]at hent;obtain⟨L,vs,R,hL,hrow⟩:=hent.row hne;obtain rfl:L=[]:=List.eq_nil_of_length_eq_zero hL;have hp:=hrow.pairs;rw[he]at hp;obtain⟨P,DQ,rfl,hpA,hpB⟩:=hp.split A (en::B);obtain⟨D,Q,rfl,hpD,hpQ⟩:=BE.split (es:=[en]) (fs:=B) hpB;have hPl:=hpA.len;have hDl:=hpD.len;have hQl:=hpQ.len
 have hN:x.ens.length=A.length+1+B.length:=by rw[he];simp;omega
 have hN5:=h.short.1;have hcap:=h.cap;have hgb:g≠x.blk:=by
  intro e;have h1:=hrow.blk;rw[e,h.blk]at h1;injection h1 with h1
  injection h1 with _ h1 _
  exact absurd h1 (by decide)
 have hdel:=AX3 g x.ens.length x.cap A.length P D Q R w (by rw[hrow.blk];simp) hPl hDl (by rw[hQl];congr 1;omega) (by omega) hcap.1 hN5 hcap.2 hpQ.one
 obtain⟨N1,hN1⟩:∃N1,N1=A.length+B.length:=⟨_,rfl⟩;have hpAB:BE X w (P++Q) (A++B):=hpA.app hpQ;have hshort:DU (A++B):=h.short.sub (λe hm=>by rw[he];simp only[List.mem_append,List.mem_cons]at hm ⊢;rcases hm with hm | hm <;> simp[hm]) (by simp;omega)
 have key:∀w1,JF g x.ens.length x.cap P Q R w (.returned (.slice (some ⟨g,0,none⟩) (x.ens.length-1) x.cap)) w1 ->
   (w1.setCell ⟨x.blk,2,none⟩ (.slice (some ⟨g,0,none⟩) N1 x.cap)).heap[x.blk]? = some (.cells ({ x with ens:=A++B }:NO).cells 138 (0,0)) /\
   (w1.setCell ⟨x.blk,2,none⟩ (.slice (some ⟨g,0,none⟩) N1 x.cap)).heap[g]? = some (.cells ((P++Q)++(nn++R)).toArray 135 (0,0)) /\
   AC (λk=>k=x.blk\/k=x.ab) w (w1.setCell ⟨x.blk,2,none⟩ (.slice (some ⟨g,0,none⟩) N1 x.cap)):=by
  rintro w1 ⟨_,h2,h3⟩;have hb1:w1.heap[x.blk]? = some (.cells x.cells 138 (0,0)):=(h3.block _ h.lt (λe=>hgb e.symm)).trans h.blk
  have hk2:=AC.setCell (λk=>k=x.blk) w1 (b:=x.blk) (i:=2) rfl (.slice (some ⟨g,0,none⟩) N1 x.cap)
  refine⟨?_,?_,?_⟩
  ·have:=T0 hb1 (some ⟨g,0,none⟩) (A++B) x.cap
   rw[List.length_append,<-hN1]at this;rw[this];unfold NO.cells;rw[harr]
  ·have hgl:g<w1.heap.size:=(Array.getElem?_eq_some_iff.1 h2).1;rw[hk2.block g hgl hgb,h2];simp
  ·exact (h3.mono (λk e=>.inr (e.trans hab.symm))).trans (hk2.mono (λk e=>.inl e)) (λk e=>.inl e)
 have fin:∀w1 vs' es',AC (λk=>k=x.blk\/k=x.ab) w w1->w1.heap[x.blk]? = some (.cells ({ x with ens:=A++B }:NO).cells 138 (0,0))->w1.heap[g]? = some (.cells (vs'++(nn++R)).toArray 135 (0,0))->BE X w vs' es'->es'.length=(A++B).length->DU es'->KZ X x es' w (.returned (.tuple #[])) w1:=by
  intro w1 vs' es' hk hb hg hpr hle hsh;have hX:∀k,k<w.heap.size->(k=x.blk\/k=x.ab)->X k:=λk _ e=>by
   rcases e with rfl|rfl
   ·exact h.own
   ·rw[hab];exact hrow.own
  have hpr1:BE X w1 vs' es':=hpr.kept hk hX (λ_ _ h=>h)
  have hr1:OT X w1 g [] vs' (nn++R) es':=⟨hg,hrow.own,hpr1⟩;refine⟨rfl,⟨?_,h.own,?_,?_,h.small,hsh,λ_ _=>⟨g,harr⟩⟩,hk⟩
  ·rw[hb];unfold NO.cells;simp only;rw[hle]
  ·show E5 X w1 x.arr es';rw[harr];exact hr1.ents
  ·have h1:=hcap;simp only;rw[hle,List.length_append];omega
 have c1:=h.c1;have c2:=h.c2;have hlt:=h.lt;rw[harr]at c2;have e1:x.ens.length-1=N1:=by omega
 have HE0:x.level=0\/A++B=[]->∀w1,JF g x.ens.length x.cap P Q R w (.returned (.slice (some ⟨g,0,none⟩) (x.ens.length-1) x.cap)) w1->KZ X x (hd0 x.level (A++B)) w (.returned (.tuple #[])) (w1.setCell ⟨x.blk,2,none⟩ (.slice (some ⟨g,0,none⟩) N1 x.cap)):=λh0 w1 hd=>by
  obtain⟨k1,k2,k3⟩:=key w1 hd;have e:hd0 x.level (A++B)=A++B:=by
   rcases h0 with h0|h0
   ·rw[h0,J2]
   ·rw[h0];rfl
  rw[e];exact fin _ (P++Q) (A++B) k3 k1 k2 hpAB rfl hshort
 have HE1:0<x.level->A++B≠[]->∀w1,JF g x.ens.length x.cap P Q R w (.returned (.slice (some ⟨g,0,none⟩) (x.ens.length-1) x.cap)) w1->KZ X x (hd0 x.level (A++B)) w (.returned (.tuple #[])) ((w1.setCell ⟨x.blk,2,none⟩ (.slice (some ⟨g,0,none⟩) N1 x.cap)).setCell ⟨g,0,none⟩ (.slice none 0 0)):=λh0 hn w1 hd=>by
  obtain⟨k1,k2,k3⟩:=key w1 hd;obtain⟨W2,hW2⟩:∃W2,W2=w1.setCell ⟨x.blk,2,none⟩ (.slice (some ⟨g,0,none⟩) N1 x.cap):=⟨_,rfl⟩;rw[<-hW2]at k1 k2 k3 ⊢
  obtain⟨vs,hvs⟩:∃vs,vs=P++Q:=⟨_,rfl⟩;rw[<-hvs]at k2;have hpr:=hpAB;rw[<-hvs]at hpr;have hsh:=R4 (level:=x.level) hshort;have hhl:=O6 x.level (A++B);obtain⟨l,hl⟩:∃l,l=A++B:=⟨_,rfl⟩;rw[<-hl]at hpr hn hsh hhl ⊢
  have hk3:=AC.setCell (λk=>k=g) W2 (b:=g) (i:=0) rfl (.slice none 0 0)
  have hk4:AC (λk=>k=x.blk\/k=x.ab) w (W2.setCell ⟨g,0,none⟩ (.slice none 0 0)):=k3.trans (hk3.mono (λk e=>.inr (e.trans hab.symm))) (λk e=>.inl e)
  match l,vs,hpr,hn with
  | e0::r,kv::vv::vs,hpr,_ =>
   have e:hd0 x.level (e0::r)=⟨[],e0.val⟩::r:=by unfold hd0;simp only;rw[if_neg (by omega)]
   rw[e]at hsh hhl ⊢
   refine fin _ (.slice none 0 0::vv::vs) _ hk4 ((hk3.block _ (Array.getElem?_eq_some_iff.1 k1).1 (λe=>hgb e.symm)).trans k1) ?_ ⟨A7.nil_ _ _,hpr.2.1,hpr.2.2⟩ (by rw[hhl,hl]) hsh
   rw[BW k2];simp
 have HDL:Calls Tryz.prog 126 #[.slice (some ⟨g,0,none⟩) x.ens.length x.cap,.int .i64 A.length,.int .i64 ((A.length:Int)+1)] w λe w1=>e=.returned (.slice (some ⟨g,0,none⟩) N1 x.cap)/\w1.cell? ⟨x.blk,1,none⟩=some (.int .i64 x.level)/\w1.cell? ⟨x.blk,2,none⟩=some (.slice (some ⟨g,0,none⟩) x.ens.length x.cap)/\x.blk<w1.heap.size/\g<w1.heap.size/\w1.frozen? ⟨x.blk,2,none⟩=false/\w1.frozen? ⟨g,0,none⟩=false/\(∃v,w1.cell? ⟨g,0,none⟩=some v)/\Hid (JF g x.ens.length x.cap P Q R w (.returned (.slice (some ⟨g,0,none⟩) (x.ens.length-1) x.cap)) w1):=by
  have:=hdel
  rw[show ((A.length+1:Nat):Int)=(A.length:Int)+1 by omega]at this
  refine this.mono ?_;rintro e w1 ⟨rfl,h2,h3⟩;have hbk:=h3.block _ hlt (λe=>hgb e.symm)
  have hb1:w1.heap[x.blk]? = some (.cells x.cells 138 (0,0)):=hbk.trans h.blk;refine⟨by rw[e1],by rw[World.cell?_of_block hbk];exact c1,by rw[World.cell?_of_block hbk];exact c2,Nat.lt_of_lt_of_le hlt h3.size,(Array.getElem?_eq_some_iff.1 h2).1,by simp[World.frozen?,hb1],by simp[World.frozen?,h2],?_,yH ⟨rfl,h2,h3⟩⟩
  rw[yC h2];exact⟨_,Array.getElem?_eq_getElem (by simp only[List.size_toArray,List.length_append];show 0<_+(_+(2+_));omega)⟩
 have hal5:A.length<=512:=by omega
 have hor:x.level=0\/A++B=[]\/(0<x.level/\A++B≠[]):=by
  by_cases h1:x.level=0
  ·exact .inl h1
  ·by_cases h2:A++B=[]
   ·exact .inr (.inl h2)
   ·exact .inr (.inr ⟨by omega,h2⟩)
 have hN10:A++B=[] ↔ N1=0:=by rw[hN1,<-List.length_append,List.length_eq_zero_iff]
 have hNN:x.ens.length=N1+1:=by omega
 unfold NO.ptr;clear h hs hne harr hab hent hL hrow hp hpA hpB hpD hpQ hPl hDl hQl hN hN5 hcap hdel hpAB hshort key fin hN1 e1 he;rw[hNN,Nat.add_sub_cancel]at HE0 HE1 HDL;rw[hNN]at c2;obtain⟨hd0l,hhd⟩:∃l,l=hd0 x.level (A++B):=⟨_,rfl⟩;rw[<-hhd]at HE0 HE1 ⊢
 obtain⟨POST,hPOST⟩:∃POST,POST=KZ X x hd0l w:=⟨_,rfl⟩;rw[<-hPOST]at HE0 HE1 ⊢
 obtain⟨DP,hDP⟩:∃DP,DP=JF g (N1+1) x.cap P Q R w (.returned (.slice (some ⟨g,0,none⟩) N1 x.cap)):=⟨_,rfl⟩;rw[<-hDP]at HE0 HE1 HDL;clear hhd hPOST hDP hNN;obtain⟨xb,pg,lv,es,ar,cp,wa,hd,so⟩:=x;simp only at *
 obtain⟨al,hal⟩:∃n,n=A.length:=⟨_,rfl⟩;rw[<-hal]at HDL hal5 ⊢
 clear hal;rcases hor with hl0|hl0|⟨hl0,hl1⟩
 ·subst hl0;have HE:=yH (HE0 (.inl rfl));have HDLH:=yH HDL
  clear HE0 HE1 HDL hN10;go_enter Tryz.func85,Tryz.ntmps85;go_wp2_with fail;refine HDLH.out.mono ?_;rintro e w1 ⟨rfl,d1,d2,d3,d4,d5,d6,d7,hd⟩;have HR:=yH (HE.out w1 hd.out);clear d7 HE hd;go_wp2;go_end0
  exact HR.out
 ·have hz:=hN10.1 hl0;have HE:=yH (HE0 (.inr hl0));have HDLH:=yH HDL
  clear HE0 HE1 HDL hN10 hl0;subst hz;have hlp:(0:Int)<(lv:Int)\/lv=0:=by omega
  by_cases hv:lv=0
  ·subst hv;go_enter Tryz.func85,Tryz.ntmps85;go_wp2_with fail;refine HDLH.out.mono ?_;rintro e w1 ⟨rfl,d1,d2,d3,d4,d5,d6,d7,hd⟩;have HR:=yH (HE.out w1 hd.out);clear d7 HE hd;go_wp2;go_end0
   exact HR.out
  ·have hvp:(0:Int)<(lv:Int):=by omega
   go_enter Tryz.func85,Tryz.ntmps85;go_wp2_with fail;refine HDLH.out.mono ?_;rintro e w1 ⟨rfl,d1,d2,d3,d4,d5,d6,d7,hd⟩;have HR:=yH (HE.out w1 hd.out);clear d7 HE hd;go_wp2;go_end0
   exact HR.out
 ·have hz:0<N1:=by
   rcases Nat.eq_zero_or_pos N1 with e|e
   ·exact absurd (hN10.2 e) hl1
   ·exact e
  have HE:=yH (HE1 hl0 hl1);have HDLH:=yH HDL
  clear HE0 HE1 HDL hN10 hl1;have hvp:(0:Int)<(lv:Int):=by omega
  have hzp:(0:Int)<(N1:Int):=by omega
  go_enter Tryz.func85,Tryz.ntmps85;go_wp2_with fail;refine HDLH.out.mono ?_;rintro e w1 ⟨rfl,d1,d2,d3,d4,d5,d6,⟨v,d7⟩,hd⟩;have HR:=yH (HE.out w1 hd.out);clear HE hd;go_wp2;go_end0
  exact HR.out
def BU7 (es:List En)(w:World)(e:Ending)(w':World):Prop:=∃m:Nat,e=.returned (.int .i64 m)/\VS es m/\Below w.heap.size w w'
theorem AJ5 (X:Nat->Prop)(x:NO)(w:World)(h:AM X w x):Calls Tryz.prog 202 #[x.ptr] w (BU7 x.ens w):=by
 have HSZ:=yH (P3 X x w h);have hsS:=P5 h.short;have c2:=h.c2;have hlt:=h.lt;have hcap:=h.cap.1;have hN5:=h.short.1;have HX:=yH h;clear h;obtain⟨xb,pg,lv,es,ar,cp,wa,hd,so⟩:=x;unfold NO.ptr at *
 simp only at *
 obtain⟨S,hS⟩:∃S,S=szE es:=⟨_,rfl⟩;obtain⟨N,hN⟩:∃N,N=es.length:=⟨_,rfl⟩;rw[<-hS]at HSZ hsS;rw[<-hN]at c2 hcap hN5;have HS:=yH hS;have HN:=yH hN
 clear hS hN;go_enter Tryz.func202,Tryz.ntmps202;go_wp2_with fail;refine HSZ.out.mono ?_;rintro e w1 ⟨rfl,hb1⟩;have c2w:w1.cell? ⟨xb,2,none⟩=some (.slice ar N cp):=by rw[hb1.cell (p:=⟨xb,2,none⟩) hlt];exact c2
 have hlt1:xb<w1.heap.size:=Nat.lt_of_lt_of_le hlt hb1.size;have HB1:=yH hb1;clear c2 hb1 HSZ;go_wp2;go_loopw [4,14] (λa i wr=>∃k:Nat,k<=N/\i=.int .i64 k/\a=.int .i64 (szE (es.take k))/\Hid (Below w.heap.size w wr)/\Hid (∀j e,j<k->es[j]? = some e->2*szE (es.take j)+e.size<S)) (λ_ i _=>N-(intOf i).toNat)
 case atStart=>exact⟨0,by omega,rfl,by simp[szE],HB1,yH (λj e hj=>by omega)⟩
 case round =>
  obtain⟨k,hk,rfl,rfl,HB,HLO⟩:=hrel;have hsz:szE (es.take k)<=S:=by rw[HS.out];exact JQ es k
  obtain⟨sz,hsz2⟩:∃sz,sz=szE (es.take k):=⟨_,rfl⟩;rw[<-hsz2]at hsz ⊢
  have HSZ2:=yH hsz2;clear hsz2
  have hltr:xb<wr.heap.size:=Nat.lt_of_lt_of_le hlt HB.out.size;by_cases hkn:k<N
  ·obtain⟨en,hen⟩:=L9 HN.out.symm hkn;have hNr:=HX.out.below HB.out;obtain⟨b,o,kv,vv,ha,hbl,hfr,hc1,hc2,hk1,hk2⟩:=hNr.ents.at_ hen;simp only at ha;have hsh:=hNr.short.at_ hen;obtain⟨A1,q1,rfl,hA1,hA2,_⟩:=hk1;obtain⟨A2,q2,rfl,hB1,hB2,_⟩:=hk2;have hes:en.size=2+en.key.length+en.val.length:=rfl;obtain⟨l1,hl1⟩:∃l1,l1=en.key.length:=⟨_,rfl⟩;obtain⟨l2,hl2⟩:∃l2,l2=en.val.length:=⟨_,rfl⟩;rw[<-hl1]at hc1 hsh hes;rw[<-hl2]at hc2 hsh hes;have hnx:szE (es.take (k+1))=sz+en.size:=by rw[IL hen,HSZ2.out]
   subst ha;clear hA1 hA2 hB1 hB2 hl1 hl2 hNr;by_cases hex:S<=2*sz+en.size
   ·have HE:Hid (VS es k):=yH ⟨by rw[<-HN.out];exact hk,λi e hi he=>by rw[<-HS.out];exact HLO.out i e hi he,λe he=>by
     rw[hen]at he;cases he
     rw[<-HS.out,<-HSZ2.out];exact hex⟩
    have hexi:(S:Int)<=2*(sz:Int)+((2+l1+l2:Nat):Int):=by omega
    have HEN:=yH hen;clear hnx hes hen hex;go_wp2_with (go_at_call 201;refine (KW _ _ _ _ _ _ _ (by omega) (by omega)).mono ?_;rintro e w2 ⟨rfl,hb2⟩)
    go_ret;exact⟨k,rfl,HE.out,AE HB.out (((Below.refl _ _).alloc (Nat.le_refl _) _).trans (hb2.mono (by simp)))⟩
   ·have HL2:Hid (∀j e,j<k+1->es[j]? = some e->2*szE (es.take j)+e.size<S):=yH λj e hj he=>by
     by_cases hjk:j=k
     ·subst hjk;rw[hen]at he;cases he
      rw[<-HSZ2.out];omega
     ·exact HLO.out j e (by omega) he
    have hexi:¬((S:Int)<=2*(sz:Int)+((2+l1+l2:Nat):Int)):=by omega
    have HNX:Hid (szE (es.take (k+1))=sz+(2+l1+l2)):=yH (by rw[hnx,hes])
    clear hnx hes hen hex;go_wp2_with fail;refine (KW _ _ _ _ _ _ _ (by omega) (by omega)).mono ?_
    rintro e w2 ⟨rfl,hb2⟩;have q0:w2.cell? ⟨wr.heap.size,0,none⟩=some (.slice A1 l1 q1):=(hb2.cell (p:=⟨wr.heap.size,0,none⟩) (by simp)).trans (by rw[yC (heap_alloc_new wr _)];rfl)
    have q1:w2.cell? ⟨wr.heap.size,1,none⟩=some (.slice A2 l2 q2):=(hb2.cell (p:=⟨wr.heap.size,1,none⟩) (by simp)).trans (by rw[yC (heap_alloc_new wr _)];rfl)
    have HB2:Hid (Below w.heap.size w w2):=yH (AE HB.out (((Below.refl _ _).alloc (Nat.le_refl _) _).trans (hb2.mono (by simp))))
    clear hb2;go_wp2_with fail;refine (KW _ _ _ _ _ _ _ (by omega) (by omega)).mono ?_
    rintro e w3 ⟨rfl,hb3⟩;have HB3:Hid (Below w.heap.size w w3):=yH (AE HB2.out hb3);clear hb3 q0 q1;go_wp2;go_roundw
    case rel=>exact⟨k+1,by omega,by go_num,by rw[HNX.out];go_num,HB3,HL2⟩
    case measure=>simp[intOf];omega
  ·obtain rfl:k=N:=by omega
   have c2r:wr.cell? ⟨xb,2,none⟩=some (.slice ar k cp):=by rw[HB.out.cell (p:=⟨xb,2,none⟩) hlt];exact HX.out.c2.trans (by simp only;rw[<-HN.out])
   have HE:Hid (VS es k):=yH ⟨by rw[HN.out];exact Nat.le_refl _,λi e hi he=>by rw[<-HS.out];exact HLO.out i e hi he,λe he=>by rw[List.getElem?_eq_none (by rw[<-HN.out];exact Nat.le_refl _)]at he;cases he⟩
   go_wp2;go_ret;exact⟨k,rfl,HE.out,HB.out⟩
def N5 (l:List UInt8)(w:World)(e:Ending)(w':World):Prop :=
 ∃g c,e=.returned (.slice (some ⟨g,0,none⟩) l.length c)/\l.length<=c/\c<=maxLen/\AK w' (some ⟨g,0,none⟩) l/\w.heap.size<=g/\Below w.heap.size w w'
theorem BL0 (A:Addr)(l:List UInt8)(n c:Nat)(w:World)(hn:l.length=n)(h1:1<=n)(h5:n<=1000)(hR:AK w (some A) l) :
  Calls Tryz.prog 211 #[.slice (some A) n c] w (N5 l w):=by
 obtain⟨i0,hi0,q0,q1,q2⟩:=info_parts infoByte;obtain⟨W,hW⟩:∃W,W=w.alloc (.cells #[] 5):=⟨_,rfl⟩;have hbW:Below w.heap.size w W:=by rw[hW];exact (Below.refl _ _).alloc (Nat.le_refl _) _
 have hR2:=hR.below hbW;have hr:=run_append_grow (P:=Tryz.prog) W 102 102 5 i0 _ Tryz.underlying102 hi0 q0 ⟨w.heap.size,0,none⟩ 0 0 [] (by simp) (λj u hu=>by simp at hu) A n c (Lib.byteCells l) (by rw[q1];simp[Lib.byteCells,hn]) (λj u hu=>by
  have hj:j<l.length:=by have:=(List.getElem?_eq_some_iff.1 hu).1;simpa [Lib.byteCells] using this
  rcases hR2 with rfl|⟨b,off,he,_,hc⟩
  ·simp at hj
  ·injection he with he;subst he
   rw[A3,hc j hj,<-hu];simp[Lib.byteCells,hj]) (by omega) (by omega) (by rw[q2];exact growslice_fits (by omega) (by omega))
 rw[Nat.zero_add]at hr;have hge:=grownCap_ge W n 0 5;have hcm:grownCap W n 0 5<=maxLen:=grownCap_le_maxLen W n 0 5 (by unfold maxLen;omega)
 obtain⟨k,hk⟩:∃k,k=grownCap W n 0 5:=⟨_,rfl⟩;rw[<-hk]at hr hge hcm;obtain⟨W2,hW2⟩:∃W2,W2=W.drew.alloc (.cells ([].toArray++(Lib.byteCells l).toArray++Builtin.zeroCells (Value.int .u8 0).cells (k-n)) 5):=⟨_,rfl⟩;rw[<-hW2]at hr;have HE:Hid (N5 l w (.returned (.slice (some ⟨W.heap.size,0,none⟩) n k)) W2):=yH ⟨W.heap.size,k,by rw[hn],by rw[hn];exact hge,hcm,.inr ⟨W.heap.size,0,rfl,by rw[hW2];simp,λj hj=>by
  have hnew:W2.heap[W.heap.size]? = some (.cells ([].toArray++(Lib.byteCells l).toArray++Builtin.zeroCells (Value.int .u8 0).cells (k-n)) 5 (0,0)):=by rw[hW2];exact heap_alloc_new W.drew _
  rw[yC hnew,Nat.zero_add];have e:(([]:List Value).toArray++(Lib.byteCells l).toArray++Builtin.zeroCells (Value.int .u8 0).cells (k-n))[j]? = (Lib.byteCells l)[j]?:=by
   rw[Array.getElem?_append_left (by simp[Lib.byteCells,hj])]
   simp
  rw[e];simp[Lib.byteCells,hj]⟩,hbW.size,hbW.trans (by rw[hW2];exact ((Below.refl _ _).drew.alloc (by have:=hbW.size;exact this) _))⟩
 have HR:Hid ((Builtin.append_ #[102,102] 102 #[.slice (some ⟨w.heap.size,0,none⟩) 0 0,.slice (some A) n c]).run Tryz.prog (w.alloc (.cells #[] 5))=.ok (.slice (some ⟨w.heap.size+1,0,none⟩) n k) W2):=yH (by rw[<-hW,hr];rw[hW];simp)
 clear hR hR2 hr hge hcm hk hW2 hbW hn;have he:∀w:World,(binOp .eql 102 (.slice (some A) n c) (.slice none 0 0)).run Tryz.prog w=.ok (.bool false) w:=λ_=>rfl
 have hWs:W.heap.size=w.heap.size+1:=by rw[hW];simp
 rw[hWs]at HE;go_enter Tryz.func211,Tryz.ntmps211;go_wp2_with (at_builtin;refine Lib.wpList_append_run _ rfl _ _ 102 102 rfl _ _ rfl rfl _ _ HR.out ?_)
 go_ret;exact HE.out
theorem BL7 {a b:List UInt8}(h:cpl a b<b.length):(IC a b).length=cpl a b+1:=by unfold IC;rw[List.length_take];omega
theorem AL8 (A1 A2:Option Addr)(a b:List UInt8)(n1 n2 c1 c2:Nat)(w:World)(h1:a.length=n1)(h2:b.length=n2)(l1:n1<=255)(l2:n2<=255)(hc2:n2<=c2)(hR1:AK w A1 a)(hR2:AK w A2 b)(hlt:cpl a b<b.length) :
  Calls Tryz.prog 203 #[.slice A1 n1 c1,.slice A2 n2 c2] w (N5 (IC a b) w):=by
 obtain⟨b2,o2,rfl,hb2,hcell2⟩:=hR2.at (by omega)
 have hK:=BK6 a b;obtain⟨K,hKd⟩:∃K,K=cpl a b:=⟨_,rfl⟩;have hbl:=BL7 hlt;rw[<-hKd]at hK hlt hbl;have HCL:Hid (∀W,Below w.heap.size w W->Calls Tryz.prog 211 #[.slice (some ⟨b2,o2,none⟩) (K+1) c2] W (N5 (IC a b) w)):=yH λW hb=>by
  refine (BL0 ⟨b2,o2,none⟩ (IC a b) (K+1) c2 W hbl (by omega) (by omega) ?_).mono ?_
  ·have:=(hR2.below hb).take (K+1)
   unfold IC;rw[<-hKd];exact this
  ·rintro e w' ⟨g,k,rfl,g1,g2,g3,g4,g5⟩;exact⟨g,k,rfl,g1,g2,g3,Nat.le_trans hb.size g4,hb.trans (g5.mono hb.size)⟩
 have HA1:Hid (∀j (hj:j<a.length),∃b1 o1,A1=some ⟨b1,o1,none⟩/\b1<w.heap.size/\w.cell? ⟨b1,o1+j,none⟩=some (.int .u8 (a[j].toNat:Int))):=yH λj hj=>by
  obtain⟨b1,o1,hA,hb,hc⟩:=hR1.at (l:=a) (by omega)
  exact⟨b1,o1,hA,hb,hc j hj⟩
 have HC2:=yH hcell2;have HS:=yH (And.intro (AE0 a b) (AE1 a b));have HKD:=yH hKd;have H1:=yH h1;have H2:=yH h2
 rw[h1]at hK;rw[h2]at hK hlt;clear hR1 hR2 hcell2 hbl hKd h1 h2;go_enter Tryz.func203,Tryz.ntmps203;go_wp2;go_loopw [5] (λi wr=>∃k:Nat,k<=K/\i=.int .i64 k/\Hid (Below w.heap.size w wr)) (λi _=>K+1-(intOf i).toNat)
 case atStart=>exact⟨0,by omega,rfl,yH (Below.refl _ _)⟩
 case round =>
  obtain⟨k,hk,rfl,HB⟩:=hrel;have hk2:k<n2:=by omega
  have hk3:(k:Int)+1<=(n2:Int):=by omega
  have hd2:decide (k<n2)=true:=decide_eq_true hk2;have d2:wr.cell? ⟨b2,o2+k,none⟩=_:=(HB.out.cell (p:=⟨b2,o2+k,none⟩) hb2).trans (HC2.out k (by rw[H2.out];exact hk2))
  obtain⟨y,hy⟩:∃y,y=b[k]'(by rw[H2.out];exact hk2):=⟨_,rfl⟩
  rw[<-hy]at d2;have HY:=yH hy;clear hy
  have hb2r:b2<wr.heap.size:=Nat.lt_of_lt_of_le hb2 HB.out.size;by_cases hk1:k<n1
  ·have hd1:decide (k<n1)=true:=decide_eq_true hk1;obtain⟨b1,o1,rfl,hb1,d1'⟩:=HA1.out k (by rw[H1.out];exact hk1)
   have d1:wr.cell? ⟨b1,o1+k,none⟩=_:=(HB.out.cell (p:=⟨b1,o1+k,none⟩) hb1).trans d1';obtain⟨x,hx⟩:∃x,x=a[k]'(by rw[H1.out];exact hk1):=⟨_,rfl⟩
   rw[<-hx]at d1;have HX:=yH hx;clear hx d1'
   have hb1r:b1<wr.heap.size:=Nat.lt_of_lt_of_le hb1 HB.out.size;have hxl:=x.toNat_lt;have hyl:=y.toNat_lt;by_cases hxy:x=y
   ·have hlt2:k<K:=by
     rcases Nat.lt_or_ge k K with h|h
     ·exact h
     ·exfalso
      have hkK:k=K:=by omega
      have h3:=HS.out.2 (by rw[<-HKD.out,<-hkK,H1.out];exact hk1) (by rw[<-HKD.out,<-hkK,H2.out];exact hk2)
      rw[<-HKD.out,<-hkK]at h3;apply h3
      rw[List.getElem?_eq_getElem (by rw[H1.out];exact hk1),List.getElem?_eq_getElem (by rw[H2.out];exact hk2),<-HX.out,<-HY.out,hxy]
    subst hxy;go_wp2;go_quiet (fail);go_wp2;go_roundw
    case rel=>exact⟨k+1,by omega,by go_num,yH (AE HB.out (AF _ _))⟩
    case measure=>simp[intOf];omega
   ·have hkK:k=K:=by
     rcases Nat.lt_or_ge k K with h|h
     ·exfalso
      have h3:=HS.out.1 k (by rw[<-HKD.out];exact h)
      rw[List.getElem?_eq_getElem (by rw[H1.out];exact hk1),List.getElem?_eq_getElem (by rw[H2.out];exact hk2),<-HX.out,<-HY.out]at h3
      injection h3 with h3
      exact hxy h3
     ·omega
    subst hkK;have hne0:¬x.toNat=y.toNat:=λe=>hxy (UInt8.toNat_inj.1 e)
    have hne1:((x.toNat:Int) == (y.toNat:Int))=false:=by simp;omega
    have hne2:decide (x.toNat=y.toNat)=false:=decide_eq_false hne0;clear hne0;go_wp2;go_quiet (fail);go_wp2_with fail;try rw[show (min ((k:Int)+1) (n2:Int)).toNat=k+1 by omega]
    refine (HCL.out _ (AE HB.out (AF _ _))).mono ?_;rintro e w2 ⟨g,k2,rfl,g1,g2,g3,g4,g5⟩;have HE:Hid (N5 (IC a b) w (.returned (.slice (some ⟨g,0,none⟩) (IC a b).length k2)) w2):=yH ⟨g,k2,rfl,g1,g2,g3,g4,g5⟩;clear g1 g2 g3 g4 g5;go_wp2;go_ret;exact HE.out
  ·have hkK:k=K:=by omega
   subst hkK;have hd1:decide (k<n1)=false:=decide_eq_false hk1;go_wp2;go_quiet (fail);go_wp2_with fail;try rw[show (min ((k:Int)+1) (n2:Int)).toNat=k+1 by omega]
   refine (HCL.out _ (AE HB.out (AF _ _))).mono ?_;rintro e w2 ⟨g,k2,rfl,g1,g2,g3,g4,g5⟩;have HE:Hid (N5 (IC a b) w (.returned (.slice (some ⟨g,0,none⟩) (IC a b).length k2)) w2):=yH ⟨g,k2,rfl,g1,g2,g3,g4,g5⟩;clear g1 g2 g3 g4 g5;go_wp2;go_ret;exact HE.out
theorem BE.uncons {X:Nat->Prop}{w:World}{vs:List Value}{e:En}{es:List En}(h:BE X w vs (e::es)):∃k v r,vs=k::v::r/\A7 X w k e.key/\A7 X w v e.val/\BE X w r es:=by
 match vs,h with
 | [],h=>exact (show False from h).elim
 | [_],h=>exact (show False from h).elim
 | k::v::r,h=>exact⟨k,v,r,rfl,h⟩
def OP (level:Nat)(A:List En)(b:En):List UInt8:=if level=0 then IC ((A.getLast?.map (·.key)).getD []) b.key else b.key
def IH (X:Nat->Prop)(x y:NO)(w:World)(e:Ending)(w':World):Prop :=
 ∃(A:List En) (b:En) (B:List En) (v:Value) (g:Nat),x.ens=A++b::B/\VS x.ens A.length/\A≠[]/\szE A<=510/\szE (b::B)<=510/\x.arr=some ⟨g,0,none⟩/\e=.returned v/\A7 X w' v (OP x.level A b) /\
  AM X w' { x with ens:=A,cap:=A.length,sole:=false }/\AM X w' { y with ens:=hd0 x.level (b::B),arr:=some ⟨g,A.length*2,none⟩,cap:=x.cap-A.length,sole:=false }/\AC (λk=>k=x.blk\/k=x.ab\/k=y.blk) w w'
theorem BH7 (X:Nat->Prop)(x y:NO)(w:World)(h:AM X w x)(hy:AM X w y)(hs:x.sole=true)(hyl:y.level=x.level)(hne:x.blk≠y.blk)(hy0:y.ens=[])(hX:∀k,X k->k<w.heap.size)
  (he:∀e ∈ x.ens,e.size<=130) (h1:510<szE x.ens) (h2:szE x.ens<=640) (hlt:x.level=0->∀A a b B,x.ens=A++a::b::B->cpl a.key b.key<b.key.length) :
  Calls Tryz.prog 186 #[x.ptr,y.ptr] w (IH X x y w):=by
 have HMD:=yH (AJ5 X x w h);have hxne:x.ens≠[]:=by intro e;rw[e]at h1;simp[szE]at h1
 obtain⟨g,harr⟩:=h.alone hs hxne;have c2:=h.c2;have c1:=h.c1;have hltx:=h.lt;have hlty:=hy.lt;have cy:w.heap[y.blk]? = some (.cells y.cells 138 (0,0)):=hy.blk;have hcap:=h.cap;have hN5:=h.short.1;rw[harr]at c2;have HX:=yH h;have HY:=yH hy
 obtain⟨N,hN⟩:∃N,N=x.ens.length:=⟨_,rfl⟩;rw[<-hN]at c2 hcap hN5;unfold maxLen at hcap;have HN:=yH hN;have HF:=yH (And.intro hs (And.intro hyl (And.intro hne (And.intro hy0 (And.intro hX (And.intro he (And.intro h1 (And.intro h2 hlt))))))));have HARR:=yH harr;clear h hy hs hyl hy0 hX he h1 h2 hlt hxne harr hN cy;unfold NO.ptr at *
 obtain⟨xb,hxb⟩:∃b,b=x.blk:=⟨_,rfl⟩;obtain⟨yb,hyb⟩:∃b,b=y.blk:=⟨_,rfl⟩;obtain⟨lv,hlv⟩:∃b,b=x.level:=⟨_,rfl⟩;obtain⟨cp,hcp⟩:∃b,b=x.cap:=⟨_,rfl⟩;rw[<-hxb,<-hcp]at c2;rw[<-hxb,<-hlv]at c1;rw[<-hxb]at hltx HMD ⊢
 rw[<-hyb]at hlty ⊢
 rw[<-hxb,<-hyb]at hne;rw[<-hcp]at hcap;have HXB:=yH hxb;have HYB:=yH hyb;have HLV:=yH hlv;have HCP:=yH hcp
 clear hxb hyb hlv hcp;go_enter Tryz.func186,Tryz.ntmps186;go_wp2_with fail;refine HMD.out.mono ?_;rintro e w1 ⟨m,rfl,hmid,hb1⟩;obtain⟨m1,m2,m3,m4⟩:=BY1 hmid HF.out.2.2.2.2.2.1 HF.out.2.2.2.2.2.2.1 HF.out.2.2.2.2.2.2.2.1;rw[<-HN.out]at m2;have c2w:w1.cell? ⟨xb,2,none⟩=some (.slice (some ⟨g,0,none⟩) N cp):=by rw[hb1.cell (p:=⟨xb,2,none⟩) hltx];exact c2
 have c1w:w1.cell? ⟨xb,1,none⟩=some (.int .i64 lv):=by rw[hb1.cell (p:=⟨xb,1,none⟩) hltx];exact c1
 have hlx1:xb<w1.heap.size:=Nat.lt_of_lt_of_le hltx hb1.size;have hly1:yb<w1.heap.size:=Nat.lt_of_lt_of_le hlty hb1.size;have fx:∀j,w1.frozen? ⟨xb,j,none⟩=false:=λj=>by
  have hbk:=hb1.block xb hltx;rw[HXB.out,HX.out.blk]at hbk;rw[HXB.out];simp[World.frozen?,hbk]
 have fy:∀j,w1.frozen? ⟨yb,j,none⟩=false:=λj=>by
  have hbk:=hb1.block yb hlty;rw[HYB.out,HY.out.blk]at hbk;rw[HYB.out];simp[World.frozen?,hbk]
 have cy2:w1.cell? ⟨yb,2,none⟩=some (.slice y.arr y.ens.length y.cap):=by
  have hbk:=hb1.block yb hlty;rw[HYB.out,HY.out.blk]at hbk;rw[HYB.out,yC hbk];rfl
 obtain⟨yv,hyv⟩:∃v,v=Value.slice y.arr y.ens.length y.cap:=⟨_,rfl⟩;rw[<-hyv]at cy2;clear hyv;have fx2:=fx 2;have fy2:=fy 2;clear fx fy;obtain⟨A,hA⟩:∃A,A=x.ens.take m:=⟨_,rfl⟩;obtain⟨b,B,hB⟩:∃b B,x.ens.drop m=b::B:=by
  cases hd:x.ens.drop m with
  | nil=>rw[List.drop_eq_nil_iff,<-HN.out]at hd;omega
  | cons b B=>exact⟨b,B,rfl⟩
 have hAB:x.ens=A++b::B:=by rw[hA,<-hB,List.take_append_drop]
 have hAl:A.length=m:=by rw[hA,List.length_take,<-HN.out];omega
 rw[<-hA]at m3;rw[hB]at m4;obtain⟨A0,a0,hA0⟩:∃A0 a0,A=A0++[a0]:=by
  rcases List.eq_nil_or_concat A with e|⟨A0,a0,e⟩
  ·rw[e]at hAl;simp at hAl;omega
  ·exact⟨A0,a0,by rw[e,List.concat_eq_append]⟩
 have hxne:x.ens≠[]:=by rw[hAB];simp
 have hent:=HX.out.ents;rw[HARR.out]at hent;obtain⟨L,vs,R,hL,hrow⟩:=hent.row hxne;obtain rfl:L=[]:=List.eq_nil_of_length_eq_zero hL;have hpr:=hrow.pairs;rw[hAB,hA0,List.append_assoc]at hpr;obtain⟨P0,Q0,rfl,hpA0,hpr2⟩:=hpr.split A0 ([a0]++b::B);obtain⟨P1,Q1,rfl,hpA1,hpr3⟩:=hpr2.split [a0] (b::B);have hP0:=hpA0.len;obtain⟨ak,av,P2,rfl,hak,hav,hP2⟩:=hpA1.uncons;obtain rfl:P2=[]:=List.eq_nil_of_length_eq_zero (by have:=hP2.len;simpa using this)
 obtain⟨bk,bv,Q,rfl,hbk,hbv,hpB⟩:=hpr3.uncons;have hA0l:A0.length=m-1:=by rw[hA0]at hAl;simp at hAl;omega
 have hgx:g≠xb:=by
  intro e;have h1:=hrow.blk;rw[e,HXB.out,HX.out.blk]at h1;injection h1 with h1
  injection h1 with _ h1 _
  exact absurd h1 (by decide)
 have hgy:g≠yb:=by
  intro e;have h1:=hrow.blk;rw[e,HYB.out,HY.out.blk]at h1;injection h1 with h1
  injection h1 with _ h1 _
  exact absurd h1 (by decide)
 have hgl:g<w.heap.size:=(Array.getElem?_eq_some_iff.1 hrow.blk).1;have hg1:w1.heap[g]? = some (.cells ((P0++[ak,av])++(bk::bv::(Q++R))).toArray 135 (0,0)):=by
  rw[hb1.block g hgl,hrow.blk];simp
 have fin:∀(W:World) (Q1:List Value) (v:Value),AC (λk=>k=xb\/k=g\/k=yb) w W->W.heap[xb]? = some (.cells ({ x with ens:=A,cap:=m }:NO).cells 138 (0,0))->W.heap[yb]? = some (.cells ({ y with ens:=hd0 lv (b::B),arr:=some ⟨g,m*2,none⟩,cap:=cp-m }:NO).cells 138 (0,0)) ->
   W.heap[g]? = some (.cells ((P0++[ak,av])++(Q1++R)).toArray 135 (0,0))->BE X w Q1 (hd0 lv (b::B))->A7 X W v (OP lv A b)->IH X x y w (.returned v) W:=by
  intro W Q1 v hk e1 e2 e3 hpq hv;have hab:x.ab=g:=by unfold NO.ab;rw[HARR.out]
  have hXk:∀k,k<w.heap.size->(k=xb\/k=g\/k=yb)->X k:=λk _ e=>by
   rcases e with rfl|rfl|rfl
   ·rw[HXB.out];exact HX.out.own
   ·exact hrow.own
   ·rw[HYB.out];exact HY.out.own
  have hpA:BE X w (P0++[ak,av]) A:=by rw[hA0];exact hpA0.app ⟨hak,hav,trivial⟩
  have rA:OT X W g [] (P0++[ak,av]) (Q1++R) A:=⟨e3,hrow.own,hpA.kept hk hXk (λ_ _ h=>h)⟩
  have rB:OT X W g (P0++[ak,av]) Q1 R (hd0 lv (b::B)):=⟨e3,hrow.own,hpq.kept hk hXk (λ_ _ h=>h)⟩
  have hPl:(P0++[ak,av]).length=m*2:=by rw[List.length_append,hP0,hA0l];simp;omega
  have hshA:DU A:=HX.out.short.sub (λe he=>by rw[hAB];simp[he]) (by rw[hAl,<-HN.out];omega)
  have hshB:DU (b::B):=HX.out.short.sub (λe he=>by rw[hAB];simp only[List.mem_append];exact .inr he) (by rw[hAB];simp)
  have hBl:(b::B).length=N-m:=by rw[<-hB,List.length_drop,<-HN.out]
  have hc:=HX.out.cap;rw[<-HCP.out]at hc;refine⟨A,b,B,v,g,hAB,by rw[hAl];exact hmid,by rw[hA0];simp,m3,m4,HARR.out,rfl,by rw[<-HLV.out];exact hv,?_,?_,?_⟩
  ·rw[hAl];refine⟨by show W.heap[x.blk]? = _;rw[<-HXB.out];exact e1,HX.out.own,by show E5 X W x.arr A;rw[HARR.out];exact rA.ents,⟨by show A.length<=m;omega,by show m<=maxLen;unfold maxLen;omega⟩,HX.out.small,hshA,λh=>by cases h⟩
  ·rw[hAl,<-HLV.out,<-HCP.out];have hl:=O6 lv (b::B);refine⟨by show W.heap[y.blk]? = _;rw[<-HYB.out];exact e2,HY.out.own,by show E5 X W (some ⟨g,m*2,none⟩) _;rw[<-hPl];exact rB.ents,⟨by show (hd0 lv (b::B)).length<=cp-m;rw[hl,hBl];omega,by show cp-m<=maxLen;unfold maxLen;omega⟩,HY.out.small,R4 hshB,λh=>by cases h⟩
  ·rw[<-HXB.out,<-HYB.out,hab];exact hk
 obtain⟨W3,hW3⟩:∃W3,W3=((w1.setCell ⟨xb,2,none⟩ (.slice (some ⟨g,0,none⟩) m m)).setCell ⟨yb,2,none⟩ (.slice (some ⟨g,m*2,none⟩) (N-m) (cp-m))).drew:=⟨_,rfl⟩;have hbx1:w1.heap[xb]? = some (.cells x.cells 138 (0,0)):=by rw[hb1.block xb hltx,HXB.out];exact HX.out.blk
 have hby1:w1.heap[yb]? = some (.cells y.cells 138 (0,0)):=by rw[hb1.block yb hlty,HYB.out];exact HY.out.blk
 have hkA:=AC.setCell (λk=>k=xb) w1 (b:=xb) (i:=2) rfl (.slice (some ⟨g,0,none⟩) m m)
 have hkB:=AC.setCell (λk=>k=yb) (w1.setCell ⟨xb,2,none⟩ (.slice (some ⟨g,0,none⟩) m m)) (b:=yb) (i:=2) rfl (.slice (some ⟨g,m*2,none⟩) (N-m) (cp-m))
 have hBl:(hd0 lv (b::B)).length=N-m:=by rw[O6,<-hB,List.length_drop,<-HN.out]
 have hx3:W3.heap[xb]? = some (.cells ({ x with ens:=A,cap:=m }:NO).cells 138 (0,0)):=by
  rw[hW3];have e1:=(hkB.block xb (Nat.lt_of_lt_of_le hlx1 hkA.size) hne).trans (BW hbx1 _);show ((w1.setCell ⟨xb,2,none⟩ (.slice (some ⟨g,0,none⟩) m m)).setCell ⟨yb,2,none⟩ (.slice (some ⟨g,m*2,none⟩) (N-m) (cp-m))).heap[xb]? = _;rw[e1];unfold NO.cells;simp only
  rw[HARR.out,hAl];rfl
 have hy3:W3.heap[yb]? = some (.cells ({ y with ens:=hd0 lv (b::B),arr:=some ⟨g,m*2,none⟩,cap:=cp-m }:NO).cells 138 (0,0)):=by
  rw[hW3];have e0:=(hkA.block yb hly1 (λe=>hne e.symm)).trans hby1
  have e1:=BW e0 (i:=2) (.slice (some ⟨g,m*2,none⟩) (N-m) (cp-m));show ((w1.setCell ⟨xb,2,none⟩ (.slice (some ⟨g,0,none⟩) m m)).setCell ⟨yb,2,none⟩ (.slice (some ⟨g,m*2,none⟩) (N-m) (cp-m))).heap[yb]? = _;rw[e1];unfold NO.cells;simp only
  rw[hBl];rfl
 have hgl1:g<w1.heap.size:=Nat.lt_of_lt_of_le hgl hb1.size;have hg3:W3.heap[g]? = some (.cells ((P0++[ak,av])++(bk::bv::(Q++R))).toArray 135 (0,0)):=by
  rw[hW3];exact ((hkB.block g (Nat.lt_of_lt_of_le hgl1 hkA.size) hgy).trans (hkA.block g hgl1 hgx)).trans hg1
 have hk3:AC (λk=>k=xb\/k=g\/k=yb) w W3:=by
  have e1:=(AC.ofBelow (S:=λk=>k=xb\/k=g\/k=yb) hb1).trans ((hkA.mono (λk e=>.inl e)).trans (hkB.mono (T:=λk=>k=xb\/k=g\/k=yb) (λk e=>.inr (.inr e))) (λk e=>.inl e)) (λk e=>.inl e)
  rw[hW3];exact⟨e1.os,e1.tape,e1.output,e1.size,e1.block⟩
 have hz3:xb<W3.heap.size/\yb<W3.heap.size/\g<W3.heap.size:=⟨(Array.getElem?_eq_some_iff.1 hx3).1,(Array.getElem?_eq_some_iff.1 hy3).1,(Array.getElem?_eq_some_iff.1 hg3).1⟩;obtain⟨z1,z2,z3⟩:=hz3;have q1:W3.cell? ⟨xb,1,none⟩=some (.int .i64 lv):=by rw[yC hx3,HLV.out];rfl
 have q2:W3.cell? ⟨xb,2,none⟩=some (.slice (some ⟨g,0,none⟩) m m):=by
  rw[yC hx3];unfold NO.cells;simp only
  rw[HARR.out,hAl];rfl
 have q3:W3.cell? ⟨yb,2,none⟩=some (.slice (some ⟨g,m*2,none⟩) (N-m) (cp-m)):=by
  rw[yC hy3];unfold NO.cells;simp only
  rw[hBl];rfl
 have hPl:(P0++[ak,av]).length=m*2:=by rw[List.length_append,hP0,hA0l];simp;omega
 have q4:W3.cell? ⟨g,m*2,none⟩=some bk:=by
  rw[yC hg3,List.getElem?_toArray,List.getElem?_append_right (by omega),hPl,Nat.sub_self];rfl
 have q5:W3.cell? ⟨g,(m-1)*2,none⟩=some ak:=by
  rw[yC hg3,List.getElem?_toArray,List.getElem?_append_left (by omega),List.getElem?_append_right (by omega),hP0,hA0l,Nat.sub_self];rfl
 have q6:W3.frozen? ⟨g,m*2,none⟩=false:=by simp[World.frozen?,hg3]
 obtain⟨kA,kc,rfl,hk1,hk2,hkR,hkX⟩:=id hak;obtain⟨bA,bc,rfl,hb1',hb2',hbR,hbX⟩:=id hbk;have hshA:=HX.out.short.2 a0 (by rw[hAB,hA0];simp)
 have hshB:=HX.out.short.2 b (by rw[hAB];simp)
 have HBT:Hid (lv=0->∀W,Below W3.heap.size W3 W->Calls Tryz.prog 203 #[.slice kA a0.key.length kc,.slice bA b.key.length bc] W λe w'=>∃v,e=.returned v/\IH X x y w (.returned v) w'):=yH (λhl0 W hb=>by
  have hcpl:cpl a0.key b.key<b.key.length:=HF.out.2.2.2.2.2.2.2.2 (by rw[<-HLV.out];exact hl0) A0 a0 b B (by rw[hAB,hA0];simp)
  have hkw:AC (λk=>k=xb\/k=g\/k=yb) w W:=hk3.trans (AC.ofBelow (S:=λ_=>False) hb) (λ_ h=>h.elim)
  have hnX:∀k,(k=xb\/k=g\/k=yb)->X k:=λk e=>by
   rcases e with rfl|rfl|rfl
   ·rw[HXB.out];exact HX.out.own
   ·exact hrow.own
   ·rw[HYB.out];exact HY.out.own
  refine (AL8 kA bA a0.key b.key _ _ kc bc W rfl rfl hshA.1 hshB.1 (by omega) (hkR.kept hkw (λad hA hl _ e=>hkX ad hA hl (hnX _ e))) (hbR.kept hkw (λad hA hl _ e=>hbX ad hA hl (hnX _ e))) hcpl).mono ?_
  rintro e w' ⟨g',k',rfl,g1,g2,g3,g4,g5⟩;have hb2:Below W3.heap.size W3 w':=hb.trans (g5.mono hb.size);have hkw2:AC (λk=>k=xb\/k=g\/k=yb) w w':=hk3.trans (AC.ofBelow (S:=λ_=>False) hb2) (λ_ h=>h.elim)
  refine⟨_,rfl,fin w' (.slice bA b.key.length bc::bv::Q) _ hkw2 ((hb2.block xb z1).trans hx3) ((hb2.block yb z2).trans hy3) ((hb2.block g z3).trans (by rw[hg3];rfl)) (by rw[hl0,J2];exact⟨hbk,hbv,hpB⟩) ?_⟩
  unfold OP;rw[if_pos hl0,hA0];simp only[List.getLast?_append,List.getLast?_singleton,Option.some_or,Option.map_some,Option.getD_some];refine⟨some ⟨g',0,none⟩,k',rfl,g1,g2,g3,λad hA hl hx=>?_⟩
  cases hA;have:=HF.out.2.2.2.2.1 _ hx
  have h5:=hk3.size;have h6:=hb.size
  simp only at this;omega)
 have HUP:Hid (0<lv->IH X x y w (.returned (.slice bA b.key.length bc)) (W3.setCell ⟨g,m*2,none⟩ (.slice none 0 0))):=yH (λhl0=>by
  have hkC:=AC.setCell (λk=>k=g) W3 (b:=g) (i:=m*2) rfl (.slice none 0 0)
  have hkw:AC (λk=>k=xb\/k=g\/k=yb) w (W3.setCell ⟨g,m*2,none⟩ (.slice none 0 0)):=hk3.trans (hkC.mono (T:=λk=>k=xb\/k=g\/k=yb) (λk e=>.inr (.inl e))) (λk e=>.inl e)
  have hnX:∀k,(k=xb\/k=g\/k=yb)->X k:=λk e=>by
   rcases e with rfl|rfl|rfl
   ·rw[HXB.out];exact HX.out.own
   ·exact hrow.own
   ·rw[HYB.out];exact HY.out.own
  have e0:hd0 lv (b::B)=⟨[],b.val⟩::B:=by unfold hd0;simp only;rw[if_neg (by omega)]
  refine fin _ (.slice none 0 0::bv::Q) _ hkw ((hkC.block xb z1 (λe=>hgx e.symm)).trans hx3) ((hkC.block yb z2 (λe=>hgy e.symm)).trans hy3) ?_ (by rw[e0];exact⟨A7.nil_ _ _,hbv,hpB⟩) ?_
  ·rw[BW hg3];congr 2
   apply Array.ext'
   rw[Array.toList_setIfInBounds,List.toList_toArray,List.toList_toArray,List.set_append,if_neg (by omega),hPl,Nat.sub_self]
   rfl
  ·unfold OP;rw[if_neg (by omega)]
   exact hbk.kept hkw (λk _ e=>hnX k e) (λ_ _ h=>h))
 have hm5:m<=512:=by omega
 have n1:a0.key.length<=255:=hshA.1;have n2:b.key.length<=255:=hshB.1;obtain⟨kl,hkl⟩:∃kl,kl=a0.key.length:=⟨_,rfl⟩;obtain⟨bl,hbl⟩:∃bl,bl=b.key.length:=⟨_,rfl⟩;rw[<-hkl]at HBT q5;rw[<-hbl]at HBT HUP q4;have f1:m<=cp:=by omega
 have f2:(m:Int)<=(N:Int):=by omega
 have f3:¬cp=m:=by omega
 have f4:m<=N:=by omega
 have f5:0<N-m:=by omega
 have f6:(0:Int)<=(m:Int)-1:=by omega
 have f7:(m:Int)-1<(m:Int):=by omega
 have f8:((m:Int)-1).toNat=m-1:=by omega
 have HW3:=yH hW3;clear hmid m3 m4 hA hB hAB hAl hA0 hxne hent hL hrow hpr hpA0 hpr2 hpA1 hpr3 hP0 hak hav hP2 hbk hbv hpB hA0l hgl hg1 fin hbx1 hby1 hkA hkB hBl hx3 hy3 hgl1 hg3 hk3 hPl hk1 hk2 hkR hkX hb1' hb2' hbR hbX hshA hshB hkl hbl n1 n2 hW3 hb1 hgx hgy;by_cases hl0:lv=0
 ·subst hl0;have HBC:=yH (HBT.out rfl);have f9:IntKind.i64.wrap ((m:Int)-1)=(m:Int)-1:=IntWalk.i64_in _ (by omega)
  have f10:(1:Int)<=(m:Int):=by omega
  clear HBT HUP;go_wp2;go_region
  rw[<-HW3.out];go_wp2;go_still_tail 13,(by kernel_rfl)
  go_wp2_with fail;refine (HBC.out _ (Below.refl _ _).drew).mono ?_;rintro e w' ⟨v,rfl,hp⟩;have HP:=yH hp;clear hp;go_wp2;go_ret;exact HP.out
 ·have hlp:(0:Int)<(lv:Int):=by omega
  have hle:((lv:Int) == 0)=false:=by simp;omega
  have HP:=yH (HUP.out (by omega))
  clear HBT HUP hl0;go_wp2;go_region
  rw[<-HW3.out];go_wp2;go_ret;exact HP.out
def Zip.In:{l:Nat}->Zip l->Prop
 | _,.top _=>False
 | _,.up ..=>True
def Zip.On:{l:Nat}->Zip l->Nat->List (NO × Nat)->Prop
 | _,.top _,_,sts=>sts=[]
 | l,.up p A k B z,q,sts=>∃(x:NO) (rest:List (NO × Nat)),sts=(x,A.length)::rest/\x.page=p/\x.level=l+1/\x.ens=A.map kEn++(⟨k,pgV q⟩::B.map kEn)/\(z.In->x.had=szU A k B)/\x.sole=true/\x.cap=x.ens.length/\z.On p rest
theorem XL {l:Nat}{A:List (Kid l)}{k:List UInt8}{c:Tr l}{B:List (Kid l)}:(A++(k,c)::B).map kEn=A.map kEn++(⟨k,pgV c.page⟩::B.map kEn):=by simp[kEn]
structure GT (P:Nat->Nat->List En->Prop)(key:List UInt8)(F:List En)(ps:List Nat)(b:Bool)(sts up:List (NO × Nat))(pre:List (NO × Nat))(x0:NO)(c0:Tr 0)(z0:Zip 0):Prop where
 sts:sts=pre++[(x0,AP key c0.es)]
 was:Was z0 c0 F ps key
 node:X5 x0 c0
 at_:b=A6 key c0.es
 on:z0.On c0.page (pre.reverse++up)
 rep:Rep P c0/\z0.Reps P
theorem VW {P:Nat->Nat->List En->Prop}{key:List UInt8}{F:List En}{ps:List Nat}{b:Bool}{Q:∀l,Zip l->Prop}(hQ:∀(l p:Nat) (A:List (Kid l)) (k:List UInt8) (B:List (Kid l)) (z:Zip (l+1)),Q (l+1) z->Q l (.up p A k B z)):∀{L:Nat} {t:Tr L} {z:Zip L} {sts up:List (NO × Nat)},Was z t F ps key->Rep P t->z.Reps P->NI key b L t sts->z.On t.page up->Q L z->∃pre x0 c0 z0,GT P key F ps b sts up pre x0 c0 z0/\Q 0 z0
 | 0,t,z,sts,up,hW,hR,hZ,hw,ho,hq=>by
  obtain⟨x,rfl,hx,hb⟩:=hw;exact⟨[],x,t,z,⟨rfl,hW,hx,hb,ho,hR,hZ⟩,hq⟩
 | L+1,t,z,sts,up,hW,hR,hZ,hw,ho,hq=>by
  obtain⟨x,rest,A,k,cc,B,rfl,hx,hks,hk,hB,hr⟩:=hw;have hR2:=hR.kid;rw[hks]at hR2;have hsz:t.size=szU A k B:=by rw[BQ,hks,PV]
  have hens:x.ens=A.map kEn++(⟨k,pgV cc.page⟩::B.map kEn):=by rw[hx.2.2.1,AZ,hks,XL]
  obtain⟨pre,x0,c0,z0,⟨h1,h2,h3,h4,h5,h6⟩,h7⟩:=VW hQ (z:=.up t.page A k B z) (up:=(x,A.length)::up) (hW.down hks hk hB) (hR2 (k,cc) (by simp)) ⟨λy hy=>hR2 y (by simp[hy]),λy hy=>hR2 y (by simp[hy]),hZ⟩ hr
   ⟨x,up,rfl,hx.1,hx.2.1,hens,λ_=>by rw[hx.2.2.2.2.1,hsz],hx.2.2.2.2.2.1,by rw[hx.2.2.2.2.2.2,hx.2.2.1],ho⟩ (hQ _ _ _ _ _ _ hq)
  exact⟨(x,A.length)::pre,x0,c0,z0,⟨by rw[h1];rfl,h2,h3,h4,by simpa using h5,h6⟩,h7⟩
end Go.Proofs.YtfbbjiidccbaiaaGreatDoor
