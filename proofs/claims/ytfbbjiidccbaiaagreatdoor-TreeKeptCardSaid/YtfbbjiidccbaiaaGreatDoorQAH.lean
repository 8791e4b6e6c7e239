/- Texts of one proof, one behind the other: TC, TD, TE, TF, TJ, TK. -/
import Derived.Test.YtfbbjiidccbaiaaGreatDoorQAG
import Derived.Test.YtfbbjiidccbaiaaGreatDoorQAA
import Derived.Test.YtfbbjiidccbaiaaGreatDoorQAD
import Derived.Test.YtfbbjiidccbaiaaGreatDoorQAC
import Derived.Deep.QuietTactic
import Derived.BigQuiet
import Derived.IntWalk
set_option maxRecDepth 100000
set_option maxHeartbeats 6400000
namespace Go.Proofs.YtfbbjiidccbaiaaGreatDoor
open Go.RowKit
def Tr:Nat->Type
 | 0=>Nat × List En
 | L+1=>Nat × List (List UInt8 × Tr L)
abbrev Kid (L:Nat):=List UInt8 × Tr L
def Tr.leaf (p:Nat)(es:List En):Tr 0:=(p,es)
def Tr.node {L:Nat}(p:Nat)(ks:List (Kid L)):Tr (L+1):=(p,ks)
def Tr.es (t:Tr 0):List En:=Prod.snd (α:=Nat) (β:=List En) t
def Tr.ks {L:Nat}(t:Tr (L+1)):List (Kid L):=Prod.snd (α:=Nat) (β:=List (Kid L)) t
def CB3:(L:Nat)->Tr L->Nat
 | 0,t=>Prod.fst (α:=Nat) (β:=List En) t
 | L+1,t=>Prod.fst (α:=Nat) (β:=List (Kid L)) t
def Tr.page {L:Nat}(t:Tr L):Nat:=CB3 L t
theorem Tr.node_eta {L:Nat}(t:Tr (L+1)):t=.node t.page t.ks:=rfl
@[simp] theorem CA1 (p:Nat)(es:List En):(Tr.leaf p es).page=p:=rfl
@[simp] theorem D6 (p:Nat)(es:List En):(Tr.leaf p es).es=es:=rfl
@[simp] theorem FA {L:Nat}(p:Nat)(ks:List (Kid L)):(Tr.node p ks).page=p:=rfl
@[simp] theorem A5 {L:Nat}(p:Nat)(ks:List (Kid L)):(Tr.node p ks).ks=ks:=rfl
def pgV (p:Nat):List UInt8:=[UInt8.ofNat (p / 256),UInt8.ofNat p]
def kEn {L:Nat}(k:Kid L):En:=⟨k.1,pgV k.2.page⟩
theorem CV {L:Nat}(k:Kid L)(h:k.2.page<65536):(kEn k).child=k.2.page:=by
 simp[kEn,En.child,pgV];omega
def CD8:(L:Nat)->Tr L->List En
 | 0,t=>t.es
 | _+1,t=>t.ks.map kEn
def Tr.ens {L:Nat}(t:Tr L):List En:=CD8 L t
theorem IA (t:Tr 0):t.ens=t.es:=rfl
theorem AZ {L:Nat}(t:Tr (L+1)):t.ens=t.ks.map kEn:=rfl
def Tr.size {L:Nat}(t:Tr L):Nat:=szE t.ens
def BI6:(L:Nat)->Tr L->List En
 | 0,t=>t.es
 | L+1,t=>t.ks.flatMap λk=>BI6 L k.2
def Tr.flat {L:Nat}(t:Tr L):List En:=BI6 L t
def LZ:(L:Nat)->Tr L->List Nat
 | 0,t=>[t.page]
 | L+1,t=>t.page::t.ks.flatMap λk=>LZ L k.2
def Tr.pages {L:Nat}(t:Tr L):List Nat:=LZ L t
def flK {L:Nat}(ks:List (Kid L)):List En:=ks.flatMap λk=>k.2.flat
def pgK {L:Nat}(ks:List (Kid L)):List Nat:=ks.flatMap λk=>k.2.pages
theorem B6 {L:Nat}(t:Tr (L+1)):t.flat=flK t.ks:=rfl
theorem AQ {L:Nat}(t:Tr (L+1)):t.pages=t.page::pgK t.ks:=rfl
theorem DH {L:Nat}(A B:List (Kid L)):flK (A++B)=flK A++flK B:=by simp[flK]
theorem BH {L:Nat}(a:Kid L)(B:List (Kid L)):flK (a::B)=a.2.flat++flK B:=by simp[flK]
theorem A8 {L:Nat}(A B:List (Kid L)):pgK (A++B)=pgK A++pgK B:=by simp[pgK]
theorem AN {L:Nat}(a:Kid L)(B:List (Kid L)):pgK (a::B)=a.2.pages++pgK B:=by simp[pgK]
theorem ET {L:Nat}:flK ([]:List (Kid L))=[]:=rfl
theorem FI {L:Nat}:pgK ([]:List (Kid L))=[]:=rfl
theorem AS {L:Nat}(t:Tr L):t.page ∈ t.pages:=by
 cases L with
 | zero=>simp[Tr.pages,LZ]
 | succ L=>rw[AQ];simp
def szK {L:Nat}(ks:List (Kid L)):Nat:=szE (ks.map kEn)
theorem BQ {L:Nat}(t:Tr (L+1)):t.size=szK t.ks:=rfl
theorem BR (t:Tr 0):t.size=szE t.es:=rfl
theorem DD {L:Nat}(A B:List (Kid L)):szK (A++B)=szK A+szK B:=by simp[szK,CX]
theorem BG {L:Nat}(a:Kid L)(B:List (Kid L)):szK (a::B)=4+a.1.length+szK B:=by
 simp[szK,szE,kEn,En.size,pgV];omega
theorem IK {L:Nat}:szK ([]:List (Kid L))=0:=rfl
def CA9 (P:Nat->Nat->List En->Prop):(L:Nat)->Tr L->Prop
 | 0,t=>P t.page 0 t.es
 | L+1,t=>P t.page (L+1) (t.ks.map kEn)/\∀k ∈ t.ks,CA9 P L k.2
def Rep (P:Nat->Nat->List En->Prop){L:Nat}(t:Tr L):Prop:=CA9 P L t
theorem Rep.at_ {P:Nat->Nat->List En->Prop}{L:Nat}{t:Tr L}(h:Rep P t):P t.page L t.ens:=by
 cases L with
 | zero=>exact h
 | succ L=>exact h.1
theorem Rep.kid {P:Nat->Nat->List En->Prop}{L:Nat}{t:Tr (L+1)}(h:Rep P t):∀k ∈ t.ks,Rep P k.2:=h.2
theorem Rep.mk {P:Nat->Nat->List En->Prop}{L:Nat}{t:Tr (L+1)}(h:P t.page (L+1) t.ens)(hk:∀k ∈ t.ks,Rep P k.2):Rep P t:=⟨h,hk⟩
theorem Rep.congr {P P':Nat->Nat->List En->Prop}{L:Nat}{t:Tr L}(h:Rep P t)(hF:∀q ∈ t.pages,∀l es,P q l es->P' q l es):Rep P' t:=by
 induction L with
 | zero=>exact hF _ (AS t) _ _ h
 | succ L ih =>
  refine⟨hF _ (AS t) _ _ h.1,λk hk=>ih (h.2 k hk) λq hq=>hF q ?_⟩
  rw[AQ];exact List.mem_cons_of_mem _ (List.mem_flatMap.2 ⟨k,hk,hq⟩)
def okL (e:En):Prop:=0<e.key.length/\e.key.length<=96/\e.val.length<=32
def sep (L:Nat)(k:List UInt8):Nat:=if L=0 then 0 else k.length
def Far {L:Nat}(a b:Kid L):Prop:=510<a.2.size+b.2.size+sep L b.1
def FG {L:Nat}:List (Kid L)->Prop
 | []=>True
 | a::r=>a.1=[]/\∀x ∈ r,0<x.1.length/\x.1.length<=96
def BF2:(L:Nat)->Tr L->Prop
 | 0,t=>∀e ∈ t.es,okL e
 | L+1,t=>FG t.ks/\(∀k ∈ t.ks,BF2 L k.2/\k.2.ens≠[]/\k.2.size<=510/\1<=k.2.page/\k.2.page<4096)/\Chn Far t.ks
def FS {L:Nat}(t:Tr L):Prop:=BF2 L t
def CJ {L:Nat}(t:Tr L):Prop:=FS t/\t.ens≠[]/\t.size<=510/\1<=t.page/\t.page<4096
def EX {L:Nat}(ks:List (Kid L)):Prop:=FG ks/\∀k ∈ ks,CJ k.2
theorem AL {L:Nat}{t:Tr (L+1)}:FS t ↔ EX t.ks/\Chn Far t.ks:=by
 unfold EX;rw[and_assoc];rfl
theorem IV {t:Tr 0}:FS t ↔ ∀e ∈ t.es,okL e:=Iff.rfl
theorem EU {L:Nat}{t:Tr (L+1)}:t.ens≠[] ↔ t.ks≠[]:=by rw[AZ];simp
theorem K8 {L:Nat}{t:Tr (L+1)}(h:t.ens≠[]):4<=t.size:=by
 rw[BQ];cases he:t.ks with
 | nil=>exact absurd he (EU.1 h)
 | cons a r=>rw[BG];omega
def nxt {L:Nat}(r:List (Kid L))(hi:Option (List UInt8)):Option (List UInt8):=match r with
 | []=>hi
 | b::_=>some b.1
def hdK {L:Nat}(r:List (Kid L)):List UInt8:=match r with
 | []=>[]
 | b::_=>b.1
def BE2 {L:Nat}(O:Tr L->List UInt8->Option (List UInt8)->Prop):List UInt8->List (Kid L)->Option (List UInt8)->Prop
 | _,[],_=>True
 | lo,a::r,hi=>O a.2 lo (nxt r hi)/\BE2 O (hdK r) r hi
def CB4:(L:Nat)->Tr L->List UInt8->Option (List UInt8)->Prop
 | 0,t,lo,hi=>Bd lo hi/\Srt t.es/\∀e ∈ t.es,Inn lo hi e.key
 | L+1,t,lo,hi=>Bd lo hi/\BE2 (CB4 L) lo t.ks hi
def Ord {L:Nat}(t:Tr L)(lo:List UInt8)(hi:Option (List UInt8)):Prop:=CB4 L t lo hi
def D1 {L:Nat}(lo:List UInt8)(ks:List (Kid L))(hi:Option (List UInt8)):Prop:=BE2 (λt lo hi=>Ord t lo hi) lo ks hi
theorem AA9 {t:Tr 0}{lo:List UInt8}{hi:Option (List UInt8)}:Ord t lo hi ↔ Bd lo hi/\Srt t.es/\∀e ∈ t.es,Inn lo hi e.key:=Iff.rfl
theorem B9 {L:Nat}{t:Tr (L+1)}{lo:List UInt8}{hi:Option (List UInt8)}:Ord t lo hi ↔ Bd lo hi/\D1 lo t.ks hi:=Iff.rfl
theorem Ord.bd {L:Nat}{t:Tr L}{lo:List UInt8}{hi:Option (List UInt8)}(h:Ord t lo hi):Bd lo hi:=by
 cases L with
 | zero=>exact h.1
 | succ L=>exact h.1
theorem BF {L:Nat}{lo:List UInt8}{a:Kid L}{r:List (Kid L)}{hi:Option (List UInt8)}:D1 lo (a::r) hi ↔ Ord a.2 lo (nxt r hi)/\D1 (hdK r) r hi:=Iff.rfl
def lof {L:Nat}(lo:List UInt8)(A:List (Kid L))(k:List UInt8):List UInt8:=match A with
 | []=>lo
 | _::_=>k
theorem BR2 {L:Nat}(A:List (Kid L))(b:Kid L)(B:List (Kid L))(hi:Option (List UInt8)):nxt (A++b::B) hi=nxt A (some b.1):=by cases A <;> rfl
theorem CD {L:Nat}(A:List (Kid L))(b:Kid L)(B:List (Kid L)){lo:List UInt8}{hi:Option (List UInt8)} :
  D1 lo (A++b::B) hi ↔ D1 lo A (some b.1)/\Ord b.2 (lof lo A b.1) (nxt B hi)/\D1 (hdK B) B hi:=by
 induction A generalizing lo with
 | nil =>
  rw[List.nil_append,BF];exact⟨λh=>⟨trivial,h.1,h.2⟩,λh=>⟨h.2.1,h.2.2⟩⟩
 | cons a A ih =>
  rw[List.cons_append,BF,BF,BR2,ih];cases A with
  | nil=>exact⟨λh=>⟨⟨h.1,trivial⟩,h.2.2.1,h.2.2.2⟩,λh=>⟨h.1.1,trivial,h.2.1,h.2.2⟩⟩
  | cons a' A=>exact⟨λh=>⟨⟨h.1,h.2.1⟩,h.2.2⟩,λh=>⟨h.1.1,h.1.2,h.2⟩⟩
theorem Ord.lower {L:Nat}{t:Tr L}{lo lo':List UInt8}{hi:Option (List UInt8)}(h:Ord t lo hi)(hl:le lo' lo):Ord t lo' hi:=by
 induction L generalizing lo lo' hi with
 | zero=>exact⟨λx hx=>FN hl (h.1 x hx),h.2.1,λe he=>⟨KS hl (h.2.2 e he).1,(h.2.2 e he).2⟩⟩
 | succ L ih =>
  refine⟨λx hx=>FN hl (h.1 x hx),?_⟩
  have h2:=h.2;cases hk:t.ks with
  | nil=>trivial
  | cons a r =>
   rw[hk]at h2;exact⟨ih h2.1 hl,h2.2⟩
theorem O0 {L:Nat}{a:Kid L}{r:List (Kid L)}{lo:List UInt8}{hi:Option (List UInt8)}(h:D1 lo (a::r) hi):Bd lo hi:=by
 induction r generalizing lo a with
 | nil=>exact (BF.1 h).1.bd
 | cons b r ih =>
  have h1:=BF.1 h;intro x hx;exact C7 (h1.1.bd _ rfl) (ih h1.2 x hx)
theorem NV {L:Nat}(ih:∀(t:Tr L) {lo:List UInt8} {hi:Option (List UInt8)},Ord t lo hi->Srt t.flat/\∀e ∈ t.flat,Inn lo hi e.key)
  (ks:List (Kid L)) {lo:List UInt8} {hi:Option (List UInt8)} (h:D1 lo ks hi):Srt (flK ks)/\∀e ∈ flK ks,Inn lo hi e.key:=by
 induction ks generalizing lo with
 | nil=>exact⟨trivial,λe he=>by cases he⟩
 | cons a r ihr =>
  have h1:=BF.1 h;rw[BH];have h3:=ih _ h1.1;cases r with
  | nil =>
   rw[ET,List.append_nil];exact h3
  | cons b r =>
   have hlb:lt lo b.1:=h1.1.bd _ rfl;have hb:=O0 h1.2;have h4:=ihr h1.2;refine⟨DE.2 ⟨h3.1,h4.1,λx hx y hy=>EO ((h3.2 x hx).2 _ rfl) (h4.2 y hy).1⟩,λe he=>?_⟩
   rcases List.mem_append.1 he with he|he
   ·exact⟨(h3.2 e he).1,λx hx=>C7 ((h3.2 e he).2 _ rfl) (hb x hx)⟩
   ·exact⟨KS hlb.le (h4.2 e he).1,(h4.2 e he).2⟩
theorem Ord.flat {L:Nat}{t:Tr L}{lo:List UInt8}{hi:Option (List UInt8)}(h:Ord t lo hi):Srt t.flat/\∀e ∈ t.flat,Inn lo hi e.key:=by
 induction L generalizing lo hi with
 | zero=>exact h.2
 | succ L ih=>exact NV (λt {_ _} ht=>ih ht) _ h.2
def CB6:(L:Nat)->Tr L->List UInt8->Tr L->Tr L->List Nat->Prop
 | 0,x,_,y,z,dead=>z=.leaf x.page (x.es++y.es)/\dead=[y.page]
 | L+1,x,k,y,z,dead=>∃X a b Y,x.ks=X++[a]/\y.ks=b::Y /\
   (Far a (k,b.2)/\z=.node x.page (X++a::(k,b.2)::Y)/\dead=[y.page] \/
   ¬Far a (k,b.2)/\∃m dd,CB6 L a.2 k b.2 m dd/\z=.node x.page (X++(a.1,m)::Y)/\dead=y.page::dd)
def Mrg {L:Nat}(x:Tr L)(k:List UInt8)(y z:Tr L)(dead:List Nat):Prop:=CB6 L x k y z dead
theorem IW {L:Nat}{A:List (Kid L)}{a b:Kid L}{B:List (Kid L)}(h:FG (A++a::b::B)):0<b.1.length/\b.1.length<=96:=by
 cases A with
 | nil=>exact h.2 b (by simp)
 | cons x A=>exact h.2 b (by simp)
theorem EK {L:Nat}{A:List (Kid L)}{a:Kid L}{B B':List (Kid L)}{t:Tr L}(h:FG (A++a::B))(hB:∀x ∈ B',0<x.1.length/\x.1.length<=96):FG (A++(a.1,t)::B'):=by
 cases A with
 | nil=>exact⟨h.1,hB⟩
 | cons x A =>
  refine⟨h.1,λy hy=>?_⟩
  have hy:y ∈ A++(a.1,t)::B':=hy;simp only[List.mem_append,List.mem_cons]at hy;rcases hy with hy|rfl|hy
  ·exact h.2 y (by simp[hy])
  ·exact h.2 a (by simp)
  ·exact hB y hy
theorem FP {L:Nat}{A:List (Kid L)}{a:Kid L}{B:List (Kid L)}(h:FG (A++a::B)):∀x ∈ B,0<x.1.length/\x.1.length<=96:=by
 cases A with
 | nil=>exact h.2
 | cons x A=>exact λy hy=>h.2 y (by simp[hy])
structure CC5 {L:Nat}(x:Tr L)(k:List UInt8)(y z:Tr L)(dead:List Nat):Prop where
 loose:FS z
 ne:z.ens≠[]
 left:x.size<=z.size
 right:y.size<=z.size
 size:z.size<=x.size+y.size+sep L k
 page:z.page=x.page
 flat:z.flat=x.flat++y.flat
 ord:∀lo hi,Ord x lo (some k)->Ord y k hi->Ord z lo hi
 perm:(z.pages++dead).Perm (x.pages++y.pages)
theorem AU1 {L:Nat}{X:List (Kid L)}{a:Kid L}{lo:List UInt8}{hi:Option (List UInt8)}:D1 lo (X++[a]) hi ↔ D1 lo X (some a.1)/\Ord a.2 (lof lo X a.1) hi:=by
 rw[CD];exact⟨λh=>⟨h.1,h.2.1⟩,λh=>⟨h.1,h.2,trivial⟩⟩
theorem BY0 {L:Nat}{x y z:Tr L}{k:List UInt8}{dead:List Nat}(hx:FS x)(hy:FS y)(hnx:x.ens≠[])(hny:y.ens≠[])(hk:0<L->0<k.length/\k.length<=96)(h:Mrg x k y z dead):CC5 x k y z dead:=by
 induction L generalizing k dead with
 | zero =>
  obtain⟨rfl,rfl⟩:=h;refine⟨?_,?_,?_,?_,?_,rfl,rfl,?_,?_⟩
  ·rw[IV,D6];intro e he;rcases List.mem_append.1 he with he|he
   ·exact hx e he
   ·exact hy e he
  ·rw[IA,D6];rw[IA]at hnx;simp[hnx]
  ·rw[BR,BR,D6,CX];omega
  ·rw[BR,BR,D6,CX];omega
  ·rw[BR,BR,BR,D6,CX];omega
  ·intro lo hi h1 h2;refine⟨λe he=>C7 (h1.1 _ rfl) (h2.1 e he),DE.2 ⟨h1.2.1,h2.2.1,λa ha b hb=>EO ((h1.2.2 a ha).2 _ rfl) (h2.2.2 b hb).1⟩,λe he=>?_⟩
   rcases List.mem_append.1 he with he|he
   ·exact⟨(h1.2.2 e he).1,λx hx=>C7 ((h1.2.2 e he).2 _ rfl) (h2.1 x hx)⟩
   ·exact⟨KS (h1.1 _ rfl).le (h2.2.2 e he).1,(h2.2.2 e he).2⟩
  ·exact List.Perm.refl _
 | succ L ih =>
  obtain⟨X,a,b,Y,hX,hY,hcase⟩:=h;obtain⟨hxk,hxc⟩:=AL.1 hx;obtain⟨hyk,hyc⟩:=AL.1 hy;rw[hX]at hxk hxc;rw[hY]at hyk hyc;have hk1:=hk (by omega)
  have hb0:b.1=[]:=hyk.1.1;have ha:=hxk.2 a (by simp)
  have hb:=hyk.2 b (by simp)
  have hxs:x.size=szK X+(4+a.1.length):=by rw[BQ,hX,DD,BG,IK];omega
  have hys:y.size=4+szK Y:=by rw[BQ,hY,BG,hb0];simp
  have hsep:sep (L+1) k=k.length:=by simp[sep]
  have hYk:∀u ∈ Y,0<u.1.length/\u.1.length<=96:=hyk.1.2;have hxf:x.flat=flK X++a.2.flat:=by rw[B6,hX,DH,BH,ET,List.append_nil]
  have hyf:y.flat=b.2.flat++flK Y:=by rw[B6,hY,BH]
  have hxp:x.pages=x.page::(pgK X++a.2.pages):=by rw[AQ,hX,A8,AN,FI,List.append_nil]
  have hyp:y.pages=y.page::(b.2.pages++pgK Y):=by rw[AQ,hY,AN]
  have hox:∀lo,Ord x lo (some k)->D1 lo X (some a.1)/\Ord a.2 (lof lo X a.1) (some k):=λlo h=>by
   have:=(B9.1 h).2
   rw[hX]at this;exact AU1.1 this
  have hoy:∀hi,Ord y k hi->Ord b.2 k (nxt Y hi)/\D1 (hdK Y) Y hi:=λhi h=>by
   have:=(B9.1 h).2
   rw[hY]at this;exact BF.1 this
  rcases hcase with⟨hfar,rfl,rfl⟩|⟨hnf,m,dd,hm,rfl,rfl⟩
  ·
   refine⟨AL.2 ⟨⟨?_,?_⟩,?_⟩,?_,?_,?_,?_,rfl,?_,?_,?_⟩
   ·rw[A5];exact EK (t:=a.2) hxk.1 λu hu=>(List.mem_cons.1 hu).elim (λe=>e ▸ hk1) (hYk u)
   ·rw[A5];intro u hu;simp only[List.mem_append,List.mem_cons]at hu;rcases hu with hu|rfl|rfl|hu
    ·exact hxk.2 u (by simp[hu])
    ·exact ha
    ·exact hb
    ·exact hyk.2 u (by simp[hu])
   ·rw[A5,Chn.two];exact⟨hxc,hfar,hyc.first λu hu=>hu⟩
   ·rw[EU,A5];simp
   ·rw[hxs,BQ,A5,DD,BG,BG];dsimp only;omega
   ·rw[hys,BQ,A5,DD,BG,BG];dsimp only;omega
   ·rw[hsep,hxs,hys,BQ,A5,DD,BG,BG];dsimp only;omega
   ·rw[hxf,hyf,B6,A5,DH,BH,BH];simp
   ·intro lo hi h1 h2;rw[B9,A5];refine⟨λe he=>C7 (h1.bd _ rfl) (h2.bd e he),?_⟩
    rw[CD];exact⟨(hox lo h1).1,(hox lo h1).2,hoy hi h2⟩
   ·rw[hxp,hyp,AQ,A5,A8,AN,AN,FA,List.perm_iff_count];intro q;simp only[List.count_append,List.count_cons,List.count_nil];omega
  ·have hM:=ih ha.1 hb.1 ha.2.1 hb.2.1 (λ_=>hk1) hm
   have hms:m.size<=510:=by
    have:=hM.size
    unfold Far at hnf;simp only at hnf;omega
   have hmt:CJ m:=⟨hM.loose,hM.ne,hms,by rw[hM.page];exact ha.2.2.2.1,by rw[hM.page];exact ha.2.2.2.2⟩
   have hx4:=K8 hnx;have hy4:=K8 hny;refine⟨AL.2 ⟨⟨?_,?_⟩,?_⟩,?_,?_,?_,?_,rfl,?_,?_,?_⟩
   ·rw[A5];exact EK hxk.1 hYk
   ·rw[A5];intro u hu;simp only[List.mem_append,List.mem_cons]at hu;rcases hu with hu|rfl|hu
    ·exact hxk.2 u (by simp[hu])
    ·exact hmt
    ·exact hyk.2 u (by simp[hu])
   ·rw[A5,Chn.mid];refine⟨hxc.last λu hu=>?_,hyc.first λu hu=>?_⟩
    ·have:=hM.left;unfold Far at hu ⊢;simp only;omega
    ·have:=hM.right;unfold Far at hu ⊢;simp only;omega
   ·rw[EU,A5];simp
   ·rw[hxs,BQ,A5,DD,BG];dsimp only;omega
   ·rw[hys,BQ,A5,DD,BG];omega
   ·rw[hsep,hxs,hys,BQ,A5,DD,BG];dsimp only;omega
   ·rw[hxf,hyf,B6,A5,DH,BH,hM.flat];simp
   ·intro lo hi h1 h2;rw[B9,A5];refine⟨λe he=>C7 (h1.bd _ rfl) (h2.bd e he),?_⟩
    rw[CD];exact⟨(hox lo h1).1,hM.ord _ _ (hox lo h1).2 (hoy hi h2).1,(hoy hi h2).2⟩
   ·have hp:=hM.perm;rw[List.perm_iff_count]at hp;rw[hxp,hyp,AQ,A5,A8,AN,FA,List.perm_iff_count];intro q;have:=hp q
    simp only[List.count_append,List.count_cons]at this ⊢
    omega
def IG {L:Nat}(ks:List (Kid L))(at_:Nat)(ks':List (Kid L))(dead:List Nat):Prop :=
 (∃A a b B m,ks=A++a::b::B/\A.length=at_/\¬Far a b/\Mrg a.2 b.1 b.2 m dead/\ks'=A++(a.1,m)::B) \/
 (ks'=ks/\dead=[]/\∀A a b B,ks=A++a::b::B->A.length=at_->Far a b)
structure IE {L:Nat}(ks ks':List (Kid L))(born dead:List Nat):Prop where
 flat:flK ks'=flK ks
 ord:∀lo hi,D1 lo ks hi->D1 lo ks' hi
 perm:(pgK ks'++dead).Perm (pgK ks++born)
theorem IE.refl {L:Nat}(ks:List (Kid L)):IE ks ks [] []:=⟨rfl,λ_ _ h=>h,by simp⟩
theorem IE.trans {L:Nat}{a b c:List (Kid L)}{x y u v:List Nat}(h:IE a b x y)(k:IE b c u v):IE a c (x++u) (y++v) :=
 ⟨k.flat.trans h.flat,λlo hi ho=>k.ord lo hi (h.ord lo hi ho),by
  have h1:=h.perm;have h2:=k.perm
  rw[List.perm_iff_count]at h1 h2 ⊢
  intro q;have e1:=h1 q;have e2:=h2 q
  simp only[List.count_append]at e1 e2 ⊢
  omega⟩
theorem M2 {L:Nat}{A:List (Kid L)}{a b:Kid L}{B:List (Kid L)}{ks':List (Kid L)}{dead:List Nat}(ht:EX (A++a::b::B))(h:IG (A++a::b::B) A.length ks' dead) :
  (Far a b/\ks'=A++a::b::B/\dead=[]) \/
  (¬Far a b/\∃m,ks'=A++(a.1,m)::B/\CJ m/\a.2.size<=m.size/\b.2.size<=m.size/\EX ks'/\IE (A++a::b::B) ks' [] dead/\szK ks'+4+b.1.length=szK (A++a::b::B)):=by
 rcases h with⟨A',a',b',B',m,he,hl,hn,hm,rfl⟩|⟨rfl,rfl,hf⟩
 ·obtain⟨e0,e1⟩:=List.append_inj he hl.symm;injection e1 with e1 e2
  injection e2 with e2 e3
  subst e0 e1 e2 e3;refine .inr ⟨hn,m,rfl,?_⟩;have hbk:=IW ht.1;have ha:=ht.2 a (by simp)
  have hb:=ht.2 b (by simp)
  have hM:=BY0 ha.1 hb.1 ha.2.1 hb.2.1 (λ_=>hbk) hm
  have hms:m.size<=510:=by
   have:=hM.size
   unfold Far at hn;omega
  have hmt:CJ m:=⟨hM.loose,hM.ne,hms,by rw[hM.page];exact ha.2.2.2.1,by rw[hM.page];exact ha.2.2.2.2⟩
  have hB:=FP ht.1;refine⟨hmt,hM.left,hM.right,⟨EK (t:=m) ht.1 (λx hx=>hB x (by simp[hx])),λk hk=>?_⟩,⟨?_,?_,?_⟩,?_⟩
  ·simp only[List.mem_append,List.mem_cons]at hk;rcases hk with hk|rfl|hk
   ·exact ht.2 k (by simp[hk])
   ·exact hmt
   ·exact ht.2 k (by simp[hk])
  ·rw[DH,DH,BH,BH,BH,hM.flat];simp
  ·intro lo hi ho;rw[CD]at ho;have h2:=BF.1 ho.2.2;rw[CD];exact⟨ho.1,hM.ord _ _ ho.2.1 h2.1,h2.2⟩
  ·have hp:=hM.perm;rw[List.perm_iff_count]at hp ⊢
   intro q;have:=hp q
   rw[A8,A8,AN,AN,AN];simp only[List.count_append,List.count_nil]at this ⊢
   omega
  ·rw[DD,DD,BG,BG,BG];simp only;omega
 ·exact .inl ⟨hf A a b B rfl rfl,rfl,rfl⟩
theorem AV3 {L:Nat}{ks ks':List (Kid L)}{at_:Nat}{dead:List Nat}(hl:ks.length<=at_+1)(h:IG ks at_ ks' dead):ks'=ks/\dead=[]:=by
 rcases h with⟨A,a,b,B,m,rfl,h2,_⟩|⟨rfl,rfl,_⟩
 ·simp at hl;omega
 ·exact⟨rfl,rfl⟩
theorem AV4 {L:Nat}{A:List (Kid L)}{a b:Kid L}{B:List (Kid L)}{ks':List (Kid L)}{dead:List Nat}(ht:EX (A++a::b::B))(h1:Chn Far (A++[a]))(h2:Chn Far (b::B))(h:IG (A++a::b::B) A.length ks' dead) :
  Chn Far ks':=by
 rcases M2 ht h with⟨hf,rfl,rfl⟩|⟨_,m,rfl,_,hl,hr,_⟩
 ·rw[Chn.two];exact⟨h1,hf,h2⟩
 ·rw[Chn.mid];refine⟨h1.last λu hu=>?_,h2.first λu hu=>?_⟩
  ·unfold Far at hu ⊢;simp only;omega
  ·unfold Far at hu ⊢;simp only;omega
def XX:{L:Nat}->Tr L->Nat->Tr L->List UInt8->Tr L->Prop
 | 0,c,p,c1,k,c2=>∃E1 x E2 y,c.es=(E1++[x])++y::E2/\c1=.leaf c.page (E1++[x])/\c2=.leaf p (y::E2)/\(lt x.key y.key->lt x.key k/\le k y.key/\0<k.length/\k.length<=96)
 | _+1,c,p,c1,k,c2=>∃K1 t K2,c.ks=K1++(k,t)::K2/\K1≠[]/\c1=.node c.page K1/\c2=.node p (([],t)::K2)
structure BU5 {L:Nat}(c:Tr L)(p:Nat)(c1:Tr L)(k:List UInt8)(c2:Tr L):Prop where
 left:FS c1
 right:FS c2
 ne:c1.ens≠[]/\c2.ens≠[]
 key:0<k.length/\k.length<=96
 size:c1.size+c2.size+sep L k=c.size
 page:c1.page=c.page/\c2.page=p
 flat:c.flat=c1.flat++c2.flat
 ord:∀lo hi,Ord c lo hi->Ord c1 lo (some k)/\Ord c2 k hi
 perm:(c1.pages++c2.pages).Perm (p::c.pages)
theorem ZM {L:Nat}{c c1 c2:Tr L}{p:Nat}{k:List UInt8}(hc:FS c){lo:List UInt8}{hi:Option (List UInt8)}(ho:Ord c lo hi)(h:XX c p c1 k c2):BU5 c p c1 k c2:=by
 cases L with
 | zero =>
  obtain⟨E1,x,E2,y,hes,rfl,rfl,hk⟩:=h;have hs:=ho.2.1;rw[hes]at hs;have hxy:lt x.key y.key:=(DE.1 hs).2.2 x (by simp) y (by simp)
  obtain⟨hk1,hk2,hk3,hk4⟩:=hk hxy;have hcl:∀e ∈ c.es,okL e:=hc;rw[hes]at hcl;refine⟨λe he=>hcl e (List.mem_append.2 (.inl he)),λe he=>hcl e (List.mem_append.2 (.inr he)),⟨by rw[IA];simp,by rw[IA];simp⟩,⟨hk3,hk4⟩,?_,⟨rfl,rfl⟩,hes,?_,?_⟩
  ·rw[BR,BR,BR,hes,CX,D6,D6];simp[sep]
  ·intro lo hi hoc;have hs:=hoc.2.1;have hin:=hoc.2.2;rw[hes]at hs hin;obtain⟨s1,s2,s3⟩:=DE.1 hs;refine⟨⟨λu hu=>?_,s1,λe he=>⟨(hin e (List.mem_append.2 (.inl he))).1,λu hu=>?_⟩⟩,⟨λu hu=>?_,s2,λe he=>⟨?_,(hin e (List.mem_append.2 (.inr he))).2⟩⟩⟩
   ·cases hu;exact FN (hin x (by simp)).1 hk1
   ·cases hu;rw[D6]at he;rcases List.mem_append.1 he with he|he
    ·exact C7 ((DE.1 s1).2.2 e he x (by simp)) hk1
    ·rw[List.mem_singleton]at he;subst he;exact hk1
   ·exact FN hk2 ((hin y (by simp)).2 u hu)
   ·rw[D6]at he;rcases List.mem_cons.1 he with rfl|he
    ·exact hk2
    ·exact KS hk2 (Srt.cons_lt s2 e he).le
  ·exact List.Perm.swap _ _ _
 | succ L =>
  obtain⟨K1,t,K2,hks,hne,rfl,rfl⟩:=h;obtain⟨hk,hch⟩:=AL.1 hc;rw[hks]at hk hch;obtain⟨a,K1,rfl⟩:∃a K,K1=a::K:=by cases K1 with | nil=>exact absurd rfl hne | cons a K=>exact⟨a,K,rfl⟩
  have hkk:=hk.1.2 (k,t) (by simp)
  have hK2:=FP hk.1;refine⟨AL.2 ⟨⟨⟨hk.1.1,λx hx=>hk.1.2 x (List.mem_append.2 (.inl hx))⟩,λx hx=>hk.2 x (List.mem_append.2 (.inl hx))⟩,hch.left⟩,AL.2 ⟨⟨⟨rfl,hK2⟩,λx hx=>?_⟩,?_⟩,⟨by rw[EU];simp,by rw[EU];simp⟩,hkk,?_,⟨rfl,rfl⟩,?_,?_,?_⟩
  ·rw[A5]at hx;rcases List.mem_cons.1 hx with rfl|hx
   ·exact hk.2 (k,t) (by simp)
   ·exact hk.2 x (by simp[hx])
  ·rw[A5];exact (Chn.right hch).first λu hu=>hu
  ·rw[BQ,BQ,BQ,hks,DD,A5,A5,BG (k,t),BG ([],t)];simp[sep];omega
  ·rw[B6,B6,B6,hks,DH,A5,A5,BH (k,t),BH ([],t)]
  ·intro lo hi hoc;have h1:=(B9.1 hoc).2;rw[hks,CD]at h1;have hb:=O0 (a:=(k,t)) (r:=K2) (lo:=k) (hi:=hi) (BF.2 ⟨h1.2.1,h1.2.2⟩);exact⟨B9.2 ⟨O0 h1.1,h1.1⟩,B9.2 ⟨hb,BF.2 ⟨h1.2.1,h1.2.2⟩⟩⟩
  ·rw[AQ,AQ,AQ,hks,A8,A5,A5,AN (k,t),AN ([],t),FA,FA,List.perm_iff_count];intro q;simp only[List.count_append,List.count_cons];omega
def AQ4 {L:Nat}(ks:List (Kid L))(i:Nat)(ks':List (Kid L))(dead:List Nat):Prop:=match i with
 | 0=>ks'=ks/\dead=[]
 | j+1=>IG ks j ks' dead
def LW {L:Nat}(ks:List (Kid L)):List (Kid L):=match ks with
 | []=>[]
 | a::r=>([],a.2)::r
def BZ9 {L:Nat}(A:List (Kid L))(k:List UInt8)(c:Tr L)(B:List (Kid L))(had:Nat)(ks':List (Kid L))(born dead:List Nat):Prop :=
 (c.ens=[]/\ks'=LW (A++B)/\born=[]/\dead=[c.page]) \/
 (510<c.size/\∃p c1 k2 c2 ks1 d1 d2,XX c p c1 k2 c2/\c1.size<=510/\c2.size<=510/\1<=p/\p<4096/\IG (A++(k,c1)::(k2,c2)::B) (A.length+1) ks1 d1/\AQ4 ks1 A.length ks' d2/\born=[p]/\dead=d1++d2) \/
 (c.ens≠[]/\c.size<=510/\c.size<had/\∃ks1 d1 d2,IG (A++(k,c)::B) A.length ks1 d1/\AQ4 ks1 A.length ks' d2/\born=[]/\dead=d1++d2) \/
 (c.ens≠[]/\c.size<=510/\had<=c.size/\ks'=A++(k,c)::B/\born=[]/\dead=[])
theorem TT {L:Nat}{hi hi':Option (List UInt8)}(ih:∀(t:Tr L) (lo:List UInt8),Ord t lo hi->Ord t lo hi'):∀(ks:List (Kid L)) (lo:List UInt8),D1 lo ks hi->D1 lo ks hi'
 | [],_,_=>trivial
 | [_],_,h=>BF.2 ⟨ih _ _ (BF.1 h).1,trivial⟩
 | _::b::r,_,h=>BF.2 ⟨(BF.1 h).1,TT ih (b::r) b.1 (BF.1 h).2⟩
theorem Ord.upper {L:Nat}{t:Tr L}{lo:List UInt8}{hi hi':Option (List UInt8)}(h:Ord t lo hi)(hb:∀x,hi'=some x->∃y,hi=some y/\le y x):Ord t lo hi':=by
 have hbd:∀l,Bd l hi->Bd l hi':=λl hl x hx=>by
  obtain⟨y,hy,hyx⟩:=hb x hx;exact EO (hl y hy) hyx
 induction L generalizing lo with
 | zero=>exact⟨hbd _ h.1,h.2.1,λe he=>⟨(h.2.2 e he).1,hbd _ (h.2.2 e he).2⟩⟩
 | succ L ih=>exact B9.2 ⟨hbd _ h.1,TT (λt lo ht=>ih ht) _ _ (B9.1 h).2⟩
theorem QE {L:Nat}{ks:List (Kid L)}{lo:List UInt8}{hi hi':Option (List UInt8)}(h:D1 lo ks hi)(hb:∀x,hi'=some x->∃y,hi=some y/\le y x):D1 lo ks hi':=by
 induction ks generalizing lo with
 | nil=>trivial
 | cons a r ihr =>
  rw[BF]at h ⊢
  cases r with
  | nil=>exact⟨h.1.upper hb,trivial⟩
  | cons b r=>exact⟨h.1,ihr h.2⟩
theorem QF {L:Nat}{ks:List (Kid L)}{lo lo':List UInt8}{hi:Option (List UInt8)}(h:D1 lo ks hi)(hl:le lo' lo):D1 lo' (LW ks) hi:=by
 cases ks with
 | nil=>trivial
 | cons a r =>
  have:=BF.1 h
  exact BF.2 ⟨this.1.lower hl,this.2⟩
theorem AU0 {L:Nat}{ks:List (Kid L)}{lo:List UInt8}{hi:Option (List UInt8)}(h:D1 lo ks hi):D1 lo (LW ks) hi:=QF h (M0 _)
theorem BI7 {L:Nat}(ks:List (Kid L)):flK (LW ks)=flK ks:=by
 cases ks with
 | nil=>rfl
 | cons a r=>rw[LW,BH,BH]
theorem BE0 {L:Nat}(ks:List (Kid L)):pgK (LW ks)=pgK ks:=by
 cases ks with
 | nil=>rfl
 | cons a r=>rw[LW,AN,AN]
theorem BA7 {L:Nat}(ks:List (Kid L)):szK (LW ks)<=szK ks:=by
 cases ks with
 | nil=>exact Nat.le_refl _
 | cons a r=>rw[LW,BG,BG];simp
theorem BL1 {L:Nat}{ks:List (Kid L)}(h:Chn Far ks):Chn Far (LW ks):=by
 cases ks with
 | nil=>trivial
 | cons a r=>exact h.first λu hu=>hu
theorem AL1 {L:Nat}{c:Tr L}(h:c.ens=[]):c.flat=[]/\c.pages=[c.page]:=by
 cases L with
 | zero=>exact⟨h,rfl⟩
 | succ L =>
  rw[AZ,List.map_eq_nil_iff]at h;rw[B6,AQ,h];exact⟨rfl,rfl⟩
structure AM8 {L:Nat}(A:List (Kid L))(k:List UInt8)(c:Tr L)(B:List (Kid L))(had:Nat):Prop where
 keys:FG (A++(k,c)::B)
 left:∀x ∈ A,CJ x.2
 right:∀x ∈ B,CJ x.2
 mid:FS c/\1<=c.page/\c.page<4096
 chl:Chn Far A
 chr:Chn Far B
 hadl:∀A' a,A=A'++[a]->510<a.2.size+had+sep L k
 hadr:∀b B',B=b::B'->510<had+b.2.size+sep L b.1
 none_:c.ens=[]->had<=if L=0 then 130 else 4
structure CC8 {L:Nat}(ks ks':List (Kid L))(born dead:List Nat):Prop where
 tidy:EX ks'
 chn:Chn Far ks'
 same:∀lo hi,D1 lo ks hi->flK ks'=flK ks/\D1 lo ks' hi
 perm:(pgK ks'++dead).Perm (pgK ks++born)
 size:szK ks'<=szK ks+100
 none_:ks'=[]->szK ks<=4
theorem AC3 {L:Nat}{A:List (Kid L)}{x:Kid L}{R ks':List (Kid L)}{d:List Nat}(ht:EX (A++x::R))(hA:Chn Far A)(hR:Chn Far (x::R))(h:AQ4 (A++x::R) A.length ks' d) :
  EX ks'/\Chn Far ks'/\IE (A++x::R) ks' [] d/\szK ks'<=szK (A++x::R)/\ks'≠[]:=by
 rcases List.eq_nil_or_concat A with rfl|⟨A,a,rfl⟩
 ·obtain⟨rfl,rfl⟩:=h;exact⟨ht,hR,IE.refl _,Nat.le_refl _,by simp⟩
 ·rw[List.concat_eq_append]at *
  have hj:IG (A++a::x::R) A.length ks' d:=by
   have:(A++[a]).length=A.length+1:=by simp
   rw[this]at h;have h':IG (A++[a]++x::R) A.length ks' d:=h;simpa using h'
  have ht':EX (A++a::x::R):=by simpa using ht
  have hc:=AV4 ht' hA hR hj;have he:A++[a]++x::R=A++a::x::R:=by simp
  rw[he];rcases M2 ht' hj with⟨_,rfl,rfl⟩|⟨_,m,rfl,_,_,_,h3,h4,h5⟩
  ·exact⟨ht',hc,IE.refl _,Nat.le_refl _,by simp⟩
  ·exact⟨h3,hc,h4,by omega,by simp⟩
theorem AC4 {L:Nat}{A:List (Kid L)}{x:Kid L}{B ks':List (Kid L)}{d:List Nat}(ht:EX (A++x::B))(hB:Chn Far B)(h:IG (A++x::B) A.length ks' d) :
  ∃m R,ks'=A++(x.1,m)::R/\EX ks'/\Chn Far ((x.1,m)::R)/\x.2.size<=m.size/\IE (A++x::B) ks' [] d/\szK ks'<=szK (A++x::B):=by
 cases B with
 | nil =>
  obtain⟨rfl,rfl⟩:=AV3 (by simp) h
  exact⟨x.2,[],rfl,ht,trivial,Nat.le_refl _,IE.refl _,Nat.le_refl _⟩
 | cons b B =>
  rcases M2 ht h with⟨hf,rfl,rfl⟩|⟨_,m,rfl,_,hl,hr,h3,h4,h5⟩
  ·exact⟨x.2,b::B,rfl,ht,⟨hf,hB⟩,Nat.le_refl _,IE.refl _,Nat.le_refl _⟩
  ·exact⟨m,B,rfl,h3,hB.first λu hu=>by unfold Far at hu ⊢;simp only;omega,hl,h4,by omega⟩
theorem BY7 {L:Nat}{A:List (Kid L)}{k:List UInt8}{c:Tr L}{B ks':List (Kid L)}{had:Nat}{born dead:List Nat}(hp:AM8 A k c B had){lo0:List UInt8}{hi0:Option (List UInt8)}(hord:D1 lo0 (A++(k,c)::B) hi0)(h:BZ9 A k c B had ks' born dead) :
  CC8 (A++(k,c)::B) ks' born dead:=by
 have hk:=hp.keys;have hBk:=FP hk;have hsk:sep L k<=96:=by
  unfold sep;split
  ·omega
  ·cases A with
   | nil=>have:=hk.1;simp only at this;simp[this]
   | cons a A=>exact (hk.2 (k,c) (by simp)).2
 rcases h with⟨he,rfl,rfl,rfl⟩|⟨hs,p,c1,k2,c2,ks1,d1,d2,hsp,hs1,hs2,hp1,hp2,hj1,hj2,rfl,rfl⟩|⟨hne,hs,hlt,ks1,d1,d2,hj1,hj2,rfl,rfl⟩|⟨hne,hs,hge,rfl,rfl,rfl⟩
 ·
  obtain⟨hfl,hpg⟩:=AL1 he;have hn:=hp.none_ he;refine⟨⟨?_,?_⟩,?_,?_,?_,?_,?_⟩
  ·cases A with
   | nil =>
    cases B with
    | nil=>trivial
    | cons b B=>exact⟨rfl,λx hx=>hBk x (by simp[hx])⟩
   | cons a A=>exact⟨rfl,λx hx=>by
     rcases List.mem_append.1 hx with hx|hx
     ·exact hk.2 x (by simp[hx])
     ·exact hBk x hx⟩
  ·intro x hx;have hall:∀x ∈ A++B,CJ x.2:=λx hx=>(List.mem_append.1 hx).elim (hp.left x) (hp.right x)
   generalize A++B=l at hall hx
   cases l with
   | nil=>cases hx
   | cons a r =>
    rcases List.mem_cons.1 hx with rfl|hx
    ·exact hall a (by simp)
    ·exact hall x (by simp[hx])
  ·refine BL1 ?_;rcases List.eq_nil_or_concat A with rfl|⟨A',a,rfl⟩
   ·exact hp.chr
   ·rw[List.concat_eq_append]at *
    cases B with
    | nil=>rw[List.append_nil];exact hp.chl
    | cons b B =>
     rw[List.append_assoc,List.singleton_append,Chn.two];refine⟨hp.chl,?_,hp.chr⟩;have h1:=hp.hadl A' a rfl;have h2:=hp.hadr b B rfl;unfold Far;unfold sep at h1 h2 hsk ⊢
     split at hn <;> simp_all <;> omega
  ·intro lo hi ho;rw[CD]at ho;refine⟨by rw[BI7,DH,DH,BH,hfl];simp,?_⟩
   have hbc:=ho.2.1.bd;cases A with
   | nil =>
    cases B with
    | nil=>trivial
    | cons b B=>exact QF ho.2.2 (hbc _ rfl).le
   | cons a A =>
    refine AU0 ?_;cases B with
    | nil=>rw[List.append_nil];exact QE ho.1 λx hx=>⟨k,rfl,(hbc x hx).le⟩
    | cons b B =>
     have h2:=BF.1 ho.2.2;rw[CD];exact⟨QE ho.1 λx hx=>⟨k,rfl,(hbc x hx).le⟩,h2.1,h2.2⟩
  ·rw[BE0,A8,A8,AN,hpg,List.perm_iff_count];intro q;simp only[List.count_append,List.count_cons,List.count_nil];omega
  ·have h1:=BA7 (A++B);rw[DD]at h1;rw[DD,BG];omega
  ·intro h0;cases A with
   | nil =>
    cases B with
    | nil=>have h1:=hk.1;simp only at h1;rw[List.nil_append,BG,IK,h1];simp
    | cons b B=>cases h0
   | cons a A=>cases h0
 ·
  have ho:=(CD _ _ _).1 hord;have hS:=ZM hp.mid.1 ho.2.1 hsp;have ht1:CJ c1:=⟨hS.left,hS.ne.1,hs1,by rw[hS.page.1];exact hp.mid.2.1,by rw[hS.page.1];exact hp.mid.2.2⟩
  have ht2:CJ c2:=⟨hS.right,hS.ne.2,hs2,by rw[hS.page.2];exact hp1,by rw[hS.page.2];exact hp2⟩
  have hT:EX (A++(k,c1)::(k2,c2)::B):=by
   refine⟨EK (t:=c1) hk λx hx=>?_,λx hx=>?_⟩
   ·rcases List.mem_cons.1 hx with rfl|hx
    ·exact hS.key
    ·exact hBk x hx
   ·simp only[List.mem_append,List.mem_cons]at hx;rcases hx with hx|rfl|rfl|hx
    ·exact hp.left x hx
    ·exact ht1
    ·exact ht2
    ·exact hp.right x hx
  have h12:Far (k,c1) (k2,c2):=by have:=hS.size;unfold Far;simp only;omega
  have hS0:∀lo hi,D1 lo (A++(k,c)::B) hi->flK (A++(k,c1)::(k2,c2)::B)=flK (A++(k,c)::B)/\D1 lo (A++(k,c1)::(k2,c2)::B) hi:=by
   intro lo hi h;rw[CD]at h;have h2:=hS.ord _ _ h.2.1;refine⟨by rw[DH,DH,BH,BH,BH,hS.flat];simp,?_⟩
   rw[CD,BF];exact⟨h.1,h2.1,h2.2,h.2.2⟩
  have e1:A++(k,c1)::(k2,c2)::B=(A++[(k,c1)])++(k2,c2)::B:=by simp
  have hj1':IG ((A++[(k,c1)])++(k2,c2)::B) (A++[(k,c1)]).length ks1 d1:=by
   rw[<-e1,List.length_append,List.length_singleton];exact hj1
  obtain⟨m,R,hks1,hT1,hc1,hm1,hsame1,hsz1⟩:=AC4 (e1 ▸ hT) hp.chr hj1'
  have e2:ks1=A++(k,c1)::((k2,m)::R):=by rw[hks1];simp
  have hc2:Chn Far ((k,c1)::(k2,m)::R):=⟨by unfold Far at h12 ⊢;simp only at h12 hm1 ⊢;omega,hc1⟩
  rw[e2]at hj2 hT1;obtain⟨hT2,hch2,hsame2,hsz2,hne2⟩:=AC3 hT1 hp.chl hc2 hj2;rw[<-e2]at hsame2 hsz2;rw[<-e1]at hsame1 hsz1;have hkl:k2.length<=96:=hS.key.2;have hsz0:szK (A++(k,c1)::(k2,c2)::B)=szK (A++(k,c)::B)+(4+k2.length):=by rw[DD,DD,BG,BG,BG];simp only;omega
  refine⟨hT2,hch2,λlo hi h=>?_,?_,by omega,λh=>absurd h hne2⟩
  ·obtain⟨f1,o1⟩:=hS0 lo hi h;exact⟨by rw[hsame2.flat,hsame1.flat,f1],hsame2.ord _ _ (hsame1.ord _ _ o1)⟩
  ·have p1:=(hsame1.trans hsame2).perm;have p2:=hS.perm;rw[List.perm_iff_count]at p1 p2 ⊢
   intro q;have a1:=p1 q;have a2:=p2 q
   rw[A8,AN,AN]at a1;rw[A8,AN];simp only[List.count_append,List.count_cons,List.count_nil]at a1 a2 ⊢
   omega
 ·
  have hT:EX (A++(k,c)::B):=by
   refine⟨hk,λx hx=>?_⟩
   simp only[List.mem_append,List.mem_cons]at hx;rcases hx with hx|rfl|hx
   ·exact hp.left x hx
   ·exact⟨hp.mid.1,hne,hs,hp.mid.2⟩
   ·exact hp.right x hx
  obtain⟨m,R,hks1,hT1,hc1,hm1,hsame1,hsz1⟩:=AC4 hT hp.chr hj1;rw[hks1]at hj2 hT1;obtain⟨hT2,hch2,hsame2,hsz2,hne2⟩:=AC3 hT1 hp.chl hc1 hj2;rw[<-hks1]at hsame2 hsz2;refine⟨hT2,hch2,λlo hi h=>⟨by rw[hsame2.flat,hsame1.flat],hsame2.ord _ _ (hsame1.ord _ _ h)⟩,?_,by omega,λh=>absurd h hne2⟩
  have:=(hsame1.trans hsame2).perm
  simpa using this
 ·
  refine⟨⟨hk,λx hx=>?_⟩,?_,λlo hi h=>⟨rfl,h⟩,by simp,by omega,λh=>by simp at h⟩
  ·simp only[List.mem_append,List.mem_cons]at hx;rcases hx with hx|rfl|hx
   ·exact hp.left x hx
   ·exact⟨hp.mid.1,hne,hs,hp.mid.2⟩
   ·exact hp.right x hx
  ·rw[Chn.mid];refine⟨?_,?_⟩
   ·rcases List.eq_nil_or_concat A with rfl|⟨A',a,rfl⟩
    ·trivial
    ·rw[List.concat_eq_append]at *
     rw[List.append_assoc,List.singleton_append,Chn.two];refine⟨hp.chl,?_,trivial⟩;have:=hp.hadl A' a rfl
     unfold Far;simp only;omega
   ·cases B with
    | nil=>trivial
    | cons b B =>
     refine⟨?_,hp.chr⟩;have:=hp.hadr b B rfl
     unfold Far;simp only;omega
def Tr.np {L:Nat}(t:Tr L):Nat:=t.pages.length
def Tr.nk {L:Nat}(t:Tr L):Nat:=t.flat.length
def npK {L:Nat}(ks:List (Kid L)):Nat:=(pgK ks).length
def nkK {L:Nat}(ks:List (Kid L)):Nat:=(flK ks).length
theorem QJ {L:Nat}(a:Kid L)(r:List (Kid L)):npK (a::r)=a.2.np+npK r:=by simp[npK,AN,Tr.np]
theorem BE6 {L:Nat}(a:Kid L)(r:List (Kid L)):nkK (a::r)=a.2.nk+nkK r:=by simp[nkK,BH,Tr.nk]
theorem IU {L:Nat}(t:Tr (L+1)):t.np=1+npK t.ks:=by simp[Tr.np,AQ,npK];omega
theorem O2 {L:Nat}(t:Tr (L+1)):t.nk=nkK t.ks:=rfl
theorem KP (t:Tr 0):t.np=1:=rfl
theorem V9 (t:Tr 0):t.nk=t.es.length:=rfl
theorem VZ {l:List En}(h:∀e ∈ l,okL e):szE l<=130*l.length:=by
 induction l with
 | nil=>simp[szE]
 | cons e r ih =>
  have h1:=h e (by simp)
  have h2:=ih (λx hx=>h x (by simp[hx]))
  simp only[szE,En.size,List.length_cons];unfold okL at h1;omega
theorem BA8 {L:Nat}{ks:List (Kid L)}(h:∀x ∈ ks,x.1.length<=96):szK ks<=100*ks.length:=by
 induction ks with
 | nil=>simp[IK]
 | cons a r ih =>
  have h1:=h a (by simp)
  have h2:=ih (λx hx=>h x (by simp[hx]))
  rw[BG,List.length_cons];omega
theorem F5 {L:Nat}{ks:List (Kid L)}(h:FG ks):∀x ∈ ks,x.1.length<=96:=by
 cases ks with
 | nil=>intro x hx;cases hx
 | cons a r =>
  intro x hx;rcases List.mem_cons.1 hx with rfl|hx
  ·rw[h.1];simp
  ·exact (h.2 x hx).2
theorem BJ1 {a b:Kid 0}(ha:CJ a.2)(hb:CJ b.2)(h:Far a b):4<=a.2.nk+b.2.nk:=by
 have h1:=VZ (l:=a.2.es) ha.1;have h2:=VZ (l:=b.2.es) hb.1;unfold Far at h;rw[BR,BR]at h;rw[V9,V9];simp[sep]at h;omega
theorem AD2 {L:Nat}{a b:Kid (L+1)}(ha:CJ a.2)(hb:CJ b.2)(hk:b.1.length<=96)(h:Far a b):6<=a.2.ks.length+b.2.ks.length:=by
 have h1:=BA8 (F5 (AL.1 ha.1).1.1);have hbk:=(AL.1 hb.1).1.1;unfold Far at h;rw[BQ,BQ]at h;simp[sep]at h;have hne:=EU.1 hb.2.1;cases hb':b.2.ks with
 | nil=>exact absurd hb' hne
 | cons u r =>
  rw[hb']at hbk h;have h2:=BA8 (ks:=r) (λx hx=>(hbk.2 x hx).2)
  rw[BG,hbk.1]at h;simp only[List.length_nil,List.length_cons]at h ⊢
  omega
theorem pairs {L:Nat}{N K:Kid L->Nat}{u v p:Nat}(h1:∀x:Kid L,CJ x.2->N x+1<=K x+u)(h2:∀x y:Kid L,CJ x.2->CJ y.2->y.1.length<=96->Far x y->N x+N y+p<=K x+K y)(hv:v=u) :
  ∀ks:List (Kid L),(∀x ∈ ks,CJ x.2)->(∀x ∈ ks,x.1.length<=96)->Chn Far ks->(ks.map N).sum+(ks.length / 2)*p+(ks.length % 2)<=(ks.map K).sum+(ks.length % 2)*v
 | [],_,_,_=>by simp
 | [x],ht,_,_=>by have:=h1 x (ht x (by simp));simp;omega
 | x::y::r,ht,hk,hc=>by
  have ih:=pairs h1 h2 hv r (λz hz=>ht z (by simp[hz])) (λz hz=>hk z (by simp[hz])) hc.2.tail
  have:=h2 x y (ht x (by simp)) (ht y (by simp)) (hk y (by simp)) hc.1
  simp only[List.map_cons,List.sum_cons,List.length_cons];have e1:(r.length+1+1) / 2=r.length / 2+1:=by omega
  have e2:(r.length+1+1) % 2=r.length % 2:=by omega
  rw[e1,e2,Nat.add_mul];omega
theorem O1 {L:Nat}(ks:List (Kid L)):(ks.map λk=>k.2.np).sum=npK ks:=by
 induction ks with
 | nil=>rfl
 | cons a r ih=>rw[QJ,List.map_cons,List.sum_cons,ih]
theorem WK {L:Nat}(ks:List (Kid L)):(ks.map λk=>2*k.2.nk).sum=2*nkK ks:=by
 induction ks with
 | nil=>rfl
 | cons a r ih=>rw[BE6,List.map_cons,List.sum_cons,ih];omega
theorem MA (L:Nat):(∀x:Kid L,CJ x.2->x.2.np+1<=2*x.2.nk+L)/\(∀x y:Kid L,CJ x.2->CJ y.2->y.1.length<=96->Far x y->x.2.np+y.2.np+(6+4*L)<=2*x.2.nk+2*y.2.nk):=by
 induction L with
 | zero =>
  refine⟨λx hx=>?_,λx y hx hy _ hf=>?_⟩
  ·rw[KP,V9];have:x.2.es≠[]:=hx.2.1
   have:=List.length_pos_iff.2 this
   omega
  ·have:=BJ1 hx hy hf
   rw[KP,KP];omega
 | succ L ih =>
  have hp:=λ(t:Tr (L+1)) (ht:CJ t)=>pairs (N:=λk:Kid L=>k.2.np) (K:=λk:Kid L=>2*k.2.nk) (u:=L) (v:=L) (p:=6+4*L) ih.1 ih.2 rfl t.ks (AL.1 ht.1).1.2 (F5 (AL.1 ht.1).1.1) (AL.1 ht.1).2
  refine⟨λx hx=>?_,λx y hx hy hk hf=>?_⟩
  ·have h1:=hp x.2 hx;rw[O1,WK]at h1;rw[IU,O2];have hl:=List.length_pos_iff.2 (EU.1 hx.2.1);generalize x.2.ks.length=n at h1 hl
   rcases Nat.mod_two_eq_zero_or_one n with h2|h2
   ·rw[h2]at h1;have h3:1*(6+4*L)<=n / 2*(6+4*L):=Nat.mul_le_mul_right _ (by omega)
    omega
   ·rw[h2]at h1;have h3:0<=n / 2*(6+4*L):=Nat.zero_le _;omega
  ·have h1:=hp x.2 hx;have h2:=hp y.2 hy;have h6:=AD2 hx hy hk hf;rw[O1,WK]at h1 h2;rw[IU,O2,IU,O2];generalize x.2.ks.length=n at h1 h6
   generalize y.2.ks.length=m at h2 h6
   have h3:(n / 2+m / 2)*(6+4*L)=n / 2*(6+4*L)+m / 2*(6+4*L):=Nat.add_mul _ _ _;rcases Nat.mod_two_eq_zero_or_one n with a1|a1 <;> rcases Nat.mod_two_eq_zero_or_one m with a2|a2 <;> rw[a1]at h1 <;> rw[a2]at h2
   ·have h4:3*(6+4*L)<=(n / 2+m / 2)*(6+4*L):=Nat.mul_le_mul_right _ (by omega)
    omega
   ·have h4:3*(6+4*L)<=(n / 2+m / 2)*(6+4*L):=Nat.mul_le_mul_right _ (by omega)
    omega
   ·have h4:3*(6+4*L)<=(n / 2+m / 2)*(6+4*L):=Nat.mul_le_mul_right _ (by omega)
    omega
   ·have h4:2*(6+4*L)<=(n / 2+m / 2)*(6+4*L):=Nat.mul_le_mul_right _ (by omega)
    omega
theorem AV9 (L:Nat):∀x y:Kid L,CJ x.2->CJ y.2->y.1.length<=96->Far x y->2 ^ (L+1)<=x.2.np+y.2.np:=by
 induction L with
 | zero=>intro x y _ _ _ _;rw[KP,KP];omega
 | succ L ih =>
  have hp:=λ(t:Tr (L+1)) (ht:CJ t)=>pairs (N:=λ_:Kid L=>0) (K:=λk:Kid L=>k.2.np) (u:=1) (v:=1) (p:=2 ^ (L+1)) (λx _=>by omega) (λx y hx hy hk hf=>by have:=ih x y hx hy hk hf;omega) rfl t.ks (AL.1 ht.1).1.2 (F5 (AL.1 ht.1).1.1) (AL.1 ht.1).2
  intro x y hx hy hk hf;have h1:=hp x.2 hx;have h2:=hp y.2 hy;have h6:=AD2 hx hy hk hf;rw[O1]at h1 h2;rw[IU,IU];generalize x.2.ks.length=n at h1 h6
  generalize y.2.ks.length=m at h2 h6
  have h3:(n / 2+m / 2)*2 ^ (L+1)=n / 2*2 ^ (L+1)+m / 2*2 ^ (L+1):=Nat.add_mul _ _ _;have h4:2*2 ^ (L+1)<=(n / 2+m / 2)*2 ^ (L+1):=Nat.mul_le_mul_right _ (by omega)
  rw[Nat.pow_succ 2 (L+1)];omega
def MF {L:Nat}(t:Tr L):Prop:=CJ t/\(0<L->2<=t.ens.length)
theorem MF.np {L:Nat}{t:Tr L}(h:MF t):t.np<=2*t.nk:=by
 cases L with
 | zero =>
  have:=(MA 0).1 ([],t) h.1
  simp only at this;omega
 | succ L =>
  have ht:=h.1;have h2:=h.2 (by omega)
  have h1:=pairs (N:=λk:Kid L=>k.2.np) (K:=λk:Kid L=>2*k.2.nk) (u:=L) (v:=L) (p:=6+4*L) (MA L).1 (MA L).2 rfl t.ks (AL.1 ht.1).1.2 (F5 (AL.1 ht.1).1.1) (AL.1 ht.1).2
  rw[O1,WK]at h1;rw[IU,O2];rw[AZ,List.length_map]at h2;generalize t.ks.length=n at h1 h2
  have h3:1*(6+4*L)<=n / 2*(6+4*L):=Nat.mul_le_mul_right _ (by omega)
  rcases Nat.mod_two_eq_zero_or_one n with a1|a1 <;> rw[a1]at h1 <;> omega
theorem MF.high {L:Nat}{t:Tr L}(h:MF t):2 ^ L<=t.np:=by
 cases L with
 | zero=>rw[KP];omega
 | succ L =>
  have ht:=h.1;have h2:=h.2 (by omega)
  have hk:=F5 (AL.1 ht.1).1.1;have hc:=(AL.1 ht.1).2;have htt:=(AL.1 ht.1).1.2;rw[IU];rw[AZ,List.length_map]at h2;match hks:t.ks,h2 with
  | a::b::r,_ =>
   rw[hks]at hk hc htt;have:=AV9 L a b (htt a (by simp)) (htt b (by simp)) (hk b (by simp)) hc.1
   rw[QJ,QJ];omega
theorem L7 {l:List Nat}(h:l.Nodup)(hb:∀q ∈ l,q<4096):l.length<=4096:=by
 have:=List.Nodup.length_le_of_subset (l₁:=l) (l₂:=List.range 4096) h (λq hq=>List.mem_range.2 (hb q hq))
 simpa using this
theorem MF.level {L:Nat}{t:Tr L}(h:MF t)(hn:t.pages.Nodup)(hb:∀q ∈ t.pages,q<4096):L<=12:=by
 have h1:=h.high;have h2:=L7 hn hb;have h3:t.np=t.pages.length:=rfl;rcases Nat.lt_or_ge 12 L with h4|h4
 ·have:2 ^ 13<=2 ^ L:=Nat.pow_le_pow_right (by omega) h4
  omega
 ·exact h4
def A6 (key:List UInt8)(l:List En):Bool:=match l[AP key l]? with
 | some e=>decide (e.key=key)
 | none=>false
def AB7 (key:List UInt8)(l:List En):Nat:=if A6 key l then AP key l else AP key l-1
theorem G9 {key:List UInt8}{l:List En}(h:Srt l):A6 key l=true ↔ BH6 key l:=by
 obtain⟨h1,h2,h3⟩:=OZ h key;unfold A6;constructor
 ·cases hc:l[AP key l]? with
  | none=>intro h;cases h
  | some e=>intro he;exact⟨e,List.mem_of_getElem? hc,by simpa using he⟩
 ·rintro⟨e,he,rfl⟩;rw[h1,List.mem_append]at he;rcases he with he|he
  ·exact absurd (h2 e he) (lt_irrefl _)
  ·cases hd:l.drop (AP e.key l) with
   | nil=>rw[hd]at he;cases he
   | cons b r =>
    have hb:l[AP e.key l]? = some b:=by
     rw[<-List.head?_drop,hd];rfl
    rw[hb];rw[hd]at he h3;rcases List.mem_cons.1 he with rfl|he
    ·simp
    ·have h4:Srt (b::r):=by rw[<-hd];exact h.sub (List.drop_sublist _ _)
     exact absurd (Srt.cons_lt h4 e he) (h3 b (by simp))
theorem ZK {L:Nat}{ks:List (Kid L)}(hk:FG ks){lo:List UInt8}{hi:Option (List UInt8)}(ho:D1 lo ks hi):Srt (ks.map kEn):=by
 have key:∀(r:List (Kid L)) (a:Kid L) (lo:List UInt8),D1 lo (a::r) hi->(r≠[]->lt a.1 (hdK r))->Srt ((a::r).map kEn):=by
  intro r;induction r with
  | nil=>intro a lo _ _;trivial
  | cons b r ih =>
   intro a lo h h1;have h2:=(BF.1 h).2;refine⟨h1 (by simp),ih b b.1 h2 λhr=>?_⟩
   cases r with
   | nil=>exact absurd rfl hr
   | cons c r=>exact (BF.1 h2).1.bd _ rfl
 cases ks with
 | nil=>trivial
 | cons a r =>
  refine key r a lo ho λhr=>?_
  cases r with
  | nil=>exact absurd rfl hr
  | cons b r =>
   rw[hk.1];have:=hk.2 b (by simp)
   exact BE7 (λe=>by have e2:b.1=[]:=e;rw[e2]at this;simp at this)
theorem BF7 {L:Nat}{ks:List (Kid L)}(hk:FG ks){lo:List UInt8}{hi:Option (List UInt8)}(ho:D1 lo ks hi)(hne:ks≠[])(key:List UInt8) :
  ∃A k c B,ks=A++(k,c)::B/\A.length=AB7 key (ks.map kEn)/\le k key/\∀b B',B=b::B'->lt key b.1:=by
 have hs:=ZK hk ho;obtain⟨h1,h2,h3⟩:=OZ hs key;have hcl:AP key (ks.map kEn)<=ks.length:=by have:=EG key (ks.map kEn);simpa using this
 obtain⟨n,hn⟩:∃n,AP key (ks.map kEn)=n:=⟨_,rfl⟩;rw[hn]at h1 h2 h3 hcl;obtain⟨a,r,rfl⟩:∃a r,ks=a::r:=by cases ks with | nil=>exact absurd rfl hne | cons a r=>exact⟨a,r,rfl⟩
 have hlow:∀x ∈ (a::r).take n,lt x.1 key:=λx hx=>h2 (kEn x) (by rw[<-List.map_take];exact List.mem_map_of_mem hx)
 have hup:∀x ∈ (a::r).drop n,¬lt x.1 key:=λx hx=>h3 (kEn x) (by rw[<-List.map_drop];exact List.mem_map_of_mem hx)
 have h0:A6 key ((a::r).map kEn)=false->0<n:=by
  intro hf;rcases Nat.eq_zero_or_pos n with e|e
  ·exfalso
   unfold A6 at hf;rw[hn,e]at hf;simp only[List.map_cons,List.getElem?_cons_zero,decide_eq_false_iff_not]at hf;have:¬lt a.1 key:=hup a (by rw[e];simp)
   have ha:a.1=[]:=hk.1;rcases QO.1 (show le key a.1 from this) with h|h
   ·rw[ha]at h;exact FC _ h
   ·exact hf h.symm
  ·exact e
 by_cases hat:A6 key ((a::r).map kEn)=true
 ·have hat':=hat;unfold A6 at hat';rw[hn]at hat';cases hx:((a::r).map kEn)[n]? with
  | none=>rw[hx]at hat';cases hat'
  | some e =>
   rw[hx]at hat';have hek:e.key=key:=by simpa using hat'
   rw[List.getElem?_map]at hx;cases hy:(a::r)[n]? with
   | none=>rw[hy]at hx;cases hx
   | some x =>
    rw[hy]at hx;simp only[Option.map_some,Option.some.injEq]at hx;subst hx;have hnl:n<(a::r).length:=(List.getElem?_eq_some_iff.1 hy).1;have hd:(a::r).drop n=x::(a::r).drop (n+1):=by
     rw[List.drop_eq_getElem_cons hnl];obtain⟨_,h⟩:=List.getElem?_eq_some_iff.1 hy;rw[h]
    refine⟨(a::r).take n,x.1,x.2,(a::r).drop (n+1),?_,?_,?_,?_⟩
    ·rw[<-hd,List.take_append_drop]
    ·rw[List.length_take,AB7,if_pos hat,hn];omega
    ·rw[show x.1=key from hek];exact M0 _
    ·intro b B' hB;have h4:Srt (((a::r).drop n).map kEn):=by rw[List.map_drop];exact hs.sub (List.drop_sublist _ _)
     rw[hd,hB]at h4;have h5:lt x.1 b.1:=h4.1;rw[show x.1=key from hek]at h5
     exact h5
 ·have hf:A6 key ((a::r).map kEn)=false:=by simpa using hat
  have hpos:=h0 hf;obtain⟨m,rfl⟩:∃m,n=m+1:=⟨n-1,by omega⟩
  have hml:m<(a::r).length:=by omega
  obtain⟨x,hx⟩:∃x,(a::r)[m]? = some x:=⟨_,List.getElem?_eq_getElem hml⟩;have hd:(a::r).drop m=x::(a::r).drop (m+1):=by
   rw[List.drop_eq_getElem_cons hml];obtain⟨_,h⟩:=List.getElem?_eq_some_iff.1 hx;rw[h]
  refine⟨(a::r).take m,x.1,x.2,(a::r).drop (m+1),?_,?_,?_,?_⟩
  ·rw[<-hd,List.take_append_drop]
  ·rw[List.length_take,AB7,if_neg (by rw[hf];simp),hn];omega
  ·exact (hlow x (by rw[List.take_succ_eq_append_getElem hml];obtain⟨_,h⟩:=List.getElem?_eq_some_iff.1 hx;simp[h])).le
  ·intro b B' hB;have hnb:=hup b (by rw[hB];simp)
   rcases QO.1 (show le key b.1 from hnb) with h|h
   ·exact h
   ·exfalso
    have hc:((a::r).map kEn)[m+1]? = some (kEn b):=by
     rw[List.getElem?_map,<-List.head?_drop,hB];rfl
    unfold A6 at hf;rw[hn,hc]at hf;simp only[decide_eq_false_iff_not]at hf;exact hf h.symm
theorem AV0 {L:Nat}{A:List (Kid L)}{k:List UInt8}{c:Tr L}{B:List (Kid L)}{lo:List UInt8}{hi:Option (List UInt8)}(ho:D1 lo (A++(k,c)::B) hi){key:List UInt8}(hk:le k key)(hB:∀b B',B=b::B'->lt key b.1) :
  (∀e ∈ flK A,lt e.key key)/\(∀e ∈ flK B,lt key e.key)/\(Inn lo hi key->Inn (lof lo A k) (nxt B hi) key):=by
 have h1:=(CD _ _ _).1 ho;refine⟨λe he=>?_,λe he=>?_,λhi'=>⟨?_,λx hx=>?_⟩⟩
 ·exact EO (((NV (λt {_ _} ht=>ht.flat) A h1.1).2 e he).2 _ rfl) hk
 ·cases B with
  | nil=>cases he
  | cons b B=>exact EO (hB b B rfl) ((NV (λt {_ _} ht=>ht.flat) _ h1.2.2).2 e he).1
 ·cases A with
  | nil=>exact hi'.1
  | cons a A=>exact hk
 ·cases B with
  | nil=>exact hi'.2 x hx
  | cons b B=>cases hx;exact hB b B rfl
theorem CA8 {a b:Nat}(h:a=b):Ending.returned (.int .i64 (a:Int))=.returned (.int .i64 (b:Int)):=by rw[h]
theorem FD {B:Nat}{a b c:World}(h:Below B a b)(k:Below b.heap.size b c)(hB:B<=a.heap.size):Below B a c:=h.trans (k.mono (Nat.le_trans hB h.size))
theorem AE {a b c:World}(h:Below a.heap.size a b)(k:Below b.heap.size b c):Below a.heap.size a c:=FD h k (Nat.le_refl _)
def A7 (X:Nat->Prop)(w:World)(v:Value)(l:List UInt8):Prop :=
 ∃A c,v=.slice A l.length c/\l.length<=c/\c<=maxLen/\AK w A l/\∀ad,A=some ad->l≠[]->¬X ad.block
section
variable {X X' T:Nat->Prop} {w w':World} {v:Value} {l:List UInt8}
theorem AK.kept {A:Option Addr}(h:AK w A l)(hk:AC T w w')(hA:∀ad,A=some ad->l≠[]->ad.block<w.heap.size->¬T ad.block):AK w' A l:=by
 rcases h with rfl|⟨b,off,rfl,h2,h3⟩
 ·exact .inl rfl
 ·by_cases hl:l=[]
  ·exact .inl hl
  ·have hb:=hk.block b h2 (hA _ rfl hl h2);exact .inr ⟨b,off,rfl,Nat.lt_of_lt_of_le h2 hk.size,λj hj=>(World.cell?_of_block hb).trans (h3 j hj)⟩
theorem AK.blk_lt {ad:Addr}(h:AK w (some ad) l)(hl:l≠[]):ad.block<w.heap.size:=by
 rcases h with h|⟨b,off,h1,h2,_⟩
 ·exact absurd h hl
 ·injection h1 with h1;subst h1;exact h2
theorem A7.kept (h:A7 X w v l)(hk:AC T w w')(hT:∀k,k<w.heap.size->T k->X k)(hX:∀k,k<w.heap.size->X' k->X k):A7 X' w' v l:=by
 obtain⟨A,c,rfl,hc,hc2,hR,hn⟩:=h;refine⟨A,c,rfl,hc,hc2,hR.kept hk λad hA hl hlt ht=>hn ad hA hl (hT _ hlt ht),λad hA hl hx=>?_⟩
 subst hA;exact hn ad rfl hl (hX _ (hR.blk_lt hl) hx)
theorem A7.below (h:A7 X w v l)(hb:Below w.heap.size w w'):A7 X w' v l :=
 h.kept (AC.ofBelow (S:=λ_=>False) hb) (λ_ _ h=>h.elim) (λ_ _ h=>h)
theorem A7.nil_ (X:Nat->Prop)(w:World):A7 X w (.slice none 0 0) []:=⟨none,0,rfl,Nat.le_refl _,Nat.zero_le _,.inl rfl,λ_ h=>by cases h⟩
end
def E5 (X:Nat->Prop)(w:World)(arr:Option Addr)(es:List En):Prop :=
 es=[]\/∃b o cs,arr=some ⟨b,o,none⟩/\w.heap[b]? = some (.cells cs 135 (0,0))/\X b /\
  ∀i (h:i<es.length),∃kv vv,cs[o+2*i]? = some kv/\cs[o+2*i+1]? = some vv/\A7 X w kv es[i].key/\A7 X w vv es[i].val
section
variable {X X' T:Nat->Prop} {w w':World} {arr:Option Addr} {es:List En}
theorem E5.kept (h:E5 X w arr es)(hk:AC T w w')(hT:∀k,k<w.heap.size->T k->X k)(hX:∀k,k<w.heap.size->X' k->X k)(hX2:∀k,X k->X' k)
  (ha:∀ad,arr=some ad->es≠[]->¬T ad.block):E5 X' w' arr es:=by
 rcases h with rfl|⟨b,o,cs,rfl,hb,hx,hc⟩
 ·exact .inl rfl
 ·by_cases hl:es=[]
  ·exact .inl hl
  ·have hlt:b<w.heap.size:=(Array.getElem?_eq_some_iff.1 hb).1;refine .inr ⟨b,o,cs,rfl,(hk.block b hlt (ha _ rfl hl)).trans hb,hX2 _ hx,λi hi=>?_⟩
   obtain⟨kv,vv,h1,h2,h3,h4⟩:=hc i hi;exact⟨kv,vv,h1,h2,h3.kept hk hT hX,h4.kept hk hT hX⟩
theorem E5.below (h:E5 X w arr es)(hb:Below w.heap.size w w'):E5 X w' arr es :=
 h.kept (AC.ofBelow (S:=λ_=>False) hb) (λ_ _ h=>h.elim) (λ_ _ h=>h) (λ_ h=>h) (λ_ _ _ h=>h)
theorem E5.at_ (h:E5 X w arr es){i:Nat}{e:En}(hi:es[i]? = some e):∃b o kv vv,arr=some ⟨b,o,none⟩/\b<w.heap.size/\(∀j,w.frozen? ⟨b,j,none⟩=false)/\w.cell? ⟨b,o+i*2,none⟩=some kv/\w.cell? ⟨b,o+i*2+1,none⟩=some vv/\A7 X w kv e.key/\A7 X w vv e.val:=by
 obtain⟨hil,rfl⟩:=List.getElem?_eq_some_iff.1 hi;rcases h with rfl|⟨b,o,cs,rfl,hb,hx,hc⟩
 ·simp at hil
 ·obtain⟨kv,vv,h1,h2,h3,h4⟩:=hc i hil;have hlt:b<w.heap.size:=(Array.getElem?_eq_some_iff.1 hb).1;refine⟨b,o,kv,vv,rfl,hlt,λj=>by simp[World.frozen?,hb],?_,?_,h3,h4⟩
  ·rw[yC hb,Nat.mul_comm];exact h1
  ·rw[yC hb,Nat.mul_comm];exact h2
end
structure NO where
 blk:Nat
 page:Nat
 level:Nat
 ens:List En
 arr:Option Addr
 cap:Nat
 was:List UInt8
 had:Nat
 sole:Bool
def NO.cells (x:NO):Array Value:=#[.int .i64 x.page,.int .i64 x.level,.slice x.arr x.ens.length x.cap,.string ⟨x.was.toArray⟩,.int .i64 x.had]
def NO.ptr (x:NO):Value:=.pointer (some ⟨x.blk,0,none⟩)
def DU (es:List En):Prop:=es.length<=512/\∀e ∈ es,e.key.length<=255/\e.val.length<=255
theorem DU.at_ {es:List En}(h:DU es){i:Nat}{e:En}(hi:es[i]? = some e):e.key.length<=255/\e.val.length<=255:=h.2 e (List.mem_of_getElem? hi)
theorem L9 {es:List En}{n i:Nat}(hn:es.length=n)(hi:i<n):∃e,es[i]? = some e:=⟨_,List.getElem?_eq_getElem (by omega)⟩
structure AM (X:Nat->Prop)(w:World)(x:NO):Prop where
 blk:w.heap[x.blk]? = some (.cells x.cells 138 (0,0))
 own:X x.blk
 ents:E5 X w x.arr x.ens
 cap:x.ens.length<=x.cap/\x.cap<=maxLen
 small:x.page<4096/\x.level<=1000/\x.had<=1000000
 short:DU x.ens
 alone:x.sole=true->x.ens≠[]->∃b,x.arr=some ⟨b,0,none⟩
section
variable {X X' T:Nat->Prop} {w w':World} {x:NO}
theorem AM.lt (h:AM X w x):x.blk<w.heap.size:=(Array.getElem?_eq_some_iff.1 h.blk).1
theorem AM.cell (h:AM X w x)(i:Nat):w.cell? ⟨x.blk,i,none⟩=x.cells[i]?:=yC h.blk i
theorem AM.frozen (h:AM X w x)(i:Nat):w.frozen? ⟨x.blk,i,none⟩=false:=by simp[World.frozen?,h.blk]
theorem AM.c0 (h:AM X w x):w.cell? ⟨x.blk,0,none⟩=some (.int .i64 x.page):=by rw[h.cell];rfl
theorem AM.c1 (h:AM X w x):w.cell? ⟨x.blk,1,none⟩=some (.int .i64 x.level):=by rw[h.cell];rfl
theorem AM.c2 (h:AM X w x):w.cell? ⟨x.blk,2,none⟩=some (.slice x.arr x.ens.length x.cap):=by rw[h.cell];rfl
theorem AM.c3 (h:AM X w x):w.cell? ⟨x.blk,3,none⟩=some (.string ⟨x.was.toArray⟩):=by rw[h.cell];rfl
theorem AM.c4 (h:AM X w x):w.cell? ⟨x.blk,4,none⟩=some (.int .i64 x.had):=by rw[h.cell];rfl
theorem AM.kept (h:AM X w x)(hk:AC T w w')(hT:∀k,k<w.heap.size->T k->X k)(hX:∀k,k<w.heap.size->X' k->X k)(hX2:∀k,X k->X' k)
  (hb:¬T x.blk) (ha:∀ad,x.arr=some ad->x.ens≠[]->¬T ad.block):AM X' w' x :=
 ⟨(hk.block _ h.lt hb).trans h.blk,hX2 _ h.own,h.ents.kept hk hT hX hX2 ha,h.cap,h.small,h.short,h.alone⟩
theorem AM.below (h:AM X w x)(hb:Below w.heap.size w w'):AM X w' x :=
 h.kept (AC.ofBelow (S:=λ_=>False) hb) (λ_ _ h=>h.elim) (λ_ _ h=>h) (λ_ h=>h) (λh=>h) (λ_ _ _ h=>h)
end
theorem KW (A B:Option Addr)(n c m d:Nat)(w:World)(hn:n<=1000000)(hm:m<=1000000) :
  Calls Tryz.prog 201 #[.agg #[.slice A n c,.slice B m d]] w λe w'=>e=.returned (.int .i64 ((2+n+m:Nat):Int))/\Below w.heap.size w w':=by
 go_enter Tryz.func201,Tryz.ntmps201;go_wp2;go_ret;exact⟨by simp,(Below.refl _ _).alloc (Nat.le_refl _) _⟩
theorem RM {es:List En}{k:Nat}{e:En}(h:es[k]? = some e):szE (es.take (k+1))=szE (es.take k)+(2+e.key.length+e.val.length):=by
 obtain⟨hl,rfl⟩:=List.getElem?_eq_some_iff.1 h;rw[List.take_succ_eq_append_getElem hl,ZI];rfl
theorem P5 {es:List En}(h:DU es):szE es<=300000:=by
 have:∀l:List En,(∀e ∈ l,e.key.length<=255/\e.val.length<=255)->szE l<=512*l.length:=by
  intro l;induction l with
  | nil=>intro _;simp[szE]
  | cons e r ih =>
   intro hh;have h1:=hh e (by simp)
   have h2:=ih (λx hx=>hh x (by simp[hx]))
   simp only[szE,En.size,List.length_cons];omega
 have h1:=this es h.2;have h2:=h.1;omega
theorem P4 (X:Nat->Prop)(arr:Option Addr)(es:List En)(n cap:Nat)(w:World)(hn:es.length=n)(h:E5 X w arr es)(hs:DU es) :
  Calls Tryz.prog 184 #[.slice arr n cap] w λe w'=>e=.returned (.int .i64 (szE es))/\Below w.heap.size w w':=by
 have hn5:n<=512:=by have:=hs.1;omega
 have HH:=yH h;have HS:=yH hs;have HN:=yH hn
 clear h hs hn;go_enter Tryz.func184,Tryz.ntmps184;go_wp2;go_loopw [3,5,8] (λs _ i wr=>∃k:Nat,k<=n/\i=.int .i64 k/\s=.int .i64 (szE (es.take k))/\Hid (Below w.heap.size w wr)) (λ_ _ i _=>n-(intOf i).toNat)
 case atStart=>exact⟨0,by omega,rfl,by simp[szE],yH (Below.refl _ _)⟩
 case round =>
  obtain⟨k,hk,rfl,rfl,HB⟩:=hrel;have hsz:szE (es.take k)<=300000:=Nat.le_trans (JQ es k) (P5 HS.out);obtain⟨sz,hsz2⟩:∃sz,sz=szE (es.take k):=⟨_,rfl⟩;rw[<-hsz2]at hsz ⊢
  have HSZ:=yH hsz2;clear hsz2
  by_cases hlt:k<n
  ·obtain⟨en,hen⟩:=L9 HN.out hlt;obtain⟨b,o,kv,vv,rfl,hbl,hfr,hc1,hc2,hk1,hk2⟩:=(HH.out.below HB.out).at_ hen;have hsh:=HS.out.at_ hen;obtain⟨A1,c1,rfl,hA1,hA2,_⟩:=hk1;obtain⟨A2,c2,rfl,hB1,hB2,_⟩:=hk2;obtain⟨l1,hl1⟩:∃l1,l1=en.key.length:=⟨_,rfl⟩;obtain⟨l2,hl2⟩:∃l2,l2=en.val.length:=⟨_,rfl⟩;rw[<-hl1]at hc1 hsh;rw[<-hl2]at hc2 hsh;have HT:Hid (szE (es.take (k+1))=sz+(2+l1+l2)):=yH (by rw[RM hen,HSZ.out,hl1,hl2])
   clear hA1 hB1 hA2 hB2;have HL1:=yH hl1;have HL2:=yH hl2;have HEN:=yH hen;clear hl1 hl2 hen
   go_wp2_with (go_at_call 201;refine (KW _ _ _ _ _ _ _ (by omega) (by omega)).mono ?_;rintro e w1 ⟨rfl,hb1⟩)
   go_roundw
   case rel=>exact⟨k+1,by omega,by go_num,by rw[HT.out];go_num,yH (AE HB.out (((Below.refl _ _).alloc (Nat.le_refl _) _).trans (hb1.mono (by simp))))⟩
   case measure=>simp[intOf];omega
  ·obtain rfl:k=n:=by omega
   have HE:Hid (sz=szE es):=yH (by rw[HSZ.out,List.take_of_length_le (by rw[HN.out];exact Nat.le_refl _)])
   go_wp2;go_ret;exact⟨CA8 HE.out,HB.out⟩
theorem P3 (X:Nat->Prop)(x:NO)(w:World)(h:AM X w x) :
  Calls Tryz.prog 154 #[x.ptr] w λe w'=>e=.returned (.int .i64 (szE x.ens))/\Below w.heap.size w w':=by
 have c2:=h.c2;have HC:=yH (P4 X x.arr x.ens x.ens.length x.cap w rfl h.ents h.short);unfold NO.ptr;obtain⟨s,hs⟩:∃s,s=szE x.ens:=⟨_,rfl⟩;rw[<-hs]at HC ⊢
 clear h hs;go_enter Tryz.func154,Tryz.ntmps154;go_wp2_with fail;refine HC.out.mono ?_;rintro e w1 ⟨rfl,hb1⟩;go_wp2;go_ret;exact⟨rfl,hb1⟩
theorem BE4 (a b:UInt8):bits BinOp.or IntKind.i64 ((a.toNat:Int)*256) (b.toNat:Int)=((a.toNat*256+b.toNat:Nat):Int) :=
 BE3 a.toNat b.toNat (by have:=a.toNat_lt;omega) b.toNat_lt
theorem F6 (X:Nat->Prop)(x:NO)(i:Nat)(en:En)(w:World)(h:AM X w x)(hi:x.ens[i]? = some en)(hv:en.val.length=2) :
  Calls Tryz.prog 152 #[x.ptr,.int .i64 i] w λe w'=>e=.returned (.int .i64 en.child)/\∃n,w'=w.drewN n:=by
 have c2:=h.c2;obtain⟨b,o,kv,vv,ha,hbl,hfr,hc1,hc2,hk1,hk2⟩:=h.ents.at_ hi;obtain⟨A2,cc2,rfl,hB1,hB2,hR,_⟩:=hk2;obtain⟨b2,o2,rfl,hb2,hcell⟩:=hR.at (by omega)
 have hv0:=hcell 0 (by omega)
 have hv1:=hcell 1 (by omega)
 rw[Nat.add_zero]at hv0;rw[hv]at hc2 hB1;rw[ha]at c2;have hil:i<x.ens.length:=(List.getElem?_eq_some_iff.1 hi).1;have hi5:x.ens.length<=512:=h.short.1;have hch:en.child=(en.val[0]'(by omega)).toNat*256+(en.val[1]'(by omega)).toNat:=by
  unfold En.child;rw[List.getD_eq_getElem?_getD,List.getD_eq_getElem?_getD,List.getElem?_eq_getElem (by omega),List.getElem?_eq_getElem (by omega)]
  rfl
 obtain⟨v0,hv0'⟩:∃v0,v0=en.val[0]'(by omega):=⟨_,rfl⟩
 obtain⟨v1,hv1'⟩:∃v1,v1=en.val[1]'(by omega):=⟨_,rfl⟩
 rw[<-hv0']at hv0 hch;rw[<-hv1']at hv1 hch;have h0:=v0.toNat_lt;have h1:=v1.toNat_lt;have hor:=BE4 v0 v1;unfold NO.ptr;have hle:=h.cap.1;obtain⟨nn,hnn⟩:∃nn,nn=x.ens.length:=⟨_,rfl⟩;rw[<-hnn]at c2 hil hi5 hle;obtain⟨xb,hxb⟩:∃xb,xb=x.blk:=⟨_,rfl⟩;rw[<-hxb]at c2 ⊢
 obtain⟨cp,hcp⟩:∃cp,cp=x.cap:=⟨_,rfl⟩;rw[<-hcp]at c2 hle;have HCH:=yH hch;have HOR:=yH hor;clear h hi hv ha hk1 hR hcell hch hor hv0' hv1' hnn hxb hcp;go_enter Tryz.func152,Tryz.ntmps152;go_wp2;go_quiet (fail);go_wp2;go_ret;refine⟨?_,_,rfl⟩;rw[HCH.out];show Ending.returned (.int .i64 (bits BinOp.or IntKind.i64 ((v0.toNat:Int)*256) (v1.toNat:Int)))=_;rw[HOR.out]
end Go.Proofs.YtfbbjiidccbaiaaGreatDoor
