/- Texts of one proof, one behind the other: ZQ, CA, CB, CC, ZR, ZS. -/
import Derived.Test.YtfbbjiidccbaiaaGreatDoorQAU
import Derived.Test.YtfbbjiidccbaiaaGreatDoorQAV
import Derived.Laws.StructEq
import Derived.Test.YtfbbjiidccbaiaaGreatDoorQAA
set_option maxRecDepth 100000
set_option maxHeartbeats 6400000
namespace Go.Proofs.YtfbbjiidccbaiaaGreatDoor
open Go.RowKit
theorem LN {w:World}{b k:Nat}{x:Value}(h:w.cell? ⟨b,k,none⟩=some x):∃cs t z,w.heap[b]? = some (.cells cs t z):=by
 unfold World.cell? at h
 split at h
 ·rename_i hh
  exact⟨_,_,_,hh⟩
 ·cases h
theorem Z3 {w:World}{P:Program}{tp te:TypeId}{j:TypeInfo}{a b:Nat}{x y:Value}(hp:P.underlying tp=some (.pointer te))(hte:P.info? te=some j)(hsz:j.size≠0)(hbl:a≠b)
  (ha:w.cell? ⟨a,0,none⟩=some x) (hb:w.cell? ⟨b,0,none⟩=some y) (fa:∀j,w.frozen? ⟨a,j,none⟩=false) (fb:∀j,w.frozen? ⟨b,j,none⟩=false) :
  (binOp .neq tp (.pointer (some ⟨a,0,none⟩)) (.pointer (some ⟨b,0,none⟩))).run P w=.ok (.bool true) w:=by
 obtain⟨ca,ta,za,ea⟩:=LN ha;obtain⟨cb,tb,zb,eb⟩:=LN hb;have e:(sameAddr ⟨a,0,none⟩ ⟨b,0,none⟩).run P w=.ok false w:=by
  simp[sameAddr,hbl,fa,fb,noView,viewAt,World.shape?,mayBeOne,stringish,ea,eb]
 have h:∀d:Nat,(Op.equalIn (d+1) tp (.pointer (some ⟨a,0,none⟩)) (.pointer (some ⟨b,0,none⟩))).run P w=.ok false w:=λd=>by
  simp[Op.equalIn,run_underlying hp,sizeOf,typeInfo,hte,hsz,e]
 simp only[binOp];simp[Op.equal,Op.maxDepth,h 9999]
theorem Q2 (a b s:Nat)(w:World)(h0:w.cell? ⟨a,0,none⟩=some (.pointer (some ⟨a,0,none⟩)))(h1:w.cell? ⟨a,1,none⟩=some (.pointer (some ⟨s,1,none⟩)))(h2:w.cell? ⟨s,85,none⟩=some (.pointer (some ⟨b,0,none⟩)))(hab:a≠b)(hb:w.cell? ⟨b,0,none⟩=some (.pointer (some ⟨b,0,none⟩)))(fa:∀j,w.frozen? ⟨a,j,none⟩=false)(fb:∀j,w.frozen? ⟨b,j,none⟩=false) :
  Calls Tryz.prog 49 #[.pointer (some ⟨a,0,none⟩)] w λe w'=>e=.returned (.int .i64 5)/\w'=w:=by
 obtain⟨j,hj,_⟩:=Option.map_eq_some_iff.1 AH6;have hq:=Lib.run_neq_ptr_same (P:=Tryz.prog) w (tp:=28) (te:=40) ⟨a,0,none⟩ Tryz.underlying28 hj;obtain⟨j2,hj2,hs2⟩:=Option.map_eq_some_iff.1 AH6;have hf:=Z3 (P:=Tryz.prog) (w:=w) (tp:=28) (te:=40) Tryz.underlying28 hj2 (by rw[hs2];decide) (λe=>hab e.symm) hb h0 fb fa
 clear hs2 hj2 hb fa fb hab;go_enter Tryz.func49,Tryz.ntmps49;go_wp2;go_ret;exact⟨rfl,rfl⟩
section
variable {c:Ac} {w:World} {tb r:Nat}
theorem BA5 (hR:∀k,JA (.pointer (some ⟨c.a,0,none⟩)) 5 (w.drewN k))(ht:AH w tb c.a r) :
  Calls Tryz.prog 73 #[.pointer (some ⟨tb,0,none⟩)] w λe w'=>e=.returned (.tuple #[.int .i64 0,.int .i64 5])/\∃k,w'=w.drewN k:=by
 have HRT:Hid (∀k,Calls Tryz.prog 15 #[.pointer (some ⟨c.a,0,none⟩),.int .i64 r] (w.drewN k) λe w'=>e=.returned (.tuple #[.int .i64 0,.int .i64 5])/\w'=w.drewN k):=yH λk=>AM0 _ 5 _ (.inr rfl) (hR k) r
 have c0:=ht.c0;have c1:=ht.c1;have c2:=ht.c2;clear ht hR;obtain⟨j,hj,_⟩:=Option.map_eq_some_iff.1 BB2;have hq:=Lib.run_neq_ptr_same (P:=Tryz.prog) w (tp:=71) (te:=84) ⟨tb,0,none⟩ Tryz.underlying71 hj;go_enter Tryz.func73,Tryz.ntmps73;go_wp2;go_quiet ((go_at_call 15;exact Calls.quiet_of_same (HRT.out _)))
 go_wp2;go_ret2;exact⟨rfl,_,rfl⟩
theorem BI1 (hR:∀k,JA (.pointer (some ⟨c.a,0,none⟩)) 5 (w.drewN k))(ht:AH w tb c.a r)(k:ByteArray):Calls Tryz.prog 34 #[.pointer (some ⟨tb,0,none⟩),.string k] w λe w'=>e=.returned (.tuple #[.string ⟨#[]⟩,.int .i64 5])/\Below w.heap.size w w':=by
 have HN:=yH (BA5 hR ht);clear hR ht;go_enter Tryz.func34,Tryz.ntmps34;go_wp2_with fail;refine HN.out.mono ?_;rintro e w1 ⟨rfl,q,hw⟩;have HB:Hid (Below w.heap.size w w1):=yH (by rw[hw];exact⟨rfl,rfl,rfl,Nat.le_refl _,λ_ _=>rfl⟩)
 clear hw HN;go_wp2;go_ret2;exact⟨rfl,HB.out⟩
end
structure BV0 (was now:List UInt8)(q:Nat)(l:List (Nat × Nat)):Prop where
 cov:∀i,i<q->now.getD i 0≠was.getD i 0->∃x ∈ l,x.1<=i/\i<x.2
 sum:(l.map λx=>x.2-x.1+6).sum<=match l.getLast? with | some x=>x.2+6 | none=>0
theorem AJ8 {α:Type}{l:List α}{x:α}(h:l.getLast? = some x):l=l.dropLast++[x]:=by
 obtain⟨ys,rfl⟩:=List.getLast?_eq_some_iff.1 h;simp
theorem ML (l:List (Nat × Nat))(y:Nat × Nat):((l++[y]).map λx=>x.2-x.1+6).sum=(l.map λx=>x.2-x.1+6).sum+(y.2-y.1+6):=by
 rw[List.map_append,List.sum_append];simp
theorem BV0.step {was now:List UInt8}{l:List (Nat × Nat)}{q:Nat}(h:BV0 was now q l)(k:XY q l):BV0 was now (q+1) (GS was now l q):=by
 obtain⟨hc,hs⟩:=h;unfold GS;split
 ·rename_i he
  refine⟨λi hi hne=>?_,hs⟩
  by_cases hq:i=q
  ·subst hq;exact absurd he hne
  ·exact hc i (by omega) hne
 ·split
  ·rename_i x hx
   have hm:=k.2 x (List.mem_of_getLast? hx);have hl:=AJ8 hx;rw[hx]at hs;simp only at hs;split
   ·rename_i hle
    refine⟨λi hi hne=>?_,?_⟩
    ·by_cases hq:i=q
     ·subst hq;exact⟨(x.1,i+1),by simp,by simp only;omega,by simp only;omega⟩
     ·obtain⟨y,hy,h1,h2⟩:=hc i (by omega) hne
      rw[hl]at hy;rcases List.mem_append.1 hy with hy|hy
      ·exact⟨y,List.mem_append.2 (.inl hy),h1,h2⟩
      ·rw[List.mem_singleton]at hy;subst hy
       exact⟨(y.1,q+1),by simp,h1,by simp only;omega⟩
    ·rw[hl,ML]at hs;rw[ML,List.getLast?_concat];simp only
     omega
   ·rename_i hgt
    refine⟨λi hi hne=>?_,?_⟩
    ·by_cases hq:i=q
     ·subst hq;exact⟨(i,i+1),by simp,Nat.le_refl _,by simp only;omega⟩
     ·obtain⟨y,hy,h1,h2⟩:=hc i (by omega) hne
      exact⟨y,List.mem_append.2 (.inl hy),h1,h2⟩
    ·rw[ML,List.getLast?_concat];simp only
     omega
  ·rename_i hx
   refine⟨λi hi hne=>?_,?_⟩
   ·by_cases hq:i=q
    ·subst hq;exact⟨(i,i+1),by simp,Nat.le_refl _,by simp only;omega⟩
    ·obtain⟨y,hy,h1,h2⟩:=hc i (by omega) hne
     exact⟨y,List.mem_append.2 (.inl hy),h1,h2⟩
   ·rw[hx]at hs;simp only at hs;rw[ML,List.getLast?_concat];simp only
    omega
theorem QY (was now:List UInt8)(q:Nat):BV0 was now q (CI was now q):=by
 induction q with
 | zero=>exact⟨λi hi=>by omega,by simp[CI]⟩
 | succ q ih=>exact ih.step (EQ was now q)
theorem AL6 (was now:List UInt8)(q:Nat):((CI was now q).map λx=>x.2-x.1+6).sum<=q+6:=by
 have h:=(QY was now q).sum;cases hx:(CI was now q).getLast? with
 | none=>rw[hx]at h;simp only at h;omega
 | some x =>
  rw[hx]at h;simp only at h;have:=((EQ was now q).2 x (List.mem_of_getLast? hx)).2
  omega
def apB (c:List UInt8)(p:Pt):List UInt8:=splice c p.at_ p.bytes
theorem BO6 {α:Type}(F:Nat->α)(q:Nat)(x y:α):upd (upd F q x) q y=upd F q y:=by
 funext i
 by_cases h:i=q
 ·subst h;rw[AB,AB]
 ·rw[AA _ _ h,AA _ _ h,AA _ _ h]
theorem AF6 (q:Nat):∀(ps:List Pt) (C:Nat->List UInt8),(∀p ∈ ps,p.page=q)->EE C ps=upd C q (ps.foldl apB (C q))
 | [],C,_=>by
  funext i
  show C i=upd C q (C q) i;by_cases h:i=q
  ·subst h;rw[AB]
  ·rw[AA _ _ h]
 | p::r,C,h=>by
  have hp:=h p (by simp)
  show EE (BM0 C p) r=_;rw[AF6 q r _ (λx hx=>h x (by simp[hx]))]
  unfold BM0;rw[hp,AB,BO6];rfl
theorem LU (q:Nat)(now:List UInt8)(x:Nat × Nat)(h:now.length=512)(h1:x.1<x.2)(h2:x.2<=512):(IN q now x).bytes=(now.drop x.1).take (x.2-x.1)/\((now.drop x.1).take (x.2-x.1)).length=x.2-x.1/\(IN q now x).s.size=x.2-x.1:=by
 have hl:((now.drop x.1).take (x.2-x.1)).length=x.2-x.1:=by simp[h];omega
 have hz:(IN q now x).s.size=x.2-x.1:=by rw[<-hl];simp[IN,ByteArray.size]
 refine⟨?_,hl,hz⟩;unfold Pt.bytes;rw[if_neg (by omega)]
 rfl
theorem AP1 (q:Nat)(now:List UInt8)(h:now.length=512):∀(l:List (Nat × Nat)) (c:List UInt8),c.length=512->(∀x ∈ l,x.1<x.2/\x.2<=512) ->
  ((l.map (IN q now)).foldl apB c).length=512/\∀i,((l.map (IN q now)).foldl apB c)[i]? = now[i]?\/((l.map (IN q now)).foldl apB c)[i]? = c[i]?/\∀x ∈ l,¬(x.1<=i/\i<x.2)
 | [],c,hc,_=>⟨hc,λi=>.inr ⟨rfl,λx hx=>by cases hx⟩⟩
 | x::r,c,hc,hl=>by
  obtain⟨h1,h2⟩:=hl x (by simp)
  obtain⟨b1,b2,_⟩:=LU q now x h h1 h2;have hat:(IN q now x).at_=x.1:=rfl;have hfit:x.1+((now.drop x.1).take (x.2-x.1)).length<=c.length:=by rw[b2,hc];omega
  have hc1:(apB c (IN q now x)).length=512:=by
   unfold apB;rw[hat,b1,length_splice _ _ _ hfit,hc]
  obtain⟨r1,r2⟩:=AP1 q now h r (apB c (IN q now x)) hc1 (λy hy=>hl y (by simp[hy]))
  refine⟨r1,λi=>?_⟩
  have hg:(apB c (IN q now x))[i]? = if x.1<=i/\i<x.2 then now[i]? else c[i]?:=by
   unfold apB;rw[hat,b1,LT _ _ _ hfit,b2];by_cases hi:x.1<=i/\i<x.2
   ·rw[if_pos hi,if_pos (by omega),List.getElem?_take,if_pos (by omega),List.getElem?_drop,show x.1+(i-x.1)=i by omega]
   ·rw[if_neg hi,if_neg (by omega)]
  rcases r2 i with e|⟨e,hno⟩
  ·exact .inl e
  ·rw[List.map_cons,List.foldl_cons,e,hg];by_cases hi:x.1<=i/\i<x.2
   ·rw[if_pos hi];exact .inl rfl
   ·rw[if_neg hi];refine .inr ⟨rfl,λy hy=>?_⟩
    rcases List.mem_cons.1 hy with rfl|hy
    ·exact hi
    ·exact hno y hy
theorem AW8 (C:Nat->List UInt8)(q:Nat)(x:Dr)(hC:(C q).length=512)(hw:x.was=if x.fresh then A9 else C q)(h2:x.now.length=512):EE C (DL q x)=upd C q x.now:=by
 have hp:∀p ∈ DL q x,p.page=q:=λp hp=>by
  unfold DL at hp;rcases List.mem_append.1 hp with hp|hp
  ·unfold FK at hp;split at hp
   ·rw[List.mem_singleton]at hp;subst hp;rfl
   ·cases hp
  ·obtain⟨y,_,rfl⟩:=List.mem_map.1 hp;rfl
 rw[AF6 q _ C hp];congr 1
 have hbase:(FK q x.fresh).foldl apB (C q)=x.was:=by
  rw[hw];cases x.fresh with
  | false=>rfl
  | true =>
   show splice (C q) 0 A9=A9;rw[PW,List.drop_eq_nil_of_le (by rw[hC,CS];exact Nat.le_refl _),List.append_nil]
 have hwl:x.was.length=512:=by
  rw[hw];cases x.fresh with
  | false=>exact hC
  | true=>exact CS
 unfold DL;rw[List.foldl_append,hbase];obtain⟨f1,f2⟩:=AP1 q x.now h2 (CI x.was x.now 512) x.was hwl (EQ x.was x.now 512).2;refine List.ext_getElem? λi=>?_
 rcases f2 i with e|⟨e,hno⟩
 ·exact e
 ·rw[e];by_cases hi:i<512
  ·by_cases he:x.now.getD i 0=x.was.getD i 0
   ·rw[List.getD_eq_getElem?_getD,List.getD_eq_getElem?_getD,List.getElem?_eq_getElem (by omega),List.getElem?_eq_getElem (by omega)]at he
    simp only[Option.getD_some]at he;rw[List.getElem?_eq_getElem (by omega),List.getElem?_eq_getElem (by omega),he]
   ·obtain⟨y,hy,h3,h4⟩:=(QY x.was x.now 512).cov i hi he;exact absurd ⟨h3,h4⟩ (hno y hy)
  ·rw[List.getElem?_eq_none (by omega),List.getElem?_eq_none (by omega)]
def BN8 (C:Nat->List UInt8)(D:Nat->Option Dr):Prop:=∀q x,D q=some x->x.was=if x.fresh then A9 else C q
theorem AF7 (C:Nat->List UInt8)(a b:List Pt):EE C (a++b)=EE (EE C a) b:=by unfold EE;rw[List.foldl_append]
theorem J8 (D:Nat->Option Dr)(k:Nat)(r:List Nat):BC D (k::r)=GR k (D k)++BC D r:=by unfold BC;rw[List.flatMap_cons]
theorem MD (D:Nat->Option Dr)(hl:∀q x,D q=some x->x.was.length=512/\x.now.length=512):∀(ks:List Nat) (C:Nat->List UInt8),ks.Nodup->(∀q,(C q).length=512)->(∀q ∈ ks,∀x,D q=some x->x.was=if x.fresh then A9 else C q) ->
  ∀r,EE C (BC D ks) r=if r ∈ ks then (match D r with | some x=>x.now | none=>C r) else C r
 | [],C,_,_,_=>λr=>by simp[BC,EE]
 | k::ks,C,hn,hC,hw=>λr=>by
  obtain⟨hn1,hn2⟩:=List.nodup_cons.1 hn;rw[J8,AF7];cases hk:D k with
  | none =>
   have e:EE C (GR k none)=C:=rfl;rw[e,MD D hl ks C hn2 hC (λq hq x hx=>hw q (by simp[hq]) x hx) r]
   by_cases hr:r=k
   ·subst hr;rw[if_neg hn1,if_pos (by simp),hk]
   ·by_cases hm:r ∈ ks
    ·rw[if_pos hm,if_pos (by simp[hm])]
    ·rw[if_neg hm,if_neg (by simp[hr,hm])]
  | some x =>
   have e:EE C (GR k (some x))=upd C k x.now:=AW8 C k x (hC k) (hw k (by simp) x hk) (hl k x hk).2
   rw[e,MD D hl ks (upd C k x.now) hn2 (λq=>by
    by_cases hq:q=k
    ·subst hq;rw[AB];exact (hl q x hk).2
    ·rw[AA _ _ hq];exact hC q) (λq hq y hy=>by
    rw[AA _ _ (show q≠k from λe=>hn1 (e ▸ hq))]
    exact hw q (by simp[hq]) y hy) r]
   by_cases hr:r=k
   ·subst hr;rw[if_neg hn1,if_pos (by simp),hk,AB]
   ·rw[AA _ _ hr];by_cases hm:r ∈ ks
    ·rw[if_pos hm,if_pos (by simp[hm])]
    ·rw[if_neg hm,if_neg (by simp[hr,hm])]
theorem E3.nodup {D:Nat->Option Dr}{ks:List Nat}(h:E3 D ks):ks.Nodup:=h.1.imp (λh=>by omega)
theorem AC0 {D:Nat->Option Dr}{ks:List Nat}{C:Nat->List UInt8}(h:E3 D ks)(hl:∀q x,D q=some x->x.was.length=512/\x.now.length=512)(hC:∀q,(C q).length=512)(hw:BN8 C D)(r:Nat) :
  EE C (BC D ks) r=match D r with | some x=>x.now | none=>C r:=by
 rw[MD D hl ks C h.nodup hC (λq _ x hx=>hw q x hx) r]
 by_cases hr:r ∈ ks
 ·rw[if_pos hr]
 ·rw[if_neg hr];cases hd:D r with
  | none=>rfl
  | some x=>exact absurd ((h.2 r).2 (by rw[hd];rfl)) hr
theorem BY6 (h:Hd)(k:h.Ok):(hdB h).length<=600:=by
 have hc:=k.cnt;unfold hdB;rw[List.length_append,List.length_append,AW,DB _ 4 (λi=>AW 4 _),DB _ 8 (λi=>AW 8 _)]
 omega
theorem AN9 (q:Nat)(now:List UInt8)(h:now.length=512):∀(l:List (Nat × Nat)),(∀x ∈ l,x.1<x.2/\x.2<=512)->((l.map (IN q now)).flatMap ptB).length=(l.map λx=>x.2-x.1+6).sum
 | [],_=>rfl
 | x::r,hl=>by
  obtain⟨h1,h2⟩:=hl x (by simp)
  obtain⟨_,_,b3⟩:=LU q now x h h1 h2;rw[List.map_cons,List.flatMap_cons,List.length_append,GC,b3,AN9 q now h r (λy hy=>hl y (by simp[hy])),List.map_cons,List.sum_cons]
  omega
theorem AD7 (q:Nat)(x:Dr)(h:x.now.length=512):((DL q x).flatMap ptB).length<=524:=by
 unfold DL;rw[List.flatMap_append,List.length_append,AN9 q x.now h _ (EQ x.was x.now 512).2];have h1:=AL6 x.was x.now 512;have h2:((FK q x.fresh).flatMap ptB).length<=6:=by
  unfold FK;split
  ·rw[List.flatMap_cons,List.length_append,GC];simp[ByteArray.size]
  ·simp
 omega
theorem NA (D:Nat->Option Dr)(hl:∀q x,D q=some x->x.was.length=512/\x.now.length=512):∀ks:List Nat,((BC D ks).flatMap ptB).length<=524*ks.length
 | []=>by simp[BC]
 | k::r=>by
  have h2:=NA D hl r;rw[J8,List.flatMap_append,List.length_append,List.length_cons];cases hk:D k with
  | none=>simp only[GR,List.flatMap_nil,List.length_nil];omega
  | some x =>
   have:=AD7 k x (hl k x hk).2
   simp only[GR];omega
theorem BP9 (h:Hd)(k:h.Ok)(D:Nat->Option Dr)(hl:∀q x,D q=some x->x.was.length=512/\x.now.length=512)(ks:List Nat):(EI h (BC D ks)).length<=600+524*ks.length:=by
 unfold EI;rw[List.length_append];have:=BY6 h k
 have:=NA D hl ks
 omega
theorem ON {D:Nat->Option Dr}(hl:∀q x,D q=some x->x.was.length=512/\x.now.length=512)(h4:∀q x,D q=some x->q<4096):∀ks:List Nat,∀p ∈ BC D ks,p.Fits
 | [],p,hp=>by simp[BC]at hp
 | k::r,p,hp=>by
  rw[J8]at hp;rcases List.mem_append.1 hp with hp|hp
  ·cases hk:D k with
   | none=>rw[hk]at hp;cases hp
   | some x =>
    rw[hk]at hp;have h2:=(hl k x hk).2;have hq:=h4 k x hk;simp only[GR,DL]at hp;rcases List.mem_append.1 hp with hp|hp
    ·unfold FK at hp;split at hp
     ·rw[List.mem_singleton]at hp;subst hp
      exact⟨hq,by show 0+A9.length<=512;rw[CS];omega⟩
     ·cases hp
    ·obtain⟨y,hy,rfl⟩:=List.mem_map.1 hp;obtain⟨y1,y2⟩:=(EQ x.was x.now 512).2 y hy;obtain⟨b1,b2,_⟩:=LU k x.now y h2 y1 y2;refine⟨hq,?_⟩;show y.1+(IN k x.now y).bytes.length<=512;rw[b1,b2];omega
  ·exact ON hl h4 r p hp
end Go.Proofs.YtfbbjiidccbaiaaGreatDoor
set_option maxRecDepth 100000
set_option maxHeartbeats 6400000
namespace Go.Proofs.YtfbbjiidccbaiaaGreatDoor
open Go Go.RowKit
theorem LO:∀(xs ys:List Nat),xs.length=ys.length->((List.range xs.length).all λi=>xs.getD i 0 == ys.getD i 0)=(xs == ys)
 | [],[],_=>rfl
 | x::xs,y::ys,h=>by
  have ih:=LO xs ys (by simpa using h)
  rw[List.length_cons,List.range_succ_eq_map,List.all_cons,List.all_map];simp only[List.getD_cons_zero,Function.comp_def,List.getD_cons_succ,ih];simp[List.cons_beq_cons]
 | [],_::_,h=>by simp at h
 | _::_,[],h=>by simp at h
theorem GY {P:Program}(w:World)(d:Nat)(t e:TypeId)(n:Nat)(κ:IntKind)(ht:P.underlying t=some (.array n e))(he:P.underlying e=some (.int κ))(hsz:∀w,(sizeOf e).run P w=.ok 1 w)
  (xs ys:List Nat) (hx:xs.length=n) (hy:ys.length=n) :
  (Op.equalIn (d+2) t (.agg (xs.map λx:Nat=>Value.int κ (x:Int)).toArray) (.agg (ys.map λx:Nat=>Value.int κ (x:Int)).toArray)).run P w=.ok (xs == ys) w:=by
 rw[<-LO xs ys (hx.trans hy.symm),hx,List.range_eq_range',Op.equalIn];simp only[Sem.run_bind,run_underlying ht,Result.andThen_ok,hsz,Std.Legacy.Range.forIn_eq_forIn_range',Std.Legacy.Range.size,Nat.sub_zero,Nat.add_sub_cancel,Nat.div_one];have hl:∀i ∈ List.range' 0 n 1,i<n:=λi hi=>by simpa using (List.mem_range'_1.1 hi).2
 generalize List.range' 0 n 1=l at hl ⊢
 induction l with
 | nil=>simp
 | cons i l ih =>
  have hi:i<n:=hl i (by simp)
  have px:(part e (xs.map λx:Nat=>Value.int κ (x:Int)).toArray (i*1)).run P w=.ok (.int κ ((xs.getD i 0:Nat):Int)) w:=by
   simp[part,isAgg,run_underlying he,List.getD,List.getElem?_eq_getElem (show i<xs.length by omega)]
  have py:(part e (ys.map λx:Nat=>Value.int κ (x:Int)).toArray (i*1)).run P w=.ok (.int κ ((ys.getD i 0:Nat):Int)) w:=by
   simp[part,isAgg,run_underlying he,List.getD,List.getElem?_eq_getElem (show i<ys.length by omega)]
  have pe:(Op.equalIn (d+1) e (.int κ ((xs.getD i 0:Nat):Int)) (.int κ ((ys.getD i 0:Nat):Int))).run P w=.ok (xs.getD i 0 == ys.getD i 0) w:=by
   rw[run_equalIn_int w d e κ κ _ _ he];congr 1
   rw[Bool.eq_iff_iff];simp;omega
  simp only[List.forIn_cons,Sem.run_bind,px,py,pe,Result.andThen_ok,List.all_cons];cases hb:(xs.getD i 0 == ys.getD i 0)
  ·simp
  ·simp only[Bool.not_true,Bool.false_eq_true,if_false,Sem.run_pure,Result.andThen_ok,Bool.true_and];exact ih λj hj=>hl j (by simp[hj])
theorem BB0 (w:World):(sizeOf 33).run Tryz.prog w=.ok 1 w:=by
 obtain⟨i,hi,hs⟩:=Option.map_eq_some_iff.1 (show (Tryz.prog.info? 33).map (·.size)=some 1 by kernel_rfl)
 simp[sizeOf,typeInfo,hi,hs]
theorem BB1 (w:World):(sizeOf 3).run Tryz.prog w=.ok 1 w:=by
 obtain⟨i,hi,hs⟩:=Option.map_eq_some_iff.1 (show (Tryz.prog.info? 3).map (·.size)=some 1 by kernel_rfl)
 simp[sizeOf,typeInfo,hi,hs]
theorem AC8:((Tryz.prog.fieldsOf 37).toList.map λf=>(decide (f.name≠ "_"),f.type,f.offset))=[(true,3,0),(true,34,1),(true,35,65)]:=by kernel_rfl
theorem Hd.part0 (h:Hd)(w:World):(part 3 h.cells.toArray 0).run Tryz.prog w=.ok (.int .i64 h.count) w:=by
 simp[part,isAgg,run_underlying Tryz.underlying3,Hd.cells]
theorem Hd.part1 {h:Hd}(k:h.Ok)(w:World):(part 34 h.cells.toArray 1).run Tryz.prog w=.ok (.agg (h.free.map λx:Nat=>Value.int .u64 (x:Int)).toArray) w:=by
 have e:List.take 64 h.cells.tail=h.free.map λx:Nat=>Value.int .u64 (x:Int):=by
  show List.take 64 ((h.free.map λx:Nat=>Value.int .u64 (x:Int))++_)=_
  rw[List.take_append_of_le_length (by simp[k.nf]),List.take_of_length_le (by simp[k.nf])]
 simp[part,isAgg,run_underlying Tryz.underlying34,e]
theorem Hd.part2 {h:Hd}(k:h.Ok)(w:World):(part 35 h.cells.toArray 65).run Tryz.prog w=.ok (.agg (h.roots.map λx:Nat=>Value.int .i64 (x:Int)).toArray) w:=by
 have e:List.take 16 (List.drop 65 h.cells)=h.roots.map λx:Nat=>Value.int .i64 (x:Int):=by
  show List.take 16 (List.drop 64 ((h.free.map λx:Nat=>Value.int .u64 (x:Int))++_))=_
  rw[List.drop_left' (by simp[k.nf]),List.take_of_length_le (by simp[k.nr])]
 simp[part,isAgg,run_underlying Tryz.underlying35,e]
theorem P7 {h k:Hd}(oh:h.Ok)(ok:k.Ok)(w:World):∃b:Bool,(b=true ↔ h=k)/\(binOp .eql 37 (.agg h.cells.toArray) (.agg k.cells.toArray)).run Tryz.prog w=.ok (.bool b) w:=by
 refine⟨h.count == k.count && (h.free == k.free && h.roots == k.roots),?_,?_⟩
 ·obtain⟨c,f,r⟩:=h;obtain⟨c',f',r'⟩:=k;simp
 ·rw[run_eql_struct,show (10000:Nat)=9999+1 from rfl,run_equalIn_agg w 9999 37 _ _ (by kernel_rfl) (by kernel_rfl)]
  have hm:=AC8;generalize (Tryz.prog.fieldsOf 37).toList=fs at hm
  obtain⟨a,b,c,rfl⟩:∃a b c,fs=[a,b,c]:=by
   have hl:fs.length=3:=by simpa using congrArg List.length hm
   match fs,hl with
   | [a,b,c],_=>exact⟨a,b,c,rfl⟩
  ·simp only[List.map_cons,List.map_nil,List.cons.injEq,Prod.mk.injEq,and_true,decide_eq_true_eq]at hm;obtain⟨⟨a1,a2,a3⟩,⟨b1,b2,b3⟩,c1,c2,c3⟩:=hm;have e1:(Op.equalIn 9999 3 (.int .i64 (h.count:Int)) (.int .i64 (k.count:Int))).run Tryz.prog w=_:=run_equalIn_int (P:=Tryz.prog) w 9998 3 .i64 .i64 (h.count:Int) (k.count:Int) Tryz.underlying3;have e2:(Op.equalIn 9999 34 (.agg (h.free.map λx:Nat=>Value.int .u64 (x:Int)).toArray) (.agg (k.free.map λx:Nat=>Value.int .u64 (x:Int)).toArray)).run Tryz.prog w=_:=GY (P:=Tryz.prog) w 9997 34 33 64 .u64 Tryz.underlying34 Tryz.underlying33 BB0 h.free k.free oh.nf ok.nf
   have e3:(Op.equalIn 9999 35 (.agg (h.roots.map λx:Nat=>Value.int .i64 (x:Int)).toArray) (.agg (k.roots.map λx:Nat=>Value.int .i64 (x:Int)).toArray)).run Tryz.prog w=_:=GY (P:=Tryz.prog) w 9997 35 3 16 .i64 Tryz.underlying35 Tryz.underlying3 BB1 h.roots k.roots oh.nr ok.nr
   have ei:((h.count:Int) == (k.count:Int))=(h.count == k.count):=by rw[Bool.eq_iff_iff];simp;omega
   simp only[Op.eqFields,a1,a2,a3,b1,b2,b3,c1,c2,c3,ne_eq,not_false_eq_true,if_true,Sem.run_bind,Hd.part0,Result.andThen_ok,e1,ei];cases h1:(h.count == k.count) <;> cases h2:(h.free == k.free) <;> cases h3:(h.roots == k.roots) <;> simp[Result.andThen,Hd.part1 oh,Hd.part1 ok,Hd.part2 oh,Hd.part2 ok,e2,e3,h2,h3]
theorem AD3 {a:Act}{o:Oper}{x y:Operand}{t':TypeId}{X Y:Array Value}{b:Bool}(ho:o.op=.binOp .eql 37 x y t')(hx:a.eval x=.agg X)(hy:a.eval y=.agg Y)(W:World)(h:(binOp .eql 37 (.agg X) (.agg Y)).run Tryz.prog W=.ok (.bool b) W):(execOp a.eval o).run Tryz.prog W=.ok (.value (.bool b)) W:=by
 have hm:Tryz.prog.eqGuardType Tryz.prog.depth 37=false:=by kernel_rfl
 have hg:=run_eqGuard_agg (P:=Tryz.prog) W .eql 37 x y X Y hm;unfold execOp;simp only[ho,hx,hy];simp[hg,h]
theorem BM2 {K:Exit->Act->World->Prop}{x:Exit}{A A':Act}{W:World}(h:A=A')(hk:K x A' W):K x A W:=h ▸ hk
def RC (B:Nat)(S:Nat->Prop)(a s d l p n:Nat)(C:Nat->List UInt8)(P:Nat->Nat)(N:Nat)(rs:List ByteArray)(f2:List UInt8)(h:Hd)(w w':World):Prop :=
 ∃S',AC (λk=>S k\/k=s\/k=a) w w'/\(∀k,k<w.heap.size->S' k->S k)/\BD (JL rs f2) B S' p d n C P N w'/\AV w' s d l p h none/\CO w' a s h (.map none)
theorem XU (B:Nat)(S:Nat->Prop)(a s d l p n db m:Nat)(C:Nat->List UInt8)(P:Nat->Nat)(N:Nat)(rs:List ByteArray)(f2:List UInt8)(last h:Hd)(D:Nat->Option Dr)(ks:List Nat)(w:World)
  (x:CH w a s d l p db m last h D) (hs:¬S s) (ha:¬S a) (lg:CW l d w) (hl:¬S l) (hla:l≠a/\l≠s) (g:BD (JL rs f2) B S p d n C P N w) (hks:E3 D ks) (hne:BC D ks=[]) (hsz:(EI h []).length<=16777216)
  (hrs:GL rs) (hc:C4 rs ⟨(EI h []).toArray⟩=0) (hP:DF P≠n) (hN:N+1<=4398046511104) :
  Calls Tryz.prog 19 #[.pointer (some ⟨a,0,none⟩)] w λe w'=>e=.returned (.int .i64 0)/\(h=last/\RC B S a s d l p n C P N rs f2 h w w'\/JG B S a s d l p n C P N rs f2 h [] w w'):=by
 have HR:=yH x.live;unfold JA at HR;have hone:∀ks',E3 D ks'->ks'=ks:=λks' hk'=>List.Perm.eq_of_pairwise (le:=λa b=>a<b) (λa b _ _ h1 h2=>by omega) hk'.1 hks.1 ((List.perm_ext_iff_of_nodup (hk'.1.imp (λh=>by omega)) (hks.1.imp (λh=>by omega))).2 λq=>by rw[hk'.2,hks.2])
 have HAP:Hid (Calls Tryz.prog 57 #[.pointer (some ⟨a,0,none⟩)] w λe w'=>∃al c,e=.returned (.slice al 0 c)/\BP w.heap.size w' (.slice al 0 c) []/\Below w.heap.size w w'):=yH ((M9 a s db m h D w x.ac x.dr).mono λe w' ⟨v,ks',h1,h2,h3,h4⟩=>by
  obtain rfl:=hone ks' h2;rw[hne]at h3;obtain⟨al,c,rfl⟩:=h3.shape;exact⟨al,c,h1,h3,h4⟩)
 have HFIN:Hid (∀w1 v,BP w.heap.size w1 v []->Below w.heap.size w w1->Calls Tryz.prog 50 #[.pointer (some ⟨a,0,none⟩)] w1 λe w2=>e=.returned (.tuple #[])/\Hid (∀W,Below w2.heap.size w2 W ->
   ((W.cell? ⟨a,1,none⟩=some (.pointer (some ⟨s,1,none⟩))/\W.rangeAt a 2 h.cells/\W.rangeAt s 4 last.cells)/\Hid (h=last->RC B S a s d l p n C P N rs f2 h w W)/\Calls Tryz.prog 58 #[.pointer (some ⟨s,1,none⟩),.agg h.cells.toArray,v] W λe w'=>e=.returned (.int .i64 0) /\
    (w'.cell? ⟨a,1,none⟩=some (.pointer (some ⟨s,1,none⟩))/\w'.rangeAt a 2 h.cells)/\JG B S a s d l p n C P N rs f2 h [] w w'))):=yH (λw1 v hp1 hb1=>by
  have x1:=x.below hb1;refine (AP3 a s d l p h last _ (some a) w1 x1.ac x1.sp x1.ok x1.okl x1.ne.1).mono ?_;rintro e w2 ⟨rfl,ha2,hs2,hk2⟩;refine⟨rfl,yH (λW hbW=>?_)⟩
  have haW:=ha2.below hbW;have hsW:=hs2.below hbW;have g1:=g.below hb1;have hkw:AC (λk=>k=s\/k=a) w1 W:=hk2.trans (AC.ofBelow (S:=λk=>k=s\/k=a) hbW) (λ_ hi=>.inl hi)
  have g2:BD (JL rs f2) B S p d n C P N W:=g1.kept hkw (λk _ hk=>by
   rintro (rfl | rfl)
   ·exact hs hk
   ·exact ha hk)
  have hkw0:AC (λk=>S k\/k=s\/k=a) w W:=(AC.ofBelow (S:=λk=>S k\/k=s\/k=a) hb1).trans (hkw.mono (T:=λk=>S k\/k=s\/k=a) (λk hk=>.inr hk)) (λ_ hi=>.inl hi)
  refine⟨⟨haW.st,haW.hd,hsW.hd⟩,yH (λhe=>⟨S,hkw0,λ_ _ h=>h,g2,by rw[he];exact hsW,haW⟩),?_⟩
  have lg2:CW l d W:=(lg.below hb1).kept hkw (by rintro (h | h);exact hla.2 h;exact hla.1 h)
  have hown:∀b,v.ownBlock=some b->w.heap.size<=b/\b<w1.heap.size:=λb hb=>World.ownsRow.lt hp1 b hb
  have hlts:=x.sp.lt;have hlta:=x.ac.lt;have hpW:BP w.heap.size W v []:=AG hp1 (λb hb=>hkw.block b (hown b hb).2 (by have:=(hown b hb).1;omega))
  have hltS:∀b,S b->b<w.heap.size:=λb hb=>(g.low b hb).2
  have hszs:w.heap.size<=W.heap.size:=Nat.le_trans hb1.size hkw.size;refine (U5 B S s d l p n C P N rs f2 last h none v [] w.heap.size W hsW x.okl.len x.ok hs lg2 hl g2 hpW (λb hb hS=>by have:=hltS b hS;have:=(hown b hb).1;omega) (λp hp=>by cases hp) hsz hrs hc hP (by simpa using hN)).mono ?_
  rintro e w' ⟨rfl,S',h1,h2,h3,h4⟩;have haw':CO w' a s h (.map none):=haW.kept h1 (by rintro (hh | hh);exact ha hh;exact x.ne.1 hh)
  refine⟨rfl,⟨haw'.st,haw'.hd⟩,S',?_,λk hk hh=>h2 k (by omega) hh,h3,h4,haw'⟩
  exact hkw0.trans (h1.mono (T:=λk=>S k\/k=s\/k=a) (λk hk=>hk.imp id .inl)) (λ_ hi=>.inl hi))
 obtain⟨X,hX⟩:∃X:List Value,X=h.cells:=⟨_,rfl⟩;obtain⟨Y,hY⟩:∃Y:List Value,Y=last.cells:=⟨_,rfl⟩;have HXL:Hid ((Tryz.prog.info? 37).map (·.size)=some X.length):=yH (by rw[hX,Hd.cells_length x.ok];exact NN)
 have HYL:Hid ((Tryz.prog.info? 37).map (·.size)=some Y.length):=yH (by rw[hY,Hd.cells_length x.okl];exact NN)
 obtain⟨bq,hbq,heq⟩:∃bq:Bool,(bq=true ↔ h=last)/\∀W:World,(binOp .eql 37 (.agg X.toArray) (.agg Y.toArray)).run Tryz.prog W=.ok (.bool bq) W:=by
  rw[hX,hY];obtain⟨b0,h1,_⟩:=P7 x.ok x.okl w;refine⟨b0,h1,λW=>?_⟩
  obtain⟨b1,h2,h3⟩:=P7 x.ok x.okl W;have:b1=b0:=by rw[Bool.eq_iff_iff,h1,h2]
  rw[h3,this]
 have HBQ:=yH hbq;have HEQ:=yH heq;rw[<-hX,<-hY]at HFIN;clear x hs ha lg hl hla g hks hne hsz hrs hc hP hN hone hX hY hbq heq;go_enter Tryz.func19,Tryz.ntmps19;go_wp2_with fail;refine HR.out.mono ?_;rintro e w' ⟨rfl,hw⟩;subst w';go_wp2_with fail;refine HAP.out.mono ?_;rintro e w1 ⟨al,c,rfl,hp1,hb1⟩;have HEN:=yH (HFIN.out w1 _ hp1 hb1);clear hp1 hb1 HFIN HAP HR;go_wp2_with fail;refine HEN.out.mono ?_;rintro e w2 ⟨rfl,HW⟩;clear HEN;go_wp2;have hbA:Below w2.heap.size w2 w2.drew:=(Below.refl _ _).drew;have hbB:Below w2.heap.size w2 w2.drew.drew:=hbA.drew;obtain⟨hS0,hnone,-⟩:=HW.out _ hbA;obtain⟨hS1,-,hcall⟩:=HW.out _ hbB;have HS0:=yH hS0;have HS1:=yH hS1;have HCA:=yH hcall;clear hbA hbB hS0 hS1 hcall HW;refine wp_region_held_drew (S:=λW=>W.cell? ⟨a,1,none⟩=some (.pointer (some ⟨s,1,none⟩))/\W.rangeAt a 2 X/\W.rangeAt s 4 Y) (by kernel_rfl) HS0.out (λhHeld=>?_)
 refine wpAnyH_take (i:=0) (v:=.slice al 0 c) rfl (by kernel_rfl) (by kernel_rfl) (by kernel_rfl) (λ_ _ _ h=>h) (Or.inl ⟨by rfl,λW hW=>by clear hW;go_simp⟩) HS0.out ?_
 refine wpAnyH_take (i:=1) (v:=.int .i64 0) rfl (by kernel_rfl) (by kernel_rfl) (by kernel_rfl) (λ_ _ _ h=>h) (Or.inl ⟨by rfl,λW hW=>by clear hW;go_simp⟩) HS0.out ?_
 refine wpAnyH_take (i:=2) (v:=.bool true) rfl (by kernel_rfl) (by kernel_rfl) (by kernel_rfl) (λ_ _ _ h=>h) (Or.inl ⟨by rfl,λW hW=>by clear hW;go_simp⟩) HS0.out ?_
 refine wpAnyH_take (i:=3) (v:=.bool true) rfl (by kernel_rfl) (by kernel_rfl) (by kernel_rfl) (λ_ _ _ h=>h) (Or.inl ⟨by rfl,λW hW=>by clear hW;go_simp⟩) HS0.out ?_
 refine wpAnyH_take (i:=4) (v:=.pointer (some ⟨a,0,none⟩)) rfl (by kernel_rfl) (by kernel_rfl) (by kernel_rfl) (λ_ _ _ h=>h) (Or.inl ⟨by unfold Region.wanted yielded;go_simp,λW hW=>by clear hW;go_simp⟩) HS0.out ?_
 refine wpAnyH_take (i:=5) (v:=.pointer (some ⟨a,0,none⟩)) rfl (by kernel_rfl) (by kernel_rfl) (by kernel_rfl) (λ_ _ _ h=>h) (Or.inl ⟨by unfold Region.wanted yielded;go_simp,λW hW=>by clear hW;go_simp⟩) HS0.out ?_
 refine wpAnyH_take (i:=6) (v:=.pointer (some ⟨a,2,none⟩)) rfl (by kernel_rfl) (by kernel_rfl) (by kernel_rfl) (λ_ _ _ h=>h) (Or.inl ⟨by unfold Region.wanted yielded;go_simp,λW hW=>by clear hW;go_simp⟩) HS0.out ?_
 refine wpAnyH_take (i:=7) (v:=.agg X.toArray) rfl (by kernel_rfl) (by kernel_rfl) (by kernel_rfl) (λ_ _ _ h=>h) (yieldsIf_load_mid (by kernel_rfl) 37 (.tmp 20) (by kernel_rfl) a 2 (by kernel_rfl) X _ (λW hW=>hW.2.1) Tryz.underlying37 rfl HXL.out) HS0.out ?_
 refine wpAnyH_take (i:=8) (v:=.pointer (some ⟨a,0,none⟩)) rfl (by kernel_rfl) (by kernel_rfl) (by kernel_rfl) (λ_ _ _ h=>h) (Or.inl ⟨by unfold Region.wanted yielded;go_simp,λW hW=>by clear hW;go_simp⟩) HS0.out ?_
 refine wpAnyH_take (i:=9) (v:=.pointer (some ⟨a,0,none⟩)) rfl (by kernel_rfl) (by kernel_rfl) (by kernel_rfl) (λ_ _ _ h=>h) (Or.inl ⟨by unfold Region.wanted yielded;go_simp,λW hW=>by clear hW;go_simp⟩) HS0.out ?_
 refine wpAnyH_take (i:=10) (v:=.pointer (some ⟨a,1,none⟩)) rfl (by kernel_rfl) (by kernel_rfl) (by kernel_rfl) (λ_ _ _ h=>h) (Or.inl ⟨by unfold Region.wanted yielded;go_simp,λW hW=>by clear hW;go_simp⟩) HS0.out ?_
 refine wpAnyH_take (i:=11) (v:=.pointer (some ⟨s,1,none⟩)) rfl (by kernel_rfl) (by kernel_rfl) (by kernel_rfl) (λ_ _ _ h=>h) (Or.inl ⟨by unfold Region.wanted yielded;go_simp,λW hW=>by have hh:=hW.1;clear hW;go_simp⟩) HS0.out ?_
 refine wpAnyH_take (i:=12) (v:=.pointer (some ⟨s,1,none⟩)) rfl (by kernel_rfl) (by kernel_rfl) (by kernel_rfl) (λ_ _ _ h=>h) (Or.inl ⟨by unfold Region.wanted yielded;go_simp,λW hW=>by clear hW;go_simp⟩) HS0.out ?_
 refine wpAnyH_take (i:=13) (v:=.pointer (some ⟨s,4,none⟩)) rfl (by kernel_rfl) (by kernel_rfl) (by kernel_rfl) (λ_ _ _ h=>h) (Or.inl ⟨by unfold Region.wanted yielded;go_simp,λW hW=>by clear hW;go_simp⟩) HS0.out ?_
 refine wpAnyH_take (i:=14) (v:=.agg Y.toArray) rfl (by kernel_rfl) (by kernel_rfl) (by kernel_rfl) (λ_ _ _ h=>h) (yieldsIf_load_mid (by kernel_rfl) 37 (.tmp 27) (by kernel_rfl) s 4 (by kernel_rfl) Y _ (λW hW=>hW.2.2) Tryz.underlying37 rfl HYL.out) HS0.out ?_
 refine wpAnyH_take (i:=15) (v:=.bool bq) rfl (by kernel_rfl) (by kernel_rfl) (by kernel_rfl) (λ_ _ _ h=>h) (Or.inl ⟨by kernel_rfl,λW _=>AD3 (x:=.tmp 21) (y:=.tmp 28) (t':=37) (X:=X.toArray) (Y:=Y.toArray) (by kernel_rfl) (by kernel_rfl) (by kernel_rfl) W (HEQ.out W)⟩) HS0.out ?_
 refine wpAnyH_take (i:=16) (v:=.bool bq) rfl (by kernel_rfl) (by kernel_rfl) (by kernel_rfl) (λ_ _ _ h=>h) (Or.inl ⟨by rfl,λW hW=>by clear hW;go_simp⟩) HS0.out ?_
 refine wpAnyH_done (by kernel_rfl) ?_ _
 clear hHeld;refine BM2 (A':=⟨#[.pointer (some ⟨a,0,none⟩),undef,.int .i64 0,.int .i64 0,.slice al 0 c,.pointer (some ⟨a,0,none⟩),.int .i64 0,.int .i64 0,.bool false,undef,.pointer (some ⟨a,0,none⟩),.slice al 0 c,.pointer (some ⟨a,0,none⟩),.tuple #[],.slice al 0 c,.int .i64 0,.bool true,.bool true,.pointer (some ⟨a,0,none⟩),.pointer (some ⟨a,0,none⟩),.pointer (some ⟨a,2,none⟩),.agg X.toArray,.pointer (some ⟨a,0,none⟩),.pointer (some ⟨a,0,none⟩),.pointer (some ⟨a,1,none⟩),.pointer (some ⟨s,1,none⟩),.pointer (some ⟨s,1,none⟩),.pointer (some ⟨s,4,none⟩),.agg Y.toArray,.bool bq,.bool bq,undef,undef,undef,undef,undef,undef,undef,undef,undef,undef],[]⟩) (by kernel_rfl) ?_
 cases bq with
 | true =>
  have HN2:Hid (h=last/\RC B S a s d l p n C P N rs f2 h w w2.drew):=yH ⟨HBQ.out.1 rfl,hnone.out (HBQ.out.1 rfl)⟩;clear hnone HS1 HCA HS0;go_wp2;go_ret;exact⟨rfl,.inl HN2.out⟩
 | false =>
  clear hnone HS0;go_wp2;refine wp_region_held_drew (S:=λW=>W.cell? ⟨a,1,none⟩=some (.pointer (some ⟨s,1,none⟩))/\W.rangeAt a 2 X) (by kernel_rfl) ⟨HS1.out.1,HS1.out.2.1⟩ (λhHeld=>?_)
  have HS2:Hid (w2.drew.drew.cell? ⟨a,1,none⟩=some (.pointer (some ⟨s,1,none⟩))/\w2.drew.drew.rangeAt a 2 X):=yH ⟨HS1.out.1,HS1.out.2.1⟩;refine wpAnyH_take (i:=0) (v:=.pointer (some ⟨a,0,none⟩)) rfl (by kernel_rfl) (by kernel_rfl) (by kernel_rfl) (λ_ _ _ h=>h) (Or.inl ⟨by rfl,λW hW=>by clear hW;go_simp⟩) HS2.out ?_
  refine wpAnyH_take (i:=1) (v:=.pointer (some ⟨a,0,none⟩)) rfl (by kernel_rfl) (by kernel_rfl) (by kernel_rfl) (λ_ _ _ h=>h) (Or.inl ⟨by rfl,λW hW=>by clear hW;go_simp⟩) HS2.out ?_
  refine wpAnyH_take (i:=2) (v:=.pointer (some ⟨a,1,none⟩)) rfl (by kernel_rfl) (by kernel_rfl) (by kernel_rfl) (λ_ _ _ h=>h) (Or.inl ⟨by rfl,λW hW=>by clear hW;go_simp⟩) HS2.out ?_
  refine wpAnyH_take (i:=3) (v:=.pointer (some ⟨s,1,none⟩)) rfl (by kernel_rfl) (by kernel_rfl) (by kernel_rfl) (λ_ _ _ h=>h) (Or.inl ⟨by rfl,λW hW=>by have hh:=hW.1;clear hW;go_simp⟩) HS2.out ?_
  refine wpAnyH_take (i:=4) (v:=.pointer (some ⟨a,0,none⟩)) rfl (by kernel_rfl) (by kernel_rfl) (by kernel_rfl) (λ_ _ _ h=>h) (Or.inl ⟨by rfl,λW hW=>by clear hW;go_simp⟩) HS2.out ?_
  refine wpAnyH_take (i:=5) (v:=.pointer (some ⟨a,0,none⟩)) rfl (by kernel_rfl) (by kernel_rfl) (by kernel_rfl) (λ_ _ _ h=>h) (Or.inl ⟨by rfl,λW hW=>by clear hW;go_simp⟩) HS2.out ?_
  refine wpAnyH_take (i:=6) (v:=.pointer (some ⟨a,2,none⟩)) rfl (by kernel_rfl) (by kernel_rfl) (by kernel_rfl) (λ_ _ _ h=>h) (Or.inl ⟨by rfl,λW hW=>by clear hW;go_simp⟩) HS2.out ?_
  refine wpAnyH_take (i:=7) (v:=.agg X.toArray) rfl (by kernel_rfl) (by kernel_rfl) (by kernel_rfl) (λ_ _ _ h=>h) (yieldsIf_load_mid (by rfl) 37 _ rfl a 2 rfl X _ (λW hW=>hW.2) Tryz.underlying37 rfl HXL.out) HS2.out ?_
  refine wpAnyH_take (i:=8) (v:=.slice al 0 c) rfl (by kernel_rfl) (by kernel_rfl) (by kernel_rfl) (λ_ _ _ h=>h) (Or.inl ⟨by rfl,λW hW=>by clear hW;go_simp⟩) HS2.out ?_
  refine wpAnyH_ready (rs:=[9]) (by kernel_rfl) (by simp) ?_
  refine AllReadyH.cons rfl (λK hK=>?_) AllReadyH.nil
  go_simp
  go_at_call 58;refine HCA.out.mono ?_;rintro e w4 ⟨rfl,hS4,hpost⟩;have HPO:=yH hpost;clear hpost;refine hK.out _ _ hS4 (λhHeld2=>?_)
  clear hK K;refine wpAnyH_take (i:=10) (v:=.int .i64 0) rfl (by kernel_rfl) (by kernel_rfl) (by kernel_rfl) (λ_ _ _ h=>h) (Or.inl ⟨by rfl,λW hW=>by clear hW;go_simp⟩) hS4 ?_
  refine wpAnyH_done (by kernel_rfl) ?_ _
  clear hHeld hHeld2;go_wp2;go_ret;exact⟨rfl,.inr HPO.out⟩
section
variable {B a s d l p db m n N:Nat} {S:Nat->Prop} {C:Nat->List UInt8} {last h:Hd} {D:Nat->Option Dr} {w:World}
theorem AL5 (rs:List ByteArray)(f2:List UInt8)(ks:List Nat)(g:CK (JL rs f2) B S a s d l p db m n C N last h D w)(hks:E3 D ks)(hf:∀p ∈ BC D ks,p.Fits)(hsz:(EI h (BC D ks)).length<=16777216)
  (hrs:GL rs) (hc:C4 rs ⟨(EI h (BC D ks)).toArray⟩=0) (hN:N+1+3*(BC D ks).length<=4398046511104) :
  Calls Tryz.prog 19 #[.pointer (some ⟨a,0,none⟩)] w λe w'=>e=.returned (.int .i64 0)/\∃S' rs',(rs'=rs/\BC D ks=[]/\h=last\/rs'=rs++[⟨(EI h (BC D ks)).toArray⟩]) /\
   OR (JL rs' f2) B S' s d l p n (EE C (BC D ks)) (N+1+3*(BC D ks).length) h none w'/\CO w' a s h (.map none)/\AC (λk=>S k\/k=s\/k=a) w w'/\∀k,k<w.heap.size->S' k->S k:=by
 have h1:=g.act.sp.lt;have h4:=g.lg.lt
 have hmk:∀(rs':List ByteArray) (S':Nat->Prop) (C':Nat->List UInt8) (M:Nat) (w':World),AC (λk=>S k\/k=s\/k=a) w w'->(∀k,k<w.heap.size->S' k->S k)->BD (JL rs' f2) B S' p d n C' P0 M w'->AV w' s d l p h none->OR (JL rs' f2) B S' s d l p n C' M h none w':=λrs' S' C' M w' hk hS' hp hsp =>
  ⟨hsp,g.act.ok,hp,g.lg.kept hk (by rintro (hh | hh | hh);exact g.nl hh;exact g.ne.2.1 hh;exact g.ne.1 hh),λhh=>g.ns (hS' _ h1 hh),λhh=>g.nl (hS' _ h4 hh),g.ne.2.1,⟨g.low.2.1,g.low.2.2.1⟩,g.n0⟩
 by_cases hne:BC D ks=[]
 ·rw[hne]at hsz hc hN ⊢
  refine (XU B S a s d l p n db m C P0 N rs f2 last h D ks w g.act g.ns g.na g.lg g.nl ⟨g.ne.1,g.ne.2.1⟩ g.pool hks hne hsz hrs hc (V8 g.n0) (by simpa using hN)).mono ?_
  rintro e w' ⟨rfl,⟨hh,S',hk,hS',hp,hsp,hac⟩ | ⟨S',hk,hS',hp,hsp,hac⟩⟩
  ·exact⟨rfl,S',rs,.inl ⟨rfl,rfl,hh⟩,(hmk rs S' C N w' hk hS' hp hsp).more (by omega),hac,hk,hS'⟩
  ·exact⟨rfl,S',_,.inr rfl,hmk _ S' _ _ w' hk hS' hp hsp,hac,hk,hS'⟩
 ·refine (XT B S a s d l p n db m C P0 N rs f2 last h D ks w g.act g.ns g.na g.lg g.nl ⟨g.ne.1,g.ne.2.1⟩ g.pool hks hne hf hsz hrs hc (V8 g.n0) hN).mono ?_;rintro e w' ⟨rfl,S',hk,hS',hp,hsp,hac⟩;exact⟨rfl,S',_,.inr rfl,hmk _ S' _ _ w' hk hS' hp hsp,hac,hk,hS'⟩
end
end Go.Proofs.YtfbbjiidccbaiaaGreatDoor
set_option maxRecDepth 100000
set_option maxHeartbeats 6400000
namespace Go.Proofs.YtfbbjiidccbaiaaGreatDoor
open Go.RowKit
structure CD2 (f2:List UInt8)(B:Nat)(S:Nat->Prop)(c:Ac)(rs:List ByteArray)(h:Hd)(G:Nat->List UInt8)(w w':World)(S':Nat->Prop)(rs':List ByteArray)(ps:List Pt):Prop where
 told:rs'=rs/\ps=[]/\h=c.last\/rs'=rs++[⟨(EI h ps).toArray⟩]/\1<=(⟨(EI h ps).toArray⟩:ByteArray).size/\(⟨(EI h ps).toArray⟩:ByteArray).size<=1048576
 fits:∀p ∈ ps,p.Fits
 few:ps.length<=1000000
 ok:h.Ok
 sp:OR (JL rs' f2) B S' c.s c.d c.l c.p c.n (EE c.C ps) (c.N+1+3*ps.length) h none w'
 act:CO w' c.a c.s h (.map none)
 is:∀q,h.has q->EE c.C ps q=G q
 anew:(∀q,¬c.last.has q)->∀C2:Nat->List UInt8,(∀q,(C2 q).length=512)->∀q,h.has q->EE C2 ps q=G q
 len:∀q,(EE c.C ps q).length=512
 kept:AC S w w'
 old:∀k,k<w.heap.size->S' k->S k
 na:¬S' c.a/\c.a≠c.s/\c.a≠c.l/\c.a<w.heap.size
section
variable {f2:List UInt8} {rs:List ByteArray} {B:Nat} {S:Nat->Prop} {c:Ac} {h:Hd} {G:Nat->List UInt8} {w:World}
theorem BK8 (x:AU (JL rs f2) B S c h G w)(hC:∀q,(c.C q).length=512)(qs:List Nat)(hq:∀q,h.has q->q ∈ qs)(hqs:qs.length<=1900)(hrs:GL rs)(hroom:(DO rs).length<=3000000)(hN:c.N<=4398000000000) :
  Calls Tryz.prog 19 #[.pointer (some ⟨c.a,0,none⟩)] w λe w'=>e=.returned (.int .i64 0)/\∃S' rs' ps,CD2 f2 B S c rs h G w w' S' rs' ps:=by
 obtain⟨m,D,S0,hL,h1,h2,h3,h4⟩:=x.live;obtain⟨D0,_,_,hk⟩:=hL.act.dr.keys;obtain⟨ks,hks,_,_⟩:=hk _ (List.Perm.refl _);have hl:∀q x,D q=some x->x.was.length=512/\x.now.length=512:=λq y hy=>by
  obtain⟨_,_,_,g1,g2,_⟩:=hL.act.dr.at_ q y hy;exact⟨g1,g2⟩
 have h4096:∀q x,D q=some x->q<4096:=λq y hy=>(hL.act.dr.at_ q y hy).1
 have hkl:ks.length<=1900:=by
  refine Nat.le_trans (List.Nodup.length_le_of_subset hks.nodup (λq hm=>?_)) hqs
  obtain⟨y,hy⟩:=Option.isSome_iff_exists.1 ((hks.2 q).1 hm);exact hq q (hL.act.has q y hy)
 have hok:=hL.act.ok;have hlen:=BP9 h hok D hl ks;have hfew:(BC D ks).length<=1000000:=by have:=Q6 D ks;omega
 have hz:(⟨(EI h (BC D ks)).toArray⟩:ByteArray).size=(EI h (BC D ks)).length:=by simp[ByteArray.size]
 have hpos:1<=(EI h (BC D ks)).length:=by
  unfold EI hdB;rw[List.length_append,List.length_append,List.length_append,AW];omega
 have hc:C4 rs ⟨(EI h (BC D ks)).toArray⟩=0:=by
  unfold C4;rw[if_neg (by rw[hz];omega),if_neg (by rw[hz];omega)]
 have hf:=ON hl h4096 ks;have hwas:BN8 c.C D:=h3.1;have happ:=λr=>AC0 hks hl hC hwas r
 refine (AL5 rs f2 ks hL hks hf (by omega) hrs hc (by omega)).mono ?_
 rintro e w' ⟨rfl,S',rs',ht,hsp,hac,hkp,hold⟩;have hn1:=hL.act.ac.lt;refine⟨rfl,S',rs',BC D ks,⟨?_,hf,hfew,hok,hsp,hac,λq hh=>?_,λhno C2 hC2 q hh=>?_,λq=>?_,hkp.mono (λk hk=>?_),λk hk hS=>h1 k (hold k hk hS),⟨λhS=>hL.na (hold _ hn1 hS),hL.act.ne.1,λe=>hL.ne.1 e.symm,hn1⟩⟩⟩
 ·rcases ht with ht|ht
  ·exact .inl ht
  ·exact .inr ⟨ht,by rw[hz];omega,by rw[hz];omega⟩
 ·rw[happ q,h4 q hh];rfl
 ·have hfr:∀q y,D q=some y->y.fresh=true:=λq y hy=>(h3.2.1 q y hy).resolve_right (hno q)
  have hw2:BN8 C2 D:=λr y hy=>by rw[h3.1 r y hy,if_pos (hfr r y hy),if_pos (hfr r y hy)]
  rw[AC0 hks hl hC2 hw2 q,h4 q hh];unfold pgD;cases hd:D q with
  | none=>exact absurd (h3.2.2 q hh hd) (hno q)
  | some y=>rfl
 ·rw[happ q];cases hd:D q with
  | none=>exact hC q
  | some y=>exact (hl q y hd).2
 ·rcases hk with hk|rfl|rfl
  ·exact h1 k hk
  ·exact x.own.2.1
  ·exact x.own.1
theorem AP8 {J:List AD->Prop}{s d l p n N:Nat}{S1:Nat->Prop}{C:Nat->List UInt8}{last:Hd}(g:OR J B S1 s d l p n C N last none w)(hJ:ID J)(hN:N<=4398046511000)(hT:Tab w)(hB:1<=B) :
  Calls Tryz.prog 11 #[.pointer (some ⟨s,0,none⟩)] w λe w'=>∃(c:Ac) (S:Nat->Prop),e=.returned (.tuple #[.pointer (some ⟨c.a,0,none⟩),.int .i64 0])/\c.s=s/\c.d=d/\c.l=l/\c.p=p/\c.n=n/\c.N=N/\c.C=C/\c.last=last/\AU J B S c last C w'/\w.heap.size<=c.a/\(∀k,k<w.heap.size->S k->S1 k\/k=s\/k=l)/\AC (λk=>k=s) w w':=by
 refine (AF1 s d l p last w g.sp g.ok).mono ?_;rintro e w' ⟨a,db,rfl,hac,hm,hsp,ha,hdb,hne,hk⟩;have hsz:=g.size;have hlS:∀k,S1 k->k<w.heap.size:=λk hk=>(g.pool.low k hk).2
 have hll:=g.lg.lt;have hls:=g.sp.lt;have hL:CK J B S1 a s d l p db 0 n C N last last (λ_=>none) w':=⟨⟨hsp,hac,AP5 hm,g.ok,g.ok,(λq x hq=>by cases hq),⟨by omega,hne,by omega⟩,(λq x hq=>by cases hq)⟩,g.pool.kept hk (λk _ hS he=>g.ns (he ▸ hS)),g.lg.kept hk g.ne,g.ns,λhh=>by have:=hlS _ hh;omega,g.nl,λhh=>by have:=hlS _ hh;omega,(λq x hq=>by cases hq),⟨by omega,g.ne,by omega,(λq x hq=>by cases hq)⟩,⟨by omega,g.low.1,g.low.2,by omega,(λq x hq=>by cases hq)⟩,g.n0⟩
 have hT':Tab w':=hT.kept hk (λh0=>by have h0':0=s:=h0;have:=g.low.1;omega)
 refine⟨⟨a,s,d,l,p,db,n,N,C,last⟩,_,rfl,rfl,rfl,rfl,rfl,rfl,rfl,rfl,rfl,T5 (c:=⟨a,s,d,l,p,db,n,N,C,last⟩) hL hJ hN hT' hB (λq hq=>hq),ha,λk hlt hS=>?_,hk⟩
 rcases hS with h1|h1|h1|h1|h1
 ·exact .inl h1
 ·simp only at h1;omega
 ·exact .inr (.inl h1)
 ·exact .inr (.inr h1)
 ·simp only at h1;omega
theorem BX7 (x:AU (JL rs []) B S c h G w)(n:Nat)(xs:List (Hd × List Pt))(hrs:GL rs)(h1:4<=n)(h2:n<=1024)(hlen:rs.length=xs.length)(hx:∀i (h1:i<rs.length) (h2:i<xs.length),RA rs[i] xs[i])(hN:FT c.N xs<=4398046511104)(hok:(JJ Hd.zero xs).Ok) :
  Calls Tryz.prog 9 #[.pointer (some ⟨c.d,0,none⟩),.int .i64 n] w λe w'=>∃s l p S1 T C0,e=.returned (.tuple #[.pointer (some ⟨s,0,none⟩),.int .i64 0])/\(∀q,(C0 q).length=512)/\OR (JL rs []) B S1 s c.d l p n (LV C0 xs) (FT c.N xs) (JJ Hd.zero xs) none w' /\
   w.heap.size<=s/\w.heap.size<=l/\AC T w w'/\(∀k,T k->S k/\k≠c.a/\k≠c.s/\k≠c.l)/\∀k,k<w.heap.size->S1 k->T k:=by
 obtain⟨m,D,S0,hL,g1,_⟩:=x.live;obtain⟨Sd,ops,hJ,hD,hSd,hol,_⟩:=hL.pool.disk;refine (ZV (JL rs []) B c.d n c.N Sd ops rs xs w hD (λk hk=>hL.pool.low k (hSd k hk)) hJ.1 hrs h1 h2 hol hJ hlen hx hN (λops q bs h=>JL.save ops q bs h) (λops h=>BB3 ops _ h)).mono ?_
 rintro e w' ⟨s,l,p,S',rfl,⟨a1,a2,a3,a4,a5⟩,hlg,hsp,hpool,hk,ho⟩;have hsz:=hL.size;exact⟨s,l,p,S',Sd,_,rfl,λq=>FJ _ _,⟨hsp,hok,hpool,hlg,a4,a5,a3,⟨by omega,by omega⟩,by omega⟩,a1,a2,hk,λk hk=>⟨g1 k (hSd k hk),λe=>hL.na (e ▸ hSd k hk),λe=>hL.ns (e ▸ hSd k hk),λe=>hL.nl (e ▸ hSd k hk)⟩,ho⟩
end
end Go.Proofs.YtfbbjiidccbaiaaGreatDoor
set_option maxRecDepth 100000
set_option maxHeartbeats 6400000
namespace Go.Proofs.YtfbbjiidccbaiaaGreatDoor
open Go Go.RowKit
theorem AY.congr {h:Hd}{G G':Nat->List UInt8}{top:Nat}{F:List En}{ps:List Nat}(x:AY h G top F ps)(hG:∀q,h.has q->G' q=G q):AY h G' top F ps :=
 ⟨x.nodup,x.is.imp id λ⟨m,t,h1,h2,h3,h4,h5,h6⟩=>⟨m,t,h1,h2,h3,h4,h5,h6.congr λq _ _ _ hl=>⟨hl.1,(hG q hl.1).trans hl.2.1,hl.2.2⟩⟩⟩
theorem LiI.to {S S':Nat->Prop}{w w':World}{v:Value}{l:List En}(h:LiI S w v l)(hk:AC S w w')(ho:∀k,k<w.heap.size->S' k->S k):LiI S' w' v l:=⟨h.is.kept hk h.out,λg hg hs=>h.out g hg (ho g (h.is.lt g hg) hs)⟩
structure JC (S:Nat->Prop)(w:World)(a s b tb:Nat):Prop where
 a0:w.cell? ⟨a,0,none⟩=some (.pointer (some ⟨a,0,none⟩))
 a1:w.cell? ⟨a,1,none⟩=some (.pointer (some ⟨s,1,none⟩))
 s85:w.cell? ⟨s,85,none⟩=some (.pointer (some ⟨b,0,none⟩))
 b0:w.cell? ⟨b,0,none⟩=some (.pointer (some ⟨b,0,none⟩))
 fa:∀j,w.frozen? ⟨a,j,none⟩=false
 fb:∀j,w.frozen? ⟨b,j,none⟩=false
 tree:AH w tb a 7
 ne:a≠b
 out:¬S a/\¬S s/\¬S b/\¬S tb
section
variable {S S':Nat->Prop} {w w':World} {a s b tb:Nat}
theorem JC.to (o:JC S w a s b tb)(hk:AC S w w')(ho:∀k,k<w.heap.size->S' k->S k):JC S' w' a s b tb:=by
 have la:=World.block_lt_of_cell? w _ o.a0;have ls:=World.block_lt_of_cell? w _ o.s85;have lb:=World.block_lt_of_cell? w _ o.b0;have ka:=hk.block a la o.out.1;have ks:=hk.block s ls o.out.2.1;have kb:=hk.block b lb o.out.2.2.1;exact⟨(World.cell?_of_block ka).trans o.a0,(World.cell?_of_block ka).trans o.a1,(World.cell?_of_block ks).trans o.s85,(World.cell?_of_block kb).trans o.b0,λj=>(World.frozen?_of_block ka).trans (o.fa j),λj=>(World.frozen?_of_block kb).trans (o.fb j),o.tree.kept hk o.out.2.2.2,o.ne,
  ⟨λh=>o.out.1 (ho _ la h),λh=>o.out.2.1 (ho _ ls h),λh=>o.out.2.2.1 (ho _ lb h),λh=>o.out.2.2.2 (ho _ o.tree.lt h)⟩⟩
theorem JC.below (o:JC S w a s b tb)(hb:Below w.heap.size w w'):JC S w' a s b tb:=o.to (AC.ofBelow hb) (λ_ _ h=>h)
theorem JC.get (o:JC S w a s b tb)(k:ByteArray):Calls Tryz.prog 34 #[.pointer (some ⟨tb,0,none⟩),.string k] w λe w'=>e=.returned (.tuple #[.string ⟨#[]⟩,.int .i64 5])/\Below w.heap.size w w' :=
 BI1 (c:=⟨a,s,0,0,0,0,0,0,λ_=>[],Hd.zero⟩) (λn=>by
  have o':=o.below (AF w n);exact Q2 a b s (w.drewN n) o'.a0 o'.a1 o'.s85 o'.ne o'.b0 o'.fa o'.fb) o.tree k
end
structure KpS (c c2:Ac)(tb:Nat)(F:List En)(v:Value)(rs:List ByteArray)(xs:List (Hd × List Pt))(h:Hd)(pt:List Nat)(S:Nat->Prop)(w:World):Prop where
 act:CO w c.a c.s h (.map none)
 tree:AH w tb c.a 7
 out:¬S c.a/\¬S tb
 li:LiI S w v F
 same:c2.s=c.s/\c2.d=c.d/\c.a≠c2.a
 on:AY h c2.C (h.root 7) F pt/\∀q,h.has q->q ∈ pt
 len:∀q,(c2.C q).length=512
 recs:GL rs/\rs.length=xs.length/\∀i (h1:i<rs.length) (h2:i<xs.length),RA rs[i] xs[i]
 head:JJ Hd.zero xs=h/\h.Ok
 cost:FT c2.N xs<=8000000
 anew:∀C0:Nat->List UInt8,(∀q,(C0 q).length=512)->∀q,h.has q->LV C0 xs q=c2.C q
section
variable {c c2:Ac} {tb:Nat} {F:List En} {v:Value} {rs:List ByteArray} {xs:List (Hd × List Pt)} {h:Hd} {pt:List Nat} {S S':Nat->Prop} {w w':World}
theorem KpS.to (x:KpS c c2 tb F v rs xs h pt S w)(hk:AC S w w')(ho:∀k,k<w.heap.size->S' k->S k):KpS c c2 tb F v rs xs h pt S' w' :=
 ⟨x.act.kept hk x.out.1,x.tree.kept hk x.out.2,⟨λhs=>x.out.1 (ho _ x.act.lt hs),λhs=>x.out.2 (ho _ x.tree.lt hs)⟩,x.li.to hk ho,x.same,x.on,x.len,x.recs,x.head,x.cost,x.anew⟩
end
def KpU (w0:World)(a d s tb:Nat)(v:Value)(b tb2 k:Nat)(w:World):Prop :=
 ∃(c c2:Ac) (S:Nat->Prop) (F F2:List En) (rs:List ByteArray) (xs:List (Hd × List Pt)) (h:Hd) (pt:List Nat),
  (c.a=a/\c.d=d/\c.s=s/\c2.a=b)/\KpS c c2 tb F v rs xs h pt S w/\BO (JL rs []) w0.heap.size S c2 tb2 7 F2 U0 w/\F2.length<=k/\F.length<=400/\Below w0.heap.size w0 w
section
variable {c:Ac} {tb n:Nat} {w0 wr:World} {v:Value}
theorem PlI.commit (I:PlI c tb 7 w0 v n wr)(hz:c.last=Hd.zero/\c.N=0)(hC:∀q,(c.C q).length=512)(hn:n<=400)(hT:Tab w0) :
  Calls Tryz.prog 19 #[.pointer (some ⟨c.a,0,none⟩)] wr λe w1=>e=.returned (.int .i64 0)/\Hid (Calls Tryz.prog 11 #[.pointer (some ⟨c.s,0,none⟩)] w1 λe w2=>∃b,e=.returned (.tuple #[.pointer (some ⟨b,0,none⟩),.int .i64 0]) /\
   Hid (Calls Tryz.prog 28 #[.pointer (some ⟨b,0,none⟩),.int .i64 7] w2 λe w3=>∃tb2,e=.returned (.tuple #[.pointer (some ⟨tb2,0,none⟩),.int .i64 0])/\Hid (KpU w0 c.a c.d c.s tb v b tb2 n w3))):=by
 obtain⟨S,F,⟨h,G,ps,hA,hTr,hnS,hon,honly,_⟩,hli,hFl,hbl⟩:=I;have hps:∀q,h.has q->q ∈ ps:=λq hq=>(honly q hq).resolve_right (by simp[U0])
 have hlow:=λk hk=>(hA.low k hk).1
 refine (BK8 hA hC ps hps (by have:=hon.few;omega) GL.nil (by decide) (by have:=hz.2;omega)).mono ?_
 rintro e w1 ⟨rfl,S1,rs,pt,hc⟩;refine⟨rfl,yH ?_⟩;have hb1:Below w0.heap.size w0 w1:=hbl.trans (hc.kept.toBelow hbl.size hlow);have hT1:Tab w1:=hT.below hb1 hT.1;refine (AP8 hc.sp (ID.jl _ _) (by have:=hc.few;have:=hz.2;omega) hT1 hT.1).mono ?_
 rintro e w2 ⟨c2,S2,rfl,es,ed,el,ep,en,eN,eC,elast,hA2,hage,hold,hk2⟩;refine⟨c2.a,rfl,yH ?_⟩;rw[<-eC]at hA2;refine (W7 hA2 7 (by omega)).mono ?_
 rintro e w3 ⟨tb2,rfl,ht2,htb2,hb3⟩;refine⟨tb2,rfl,yH ?_⟩;have hsz1:=hc.kept.size;have hkk:AC S wr w2:=hc.kept.trans (hk2.mono (T:=S) (λk e=>e ▸ hA.own.2.1)) (λ_ hi=>.inl hi)
 have hoo:∀k,k<wr.heap.size->S2 k->S k:=λk hlt hs=>by
  rcases hold k (by omega) hs with h1|rfl|rfl
  ·exact hc.old k hlt h1
  ·exact hA.own.2.1
  ·exact hA.own.2.2.1
 have hact2:CO w2 c.a c.s h (.map none):=hc.act.kept hk2 hc.na.2.1;have hb02:Below w0.heap.size w0 w2:=hbl.trans (hkk.toBelow hbl.size hlow);have hb03:Below w0.heap.size w0 w3:=hb02.trans (hb3.mono hb02.size);have hC2:∀q,(c2.C q).length=512:=λq=>by rw[eC];exact hc.len q
 have hon2:AY h c2.C (h.root 7) F ps:=hon.congr λq hq=>by rw[eC];exact hc.is q hq
 have hN2:c2.N<=3000001:=by rw[eN,hz.2];have:=hc.few;omega
 obtain⟨xs,hr,hh,hN,hnew⟩:∃xs:List (Hd × List Pt),(GL rs/\rs.length=xs.length/\∀i (h1:i<rs.length) (h2:i<xs.length),RA rs[i] xs[i])/\JJ Hd.zero xs=h/\FT c2.N xs<=8000000/\(∀C0:Nat->List UInt8,(∀q,(C0 q).length=512)->∀q,h.has q->LV C0 xs q=c2.C q):=by
  have hno:∀q,¬c.last.has q:=λq hq=>by rw[hz.1]at hq;exact Y2 q hq
  rcases hc.told with⟨h1,h2,h3⟩|⟨h1,h2,h3⟩
  ·subst h1;refine⟨[],⟨GL.nil,rfl,λi h1=>by simp at h1⟩,by rw[h3,hz.1];rfl,by show c2.N<=_;omega,λC0 _ q hq=>?_⟩
   rw[h3]at hq;exact absurd hq (hno q)
  ·rw[List.nil_append]at h1;subst h1;refine⟨[(h,pt)],⟨λx hx=>by rw[List.mem_singleton]at hx;subst hx;exact⟨h2,h3⟩,rfl,λi h1 h2=>?_⟩,rfl,?_,λC0 h0 q hq=>?_⟩
   ·have:i=0:=by simp at h1;omega
    subst this;exact AR6 h hc.ok pt (by have:=hc.few;omega) hc.fits
   ·show c2.N+3*pt.length<=_;have:=hc.few;omega
   ·show EE C0 pt q=_;rw[hc.anew hno C0 h0 q hq,eC,hc.is q hq]
 refine⟨c,c2,S2,F,F,rs,xs,h,ps,⟨rfl,rfl,rfl,rfl⟩,⟨hact2.below hb3,(hTr.kept hkk hnS).below hb3,⟨λhs=>?_,λhs=>hnS (hoo tb hTr.lt hs)⟩,(hli.to hkk hoo).below hb3,⟨es,ed,by have:=hc.na.2.2.2;omega⟩,⟨hon2,hps⟩,hC2,hr,⟨hh,hc.ok⟩,hN,hnew⟩,⟨h,c2.C,ps,hA2.below hb3,ht2,λhs=>?_,hon2,honly,trivial⟩,hFl,by omega,hb03⟩
 ·rcases hold c.a (by have:=hc.na.2.2.2;omega) hs with h1|h1|h1
  ·exact hc.na.1 h1
  ·exact hc.na.2.1 h1
  ·exact hc.na.2.2.1 h1
 ·have:=(hA2.low _ hs).2;omega
end
section
variable {w0 w:World} {a d s tb b tb2 k:Nat} {v:Value} {xs:List It} {al:Option Addr}
theorem KpU.does (I:KpU w0 a d s tb v b tb2 k w)(hS:Sl w0 al xs)(hks:∀x ∈ xs,x.f.size<9223372036854775807)(hn:xs.length<=400)(hk:k<xs.length) :
  ∃(g off:Nat) (kd:Int) (key val:ByteArray),al=some ⟨g,off,none⟩/\w.cell? ⟨g,off+k*3,none⟩=some (.int .i64 kd)/\w.cell? ⟨g,off+k*3+1,none⟩=some (.string key)/\w.cell? ⟨g,off+k*3+2,none⟩=some (.string val) /\
   Calls Tryz.prog 29 #[.pointer (some ⟨tb2,0,none⟩),.slice none 0 0,.agg #[.int .i64 kd,.string key,.string val]] w λe w2=>∃v' bb,e=.returned (.tuple #[v',.bool bb])/\Hid (KpU w0 a d s tb v b tb2 (k+1) w2):=by
 obtain⟨c,c2,S,F,F2,rs,ys,h,pt,he,hx,ht,hF2,hF,hbl⟩:=I;rcases hS.below hbl with h0|⟨g,off,ha,hbw,hcell⟩
 ·rw[h0]at hk;simp at hk
 ·obtain⟨c0,c1,c2'⟩:=hcell k hk;refine⟨g,off,_,_,_,ha,c0,c1,c2',?_⟩;refine (AN5 ht (by omega) hx.len (by omega) AN2 (LiI.nil_ _ _) (by simp) trivial _ _ _ (hks _ (List.getElem_mem hk))).mono ?_
  rintro e w2 ⟨v',b2,S',rfl,_,q1,q2,q3⟩;have hl:=R0 (xs[k]'hk).k (xs[k]'hk).f (xs[k]'hk).n F2;exact⟨v',b2,rfl,yH ⟨c,c2,S',F,_,rs,ys,h,pt,he,hx.to q2.1 q2.2,q1,by omega,hF,hbl.trans (q2.1.toBelow hbl.size ht.low.1)⟩⟩
theorem KpU.open_ (I:KpU w0 a d s tb v b tb2 k w)(hT:Tab w0) :
  Calls Tryz.prog 9 #[.pointer (some ⟨d,0,none⟩),.int .i64 4] w λe w1=>∃y,e=.returned (.tuple #[.pointer (some ⟨y,0,none⟩),.int .i64 0])/\Hid (Calls Tryz.prog 11 #[.pointer (some ⟨y,0,none⟩)] w1 λe w2=>∃b3,e=.returned (.tuple #[.pointer (some ⟨b3,0,none⟩),.int .i64 0]) /\
   Hid (Calls Tryz.prog 28 #[.pointer (some ⟨b3,0,none⟩),.int .i64 7] w2 λe w3=>∃tb3,e=.returned (.tuple #[.pointer (some ⟨tb3,0,none⟩),.int .i64 0]) /\
    Hid (Calls Tryz.prog 31 #[.pointer (some ⟨tb3,0,none⟩)] w3 λe w4=>∃v2,e=.returned (.tuple #[v2,.bool true]) /\
     Hid (Calls Tryz.prog 34 #[.pointer (some ⟨tb,0,none⟩),.string ⟨#[120]⟩] w4 λe w5=>e=.returned (.tuple #[.string ⟨#[]⟩,.int .i64 5]) /\
      Hid (Calls Tryz.prog 32 #[v2,v] w5 λe w6=>e=.returned (.bool true) /\
       Hid (Calls Tryz.prog 27 #[] w6 λe w7=>e=.returned (.bool true)/\Below w0.heap.size w0 w7)))))):=by
 obtain⟨c,c2,S,F,F2,rs,xs,h,pt,⟨rfl,rfl,rfl,rfl⟩,hx,ht,hF2,hF,hbl⟩:=I;obtain⟨h2,G2,ps2,hA2,_⟩:=ht;have hlow:=λk hk=>(hA2.low k hk).1
 obtain⟨m,D,S0,hL,_⟩:=hA2.live;have hsp:=hL.act.sp;have hac:=hL.act.ac;have hov:∀T:Nat->Prop,(∀k,T k->S k/\k≠c2.a/\k≠c2.s/\k≠c2.l)->JC T w c.a c.s c2.a tb:=λT hT' =>
  ⟨hx.act.self,hx.act.st,by rw[<-hx.same.1];exact hsp.cur_,hac.self,hx.act.froz,hac.froz,hx.tree,hx.same.2.2,⟨λh=>hx.out.1 (hT' _ h).1,λh=>(hT' _ h).2.2.1 hx.same.1.symm,λh=>(hT' _ h).2.1 rfl,λh=>hx.out.2 (hT' _ h).1⟩⟩
 rw[<-hx.same.2.1];refine (BX7 hA2 4 xs hx.recs.1 (by omega) (by omega) hx.recs.2.1 hx.recs.2.2 (by have:=hx.cost;omega) (by rw[hx.head.1];exact hx.head.2)).mono ?_
 rintro e w1 ⟨y,ly,py,S1,T,C0,rfl,h0,hy,hys,hyl,hkT,hTS,hoT⟩;have o1:=hov T hTS;have li1:LiI T w v F:=⟨hx.li.is,λg hg hh=>hx.li.out g hg (hTS g hh).1⟩
 have hb1:Below w0.heap.size w0 w1:=hbl.trans (hkT.toBelow hbl.size (λk hk=>hlow k (hTS k hk).1))
 rw[hx.head.1]at hy;have hT1:Tab w1:=hT.below hb1 hT.1;clear hac hsp hL;refine⟨y,rfl,yH ?_⟩;refine (AP8 hy (ID.jl _ _) (by have:=hx.cost;omega) hT1 hT.1).mono ?_
 rintro e w2 ⟨c3,S3,rfl,es,ed,el,ep,en,eN,eC,elast,hA3,hage,hold,hk2⟩;have hs1:w.heap.size<=w1.heap.size:=hkT.size;have hk02:AC T w w2:=hkT.trans hk2 (λk e=>.inr (by have e':k=y:=e;omega))
 have ho02:∀k,k<w.heap.size->S3 k->T k:=λk hlt hs=>by
  rcases hold k (by omega) hs with h1|rfl|rfl
  ·exact hoT k hlt h1
  ·omega
  ·omega
 have o3:=o1.to hk02 ho02;have li3:=li1.to hk02 ho02;have hb2:Below w0.heap.size w0 w2:=hbl.trans (hk02.toBelow hbl.size (λk hk=>hlow k (hTS k hk).1))
 rw[<-eC]at hA3;have hon3:AY h c3.C (h.root 7) F pt:=hx.on.1.congr λq hq=>by rw[eC];exact hx.anew C0 h0 q hq
 refine⟨c3.a,rfl,yH ?_⟩;refine (W7 hA3 7 (by omega)).mono ?_
 rintro e w3 ⟨tb3,rfl,ht3,htb3,hb3⟩;refine⟨tb3,rfl,yH ?_⟩;have ts3:BO (JL rs []) w0.heap.size S3 c3 tb3 7 F U0 w3:=⟨h,c3.C,pt,hA3.below hb3,ht3,λhs=>by have:=(hA3.low _ hs).2;omega,hon3,λq hq=>.inl (hx.on.2 q hq),trivial⟩
 have o4:=o3.below hb3;have li4:=li3.below hb3;have hb03:Below w0.heap.size w0 w3:=hb2.trans (hb3.mono hb2.size);refine (AZ1 ts3 (by omega) (by omega)).mono ?_
 rintro e w4 ⟨v2,rfl,S4,q1,q2,q3⟩;refine⟨v2,rfl,yH ?_⟩;have o5:=o4.to q2.1 q2.2;have li5:=li4.turn q2;have hb04:Below w0.heap.size w0 w4:=hb03.trans (q2.1.toBelow hb03.size ts3.low.1);refine (o5.get ⟨#[120]⟩).mono ?_;rintro e w5 ⟨rfl,hb5⟩;refine⟨rfl,yH ?_⟩;have hb05:Below w0.heap.size w0 w5:=hb04.trans (hb5.mono hb04.size);refine (BB7 (q3.below hb5).is (li5.below hb5).is (by omega)).mono ?_
 rintro e w6 ⟨rfl,hb6⟩;refine⟨rfl,yH ?_⟩;have hb06:Below w0.heap.size w0 w6:=hb05.trans (hb6.mono hb05.size);refine (PT w6 (hT.below hb06 hT.1)).mono ?_;rintro e w7 ⟨rfl,hb7⟩;exact⟨rfl,hb06.trans (hb7.mono hb06.size)⟩
end
theorem BP2 (x:Int)(n:Nat):x.tmod ((n:Int)+1)<=n/\-(n:Int)<=x.tmod ((n:Int)+1):=by
 have h:(x.tmod ((n:Int)+1)).natAbs<n+1:=by
  rw[Int.natAbs_tmod];exact Nat.mod_lt _ (by omega)
 omega
theorem BI0 (a:Option Addr)(n lc:Nat)(w:World):Calls Tryz.prog 33 #[.slice a n lc] w λe w'=>e=.returned (.bool (decide (n<=400)))/\w'=w:=by
 by_cases h:n<=400
 ·have f1:(n:Int)<=400:=by omega
  have f2:decide (n<=400)=true:=decide_eq_true h;have HF:=yH f2;clear f2;go_enter Tryz.func33,Tryz.ntmps33;go_wp2;go_ret;exact⟨by first | rfl | (rw[HF.out];rfl),rfl⟩
 ·have f1:¬(n:Int)<=400:=by omega
  have f2:decide (n<=400)=false:=decide_eq_false h;have HF:=yH f2;clear f2;go_enter Tryz.func33,Tryz.ntmps33;go_wp2;go_ret;exact⟨by first | rfl | (rw[HF.out];rfl),rfl⟩
theorem PlI.shape {c:Ac}{tb r k:Nat}{w wr:World}{v:Value}(I:PlI c tb r w v k wr):∃A L c0,v=.slice A L c0:=by
 obtain⟨S,F,h1,h2,h3,h4⟩:=I;obtain⟨A,c0,e,_⟩:=h2.is.slice;exact⟨A,_,c0,e⟩
theorem RL (a:Option Addr)(xs:List It)(lc:Nat)(kp:Int)(w:World)(hT:Tab w)(hS:Sl w a xs)(hks:∀x ∈ xs,x.f.size<9223372036854775807) :
  Calls Tryz.prog 6 #[.slice a xs.length lc,.int .i64 kp] w λe w'=>e=.returned (.bool true)/\Below w.heap.size w w':=by
 have HT:=yH hT;have HBG:=yH (VM w hT);have HDO:Hid (∀c tb v k wr,(∀q,(c.C q).length=512)->xs.length<=400->PlI c tb 7 w v k wr->k<xs.length->∃(b off:Nat) (kd:Int) (key val:ByteArray),a=some ⟨b,off,none⟩/\wr.cell? ⟨b,off+k*3,none⟩=some (.int .i64 kd)/\wr.cell? ⟨b,off+k*3+1,none⟩=some (.string key)/\wr.cell? ⟨b,off+k*3+2,none⟩=some (.string val) /\
   Calls Tryz.prog 29 #[.pointer (some ⟨tb,0,none⟩),v,.agg #[.int .i64 kd,.string key,.string val]] wr λe w2=>∃v',e=.returned (.tuple #[v',.bool true])/\Hid (PlI c tb 7 w v' (k+1) w2)):=yH λc tb v k wr hC hn I hk=>I.does (by omega) hC hS hks (by omega) hk
 have HDU:Hid (∀a' d s tb v b2 tb2 k wr,xs.length<=400->KpU w a' d s tb v b2 tb2 k wr->k<xs.length->∃(b off:Nat) (kd:Int) (key val:ByteArray),a=some ⟨b,off,none⟩/\wr.cell? ⟨b,off+k*3,none⟩=some (.int .i64 kd)/\wr.cell? ⟨b,off+k*3+1,none⟩=some (.string key)/\wr.cell? ⟨b,off+k*3+2,none⟩=some (.string val) /\
   Calls Tryz.prog 29 #[.pointer (some ⟨tb2,0,none⟩),.slice none 0 0,.agg #[.int .i64 kd,.string key,.string val]] wr λe w2=>∃v' bb,e=.returned (.tuple #[v',.bool bb])/\Hid (KpU w a' d s tb v b2 tb2 (k+1) w2)):=yH λa' d s tb v b2 tb2 k wr hn I hk=>I.does hS hks hn hk
 obtain⟨n,hn⟩:∃n,n=xs.length:=⟨_,rfl⟩;rw[<-hn]at HDO HDU ⊢
 clear hS hks hT hn;go_enter Tryz.func6,Tryz.ntmps6;go_wp2_with fail;refine HBG.out.mono ?_;rintro e w1 ⟨c,S,rfl,hf,hb1,hz⟩;have HF:=yH hf;have HB1:=yH hb1;have HZ:=yH hz;clear HBG hf hb1 hz;go_wp2_with fail;refine (BI0 a n lc w1).mono ?_;rintro e w1' ⟨rfl,hw⟩;subst w1';obtain⟨bf,hbf⟩:∃bf,bf=decide (n<=400):=⟨_,rfl⟩;rw[<-hbf];have HBF:=yH hbf;clear hbf;cases bf with
 | false =>
  have HAW:=yH (PT w1 (HT.out.below HB1.out HT.out.1));go_wp2_with fail;refine HAW.out.mono ?_;rintro e w2 ⟨rfl,hb⟩;have HE:=yH (HB1.out.trans (hb.mono HB1.out.size));clear HAW hb;go_wp2;go_ret;exact⟨rfl,HE.out⟩
 | true =>
  have hn1:n<=400:=of_decide_eq_true HBF.out.symm;clear HBF;go_wp2_with fail;refine (W7 HF.out.1 7 (by omega)).mono ?_
  rintro e w2 ⟨tb,rfl,ht,htb,hb2⟩;have HI0:Hid (PlI c tb 7 w (.slice none 0 0) 0 w2):=yH ⟨S,[],AD1 HF.out hb2 ht htb,LiI.nil_ _ _,Nat.le_refl _,HB1.out.trans (hb2.mono HB1.out.size)⟩;have HC:=yH HF.out.2;clear ht htb hb2 HF HB1;have hX:=BP2 kp n;obtain⟨X,hXe⟩:∃X,kp.tmod ((n:Int)+1)=X:=⟨_,rfl⟩;rw[hXe]at hX;have hM1:¬((n:Int)+1=0):=by omega
  go_upto_if 58 with fail
  go_cut [11] (λx wx=>(∃m:Nat,m<=n/\x=.int .i64 m)/\w2=wx)
  case first =>
   go_wp2_with fail;all_goals go_meet
   all_goals first
    | exact⟨⟨X.toNat,by omega,by congr 1;omega⟩,rfl⟩
    | exact⟨⟨(-X).toNat,by omega,by congr 1;omega⟩,rfl⟩
  case rest =>
   obtain⟨⟨m,hm,rfl⟩,rfl⟩:=hcut;clear hX hXe hM1;go_wp2;go_loopw [12,13] (λv i wr=>∃(k:Nat) (A0:Option Addr) (L0 c0:Nat),k<=m/\v=.slice A0 L0 c0/\i=.int .i64 k/\Hid (PlI c tb 7 w (.slice A0 L0 c0) k wr)) (λ_ i _=>m-(intOf i).toNat)
   case atStart=>exact⟨0,none,0,0,by omega,rfl,rfl,HI0⟩
   case round =>
    obtain⟨k,A0,L0,c0,hk,rfl,rfl,HI⟩:=hrel;by_cases hkn:k<m
    ·obtain⟨b,off,kd,key,val,rfl,d0,d1,d2,hdo⟩:=HDO.out c tb _ k wr HC.out hn1 HI.out (by omega)
     have HD:=yH hdo;have f1:(k:Int)<(m:Int):=by omega
     have f2:(k:Int)<(n:Int):=by omega
     clear hdo HI HI0 HDO HDU;go_wp2_with fail;refine HD.out.mono ?_;rintro e w3 ⟨v',rfl,HI2⟩;obtain⟨A',L',c',rfl⟩:=HI2.out.shape;clear HD d0 d1 d2;go_wp2;go_roundw
     case rel=>exact⟨k+1,A',L',c',by omega,rfl,by go_num,HI2⟩
     case measure=>simp[intOf];omega
    ·obtain rfl:k=m:=by omega
     have f1:¬(k:Int)<(k:Int):=by omega
     have HCM:=yH (HI.out.commit HZ.out HC.out (by omega) HT.out)
     clear HI HI0 HDO HC HZ;go_wp2_with fail;refine HCM.out.mono ?_;rintro e w3 ⟨rfl,HBN⟩;clear HCM;go_wp2_with fail;refine HBN.out.mono ?_;rintro e w4 ⟨b2,rfl,HNW⟩;clear HBN;go_wp2_with fail;refine HNW.out.mono ?_;rintro e w5 ⟨tb2,rfl,HU0⟩;clear HNW;go_wp2;go_loopw [18] (λi wr=>∃j:Nat,k<=j/\j<=n/\i=.int .i64 j/\Hid (KpU w c.a c.d c.s tb (.slice A0 L0 c0) b2 tb2 j wr)) (λi _=>n-(intOf i).toNat)
     case atStart=>exact⟨k,by omega,by omega,rfl,HU0⟩
     case round =>
      obtain⟨j,hkj,hj,rfl,HU⟩:=hrel;by_cases hjn:j<n
      ·obtain⟨b,off,kd,key,val,rfl,d0,d1,d2,hdo⟩:=HDU.out _ _ _ _ _ _ _ j wr hn1 HU.out hjn;have HD:=yH hdo;have f2:(j:Int)<(n:Int):=by omega
       clear hdo HU HU0 HDU;go_wp2_with fail;refine HD.out.mono ?_;rintro e w6 ⟨v',bb,rfl,HU2⟩;clear HD d0 d1 d2;go_wp2;go_roundw
       case rel=>exact⟨j+1,by omega,by omega,by go_num,HU2⟩
       case measure=>simp[intOf];omega
      ·obtain rfl:j=n:=by omega
       have f2:¬(j:Int)<(j:Int):=by omega
       have HO:=yH (HU.out.open_ HT.out);clear HU HU0 HDU;go_wp2_with fail;refine HO.out.mono ?_;rintro e w6 ⟨y,rfl,H1⟩;clear HO;go_wp2_with fail;refine H1.out.mono ?_;rintro e w7 ⟨b3,rfl,H2⟩;clear H1;go_wp2_with fail;refine H2.out.mono ?_;rintro e w8 ⟨tb3,rfl,H3⟩;clear H2;go_wp2_with fail;refine H3.out.mono ?_;rintro e w9 ⟨v2,rfl,H4⟩;clear H3;go_wp2_with fail;refine H4.out.mono ?_;rintro e w10 ⟨rfl,H5⟩;clear H4;go_wp2_with fail;refine H5.out.mono ?_;rintro e w11 ⟨rfl,H6⟩;clear H5;go_wp2_with fail;refine H6.out.mono ?_;rintro e w12 ⟨rfl,hb⟩;have HE:=yH hb;clear H6 hb;go_wp2;go_ret;exact⟨rfl,HE.out⟩
end Go.Proofs.YtfbbjiidccbaiaaGreatDoor
