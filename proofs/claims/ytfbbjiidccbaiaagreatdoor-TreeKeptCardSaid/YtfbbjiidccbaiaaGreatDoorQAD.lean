/- Texts of one proof, one behind the other: LC, LD, LE, LF, LG, LH, SL, SD, SE, SF, SG, SH, SI. -/
import Derived.Test.YtfbbjiidccbaiaaGreatDoorQAC
import Derived.Laws.OwnMore
import Derived.Deep.RegionHeld3
import Derived.Test.YtfbbjiidccbaiaaGreatDoorQAA
import Derived.Laws.Tables
import Derived.Lib.Builder
set_option maxRecDepth 100000
set_option maxHeartbeats 6400000
namespace Go.Proofs.YtfbbjiidccbaiaaGreatDoor
open Go.RowKit
theorem NG (a:Option Addr)(l:List UInt8)(n c:Nat)(w:World)(hn:l.length=n)(hl:n<=6)(hR:AK w a l) :
  Calls Tryz.prog 176 #[.slice a n c] w λe w'=>e=.returned (.int .i64 (v4 l))/\w=w':=by
 subst hn;exact (AH0 a l c w hl hR).mono λ_ _ h=>⟨h.1,h.2.symm⟩
theorem AK.take {w:World}{a:Option Addr}{l:List UInt8}(h:AK w a l)(n:Nat):AK w a (l.take n):=by
 rcases h with rfl|⟨b,off,h1,h2,h3⟩
 ·exact .inl (by simp)
 ·refine .inr ⟨b,off,h1,h2,λj hj=>?_⟩
  rw[List.length_take]at hj;rw[h3 j (by omega),List.getElem_take]
theorem AK.drop {w:World}{b off:Nat}{l:List UInt8}(h:AK w (some ⟨b,off,none⟩) l)(n:Nat):AK w (some ⟨b,off+n,none⟩) (l.drop n):=by
 rcases h with rfl|⟨b',off',h1,h2,h3⟩
 ·exact .inl (by simp)
 ·injection h1 with h1
  injection h1 with h1 h4
  subst h1;subst h4
  refine .inr ⟨b,off+n,rfl,h2,λj hj=>?_⟩
  rw[List.length_drop]at hj;rw[List.getElem_drop,Nat.add_assoc,h3 (n+j) (by omega)]
theorem BS2 (a:Option Addr)(l:List UInt8)(c:Nat)(w:World)(hc:l.length<=c)(hl:l.length<=4194304)(hR:AK w a l)(h:RS l=none) :
  Calls Tryz.prog 132 #[.slice a l.length c] w λe w'=>e=.returned (.tuple #[.slice none 0 0,.slice none 0 0,.bool false])/\w'=w:=by
 by_cases h8:l.length<8
 ·go_enter Tryz.func132,Tryz.ntmps132;go_wp2;go_ret3
  exact⟨rfl,rfl⟩
 ·have hv:l.length-8<v4 (l.take 4):=by
   unfold RS at h;rw[if_neg h8]at h;split at h
   ·assumption
   ·cases h
  have hlt:((l.length:Int)-8<(v4 (l.take 4):Int)):=by omega
  obtain⟨b,off,rfl,_,hcell⟩:=hR.at (by omega)
  have H4:=yH (hR.take 4);clear hR hcell h
  have h4:(l.take 4).length=4:=by rw[List.length_take];omega
  have HL4:=yH h4;clear h4
  have hc4:4<=c:=by omega
  go_enter Tryz.func132,Tryz.ntmps132;go_wp2_with fail;refine (NG _ (l.take 4) _ _ _ HL4.out (by omega) H4.out).mono ?_
  rintro e w' ⟨rfl,rfl⟩;go_wp2;go_ret3
  exact⟨rfl,rfl⟩
theorem BF9 (a:Option Addr)(l r rest:List UInt8)(c:Nat)(w:World)(hc:l.length<=c)(hl:l.length<=4194304)(hR:AK w a l)(h:RS l=some (r,rest))(hr:r≠[]) :
  Calls Tryz.prog 132 #[.slice a l.length c] w λe w'=>∃a1 c1 a2 c2,e=.returned (.tuple #[.slice a1 r.length c1,.slice a2 rest.length c2,.bool true])/\(∀W,AK W a l->AK W a1 r/\AK W a2 rest)/\rest.length<=c2/\∃n,w'=w.drewN n:=by
 have hlen:=AD9 h;have hr0:0<r.length:=List.length_pos_iff.2 hr;have hlt:¬((l.length:Int)-8<(v4 (l.take 4):Int)):=by omega
 have h8:¬l.length<8:=by omega
 obtain⟨b,off,rfl,_,hcell⟩:=hR.at (by omega)
 have H4:=yH (hR.take 4);have h4:(l.take 4).length=4:=by rw[List.length_take];omega
 have HL4:=yH h4;clear h4
 have hc4:4<=c:=by omega
 obtain⟨q,hq⟩:∃q,q=v4 (l.take 4):=⟨_,rfl⟩;rw[<-hq]at hlt hlen;have hq0:0<q:=by omega
 have hql:q+8<=l.length:=by omega
 have HQ:=yH hq;clear hq
 have hpost:Hid ((∀W,AK W (some ⟨b,off,none⟩) l->AK W (some ⟨b,off+4,none⟩) r/\AK W (some ⟨b,off+(q+8),none⟩) rest)/\rest.length=l.length-(q+8)/\r.length=q):=yH (by
  unfold RS at h;rw[if_neg h8,<-HQ.out,if_neg (by omega)]at h
  injection h with h
  injection h with h3 h4
  subst h3;subst h4
  exact⟨λW hW=>⟨(hW.drop 4).take q,hW.drop (q+8)⟩,by rw[List.length_drop],by rw[List.length_take,List.length_drop];omega⟩)
 clear hR hcell h hr hr0 hlen;go_enter Tryz.func132,Tryz.ntmps132;go_wp2_with fail;refine (NG _ (l.take 4) _ _ _ HL4.out (by omega) H4.out).mono ?_
 rintro e w' ⟨rfl,rfl⟩;rw[<-HQ.out];have e1:IntKind.i64.wrap (4+(q:Int))=4+(q:Int):=IntWalk.i64_in _ (by omega)
 have e2:IntKind.i64.wrap (4+(q:Int)+4)=4+(q:Int)+4:=IntWalk.i64_in _ (by omega)
 go_wp2;go_quiet (fail);go_wp2;all_goals
  go_ret3
  obtain⟨p1,p3,p4⟩:=hpost.out;subst p4;have p5:l.length-(4+r.length+4)=rest.length:=by omega
  rw[show off+(r.length+8)=off+(4+r.length+4) by omega]at p1
  refine⟨_,_,_,_,(by rw[<-p5] <;> rfl),?_,?_,_,by first | exact rfl | (symm;assumption) | assumption⟩
  ·intro W hW;refine⟨(p1 W hW).1,?_⟩;first
    | exact (p1 W hW).2
    | (left;exact List.eq_nil_of_length_eq_zero (by omega))
  ·omega
theorem BS8:(Tryz.prog.info? 9).map (λi=>(i.zero,i.size,i.bytes))=some (some (.string ⟨#[]⟩),1,16):=by kernel_rfl
def I8 (B:Nat)(w:World)(v:Value)(rs:List ByteArray):Prop:=w.ownsRow B 9 1 v rs.length (rs.map Value.string)
theorem AX {w w':World}{base:Nat}{e:TypeId}{size:Nat}{v:Value}{n:Nat}{xs:List Value}(h:w.ownsRow base e size v n xs)(hb:Below w.heap.size w w'):w'.ownsRow base e size v n xs :=
 AG h λk hk=>hb.block k (h.lt k hk).2
theorem I8.below {B:Nat}{w w':World}{v:Value}{rs:List ByteArray}(h:I8 B w v rs)(hb:Below w.heap.size w w'):I8 B w' v rs:=AX h hb
theorem I8.mono {B B':Nat}{w:World}{v:Value}{rs:List ByteArray}(h:I8 B w v rs)(hB:B'<=B):I8 B' w v rs :=
 ⟨h.1,h.2.imp id λ⟨g,cap,cur,h1,h2,h3⟩=>⟨g,cap,cur,h1,Nat.le_trans hB h2,h3⟩⟩
theorem I8.shape {B:Nat}{w:World}{v:Value}{rs:List ByteArray}(h:I8 B w v rs):∃a c,v=.slice a rs.length c:=by
 rcases h.2 with⟨rfl,h0⟩|⟨g,cap,cur,rfl,_⟩
 ·exact⟨none,0,by rw[h0]⟩
 ·exact⟨_,cap,rfl⟩
theorem AF (w:World)(n:Nat):Below w.heap.size w (w.drewN n):=⟨rfl,rfl,rfl,Nat.le_refl _,λ_ _=>rfl⟩
theorem LL (w:World)(a:Option Addr)(s:ByteArray)(c:Nat)(h:AK w a s.data.toList)(h0:0<s.size) :
  (convert 102 9 (.slice a s.size c)).run Tryz.prog w=.ok (.string s) w:=by
 obtain⟨b,off,rfl,_,hc⟩:=h.at h0;have:=run_convert_bytes_back (P:=Tryz.prog) w 102 9 5 ⟨b,off,none⟩ c s.data.toList Tryz.underlying102 Tryz.underlying5 Tryz.underlying9 (λj hj=>by rw[Addr.add_lit];exact hc j hj)
 exact this
def GN (rs:List ByteArray)(i:Nat):List UInt8:=QM (i+1) (rs.drop i)
theorem AT3 (rs:List ByteArray):GN rs rs.length=[]:=by simp[GN,QM]
theorem P9 {rs:List ByteArray}{i:Nat}(h:i<rs.length):GN rs i=frm rs[i] (i+1)++GN rs (i+1):=by
 unfold GN;rw[List.drop_eq_getElem_cons h,QM]
theorem BC4 (rs:List ByteArray):∀i,i<=rs.length->(GN rs i).length<=(DO rs).length:=by
 intro i;induction i with
 | zero=>intro _;simp[GN,DO]
 | succ i ih =>
  intro h;have:=ih (by omega)
  rw[P9 (by omega:i<rs.length),List.length_append]at this
  omega
theorem BG0 (a:Option Addr)(n c:Nat)(l:List UInt8)(w:World)(hn:l.length=n)(hl:l=[]) :
  Calls Tryz.prog 132 #[.slice a n c] w λe w'=>e=.returned (.tuple #[.slice none 0 0,.slice none 0 0,.bool false])/\w=w':=by
 subst hl;subst hn
 exact (BS2 a [] c w (by simp) (by simp) (.inl rfl) rfl).mono λ_ _ h=>⟨h.1,h.2.symm⟩
theorem AV1 (a:Option Addr)(n c:Nat)(l:List UInt8)(s:ByteArray)(rest:List UInt8)(w:World)(hn:l.length=n)(hc:n<=c)(hl:n<=4194304)(hR:AK w a l)(h:RS l=some (s.data.toList,rest))(hs:1<=s.size) :
  Calls Tryz.prog 132 #[.slice a n c] w λe w'=>∃a1 c1 a2 c2 m k,e=.returned (.tuple #[.slice a1 s.size c1,.slice a2 m c2,.bool true])/\w'=w.drewN k/\(∀W,AK W a l->AK W a1 s.data.toList/\AK W a2 rest)/\rest.length=m/\m<=c2:=by
 subst hn;refine (BF9 a l s.data.toList rest c w hc hl hR h (by intro e;have:s.data.toList.length=s.size:=rfl;rw[e]at this;simp at this;omega)).mono ?_
 rintro e w' ⟨a1,c1,a2,c2,h1,h2,h4,k,h5⟩;exact⟨a1,c1,a2,c2,rest.length,k,h1,h5,h2,rfl,h4⟩
def ZW:Value->Nat
 | .slice _ n _=>n
 | _=>0
theorem RQ (rs:List ByteArray)(a:Option Addr)(c n:Nat)(w:World)(hn:(DO rs).length=n)(hl:n<=4194304)(hrs:GL rs)(hc:n<=c)(hR:AK w a (DO rs)) :
  Calls Tryz.prog 92 #[.slice a n c] w λe w'=>∃v,e=.returned v/\I8 w.heap.size w' v rs/\Below w.heap.size w w':=by
 obtain⟨i0,hi,q0,q1,q2⟩:=info_parts BS8;have hn9:=JZ hrs;have HRS:=yH hrs;have HR:=yH hR;clear hrs hR
 obtain⟨N,hN⟩:∃N,N=rs.length:=⟨_,rfl⟩;rw[hn,<-hN]at hn9;have HL:=yH hn;have HN:=yH hN;clear hn hN
 have HLE:Hid (∀i,i<=N->(GN rs i).length<=n):=yH (λi hi=>by rw[<-HL.out];exact BC4 rs i (by rw[<-HN.out];exact hi))
 go_enter Tryz.func92,Tryz.ntmps92;go_wp2;go_loopw [0,3] (λb v wr=>∃(i:Nat) (a':Option Addr) (c' m:Nat) (av:Option Addr) (cv:Nat),i<=N/\b=.slice a' m c'/\v=.slice av i cv/\m<=c'/\m<=4194304/\Hid ((GN rs i).length=m)/\Hid (AK w a' (GN rs i))/\Hid (I8 w.heap.size wr v (rs.take i))/\Hid (Below w.heap.size w wr)) (λb _ _=>ZW b)
 case atStart=>exact⟨0,a,c,n,none,0,by omega,rfl,rfl,hc,hl,yH (by rw[<-HL.out];rfl),HR,yH (World.ownsRow_nil _ _ _ _),yH (Below.refl _ _)⟩
 case round =>
  obtain⟨i,a',c',m,av,cv,hiN,rfl,rfl,hmc,hm4,HM,HRR,HO,HB⟩:=hrel;by_cases hlt:i<N
  ·have hlt':i<rs.length:=by rw[<-HN.out];exact hlt
   have hok:=HRS.out _ (List.getElem_mem hlt');have HNX:=yH (P9 hlt');have HCF:Hid (RS (GN rs i)=some (rs[i].data.toList,GN rs (i+1))):=yH (by rw[HNX.out];exact BK2 hok.2)
   go_wp2_with fail;refine (AV1 _ _ _ _ _ _ _ HM.out hmc hm4 (HRR.out.below HB.out) HCF.out hok.1).mono ?_;rintro e w1 ⟨a1,c1,a2,c2,m2,k,rfl,rfl,hr,hm2,hc2⟩;have hr1:=(hr wr (HRR.out.below HB.out)).1;have HRN:Hid (AK w a2 (GN rs (i+1))):=yH (hr w HRR.out).2;have hwd:(wr.drewN k).heap.size=wr.heap.size:=rfl;have hcv:=λo=>LL ((wr.drewN k).alloc o) a1 rs[i] c1 ((hr1.below (AF wr k)).below ((Below.refl _ _).alloc (Nat.le_refl _) o)) hok.1
   have hcv0:=LL (wr.drewN k) a1 rs[i] c1 (hr1.below (AF wr k)) hok.1;have HM2:=yH hm2;clear hr1 hr hm2;have HO1:Hid ((wr.drewN k).ownsRow w.heap.size 9 1 (.slice av i cv) i ((rs.take i).map Value.string)):=yH (by
    have:=HO.out.below (AF wr k)
    rw[I8,List.length_take,Nat.min_eq_left (by omega)]at this
    exact this)
   have hBw:w.heap.size<=wr.heap.size:=HB.out.size;go_wp2_with (at_builtin;refine wpList_append_own _ rfl _ _ 62 rfl w.heap.size 9 i0 (.string ⟨#[]⟩) 1 16 Tryz.underlying62 hi q0 q1 q2 rfl (by decide) _ _ _ rfl (HO1.out.alloc _) ⟨wr.heap.size,0,none⟩ 1 1 [.string rs[i]] rfl rfl ?c1 ?c2 ?c3 ?c4 ?c5 ?_)
   case c1 =>
    intro q u hu;have hq:q=0:=by
     have:=(List.getElem?_eq_some_iff.1 hu).1
     simp at this;omega
    subst hq;simp at hu;subst hu;exact yC (w:=(wr.drewN k).alloc (.cells #[.string rs[i]] 9)) (b:=wr.heap.size) (heap_alloc_new (wr.drewN k) _) 0
   case c2=>intro u hu;simp at hu;subst hu;rfl
   case c3=>unfold maxLen;omega
   case c4=>omega
   case c5=>simp;omega
   intro v' w2 hown' hgrow _;obtain⟨av',cv',rfl⟩:∃a c,v'=.slice a (i+1) c:=by
    rcases hown'.2 with⟨_,h0⟩|⟨g',cap',cur,hv,_⟩
    ·omega
    ·exact⟨_,cap',hv⟩
   have HB2:Hid (Below w.heap.size w w2):=yH (((HB.out.trans ((AF wr k).mono hBw)).alloc hBw _).grown hgrow (by rw[World.size_alloc];exact Nat.le_succ_of_le hBw) (λq hq=>(HO1.out.lt q hq).1))
   have HO2:Hid (I8 w.heap.size w2 (.slice av' (i+1) cv') (rs.take (i+1))):=yH (by
    rw[I8,List.take_succ_eq_append_getElem hlt',List.length_append,List.length_take,Nat.min_eq_left (by omega),List.map_append,List.map_take]
    exact hown')
   have hlen:m2<m:=by
    have:=HM.out
    rw[HNX.out,List.length_append,GF,HM2.out]at this;omega
   clear hown' hgrow hcv hcv0;go_wp2;go_roundw
   case rel=>exact⟨i+1,a2,c2,m2,av',cv',by omega,rfl,rfl,hc2,by omega,HM2,HRN,HO2,HB2⟩
   case measure=>simp[ZW];omega
  ·obtain rfl:i=N:=by omega
   have HE:Hid (GN rs i=[]):=yH (by rw[HN.out];exact AT3 rs)
   go_wp2_with fail;refine (BG0 _ _ _ _ _ HM.out HE.out).mono ?_;rintro e w1 ⟨rfl,rfl⟩;go_wp2;go_ret;refine⟨_,rfl,?_,HB.out⟩;have h:I8 w.heap.size wr (.slice av i cv) rs:=by
    have:=HO.out
    rwa [show rs.take i=rs by rw[HN.out,List.take_length]]at this
   exact h
theorem CA5:(Tryz.prog.info? 152).map (·.size)=some 2:=by kernel_rfl
theorem J0 (l:Nat)(w:World)(h:w.cell? ⟨l,0,none⟩=some (.pointer (some ⟨l,0,none⟩))) :
  Calls Tryz.prog 143 #[.pointer (some ⟨l,0,none⟩)] w λe w'=>e=.returned (.bool true)/\w'=w:=by
 obtain⟨j,hj,_⟩:=Option.map_eq_some_iff.1 CA5;have hq:=run_eql_ptr_same (P:=Tryz.prog) w (tp:=50) (te:=152) ⟨l,0,none⟩ Tryz.underlying50 hj;go_enter Tryz.func143,Tryz.ntmps143;go_wp2;go_ret;exact⟨rfl,rfl⟩
def CW (l d:Nat)(w:World):Prop:=w.heap[l]? = some (.cells #[.pointer (some ⟨l,0,none⟩),.pointer (some ⟨d,0,none⟩)] 152 (0,0))
theorem CW.lt {l d:Nat}{w:World}(h:CW l d w):l<w.heap.size:=(Array.getElem?_eq_some_iff.1 h).1
theorem CW.self {l d:Nat}{w:World}(h:CW l d w):w.cell? ⟨l,0,none⟩=some (.pointer (some ⟨l,0,none⟩)):=by rw[yC h];rfl
theorem CW.disk {l d:Nat}{w:World}(h:CW l d w):w.cell? ⟨l,1,none⟩=some (.pointer (some ⟨d,0,none⟩)):=by rw[yC h];rfl
theorem CW.below {l d:Nat}{w w':World}(h:CW l d w)(hb:Below w.heap.size w w'):CW l d w':=by
 unfold CW;rw[hb.block l h.lt];exact h
theorem CW.kept {S:Nat->Prop}{l d:Nat}{w w':World}(h:CW l d w)(hk:AC S w w')(hl:¬S l):CW l d w':=by
 unfold CW;rw[hk.block l h.lt hl];exact h
theorem ZJ (l:List UInt8):(⟨l.toArray⟩:ByteArray).size=l.length:=by simp[ByteArray.size]
theorem B7 (w:World)(s:ByteArray) :
  ∃c W,(convert 9 102 (.string s)).run Tryz.prog w=.ok (.slice (some ⟨w.heap.size,0,none⟩) s.size c) W/\s.size<=c/\AK W (some ⟨w.heap.size,0,none⟩) s.data.toList/\Below w.heap.size w W:=by
 have h:=run_bytes_of_string (P:=Tryz.prog) w 9 102 5 s Tryz.underlying9 Tryz.underlying102 Tryz.underlying5;refine⟨_,_,h,grownCap_ge _ _ _ _,.inr ⟨w.heap.size,0,rfl,by simp,?_⟩,(Below.refl _ w).drew.alloc (Nat.le_refl _) _⟩
 intro j hj;have hj':j<s.data.size:=by simpa using hj
 rw[Nat.zero_add];have e:=World.cell?_alloc_mark w.drew (bytesRow s (grownCap w s.size 0 5)) 5 ((bytesRow s (grownCap w s.size 0 5)).size,(bytesRow s (grownCap w s.size 0 5)).size+1) j;rw[bytesRow_at s _ j hj']at e;rw[show w.drew.heap.size=w.heap.size from rfl]at e
 rw[e];simp
theorem BQ9 (S:Nat->Prop)(d:Nat)(ops:List AD)(rs:List ByteArray)(w:World)(h:AT S d ops w)(hp:BN ops 0=DO rs)(hrs:GL rs) :
  Calls Tryz.prog 45 #[.pointer (some ⟨d,0,none⟩)] w λe w'=>∃v,e=.returned (.tuple #[.pointer (some ⟨w.heap.size,0,none⟩),v,.int .i64 0])/\CW w.heap.size d w'/\I8 w.heap.size w' v rs/\Below w.heap.size w w':=by
 have HD:=yH h;clear h
 have hlen:(DO rs).length<=4194304:=by rw[<-hp];exact DA HD.out.1 0
 obtain⟨s,hs⟩:∃s:ByteArray,s=⟨(DO rs).toArray⟩:=⟨_,rfl⟩;have hsl:s.data.toList=DO rs:=by rw[hs]
 have hsz:(DO rs).length=s.size:=by rw[<-hsl];rfl
 have HRD:Hid (Calls Tryz.prog 90 #[.pointer (some ⟨d,0,none⟩),.int .i64 0,.int .i64 0,.int .i64 s.size] w λe w'=>e=.returned (.tuple #[.string s,.int .i64 0])/\w=w'):=yH ((KN 0 0 s.size S d ops w HD.out (by omega) (by rw[hp];omega)).mono λe w' ⟨h1,h2⟩=>⟨by rw[h1,hp,List.drop_zero,List.take_of_length_le (by omega),<-hs],h2.symm⟩)
 have HSZ:Hid (Calls Tryz.prog 91 #[.pointer (some ⟨d,0,none⟩),.int .i64 0] w λe w'=>e=.returned (.int .i64 s.size)/\w=w'):=yH ((KL 0 S d ops w HD.out (by omega)).mono λe w' ⟨h1,h2⟩=>⟨by rw[h1,hp,hsz],h2.symm⟩)
 obtain⟨c,W,hcv,hc,hR,hbW⟩:=B7 (w.alloc (.cells #[.pointer (some ⟨w.heap.size,0,none⟩),.pointer (some ⟨d,0,none⟩)] 152)) s;have HOF:=yH (RQ rs (some ⟨w.heap.size+1,0,none⟩) c s.size W hsz (by omega) hrs hc (by rw[<-hsl];simpa using hR))
 have HON:Hid (CW w.heap.size d W):=yH (CW.below (w:=w.alloc (.cells #[.pointer (some ⟨w.heap.size,0,none⟩),.pointer (some ⟨d,0,none⟩)] 152)) (heap_alloc_new w _) hbW);have HBW:Hid (Below w.heap.size w W):=yH (((Below.refl _ w).alloc (Nat.le_refl _) _).trans (hbW.mono (by simp)))
 clear hp hrs hs hsl hsz hlen hc hR hbW;go_enter Tryz.func45,Tryz.ntmps45;go_wp2_with fail;refine HSZ.out.mono ?_;rintro e w1 ⟨rfl,rfl⟩;go_wp2_with fail;refine HRD.out.mono ?_;rintro e w2 ⟨rfl,rfl⟩;go_wp2_with fail;refine HOF.out.mono ?_;rintro e w3 ⟨v,rfl,hS,hb⟩;have hz:=HBW.out.size;have HS:=yH hS;have HB:=yH hb;clear hS hb
 go_wp2;go_ret3
 exact⟨v,rfl,HON.out.below HB.out,HS.out.mono hz,HBW.out.trans (HB.out.mono hz)⟩
theorem BY2 (S:Nat->Prop)(l d:Nat)(ops:List AD)(rs:List ByteArray)(w:World)(h:AT S d ops w)(hl:CW l d w)(hp:BN ops 0=DO rs)(hrs:GL rs) :
  Calls Tryz.prog 145 #[.pointer (some ⟨l,0,none⟩)] w λe w'=>e=.returned (.int .i64 rs.length)/\Below w.heap.size w w':=by
 have hself:=hl.self;have hdisk:=hl.disk;have HG:=yH (λW (hW:W.cell? ⟨l,0,none⟩=some (.pointer (some ⟨l,0,none⟩)))=>J0 l W hW)
 have hlen:(DO rs).length<=4194304:=by rw[<-hp];exact DA h.1 0
 have HD:∀n,AT S d ops (w.drewN n):=λn=>h.below (AF w n)
 by_cases hrn:rs=[]
 ·subst hrn;have HSZ:Hid (∀n,Calls Tryz.prog 91 #[.pointer (some ⟨d,0,none⟩),.int .i64 0] (w.drewN n) λe w'=>e=.returned (.int .i64 0)/\w'=w.drewN n):=yH (λn=>(KL 0 S d ops _ (HD n) (by omega)).mono λe w' ⟨h1,h2⟩=>⟨by rw[h1,hp];rfl,h2⟩)
  have HRD:Hid (∀n,Calls Tryz.prog 90 #[.pointer (some ⟨d,0,none⟩),.int .i64 0,.int .i64 (-4),.int .i64 4] (w.drewN n) λe w'=>e=.returned (.tuple #[.string ⟨#[]⟩,.int .i64 1])/\w'=w.drewN n):=yH (λn=>AO1 0 (-4) 4 S d ops _ (HD n) (by omega) (by omega))
  clear hp hrs hlen HD h hl;go_enter Tryz.func145,Tryz.ntmps145;go_wp2_with fail;refine (HG.out _ hself).mono ?_;rintro e w1 ⟨rfl,hw⟩;subst w1;go_wp2_with fail;go_quiet ((first | (go_at_call 91;exact Calls.quiet_of_same (HSZ.out _)) | (go_at_call 90;exact Calls.quiet_of_same (HRD.out _))))
  go_wp2;go_ret;exact⟨rfl,AF _ _⟩
 ·obtain⟨h4,hv⟩:=AU8 hrn hlen hrs;obtain⟨L,hL⟩:∃L,L=(DO rs).length:=⟨_,rfl⟩;rw[<-hL]at h4 hv hlen;obtain⟨s,hs⟩:∃s:ByteArray,s=⟨((DO rs).drop (L-4)).toArray⟩:=⟨_,rfl⟩;have hsl:s.data.toList=(DO rs).drop (L-4):=by rw[hs]
  have hs4:s.size=4:=by
   have:s.data.toList.length=s.size:=rfl
   rw[<-this,hsl,List.length_drop];omega
  rw[<-hsl]at hv;have hi4:((L-4:Nat):Int)=(L:Int)-4:=by omega
  have HSZ:Hid (∀n,Calls Tryz.prog 91 #[.pointer (some ⟨d,0,none⟩),.int .i64 0] (w.drewN n) λe w'=>e=.returned (.int .i64 L)/\w'=w.drewN n):=yH (λn=>(KL 0 S d ops _ (HD n) (by omega)).mono λe w' ⟨h1,h2⟩=>⟨by rw[h1,hp,hL],h2⟩)
  have HRD:Hid (∀n,Calls Tryz.prog 90 #[.pointer (some ⟨d,0,none⟩),.int .i64 0,.int .i64 ((L:Int)-4),.int .i64 4] (w.drewN n) λe w'=>e=.returned (.tuple #[.string s,.int .i64 0])/\w'=w.drewN n):=yH (λn=>by
   rw[<-hi4];refine (KN 0 (L-4) 4 S d ops _ (HD n) (by omega) (by rw[hp];omega)).mono λe w' ⟨h1,h2⟩=>⟨?_,h2⟩
   rw[h1,hp,hs,List.take_of_length_le (by rw[List.length_drop];omega)])
  have HWO:Hid (∀W c b,AK W (some ⟨b,0,none⟩) s.data.toList->Calls Tryz.prog 176 #[.slice (some ⟨b,0,none⟩) s.size c] W λe w'=>e=.returned (.int .i64 rs.length)/\W=w'):=yH (λW c b hR=>(NG _ s.data.toList s.size c W rfl (by omega) hR).mono λe w' ⟨h1,h2⟩=>⟨by rw[h1,hv],h2⟩)
  have hw1:IntKind.i64.wrap ((L:Int)-4)=(L:Int)-4:=IntWalk.i64_in _ (by omega)
  have hs4':s.size<=4:=by omega
  have hL0:¬((L:Int)-4<0):=by omega
  clear hp hrs HD h hl hL hs hsl hs4 hv hi4 hrn;go_enter Tryz.func145,Tryz.ntmps145;go_wp2_with fail;refine (HG.out _ hself).mono ?_;rintro e w1 ⟨rfl,hw⟩;subst w1;go_wp2_with fail;go_quiet ((first | (go_at_call 91;exact Calls.quiet_of_same (HSZ.out _)) | (go_at_call 90;exact Calls.quiet_of_same (HRD.out _))))
  obtain⟨c,W,hcv,hc,hR,hbW⟩:=B7 (w.drewN nq) s;have HR:=yH hR;have HBW:=yH ((AF w nq).trans hbW);clear hc hR hbW
  go_wp2_with fail;refine (HWO.out _ _ _ HR.out).mono ?_;rintro e w3 ⟨rfl,rfl⟩;go_wp2;go_ret;exact⟨rfl,HBW.out⟩
def C4 (rs:List ByteArray)(s:ByteArray):Int:=if s.size=0\/1048576<s.size then 30 else if 4194304<(DO rs).length+s.size+8 then 2 else 0
def K4 (S:Nat->Prop)(d:Nat)(ops:List AD)(rs:List ByteArray)(s:ByteArray)(w:World)(e:Ending)(w':World):Prop :=
 e=.returned (.int .i64 (C4 rs s))/\∃S' ops',AT S' d ops' w'/\(ops'=if C4 rs s=0 then ops++[.put 0 (DO rs).length ⟨(frm s (rs.length+1)).toArray⟩] else ops)/\AC S w w'/\∀k,S' k->S k\/w.heap.size<=k
theorem AB6 {S:Nat->Prop}{d:Nat}{ops:List AD}{rs:List ByteArray}{s:ByteArray}{w w':World}(h:AT S d ops w)(hb:Below w.heap.size w w')(hc:C4 rs s≠0) :
  ∃S' ops',AT S' d ops' w'/\(ops'=if C4 rs s=0 then ops++[.put 0 (DO rs).length ⟨(frm s (rs.length+1)).toArray⟩] else ops)/\AC S w w'/\∀k,S' k->S k\/w.heap.size<=k :=
 ⟨S,ops,h.below hb,by rw[if_neg hc],AC.ofBelow hb,λ_ hk=>.inl hk⟩
theorem AB8 (l d:Nat)(S:Nat->Prop)(ops:List AD)(rs:List ByteArray)(s:ByteArray)(w:World)(h:AT S d ops w)(hl:CW l d w)(hs:s.size=0\/1048576<s.size) :
  Calls Tryz.prog 105 #[.pointer (some ⟨l,0,none⟩),.string s] w (K4 S d ops rs s w):=by
 have HG:=yH (J0 l w hl.self);have hc:C4 rs s=30:=by rw[C4,if_pos hs]
 have HP:=yH (show K4 S d ops rs s w (.returned (.int .i64 30)) w from⟨by rw[hc],AB6 h (Below.refl _ _) (by rw[hc];decide)⟩)
 have hcase:s.toList.isEmpty=true\/s.toList.isEmpty=false/\(1048576:Int)<s.size:=by
  cases he:s.toList.isEmpty
  ·refine .inr ⟨rfl,?_⟩;rcases hs with h0|h0
   ·exfalso
    have:s.data.toList=[]:=List.eq_nil_of_length_eq_zero (show s.size=0 from h0)
    rw[ByteArray.toList_eq,this]at he;cases he
   ·omega
  ·exact .inl rfl
 clear h hl hs hc;rcases hcase with he|⟨he,hgt⟩
 all_goals
  go_enter Tryz.func105,Tryz.ntmps105;go_wp2_with fail;refine HG.out.mono ?_;rintro e w' ⟨rfl,hw⟩;subst w';go_wp2;go_ret;exact HP.out
theorem XF (l d:Nat)(S:Nat->Prop)(ops:List AD)(rs:List ByteArray)(s:ByteArray)(w:World)(h:AT S d ops w)(hl:CW l d w)(ho:¬S l)(hp:BN ops 0=DO rs)(hrs:GL rs)(hll:ops.length<=4398046511104)(hs:¬(s.size=0\/1048576<s.size)) :
  Calls Tryz.prog 105 #[.pointer (some ⟨l,0,none⟩),.string s] w (K4 S d ops rs s w):=by
 have HG:=yH (J0 l w hl.self);have hdisk:=hl.disk;have hlw:=hl.lt;obtain⟨hlen,hn9⟩:(DO rs).length<=4194304/\9*rs.length<=4194304:=by
  have h1:=DA h.1 0;rw[hp]at h1;have:=JZ hrs
  omega
 obtain⟨L,hL⟩:∃L,L=(DO rs).length:=⟨_,rfl⟩;obtain⟨n,hn⟩:∃n,n=rs.length:=⟨_,rfl⟩;obtain⟨F,hF⟩:∃F:ByteArray,F=⟨(frm s (n+1)).toArray⟩:=⟨_,rfl⟩;have hFs:F.size=s.size+8:=by rw[hF,ZJ,GF]
 have he:s.toList.isEmpty=false:=by
  rw[ByteArray.toList_eq];cases e:s.data.toList with
  | nil=>exact absurd (Or.inl (show s.size=0 from by have:s.data.toList.length=s.size:=rfl;rw[e]at this;exact this.symm)) hs
  | cons c r=>rfl
 have hgt:¬(1048576:Int)<s.size:=by omega
 have HH:=yH h;have HPL:=yH hp;have HRS:=yH hrs;rw[<-hn]at hn9;rw[<-hL]at hlen;have hn1:((n:Int)+1)=((n+1:Nat):Int):=by omega
 obtain⟨c,hc⟩:∃c,c=C4 rs s:=⟨_,rfl⟩;have HSZ:Hid (∀W,Below w.heap.size w W->Calls Tryz.prog 91 #[.pointer (some ⟨d,0,none⟩),.int .i64 0] W λe w'=>e=.returned (.int .i64 L)/\W=w'):=yH (λW hb=>(KL 0 S d ops W (HH.out.below hb) (by omega)).mono λe w' ⟨h1,h2⟩=>⟨by rw[h1,HPL.out,hL],h2.symm⟩)
 have HLN:Hid (∀W,Below w.heap.size w W->Calls Tryz.prog 145 #[.pointer (some ⟨l,0,none⟩)] W λe w'=>e=.returned (.int .i64 n)/\Below w.heap.size w w'):=yH (λW hb=>(BY2 S l d ops rs W (HH.out.below hb) (hl.below hb) HPL.out HRS.out).mono λe w' ⟨h1,h2⟩=>⟨by rw[h1,hn],hb.trans (h2.mono hb.size)⟩)
 have HFR:Hid (∀W,Below w.heap.size w W->Calls Tryz.prog 144 #[.string s,.int .i64 ((n:Int)+1)] W λe w'=>e=.returned (.string F)/\Below w.heap.size w w'):=yH (λW hb=>by
  rw[hn1];exact (AK9 s (n+1) W (by omega) (by omega)).mono λe w' ⟨h1,h2⟩=>⟨by rw[h1,hF],hb.trans (h2.mono hb.size)⟩)
 have HK:Hid (∀W,Below w.heap.size w W->W.cell? ⟨l,1,none⟩=some (.pointer (some ⟨d,0,none⟩))):=yH (λW hb=>(hl.below hb).disk)
 have hb0:=(Below.refl w.heap.size w).drew;have HWR:Hid (∀W,Below w.heap.size w W->Calls Tryz.prog 108 #[.pointer (some ⟨d,0,none⟩),.int .i64 0,.int .i64 L,.string F] W λe w'=>e=.returned (.int .i64 (if c=0 then 0 else 1))/\w'.cell? ⟨l,1,none⟩=some (.pointer (some ⟨d,0,none⟩))/\Hid (K4 S d ops rs s w (.returned (.int .i64 c)) w')):=yH (λW hb=>by
  by_cases hfit:L+F.size<=4194304
  ·have hc0:c=0:=by rw[hc,C4,if_neg hs,if_neg (by omega)]
   refine (Y3 0 L F S d ops W (HH.out.below hb) hll (by omega) (by omega) hfit).mono ?_
   rintro e w' ⟨h1,h2,h3⟩;refine⟨by rw[h1,hc0];rfl,((hl.below hb).kept h3 ho).disk,yH ⟨by rw[hc],?_⟩⟩
   have hW:=hb.size;refine⟨N4 S W.heap.size,ops++[.put 0 L F],h2,?_,(AC.ofBelow hb).trans h3 (λ_ hi=>.inl hi),?_⟩
   ·rw[if_pos (by rw[<-hc,hc0]),hL,hF,hn]
   ·rintro k (hk | hk)
    ·exact .inl hk
    ·exact .inr (by omega)
  ·have hc2:c=2:=by rw[hc,C4,if_neg hs,if_pos (by omega)]
   refine (AZ0 0 L F S d ops W (HH.out.below hb) (by omega) (by omega)).mono ?_
   rintro e w' ⟨h1,h2⟩;subst h2;exact⟨by rw[h1,hc2];rfl,(hl.below hb).disk,yH ⟨by rw[hc],AB6 HH.out hb (by rw[<-hc,hc2];decide)⟩⟩)
 have hc3:c=0\/c=2:=by
  rw[hc,C4,if_neg hs];split <;> simp
 have hw1:IntKind.i64.wrap ((n:Int)+1)=(n:Int)+1:=IntWalk.i64_in _ (by omega)
 clear h hl hs hL hn hF hc hn1 hFs hp hrs;obtain⟨k,hk,HW⟩:∃k:Int,(k=0/\c=0\/k=1/\c=2)/\Hid (∀W,Below w.heap.size w W->Calls Tryz.prog 108 #[.pointer (some ⟨d,0,none⟩),.int .i64 0,.int .i64 L,.string F] W λe w'=>e=.returned (.int .i64 k)/\w'.cell? ⟨l,1,none⟩=some (.pointer (some ⟨d,0,none⟩))/\Hid (K4 S d ops rs s w (.returned (.int .i64 c)) w')):=by
  rcases hc3 with rfl|rfl
  ·exact⟨0,.inl ⟨rfl,rfl⟩,HWR⟩
  ·exact⟨1,.inr ⟨rfl,rfl⟩,HWR⟩
 clear HWR hc3;rcases hk with⟨rfl,rfl⟩|⟨rfl,rfl⟩
 all_goals
  go_enter Tryz.func105,Tryz.ntmps105;go_wp2_with fail;refine HG.out.mono ?_;rintro e w' ⟨rfl,hw⟩;subst w';go_wp2_with fail;go_region_held3 (λw'=>w'.cell? ⟨l,1,none⟩=some (.pointer (some ⟨d,0,none⟩))) (first | assumption | exact HK.out _ (by assumption))
   (first
    | (go_at_call 91;refine (HSZ.out _ (by assumption)).mono ?_;rintro e w' ⟨rfl,rfl⟩)
    | (go_at_call 145;refine (HLN.out _ (by assumption)).mono ?_;rintro e w' ⟨rfl,hb'⟩)
    | (go_at_call 144;refine (HFR.out _ (by assumption)).mono ?_;rintro e w' ⟨rfl,hb'⟩)
    | (go_at_call 108;refine (HW.out _ (by assumption)).mono ?_;rintro e w' ⟨rfl,hcl,hpost⟩))
  all_goals go_wp2
  all_goals go_ret
  all_goals exact Hid.out (by assumption)
theorem AB9 (l d:Nat)(S:Nat->Prop)(ops:List AD)(rs:List ByteArray)(s:ByteArray)(w:World)(h:AT S d ops w)(hl:CW l d w)(ho:¬S l)(hp:BN ops 0=DO rs)(hrs:GL rs)(hll:ops.length<=4398046511104) :
  Calls Tryz.prog 105 #[.pointer (some ⟨l,0,none⟩),.string s] w (K4 S d ops rs s w):=by
 by_cases hs:s.size=0\/1048576<s.size
 ·exact AB8 l d S ops rs s w h hl hs
 ·exact XF l d S ops rs s w h hl ho hp hrs hll hs
theorem BD.disk {J:List AD->Prop}{B p d n N:Nat}{S:Nat->Prop}{C:Nat->List UInt8}{P:Nat->Nat}{w:World}(h:BD J B S p d n C P N w) :
  ∃Sd ops,J ops/\AT Sd d ops w/\(∀k,Sd k->S k)/\ops.length<=N /\
   ∀(J':List AD->Prop) (w':World) (ops':List AD) (S2:Nat->Prop),AT S2 d ops' w'->AC Sd w w'->(∀k,S2 k->Sd k\/w.heap.size<=k)->BN ops' 1=BN ops 1->ops'.length<=ops.length+1->J' ops' ->
    ∃S',AO S w S' w'/\BD J' B S' p d n C P (N+1) w':=by
 obtain⟨fb,mb,hand,m,fr,Sd,ops,hJ,hG,hF,hD,hV,hO,hS,hB⟩:=h;refine⟨Sd,ops,hJ,hD,λk hk=>hS k (.inl hk),by have:=hV.cost;omega,λJ' w' ops' S2 hD2 hK hS2 hpl hlen hJ'=>?_⟩
 refine G5 (S:=S) (B:=B) (w:=w) hJ' (hG.kept hK hO.1 hO.2.1 hO.2.2) hF hD2 ⟨λi f hi=>?_,λq hq=>?_,?_,λq=>Nat.le_succ_of_le (hV.bnd q)⟩ ⟨λhh=>(hS2 p hh).elim hO.1 (by have:=hG.lt;omega),λhh=>(hS2 fb hh).elim hO.2.1 (by have:=hG.ltF;omega),λhh=>(hS2 mb hh).elim hO.2.2 (by have:=hG.ltM;omega)⟩ (λk hk=>(hS2 k hk).imp (λh=>hS k (.inl h)) id) ⟨hS p (.inr (.inl rfl)),hS fb (.inr (.inr (.inl rfl))),hS mb (.inr (.inr (.inr rfl)))⟩ hB (hK.mono (λk hk=>hS k (.inl hk)))
 ·rw[hpl];exact hV.held i f hi
 ·rw[hpl];exact hV.free q hq
 ·have:=hV.cost;omega
theorem BX5 (J:List AD->Prop)(B d n N:Nat)(S:Nat->Prop)(ops:List AD)(w:World)(h:AT S d ops w)(hS:∀k,S k->B<=k/\k<w.heap.size)(h1:1<=n)(h2:n<=1024)(hN:ops.length<=N)(hJ:J ops) :
  Calls Tryz.prog 46 #[.pointer (some ⟨d,0,none⟩),.int .i64 n] w λe w'=>∃p S',e=.returned (.tuple #[.pointer (some ⟨p,0,none⟩),.int .i64 0])/\BD J B S' p d n (λq=>BT (BN ops 1) q) (λ_=>0) N w'/\Below w.heap.size w w'/\S' p/\(∀k,S k->S' k)/\∀k,k<w.heap.size->S' k->S k:=by
 refine (BQ5 d n S ops w h h1 h2).mono ?_;rintro e w' ⟨p,fb,mb,rfl,hG,hp,hb⟩;have hdB:=hS d h.at;refine⟨p,λk=>(S k\/w.heap.size<=k)/\k<w'.heap.size,rfl,⟨fb,mb,0,0,λ_=>none,S,ops,hJ,hG,⟨by omega,λi=>⟨λhi=>by omega,(λ⟨f,hf⟩=>by cases hf)⟩⟩,h.below hb,⟨(λi f hf=>by cases hf),λq _=>⟨rfl,rfl⟩,by rw[BL2];omega,λq=>by omega⟩,⟨λhs=>?_,λhs=>?_,λhs=>?_⟩,?_,?_⟩,hb,⟨.inr hp.1,hG.lt⟩,λk hk=>⟨.inl hk,Nat.lt_of_lt_of_le (hS k hk).2 hb.size⟩,λk hk hs=>hs.1.elim id (by omega)⟩
 ·have:=hS p hs;omega
 ·have:=hS fb hs;omega
 ·have:=hS mb hs;omega
 ·rintro k (hk | rfl | rfl | rfl)
  ·exact⟨.inl hk,Nat.lt_of_lt_of_le (hS k hk).2 hb.size⟩
  ·exact⟨.inr hp.1,hG.lt⟩
  ·exact⟨.inr hp.2.1,hG.ltF⟩
  ·exact⟨.inr hp.2.2,hG.ltM⟩
 ·rintro k ⟨hk,hlt⟩;exact⟨hk.elim (λh=>(hS k h).1) (λh=>by omega),hlt⟩
structure AV (w:World)(s d l p:Nat)(h:Hd)(cur:Option Nat):Prop where
 self:w.cell? ⟨s,0,none⟩=some (.pointer (some ⟨s,0,none⟩))
 dk:w.cell? ⟨s,1,none⟩=some (.pointer (some ⟨d,0,none⟩))
 lg:w.cell? ⟨s,2,none⟩=some (.pointer (some ⟨l,0,none⟩))
 pl:w.cell? ⟨s,3,none⟩=some (.pointer (some ⟨p,0,none⟩))
 hd:DJ w s 4 h
 cur_:w.cell? ⟨s,85,none⟩=some (.pointer (cur.map λa=>⟨a,0,none⟩))
 froz:∀j,w.frozen? ⟨s,j,none⟩=false
structure CO (w:World)(a s:Nat)(h:Hd)(dv:Value):Prop where
 self:w.cell? ⟨a,0,none⟩=some (.pointer (some ⟨a,0,none⟩))
 st:w.cell? ⟨a,1,none⟩=some (.pointer (some ⟨s,1,none⟩))
 hd:DJ w a 2 h
 dr:w.cell? ⟨a,83,none⟩=some dv
 froz:∀j,w.frozen? ⟨a,j,none⟩=false
section
variable {w w':World} {s d l p a:Nat} {h:Hd} {cur:Option Nat} {dv:Value}
theorem AV.lt (x:AV w s d l p h cur):s<w.heap.size:=World.block_lt_of_cell? w _ x.self
theorem CO.lt (x:CO w a s h dv):a<w.heap.size:=World.block_lt_of_cell? w _ x.self
theorem AV.block (x:AV w s d l p h cur)(hb:w'.heap[s]? = w.heap[s]?):AV w' s d l p h cur :=
 ⟨(World.cell?_of_block hb).trans x.self,(World.cell?_of_block hb).trans x.dk,(World.cell?_of_block hb).trans x.lg,(World.cell?_of_block hb).trans x.pl,x.hd.block hb,(World.cell?_of_block hb).trans x.cur_,λj=>(World.frozen?_of_block hb).trans (x.froz j)⟩
theorem CO.block (x:CO w a s h dv)(hb:w'.heap[a]? = w.heap[a]?):CO w' a s h dv :=
 ⟨(World.cell?_of_block hb).trans x.self,(World.cell?_of_block hb).trans x.st,x.hd.block hb,(World.cell?_of_block hb).trans x.dr,λj=>(World.frozen?_of_block hb).trans (x.froz j)⟩
theorem AV.kept {S:Nat->Prop}(x:AV w s d l p h cur)(hk:AC S w w')(hs:¬S s):AV w' s d l p h cur:=x.block (hk.block s x.lt hs)
theorem CO.kept {S:Nat->Prop}(x:CO w a s h dv)(hk:AC S w w')(hs:¬S a):CO w' a s h dv:=x.block (hk.block a x.lt hs)
theorem AV.below (x:AV w s d l p h cur)(hk:Below w.heap.size w w'):AV w' s d l p h cur:=x.block (hk.block s x.lt)
theorem CO.below (x:CO w a s h dv)(hk:Below w.heap.size w w'):CO w' a s h dv:=x.block (hk.block a x.lt)
theorem CO.turnHd (x:CO w a s h dv){h':Hd}(hd:DJ w' a 2 h')(ht:BJ a 2 81 w w'):CO w' a s h' dv :=
 ⟨(ht.out 0 (by omega)).trans x.self,(ht.out 1 (by omega)).trans x.st,hd,(ht.out 83 (by omega)).trans x.dr,λj=>(ht.froz j).trans (x.froz j)⟩
theorem AV.setCur (x:AV w s d l p h cur)(k:h.Ok)(c:Option Nat):AV (w.setCell ⟨s,85,none⟩ (.pointer (c.map λa=>⟨a,0,none⟩))) s d l p h c:=by
 have ht:BJ s 85 1 w (w.setCell ⟨s,85,none⟩ (.pointer (c.map λa=>⟨a,0,none⟩))):=BJ.setCell w _ (by omega) (by omega)
 refine⟨(ht.out 0 (by omega)).trans x.self,(ht.out 1 (by omega)).trans x.dk,(ht.out 2 (by omega)).trans x.lg,(ht.out 3 (by omega)).trans x.pl,FH x.hd ht (by rw[Hd.cells_length k];omega),World.cell?_setCell_same _ _ _ x.cur_,λj=>(ht.froz j).trans (x.froz j)⟩
theorem CO.setDr (x:CO w a s h dv)(k:h.Ok)(v:Value):CO (w.setCell ⟨a,83,none⟩ v) a s h v:=by
 have ht:BJ a 83 1 w (w.setCell ⟨a,83,none⟩ v):=BJ.setCell w _ (by omega) (by omega)
 refine⟨(ht.out 0 (by omega)).trans x.self,(ht.out 1 (by omega)).trans x.st,FH x.hd ht (by rw[Hd.cells_length k];omega),World.cell?_setCell_same _ _ _ x.dr,λj=>(ht.froz j).trans (x.froz j)⟩
end
theorem BW6:(Tryz.prog.info? 55).map (·.size)=some 86:=by kernel_rfl
theorem AH6:(Tryz.prog.info? 40).map (·.size)=some 84:=by kernel_rfl
theorem NN:(Tryz.prog.info? 37).map (·.size)=some 81:=by kernel_rfl
theorem ZY (l:Nat)(w:World)(h:w.cell? ⟨l,0,none⟩=some (.pointer (some ⟨l,0,none⟩))) :
  Calls Tryz.prog 59 #[.pointer (some ⟨l,0,none⟩)] w λe w'=>e=.returned (.bool true)/\w'=w:=by
 obtain⟨j,hj,_⟩:=Option.map_eq_some_iff.1 BW6;have hq:=run_eql_ptr_same (P:=Tryz.prog) w (tp:=22) (te:=55) ⟨l,0,none⟩ Tryz.underlying22 hj;go_enter Tryz.func59,Tryz.ntmps59;go_wp2;go_ret;exact⟨rfl,rfl⟩
theorem RN (s d l p:Nat)(h:Hd)(w:World)(x:AV w s d l p h none):Calls Tryz.prog 48 #[.pointer (some ⟨s,0,none⟩)] w λe w'=>e=.returned (.int .i64 0)/\w'=w:=by
 have HP:=yH (ZY s w x.self);have hc:w.cell? ⟨s,85,none⟩=some (.pointer none):=x.cur_;clear x;go_enter Tryz.func48,Tryz.ntmps48;go_wp2_with fail;refine HP.out.mono ?_;rintro e w' ⟨rfl,hw⟩;subst w';go_wp2;go_ret;exact⟨rfl,rfl⟩
theorem XP (s m:Nat)(X:List Value)(hX:X.length=81) :
  Tryz.prog.built 40 [(1,.pointer (some ⟨s,1,none⟩)),(2,.agg X.toArray),(3,.map (some m))]=some (([Value.pointer none,.pointer (some ⟨s,1,none⟩)]++X++[Value.map (some m)]).toArray) :=
 match X,hX with
 | c0::c1::c2::c3::c4::c5::c6::c7::c8::c9::c10::c11::c12::c13::c14::c15::c16::c17::c18::c19::c20::c21::c22::c23::c24::c25::c26::c27::c28::c29::c30::c31::c32::c33::c34::c35::c36::c37::c38::c39::c40::c41::c42::c43::c44::c45::c46::c47::c48::c49::c50::c51::c52::c53::c54::c55::c56::c57::c58::c59::c60::c61::c62::c63::c64::c65::c66::c67::c68::c69::c70::c71::c72::c73::c74::c75::c76::c77::c78::c79::c80::[],_=>by kernel_rfl
theorem CT {P:Program}{a:Act}{o:Oper}{t:TypeId}{parts:Array (Nat × Operand)}(ho:o.op=.build t parts)(vals:List (Nat × Value))(hv:(parts.map λ(i,x)=>(i,a.eval x))=vals.toArray)(cells:Array Value)(hb:P.built t vals=some cells)(W:World) :
  (execOp a.eval o).run P W=.ok (.value (.agg cells)) W:=by
 have h:=run_build (P:=P) W t vals.toArray cells (by simpa using hb)
 unfold execOp;simp only[ho,hv];simp[h]
def VV (s d l p:Nat)(h:Hd)(w:World)(e:Ending)(w':World):Prop :=
 ∃a db,e=.returned (.tuple #[.pointer (some ⟨a,0,none⟩),.int .i64 0])/\CO w' a s h (.map (some db))/\FR w' db 0 (λ_=>none)/\AV w' s d l p h (some a)/\w.heap.size<=a/\w.heap.size<=db/\a≠db/\AC (λk=>k=s) w w'
theorem AF1 (s d l p:Nat)(h:Hd)(w:World)(x:AV w s d l p h none)(k:h.Ok) :
  Calls Tryz.prog 11 #[.pointer (some ⟨s,0,none⟩)] w (VV s d l p h w):=by
 have HR:=yH (RN s d l p h w x);have HX:=yH x;have HK:=yH k;have hlt:=x.lt;obtain⟨X,hX⟩:∃X:List Value,X=h.cells:=⟨_,rfl⟩;have HXX:Hid (∀W:World,W.heap[s]? = w.heap[s]?->W.rangeAt s 4 X):=yH (λW hb=>by rw[hX];exact HX.out.hd.block hb)
 have HXL:Hid ((Tryz.prog.info? 37).map (·.size)=some X.length):=yH (by rw[hX,Hd.cells_length k];exact NN)
 have hmm:=@run_makeMap Tryz.prog;obtain⟨Y,hY⟩:∃Y:Array Value,Y=([Value.pointer none,.pointer (some ⟨s,1,none⟩)]++X++[Value.map (some w.heap.size)]).toArray:=⟨_,rfl⟩;have HY:=yH (XP s w.heap.size X (by rw[hX,Hd.cells_length k]))
 rw[<-hY]at HY;have HYE:=yH hY;have HXE:=yH hX
 clear x k hY hX;go_enter Tryz.func11,Tryz.ntmps11;go_wp2_with fail;refine HR.out.mono ?_;rintro e w' ⟨rfl,hw⟩;subst w';go_wp2;refine wp_region_held_drew (S:=λW=>Below w.heap.size w W) (by kernel_rfl) ((Below.refl _ _).drew) (λhHeld=>?_)
 refine wpAnyH_take (i:=0) (v:=.pointer (some ⟨s,0,none⟩)) rfl (by kernel_rfl) (by kernel_rfl) (by kernel_rfl) (λ_ _ _ h=>h) (Or.inl ⟨by rfl,λW hW=>by go_simp⟩) hHeld ?_
 refine wpAnyH_take (i:=1) (v:=.pointer (some ⟨s,0,none⟩)) rfl (by kernel_rfl) (by kernel_rfl) (by kernel_rfl) (λ_ _ _ h=>h) (Or.inl ⟨by rfl,λW hW=>by go_simp⟩) hHeld ?_
 refine wpAnyH_take (i:=2) (v:=.pointer (some ⟨s,1,none⟩)) rfl (by kernel_rfl) (by kernel_rfl) (by kernel_rfl) (λ_ _ _ h=>h) (Or.inl ⟨by rfl,λW hW=>by go_simp⟩) hHeld ?_
 refine wpAnyH_take (i:=3) (v:=.pointer (some ⟨s,0,none⟩)) rfl (by kernel_rfl) (by kernel_rfl) (by kernel_rfl) (λ_ _ _ h=>h) (Or.inl ⟨by rfl,λW hW=>by go_simp⟩) hHeld ?_
 refine wpAnyH_take (i:=4) (v:=.pointer (some ⟨s,0,none⟩)) rfl (by kernel_rfl) (by kernel_rfl) (by kernel_rfl) (λ_ _ _ h=>h) (Or.inl ⟨by rfl,λW hW=>by go_simp⟩) hHeld ?_
 refine wpAnyH_take (i:=5) (v:=.pointer (some ⟨s,1,none⟩)) rfl (by kernel_rfl) (by kernel_rfl) (by kernel_rfl) (λ_ _ _ h=>h) (Or.inl ⟨by rfl,λW hW=>by go_simp⟩) hHeld ?_
 refine wpAnyH_take (i:=6) (v:=.pointer (some ⟨s,4,none⟩)) rfl (by kernel_rfl) (by kernel_rfl) (by kernel_rfl) (λ_ _ _ h=>h) (Or.inl ⟨by rfl,λW hW=>by go_simp⟩) hHeld ?_
 refine wpAnyH_take (i:=7) (v:=.agg X.toArray) rfl (by kernel_rfl) (by kernel_rfl) (by kernel_rfl) (λ_ _ _ h=>h) (yieldsIf_load_mid (by rfl) 37 _ rfl s 4 rfl X _ (λW hW=>HXX.out W (hW.block s hlt)) Tryz.underlying37 rfl HXL.out) hHeld ?_
 refine wpAnyH_ready (rs:=[8]) (by kernel_rfl) (by simp) ?_
 refine AllReadyH.cons rfl (λK hK=>?_) AllReadyH.nil
 go_simp
 refine hK.out _ _ (((Below.refl _ w).alloc (Nat.le_refl _) _).drew) (λhHeld2=>?_)
 clear hK K;refine wpAnyH_take (i:=9) (v:=.agg Y) rfl (by kernel_rfl) (by kernel_rfl) (by kernel_rfl) (λ_ _ _ h=>h) (Or.inl ⟨by rfl,λW hW=>CT rfl _ (by simp[go_sem]) Y HY.out W⟩) hHeld2 ?_
 refine wpAnyH_ready (rs:=[10]) (by kernel_rfl) (by simp) ?_
 refine AllReadyH.cons rfl (λK hK=>?_) AllReadyH.nil
 go_simp
 refine hK.out _ _ ((((Below.refl _ w).alloc (Nat.le_refl _) _).alloc (by simp) _).drew) (λhHeld3=>?_)
 clear hK K;refine wpAnyH_take (i:=11) (v:=.pointer (some ⟨w.heap.size+1,0,none⟩)) rfl (by kernel_rfl) (by kernel_rfl) (by kernel_rfl) (λ_ _ _ h=>h) (Or.inl ⟨by rfl,λW hW=>by go_simp⟩) hHeld3 ?_
 refine wpAnyH_done (by kernel_rfl) ?_ _
 clear hHeld hHeld2 hHeld3;generalize hWW:((w.alloc (Obj.map #[] 0)).alloc (Obj.cells Y 40)).drew=W
 have hW:∀W,W=((w.alloc (Obj.map #[] 0)).alloc (Obj.cells Y 40)).drew->W.heap[w.heap.size+1]? = some (.cells Y 40 (0,0))/\FR W w.heap.size 0 (λ_=>none)/\W.heap.size=w.heap.size+2/\Below w.heap.size w W:=by
  rintro W rfl;refine⟨?_,?_,by simp,(((Below.refl _ w).alloc (Nat.le_refl _) _).alloc (by simp) _).drew⟩
  ·exact heap_alloc2_new w (Obj.map #[] 0) (Obj.cells Y 40)
  ·exact (NT w).block (Below.heap_alloc _ _ _ (by simp))
 obtain⟨g1,g2,g3,g4⟩:=hW W hWW.symm;clear hW;have hY0:∀i v,(([Value.pointer none,.pointer (some ⟨s,1,none⟩)]++X++[Value.map (some w.heap.size)])[i]? = some v)->W.cell? ⟨w.heap.size+1,i,none⟩=some v:=λi v hi=>by
  rw[yC g1,HYE.out,List.getElem?_toArray];exact hi
 have hXl:X.length=81:=by rw[HXE.out,Hd.cells_length HK.out]
 have hA:CO (W.setCell ⟨w.heap.size+1,0,none⟩ (.pointer (some ⟨w.heap.size+1,0,none⟩))) (w.heap.size+1) s h (.map (some w.heap.size)):=by
  have ht:BJ (w.heap.size+1) 0 1 W (W.setCell ⟨w.heap.size+1,0,none⟩ (.pointer (some ⟨w.heap.size+1,0,none⟩))):=BJ.setCell W _ (by omega) (by omega)
  refine⟨World.cell?_setCell_same _ _ _ (hY0 0 _ rfl),(ht.out 1 (by omega)).trans (hY0 1 _ rfl),λj v hj=>?_,(ht.out 83 (by omega)).trans (hY0 83 _ ?_),λj=>(ht.froz j).trans (Lib.frozen_of_heap g1 _)⟩
  ·rw[ht.out (2+j) (by omega)]
   rw[<-HXE.out]at hj;have hjl:=(List.getElem?_eq_some_iff.1 hj).1;refine hY0 (2+j) v ?_;rw[List.append_assoc,List.getElem?_append_right (by simp),List.getElem?_append_left (by simp;omega)]
   simpa using hj
  ·rw[List.getElem?_append_right (by simp[hXl])];simp[hXl]
 have hS:AV (W.setCell ⟨w.heap.size+1,0,none⟩ (.pointer (some ⟨w.heap.size+1,0,none⟩))) s d l p h none:=(HX.out.below g4).block (Below.heap_setCell _ _ _ _ (by simp;omega))
 have hE:VV s d l p h w (.returned (.tuple #[.pointer (some ⟨w.heap.size+1,0,none⟩),.int .i64 0])) ((W.setCell ⟨w.heap.size+1,0,none⟩ (.pointer (some ⟨w.heap.size+1,0,none⟩))).setCell ⟨s,85,none⟩ (.pointer (some ⟨w.heap.size+1,0,none⟩))):=by
  refine⟨w.heap.size+1,w.heap.size,rfl,hA.block (Below.heap_setCell _ _ _ _ (by simp;omega)),(g2.block (Below.heap_setCell _ _ _ _ (by simp))).block (Below.heap_setCell _ _ _ _ (by simp;omega)),hS.setCur HK.out (some (w.heap.size+1)),by omega,by omega,by omega,?_⟩
  refine ((AC.ofBelow g4).trans (AC.setCell (λk=>w.heap.size<=k) W (b:=w.heap.size+1) (by show w.heap.size<=w.heap.size+1;omega) _) (λi hi=>.inr hi)).trans (AC.setCell (λk=>k=s) _ (b:=s) rfl _) (λi hi=>.inl hi)
 have HE:=yH hE;clear hE
 have c0:=hY0 0 _ rfl;have f0:W.frozen? ⟨w.heap.size+1,0,none⟩=false:=Lib.frozen_of_heap g1 _;have c1:W.cell? ⟨s,85,none⟩=some (.pointer none):=(HX.out.below g4).cur_;have f1:W.frozen? ⟨s,85,none⟩=false:=(HX.out.below g4).froz _;have hsz:s<W.heap.size:=by omega
 have hne:s≠w.heap.size+1:=by omega
 clear hWW g1 g2 g3 g4 hY0 hXl hA hS hmm;go_wp2;go_ret2;exact HE.out
section
variable {P:Program} {w w':World} {ops:Array Oper} {rest:List Oper} {o:Oper} {a:Act} {Q:Exit->Act->World->Prop}
theorem BK (hg:o.guard=none)(v:Value)(hr:(execOp a.eval o).run P w=.ok (.value v) w')(h:wpList P ops Q rest (a.put o.dst v) w'):wpList P ops Q (o::rest) a w :=
 wpList_plain hg λK hK=>by unfold Oper.wp;rw[hr];exact hK _ _ h
end
theorem RV (a s:Nat)(w:World)(h0:w.cell? ⟨a,0,none⟩=some (.pointer (some ⟨a,0,none⟩)))(h1:w.cell? ⟨a,1,none⟩=some (.pointer (some ⟨s,1,none⟩)))(h2:w.cell? ⟨s,85,none⟩=some (.pointer (some ⟨a,0,none⟩))) :
  Calls Tryz.prog 49 #[.pointer (some ⟨a,0,none⟩)] w λe w'=>e=.returned (.int .i64 0)/\w'=w:=by
 obtain⟨j,hj,_⟩:=Option.map_eq_some_iff.1 AH6;have hq:=Lib.run_neq_ptr_same (P:=Tryz.prog) w (tp:=28) (te:=40) ⟨a,0,none⟩ Tryz.underlying28 hj;go_enter Tryz.func49,Tryz.ntmps49;go_wp2;go_ret;exact⟨rfl,rfl⟩
def JA (v:Value)(c:Int)(w:World):Prop:=Calls Tryz.prog 49 #[v] w λe w'=>e=.returned (.int .i64 c)/\w'=w
section
variable (v:Value) (c:Int) (w:World) (hc:c=1\/c=5) (hp:JA v c w)
include hc hp
theorem AM0 (q:Int):Calls Tryz.prog 15 #[v,.int .i64 q] w λe w'=>e=.returned (.tuple #[.int .i64 0,.int .i64 c])/\w'=w:=by
 have HP:Hid (Calls Tryz.prog 49 #[v] w λe w'=>e=.returned (.int .i64 c)/\w'=w):=yH hp;clear hp
 rcases hc with rfl|rfl
 all_goals
  go_enter Tryz.func15,Tryz.ntmps15;go_wp2_with fail;refine HP.out.mono ?_;rintro e w' ⟨rfl,hw⟩;subst w';go_wp2;go_ret2;exact⟨rfl,rfl⟩
end
theorem AP3 (a s d l p:Nat)(h last:Hd)(dv:Value)(cur:Option Nat)(w:World)(x:CO w a s h dv)(y:AV w s d l p last cur)(k:h.Ok)(kl:last.Ok)(hne:a≠s) :
  Calls Tryz.prog 50 #[.pointer (some ⟨a,0,none⟩)] w λe w'=>e=.returned (.tuple #[])/\CO w' a s h (.map none)/\AV w' s d l p last none/\AC (λk=>k=s\/k=a) w w':=by
 have HE:Hid (CO ((w.setCell ⟨s,85,none⟩ (.pointer none)).setCell ⟨a,83,none⟩ (.map none)) a s h (.map none)/\AV ((w.setCell ⟨s,85,none⟩ (.pointer none)).setCell ⟨a,83,none⟩ (.map none)) s d l p last none/\AC (λk=>k=s\/k=a) w ((w.setCell ⟨s,85,none⟩ (.pointer none)).setCell ⟨a,83,none⟩ (.map none))):=yH (by
  have h1:CO (w.setCell ⟨s,85,none⟩ (.pointer none)) a s h dv:=x.block (Below.heap_setCell _ _ _ _ hne);have h2:AV (w.setCell ⟨s,85,none⟩ (.pointer none)) s d l p last none:=y.setCur kl none;exact⟨h1.setDr k _,h2.block (Below.heap_setCell _ _ _ _ (λe=>hne e.symm)),(AC.setCell (λk=>k=s\/k=a) w (b:=s) (.inl rfl) _).trans (AC.setCell (λk=>k=s\/k=a) _ (b:=a) (.inr rfl) _) (λ_ hi=>.inl hi)⟩)
 have c1:=x.st;have c2:=y.cur_;have f1:=y.froz 85;have c3:=x.dr;have f2:=x.froz 83;have hne2:¬s=a:=λe=>hne e.symm
 clear x y k kl;go_enter Tryz.func50,Tryz.ntmps50;go_wp2;go_end0
 exact⟨rfl,HE.out⟩
theorem AL9 (a:Nat)(h:Hd)(q:Nat)(w:World)(hr:JA (.pointer (some ⟨a,0,none⟩)) 0 w)(x:DJ w a 2 h)(k:h.Ok)(hq:q<16) :
  Calls Tryz.prog 15 #[.pointer (some ⟨a,0,none⟩),.int .i64 q] w λe w'=>e=.returned (.tuple #[.int .i64 (h.root q),.int .i64 0])/\w'=w:=by
 have HR:Hid (Calls Tryz.prog 49 #[.pointer (some ⟨a,0,none⟩)] w λe w'=>e=.returned (.int .i64 0)/\w'=w):=yH hr;clear hr
 have h1:=QR q w;rw[decide_eq_true (by omega)]at h1
 have HI:=yH h1;clear h1
 have hc:=x.root k hq;rw[show 2+65+q=67+q by omega]at hc
 obtain⟨r,hr⟩:∃r,r=h.root q:=⟨_,rfl⟩;rw[<-hr]at hc ⊢
 have hq16:(q:Int)<16:=by omega
 clear x k hr;go_enter Tryz.func15,Tryz.ntmps15;go_wp2_with fail;refine HR.out.mono ?_;rintro e w' ⟨rfl,hw⟩;subst w';go_wp2_with fail;refine HI.out.mono ?_;rintro e w' ⟨rfl,hw⟩;subst w';go_wp2;go_ret2;exact⟨rfl,rfl⟩
end Go.Proofs.YtfbbjiidccbaiaaGreatDoor
set_option maxRecDepth 100000
set_option maxHeartbeats 6400000
namespace Go.Proofs.YtfbbjiidccbaiaaGreatDoor
open Go.RowKit Go.Maps
theorem FR.del_none {w:World}{b m:Nat}{F:Int->Option Value}(h:FR w b m F){t e:TypeId}(ht:Tryz.prog.underlying t=some (.map 3 e))(q:Int)(hq:(Lit.int .i64 q).wf=true)(hF:F q=none)(ty:TypeId) :
  ∃w',(Builtin.delete_ #[t,3] ty #[.map (some b),.int .i64 q]).run Tryz.prog w=.ok (.tuple #[]) w'/\FR w' b m F/\w.mapTurned w' b:=by
 obtain⟨D,h1,h2,h3⟩:=h;obtain⟨w',hr,ho,ht'⟩:=h1.drop XG ht (keyOf_int_mk (P:=Tryz.prog) Tryz.underlying3 hq) ty;have hn:Maps.has D (.int .i64 q)=false:=by
  rcases h3 q hq with⟨_,hn⟩|⟨u,hu,_⟩
  ·exact hn
  ·rw[hF]at hu;cases hu
 have hsz:Maps.size (D.del (.int .i64 q))=m:=by
  have:=Maps.size_del (k:=.int .i64 q) (h1.tidy XG)
  rw[hn,h2]at this;simpa using this
 refine⟨w',hr,⟨_,by rw[<-hsz];exact AA7 ho,hsz,λi hi=>?_⟩,ht'⟩
 by_cases hiq:i=q
 ·subst hiq;exact .inl ⟨hF,Maps.has_del_same⟩
 ·have hne:(Lit.int .i64 i)≠.int .i64 q:=λe=>hiq (by injection e)
  rw[Maps.has_del_other hne];exact (h3 i hi).imp id (λ⟨u,hu,h4,h5⟩=>⟨u,hu,h4,λz=>by rw[Maps.atKey_del_other hne];exact h5 z⟩)
structure Dr where
 blk:Nat
 fresh:Bool
 was:List UInt8
 now:List UInt8
def Dr.cells (x:Dr):List Value:=.bool x.fresh::(Lib.byteCells x.was++Lib.byteCells x.now)
theorem Dr.cells_length (x:Dr)(h1:x.was.length=512)(h2:x.now.length=512):x.cells.length=1025:=by simp[Dr.cells,Lib.byteCells_length,h1,h2]
def A9:List UInt8:=List.replicate 512 0
theorem CS:A9.length=512:=by simp[A9]
def Dr.ptr (x:Dr):Value:=.pointer (some ⟨x.blk,0,none⟩)
structure A4 (w:World)(db m:Nat)(D:Nat->Option Dr):Prop where
 map:∃F,FR w db m F/\(∀q x,D q=some x->F q=some x.ptr)/\∀q v,F q=some v->∃(n:Nat) (x:Dr),(n:Int)=q/\D n=some x/\v=x.ptr
 at_:∀q x,D q=some x->q<4096/\w.rangeAt x.blk 0 x.cells/\(∀j,w.frozen? ⟨x.blk,j,none⟩=false)/\x.was.length=512/\x.now.length=512/\x.blk≠db/\x.blk<w.heap.size
 one:∀q q' x y,D q=some x->D q'=some y->x.blk=y.blk->q=q'
section
variable {w w':World} {db m:Nat} {D:Nat->Option Dr}
theorem A4.ltM (h:A4 w db m D):db<w.heap.size:=by
 obtain⟨F,hF,_⟩:=h.map;exact hF.lt
theorem A4.keep (h:A4 w db m D)(h1:w'.heap[db]? = w.heap[db]?)(h2:∀q x,D q=some x->w'.heap[x.blk]? = w.heap[x.blk]?):A4 w' db m D:=by
 obtain⟨F,hF,h4,h5⟩:=h.map;refine⟨⟨F,hF.block h1,h4,h5⟩,λq x hq=>?_,h.one⟩
 obtain⟨a,b,c,d,e,f,g⟩:=h.at_ q x hq;have hb:=h2 q x hq;exact⟨a,λj v hv=>(World.cell?_of_block hb).trans (b j v hv),λj=>(World.frozen?_of_block hb).trans (c j),d,e,f,by
  have:x.blk<w'.heap.size:=by
   rw[Array.getElem?_eq_getElem g]at hb;exact (Array.getElem?_eq_some_iff.1 hb).1
  exact this⟩
theorem A4.kept {S:Nat->Prop}(h:A4 w db m D)(hk:AC S w w')(h1:¬S db)(h2:∀q x,D q=some x->¬S x.blk):A4 w' db m D :=
 h.keep (hk.block db h.ltM h1) (λq x hq=>hk.block x.blk (h.at_ q x hq).2.2.2.2.2.2 (h2 q x hq))
theorem A4.below (h:A4 w db m D)(hk:Below w.heap.size w w'):A4 w' db m D :=
 h.keep (hk.block db h.ltM) (λq x hq=>hk.block x.blk (h.at_ q x hq).2.2.2.2.2.2)
theorem A4.look (h:A4 w db m D){q:Nat}{x:Dr}(hq:D q=some x):(Instr.lookup 38 (.map (some db)) (.int .i64 q) false).run Tryz.prog w=.ok x.ptr w:=by
 obtain⟨F,hF,h4,_⟩:=h.map;have:=hF.look Tryz.underlying38 (by kernel_rfl) q (WalkArith.wf_i64 (by have:=(h.at_ q x hq).1;omega))
 rw[this,h4 q x hq];rfl
theorem A4.look_none (h:A4 w db m D){q:Nat}(hq4:q<4096)(hq:D q=none):(Instr.lookup 38 (.map (some db)) (.int .i64 q) false).run Tryz.prog w=.ok (.pointer none) w:=by
 obtain⟨F,hF,_,h5⟩:=h.map;have:=hF.look Tryz.underlying38 (by kernel_rfl) q (WalkArith.wf_i64 (by omega))
 rw[this];cases hv:F q with
 | none=>rfl
 | some v =>
  obtain⟨n,x,e,hx,_⟩:=h5 q v hv;have:n=q:=by omega
  subst this;rw[hq]at hx;cases hx
theorem A4.put (h:A4 w db m D)(hm:m<4611686018427387904){q:Nat}(hq4:q<4096)(hq:D q=none)(x:Dr)(hr:w.rangeAt x.blk 0 x.cells)(hf:∀j,w.frozen? ⟨x.blk,j,none⟩=false)(h1:x.was.length=512)(h2:x.now.length=512)(hdb:x.blk≠db)(hlt:x.blk<w.heap.size)(hno:∀q y,D q=some y->y.blk≠x.blk) :
  ∃w',(Instr.mapUpdate 38 (.map (some db)) (.int .i64 q) x.ptr).run Tryz.prog w=.ok () w'/\A4 w' db (m+1) (upd D q (some x))/\AC (λk=>k=db) w w':=by
 obtain⟨F,hF,h4,h5⟩:=h.map;have hFq:F q=none:=by
  cases hv:F q with
  | none=>rfl
  | some v =>
   obtain⟨n,y,e,hy,_⟩:=h5 q v hv;have:n=q:=by omega
   subst this;rw[hq]at hy;cases hy
 obtain⟨w',hr',hF',ht⟩:=hF.put Tryz.underlying38 (by unfold maxLen;omega) q (WalkArith.wf_i64 (by omega)) hFq x.ptr
 have hk:AC (λk=>k=db) w w':=AC.ofTurned ht rfl
 refine⟨w',hr',⟨⟨_,hF',λj y hj=>?_,λj v hj=>?_⟩,λj y hj=>?_,λj j' y y' hj hj' e=>?_⟩,hk⟩
 ·by_cases hjq:j=q
  ·subst hjq;rw[AB]at hj;cases hj;exact C5 _ _ _
  ·rw[AA _ _ hjq]at hj;rw[BZ _ _ (by omega)];exact h4 j y hj
 ·by_cases hjq:j=q
  ·subst hjq;rw[C5]at hj;cases hj;exact⟨q,x,rfl,AB _ _ _,rfl⟩
  ·rw[BZ _ _ hjq]at hj;obtain⟨n,y,e1,e2,e3⟩:=h5 j v hj;exact⟨n,y,e1,by rw[AA _ _ (by omega)];exact e2,e3⟩
 ·have hh:∀y:Dr,w.rangeAt y.blk 0 y.cells->(∀j,w.frozen? ⟨y.blk,j,none⟩=false)->y.blk≠db->y.blk<w.heap.size->w'.rangeAt y.blk 0 y.cells/\(∀j,w'.frozen? ⟨y.blk,j,none⟩=false)/\y.blk<w'.heap.size:=λy a b c d=>by
   have hb:=hk.block y.blk d c;exact⟨λj v hv=>(World.cell?_of_block hb).trans (a j v hv),λj=>(World.frozen?_of_block hb).trans (b j),Nat.lt_of_lt_of_le d hk.size⟩
  by_cases hjq:j=q
  ·subst hjq;rw[AB]at hj;cases hj
   obtain⟨a,b,c⟩:=hh x hr hf hdb hlt;exact⟨hq4,a,b,h1,h2,hdb,c⟩
  ·rw[AA _ _ hjq]at hj;obtain⟨a,b,c,d,e,f,g⟩:=h.at_ j y hj;obtain⟨a',b',c'⟩:=hh y b c f g;exact⟨a,a',b',d,e,f,c'⟩
 ·by_cases hjq:j=q <;> by_cases hjq':j'=q
  ·omega
  ·subst hjq;rw[AB]at hj;rw[AA _ _ hjq']at hj';cases hj;exact absurd e.symm (hno j' y' hj')
  ·subst hjq';rw[AB]at hj';rw[AA _ _ hjq]at hj;cases hj';exact absurd e (hno j y hj)
  ·rw[AA _ _ hjq]at hj;rw[AA _ _ hjq']at hj';exact h.one j j' y y' hj hj' e
theorem A4.del (h:A4 w db m D){q:Nat}(hq4:q<4096)(ty:TypeId) :
  ∃w' m',(Builtin.delete_ #[38,3] ty #[.map (some db),.int .i64 q]).run Tryz.prog w=.ok (.tuple #[]) w'/\A4 w' db m' (upd D q none)/\m'<=m/\AC (λk=>k=db) w w':=by
 obtain⟨F,hF,h4,h5⟩:=h.map;have hrest:∀(w':World) (m':Nat) (F':Int->Option Value),FR w' db m' F'->F' q=none->(∀j,j≠(q:Int)->F' j=F j)->AC (λk=>k=db) w w'->A4 w' db m' (upd D q none):=λw' m' F' hF' g1 g2 hk=>by
  refine⟨⟨F',hF',λj y hj=>?_,λj v hj=>?_⟩,λj y hj=>?_,λj j' y y' hj hj' e=>?_⟩
  ·by_cases hjq:j=q
   ·subst hjq;rw[AB]at hj;cases hj
   ·rw[AA _ _ hjq]at hj;rw[g2 _ (by omega)];exact h4 j y hj
  ·by_cases hjq:j=q
   ·rw[hjq,g1]at hj;cases hj
   ·rw[g2 _ hjq]at hj;obtain⟨n,y,e1,e2,e3⟩:=h5 j v hj;exact⟨n,y,e1,by rw[AA _ _ (by omega)];exact e2,e3⟩
  ·by_cases hjq:j=q
   ·subst hjq;rw[AB]at hj;cases hj
   ·rw[AA _ _ hjq]at hj;obtain⟨a,b,c,d,e,f,g⟩:=h.at_ j y hj;have hb:=hk.block y.blk g f;exact⟨a,λj v hv=>(World.cell?_of_block hb).trans (b j v hv),λj=>(World.frozen?_of_block hb).trans (c j),d,e,f,Nat.lt_of_lt_of_le g hk.size⟩
  ·by_cases hjq:j=q
   ·subst hjq;rw[AB]at hj;cases hj
   ·by_cases hjq':j'=q
    ·subst hjq';rw[AB]at hj';cases hj'
    ·rw[AA _ _ hjq]at hj;rw[AA _ _ hjq']at hj';exact h.one j j' y y' hj hj' e
 cases hv:F q with
 | none =>
  obtain⟨w',hr',hF',ht⟩:=hF.del_none Tryz.underlying38 q (WalkArith.wf_i64 (by omega)) hv ty
  have hk:AC (λk=>k=db) w w':=AC.ofTurned ht rfl
  exact⟨w',m,hr',hrest w' m F hF' hv (λ_ _=>rfl) hk,Nat.le_refl _,hk⟩
 | some v =>
  have hm0:∃m0,m=m0+1:=by
   obtain⟨Dd,g1,g2,g3⟩:=hF;cases m with
   | succ n=>exact⟨n,rfl⟩
   | zero =>
    exfalso
    rcases g3 q (WalkArith.wf_i64 (by omega)) with⟨e,_⟩|⟨u,_,e,_⟩
    ·rw[hv]at e;cases e
    ·have:=Maps.size_del (k:=.int .i64 (q:Int)) (g1.tidy XG)
     rw[e,g2]at this;simp at this
  obtain⟨m0,rfl⟩:=hm0;obtain⟨w',hr',hF',ht⟩:=hF.del Tryz.underlying38 q (WalkArith.wf_i64 (by omega)) hv ty
  have hk:AC (λk=>k=db) w w':=AC.ofTurned ht rfl
  exact⟨w',m0,hr',hrest w' m0 _ hF' (C5 _ _ _) (λj hj=>BZ _ _ hj) hk,by omega,hk⟩
end
end Go.Proofs.YtfbbjiidccbaiaaGreatDoor
set_option maxRecDepth 100000
set_option maxHeartbeats 6400000
namespace Go.Proofs.YtfbbjiidccbaiaaGreatDoor
open Go.RowKit
structure CH (w:World)(a s d l p db m:Nat)(last h:Hd)(D:Nat->Option Dr):Prop where
 sp:AV w s d l p last (some a)
 ac:CO w a s h (.map (some db))
 dr:A4 w db m D
 okl:last.Ok
 ok:h.Ok
 has:∀q x,D q=some x->h.has q
 ne:a≠s/\a≠db/\s≠db
 blk:∀q x,D q=some x->x.blk≠a/\x.blk≠s
section
variable {w w':World} {a s d l p db m:Nat} {last h:Hd} {D:Nat->Option Dr}
theorem CH.live (x:CH w a s d l p db m last h D):JA (.pointer (some ⟨a,0,none⟩)) 0 w:=RV a s w x.ac.self x.ac.st x.sp.cur_
theorem CH.below (x:CH w a s d l p db m last h D)(hb:Below w.heap.size w w'):CH w' a s d l p db m last h D :=
 ⟨x.sp.below hb,x.ac.below hb,x.dr.below hb,x.okl,x.ok,x.has,x.ne,x.blk⟩
theorem CH.kept {S:Nat->Prop}(x:CH w a s d l p db m last h D)(hk:AC S w w')(h1:¬S a)(h2:¬S s)(h3:¬S db)(h4:∀q x,D q=some x->¬S x.blk):CH w' a s d l p db m last h D :=
 ⟨x.sp.kept hk h2,x.ac.kept hk h1,x.dr.kept hk h3 h4,x.okl,x.ok,x.has,x.ne,x.blk⟩
theorem CH.turnHd (x:CH w a s d l p db m last h D){h':Hd}(hd:DJ w' a 2 h')(ht:BJ a 2 81 w w')(hk:AC (λk=>k=a) w w')(k:h'.Ok)(hh:∀q x,D q=some x->h'.has q):CH w' a s d l p db m last h' D :=
 ⟨x.sp.kept hk (λe=>x.ne.1 e.symm),x.ac.turnHd hd ht,x.dr.kept hk (λe=>x.ne.2.1 e.symm) (λq y hq=>(x.blk q y hq).1),x.okl,k,hh,x.ne,x.blk⟩
theorem Hd.Ok.setRoot {h:Hd}(k:h.Ok){i x:Nat}(hi:i<16)(hx:x<2147483648):(h.setRoot i x).Ok :=
 ⟨k.nf,by simp[Hd.setRoot,k.nr],k.cnt,k.lt,λj=>by
  rw[Hd.root_setRoot h k i x j hi];split
  ·exact hx
  ·exact k.rt j,k.in_⟩
theorem RU (q n:Nat)(x:CH w a s d l p db m last h D)(hq:q<16)(hn:n<2147483648) :
  Calls Tryz.prog 18 #[.pointer (some ⟨a,0,none⟩),.int .i64 q,.int .i64 n] w λe w'=>e=.returned (.int .i64 0)/\CH w' a s d l p db m last (h.setRoot q n) D/\AC (λk=>k=a) w w':=by
 have HR:Hid (Calls Tryz.prog 49 #[.pointer (some ⟨a,0,none⟩)] w λe w'=>e=.returned (.int .i64 0)/\w'=w):=yH x.live
 have h1:=QR q w;rw[decide_eq_true (by omega)]at h1
 have HI:=yH h1;clear h1
 have hc:=x.ac.hd.root x.ok hq;have hf:=x.ac.froz (2+65+q);have HE:Hid (CH (w.setCell ⟨a,2+65+q,none⟩ (.int .i64 n)) a s d l p db m last (h.setRoot q n) D/\AC (λk=>k=a) w (w.setCell ⟨a,2+65+q,none⟩ (.int .i64 n))):=yH (by
  have hk:AC (λk=>k=a) w (w.setCell ⟨a,2+65+q,none⟩ (.int .i64 n)):=AC.setCell (λk=>k=a) w (b:=a) rfl _
  refine⟨x.turnHd ?_ (BJ.setCell (fb:=a) (o:=2) (n:=81) (i:=2+65+q) w _ (by omega) (by omega)) hk (x.ok.setRoot hq hn) (λj y hj=>x.has j y hj),hk⟩
  have:=x.ac.hd.set (h':=h.setRoot q n) (i:=65+q) (v:=.int .i64 n) (by rw[Hd.cells_length x.ok];omega) (Hd.cells_setRoot x.ok n)
  rwa [<-Nat.add_assoc]at this)
 rw[show 2+65+q=67+q by omega]at hc hf HE
 have hq16:(q:Int)<16:=by omega
 have hn31:(n:Int)<=2147483647:=by omega
 obtain⟨r,hr⟩:∃r,r=h.root q:=⟨_,rfl⟩;rw[<-hr]at hc;clear x hr;go_enter Tryz.func18,Tryz.ntmps18;go_wp2_with fail;refine HR.out.mono ?_;rintro e w' ⟨rfl,hw⟩;subst w';go_wp2_with fail;refine HI.out.mono ?_;rintro e w' ⟨rfl,hw⟩;subst w';go_wp2;go_ret;exact⟨rfl,HE.out⟩
theorem AE9:Tryz.prog.built 111 [(0,.bool true)]=some (Dr.cells ⟨0,true,A9,A9⟩).toArray:=by kernel_rfl
def N8 (a s d l p db m:Nat)(last h:Hd)(D:Nat->Option Dr)(w:World)(e:Ending)(w':World):Prop :=
 (∃q h' b,h.NextIs q h'/\e=.returned (.tuple #[.int .i64 q,.int .i64 0])/\w.heap.size<=b/\CH w' a s d l p db (m+1) last h' (upd D q (some ⟨b,true,A9,A9⟩))/\AC (λk=>k=a\/k=db) w w') \/
 ((∀j,h.isFree j=false)/\h.count=4095/\e=.returned (.tuple #[.int .i64 0,.int .i64 2])/\w'=w)
theorem AF9 (x:CH w a s d l p db m last h D)(hT:Tab w)(hm:m<4611686018427387904) :
  Calls Tryz.prog 14 #[.pointer (some ⟨a,0,none⟩)] w (N8 a s d l p db m last h D w):=by
 have HR:Hid (Calls Tryz.prog 49 #[.pointer (some ⟨a,0,none⟩)] w λe w'=>e=.returned (.int .i64 0)/\w'=w):=yH x.live
 have HT:=yH (BA6 a 2 h w x.ac.hd x.ok hT x.ac.froz);have HX:=yH x;have c83:∀W,BJ a 2 81 w W->W.cell? ⟨a,83,none⟩=some (.map (some db)):=λW ht=>(ht.out 83 (by omega)).trans HX.out.ac.dr
 have HC:=yH c83;obtain⟨Y,hY⟩:∃Y:Array Value,Y=(Dr.cells ⟨0,true,A9,A9⟩).toArray:=⟨_,rfl⟩;have HB:=yH AE9;rw[<-hY]at HB;have HY:=yH hY;clear x hT c83 hY;go_enter Tryz.func14,Tryz.ntmps14;go_wp2_with fail;refine HR.out.mono ?_;rintro e w' ⟨rfl,hw⟩;subst w';go_wp2_with fail;refine HT.out.mono ?_;rintro e w1 (⟨q,h',hn,rfl,hd,ht,hk⟩ | ⟨h1,h2,rfl,hw⟩)
 ·obtain⟨k',hq1,hq4,hno,hhas,_⟩:=hn.spec HX.out.ok;have hq0:((q:Int) == 0)=false:=by simp;omega
  have c83:=HC.out w1 ht;have hX1:CH w1 a s d l p db m last h' D:=HX.out.turnHd hd ht hk k' (λj y hj=>(hhas j).2 (.inl (HX.out.has j y hj)))
  have hDq:D q=none:=by
   cases hv:D q with
   | none=>rfl
   | some y=>exact absurd (HX.out.has q y hv) hno
  obtain⟨w2,hw2⟩:∃w2,w2=w1.alloc (.cells Y 111):=⟨_,rfl⟩;have hb2:Below w1.heap.size w1 w2:=by rw[hw2];exact (Below.refl _ _).alloc (Nat.le_refl _) _
  have hX2:=hX1.below hb2;have hnew:w2.heap[w1.heap.size]? = some (.cells Y 111 (0,0)):=by rw[hw2];exact heap_alloc_new w1 _
  have hrg:w2.rangeAt w1.heap.size 0 (Dr.cells ⟨w1.heap.size,true,A9,A9⟩):=λj v hv=>by
   rw[Nat.zero_add,yC hnew,HY.out,List.getElem?_toArray];exact hv
  have hsz:=hk.size;have hdl:=hX1.dr.ltM;obtain⟨w3,hr,hD3,hk3⟩:=hX2.dr.put hm hq4 hDq ⟨w1.heap.size,true,A9,A9⟩ hrg (λj=>Lib.frozen_of_heap hnew _) CS CS (by show w1.heap.size≠db;omega) (by show w1.heap.size<w2.heap.size;rw[hw2];simp) (λj y hj=>by
   have:=(hX1.dr.at_ j y hj).2.2.2.2.2.2
   show y.blk≠w1.heap.size;omega)
  have hend:N8 a s d l p db m last h D w (.returned (.tuple #[.int .i64 q,.int .i64 0])) w3:=by
   refine .inl ⟨q,h',w1.heap.size,hn,rfl,hsz,⟨hX2.sp.kept hk3 hX2.ne.2.2,hX2.ac.kept hk3 hX2.ne.2.1,hD3,hX2.okl,k',λj y hj=>?_,hX2.ne,λj y hj=>?_⟩,?_⟩
   ·by_cases hjq:j=q
    ·exact (hhas j).2 (.inr hjq)
    ·rw[AA _ _ hjq]at hj;exact hX2.has j y hj
   ·by_cases hjq:j=q
    ·subst hjq;rw[AB]at hj;cases hj
     have h1:=hX1.ac.lt;have h2:=hX1.sp.lt
     show w1.heap.size≠a/\w1.heap.size≠s;omega
    ·rw[AA _ _ hjq]at hj;exact hX2.blk j y hj
   ·exact ((hk.mono (T:=λk=>k=a\/k=db) (λk e=>.inl e)).trans (AC.ofBelow (S:=λk=>k=a\/k=db) hb2) (λ_ hi=>.inl hi)).trans (hk3.mono (T:=λk=>k=a\/k=db) (λk e=>.inr e)) (λ_ hi=>.inl hi)
  have HE:=yH hend;rw[hw2]at hr;have hr':(Instr.mapUpdate 38 (.map (some db)) (.int .i64 q) (.pointer (some ⟨w1.heap.size,0,none⟩))).run Tryz.prog (w1.alloc (.cells Y 111))=.ok () w3:=hr;have HRR:=yH hr';clear hd ht hk hn k' hq1 hq4 hno hhas hX1 hDq hw2 hb2 hX2 hnew hrg hr hD3 hk3 hend hr' hsz hdl;go_wp2_with (first
   | (refine BK rfl (.agg Y) (CT rfl _ (by simp[go_sem]) Y HB.out w1) ?_)
   | (refine B8 rfl _ _ _ 38 rfl _ _ _ (by rfl) (by rfl) (by rfl) HRR.out ?_))
  go_ret2;exact HE.out
 ·subst w1;have HE:=yH (show N8 a s d l p db m last h D w (.returned (.tuple #[.int .i64 0,.int .i64 2])) w from .inr ⟨h1,h2,rfl,rfl⟩)
  clear h1 h2;go_wp2;go_ret2;exact HE.out
theorem CR (q:Int)(x:CH w a s d l p db m last h D) :
  Calls Tryz.prog 51 #[.pointer (some ⟨a,0,none⟩),.int .i64 q] w λe w'=>e=.returned (.int .i64 (if 1<=q/\h.has q.toNat then 0 else 3))/\w'=w:=by
 have HR:Hid (Calls Tryz.prog 49 #[.pointer (some ⟨a,0,none⟩)] w λe w'=>e=.returned (.int .i64 0)/\w'=w):=yH x.live
 have h1:=BT0 a 2 h q w x.ac.hd x.ok;by_cases hq:1<=q/\h.has q.toNat
 ·rw[decide_eq_true hq]at h1;rw[if_pos hq];have HI:=yH h1;clear h1 hq x
  go_enter Tryz.func51,Tryz.ntmps51;go_wp2_with fail;refine HR.out.mono ?_;rintro e w' ⟨rfl,hw⟩;subst w';go_wp2_with fail;refine HI.out.mono ?_;rintro e w' ⟨rfl,hw⟩;subst w';go_wp2;go_ret;exact⟨rfl,rfl⟩
 ·rw[decide_eq_false hq]at h1;rw[if_neg hq];have HI:=yH h1;clear h1 hq x
  go_enter Tryz.func51,Tryz.ntmps51;go_wp2_with fail;refine HR.out.mono ?_;rintro e w' ⟨rfl,hw⟩;subst w';go_wp2_with fail;refine HI.out.mono ?_;rintro e w' ⟨rfl,hw⟩;subst w';go_wp2;go_ret;exact⟨rfl,rfl⟩
theorem AM3 (q:Nat)(x:CH w a s d l p db m last h D)(hq:h.has q) :
  Calls Tryz.prog 17 #[.pointer (some ⟨a,0,none⟩),.int .i64 q] w λe w'=>e=.returned (.int .i64 0)/\(∃m',m'<=m/\CH w' a s d l p db m' last (h.turn q) (upd D q none))/\AC (λk=>k=a\/k=db) w w':=by
 have h1:=CR q x;have hq1:=hq.1;have hq4:q<4096:=by have:=hq.2.1;have:=x.ok.cnt;omega
 rw[if_pos (by rw[Int.toNat_natCast];exact⟨by omega,hq⟩)]at h1
 have HP:=yH h1;have HT:=yH (U2 a 2 h q w x.ac.hd x.ok hq4 x.ac.froz);have HX:=yH x;have HQ:=yH hq;have hq0:(0:Int)<=q:=by omega
 have hq5:(q:Int)<4096:=by omega
 clear h1 x hq;go_enter Tryz.func17,Tryz.ntmps17;go_wp2_with fail;refine HP.out.mono ?_;rintro e w' ⟨rfl,hw⟩;subst w';go_wp2_with fail;refine HT.out.mono ?_;rintro e w1 ⟨rfl,hd,ht,hk⟩;have c83:w1.cell? ⟨a,83,none⟩=some (.map (some db)):=(ht.out 83 (by omega)).trans HX.out.ac.dr
 have hdr:=HX.out.dr.kept hk (λe=>HX.out.ne.2.1 e.symm) (λj y hj=>(HX.out.blk j y hj).1)
 obtain⟨w2,m',hr,hD2,hm,hk2⟩:=hdr.del hq4 0;have hend:(∃m',m'<=m/\CH w2 a s d l p db m' last (h.turn q) (upd D q none))/\AC (λk=>k=a\/k=db) w w2:=by
  have hok:=HX.out.ok.turn hq4 ⟨hq1,HQ.out.2.1⟩;refine⟨⟨m',hm,(HX.out.sp.kept hk (λe=>HX.out.ne.1 e.symm)).kept hk2 HX.out.ne.2.2,(HX.out.ac.turnHd hd ht).kept hk2 HX.out.ne.2.1,hD2,HX.out.okl,hok,λj y hj=>?_,HX.out.ne,λj y hj=>?_⟩,(hk.mono (T:=λk=>k=a\/k=db) (λk e=>.inl e)).trans (hk2.mono (T:=λk=>k=a\/k=db) (λk e=>.inr e)) (λ_ hi=>.inl hi)⟩
  ·by_cases hjq:j=q
   ·subst hjq;rw[AB]at hj;cases hj
   ·rw[AA _ _ hjq]at hj;have:=HX.out.has j y hj
    refine⟨this.1,this.2.1,?_⟩;rw[Hd.isFree_turn HX.out.ok hq4,if_neg hjq];exact this.2.2
  ·by_cases hjq:j=q
   ·subst hjq;rw[AB]at hj;cases hj
   ·rw[AA _ _ hjq]at hj;exact HX.out.blk j y hj
 have HE:=yH hend;have HRR:=yH hr;clear hd ht hk hdr hr hD2 hm hk2 hend;go_wp2_with (refine DT rfl _ _ 38 3 rfl _ _ (by rfl) (by rfl) HRR.out ?_)
 go_ret;exact⟨rfl,HE.out⟩
end
end Go.Proofs.YtfbbjiidccbaiaaGreatDoor
