/- Texts of one proof, one behind the other: YD, YF, YI, YR, YS, YT, YU, WS, WT, WZ. -/
import Derived.Test.YtfbbjiidccbaiaaGreatDoorQAS
import Derived.Test.YtfbbjiidccbaiaaGreatDoorQAQ
import Derived.Test.YtfbbjiidccbaiaaGreatDoorQAD
import Derived.Test.YtfbbjiidccbaiaaGreatDoorQAC
import Derived.Test.YtfbbjiidccbaiaaGreatDoorQAA
set_option maxRecDepth 100000
set_option maxHeartbeats 6400000
namespace Go.Proofs.YtfbbjiidccbaiaaGreatDoor
open Go.RowKit
section
variable {J:List AD->Prop} {B:Nat} {c:Ac} {h:Hd} {G:Nat->List UInt8} {bb ab tb r:Nat} {V:List Vn->(Nat->Prop)->World->Prop} {X S:Nat->Prop} {acc:List Vn} {P:List Nat} {w wr:World} {n0:NO} {av:Nat->List Vn} {pv:Nat->List Nat}
def XW (V:List Vn->(Nat->Prop)->World->Prop)(ab:Nat):Prop :=
 ∀(acc:List Vn) (Z X:Nat->Prop) (w:World) (n:NO),V acc Z w->AM X w n->acc.length<=4095->Calls Tryz.prog 87 #[n.ptr,.pointer (some ⟨ab,0,none⟩)] w λe w'=>e=.returned (.tuple #[])/\∃Z',V (acc++[(n.page,n.level,n.ens.length)]) Z' w'/\AO Z w Z' w'
def U4 (ab:Nat):Value:=.func (.func 87) #[] #[.pointer (some ⟨ab,0,none⟩)]
def AG0 (J:List AD->Prop)(B:Nat)(c:Ac)(h:Hd)(G:Nat->List UInt8)(bb ab tb r:Nat)(V:List Vn->(Nat->Prop)->World->Prop)(n0:NO)(av:Nat->List Vn)(pv:Nat->List Nat):Prop :=
 ∀(i:Nat) (e:En) (X S:Nat->Prop) (W:World),n0.ens[i]? = some e->WkI J B c h G bb V X S (av i) (pv i) W->AH W tb c.a r->¬X tb->DM X W n0->e.val.length=2/\e.child<4096/\e.child ∉ pv i /\
  Calls Tryz.prog 114 #[.pointer (some ⟨tb,0,none⟩),n0.ptr,.int .i64 i] W λe w5=>∃yb:Nat,e=.returned (.pointer (some ⟨yb,0,none⟩))/\Calls Tryz.prog 127 #[.pointer (some ⟨tb,0,none⟩),.pointer (some ⟨yb,0,none⟩),.pointer (some ⟨bb,0,none⟩),U4 ab] w5 λe w6=>e=.returned (.tuple #[])/\∃X' S',WkI J B c h G bb V X' S' (av (i+1)) (pv (i+1)) w6/\AO X W X' w6
def I7 (J:List AD->Prop)(B:Nat)(c:Ac)(h:Hd)(G:Nat->List UInt8)(bb:Nat)(V:List Vn->(Nat->Prop)->World->Prop)(X:Nat->Prop)(w:World)(al:List Vn)(pl:List Nat)(wr:World):Prop:=∃X' S',WkI J B c h G bb V X' S' al pl wr/\AO X w X' wr
def Q8 (J:List AD->Prop)(B:Nat)(c:Ac)(h:Hd)(G:Nat->List UInt8)(bb ab tb:Nat)(V:List Vn->(Nat->Prop)->World->Prop)(X:Nat->Prop)(w:World)(nb:Nat)(av:Nat->List Vn)(pv:Nat->List Nat)(k q:Nat)(wr:World):Prop :=
 Calls Tryz.prog 152 #[.pointer (some ⟨nb,0,none⟩),.int .i64 k] wr.drew λe w4=>e=.returned (.int .i64 q)/\w4.cell? ⟨bb,q,none⟩=some (.bool false) /\
  Hid (∀W,Below w4.heap.size w4 W->Calls Tryz.prog 114 #[.pointer (some ⟨tb,0,none⟩),.pointer (some ⟨nb,0,none⟩),.int .i64 k] W λe w5=>∃yb:Nat,e=.returned (.pointer (some ⟨yb,0,none⟩)) /\
   Hid (Calls Tryz.prog 127 #[.pointer (some ⟨tb,0,none⟩),.pointer (some ⟨yb,0,none⟩),.pointer (some ⟨bb,0,none⟩),.func (.func 87) #[] #[.pointer (some ⟨ab,0,none⟩)]] w5 λe w6=>e=.returned (.tuple #[])/\Hid (I7 J B c h G bb V X w (av (k+1)) (pv (k+1)) w6)))
theorem Y5 (hV:NZ V)(hrec:AG0 J B c h G bb ab tb r V n0 av pv)(ht:AH w tb c.a r)(htX:¬X tb)(hn:DM X w n0){k:Nat}(hk:k<n0.ens.length)(H:I7 J B c h G bb V X w (av k) (pv k) wr) :
  ∃q,q<4096/\wr.drew.cell? ⟨bb,q,none⟩=some (.bool false)/\Q8 J B c h G bb ab tb V X w n0.blk av pv k q wr:=by
 obtain⟨X',S',I,hT⟩:=H;have he:n0.ens[k]? = some n0.ens[k]:=List.getElem?_eq_getElem hk;have hn':=hn.turn hT;have ht':=ht.kept hT.1 htX;have htX':=hT.not ht.lt htX;obtain⟨e1,e2,e3,_⟩:=hrec k _ X' S' wr he I ht' htX' hn';refine⟨n0.ens[k].child,e2,by rw[(I.below hV (Below.refl wr.heap.size wr).drew).been.1.cell e2];simp[e3],?_⟩
 have hbd:Below wr.heap.size wr wr.drew:=(Below.refl _ _).drew;refine (F6 _ n0 k n0.ens[k] wr.drew (hn'.below hbd).1 he e1).mono ?_;rintro e w4 ⟨rfl,m,rfl⟩;have hb4:Below wr.heap.size wr (wr.drew.drewN m):=hbd.trans ((AF wr.drew m).mono hbd.size);refine⟨rfl,?_,yH λW hb=>?_⟩
 ·rw[(I.below hV hb4).been.1.cell e2];simp[e3]
 ·have hbW:Below wr.heap.size wr W:=hb4.trans (hb.mono hb4.size);obtain⟨_,_,_,hB⟩:=hrec k _ X' S' W he (I.below hV hbW) (ht'.below hbW) htX' (hn'.below hbW);refine hB.mono ?_;rintro e w5 ⟨yb,rfl,hW⟩;refine⟨yb,rfl,yH (Calls.mono hW ?_)⟩;rintro e w6 ⟨rfl,X2,S2,I2,hT2⟩;exact⟨rfl,yH ⟨X2,S2,I2,(hT.trans (AO.ofBelow hbW)).trans hT2⟩⟩
theorem MJ (hV:NZ V)(hC:XW V ab)(hrec:0<n0.level->AG0 J B c h G bb ab tb r V n0 av pv)(I:WkI J B c h G bb V X S acc P w)(ht:AH w tb c.a r)(htX:¬X tb)(hn:DM X w n0)(hne:n0.ens≠[])(hfew:acc.length<=4095)(hav:av 0=acc++[(n0.page,n0.level,n0.ens.length)])(hpv:pv 0=P++[n0.page]) :
  Calls Tryz.prog 127 #[.pointer (some ⟨tb,0,none⟩),n0.ptr,.pointer (some ⟨bb,0,none⟩),U4 ab] w λe w'=>e=.returned (.tuple #[])/\I7 J B c h G bb V X w (av (if n0.level=0 then 0 else n0.ens.length)) (pv (if n0.level=0 then 0 else n0.ens.length)) w':=by
 have hpg:=hn.1.small.1;have hb0:=I.been.1.cell hpg;have hfz:=I.been.1.free n0.page;have hbl:=I.been.1.lt;obtain⟨oldv,hov⟩:∃v,v=Value.bool (decide (n0.page ∈ P)):=⟨_,rfl⟩;rw[<-hov]at hb0;obtain⟨I1,hT1⟩:=I.mark hV hpg;have HVIS:Hid (∀W,Below (w.setCell ⟨bb,n0.page,none⟩ (.bool true)).heap.size (w.setCell ⟨bb,n0.page,none⟩ (.bool true)) W->Calls Tryz.prog 87 #[n0.ptr,.pointer (some ⟨ab,0,none⟩)] W λe w2=>e=.returned (.tuple #[])/\w2.cell? ⟨n0.blk,1,none⟩=some (.int .i64 n0.level)/\w2.cell? ⟨n0.blk,2,none⟩=some (.slice n0.arr n0.ens.length n0.cap)/\Hid (I7 J B c h G bb V X w (av 0) (pv 0) w2)):=yH λW hb=>by
  have I2:=I1.below hV hb;have hT2:=hT1.trans (AO.ofBelow hb);have hn2:=hn.turn hT2;obtain⟨Z,v1,v2⟩:=I2.vis;refine (hC acc Z _ W n0 v1 hn2.1 hfew).mono ?_;rintro e w2 ⟨rfl,Z',v3,v4⟩;have hx:∃X',WkI J B c h G bb V X' S (acc++[(n0.page,n0.level,n0.ens.length)]) (P++[n0.page]) w2/\AO X W X' w2:=by
   have hz:=v4.1.size;obtain⟨b1,b2,b3,b4⟩:=I2.been;have hlo:=I2.act.low;have hnew:∀k,Z' k->(X k/\¬S k/\k≠bb)\/W.heap.size<=k:=λk hk=>by
    rcases Nat.lt_or_ge k W.heap.size with hl|hg
    ·exact .inl (v2 k (v4.2 k hl hk))
    ·exact .inr hg
   refine⟨λk=>X k\/Z' k,⟨I2.act.kept v4.1 (λk hk _=>⟨(v2 k hk).2.1,(hV.lt v1 k hk).1⟩),λk hs=>.inl (I2.sub k hs),λk hk=>hk.elim (λhx=>Nat.lt_of_lt_of_le (I2.lt k hx) hz) (λhz'=>(hV.lt v3 k hz').2),⟨b1.kept v4.1 (λhz'=>(v2 bb hz').2.2 rfl),.inl b2,b3,b4⟩,Z',v3,λk hk=>?_⟩,v4.1.mono (λk hk=>(v2 k hk).1),λk hl hk=>hk.elim id λhk=>(v2 k (v4.2 k hl hk)).1⟩
   rcases hnew k hk with⟨_,e2,e3⟩|hg
   ·exact⟨.inr hk,e2,e3⟩
   ·exact⟨.inr hk,λhs=>by have:=(hlo k hs).2;omega,λe=>by have:=I2.lt bb b2;omega⟩
  obtain⟨X',I3,hT3⟩:=hx;have hn3:=hn2.turn hT3;exact⟨rfl,hn3.1.c1,hn3.1.c2,yH ⟨X',S,by rw[hav,hpv];exact I3,hT2.trans hT3⟩⟩
 have HRD:Hid (0<n0.level->∀(k:Nat) (wr:World),k<n0.ens.length->I7 J B c h G bb V X w (av k) (pv k) wr->∃q,q<4096/\wr.drew.cell? ⟨bb,q,none⟩=some (.bool false)/\Q8 J B c h G bb ab tb V X w n0.blk av pv k q wr):=yH λh0 k wr hk H=>Y5 hV (hrec h0) ht htX hn hk H
 have hlen:1<=n0.ens.length:=List.length_pos_iff.2 hne;have h512:=hn.1.short.1;have c0:=hn.1.c0;have c1:=hn.1.c1;have c2:=hn.1.c2;have HV:=yH hV;clear hC hrec I ht htX hn hne hfew hav hpv I1 hT1 hov hV;unfold NO.ptr at HVIS ⊢
 unfold U4;obtain⟨nb,hnb⟩:∃nb,nb=n0.blk:=⟨_,rfl⟩;obtain⟨N,hN⟩:∃N,N=n0.ens.length:=⟨_,rfl⟩;obtain⟨ar,har⟩:∃ar,ar=n0.arr:=⟨_,rfl⟩;obtain⟨cp,hcp⟩:∃cp,cp=n0.cap:=⟨_,rfl⟩;obtain⟨q0,hq0⟩:∃q0,q0=n0.page:=⟨_,rfl⟩;obtain⟨Lv,hLv⟩:∃Lv,Lv=n0.level:=⟨_,rfl⟩;rw[<-hnb,<-hN,<-har,<-hcp,<-hq0,<-hLv]at HVIS;rw[<-hnb,<-hN,<-hLv]at HRD;rw[<-hnb]at c0 c1 c2 ⊢
 rw[<-hN]at hlen h512 c2 ⊢
 rw[<-har,<-hcp]at c2;rw[<-hq0]at c0 hpg hb0 hfz;rw[<-hLv]at c1 ⊢
 clear hnb hN har hcp hq0 hLv;obtain⟨M,hM⟩:∃M,M=if Lv=0 then 0 else N:=⟨_,rfl⟩
 rw[<-hM];have HM:=yH hM;clear hM;have f1:¬((N:Int)=0):=by omega
 have f2:(0:Int)<=(q0:Int):=by omega
 have f3:(q0:Int)<4096:=by omega
 go_enter Tryz.func127,Tryz.ntmps127;go_wp2_with fail;go_still_tail 7,(by kernel_rfl)
 go_wp2_with fail;refine (HVIS.out _ (Below.refl _ _).drew).mono ?_;rintro e w2 ⟨rfl,d1,d2,HW2⟩;clear HVIS c0 c1 c2 hb0 hfz;by_cases hl:Lv=0
 ·subst hl;obtain rfl:M=0:=by rw[HM.out];rfl
  rw[show ((0:Nat):Int)=0 from rfl]at d1
  clear HRD;go_wp2;exact bodyPost_ret (v:=.tuple #[]) (by simp[results,Tryz.results127,go_sem]) rfl ⟨rfl,HW2.out⟩
 ·have f4:¬((Lv:Int)=0):=by omega
  have f5:((Lv:Int) == 0)=false:=by simp;omega
  obtain rfl:M=N:=by rw[HM.out,if_neg hl]
  have HR:=yH (HRD.out (by omega))
  clear HRD hl;go_wp2;go_loopw [35] (λi wr=>∃k:Nat,k<=M/\i=.int .i64 k/\Hid (I7 J B c h G bb V X w (av k) (pv k) wr)) (λi _=>M-(intOf i).toNat)
  case atStart=>exact⟨0,by omega,rfl,HW2⟩
  case round =>
   obtain⟨k,hk,rfl,HW⟩:=hrel;by_cases hkn:k<M
   ·obtain⟨q,hq,hs0,hR⟩:=HR.out k wr hkn HW.out;have HRR:=yH hR;have HS0:=yH hs0;have HQ:Hid (∀W:World,W.cell? ⟨bb,q,none⟩=some (.bool false)->W.cell? ⟨bb,q,none⟩=some (.bool false)):=yH λ_ h=>h
    clear hs0;have g1:(k:Int)<(M:Int):=by omega
    have g2:(0:Int)<=(q:Int):=by omega
    have g3:(q:Int)<4096:=by omega
    clear hR HR HW HW2 d1 d2;go_wp2;refine BS (S:=λW=>W.cell? ⟨bb,q,none⟩=some (.bool false)) [] (by kernel_rfl) ?_
    refine AJ.take (i:=0) (v:=.pointer (some ⟨bb,0,none⟩)) rfl (by kernel_rfl) (by kernel_rfl) (by kernel_rfl) (by kernel_rfl) (λ_ _ _ h=>h) (Or.inl ⟨by rfl,λW hW=>by go_simp⟩) HS0.out ?_
    refine AJ.take (i:=1) (v:=.pointer (some ⟨nb,0,none⟩)) rfl (by kernel_rfl) (by kernel_rfl) (by kernel_rfl) (by kernel_rfl) (λ_ _ _ h=>h) (Or.inl ⟨by rfl,λW hW=>by go_simp⟩) HS0.out ?_
    refine AJ.take (i:=2) (v:=.int .i64 k) rfl (by kernel_rfl) (by kernel_rfl) (by kernel_rfl) (by kernel_rfl) (λ_ _ _ h=>h) (Or.inl ⟨by rfl,λW hW=>by go_simp⟩) HS0.out ?_
    refine AJ.take (i:=4) (v:=.pointer (some ⟨bb,0,none⟩)) rfl (by kernel_rfl) (by kernel_rfl) (by kernel_rfl) (by kernel_rfl) (λ_ _ _ h=>h) (Or.inl ⟨by rfl,λW hW=>by go_simp⟩) HS0.out ?_
    refine AJ.ready (rs:=[3]) (by kernel_rfl) (by simp) ?_
    refine AI.cons rfl (λK' hK=>?_) AI.nil
    go_simp
    go_at_call 152;refine HRR.out.mono ?_;rintro e w4 ⟨rfl,hs4,HB4⟩;have HS4:=yH hs4;clear HRR hs4;refine hK.out _ _ (λ_=>HS4.out) ?_
    clear hK K';refine AJ.ready (rs:=[5]) (by kernel_rfl) (by simp) ?_
    refine AI.cons rfl (λK' hK=>?_) AI.nil
    go_simp
    refine hK.out _ _ (λ_=>HS4.out) ?_
    clear hK K';refine AJ.ready (rs:=[6]) (by kernel_rfl) (by simp) ?_
    refine AI.cons rfl (λK' hK=>?_) AI.nil
    have x1:=HS4.out;go_simp
    clear x1;refine hK.out _ _ (λ_=>HS4.out) ?_
    clear hK K';refine AJ.ready (rs:=[7]) (by kernel_rfl) (by simp) ?_
    refine AI.cons rfl (λK' hK=>?_) AI.nil
    go_simp
    refine hK.out _ _ (λ_=>HS4.out) ?_
    clear hK K';refine AJ.done (by kernel_rfl) ?_ _
    clear HS0 HS4 HQ;have HB5:=yH (HB4.out w4 (Below.refl _ _));clear HB4;go_wp2_with fail;refine HB5.out.mono ?_;rintro e w5 ⟨yb,rfl,HWK⟩;clear HB5;go_wp2_with fail;refine HWK.out.mono ?_;rintro e w6 ⟨rfl,HG6⟩;clear HWK;go_wp2;go_roundw
    case rel=>exact⟨k+1,by omega,by go_num,HG6⟩
    case measure=>simp[intOf];omega
   ·obtain rfl:k=M:=by omega
    clear HR HW2 d1 d2;go_wp2;go_end0
    exact⟨rfl,HW.out⟩
end
section
variable {J:List AD->Prop} {B:Nat} {c:Ac} {h:Hd} {G:Nat->List UInt8} {bb ab tb r:Nat} {V:List Vn->(Nat->Prop)->World->Prop}
theorem N9 (hV:NZ V)(hC:XW V ab):∀{L:Nat} {t:Tr L} {n0:NO} {X S:Nat->Prop} {acc:List Vn} {P:List Nat} {w:World},WkI J B c h G bb V X S acc P w->AH w tb c.a r->¬X tb->DM X w n0->(n0.page=t.page/\n0.level=L/\n0.ens=t.ens)->CJ t->Rep (FF h G) t->(P++t.pages).Nodup->acc.length+t.vis.length<=4096 ->
  Calls Tryz.prog 127 #[.pointer (some ⟨tb,0,none⟩),n0.ptr,.pointer (some ⟨bb,0,none⟩),U4 ab] w λe w'=>e=.returned (.tuple #[])/\I7 J B c h G bb V X w (acc++t.vis) (P++t.pages) w'
 | 0,t,n0,X,S,acc,P,w,I,ht,htX,hn,his,htd,hR,hnd,hfew=>by
  rw[PS]at hfew ⊢
  have:=MJ (av:=λ_=>acc++[(t.page,0,t.ens.length)]) (pv:=λ_=>P++[t.page]) hV hC (λh0=>absurd h0 (by rw[his.2.1];omega)) I ht htX hn (by rw[his.2.2];exact htd.2.1) (by simp at hfew;omega) (by rw[his.1,his.2.1,his.2.2]) (by rw[his.1])
  exact this
 | L+1,t,n0,X,S,acc,P,w,I,ht,htX,hn,his,htd,hR,hnd,hfew=>by
  have htk:=(AL.1 htd.1).1;have hlen:n0.ens.length=t.ks.length:=by rw[his.2.2,AZ,List.length_map]
  have hstep:=MJ (av:=λi=>(acc++[(t.page,L+1,t.ens.length)])++IJ (t.ks.take i)) (pv:=λi=>(P++[t.page])++pgK (t.ks.take i)) hV hC (λ_=>?_) I ht htX hn (by rw[his.2.2];exact htd.2.1) (by rw[FL]at hfew;simp at hfew;omega) (by rw[his.1,his.2.1,his.2.2];simp[IJ]) (by rw[his.1];simp[pgK])
  ·rw[if_neg (by rw[his.2.1];omega),hlen,List.take_length,List.append_assoc,List.append_assoc,List.singleton_append,List.singleton_append,<-FL,<-AQ]at hstep
   exact hstep
  ·intro i e X' S' W he I' ht' htX' hn';have hi:i<t.ks.length:=by
    have:=(List.getElem?_eq_some_iff.1 he).1
    rw[his.2.2,AZ,List.length_map]at this;exact this
   obtain⟨y,hy⟩:∃y,y=t.ks[i]:=⟨_,rfl⟩;have hek:e=kEn y:=by
    rw[his.2.2,AZ,List.getElem?_map,List.getElem?_eq_getElem hi,<-hy]at he;exact (Option.some.inj he).symm
   subst hek;have hym:y ∈ t.ks:=by rw[hy];exact List.getElem_mem _
   have hty:=htk.2 y hym;obtain⟨q1,q2,q3⟩:=(hR.kid y hym).at_;have hp:=I'.act.has_lt q1;have hc:(kEn y).child=y.2.page:=CV y (by omega)
   have hsplit:t.ks=t.ks.take i++([y]++t.ks.drop (i+1)):=by
    rw[hy,List.singleton_append,<-List.drop_eq_getElem_cons hi,List.take_append_drop]
   have htake:t.ks.take (i+1)=t.ks.take i++[y]:=by rw[hy];exact List.take_succ_eq_append_getElem hi
   have hnd2:(((P++[t.page])++pgK (t.ks.take i))++y.2.pages).Nodup:=by
    have h1:P++t.pages=(((P++[t.page])++pgK (t.ks.take i))++y.2.pages)++pgK (t.ks.drop (i+1)):=by
     rw[AQ];conv=>lhs;rw[hsplit]
     rw[A8,A8,OY];simp
    rw[h1,List.nodup_append]at hnd;exact hnd.1
   have hfew2:((acc++[(t.page,L+1,t.ens.length)])++IJ (t.ks.take i)).length+y.2.vis.length<=4096:=by
    have h1:acc++t.vis=(((acc++[(t.page,L+1,t.ens.length)])++IJ (t.ks.take i))++y.2.vis)++IJ (t.ks.drop (i+1)):=by
     rw[FL];conv=>lhs;rw[hsplit]
     rw[F8,F8,JP];simp
    have h2:=congrArg List.length h1;rw[List.length_append,List.length_append,List.length_append]at h2;omega
   refine⟨rfl,by rw[hc];exact hp.2,λhm=>?_,?_⟩
   ·rw[hc]at hm;exact (List.nodup_append.1 hnd2).2.2 _ hm _ (AS y.2) rfl
   ·refine (GH I'.act ht' _ n0 hn'.1 (λhs=>hn'.2.1 (I'.sub _ hs)) i (kEn y) he rfl L y.2.ens his.2.1 (by rw[hc];exact q1) (by rw[hc];exact q2) q3).mono ?_
    rintro e w5 ⟨yn,S5,rfl,hL⟩;obtain⟨I5,hT5⟩:=I'.acted hV hL.act hL.turn;refine⟨yn.blk,rfl,?_⟩;refine (N9 hV hC I5 (ht'.kept hL.turn.1 (λhs=>htX' (I'.sub _ hs))) (hT5.not ht'.lt htX') (hL.nodeX I'.lt) ⟨hL.info.1.trans hc,hL.info.2.1,hL.info.2.2.1⟩ hty (hR.kid y hym) hnd2 hfew2).mono ?_
    rintro e w6 ⟨rfl,X6,S6,I6,hT6⟩;refine⟨rfl,X6,S6,?_,hT5.trans hT6⟩;dsimp only
    rw[htake,F8,JP,A8,OY,<-List.append_assoc,<-List.append_assoc];exact I6
end
theorem QZ:Tryz.prog.built 197 []=some (Array.replicate 4096 (.bool false)):=by kernel_rfl
theorem AF2 (w:World):K6 w.heap.size [] (w.alloc (.cells (Array.replicate 4096 (.bool false)) 197)) :=
 ⟨_,heap_alloc_new w _,λq hq=>by simp[hq]⟩
section
variable {J:List AD->Prop} {B:Nat} {S:Nat->Prop} {c:Ac} {h:Hd} {G:Nat->List UInt8} {w:World} {tb r ab:Nat} {F:List En} {ps:List Nat} {V:List Vn->(Nat->Prop)->World->Prop}
theorem VX {X:Nat->Prop}{n0:NO}{W:World}{bv tv fv:Value}(hn:AM X W n0)(he:n0.ens=[]):Calls Tryz.prog 127 #[tv,n0.ptr,bv,fv] W λe w'=>e=.returned (.tuple #[])/\w'=W:=by
 have c2:=hn.c2;rw[he]at c2;have c2':W.cell? ⟨n0.blk,2,none⟩=some (.slice n0.arr 0 n0.cap):=c2;unfold NO.ptr;clear hn he c2;go_enter Tryz.func127,Tryz.ntmps127;go_wp2;exact bodyPost_ret (v:=.tuple #[]) (by simp[results,Tryz.results127,go_sem]) rfl ⟨rfl,rfl⟩
def VT (J:List AD->Prop)(B:Nat)(S:Nat->Prop)(c:Ac)(h:Hd)(G:Nat->List UInt8)(ab:Nat)(F:List En)(ps:List Nat)(V:List Vn->(Nat->Prop)->World->Prop)(w w':World):Prop :=
 ∃(X' S':Nat->Prop) (acc:List Vn) (Z':Nat->Prop),AU J B S' c h G w'/\AO (λk=>S k\/k=ab) w X' w'/\(∀k,S' k->X' k)/\V acc Z' w'/\(∀k,Z' k->X' k/\¬S' k)/\acc.map (·.1)=ps/\E7 acc=F.length
theorem AL2 (hV:NZ V)(hC:XW V ab)(x:AU J B S c h G w)(ht:AH w tb c.a r)(htS:¬S tb)(htab:tb≠ab)(hr16:r<16)(on:AY h G (h.root r) F ps)(hv:V [] (λk=>k=ab) w)(hab:¬S ab) :
  Calls Tryz.prog 86 #[.pointer (some ⟨tb,0,none⟩),U4 ab] w λe w'=>e=.returned (.tuple #[])/\VT J B S c h G ab F ps V w w':=by
 have HTOP:=yH (F9 x ht hr16);have hab1:=hV.lt hv ab rfl;have hlow:=x.low;have HLD:Hid (∀k,Calls Tryz.prog 75 #[.pointer (some ⟨tb,0,none⟩),.int .i64 (h.root r)] (w.drewN k) λe w2=>∃yb:Nat,e=.returned (.pointer (some ⟨yb,0,none⟩))/\Hid (Calls Tryz.prog 127 #[.pointer (some ⟨tb,0,none⟩),.pointer (some ⟨yb,0,none⟩),.pointer (some ⟨w2.heap.size,0,none⟩),.func (.func 87) #[] #[.pointer (some ⟨ab,0,none⟩)]] (w2.alloc (.cells (Array.replicate 4096 (.bool false)) 197)) λe w3=>e=.returned (.tuple #[])/\Hid (VT J B S c h G ab F ps V w w3))):=yH λk=>by
  have hbk:Below w.heap.size w (w.drewN k):=AF w k;have xk:=x.below hbk;have htk:=ht.below hbk;rcases on.is with⟨rfl,h0,rfl⟩|⟨m,t,hr,ho,rfl,hpg,rfl,hrep⟩
  ·rw[h0];refine (KQ xk htk).mono ?_;rintro e w2 ⟨rfl,rfl⟩;refine⟨_,rfl,yH ?_⟩;obtain⟨w2,hw2⟩:∃w2,w2=(w.drewN k).alloc (.cells (BA (w.drewN k).heap.size 0).cells 138):=⟨_,rfl⟩;rw[<-hw2];have hn:AM (λ_=>True) w2 (BA (w.drewN k).heap.size 0):=by rw[hw2];exact OU _ 0 (by omega) _ trivial
   have hb2:Below w.heap.size w w2:=by rw[hw2];exact hbk.trans (((Below.refl _ _).alloc (Nat.le_refl _) _).mono hbk.size)
   have hb3:Below w2.heap.size w2 (w2.alloc (.cells (Array.replicate 4096 (.bool false)) 197)):=(Below.refl _ _).alloc (Nat.le_refl _) _;have hb:Below w.heap.size w (w2.alloc (.cells (Array.replicate 4096 (.bool false)) 197)):=hb2.trans (hb3.mono hb2.size);refine (VX (hn.below hb3) rfl).mono ?_;rintro e w3 ⟨rfl,rfl⟩;refine⟨rfl,yH ⟨λk=>S k\/k=ab,S,[],λk=>k=ab,x.below hb,AO.ofBelow hb,λk hk=>.inl hk,hV.kept hv (AC.ofBelow (S:=λ_=>False) hb) (λ_ _ h=>h.elim),λk e=>⟨.inr e,e ▸ hab⟩,rfl,rfl⟩⟩
  ·obtain⟨q1,q2,q3⟩:=hrep.at_;rw[<-hpg];refine (KR xk htk t.page m t.ens q1 q2 q3).mono ?_;rintro e w2 ⟨y,S2,rfl,hL⟩;refine⟨y.blk,rfl,yH ?_⟩;obtain⟨w3,hw3⟩:∃w3,w3=w2.alloc (.cells (Array.replicate 4096 (.bool false)) 197):=⟨_,rfl⟩;have hbe:K6 w2.heap.size [] w3:=by rw[hw3];exact AF2 w2
   have hb3:Below w2.heap.size w2 w3:=by rw[hw3];exact (Below.refl _ _).alloc (Nat.le_refl _) _
   rw[<-hw3];have hT2:AO S w S2 w2:=(AO.ofBelow hbk).trans hL.turn;have hz2:=hT2.1.size;have hlow2:=hL.act.low;have hab2:¬S2 ab:=hT2.not hab1.2 hab;have hv2:V [] (λk=>k=ab) w2:=hV.kept hv hT2.1 (λk _ hs e=>hab (e ▸ hs))
   have hX:∀k,(k=ab\/S2 k)->k<w2.heap.size:=λk hk=>hk.elim (λe=>by omega) (λhs=>(hlow2 k hs).2)
   have hnX:DM (λk=>k=ab\/S2 k) w2 y:=by
    have:=hL.nodeX (X:=λk=>k=ab) (λj e=>by show j<w.heap.size;omega)
    exact this
   have hT3:AO (λk=>k=ab\/S2 k) w2 (λk=>(k=ab\/S2 k)\/k=w2.heap.size) w3:=⟨AC.ofBelow hb3,λk hk hx=>hx.elim id (λe=>by omega)⟩
   have hz3:w3.heap.size=w2.heap.size+1:=by rw[hw3];simp
   have I:WkI J B c h G w2.heap.size V (λk=>(k=ab\/S2 k)\/k=w2.heap.size) S2 [] [] w3:=⟨hL.act.below hb3,λk hk=>.inl (.inr hk),λk hk=>hk.elim (λhk=>by have:=hX k hk;omega) (λe=>by omega),⟨hbe,.inr rfl,λhs=>by have:=(hlow2 _ hs).2;omega,by omega⟩,λk=>k=ab,hV.kept hv2 (AC.ofBelow (S:=λ_=>False) hb3) (λ_ _ h=>h.elim),λk e=>⟨.inl (.inl e),e ▸ hab2,by omega⟩⟩
   have htb:tb<w2.heap.size:=Nat.lt_of_lt_of_le htk.lt hL.turn.1.size;have ht3:AH w3 tb c.a r:=(htk.kept hL.turn.1 htS).below hb3;have hfew:t.vis.length<=4096:=by
    have h1:t.vis.length=t.pages.length:=by rw[<-GU,List.length_map]
    have h2:t.pages.length<=4096:=by
     have:=List.Nodup.length_le_of_subset (l₁:=t.pages) (l₂:=List.range 4096) on.nodup (λq hq=>List.mem_range.2 (x.has_lt (on.has q hq)).2)
     simpa using this
    omega
   refine (N9 hV hC I ht3 (λhx=>?_) (hnX.turn hT3) ⟨hL.info.1,hL.info.2.1,hL.info.2.2.1⟩ hr.1 hrep (by simpa using on.nodup) (by simpa using hfew)).mono ?_
   ·rcases hx with (e|hs)|e
    ·exact htab e
    ·exact hL.turn.not htk.lt htS hs
    ·omega
   ·rintro e w4 ⟨rfl,X4,S4,I4,hT4⟩;obtain⟨Z4,v1,v2⟩:=I4.vis;refine⟨rfl,yH ⟨X4,S4,[]++t.vis,Z4,I4.act,?_,I4.sub,v1,λk hk=>⟨(v2 k hk).1,(v2 k hk).2.1⟩,by simpa using GU,by simpa using NJ t⟩⟩
    refine⟨(hT2.1.trans (AC.ofBelow (S:=λk=>S k) hb3) (λ_ e=>.inl e)).mono (λk hk=>.inl hk) |>.trans hT4.1 (λk hk=>?_),λk hl hk=>?_⟩
    ·rcases hk with (e|hs)|e
     ·exact .inl (.inr e)
     ·rcases Nat.lt_or_ge k w.heap.size with h1|h1
      ·exact .inl (.inl (hT2.2 k h1 hs))
      ·exact .inr h1
     ·exact .inr (by omega)
    ·rcases hT4.2 k (by omega) hk with (e|hs)|e
     ·exact .inr e
     ·exact .inl (hT2.2 k hl hs)
     ·omega
 obtain⟨rt,hrt⟩:∃rt,rt=h.root r:=⟨_,rfl⟩;rw[<-hrt]at HTOP HLD;obtain⟨Z,hZd⟩:∃Z:Array Value,Z=Array.replicate 4096 (.bool false):=⟨_,rfl⟩;have hbt:=QZ;rw[<-hZd]at HLD hbt;have HBT:=yH hbt;unfold U4;clear x ht htS on hrt hv hab hab1 hlow hV hC htab hZd hbt;go_enter Tryz.func86,Tryz.ntmps86;go_wp2_with fail;refine HTOP.out.mono ?_;rintro e w1 ⟨rfl,k,rfl⟩;clear HTOP;have HL:=yH (HLD.out k);clear HLD;go_wp2_with fail;refine HL.out.mono ?_;rintro e w2 ⟨yb,rfl,HWK⟩;clear HL;go_wp2_with (refine BK rfl (.agg Z) (CT rfl [] (by simp[go_sem]) Z HBT.out _) ?_)
 clear HBT;refine HWK.out.mono ?_;rintro e w3 ⟨rfl,HE⟩;clear HWK;go_wp2;go_end0
 exact⟨rfl,HE.out⟩
end
section
variable {J:List AD->Prop} {B:Nat} {S:Nat->Prop} {c:Ac} {h:Hd} {G:Nat->List UInt8} {w:World} {tb r ab:Nat} {F:List En} {ps:List Nat} {V:List Vn->(Nat->Prop)->World->Prop}
theorem PR {X:Nat->Prop}{n0:NO}{W:World}{bv tv fv:Value}(hn:AM X W n0)(he:n0.ens=[]):Calls Tryz.prog 127 #[tv,n0.ptr,bv,fv] W λe w'=>e=.returned (.tuple #[])/\w'=W:=by
 have c2:=hn.c2;rw[he]at c2;have c2':W.cell? ⟨n0.blk,2,none⟩=some (.slice n0.arr 0 n0.cap):=c2;unfold NO.ptr;clear hn he c2;go_enter Tryz.func127,Tryz.ntmps127;go_wp2;exact bodyPost_ret (v:=.tuple #[]) (by simp[results,Tryz.results127,go_sem]) rfl ⟨rfl,rfl⟩
def OO (J:List AD->Prop)(B:Nat)(S:Nat->Prop)(c:Ac)(h:Hd)(G:Nat->List UInt8)(ab:Nat)(F:List En)(ps:List Nat)(V:List Vn->(Nat->Prop)->World->Prop)(w w':World):Prop :=
 ∃(X' S':Nat->Prop) (acc:List Vn) (Z':Nat->Prop),AU J B S' c h G w'/\AO (λk=>S k\/k=ab) w X' w'/\(∀k,S' k->X' k)/\V acc Z' w'/\(∀k,Z' k->X' k/\¬S' k)/\acc.map (·.1)=ps/\E7 acc=F.length
theorem XM (hV:NZ V)(hC:N0 V ab)(x:AU J B S c h G w)(ht:AH w tb c.a r)(htS:¬S tb)(htab:tb≠ab)(hr16:r<16)(on:AY h G (h.root r) F ps)(hv:V [] (λk=>k=ab) w)(hab:¬S ab) :
  Calls Tryz.prog 86 #[.pointer (some ⟨tb,0,none⟩),KU ab] w λe w'=>e=.returned (.tuple #[])/\OO J B S c h G ab F ps V w w':=by
 have HTOP:=yH (F9 x ht hr16);have hab1:=hV.lt hv ab rfl;have hlow:=x.low;have HLD:Hid (∀k,Calls Tryz.prog 75 #[.pointer (some ⟨tb,0,none⟩),.int .i64 (h.root r)] (w.drewN k) λe w2=>∃yb:Nat,e=.returned (.pointer (some ⟨yb,0,none⟩))/\Hid (Calls Tryz.prog 127 #[.pointer (some ⟨tb,0,none⟩),.pointer (some ⟨yb,0,none⟩),.pointer (some ⟨w2.heap.size,0,none⟩),.func (.func 88) #[] #[.pointer (some ⟨ab,0,none⟩)]] (w2.alloc (.cells (Array.replicate 4096 (.bool false)) 197)) λe w3=>e=.returned (.tuple #[])/\Hid (OO J B S c h G ab F ps V w w3))):=yH λk=>by
  have hbk:Below w.heap.size w (w.drewN k):=AF w k;have xk:=x.below hbk;have htk:=ht.below hbk;rcases on.is with⟨rfl,h0,rfl⟩|⟨m,t,hr,ho,rfl,hpg,rfl,hrep⟩
  ·rw[h0];refine (KQ xk htk).mono ?_;rintro e w2 ⟨rfl,rfl⟩;refine⟨_,rfl,yH ?_⟩;obtain⟨w2,hw2⟩:∃w2,w2=(w.drewN k).alloc (.cells (BA (w.drewN k).heap.size 0).cells 138):=⟨_,rfl⟩;rw[<-hw2];have hn:AM (λ_=>True) w2 (BA (w.drewN k).heap.size 0):=by rw[hw2];exact OU _ 0 (by omega) _ trivial
   have hb2:Below w.heap.size w w2:=by rw[hw2];exact hbk.trans (((Below.refl _ _).alloc (Nat.le_refl _) _).mono hbk.size)
   have hb3:Below w2.heap.size w2 (w2.alloc (.cells (Array.replicate 4096 (.bool false)) 197)):=(Below.refl _ _).alloc (Nat.le_refl _) _;have hb:Below w.heap.size w (w2.alloc (.cells (Array.replicate 4096 (.bool false)) 197)):=hb2.trans (hb3.mono hb2.size);refine (PR (hn.below hb3) rfl).mono ?_;rintro e w3 ⟨rfl,rfl⟩;refine⟨rfl,yH ⟨λk=>S k\/k=ab,S,[],λk=>k=ab,x.below hb,AO.ofBelow hb,λk hk=>.inl hk,hV.kept hv (AC.ofBelow (S:=λ_=>False) hb) (λ_ _ h=>h.elim),λk e=>⟨.inr e,e ▸ hab⟩,rfl,rfl⟩⟩
  ·obtain⟨q1,q2,q3⟩:=hrep.at_;rw[<-hpg];refine (KR xk htk t.page m t.ens q1 q2 q3).mono ?_;rintro e w2 ⟨y,S2,rfl,hL⟩;refine⟨y.blk,rfl,yH ?_⟩;obtain⟨w3,hw3⟩:∃w3,w3=w2.alloc (.cells (Array.replicate 4096 (.bool false)) 197):=⟨_,rfl⟩;have hbe:K6 w2.heap.size [] w3:=by rw[hw3];exact AF2 w2
   have hb3:Below w2.heap.size w2 w3:=by rw[hw3];exact (Below.refl _ _).alloc (Nat.le_refl _) _
   rw[<-hw3];have hT2:AO S w S2 w2:=(AO.ofBelow hbk).trans hL.turn;have hz2:=hT2.1.size;have hlow2:=hL.act.low;have hab2:¬S2 ab:=hT2.not hab1.2 hab;have hv2:V [] (λk=>k=ab) w2:=hV.kept hv hT2.1 (λk _ hs e=>hab (e ▸ hs))
   have hX:∀k,(k=ab\/S2 k)->k<w2.heap.size:=λk hk=>hk.elim (λe=>by omega) (λhs=>(hlow2 k hs).2)
   have hnX:DM (λk=>k=ab\/S2 k) w2 y:=by
    have:=hL.nodeX (X:=λk=>k=ab) (λj e=>by show j<w.heap.size;omega)
    exact this
   have hT3:AO (λk=>k=ab\/S2 k) w2 (λk=>(k=ab\/S2 k)\/k=w2.heap.size) w3:=⟨AC.ofBelow hb3,λk hk hx=>hx.elim id (λe=>by omega)⟩
   have hz3:w3.heap.size=w2.heap.size+1:=by rw[hw3];simp
   have I:WkI J B c h G w2.heap.size V (λk=>(k=ab\/S2 k)\/k=w2.heap.size) S2 [] [] w3:=⟨hL.act.below hb3,λk hk=>.inl (.inr hk),λk hk=>hk.elim (λhk=>by have:=hX k hk;omega) (λe=>by omega),⟨hbe,.inr rfl,λhs=>by have:=(hlow2 _ hs).2;omega,by omega⟩,λk=>k=ab,hV.kept hv2 (AC.ofBelow (S:=λ_=>False) hb3) (λ_ _ h=>h.elim),λk e=>⟨.inl (.inl e),e ▸ hab2,by omega⟩⟩
   have htb:tb<w2.heap.size:=Nat.lt_of_lt_of_le htk.lt hL.turn.1.size;have ht3:AH w3 tb c.a r:=(htk.kept hL.turn.1 htS).below hb3;have hfew:t.vis.length<=4096:=by
    have h1:t.vis.length=t.pages.length:=by rw[<-GU,List.length_map]
    have h2:t.pages.length<=4096:=by
     have:=List.Nodup.length_le_of_subset (l₁:=t.pages) (l₂:=List.range 4096) on.nodup (λq hq=>List.mem_range.2 (x.has_lt (on.has q hq)).2)
     simpa using this
    omega
   refine (K7 hV hC I ht3 (λhx=>?_) (hnX.turn hT3) ⟨hL.info.1,hL.info.2.1,hL.info.2.2.1⟩ hr.1 hrep (by simpa using on.nodup) (by simpa using hfew)).mono ?_
   ·rcases hx with (e|hs)|e
    ·exact htab e
    ·exact hL.turn.not htk.lt htS hs
    ·omega
   ·rintro e w4 ⟨rfl,X4,S4,I4,hT4⟩;obtain⟨Z4,v1,v2⟩:=I4.vis;refine⟨rfl,yH ⟨X4,S4,[]++t.vis,Z4,I4.act,?_,I4.sub,v1,λk hk=>⟨(v2 k hk).1,(v2 k hk).2.1⟩,by simpa using GU,by simpa using NJ t⟩⟩
    refine⟨(hT2.1.trans (AC.ofBelow (S:=λk=>S k) hb3) (λ_ e=>.inl e)).mono (λk hk=>.inl hk) |>.trans hT4.1 (λk hk=>?_),λk hl hk=>?_⟩
    ·rcases hk with (e|hs)|e
     ·exact .inl (.inr e)
     ·rcases Nat.lt_or_ge k w.heap.size with h1|h1
      ·exact .inl (.inl (hT2.2 k h1 hs))
      ·exact .inr h1
     ·exact .inr (by omega)
    ·rcases hT4.2 k (by omega) hk with (e|hs)|e
     ·exact .inr e
     ·exact .inl (hT2.2 k hl hs)
     ·omega
 obtain⟨rt,hrt⟩:∃rt,rt=h.root r:=⟨_,rfl⟩;rw[<-hrt]at HTOP HLD;obtain⟨Z,hZd⟩:∃Z:Array Value,Z=Array.replicate 4096 (.bool false):=⟨_,rfl⟩;have hbt:=QZ;rw[<-hZd]at HLD hbt;have HBT:=yH hbt;unfold KU;clear x ht htS on hrt hv hab hab1 hlow hV hC htab hZd hbt;go_enter Tryz.func86,Tryz.ntmps86;go_wp2_with fail;refine HTOP.out.mono ?_;rintro e w1 ⟨rfl,k,rfl⟩;clear HTOP;have HL:=yH (HLD.out k);clear HLD;go_wp2_with fail;refine HL.out.mono ?_;rintro e w2 ⟨yb,rfl,HWK⟩;clear HL;go_wp2_with (refine BK rfl (.agg Z) (CT rfl [] (by simp[go_sem]) Z HBT.out _) ?_)
 clear HBT;refine HWK.out.mono ?_;rintro e w3 ⟨rfl,HE⟩;clear HWK;go_wp2;go_end0
 exact⟨rfl,HE.out⟩
end
section
variable {J:List AD->Prop} {B:Nat} {S:Nat->Prop} {c:Ac} {h:Hd} {G:Nat->List UInt8} {w:World} {tb r:Nat} {F:List En} {ps:List Nat}
theorem AD6 {S' X':Nat->Prop}{W0 w1:World}(hb:Below w.heap.size w W0)(hT:AO (λk=>S k\/k=w.heap.size) W0 X' w1)(hs:∀k,S' k->X' k)(hA:AU J B S' c h G w1):BI J B S c h G w w1 :=
 ⟨S',⟨(AC.ofBelow (S:=S) hb).trans hT.1 (λk hk=>hk.elim .inl λe=>.inr (by omega)),λk hl hk=>(hT.2 k (Nat.lt_of_lt_of_le hl hb.size) (hs k hk)).elim id λe=>by omega⟩,hA⟩
theorem BP3 (x:AU J B S c h G w)(ht:AH w tb c.a r)(htS:¬S tb)(hr16:r<16)(on:AY h G (h.root r) F ps) :
  Calls Tryz.prog 41 #[.pointer (some ⟨tb,0,none⟩)] w λe w'=>e=.returned (.int .i64 F.length)/\BI J B S c h G w w':=by
 obtain⟨W0,hW0⟩:∃W0,W0=w.alloc (.cells #[.int .i64 0] 3):=⟨_,rfl⟩;have hb0:Below w.heap.size w W0:=by rw[hW0];exact (Below.refl _ _).alloc (Nat.le_refl _) _
 have HEA:Hid (Calls Tryz.prog 86 #[.pointer (some ⟨tb,0,none⟩),.func (.func 87) #[] #[.pointer (some ⟨w.heap.size,0,none⟩)]] W0 λe w1=>e=.returned (.tuple #[])/\w1.cell? ⟨w.heap.size,0,none⟩=some (.int .i64 F.length)/\Hid (BI J B S c h G w w1)):=yH (by
  have hv:AY6 w.heap.size [] (λk=>k=w.heap.size) W0:=⟨by rw[hW0];exact heap_alloc_new w _,by simp[E7],x.tab.1.1,rfl⟩
  have hlt:=ht.lt;refine (AL2 (BV8 _) (λacc Z X W n h1 h2 h3=>BV9 _ acc Z X W n h1 h2 h3) (x.below hb0) (ht.below hb0) htS (by omega) hr16 on hv (λhs=>by have:=(x.low _ hs).2;omega)).mono ?_
  rintro e w1 ⟨rfl,X',S',acc,Z',hA,hT,hs,⟨h1,_⟩,_,_,hc⟩;refine⟨rfl,?_,yH (AD6 hb0 hT hs hA)⟩;rw[yC h1,hc];rfl)
 obtain⟨n,hn⟩:∃n,n=F.length:=⟨_,rfl⟩;rw[<-hn]at HEA ⊢
 clear x ht htS on hn hb0;go_enter Tryz.func41,Tryz.ntmps41;go_wp2_with fail;rw[<-hW0];refine HEA.out.mono ?_;rintro e w1 ⟨rfl,c1,HE⟩;clear HEA hW0;go_wp2;go_ret;exact⟨rfl,HE.out⟩
end
section
variable {J:List AD->Prop} {B:Nat} {S:Nat->Prop} {c:Ac} {h:Hd} {G:Nat->List UInt8} {w:World} {tb r:Nat} {F:List En} {ps:List Nat}
def X0 (J:List AD->Prop)(B:Nat)(S:Nat->Prop)(c:Ac)(h:Hd)(G:Nat->List UInt8)(ps:List Nat)(A:Option Addr)(n:Nat)(w w':World):Prop :=
 ∃(l:List Nat) (S':Nat->Prop),l.Perm ps/\l.length=n/\AU J B S' c h G w'/\AO S w S' w'/\∀(i q:Nat),l[i]? = some q->∃g,A=some ⟨g,0,none⟩/\w'.cell? ⟨g,i,none⟩=some (.int .i64 q)/\¬S' g/\g<w'.heap.size
open Go.Sort in
theorem AJ0 {S' X' Z':Nat->Prop}{acc:List Vn}{W0 w1:World}(hb:Below w.heap.size w W0)(hT:AO (λk=>S k\/k=w.heap.size) W0 X' w1)(hs:∀k,S' k->X' k)(hA:AU J B S' c h G w1)(hv:ME w.heap.size acc Z' w1)(hZ:∀k,Z' k->X' k/\¬S' k)(hps:acc.map (·.1)=ps)(hn:acc.length<=5000) :
  ∃(A:Option Addr) (n cc:Nat),w1.cell? ⟨w.heap.size,0,none⟩=some (.slice A n cc)/\Calls Tryz.prog 89 #[.slice A n cc] w1 λe w2=>e=.returned (.tuple #[])/\w2.cell? ⟨w.heap.size,0,none⟩=some (.slice A n cc)/\X0 J B S c h G ps A n w w2:=by
 obtain⟨v,h1,h2,h3,h4,rfl⟩:=hv;have hc1:w1.cell? ⟨w.heap.size,0,none⟩=some v:=by rw[yC h1];rfl
 obtain⟨S2,hT2,hA2⟩:BI J B S c h G w w1:=AD6 hb hT hs hA;rcases h2.2 with⟨rfl,h0⟩|⟨g,cap,cur,rfl,_,hg,hnc,hcm,hcs,htk⟩
 ·refine⟨none,0,0,hc1,(Tryz.slices_Sort_int_none none 0 _).mono ?_⟩;rintro e w2 ⟨rfl,rfl⟩;obtain rfl:acc=[]:=List.eq_nil_of_length_eq_zero h0;refine⟨rfl,hc1,[],S2,by rw[<-hps];exact List.Perm.refl _,rfl,hA2,hT2,λi q hq=>by cases hq⟩
 ·obtain⟨ks,hks⟩:∃ks:List Int,ks=acc.map λx=>(x.1:Int):=⟨_,rfl⟩
  have hpk:pgC acc=IZ ks:=by rw[hks];simp[pgC,IZ]
  have hkl:ks.length=acc.length:=by rw[hks];simp
  have hlt:g<w1.heap.size:=(Array.getElem?_eq_some_iff.1 hg).1;have htk':cur.toList.take ks.length=IZ ks:=by rw[<-hpk,<-htk,hkl,Nat.mul_one]
  obtain⟨so,hso⟩:∃so,so=ks.mergeSort λx y=>decide (x<=y):=⟨_,rfl⟩
  have hsl:so.length=ks.length:=by rw[hso];simp
  have hsp:so.Perm ks:=by rw[hso];exact List.mergeSort_perm _ _
  refine⟨some ⟨g,0,none⟩,acc.length,cap,hc1,?_⟩;have hsrt:=Tryz.slices_Sort_int g 0 cap ks w1 (AK7 hg htk') hlt (by omega)
  rw[hkl]at hsrt;refine hsrt.mono ?_;rintro e w2 ⟨rfl,nn,os,hw2⟩;rw[<-hso]at hw2;obtain⟨s1,s2,s3⟩:=ZT (n:=nn) (os:=os) (l:=so) hg (by omega)
  rw[<-hw2]at s1 s2 s3;have hk2:AC (λk=>k=g) w1 w2:=⟨s2.os,s2.tape,s2.output,s2.size,λk hk hne=>s2.block k hk (λe=>hne (Option.some.inj e))⟩
  have hgn:=h3 g rfl;have hgZ:=hZ g (.inr rfl);have hlb:w.heap.size<w1.heap.size:=(Array.getElem?_eq_some_iff.1 h1).1;refine⟨rfl,?_,so.map Int.toNat,S',?_,by rw[List.length_map];omega,hA.kept hk2 (λk e _=>⟨e ▸ hgZ.2,by have:=hgn.2;omega⟩),?_,λi q hq=>?_⟩
  ·rw[World.cell?_of_block (hk2.block w.heap.size hlb (λe=>hgn.1 e.symm))];exact hc1
  ·have h5:(so.map Int.toNat).Perm (ks.map Int.toNat):=hsp.map _;have h6:ks.map Int.toNat=ps:=by rw[hks,<-hps];simp
   rw[h6]at h5;exact h5
  ·refine⟨((AC.ofBelow (S:=S) hb).trans hT.1 (λk hk=>hk.elim .inl λe=>.inr (by omega))).trans hk2 (λk e=>?_),λk hl hk=>(hT.2 k (Nat.lt_of_lt_of_le hl hb.size) (hs k hk)).elim id λe=>by omega⟩
   subst e;rcases Nat.lt_or_ge k w.heap.size with hl|hl
   ·exact .inl ((hT.2 k (Nat.lt_of_lt_of_le hl hb.size) hgZ.1).elim id λe=>by omega)
   ·exact .inr hl
  ·rw[List.getElem?_map]at hq;cases hi:so[i]? with
   | none=>rw[hi]at hq;cases hq
   | some z =>
    rw[hi]at hq;have hq:z.toNat=q:=Option.some.inj hq;have hz:z ∈ ks:=hsp.mem_iff.1 (List.mem_of_getElem? hi);rw[hks]at hz;obtain⟨y,_,rfl⟩:=List.mem_map.1 hz;obtain rfl:y.1=q:=by simpa using hq
    refine⟨g,rfl,s1 i _ (by simp[IZ,hi]),hgZ.2,Nat.lt_of_lt_of_le hlt hk2.size⟩
theorem BE1 (x:AU J B S c h G w)(ht:AH w tb c.a r)(htS:¬S tb)(hr16:r<16)(on:AY h G (h.root r) F ps) :
  Calls Tryz.prog 42 #[.pointer (some ⟨tb,0,none⟩)] w λe w'=>∃(A:Option Addr) (n cc:Nat),e=.returned (.slice A n cc)/\X0 J B S c h G ps A n w w':=by
 obtain⟨W0,hW0⟩:∃W0,W0=w.alloc (.cells #[.slice none 0 0] 57):=⟨_,rfl⟩;have hb0:Below w.heap.size w W0:=by rw[hW0];exact (Below.refl _ _).alloc (Nat.le_refl _) _
 have HEA:Hid (Calls Tryz.prog 86 #[.pointer (some ⟨tb,0,none⟩),.func (.func 88) #[] #[.pointer (some ⟨w.heap.size,0,none⟩)]] W0 λe w1=>e=.returned (.tuple #[])/\∃(A:Option Addr) (n cc:Nat),w1.cell? ⟨w.heap.size,0,none⟩=some (.slice A n cc)/\Hid (Calls Tryz.prog 89 #[.slice A n cc] w1 λe w2=>e=.returned (.tuple #[])/\w2.cell? ⟨w.heap.size,0,none⟩=some (.slice A n cc)/\Hid (X0 J B S c h G ps A n w w2))):=yH (by
  have hv:ME w.heap.size [] (λk=>k=w.heap.size) W0:=⟨.slice none 0 0,by rw[hW0];exact heap_alloc_new w _,World.ownsRow_nil _ _ _ _,λg hg=>by simp[Value.ownBlock]at hg,x.tab.1.1,by funext k;simp[Value.ownBlock]⟩
  have hlt:=ht.lt;refine (XM (AZ6 _) (λacc Z X W n h1 h2 h3=>AZ7 _ acc Z X W n h1 h2 h3) (x.below hb0) (ht.below hb0) htS (by omega) hr16 on hv (λhs=>by have:=(x.low _ hs).2;omega)).mono ?_
  rintro e w1 ⟨rfl,X',S',acc,Z',hA,hT,hs,hv',hZ,hps,hc⟩;have hal:acc.length<=5000:=by
   have h1:acc.length=ps.length:=by rw[<-hps,List.length_map]
   have:=List.Nodup.length_le_of_subset (l₁:=ps) (l₂:=List.range 4096) on.nodup (λq hq=>List.mem_range.2 (x.has_lt (on.has q hq)).2)
   simp at this;omega
  obtain⟨A,n,cc,h5,h6⟩:=AJ0 hb0 hT hs hA hv' hZ hps hal;exact⟨rfl,A,n,cc,h5,yH (h6.mono λe w2 ⟨e1,e2,e3⟩=>⟨e1,e2,yH e3⟩)⟩)
 clear x ht htS on hb0;go_enter Tryz.func42,Tryz.ntmps42;go_wp2_with fail;rw[<-hW0];refine HEA.out.mono ?_;rintro e w1 ⟨rfl,A,n,cc,c1,HSO⟩;clear HEA hW0;go_wp2_with fail;refine HSO.out.mono ?_;rintro e w2 ⟨rfl,c2,HE⟩;clear HSO c1;go_wp2;go_ret;exact⟨A,n,cc,rfl,HE.out⟩
end
theorem AH3 (h:Hd)(q:Nat):(h.turn q).roots=h.roots:=rfl
theorem MO {h:Hd}(hnr:h.roots.length=16){r:Nat}(hr16:r<16)(top:Nat)(j:Nat):(h.setRoot r top).root j=if j=r then top else h.root j:=by
 unfold Hd.root Hd.setRoot;simp only[List.getD_eq_getElem?_getD,List.getElem?_set];by_cases hj:j=r
 ·subst hj;rw[if_pos rfl,if_pos rfl,if_pos (by omega)];rfl
 ·rw[if_neg (Ne.symm hj),if_neg hj]
section
variable {J:List AD->Prop} {B:Nat} {S:Nat->Prop} {c:Ac} {h:Hd} {G:Nat->List UInt8} {w wr:World} {tb r:Nat} {F:List En} {ps l:List Nat}
structure NF (J:List AD->Prop)(B:Nat)(S:Nat->Prop)(c:Ac)(h:Hd)(G:Nat->List UInt8)(l:List Nat)(A:Option Addr)(w:World)(i:Nat)(wr:World):Prop where
 st:∃(hi:Hd) (S':Nat->Prop),AU J B S' c hi G wr/\AO S w S' wr/\(∀q,hi.has q ↔ h.has q/\q ∉ l.take i)/\hi.roots=h.roots /\
  ∀(j q:Nat),l[j]? = some q->∃g,A=some ⟨g,0,none⟩/\wr.cell? ⟨g,j,none⟩=some (.int .i64 q)/\¬S' g/\g<wr.heap.size
theorem NF.round {A:Option Addr}{i:Nat}(I:NF J B S c h G l A w i wr)(hnd:l.Nodup)(hl:∀q ∈ l,h.has q)(hi:i<l.length) :
  ∃g q,A=some ⟨g,0,none⟩/\wr.cell? ⟨g,i,none⟩=some (.int .i64 q)/\Calls Tryz.prog 17 #[.pointer (some ⟨c.a,0,none⟩),.int .i64 q] wr λe w1=>e=.returned (.int .i64 0)/\NF J B S c h G l A w (i+1) w1:=by
 obtain⟨hh,S',hA,hT,hhas,hro,hrow⟩:=I.st;obtain⟨q,hq⟩:∃q,q=l[i]:=⟨_,rfl⟩;have hlq:l[i]? = some q:=by rw[hq];exact List.getElem?_eq_getElem hi
 obtain⟨g,hg1,hg2,_,_⟩:=hrow i q hlq;have hqm:q ∈ l:=by rw[hq];exact List.getElem_mem _
 have htk:l.take (i+1)=l.take i++[q]:=by rw[hq];exact List.take_succ_eq_append_getElem hi
 have hqn:q ∉ l.take i:=λhm=>by
  have h1:(l.take (i+1)).Nodup:=hnd.sublist (List.take_sublist _ _);rw[htk,List.nodup_append]at h1;exact h1.2.2 q hm q (by simp) rfl
 have hqh:hh.has q:=(hhas q).2 ⟨hl q hqm,hqn⟩;refine⟨g,q,hg1,hg2,(BI5 hA q hqh).mono ?_⟩;rintro e w1 ⟨rfl,S1,hT1,hA1⟩;refine⟨rfl,⟨_,S1,hA1,hT.trans hT1,λj=>?_,(AH3 hh q).trans hro,λj p hj=>?_⟩⟩
 ·rw[M5 hA.ok hqh,hhas,htk];simp only[List.mem_append,List.mem_singleton,not_or,and_assoc]
 ·obtain⟨g2,a1,a2,a3,a4⟩:=hrow j p hj;exact⟨g2,a1,(World.cell?_of_block (hT1.1.block g2 a4 a3)).trans a2,hT1.not a4 a3,Nat.lt_of_lt_of_le a4 hT1.1.size⟩
theorem BT3 (x:AU J B S c h G w)(ht:AH w tb c.a r)(htS:¬S tb)(hr16:r<16)(on:AY h G (h.root r) F ps) :
  Calls Tryz.prog 43 #[.pointer (some ⟨tb,0,none⟩)] w λe w'=>e=.returned (.int .i64 0)/\CN J B S c h G tb r ps [] w w':=by
 have HTOP:=yH (F9 x ht hr16);have HPG:Hid (∀k,Calls Tryz.prog 42 #[.pointer (some ⟨tb,0,none⟩)] (w.drewN k) λe w2=>∃(A:Option Addr) (n cc:Nat),e=.returned (.slice A n cc)/\∃l:List Nat,l.length=n/\n<=5000/\Hid (NF J B S c h G l A w 0 w2) /\
   Hid (∀i wr,NF J B S c h G l A w i wr->i<n->∃g q,A=some ⟨g,0,none⟩/\wr.cell? ⟨g,i,none⟩=some (.int .i64 q)/\wr.cell? ⟨tb,1,none⟩=some (.pointer (some ⟨c.a,0,none⟩))/\Hid (Calls Tryz.prog 17 #[.pointer (some ⟨c.a,0,none⟩),.int .i64 q] wr λe w1=>e=.returned (.int .i64 0)/\Hid (NF J B S c h G l A w (i+1) w1))) /\
   Hid (∀wr,NF J B S c h G l A w n wr->wr.cell? ⟨tb,1,none⟩=some (.pointer (some ⟨c.a,0,none⟩))/\wr.cell? ⟨tb,2,none⟩=some (.int .i64 r)/\∀W,Below wr.heap.size wr W->Calls Tryz.prog 18 #[.pointer (some ⟨c.a,0,none⟩),.int .i64 r,.int .i64 0] W λe w1=>e=.returned (.int .i64 0)/\CN J B S c h G tb r ps [] w w1)):=yH λk=>by
  have hbk:Below w.heap.size w (w.drewN k):=AF w k;refine (BE1 (x.below hbk) (ht.below hbk) htS hr16 on).mono ?_;rintro e w2 ⟨A,n,cc,rfl,l,S',hp,hn,hA,hT,hrow⟩;have hnd:l.Nodup:=hp.nodup_iff.2 on.nodup;have hlm:∀q ∈ l,h.has q:=λq hq=>on.has q (hp.mem_iff.1 hq)
  have htree:∀i wr,NF J B S c h G l A w i wr->AH wr tb c.a r:=λi wr I=>by
   obtain⟨_,_,_,hT,_⟩:=I.st;exact ht.kept hT.1 htS
  have h5:n<=5000:=by
   have:=List.Nodup.length_le_of_subset (l₁:=l) (l₂:=List.range 4096) hnd (λq hq=>List.mem_range.2 (x.has_lt (hlm q hq)).2)
   simp at this;omega
  refine⟨A,n,cc,rfl,l,hn,h5,yH ⟨h,S',hA,(AO.ofBelow hbk).trans hT,λq=>by simp,rfl,hrow⟩,yH λi wr I hi=>?_,yH λwr I=>?_⟩
  ·obtain⟨g,q,h1,h2,h3⟩:=I.round hnd hlm (by omega)
   exact⟨g,q,h1,h2,(htree i wr I).c1,yH (h3.mono λe w1 ⟨e1,e2⟩=>⟨e1,yH e2⟩)⟩
  ·have htr:=htree n wr I;refine⟨htr.c1,htr.c2,λW hb=>?_⟩
   obtain⟨hh,S2,hA2,hT2,hhas,hro,_⟩:=I.st;refine (R8 (hA2.below hb) r 0 hr16 (by omega)).mono ?_
   rintro e w1 ⟨rfl,S3,hT3,hA3⟩;have hnr:hh.roots.length=16:=hA2.ok.nr;have hT4:=(hT2.trans (AO.ofBelow hb)).trans hT3;refine⟨rfl,hh.setRoot r 0,G,S3,[],hA3,hT4,ht.kept hT4.1 htS,?_,⟨λq=>?_,λ_ _ _=>rfl,λj hj=>?_,λq hq=>by cases hq⟩⟩
   ·rw[MO hnr hr16,if_pos rfl];exact AY.none_ _ _
   ·have h6:(hh.setRoot r 0).has q ↔ hh.has q:=Iff.rfl;rw[h6,hhas,<-hn,List.take_length];simp[hp.mem_iff]
   ·rw[MO hnr hr16,if_neg hj];unfold Hd.root;rw[hro]
 obtain⟨rt,hrt⟩:∃rt,rt=h.root r:=⟨_,rfl⟩;rw[<-hrt]at HTOP;clear x ht htS on hrt;go_enter Tryz.func43,Tryz.ntmps43;go_wp2_with fail;refine HTOP.out.mono ?_;rintro e w1 ⟨rfl,k,rfl⟩;clear HTOP;have HP:=yH (HPG.out k);clear HPG;go_wp2_with fail;refine HP.out.mono ?_;rintro e w2 ⟨A,n,cc,rfl,l,hn,h5,HI0,HR,HF⟩;clear HP hn;go_wp2;go_loopw [18] (λv wr=>∃i:Nat,i<=n/\v=.int .i64 i/\Hid (NF J B S c h G l A w i wr)) (λv _=>n-(intOf v).toNat)
 case atStart=>exact⟨0,by omega,rfl,HI0⟩
 case round =>
  obtain⟨i,hi,rfl,HI⟩:=hrel;by_cases hin:i<n
  ·obtain⟨g,q,rfl,d1,d2,HFR⟩:=HR.out i wr HI.out hin;clear HR HF HI HI0;go_wp2_with fail;refine HFR.out.mono ?_;rintro e w3 ⟨rfl,HN⟩;clear HFR d1 d2;go_wp2;go_roundw
   case rel=>exact⟨i+1,by omega,by go_num,HN⟩
   case measure=>simp[intOf];omega
  ·obtain rfl:i=n:=by omega
   obtain⟨d1,d2,h7⟩:=HF.out wr HI.out;have HSR:=yH (h7 _ (Below.refl wr.heap.size wr).drew);clear HR HF HI HI0 h7;go_wp2;go_still_tail 8,(by kernel_rfl)
   go_wp2_with fail;refine HSR.out.mono ?_;rintro e w3 ⟨rfl,hp⟩;have HP:=yH hp;clear HSR hp d1 d2;go_wp2;go_ret;exact⟨rfl,HP.out⟩
end
section
variable {J:List AD->Prop} {B:Nat} {S X:Nat->Prop} {c:Ac} {h:Hd} {G:Nat->List UInt8} {w:World} {tb r:Nat}
theorem GE (o:Option En):∃(s1 s2:ByteArray) (bb:Bool),itV o=.agg #[.string s1,.string s2]/\o.isSome=bb:=by
 cases o with
 | none=>exact⟨_,_,_,rfl,rfl⟩
 | some e=>exact⟨_,_,_,rfl,rfl⟩
def CD3 (J:List AD->Prop)(B:Nat)(S:Nat->Prop)(c:Ac)(h:Hd)(G:Nat->List UInt8)(tb:Nat)(right:Bool)(o:Option En)(sts:List (NO × Nat))(gw j:Nat)(w wr:World):Prop :=
 ∃(xb a N cap:Nat) (arr:Option Addr),wr.cell? ⟨gw,j*2,none⟩=some (.pointer (some ⟨xb,0,none⟩))/\wr.cell? ⟨gw,j*2+1,none⟩=some (.int .i64 a)/\a<=512/\N<=512/\a<N/\(∀k,(wr.drewN k).cell? ⟨xb,2,none⟩=some (.slice arr N cap)) /\
  (((if right then a+1=N else a=0)/\Hid (∃(l p:Nat) (z:Zip l),RJ h G right o sts j z p)) \/
  ∃at_:Nat,(if right then at_=a+1 else at_+1=a)/\at_<N/\Hid (∀k,Calls Tryz.prog 114 #[.pointer (some ⟨tb,0,none⟩),.pointer (some ⟨xb,0,none⟩),.int .i64 at_] (wr.drewN k) λe w1=>∃yb:Nat,e=.returned (.pointer (some ⟨yb,0,none⟩)) /\
   Calls Tryz.prog 84 #[.pointer (some ⟨tb,0,none⟩),.pointer (some ⟨yb,0,none⟩),.int .i64 (if right then -1 else 1)] w1 λe w2=>∃(s1 s2:ByteArray) (bb:Bool),e=.returned (.tuple #[.agg #[.string s1,.string s2],.bool bb])/\Hid (itV o=.agg #[.string s1,.string s2]/\o.isSome=bb)/\w2.heap[w.heap.size]? = some itZ/\Hid (∀W,AC (λk=>k=w.heap.size) w2 W->BI J B S c h G w W)))
theorem RJ.round {right:Bool}{o:Option En}{sts:List (NO × Nat)}{j n gw cv l q:Nat}{z:Zip l}(x:AU J B S c h G w)(hw:AH w tb c.a r)(htS:¬S tb)(hN:DV X S w (sts.map (·.1)))(hs:BL w (.slice (some ⟨gw,0,none⟩) n cv) sts)(hlen:sts.length=n)(I:RJ h G right o sts (j+1) z q)(hj:j<n){wr:World}(hb:Below (w.heap.size+1) (w.alloc (.cells #[.string ⟨#[]⟩,.string ⟨#[]⟩] 89)) wr) :
  CD3 J B S c h G tb right o sts gw j w wr:=by
 obtain⟨y,a,h1,h2,h3,h4,h5,h6⟩:=I.up (by omega) hN
 have hb0:Below w.heap.size w (w.alloc (.cells #[.string ⟨#[]⟩,.string ⟨#[]⟩] 89)):=(Below.refl _ _).alloc (Nat.le_refl _) _;have hbw:Below w.heap.size w wr:=hb0.trans (hb.mono (by omega))
 have hrb:wr.heap[w.heap.size]? = some itZ:=(hb.block _ (by omega)).trans (heap_alloc_new w _)
 obtain⟨c1,c2⟩:=IM (AX hs hbw) h1;have hyn:=h3.below hbw;have h512:=h3.short.1;have hyk:∀k,(wr.drewN k).cell? ⟨y.blk,2,none⟩=some (.slice y.arr y.ens.length y.cap):=λk=>(h3.below (hbw.trans ((AF wr k).mono hbw.size))).c2
 refine⟨y.blk,a,y.ens.length,y.cap,y.arr,c1,c2,by omega,by omega,h2,hyk,?_⟩
 rcases h6 with⟨e1,z',p,I'⟩|⟨kd,e1,e2,e3,e4,e5⟩
 ·exact .inl ⟨e1,yH ⟨_,p,z',I'⟩⟩
 ·refine .inr ⟨if right then a+1 else a-1,?_,(List.getElem?_eq_some_iff.1 e2).1,yH λk=>?_⟩
  ·cases right with
   | true=>rfl
   | false =>
    have:1<=a:=e1
    show a-1+1=a;omega
  ·have hbk:Below w.heap.size w (wr.drewN k):=hbw.trans ((AF wr k).mono hbw.size);have xk:=x.below hbk;obtain⟨q1,q2,q3⟩:=e4.at_;have hp:=x.has_lt q1;have hc:(kEn kd).child=kd.2.page:=CV kd (by omega)
   refine (GH xk (hw.below hbk) X y (h3.below hbk) h4 _ (kEn kd) e2 rfl l kd.2.ens h5 (by rw[hc];exact q1) (by rw[hc];exact q2) q3).mono ?_
   rintro e w1 ⟨v,S1,rfl,hL⟩;refine⟨v.blk,rfl,?_⟩;have hT1:=(AO.ofBelow (S:=S) hbk).trans hL.turn;have htS1:¬S1 tb:=hT1.not hw.lt htS;have hrk:(wr.drewN k).heap[w.heap.size]? = some itZ:=hrb;have hrl:w.heap.size<(wr.drewN k).heap.size:=(Array.getElem?_eq_some_iff.1 hrk).1;have hnS:¬S w.heap.size:=λhs=>by have:=(x.low _ hs).2;omega
   have hr1:w1.heap[w.heap.size]? = some itZ:=(hL.turn.1.block _ hrl hnS).trans hrk;have hnS1:¬S1 w.heap.size:=hL.turn.not hrl hnS;have hz1:w.heap.size<w1.heap.size:=(Array.getElem?_eq_some_iff.1 hr1).1;have hpos:1<=w1.heap.size:=by omega
   refine (AP4 hpos hL.act ((hw.below hbk).kept hL.turn.1 htS) htS1 (hL.node S1 (λj hj=>.inr hj)) hL.new.2.2.1 ⟨hL.info.2.1,hL.info.2.2.1⟩ e3 e4 right _ rfl).mono ?_
   rintro e w2 ⟨rfl,S2,hT2,hA2⟩;rw[e5];obtain⟨s1,s2,bb,e6,e7⟩:=GE o;refine⟨s1,s2,bb,by rw[e6,e7],yH ⟨e6,e7⟩,(hT2.1.block _ hz1 hnS1).trans hr1,yH λW hk=>?_⟩
   exact IB x.tab.1.1 hA2 (hT1.trans hT2) ⟨(hT2.1.block _ hz1 hnS1).trans hr1,hT2.not hz1 hnS1,Nat.le_refl _⟩ hk
theorem AY2 {right:Bool}{o:Option En}{sts:List (NO × Nat)}{n gw cv l q:Nat}{z:Zip l}(x:AU J B S c h G w)(hw:AH w tb c.a r)(htS:¬S tb)(hN:DV X S w (sts.map (·.1)))(hs:BL w (.slice (some ⟨gw,0,none⟩) n cv) sts)(hlen:sts.length=n)(hn1:1<=n)(hn:n<=901)(I:RJ h G right o sts (n-1) z q)(sd:Int)(hsd:sd=if right then 1 else -1) :
  Calls Tryz.prog 83 #[.pointer (some ⟨tb,0,none⟩),.slice (some ⟨gw,0,none⟩) n cv,.int .i64 sd] w (BX J B S c h G o w):=by
 obtain⟨W0,hW0⟩:∃W0,W0=w.alloc (.cells #[.string ⟨#[]⟩,.string ⟨#[]⟩] 89):=⟨_,rfl⟩;have hz0:W0.heap.size=w.heap.size+1:=by rw[hW0];simp
 have HRD:Hid (∀(j:Nat) (wr:World),(∃(l q:Nat) (z:Zip l),RJ h G right o sts (j+1) z q)->j<n->Below W0.heap.size W0 wr->CD3 J B S c h G tb right o sts gw j w wr):=yH λj wr ⟨l,q,z,I⟩ hj hb=>I.round x hw htS hN hs hlen hj (by rw[<-hW0,<-hz0];exact hb)
 have HTOP:Hid (∀(wr:World),(∃(l q:Nat) (z:Zip l),RJ h G right o sts 0 z q)->Below W0.heap.size W0 wr->o=none/\DR w.heap.size ⟨#[]⟩ ⟨#[]⟩ wr λW=>BI J B S c h G w W):=yH λwr ⟨l,q,z,I⟩ hb=>by
  have ho:=BX8 (q:=q) (z:=z) (by have:=I.on;simpa using this) right
  have hrb:wr.heap[w.heap.size]? = some itZ:=(hb.block _ (by omega)).trans (by rw[hW0];exact heap_alloc_new w _)
  have hb0:Below w.heap.size w W0:=by rw[hW0];exact (Below.refl _ _).alloc (Nat.le_refl _) _
  have hbw:Below w.heap.size w wr:=hb0.trans (hb.mono (by omega))
  refine⟨I.o.symm.trans ho,FX hrb _ _ λW hk=>?_⟩
  exact IB x.tab.1.1 (x.below hbw) (AO.ofBelow hbw) ⟨hrb,λhs=>by have:=(x.low _ hs).2;omega,Nat.le_refl _⟩ hk
 have HI0:Hid (∃(l q:Nat) (z:Zip l),RJ h G right o sts (n-1) z q):=yH ⟨l,q,z,I⟩;have HSD:Hid (sd=1/\right=true\/sd=-1/\right=false):=yH (by cases right with
  | true=>exact .inl ⟨hsd,rfl⟩
  | false=>exact .inr ⟨hsd,rfl⟩)
 have f1:IntKind.i64.wrap ((n:Int)-2)=(n:Int)-2:=IntWalk.i64_in _ (by omega)
 obtain⟨rb,hrb⟩:∃rb,rb=w.heap.size:=⟨_,rfl⟩;have HRB:=yH hrb;clear x hw htS hN hs hlen I hsd hz0;go_enter Tryz.func83,Tryz.ntmps83;go_wp2;rw[<-hW0,<-hrb];clear hW0 hrb;go_loopw [8] (λi wr=>∃j:Nat,j<=n-1/\i=.int .i64 ((j:Int)-1)/\Hid (∃(l q:Nat) (z:Zip l),RJ h G right o sts j z q)/\Hid (Below W0.heap.size W0 wr)) (λi _=>(intOf i+1).toNat)
 case atStart=>exact⟨n-1,Nat.le_refl _,by congr 1;omega,HI0,yH (Below.refl _ _)⟩
 case round =>
  obtain⟨j,hj,rfl,HI,HB⟩:=hrel;cases j with
  | zero =>
   obtain⟨ho,hres⟩:=HTOP.out wr HI.out HB.out;rw[<-HRB.out]at hres;obtain⟨d1,d2,d3,d4,d5,d6,d7,HE⟩:=hres;have HO:=yH ho;clear ho HRD HTOP HI0 HI HB;go_wp2;refine bodyPost_ret (v:=.tuple #[.agg #[.string ⟨#[]⟩,.string ⟨#[]⟩],.bool false]) (by simp[results,Tryz.results83,go_sem,d6,d7]) rfl ⟨?_,HE.out⟩
   rw[HO.out];rfl
  | succ j =>
   obtain⟨xb,a,N,cap,arr,c1,c2,ha,hN5,haN,hc2,hcase⟩:=HRD.out j wr HI.out (by omega) HB.out
   have HCA:=yH hcase;clear hcase HI HI0 HTOP HRD;have g1:((j+1:Nat):Int)-1=(j:Int):=by omega
   have g2:(j:Int)<(n:Int):=by omega
   have g3:j<n:=by omega
   have g4:IntKind.i64.wrap ((a:Int)+1)=(a:Int)+1:=IntWalk.i64_in _ (by omega)
   have g5:IntKind.i64.wrap ((a:Int)+-1)=(a:Int)-1:=(IntWalk.i64_in _ (by omega)).trans (by omega)
   rw[g1];rcases HSD.out with⟨rfl,rfl⟩|⟨rfl,rfl⟩
   ·rcases HCA.out with⟨e1,HI⟩|⟨at_,e1,e2,HCL⟩
    ·have e1:a+1=N:=e1;clear HCA;go_wp2;go_quiet (fail);go_wp2;refine⟨⟨j,by omega,rfl,HI,yH (HB.out.trans ((AF wr _).mono HB.out.size))⟩,?_⟩
     simp[intOf]
    ·have e1:at_=a+1:=e1;subst e1;clear HCA;have g6:(a:Int)+1<(N:Int):=by omega
     have g7:((a+1:Nat):Int)=(a:Int)+1:=by omega
     rw[g7]at HCL;go_wp2;go_quiet (fail);go_wp2_with fail;refine (HCL.out _).mono ?_;rintro e w1 ⟨yb,rfl,hed⟩;have HED:=yH hed;clear hed HCL;go_wp2_with fail;refine HED.out.mono ?_;rintro e w2 ⟨s1,s2,bb,rfl,HIO,hr2,HP⟩;rw[<-HRB.out]at hr2;obtain⟨d1,d2,d3,d4,d5,d6,d7,HE⟩:=FX hr2 s1 s2 (Q:=λW=>BI J B S c h G w W) (λW hk=>HP.out W (by rw[<-HRB.out];exact hk))
     clear HED hr2 HP;go_wp2;exact bodyPost_ret (v:=.tuple #[.agg #[.string s1,.string s2],.bool bb]) (by simp[results,Tryz.results83,go_sem,d6,d7]) rfl ⟨by rw[HIO.out.1,HIO.out.2],HE.out⟩
   ·rcases HCA.out with⟨e1,HI⟩|⟨at_,e1,e2,HCL⟩
    ·have e1:a=0:=e1;subst e1;clear HCA;go_wp2;go_quiet (fail);go_wp2;refine⟨⟨j,by omega,rfl,HI,yH (HB.out.trans ((AF wr _).mono HB.out.size))⟩,?_⟩
     simp[intOf]
    ·have e1:at_+1=a:=e1;subst e1;clear HCA;have g6:(at_:Int)<(N:Int):=by omega
     have g7:((at_+1:Nat):Int)-1=(at_:Int):=by omega
     have g8:IntKind.i64.wrap ((at_:Int)+1+-1)=(at_:Int):=(IntWalk.i64_in _ (by omega)).trans (by omega)
     go_wp2;go_quiet (fail);go_wp2_with fail;refine (HCL.out _).mono ?_;rintro e w1 ⟨yb,rfl,hed⟩;have HED:=yH hed;clear hed HCL;go_wp2_with fail;refine HED.out.mono ?_;rintro e w2 ⟨s1,s2,bb,rfl,HIO,hr2,HP⟩;rw[<-HRB.out]at hr2;obtain⟨d1,d2,d3,d4,d5,d6,d7,HE⟩:=FX hr2 s1 s2 (Q:=λW=>BI J B S c h G w W) (λW hk=>HP.out W (by rw[<-HRB.out];exact hk))
     clear HED hr2 HP;go_wp2;exact bodyPost_ret (v:=.tuple #[.agg #[.string s1,.string s2],.bool bb]) (by simp[results,Tryz.results83,go_sem,d6,d7]) rfl ⟨by rw[HIO.out.1,HIO.out.2],HE.out⟩
end
section
variable {J:List AD->Prop} {B:Nat} {S:Nat->Prop} {c:Ac} {h:Hd} {G:Nat->List UInt8} {w W:World} {tb r:Nat} {key:List UInt8} {KA:Option Addr} {kn kc:Nat} {F:List En} {ps:List Nat}
structure AM5 (J:List AD->Prop)(B:Nat)(S:Nat->Prop)(c:Ac)(h:Hd)(G:Nat->List UInt8)(key:List UInt8)(F:List En)(w:World)(tb r:Nat)(b:Bool)(x0:NO)(at_ gw n cv:Nat)(S3 X3:Nat->Prop)(sts:List (NO × Nat))(w3:World):Prop where
 act:AU J B S3 c h G w3
 turn:AO S w S3 w3
 tree:AH w3 tb c.a r/\¬S3 tb
 nodes:DV X3 S3 w3 (sts.map (·.1))
 steps:BL w3 (.slice (some ⟨gw,0,none⟩) n cv) sts
 len:sts.length=n/\1<=n/\n<=901
 seen:∃pre q z0,BM7 h G key F b sts pre x0 at_ q z0
 pos:1<=w.heap.size
theorem PP (x:AU J B S c h G w)(ht:AH w tb c.a r)(htS:¬S tb)(on:AY h G (h.root r) F ps)(hb:Below w.heap.size w W)(hkn:key.length=kn)(hK:AK W KA key)(hKn:∀ad,KA=some ad->w.heap.size<=ad.block) :
  Calls Tryz.prog 76 #[.pointer (some ⟨tb,0,none⟩),.int .i64 (h.root r),.slice KA kn kc] W λe w3=>∃(b:Bool) (x0:NO) (at_ gw n cv:Nat) (S3 X3:Nat->Prop) (sts:List (NO × Nat)),e=.returned (.tuple #[.slice (some ⟨gw,0,none⟩) n cv,.bool b])/\AM5 J B S c h G key F w tb r b x0 at_ gw n cv S3 X3 sts w3/\∀k,w.heap.size<=k->k<W.heap.size->w3.heap[k]? = W.heap[k]?/\¬S3 k:=by
 have hKS:∀ad,KA=some ad->key≠[]->¬S ad.block:=λad ha _ hs=>by have:=(x.low _ hs).2;have:=hKn ad ha;omega
 obtain⟨n,n1,n2,hc⟩:=BO4 (kc:=kc) (x.below hb) (ht.below hb) htS hkn hK hKS on;refine hc.mono ?_;rintro e w3 ⟨sts,a,cv,b,S3,X3,rfl,⟨pre,x0,at_,q,z0,hs⟩,hN,hst,hA,hT,hnew,hrow,hfr⟩;obtain⟨hlen,gw,rfl,hgl⟩:=JR hst (by omega)
 have hT0:=(AO.ofBelow (S:=S) hb).trans hT;refine⟨b,x0,at_,gw,n,cv,S3,X3,sts,rfl,⟨hA,hT0,⟨(ht.below hb).kept hT.1 htS,hT0.not ht.lt htS⟩,hN,hst,⟨hlen,n1,n2⟩,⟨pre,q,z0,hs⟩,x.tab.1.1⟩,λk h1 h2=>?_⟩
 have hnS:¬S k:=λhs=>by have:=(x.low _ hs).2;omega
 exact⟨hT.1.block k h2 hnS,hT.not h2 hnS⟩
variable {b right:Bool} {x0:NO} {at_ gw n cv:Nat} {S3 X3:Nat->Prop} {sts:List (NO × Nat)} {w3:World}
theorem AM5.endAt (R:AM5 J B S c h G key F w tb r b x0 at_ gw n cv S3 X3 sts w3):w3.cell? ⟨gw,(n-1)*2,none⟩=some x0.ptr/\w3.cell? ⟨gw,(n-1)*2+1,none⟩=some (.int .i64 at_)/\AM X3 w3 x0/\¬S3 x0.blk/\at_<=x0.ens.length/\x0.ens.length<=512:=by
 obtain⟨pre,q,z0,hs⟩:=R.seen;have hl:n-1=pre.length:=by
  have:=R.len.1
  rw[hs.eq,List.length_append]at this;simp at this;omega
 have hj:sts[n-1]? = some (x0,at_):=by rw[hs.eq,hl,List.getElem?_append_right (Nat.le_refl _),Nat.sub_self];rfl
 obtain⟨c1,c2⟩:=IM R.steps hj;have hm:x0 ∈ sts.map (·.1):=List.mem_map_of_mem (f:=(·.1)) (List.mem_of_getElem? hj)
 obtain⟨h1,h2,_⟩:=R.nodes.at_ x0 hm;exact⟨c1,c2,h1,h2,hs.le,h1.short.1⟩
theorem AM5.item (R:AM5 J B S c h G key F w tb r b x0 at_ gw n cv S3 X3 sts w3){i:Nat}{e:En}(hi:x0.ens[i]? = some e){o:Option En}(ho:o=some e){rb:Nat}(hrb:w.heap.size<=rb)(hr3:w3.heap[rb]? = some itZ/\¬S3 rb) :
  ∃(bb of l1 l2 c1 c2:Nat) (A1 A2:Option Addr) (s1 s2:ByteArray),x0.arr=some ⟨bb,of,none⟩/\∀W,Below w3.heap.size w3 W->W.cell? ⟨bb,of+i*2,none⟩=some (.slice A1 l1 c1)/\W.cell? ⟨bb,of+i*2+1,none⟩=some (.slice A2 l2 c2) /\
   Calls Tryz.prog 82 #[.agg #[.slice A1 l1 c1,.slice A2 l2 c2]] W λe w4=>e=.returned (.agg #[.string s1,.string s2])/\Below W.heap.size W w4/\DR rb s1 s2 w4 λW'=>BX J B S c h G o w (.returned (.tuple #[.agg #[.string s1,.string s2],.bool true])) W':=by
 obtain⟨_,_,hn,_,_,_⟩:=R.endAt;obtain⟨bb,of,kv,vv,harr,hbl,hfr,k1,k2,k3,k4⟩:=hn.ents.at_ hi;obtain⟨A1,c1,rfl,_,_,hA1,_⟩:=k3;obtain⟨A2,c2,rfl,_,_,hA2,_⟩:=k4;have hrl:rb<w3.heap.size:=(Array.getElem?_eq_some_iff.1 hr3.1).1;refine⟨bb,of,e.key.length,e.val.length,c1,c2,A1,A2,⟨e.key.toArray⟩,⟨e.val.toArray⟩,harr,λW hb=>⟨(hb.cell (p:=⟨bb,of+i*2,none⟩) hbl).trans k1,(hb.cell (p:=⟨bb,of+i*2+1,none⟩) hbl).trans k2,?_⟩⟩
 refine (AC5 A1 A2 e.key e.val _ _ c1 c2 W rfl rfl (hA1.below hb) (hA2.below hb)).mono ?_;rintro e' w4 ⟨rfl,hb4⟩;have hb34:=AE hb hb4;have hr4:=(hb34.block rb hrl).trans hr3.1;refine⟨rfl,hb4,FX hr4 _ _ λW' hk=>?_⟩
 rw[ho];exact⟨rfl,IB R.pos (R.act.below hb34) (R.turn.trans (AO.ofBelow hb34)) ⟨hr4,hr3.2,hrb⟩ hk⟩
theorem AM5.beside (R:AM5 J B S c h G key F w tb r b x0 at_ gw n cv S3 X3 sts w3)(right:Bool){o:Option En}(ho:∀pre q z0,BM7 h G key F b sts pre x0 at_ q z0->z0.nx right=o){rb:Nat}(hrb:w.heap.size<=rb)(hr3:w3.heap[rb]? = some itZ/\¬S3 rb){W:World}(hb:Below w3.heap.size w3 W) :
  Calls Tryz.prog 83 #[.pointer (some ⟨tb,0,none⟩),.slice (some ⟨gw,0,none⟩) n cv,.int .i64 (if right then 1 else -1)] W λe w4=>∃(s1 s2:ByteArray) (bb:Bool),e=.returned (.tuple #[.agg #[.string s1,.string s2],.bool bb])/\DR rb s1 s2 w4 λW'=>BX J B S c h G o w (.returned (.tuple #[.agg #[.string s1,.string s2],.bool bb])) W':=by
 obtain⟨pre,q,z0,hs⟩:=R.seen;have hl:n-1=pre.length:=by
  have:=R.len.1
  rw[hs.eq,List.length_append]at this;simp at this;omega
 have htk:sts.take (n-1)=pre:=by rw[hs.eq,hl,List.take_left'];rfl
 have hrl:rb<w3.heap.size:=(Array.getElem?_eq_some_iff.1 hr3.1).1;have hrW:=(hb.block rb hrl).trans hr3.1;refine (AY2 (R.act.below hb) (R.tree.1.below hb) R.tree.2 (R.nodes.below hb) (AX R.steps hb) R.len.1 R.len.2.1 R.len.2.2 (right:=right) (o:=o) (q:=q) (z:=z0) ⟨by rw[htk];exact hs.on,hs.ok,hs.reps,ho _ _ _ hs⟩ _ rfl).mono ?_
 rintro e w4 ⟨rfl,S4,hT4,hA4⟩;obtain⟨s1,s2,bb,e6,e7⟩:=GE o;have hz:=hb.size;have hr4:w4.heap[rb]? = some itZ:=(hT4.1.block rb (by omega) hr3.2).trans hrW
 refine⟨s1,s2,bb,by rw[e6,e7],FX hr4 _ _ λW' hk=>?_⟩
 exact⟨by rw[e6,e7],IB R.pos hA4 ((R.turn.trans (AO.ofBelow hb)).trans hT4) ⟨hr4,hT4.not (by omega) hr3.2,hrb⟩ hk⟩
end
structure X7 (cb xb at_:Nat)(Q:World->Prop)(w:World):Prop where
 end_:∀W,Below w.heap.size w W->Calls Tryz.prog 79 #[.pointer (some ⟨cb,0,none⟩)] W λe w'=>e=.returned (.agg #[.pointer (some ⟨xb,0,none⟩),.int .i64 at_])/\Below W.heap.size W w'
 rem:∀W,Below w.heap.size w W->Calls Tryz.prog 85 #[.pointer (some ⟨xb,0,none⟩),.int .i64 at_] W λe w7=>e=.returned (.tuple #[])/\∀Z,Below w7.heap.size w7 Z->Q Z
section
variable {K:Kc} {s:Hst} {L:Nat} {t:Tr L} {key:List UInt8} {above:NO} {sts:List (NO × Nat)} {w:World} {U:List Nat}
theorem D4.delEnd (h:D4 K s t key true above sts w)(st:EY s.h s.G t)(hr16:K.r<16)(hC:∀q,(K.c.C q).length=512)(hrm:CU s.h U 16) :
  ∃xb at_,X7 K.cb xb at_ (KY K s.h s.G t.pages (DI key t.flat)) w:=by
 obtain⟨pre,x0,c0,z0,e,hat⟩:=h.end_ st;obtain⟨n1,n2,n3,n4,n5,n6,n7⟩:=h.endN st e;obtain⟨eM,_,_⟩:=h.endM st e;have hw:=h.endW e;have hL:L<=12:=st.root.level st.nodup λq hq=>(h.H.act.has_lt (st.has q hq)).2
 have hlen:K.way.length=L+2:=by rw[h.way,List.length_cons,MI h.wl]
 obtain⟨A,f,Bq,hl,hA,hf,_⟩:=XR (k:=key) (l:=c0.es) e.at_.symm;refine⟨x0.blk,AP key c0.es,⟨λW hb=>?_,λW hb=>?_⟩⟩
 ·exact AP2 (h.H.below hb) hw (by omega)
 ·have HW:=h.H.below hb;have hn:=(HW.node _ _ eM).at_;rw[<-hA];refine (NR _ x0 A Bq f W hn n4 (n3.trans hl)).mono ?_;rintro e7 w7 hr;refine⟨hr.1,λZ hZ=>?_⟩
  have H7:=HW.removed eM n4 hr;have hm:=e.was.del;have hs:Srt c0.es:=by
   obtain⟨lo,hi,_,ho,_⟩:=e.was.ord;exact ho.2.1
  rw[hl]at hs;rw[hl,BT4 hs hf]at hm;rw[n2,J2]at H7;exact h.settle st e hat hr16 hC hrm (ρ':=s.ρ) (H7.below hZ) hm rfl ⟨rfl,rfl,rfl,rfl,n4,rfl⟩
end
section
variable {J:List AD->Prop} {B:Nat} {S:Nat->Prop} {c:Ac} {h:Hd} {G:Nat->List UInt8} {w:World} {tb r:Nat} {F:List En} {ps:List Nat} {U:List Nat}
def AQ7 (J:List AD->Prop)(B:Nat)(S:Nat->Prop)(c:Ac)(h:Hd)(G:Nat->List UInt8)(tb r:Nat)(ps:List Nat)(F:List En)(key:ByteArray)(w:World)(e:Ending)(w2:World):Prop :=
 ∃(cb:Nat) (held:Bool),e=.returned (.tuple #[.pointer (some ⟨cb,0,none⟩),.bool held])/\held=A6 key.data.toList F /\
  ((held=false/\Hid (∀W,Below w2.heap.size w2 W->CN J B S c h G tb r ps (DI key.data.toList F) w W)) \/
  (held=true/\∃xb at_,Hid (X7 cb xb at_ (λZ=>Calls Tryz.prog 81 #[.pointer (some ⟨cb,0,none⟩)] Z λe w'=>e=.returned (.int .i64 0)/\CN J B S c h G tb r ps (DI key.data.toList F) w w') w2)))
theorem RY {S':Nat->Prop}(on:AY h G (h.root r) F ps){w2:World}(hA:AU J B S' c h G w2)(hT:AO S w S' w2)(ht:AH w2 tb c.a r){W:World}(hb:Below w2.heap.size w2 W):CN J B S c h G tb r ps F w W :=
 ⟨h,G,S',ps,hA.below hb,hT.trans (AO.ofBelow hb),ht.below hb,on,Oth.refl h G r on.has⟩
theorem BJ8 (x:AU J B S c h G w)(ht:AH w tb c.a r)(htS:¬S tb)(hr16:r<16)(hC:∀q,(c.C q).length=512)(on:AY h G (h.root r) F ps)(hrm:CU h U 16)(key:ByteArray){W:World}(hb:Below w.heap.size w W){KA:Option Addr}{kc:Nat}(hK:AK W KA key.data.toList)(hKn:∀ad,KA=some ad->w.heap.size<=ad.block) :
  Calls Tryz.prog 77 #[.pointer (some ⟨tb,0,none⟩),.int .i64 (h.root r),.slice KA key.size kc] W (AQ7 J B S c h G tb r ps F key w):=by
 have xW:=x.below hb;have htW:=ht.below hb;have hKS:∀ad,KA=some ad->key.data.toList≠[]->¬S ad.block:=λad ha _ hs=>by have:=(x.low _ hs).2;have:=hKn ad ha;omega
 have hkn:key.data.toList.length=key.size:=rfl;have hno:A6 key.data.toList F=false->DI key.data.toList F=F:=λh0=>BJ7 λhh=>by rw[(G9 on.srt).2 hh]at h0;cases h0
 rcases on.is with⟨rfl,h0,rfl⟩|⟨m,t,hr,ho,rfl,hpg,rfl,hrep⟩
 ·rw[h0];refine (OI (kc:=kc) xW htW htS hkn hK).mono ?_;rintro e w2 ⟨cb,mb,wv,s,above,y,rfl,B0,e1,e2⟩;refine⟨cb,false,rfl,rfl,.inl ⟨rfl,yH λZ hZ=>?_⟩⟩
  have hA:=B0.H.act;rw[e1,e2]at hA;exact RY on hA ((AO.ofBelow hb).trans B0.H.turn) B0.H.tree.1 hZ
 ·have st:EY h G t:=⟨hr,ho,hrep,on.nodup⟩;have hL:m<=12:=hr.level on.nodup λq hq=>(x.has_lt (st.has q hq)).2
  rw[<-hpg];refine (U9 (kc:=kc) xW htW htS st hkn hK hKS (by omega)).mono ?_
  rintro e w2 ⟨cb,mb,wv,s,b,above,sts,rfl,B1,e1,e2⟩;have hbt:b=A6 key.data.toList t.flat:=by
   obtain⟨pre,x0,c0,z0,e,hat⟩:=B1.end_ (by rw[e1,e2];exact st)
   obtain⟨_,_,_,m4⟩:=e.was.near;rw[e.at_,Bool.eq_iff_iff,m4,G9 st.ord.flat.1]
  refine⟨cb,b,rfl,hbt,?_⟩;cases b with
  | false =>
   refine .inl ⟨rfl,yH λZ hZ=>?_⟩
   have hA:=B1.H.act;rw[e1,e2]at hA;rw[hno hbt.symm];exact RY on hA ((AO.ofBelow hb).trans B1.H.turn) B1.H.tree.1 hZ
  | true =>
   obtain⟨xb,at_,hp⟩:=B1.delEnd (by rw[e1,e2];exact st) hr16 hC (by rw[e1];exact hrm)
   refine .inr ⟨rfl,xb,at_,yH ⟨hp.end_,λW2 hb2=>(hp.rem W2 hb2).mono λe7 w7 h7=>⟨h7.1,λZ hZ=>Calls.mono (h7.2 Z hZ) λe w' h=>⟨h.1,?_⟩⟩⟩⟩
   have h2:=h.2;rw[e1,e2]at h2;exact h2.older hb
theorem X7.stepped {cb xb at_:Nat}{Q:World->Prop}{w w4:World}(_:X7 cb xb at_ Q w)(hb4:Below w.heap.size w w4):∀W,Below (w4.alloc (.cells #[.pointer (some ⟨xb,0,none⟩),.int .i64 at_] 133)).heap.size (w4.alloc (.cells #[.pointer (some ⟨xb,0,none⟩),.int .i64 at_] 133)) W ->
  Below w.heap.size w W/\W.cell? ⟨w4.heap.size,0,none⟩=some (.pointer (some ⟨xb,0,none⟩))/\W.cell? ⟨w4.heap.size,1,none⟩=some (.int .i64 at_):=by
 intro W hb;have hz:(w4.alloc (.cells #[.pointer (some ⟨xb,0,none⟩),.int .i64 at_] 133)).heap.size=w4.heap.size+1:=by simp
 have hb5:Below w4.heap.size w4 (w4.alloc (.cells #[.pointer (some ⟨xb,0,none⟩),.int .i64 at_] 133)):=(Below.refl _ _).alloc (Nat.le_refl _) _;have hbw:Below w.heap.size w W:=(hb4.trans (hb5.mono hb4.size)).trans (hb.mono (by have:=hb4.size;omega))
 have hn:=heap_alloc_new w4 (.cells #[.pointer (some ⟨xb,0,none⟩),.int .i64 at_] 133);have hn2:=(hb.block w4.heap.size (by omega)).trans hn
 exact⟨hbw,by rw[yC hn2];rfl,by rw[yC hn2];rfl⟩
def BM6 (J:List AD->Prop)(B:Nat)(S:Nat->Prop)(c:Ac)(h:Hd)(G:Nat->List UInt8)(tb r:Nat)(ps:List Nat)(F:List En)(key:ByteArray)(w:World)(e:Ending)(w':World):Prop :=
 e=.returned (.int .i64 (if A6 key.data.toList F then 0 else 3))/\CN J B S c h G tb r ps (DI key.data.toList F) w w'
theorem BZ0 (x:AU J B S c h G w)(ht:AH w tb c.a r)(htS:¬S tb)(hr16:r<16)(hC:∀q,(c.C q).length=512)(on:AY h G (h.root r) F ps)(hrm:CU h U 16)(key:ByteArray) :
  Calls Tryz.prog 40 #[.pointer (some ⟨tb,0,none⟩),.string key] w (BM6 J B S c h G tb r ps F key w):=by
 have HTOP:=yH (F9 x ht hr16);have HGO:Hid (∀k,∃kc W,(convert 9 102 (.string key)).run Tryz.prog (w.drewN k)=.ok (.slice (some ⟨w.heap.size,0,none⟩) key.size kc) W/\Hid (Calls Tryz.prog 77 #[.pointer (some ⟨tb,0,none⟩),.int .i64 (h.root r),.slice (some ⟨w.heap.size,0,none⟩) key.size kc] W (AQ7 J B S c h G tb r ps F key w))):=yH λk=>by
  obtain⟨kc,W,h1,h2,h3,h4⟩:=B7 (w.drewN k) key;have hbk:Below w.heap.size w (w.drewN k):=AF w k;have hbW:Below w.heap.size w W:=hbk.trans (h4.mono hbk.size);exact⟨kc,W,h1,yH (BJ8 x ht htS hr16 hC on hrm key hbW h3 (λad ha=>by cases ha;exact hbk.size))⟩
 obtain⟨rt,hrt⟩:∃rt,rt=h.root r:=⟨_,rfl⟩;rw[<-hrt]at HTOP HGO;clear x ht htS hC on hrm hrt;go_enter Tryz.func40,Tryz.ntmps40;go_wp2_with fail;refine HTOP.out.mono ?_;rintro e w1 ⟨rfl,k,rfl⟩;obtain⟨kc,W,hcv,HCH⟩:=HGO.out k;clear HTOP HGO;go_wp2_with fail;refine HCH.out.mono ?_;rintro e w2 ⟨cb,held,rfl,hheld,hcase⟩;have HHE:=yH hheld;clear hcv HCH hheld;rcases hcase with⟨rfl,HN⟩|⟨rfl,xb,at_,HDE⟩
 ·go_wp2;go_ret;exact⟨by rw[<-HHE.out];rfl,HN.out _ (Below.refl _ _)⟩
 ·go_wp2_with (go_at_call 79;refine (HDE.out.end_ _ (Below.refl _ _)).mono ?_;rintro e w4 ⟨rfl,hb4⟩)
  obtain⟨W5,hW5⟩:∃W5,W5=w4.alloc (.cells #[.pointer (some ⟨xb,0,none⟩),.int .i64 at_] 133):=⟨_,rfl⟩;obtain⟨sb,hsb⟩:∃sb,sb=w4.heap.size:=⟨_,rfl⟩;have HSP:Hid (∀W,Below W5.heap.size W5 W->Below w2.heap.size w2 W/\W.cell? ⟨sb,0,none⟩=some (.pointer (some ⟨xb,0,none⟩))/\W.cell? ⟨sb,1,none⟩=some (.int .i64 at_)):=yH (by rw[hW5,hsb];exact HDE.out.stepped hb4)
  obtain⟨_,s1,s2⟩:=HSP.out W5 (Below.refl _ _);have HR0:=yH (HDE.out.rem W5 (HSP.out W5 (Below.refl W5.heap.size W5)).1);rw[<-hW5,<-hsb];clear hb4 hW5 hsb HSP HDE;go_wp2_with fail;refine HR0.out.mono ?_;rintro e w7 ⟨rfl,hZ⟩;have HZ:=yH hZ;clear HR0 hZ s1 s2;go_wp2_with fail;refine (HZ.out _ (by first | exact Below.refl _ _ | exact (Below.refl _ _).drew)).mono ?_
  rintro e w8 ⟨rfl,hp⟩;have HP:=yH hp;clear hp HZ;go_wp2;go_ret;exact⟨by rw[<-HHE.out];rfl,HP.out⟩
end
end Go.Proofs.YtfbbjiidccbaiaaGreatDoor
