/- Texts of one proof, one behind the other: TL, TM, SZI, SZJ, SZK, SZL. -/
import Derived.Test.YtfbbjiidccbaiaaGreatDoorQAH
import Derived.Test.YtfbbjiidccbaiaaGreatDoorQAD
import Derived.StillTailTactics
import Derived.Deep.RegionHeldLaw
import Derived.Test.YtfbbjiidccbaiaaGreatDoorQAG
import Derived.Deep.RegionHeld3
import Derived.BigQuiet
import Derived.Test.YtfbbjiidccbaiaaGreatDoorQAA
set_option maxRecDepth 100000
set_option maxHeartbeats 6400000
namespace Go.Proofs.YtfbbjiidccbaiaaGreatDoor
open Go.RowKit
def EH (w:World)(rb b o m c:Nat):Prop:=w.heap[rb]? = some (.cells #[.slice (some ⟨b,o,none⟩) m c,.bool false] 227 (0,0))
theorem AI2 {w:World}{rb b o m c:Nat}(h:EH w rb b o m c)(o' m' c':Nat):EH (w.setCell ⟨rb,0,none⟩ (.slice (some ⟨b,o',none⟩) m' c')) rb b o' m' c':=by
 unfold EH at h ⊢
 simp[World.setCell,Array.getElem?_modify,h]
def X9 (rb b o m c n:Nat)(l:List UInt8)(w w':World):Prop :=
 ∃o',EH w' rb b o' (m-n) (c-n)/\AK w' (some ⟨b,o,none⟩) (l.take n)/\AK w' (some ⟨b,o',none⟩) (l.drop n)/\AC (λk=>k=rb) w w'
theorem OV (rb b o m c n:Nat)(l:List UInt8)(w:World)(h:EH w rb b o m c)(hm:l.length=m)(hn:n<=m)(hc:m<=c)(hR:AK w (some ⟨b,o,none⟩) l)(hbr:b≠rb) :
  Calls Tryz.prog 153 #[.pointer (some ⟨rb,0,none⟩),.int .i64 n] w λe w'=>e=.returned (.slice (some ⟨b,o,none⟩) n n)/\X9 rb b o m c n l w w':=by
 have c0:w.cell? ⟨rb,0,none⟩=some (.slice (some ⟨b,o,none⟩) m c):=by rw[yC h];rfl
 have hfr:w.frozen? ⟨rb,0,none⟩=false:=by unfold EH at h;simp[World.frozen?,h]
 have hlt:rb<w.heap.size:=(Array.getElem?_eq_some_iff.1 h).1;have hgt:¬((m:Int)<n):=by omega
 have key:∀o',(c=n\/o'=o+n)->X9 rb b o m c n l w (w.setCell ⟨rb,0,none⟩ (.slice (some ⟨b,o',none⟩) (m-n) (c-n))):=by
  intro o' ho';have hkp:=AC.setCell (λk=>k=rb) w (b:=rb) (i:=0) rfl (.slice (some ⟨b,o',none⟩) (m-n) (c-n))
  refine⟨o',AI2 h _ _ _,(hR.take n).kept hkp (λad hA _ _ e=>by cases hA;exact hbr e),?_,hkp⟩
  rcases ho' with h0|rfl
  ·rw[List.drop_of_length_le (by omega)];exact .inl rfl
  ·exact (hR.drop n).kept hkp (λad hA _ _ e=>by cases hA;exact hbr e)
 have hnc:n<=c:=by omega
 have em:(m:Int)-n=((m-n:Nat):Int):=by omega
 clear h hm hR hbr;by_cases hcn:c=n
 ·have K0:=key o (.inl hcn);clear key;subst hcn;obtain rfl:m=c:=by omega
  rw[Nat.sub_self]at K0;have K:=yH K0;clear K0
  go_enter Tryz.func153,Tryz.ntmps153;go_wp2;go_ret;exact⟨rfl,K.out⟩
 ·have K:=yH (key (o+n) (.inr rfl));clear key
  go_enter Tryz.func153,Tryz.ntmps153;go_wp2;go_ret;exact⟨rfl,K.out⟩
structure VN (level:Nat)(es:List En):Prop where
 ok:stN level es=true
 lev:level<256
 fit:szE es<=510
theorem VN.len {level:Nat}{es:List En}(h:VN level es):1<=es.length/\es.length<=255:=by
 have h1:=KK es;have h2:=h.fit;have h3:=h.ok;unfold stN at h3;rw[Bool.and_eq_true,decide_eq_true_eq]at h3;omega
theorem VN.at_ {level:Nat}{es:List En}(h:VN level es){i:Nat}{e:En}(hi:es[i]? = some e):okE level i e=true:=by
 have h3:=h.ok;unfold stN at h3;rw[Bool.and_eq_true]at h3;obtain⟨hl,rfl⟩:=List.getElem?_eq_some_iff.1 hi;have:=AO4 level es 0 h3.1 i hl
 rwa [Nat.zero_add]at this
theorem BR1 {level i:Nat}{e:En}(h:okE level i e=true):e.key.length<=96/\e.val.length<=32:=by
 unfold okE at h;simp only[Bool.and_eq_true,decide_eq_true_eq]at h;exact⟨h.1.1.2,h.1.2⟩
theorem VN.short {level:Nat}{es:List En}(h:VN level es):DU es:=by
 refine⟨by have:=h.len;omega,λe he=>?_⟩
 obtain⟨i,hi,rfl⟩:=List.getElem_of_mem he;have:=BR1 (h.at_ (List.getElem?_eq_getElem hi))
 omega
def AY8 (es:List En):List UInt8:=List.replicate (510-szE es) 0
def FO (es:List En)(k:Nat):List UInt8:=JK (es.drop k)++AY8 es
theorem AJ7 {es:List En}{k:Nat}{e:En}(h:es[k]? = some e):FO es k=UInt8.ofNat e.key.length::UInt8.ofNat e.val.length::(e.key++(e.val++FO es (k+1))):=by
 obtain⟨hl,rfl⟩:=List.getElem?_eq_some_iff.1 h;unfold FO;rw[List.drop_eq_getElem_cons hl,JK,En.bytes];simp
theorem G6 (level:Nat)(es:List En):pgB level es=UInt8.ofNat level::UInt8.ofNat es.length::FO es 0:=by
 simp[pgB,ndB,FO,AY8]
theorem EP:(Tryz.prog.info? 135).map (λi=>(i.zero,i.size,i.bytes))=some (some (.agg #[.slice none 0 0,.slice none 0 0]),2,48):=by kernel_rfl
theorem XE (n:Nat)(hn:n<=1000000)(W:World):(Instr.makeSlice 136 (.int .u8 n) (.int .u8 n)).run Tryz.prog W=.ok (.slice (some ⟨W.heap.size,0,none⟩) n n) (W.alloc (.cells (madeCells #[.slice none 0 0,.slice none 0 0] (n*2)) 135)):=by
 obtain⟨i,hi,hz,hs,hby⟩:=info_parts EP;have h:=run_make (P:=Tryz.prog) W 136 135 i _ Tryz.underlying136 hi hz .u8 .u8 n n (by omega) (by omega) (by rw[hby];omega) (by omega)
 rw[hs]at h;rw[show (Value.agg #[.slice none 0 0,.slice none 0 0]).cells=#[.slice none 0 0,.slice none 0 0] from rfl]at h
 simpa using h
def BV (bb:Nat)(w:World)(v:Value)(l:List UInt8):Prop:=∃o,v=.slice (some ⟨bb,o,none⟩) l.length l.length/\AK w (some ⟨bb,o,none⟩) l
structure NL (es:List En)(bb rb eb nb pg lv:Nat)(was:ByteArray)(w:World)(k:Nat)(wr:World):Prop where
 rest:∃o m c,EH wr rb bb o m c/\m<=c/\(FO es k).length=m/\AK wr (some ⟨bb,o,none⟩) (FO es k)
 ents:∃cs,wr.heap[eb]? = some (.cells cs 135 (0,0))/\cs.size=es.length*2/\∀i,i<k->∃e kv vv,es[i]? = some e/\cs[i*2]? = some kv/\cs[i*2+1]? = some vv/\BV bb wr kv e.key/\BV bb wr vv e.val
 node:wr.heap[nb]? = some (.cells #[.int .i64 pg,.int .i64 lv,.slice (some ⟨eb,0,none⟩) es.length es.length,.string was,.int .i64 0] 138 (0,0))
 below:Below w.heap.size w wr
 ne:bb≠rb/\bb≠eb/\rb≠eb/\nb≠rb/\nb≠eb/\bb≠nb/\w.heap.size<=bb/\w.heap.size<=rb/\w.heap.size<=eb/\w.heap.size<=nb
theorem AU3 {level i:Nat}{e:En}(h:okE level i e=true):(e.key.length=0 ↔ 0<level/\i=0)/\e.key.length<=96/\e.val.length<=32/\(0<level->e.val.length=2/\e.child<4096):=by
 unfold okE at h;simp only[Bool.and_eq_true,Bool.or_eq_true,beq_iff_eq,decide_eq_true_eq]at h;obtain⟨⟨⟨h1,h2⟩,h3⟩,h4⟩:=h;refine⟨?_,h2,h3,λhl=>?_⟩
 ·rw[<-decide_eq_decide,h1,Bool.decide_and]
 ·rcases h4 with h4|h4
  ·omega
  ·exact h4
theorem AR7 (X:Nat->Prop)(x:NO)(w:World)(h:AM X w x)(hv:VN x.level x.ens) :
  Calls Tryz.prog 155 #[x.ptr] w λe w'=>e=.returned (.bool true)/\Below w.heap.size w w':=by
 have c1:=h.c1;have c2:=h.c2;have hlt:=h.lt;obtain⟨N,hN⟩:∃N,N=x.ens.length:=⟨_,rfl⟩;have hN255:1<=N/\N<=255:=by have:=hv.len;omega
 have hcap:=h.cap.1;rw[<-hN]at c2 hcap;unfold NO.ptr;obtain⟨xb,hxb⟩:∃xb,xb=x.blk:=⟨_,rfl⟩;rw[<-hxb]at c1 c2 hlt ⊢
 obtain⟨lv,hlv⟩:∃lv,lv=x.level:=⟨_,rfl⟩;have hlv2:lv<256:=by rw[hlv];exact hv.lev
 rw[<-hlv]at c1;obtain⟨ar,har⟩:∃ar,ar=x.arr:=⟨_,rfl⟩;obtain⟨cp,hcp⟩:∃cp,cp=x.cap:=⟨_,rfl⟩;rw[<-har,<-hcp]at c2;rw[<-hcp]at hcap;have HH:=yH h;have HV:=yH hv;have HN:=yH hN;have HXB:=yH hxb;have HLV:=yH hlv;have HAR:=yH har
 clear h hv hN hxb hlv har hcp;go_enter Tryz.func155,Tryz.ntmps155;go_wp2;go_loopw [11] (λi wr=>∃k:Nat,k<=N/\i=.int .i64 k/\Hid (Below w.heap.size w wr)) (λi _=>N-(intOf i).toNat)
 case atStart=>exact⟨0,by omega,rfl,yH (Below.refl _ _)⟩
 case round =>
  obtain⟨k,hk,rfl,HB⟩:=hrel;by_cases hkn:k<N
  ·obtain⟨en,hen⟩:=L9 HN.out.symm hkn;have hNr:AM X wr x:=HH.out.below HB.out;obtain⟨b,o,kv,vv,ha,hbl,hfr,hc1,hc2,hk1,hk2⟩:=hNr.ents.at_ hen;rw[<-HAR.out]at ha;subst ha;have hok:=AU3 (HV.out.at_ hen);rw[<-HLV.out]at hok;obtain⟨A1,q1,rfl,hA1,hA2,_⟩:=hk1;obtain⟨A2,q2,rfl,hB1,hB2,_⟩:=hk2;obtain⟨l1,hl1⟩:∃l1,l1=en.key.length:=⟨_,rfl⟩;obtain⟨l2,hl2⟩:∃l2,l2=en.val.length:=⟨_,rfl⟩;rw[<-hl1]at hc1 hok hA1;rw[<-hl2]at hc2 hok hB1;have c1r:wr.cell? ⟨xb,1,none⟩=some (.int .i64 lv):=by rw[HB.out.cell (p:=⟨xb,1,none⟩) hlt];exact c1
   have c2r:wr.cell? ⟨xb,2,none⟩=some (.slice (some ⟨b,o,none⟩) N cp):=by rw[HB.out.cell (p:=⟨xb,2,none⟩) hlt];exact c2
   have hltr:xb<wr.heap.size:=Nat.lt_of_lt_of_le hlt HB.out.size;have HCH:Hid (∀W,Below wr.heap.size wr W->0<lv->Calls Tryz.prog 152 #[.pointer (some ⟨xb,0,none⟩),.int .i64 k] W λe w'=>e=.returned (.int .i64 en.child)/\∃n,w'=W.drewN n):=yH (λW hb hl=>by
    have:=F6 X x k en W (hNr.below hb) hen (by rw[<-hl2];exact (hok.2.2.2 hl).1)
    unfold NO.ptr at this;rw[<-HXB.out]at this;exact this)
   obtain⟨ch,hch⟩:∃ch,ch=en.child:=⟨_,rfl⟩;rw[<-hch]at hok HCH;obtain⟨hk0,hk96,hv32,hch4⟩:=hok;have HL1:=yH hl1;have HL2:=yH hl2;have HEN:=yH hen;have HCHN:=yH hch
   clear hl1 hl2 hen hch hNr;have hnk96:¬((96:Int)<l1):=by omega
   have hnv32:¬((32:Int)<l2):=by omega
   have ek:k*2+1=k*2+1:=rfl;clear hA1 hA2 hB1 hB2 ek;by_cases hl0:lv=0
   ·subst hl0;have h10:0<l1:=by rcases Nat.eq_zero_or_pos l1 with e|e;exact absurd (hk0.1 e).1 (by omega);exact e
    have hne0:decide (l1=0)=false:=decide_eq_false (by omega)
    clear hk0 hch4 HCH;go_wp2;go_roundw
    case rel=>exact⟨k+1,by omega,by go_num,yH (AE HB.out ((Below.refl _ _).alloc (Nat.le_refl _) _))⟩
    case measure=>simp[intOf];omega
   ·have hlp:0<lv:=by omega
    have hlpi:(0:Int)<lv:=by omega
    have hch:=(hch4 hlp).2;have h2:=(hch4 hlp).1;have hne2:decide (l2=2)=true:=decide_eq_true h2;have hge:¬((4096:Int)<=ch):=by omega
    have hlpd:decide (0<lv)=true:=decide_eq_true hlp;by_cases hk00:k=0
    ·subst hk00;have h10:l1=0:=hk0.2 ⟨hlp,rfl⟩;subst h10;rw[Nat.zero_mul,Nat.add_zero]at hc1 hc2;clear hk0 hch4;go_wp2_with (go_at_call 152;refine (HCH.out _ ((Below.refl _ _).alloc (Nat.le_refl _) _) (by omega)).mono ?_;rintro e w1 ⟨rfl,q,rfl⟩)
     go_roundw
     case rel=>exact⟨0+1,by omega,by go_num,yH (AE HB.out ((AE ((Below.refl _ _).alloc (Nat.le_refl _) _) (AF _ _))))⟩
     case measure=>simp[intOf];omega
    ·have hkp:0<k:=by omega
     have h10:0<l1:=by rcases Nat.eq_zero_or_pos l1 with e|e;exact absurd (hk0.1 e).2 (by omega);exact e
     have hne0:decide (l1=0)=false:=decide_eq_false (by omega)
     have hkd:decide (k=0)=false:=decide_eq_false (by omega)
     have hkb:((k:Int) == 0)=false:=by simp;omega
     clear hk0 hch4;go_wp2_with (go_at_call 152;refine (HCH.out _ ((Below.refl _ _).alloc (Nat.le_refl _) _) (by omega)).mono ?_;rintro e w1 ⟨rfl,q,rfl⟩)
     go_roundw
     case rel=>exact⟨k+1,by omega,by go_num,yH (AE HB.out ((AE ((Below.refl _ _).alloc (Nat.le_refl _) _) (AF _ _))))⟩
     case measure=>simp[intOf];omega
  ·obtain rfl:k=N:=by omega
   have c2r:wr.cell? ⟨xb,2,none⟩=some (.slice ar k cp):=by rw[HB.out.cell (p:=⟨xb,2,none⟩) hlt];exact c2
   have hltr:xb<wr.heap.size:=Nat.lt_of_lt_of_le hlt HB.out.size;have hd:decide (0<k)=true:=decide_eq_true (by omega)
   go_wp2;go_ret;exact⟨rfl,HB.out⟩
theorem BV.kept {bb:Nat}{w w':World}{T:Nat->Prop}{v:Value}{l:List UInt8}(h:BV bb w v l)(hk:AC T w w')(hT:¬T bb):BV bb w' v l:=by
 obtain⟨o,rfl,hR⟩:=h;exact⟨o,rfl,hR.kept hk (λad hA _ _=>by cases hA;exact hT)⟩
theorem BR3 {es:List En}{N bb rb eb nb pg lv k kl vl o2 o3 o4 m cc:Nat}{was:ByteArray}{w wr w6 w7 w8:World}{en:En}{v1 v2:Value}(HG:Hid (NL es bb rb eb nb pg lv was w k wr))(hk:k<N)(HEN:Hid (es[k]? = some en))(HK6:Hid (AC (λj=>j=rb) wr w6))(HK7:Hid (AC (λj=>j=rb) w6.drew w7))(HK8:Hid (AC (λj=>j=rb) w7 w8))
  (HR8:Hid (EH w8 rb bb o4 (m-2-kl-vl) (cc-2-kl-vl))) (HL8:Hid (AK w8 (some ⟨bb,o4,none⟩) (FO es (k+1)))) (HE7:Hid (AK w7 (some ⟨bb,o2,none⟩) en.key)) (HE8:Hid (AK w8 (some ⟨bb,o3,none⟩) en.val))
  (HKL:Hid (kl=en.key.length)) (HVL:Hid (vl=en.val.length)) (HLM:Hid (m=2+(kl+(vl+(FO es (k+1)).length)))) (hmc:m<=cc) (hN:es.length=N) (hv1:v1=.slice (some ⟨bb,o2,none⟩) kl kl) (hv2:v2=.slice (some ⟨bb,o3,none⟩) vl vl) :
  (∃u0 u1,w8.cell? ⟨eb,k*2,none⟩=some u0/\w8.cell? ⟨eb,k*2+1,none⟩=some u1/\w8.frozen? ⟨eb,k*2,none⟩=false/\w8.frozen? ⟨eb,k*2+1,none⟩=false) /\
  NL es bb rb eb nb pg lv was w (k+1) ((w8.setCell ⟨eb,k*2,none⟩ v1).setCell ⟨eb,k*2+1,none⟩ v2):=by
 obtain⟨_,⟨cs,g5,g6,g7⟩,g8,g9,ne1,ne2,ne3,ne4,ne5,ne10,ne6,ne7,ne8,ne9⟩:=HG.out;have hk68:AC (λj=>j=rb) wr w8:=(HK6.out.trans (b:=w6) (c:=w7) ⟨HK7.out.os,HK7.out.tape,HK7.out.output,HK7.out.size,HK7.out.block⟩ (λi hi=>.inl hi)).trans HK8.out (λi hi=>.inl hi)
 have hle:eb<wr.heap.size:=(Array.getElem?_eq_some_iff.1 g5).1;have hln:nb<wr.heap.size:=(Array.getElem?_eq_some_iff.1 g8).1;have he8:w8.heap[eb]? = some (.cells cs 135 (0,0)):=(hk68.block eb hle (Ne.symm ne3)).trans g5;have hn8:=(hk68.block nb hln ne4).trans g8;have hkc:k*2+1<cs.size:=by omega
 refine⟨⟨cs[k*2],cs[k*2+1],?_,?_,?_,?_⟩,?_⟩
 ·rw[yC he8];exact Array.getElem?_eq_getElem _
 ·rw[yC he8];exact Array.getElem?_eq_getElem _
 ·simp[World.frozen?,he8]
 ·simp[World.frozen?,he8]
 ·obtain⟨w9,hw9⟩:∃w9,w9=(w8.setCell ⟨eb,k*2,none⟩ v1).setCell ⟨eb,k*2+1,none⟩ v2:=⟨_,rfl⟩;rw[<-hw9];have hk9:AC (λj=>j=eb) w8 w9:=by rw[hw9];exact (AC.setCell (λj=>j=eb) w8 rfl v1).trans (AC.setCell (λj=>j=eb) _ rfl v2) (λi hi=>.inl hi)
  have he9:w9.heap[eb]? = some (.cells ((cs.setIfInBounds (k*2) v1).setIfInBounds (k*2+1) v2) 135 (0,0)):=by
   rw[hw9];simp[World.setCell,Array.getElem?_modify,he8]
  have hlr:rb<w8.heap.size:=(Array.getElem?_eq_some_iff.1 HR8.out).1;refine⟨⟨o4,m-2-kl-vl,cc-2-kl-vl,?_,by omega,by have:=HLM.out;omega,HL8.out.kept hk9 (λad hA _ _=>by cases hA;exact ne2)⟩,⟨_,he9,by simp[g6],?_⟩,(hk9.block nb (Nat.lt_of_lt_of_le hln hk68.size) ne5).trans hn8,?_,ne1,ne2,ne3,ne4,ne5,ne10,ne6,ne7,ne8,ne9⟩
  ·have:=HR8.out
   unfold EH at this ⊢
   rw[hk9.block rb hlr ne3];exact this
  ·intro i hi;by_cases hik:i=k
   ·subst hik;refine⟨en,v1,v2,HEN.out,?_,?_,?_,?_⟩
    ·rw[Array.getElem?_setIfInBounds_ne (by omega),Array.getElem?_setIfInBounds_self_of_lt (by omega)]
    ·rw[Array.getElem?_setIfInBounds_self_of_lt (by simp;omega)]
    ·exact⟨o2,by rw[hv1,HKL.out],(HE7.out.kept HK8.out (λad hA _ _=>by cases hA;exact ne1)).kept hk9 (λad hA _ _=>by cases hA;exact ne2)⟩
    ·exact⟨o3,by rw[hv2,HVL.out],HE8.out.kept hk9 (λad hA _ _=>by cases hA;exact ne2)⟩
   ·obtain⟨e,kv,vv,h1,h2,h3,h4,h5⟩:=g7 i (by omega)
    refine⟨e,kv,vv,h1,?_,?_,(h4.kept hk68 ne1).kept hk9 ne2,(h5.kept hk68 ne1).kept hk9 ne2⟩
    ·rw[Array.getElem?_setIfInBounds_ne (by omega),Array.getElem?_setIfInBounds_ne (by omega)];exact h2
    ·rw[Array.getElem?_setIfInBounds_ne (by omega),Array.getElem?_setIfInBounds_ne (by omega)];exact h3
  ·exact (g9.trans (hk68.toBelow (B:=w.heap.size) g9.size (λi hi=>by omega))).trans (hk9.toBelow (Nat.le_trans g9.size hk68.size) (λi hi=>by omega))
def AI5 (nb eb pg level:Nat)(es:List En)(had:Nat):NO:=⟨nb,pg,level,es,some ⟨eb,0,none⟩,es.length,pgB level es,had,true⟩
theorem AO5 {es:List En}{bb rb eb nb pg level:Nat}{was:ByteArray}{w wr:World}(h:NL es bb rb eb nb pg level was w es.length wr)(hw:was=⟨(pgB level es).toArray⟩)(hv:VN level es)(hpg:pg<4096)(X:Nat->Prop)(hX:∀k,X k->k<w.heap.size) :
  AM (λk=>X k\/k=nb\/k=eb) wr (AI5 nb eb pg level es 0):=by
 obtain⟨_,⟨cs,g5,g6,g7⟩,g8,g9,ne1,ne2,ne3,ne4,ne5,ne10,ne6,ne7,ne8,ne9⟩:=h;have hbx:¬(X bb\/bb=nb\/bb=eb):=by
  rintro (h | h | h)
  ·have:=hX _ h;omega
  ·exact ne10 h
  ·exact ne2 h
 have hsh:=hv.short;refine⟨by show wr.heap[nb]? = _;rw[g8,hw];rfl,.inr (.inl rfl),.inr ⟨eb,0,cs,rfl,g5,.inr (.inr rfl),λi hi=>?_⟩,⟨Nat.le_refl _,by have:=hv.len;show es.length<=maxLen;unfold maxLen;omega⟩,⟨hpg,by have:=hv.lev;show level<=_;omega,by show 0<=_;omega⟩,hsh,λ_ _=>⟨eb,rfl⟩⟩
 obtain⟨e,kv,vv,h1,h2,h3,⟨o1,rfl,r1⟩,⟨o2,rfl,r2⟩⟩:=g7 i hi;obtain⟨_,he⟩:=List.getElem?_eq_some_iff.1 h1;have hs:=hsh.at_ h1;refine⟨_,_,by rw[Nat.zero_add,Nat.mul_comm];exact h2,by rw[Nat.zero_add,Nat.mul_comm];exact h3,?_,?_⟩
 ·show A7 _ _ _ es[i].key;rw[he];exact⟨_,_,rfl,Nat.le_refl _,by unfold maxLen;omega,r1,λad hA _=>by cases hA;exact hbx⟩
 ·show A7 _ _ _ es[i].val;rw[he];exact⟨_,_,rfl,Nat.le_refl _,by unfold maxLen;omega,r2,λad hA _=>by cases hA;exact hbx⟩
theorem AM.setHad {X:Nat->Prop}{w:World}{nb eb pg level:Nat}{es:List En}{a:Nat}(h:AM X w (AI5 nb eb pg level es a))(hne:nb≠eb)(b:Nat)(hb:b<=1000000) :
  AM X (w.setCell ⟨nb,4,none⟩ (.int .i64 b)) (AI5 nb eb pg level es b):=by
 have hk:=AC.setCell (λj=>j=nb) w (b:=nb) (i:=4) rfl (.int .i64 b)
 refine⟨?_,h.own,h.ents.kept hk (λk _ e=>e ▸ h.own) (λ_ _ h=>h) (λ_ h=>h) (λad hA _ e=>?_),h.cap,⟨h.small.1,h.small.2.1,hb⟩,h.short,h.alone⟩
 ·have:=h.blk
  unfold AI5 NO.cells at this ⊢
  simp[World.setCell,Array.getElem?_modify,this]
 ·cases hA;exact hne e.symm
def NO.ab (x:NO):Nat:=match x.arr with
 | some ad=>ad.block
 | none=>x.blk
structure BU8 (w:World)(x:NO)(w':World):Prop where
 node:∀X:Nat->Prop,(∀k,X k->k<w.heap.size)->AM (λk=>X k\/k=x.blk\/k=x.ab) w' x
 new:w.heap.size<=x.blk/\w.heap.size<=x.ab
 below:Below w.heap.size w w'
def RE (pg level:Nat)(es:List En)(w:World)(r:Value)(w':World):Prop :=
 ∃x:NO,r=x.ptr/\BU8 w x w'/\x.page=pg/\x.level=level/\x.ens=es/\x.was=pgB level es/\x.had=szE es/\x.sole=true/\x.cap=es.length
theorem AU6 (pg level:Nat)(es:List En)(w:World)(hv:VN level es)(hpg:pg<4096) :
  Calls Tryz.prog 115 #[.int .i64 pg,.string ⟨(pgB level es).toArray⟩] w λe w'=>∃r,e=.returned (.tuple #[r,.bool true])/\RE pg level es w r w':=by
 obtain⟨s,hs⟩:∃s:ByteArray,s=⟨(pgB level es).toArray⟩:=⟨_,rfl⟩;have hsl:s.data.toList=pgB level es:=by rw[hs]
 have hsz:s.size=512:=by rw[hs,ZJ,GD _ _ hv.fit]
 obtain⟨c,W,hcv,hc,hR,hbW⟩:=B7 w s;rw[hsl]at hR;rw[hsz]at hc hcv;rw[<-hs];obtain⟨w2,hw2⟩:∃w2,w2=W.alloc (.cells #[.slice (some ⟨w.heap.size,0,none⟩) 512 c,.bool false] 227):=⟨_,rfl⟩;have hbb:w.heap.size<W.heap.size:=hR.blk_lt (by rw[G6];simp)
 have hb2:Below W.heap.size W w2:=by rw[hw2];exact (Below.refl _ _).alloc (Nat.le_refl _) _
 have hrs2:EH w2 W.heap.size w.heap.size 0 512 c:=by unfold EH;rw[hw2];exact heap_alloc_new W _
 have hR2:=hR.below hb2;have hpl:(pgB level es).length=512:=GD _ _ hv.fit;have HCUT:Hid (Calls Tryz.prog 153 #[.pointer (some ⟨W.heap.size,0,none⟩),.int .i64 2] w2 λe w'=>e=.returned (.slice (some ⟨w.heap.size,0,none⟩) 2 2)/\X9 W.heap.size w.heap.size 0 512 c 2 (pgB level es) w2 w'):=yH (OV W.heap.size w.heap.size 0 512 c 2 (pgB level es) w2 hrs2 hpl (by omega) hc hR2 (by omega))
 obtain⟨N,hN⟩:∃N,N=es.length:=⟨_,rfl⟩;have hN255:1<=N/\N<=255:=by have:=hv.len;omega
 have hlv:=hv.lev;have hmk:=XE N (by omega)
 obtain⟨Z,hZ⟩:∃Z,Z=madeCells #[.slice none 0 0,.slice none 0 0] (N*2):=⟨_,rfl⟩;have hZs:Z.size=N*2:=by rw[hZ,size_madeCells]
 rw[<-hZ]at hmk;have HW2:=yH hw2;have HS:=yH hs;have HSL:=yH hsl;have HV:=yH hv;have HB2:=yH hb2;have HBW:=yH hbW;have HN:=yH hN;have HZ:=yH hZ;have HZS:=yH hZs
 have HMK:=yH hmk;clear hs hsl hsz hR hw2 hb2 hrs2 hR2 hpl hv hbW hN hZ hZs hmk;go_enter Tryz.func115,Tryz.ntmps115;go_wp2_with fail;rw[<-HW2.out];refine HCUT.out.mono ?_;rintro e w3 ⟨rfl,hcut⟩;obtain⟨o1,hrs3,hrd3,hrl3,hk3⟩:=hcut;have hS0:w3.cell? ⟨w.heap.size,0,none⟩=some (.int .u8 (level:Int))/\w3.cell? ⟨w.heap.size,1,none⟩=some (.int .u8 (N:Int)):=by
  obtain⟨b,off,he,_,hc⟩:=hrd3.at (by rw[G6];simp)
  injection he with he;injection he with e1 e2;subst e1;subst e2
  have h0:=hc 0 (by rw[G6];simp)
  have h1:=hc 1 (by rw[G6];simp)
  simp only[G6,List.take_succ_cons,List.getElem_cons_zero,List.getElem_cons_succ]at h0 h1;refine⟨by rw[h0];congr 2;simp;omega,by rw[h1,<-HN.out];congr 2;simp;omega⟩
 have HS0:Hid (w3.cell? ⟨w.heap.size,0,none⟩=some (.int .u8 (level:Int))/\w3.cell? ⟨w.heap.size,1,none⟩=some (.int .u8 (N:Int))):=yH hS0;have HR3:=yH hrs3;have HL3:=yH hrl3;have HK3:=yH hk3
 clear hrs3 hrd3 hrl3 hk3 hS0;have HL0:Hid (∀W':World,(W'.cell? ⟨w.heap.size,0,none⟩=some (.int .u8 (level:Int))/\W'.cell? ⟨w.heap.size,1,none⟩=some (.int .u8 (N:Int)))->W'.cell? ⟨w.heap.size,0,none⟩=some (.int .u8 (level:Int))/\W'.cell? ⟨w.heap.size,1,none⟩=some (.int .u8 (N:Int))):=yH (λ_ h=>h)
 have hb3:w.heap.size<w3.heap.size:=Nat.lt_of_lt_of_le (by have:=HB2.out.size;omega) HK3.out.size
 have hcl:∀(X:World) (o:Obj) (j:Nat),w.heap.size<X.heap.size->(X.alloc o).cell? ⟨w.heap.size,j,none⟩=X.cell? ⟨w.heap.size,j,none⟩:=λX o j h=>World.cell?_alloc_lt X o _ h
 have HS4:Hid ((w3.drew.alloc (.cells Z 135)).cell? ⟨w.heap.size,0,none⟩=some (.int .u8 (level:Int))/\(w3.drew.alloc (.cells Z 135)).cell? ⟨w.heap.size,1,none⟩=some (.int .u8 (N:Int))):=yH ⟨(hcl w3 _ 0 hb3).trans HS0.out.1,(hcl w3 _ 1 hb3).trans HS0.out.2⟩;have HS5:Hid (∀o,(((w3.drew.alloc (.cells Z 135)).alloc o).cell? ⟨w.heap.size,0,none⟩=some (.int .u8 (level:Int))/\((w3.drew.alloc (.cells Z 135)).alloc o).cell? ⟨w.heap.size,1,none⟩=some (.int .u8 (N:Int)))):=yH λo=>⟨(hcl _ o 0 (by simp;omega)).trans HS4.out.1,(hcl _ o 1 (by simp;omega)).trans HS4.out.2⟩
 clear hcl;have ewl:IntKind.i64.wrap (level:Int)=level:=IntWalk.i64_in _ (by omega)
 go_wp2;refine wp_region_held_drew (S:=λW=>W.cell? ⟨w.heap.size,0,none⟩=some (.int .u8 (level:Int))/\W.cell? ⟨w.heap.size,1,none⟩=some (.int .u8 (N:Int))) (by kernel_rfl) HS0.out (λhHeld=>?_)
 refine wpAnyH_take (i:=0) (v:=.int .i64 pg) rfl (by kernel_rfl) (by kernel_rfl) (by kernel_rfl) (λ_ _ _ h=>h) (Or.inl ⟨by rfl,λW hW=>by go_simp⟩) HS0.out ?_
 refine wpAnyH_take (i:=1) (v:=.slice (some ⟨w.heap.size,0,none⟩) 2 2) rfl (by kernel_rfl) (by kernel_rfl) (by kernel_rfl) (λ_ _ _ h=>h) (Or.inl ⟨by rfl,λW hW=>by go_simp⟩) HS0.out ?_
 refine wpAnyH_take (i:=2) (v:=.pointer (some ⟨w.heap.size,0,none⟩)) rfl (by kernel_rfl) (by kernel_rfl) (by kernel_rfl) (λ_ _ _ h=>h) (Or.inl ⟨by rfl,λW hW=>by go_simp⟩) HS0.out ?_
 refine wpAnyH_take (i:=3) (v:=.int .u8 level) rfl (by kernel_rfl) (by kernel_rfl) (by kernel_rfl) (λ_ _ _ h=>h) (Or.inl ⟨by rfl,λW hW=>by have x0:=(HL0.out W hW).1;clear hW;go_simp⟩) HS0.out ?_
 refine wpAnyH_take (i:=4) (v:=.int .i64 level) rfl (by kernel_rfl) (by kernel_rfl) (by kernel_rfl) (λ_ _ _ h=>h) (Or.inl ⟨by rfl,λW hW=>by go_simp⟩) HS0.out ?_
 refine wpAnyH_take (i:=5) (v:=.string s) rfl (by kernel_rfl) (by kernel_rfl) (by kernel_rfl) (λ_ _ _ h=>h) (Or.inl ⟨by rfl,λW hW=>by go_simp⟩) HS0.out ?_
 refine wpAnyH_take (i:=6) (v:=.slice (some ⟨w.heap.size,0,none⟩) 2 2) rfl (by kernel_rfl) (by kernel_rfl) (by kernel_rfl) (λ_ _ _ h=>h) (Or.inl ⟨by rfl,λW hW=>by go_simp⟩) HS0.out ?_
 refine wpAnyH_take (i:=7) (v:=.pointer (some ⟨w.heap.size,1,none⟩)) rfl (by kernel_rfl) (by kernel_rfl) (by kernel_rfl) (λ_ _ _ h=>h) (Or.inl ⟨by rfl,λW hW=>by go_simp⟩) HS0.out ?_
 refine wpAnyH_take (i:=8) (v:=.int .u8 N) rfl (by kernel_rfl) (by kernel_rfl) (by kernel_rfl) (λ_ _ _ h=>h) (Or.inl ⟨by rfl,λW hW=>by have x1:=(HL0.out W hW).2;clear hW;go_simp⟩) HS0.out ?_
 refine wpAnyH_ready (rs:=[9]) (by kernel_rfl) (by simp) ?_
 refine AllReadyH.cons rfl (λK hK=>?_) AllReadyH.nil
 have hmk:=HMK.out;go_simp
 clear hmk;refine hK.out _ _ HS4.out (λhHeld2=>?_)
 clear hK K;refine wpAnyH_take (i:=10) (v:=.agg #[.int .i64 pg,.int .i64 level,.slice (some ⟨w3.heap.size,0,none⟩) N N,.string s,.int .i64 0]) rfl (by kernel_rfl) (by kernel_rfl) (by kernel_rfl) (λ_ _ _ h=>h) (Or.inl ⟨by rfl,λW hW=>by go_simp⟩) HS4.out ?_
 refine wpAnyH_ready (rs:=[11]) (by kernel_rfl) (by simp) ?_
 refine AllReadyH.cons rfl (λK hK=>?_) AllReadyH.nil
 go_simp
 refine hK.out _ _ (HS5.out _) (λhHeld3=>?_)
 clear hK K;refine wpAnyH_take (i:=12) (v:=.pointer (some ⟨w3.heap.size+1,0,none⟩)) rfl (by kernel_rfl) (by kernel_rfl) (by kernel_rfl) (λ_ _ _ h=>h) (Or.inl ⟨by rfl,λW hW=>by go_simp⟩) (HS5.out _) ?_
 refine wpAnyH_done (by kernel_rfl) ?_ _
 clear hHeld hHeld2 hHeld3;obtain⟨w5,hw5⟩:∃w5,w5=((w3.alloc (.cells Z 135)).alloc (.cells #[.int .i64 pg,.int .i64 level,.slice (some ⟨w3.heap.size,0,none⟩) N N,.string s,.int .i64 0] 138)).drew:=⟨_,rfl⟩;have hdr:∀X:World,X.drew.heap=X.heap:=λ_=>rfl
 rw[<-hw5];have HNL:Hid (NL es w.heap.size W.heap.size w3.heap.size (w3.heap.size+1) pg level s w 0 w5):=yH (by
  have hb35:Below w3.heap.size w3 w5:=by rw[hw5];exact (((Below.refl _ w3).alloc (Nat.le_refl _) _).alloc (by simp) _).drew
  have hz2:w2.heap.size=W.heap.size+1:=by rw[HW2.out];simp
  have hz3:w2.heap.size<=w3.heap.size:=HK3.out.size;have hl0:(pgB level es).drop 2=FO es 0:=by rw[G6];rfl
  have hl1:(FO es 0).length=510:=by rw[<-hl0,List.length_drop,GD _ _ HV.out.fit]
  have hh:∀k,k<w3.heap.size->w5.heap[k]? = w3.heap[k]?:=λk hk=>hb35.block k hk
  have hlr:W.heap.size<w3.heap.size:=(Array.getElem?_eq_some_iff.1 HR3.out).1;refine⟨⟨o1,510,c-2,?_,by omega,hl1,?_⟩,⟨Z,?_,by rw[HZS.out,HN.out],λi hi=>by omega⟩,?_,?_,by omega⟩
  ·have h:=HR3.out;unfold EH at h ⊢
   rw[hh _ hlr];exact h
  ·rw[<-hl0];exact HL3.out.below hb35
  ·rw[hw5,hdr,Below.heap_alloc _ _ _ (by simp)]
   exact heap_alloc_new w3 _
  ·rw[hw5,hdr,<-HN.out];have:=heap_alloc_new (w3.alloc (.cells Z 135)) (.cells #[.int .i64 pg,.int .i64 level,.slice (some ⟨w3.heap.size,0,none⟩) N N,.string s,.int .i64 0] 138)
   simpa using this
  ·exact FD ((AE HBW.out HB2.out).trans (HK3.out.toBelow (B:=w.heap.size) (by omega) (λi hi=>by omega))) hb35 (Nat.le_refl _))
 clear hb3 HS0 HS4 HS5 HL0 ewl hdr hw5;obtain⟨bb,hbbd⟩:∃b,b=w.heap.size:=⟨_,rfl⟩;obtain⟨rb,hrbd⟩:∃b,b=W.heap.size:=⟨_,rfl⟩;obtain⟨eb,hebd⟩:∃b,b=w3.heap.size:=⟨_,rfl⟩;obtain⟨nb,hnbd⟩:∃b,b=w3.heap.size+1:=⟨_,rfl⟩;rw[<-hbbd,<-hrbd,<-hebd]at HNL ⊢
 rw[hebd,<-hnbd,<-hebd]at HNL ⊢
 have HBD:=yH hbbd;have HRD:=yH hrbd;have HED:=yH hebd;have HND:=yH hnbd
 clear hbbd hrbd hebd hnbd HCUT HW2 HB2 HBW HR3 HL3 HK3 hbb hcv hc HMK HZ HZS;have cn2:w5.cell? ⟨nb,2,none⟩=some (.slice (some ⟨eb,0,none⟩) N N):=by rw[yC HNL.out.node,HN.out];rfl
 go_wp2;clear cn2;go_loopw [32] (λi wr=>∃k:Nat,k<=N/\i=.int .i64 k/\Hid (NL es bb rb eb nb pg level s w k wr)) (λi _=>N-(intOf i).toNat)
 case atStart=>exact⟨0,by omega,rfl,HNL⟩
 case round =>
  obtain⟨k,hk,rfl,HG⟩:=hrel;by_cases hkn:k<N
  ·obtain⟨en,hen⟩:=L9 HN.out.symm hkn;have hsh:=HV.out.short.at_ hen;obtain⟨kl,hkl⟩:∃kl,kl=en.key.length:=⟨_,rfl⟩;obtain⟨vl,hvl⟩:∃vl,vl=en.val.length:=⟨_,rfl⟩;have hkl5:kl<=255:=by omega
   have hvl5:vl<=255:=by omega
   obtain⟨⟨o,m,cc,g1,g2,g3,g4⟩,⟨cs,g5,g6,g7⟩,g8,g9,g10⟩:=HG.out;have hle:=AJ7 hen;have hlm:m=2+(kl+(vl+(FO es (k+1)).length)):=by rw[<-g3,hle];simp;omega
   have HC1:=yH (OV rb bb o m cc 2 (FO es k) wr g1 g3 (by omega) g2 g4 g10.1)
   have HLE:=yH hle;have HLM:=yH hlm;have HKL:=yH hkl;have HVL:=yH hvl;have HEN:=yH hen
   have HG5:=yH g5;have HG6:=yH g6;have HG7:=yH g7;have HG8:=yH g8;have HG9:=yH g9
   obtain⟨ne1,ne2,ne3,ne4,ne5,ne10,ne6,ne7,ne8,ne9⟩:=g10;have hg4:=yH g4;clear hle hlm hkl hvl hen g1 g3 g4 g5 g6 g7 g8 g9 hsh;go_wp2_with fail;refine HC1.out.mono ?_;rintro e w6 ⟨rfl,o2,h61,h62,h63,h64⟩;have HT6:Hid (w6.cell? ⟨nb,2,none⟩=some (.slice (some ⟨eb,0,none⟩) N N)/\w6.cell? ⟨bb,o,none⟩=some (.int .u8 (kl:Int))/\w6.cell? ⟨bb,o+1,none⟩=some (.int .u8 (vl:Int))):=yH (by
    have hnl:nb<wr.heap.size:=(Array.getElem?_eq_some_iff.1 HG8.out).1;refine⟨?_,?_⟩
    ·rw[World.cell?_of_block (h64.block nb hnl ne4),yC HG8.out,HN.out];rfl
    ·obtain⟨b,off,he,_,hc⟩:=h62.at (by rw[HLE.out];simp)
     injection he with he;injection he with e1 e2;subst e1;subst e2
     have h0:=hc 0 (by rw[HLE.out];simp)
     have h1:=hc 1 (by rw[HLE.out];simp)
     simp only[HLE.out,List.take_succ_cons,List.getElem_cons_zero,List.getElem_cons_succ]at h0 h1;rw[Nat.add_zero]at h0;refine⟨by rw[h0,<-HKL.out];congr 2;simp;omega,by rw[h1,<-HVL.out];congr 2;simp;omega⟩)
   have hd2:(FO es k).drop 2=en.key++(en.val++FO es (k+1)):=by rw[HLE.out];rfl
   rw[hd2]at h63;have HR6:=yH h61;have HL6:=yH h63;have HK6:=yH h64
   clear h61 h62 h63 h64 hd2;have HQ:Hid (∀W:World,(W.cell? ⟨nb,2,none⟩=some (.slice (some ⟨eb,0,none⟩) N N)/\W.cell? ⟨bb,o,none⟩=some (.int .u8 (kl:Int))/\W.cell? ⟨bb,o+1,none⟩=some (.int .u8 (vl:Int)))->W.cell? ⟨nb,2,none⟩=some (.slice (some ⟨eb,0,none⟩) N N)/\W.cell? ⟨bb,o,none⟩=some (.int .u8 (kl:Int))/\W.cell? ⟨bb,o+1,none⟩=some (.int .u8 (vl:Int))):=yH (λ_ h=>h)
   have ekl:IntKind.i64.wrap (kl:Int)=kl:=IntWalk.i64_in _ (by omega)
   have evl:IntKind.i64.wrap (vl:Int)=vl:=IntWalk.i64_in _ (by omega)
   go_wp2;refine wp_region_held_drew (S:=λW=>W.cell? ⟨nb,2,none⟩=some (.slice (some ⟨eb,0,none⟩) N N)/\W.cell? ⟨bb,o,none⟩=some (.int .u8 (kl:Int))/\W.cell? ⟨bb,o+1,none⟩=some (.int .u8 (vl:Int))) (by kernel_rfl) HT6.out (λhHeld=>?_)
   refine wpAnyH_take (i:=0) (v:=.pointer (some ⟨nb,0,none⟩)) rfl (by kernel_rfl) (by kernel_rfl) (by kernel_rfl) (λ_ _ _ h=>h) (Or.inl ⟨by rfl,λW hW=>by go_simp⟩) HT6.out ?_
   refine wpAnyH_take (i:=1) (v:=.pointer (some ⟨nb,0,none⟩)) rfl (by kernel_rfl) (by kernel_rfl) (by kernel_rfl) (λ_ _ _ h=>h) (Or.inl ⟨by rfl,λW hW=>by go_simp⟩) HT6.out ?_
   refine wpAnyH_take (i:=2) (v:=.pointer (some ⟨nb,2,none⟩)) rfl (by kernel_rfl) (by kernel_rfl) (by kernel_rfl) (λ_ _ _ h=>h) (Or.inl ⟨by rfl,λW hW=>by go_simp⟩) HT6.out ?_
   refine wpAnyH_take (i:=3) (v:=.slice (some ⟨eb,0,none⟩) N N) rfl (by kernel_rfl) (by kernel_rfl) (by kernel_rfl) (λ_ _ _ h=>h) (Or.inl ⟨by rfl,λW hW=>by obtain⟨x0,x1,x2⟩:=HQ.out W hW;clear hW;go_simp⟩) HT6.out ?_
   refine wpAnyH_take (i:=4) (v:=.int .i64 k) rfl (by kernel_rfl) (by kernel_rfl) (by kernel_rfl) (λ_ _ _ h=>h) (Or.inl ⟨by rfl,λW hW=>by go_simp⟩) HT6.out ?_
   refine wpAnyH_take (i:=5) (v:=.slice (some ⟨bb,o,none⟩) 2 2) rfl (by kernel_rfl) (by kernel_rfl) (by kernel_rfl) (λ_ _ _ h=>h) (Or.inl ⟨by rfl,λW hW=>by go_simp⟩) HT6.out ?_
   refine wpAnyH_take (i:=6) (v:=.pointer (some ⟨bb,o,none⟩)) rfl (by kernel_rfl) (by kernel_rfl) (by kernel_rfl) (λ_ _ _ h=>h) (Or.inl ⟨by rfl,λW hW=>by go_simp⟩) HT6.out ?_
   refine wpAnyH_take (i:=7) (v:=.int .u8 kl) rfl (by kernel_rfl) (by kernel_rfl) (by kernel_rfl) (λ_ _ _ h=>h) (Or.inl ⟨by rfl,λW hW=>by obtain⟨x0,x1,x2⟩:=HQ.out W hW;clear hW;go_simp⟩) HT6.out ?_
   refine wpAnyH_take (i:=8) (v:=.int .i64 kl) rfl (by kernel_rfl) (by kernel_rfl) (by kernel_rfl) (λ_ _ _ h=>h) (Or.inl ⟨by rfl,λW hW=>by go_simp⟩) HT6.out ?_
   refine wpAnyH_take (i:=10) (v:=.slice (some ⟨bb,o,none⟩) 2 2) rfl (by kernel_rfl) (by kernel_rfl) (by kernel_rfl) (λ_ _ _ h=>h) (Or.inl ⟨by rfl,λW hW=>by go_simp⟩) HT6.out ?_
   refine wpAnyH_take (i:=11) (v:=.pointer (some ⟨bb,o+1,none⟩)) rfl (by kernel_rfl) (by kernel_rfl) (by kernel_rfl) (λ_ _ _ h=>h) (Or.inl ⟨by rfl,λW hW=>by go_simp⟩) HT6.out ?_
   refine wpAnyH_take (i:=12) (v:=.int .u8 vl) rfl (by kernel_rfl) (by kernel_rfl) (by kernel_rfl) (λ_ _ _ h=>h) (Or.inl ⟨by rfl,λW hW=>by obtain⟨x0,x1,x2⟩:=HQ.out W hW;clear hW;go_simp⟩) HT6.out ?_
   refine wpAnyH_take (i:=13) (v:=.int .i64 vl) rfl (by kernel_rfl) (by kernel_rfl) (by kernel_rfl) (λ_ _ _ h=>h) (Or.inl ⟨by rfl,λW hW=>by go_simp⟩) HT6.out ?_
   clear ekl evl;refine wpAnyH_ready (rs:=[9]) (by kernel_rfl) (by simp) ?_
   refine AllReadyH.cons rfl (λK hK=>?_) AllReadyH.nil
   go_wp2_with fail;refine (OV rb bb o2 (m-2) (cc-2) kl (en.key++(en.val++FO es (k+1))) w6.drew HR6.out (by rw[HLM.out,HKL.out,HVL.out];simp) (by have:=HLM.out;omega) (by omega) HL6.out ne1).mono ?_
   rintro e w7 ⟨rfl,o3,h71,h72,h73,h74⟩;have HKS:Hid (∀X Y:World,AC (λj=>j=rb) X Y->nb<X.heap.size->bb<X.heap.size->(X.cell? ⟨nb,2,none⟩=some (.slice (some ⟨eb,0,none⟩) N N)/\X.cell? ⟨bb,o,none⟩=some (.int .u8 (kl:Int))/\X.cell? ⟨bb,o+1,none⟩=some (.int .u8 (vl:Int)))->Y.cell? ⟨nb,2,none⟩=some (.slice (some ⟨eb,0,none⟩) N N)/\Y.cell? ⟨bb,o,none⟩=some (.int .u8 (kl:Int))/\Y.cell? ⟨bb,o+1,none⟩=some (.int .u8 (vl:Int))):=yH (λX Y hXY h1 h2 h=>by
    have e1:=hXY.block nb h1 ne4;have e2:=hXY.block bb h2 ne1;exact⟨(World.cell?_of_block e1).trans h.1,(World.cell?_of_block e2).trans h.2.1,(World.cell?_of_block e2).trans h.2.2⟩)
   have hz6:nb<w6.heap.size/\bb<w6.heap.size:=by
    have hnl:nb<wr.heap.size:=(Array.getElem?_eq_some_iff.1 HG8.out).1;have h1:=HK6.out.size;have hbl:bb<wr.heap.size:=hg4.out.blk_lt (by rw[HLE.out];simp)
    omega
   have HT7:=yH (HKS.out w6.drew w7 h74 hz6.1 hz6.2 HT6.out);refine hK.out _ _ HT7.out (λhHeld2=>?_)
   clear hK K hHeld hHeld2;have hz7:=h74.size;rw[show w6.drew.heap.size=w6.heap.size from rfl]at hz7
   rw[List.drop_left' HKL.out.symm]at h73;rw[List.take_left' HKL.out.symm]at h72;have HR7:=yH h71;have HE7:=yH h72;have HL7:=yH h73;have HK7:=yH h74
   clear h71 h72 h73 h74;refine wpAnyH_ready (rs:=[14]) (by kernel_rfl) (by simp) ?_
   refine AllReadyH.cons rfl (λK hK=>?_) AllReadyH.nil
   go_simp
   go_at_call 153;refine (OV rb bb o3 (m-2-kl) (cc-2-kl) vl (en.val++FO es (k+1)) w7 HR7.out (by rw[HLM.out,HVL.out];simp) (by have:=HLM.out;omega) (by omega) HL7.out ne1).mono ?_
   rintro e w8 ⟨rfl,o4,h81,h82,h83,h84⟩;have HT8:=yH (HKS.out w7 w8 h84 (by omega) (by omega) HT7.out)
   refine hK.out _ _ HT8.out (λhHeld3=>?_)
   clear hK K hHeld3;rw[List.drop_left' HVL.out.symm]at h83;rw[List.take_left' HVL.out.symm]at h82;have HR8:=yH h81;have HE8:=yH h82;have HL8:=yH h83;have HK8:=yH h84
   clear h81 h82 h83 h84;refine wpAnyH_take (i:=15) (v:=.agg #[.slice (some ⟨bb,o2,none⟩) kl kl,.slice (some ⟨bb,o3,none⟩) vl vl]) rfl (by kernel_rfl) (by kernel_rfl) (by kernel_rfl) (λ_ _ _ h=>h) (Or.inl ⟨by rfl,λW hW=>by go_simp⟩) HT8.out ?_
   refine wpAnyH_take (i:=16) (v:=.pointer (some ⟨eb,k*2,none⟩)) rfl (by kernel_rfl) (by kernel_rfl) (by kernel_rfl) (λ_ _ _ h=>h) (Or.inl ⟨by rfl,λW hW=>by go_simp⟩) HT8.out ?_
   refine wpAnyH_ready (rs:=[17]) (by kernel_rfl) (by simp) ?_
   refine AllReadyH.cons rfl (λK hK=>?_) AllReadyH.nil
   go_simp
   obtain⟨v1,hv1⟩:∃v1:Value,v1=.slice (some ⟨bb,o2,none⟩) kl kl:=⟨_,rfl⟩;obtain⟨v2,hv2⟩:∃v2:Value,v2=.slice (some ⟨bb,o3,none⟩) vl vl:=⟨_,rfl⟩;have HFIN:=yH (BR3 HG hkn HEN HK6 HK7 HK8 HR8 HL8 HE7 HE8 HKL HVL HLM g2 HN.out.symm (v1:=v1) (v2:=v2) hv1 hv2);have hS9:Hid (((w8.setCell ⟨eb,k*2,none⟩ v1).setCell ⟨eb,k*2+1,none⟩ v2).cell? ⟨nb,2,none⟩=some (.slice (some ⟨eb,0,none⟩) N N)/\((w8.setCell ⟨eb,k*2,none⟩ v1).setCell ⟨eb,k*2+1,none⟩ v2).cell? ⟨bb,o,none⟩=some (.int .u8 (kl:Int))/\((w8.setCell ⟨eb,k*2,none⟩ v1).setCell ⟨eb,k*2+1,none⟩ v2).cell? ⟨bb,o+1,none⟩=some (.int .u8 (vl:Int))):=yH (by
    have ho:∀b j,b≠eb->((w8.setCell ⟨eb,k*2,none⟩ v1).setCell ⟨eb,k*2+1,none⟩ v2).cell? ⟨b,j,none⟩=w8.cell? ⟨b,j,none⟩:=λb j hb=>by
     rw[World.cell?_setCell_other _ _ _ _ (λh=>hb (by injection h with e;exact e.symm)),World.cell?_setCell_other _ _ _ _ (λh=>hb (by injection h with e;exact e.symm))]
    exact⟨(ho nb 2 ne5).trans HT8.out.1,(ho bb o ne2).trans HT8.out.2.1,(ho bb (o+1) ne2).trans HT8.out.2.2⟩)
   obtain⟨u0,u1,d0,d1,d2,d3⟩:=HFIN.out.1;have HF2:=yH HFIN.out.2;subst hv1;subst hv2
   have e1:(w8.setCell ⟨eb,k*2,none⟩ (.slice (some ⟨bb,o2,none⟩) kl kl)).cell? ⟨eb,k*2+1,none⟩=some u1:=by rw[World.cell?_setCell_other _ _ _ _ (by simp)];exact d1
   have e2:(w8.setCell ⟨eb,k*2,none⟩ (.slice (some ⟨bb,o2,none⟩) kl kl)).frozen? ⟨eb,k*2+1,none⟩=false:=by rw[World.frozen?_setCell];exact d3
   clear HFIN HT6 HT7 HT8 HKS HQ HE7 HE8 HL6 HL7 HL8 HR6 HR7 HR8 HK6 HK7 HK8 HC1 d1 d3 hz6 hz7;simp only[d0,d2,e1,e2,Result.andThen,if_false,Bool.false_eq_true];refine hK.out _ _ hS9.out (λhHeld4=>?_)
   clear hK K hHeld4 hS9 d0 d2 e1 e2;refine wpAnyH_done (by kernel_rfl) ?_ _
   go_wp2;go_roundw
   case rel=>exact⟨k+1,by omega,by go_num,HF2⟩
   case measure=>simp[intOf];omega
  ·obtain rfl:k=N:=by omega
   have hNL:NL es bb rb eb nb pg level s w es.length wr:=by rw[<-HN.out];exact HG.out
   have hnode:=AO5 hNL HS.out HV.out hpg (λ_=>False) (λ_ h=>h.elim)
   obtain⟨⟨o,m,cc,g1,_⟩,_,g8,g9,ne1,ne2,ne3,ne4,ne5,ne10,ne6,ne7,ne8,ne9⟩:=hNL;have hnl:nb<wr.heap.size:=(Array.getElem?_eq_some_iff.1 g8).1;have hrl:rb<wr.heap.size:=(Array.getElem?_eq_some_iff.1 g1).1;have HSI:=yH (P3 _ _ wr hnode);unfold NO.ptr AI5 at HSI;simp only at HSI;have HND:=yH hnode;have HRS:Hid (wr.heap[rb]? = some (.cells #[.slice (some ⟨bb,o,none⟩) m cc,.bool false] 227 (0,0))):=yH g1;have HG8:=yH g8;clear g1 g8 hnode;go_wp2_with fail;refine HSI.out.mono ?_;rintro e wa ⟨rfl,hba⟩;have hca4:wa.cell? ⟨nb,4,none⟩=some (.int .i64 0):=by rw[hba.cell (p:=⟨nb,4,none⟩) hnl,yC HG8.out];rfl
   have hfa4:wa.frozen? ⟨nb,4,none⟩=false:=by rw[hba.frozen (p:=⟨nb,4,none⟩) hnl];simp[World.frozen?,HG8.out]
   have HNA:=yH ((HND.out.below hba).setHad ne5 (szE es) (by have:=HV.out.fit;omega))
   obtain⟨wb,hwb⟩:∃wb,wb=wa.setCell ⟨nb,4,none⟩ (.int .i64 (szE es)):=⟨_,rfl⟩;have hcb1:(wa.setCell ⟨nb,4,none⟩ (.int .i64 (szE es))).cell? ⟨rb,1,none⟩=some (.bool false):=by
    rw[World.cell?_setCell_other _ _ _ _ (λh=>ne4 (by injection h)),hba.cell (p:=⟨rb,1,none⟩) hrl,yC HRS.out];rfl
   rw[<-hwb]at HNA;have HST:=yH (AR7 _ _ wb HNA.out HV.out);unfold NO.ptr AI5 at HST;simp only at HST;have HWB:=yH hwb;have hz:w.heap.size<=wa.heap.size:=Nat.le_trans g9.size hba.size;have HBB:Hid (Below w.heap.size w wb):=yH (by rw[hwb];exact (FD g9 hba (Nat.le_refl _)).setCell (show w.heap.size<=nb from ne9) _)
   clear hwb;go_wp2_with fail;rw[<-HWB.out];refine HST.out.mono ?_;rintro e wc ⟨rfl,hbc⟩;have HPOST:Hid (RE pg level es w (.pointer (some ⟨nb,0,none⟩)) wc):=yH (by
    refine⟨AI5 nb eb pg level es (szE es),rfl,⟨λX hX=>?_,⟨ne9,ne8⟩,FD HBB.out hbc (Nat.le_refl _)⟩,rfl,rfl,rfl,rfl,rfl,rfl,rfl⟩
    have hNL:NL es bb rb eb nb pg level s w es.length wr:=by rw[<-HN.out];exact HG.out
    have h1:=(((AO5 hNL HS.out HV.out hpg X hX).below hba).setHad ne5 (szE es) (by have:=HV.out.fit;omega))
    rw[<-HWB.out]at h1;exact h1.below hbc)
   go_wp2;go_ret2;exact⟨_,rfl,HPOST.out⟩
def GR (q:Nat):Option Dr->List Pt
 | some x=>DL q x
 | none=>[]
def BC (D:Nat->Option Dr)(ks:List Nat):List Pt:=ks.flatMap λq=>GR q (D q)
theorem U7 (q:Nat)(x:Dr):(DL q x).length<=513:=by
 have h1:(FK q x.fresh).length<=1:=by unfold FK;split <;> simp
 have h2:=(EQ x.was x.now 512).1;rw[DL,List.length_append,List.length_map];omega
theorem Q6 (D:Nat->Option Dr)(ks:List Nat):(BC D ks).length<=513*ks.length:=by
 induction ks with
 | nil=>simp[BC]
 | cons k r ih =>
  have h:(GR k (D k)).length<=513:=by
   cases h:D k with
   | none=>simp[GR]
   | some x=>exact U7 k x
  unfold BC at ih ⊢
  rw[List.flatMap_cons,List.length_append,List.length_cons];omega
theorem M9 (a s db m:Nat)(h:Hd)(D:Nat->Option Dr)(w:World)(x:CO w a s h (.map (some db)))(y:A4 w db m D) :
  Calls Tryz.prog 57 #[.pointer (some ⟨a,0,none⟩)] w λe w'=>∃v ks,e=.returned v/\E3 D ks/\BP w.heap.size w' v (BC D ks)/\Below w.heap.size w w':=by
 have c83:=x.dr;have HX:=yH x;have HY:=yH y;have HKC:=yH (AV2 db w);have HSC:=yH (ZU y);clear x y;go_enter Tryz.func57,Tryz.ntmps57;go_wp2_with fail;refine HKC.out.mono ?_;rintro e w' ⟨rfl,hw⟩;subst w';go_wp2_with fail;refine HSC.out.mono ?_;rintro e w2 ⟨v2,ks,rfl,hks,hrow,hb2⟩;obtain⟨n,hn⟩:∃n,n=ks.length:=⟨_,rfl⟩;have hn4:n<=4096:=by rw[hn];exact hks.le HY.out
 obtain⟨a2,cc2,rfl⟩:∃a c,v2=.slice a n c:=by
  rcases hrow.2 with⟨h1,h0⟩|⟨g,cap,cur,hv,_⟩
  ·exact⟨none,0,by rw[h1,hn,h0]⟩
  ·exact⟨_,cap,by rw[hv,hn]⟩
 have HKS:=yH hks;have HROW:=yH hrow;have HB2:=yH hb2;have HN:=yH hn
 clear hks hrow hb2 hn c83;go_wp2;go_loopw [3,13] (λv i wr=>∃(k m':Nat) (al:Option Addr) (c:Nat) (acc:List Pt),k<=n/\i=.int .i64 k/\v=.slice al m' c/\Hid (m'=acc.length/\acc=BC D (ks.take k))/\Hid (BP w2.heap.size wr (.slice al m' c) acc)/\Hid (Below w2.heap.size w2 wr)) (λ_ i _=>n-(intOf i).toNat)
 case atStart=>exact⟨0,0,none,0,[],by omega,rfl,rfl,yH ⟨rfl,rfl⟩,yH ⟨rfl,.inl ⟨rfl,rfl⟩⟩,yH (Below.refl _ _)⟩
 case round =>
  obtain⟨k,m',al,c,acc,hk,rfl,rfl,hm,ho,hb⟩:=hrel;by_cases hlt:k<n
  ·have hlt':k<ks.length:=by rw[<-HN.out];exact hlt
   have hkn:(k:Int)<n:=by omega
   obtain⟨g,hg,hBg,hgl⟩:∃g,a2=some ⟨g,0,none⟩/\w.heap.size<=g/\g<w2.heap.size:=by
    rcases HROW.out.2 with⟨h1,h0⟩|⟨g,cap,cur,hv,hB,hg,_⟩
    ·omega
    ·injection hv with hv _ _
     exact⟨g,hv,hB,(Array.getElem?_eq_some_iff.1 hg).1⟩
   subst hg;obtain⟨q,hq⟩:∃q,q=ks[k]:=⟨_,rfl⟩;have e0:wr.cell? ⟨g,k,none⟩=some (.int .i64 q):=by
    have:=HROW.out.cells (g:=g) rfl k (.int .i64 (q:Int)) (by rw[List.getElem?_map,List.getElem?_eq_getElem hlt',<-hq];rfl)
    rw[A3,Nat.zero_add]at this;exact (World.cell?_of_block (hb.out.block g hgl)).trans this
   have hqm:q ∈ ks:=by rw[hq];exact List.getElem_mem hlt'
   obtain⟨x,hx⟩:=Option.isSome_iff_exists.1 ((HKS.out.2 q).1 hqm);have hBr:Below w.heap.size w wr:=HB2.out.trans (hb.out.mono HB2.out.size);have hyr:=HY.out.below hBr;have hlk:=hyr.look hx;obtain⟨_,x1,_,x2,x3,_,_⟩:=hyr.at_ q x hx;have HDP:Hid (Calls Tryz.prog 103 #[x.ptr,.int .i64 q] wr λe w'=>∃v,e=.returned v/\BP wr.heap.size w' v (DL q x)/\Below wr.heap.size wr w'):=yH (XN q x wr x1 x2 x3)
   have c83:wr.cell? ⟨a,83,none⟩=some (.map (some db)):=(HX.out.below hBr).dr;have HSTEP:Hid (∀w3 v3,BP wr.heap.size w3 v3 (DL q x)->Below wr.heap.size wr w3->∃al' c' w4,(Builtin.append_ #[116,116] 116 #[.slice al m' c,v3]).run Tryz.prog w3=.ok (.slice al' (m'+(DL q x).length) c') w4/\BP w2.heap.size w4 (.slice al' (m'+(DL q x).length) c') (acc++DL q x)/\Below w2.heap.size w2 w4):=yH (λw3 v3 hp3 hb3=>by
    have hacc:acc.length+(DL q x).length<=4194304:=by
     rw[hm.out.2];have h1:=Q6 D (ks.take k);have h2:=U7 q x;have h3:(ks.take k).length<=k:=by rw[List.length_take];omega
     have h4:=HN.out;have h5:k<4096:=by omega
     omega
    obtain⟨v4,w4,h1,h2,h3⟩:=AF4 w3 (.slice al m' c) v3 acc (DL q x) wr.heap.size (Joins.ownsRow_le (AX ho.out hb3) (Nat.zero_le _)) hp3 hacc 116;have hown:∀j,(Value.slice al m' c).ownBlock=some j->w2.heap.size<=j:=λj hj=>(World.ownsRow.lt ho.out j hj).1
    have hB3:Below w2.heap.size w2 w3:=hb.out.trans (hb3.mono hb.out.size);have hsz3:w2.heap.size<=w3.heap.size:=hB3.size;obtain⟨a',c',hv⟩:=h2.shape;rw[List.length_append,<-hm.out.1]at hv;subst hv;refine⟨a',c',w4,h1,?_,hB3.trans (h3.below hsz3 hown)⟩;rcases h2.2 with h|⟨g,cap,cur,hv,_,r⟩
    ·exact⟨h2.1,.inl h⟩
    ·exact⟨h2.1,.inr ⟨g,cap,cur,hv,h3.own hsz3 hown g (by rw[hv];rfl),r⟩⟩)
   have HM':Hid (m'+(DL q x).length=(acc++DL q x).length/\acc++DL q x=BC D (ks.take (k+1))):=yH ⟨by rw[List.length_append,hm.out.1],by
    rw[List.take_succ_eq_append_getElem hlt',BC,List.flatMap_append,hm.out.2];unfold BC;rw[<-hq];simp[hx,GR]⟩
   clear hlt' hq hqm hyr x1 x2 x3 hm ho hb hBr hgl hBg hx;go_wp2_with fail;refine HDP.out.mono ?_;rintro e w3 ⟨v3,rfl,hp3,hb3⟩;obtain⟨al',c',w4,hr4,ho4,hb4⟩:=HSTEP.out w3 v3 hp3 hb3;obtain⟨m4,hm4⟩:∃m4,m4=m'+(DL q x).length:=⟨_,rfl⟩;rw[<-hm4]at hr4 ho4;have HR4:=yH hr4;have HO4:=yH ho4;have HB4:=yH hb4
   have HM4:Hid (m4=(acc++DL q x).length/\acc++DL q x=BC D (ks.take (k+1))):=yH (by rw[hm4];exact HM'.out)
   clear hp3 hb3 hr4 ho4 hb4 hm4 c83 e0 hlk;go_wp2_with (at_builtin;refine Lib.wpList_append_run _ rfl _ _ 116 116 rfl _ _ rfl rfl _ _ HR4.out ?_)
   go_roundw
   case rel=>exact⟨k+1,m4,al',c',_,by omega,by simp,rfl,HM4,HO4,HB4⟩
   case measure=>simp[intOf];omega
  ·have hkn:k=n:=by omega
   subst hkn;have hacc:acc=BC D ks:=by rw[hm.out.2,List.take_of_length_le (by rw[<-HN.out];exact Nat.le_refl _)]
   have HE:Hid (BP w.heap.size wr (.slice al m' c) (BC D ks)/\Below w.heap.size w wr):=yH ⟨by
    rw[<-hacc];exact Joins.ownsRow_le ho.out HB2.out.size,HB2.out.trans (hb.out.mono HB2.out.size)⟩
   clear hacc hm ho hb;go_wp2;go_ret;exact⟨_,ks,rfl,HKS.out,HE.out.1,HE.out.2⟩
def JG (B:Nat)(S:Nat->Prop)(a s d l p n:Nat)(C:Nat->List UInt8)(P:Nat->Nat)(N:Nat)(rs:List ByteArray)(f2:List UInt8)(h:Hd)(ps:List Pt)(w w':World):Prop :=
 ∃S',AC (λk=>S k\/k=s\/k=a) w w'/\(∀k,k<w.heap.size->S' k->S k)/\BD (JL (rs++[⟨(EI h ps).toArray⟩]) f2) B S' p d n (EE C ps) P (N+1+3*ps.length) w'/\AV w' s d l p h none/\CO w' a s h (.map none)
theorem XT (B:Nat)(S:Nat->Prop)(a s d l p n db m:Nat)(C:Nat->List UInt8)(P:Nat->Nat)(N:Nat)(rs:List ByteArray)(f2:List UInt8)(last h:Hd)(D:Nat->Option Dr)(ks:List Nat)(w:World)
  (x:CH w a s d l p db m last h D) (hs:¬S s) (ha:¬S a) (lg:CW l d w) (hl:¬S l) (hla:l≠a/\l≠s) (g:BD (JL rs f2) B S p d n C P N w) (hks:E3 D ks) (hne:BC D ks≠[]) (hf:∀p ∈ BC D ks,p.Fits) (hsz:(EI h (BC D ks)).length<=16777216)
  (hrs:GL rs) (hc:C4 rs ⟨(EI h (BC D ks)).toArray⟩=0) (hP:DF P≠n) (hN:N+1+3*(BC D ks).length<=4398046511104) :
  Calls Tryz.prog 19 #[.pointer (some ⟨a,0,none⟩)] w λe w'=>e=.returned (.int .i64 0)/\JG B S a s d l p n C P N rs f2 h (BC D ks) w w':=by
 obtain⟨ps,hps⟩:∃ps,ps=BC D ks:=⟨_,rfl⟩;rw[<-hps]at hne hf hsz hc hN ⊢
 have HR:=yH x.live;unfold JA at HR;have hone:∀ks',E3 D ks'->ks'=ks:=λks' hk'=>List.Perm.eq_of_pairwise (le:=λa b=>a<b) (λa b _ _ h1 h2=>by omega) hk'.1 hks.1 ((List.perm_ext_iff_of_nodup (hk'.1.imp (λh=>by omega)) (hks.1.imp (λh=>by omega))).2 λq=>by rw[hk'.2,hks.2])
 have HAP:Hid (Calls Tryz.prog 57 #[.pointer (some ⟨a,0,none⟩)] w λe w'=>∃al c,e=.returned (.slice al ps.length c)/\BP w.heap.size w' (.slice al ps.length c) ps/\Below w.heap.size w w'):=yH ((M9 a s db m h D w x.ac x.dr).mono λe w' ⟨v,ks',h1,h2,h3,h4⟩=>by
  obtain rfl:=hone ks' h2;rw[<-hps]at h3;obtain⟨al,c,rfl⟩:=h3.shape;exact⟨al,c,h1,h3,h4⟩)
 have HFIN:Hid (∀w1 v,BP w.heap.size w1 v ps->Below w.heap.size w w1->Calls Tryz.prog 50 #[.pointer (some ⟨a,0,none⟩)] w1 λe w2=>e=.returned (.tuple #[])/\Hid (∀W,Below w2.heap.size w2 W ->
   ((W.cell? ⟨a,1,none⟩=some (.pointer (some ⟨s,1,none⟩))/\W.rangeAt a 2 h.cells)/\Calls Tryz.prog 58 #[.pointer (some ⟨s,1,none⟩),.agg h.cells.toArray,v] W λe w'=>e=.returned (.int .i64 0) /\
    (w'.cell? ⟨a,1,none⟩=some (.pointer (some ⟨s,1,none⟩))/\w'.rangeAt a 2 h.cells)/\JG B S a s d l p n C P N rs f2 h ps w w'))):=yH (λw1 v hp1 hb1=>by
  have x1:=x.below hb1;refine (AP3 a s d l p h last _ (some a) w1 x1.ac x1.sp x1.ok x1.okl x1.ne.1).mono ?_;rintro e w2 ⟨rfl,ha2,hs2,hk2⟩;refine⟨rfl,yH (λW hbW=>?_)⟩
  have haW:=ha2.below hbW;have hsW:=hs2.below hbW;refine⟨⟨haW.st,haW.hd⟩,?_⟩;have g1:=g.below hb1;have hkw:AC (λk=>k=s\/k=a) w1 W:=hk2.trans (AC.ofBelow (S:=λk=>k=s\/k=a) hbW) (λ_ hi=>.inl hi)
  have g2:BD (JL rs f2) B S p d n C P N W:=g1.kept hkw (λk _ hk=>by
   rintro (rfl | rfl)
   ·exact hs hk
   ·exact ha hk)
  have lg2:CW l d W:=(lg.below hb1).kept hkw (by rintro (h | h);exact hla.2 h;exact hla.1 h)
  have hown:∀b,v.ownBlock=some b->w.heap.size<=b/\b<w1.heap.size:=λb hb=>World.ownsRow.lt hp1 b hb
  have hlts:=x.sp.lt;have hlta:=x.ac.lt;have hpW:BP w.heap.size W v ps:=AG hp1 (λb hb=>hkw.block b (hown b hb).2 (by have:=(hown b hb).1;omega))
  have hltS:∀b,S b->b<w.heap.size:=λb hb=>(g.low b hb).2
  have hszs:w.heap.size<=W.heap.size:=Nat.le_trans hb1.size hkw.size;refine (U5 B S s d l p n C P N rs f2 last h none v ps w.heap.size W hsW x.okl.len x.ok hs lg2 hl g2 hpW (λb hb hS=>by have:=hltS b hS;have:=(hown b hb).1;omega) hf hsz hrs hc hP hN).mono ?_
  rintro e w' ⟨rfl,S',h1,h2,h3,h4⟩;have haw':CO w' a s h (.map none):=haW.kept h1 (by rintro (hh | hh);exact ha hh;exact x.ne.1 hh)
  refine⟨rfl,⟨haw'.st,haw'.hd⟩,S',?_,λk hk hh=>h2 k (by omega) hh,h3,h4,haw'⟩
  refine (((AC.ofBelow (S:=λk=>S k\/k=s\/k=a) hb1).trans (hkw.mono (T:=λk=>S k\/k=s\/k=a) (λk hk=>.inr hk)) (λ_ hi=>.inl hi)).trans (h1.mono (T:=λk=>S k\/k=s\/k=a) (λk hk=>hk.imp id .inl)) (λ_ hi=>.inl hi)))
 have hlen:ps.length≠0:=λh0=>hne (List.eq_nil_of_length_eq_zero h0)
 obtain⟨ll,hll⟩:∃ll,ll=ps.length:=⟨_,rfl⟩;rw[<-hll]at HAP hlen;have hl0:((ll:Int) == 0)=false:=by simp;omega
 have hl1:decide ((ll:Int)=0)=false:=decide_eq_false (by omega)
 have hl2:¬(ll:Int)=0:=by omega
 obtain⟨X,hX⟩:∃X:List Value,X=h.cells:=⟨_,rfl⟩;have HXL:Hid ((Tryz.prog.info? 37).map (·.size)=some X.length):=yH (by rw[hX,Hd.cells_length x.ok];exact NN)
 rw[<-hX]at HFIN;clear x hs ha lg hl hla g hks hne hf hsz hrs hc hP hN hone hll hX hps hlen;go_enter Tryz.func19,Tryz.ntmps19;go_wp2_with fail;refine HR.out.mono ?_;rintro e w' ⟨rfl,hw⟩;subst w';go_wp2_with fail;refine HAP.out.mono ?_;rintro e w1 ⟨al,c,rfl,hp1,hb1⟩;have HEN:=yH (HFIN.out w1 _ hp1 hb1);clear hp1 hb1;go_wp2_with fail;refine HEN.out.mono ?_;rintro e w2 ⟨rfl,HW⟩;go_wp2;go_quiet (fail);obtain⟨W,hW⟩:∃W,W=w2.drewN nq:=⟨_,rfl⟩;rw[<-hW];have hwb:Below w2.heap.size w2 W.drew:=by rw[hW];exact⟨rfl,rfl,rfl,Nat.le_refl _,λ_ _=>rfl⟩
 obtain⟨hS0,hcall⟩:=HW.out _ hwb;have HS0:=yH hS0;have HCA:=yH hcall;clear hW hwb hS0 hcall;go_wp2;refine wp_region_held_drew (S:=λW=>W.cell? ⟨a,1,none⟩=some (.pointer (some ⟨s,1,none⟩))/\W.rangeAt a 2 X) (by kernel_rfl) HS0.out (λhHeld=>?_)
 refine wpAnyH_take (i:=0) (v:=.pointer (some ⟨a,0,none⟩)) rfl (by kernel_rfl) (by kernel_rfl) (by kernel_rfl) (λ_ _ _ h=>h) (Or.inl ⟨by rfl,λW hW=>by clear hW;go_simp⟩) HS0.out ?_
 refine wpAnyH_take (i:=1) (v:=.pointer (some ⟨a,0,none⟩)) rfl (by kernel_rfl) (by kernel_rfl) (by kernel_rfl) (λ_ _ _ h=>h) (Or.inl ⟨by rfl,λW hW=>by clear hW;go_simp⟩) HS0.out ?_
 refine wpAnyH_take (i:=2) (v:=.pointer (some ⟨a,1,none⟩)) rfl (by kernel_rfl) (by kernel_rfl) (by kernel_rfl) (λ_ _ _ h=>h) (Or.inl ⟨by rfl,λW hW=>by clear hW;go_simp⟩) HS0.out ?_
 refine wpAnyH_take (i:=3) (v:=.pointer (some ⟨s,1,none⟩)) rfl (by kernel_rfl) (by kernel_rfl) (by kernel_rfl) (λ_ _ _ h=>h) (Or.inl ⟨by rfl,λW hW=>by have hh:=hW.1;clear hW;go_simp⟩) HS0.out ?_
 refine wpAnyH_take (i:=4) (v:=.pointer (some ⟨a,0,none⟩)) rfl (by kernel_rfl) (by kernel_rfl) (by kernel_rfl) (λ_ _ _ h=>h) (Or.inl ⟨by rfl,λW hW=>by clear hW;go_simp⟩) HS0.out ?_
 refine wpAnyH_take (i:=5) (v:=.pointer (some ⟨a,0,none⟩)) rfl (by kernel_rfl) (by kernel_rfl) (by kernel_rfl) (λ_ _ _ h=>h) (Or.inl ⟨by rfl,λW hW=>by clear hW;go_simp⟩) HS0.out ?_
 refine wpAnyH_take (i:=6) (v:=.pointer (some ⟨a,2,none⟩)) rfl (by kernel_rfl) (by kernel_rfl) (by kernel_rfl) (λ_ _ _ h=>h) (Or.inl ⟨by rfl,λW hW=>by clear hW;go_simp⟩) HS0.out ?_
 refine wpAnyH_take (i:=7) (v:=.agg X.toArray) rfl (by kernel_rfl) (by kernel_rfl) (by kernel_rfl) (λ_ _ _ h=>h) (yieldsIf_load_mid (by rfl) 37 _ rfl a 2 rfl X _ (λW hW=>hW.2) Tryz.underlying37 rfl HXL.out) HS0.out ?_
 refine wpAnyH_take (i:=8) (v:=.slice al ll c) rfl (by kernel_rfl) (by kernel_rfl) (by kernel_rfl) (λ_ _ _ h=>h) (Or.inl ⟨by rfl,λW hW=>by clear hW;go_simp⟩) HS0.out ?_
 refine wpAnyH_ready (rs:=[9]) (by kernel_rfl) (by simp) ?_
 refine AllReadyH.cons rfl (λK hK=>?_) AllReadyH.nil
 go_simp
 go_at_call 58;refine HCA.out.mono ?_;rintro e w4 ⟨rfl,hS4,hpost⟩;have HPO:=yH hpost;clear hpost;refine hK.out _ _ hS4 (λhHeld2=>?_)
 clear hK K;refine wpAnyH_take (i:=10) (v:=.int .i64 0) rfl (by kernel_rfl) (by kernel_rfl) (by kernel_rfl) (λ_ _ _ h=>h) (Or.inl ⟨by rfl,λW hW=>by clear hW;go_simp⟩) hS4 ?_
 refine wpAnyH_done (by kernel_rfl) ?_ _
 clear hHeld hHeld2;go_wp2;go_ret;exact⟨rfl,HPO.out⟩
theorem AU5 (k n:Nat):BM (k+1) n=BM k (n / 256)++[UInt8.ofNat n]:=by
 unfold BM;rw[List.range_succ,List.map_append,List.map_cons,List.map_nil];congr 1
 ·refine List.map_congr_left λj hj=>?_
  have hj:=List.mem_range.1 hj;rw[Nat.div_div_eq_div_mul,show k+1-1-j=(k-1-j)+1 by omega,Nat.pow_succ,Nat.mul_comm 256]
 ·rw[show k+1-1-k=0 by omega];simp
theorem AN1:∀(k n:Nat),n<256 ^ k->v4 (BM k n)=n
 | 0,n,h=>by simp at h;subst h;rfl
 | k+1,n,h=>by
  rw[AU5,VY,AN1 k (n / 256) (by rw[Nat.pow_succ]at h;omega),UInt8.toNat_ofNat']
  omega
theorem QA (a l:List UInt8)(sh:Bool)(k:Nat)(h:a.length=k):rTk (a++l) sh k=(a,l,sh):=by
 subst h;unfold rTk;rw[if_neg (by simp),List.take_left',List.drop_left'] <;> rfl
theorem F1 (k n:Nat)(l:List UInt8)(sh:Bool)(h:n<256 ^ k):CF (BM k n++l,sh) k=(n,(l,sh)):=by
 unfold CF;simp only
 rw[QA _ _ _ _ (AW k n),AN1 k n h]
def FM (y:Hd)(f:Nat->Nat):Nat->Hd
 | 0=>y
 | k+1=>(FM y f k).setRoot k (f k)
def GM (y:Hd)(f:Nat->Nat):Nat->Hd
 | 0=>y
 | k+1=>(GM y f k).setWord k (f k)
theorem SS (y:Hd)(f:Nat->Nat)(hf:∀i,f i<2147483648)(sh:Bool):∀(k:Nat) (l:List UInt8),DY k (y,(((List.range k).flatMap λi=>BM 4 (f i))++l,sh))=(FM y f k,(l,sh))
 | 0,l=>by simp[DY,FM]
 | k+1,l=>by
  rw[H0,List.append_assoc,DY,SS y f hf sh k,F1 4 (f k) l sh (by have:=hf k;omega)]
  rfl
theorem SP (y:Hd)(f:Nat->Nat)(hf:∀i,f i<18446744073709551616)(sh:Bool):∀(k:Nat) (l:List UInt8),EJ k (y,(((List.range k).flatMap λi=>BM 8 (f i))++l,sh))=(GM y f k,(l,sh))
 | 0,l=>by simp[EJ,GM]
 | k+1,l=>by
  rw[H0,List.append_assoc,EJ,SP y f hf sh k,F1 8 (f k) l sh (by have:=hf k;omega)]
  rfl
theorem OD (y:Hd)(f:Nat->Nat):∀k,(FM y f k).count=y.count
 | 0=>rfl
 | k+1=>OD y f k
theorem P6 (y:Hd)(f:Nat->Nat):∀k,(FM y f k).free=y.free
 | 0=>rfl
 | k+1=>P6 y f k
theorem OC (y:Hd)(f:Nat->Nat):∀k,(GM y f k).count=y.count
 | 0=>rfl
 | k+1=>OC y f k
theorem OB (y:Hd)(f:Nat->Nat):∀k,(GM y f k).roots=y.roots
 | 0=>rfl
 | k+1=>OB y f k
theorem R7 (y:Hd)(f:Nat->Nat):∀k,(FM y f k).roots.length=y.roots.length/\∀i,i<y.roots.length->(FM y f k).roots[i]? = if i<k then some (f i) else y.roots[i]?
 | 0=>⟨rfl,λi _=>by simp[FM]⟩
 | k+1=>by
  obtain⟨h1,h2⟩:=R7 y f k;refine⟨by simp[FM,Hd.setRoot,h1],λi hi=>?_⟩
  simp only[FM,Hd.setRoot];by_cases hk:i=k
  ·subst hk;rw[List.getElem?_set_self (by omega),if_pos (by omega)]
  ·rw[List.getElem?_set_ne (by omega),h2 i hi]
   by_cases h:i<k
   ·rw[if_pos h,if_pos (by omega)]
   ·rw[if_neg h,if_neg (by omega)]
theorem R6 (y:Hd)(f:Nat->Nat):∀k,(GM y f k).free.length=y.free.length/\∀i,i<y.free.length->(GM y f k).free[i]? = if i<k then some (f i) else y.free[i]?
 | 0=>⟨rfl,λi _=>by simp[GM]⟩
 | k+1=>by
  obtain⟨h1,h2⟩:=R6 y f k;refine⟨by simp[GM,Hd.setWord,h1],λi hi=>?_⟩
  simp only[GM,Hd.setWord];by_cases hk:i=k
  ·subst hk;rw[List.getElem?_set_self (by omega),if_pos (by omega)]
  ·rw[List.getElem?_set_ne (by omega),h2 i hi]
   by_cases h:i<k
   ·rw[if_pos h,if_pos (by omega)]
   ·rw[if_neg h,if_neg (by omega)]
theorem Hd.Ok.word_zero {h:Hd}(k:h.Ok){i:Nat}(hi:h.count / 64<i):h.word i=0:=by
 refine Nat.eq_of_testBit_eq λb=>?_
 rw[Nat.zero_testBit];by_cases hb:b<64
 ·cases hv:(h.word i).testBit b with
  | false=>rfl
  | true =>
   have hf:h.isFree (64*i+b)=true:=by
    unfold Hd.isFree;rw[show (64*i+b) / 64=i by omega,show (64*i+b) % 64=b by omega]
    exact hv
   have:=(k.in_ _ hf).2
   omega
 ·exact Nat.testBit_lt_two_pow (Nat.lt_of_lt_of_le (k.lt i) (by
   have:(2:Nat) ^ 64<=2 ^ b:=Nat.pow_le_pow_right (by omega) (by omega)
   omega))
theorem BQ1 (h:Hd)(k:h.Ok)(l:List UInt8)(sh:Bool):rHd (hdB h++l,sh)=(h,(l,sh)):=by
 have hc:=k.cnt;have e1:CF (hdB h++l,sh) 2=(h.count,(((List.range 16).flatMap λi=>BM 4 (h.root i))++(((List.range (h.count / 64+1)).flatMap λi=>BM 8 (h.word i))++l),sh)):=by
  unfold hdB;rw[List.append_assoc,List.append_assoc,F1 2 h.count _ sh (by omega)]
 unfold rHd;rw[e1];simp only
 rw[if_neg (by omega),SS _ h.root k.rt sh 16,SP _ h.word k.lt sh]
 congr 1
 have hroots:(FM (Hd.zero.setCount h.count) h.root 16).roots=h.roots:=by
  refine List.ext_getElem? λi=>?_
  obtain⟨g1,g2⟩:=R7 (Hd.zero.setCount h.count) h.root 16;have hl:(Hd.zero.setCount h.count).roots.length=16:=rfl;by_cases hi:i<16
  ·rw[g2 i (by omega),if_pos hi,Hd.root,List.getD_eq_getElem?_getD,List.getElem?_eq_getElem (by rw[k.nr];exact hi)]
   rfl
  ·rw[List.getElem?_eq_none (by omega),List.getElem?_eq_none (by rw[k.nr];omega)]
 have hfree:(GM (FM (Hd.zero.setCount h.count) h.root 16) h.word (h.count / 64+1)).free=h.free:=by
  refine List.ext_getElem? λi=>?_
  obtain⟨g1,g2⟩:=R6 (FM (Hd.zero.setCount h.count) h.root 16) h.word (h.count / 64+1);have hl:(FM (Hd.zero.setCount h.count) h.root 16).free=List.replicate 64 0:=by rw[P6];rfl
  rw[hl]at g1 g2;simp only[List.length_replicate]at g1 g2;by_cases hi:i<64
  ·have hw:h.free[i]? = some (h.word i):=by
    rw[Hd.word,List.getD_eq_getElem?_getD,List.getElem?_eq_getElem (by rw[k.nf];exact hi)];rfl
   rw[g2 i hi,hw];by_cases hs:i<h.count / 64+1
   ·rw[if_pos hs]
   ·rw[if_neg hs,k.word_zero (by omega),List.getElem?_replicate,if_pos hi]
  ·rw[List.getElem?_eq_none (by omega),List.getElem?_eq_none (by rw[k.nf];omega)]
 have hcount:(GM (FM (Hd.zero.setCount h.count) h.root 16) h.word (h.count / 64+1)).count=h.count:=by rw[OC,OD];rfl
 have hroots2:(GM (FM (Hd.zero.setCount h.count) h.root 16) h.word (h.count / 64+1)).roots=h.roots:=by rw[OB,hroots]
 obtain⟨c,f,r⟩:=h;generalize GM (FM (Hd.zero.setCount c) (Hd.root ⟨c,f,r⟩) 16) (Hd.word ⟨c,f,r⟩) (c / 64+1)=y at *
 obtain⟨c',f',r'⟩:=y;simp only at hfree hcount hroots2;subst hfree hcount hroots2;rfl
theorem BQ0 (p:Pt)(l:List UInt8)(sh:Bool)(h1:p.page<65536)(h2:p.at_<65536)(h3:p.s.size<65536):rPt (ptB p++l,sh)=((p.page,p.at_,p.s.data.toList),(l,sh)):=by
 have e:ptB p++l=BM 2 p.page++(BM 2 p.at_++(BM 2 p.s.size++(p.s.data.toList++l))):=by simp[ptB]
 unfold rPt;rw[e,F1 2 p.page _ sh (by omega)]
 simp only
 rw[F1 2 p.at_ _ sh (by omega)]
 simp only
 rw[F1 2 p.s.size _ sh (by omega)]
 simp only
 rw[QA _ _ _ _ (show p.s.data.toList.length=p.s.size from rfl)]
theorem GC (p:Pt):(ptB p).length=6+p.s.size:=by
 have:p.s.data.toList.length=p.s.size:=rfl
 simp only[ptB,List.length_append,AW,this]
theorem AA3 (sh:Bool):∀(ps:List Pt) (f:Nat),(ps.flatMap ptB).length<=f->(∀p ∈ ps,p.page<65536/\p.at_<65536/\p.s.size<65536)->JT f (ps.flatMap ptB,sh)=(ps,([],sh))
 | [],f,_,_=>by cases f <;> simp[JT]
 | p::r,0,hf,_=>by
  rw[List.flatMap_cons,List.length_append,GC]at hf;omega
 | p::r,f+1,hf,hp=>by
  obtain⟨h1,h2,h3⟩:=hp p (by simp)
  have hne:(p::r).flatMap ptB≠[]:=λe=>by
   have:=congrArg List.length e
   rw[List.flatMap_cons,List.length_append,GC]at this;simp at this
  have hl:(r.flatMap ptB).length<=f:=by
   rw[List.flatMap_cons,List.length_append,GC]at hf;omega
  unfold JT;rw[if_neg hne,List.flatMap_cons,BQ0 p _ sh h1 h2 h3];simp only
  rw[AA3 sh r f hl (λq hq=>hp q (by simp[hq]))]
theorem AR6 (h:Hd)(k:h.Ok)(ps:List Pt)(hl:ps.length<=4194304)(hf:∀p ∈ ps,p.Fits):RA ⟨(EI h ps).toArray⟩ (h,ps):=by
 have hp:∀p ∈ ps,p.page<65536/\p.at_<65536/\p.s.size<65536:=λp hp=>by
  obtain⟨h1,h2⟩:=hf p hp;have h3:p.s.size<=512:=by
   by_cases h0:p.s.size=0
   ·omega
   ·have:p.bytes=p.s.data.toList:=by unfold Pt.bytes;rw[if_neg h0]
    rw[this]at h2;have:p.s.data.toList.length=p.s.size:=rfl
    omega
  omega
 refine⟨(ps.flatMap ptB,false),([],false),?_,?_,rfl,hl,hf⟩
 ·show rHd (EI h ps,false)=_;unfold EI;exact BQ1 h k _ false
 ·exact AA3 false ps _ (Nat.le_refl _) hp
def P0:Nat->Nat:=λ_=>0
theorem V8 {n:Nat}(h:0<n):DF P0≠n:=by rw[MW (P:=P0) (λ_=>rfl)];omega
def ID (J:List AD->Prop):Prop:=∀ops q bs,J ops->J (ops++[.put 1 (q*512) bs])
theorem ID.jl (rs:List ByteArray)(f2:List UInt8):ID (JL rs f2):=λops q bs h=>JL.save ops q bs h
structure OR (J:List AD->Prop)(B:Nat)(S:Nat->Prop)(s d l p n:Nat)(C:Nat->List UInt8)(N:Nat)(last:Hd)(cur:Option Nat)(w:World):Prop where
 sp:AV w s d l p last cur
 ok:last.Ok
 pool:BD J B S p d n C P0 N w
 lg:CW l d w
 ns:¬S s
 nl:¬S l
 ne:l≠s
 low:B<=s/\B<=l
 n0:0<n
structure CK (J:List AD->Prop)(B:Nat)(S:Nat->Prop)(a s d l p db m n:Nat)(C:Nat->List UInt8)(N:Nat)(last h:Hd)(D:Nat->Option Dr)(w:World):Prop where
 act:CH w a s d l p db m last h D
 pool:BD J B S p d n C P0 N w
 lg:CW l d w
 ns:¬S s
 na:¬S a
 nl:¬S l
 nb:¬S db
 nd:∀q x,D q=some x->¬S x.blk
 ne:l≠a/\l≠s/\l≠db/\∀q x,D q=some x->x.blk≠l
 low:B<=a/\B<=s/\B<=l/\B<=db/\∀q x,D q=some x->B<=x.blk
 n0:0<n
section
variable {J:List AD->Prop} {B a s d l p db m n N:Nat} {S:Nat->Prop} {C:Nat->List UInt8} {last h:Hd} {cur:Option Nat} {D:Nat->Option Dr} {w w':World}
theorem OR.size (g:OR J B S s d l p n C N last cur w):B<=w.heap.size:=g.pool.size
theorem CK.size (g:CK J B S a s d l p db m n C N last h D w):B<=w.heap.size:=g.pool.size
theorem CK.below (g:CK J B S a s d l p db m n C N last h D w)(hb:Below w.heap.size w w'):CK J B S a s d l p db m n C N last h D w' :=
 ⟨g.act.below hb,g.pool.below hb,g.lg.below hb,g.ns,g.na,g.nl,g.nb,g.nd,g.ne,g.low,g.n0⟩
theorem OR.more (g:OR J B S s d l p n C N last cur w){M:Nat}(hM:N<=M):OR J B S s d l p n C M last cur w :=
 ⟨g.sp,g.ok,g.pool.more hM,g.lg,g.ns,g.nl,g.ne,g.low,g.n0⟩
theorem CK.turn (g:CK J B S a s d l p db m n C N last h D w){S':Nat->Prop}{M:Nat}{J':List AD->Prop}(ht:AO S w S' w')(hp:BD J' B S' p d n C P0 M w'):CK J' B S' a s d l p db m n C M last h D w':=by
 have h1:=g.act.sp.lt;have h2:=g.act.ac.lt;have h3:=g.act.dr.ltM;have h4:=g.lg.lt
 refine⟨g.act.kept ht.1 g.na g.ns g.nb g.nd,hp,g.lg.kept ht.1 g.nl,ht.not h1 g.ns,ht.not h2 g.na,ht.not h4 g.nl,ht.not h3 g.nb,λq x hq=>ht.not (g.act.dr.at_ q x hq).2.2.2.2.2.2 (g.nd q x hq),g.ne,g.low,g.n0⟩
theorem BQ8 (ops:List AD)(rs:List ByteArray)(xs:List (Hd × List Pt))(g:AT S d ops w)(hS:∀k,S k->B<=k/\k<w.heap.size)(hp:BN ops 0=DO rs)(hrs:GL rs)(h1:4<=n)(h2:n<=1024)(hNo:ops.length<=N)(hJ:J ops)
  (hlen:rs.length=xs.length) (hx:∀i (h1:i<rs.length) (h2:i<xs.length),RA rs[i] xs[i]) (hN:FT N xs<=4398046511104) (hok:(JJ Hd.zero xs).Ok)
  (hcl:ID J) (hJ2:∀ops,J ops->(rHd (BN ops 2,false)).2.2=true) (hB:B<=w.heap.size) :
  Calls Tryz.prog 9 #[.pointer (some ⟨d,0,none⟩),.int .i64 n] w λe w'=>∃s l p S',e=.returned (.tuple #[.pointer (some ⟨s,0,none⟩),.int .i64 0])/\OR J B S' s d l p n (LV (λq=>BT (BN ops 1) q) xs) (FT N xs) (JJ Hd.zero xs) none w'/\Below B w w':=by
 refine (ZV J B d n N S ops rs xs w g hS hp hrs h1 h2 hNo hJ hlen hx hN hcl hJ2).mono ?_;rintro e w' ⟨s,l,p,S',rfl,⟨a1,a2,a3,a4,a5⟩,hlg,hsp,hpool,hk,_⟩;exact⟨s,l,p,S',rfl,⟨hsp,hok,hpool,hlg,a4,a5,a3,⟨by omega,by omega⟩,by omega⟩,hk.toBelow hB (λi hi=>(hS i hi).1)⟩
theorem AP5 {db:Nat}(hm:FR w db 0 (λ_=>none)):A4 w db 0 (λ_=>none) :=
 ⟨⟨_,hm,(λq x hq=>by cases hq),(λq v hv=>by cases hv)⟩,(λq x hq=>by cases hq),(λq q' x y hq=>by cases hq)⟩
theorem BL9 (g:OR J B S s d l p n C N last none w) :
  Calls Tryz.prog 11 #[.pointer (some ⟨s,0,none⟩)] w λe w'=>∃a db,e=.returned (.tuple #[.pointer (some ⟨a,0,none⟩),.int .i64 0])/\CK J B S a s d l p db 0 n C N last last (λ_=>none) w'/\Below B w w'/\w.heap.size<=a/\AC (λk=>k=s) w w':=by
 refine (AF1 s d l p last w g.sp g.ok).mono ?_;rintro e w' ⟨a,db,rfl,hac,hm,hsp,ha,hdb,hne,hk⟩;have hsz:=g.size;have hlS:∀k,S k->k<w.heap.size:=λk hk=>(g.pool.low k hk).2
 have hll:=g.lg.lt;have hls:=g.sp.lt;refine⟨a,db,rfl,⟨⟨hsp,hac,AP5 hm,g.ok,g.ok,(λq x hq=>by cases hq),⟨by omega,hne,by omega⟩,(λq x hq=>by cases hq)⟩,g.pool.kept hk (λk _ hS he=>g.ns (he ▸ hS)),g.lg.kept hk g.ne,g.ns,λhh=>by have:=hlS _ hh;omega,g.nl,λhh=>by have:=hlS _ hh;omega,(λq x hq=>by cases hq),⟨by omega,g.ne,by omega,(λq x hq=>by cases hq)⟩,⟨by omega,g.low.1,g.low.2,by omega,(λq x hq=>by cases hq)⟩,g.n0⟩,hk.toBelow hsz (λi hi=>by have:=g.low.1;omega),ha,hk⟩
theorem CK.bel (g:CK J B S a s d l p db m n C N last h D w)(hk:AC (λk=>k=a\/k=db) w w'):Below B w w':=hk.toBelow g.size (λi hi=>by rcases hi with rfl | rfl <;> have:=g.low <;> omega)
theorem AM2 (g:CK J B S a s d l p db m n C N last h D w)(hT:Tab w) :
  Calls Tryz.prog 14 #[.pointer (some ⟨a,0,none⟩)] w λe w' =>
   (∃q h' b,h.NextIs q h'/\e=.returned (.tuple #[.int .i64 q,.int .i64 0])/\CK J B S a s d l p db (m+1) n C N last h' (upd D q (some ⟨b,true,A9,A9⟩)) w'/\Below B w w'/\AC (λk=>k=a\/k=db) w w'/\w.heap.size<=b) \/
   ((∀j,h.isFree j=false)/\h.count=4095/\e=.returned (.tuple #[.int .i64 0,.int .i64 2])/\w'=w):=by
 refine (AF9 g.act hT (by have:=g.act.dr.few;omega)).mono ?_
 rintro e w' (⟨q,h',b,hn,rfl,hb,hx,hk⟩ | ⟨h1,h2,rfl,rfl⟩)
 ·have hlS:∀k,S k->k<w.heap.size:=λk hk=>(g.pool.low k hk).2
  have hll:=g.lg.lt;have hsz:=g.size;refine .inl ⟨q,h',b,hn,rfl,⟨hx,g.pool.kept hk (λk _ hS he=>by rcases he with rfl | rfl;exact g.na hS;exact g.nb hS),g.lg.kept hk (by rintro (hh | hh);exact g.ne.1 hh;exact g.ne.2.2.1 hh),g.ns,g.na,g.nl,g.nb,λj y hj=>?_,⟨g.ne.1,g.ne.2.1,g.ne.2.2.1,λj y hj=>?_⟩,⟨g.low.1,g.low.2.1,g.low.2.2.1,g.low.2.2.2.1,λj y hj=>?_⟩,g.n0⟩,g.bel hk,hk,hb⟩
  all_goals
   by_cases hjq:j=q
   ·subst hjq;rw[AB]at hj;cases hj
    first
     | (intro hh;have:=hlS _ hh;simp only at this;omega)
     | (simp only;omega)
   ·rw[AA _ _ hjq]at hj;first
     | exact g.nd j y hj
     | exact g.ne.2.2.2 j y hj
     | exact g.low.2.2.2.2 j y hj
 ·exact .inr ⟨h1,h2,rfl,rfl⟩
theorem AT0 (q:Nat)(g:CK J B S a s d l p db m n C N last h D w)(hq:q<16) :
  Calls Tryz.prog 15 #[.pointer (some ⟨a,0,none⟩),.int .i64 q] w λe w'=>e=.returned (.tuple #[.int .i64 (h.root q),.int .i64 0])/\w'=w:=AL9 a h q w g.act.live g.act.ac.hd g.act.ok hq
theorem AW4 (q:Nat)(g:CK J B S a s d l p db m n C N last h D w)(hq:h.has q) :
  Calls Tryz.prog 17 #[.pointer (some ⟨a,0,none⟩),.int .i64 q] w λe w'=>e=.returned (.int .i64 0)/\(∃m',CK J B S a s d l p db m' n C N last (h.turn q) (upd D q none) w')/\Below B w w'/\AC (λk=>k=a\/k=db) w w':=by
 refine (AM3 q g.act hq).mono ?_;rintro e w' ⟨rfl,⟨m',_,hx⟩,hk⟩;refine⟨rfl,⟨m',hx,g.pool.kept hk (λk _ hS he=>by rcases he with rfl | rfl;exact g.na hS;exact g.nb hS),g.lg.kept hk (by rintro (hh | hh);exact g.ne.1 hh;exact g.ne.2.2.1 hh),g.ns,g.na,g.nl,g.nb,λj y hj=>?_,⟨g.ne.1,g.ne.2.1,g.ne.2.2.1,λj y hj=>?_⟩,⟨g.low.1,g.low.2.1,g.low.2.2.1,g.low.2.2.2.1,λj y hj=>?_⟩,g.n0⟩,g.bel hk,hk⟩
 all_goals
  by_cases hjq:j=q
  ·subst hjq;rw[AB]at hj;cases hj
  ·rw[AA _ _ hjq]at hj;first
    | exact g.nd j y hj
    | exact g.ne.2.2.2 j y hj
    | exact g.low.2.2.2.2 j y hj
end
end Go.Proofs.YtfbbjiidccbaiaaGreatDoor
