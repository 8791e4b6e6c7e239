/- Texts of one proof, one behind the other: TS, TU, UA, UB, TV, UC. -/
import Derived.Test.YtfbbjiidccbaiaaGreatDoorQAJ
import Derived.Test.YtfbbjiidccbaiaaGreatDoorQAG
import Derived.Test.YtfbbjiidccbaiaaGreatDoorQAI
import Derived.Test.YtfbbjiidccbaiaaGreatDoorQAA
set_option maxRecDepth 100000
set_option maxHeartbeats 6400000
namespace Go.Proofs.YtfbbjiidccbaiaaGreatDoor
open Go.RowKit
def LQ (w:World)(g:Nat)(l:List UInt8):Prop:=l.length<=512/\w.heap[g]? = some (.cells (Lib.byteCells (l++List.replicate (512-l.length) 0)).toArray 5 (0,0))
theorem LQ.lt {w:World}{g:Nat}{l:List UInt8}(h:LQ w g l):g<w.heap.size:=(Array.getElem?_eq_some_iff.1 h.2).1
theorem LQ.kept {w w':World}{g:Nat}{l:List UInt8}{T:Nat->Prop}(h:LQ w g l)(hk:AC T w w')(hT:¬T g):LQ w' g l:=⟨h.1,(hk.block g h.lt hT).trans h.2⟩
theorem AC1 (w:World)(g:Nat)(cs:Array Value):AC (λk=>k=g) w (w.setRow g cs) :=
 ⟨rfl,rfl,rfl,by simp,λk _ hk=>setRow_other w g k cs hk⟩
theorem IY (w:World)(g:Nat)(l ys:List UInt8)(A:Option Addr)(n m c:Nat)(ty:TypeId)(h:LQ w g l)(hR:AK w A ys)(hn:l.length=n)(hm:ys.length=m)(hl:n+m<=512) :
  ∃w',(Builtin.append_ #[102,102] ty #[.slice (some ⟨g,0,none⟩) n 512,.slice A m c]).run Tryz.prog w=.ok (.slice (some ⟨g,0,none⟩) (n+m) 512) w'/\LQ w' g (l++ys)/\AC (λk=>k=g) w w':=by
 obtain⟨i0,hi,q0,q1,q2⟩:=info_parts infoByte;subst hn;subst hm
 rcases A with _|a
 ·have hys:ys=[]:=by rcases hR with h0|⟨b,off,h1,_⟩;exact h0;cases h1
  subst hys;have hc5:l.length<=512:=h.1;refine⟨w,?_,by rw[List.append_nil];exact h,AC.refl _ _⟩
  simp[Builtin.append_,run_underlying Tryz.underlying102,sizeOf,typeInfo,hi,Builtin.lenOf,Builtin.firstCells,hc5,storeCells]
 ·have hr:=run_append_room (P:=Tryz.prog) w 102 ty 5 i0 Tryz.underlying102 hi g l.length 512 _ h.2 a ys.length c (Lib.byteCells ys) (by rw[q1];simp[Lib.byteCells]) (λj u hu=>by
   rcases hR with rfl|⟨b,off,h1,_,h3⟩
   ·simp[Lib.byteCells]at hu
   ·injection h1 with h1;subst h1
    have hj:j<ys.length:=by have:=(List.getElem?_eq_some_iff.1 hu).1;simpa [Lib.byteCells] using this
    rw[A3,h3 j hj,<-hu];simp[Lib.byteCells,hj]) (λu hu=>by
   simp only[Lib.byteCells,List.mem_map]at hu;obtain⟨b,_,rfl⟩:=hu;rfl) hl (by rw[q1];simp[Lib.byteCells];omega)
  refine⟨_,hr,⟨by rw[List.length_append];exact hl,?_⟩,AC1 _ _ _⟩
  rw[setRow_heap w g _ _ _ _ h.2];congr 2
  rw[q1];apply Array.ext'
  rw[List.toList_toArray,List.toList_toArray,List.toList_toArray];have e1:(Lib.byteCells (l++List.replicate (512-l.length) 0)).take (l.length*1)=Lib.byteCells l:=by rw[EW];simp
  have e2:(Lib.byteCells (l++List.replicate (512-l.length) 0)).drop (l.length*1+(Lib.byteCells ys).length)=Lib.byteCells (List.replicate (512-(l++ys).length) 0):=by
   rw[J6,show l.length*1+(Lib.byteCells ys).length=l.length+ys.length by simp[Lib.byteCells],List.drop_append,List.drop_of_length_le (by omega)]
   simp;congr 2;omega
  rw[e1,e2];simp[Lib.byteCells]
theorem AW6 (l:List En)(e:En):JK (l++[e])=JK l++(UInt8.ofNat e.key.length::UInt8.ofNat e.val.length::(e.key++e.val)):=by
 rw[AD4,JK,JK,List.append_nil,En.bytes]
theorem AB4 (m:Nat):madeCells #[Value.int .u8 0] m=(Lib.byteCells (List.replicate m 0)).toArray:=by
 apply Array.ext
 ·rw[size_madeCells];simp[Lib.byteCells]
 ·intro j h1 h2;simp[madeCells,Lib.byteCells,Nat.mod_one]
def hdE (lv N:Nat)(es:List En)(k:Nat):List UInt8:=UInt8.ofNat lv::UInt8.ofNat N::JK (es.take k)
theorem AC9 {lv N:Nat}{es:List En}{k:Nat}{e:En}(h:es[k]? = some e):hdE lv N es (k+1)=((hdE lv N es k++[UInt8.ofNat e.key.length,UInt8.ofNat e.val.length])++e.key)++e.val:=by
 obtain⟨hl,rfl⟩:=List.getElem?_eq_some_iff.1 h;unfold hdE;rw[List.take_succ_eq_append_getElem hl,AW6];simp
theorem AP0 (lv N:Nat)(es:List En)(k:Nat):(hdE lv N es k).length=2+szE (es.take k):=by simp[hdE,OH];omega
theorem RX (w:World)(a b:Nat)(ha:a<256)(hb:b<256):AK (w.alloc (.cells #[.int .u8 a,.int .u8 b] 5)) (some ⟨w.heap.size,0,none⟩) [UInt8.ofNat a,UInt8.ofNat b]:=by
 refine .inr ⟨w.heap.size,0,rfl,by simp,λj hj=>?_⟩
 have hn:=heap_alloc_new w (.cells #[.int .u8 a,.int .u8 b] 5);rw[yC hn,Nat.zero_add];match j,hj with
 | 0,_=>simp;omega
 | 1,_=>simp;omega
theorem BP4 (X:Nat->Prop)(x:NO)(w:World)(h:AM X w x)(hv:VN x.level x.ens) :
  Calls Tryz.prog 164 #[x.ptr] w λe w'=>e=.returned (.string ⟨(pgB x.level x.ens).toArray⟩)/\Below w.heap.size w w':=by
 have c1:=h.c1;have c2:=h.c2;have hlt:=h.lt;obtain⟨N,hN⟩:∃N,N=x.ens.length:=⟨_,rfl⟩;have hN255:1<=N/\N<=255:=by have:=hv.len;omega
 have hcap:=h.cap.1;rw[<-hN]at c2 hcap;unfold NO.ptr;obtain⟨xb,hxb⟩:∃xb,xb=x.blk:=⟨_,rfl⟩;rw[<-hxb]at c1 c2 hlt ⊢
 obtain⟨lv,hlv⟩:∃lv,lv=x.level:=⟨_,rfl⟩;have hlv2:lv<256:=by rw[hlv];exact hv.lev
 rw[<-hlv]at c1;obtain⟨ar,har⟩:∃ar,ar=x.arr:=⟨_,rfl⟩;obtain⟨cp,hcp⟩:∃cp,cp=x.cap:=⟨_,rfl⟩;rw[<-har,<-hcp]at c2;rw[<-hcp]at hcap;have hmk:∀W:World,(Instr.makeSlice 102 (.int .i64 0) (.int .i64 512)).run Tryz.prog W=.ok (.slice (some ⟨W.heap.size,0,none⟩) 0 512) (W.alloc (.cells (Lib.byteCells (List.replicate 512 0)).toArray 5)):=λW=>by
  obtain⟨i,hi,hz,hs,hby⟩:=info_parts infoByte;have h:=run_make (P:=Tryz.prog) W 102 5 i _ Tryz.underlying102 hi hz .i64 .i64 0 512 (by omega) (by omega) (by rw[hby];omega) (by omega)
  rw[hs]at h;have e:madeCells (Value.int .u8 0).cells ((512:Int).toNat*1)=(Lib.byteCells (List.replicate 512 0)).toArray:=AB4 512;rw[e]at h;exact h
 obtain⟨Z,hZ⟩:∃Z,Z=(Lib.byteCells (List.replicate 512 0)).toArray:=⟨_,rfl⟩;rw[<-hZ]at hmk;have HZ:=yH hZ;have HMK:=yH hmk;have HH:=yH h;have HV:=yH hv;have HN:=yH hN;have HXB:=yH hxb;have HLV:=yH hlv;have HAR:=yH har
 clear h hv hN hxb hlv har hcp hmk hZ;go_enter Tryz.func164,Tryz.ntmps164;have hmk2:=HMK.out;go_wp2;clear hmk2;obtain⟨w1,hw1⟩:∃w1,w1=w.alloc (.cells Z 5):=⟨_,rfl⟩;rw[<-hw1];obtain⟨gb,hgb⟩:∃gb,gb=w.heap.size:=⟨_,rfl⟩;rw[<-hgb];have hb1:Below w.heap.size w w1:=by rw[hw1];exact (Below.refl _ _).alloc (Nat.le_refl _) _
 have HBU:Hid (LQ w1 gb []):=yH ⟨by simp,by rw[hw1,hgb,HZ.out];simpa using heap_alloc_new w _⟩
 have HB1:=yH hb1;have c1w:w1.cell? ⟨xb,1,none⟩=some (.int .i64 lv):=by rw[hb1.cell (p:=⟨xb,1,none⟩) hlt];exact c1
 have c2w:w1.cell? ⟨xb,2,none⟩=some (.slice ar N cp):=by rw[hb1.cell (p:=⟨xb,2,none⟩) hlt];exact c2
 have HS0:=yH (And.intro c1w c2w);have HQ:Hid (∀W:World,(W.cell? ⟨xb,1,none⟩=some (.int .i64 lv)/\W.cell? ⟨xb,2,none⟩=some (.slice ar N cp))->W.cell? ⟨xb,1,none⟩=some (.int .i64 lv)/\W.cell? ⟨xb,2,none⟩=some (.slice ar N cp)):=yH (λ_ h=>h)
 have HW1:=yH hw1;have HGB:=yH hgb
 have e5:IntKind.u8.wrap (lv:Int)=lv:=wraps_u8 _ (by omega) (by omega)
 have e11:IntKind.u8.wrap (N:Int)=N:=wraps_u8 _ (by omega) (by omega)
 clear hw1 hgb hb1 c1w c2w c1;refine wp_region_held_drew (S:=λW=>W.cell? ⟨xb,1,none⟩=some (.int .i64 lv)/\W.cell? ⟨xb,2,none⟩=some (.slice ar N cp)) (by kernel_rfl) HS0.out (λhHeld=>?_)
 refine wpAnyH_take (i:=0) (v:=.slice (some ⟨gb,0,none⟩) 0 512) rfl (by kernel_rfl) (by kernel_rfl) (by kernel_rfl) (λ_ _ _ h=>h) (Or.inl ⟨by rfl,λW hW=>by go_simp⟩) HS0.out ?_
 refine wpAnyH_take (i:=1) (v:=.pointer (some ⟨xb,0,none⟩)) rfl (by kernel_rfl) (by kernel_rfl) (by kernel_rfl) (λ_ _ _ h=>h) (Or.inl ⟨by rfl,λW hW=>by go_simp⟩) HS0.out ?_
 refine wpAnyH_take (i:=2) (v:=.pointer (some ⟨xb,0,none⟩)) rfl (by kernel_rfl) (by kernel_rfl) (by kernel_rfl) (λ_ _ _ h=>h) (Or.inl ⟨by rfl,λW hW=>by go_simp⟩) HS0.out ?_
 refine wpAnyH_take (i:=3) (v:=.pointer (some ⟨xb,1,none⟩)) rfl (by kernel_rfl) (by kernel_rfl) (by kernel_rfl) (λ_ _ _ h=>h) (Or.inl ⟨by rfl,λW hW=>by go_simp⟩) HS0.out ?_
 refine wpAnyH_take (i:=4) (v:=.int .i64 lv) rfl (by kernel_rfl) (by kernel_rfl) (by kernel_rfl) (λ_ _ _ h=>h) (Or.inl ⟨by rfl,λW hW=>by obtain⟨x0,x1⟩:=HQ.out W hW;clear hW;go_simp⟩) HS0.out ?_
 refine wpAnyH_take (i:=5) (v:=.int .u8 lv) rfl (by kernel_rfl) (by kernel_rfl) (by kernel_rfl) (λ_ _ _ h=>h) (Or.inl ⟨by rfl,λW hW=>by go_simp⟩) HS0.out ?_
 refine wpAnyH_take (i:=6) (v:=.pointer (some ⟨xb,0,none⟩)) rfl (by kernel_rfl) (by kernel_rfl) (by kernel_rfl) (λ_ _ _ h=>h) (Or.inl ⟨by rfl,λW hW=>by go_simp⟩) HS0.out ?_
 refine wpAnyH_take (i:=7) (v:=.pointer (some ⟨xb,0,none⟩)) rfl (by kernel_rfl) (by kernel_rfl) (by kernel_rfl) (λ_ _ _ h=>h) (Or.inl ⟨by rfl,λW hW=>by go_simp⟩) HS0.out ?_
 refine wpAnyH_take (i:=8) (v:=.pointer (some ⟨xb,2,none⟩)) rfl (by kernel_rfl) (by kernel_rfl) (by kernel_rfl) (λ_ _ _ h=>h) (Or.inl ⟨by rfl,λW hW=>by go_simp⟩) HS0.out ?_
 refine wpAnyH_take (i:=9) (v:=.slice ar N cp) rfl (by kernel_rfl) (by kernel_rfl) (by kernel_rfl) (λ_ _ _ h=>h) (Or.inl ⟨by rfl,λW hW=>by obtain⟨x0,x1⟩:=HQ.out W hW;clear hW;go_simp⟩) HS0.out ?_
 refine wpAnyH_take (i:=10) (v:=.int .i64 N) rfl (by kernel_rfl) (by kernel_rfl) (by kernel_rfl) (λ_ _ _ h=>h) (Or.inl ⟨by rfl,λW hW=>by go_simp⟩) HS0.out ?_
 refine wpAnyH_take (i:=11) (v:=.int .u8 N) rfl (by kernel_rfl) (by kernel_rfl) (by kernel_rfl) (λ_ _ _ h=>h) (Or.inl ⟨by rfl,λW hW=>by go_simp⟩) HS0.out ?_
 clear e5 e11;refine wpAnyH_ready (rs:=[12]) (by kernel_rfl) (by simp) ?_
 refine AllReadyH.cons rfl (λK hK=>?_) AllReadyH.nil
 go_simp
 obtain⟨w2,hw2⟩:∃w2,w2=(w1.alloc (.cells #[.int .u8 lv,.int .u8 N] 5)).drew:=⟨_,rfl⟩;rw[<-hw2];have hb2:Below w1.heap.size w1 w2:=by rw[hw2];exact ((Below.refl _ _).alloc (Nat.le_refl _) _).drew
 have hgl:gb<w1.heap.size:=HBU.out.lt;have hxg:xb≠gb:=by have:=HGB.out;omega
 have hz1:w.heap.size<=w1.heap.size:=HB1.out.size;have HS2:Hid (w2.cell? ⟨xb,1,none⟩=some (.int .i64 lv)/\w2.cell? ⟨xb,2,none⟩=some (.slice ar N cp)):=yH ⟨(hb2.cell (p:=⟨xb,1,none⟩) (by simp only;omega)).trans HS0.out.1,(hb2.cell (p:=⟨xb,2,none⟩) (by simp only;omega)).trans HS0.out.2⟩
 obtain⟨w3,hr3,hbu3,hk3⟩:=IY w2 gb [] [UInt8.ofNat lv,UInt8.ofNat N] (some ⟨w1.heap.size,0,none⟩) 0 2 2 102 (HBU.out.kept (AC.ofBelow (S:=λ_=>False) hb2) (λh=>h)) (by rw[hw2];exact RX w1 lv N hlv2 (by omega)) rfl rfl (by omega)
 have HS3:Hid (w3.cell? ⟨xb,1,none⟩=some (.int .i64 lv)/\w3.cell? ⟨xb,2,none⟩=some (.slice ar N cp)):=yH (by
  have hbk:=hk3.block xb (by have:=hb2.size;omega) hxg
  exact⟨(World.cell?_of_block hbk).trans HS2.out.1,(World.cell?_of_block hbk).trans HS2.out.2⟩)
 have HR3:=yH hr3;have HBU3:Hid (LQ w3 gb (hdE lv N x.ens 0)):=yH (by simpa [hdE,JK] using hbu3)
 have HB3:Hid (Below w.heap.size w w3):=yH ((FD HB1.out hb2 (Nat.le_refl _)).trans (hk3.toBelow (B:=w.heap.size) (by have:=hb2.size;omega) (λi hi=>by have:=HGB.out;omega)))
 clear hw2 hb2 hr3 hbu3 hk3;refine hK.out _ _ HS2.out (λhHeld2=>?_)
 clear hK K hHeld hHeld2;refine wpAnyH_ready (rs:=[13]) (by kernel_rfl) (by simp) ?_
 refine AllReadyH.cons rfl (λK hK=>?_) AllReadyH.nil
 refine FW rfl _ _ 102 rfl _ _ _ (by rfl) (by rfl) HR3.out ?_
 refine hK.out _ _ HS3.out (λhHeld3=>?_)
 clear hK K hHeld3;refine wpAnyH_take (i:=14) (v:=.slice (some ⟨gb,0,none⟩) 2 512) rfl (by kernel_rfl) (by kernel_rfl) (by kernel_rfl) (λ_ _ _ h=>h) (Or.inl ⟨by rfl,λW hW=>by go_simp⟩) HS3.out ?_
 refine wpAnyH_done (by kernel_rfl) ?_ _
 have c2w:=HS3.out.2;go_wp2;clear c2w;go_loopw [3,26] (λv i wr=>∃k m:Nat,k<=N/\m<=512/\i=.int .i64 k/\v=.slice (some ⟨gb,0,none⟩) m 512/\Hid (m=(hdE lv N x.ens k).length)/\Hid (LQ wr gb (hdE lv N x.ens k))/\Hid (Below w.heap.size w wr)) (λ_ i _=>N-(intOf i).toNat)
 case atStart=>exact⟨0,2,by omega,by omega,rfl,rfl,yH (by simp[hdE,JK]),HBU3,HB3⟩
 case round =>
  obtain⟨k,m,hk,hm5,rfl,rfl,HM,HB,HBE⟩:=hrel;by_cases hkn:k<N
  ·obtain⟨en,hen⟩:=L9 HN.out.symm hkn;obtain⟨b,o,kv,vv,ha,hbl0,hfr0,hc10,hc20,hk1,hk2⟩:=HH.out.ents.at_ hen;have hc1:=(HBE.out.cell (p:=⟨b,o+k*2,none⟩) hbl0).trans hc10;have hc2:=(HBE.out.cell (p:=⟨b,o+k*2+1,none⟩) hbl0).trans hc20;have hbl:b<wr.heap.size:=Nat.lt_of_lt_of_le hbl0 HBE.out.size;clear hbl0 hfr0 hc10 hc20;rw[<-HAR.out]at ha;subst ha;have hsh:=HV.out.short.at_ hen;have hnx:=AC9 (lv:=lv) (N:=N) hen;have hnl:=AP0 lv N x.ens (k+1);have hsz:=Nat.le_trans (JQ x.ens (k+1)) HV.out.fit;obtain⟨A1,q1,rfl,hA1,hA2,hR1,_⟩:=hk1;obtain⟨A2,q2,rfl,hB1,hB2,hR2,_⟩:=hk2;obtain⟨l1,hl1⟩:∃l1,l1=en.key.length:=⟨_,rfl⟩;obtain⟨l2,hl2⟩:∃l2,l2=en.val.length:=⟨_,rfl⟩;have hml:m+2+l1+l2<=512:=by rw[hnx]at hnl;simp only[List.length_append,List.length_cons,List.length_nil,<-HM.out,<-hl1,<-hl2]at hnl;omega
   rw[<-hl1]at hc1 hsh;rw[<-hl2]at hc2 hsh;rw[<-hl1,<-hl2]at hnx;have hgl2:gb<wr.heap.size:=HB.out.lt;obtain⟨w4,hw4⟩:∃w4,w4=(wr.alloc (.cells #[.slice A1 l1 q1,.slice A2 l2 q2] 135)).alloc (.cells #[.int .u8 l1,.int .u8 l2] 5):=⟨_,rfl⟩;have hb4:Below wr.heap.size wr w4:=by rw[hw4];exact ((Below.refl _ _).alloc (Nat.le_refl _) _).alloc (by simp) _
   obtain⟨w5,hr5,hbu5,hk5⟩:=IY w4 gb (hdE lv N x.ens k) [UInt8.ofNat l1,UInt8.ofNat l2] (some ⟨wr.heap.size+1,0,none⟩) m 2 2 102 (HB.out.kept (AC.ofBelow (S:=λ_=>False) hb4) (λh=>h)) (by
    have:=RX (wr.alloc (.cells #[.slice A1 l1 q1,.slice A2 l2 q2] 135)) l1 l2 (by omega) (by omega)
    rw[hw4];simpa using this) HM.out.symm rfl (by omega)
   have hg1:∀{A:Option Addr} {l:List UInt8},AK w A l->∀ad,A=some ad->l≠[]->ad.block<w4.heap.size->¬ad.block=gb:=λhR ad hA hl _ e=>by
    subst hA;have:=hR.blk_lt hl
    have:=HGB.out;omega
   have hb04:Below w.heap.size w w4:=FD HBE.out hb4 (Nat.le_refl _);have hR1':=(hR1.below hb04).kept hk5 (λad hA hl h=>hg1 hR1 ad hA hl h)
   obtain⟨w6,hr6,hbu6,hk6⟩:=IY w5 gb _ en.key A1 (m+2) l1 q1 102 hbu5 hR1' (by rw[List.length_append,<-HM.out];rfl) hl1.symm (by omega)
   have hz45:=hk5.size;have hR2':=((hR2.below hb04).kept hk5 (λad hA hl h=>hg1 hR2 ad hA hl h)).kept hk6 (λad hA hl _ e=>by
    subst hA;have:=hR2.blk_lt hl
    have:=HGB.out;omega)
   obtain⟨w7,hr7,hbu7,hk7⟩:=IY w6 gb _ en.val A2 (m+2+l1) l2 q2 102 hbu6 hR2' (by rw[List.length_append,List.length_append,<-HM.out,<-hl1];rfl) hl2.symm (by omega)
   rw[hl1,hl2,<-AC9 hen]at hbu7;have HB7:=yH hbu7;have HM7:Hid (m+2+l1+l2=(hdE lv N x.ens (k+1)).length):=yH (by rw[hnx];simp only[List.length_append,<-HM.out,<-hl1,<-hl2];rfl)
   have hzw:=HBE.out.size;have HBE7:Hid (Below w.heap.size w w7):=yH (((hb04.trans (hk5.toBelow (by have:=hb04.size;omega) (λi hi=>by have:=HGB.out;omega))).trans (hk6.toBelow (by have:=hb04.size;omega) (λi hi=>by have:=HGB.out;omega))).trans (hk7.toBelow (by have:=hb04.size;have:=hk6.size;omega) (λi hi=>by have:=HGB.out;omega)))
   have hn4:w4.heap[wr.heap.size]? = some (.cells #[.slice A1 l1 q1,.slice A2 l2 q2] 135 (0,0)):=by rw[hw4,Below.heap_alloc _ _ _ (by simp)];exact heap_alloc_new wr _
   have hne:wr.heap.size≠gb:=by omega
   have h45:=hk5.block wr.heap.size (by have:=(Array.getElem?_eq_some_iff.1 hn4).1;omega) hne
   have h56:=hk6.block wr.heap.size (by have:=(Array.getElem?_eq_some_iff.1 hn4).1;omega) hne
   have d5:w5.cell? ⟨wr.heap.size,0,none⟩=some (.slice A1 l1 q1):=by rw[World.cell?_of_block h45,yC hn4];rfl
   have d6:w6.cell? ⟨wr.heap.size,1,none⟩=some (.slice A2 l2 q2):=by rw[World.cell?_of_block h56,World.cell?_of_block h45,yC hn4];rfl
   rw[hw4]at hr5;have e5:IntKind.u8.wrap (l1:Int)=l1:=wraps_u8 _ (by omega) (by omega)
   have e11:IntKind.u8.wrap (l2:Int)=l2:=wraps_u8 _ (by omega) (by omega)
   clear hR1 hR2 hR1' hR2' hg1 hb04 hbu5 hbu6 hbu7 hk5 hk6 hk7 hw4 hb4 hn4 h45 h56 hnx hnl hsz hl1 hl2 hen hA1 hA2 hB1 hB2;have HR5:=yH hr5;have HR6:=yH hr6;have HR7:=yH hr7
   clear hr5 hr6 hr7;go_wp2_with (at_builtin;first | refine Lib.wpList_append_run (o:=⟨some 40,_,_,_,_,_⟩) _ rfl _ _ 102 102 rfl _ _ rfl rfl _ _ HR5.out ?_ | refine Lib.wpList_append_run (o:=⟨some 44,_,_,_,_,_⟩) _ rfl _ _ 102 102 rfl _ _ rfl rfl _ _ HR6.out ?_ | refine Lib.wpList_append_run (o:=⟨some 48,_,_,_,_,_⟩) _ rfl _ _ 102 102 rfl _ _ rfl rfl _ _ HR7.out ?_)
   go_roundw
   case rel=>exact⟨k+1,m+2+l1+l2,by omega,hml,by go_num,by simp[Nat.add_assoc],HM7,HB7,HBE7⟩
   case measure=>simp[intOf];omega
  ·obtain rfl:k=N:=by omega
   have hpg:hdE lv k x.ens k++List.replicate (512-(hdE lv k x.ens k).length) 0=pgB lv x.ens:=by
    rw[AP0,List.take_of_length_le (by rw[<-HN.out];exact Nat.le_refl _)]
    unfold hdE pgB ndB;rw[List.take_of_length_le (by rw[<-HN.out];exact Nat.le_refl _),<-HN.out]
    congr 2
    omega
   have hbuf:=HB.out.2;rw[hpg]at hbuf;have hpl:(pgB lv x.ens).length=512:=GD _ _ HV.out.fit;have hcv:=DX wr gb 0 512 (pgB lv x.ens) (λj v hv=>by
    rw[Nat.zero_add,yC hbuf];simpa using hv)
   rw[hpl]at hcv;obtain⟨t,ht⟩:∃t:ByteArray,t=⟨(pgB lv x.ens).toArray⟩:=⟨_,rfl⟩;rw[<-ht]at hcv;have HT:Hid (t=⟨(pgB x.level x.ens).toArray⟩):=yH (by rw[ht,HLV.out])
   clear hpg hbuf hpl ht;go_wp2;go_ret;exact⟨by rw[<-HT.out];rfl,HBE.out⟩
theorem QW (W:World)(A:Option Addr)(l:List UInt8)(c:Nat)(h:AK W A l):(convert 102 9 (.slice A l.length c)).run Tryz.prog W=.ok (.string ⟨l.toArray⟩) W:=by
 rcases A with _|ad
 ·have hl:l=[]:=by rcases h with h0|⟨b,off,h1,_⟩;exact h0;cases h1
  subst hl;show (convert 102 9 (.slice none 0 c)).run Tryz.prog W=_;rw[run_convert_bytes_string W 102 9 5 none 0 c Tryz.underlying102 Tryz.underlying5 Tryz.underlying9];rfl
 ·exact run_convert_bytes_back (P:=Tryz.prog) W 102 9 5 ad c l Tryz.underlying102 Tryz.underlying5 Tryz.underlying9 (λj hj=>by
   rcases h with rfl|⟨b,off,h1,_,h3⟩
   ·simp at hj
   ·injection h1 with h1;subst h1;rw[A3];exact h3 j hj)
theorem AC5 (A B:Option Addr)(k v:List UInt8)(n m c d:Nat)(w:World)(hn:k.length=n)(hm:v.length=m)(hA:AK w A k)(hB:AK w B v) :
  Calls Tryz.prog 82 #[.agg #[.slice A n c,.slice B m d]] w λe w'=>e=.returned (.agg #[.string ⟨k.toArray⟩,.string ⟨v.toArray⟩])/\Below w.heap.size w w':=by
 have HA:Hid (∀W,Below w.heap.size w W->(convert 102 9 (.slice A n c)).run Tryz.prog W=.ok (.string ⟨k.toArray⟩) W):=yH (λW hb=>by rw[<-hn];exact QW W A k c (hA.below hb))
 have HB:Hid (∀W,Below w.heap.size w W->(convert 102 9 (.slice B m d)).run Tryz.prog W=.ok (.string ⟨v.toArray⟩) W):=yH (λW hb=>by rw[<-hm];exact QW W B v d (hB.below hb))
 obtain⟨ks,hks⟩:∃ks:ByteArray,ks=⟨k.toArray⟩:=⟨_,rfl⟩;obtain⟨vs,hvs⟩:∃vs:ByteArray,vs=⟨v.toArray⟩:=⟨_,rfl⟩;rw[<-hks]at HA ⊢
 rw[<-hvs]at HB ⊢
 clear hn hm hA hB hks hvs;obtain⟨w1,hw1⟩:∃w1,w1=(w.alloc (.cells #[.slice A n c,.slice B m d] 135)).alloc (.cells #[.string ⟨#[]⟩,.string ⟨#[]⟩] 89):=⟨_,rfl⟩;have hb1:Below w.heap.size w w1:=by rw[hw1];exact ((Below.refl _ _).alloc (Nat.le_refl _) _).alloc (by simp) _
 have hA1:=HA.out w1 hb1;have hB1:=HB.out w1 hb1;rw[hw1]at hA1 hB1;clear hb1 hw1;go_enter Tryz.func82,Tryz.ntmps82;go_wp2;refine bodyPost_ret (v:=.agg #[.string ks,.string vs]) (by simp[results,Tryz.results82,go_sem]) rfl ⟨rfl,?_⟩
 exact ((Below.refl _ _).alloc (Nat.le_refl _) _).alloc (by simp) _
theorem AH2 {w:World}{g:Nat}(a b:Nat)(hb:b<256)(ha:a<256)(hn:w.heap[g]? = some (.cells #[.int .u8 a,.int .u8 b] 5 (0,0))):AK w (some ⟨g,0,none⟩) [UInt8.ofNat a,UInt8.ofNat b]:=by
 refine .inr ⟨g,0,rfl,(Array.getElem?_eq_some_iff.1 hn).1,λj hj=>?_⟩
 rw[yC hn,Nat.zero_add];match j,hj with
 | 0,_=>simp;omega
 | 1,_=>simp;omega
theorem J3 (A:Option Addr)(n c q:Nat)(w:World)(hq:q<4096) :
  Calls Tryz.prog 118 #[.slice A n c,.int .i64 q] w λe w'=>∃vb,e=.returned (.agg #[.slice A n c,.slice (some ⟨vb,0,none⟩) 2 2])/\w.heap.size<=vb/\AK w' (some ⟨vb,0,none⟩) (pgV q)/\Below w.heap.size w w':=by
 have e1:IntKind.u8.wrap ((q:Int) / 256)=((q / 256:Nat):Int):=(wraps_u8 _ (by omega) (by omega)).trans (by omega)
 have e2:IntKind.u8.wrap (q:Int)=((q % 256:Nat):Int):=by rw[IntKind.wrap_u8];omega
 have hp:pgV q=[UInt8.ofNat (q / 256),UInt8.ofNat (q % 256)]:=by
  unfold pgV;congr 2
  apply UInt8.toNat_inj.1
  simp
 have HP:=yH hp;clear hp
 have hq1:q / 256<256:=by omega
 have hq2:q % 256<256:=by omega
 obtain⟨a1,ha1⟩:∃a1,a1=q / 256:=⟨_,rfl⟩;obtain⟨a2,ha2⟩:∃a2,a2=q % 256:=⟨_,rfl⟩;rw[<-ha1]at e1 hq1 HP;rw[<-ha2]at e2 hq2 HP;clear ha1 ha2;go_enter Tryz.func118,Tryz.ntmps118;go_wp2;refine bodyPost_ret (v:=.agg #[.slice A n c,.slice (some ⟨w.heap.size+1,0,none⟩) 2 2]) (by simp[results,Tryz.results118,go_sem]) rfl ⟨_,rfl,by omega,?_,((Below.refl _ _).alloc (Nat.le_refl _) _).alloc (by simp) _⟩
 rw[HP.out];refine AH2 a1 a2 hq2 hq1 ?_;have:=heap_alloc_new (w.alloc (.cells #[.slice A n c,.slice (some ⟨w.heap.size+1,0,none⟩) 2 2] 135)) (.cells #[.int .u8 a1,.int .u8 a2] 5)
 simpa using this
structure DS (ρ:Nat->Nat)(w:World)(q:Nat)(x:NO):Prop where
 at_:AM (λk=>ρ k≠0) w x
 blk:ρ x.blk=8+2*q
 row:∀ad,x.arr=some ad->ρ ad.block=if x.sole=true then 9+2*q else 7
theorem DS.go {ρ ρ':Nat->Nat}{w w':World}{q:Nat}{x:NO}{T R:Nat->Prop}(h:DS ρ w q x)(hk:AC T w w')(hT:∀k,k<w.heap.size->T k->R (ρ k))(h0:¬R 0)
  (hρ:∀k,k<w.heap.size->ρ' k=ρ k\/(R (ρ k)/\2<=ρ k/\2<=ρ' k)) (hlt:∀k,ρ k≠0->k<w.heap.size) (hR:¬R (8+2*q)/\¬R (9+2*q)/\¬R 7):DS ρ' w' q x:=by
 have hb:¬R (ρ x.blk):=by rw[h.blk];exact hR.1
 have hr:∀ad,x.arr=some ad->¬R (ρ ad.block):=λad ha=>by
  rw[h.row ad ha];split
  ·exact hR.2.1
  ·exact hR.2.2
 have hrl:∀ad,x.arr=some ad->ad.block<w.heap.size:=λad ha=>hlt _ (by rw[h.row ad ha];split <;> omega)
 have hbl:x.blk<w.heap.size:=h.at_.lt;refine⟨h.at_.kept hk (λk hl ht e=>h0 (e ▸ hT k hl ht)) (λk hl hx e=>?_) (λk hx=>?_) (λht=>hb (hT _ hbl ht)) (λad ha _ ht=>hr ad ha (hT _ (hrl ad ha) ht)),?_,λad ha=>?_⟩
 ·rcases hρ k hl with h1|h1
  ·exact hx (h1.trans e)
  ·omega
 ·rcases hρ k (hlt k hx) with h1|h1
  ·rw[h1];exact hx
  ·omega
 ·rcases hρ _ hbl with h1|h1
  ·rw[h1];exact h.blk
  ·exact absurd h1.1 hb
 ·rcases hρ _ (hrl ad ha) with h1|h1
  ·rw[h1];exact h.row ad ha
  ·exact absurd h1.1 (hr ad ha)
def E0 (w:World)(v:Value)(l:List Nat):Prop:=w.ownsRow 0 3 1 v l.length (l.map λk:Nat=>Value.int .i64 (k:Int))
theorem E0.lt {w:World}{v:Value}{l:List Nat}(h:E0 w v l):∀k,v.ownBlock=some k->k<w.heap.size:=by
 intro k hk;rcases h.2 with⟨rfl,_⟩|⟨g,cap,cur,rfl,_,hh,_⟩
 ·simp[Value.ownBlock]at hk
 ·simp only[Value.ownBlock,Option.some.injEq]at hk;subst hk;exact (Array.getElem?_eq_some_iff.1 hh).1
theorem E0.shape {w:World}{v:Value}{l:List Nat}(h:E0 w v l):∃a c,v=.slice a l.length c:=by
 rcases h.2 with⟨rfl,h0⟩|⟨g,cap,cur,rfl,_⟩
 ·exact⟨none,0,by rw[h0]⟩
 ·exact⟨_,_,rfl⟩
theorem MC (w:World)(v:Value)(l:List Nat)(q b:Nat)(c:Nat)(h:E0 w v l)(hc:w.cell? ⟨b,0,none⟩=some (.int .i64 q))(hl:l.length<=8192)(ty:TypeId) :
  ∃v' w',(Builtin.append_ #[57,57] ty #[v,.slice (some ⟨b,0,none⟩) 1 c]).run Tryz.prog w=.ok v' w'/\E0 w' v' (l++[q])/\C3 w w' v v':=by
 obtain⟨i0,hi,q0,q1,q2⟩:=info_parts BS9;obtain⟨v',w',hr,h1,h2⟩:=DZ w 57 ty 3 i0 (.int .i64 0) 1 8 Tryz.underlying57 hi q0 q1 q2 rfl (by decide) v l.length _ h ⟨b,0,none⟩ 1 c [.int .i64 q] rfl (λj u hu=>by
  match j,hu with
  | 0,hu=>rw[A3,Nat.zero_add,hc];simpa using hu
  | j+1,hu=>simp at hu) (λu hu=>by rw[List.mem_singleton]at hu;subst hu;rfl) (by unfold maxLen;omega) (by omega) (by omega)
 refine⟨v',w',hr,?_,h2⟩;unfold E0;rw[List.length_append,List.map_append];exact h1
structure Kc where
 J:List AD->Prop
 B:Nat
 c:Ac
 S0:Nat->Prop
 w0:World
 tb:Nat
 r:Nat
 cb:Nat
 mb:Nat
 wv:Value
 way:List (NO × Nat)
structure Hst where
 S:Nat->Prop
 ρ:Nat->Nat
 h:Hd
 G:Nat->List UInt8
 M:Nat->Option NO
 tk:List Nat
 gn:List Nat
 av:Value
 gv:Value
def C9 (M:Nat->Option NO):Nat->Option Value:=λq=>if 1<=q/\q<4096 then (M q).map NO.ptr else none
def Kc.cells (K:Kc)(s:Hst):Array Value:=#[.pointer (some ⟨K.tb,0,none⟩),.map (some K.mb),K.wv,s.av,s.gv]
structure Hnd (K:Kc)(s:Hst)(w:World):Prop where
 pos:1<=K.w0.heap.size
 tree:AH w K.tb K.c.a K.r/\s.ρ K.tb=0
 act:AU K.J K.B s.S K.c s.h s.G w
 sub:∀k,s.S k->s.ρ k=1
 turn:AO K.S0 K.w0 s.S w
 low:∀k,2<=s.ρ k->K.w0.heap.size<=k
 lt:∀k,s.ρ k≠0->k<w.heap.size
 chg:w.heap[K.cb]? = some (.cells (K.cells s) 186 (0,0))/\s.ρ K.cb=2
 map:(∃m,EB w K.mb m (C9 s.M))/\s.ρ K.mb=3
 way:BL w K.wv K.way/\∀k,K.wv.ownBlock=some k->s.ρ k=4
 tak:E0 w s.av s.tk/\∀k,s.av.ownBlock=some k->s.ρ k=5
 gon:E0 w s.gv s.gn/\∀k,s.gv.ownBlock=some k->s.ρ k=6
 node:∀q x,s.M q=some x->DS s.ρ w q x
 was:∀q x,s.M q=some x->1<=q->q<4096->x.page=q/\s.h.has q/\(x.was=s.G q\/x.was=[])
 gok:s.gn.Nodup/\∀q ∈ s.gn,s.h.has q/\s.M q=none
 tok:s.tk.Nodup/\∀q ∈ s.tk,s.h.has q
theorem Hnd.step {K:Kc}{s s':Hst}{w w':World}{T R:Nat->Prop}(H:Hnd K s w)(hk:AC T w w')(hT:∀k,k<w.heap.size->T k->R (s.ρ k))(h0:¬R 0)
  (hρ:∀k,k<w.heap.size->s'.ρ k=s.ρ k\/(R (s.ρ k)/\2<=s.ρ k/\2<=s'.ρ k)) (hlt:∀k,s'.ρ k≠0->k<w'.heap.size)
  (hact:(¬R 1/\s'.S=s.S/\s'.h=s.h/\s'.G=s.G)\/(AU K.J K.B s'.S K.c s'.h s'.G w'/\(∀k,s'.S k->s'.ρ k=1)/\AO s.S w s'.S w'))
  (hchg:(¬R 2/\s'.av=s.av/\s'.gv=s.gv)\/(w'.heap[K.cb]? = some (.cells (K.cells s') 186 (0,0))/\s'.ρ K.cb=2))
  (hmap:(¬R 3/\C9 s'.M=C9 s.M)\/((∃m,EB w' K.mb m (C9 s'.M))/\s'.ρ K.mb=3))
  (hway:¬R 4)
  (htak:(¬R 5/\s'.tk=s.tk/\s'.av=s.av)\/(E0 w' s'.av s'.tk/\∀k,s'.av.ownBlock=some k->s'.ρ k=5))
  (hgon:(¬R 6/\s'.gn=s.gn/\s'.gv=s.gv)\/(E0 w' s'.gv s'.gn/\∀k,s'.gv.ownBlock=some k->s'.ρ k=6))
  (hnode:∀q x,s'.M q=some x->(s.M q=some x/\¬R (8+2*q)/\¬R (9+2*q)/\¬R 7)\/DS s'.ρ w' q x)
  (hwas:∀q x,s'.M q=some x->1<=q->q<4096->x.page=q/\s'.h.has q/\(x.was=s'.G q\/x.was=[]))
  (hgok:s'.gn.Nodup/\∀q ∈ s'.gn,s'.h.has q/\s'.M q=none) (htok:s'.tk.Nodup/\∀q ∈ s'.tk,s'.h.has q):Hnd K s' w':=by
 have hz:=hk.size;have hz0:=H.turn.1.size;have same:∀k,s.ρ k≠0->¬R (s.ρ k)->s'.ρ k=s.ρ k:=λk h1 h2=>(hρ k (H.lt k h1)).elim id λh=>absurd h.1 h2
 have blk:∀k,s.ρ k≠0->¬R (s.ρ k)->w'.heap[k]? = w.heap[k]?:=λk h1 h2=>hk.block k (H.lt k h1) λh=>h2 (hT k (H.lt k h1) h)
 have htb:=H.tree.1.lt;have hA:AU K.J K.B s'.S K.c s'.h s'.G w'/\(∀k,s'.S k->s'.ρ k=1)/\AO s.S w s'.S w'\/(AU K.J K.B s'.S K.c s'.h s'.G w'/\(∀k,s'.S k->s'.ρ k=1)/\AO K.S0 K.w0 s'.S w'):=by
  rcases hact with⟨h1,e1,e2,e3⟩|h
  ·have hlow:∀k,k<w.heap.size->T k->K.w0.heap.size<=k/\s.ρ k≠1:=λk hl ht=>by
    have:=hT k hl ht
    have n1:s.ρ k≠1:=λe=>h1 (e ▸ this)
    have n0:s.ρ k≠0:=λe=>h0 (e ▸ this)
    exact⟨H.low k (by omega),n1⟩
   have h00:=H.pos;rw[e1,e2,e3];refine .inr ⟨H.act.kept hk (λk ht hl=>⟨λhs=>(hlow k hl ht).2 (H.sub k hs),by have:=(hlow k hl ht).1;omega⟩),λk hs=>?_,?_,H.turn.2⟩
   ·have h1':=H.sub k hs;rw[same k (by omega) (by rw[h1'];exact h1)];exact h1'
   ·exact H.turn.1.trans hk λk ht=>by
     rcases Nat.lt_or_ge k w.heap.size with hl|hl
     ·exact .inr (hlow k hl ht).1
     ·exact .inr (by omega)
  ·exact .inl h
 obtain⟨a1,a2,a3⟩:AU K.J K.B s'.S K.c s'.h s'.G w'/\(∀k,s'.S k->s'.ρ k=1)/\AO K.S0 K.w0 s'.S w':=by
  rcases hA with⟨x1,x2,x3⟩|h
  ·exact⟨x1,x2,H.turn.trans x3⟩
  ·exact h
 refine⟨H.pos,⟨H.tree.1.kept hk (λht=>h0 (H.tree.2 ▸ hT _ htb ht)),?_⟩,a1,a2,a3,λk hk2=>?_,hlt,?_,?_,?_,?_,?_,λq x hq=>?_,hwas,hgok,htok⟩
 ·rcases hρ _ htb with h1|h1
  ·rw[h1];exact H.tree.2
  ·exact absurd (H.tree.2 ▸ h1.1) h0
 ·rcases Nat.lt_or_ge k w.heap.size with hl|hl
  ·rcases hρ k hl with h1|h1
   ·exact H.low k (h1 ▸ hk2)
   ·exact H.low k h1.2.1
  ·omega
 ·rcases hchg with⟨h1,e1,e2⟩|h
  ·have hr:=H.chg.2;refine⟨?_,(same _ (by omega) (by rw[hr];exact h1)).trans hr⟩
   rw[blk _ (by omega) (by rw[hr];exact h1),H.chg.1]
   unfold Kc.cells;rw[e1,e2]
  ·exact h
 ·rcases hmap with⟨h1,e1⟩|h
  ·have hr:=H.map.2;refine⟨?_,(same _ (by omega) (by rw[hr];exact h1)).trans hr⟩
   obtain⟨m,hm⟩:=H.map.1;rw[e1];exact⟨m,hm.block (blk _ (by omega) (by rw[hr];exact h1))⟩
  ·exact h
 ·refine⟨AG H.way.1 λk hk'=>?_,λk hk'=>?_⟩
  ·have hr:=H.way.2 k hk';exact blk _ (by omega) (by rw[hr];exact hway)
  ·have hr:=H.way.2 k hk';exact (same _ (by omega) (by rw[hr];exact hway)).trans hr
 ·rcases htak with⟨h1,e1,e2⟩|h
  ·rw[e1,e2];refine⟨AG H.tak.1 λk hk'=>?_,λk hk'=>?_⟩
   ·have hr:=H.tak.2 k hk';exact blk _ (by omega) (by rw[hr];exact h1)
   ·have hr:=H.tak.2 k hk';exact (same _ (by omega) (by rw[hr];exact h1)).trans hr
  ·exact h
 ·rcases hgon with⟨h1,e1,e2⟩|h
  ·rw[e1,e2];refine⟨AG H.gon.1 λk hk'=>?_,λk hk'=>?_⟩
   ·have hr:=H.gon.2 k hk';exact blk _ (by omega) (by rw[hr];exact h1)
   ·have hr:=H.gon.2 k hk';exact (same _ (by omega) (by rw[hr];exact h1)).trans hr
  ·exact h
 ·rcases hnode q x hq with⟨h1,h2⟩|h
  ·exact (H.node q x h1).go hk hT h0 hρ H.lt h2
  ·exact h
theorem E9 {M M':Nat->Option NO}(h:∀q,1<=q->q<4096->(M' q).map NO.ptr=(M q).map NO.ptr):C9 M'=C9 M:=by
 funext q
 unfold C9;by_cases hq:1<=q/\q<4096
 ·rw[if_pos hq,if_pos hq];exact h q hq.1 hq.2
 ·rw[if_neg hq,if_neg hq]
theorem MU (M:Nat->Option NO){q:Nat}(hq:1<=q/\q<4096)(x:Option NO):C9 (upd M q x)=upd (C9 M) q (x.map NO.ptr):=by
 funext j
 unfold C9;by_cases hj:j=q
 ·subst hj;rw[AB,if_pos hq,AB]
 ·rw[AA _ _ hj,AA _ _ hj]
theorem IR (M:Nat->Option NO){q:Nat}(hq:1<=q/\q<4096):C9 M q=(M q).map NO.ptr:=by unfold C9;rw[if_pos hq]
section
variable {K:Kc} {s:Hst} {w w':World}
theorem Hnd.below (H:Hnd K s w)(hb:Below w.heap.size w w'):Hnd K s w' :=
 H.step (T:=λ_=>False) (R:=λ_=>False) (AC.ofBelow hb) (λ_ _ h=>h) id (λ_ _=>.inl rfl) (λk hk=>Nat.lt_of_lt_of_le (H.lt k hk) hb.size) (.inl ⟨id,rfl,rfl,rfl⟩) (.inl ⟨id,rfl,rfl⟩) (.inl ⟨id,rfl⟩) id (.inl ⟨id,rfl,rfl⟩) (.inl ⟨id,rfl,rfl⟩) (λ_ _ h=>.inl ⟨h,id,id,id⟩) H.was H.gok H.tok
theorem NP (ρ:Nat->Nat)(n:Nat)(S':Nat->Prop):∃ρ':Nat->Nat,(∀k,k<n->ρ' k=ρ k)/\(∀k,n<=k->S' k->ρ' k=1)/\∀k,n<=k->¬S' k->ρ' k=ρ k :=
 ⟨λk=>@ite _ (n<=k/\S' k) (Classical.propDecidable _) 1 (ρ k),λk hk=>if_neg (by omega),λk hk hs=>if_pos ⟨hk,hs⟩,λk hk hs=>if_neg (λh=>hs h.2)⟩
theorem Hnd.acts (H:Hnd K s w){S':Nat->Prop}{h':Hd}{G':Nat->List UInt8}{ρ':Nat->Nat}(hT:AO s.S w S' w')(hA:AU K.J K.B S' K.c h' G' w')(hρ:∀k,k<w.heap.size->ρ' k=s.ρ k)(hS:∀k,w.heap.size<=k->S' k->ρ' k=1)(hlt:∀k,w.heap.size<=k->ρ' k≠0->k<w'.heap.size)
  (hh:∀q x,s.M q=some x->1<=q->q<4096->h'.has q/\(x.was=G' q\/x.was=[])) (hg:∀q ∈ s.gn,h'.has q) (ht:∀q ∈ s.tk,h'.has q):Hnd K { s with S:=S',h:=h',G:=G',ρ:=ρ' } w':=by
 have hz:=hT.1.size;refine H.step (T:=s.S) (R:=λr=>r=1) hT.1 (λk _ h=>H.sub k h) (by omega) (λk hk=>.inl (hρ k hk)) (λk hk=>?_) (.inr ⟨hA,λk hk=>?_,hT⟩) (.inl ⟨by omega,rfl,rfl⟩) (.inl ⟨by omega,rfl⟩) (by omega) (.inl ⟨by omega,rfl,rfl⟩) (.inl ⟨by omega,rfl,rfl⟩) (λq x h=>.inl ⟨h,by omega,by omega,by omega⟩) (λq x hq h1 h2=>⟨(H.was q x hq h1 h2).1,hh q x hq h1 h2⟩) ⟨H.gok.1,λq hq=>⟨hg q hq,(H.gok.2 q hq).2⟩⟩ ⟨H.tok.1,ht⟩
 ·rcases Nat.lt_or_ge k w.heap.size with h|h
  ·have hk':ρ' k≠0:=hk;rw[hρ k h]at hk';have:=H.lt k hk'
   omega
  ·exact hlt k h hk
 ·rcases Nat.lt_or_ge k w.heap.size with h|h
  ·exact (hρ k h).trans (H.sub k (hT.2 k h hk))
  ·exact hS k h hk
theorem Hnd.act0 (H:Hnd K s w){h':Hd}{G':Nat->List UInt8}(hA:BI K.J K.B s.S K.c h' G' w w')
  (hh:∀q x,s.M q=some x->1<=q->q<4096->h'.has q/\(x.was=G' q\/x.was=[])) (hg:∀q ∈ s.gn,h'.has q) (ht:∀q ∈ s.tk,h'.has q):∃S' ρ',Hnd K { s with S:=S',h:=h',G:=G',ρ:=ρ' } w':=by
 obtain⟨S',hT,hA⟩:=hA;obtain⟨ρ',h1,h2,h3⟩:=NP s.ρ w.heap.size S';refine⟨S',ρ',H.acts hT hA h1 h2 (λk hk h0=>?_) hh hg ht⟩
 by_cases hs:S' k
 ·exact (hA.low k hs).2
 ·rw[h3 k hk hs]at h0;have:=H.lt k h0
  omega
theorem Hnd.loaded (H:Hnd K s w){q l:Nat}{es:List En}{was:List UInt8}{y:NO}{S':Nat->Prop}(hL:GK K.J K.B s.S K.c s.h s.G q l es was w y S' w')(hne:es≠[])(id_:Nat) :
  ∃ρ',Hnd K { s with S:=S',ρ:=ρ' } w'/\DS ρ' w' id_ y:=by
 obtain⟨ρ1,h1,h2,h3⟩:=NP s.ρ w.heap.size S';have hnew:=hL.new;have hz:=hL.turn.1.size;have hnd0:=hL.node (λk=>ρ1 k≠0) (λk hk=>by
  rcases Nat.lt_or_ge k w.heap.size with h|h
  ·exact .inl h
  ·by_cases hs:S' k
   ·exact .inr hs
   ·rw[h3 k h hs]at hk;have:=H.lt k hk
    omega)
 have hyl:=hnd0.lt;have hab:∀ad,y.arr=some ad->y.ab≠y.blk:=by
  intro ad ha e;rcases hnd0.ents with h0|⟨b,o,cs,hb,hh,_⟩
  ·rw[hL.info.2.2.1]at h0;exact hne h0
  ·have:y.ab=b:=by unfold NO.ab;rw[hb]
   rw[<-this,e,hnd0.blk]at hh;injection hh with hh
   injection hh with _ hh _
   exact absurd hh (by decide)
 refine⟨upd (upd ρ1 y.ab (9+2*id_)) y.blk (8+2*id_),?_,?_,AB _ _ _,λad ha=>?_⟩
 ·refine H.acts hL.turn hL.act (λk hk=>?_) (λk hk hs=>?_) (λk hk h0=>?_) (λq x hq h1 h2=>(H.was q x hq h1 h2).2) (λq hq=>(H.gok.2 q hq).1) H.tok.2
  ·rw[AA _ _ (by omega),AA _ _ (by omega)];exact h1 k hk
  ·have hk1:k≠y.blk:=λe=>hnew.2.2.1 (e ▸ hs)
   have hk2:k≠y.ab:=λe=>hnew.2.2.2 (e ▸ hs)
   rw[AA _ _ hk1,AA _ _ hk2];exact h2 k hk hs
  ·by_cases hk1:k=y.blk
   ·rw[hk1];exact hyl
   ·by_cases hk2:k=y.ab
    ·rw[hk2];exact hL.ablt
    ·rw[AA _ _ hk1,AA _ _ hk2]at h0;by_cases hs:S' k
     ·exact (hL.act.low k hs).2
     ·rw[h3 k hk hs]at h0;have:=H.lt k h0
      omega
 ·have e:(λk=>upd (upd ρ1 y.ab (9+2*id_)) y.blk (8+2*id_) k≠0)=λk=>ρ1 k≠0\/k=y.blk\/k=y.ab:=by
   funext k
   apply propext
   by_cases hk1:k=y.blk
   ·subst hk1;rw[AB];exact⟨λ_=>.inr (.inl rfl),λ_=>by omega⟩
   ·rw[AA _ _ hk1];by_cases hk2:k=y.ab
    ·subst hk2;rw[AB];exact⟨λ_=>.inr (.inr rfl),λ_=>by omega⟩
    ·rw[AA _ _ hk2];exact⟨.inl,λh=>h.elim id (λh=>h.elim (λh=>absurd h hk1) λh=>absurd h hk2)⟩
  rw[e];exact hnd0
 ·rw[Q7 ha,AA _ _ (hab ad ha),AB,hL.info.2.2.2.2.2.1];rfl
theorem Hnd.putM (H:Hnd K s w){q m:Nat}{x:NO}(hq:1<=q/\q<4096)(hx:DS s.ρ w q x)(hp:x.page=q/\s.h.has q/\(x.was=s.G q\/x.was=[]))(hg:q ∉ s.gn)(hk:AC (λk=>k=K.mb) w w')(hm:EB w' K.mb m (upd (C9 s.M) q (some x.ptr))) :
  Hnd K { s with M:=upd s.M q (some x) } w':=by
 have hT:∀k,k<w.heap.size->k=K.mb->s.ρ k=3:=λk _ e=>e ▸ H.map.2
 have hlt:=λk hk'=>Nat.lt_of_lt_of_le (H.lt k hk') hk.size
 refine H.step (T:=λk=>k=K.mb) (R:=λr=>r=3) hk hT (by omega) (λk _=>.inl rfl) hlt (.inl ⟨by omega,rfl,rfl,rfl⟩) (.inl ⟨by omega,rfl,rfl⟩) (.inr ⟨⟨m,?_⟩,H.map.2⟩) (by omega) (.inl ⟨by omega,rfl,rfl⟩) (.inl ⟨by omega,rfl,rfl⟩) (λj y hj=>?_) (λj y hj h1 h2=>?_) ⟨H.gok.1,λj hj=>⟨(H.gok.2 j hj).1,?_⟩⟩ H.tok
 ·rw[MU _ hq];exact hm
 ·dsimp only at hj
  by_cases hjq:j=q
  ·subst hjq;rw[AB]at hj;cases hj;exact .inr (hx.go (T:=λk=>k=K.mb) (R:=λr=>r=3) hk hT (by omega) (λk _=>.inl rfl) H.lt ⟨by omega,by omega,by omega⟩)
  ·rw[AA _ _ hjq]at hj;exact .inl ⟨hj,by omega,by omega,by omega⟩
 ·dsimp only at hj
  by_cases hjq:j=q
  ·subst hjq;rw[AB]at hj;cases hj;exact hp
  ·rw[AA _ _ hjq]at hj;exact H.was j y hj h1 h2
 ·have:j≠q:=λe=>hg (e ▸ hj)
  dsimp only
  rw[AA _ _ this];exact (H.gok.2 j hj).2
theorem Hnd.turnM (H:Hnd K s w){q:Nat}{x x':NO}{ρ':Nat->Nat}{T:Nat->Prop}(hM:s.M q=some x)(hk:AC T w w')(hT:∀k,k<w.heap.size->T k->s.ρ k=8+2*q\/s.ρ k=9+2*q)(hρ:∀k,k<w.heap.size->ρ' k=s.ρ k)(hS:∀k,w.heap.size<=k->ρ' k≠0->k<w'.heap.size)
  (hx:DS ρ' w' q x') (hp:x'.page=x.page/\x'.was=x.was/\x'.blk=x.blk):Hnd K { s with M:=upd s.M q (some x'),ρ:=ρ' } w':=by
 refine H.step (T:=T) (R:=λr=>r=8+2*q\/r=9+2*q) hk hT (by omega) (λk h=>.inl (hρ k h)) (λk h=>?_) (.inl ⟨by omega,rfl,rfl,rfl⟩) (.inl ⟨by omega,rfl,rfl⟩) (.inl ⟨by omega,?_⟩) (by omega) (.inl ⟨by omega,rfl,rfl⟩) (.inl ⟨by omega,rfl,rfl⟩) (λj y hj=>?_) (λj y hj h1 h2=>?_) ⟨H.gok.1,λj hj=>⟨(H.gok.2 j hj).1,?_⟩⟩ H.tok
 ·rcases Nat.lt_or_ge k w.heap.size with h'|h'
  ·exact Nat.lt_of_lt_of_le h' hk.size
  ·exact hS k h' h
 ·refine E9 λj h1 h2=>?_
  by_cases hjq:j=q
  ·subst hjq;show (upd s.M j (some x') j).map NO.ptr=_;rw[AB,hM];show some x'.ptr=some x.ptr;unfold NO.ptr;rw[hp.2.2]
  ·show (upd s.M q (some x') j).map NO.ptr=_;rw[AA _ _ hjq]
 ·dsimp only at hj
  by_cases hjq:j=q
  ·subst hjq;rw[AB]at hj;cases hj;exact .inr hx
  ·rw[AA _ _ hjq]at hj;exact .inl ⟨hj,by omega,by omega,by omega⟩
 ·dsimp only at hj
  by_cases hjq:j=q
  ·subst hjq;rw[AB]at hj;cases hj;have:=H.was j x hM h1 h2
   rw[hp.1,hp.2.1];exact this
  ·rw[AA _ _ hjq]at hj;exact H.was j y hj h1 h2
 ·have:j≠q:=λe=>by have:=(H.gok.2 j hj).2;rw[e,hM]at this;cases this
  dsimp only
  rw[AA _ _ this];exact (H.gok.2 j hj).2
theorem Hnd.delM (H:Hnd K s w){q m:Nat}{x:NO}(hq:1<=q/\q<4096)(hM:s.M q=some x)(hk:AC (λk=>k=K.mb) w w')(hm:EB w' K.mb m (upd (C9 s.M) q none)):Hnd K { s with M:=upd s.M q none } w':=by
 have hT:∀k,k<w.heap.size->k=K.mb->s.ρ k=3:=λk _ e=>e ▸ H.map.2
 have hlt:=λk hk'=>Nat.lt_of_lt_of_le (H.lt k hk') hk.size
 refine H.step (T:=λk=>k=K.mb) (R:=λr=>r=3) hk hT (by omega) (λk _=>.inl rfl) hlt (.inl ⟨by omega,rfl,rfl,rfl⟩) (.inl ⟨by omega,rfl,rfl⟩) (.inr ⟨⟨m,?_⟩,H.map.2⟩) (by omega) (.inl ⟨by omega,rfl,rfl⟩) (.inl ⟨by omega,rfl,rfl⟩) (λj y hj=>?_) (λj y hj h1 h2=>?_) ⟨H.gok.1,λj hj=>⟨(H.gok.2 j hj).1,?_⟩⟩ H.tok
 ·rw[MU _ hq];exact hm
 ·dsimp only at hj
  by_cases hjq:j=q
  ·subst hjq;rw[AB]at hj;cases hj
  ·rw[AA _ _ hjq]at hj;exact .inl ⟨hj,by omega,by omega,by omega⟩
 ·dsimp only at hj
  by_cases hjq:j=q
  ·subst hjq;rw[AB]at hj;cases hj
  ·rw[AA _ _ hjq]at hj;exact H.was j y hj h1 h2
 ·dsimp only
  by_cases hjq:j=q
  ·subst hjq;exact AB _ _ _
  ·rw[AA _ _ hjq];exact (H.gok.2 j hj).2
end
def BE (X:Nat->Prop)(w:World):List Value->List En->Prop
 | [],[]=>True
 | kv::vv::vs,e::es=>A7 X w kv e.key/\A7 X w vv e.val/\BE X w vs es
 | _,_=>False
section
variable {X X' T:Nat->Prop} {w w':World}
theorem BE.len:∀{vs:List Value} {es:List En},BE X w vs es->vs.length=es.length*2
 | [],[],_=>rfl
 | _::_::_,_::_,h=>by have:=BE.len h.2.2;simp only[List.length_cons];omega
theorem BE.app:∀{vs us:List Value} {es fs:List En},BE X w vs es->BE X w us fs->BE X w (vs++us) (es++fs)
 | [],_,[],_,_,k=>k
 | _::_::_,_,_::_,_,h,k=>⟨h.1,h.2.1,BE.app h.2.2 k⟩
theorem BE.split:∀{vs:List Value} (es fs:List En),BE X w vs (es++fs)->∃v1 v2,vs=v1++v2/\BE X w v1 es/\BE X w v2 fs
 | vs,[],fs,h=>⟨[],vs,rfl,trivial,h⟩
 | kv::vv::vs,e::es,fs,h=>by
  obtain⟨v1,v2,h1,h2,h3⟩:=BE.split es fs h.2.2;exact⟨kv::vv::v1,v2,by rw[h1];rfl,⟨h.1,h.2.1,h2⟩,h3⟩
 | [],_::_,_,h=>(show False from h).elim
 | [_],_::_,_,h=>(show False from h).elim
theorem A7.one {v:Value}{l:List UInt8}(h:A7 X w v l):v.oneCell'=true:=by
 obtain⟨A,c,rfl,_⟩:=h;rfl
theorem BE.one:∀{vs:List Value} {es:List En},BE X w vs es->∀v ∈ vs,v.oneCell'=true
 | [],[],_,v,hv=>by cases hv
 | _::_::_,_::_,h,v,hv=>by
  rcases List.mem_cons.1 hv with rfl|hv
  ·exact h.1.one
  ·rcases List.mem_cons.1 hv with rfl|hv
   ·exact h.2.1.one
   ·exact BE.one h.2.2 v hv
theorem BE.kept (hk:AC T w w')(hT:∀k,k<w.heap.size->T k->X k)(hX:∀k,k<w.heap.size->X' k->X k):∀{vs:List Value} {es:List En},BE X w vs es->BE X' w' vs es
 | [],[],_=>trivial
 | _::_::_,_::_,h=>⟨h.1.kept hk hT hX,h.2.1.kept hk hT hX,BE.kept hk hT hX h.2.2⟩
theorem BE.at_:∀{vs:List Value} {es:List En},BE X w vs es->∀i (h:i<es.length),∃kv vv,vs[2*i]? = some kv/\vs[2*i+1]? = some vv/\A7 X w kv es[i].key/\A7 X w vv es[i].val
 | [],[],_,_,hi=>absurd hi (by simp)
 | [],_::_,h,_,_=>(show False from h).elim
 | [_],[],h,_,_=>(show False from h).elim
 | [_],_::_,h,_,_=>(show False from h).elim
 | _::_::_,[],h,_,_=>(show False from h).elim
 | kv::vv::vs,e::es,h,0,_=>⟨kv,vv,rfl,rfl,h.1,h.2.1⟩
 | kv::vv::vs,e::es,h,i+1,hi=>by
  obtain⟨a,b,h1,h2,h3⟩:=BE.at_ h.2.2 i (by simpa using hi)
  refine⟨a,b,?_,?_,h3⟩
  ·rw[show 2*(i+1)=2*i+1+1 by omega];simpa using h1
  ·rw[show 2*(i+1)+1=2*i+1+1+1 by omega];simpa using h2
theorem AA6 {cs:List Value}:∀(es:List En) (o:Nat),(∀i (h:i<es.length),∃kv vv,cs[o+2*i]? = some kv/\cs[o+2*i+1]? = some vv/\A7 X w kv es[i].key/\A7 X w vv es[i].val)->∃vs R,cs.drop o=vs++R/\BE X w vs es
 | [],o,_=>⟨[],cs.drop o,rfl,trivial⟩
 | e::es,o,h=>by
  obtain⟨kv,vv,h1,h2,h3,h4⟩:=h 0 (by simp)
  obtain⟨vs,R,h5,h6⟩:=AA6 es (o+2) (λi hi=>by
   have:=h (i+1) (by simpa using hi)
   rw[show o+2*(i+1)=o+2+2*i by omega]at this
   exact this)
  refine⟨kv::vv::vs,R,?_,h3,h4,h6⟩;simp only[Nat.mul_zero,Nat.add_zero]at h1 h2;obtain⟨l1,e1⟩:=List.getElem?_eq_some_iff.1 h1;obtain⟨l2,e2⟩:=List.getElem?_eq_some_iff.1 h2;rw[List.drop_eq_getElem_cons l1,List.drop_eq_getElem_cons l2,e1,e2,h5];rfl
structure OT (X:Nat->Prop)(w:World)(b:Nat)(L vs R:List Value)(es:List En):Prop where
 blk:w.heap[b]? = some (.cells (L++(vs++R)).toArray 135 (0,0))
 own:X b
 pairs:BE X w vs es
theorem E5.row {b o:Nat}{es:List En}(h:E5 X w (some ⟨b,o,none⟩) es)(hne:es≠[]):∃L vs R,L.length=o/\OT X w b L vs R es:=by
 rcases h with rfl|⟨b',o',cs,e,hb,hx,hc⟩
 ·exact absurd rfl hne
 ·injection e with e
  injection e with e1 e2
  subst e1;subst e2
  obtain⟨vs,R,h1,h2⟩:=AA6 (cs:=cs.toList) es o (λi hi=>by simpa using hc i hi)
  have hl:o<=cs.toList.length:=by
   have hp:=List.length_pos_iff.2 hne;obtain⟨kv,vv,a1,_⟩:=hc 0 hp;have:=(Array.getElem?_eq_some_iff.1 a1).1
   simp;omega
  refine⟨cs.toList.take o,vs,R,by rw[List.length_take];omega,?_,hx,h2⟩
  rw[<-h1,List.take_append_drop,Array.toArray_toList];exact hb
theorem OT.ents {b:Nat}{L vs R:List Value}{es:List En}(h:OT X w b L vs R es):E5 X w (some ⟨b,L.length,none⟩) es:=by
 refine .inr ⟨b,L.length,_,rfl,h.blk,h.own,λi hi=>?_⟩
 obtain⟨kv,vv,h1,h2,h3,h4⟩:=h.pairs.at_ i hi;have hl:=h.pairs.len;refine⟨kv,vv,?_,?_,h3,h4⟩
 ·rw[List.getElem?_toArray,List.getElem?_append_right (by omega),Nat.add_sub_cancel_left,List.getElem?_append_left (by omega)];exact h1
 ·rw[List.getElem?_toArray,Nat.add_assoc,List.getElem?_append_right (by omega),Nat.add_sub_cancel_left,List.getElem?_append_left (by omega)];exact h2
end
theorem JN {ops:Array Oper}{rest:List Oper}{o:Oper}{a:Act}{Q:Exit->Act->World->Prop}{w w':World}(hgd:o.guard=none)(d s:Operand)(t t':TypeId)
  (ho:o.op=.call { callee:=.builtin .copy,args:=#[d,s],argTypes:=#[t,t'] }) (dv sv v:Value) (hd:a.eval d=dv) (hs:a.eval s=sv) (hr:(Builtin.copy_ #[t,t'] o.type #[dv,sv]).run Tryz.prog w=.ok v w') (h:wpList Tryz.prog ops Q rest (a.put o.dst v) w'):wpList Tryz.prog ops Q (o::rest) a w :=
 wpList_plain hgd λK hK=>by
  unfold Oper.wp;simp[execOp,ho,resolve,invoke,builtin,hd,hs,hr,Result.andThen];rw[Oper.upon_value];exact hK _ _ h
theorem J1 (w:World)(g:Nat)(cs:Array Value):AC (λk=>k=g) w (w.setRow g cs) :=
 ⟨rfl,rfl,rfl,by simp,λk _ hk=>setRow_other w g k cs hk⟩
abbrev nn:List Value:=[Value.slice none 0 0,Value.slice none 0 0]
theorem J4 {α:Type}(P X:List α)(n:Nat):(P++X).drop (P.length+n)=X.drop n:=by rw[<-List.drop_drop,List.drop_left]
theorem BT5 (w:World)(g N cap i:Nat)(ax:Addr)(c:Nat)(P D Q R:List Value)(h:w.heap[g]? = some (.cells (P++(D++(Q++R))).toArray 135 (0,0)))(hP:P.length=i*2)(hD:D.length=2)(hQ:Q.length=(N-(i+1))*2)(hi:i<N)(hN:N<=cap)(hone:∀v ∈ Q,v.oneCell'=true)(hax:i+1<N->ax=⟨g,(i+1)*2,none⟩)(ty:TypeId) :
  ∃Z:List Value,Z.length=2/\(Builtin.append_ #[136,136] ty #[.slice (some ⟨g,0,none⟩) i cap,.slice (some ax) (N-(i+1)) c]).run Tryz.prog w=.ok (.slice (some ⟨g,0,none⟩) (N-1) cap) (w.setRow g (P++(Q++(Z++R))).toArray):=by
 obtain⟨i0,hi0,q0,q1,q2⟩:=info_parts EP;have hr:=run_append_room (P:=Tryz.prog) w 136 ty 135 i0 Tryz.underlying136 hi0 g i cap _ h ax (N-(i+1)) c Q (by rw[q1];exact hQ) (λj u hu=>by
  have hj:j<(N-(i+1))*2:=by rw[<-hQ];exact (List.getElem?_eq_some_iff.1 hu).1
  rw[hax (by omega),A3,yC h,List.getElem?_toArray,List.getElem?_append_right (by omega),List.getElem?_append_right (by omega),List.getElem?_append_left (by omega),<-hu]
  congr 1;omega) hone (by omega) (by rw[q1];simp[hP,hD,hQ];omega)
 refine⟨(D++Q).drop Q.length,by simp[hD],?_⟩
 rw[hr,q1];rw[show i+(N-(i+1))=N-1 by omega,List.toList_toArray]
 congr 3
 rw[List.take_left' hP,<-hP,J4,List.append_assoc,<-List.append_assoc D Q R,List.drop_append_of_le_length (by simp)]
theorem AX4 (w:World)(g N c:Nat)(P Z R:List Value)(h:w.heap[g]? = some (.cells (P++(Z++R)).toArray 135 (0,0)))(hP:P.length=(N-1)*2)(hZ:Z.length=2)(ty:TypeId) :
  (Builtin.clear_ #[136] ty #[.slice (some ⟨g,(N-1)*2,none⟩) 1 c]).run Tryz.prog w=.ok (.tuple #[]) (w.setRow g (P++(nn++R)).toArray):=by
 have hst:=run_storeCells_at Tryz.prog g ((N-1)*2) 135 nn 0 _ w h (by simp[hP,hZ]) (λu hu=>by simp only[nn,List.mem_cons,List.not_mem_nil,or_false,or_self]at hu;subst hu;rfl)
 simp only[Nat.add_zero]at hst;have hz:∀w,(zeroValue 135).run Tryz.prog w=.ok (.agg #[.slice none 0 0,.slice none 0 0]) w:=λw=>by kernel_rfl
 have hzc:(Builtin.zeroCells (Value.agg #[.slice none 0 0,.slice none 0 0]).cells 1).toList=nn:=by kernel_rfl
 have e:(P++(Z++R)).take ((N-1)*2)++nn++(P++(Z++R)).drop ((N-1)*2+nn.length)=P++(nn++R):=by
  rw[List.take_left' hP,<-hP,J4,show nn.length=Z.length by rw[hZ];rfl,List.drop_left,List.append_assoc]
 rw[e]at hst;simp[Builtin.clear_,run_underlying Tryz.underlying136,hz,hzc,hst]
def JF (g N cap:Nat)(P Q R:List Value)(w:World)(e:Ending)(w':World):Prop :=
 e=.returned (.slice (some ⟨g,0,none⟩) (N-1) cap)/\w'.heap[g]? = some (.cells (P++(Q++(nn++R))).toArray 135 (0,0))/\AC (λk=>k=g) w w'
theorem AX3 (g N cap i:Nat)(P D Q R:List Value)(w:World)(h:w.heap[g]? = some (.cells (P++(D++(Q++R))).toArray 135 (0,0)))(hP:P.length=i*2)(hD:D.length=2)(hQ:Q.length=(N-(i+1))*2)(hi:i<N)(hN:N<=cap)(hN5:N<=512)(hc:cap<=maxLen)(hone:∀v ∈ Q,v.oneCell'=true) :
  Calls Tryz.prog 126 #[.slice (some ⟨g,0,none⟩) N cap,.int .i64 i,.int .i64 ((i+1:Nat):Int)] w (JF g N cap P Q R w):=by
 have key:∀(ax:Addr) (c:Nat),(i+1<N->ax=⟨g,(i+1)*2,none⟩)->∃R1,(Builtin.append_ #[136,136] 136 #[.slice (some ⟨g,0,none⟩) i cap,.slice (some ax) (N-(i+1)) c]).run Tryz.prog w.drew=.ok (.slice (some ⟨g,0,none⟩) (N-1) cap) (w.drew.setRow g R1) /\
   ∀c' ty,∃R2,(Builtin.clear_ #[136] ty #[.slice (some ⟨g,(N-1)*2,none⟩) 1 c']).run Tryz.prog (w.drew.setRow g R1)=.ok (.tuple #[]) ((w.drew.setRow g R1).setRow g R2)/\JF g N cap P Q R w (.returned (.slice (some ⟨g,0,none⟩) (N-1) cap)) ((w.drew.setRow g R1).setRow g R2):=by
  intro ax c hax;obtain⟨Z,hZ,hr⟩:=BT5 w.drew g N cap i ax c P D Q R h hP hD hQ hi hN hone hax 136;have hw1:(w.drew.setRow g (P++(Q++(Z++R))).toArray).heap[g]? = some (.cells (P++(Q++(Z++R))).toArray 135 (0,0)):=setRow_heap w.drew g _ _ _ _ h;refine⟨_,hr,λc' ty=>⟨(P++(Q++(nn++R))).toArray,?_,rfl,setRow_heap _ g _ _ _ _ hw1,((AC.ofBelow (Below.refl _ _).drew).trans (J1 w.drew g _) (λi hi=>.inl hi)).trans (J1 _ g _) (λi hi=>.inl hi)⟩⟩
  have hcl:=AX4 (w.drew.setRow g (P++(Q++(Z++R))).toArray) g N c' (P++Q) Z R (by rw[List.append_assoc];exact hw1) (by rw[List.length_append,hP,hQ];omega) hZ ty
  rw[List.append_assoc]at hcl;exact hcl
 have HKEY:=yH key;clear h hP hD hQ hone key;unfold maxLen at hc;have hne:((i:Int) == ((i+1:Nat):Int))=false:=by simp;omega
 have hcn:¬cap=N-1:=by omega
 by_cases hci:cap=i+1
 ·obtain rfl:N=i+1:=by omega
  subst hci;have hA:(i:Int)<=(i:Int)+1:=by omega
  have hC:(0:Int)<=(i:Int)+1:=by omega
  obtain⟨R1,hr1,hcl⟩:=HKEY.out ⟨g,0,none⟩ 0 (λh=>by omega)
  simp only[Nat.sub_self,Nat.add_sub_cancel]at hr1 hcl ⊢
  have HR1:=yH hr1;have HCL:=yH hcl
  clear HKEY hr1 hcl;go_enter Tryz.func126,Tryz.ntmps126;go_wp2;go_still_tail 6,(by kernel_rfl)
  obtain⟨R2,hc2,hd⟩:=HCL.out 1 0;have HD:=yH hd;clear hd
  go_wp2_with (at_builtin;refine Lib.wpList_append_run _ rfl _ _ 136 136 rfl _ _ rfl rfl _ _ HR1.out ?_)
  go_ret;exact HD.out
 ·obtain⟨R1,hr1,hcl⟩:=HKEY.out ⟨g,(i+1)*2,none⟩ (cap-(i+1)) (λh=>rfl)
  have hA:i<=cap:=by omega
  have hB:(i:Int)+1<=(N:Int):=by omega
  have hB':i+1<=N:=by omega
  have hC:(0:Int)<=(i:Int)+1:=by omega
  have HR1:=yH hr1;have HCL:=yH hcl
  clear HKEY hr1 hcl;go_enter Tryz.func126,Tryz.ntmps126;go_wp2;go_still_tail 6,(by kernel_rfl)
  obtain⟨R2,hc2,hd⟩:=HCL.out (cap-(N-1)) 0;have eN:N-(N-1)=1:=by omega
  have HD:=yH hd;clear hd
  go_wp2_with (at_builtin;refine Lib.wpList_append_run _ rfl _ _ 136 136 rfl _ _ rfl rfl _ _ HR1.out ?_)
  go_ret;exact HD.out
theorem LJ (w:World)(ty:TypeId)(g o dLen dCap:Nat)(a:Addr)(sLen sCap:Nat)(cur:Array Value)(cs:List Value)(hg:w.heap[g]? = some (.cells cur 135 (0,0)))(m:Nat)(hm:Nat.min sLen dLen=m)(hn:cs.length=m*2)
  (hsrc:∀j v,cs[j]? = some v->w.cell? (a.add j)=some v) (hfit:o+cs.length<=cur.size) (h1:∀v ∈ cs,v.oneCell'=true) :
  (Builtin.copy_ #[136,136] ty #[.slice (some ⟨g,o,none⟩) dLen dCap,.slice (some a) sLen sCap]).run Tryz.prog w=.ok (goInt m) (w.setRow g (cur.toList.take o++(cs++cur.toList.drop (o+cs.length))).toArray):=by
 obtain⟨i0,hi0,q0,q1,q2⟩:=info_parts EP;have hl:=run_loadCells_list (P:=Tryz.prog) w a cs hsrc;have hst:=run_storeCells_at Tryz.prog g o 135 cs 0 cur w hg (by simpa using hfit) h1
 rw[List.append_assoc]at hst;rw[hn]at hl;simp[Builtin.copy_,run_underlying Tryz.underlying136,Builtin.lenOf,Builtin.firstCells,sizeOf,typeInfo,hi0,q1,hm,hl,hst]
def JE (N:Nat)(P D Q:List Value)(w:World)(e:Ending)(w':World):Prop :=
 ∃g' c R',e=.returned (.slice (some ⟨g',0,none⟩) (N+1) c)/\N+1<=c/\c<=maxLen/\w.heap.size<=g'/\w'.heap[g']? = some (.cells (P++(D++(Q++R'))).toArray 135 (0,0))/\Below w.heap.size w w'
theorem zero_len (n:Nat):(Builtin.zeroCells (Value.agg #[Value.slice none 0 0,Value.slice none 0 0]).cells n).size=n*2:=by
 rw[size_zeroCells];rfl
theorem BV3 (n s:Nat)(h:n<=4096)(h2:s<n):Builtin.nextslicecap n s*48<=281474976710656:=growslice_fits h2 (by omega)
theorem BG7 (g N i:Nat)(P Q R:List Value)(w:World)(h:w.heap[g]? = some (.cells (P++(Q++R)).toArray 135 (0,0)))(hP:P.length=i*2)(hi:i<N)(hN5:N<=512)(ty:TypeId) :
  ∃c Z,(Builtin.append_ #[136,3] ty #[.slice (some ⟨g,0,none⟩) i N,.int .i64 ((N:Int)+1-(i:Int))]).run Tryz.prog w=.ok (.slice (some ⟨w.heap.size,0,none⟩) (N+1) c) (w.drew.alloc (.cells (P++Z).toArray 135))/\N+1<=c/\c<=maxLen/\Z.length=(c-i)*2:=by
 obtain⟨i0,hi0,q0,q1,q2⟩:=info_parts EP;have hf:=run_firstCells_some (P:=Tryz.prog) w.drew i0.size i ⟨g,0,none⟩ i N P (by rw[q1];exact hP) (λj u hu=>by
  have hj:=(List.getElem?_eq_some_iff.1 hu).1;rw[A3,Nat.zero_add];show w.cell? _=_;rw[yC h,List.getElem?_toArray,List.getElem?_append_left hj];exact hu)
 have hr:=Lib.run_append_grow_zeros (P:=Tryz.prog) w 136 3 ty 135 i0 _ .i64 .i64 Tryz.underlying136 Tryz.underlying3 hi0 q0 (some ⟨g,0,none⟩) i N P hf (N+1-i) (by omega) (by omega) (by omega) (by omega) (by rw[q2];omega) (by rw[q2];exact BV3 _ _ (by omega) (by omega))
 rw[show ((N+1-i:Nat):Int)=(N:Int)+1-(i:Int) by omega,show i+(N+1-i)=N+1 by omega]at hr
 have hge:=grownCap_ge w (N+1) N 135;have hcm:grownCap w (N+1) N 135<=maxLen:=grownCap_le_maxLen w (N+1) N 135 (by unfold maxLen;omega)
 obtain⟨c,hc⟩:∃c,c=grownCap w (N+1) N 135:=⟨_,rfl⟩;rw[<-hc]at hr hge hcm;refine⟨c,(Builtin.zeroCells (Value.agg #[Value.slice none 0 0,Value.slice none 0 0]).cells (N+1-i)).toList++(Builtin.zeroCells (Value.agg #[Value.slice none 0 0,Value.slice none 0 0]).cells (c-(N+1))).toList,?_,hge,hcm,?_⟩
 ·rw[hr];congr 3
  apply Array.ext'
  simp
 ·rw[List.length_append,Array.length_toList,Array.length_toList,zero_len,zero_len];omega
theorem AK4 (g N i vb:Nat)(P Q R:List Value)(kv vv:Value)(w:World)(h:w.heap[g]? = some (.cells (P++(Q++R)).toArray 135 (0,0)))(hv:w.heap[vb]? = some (.cells #[kv,vv] 135 (0,0)))(hP:P.length=i*2)(hQ:Q.length=(N-i)*2)(hi:i<N)(hN5:N<=512)
  (hone:∀v ∈ Q,v.oneCell'=true) (hone2:kv.oneCell'=true/\vv.oneCell'=true) :
  Calls Tryz.prog 80 #[.slice (some ⟨g,0,none⟩) N N,.int .i64 i,.slice (some ⟨vb,0,none⟩) 1 1] w (JE N P [kv,vv] Q w):=by
 obtain⟨c,Z,hr1,hc1,hc2,hZ⟩:=BG7 g N i P Q R w h hP hi hN5 136;have hgl:g<w.heap.size:=(Array.getElem?_eq_some_iff.1 h).1;have hvl:vb<w.heap.size:=(Array.getElem?_eq_some_iff.1 hv).1;obtain⟨W1,hW1⟩:∃W1,W1=w.drew.alloc (.cells (P++Z).toArray 135):=⟨_,rfl⟩;have hb1:Below w.heap.size w W1:=by rw[hW1];exact (Below.refl _ _).drew.alloc (Nat.le_refl _) _
 have hn1:W1.heap[w.heap.size]? = some (.cells (P++Z).toArray 135 (0,0)):=by rw[hW1];exact heap_alloc_new w.drew _
 obtain⟨ng,hng⟩:∃ng,ng=w.heap.size:=⟨_,rfl⟩;rw[<-hW1,<-hng]at hr1;rw[<-hng]at hn1;have hcp1:∀ty,(Builtin.copy_ #[136,136] ty #[.slice (some ⟨ng,i*2,none⟩) (N+1-i) (c-i),.slice (some ⟨vb,0,none⟩) 1 1]).run Tryz.prog W1=.ok (goInt 1) (W1.setRow ng (P++([kv,vv]++Z.drop 2)).toArray):=λty=>by
  have:=LJ W1 ty ng (i*2) (N+1-i) (c-i) ⟨vb,0,none⟩ 1 1 _ [kv,vv] hn1 1 (by simp only[Nat.min_def];split <;> omega) rfl (λj u hu=>by
   rw[A3,Nat.zero_add,yC ((hb1.block vb hvl).trans hv),<-hu];exact List.getElem?_toArray) (by simp[hP,hZ];omega) (λu hu=>by
   simp only[List.mem_cons,List.not_mem_nil,or_false]at hu;rcases hu with rfl|rfl
   ·exact hone2.1
   ·exact hone2.2)
  rw[this,List.toList_toArray,List.take_left' hP,<-hP,J4];rfl
 obtain⟨W2,hW2⟩:∃W2,W2=W1.setRow ng (P++([kv,vv]++Z.drop 2)).toArray:=⟨_,rfl⟩;have hn2:W2.heap[ng]? = some (.cells (P++([kv,vv]++Z.drop 2)).toArray 135 (0,0)):=by rw[hW2];exact setRow_heap W1 ng _ _ _ _ hn1
 have hk2:AC (λk=>k=ng) W1 W2:=by rw[hW2];exact J1 _ _ _
 have hg2:W2.drew.heap[g]? = some (.cells (P++(Q++R)).toArray 135 (0,0)):=((hk2.block g (by have:=hb1.size;omega) (by omega)).trans (hb1.block g hgl)).trans h
 have hcp2:∀ty,(Builtin.copy_ #[136,136] ty #[.slice (some ⟨ng,(i+1)*2,none⟩) (N-i) (c-(i+1)),.slice (some ⟨g,i*2,none⟩) (N-i) (N-i)]).run Tryz.prog W2.drew=.ok (goInt ((N-i:Nat):Int)) (W2.drew.setRow ng (P++([kv,vv]++(Q++(Z.drop 2).drop Q.length))).toArray):=λty=>by
  have:=LJ W2.drew ty ng ((i+1)*2) (N-i) (c-(i+1)) ⟨g,i*2,none⟩ (N-i) (N-i) _ Q hn2 (N-i) (by simp only[Nat.min_def];split <;> omega) hQ (λj u hu=>by
   have hj:=(List.getElem?_eq_some_iff.1 hu).1;rw[A3,yC hg2,List.getElem?_toArray,List.getElem?_append_right (by omega),List.getElem?_append_left (by omega),<-hu]
   congr 1;omega) (by simp[hP,hZ,hQ];omega) hone
  have e:P++([kv,vv]++Z.drop 2)=(P++[kv,vv])++Z.drop 2:=by simp
  have e2:(P++[kv,vv]).length=(i+1)*2:=by simp[hP];omega
  rw[this,List.toList_toArray,e,List.take_left' e2,<-e2,J4];simp only[List.append_assoc]
 obtain⟨W3,hW3⟩:∃W3,W3=W2.drew.setRow ng (P++([kv,vv]++(Q++(Z.drop 2).drop Q.length))).toArray:=⟨_,rfl⟩;rw[<-hW3]at hcp2;have HE:Hid (JE N P [kv,vv] Q w (.returned (.slice (some ⟨ng,0,none⟩) (N+1) c)) W3):=yH (by
  rw[hW3];refine⟨ng,c,_,rfl,hc1,hc2,by omega,setRow_heap W2.drew ng _ _ _ _ hn2,?_⟩
  have h1:=hk2.toBelow (B:=w.heap.size) hb1.size (λk hk=>by omega)
  exact ((hb1.trans h1).drew).trans ((J1 W2.drew ng _).toBelow (B:=w.heap.size) (by have:=hb1.size;have:=hk2.size;show _<=W2.heap.size;omega) (λk hk=>by omega)))
 rw[<-hW2]at hcp1;have HR1:=yH hr1;have HC1:=yH hcp1;have HC2:=yH hcp2
 clear h hv hP hQ hone hone2 hZ hb1 hn1 hn2 hk2 hg2 hr1 hcp1 hcp2 hW1 hW2 hW3 hng hgl hvl;unfold maxLen at hc2;have f1:((i:Int) == (N:Int))=false:=by simp;omega
 have f2:(i:Int)<=N:=by omega
 have f3:i<=N:=by omega
 have f4:¬N=i:=by omega
 have f5:¬c=i:=by omega
 have f6:¬c=i+1:=by omega
 have f7:i<=N+1:=by omega
 have f8:(i:Int)+1<=(N:Int)+1:=by omega
 have f9:(0:Int)<=(i:Int)+1:=by omega
 have f10:((i:Int)+1).toNat=i+1:=by omega
 have f11:IntKind.i64.wrap ((i:Int)+1)=(i:Int)+1:=IntWalk.i64_in _ (by omega)
 go_enter Tryz.func80,Tryz.ntmps80;go_wp2_with (first
  | (at_builtin;refine Lib.wpList_append_run _ rfl _ _ 136 3 rfl _ _ rfl rfl _ _ HR1.out ?_)
  | (refine JN rfl _ _ 136 136 rfl _ _ _ rfl rfl (HC1.out _) ?_))
 go_still_tail 8,(by kernel_rfl)
 go_wp2_with (refine JN rfl _ _ 136 136 rfl _ _ _ rfl rfl (HC2.out _) ?_)
 go_ret;exact HE.out
theorem AK5 (g N vb:Nat)(P R:List Value)(kv vv:Value)(w:World)(h:w.heap[g]? = some (.cells (P++R).toArray 135 (0,0)))(hv:w.heap[vb]? = some (.cells #[kv,vv] 135 (0,0)))(hP:P.length=N*2)(hN:1<=N)(hN5:N<=512) :
  Calls Tryz.prog 80 #[.slice (some ⟨g,0,none⟩) N N,.int .i64 N,.slice (some ⟨vb,0,none⟩) 1 1] w (JE N P [kv,vv] [] w):=by
 obtain⟨i0,hi0,q0,q1,q2⟩:=info_parts EP;have hr:=run_append_grow (P:=Tryz.prog) w 136 136 135 i0 _ Tryz.underlying136 hi0 q0 ⟨g,0,none⟩ N N P (by rw[q1];exact hP) (λj u hu=>by
  have hj:=(List.getElem?_eq_some_iff.1 hu).1;rw[A3,Nat.zero_add,yC h,List.getElem?_toArray,List.getElem?_append_left hj];exact hu) ⟨vb,0,none⟩ 1 1 [kv,vv] (by rw[q1];rfl) (λj u hu=>by
  rw[A3,Nat.zero_add,yC hv,<-hu];exact List.getElem?_toArray) (by omega) (by omega) (by rw[q2];exact BV3 _ _ (by omega) (by omega))
 have hge:=grownCap_ge w (N+1) N 135;have hcm:grownCap w (N+1) N 135<=maxLen:=grownCap_le_maxLen w (N+1) N 135 (by unfold maxLen;omega)
 obtain⟨c,hc⟩:∃c,c=grownCap w (N+1) N 135:=⟨_,rfl⟩;rw[<-hc]at hr hge hcm;obtain⟨W,hW⟩:∃W,W=w.drew.alloc (.cells (P.toArray++[kv,vv].toArray++Builtin.zeroCells (Value.agg #[Value.slice none 0 0,Value.slice none 0 0]).cells (c-(N+1))) 135):=⟨_,rfl⟩;rw[<-hW]at hr;have HE:Hid (JE N P [kv,vv] [] w (.returned (.slice (some ⟨w.heap.size,0,none⟩) (N+1) c)) W):=yH ⟨w.heap.size,c,(Builtin.zeroCells (Value.agg #[Value.slice none 0 0,Value.slice none 0 0]).cells (c-(N+1))).toList,rfl,hge,hcm,Nat.le_refl _,by
  rw[hW];have:=heap_alloc_new w.drew (.cells (P.toArray++[kv,vv].toArray++Builtin.zeroCells (Value.agg #[Value.slice none 0 0,Value.slice none 0 0]).cells (c-(N+1))) 135)
  rw[show w.heap.size=w.drew.heap.size from rfl,this]
  congr 2
  apply Array.ext'
  simp,by rw[hW];exact (Below.refl _ _).drew.alloc (Nat.le_refl _) _⟩
 have HR:=yH hr;clear h hv hP hr hge hcm hc hW;have f1:N≠0:=by omega
 have f2:((N:Int) == 0)=false:=by simp;omega
 go_enter Tryz.func80,Tryz.ntmps80;go_wp2_with (at_builtin;refine Lib.wpList_append_run _ rfl _ _ 136 136 rfl _ _ rfl rfl _ _ HR.out ?_)
 go_ret;exact HE.out
theorem AK3 (vb:Nat)(kv vv:Value)(w:World)(hv:w.heap[vb]? = some (.cells #[kv,vv] 135 (0,0))) :
  Calls Tryz.prog 80 #[.slice none 0 0,.int .i64 0,.slice (some ⟨vb,0,none⟩) 1 1] w (JE 0 [] [kv,vv] [] w):=by
 obtain⟨i0,hi0,q0,q1,q2⟩:=info_parts EP;have hr:=run_append_nil (P:=Tryz.prog) w 136 136 135 i0 _ Tryz.underlying136 hi0 q0 ⟨vb,0,none⟩ 1 1 [kv,vv] (by rw[q1];rfl) (λj u hu=>by
  rw[A3,Nat.zero_add,yC hv,<-hu];exact List.getElem?_toArray) (by omega) (by omega) (by rw[q2];omega)
 have hge:=grownCap_ge w 1 0 135;have hcm:grownCap w 1 0 135<=maxLen:=grownCap_le_maxLen w 1 0 135 (by unfold maxLen;omega)
 obtain⟨c,hc⟩:∃c,c=grownCap w 1 0 135:=⟨_,rfl⟩;rw[<-hc]at hr hge hcm;obtain⟨W,hW⟩:∃W,W=w.drew.alloc (.cells ([kv,vv].toArray++Builtin.zeroCells (Value.agg #[Value.slice none 0 0,Value.slice none 0 0]).cells (c-1)) 135):=⟨_,rfl⟩;rw[<-hW]at hr;have HE:Hid (JE 0 [] [kv,vv] [] w (.returned (.slice (some ⟨w.heap.size,0,none⟩) 1 c)) W):=yH ⟨w.heap.size,c,(Builtin.zeroCells (Value.agg #[Value.slice none 0 0,Value.slice none 0 0]).cells (c-1)).toList,rfl,hge,hcm,Nat.le_refl _,by
  rw[hW];have:=heap_alloc_new w.drew (.cells ([kv,vv].toArray++Builtin.zeroCells (Value.agg #[Value.slice none 0 0,Value.slice none 0 0]).cells (c-1)) 135)
  rw[show w.heap.size=w.drew.heap.size from rfl,this]
  congr 2
  apply Array.ext'
  simp,by rw[hW];exact (Below.refl _ _).drew.alloc (Nat.le_refl _) _⟩
 have HR:=yH hr;clear hv hr hge hcm hc hW;go_enter Tryz.func80,Tryz.ntmps80;go_wp2_with (at_builtin;refine Lib.wpList_append_run _ rfl _ _ 136 136 rfl _ _ rfl rfl _ _ HR.out ?_)
 go_ret;exact HE.out
def AG7 (n:Nat)(w:World)(e:Ending)(w':World):Prop :=
 ∃c Z,e=.returned (.slice (some ⟨w.heap.size,0,none⟩) 0 c)/\n<=c/\c<=maxLen/\Z.length=c*2/\w'.heap[w.heap.size]? = some (.cells (List.toArray Z) 135 (0,0))/\Below w.heap.size w w'
theorem BT1 (n:Nat)(w:World)(hn:1<=n)(hn5:n<=2000):Calls Tryz.prog 204 #[.slice none 0 0,.int .i64 n] w (AG7 n w):=by
 obtain⟨i0,hi0,q0,q1,q2⟩:=info_parts EP;have hr:=Lib.run_append_nil_zeros (P:=Tryz.prog) w 136 3 136 135 i0 _ .i64 .i64 Tryz.underlying136 Tryz.underlying3 hi0 q0 n (by omega) (by omega) (by omega) (by rw[q2];omega)
 have hge:=grownCap_ge w n 0 135;have hcm:grownCap w n 0 135<=maxLen:=grownCap_le_maxLen w n 0 135 (by unfold maxLen;omega)
 obtain⟨c,hc⟩:∃c,c=grownCap w n 0 135:=⟨_,rfl⟩;rw[<-hc]at hr hge hcm;obtain⟨Z,hZ⟩:∃Z,Z=Builtin.zeroCells (Value.agg #[Value.slice none 0 0,Value.slice none 0 0]).cells n++Builtin.zeroCells (Value.agg #[Value.slice none 0 0,Value.slice none 0 0]).cells (c-n):=⟨_,rfl⟩;rw[<-hZ]at hr;have HE:Hid (AG7 n w (.returned (.slice (some ⟨w.heap.size,0,none⟩) 0 c)) (w.drew.alloc (.cells Z 135))):=yH ⟨c,Z.toList,rfl,hge,hcm,by rw[Array.length_toList,hZ,Array.size_append,zero_len,zero_len];omega,by
  rw[Array.toArray_toList];exact heap_alloc_new w.drew _,(Below.refl _ _).drew.alloc (Nat.le_refl _) _⟩
 have HR:=yH hr;clear hr hge hcm hc hZ;go_enter Tryz.func204,Tryz.ntmps204;go_wp2_with (at_builtin;refine Lib.wpList_append_run _ rfl _ _ 136 3 rfl _ _ rfl rfl _ _ HR.out ?_)
 go_ret;exact HE.out
end Go.Proofs.YtfbbjiidccbaiaaGreatDoor
