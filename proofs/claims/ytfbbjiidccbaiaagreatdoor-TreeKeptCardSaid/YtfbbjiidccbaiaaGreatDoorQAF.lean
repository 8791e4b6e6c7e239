/- Texts of one proof, one behind the other: SW, SX, SY, SZ, SZA, SZB, SZC, SZD, SZE. -/
import Derived.Test.YtfbbjiidccbaiaaGreatDoorQAE
import Derived.Deep.RegionHeld3
import Derived.StillTailTactics
import Derived.Test.YtfbbjiidccbaiaaGreatDoorQAA
set_option maxRecDepth 100000
set_option maxHeartbeats 6400000
namespace Go.Proofs.YtfbbjiidccbaiaaGreatDoor
open Go.RowKit
theorem RP {fn:Func}{p q:Tmp}(h:fn.results=#[.cell p 37,.tmp q])(tmps:Array Value)(w:World)(g:Nat)(hh:Hd)(k:hh.Len)(v:Value)(hp:tmps.getD p undef=.pointer (some ⟨g,0,none⟩))(hq:tmps.getD q undef=v)(hg:DJ w g 0 hh) :
  (results fn tmps).run Tryz.prog w=.ok (.tuple #[.agg hh.cells.toArray,v]) w:=by
 have hp':tmps[p]?.getD undef=.pointer (some ⟨g,0,none⟩):=by simpa using hp
 have hq':tmps[q]?.getD undef=v:=by simpa using hq
 simp[results,h,hp',hq',asAddr,run_loadVar_mid (P:=Tryz.prog) w g 0 37 hh.cells _ hg Tryz.underlying37 rfl k.size']
theorem RO {fn:Func}{p q u:Tmp}(h:fn.results=#[.cell p 37,.tmp q,.tmp u])(tmps:Array Value)(w:World)(g:Nat)(hh:Hd)(k:hh.Len)(v y:Value)(hp:tmps.getD p undef=.pointer (some ⟨g,0,none⟩))(hq:tmps.getD q undef=v)(hu:tmps.getD u undef=y)(hg:DJ w g 0 hh) :
  (results fn tmps).run Tryz.prog w=.ok (.tuple #[.agg hh.cells.toArray,v,y]) w:=by
 have hp':tmps[p]?.getD undef=.pointer (some ⟨g,0,none⟩):=by simpa using hp
 have hq':tmps[q]?.getD undef=v:=by simpa using hq
 have hu':tmps[u]?.getD undef=y:=by simpa using hu
 simp[results,h,hp',hq',hu',asAddr,run_loadVar_mid (P:=Tryz.prog) w g 0 37 hh.cells _ hg Tryz.underlying37 rfl k.size']
theorem XJ (s:ByteArray)(w:World)(h:(rHd (s.data.toList,false)).2.2=true) :
  Calls Tryz.prog 93 #[.string s] w λe w'=>e=.returned (.tuple #[.agg Hd.zero.cells.toArray,.bool false])/\Below w.heap.size w w':=by
 obtain⟨Z,hZ⟩:∃Z:Array Value,Z=Hd.zero.cells.toArray:=⟨_,rfl⟩;have HEX:Hid (∀(a:Act) (o:Oper) (_:o.op=.alloc 37) (W:World),(execOp a.eval o).run Tryz.prog W=.ok (.value (.pointer (some ⟨W.heap.size,0,none⟩))) (W.alloc (.cells Z 37))):=yH (by rw[hZ];exact λ_ _ ho W=>EF ho W)
 obtain⟨w1,hw1⟩:∃w1,w1=(w.alloc (.cells Z 37)).alloc (.cells #[.string s,.bool false] 204):=⟨_,rfl⟩;have hs1:w1.heap.size=w.heap.size+2:=by rw[hw1];simp
 have hb1:Below w.heap.size w w1:=by rw[hw1];exact ((Below.refl _ _).alloc (Nat.le_refl _) _).alloc (by simp) _
 have hg1:w1.heap[w.heap.size+1]? = some (.cells #[.string s,.bool false] 204 (0,0)):=by rw[hw1];exact heap_alloc2_new w _ _
 have hv1:BY w1 w.heap.size Hd.zero:=by rw[hw1,hZ];exact (BY.new w Hd.zero).block (Below.heap_alloc _ _ _ (by simp))
 have hr1:CE w1 (w.heap.size+1) (s.data.toList,false):=⟨s,⟨by rw[yC hg1];rfl,by rw[yC hg1];rfl,λj=>Lib.frozen_of_heap hg1 _⟩,rfl⟩
 have HRH:=yH (SJ (w.heap.size+1) _ w1 hr1);rw[hw1]at HRH;obtain⟨f,hf⟩:∃f,f=(rHd (s.data.toList,false)).1:=⟨_,rfl⟩;obtain⟨y,hy⟩:∃y,y=(rHd (s.data.toList,false)).2:=⟨_,rfl⟩;have hfl:f.Len:=by rw[hf];exact OW _
 rw[<-hf,<-hy]at HRH;rw[<-hy]at h;obtain⟨F,hF⟩:∃F:Array Value,F=f.cells.toArray:=⟨_,rfl⟩;rw[<-hF]at HRH;have HS2:Hid ((Tryz.prog.info? 37).map (·.size)=some F.size):=yH (by rw[hF];exact hfl.size)
 have HA2:Hid (F.all (·.oneCell')=true):=yH (by rw[hF];exact Hd.all_one _)
 have HT2:Hid (∀W:World,(W.alloc (.cells Z 37)).there W.heap.size 0 F.size):=yH (λW=>by
  have:=(BY.new W Hd.zero).there Hd.zero_len
  have e:F.size=81:=by rw[hF,List.size_toArray,hfl.cells]
  rw[<-hZ]at this;rw[e];exact this)
 have HK:Hid (∀W:World,AC (λj=>j=W.heap.size) (W.alloc (.cells Z 37)) ((W.alloc (.cells Z 37)).setCells W.heap.size 0 F.toList)):=yH (λW=>AC.setCells (λj=>j=W.heap.size) _ (fb:=W.heap.size) rfl _)
 have HH:=yH h;have HW1:=yH hw1;have HB1:=yH hb1;have HV1:=yH hv1;have HS1:=yH hs1
 have hs2:=Hd.zero_len.size;have ha1:=Hd.all_one Hd.zero;have hb0:=OK;rw[<-hZ]at hs2 ha1 hb0;have HZ2:=yH hs2;have HZA:=yH ha1;have HB00:=yH hb0
 have hZl:Z.toList=Hd.zero.cells:=by rw[hZ,List.toList_toArray]
 have HZL:=yH hZl;have HZ:=yH hZ
 clear h hZ hw1 hs1 hb1 hg1 hv1 hr1 hf hy hfl hF hs2 ha1 hb0 hZl;go_enter Tryz.func93,Tryz.ntmps93;go_wp2_with (refine BK rfl _ (HEX.out _ _ rfl _) ?_)
 refine HRH.out.mono ?_;rintro e w2 ⟨rfl,hr2,hk2⟩;rw[<-HW1.out]at hk2;obtain⟨w3,hw3⟩:∃w3,w3=(w2.alloc (.cells Z 37)).setCells w2.heap.size 0 F.toList:=⟨_,rfl⟩;have hk13:AC (λj=>j=w.heap.size+1) w1 w3:=by
  rw[hw3];exact (hk2.trans (AC.ofBelow (S:=λj=>j=w.heap.size+1) ((Below.refl _ w2).alloc (Nat.le_refl _) _)) (λ_ hi=>.inl hi)).trans (HK.out w2) (λi hi=>.inr (by have:=hk2.size;omega))
 have hs2':=hk2.size;have hr3:CE w3 (w.heap.size+1) y:=by
  have h1:=hr2.block (Below.heap_alloc w2 (.cells Z 37) _ hr2.lt);rw[hw3];exact h1.block ((HK.out w2).block (w.heap.size+1) (by have:=hr2.lt;simp;omega) (by have:=hr2.lt;omega))
 obtain⟨s3,hs3,_⟩:=hr3;have c1:=hs3.short;rw[HH.out]at c1;have hv3:BY w3 w.heap.size Hd.zero:=HV1.out.kept hk13 (by omega)
 obtain⟨hv4,hk4⟩:=hv3.put Hd.zero_len Hd.zero_len;have HTH:Hid (w3.there w.heap.size 0 Z.size):=yH (by
  have e:Z.size=81:=by rw[HZ.out,List.size_toArray,Hd.zero_len.cells]
  rw[e];exact hv3.there Hd.zero_len)
 have HE:Hid (DJ (w3.setCells w.heap.size 0 Hd.zero.cells) w.heap.size 0 Hd.zero/\Below w.heap.size w (w3.setCells w.heap.size 0 Hd.zero.cells)):=yH ⟨hv4.1,by
  have h0:=HS1.out;have h1:Below w.heap.size w1 w3:=hk13.toBelow (by omega) (λi hi=>by omega)
  exact (HB1.out.trans h1).trans (hk4.toBelow (Nat.le_trans (by omega) h1.size) (λi hi=>by omega))⟩
 have HW3:Hid ((w2.alloc (.cells Z 37)).setCells w2.heap.size 0 F.toList=w3):=yH hw3.symm;clear hr2 hk2 hw3 hk13 hs2' hs3 hv3 hv4 hk4;go_wp2_with (first
  | (refine BK rfl _ (HEX.out _ _ rfl _) ?_)
  | (refine wpList_store_mid rfl 37 _ _ rfl w2.heap.size 0 F (by rfl) (by rfl) (HT2.out w2) HS2.out HA2.out ?_;rw[HW3.out])
  | (refine BK rfl _ (CT rfl [] (by simp[go_sem]) Z HB00.out _) ?_)
  | (refine wpList_store_mid rfl 37 _ _ rfl w.heap.size 0 Z (by rfl) (by rfl) HTH.out HZ2.out HZA.out ?_;rw[HZL.out]))
 exact bodyPost_ret (v:=.tuple #[.agg Hd.zero.cells.toArray,.bool false]) (RP Tryz.results93 _ _ w.heap.size Hd.zero Hd.zero_len _ (by rfl) (by rfl) HE.out.1) rfl ⟨rfl,HE.out.2⟩
def JT:Nat->List UInt8 × Bool->List Pt × (List UInt8 × Bool)
 | 0,x=>([],x)
 | f+1,x=>if x.1=[] then ([],x) else (⟨(rPt x).1.1,(rPt x).1.2.1,⟨(rPt x).1.2.2.toArray⟩⟩::(JT f (rPt x).2).1,(JT f (rPt x).2).2)
theorem AI7 (l:List UInt8)(sh:Bool)(n:Nat):(rTk l sh n).2.1.length<=l.length:=by
 unfold rTk;split
 ·simp
 ·simp
theorem BX2 (l:List UInt8)(sh:Bool)(n:Nat)(hn:0<n)(hl:l≠[]):(rTk l sh n).2.1.length<l.length:=by
 have h0:0<l.length:=List.length_pos_iff.2 hl;unfold rTk;split
 ·simpa using h0
 ·simp only[List.length_drop];omega
theorem BX3 (x:List UInt8 × Bool)(hl:x.1≠[]):(rPt x).2.1.length<x.1.length:=by
 have h1:=BX2 x.1 x.2 2 (by omega) hl
 have h2:=AI7 (CF x 2).2.1 (CF x 2).2.2 2;have h3:=AI7 (CF (CF x 2).2 2).2.1 (CF (CF x 2).2 2).2.2 2;have h4:=AI7 (CF (CF (CF x 2).2 2).2 2).2.1 (CF (CF (CF x 2).2 2).2 2).2.2 (CF (CF (CF x 2).2 2).2 2).1;unfold rPt;simp only[CF]at *
 omega
theorem AK6:(Tryz.prog.info? 207).map (λi=>(i.zero,i.size,i.bytes))=some (some (.agg #[.int .i64 0,.int .i64 0,.string ⟨#[]⟩]),3,32):=by kernel_rfl
def MQ (w:World)(r:Nat):Nat:=match w.cell? ⟨r,0,none⟩ with | some (.string s)=>s.size | _=>0
theorem CE.len {w:World}{r:Nat}{x:List UInt8 × Bool}(h:CE w r x):MQ w r=x.1.length:=by
 obtain⟨s,h1,h2⟩:=h;unfold MQ;rw[h1.b,<-h2];rfl
theorem AF8 (s:ByteArray)(h:Hd)(x1 z:List UInt8 × Bool)(ps:List Pt)(w:World)(hh:rHd (s.data.toList,false)=(h,x1))(hp:JT x1.1.length x1=(ps,z))(hz:z.2=false)(hps:ps.length<=4194304) :
  Calls Tryz.prog 94 #[.string s] w λe w'=>∃v,e=.returned (.tuple #[.agg h.cells.toArray,v,.bool true])/\BP w.heap.size w' v ps/\Below w.heap.size w w':=by
 obtain⟨ip,hip,q0,q1,q2⟩:=info_parts AK6;obtain⟨Z,hZ⟩:∃Z:Array Value,Z=Hd.zero.cells.toArray:=⟨_,rfl⟩;have HEX:Hid (∀(a:Act) (o:Oper) (_:o.op=.alloc 37) (W:World),(execOp a.eval o).run Tryz.prog W=.ok (.value (.pointer (some ⟨W.heap.size,0,none⟩))) (W.alloc (.cells Z 37))):=yH (by rw[hZ];exact λ_ _ ho W=>EF ho W)
 obtain⟨w1,hw1⟩:∃w1,w1=(w.alloc (.cells Z 37)).alloc (.cells #[.string s,.bool false] 204):=⟨_,rfl⟩;have hs1:w1.heap.size=w.heap.size+2:=by rw[hw1];simp
 have hb1:Below w.heap.size w w1:=by rw[hw1];exact ((Below.refl _ _).alloc (Nat.le_refl _) _).alloc (by simp) _
 have hg1:w1.heap[w.heap.size+1]? = some (.cells #[.string s,.bool false] 204 (0,0)):=by rw[hw1];exact heap_alloc2_new w _ _
 have hv1:BY w1 w.heap.size Hd.zero:=by rw[hw1,hZ];exact (BY.new w Hd.zero).block (Below.heap_alloc _ _ _ (by simp))
 have hr1:CE w1 (w.heap.size+1) (s.data.toList,false):=⟨s,⟨by rw[yC hg1];rfl,by rw[yC hg1];rfl,λj=>Lib.frozen_of_heap hg1 _⟩,rfl⟩
 have HRH:=SJ (w.heap.size+1) _ w1 hr1;have hfl:h.Len:=by have:=OW (s.data.toList,false);rw[hh]at this;exact this
 rw[hh]at HRH;obtain⟨F,hF⟩:∃F:Array Value,F=h.cells.toArray:=⟨_,rfl⟩;simp only at HRH;rw[<-hF,hw1]at HRH;have HRHH:=yH HRH;clear HRH;have HS2:Hid ((Tryz.prog.info? 37).map (·.size)=some F.size):=yH (by rw[hF];exact hfl.size)
 have HSL:Hid ((Tryz.prog.info? 37).map (·.size)=some F.toList.length):=yH (by rw[hF,List.toList_toArray];exact hfl.size')
 have HA2:Hid (F.all (·.oneCell')=true):=yH (by rw[hF];exact Hd.all_one _)
 have HT2:Hid (∀W:World,(W.alloc (.cells Z 37)).there W.heap.size 0 F.size):=yH (λW=>by
  have:=(BY.new W Hd.zero).there Hd.zero_len
  have e:F.size=81:=by rw[hF,List.size_toArray,hfl.cells]
  rw[<-hZ]at this;rw[e];exact this)
 have HP2:Hid (∀W:World,BY ((W.alloc (.cells Z 37)).setCells W.heap.size 0 F.toList) W.heap.size h/\AC (λj=>j=W.heap.size) (W.alloc (.cells Z 37)) ((W.alloc (.cells Z 37)).setCells W.heap.size 0 F.toList)):=yH (λW=>by
  have:=(BY.new W Hd.zero).put Hd.zero_len hfl
  rw[<-hZ]at this;rw[hF,List.toList_toArray];exact this)
 have HW1:=yH hw1;have HB1:=yH hb1;have HV1:=yH hv1;have HS1:=yH hs1
 have HFL:=yH hfl;have HF:=yH hF;have HP:=yH hp;have HZZ:=yH hz;have HZ:=yH hZ
 clear hh hp hz hZ hw1 hs1 hb1 hg1 hv1 hr1 hfl hF;go_enter Tryz.func94,Tryz.ntmps94;go_wp2_with (refine BK rfl _ (HEX.out _ _ rfl _) ?_)
 refine HRHH.out.mono ?_;rintro e w2 ⟨rfl,hr2,hk2⟩;rw[<-HW1.out]at hk2;obtain⟨b4,hb4⟩:∃b4,b4=w2.heap.size:=⟨_,rfl⟩;obtain⟨w3,hw3⟩:∃w3,w3=(w2.alloc (.cells Z 37)).setCells w2.heap.size 0 F.toList:=⟨_,rfl⟩;obtain⟨hv3,hk3⟩:=HP2.out w2;rw[<-hw3,<-hb4]at hv3;have hk13:AC (λj=>j=w.heap.size+1) w1 w3:=by
  rw[hw3];exact (hk2.trans (AC.ofBelow (S:=λj=>j=w.heap.size+1) ((Below.refl _ w2).alloc (Nat.le_refl _) _)) (λ_ hi=>.inl hi)).trans hk3 (λi hi=>.inr (by have:=hk2.size;omega))
 have hs2':=hk2.size;have hr3:CE w3 (w.heap.size+1) x1:=by
  have h1:=hr2.block (Below.heap_alloc w2 (.cells Z 37) _ hr2.lt);rw[hw3];exact h1.block (hk3.block (w.heap.size+1) (by have:=hr2.lt;simp;omega) (by have:=hr2.lt;omega))
 have HVR:Hid (BY w3 w.heap.size Hd.zero):=yH (HV1.out.kept hk13 (by omega))
 have hbw3:Below w.heap.size w w3:=HB1.out.trans (hk13.toBelow (by have:=HS1.out;omega) (λi hi=>by omega))
 have HW3:Hid ((w2.alloc (.cells Z 37)).setCells w2.heap.size 0 F.toList=w3):=yH hw3.symm;have HR3:=yH hr3;have HV3:=yH hv3;have HB3:=yH hbw3;have HB4:=yH hb4
 have hw3s:w.heap.size+2<w3.heap.size:=by have:=hv3.lt;have:=HS1.out;omega
 have hlo:w.heap.size+2<=b4:=by have:=HS1.out;omega
 have HLO:=yH hlo;have HBW:Hid (b4<w3.heap.size):=yH hv3.lt;clear hr2 hk2 hb4 hw3 hv3 hk3 hk13 hs2' hr3 hbw3 hlo;go_wp2_with (first
  | (refine BK rfl _ (HEX.out _ _ rfl _) ?_)
  | (refine wpList_store_mid rfl 37 _ _ rfl w2.heap.size 0 F (by rfl) (by rfl) (HT2.out w2) HS2.out HA2.out ?_;rw[HW3.out]))
 obtain⟨B3,hB3⟩:∃B3,B3=w3.heap.size:=⟨_,rfl⟩;have HBE:=yH hB3;rw[<-hB3]at hw3s HBW;clear hB3;have hrB:w.heap.size+1<B3:=by omega
 go_loopw [7] (λv wr=>∃(x:List UInt8 × Bool) (f m c:Nat) (a:Option Addr) (acc:List Pt),v=.slice a m c/\Hid (m=acc.length/\x.1.length<=f/\acc++(JT f x).1=ps/\(JT f x).2=z)/\Hid (CE wr (w.heap.size+1) x)/\Hid (BP B3 wr (.slice a m c) acc)/\Hid (AC (λj=>j=w.heap.size+1) w3 wr)) (λ_ wr=>MQ wr (w.heap.size+1))
 case atStart=>exact⟨x1,x1.1.length,0,0,none,[],rfl,yH ⟨rfl,Nat.le_refl _,by rw[HP.out];rfl,by rw[HP.out]⟩,HR3,yH ⟨rfl,.inl ⟨rfl,rfl⟩⟩,yH (AC.refl _ _)⟩
 case round =>
  obtain⟨x,f,m,c,a,acc,rfl,hm,hr,ho,hk⟩:=hrel;obtain⟨s',hs',hsl'⟩:=hr.out;have cs:=hs'.b;have csh:=hs'.short;by_cases hnil:x.1=[]
  ·have hte:s'.toList.isEmpty=true:=by rw[ByteArray.toList_eq,hsl',hnil];rfl
   have hx:JT f x=([],x):=by cases f with
    | zero=>rfl
    | succ f=>unfold JT;rw[if_pos hnil]
   have hxe:=hm.out.2.2.2;rw[hx]at hxe;have hacc:=hm.out.2.2.1;rw[hx,List.append_nil]at hacc;simp only at hxe hacc;rw[hxe,HZZ.out]at csh;have hvk:BY wr b4 h:=HV3.out.kept hk.out (by have:=HLO.out;omega)
   have hvr:BY wr w.heap.size Hd.zero:=HVR.out.kept hk.out (by omega)
   obtain⟨hv7,hk7⟩:=hvr.put Hd.zero_len HFL.out;have HE:Hid (DJ (wr.setCells w.heap.size 0 h.cells) w.heap.size 0 h/\BP w.heap.size (wr.setCells w.heap.size 0 h.cells) (.slice a m c) ps/\Below w.heap.size w (wr.setCells w.heap.size 0 h.cells)):=yH ⟨hv7.1,by
    rw[<-hacc];have h0:=ho.out;have h1:wr.ownsRow w.heap.size 207 3 (.slice a m c) acc.length (acc.flatMap Pt.cells):=⟨h0.1,h0.2.imp id (λ⟨g,cap,cur,hv,hb,r⟩=>⟨g,cap,cur,hv,by omega,r⟩)⟩
    exact AG h1 (λk hk=>hk7.block k (World.ownsRow.lt h0 k hk).2 (by have:=(World.ownsRow.lt h0 k hk).1;omega)),(HB3.out.trans (hk.out.toBelow (by have:=HBE.out;omega) (λi hi=>by omega))).trans (hk7.toBelow (by have:=hk.out.size;have:=HBE.out;omega) (λi hi=>by omega))⟩
   have HRG:Hid (wr.rangeAt w2.heap.size 0 F.toList):=yH (by rw[<-HB4.out,HF.out,List.toList_toArray];exact hvk.1)
   have HTH:Hid (wr.there w.heap.size 0 F.toList.toArray.size):=yH (by
    have e:F.toList.toArray.size=81:=by rw[HF.out];simp[HFL.out.cells]
    rw[e];exact hvr.there Hd.zero_len)
   have HS4:Hid ((Tryz.prog.info? 37).map (·.size)=some F.toList.toArray.size):=yH (by rw[List.size_toArray];exact HSL.out)
   have HA4:Hid (F.toList.toArray.all (·.oneCell')=true):=yH HA2.out
   have HFT:Hid (F.toList=h.cells):=yH (by rw[HF.out,List.toList_toArray])
   clear hs' hsl' hnil hx hxe hacc hvk hvr hv7 hk7;go_wp2_with (first
    | (refine wpList_load_mid rfl 37 _ rfl w2.heap.size 0 (by rfl) F.toList _ HRG.out Tryz.underlying37 rfl HSL.out ?_)
    | (refine wpList_store_mid rfl 37 _ _ rfl w.heap.size 0 F.toList.toArray (by rfl) (by rfl) HTH.out HS4.out HA4.out ?_;rw[List.toList_toArray,HFT.out]))
   exact bodyPost_ret (v:=.tuple #[.agg h.cells.toArray,.slice a m c,.bool true]) (RO Tryz.results94 _ _ w.heap.size h HFL.out _ _ (by rfl) (by rfl) (by rfl) HE.out.1) rfl ⟨_,rfl,HE.out.2⟩
  ·have hte:s'.toList.isEmpty=false:=by
    rw[ByteArray.toList_eq,hsl'];cases e:x.1 with
    | nil=>exact absurd e hnil
    | cons c r=>rfl
   obtain⟨f',rfl⟩:∃f',f=f'+1:=⟨f-1,by have h1:=hm.out.2.1;have h2:0<x.1.length:=List.length_pos_iff.2 hnil;omega⟩
   have hpa:=AI0 (w.heap.size+1) x wr hr.out;obtain⟨pg,hpg⟩:∃n,n=(rPt x).1.1:=⟨_,rfl⟩;obtain⟨pa,hpae⟩:∃n,n=(rPt x).1.2.1:=⟨_,rfl⟩;obtain⟨y,hy⟩:∃y,y=(rPt x).2:=⟨_,rfl⟩;have hlt:=BX3 x hnil;have hstep:JT (f'+1) x=(⟨pg,pa,⟨(rPt x).1.2.2.toArray⟩⟩::(JT f' y).1,(JT f' y).2):=by
    rw[hpg,hpae,hy];conv=>lhs;unfold JT
    rw[if_neg hnil]
   rw[<-hpg,<-hpae,<-hy]at hpa;rw[<-hy]at hlt;have hm':=hm.out;rw[hstep]at hm';have hlen:=hr.out.len;have HPA:=yH hpa;have HM:=yH hm';have HLT:=yH hlt;have HLEN:=yH hlen
   have hm0:m<4194304:=by
    have h1:=hm'.1;have h2:=congrArg List.length hm'.2.2.1;simp at h2;omega
   clear hpa hpg hpae hy hlt hstep hm' hlen hm hs' hsl' hnil csh;go_wp2_with fail;refine HPA.out.mono ?_;rintro e w5 ⟨t,rfl,ht,hr5,hk5⟩;have hk35:=hk.out.trans hk5 (λ_ hi=>.inl hi)
   have ho5:w5.ownsRow B3 207 3 (.slice a m c) m (acc.flatMap Pt.cells):=by
    have h0:=ho.out;unfold BP at h0;rw[<-HM.out.1]at h0;exact AG h0 (λk hkk=>hk5.block k (World.ownsRow.lt h0 k hkk).2 (by have:=(World.ownsRow.lt h0 k hkk).1;omega))
   have HO5:=yH ho5;have HK5:=yH hk35;have HR5:=yH hr5
   have HTT:Hid (t=⟨(rPt x).1.2.2.toArray⟩):=yH (by rw[<-ht])
   have hB5:B3<=w5.heap.size:=by have:=hk35.size;have:=HBE.out;omega
   clear ho5 hk35 hr5 hk5 ht;go_wp2_with (at_builtin;refine wpList_append_own _ rfl _ _ 116 rfl B3 207 ip (.agg #[.int .i64 0,.int .i64 0,.string ⟨#[]⟩]) 3 32 Tryz.underlying116 hip q0 q1 q2 rfl (by decide) _ _ _ rfl (HO5.out.alloc _) ⟨w5.heap.size,0,none⟩ 1 1 [.int .i64 pg,.int .i64 pa,.string t] rfl rfl ?c1 ?c2 ?c3 ?c4 ?c5 ?_)
   case c1 =>
    intro q u hu;have hq:q=0\/q=1\/q=2:=by
     have:=(List.getElem?_eq_some_iff.1 hu).1
     simp at this;omega
    have hg:=heap_alloc_new w5 (.cells #[.int .i64 pg,.int .i64 pa,.string t] 207);rw[A3,Nat.zero_add,yC hg];rcases hq with rfl|rfl|rfl <;> exact hu
   case c2 =>
    intro u hu;simp only[List.mem_cons,List.not_mem_nil,or_false]at hu;rcases hu with rfl|rfl|rfl <;> rfl
   case c3=>unfold maxLen;omega
   case c4=>omega
   case c5=>simp;omega
   intro v6 w6 hown6 hgrow6 _;obtain⟨a6,c6,rfl⟩:∃a c,v6=.slice a (m+1) c:=by
    rcases hown6.2 with⟨_,h0⟩|⟨g',cap',cur,hv,_⟩
    ·omega
    ·exact⟨_,cap',hv⟩
   have hlt5:=λk hk=>World.ownsRow.lt HO5.out k hk
   have hk6:AC (λj=>j=w.heap.size+1) w3 w6:=(HK5.out.trans (AC.ofBelow (S:=λj=>j=w.heap.size+1) ((Below.refl _ w5).alloc (Nat.le_refl _) _)) (λ_ hi=>.inl hi)).trans (AC.ofGrown (S:=λj=>B3<=j) hgrow6 (λk hk=>(hlt5 k hk).1)) (λi hi=>.inr (by have:=HBE.out;omega))
   have hr6:CE w6 (w.heap.size+1) y:=(HR5.out.block (Below.heap_alloc _ _ _ HR5.out.lt)).block (hgrow6.block _ (by have:=HR5.out.lt;simp;omega) (λe=>by have:=(hlt5 _ e.symm).1;omega))
   have HO6:Hid (BP B3 w6 (.slice a6 (m+1) c6) (acc++[⟨pg,pa,t⟩])):=yH (by
    unfold BP;rw[List.length_append,List.flatMap_append,<-HM.out.1];exact hown6)
   have HM6:Hid (m+1=(acc++[(⟨pg,pa,t⟩:Pt)]).length/\y.1.length<=f'/\(acc++[(⟨pg,pa,t⟩:Pt)])++(JT f' y).1=ps/\(JT f' y).2=z):=yH ⟨by rw[List.length_append,<-HM.out.1];rfl,by have h1:=HLT.out;have h2:=HM.out.2.1;omega,by
    have h1:=HM.out.2.2.1;rw[<-HTT.out]at h1;rw[List.append_assoc];exact h1,HM.out.2.2.2⟩
   have HR6:=yH hr6;have HK6:=yH hk6
   have hmeas:MQ w6 (w.heap.size+1)<MQ wr (w.heap.size+1):=by rw[hr6.len,HLEN.out];exact HLT.out
   have HME:=yH hmeas;clear hown6 hgrow6 hlt5 hk6 hr6 hmeas;go_wp2;go_roundw
   case rel=>exact⟨y,f',m+1,c6,a6,_,rfl,HM6,HR6,HO6,HK6⟩
   case measure=>exact HME.out
def Pt.bytes (p:Pt):List UInt8:=if p.s.size=0 then A9 else p.s.data.toList
def BM0 (C:Nat->List UInt8)(p:Pt):Nat->List UInt8:=upd C p.page (splice (C p.page) p.at_ p.bytes)
def EE (C:Nat->List UInt8)(ps:List Pt):Nat->List UInt8:=ps.foldl BM0 C
theorem AY4 (C:Nat->List UInt8)(ps:List Pt)(p:Pt):EE C (ps++[p])=BM0 (EE C ps) p:=by simp[EE]
def Pt.Fits (p:Pt):Prop:=p.page<4096/\p.at_+p.bytes.length<=512
def nul:ByteArray:=⟨#[0]⟩
theorem AI3:Lib.repeatL nul.data.toList 512=A9:=by decide +kernel
theorem AI9 (p:Pt)(w:World) :
  Calls Tryz.prog 136 #[.agg #[.int .i64 p.page,.int .i64 p.at_,.string p.s]] w λe w'=>∃t:ByteArray,e=.returned (.string t)/\t.data.toList=p.bytes/\Below w.heap.size w w':=by
 obtain⟨pg,pa,s⟩:=p;simp only
 by_cases h0:s.size=0
 ·have hnil:s.data.toList=[]:=List.eq_nil_of_length_eq_zero (show s.data.toList.length=0 from h0)
  have hte:s.toList.isEmpty=true:=by rw[ByteArray.toList_eq,hnil];rfl
  have hb:Pt.bytes ⟨pg,pa,s⟩=A9:=by unfold Pt.bytes;rw[if_pos h0]
  rw[hb];have hrep:=Tryz.strings_Repeat nul 512 (w.alloc (.cells #[.int .i64 pg,.int .i64 pa,.string s] 207)) (by omega) (by decide)
  rw[AI3]at hrep;obtain⟨t,ht⟩:∃t:ByteArray,t=⟨A9.toArray⟩:=⟨_,rfl⟩;have htl:t.data.toList=A9:=by rw[ht]
  rw[<-ht]at hrep;have HRP:=yH hrep;have HTL:=yH htl
  clear h0 hnil hb hrep ht htl;go_enter Tryz.func136,Tryz.ntmps136;go_wp2_with fail;refine HRP.out.mono ?_;rintro e w' ⟨rfl,hb⟩;have HB:=yH (((Below.refl _ w).alloc (Nat.le_refl _) (.cells #[.int .i64 pg,.int .i64 pa,.string s] 207)).trans (hb.mono (by simp)))
  clear hb;go_wp2;go_ret;exact⟨t,rfl,HTL.out,HB.out⟩
 ·have hte:s.toList.isEmpty=false:=by
   rw[ByteArray.toList_eq];cases e:s.data.toList with
   | nil=>exact absurd (show s.size=0 from by have:s.data.toList.length=s.size:=rfl;rw[e]at this;exact this.symm) h0
   | cons c r=>rfl
  have hb:Pt.bytes ⟨pg,pa,s⟩=s.data.toList:=by unfold Pt.bytes;rw[if_neg h0]
  rw[hb];clear hb h0;go_enter Tryz.func136,Tryz.ntmps136;go_wp2;go_ret;exact⟨s,rfl,rfl,(Below.refl _ w).alloc (Nat.le_refl _) _⟩
theorem AO.not {S S':Nat->Prop}{w w':World}(h:AO S w S' w'){k:Nat}(hk:k<w.heap.size)(hn:¬S k):¬S' k:=λh'=>hn (h.2 k hk h')
theorem AO.ofBelow {S:Nat->Prop}{w w':World}(h:Below w.heap.size w w'):AO S w S w':=⟨AC.ofBelow h,λ_ _ h=>h⟩
theorem Y9 (P:Nat->Nat)(q:Nat):upd (upd P q (P q+1)) q (upd P q (P q+1) q-1)=P:=by
 funext k
 by_cases hk:k=q
 ·subst hk;rw[AB,AB];omega
 ·rw[AA _ _ hk,AA _ _ hk]
section
variable {w:World} {s d l p:Nat} {h h':Hd} {cur:Option Nat}
theorem AV.there (x:AV w s d l p h cur)(k:h.Len):w.there s 4 81:=λj hj=>⟨by rw[x.hd j _ (List.getElem?_eq_getElem (by rw[k.cells];exact hj))];rfl,x.froz _⟩
theorem AV.setLast (x:AV w s d l p h cur)(k:h.Len)(k':h'.Len):AV (w.setCells s 4 h'.cells) s d l p h' cur:=by
 obtain⟨h1,ht,_⟩:=ER (x.there k) h' k';exact⟨(ht.out 0 (by omega)).trans x.self,(ht.out 1 (by omega)).trans x.dk,(ht.out 2 (by omega)).trans x.lg,(ht.out 3 (by omega)).trans x.pl,h1,(ht.out 85 (by omega)).trans x.cur_,λj=>(ht.froz j).trans (x.froz j)⟩
end
def N7 (J:List AD->Prop)(B:Nat)(S:Nat->Prop)(s d l p n:Nat)(C:Nat->List UInt8)(P:Nat->Nat)(N:Nat)(h':Hd)(cur:Option Nat)(ps:List Pt)(w:World)(e:Ending)(w':World):Prop :=
 e=.returned (.tuple #[])/\∃S',AC (λk=>S k\/k=s) w w'/\(∀k,k<w.heap.size->S' k->S k)/\BD J B S' p d n (EE C ps) P (N+3*ps.length) w'/\AV w' s d l p h' cur
theorem VO (J:List AD->Prop)(B:Nat)(S:Nat->Prop)(s d l p n:Nat)(C:Nat->List UInt8)(P:Nat->Nat)(N:Nat)(h h':Hd)(cur:Option Nat)(v:Value)(ps:List Pt)(Bp:Nat)(w:World)
  (x:AV w s d l p h cur) (k:h.Len) (k':h'.Len) (hs:¬S s) (g:BD J B S p d n C P N w) (hl:BP Bp w v ps) (hlS:∀b,v.ownBlock=some b->¬S b) (hf:∀p ∈ ps,p.Fits) (hP:DF P≠n) (hN:N+3*ps.length<=4398046511104)
  (hcl:∀ops q bs,J ops->J (ops++[.put 1 (q*512) bs])) :
  Calls Tryz.prog 95 #[.pointer (some ⟨s,1,none⟩),.agg h'.cells.toArray,v] w (N7 J B S s d l p n C P N h' cur ps w):=by
 obtain⟨va,vc,rfl⟩:=hl.shape;obtain⟨X,hX⟩:∃X,X=h'.cells.toArray:=⟨_,rfl⟩;rw[<-hX];obtain⟨wb,hwb⟩:∃wb,wb=w.alloc (.cells X 37):=⟨_,rfl⟩;have hbb:Below w.heap.size w wb:=by rw[hwb];exact (Below.refl _ _).alloc (Nat.le_refl _) _
 have hvb:BY wb w.heap.size h':=by rw[hwb,hX];exact BY.new w h'
 have hsl:=x.lt;have hXB:Hid (¬S w.heap.size):=yH (λhh=>by have:=(g.low _ hh).2;omega)
 have HWB:=yH hwb;have HG:=yH (g.below hbb);have HX:=yH (x.below hbb);have HL:=yH (hl.below hbb);have HBB:=yH hbb;have HVB:=yH hvb;have HLS:=yH hlS;have HF:=yH hf;have HP:=yH hP;have HCL:=yH hcl;have HK:=yH k;have HK':=yH k';have HS:=yH hs;have HXX:=yH hX
 have HSL:=yH hsl;obtain⟨m,hm⟩:∃m,m=ps.length:=⟨_,rfl⟩;have hn63:m<=9223372036854775807:=by
  rcases hl.2 with⟨_,h0⟩|⟨g,cap,cur,hv,_,_,h1,h2,_⟩
  ·omega
  ·unfold maxLen at h2;omega
 have HM:=yH hm;have HN:=yH hN;rw[<-hm];clear hwb hbb hvb hX g x hl hlS hf hP hcl k k' hs hm hN;go_enter Tryz.func95,Tryz.ntmps95;go_wp2;rw[HWB.out.symm];have HT0:Hid (∃S',AO S wb S' wb/\BD J B S' p d n (EE C (ps.take 0)) P (N+3*0) wb):=yH ⟨S,AO.refl _ _,HG.out⟩;go_loopw [10] (λi wr=>∃q:Nat,q<=m/\i=.int .i64 q/\Hid (∃S',AO S wb S' wr/\BD J B S' p d n (EE C (ps.take q)) P (N+3*q) wr)) (λi _=>m-(intOf i).toNat)
 case atStart=>exact⟨0,by omega,rfl,HT0⟩
 case round =>
  obtain⟨q,hq,rfl,hinv⟩:=hrel;obtain⟨S1,hT1,hJ1⟩:=hinv.out;clear hinv;have hsb:s<wb.heap.size:=by have:=HBB.out.size;have:=HSL.out;omega
  have hxr:AV wr s d l p h cur:=HX.out.kept hT1.1 HS.out;have hsr:s<wr.heap.size:=hxr.lt;have hs1:¬S1 s:=hT1.not hsb HS.out;by_cases hlt:q<m
  ·have hlt':q<ps.length:=by rw[<-HM.out];exact hlt
   have hqn:(q:Int)<m:=by omega
   obtain⟨g,rfl,hBg,hgl,e0,e1,e2⟩:=HL.out.at hlt';obtain⟨pt,hpe⟩:∃pt,pt=ps[q]:=⟨_,rfl⟩;have hmem:pt ∈ ps:=by rw[hpe];exact List.getElem_mem hlt'
   rw[<-hpe]at e0 e1 e2;have hgb:wr.heap[g]? = wb.heap[g]?:=hT1.1.block g hgl (HLS.out g rfl);replace e0:=(World.cell?_of_block hgb).trans e0
   replace e1:=(World.cell?_of_block hgb).trans e1
   replace e2:=(World.cell?_of_block hgb).trans e2
   have HFT:=yH (HF.out pt hmem);have HTK:Hid (EE C (ps.take (q+1))=BM0 (EE C (ps.take q)) pt):=yH (by rw[List.take_succ_eq_append_getElem hlt',AY4,hpe])
   have hNq:N+3*q+3<=4398046511104:=by have:=HN.out;omega
   obtain⟨C1,hC1⟩:∃C1,C1=EE C (ps.take q):=⟨_,rfl⟩;rw[<-hC1]at hJ1 HTK;obtain⟨M,hM⟩:∃M,M=N+3*q:=⟨_,rfl⟩;rw[<-hM]at hJ1 hNq;have HM3:=yH hM;clear hmem hpe hlt' hgb hC1 hM;obtain⟨pg,pa,str⟩:=pt;simp only at e0 e1 e2;obtain⟨W0,hW0⟩:∃W0,W0=wr.alloc (.cells #[.int .i64 pg,.int .i64 pa,.string str] 207):=⟨_,rfl⟩;have hb0:Below wr.heap.size wr W0:=by rw[hW0];exact (Below.refl _ _).alloc (Nat.le_refl _) _
   have hg0:W0.heap[wr.heap.size]? = some (.cells #[.int .i64 pg,.int .i64 pa,.string str] 207 (0,0)):=by rw[hW0];exact heap_alloc_new wr _
   have hz0:W0.heap.size=wr.heap.size+1:=by rw[hW0];simp
   have hJ0:=hJ1.below hb0;have hc1:¬S1 wr.heap.size:=λhh=>by have:=(hJ1.low _ hh).2;omega
   have hT0:AO S wb S1 W0:=hT1.trans (AO.ofBelow hb0);have hx0:=hxr.below hb0;obtain⟨T,hT⟩:∃T:ByteArray,T=⟨(Pt.bytes ⟨pg,pa,str⟩).toArray⟩:=⟨_,rfl⟩;have hTl:T.data.toList=Pt.bytes ⟨pg,pa,str⟩:=by rw[hT]
   have hpg:pg<4096:=HFT.out.1;have hTs:pa+T.size<=512:=by
    have h1:=HFT.out.2;have h2:T.data.toList.length=T.size:=rfl;rw[<-h2,hTl];exact h1
   have HKP:Hid (∀W:World,W.heap[s]? = W0.heap[s]?->W.heap[wr.heap.size]? = W0.heap[wr.heap.size]?->W.cell? ⟨s,3,none⟩=some (.pointer (some ⟨p,0,none⟩))/\W.cell? ⟨wr.heap.size,0,none⟩=some (.int .i64 pg)/\W.cell? ⟨wr.heap.size,1,none⟩=some (.int .i64 pa)/\W.cell? ⟨wr.heap.size,2,none⟩=some (.string str)):=yH (λW h1 h2=>by
    have h3:=h2.trans hg0;refine⟨(World.cell?_of_block h1).trans hx0.pl,?_,?_,?_⟩ <;> rw[yC h3] <;> rfl)
   have HPI:Hid (∀W,Below W0.heap.size W0 W->Calls Tryz.prog 97 #[.pointer (some ⟨p,0,none⟩),.int .i64 pg] W λe w'=>e=.returned (.int .i64 0)/\W0.heap.size<=w'.heap.size/\w'.heap[s]? = W0.heap[s]?/\w'.heap[wr.heap.size]? = W0.heap[wr.heap.size]?/\Hid (∃S2,AO S wb S2 w'/\(¬S2 s/\¬S2 wr.heap.size)/\BD J B S2 p d n C1 (upd P pg (P pg+1)) (M+1) w')):=yH (λW hb=>by
    refine (CB2 J B S1 p d n C1 P M pg W (hJ0.below hb) (by omega) hpg (λops q=>HCL.out ops q _)).mono ?_
    rintro e w' ⟨S2,hT2,⟨_,_,h2,_⟩ | ⟨rfl,_,h3⟩⟩
    ·exact absurd h2 HP.out
    ·have hT3:AO S1 W0 S2 w':=(AO.ofBelow hb).trans hT2;exact⟨rfl,hT3.1.size,hT3.1.block s (by omega) hs1,hT3.1.block wr.heap.size (by omega) hc1,yH ⟨S2,hT0.trans hT3,⟨hT3.not (by omega) hs1,hT3.not (by omega) hc1⟩,h3⟩⟩)
   have hbd0:Below W0.heap.size W0 W0.drew:=(Below.refl _ _).drew;obtain⟨cn,hcn⟩:∃cn,cn=wr.heap.size:=⟨_,rfl⟩;rw[<-hcn]at HKP HPI;obtain⟨k0,k1,k2,k3⟩:=HKP.out W0 rfl rfl;have hpl:=hxr.pl;have HW0:=yH hW0;have HZ0:=yH hz0;have HTL:=yH hTl
   have HBD:=yH hbd0;have HCN:=yH hcn;clear hb0 hg0 hz0 hJ0 hJ1 hc1 hT0 hx0 hT hTl hxr hs1 hT1 hbd0 hW0 hgl hBg hsb hcn;go_wp2;rw[<-HW0.out,<-HCN.out];clear e0 e1 e2 hpl;go_still_tail 6,(by kernel_rfl)
   go_wp2_with fail;refine (HPI.out _ HBD.out).mono ?_;rintro e w1 ⟨rfl,hz1,hb1,hc1,hpost1⟩;obtain⟨S2,hT2,⟨hn1,hn2⟩,hJ2⟩:=hpost1.out;clear k0 k1 k2 k3 hpost1;obtain⟨k0,k1,k2,k3⟩:=HKP.out w1 hb1 hc1;have hz01:s<W0.heap.size/\cn<W0.heap.size:=by have:=HZ0.out;rw[HCN.out];omega
   have hsz1:s<w1.heap.size/\cn<w1.heap.size:=by omega
   have HKC:Hid (∀W,Below w1.heap.size w1 W->W.cell? ⟨s,3,none⟩=some (.pointer (some ⟨p,0,none⟩))/\W.cell? ⟨cn,0,none⟩=some (.int .i64 pg)/\W.cell? ⟨cn,1,none⟩=some (.int .i64 pa)/\W.cell? ⟨cn,2,none⟩=some (.string str)):=yH (λW hb=>HKP.out W ((hb.block s hsz1.1).trans hb1) ((hb.block cn hsz1.2).trans hc1))
   have HBY:Hid (∀W,Below w1.heap.size w1 W->Calls Tryz.prog 136 #[.agg #[.int .i64 pg,.int .i64 pa,.string str]] W λe w'=>e=.returned (.string T)/\Below w1.heap.size w1 w'):=yH (λW hb=>(AI9 ⟨pg,pa,str⟩ W).mono λe w' ⟨t,h1,h2,h3⟩=>by
    have h4:=h2.trans HTL.out.symm;have h5:t=T:=by cases t;cases T;simp only[ByteArray.mk.injEq];exact Array.toList_inj.1 h4
    exact⟨by rw[h1,h5],hb.trans (h3.mono hb.size)⟩)
   have HWR:Hid (∀W,Below w1.heap.size w1 W->Calls Tryz.prog 135 #[.pointer (some ⟨p,0,none⟩),.int .i64 pg,.int .i64 pa,.string T] W λe w'=>e=.returned (.int .i64 0)/\(w'.cell? ⟨s,3,none⟩=some (.pointer (some ⟨p,0,none⟩))/\w'.cell? ⟨cn,0,none⟩=some (.int .i64 pg)/\w'.cell? ⟨cn,1,none⟩=some (.int .i64 pa)/\w'.cell? ⟨cn,2,none⟩=some (.string str))/\Hid (w1.heap.size<=w'.heap.size/\w'.heap[s]? = W0.heap[s]?/\w'.heap[cn]? = W0.heap[cn]?/\∃S3,AO S wb S3 w'/\(¬S3 s/\¬S3 cn)/\BD J B S3 p d n (upd C1 pg (splice (C1 pg) pa T.data.toList)) (upd P pg (P pg+1)) (M+1+1) w')):=yH (λW hb=>by
    refine (BO1 (hJ2.below hb) pg pa T (by rw[AB];omega) hTs).mono ?_
    rintro e w' ⟨rfl,S3,hT3,h3⟩;have hT4:AO S2 w1 S3 w':=(AO.ofBelow hb).trans hT3;have b1:=hT4.1.block s hsz1.1 hn1;have b2:=hT4.1.block cn hsz1.2 hn2;exact⟨rfl,HKP.out w' (b1.trans hb1) (b2.trans hc1),yH ⟨hT4.1.size,b1.trans hb1,b2.trans hc1,S3,hT2.trans hT4,⟨hT4.not hsz1.1 hn1,hT4.not hsz1.2 hn2⟩,h3⟩⟩)
   have hbd1:=(Below.refl w1.heap.size w1).drew;clear hT2 hn1 hn2 hJ2 hb1 hc1 hz01 hz1 hTs;go_wp2_with fail;go_region_held3 (λw'=>w'.cell? ⟨s,3,none⟩=some (.pointer (some ⟨p,0,none⟩))/\w'.cell? ⟨cn,0,none⟩=some (.int .i64 pg)/\w'.cell? ⟨cn,1,none⟩=some (.int .i64 pa)/\w'.cell? ⟨cn,2,none⟩=some (.string str)) (first | assumption | exact HKC.out _ (by assumption))
    (first
     | (go_at_call 136;refine (HBY.out _ (by assumption)).mono ?_;rintro e w' ⟨rfl,hb'⟩)
     | (go_at_call 135;refine (HWR.out _ (by assumption)).mono ?_;rintro e w2 ⟨rfl,hcl,hpost2⟩))
   obtain⟨hz2,hb2,hc2,S3,hT3,⟨hn3,hn4⟩,hJ3⟩:=hpost2.out;have HUN:Hid (∀W,Below w2.heap.size w2 W->Calls Tryz.prog 99 #[.pointer (some ⟨p,0,none⟩),.int .i64 pg] W λe w'=>e=.returned (.int .i64 0)/\Hid (∃S',AO S wb S' w'/\BD J B S' p d n (EE C (ps.take (q+1))) P (N+3*(q+1)) w')):=yH (λW hb=>by
    refine (BO8 (hJ3.below hb) pg (by rw[AB];omega) (by omega)).mono ?_
    rintro e w' ⟨rfl,S4,hT4,h4⟩;rw[Y9,HTL.out]at h4;refine⟨rfl,yH ⟨S4,(hT3.trans (AO.ofBelow hb)).trans hT4,?_⟩⟩;rw[HTK.out,show N+3*(q+1)=M+1+1+1 by have:=HM3.out;omega]
    exact h4)
   obtain⟨g0,g1,g2,g3⟩:=HKP.out w2 hb2 hc2;have HBD2:=yH ((Below.refl w2.heap.size w2).drew);clear hz2 hb2 hc2 hT3 hn3 hn4 hJ3 hpost2 k0 k1 k2 k3 hbd1 hsz1;go_wp2;go_still_tail 6,(by kernel_rfl)
   go_wp2_with fail;refine (HUN.out _ HBD2.out).mono ?_;rintro e w3 ⟨rfl,hend⟩;go_wp2;go_roundw
   case rel=>exact⟨q+1,by omega,by go_num,hend⟩
   case measure=>simp[intOf];omega
  ·obtain rfl:q=m:=by omega
   have hvr:BY wr w.heap.size h':=HVB.out.kept hT1.1 hXB.out;obtain⟨fc,hfc⟩:∃fc,fc=h'.cells:=⟨_,rfl⟩;have hk':=HK'.out;have hk:=HK.out;have h81:fc.toArray.size=81:=by rw[hfc,List.size_toArray,hk'.cells]
   have HTH:Hid (wr.there s 4 fc.toArray.size):=yH (by rw[h81];exact hxr.there hk)
   have HRG:Hid (wr.rangeAt w.heap.size 0 fc):=yH (by rw[hfc];exact hvr.1)
   have HS1:Hid ((Tryz.prog.info? 37).map (·.size)=some fc.length):=yH (by rw[hfc];exact hk'.size')
   have HS2:Hid ((Tryz.prog.info? 37).map (·.size)=some fc.toArray.size):=yH (by rw[hfc];exact hk'.size)
   have HA1:Hid (fc.toArray.all (·.oneCell')=true):=yH (by rw[hfc];exact Hd.all_one h')
   obtain⟨_,_,hk3⟩:=ER (hxr.there hk) h' hk';have HE:Hid (N7 J B S s d l p n C P N h' cur ps w (.returned (.tuple #[])) (wr.setCells s 4 fc)):=yH (by
    rw[hfc];refine⟨rfl,S1,((AC.ofBelow (S:=λk=>S k\/k=s) HBB.out).trans hT1.1 (λi hi=>.inl (.inl hi))).trans hk3 (λi hi=>.inl (.inr hi)),λk hk hs=>hT1.2 k (Nat.lt_of_lt_of_le hk HBB.out.size) hs,?_,hxr.setLast hk hk'⟩
    have h1:=hJ1.kept hk3 (λk _ hs e=>hs1 (e ▸ hs))
    rw[HM.out,List.take_length]at h1;exact h1)
   clear hvr hfc hk' hk h81 hk3 hxr hs1 hT1 hJ1;go_wp2_with (first
    | (refine wpList_load_mid rfl 37 _ rfl w.heap.size 0 (by rfl) fc _ HRG.out Tryz.underlying37 rfl HS1.out ?_)
    | (refine wpList_store_mid rfl 37 _ _ rfl s 4 fc.toArray (by rfl) (by rfl) HTH.out HS2.out HA1.out ?_;rw[List.toList_toArray]))
   go_end0
   exact HE.out
section
variable {J:List AD->Prop} {B s d l p n N a db m:Nat} {S:Nat->Prop} {C:Nat->List UInt8} {P:Nat->Nat} {last h:Hd} {cur:Option Nat} {D:Nat->Option Dr} {w:World}
theorem AM1 (q:Int)(x:CH w a s d l p db m last h D)(hq:¬(1<=q/\h.has q.toNat)) :
  Calls Tryz.prog 13 #[.pointer (some ⟨a,0,none⟩),.int .i64 q] w λe w'=>e=.returned (.tuple #[.string ⟨#[]⟩,.int .i64 3])/\w'=w:=by
 have h1:=CR q x;rw[if_neg hq]at h1;have HP:=yH h1;clear h1 x hq
 go_enter Tryz.func13,Tryz.ntmps13;go_wp2_with fail;refine HP.out.mono ?_;rintro e w' ⟨rfl,hw⟩;subst w';go_wp2;go_ret2;exact⟨rfl,rfl⟩
end
section
variable {w w':World} {a s d l p db m:Nat} {last h:Hd} {D:Nat->Option Dr}
theorem Dr.there_ {y:Dr}(hr:w.rangeAt y.blk 0 y.cells)(hf:∀j,w.frozen? ⟨y.blk,j,none⟩=false)(h1:y.was.length=512)(h2:y.now.length=512):w.there y.blk 0 1025:=λj hj =>
 ⟨by rw[hr j _ (List.getElem?_eq_getElem (by rw[y.cells_length h1 h2];exact hj))];rfl,hf _⟩
theorem Dr.range_now {y:Dr}(hr:w.rangeAt y.blk 0 y.cells)(h1:y.was.length=512):w.rangeAt y.blk 513 (Lib.byteCells y.now):=λj v hv=>by
 have:=hr (513+j) v (by rw[Dr.cells,show 513+j=(512+j)+1 by omega,List.getElem?_cons_succ,List.getElem?_append_right (by rw[Lib.byteCells_length,h1];omega),Lib.byteCells_length,h1,show 512+j-512=j by omega];exact hv)
 rwa [Nat.zero_add]at this
def Dr.put (y:Dr)(at_:Nat)(bs:List UInt8):Dr:={ y with now:=splice y.now at_ bs }
theorem Dr.put_nil (y:Dr)(at_:Nat):y.put at_ []=y:=by unfold Dr.put;rw[LS]
theorem A4.turn (x:A4 w db m D){q:Nat}{y:Dr}(hq:D q=some y){at_:Nat}{bs:List UInt8}(hle:at_+bs.length<=512) :
  A4 (w.setCells y.blk (513+at_) (Lib.byteCells bs)) db m (upd D q (some (y.put at_ bs)))/\AC (λk=>k=y.blk) w (w.setCells y.blk (513+at_) (Lib.byteCells bs)):=by
 obtain⟨w',hw⟩:∃w',w'=w.setCells y.blk (513+at_) (Lib.byteCells bs):=⟨_,rfl⟩;have hk:AC (λk=>k=y.blk) w w':=by rw[hw];exact AC.setCells (λk=>k=y.blk) w (fb:=y.blk) rfl _
 rw[<-hw];refine⟨?_,hk⟩;obtain⟨F,hF,h4,h5⟩:=x.map;obtain⟨g1,g2,g3,g4,g5,g6,g7⟩:=x.at_ q y hq;have hth:=Dr.there_ g2 g3 g4 g5;refine⟨⟨F,hF.block (hk.block db x.ltM (λe=>g6 e.symm)),λj z hj=>?_,λj v hj=>?_⟩,λj z hj=>?_,λj j' z z' hj hj' e=>?_⟩
 ·by_cases hjq:j=q
  ·subst hjq;rw[AB]at hj;cases hj;exact h4 j y hq
  ·rw[AA _ _ hjq]at hj;exact h4 j z hj
 ·obtain⟨n,z,e1,e2,e3⟩:=h5 j v hj;by_cases hnq:n=q
  ·subst hnq;rw[hq]at e2;cases e2
   exact⟨n,_,e1,AB _ _ _,e3⟩
  ·exact⟨n,z,e1,by rw[AA _ _ hnq];exact e2,e3⟩
 ·by_cases hjq:j=q
  ·subst hjq;rw[AB]at hj;cases hj
   refine⟨g1,λi v hv=>?_,λi=>by show w'.frozen? ⟨y.blk,i,none⟩=false;rw[hw,World.frozen?_setCells];exact g3 i,g4,?_,g6,by show y.blk<w'.heap.size;exact Nat.lt_of_lt_of_le g7 hk.size⟩
   ·show w'.cell? ⟨y.blk,0+i,none⟩=some v;by_cases hi:i<513
    ·rw[hw,World.cell?_setCells_out y.blk _ (513+at_) w _ (λ_ _=>.inl (by show 0+i<513+at_;omega))]
     refine g2 i v ?_;cases i with
     | zero=>exact hv
     | succ i =>
      rw[Dr.cells,List.getElem?_cons_succ,List.getElem?_append_left (by rw[Lib.byteCells_length];show i<y.was.length;omega)]at hv
      rw[Dr.cells,List.getElem?_cons_succ,List.getElem?_append_left (by rw[Lib.byteCells_length];omega)]
      exact hv
    ·have hsp:=GA (Dr.range_now g2 g4) at_ bs (by omega) (DC hth (by omega) (by omega)) (i-513) v (by
      rw[Dr.cells,show i=(i-1)+1 by omega,List.getElem?_cons_succ,List.getElem?_append_right (by rw[Lib.byteCells_length];show y.was.length<=i-1;omega),Lib.byteCells_length]at hv
      rw[show i-513=i-1-(y.put at_ bs).was.length by show _=i-1-y.was.length;omega]
      exact hv)
     rw[hw,show 0+i=513+(i-513) by omega]
     exact hsp
   ·show (splice y.now at_ bs).length=512;rw[length_splice _ _ _ (by omega)];exact g5
  ·rw[AA _ _ hjq]at hj;obtain⟨k1,k2,k3,k4,k5,k6,k7⟩:=x.at_ j z hj;have hb:=hk.block z.blk k7 (λe=>hjq (x.one j q z y hj hq e))
   exact⟨k1,λi v hv=>(World.cell?_of_block hb).trans (k2 i v hv),λi=>(World.frozen?_of_block hb).trans (k3 i),k4,k5,k6,Nat.lt_of_lt_of_le k7 hk.size⟩
 ·by_cases hjq:j=q <;> by_cases hjq':j'=q
  ·omega
  ·subst hjq;rw[AB]at hj;rw[AA _ _ hjq']at hj';cases hj;exact x.one j j' y z' hq hj' e
  ·subst hjq';rw[AB]at hj';rw[AA _ _ hjq]at hj;cases hj';exact x.one j j' z y hj hq e
  ·rw[AA _ _ hjq]at hj;rw[AA _ _ hjq']at hj';exact x.one j j' z z' hj hj' e
theorem CH.turnDr (x:CH w a s d l p db m last h D){q:Nat}{y:Dr}(hq:D q=some y){at_:Nat}{bs:List UInt8}(hle:at_+bs.length<=512) :
  CH (w.setCells y.blk (513+at_) (Lib.byteCells bs)) a s d l p db m last h (upd D q (some (y.put at_ bs)))/\AC (λk=>k=y.blk) w (w.setCells y.blk (513+at_) (Lib.byteCells bs)):=by
 obtain⟨h1,hk⟩:=x.dr.turn hq hle;have hb:=x.blk q y hq;refine⟨⟨x.sp.kept hk (λe=>hb.2 e.symm),x.ac.kept hk (λe=>hb.1 e.symm),h1,x.okl,x.ok,λj z hj=>?_,x.ne,λj z hj=>?_⟩,hk⟩
 ·by_cases hjq:j=q
  ·subst hjq;exact x.has j y hq
  ·rw[AA _ _ hjq]at hj;exact x.has j z hj
 ·by_cases hjq:j=q
  ·subst hjq;rw[AB]at hj;cases hj;exact hb
  ·rw[AA _ _ hjq]at hj;exact x.blk j z hj
theorem XQ (q at_:Nat)(y:Dr)(t:ByteArray)(x:CH w a s d l p db m last h D)(hq:D q=some y)(hle:at_+t.size<=512) :
  Calls Tryz.prog 16 #[.pointer (some ⟨a,0,none⟩),.int .i64 q,.int .i64 at_,.string t] w λe w'=>e=.returned (.int .i64 0)/\CH w' a s d l p db m last h (upd D q (some (y.put at_ t.data.toList)))/\AC (λk=>k=y.blk) w w':=by
 have h1:=CR q x;have hhas:=x.has q y hq;rw[if_pos (by rw[Int.toNat_natCast];exact⟨by have:=hhas.1;omega,hhas⟩)]at h1
 have HP:=yH h1;have hlk:=x.dr.look hq;unfold Dr.ptr at hlk;have c83:=x.ac.dr;obtain⟨g1,g2,g3,g4,g5,g6,g7⟩:=x.dr.at_ q y hq;have hth:=Dr.there_ g2 g3 g4 g5;have he:t.data.toList.length=t.size:=rfl;obtain⟨hX,hk⟩:=x.turnDr hq (at_:=at_) (bs:=t.data.toList) (by rw[he];exact hle)
 have ha5:at_<=512:=by omega
 have hlt:¬((512:Int)-t.size<at_):=by omega
 have hs1:(512:Int)-t.size<=512:=by omega
 have hsl:=λW=>IP W ⟨y.blk,513,none⟩ at_ ha5
 obtain⟨yb,hyb⟩:∃yb,yb=y.blk:=⟨_,rfl⟩;rw[<-hyb]at hlk hsl g7;by_cases h0:t.size=0
 ·have hnil:t.data.toList=[]:=List.eq_nil_of_length_eq_zero (by rw[he,h0])
  obtain⟨ax,hax⟩:∃ax,(if 512=at_ then (⟨yb,513,none⟩:Addr) else (⟨yb,513,none⟩:Addr).add at_)=ax:=⟨_,rfl⟩
  rw[hax]at hsl;clear hax;have hcp:=λ(ax:Option Addr) (x y:Nat)=>Lib.run_copy_empty_string (P:=Tryz.prog) w 102 9 3 5 ax x y t Tryz.underlying102 (by kernel_rfl) h0
  have HE:Hid (CH w a s d l p db m last h (upd D q (some (y.put at_ t.data.toList)))/\AC (λk=>k=y.blk) w w):=yH (by
   rw[hnil,Dr.put_nil,show upd D q (some y)=D by rw[<-hq];exact GV _ _]
   exact⟨x,AC.refl _ _⟩)
  have hs0:(t.size:Int)<=0:=by omega
  have HZ:=yH h0;clear h1 x hq hle hhas g1 g2 g3 g4 g5 g6 hth hX hk hnil h0 he hyb;go_enter Tryz.func16,Tryz.ntmps16;go_wp2_with fail;refine HP.out.mono ?_;rintro e w' ⟨rfl,hw⟩;subst w';go_wp2;go_ret;exact⟨rfl,HE.out⟩
 ·rw[if_neg (show ¬512=at_ by omega),A3]at hsl
  have hcp:=CL w 102 9 3 5 yb (513+at_) (512-at_) (512-at_) t Tryz.underlying102 (by kernel_rfl) (by rw[hyb];exact DC hth (by omega) (by omega)) (by omega)
  have HE:=yH (And.intro hX hk);rw[<-hyb]at HE;have hb1:(at_:Int)<512:=by omega
  have hca:¬512=at_:=by omega
  have hs0:(0:Int)<t.size:=by omega
  have HYB:=yH hyb;clear h1 x hq hle hhas g1 g2 g3 g4 g5 g6 hth hX hk h0 he hyb;go_enter Tryz.func16,Tryz.ntmps16;go_wp2_with fail;refine HP.out.mono ?_;rintro e w' ⟨rfl,hw⟩;subst w';go_wp2;go_ret;rw[<-HYB.out];exact⟨rfl,HE.out⟩
end
def RA (r:ByteArray)(x:Hd × List Pt):Prop:=∃x1 z,rHd (r.data.toList,false)=(x.1,x1)/\JT x1.1.length x1=(x.2,z)/\z.2=false/\x.2.length<=4194304/\∀p ∈ x.2,p.Fits
def LV (C:Nat->List UInt8)(xs:List (Hd × List Pt)):Nat->List UInt8:=xs.foldl (λC x=>EE C x.2) C
def JJ (h:Hd)(xs:List (Hd × List Pt)):Hd:=xs.foldl (λ_ x=>x.1) h
def FT (N:Nat)(xs:List (Hd × List Pt)):Nat:=xs.foldl (λN x=>N+3*x.2.length) N
theorem AT4 (N:Nat)(xs ys:List (Hd × List Pt)):FT N xs<=FT N (xs++ys):=by
 have:∀(ys:List (Hd × List Pt)) M,M<=FT M ys:=λys=>by
  induction ys with
  | nil=>intro M;exact Nat.le_refl _
  | cons y r ih=>intro M;exact Nat.le_trans (by omega) (ih (M+3*y.2.length))
 unfold FT;rw[List.foldl_append];exact this ys _
theorem I8.at {B:Nat}{w:World}{a:Option Addr}{n c:Nat}{rs:List ByteArray}(h:I8 B w (.slice a n c) rs){k:Nat}(hk:k<rs.length) :
  ∃g,a=some ⟨g,0,none⟩/\B<=g/\g<w.heap.size/\w.cell? ⟨g,k,none⟩=some (.string rs[k]):=by
 rcases h.2 with⟨_,h0⟩|⟨g,cap,cur,hv,hB,hg,_⟩
 ·omega
 ·injection hv with hv _ _
  subst hv;have:=World.ownsRow.cells h (g:=g) rfl k (.string rs[k]) (by simp[hk])
  rw[A3,Nat.zero_add]at this;exact⟨g,rfl,hB,(Array.getElem?_eq_some_iff.1 hg).1,this⟩
def XZ (J:List AD->Prop)(B:Nat)(S:Nat->Prop)(s d l p n:Nat)(C:Nat->List UInt8)(P:Nat->Nat)(N:Nat)(last:Hd)(cur:Option Nat)(xs:List (Hd × List Pt))(w w':World):Prop :=
 ∃S',AC (λk=>S k\/k=s) w w'/\(∀k,k<w.heap.size->S' k->S k)/\BD J B S' p d n (LV C xs) P (FT N xs) w'/\AV w' s d l p (JJ last xs) cur
theorem Z8 (J:List AD->Prop)(B:Nat)(S:Nat->Prop)(s d l p n:Nat)(C:Nat->List UInt8)(P:Nat->Nat)(N:Nat)(last:Hd)(cur:Option Nat)(v:Value)(rs:List ByteArray)(xs:List (Hd × List Pt))(Bp:Nat)(w:World)
  (x:AV w s d l p last cur) (k:last.Len) (hs:¬S s) (g:BD J B S p d n C P N w) (hl:I8 Bp w v rs) (hlS:∀b,v.ownBlock=some b->¬S b/\b≠s) (hlen:rs.length=xs.length) (hx:∀i (h1:i<rs.length) (h2:i<xs.length),RA rs[i] xs[i]) (hP:DF P≠n) (hN:FT N xs<=4398046511104)
  (hcl:∀ops q bs,J ops->J (ops++[.put 1 (q*512) bs])) (hJ2:∀ops,J ops->(rHd (BN ops 2,false)).2.2=true) :
  Calls Tryz.prog 47 #[.pointer (some ⟨s,1,none⟩),v] w λe w'=>e=.returned (.tuple #[])/\XZ J B S s d l p n C P N last cur xs w w':=by
 obtain⟨va,vc,rfl⟩:=hl.shape;obtain⟨Sd,ops,hJ,hD,_⟩:=g.disk;have hsh:=hJ2 ops hJ;have hL:(BN ops 2).length<=4194304:=DA hD.1 2;obtain⟨t,ht⟩:∃t:ByteArray,t=⟨(BN ops 2).toArray⟩:=⟨_,rfl⟩;have htl:t.data.toList=BN ops 2:=by rw[ht]
 have htz:t.size=(BN ops 2).length:=by rw[<-htl];rfl
 rw[<-htl]at hsh;have HSZ:Hid (∀n,Calls Tryz.prog 91 #[.pointer (some ⟨d,0,none⟩),.int .i64 2] (w.drewN n) λe w'=>e=.returned (.int .i64 t.size)/\w'=w.drewN n):=yH (λn=>(KL 2 Sd d ops _ (hD.below (AF w n)) (by omega)).mono λe w' ⟨h1,h2⟩=>⟨by rw[h1,htz],h2⟩)
 have HRD:Hid (∀n,Calls Tryz.prog 90 #[.pointer (some ⟨d,0,none⟩),.int .i64 2,.int .i64 0,.int .i64 t.size] (w.drewN n) λe w'=>e=.returned (.tuple #[.string t,.int .i64 0])/\w'=w.drewN n):=yH (λn=>(KN 2 0 t.size Sd d ops _ (hD.below (AF w n)) (by omega) (by omega)).mono λe w' ⟨h1,h2⟩=>⟨by rw[h1,List.drop_zero,List.take_of_length_le (by omega),<-ht],h2⟩)
 obtain⟨Z,hZ⟩:∃Z:Array Value,Z=Hd.zero.cells.toArray:=⟨_,rfl⟩;have HHO:Hid (∀W,Calls Tryz.prog 93 #[.string t] W λe w'=>e=.returned (.tuple #[.agg Z,.bool false])/\Below W.heap.size W w'):=yH (λW=>by rw[hZ];exact XJ t W hsh)
 have HEX:Hid (∀(a:Act) (o:Oper) (_:o.op=.alloc 37) (W:World),(execOp a.eval o).run Tryz.prog W=.ok (.value (.pointer (some ⟨W.heap.size,0,none⟩))) (W.alloc (.cells Z 37))):=yH (by rw[hZ];exact λ_ _ ho W=>EF ho W)
 have HZ2:Hid ((Tryz.prog.info? 37).map (·.size)=some Z.size):=yH (by rw[hZ];exact Hd.zero_len.size)
 have HZA:Hid (Z.all (·.oneCell')=true):=yH (by rw[hZ];exact Hd.all_one _)
 have HZT:Hid (∀W:World,(W.alloc (.cells Z 37)).there W.heap.size 0 Z.size):=yH (λW=>by
  have:=(BY.new W Hd.zero).there Hd.zero_len
  have e:Z.size=81:=by rw[hZ,List.size_toArray,Hd.zero_len.cells]
  rw[<-hZ]at this;rw[e];exact this)
 have hpd:=x.dk;have HX:=yH x;have HG:=yH g;have HL:=yH hl;have HS:=yH hs;have HLS:=yH hlS;have HK:=yH k
 have HLEN:=yH hlen;have HT:=yH hx;have HP:=yH hP;have HN:=yH hN;have HCL:=yH hcl;have HZ:=yH hZ
 obtain⟨m,hm⟩:∃m,m=rs.length:=⟨_,rfl⟩;have hn63:m<=9223372036854775807:=by
  rcases hl.2 with⟨_,h0⟩|⟨g,cap,cur,hv,_,_,h1,h2,_⟩
  ·omega
  ·unfold maxLen at h2;omega
 have HM:=yH hm;rw[<-hm];clear hJ hD hsh hL ht htl htz hZ x g hl hs hlS k hlen hx hP hN hcl hJ2 hm;go_enter Tryz.func47,Tryz.ntmps47;go_wp2_with fail;go_quiet ((first | (go_at_call 91;exact Calls.quiet_of_same (HSZ.out _)) | (go_at_call 90;exact Calls.quiet_of_same (HRD.out _))))
 go_wp2_with fail;refine (HHO.out _).mono ?_;rintro e w2 ⟨rfl,hb2⟩;have HB2:=yH ((AF w nq).trans hb2);clear hb2;obtain⟨w3,hw3⟩:∃w3,w3=(w2.alloc (.cells Z 37)).setCells w2.heap.size 0 Z.toList:=⟨_,rfl⟩;have HW3:=yH hw3.symm;have hb3:Below w.heap.size w w3:=by
  rw[hw3];exact (HB2.out.trans ((Below.refl _ _).alloc HB2.out.size _)).trans ((AC.setCells (λj=>j=w2.heap.size) _ (fb:=w2.heap.size) rfl _).toBelow (by simp;have:=HB2.out.size;omega) (λi hi=>by have:=HB2.out.size;omega))
 have HB3:=yH hb3;clear hw3 hb3;go_wp2_with (first
  | (refine BK rfl _ (HEX.out _ _ rfl _) ?_)
  | (refine wpList_store_mid rfl 37 _ _ rfl w2.heap.size 0 Z (by rfl) (by rfl) (HZT.out w2) HZ2.out HZA.out ?_;rw[HW3.out]))
 have HI0:Hid (∃S',AC (λk=>S k\/k=s) w3 w3/\(∀k,k<w3.heap.size->S' k->S k)/\BD J B S' p d n (LV C (xs.take 0)) P (FT N (xs.take 0)) w3/\AV w3 s d l p (JJ last (xs.take 0)) cur/\(JJ last (xs.take 0)).Len):=yH ⟨S,AC.refl _ _,λ_ _ h=>h,HG.out.below HB3.out,HX.out.below HB3.out,HK.out⟩
 go_loopw [38] (λi wr=>∃q:Nat,q<=m/\i=.int .i64 q/\Hid (∃S',AC (λk=>S k\/k=s) w3 wr/\(∀k,k<w3.heap.size->S' k->S k)/\BD J B S' p d n (LV C (xs.take q)) P (FT N (xs.take q)) wr/\AV wr s d l p (JJ last (xs.take q)) cur/\(JJ last (xs.take q)).Len)) (λi _=>m-(intOf i).toNat)
 case atStart=>exact⟨0,by omega,rfl,HI0⟩
 case round =>
  obtain⟨q,hq,rfl,hinv⟩:=hrel;obtain⟨S1,hk1,hs1,hJ1,hx1,hln1⟩:=hinv.out;clear hinv;have hs3:s<w3.heap.size:=Nat.lt_of_lt_of_le HX.out.lt HB3.out.size;have hS1:¬S1 s:=λhh=>HS.out (hs1 s hs3 hh)
  by_cases hlt:q<m
  ·have hlt1:q<rs.length:=by rw[<-HM.out];exact hlt
   have hlt2:q<xs.length:=by rw[<-HLEN.out];exact hlt1
   have hqn:(q:Int)<m:=by omega
   obtain⟨g,rfl,hBg,hgl,e0⟩:=(HL.out.below HB3.out).at hlt1;replace e0:=(World.cell?_of_block (hk1.block g hgl (λhh=>hh.elim (HLS.out g rfl).1 (HLS.out g rfl).2))).trans e0
   obtain⟨x1,z,t1,t2,t3,t4,t5⟩:=HT.out q hlt1 hlt2;obtain⟨r,hr⟩:∃r,r=rs[q]:=⟨_,rfl⟩;obtain⟨y,hy⟩:∃y,y=xs[q]:=⟨_,rfl⟩;rw[<-hr]at e0 t1;rw[<-hy]at t1 t2 t4 t5;have htk:xs.take (q+1)=xs.take q++[y]:=by rw[List.take_succ_eq_append_getElem hlt2,hy]
   have hC2:LV C (xs.take (q+1))=EE (LV C (xs.take q)) y.2:=by rw[htk];simp[LV]
   have hN2:FT N (xs.take (q+1))=FT N (xs.take q)+3*y.2.length:=by rw[htk];simp[FT]
   have hH2:JJ last (xs.take (q+1))=y.1:=by rw[htk];simp[JJ]
   have hNN:FT N (xs.take q)+3*y.2.length<=4398046511104:=by
    have h1:=AT4 N (xs.take (q+1)) (xs.drop (q+1));rw[List.take_append_drop,hN2]at h1;exact Nat.le_trans h1 HN.out
   have HNX:=yH (And.intro hC2 (And.intro hN2 hH2));have HA:=yH (AF8 r y.1 x1 z y.2 wr t1 t2 t3 t4);have hfl:y.1.Len:=by have:=OW (r.data.toList,false);rw[t1]at this;exact this
   obtain⟨fl,hfe⟩:∃fl,fl=y.1.cells:=⟨_,rfl⟩;rw[<-hfe]at HA;have HS1:Hid ((Tryz.prog.info? 37).map (·.size)=some fl.length):=yH (by rw[hfe];exact hfl.size')
   have HS2:Hid ((Tryz.prog.info? 37).map (·.size)=some fl.toArray.size):=yH (by rw[hfe];exact hfl.size)
   have HA2:Hid (fl.toArray.all (·.oneCell')=true):=yH (by rw[hfe];exact Hd.all_one _)
   have HT2:Hid (∀W:World,(W.alloc (.cells Z 37)).there W.heap.size 0 fl.toArray.size):=yH (λW=>by
    have:=HZT.out W
    have e:fl.toArray.size=Z.size:=by rw[HZ.out,hfe,List.size_toArray,List.size_toArray,hfl.cells,Hd.zero_len.cells]
    rw[e];exact this)
   have HP2:Hid (∀W:World,BY ((W.alloc (.cells Z 37)).setCells W.heap.size 0 fl) W.heap.size y.1/\AC (λj=>j=W.heap.size) (W.alloc (.cells Z 37)) ((W.alloc (.cells Z 37)).setCells W.heap.size 0 fl)):=yH (λW=>by
    have:=(BY.new W Hd.zero).put Hd.zero_len hfl
    rw[<-HZ.out]at this;rw[hfe];exact this)
   have HAP:Hid (∀(w5:World) (v':Value),Below wr.heap.size wr w5->BP wr.heap.size w5 v' y.2->Calls Tryz.prog 95 #[.pointer (some ⟨s,1,none⟩),.agg fl.toArray,v'] w5 (N7 J B S1 s d l p n (LV C (xs.take q)) P (FT N (xs.take q)) y.1 cur y.2 w5)):=yH (λw5 v' hb5 hp5=>by
    rw[hfe];refine VO J B S1 s d l p n _ P _ _ y.1 cur v' y.2 wr.heap.size w5 (hx1.below hb5) hln1 hfl hS1 (hJ1.below hb5) hp5 (λb hb hh=>?_) t5 HP.out hNN HCL.out
    have h1:=(World.ownsRow.lt hp5 b hb).1;have h2:=(hJ1.low b hh).2;omega)
   have HFL:=yH hfl;have HK1:=yH (And.intro hk1 hs1);clear hr hy htk hC2 hN2 hH2 hNN t1 t2 t3 t4 t5 hfl hfe hk1 hs1 hJ1 hx1 hln1 hBg hgl hlt1 hlt2;go_wp2_with fail;refine HA.out.mono ?_;rintro e w4 ⟨v',rfl,hp4,hb4⟩;obtain⟨w5,hw5⟩:∃w5,w5=(w4.alloc (.cells Z 37)).setCells w4.heap.size 0 fl:=⟨_,rfl⟩;have HW5:=yH hw5.symm;obtain⟨hv5,hk5⟩:=HP2.out w4;rw[<-hw5]at hv5 hk5;have hb45:Below w4.heap.size w4 w5:=((Below.refl _ w4).alloc (Nat.le_refl _) _).trans (hk5.toBelow (by simp) (λi hi=>by omega))
   have hb5:Below wr.heap.size wr w5:=hb4.trans (hb45.mono hb4.size);have HAQ:=yH (HAP.out w5 v' hb5 (hp4.below hb45));have HRG:Hid (w5.rangeAt w4.heap.size 0 fl):=yH (by
    rw[hw5];exact World.rangeAt_setCells_same _ _ _ _ (by have:=HT2.out w4;rw[List.size_toArray]at this;exact this))
   have HB5:=yH hb5;clear hp4 hb4 hw5 hv5 hk5 hb45 hb5;go_wp2_with (first
    | (refine BK rfl _ (HEX.out _ _ rfl _) ?_)
    | (refine wpList_store_mid rfl 37 _ _ rfl w4.heap.size 0 fl.toArray (by rfl) (by rfl) (HT2.out w4) HS2.out HA2.out ?_;rw[List.toList_toArray,HW5.out])
    | (refine wpList_load_mid rfl 37 _ rfl w4.heap.size 0 (by rfl) fl _ HRG.out Tryz.underlying37 rfl HS1.out ?_))
   refine HAQ.out.mono ?_;rintro e w6 ⟨rfl,S6,hk6,hs6,hJ6,hx6⟩;have HEND:Hid (∃S',AC (λk=>S k\/k=s) w3 w6/\(∀k,k<w3.heap.size->S' k->S k)/\BD J B S' p d n (LV C (xs.take (q+1))) P (FT N (xs.take (q+1))) w6/\AV w6 s d l p (JJ last (xs.take (q+1))) cur/\(JJ last (xs.take (q+1))).Len):=yH (by
    rw[HNX.out.1,HNX.out.2.1,HNX.out.2.2];have hk35:=HK1.out.1.trans (AC.ofBelow (S:=λk=>S1 k\/k=s) HB5.out) (λi hi=>by
     by_cases hi3:i<w3.heap.size
     ·exact .inl (hi.imp (HK1.out.2 i hi3) id)
     ·exact .inr (by omega))
    refine⟨S6,hk35.trans hk6 (λi hi=>?_),λk hk hh=>HK1.out.2 k hk (hs6 k (Nat.lt_of_lt_of_le hk hk35.size) hh),hJ6,hx6,HFL.out⟩
    by_cases hi3:i<w3.heap.size
    ·exact .inl (hi.imp (HK1.out.2 i hi3) id)
    ·exact .inr (by omega))
   clear hk6 hs6 hJ6 hx6;go_wp2;go_roundw
   case rel=>exact⟨q+1,by omega,by go_num,HEND⟩
   case measure=>simp[intOf];omega
  ·obtain rfl:q=m:=by omega
   have HE:Hid (XZ J B S s d l p n C P N last cur xs w wr):=yH (by
    have e:xs.take q=xs:=by rw[HM.out,HLEN.out,List.take_length]
    rw[e]at hJ1 hx1;exact⟨S1,(AC.ofBelow (S:=λk=>S k\/k=s) HB3.out).trans hk1 (λ_ hi=>.inl hi),λk hk hh=>hs1 k (Nat.lt_of_lt_of_le hk HB3.out.size) hh,hJ1,hx1⟩)
   clear hk1 hs1 hJ1 hx1 hln1;go_wp2;go_end0
   exact⟨rfl,HE.out⟩
def ES (d l p:Nat):List Value:=[.pointer (some ⟨d,0,none⟩),.pointer (some ⟨l,0,none⟩),.pointer (some ⟨p,0,none⟩)]++Hd.zero.cells++[.pointer none]
theorem AE6 (d l p:Nat):Tryz.prog.built 53 [(0,.pointer (some ⟨d,0,none⟩)),(1,.pointer (some ⟨l,0,none⟩)),(2,.pointer (some ⟨p,0,none⟩))]=some (ES d l p).toArray:=by kernel_rfl
theorem AE7 (d l p:Nat):Tryz.prog.built 55 [(1,.agg (ES d l p).toArray)]=some (Value.pointer none::ES d l p).toArray:=by kernel_rfl
theorem AS0 (W:World)(d l p:Nat):AV (W.alloc (.cells (Value.pointer (some ⟨W.heap.size,0,none⟩)::ES d l p).toArray 55)) W.heap.size d l p Hd.zero none:=by
 have hg:=heap_alloc_new W (.cells (Value.pointer (some ⟨W.heap.size,0,none⟩)::ES d l p).toArray 55);have hc:∀i v,(Value.pointer (some ⟨W.heap.size,0,none⟩)::ES d l p)[i]? = some v->(W.alloc (.cells (Value.pointer (some ⟨W.heap.size,0,none⟩)::ES d l p).toArray 55)).cell? ⟨W.heap.size,i,none⟩=some v:=λi v hi=>by
  rw[yC hg,List.getElem?_toArray];exact hi
 refine⟨hc 0 _ rfl,hc 1 _ rfl,hc 2 _ rfl,hc 3 _ rfl,λj v hj=>?_,hc 85 _ rfl,λj=>Lib.frozen_of_heap hg _⟩
 refine hc (4+j) v ?_;have hjl:=(List.getElem?_eq_some_iff.1 hj).1;rw[show 4+j=(3+j)+1 by omega,List.getElem?_cons_succ,ES,List.append_assoc,List.getElem?_append_right (by simp),List.getElem?_append_left (by simp;omega)]
 simpa using hj
def AG4 (J:List AD->Prop)(B:Nat)(S:Nat->Prop)(d n:Nat)(C:Nat->List UInt8)(N:Nat)(xs:List (Hd × List Pt))(w:World)(e:Ending)(w':World):Prop :=
 ∃s l p S',e=.returned (.tuple #[.pointer (some ⟨s,0,none⟩),.int .i64 0])/\(w.heap.size<=s/\w.heap.size<=l/\l≠s/\¬S' s/\¬S' l)/\CW l d w'/\AV w' s d l p (JJ Hd.zero xs) none/\BD J B S' p d n (LV C xs) (λ_=>0) (FT N xs) w'/\AC S w w'/\∀k,k<w.heap.size->S' k->S k
theorem ZV (J:List AD->Prop)(B d n N:Nat)(S:Nat->Prop)(ops:List AD)(rs:List ByteArray)(xs:List (Hd × List Pt))(w:World)(h:AT S d ops w)(hS:∀k,S k->B<=k/\k<w.heap.size)(hp:BN ops 0=DO rs)(hrs:GL rs)(h1:4<=n)(h2:n<=1024)(hNo:ops.length<=N)(hJ:J ops)
  (hlen:rs.length=xs.length) (hx:∀i (h1:i<rs.length) (h2:i<xs.length),RA rs[i] xs[i]) (hN:FT N xs<=4398046511104)
  (hcl:∀ops q bs,J ops->J (ops++[.put 1 (q*512) bs])) (hJ2:∀ops,J ops->(rHd (BN ops 2,false)).2.2=true) :
  Calls Tryz.prog 9 #[.pointer (some ⟨d,0,none⟩),.int .i64 n] w (AG4 J B S d n (λq=>BT (BN ops 1) q) N xs w):=by
 have HO:=yH (BQ9 S d ops rs w h hp hrs);have HPN:Hid (∀w1,Below w.heap.size w w1->Calls Tryz.prog 46 #[.pointer (some ⟨d,0,none⟩),.int .i64 n] w1 λe w'=>∃p S',e=.returned (.tuple #[.pointer (some ⟨p,0,none⟩),.int .i64 0])/\BD J B S' p d n (λq=>BT (BN ops 1) q) (λ_=>0) N w'/\Below w1.heap.size w1 w'/\S' p/\(∀k,S k->S' k)/\∀k,k<w1.heap.size->S' k->S k):=yH (λw1 hb=>BX5 J B d n N S ops w1 (h.below hb) (λk hk=>⟨(hS k hk).1,Nat.lt_of_lt_of_le (hS k hk).2 hb.size⟩) (by omega) h2 hNo hJ)
 have HRS:Hid (∀(S1:Nat->Prop) (s l p:Nat) (v:Value) (W:World),AV W s d l p Hd.zero none->¬S1 s->BD J B S1 p d n (λq=>BT (BN ops 1) q) (λ_=>0) N W->I8 w.heap.size W v rs->(∀b,v.ownBlock=some b->¬S1 b/\b≠s)->Calls Tryz.prog 47 #[.pointer (some ⟨s,1,none⟩),v] W λe w'=>e=.returned (.tuple #[])/\XZ J B S1 s d l p n (λq=>BT (BN ops 1) q) (λ_=>0) N Hd.zero none xs W w'):=yH (λS1 s l p v W g1 g2 g3 g4 g5 =>
  Z8 J B S1 s d l p n _ _ N Hd.zero none v rs xs w.heap.size W g1 Hd.zero_len g2 g3 g4 g5 hlen hx (by rw[MW (λ_=>rfl)];omega) hN hcl hJ2)
 have hSl:Hid (∀k,S k->k<w.heap.size):=yH (λk hk=>(hS k hk).2)
 have hn4:¬((n:Int)<4):=by omega
 clear h hS hp hrs h1 h2 hNo hJ hlen hx hN hcl hJ2;go_enter Tryz.func9,Tryz.ntmps9;go_wp2_with fail;refine HO.out.mono ?_;rintro e w1 ⟨v,rfl,hlog,hst,hb1⟩;have HP1:=yH (HPN.out w1 hb1);have HLG:=yH hlog;have HST:=yH hst;have HB1:=yH hb1
 clear hlog hst hb1;go_wp2_with fail;refine HP1.out.mono ?_;rintro e w2 ⟨p,S1,rfl,hJ2,hb2,hSp,hS1,hS2⟩;obtain⟨X,hX⟩:∃X:Array Value,X=(ES d w.heap.size p).toArray:=⟨_,rfl⟩;obtain⟨Y,hY⟩:∃Y:Array Value,Y=(Value.pointer none::ES d w.heap.size p).toArray:=⟨_,rfl⟩;have hbX:=AE6 d w.heap.size p;have hbY:=AE7 d w.heap.size p;have hsp:=AS0 w2 d w.heap.size p;rw[<-hX]at hbX hbY;rw[<-hY]at hbY;have hY0:Y[0]? = some (.pointer none):=by rw[hY];rfl
 have hYY:Y.setIfInBounds 0 (.pointer (some ⟨w2.heap.size,0,none⟩))=(Value.pointer (some ⟨w2.heap.size,0,none⟩)::ES d w.heap.size p).toArray:=by rw[hY];simp
 rw[<-hYY]at hsp;obtain⟨w4,hw4⟩:∃w4,w4=w2.alloc (.cells (Y.setIfInBounds 0 (.pointer (some ⟨w2.heap.size,0,none⟩))) 55):=⟨_,rfl⟩;rw[<-hw4]at hsp;have hb4:Below w2.heap.size w2 w4:=by rw[hw4];exact (Below.refl _ w2).alloc (Nat.le_refl _) _
 have hlt1:w.heap.size<w1.heap.size:=HLG.out.lt;have hRR:=HRS.out S1 w2.heap.size w.heap.size p v w4 hsp (λhh=>by have:=(hJ2.low _ hh).2;omega) (hJ2.below hb4) ((HST.out.below hb2).below hb4) (λb hb=>by
  have h1:=World.ownsRow.lt HST.out b hb;have h2:=hb2.size;exact⟨λhh=>by have:=hSl.out b (hS2 b h1.2 hh);omega,by omega⟩)
 have HRR:=yH hRR;have HBX:=yH hbX;have HBY:=yH hbY;have HW4:=yH hw4.symm
 have HIN:Hid (Below w1.heap.size w1 w2/\Below w2.heap.size w2 w4/\(∀k,k<w1.heap.size->S1 k->S k)/\(∀k,S1 k->k<w2.heap.size)):=yH ⟨hb2,hb4,hS2,λk hk=>(hJ2.low k hk).2⟩
 clear hJ2 hb2 hSp hS1 hS2 hX hY hYY hbX hbY hsp hw4 hb4 hRR;go_wp2_with (first
  | (refine BK rfl (.agg X) (CT rfl _ (by simp[go_sem]) X HBX.out _) ?_)
  | (refine BK rfl (.agg Y) (CT rfl _ (by simp[go_sem]) Y HBY.out _) ?_))
 rw[HW4.out];refine HRR.out.mono ?_;rintro e w5 ⟨rfl,S5,hk5,hs5,hJ5,hx5⟩;have HE:Hid (AG4 J B S d n (λq=>BT (BN ops 1) q) N xs w (.returned (.tuple #[.pointer (some ⟨w2.heap.size,0,none⟩),.int .i64 0])) w5):=yH (by
  obtain⟨i1,i2,i3,i4⟩:=HIN.out;have z1:=HB1.out.size;have z2:=i1.size;have z4:=i2.size;have hz4:w2.heap.size<w4.heap.size:=by have:=hx5.lt;have:=hk5.size;rw[<-HW4.out];simp
  have hnl:¬S1 w.heap.size:=λhh=>by have:=hSl.out _ (i3 _ hlt1 hh);omega
  refine⟨w2.heap.size,w.heap.size,p,S5,rfl,⟨by omega,Nat.le_refl _,by omega,λhh=>?_,λhh=>hnl (hs5 _ (by omega) hh)⟩,(((HLG.out.below i1).below i2).kept hk5 (λhh=>hh.elim hnl (by omega))),hx5,hJ5,?_,λk hk hh=>i3 k (by omega) (hs5 k (by omega) hh)⟩
  ·have:=i4 _ (hs5 _ hz4 hh)
   omega
  ·refine (((AC.ofBelow (S:=S) HB1.out).trans (AC.ofBelow (S:=S) i1) (λ_ hi=>.inl hi)).trans (AC.ofBelow (S:=S) i2) (λ_ hi=>.inl hi)).trans hk5 (λi hi=>?_)
   rcases hi with hi|hi
   ·by_cases hi1:i<w1.heap.size
    ·exact .inl (i3 i hi1 hi)
    ·exact .inr (by omega)
   ·exact .inr (by omega))
 clear hk5 hs5 hJ5 hx5;go_wp2;go_ret2;exact HE.out
def JL (rs:List ByteArray)(f2:List UInt8)(ops:List AD):Prop:=BN ops 0=DO rs/\BN ops 2=f2
theorem JL.save {rs:List ByteArray}{f2:List UInt8}(ops:List AD)(q:Nat)(bs:ByteArray)(h:JL rs f2 ops):JL rs f2 (ops++[.put 1 (q*512) bs]):=by
 unfold JL at h ⊢
 rw[F3,AD.run,AA _ _ (by omega),AA _ _ (by omega)]
 exact h
theorem JL.append {rs:List ByteArray}{f2:List UInt8}{ops:List AD}(h:JL rs f2 ops)(r:ByteArray) :
  JL (rs++[r]) f2 (ops++[.put 0 (DO rs).length ⟨(frm r (rs.length+1)).toArray⟩])/\BN (ops++[.put 0 (DO rs).length ⟨(frm r (rs.length+1)).toArray⟩]) 1=BN ops 1:=by
 unfold JL at h ⊢
 rw[F3,AD.run,AB,AA _ _ (by omega),AA _ _ (by omega),h.1,BD4,T3]
 exact⟨⟨rfl,h.2⟩,rfl⟩
def AQ6 (B:Nat)(S:Nat->Prop)(s d l p n:Nat)(C:Nat->List UInt8)(P:Nat->Nat)(N:Nat)(rs:List ByteArray)(f2:List UInt8)(h':Hd)(cur:Option Nat)(ps:List Pt)(w w':World):Prop :=
 ∃S',AC (λk=>S k\/k=s) w w'/\(∀k,k<w.heap.size->S' k->S k)/\BD (JL (rs++[⟨(EI h' ps).toArray⟩]) f2) B S' p d n (EE C ps) P (N+1+3*ps.length) w'/\AV w' s d l p h' cur
theorem U5 (B:Nat)(S:Nat->Prop)(s d l p n:Nat)(C:Nat->List UInt8)(P:Nat->Nat)(N:Nat)(rs:List ByteArray)(f2:List UInt8)(last h':Hd)(cur:Option Nat)(v:Value)(ps:List Pt)(Bp:Nat)(w:World)
  (x:AV w s d l p last cur) (k:last.Len) (k':h'.Ok) (hs:¬S s) (lg:CW l d w) (hl:¬S l) (g:BD (JL rs f2) B S p d n C P N w) (hpt:BP Bp w v ps) (hpS:∀b,v.ownBlock=some b->¬S b) (hf:∀p ∈ ps,p.Fits) (hsz:(EI h' ps).length<=16777216)
  (hrs:GL rs) (hc:C4 rs ⟨(EI h' ps).toArray⟩=0) (hP:DF P≠n) (hN:N+1+3*ps.length<=4398046511104) :
  Calls Tryz.prog 58 #[.pointer (some ⟨s,1,none⟩),.agg h'.cells.toArray,v] w λe w'=>e=.returned (.int .i64 0)/\AQ6 B S s d l p n C P N rs f2 h' cur ps w w':=by
 obtain⟨fl,hfl⟩:∃fl,fl=h'.cells:=⟨_,rfl⟩;obtain⟨w1,hw1⟩:∃w1,w1=w.alloc (.cells fl.toArray 37):=⟨_,rfl⟩;have hb1:Below w.heap.size w w1:=by rw[hw1];exact (Below.refl _ _).alloc (Nat.le_refl _) _
 have hv1:BY w1 w.heap.size h':=by rw[hw1,hfl];exact BY.new w h'
 have hbx:¬S w.heap.size:=λhh=>by have:=(g.low _ hh).2;omega
 have HS1:Hid ((Tryz.prog.info? 37).map (·.size)=some fl.length):=yH (by rw[hfl];exact k'.len.size')
 have HRC:Hid (Calls Tryz.prog 104 #[.agg fl.toArray,v] w1 λe w'=>e=.returned (.string ⟨(EI h' ps).toArray⟩)/\Below w1.heap.size w1 w'):=yH (by
  rw[hfl];exact V6 Bp h' v ps w1 k' (hpt.below hb1) hsz (λp hp=>by have:=hf p hp;exact⟨by have:=this.1;omega,by have:=this.2;omega⟩))
 obtain⟨r,hr⟩:∃r:ByteArray,r=⟨(EI h' ps).toArray⟩:=⟨_,rfl⟩;rw[<-hr]at HRC hc;have HRG:Hid (∀W,Below w1.heap.size w1 W->W.rangeAt w.heap.size 0 fl):=yH (λW hb=>by rw[hfl];exact (hv1.block (hb.block _ hv1.lt)).1)
 have HAP:Hid (∀W,Below w1.heap.size w1 W->Calls Tryz.prog 105 #[.pointer (some ⟨l,0,none⟩),.string r] W λe w'=>e=.returned (.int .i64 0)/\w'.rangeAt w.heap.size 0 fl /\
   Calls Tryz.prog 95 #[.pointer (some ⟨s,1,none⟩),.agg fl.toArray,v] w' λe w''=>e=.returned (.tuple #[])/\AQ6 B S s d l p n C P N rs f2 h' cur ps w w''):=yH (λW hb=>by
  have hbW:Below w.heap.size w W:=hb1.trans (hb.mono hb1.size);have gW:=g.below hbW;obtain⟨Sd,ops,hJ,hD,hSd,hol,hmk⟩:=gW.disk;refine (AB9 l d Sd ops rs r W hD (lg.below hbW) (λhh=>hl (hSd _ hh)) hJ.1 hrs (by omega)).mono ?_
  rintro e w' ⟨rfl,S2,ops',hD2,ho,hK,hS2⟩;rw[hc,if_pos rfl]at ho;obtain⟨j1,j2⟩:=hJ.append r;rw[<-ho]at j1 j2;obtain⟨S3,hT3,hJ3⟩:=hmk (JL (rs++[r]) f2) w' ops' S2 hD2 hK hS2 j2 (by rw[ho];simp) j1
  have hTw:AO S w S3 w':=(AO.ofBelow hbW).trans hT3;have hx':=x.kept hTw.1 hs;have hpt':BP Bp w' v ps:=AG hpt λb hb'=>hTw.1.block b (World.ownsRow.lt hpt b hb').2 (hpS b hb')
  have hvW:BY W w.heap.size h':=hv1.block (hb.block _ hv1.lt);have hv':BY w' w.heap.size h':=hvW.kept hT3.1 hbx;refine⟨by rw[hc],by rw[hfl];exact hv'.1,?_⟩
  rw[hfl];refine (VO (JL (rs++[r]) f2) B S3 s d l p n C P (N+1) last h' cur v ps Bp w' hx' k k'.len (hTw.not x.lt hs) hJ3 hpt' (λb hb'=>hTw.not (World.ownsRow.lt hpt b hb').2 (hpS b hb')) hf hP hN (λops q bs hj=>JL.save ops q bs hj)).mono ?_
  rintro e w'' ⟨rfl,S4,hk4,hs4,hJ4,hx4⟩;rw[hr]at hJ4;refine⟨rfl,S4,hTw.1.mono (T:=λk=>S k\/k=s) (λ_ hi=>.inl hi) |>.trans hk4 (λi hi=>?_),λk hk hh=>hTw.2 k hk (hs4 k (Nat.lt_of_lt_of_le hk hTw.1.size) hh),hJ4,hx4⟩
  by_cases hi1:i<w.heap.size
  ·exact .inl (hi.imp (hTw.2 i hi1) id)
  ·exact .inr (by omega))
 have HLG:Hid (∀W,Below w1.heap.size w1 W->W.cell? ⟨s,2,none⟩=some (.pointer (some ⟨l,0,none⟩))):=yH (λW hb=>(x.below (hb1.trans (hb.mono hb1.size))).lg)
 have HW1:=yH hw1.symm;rw[<-hfl];have hrg1:=HRG.out w1 (Below.refl _ _);rw[hw1]at hrg1;have HRG1:=yH hrg1;clear hfl hw1 hb1 hv1 hbx x k k' hs lg hl g hpt hpS hf hsz hrs hc hP hN hr hrg1;go_enter Tryz.func58,Tryz.ntmps58;go_wp2_with (refine wpList_load_mid rfl 37 _ rfl w.heap.size 0 (by rfl) fl _ HRG1.out Tryz.underlying37 rfl HS1.out ?_)
 rw[HW1.out];refine HRC.out.mono ?_;rintro e w2 ⟨rfl,hb2⟩;have hlg:=HLG.out w2 hb2;have HA:=yH (HAP.out w2 hb2);clear hb2;go_wp2_with fail;refine HA.out.mono ?_;rintro e w3 ⟨rfl,hrg,hap⟩;have HRG3:=yH hrg;have HA3:=yH hap
 clear hrg hap;go_wp2_with (refine wpList_load_mid rfl 37 _ rfl w.heap.size 0 (by rfl) fl _ HRG3.out Tryz.underlying37 rfl HS1.out ?_)
 refine HA3.out.mono ?_;rintro e w4 ⟨rfl,hend⟩;have HE:=yH hend;clear hend;go_wp2;go_ret;exact⟨rfl,HE.out⟩
end Go.Proofs.YtfbbjiidccbaiaaGreatDoor
