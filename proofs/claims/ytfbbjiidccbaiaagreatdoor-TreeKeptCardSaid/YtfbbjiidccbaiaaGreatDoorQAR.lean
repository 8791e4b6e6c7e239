/- Texts of one proof, one behind the other: WQ, YJ, YK, YL, YM, WH. -/
import Derived.Test.YtfbbjiidccbaiaaGreatDoorQAQ
import Derived.Test.YtfbbjiidccbaiaaGreatDoorQAH
import Derived.Test.YtfbbjiidccbaiaaGreatDoorQAA
import Derived.Lib.AppendZerosOnto
import Derived.Test.YtfbbjiidccbaiaaGreatDoorQAP
set_option maxRecDepth 100000
set_option maxHeartbeats 6400000
namespace Go.Proofs.YtfbbjiidccbaiaaGreatDoor
open Go.RowKit
section
variable {J:List AD->Prop} {B:Nat} {S:Nat->Prop} {c:Ac} {h:Hd} {G:Nat->List UInt8} {w:World} {tb r:Nat} {F:List En} {ps:List Nat} {U:List Nat}
def AQ3 (J:List AD->Prop)(B:Nat)(S:Nat->Prop)(c:Ac)(h:Hd)(G:Nat->List UInt8)(tb r:Nat)(ps:List Nat)(F:List En)(key val:ByteArray)(w:World)(e:Ending)(w2:World):Prop :=
 ∃(cb:Nat) (held:Bool),e=.returned (.tuple #[.pointer (some ⟨cb,0,none⟩),.bool held])/\held=A6 key.data.toList F /\
  ((h.root r=0/\held=false/\Calls Tryz.prog 78 #[.pointer (some ⟨cb,0,none⟩)] w2 λe w3=>e=.returned (.int .i64 0)/\∃xb at_ N cap arr,Hid (JB cb xb at_ N cap arr key.data.toList val.data.toList false (λZ=>Calls Tryz.prog 81 #[.pointer (some ⟨cb,0,none⟩)] Z λe w'=>e=.returned (.int .i64 0)/\CN J B S c h G tb r ps (CM key.data.toList val.data.toList F) w w') w3)) \/
  (h.root r≠0/\∃xb at_ N cap arr,Hid (JB cb xb at_ N cap arr key.data.toList val.data.toList held (λZ=>Calls Tryz.prog 81 #[.pointer (some ⟨cb,0,none⟩)] Z λe w'=>e=.returned (.int .i64 0)/\CN J B S c h G tb r ps (CM key.data.toList val.data.toList F) w w') w2)))
theorem BD2 (x:AU J B S c h G w)(ht:AH w tb c.a r)(htS:¬S tb)(hr16:r<16)(hC:∀q,(c.C q).length=512)(on:AY h G (h.root r) F ps)(hrm:CU h U 16)(key val:ByteArray)(hk:okL ⟨key.data.toList,val.data.toList⟩){W:World}(hb:Below w.heap.size w W){KA:Option Addr}{kc:Nat}(hK:AK W KA key.data.toList)(hKn:∀ad,KA=some ad->w.heap.size<=ad.block) :
  Calls Tryz.prog 77 #[.pointer (some ⟨tb,0,none⟩),.int .i64 (h.root r),.slice KA key.size kc] W (AQ3 J B S c h G tb r ps F key val w):=by
 have xW:=x.below hb;have htW:=ht.below hb;have hKS:∀ad,KA=some ad->key.data.toList≠[]->¬S ad.block:=λad ha _ hs=>by have:=(x.low _ hs).2;have:=hKn ad ha;omega
 have hkn:key.data.toList.length=key.size:=rfl;rcases on.is with⟨rfl,h0,rfl⟩|⟨m,t,hr,ho,rfl,hpg,rfl,hrep⟩
 ·rw[h0];refine (OI (kc:=kc) xW htW htS hkn hK).mono ?_;rintro e w2 ⟨cb,mb,wv,s,above,y,rfl,B0,e1,e2⟩;refine⟨cb,false,rfl,rfl,.inl ⟨h0,rfl,?_⟩⟩;refine (BQ6 B0 rfl (U:=U) (k:=15) (by rw[e1];exact hrm)).mono ?_
  rintro e w3 ⟨rfl,hp⟩;have hp2:=AT6 B0 hr16 hC (by rw[e1];exact hrm) hk hp
  refine⟨rfl,y.blk,0,0,0,none,yH (hp2.mono λZ hZ=>?_)⟩
  refine Calls.mono hZ λe w' h=>⟨h.1,?_⟩
  have h2:=h.2;rw[e1,e2]at h2;exact h2.older hb
 ·have st:EY h G t:=⟨hr,ho,hrep,on.nodup⟩;have hL:m<=12:=hr.level on.nodup λq hq=>(x.has_lt (st.has q hq)).2
  have hne:h.root r≠0:=by rw[<-hpg];have:=(x.has_lt (st.has _ (AS t))).1;omega
  rw[<-hpg];refine (U9 (kc:=kc) xW htW htS st hkn hK hKS (by omega)).mono ?_
  rintro e w2 ⟨cb,mb,wv,s,b,above,sts,rfl,B1,e1,e2⟩;obtain⟨xb,at_,N,cap,arr,hp,hbt⟩:=B1.putEnd (by rw[e1,e2];exact st) hr16 hC (by rw[e1];exact hrm) hk
  refine⟨cb,b,rfl,hbt,.inr ⟨hne,xb,at_,N,cap,arr,yH (hp.mono λZ hZ=>?_)⟩⟩
  refine Calls.mono hZ λe w' h=>⟨h.1,?_⟩
  have h2:=h.2;rw[e1,e2]at h2;exact h2.older hb
def BU6 (J:List AD->Prop)(B:Nat)(S:Nat->Prop)(c:Ac)(h:Hd)(G:Nat->List UInt8)(tb r:Nat)(ps:List Nat)(F:List En)(key val:ByteArray)(w:World)(e:Ending)(w':World):Prop :=
 e=.returned (.tuple #[.bool !(A6 key.data.toList F),.int .i64 0])/\CN J B S c h G tb r ps (CM key.data.toList val.data.toList F) w w'
theorem BD0 (x:AU J B S c h G w)(ht:AH w tb c.a r)(htS:¬S tb)(hr16:r<16)(hC:∀q,(c.C q).length=512)(on:AY h G (h.root r) F ps)(hrm:CU h U 16)(key val:ByteArray)(hk1:1<=key.size)(hk2:key.size<=96)(hv:val.size<=32) :
  Calls Tryz.prog 35 #[.pointer (some ⟨tb,0,none⟩),.string key,.string val] w (BU6 J B S c h G tb r ps F key val w):=by
 have HTOP:=yH (F9 x ht hr16);have hk:okL ⟨key.data.toList,val.data.toList⟩:=⟨by show 0<key.data.toList.length;rw[Array.length_toList];exact hk1,hk2,hv⟩
 have HGO:Hid (∀k,∃kc W,(convert 9 102 (.string key)).run Tryz.prog (w.drewN k)=.ok (.slice (some ⟨w.heap.size,0,none⟩) key.size kc) W/\Hid (Calls Tryz.prog 77 #[.pointer (some ⟨tb,0,none⟩),.int .i64 (h.root r),.slice (some ⟨w.heap.size,0,none⟩) key.size kc] W (AQ3 J B S c h G tb r ps F key val w))):=yH λk=>by
  obtain⟨kc,W,h1,h2,h3⟩:=CQ w (w.drewN k) key (AF w k).size (by omega)
  obtain⟨A,c2,e1,_,_,h4,h5⟩:=h2;injection e1 with e1 _ e3
  subst e1;exact⟨kc,W,h1,yH (BD2 x ht htS hr16 hC on hrm key val hk ((AF w k).trans (h3.mono (AF w k).size)) h4 h5)⟩
 obtain⟨rt,hrt⟩:∃rt,rt=h.root r:=⟨_,rfl⟩;rw[<-hrt]at HTOP HGO;have HRT:=yH hrt;have f1:¬key.toList=[]:=λe=>by
  rw[ByteArray.toList_eq]at e;have:key.size=0:=by
   have:=congrArg List.length e
   rw[Array.length_toList]at this;exact this
  omega
 have f1':key.toList.isEmpty=false:=by
  cases hb:key.toList.isEmpty with
  | false=>rfl
  | true=>exact absurd (List.isEmpty_iff.1 hb) f1
 have f2:decide ((96:Int)<(key.size:Int))=false:=decide_eq_false (by omega)
 have f3:decide ((32:Int)<(val.size:Int))=false:=decide_eq_false (by omega)
 have f4:¬(96:Int)<(key.size:Int):=by omega
 have f5:¬(32:Int)<(val.size:Int):=by omega
 clear x ht htS hC on hrm hk hrt;go_enter Tryz.func35,Tryz.ntmps35;go_wp2_with fail;refine HTOP.out.mono ?_;rintro e w1 ⟨rfl,k,rfl⟩;obtain⟨kc,W,hcv,HCH⟩:=HGO.out k;clear HTOP HGO;go_wp2_with fail;refine HCH.out.mono ?_;rintro e w2 ⟨cb,held,rfl,hheld,hcase⟩;have HHE:=yH hheld;clear hcv HCH hheld;rw[<-HRT.out]at hcase;rcases hcase with⟨rfl,rfl,hpl⟩|⟨hne,xb,at_,N,cap,arr,HPE⟩
 ·have HPL:=yH hpl;clear hpl;go_wp2_with fail;refine HPL.out.mono ?_;rintro e w3 ⟨rfl,xb,at_,N,cap,arr,HPE⟩;clear HPL;go_wp2_with (go_at_call 79;refine (HPE.out.end_ _ (Below.refl _ _)).mono ?_;rintro e w4 ⟨rfl,hb4⟩)
  obtain⟨W5,hW5⟩:∃W5,W5=w4.alloc (.cells #[.pointer (some ⟨xb,0,none⟩),.int .i64 at_] 133):=⟨_,rfl⟩;obtain⟨sb,hsb⟩:∃sb,sb=w4.heap.size:=⟨_,rfl⟩;have HSP:Hid (∀W,Below W5.heap.size W5 W->Below w3.heap.size w3 W/\W.cell? ⟨sb,0,none⟩=some (.pointer (some ⟨xb,0,none⟩))/\W.cell? ⟨sb,1,none⟩=some (.int .i64 at_)/\W.cell? ⟨xb,2,none⟩=some (.slice arr N cap)):=yH (by rw[hW5,hsb];exact HPE.out.stepped hb4)
  rw[<-hW5,<-hsb];clear hb4 hW5 hsb;have HQ:Hid (∀W:World,(W.cell? ⟨sb,0,none⟩=some (.pointer (some ⟨xb,0,none⟩))/\W.cell? ⟨sb,1,none⟩=some (.int .i64 at_)/\W.cell? ⟨xb,2,none⟩=some (.slice arr N cap))->W.cell? ⟨sb,0,none⟩=some (.pointer (some ⟨xb,0,none⟩))/\W.cell? ⟨sb,1,none⟩=some (.int .i64 at_)/\W.cell? ⟨xb,2,none⟩=some (.slice arr N cap)):=yH λ_ h=>h
  have HS0:Hid (W5.drew.cell? ⟨sb,0,none⟩=some (.pointer (some ⟨xb,0,none⟩))/\W5.drew.cell? ⟨sb,1,none⟩=some (.int .i64 at_)/\W5.drew.cell? ⟨xb,2,none⟩=some (.slice arr N cap)):=yH (HSP.out _ (Below.refl _ _).drew).2;obtain⟨cA,XA,hcvA,hbnA,hbxA⟩:=CQ w3 W5.drew key (HSP.out W5.drew ((Below.refl W5.heap.size W5).drew)).1.size (by omega)
  have HXA:Hid (Below W5.heap.size W5 XA):=yH (AE ((Below.refl W5.heap.size W5).drew) hbxA);have HBNA:Hid (D3 w3 XA (.slice (some ⟨W5.heap.size,0,none⟩) key.size cA) key.data.toList):=yH hbnA;have HBXA:=yH hbxA;have HCVA:=yH hcvA;have HSA:=yH (HSP.out XA HXA.out).2;clear hcvA hbnA hbxA;obtain⟨cB,XB,hcvB,hbnB,hbxB⟩:=CQ w3 XA val (HSP.out XA HXA.out).1.size (by omega)
  have HXB:Hid (Below W5.heap.size W5 XB):=yH (AE HXA.out hbxB);have HBNB:Hid (D3 w3 XB (.slice (some ⟨XA.heap.size,0,none⟩) val.size cB) val.data.toList):=yH hbnB;have HBXB:=yH hbxB;have HCVB:=yH hcvB;have HSB:=yH (HSP.out XB HXB.out).2;clear hcvB hbnB hbxB;have HXE:Hid (Below W5.heap.size W5 (XB.alloc (.cells #[.slice (some ⟨W5.heap.size,0,none⟩) key.size cA,.slice (some ⟨XA.heap.size,0,none⟩) val.size cB] 135))):=yH (AE HXB.out ((Below.refl _ _).alloc (Nat.le_refl _) _));have HSE:=yH (HSP.out _ HXE.out).2;have HINE:=yH (HPE.out.new rfl _ XB.heap.size (.slice (some ⟨W5.heap.size,0,none⟩) key.size cA) (.slice (some ⟨XA.heap.size,0,none⟩) val.size cB) (HSP.out _ HXE.out).1 (heap_alloc_new XB _) ((HBNA.out.below HBXB.out).below ((Below.refl _ _).alloc (Nat.le_refl _) _)) (HBNB.out.below ((Below.refl _ _).alloc (Nat.le_refl _) _)));obtain⟨cC,XC,hcvC,hbnC,hbxC⟩:=CQ w3 W5.drew val (HSP.out W5.drew ((Below.refl W5.heap.size W5).drew)).1.size (by omega)
  have HXC:Hid (Below W5.heap.size W5 XC):=yH (AE ((Below.refl W5.heap.size W5).drew) hbxC);have HBNC:Hid (D3 w3 XC (.slice (some ⟨W5.heap.size,0,none⟩) val.size cC) val.data.toList):=yH hbnC;have HBXC:=yH hbxC;have HCVC:=yH hcvC;have HSC:=yH (HSP.out XC HXC.out).2;clear hcvC hbnC hbxC;obtain⟨cD,XD,hcvD,hbnD,hbxD⟩:=CQ w3 XC key (HSP.out XC HXC.out).1.size (by omega)
  have HXD:Hid (Below W5.heap.size W5 XD):=yH (AE HXC.out hbxD);have HBND:Hid (D3 w3 XD (.slice (some ⟨XC.heap.size,0,none⟩) key.size cD) key.data.toList):=yH hbnD;have HBXD:=yH hbxD;have HCVD:=yH hcvD;have HSD:=yH (HSP.out XD HXD.out).2;clear hcvD hbnD hbxD;have HXF:Hid (Below W5.heap.size W5 (XD.alloc (.cells #[.slice (some ⟨XC.heap.size,0,none⟩) key.size cD,.slice (some ⟨W5.heap.size,0,none⟩) val.size cC] 135))):=yH (AE HXD.out ((Below.refl _ _).alloc (Nat.le_refl _) _));have HSF:=yH (HSP.out _ HXF.out).2;have HINF:=yH (HPE.out.new rfl _ XD.heap.size (.slice (some ⟨XC.heap.size,0,none⟩) key.size cD) (.slice (some ⟨W5.heap.size,0,none⟩) val.size cC) (HSP.out _ HXF.out).1 (heap_alloc_new XD _) (HBND.out.below ((Below.refl _ _).alloc (Nat.le_refl _) _)) ((HBNC.out.below HBXD.out).below ((Below.refl _ _).alloc (Nat.le_refl _) _)));clear HBNA HBNB HBNC HBND HBXA HBXB HBXC HBXD HXA HXB HXC HXD;go_wp2;refine BS (S:=λW=>W.cell? ⟨sb,0,none⟩=some (.pointer (some ⟨xb,0,none⟩))/\W.cell? ⟨sb,1,none⟩=some (.int .i64 at_)/\W.cell? ⟨xb,2,none⟩=some (.slice arr N cap)) [18] (by kernel_rfl) ?_
  refine AJ.take (i:=0) (v:=.pointer (some ⟨sb,0,none⟩)) rfl (by kernel_rfl) (by kernel_rfl) (by kernel_rfl) (by kernel_rfl) (λ_ _ _ h=>h) (Or.inl ⟨by rfl,λW hW=>by go_simp⟩) HS0.out ?_
  refine AJ.take (i:=1) (v:=.pointer (some ⟨xb,0,none⟩)) rfl (by kernel_rfl) (by kernel_rfl) (by kernel_rfl) (by kernel_rfl) (λ_ _ _ h=>h) (Or.inl ⟨by rfl,λW hW=>by have x1:=(HQ.out W hW).1;clear hW;go_simp⟩) HS0.out ?_
  refine AJ.take (i:=2) (v:=.pointer (some ⟨sb,0,none⟩)) rfl (by kernel_rfl) (by kernel_rfl) (by kernel_rfl) (by kernel_rfl) (λ_ _ _ h=>h) (Or.inl ⟨by rfl,λW hW=>by go_simp⟩) HS0.out ?_
  refine AJ.take (i:=3) (v:=.pointer (some ⟨xb,0,none⟩)) rfl (by kernel_rfl) (by kernel_rfl) (by kernel_rfl) (by kernel_rfl) (λ_ _ _ h=>h) (Or.inl ⟨by rfl,λW hW=>by have x1:=(HQ.out W hW).1;clear hW;go_simp⟩) HS0.out ?_
  refine AJ.take (i:=4) (v:=.pointer (some ⟨xb,0,none⟩)) rfl (by kernel_rfl) (by kernel_rfl) (by kernel_rfl) (by kernel_rfl) (λ_ _ _ h=>h) (Or.inl ⟨by rfl,λW hW=>by go_simp⟩) HS0.out ?_
  refine AJ.take (i:=5) (v:=.pointer (some ⟨xb,2,none⟩)) rfl (by kernel_rfl) (by kernel_rfl) (by kernel_rfl) (by kernel_rfl) (λ_ _ _ h=>h) (Or.inl ⟨by rfl,λW hW=>by go_simp⟩) HS0.out ?_
  refine AJ.take (i:=6) (v:=.slice arr N cap) rfl (by kernel_rfl) (by kernel_rfl) (by kernel_rfl) (by kernel_rfl) (λ_ _ _ h=>h) (Or.inl ⟨by rfl,λW hW=>by have x1:=(HQ.out W hW).2.2;clear hW;go_simp⟩) HS0.out ?_
  refine AJ.take (i:=7) (v:=.pointer (some ⟨sb,1,none⟩)) rfl (by kernel_rfl) (by kernel_rfl) (by kernel_rfl) (by kernel_rfl) (λ_ _ _ h=>h) (Or.inl ⟨by rfl,λW hW=>by go_simp⟩) HS0.out ?_
  refine AJ.take (i:=8) (v:=.int .i64 at_) rfl (by kernel_rfl) (by kernel_rfl) (by kernel_rfl) (by kernel_rfl) (λ_ _ _ h=>h) (Or.inl ⟨by rfl,λW hW=>by have x1:=(HQ.out W hW).2.1;clear hW;go_simp⟩) HS0.out ?_
  refine AJ.take (i:=9) (v:=.string key) rfl (by kernel_rfl) (by kernel_rfl) (by kernel_rfl) (by kernel_rfl) (λ_ _ _ h=>h) (Or.inl ⟨by rfl,λW hW=>by go_simp⟩) HS0.out ?_
  refine AJ.take (i:=11) (v:=.string val) rfl (by kernel_rfl) (by kernel_rfl) (by kernel_rfl) (by kernel_rfl) (λ_ _ _ h=>h) (Or.inl ⟨by rfl,λW hW=>by go_simp⟩) HS0.out ?_
  refine AJ.ready (rs:=[10,12]) (by kernel_rfl) (by simp) ?_
  refine AI.cons rfl (λK' hK=>?_) (AI.cons rfl (λK' hK=>?_) AI.nil)
  ·clear HINF HSF;have hcv:=HCVA.out;go_simp
   clear hcv;refine hK.out _ _ (λ_=>HSA.out) ?_
   clear hK K';refine AJ.ready (rs:=[12]) (by kernel_rfl) (by simp) ?_
   refine AI.cons rfl (λK' hK=>?_) AI.nil
   have hcv:=HCVB.out;go_simp
   clear hcv;refine hK.out _ _ (λ_=>HSB.out) ?_
   clear hK K';refine AJ.take (i:=13) (v:=.agg #[.slice (some ⟨W5.heap.size,0,none⟩) key.size cA,.slice (some ⟨XA.heap.size,0,none⟩) val.size cB]) rfl (by kernel_rfl) (by kernel_rfl) (by kernel_rfl) (by kernel_rfl) (λ_ _ _ h=>h) (Or.inl ⟨by rfl,λW hW=>by go_simp⟩) HSB.out ?_
   refine AJ.ready (rs:=[14]) (by kernel_rfl) (by simp) ?_
   refine AI.cons rfl (λK' hK=>?_) AI.nil
   go_simp
   refine hK.out _ _ (λ_=>HSE.out) ?_
   clear hK K';refine AJ.ready (rs:=[15]) (by kernel_rfl) (by simp) ?_
   refine AI.cons rfl (λK' hK=>?_) AI.nil
   go_simp
   go_at_call 80;refine HINE.out.mono ?_;rintro e w7 ⟨g,c7,rfl,hb7,hZ⟩;have HZ:=yH hZ;have HS7:=yH (HSP.out w7 (AE HXE.out hb7)).2;have hfz:=(HPE.out.node w7 (HSP.out w7 (AE HXE.out hb7)).1).2.2;clear hb7 hZ;refine hK.out _ _ (λ_=>HS7.out) ?_
   clear hK K';refine AJ.ready (rs:=[16]) (by kernel_rfl) (by simp) ?_
   refine AI.cons rfl (λK' hK=>?_) AI.nil
   go_simp
   refine hK.out _ _ (λ_=>HS7.out) ?_
   clear hK K';refine AJ.ready (rs:=[17]) (by kernel_rfl) (by simp) ?_
   refine AI.cons rfl (λK' hK=>?_) AI.nil
   go_simp
   refine hK.out _ _ (λ_=>HS7.out) ?_
   clear hK K';refine AJ.ready (rs:=[18]) (by kernel_rfl) (by simp) ?_
   refine AI.cons rfl (λK' hK=>?_) AI.nil
   have hcx:=(HQ.out w7 HS7.out).2.2;go_simp
   clear hcx;refine hK.out _ _ (λh=>absurd h (by decide)) ?_
   clear hK K';refine AJ.done (by kernel_rfl) ?_ _
   have HST:=yH (HZ.out _ (Below.refl _ _));clear HZ;go_wp2_with fail;refine HST.out.mono ?_;rintro e w8 ⟨rfl,hp⟩;have HP:=yH hp;clear hp;go_wp2;go_ret2;exact⟨by rw[<-HHE.out];rfl,HP.out⟩
  ·clear HINE HSE;have hcv:=HCVC.out;go_simp
   clear hcv;refine hK.out _ _ (λ_=>HSC.out) ?_
   clear hK K';refine AJ.ready (rs:=[10]) (by kernel_rfl) (by simp) ?_
   refine AI.cons rfl (λK' hK=>?_) AI.nil
   have hcv:=HCVD.out;go_simp
   clear hcv;refine hK.out _ _ (λ_=>HSD.out) ?_
   clear hK K';refine AJ.take (i:=13) (v:=.agg #[.slice (some ⟨XC.heap.size,0,none⟩) key.size cD,.slice (some ⟨W5.heap.size,0,none⟩) val.size cC]) rfl (by kernel_rfl) (by kernel_rfl) (by kernel_rfl) (by kernel_rfl) (λ_ _ _ h=>h) (Or.inl ⟨by rfl,λW hW=>by go_simp⟩) HSD.out ?_
   refine AJ.ready (rs:=[14]) (by kernel_rfl) (by simp) ?_
   refine AI.cons rfl (λK' hK=>?_) AI.nil
   go_simp
   refine hK.out _ _ (λ_=>HSF.out) ?_
   clear hK K';refine AJ.ready (rs:=[15]) (by kernel_rfl) (by simp) ?_
   refine AI.cons rfl (λK' hK=>?_) AI.nil
   go_simp
   go_at_call 80;refine HINF.out.mono ?_;rintro e w7 ⟨g,c7,rfl,hb7,hZ⟩;have HZ:=yH hZ;have HS7:=yH (HSP.out w7 (AE HXF.out hb7)).2;have hfz:=(HPE.out.node w7 (HSP.out w7 (AE HXF.out hb7)).1).2.2;clear hb7 hZ;refine hK.out _ _ (λ_=>HS7.out) ?_
   clear hK K';refine AJ.ready (rs:=[16]) (by kernel_rfl) (by simp) ?_
   refine AI.cons rfl (λK' hK=>?_) AI.nil
   go_simp
   refine hK.out _ _ (λ_=>HS7.out) ?_
   clear hK K';refine AJ.ready (rs:=[17]) (by kernel_rfl) (by simp) ?_
   refine AI.cons rfl (λK' hK=>?_) AI.nil
   go_simp
   refine hK.out _ _ (λ_=>HS7.out) ?_
   clear hK K';refine AJ.ready (rs:=[18]) (by kernel_rfl) (by simp) ?_
   refine AI.cons rfl (λK' hK=>?_) AI.nil
   have hcx:=(HQ.out w7 HS7.out).2.2;go_simp
   clear hcx;refine hK.out _ _ (λh=>absurd h (by decide)) ?_
   clear hK K';refine AJ.done (by kernel_rfl) ?_ _
   have HST:=yH (HZ.out _ (Below.refl _ _));clear HZ;go_wp2_with fail;refine HST.out.mono ?_;rintro e w8 ⟨rfl,hp⟩;have HP:=yH hp;clear hp;go_wp2;go_ret2;exact⟨by rw[<-HHE.out];rfl,HP.out⟩
 ·have hne0:((rt:Int) == 0)=false:=by simp;omega
  cases held with
  | false =>
   go_wp2_with (go_at_call 79;refine (HPE.out.end_ _ (Below.refl _ _)).mono ?_;rintro e w4 ⟨rfl,hb4⟩)
   obtain⟨W5,hW5⟩:∃W5,W5=w4.alloc (.cells #[.pointer (some ⟨xb,0,none⟩),.int .i64 at_] 133):=⟨_,rfl⟩;obtain⟨sb,hsb⟩:∃sb,sb=w4.heap.size:=⟨_,rfl⟩;have HSP:Hid (∀W,Below W5.heap.size W5 W->Below w2.heap.size w2 W/\W.cell? ⟨sb,0,none⟩=some (.pointer (some ⟨xb,0,none⟩))/\W.cell? ⟨sb,1,none⟩=some (.int .i64 at_)/\W.cell? ⟨xb,2,none⟩=some (.slice arr N cap)):=yH (by rw[hW5,hsb];exact HPE.out.stepped hb4)
   rw[<-hW5,<-hsb];clear hb4 hW5 hsb;have HQ:Hid (∀W:World,(W.cell? ⟨sb,0,none⟩=some (.pointer (some ⟨xb,0,none⟩))/\W.cell? ⟨sb,1,none⟩=some (.int .i64 at_)/\W.cell? ⟨xb,2,none⟩=some (.slice arr N cap))->W.cell? ⟨sb,0,none⟩=some (.pointer (some ⟨xb,0,none⟩))/\W.cell? ⟨sb,1,none⟩=some (.int .i64 at_)/\W.cell? ⟨xb,2,none⟩=some (.slice arr N cap)):=yH λ_ h=>h
   have HS0:Hid (W5.drew.cell? ⟨sb,0,none⟩=some (.pointer (some ⟨xb,0,none⟩))/\W5.drew.cell? ⟨sb,1,none⟩=some (.int .i64 at_)/\W5.drew.cell? ⟨xb,2,none⟩=some (.slice arr N cap)):=yH (HSP.out _ (Below.refl _ _).drew).2;obtain⟨cA,XA,hcvA,hbnA,hbxA⟩:=CQ w2 W5.drew key (HSP.out W5.drew ((Below.refl W5.heap.size W5).drew)).1.size (by omega)
   have HXA:Hid (Below W5.heap.size W5 XA):=yH (AE ((Below.refl W5.heap.size W5).drew) hbxA);have HBNA:Hid (D3 w2 XA (.slice (some ⟨W5.heap.size,0,none⟩) key.size cA) key.data.toList):=yH hbnA;have HBXA:=yH hbxA;have HCVA:=yH hcvA;have HSA:=yH (HSP.out XA HXA.out).2;clear hcvA hbnA hbxA;obtain⟨cB,XB,hcvB,hbnB,hbxB⟩:=CQ w2 XA val (HSP.out XA HXA.out).1.size (by omega)
   have HXB:Hid (Below W5.heap.size W5 XB):=yH (AE HXA.out hbxB);have HBNB:Hid (D3 w2 XB (.slice (some ⟨XA.heap.size,0,none⟩) val.size cB) val.data.toList):=yH hbnB;have HBXB:=yH hbxB;have HCVB:=yH hcvB;have HSB:=yH (HSP.out XB HXB.out).2;clear hcvB hbnB hbxB;have HXE:Hid (Below W5.heap.size W5 (XB.alloc (.cells #[.slice (some ⟨W5.heap.size,0,none⟩) key.size cA,.slice (some ⟨XA.heap.size,0,none⟩) val.size cB] 135))):=yH (AE HXB.out ((Below.refl _ _).alloc (Nat.le_refl _) _));have HSE:=yH (HSP.out _ HXE.out).2;have HINE:=yH (HPE.out.new rfl _ XB.heap.size (.slice (some ⟨W5.heap.size,0,none⟩) key.size cA) (.slice (some ⟨XA.heap.size,0,none⟩) val.size cB) (HSP.out _ HXE.out).1 (heap_alloc_new XB _) ((HBNA.out.below HBXB.out).below ((Below.refl _ _).alloc (Nat.le_refl _) _)) (HBNB.out.below ((Below.refl _ _).alloc (Nat.le_refl _) _)));obtain⟨cC,XC,hcvC,hbnC,hbxC⟩:=CQ w2 W5.drew val (HSP.out W5.drew ((Below.refl W5.heap.size W5).drew)).1.size (by omega)
   have HXC:Hid (Below W5.heap.size W5 XC):=yH (AE ((Below.refl W5.heap.size W5).drew) hbxC);have HBNC:Hid (D3 w2 XC (.slice (some ⟨W5.heap.size,0,none⟩) val.size cC) val.data.toList):=yH hbnC;have HBXC:=yH hbxC;have HCVC:=yH hcvC;have HSC:=yH (HSP.out XC HXC.out).2;clear hcvC hbnC hbxC;obtain⟨cD,XD,hcvD,hbnD,hbxD⟩:=CQ w2 XC key (HSP.out XC HXC.out).1.size (by omega)
   have HXD:Hid (Below W5.heap.size W5 XD):=yH (AE HXC.out hbxD);have HBND:Hid (D3 w2 XD (.slice (some ⟨XC.heap.size,0,none⟩) key.size cD) key.data.toList):=yH hbnD;have HBXD:=yH hbxD;have HCVD:=yH hcvD;have HSD:=yH (HSP.out XD HXD.out).2;clear hcvD hbnD hbxD;have HXF:Hid (Below W5.heap.size W5 (XD.alloc (.cells #[.slice (some ⟨XC.heap.size,0,none⟩) key.size cD,.slice (some ⟨W5.heap.size,0,none⟩) val.size cC] 135))):=yH (AE HXD.out ((Below.refl _ _).alloc (Nat.le_refl _) _));have HSF:=yH (HSP.out _ HXF.out).2;have HINF:=yH (HPE.out.new rfl _ XD.heap.size (.slice (some ⟨XC.heap.size,0,none⟩) key.size cD) (.slice (some ⟨W5.heap.size,0,none⟩) val.size cC) (HSP.out _ HXF.out).1 (heap_alloc_new XD _) (HBND.out.below ((Below.refl _ _).alloc (Nat.le_refl _) _)) ((HBNC.out.below HBXD.out).below ((Below.refl _ _).alloc (Nat.le_refl _) _)));clear HBNA HBNB HBNC HBND HBXA HBXB HBXC HBXD HXA HXB HXC HXD;go_wp2;refine BS (S:=λW=>W.cell? ⟨sb,0,none⟩=some (.pointer (some ⟨xb,0,none⟩))/\W.cell? ⟨sb,1,none⟩=some (.int .i64 at_)/\W.cell? ⟨xb,2,none⟩=some (.slice arr N cap)) [18] (by kernel_rfl) ?_
   refine AJ.take (i:=0) (v:=.pointer (some ⟨sb,0,none⟩)) rfl (by kernel_rfl) (by kernel_rfl) (by kernel_rfl) (by kernel_rfl) (λ_ _ _ h=>h) (Or.inl ⟨by rfl,λW hW=>by go_simp⟩) HS0.out ?_
   refine AJ.take (i:=1) (v:=.pointer (some ⟨xb,0,none⟩)) rfl (by kernel_rfl) (by kernel_rfl) (by kernel_rfl) (by kernel_rfl) (λ_ _ _ h=>h) (Or.inl ⟨by rfl,λW hW=>by have x1:=(HQ.out W hW).1;clear hW;go_simp⟩) HS0.out ?_
   refine AJ.take (i:=2) (v:=.pointer (some ⟨sb,0,none⟩)) rfl (by kernel_rfl) (by kernel_rfl) (by kernel_rfl) (by kernel_rfl) (λ_ _ _ h=>h) (Or.inl ⟨by rfl,λW hW=>by go_simp⟩) HS0.out ?_
   refine AJ.take (i:=3) (v:=.pointer (some ⟨xb,0,none⟩)) rfl (by kernel_rfl) (by kernel_rfl) (by kernel_rfl) (by kernel_rfl) (λ_ _ _ h=>h) (Or.inl ⟨by rfl,λW hW=>by have x1:=(HQ.out W hW).1;clear hW;go_simp⟩) HS0.out ?_
   refine AJ.take (i:=4) (v:=.pointer (some ⟨xb,0,none⟩)) rfl (by kernel_rfl) (by kernel_rfl) (by kernel_rfl) (by kernel_rfl) (λ_ _ _ h=>h) (Or.inl ⟨by rfl,λW hW=>by go_simp⟩) HS0.out ?_
   refine AJ.take (i:=5) (v:=.pointer (some ⟨xb,2,none⟩)) rfl (by kernel_rfl) (by kernel_rfl) (by kernel_rfl) (by kernel_rfl) (λ_ _ _ h=>h) (Or.inl ⟨by rfl,λW hW=>by go_simp⟩) HS0.out ?_
   refine AJ.take (i:=6) (v:=.slice arr N cap) rfl (by kernel_rfl) (by kernel_rfl) (by kernel_rfl) (by kernel_rfl) (λ_ _ _ h=>h) (Or.inl ⟨by rfl,λW hW=>by have x1:=(HQ.out W hW).2.2;clear hW;go_simp⟩) HS0.out ?_
   refine AJ.take (i:=7) (v:=.pointer (some ⟨sb,1,none⟩)) rfl (by kernel_rfl) (by kernel_rfl) (by kernel_rfl) (by kernel_rfl) (λ_ _ _ h=>h) (Or.inl ⟨by rfl,λW hW=>by go_simp⟩) HS0.out ?_
   refine AJ.take (i:=8) (v:=.int .i64 at_) rfl (by kernel_rfl) (by kernel_rfl) (by kernel_rfl) (by kernel_rfl) (λ_ _ _ h=>h) (Or.inl ⟨by rfl,λW hW=>by have x1:=(HQ.out W hW).2.1;clear hW;go_simp⟩) HS0.out ?_
   refine AJ.take (i:=9) (v:=.string key) rfl (by kernel_rfl) (by kernel_rfl) (by kernel_rfl) (by kernel_rfl) (λ_ _ _ h=>h) (Or.inl ⟨by rfl,λW hW=>by go_simp⟩) HS0.out ?_
   refine AJ.take (i:=11) (v:=.string val) rfl (by kernel_rfl) (by kernel_rfl) (by kernel_rfl) (by kernel_rfl) (λ_ _ _ h=>h) (Or.inl ⟨by rfl,λW hW=>by go_simp⟩) HS0.out ?_
   refine AJ.ready (rs:=[10,12]) (by kernel_rfl) (by simp) ?_
   refine AI.cons rfl (λK' hK=>?_) (AI.cons rfl (λK' hK=>?_) AI.nil)
   ·clear HINF HSF;have hcv:=HCVA.out;go_simp
    clear hcv;refine hK.out _ _ (λ_=>HSA.out) ?_
    clear hK K';refine AJ.ready (rs:=[12]) (by kernel_rfl) (by simp) ?_
    refine AI.cons rfl (λK' hK=>?_) AI.nil
    have hcv:=HCVB.out;go_simp
    clear hcv;refine hK.out _ _ (λ_=>HSB.out) ?_
    clear hK K';refine AJ.take (i:=13) (v:=.agg #[.slice (some ⟨W5.heap.size,0,none⟩) key.size cA,.slice (some ⟨XA.heap.size,0,none⟩) val.size cB]) rfl (by kernel_rfl) (by kernel_rfl) (by kernel_rfl) (by kernel_rfl) (λ_ _ _ h=>h) (Or.inl ⟨by rfl,λW hW=>by go_simp⟩) HSB.out ?_
    refine AJ.ready (rs:=[14]) (by kernel_rfl) (by simp) ?_
    refine AI.cons rfl (λK' hK=>?_) AI.nil
    go_simp
    refine hK.out _ _ (λ_=>HSE.out) ?_
    clear hK K';refine AJ.ready (rs:=[15]) (by kernel_rfl) (by simp) ?_
    refine AI.cons rfl (λK' hK=>?_) AI.nil
    go_simp
    go_at_call 80;refine HINE.out.mono ?_;rintro e w7 ⟨g,c7,rfl,hb7,hZ⟩;have HZ:=yH hZ;have HS7:=yH (HSP.out w7 (AE HXE.out hb7)).2;have hfz:=(HPE.out.node w7 (HSP.out w7 (AE HXE.out hb7)).1).2.2;clear hb7 hZ;refine hK.out _ _ (λ_=>HS7.out) ?_
    clear hK K';refine AJ.ready (rs:=[16]) (by kernel_rfl) (by simp) ?_
    refine AI.cons rfl (λK' hK=>?_) AI.nil
    go_simp
    refine hK.out _ _ (λ_=>HS7.out) ?_
    clear hK K';refine AJ.ready (rs:=[17]) (by kernel_rfl) (by simp) ?_
    refine AI.cons rfl (λK' hK=>?_) AI.nil
    go_simp
    refine hK.out _ _ (λ_=>HS7.out) ?_
    clear hK K';refine AJ.ready (rs:=[18]) (by kernel_rfl) (by simp) ?_
    refine AI.cons rfl (λK' hK=>?_) AI.nil
    have hcx:=(HQ.out w7 HS7.out).2.2;go_simp
    clear hcx;refine hK.out _ _ (λh=>absurd h (by decide)) ?_
    clear hK K';refine AJ.done (by kernel_rfl) ?_ _
    have HST:=yH (HZ.out _ (Below.refl _ _));clear HZ;go_wp2_with fail;refine HST.out.mono ?_;rintro e w8 ⟨rfl,hp⟩;have HP:=yH hp;clear hp;go_wp2;go_ret2;exact⟨by rw[<-HHE.out];rfl,HP.out⟩
   ·clear HINE HSE;have hcv:=HCVC.out;go_simp
    clear hcv;refine hK.out _ _ (λ_=>HSC.out) ?_
    clear hK K';refine AJ.ready (rs:=[10]) (by kernel_rfl) (by simp) ?_
    refine AI.cons rfl (λK' hK=>?_) AI.nil
    have hcv:=HCVD.out;go_simp
    clear hcv;refine hK.out _ _ (λ_=>HSD.out) ?_
    clear hK K';refine AJ.take (i:=13) (v:=.agg #[.slice (some ⟨XC.heap.size,0,none⟩) key.size cD,.slice (some ⟨W5.heap.size,0,none⟩) val.size cC]) rfl (by kernel_rfl) (by kernel_rfl) (by kernel_rfl) (by kernel_rfl) (λ_ _ _ h=>h) (Or.inl ⟨by rfl,λW hW=>by go_simp⟩) HSD.out ?_
    refine AJ.ready (rs:=[14]) (by kernel_rfl) (by simp) ?_
    refine AI.cons rfl (λK' hK=>?_) AI.nil
    go_simp
    refine hK.out _ _ (λ_=>HSF.out) ?_
    clear hK K';refine AJ.ready (rs:=[15]) (by kernel_rfl) (by simp) ?_
    refine AI.cons rfl (λK' hK=>?_) AI.nil
    go_simp
    go_at_call 80;refine HINF.out.mono ?_;rintro e w7 ⟨g,c7,rfl,hb7,hZ⟩;have HZ:=yH hZ;have HS7:=yH (HSP.out w7 (AE HXF.out hb7)).2;have hfz:=(HPE.out.node w7 (HSP.out w7 (AE HXF.out hb7)).1).2.2;clear hb7 hZ;refine hK.out _ _ (λ_=>HS7.out) ?_
    clear hK K';refine AJ.ready (rs:=[16]) (by kernel_rfl) (by simp) ?_
    refine AI.cons rfl (λK' hK=>?_) AI.nil
    go_simp
    refine hK.out _ _ (λ_=>HS7.out) ?_
    clear hK K';refine AJ.ready (rs:=[17]) (by kernel_rfl) (by simp) ?_
    refine AI.cons rfl (λK' hK=>?_) AI.nil
    go_simp
    refine hK.out _ _ (λ_=>HS7.out) ?_
    clear hK K';refine AJ.ready (rs:=[18]) (by kernel_rfl) (by simp) ?_
    refine AI.cons rfl (λK' hK=>?_) AI.nil
    have hcx:=(HQ.out w7 HS7.out).2.2;go_simp
    clear hcx;refine hK.out _ _ (λh=>absurd h (by decide)) ?_
    clear hK K';refine AJ.done (by kernel_rfl) ?_ _
    have HST:=yH (HZ.out _ (Below.refl _ _));clear HZ;go_wp2_with fail;refine HST.out.mono ?_;rintro e w8 ⟨rfl,hp⟩;have HP:=yH hp;clear hp;go_wp2;go_ret2;exact⟨by rw[<-HHE.out];rfl,HP.out⟩
  | true =>
   obtain⟨hlt,g,rfl,hgl,hold⟩:=HPE.out.old rfl;have HOLD:=yH hold;clear hold;go_wp2_with (go_at_call 79;refine (HPE.out.end_ _ (Below.refl _ _)).mono ?_;rintro e w4 ⟨rfl,hb4⟩)
   obtain⟨W5,hW5⟩:∃W5,W5=w4.alloc (.cells #[.pointer (some ⟨xb,0,none⟩),.int .i64 at_] 133):=⟨_,rfl⟩;obtain⟨sb,hsb⟩:∃sb,sb=w4.heap.size:=⟨_,rfl⟩;have HSP:Hid (∀W,Below W5.heap.size W5 W->Below w2.heap.size w2 W/\W.cell? ⟨sb,0,none⟩=some (.pointer (some ⟨xb,0,none⟩))/\W.cell? ⟨sb,1,none⟩=some (.int .i64 at_)/\W.cell? ⟨xb,2,none⟩=some (.slice (some ⟨g,0,none⟩) N cap)):=yH (by rw[hW5,hsb];exact HPE.out.stepped hb4)
   rw[<-hW5,<-hsb];clear hb4 hW5 hsb;have HQ:Hid (∀W:World,(W.cell? ⟨sb,0,none⟩=some (.pointer (some ⟨xb,0,none⟩))/\W.cell? ⟨sb,1,none⟩=some (.int .i64 at_)/\W.cell? ⟨xb,2,none⟩=some (.slice (some ⟨g,0,none⟩) N cap))->W.cell? ⟨sb,0,none⟩=some (.pointer (some ⟨xb,0,none⟩))/\W.cell? ⟨sb,1,none⟩=some (.int .i64 at_)/\W.cell? ⟨xb,2,none⟩=some (.slice (some ⟨g,0,none⟩) N cap)):=yH λ_ h=>h
   have HS0:Hid (W5.drew.cell? ⟨sb,0,none⟩=some (.pointer (some ⟨xb,0,none⟩))/\W5.drew.cell? ⟨sb,1,none⟩=some (.int .i64 at_)/\W5.drew.cell? ⟨xb,2,none⟩=some (.slice (some ⟨g,0,none⟩) N cap)):=yH (HSP.out _ (Below.refl _ _).drew).2;obtain⟨cV,X8,hcv8,hbn8,hbx8⟩:=CQ w2 W5.drew val (HSP.out W5.drew ((Below.refl W5.heap.size W5).drew)).1.size (by omega)
   have HX8:Hid (Below W5.heap.size W5 X8):=yH (AE ((Below.refl W5.heap.size W5).drew) hbx8);have HS8:=yH (HSP.out X8 HX8.out).2;obtain⟨hfz,⟨u8,hu8⟩,hZ⟩:=HOLD.out X8 _ (HSP.out X8 HX8.out).1 hbn8;have HZ:=yH hZ;have HCV:=yH hcv8;have hati:(at_:Int)<(N:Int):=by omega
   clear hcv8 hbn8 hbx8 hZ HOLD;go_wp2;refine BS (S:=λW=>W.cell? ⟨sb,0,none⟩=some (.pointer (some ⟨xb,0,none⟩))/\W.cell? ⟨sb,1,none⟩=some (.int .i64 at_)/\W.cell? ⟨xb,2,none⟩=some (.slice (some ⟨g,0,none⟩) N cap)) [11] (by kernel_rfl) ?_
   refine AJ.take (i:=0) (v:=.pointer (some ⟨sb,0,none⟩)) rfl (by kernel_rfl) (by kernel_rfl) (by kernel_rfl) (by kernel_rfl) (λ_ _ _ h=>h) (Or.inl ⟨by rfl,λW hW=>by go_simp⟩) HS0.out ?_
   refine AJ.take (i:=1) (v:=.pointer (some ⟨xb,0,none⟩)) rfl (by kernel_rfl) (by kernel_rfl) (by kernel_rfl) (by kernel_rfl) (λ_ _ _ h=>h) (Or.inl ⟨by rfl,λW hW=>by have x1:=(HQ.out W hW).1;clear hW;go_simp⟩) HS0.out ?_
   refine AJ.take (i:=2) (v:=.pointer (some ⟨xb,0,none⟩)) rfl (by kernel_rfl) (by kernel_rfl) (by kernel_rfl) (by kernel_rfl) (λ_ _ _ h=>h) (Or.inl ⟨by rfl,λW hW=>by go_simp⟩) HS0.out ?_
   refine AJ.take (i:=3) (v:=.pointer (some ⟨xb,2,none⟩)) rfl (by kernel_rfl) (by kernel_rfl) (by kernel_rfl) (by kernel_rfl) (λ_ _ _ h=>h) (Or.inl ⟨by rfl,λW hW=>by go_simp⟩) HS0.out ?_
   refine AJ.take (i:=4) (v:=.slice (some ⟨g,0,none⟩) N cap) rfl (by kernel_rfl) (by kernel_rfl) (by kernel_rfl) (by kernel_rfl) (λ_ _ _ h=>h) (Or.inl ⟨by rfl,λW hW=>by have x1:=(HQ.out W hW).2.2;clear hW;go_simp⟩) HS0.out ?_
   refine AJ.take (i:=5) (v:=.pointer (some ⟨sb,1,none⟩)) rfl (by kernel_rfl) (by kernel_rfl) (by kernel_rfl) (by kernel_rfl) (λ_ _ _ h=>h) (Or.inl ⟨by rfl,λW hW=>by go_simp⟩) HS0.out ?_
   refine AJ.take (i:=6) (v:=.int .i64 at_) rfl (by kernel_rfl) (by kernel_rfl) (by kernel_rfl) (by kernel_rfl) (λ_ _ _ h=>h) (Or.inl ⟨by rfl,λW hW=>by have x1:=(HQ.out W hW).2.1;clear hW;go_simp⟩) HS0.out ?_
   refine AJ.take (i:=7) (v:=.string val) rfl (by kernel_rfl) (by kernel_rfl) (by kernel_rfl) (by kernel_rfl) (λ_ _ _ h=>h) (Or.inl ⟨by rfl,λW hW=>by go_simp⟩) HS0.out ?_
   refine AJ.ready (rs:=[8]) (by kernel_rfl) (by simp) ?_
   refine AI.cons rfl (λK' hK=>?_) AI.nil
   have hcv:=HCV.out;go_simp
   clear hcv;refine hK.out _ _ (λ_=>HS8.out) ?_
   clear hK K';refine AJ.ready (rs:=[9]) (by kernel_rfl) (by simp) ?_
   refine AI.cons rfl (λK' hK=>?_) AI.nil
   go_simp
   refine hK.out _ _ (λ_=>HS8.out) ?_
   clear hK K';refine AJ.ready (rs:=[10]) (by kernel_rfl) (by simp) ?_
   refine AI.cons rfl (λK' hK=>?_) AI.nil
   go_simp
   refine hK.out _ _ (λ_=>HS8.out) ?_
   clear hK K';refine AJ.ready (rs:=[11]) (by kernel_rfl) (by simp) ?_
   refine AI.cons rfl (λK' hK=>?_) AI.nil
   go_simp
   refine hK.out _ _ (λh=>absurd h (by decide)) ?_
   clear hK K';refine AJ.done (by kernel_rfl) ?_ _
   have HST:=yH (HZ.out _ (Below.refl _ _));clear HZ;go_wp2_with fail;refine HST.out.mono ?_;rintro e w8 ⟨rfl,hp⟩;have HP:=yH hp;clear hp;go_wp2;go_ret2;exact⟨by rw[<-HHE.out];rfl,HP.out⟩
end
theorem EL (b off i:Nat):(⟨b,off,none⟩:Addr).add i=⟨b,off+i,none⟩:=Addr.add_lit _ _ _
def itC (e:En):List Value:=[.string ⟨e.key.toArray⟩,.string ⟨e.val.toArray⟩]
def ItV (w:World)(v:Value)(l:List En):Prop:=w.ownsRow 0 89 2 v l.length (l.flatMap itC)
theorem AC7:(Tryz.prog.info? 89).map (λi=>(i.zero,i.size,i.bytes))=some (some (.agg #[.string ⟨#[]⟩,.string ⟨#[]⟩]),2,32):=by kernel_rfl
theorem O5 (l:List En):(l.flatMap itC).length=l.length*2:=by
 induction l with
 | nil=>rfl
 | cons x r ih=>rw[List.flatMap_cons,List.length_append,ih];simp[itC];omega
theorem ItV.nil_ (w:World):ItV w (.slice none 0 0) []:=World.ownsRow_nil _ _ _ _
theorem BG4 {e:En}:∀(l:List En) (j:Nat),l[j]? = some e->(l.flatMap itC)[j*2]? = some (.string ⟨e.key.toArray⟩)/\(l.flatMap itC)[j*2+1]? = some (.string ⟨e.val.toArray⟩)
 | [],_,h=>by cases h
 | y::r,0,h=>by
  simp only[List.getElem?_cons_zero,Option.some.injEq]at h;subst h;simp[itC]
 | y::r,j+1,h=>by
  have:=BG4 r j (by simpa using h)
  rw[List.flatMap_cons];have e1:(j+1)*2=(itC y).length+j*2:=by simp[itC];omega
  rw[e1,List.getElem?_append_right (by omega),Nat.add_sub_cancel_left,Nat.add_assoc,List.getElem?_append_right (by omega),Nat.add_sub_cancel_left]
  exact this
section
variable {w w':World} {v:Value} {l:List En}
theorem ItV.shape (h:ItV w v l):(v=.slice none 0 0/\l=[])\/∃g c,v=.slice (some ⟨g,0,none⟩) l.length c/\g<w.heap.size/\l.length<=c/\c<=maxLen:=by
 rcases h.2 with⟨h1,h2⟩|⟨g,cap,cur,h1,_,hh,h3,h4,_⟩
 ·exact .inl ⟨h1,List.eq_nil_of_length_eq_zero h2⟩
 ·exact .inr ⟨g,cap,h1,(Array.getElem?_eq_some_iff.1 hh).1,h3,h4⟩
theorem ItV.slice (h:ItV w v l):∃A c,v=.slice A l.length c/\l.length<=c/\c<=maxLen:=by
 rcases h.shape with⟨h1,rfl⟩|⟨g,c,h1,_,h2,h3⟩
 ·exact⟨none,0,h1,Nat.le_refl _,Nat.zero_le _⟩
 ·exact⟨_,c,h1,h2,h3⟩
theorem ItV.at_ (h:ItV w v l){j:Nat}{e:En}(hj:l[j]? = some e):∃g c,v=.slice (some ⟨g,0,none⟩) l.length c/\g<w.heap.size/\w.cell? ⟨g,j*2,none⟩=some (.string ⟨e.key.toArray⟩)/\w.cell? ⟨g,j*2+1,none⟩=some (.string ⟨e.val.toArray⟩):=by
 rcases h.shape with⟨_,rfl⟩|⟨g,c,rfl,h2,_⟩
 ·cases hj
 ·have hcell:∀i u,(l.flatMap itC)[i]? = some u->w.cell? ⟨g,i,none⟩=some u:=λi u hu=>by
   have:=World.ownsRow.cells (w:=w) h (g:=g) rfl i u hu
   rw[EL,Nat.zero_add]at this;exact this
  obtain⟨c1,c2⟩:=BG4 l j hj;exact⟨g,c,rfl,h2,hcell _ _ c1,hcell _ _ c2⟩
theorem ItV.lt (h:ItV w v l):∀g,v.ownBlock=some g->g<w.heap.size:=λg hg=>(World.ownsRow.lt h g hg).2
theorem ItV.kept {T:Nat->Prop}(h:ItV w v l)(hk:AC T w w')(hT:∀g,v.ownBlock=some g->¬T g):ItV w' v l :=
 AG h λk hk'=>hk.block k (h.lt k hk') (hT k hk')
theorem ItV.below (h:ItV w v l)(hb:Below w.heap.size w w'):ItV w' v l:=h.kept (AC.ofBelow (S:=λ_=>False) hb) (λ_ _ h=>h)
theorem M8 (w:World)(ty:TypeId)(v:Value)(l qs:List En)(h:ItV w v l)(ad:Addr)(c:Nat)(hq:∀j u,(qs.flatMap itC)[j]? = some u->w.cell? (ad.add j)=some u)(hl:l.length+qs.length<=100000) :
  ∃v' w',(Builtin.append_ #[74,74] ty #[v,.slice (some ad) qs.length c]).run Tryz.prog w=.ok v' w'/\ItV w' v' (l++qs)/\C3 w w' v v':=by
 obtain⟨i0,hi,q0,q1,q2⟩:=info_parts AC7;obtain⟨v',w',hr,h1,h2⟩:=DZ w 74 ty 89 i0 (.agg #[.string ⟨#[]⟩,.string ⟨#[]⟩]) 2 32 Tryz.underlying74 hi q0 q1 q2 rfl (by decide) v l.length (l.flatMap itC) h ad qs.length c (qs.flatMap itC) (O5 qs) hq (λu hu=>by
  obtain⟨e,_,he⟩:=List.mem_flatMap.1 hu;simp only[itC,List.mem_cons,List.not_mem_nil,or_false]at he;rcases he with rfl|rfl <;> rfl) (by unfold maxLen;omega) (by omega) (by omega)
 refine⟨v',w',hr,?_,h2⟩;unfold ItV;rw[List.flatMap_append,List.length_append];exact h1
theorem OL (w:World)(ty:TypeId)(v:Value)(l:List En)(h:ItV w v l) :
  ∃v',(Builtin.append_ #[74,74] ty #[v,.slice none 0 0]).run Tryz.prog w=.ok v' w/\v'=v:=by
 obtain⟨i0,hi,q0,q1,q2⟩:=info_parts AC7;exact⟨_,run_append_owned_none (P:=Tryz.prog) (w:=w) 0 74 ty 89 i0 2 Tryz.underlying74 hi v l.length (l.flatMap itC) h,rfl⟩
structure IF (n:Nat)(w:World)(v:Value)(l:List En):Prop where
 is:ItV w v l
 new:∀g,v.ownBlock=some g->n<=g
theorem IF.nil_ (n:Nat)(w:World):IF n w (.slice none 0 0) []:=⟨ItV.nil_ w,λg hg=>by simp[Value.ownBlock]at hg⟩
theorem IF.below {n:Nat}(h:IF n w v l)(hb:Below w.heap.size w w'):IF n w' v l:=⟨h.is.below hb,h.new⟩
theorem GI {n:Nat}(ty:TypeId)(h:IF n w v l)(hn:n<=w.heap.size){qs:List En}(ad:Addr)(c:Nat)(hq:∀j u,(qs.flatMap itC)[j]? = some u->w.cell? (ad.add j)=some u)(hl:l.length+qs.length<=100000) :
  ∃v' w',(Builtin.append_ #[74,74] ty #[v,.slice (some ad) qs.length c]).run Tryz.prog w=.ok v' w'/\IF n w' v' (l++qs)/\Below n w w':=by
 obtain⟨v',w',hr,h1,h2⟩:=M8 w ty v l qs h.is ad c hq hl;refine⟨v',w',hr,⟨h1,λg hg=>(h2.2 g hg).elim (h.new g) (λh=>by omega)⟩,⟨h2.1.os,h2.1.tape,h2.1.output,h2.1.size,λk hk=>h2.1.block k (by omega) (λe=>by have:=h.new k e.symm;omega)⟩⟩
theorem QP {g:Nat}(hc:∀i u,(l.flatMap itC)[i]? = some u->w.cell? ⟨g,i,none⟩=some u)(a:Nat)(qs:List En){x y:List En}(hl:l=x++qs++y)(ha:x.length=a):∀j u,(qs.flatMap itC)[j]? = some u->w.cell? ((⟨g,a*2,none⟩:Addr).add j)=some u:=by
 intro j u hu;rw[EL];refine hc _ _ ?_;have hlj:=(List.getElem?_eq_some_iff.1 hu).1;rw[hl,List.flatMap_append,List.flatMap_append,List.getElem?_append_left (by rw[List.length_append,O5,ha];omega),List.getElem?_append_right (by rw[O5,ha];omega),O5,ha,Nat.add_sub_cancel_left]
 exact hu
theorem ItV.cells (h:ItV w v l){g c:Nat}(hv:v=.slice (some ⟨g,0,none⟩) l.length c):∀i u,(l.flatMap itC)[i]? = some u->w.cell? ⟨g,i,none⟩=some u:=λi u hu=>by
 have:=World.ownsRow.cells (w:=w) h (g:=g) (by rw[hv];rfl) i u hu
 rw[EL,Nat.zero_add]at this;exact this
end
theorem AP6 {k:List UInt8}:∀{l:List En} {j:Nat} {e:En},l[j]? = some e->j<=AP k l->(lt e.key k ↔ j<AP k l)
 | [],_,_,h,_=>by cases h
 | a::r,0,e,h,_=>by
  simp only[List.getElem?_cons_zero,Option.some.injEq]at h;subst h;unfold AP;split
  ·exact⟨λ_=>by omega,λ_=>by assumption⟩
  ·exact⟨λh=>absurd h (by assumption),λh=>by omega⟩
 | a::r,j+1,e,h,hj=>by
  have hr:r[j]? = some e:=by simpa using h
  unfold AP at hj ⊢
  split at hj
  ·next hl =>
   rw[if_pos hl];exact (AP6 hr (by omega)).trans ⟨λ_=>by omega,λ_=>by omega⟩
  ·omega
section
variable {w:World} {v:Value} {l:List En}
theorem F0 (h:ItV w v l)(hl:l.length<=100000)(k:ByteArray) :
  Calls Tryz.prog 69 #[v,.string k] w λe w'=>e=.returned (.int .i64 (AP k.data.toList l))/\w'=w:=by
 obtain⟨A,c,rfl,hc,_⟩:=h.slice;have HAT:Hid (∀j,j<l.length->j<=AP k.data.toList l->∃g c2 s,A=some ⟨g,0,none⟩/\w.cell? ⟨g,j*2,none⟩=some (.string s)/\(lt s.data.toList k.data.toList ↔ j<AP k.data.toList l)/\c2=c):=yH λj hj hk=>by
  have he:l[j]? = some l[j]:=List.getElem?_eq_getElem hj;obtain⟨g,c2,hv,_,h1,_⟩:=h.at_ he;injection hv with h2 _ h3
  exact⟨g,c2,_,h2,h1,AP6 he hk,h3.symm⟩
 have hle:=EG k.data.toList l;obtain⟨n,hn⟩:∃n,n=l.length:=⟨_,rfl⟩;obtain⟨m,hm⟩:∃m,m=AP k.data.toList l:=⟨_,rfl⟩;rw[<-hn,<-hm]at HAT;rw[<-hn]at hl ⊢
 rw[<-hm]at hle ⊢
 rw[<-hn]at hle;clear h hc hn hm;go_enter Tryz.func69,Tryz.ntmps69;go_wp2;go_loopw [5] (λi wr=>(∃j:Nat,j<=m/\i=.int .i64 j)/\w=wr) (λi _=>n-(intOf i).toNat)
 case atStart=>exact⟨⟨0,by omega,rfl⟩,rfl⟩
 case round =>
  obtain⟨⟨j,hj,rfl⟩,rfl⟩:=hrel;by_cases hjn:j<n
  ·obtain⟨g,c2,s,rfl,h1,h2,_⟩:=HAT.out j hjn hj;by_cases hlt:j<m
   ·have h3:Op.bytesLess s.toList k.toList=true:=by rw[ByteArray.toList_eq,ByteArray.toList_eq];exact h2.2 hlt
    clear h2 HAT;go_wp2;go_roundw
    case rel=>exact⟨⟨j+1,by omega,by go_num⟩,trivial⟩
    case measure=>simp[intOf];omega
   ·have h3:Op.bytesLess s.toList k.toList=false:=by
     rw[ByteArray.toList_eq,ByteArray.toList_eq];cases hb:Op.bytesLess s.data.toList k.data.toList with
     | false=>rfl
     | true=>exact absurd (h2.1 hb) hlt
    obtain rfl:j=m:=by omega
    clear h2 HAT;go_wp2;go_ret;exact⟨rfl,rfl⟩
  ·obtain rfl:j=m:=by omega
   obtain rfl:j=n:=by omega
   clear HAT;go_wp2;go_ret;exact⟨rfl,rfl⟩
theorem GZ (h:ItV w v l)(hl:l.length<=100000)(k:ByteArray) :
  Calls Tryz.prog 67 #[v,.string k] w λe w'=>e=.returned (.bool (A6 k.data.toList l))/\w'=w:=by
 have HF:=yH (F0 h hl k);obtain⟨A,c,rfl,hc,_⟩:=h.slice;have HAT:Hid (AP k.data.toList l<l.length->∃g s,A=some ⟨g,0,none⟩/\w.cell? ⟨g,AP k.data.toList l*2,none⟩=some (.string s)/\A6 k.data.toList l=(s.toList == k.toList)):=yH λhj=>by
  have he:l[AP k.data.toList l]? = some l[AP k.data.toList l]:=List.getElem?_eq_getElem hj;obtain⟨g,c2,hv,_,h1,_⟩:=h.at_ he;injection hv with h2 _ h3
  refine⟨g,_,h2,h1,?_⟩;unfold A6;rw[he,ByteArray.toList_eq,ByteArray.toList_eq,Bool.eq_iff_iff,decide_eq_true_iff,beq_iff_eq]
 have HNO:Hid (¬AP k.data.toList l<l.length->A6 k.data.toList l=false):=yH λhj=>by
  unfold A6;rw[List.getElem?_eq_none (by omega)]
 obtain⟨n,hn⟩:∃n,n=l.length:=⟨_,rfl⟩;obtain⟨m,hm⟩:∃m,m=AP k.data.toList l:=⟨_,rfl⟩;obtain⟨b,hb⟩:∃b,b=A6 k.data.toList l:=⟨_,rfl⟩;rw[<-hn,<-hm,<-hb]at HAT HNO;rw[<-hn,<-hm]at HF;rw[<-hn]at hl ⊢
 rw[<-hb];clear h hc hn hm hb;go_enter Tryz.func67,Tryz.ntmps67;go_wp2_with fail;refine HF.out.mono ?_;rintro e w1 ⟨rfl,hw⟩;subst w1;clear HF;by_cases hmn:m<n
 ·obtain⟨g,s,rfl,h1,h2⟩:=HAT.out hmn;subst h2;have f1:(m:Int)<(n:Int):=by omega
  clear HAT HNO;go_wp2;go_ret;exact⟨rfl,rfl⟩
 ·have f1:¬(m:Int)<(n:Int):=by omega
  have h2:=HNO.out hmn;subst h2;clear HAT HNO;go_wp2;go_ret;exact⟨rfl,rfl⟩
end
def MG (k x:ByteArray):Bool:=decide (1<=k.size) && (decide (k.size<=96) && decide (x.size<=32))
theorem AO7 {k x:ByteArray}:MG k x=true ↔ 1<=k.size/\k.size<=96/\x.size<=32:=by simp[MG]
theorem BC2 (k x:ByteArray)(w:World):Calls Tryz.prog 44 #[.string k,.string x] w λe w'=>e=.returned (.bool (MG k x))/\w'=w:=by
 by_cases h1:1<=k.size
 ·have f1:(1:Int)<=(k.size:Int):=by omega
  by_cases h2:k.size<=96
  ·have f2:(k.size:Int)<=96:=by omega
   by_cases h3:x.size<=32
   ·have f3:(x.size:Int)<=32:=by omega
    have HB:=yH (AO7.2 ⟨h1,h2,h3⟩);go_enter Tryz.func44,Tryz.ntmps44;go_wp2;go_ret;exact⟨by rw[HB.out];rfl,rfl⟩
   ·have f3:¬(x.size:Int)<=32:=by omega
    have HB:Hid (MG k x=false):=yH (by simp[MG,h3])
    go_enter Tryz.func44,Tryz.ntmps44;go_wp2;go_ret;exact⟨by rw[HB.out];rfl,rfl⟩
  ·have f2:¬(k.size:Int)<=96:=by omega
   have HB:Hid (MG k x=false):=yH (by simp[MG,h2])
   go_enter Tryz.func44,Tryz.ntmps44;go_wp2;go_ret;exact⟨by rw[HB.out];rfl,rfl⟩
 ·have f1:¬(1:Int)<=(k.size:Int):=by omega
  have HB:Hid (MG k x=false):=yH (by simp[MG,h1])
  go_enter Tryz.func44,Tryz.ntmps44;go_wp2;go_ret;exact⟨by rw[HB.out];rfl,rfl⟩
theorem D8 {k:List UInt8}{e:En}{r:List En}(h:lt e.key k):AP k (e::r)=AP k r+1:=by conv=>lhs;unfold AP;rw[if_pos h]
theorem EV {k:List UInt8}{e:En}{r:List En}(h:¬lt e.key k):AP k (e::r)=0:=by unfold AP;rw[if_neg h]
theorem QT (k v:List UInt8):∀l:List En,CM k v l=l.take (AP k l)++([⟨k,v⟩]++l.drop (AP k l+if A6 k l then 1 else 0))
 | []=>rfl
 | e::r=>by
  by_cases hl:lt e.key k
  ·have h1:A6 k (e::r)=A6 k r:=by unfold A6;rw[D8 hl];rfl
   rw[D8 hl,h1,show CM k v (e::r)=e::CM k v r by conv=>lhs;unfold CM;rw[if_pos hl]]
   rw[QT k v r,List.take_succ_cons,Nat.add_right_comm,List.drop_succ_cons];rfl
  ·have h0:=EV (r:=r) hl;have h1:A6 k (e::r)=decide (e.key=k):=by unfold A6;rw[h0];rfl
   rw[h0,h1];unfold CM;rw[if_neg hl];by_cases he:e.key=k
   ·rw[if_pos he,if_pos (decide_eq_true he)];rfl
   ·rw[if_neg he,if_neg (by simpa using he)];rfl
theorem XH {k:List UInt8}{l:List En}(h:A6 k l=true):AP k l<l.length:=by
 unfold A6 at h;cases he:l[AP k l]? with
 | none=>rw[he]at h;cases h
 | some e=>exact (List.getElem?_eq_some_iff.1 he).1
section
variable {w:World} {v:Value} {l:List En}
theorem AH9 {g c:Nat}(h:ItV w (.slice (some ⟨g,0,none⟩) l.length c) l)(hl:l.length<=90000)(k x:ByteArray) :
  ∃v1 w1,(Builtin.append_ #[74,74] 74 #[.slice none 0 0,.slice (some ⟨g,0,none⟩) (AP k.data.toList l) c]).run Tryz.prog w=.ok v1 w1 /\
   ∃v2 w2,(Builtin.append_ #[74,74] 74 #[v1,.slice (some ⟨w1.heap.size,0,none⟩) 1 1]).run Tryz.prog (w1.alloc (.cells #[.string k,.string x] 89))=.ok v2 w2/\ItV w2 (.slice (some ⟨g,0,none⟩) l.length c) l /\
    ∀(o:Nat) (ad:Addr) (i m2 c2:Nat),o=0\/o=1->(i=AP k.data.toList l+if A6 k.data.toList l then 1 else 0)->(i<l.length->ad=⟨g,i*2,none⟩)->m2=l.length-i->∃v3 w3,(Builtin.append_ #[74,74] 74 #[v2,.slice (some ad) m2 c2]).run Tryz.prog w2=.ok v3 w3/\IF w.heap.size w3 v3 (CM k.data.toList x.data.toList l)/\Below w.heap.size w w3:=by
 have hm:=EG k.data.toList l;have hcell:=h.cells rfl;obtain⟨m,hmd⟩:∃m,m=AP k.data.toList l:=⟨_,rfl⟩;rw[<-hmd]at hm ⊢
 have hq1:(l.take m).length=m:=by rw[List.length_take];omega
 obtain⟨v1,w1,r1,n1,b1⟩:=GI (n:=w.heap.size) 74 (IF.nil_ w.heap.size w) (Nat.le_refl _) (qs:=l.take m) ⟨g,0,none⟩ c (QP hcell 0 (l.take m) (x:=[]) (y:=l.drop m) (by simp) rfl) (by simp;omega)
 rw[hq1]at r1;rw[List.nil_append]at n1;have hz1:=b1.size;obtain⟨wa,hwa⟩:∃wa,wa=w1.alloc (.cells #[.string k,.string x] 89):=⟨_,rfl⟩;have hba:Below w1.heap.size w1 wa:=by rw[hwa];exact (Below.refl _ _).alloc (Nat.le_refl _) _
 have hnew:wa.heap[w1.heap.size]? = some (.cells #[.string k,.string x] 89 (0,0)):=by rw[hwa];exact heap_alloc_new w1 _
 obtain⟨v2,w2,r2,n2,b2⟩:=GI (n:=w.heap.size) 74 (n1.below hba) (by have:=hba.size;omega) (qs:=[⟨k.data.toList,x.data.toList⟩]) ⟨w1.heap.size,0,none⟩ 1 (λj u hu=>by
  rw[EL,Nat.zero_add,yC hnew];rw[<-hu];simp[itC]) (by simp;omega)
 have hb2:Below w.heap.size w w2:=(b1.trans (hba.mono hz1)).trans b2;have h2:=h.below hb2;have hcell2:=h2.cells rfl;refine⟨v1,w1,r1,v2,w2,by rw[<-hwa];exact r2,h2,λo ad i m2 c2 _ hi had hm2=>?_⟩
 have hil:i<=l.length:=by
  rw[hi];by_cases hb:A6 k.data.toList l=true
  ·rw[if_pos hb];have:=XH hb;omega
  ·rw[if_neg hb];exact hm
 have hq3:(l.drop i).length=m2:=by rw[List.length_drop];omega
 obtain⟨v3,w3,r3,n3,b3⟩:=GI (n:=w.heap.size) 74 n2 hb2.size (qs:=l.drop i) ad c2 (λj u hu=>by
  by_cases hlt:i<l.length
  ·rw[had hlt];exact QP hcell2 i (l.drop i) (x:=l.take i) (y:=[]) (by simp) (by rw[List.length_take];omega) j u hu
  ·rw[List.drop_eq_nil_of_le (by omega)]at hu;cases hu) (by simp;omega)
 rw[hq3]at r3;refine⟨v3,w3,r3,?_,hb2.trans b3⟩;have e:=QT k.data.toList x.data.toList l;rw[<-hmd,<-hi]at e;rw[e,<-List.append_assoc];exact n3
theorem BB8 (h:ItV w v l)(hl:l.length<=90000)(k x:ByteArray) :
  Calls Tryz.prog 66 #[v,.string k,.string x] w λe w'=>∃v',e=.returned v'/\IF w.heap.size w' v' (CM k.data.toList x.data.toList l)/\Below w.heap.size w w':=by
 have HF:=yH (F0 h (by omega) k)
 rcases h.shape with⟨rfl,rfl⟩|⟨g,c,rfl,_,hc,hc2⟩
 ·obtain⟨v2,w2,r2,n2,b2⟩:∃v2 w2,(Builtin.append_ #[74,74] 74 #[.slice none 0 0,.slice (some ⟨w.heap.size,0,none⟩) 1 1]).run Tryz.prog (w.alloc (.cells #[.string k,.string x] 89))=.ok v2 w2/\IF w.heap.size w2 v2 [⟨k.data.toList,x.data.toList⟩]/\Below w.heap.size w w2:=by
   obtain⟨wa,hwa⟩:∃wa,wa=w.alloc (.cells #[.string k,.string x] 89):=⟨_,rfl⟩;have hba:Below w.heap.size w wa:=by rw[hwa];exact (Below.refl _ _).alloc (Nat.le_refl _) _
   have hnew:wa.heap[w.heap.size]? = some (.cells #[.string k,.string x] 89 (0,0)):=by rw[hwa];exact heap_alloc_new w _
   obtain⟨v2,w2,r2,n2,b2⟩:=GI (n:=w.heap.size) 74 (IF.nil_ w.heap.size wa) (by have:=hba.size;omega) (qs:=[⟨k.data.toList,x.data.toList⟩]) ⟨w.heap.size,0,none⟩ 1 (λj u hu=>by
    rw[EL,Nat.zero_add,yC hnew];rw[<-hu];simp[itC]) (by simp)
   exact⟨v2,w2,by rw[<-hwa];exact r2,n2,hba.trans b2⟩
  obtain⟨x1,r1,hx1⟩:=OL w 74 (.slice none 0 0) [] (ItV.nil_ w);subst hx1;obtain⟨x3,r3,hx3⟩:=OL w2 74 v2 _ n2.is;subst hx3;have HH:=yH (GZ (ItV.nil_ w2) (by simp) k)
  have HN:=yH n2;have HB:=yH b2
  clear n2 b2 hl h;go_enter Tryz.func66,Tryz.ntmps66;go_wp2_with fail;refine HF.out.mono ?_;rintro e w0 ⟨rfl,hw⟩;subst w0;clear HF;rw[show ((AP k.data.toList []:Nat):Int)=0 from rfl]
  go_wp2_with (first
   | (at_builtin;refine Lib.wpList_append_run _ rfl (.tmp 12) (.tmp 15) 74 74 rfl _ _ rfl rfl _ _ r1 ?_)
   | (at_builtin;refine Lib.wpList_append_run _ rfl (.tmp 17) (.tmp 21) 74 74 rfl _ _ rfl rfl _ _ r2 ?_))
  clear r1 r2;refine HH.out.mono ?_;rintro e w3 ⟨rfl,hw⟩;subst w3;clear HH;rw[show A6 k.data.toList []=false from rfl]
  go_wp2_with (at_builtin;refine Lib.wpList_append_run _ rfl (.tmp 28) (.tmp 31) 74 74 rfl _ _ rfl rfl _ _ r3 ?_)
  go_ret;exact⟨_,rfl,HN.out,HB.out⟩
 ·obtain⟨v1,w1,r1,v2,w2,r2,h2,h3⟩:=AH9 h hl k x;have HH:=yH (GZ h2 (by omega) k)
  have HS:=yH h3;have hm:=EG k.data.toList l;have hat:=λhb=>XH (k:=k.data.toList) (l:=l) hb
  have HI:Hid (∀b:Bool,A6 k.data.toList l=b->∀i,(i=AP k.data.toList l+if b then 1 else 0)->(i=AP k.data.toList l+if A6 k.data.toList l then 1 else 0)):=yH λb hb i hi=>by rw[hb];exact hi
  clear h h3;obtain⟨n,hn⟩:∃n,n=l.length:=⟨_,rfl⟩;obtain⟨m,hmd⟩:∃m,m=AP k.data.toList l:=⟨_,rfl⟩;obtain⟨b,hb⟩:∃b,b=A6 k.data.toList l:=⟨_,rfl⟩;obtain⟨F,hF⟩:∃F,F=CM k.data.toList x.data.toList l:=⟨_,rfl⟩;rw[<-hn,<-hmd,<-hb,<-hF]at HS;rw[<-hn,<-hmd]at HF;rw[<-hn,<-hb]at HH;rw[<-hb,<-hmd,<-hn]at hat;rw[<-hF];rw[<-hn]at hl hc hm ⊢
  rw[<-hmd]at hm r1;clear hn hmd hb hF HI h2;have f1:(m:Int)<=(c:Int):=by omega
  have f2:(0:Int)<=(m:Int):=by omega
  go_enter Tryz.func66,Tryz.ntmps66;go_wp2_with fail;refine HF.out.mono ?_;rintro e w0 ⟨rfl,hw⟩;subst w0;clear HF;go_wp2_with (first
   | (at_builtin;refine Lib.wpList_append_run _ rfl (.tmp 12) (.tmp 15) 74 74 rfl _ _ rfl rfl _ _ r1 ?_)
   | (at_builtin;refine Lib.wpList_append_run _ rfl (.tmp 17) (.tmp 21) 74 74 rfl _ _ rfl rfl _ _ r2 ?_))
  clear r1 r2;refine HH.out.mono ?_;rintro e w3 ⟨rfl,hw⟩;subst w3;clear HH;cases b with
  | true =>
   have hmn:=hat rfl;have f3:(m:Int)+1<=(n:Int):=by omega
   have f4:(m:Int)+1<=(c:Int):=by omega
   have f5:IntKind.i64.wrap ((m:Int)+1)=(m:Int)+1:=IntWalk.i64_in _ (by omega)
   have f6:(0:Int)<=(m:Int)+1:=by omega
   clear hat;by_cases hci:c=m+1
   ·obtain⟨v3,w3,r3,n3,b3⟩:=HS.out 0 ⟨g,0,none⟩ (m+1) 0 0 (.inl rfl) rfl (λhlt=>by omega) (by omega)
    have HN:=yH n3;have HB:=yH b3
    clear HS n3 b3;subst hci;go_wp2_with (at_builtin;refine Lib.wpList_append_run _ rfl (.tmp 28) (.tmp 31) 74 74 rfl _ _ rfl rfl _ _ r3 ?_)
    go_ret;exact⟨v3,rfl,HN.out,HB.out⟩
   ·obtain⟨v3,w3,r3,n3,b3⟩:=HS.out 0 ⟨g,(m+1)*2,none⟩ (m+1) (n-(m+1)) (c-(m+1)) (.inl rfl) rfl (λhlt=>rfl) rfl
    have HN:=yH n3;have HB:=yH b3
    clear HS n3 b3;go_wp2_with (at_builtin;refine Lib.wpList_append_run _ rfl (.tmp 28) (.tmp 31) 74 74 rfl _ _ rfl rfl _ _ r3 ?_)
    go_ret;exact⟨v3,rfl,HN.out,HB.out⟩
  | false =>
   have f3:(m:Int)<=(n:Int):=by omega
   clear hat;by_cases hci:c=m
   ·obtain⟨v3,w3,r3,n3,b3⟩:=HS.out 0 ⟨g,0,none⟩ (m) 0 0 (.inl rfl) rfl (λhlt=>by omega) (by omega)
    have HN:=yH n3;have HB:=yH b3
    clear HS n3 b3;subst hci;go_wp2_with (at_builtin;refine Lib.wpList_append_run _ rfl (.tmp 28) (.tmp 31) 74 74 rfl _ _ rfl rfl _ _ r3 ?_)
    go_ret;exact⟨v3,rfl,HN.out,HB.out⟩
   ·obtain⟨v3,w3,r3,n3,b3⟩:=HS.out 0 ⟨g,(m)*2,none⟩ (m) (n-(m)) (c-(m)) (.inl rfl) rfl (λhlt=>rfl) rfl
    have HN:=yH n3;have HB:=yH b3
    clear HS n3 b3;go_wp2_with (at_builtin;refine Lib.wpList_append_run _ rfl (.tmp 28) (.tmp 31) 74 74 rfl _ _ rfl rfl _ _ r3 ?_)
    go_ret;exact⟨v3,rfl,HN.out,HB.out⟩
end
theorem AX5 (k:List UInt8)(a:List En)(e:En):DI k (a++[e])=if e.key=k then DI k a else DI k a++[e]:=by
 unfold DI;rw[List.filter_append];by_cases h:e.key=k <;> simp[h]
section
variable {w:World} {v:Value} {l:List En}
structure LP (n0:Nat)(k:List UInt8)(l:List En)(w:World)(v v':Value)(j:Nat)(wr:World):Prop where
 new:IF n0 wr v' (DI k (l.take j))
 bel:Below n0 w wr
 is:ItV wr v l
theorem LP.round {n0:Nat}{k:List UInt8}{v':Value}{j:Nat}{wr:World}(I:LP n0 k l w v v' j wr)(hn0:n0=w.heap.size)(h:ItV w v l)(hl:l.length<=90000)(hj:j<l.length) :
  ∃g c s1 s2,v=.slice (some ⟨g,0,none⟩) l.length c/\wr.cell? ⟨g,j*2,none⟩=some (.string s1)/\wr.cell? ⟨g,j*2+1,none⟩=some (.string s2) /\
   (s1.data.toList=k->LP n0 k l w v v' (j+1) wr)/\(s1.data.toList≠k->∃v2 w2,(Builtin.append_ #[74,74] 74 #[v',.slice (some ⟨wr.heap.size,0,none⟩) 1 1]).run Tryz.prog (wr.alloc (.cells #[.string s1,.string s2] 89))=.ok v2 w2/\LP n0 k l w v v2 (j+1) w2):=by
 have he:l[j]? = some l[j]:=List.getElem?_eq_getElem hj;obtain⟨g,c,hv,hg,c1,c2⟩:=I.is.at_ he;have ht:DI k (l.take (j+1))=if l[j].key=k then DI k (l.take j) else DI k (l.take j)++[l[j]]:=by
  rw[List.take_succ_eq_append_getElem hj,AX5]
 refine⟨g,c,_,_,hv,c1,c2,λhk=>⟨?_,I.bel,I.is⟩,λhk=>?_⟩
 ·have hk:l[j].key=k:=hk;rw[ht,if_pos hk];exact I.new
 ·have hk:¬l[j].key=k:=hk;obtain⟨wa,hwa⟩:∃wa,wa=wr.alloc (.cells #[.string ⟨l[j].key.toArray⟩,.string ⟨l[j].val.toArray⟩] 89):=⟨_,rfl⟩;have hba:Below wr.heap.size wr wa:=by rw[hwa];exact (Below.refl _ _).alloc (Nat.le_refl _) _
  have hnew:wa.heap[wr.heap.size]? = some (.cells #[.string ⟨l[j].key.toArray⟩,.string ⟨l[j].val.toArray⟩] 89 (0,0)):=by rw[hwa];exact heap_alloc_new wr _
  have hz:=I.bel.size;have hdl:(DI k (l.take j)).length<=j:=Nat.le_trans (List.length_filter_le _ _) (by rw[List.length_take];omega)
  obtain⟨v2,w2,r2,n2,b2⟩:=GI (n:=n0) 74 (I.new.below hba) (by have:=hba.size;omega) (qs:=[l[j]]) ⟨wr.heap.size,0,none⟩ 1 (λi u hu=>by
   rw[EL,Nat.zero_add,yC hnew,<-hu];simp[itC]) (by simp;omega)
  have hb2:Below n0 w w2:=(I.bel.trans (hba.mono (by omega))).trans b2
  refine⟨v2,w2,by rw[<-hwa];exact r2,⟨?_,hb2,h.below (by rw[<-hn0];exact hb2)⟩⟩
  rw[ht,if_neg hk];exact n2
theorem BC9 (h:ItV w v l)(hl:l.length<=90000)(k:ByteArray) :
  Calls Tryz.prog 68 #[v,.string k] w λe w'=>∃v',e=.returned v'/\IF w.heap.size w' v' (DI k.data.toList l)/\Below w.heap.size w w':=by
 obtain⟨n0,hn0⟩:∃n0,n0=w.heap.size:=⟨_,rfl⟩;have HRD:Hid (∀v' j wr,LP n0 k.data.toList l w v v' j wr->j<l.length->∃g c s1 s2,v=.slice (some ⟨g,0,none⟩) l.length c/\wr.cell? ⟨g,j*2,none⟩=some (.string s1)/\wr.cell? ⟨g,j*2+1,none⟩=some (.string s2) /\
   (s1.data.toList=k.data.toList->LP n0 k.data.toList l w v v' (j+1) wr)/\(s1.data.toList≠k.data.toList->∃v2 w2,(Builtin.append_ #[74,74] 74 #[v',.slice (some ⟨wr.heap.size,0,none⟩) 1 1]).run Tryz.prog (wr.alloc (.cells #[.string s1,.string s2] 89))=.ok v2 w2/\LP n0 k.data.toList l w v v2 (j+1) w2)):=yH λv' j wr I hj=>I.round hn0 h hl hj
 have HI0:Hid (LP n0 k.data.toList l w v (.slice none 0 0) 0 w):=yH ⟨IF.nil_ _ _,by rw[hn0];exact Below.refl _ _,h⟩
 have HEND:Hid (∀v' wr,LP n0 k.data.toList l w v v' l.length wr->IF n0 wr v' (DI k.data.toList l)/\Below n0 w wr):=yH λv' wr I=>by
  have:=I.new
  rw[List.take_length]at this;exact⟨this,I.bel⟩
 rw[<-hn0];obtain⟨A,c,hv,hc,_⟩:=h.slice;clear h hn0;obtain⟨n,hn⟩:∃n,n=l.length:=⟨_,rfl⟩;rw[<-hn]at HRD HEND hl hv hc;subst hv;clear hn;go_enter Tryz.func68,Tryz.ntmps68;go_wp2;go_loopw [5,6] (λv' i wr=>∃j:Nat,j<=n/\i=.int .i64 j/\Hid (LP n0 k.data.toList l w (.slice A n c) v' j wr)) (λ_ i _=>n-(intOf i).toNat)
 case atStart=>exact⟨0,by omega,rfl,HI0⟩
 case round =>
  obtain⟨j,hj,rfl,HI⟩:=hrel;by_cases hjn:j<n
  ·obtain⟨g,c',s1,s2,hv,c1,c2,h1,h2⟩:=HRD.out _ j _ HI.out hjn;injection hv with hA _ hcc
   subst hA hcc;by_cases hk:s1.data.toList=k.data.toList
   ·have HN:=yH (h1 hk);have hk1:(s1.toList == k.toList)=true:=by rw[ByteArray.toList_eq,ByteArray.toList_eq];exact beq_iff_eq.2 hk
    clear h1 h2 HI HRD HEND HI0 hk;go_wp2;go_roundw
    case rel=>exact⟨j+1,by omega,by go_num,HN⟩
    case measure=>simp[intOf];omega
   ·obtain⟨v2,w2,r2,h3⟩:=h2 hk;have HN:=yH h3;have hk1:(s1.toList == k.toList)=false:=by
     rw[ByteArray.toList_eq,ByteArray.toList_eq];cases hb:s1.data.toList == k.data.toList with
     | false=>rfl
     | true=>exact absurd (beq_iff_eq.1 hb) hk
    clear h1 h2 HI HRD HEND HI0 hk h3;go_wp2_with (at_builtin;refine Lib.wpList_append_run _ rfl (.tmp 20) (.tmp 25) 74 74 rfl _ _ rfl rfl _ _ r2 ?_)
    clear r2;go_roundw
    case rel=>exact⟨j+1,by omega,by go_num,HN⟩
    case measure=>simp[intOf];omega
  ·obtain rfl:j=n:=by omega
   obtain⟨h1,h2⟩:=HEND.out _ _ HI.out;have H1:=yH h1;have H2:=yH h2
   clear h1 h2 HI HRD HEND HI0;go_wp2;go_ret;exact⟨_,rfl,H1.out,H2.out⟩
theorem BB7 {va vb:Value}(ha:ItV w va l)(hb:ItV w vb l)(hl:l.length<=100000) :
  Calls Tryz.prog 32 #[va,vb] w λe w'=>e=.returned (.bool true)/\Below w.heap.size w w':=by
 have HAT:Hid (∀wr,Below w.heap.size w wr->∀j,j<l.length->∃g c g2 c2 s1 s2,va=.slice (some ⟨g,0,none⟩) l.length c/\vb=.slice (some ⟨g2,0,none⟩) l.length c2/\wr.cell? ⟨g,j*2,none⟩=some (.string s1)/\wr.cell? ⟨g,j*2+1,none⟩=some (.string s2)/\wr.cell? ⟨g2,j*2,none⟩=some (.string s1)/\wr.cell? ⟨g2,j*2+1,none⟩=some (.string s2)):=yH λwr hbw j hj=>by
  have he:l[j]? = some l[j]:=List.getElem?_eq_getElem hj;obtain⟨g,c,h1,_,h2,h3⟩:=(ha.below hbw).at_ he;obtain⟨g2,c2,h4,_,h5,h6⟩:=(hb.below hbw).at_ he;exact⟨g,c,g2,c2,_,_,h1,h4,h2,h3,h5,h6⟩
 obtain⟨A,c,hva,_⟩:=ha.slice;obtain⟨A2,c2,hvb,_⟩:=hb.slice;have HB0:Hid (Below w.heap.size w w):=yH (Below.refl _ _);obtain⟨n,hn⟩:∃n,n=l.length:=⟨_,rfl⟩;rw[<-hn]at HAT hl hva hvb;subst hva hvb;clear ha hb hn;go_enter Tryz.func32,Tryz.ntmps32;go_wp2;go_loopw [5] (λi wr=>∃j:Nat,j<=n/\i=.int .i64 j/\Hid (Below w.heap.size w wr)) (λi _=>n-(intOf i).toNat)
 case atStart=>exact⟨0,by omega,rfl,HB0⟩
 case round =>
  obtain⟨j,hj,rfl,HB⟩:=hrel;by_cases hjn:j<n
  ·obtain⟨g,d,g2,d2,s1,s2,h1,h2,c1,c2,c3,c4⟩:=HAT.out _ HB.out j hjn;injection h1 with h1 _ h3
   injection h2 with h2 _ h4
   subst h1 h2 h3 h4;have HBD:Hid (∀m,Below w.heap.size w (wr.drewN m)):=yH λm=>HB.out.trans ((AF wr m).mono HB.out.size)
   clear HAT HB;have f1:(j:Int)<(n:Int):=by omega
   have f2:(0:Int)<=(j:Int):=by omega
   go_wp2;go_quiet (fail);go_wp2;go_roundw
   case rel=>exact⟨j+1,by omega,by go_num,yH (HBD.out _)⟩
   case measure=>simp[intOf];omega
  ·obtain rfl:j=n:=by omega
   clear HAT;go_wp2;go_ret;exact⟨rfl,HB.out⟩
end
def itV:Option En->Value
 | some e=>.agg #[.string ⟨e.key.toArray⟩,.string ⟨e.val.toArray⟩]
 | none=>.agg #[.string ⟨#[]⟩,.string ⟨#[]⟩]
section
variable {J:List AD->Prop} {B:Nat} {S:Nat->Prop} {c:Ac} {h:Hd} {G:Nat->List UInt8} {w:World} {tb r L:Nat} {t:Tr L}
def BX (J:List AD->Prop)(B:Nat)(S:Nat->Prop)(c:Ac)(h:Hd)(G:Nat->List UInt8)(o:Option En)(w:World)(e:Ending)(w':World):Prop:=e=.returned (.tuple #[itV o,.bool o.isSome])/\BI J B S c h G w w'
def itZ:Obj:=.cells #[.string ⟨#[]⟩,.string ⟨#[]⟩] 89 (0,0)
structure AG8 (J:List AD->Prop)(B:Nat)(S:Nat->Prop)(c:Ac)(h:Hd)(G:Nat->List UInt8)(left:Bool)(F:List En)(w:World)(tb r rb:Nat)(n:NO)(l:Nat)(tc:Tr l)(S' X':Nat->Prop)(wr:World):Prop where
 act:AU J B S' c h G wr
 turn:AO S w S' wr
 tree:AH wr tb c.a r
 res:wr.heap[rb]? = some itZ/\¬S' rb/\w.heap.size<=rb
 node:AM X' wr n/\¬S' n.blk
 is:n.level=l/\n.ens=tc.ens
 tidy:CJ tc
 rep:Rep (FF h G) tc
 out:IT left tc.flat=IT left F
variable {left:Bool} {F:List En} {rb l:Nat} {n:NO} {S' X':Nat->Prop} {wr:World}
theorem AG8.down {tc:Tr (l+1)}(I:AG8 J B S c h G left F w tb r rb n (l+1) tc S' X' wr)(htS:¬S tb)(htl:tb<w.heap.size) :
  Calls Tryz.prog 114 #[.pointer (some ⟨tb,0,none⟩),n.ptr,.int .i64 (QD left n.ens.length:Nat)] wr λe w'=>∃(y:NO) (tk:Tr l) (S'' X'':Nat->Prop),e=.returned y.ptr/\AG8 J B S c h G left F w tb r rb y l tk S'' X'' w':=by
 obtain⟨k,hk,hm,he,ho,ht⟩:=BQ7 I.tidy left;have hr:=I.rep.kid k hm;obtain⟨q1,q2,q3⟩:=hr.at_;have hp:=I.act.has_lt q1;have hc:(kEn k).child=k.2.page:=CV k (by omega)
 refine (GH I.act I.tree X' n I.node.1 I.node.2 (QD left n.ens.length) (kEn k) (by rw[I.is.2];exact he) rfl l k.2.ens I.is.1 (by rw[hc];exact q1) (by rw[hc];exact q2) q3).mono ?_
 rintro e w' ⟨y,S'',rfl,hL⟩;have hrl:rb<wr.heap.size:=(Array.getElem?_eq_some_iff.1 I.res.1).1;have htS':¬S' tb:=I.turn.not htl htS;refine⟨y,k.2,S'',λj=>S'' j\/j=y.blk\/j=y.ab,rfl,⟨hL.act,I.turn.trans hL.turn,I.tree.kept hL.turn.1 htS',⟨(hL.turn.1.block rb hrl I.res.2.1).trans I.res.1,hL.turn.not hrl I.res.2.1,I.res.2.2⟩,⟨hL.node S'' (λj hj=>.inr hj),hL.new.2.2.1⟩,⟨hL.info.2.1,hL.info.2.2.1⟩,ht,hr,ho.symm.trans I.out⟩⟩
theorem IB (hp1:1<=w.heap.size)(hact:AU J B S' c h G wr)(hT:AO S w S' wr)(hres:wr.heap[rb]? = some itZ/\¬S' rb/\w.heap.size<=rb){W:World}(hk:AC (λk=>k=rb) wr W):BI J B S c h G w W:=by
 have h0:=hT.1.size;exact⟨S',⟨hT.1.trans hk λk e=>.inr (by have:=hres.2.2;omega),hT.2⟩,hact.kept hk λk e _=>⟨e ▸ hres.2.1,by have:=hres.2.2;omega⟩⟩
def DR (rb:Nat)(s1 s2:ByteArray)(w':World)(Q:World->Prop):Prop :=
 rb<w'.heap.size/\w'.frozen? ⟨rb,0,none⟩=false/\w'.frozen? ⟨rb,1,none⟩=false/\w'.cell? ⟨rb,0,none⟩=some (.string ⟨#[]⟩)/\w'.cell? ⟨rb,1,none⟩=some (.string ⟨#[]⟩) /\
  ((w'.setCell ⟨rb,0,none⟩ (.string s1)).setCell ⟨rb,1,none⟩ (.string s2)).cell? ⟨rb,0,none⟩=some (.string s1)/\((w'.setCell ⟨rb,0,none⟩ (.string s1)).setCell ⟨rb,1,none⟩ (.string s2)).cell? ⟨rb,1,none⟩=some (.string s2) /\
  Hid (Q ((w'.setCell ⟨rb,0,none⟩ (.string s1)).setCell ⟨rb,1,none⟩ (.string s2)))
theorem FX {w':World}{rb:Nat}(h:w'.heap[rb]? = some itZ)(s1 s2:ByteArray){Q:World->Prop}(hQ:∀W,AC (λk=>k=rb) w' W->Q W):DR rb s1 s2 w' Q:=by
 have h0:w'.heap[rb]? = some (.cells #[.string ⟨#[]⟩,.string ⟨#[]⟩] 89 (0,0)):=h;have h1:=BW (i:=0) h0 (.string s1);have h2:=BW (i:=1) h1 (.string s2);refine⟨(Array.getElem?_eq_some_iff.1 h).1,by simp[World.frozen?,h0],by simp[World.frozen?,h0],by rw[yC h0];rfl,by rw[yC h0];rfl,by rw[yC h2];rfl,by rw[yC h2];rfl,yH (hQ _ ?_)⟩
 exact (AC.setCell (λk=>k=rb) w' (b:=rb) (i:=0) rfl (.string s1)).trans (AC.setCell (λk=>k=rb) _ (b:=rb) (i:=1) rfl (.string s2)) (λk e=>.inl e)
theorem AP4 (hp1:1<=w.heap.size)(x:AU J B S c h G w)(hw:AH w tb c.a r)(htS:¬S tb){X:Nat->Prop}{n0:NO}(hn:AM X w n0)(hnS:¬S n0.blk)(his:n0.level=L/\n0.ens=t.ens)(ht:CJ t)(hR:Rep (FF h G) t)(left:Bool)(sd:Int)(hsd:sd=(if left then -1 else 1)) :
  Calls Tryz.prog 84 #[.pointer (some ⟨tb,0,none⟩),n0.ptr,.int .i64 sd] w (BX J B S c h G (IT left t.flat) w):=by
 obtain⟨W0,hW0⟩:∃W0,W0=w.alloc (.cells #[.string ⟨#[]⟩,.string ⟨#[]⟩] 89):=⟨_,rfl⟩;have hb:Below w.heap.size w W0:=by rw[hW0];exact (Below.refl _ _).alloc (Nat.le_refl _) _
 have hn0:W0.heap[w.heap.size]? = some itZ:=by rw[hW0];exact heap_alloc_new w _
 have HI0:Hid (AG8 J B S c h G left t.flat w tb r w.heap.size n0 L t S X W0):=yH ⟨x.below hb,AO.ofBelow hb,hw.below hb,⟨hn0,λhs=>by have:=(x.low _ hs).2;omega,Nat.le_refl _⟩,⟨hn.below hb,hnS⟩,his,ht,hR,rfl⟩
 have HTL:=yH hw.lt;have HTS:=yH htS;have HLB:Hid (sd=1/\left=false\/sd=-1/\left=true):=yH (by cases left with
  | true=>exact .inr ⟨hsd,rfl⟩
  | false=>exact .inl ⟨hsd,rfl⟩)
 clear x hw htS hn hnS his ht hR hb hn0 hsd;obtain⟨rb,hrb⟩:∃rb,rb=w.heap.size:=⟨_,rfl⟩;have HRB:=yH hrb;rw[<-hrb]at HI0;go_enter Tryz.func84,Tryz.ntmps84;go_wp2;rw[<-hW0,<-hrb];clear hW0 hrb;go_loopw [1] (λp wr=>∃(n:NO) (l:Nat) (tc:Tr l) (S' X':Nat->Prop),p=n.ptr/\Hid (AG8 J B S c h G left t.flat w tb r rb n l tc S' X' wr)) (λp wr=>JW p wr)
 case atStart=>exact⟨n0,L,t,S,X,rfl,HI0⟩
 case round =>
  obtain⟨n,l,tc,S',X',rfl,HI⟩:=hrel;have hnd:=HI.out.node.1;have c1:=hnd.c1;have c2:=hnd.c2;have hlv:=HI.out.is.1;have HME:=yH ((FB hnd).trans hlv);rw[hlv]at c1;have h512:=hnd.short.1;have hne:1<=n.ens.length:=by
   rw[HI.out.is.2];exact List.length_pos_iff.2 HI.out.tidy.2.1
  obtain⟨N,hN⟩:∃N,N=n.ens.length:=⟨_,rfl⟩;rw[<-hN]at c2 h512 hne;have HN:=yH hN;have f0:((N:Int) == 0)=false:=by simp;omega
  have f1:decide (N=0)=false:=decide_eq_false (by omega)
  have f2:IntKind.i64.wrap ((N:Int)-1)=((N-1:Nat):Int):=(IntWalk.i64_in _ (by omega)).trans (by omega)
  cases l with
  | zero =>
   obtain⟨e0,he0⟩:=AA8 left (GW HI.out.tidy);have hat:n.ens[QD left N]? = some e0:=by
    rw[hN,HI.out.is.2,AJ2];exact he0
   obtain⟨bb,o,kv,vv,harr,hbl,hfr,k1,k2,k3,k4⟩:=hnd.ents.at_ hat;rw[harr]at c2;obtain⟨A1,cc1,rfl,_,_,hA1,_⟩:=k3;obtain⟨A2,cc2,rfl,_,_,hA2,_⟩:=k4;have hrl:rb<wr.heap.size:=(Array.getElem?_eq_some_iff.1 HI.out.res.1).1;have HIT:Hid (Calls Tryz.prog 82 #[.agg #[.slice A1 e0.key.length cc1,.slice A2 e0.val.length cc2]] wr λe w'=>e=.returned (.agg #[.string ⟨e0.key.toArray⟩,.string ⟨e0.val.toArray⟩])/\DR rb ⟨e0.key.toArray⟩ ⟨e0.val.toArray⟩ w' λW=>BX J B S c h G (IT left t.flat) w (.returned (.tuple #[.agg #[.string ⟨e0.key.toArray⟩,.string ⟨e0.val.toArray⟩],.bool true])) W):=yH ((AC5 A1 A2 e0.key e0.val e0.key.length e0.val.length cc1 cc2 wr rfl rfl hA1 hA2).mono λe w' ⟨he,hb⟩=>by
    have hr2:=(hb.block rb hrl).trans HI.out.res.1;refine⟨he,FX hr2 _ _ λW hk=>?_⟩
    rw[<-HI.out.out,he0];exact⟨rfl,IB hp1 (HI.out.act.below hb) (HI.out.turn.trans (AO.ofBelow hb)) ⟨hr2,HI.out.res.2.1,HI.out.res.2.2⟩ hk⟩)
   obtain⟨l1,hl1⟩:∃l1,l1=e0.key.length:=⟨_,rfl⟩;obtain⟨l2,hl2⟩:∃l2,l2=e0.val.length:=⟨_,rfl⟩;rw[<-hl1]at k1 HIT;rw[<-hl2]at k2 HIT;obtain⟨s1,hs1⟩:∃s:ByteArray,s=⟨e0.key.toArray⟩:=⟨_,rfl⟩;obtain⟨s2,hs2⟩:∃s:ByteArray,s=⟨e0.val.toArray⟩:=⟨_,rfl⟩;rw[<-hs1,<-hs2]at HIT;unfold NO.ptr;clear hnd hlv hN he0 hat harr hA1 hA2 hl1 hl2 hs1 hs2 HI HME HI0;rcases HLB.out with⟨rfl,rfl⟩|⟨rfl,rfl⟩
   ·rw[show QD false N=N-1 from rfl]at k1 k2
    have g1:N-1<N:=by omega
    have g2:(0:Int)<=((N-1:Nat):Int):=by omega
    go_wp2_with fail;refine HIT.out.mono ?_;rintro e w2 ⟨rfl,d1,d2,d3,d4,d5,d6,d7,HE⟩;go_wp2;exact bodyPost_ret (v:=.tuple #[.agg #[.string s1,.string s2],.bool true]) (by simp[results,Tryz.results84,go_sem,d6,d7]) rfl HE.out
   ·rw[show QD true N=0 from rfl,Nat.zero_mul,Nat.add_zero]at k1 k2
    go_wp2_with fail;refine HIT.out.mono ?_;rintro e w2 ⟨rfl,d1,d2,d3,d4,d5,d6,d7,HE⟩;go_wp2;exact bodyPost_ret (v:=.tuple #[.agg #[.string s1,.string s2],.bool true]) (by simp[results,Tryz.results84,go_sem,d6,d7]) rfl HE.out
  | succ l =>
   have HD:=yH (HI.out.down HTS.out HTL.out);rw[<-hN]at HD;have hpos:(0:Int)<((l+1:Nat):Int):=by omega
   have hz1:(((l+1:Nat):Int) == 0)=false:=by simp;omega
   have hz2:((l:Int)+1 == 0)=false:=by simp;omega
   unfold NO.ptr at HD ⊢
   clear hnd hlv hN HI HI0;rcases HLB.out with⟨rfl,rfl⟩|⟨rfl,rfl⟩
   ·rw[show QD false N=N-1 from rfl]at HD
    go_wp2_with fail;refine HD.out.mono ?_;rintro e w2 ⟨y,tk,S2,X2,rfl,h2⟩;have H2:=yH h2;have HM2:Hid (JW y.ptr w2=l):=yH ((FB h2.node.1).trans h2.is.1);clear h2;go_wp2;go_roundw
    case rel=>exact⟨y,l,tk,S2,X2,rfl,H2⟩
    case measure =>
     have h1:=HM2.out;have h3:=HME.out
     unfold NO.ptr at h1 h3;show JW _ w2<JW _ wr;omega
   ·rw[show QD true N=0 from rfl]at HD
    go_wp2_with fail;refine HD.out.mono ?_;rintro e w2 ⟨y,tk,S2,X2,rfl,h2⟩;have H2:=yH h2;have HM2:Hid (JW y.ptr w2=l):=yH ((FB h2.node.1).trans h2.is.1);clear h2;go_wp2;go_roundw
    case rel=>exact⟨y,l,tk,S2,X2,rfl,H2⟩
    case measure =>
     have h1:=HM2.out;have h3:=HME.out
     unfold NO.ptr at h1 h3;show JW _ w2<JW _ wr;omega
end
end Go.Proofs.YtfbbjiidccbaiaaGreatDoor
