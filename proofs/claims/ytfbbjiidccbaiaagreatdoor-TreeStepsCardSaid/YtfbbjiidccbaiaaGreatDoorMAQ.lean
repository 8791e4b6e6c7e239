/- Texts of one proof, one behind the other: WQ, YJ, YK, YL, YM. -/
import Derived.Test.YtfbbjiidccbaiaaGreatDoorMAP
import Derived.Test.YtfbbjiidccbaiaaGreatDoorMAH
import Derived.Test.YtfbbjiidccbaiaaGreatDoorMAA
import Derived.Lib.AppendZerosOnto
set_option maxRecDepth 100000
namespace Go.Proofs.YtfbbjiidccbaiaaGreatDoor
open Go.RowKit
section
variable {J:List RawOp→Prop} {B:Nat} {S:Nat→Prop} {c:Ac} {h:Hd} {G:Nat→List UInt8} {w:World} {tb r:Nat} {F:List En} {ps:List Nat} {U:List Nat}
def PutGoes (J:List RawOp→Prop) (B:Nat) (S:Nat→Prop) (c:Ac) (h:Hd) (G:Nat→List UInt8) (tb r:Nat) (ps:List Nat) (F:List En) (key val:ByteArray) (w:World) (e:Ending) (w2:World):Prop :=
 ∃ (cb:Nat) (held:Bool),e=.returned (.tuple #[.pointer (some ⟨cb,0,none⟩),.bool held])∧held=isAt key.data.toList F ∧
  ((h.root r=0∧held=false∧Calls Tryz.prog 78 #[.pointer (some ⟨cb,0,none⟩)] w2 fun e w3=>e=.returned (.int .i64 0)∧∃ xb at_ N cap arr,Hid (PutEnd cb xb at_ N cap arr key.data.toList val.data.toList false (fun Z=>Calls Tryz.prog 81 #[.pointer (some ⟨cb,0,none⟩)] Z fun e w'=>e=.returned (.int .i64 0)∧TreePost J B S c h G tb r ps (insE key.data.toList val.data.toList F) w w') w3)) ∨
  (h.root r≠0∧∃ xb at_ N cap arr,Hid (PutEnd cb xb at_ N cap arr key.data.toList val.data.toList held (fun Z=>Calls Tryz.prog 81 #[.pointer (some ⟨cb,0,none⟩)] Z fun e w'=>e=.returned (.int .i64 0)∧TreePost J B S c h G tb r ps (insE key.data.toList val.data.toList F) w w') w2)))
theorem put_goes (x:ActV J B S c h G w) (ht:TreeAt w tb c.a r) (htS:¬ S tb) (hr16:r < 16) (hC:∀ q,(c.C q).length=512) (on:TreeOn h G (h.root r) F ps) (hrm:Roomy h U 16) (key val:ByteArray) (hk:okL ⟨key.data.toList,val.data.toList⟩) {W:World} (hb:Below w.heap.size w W) {KA:Option Addr} {kc:Nat} (hK:ReadsB W KA key.data.toList) (hKn:∀ ad,KA=some ad→w.heap.size≤ad.block) :
  Calls Tryz.prog 77 #[.pointer (some ⟨tb,0,none⟩),.int .i64 (h.root r),.slice KA key.size kc] W (PutGoes J B S c h G tb r ps F key val w):=by
 have xW:=x.below hb
 have htW:=ht.below hb
 have hKS:∀ ad,KA=some ad→key.data.toList≠[]→¬ S ad.block:=fun ad ha _ hs=>by have:=(x.low _ hs).2;have:=hKn ad ha;omega
 have hkn:key.data.toList.length=key.size:=rfl
 rcases on.is with ⟨rfl,h0,rfl⟩ | ⟨m,t,hr,ho,rfl,hpg,rfl,hrep⟩
 ·rw [h0]
  refine (change_none (kc:=kc) xW htW htS hkn hK).mono ?_
  rintro e w2 ⟨cb,mb,wv,s,above,y,rfl,B0,e1,e2⟩
  refine ⟨cb,false,rfl,rfl,.inl ⟨h0,rfl,?_⟩⟩
  refine (plant_h B0 rfl (U:=U) (k:=15) (by rw [e1];exact hrm)).mono ?_
  rintro e w3 ⟨rfl,hp⟩
  have hp2:=put_first B0 hr16 hC (by rw [e1];exact hrm) hk hp
  refine ⟨rfl,y.blk,0,0,0,none,Lib.hid (hp2.mono fun Z hZ=>?_)⟩
  refine Calls.mono hZ fun e w' h=>⟨h.1,?_⟩
  have h2:=h.2
  rw [e1,e2] at h2
  exact h2.older hb
 ·have st:Stood h G t:=⟨hr,ho,hrep,on.nodup⟩
  have hL:m≤12:=hr.level on.nodup fun q hq=>(x.has_lt (st.has q hq)).2
  have hne:h.root r≠0:=by rw [← hpg];have:=(x.has_lt (st.has _ (page_mem t))).1;omega
  rw [← hpg]
  refine (change_ok (kc:=kc) xW htW htS st hkn hK hKS (by omega)).mono ?_
  rintro e w2 ⟨cb,mb,wv,s,b,above,sts,rfl,B1,e1,e2⟩
  obtain ⟨xb,at_,N,cap,arr,hp,hbt⟩:=B1.putEnd (by rw [e1,e2];exact st) hr16 hC (by rw [e1];exact hrm) hk
  refine ⟨cb,b,rfl,hbt,.inr ⟨hne,xb,at_,N,cap,arr,Lib.hid (hp.mono fun Z hZ=>?_)⟩⟩
  refine Calls.mono hZ fun e w' h=>⟨h.1,?_⟩
  have h2:=h.2
  rw [e1,e2] at h2
  exact h2.older hb
def PutPost (J:List RawOp→Prop) (B:Nat) (S:Nat→Prop) (c:Ac) (h:Hd) (G:Nat→List UInt8) (tb r:Nat) (ps:List Nat) (F:List En) (key val:ByteArray) (w:World) (e:Ending) (w':World):Prop :=
 e=.returned (.tuple #[.bool !(isAt key.data.toList F),.int .i64 0])∧TreePost J B S c h G tb r ps (insE key.data.toList val.data.toList F) w w'
set_option maxHeartbeats 400000 in
theorem put_ok (x:ActV J B S c h G w) (ht:TreeAt w tb c.a r) (htS:¬ S tb) (hr16:r < 16) (hC:∀ q,(c.C q).length=512) (on:TreeOn h G (h.root r) F ps) (hrm:Roomy h U 16) (key val:ByteArray) (hk1:1≤key.size) (hk2:key.size≤96) (hv:val.size≤32) :
  Calls Tryz.prog 35 #[.pointer (some ⟨tb,0,none⟩),.string key,.string val] w (PutPost J B S c h G tb r ps F key val w):=by
 have HTOP:=Lib.hid (top_ok x ht hr16)
 have hk:okL ⟨key.data.toList,val.data.toList⟩:=⟨by show 0 < key.data.toList.length;rw [Array.length_toList];exact hk1,hk2,hv⟩
 have HGO:Hid (∀ k,∃ kc W,(convert 9 102 (.string key)).run Tryz.prog (w.drewN k)=.ok (.slice (some ⟨w.heap.size,0,none⟩) key.size kc) W∧Hid (Calls Tryz.prog 77 #[.pointer (some ⟨tb,0,none⟩),.int .i64 (h.root r),.slice (some ⟨w.heap.size,0,none⟩) key.size kc] W (PutGoes J B S c h G tb r ps F key val w))):=Lib.hid fun k=>by
  obtain ⟨kc,W,h1,h2,h3⟩:=bytesOf_new w (w.drewN k) key (below_drewN w k).size (by omega)
  obtain ⟨A,c2,e1,_,_,h4,h5⟩:=h2
  injection e1 with e1 _ e3
  subst e1
  exact ⟨kc,W,h1,Lib.hid (put_goes x ht htS hr16 hC on hrm key val hk ((below_drewN w k).trans (h3.mono (below_drewN w k).size)) h4 h5)⟩
 obtain ⟨rt,hrt⟩:∃ rt,rt=h.root r:=⟨_,rfl⟩
 rw [← hrt] at HTOP HGO
 have HRT:=Lib.hid hrt
 have f1:¬ key.toList=[]:=fun e=>by
  rw [ByteArray.toList_eq] at e
  have:key.size=0:=by
   have:=congrArg List.length e
   rw [Array.length_toList] at this
   exact this
  omega
 have f1':key.toList.isEmpty=false:=by
  cases hb:key.toList.isEmpty with
  | false=>rfl
  | true=>exact absurd (List.isEmpty_iff.1 hb) f1
 have f2:decide ((96:Int) < (key.size:Int))=false:=decide_eq_false (by omega)
 have f3:decide ((32:Int) < (val.size:Int))=false:=decide_eq_false (by omega)
 have f4:¬ (96:Int) < (key.size:Int):=by omega
 have f5:¬ (32:Int) < (val.size:Int):=by omega
 clear x ht htS hC on hrm hk hrt
 go_enter Tryz.func35,Tryz.ntmps35
 go_wp2_with fail
 refine HTOP.out.mono ?_
 rintro e w1 ⟨rfl,k,rfl⟩
 obtain ⟨kc,W,hcv,HCH⟩:=HGO.out k
 clear HTOP HGO
 go_wp2_with fail
 refine HCH.out.mono ?_
 rintro e w2 ⟨cb,held,rfl,hheld,hcase⟩
 have HHE:=Lib.hid hheld
 clear hcv HCH hheld
 rw [← HRT.out] at hcase
 rcases hcase with ⟨rfl,rfl,hpl⟩ | ⟨hne,xb,at_,N,cap,arr,HPE⟩
 ·have HPL:=Lib.hid hpl
  clear hpl
  go_wp2_with fail
  refine HPL.out.mono ?_
  rintro e w3 ⟨rfl,xb,at_,N,cap,arr,HPE⟩
  clear HPL
  go_wp2_with (go_at_call 79;refine (HPE.out.end_ _ (Below.refl _ _)).mono ?_;rintro e w4 ⟨rfl,hb4⟩)
  obtain ⟨W5,hW5⟩:∃ W5,W5=w4.alloc (.cells #[.pointer (some ⟨xb,0,none⟩),.int .i64 at_] 133):=⟨_,rfl⟩
  obtain ⟨sb,hsb⟩:∃ sb,sb=w4.heap.size:=⟨_,rfl⟩
  have HSP:Hid (∀ W,Below W5.heap.size W5 W→Below w3.heap.size w3 W∧W.cell? ⟨sb,0,none⟩=some (.pointer (some ⟨xb,0,none⟩))∧W.cell? ⟨sb,1,none⟩=some (.int .i64 at_)∧W.cell? ⟨xb,2,none⟩=some (.slice arr N cap)):=Lib.hid (by rw [hW5,hsb];exact HPE.out.stepped hb4)
  rw [← hW5,← hsb]
  clear hb4 hW5 hsb
  have HQ:Hid (∀ W:World,(W.cell? ⟨sb,0,none⟩=some (.pointer (some ⟨xb,0,none⟩))∧W.cell? ⟨sb,1,none⟩=some (.int .i64 at_)∧W.cell? ⟨xb,2,none⟩=some (.slice arr N cap))→W.cell? ⟨sb,0,none⟩=some (.pointer (some ⟨xb,0,none⟩))∧W.cell? ⟨sb,1,none⟩=some (.int .i64 at_)∧W.cell? ⟨xb,2,none⟩=some (.slice arr N cap)):=Lib.hid fun _ h=>h
  have HS0:Hid (W5.drew.cell? ⟨sb,0,none⟩=some (.pointer (some ⟨xb,0,none⟩))∧W5.drew.cell? ⟨sb,1,none⟩=some (.int .i64 at_)∧W5.drew.cell? ⟨xb,2,none⟩=some (.slice arr N cap)):=Lib.hid (HSP.out _ (Below.refl _ _).drew).2
  obtain ⟨cA,XA,hcvA,hbnA,hbxA⟩:=bytesOf_new w3 W5.drew key (HSP.out W5.drew ((Below.refl W5.heap.size W5).drew)).1.size (by omega)
  have HXA:Hid (Below W5.heap.size W5 XA):=Lib.hid (below_then_ ((Below.refl W5.heap.size W5).drew) hbxA)
  have HBNA:Hid (BytesN w3 XA (.slice (some ⟨W5.heap.size,0,none⟩) key.size cA) key.data.toList):=Lib.hid hbnA
  have HBXA:=Lib.hid hbxA
  have HCVA:=Lib.hid hcvA
  have HSA:=Lib.hid (HSP.out XA HXA.out).2
  clear hcvA hbnA hbxA
  obtain ⟨cB,XB,hcvB,hbnB,hbxB⟩:=bytesOf_new w3 XA val (HSP.out XA HXA.out).1.size (by omega)
  have HXB:Hid (Below W5.heap.size W5 XB):=Lib.hid (below_then_ HXA.out hbxB)
  have HBNB:Hid (BytesN w3 XB (.slice (some ⟨XA.heap.size,0,none⟩) val.size cB) val.data.toList):=Lib.hid hbnB
  have HBXB:=Lib.hid hbxB
  have HCVB:=Lib.hid hcvB
  have HSB:=Lib.hid (HSP.out XB HXB.out).2
  clear hcvB hbnB hbxB
  have HXE:Hid (Below W5.heap.size W5 (XB.alloc (.cells #[.slice (some ⟨W5.heap.size,0,none⟩) key.size cA,.slice (some ⟨XA.heap.size,0,none⟩) val.size cB] 135))):=Lib.hid (below_then_ HXB.out ((Below.refl _ _).alloc (Nat.le_refl _) _))
  have HSE:=Lib.hid (HSP.out _ HXE.out).2
  have HINE:=Lib.hid (HPE.out.new rfl _ XB.heap.size (.slice (some ⟨W5.heap.size,0,none⟩) key.size cA) (.slice (some ⟨XA.heap.size,0,none⟩) val.size cB) (HSP.out _ HXE.out).1 (heap_alloc_new XB _) ((HBNA.out.below HBXB.out).below ((Below.refl _ _).alloc (Nat.le_refl _) _)) (HBNB.out.below ((Below.refl _ _).alloc (Nat.le_refl _) _)))
  obtain ⟨cC,XC,hcvC,hbnC,hbxC⟩:=bytesOf_new w3 W5.drew val (HSP.out W5.drew ((Below.refl W5.heap.size W5).drew)).1.size (by omega)
  have HXC:Hid (Below W5.heap.size W5 XC):=Lib.hid (below_then_ ((Below.refl W5.heap.size W5).drew) hbxC)
  have HBNC:Hid (BytesN w3 XC (.slice (some ⟨W5.heap.size,0,none⟩) val.size cC) val.data.toList):=Lib.hid hbnC
  have HBXC:=Lib.hid hbxC
  have HCVC:=Lib.hid hcvC
  have HSC:=Lib.hid (HSP.out XC HXC.out).2
  clear hcvC hbnC hbxC
  obtain ⟨cD,XD,hcvD,hbnD,hbxD⟩:=bytesOf_new w3 XC key (HSP.out XC HXC.out).1.size (by omega)
  have HXD:Hid (Below W5.heap.size W5 XD):=Lib.hid (below_then_ HXC.out hbxD)
  have HBND:Hid (BytesN w3 XD (.slice (some ⟨XC.heap.size,0,none⟩) key.size cD) key.data.toList):=Lib.hid hbnD
  have HBXD:=Lib.hid hbxD
  have HCVD:=Lib.hid hcvD
  have HSD:=Lib.hid (HSP.out XD HXD.out).2
  clear hcvD hbnD hbxD
  have HXF:Hid (Below W5.heap.size W5 (XD.alloc (.cells #[.slice (some ⟨XC.heap.size,0,none⟩) key.size cD,.slice (some ⟨W5.heap.size,0,none⟩) val.size cC] 135))):=Lib.hid (below_then_ HXD.out ((Below.refl _ _).alloc (Nat.le_refl _) _))
  have HSF:=Lib.hid (HSP.out _ HXF.out).2
  have HINF:=Lib.hid (HPE.out.new rfl _ XD.heap.size (.slice (some ⟨XC.heap.size,0,none⟩) key.size cD) (.slice (some ⟨W5.heap.size,0,none⟩) val.size cC) (HSP.out _ HXF.out).1 (heap_alloc_new XD _) (HBND.out.below ((Below.refl _ _).alloc (Nat.le_refl _) _)) ((HBNC.out.below HBXD.out).below ((Below.refl _ _).alloc (Nat.le_refl _) _)))
  clear HBNA HBNB HBNC HBND HBXA HBXB HBXC HBXD HXA HXB HXC HXD
  go_wp2
  refine wp_region_goes (S:=fun W=>W.cell? ⟨sb,0,none⟩=some (.pointer (some ⟨xb,0,none⟩))∧W.cell? ⟨sb,1,none⟩=some (.int .i64 at_)∧W.cell? ⟨xb,2,none⟩=some (.slice arr N cap)) [18] (by kernel_rfl) ?_
  refine Goes.take (i:=0) (v:=.pointer (some ⟨sb,0,none⟩)) rfl (by kernel_rfl) (by kernel_rfl) (by kernel_rfl) (by kernel_rfl) (fun _ _ _ h=>h) (Or.inl ⟨by rfl,fun W hW=>by go_simp⟩) HS0.out ?_
  refine Goes.take (i:=1) (v:=.pointer (some ⟨xb,0,none⟩)) rfl (by kernel_rfl) (by kernel_rfl) (by kernel_rfl) (by kernel_rfl) (fun _ _ _ h=>h) (Or.inl ⟨by rfl,fun W hW=>by have x1:=(HQ.out W hW).1;clear hW;go_simp⟩) HS0.out ?_
  refine Goes.take (i:=2) (v:=.pointer (some ⟨sb,0,none⟩)) rfl (by kernel_rfl) (by kernel_rfl) (by kernel_rfl) (by kernel_rfl) (fun _ _ _ h=>h) (Or.inl ⟨by rfl,fun W hW=>by go_simp⟩) HS0.out ?_
  refine Goes.take (i:=3) (v:=.pointer (some ⟨xb,0,none⟩)) rfl (by kernel_rfl) (by kernel_rfl) (by kernel_rfl) (by kernel_rfl) (fun _ _ _ h=>h) (Or.inl ⟨by rfl,fun W hW=>by have x1:=(HQ.out W hW).1;clear hW;go_simp⟩) HS0.out ?_
  refine Goes.take (i:=4) (v:=.pointer (some ⟨xb,0,none⟩)) rfl (by kernel_rfl) (by kernel_rfl) (by kernel_rfl) (by kernel_rfl) (fun _ _ _ h=>h) (Or.inl ⟨by rfl,fun W hW=>by go_simp⟩) HS0.out ?_
  refine Goes.take (i:=5) (v:=.pointer (some ⟨xb,2,none⟩)) rfl (by kernel_rfl) (by kernel_rfl) (by kernel_rfl) (by kernel_rfl) (fun _ _ _ h=>h) (Or.inl ⟨by rfl,fun W hW=>by go_simp⟩) HS0.out ?_
  refine Goes.take (i:=6) (v:=.slice arr N cap) rfl (by kernel_rfl) (by kernel_rfl) (by kernel_rfl) (by kernel_rfl) (fun _ _ _ h=>h) (Or.inl ⟨by rfl,fun W hW=>by have x1:=(HQ.out W hW).2.2;clear hW;go_simp⟩) HS0.out ?_
  refine Goes.take (i:=7) (v:=.pointer (some ⟨sb,1,none⟩)) rfl (by kernel_rfl) (by kernel_rfl) (by kernel_rfl) (by kernel_rfl) (fun _ _ _ h=>h) (Or.inl ⟨by rfl,fun W hW=>by go_simp⟩) HS0.out ?_
  refine Goes.take (i:=8) (v:=.int .i64 at_) rfl (by kernel_rfl) (by kernel_rfl) (by kernel_rfl) (by kernel_rfl) (fun _ _ _ h=>h) (Or.inl ⟨by rfl,fun W hW=>by have x1:=(HQ.out W hW).2.1;clear hW;go_simp⟩) HS0.out ?_
  refine Goes.take (i:=9) (v:=.string key) rfl (by kernel_rfl) (by kernel_rfl) (by kernel_rfl) (by kernel_rfl) (fun _ _ _ h=>h) (Or.inl ⟨by rfl,fun W hW=>by go_simp⟩) HS0.out ?_
  refine Goes.take (i:=11) (v:=.string val) rfl (by kernel_rfl) (by kernel_rfl) (by kernel_rfl) (by kernel_rfl) (fun _ _ _ h=>h) (Or.inl ⟨by rfl,fun W hW=>by go_simp⟩) HS0.out ?_
  refine Goes.ready (rs:=[10,12]) (by kernel_rfl) (by simp) ?_
  refine AllGo.cons rfl (fun K' hK=>?_) (AllGo.cons rfl (fun K' hK=>?_) AllGo.nil)
  ·clear HINF HSF
   have hcv:=HCVA.out
   go_simp
   clear hcv
   refine hK.out _ _ (fun _=>HSA.out) ?_
   clear hK K'
   refine Goes.ready (rs:=[12]) (by kernel_rfl) (by simp) ?_
   refine AllGo.cons rfl (fun K' hK=>?_) AllGo.nil
   have hcv:=HCVB.out
   go_simp
   clear hcv
   refine hK.out _ _ (fun _=>HSB.out) ?_
   clear hK K'
   refine Goes.take (i:=13) (v:=.agg #[.slice (some ⟨W5.heap.size,0,none⟩) key.size cA,.slice (some ⟨XA.heap.size,0,none⟩) val.size cB]) rfl (by kernel_rfl) (by kernel_rfl) (by kernel_rfl) (by kernel_rfl) (fun _ _ _ h=>h) (Or.inl ⟨by rfl,fun W hW=>by go_simp⟩) HSB.out ?_
   refine Goes.ready (rs:=[14]) (by kernel_rfl) (by simp) ?_
   refine AllGo.cons rfl (fun K' hK=>?_) AllGo.nil
   go_simp
   refine hK.out _ _ (fun _=>HSE.out) ?_
   clear hK K'
   refine Goes.ready (rs:=[15]) (by kernel_rfl) (by simp) ?_
   refine AllGo.cons rfl (fun K' hK=>?_) AllGo.nil
   go_simp
   go_at_call 80
   refine HINE.out.mono ?_
   rintro e w7 ⟨g,c7,rfl,hb7,hZ⟩
   have HZ:=Lib.hid hZ
   have HS7:=Lib.hid (HSP.out w7 (below_then_ HXE.out hb7)).2
   have hfz:=(HPE.out.node w7 (HSP.out w7 (below_then_ HXE.out hb7)).1).2.2
   clear hb7 hZ
   refine hK.out _ _ (fun _=>HS7.out) ?_
   clear hK K'
   refine Goes.ready (rs:=[16]) (by kernel_rfl) (by simp) ?_
   refine AllGo.cons rfl (fun K' hK=>?_) AllGo.nil
   go_simp
   refine hK.out _ _ (fun _=>HS7.out) ?_
   clear hK K'
   refine Goes.ready (rs:=[17]) (by kernel_rfl) (by simp) ?_
   refine AllGo.cons rfl (fun K' hK=>?_) AllGo.nil
   go_simp
   refine hK.out _ _ (fun _=>HS7.out) ?_
   clear hK K'
   refine Goes.ready (rs:=[18]) (by kernel_rfl) (by simp) ?_
   refine AllGo.cons rfl (fun K' hK=>?_) AllGo.nil
   have hcx:=(HQ.out w7 HS7.out).2.2
   go_simp
   clear hcx
   refine hK.out _ _ (fun h=>absurd h (by decide)) ?_
   clear hK K'
   refine Goes.done (by kernel_rfl) ?_ _
   have HST:=Lib.hid (HZ.out _ (Below.refl _ _))
   clear HZ
   go_wp2_with fail
   refine HST.out.mono ?_
   rintro e w8 ⟨rfl,hp⟩
   have HP:=Lib.hid hp
   clear hp
   go_wp2
   go_ret2
   exact ⟨by rw [← HHE.out];rfl,HP.out⟩
  ·clear HINE HSE
   have hcv:=HCVC.out
   go_simp
   clear hcv
   refine hK.out _ _ (fun _=>HSC.out) ?_
   clear hK K'
   refine Goes.ready (rs:=[10]) (by kernel_rfl) (by simp) ?_
   refine AllGo.cons rfl (fun K' hK=>?_) AllGo.nil
   have hcv:=HCVD.out
   go_simp
   clear hcv
   refine hK.out _ _ (fun _=>HSD.out) ?_
   clear hK K'
   refine Goes.take (i:=13) (v:=.agg #[.slice (some ⟨XC.heap.size,0,none⟩) key.size cD,.slice (some ⟨W5.heap.size,0,none⟩) val.size cC]) rfl (by kernel_rfl) (by kernel_rfl) (by kernel_rfl) (by kernel_rfl) (fun _ _ _ h=>h) (Or.inl ⟨by rfl,fun W hW=>by go_simp⟩) HSD.out ?_
   refine Goes.ready (rs:=[14]) (by kernel_rfl) (by simp) ?_
   refine AllGo.cons rfl (fun K' hK=>?_) AllGo.nil
   go_simp
   refine hK.out _ _ (fun _=>HSF.out) ?_
   clear hK K'
   refine Goes.ready (rs:=[15]) (by kernel_rfl) (by simp) ?_
   refine AllGo.cons rfl (fun K' hK=>?_) AllGo.nil
   go_simp
   go_at_call 80
   refine HINF.out.mono ?_
   rintro e w7 ⟨g,c7,rfl,hb7,hZ⟩
   have HZ:=Lib.hid hZ
   have HS7:=Lib.hid (HSP.out w7 (below_then_ HXF.out hb7)).2
   have hfz:=(HPE.out.node w7 (HSP.out w7 (below_then_ HXF.out hb7)).1).2.2
   clear hb7 hZ
   refine hK.out _ _ (fun _=>HS7.out) ?_
   clear hK K'
   refine Goes.ready (rs:=[16]) (by kernel_rfl) (by simp) ?_
   refine AllGo.cons rfl (fun K' hK=>?_) AllGo.nil
   go_simp
   refine hK.out _ _ (fun _=>HS7.out) ?_
   clear hK K'
   refine Goes.ready (rs:=[17]) (by kernel_rfl) (by simp) ?_
   refine AllGo.cons rfl (fun K' hK=>?_) AllGo.nil
   go_simp
   refine hK.out _ _ (fun _=>HS7.out) ?_
   clear hK K'
   refine Goes.ready (rs:=[18]) (by kernel_rfl) (by simp) ?_
   refine AllGo.cons rfl (fun K' hK=>?_) AllGo.nil
   have hcx:=(HQ.out w7 HS7.out).2.2
   go_simp
   clear hcx
   refine hK.out _ _ (fun h=>absurd h (by decide)) ?_
   clear hK K'
   refine Goes.done (by kernel_rfl) ?_ _
   have HST:=Lib.hid (HZ.out _ (Below.refl _ _))
   clear HZ
   go_wp2_with fail
   refine HST.out.mono ?_
   rintro e w8 ⟨rfl,hp⟩
   have HP:=Lib.hid hp
   clear hp
   go_wp2
   go_ret2
   exact ⟨by rw [← HHE.out];rfl,HP.out⟩
 ·have hne0:((rt:Int) == 0)=false:=by simp;omega
  cases held with
  | false =>
   go_wp2_with (go_at_call 79;refine (HPE.out.end_ _ (Below.refl _ _)).mono ?_;rintro e w4 ⟨rfl,hb4⟩)
   obtain ⟨W5,hW5⟩:∃ W5,W5=w4.alloc (.cells #[.pointer (some ⟨xb,0,none⟩),.int .i64 at_] 133):=⟨_,rfl⟩
   obtain ⟨sb,hsb⟩:∃ sb,sb=w4.heap.size:=⟨_,rfl⟩
   have HSP:Hid (∀ W,Below W5.heap.size W5 W→Below w2.heap.size w2 W∧W.cell? ⟨sb,0,none⟩=some (.pointer (some ⟨xb,0,none⟩))∧W.cell? ⟨sb,1,none⟩=some (.int .i64 at_)∧W.cell? ⟨xb,2,none⟩=some (.slice arr N cap)):=Lib.hid (by rw [hW5,hsb];exact HPE.out.stepped hb4)
   rw [← hW5,← hsb]
   clear hb4 hW5 hsb
   have HQ:Hid (∀ W:World,(W.cell? ⟨sb,0,none⟩=some (.pointer (some ⟨xb,0,none⟩))∧W.cell? ⟨sb,1,none⟩=some (.int .i64 at_)∧W.cell? ⟨xb,2,none⟩=some (.slice arr N cap))→W.cell? ⟨sb,0,none⟩=some (.pointer (some ⟨xb,0,none⟩))∧W.cell? ⟨sb,1,none⟩=some (.int .i64 at_)∧W.cell? ⟨xb,2,none⟩=some (.slice arr N cap)):=Lib.hid fun _ h=>h
   have HS0:Hid (W5.drew.cell? ⟨sb,0,none⟩=some (.pointer (some ⟨xb,0,none⟩))∧W5.drew.cell? ⟨sb,1,none⟩=some (.int .i64 at_)∧W5.drew.cell? ⟨xb,2,none⟩=some (.slice arr N cap)):=Lib.hid (HSP.out _ (Below.refl _ _).drew).2
   obtain ⟨cA,XA,hcvA,hbnA,hbxA⟩:=bytesOf_new w2 W5.drew key (HSP.out W5.drew ((Below.refl W5.heap.size W5).drew)).1.size (by omega)
   have HXA:Hid (Below W5.heap.size W5 XA):=Lib.hid (below_then_ ((Below.refl W5.heap.size W5).drew) hbxA)
   have HBNA:Hid (BytesN w2 XA (.slice (some ⟨W5.heap.size,0,none⟩) key.size cA) key.data.toList):=Lib.hid hbnA
   have HBXA:=Lib.hid hbxA
   have HCVA:=Lib.hid hcvA
   have HSA:=Lib.hid (HSP.out XA HXA.out).2
   clear hcvA hbnA hbxA
   obtain ⟨cB,XB,hcvB,hbnB,hbxB⟩:=bytesOf_new w2 XA val (HSP.out XA HXA.out).1.size (by omega)
   have HXB:Hid (Below W5.heap.size W5 XB):=Lib.hid (below_then_ HXA.out hbxB)
   have HBNB:Hid (BytesN w2 XB (.slice (some ⟨XA.heap.size,0,none⟩) val.size cB) val.data.toList):=Lib.hid hbnB
   have HBXB:=Lib.hid hbxB
   have HCVB:=Lib.hid hcvB
   have HSB:=Lib.hid (HSP.out XB HXB.out).2
   clear hcvB hbnB hbxB
   have HXE:Hid (Below W5.heap.size W5 (XB.alloc (.cells #[.slice (some ⟨W5.heap.size,0,none⟩) key.size cA,.slice (some ⟨XA.heap.size,0,none⟩) val.size cB] 135))):=Lib.hid (below_then_ HXB.out ((Below.refl _ _).alloc (Nat.le_refl _) _))
   have HSE:=Lib.hid (HSP.out _ HXE.out).2
   have HINE:=Lib.hid (HPE.out.new rfl _ XB.heap.size (.slice (some ⟨W5.heap.size,0,none⟩) key.size cA) (.slice (some ⟨XA.heap.size,0,none⟩) val.size cB) (HSP.out _ HXE.out).1 (heap_alloc_new XB _) ((HBNA.out.below HBXB.out).below ((Below.refl _ _).alloc (Nat.le_refl _) _)) (HBNB.out.below ((Below.refl _ _).alloc (Nat.le_refl _) _)))
   obtain ⟨cC,XC,hcvC,hbnC,hbxC⟩:=bytesOf_new w2 W5.drew val (HSP.out W5.drew ((Below.refl W5.heap.size W5).drew)).1.size (by omega)
   have HXC:Hid (Below W5.heap.size W5 XC):=Lib.hid (below_then_ ((Below.refl W5.heap.size W5).drew) hbxC)
   have HBNC:Hid (BytesN w2 XC (.slice (some ⟨W5.heap.size,0,none⟩) val.size cC) val.data.toList):=Lib.hid hbnC
   have HBXC:=Lib.hid hbxC
   have HCVC:=Lib.hid hcvC
   have HSC:=Lib.hid (HSP.out XC HXC.out).2
   clear hcvC hbnC hbxC
   obtain ⟨cD,XD,hcvD,hbnD,hbxD⟩:=bytesOf_new w2 XC key (HSP.out XC HXC.out).1.size (by omega)
   have HXD:Hid (Below W5.heap.size W5 XD):=Lib.hid (below_then_ HXC.out hbxD)
   have HBND:Hid (BytesN w2 XD (.slice (some ⟨XC.heap.size,0,none⟩) key.size cD) key.data.toList):=Lib.hid hbnD
   have HBXD:=Lib.hid hbxD
   have HCVD:=Lib.hid hcvD
   have HSD:=Lib.hid (HSP.out XD HXD.out).2
   clear hcvD hbnD hbxD
   have HXF:Hid (Below W5.heap.size W5 (XD.alloc (.cells #[.slice (some ⟨XC.heap.size,0,none⟩) key.size cD,.slice (some ⟨W5.heap.size,0,none⟩) val.size cC] 135))):=Lib.hid (below_then_ HXD.out ((Below.refl _ _).alloc (Nat.le_refl _) _))
   have HSF:=Lib.hid (HSP.out _ HXF.out).2
   have HINF:=Lib.hid (HPE.out.new rfl _ XD.heap.size (.slice (some ⟨XC.heap.size,0,none⟩) key.size cD) (.slice (some ⟨W5.heap.size,0,none⟩) val.size cC) (HSP.out _ HXF.out).1 (heap_alloc_new XD _) (HBND.out.below ((Below.refl _ _).alloc (Nat.le_refl _) _)) ((HBNC.out.below HBXD.out).below ((Below.refl _ _).alloc (Nat.le_refl _) _)))
   clear HBNA HBNB HBNC HBND HBXA HBXB HBXC HBXD HXA HXB HXC HXD
   go_wp2
   refine wp_region_goes (S:=fun W=>W.cell? ⟨sb,0,none⟩=some (.pointer (some ⟨xb,0,none⟩))∧W.cell? ⟨sb,1,none⟩=some (.int .i64 at_)∧W.cell? ⟨xb,2,none⟩=some (.slice arr N cap)) [18] (by kernel_rfl) ?_
   refine Goes.take (i:=0) (v:=.pointer (some ⟨sb,0,none⟩)) rfl (by kernel_rfl) (by kernel_rfl) (by kernel_rfl) (by kernel_rfl) (fun _ _ _ h=>h) (Or.inl ⟨by rfl,fun W hW=>by go_simp⟩) HS0.out ?_
   refine Goes.take (i:=1) (v:=.pointer (some ⟨xb,0,none⟩)) rfl (by kernel_rfl) (by kernel_rfl) (by kernel_rfl) (by kernel_rfl) (fun _ _ _ h=>h) (Or.inl ⟨by rfl,fun W hW=>by have x1:=(HQ.out W hW).1;clear hW;go_simp⟩) HS0.out ?_
   refine Goes.take (i:=2) (v:=.pointer (some ⟨sb,0,none⟩)) rfl (by kernel_rfl) (by kernel_rfl) (by kernel_rfl) (by kernel_rfl) (fun _ _ _ h=>h) (Or.inl ⟨by rfl,fun W hW=>by go_simp⟩) HS0.out ?_
   refine Goes.take (i:=3) (v:=.pointer (some ⟨xb,0,none⟩)) rfl (by kernel_rfl) (by kernel_rfl) (by kernel_rfl) (by kernel_rfl) (fun _ _ _ h=>h) (Or.inl ⟨by rfl,fun W hW=>by have x1:=(HQ.out W hW).1;clear hW;go_simp⟩) HS0.out ?_
   refine Goes.take (i:=4) (v:=.pointer (some ⟨xb,0,none⟩)) rfl (by kernel_rfl) (by kernel_rfl) (by kernel_rfl) (by kernel_rfl) (fun _ _ _ h=>h) (Or.inl ⟨by rfl,fun W hW=>by go_simp⟩) HS0.out ?_
   refine Goes.take (i:=5) (v:=.pointer (some ⟨xb,2,none⟩)) rfl (by kernel_rfl) (by kernel_rfl) (by kernel_rfl) (by kernel_rfl) (fun _ _ _ h=>h) (Or.inl ⟨by rfl,fun W hW=>by go_simp⟩) HS0.out ?_
   refine Goes.take (i:=6) (v:=.slice arr N cap) rfl (by kernel_rfl) (by kernel_rfl) (by kernel_rfl) (by kernel_rfl) (fun _ _ _ h=>h) (Or.inl ⟨by rfl,fun W hW=>by have x1:=(HQ.out W hW).2.2;clear hW;go_simp⟩) HS0.out ?_
   refine Goes.take (i:=7) (v:=.pointer (some ⟨sb,1,none⟩)) rfl (by kernel_rfl) (by kernel_rfl) (by kernel_rfl) (by kernel_rfl) (fun _ _ _ h=>h) (Or.inl ⟨by rfl,fun W hW=>by go_simp⟩) HS0.out ?_
   refine Goes.take (i:=8) (v:=.int .i64 at_) rfl (by kernel_rfl) (by kernel_rfl) (by kernel_rfl) (by kernel_rfl) (fun _ _ _ h=>h) (Or.inl ⟨by rfl,fun W hW=>by have x1:=(HQ.out W hW).2.1;clear hW;go_simp⟩) HS0.out ?_
   refine Goes.take (i:=9) (v:=.string key) rfl (by kernel_rfl) (by kernel_rfl) (by kernel_rfl) (by kernel_rfl) (fun _ _ _ h=>h) (Or.inl ⟨by rfl,fun W hW=>by go_simp⟩) HS0.out ?_
   refine Goes.take (i:=11) (v:=.string val) rfl (by kernel_rfl) (by kernel_rfl) (by kernel_rfl) (by kernel_rfl) (fun _ _ _ h=>h) (Or.inl ⟨by rfl,fun W hW=>by go_simp⟩) HS0.out ?_
   refine Goes.ready (rs:=[10,12]) (by kernel_rfl) (by simp) ?_
   refine AllGo.cons rfl (fun K' hK=>?_) (AllGo.cons rfl (fun K' hK=>?_) AllGo.nil)
   ·clear HINF HSF
    have hcv:=HCVA.out
    go_simp
    clear hcv
    refine hK.out _ _ (fun _=>HSA.out) ?_
    clear hK K'
    refine Goes.ready (rs:=[12]) (by kernel_rfl) (by simp) ?_
    refine AllGo.cons rfl (fun K' hK=>?_) AllGo.nil
    have hcv:=HCVB.out
    go_simp
    clear hcv
    refine hK.out _ _ (fun _=>HSB.out) ?_
    clear hK K'
    refine Goes.take (i:=13) (v:=.agg #[.slice (some ⟨W5.heap.size,0,none⟩) key.size cA,.slice (some ⟨XA.heap.size,0,none⟩) val.size cB]) rfl (by kernel_rfl) (by kernel_rfl) (by kernel_rfl) (by kernel_rfl) (fun _ _ _ h=>h) (Or.inl ⟨by rfl,fun W hW=>by go_simp⟩) HSB.out ?_
    refine Goes.ready (rs:=[14]) (by kernel_rfl) (by simp) ?_
    refine AllGo.cons rfl (fun K' hK=>?_) AllGo.nil
    go_simp
    refine hK.out _ _ (fun _=>HSE.out) ?_
    clear hK K'
    refine Goes.ready (rs:=[15]) (by kernel_rfl) (by simp) ?_
    refine AllGo.cons rfl (fun K' hK=>?_) AllGo.nil
    go_simp
    go_at_call 80
    refine HINE.out.mono ?_
    rintro e w7 ⟨g,c7,rfl,hb7,hZ⟩
    have HZ:=Lib.hid hZ
    have HS7:=Lib.hid (HSP.out w7 (below_then_ HXE.out hb7)).2
    have hfz:=(HPE.out.node w7 (HSP.out w7 (below_then_ HXE.out hb7)).1).2.2
    clear hb7 hZ
    refine hK.out _ _ (fun _=>HS7.out) ?_
    clear hK K'
    refine Goes.ready (rs:=[16]) (by kernel_rfl) (by simp) ?_
    refine AllGo.cons rfl (fun K' hK=>?_) AllGo.nil
    go_simp
    refine hK.out _ _ (fun _=>HS7.out) ?_
    clear hK K'
    refine Goes.ready (rs:=[17]) (by kernel_rfl) (by simp) ?_
    refine AllGo.cons rfl (fun K' hK=>?_) AllGo.nil
    go_simp
    refine hK.out _ _ (fun _=>HS7.out) ?_
    clear hK K'
    refine Goes.ready (rs:=[18]) (by kernel_rfl) (by simp) ?_
    refine AllGo.cons rfl (fun K' hK=>?_) AllGo.nil
    have hcx:=(HQ.out w7 HS7.out).2.2
    go_simp
    clear hcx
    refine hK.out _ _ (fun h=>absurd h (by decide)) ?_
    clear hK K'
    refine Goes.done (by kernel_rfl) ?_ _
    have HST:=Lib.hid (HZ.out _ (Below.refl _ _))
    clear HZ
    go_wp2_with fail
    refine HST.out.mono ?_
    rintro e w8 ⟨rfl,hp⟩
    have HP:=Lib.hid hp
    clear hp
    go_wp2
    go_ret2
    exact ⟨by rw [← HHE.out];rfl,HP.out⟩
   ·clear HINE HSE
    have hcv:=HCVC.out
    go_simp
    clear hcv
    refine hK.out _ _ (fun _=>HSC.out) ?_
    clear hK K'
    refine Goes.ready (rs:=[10]) (by kernel_rfl) (by simp) ?_
    refine AllGo.cons rfl (fun K' hK=>?_) AllGo.nil
    have hcv:=HCVD.out
    go_simp
    clear hcv
    refine hK.out _ _ (fun _=>HSD.out) ?_
    clear hK K'
    refine Goes.take (i:=13) (v:=.agg #[.slice (some ⟨XC.heap.size,0,none⟩) key.size cD,.slice (some ⟨W5.heap.size,0,none⟩) val.size cC]) rfl (by kernel_rfl) (by kernel_rfl) (by kernel_rfl) (by kernel_rfl) (fun _ _ _ h=>h) (Or.inl ⟨by rfl,fun W hW=>by go_simp⟩) HSD.out ?_
    refine Goes.ready (rs:=[14]) (by kernel_rfl) (by simp) ?_
    refine AllGo.cons rfl (fun K' hK=>?_) AllGo.nil
    go_simp
    refine hK.out _ _ (fun _=>HSF.out) ?_
    clear hK K'
    refine Goes.ready (rs:=[15]) (by kernel_rfl) (by simp) ?_
    refine AllGo.cons rfl (fun K' hK=>?_) AllGo.nil
    go_simp
    go_at_call 80
    refine HINF.out.mono ?_
    rintro e w7 ⟨g,c7,rfl,hb7,hZ⟩
    have HZ:=Lib.hid hZ
    have HS7:=Lib.hid (HSP.out w7 (below_then_ HXF.out hb7)).2
    have hfz:=(HPE.out.node w7 (HSP.out w7 (below_then_ HXF.out hb7)).1).2.2
    clear hb7 hZ
    refine hK.out _ _ (fun _=>HS7.out) ?_
    clear hK K'
    refine Goes.ready (rs:=[16]) (by kernel_rfl) (by simp) ?_
    refine AllGo.cons rfl (fun K' hK=>?_) AllGo.nil
    go_simp
    refine hK.out _ _ (fun _=>HS7.out) ?_
    clear hK K'
    refine Goes.ready (rs:=[17]) (by kernel_rfl) (by simp) ?_
    refine AllGo.cons rfl (fun K' hK=>?_) AllGo.nil
    go_simp
    refine hK.out _ _ (fun _=>HS7.out) ?_
    clear hK K'
    refine Goes.ready (rs:=[18]) (by kernel_rfl) (by simp) ?_
    refine AllGo.cons rfl (fun K' hK=>?_) AllGo.nil
    have hcx:=(HQ.out w7 HS7.out).2.2
    go_simp
    clear hcx
    refine hK.out _ _ (fun h=>absurd h (by decide)) ?_
    clear hK K'
    refine Goes.done (by kernel_rfl) ?_ _
    have HST:=Lib.hid (HZ.out _ (Below.refl _ _))
    clear HZ
    go_wp2_with fail
    refine HST.out.mono ?_
    rintro e w8 ⟨rfl,hp⟩
    have HP:=Lib.hid hp
    clear hp
    go_wp2
    go_ret2
    exact ⟨by rw [← HHE.out];rfl,HP.out⟩
  | true =>
   obtain ⟨hlt,g,rfl,hgl,hold⟩:=HPE.out.old rfl
   have HOLD:=Lib.hid hold
   clear hold
   go_wp2_with (go_at_call 79;refine (HPE.out.end_ _ (Below.refl _ _)).mono ?_;rintro e w4 ⟨rfl,hb4⟩)
   obtain ⟨W5,hW5⟩:∃ W5,W5=w4.alloc (.cells #[.pointer (some ⟨xb,0,none⟩),.int .i64 at_] 133):=⟨_,rfl⟩
   obtain ⟨sb,hsb⟩:∃ sb,sb=w4.heap.size:=⟨_,rfl⟩
   have HSP:Hid (∀ W,Below W5.heap.size W5 W→Below w2.heap.size w2 W∧W.cell? ⟨sb,0,none⟩=some (.pointer (some ⟨xb,0,none⟩))∧W.cell? ⟨sb,1,none⟩=some (.int .i64 at_)∧W.cell? ⟨xb,2,none⟩=some (.slice (some ⟨g,0,none⟩) N cap)):=Lib.hid (by rw [hW5,hsb];exact HPE.out.stepped hb4)
   rw [← hW5,← hsb]
   clear hb4 hW5 hsb
   have HQ:Hid (∀ W:World,(W.cell? ⟨sb,0,none⟩=some (.pointer (some ⟨xb,0,none⟩))∧W.cell? ⟨sb,1,none⟩=some (.int .i64 at_)∧W.cell? ⟨xb,2,none⟩=some (.slice (some ⟨g,0,none⟩) N cap))→W.cell? ⟨sb,0,none⟩=some (.pointer (some ⟨xb,0,none⟩))∧W.cell? ⟨sb,1,none⟩=some (.int .i64 at_)∧W.cell? ⟨xb,2,none⟩=some (.slice (some ⟨g,0,none⟩) N cap)):=Lib.hid fun _ h=>h
   have HS0:Hid (W5.drew.cell? ⟨sb,0,none⟩=some (.pointer (some ⟨xb,0,none⟩))∧W5.drew.cell? ⟨sb,1,none⟩=some (.int .i64 at_)∧W5.drew.cell? ⟨xb,2,none⟩=some (.slice (some ⟨g,0,none⟩) N cap)):=Lib.hid (HSP.out _ (Below.refl _ _).drew).2
   obtain ⟨cV,X8,hcv8,hbn8,hbx8⟩:=bytesOf_new w2 W5.drew val (HSP.out W5.drew ((Below.refl W5.heap.size W5).drew)).1.size (by omega)
   have HX8:Hid (Below W5.heap.size W5 X8):=Lib.hid (below_then_ ((Below.refl W5.heap.size W5).drew) hbx8)
   have HS8:=Lib.hid (HSP.out X8 HX8.out).2
   obtain ⟨hfz,⟨u8,hu8⟩,hZ⟩:=HOLD.out X8 _ (HSP.out X8 HX8.out).1 hbn8
   have HZ:=Lib.hid hZ
   have HCV:=Lib.hid hcv8
   have hati:(at_:Int) < (N:Int):=by omega
   clear hcv8 hbn8 hbx8 hZ HOLD
   go_wp2
   refine wp_region_goes (S:=fun W=>W.cell? ⟨sb,0,none⟩=some (.pointer (some ⟨xb,0,none⟩))∧W.cell? ⟨sb,1,none⟩=some (.int .i64 at_)∧W.cell? ⟨xb,2,none⟩=some (.slice (some ⟨g,0,none⟩) N cap)) [11] (by kernel_rfl) ?_
   refine Goes.take (i:=0) (v:=.pointer (some ⟨sb,0,none⟩)) rfl (by kernel_rfl) (by kernel_rfl) (by kernel_rfl) (by kernel_rfl) (fun _ _ _ h=>h) (Or.inl ⟨by rfl,fun W hW=>by go_simp⟩) HS0.out ?_
   refine Goes.take (i:=1) (v:=.pointer (some ⟨xb,0,none⟩)) rfl (by kernel_rfl) (by kernel_rfl) (by kernel_rfl) (by kernel_rfl) (fun _ _ _ h=>h) (Or.inl ⟨by rfl,fun W hW=>by have x1:=(HQ.out W hW).1;clear hW;go_simp⟩) HS0.out ?_
   refine Goes.take (i:=2) (v:=.pointer (some ⟨xb,0,none⟩)) rfl (by kernel_rfl) (by kernel_rfl) (by kernel_rfl) (by kernel_rfl) (fun _ _ _ h=>h) (Or.inl ⟨by rfl,fun W hW=>by go_simp⟩) HS0.out ?_
   refine Goes.take (i:=3) (v:=.pointer (some ⟨xb,2,none⟩)) rfl (by kernel_rfl) (by kernel_rfl) (by kernel_rfl) (by kernel_rfl) (fun _ _ _ h=>h) (Or.inl ⟨by rfl,fun W hW=>by go_simp⟩) HS0.out ?_
   refine Goes.take (i:=4) (v:=.slice (some ⟨g,0,none⟩) N cap) rfl (by kernel_rfl) (by kernel_rfl) (by kernel_rfl) (by kernel_rfl) (fun _ _ _ h=>h) (Or.inl ⟨by rfl,fun W hW=>by have x1:=(HQ.out W hW).2.2;clear hW;go_simp⟩) HS0.out ?_
   refine Goes.take (i:=5) (v:=.pointer (some ⟨sb,1,none⟩)) rfl (by kernel_rfl) (by kernel_rfl) (by kernel_rfl) (by kernel_rfl) (fun _ _ _ h=>h) (Or.inl ⟨by rfl,fun W hW=>by go_simp⟩) HS0.out ?_
   refine Goes.take (i:=6) (v:=.int .i64 at_) rfl (by kernel_rfl) (by kernel_rfl) (by kernel_rfl) (by kernel_rfl) (fun _ _ _ h=>h) (Or.inl ⟨by rfl,fun W hW=>by have x1:=(HQ.out W hW).2.1;clear hW;go_simp⟩) HS0.out ?_
   refine Goes.take (i:=7) (v:=.string val) rfl (by kernel_rfl) (by kernel_rfl) (by kernel_rfl) (by kernel_rfl) (fun _ _ _ h=>h) (Or.inl ⟨by rfl,fun W hW=>by go_simp⟩) HS0.out ?_
   refine Goes.ready (rs:=[8]) (by kernel_rfl) (by simp) ?_
   refine AllGo.cons rfl (fun K' hK=>?_) AllGo.nil
   have hcv:=HCV.out
   go_simp
   clear hcv
   refine hK.out _ _ (fun _=>HS8.out) ?_
   clear hK K'
   refine Goes.ready (rs:=[9]) (by kernel_rfl) (by simp) ?_
   refine AllGo.cons rfl (fun K' hK=>?_) AllGo.nil
   go_simp
   refine hK.out _ _ (fun _=>HS8.out) ?_
   clear hK K'
   refine Goes.ready (rs:=[10]) (by kernel_rfl) (by simp) ?_
   refine AllGo.cons rfl (fun K' hK=>?_) AllGo.nil
   go_simp
   refine hK.out _ _ (fun _=>HS8.out) ?_
   clear hK K'
   refine Goes.ready (rs:=[11]) (by kernel_rfl) (by simp) ?_
   refine AllGo.cons rfl (fun K' hK=>?_) AllGo.nil
   go_simp
   refine hK.out _ _ (fun h=>absurd h (by decide)) ?_
   clear hK K'
   refine Goes.done (by kernel_rfl) ?_ _
   have HST:=Lib.hid (HZ.out _ (Below.refl _ _))
   clear HZ
   go_wp2_with fail
   refine HST.out.mono ?_
   rintro e w8 ⟨rfl,hp⟩
   have HP:=Lib.hid hp
   clear hp
   go_wp2
   go_ret2
   exact ⟨by rw [← HHE.out];rfl,HP.out⟩
end
theorem add_plain2 (b off i:Nat):(⟨b,off,none⟩:Addr).add i=⟨b,off+i,none⟩:=Addr.add_lit _ _ _
def itC (e:En):List Value:=[.string ⟨e.key.toArray⟩,.string ⟨e.val.toArray⟩]
def ItV (w:World) (v:Value) (l:List En):Prop:=w.ownsRow 0 89 2 v l.length (l.flatMap itC)
theorem infoItem:(Tryz.prog.info? 89).map (fun i=>(i.zero,i.size,i.bytes))=some (some (.agg #[.string ⟨#[]⟩,.string ⟨#[]⟩]),2,32):=by kernel_rfl
theorem itC_len (l:List En):(l.flatMap itC).length=l.length*2:=by
 induction l with
 | nil=>rfl
 | cons x r ih=>rw [List.flatMap_cons,List.length_append,ih];simp [itC];omega
theorem ItV.nil_ (w:World):ItV w (.slice none 0 0) []:=World.ownsRow_nil _ _ _ _
theorem itC_at {e:En}:∀ (l:List En) (j:Nat),l[j]? = some e→(l.flatMap itC)[j*2]? = some (.string ⟨e.key.toArray⟩)∧(l.flatMap itC)[j*2+1]? = some (.string ⟨e.val.toArray⟩)
 | [],_,h=>by cases h
 | y :: r,0,h=>by
  simp only [List.getElem?_cons_zero,Option.some.injEq] at h
  subst h
  simp [itC]
 | y :: r,j+1,h=>by
  have:=itC_at r j (by simpa using h)
  rw [List.flatMap_cons]
  have e1:(j+1)*2=(itC y).length+j*2:=by simp [itC];omega
  rw [e1,List.getElem?_append_right (by omega),Nat.add_sub_cancel_left,Nat.add_assoc,List.getElem?_append_right (by omega),Nat.add_sub_cancel_left]
  exact this
section
variable {w w':World} {v:Value} {l:List En}
theorem ItV.shape (h:ItV w v l):(v=.slice none 0 0∧l=[])∨∃ g c,v=.slice (some ⟨g,0,none⟩) l.length c∧g < w.heap.size∧l.length≤c∧c≤maxLen:=by
 rcases h.2 with ⟨h1,h2⟩ | ⟨g,cap,cur,h1,_,hh,h3,h4,_⟩
 ·exact .inl ⟨h1,List.eq_nil_of_length_eq_zero h2⟩
 ·exact .inr ⟨g,cap,h1,(Array.getElem?_eq_some_iff.1 hh).1,h3,h4⟩
theorem ItV.slice (h:ItV w v l):∃ A c,v=.slice A l.length c∧l.length≤c∧c≤maxLen:=by
 rcases h.shape with ⟨h1,rfl⟩ | ⟨g,c,h1,_,h2,h3⟩
 ·exact ⟨none,0,h1,Nat.le_refl _,Nat.zero_le _⟩
 ·exact ⟨_,c,h1,h2,h3⟩
theorem ItV.at_ (h:ItV w v l) {j:Nat} {e:En} (hj:l[j]? = some e):∃ g c,v=.slice (some ⟨g,0,none⟩) l.length c∧g < w.heap.size∧w.cell? ⟨g,j*2,none⟩=some (.string ⟨e.key.toArray⟩)∧w.cell? ⟨g,j*2+1,none⟩=some (.string ⟨e.val.toArray⟩):=by
 rcases h.shape with ⟨_,rfl⟩ | ⟨g,c,rfl,h2,_⟩
 ·cases hj
 ·have hcell:∀ i u,(l.flatMap itC)[i]? = some u→w.cell? ⟨g,i,none⟩=some u:=fun i u hu=>by
   have:=World.ownsRow.cells (w:=w) h (g:=g) rfl i u hu
   rw [add_plain2,Nat.zero_add] at this
   exact this
  obtain ⟨c1,c2⟩:=itC_at l j hj
  exact ⟨g,c,rfl,h2,hcell _ _ c1,hcell _ _ c2⟩
theorem ItV.lt (h:ItV w v l):∀ g,v.ownBlock=some g→g < w.heap.size:=fun g hg=>(World.ownsRow.lt h g hg).2
theorem ItV.kept {T:Nat→Prop} (h:ItV w v l) (hk:Kept T w w') (hT:∀ g,v.ownBlock=some g→¬ T g):ItV w' v l :=
 ownsRow_of_block h fun k hk'=>hk.block k (h.lt k hk') (hT k hk')
theorem ItV.below (h:ItV w v l) (hb:Below w.heap.size w w'):ItV w' v l:=h.kept (Kept.ofBelow (S:=fun _=>False) hb) (fun _ _ h=>h)
theorem append_items (w:World) (ty:TypeId) (v:Value) (l qs:List En) (h:ItV w v l) (ad:Addr) (c:Nat) (hq:∀ j u,(qs.flatMap itC)[j]? = some u→w.cell? (ad.add j)=some u) (hl:l.length+qs.length≤100000) :
  ∃ v' w',(Builtin.append_ #[74,74] ty #[v,.slice (some ad) qs.length c]).run Tryz.prog w=.ok v' w'∧ItV w' v' (l++qs)∧Grew w w' v v':=by
 obtain ⟨i0,hi,q0,q1,q2⟩:=info_parts infoItem
 obtain ⟨v',w',hr,h1,h2⟩:=append_own2 w 74 ty 89 i0 (.agg #[.string ⟨#[]⟩,.string ⟨#[]⟩]) 2 32 Tryz.underlying74 hi q0 q1 q2 rfl (by decide) v l.length (l.flatMap itC) h ad qs.length c (qs.flatMap itC) (itC_len qs) hq (fun u hu=>by
  obtain ⟨e,_,he⟩:=List.mem_flatMap.1 hu
  simp only [itC,List.mem_cons,List.not_mem_nil,or_false] at he
  rcases he with rfl | rfl <;> rfl) (by unfold maxLen;omega) (by omega) (by omega)
 refine ⟨v',w',hr,?_,h2⟩
 unfold ItV
 rw [List.flatMap_append,List.length_append]
 exact h1
theorem append_none (w:World) (ty:TypeId) (v:Value) (l:List En) (h:ItV w v l) :
  ∃ v',(Builtin.append_ #[74,74] ty #[v,.slice none 0 0]).run Tryz.prog w=.ok v' w∧v'=v:=by
 obtain ⟨i0,hi,q0,q1,q2⟩:=info_parts infoItem
 exact ⟨_,run_append_owned_none (P:=Tryz.prog) (w:=w) 0 74 ty 89 i0 2 Tryz.underlying74 hi v l.length (l.flatMap itC) h,rfl⟩
structure NewI (n:Nat) (w:World) (v:Value) (l:List En):Prop where
 is:ItV w v l
 new:∀ g,v.ownBlock=some g→n≤g
theorem NewI.nil_ (n:Nat) (w:World):NewI n w (.slice none 0 0) []:=⟨ItV.nil_ w,fun g hg=>by simp [Value.ownBlock] at hg⟩
theorem NewI.below {n:Nat} (h:NewI n w v l) (hb:Below w.heap.size w w'):NewI n w' v l:=⟨h.is.below hb,h.new⟩
theorem append_new {n:Nat} (ty:TypeId) (h:NewI n w v l) (hn:n≤w.heap.size) {qs:List En} (ad:Addr) (c:Nat) (hq:∀ j u,(qs.flatMap itC)[j]? = some u→w.cell? (ad.add j)=some u) (hl:l.length+qs.length≤100000) :
  ∃ v' w',(Builtin.append_ #[74,74] ty #[v,.slice (some ad) qs.length c]).run Tryz.prog w=.ok v' w'∧NewI n w' v' (l++qs)∧Below n w w':=by
 obtain ⟨v',w',hr,h1,h2⟩:=append_items w ty v l qs h.is ad c hq hl
 refine ⟨v',w',hr,⟨h1,fun g hg=>(h2.2 g hg).elim (h.new g) (fun h=>by omega)⟩,⟨h2.1.os,h2.1.tape,h2.1.output,h2.1.size,fun k hk=>h2.1.block k (by omega) (fun e=>by have:=h.new k e.symm;omega)⟩⟩
theorem items_part {g:Nat} (hc:∀ i u,(l.flatMap itC)[i]? = some u→w.cell? ⟨g,i,none⟩=some u) (a:Nat) (qs:List En) {x y:List En} (hl:l=x++qs++y) (ha:x.length=a):∀ j u,(qs.flatMap itC)[j]? = some u→w.cell? ((⟨g,a*2,none⟩:Addr).add j)=some u:=by
 intro j u hu
 rw [add_plain2]
 refine hc _ _ ?_
 have hlj:=(List.getElem?_eq_some_iff.1 hu).1
 rw [hl,List.flatMap_append,List.flatMap_append,List.getElem?_append_left (by rw [List.length_append,itC_len,ha];omega),List.getElem?_append_right (by rw [itC_len,ha];omega),itC_len,ha,Nat.add_sub_cancel_left]
 exact hu
theorem ItV.cells (h:ItV w v l) {g c:Nat} (hv:v=.slice (some ⟨g,0,none⟩) l.length c):∀ i u,(l.flatMap itC)[i]? = some u→w.cell? ⟨g,i,none⟩=some u:=fun i u hu=>by
 have:=World.ownsRow.cells (w:=w) h (g:=g) (by rw [hv];rfl) i u hu
 rw [add_plain2,Nat.zero_add] at this
 exact this
end
theorem cntE_at {k:List UInt8}:∀ {l:List En} {j:Nat} {e:En},l[j]? = some e→j≤cntE k l→(lt e.key k ↔ j < cntE k l)
 | [],_,_,h,_=>by cases h
 | a :: r,0,e,h,_=>by
  simp only [List.getElem?_cons_zero,Option.some.injEq] at h
  subst h
  unfold cntE
  split
  ·exact ⟨fun _=>by omega,fun _=>by assumption⟩
  ·exact ⟨fun h=>absurd h (by assumption),fun h=>by omega⟩
 | a :: r,j+1,e,h,hj=>by
  have hr:r[j]? = some e:=by simpa using h
  unfold cntE at hj ⊢
  split at hj
  ·next hl =>
   rw [if_pos hl]
   exact (cntE_at hr (by omega)).trans ⟨fun _=>by omega,fun _=>by omega⟩
  ·omega
section
variable {w:World} {v:Value} {l:List En}
set_option maxHeartbeats 800000 in
theorem rfind_any (h:ItV w v l) (hl:l.length≤100000) (k:ByteArray) :
  Calls Tryz.prog 69 #[v,.string k] w fun e w'=>e=.returned (.int .i64 (cntE k.data.toList l))∧w'=w:=by
 obtain ⟨A,c,rfl,hc,_⟩:=h.slice
 have HAT:Hid (∀ j,j < l.length→j≤cntE k.data.toList l→∃ g c2 s,A=some ⟨g,0,none⟩∧w.cell? ⟨g,j*2,none⟩=some (.string s)∧(lt s.data.toList k.data.toList ↔ j < cntE k.data.toList l)∧c2=c):=Lib.hid fun j hj hk=>by
  have he:l[j]? = some l[j]:=List.getElem?_eq_getElem hj
  obtain ⟨g,c2,hv,_,h1,_⟩:=h.at_ he
  injection hv with h2 _ h3
  exact ⟨g,c2,_,h2,h1,cntE_at he hk,h3.symm⟩
 have hle:=cntE_le k.data.toList l
 obtain ⟨n,hn⟩:∃ n,n=l.length:=⟨_,rfl⟩
 obtain ⟨m,hm⟩:∃ m,m=cntE k.data.toList l:=⟨_,rfl⟩
 rw [← hn,← hm] at HAT
 rw [← hn] at hl ⊢
 rw [← hm] at hle ⊢
 rw [← hn] at hle
 clear h hc hn hm
 go_enter Tryz.func69,Tryz.ntmps69
 go_wp2
 go_loopw [5] (fun i wr=>(∃ j:Nat,j≤m∧i=.int .i64 j)∧w=wr) (fun i _=>n - (intOf i).toNat)
 case atStart=>exact ⟨⟨0,by omega,rfl⟩,rfl⟩
 case round =>
  obtain ⟨⟨j,hj,rfl⟩,rfl⟩:=hrel
  by_cases hjn:j < n
  ·obtain ⟨g,c2,s,rfl,h1,h2,_⟩:=HAT.out j hjn hj
   by_cases hlt:j < m
   ·have h3:Op.bytesLess s.toList k.toList=true:=by rw [ByteArray.toList_eq,ByteArray.toList_eq];exact h2.2 hlt
    clear h2 HAT
    go_wp2
    go_roundw
    case rel=>exact ⟨⟨j+1,by omega,by go_num⟩,trivial⟩
    case measure=>simp [intOf];omega
   ·have h3:Op.bytesLess s.toList k.toList=false:=by
     rw [ByteArray.toList_eq,ByteArray.toList_eq]
     cases hb:Op.bytesLess s.data.toList k.data.toList with
     | false=>rfl
     | true=>exact absurd (h2.1 hb) hlt
    obtain rfl:j=m:=by omega
    clear h2 HAT
    go_wp2
    go_ret
    exact ⟨rfl,rfl⟩
  ·obtain rfl:j=m:=by omega
   obtain rfl:j=n:=by omega
   clear HAT
   go_wp2
   go_ret
   exact ⟨rfl,rfl⟩
set_option maxHeartbeats 800000 in
theorem rhas_any (h:ItV w v l) (hl:l.length≤100000) (k:ByteArray) :
  Calls Tryz.prog 67 #[v,.string k] w fun e w'=>e=.returned (.bool (isAt k.data.toList l))∧w'=w:=by
 have HF:=Lib.hid (rfind_any h hl k)
 obtain ⟨A,c,rfl,hc,_⟩:=h.slice
 have HAT:Hid (cntE k.data.toList l < l.length→∃ g s,A=some ⟨g,0,none⟩∧w.cell? ⟨g,cntE k.data.toList l*2,none⟩=some (.string s)∧isAt k.data.toList l=(s.toList == k.toList)):=Lib.hid fun hj=>by
  have he:l[cntE k.data.toList l]? = some l[cntE k.data.toList l]:=List.getElem?_eq_getElem hj
  obtain ⟨g,c2,hv,_,h1,_⟩:=h.at_ he
  injection hv with h2 _ h3
  refine ⟨g,_,h2,h1,?_⟩
  unfold isAt
  rw [he,ByteArray.toList_eq,ByteArray.toList_eq,Bool.eq_iff_iff,decide_eq_true_iff,beq_iff_eq]
 have HNO:Hid (¬ cntE k.data.toList l < l.length→isAt k.data.toList l=false):=Lib.hid fun hj=>by
  unfold isAt
  rw [List.getElem?_eq_none (by omega)]
 obtain ⟨n,hn⟩:∃ n,n=l.length:=⟨_,rfl⟩
 obtain ⟨m,hm⟩:∃ m,m=cntE k.data.toList l:=⟨_,rfl⟩
 obtain ⟨b,hb⟩:∃ b,b=isAt k.data.toList l:=⟨_,rfl⟩
 rw [← hn,← hm,← hb] at HAT HNO
 rw [← hn,← hm] at HF
 rw [← hn] at hl ⊢
 rw [← hb]
 clear h hc hn hm hb
 go_enter Tryz.func67,Tryz.ntmps67
 go_wp2_with fail
 refine HF.out.mono ?_
 rintro e w1 ⟨rfl,hw⟩
 subst w1
 clear HF
 by_cases hmn:m < n
 ·obtain ⟨g,s,rfl,h1,h2⟩:=HAT.out hmn
  subst h2
  have f1:(m:Int) < (n:Int):=by omega
  clear HAT HNO
  go_wp2
  go_ret
  exact ⟨rfl,rfl⟩
 ·have f1:¬ (m:Int) < (n:Int):=by omega
  have h2:=HNO.out hmn
  subst h2
  clear HAT HNO
  go_wp2
  go_ret
  exact ⟨rfl,rfl⟩
end
def MayE (k x:ByteArray):Bool:=decide (1≤k.size) && (decide (k.size≤96) && decide (x.size≤32))
theorem may_iff {k x:ByteArray}:MayE k x=true ↔ 1≤k.size∧k.size≤96∧x.size≤32:=by simp [MayE]
set_option maxHeartbeats 800000 in
theorem rmay_any (k x:ByteArray) (w:World):Calls Tryz.prog 44 #[.string k,.string x] w fun e w'=>e=.returned (.bool (MayE k x))∧w'=w:=by
 by_cases h1:1≤k.size
 ·have f1:(1:Int)≤(k.size:Int):=by omega
  by_cases h2:k.size≤96
  ·have f2:(k.size:Int)≤96:=by omega
   by_cases h3:x.size≤32
   ·have f3:(x.size:Int)≤32:=by omega
    have HB:=Lib.hid (may_iff.2 ⟨h1,h2,h3⟩)
    go_enter Tryz.func44,Tryz.ntmps44
    go_wp2
    go_ret
    exact ⟨by rw [HB.out];rfl,rfl⟩
   ·have f3:¬ (x.size:Int)≤32:=by omega
    have HB:Hid (MayE k x=false):=Lib.hid (by simp [MayE,h3])
    go_enter Tryz.func44,Tryz.ntmps44
    go_wp2
    go_ret
    exact ⟨by rw [HB.out];rfl,rfl⟩
  ·have f2:¬ (k.size:Int)≤96:=by omega
   have HB:Hid (MayE k x=false):=Lib.hid (by simp [MayE,h2])
   go_enter Tryz.func44,Tryz.ntmps44
   go_wp2
   go_ret
   exact ⟨by rw [HB.out];rfl,rfl⟩
 ·have f1:¬ (1:Int)≤(k.size:Int):=by omega
  have HB:Hid (MayE k x=false):=Lib.hid (by simp [MayE,h1])
  go_enter Tryz.func44,Tryz.ntmps44
  go_wp2
  go_ret
  exact ⟨by rw [HB.out];rfl,rfl⟩
theorem cntE_cons_lt {k:List UInt8} {e:En} {r:List En} (h:lt e.key k):cntE k (e :: r)=cntE k r+1:=by conv=>lhs;unfold cntE;rw [if_pos h]
theorem cntE_cons_ge {k:List UInt8} {e:En} {r:List En} (h:¬ lt e.key k):cntE k (e :: r)=0:=by unfold cntE;rw [if_neg h]
theorem insE_parts (k v:List UInt8):∀ l:List En,insE k v l=l.take (cntE k l)++([⟨k,v⟩]++l.drop (cntE k l+if isAt k l then 1 else 0))
 | []=>rfl
 | e :: r=>by
  by_cases hl:lt e.key k
  ·have h1:isAt k (e :: r)=isAt k r:=by unfold isAt;rw [cntE_cons_lt hl];rfl
   rw [cntE_cons_lt hl,h1,show insE k v (e :: r)=e :: insE k v r by conv=>lhs;unfold insE;rw [if_pos hl]]
   rw [insE_parts k v r,List.take_succ_cons,Nat.add_right_comm,List.drop_succ_cons];rfl
  ·have h0:=cntE_cons_ge (r:=r) hl
   have h1:isAt k (e :: r)=decide (e.key=k):=by unfold isAt;rw [h0];rfl
   rw [h0,h1]
   unfold insE
   rw [if_neg hl]
   by_cases he:e.key=k
   ·rw [if_pos he,if_pos (decide_eq_true he)];rfl
   ·rw [if_neg he,if_neg (by simpa using he)];rfl
theorem isAt_lt {k:List UInt8} {l:List En} (h:isAt k l=true):cntE k l < l.length:=by
 unfold isAt at h
 cases he:l[cntE k l]? with
 | none=>rw [he] at h;cases h
 | some e=>exact (List.getElem?_eq_some_iff.1 he).1
section
variable {w:World} {v:Value} {l:List En}
theorem rput_steps {g c:Nat} (h:ItV w (.slice (some ⟨g,0,none⟩) l.length c) l) (hl:l.length≤90000) (k x:ByteArray) :
  ∃ v1 w1,(Builtin.append_ #[74,74] 74 #[.slice none 0 0,.slice (some ⟨g,0,none⟩) (cntE k.data.toList l) c]).run Tryz.prog w=.ok v1 w1 ∧
   ∃ v2 w2,(Builtin.append_ #[74,74] 74 #[v1,.slice (some ⟨w1.heap.size,0,none⟩) 1 1]).run Tryz.prog (w1.alloc (.cells #[.string k,.string x] 89))=.ok v2 w2∧ItV w2 (.slice (some ⟨g,0,none⟩) l.length c) l ∧
    ∀ (o:Nat) (ad:Addr) (i m2 c2:Nat),o=0∨o=1→(i=cntE k.data.toList l+if isAt k.data.toList l then 1 else 0)→(i < l.length→ad=⟨g,i*2,none⟩)→m2=l.length - i→∃ v3 w3,(Builtin.append_ #[74,74] 74 #[v2,.slice (some ad) m2 c2]).run Tryz.prog w2=.ok v3 w3∧NewI w.heap.size w3 v3 (insE k.data.toList x.data.toList l)∧Below w.heap.size w w3:=by
 have hm:=cntE_le k.data.toList l
 have hcell:=h.cells rfl
 obtain ⟨m,hmd⟩:∃ m,m=cntE k.data.toList l:=⟨_,rfl⟩
 rw [← hmd] at hm ⊢
 have hq1:(l.take m).length=m:=by rw [List.length_take];omega
 obtain ⟨v1,w1,r1,n1,b1⟩:=append_new (n:=w.heap.size) 74 (NewI.nil_ w.heap.size w) (Nat.le_refl _) (qs:=l.take m) ⟨g,0,none⟩ c (items_part hcell 0 (l.take m) (x:=[]) (y:=l.drop m) (by simp) rfl) (by simp;omega)
 rw [hq1] at r1
 rw [List.nil_append] at n1
 have hz1:=b1.size
 obtain ⟨wa,hwa⟩:∃ wa,wa=w1.alloc (.cells #[.string k,.string x] 89):=⟨_,rfl⟩
 have hba:Below w1.heap.size w1 wa:=by rw [hwa];exact (Below.refl _ _).alloc (Nat.le_refl _) _
 have hnew:wa.heap[w1.heap.size]? = some (.cells #[.string k,.string x] 89 (0,0)):=by rw [hwa];exact heap_alloc_new w1 _
 obtain ⟨v2,w2,r2,n2,b2⟩:=append_new (n:=w.heap.size) 74 (n1.below hba) (by have:=hba.size;omega) (qs:=[⟨k.data.toList,x.data.toList⟩]) ⟨w1.heap.size,0,none⟩ 1 (fun j u hu=>by
  rw [add_plain2,Nat.zero_add,Lib.cell_of_heap hnew]
  rw [← hu]
  simp [itC]) (by simp;omega)
 have hb2:Below w.heap.size w w2:=(b1.trans (hba.mono hz1)).trans b2
 have h2:=h.below hb2
 have hcell2:=h2.cells rfl
 refine ⟨v1,w1,r1,v2,w2,by rw [← hwa];exact r2,h2,fun o ad i m2 c2 _ hi had hm2=>?_⟩
 have hil:i≤l.length:=by
  rw [hi]
  by_cases hb:isAt k.data.toList l=true
  ·rw [if_pos hb];have:=isAt_lt hb;omega
  ·rw [if_neg hb];exact hm
 have hq3:(l.drop i).length=m2:=by rw [List.length_drop];omega
 obtain ⟨v3,w3,r3,n3,b3⟩:=append_new (n:=w.heap.size) 74 n2 hb2.size (qs:=l.drop i) ad c2 (fun j u hu=>by
  by_cases hlt:i < l.length
  ·rw [had hlt]
   exact items_part hcell2 i (l.drop i) (x:=l.take i) (y:=[]) (by simp) (by rw [List.length_take];omega) j u hu
  ·rw [List.drop_eq_nil_of_le (by omega)] at hu;cases hu) (by simp;omega)
 rw [hq3] at r3
 refine ⟨v3,w3,r3,?_,hb2.trans b3⟩
 have e:=insE_parts k.data.toList x.data.toList l
 rw [← hmd,← hi] at e
 rw [e,← List.append_assoc]
 exact n3
set_option maxHeartbeats 400000 in
theorem rput_any (h:ItV w v l) (hl:l.length≤90000) (k x:ByteArray) :
  Calls Tryz.prog 66 #[v,.string k,.string x] w fun e w'=>∃ v',e=.returned v'∧NewI w.heap.size w' v' (insE k.data.toList x.data.toList l)∧Below w.heap.size w w':=by
 have HF:=Lib.hid (rfind_any h (by omega) k)
 rcases h.shape with ⟨rfl,rfl⟩ | ⟨g,c,rfl,_,hc,hc2⟩
 ·obtain ⟨v2,w2,r2,n2,b2⟩:∃ v2 w2,(Builtin.append_ #[74,74] 74 #[.slice none 0 0,.slice (some ⟨w.heap.size,0,none⟩) 1 1]).run Tryz.prog (w.alloc (.cells #[.string k,.string x] 89))=.ok v2 w2∧NewI w.heap.size w2 v2 [⟨k.data.toList,x.data.toList⟩]∧Below w.heap.size w w2:=by
   obtain ⟨wa,hwa⟩:∃ wa,wa=w.alloc (.cells #[.string k,.string x] 89):=⟨_,rfl⟩
   have hba:Below w.heap.size w wa:=by rw [hwa];exact (Below.refl _ _).alloc (Nat.le_refl _) _
   have hnew:wa.heap[w.heap.size]? = some (.cells #[.string k,.string x] 89 (0,0)):=by rw [hwa];exact heap_alloc_new w _
   obtain ⟨v2,w2,r2,n2,b2⟩:=append_new (n:=w.heap.size) 74 (NewI.nil_ w.heap.size wa) (by have:=hba.size;omega) (qs:=[⟨k.data.toList,x.data.toList⟩]) ⟨w.heap.size,0,none⟩ 1 (fun j u hu=>by
    rw [add_plain2,Nat.zero_add,Lib.cell_of_heap hnew]
    rw [← hu]
    simp [itC]) (by simp)
   exact ⟨v2,w2,by rw [← hwa];exact r2,n2,hba.trans b2⟩
  obtain ⟨x1,r1,hx1⟩:=append_none w 74 (.slice none 0 0) [] (ItV.nil_ w)
  subst hx1
  obtain ⟨x3,r3,hx3⟩:=append_none w2 74 v2 _ n2.is
  subst hx3
  have HH:=Lib.hid (rhas_any (ItV.nil_ w2) (by simp) k)
  have HN:=Lib.hid n2;have HB:=Lib.hid b2
  clear n2 b2 hl h
  go_enter Tryz.func66,Tryz.ntmps66
  go_wp2_with fail
  refine HF.out.mono ?_
  rintro e w0 ⟨rfl,hw⟩
  subst w0
  clear HF
  rw [show ((cntE k.data.toList []:Nat):Int)=0 from rfl]
  go_wp2_with (first
   | (at_builtin;refine Lib.wpList_append_run _ rfl (.tmp 12) (.tmp 15) 74 74 rfl _ _ rfl rfl _ _ r1 ?_)
   | (at_builtin;refine Lib.wpList_append_run _ rfl (.tmp 17) (.tmp 21) 74 74 rfl _ _ rfl rfl _ _ r2 ?_))
  clear r1 r2
  refine HH.out.mono ?_
  rintro e w3 ⟨rfl,hw⟩
  subst w3
  clear HH
  rw [show isAt k.data.toList []=false from rfl]
  go_wp2_with (at_builtin;refine Lib.wpList_append_run _ rfl (.tmp 28) (.tmp 31) 74 74 rfl _ _ rfl rfl _ _ r3 ?_)
  go_ret
  exact ⟨_,rfl,HN.out,HB.out⟩
 ·obtain ⟨v1,w1,r1,v2,w2,r2,h2,h3⟩:=rput_steps h hl k x
  have HH:=Lib.hid (rhas_any h2 (by omega) k)
  have HS:=Lib.hid h3
  have hm:=cntE_le k.data.toList l
  have hat:=fun hb=>isAt_lt (k:=k.data.toList) (l:=l) hb
  have HI:Hid (∀ b:Bool,isAt k.data.toList l=b→∀ i,(i=cntE k.data.toList l+if b then 1 else 0)→(i=cntE k.data.toList l+if isAt k.data.toList l then 1 else 0)):=Lib.hid fun b hb i hi=>by rw [hb];exact hi
  clear h h3
  obtain ⟨n,hn⟩:∃ n,n=l.length:=⟨_,rfl⟩
  obtain ⟨m,hmd⟩:∃ m,m=cntE k.data.toList l:=⟨_,rfl⟩
  obtain ⟨b,hb⟩:∃ b,b=isAt k.data.toList l:=⟨_,rfl⟩
  obtain ⟨F,hF⟩:∃ F,F=insE k.data.toList x.data.toList l:=⟨_,rfl⟩
  rw [← hn,← hmd,← hb,← hF] at HS
  rw [← hn,← hmd] at HF
  rw [← hn,← hb] at HH
  rw [← hb,← hmd,← hn] at hat
  rw [← hF]
  rw [← hn] at hl hc hm ⊢
  rw [← hmd] at hm r1
  clear hn hmd hb hF HI h2
  have f1:(m:Int)≤(c:Int):=by omega
  have f2:(0:Int)≤(m:Int):=by omega
  go_enter Tryz.func66,Tryz.ntmps66
  go_wp2_with fail
  refine HF.out.mono ?_
  rintro e w0 ⟨rfl,hw⟩
  subst w0
  clear HF
  go_wp2_with (first
   | (at_builtin;refine Lib.wpList_append_run _ rfl (.tmp 12) (.tmp 15) 74 74 rfl _ _ rfl rfl _ _ r1 ?_)
   | (at_builtin;refine Lib.wpList_append_run _ rfl (.tmp 17) (.tmp 21) 74 74 rfl _ _ rfl rfl _ _ r2 ?_))
  clear r1 r2
  refine HH.out.mono ?_
  rintro e w3 ⟨rfl,hw⟩
  subst w3
  clear HH
  cases b with
  | true =>
   have hmn:=hat rfl
   have f3:(m:Int)+1≤(n:Int):=by omega
   have f4:(m:Int)+1≤(c:Int):=by omega
   have f5:IntKind.i64.wrap ((m:Int)+1)=(m:Int)+1:=IntWalk.i64_in _ (by omega)
   have f6:(0:Int)≤(m:Int)+1:=by omega
   clear hat
   by_cases hci:c=m+1
   ·obtain ⟨v3,w3,r3,n3,b3⟩:=HS.out 0 ⟨g,0,none⟩ (m+1) 0 0 (.inl rfl) rfl (fun hlt=>by omega) (by omega)
    have HN:=Lib.hid n3;have HB:=Lib.hid b3
    clear HS n3 b3
    subst hci
    go_wp2_with (at_builtin;refine Lib.wpList_append_run _ rfl (.tmp 28) (.tmp 31) 74 74 rfl _ _ rfl rfl _ _ r3 ?_)
    go_ret
    exact ⟨v3,rfl,HN.out,HB.out⟩
   ·obtain ⟨v3,w3,r3,n3,b3⟩:=HS.out 0 ⟨g,(m+1)*2,none⟩ (m+1) (n - (m+1)) (c - (m+1)) (.inl rfl) rfl (fun hlt=>rfl) rfl
    have HN:=Lib.hid n3;have HB:=Lib.hid b3
    clear HS n3 b3
    go_wp2_with (at_builtin;refine Lib.wpList_append_run _ rfl (.tmp 28) (.tmp 31) 74 74 rfl _ _ rfl rfl _ _ r3 ?_)
    go_ret
    exact ⟨v3,rfl,HN.out,HB.out⟩
  | false =>
   have f3:(m:Int)≤(n:Int):=by omega
   clear hat
   by_cases hci:c=m
   ·obtain ⟨v3,w3,r3,n3,b3⟩:=HS.out 0 ⟨g,0,none⟩ (m) 0 0 (.inl rfl) rfl (fun hlt=>by omega) (by omega)
    have HN:=Lib.hid n3;have HB:=Lib.hid b3
    clear HS n3 b3
    subst hci
    go_wp2_with (at_builtin;refine Lib.wpList_append_run _ rfl (.tmp 28) (.tmp 31) 74 74 rfl _ _ rfl rfl _ _ r3 ?_)
    go_ret
    exact ⟨v3,rfl,HN.out,HB.out⟩
   ·obtain ⟨v3,w3,r3,n3,b3⟩:=HS.out 0 ⟨g,(m)*2,none⟩ (m) (n - (m)) (c - (m)) (.inl rfl) rfl (fun hlt=>rfl) rfl
    have HN:=Lib.hid n3;have HB:=Lib.hid b3
    clear HS n3 b3
    go_wp2_with (at_builtin;refine Lib.wpList_append_run _ rfl (.tmp 28) (.tmp 31) 74 74 rfl _ _ rfl rfl _ _ r3 ?_)
    go_ret
    exact ⟨v3,rfl,HN.out,HB.out⟩
end
theorem delE_snoc (k:List UInt8) (a:List En) (e:En):delE k (a++[e])=if e.key=k then delE k a else delE k a++[e]:=by
 unfold delE
 rw [List.filter_append]
 by_cases h:e.key=k <;> simp [h]
section
variable {w:World} {v:Value} {l:List En}
structure RDelI (n0:Nat) (k:List UInt8) (l:List En) (w:World) (v v':Value) (j:Nat) (wr:World):Prop where
 new:NewI n0 wr v' (delE k (l.take j))
 bel:Below n0 w wr
 is:ItV wr v l
theorem RDelI.round {n0:Nat} {k:List UInt8} {v':Value} {j:Nat} {wr:World} (I:RDelI n0 k l w v v' j wr) (hn0:n0=w.heap.size) (h:ItV w v l) (hl:l.length≤90000) (hj:j < l.length) :
  ∃ g c s1 s2,v=.slice (some ⟨g,0,none⟩) l.length c∧wr.cell? ⟨g,j*2,none⟩=some (.string s1)∧wr.cell? ⟨g,j*2+1,none⟩=some (.string s2) ∧
   (s1.data.toList=k→RDelI n0 k l w v v' (j+1) wr)∧(s1.data.toList≠k→∃ v2 w2,(Builtin.append_ #[74,74] 74 #[v',.slice (some ⟨wr.heap.size,0,none⟩) 1 1]).run Tryz.prog (wr.alloc (.cells #[.string s1,.string s2] 89))=.ok v2 w2∧RDelI n0 k l w v v2 (j+1) w2):=by
 have he:l[j]? = some l[j]:=List.getElem?_eq_getElem hj
 obtain ⟨g,c,hv,hg,c1,c2⟩:=I.is.at_ he
 have ht:delE k (l.take (j+1))=if l[j].key=k then delE k (l.take j) else delE k (l.take j)++[l[j]]:=by
  rw [List.take_succ_eq_append_getElem hj,delE_snoc]
 refine ⟨g,c,_,_,hv,c1,c2,fun hk=>⟨?_,I.bel,I.is⟩,fun hk=>?_⟩
 ·have hk:l[j].key=k:=hk
  rw [ht,if_pos hk];exact I.new
 ·have hk:¬ l[j].key=k:=hk
  obtain ⟨wa,hwa⟩:∃ wa,wa=wr.alloc (.cells #[.string ⟨l[j].key.toArray⟩,.string ⟨l[j].val.toArray⟩] 89):=⟨_,rfl⟩
  have hba:Below wr.heap.size wr wa:=by rw [hwa];exact (Below.refl _ _).alloc (Nat.le_refl _) _
  have hnew:wa.heap[wr.heap.size]? = some (.cells #[.string ⟨l[j].key.toArray⟩,.string ⟨l[j].val.toArray⟩] 89 (0,0)):=by rw [hwa];exact heap_alloc_new wr _
  have hz:=I.bel.size
  have hdl:(delE k (l.take j)).length≤j:=Nat.le_trans (List.length_filter_le _ _) (by rw [List.length_take];omega)
  obtain ⟨v2,w2,r2,n2,b2⟩:=append_new (n:=n0) 74 (I.new.below hba) (by have:=hba.size;omega) (qs:=[l[j]]) ⟨wr.heap.size,0,none⟩ 1 (fun i u hu=>by
   rw [add_plain2,Nat.zero_add,Lib.cell_of_heap hnew,← hu]
   simp [itC]) (by simp;omega)
  have hb2:Below n0 w w2:=(I.bel.trans (hba.mono (by omega))).trans b2
  refine ⟨v2,w2,by rw [← hwa];exact r2,⟨?_,hb2,h.below (by rw [← hn0];exact hb2)⟩⟩
  rw [ht,if_neg hk];exact n2
set_option maxHeartbeats 800000 in
theorem rdel_any (h:ItV w v l) (hl:l.length≤90000) (k:ByteArray) :
  Calls Tryz.prog 68 #[v,.string k] w fun e w'=>∃ v',e=.returned v'∧NewI w.heap.size w' v' (delE k.data.toList l)∧Below w.heap.size w w':=by
 obtain ⟨n0,hn0⟩:∃ n0,n0=w.heap.size:=⟨_,rfl⟩
 have HRD:Hid (∀ v' j wr,RDelI n0 k.data.toList l w v v' j wr→j < l.length→∃ g c s1 s2,v=.slice (some ⟨g,0,none⟩) l.length c∧wr.cell? ⟨g,j*2,none⟩=some (.string s1)∧wr.cell? ⟨g,j*2+1,none⟩=some (.string s2) ∧
   (s1.data.toList=k.data.toList→RDelI n0 k.data.toList l w v v' (j+1) wr)∧(s1.data.toList≠k.data.toList→∃ v2 w2,(Builtin.append_ #[74,74] 74 #[v',.slice (some ⟨wr.heap.size,0,none⟩) 1 1]).run Tryz.prog (wr.alloc (.cells #[.string s1,.string s2] 89))=.ok v2 w2∧RDelI n0 k.data.toList l w v v2 (j+1) w2)):=Lib.hid fun v' j wr I hj=>I.round hn0 h hl hj
 have HI0:Hid (RDelI n0 k.data.toList l w v (.slice none 0 0) 0 w):=Lib.hid ⟨NewI.nil_ _ _,by rw [hn0];exact Below.refl _ _,h⟩
 have HEND:Hid (∀ v' wr,RDelI n0 k.data.toList l w v v' l.length wr→NewI n0 wr v' (delE k.data.toList l)∧Below n0 w wr):=Lib.hid fun v' wr I=>by
  have:=I.new
  rw [List.take_length] at this
  exact ⟨this,I.bel⟩
 rw [← hn0]
 obtain ⟨A,c,hv,hc,_⟩:=h.slice
 clear h hn0
 obtain ⟨n,hn⟩:∃ n,n=l.length:=⟨_,rfl⟩
 rw [← hn] at HRD HEND hl hv hc
 subst hv
 clear hn
 go_enter Tryz.func68,Tryz.ntmps68
 go_wp2
 go_loopw [5,6] (fun v' i wr=>∃ j:Nat,j≤n∧i=.int .i64 j∧Hid (RDelI n0 k.data.toList l w (.slice A n c) v' j wr)) (fun _ i _=>n - (intOf i).toNat)
 case atStart=>exact ⟨0,by omega,rfl,HI0⟩
 case round =>
  obtain ⟨j,hj,rfl,HI⟩:=hrel
  by_cases hjn:j < n
  ·obtain ⟨g,c',s1,s2,hv,c1,c2,h1,h2⟩:=HRD.out _ j _ HI.out hjn
   injection hv with hA _ hcc
   subst hA hcc
   by_cases hk:s1.data.toList=k.data.toList
   ·have HN:=Lib.hid (h1 hk)
    have hk1:(s1.toList == k.toList)=true:=by rw [ByteArray.toList_eq,ByteArray.toList_eq];exact beq_iff_eq.2 hk
    clear h1 h2 HI HRD HEND HI0 hk
    go_wp2
    go_roundw
    case rel=>exact ⟨j+1,by omega,by go_num,HN⟩
    case measure=>simp [intOf];omega
   ·obtain ⟨v2,w2,r2,h3⟩:=h2 hk
    have HN:=Lib.hid h3
    have hk1:(s1.toList == k.toList)=false:=by
     rw [ByteArray.toList_eq,ByteArray.toList_eq]
     cases hb:s1.data.toList == k.data.toList with
     | false=>rfl
     | true=>exact absurd (beq_iff_eq.1 hb) hk
    clear h1 h2 HI HRD HEND HI0 hk h3
    go_wp2_with (at_builtin;refine Lib.wpList_append_run _ rfl (.tmp 20) (.tmp 25) 74 74 rfl _ _ rfl rfl _ _ r2 ?_)
    clear r2
    go_roundw
    case rel=>exact ⟨j+1,by omega,by go_num,HN⟩
    case measure=>simp [intOf];omega
  ·obtain rfl:j=n:=by omega
   obtain ⟨h1,h2⟩:=HEND.out _ _ HI.out
   have H1:=Lib.hid h1;have H2:=Lib.hid h2
   clear h1 h2 HI HRD HEND HI0
   go_wp2
   go_ret
   exact ⟨_,rfl,H1.out,H2.out⟩
set_option maxHeartbeats 800000 in
theorem rsame_eq {va vb:Value} (ha:ItV w va l) (hb:ItV w vb l) (hl:l.length≤100000) :
  Calls Tryz.prog 32 #[va,vb] w fun e w'=>e=.returned (.bool true)∧Below w.heap.size w w':=by
 have HAT:Hid (∀ wr,Below w.heap.size w wr→∀ j,j < l.length→∃ g c g2 c2 s1 s2,va=.slice (some ⟨g,0,none⟩) l.length c∧vb=.slice (some ⟨g2,0,none⟩) l.length c2∧wr.cell? ⟨g,j*2,none⟩=some (.string s1)∧wr.cell? ⟨g,j*2+1,none⟩=some (.string s2)∧wr.cell? ⟨g2,j*2,none⟩=some (.string s1)∧wr.cell? ⟨g2,j*2+1,none⟩=some (.string s2)):=Lib.hid fun wr hbw j hj=>by
  have he:l[j]? = some l[j]:=List.getElem?_eq_getElem hj
  obtain ⟨g,c,h1,_,h2,h3⟩:=(ha.below hbw).at_ he
  obtain ⟨g2,c2,h4,_,h5,h6⟩:=(hb.below hbw).at_ he
  exact ⟨g,c,g2,c2,_,_,h1,h4,h2,h3,h5,h6⟩
 obtain ⟨A,c,hva,_⟩:=ha.slice
 obtain ⟨A2,c2,hvb,_⟩:=hb.slice
 have HB0:Hid (Below w.heap.size w w):=Lib.hid (Below.refl _ _)
 obtain ⟨n,hn⟩:∃ n,n=l.length:=⟨_,rfl⟩
 rw [← hn] at HAT hl hva hvb
 subst hva hvb
 clear ha hb hn
 go_enter Tryz.func32,Tryz.ntmps32
 go_wp2
 go_loopw [5] (fun i wr=>∃ j:Nat,j≤n∧i=.int .i64 j∧Hid (Below w.heap.size w wr)) (fun i _=>n - (intOf i).toNat)
 case atStart=>exact ⟨0,by omega,rfl,HB0⟩
 case round =>
  obtain ⟨j,hj,rfl,HB⟩:=hrel
  by_cases hjn:j < n
  ·obtain ⟨g,d,g2,d2,s1,s2,h1,h2,c1,c2,c3,c4⟩:=HAT.out _ HB.out j hjn
   injection h1 with h1 _ h3
   injection h2 with h2 _ h4
   subst h1 h2 h3 h4
   have HBD:Hid (∀ m,Below w.heap.size w (wr.drewN m)):=Lib.hid fun m=>HB.out.trans ((below_drewN wr m).mono HB.out.size)
   clear HAT HB
   have f1:(j:Int) < (n:Int):=by omega
   have f2:(0:Int)≤(j:Int):=by omega
   go_wp2
   go_quiet (fail)
   go_wp2
   go_roundw
   case rel=>exact ⟨j+1,by omega,by go_num,Lib.hid (HBD.out _)⟩
   case measure=>simp [intOf];omega
  ·obtain rfl:j=n:=by omega
   clear HAT
   go_wp2
   go_ret
   exact ⟨rfl,HB.out⟩
end
end Go.Proofs.YtfbbjiidccbaiaaGreatDoor
