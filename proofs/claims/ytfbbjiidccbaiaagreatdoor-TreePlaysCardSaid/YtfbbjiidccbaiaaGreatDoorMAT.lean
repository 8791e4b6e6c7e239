/- Texts of one proof, one behind the other: WT, WZ, YV, WV, YW, WL, WU. -/
import Derived.Test.YtfbbjiidccbaiaaGreatDoorMAS
import Derived.Test.YtfbbjiidccbaiaaGreatDoorMAP
import Derived.Test.YtfbbjiidccbaiaaGreatDoorMAR
import Derived.Test.YtfbbjiidccbaiaaGreatDoorMAO
set_option maxRecDepth 100000
namespace Go.Proofs.YtfbbjiidccbaiaaGreatDoor
open Go.RowKit
section
variable {J:List RawOp→Prop} {B:Nat} {S:Nat→Prop} {c:Ac} {h:Hd} {G:Nat→List UInt8} {w W:World} {tb r:Nat} {key:List UInt8} {KA:Option Addr} {kn kc:Nat} {F:List En} {ps:List Nat}
structure REnd (J:List RawOp→Prop) (B:Nat) (S:Nat→Prop) (c:Ac) (h:Hd) (G:Nat→List UInt8) (key:List UInt8) (F:List En) (w:World) (tb r:Nat) (b:Bool) (x0:NO) (at_ gw n cv:Nat) (S3 X3:Nat→Prop) (sts:List (NO × Nat)) (w3:World):Prop where
 act:ActV J B S3 c h G w3
 turn:Turn S w S3 w3
 tree:TreeAt w3 tb c.a r∧¬ S3 tb
 nodes:Nodes X3 S3 w3 (sts.map (·.1))
 steps:StepsAt w3 (.slice (some ⟨gw,0,none⟩) n cv) sts
 len:sts.length=n∧1≤n∧n≤901
 seen:∃ pre q z0,SeenW h G key F b sts pre x0 at_ q z0
 pos:1≤w.heap.size
theorem way_read (x:ActV J B S c h G w) (ht:TreeAt w tb c.a r) (htS:¬ S tb) (on:TreeOn h G (h.root r) F ps) (hb:Below w.heap.size w W) (hkn:key.length=kn) (hK:ReadsB W KA key) (hKn:∀ ad,KA=some ad→w.heap.size≤ad.block) :
  Calls Tryz.prog 76 #[.pointer (some ⟨tb,0,none⟩),.int .i64 (h.root r),.slice KA kn kc] W fun e w3=>∃ (b:Bool) (x0:NO) (at_ gw n cv:Nat) (S3 X3:Nat→Prop) (sts:List (NO × Nat)),e=.returned (.tuple #[.slice (some ⟨gw,0,none⟩) n cv,.bool b])∧REnd J B S c h G key F w tb r b x0 at_ gw n cv S3 X3 sts w3∧∀ k,w.heap.size≤k→k < W.heap.size→w3.heap[k]? = W.heap[k]?∧¬ S3 k:=by
 have hKS:∀ ad,KA=some ad→key≠[]→¬ S ad.block:=fun ad ha _ hs=>by have:=(x.low _ hs).2;have:=hKn ad ha;omega
 obtain ⟨n,n1,n2,hc⟩:=way_any (kc:=kc) (x.below hb) (ht.below hb) htS hkn hK hKS on
 refine hc.mono ?_
 rintro e w3 ⟨sts,a,cv,b,S3,X3,rfl,⟨pre,x0,at_,q,z0,hs⟩,hN,hst,hA,hT,hnew,hrow,hfr⟩
 obtain ⟨hlen,gw,rfl,hgl⟩:=steps_shape hst (by omega)
 have hT0:=(Turn.ofBelow (S:=S) hb).trans hT
 refine ⟨b,x0,at_,gw,n,cv,S3,X3,sts,rfl,⟨hA,hT0,⟨(ht.below hb).kept hT.1 htS,hT0.not ht.lt htS⟩,hN,hst,⟨hlen,n1,n2⟩,⟨pre,q,z0,hs⟩,x.tab.1.1⟩,fun k h1 h2=>?_⟩
 have hnS:¬ S k:=fun hs=>by have:=(x.low _ hs).2;omega
 exact ⟨hT.1.block k h2 hnS,hT.not h2 hnS⟩
variable {b right:Bool} {x0:NO} {at_ gw n cv:Nat} {S3 X3:Nat→Prop} {sts:List (NO × Nat)} {w3:World}
theorem REnd.endAt (R:REnd J B S c h G key F w tb r b x0 at_ gw n cv S3 X3 sts w3):w3.cell? ⟨gw,(n - 1)*2,none⟩=some x0.ptr∧w3.cell? ⟨gw,(n - 1)*2+1,none⟩=some (.int .i64 at_)∧NodeAt X3 w3 x0∧¬ S3 x0.blk∧at_≤x0.ens.length∧x0.ens.length≤512:=by
 obtain ⟨pre,q,z0,hs⟩:=R.seen
 have hl:n - 1=pre.length:=by
  have:=R.len.1
  rw [hs.eq,List.length_append] at this
  simp at this
  omega
 have hj:sts[n - 1]? = some (x0,at_):=by rw [hs.eq,hl,List.getElem?_append_right (Nat.le_refl _),Nat.sub_self];rfl
 obtain ⟨c1,c2⟩:=steps_cell R.steps hj
 have hm:x0 ∈ sts.map (·.1):=List.mem_map_of_mem (f:=(·.1)) (List.mem_of_getElem? hj)
 obtain ⟨h1,h2,_⟩:=R.nodes.at_ x0 hm
 exact ⟨c1,c2,h1,h2,hs.le,h1.short.1⟩
theorem REnd.item (R:REnd J B S c h G key F w tb r b x0 at_ gw n cv S3 X3 sts w3) {i:Nat} {e:En} (hi:x0.ens[i]? = some e) {o:Option En} (ho:o=some e) {rb:Nat} (hrb:w.heap.size≤rb) (hr3:w3.heap[rb]? = some itZ∧¬ S3 rb) :
  ∃ (bb of l1 l2 c1 c2:Nat) (A1 A2:Option Addr) (s1 s2:ByteArray),x0.arr=some ⟨bb,of,none⟩∧∀ W,Below w3.heap.size w3 W→W.cell? ⟨bb,of+i*2,none⟩=some (.slice A1 l1 c1)∧W.cell? ⟨bb,of+i*2+1,none⟩=some (.slice A2 l2 c2) ∧
   Calls Tryz.prog 82 #[.agg #[.slice A1 l1 c1,.slice A2 l2 c2]] W fun e w4=>e=.returned (.agg #[.string s1,.string s2])∧Below W.heap.size W w4∧ResSet rb s1 s2 w4 fun W'=>TellPost J B S c h G o w (.returned (.tuple #[.agg #[.string s1,.string s2],.bool true])) W':=by
 obtain ⟨_,_,hn,_,_,_⟩:=R.endAt
 obtain ⟨bb,of,kv,vv,harr,hbl,hfr,k1,k2,k3,k4⟩:=hn.ents.at_ hi
 obtain ⟨A1,c1,rfl,_,_,hA1,_⟩:=k3
 obtain ⟨A2,c2,rfl,_,_,hA2,_⟩:=k4
 have hrl:rb < w3.heap.size:=(Array.getElem?_eq_some_iff.1 hr3.1).1
 refine ⟨bb,of,e.key.length,e.val.length,c1,c2,A1,A2,⟨e.key.toArray⟩,⟨e.val.toArray⟩,harr,fun W hb=>⟨(hb.cell (p:=⟨bb,of+i*2,none⟩) hbl).trans k1,(hb.cell (p:=⟨bb,of+i*2+1,none⟩) hbl).trans k2,?_⟩⟩
 refine (item_any A1 A2 e.key e.val _ _ c1 c2 W rfl rfl (hA1.below hb) (hA2.below hb)).mono ?_
 rintro e' w4 ⟨rfl,hb4⟩
 have hb34:=below_then_ hb hb4
 have hr4:=(hb34.block rb hrl).trans hr3.1
 refine ⟨rfl,hb4,res_set hr4 _ _ fun W' hk=>?_⟩
 rw [ho]
 exact ⟨rfl,edge_fin R.pos (R.act.below hb34) (R.turn.trans (Turn.ofBelow hb34)) ⟨hr4,hr3.2,hrb⟩ hk⟩
theorem REnd.beside (R:REnd J B S c h G key F w tb r b x0 at_ gw n cv S3 X3 sts w3) (right:Bool) {o:Option En} (ho:∀ pre q z0,SeenW h G key F b sts pre x0 at_ q z0→z0.nx right=o) {rb:Nat} (hrb:w.heap.size≤rb) (hr3:w3.heap[rb]? = some itZ∧¬ S3 rb) {W:World} (hb:Below w3.heap.size w3 W) :
  Calls Tryz.prog 83 #[.pointer (some ⟨tb,0,none⟩),.slice (some ⟨gw,0,none⟩) n cv,.int .i64 (if right then 1 else -1)] W fun e w4=>∃ (s1 s2:ByteArray) (bb:Bool),e=.returned (.tuple #[.agg #[.string s1,.string s2],.bool bb])∧ResSet rb s1 s2 w4 fun W'=>TellPost J B S c h G o w (.returned (.tuple #[.agg #[.string s1,.string s2],.bool bb])) W':=by
 obtain ⟨pre,q,z0,hs⟩:=R.seen
 have hl:n - 1=pre.length:=by
  have:=R.len.1
  rw [hs.eq,List.length_append] at this
  simp at this
  omega
 have htk:sts.take (n - 1)=pre:=by rw [hs.eq,hl,List.take_left'];rfl
 have hrl:rb < w3.heap.size:=(Array.getElem?_eq_some_iff.1 hr3.1).1
 have hrW:=(hb.block rb hrl).trans hr3.1
 refine (beyond_ok (R.act.below hb) (R.tree.1.below hb) R.tree.2 (R.nodes.below hb) (ownsRow_below R.steps hb) R.len.1 R.len.2.1 R.len.2.2 (right:=right) (o:=o) (q:=q) (z:=z0) ⟨by rw [htk];exact hs.on,hs.ok,hs.reps,ho _ _ _ hs⟩ _ rfl).mono ?_
 rintro e w4 ⟨rfl,S4,hT4,hA4⟩
 obtain ⟨s1,s2,bb,e6,e7⟩:=itV_form o
 have hz:=hb.size
 have hr4:w4.heap[rb]? = some itZ:=(hT4.1.block rb (by omega) hr3.2).trans hrW
 refine ⟨s1,s2,bb,by rw [e6,e7],res_set hr4 _ _ fun W' hk=>?_⟩
 exact ⟨by rw [e6,e7],edge_fin R.pos hA4 ((R.turn.trans (Turn.ofBelow hb)).trans hT4) ⟨hr4,hT4.not (by omega) hr3.2,hrb⟩ hk⟩
end
structure DelEnd (cb xb at_:Nat) (Q:World→Prop) (w:World):Prop where
 end_:∀ W,Below w.heap.size w W→Calls Tryz.prog 79 #[.pointer (some ⟨cb,0,none⟩)] W fun e w'=>e=.returned (.agg #[.pointer (some ⟨xb,0,none⟩),.int .i64 at_])∧Below W.heap.size W w'
 rem:∀ W,Below w.heap.size w W→Calls Tryz.prog 85 #[.pointer (some ⟨xb,0,none⟩),.int .i64 at_] W fun e w7=>e=.returned (.tuple #[])∧∀ Z,Below w7.heap.size w7 Z→Q Z
section
variable {K:Kc} {s:Hst} {L:Nat} {t:Tr L} {key:List UInt8} {above:NO} {sts:List (NO × Nat)} {w:World} {U:List Nat}
theorem Begun.delEnd (h:Begun K s t key true above sts w) (st:Stood s.h s.G t) (hr16:K.r < 16) (hC:∀ q,(K.c.C q).length=512) (hrm:Roomy s.h U 16) :
  ∃ xb at_,DelEnd K.cb xb at_ (SetSaid K s.h s.G t.pages (delE key t.flat)) w:=by
 obtain ⟨pre,x0,c0,z0,e,hat⟩:=h.end_ st
 obtain ⟨n1,n2,n3,n4,n5,n6,n7⟩:=h.endN st e
 obtain ⟨eM,_,_⟩:=h.endM st e
 have hw:=h.endW e
 have hL:L≤12:=st.root.level st.nodup fun q hq=>(h.H.act.has_lt (st.has q hq)).2
 have hlen:K.way.length=L+2:=by rw [h.way,List.length_cons,wayL_len h.wl]
 obtain ⟨A,f,Bq,hl,hA,hf,_⟩:=at_yes (k:=key) (l:=c0.es) e.at_.symm
 refine ⟨x0.blk,cntE key c0.es,⟨fun W hb=>?_,fun W hb=>?_⟩⟩
 ·exact end_h (h.H.below hb) hw (by omega)
 ·have HW:=h.H.below hb
  have hn:=(HW.node _ _ eM).at_
  rw [← hA]
  refine (remove_ok _ x0 A Bq f W hn n4 (n3.trans hl)).mono ?_
  rintro e7 w7 hr
  refine ⟨hr.1,fun Z hZ=>?_⟩
  have H7:=HW.removed eM n4 hr
  have hm:=e.was.del
  have hs:Srt c0.es:=by
   obtain ⟨lo,hi,_,ho,_⟩:=e.was.ord
   exact ho.2.1
  rw [hl] at hs
  rw [hl,del_yes hs hf] at hm
  rw [n2,hd0_zero] at H7
  exact h.settle st e hat hr16 hC hrm (ρ':=s.ρ) (H7.below hZ) hm rfl ⟨rfl,rfl,rfl,rfl,n4,rfl⟩
end
section
variable {J:List RawOp→Prop} {B:Nat} {S:Nat→Prop} {c:Ac} {h:Hd} {G:Nat→List UInt8} {w:World} {tb r:Nat} {F:List En} {ps:List Nat} {U:List Nat}
def DelGoes (J:List RawOp→Prop) (B:Nat) (S:Nat→Prop) (c:Ac) (h:Hd) (G:Nat→List UInt8) (tb r:Nat) (ps:List Nat) (F:List En) (key:ByteArray) (w:World) (e:Ending) (w2:World):Prop :=
 ∃ (cb:Nat) (held:Bool),e=.returned (.tuple #[.pointer (some ⟨cb,0,none⟩),.bool held])∧held=isAt key.data.toList F ∧
  ((held=false∧Hid (∀ W,Below w2.heap.size w2 W→TreePost J B S c h G tb r ps (delE key.data.toList F) w W)) ∨
  (held=true∧∃ xb at_,Hid (DelEnd cb xb at_ (fun Z=>Calls Tryz.prog 81 #[.pointer (some ⟨cb,0,none⟩)] Z fun e w'=>e=.returned (.int .i64 0)∧TreePost J B S c h G tb r ps (delE key.data.toList F) w w') w2)))
theorem tree_same {S':Nat→Prop} (on:TreeOn h G (h.root r) F ps) {w2:World} (hA:ActV J B S' c h G w2) (hT:Turn S w S' w2) (ht:TreeAt w2 tb c.a r) {W:World} (hb:Below w2.heap.size w2 W):TreePost J B S c h G tb r ps F w W :=
 ⟨h,G,S',ps,hA.below hb,hT.trans (Turn.ofBelow hb),ht.below hb,on,Oth.refl h G r on.has⟩
theorem del_goes (x:ActV J B S c h G w) (ht:TreeAt w tb c.a r) (htS:¬ S tb) (hr16:r < 16) (hC:∀ q,(c.C q).length=512) (on:TreeOn h G (h.root r) F ps) (hrm:Roomy h U 16) (key:ByteArray) {W:World} (hb:Below w.heap.size w W) {KA:Option Addr} {kc:Nat} (hK:ReadsB W KA key.data.toList) (hKn:∀ ad,KA=some ad→w.heap.size≤ad.block) :
  Calls Tryz.prog 77 #[.pointer (some ⟨tb,0,none⟩),.int .i64 (h.root r),.slice KA key.size kc] W (DelGoes J B S c h G tb r ps F key w):=by
 have xW:=x.below hb
 have htW:=ht.below hb
 have hKS:∀ ad,KA=some ad→key.data.toList≠[]→¬ S ad.block:=fun ad ha _ hs=>by have:=(x.low _ hs).2;have:=hKn ad ha;omega
 have hkn:key.data.toList.length=key.size:=rfl
 have hno:isAt key.data.toList F=false→delE key.data.toList F=F:=fun h0=>del_no fun hh=>by rw [(isAt_iff on.srt).2 hh] at h0;cases h0
 rcases on.is with ⟨rfl,h0,rfl⟩ | ⟨m,t,hr,ho,rfl,hpg,rfl,hrep⟩
 ·rw [h0]
  refine (change_none (kc:=kc) xW htW htS hkn hK).mono ?_
  rintro e w2 ⟨cb,mb,wv,s,above,y,rfl,B0,e1,e2⟩
  refine ⟨cb,false,rfl,rfl,.inl ⟨rfl,Lib.hid fun Z hZ=>?_⟩⟩
  have hA:=B0.H.act
  rw [e1,e2] at hA
  exact tree_same on hA ((Turn.ofBelow hb).trans B0.H.turn) B0.H.tree.1 hZ
 ·have st:Stood h G t:=⟨hr,ho,hrep,on.nodup⟩
  have hL:m≤12:=hr.level on.nodup fun q hq=>(x.has_lt (st.has q hq)).2
  rw [← hpg]
  refine (change_ok (kc:=kc) xW htW htS st hkn hK hKS (by omega)).mono ?_
  rintro e w2 ⟨cb,mb,wv,s,b,above,sts,rfl,B1,e1,e2⟩
  have hbt:b=isAt key.data.toList t.flat:=by
   obtain ⟨pre,x0,c0,z0,e,hat⟩:=B1.end_ (by rw [e1,e2];exact st)
   obtain ⟨_,_,_,m4⟩:=e.was.near
   rw [e.at_,Bool.eq_iff_iff,m4,isAt_iff st.ord.flat.1]
  refine ⟨cb,b,rfl,hbt,?_⟩
  cases b with
  | false =>
   refine .inl ⟨rfl,Lib.hid fun Z hZ=>?_⟩
   have hA:=B1.H.act
   rw [e1,e2] at hA
   rw [hno hbt.symm]
   exact tree_same on hA ((Turn.ofBelow hb).trans B1.H.turn) B1.H.tree.1 hZ
  | true =>
   obtain ⟨xb,at_,hp⟩:=B1.delEnd (by rw [e1,e2];exact st) hr16 hC (by rw [e1];exact hrm)
   refine .inr ⟨rfl,xb,at_,Lib.hid ⟨hp.end_,fun W2 hb2=>(hp.rem W2 hb2).mono fun e7 w7 h7=>⟨h7.1,fun Z hZ=>Calls.mono (h7.2 Z hZ) fun e w' h=>⟨h.1,?_⟩⟩⟩⟩
   have h2:=h.2
   rw [e1,e2] at h2
   exact h2.older hb
theorem DelEnd.stepped {cb xb at_:Nat} {Q:World→Prop} {w w4:World} (_:DelEnd cb xb at_ Q w) (hb4:Below w.heap.size w w4):∀ W,Below (w4.alloc (.cells #[.pointer (some ⟨xb,0,none⟩),.int .i64 at_] 133)).heap.size (w4.alloc (.cells #[.pointer (some ⟨xb,0,none⟩),.int .i64 at_] 133)) W →
  Below w.heap.size w W∧W.cell? ⟨w4.heap.size,0,none⟩=some (.pointer (some ⟨xb,0,none⟩))∧W.cell? ⟨w4.heap.size,1,none⟩=some (.int .i64 at_):=by
 intro W hb
 have hz:(w4.alloc (.cells #[.pointer (some ⟨xb,0,none⟩),.int .i64 at_] 133)).heap.size=w4.heap.size+1:=by simp
 have hb5:Below w4.heap.size w4 (w4.alloc (.cells #[.pointer (some ⟨xb,0,none⟩),.int .i64 at_] 133)):=(Below.refl _ _).alloc (Nat.le_refl _) _
 have hbw:Below w.heap.size w W:=(hb4.trans (hb5.mono hb4.size)).trans (hb.mono (by have:=hb4.size;omega))
 have hn:=heap_alloc_new w4 (.cells #[.pointer (some ⟨xb,0,none⟩),.int .i64 at_] 133)
 have hn2:=(hb.block w4.heap.size (by omega)).trans hn
 exact ⟨hbw,by rw [Lib.cell_of_heap hn2];rfl,by rw [Lib.cell_of_heap hn2];rfl⟩
def TDelPost (J:List RawOp→Prop) (B:Nat) (S:Nat→Prop) (c:Ac) (h:Hd) (G:Nat→List UInt8) (tb r:Nat) (ps:List Nat) (F:List En) (key:ByteArray) (w:World) (e:Ending) (w':World):Prop :=
 e=.returned (.int .i64 (if isAt key.data.toList F then 0 else 3))∧TreePost J B S c h G tb r ps (delE key.data.toList F) w w'
set_option maxHeartbeats 1600000 in
theorem del_ok (x:ActV J B S c h G w) (ht:TreeAt w tb c.a r) (htS:¬ S tb) (hr16:r < 16) (hC:∀ q,(c.C q).length=512) (on:TreeOn h G (h.root r) F ps) (hrm:Roomy h U 16) (key:ByteArray) :
  Calls Tryz.prog 40 #[.pointer (some ⟨tb,0,none⟩),.string key] w (TDelPost J B S c h G tb r ps F key w):=by
 have HTOP:=Lib.hid (top_ok x ht hr16)
 have HGO:Hid (∀ k,∃ kc W,(convert 9 102 (.string key)).run Tryz.prog (w.drewN k)=.ok (.slice (some ⟨w.heap.size,0,none⟩) key.size kc) W∧Hid (Calls Tryz.prog 77 #[.pointer (some ⟨tb,0,none⟩),.int .i64 (h.root r),.slice (some ⟨w.heap.size,0,none⟩) key.size kc] W (DelGoes J B S c h G tb r ps F key w))):=Lib.hid fun k=>by
  obtain ⟨kc,W,h1,h2,h3,h4⟩:=bytesOf_reads (w.drewN k) key
  have hbk:Below w.heap.size w (w.drewN k):=below_drewN w k
  have hbW:Below w.heap.size w W:=hbk.trans (h4.mono hbk.size)
  exact ⟨kc,W,h1,Lib.hid (del_goes x ht htS hr16 hC on hrm key hbW h3 (fun ad ha=>by cases ha;exact hbk.size))⟩
 obtain ⟨rt,hrt⟩:∃ rt,rt=h.root r:=⟨_,rfl⟩
 rw [← hrt] at HTOP HGO
 clear x ht htS hC on hrm hrt
 go_enter Tryz.func40,Tryz.ntmps40
 go_wp2_with fail
 refine HTOP.out.mono ?_
 rintro e w1 ⟨rfl,k,rfl⟩
 obtain ⟨kc,W,hcv,HCH⟩:=HGO.out k
 clear HTOP HGO
 go_wp2_with fail
 refine HCH.out.mono ?_
 rintro e w2 ⟨cb,held,rfl,hheld,hcase⟩
 have HHE:=Lib.hid hheld
 clear hcv HCH hheld
 rcases hcase with ⟨rfl,HN⟩ | ⟨rfl,xb,at_,HDE⟩
 ·go_wp2
  go_ret
  exact ⟨by rw [← HHE.out];rfl,HN.out _ (Below.refl _ _)⟩
 ·go_wp2_with (go_at_call 79;refine (HDE.out.end_ _ (Below.refl _ _)).mono ?_;rintro e w4 ⟨rfl,hb4⟩)
  obtain ⟨W5,hW5⟩:∃ W5,W5=w4.alloc (.cells #[.pointer (some ⟨xb,0,none⟩),.int .i64 at_] 133):=⟨_,rfl⟩
  obtain ⟨sb,hsb⟩:∃ sb,sb=w4.heap.size:=⟨_,rfl⟩
  have HSP:Hid (∀ W,Below W5.heap.size W5 W→Below w2.heap.size w2 W∧W.cell? ⟨sb,0,none⟩=some (.pointer (some ⟨xb,0,none⟩))∧W.cell? ⟨sb,1,none⟩=some (.int .i64 at_)):=Lib.hid (by rw [hW5,hsb];exact HDE.out.stepped hb4)
  obtain ⟨_,s1,s2⟩:=HSP.out W5 (Below.refl _ _)
  have HR0:=Lib.hid (HDE.out.rem W5 (HSP.out W5 (Below.refl W5.heap.size W5)).1)
  rw [← hW5,← hsb]
  clear hb4 hW5 hsb HSP HDE
  go_wp2_with fail
  refine HR0.out.mono ?_
  rintro e w7 ⟨rfl,hZ⟩
  have HZ:=Lib.hid hZ
  clear HR0 hZ s1 s2
  go_wp2_with fail
  refine (HZ.out _ (by first | exact Below.refl _ _ | exact (Below.refl _ _).drew)).mono ?_
  rintro e w8 ⟨rfl,hp⟩
  have HP:=Lib.hid hp
  clear hp HZ
  go_wp2
  go_ret
  exact ⟨by rw [← HHE.out];rfl,HP.out⟩
end
section
variable {J:List RawOp→Prop} {B:Nat} {S:Nat→Prop} {c:Ac} {h:Hd} {G:Nat→List UInt8} {w:World} {tb r:Nat} {F l:List En} {ps:List Nat} {U:List Nat} {v:Value}
structure OpAt (n0:Nat) (S:Nat→Prop) (kd:Int) (key val:ByteArray) (w W0:World):Prop where
 bel:Below w.heap.size w W0
 c0:W0.cell? ⟨n0,0,none⟩=some (.int .i64 kd)
 c1:W0.cell? ⟨n0,1,none⟩=some (.string key)
 turn:∀ (W:World) (S':Nat→Prop),Turn S W0 S' W→W.cell? ⟨n0,1,none⟩=some (.string key)
theorem op_at (x:ActV J B S c h G w) (kd:Int) (key val:ByteArray) {W0:World} (hW0:W0=w.alloc (.cells #[.int .i64 kd,.string key,.string val] 78)):OpAt w.heap.size S kd key val w W0:=by
 have hz0:W0.heap.size=w.heap.size+1:=by rw [hW0];simp
 have hop:W0.heap[w.heap.size]? = some (.cells #[.int .i64 kd,.string key,.string val] 78 (0,0)):=by rw [hW0];exact heap_alloc_new w _
 have hopS:¬ S w.heap.size:=fun hs=>by have:=(x.low _ hs).2;omega
 refine ⟨by rw [hW0];exact (Below.refl _ _).alloc (Nat.le_refl _) _,by rw [Lib.cell_of_heap hop];rfl,by rw [Lib.cell_of_heap hop];rfl,fun W S' hT=>?_⟩
 have:=(hT.1.block w.heap.size (by omega) hopS).trans hop
 rw [Lib.cell_of_heap this];rfl
theorem isAt_del {k:List UInt8} {l:List En} (hs:Srt l) (h:isAt k l=false):delE k l=l:=del_no fun hh=>by rw [(isAt_iff hs).2 hh] at h;cases h
set_option maxHeartbeats 1600000 in
theorem does_del (x:ActV J B S c h G w) (ht:TreeAt w tb c.a r) (htS:¬ S tb) (hr16:r < 16) (hC:∀ q,(c.C q).length=512) (on:TreeOn h G (h.root r) F ps) (hrm:Roomy h U 16) (li:LiI S w v l) (hl:l.length≤80000) (hs:Srt l) (key val:ByteArray) :
  Calls Tryz.prog 29 #[.pointer (some ⟨tb,0,none⟩),v,.agg #[.int .i64 2,.string key,.string val]] w (DoesPost J B S c h G tb r ps (delE key.data.toList F) (delE key.data.toList l) (l=F) w):=by
 obtain ⟨W0,hW0⟩:∃ W0,W0=w.alloc (.cells #[.int .i64 2,.string key,.string val] 78):=⟨_,rfl⟩
 have o:=op_at x 2 key val hW0
 have e0:=o.c0
 have e1:=o.c1
 have HDEL:Hid (Calls Tryz.prog 40 #[.pointer (some ⟨tb,0,none⟩),.string key] W0 fun e w1=>∃ ec:Int,(ec=0∨ec=3)∧e=.returned (.int .i64 ec)∧w1.cell? ⟨w.heap.size,1,none⟩=some (.string key)∧(l=F→(isAt key.data.toList l=true→ec=0)∧(isAt key.data.toList l=false→ec=3)) ∧
   Hid (Calls Tryz.prog 67 #[v,.string key] w1 fun e w3=>e=.returned (.bool (isAt key.data.toList l))∧w3=w1) ∧
   Hid (isAt key.data.toList l=false→StepTo J B S c h G tb r ps (delE key.data.toList F) (delE key.data.toList l) v w w1) ∧
   Hid (isAt key.data.toList l=true→Calls Tryz.prog 68 #[v,.string key] w1 fun e w2=>∃ v2,e=.returned v2∧Hid (StepTo J B S c h G tb r ps (delE key.data.toList F) (delE key.data.toList l) v2 w w2))):=Lib.hid (by
  have li0:=li.below o.bel
  refine (del_ok (x.below o.bel) (ht.below o.bel) htS hr16 hC on hrm key).mono ?_
  rintro e w1 ⟨rfl,hp⟩
  have hp0:=hp
  obtain ⟨h',G',S',ps',q1,q2,q3,q4,q5⟩:=hp
  have li1:=li0.turn q2
  refine ⟨_,by split <;> simp,rfl,o.turn _ _ q2,fun e=>⟨fun hb=>by rw [← e,hb];rfl,fun hb=>by rw [← e,hb];rfl⟩,Lib.hid (rhas_any li1.is (by omega) key),Lib.hid fun hb=>?_,Lib.hid fun _=>?_⟩
  ·rw [isAt_del hs hb]
   exact (StepTo.of hp0 li0).older o.bel
  ·refine (rdel_any li1.is (by omega) key).mono ?_
   rintro e w2 ⟨v2,rfl,hn,hb⟩
   exact ⟨v2,rfl,Lib.hid (((StepTo.of hp0 li0).renew hn hb).older o.bel)⟩)
 obtain ⟨bl,hbl⟩:∃ bl,bl=isAt key.data.toList l:=⟨_,rfl⟩
 rw [← hbl] at HDEL
 clear x ht htS hC on hrm li o hbl hs
 go_enter Tryz.func29,Tryz.ntmps29
 go_wp2_with fail
 rw [← hW0]
 refine HDEL.out.mono ?_
 rintro e w1 ⟨ec,hec,rfl,c1,hgd,HH,HN,HY⟩
 have HG:=Lib.hid hgd
 clear HDEL e0 e1 hW0 hgd
 go_wp2_with fail
 refine HH.out.mono ?_
 rintro e w3 ⟨rfl,hw⟩
 subst w3
 clear HH
 cases bl with
 | false =>
  have H1:=Lib.hid (HN.out rfl)
  clear HN HY
  rcases hec with rfl | rfl
  ·go_wp2
   go_ret2
   exact ⟨v,_,rfl,fun e=>absurd ((HG.out e).2 (by first | rfl | trivial)) (by decide),H1.out⟩
  ·go_wp2
   go_ret2
   exact ⟨v,_,rfl,fun _=>rfl,H1.out⟩
 | true =>
  have H1:=Lib.hid (HY.out rfl)
  clear HN HY
  go_wp2_with fail
  refine H1.out.mono ?_
  rintro e w2 ⟨v2,rfl,HS⟩
  clear H1
  rcases hec with rfl | rfl
  ·go_wp2
   go_ret2
   exact ⟨v2,_,rfl,fun _=>rfl,HS.out⟩
  ·go_wp2
   go_ret2
   exact ⟨v2,_,rfl,fun e=>absurd ((HG.out e).1 (by first | rfl | trivial)) (by decide),HS.out⟩
set_option maxHeartbeats 800000 in
theorem does_drop (x:ActV J B S c h G w) (ht:TreeAt w tb c.a r) (htS:¬ S tb) (hr16:r < 16) (on:TreeOn h G (h.root r) F ps) (key val:ByteArray) :
  Calls Tryz.prog 29 #[.pointer (some ⟨tb,0,none⟩),v,.agg #[.int .i64 7,.string key,.string val]] w (DoesPost J B S c h G tb r ps [] [] (l=F) w):=by
 obtain ⟨W0,hW0⟩:∃ W0,W0=w.alloc (.cells #[.int .i64 7,.string key,.string val] 78):=⟨_,rfl⟩
 have o:=op_at x 7 key val hW0
 have e0:=o.c0
 have HD:Hid (Calls Tryz.prog 43 #[.pointer (some ⟨tb,0,none⟩)] W0 fun e w1=>e=.returned (.int .i64 0)∧Hid (StepTo J B S c h G tb r ps [] [] (.slice none 0 0) w w1)):=Lib.hid (by
  refine (drop_ok (x.below o.bel) (ht.below o.bel) htS hr16 on).mono ?_
  rintro e w1 ⟨rfl,hp⟩
  exact ⟨rfl,Lib.hid ((StepTo.of hp (LiI.nil_ _ _)).older o.bel)⟩)
 clear x ht htS on o
 go_enter Tryz.func29,Tryz.ntmps29
 go_wp2_with fail
 rw [← hW0]
 refine HD.out.mono ?_
 rintro e w1 ⟨rfl,HS⟩
 clear HD e0 hW0
 go_wp2
 go_ret2
 exact ⟨_,_,rfl,fun _=>rfl,HS.out⟩
set_option maxHeartbeats 800000 in
theorem does_other (x:ActV J B S c h G w) (ht:TreeAt w tb c.a r) (on:TreeOn h G (h.root r) F ps) (li:LiI S w v l) (kd:Int) (hk:¬ (1≤kd∧kd≤7)) (key val:ByteArray) :
  Calls Tryz.prog 29 #[.pointer (some ⟨tb,0,none⟩),v,.agg #[.int .i64 kd,.string key,.string val]] w (DoesPost J B S c h G tb r ps F l (l=F) w):=by
 obtain ⟨W0,hW0⟩:∃ W0,W0=w.alloc (.cells #[.int .i64 kd,.string key,.string val] 78):=⟨_,rfl⟩
 have o:=op_at x kd key val hW0
 have e0:=o.c0
 have HS:Hid (StepTo J B S c h G tb r ps F l v w W0):=Lib.hid (StepTo.same x ht on li o.bel)
 have f1:¬ kd=1:=by omega
 have f2:¬ kd=2:=by omega
 have f3:¬ kd=3:=by omega
 have f4:¬ kd=4:=by omega
 have f5:¬ kd=5:=by omega
 have f6:¬ kd=6:=by omega
 have f7:¬ kd=7:=by omega
 clear x ht on li o hk
 go_enter Tryz.func29,Tryz.ntmps29
 go_wp2
 rw [← hW0]
 go_ret2
 exact ⟨_,_,rfl,fun _=>rfl,HS.out⟩
end
section
variable {J:List RawOp→Prop} {B:Nat} {S:Nat→Prop} {c:Ac} {h:Hd} {G:Nat→List UInt8} {w:World} {tb r:Nat} {F:List En} {ps:List Nat}
def getV (key:List UInt8) (F:List En):Value:=if isAt key F then .tuple #[.string ⟨((nextE key F).elim [] (·.val)).toArray⟩,.int .i64 0] else .tuple #[.string ⟨#[]⟩,.int .i64 3]
def GetPost (J:List RawOp→Prop) (B:Nat) (S:Nat→Prop) (c:Ac) (h:Hd) (G:Nat→List UInt8) (o:Value) (w:World) (e:Ending) (w':World):Prop:=e=.returned o∧ActPost J B S c h G w w'
structure TGetR (J:List RawOp→Prop) (B:Nat) (S:Nat→Prop) (c:Ac) (h:Hd) (G:Nat→List UInt8) (o:Value) (w:World) (xb at_ gw m N cap:Nat) (arr:Option Addr) (b:Bool) (w3:World):Prop where
 cells:w3.cell? ⟨gw,m*2,none⟩=some (.pointer (some ⟨xb,0,none⟩))∧w3.cell? ⟨gw,m*2+1,none⟩=some (.int .i64 at_)
 small:m≤900∧at_≤N∧N≤512
 node:∀ W,Below w3.heap.size w3 W→W.cell? ⟨xb,2,none⟩=some (.slice arr N cap)
 held:b=true→at_ < N∧∃ (bb of l c2:Nat) (A:Option Addr) (s:ByteArray),arr=some ⟨bb,of,none⟩∧∀ W,Below w3.heap.size w3 W→W.cell? ⟨bb,of+at_*2+1,none⟩=some (.slice A l c2)∧(convert 102 9 (.slice A l c2)).run Tryz.prog W=.ok (.string s) W∧GetPost J B S c h G o w (.returned (.tuple #[.string s,.int .i64 0])) W
 not_:b=false→∀ W,Below w3.heap.size w3 W→GetPost J B S c h G o w (.returned (.tuple #[.string ⟨#[]⟩,.int .i64 3])) W
theorem get_way (x:ActV J B S c h G w) (ht:TreeAt w tb c.a r) (htS:¬ S tb) (on:TreeOn h G (h.root r) F ps) (key:ByteArray) (k:Nat) :
  ∃ kc W,(convert 9 102 (.string key)).run Tryz.prog (w.drewN k)=.ok (.slice (some ⟨w.heap.size,0,none⟩) key.size kc) W∧Hid (Calls Tryz.prog 76 #[.pointer (some ⟨tb,0,none⟩),.int .i64 (h.root r),.slice (some ⟨w.heap.size,0,none⟩) key.size kc] W fun e w3=>∃ (b:Bool) (xb at_ gw m cv N cap:Nat) (arr:Option Addr),e=.returned (.tuple #[.slice (some ⟨gw,0,none⟩) (m+1) cv,.bool b])∧TGetR J B S c h G (getV key.data.toList F) w xb at_ gw m N cap arr b w3):=by
 obtain ⟨kc,W,h1,h2,h3,h4⟩:=bytesOf_reads (w.drewN k) key
 have hbk:Below w.heap.size w (w.drewN k):=below_drewN w k
 have hbW:Below w.heap.size w W:=hbk.trans (h4.mono hbk.size)
 refine ⟨kc,W,h1,Lib.hid ?_⟩
 refine (way_read (kc:=kc) (key:=key.data.toList) x ht htS on hbW rfl h3 (fun ad ha=>by cases ha;exact hbk.size)).mono ?_
 rintro e w3 ⟨b,x0,at_,gw,n,cv,S3,X3,sts,rfl,R,-⟩
 obtain ⟨m,rfl⟩:∃ m,n=m+1:=⟨n - 1,by have:=R.len.2.1;omega⟩
 obtain ⟨c1,c2,hn,hnS,hle,h512⟩:=R.endAt
 rw [Nat.add_sub_cancel] at c1 c2
 obtain ⟨pre0,q0,z00,hs0⟩:=R.seen
 have hpo:∀ W,Below w3.heap.size w3 W→ActPost J B S c h G w W:=fun W hb=>⟨S3,R.turn.trans (Turn.ofBelow hb),R.act.below hb⟩
 refine ⟨b,x0.blk,at_,gw,m,cv,x0.ens.length,x0.cap,x0.arr,rfl,⟨⟨c1,c2⟩,⟨by have:=R.len.2.2;omega,hle,h512⟩,fun W hb=>(hn.below hb).c2,fun hb=>?_,fun hb W hbw=>⟨?_,hpo W hbw⟩⟩⟩
 ·have hlt:=hs0.held hb
  have hi:x0.ens[at_]? = some x0.ens[at_]:=List.getElem?_eq_getElem hlt
  obtain ⟨bb,of,kv,vv,harr,hbl,hfr,k1,k2,k3,k4⟩:=hn.ents.at_ hi
  obtain ⟨A2,cc2,rfl,_,_,hA2,_⟩:=k4
  refine ⟨hlt,bb,of,_,cc2,A2,⟨x0.ens[at_].val.toArray⟩,harr,fun W hbw=>⟨(hbw.cell (p:=⟨bb,of+at_*2+1,none⟩) hbl).trans k2,conv_str W A2 _ cc2 (hA2.below hbw),?_,hpo W hbw⟩⟩
  unfold getV
  rw [← hs0.is,hb,if_pos rfl,hs0.next,if_pos hlt,hi]
  rfl
 ·unfold getV
  rw [← hs0.is,hb]
  rfl
set_option maxHeartbeats 6400000 in
theorem get_ok (x:ActV J B S c h G w) (ht:TreeAt w tb c.a r) (htS:¬ S tb) (hr16:r < 16) (on:TreeOn h G (h.root r) F ps) (key:ByteArray) :
  Calls Tryz.prog 34 #[.pointer (some ⟨tb,0,none⟩),.string key] w (GetPost J B S c h G (getV key.data.toList F) w):=by
 have HTOP:=Lib.hid (top_ok x ht hr16)
 have HGO:=Lib.hid (get_way x ht htS on key)
 obtain ⟨rt,hrt⟩:∃ rt,rt=h.root r:=⟨_,rfl⟩
 rw [← hrt] at HTOP HGO
 obtain ⟨o,ho⟩:∃ o,o=getV key.data.toList F:=⟨_,rfl⟩
 rw [← ho] at HGO ⊢
 clear x ht htS on hrt ho
 go_enter Tryz.func34,Tryz.ntmps34
 go_wp2_with fail
 refine HTOP.out.mono ?_
 rintro e w1 ⟨rfl,k,rfl⟩
 obtain ⟨kc,W,hcv,HWY⟩:=HGO.out k
 clear HTOP HGO
 go_wp2_with fail
 refine HWY.out.mono ?_
 rintro e w3 ⟨b,xb,at_,gw,m,cv,N,cap,arr,rfl,hR⟩
 have HR:=Lib.hid hR
 obtain ⟨e1,e2⟩:=hR.cells
 obtain ⟨f5,f6,f7⟩:=hR.small
 clear hcv HWY hR
 cases b with
 | false =>
  have HN:=Lib.hid (HR.out.not_ rfl w3 (Below.refl _ _))
  clear HR e1 e2
  go_wp2
  go_ret2
  exact HN.out
 | true =>
 have f1:IntKind.i64.wrap (m:Int)=m:=IntWalk.i64_in _ (by omega)
 have f2:m < m+1:=by omega
 have f3:(m:Int) < (m:Int)+1:=by omega
 have f4:(0:Int)≤(m:Int):=by omega
 obtain ⟨W5,hW5⟩:∃ W5,W5=w3.alloc (.cells #[.pointer (some ⟨xb,0,none⟩),.int .i64 at_] 133):=⟨_,rfl⟩
 obtain ⟨sb,hsb⟩:∃ sb,sb=w3.heap.size:=⟨_,rfl⟩
 obtain ⟨g0,bb,of,l,c2,A,s,harr,hit⟩:=HR.out.held rfl
 have g4:(at_:Int) < (N:Int):=by omega
 have g5:(0:Int)≤(at_:Int):=by omega
 subst harr
 have HSP:Hid (∀ W,Below W5.heap.size W5 W→(W.cell? ⟨sb,0,none⟩=some (.pointer (some ⟨xb,0,none⟩))∧W.cell? ⟨sb,1,none⟩=some (.int .i64 at_)∧W.cell? ⟨xb,2,none⟩=some (.slice (some ⟨bb,of,none⟩) N cap)∧W.cell? ⟨bb,of+at_*2+1,none⟩=some (.slice A l c2))∧(convert 102 9 (.slice A l c2)).run Tryz.prog W=.ok (.string s) W∧GetPost J B S c h G o w (.returned (.tuple #[.string s,.int .i64 0])) W):=Lib.hid fun W hb=>by
  have hz5:W5.heap.size=w3.heap.size+1:=by rw [hW5];simp
  have hb5:Below w3.heap.size w3 W5:=by rw [hW5];exact (Below.refl _ _).alloc (Nat.le_refl _) _
  have hbw:Below w3.heap.size w3 W:=hb5.trans (hb.mono (by omega))
  have hn:W5.heap[sb]? = some (.cells #[.pointer (some ⟨xb,0,none⟩),.int .i64 at_] 133 (0,0)):=by rw [hW5,hsb];exact heap_alloc_new w3 _
  have hn2:=(hb.block sb (by omega)).trans hn
  obtain ⟨q1,q2,q3⟩:=hit W hbw
  exact ⟨⟨by rw [Lib.cell_of_heap hn2];rfl,by rw [Lib.cell_of_heap hn2];rfl,HR.out.node W hbw,q1⟩,q2,q3⟩
 clear hit HR
 go_wp2
 rw [← hW5,← hsb]
 clear hW5 hsb e1 e2
 have HS0:=Lib.hid (HSP.out _ (Below.refl W5.heap.size W5).drew).1
 have HCV:=Lib.hid (HSP.out _ (Below.refl W5.heap.size W5).drew).2.1
 have HEN:=Lib.hid (HSP.out _ (Below.refl W5.heap.size W5).drew).2.2
 have HQ:Hid (∀ W:World,(W.cell? ⟨sb,0,none⟩=some (.pointer (some ⟨xb,0,none⟩))∧W.cell? ⟨sb,1,none⟩=some (.int .i64 at_)∧W.cell? ⟨xb,2,none⟩=some (.slice (some ⟨bb,of,none⟩) N cap)∧W.cell? ⟨bb,of+at_*2+1,none⟩=some (.slice A l c2))→W.cell? ⟨sb,0,none⟩=some (.pointer (some ⟨xb,0,none⟩))∧W.cell? ⟨sb,1,none⟩=some (.int .i64 at_)∧W.cell? ⟨xb,2,none⟩=some (.slice (some ⟨bb,of,none⟩) N cap)∧W.cell? ⟨bb,of+at_*2+1,none⟩=some (.slice A l c2)):=Lib.hid fun _ h=>h
 clear HSP
 refine wp_region_goes (S:=fun W=>W.cell? ⟨sb,0,none⟩=some (.pointer (some ⟨xb,0,none⟩))∧W.cell? ⟨sb,1,none⟩=some (.int .i64 at_)∧W.cell? ⟨xb,2,none⟩=some (.slice (some ⟨bb,of,none⟩) N cap)∧W.cell? ⟨bb,of+at_*2+1,none⟩=some (.slice A l c2)) [] (by kernel_rfl) ?_
 refine Goes.take (i:=0) (v:=.pointer (some ⟨sb,0,none⟩)) rfl (by kernel_rfl) (by kernel_rfl) (by kernel_rfl) (by kernel_rfl) (fun _ _ _ h=>h) (Or.inl ⟨by rfl,fun W hW=>by go_simp⟩) HS0.out ?_
 refine Goes.take (i:=1) (v:=.pointer (some ⟨xb,0,none⟩)) rfl (by kernel_rfl) (by kernel_rfl) (by kernel_rfl) (by kernel_rfl) (fun _ _ _ h=>h) (Or.inl ⟨by rfl,fun W hW=>by have x1:=(HQ.out W hW).1;clear hW;go_simp⟩) HS0.out ?_
 refine Goes.take (i:=2) (v:=.pointer (some ⟨xb,0,none⟩)) rfl (by kernel_rfl) (by kernel_rfl) (by kernel_rfl) (by kernel_rfl) (fun _ _ _ h=>h) (Or.inl ⟨by rfl,fun W hW=>by go_simp⟩) HS0.out ?_
 refine Goes.take (i:=3) (v:=.pointer (some ⟨xb,2,none⟩)) rfl (by kernel_rfl) (by kernel_rfl) (by kernel_rfl) (by kernel_rfl) (fun _ _ _ h=>h) (Or.inl ⟨by rfl,fun W hW=>by go_simp⟩) HS0.out ?_
 refine Goes.take (i:=4) (v:=.slice (some ⟨bb,of,none⟩) N cap) rfl (by kernel_rfl) (by kernel_rfl) (by kernel_rfl) (by kernel_rfl) (fun _ _ _ h=>h) (Or.inl ⟨by rfl,fun W hW=>by have x1:=(HQ.out W hW).2.2.1;clear hW;go_simp⟩) HS0.out ?_
 refine Goes.take (i:=5) (v:=.pointer (some ⟨sb,1,none⟩)) rfl (by kernel_rfl) (by kernel_rfl) (by kernel_rfl) (by kernel_rfl) (fun _ _ _ h=>h) (Or.inl ⟨by rfl,fun W hW=>by go_simp⟩) HS0.out ?_
 refine Goes.take (i:=6) (v:=.int .i64 at_) rfl (by kernel_rfl) (by kernel_rfl) (by kernel_rfl) (by kernel_rfl) (fun _ _ _ h=>h) (Or.inl ⟨by rfl,fun W hW=>by have x1:=(HQ.out W hW).2.1;clear hW;go_simp⟩) HS0.out ?_
 refine Goes.take (i:=7) (v:=.pointer (some ⟨bb,of+at_*2,none⟩)) rfl (by kernel_rfl) (by kernel_rfl) (by kernel_rfl) (by kernel_rfl) (fun _ _ _ h=>h) (Or.inl ⟨by rfl,fun W hW=>by go_simp⟩) HS0.out ?_
 refine Goes.take (i:=8) (v:=.pointer (some ⟨bb,of+at_*2+1,none⟩)) rfl (by kernel_rfl) (by kernel_rfl) (by kernel_rfl) (by kernel_rfl) (fun _ _ _ h=>h) (Or.inl ⟨by rfl,fun W hW=>by go_simp⟩) HS0.out ?_
 refine Goes.take (i:=9) (v:=.slice A l c2) rfl (by kernel_rfl) (by kernel_rfl) (by kernel_rfl) (by kernel_rfl) (fun _ _ _ h=>h) (Or.inl ⟨by rfl,fun W hW=>by have x1:=(HQ.out W hW).2.2.2;clear hW;go_simp⟩) HS0.out ?_
 refine Goes.ready (rs:=[10]) (by kernel_rfl) (by simp) ?_
 refine AllGo.cons rfl (fun K' hK=>?_) AllGo.nil
 have hcv:=HCV.out
 go_simp
 clear hcv
 refine hK.out _ _ (fun _=>HS0.out) ?_
 clear hK K'
 refine Goes.ready (rs:=[11]) (by kernel_rfl) (by simp) ?_
 refine AllGo.cons rfl (fun K' hK=>?_) AllGo.nil
 go_simp
 refine hK.out _ _ (fun _=>HS0.out) ?_
 clear hK K'
 refine Goes.ready (rs:=[12]) (by kernel_rfl) (by simp) ?_
 refine AllGo.cons rfl (fun K' hK=>?_) AllGo.nil
 go_simp
 refine hK.out _ _ (fun _=>HS0.out) ?_
 clear hK K'
 refine Goes.done (by kernel_rfl) ?_ _
 go_wp2
 go_ret2
 exact HEN.out
end
theorem empty_forms {s:ByteArray} (h:s=⟨#[]⟩):s.toList=[]∧s.toList.isEmpty=true:=by subst h;exact ⟨by rw [ByteArray.toList_eq],by rw [ByteArray.toList_eq];rfl⟩
theorem nonempty_forms {s:ByteArray} (h:¬ s=⟨#[]⟩):¬ s.toList=[]∧s.toList.isEmpty=false:=by
 have h1:¬ s.toList=[]:=fun e=>h (by
  rw [ByteArray.toList_eq] at e
  have h2:s.data=#[]:=Array.toList_eq_nil_iff.1 e
  cases s;cases h2;rfl)
 refine ⟨h1,?_⟩
 cases hb:s.toList.isEmpty with
 | false=>rfl
 | true=>exact absurd (List.isEmpty_iff.1 hb) h1
section
variable {J:List RawOp→Prop} {B:Nat} {S:Nat→Prop} {c:Ac} {h:Hd} {G:Nat→List UInt8} {w:World} {tb r:Nat} {F l:List En} {ps:List Nat} {v:Value}
set_option maxHeartbeats 3200000 in
theorem does_get (x:ActV J B S c h G w) (ht:TreeAt w tb c.a r) (htS:¬ S tb) (hr16:r < 16) (on:TreeOn h G (h.root r) F ps) (li:LiI S w v l) (hl:l.length≤80000) (key val:ByteArray) :
  Calls Tryz.prog 29 #[.pointer (some ⟨tb,0,none⟩),v,.agg #[.int .i64 3,.string key,.string val]] w (DoesPost J B S c h G tb r ps F l (l=F) w):=by
 obtain ⟨W0,hW0⟩:∃ W0,W0=w.alloc (.cells #[.int .i64 3,.string key,.string val] 78):=⟨_,rfl⟩
 have o:=op_at x 3 key val hW0
 have e0:=o.c0
 have e1:=o.c1
 obtain ⟨Av,cv,rfl,hcv,_⟩:=li.is.slice
 have HGET:Hid (Calls Tryz.prog 34 #[.pointer (some ⟨tb,0,none⟩),.string key] W0 fun e w1=>∃ (s:ByteArray) (ec:Int),(ec=0∨ec=3)∧e=.returned (.tuple #[.string s,.int .i64 ec])∧w1.cell? ⟨w.heap.size,1,none⟩=some (.string key) ∧
   Hid (l=F→(isAt key.data.toList l=true→ec=0)∧(isAt key.data.toList l=false→ec=3∧s=⟨#[]⟩)) ∧
   Hid (Calls Tryz.prog 67 #[.slice Av l.length cv,.string key] w1 fun e w3=>e=.returned (.bool (isAt key.data.toList l))∧w3=w1) ∧
   Hid (Calls Tryz.prog 69 #[.slice Av l.length cv,.string key] w1 fun e w3=>e=.returned (.int .i64 (cntE key.data.toList l))∧w3=w1) ∧
   Hid (isAt key.data.toList l=true→cntE key.data.toList l < l.length∧∃ (g:Nat) (t:ByteArray),Av=some ⟨g,0,none⟩∧w1.cell? ⟨g,cntE key.data.toList l*2+1,none⟩=some (.string t)∧(l=F→s=t)) ∧
   Hid (StepTo J B S c h G tb r ps F l (.slice Av l.length cv) w w1)):=Lib.hid (by
  have li0:=li.below o.bel
  refine (get_ok (x.below o.bel) (ht.below o.bel) htS hr16 on key).mono ?_
  rintro e w1 ⟨rfl,hp⟩
  have hst:=(StepTo.act hp (ht.below o.bel) htS on li0).older o.bel
  obtain ⟨S',hT,hA⟩:=hp
  have li1:=li0.turn hT
  obtain ⟨s,ec,hg,h1,h2⟩:∃ (s:ByteArray) (ec:Int),getV key.data.toList F=.tuple #[.string s,.int .i64 ec]∧(isAt key.data.toList F=true→ec=0∧s=⟨((nextE key.data.toList F).elim [] (·.val)).toArray⟩)∧(isAt key.data.toList F=false→ec=3∧s=⟨#[]⟩):=by
   unfold getV
   cases hb:isAt key.data.toList F with
   | true=>exact ⟨_,_,if_pos rfl,fun _=>⟨rfl,rfl⟩,fun h=>by cases h⟩
   | false=>exact ⟨_,_,if_neg (by simp),fun h=>(by cases h),fun _=>⟨rfl,rfl⟩⟩
  refine ⟨s,ec,?_,by rw [hg],o.turn _ _ hT,Lib.hid fun e=>⟨fun hb=>(h1 (by rw [← e];exact hb)).1,fun hb=>h2 (by rw [← e];exact hb)⟩,Lib.hid (rhas_any li1.is (by omega) key),Lib.hid (rfind_any li1.is (by omega) key),Lib.hid fun hb=>?_,Lib.hid hst⟩
  ·cases hb:isAt key.data.toList F with
   | true=>exact .inl (h1 hb).1
   | false=>exact .inr (h2 hb).1
  ·have hlt:=isAt_lt hb
   have he:l[cntE key.data.toList l]? = some l[cntE key.data.toList l]:=List.getElem?_eq_getElem hlt
   obtain ⟨g,c2,hv,_,_,k2⟩:=li1.is.at_ he
   injection hv with hA _ _
   refine ⟨hlt,g,_,hA,k2,fun e=>?_⟩
   subst e
   rw [(h1 hb).2]
   unfold nextE
   rw [he];rfl)
 obtain ⟨bl,hbl⟩:∃ bl,bl=isAt key.data.toList l:=⟨_,rfl⟩
 obtain ⟨m,hm⟩:∃ m,m=cntE key.data.toList l:=⟨_,rfl⟩
 obtain ⟨n,hn⟩:∃ n,n=l.length:=⟨_,rfl⟩
 rw [← hbl,← hm,← hn] at HGET
 rw [← hn]
 clear x ht htS on li o hbl hm hn hl hcv
 go_enter Tryz.func29,Tryz.ntmps29
 go_wp2_with fail
 rw [← hW0]
 refine HGET.out.mono ?_
 rintro e w1 ⟨s,ec,hec,rfl,c1,HG,HH,HF,HC,HS⟩
 clear HGET e0 e1 hW0
 go_wp2_with fail
 refine HH.out.mono ?_
 rintro e w3 ⟨rfl,hw⟩
 subst w3
 clear HH
 cases bl with
 | false =>
  clear HF HC
  by_cases hs:s=⟨#[]⟩
  ·obtain ⟨s1,s2⟩:=empty_forms hs
   have HSE:=Lib.hid hs
   clear hs
   rcases hec with rfl | rfl
   ·go_wp2
    go_ret2
    exact ⟨_,_,rfl,fun e=>absurd ((HG.out e).2 (by first | rfl | trivial)).1 (by decide),HS.out⟩
   ·go_wp2
    go_ret2
    exact ⟨_,_,rfl,fun _=>rfl,HS.out⟩
  ·obtain ⟨s1,s2⟩:=nonempty_forms hs
   have HSE:=Lib.hid hs
   clear hs
   go_wp2
   go_ret2
   exact ⟨_,_,rfl,fun e=>absurd ((HG.out e).2 (by first | rfl | trivial)).2 HSE.out,HS.out⟩
 | true =>
  obtain ⟨hlt,g,t,rfl,k2,hst⟩:=HC.out (by first | rfl | trivial)
  have HST:=Lib.hid hst
  have f1:(m:Int) < (n:Int):=by omega
  clear HC hst
  go_wp2_with fail
  refine HF.out.mono ?_
  rintro e w3 ⟨rfl,hw⟩
  subst w3
  clear HF
  by_cases hs:s.toList=t.toList
  ·have s1:(s.toList == t.toList)=true:=beq_iff_eq.2 hs
   clear hs
   rcases hec with rfl | rfl
   ·go_wp2
    go_ret2
    exact ⟨_,_,rfl,fun _=>rfl,HS.out⟩
   ·go_wp2
    go_ret2
    exact ⟨_,_,rfl,fun e=>absurd ((HG.out e).1 (by first | rfl | trivial)) (by decide),HS.out⟩
  ·have s1:(s.toList == t.toList)=false:=by
    cases hb:s.toList == t.toList with
    | false=>rfl
    | true=>exact absurd (beq_iff_eq.1 hb) hs
   have HSE:=Lib.hid hs
   clear hs
   go_wp2
   go_ret2
   exact ⟨_,_,rfl,fun e=>absurd (by rw [HST.out e]) HSE.out,HS.out⟩
end
section
variable (v:Value) (w:World) (hN:∀ W,Below w.heap.size w W→NoTree v W)
include hN
set_option maxHeartbeats 800000 in
theorem put_nobody (k x:ByteArray):Calls Tryz.prog 35 #[v,.string k,.string x] w fun e w'=>e=.returned (.tuple #[.bool false,.int .i64 1])∧w'=w:=by
 have HN:Hid (NoTree v w):=Lib.hid (hN w (Below.refl _ _));clear hN
 go_enter Tryz.func35,Tryz.ntmps35
 go_wp2_with fail
 refine HN.out.mono ?_
 rintro e w1 ⟨rfl,hw⟩
 subst w1
 go_wp2
 go_ret2
 exact ⟨rfl,rfl⟩
set_option maxHeartbeats 800000 in
theorem get_nobody (k:ByteArray):Calls Tryz.prog 34 #[v,.string k] w fun e w'=>e=.returned (.tuple #[.string ⟨#[]⟩,.int .i64 1])∧w'=w:=by
 have HN:Hid (NoTree v w):=Lib.hid (hN w (Below.refl _ _));clear hN
 go_enter Tryz.func34,Tryz.ntmps34
 go_wp2_with fail
 refine HN.out.mono ?_
 rintro e w1 ⟨rfl,hw⟩
 subst w1
 go_wp2
 go_ret2
 exact ⟨rfl,rfl⟩
set_option maxHeartbeats 800000 in
theorem del_nobody (k:ByteArray):Calls Tryz.prog 40 #[v,.string k] w fun e w'=>e=.returned (.int .i64 1)∧w'=w:=by
 have HN:Hid (NoTree v w):=Lib.hid (hN w (Below.refl _ _));clear hN
 go_enter Tryz.func40,Tryz.ntmps40
 go_wp2_with fail
 refine HN.out.mono ?_
 rintro e w1 ⟨rfl,hw⟩
 subst w1
 go_wp2
 go_ret
 exact ⟨rfl,rfl⟩
set_option maxHeartbeats 800000 in
theorem drop_nobody:Calls Tryz.prog 43 #[v] w fun e w'=>e=.returned (.int .i64 1)∧w'=w:=by
 have HN:Hid (NoTree v w):=Lib.hid (hN w (Below.refl _ _));clear hN
 go_enter Tryz.func43,Tryz.ntmps43
 go_wp2_with fail
 refine HN.out.mono ?_
 rintro e w1 ⟨rfl,hw⟩
 subst w1
 go_wp2
 go_ret
 exact ⟨rfl,rfl⟩
set_option maxHeartbeats 800000 in
theorem check_nobody:Calls Tryz.prog 30 #[v] w fun e w'=>e=.returned (.bool false)∧w'=w:=by
 have HN:Hid (NoTree v w):=Lib.hid (hN w (Below.refl _ _));clear hN
 go_enter Tryz.func30,Tryz.ntmps30
 go_wp2_with fail
 refine HN.out.mono ?_
 rintro e w1 ⟨rfl,hw⟩
 subst w1
 go_wp2
 go_ret
 exact ⟨rfl,rfl⟩
set_option maxHeartbeats 800000 in
theorem from_nobody (k:ByteArray):Calls Tryz.prog 36 #[v,.string k] w fun e w'=>e=.returned (.tuple #[itV none,.bool false])∧Below w.heap.size w w':=by
 obtain ⟨W,hW⟩:∃ W,W=w.alloc (.cells #[.string ⟨#[]⟩,.string ⟨#[]⟩] 89):=⟨_,rfl⟩
 have hb:Below w.heap.size w W:=by rw [hW];exact (Below.refl _ _).alloc (Nat.le_refl _) _
 have HN:Hid (NoTree v W):=Lib.hid (hN W hb)
 have hr:W.heap[w.heap.size]? = some itZ:=by rw [hW];exact heap_alloc_new w _
 obtain ⟨d1,d2,d3,d4,d5,d6,d7,HE⟩:=res_set hr ⟨#[]⟩ ⟨#[]⟩ (Q:=fun W'=>Below w.heap.size w W') (fun W' hk=>hb.trans (hk.toBelow hb.size (fun i e=>Nat.le_of_eq e.symm)))
 clear hN hb hr
 go_enter Tryz.func36,Tryz.ntmps36
 go_wp2_with fail
 rw [← hW]
 refine HN.out.mono ?_
 rintro e w1 ⟨rfl,hw⟩
 subst w1
 clear hW
 go_wp2
 exact bodyPost_ret (v:=.tuple #[.agg #[.string ⟨#[]⟩,.string ⟨#[]⟩],.bool false]) (by simp [results,Tryz.results36,go_sem,d6,d7]) rfl ⟨rfl,HE.out⟩
end
section
variable {J:List RawOp→Prop} {B:Nat} {S:Nat→Prop} {c:Ac} {h:Hd} {G:Nat→List UInt8} {w:World} {tb r:Nat} {F:List En} {ps:List Nat}
structure TFromR (J:List RawOp→Prop) (B:Nat) (S:Nat→Prop) (c:Ac) (h:Hd) (G:Nat→List UInt8) (o:Option En) (w:World) (tb xb at_ gw m cv N cap:Nat) (arr:Option Addr) (w3:World):Prop where
 cells:w3.cell? ⟨gw,m*2,none⟩=some (.pointer (some ⟨xb,0,none⟩))∧w3.cell? ⟨gw,m*2+1,none⟩=some (.int .i64 at_)
 small:m≤900∧at_≤N∧N≤512
 node:∀ W,Below w3.heap.size w3 W→W.cell? ⟨xb,2,none⟩=some (.slice arr N cap)
 item:∀ p,p=at_→at_ < N→∃ (bb of l1 l2 c1 c2:Nat) (A1 A2:Option Addr) (s1 s2:ByteArray),arr=some ⟨bb,of,none⟩∧∀ W,Below w3.heap.size w3 W→W.cell? ⟨bb,of+p*2,none⟩=some (.slice A1 l1 c1)∧W.cell? ⟨bb,of+p*2+1,none⟩=some (.slice A2 l2 c2) ∧
   Calls Tryz.prog 82 #[.agg #[.slice A1 l1 c1,.slice A2 l2 c2]] W fun e w4=>e=.returned (.agg #[.string s1,.string s2])∧Below W.heap.size W w4∧ResSet w.heap.size s1 s2 w4 fun W'=>TellPost J B S c h G o w (.returned (.tuple #[.agg #[.string s1,.string s2],.bool true])) W'
 beside:¬ at_ < N→∀ W,Below w3.heap.size w3 W→Calls Tryz.prog 83 #[.pointer (some ⟨tb,0,none⟩),.slice (some ⟨gw,0,none⟩) (m+1) cv,.int .i64 1] W fun e w4=>∃ (s1 s2:ByteArray) (bb:Bool),e=.returned (.tuple #[.agg #[.string s1,.string s2],.bool bb])∧ResSet w.heap.size s1 s2 w4 fun W'=>TellPost J B S c h G o w (.returned (.tuple #[.agg #[.string s1,.string s2],.bool bb])) W'
theorem from_way (x:ActV J B S c h G w) (ht:TreeAt w tb c.a r) (htS:¬ S tb) (on:TreeOn h G (h.root r) F ps) {W0:World} (hW0:W0=w.alloc (.cells #[.string ⟨#[]⟩,.string ⟨#[]⟩] 89)) (key:ByteArray) (k:Nat) :
  ∃ kc W,(convert 9 102 (.string key)).run Tryz.prog (W0.drewN k)=.ok (.slice (some ⟨W0.heap.size,0,none⟩) key.size kc) W∧Hid (Calls Tryz.prog 76 #[.pointer (some ⟨tb,0,none⟩),.int .i64 (h.root r),.slice (some ⟨W0.heap.size,0,none⟩) key.size kc] W fun e w3=>∃ (b:Bool) (xb at_ gw m cv N cap:Nat) (arr:Option Addr),e=.returned (.tuple #[.slice (some ⟨gw,0,none⟩) (m+1) cv,.bool b])∧TFromR J B S c h G (nextE key.data.toList F) w tb xb at_ gw m cv N cap arr w3):=by
 have hb0:Below w.heap.size w W0:=by rw [hW0];exact (Below.refl _ _).alloc (Nat.le_refl _) _
 have hz0:W0.heap.size=w.heap.size+1:=by rw [hW0];simp
 have hn0:W0.heap[w.heap.size]? = some itZ:=by rw [hW0];exact heap_alloc_new w _
 obtain ⟨kc,W,h1,h2,h3,h4⟩:=bytesOf_reads (W0.drewN k) key
 have hbk:Below w.heap.size w (W0.drewN k):=hb0.trans ((below_drewN W0 k).mono hb0.size)
 have hbW:Below w.heap.size w W:=hbk.trans (h4.mono hbk.size)
 have hrW:W.heap[w.heap.size]? = some itZ:=(h4.block _ (by have:=(below_drewN W0 k).size;omega)).trans hn0
 refine ⟨kc,W,h1,Lib.hid ?_⟩
 refine (way_read (kc:=kc) (key:=key.data.toList) x ht htS on hbW rfl h3 (fun ad ha=>by cases ha;exact hbk.size)).mono ?_
 rintro e w3 ⟨b,x0,at_,gw,n,cv,S3,X3,sts,rfl,R,hres⟩
 have hr3:w3.heap[w.heap.size]? = some itZ∧¬ S3 w.heap.size:=by
  obtain ⟨e1,e2⟩:=hres w.heap.size (Nat.le_refl _) (Array.getElem?_eq_some_iff.1 hrW).1
  exact ⟨e1.trans hrW,e2⟩
 obtain ⟨m,rfl⟩:∃ m,n=m+1:=⟨n - 1,by have:=R.len.2.1;omega⟩
 obtain ⟨c1,c2,hn,hnS,hle,h512⟩:=R.endAt
 rw [Nat.add_sub_cancel] at c1 c2
 obtain ⟨pre0,q0,z00,hs0⟩:=R.seen
 refine ⟨b,x0.blk,at_,gw,m,cv,x0.ens.length,x0.cap,x0.arr,rfl,⟨⟨c1,c2⟩,⟨by have:=R.len.2.2;omega,hle,h512⟩,fun W hb=>(hn.below hb).c2,fun p hp hlt=>?_,fun hge W hb=>?_⟩⟩
 ·subst hp
  refine R.item (i:=p) (List.getElem?_eq_getElem hlt) ?_ (Nat.le_refl _) hr3
  rw [hs0.next,if_pos hlt]
  exact List.getElem?_eq_getElem hlt
 ·exact R.beside true (fun pre q z0 hs=>by rw [hs.next,if_neg hge]) (Nat.le_refl _) hr3 hb
set_option maxHeartbeats 6400000 in
theorem from_ok (x:ActV J B S c h G w) (ht:TreeAt w tb c.a r) (htS:¬ S tb) (hr16:r < 16) (on:TreeOn h G (h.root r) F ps) (key:ByteArray) :
  Calls Tryz.prog 36 #[.pointer (some ⟨tb,0,none⟩),.string key] w (TellPost J B S c h G (nextE key.data.toList F) w):=by
 obtain ⟨W0,hW0⟩:∃ W0,W0=w.alloc (.cells #[.string ⟨#[]⟩,.string ⟨#[]⟩] 89):=⟨_,rfl⟩
 have hb0:Below w.heap.size w W0:=by rw [hW0];exact (Below.refl _ _).alloc (Nat.le_refl _) _
 have HTOP:=Lib.hid (top_ok (x.below hb0) (ht.below hb0) hr16)
 have HGO:=Lib.hid (from_way x ht htS on hW0 key)
 obtain ⟨rt,hrt⟩:∃ rt,rt=h.root r:=⟨_,rfl⟩
 rw [← hrt] at HTOP HGO
 clear x ht htS on hrt hb0
 go_enter Tryz.func36,Tryz.ntmps36
 go_wp2_with fail
 rw [← hW0]
 refine HTOP.out.mono ?_
 rintro e w1 ⟨rfl,k,rfl⟩
 obtain ⟨kc,W,hcv,HWY⟩:=HGO.out k
 clear HTOP HGO hW0
 go_wp2_with fail
 refine HWY.out.mono ?_
 rintro e w3 ⟨b,xb,at_,gw,m,cv,N,cap,arr,rfl,hR⟩
 have HR:=Lib.hid hR
 obtain ⟨e1,e2⟩:=hR.cells
 obtain ⟨f5,f6,f7⟩:=hR.small
 clear hcv HWY hR
 have f1:IntKind.i64.wrap (m:Int)=m:=IntWalk.i64_in _ (by omega)
 have f2:m < m+1:=by omega
 have f3:(m:Int) < (m:Int)+1:=by omega
 have f4:(0:Int)≤(m:Int):=by omega
 obtain ⟨W5,hW5⟩:∃ W5,W5=w3.alloc (.cells #[.pointer (some ⟨xb,0,none⟩),.int .i64 at_] 133):=⟨_,rfl⟩
 obtain ⟨sb,hsb⟩:∃ sb,sb=w3.heap.size:=⟨_,rfl⟩
 have HSP:Hid (∀ W,Below W5.heap.size W5 W→Below w3.heap.size w3 W∧W.cell? ⟨sb,0,none⟩=some (.pointer (some ⟨xb,0,none⟩))∧W.cell? ⟨sb,1,none⟩=some (.int .i64 at_)∧W.cell? ⟨xb,2,none⟩=some (.slice arr N cap)):=Lib.hid fun W hb=>by
  have hz5:W5.heap.size=w3.heap.size+1:=by rw [hW5];simp
  have hb5:Below w3.heap.size w3 W5:=by rw [hW5];exact (Below.refl _ _).alloc (Nat.le_refl _) _
  have hbw:Below w3.heap.size w3 W:=hb5.trans (hb.mono (by omega))
  have hn:W5.heap[sb]? = some (.cells #[.pointer (some ⟨xb,0,none⟩),.int .i64 at_] 133 (0,0)):=by rw [hW5,hsb];exact heap_alloc_new w3 _
  have hn2:=(hb.block sb (by omega)).trans hn
  exact ⟨hbw,by rw [Lib.cell_of_heap hn2];rfl,by rw [Lib.cell_of_heap hn2];rfl,HR.out.node W hbw⟩
 go_wp2
 rw [← hW5,← hsb]
 clear hW5 hsb e1 e2
 obtain ⟨_,s0,s1,s2⟩:=HSP.out W5 (Below.refl _ _)
 go_quiet (fail)
 by_cases hlt:at_ < N
 ·have hd:decide (at_ < N)=true:=decide_eq_true hlt
  have g4:(at_:Int) < (N:Int):=by omega
  obtain ⟨bb,of,l1,l2,c1,c2,A1,A2,r1,r2,harr,hit⟩:=HR.out.item at_ rfl hlt
  obtain ⟨W6,hW6⟩:∃ W6,W6=W5.drewN nq:=⟨_,rfl⟩
  have h65:Below W5.heap.size W5 W6:=by rw [hW6];exact below_drewN W5 nq
  subst harr
  have HIT:=Lib.hid hit
  have HSF:Hid (∀ W,Below W6.heap.size W6 W→W.cell? ⟨sb,0,none⟩=some (.pointer (some ⟨xb,0,none⟩))∧W.cell? ⟨sb,1,none⟩=some (.int .i64 at_)∧W.cell? ⟨xb,2,none⟩=some (.slice (some ⟨bb,of,none⟩) N cap)∧W.cell? ⟨bb,of+at_*2,none⟩=some (.slice A1 l1 c1)∧W.cell? ⟨bb,of+at_*2+1,none⟩=some (.slice A2 l2 c2)):=Lib.hid fun W hb=>by
   obtain ⟨q1,q2,q3,q4⟩:=HSP.out W (below_then_ h65 hb)
   obtain ⟨q5,q6,_⟩:=HIT.out W q1
   exact ⟨q2,q3,q4,q5,q6⟩
  have HS0:Hid (W6.drew.cell? ⟨sb,0,none⟩=some (.pointer (some ⟨xb,0,none⟩))∧W6.drew.cell? ⟨sb,1,none⟩=some (.int .i64 at_)∧W6.drew.cell? ⟨xb,2,none⟩=some (.slice (some ⟨bb,of,none⟩) N cap)∧W6.drew.cell? ⟨bb,of+at_*2,none⟩=some (.slice A1 l1 c1)∧W6.drew.cell? ⟨bb,of+at_*2+1,none⟩=some (.slice A2 l2 c2)):=Lib.hid (HSF.out _ (Below.refl _ _).drew)
  have HIC:=Lib.hid (HIT.out _ (HSP.out _ (below_then_ h65 (Below.refl W6.heap.size W6).drew)).1).2.2
  have HQ:Hid (∀ W:World,(W.cell? ⟨sb,0,none⟩=some (.pointer (some ⟨xb,0,none⟩))∧W.cell? ⟨sb,1,none⟩=some (.int .i64 at_)∧W.cell? ⟨xb,2,none⟩=some (.slice (some ⟨bb,of,none⟩) N cap)∧W.cell? ⟨bb,of+at_*2,none⟩=some (.slice A1 l1 c1)∧W.cell? ⟨bb,of+at_*2+1,none⟩=some (.slice A2 l2 c2))→W.cell? ⟨sb,0,none⟩=some (.pointer (some ⟨xb,0,none⟩))∧W.cell? ⟨sb,1,none⟩=some (.int .i64 at_)∧W.cell? ⟨xb,2,none⟩=some (.slice (some ⟨bb,of,none⟩) N cap)∧W.cell? ⟨bb,of+at_*2,none⟩=some (.slice A1 l1 c1)∧W.cell? ⟨bb,of+at_*2+1,none⟩=some (.slice A2 l2 c2)):=Lib.hid fun _ h=>h
  clear hit HIT HSP HR s0 s1 s2 h65
  go_wp2
  rw [← hW6]
  clear hW6
  refine wp_region_goes (S:=fun W=>W.cell? ⟨sb,0,none⟩=some (.pointer (some ⟨xb,0,none⟩))∧W.cell? ⟨sb,1,none⟩=some (.int .i64 at_)∧W.cell? ⟨xb,2,none⟩=some (.slice (some ⟨bb,of,none⟩) N cap)∧W.cell? ⟨bb,of+at_*2,none⟩=some (.slice A1 l1 c1)∧W.cell? ⟨bb,of+at_*2+1,none⟩=some (.slice A2 l2 c2)) [10,11] (by kernel_rfl) ?_
  refine Goes.take (i:=0) (v:=.pointer (some ⟨sb,0,none⟩)) rfl (by kernel_rfl) (by kernel_rfl) (by kernel_rfl) (by kernel_rfl) (fun _ _ _ h=>h) (Or.inl ⟨by rfl,fun W hW=>by go_simp⟩) HS0.out ?_
  refine Goes.take (i:=1) (v:=.pointer (some ⟨xb,0,none⟩)) rfl (by kernel_rfl) (by kernel_rfl) (by kernel_rfl) (by kernel_rfl) (fun _ _ _ h=>h) (Or.inl ⟨by rfl,fun W hW=>by have x1:=(HQ.out W hW).1;clear hW;go_simp⟩) HS0.out ?_
  refine Goes.take (i:=2) (v:=.pointer (some ⟨xb,0,none⟩)) rfl (by kernel_rfl) (by kernel_rfl) (by kernel_rfl) (by kernel_rfl) (fun _ _ _ h=>h) (Or.inl ⟨by rfl,fun W hW=>by go_simp⟩) HS0.out ?_
  refine Goes.take (i:=3) (v:=.pointer (some ⟨xb,2,none⟩)) rfl (by kernel_rfl) (by kernel_rfl) (by kernel_rfl) (by kernel_rfl) (fun _ _ _ h=>h) (Or.inl ⟨by rfl,fun W hW=>by go_simp⟩) HS0.out ?_
  refine Goes.take (i:=4) (v:=.slice (some ⟨bb,of,none⟩) N cap) rfl (by kernel_rfl) (by kernel_rfl) (by kernel_rfl) (by kernel_rfl) (fun _ _ _ h=>h) (Or.inl ⟨by rfl,fun W hW=>by have x1:=(HQ.out W hW).2.2.1;clear hW;go_simp⟩) HS0.out ?_
  refine Goes.take (i:=5) (v:=.pointer (some ⟨sb,1,none⟩)) rfl (by kernel_rfl) (by kernel_rfl) (by kernel_rfl) (by kernel_rfl) (fun _ _ _ h=>h) (Or.inl ⟨by rfl,fun W hW=>by go_simp⟩) HS0.out ?_
  refine Goes.take (i:=6) (v:=.int .i64 at_) rfl (by kernel_rfl) (by kernel_rfl) (by kernel_rfl) (by kernel_rfl) (fun _ _ _ h=>h) (Or.inl ⟨by rfl,fun W hW=>by have x1:=(HQ.out W hW).2.1;clear hW;go_simp⟩) HS0.out ?_
  refine Goes.take (i:=7) (v:=.pointer (some ⟨bb,of+at_*2,none⟩)) rfl (by kernel_rfl) (by kernel_rfl) (by kernel_rfl) (by kernel_rfl) (fun _ _ _ h=>h) (Or.inl ⟨by rfl,fun W hW=>by go_simp⟩) HS0.out ?_
  refine Goes.take (i:=8) (v:=.agg #[.slice A1 l1 c1,.slice A2 l2 c2]) rfl (by kernel_rfl) (by kernel_rfl) (by kernel_rfl) (by kernel_rfl) (fun _ _ _ h=>h) (Or.inl ⟨by rfl,fun W hW=>by have x1:=(HQ.out W hW).2.2.2.1;have x2:=(HQ.out W hW).2.2.2.2;clear hW;go_simp⟩) HS0.out ?_
  refine Goes.ready (rs:=[9]) (by kernel_rfl) (by simp) ?_
  refine AllGo.cons rfl (fun K' hK=>?_) AllGo.nil
  go_simp
  go_at_call 82
  refine HIC.out.mono ?_
  rintro e w4 ⟨rfl,hb4,d1,d2,d3,d4,d5,d6,d7,HE⟩
  have HS4:=Lib.hid (HSF.out w4 (below_then_ (Below.refl W6.heap.size W6).drew hb4))
  clear hb4 HIC HSF
  refine hK.out _ _ (fun _=>HS4.out) ?_
  clear hK K'
  refine Goes.ready (rs:=[10]) (by kernel_rfl) (by simp) ?_
  refine AllGo.cons rfl (fun K' hK=>?_) AllGo.nil
  go_simp
  refine hK.out _ _ (fun h=>absurd h (by decide)) ?_
  clear hK K'
  refine Goes.ready (rs:=[11]) (by kernel_rfl) (by simp) ?_
  refine AllGo.cons rfl (fun K' hK=>?_) AllGo.nil
  go_simp
  refine hK.out _ _ (fun h=>absurd h (by decide)) ?_
  clear hK K'
  refine Goes.done (by kernel_rfl) ?_ _
  go_wp2
  exact bodyPost_ret (v:=.tuple #[.agg #[.string r1,.string r2],.bool true]) (by simp [results,Tryz.results36,go_sem,d6,d7]) rfl HE.out
 ·have hd:decide (at_ < N)=false:=decide_eq_false hlt
  have HBE:=Lib.hid (HR.out.beside hlt _ (HSP.out _ (below_drewN W5 nq)).1)
  clear HSP HR s0 s1 s2
  go_wp2_with fail
  refine HBE.out.mono ?_
  rintro e w4 ⟨r1,r2,bb,rfl,d1,d2,d3,d4,d5,d6,d7,HE⟩
  clear HBE
  go_wp2
  exact bodyPost_ret (v:=.tuple #[.agg #[.string r1,.string r2],.bool bb]) (by simp [results,Tryz.results36,go_sem,d6,d7]) rfl HE.out
structure TPrevR (J:List RawOp→Prop) (B:Nat) (S:Nat→Prop) (c:Ac) (h:Hd) (G:Nat→List UInt8) (o:Option En) (w:World) (tb xb at_ gw m cv N cap:Nat) (arr:Option Addr) (w3:World):Prop where
 cells:w3.cell? ⟨gw,m*2,none⟩=some (.pointer (some ⟨xb,0,none⟩))∧w3.cell? ⟨gw,m*2+1,none⟩=some (.int .i64 at_)
 small:m≤900∧at_≤N∧N≤512
 node:∀ W,Below w3.heap.size w3 W→W.cell? ⟨xb,2,none⟩=some (.slice arr N cap)
 item:∀ p,at_=p+1→∃ (bb of l1 l2 c1 c2:Nat) (A1 A2:Option Addr) (s1 s2:ByteArray),arr=some ⟨bb,of,none⟩∧∀ W,Below w3.heap.size w3 W→W.cell? ⟨bb,of+p*2,none⟩=some (.slice A1 l1 c1)∧W.cell? ⟨bb,of+p*2+1,none⟩=some (.slice A2 l2 c2) ∧
   Calls Tryz.prog 82 #[.agg #[.slice A1 l1 c1,.slice A2 l2 c2]] W fun e w4=>e=.returned (.agg #[.string s1,.string s2])∧Below W.heap.size W w4∧ResSet w.heap.size s1 s2 w4 fun W'=>TellPost J B S c h G o w (.returned (.tuple #[.agg #[.string s1,.string s2],.bool true])) W'
 beside:at_=0→∀ W,Below w3.heap.size w3 W→Calls Tryz.prog 83 #[.pointer (some ⟨tb,0,none⟩),.slice (some ⟨gw,0,none⟩) (m+1) cv,.int .i64 (-1)] W fun e w4=>∃ (s1 s2:ByteArray) (bb:Bool),e=.returned (.tuple #[.agg #[.string s1,.string s2],.bool bb])∧ResSet w.heap.size s1 s2 w4 fun W'=>TellPost J B S c h G o w (.returned (.tuple #[.agg #[.string s1,.string s2],.bool bb])) W'
theorem prev_way (x:ActV J B S c h G w) (ht:TreeAt w tb c.a r) (htS:¬ S tb) (on:TreeOn h G (h.root r) F ps) {W0:World} (hW0:W0=w.alloc (.cells #[.string ⟨#[]⟩,.string ⟨#[]⟩] 89)) (key:ByteArray) (k:Nat) :
  ∃ kc W,(convert 9 102 (.string key)).run Tryz.prog (W0.drewN k)=.ok (.slice (some ⟨W0.heap.size,0,none⟩) key.size kc) W∧Hid (Calls Tryz.prog 76 #[.pointer (some ⟨tb,0,none⟩),.int .i64 (h.root r),.slice (some ⟨W0.heap.size,0,none⟩) key.size kc] W fun e w3=>∃ (b:Bool) (xb at_ gw m cv N cap:Nat) (arr:Option Addr),e=.returned (.tuple #[.slice (some ⟨gw,0,none⟩) (m+1) cv,.bool b])∧TPrevR J B S c h G (prevE key.data.toList F) w tb xb at_ gw m cv N cap arr w3):=by
 have hb0:Below w.heap.size w W0:=by rw [hW0];exact (Below.refl _ _).alloc (Nat.le_refl _) _
 have hz0:W0.heap.size=w.heap.size+1:=by rw [hW0];simp
 have hn0:W0.heap[w.heap.size]? = some itZ:=by rw [hW0];exact heap_alloc_new w _
 obtain ⟨kc,W,h1,h2,h3,h4⟩:=bytesOf_reads (W0.drewN k) key
 have hbk:Below w.heap.size w (W0.drewN k):=hb0.trans ((below_drewN W0 k).mono hb0.size)
 have hbW:Below w.heap.size w W:=hbk.trans (h4.mono hbk.size)
 have hrW:W.heap[w.heap.size]? = some itZ:=(h4.block _ (by have:=(below_drewN W0 k).size;omega)).trans hn0
 refine ⟨kc,W,h1,Lib.hid ?_⟩
 refine (way_read (kc:=kc) (key:=key.data.toList) x ht htS on hbW rfl h3 (fun ad ha=>by cases ha;exact hbk.size)).mono ?_
 rintro e w3 ⟨b,x0,at_,gw,n,cv,S3,X3,sts,rfl,R,hres⟩
 have hr3:w3.heap[w.heap.size]? = some itZ∧¬ S3 w.heap.size:=by
  obtain ⟨e1,e2⟩:=hres w.heap.size (Nat.le_refl _) (Array.getElem?_eq_some_iff.1 hrW).1
  exact ⟨e1.trans hrW,e2⟩
 obtain ⟨m,rfl⟩:∃ m,n=m+1:=⟨n - 1,by have:=R.len.2.1;omega⟩
 obtain ⟨c1,c2,hn,hnS,hle,h512⟩:=R.endAt
 rw [Nat.add_sub_cancel] at c1 c2
 obtain ⟨pre0,q0,z00,hs0⟩:=R.seen
 refine ⟨b,x0.blk,at_,gw,m,cv,x0.ens.length,x0.cap,x0.arr,rfl,⟨⟨c1,c2⟩,⟨by have:=R.len.2.2;omega,hle,h512⟩,fun W hb=>(hn.below hb).c2,fun p hp=>?_,fun hge W hb=>?_⟩⟩
 ·have hp2:p < x0.ens.length:=by omega
  refine R.item (i:=p) (List.getElem?_eq_getElem hp2) ?_ (Nat.le_refl _) hr3
  rw [hs0.prev,if_neg (by omega),hp,Nat.add_sub_cancel]
  exact List.getElem?_eq_getElem hp2
 ·exact R.beside false (fun pre q z0 hs=>by rw [hs.prev,if_pos hge]) (Nat.le_refl _) hr3 hb
set_option maxHeartbeats 6400000 in
theorem prev_ok (x:ActV J B S c h G w) (ht:TreeAt w tb c.a r) (htS:¬ S tb) (hr16:r < 16) (on:TreeOn h G (h.root r) F ps) (key:ByteArray) :
  Calls Tryz.prog 38 #[.pointer (some ⟨tb,0,none⟩),.string key] w (TellPost J B S c h G (prevE key.data.toList F) w):=by
 obtain ⟨W0,hW0⟩:∃ W0,W0=w.alloc (.cells #[.string ⟨#[]⟩,.string ⟨#[]⟩] 89):=⟨_,rfl⟩
 have hb0:Below w.heap.size w W0:=by rw [hW0];exact (Below.refl _ _).alloc (Nat.le_refl _) _
 have HTOP:=Lib.hid (top_ok (x.below hb0) (ht.below hb0) hr16)
 have HGO:=Lib.hid (prev_way x ht htS on hW0 key)
 obtain ⟨rt,hrt⟩:∃ rt,rt=h.root r:=⟨_,rfl⟩
 rw [← hrt] at HTOP HGO
 clear x ht htS on hrt hb0
 go_enter Tryz.func38,Tryz.ntmps38
 go_wp2_with fail
 rw [← hW0]
 refine HTOP.out.mono ?_
 rintro e w1 ⟨rfl,k,rfl⟩
 obtain ⟨kc,W,hcv,HWY⟩:=HGO.out k
 clear HTOP HGO hW0
 go_wp2_with fail
 refine HWY.out.mono ?_
 rintro e w3 ⟨b,xb,at_,gw,m,cv,N,cap,arr,rfl,hR⟩
 have HR:=Lib.hid hR
 obtain ⟨e1,e2⟩:=hR.cells
 obtain ⟨f5,f6,f7⟩:=hR.small
 clear hcv HWY hR
 have f1:IntKind.i64.wrap (m:Int)=m:=IntWalk.i64_in _ (by omega)
 have f2:m < m+1:=by omega
 have f3:(m:Int) < (m:Int)+1:=by omega
 have f4:(0:Int)≤(m:Int):=by omega
 obtain ⟨W5,hW5⟩:∃ W5,W5=w3.alloc (.cells #[.pointer (some ⟨xb,0,none⟩),.int .i64 at_] 133):=⟨_,rfl⟩
 obtain ⟨sb,hsb⟩:∃ sb,sb=w3.heap.size:=⟨_,rfl⟩
 have HSP:Hid (∀ W,Below W5.heap.size W5 W→Below w3.heap.size w3 W∧W.cell? ⟨sb,0,none⟩=some (.pointer (some ⟨xb,0,none⟩))∧W.cell? ⟨sb,1,none⟩=some (.int .i64 at_)∧W.cell? ⟨xb,2,none⟩=some (.slice arr N cap)):=Lib.hid fun W hb=>by
  have hz5:W5.heap.size=w3.heap.size+1:=by rw [hW5];simp
  have hb5:Below w3.heap.size w3 W5:=by rw [hW5];exact (Below.refl _ _).alloc (Nat.le_refl _) _
  have hbw:Below w3.heap.size w3 W:=hb5.trans (hb.mono (by omega))
  have hn:W5.heap[sb]? = some (.cells #[.pointer (some ⟨xb,0,none⟩),.int .i64 at_] 133 (0,0)):=by rw [hW5,hsb];exact heap_alloc_new w3 _
  have hn2:=(hb.block sb (by omega)).trans hn
  exact ⟨hbw,by rw [Lib.cell_of_heap hn2];rfl,by rw [Lib.cell_of_heap hn2];rfl,HR.out.node W hbw⟩
 by_cases hlt:0 < at_
 ·obtain ⟨p,rfl⟩:∃ p,at_=p+1:=⟨at_ - 1,by omega⟩
  obtain ⟨bb,of,l1,l2,c1,c2,A1,A2,r1,r2,harr,hit⟩:=HR.out.item p rfl
  have g1:(0:Int) < ((p+1:Nat):Int):=by omega
  rw [show ((p+1:Nat):Int)=(p:Int)+1 from rfl] at hW5 HSP
  have g2:(0:Int) < (p:Int)+1:=by omega
  have g3:IntKind.i64.wrap (p:Int)=p:=IntWalk.i64_in _ (by omega)
  have g4:(p:Int) < (N:Int):=by omega
  have g5:p < N:=by omega
  go_wp2
  rw [← hW5,← hsb]
  clear hW5 hsb e1 e2
  obtain ⟨_,s0,s1,s2⟩:=HSP.out W5 (Below.refl _ _)
  obtain ⟨W6,hW6⟩:∃ W6,W6=W5:=⟨_,rfl⟩
  have h65:Below W5.heap.size W5 W6:=by rw [hW6];exact Below.refl _ _
  subst harr
  have HIT:=Lib.hid hit
  have HSF:Hid (∀ W,Below W6.heap.size W6 W→W.cell? ⟨sb,0,none⟩=some (.pointer (some ⟨xb,0,none⟩))∧W.cell? ⟨sb,1,none⟩=some (.int .i64 ((p:Int)+1))∧W.cell? ⟨xb,2,none⟩=some (.slice (some ⟨bb,of,none⟩) N cap)∧W.cell? ⟨bb,of+p*2,none⟩=some (.slice A1 l1 c1)∧W.cell? ⟨bb,of+p*2+1,none⟩=some (.slice A2 l2 c2)):=Lib.hid fun W hb=>by
   obtain ⟨q1,q2,q3,q4⟩:=HSP.out W (below_then_ h65 hb)
   obtain ⟨q5,q6,_⟩:=HIT.out W q1
   exact ⟨q2,q3,q4,q5,q6⟩
  have HS0:Hid (W6.drew.cell? ⟨sb,0,none⟩=some (.pointer (some ⟨xb,0,none⟩))∧W6.drew.cell? ⟨sb,1,none⟩=some (.int .i64 ((p:Int)+1))∧W6.drew.cell? ⟨xb,2,none⟩=some (.slice (some ⟨bb,of,none⟩) N cap)∧W6.drew.cell? ⟨bb,of+p*2,none⟩=some (.slice A1 l1 c1)∧W6.drew.cell? ⟨bb,of+p*2+1,none⟩=some (.slice A2 l2 c2)):=Lib.hid (HSF.out _ (Below.refl _ _).drew)
  have HIC:=Lib.hid (HIT.out _ (HSP.out _ (below_then_ h65 (Below.refl W6.heap.size W6).drew)).1).2.2
  have HQ:Hid (∀ W:World,(W.cell? ⟨sb,0,none⟩=some (.pointer (some ⟨xb,0,none⟩))∧W.cell? ⟨sb,1,none⟩=some (.int .i64 ((p:Int)+1))∧W.cell? ⟨xb,2,none⟩=some (.slice (some ⟨bb,of,none⟩) N cap)∧W.cell? ⟨bb,of+p*2,none⟩=some (.slice A1 l1 c1)∧W.cell? ⟨bb,of+p*2+1,none⟩=some (.slice A2 l2 c2))→W.cell? ⟨sb,0,none⟩=some (.pointer (some ⟨xb,0,none⟩))∧W.cell? ⟨sb,1,none⟩=some (.int .i64 ((p:Int)+1))∧W.cell? ⟨xb,2,none⟩=some (.slice (some ⟨bb,of,none⟩) N cap)∧W.cell? ⟨bb,of+p*2,none⟩=some (.slice A1 l1 c1)∧W.cell? ⟨bb,of+p*2+1,none⟩=some (.slice A2 l2 c2)):=Lib.hid fun _ h=>h
  clear hit HIT HSP HR s0 s1 s2 h65
  rw [← hW6]
  clear hW6
  refine wp_region_goes (S:=fun W=>W.cell? ⟨sb,0,none⟩=some (.pointer (some ⟨xb,0,none⟩))∧W.cell? ⟨sb,1,none⟩=some (.int .i64 ((p:Int)+1))∧W.cell? ⟨xb,2,none⟩=some (.slice (some ⟨bb,of,none⟩) N cap)∧W.cell? ⟨bb,of+p*2,none⟩=some (.slice A1 l1 c1)∧W.cell? ⟨bb,of+p*2+1,none⟩=some (.slice A2 l2 c2)) [11,12] (by kernel_rfl) ?_
  refine Goes.take (i:=0) (v:=.pointer (some ⟨sb,0,none⟩)) rfl (by kernel_rfl) (by kernel_rfl) (by kernel_rfl) (by kernel_rfl) (fun _ _ _ h=>h) (Or.inl ⟨by rfl,fun W hW=>by go_simp⟩) HS0.out ?_
  refine Goes.take (i:=1) (v:=.pointer (some ⟨xb,0,none⟩)) rfl (by kernel_rfl) (by kernel_rfl) (by kernel_rfl) (by kernel_rfl) (fun _ _ _ h=>h) (Or.inl ⟨by rfl,fun W hW=>by have x1:=(HQ.out W hW).1;clear hW;go_simp⟩) HS0.out ?_
  refine Goes.take (i:=2) (v:=.pointer (some ⟨xb,0,none⟩)) rfl (by kernel_rfl) (by kernel_rfl) (by kernel_rfl) (by kernel_rfl) (fun _ _ _ h=>h) (Or.inl ⟨by rfl,fun W hW=>by go_simp⟩) HS0.out ?_
  refine Goes.take (i:=3) (v:=.pointer (some ⟨xb,2,none⟩)) rfl (by kernel_rfl) (by kernel_rfl) (by kernel_rfl) (by kernel_rfl) (fun _ _ _ h=>h) (Or.inl ⟨by rfl,fun W hW=>by go_simp⟩) HS0.out ?_
  refine Goes.take (i:=4) (v:=.slice (some ⟨bb,of,none⟩) N cap) rfl (by kernel_rfl) (by kernel_rfl) (by kernel_rfl) (by kernel_rfl) (fun _ _ _ h=>h) (Or.inl ⟨by rfl,fun W hW=>by have x1:=(HQ.out W hW).2.2.1;clear hW;go_simp⟩) HS0.out ?_
  refine Goes.take (i:=5) (v:=.pointer (some ⟨sb,1,none⟩)) rfl (by kernel_rfl) (by kernel_rfl) (by kernel_rfl) (by kernel_rfl) (fun _ _ _ h=>h) (Or.inl ⟨by rfl,fun W hW=>by go_simp⟩) HS0.out ?_
  refine Goes.take (i:=6) (v:=.int .i64 ((p:Int)+1)) rfl (by kernel_rfl) (by kernel_rfl) (by kernel_rfl) (by kernel_rfl) (fun _ _ _ h=>h) (Or.inl ⟨by rfl,fun W hW=>by have x1:=(HQ.out W hW).2.1;clear hW;go_simp⟩) HS0.out ?_
  refine Goes.take (i:=7) (v:=.int .i64 p) rfl (by kernel_rfl) (by kernel_rfl) (by kernel_rfl) (by kernel_rfl) (fun _ _ _ h=>h) (Or.inl ⟨by rfl,fun W hW=>by go_simp⟩) HS0.out ?_
  refine Goes.take (i:=8) (v:=.pointer (some ⟨bb,of+p*2,none⟩)) rfl (by kernel_rfl) (by kernel_rfl) (by kernel_rfl) (by kernel_rfl) (fun _ _ _ h=>h) (Or.inl ⟨by rfl,fun W hW=>by go_simp⟩) HS0.out ?_
  refine Goes.take (i:=9) (v:=.agg #[.slice A1 l1 c1,.slice A2 l2 c2]) rfl (by kernel_rfl) (by kernel_rfl) (by kernel_rfl) (by kernel_rfl) (fun _ _ _ h=>h) (Or.inl ⟨by rfl,fun W hW=>by have x1:=(HQ.out W hW).2.2.2.1;have x2:=(HQ.out W hW).2.2.2.2;clear hW;go_simp⟩) HS0.out ?_
  refine Goes.ready (rs:=[10]) (by kernel_rfl) (by simp) ?_
  refine AllGo.cons rfl (fun K' hK=>?_) AllGo.nil
  go_simp
  go_at_call 82
  refine HIC.out.mono ?_
  rintro e w4 ⟨rfl,hb4,d1,d2,d3,d4,d5,d6,d7,HE⟩
  have HS4:=Lib.hid (HSF.out w4 (below_then_ (Below.refl W6.heap.size W6).drew hb4))
  clear hb4 HIC HSF
  refine hK.out _ _ (fun _=>HS4.out) ?_
  clear hK K'
  refine Goes.ready (rs:=[11]) (by kernel_rfl) (by simp) ?_
  refine AllGo.cons rfl (fun K' hK=>?_) AllGo.nil
  go_simp
  refine hK.out _ _ (fun h=>absurd h (by decide)) ?_
  clear hK K'
  refine Goes.ready (rs:=[12]) (by kernel_rfl) (by simp) ?_
  refine AllGo.cons rfl (fun K' hK=>?_) AllGo.nil
  go_simp
  refine hK.out _ _ (fun h=>absurd h (by decide)) ?_
  clear hK K'
  refine Goes.done (by kernel_rfl) ?_ _
  go_wp2
  exact bodyPost_ret (v:=.tuple #[.agg #[.string r1,.string r2],.bool true]) (by simp [results,Tryz.results38,go_sem,d6,d7]) rfl HE.out
 ·obtain rfl:at_=0:=by omega
  have HBE:=Lib.hid (HR.out.beside rfl _ (HSP.out _ (Below.refl W5.heap.size W5)).1)
  rw [show ((0:Nat):Int)=0 from rfl] at hW5
  clear HSP HR
  go_wp2_with fail
  rw [← hW5]
  refine HBE.out.mono ?_
  rintro e w4 ⟨r1,r2,bb,rfl,d1,d2,d3,d4,d5,d6,d7,HE⟩
  clear HBE
  go_wp2
  exact bodyPost_ret (v:=.tuple #[.agg #[.string r1,.string r2],.bool bb]) (by simp [results,Tryz.results38,go_sem,d6,d7]) rfl HE.out
end
end Go.Proofs.YtfbbjiidccbaiaaGreatDoor
