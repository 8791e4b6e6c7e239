/- Texts of one proof, one behind the other: VI, VJ, VK, WA, WB, WC, WD, WE, WF. -/
import Derived.Test.YtfbbjiidccbaiaaGreatDoorMAN
set_option maxRecDepth 100000
namespace Go.Proofs.YtfbbjiidccbaiaaGreatDoor
open Go.RowKit
section
variable {K:Kc} {s:Hst} {w:World}
def WritePost (K:Kc) (s:Hst) (e:Ending) (w':World):Prop:=e=.returned (.tuple #[])∧∃ ks,(∀ q,q ∈ ks ↔ (1≤q∧q < 4096)∧(s.M q).isSome=true)∧Fre K s ks s.gn w'
theorem ptrs_mem (M:Nat→Option NO) (q:Nat):(ptrs M q).isSome=true ↔ (1≤q∧q < 4096)∧(M q).isSome=true:=by
 unfold ptrs
 by_cases h:1≤q∧q < 4096
 ·rw [if_pos h];simp [h]
 ·rw [if_neg h];simp [h]
theorem ba_ext {T U:ByteArray} (h:T.toList=U.toList):T=U:=by
 rw [ByteArray.toList_eq,ByteArray.toList_eq] at h
 cases T;cases U
 congr 1
 exact Array.ext' h
theorem take_snoc {l:List Nat} {j q:Nat} (h:l[j]? = some q):l.take j++[q]=l.take (j+1):=by
 rw [List.take_add_one,h];rfl
theorem take_not {l:List Nat} (hn:l.Nodup) {j q:Nat} (h:l[j]? = some q):q ∉ l.take j:=fun hm=>by
 have h1:(l.take (j+1)).Nodup:=hn.sublist (List.take_sublist _ _)
 rw [← take_snoc h,List.nodup_append] at h1
 exact h1.2.2 q hm q (by simp) rfl
set_option maxHeartbeats 6400000 in
theorem write_h (H:Hnd K s w) (hvn:∀ q x,s.M q=some x→1≤q→q < 4096→VN x.level x.ens) (hG:∀ q,s.h.has q→(s.G q).length=512) :
  Calls Tryz.prog 125 #[.pointer (some ⟨K.cb,0,none⟩)] w (WritePost K s):=by
 obtain ⟨m,hm⟩:=H.map.1
 have HK:=Lib.hid (keysN_call K.mb w)
 have HSO:Hid (Calls Tryz.prog 101 #[.func (.func 188) #[] #[.pointer (some ⟨w.heap.size,0,none⟩)]] (w.alloc (.cells #[.map (some K.mb)] 184)) fun e w1=>∃ (va:Option Addr) (N cap:Nat),e=.returned (.slice va N cap)∧Hid (∃ (ks:List Nat) (g:Nat) (o:Obj),ks.length=N∧(∀ q,q ∈ ks ↔ (1≤q∧q < 4096)∧(s.M q).isSome=true)∧ks.Nodup∧Wr K s g o [] w1∧∀ j q,ks[j]? = some q→va=some ⟨g,0,none⟩∧∀ W:World,W.heap[g]? = some o→W.cell? ⟨g,j,none⟩=some (.int .i64 (q:Nat)))):=Lib.hid (by
  refine (sortedN_call hm).mono ?_
  rintro e w1 ⟨v,ks,rfl,hk,hrow,hb⟩
  obtain ⟨va,cap,rfl⟩:=row_shape hrow
  refine ⟨va,ks.length,cap,rfl,Lib.hid ?_⟩
  have H1:=(H.hw).below hb
  have hks:∀ q,q ∈ ks ↔ (1≤q∧q < 4096)∧(s.M q).isSome=true:=fun q=>(hk.2 q).trans (ptrs_mem s.M q)
  have hnd:ks.Nodup:=hk.1.imp fun h=>by omega
  have hwr:∀ g o,s.ρ g=0→w1.heap[g]? = some o→Wr K s g o [] w1:=fun g o hz ho=>⟨s.S,s.ρ,by rw [wG_nil];exact H1,hz,ho⟩
  cases hk0:ks with
  | nil =>
   have htb:=H1.tree.1.lt
   exact ⟨[],K.tb,_,rfl,by rw [← hk0];exact hks,List.nodup_nil,hwr K.tb _ H.tree.2 (Array.getElem?_eq_getElem htb),fun j q hj=>by simp at hj⟩
  | cons q0 r =>
   obtain ⟨g,cap',hge,hv,o,ho,_⟩:=row_cell hrow (j:=0) (q:=q0) (by rw [hk0];rfl)
   rw [← hk0]
   refine ⟨ks,g,o,rfl,hks,hnd,hwr g o ?_ ho,fun j q hj=>?_⟩
   ·rcases Nat.eq_zero_or_pos (s.ρ g) with e | e
    ·exact e
    ·have:=H.lt g (by omega);omega
   ·obtain ⟨g',cap2,_,hv',o',ho',hc'⟩:=row_cell hrow hj
    rw [hv] at hv'
    injection hv' with e1 _ _
    injection e1 with e1
    injection e1 with e1
    subst e1
    rw [ho] at ho'
    injection ho' with ho'
    subst ho'
    injection hv with e2 _ _
    exact ⟨e2,hc'⟩)
 have c1:=H.cb1
 have HHN:=Lib.hid H;have HVN:=Lib.hid hvn;have HG:=Lib.hid hG
 have hgl:s.gn.length≤4096:=H.gn_few
 obtain ⟨ga,gc,hgv⟩:=H.gon.1.shape
 obtain ⟨gl,hgl'⟩:∃ n,n=s.gn.length:=⟨_,rfl⟩
 rw [← hgl'] at hgv hgl
 have HGV:=Lib.hid hgv;have HGL:=Lib.hid hgl'
 clear H hvn hG hm hgv hgl'
 go_enter Tryz.func125,Tryz.ntmps125
 go_wp2_with fail
 refine HK.out.mono ?_
 rintro e w0 ⟨rfl,hw0⟩
 subst w0
 go_wp2_with fail
 refine HSO.out.mono ?_
 rintro e w1 ⟨va,N,cap,rfl,HE⟩
 obtain ⟨ks,g,o,hkl,hks,hnd,hwr,hcell⟩:=HE.out
 have HKL:=Lib.hid hkl;have HKS:=Lib.hid hks;have HND:=Lib.hid hnd;have HWR:=Lib.hid hwr;have HCE:=Lib.hid hcell
 have hN:N≤4096:=by
  rw [← hkl]
  exact nodup_4096 hnd fun q hq=>((hks q).1 hq).1.2
 clear HE HSO HK hkl hks hnd hwr hcell c1
 go_wp2
 go_loopw [15] (fun i wr=>∃ j:Nat,j≤N∧i=.int .i64 j∧Hid (Wr K s g o (ks.take j) wr)) (fun i _=>N - (intOf i).toNat)
 case atStart=>exact ⟨0,by omega,rfl,Lib.hid (by rw [List.take_zero];exact HWR.out)⟩
 case round =>
  obtain ⟨j,hj,rfl,HW⟩:=hrel
  by_cases hlt:j < N
  ·obtain ⟨q,hq⟩:∃ q,ks[j]? = some q:=⟨_,List.getElem?_eq_getElem (by rw [HKL.out];exact hlt)⟩
   obtain ⟨⟨q1,q2⟩,hsome⟩:=(HKS.out q).1 (List.mem_of_getElem? hq)
   obtain ⟨x,hx⟩:=Option.isSome_iff_exists.1 hsome
   obtain ⟨hva,hc⟩:=HCE.out j q hq
   obtain ⟨_,hhas,hwas⟩:=HHN.out.was q x hx q1 q2
   obtain ⟨_,_,_,_,hgo⟩:=id HW.out
   have d0:=hc wr hgo
   obtain ⟨d1,hlk,htx⟩:=HW.out.round hx ⟨q1,q2⟩ (take_not HND.out hq) (HVN.out q x hx q1 q2) hhas HG.out hwas
   rw [take_snoc hq] at htx
   have HTX:=Lib.hid htx
   obtain ⟨T,hT⟩:∃ t:ByteArray,t=⟨(pgB x.level x.ens).toArray⟩:=⟨_,rfl⟩
   obtain ⟨U,hU⟩:∃ t:ByteArray,t=⟨x.was.toArray⟩:=⟨_,rfl⟩
   have HTU:Hid (T=U→pgB x.level x.ens=x.was):=Lib.hid fun e=>by
    rw [hT,hU] at e
    injection e with e
    exact List.toArray_inj e
   rw [← hT,← hU] at HTX
   unfold NO.ptr at HTX hlk
   have HX:=Lib.hid hva
   subst hva
   have hd:decide (j < N)=true:=decide_eq_true hlt
   clear hq hsome hx hhas hwas hgo hc htx hT hU HX
   go_wp2_with fail
   refine HTX.out.mono ?_
   rintro e w2 ⟨rfl,d3,hsame,e0,e1,HWT⟩
   have HSA:=Lib.hid hsame
   clear hsame
   by_cases hTU:T=U
   ·have HS:=Lib.hid (HSA.out (HTU.out hTU))
    subst hTU
    clear HWT HSA HTU
    go_wp2
    go_roundw
    case rel=>exact ⟨j+1,by omega,by go_num,HS.out⟩
    case measure=>simp [intOf];omega
   ·have hTU2:(T.toList == U.toList)=false:=by
     cases hb:T.toList == U.toList with
     | false=>rfl
     | true=>exact absurd (ba_ext (eq_of_beq hb)) hTU
    have hTU3:decide (T=U)=false:=decide_eq_false hTU
    clear HSA HTU
    go_wp2_with fail
    refine HWT.out.mono ?_
    rintro e w3 ⟨rfl,HS⟩
    clear HWT
    go_wp2
    go_roundw
    case rel=>exact ⟨j+1,by omega,by go_num,HS⟩
    case measure=>simp [intOf];omega
  ·have hd:decide (j < N)=false:=decide_eq_false hlt
   have hjN:j=N:=by omega
   subst hjN
   have HF:Hid (Fre K s ks [] wr):=Lib.hid (by
    have h:=HW.out
    rw [List.take_of_length_le (by rw [HKL.out];exact Nat.le_refl _)] at h
    exact h.fre)
   have g4:wr.cell? ⟨K.cb,4,none⟩=some (.slice ga gl gc):=by
    obtain ⟨_,_,_,H2,_⟩:=HF.out
    rw [← HGV.out];exact H2.cb4
   clear HW HCE
   go_wp2
   go_loopw [49] (fun i wq=>∃ j:Nat,j≤gl∧i=.int .i64 j∧Hid (Fre K s ks (s.gn.take j) wq)) (fun i _=>gl - (intOf i).toNat)
   case atStart=>exact ⟨0,by omega,rfl,Lib.hid (by rw [List.take_zero];exact HF.out)⟩
   case round =>
    obtain ⟨i,hi,rfl,HV⟩:=hrel
    by_cases hlt2:i < gl
    ·have hd2:decide (i < gl)=true:=decide_eq_true hlt2
     obtain ⟨q,hq⟩:∃ q,s.gn[i]? = some q:=⟨_,List.getElem?_eq_getElem (by rw [← HGL.out];exact hlt2)⟩
     obtain ⟨g2,cap2,hgv2,d0,e0,e1,HFR⟩:=HV.out.round hq (HHN.out.gok.2 q (List.mem_of_getElem? hq)).1 (take_not HHN.out.gok.1 hq)
     rw [take_snoc hq] at HFR
     rw [HGV.out] at hgv2
     injection hgv2 with hga h2 h3
     clear h2 h3
     subst hga
     clear hq HV HF g4
     go_wp2_with fail
     refine HFR.out.mono ?_
     rintro e w3 ⟨rfl,HS⟩
     clear HFR
     go_wp2
     go_roundw
     case rel=>first | exact ⟨i+1,by omega,by go_num,HS⟩ | ((repeat apply Exists.intro);exact ⟨⟨i+1,by omega,by go_num,HS⟩,rfl⟩)
     case measure=>simp [intOf];omega
    ·have hd2:decide (i < gl)=false:=decide_eq_false hlt2
     have HE:Hid (WritePost K s (.returned (.tuple #[])) wr):=Lib.hid ⟨rfl,ks,HKS.out,by
      have h:=HV.out
      rw [List.take_of_length_le (by rw [← HGL.out];omega)] at h
      exact h⟩
     clear HV HF g4
     go_wp2
     first | (go_end0;exact HE.out) | exact bodyPost_ret (v:=.tuple #[]) (by simp [results,Tryz.results125,go_sem]) rfl HE.out
end
section
variable {K:Kc} {s0 s:Hst} {w w':World} {F:List En} {P ps born dead ks:List Nat} {r:Nat}
theorem Hnd.laid (H:Hnd K s w) (hks:∀ q,q ∈ ks ↔ (1≤q∧q < 4096)∧(s.M q).isSome=true) (hvn:∀ q x,s.M q=some x→1≤q→q < 4096→VN x.level x.ens) {h':Hd} (hh:∀ q,h'.has q ↔ s.h.has q∧q ∉ s.gn) {L:Nat} {t:Tr L} (hr:Rep (Cur s) t):Rep (Laid h' (wG s ks)) t:=by
 refine hr.congr fun q _ l es hc=>?_
 obtain ⟨q1,q2,hc⟩:=hc
 cases hm:s.M q with
 | some x =>
  rw [hm] at hc
  obtain ⟨e1,e2⟩:=hc
  have hin:q ∈ ks:=(hks q).2 ⟨⟨q1,q2⟩,by rw [hm];rfl⟩
  have hv:=hvn q x hm q1 q2
  rw [e1,e2] at hv
  refine ⟨(hh q).2 ⟨(H.was q x hm q1 q2).2.1,fun hg=>?_⟩,?_,hv⟩
  ·have:=(H.gok.2 q hg).2
   rw [hm] at this;cases this
  ·unfold wG;rw [if_pos hin,hm]
   show pgB x.level x.ens=pgB l es
   rw [e1,e2]
 | none =>
  rw [hm] at hc
  obtain ⟨⟨g1,g2,g3⟩,g4⟩:=hc
  refine ⟨(hh q).2 ⟨g1,g4⟩,?_,g3⟩
  unfold wG
  rw [if_neg (fun hin=>by have:=((hks q).1 hin).2;rw [hm] at this;cases this)]
  exact g2
structure Left (K:Kc) (s0:Hst) (F:List En) (P:List Nat) (r:Nat) (ps:List Nat) (h':Hd) (G':Nat→List UInt8):Prop where
 tree:(F=[]∧r=0∧ps=[])∨∃ (m:Nat) (t:Tr m),Root t∧Ord t [] none∧t.flat=F∧t.page=r∧t.pages=ps∧Rep (Laid h' G') t
 has:∀ q,h'.has q ↔ (s0.h.has q∧q ∉ P)∨q ∈ ps
 other:∀ q,s0.h.has q→q ∉ P→G' q=s0.G q
 roots:h'.roots=s0.h.roots
 nodup:ps.Nodup
 new:∀ q ∈ ps,q ∈ P∨¬ s0.h.has q
theorem Fin.left (f:Fin K s0 s F P r ps born dead w) (hks:∀ q,q ∈ ks ↔ (1≤q∧q < 4096)∧(s.M q).isSome=true) (hvn:∀ q x,s.M q=some x→1≤q→q < 4096→VN x.level x.ens) (h0:∀ q x,s0.M q=some x→1≤q→q < 4096→q ∈ P) {h':Hd} (hh:∀ q,h'.has q ↔ s.h.has q∧q ∉ s.gn) (hrt:h'.roots=s.h.roots) :
  Left K s0 F P r ps h' (wG s ks):=by
 have hnd:=f.perm.nodup_iff.2 f.new.1
 rw [List.nodup_append] at hnd
 refine ⟨f.tree.imp id fun ⟨m,t,a,b,c,d,e,g⟩=>⟨m,t,a,b,c,d,e,f.H.laid hks hvn hh g⟩,fun q=>?_,fun q hq hP=>?_,hrt.trans f.fram.roots,hnd.1,fun q hq=>?_⟩
 ·rw [hh q,f.has q,f.gn]
  constructor
  ·rintro ⟨h1,h2⟩
   by_cases hm:q ∈ P++born
   ·rcases List.mem_append.1 (f.perm.mem_iff.2 hm) with h3 | h3
    ·exact .inr h3
    ·rcases List.mem_cons.1 h3 with e | h3
     ·subst e
      exfalso
      have h9:s.h.has 0:=(f.has 0).2 h1
      have:=(f.H.has_lt h9).1
      omega
     ·exact absurd h3 h2
   ·have hb:q ∉ born:=fun hb=>hm (List.mem_append.2 (.inr hb))
    exact .inl ⟨h1.resolve_right hb,fun hP=>hm (List.mem_append.2 (.inl hP))⟩
  ·rintro (⟨h1,h2⟩ | h1)
   ·refine ⟨.inl h1,fun hd=>?_⟩
    rcases List.mem_append.1 (f.perm.mem_iff.1 (List.mem_append.2 (.inr (List.mem_cons_of_mem _ hd)))) with h3 | h3
    ·exact h2 h3
    ·exact (f.new.2.2 q h3).2 h1
   ·have h0':q≠0:=fun e=>hnd.2.2 q h1 0 (by simp) e
    refine ⟨?_,fun hd=>hnd.2.2 q h1 q (List.mem_cons_of_mem _ hd) rfl⟩
    rcases List.mem_append.1 (f.perm.mem_iff.1 (List.mem_append.2 (.inl h1))) with h3 | h3
    ·exact .inl ((f.new.2.1 q h3).resolve_left h0')
    ·exact .inr h3
 ·have hb:q ∉ born:=fun hb=>(f.new.2.2 q hb).2 hq
  have hm:q ∉ P++born:=fun hm=>(List.mem_append.1 hm).elim hP hb
  have hlt:=f.H.has_lt (f.fram.has q hq)
  have hn:q ∉ ks:=fun hin=>by
   have h1:=((hks q).1 hin).2
   rw [f.fram.M q hlt.2 hm] at h1
   obtain ⟨x,hx⟩:=Option.isSome_iff_exists.1 h1
   exact hP (h0 q x hx hlt.1 hlt.2)
  unfold wG
  rw [if_neg hn]
  exact f.fram.G q hq
 ·rcases List.mem_append.1 (f.perm.mem_iff.1 (List.mem_append.2 (.inl hq))) with h3 | h3
  ·exact .inl h3
  ·exact .inr (f.new.2.2 q h3).2
end
section
variable {K:Kc} {s0:Hst} {w:World} {F:List En} {P:List Nat}
def SettlePost (K:Kc) (s0:Hst) (F:List En) (P:List Nat) (e:Ending) (w':World):Prop:=e=.returned (.int .i64 0)∧∃ (r:Nat) (ps:List Nat) (h':Hd) (G':Nat→List UInt8) (S':Nat→Prop),Left K s0 F P r ps h' G'∧ActV K.J K.B S' K.c (h'.setRoot K.r r) G' w'∧Turn K.S0 K.w0 S' w'∧TreeAt w' K.tb K.c.a K.r
theorem settle_h (hway:2≤K.way.length∧K.way.length≤1000) (h0:Lop K s0 F P (K.way.length - 1) w) (hw0:∀ y a,K.way[0]? = some (y,a)→y.was=[]) (hM0:∀ q x,s0.M q=some x→1≤q→q < 4096→q ∈ P) (hC:∀ q,(K.c.C q).length=512) (hr16:K.r < 16) :
  Calls Tryz.prog 81 #[.pointer (some ⟨K.cb,0,none⟩)] w (SettlePost K s0 F P):=by
 refine settle_walk hway h0 fun w1 h1=>(crown_h h1 hw0).mono ?_
 rintro e w2 ⟨r,rfl,hf⟩
 obtain ⟨s,ps,born,dead,f⟩:=hf.out
 refine ⟨r,rfl,?_⟩
 have hvn:=f.nodes hM0
 refine (write_h f.H hvn fun q hq=>f.H.act.len hq (hC q)).mono ?_
 rintro e w3 ⟨rfl,ks,hks,S',ρ',h',H3,hh,hrt⟩
 have hl:=f.left hks hvn hM0 hh hrt
 have hr31:r < 2147483648:=by
  rcases hl.tree with ⟨_,e,_⟩ | ⟨m,t,ht,_,_,e,_⟩
  ·omega
  ·have:=ht.1.2.2.2;omega
 refine ⟨rfl,H3.cb0,H3.tree.1.c1,H3.tree.1.c2,?_⟩
 have H4:=H3.below (Below.refl w3.heap.size w3).drew
 refine (setRoot_v H4.act K.r r hr16 hr31).mono ?_
 rintro e w4 ⟨rfl,hp⟩
 obtain ⟨S2,ρ2,H5,_⟩:=H4.post hp
 exact ⟨0,rfl,Lib.hid ⟨rfl,r,ps,h',_,S2,hl,H5.act,H5.turn,H5.tree.1⟩⟩
end
theorem isAt_cons {k:List UInt8} {e:En} {r:List En} (h:lt e.key k):isAt k (e :: r)=isAt k r:=by
 unfold isAt
 rw [show cntE k (e :: r)=cntE k r+1 by conv=>lhs;unfold cntE;rw [if_pos h]]
 rfl
theorem isAt_head {k:List UInt8} {e:En} {r:List En} (h:¬ lt e.key k):isAt k (e :: r)=decide (e.key=k):=by
 unfold isAt
 rw [show cntE k (e :: r)=0 by unfold cntE;rw [if_neg h]]
 rfl
theorem at_yes {k:List UInt8}:∀ {l:List En},isAt k l=true→∃ A e B,l=A++e :: B∧A.length=cntE k l∧e.key=k∧∀ v,insE k v l=A++⟨k,v⟩ :: B
 | [],h=>by cases h
 | e :: r,h=>by
  by_cases hl:lt e.key k
  ·rw [isAt_cons hl] at h
   obtain ⟨A,f,B,rfl,h1,h2,h3⟩:=at_yes h
   refine ⟨e :: A,f,B,rfl,?_,h2,fun v=>?_⟩
   ·conv=>rhs;unfold cntE;rw [if_pos hl]
    rw [List.length_cons,h1]
   ·conv=>lhs;unfold insE;rw [if_pos hl]
    rw [h3];rfl
  ·rw [isAt_head hl] at h
   have he:=of_decide_eq_true h
   refine ⟨[],e,r,rfl,?_,he,fun v=>?_⟩
   ·unfold cntE;rw [if_neg hl];rfl
   ·unfold insE;rw [if_neg hl,if_pos he];rfl
theorem at_no {k:List UInt8}:∀ {l:List En},isAt k l=false→∃ A B,l=A++B∧A.length=cntE k l∧∀ v,insE k v l=A++⟨k,v⟩ :: B
 | [],_=>⟨[],[],rfl,rfl,fun _=>rfl⟩
 | e :: r,h=>by
  by_cases hl:lt e.key k
  ·rw [isAt_cons hl] at h
   obtain ⟨A,B,rfl,h1,h3⟩:=at_no h
   refine ⟨e :: A,B,rfl,?_,fun v=>?_⟩
   ·conv=>rhs;unfold cntE;rw [if_pos hl]
    rw [List.length_cons,h1]
   ·conv=>lhs;unfold insE;rw [if_pos hl]
    rw [h3];rfl
  ·rw [isAt_head hl] at h
   have he:=of_decide_eq_false h
   refine ⟨[],e :: r,rfl,?_,fun v=>?_⟩
   ·unfold cntE;rw [if_neg hl];rfl
   ·unfold insE;rw [if_neg hl,if_neg he];rfl
theorem del_yes {k:List UInt8} {A B:List En} {e:En} (hs:Srt (A++e :: B)) (he:e.key=k):delE k (A++e :: B)=A++B:=by
 obtain ⟨h1,h2,h3⟩:=srt_append.1 hs
 subst he
 have:=delE_app (k:=e.key) (A:=A) (M:=[e]) (B:=B) (fun a ha=>h3 a ha e (by simp)) (fun b hb=>Srt.cons_lt h2 b hb)
 rw [List.append_assoc,List.singleton_append] at this
 rw [this]
 simp [delE]
theorem del_no {k:List UInt8} {l:List En} (h:¬ hasE k l):delE k l=l:=List.filter_eq_self.2 fun e he=>decide_eq_true fun hk=>h ⟨e,he,hk⟩
def putM (M:Nat→Option NO) (l:List (NO × Nat)):Nat→Option NO:=l.foldl (fun M st=>upd M st.1.page (some st.1)) M
theorem putM_snoc (M:Nat→Option NO) (l:List (NO × Nat)) (st:NO × Nat):putM M (l++[st])=upd (putM M l) st.1.page (some st.1):=by simp [putM,List.foldl_append]
theorem putM_other:∀ {l:List (NO × Nat)} {M:Nat→Option NO} {q:Nat},(∀ st ∈ l,st.1.page≠q)→putM M l q=M q
 | [],_,_,_=>rfl
 | st :: r,M,q,h=>by
  show putM (upd M st.1.page (some st.1)) r q=M q
  rw [putM_other fun x hx=>h x (by simp [hx]),upd_other _ _ (Ne.symm (h st (by simp)))]
theorem putM_at:∀ {l:List (NO × Nat)} {M:Nat→Option NO} {st:NO × Nat},(l.map (·.1.page)).Nodup→st ∈ l→putM M l st.1.page=some st.1
 | [],_,_,_,h=>by cases h
 | a :: r,M,st,hn,h=>by
  rw [List.map_cons,List.nodup_cons] at hn
  show putM (upd M a.1.page (some a.1)) r st.1.page=some st.1
  rcases List.mem_cons.1 h with rfl | h
  ·rw [putM_other (fun x hx e=>hn.1 (List.mem_map.2 ⟨x,hx,e⟩)),upd_same]
  ·exact putM_at hn.2 h
theorem putM_some:∀ {l:List (NO × Nat)} {M:Nat→Option NO} {q:Nat} {x:NO},putM M l q=some x→M q=some x∨∃ st ∈ l,st.1=x∧st.1.page=q
 | [],_,_,_,h=>.inl h
 | a :: r,M,q,x,h=>by
  rcases putM_some (l:=r) (M:=upd M a.1.page (some a.1)) h with h1 | ⟨st,h1,h2,h3⟩
  ·by_cases hq:q=a.1.page
   ·subst hq
    rw [upd_same] at h1
    exact .inr ⟨a,by simp,Option.some.inj h1,rfl⟩
   ·rw [upd_other _ _ hq] at h1
    exact .inl h1
  ·exact .inr ⟨st,by simp [h1],h2,h3⟩
theorem wayL_sub {key:List UInt8} {b:Bool}:∀ {L:Nat} {t:Tr L} {sts:List (NO × Nat)},wayL key b L t sts→(sts.map (·.1.page)).Sublist t.pages
 | 0,t,_,h=>by
  obtain ⟨x,rfl,hx,_⟩:=h
  rw [List.map_singleton,show (x,cntE key t.es).1.page=t.page from hx.1]
  exact List.Sublist.refl _
 | L+1,t,_,h=>by
  obtain ⟨x,rest,A,k,cc,B,rfl,hx,hks,_,_,hr⟩:=h
  rw [List.map_cons,show (x,A.length).1.page=t.page from hx.1,pages_node,hks,pgK_app,pgK_cons]
  refine List.Sublist.cons_cons _ ?_
  exact ((wayL_sub hr).trans (List.sublist_append_left _ _)).trans (List.sublist_append_right _ _)
theorem wayL_laid {P:Nat→Nat→List En→Prop} {key:List UInt8} {b:Bool}:∀ {L:Nat} {t:Tr L} {sts:List (NO × Nat)},wayL key b L t sts→Rep P t→∀ st ∈ sts,∃ (l:Nat) (es:List En),P st.1.page l es∧st.1.level=l∧st.1.ens=es∧st.1.was=pgB l es∧st.1.sole=true∧st.1.cap=es.length∧st.1.had=szE es
 | 0,t,_,h,hr,st,hst=>by
  obtain ⟨x,rfl,hx,_⟩:=h
  rw [List.mem_singleton] at hst
  subst hst
  exact ⟨0,t.ens,by rw [show (x,cntE key t.es).1.page=t.page from hx.1];exact hr.at_,hx.2.1,hx.2.2.1,hx.2.2.2.1,hx.2.2.2.2.2.1,hx.2.2.2.2.2.2,hx.2.2.2.2.1⟩
 | L+1,t,_,h,hr,st,hst=>by
  obtain ⟨x,rest,A,k,cc,B,rfl,hx,hks,_,_,hw⟩:=h
  rcases List.mem_cons.1 hst with rfl | hst
  ·exact ⟨L+1,t.ens,by rw [show (x,A.length).1.page=t.page from hx.1];exact hr.at_,hx.2.1,hx.2.2.1,hx.2.2.2.1,hx.2.2.2.2.2.1,hx.2.2.2.2.2.2,hx.2.2.2.2.1⟩
  ·exact wayL_laid hw (hr.kid (k,cc) (by rw [hks];simp)) st hst
theorem wayL_head {key:List UInt8} {b:Bool} {L:Nat} {t:Tr L} {sts:List (NO × Nat)} (h:wayL key b L t sts):∃ x a r,sts=(x,a) :: r∧x.page=t.page∧x.level=L:=by
 cases L with
 | zero =>
  obtain ⟨x,rfl,hx,_⟩:=h
  exact ⟨x,_,[],rfl,hx.1,hx.2.1⟩
 | succ L =>
  obtain ⟨x,rest,A,k,cc,B,rfl,hx,_⟩:=h
  exact ⟨x,_,rest,rfl,hx.1,hx.2.1⟩
theorem NodeAt.re {X X':Nat→Prop} {w:World} {x:NO} (h:NodeAt X w x) (hX:∀ k,X' k→X k) (hb:X' x.blk) (ha:∀ ad,x.arr=some ad→X' ad.block):NodeAt X' w x:=by
 refine ⟨h.blk,hb,?_,h.cap,h.small,h.short,h.alone⟩
 rcases h.ents with h0 | ⟨b,o,cs,h1,h2,h3,h4⟩
 ·exact .inl h0
 ·refine .inr ⟨b,o,cs,h1,h2,ha _ h1,fun i hi=>?_⟩
  obtain ⟨kv,vv,c1,c2,c3,c4⟩:=h4 i hi
  exact ⟨kv,vv,c1,c2,c3.kept (Kept.ofBelow (S:=fun _=>False) (Below.refl _ w)) (fun _ _ h=>h.elim) (fun k _ h=>hX k h),c4.kept (Kept.ofBelow (S:=fun _=>False) (Below.refl _ w)) (fun _ _ h=>h.elim) (fun k _ h=>hX k h)⟩
theorem ab_ne {X:Nat→Prop} {w:World} {x:NO} (h:NodeAt X w x) (hne:x.ens≠[]):x.ab≠x.blk:=by
 rcases h.ents with h0 | ⟨b,o,cs,h1,h2,_⟩
 ·exact absurd h0 hne
 ·unfold NO.ab
  rw [h1]
  intro e
  have e:b=x.blk:=e
  rw [e,h.blk] at h2
  injection h2 with h2
  injection h2 with _ h2 _
  exact absurd h2 (by decide)
def roW (ix:NO→Nat) (ρ:Nat→Nat) (l:List NO):Nat→Nat:=l.foldl (fun ρ x=>upd (upd ρ x.ab (9+2*ix x)) x.blk (8+2*ix x)) ρ
abbrev FarN (x y:NO):Prop:=x.blk≠y.blk∧x.ab≠y.ab∧x.blk≠y.ab∧x.ab≠y.blk
theorem roW_other:∀ {ix:NO→Nat} {l:List NO} {ρ:Nat→Nat} {k:Nat},(∀ x ∈ l,k≠x.blk∧k≠x.ab)→roW ix ρ l k=ρ k
 | _,[],_,_,_=>rfl
 | ix,a :: r,ρ,k,h=>by
  show roW ix (upd (upd ρ a.ab (9+2*ix a)) a.blk (8+2*ix a)) r k=ρ k
  have ha:=h a (by simp)
  rw [roW_other fun x hx=>h x (by simp [hx]),upd_other _ _ ha.1,upd_other _ _ ha.2]
theorem roW_at:∀ {ix:NO→Nat} {l:List NO} {ρ:Nat→Nat} {x:NO},l.Pairwise FarN→x ∈ l→roW ix ρ l x.blk=8+2*ix x∧(x.ab≠x.blk→roW ix ρ l x.ab=9+2*ix x)
 | _,[],_,_,_,h=>by cases h
 | ix,a :: r,ρ,x,hp,h=>by
  rw [List.pairwise_cons] at hp
  show roW ix (upd (upd ρ a.ab (9+2*ix a)) a.blk (8+2*ix a)) r x.blk=_∧(_→roW ix (upd (upd ρ a.ab (9+2*ix a)) a.blk (8+2*ix a)) r x.ab=_)
  rcases List.mem_cons.1 h with rfl | h
  ·refine ⟨?_,fun hne=>?_⟩
   ·rw [roW_other fun y hy=>⟨(hp.1 y hy).1,(hp.1 y hy).2.2.1⟩,upd_same]
   ·rw [roW_other fun y hy=>⟨(hp.1 y hy).2.2.2,(hp.1 y hy).2.1⟩,upd_other _ _ hne,upd_same]
  ·exact roW_at hp.2 h
theorem roW_ne:∀ {ix:NO→Nat} {l:List NO} {ρ:Nat→Nat} {k:Nat},roW ix ρ l k≠0→ρ k≠0∨∃ x ∈ l,k=x.blk∨k=x.ab
 | _,[],_,_,h=>.inl h
 | ix,a :: r,ρ,k,h=>by
  rcases roW_ne (l:=r) (ρ:=upd (upd ρ a.ab (9+2*ix a)) a.blk (8+2*ix a)) h with h1 | ⟨x,h1,h2⟩
  ·by_cases hb:k=a.blk
   ·exact .inr ⟨a,by simp,.inl hb⟩
   ·rw [upd_other _ _ hb] at h1
    by_cases ha:k=a.ab
    ·exact .inr ⟨a,by simp,.inr ha⟩
    ·rw [upd_other _ _ ha] at h1
     exact .inl h1
  ·exact .inr ⟨x,by simp [h1],h2⟩
theorem hnd_first {J:List RawOp→Prop} {B:Nat} {S S' X:Nat→Prop} {c:Ac} {h:Hd} {G:Nat→List UInt8} {w0 w:World} {tb r cb mb g n cap:Nat} {above:NO} {i0:Nat} {ix:NO→Nat} {sts:List (NO × Nat)} {xs:List NO}
  (hpos:1≤w0.heap.size) (ht:TreeAt w tb c.a r) (htl:tb < w0.heap.size) (htS:¬ S tb) (hA:ActV J B S' c h G w) (hT:Turn S w0 S' w)
  (hcb:w.heap[cb]? = some (.cells #[.pointer (some ⟨tb,0,none⟩),.map (some mb),.slice (some ⟨g,0,none⟩) n cap,.slice none 0 0,.slice none 0 0] 186 (0,0)))
  (hmb:KMap w mb 0 fun _=>none) (hwv:StepsAt w (.slice (some ⟨g,0,none⟩) n cap) ((above,i0) :: sts))
  (hab:ix above=0) (hxs:∀ x ∈ above :: xs,NodeAt X w x∧¬ S' x.blk∧¬ S' x.ab∧w0.heap.size≤x.blk∧w0.heap.size≤x.ab∧x.ab < w.heap.size∧x.sole=true∧(x.arr≠none→x.ab≠x.blk))
  (hfar:(above :: xs).Pairwise FarN)
  (hown:∀ k ∈ [cb,mb,g],w0.heap.size≤k∧k < w.heap.size∧¬ S' k∧∀ x ∈ above :: xs,x.blk≠k∧x.ab≠k) (hnd:[cb,mb,g].Nodup)
  (hX:∀ k,(S' k∨k ∈ [cb,mb,g]∨∃ x ∈ above :: xs,k=x.blk∨k=x.ab)→X k) :
  ∃ s:Hst,Hnd ⟨J,B,c,S,w0,tb,r,cb,mb,.slice (some ⟨g,0,none⟩) n cap,(above,i0) :: sts⟩ s w∧s.h=h∧s.G=G∧s.M=upd (fun _=>none) 0 (some above)∧s.tk=[]∧s.gn=[]∧(∀ x ∈ xs,NodeOk s.ρ w (ix x) x):=by
 obtain ⟨ρ0,hρ0⟩:∃ ρ0:Nat→Nat,ρ0=fun k=>@ite _ (S' k) (Classical.propDecidable _) 1 0:=⟨_,rfl⟩
 have z1:∀ k,S' k→ρ0 k=1:=fun k hk=>by rw [hρ0];exact if_pos hk
 have z0:∀ k,¬ S' k→ρ0 k=0:=fun k hk=>by rw [hρ0];exact if_neg hk
 simp only [List.nodup_cons,List.mem_cons,List.not_mem_nil,or_false,not_or,not_false_eq_true,List.nodup_nil,and_true] at hnd
 obtain ⟨⟨n1,n2⟩,n3⟩:=hnd
 have ocb:=hown cb (by simp);have omb:=hown mb (by simp);have og:=hown g (by simp)
 obtain ⟨ρ,hρ⟩:∃ ρ:Nat→Nat,ρ=upd (upd (upd (roW ix ρ0 (above :: xs)) cb 2) mb 3) g 4:=⟨_,rfl⟩
 have rg:ρ g=4:=by rw [hρ,upd_same]
 have rm:ρ mb=3:=by rw [hρ,upd_other _ _ n3,upd_same]
 have rc:ρ cb=2:=by rw [hρ,upd_other _ _ n2,upd_other _ _ n1,upd_same]
 have ro:∀ k,k≠cb→k≠mb→k≠g→ρ k=roW ix ρ0 (above :: xs) k:=fun k h1 h2 h3=>by rw [hρ,upd_other _ _ h3,upd_other _ _ h2,upd_other _ _ h1]
 have rS:∀ k,S' k→ρ k=1:=fun k hk=>by
  rw [ro k (fun e=>ocb.2.2.1 (e ▸ hk)) (fun e=>omb.2.2.1 (e ▸ hk)) (fun e=>og.2.2.1 (e ▸ hk)),roW_other fun x hx=>⟨fun e=>(hxs x hx).2.1 (e ▸ hk),fun e=>(hxs x hx).2.2.1 (e ▸ hk)⟩]
  exact z1 k hk
 have rx:∀ x ∈ above :: xs,ρ x.blk=8+2*ix x∧(x.ab≠x.blk→ρ x.ab=9+2*ix x):=fun x hx=>by
  have h1:=roW_at (ix:=ix) (ρ:=ρ0) hfar hx
  refine ⟨?_,fun hne=>?_⟩
  ·rw [ro _ (ocb.2.2.2 x hx).1 (omb.2.2.2 x hx).1 (og.2.2.2 x hx).1];exact h1.1
  ·rw [ro _ (ocb.2.2.2 x hx).2 (omb.2.2.2 x hx).2 (og.2.2.2 x hx).2];exact h1.2 hne
 have rn:∀ k,ρ k≠0→S' k∨k ∈ [cb,mb,g]∨∃ x ∈ above :: xs,k=x.blk∨k=x.ab:=fun k hk=>by
  by_cases h1:k=cb
  ·exact .inr (.inl (by simp [h1]))
  ·by_cases h2:k=mb
   ·exact .inr (.inl (by simp [h2]))
   ·by_cases h3:k=g
    ·exact .inr (.inl (by simp [h3]))
    ·rw [ro k h1 h2 h3] at hk
     rcases roW_ne hk with h4 | h4
     ·by_cases hS:S' k
      ·exact .inl hS
      ·exact absurd (z0 k hS) h4
     ·exact .inr (.inr h4)
 have rw0:∀ x ∈ above :: xs,NodeOk ρ w (ix x) x:=fun x hx=>by
  obtain ⟨h1,h2,h3,h4,h5,h6,h7,h8⟩:=hxs x hx
  obtain ⟨r1,r2⟩:=rx x hx
  refine ⟨h1.re (fun k hk=>hX k (rn k hk)) (by rw [r1];omega) (fun ad ha=>?_),r1,fun ad ha=>?_⟩
  ·rw [ab_of ha,r2 (h8 (by rw [ha];simp))];omega
  ·rw [if_pos h7,ab_of ha];exact r2 (h8 (by rw [ha];simp))
 have hz:=hT.1.size
 have rlt:∀ k,ρ k≠0→k < w.heap.size:=fun k hk=>by
  rcases rn k hk with h1 | h1 | ⟨x,h1,rfl | rfl⟩
  ·exact (hA.low k h1).2
  ·exact (hown k h1).2.1
  ·exact (hxs x h1).1.lt
  ·exact (hxs x h1).2.2.2.2.2.1
 have rlow:∀ k,2≤ρ k→w0.heap.size≤k:=fun k hk=>by
  rcases rn k (by omega) with h1 | h1 | ⟨x,h1,rfl | rfl⟩
  ·have:=rS k h1;omega
  ·exact (hown k h1).1
  ·exact (hxs x h1).2.2.2.1
  ·exact (hxs x h1).2.2.2.2.1
 have rt:ρ tb=0:=by
  rcases Nat.eq_zero_or_pos (ρ tb) with e | e
  ·exact e
  ·exfalso
   rcases rn tb (by omega) with h1 | h1 | ⟨x,h1,h2 | h2⟩
   ·exact htS (hT.2 tb htl h1)
   ·have:=(hown tb h1).1;omega
   ·have:=(hxs x h1).2.2.2.1;omega
   ·have:=(hxs x h1).2.2.2.2.1;omega
 have hpt:ptrs (upd (fun _=>none) 0 (some above))=fun _=>none:=by
  funext q
  unfold ptrs
  split
  ·rw [upd_other _ _ (by omega)];rfl
  ·rfl
 refine ⟨⟨S',ρ,h,G,upd (fun _=>none) 0 (some above),[],[],.slice none 0 0,.slice none 0 0⟩,⟨hpos,⟨ht,rt⟩,hA,rS,hT,rlow,rlt,⟨hcb,rc⟩,⟨⟨0,?_⟩,rm⟩,⟨hwv,fun k hk=>?_⟩,⟨⟨rfl,.inl ⟨rfl,rfl⟩⟩,fun k hk=>?_⟩,⟨⟨rfl,.inl ⟨rfl,rfl⟩⟩,fun k hk=>?_⟩,fun q x hq=>?_,fun q x hq h1 h2=>?_,⟨List.nodup_nil,fun q hq=>by cases hq⟩,⟨List.nodup_nil,fun q hq=>by cases hq⟩⟩,rfl,rfl,rfl,rfl,rfl,fun x hx=>rw0 x (by simp [hx])⟩
 ·show KMap w mb 0 (ptrs (upd (fun _=>none) 0 (some above)))
  rw [hpt];exact hmb
 ·simp only [Value.ownBlock,Option.some.injEq] at hk
  exact hk ▸ rg
 ·simp [Value.ownBlock] at hk
 ·simp [Value.ownBlock] at hk
 ·dsimp only at hq
  by_cases h0:q=0
  ·subst h0
   rw [upd_same] at hq
   cases hq
   have:=rw0 above (by simp)
   rw [hab] at this
   exact this
  ·rw [upd_other _ _ h0] at hq
   cases hq
 ·dsimp only at hq
  rw [upd_other _ _ (by omega)] at hq
  cases hq
abbrev zTop (L:Nat):Zip L:=.up 0 [] [] [] (.top (L+1))
theorem was_top {L:Nat} {t:Tr L} (hr:Root t) (ho:Ord t [] none) (key:List UInt8):Was (zTop L) t t.flat (0 :: t.pages) key:=by
 have no:∀ x:Kid L,x ∉ ([]:List (Kid L)):=fun x hx=>by cases hx
 have hb0:Bd [] none:=fun x hx=>by cases hx
 refine ⟨⟨⟨fun c=>⟨rfl,fun x hx=>absurd hx (no x)⟩,fun x hx=>absurd hx (no x),fun x hx=>absurd hx (no x),trivial,trivial,fun A' a hA=>?_,fun b B' hb=>?_⟩,?_,trivial,trivial⟩,⟨hr.1.1,hr.1.2.2.1⟩,hr.1.2.2.2,⟨[],none,⟨[],none,⟨rfl,rfl⟩,hb0,trivial,rfl,rfl,trivial⟩,ho,⟨nil_le _,fun y hy=>by cases hy⟩⟩,?_,?_,fun e he=>?_,fun e he=>?_⟩
 ·cases A' <;> cases hA
 ·cases hb
 ·simp [szU,szK_nil]
 ·simp [Zip.fl,Zip.fr,flK_nil]
 ·simp only [Zip.pg,pgK_nil,List.nil_append]
  exact List.perm_append_singleton _ _
 ·simp [Zip.fl,flK_nil] at he
 ·simp [Zip.fr,flK_nil] at he
theorem reps_way {P P':Nat→Nat→List En→Prop}:∀ {l:Nat} {z:Zip l} {q:Nat} {sts:List (NO × Nat)},z.Reps P→z.On q sts→z.pg.Nodup→(∀ j ∈ z.pg,(∀ st ∈ sts,st.1.page≠j)→∀ l es,P j l es→P' j l es)→z.Reps P'
 | _,.top _,_,_,_,_,_,_=>trivial
 | _,.up p A k B z,q,sts,hR,ho,hn,hF=>by
  obtain ⟨x,rest,rfl,hp,_,_,_,_,_,ho'⟩:=ho
  have hsub:=on_pages ho'
  have hn0:(pgK A++(pgK B++p :: z.pg)).Nodup:=hn
  rw [List.nodup_append] at hn0
  obtain ⟨n1,n2,n3⟩:=hn0
  rw [List.nodup_append] at n2
  obtain ⟨n4,n5,n6⟩:=n2
  rw [List.nodup_cons] at n5
  have up:∀ j,(∀ i ∈ p :: z.pg,j≠i)→∀ st ∈ (x,A.length) :: rest,st.1.page≠j:=fun j hj st hst e=>by
   rcases List.mem_cons.1 hst with rfl | hst
   ·exact hj p (by simp) (e.symm.trans hp)
   ·exact hj _ (List.mem_cons_of_mem _ (hsub st hst)) e.symm
  refine ⟨fun y hy=>(hR.1 y hy).congr fun j hj l es hl=>?_,fun y hy=>(hR.2.1 y hy).congr fun j hj l es hl=>?_,reps_way hR.2.2 ho' n5.2 fun j hj hs=>hF j ?_ fun st hst e=>?_⟩
  ·have hjA:j ∈ pgK A:=List.mem_flatMap.2 ⟨y,hy,hj⟩
   exact hF j (List.mem_append.2 (.inl hjA)) (up j fun i hi=>n3 j hjA i (List.mem_append.2 (.inr hi))) l es hl
  ·have hjB:j ∈ pgK B:=List.mem_flatMap.2 ⟨y,hy,hj⟩
   exact hF j (List.mem_append.2 (.inr (List.mem_append.2 (.inl hjB)))) (up j fun i hi=>n6 j hjB i hi) l es hl
  ·exact List.mem_append.2 (.inr (List.mem_append.2 (.inr (List.mem_cons_of_mem _ hj))))
  ·rcases List.mem_cons.1 hst with rfl | hst
   ·have e:p=j:=hp.symm.trans e
    exact n5.1 (e ▸ hj)
   ·exact hs st hst e
structure Stood (h:Hd) (G:Nat→List UInt8) {L:Nat} (t:Tr L):Prop where
 root:Root t
 ord:Ord t [] none
 rep:Rep (Laid h G) t
 nodup:t.pages.Nodup
theorem rep_all {P:Nat→Nat→List En→Prop}:∀ {L:Nat} {t:Tr L},Rep P t→∀ q ∈ t.pages,∃ l es,P q l es
 | 0,t,h,q,hq=>by
  have:q=t.page:=by simpa [Tr.pages,pagesL] using hq
  exact ⟨_,_,this ▸ h.at_⟩
 | L+1,t,h,q,hq=>by
  rw [pages_node] at hq
  rcases List.mem_cons.1 hq with rfl | hq
  ·exact ⟨_,_,h.at_⟩
  ·obtain ⟨k,hk,hq⟩:=List.mem_flatMap.1 hq
   exact rep_all (h.kid k hk) q hq
theorem Stood.has {h:Hd} {G:Nat→List UInt8} {L:Nat} {t:Tr L} (x:Stood h G t):∀ q ∈ t.pages,h.has q:=fun q hq=>by
 obtain ⟨l,es,h1,_⟩:=rep_all x.rep q hq
 exact h1
structure Begun (K:Kc) (s:Hst) {L:Nat} (t:Tr L) (key:List UInt8) (b:Bool) (above:NO) (sts:List (NO × Nat)) (w:World):Prop where
 H:Hnd K s w
 way:K.way=(above,0) :: sts
 wl:wayL key b L t sts
 M:s.M=putM (upd (fun _=>none) 0 (some above)) sts
 tg:s.tk=[]∧s.gn=[]
 ab:above.page=0∧above.level=L+1∧above.ens=[⟨[],pgV t.page⟩]∧above.was=[]∧above.sole=true∧above.cap=1
section
variable {K:Kc} {s:Hst} {L:Nat} {t:Tr L} {key:List UInt8} {b:Bool} {above:NO} {sts pre:List (NO × Nat)} {x0 x':NO} {c0 c':Tr 0} {z0:Zip 0} {F':List En} {w w':World}
theorem Begun.end_ (h:Begun K s t key b above sts w) (st:Stood s.h s.G t):∃ pre x0 c0 z0,WayEnd (Laid s.h s.G) key t.flat (0 :: t.pages) b sts [(above,0)] pre x0 c0 z0∧∀ p had,z0.Hat p had:=by
 obtain ⟨a1,a2,a3,a4,a5,a6⟩:=h.ab
 obtain ⟨pre,x0,c0,z0,h1,h2⟩:=way_zip (P:=Laid s.h s.G) (F:=t.flat) (ps:=0 :: t.pages) (Q:=fun _ z=>∀ p had,z.Hat p had) (z:=zTop L) (up:=[(above,0)]) (fun l p A k B z hz _ _=>hz _ _) (was_top st.root st.ord key) st.rep
  ⟨fun x hx=>(by cases hx),fun x hx=>(by cases hx),trivial⟩ h.wl ⟨above,[],rfl,a1,a2,by rw [a3];rfl,fun h=>h.elim,a5,by rw [a6,a3];rfl,rfl⟩
  (fun _ _=>by
   show 1≤L+1∧(0:Nat)=0∧szU ([]:List (Kid L)) [] []≤380
   refine ⟨by omega,rfl,?_⟩
   simp [szU,szK_nil])
 exact ⟨pre,x0,c0,z0,h1,h2⟩
theorem Begun.pages (h:Begun K s t key b above sts w) (st:Stood s.h s.G t):(sts.map (·.1.page)).Nodup∧∀ y ∈ sts,y.1.page ∈ t.pages∧1≤y.1.page∧y.1.page < 4096:=by
 have hs:=wayL_sub h.wl
 refine ⟨st.nodup.sublist hs,fun y hy=>?_⟩
 have h1:=hs.subset (List.mem_map_of_mem (f:=(·.1.page)) hy)
 have h2:=h.H.act.has_lt (st.has _ h1)
 exact ⟨h1,h2.1,h2.2⟩
theorem Begun.endM (h:Begun K s t key b above sts w) (st:Stood s.h s.G t) (e:WayEnd (Laid s.h s.G) key t.flat (0 :: t.pages) b sts [(above,0)] pre x0 c0 z0):s.M x0.page=some x0∧1≤x0.page∧x0.page < 4096:=by
 have hm:(x0,cntE key c0.es) ∈ sts:=by rw [e.sts];simp
 have hp:=h.pages st
 refine ⟨?_,(hp.2 _ hm).2⟩
 rw [h.M]
 exact putM_at hp.1 hm
theorem Begun.endW (h:Begun K s t key b above sts w) (e:WayEnd (Laid s.h s.G) key t.flat (0 :: t.pages) b sts [(above,0)] pre x0 c0 z0):K.way=((above,0) :: pre)++[(x0,cntE key c0.es)]:=by rw [h.way,e.sts];rfl
theorem Begun.lop (h:Begun K s t key b above sts w) (st:Stood s.h s.G t) (e:WayEnd (Laid s.h s.G) key t.flat (0 :: t.pages) b sts [(above,0)] pre x0 c0 z0) (hat:∀ p had,z0.Hat p had) {ρ':Nat→Nat} (H':Hnd K { s with M:=upd s.M x0.page (some x'),ρ:=ρ' } w')
  (hm:Mid z0 c' c0.size F' (0 :: t.pages) [] []) (hc:c'.page=c0.page) (hx:x'.blk=x0.blk∧x'.was=x0.was∧x'.level=0∧x'.ens=c'.ens∧x'.sole=true∧x'.had=x0.had) {U:List Nat} (hr:Roomy s.h U K.way.length) :
  Lop K { s with M:=upd s.M x0.page (some x'),ρ:=ρ' } F' (0 :: t.pages) (K.way.length - 1) w':=by
 have hw:=h.endW e
 have hp:=h.pages st
 have hlen:K.way.length=pre.length+1+1:=by rw [hw];simp
 have htk:K.way.take (K.way.length - 1)=(above,0) :: pre:=by
  rw [hw]
  simp
 obtain ⟨eM,e1,e2⟩:=h.endM st e
 have hxp:x0.page=c0.page:=e.node.1
 have hn1:(pre.map (·.1.page)++[x0.page]).Nodup:=by have:=hp.1;rw [e.sts,List.map_append] at this;exact this
 have hmem:∀ y ∈ pre,y ∈ sts:=fun y hy=>by rw [e.sts];simp [hy]
 have hPn:(0 :: t.pages).Nodup:=List.nodup_cons.2 ⟨fun h0=>by have:=(h.H.act.has_lt (st.has _ h0)).1;omega,st.nodup⟩
 have hzn:=e.was.perm.nodup_iff.2 hPn
 rw [List.nodup_append] at hzn
 have hM0:s.M 0=some above:=by
  rw [h.M,putM_other (fun y hy e=>by have:=(hp.2 y hy).2.1;omega),upd_same]
 refine ⟨0,z0,c',c0.size,[],[],(above,0) :: pre,x',_,x0,cntE key c0.es,⟨H',hm,?_,?_,trivial,fun y hy=>?_,⟨?_,hx.2.2.1,hx.2.2.2.1,hx.2.2.2.2.1,fun _=>?_⟩,h.tg.2,fun q=>by simp,⟨by simpa using hPn,fun q hq=>?_,fun q hq=>by cases hq⟩,Fram2.refl _ _,⟨U,?_⟩⟩,htk.symm,by omega,?_,hx.1.symm,hx.2.1.symm,hat _ _⟩
 ·rw [hc,List.reverse_cons];exact e.on
 ·refine reps_way e.rep.2 e.on hzn.2.1 fun j hj hs l es hl=>?_
  have hj0:j≠0:=fun e0=>hs (above,0) (by simp) (h.ab.1.trans e0.symm)
  have hjx:j≠x0.page:=fun e0=>hzn.2.2 c0.page (page_mem c0) j hj (by rw [e0,hxp])
  have hjM:s.M j=none:=by
   rw [h.M,putM_other fun y hy=>?_,upd_other _ _ hj0]
   rw [e.sts] at hy
   rcases List.mem_append.1 hy with hy | hy
   ·exact hs y (by simp [hy])
   ·rw [List.mem_singleton] at hy
    rw [hy];exact Ne.symm hjx
  have hlt:=h.H.act.has_lt hl.1
  refine ⟨hlt.1,hlt.2,?_⟩
  show (match upd s.M x0.page (some x') j with | some x=>_ | none=>_)
  rw [upd_other _ _ hjx,hjM]
  refine ⟨hl,?_⟩
  show j ∉ s.gn
  rw [h.tg.2];simp
 ·rcases List.mem_cons.1 hy with rfl | hy
  ·refine ⟨?_,by rw [h.ab.1];omega⟩
   show upd s.M x0.page (some x') above.page=_
   rw [h.ab.1,upd_other _ _ (by omega)];exact hM0
  ·refine ⟨?_,(hp.2 y (hmem y hy)).2.2⟩
   show upd s.M x0.page (some x') y.1.page=_
   have hne:y.1.page≠x0.page:=fun e0=>(List.nodup_append.1 hn1).2.2 y.1.page (List.mem_map_of_mem (f:=(·.1.page)) hy) x0.page (by simp) e0
   rw [upd_other _ _ hne,h.M]
   exact putM_at hp.1 (hmem y hy)
 ·show upd s.M x0.page (some x') c'.page=_
  rw [hc,← hxp,upd_same]
 ·rw [hx.2.2.2.2.2];exact e.node.2.2.2.2.1
 ·rcases List.mem_cons.1 hq with rfl | hq
  ·exact .inl rfl
  ·exact .inr (st.has q hq)
 ·rw [List.length_cons,← hlen];exact hr
 ·rw [hlen,hw,List.getElem?_append_right (by simp)]
  simp
theorem Begun.low (h:Begun K s t key b above sts w) (st:Stood s.h s.G t) (e:WayEnd (Laid s.h s.G) key t.flat (0 :: t.pages) b sts [(above,0)] pre x0 c0 z0):∀ q x,upd s.M x0.page (some x') q=some x→1≤q→q < 4096→q ∈ 0 :: t.pages:=by
 intro q x hq h1 _
 have hp:=h.pages st
 have hm:(x0,cntE key c0.es) ∈ sts:=by rw [e.sts];simp
 by_cases hqx:q=x0.page
 ·exact List.mem_cons_of_mem _ (hqx ▸ (hp.2 _ hm).1)
 ·rw [upd_other _ _ hqx,h.M] at hq
  rcases putM_some hq with h2 | ⟨y,h2,_,h3⟩
  ·rw [upd_other _ _ (by omega)] at h2;cases h2
  ·exact List.mem_cons_of_mem _ (h3 ▸ (hp.2 y h2).1)
theorem Hnd.setVal (H:Hnd K s w) {q:Nat} {x:NO} (hM:s.M q=some x) (hs:x.sole=true) {A B:List En} {e:En} (he:x.ens=A++e :: B) {v:Value} {val:List UInt8} (hv:BytesV (fun k=>s.ρ k≠0) w v val) (hl:val.length≤255) :
  ∃ g,x.arr=some ⟨g,0,none⟩∧g < w.heap.size∧w.frozen? ⟨g,A.length*2+1,none⟩=false∧(∃ u,w.cell? ⟨g,A.length*2+1,none⟩=some u)∧Hnd K { s with M:=upd s.M q (some { x with ens:=A++⟨e.key,val⟩ :: B }) } (w.setCell ⟨g,A.length*2+1,none⟩ v):=by
 have hx:=H.node q x hM
 have h:=hx.at_
 have hne:x.ens≠[]:=by rw [he];simp
 obtain ⟨g,harr⟩:=h.alone hs hne
 have hab:x.ab=g:=by unfold NO.ab;rw [harr]
 have hgr:s.ρ g=9+2*q:=by have:=hx.row _ harr;rwa [if_pos hs] at this
 have hent:=h.ents
 rw [harr] at hent
 obtain ⟨Lc,vs,R,hL,hrow⟩:=hent.row hne
 obtain rfl:Lc=[]:=List.eq_nil_of_length_eq_zero hL
 have hp:=hrow.pairs
 rw [he] at hp
 obtain ⟨P,DQ,rfl,hpA,hpB⟩:=hp.split A (e :: B)
 obtain ⟨D,Q,rfl,hpD,hpQ⟩:=PairsV.split (es:=[e]) (fs:=B) hpB
 have hPl:=hpA.len
 match D,hpD with
 | kv :: vv :: D',hpD =>
 have hD':D'=[]:=by
  have:=hpD.len
  simp at this
  exact this
 subst hD'
 have hblk:=hrow.blk
 rw [List.nil_append] at hblk
 have hk:=Kept.setCell (fun k=>k=g) w (b:=g) (i:=A.length*2+1) rfl v
 have hgl:g < w.heap.size:=(Array.getElem?_eq_some_iff.1 hblk).1
 have hnew:(w.setCell ⟨g,A.length*2+1,none⟩ v).heap[g]? = some (.cells (P++([kv,v]++(Q++R))).toArray 135 (0,0)):=by
  rw [heap_set hblk]
  congr 2
  apply Array.ext'
  simp only [Array.toList_setIfInBounds,List.append_assoc]
  rw [← hPl,List.set_append_right _ _ (by omega)]
  simp
 have hgb:g≠x.blk:=by rw [← hab];exact ab_ne h hne
 refine ⟨g,harr,hgl,by simp [World.frozen?,hblk],⟨vv,?_⟩,H.turnM (T:=fun k=>k=g) (ρ':=s.ρ) hM hk (fun k _ e=>.inr (e ▸ hgr)) (fun _ _=>rfl) (fun k hk1 hk2=>by have:=H.lt k hk2;omega) ⟨⟨?_,h.own,?_,?_,h.small,?_,fun _ _=>⟨g,harr⟩⟩,hx.blk,hx.row⟩ ⟨rfl,rfl,rfl⟩⟩
 ·rw [Lib.cell_of_heap hblk,List.getElem?_toArray,← hPl,List.append_assoc,List.getElem?_append_right (by omega)]
  simp
 ·rw [hk.block _ h.lt (fun e=>hgb e.symm),h.blk]
  unfold NO.cells
  simp only
  rw [he]
  simp
 ·have hb1:PairsV (fun k=>s.ρ k≠0) (w.setCell ⟨g,A.length*2+1,none⟩ v) (P++([kv,v]++Q)) (A++([⟨e.key,val⟩]++B)):=by
   have f:∀ k,k < w.heap.size→k=g→s.ρ k≠0:=fun k _ e=>by rw [e,hgr];omega
   have g1:PairsV (fun k=>s.ρ k≠0) w [kv,v] [⟨e.key,val⟩]:=⟨hpD.1,hv,trivial⟩
   exact (hpA.app (g1.app hpQ)).kept hk f (fun _ _ h=>h)
  have hr1:RowV (fun k=>s.ρ k≠0) (w.setCell ⟨g,A.length*2+1,none⟩ v) g [] (P++([kv,v]++Q)) R (A++([⟨e.key,val⟩]++B)):=⟨by rw [hnew];simp,by rw [hgr];omega,hb1⟩
  show EntsV _ _ x.arr _
  rw [harr];exact hr1.ents
 ·have h1:=h.cap
  rw [he] at h1
  simpa using h1
 ·have h1:=h.short
  rw [he] at h1
  refine ⟨by simpa using h1.1,fun y hy=>?_⟩
  have hy:y ∈ A++⟨e.key,val⟩ :: B:=hy
  simp only [List.mem_append,List.mem_cons] at hy
  rcases hy with hy | rfl | hy
  ·exact h1.2 y (by simp [hy])
  ·exact ⟨(h1.2 e (by simp)).1,hl⟩
  ·exact h1.2 y (by simp [hy])
end
theorem tidy_flat:∀ {L:Nat} {t:Tr L},Tidy t→t.flat≠[]
 | 0,_,h=>h.2.1
 | L+1,t,h=>by
  have hne:=ens_ne.1 h.2.1
  have ht:=(loose_node.1 h.1).1
  cases hk:t.ks with
  | nil=>exact absurd hk hne
  | cons a r =>
   rw [flat_node,hk,flK_cons]
   have:=tidy_flat (ht.2 a (by rw [hk];simp))
   simp [this]
def outE {α:Type} (left:Bool) (l:List α):Option α:=if left then l.head? else l.getLast?
theorem out_left {α:Type} (l:List α):outE true l=l.head?:=rfl
theorem out_right {α:Type} (l:List α):outE false l=l.getLast?:=rfl
def outI (left:Bool) (n:Nat):Nat:=if left then 0 else n - 1
theorem out_at {α:Type} (left:Bool) (l:List α):l[outI left l.length]? = outE left l:=by
 cases left with
 | true=>unfold outE outI;cases l <;> rfl
 | false=>unfold outE outI;rw [if_neg (by simp),if_neg (by simp),List.getLast?_eq_getElem?]
theorem out_some {α:Type} (left:Bool) {l:List α} (h:l≠[]):∃ a,outE left l=some a:=by
 cases left with
 | true=>exact ⟨l.head h,by rw [out_left,List.head?_eq_some_head h]⟩
 | false=>exact ⟨l.getLast h,by rw [out_right,List.getLast?_eq_some_getLast h]⟩
theorem out_app_l {α:Type} {A B:List α} (h:A≠[]):outE true (A++B)=outE true A:=by
 rw [out_left,out_left]
 cases A with
 | nil=>exact absurd rfl h
 | cons a A=>rfl
theorem out_app_r {α:Type} {A B:List α} (h:B≠[]):outE false (A++B)=outE false B:=by
 rw [out_right,out_right,List.getLast?_append,List.getLast?_eq_some_getLast h];rfl
theorem out_kid {L:Nat} {t:Tr (L+1)} (h:Tidy t) (left:Bool):∃ k,outE left t.ks=some k∧k ∈ t.ks∧t.ens[outI left t.ens.length]? = some (kEn k)∧outE left t.flat=outE left k.2.flat∧Tidy k.2:=by
 have hne:=ens_ne.1 h.2.1
 have ht:=(loose_node.1 h.1).1
 obtain ⟨k,hk⟩:=out_some left hne
 have hm:k ∈ t.ks:=by rw [← out_at left] at hk;exact List.mem_of_getElem? hk
 refine ⟨k,hk,hm,?_,?_,ht.2 k hm⟩
 ·rw [ens_node,List.length_map,List.getElem?_map,out_at left,hk];rfl
 ·rw [flat_node]
  have hf:=tidy_flat (ht.2 k hm)
  cases left with
  | true =>
   cases hks:t.ks with
   | nil=>exact absurd hks hne
   | cons a r =>
    rw [hks] at hk
    cases hk
    rw [flK_cons,out_app_l hf]
  | false =>
   obtain ⟨r,a,hra⟩:∃ r a,t.ks=r++[a]:=by
    rcases List.eq_nil_or_concat t.ks with e | ⟨r,a,e⟩
    ·exact absurd e hne
    ·exact ⟨r,a,by rw [e,List.concat_eq_append]⟩
   rw [hra,out_right,List.getLast?_append] at hk
   have hka:a=k:=by simpa using hk
   subst hka
   rw [hra,flK_app,flK_cons,flK_nil,List.append_nil,out_app_r hf]
def Zip.nx (right:Bool) {l:Nat} (z:Zip l):Option En:=if right then z.fr.head? else z.fl.getLast?
def sideK {l:Nat} (right:Bool) (A B:List (Kid l)):Option (Kid l):=if right then B.head? else A.getLast?
theorem nx_up {l:Nat} {right:Bool} {p:Nat} {A:List (Kid l)} {k:List UInt8} {B:List (Kid l)} {z:Zip (l+1)} (hl:∀ x ∈ A,Tidy x.2) (hr:∀ x ∈ B,Tidy x.2) :
  (sideK right A B=none∧Zip.nx right (.up p A k B z)=z.nx right)∨∃ y,sideK right A B=some y∧Tidy y.2∧(y ∈ A∨y ∈ B)∧Zip.nx right (.up p A k B z)=outE right y.2.flat:=by
 cases right with
 | true =>
  cases B with
  | nil=>exact .inl ⟨rfl,rfl⟩
  | cons b B =>
   have hb:=hr b (by simp)
   refine .inr ⟨b,rfl,hb,.inr (by simp),?_⟩
   show (flK (b :: B)++z.fr).head? = _
   rw [flK_cons,List.append_assoc]
   exact out_app_l (tidy_flat hb)
 | false =>
  rcases List.eq_nil_or_concat A with rfl | ⟨A',a,rfl⟩
  ·refine .inl ⟨rfl,?_⟩
   show (z.fl++flK []).getLast? = _
   rw [flK_nil,List.append_nil];rfl
  ·rw [List.concat_eq_append] at hl ⊢
   have ha:=hl a (by simp)
   refine .inr ⟨a,by show (A'++[a]).getLast? = _;simp,ha,.inl (by simp),?_⟩
   show (z.fl++flK (A'++[a])).getLast? = _
   rw [flK_app,flK_cons,flK_nil,List.append_nil,← List.append_assoc]
   exact out_app_r (tidy_flat ha)
theorem side_at {l:Nat} (right:Bool) (A:List (Kid l)) (e:En) (B:List (Kid l)) :
  (sideK right A B=none→if right then A.length+1=(A.map kEn++(e :: B.map kEn)).length else A.length=0) ∧
  ∀ y,sideK right A B=some y→(if right then True else 1≤A.length)∧(A.map kEn++(e :: B.map kEn))[if right then A.length+1 else A.length - 1]? = some (kEn y):=by
 cases right with
 | true =>
  refine ⟨fun h=>?_,fun y h=>⟨trivial,?_⟩⟩
  ·cases B with
   | nil=>simp
   | cons b B=>cases h
  ·cases B with
   | nil=>cases h
   | cons b B =>
    cases h
    rw [if_pos rfl,List.getElem?_append_right (by simp)]
    simp
 | false =>
  refine ⟨fun h=>?_,fun y h=>?_⟩
  ·have h:A.getLast? = none:=h
   rw [List.getLast?_eq_none_iff] at h
   rw [h];simp
  ·have h:A.getLast? = some y:=h
   rw [List.getLast?_eq_getElem?] at h
   have hl:=(List.getElem?_eq_some_iff.1 h).1
   refine ⟨by simp;omega,?_⟩
   rw [if_neg (by simp),List.getElem?_append_left (by simp;omega),List.getElem?_map,h];rfl
theorem was_plain {L:Nat} {t:Tr L} (hr:Root t) (ho:Ord t [] none) (key:List UInt8):Was (.top L) t t.flat t.pages key:=by
 refine ⟨trivial,⟨hr.1.1,hr.1.2.2.1⟩,trivial,⟨[],none,⟨rfl,rfl⟩,ho,⟨nil_le _,fun y hy=>by cases hy⟩⟩,?_,?_,fun e he=>?_,fun e he=>?_⟩
 ·simp [Zip.fl,Zip.fr]
 ·simp [Zip.pg]
 ·cases he
 ·cases he
def nextE (key:List UInt8) (l:List En):Option En:=l[cntE key l]?
def prevE (key:List UInt8) (l:List En):Option En:=if cntE key l=0 then none else l[cntE key l - 1]?
theorem Was.near {z:Zip 0} {c:Tr 0} {F:List En} {P:List Nat} {key:List UInt8} (h:Was z c F P key) :
  cntE key F=z.fl.length+cntE key c.es ∧
  nextE key F=(if cntE key c.es < c.es.length then c.es[cntE key c.es]? else z.nx true) ∧
  prevE key F=(if cntE key c.es=0 then z.nx false else c.es[cntE key c.es - 1]?) ∧
  (isAt key c.es=true ↔ hasE key F):=by
 obtain ⟨lo,hi,hz,ho,hin⟩:=h.ord
 have hs:=ho.2.1
 obtain ⟨p1,p2,p3⟩:=part_at hs key
 have hle:=cntE_le key c.es
 have hF:F=(z.fl++c.es.take (cntE key c.es))++(c.es.drop (cntE key c.es)++z.fr):=by
  rw [← h.flat,List.append_assoc,← List.append_assoc (c.es.take _),← p1];rfl
 have hc:cntE key F=z.fl.length+cntE key c.es:=by
  rw [hF,cntE_app]
  ·rw [List.length_append,List.length_take];omega
  ·intro a ha
   rcases List.mem_append.1 ha with ha | ha
   ·exact h.low a ha
   ·exact p2 a ha
  ·intro b hb
   have hb:b ∈ c.es.drop (cntE key c.es)++z.fr:=List.mem_of_mem_head? hb
   rcases List.mem_append.1 hb with hb | hb
   ·exact p3 b hb
   ·exact lt_asymm (h.high b hb)
 have hF2:F=z.fl++(c.es++z.fr):=h.flat.symm
 refine ⟨hc,?_,?_,?_⟩
 ·unfold nextE
  rw [hc,hF2,List.getElem?_append_right (by omega),Nat.add_sub_cancel_left]
  by_cases hlt:cntE key c.es < c.es.length
  ·rw [if_pos hlt,List.getElem?_append_left hlt]
  ·rw [if_neg hlt,List.getElem?_append_right (by omega),show cntE key c.es - c.es.length=0 by omega,← List.head?_eq_getElem?];rfl
 ·unfold prevE
  rw [hc]
  by_cases h0:cntE key c.es=0
  ·rw [if_pos h0,h0,Nat.add_zero]
   show _=z.fl.getLast?
   by_cases hz0:z.fl.length=0
   ·rw [if_pos hz0,List.length_eq_zero_iff.1 hz0];rfl
   ·rw [if_neg hz0,hF2,List.getElem?_append_left (by omega),List.getLast?_eq_getElem?]
  ·rw [if_neg h0,if_neg (by omega),hF2,List.getElem?_append_right (by omega),List.getElem?_append_left (by omega)]
   congr 1;omega
 ·rw [isAt_iff hs,hF2,← List.append_assoc]
  exact (hasE_app h.low h.high).symm
structure TreeOn (h:Hd) (G:Nat→List UInt8) (top:Nat) (F:List En) (ps:List Nat):Prop where
 nodup:ps.Nodup
 is:(F=[]∧top=0∧ps=[])∨∃ (m:Nat) (t:Tr m),Root t∧Ord t [] none∧t.flat=F∧t.page=top∧t.pages=ps∧Rep (Laid h G) t
structure Oth (h:Hd) (G:Nat→List UInt8) (r:Nat) (ps:List Nat) (h':Hd) (G':Nat→List UInt8) (ps':List Nat):Prop where
 has:∀ q,h'.has q ↔ (h.has q∧q ∉ ps)∨q ∈ ps'
 G:∀ q,h.has q→q ∉ ps→G' q=G q
 root:∀ j,j≠r→h'.root j=h.root j
 new:∀ q ∈ ps',q ∈ ps∨¬ h.has q
section
variable {h h':Hd} {G G':Nat→List UInt8} {top r:Nat} {F:List En} {ps ps':List Nat}
theorem TreeOn.has (x:TreeOn h G top F ps):∀ q ∈ ps,h.has q:=by
 intro q hq
 rcases x.is with ⟨_,_,rfl⟩ | ⟨m,t,_,_,_,_,rfl,hr⟩
 ·cases hq
 ·obtain ⟨l,es,h1,_⟩:=rep_all hr q hq
  exact h1
theorem TreeOn.srt (x:TreeOn h G top F ps):Srt F:=by
 rcases x.is with ⟨rfl,_⟩ | ⟨m,t,_,ho,rfl,_⟩
 ·trivial
 ·exact ho.flat.1
theorem TreeOn.few (x:TreeOn h G top F ps):ps.length≤2*F.length:=by
 rcases x.is with ⟨rfl,_,rfl⟩ | ⟨m,t,hr,_,rfl,_,rfl,_⟩
 ·exact Nat.le_refl _
 ·exact hr.np
theorem loose_okL:∀ {L:Nat} {t:Tr L},Loose t→∀ e ∈ t.flat,okL e
 | 0,_,h=>h
 | L+1,t,h=>fun e he=>by
  obtain ⟨k,hk,he⟩:=List.mem_flatMap.1 (show e ∈ t.ks.flatMap fun k=>k.2.flat from he)
  exact loose_okL ((loose_node.1 h).1.2 k hk).1 e he
theorem TreeOn.okL (x:TreeOn h G top F ps):∀ e ∈ F,okL e:=by
 rcases x.is with ⟨rfl,_⟩ | ⟨m,t,hr,_,rfl,_⟩
 ·intro e he;cases he
 ·exact loose_okL hr.1.1
theorem TreeOn.none_ (h:Hd) (G:Nat→List UInt8):TreeOn h G 0 [] []:=⟨List.nodup_nil,.inl ⟨rfl,rfl,rfl⟩⟩
theorem TreeOn.other {top2:Nat} {F2:List En} {ps2:List Nat} (x:TreeOn h G top2 F2 ps2) (o:Oth h G r ps h' G' ps') (hd:∀ q ∈ ps2,q ∉ ps):TreeOn h' G' top2 F2 ps2∧∀ q ∈ ps2,q ∉ ps':=by
 have hh:=x.has
 refine ⟨⟨x.nodup,x.is.imp id fun ⟨m,t,h1,h2,h3,h4,h5,h6⟩=>⟨m,t,h1,h2,h3,h4,h5,h6.congr fun q hq l es hl=>?_⟩⟩,fun q hq hq'=>?_⟩
 ·exact (o.new q hq').elim (hd q hq) (fun hn=>hn (hh q hq))
 ·rw [h5] at hq
  exact ⟨(o.has q).2 (.inl ⟨hl.1,hd q hq⟩),(o.G q hl.1 (hd q hq)).trans hl.2.1,hl.2.2⟩
theorem Oth.refl (h:Hd) (G:Nat→List UInt8) (r:Nat) {ps:List Nat} (hp:∀ q ∈ ps,h.has q):Oth h G r ps h G ps :=
 ⟨fun q=>⟨fun hq=>by by_cases hm:q ∈ ps;exact .inr hm;exact .inl ⟨hq,hm⟩,fun hq=>hq.elim (·.1) (hp q)⟩,fun _ _ _=>rfl,fun _ _=>rfl,fun q hq=>.inl hq⟩
theorem Oth.only (o:Oth h G r ps h' G' ps') {U:List Nat} (hU:∀ q,h.has q→q ∈ ps∨q ∈ U):∀ q,h'.has q→q ∈ ps'∨q ∈ U:=fun q hq=>by
 rcases (o.has q).1 hq with ⟨h1,h2⟩ | h1
 ·exact .inr ((hU q h1).resolve_left h2)
 ·exact .inl h1
end
section
variable {K:Kc} {s0:Hst} {F:List En} {ps:List Nat} {e:Ending} {w':World}
def TreePost (J:List RawOp→Prop) (B:Nat) (S:Nat→Prop) (c:Ac) (h:Hd) (G:Nat→List UInt8) (tb r:Nat) (ps:List Nat) (F':List En) (w w':World):Prop :=
 ∃ (h':Hd) (G':Nat→List UInt8) (S':Nat→Prop) (ps':List Nat),ActV J B S' c h' G' w'∧Turn S w S' w'∧TreeAt w' tb c.a r∧TreeOn h' G' (h'.root r) F' ps'∧Oth h G r ps h' G' ps'
theorem settle_on {r:Nat} (hr16:r < 16) (hK:K.r=r) (h0:¬ s0.h.has 0) (hs:SettlePost K s0 F (0 :: ps) e w'):e=.returned (.int .i64 0)∧TreePost K.J K.B K.S0 K.c s0.h s0.G K.tb r ps F K.w0 w':=by
 obtain ⟨rfl,top,ps',h',G',S',hl,hA,hT,ht⟩:=hs
 subst hK
 have hnr:h'.roots.length=16:=by
  have:=hA.ok.nr
  simpa [Hd.setRoot] using this
 have hroot:∀ j,(h'.setRoot K.r top).root j=if j=K.r then top else h'.root j:=fun j=>by
  unfold Hd.root Hd.setRoot
  simp only [List.getD_eq_getElem?_getD,List.getElem?_set]
  by_cases hj:j=K.r
  ·subst hj;rw [if_pos rfl,if_pos rfl,if_pos (by omega)];rfl
  ·rw [if_neg (Ne.symm hj),if_neg hj]
 refine ⟨rfl,h'.setRoot K.r top,G',S',ps',hA,hT,ht,⟨hl.nodup,?_⟩,⟨fun q=>?_,fun q h1 h2=>hl.other q h1 fun h3=>?_,fun j hj=>?_,fun q hq=>?_⟩⟩
 ·rw [hroot,if_pos rfl]
  exact hl.tree
 ·refine (hl.has q).trans ?_
  constructor
  ·rintro (⟨h1,h2⟩ | h1)
   ·exact .inl ⟨h1,fun h3=>h2 (List.mem_cons_of_mem _ h3)⟩
   ·exact .inr h1
  ·rintro (⟨h1,h2⟩ | h1)
   ·refine .inl ⟨h1,fun h3=>?_⟩
    rcases List.mem_cons.1 h3 with e | h3
    ·exact h0 (e ▸ h1)
    ·exact h2 h3
   ·exact .inr h1
 ·rcases List.mem_cons.1 h3 with e | h3
  ·exact h0 (e ▸ h1)
  ·exact h2 h3
 ·rw [hroot,if_neg hj]
  unfold Hd.root;rw [hl.roots]
 ·rcases hl.new q hq with h1 | h1
  ·rcases List.mem_cons.1 h1 with e | h1
   ·exact .inr (e ▸ h0)
   ·exact .inl h1
  ·exact .inr h1
end
theorem sizeTr:(Tryz.prog.info? 84).map (·.size)=some 3:=by kernel_rfl
theorem neq_nil_tree (w:World) (a:Addr):(binOp .neq 71 (.pointer none) (.pointer (some a))).run Tryz.prog w=.ok (.bool true) w:=by
 have h:∀ d:Nat,(Op.equalIn (d+1) 71 (.pointer none) (.pointer (some a))).run Tryz.prog w=.ok false w:=fun d=>by
  simp [Op.equalIn,run_underlying Tryz.underlying71,sizeOf,typeInfo]
 simp only [binOp]
 simp [Op.equal,Op.maxDepth,h 9999]
def NoTree (v:Value) (w:World):Prop:=Calls Tryz.prog 73 #[v] w fun e w'=>e=.returned (.tuple #[.int .i64 0,.int .i64 1])∧w'=w
set_option maxHeartbeats 800000 in
theorem notree_nil (w:World):NoTree (.pointer none) w:=by
 unfold NoTree
 go_enter Tryz.func73,Tryz.ntmps73
 go_wp2
 go_ret2
 exact ⟨rfl,rfl⟩
set_option maxHeartbeats 800000 in
theorem notree_zero (tb:Nat) (w:World) (h:w.cell? ⟨tb,0,none⟩=some (.pointer none)):NoTree (.pointer (some ⟨tb,0,none⟩)) w:=by
 have hq:=neq_nil_tree w ⟨tb,0,none⟩
 unfold NoTree
 go_enter Tryz.func73,Tryz.ntmps73
 go_wp2
 go_ret2
 exact ⟨rfl,rfl⟩
section
variable {J:List RawOp→Prop} {B:Nat} {S:Nat→Prop} {c:Ac} {h:Hd} {G:Nat→List UInt8} {w:World} {tb r:Nat} {key:List UInt8} {KA:Option Addr} {kn kc:Nat}
set_option maxHeartbeats 1600000 in
theorem top_ok (x:ActV J B S c h G w) (ht:TreeAt w tb c.a r) (hr:r < 16) :
  Calls Tryz.prog 73 #[.pointer (some ⟨tb,0,none⟩)] w fun e w'=>e=.returned (.tuple #[.int .i64 (h.root r),.int .i64 0])∧∃ k,w'=w.drewN k:=by
 have HRT:Hid (∀ k,Calls Tryz.prog 15 #[.pointer (some ⟨c.a,0,none⟩),.int .i64 r] (w.drewN k) fun e w'=>e=.returned (.tuple #[.int .i64 (h.root r),.int .i64 0])∧w'=w.drewN k):=Lib.hid fun k=>root_v (x.below (below_drewN w k)) r hr
 have c0:=ht.c0
 have c1:=ht.c1
 have c2:=ht.c2
 obtain ⟨rt,hrt⟩:∃ rt,rt=h.root r:=⟨_,rfl⟩
 rw [← hrt] at HRT ⊢
 clear x ht hrt
 obtain ⟨j,hj,_⟩:=Option.map_eq_some_iff.1 sizeTr
 have hq:=Lib.run_neq_ptr_same (P:=Tryz.prog) w (tp:=71) (te:=84) ⟨tb,0,none⟩ Tryz.underlying71 hj
 go_enter Tryz.func73,Tryz.ntmps73
 go_wp2
 go_quiet ((go_at_call 15;exact Calls.quiet_of_same (HRT.out _)))
 go_wp2
 go_ret2
 exact ⟨rfl,_,rfl⟩
set_option maxHeartbeats 1600000 in
theorem load_zero (x:ActV J B S c h G w) (ht:TreeAt w tb c.a r) :
  Calls Tryz.prog 75 #[.pointer (some ⟨tb,0,none⟩),.int .i64 0] w fun e w'=>e=.returned (.pointer (some ⟨w.heap.size,0,none⟩))∧w'=w.alloc (.cells (tempNO w.heap.size 0).cells 138):=by
 have HRD:=Lib.hid (read_v_none x 0 (by omega))
 have c1:=ht.c1
 clear x ht
 have HE:Hid (World.alloc w (.cells (tempNO w.heap.size 0).cells 138)=w.alloc (.cells #[.int .i64 0,.int .i64 0,.slice none 0 0,.string ⟨#[]⟩,.int .i64 0] 138)):=Lib.hid rfl
 rw [HE.out]
 go_enter Tryz.func75,Tryz.ntmps75
 go_wp2_with fail
 refine HRD.out.mono ?_
 rintro e w1 ⟨rfl,hw⟩
 subst w1
 go_wp2
 go_ret
 exact ⟨rfl,rfl⟩
theorem temp_at (w:World) (l:Nat) (hl:l≤1000) (X:Nat→Prop) (hX:X w.heap.size):NodeAt X (w.alloc (.cells (tempNO w.heap.size l).cells 138)) (tempNO w.heap.size l) :=
 ⟨heap_alloc_new w _,hX,.inl rfl,⟨Nat.le_refl _,Nat.zero_le _⟩,⟨by show 0 < 4096;omega,hl,by show 0≤1000000;omega⟩,⟨by simp [tempNO],fun e he=>by cases he⟩,fun _ h=>absurd rfl h⟩
set_option maxHeartbeats 3200000 in
theorem way_none (x:ActV J B S c h G w) (hw:TreeAt w tb c.a r) (hkn:key.length=kn) (hK:ReadsB w KA key) :
  Calls Tryz.prog 76 #[.pointer (some ⟨tb,0,none⟩),.int .i64 0,.slice KA kn kc] w (WayOut J B S c h G w (fun b sts=>b=false∧sts=[(tempNO w.heap.size 0,0)]) 1):=by
 have HLD:=Lib.hid (load_zero x hw)
 obtain ⟨W,hW⟩:∃ W,W=w.alloc (.cells (tempNO w.heap.size 0).cells 138):=⟨_,rfl⟩
 have hb:Below w.heap.size w W:=by rw [hW];exact (Below.refl _ _).alloc (Nat.le_refl _) _
 have hsz:W.heap.size=w.heap.size+1:=by rw [hW];simp
 have hnd:NodeAt (fun k=>S k∨k=w.heap.size) W (tempNO w.heap.size 0):=by rw [hW];exact temp_at w 0 (by omega) _ (.inr rfl)
 rw [← hW] at HLD
 have HFD:Hid (Calls Tryz.prog 117 #[.pointer (some ⟨w.heap.size,0,none⟩),.slice KA kn kc] W fun e w'=>e=.returned (.tuple #[.int .i64 0,.bool false])∧Below W.heap.size W w'):=Lib.hid (find_any _ (tempNO w.heap.size 0) KA key kn kc W hnd hkn (hK.below hb) trivial)
 have HAP:Hid (∀ w1,Below W.heap.size W w1→∃ a' c' w2,(Builtin.append_ #[129,129] 129 #[.slice none 0 0,.slice (some ⟨w1.heap.size,0,none⟩) 1 1]).run Tryz.prog (w1.alloc (.cells #[.pointer (some ⟨w.heap.size,0,none⟩),.int .i64 0] 133))=.ok (.slice a' 1 c') w2∧Hid (WayOut J B S c h G w (fun b sts=>b=false∧sts=[(tempNO w.heap.size 0,0)]) 1 (.returned (.tuple #[.slice a' 1 c',.bool false])) w2)):=Lib.hid fun w1 hb1=>by
  obtain ⟨wa,hwa⟩:∃ wa,wa=w1.alloc (.cells #[.pointer (some ⟨w.heap.size,0,none⟩),.int .i64 0] 133):=⟨_,rfl⟩
  have hba:Below W.heap.size W wa:=by rw [hwa];exact below_then_ hb1 ((Below.refl _ _).alloc (Nat.le_refl _) _)
  have hnew:wa.heap[w1.heap.size]? = some (.cells #[.pointer (some ⟨w.heap.size,0,none⟩),.int .i64 0] 133 (0,0)):=by rw [hwa];exact heap_alloc_new w1 _
  obtain ⟨a',c',w2,hrun,hs2,hg⟩:=append_step wa none 0 0 [] (tempNO w.heap.size 0,0) ⟨w1.heap.size,0,none⟩ 1 rfl ⟨rfl,.inl ⟨rfl,rfl⟩⟩ (fun j u hu=>by
   rw [add_lit',Nat.zero_add,Lib.cell_of_heap hnew,← hu]
   exact List.getElem?_toArray) (by omega) 129
  rw [← hwa]
  have hz:=hba.size
  have hkg:Kept (fun _=>False) wa w2:=Kept.ofGrown hg.1 (fun k e=>by simp [Value.ownBlock] at e)
  have hbg:Below wa.heap.size wa w2:=hkg.toBelow (Nat.le_refl _) (fun i h=>h.elim)
  have hb2:Below w.heap.size w w2:=(hb.trans (hba.mono (by omega))).trans (hbg.mono (by omega))
  have hrow:∀ k,(Value.slice a' 1 c').ownBlock=some k→wa.heap.size≤k:=fun k hk=>(hg.2 k hk).elim (fun e=>by simp [Value.ownBlock] at e) id
  have hlow:=x.low
  refine ⟨a',c',w2,hrun,Lib.hid ⟨[(tempNO w.heap.size 0,0)],a',c',false,S,fun k=>(S k∨k=w.heap.size)∨(Value.slice a' 1 c').ownBlock=some k,rfl,⟨rfl,rfl⟩,⟨fun y hy=>?_,fun k hk=>.inl (.inl hk),fun k hk=>?_,List.pairwise_singleton _ _⟩,hs2,x.below hb2,Turn.ofBelow hb2,fun k hk=>?_,fun k hk=>⟨by have:=hrow k hk;omega,.inr hk,fun hs=>by have:=(hlow k hs).2;have:=hrow k hk;omega,fun y hy=>?_⟩,fun y hy=>?_⟩⟩
  ·rw [List.map_singleton,List.mem_singleton] at hy
   subst hy
   have hb3:Below W.heap.size W w2:=hba.trans (hbg.mono hz)
   refine ⟨(hnd.kept (T:=fun _=>False) (X':=fun k=>(S k∨k=w.heap.size)∨(Value.slice a' 1 c').ownBlock=some k) (Kept.ofBelow hb3) (fun _ _ h=>h.elim) (fun k hk hx=>hx.elim id fun e=>by have:=hrow k e;omega) (fun k hk=>.inl hk) id (fun _ _ _ h=>h)),fun hs=>?_,fun hs=>?_,.inl (.inr rfl)⟩
   ·have:=(hlow _ hs).2
    simp only [tempNO] at this;omega
   ·have:=(hlow _ hs).2
    simp only [tempNO,NO.ab] at this;omega
  ·have h2:=hb2.size
   rcases hk with (hk | hk) | hk
   ·have:=(hlow k hk).2;omega
   ·have:=hbg.size;omega
   ·exact own_lt hs2 k hk
  ·rcases hk with (hk | hk) | hk
   ·exact .inl hk
   ·exact .inr (by omega)
   ·exact .inr (by have:=hrow k hk;omega)
  ·rw [List.map_singleton,List.mem_singleton] at hy
   subst hy
   have:=hrow k hk
   exact ⟨by show w.heap.size≠k;omega,by show w.heap.size≠k;omega⟩
  ·rw [List.map_singleton,List.mem_singleton] at hy
   subst hy
   exact ⟨Nat.le_refl _,Nat.le_refl _⟩
 have c1:W.cell? ⟨w.heap.size,1,none⟩=some (.int .i64 0):=hnd.c1
 clear x hw hkn hK hW hb hsz hnd
 go_enter Tryz.func76,Tryz.ntmps76
 go_wp2_with fail
 refine HLD.out.mono ?_
 rintro e w1 ⟨rfl,hw1⟩
 subst w1
 go_wp2
 go_loopw [8,9] (fun v p wr=>v=.slice none 0 0∧p=.pointer (some ⟨w.heap.size,0,none⟩)∧W=wr) (fun _ _ _=>0)
 case atStart=>exact ⟨rfl,rfl,rfl⟩
 case round =>
  obtain ⟨rfl,rfl,hwr⟩:=hrel
  subst hwr
  go_wp2_with fail
  refine HFD.out.mono ?_
  rintro e w2 ⟨rfl,hb2⟩
  obtain ⟨a',c',w3,hrun,hpo⟩:=HAP.out w2 hb2
  go_wp2_with (at_builtin;refine Lib.wpList_append_run _ rfl _ _ 129 129 rfl _ _ rfl rfl _ _ hrun ?_)
  go_ret2
  exact hpo.out
end
section
variable {J:List RawOp→Prop} {B:Nat} {S:Nat→Prop} {c:Ac} {h:Hd} {G:Nat→List UInt8} {w w1:World} {tb r:Nat}
def aboveE (b l eb q:Nat):NO:=⟨b,0,l,[⟨[],pgV q⟩],some ⟨eb,0,none⟩,1,[],0,true⟩
theorem append_way (W:World) (sb ab:Nat) (above:NO) (n cv gw:Nat) (sts:List (NO × Nat)) (hab:above.blk=ab) (hsb:W.heap[sb]? = some (.cells #[.pointer (some ⟨ab,0,none⟩),.int .i64 0] 133 (0,0))) (hs:StepsAt W (.slice (some ⟨gw,0,none⟩) n cv) sts) (hn:n≤1000) (ty:TypeId) :
  ∃ g c' W2,(Builtin.append_ #[129,129] ty #[.slice (some ⟨sb,0,none⟩) 1 1,.slice (some ⟨gw,0,none⟩) n cv]).run Tryz.prog W=.ok (.slice (some ⟨g,0,none⟩) (n+1) c') W2∧StepsAt W2 (.slice (some ⟨g,0,none⟩) (n+1) c') ((above,0) :: sts)∧Kept (fun k=>k=sb) W W2∧(g=sb∨W.heap.size≤g)∧g < W2.heap.size:=by
 obtain ⟨i0,hi,q0,q1,q2⟩:=info_parts infoStep
 have hlen:sts.length=n:=by
  have h1:=hs.2
  rcases h1 with ⟨h2,h3⟩ | ⟨g,cap,cur,h2,_⟩
  ·cases h2
  ·injection h2 with _ h2 _;exact h2.symm
 have h0:StepsAt W (.slice (some ⟨sb,0,none⟩) 1 1) [(above,0)]:=by
  refine ⟨rfl,.inr ⟨sb,1,_,rfl,by omega,hsb,by simp,by unfold maxLen;omega,rfl,?_⟩⟩
  show List.take _ [_,_]=_
  simp [stC,NO.ptr,hab]
 have hcell:∀ j u,(sts.flatMap stC)[j]? = some u→W.cell? ((⟨gw,0,none⟩:Addr).add j)=some u:=fun j u hu=>World.ownsRow.cells (w:=W) hs (g:=gw) rfl j u hu
 obtain ⟨v',w',hr,h1,h2⟩:=append_own2 W 129 ty 133 i0 (.agg #[.pointer none,.int .i64 0]) 2 16 Tryz.underlying129 hi q0 q1 q2 rfl (by decide) _ 1 _ h0 ⟨gw,0,none⟩ n cv (sts.flatMap stC) (by rw [st_len,hlen]) hcell (fun u hu=>by
  obtain ⟨s,_,hu⟩:=List.mem_flatMap.1 hu
  simp only [stC,List.mem_cons,List.not_mem_nil,or_false] at hu
  rcases hu with rfl | rfl <;> rfl) (by unfold maxLen;omega) (by omega) (by omega)
 rw [Nat.add_comm 1 n] at h1
 have hs2:StepsAt w' v' ((above,0) :: sts):=by
  unfold StepsAt
  rw [List.length_cons,hlen,List.flatMap_cons]
  simpa using h1
 obtain ⟨g,c',hv⟩:∃ g c',v'=.slice (some ⟨g,0,none⟩) (n+1) c':=by
  rcases h1.2 with ⟨rfl,h3⟩ | ⟨g,cap,cur,rfl,_⟩
  ·omega
  ·exact ⟨g,cap,rfl⟩
 subst hv
 refine ⟨g,c',w',hr,hs2,Kept.ofGrown h2.1 (fun k e=>by simp only [Value.ownBlock,Option.some.injEq] at e;exact e.symm),?_,own_lt hs2 g rfl⟩
 rcases h2.2 g rfl with e | e
 ·simp only [Value.ownBlock,Option.some.injEq] at e;exact .inl e.symm
 ·exact .inr e
theorem change_begin {ix:NO→Nat} {sts:List (NO × Nat)} {S' X':Nat→Prop} {n:Nat}
  (hpos:1≤w.heap.size) (ht:TreeAt w tb c.a r) (htS:¬ S tb)
  (hN:Nodes X' S' w1 (sts.map (·.1))) (hA:ActV J B S' c h G w1) (hT:Turn S w S' w1) (hfr:∀ x ∈ sts.map (·.1),w.heap.size≤x.blk∧w.heap.size≤x.ab)
  (hsole:∀ st ∈ sts,st.1.sole=true∧(st.1.arr≠none→st.1.ens≠[]))
  {above:NO} (hix:ix above=0) (hl:above.blk=w1.heap.size∧above.page=0∧above.sole=true∧(above.arr≠none→above.ab≠above.blk)∧(above.ab=w1.heap.size∨w1.heap.size+4≤above.ab))
  {W9:World} (hb9:Below w1.heap.size w1 W9) {mb sb g c' cb:Nat} (hmb:mb=w1.heap.size+1) (hsb:sb=w1.heap.size+2) (hmap:KMap W9 mb 0 fun _=>none) (hst:StepsAt W9 (.slice (some ⟨g,0,none⟩) (n+1) c') ((above,0) :: sts)) (hg:g=sb∨w1.heap.size+3≤g) (hgc:g < cb) (hcb3:w1.heap.size+3≤cb)
  (hcb:W9.heap[cb]? = some (.cells #[.pointer (some ⟨tb,0,none⟩),.map (some mb),.slice (some ⟨g,0,none⟩) (n+1) c',.slice none 0 0,.slice none 0 0] 186 (0,0)))
  (habl:above.ab < W9.heap.size) (hac:above.ab=w1.heap.size∨cb < above.ab) (hnd:∀ X:Nat→Prop,(∀ k,X k→(k < cb∨k=cb∨k=above.ab))→X above.blk→X above.ab→NodeAt X W9 above) :
  ∃ s:Hst,Hnd ⟨J,B,c,S,w,tb,r,cb,mb,.slice (some ⟨g,0,none⟩) (n+1) c',(above,0) :: sts⟩ s W9∧s.h=h∧s.G=G∧s.M=upd (fun _=>none) 0 (some above)∧s.tk=[]∧s.gn=[]∧(∀ x ∈ sts.map (·.1),NodeOk s.ρ W9 (ix x) x):=by
 obtain ⟨l1,l2,l3,l4,l5⟩:=hl
 have hz:=hT.1.size
 have hz9:=hb9.size
 have hlow:=hA.low
 have hcl:cb < W9.heap.size:=(Array.getElem?_eq_some_iff.1 hcb).1
 have hN9:=hN.below hb9
 have old:∀ x ∈ sts.map (·.1),x.blk < w1.heap.size∧x.ab < w1.heap.size∧NodeAt X' w1 x∧¬ S' x.blk∧¬ S' x.ab∧X' x.blk∧X' x.ab∧x.sole=true∧(x.arr≠none→x.ab≠x.blk):=fun x hx=>by
  obtain ⟨h1,h2,h3,h4⟩:=hN.at_ x hx
  obtain ⟨st,hst,rfl⟩:=List.mem_map.1 hx
  obtain ⟨e1,e2⟩:=hsole st hst
  exact ⟨h1.lt,hN.lt _ h4,h1,h2,h3,h1.own,h4,e1,fun hne=>ab_ne h1 (e2 hne)⟩
 refine hnd_first (ix:=ix) (X:=fun k=>S' k∨k ∈ [cb,mb,g]∨∃ x ∈ above :: sts.map (·.1),k=x.blk∨k=x.ab) hpos ((ht.kept hT.1 htS).below hb9) ht.lt htS (hA.below hb9) (hT.trans (Turn.ofBelow hb9)) hcb hmap hst hix (fun x hx=>?_) ?_ (fun k hk=>?_) ?_ (fun k hk=>hk)
 ·rcases List.mem_cons.1 hx with rfl | hx
  ·refine ⟨hnd _ (fun k hk=>?_) (.inr (.inr ⟨x,by simp,.inl rfl⟩)) (.inr (.inr ⟨x,by simp,.inr rfl⟩)),fun hs=>?_,fun hs=>?_,by omega,by omega,habl,l3,l4⟩
   ·rcases hk with hk | hk | ⟨y,hy,hk⟩
    ·have:=(hlow k hk).2;omega
    ·simp only [List.mem_cons,List.not_mem_nil,or_false] at hk
     omega
    ·rcases List.mem_cons.1 hy with rfl | hy
     ·omega
     ·have:=old y hy;omega
   ·have:=(hlow _ hs).2;omega
   ·have:=(hlow _ hs).2;omega
  ·obtain ⟨o1,o2,o3,o4,o5,o6,o7,o8,o9⟩:=old x hx
   have h9:NodeAt (fun k=>X' k∨w1.heap.size≤k) W9 x:=o3.kept (T:=fun _=>False) (Kept.ofBelow hb9) (fun _ _ h=>h.elim) (fun k hk hx=>hx.elim id fun e=>by omega) (fun k hk=>.inl hk) id (fun _ _ _ h=>h)
   refine ⟨h9.re (fun k hk=>?_) (.inr (.inr ⟨x,by simp [hx],.inl rfl⟩)) (fun ad ha=>.inr (.inr ⟨x,by simp [hx],.inr (ab_of ha)⟩)),o4,o5,(hfr x hx).1,(hfr x hx).2,by omega,o8,o9⟩
   rcases hk with hk | hk | ⟨y,hy,hk⟩
   ·exact .inl (hN.sub k hk)
   ·simp only [List.mem_cons,List.not_mem_nil,or_false] at hk
    exact .inr (by omega)
   ·rcases List.mem_cons.1 hy with rfl | hy
    ·exact .inr (by omega)
    ·have o:=old y hy
     rcases hk with rfl | rfl
     ·exact .inl o.2.2.2.2.2.1
     ·exact .inl o.2.2.2.2.2.2.1
 ·refine List.pairwise_cons.2 ⟨fun y hy=>?_,hN.far⟩
  have o:=old y hy
  exact ⟨by omega,by omega,by omega,by omega⟩
 ·simp only [List.mem_cons,List.not_mem_nil,or_false] at hk
  refine ⟨by omega,by omega,fun hs=>by have:=(hlow k hs).2;omega,fun x hx=>?_⟩
  rcases List.mem_cons.1 hx with rfl | hx
  ·exact ⟨by omega,by omega⟩
  ·have o:=old x hx
   exact ⟨by omega,by omega⟩
 ·simp only [List.nodup_cons,List.mem_cons,List.not_mem_nil,or_false,not_or,not_false_eq_true,List.nodup_nil,and_true]
  omega
structure ChI (K:Kc) (h:Hd) (G:Nat→List UInt8) (above:NO) (sts:List (NO × Nat)) (v:Value) (j:Nat) (s:Hst) (wr:World):Prop where
 H:Hnd K s wr
 hG:s.h=h∧s.G=G∧s.tk=[]∧s.gn=[]
 M:s.M=putM (upd (fun _=>none) 0 (some above)) (sts.take j)
 nodes:∀ x ∈ sts.map (·.1),NodeOk s.ρ wr x.page x
 steps:StepsAt wr v sts
theorem ChI.round {K:Kc} {above:NO} {sts:List (NO × Nat)} {gw n cv j:Nat} {s:Hst} {wr:World} (I:ChI K h G above sts (.slice (some ⟨gw,0,none⟩) n cv) j s wr) (hgm:gw≠K.mb) {x:NO} {a:Nat} (hj:sts[j]? = some (x,a)) (hp:1≤x.page∧x.page < 4096∧h.has x.page∧x.was=G x.page) (hnd:(sts.map (·.1.page)).Nodup) :
  wr.cell? ⟨gw,j*2,none⟩=some x.ptr∧wr.cell? ⟨gw,j*2+1,none⟩=some (.int .i64 a)∧∀ W,Below wr.heap.size wr W→W.cell? ⟨K.cb,1,none⟩=some (.map (some K.mb))∧W.cell? ⟨x.blk,0,none⟩=some (.int .i64 x.page) ∧
   ∃ w2,(Instr.mapUpdate 184 (.map (some K.mb)) (.int .i64 x.page) x.ptr).run Tryz.prog W=.ok () w2∧∃ s',ChI K h G above sts (.slice (some ⟨gw,0,none⟩) n cv) (j+1) s' w2:=by
 have hm:(x,a) ∈ sts:=List.mem_of_getElem? hj
 have hc:∀ (l:List (NO × Nat)) (j:Nat),l[j]? = some (x,a)→(l.flatMap stC)[j*2]? = some x.ptr∧(l.flatMap stC)[j*2+1]? = some (.int .i64 a):=by
  intro l
  induction l with
  | nil=>intro j hj;cases hj
  | cons y r ih =>
   intro j hj
   cases j with
   | zero =>
    simp only [List.getElem?_cons_zero,Option.some.injEq] at hj
    subst hj
    simp [stC]
   | succ j =>
    have:=ih j (by simpa using hj)
    rw [List.flatMap_cons]
    have e1:(j+1)*2=(stC y).length+j*2:=by simp [stC];omega
    rw [e1,List.getElem?_append_right (by omega),Nat.add_sub_cancel_left,Nat.add_assoc,List.getElem?_append_right (by omega),Nat.add_sub_cancel_left]
    exact this
 obtain ⟨c1,c2⟩:=hc sts j hj
 have hcell:∀ i u,(sts.flatMap stC)[i]? = some u→wr.cell? ⟨gw,i,none⟩=some u:=fun i u hu=>by
  have:=World.ownsRow.cells (w:=wr) I.steps (g:=gw) rfl i u hu
  rw [add_lit',Nat.zero_add] at this
  exact this
 refine ⟨hcell _ _ c1,hcell _ _ c2,fun W hb=>?_⟩
 have HW:=I.H.below hb
 have hxW:NodeOk s.ρ W x.page x:=by
  have hx:=I.nodes x (List.mem_map_of_mem (f:=(·.1)) hm)
  exact hx.go (T:=fun _=>False) (R:=fun _=>False) (Kept.ofBelow hb) (fun _ _ h=>h) id (fun _ _=>.inl rfl) I.H.lt ⟨id,id,id⟩
 obtain ⟨m,hmp⟩:=HW.map.1
 have hMn:s.M x.page=none:=by
  rw [I.M,putM_other fun y hy e=>?_,upd_other _ _ (by omega)]
  obtain ⟨i,hi,hyi⟩:=List.mem_take_iff_getElem.1 hy
  have hi2:i < sts.length:=by omega
  have e1:(sts.map (·.1.page))[i]? = (sts.map (·.1.page))[j]?:=by
   rw [List.getElem?_map,List.getElem?_map,hj,List.getElem?_eq_getElem hi2,hyi]
   show some y.1.page=some x.page
   rw [e]
  have:=(List.getElem?_inj (by simpa using hi2) hnd).1 e1
  omega
 obtain ⟨w2,hr,hp2,ht⟩:=hmp.put (t:=184) (e:=127) Tryz.underlying184 (by have:=hmp.few;unfold maxLen;omega) x.page hp.2.1 (by rw [ptrs_at _ ⟨hp.1,hp.2.1⟩,hMn];rfl) x.ptr
 have hk:Kept (fun k=>k=K.mb) W w2:=Kept.ofTurned ht rfl
 have H2:=HW.putM ⟨hp.1,hp.2.1⟩ hxW ⟨rfl,by rw [I.hG.1];exact hp.2.2.1,.inl (by rw [I.hG.2.1];exact hp.2.2.2)⟩ (by rw [I.hG.2.2.2];simp) hk hp2
 refine ⟨HW.cb1,hxW.at_.c0,w2,hr,_,H2,I.hG,?_,fun y hy=>?_,?_⟩
 ·show upd s.M x.page (some x)=_
  rw [I.M,List.take_add_one,hj,Option.toList_some,putM_snoc]
 ·have hy0:=I.nodes y hy
  have hyW:NodeOk s.ρ W y.page y:=hy0.go (T:=fun _=>False) (R:=fun _=>False) (Kept.ofBelow hb) (fun _ _ h=>h) id (fun _ _=>.inl rfl) I.H.lt ⟨id,id,id⟩
  exact hyW.go (T:=fun k=>k=K.mb) (R:=fun r=>r=3) hk (fun k _ e=>e ▸ HW.map.2) (by omega) (fun _ _=>.inl rfl) HW.lt ⟨by omega,by omega,by omega⟩
 ·refine ownsRow_of_block (ownsRow_below I.steps hb) fun k hk'=>?_
  simp only [Value.ownBlock,Option.some.injEq] at hk'
  subst hk'
  have hgl:=own_lt (ownsRow_below I.steps hb) gw rfl
  exact hk.block _ hgl hgm
end
end Go.Proofs.YtfbbjiidccbaiaaGreatDoor
