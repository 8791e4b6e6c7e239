/- Texts of one proof, one behind the other: WH, YN, YP, YQ, WI, WJ, YB, YG, YH. -/
import Derived.Test.YtfbbjiidccbaiaaGreatDoorMAO
import Derived.Test.YtfbbjiidccbaiaaGreatDoorMAQ
import Derived.Test.YtfbbjiidccbaiaaGreatDoorMAP
set_option maxRecDepth 100000
namespace Go.Proofs.YtfbbjiidccbaiaaGreatDoor
open Go.RowKit
def itV:Option En→Value
 | some e=>.agg #[.string ⟨e.key.toArray⟩,.string ⟨e.val.toArray⟩]
 | none=>.agg #[.string ⟨#[]⟩,.string ⟨#[]⟩]
section
variable {J:List RawOp→Prop} {B:Nat} {S:Nat→Prop} {c:Ac} {h:Hd} {G:Nat→List UInt8} {w:World} {tb r L:Nat} {t:Tr L}
def TellPost (J:List RawOp→Prop) (B:Nat) (S:Nat→Prop) (c:Ac) (h:Hd) (G:Nat→List UInt8) (o:Option En) (w:World) (e:Ending) (w':World):Prop:=e=.returned (.tuple #[itV o,.bool o.isSome])∧ActPost J B S c h G w w'
def itZ:Obj:=.cells #[.string ⟨#[]⟩,.string ⟨#[]⟩] 89 (0,0)
structure EdgeI (J:List RawOp→Prop) (B:Nat) (S:Nat→Prop) (c:Ac) (h:Hd) (G:Nat→List UInt8) (left:Bool) (F:List En) (w:World) (tb r rb:Nat) (n:NO) (l:Nat) (tc:Tr l) (S' X':Nat→Prop) (wr:World):Prop where
 act:ActV J B S' c h G wr
 turn:Turn S w S' wr
 tree:TreeAt wr tb c.a r
 res:wr.heap[rb]? = some itZ∧¬ S' rb∧w.heap.size≤rb
 node:NodeAt X' wr n∧¬ S' n.blk
 is:n.level=l∧n.ens=tc.ens
 tidy:Tidy tc
 rep:Rep (Laid h G) tc
 out:outE left tc.flat=outE left F
variable {left:Bool} {F:List En} {rb l:Nat} {n:NO} {S' X':Nat→Prop} {wr:World}
theorem EdgeI.down {tc:Tr (l+1)} (I:EdgeI J B S c h G left F w tb r rb n (l+1) tc S' X' wr) (htS:¬ S tb) (htl:tb < w.heap.size) :
  Calls Tryz.prog 114 #[.pointer (some ⟨tb,0,none⟩),n.ptr,.int .i64 (outI left n.ens.length:Nat)] wr fun e w'=>∃ (y:NO) (tk:Tr l) (S'' X'':Nat→Prop),e=.returned y.ptr∧EdgeI J B S c h G left F w tb r rb y l tk S'' X'' w':=by
 obtain ⟨k,hk,hm,he,ho,ht⟩:=out_kid I.tidy left
 have hr:=I.rep.kid k hm
 obtain ⟨q1,q2,q3⟩:=hr.at_
 have hp:=I.act.has_lt q1
 have hc:(kEn k).child=k.2.page:=kEn_child k (by omega)
 refine (below_ok I.act I.tree X' n I.node.1 I.node.2 (outI left n.ens.length) (kEn k) (by rw [I.is.2];exact he) rfl l k.2.ens I.is.1 (by rw [hc];exact q1) (by rw [hc];exact q2) q3).mono ?_
 rintro e w' ⟨y,S'',rfl,hL⟩
 have hrl:rb < wr.heap.size:=(Array.getElem?_eq_some_iff.1 I.res.1).1
 have htS':¬ S' tb:=I.turn.not htl htS
 refine ⟨y,k.2,S'',fun j=>S'' j∨j=y.blk∨j=y.ab,rfl,⟨hL.act,I.turn.trans hL.turn,I.tree.kept hL.turn.1 htS',⟨(hL.turn.1.block rb hrl I.res.2.1).trans I.res.1,hL.turn.not hrl I.res.2.1,I.res.2.2⟩,⟨hL.node S'' (fun j hj=>.inr hj),hL.new.2.2.1⟩,⟨hL.info.2.1,hL.info.2.2.1⟩,ht,hr,ho.symm.trans I.out⟩⟩
theorem edge_fin (hp1:1≤w.heap.size) (hact:ActV J B S' c h G wr) (hT:Turn S w S' wr) (hres:wr.heap[rb]? = some itZ∧¬ S' rb∧w.heap.size≤rb) {W:World} (hk:Kept (fun k=>k=rb) wr W):ActPost J B S c h G w W:=by
 have h0:=hT.1.size
 exact ⟨S',⟨hT.1.trans hk fun k e=>.inr (by have:=hres.2.2;omega),hT.2⟩,hact.kept hk fun k e _=>⟨e ▸ hres.2.1,by have:=hres.2.2;omega⟩⟩
def ResSet (rb:Nat) (s1 s2:ByteArray) (w':World) (Q:World→Prop):Prop :=
 rb < w'.heap.size∧w'.frozen? ⟨rb,0,none⟩=false∧w'.frozen? ⟨rb,1,none⟩=false∧w'.cell? ⟨rb,0,none⟩=some (.string ⟨#[]⟩)∧w'.cell? ⟨rb,1,none⟩=some (.string ⟨#[]⟩) ∧
  ((w'.setCell ⟨rb,0,none⟩ (.string s1)).setCell ⟨rb,1,none⟩ (.string s2)).cell? ⟨rb,0,none⟩=some (.string s1)∧((w'.setCell ⟨rb,0,none⟩ (.string s1)).setCell ⟨rb,1,none⟩ (.string s2)).cell? ⟨rb,1,none⟩=some (.string s2) ∧
  Hid (Q ((w'.setCell ⟨rb,0,none⟩ (.string s1)).setCell ⟨rb,1,none⟩ (.string s2)))
theorem res_set {w':World} {rb:Nat} (h:w'.heap[rb]? = some itZ) (s1 s2:ByteArray) {Q:World→Prop} (hQ:∀ W,Kept (fun k=>k=rb) w' W→Q W):ResSet rb s1 s2 w' Q:=by
 have h0:w'.heap[rb]? = some (.cells #[.string ⟨#[]⟩,.string ⟨#[]⟩] 89 (0,0)):=h
 have h1:=heap_set (i:=0) h0 (.string s1)
 have h2:=heap_set (i:=1) h1 (.string s2)
 refine ⟨(Array.getElem?_eq_some_iff.1 h).1,by simp [World.frozen?,h0],by simp [World.frozen?,h0],by rw [Lib.cell_of_heap h0];rfl,by rw [Lib.cell_of_heap h0];rfl,by rw [Lib.cell_of_heap h2];rfl,by rw [Lib.cell_of_heap h2];rfl,Lib.hid (hQ _ ?_)⟩
 exact (Kept.setCell (fun k=>k=rb) w' (b:=rb) (i:=0) rfl (.string s1)).trans (Kept.setCell (fun k=>k=rb) _ (b:=rb) (i:=1) rfl (.string s2)) (fun k e=>.inl e)
set_option maxHeartbeats 6400000 in
theorem edge_ok (hp1:1≤w.heap.size) (x:ActV J B S c h G w) (hw:TreeAt w tb c.a r) (htS:¬ S tb) {X:Nat→Prop} {n0:NO} (hn:NodeAt X w n0) (hnS:¬ S n0.blk) (his:n0.level=L∧n0.ens=t.ens) (ht:Tidy t) (hR:Rep (Laid h G) t) (left:Bool) (sd:Int) (hsd:sd=(if left then -1 else 1)) :
  Calls Tryz.prog 84 #[.pointer (some ⟨tb,0,none⟩),n0.ptr,.int .i64 sd] w (TellPost J B S c h G (outE left t.flat) w):=by
 obtain ⟨W0,hW0⟩:∃ W0,W0=w.alloc (.cells #[.string ⟨#[]⟩,.string ⟨#[]⟩] 89):=⟨_,rfl⟩
 have hb:Below w.heap.size w W0:=by rw [hW0];exact (Below.refl _ _).alloc (Nat.le_refl _) _
 have hn0:W0.heap[w.heap.size]? = some itZ:=by rw [hW0];exact heap_alloc_new w _
 have HI0:Hid (EdgeI J B S c h G left t.flat w tb r w.heap.size n0 L t S X W0):=Lib.hid ⟨x.below hb,Turn.ofBelow hb,hw.below hb,⟨hn0,fun hs=>by have:=(x.low _ hs).2;omega,Nat.le_refl _⟩,⟨hn.below hb,hnS⟩,his,ht,hR,rfl⟩
 have HTL:=Lib.hid hw.lt
 have HTS:=Lib.hid htS
 have HLB:Hid (sd=1∧left=false∨sd=-1∧left=true):=Lib.hid (by cases left with
  | true=>exact .inr ⟨hsd,rfl⟩
  | false=>exact .inl ⟨hsd,rfl⟩)
 clear x hw htS hn hnS his ht hR hb hn0 hsd
 obtain ⟨rb,hrb⟩:∃ rb,rb=w.heap.size:=⟨_,rfl⟩
 have HRB:=Lib.hid hrb
 rw [← hrb] at HI0
 go_enter Tryz.func84,Tryz.ntmps84
 go_wp2
 rw [← hW0,← hrb]
 clear hW0 hrb
 go_loopw [1] (fun p wr=>∃ (n:NO) (l:Nat) (tc:Tr l) (S' X':Nat→Prop),p=n.ptr∧Hid (EdgeI J B S c h G left t.flat w tb r rb n l tc S' X' wr)) (fun p wr=>lvOf p wr)
 case atStart=>exact ⟨n0,L,t,S,X,rfl,HI0⟩
 case round =>
  obtain ⟨n,l,tc,S',X',rfl,HI⟩:=hrel
  have hnd:=HI.out.node.1
  have c1:=hnd.c1
  have c2:=hnd.c2
  have hlv:=HI.out.is.1
  have HME:=Lib.hid ((lvOf_node hnd).trans hlv)
  rw [hlv] at c1
  have h512:=hnd.short.1
  have hne:1≤n.ens.length:=by
   rw [HI.out.is.2]
   exact List.length_pos_iff.2 HI.out.tidy.2.1
  obtain ⟨N,hN⟩:∃ N,N=n.ens.length:=⟨_,rfl⟩
  rw [← hN] at c2 h512 hne
  have HN:=Lib.hid hN
  have f0:((N:Int) == 0)=false:=by simp;omega
  have f1:decide (N=0)=false:=decide_eq_false (by omega)
  have f2:IntKind.i64.wrap ((N:Int) - 1)=((N - 1:Nat):Int):=(IntWalk.i64_in _ (by omega)).trans (by omega)
  cases l with
  | zero =>
   obtain ⟨e0,he0⟩:=out_some left (tidy_flat HI.out.tidy)
   have hat:n.ens[outI left N]? = some e0:=by
    rw [hN,HI.out.is.2,out_at]
    exact he0
   obtain ⟨bb,o,kv,vv,harr,hbl,hfr,k1,k2,k3,k4⟩:=hnd.ents.at_ hat
   rw [harr] at c2
   obtain ⟨A1,cc1,rfl,_,_,hA1,_⟩:=k3
   obtain ⟨A2,cc2,rfl,_,_,hA2,_⟩:=k4
   have hrl:rb < wr.heap.size:=(Array.getElem?_eq_some_iff.1 HI.out.res.1).1
   have HIT:Hid (Calls Tryz.prog 82 #[.agg #[.slice A1 e0.key.length cc1,.slice A2 e0.val.length cc2]] wr fun e w'=>e=.returned (.agg #[.string ⟨e0.key.toArray⟩,.string ⟨e0.val.toArray⟩])∧ResSet rb ⟨e0.key.toArray⟩ ⟨e0.val.toArray⟩ w' fun W=>TellPost J B S c h G (outE left t.flat) w (.returned (.tuple #[.agg #[.string ⟨e0.key.toArray⟩,.string ⟨e0.val.toArray⟩],.bool true])) W):=Lib.hid ((item_any A1 A2 e0.key e0.val e0.key.length e0.val.length cc1 cc2 wr rfl rfl hA1 hA2).mono fun e w' ⟨he,hb⟩=>by
    have hr2:=(hb.block rb hrl).trans HI.out.res.1
    refine ⟨he,res_set hr2 _ _ fun W hk=>?_⟩
    rw [← HI.out.out,he0]
    exact ⟨rfl,edge_fin hp1 (HI.out.act.below hb) (HI.out.turn.trans (Turn.ofBelow hb)) ⟨hr2,HI.out.res.2.1,HI.out.res.2.2⟩ hk⟩)
   obtain ⟨l1,hl1⟩:∃ l1,l1=e0.key.length:=⟨_,rfl⟩
   obtain ⟨l2,hl2⟩:∃ l2,l2=e0.val.length:=⟨_,rfl⟩
   rw [← hl1] at k1 HIT
   rw [← hl2] at k2 HIT
   obtain ⟨s1,hs1⟩:∃ s:ByteArray,s=⟨e0.key.toArray⟩:=⟨_,rfl⟩
   obtain ⟨s2,hs2⟩:∃ s:ByteArray,s=⟨e0.val.toArray⟩:=⟨_,rfl⟩
   rw [← hs1,← hs2] at HIT
   unfold NO.ptr
   clear hnd hlv hN he0 hat harr hA1 hA2 hl1 hl2 hs1 hs2 HI HME HI0
   rcases HLB.out with ⟨rfl,rfl⟩ | ⟨rfl,rfl⟩
   ·rw [show outI false N=N - 1 from rfl] at k1 k2
    have g1:N - 1 < N:=by omega
    have g2:(0:Int)≤((N - 1:Nat):Int):=by omega
    go_wp2_with fail
    refine HIT.out.mono ?_
    rintro e w2 ⟨rfl,d1,d2,d3,d4,d5,d6,d7,HE⟩
    go_wp2
    exact bodyPost_ret (v:=.tuple #[.agg #[.string s1,.string s2],.bool true]) (by simp [results,Tryz.results84,go_sem,d6,d7]) rfl HE.out
   ·rw [show outI true N=0 from rfl,Nat.zero_mul,Nat.add_zero] at k1 k2
    go_wp2_with fail
    refine HIT.out.mono ?_
    rintro e w2 ⟨rfl,d1,d2,d3,d4,d5,d6,d7,HE⟩
    go_wp2
    exact bodyPost_ret (v:=.tuple #[.agg #[.string s1,.string s2],.bool true]) (by simp [results,Tryz.results84,go_sem,d6,d7]) rfl HE.out
  | succ l =>
   have HD:=Lib.hid (HI.out.down HTS.out HTL.out)
   rw [← hN] at HD
   have hpos:(0:Int) < ((l+1:Nat):Int):=by omega
   have hz1:(((l+1:Nat):Int) == 0)=false:=by simp;omega
   have hz2:((l:Int)+1 == 0)=false:=by simp;omega
   unfold NO.ptr at HD ⊢
   clear hnd hlv hN HI HI0
   rcases HLB.out with ⟨rfl,rfl⟩ | ⟨rfl,rfl⟩
   ·rw [show outI false N=N - 1 from rfl] at HD
    go_wp2_with fail
    refine HD.out.mono ?_
    rintro e w2 ⟨y,tk,S2,X2,rfl,h2⟩
    have H2:=Lib.hid h2
    have HM2:Hid (lvOf y.ptr w2=l):=Lib.hid ((lvOf_node h2.node.1).trans h2.is.1)
    clear h2
    go_wp2
    go_roundw
    case rel=>exact ⟨y,l,tk,S2,X2,rfl,H2⟩
    case measure =>
     have h1:=HM2.out;have h3:=HME.out
     unfold NO.ptr at h1 h3
     show lvOf _ w2 < lvOf _ wr
     omega
   ·rw [show outI true N=0 from rfl] at HD
    go_wp2_with fail
    refine HD.out.mono ?_
    rintro e w2 ⟨y,tk,S2,X2,rfl,h2⟩
    have H2:=Lib.hid h2
    have HM2:Hid (lvOf y.ptr w2=l):=Lib.hid ((lvOf_node h2.node.1).trans h2.is.1)
    clear h2
    go_wp2
    go_roundw
    case rel=>exact ⟨y,l,tk,S2,X2,rfl,H2⟩
    case measure =>
     have h1:=HM2.out;have h3:=HME.out
     unfold NO.ptr at h1 h3
     show lvOf _ w2 < lvOf _ wr
     omega
end
theorem lt_snoc0:∀ (a k:List UInt8),lt a (k++[0]) ↔ lt a k∨a=k
 | [],[]=>by simp [lt,Op.bytesLess]
 | [],y :: k=>by simp [lt,Op.bytesLess]
 | x :: a,[]=>by
  rw [List.nil_append,lt_cons]
  constructor
  ·rintro (h | ⟨rfl,h⟩)
   ·simp at h
   ·exact absurd h (lt_nil _)
  ·rintro (h | h)
   ·exact absurd h (lt_nil _)
   ·cases h
 | x :: a,y :: k=>by
  rw [List.cons_append,lt_cons,lt_cons,lt_snoc0 a k]
  constructor
  ·rintro (h | ⟨rfl,h | rfl⟩)
   ·exact .inl (.inl h)
   ·exact .inl (.inr ⟨rfl,h⟩)
   ·exact .inr rfl
  ·rintro ((h | ⟨rfl,h⟩) | h)
   ·exact .inl h
   ·exact .inr ⟨rfl,.inl h⟩
   ·cases h;exact .inr ⟨rfl,.inr rfl⟩
theorem cntE_snoc0 (k:List UInt8):∀ {l:List En},Srt l→cntE (k++[0]) l=cntE k l+if isAt k l then 1 else 0
 | [],_=>rfl
 | e :: r,hs=>by
  by_cases hl:lt e.key k
  ·have h1:isAt k (e :: r)=isAt k r:=by unfold isAt;rw [cntE_cons_lt hl];rfl
   rw [cntE_cons_lt hl,h1,cntE_cons_lt ((lt_snoc0 _ _).2 (.inl hl)),cntE_snoc0 k (srt_append.1 (show Srt ([e]++r) from hs)).2.1]
   omega
  ·have h0:=cntE_cons_ge (r:=r) hl
   have h1:isAt k (e :: r)=decide (e.key=k):=by unfold isAt;rw [h0];rfl
   rw [h0,h1]
   by_cases he:e.key=k
   ·rw [cntE_cons_lt ((lt_snoc0 _ _).2 (.inr he)),if_pos (decide_eq_true he)]
    cases r with
    | nil=>rfl
    | cons a r =>
     rw [cntE_cons_ge fun ha=>?_]
     have h2:=hs.cons_lt a (by simp)
     rw [he] at h2
     rcases (lt_snoc0 _ _).1 ha with h3 | h3
     ·exact lt_asymm h2 h3
     ·exact h2.ne h3.symm
   ·rw [cntE_cons_ge fun ha=>((lt_snoc0 _ _).1 ha).elim hl he,if_neg (by simpa using he)]
section
variable {w:World} {v:Value} {l:List En}
theorem res_new {W0:World} (hW0:W0=w.alloc (.cells #[.string ⟨#[]⟩,.string ⟨#[]⟩] 89)) (s1 s2:ByteArray):ResSet w.heap.size s1 s2 W0 fun W'=>Below w.heap.size w W':=by
 have hb:Below w.heap.size w W0:=by rw [hW0];exact (Below.refl _ _).alloc (Nat.le_refl _) _
 have hn:W0.heap[w.heap.size]? = some itZ:=by rw [hW0];exact heap_alloc_new w _
 exact res_set hn s1 s2 fun W' hk=>hb.trans (hk.toBelow hb.size (fun i e=>Nat.le_of_eq e.symm))
set_option maxHeartbeats 1600000 in
theorem rfrom_any (h:ItV w v l) (hl:l.length≤90000) (k:ByteArray) :
  Calls Tryz.prog 70 #[v,.string k] w fun e w'=>e=.returned (.tuple #[itV (l[cntE k.data.toList l]?),.bool (l[cntE k.data.toList l]?).isSome])∧Below w.heap.size w w':=by
 obtain ⟨W0,hW0⟩:∃ W0,W0=w.alloc (.cells #[.string ⟨#[]⟩,.string ⟨#[]⟩] 89):=⟨_,rfl⟩
 have hb:Below w.heap.size w W0:=by rw [hW0];exact (Below.refl _ _).alloc (Nat.le_refl _) _
 have h0:=h.below hb
 have HF:=Lib.hid (rfind_any h0 (by omega) k)
 obtain ⟨A,c,rfl,hc,_⟩:=h.slice
 have HAT:Hid (cntE k.data.toList l < l.length→∃ g s1 s2,A=some ⟨g,0,none⟩∧W0.cell? ⟨g,cntE k.data.toList l*2,none⟩=some (.string s1)∧W0.cell? ⟨g,cntE k.data.toList l*2+1,none⟩=some (.string s2)∧itV (l[cntE k.data.toList l]?)=.agg #[.string s1,.string s2]∧(l[cntE k.data.toList l]?).isSome=true):=Lib.hid fun hj=>by
  have he:l[cntE k.data.toList l]? = some l[cntE k.data.toList l]:=List.getElem?_eq_getElem hj
  obtain ⟨g,c2,hv,_,h1,h2⟩:=h0.at_ he
  injection hv with h3 _ h4
  exact ⟨g,_,_,h3,h1,h2,by rw [he];rfl,by rw [he];rfl⟩
 have HNO:Hid (¬ cntE k.data.toList l < l.length→itV (l[cntE k.data.toList l]?)=.agg #[.string ⟨#[]⟩,.string ⟨#[]⟩]∧(l[cntE k.data.toList l]?).isSome=false):=Lib.hid fun hj=>by
  rw [List.getElem?_eq_none (by omega)];exact ⟨rfl,rfl⟩
 have HRS:Hid (∀ s1 s2,ResSet w.heap.size s1 s2 W0 fun W'=>Below w.heap.size w W'):=Lib.hid fun s1 s2=>res_new hW0 s1 s2
 obtain ⟨n,hn⟩:∃ n,n=l.length:=⟨_,rfl⟩
 obtain ⟨m,hm⟩:∃ m,m=cntE k.data.toList l:=⟨_,rfl⟩
 obtain ⟨o,ho⟩:∃ o,o=itV (l[cntE k.data.toList l]?):=⟨_,rfl⟩
 obtain ⟨b,hb⟩:∃ b,b=(l[cntE k.data.toList l]?).isSome:=⟨_,rfl⟩
 rw [← ho,← hb,← hn,← hm] at HAT HNO
 rw [← hn,← hm] at HF
 rw [← hn] at hl ⊢
 rw [← ho,← hb]
 clear h h0 hc hn hm ho hb
 go_enter Tryz.func70,Tryz.ntmps70
 go_wp2_with fail
 rw [← hW0]
 refine HF.out.mono ?_
 rintro e w1 ⟨rfl,hw⟩
 subst w1
 clear HF
 by_cases hmn:m < n
 ·obtain ⟨g,s1,s2,rfl,c1,c2,rfl,rfl⟩:=HAT.out hmn
  obtain ⟨d1,d2,d3,d4,d5,d6,d7,HE⟩:=HRS.out s1 s2
  have f1:(m:Int) < (n:Int):=by omega
  clear HAT HNO HRS hW0
  go_wp2
  exact bodyPost_ret (v:=.tuple #[.agg #[.string s1,.string s2],.bool true]) (by simp [results,Tryz.results70,go_sem,d6,d7]) rfl ⟨rfl,HE.out⟩
 ·have f1:¬ (m:Int) < (n:Int):=by omega
  obtain ⟨rfl,rfl⟩:=HNO.out hmn
  obtain ⟨d1,d2,d3,d4,d5,d6,d7,HE⟩:=HRS.out ⟨#[]⟩ ⟨#[]⟩
  clear HAT HNO HRS hW0
  go_wp2
  exact bodyPost_ret (v:=.tuple #[.agg #[.string ⟨#[]⟩,.string ⟨#[]⟩],.bool false]) (by simp [results,Tryz.results70,go_sem,d6,d7]) rfl ⟨rfl,HE.out⟩
set_option maxHeartbeats 1600000 in
theorem rnext_any (h:ItV w v l) (hl:l.length≤90000) (k:ByteArray) :
  Calls Tryz.prog 71 #[v,.string k] w fun e w'=>e=.returned (.tuple #[itV (l[cntE k.data.toList l+if isAt k.data.toList l then 1 else 0]?),.bool (l[cntE k.data.toList l+if isAt k.data.toList l then 1 else 0]?).isSome])∧Below w.heap.size w w':=by
 obtain ⟨W0,hW0⟩:∃ W0,W0=w.alloc (.cells #[.string ⟨#[]⟩,.string ⟨#[]⟩] 89):=⟨_,rfl⟩
 have hb:Below w.heap.size w W0:=by rw [hW0];exact (Below.refl _ _).alloc (Nat.le_refl _) _
 have h0:=h.below hb
 have HF:=Lib.hid (rfind_any h0 (by omega) k)
 have HH:=Lib.hid (rhas_any h0 (by omega) k)
 obtain ⟨A,c,rfl,hc,_⟩:=h.slice
 have hmle:=cntE_le k.data.toList l
 obtain ⟨i,hi⟩:∃ i,i=cntE k.data.toList l+if isAt k.data.toList l then 1 else 0:=⟨_,rfl⟩
 have HAT:Hid (i < l.length→∃ g s1 s2,A=some ⟨g,0,none⟩∧W0.cell? ⟨g,i*2,none⟩=some (.string s1)∧W0.cell? ⟨g,i*2+1,none⟩=some (.string s2)∧itV (l[i]?)=.agg #[.string s1,.string s2]∧(l[i]?).isSome=true):=Lib.hid fun hj=>by
  have he:l[i]? = some l[i]:=List.getElem?_eq_getElem hj
  obtain ⟨g,c2,hv,_,h1,h2⟩:=h0.at_ he
  injection hv with h3 _ h4
  exact ⟨g,_,_,h3,h1,h2,by rw [he];rfl,by rw [he];rfl⟩
 have HNO:Hid (¬ i < l.length→itV (l[i]?)=.agg #[.string ⟨#[]⟩,.string ⟨#[]⟩]∧(l[i]?).isSome=false):=Lib.hid fun hj=>by
  rw [List.getElem?_eq_none (by omega)];exact ⟨rfl,rfl⟩
 have HRS:Hid (∀ s1 s2,ResSet w.heap.size s1 s2 W0 fun W'=>Below w.heap.size w W'):=Lib.hid fun s1 s2=>res_new hW0 s1 s2
 rw [← hi]
 obtain ⟨n,hn⟩:∃ n,n=l.length:=⟨_,rfl⟩
 obtain ⟨m,hm⟩:∃ m,m=cntE k.data.toList l:=⟨_,rfl⟩
 obtain ⟨bt,hbt⟩:∃ bt,bt=isAt k.data.toList l:=⟨_,rfl⟩
 obtain ⟨o,ho⟩:∃ o,o=itV (l[i]?):=⟨_,rfl⟩
 obtain ⟨b,hb⟩:∃ b,b=(l[i]?).isSome:=⟨_,rfl⟩
 rw [← ho,← hb,← hn] at HAT HNO
 rw [← hn,← hm] at HF
 rw [← hn,← hbt] at HH
 rw [← hm,← hbt] at hi
 rw [← hn] at hl ⊢
 rw [← hn,← hm] at hmle
 rw [← ho,← hb]
 have HI:=Lib.hid hi
 clear h h0 hc hn hm ho hb hbt hi
 go_enter Tryz.func71,Tryz.ntmps71
 go_wp2_with fail
 rw [← hW0]
 clear hW0
 refine HF.out.mono ?_
 rintro e w1 ⟨rfl,hw⟩
 subst w1
 clear HF
 go_wp2_with fail
 refine HH.out.mono ?_
 rintro e w1 ⟨rfl,hw⟩
 subst w1
 clear HH
 have f5:IntKind.i64.wrap ((m:Int)+1)=(m:Int)+1:=IntWalk.i64_in _ (by omega)
 by_cases hin:i < n
 ·obtain ⟨g,s1,s2,rfl,c1,c2,rfl,rfl⟩:=HAT.out hin
  obtain ⟨d1,d2,d3,d4,d5,d6,d7,HE⟩:=HRS.out s1 s2
  clear HAT HNO HRS
  cases bt with
  | true =>
   obtain rfl:i=m+1:=HI.out
   have f1:(m:Int)+1 < (n:Int):=by omega
   have f2:(0:Int)≤(m:Int)+1:=by omega
   go_wp2
   exact bodyPost_ret (v:=.tuple #[.agg #[.string s1,.string s2],.bool true]) (by simp [results,Tryz.results71,go_sem,d6,d7]) rfl ⟨rfl,HE.out⟩
  | false =>
   obtain rfl:i=m:=HI.out
   have f1:(i:Int) < (n:Int):=by omega
   go_wp2
   exact bodyPost_ret (v:=.tuple #[.agg #[.string s1,.string s2],.bool true]) (by simp [results,Tryz.results71,go_sem,d6,d7]) rfl ⟨rfl,HE.out⟩
 ·obtain ⟨rfl,rfl⟩:=HNO.out hin
  obtain ⟨d1,d2,d3,d4,d5,d6,d7,HE⟩:=HRS.out ⟨#[]⟩ ⟨#[]⟩
  clear HAT HNO HRS
  cases bt with
  | true =>
   obtain rfl:i=m+1:=HI.out
   have f1:¬ (m:Int)+1 < (n:Int):=by omega
   go_wp2
   exact bodyPost_ret (v:=.tuple #[.agg #[.string ⟨#[]⟩,.string ⟨#[]⟩],.bool false]) (by simp [results,Tryz.results71,go_sem,d6,d7]) rfl ⟨rfl,HE.out⟩
  | false =>
   obtain rfl:i=m:=HI.out
   have f1:¬ (i:Int) < (n:Int):=by omega
   go_wp2
   exact bodyPost_ret (v:=.tuple #[.agg #[.string ⟨#[]⟩,.string ⟨#[]⟩],.bool false]) (by simp [results,Tryz.results71,go_sem,d6,d7]) rfl ⟨rfl,HE.out⟩
set_option maxHeartbeats 1600000 in
theorem rprev_any (h:ItV w v l) (hl:l.length≤90000) (k:ByteArray) :
  Calls Tryz.prog 72 #[v,.string k] w fun e w'=>e=.returned (.tuple #[itV (prevE k.data.toList l),.bool (prevE k.data.toList l).isSome])∧Below w.heap.size w w':=by
 obtain ⟨W0,hW0⟩:∃ W0,W0=w.alloc (.cells #[.string ⟨#[]⟩,.string ⟨#[]⟩] 89):=⟨_,rfl⟩
 have hb:Below w.heap.size w W0:=by rw [hW0];exact (Below.refl _ _).alloc (Nat.le_refl _) _
 have h0:=h.below hb
 have HF:=Lib.hid (rfind_any h0 (by omega) k)
 obtain ⟨A,c,rfl,hc,_⟩:=h.slice
 have hmle:=cntE_le k.data.toList l
 have HAT:Hid (∀ i,cntE k.data.toList l=i+1→∃ g s1 s2,A=some ⟨g,0,none⟩∧W0.cell? ⟨g,i*2,none⟩=some (.string s1)∧W0.cell? ⟨g,i*2+1,none⟩=some (.string s2)∧itV (prevE k.data.toList l)=.agg #[.string s1,.string s2]∧(prevE k.data.toList l).isSome=true):=Lib.hid fun i hi=>by
  have hj:i < l.length:=by omega
  have he:l[i]? = some l[i]:=List.getElem?_eq_getElem hj
  obtain ⟨g,c2,hv,_,h1,h2⟩:=h0.at_ he
  injection hv with h3 _ h4
  have hp:prevE k.data.toList l=some l[i]:=by unfold prevE;rw [if_neg (by omega),hi,Nat.add_sub_cancel,he]
  exact ⟨g,_,_,h3,h1,h2,by rw [hp];rfl,by rw [hp];rfl⟩
 have HNO:Hid (cntE k.data.toList l=0→itV (prevE k.data.toList l)=.agg #[.string ⟨#[]⟩,.string ⟨#[]⟩]∧(prevE k.data.toList l).isSome=false):=Lib.hid fun hj=>by
  unfold prevE
  rw [if_pos hj];exact ⟨rfl,rfl⟩
 have HRS:Hid (∀ s1 s2,ResSet w.heap.size s1 s2 W0 fun W'=>Below w.heap.size w W'):=Lib.hid fun s1 s2=>res_new hW0 s1 s2
 obtain ⟨n,hn⟩:∃ n,n=l.length:=⟨_,rfl⟩
 obtain ⟨m,hm⟩:∃ m,m=cntE k.data.toList l:=⟨_,rfl⟩
 obtain ⟨o,ho⟩:∃ o,o=itV (prevE k.data.toList l):=⟨_,rfl⟩
 obtain ⟨b,hb⟩:∃ b,b=(prevE k.data.toList l).isSome:=⟨_,rfl⟩
 rw [← ho,← hb,← hm] at HAT HNO
 rw [← hn,← hm] at HF
 rw [← hn,← hm] at hmle
 rw [← hn] at hl ⊢
 rw [← ho,← hb]
 clear h h0 hc hn hm ho hb
 go_enter Tryz.func72,Tryz.ntmps72
 go_wp2_with fail
 rw [← hW0]
 refine HF.out.mono ?_
 rintro e w1 ⟨rfl,hw⟩
 subst w1
 clear HF
 by_cases hm0:m=0
 ·obtain ⟨rfl,rfl⟩:=HNO.out hm0
  subst hm0
  rw [show ((0:Nat):Int)=0 from rfl]
  obtain ⟨d1,d2,d3,d4,d5,d6,d7,HE⟩:=HRS.out ⟨#[]⟩ ⟨#[]⟩
  clear HAT HNO HRS hW0
  go_wp2
  exact bodyPost_ret (v:=.tuple #[.agg #[.string ⟨#[]⟩,.string ⟨#[]⟩],.bool false]) (by simp [results,Tryz.results72,go_sem,d6,d7]) rfl ⟨rfl,HE.out⟩
 ·obtain ⟨p,rfl⟩:∃ p,m=p+1:=⟨m - 1,by omega⟩
  obtain ⟨g,s1,s2,rfl,c1,c2,rfl,rfl⟩:=HAT.out p rfl
  obtain ⟨d1,d2,d3,d4,d5,d6,d7,HE⟩:=HRS.out s1 s2
  rw [show ((p+1:Nat):Int)=(p:Int)+1 from rfl]
  have f1:(0:Int) < (p:Int)+1:=by omega
  have f2:IntKind.i64.wrap (p:Int)=p:=IntWalk.i64_in _ (by omega)
  have f3:(p:Int) < (n:Int):=by omega
  have f4:p < n:=by omega
  clear HAT HNO HRS hW0 hm0
  go_wp2
  exact bodyPost_ret (v:=.tuple #[.agg #[.string s1,.string s2],.bool true]) (by simp [results,Tryz.results72,go_sem,d6,d7]) rfl ⟨rfl,HE.out⟩
end
section
variable {J:List RawOp→Prop} {B:Nat} {S:Nat→Prop} {c:Ac} {h:Hd} {G:Nat→List UInt8} {w:World} {tb r:Nat}
set_option maxHeartbeats 800000 in
theorem put_bad (x:ActV J B S c h G w) (ht:TreeAt w tb c.a r) (hr16:r < 16) (key val:ByteArray) (hk:MayE key val=false) :
  Calls Tryz.prog 35 #[.pointer (some ⟨tb,0,none⟩),.string key,.string val] w fun e w'=>e=.returned (.tuple #[.bool false,.int .i64 1])∧Below w.heap.size w w':=by
 have HTOP:=Lib.hid (top_ok x ht hr16)
 obtain ⟨rt,hrt⟩:∃ rt,rt=h.root r:=⟨_,rfl⟩
 rw [← hrt] at HTOP
 have HB:Hid (∀ k,Below w.heap.size w (w.drewN k)):=Lib.hid fun k=>below_drewN w k
 clear x ht hrt
 by_cases h1:key.size=0
 ·have f1:key.toList.isEmpty=true:=by
   rw [ByteArray.toList_eq,List.isEmpty_iff]
   exact List.eq_nil_of_length_eq_zero (by rw [Array.length_toList];exact h1)
  have f2:key.toList=[]:=List.isEmpty_iff.1 f1
  clear hk
  go_enter Tryz.func35,Tryz.ntmps35
  go_wp2_with fail
  refine HTOP.out.mono ?_
  rintro e w1 ⟨rfl,k,rfl⟩
  clear HTOP
  go_wp2
  go_ret2
  exact ⟨rfl,HB.out _⟩
 ·have f1:¬ key.toList=[]:=fun e=>by
   rw [ByteArray.toList_eq] at e
   have:=congrArg List.length e
   rw [Array.length_toList] at this
   exact h1 this
  have f1':key.toList.isEmpty=false:=by
   cases hb:key.toList.isEmpty with
   | false=>rfl
   | true=>exact absurd (List.isEmpty_iff.1 hb) f1
  by_cases h2:96 < key.size
  ·have f2:(96:Int) < (key.size:Int):=by omega
   have f3:decide ((96:Int) < (key.size:Int))=true:=decide_eq_true f2
   clear hk
   go_enter Tryz.func35,Tryz.ntmps35
   go_wp2_with fail
   refine HTOP.out.mono ?_
   rintro e w1 ⟨rfl,k,rfl⟩
   clear HTOP
   go_wp2
   go_ret2
   exact ⟨rfl,HB.out _⟩
  ·have h3:32 < val.size:=by
    simp only [MayE,Bool.and_eq_false_iff,decide_eq_false_iff_not] at hk
    omega
   have f2:¬ (96:Int) < (key.size:Int):=by omega
   have f2':decide ((96:Int) < (key.size:Int))=false:=decide_eq_false f2
   have f3:(32:Int) < (val.size:Int):=by omega
   have f3':decide ((32:Int) < (val.size:Int))=true:=decide_eq_true f3
   clear hk
   go_enter Tryz.func35,Tryz.ntmps35
   go_wp2_with fail
   refine HTOP.out.mono ?_
   rintro e w1 ⟨rfl,k,rfl⟩
   clear HTOP
   go_wp2
   go_ret2
   exact ⟨rfl,HB.out _⟩
end
structure LiI (S:Nat→Prop) (w:World) (v:Value) (l:List En):Prop where
 is:ItV w v l
 out:∀ g,v.ownBlock=some g→¬ S g
section
variable {S S':Nat→Prop} {w w':World} {v:Value} {l:List En}
theorem LiI.turn (h:LiI S w v l) (hT:Turn S w S' w'):LiI S' w' v l:=⟨h.is.kept hT.1 h.out,fun g hg=>hT.not (h.is.lt g hg) (h.out g hg)⟩
theorem LiI.below (h:LiI S w v l) (hb:Below w.heap.size w w'):LiI S w' v l:=h.turn (Turn.ofBelow hb)
theorem LiI.nil_ (S:Nat→Prop) (w:World):LiI S w (.slice none 0 0) []:=⟨ItV.nil_ w,fun g hg=>by simp [Value.ownBlock] at hg⟩
theorem NewI.li {n:Nat} (h:NewI n w v l) (hS:∀ k,S k→k < n):LiI S w v l:=⟨h.is,fun g hg hs=>by have:=h.new g hg;have:=hS g hs;omega⟩
end
def StepTo (J:List RawOp→Prop) (B:Nat) (S:Nat→Prop) (c:Ac) (h:Hd) (G:Nat→List UInt8) (tb r:Nat) (ps:List Nat) (F' l':List En) (v':Value) (w w':World):Prop :=
 ∃ (h':Hd) (G':Nat→List UInt8) (S':Nat→Prop) (ps':List Nat),ActV J B S' c h' G' w'∧Turn S w S' w'∧TreeAt w' tb c.a r∧TreeOn h' G' (h'.root r) F' ps'∧Oth h G r ps h' G' ps'∧LiI S' w' v' l'
def DoesPost (J:List RawOp→Prop) (B:Nat) (S:Nat→Prop) (c:Ac) (h:Hd) (G:Nat→List UInt8) (tb r:Nat) (ps:List Nat) (F' l':List En) (good:Prop) (w:World) (e:Ending) (w':World):Prop :=
 ∃ (v':Value) (b:Bool),e=.returned (.tuple #[v',.bool b])∧(good→b=true)∧StepTo J B S c h G tb r ps F' l' v' w w'
section
variable {J:List RawOp→Prop} {B:Nat} {S:Nat→Prop} {c:Ac} {h:Hd} {G:Nat→List UInt8} {w:World} {tb r:Nat} {F l:List En} {ps:List Nat} {U:List Nat} {v:Value}
theorem StepTo.older {F' l':List En} {v':Value} {w1 w':World} (hp:StepTo J B S c h G tb r ps F' l' v' w1 w') (hb:Below w.heap.size w w1):StepTo J B S c h G tb r ps F' l' v' w w':=by
 obtain ⟨h',G',S',ps',h1,h2,h3⟩:=hp
 exact ⟨h',G',S',ps',h1,(Turn.ofBelow hb).trans h2,h3⟩
theorem StepTo.below {F' l':List En} {v':Value} {w' w2:World} (hp:StepTo J B S c h G tb r ps F' l' v' w w') (hb:Below w'.heap.size w' w2):StepTo J B S c h G tb r ps F' l' v' w w2:=by
 obtain ⟨h',G',S',ps',h1,h2,h3,h4,h5,h6⟩:=hp
 exact ⟨h',G',S',ps',h1.below hb,h2.trans (Turn.ofBelow hb),h3.below hb,h4,h5,h6.below hb⟩
theorem StepTo.of {F':List En} {w':World} (hp:TreePost J B S c h G tb r ps F' w w') (li:LiI S w v l):StepTo J B S c h G tb r ps F' l v w w':=by
 obtain ⟨h',G',S',ps',h1,h2,h3,h4,h5⟩:=hp
 exact ⟨h',G',S',ps',h1,h2,h3,h4,h5,li.turn h2⟩
theorem StepTo.renew {F' l' l2:List En} {v' v2:Value} {w' w2:World} (hp:StepTo J B S c h G tb r ps F' l' v' w w') (hn:NewI w'.heap.size w2 v2 l2) (hb:Below w'.heap.size w' w2):StepTo J B S c h G tb r ps F' l2 v2 w w2:=by
 obtain ⟨h',G',S',ps',h1,h2,h3,h4,h5,h6⟩:=hp
 exact ⟨h',G',S',ps',h1.below hb,h2.trans (Turn.ofBelow hb),h3.below hb,h4,h5,hn.li fun k hk=>(h1.low k hk).2⟩
theorem StepTo.same (x:ActV J B S c h G w) (ht:TreeAt w tb c.a r) (on:TreeOn h G (h.root r) F ps) (li:LiI S w v l) {w':World} (hb:Below w.heap.size w w'):StepTo J B S c h G tb r ps F l v w w' :=
 ⟨h,G,S,ps,x.below hb,Turn.ofBelow hb,ht.below hb,on,Oth.refl h G r on.has,li.below hb⟩
theorem StepTo.act {w':World} (x:ActPost J B S c h G w w') (ht:TreeAt w tb c.a r) (htS:¬ S tb) (on:TreeOn h G (h.root r) F ps) (li:LiI S w v l):StepTo J B S c h G tb r ps F l v w w':=by
 obtain ⟨S',hT,hA⟩:=x
 exact ⟨h,G,S',ps,hA,hT,ht.kept hT.1 htS,on,Oth.refl h G r on.has,li.turn hT⟩
def putE (key val:ByteArray) (l:List En):List En:=if MayE key val then insE key.data.toList val.data.toList l else l
set_option maxHeartbeats 1600000 in
theorem does_put (x:ActV J B S c h G w) (ht:TreeAt w tb c.a r) (htS:¬ S tb) (hr16:r < 16) (hC:∀ q,(c.C q).length=512) (on:TreeOn h G (h.root r) F ps) (hrm:Roomy h U 16) (li:LiI S w v l) (hl:l.length≤80000) (key val:ByteArray) :
  Calls Tryz.prog 29 #[.pointer (some ⟨tb,0,none⟩),v,.agg #[.int .i64 1,.string key,.string val]] w (DoesPost J B S c h G tb r ps (putE key val F) (putE key val l) (l=F) w):=by
 obtain ⟨W0,hW0⟩:∃ W0,W0=w.alloc (.cells #[.int .i64 1,.string key,.string val] 78):=⟨_,rfl⟩
 have hb0:Below w.heap.size w W0:=by rw [hW0];exact (Below.refl _ _).alloc (Nat.le_refl _) _
 have hz0:W0.heap.size=w.heap.size+1:=by rw [hW0];simp
 have hop:W0.heap[w.heap.size]? = some (.cells #[.int .i64 1,.string key,.string val] 78 (0,0)):=by rw [hW0];exact heap_alloc_new w _
 have e0:W0.cell? ⟨w.heap.size,0,none⟩=some (.int .i64 1):=by rw [Lib.cell_of_heap hop];rfl
 have e1:W0.cell? ⟨w.heap.size,1,none⟩=some (.string key):=by rw [Lib.cell_of_heap hop];rfl
 have e2:W0.cell? ⟨w.heap.size,2,none⟩=some (.string val):=by rw [Lib.cell_of_heap hop];rfl
 have x0:=x.below hb0
 have ht0:=ht.below hb0
 have li0:=li.below hb0
 have hopS:¬ S w.heap.size:=fun hs=>by have:=(x.low _ hs).2;omega
 have HOP:Hid (∀ (W:World) (S':Nat→Prop),Turn S W0 S' W→W.cell? ⟨w.heap.size,1,none⟩=some (.string key)∧W.cell? ⟨w.heap.size,2,none⟩=some (.string val)):=Lib.hid fun W S' hT=>by
  have:=(hT.1.block w.heap.size (by omega) hopS).trans hop
  exact ⟨by rw [Lib.cell_of_heap this];rfl,by rw [Lib.cell_of_heap this];rfl⟩
 have HMAY:Hid (∀ W,Calls Tryz.prog 44 #[.string key,.string val] W fun e w'=>e=.returned (.bool (MayE key val))∧w'=W):=Lib.hid fun W=>rmay_any key val W
 obtain ⟨vv,hvv⟩:∃ vv,vv=v:=⟨_,rfl⟩
 by_cases hm:MayE key val=true
 ·obtain ⟨m1,m2,m3⟩:=may_iff.1 hm
  have HPUT:Hid (Calls Tryz.prog 35 #[.pointer (some ⟨tb,0,none⟩),.string key,.string val] W0 fun e w1=>∃ b1:Bool,e=.returned (.tuple #[.bool b1,.int .i64 0])∧w1.cell? ⟨w.heap.size,1,none⟩=some (.string key)∧w1.cell? ⟨w.heap.size,2,none⟩=some (.string val) ∧
    Hid (Calls Tryz.prog 66 #[v,.string key,.string val] w1 fun e w2=>∃ v2,e=.returned v2∧w2.cell? ⟨w.heap.size,1,none⟩=some (.string key)∧Hid (Calls Tryz.prog 67 #[v,.string key] w2 fun e w3=>e=.returned (.bool (isAt key.data.toList l))∧w3=w2) ∧
     Hid (StepTo J B S c h G tb r ps (putE key val F) (putE key val l) v2 w w2))∧(l=F→b1=!isAt key.data.toList l)):=Lib.hid (by
   refine (put_ok x0 ht0 htS hr16 hC on hrm key val m1 m2 m3).mono ?_
   rintro e w1 ⟨rfl,hp⟩
   obtain ⟨h',G',S',ps',q1,q2,q3,q4,q5⟩:=hp
   obtain ⟨c1,c2⟩:=HOP.out _ _ q2
   have li1:=li0.turn q2
   refine ⟨_,rfl,c1,c2,Lib.hid ?_,fun e=>by rw [e]⟩
   refine (rput_any li1.is (by omega) key val).mono ?_
   rintro e w2 ⟨v2,rfl,hn,hb⟩
   obtain ⟨c3,_⟩:=HOP.out _ _ (q2.trans (Turn.ofBelow hb))
   refine ⟨v2,rfl,c3,Lib.hid (rhas_any (li1.is.below hb) (by omega) key),Lib.hid ?_⟩
   have hp:StepTo J B S c h G tb r ps (putE key val F) l v W0 w1:=by
    unfold putE;rw [if_pos hm]
    exact ⟨h',G',S',ps',q1,q2,q3,q4,q5,li1⟩
   have hn':NewI w1.heap.size w2 v2 (putE key val l):=by unfold putE;rw [if_pos hm];exact hn
   exact (hp.renew hn' hb).older hb0)
  rw [hm] at HMAY
  obtain ⟨bl,hbl⟩:∃ bl,bl=isAt key.data.toList l:=⟨_,rfl⟩
  rw [← hbl] at HPUT
  clear x ht htS hC on hrm li x0 ht0 li0 hop HOP hb0 hbl hz0 hopS m1 m2 m3 hm
  go_enter Tryz.func29,Tryz.ntmps29
  go_wp2_with fail
  rw [← hW0]
  refine HPUT.out.mono ?_
  rintro e w1 ⟨b1,rfl,c1,c2,HRP,hbb⟩
  have HBB:=Lib.hid hbb
  clear HPUT hbb e0 e1 e2 hW0
  go_wp2_with fail
  refine (HMAY.out w1).mono ?_
  rintro e w1' ⟨rfl,hw⟩
  subst w1'
  clear HMAY
  go_wp2_with fail
  refine HRP.out.mono ?_
  rintro e w2 ⟨v2,rfl,c3,HRH,HST⟩
  clear HRP c1 c2
  go_wp2_with fail
  refine HRH.out.mono ?_
  rintro e w3 ⟨rfl,hw⟩
  subst w3
  clear HRH
  go_wp2
  go_ret2
  refine ⟨v2,_,rfl,fun e=>?_,HST.out⟩
  rw [HBB.out e]
  simp
 ·have hm:MayE key val=false:=by simpa using hm
  have HPUT:Hid (Calls Tryz.prog 35 #[.pointer (some ⟨tb,0,none⟩),.string key,.string val] W0 fun e w1=>e=.returned (.tuple #[.bool false,.int .i64 1])∧w1.cell? ⟨w.heap.size,1,none⟩=some (.string key)∧w1.cell? ⟨w.heap.size,2,none⟩=some (.string val)∧Hid (StepTo J B S c h G tb r ps (putE key val F) (putE key val l) v w w1)):=Lib.hid (by
   refine (put_bad x0 ht0 hr16 key val hm).mono ?_
   rintro e w1 ⟨rfl,hb⟩
   obtain ⟨c1,c2⟩:=HOP.out _ _ (Turn.ofBelow hb)
   refine ⟨rfl,c1,c2,Lib.hid ?_⟩
   unfold putE
   rw [if_neg (by rw [hm];simp),if_neg (by rw [hm];simp)]
   exact (StepTo.same x0 ht0 on li0 hb).older hb0)
  rw [hm] at HMAY
  clear x ht htS hC on hrm li x0 ht0 li0 hop HOP hb0 hz0 hopS hm
  go_enter Tryz.func29,Tryz.ntmps29
  go_wp2_with fail
  rw [← hW0]
  refine HPUT.out.mono ?_
  rintro e w1 ⟨rfl,c1,c2,HST⟩
  clear HPUT e0 e1 e2 hW0
  go_wp2_with fail
  refine (HMAY.out w1).mono ?_
  rintro e w1' ⟨rfl,hw⟩
  subst w1'
  clear HMAY
  go_wp2
  go_ret2
  exact ⟨_,_,rfl,fun _=>rfl,HST.out⟩
end
structure SeenW (h:Hd) (G:Nat→List UInt8) (key:List UInt8) (F:List En) (b:Bool) (sts pre:List (NO × Nat)) (x0:NO) (at_ q:Nat) (z0:Zip 0):Prop where
 eq:sts=pre++[(x0,at_)]
 on:z0.On q pre.reverse
 ok:∃ had,z0.Ok had
 reps:z0.Reps (Laid h G)
 next:nextE key F=if at_ < x0.ens.length then x0.ens[at_]? else z0.nx true
 prev:prevE key F=if at_=0 then z0.nx false else x0.ens[at_ - 1]?
 is:b=isAt key F
 held:b=true→at_ < x0.ens.length
 le:at_≤x0.ens.length
def SeenP (h:Hd) (G:Nat→List UInt8) (key:List UInt8) (F:List En) (b:Bool) (sts:List (NO × Nat)):Prop:=∃ pre x0 at_ q z0,SeenW h G key F b sts pre x0 at_ q z0
theorem seen_none (h:Hd) (G:Nat→List UInt8) (key:List UInt8) (x0:NO) (hx:x0.ens=[]):SeenP h G key [] false [(x0,0)] :=
 ⟨[],x0,0,0,.top 0,rfl,rfl,⟨0,trivial⟩,trivial,by rw [hx];rfl,rfl,rfl,(fun h=>by cases h),Nat.zero_le _⟩
theorem seen_tree {h:Hd} {G:Nat→List UInt8} {L:Nat} {t:Tr L} (st:Stood h G t) {key:List UInt8} {b:Bool} {sts:List (NO × Nat)} (hw:wayL key b L t sts):SeenP h G key t.flat b sts:=by
 obtain ⟨pre,x0,c0,z0,⟨h1,h2,h3,h4,h5,h6⟩,_⟩:=way_zip (P:=Laid h G) (F:=t.flat) (ps:=t.pages) (Q:=fun _ _=>True) (z:=.top L) (up:=[]) (fun _ _ _ _ _ _ _=>trivial) (was_plain st.root st.ord key) st.rep trivial hw rfl trivial
 obtain ⟨n1,n2,n3,n4⟩:=h2.near
 have hens:x0.ens=c0.es:=h3.2.2.1
 refine ⟨pre,x0,cntE key c0.es,c0.page,z0,h1,by simpa using h5,⟨_,h2.ok⟩,h6.2,by rw [hens];exact n2,by rw [hens];exact n3,?_,fun hb=>?_,by rw [hens];exact cntE_le _ _⟩
 ·rw [h4,Bool.eq_iff_iff,n4,isAt_iff st.ord.flat.1]
 ·rw [h4] at hb
  obtain ⟨A,e,B,hl,h7,_⟩:=at_yes hb
  rw [hens,hl,List.length_append,← hl,← h7];simp
section
variable {J:List RawOp→Prop} {B:Nat} {S X:Nat→Prop} {c:Ac} {h:Hd} {G:Nat→List UInt8} {w:World} {tb r:Nat} {key:List UInt8} {KA:Option Addr} {kn kc:Nat} {F:List En} {ps:List Nat}
theorem way_any (x:ActV J B S c h G w) (hw:TreeAt w tb c.a r) (htS:¬ S tb) (hkn:key.length=kn) (hK:ReadsB w KA key) (hKS:∀ ad,KA=some ad→key≠[]→¬ S ad.block) (on:TreeOn h G (h.root r) F ps) :
  ∃ n,1≤n∧n≤901∧Calls Tryz.prog 76 #[.pointer (some ⟨tb,0,none⟩),.int .i64 (h.root r),.slice KA kn kc] w (WayOut J B S c h G w (SeenP h G key F) n):=by
 rcases on.is with ⟨rfl,htop,rfl⟩ | ⟨L,t,hr,ho,rfl,htop,rfl,hrep⟩
 ·refine ⟨1,by omega,by omega,?_⟩
  rw [htop]
  refine (way_none (kc:=kc) x hw hkn hK).mono ?_
  rintro e w' ⟨sts,a,cv,b,S',X',rfl,⟨rfl,rfl⟩,h1⟩
  exact ⟨_,a,cv,false,S',X',rfl,seen_none h G key _ rfl,h1⟩
 ·have st:Stood h G t:=⟨hr,ho,hrep,on.nodup⟩
  have hL:L≤12:=hr.level on.nodup fun q hq=>(x.has_lt (st.has q hq)).2
  refine ⟨L+1,by omega,by omega,?_⟩
  rw [← htop]
  refine (way_ok (kc:=kc) x hw htS hkn hK hKS (by omega) hrep hr.1.1 (fun _=>hr.1.2.1) ho).mono ?_
  rintro e w' ⟨sts,a,cv,b,S',X',rfl,hwl,h1⟩
  exact ⟨sts,a,cv,b,S',X',rfl,seen_tree st hwl,h1⟩
theorem on_step {l:Nat} {z:Zip l} {q j:Nat} {sts:List (NO × Nat)} (ho:z.On q (sts.take (j+1)).reverse) (hj:j < sts.length):∃ (p:Nat) (A:List (Kid l)) (k:List UInt8) (B:List (Kid l)) (z':Zip (l+1)) (x:NO),z=.up p A k B z'∧sts[j]? = some (x,A.length)∧z'.On p (sts.take j).reverse∧x.level=l+1∧x.ens=A.map kEn++(⟨k,pgV q⟩ :: B.map kEn):=by
 have ht:(sts.take (j+1)).reverse=sts[j] :: (sts.take j).reverse:=by
  rw [List.take_add_one,List.getElem?_eq_getElem hj,Option.toList_some,List.reverse_append];rfl
 rw [ht] at ho
 cases z with
 | top _=>exact absurd (show _=[] from ho) (by simp)
 | up p A k B z' =>
  obtain ⟨x,rest,hs,hp,hl,he,_,_,_,ho'⟩:=ho
  injection hs with hs1 hs2
  exact ⟨p,A,k,B,z',x,rfl,by rw [List.getElem?_eq_getElem hj,hs1],by rw [hs2];exact ho',hl,he⟩
theorem on_top {l:Nat} {z:Zip l} {q:Nat} (ho:z.On q []) (right:Bool):z.nx right=none:=by
 cases z with
 | top _=>cases right <;> rfl
 | up p A k B z' =>
  obtain ⟨x,rest,hs,_⟩:=ho
  cases hs
structure BeyI (h:Hd) (G:Nat→List UInt8) (right:Bool) (o:Option En) (sts:List (NO × Nat)) (j:Nat) {l:Nat} (z:Zip l) (q:Nat):Prop where
 on:z.On q (sts.take j).reverse
 ok:∃ had,z.Ok had
 reps:z.Reps (Laid h G)
 o:z.nx right=o
theorem BeyI.up {right:Bool} {o:Option En} {sts:List (NO × Nat)} {j l:Nat} {z:Zip l} {q:Nat} (I:BeyI h G right o sts (j+1) z q) (hj:j < sts.length) (hN:Nodes X S w (sts.map (·.1))) :
  ∃ (x:NO) (a:Nat),sts[j]? = some (x,a)∧a < x.ens.length∧NodeAt X w x∧¬ S x.blk∧x.level=l+1 ∧
   (((if right then a+1=x.ens.length else a=0)∧∃ (z':Zip (l+1)) (p:Nat),BeyI h G right o sts j z' p) ∨
   ∃ y:Kid l,(if right then True else 1≤a)∧x.ens[if right then a+1 else a - 1]? = some (kEn y)∧Tidy y.2∧Rep (Laid h G) y.2∧outE right y.2.flat=o):=by
 obtain ⟨p,A,k,B',z',x,rfl,hs,ho',hl,he⟩:=on_step I.on hj
 obtain ⟨had,hok,_,_,hok'⟩:=I.ok
 have hm:x ∈ sts.map (·.1):=List.mem_map_of_mem (f:=(·.1)) (List.mem_of_getElem? hs)
 obtain ⟨n1,n2,_⟩:=hN.at_ x hm
 obtain ⟨s1,s2⟩:=side_at right A ⟨k,pgV q⟩ B'
 have hlen:A.length < x.ens.length:=by rw [he];simp
 refine ⟨x,A.length,hs,hlen,n1,n2,hl,?_⟩
 rcases nx_up (right:=right) (p:=p) (k:=k) (z:=z') hok.left hok.right with ⟨e1,e2⟩ | ⟨y,e1,e2,e3,e4⟩
 ·refine .inl ⟨?_,z',p,ho',⟨_,hok'⟩,I.reps.2.2,e2 ▸ I.o⟩
  rw [he];exact s1 e1
 ·refine .inr ⟨y,(s2 y e1).1,by rw [he];exact (s2 y e1).2,e2,?_,e4 ▸ I.o⟩
  rcases e3 with e3 | e3
  ·exact I.reps.1 y e3
  ·exact I.reps.2.1 y e3
end
section
variable {J:List RawOp→Prop} {B:Nat} {S S':Nat→Prop} {c:Ac} {h:Hd} {G:Nat→List UInt8} {w w':World}
def NodeO (S:Nat→Prop) (w:World) (n:NO):Prop:=NodeAt (fun k=>S k∨k=n.blk∨k=n.ab) w n∧¬ S n.blk∧¬ S n.ab∧n.ab < w.heap.size
theorem NodeO.turn {n:NO} (hn:NodeO S w n) (hT:Turn S w S' w'):NodeO S' w' n:=by
 obtain ⟨h1,h2,h3,h4⟩:=hn
 have hk:NodeAt (fun k=>(S k∨S' k)∨k=n.blk∨k=n.ab) w' n:=h1.kept (T:=S) hT.1 (fun k _ hs=>.inl hs) (fun k hl hx=>by
  rcases hx with (hx | hx) | hx
  ·exact .inl hx
  ·exact .inl (hT.2 k hl hx)
  ·exact .inr hx) (fun k hx=>hx.elim (fun h=>.inl (.inl h)) .inr) h2 (fun ad ha _=>by rw [ab_of ha];exact h3)
 refine ⟨hk.re (fun k hx=>hx.elim (fun h=>.inl (.inr h)) .inr) (.inr (.inl rfl)) (fun ad ha=>.inr (.inr (ab_of ha))),hT.not h1.lt h2,hT.not h4 h3,by have:=hT.1.size;omega⟩
theorem NodeO.below {n:NO} (hn:NodeO S w n) (hb:Below w.heap.size w w'):NodeO S w' n:=hn.turn (Turn.ofBelow hb)
theorem Loaded.nodeO {q level:Nat} {es:List En} {was:List UInt8} {y:NO} (hL:Loaded J B S c h G q level es was w y S' w'):NodeO S' w' y:=by
 have h1:=hL.node S' (fun k hk=>.inr hk)
 refine ⟨h1,hL.new.2.2.1,hL.new.2.2.2,hL.ablt⟩
def BytesO (S:Nat→Prop) (w:World) (v:Value) (l:List UInt8):Prop:=BytesV S w v l
theorem BytesO.turn {v:Value} {l:List UInt8} (hv:BytesO S w v l) (hT:Turn S w S' w'):BytesO S' w' v l:=BytesV.kept hv hT.1 (fun _ _ h=>h) (fun k hl h=>hT.2 k hl h)
theorem BytesO.below {v:Value} {l:List UInt8} (hv:BytesO S w v l) (hb:Below w.heap.size w w'):BytesO S w' v l:=hv.turn (Turn.ofBelow hb)
def HiO (S:Nat→Prop) (w:World) (v:Value) (hi:Option (List UInt8)):Prop:=match hi with
 | none=>v=.slice none 0 0
 | some x=>x≠[]∧BytesO S w v x
theorem HiO.turn {v:Value} {hi:Option (List UInt8)} (hv:HiO S w v hi) (hT:Turn S w S' w'):HiO S' w' v hi:=by
 cases hi with
 | none=>exact hv
 | some x=>exact ⟨hv.1,hv.2.turn hT⟩
theorem HiO.below {v:Value} {hi:Option (List UInt8)} (hv:HiO S w v hi) (hb:Below w.heap.size w w'):HiO S w' v hi:=hv.turn (Turn.ofBelow hb)
theorem NodeO.ent {n:NO} (hn:NodeO S w n) {i:Nat} {e:En} (hi:n.ens[i]? = some e):∃ b o kv vv,n.arr=some ⟨b,o,none⟩∧b < w.heap.size∧(∀ j,w.frozen? ⟨b,j,none⟩=false)∧w.cell? ⟨b,o+i*2,none⟩=some kv∧w.cell? ⟨b,o+i*2+1,none⟩=some vv∧BytesO S w kv e.key∧BytesO S w vv e.val:=by
 obtain ⟨b,o,kv,vv,h1,h2,h3,h4,h5,h6,h7⟩:=hn.1.ents.at_ hi
 have f:∀ {v:Value} {l:List UInt8},BytesV (fun k=>S k∨k=n.blk∨k=n.ab) w v l→BytesO S w v l:=fun hv=>BytesV.kept hv (Kept.ofBelow (S:=fun _=>False) (Below.refl _ w)) (fun _ _ h=>h.elim) (fun k _ hk=>.inl hk)
 exact ⟨b,o,kv,vv,h1,h2,h3,h4,h5,f h6,f h7⟩
def keyE (L:Nat) (lo:List UInt8) (i:Nat) (e:En):List UInt8:=if 0 < L∧i=0 then lo else e.key
def nextK {L:Nat} (t:Tr L) (hi:Option (List UInt8)) (i:Nat):Option (List UInt8):=match t.ens[i+1]? with
 | some e=>some e.key
 | none=>hi
theorem sound_at:∀ {L:Nat} {t:Tr L} {lo:List UInt8} {hi:Option (List UInt8)},Tidy t→Ord t lo hi→∀ {i:Nat} {e:En},t.ens[i]? = some e→le lo (keyE L lo i e)∧(∀ x,nextK t hi i=some x→lt (keyE L lo i e) x)
 | 0,t,lo,hi,ht,ho,i,e,he=>by
  obtain ⟨hb,hs,hin⟩:=ord_leaf.1 ho
  have hk:keyE 0 lo i e=e.key:=by unfold keyE;rw [if_neg (by omega)]
  rw [hk]
  have hm:=hin e (List.mem_of_getElem? he)
  refine ⟨hm.1,fun x hx=>?_⟩
  unfold nextK at hx
  cases h1:t.ens[i+1]? with
  | none=>rw [h1] at hx;exact hm.2 x hx
  | some e2 =>
   rw [h1] at hx
   cases hx
   exact Chn.at_ hs he h1
 | L+1,t,lo,hi,ht,ho,i,e,he=>by
  obtain ⟨hb,hok⟩:=ord_node.1 ho
  rw [ens_node,List.getElem?_map] at he
  cases hk:t.ks[i]? with
  | none=>rw [hk] at he;cases he
  | some y =>
   rw [hk] at he
   cases he
   have hil:=(List.getElem?_eq_some_iff.1 hk).1
   have hd:t.ks=t.ks.take i++y :: t.ks.drop (i+1):=by
    have h1:t.ks.drop i=y :: t.ks.drop (i+1):=by
     rw [List.drop_eq_getElem_cons hil]
     obtain ⟨_,h2⟩:=List.getElem?_eq_some_iff.1 hk
     rw [h2]
    rw [← h1,List.take_append_drop]
   rw [hd] at hok
   obtain ⟨o1,o2,o3⟩:=(ordK_mid _ _ _).1 hok
   have hkey:keyE (L+1) lo i (kEn y)=lof lo (t.ks.take i) y.1:=by
    unfold keyE lof
    cases i with
    | zero=>rw [if_pos ⟨by omega,rfl⟩];rfl
    | succ i =>
     rw [if_neg (by omega)]
     have hne:t.ks.take (i+1)≠[]:=fun e=>by
      have:=congrArg List.length e
      rw [List.length_take,List.length_nil] at this
      omega
     cases h2:t.ks.take (i+1) with
     | nil=>exact absurd h2 hne
     | cons _ _=>rfl
   have hnx:∀ x,nextK t hi i=some x→nxt (t.ks.drop (i+1)) hi=some x:=fun x hx=>by
    unfold nextK at hx
    rw [ens_node,List.getElem?_map] at hx
    cases h2:t.ks[i+1]? with
    | none =>
     rw [h2] at hx
     rw [List.drop_eq_nil_of_le (List.getElem?_eq_none_iff.1 h2)]
     exact hx
    | some z =>
     rw [h2] at hx
     cases hx
     obtain ⟨hz,h3⟩:=List.getElem?_eq_some_iff.1 h2
     rw [List.drop_eq_getElem_cons hz,h3];rfl
   rw [hkey]
   refine ⟨?_,fun x hx=>o2.bd x (hnx x hx)⟩
   cases h2:t.ks.take i with
   | nil=>exact le_refl' _
   | cons a A =>
    rw [h2] at o1
    exact (ordK_bd o1 y.1 rfl).le
theorem sound_kid {L:Nat} {t:Tr (L+1)} {lo:List UInt8} {hi:Option (List UInt8)} (ht:Tidy t) (ho:Ord t lo hi) {i:Nat} {e:En} (he:t.ens[i]? = some e):∃ y:Kid L,e=kEn y∧y ∈ t.ks∧Tidy y.2∧Ord y.2 (keyE (L+1) lo i e) (nextK t hi i):=by
 obtain ⟨hb,hok⟩:=ord_node.1 ho
 rw [ens_node,List.getElem?_map] at he
 cases hk:t.ks[i]? with
 | none=>rw [hk] at he;cases he
 | some y =>
  rw [hk] at he
  cases he
  have hil:=(List.getElem?_eq_some_iff.1 hk).1
  have hm:y ∈ t.ks:=List.mem_of_getElem? hk
  have hd:t.ks=t.ks.take i++y :: t.ks.drop (i+1):=by
   have h1:t.ks.drop i=y :: t.ks.drop (i+1):=by
    rw [List.drop_eq_getElem_cons hil]
    obtain ⟨_,h2⟩:=List.getElem?_eq_some_iff.1 hk
    rw [h2]
   rw [← h1,List.take_append_drop]
  rw [hd] at hok
  obtain ⟨o1,o2,o3⟩:=(ordK_mid _ _ _).1 hok
  refine ⟨y,rfl,hm,(loose_node.1 ht.1).1.2 y hm,?_⟩
  have hkey:keyE (L+1) lo i (kEn y)=lof lo (t.ks.take i) y.1:=by
   unfold keyE lof
   cases i with
   | zero=>rw [if_pos ⟨by omega,rfl⟩];rfl
   | succ i =>
    rw [if_neg (by omega)]
    have hne:t.ks.take (i+1)≠[]:=fun e=>by
     have:=congrArg List.length e
     rw [List.length_take,List.length_nil] at this
     omega
    cases h2:t.ks.take (i+1) with
    | nil=>exact absurd h2 hne
    | cons _ _=>rfl
  have hnx:nextK t hi i=nxt (t.ks.drop (i+1)) hi:=by
   unfold nextK
   rw [ens_node,List.getElem?_map]
   cases h2:t.ks[i+1]? with
   | none =>
    rw [List.drop_eq_nil_of_le (List.getElem?_eq_none_iff.1 h2)]
    rfl
   | some z =>
    obtain ⟨hz,h3⟩:=List.getElem?_eq_some_iff.1 h2
    rw [List.drop_eq_getElem_cons hz,h3];rfl
  rw [hkey,hnx]
  exact o2
theorem next_ne {L:Nat} {t:Tr L} {lo:List UInt8} {hi:Option (List UInt8)} (ht:Tidy t) (ho:Ord t lo hi) {i:Nat} {e x:En} (he:t.ens[i]? = some e) (hx:t.ens[i+1]? = some x):x.key≠[]:=fun h0=>by
 have:=(sound_at ht ho he).2 x.key (by unfold nextK;rw [hx])
 rw [h0] at this
 exact lt_nil _ this
end
abbrev Vn:=Nat × Nat × Nat
def visL:(L:Nat)→Tr L→List Vn
 | 0,t=>[(t.page,0,t.es.length)]
 | L+1,t=>(t.page,L+1,t.ks.length) :: t.ks.flatMap fun k=>visL L k.2
def Tr.vis {L:Nat} (t:Tr L):List Vn:=visL L t
def visK {L:Nat} (ks:List (Kid L)):List Vn:=ks.flatMap fun k=>k.2.vis
theorem vis_leaf (t:Tr 0):t.vis=[(t.page,0,t.ens.length)]:=rfl
theorem vis_node {L:Nat} (t:Tr (L+1)):t.vis=(t.page,L+1,t.ens.length) :: visK t.ks:=by
 rw [ens_node,List.length_map];rfl
theorem visK_app {L:Nat} (A B:List (Kid L)):visK (A++B)=visK A++visK B:=by simp [visK]
theorem visK_one {L:Nat} (a:Kid L):visK [a]=a.2.vis:=by simp [visK]
theorem pgK_one {L:Nat} (a:Kid L):pgK [a]=a.2.pages:=by simp [pgK]
theorem vis_pages:∀ {L:Nat} {t:Tr L},t.vis.map (·.1)=t.pages
 | 0,t=>rfl
 | L+1,t=>by
  rw [vis_node,pages_node,List.map_cons,visK,pgK,List.map_flatMap]
  congr 2
  funext k
  exact vis_pages
def cntV:List Vn→Nat
 | []=>0
 | x :: r=>(if x.2.1=0 then x.2.2 else 0)+cntV r
theorem cntV_app (a b:List Vn):cntV (a++b)=cntV a+cntV b:=by
 induction a with
 | nil=>simp [cntV]
 | cons x r ih=>simp only [List.cons_append,cntV,ih];omega
theorem cntV_snoc (a:List Vn) (x:Vn):cntV (a++[x])=cntV a+(if x.2.1=0 then x.2.2 else 0):=by rw [cntV_app];simp [cntV]
theorem cntV_K {L:Nat} (ih:∀ t:Tr L,cntV t.vis=t.flat.length) (ks:List (Kid L)):cntV (visK ks)=(flK ks).length:=by
 induction ks with
 | nil=>rfl
 | cons a r ihr =>
  rw [show a :: r=[a]++r from rfl,visK_app,flK_app,cntV_app,ihr,visK_one,ih,List.length_append]
  simp [flK]
theorem vis_count:∀ {L:Nat} (t:Tr L),cntV t.vis=t.flat.length
 | 0,t=>by rw [vis_leaf];simp [cntV];rfl
 | L+1,t=>by
  rw [vis_node,flat_node]
  simp only [cntV]
  rw [if_neg (by simp),Nat.zero_add]
  exact cntV_K vis_count t.ks
def Been (bb:Nat) (P:List Nat) (w:World):Prop:=∃ cs:Array Value,w.heap[bb]? = some (.cells cs 197 (0,0))∧∀ q,q < 4096→cs[q]? = some (.bool (decide (q ∈ P)))
theorem Been.cell {bb:Nat} {P:List Nat} {w:World} (h:Been bb P w) {q:Nat} (hq:q < 4096):w.cell? ⟨bb,q,none⟩=some (.bool (decide (q ∈ P))):=by
 obtain ⟨cs,h1,h2⟩:=h
 rw [Lib.cell_of_heap h1];exact h2 q hq
theorem Been.lt {bb:Nat} {P:List Nat} {w:World} (h:Been bb P w):bb < w.heap.size:=by
 obtain ⟨cs,h1,_⟩:=h
 exact (Array.getElem?_eq_some_iff.1 h1).1
theorem Been.free {bb:Nat} {P:List Nat} {w:World} (h:Been bb P w) (i:Nat):w.frozen? ⟨bb,i,none⟩=false:=by
 obtain ⟨cs,h1,_⟩:=h
 simp [World.frozen?,h1]
theorem Been.kept {bb:Nat} {P:List Nat} {w w':World} {T:Nat→Prop} (h:Been bb P w) (hk:Kept T w w') (hT:¬ T bb):Been bb P w':=by
 have hl:=h.lt
 obtain ⟨cs,h1,h2⟩:=h
 exact ⟨cs,(hk.block bb hl hT).trans h1,h2⟩
theorem Been.set {bb:Nat} {P:List Nat} {w:World} (h:Been bb P w) {q:Nat} (hq:q < 4096):Been bb (P++[q]) (w.setCell ⟨bb,q,none⟩ (.bool true)):=by
 obtain ⟨cs,h1,h2⟩:=h
 refine ⟨_,heap_set h1 _,fun j hj=>?_⟩
 rw [Array.getElem?_setIfInBounds]
 by_cases hjq:q=j
 ·subst hjq
  have hlt:q < cs.size:=(Array.getElem?_eq_some_iff.1 (h2 q hq)).1
  rw [if_pos rfl,if_pos hlt];simp
 ·rw [if_neg hjq,h2 j hj]
  simp [Ne.symm hjq]
structure VisK (V:List Vn→(Nat→Prop)→World→Prop):Prop where
 kept:∀ {acc:List Vn} {Z T:Nat→Prop} {w w':World},V acc Z w→Kept T w w'→(∀ k,k < w.heap.size→T k→¬ Z k)→V acc Z w'
 lt:∀ {acc:List Vn} {Z:Nat→Prop} {w:World},V acc Z w→∀ k,Z k→1≤k∧k < w.heap.size
structure WkI (J:List RawOp→Prop) (B:Nat) (c:Ac) (h:Hd) (G:Nat→List UInt8) (bb:Nat) (V:List Vn→(Nat→Prop)→World→Prop) (X S:Nat→Prop) (acc:List Vn) (P:List Nat) (w:World):Prop where
 act:ActV J B S c h G w
 sub:∀ k,S k→X k
 lt:∀ k,X k→k < w.heap.size
 been:Been bb P w∧X bb∧¬ S bb∧1≤bb
 vis:∃ Z,V acc Z w∧∀ k,Z k→X k∧¬ S k∧k≠bb
section
variable {J:List RawOp→Prop} {B:Nat} {c:Ac} {h:Hd} {G:Nat→List UInt8} {bb:Nat} {V:List Vn→(Nat→Prop)→World→Prop} {X S:Nat→Prop} {acc:List Vn} {P:List Nat} {w w':World}
theorem WkI.below (hV:VisK V) (I:WkI J B c h G bb V X S acc P w) (hb:Below w.heap.size w w'):WkI J B c h G bb V X S acc P w':=by
 obtain ⟨Z,h1,h2⟩:=I.vis
 have hk:=Kept.ofBelow (S:=fun _=>False) hb
 exact ⟨I.act.below hb,I.sub,fun k hk=>Nat.lt_of_lt_of_le (I.lt k hk) hb.size,⟨I.been.1.kept hk (fun h=>h),I.been.2⟩,Z,hV.kept h1 hk (fun _ _ h=>h.elim),h2⟩
theorem WkI.mark (hV:VisK V) (I:WkI J B c h G bb V X S acc P w) {q:Nat} (hq:q < 4096):WkI J B c h G bb V X S acc (P++[q]) (w.setCell ⟨bb,q,none⟩ (.bool true))∧Turn X w X (w.setCell ⟨bb,q,none⟩ (.bool true)):=by
 obtain ⟨Z,h1,h2⟩:=I.vis
 obtain ⟨b1,b2,b3,b4⟩:=I.been
 have hk:=Kept.setCell (fun k=>k=bb) w (b:=bb) (i:=q) rfl (.bool true)
 refine ⟨⟨I.act.kept hk (fun k e _=>e ▸ ⟨b3,b4⟩),I.sub,fun k hx=>Nat.lt_of_lt_of_le (I.lt k hx) hk.size,⟨b1.set hq,b2,b3,b4⟩,Z,hV.kept h1 hk (fun k _ e hz=>(h2 k hz).2.2 e),h2⟩,hk.mono (fun k e=>e ▸ b2),fun _ _ hx=>hx⟩
theorem WkI.acted (hV:VisK V) (I:WkI J B c h G bb V X S acc P w) {S':Nat→Prop} (hA:ActV J B S' c h G w') (hT:Turn S w S' w'):WkI J B c h G bb V (fun k=>X k∨S' k) S' acc P w'∧Turn X w (fun k=>X k∨S' k) w':=by
 obtain ⟨Z,h1,h2⟩:=I.vis
 obtain ⟨b1,b2,b3,b4⟩:=I.been
 refine ⟨⟨hA,fun k hs=>.inr hs,fun k hk=>hk.elim (fun hx=>Nat.lt_of_lt_of_le (I.lt k hx) hT.1.size) (fun hs=>(hA.low k hs).2),⟨b1.kept hT.1 b3,.inl b2,hT.not b1.lt b3,b4⟩,Z,hV.kept h1 hT.1 (fun k _ hs hz=>(h2 k hz).2.1 hs),fun k hz=>⟨.inl (h2 k hz).1,hT.not (hV.lt h1 k hz).2 (h2 k hz).2.1,(h2 k hz).2.2⟩⟩,hT.1.mono I.sub,fun k hl hk=>hk.elim id fun hs=>I.sub k (hT.2 k hl hs)⟩
theorem Loaded.nodeX {S':Nat→Prop} {q level:Nat} {es:List En} {was:List UInt8} {y:NO} (hlt:∀ k,X k→k < w.heap.size) (hL:Loaded J B S c h G q level es was w y S' w'):NodeO (fun k=>X k∨S' k) w' y:=by
 refine ⟨hL.node (fun k=>X k∨S' k) (fun k hk=>hk.imp (hlt k) id),fun hx=>?_,fun hx=>?_,hL.ablt⟩
 ·rcases hx with hx | hx
  ·have:=hlt _ hx;have:=hL.new.1;omega
  ·exact hL.new.2.2.1 hx
 ·rcases hx with hx | hx
  ·have:=hlt _ hx;have:=hL.new.2.1;omega
  ·exact hL.new.2.2.2 hx
end
section
variable {J:List RawOp→Prop} {B:Nat} {c:Ac} {h:Hd} {G:Nat→List UInt8} {bb ab tb r:Nat} {V:List Vn→(Nat→Prop)→World→Prop} {X S:Nat→Prop} {acc:List Vn} {P:List Nat} {w wr:World} {n0:NO} {av:Nat→List Vn} {pv:Nat→List Nat}
def VisCPages (V:List Vn→(Nat→Prop)→World→Prop) (ab:Nat):Prop :=
 ∀ (acc:List Vn) (Z X:Nat→Prop) (w:World) (n:NO),V acc Z w→NodeAt X w n→acc.length≤4095→Calls Tryz.prog 88 #[n.ptr,.pointer (some ⟨ab,0,none⟩)] w fun e w'=>e=.returned (.tuple #[])∧∃ Z',V (acc++[(n.page,n.level,n.ens.length)]) Z' w'∧Turn Z w Z' w'
def fvPages (ab:Nat):Value:=.func (.func 88) #[] #[.pointer (some ⟨ab,0,none⟩)]
def WkRecPages (J:List RawOp→Prop) (B:Nat) (c:Ac) (h:Hd) (G:Nat→List UInt8) (bb ab tb r:Nat) (V:List Vn→(Nat→Prop)→World→Prop) (n0:NO) (av:Nat→List Vn) (pv:Nat→List Nat):Prop :=
 ∀ (i:Nat) (e:En) (X S:Nat→Prop) (W:World),n0.ens[i]? = some e→WkI J B c h G bb V X S (av i) (pv i) W→TreeAt W tb c.a r→¬ X tb→NodeO X W n0→e.val.length=2∧e.child < 4096∧e.child ∉ pv i ∧
  Calls Tryz.prog 114 #[.pointer (some ⟨tb,0,none⟩),n0.ptr,.int .i64 i] W fun e w5=>∃ yb:Nat,e=.returned (.pointer (some ⟨yb,0,none⟩))∧Calls Tryz.prog 127 #[.pointer (some ⟨tb,0,none⟩),.pointer (some ⟨yb,0,none⟩),.pointer (some ⟨bb,0,none⟩),fvPages ab] w5 fun e w6=>e=.returned (.tuple #[])∧∃ X' S',WkI J B c h G bb V X' S' (av (i+1)) (pv (i+1)) w6∧Turn X W X' w6
def WkGoPages (J:List RawOp→Prop) (B:Nat) (c:Ac) (h:Hd) (G:Nat→List UInt8) (bb:Nat) (V:List Vn→(Nat→Prop)→World→Prop) (X:Nat→Prop) (w:World) (al:List Vn) (pl:List Nat) (wr:World):Prop:=∃ X' S',WkI J B c h G bb V X' S' al pl wr∧Turn X w X' wr
def WkRoundPages (J:List RawOp→Prop) (B:Nat) (c:Ac) (h:Hd) (G:Nat→List UInt8) (bb ab tb:Nat) (V:List Vn→(Nat→Prop)→World→Prop) (X:Nat→Prop) (w:World) (nb:Nat) (av:Nat→List Vn) (pv:Nat→List Nat) (k q:Nat) (wr:World):Prop :=
 Calls Tryz.prog 152 #[.pointer (some ⟨nb,0,none⟩),.int .i64 k] wr.drew fun e w4=>e=.returned (.int .i64 q)∧w4.cell? ⟨bb,q,none⟩=some (.bool false) ∧
  Hid (∀ W,Below w4.heap.size w4 W→Calls Tryz.prog 114 #[.pointer (some ⟨tb,0,none⟩),.pointer (some ⟨nb,0,none⟩),.int .i64 k] W fun e w5=>∃ yb:Nat,e=.returned (.pointer (some ⟨yb,0,none⟩)) ∧
   Hid (Calls Tryz.prog 127 #[.pointer (some ⟨tb,0,none⟩),.pointer (some ⟨yb,0,none⟩),.pointer (some ⟨bb,0,none⟩),.func (.func 88) #[] #[.pointer (some ⟨ab,0,none⟩)]] w5 fun e w6=>e=.returned (.tuple #[])∧Hid (WkGoPages J B c h G bb V X w (av (k+1)) (pv (k+1)) w6)))
theorem wk_roundPages (hV:VisK V) (hrec:WkRecPages J B c h G bb ab tb r V n0 av pv) (ht:TreeAt w tb c.a r) (htX:¬ X tb) (hn:NodeO X w n0) {k:Nat} (hk:k < n0.ens.length) (H:WkGoPages J B c h G bb V X w (av k) (pv k) wr) :
  ∃ q,q < 4096∧wr.drew.cell? ⟨bb,q,none⟩=some (.bool false)∧WkRoundPages J B c h G bb ab tb V X w n0.blk av pv k q wr:=by
 obtain ⟨X',S',I,hT⟩:=H
 have he:n0.ens[k]? = some n0.ens[k]:=List.getElem?_eq_getElem hk
 have hn':=hn.turn hT
 have ht':=ht.kept hT.1 htX
 have htX':=hT.not ht.lt htX
 obtain ⟨e1,e2,e3,_⟩:=hrec k _ X' S' wr he I ht' htX' hn'
 refine ⟨n0.ens[k].child,e2,by rw [(I.below hV (Below.refl wr.heap.size wr).drew).been.1.cell e2];simp [e3],?_⟩
 have hbd:Below wr.heap.size wr wr.drew:=(Below.refl _ _).drew
 refine (child_any _ n0 k n0.ens[k] wr.drew (hn'.below hbd).1 he e1).mono ?_
 rintro e w4 ⟨rfl,m,rfl⟩
 have hb4:Below wr.heap.size wr (wr.drew.drewN m):=hbd.trans ((below_drewN wr.drew m).mono hbd.size)
 refine ⟨rfl,?_,Lib.hid fun W hb=>?_⟩
 ·rw [(I.below hV hb4).been.1.cell e2]
  simp [e3]
 ·have hbW:Below wr.heap.size wr W:=hb4.trans (hb.mono hb4.size)
  obtain ⟨_,_,_,hB⟩:=hrec k _ X' S' W he (I.below hV hbW) (ht'.below hbW) htX' (hn'.below hbW)
  refine hB.mono ?_
  rintro e w5 ⟨yb,rfl,hW⟩
  refine ⟨yb,rfl,Lib.hid (Calls.mono hW ?_)⟩
  rintro e w6 ⟨rfl,X2,S2,I2,hT2⟩
  exact ⟨rfl,Lib.hid ⟨X2,S2,I2,(hT.trans (Turn.ofBelow hbW)).trans hT2⟩⟩
set_option maxHeartbeats 6400000 in
theorem walk_stepPages (hV:VisK V) (hC:VisCPages V ab) (hrec:0 < n0.level→WkRecPages J B c h G bb ab tb r V n0 av pv) (I:WkI J B c h G bb V X S acc P w) (ht:TreeAt w tb c.a r) (htX:¬ X tb) (hn:NodeO X w n0) (hne:n0.ens≠[]) (hfew:acc.length≤4095) (hav:av 0=acc++[(n0.page,n0.level,n0.ens.length)]) (hpv:pv 0=P++[n0.page]) :
  Calls Tryz.prog 127 #[.pointer (some ⟨tb,0,none⟩),n0.ptr,.pointer (some ⟨bb,0,none⟩),fvPages ab] w fun e w'=>e=.returned (.tuple #[])∧WkGoPages J B c h G bb V X w (av (if n0.level=0 then 0 else n0.ens.length)) (pv (if n0.level=0 then 0 else n0.ens.length)) w':=by
 have hpg:=hn.1.small.1
 have hb0:=I.been.1.cell hpg
 have hfz:=I.been.1.free n0.page
 have hbl:=I.been.1.lt
 obtain ⟨oldv,hov⟩:∃ v,v=Value.bool (decide (n0.page ∈ P)):=⟨_,rfl⟩
 rw [← hov] at hb0
 obtain ⟨I1,hT1⟩:=I.mark hV hpg
 have HVIS:Hid (∀ W,Below (w.setCell ⟨bb,n0.page,none⟩ (.bool true)).heap.size (w.setCell ⟨bb,n0.page,none⟩ (.bool true)) W→Calls Tryz.prog 88 #[n0.ptr,.pointer (some ⟨ab,0,none⟩)] W fun e w2=>e=.returned (.tuple #[])∧w2.cell? ⟨n0.blk,1,none⟩=some (.int .i64 n0.level)∧w2.cell? ⟨n0.blk,2,none⟩=some (.slice n0.arr n0.ens.length n0.cap)∧Hid (WkGoPages J B c h G bb V X w (av 0) (pv 0) w2)):=Lib.hid fun W hb=>by
  have I2:=I1.below hV hb
  have hT2:=hT1.trans (Turn.ofBelow hb)
  have hn2:=hn.turn hT2
  obtain ⟨Z,v1,v2⟩:=I2.vis
  refine (hC acc Z _ W n0 v1 hn2.1 hfew).mono ?_
  rintro e w2 ⟨rfl,Z',v3,v4⟩
  have hx:∃ X',WkI J B c h G bb V X' S (acc++[(n0.page,n0.level,n0.ens.length)]) (P++[n0.page]) w2∧Turn X W X' w2:=by
   have hz:=v4.1.size
   obtain ⟨b1,b2,b3,b4⟩:=I2.been
   have hlo:=I2.act.low
   have hnew:∀ k,Z' k→(X k∧¬ S k∧k≠bb)∨W.heap.size≤k:=fun k hk=>by
    rcases Nat.lt_or_ge k W.heap.size with hl | hg
    ·exact .inl (v2 k (v4.2 k hl hk))
    ·exact .inr hg
   refine ⟨fun k=>X k∨Z' k,⟨I2.act.kept v4.1 (fun k hk _=>⟨(v2 k hk).2.1,(hV.lt v1 k hk).1⟩),fun k hs=>.inl (I2.sub k hs),fun k hk=>hk.elim (fun hx=>Nat.lt_of_lt_of_le (I2.lt k hx) hz) (fun hz'=>(hV.lt v3 k hz').2),⟨b1.kept v4.1 (fun hz'=>(v2 bb hz').2.2 rfl),.inl b2,b3,b4⟩,Z',v3,fun k hk=>?_⟩,v4.1.mono (fun k hk=>(v2 k hk).1),fun k hl hk=>hk.elim id fun hk=>(v2 k (v4.2 k hl hk)).1⟩
   rcases hnew k hk with ⟨_,e2,e3⟩ | hg
   ·exact ⟨.inr hk,e2,e3⟩
   ·exact ⟨.inr hk,fun hs=>by have:=(hlo k hs).2;omega,fun e=>by have:=I2.lt bb b2;omega⟩
  obtain ⟨X',I3,hT3⟩:=hx
  have hn3:=hn2.turn hT3
  exact ⟨rfl,hn3.1.c1,hn3.1.c2,Lib.hid ⟨X',S,by rw [hav,hpv];exact I3,hT2.trans hT3⟩⟩
 have HRD:Hid (0 < n0.level→∀ (k:Nat) (wr:World),k < n0.ens.length→WkGoPages J B c h G bb V X w (av k) (pv k) wr→∃ q,q < 4096∧wr.drew.cell? ⟨bb,q,none⟩=some (.bool false)∧WkRoundPages J B c h G bb ab tb V X w n0.blk av pv k q wr):=Lib.hid fun h0 k wr hk H=>wk_roundPages hV (hrec h0) ht htX hn hk H
 have hlen:1≤n0.ens.length:=List.length_pos_iff.2 hne
 have h512:=hn.1.short.1
 have c0:=hn.1.c0
 have c1:=hn.1.c1
 have c2:=hn.1.c2
 have HV:=Lib.hid hV
 clear hC hrec I ht htX hn hne hfew hav hpv I1 hT1 hov hV
 unfold NO.ptr at HVIS ⊢
 unfold fvPages
 obtain ⟨nb,hnb⟩:∃ nb,nb=n0.blk:=⟨_,rfl⟩
 obtain ⟨N,hN⟩:∃ N,N=n0.ens.length:=⟨_,rfl⟩
 obtain ⟨ar,har⟩:∃ ar,ar=n0.arr:=⟨_,rfl⟩
 obtain ⟨cp,hcp⟩:∃ cp,cp=n0.cap:=⟨_,rfl⟩
 obtain ⟨q0,hq0⟩:∃ q0,q0=n0.page:=⟨_,rfl⟩
 obtain ⟨Lv,hLv⟩:∃ Lv,Lv=n0.level:=⟨_,rfl⟩
 rw [← hnb,← hN,← har,← hcp,← hq0,← hLv] at HVIS
 rw [← hnb,← hN,← hLv] at HRD
 rw [← hnb] at c0 c1 c2 ⊢
 rw [← hN] at hlen h512 c2 ⊢
 rw [← har,← hcp] at c2
 rw [← hq0] at c0 hpg hb0 hfz
 rw [← hLv] at c1 ⊢
 clear hnb hN har hcp hq0 hLv
 obtain ⟨M,hM⟩:∃ M,M=if Lv=0 then 0 else N:=⟨_,rfl⟩
 rw [← hM]
 have HM:=Lib.hid hM
 clear hM
 have f1:¬ ((N:Int)=0):=by omega
 have f2:(0:Int)≤(q0:Int):=by omega
 have f3:(q0:Int) < 4096:=by omega
 go_enter Tryz.func127,Tryz.ntmps127
 go_wp2_with fail
 go_still_tail 7,(by kernel_rfl)
 go_wp2_with fail
 refine (HVIS.out _ (Below.refl _ _).drew).mono ?_
 rintro e w2 ⟨rfl,d1,d2,HW2⟩
 clear HVIS c0 c1 c2 hb0 hfz
 by_cases hl:Lv=0
 ·subst hl
  obtain rfl:M=0:=by rw [HM.out];rfl
  rw [show ((0:Nat):Int)=0 from rfl] at d1
  clear HRD
  go_wp2
  exact bodyPost_ret (v:=.tuple #[]) (by simp [results,Tryz.results127,go_sem]) rfl ⟨rfl,HW2.out⟩
 ·have f4:¬ ((Lv:Int)=0):=by omega
  have f5:((Lv:Int) == 0)=false:=by simp;omega
  obtain rfl:M=N:=by rw [HM.out,if_neg hl]
  have HR:=Lib.hid (HRD.out (by omega))
  clear HRD hl
  go_wp2
  go_loopw [35] (fun i wr=>∃ k:Nat,k≤M∧i=.int .i64 k∧Hid (WkGoPages J B c h G bb V X w (av k) (pv k) wr)) (fun i _=>M - (intOf i).toNat)
  case atStart=>exact ⟨0,by omega,rfl,HW2⟩
  case round =>
   obtain ⟨k,hk,rfl,HW⟩:=hrel
   by_cases hkn:k < M
   ·obtain ⟨q,hq,hs0,hR⟩:=HR.out k wr hkn HW.out
    have HRR:=Lib.hid hR
    have HS0:=Lib.hid hs0
    have HQ:Hid (∀ W:World,W.cell? ⟨bb,q,none⟩=some (.bool false)→W.cell? ⟨bb,q,none⟩=some (.bool false)):=Lib.hid fun _ h=>h
    clear hs0
    have g1:(k:Int) < (M:Int):=by omega
    have g2:(0:Int)≤(q:Int):=by omega
    have g3:(q:Int) < 4096:=by omega
    clear hR HR HW HW2 d1 d2
    go_wp2
    refine wp_region_goes (S:=fun W=>W.cell? ⟨bb,q,none⟩=some (.bool false)) [] (by kernel_rfl) ?_
    refine Goes.take (i:=0) (v:=.pointer (some ⟨bb,0,none⟩)) rfl (by kernel_rfl) (by kernel_rfl) (by kernel_rfl) (by kernel_rfl) (fun _ _ _ h=>h) (Or.inl ⟨by rfl,fun W hW=>by go_simp⟩) HS0.out ?_
    refine Goes.take (i:=1) (v:=.pointer (some ⟨nb,0,none⟩)) rfl (by kernel_rfl) (by kernel_rfl) (by kernel_rfl) (by kernel_rfl) (fun _ _ _ h=>h) (Or.inl ⟨by rfl,fun W hW=>by go_simp⟩) HS0.out ?_
    refine Goes.take (i:=2) (v:=.int .i64 k) rfl (by kernel_rfl) (by kernel_rfl) (by kernel_rfl) (by kernel_rfl) (fun _ _ _ h=>h) (Or.inl ⟨by rfl,fun W hW=>by go_simp⟩) HS0.out ?_
    refine Goes.take (i:=4) (v:=.pointer (some ⟨bb,0,none⟩)) rfl (by kernel_rfl) (by kernel_rfl) (by kernel_rfl) (by kernel_rfl) (fun _ _ _ h=>h) (Or.inl ⟨by rfl,fun W hW=>by go_simp⟩) HS0.out ?_
    refine Goes.ready (rs:=[3]) (by kernel_rfl) (by simp) ?_
    refine AllGo.cons rfl (fun K' hK=>?_) AllGo.nil
    go_simp
    go_at_call 152
    refine HRR.out.mono ?_
    rintro e w4 ⟨rfl,hs4,HB4⟩
    have HS4:=Lib.hid hs4
    clear HRR hs4
    refine hK.out _ _ (fun _=>HS4.out) ?_
    clear hK K'
    refine Goes.ready (rs:=[5]) (by kernel_rfl) (by simp) ?_
    refine AllGo.cons rfl (fun K' hK=>?_) AllGo.nil
    go_simp
    refine hK.out _ _ (fun _=>HS4.out) ?_
    clear hK K'
    refine Goes.ready (rs:=[6]) (by kernel_rfl) (by simp) ?_
    refine AllGo.cons rfl (fun K' hK=>?_) AllGo.nil
    have x1:=HS4.out
    go_simp
    clear x1
    refine hK.out _ _ (fun _=>HS4.out) ?_
    clear hK K'
    refine Goes.ready (rs:=[7]) (by kernel_rfl) (by simp) ?_
    refine AllGo.cons rfl (fun K' hK=>?_) AllGo.nil
    go_simp
    refine hK.out _ _ (fun _=>HS4.out) ?_
    clear hK K'
    refine Goes.done (by kernel_rfl) ?_ _
    clear HS0 HS4 HQ
    have HB5:=Lib.hid (HB4.out w4 (Below.refl _ _))
    clear HB4
    go_wp2_with fail
    refine HB5.out.mono ?_
    rintro e w5 ⟨yb,rfl,HWK⟩
    clear HB5
    go_wp2_with fail
    refine HWK.out.mono ?_
    rintro e w6 ⟨rfl,HG6⟩
    clear HWK
    go_wp2
    go_roundw
    case rel=>exact ⟨k+1,by omega,by go_num,HG6⟩
    case measure=>simp [intOf];omega
   ·obtain rfl:k=M:=by omega
    clear HR HW2 d1 d2
    go_wp2
    go_end0
    exact ⟨rfl,HW.out⟩
end
section
variable {J:List RawOp→Prop} {B:Nat} {c:Ac} {h:Hd} {G:Nat→List UInt8} {bb ab tb r:Nat} {V:List Vn→(Nat→Prop)→World→Prop}
theorem walk_allPages (hV:VisK V) (hC:VisCPages V ab):∀ {L:Nat} {t:Tr L} {n0:NO} {X S:Nat→Prop} {acc:List Vn} {P:List Nat} {w:World},WkI J B c h G bb V X S acc P w→TreeAt w tb c.a r→¬ X tb→NodeO X w n0→(n0.page=t.page∧n0.level=L∧n0.ens=t.ens)→Tidy t→Rep (Laid h G) t→(P++t.pages).Nodup→acc.length+t.vis.length≤4096 →
  Calls Tryz.prog 127 #[.pointer (some ⟨tb,0,none⟩),n0.ptr,.pointer (some ⟨bb,0,none⟩),fvPages ab] w fun e w'=>e=.returned (.tuple #[])∧WkGoPages J B c h G bb V X w (acc++t.vis) (P++t.pages) w'
 | 0,t,n0,X,S,acc,P,w,I,ht,htX,hn,his,htd,hR,hnd,hfew=>by
  rw [vis_leaf] at hfew ⊢
  have:=walk_stepPages (av:=fun _=>acc++[(t.page,0,t.ens.length)]) (pv:=fun _=>P++[t.page]) hV hC (fun h0=>absurd h0 (by rw [his.2.1];omega)) I ht htX hn (by rw [his.2.2];exact htd.2.1) (by simp at hfew;omega) (by rw [his.1,his.2.1,his.2.2]) (by rw [his.1])
  exact this
 | L+1,t,n0,X,S,acc,P,w,I,ht,htX,hn,his,htd,hR,hnd,hfew=>by
  have htk:=(loose_node.1 htd.1).1
  have hlen:n0.ens.length=t.ks.length:=by rw [his.2.2,ens_node,List.length_map]
  have hstep:=walk_stepPages (av:=fun i=>(acc++[(t.page,L+1,t.ens.length)])++visK (t.ks.take i)) (pv:=fun i=>(P++[t.page])++pgK (t.ks.take i)) hV hC (fun _=>?_) I ht htX hn (by rw [his.2.2];exact htd.2.1) (by rw [vis_node] at hfew;simp at hfew;omega) (by rw [his.1,his.2.1,his.2.2];simp [visK]) (by rw [his.1];simp [pgK])
  ·rw [if_neg (by rw [his.2.1];omega),hlen,List.take_length,List.append_assoc,List.append_assoc,List.singleton_append,List.singleton_append,← vis_node,← pages_node] at hstep
   exact hstep
  ·intro i e X' S' W he I' ht' htX' hn'
   have hi:i < t.ks.length:=by
    have:=(List.getElem?_eq_some_iff.1 he).1
    rw [his.2.2,ens_node,List.length_map] at this;exact this
   obtain ⟨y,hy⟩:∃ y,y=t.ks[i]:=⟨_,rfl⟩
   have hek:e=kEn y:=by
    rw [his.2.2,ens_node,List.getElem?_map,List.getElem?_eq_getElem hi,← hy] at he
    exact (Option.some.inj he).symm
   subst hek
   have hym:y ∈ t.ks:=by rw [hy];exact List.getElem_mem _
   have hty:=htk.2 y hym
   obtain ⟨q1,q2,q3⟩:=(hR.kid y hym).at_
   have hp:=I'.act.has_lt q1
   have hc:(kEn y).child=y.2.page:=kEn_child y (by omega)
   have hsplit:t.ks=t.ks.take i++([y]++t.ks.drop (i+1)):=by
    rw [hy,List.singleton_append,← List.drop_eq_getElem_cons hi,List.take_append_drop]
   have htake:t.ks.take (i+1)=t.ks.take i++[y]:=by rw [hy];exact List.take_succ_eq_append_getElem hi
   have hnd2:(((P++[t.page])++pgK (t.ks.take i))++y.2.pages).Nodup:=by
    have h1:P++t.pages=(((P++[t.page])++pgK (t.ks.take i))++y.2.pages)++pgK (t.ks.drop (i+1)):=by
     rw [pages_node]
     conv=>lhs;rw [hsplit]
     rw [pgK_app,pgK_app,pgK_one]
     simp
    rw [h1,List.nodup_append] at hnd
    exact hnd.1
   have hfew2:((acc++[(t.page,L+1,t.ens.length)])++visK (t.ks.take i)).length+y.2.vis.length≤4096:=by
    have h1:acc++t.vis=(((acc++[(t.page,L+1,t.ens.length)])++visK (t.ks.take i))++y.2.vis)++visK (t.ks.drop (i+1)):=by
     rw [vis_node]
     conv=>lhs;rw [hsplit]
     rw [visK_app,visK_app,visK_one]
     simp
    have h2:=congrArg List.length h1
    rw [List.length_append,List.length_append,List.length_append] at h2
    omega
   refine ⟨rfl,by rw [hc];exact hp.2,fun hm=>?_,?_⟩
   ·rw [hc] at hm
    exact (List.nodup_append.1 hnd2).2.2 _ hm _ (page_mem y.2) rfl
   ·refine (below_ok I'.act ht' _ n0 hn'.1 (fun hs=>hn'.2.1 (I'.sub _ hs)) i (kEn y) he rfl L y.2.ens his.2.1 (by rw [hc];exact q1) (by rw [hc];exact q2) q3).mono ?_
    rintro e w5 ⟨yn,S5,rfl,hL⟩
    obtain ⟨I5,hT5⟩:=I'.acted hV hL.act hL.turn
    refine ⟨yn.blk,rfl,?_⟩
    refine (walk_allPages hV hC I5 (ht'.kept hL.turn.1 (fun hs=>htX' (I'.sub _ hs))) (hT5.not ht'.lt htX') (hL.nodeX I'.lt) ⟨hL.info.1.trans hc,hL.info.2.1,hL.info.2.2.1⟩ hty (hR.kid y hym) hnd2 hfew2).mono ?_
    rintro e w6 ⟨rfl,X6,S6,I6,hT6⟩
    refine ⟨rfl,X6,S6,?_,hT5.trans hT6⟩
    dsimp only
    rw [htake,visK_app,visK_one,pgK_app,pgK_one,← List.append_assoc,← List.append_assoc]
    exact I6
end
end Go.Proofs.YtfbbjiidccbaiaaGreatDoor
