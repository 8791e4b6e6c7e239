/- Texts of one proof, one behind the other: YE, YD, YF, YI, YR, YS, YT, YU, WS. -/
import Derived.Test.YtfbbjiidccbaiaaGreatDoorMAR
import Derived.Test.YtfbbjiidccbaiaaGreatDoorMAP
import Derived.Test.YtfbbjiidccbaiaaGreatDoorMAA
import Derived.Lib.AppendZeros
import Derived.Test.YtfbbjiidccbaiaaGreatDoorMAD
import Derived.Test.YtfbbjiidccbaiaaGreatDoorMAC
set_option maxRecDepth 100000
namespace Go.Proofs.YtfbbjiidccbaiaaGreatDoor
open Go.RowKit
def VLen (nb:Nat) (acc:List Vn) (Z:Nat→Prop) (w:World):Prop:=w.heap[nb]? = some (.cells #[.int .i64 (cntV acc)] 3 (0,0))∧cntV acc≤512*acc.length∧1≤nb∧Z=fun k=>k=nb
theorem vlen_k (nb:Nat):VisK (VLen nb):=by
 refine ⟨fun {acc Z T w w'} h hk hT=>?_,fun {acc Z w} h k hz=>?_⟩
 ·obtain ⟨h1,h2,h3,rfl⟩:=h
  have hlt:nb < w.heap.size:=(Array.getElem?_eq_some_iff.1 h1).1
  exact ⟨(hk.block nb hlt (fun ht=>hT nb hlt ht rfl)).trans h1,h2,h3,rfl⟩
 ·obtain ⟨h1,h2,h3,rfl⟩:=h
  obtain rfl:k=nb:=hz
  exact ⟨h3,(Array.getElem?_eq_some_iff.1 h1).1⟩
set_option maxHeartbeats 1600000 in
theorem vlen_c (nb:Nat) (acc:List Vn) (Z X:Nat→Prop) (w:World) (n:NO) (hv:VLen nb acc Z w) (hn:NodeAt X w n) (hf:acc.length≤4095) :
  Calls Tryz.prog 87 #[n.ptr,.pointer (some ⟨nb,0,none⟩)] w fun e w'=>e=.returned (.tuple #[])∧∃ Z',VLen nb (acc++[(n.page,n.level,n.ens.length)]) Z' w'∧Turn Z w Z' w':=by
 obtain ⟨h1,h2,h3,rfl⟩:=hv
 have c1:=hn.c1
 have c2:=hn.c2
 have h512:=hn.short.1
 have d0:w.cell? ⟨nb,0,none⟩=some (.int .i64 (cntV acc)):=by rw [Lib.cell_of_heap h1];rfl
 have d1:w.frozen? ⟨nb,0,none⟩=false:=by simp [World.frozen?,h1]
 have hcv:=cntV_snoc acc (n.page,n.level,n.ens.length)
 have hlen:(acc++[(n.page,n.level,n.ens.length)]).length=acc.length+1:=by simp
 by_cases hl:n.level=0
 ·have HE:Hid (∃ Z',VLen nb (acc++[(n.page,n.level,n.ens.length)]) Z' (w.setCell ⟨nb,0,none⟩ (.int .i64 ((cntV acc:Int)+(n.ens.length:Int)))).drew∧Turn (fun k=>k=nb) w Z' (w.setCell ⟨nb,0,none⟩ (.int .i64 ((cntV acc:Int)+(n.ens.length:Int)))).drew):=Lib.hid (by
   have hcv':cntV (acc++[(n.page,n.level,n.ens.length)])=cntV acc+n.ens.length:=by rw [hcv];exact congrArg _ (if_pos hl)
   have hset:=heap_set (i:=0) h1 (.int .i64 ((cntV acc:Int)+(n.ens.length:Int)))
   refine ⟨_,⟨?_,?_,h3,rfl⟩,?_⟩
   ·show (w.setCell ⟨nb,0,none⟩ _).heap[nb]? = _
    rw [hset,hcv'];rfl
   ·rw [hcv',hlen];omega
   ·exact ⟨(Kept.setCell (fun k=>k=nb) w (b:=nb) (i:=0) rfl _).trans (Kept.ofBelow (S:=fun k=>k=nb) (Below.refl _ _).drew) (fun _ e=>.inl e),fun _ _ h=>h⟩)
  obtain ⟨N,hN⟩:∃ N,N=n.ens.length:=⟨_,rfl⟩
  obtain ⟨m,hm⟩:∃ m,m=cntV acc:=⟨_,rfl⟩
  rw [hl] at c1
  rw [← hN] at c2 h512
  rw [← hm] at d0 h2
  rw [← hN,← hm] at HE
  rw [← hN]
  have f1:IntKind.i64.wrap ((m:Int)+(N:Int))=(m:Int)+(N:Int):=IntWalk.i64_in _ (by omega)
  unfold NO.ptr
  obtain ⟨xb,hxb⟩:∃ xb,xb=n.blk:=⟨_,rfl⟩
  rw [← hxb] at c1 c2 ⊢
  clear h1 hn hcv hlen hl hN hm hxb
  rw [show ((0:Nat):Int)=0 from rfl] at c1
  go_enter Tryz.func87,Tryz.ntmps87
  go_wp2
  go_still_tail 7,(by kernel_rfl)
  go_wp2
  go_end0
  exact ⟨rfl,HE.out⟩
 ·have f0:¬ ((n.level:Nat):Int)=0:=by omega
  have hcv':cntV (acc++[(n.page,n.level,n.ens.length)])=cntV acc:=by rw [hcv];exact congrArg _ (if_neg hl)
  have HE:Hid (∃ Z',VLen nb (acc++[(n.page,n.level,n.ens.length)]) Z' w∧Turn (fun k=>k=nb) w Z' w):=Lib.hid ⟨_,⟨by rw [h1,hcv'],by rw [hcv',hlen];omega,h3,rfl⟩,Turn.refl _ _⟩
  unfold NO.ptr
  obtain ⟨xb,hxb⟩:∃ xb,xb=n.blk:=⟨_,rfl⟩
  rw [← hxb] at c1 c2 ⊢
  clear h1 hn hcv hlen hl hxb hcv'
  go_enter Tryz.func87,Tryz.ntmps87
  go_wp2
  go_end0
  exact ⟨rfl,HE.out⟩
def pgC (acc:List Vn):List Value:=acc.map fun x=>.int .i64 x.1
def VPages (lb:Nat) (acc:List Vn) (Z:Nat→Prop) (w:World):Prop:=∃ v:Value,w.heap[lb]? = some (.cells #[v] 57 (0,0))∧w.ownsRow 0 3 1 v acc.length (pgC acc)∧(∀ g,v.ownBlock=some g→g≠lb∧1≤g)∧1≤lb∧Z=fun k=>k=lb∨v.ownBlock=some k
theorem vpages_k (lb:Nat):VisK (VPages lb):=by
 refine ⟨fun {acc Z T w w'} h hk hT=>?_,fun {acc Z w} h k hz=>?_⟩
 ·obtain ⟨v,h1,h2,h3,h4,rfl⟩:=h
  have hlt:lb < w.heap.size:=(Array.getElem?_eq_some_iff.1 h1).1
  refine ⟨v,(hk.block lb hlt (fun ht=>hT lb hlt ht (.inl rfl))).trans h1,ownsRow_of_block h2 fun k hk'=>hk.block k (h2.lt k hk').2 (fun ht=>hT k (h2.lt k hk').2 ht (.inr hk')),h3,h4,rfl⟩
 ·obtain ⟨v,h1,h2,h3,h4,rfl⟩:=h
  rcases hz with rfl | hz
  ·exact ⟨h4,(Array.getElem?_eq_some_iff.1 h1).1⟩
  ·exact ⟨(h3 k hz).2,(h2.lt k hz).2⟩
theorem infoIntY:(Tryz.prog.info? 3).map (fun i=>(i.zero,i.size,i.bytes))=some (some (.int .i64 0),1,8):=by kernel_rfl
theorem vpages_step {lb:Nat} {acc:List Vn} {Z X:Nat→Prop} {w:World} {n:NO} (hv:VPages lb acc Z w) (hn:NodeAt X w n) (hf:acc.length≤4095) :
  ∃ v,w.cell? ⟨lb,0,none⟩=some v∧∃ v2 w2,(∃ a2 n2 c2,v2=.slice a2 n2 c2)∧(Builtin.append_ #[57,57] 57 #[v,.slice (some ⟨w.heap.size,0,none⟩) 1 1]).run Tryz.prog (w.alloc (.cells #[.int .i64 n.page] 3)).drew=.ok v2 w2∧(w2.cell? ⟨lb,0,none⟩=some v∧w2.cell? ⟨n.blk,0,none⟩=some (.int .i64 n.page))∧w2.frozen? ⟨lb,0,none⟩=false∧lb < w2.heap.size ∧
   ∃ Z',VPages lb (acc++[(n.page,n.level,n.ens.length)]) Z' (w2.setCell ⟨lb,0,none⟩ v2)∧Turn Z w Z' (w2.setCell ⟨lb,0,none⟩ v2):=by
 obtain ⟨v,h1,h2,h3,h4,rfl⟩:=hv
 have hlt:lb < w.heap.size:=(Array.getElem?_eq_some_iff.1 h1).1
 obtain ⟨i0,hi,q0,q1,q2⟩:=info_parts infoIntY
 obtain ⟨wa,hwa⟩:∃ wa,wa=(w.alloc (.cells #[.int .i64 n.page] 3)).drew:=⟨_,rfl⟩
 have hba:Below w.heap.size w wa:=by rw [hwa];exact ((Below.refl _ w).alloc (Nat.le_refl _) _).drew
 have hz:wa.heap.size=w.heap.size+1:=by rw [hwa];show (w.alloc _).heap.size=_;simp
 have hnew:wa.heap[w.heap.size]? = some (.cells #[.int .i64 n.page] 3 (0,0)):=by rw [hwa];exact heap_alloc_new w _
 have h2a:wa.ownsRow 0 3 1 v acc.length (pgC acc):=ownsRow_of_block h2 fun k hk'=>hba.block k (h2.lt k hk').2
 obtain ⟨v2,w2,hr,h5,h6⟩:=append_own2 wa 57 57 3 i0 (.int .i64 0) 1 8 Tryz.underlying57 hi q0 q1 q2 rfl (by decide) v acc.length (pgC acc) h2a ⟨w.heap.size,0,none⟩ 1 1 [.int .i64 n.page] rfl (fun j u hu=>by
  rw [add_lit',Nat.zero_add,Lib.cell_of_heap hnew,← hu]
  exact List.getElem?_toArray) (fun u hu=>by rw [List.mem_singleton] at hu;subst hu;rfl) (by unfold maxLen;omega) (by omega) (by omega)
 have hva:¬ v.ownBlock=some lb:=fun e=>(h3 lb e).1 rfl
 have hlb2:w2.heap[lb]? = some (.cells #[v] 57 (0,0)):=((h6.1.block lb (by omega) (fun e=>hva e.symm)).trans (hba.block lb hlt)).trans h1
 have hset:=heap_set (i:=0) hlb2 v2
 have hvn:¬ v.ownBlock=some n.blk:=fun e=>by
  rcases h2.2 with ⟨rfl,_⟩ | ⟨g,cap,cur,rfl,_,hg,_⟩
  ·simp [Value.ownBlock] at e
  ·injection e with e
   have e':g=n.blk:=e
   subst e'
   rw [hn.blk] at hg
   injection hg with hg
   injection hg with _ h9 _
   exact absurd h9 (by decide)
 have hnb2:w2.cell? ⟨n.blk,0,none⟩=some (.int .i64 n.page):=by
  rw [World.cell?_of_block ((h6.1.block n.blk (by have:=hn.lt;omega) (fun e=>hvn e.symm)).trans (hba.block n.blk hn.lt))]
  exact hn.c0
 have hne2:∀ g,v2.ownBlock=some g→g≠lb∧1≤g:=fun g hg=>(h6.2 g hg).elim (h3 g) (fun e=>⟨by omega,by omega⟩)
 refine ⟨v,by rw [Lib.cell_of_heap h1];rfl,v2,w2,(by rcases h5.2 with ⟨e,_⟩ | ⟨g,cap,cur,e,_⟩ <;> exact ⟨_,_,_,e⟩),by rw [← hwa];exact hr,⟨by rw [Lib.cell_of_heap hlb2];rfl,hnb2⟩,by simp [World.frozen?,hlb2],(Array.getElem?_eq_some_iff.1 hlb2).1,_,⟨v2,hset,?_,hne2,h4,rfl⟩,?_,fun k hk hz'=>?_⟩
 ·have h7:w2.ownsRow 0 3 1 v2 (acc++[(n.page,n.level,n.ens.length)]).length (pgC (acc++[(n.page,n.level,n.ens.length)])):=by
   rw [List.length_append,pgC,List.map_append]
   exact h5
  exact ownsRow_of_block h7 fun k hk'=>Below.heap_setCell _ _ _ _ (fun e=>(hne2 k hk').1 e)
 ·have k1:Kept (fun k=>k=lb∨v.ownBlock=some k) w w2:=(Kept.ofBelow (S:=fun k=>k=lb∨v.ownBlock=some k) hba).trans (⟨h6.1.os,h6.1.tape,h6.1.output,h6.1.size,fun k hk hn=>h6.1.block k hk (fun e=>hn (.inr e.symm))⟩:Kept (fun k=>k=lb∨v.ownBlock=some k) wa w2) (fun _ e=>.inl e)
  exact k1.trans (Kept.setCell (fun k=>k=lb) _ (b:=lb) (i:=0) rfl v2) (fun k e=>.inl (.inl e))
 ·rcases hz' with e | e
  ·exact .inl e
  ·exact (h6.2 k e).elim .inr (fun e=>by omega)
set_option maxHeartbeats 1600000 in
theorem vpages_c (lb:Nat) (acc:List Vn) (Z X:Nat→Prop) (w:World) (n:NO) (hv:VPages lb acc Z w) (hn:NodeAt X w n) (hf:acc.length≤4095) :
  Calls Tryz.prog 88 #[n.ptr,.pointer (some ⟨lb,0,none⟩)] w fun e w'=>e=.returned (.tuple #[])∧∃ Z',VPages lb (acc++[(n.page,n.level,n.ens.length)]) Z' w'∧Turn Z w Z' w':=by
 obtain ⟨v,d0,v2,w2,⟨a2,n2,c2,rfl⟩,hr,⟨hu,hu2⟩,hfz,hlt,hE⟩:=vpages_step hv hn hf
 have c0:=hn.c0
 have HE:=Lib.hid hE
 have HR:=Lib.hid hr
 obtain ⟨q,hq⟩:∃ q,q=n.page:=⟨_,rfl⟩
 rw [← hq] at c0 HR hu2
 unfold NO.ptr
 obtain ⟨xb,hxb⟩:∃ xb,xb=n.blk:=⟨_,rfl⟩
 rw [← hxb] at c0 hu2 ⊢
 have HS2:Hid (w2.cell? ⟨lb,0,none⟩=some v∧w2.cell? ⟨xb,0,none⟩=some (.int .i64 q)):=Lib.hid ⟨hu,hu2⟩
 have HQ:Hid (∀ W:World,(W.cell? ⟨lb,0,none⟩=some v∧W.cell? ⟨xb,0,none⟩=some (.int .i64 q))→W.cell? ⟨lb,0,none⟩=some v∧W.cell? ⟨xb,0,none⟩=some (.int .i64 q)):=Lib.hid fun _ h=>h
 have HS0:Hid (w.drew.cell? ⟨lb,0,none⟩=some v∧w.drew.cell? ⟨xb,0,none⟩=some (.int .i64 q)):=Lib.hid ⟨d0,c0⟩
 have HS1:Hid ((w.alloc (.cells #[.int .i64 q] 3)).drew.cell? ⟨lb,0,none⟩=some v∧(w.alloc (.cells #[.int .i64 q] 3)).drew.cell? ⟨xb,0,none⟩=some (.int .i64 q)):=Lib.hid (by
  have hba:Below w.heap.size w (w.alloc (.cells #[.int .i64 q] 3)).drew:=((Below.refl _ w).alloc (Nat.le_refl _) _).drew
  exact ⟨(hba.cell (p:=⟨lb,0,none⟩) (World.block_lt_of_cell? w _ d0)).trans d0,(hba.cell (p:=⟨xb,0,none⟩) (World.block_lt_of_cell? w _ c0)).trans c0⟩)
 clear hv hn hE hr hq hxb d0 c0
 go_enter Tryz.func88,Tryz.ntmps88
 go_wp2
 refine wp_region_goes (S:=fun W=>W.cell? ⟨lb,0,none⟩=some v∧W.cell? ⟨xb,0,none⟩=some (.int .i64 q)) [7] (by kernel_rfl) ?_
 refine Goes.take (i:=0) (v:=v) rfl (by kernel_rfl) (by kernel_rfl) (by kernel_rfl) (by kernel_rfl) (fun _ _ _ h=>h) (Or.inl ⟨by rfl,fun W hW=>by have x1:=(HQ.out W hW).1;clear hW;go_simp⟩) HS0.out ?_
 refine Goes.take (i:=1) (v:=.pointer (some ⟨xb,0,none⟩)) rfl (by kernel_rfl) (by kernel_rfl) (by kernel_rfl) (by kernel_rfl) (fun _ _ _ h=>h) (Or.inl ⟨by rfl,fun W hW=>by go_simp⟩) HS0.out ?_
 refine Goes.take (i:=2) (v:=.pointer (some ⟨xb,0,none⟩)) rfl (by kernel_rfl) (by kernel_rfl) (by kernel_rfl) (by kernel_rfl) (fun _ _ _ h=>h) (Or.inl ⟨by rfl,fun W hW=>by go_simp⟩) HS0.out ?_
 refine Goes.take (i:=3) (v:=.pointer (some ⟨xb,0,none⟩)) rfl (by kernel_rfl) (by kernel_rfl) (by kernel_rfl) (by kernel_rfl) (fun _ _ _ h=>h) (Or.inl ⟨by rfl,fun W hW=>by go_simp⟩) HS0.out ?_
 refine Goes.take (i:=4) (v:=.int .i64 q) rfl (by kernel_rfl) (by kernel_rfl) (by kernel_rfl) (by kernel_rfl) (fun _ _ _ h=>h) (Or.inl ⟨by rfl,fun W hW=>by have x1:=(HQ.out W hW).2;clear hW;go_simp⟩) HS0.out ?_
 refine Goes.ready (rs:=[5]) (by kernel_rfl) (by simp) ?_
 refine AllGo.cons rfl (fun K' hK=>?_) AllGo.nil
 go_simp
 refine hK.out _ _ (fun _=>HS1.out) ?_
 clear hK K'
 refine Goes.ready (rs:=[6]) (by kernel_rfl) (by simp) ?_
 refine AllGo.cons rfl (fun K' hK=>?_) AllGo.nil
 rw [if_pos (by rfl)]
 refine Lib.wp_append_run _ (.tmp 3) (.tmp 8) 57 57 rfl _ _ rfl rfl _ _ HR.out ?_
 refine hK.out _ _ (fun _=>HS2.out) ?_
 clear hK K'
 refine Goes.ready (rs:=[7]) (by kernel_rfl) (by simp) ?_
 refine AllGo.cons rfl (fun K' hK=>?_) AllGo.nil
 go_simp
 refine hK.out _ _ (fun h=>absurd h (by decide)) ?_
 clear hK K'
 refine Goes.done (by kernel_rfl) ?_ _
 go_wp2
 go_end0
 exact ⟨rfl,HE.out⟩
section
variable {J:List RawOp→Prop} {B:Nat} {c:Ac} {h:Hd} {G:Nat→List UInt8} {bb ab tb r:Nat} {V:List Vn→(Nat→Prop)→World→Prop} {X S:Nat→Prop} {acc:List Vn} {P:List Nat} {w wr:World} {n0:NO} {av:Nat→List Vn} {pv:Nat→List Nat}
def VisCLen (V:List Vn→(Nat→Prop)→World→Prop) (ab:Nat):Prop :=
 ∀ (acc:List Vn) (Z X:Nat→Prop) (w:World) (n:NO),V acc Z w→NodeAt X w n→acc.length≤4095→Calls Tryz.prog 87 #[n.ptr,.pointer (some ⟨ab,0,none⟩)] w fun e w'=>e=.returned (.tuple #[])∧∃ Z',V (acc++[(n.page,n.level,n.ens.length)]) Z' w'∧Turn Z w Z' w'
def fvLen (ab:Nat):Value:=.func (.func 87) #[] #[.pointer (some ⟨ab,0,none⟩)]
def WkRecLen (J:List RawOp→Prop) (B:Nat) (c:Ac) (h:Hd) (G:Nat→List UInt8) (bb ab tb r:Nat) (V:List Vn→(Nat→Prop)→World→Prop) (n0:NO) (av:Nat→List Vn) (pv:Nat→List Nat):Prop :=
 ∀ (i:Nat) (e:En) (X S:Nat→Prop) (W:World),n0.ens[i]? = some e→WkI J B c h G bb V X S (av i) (pv i) W→TreeAt W tb c.a r→¬ X tb→NodeO X W n0→e.val.length=2∧e.child < 4096∧e.child ∉ pv i ∧
  Calls Tryz.prog 114 #[.pointer (some ⟨tb,0,none⟩),n0.ptr,.int .i64 i] W fun e w5=>∃ yb:Nat,e=.returned (.pointer (some ⟨yb,0,none⟩))∧Calls Tryz.prog 127 #[.pointer (some ⟨tb,0,none⟩),.pointer (some ⟨yb,0,none⟩),.pointer (some ⟨bb,0,none⟩),fvLen ab] w5 fun e w6=>e=.returned (.tuple #[])∧∃ X' S',WkI J B c h G bb V X' S' (av (i+1)) (pv (i+1)) w6∧Turn X W X' w6
def WkGoLen (J:List RawOp→Prop) (B:Nat) (c:Ac) (h:Hd) (G:Nat→List UInt8) (bb:Nat) (V:List Vn→(Nat→Prop)→World→Prop) (X:Nat→Prop) (w:World) (al:List Vn) (pl:List Nat) (wr:World):Prop:=∃ X' S',WkI J B c h G bb V X' S' al pl wr∧Turn X w X' wr
def WkRoundLen (J:List RawOp→Prop) (B:Nat) (c:Ac) (h:Hd) (G:Nat→List UInt8) (bb ab tb:Nat) (V:List Vn→(Nat→Prop)→World→Prop) (X:Nat→Prop) (w:World) (nb:Nat) (av:Nat→List Vn) (pv:Nat→List Nat) (k q:Nat) (wr:World):Prop :=
 Calls Tryz.prog 152 #[.pointer (some ⟨nb,0,none⟩),.int .i64 k] wr.drew fun e w4=>e=.returned (.int .i64 q)∧w4.cell? ⟨bb,q,none⟩=some (.bool false) ∧
  Hid (∀ W,Below w4.heap.size w4 W→Calls Tryz.prog 114 #[.pointer (some ⟨tb,0,none⟩),.pointer (some ⟨nb,0,none⟩),.int .i64 k] W fun e w5=>∃ yb:Nat,e=.returned (.pointer (some ⟨yb,0,none⟩)) ∧
   Hid (Calls Tryz.prog 127 #[.pointer (some ⟨tb,0,none⟩),.pointer (some ⟨yb,0,none⟩),.pointer (some ⟨bb,0,none⟩),.func (.func 87) #[] #[.pointer (some ⟨ab,0,none⟩)]] w5 fun e w6=>e=.returned (.tuple #[])∧Hid (WkGoLen J B c h G bb V X w (av (k+1)) (pv (k+1)) w6)))
theorem wk_roundLen (hV:VisK V) (hrec:WkRecLen J B c h G bb ab tb r V n0 av pv) (ht:TreeAt w tb c.a r) (htX:¬ X tb) (hn:NodeO X w n0) {k:Nat} (hk:k < n0.ens.length) (H:WkGoLen J B c h G bb V X w (av k) (pv k) wr) :
  ∃ q,q < 4096∧wr.drew.cell? ⟨bb,q,none⟩=some (.bool false)∧WkRoundLen J B c h G bb ab tb V X w n0.blk av pv k q wr:=by
 obtain ⟨X',S',I,hT⟩:=H
 have he:n0.ens[k]? = some n0.ens[k]:=List.getElem?_eq_getElem hk
 have hn':=hn.turn hT
 have ht':=ht.kept hT.1 htX
 have htX':=hT.not ht.lt htX
 obtain ⟨e1,e2,e3,_⟩:=hrec k _ X' S' wr he I ht' htX' hn'
 refine ⟨n0.ens[k].child,e2,by rw [(I.below hV (Below.refl wr.heap.size wr).drew).been.1.cell e2];simp [e3],?_⟩
 have hbd:Below wr.heap.size wr wr.drew:=(Below.refl _ _).drew
 refine (child_any _ n0 k n0.ens[k] wr.drew (hn'.below hbd).1 he e1).mono ?_
 rintro e w4 ⟨rfl,m,rfl⟩
 have hb4:Below wr.heap.size wr (wr.drew.drewN m):=hbd.trans ((below_drewN wr.drew m).mono hbd.size)
 refine ⟨rfl,?_,Lib.hid fun W hb=>?_⟩
 ·rw [(I.below hV hb4).been.1.cell e2]
  simp [e3]
 ·have hbW:Below wr.heap.size wr W:=hb4.trans (hb.mono hb4.size)
  obtain ⟨_,_,_,hB⟩:=hrec k _ X' S' W he (I.below hV hbW) (ht'.below hbW) htX' (hn'.below hbW)
  refine hB.mono ?_
  rintro e w5 ⟨yb,rfl,hW⟩
  refine ⟨yb,rfl,Lib.hid (Calls.mono hW ?_)⟩
  rintro e w6 ⟨rfl,X2,S2,I2,hT2⟩
  exact ⟨rfl,Lib.hid ⟨X2,S2,I2,(hT.trans (Turn.ofBelow hbW)).trans hT2⟩⟩
set_option maxHeartbeats 6400000 in
theorem walk_stepLen (hV:VisK V) (hC:VisCLen V ab) (hrec:0 < n0.level→WkRecLen J B c h G bb ab tb r V n0 av pv) (I:WkI J B c h G bb V X S acc P w) (ht:TreeAt w tb c.a r) (htX:¬ X tb) (hn:NodeO X w n0) (hne:n0.ens≠[]) (hfew:acc.length≤4095) (hav:av 0=acc++[(n0.page,n0.level,n0.ens.length)]) (hpv:pv 0=P++[n0.page]) :
  Calls Tryz.prog 127 #[.pointer (some ⟨tb,0,none⟩),n0.ptr,.pointer (some ⟨bb,0,none⟩),fvLen ab] w fun e w'=>e=.returned (.tuple #[])∧WkGoLen J B c h G bb V X w (av (if n0.level=0 then 0 else n0.ens.length)) (pv (if n0.level=0 then 0 else n0.ens.length)) w':=by
 have hpg:=hn.1.small.1
 have hb0:=I.been.1.cell hpg
 have hfz:=I.been.1.free n0.page
 have hbl:=I.been.1.lt
 obtain ⟨oldv,hov⟩:∃ v,v=Value.bool (decide (n0.page ∈ P)):=⟨_,rfl⟩
 rw [← hov] at hb0
 obtain ⟨I1,hT1⟩:=I.mark hV hpg
 have HVIS:Hid (∀ W,Below (w.setCell ⟨bb,n0.page,none⟩ (.bool true)).heap.size (w.setCell ⟨bb,n0.page,none⟩ (.bool true)) W→Calls Tryz.prog 87 #[n0.ptr,.pointer (some ⟨ab,0,none⟩)] W fun e w2=>e=.returned (.tuple #[])∧w2.cell? ⟨n0.blk,1,none⟩=some (.int .i64 n0.level)∧w2.cell? ⟨n0.blk,2,none⟩=some (.slice n0.arr n0.ens.length n0.cap)∧Hid (WkGoLen J B c h G bb V X w (av 0) (pv 0) w2)):=Lib.hid fun W hb=>by
  have I2:=I1.below hV hb
  have hT2:=hT1.trans (Turn.ofBelow hb)
  have hn2:=hn.turn hT2
  obtain ⟨Z,v1,v2⟩:=I2.vis
  refine (hC acc Z _ W n0 v1 hn2.1 hfew).mono ?_
  rintro e w2 ⟨rfl,Z',v3,v4⟩
  have hx:∃ X',WkI J B c h G bb V X' S (acc++[(n0.page,n0.level,n0.ens.length)]) (P++[n0.page]) w2∧Turn X W X' w2:=by
   have hz:=v4.1.size
   obtain ⟨b1,b2,b3,b4⟩:=I2.been
   have hlo:=I2.act.low
   have hnew:∀ k,Z' k→(X k∧¬ S k∧k≠bb)∨W.heap.size≤k:=fun k hk=>by
    rcases Nat.lt_or_ge k W.heap.size with hl | hg
    ·exact .inl (v2 k (v4.2 k hl hk))
    ·exact .inr hg
   refine ⟨fun k=>X k∨Z' k,⟨I2.act.kept v4.1 (fun k hk _=>⟨(v2 k hk).2.1,(hV.lt v1 k hk).1⟩),fun k hs=>.inl (I2.sub k hs),fun k hk=>hk.elim (fun hx=>Nat.lt_of_lt_of_le (I2.lt k hx) hz) (fun hz'=>(hV.lt v3 k hz').2),⟨b1.kept v4.1 (fun hz'=>(v2 bb hz').2.2 rfl),.inl b2,b3,b4⟩,Z',v3,fun k hk=>?_⟩,v4.1.mono (fun k hk=>(v2 k hk).1),fun k hl hk=>hk.elim id fun hk=>(v2 k (v4.2 k hl hk)).1⟩
   rcases hnew k hk with ⟨_,e2,e3⟩ | hg
   ·exact ⟨.inr hk,e2,e3⟩
   ·exact ⟨.inr hk,fun hs=>by have:=(hlo k hs).2;omega,fun e=>by have:=I2.lt bb b2;omega⟩
  obtain ⟨X',I3,hT3⟩:=hx
  have hn3:=hn2.turn hT3
  exact ⟨rfl,hn3.1.c1,hn3.1.c2,Lib.hid ⟨X',S,by rw [hav,hpv];exact I3,hT2.trans hT3⟩⟩
 have HRD:Hid (0 < n0.level→∀ (k:Nat) (wr:World),k < n0.ens.length→WkGoLen J B c h G bb V X w (av k) (pv k) wr→∃ q,q < 4096∧wr.drew.cell? ⟨bb,q,none⟩=some (.bool false)∧WkRoundLen J B c h G bb ab tb V X w n0.blk av pv k q wr):=Lib.hid fun h0 k wr hk H=>wk_roundLen hV (hrec h0) ht htX hn hk H
 have hlen:1≤n0.ens.length:=List.length_pos_iff.2 hne
 have h512:=hn.1.short.1
 have c0:=hn.1.c0
 have c1:=hn.1.c1
 have c2:=hn.1.c2
 have HV:=Lib.hid hV
 clear hC hrec I ht htX hn hne hfew hav hpv I1 hT1 hov hV
 unfold NO.ptr at HVIS ⊢
 unfold fvLen
 obtain ⟨nb,hnb⟩:∃ nb,nb=n0.blk:=⟨_,rfl⟩
 obtain ⟨N,hN⟩:∃ N,N=n0.ens.length:=⟨_,rfl⟩
 obtain ⟨ar,har⟩:∃ ar,ar=n0.arr:=⟨_,rfl⟩
 obtain ⟨cp,hcp⟩:∃ cp,cp=n0.cap:=⟨_,rfl⟩
 obtain ⟨q0,hq0⟩:∃ q0,q0=n0.page:=⟨_,rfl⟩
 obtain ⟨Lv,hLv⟩:∃ Lv,Lv=n0.level:=⟨_,rfl⟩
 rw [← hnb,← hN,← har,← hcp,← hq0,← hLv] at HVIS
 rw [← hnb,← hN,← hLv] at HRD
 rw [← hnb] at c0 c1 c2 ⊢
 rw [← hN] at hlen h512 c2 ⊢
 rw [← har,← hcp] at c2
 rw [← hq0] at c0 hpg hb0 hfz
 rw [← hLv] at c1 ⊢
 clear hnb hN har hcp hq0 hLv
 obtain ⟨M,hM⟩:∃ M,M=if Lv=0 then 0 else N:=⟨_,rfl⟩
 rw [← hM]
 have HM:=Lib.hid hM
 clear hM
 have f1:¬ ((N:Int)=0):=by omega
 have f2:(0:Int)≤(q0:Int):=by omega
 have f3:(q0:Int) < 4096:=by omega
 go_enter Tryz.func127,Tryz.ntmps127
 go_wp2_with fail
 go_still_tail 7,(by kernel_rfl)
 go_wp2_with fail
 refine (HVIS.out _ (Below.refl _ _).drew).mono ?_
 rintro e w2 ⟨rfl,d1,d2,HW2⟩
 clear HVIS c0 c1 c2 hb0 hfz
 by_cases hl:Lv=0
 ·subst hl
  obtain rfl:M=0:=by rw [HM.out];rfl
  rw [show ((0:Nat):Int)=0 from rfl] at d1
  clear HRD
  go_wp2
  exact bodyPost_ret (v:=.tuple #[]) (by simp [results,Tryz.results127,go_sem]) rfl ⟨rfl,HW2.out⟩
 ·have f4:¬ ((Lv:Int)=0):=by omega
  have f5:((Lv:Int) == 0)=false:=by simp;omega
  obtain rfl:M=N:=by rw [HM.out,if_neg hl]
  have HR:=Lib.hid (HRD.out (by omega))
  clear HRD hl
  go_wp2
  go_loopw [35] (fun i wr=>∃ k:Nat,k≤M∧i=.int .i64 k∧Hid (WkGoLen J B c h G bb V X w (av k) (pv k) wr)) (fun i _=>M - (intOf i).toNat)
  case atStart=>exact ⟨0,by omega,rfl,HW2⟩
  case round =>
   obtain ⟨k,hk,rfl,HW⟩:=hrel
   by_cases hkn:k < M
   ·obtain ⟨q,hq,hs0,hR⟩:=HR.out k wr hkn HW.out
    have HRR:=Lib.hid hR
    have HS0:=Lib.hid hs0
    have HQ:Hid (∀ W:World,W.cell? ⟨bb,q,none⟩=some (.bool false)→W.cell? ⟨bb,q,none⟩=some (.bool false)):=Lib.hid fun _ h=>h
    clear hs0
    have g1:(k:Int) < (M:Int):=by omega
    have g2:(0:Int)≤(q:Int):=by omega
    have g3:(q:Int) < 4096:=by omega
    clear hR HR HW HW2 d1 d2
    go_wp2
    refine wp_region_goes (S:=fun W=>W.cell? ⟨bb,q,none⟩=some (.bool false)) [] (by kernel_rfl) ?_
    refine Goes.take (i:=0) (v:=.pointer (some ⟨bb,0,none⟩)) rfl (by kernel_rfl) (by kernel_rfl) (by kernel_rfl) (by kernel_rfl) (fun _ _ _ h=>h) (Or.inl ⟨by rfl,fun W hW=>by go_simp⟩) HS0.out ?_
    refine Goes.take (i:=1) (v:=.pointer (some ⟨nb,0,none⟩)) rfl (by kernel_rfl) (by kernel_rfl) (by kernel_rfl) (by kernel_rfl) (fun _ _ _ h=>h) (Or.inl ⟨by rfl,fun W hW=>by go_simp⟩) HS0.out ?_
    refine Goes.take (i:=2) (v:=.int .i64 k) rfl (by kernel_rfl) (by kernel_rfl) (by kernel_rfl) (by kernel_rfl) (fun _ _ _ h=>h) (Or.inl ⟨by rfl,fun W hW=>by go_simp⟩) HS0.out ?_
    refine Goes.take (i:=4) (v:=.pointer (some ⟨bb,0,none⟩)) rfl (by kernel_rfl) (by kernel_rfl) (by kernel_rfl) (by kernel_rfl) (fun _ _ _ h=>h) (Or.inl ⟨by rfl,fun W hW=>by go_simp⟩) HS0.out ?_
    refine Goes.ready (rs:=[3]) (by kernel_rfl) (by simp) ?_
    refine AllGo.cons rfl (fun K' hK=>?_) AllGo.nil
    go_simp
    go_at_call 152
    refine HRR.out.mono ?_
    rintro e w4 ⟨rfl,hs4,HB4⟩
    have HS4:=Lib.hid hs4
    clear HRR hs4
    refine hK.out _ _ (fun _=>HS4.out) ?_
    clear hK K'
    refine Goes.ready (rs:=[5]) (by kernel_rfl) (by simp) ?_
    refine AllGo.cons rfl (fun K' hK=>?_) AllGo.nil
    go_simp
    refine hK.out _ _ (fun _=>HS4.out) ?_
    clear hK K'
    refine Goes.ready (rs:=[6]) (by kernel_rfl) (by simp) ?_
    refine AllGo.cons rfl (fun K' hK=>?_) AllGo.nil
    have x1:=HS4.out
    go_simp
    clear x1
    refine hK.out _ _ (fun _=>HS4.out) ?_
    clear hK K'
    refine Goes.ready (rs:=[7]) (by kernel_rfl) (by simp) ?_
    refine AllGo.cons rfl (fun K' hK=>?_) AllGo.nil
    go_simp
    refine hK.out _ _ (fun _=>HS4.out) ?_
    clear hK K'
    refine Goes.done (by kernel_rfl) ?_ _
    clear HS0 HS4 HQ
    have HB5:=Lib.hid (HB4.out w4 (Below.refl _ _))
    clear HB4
    go_wp2_with fail
    refine HB5.out.mono ?_
    rintro e w5 ⟨yb,rfl,HWK⟩
    clear HB5
    go_wp2_with fail
    refine HWK.out.mono ?_
    rintro e w6 ⟨rfl,HG6⟩
    clear HWK
    go_wp2
    go_roundw
    case rel=>exact ⟨k+1,by omega,by go_num,HG6⟩
    case measure=>simp [intOf];omega
   ·obtain rfl:k=M:=by omega
    clear HR HW2 d1 d2
    go_wp2
    go_end0
    exact ⟨rfl,HW.out⟩
end
section
variable {J:List RawOp→Prop} {B:Nat} {c:Ac} {h:Hd} {G:Nat→List UInt8} {bb ab tb r:Nat} {V:List Vn→(Nat→Prop)→World→Prop}
theorem walk_allLen (hV:VisK V) (hC:VisCLen V ab):∀ {L:Nat} {t:Tr L} {n0:NO} {X S:Nat→Prop} {acc:List Vn} {P:List Nat} {w:World},WkI J B c h G bb V X S acc P w→TreeAt w tb c.a r→¬ X tb→NodeO X w n0→(n0.page=t.page∧n0.level=L∧n0.ens=t.ens)→Tidy t→Rep (Laid h G) t→(P++t.pages).Nodup→acc.length+t.vis.length≤4096 →
  Calls Tryz.prog 127 #[.pointer (some ⟨tb,0,none⟩),n0.ptr,.pointer (some ⟨bb,0,none⟩),fvLen ab] w fun e w'=>e=.returned (.tuple #[])∧WkGoLen J B c h G bb V X w (acc++t.vis) (P++t.pages) w'
 | 0,t,n0,X,S,acc,P,w,I,ht,htX,hn,his,htd,hR,hnd,hfew=>by
  rw [vis_leaf] at hfew ⊢
  have:=walk_stepLen (av:=fun _=>acc++[(t.page,0,t.ens.length)]) (pv:=fun _=>P++[t.page]) hV hC (fun h0=>absurd h0 (by rw [his.2.1];omega)) I ht htX hn (by rw [his.2.2];exact htd.2.1) (by simp at hfew;omega) (by rw [his.1,his.2.1,his.2.2]) (by rw [his.1])
  exact this
 | L+1,t,n0,X,S,acc,P,w,I,ht,htX,hn,his,htd,hR,hnd,hfew=>by
  have htk:=(loose_node.1 htd.1).1
  have hlen:n0.ens.length=t.ks.length:=by rw [his.2.2,ens_node,List.length_map]
  have hstep:=walk_stepLen (av:=fun i=>(acc++[(t.page,L+1,t.ens.length)])++visK (t.ks.take i)) (pv:=fun i=>(P++[t.page])++pgK (t.ks.take i)) hV hC (fun _=>?_) I ht htX hn (by rw [his.2.2];exact htd.2.1) (by rw [vis_node] at hfew;simp at hfew;omega) (by rw [his.1,his.2.1,his.2.2];simp [visK]) (by rw [his.1];simp [pgK])
  ·rw [if_neg (by rw [his.2.1];omega),hlen,List.take_length,List.append_assoc,List.append_assoc,List.singleton_append,List.singleton_append,← vis_node,← pages_node] at hstep
   exact hstep
  ·intro i e X' S' W he I' ht' htX' hn'
   have hi:i < t.ks.length:=by
    have:=(List.getElem?_eq_some_iff.1 he).1
    rw [his.2.2,ens_node,List.length_map] at this;exact this
   obtain ⟨y,hy⟩:∃ y,y=t.ks[i]:=⟨_,rfl⟩
   have hek:e=kEn y:=by
    rw [his.2.2,ens_node,List.getElem?_map,List.getElem?_eq_getElem hi,← hy] at he
    exact (Option.some.inj he).symm
   subst hek
   have hym:y ∈ t.ks:=by rw [hy];exact List.getElem_mem _
   have hty:=htk.2 y hym
   obtain ⟨q1,q2,q3⟩:=(hR.kid y hym).at_
   have hp:=I'.act.has_lt q1
   have hc:(kEn y).child=y.2.page:=kEn_child y (by omega)
   have hsplit:t.ks=t.ks.take i++([y]++t.ks.drop (i+1)):=by
    rw [hy,List.singleton_append,← List.drop_eq_getElem_cons hi,List.take_append_drop]
   have htake:t.ks.take (i+1)=t.ks.take i++[y]:=by rw [hy];exact List.take_succ_eq_append_getElem hi
   have hnd2:(((P++[t.page])++pgK (t.ks.take i))++y.2.pages).Nodup:=by
    have h1:P++t.pages=(((P++[t.page])++pgK (t.ks.take i))++y.2.pages)++pgK (t.ks.drop (i+1)):=by
     rw [pages_node]
     conv=>lhs;rw [hsplit]
     rw [pgK_app,pgK_app,pgK_one]
     simp
    rw [h1,List.nodup_append] at hnd
    exact hnd.1
   have hfew2:((acc++[(t.page,L+1,t.ens.length)])++visK (t.ks.take i)).length+y.2.vis.length≤4096:=by
    have h1:acc++t.vis=(((acc++[(t.page,L+1,t.ens.length)])++visK (t.ks.take i))++y.2.vis)++visK (t.ks.drop (i+1)):=by
     rw [vis_node]
     conv=>lhs;rw [hsplit]
     rw [visK_app,visK_app,visK_one]
     simp
    have h2:=congrArg List.length h1
    rw [List.length_append,List.length_append,List.length_append] at h2
    omega
   refine ⟨rfl,by rw [hc];exact hp.2,fun hm=>?_,?_⟩
   ·rw [hc] at hm
    exact (List.nodup_append.1 hnd2).2.2 _ hm _ (page_mem y.2) rfl
   ·refine (below_ok I'.act ht' _ n0 hn'.1 (fun hs=>hn'.2.1 (I'.sub _ hs)) i (kEn y) he rfl L y.2.ens his.2.1 (by rw [hc];exact q1) (by rw [hc];exact q2) q3).mono ?_
    rintro e w5 ⟨yn,S5,rfl,hL⟩
    obtain ⟨I5,hT5⟩:=I'.acted hV hL.act hL.turn
    refine ⟨yn.blk,rfl,?_⟩
    refine (walk_allLen hV hC I5 (ht'.kept hL.turn.1 (fun hs=>htX' (I'.sub _ hs))) (hT5.not ht'.lt htX') (hL.nodeX I'.lt) ⟨hL.info.1.trans hc,hL.info.2.1,hL.info.2.2.1⟩ hty (hR.kid y hym) hnd2 hfew2).mono ?_
    rintro e w6 ⟨rfl,X6,S6,I6,hT6⟩
    refine ⟨rfl,X6,S6,?_,hT5.trans hT6⟩
    dsimp only
    rw [htake,visK_app,visK_one,pgK_app,pgK_one,← List.append_assoc,← List.append_assoc]
    exact I6
end
theorem built_seen:Tryz.prog.built 197 []=some (Array.replicate 4096 (.bool false)):=by kernel_rfl
theorem been_new (w:World):Been w.heap.size [] (w.alloc (.cells (Array.replicate 4096 (.bool false)) 197)) :=
 ⟨_,heap_alloc_new w _,fun q hq=>by simp [hq]⟩
section
variable {J:List RawOp→Prop} {B:Nat} {S:Nat→Prop} {c:Ac} {h:Hd} {G:Nat→List UInt8} {w:World} {tb r ab:Nat} {F:List En} {ps:List Nat} {V:List Vn→(Nat→Prop)→World→Prop}
theorem walk_noneLen {X:Nat→Prop} {n0:NO} {W:World} {bv tv fv:Value} (hn:NodeAt X W n0) (he:n0.ens=[]):Calls Tryz.prog 127 #[tv,n0.ptr,bv,fv] W fun e w'=>e=.returned (.tuple #[])∧w'=W:=by
 have c2:=hn.c2
 rw [he] at c2
 have c2':W.cell? ⟨n0.blk,2,none⟩=some (.slice n0.arr 0 n0.cap):=c2
 unfold NO.ptr
 clear hn he c2
 go_enter Tryz.func127,Tryz.ntmps127
 go_wp2
 exact bodyPost_ret (v:=.tuple #[]) (by simp [results,Tryz.results127,go_sem]) rfl ⟨rfl,rfl⟩
def EachToLen (J:List RawOp→Prop) (B:Nat) (S:Nat→Prop) (c:Ac) (h:Hd) (G:Nat→List UInt8) (ab:Nat) (F:List En) (ps:List Nat) (V:List Vn→(Nat→Prop)→World→Prop) (w w':World):Prop :=
 ∃ (X' S':Nat→Prop) (acc:List Vn) (Z':Nat→Prop),ActV J B S' c h G w'∧Turn (fun k=>S k∨k=ab) w X' w'∧(∀ k,S' k→X' k)∧V acc Z' w'∧(∀ k,Z' k→X' k∧¬ S' k)∧acc.map (·.1)=ps∧cntV acc=F.length
set_option maxHeartbeats 3200000 in
theorem each_okLen (hV:VisK V) (hC:VisCLen V ab) (x:ActV J B S c h G w) (ht:TreeAt w tb c.a r) (htS:¬ S tb) (htab:tb≠ab) (hr16:r < 16) (on:TreeOn h G (h.root r) F ps) (hv:V [] (fun k=>k=ab) w) (hab:¬ S ab) :
  Calls Tryz.prog 86 #[.pointer (some ⟨tb,0,none⟩),fvLen ab] w fun e w'=>e=.returned (.tuple #[])∧EachToLen J B S c h G ab F ps V w w':=by
 have HTOP:=Lib.hid (top_ok x ht hr16)
 have hab1:=hV.lt hv ab rfl
 have hlow:=x.low
 have HLD:Hid (∀ k,Calls Tryz.prog 75 #[.pointer (some ⟨tb,0,none⟩),.int .i64 (h.root r)] (w.drewN k) fun e w2=>∃ yb:Nat,e=.returned (.pointer (some ⟨yb,0,none⟩))∧Hid (Calls Tryz.prog 127 #[.pointer (some ⟨tb,0,none⟩),.pointer (some ⟨yb,0,none⟩),.pointer (some ⟨w2.heap.size,0,none⟩),.func (.func 87) #[] #[.pointer (some ⟨ab,0,none⟩)]] (w2.alloc (.cells (Array.replicate 4096 (.bool false)) 197)) fun e w3=>e=.returned (.tuple #[])∧Hid (EachToLen J B S c h G ab F ps V w w3))):=Lib.hid fun k=>by
  have hbk:Below w.heap.size w (w.drewN k):=below_drewN w k
  have xk:=x.below hbk
  have htk:=ht.below hbk
  rcases on.is with ⟨rfl,h0,rfl⟩ | ⟨m,t,hr,ho,rfl,hpg,rfl,hrep⟩
  ·rw [h0]
   refine (load_zero xk htk).mono ?_
   rintro e w2 ⟨rfl,rfl⟩
   refine ⟨_,rfl,Lib.hid ?_⟩
   obtain ⟨w2,hw2⟩:∃ w2,w2=(w.drewN k).alloc (.cells (tempNO (w.drewN k).heap.size 0).cells 138):=⟨_,rfl⟩
   rw [← hw2]
   have hn:NodeAt (fun _=>True) w2 (tempNO (w.drewN k).heap.size 0):=by rw [hw2];exact temp_at _ 0 (by omega) _ trivial
   have hb2:Below w.heap.size w w2:=by rw [hw2];exact hbk.trans (((Below.refl _ _).alloc (Nat.le_refl _) _).mono hbk.size)
   have hb3:Below w2.heap.size w2 (w2.alloc (.cells (Array.replicate 4096 (.bool false)) 197)):=(Below.refl _ _).alloc (Nat.le_refl _) _
   have hb:Below w.heap.size w (w2.alloc (.cells (Array.replicate 4096 (.bool false)) 197)):=hb2.trans (hb3.mono hb2.size)
   refine (walk_noneLen (hn.below hb3) rfl).mono ?_
   rintro e w3 ⟨rfl,rfl⟩
   refine ⟨rfl,Lib.hid ⟨fun k=>S k∨k=ab,S,[],fun k=>k=ab,x.below hb,Turn.ofBelow hb,fun k hk=>.inl hk,hV.kept hv (Kept.ofBelow (S:=fun _=>False) hb) (fun _ _ h=>h.elim),fun k e=>⟨.inr e,e ▸ hab⟩,rfl,rfl⟩⟩
  ·obtain ⟨q1,q2,q3⟩:=hrep.at_
   rw [← hpg]
   refine (load_ok xk htk t.page m t.ens q1 q2 q3).mono ?_
   rintro e w2 ⟨y,S2,rfl,hL⟩
   refine ⟨y.blk,rfl,Lib.hid ?_⟩
   obtain ⟨w3,hw3⟩:∃ w3,w3=w2.alloc (.cells (Array.replicate 4096 (.bool false)) 197):=⟨_,rfl⟩
   have hbe:Been w2.heap.size [] w3:=by rw [hw3];exact been_new w2
   have hb3:Below w2.heap.size w2 w3:=by rw [hw3];exact (Below.refl _ _).alloc (Nat.le_refl _) _
   rw [← hw3]
   have hT2:Turn S w S2 w2:=(Turn.ofBelow hbk).trans hL.turn
   have hz2:=hT2.1.size
   have hlow2:=hL.act.low
   have hab2:¬ S2 ab:=hT2.not hab1.2 hab
   have hv2:V [] (fun k=>k=ab) w2:=hV.kept hv hT2.1 (fun k _ hs e=>hab (e ▸ hs))
   have hX:∀ k,(k=ab∨S2 k)→k < w2.heap.size:=fun k hk=>hk.elim (fun e=>by omega) (fun hs=>(hlow2 k hs).2)
   have hnX:NodeO (fun k=>k=ab∨S2 k) w2 y:=by
    have:=hL.nodeX (X:=fun k=>k=ab) (fun j e=>by show j < w.heap.size;omega)
    exact this
   have hT3:Turn (fun k=>k=ab∨S2 k) w2 (fun k=>(k=ab∨S2 k)∨k=w2.heap.size) w3:=⟨Kept.ofBelow hb3,fun k hk hx=>hx.elim id (fun e=>by omega)⟩
   have hz3:w3.heap.size=w2.heap.size+1:=by rw [hw3];simp
   have I:WkI J B c h G w2.heap.size V (fun k=>(k=ab∨S2 k)∨k=w2.heap.size) S2 [] [] w3:=⟨hL.act.below hb3,fun k hk=>.inl (.inr hk),fun k hk=>hk.elim (fun hk=>by have:=hX k hk;omega) (fun e=>by omega),⟨hbe,.inr rfl,fun hs=>by have:=(hlow2 _ hs).2;omega,by omega⟩,fun k=>k=ab,hV.kept hv2 (Kept.ofBelow (S:=fun _=>False) hb3) (fun _ _ h=>h.elim),fun k e=>⟨.inl (.inl e),e ▸ hab2,by omega⟩⟩
   have htb:tb < w2.heap.size:=Nat.lt_of_lt_of_le htk.lt hL.turn.1.size
   have ht3:TreeAt w3 tb c.a r:=(htk.kept hL.turn.1 htS).below hb3
   have hfew:t.vis.length≤4096:=by
    have h1:t.vis.length=t.pages.length:=by rw [← vis_pages,List.length_map]
    have h2:t.pages.length≤4096:=by
     have:=List.Nodup.length_le_of_subset (l₁:=t.pages) (l₂:=List.range 4096) on.nodup (fun q hq=>List.mem_range.2 (x.has_lt (on.has q hq)).2)
     simpa using this
    omega
   refine (walk_allLen hV hC I ht3 (fun hx=>?_) (hnX.turn hT3) ⟨hL.info.1,hL.info.2.1,hL.info.2.2.1⟩ hr.1 hrep (by simpa using on.nodup) (by simpa using hfew)).mono ?_
   ·rcases hx with (e | hs) | e
    ·exact htab e
    ·exact hL.turn.not htk.lt htS hs
    ·omega
   ·rintro e w4 ⟨rfl,X4,S4,I4,hT4⟩
    obtain ⟨Z4,v1,v2⟩:=I4.vis
    refine ⟨rfl,Lib.hid ⟨X4,S4,[]++t.vis,Z4,I4.act,?_,I4.sub,v1,fun k hk=>⟨(v2 k hk).1,(v2 k hk).2.1⟩,by simpa using vis_pages,by simpa using vis_count t⟩⟩
    refine ⟨(hT2.1.trans (Kept.ofBelow (S:=fun k=>S k) hb3) (fun _ e=>.inl e)).mono (fun k hk=>.inl hk) |>.trans hT4.1 (fun k hk=>?_),fun k hl hk=>?_⟩
    ·rcases hk with (e | hs) | e
     ·exact .inl (.inr e)
     ·rcases Nat.lt_or_ge k w.heap.size with h1 | h1
      ·exact .inl (.inl (hT2.2 k h1 hs))
      ·exact .inr h1
     ·exact .inr (by omega)
    ·rcases hT4.2 k (by omega) hk with (e | hs) | e
     ·exact .inr e
     ·exact .inl (hT2.2 k hl hs)
     ·omega
 obtain ⟨rt,hrt⟩:∃ rt,rt=h.root r:=⟨_,rfl⟩
 rw [← hrt] at HTOP HLD
 obtain ⟨Z,hZd⟩:∃ Z:Array Value,Z=Array.replicate 4096 (.bool false):=⟨_,rfl⟩
 have hbt:=built_seen
 rw [← hZd] at HLD hbt
 have HBT:=Lib.hid hbt
 unfold fvLen
 clear x ht htS on hrt hv hab hab1 hlow hV hC htab hZd hbt
 go_enter Tryz.func86,Tryz.ntmps86
 go_wp2_with fail
 refine HTOP.out.mono ?_
 rintro e w1 ⟨rfl,k,rfl⟩
 clear HTOP
 have HL:=Lib.hid (HLD.out k)
 clear HLD
 go_wp2_with fail
 refine HL.out.mono ?_
 rintro e w2 ⟨yb,rfl,HWK⟩
 clear HL
 go_wp2_with (refine wpList_val rfl (.agg Z) (exec_build rfl [] (by simp [go_sem]) Z HBT.out _) ?_)
 clear HBT
 refine HWK.out.mono ?_
 rintro e w3 ⟨rfl,HE⟩
 clear HWK
 go_wp2
 go_end0
 exact ⟨rfl,HE.out⟩
end
section
variable {J:List RawOp→Prop} {B:Nat} {S:Nat→Prop} {c:Ac} {h:Hd} {G:Nat→List UInt8} {w:World} {tb r ab:Nat} {F:List En} {ps:List Nat} {V:List Vn→(Nat→Prop)→World→Prop}
theorem walk_nonePages {X:Nat→Prop} {n0:NO} {W:World} {bv tv fv:Value} (hn:NodeAt X W n0) (he:n0.ens=[]):Calls Tryz.prog 127 #[tv,n0.ptr,bv,fv] W fun e w'=>e=.returned (.tuple #[])∧w'=W:=by
 have c2:=hn.c2
 rw [he] at c2
 have c2':W.cell? ⟨n0.blk,2,none⟩=some (.slice n0.arr 0 n0.cap):=c2
 unfold NO.ptr
 clear hn he c2
 go_enter Tryz.func127,Tryz.ntmps127
 go_wp2
 exact bodyPost_ret (v:=.tuple #[]) (by simp [results,Tryz.results127,go_sem]) rfl ⟨rfl,rfl⟩
def EachToPages (J:List RawOp→Prop) (B:Nat) (S:Nat→Prop) (c:Ac) (h:Hd) (G:Nat→List UInt8) (ab:Nat) (F:List En) (ps:List Nat) (V:List Vn→(Nat→Prop)→World→Prop) (w w':World):Prop :=
 ∃ (X' S':Nat→Prop) (acc:List Vn) (Z':Nat→Prop),ActV J B S' c h G w'∧Turn (fun k=>S k∨k=ab) w X' w'∧(∀ k,S' k→X' k)∧V acc Z' w'∧(∀ k,Z' k→X' k∧¬ S' k)∧acc.map (·.1)=ps∧cntV acc=F.length
set_option maxHeartbeats 3200000 in
theorem each_okPages (hV:VisK V) (hC:VisCPages V ab) (x:ActV J B S c h G w) (ht:TreeAt w tb c.a r) (htS:¬ S tb) (htab:tb≠ab) (hr16:r < 16) (on:TreeOn h G (h.root r) F ps) (hv:V [] (fun k=>k=ab) w) (hab:¬ S ab) :
  Calls Tryz.prog 86 #[.pointer (some ⟨tb,0,none⟩),fvPages ab] w fun e w'=>e=.returned (.tuple #[])∧EachToPages J B S c h G ab F ps V w w':=by
 have HTOP:=Lib.hid (top_ok x ht hr16)
 have hab1:=hV.lt hv ab rfl
 have hlow:=x.low
 have HLD:Hid (∀ k,Calls Tryz.prog 75 #[.pointer (some ⟨tb,0,none⟩),.int .i64 (h.root r)] (w.drewN k) fun e w2=>∃ yb:Nat,e=.returned (.pointer (some ⟨yb,0,none⟩))∧Hid (Calls Tryz.prog 127 #[.pointer (some ⟨tb,0,none⟩),.pointer (some ⟨yb,0,none⟩),.pointer (some ⟨w2.heap.size,0,none⟩),.func (.func 88) #[] #[.pointer (some ⟨ab,0,none⟩)]] (w2.alloc (.cells (Array.replicate 4096 (.bool false)) 197)) fun e w3=>e=.returned (.tuple #[])∧Hid (EachToPages J B S c h G ab F ps V w w3))):=Lib.hid fun k=>by
  have hbk:Below w.heap.size w (w.drewN k):=below_drewN w k
  have xk:=x.below hbk
  have htk:=ht.below hbk
  rcases on.is with ⟨rfl,h0,rfl⟩ | ⟨m,t,hr,ho,rfl,hpg,rfl,hrep⟩
  ·rw [h0]
   refine (load_zero xk htk).mono ?_
   rintro e w2 ⟨rfl,rfl⟩
   refine ⟨_,rfl,Lib.hid ?_⟩
   obtain ⟨w2,hw2⟩:∃ w2,w2=(w.drewN k).alloc (.cells (tempNO (w.drewN k).heap.size 0).cells 138):=⟨_,rfl⟩
   rw [← hw2]
   have hn:NodeAt (fun _=>True) w2 (tempNO (w.drewN k).heap.size 0):=by rw [hw2];exact temp_at _ 0 (by omega) _ trivial
   have hb2:Below w.heap.size w w2:=by rw [hw2];exact hbk.trans (((Below.refl _ _).alloc (Nat.le_refl _) _).mono hbk.size)
   have hb3:Below w2.heap.size w2 (w2.alloc (.cells (Array.replicate 4096 (.bool false)) 197)):=(Below.refl _ _).alloc (Nat.le_refl _) _
   have hb:Below w.heap.size w (w2.alloc (.cells (Array.replicate 4096 (.bool false)) 197)):=hb2.trans (hb3.mono hb2.size)
   refine (walk_nonePages (hn.below hb3) rfl).mono ?_
   rintro e w3 ⟨rfl,rfl⟩
   refine ⟨rfl,Lib.hid ⟨fun k=>S k∨k=ab,S,[],fun k=>k=ab,x.below hb,Turn.ofBelow hb,fun k hk=>.inl hk,hV.kept hv (Kept.ofBelow (S:=fun _=>False) hb) (fun _ _ h=>h.elim),fun k e=>⟨.inr e,e ▸ hab⟩,rfl,rfl⟩⟩
  ·obtain ⟨q1,q2,q3⟩:=hrep.at_
   rw [← hpg]
   refine (load_ok xk htk t.page m t.ens q1 q2 q3).mono ?_
   rintro e w2 ⟨y,S2,rfl,hL⟩
   refine ⟨y.blk,rfl,Lib.hid ?_⟩
   obtain ⟨w3,hw3⟩:∃ w3,w3=w2.alloc (.cells (Array.replicate 4096 (.bool false)) 197):=⟨_,rfl⟩
   have hbe:Been w2.heap.size [] w3:=by rw [hw3];exact been_new w2
   have hb3:Below w2.heap.size w2 w3:=by rw [hw3];exact (Below.refl _ _).alloc (Nat.le_refl _) _
   rw [← hw3]
   have hT2:Turn S w S2 w2:=(Turn.ofBelow hbk).trans hL.turn
   have hz2:=hT2.1.size
   have hlow2:=hL.act.low
   have hab2:¬ S2 ab:=hT2.not hab1.2 hab
   have hv2:V [] (fun k=>k=ab) w2:=hV.kept hv hT2.1 (fun k _ hs e=>hab (e ▸ hs))
   have hX:∀ k,(k=ab∨S2 k)→k < w2.heap.size:=fun k hk=>hk.elim (fun e=>by omega) (fun hs=>(hlow2 k hs).2)
   have hnX:NodeO (fun k=>k=ab∨S2 k) w2 y:=by
    have:=hL.nodeX (X:=fun k=>k=ab) (fun j e=>by show j < w.heap.size;omega)
    exact this
   have hT3:Turn (fun k=>k=ab∨S2 k) w2 (fun k=>(k=ab∨S2 k)∨k=w2.heap.size) w3:=⟨Kept.ofBelow hb3,fun k hk hx=>hx.elim id (fun e=>by omega)⟩
   have hz3:w3.heap.size=w2.heap.size+1:=by rw [hw3];simp
   have I:WkI J B c h G w2.heap.size V (fun k=>(k=ab∨S2 k)∨k=w2.heap.size) S2 [] [] w3:=⟨hL.act.below hb3,fun k hk=>.inl (.inr hk),fun k hk=>hk.elim (fun hk=>by have:=hX k hk;omega) (fun e=>by omega),⟨hbe,.inr rfl,fun hs=>by have:=(hlow2 _ hs).2;omega,by omega⟩,fun k=>k=ab,hV.kept hv2 (Kept.ofBelow (S:=fun _=>False) hb3) (fun _ _ h=>h.elim),fun k e=>⟨.inl (.inl e),e ▸ hab2,by omega⟩⟩
   have htb:tb < w2.heap.size:=Nat.lt_of_lt_of_le htk.lt hL.turn.1.size
   have ht3:TreeAt w3 tb c.a r:=(htk.kept hL.turn.1 htS).below hb3
   have hfew:t.vis.length≤4096:=by
    have h1:t.vis.length=t.pages.length:=by rw [← vis_pages,List.length_map]
    have h2:t.pages.length≤4096:=by
     have:=List.Nodup.length_le_of_subset (l₁:=t.pages) (l₂:=List.range 4096) on.nodup (fun q hq=>List.mem_range.2 (x.has_lt (on.has q hq)).2)
     simpa using this
    omega
   refine (walk_allPages hV hC I ht3 (fun hx=>?_) (hnX.turn hT3) ⟨hL.info.1,hL.info.2.1,hL.info.2.2.1⟩ hr.1 hrep (by simpa using on.nodup) (by simpa using hfew)).mono ?_
   ·rcases hx with (e | hs) | e
    ·exact htab e
    ·exact hL.turn.not htk.lt htS hs
    ·omega
   ·rintro e w4 ⟨rfl,X4,S4,I4,hT4⟩
    obtain ⟨Z4,v1,v2⟩:=I4.vis
    refine ⟨rfl,Lib.hid ⟨X4,S4,[]++t.vis,Z4,I4.act,?_,I4.sub,v1,fun k hk=>⟨(v2 k hk).1,(v2 k hk).2.1⟩,by simpa using vis_pages,by simpa using vis_count t⟩⟩
    refine ⟨(hT2.1.trans (Kept.ofBelow (S:=fun k=>S k) hb3) (fun _ e=>.inl e)).mono (fun k hk=>.inl hk) |>.trans hT4.1 (fun k hk=>?_),fun k hl hk=>?_⟩
    ·rcases hk with (e | hs) | e
     ·exact .inl (.inr e)
     ·rcases Nat.lt_or_ge k w.heap.size with h1 | h1
      ·exact .inl (.inl (hT2.2 k h1 hs))
      ·exact .inr h1
     ·exact .inr (by omega)
    ·rcases hT4.2 k (by omega) hk with (e | hs) | e
     ·exact .inr e
     ·exact .inl (hT2.2 k hl hs)
     ·omega
 obtain ⟨rt,hrt⟩:∃ rt,rt=h.root r:=⟨_,rfl⟩
 rw [← hrt] at HTOP HLD
 obtain ⟨Z,hZd⟩:∃ Z:Array Value,Z=Array.replicate 4096 (.bool false):=⟨_,rfl⟩
 have hbt:=built_seen
 rw [← hZd] at HLD hbt
 have HBT:=Lib.hid hbt
 unfold fvPages
 clear x ht htS on hrt hv hab hab1 hlow hV hC htab hZd hbt
 go_enter Tryz.func86,Tryz.ntmps86
 go_wp2_with fail
 refine HTOP.out.mono ?_
 rintro e w1 ⟨rfl,k,rfl⟩
 clear HTOP
 have HL:=Lib.hid (HLD.out k)
 clear HLD
 go_wp2_with fail
 refine HL.out.mono ?_
 rintro e w2 ⟨yb,rfl,HWK⟩
 clear HL
 go_wp2_with (refine wpList_val rfl (.agg Z) (exec_build rfl [] (by simp [go_sem]) Z HBT.out _) ?_)
 clear HBT
 refine HWK.out.mono ?_
 rintro e w3 ⟨rfl,HE⟩
 clear HWK
 go_wp2
 go_end0
 exact ⟨rfl,HE.out⟩
end
section
variable {J:List RawOp→Prop} {B:Nat} {S:Nat→Prop} {c:Ac} {h:Hd} {G:Nat→List UInt8} {w:World} {tb r:Nat} {F:List En} {ps:List Nat}
theorem each_act {S' X':Nat→Prop} {W0 w1:World} (hb:Below w.heap.size w W0) (hT:Turn (fun k=>S k∨k=w.heap.size) W0 X' w1) (hs:∀ k,S' k→X' k) (hA:ActV J B S' c h G w1):ActPost J B S c h G w w1 :=
 ⟨S',⟨(Kept.ofBelow (S:=S) hb).trans hT.1 (fun k hk=>hk.elim .inl fun e=>.inr (by omega)),fun k hl hk=>(hT.2 k (Nat.lt_of_lt_of_le hl hb.size) (hs k hk)).elim id fun e=>by omega⟩,hA⟩
set_option maxHeartbeats 800000 in
theorem tlen_ok (x:ActV J B S c h G w) (ht:TreeAt w tb c.a r) (htS:¬ S tb) (hr16:r < 16) (on:TreeOn h G (h.root r) F ps) :
  Calls Tryz.prog 41 #[.pointer (some ⟨tb,0,none⟩)] w fun e w'=>e=.returned (.int .i64 F.length)∧ActPost J B S c h G w w':=by
 obtain ⟨W0,hW0⟩:∃ W0,W0=w.alloc (.cells #[.int .i64 0] 3):=⟨_,rfl⟩
 have hb0:Below w.heap.size w W0:=by rw [hW0];exact (Below.refl _ _).alloc (Nat.le_refl _) _
 have HEA:Hid (Calls Tryz.prog 86 #[.pointer (some ⟨tb,0,none⟩),.func (.func 87) #[] #[.pointer (some ⟨w.heap.size,0,none⟩)]] W0 fun e w1=>e=.returned (.tuple #[])∧w1.cell? ⟨w.heap.size,0,none⟩=some (.int .i64 F.length)∧Hid (ActPost J B S c h G w w1)):=Lib.hid (by
  have hv:VLen w.heap.size [] (fun k=>k=w.heap.size) W0:=⟨by rw [hW0];exact heap_alloc_new w _,by simp [cntV],x.tab.1.1,rfl⟩
  have hlt:=ht.lt
  refine (each_okLen (vlen_k _) (fun acc Z X W n h1 h2 h3=>vlen_c _ acc Z X W n h1 h2 h3) (x.below hb0) (ht.below hb0) htS (by omega) hr16 on hv (fun hs=>by have:=(x.low _ hs).2;omega)).mono ?_
  rintro e w1 ⟨rfl,X',S',acc,Z',hA,hT,hs,⟨h1,_⟩,_,_,hc⟩
  refine ⟨rfl,?_,Lib.hid (each_act hb0 hT hs hA)⟩
  rw [Lib.cell_of_heap h1,hc];rfl)
 obtain ⟨n,hn⟩:∃ n,n=F.length:=⟨_,rfl⟩
 rw [← hn] at HEA ⊢
 clear x ht htS on hn hb0
 go_enter Tryz.func41,Tryz.ntmps41
 go_wp2_with fail
 rw [← hW0]
 refine HEA.out.mono ?_
 rintro e w1 ⟨rfl,c1,HE⟩
 clear HEA hW0
 go_wp2
 go_ret
 exact ⟨rfl,HE.out⟩
end
section
variable {J:List RawOp→Prop} {B:Nat} {S:Nat→Prop} {c:Ac} {h:Hd} {G:Nat→List UInt8} {w:World} {tb r:Nat} {F:List En} {ps:List Nat}
def PagesTo (J:List RawOp→Prop) (B:Nat) (S:Nat→Prop) (c:Ac) (h:Hd) (G:Nat→List UInt8) (ps:List Nat) (A:Option Addr) (n:Nat) (w w':World):Prop :=
 ∃ (l:List Nat) (S':Nat→Prop),l.Perm ps∧l.length=n∧ActV J B S' c h G w'∧Turn S w S' w'∧∀ (i q:Nat),l[i]? = some q→∃ g,A=some ⟨g,0,none⟩∧w'.cell? ⟨g,i,none⟩=some (.int .i64 q)∧¬ S' g∧g < w'.heap.size
open Go.Sort in
theorem pages_sort {S' X' Z':Nat→Prop} {acc:List Vn} {W0 w1:World} (hb:Below w.heap.size w W0) (hT:Turn (fun k=>S k∨k=w.heap.size) W0 X' w1) (hs:∀ k,S' k→X' k) (hA:ActV J B S' c h G w1) (hv:VPages w.heap.size acc Z' w1) (hZ:∀ k,Z' k→X' k∧¬ S' k) (hps:acc.map (·.1)=ps) (hn:acc.length≤5000) :
  ∃ (A:Option Addr) (n cc:Nat),w1.cell? ⟨w.heap.size,0,none⟩=some (.slice A n cc)∧Calls Tryz.prog 89 #[.slice A n cc] w1 fun e w2=>e=.returned (.tuple #[])∧w2.cell? ⟨w.heap.size,0,none⟩=some (.slice A n cc)∧PagesTo J B S c h G ps A n w w2:=by
 obtain ⟨v,h1,h2,h3,h4,rfl⟩:=hv
 have hc1:w1.cell? ⟨w.heap.size,0,none⟩=some v:=by rw [Lib.cell_of_heap h1];rfl
 obtain ⟨S2,hT2,hA2⟩:ActPost J B S c h G w w1:=each_act hb hT hs hA
 rcases h2.2 with ⟨rfl,h0⟩ | ⟨g,cap,cur,rfl,_,hg,hnc,hcm,hcs,htk⟩
 ·refine ⟨none,0,0,hc1,(Tryz.slices_Sort_int_none none 0 _).mono ?_⟩
  rintro e w2 ⟨rfl,rfl⟩
  obtain rfl:acc=[]:=List.eq_nil_of_length_eq_zero h0
  refine ⟨rfl,hc1,[],S2,by rw [← hps];exact List.Perm.refl _,rfl,hA2,hT2,fun i q hq=>by cases hq⟩
 ·obtain ⟨ks,hks⟩:∃ ks:List Int,ks=acc.map fun x=>(x.1:Int):=⟨_,rfl⟩
  have hpk:pgC acc=asInts ks:=by rw [hks];simp [pgC,asInts]
  have hkl:ks.length=acc.length:=by rw [hks];simp
  have hlt:g < w1.heap.size:=(Array.getElem?_eq_some_iff.1 hg).1
  have htk':cur.toList.take ks.length=asInts ks:=by rw [← hpk,← htk,hkl,Nat.mul_one]
  obtain ⟨so,hso⟩:∃ so,so=ks.mergeSort fun x y=>decide (x≤y):=⟨_,rfl⟩
  have hsl:so.length=ks.length:=by rw [hso];simp
  have hsp:so.Perm ks:=by rw [hso];exact List.mergeSort_perm _ _
  refine ⟨some ⟨g,0,none⟩,acc.length,cap,hc1,?_⟩
  have hsrt:=Tryz.slices_Sort_int g 0 cap ks w1 (holds_ints hg htk') hlt (by omega)
  rw [hkl] at hsrt
  refine hsrt.mono ?_
  rintro e w2 ⟨rfl,nn,os,hw2⟩
  rw [← hso] at hw2
  obtain ⟨s1,s2,s3⟩:=sorted_ints (n:=nn) (os:=os) (l:=so) hg (by omega)
  rw [← hw2] at s1 s2 s3
  have hk2:Kept (fun k=>k=g) w1 w2:=⟨s2.os,s2.tape,s2.output,s2.size,fun k hk hne=>s2.block k hk (fun e=>hne (Option.some.inj e))⟩
  have hgn:=h3 g rfl
  have hgZ:=hZ g (.inr rfl)
  have hlb:w.heap.size < w1.heap.size:=(Array.getElem?_eq_some_iff.1 h1).1
  refine ⟨rfl,?_,so.map Int.toNat,S',?_,by rw [List.length_map];omega,hA.kept hk2 (fun k e _=>⟨e ▸ hgZ.2,by have:=hgn.2;omega⟩),?_,fun i q hq=>?_⟩
  ·rw [World.cell?_of_block (hk2.block w.heap.size hlb (fun e=>hgn.1 e.symm))];exact hc1
  ·have h5:(so.map Int.toNat).Perm (ks.map Int.toNat):=hsp.map _
   have h6:ks.map Int.toNat=ps:=by rw [hks,← hps];simp
   rw [h6] at h5;exact h5
  ·refine ⟨((Kept.ofBelow (S:=S) hb).trans hT.1 (fun k hk=>hk.elim .inl fun e=>.inr (by omega))).trans hk2 (fun k e=>?_),fun k hl hk=>(hT.2 k (Nat.lt_of_lt_of_le hl hb.size) (hs k hk)).elim id fun e=>by omega⟩
   subst e
   rcases Nat.lt_or_ge k w.heap.size with hl | hl
   ·exact .inl ((hT.2 k (Nat.lt_of_lt_of_le hl hb.size) hgZ.1).elim id fun e=>by omega)
   ·exact .inr hl
  ·rw [List.getElem?_map] at hq
   cases hi:so[i]? with
   | none=>rw [hi] at hq;cases hq
   | some z =>
    rw [hi] at hq
    have hq:z.toNat=q:=Option.some.inj hq
    have hz:z ∈ ks:=hsp.mem_iff.1 (List.mem_of_getElem? hi)
    rw [hks] at hz
    obtain ⟨y,_,rfl⟩:=List.mem_map.1 hz
    obtain rfl:y.1=q:=by simpa using hq
    refine ⟨g,rfl,s1 i _ (by simp [asInts,hi]),hgZ.2,Nat.lt_of_lt_of_le hlt hk2.size⟩
set_option maxHeartbeats 800000 in
theorem pages_ok (x:ActV J B S c h G w) (ht:TreeAt w tb c.a r) (htS:¬ S tb) (hr16:r < 16) (on:TreeOn h G (h.root r) F ps) :
  Calls Tryz.prog 42 #[.pointer (some ⟨tb,0,none⟩)] w fun e w'=>∃ (A:Option Addr) (n cc:Nat),e=.returned (.slice A n cc)∧PagesTo J B S c h G ps A n w w':=by
 obtain ⟨W0,hW0⟩:∃ W0,W0=w.alloc (.cells #[.slice none 0 0] 57):=⟨_,rfl⟩
 have hb0:Below w.heap.size w W0:=by rw [hW0];exact (Below.refl _ _).alloc (Nat.le_refl _) _
 have HEA:Hid (Calls Tryz.prog 86 #[.pointer (some ⟨tb,0,none⟩),.func (.func 88) #[] #[.pointer (some ⟨w.heap.size,0,none⟩)]] W0 fun e w1=>e=.returned (.tuple #[])∧∃ (A:Option Addr) (n cc:Nat),w1.cell? ⟨w.heap.size,0,none⟩=some (.slice A n cc)∧Hid (Calls Tryz.prog 89 #[.slice A n cc] w1 fun e w2=>e=.returned (.tuple #[])∧w2.cell? ⟨w.heap.size,0,none⟩=some (.slice A n cc)∧Hid (PagesTo J B S c h G ps A n w w2))):=Lib.hid (by
  have hv:VPages w.heap.size [] (fun k=>k=w.heap.size) W0:=⟨.slice none 0 0,by rw [hW0];exact heap_alloc_new w _,World.ownsRow_nil _ _ _ _,fun g hg=>by simp [Value.ownBlock] at hg,x.tab.1.1,by funext k;simp [Value.ownBlock]⟩
  have hlt:=ht.lt
  refine (each_okPages (vpages_k _) (fun acc Z X W n h1 h2 h3=>vpages_c _ acc Z X W n h1 h2 h3) (x.below hb0) (ht.below hb0) htS (by omega) hr16 on hv (fun hs=>by have:=(x.low _ hs).2;omega)).mono ?_
  rintro e w1 ⟨rfl,X',S',acc,Z',hA,hT,hs,hv',hZ,hps,hc⟩
  have hal:acc.length≤5000:=by
   have h1:acc.length=ps.length:=by rw [← hps,List.length_map]
   have:=List.Nodup.length_le_of_subset (l₁:=ps) (l₂:=List.range 4096) on.nodup (fun q hq=>List.mem_range.2 (x.has_lt (on.has q hq)).2)
   simp at this;omega
  obtain ⟨A,n,cc,h5,h6⟩:=pages_sort hb0 hT hs hA hv' hZ hps hal
  exact ⟨rfl,A,n,cc,h5,Lib.hid (h6.mono fun e w2 ⟨e1,e2,e3⟩=>⟨e1,e2,Lib.hid e3⟩)⟩)
 clear x ht htS on hb0
 go_enter Tryz.func42,Tryz.ntmps42
 go_wp2_with fail
 rw [← hW0]
 refine HEA.out.mono ?_
 rintro e w1 ⟨rfl,A,n,cc,c1,HSO⟩
 clear HEA hW0
 go_wp2_with fail
 refine HSO.out.mono ?_
 rintro e w2 ⟨rfl,c2,HE⟩
 clear HSO c1
 go_wp2
 go_ret
 exact ⟨A,n,cc,rfl,HE.out⟩
end
theorem turn_roots (h:Hd) (q:Nat):(h.turn q).roots=h.roots:=rfl
theorem setRoot_root {h:Hd} (hnr:h.roots.length=16) {r:Nat} (hr16:r < 16) (top:Nat) (j:Nat):(h.setRoot r top).root j=if j=r then top else h.root j:=by
 unfold Hd.root Hd.setRoot
 simp only [List.getD_eq_getElem?_getD,List.getElem?_set]
 by_cases hj:j=r
 ·subst hj;rw [if_pos rfl,if_pos rfl,if_pos (by omega)];rfl
 ·rw [if_neg (Ne.symm hj),if_neg hj]
section
variable {J:List RawOp→Prop} {B:Nat} {S:Nat→Prop} {c:Ac} {h:Hd} {G:Nat→List UInt8} {w wr:World} {tb r:Nat} {F:List En} {ps l:List Nat}
structure DropI (J:List RawOp→Prop) (B:Nat) (S:Nat→Prop) (c:Ac) (h:Hd) (G:Nat→List UInt8) (l:List Nat) (A:Option Addr) (w:World) (i:Nat) (wr:World):Prop where
 st:∃ (hi:Hd) (S':Nat→Prop),ActV J B S' c hi G wr∧Turn S w S' wr∧(∀ q,hi.has q ↔ h.has q∧q ∉ l.take i)∧hi.roots=h.roots ∧
  ∀ (j q:Nat),l[j]? = some q→∃ g,A=some ⟨g,0,none⟩∧wr.cell? ⟨g,j,none⟩=some (.int .i64 q)∧¬ S' g∧g < wr.heap.size
theorem DropI.round {A:Option Addr} {i:Nat} (I:DropI J B S c h G l A w i wr) (hnd:l.Nodup) (hl:∀ q ∈ l,h.has q) (hi:i < l.length) :
  ∃ g q,A=some ⟨g,0,none⟩∧wr.cell? ⟨g,i,none⟩=some (.int .i64 q)∧Calls Tryz.prog 17 #[.pointer (some ⟨c.a,0,none⟩),.int .i64 q] wr fun e w1=>e=.returned (.int .i64 0)∧DropI J B S c h G l A w (i+1) w1:=by
 obtain ⟨hh,S',hA,hT,hhas,hro,hrow⟩:=I.st
 obtain ⟨q,hq⟩:∃ q,q=l[i]:=⟨_,rfl⟩
 have hlq:l[i]? = some q:=by rw [hq];exact List.getElem?_eq_getElem hi
 obtain ⟨g,hg1,hg2,_,_⟩:=hrow i q hlq
 have hqm:q ∈ l:=by rw [hq];exact List.getElem_mem _
 have htk:l.take (i+1)=l.take i++[q]:=by rw [hq];exact List.take_succ_eq_append_getElem hi
 have hqn:q ∉ l.take i:=fun hm=>by
  have h1:(l.take (i+1)).Nodup:=hnd.sublist (List.take_sublist _ _)
  rw [htk,List.nodup_append] at h1
  exact h1.2.2 q hm q (by simp) rfl
 have hqh:hh.has q:=(hhas q).2 ⟨hl q hqm,hqn⟩
 refine ⟨g,q,hg1,hg2,(free_v hA q hqh).mono ?_⟩
 rintro e w1 ⟨rfl,S1,hT1,hA1⟩
 refine ⟨rfl,⟨_,S1,hA1,hT.trans hT1,fun j=>?_,(turn_roots hh q).trans hro,fun j p hj=>?_⟩⟩
 ·rw [has_turn hA.ok hqh,hhas,htk]
  simp only [List.mem_append,List.mem_singleton,not_or,and_assoc]
 ·obtain ⟨g2,a1,a2,a3,a4⟩:=hrow j p hj
  exact ⟨g2,a1,(World.cell?_of_block (hT1.1.block g2 a4 a3)).trans a2,hT1.not a4 a3,Nat.lt_of_lt_of_le a4 hT1.1.size⟩
set_option maxHeartbeats 1600000 in
theorem drop_ok (x:ActV J B S c h G w) (ht:TreeAt w tb c.a r) (htS:¬ S tb) (hr16:r < 16) (on:TreeOn h G (h.root r) F ps) :
  Calls Tryz.prog 43 #[.pointer (some ⟨tb,0,none⟩)] w fun e w'=>e=.returned (.int .i64 0)∧TreePost J B S c h G tb r ps [] w w':=by
 have HTOP:=Lib.hid (top_ok x ht hr16)
 have HPG:Hid (∀ k,Calls Tryz.prog 42 #[.pointer (some ⟨tb,0,none⟩)] (w.drewN k) fun e w2=>∃ (A:Option Addr) (n cc:Nat),e=.returned (.slice A n cc)∧∃ l:List Nat,l.length=n∧n≤5000∧Hid (DropI J B S c h G l A w 0 w2) ∧
   Hid (∀ i wr,DropI J B S c h G l A w i wr→i < n→∃ g q,A=some ⟨g,0,none⟩∧wr.cell? ⟨g,i,none⟩=some (.int .i64 q)∧wr.cell? ⟨tb,1,none⟩=some (.pointer (some ⟨c.a,0,none⟩))∧Hid (Calls Tryz.prog 17 #[.pointer (some ⟨c.a,0,none⟩),.int .i64 q] wr fun e w1=>e=.returned (.int .i64 0)∧Hid (DropI J B S c h G l A w (i+1) w1))) ∧
   Hid (∀ wr,DropI J B S c h G l A w n wr→wr.cell? ⟨tb,1,none⟩=some (.pointer (some ⟨c.a,0,none⟩))∧wr.cell? ⟨tb,2,none⟩=some (.int .i64 r)∧∀ W,Below wr.heap.size wr W→Calls Tryz.prog 18 #[.pointer (some ⟨c.a,0,none⟩),.int .i64 r,.int .i64 0] W fun e w1=>e=.returned (.int .i64 0)∧TreePost J B S c h G tb r ps [] w w1)):=Lib.hid fun k=>by
  have hbk:Below w.heap.size w (w.drewN k):=below_drewN w k
  refine (pages_ok (x.below hbk) (ht.below hbk) htS hr16 on).mono ?_
  rintro e w2 ⟨A,n,cc,rfl,l,S',hp,hn,hA,hT,hrow⟩
  have hnd:l.Nodup:=hp.nodup_iff.2 on.nodup
  have hlm:∀ q ∈ l,h.has q:=fun q hq=>on.has q (hp.mem_iff.1 hq)
  have htree:∀ i wr,DropI J B S c h G l A w i wr→TreeAt wr tb c.a r:=fun i wr I=>by
   obtain ⟨_,_,_,hT,_⟩:=I.st
   exact ht.kept hT.1 htS
  have h5:n≤5000:=by
   have:=List.Nodup.length_le_of_subset (l₁:=l) (l₂:=List.range 4096) hnd (fun q hq=>List.mem_range.2 (x.has_lt (hlm q hq)).2)
   simp at this;omega
  refine ⟨A,n,cc,rfl,l,hn,h5,Lib.hid ⟨h,S',hA,(Turn.ofBelow hbk).trans hT,fun q=>by simp,rfl,hrow⟩,Lib.hid fun i wr I hi=>?_,Lib.hid fun wr I=>?_⟩
  ·obtain ⟨g,q,h1,h2,h3⟩:=I.round hnd hlm (by omega)
   exact ⟨g,q,h1,h2,(htree i wr I).c1,Lib.hid (h3.mono fun e w1 ⟨e1,e2⟩=>⟨e1,Lib.hid e2⟩)⟩
  ·have htr:=htree n wr I
   refine ⟨htr.c1,htr.c2,fun W hb=>?_⟩
   obtain ⟨hh,S2,hA2,hT2,hhas,hro,_⟩:=I.st
   refine (setRoot_v (hA2.below hb) r 0 hr16 (by omega)).mono ?_
   rintro e w1 ⟨rfl,S3,hT3,hA3⟩
   have hnr:hh.roots.length=16:=hA2.ok.nr
   have hT4:=(hT2.trans (Turn.ofBelow hb)).trans hT3
   refine ⟨rfl,hh.setRoot r 0,G,S3,[],hA3,hT4,ht.kept hT4.1 htS,?_,⟨fun q=>?_,fun _ _ _=>rfl,fun j hj=>?_,fun q hq=>by cases hq⟩⟩
   ·rw [setRoot_root hnr hr16,if_pos rfl]
    exact TreeOn.none_ _ _
   ·have h6:(hh.setRoot r 0).has q ↔ hh.has q:=Iff.rfl
    rw [h6,hhas,← hn,List.take_length]
    simp [hp.mem_iff]
   ·rw [setRoot_root hnr hr16,if_neg hj]
    unfold Hd.root;rw [hro]
 obtain ⟨rt,hrt⟩:∃ rt,rt=h.root r:=⟨_,rfl⟩
 rw [← hrt] at HTOP
 clear x ht htS on hrt
 go_enter Tryz.func43,Tryz.ntmps43
 go_wp2_with fail
 refine HTOP.out.mono ?_
 rintro e w1 ⟨rfl,k,rfl⟩
 clear HTOP
 have HP:=Lib.hid (HPG.out k)
 clear HPG
 go_wp2_with fail
 refine HP.out.mono ?_
 rintro e w2 ⟨A,n,cc,rfl,l,hn,h5,HI0,HR,HF⟩
 clear HP hn
 go_wp2
 go_loopw [18] (fun v wr=>∃ i:Nat,i≤n∧v=.int .i64 i∧Hid (DropI J B S c h G l A w i wr)) (fun v _=>n - (intOf v).toNat)
 case atStart=>exact ⟨0,by omega,rfl,HI0⟩
 case round =>
  obtain ⟨i,hi,rfl,HI⟩:=hrel
  by_cases hin:i < n
  ·obtain ⟨g,q,rfl,d1,d2,HFR⟩:=HR.out i wr HI.out hin
   clear HR HF HI HI0
   go_wp2_with fail
   refine HFR.out.mono ?_
   rintro e w3 ⟨rfl,HN⟩
   clear HFR d1 d2
   go_wp2
   go_roundw
   case rel=>exact ⟨i+1,by omega,by go_num,HN⟩
   case measure=>simp [intOf];omega
  ·obtain rfl:i=n:=by omega
   obtain ⟨d1,d2,h7⟩:=HF.out wr HI.out
   have HSR:=Lib.hid (h7 _ (Below.refl wr.heap.size wr).drew)
   clear HR HF HI HI0 h7
   go_wp2
   go_still_tail 8,(by kernel_rfl)
   go_wp2_with fail
   refine HSR.out.mono ?_
   rintro e w3 ⟨rfl,hp⟩
   have HP:=Lib.hid hp
   clear HSR hp d1 d2
   go_wp2
   go_ret
   exact ⟨rfl,HP.out⟩
end
section
variable {J:List RawOp→Prop} {B:Nat} {S X:Nat→Prop} {c:Ac} {h:Hd} {G:Nat→List UInt8} {w:World} {tb r:Nat}
theorem itV_form (o:Option En):∃ (s1 s2:ByteArray) (bb:Bool),itV o=.agg #[.string s1,.string s2]∧o.isSome=bb:=by
 cases o with
 | none=>exact ⟨_,_,_,rfl,rfl⟩
 | some e=>exact ⟨_,_,_,rfl,rfl⟩
def BeyR (J:List RawOp→Prop) (B:Nat) (S:Nat→Prop) (c:Ac) (h:Hd) (G:Nat→List UInt8) (tb:Nat) (right:Bool) (o:Option En) (sts:List (NO × Nat)) (gw j:Nat) (w wr:World):Prop :=
 ∃ (xb a N cap:Nat) (arr:Option Addr),wr.cell? ⟨gw,j*2,none⟩=some (.pointer (some ⟨xb,0,none⟩))∧wr.cell? ⟨gw,j*2+1,none⟩=some (.int .i64 a)∧a≤512∧N≤512∧a < N∧(∀ k,(wr.drewN k).cell? ⟨xb,2,none⟩=some (.slice arr N cap)) ∧
  (((if right then a+1=N else a=0)∧Hid (∃ (l p:Nat) (z:Zip l),BeyI h G right o sts j z p)) ∨
  ∃ at_:Nat,(if right then at_=a+1 else at_+1=a)∧at_ < N∧Hid (∀ k,Calls Tryz.prog 114 #[.pointer (some ⟨tb,0,none⟩),.pointer (some ⟨xb,0,none⟩),.int .i64 at_] (wr.drewN k) fun e w1=>∃ yb:Nat,e=.returned (.pointer (some ⟨yb,0,none⟩)) ∧
   Calls Tryz.prog 84 #[.pointer (some ⟨tb,0,none⟩),.pointer (some ⟨yb,0,none⟩),.int .i64 (if right then -1 else 1)] w1 fun e w2=>∃ (s1 s2:ByteArray) (bb:Bool),e=.returned (.tuple #[.agg #[.string s1,.string s2],.bool bb])∧Hid (itV o=.agg #[.string s1,.string s2]∧o.isSome=bb)∧w2.heap[w.heap.size]? = some itZ∧Hid (∀ W,Kept (fun k=>k=w.heap.size) w2 W→ActPost J B S c h G w W)))
theorem BeyI.round {right:Bool} {o:Option En} {sts:List (NO × Nat)} {j n gw cv l q:Nat} {z:Zip l} (x:ActV J B S c h G w) (hw:TreeAt w tb c.a r) (htS:¬ S tb) (hN:Nodes X S w (sts.map (·.1))) (hs:StepsAt w (.slice (some ⟨gw,0,none⟩) n cv) sts) (hlen:sts.length=n) (I:BeyI h G right o sts (j+1) z q) (hj:j < n) {wr:World} (hb:Below (w.heap.size+1) (w.alloc (.cells #[.string ⟨#[]⟩,.string ⟨#[]⟩] 89)) wr) :
  BeyR J B S c h G tb right o sts gw j w wr:=by
 obtain ⟨y,a,h1,h2,h3,h4,h5,h6⟩:=I.up (by omega) hN
 have hb0:Below w.heap.size w (w.alloc (.cells #[.string ⟨#[]⟩,.string ⟨#[]⟩] 89)):=(Below.refl _ _).alloc (Nat.le_refl _) _
 have hbw:Below w.heap.size w wr:=hb0.trans (hb.mono (by omega))
 have hrb:wr.heap[w.heap.size]? = some itZ:=(hb.block _ (by omega)).trans (heap_alloc_new w _)
 obtain ⟨c1,c2⟩:=steps_cell (ownsRow_below hs hbw) h1
 have hyn:=h3.below hbw
 have h512:=h3.short.1
 have hyk:∀ k,(wr.drewN k).cell? ⟨y.blk,2,none⟩=some (.slice y.arr y.ens.length y.cap):=fun k=>(h3.below (hbw.trans ((below_drewN wr k).mono hbw.size))).c2
 refine ⟨y.blk,a,y.ens.length,y.cap,y.arr,c1,c2,by omega,by omega,h2,hyk,?_⟩
 rcases h6 with ⟨e1,z',p,I'⟩ | ⟨kd,e1,e2,e3,e4,e5⟩
 ·exact .inl ⟨e1,Lib.hid ⟨_,p,z',I'⟩⟩
 ·refine .inr ⟨if right then a+1 else a - 1,?_,(List.getElem?_eq_some_iff.1 e2).1,Lib.hid fun k=>?_⟩
  ·cases right with
   | true=>rfl
   | false =>
    have:1≤a:=e1
    show a - 1+1=a
    omega
  ·have hbk:Below w.heap.size w (wr.drewN k):=hbw.trans ((below_drewN wr k).mono hbw.size)
   have xk:=x.below hbk
   obtain ⟨q1,q2,q3⟩:=e4.at_
   have hp:=x.has_lt q1
   have hc:(kEn kd).child=kd.2.page:=kEn_child kd (by omega)
   refine (below_ok xk (hw.below hbk) X y (h3.below hbk) h4 _ (kEn kd) e2 rfl l kd.2.ens h5 (by rw [hc];exact q1) (by rw [hc];exact q2) q3).mono ?_
   rintro e w1 ⟨v,S1,rfl,hL⟩
   refine ⟨v.blk,rfl,?_⟩
   have hT1:=(Turn.ofBelow (S:=S) hbk).trans hL.turn
   have htS1:¬ S1 tb:=hT1.not hw.lt htS
   have hrk:(wr.drewN k).heap[w.heap.size]? = some itZ:=hrb
   have hrl:w.heap.size < (wr.drewN k).heap.size:=(Array.getElem?_eq_some_iff.1 hrk).1
   have hnS:¬ S w.heap.size:=fun hs=>by have:=(x.low _ hs).2;omega
   have hr1:w1.heap[w.heap.size]? = some itZ:=(hL.turn.1.block _ hrl hnS).trans hrk
   have hnS1:¬ S1 w.heap.size:=hL.turn.not hrl hnS
   have hz1:w.heap.size < w1.heap.size:=(Array.getElem?_eq_some_iff.1 hr1).1
   have hpos:1≤w1.heap.size:=by omega
   refine (edge_ok hpos hL.act ((hw.below hbk).kept hL.turn.1 htS) htS1 (hL.node S1 (fun j hj=>.inr hj)) hL.new.2.2.1 ⟨hL.info.2.1,hL.info.2.2.1⟩ e3 e4 right _ rfl).mono ?_
   rintro e w2 ⟨rfl,S2,hT2,hA2⟩
   rw [e5]
   obtain ⟨s1,s2,bb,e6,e7⟩:=itV_form o
   refine ⟨s1,s2,bb,by rw [e6,e7],Lib.hid ⟨e6,e7⟩,(hT2.1.block _ hz1 hnS1).trans hr1,Lib.hid fun W hk=>?_⟩
   exact edge_fin x.tab.1.1 hA2 (hT1.trans hT2) ⟨(hT2.1.block _ hz1 hnS1).trans hr1,hT2.not hz1 hnS1,Nat.le_refl _⟩ hk
set_option maxHeartbeats 6400000 in
theorem beyond_ok {right:Bool} {o:Option En} {sts:List (NO × Nat)} {n gw cv l q:Nat} {z:Zip l} (x:ActV J B S c h G w) (hw:TreeAt w tb c.a r) (htS:¬ S tb) (hN:Nodes X S w (sts.map (·.1))) (hs:StepsAt w (.slice (some ⟨gw,0,none⟩) n cv) sts) (hlen:sts.length=n) (hn1:1≤n) (hn:n≤901) (I:BeyI h G right o sts (n - 1) z q) (sd:Int) (hsd:sd=if right then 1 else -1) :
  Calls Tryz.prog 83 #[.pointer (some ⟨tb,0,none⟩),.slice (some ⟨gw,0,none⟩) n cv,.int .i64 sd] w (TellPost J B S c h G o w):=by
 obtain ⟨W0,hW0⟩:∃ W0,W0=w.alloc (.cells #[.string ⟨#[]⟩,.string ⟨#[]⟩] 89):=⟨_,rfl⟩
 have hz0:W0.heap.size=w.heap.size+1:=by rw [hW0];simp
 have HRD:Hid (∀ (j:Nat) (wr:World),(∃ (l q:Nat) (z:Zip l),BeyI h G right o sts (j+1) z q)→j < n→Below W0.heap.size W0 wr→BeyR J B S c h G tb right o sts gw j w wr):=Lib.hid fun j wr ⟨l,q,z,I⟩ hj hb=>I.round x hw htS hN hs hlen hj (by rw [← hW0,← hz0];exact hb)
 have HTOP:Hid (∀ (wr:World),(∃ (l q:Nat) (z:Zip l),BeyI h G right o sts 0 z q)→Below W0.heap.size W0 wr→o=none∧ResSet w.heap.size ⟨#[]⟩ ⟨#[]⟩ wr fun W=>ActPost J B S c h G w W):=Lib.hid fun wr ⟨l,q,z,I⟩ hb=>by
  have ho:=on_top (q:=q) (z:=z) (by have:=I.on;simpa using this) right
  have hrb:wr.heap[w.heap.size]? = some itZ:=(hb.block _ (by omega)).trans (by rw [hW0];exact heap_alloc_new w _)
  have hb0:Below w.heap.size w W0:=by rw [hW0];exact (Below.refl _ _).alloc (Nat.le_refl _) _
  have hbw:Below w.heap.size w wr:=hb0.trans (hb.mono (by omega))
  refine ⟨I.o.symm.trans ho,res_set hrb _ _ fun W hk=>?_⟩
  exact edge_fin x.tab.1.1 (x.below hbw) (Turn.ofBelow hbw) ⟨hrb,fun hs=>by have:=(x.low _ hs).2;omega,Nat.le_refl _⟩ hk
 have HI0:Hid (∃ (l q:Nat) (z:Zip l),BeyI h G right o sts (n - 1) z q):=Lib.hid ⟨l,q,z,I⟩
 have HSD:Hid (sd=1∧right=true∨sd=-1∧right=false):=Lib.hid (by cases right with
  | true=>exact .inl ⟨hsd,rfl⟩
  | false=>exact .inr ⟨hsd,rfl⟩)
 have f1:IntKind.i64.wrap ((n:Int) - 2)=(n:Int) - 2:=IntWalk.i64_in _ (by omega)
 obtain ⟨rb,hrb⟩:∃ rb,rb=w.heap.size:=⟨_,rfl⟩
 have HRB:=Lib.hid hrb
 clear x hw htS hN hs hlen I hsd hz0
 go_enter Tryz.func83,Tryz.ntmps83
 go_wp2
 rw [← hW0,← hrb]
 clear hW0 hrb
 go_loopw [8] (fun i wr=>∃ j:Nat,j≤n - 1∧i=.int .i64 ((j:Int) - 1)∧Hid (∃ (l q:Nat) (z:Zip l),BeyI h G right o sts j z q)∧Hid (Below W0.heap.size W0 wr)) (fun i _=>(intOf i+1).toNat)
 case atStart=>exact ⟨n - 1,Nat.le_refl _,by congr 1;omega,HI0,Lib.hid (Below.refl _ _)⟩
 case round =>
  obtain ⟨j,hj,rfl,HI,HB⟩:=hrel
  cases j with
  | zero =>
   obtain ⟨ho,hres⟩:=HTOP.out wr HI.out HB.out
   rw [← HRB.out] at hres
   obtain ⟨d1,d2,d3,d4,d5,d6,d7,HE⟩:=hres
   have HO:=Lib.hid ho
   clear ho HRD HTOP HI0 HI HB
   go_wp2
   refine bodyPost_ret (v:=.tuple #[.agg #[.string ⟨#[]⟩,.string ⟨#[]⟩],.bool false]) (by simp [results,Tryz.results83,go_sem,d6,d7]) rfl ⟨?_,HE.out⟩
   rw [HO.out];rfl
  | succ j =>
   obtain ⟨xb,a,N,cap,arr,c1,c2,ha,hN5,haN,hc2,hcase⟩:=HRD.out j wr HI.out (by omega) HB.out
   have HCA:=Lib.hid hcase
   clear hcase HI HI0 HTOP HRD
   have g1:((j+1:Nat):Int) - 1=(j:Int):=by omega
   have g2:(j:Int) < (n:Int):=by omega
   have g3:j < n:=by omega
   have g4:IntKind.i64.wrap ((a:Int)+1)=(a:Int)+1:=IntWalk.i64_in _ (by omega)
   have g5:IntKind.i64.wrap ((a:Int)+-1)=(a:Int) - 1:=(IntWalk.i64_in _ (by omega)).trans (by omega)
   rw [g1]
   rcases HSD.out with ⟨rfl,rfl⟩ | ⟨rfl,rfl⟩
   ·rcases HCA.out with ⟨e1,HI⟩ | ⟨at_,e1,e2,HCL⟩
    ·have e1:a+1=N:=e1
     clear HCA
     go_wp2
     go_quiet (fail)
     go_wp2
     refine ⟨⟨j,by omega,rfl,HI,Lib.hid (HB.out.trans ((below_drewN wr _).mono HB.out.size))⟩,?_⟩
     simp [intOf]
    ·have e1:at_=a+1:=e1
     subst e1
     clear HCA
     have g6:(a:Int)+1 < (N:Int):=by omega
     have g7:((a+1:Nat):Int)=(a:Int)+1:=by omega
     rw [g7] at HCL
     go_wp2
     go_quiet (fail)
     go_wp2_with fail
     refine (HCL.out _).mono ?_
     rintro e w1 ⟨yb,rfl,hed⟩
     have HED:=Lib.hid hed
     clear hed HCL
     go_wp2_with fail
     refine HED.out.mono ?_
     rintro e w2 ⟨s1,s2,bb,rfl,HIO,hr2,HP⟩
     rw [← HRB.out] at hr2
     obtain ⟨d1,d2,d3,d4,d5,d6,d7,HE⟩:=res_set hr2 s1 s2 (Q:=fun W=>ActPost J B S c h G w W) (fun W hk=>HP.out W (by rw [← HRB.out];exact hk))
     clear HED hr2 HP
     go_wp2
     exact bodyPost_ret (v:=.tuple #[.agg #[.string s1,.string s2],.bool bb]) (by simp [results,Tryz.results83,go_sem,d6,d7]) rfl ⟨by rw [HIO.out.1,HIO.out.2],HE.out⟩
   ·rcases HCA.out with ⟨e1,HI⟩ | ⟨at_,e1,e2,HCL⟩
    ·have e1:a=0:=e1
     subst e1
     clear HCA
     go_wp2
     go_quiet (fail)
     go_wp2
     refine ⟨⟨j,by omega,rfl,HI,Lib.hid (HB.out.trans ((below_drewN wr _).mono HB.out.size))⟩,?_⟩
     simp [intOf]
    ·have e1:at_+1=a:=e1
     subst e1
     clear HCA
     have g6:(at_:Int) < (N:Int):=by omega
     have g7:((at_+1:Nat):Int) - 1=(at_:Int):=by omega
     have g8:IntKind.i64.wrap ((at_:Int)+1+-1)=(at_:Int):=(IntWalk.i64_in _ (by omega)).trans (by omega)
     go_wp2
     go_quiet (fail)
     go_wp2_with fail
     refine (HCL.out _).mono ?_
     rintro e w1 ⟨yb,rfl,hed⟩
     have HED:=Lib.hid hed
     clear hed HCL
     go_wp2_with fail
     refine HED.out.mono ?_
     rintro e w2 ⟨s1,s2,bb,rfl,HIO,hr2,HP⟩
     rw [← HRB.out] at hr2
     obtain ⟨d1,d2,d3,d4,d5,d6,d7,HE⟩:=res_set hr2 s1 s2 (Q:=fun W=>ActPost J B S c h G w W) (fun W hk=>HP.out W (by rw [← HRB.out];exact hk))
     clear HED hr2 HP
     go_wp2
     exact bodyPost_ret (v:=.tuple #[.agg #[.string s1,.string s2],.bool bb]) (by simp [results,Tryz.results83,go_sem,d6,d7]) rfl ⟨by rw [HIO.out.1,HIO.out.2],HE.out⟩
end
end Go.Proofs.YtfbbjiidccbaiaaGreatDoor
