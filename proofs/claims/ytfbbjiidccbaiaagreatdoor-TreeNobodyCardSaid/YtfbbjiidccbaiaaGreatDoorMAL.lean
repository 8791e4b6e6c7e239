/- Texts of one proof, one behind the other: UI, UJ, UK, UL, UM, UN. -/
import Derived.Test.YtfbbjiidccbaiaaGreatDoorMAJ
import Derived.Test.YtfbbjiidccbaiaaGreatDoorMAK
import Derived.Deep.RegionLaw
set_option maxRecDepth 100000
namespace Go.Proofs.YtfbbjiidccbaiaaGreatDoor
open Go.RowKit
def Cur (s:Hst) (q l:Nat) (es:List En):Prop:=1≤q∧q < 4096∧(match s.M q with
 | some x=>x.level=l∧x.ens=es
 | none=>Laid s.h s.G q l es∧q ∉ s.gn)
structure Got (s s':Hst) (q l:Nat) (es:List En) (x:NO):Prop where
 M:s'.M=upd s.M q (some x)
 same:s'.h=s.h∧s'.G=s.G∧s'.tk=s.tk∧s'.gn=s.gn
 x:x.level=l∧x.ens=es∧(s.M q=some x∨s.M q=none∧x.sole=true∧x.had=szE es)
theorem upd_id {α:Type} {F:Nat→α} {q:Nat} {x:α} (h:F q=x):upd F q x=F:=by
 funext i
 by_cases hi:i=q
 ·subst hi;rw [upd_same,h]
 ·rw [upd_other _ _ hi]
theorem step_mapUpdate_run {ops:Array Oper} {o:Oper} {a:Act} {K:Act→World→Prop} {Q:Exit→Act→World→Prop} {E:Prop} {w w':World} (hgd:o.guard=none) (m x v:Operand) (t:TypeId) (ho:o.op=Op.mapUpdate t m x v)
  (mv xv vv:Value) (hm:a.eval m=mv) (hx:a.eval x=xv) (hv:a.eval v=vv) (hr:(Instr.mapUpdate t mv xv vv).run Tryz.prog w=.ok () w') (h:K (a.put o.dst undef) w') :
  if Region.wanted o (yielded ops a.tmps)=true then Oper.wp Tryz.prog o a w K Q else E:=by
 have hw:Region.wanted o (yielded ops a.tmps)=true:=by simp [Region.wanted,hgd]
 rw [if_pos hw]
 unfold Oper.wp
 simp [execOp,ho,hm,hx,hv,hr,Result.andThen]
 exact h
section
variable {K:Kc} {s:Hst} {w w':World}
theorem Hnd.cb0 (H:Hnd K s w):w.cell? ⟨K.cb,0,none⟩=some (.pointer (some ⟨K.tb,0,none⟩)):=by rw [Lib.cell_of_heap H.chg.1];rfl
theorem Hnd.cb1 (H:Hnd K s w):w.cell? ⟨K.cb,1,none⟩=some (.map (some K.mb)):=by rw [Lib.cell_of_heap H.chg.1];rfl
theorem Hnd.cb2 (H:Hnd K s w):w.cell? ⟨K.cb,2,none⟩=some K.wv:=by rw [Lib.cell_of_heap H.chg.1];rfl
theorem Hnd.cb3 (H:Hnd K s w):w.cell? ⟨K.cb,3,none⟩=some s.av:=by rw [Lib.cell_of_heap H.chg.1];rfl
theorem Hnd.cb4 (H:Hnd K s w):w.cell? ⟨K.cb,4,none⟩=some s.gv:=by rw [Lib.cell_of_heap H.chg.1];rfl
theorem Hnd.cbf (H:Hnd K s w) (j:Nat):w.frozen? ⟨K.cb,j,none⟩=false:=by simp [World.frozen?,H.chg.1]
theorem Hnd.cbl (H:Hnd K s w):K.cb < w.heap.size:=(Array.getElem?_eq_some_iff.1 H.chg.1).1
theorem Hnd.nS (H:Hnd K s w) {q:Nat} {x:NO} (h:s.M q=some x):¬ s.S x.blk:=fun hs=>by
 have h1:=H.sub _ hs
 rw [(H.node q x h).blk] at h1
 omega
theorem zeroPN (w:World):(zeroValue 127).run Tryz.prog w=.ok (.pointer none) w:=by kernel_rfl
theorem Hnd.look (H:Hnd K s w) {q:Nat} (hq:1≤q∧q < 4096):(Instr.lookup 184 (.map (some K.mb)) (.int .i64 q) false).run Tryz.prog w=.ok (((s.M q).map NO.ptr).getD (.pointer none)) w:=by
 obtain ⟨m,hm⟩:=H.map.1
 have:=hm.look (t:=184) (e:=127) Tryz.underlying184 (zeroPN w) q hq.2
 rw [ptrs_at _ hq] at this
 exact this
set_option maxHeartbeats 3200000 in
theorem child_in (H:Hnd K s w) {i:Nat} {n:NO} (hM:s.M i=some n) {at_:Nat} {en:En} (hen:n.ens[at_]? = some en) (hv:en.val.length=2) {l:Nat} (hl:n.level=l+1) (hq:1≤en.child∧en.child < 4096) {x:NO} (hx:s.M en.child=some x) (hxl:x.level=l) :
  Calls Tryz.prog 159 #[.pointer (some ⟨K.cb,0,none⟩),n.ptr,.int .i64 at_] w fun e w'=>e=.returned x.ptr∧Hnd K s w':=by
 have hn:=H.node i n hM
 have hxn:=H.node _ x hx
 have HCH:=Lib.hid (child_any _ n at_ en w hn.at_ hen hv)
 obtain ⟨q,hqd⟩:∃ q,q=en.child:=⟨_,rfl⟩
 rw [← hqd] at HCH hq hx
 have HLK:Hid (∀ k,(Instr.lookup 184 (.map (some K.mb)) (.int .i64 q) false).run Tryz.prog (w.drewN k)=.ok x.ptr (w.drewN k)):=Lib.hid fun k=>by
  have:=(H.below (below_drewN w k)).look hq
  rw [hx] at this
  exact this
 have c1:=H.cb1
 have n1:=hn.at_.c1
 have x1:=hxn.at_.c1
 have hlv:=hn.at_.small.2.1
 rw [hl] at n1 hlv
 rw [hxl] at x1
 have HE2:Hid (∀ k j,Hnd K s ((w.drewN k).drewN j)):=Lib.hid fun k j=>(H.below (below_drewN w k)).below (below_drewN _ j)
 have elv:IntKind.i64.wrap ((l:Int)+1 - 1)=l:=IntWalk.i64_in _ (by omega) |>.trans (by omega)
 unfold NO.ptr at *
 obtain ⟨nb,hnb⟩:∃ b,b=n.blk:=⟨_,rfl⟩
 obtain ⟨xb,hxb⟩:∃ b,b=x.blk:=⟨_,rfl⟩
 rw [← hnb] at n1 HCH ⊢
 rw [← hxb] at x1 HLK ⊢
 clear H hM hen hv hl hq hx hxl hn hxn hqd hnb hxb
 go_enter Tryz.func159,Tryz.ntmps159
 go_wp2_with fail
 refine HCH.out.mono ?_
 rintro e w' ⟨rfl,k,rfl⟩
 have hlk:=HLK.out k
 go_wp2
 go_quiet (fail)
 go_wp2
 go_ret
 exact ⟨rfl,HE2.out _ _⟩
set_option maxHeartbeats 3200000 in
theorem child_new (H:Hnd K s w) {i:Nat} {n:NO} (hM:s.M i=some n) {at_:Nat} {en:En} (hen:n.ens[at_]? = some en) (hv:en.val.length=2) {l:Nat} {es:List En} (hl:n.level=l+1) (hq:1≤en.child∧en.child < 4096) (hx:s.M en.child=none) (hL:Laid s.h s.G en.child l es) (hg:en.child ∉ s.gn) :
  Calls Tryz.prog 159 #[.pointer (some ⟨K.cb,0,none⟩),n.ptr,.int .i64 at_] w fun e w'=>∃ x S' ρ',e=.returned x.ptr∧Hnd K { s with S:=S',ρ:=ρ',M:=upd s.M en.child (some x) } w'∧x.level=l∧x.ens=es∧x.sole=true∧x.had=szE es:=by
 have hn:=H.node i n hM
 have hnS:=H.nS hM
 have HCH:=Lib.hid (child_any _ n at_ en w hn.at_ hen hv)
 have HBL:Hid (∀ W,Below w.heap.size w W→Calls Tryz.prog 114 #[.pointer (some ⟨K.tb,0,none⟩),n.ptr,.int .i64 at_] W fun e w1=>∃ x w2,e=.returned x.ptr∧(w1.cell? ⟨K.cb,0,none⟩=some (.pointer (some ⟨K.tb,0,none⟩))∧w1.cell? ⟨K.cb,1,none⟩=some (.map (some K.mb)))∧(Instr.mapUpdate 184 (.map (some K.mb)) (.int .i64 en.child) x.ptr).run Tryz.prog w1=.ok () w2∧(w2.cell? ⟨K.cb,0,none⟩=some (.pointer (some ⟨K.tb,0,none⟩))∧w2.cell? ⟨K.cb,1,none⟩=some (.map (some K.mb))) ∧
   (Instr.lookup 184 (.map (some K.mb)) (.int .i64 en.child) false).run Tryz.prog w2=.ok x.ptr w2∧Hid (∃ S' ρ',Hnd K { s with S:=S',ρ:=ρ',M:=upd s.M en.child (some x) } w2∧x.level=l∧x.ens=es∧x.sole=true∧x.had=szE es)):=Lib.hid fun W hb=>by
  have H1:=H.below hb
  have hn1:=H1.node i n hM
  refine (below_ok H1.act H1.tree.1 _ n hn1.at_ hnS at_ en hen hv l es hl hL.1 hL.2.1 hL.2.2).mono ?_
  rintro e w1 ⟨y,S',rfl,hLd⟩
  have hes:es≠[]:=by have:=hL.2.2.len;intro e;rw [e] at this;simp at this
  obtain ⟨ρ',H2,hy⟩:=H1.loaded hLd hes en.child
  obtain ⟨m,hm⟩:=H2.map.1
  obtain ⟨w2,hr,hp,ht⟩:=hm.put (t:=184) (e:=127) Tryz.underlying184 (by have:=hm.few;unfold maxLen;omega) en.child hq.2 (by rw [ptrs_at _ hq];show (s.M en.child).map NO.ptr=none;rw [hx];rfl) y.ptr
  have hi:=hLd.info
  have H3:=H2.putM hq hy ⟨hi.1,hL.1,.inl (by rw [hi.2.2.2.1];exact hL.2.1.symm)⟩ hg (Kept.ofTurned ht rfl) hp
  refine ⟨y,w2,rfl,⟨H2.cb0,H2.cb1⟩,hr,⟨H3.cb0,H3.cb1⟩,?_,Lib.hid ⟨S',ρ',H3,hi.2.1,hi.2.2.1,hi.2.2.2.2.2.1,hi.2.2.2.2.1⟩⟩
  have:=H3.look hq
  rw [show ({ s with S:=S',ρ:=ρ',M:=upd s.M en.child (some y) }:Hst).M en.child=some y from upd_same _ _ _] at this
  exact this
 have hlk0:∀ k,(Instr.lookup 184 (.map (some K.mb)) (.int .i64 en.child) false).run Tryz.prog (w.drewN k)=.ok (.pointer none) (w.drewN k):=fun k=>by
  have:=(H.below (below_drewN w k)).look hq
  rw [hx] at this
  exact this
 obtain ⟨q,hqd⟩:∃ q,q=en.child:=⟨_,rfl⟩
 rw [← hqd] at HCH HBL hlk0 ⊢
 have HLK:=Lib.hid hlk0
 have c0:=H.cb0
 have c1:=H.cb1
 unfold NO.ptr at *
 obtain ⟨nb,hnb⟩:∃ b,b=n.blk:=⟨_,rfl⟩
 rw [← hnb] at HCH HBL ⊢
 obtain ⟨cb,hcb⟩:∃ b,b=K.cb:=⟨_,rfl⟩
 rw [← hcb] at HBL c0 c1 ⊢
 clear H hM hen hv hl hq hx hL hg hn hnS hlk0 hqd hnb hcb
 go_enter Tryz.func159,Tryz.ntmps159
 go_wp2_with fail
 refine HCH.out.mono ?_
 rintro e w' ⟨rfl,k,rfl⟩
 have hlk:=HLK.out k
 go_wp2
 go_quiet (fail)
 go_wp2
 obtain ⟨W1,hW1⟩:∃ W1,W1=(w.drewN k).drewN nq:=⟨_,rfl⟩
 rw [← hW1]
 have HB1:Hid (Below w.heap.size w W1.drew):=Lib.hid (by rw [hW1];exact ((below_drewN w k).trans ((below_drewN (w.drewN k) _).mono (Nat.le_refl _))).drew)
 have HS1:Hid (W1.cell? ⟨cb,0,none⟩=some (.pointer (some ⟨K.tb,0,none⟩))∧W1.cell? ⟨cb,1,none⟩=some (.map (some K.mb))):=Lib.hid (by rw [hW1];exact ⟨c0,c1⟩)
 have HQ:Hid (∀ W:World,(W.cell? ⟨cb,0,none⟩=some (.pointer (some ⟨K.tb,0,none⟩))∧W.cell? ⟨cb,1,none⟩=some (.map (some K.mb)))→W.cell? ⟨cb,0,none⟩=some (.pointer (some ⟨K.tb,0,none⟩))∧W.cell? ⟨cb,1,none⟩=some (.map (some K.mb))):=Lib.hid (fun _ h=>h)
 clear hW1 c0 c1 hlk
 refine wp_region_held_drew (S:=fun W=>W.cell? ⟨cb,0,none⟩=some (.pointer (some ⟨K.tb,0,none⟩))∧W.cell? ⟨cb,1,none⟩=some (.map (some K.mb))) (by kernel_rfl) HS1.out (fun hHeld=>?_)
 refine wpAnyH_take (i:=0) (v:=.pointer (some ⟨cb,0,none⟩)) rfl (by kernel_rfl) (by kernel_rfl) (by kernel_rfl) (fun _ _ _ h=>h) (Or.inl ⟨by rfl,fun W hW=>by go_simp⟩) HS1.out ?_
 refine wpAnyH_take (i:=1) (v:=.pointer (some ⟨cb,0,none⟩)) rfl (by kernel_rfl) (by kernel_rfl) (by kernel_rfl) (fun _ _ _ h=>h) (Or.inl ⟨by rfl,fun W hW=>by go_simp⟩) HS1.out ?_
 refine wpAnyH_take (i:=2) (v:=.pointer (some ⟨cb,1,none⟩)) rfl (by kernel_rfl) (by kernel_rfl) (by kernel_rfl) (fun _ _ _ h=>h) (Or.inl ⟨by rfl,fun W hW=>by go_simp⟩) HS1.out ?_
 refine wpAnyH_take (i:=3) (v:=.map (some K.mb)) rfl (by kernel_rfl) (by kernel_rfl) (by kernel_rfl) (fun _ _ _ h=>h) (Or.inl ⟨by rfl,fun W hW=>by have x1:=(HQ.out W hW).2;clear hW;go_simp⟩) HS1.out ?_
 refine wpAnyH_take (i:=4) (v:=.int .i64 q) rfl (by kernel_rfl) (by kernel_rfl) (by kernel_rfl) (fun _ _ _ h=>h) (Or.inl ⟨by rfl,fun W hW=>by go_simp⟩) HS1.out ?_
 refine wpAnyH_take (i:=5) (v:=.pointer (some ⟨cb,0,none⟩)) rfl (by kernel_rfl) (by kernel_rfl) (by kernel_rfl) (fun _ _ _ h=>h) (Or.inl ⟨by rfl,fun W hW=>by go_simp⟩) HS1.out ?_
 refine wpAnyH_take (i:=6) (v:=.pointer (some ⟨cb,0,none⟩)) rfl (by kernel_rfl) (by kernel_rfl) (by kernel_rfl) (fun _ _ _ h=>h) (Or.inl ⟨by rfl,fun W hW=>by go_simp⟩) HS1.out ?_
 refine wpAnyH_take (i:=7) (v:=.pointer (some ⟨cb,0,none⟩)) rfl (by kernel_rfl) (by kernel_rfl) (by kernel_rfl) (fun _ _ _ h=>h) (Or.inl ⟨by rfl,fun W hW=>by go_simp⟩) HS1.out ?_
 refine wpAnyH_take (i:=8) (v:=.pointer (some ⟨K.tb,0,none⟩)) rfl (by kernel_rfl) (by kernel_rfl) (by kernel_rfl) (fun _ _ _ h=>h) (Or.inl ⟨by rfl,fun W hW=>by have x1:=(HQ.out W hW).1;clear hW;go_simp⟩) HS1.out ?_
 refine wpAnyH_take (i:=9) (v:=.pointer (some ⟨nb,0,none⟩)) rfl (by kernel_rfl) (by kernel_rfl) (by kernel_rfl) (fun _ _ _ h=>h) (Or.inl ⟨by rfl,fun W hW=>by go_simp⟩) HS1.out ?_
 refine wpAnyH_take (i:=10) (v:=.int .i64 at_) rfl (by kernel_rfl) (by kernel_rfl) (by kernel_rfl) (fun _ _ _ h=>h) (Or.inl ⟨by rfl,fun W hW=>by go_simp⟩) HS1.out ?_
 refine wpAnyH_ready (rs:=[11]) (by kernel_rfl) (by simp) ?_
 refine AllReadyH.cons rfl (fun K' hK=>?_) AllReadyH.nil
 go_simp
 go_at_call 114
 refine (HBL.out _ HB1.out).mono ?_
 rintro e w1 ⟨x,w2,rfl,hs1,hmu,hs2,hlk2,hpost⟩
 have HMU:=Lib.hid hmu
 have HS3:=Lib.hid hs2
 clear hmu hs2
 refine hK.out _ _ hs1 (fun hHeld2=>?_)
 clear hK K' hHeld hHeld2 hs1
 refine wpAnyH_ready (rs:=[12]) (by kernel_rfl) (by simp) ?_
 refine AllReadyH.cons rfl (fun K' hK=>?_) AllReadyH.nil
 refine step_mapUpdate_run rfl _ _ _ 184 rfl _ _ _ (by rfl) (by rfl) (by rfl) HMU.out ?_
 refine hK.out _ _ HS3.out (fun hHeld3=>?_)
 clear hK K' hHeld3
 refine wpAnyH_done (by kernel_rfl) ?_ _
 have d1:=HS3.out.2
 go_wp2
 obtain ⟨S',ρ',h1,h2⟩:=hpost.out
 have HP:=Lib.hid (And.intro h1 h2)
 clear h1 h2 hpost
 go_ret
 exact ⟨x,S',ρ',rfl,HP.out⟩
theorem child_h (H:Hnd K s w) {i:Nat} {n:NO} (hM:s.M i=some n) {at_:Nat} {en:En} (hen:n.ens[at_]? = some en) (hv:en.val.length=2) {l:Nat} {es:List En} (hl:n.level=l+1) (hc:Cur s en.child l es) :
  Calls Tryz.prog 159 #[.pointer (some ⟨K.cb,0,none⟩),n.ptr,.int .i64 at_] w fun e w'=>∃ x s',e=.returned x.ptr∧Hnd K s' w'∧Got s s' en.child l es x:=by
 obtain ⟨q1,q2,hc⟩:=hc
 cases hx:s.M en.child with
 | some x =>
  rw [hx] at hc
  refine (child_in H hM hen hv hl ⟨q1,q2⟩ hx hc.1).mono ?_
  rintro e w' ⟨rfl,h⟩
  exact ⟨x,s,rfl,h,(upd_id hx).symm,⟨rfl,rfl,rfl,rfl⟩,hc.1,hc.2,.inl hx⟩
 | none =>
  rw [hx] at hc
  refine (child_new H hM hen hv hl ⟨q1,q2⟩ hx hc.1 hc.2).mono ?_
  rintro e w' ⟨x,S',ρ',rfl,h,h1,h2,h3,h4⟩
  exact ⟨x,_,rfl,h,rfl,⟨rfl,rfl,rfl,rfl⟩,h1,h2,.inr ⟨hx,h3,h4⟩⟩
end
section
variable {K:Kc} {s:Hst} {w W w3:World}
theorem Hnd.pushG (H:Hnd K s w) {v':Value} {q:Nat} (hb:Below w.heap.size w W) (hg:Grew W w3 s.gv v') (hn:NumsAt w3 v' (s.gn++[q])) (hq:s.h.has q) (hM:s.M q=none) (hnew:q ∉ s.gn) :
  ∃ ρ',Hnd K { s with gn:=s.gn++[q],gv:=v',ρ:=ρ' } (w3.setCell ⟨K.cb,4,none⟩ v'):=by
 have HW:=H.below hb
 have hcbW:=HW.cbl
 have hkg:Kept (fun k=>s.gv.ownBlock=some k) W w3:=Kept.ofGrown hg.1 (fun k e=>e)
 have hk2:=Kept.setCell (fun k=>k=K.cb) w3 (b:=K.cb) (i:=4) rfl v'
 have hne:s.gv.ownBlock≠some K.cb:=fun e=>by have h1:=HW.gon.2 _ e;have h2:=HW.chg.2;omega
 have hne2:v'.ownBlock≠some K.cb:=fun e=>(hg.2 _ e).elim hne (by omega)
 have hcb3:w3.heap[K.cb]? = some (.cells (K.cells s) 186 (0,0)):=(hkg.block _ hcbW (fun e=>hne e)).trans HW.chg.1
 refine ⟨fun k=>if v'.ownBlock=some k then 6 else s.ρ k,HW.step (T:=fun k=>s.gv.ownBlock=some k∨k=K.cb) (R:=fun r=>r=6∨r=2) ((hkg.mono (fun k e=>.inl e)).trans (hk2.mono (T:=fun k=>s.gv.ownBlock=some k∨k=K.cb) (fun k e=>.inr e)) (fun k e=>.inl e)) (fun k _ e=>?_) (by omega) (fun k hk=>?_) (fun k hk=>?_) (.inl ⟨by omega,rfl,rfl,rfl⟩) (.inr ⟨?_,?_⟩) (.inl ⟨by omega,rfl⟩) (by omega) (.inl ⟨by omega,rfl,rfl⟩) (.inr ⟨?_,fun k hk=>?_⟩) (fun j x h=>.inl ⟨h,by omega,by omega,by omega⟩) HW.was ⟨?_,fun j hj=>?_⟩ HW.tok⟩
 ·rcases e with e | rfl
  ·exact .inl (HW.gon.2 _ e)
  ·exact .inr HW.chg.2
 ·left
  dsimp only
  by_cases e:v'.ownBlock=some k
  ·rw [if_pos e]
   rcases hg.2 k e with h1 | h1
   ·exact (HW.gon.2 _ h1).symm
   ·omega
  ·rw [if_neg e]
 ·dsimp only at hk
  have hz:w3.heap.size≤(w3.setCell ⟨K.cb,4,none⟩ v').heap.size:=hk2.size
  by_cases e:v'.ownBlock=some k
  ·exact Nat.lt_of_lt_of_le (hn.lt k e) hz
  ·rw [if_neg e] at hk
   have:=HW.lt k hk
   have:=hkg.size
   omega
 ·rw [heap_set hcb3];rfl
 ·dsimp only
  rw [if_neg hne2];exact HW.chg.2
 ·exact ownsRow_of_block hn fun k hk=>hk2.block k (hn.lt k hk) (fun e=>hne2 (e ▸ hk))
 ·dsimp only at hk ⊢
  rw [if_pos hk]
 ·dsimp only
  rw [List.nodup_append]
  refine ⟨H.gok.1,by simp,fun a ha b hb' e=>?_⟩
  rw [List.mem_singleton] at hb'
  subst e;subst hb'
  exact hnew ha
 ·dsimp only at hj ⊢
  rcases List.mem_append.1 hj with hj | hj
  ·exact H.gok.2 j hj
  ·rw [List.mem_singleton] at hj
   subst hj
   exact ⟨hq,hM⟩
theorem Hnd.pushT (H:Hnd K s w) {v':Value} {q:Nat} (hb:Below w.heap.size w W) (hg:Grew W w3 s.av v') (hn:NumsAt w3 v' (s.tk++[q])) (hq:s.h.has q) (hnew:q ∉ s.tk) :
  ∃ ρ',Hnd K { s with tk:=s.tk++[q],av:=v',ρ:=ρ' } (w3.setCell ⟨K.cb,3,none⟩ v'):=by
 have HW:=H.below hb
 have hcbW:=HW.cbl
 have hkg:Kept (fun k=>s.av.ownBlock=some k) W w3:=Kept.ofGrown hg.1 (fun k e=>e)
 have hk2:=Kept.setCell (fun k=>k=K.cb) w3 (b:=K.cb) (i:=3) rfl v'
 have hne:s.av.ownBlock≠some K.cb:=fun e=>by have h1:=HW.tak.2 _ e;have h2:=HW.chg.2;omega
 have hne2:v'.ownBlock≠some K.cb:=fun e=>(hg.2 _ e).elim hne (by omega)
 have hcb3:w3.heap[K.cb]? = some (.cells (K.cells s) 186 (0,0)):=(hkg.block _ hcbW (fun e=>hne e)).trans HW.chg.1
 refine ⟨fun k=>if v'.ownBlock=some k then 5 else s.ρ k,HW.step (T:=fun k=>s.av.ownBlock=some k∨k=K.cb) (R:=fun r=>r=5∨r=2) ((hkg.mono (fun k e=>.inl e)).trans (hk2.mono (T:=fun k=>s.av.ownBlock=some k∨k=K.cb) (fun k e=>.inr e)) (fun k e=>.inl e)) (fun k _ e=>?_) (by omega) (fun k hk=>?_) (fun k hk=>?_) (.inl ⟨by omega,rfl,rfl,rfl⟩) (.inr ⟨?_,?_⟩) (.inl ⟨by omega,rfl⟩) (by omega) (.inr ⟨?_,fun k hk=>?_⟩) (.inl ⟨by omega,rfl,rfl⟩) (fun j x h=>.inl ⟨h,by omega,by omega,by omega⟩) HW.was HW.gok ⟨?_,fun j hj=>?_⟩⟩
 ·rcases e with e | rfl
  ·exact .inl (HW.tak.2 _ e)
  ·exact .inr HW.chg.2
 ·left
  dsimp only
  by_cases e:v'.ownBlock=some k
  ·rw [if_pos e]
   rcases hg.2 k e with h1 | h1
   ·exact (HW.tak.2 _ h1).symm
   ·omega
  ·rw [if_neg e]
 ·dsimp only at hk
  have hz:w3.heap.size≤(w3.setCell ⟨K.cb,3,none⟩ v').heap.size:=hk2.size
  by_cases e:v'.ownBlock=some k
  ·exact Nat.lt_of_lt_of_le (hn.lt k e) hz
  ·rw [if_neg e] at hk
   have:=HW.lt k hk
   have:=hkg.size
   omega
 ·rw [heap_set hcb3];rfl
 ·dsimp only
  rw [if_neg hne2];exact HW.chg.2
 ·exact ownsRow_of_block hn fun k hk=>hk2.block k (hn.lt k hk) (fun e=>hne2 (e ▸ hk))
 ·dsimp only at hk ⊢
  rw [if_pos hk]
 ·dsimp only
  rw [List.nodup_append]
  refine ⟨H.tok.1,by simp,fun a ha b hb' e=>?_⟩
  rw [List.mem_singleton] at hb'
  subst e;subst hb'
  exact hnew ha
 ·dsimp only at hj ⊢
  rcases List.mem_append.1 hj with hj | hj
  ·exact H.tok.2 j hj
  ·rw [List.mem_singleton] at hj
   subst hj
   exact hq
theorem nums_few {l:List Nat} (h:l.Nodup) (hb:∀ q ∈ l,q < 4096):l.length≤4096:=nodup_4096 h hb
theorem Hnd.has_lt (H:Hnd K s w) {q:Nat} (hq:s.h.has q):1≤q∧q < 4096:=H.act.has_lt hq
theorem Hnd.gn_few (H:Hnd K s w):s.gn.length≤4096:=nums_few H.gok.1 fun q hq=>(H.has_lt (H.gok.2 q hq).1).2
theorem Hnd.tk_few (H:Hnd K s w):s.tk.length≤4096:=nums_few H.tok.1 fun q hq=>(H.has_lt (H.tok.2 q hq)).2
def LeavePost (K:Kc) (s:Hst) (q:Nat) (e:Ending) (w':World):Prop:=e=.returned (.tuple #[])∧∃ v' ρ',Hnd K { s with M:=upd s.M q none,gn:=s.gn++[q],gv:=v',ρ:=ρ' } w'
set_option maxHeartbeats 3200000 in
theorem leave_h (H:Hnd K s w) {q:Nat} {x:NO} (hM:s.M q=some x) (hq:1≤q∧q < 4096) :
  Calls Tryz.prog 160 #[.pointer (some ⟨K.cb,0,none⟩),x.ptr] w (LeavePost K s q):=by
 obtain ⟨hpg,hhas,_⟩:=H.was q x hM hq.1 hq.2
 have hxn:=H.node q x hM
 have Hd:=H.below (Below.refl w.heap.size w).drew
 obtain ⟨m,hm⟩:=Hd.map.1
 have hpt:ptrs s.M q=some x.ptr:=by rw [ptrs_at _ hq,hM];rfl
 obtain ⟨m0,rfl⟩:∃ m0,m=m0+1:=by
  rcases Nat.eq_zero_or_pos m with e | e
  ·exfalso
   subst e
   obtain ⟨F,⟨D0,h1,h2,h3⟩,h4,_⟩:=hm.map
   have hF:=h4 q _ hpt
   rcases h3 q (WalkArith.wf_i64 (by omega)) with ⟨hn,_⟩ | ⟨v,_,hh,_⟩
   ·rw [hF] at hn;cases hn
   ·have h5:=(intKeys_spec h1)
    have h6:(intKeys D0).length=0:=by rw [h5.2.2,h2]
    have h7:=(h5.2.1 (q:Int)).2 hh
    rw [List.length_eq_zero_iff.1 h6] at h7
    cases h7
  ·exact ⟨m - 1,by omega⟩
 obtain ⟨w1,hdr,hp,ht⟩:=hm.del (t:=184) (e:=127) Tryz.underlying184 q hpt 0
 have H1:=Hd.delM hq hM (Kept.ofTurned ht rfl) hp
 have x0:=hxn.at_.c0
 have hb1:=ht.grown
 have hxb1:w1.heap[x.blk]? = w.heap[x.blk]?:=(Kept.ofTurned (S:=fun k=>k=K.mb) ht rfl).block x.blk hxn.at_.lt (fun e=>by have h1:=hxn.blk;rw [e,H.map.2] at h1;omega)
 have x01:w1.cell? ⟨x.blk,0,none⟩=some (.int .i64 q):=by rw [World.cell?_of_block hxb1,x0,hpg]
 rw [hpg] at x0
 -- the append
 obtain ⟨W2,hW2⟩:∃ W2,W2=(w1.alloc (.cells #[.int .i64 q] 3)).drew:=⟨_,rfl⟩
 have hbW:Below w1.heap.size w1 W2:=by rw [hW2];exact ((Below.refl _ _).alloc (Nat.le_refl _) _).drew
 have hcx:W2.cell? ⟨w1.heap.size,0,none⟩=some (.int .i64 q):=by
  have:W2.heap[w1.heap.size]? = some (.cells #[.int .i64 q] 3 (0,0)):=by rw [hW2];exact heap_alloc_new w1 _
  rw [Lib.cell_of_heap this];rfl
 have H1W:=H1.below hbW
 obtain ⟨v',w3,hr3,hn3,hg3⟩:=append_num W2 s.gv s.gn q w1.heap.size 1 H1W.gon.1 hcx (by have:=H.gn_few;omega) 57
 obtain ⟨ρ',H4⟩:=H1.pushG (q:=q) hbW hg3 hn3 hhas (upd_same _ _ _) (fun hg=>by have:=(H.gok.2 q hg).2;rw [hM] at this;cases this)
 obtain ⟨ga,gc,hgv⟩:=H1W.gon.1.shape
 obtain ⟨va,vc,hvv⟩:=hn3.shape
 have hkg:Kept (fun k=>s.gv.ownBlock=some k) W2 w3:=Kept.ofGrown hg3.1 (fun k e=>e)
 have hcb3:w3.heap[K.cb]? = some (.cells (K.cells { s with M:=upd s.M q none }) 186 (0,0)):=(hkg.block _ H1W.cbl (fun e=>by have h1:=H1W.gon.2 _ e;have h2:=H1W.chg.2;omega)).trans H1W.chg.1
 have f4:w3.frozen? ⟨K.cb,4,none⟩=false:=by simp [World.frozen?,hcb3]
 have d4:w3.cell? ⟨K.cb,4,none⟩=some s.gv:=by rw [Lib.cell_of_heap hcb3];rfl
 have c1:=H.cb1
 have c4:=H1.cb4
 have hcl1:=H1.cbl
 have hxl1:x.blk < w1.heap.size:=by have:=hxn.at_.lt;have h2:=(Kept.ofTurned (S:=fun k=>k=K.mb) ht rfl).size;exact Nat.lt_of_lt_of_le this h2
 dsimp only at c4
 obtain ⟨gn,hgn⟩:∃ n,n=s.gn.length:=⟨_,rfl⟩
 simp only [← hgn] at hgv
 have hvl:(s.gn++[q]).length=gn+1:=by rw [List.length_append,← hgn];rfl
 rw [hvl] at hvv
 rw [hgv] at hr3 c4 d4
 rw [hvv] at hr3
 have HE:Hid (LeavePost K s q (.returned (.tuple #[])) (w3.setCell ⟨K.cb,4,none⟩ (.slice va (gn+1) vc))):=Lib.hid ⟨rfl,v',ρ',by rw [hvv] at H4 ⊢;exact H4⟩
 unfold NO.ptr
 obtain ⟨xb,hxb⟩:∃ b,b=x.blk:=⟨_,rfl⟩
 rw [← hxb] at x0 x01 hxl1 ⊢
 obtain ⟨cb,hcb⟩:∃ b,b=K.cb:=⟨_,rfl⟩
 rw [← hcb] at c1 c4 f4 d4 HE hcl1 ⊢
 rw [hW2] at hr3
 have HDR:=Lib.hid hdr
 have HR3:=Lib.hid hr3
 clear H hM hq hpg hhas hxn Hd hm hpt hdr hp ht H1 hb1 hxb1 hW2 hbW hcx H1W hr3 hn3 hg3 H4 hgv hvv hkg hcb3 hgn hvl hxb hcb
 go_enter Tryz.func160,Tryz.ntmps160
 go_wp2
 go_still_tail 8,(by kernel_rfl)
 go_wp2_with (refine wpList_delete_run rfl _ _ 184 3 rfl _ _ (by rfl) (by rfl) HDR.out ?_)
 go_region_law (refine step_app_run rfl _ _ 57 rfl _ _ _ (by rfl) (by rfl) HR3.out ?_)
 all_goals go_wp2
 all_goals go_end0
 all_goals exact HE.out
end
section
variable {K:Kc} {s s' s'':Hst} {w w' W:World}
theorem ab_role {ρ:Nat→Nat} {q:Nat} {x:NO} (h:NodeOk ρ w q x) (hs:x.sole=true):ρ x.ab=8+2*q∨ρ x.ab=9+2*q:=by
 cases ha:x.arr with
 | none=>left;unfold NO.ab;rw [ha];exact h.blk
 | some ad =>
  right
  have:=h.row ad ha
  rw [if_pos hs] at this
  unfold NO.ab;rw [ha];exact this
theorem Hnd.removed (H:Hnd K s w) {i:Nat} {n:NO} (hM:s.M i=some n) (hs:n.sole=true) {es:List En} {e:Ending} (hr:RemPost (fun k=>s.ρ k≠0) n es w e w'):Hnd K { s with M:=upd s.M i (some { n with ens:=es }) } w':=by
 obtain ⟨_,h2,h3⟩:=hr
 have hn:=H.node i n hM
 have hlt:=fun k hk=>Nat.lt_of_lt_of_le (H.lt k hk) h3.size
 exact H.turnM (T:=fun k=>k=n.blk∨k=n.ab) (ρ':=s.ρ) hM h3 (fun k _ e=>by
  rcases e with rfl | rfl
  ·exact .inl hn.blk
  ·exact ab_role hn hs) (fun _ _=>rfl) (fun k _ hk=>hlt k hk) ⟨h2,hn.blk,hn.row⟩ ⟨rfl,rfl,rfl⟩
theorem Hnd.newRow (H:Hnd K s w) {i:Nat} {n:NO} (hM:s.M i=some n) (hb:Below w.heap.size w W) {g c:Nat} (hg:w.heap.size≤g) {vs R:List Value} {es:List En} (hh:W.heap[g]? = some (.cells (vs++R).toArray 135 (0,0))) (hp:PairsV (fun k=>s.ρ k≠0) w vs es) (hc:es.length≤c∧c≤maxLen) (hsh:Short es) :
  ∃ ρ',Hnd K { s with M:=upd s.M i (some { n with ens:=es,arr:=some ⟨g,0,none⟩,cap:=c,sole:=true }),ρ:=ρ' } (W.setCell ⟨n.blk,2,none⟩ (.slice (some ⟨g,0,none⟩) es.length c)):=by
 have hn:=H.node i n hM
 have hgl:g < W.heap.size:=(Array.getElem?_eq_some_iff.1 hh).1
 have hnl:=hn.at_.lt
 have hk2:=Kept.setCell (fun k=>k=n.blk) W (b:=n.blk) (i:=2) rfl (.slice (some ⟨g,0,none⟩) es.length c)
 have hk:Kept (fun k=>k=n.blk) w (W.setCell ⟨n.blk,2,none⟩ (.slice (some ⟨g,0,none⟩) es.length c)):=(Kept.ofBelow (S:=fun k=>k=n.blk) hb).trans hk2 (fun k e=>.inl e)
 have hbW:W.heap[n.blk]? = some (.cells n.cells 138 (0,0)):=(hb.block _ hnl).trans hn.at_.blk
 have hg0:s.ρ g=0:=by
  rcases Nat.eq_zero_or_pos (s.ρ g) with e | e
  ·exact e
  ·have:=H.lt g (by omega);omega
 refine ⟨upd s.ρ g (9+2*i),H.turnM (T:=fun k=>k=n.blk) hM hk (fun k _ e=>.inl (e ▸ hn.blk)) (fun k hk=>upd_other _ _ (by omega)) (fun k hk' h0=>?_) ⟨⟨?_,?_,?_,hc,hn.at_.small,hsh,fun _ _=>⟨g,rfl⟩⟩,?_,fun ad ha=>?_⟩ ⟨rfl,rfl,rfl⟩⟩
 ·by_cases hkg:k=g
  ·rw [hkg];exact Nat.lt_of_lt_of_le hgl hk2.size
  ·rw [upd_other _ _ hkg] at h0
   have:=H.lt k h0
   omega
 ·exact node_ents hbW _ _ _
 ·show upd s.ρ g (9+2*i) n.blk≠0
  rw [upd_other _ _ (by omega)];exact hn.at_.own
 ·have hr:RowV (fun k=>upd s.ρ g (9+2*i) k≠0) (W.setCell ⟨n.blk,2,none⟩ (.slice (some ⟨g,0,none⟩) es.length c)) g [] vs R es:=by
   refine ⟨(hk2.block g hgl (by omega)).trans hh,by rw [upd_same];omega,hp.kept hk (fun k _ e=>?_) (fun k hl hx=>?_)⟩
   ·subst e;exact hn.at_.own
   ·rw [upd_other _ _ (by omega)] at hx;exact hx
  exact hr.ents
 ·show upd s.ρ g (9+2*i) n.blk=_
  rw [upd_other _ _ (by omega)];exact hn.blk
 ·cases ha
  rw [upd_same];rfl
structure Fram (s s':Hst) (ps:List Nat):Prop where
 same:s'.h=s.h∧s'.G=s.G∧s'.tk=s.tk
 M:∀ q,q ∉ ps→s'.M q=s.M q
 gn:∃ d,s'.gn=s.gn++d∧∀ q ∈ d,q ∈ ps
theorem Fram.refl (s:Hst) (ps:List Nat):Fram s s ps:=⟨⟨rfl,rfl,rfl⟩,fun _ _=>rfl,[],by simp,(fun q hq=>by cases hq)⟩
theorem Fram.trans {ps:List Nat} (h:Fram s s' ps) (k:Fram s' s'' ps):Fram s s'' ps:=by
 obtain ⟨d,h1,h2⟩:=h.gn
 obtain ⟨d',k1,k2⟩:=k.gn
 refine ⟨⟨k.same.1.trans h.same.1,k.same.2.1.trans h.same.2.1,k.same.2.2.trans h.same.2.2⟩,fun q hq=>(k.M q hq).trans (h.M q hq),d++d',by rw [k1,h1,List.append_assoc],fun q hq=>?_⟩
 rcases List.mem_append.1 hq with hq | hq
 ·exact h2 q hq
 ·exact k2 q hq
theorem Fram.mono {ps ps':List Nat} (h:Fram s s' ps) (hp:∀ q ∈ ps,q ∈ ps'):Fram s s' ps':=by
 obtain ⟨d,h1,h2⟩:=h.gn
 exact ⟨h.same,fun q hq=>h.M q (fun h'=>hq (hp q h')),d,h1,fun q hq=>hp q (h2 q hq)⟩
theorem Cur.fram {ps:List Nat} (h:Fram s s' ps) {q l:Nat} {es:List En} (hc:Cur s q l es) (hq:q ∉ ps):Cur s' q l es:=by
 obtain ⟨h1,h2,h3⟩:=hc
 refine ⟨h1,h2,?_⟩
 rw [h.M q hq]
 cases hm:s.M q with
 | some x=>rw [hm] at h3;exact h3
 | none =>
  rw [hm] at h3
  obtain ⟨d,hd,hdp⟩:=h.gn
  dsimp only at h3 ⊢
  rw [h.same.1,h.same.2.1,hd]
  refine ⟨h3.1,fun hg=>?_⟩
  rcases List.mem_append.1 hg with hg | hg
  ·exact h3.2 hg
  ·exact hq (hdp q hg)
theorem rep_fram {ps:List Nat} (h:Fram s s' ps) {L:Nat} {t:Tr L} (hr:Rep (Cur s) t) (hd:∀ q ∈ t.pages,q ∉ ps):Rep (Cur s') t:=hr.congr fun q hq _ _ hc=>hc.fram h (hd q hq)
theorem Got.fram {q l:Nat} {es:List En} {x:NO} (h:Got s s' q l es x):Fram s s' [q]:=⟨⟨h.same.1,h.same.2.1,h.same.2.2.1⟩,fun j hj=>by rw [h.M,upd_other _ _ (by simpa using hj)],[],by rw [h.same.2.2.2,List.append_nil],(fun q hq=>by cases hq)⟩
theorem cur_some {q l:Nat} {es:List En} {x:NO} (h1:1≤q) (h2:q < 4096) (hm:s.M q=some x) (hl:x.level=l) (he:x.ens=es):Cur s q l es:=⟨h1,h2,by rw [hm];exact ⟨hl,he⟩⟩
def NodeIs (n n':NO) (es:List En):Prop:=n'.blk=n.blk∧n'.page=n.page∧n'.level=n.level∧n'.ens=es∧n'.sole=true∧n'.was=n.was∧n'.had=n.had
def JoinPost (K:Kc) (s:Hst) (i:Nat) (n:NO) {L:Nat} (ks:List (Kid L)) (at_:Nat) (e:Ending) (w':World):Prop :=
 e=.returned (.tuple #[])∧∃ s' ks' dead n',Hnd K s' w'∧JoinR ks at_ ks' dead∧s'.M i=some n'∧NodeIs n n' (ks'.map kEn)∧(∀ k ∈ ks',Rep (Cur s') k.2)∧s'.gn=s.gn++dead∧Fram s s' (i :: pgK ks)
structure JoinPre (K:Kc) (s:Hst) (i:Nat) (n:NO) {L:Nat} (ks:List (Kid L)) (w:World):Prop where
 H:Hnd K s w
 M:s.M i=some n
 sole:n.sole=true
 level:n.level=L+1
 ens:n.ens=ks.map kEn
 tidy:TidyK ks
 rep:∀ k ∈ ks,Rep (Cur s) k.2
 nodup:(pgK ks).Nodup
 apart:i ∉ pgK ks
set_option maxHeartbeats 1600000 in
/-- Where there are no two,nothing is done. -/
theorem join_end {i:Nat} {n:NO} {L:Nat} {ks:List (Kid L)} (h:JoinPre K s i n ks w) (at_:Nat) (hl:ks.length≤at_+1) (h5:at_≤1000) :
  Calls Tryz.prog 162 #[.pointer (some ⟨K.cb,0,none⟩),n.ptr,.int .i64 at_] w (JoinPost K s i n ks at_):=by
 have hn:=(h.H.node i n h.M).at_
 have c2:=hn.c2
 have hN:n.ens.length=ks.length:=by rw [h.ens,List.length_map]
 have HE:Hid (JoinPost K s i n ks at_ (.returned (.tuple #[])) w):=Lib.hid ⟨rfl,s,ks,[],n,h.H,.inr ⟨rfl,rfl,fun A a b B he hA=>by rw [he] at hl;simp at hl;omega⟩,h.M,⟨rfl,rfl,rfl,h.ens,h.sole,rfl,rfl⟩,h.rep,by simp,Fram.refl _ _⟩
 rw [hN] at c2
 obtain ⟨N,hNd⟩:∃ N,N=ks.length:=⟨_,rfl⟩
 rw [← hNd] at c2 hl
 unfold NO.ptr
 obtain ⟨nb,hnb⟩:∃ b,b=n.blk:=⟨_,rfl⟩
 rw [← hnb] at c2 ⊢
 have h1:(N:Int)≤(at_:Int)+1:=by omega
 clear h hn hN hNd hnb
 go_enter Tryz.func162,Tryz.ntmps162
 go_wp2
 go_end0
 exact HE.out
set_option maxHeartbeats 800000 in
theorem join_neg (a b:Value) (w:World):Calls Tryz.prog 162 #[a,b,.int .i64 (-1)] w fun e w'=>e=.returned (.tuple #[])∧w'=w:=by
 go_enter Tryz.func162,Tryz.ntmps162
 go_wp2
 exact bodyPost_ret (v:=.tuple #[]) (by simp [results,Tryz.results162,go_sem]) rfl ⟨rfl,rfl⟩
end
def mE (L:Nat) (k:List UInt8) (es fs:List En):List En:=es++(match fs with
 | []=>[]
 | e :: r=>(if L=0 then e else ⟨k,e.val⟩) :: r)
theorem mE_zero (k:List UInt8) (es fs:List En):mE 0 k es fs=es++fs:=by unfold mE;cases fs <;> rfl
theorem mE_len (L:Nat) (k:List UInt8) (es fs:List En):(mE L k es fs).length=es.length+fs.length:=by
 unfold mE;cases fs <;> simp
theorem mE_size {L:Nat} {a b:Kid L} (ha:Tidy a.2) (hb:Tidy b.2):szE (mE L b.1 a.2.ens b.2.ens)=a.2.size+b.2.size+sep L b.1:=by
 cases L with
 | zero=>rw [mE_zero,szE_append];simp [sep,Tr.size]
 | succ L =>
  have hk:=(loose_node.1 hb.1).1.1
  unfold mE Tr.size
  rw [szE_append]
  cases hks:b.2.ks with
  | nil=>exact absurd hks (ens_ne.1 hb.2.1)
  | cons b' Y =>
   rw [hks] at hk
   have hb0:b'.1=[]:=hk.1
   rw [ens_node b.2,hks,List.map_cons]
   simp only [szE,En.size,kEn,sep,hb0]
   rw [if_neg (by omega),if_neg (by omega)]
   simp only [List.length_nil]
   omega
theorem mE_short {L:Nat} {k:List UInt8} {es fs:List En} (h1:Short es) (h2:Short fs) (hk:k.length≤255) (hl:es.length+fs.length≤512):Short (mE L k es fs):=by
 refine ⟨by rw [mE_len];exact hl,fun e he=>?_⟩
 unfold mE at he
 rcases List.mem_append.1 he with he | he
 ·exact h1.2 e he
 ·cases fs with
  | nil=>cases he
  | cons f r =>
   rcases List.mem_cons.1 he with rfl | he
   ·split
    ·exact h2.2 f (by simp)
    ·exact ⟨hk,(h2.2 f (by simp)).2⟩
   ·exact h2.2 e (by simp [he])
theorem pages_sep {L:Nat} {A:List (Kid L)} {a b:Kid L} {B:List (Kid L)} (h:(pgK (A++a :: b :: B)).Nodup) :
  (∀ q ∈ pgK A,q ∉ a.2.pages∧q ∉ b.2.pages)∧(∀ q ∈ pgK B,q ∉ a.2.pages∧q ∉ b.2.pages)∧(∀ q ∈ a.2.pages,q ∉ b.2.pages)∧a.2.pages.Nodup∧b.2.pages.Nodup:=by
 rw [pgK_app,pgK_cons,pgK_cons,List.nodup_append] at h
 obtain ⟨_,h2,h3⟩:=h
 rw [List.nodup_append] at h2
 obtain ⟨h4,h5,h6⟩:=h2
 rw [List.nodup_append] at h5
 obtain ⟨h7,h8,h9⟩:=h5
 refine ⟨fun q hq=>⟨fun hm=>h3 q hq q (by simp [hm]) rfl,fun hm=>h3 q hq q (by simp [hm]) rfl⟩,fun q hq=>⟨fun hm=>h6 q hm q (by simp [hq]) rfl,fun hm=>h9 q hm q hq rfl⟩,fun q hq hm=>h6 q hq q (by simp [hm]) rfl,h4,h7⟩
theorem mem_pgK {L:Nat} {ks:List (Kid L)} {k:Kid L} (hk:k ∈ ks) {q:Nat} (hq:q ∈ k.2.pages):q ∈ pgK ks:=List.mem_flatMap.2 ⟨k,hk,hq⟩
structure Gone (K:Kc) (s s5:Hst) (i:Nat) (n:NO) {L:Nat} (A:List (Kid L)) (a b:Kid L) (B:List (Kid L)) (x':NO) (w:World):Prop where
 H:Hnd K s5 w
 n':∃ n',s5.M i=some n'∧NodeIs n n' ((A++a :: B).map kEn)
 x:s5.M a.2.page=some x'∧x'.level=L∧x'.ens=mE L b.1 a.2.ens b.2.ens∧x'.sole=true
 gn:s5.gn=s.gn++[b.2.page]
 fram:Fram s s5 [i,a.2.page,b.2.page]
section
variable {K:Kc} {s s5:Hst} {i:Nat} {n x':NO} {w w0:World}
theorem gone_zero {A:List (Kid 0)} {a b:Kid 0} {B:List (Kid 0)} (hp:JoinPre K s i n (A++a :: b :: B) w0) (hf:¬ Far a b) (g:Gone K s s5 i n A a b B x' w):JoinPost K s i n (A++a :: b :: B) A.length (.returned (.tuple #[])) w:=by
 obtain ⟨p1,p2,p3,p4,p5⟩:=pages_sep hp.nodup
 obtain ⟨n',hn,hni⟩:=g.n'
 obtain ⟨hx,hxl,hxe,hxs⟩:=g.x
 have ha:=hp.tidy.2 a (by simp)
 have hA:∀ q ∈ pgK A,q ∉ [i,a.2.page,b.2.page]:=fun q hq=>by
  simp only [List.mem_cons,List.not_mem_nil,or_false,not_or]
  exact ⟨fun e=>hp.apart (by rw [pgK_app];simp [← e,hq]),fun e=>(p1 q hq).1 (e ▸ page_mem _),fun e=>(p1 q hq).2 (e ▸ page_mem _)⟩
 have hB:∀ q ∈ pgK B,q ∉ [i,a.2.page,b.2.page]:=fun q hq=>by
  simp only [List.mem_cons,List.not_mem_nil,or_false,not_or]
  exact ⟨fun e=>hp.apart (by rw [pgK_app,pgK_cons,pgK_cons];simp [← e,hq]),fun e=>(p2 q hq).1 (e ▸ page_mem _),fun e=>(p2 q hq).2 (e ▸ page_mem _)⟩
 refine ⟨rfl,s5,A++(a.1,.leaf a.2.page (a.2.es++b.2.es)) :: B,[b.2.page],n',g.H,.inl ⟨A,a,b,B,_,rfl,rfl,hf,⟨rfl,rfl⟩,rfl⟩,hn,?_,fun k hk=>?_,g.gn,g.fram.mono fun q hq=>?_⟩
 ·have:(A++(a.1,Tr.leaf a.2.page (a.2.es++b.2.es)) :: B).map kEn=(A++a :: B).map kEn:=by simp [kEn]
  rw [this];exact hni
 ·simp only [List.mem_append,List.mem_cons] at hk
  rcases hk with hk | rfl | hk
  ·exact rep_fram g.fram (hp.rep k (by simp [hk])) fun q hq=>hA q (mem_pgK hk hq)
  ·exact cur_some ha.2.2.2.1 ha.2.2.2.2 hx hxl (by rw [hxe,mE_zero];rfl)
  ·exact rep_fram g.fram (hp.rep k (by simp [hk])) fun q hq=>hB q (mem_pgK hk hq)
 ·simp only [List.mem_cons,List.not_mem_nil,or_false] at hq
  rcases hq with rfl | rfl | rfl
  ·simp
  ·exact List.mem_cons_of_mem _ (mem_pgK (k:=a) (by simp) (page_mem _))
  ·exact List.mem_cons_of_mem _ (mem_pgK (k:=b) (by simp) (page_mem _))
variable {L:Nat} {A:List (Kid (L+1))} {a b:Kid (L+1)} {B:List (Kid (L+1))}
theorem gone_kids (hp:JoinPre K s i n (A++a :: b :: B) w0) (g:Gone K s s5 i n A a b B x' w) :
  ∃ X a' b' Y,a.2.ks=X++[a']∧b.2.ks=b' :: Y∧JoinPre K s5 a.2.page x' (X++a' :: (b.1,b'.2) :: Y) w∧X.length+1=a.2.ens.length:=by
 obtain ⟨p1,p2,p3,p4,p5⟩:=pages_sep hp.nodup
 obtain ⟨hx,hxl,hxe,hxs⟩:=g.x
 have ha:=hp.tidy.2 a (by simp)
 have hb:=hp.tidy.2 b (by simp)
 have hbk:=keysOk_mid hp.tidy.1
 obtain ⟨X,a',hX⟩:∃ X a',a.2.ks=X++[a']:=by
  rcases List.eq_nil_or_concat a.2.ks with e | ⟨X,a',e⟩
  ·exact absurd e (ens_ne.1 ha.2.1)
  ·exact ⟨X,a',by rw [e,List.concat_eq_append]⟩
 obtain ⟨b',Y,hY⟩:∃ b' Y,b.2.ks=b' :: Y:=by
  cases e:b.2.ks with
  | nil=>exact absurd e (ens_ne.1 hb.2.1)
  | cons b' Y=>exact ⟨b',Y,rfl⟩
 have hap:a.2.pages=a.2.page :: (pgK X++a'.2.pages):=by rw [pages_node,hX,pgK_app,pgK_cons,pgK_nil,List.append_nil]
 have hbp:b.2.pages=b.2.page :: (b'.2.pages++pgK Y):=by rw [pages_node,hY,pgK_cons]
 obtain ⟨ht1,hc1⟩:=loose_node.1 ha.1
 obtain ⟨ht2,hc2⟩:=loose_node.1 hb.1
 have hr1:=(hp.rep a (by simp)).kid
 have hr2:=(hp.rep b (by simp)).kid
 rw [hX] at ht1 hr1
 rw [hY] at ht2 hr2
 rw [hap] at p4
 rw [hbp] at p5
 have q4:=List.nodup_cons.1 p4
 have q5:=List.nodup_cons.1 p5
 have hia:i ∉ a.2.pages:=fun h=>hp.apart (mem_pgK (k:=a) (by simp) h)
 have hib:i ∉ b.2.pages:=fun h=>hp.apart (mem_pgK (k:=b) (by simp) h)
 have hba:b.2.page ∉ a.2.pages:=fun h=>p3 _ h (page_mem _)
 have hab:a.2.page ∉ b.2.pages:=fun h=>p3 _ (page_mem _) h
 have n1:∀ q ∈ pgK X++a'.2.pages,q ∉ [i,a.2.page,b.2.page]:=fun q hq=>by
  have hm:q ∈ a.2.pages:=by rw [hap];exact List.mem_cons_of_mem _ hq
  simp only [List.mem_cons,List.not_mem_nil,or_false,not_or]
  exact ⟨fun e=>hia (e ▸ hm),fun e=>q4.1 (e ▸ hq),fun e=>hba (e ▸ hm)⟩
 have n2:∀ q ∈ b'.2.pages++pgK Y,q ∉ [i,a.2.page,b.2.page]:=fun q hq=>by
  have hm:q ∈ b.2.pages:=by rw [hbp];exact List.mem_cons_of_mem _ hq
  simp only [List.mem_cons,List.not_mem_nil,or_false,not_or]
  exact ⟨fun e=>hib (e ▸ hm),fun e=>hab (e ▸ hm),fun e=>q5.1 (e ▸ hq)⟩
 have hpk:pgK (X++a' :: (b.1,b'.2) :: Y)=(pgK X++a'.2.pages)++(b'.2.pages++pgK Y):=by rw [pgK_app,pgK_cons,pgK_cons];simp
 refine ⟨X,a',b',Y,hX,hY,⟨g.H,hx,hxs,hxl,?_,⟨keysOk_sub (t:=a'.2) ht1.1 (fun u hu=>(List.mem_cons.1 hu).elim (fun e=>e ▸ hbk) (ht2.1.2 u)),fun u hu=>?_⟩,fun u hu=>?_,?_,?_⟩,?_⟩
 ·have hb0:b'.1=[]:=ht2.1.1
  rw [hxe,ens_node a.2,ens_node b.2,hX,hY]
  unfold mE
  simp [kEn]
 ·simp only [List.mem_append,List.mem_cons] at hu
  rcases hu with hu | rfl | rfl | hu
  ·exact ht1.2 u (by simp [hu])
  ·exact ht1.2 u (by simp)
  ·exact ht2.2 b' (by simp)
  ·exact ht2.2 u (by simp [hu])
 ·simp only [List.mem_append,List.mem_cons] at hu
  rcases hu with hu | rfl | rfl | hu
  ·exact rep_fram g.fram (hr1 u (by simp [hu])) fun q hq=>n1 q (List.mem_append.2 (.inl (mem_pgK hu hq)))
  ·exact rep_fram g.fram (hr1 u (by simp)) fun q hq=>n1 q (List.mem_append.2 (.inr hq))
  ·exact rep_fram g.fram (hr2 b' (by simp)) fun q hq=>n2 q (List.mem_append.2 (.inl hq))
  ·exact rep_fram g.fram (hr2 u (by simp [hu])) fun q hq=>n2 q (List.mem_append.2 (.inr (mem_pgK hu hq)))
 ·rw [hpk,List.nodup_append]
  refine ⟨q4.2,q5.2,fun q hq r hr e=>?_⟩
  subst e
  exact p3 q (by rw [hap];exact List.mem_cons_of_mem _ hq) (by rw [hbp];exact List.mem_cons_of_mem _ hr)
 ·rw [hpk]
  intro hm
  rcases List.mem_append.1 hm with hm | hm
  ·exact q4.1 hm
  ·exact hab (by rw [hbp];exact List.mem_cons_of_mem _ hm)
 ·rw [ens_node,hX];simp
theorem gone_succ (hp:JoinPre K s i n (A++a :: b :: B) w0) (hf:¬ Far a b) (g:Gone K s s5 i n A a b B x' w) {X:List (Kid L)} {a' b':Kid L} {Y:List (Kid L)} (hX:a.2.ks=X++[a']) (hY:b.2.ks=b' :: Y) {e:Ending} {w':World}
  (hj:JoinPost K s5 a.2.page x' (X++a' :: (b.1,b'.2) :: Y) X.length e w'):JoinPost K s i n (A++a :: b :: B) A.length e w':=by
 obtain ⟨rfl,s6,ks2,d2,x2,H6,hJ,hM6,hN6,hR6,hg6,hF6⟩:=hj
 obtain ⟨p1,p2,p3,p4,p5⟩:=pages_sep hp.nodup
 obtain ⟨n',hn,hni⟩:=g.n'
 obtain ⟨hx,hxl,hxe,hxs⟩:=g.x
 have ha:=hp.tidy.2 a (by simp)
 have hap:a.2.pages=a.2.page :: (pgK X++a'.2.pages):=by rw [pages_node,hX,pgK_app,pgK_cons,pgK_nil,List.append_nil]
 have hbp:b.2.pages=b.2.page :: (b'.2.pages++pgK Y):=by rw [pages_node,hY,pgK_cons]
 have hsub:∀ q ∈ a.2.page :: pgK (X++a' :: (b.1,b'.2) :: Y),q ∈ a.2.pages∨q ∈ b.2.pages:=fun q hq=>by
  rw [pgK_app,pgK_cons,pgK_cons] at hq
  rw [hap,hbp]
  simp only [List.mem_cons,List.mem_append] at hq ⊢
  rcases hq with h | h | h | h | h <;> simp [h]
 have hF:Fram s s6 (i :: (a.2.pages++b.2.pages)):=(g.fram.mono fun q hq=>by
  simp only [List.mem_cons,List.not_mem_nil,or_false] at hq
  rcases hq with rfl | rfl | rfl
  ·simp
  ·simp [page_mem]
  ·simp [page_mem]).trans (hF6.mono fun q hq=>by
   rcases hsub q hq with h | h <;> simp [h])
 have hA:∀ q ∈ pgK A,q ∉ i :: (a.2.pages++b.2.pages):=fun q hq=>by
  simp only [List.mem_cons,List.mem_append,not_or]
  exact ⟨fun e=>hp.apart (by rw [pgK_app];simp [← e,hq]),p1 q hq⟩
 have hB:∀ q ∈ pgK B,q ∉ i :: (a.2.pages++b.2.pages):=fun q hq=>by
  simp only [List.mem_cons,List.mem_append,not_or]
  exact ⟨fun e=>hp.apart (by rw [pgK_app,pgK_cons,pgK_cons];simp [← e,hq]),p2 q hq⟩
 have hiM:s6.M i=some n':=by
  rw [hF6.M i fun hm=>?_];exact hn
  rcases hsub i hm with h | h
  ·exact hp.apart (mem_pgK (k:=a) (by simp) h)
  ·exact hp.apart (mem_pgK (k:=b) (by simp) h)
 have hmg:∃ dd,Mrg a.2 b.1 b.2 (.node a.2.page ks2) dd∧dd=b.2.page :: d2:=by
  refine ⟨_,⟨X,a',b',Y,hX,hY,?_⟩,rfl⟩
  rcases hJ with ⟨A',a0,b0,B',m,he,hl,hnf,hm,rfl⟩ | ⟨rfl,rfl,hfar⟩
  ·obtain ⟨e0,e1⟩:=List.append_inj he hl.symm
   injection e1 with e1 e2
   injection e2 with e2 e3
   subst e0 e1 e2 e3
   exact .inr ⟨hnf,m,d2,hm,rfl,rfl⟩
  ·exact .inl ⟨hfar X a' (b.1,b'.2) Y rfl rfl,rfl,rfl⟩
 obtain ⟨dd,hmg,rfl⟩:=hmg
 refine ⟨rfl,s6,A++(a.1,.node a.2.page ks2) :: B,b.2.page :: d2,n',H6,.inl ⟨A,a,b,B,_,rfl,rfl,hf,hmg,rfl⟩,hiM,?_,fun k hk=>?_,?_,hF.mono fun q hq=>?_⟩
 ·have:(A++(a.1,Tr.node a.2.page ks2) :: B).map kEn=(A++a :: B).map kEn:=by simp [kEn]
  rw [this];exact hni
 ·simp only [List.mem_append,List.mem_cons] at hk
  rcases hk with hk | rfl | hk
  ·exact rep_fram hF (hp.rep k (by simp [hk])) fun q hq=>hA q (mem_pgK hk hq)
  ·refine Rep.mk ?_ hR6
   exact cur_some ha.2.2.2.1 ha.2.2.2.2 hM6 (hN6.2.2.1.trans hxl) hN6.2.2.2.1
  ·exact rep_fram hF (hp.rep k (by simp [hk])) fun q hq=>hB q (mem_pgK hk hq)
 ·rw [hg6,g.gn,List.append_assoc];rfl
 ·simp only [List.mem_cons,List.mem_append] at hq
  rcases hq with rfl | hq | hq
  ·simp
  ·exact List.mem_cons_of_mem _ (mem_pgK (k:=a) (by simp) hq)
  ·exact List.mem_cons_of_mem _ (mem_pgK (k:=b) (by simp) hq)
end
section
variable {K:Kc} {s s1 s2:Hst} {i:Nat} {n:NO} {w w2:World} {L:Nat}
theorem got_rep {t:Tr L} {x:NO} (hr:Rep (Cur s) t) (g:Got s s1 t.page L t.ens x) (hn:t.pages.Nodup) (h1:1≤t.page) (h2:t.page < 4096):Rep (Cur s1) t:=by
 have hc:Cur s1 t.page L t.ens:=cur_some h1 h2 (by rw [g.M,upd_same]) g.x.1 g.x.2.1
 cases L with
 | zero=>exact hc
 | succ L =>
  refine Rep.mk hc fun k hk=>rep_fram g.fram (hr.kid k hk) fun q hq=>?_
  rw [pages_node] at hn
  have:=(List.nodup_cons.1 hn).1
  rw [List.mem_singleton]
  intro e
  exact this (e ▸ mem_pgK hk hq)
theorem NodeAt.rowOf {X:Nat→Prop} {x:NO} (h:NodeAt X w x) (hne:x.ens≠[]):∃ b o L vs R,x.arr=some ⟨b,o,none⟩∧L.length=o∧RowV X w b L vs R x.ens:=by
 rcases h.ents with h0 | ⟨b,o,cs,ha,hb,hx,hc⟩
 ·exact absurd h0 hne
 ·obtain ⟨L,vs,R,h1,h2⟩:=EntsV.row (b:=b) (o:=o) (by rw [← ha];exact h.ents) hne
  exact ⟨b,o,L,vs,R,ha,h1,h2⟩
theorem RowV.reads {X:Nat→Prop} {b:Nat} {L vs R:List Value} {es:List En} (h:RowV X w b L vs R es):∀ j u,vs[j]? = some u→w.cell? ((⟨b,L.length,none⟩:Addr).add j)=some u:=fun j u hu=>by
 have hj:=(List.getElem?_eq_some_iff.1 hu).1
 rw [add_lit',Lib.cell_of_heap h.blk,List.getElem?_toArray,List.getElem?_append_right (by omega),Nat.add_sub_cancel_left,List.getElem?_append_left hj]
 exact hu
variable {A:List (Kid L)} {a b:Kid L} {B:List (Kid L)} {x y:NO}
structure TwoIn (K:Kc) (s s2:Hst) (i:Nat) (n:NO) {L:Nat} (A:List (Kid L)) (a b:Kid L) (B:List (Kid L)) (x y:NO) (w0 w:World):Prop where
 pre:JoinPre K s i n (A++a :: b :: B) w0
 H:Hnd K s2 w
 M:s2.M i=some n
 x:s2.M a.2.page=some x∧x.level=L∧x.ens=a.2.ens
 y:s2.M b.2.page=some y∧y.level=L∧y.ens=b.2.ens
 gn:s2.gn=s.gn
 fram:Fram s s2 [a.2.page,b.2.page]
 rep:∀ k ∈ A++a :: b :: B,Rep (Cur s2) k.2
theorem kid_page (hp:JoinPre K s i n (A++a :: b :: B) w):(1≤a.2.page∧a.2.page < 4096)∧(1≤b.2.page∧b.2.page < 4096)∧i≠a.2.page∧i≠b.2.page∧a.2.page≠b.2.page:=by
 obtain ⟨p1,p2,p3,p4,p5⟩:=pages_sep hp.nodup
 refine ⟨(hp.tidy.2 a (by simp)).2.2.2,(hp.tidy.2 b (by simp)).2.2.2,fun e=>hp.apart (e ▸ mem_pgK (k:=a) (by simp) (page_mem _)),fun e=>hp.apart (e ▸ mem_pgK (k:=b) (by simp) (page_mem _)),fun e=>p3 _ (page_mem _) (e ▸ page_mem _)⟩
theorem two_mk (hp:JoinPre K s i n (A++a :: b :: B) w) (G1:Got s s1 a.2.page L a.2.ens x) (H2:Hnd K s2 w2) (G2:Got s1 s2 b.2.page L b.2.ens y):TwoIn K s s2 i n A a b B x y w w2:=by
 obtain ⟨⟨a1,a2⟩,⟨b1,b2⟩,e1,e2,e3⟩:=kid_page hp
 obtain ⟨p1,p2,p3,p4,p5⟩:=pages_sep hp.nodup
 have hF:Fram s s2 [a.2.page,b.2.page]:=(G1.fram.mono (by simp)).trans (G2.fram.mono (by simp))
 refine ⟨hp,H2,?_,⟨?_,G1.x.1,G1.x.2.1⟩,⟨?_,G2.x.1,G2.x.2.1⟩,G2.same.2.2.2.trans G1.same.2.2.2,hF,fun k hk=>?_⟩
 ·rw [G2.M,upd_other _ _ e2,G1.M,upd_other _ _ e1];exact hp.M
 ·rw [G2.M,upd_other _ _ e3,G1.M,upd_same]
 ·rw [G2.M,upd_same]
 ·have hr:=hp.rep k hk
  simp only [List.mem_append,List.mem_cons] at hk
  rcases hk with hk | rfl | rfl | hk
  ·exact rep_fram hF hr fun q hq=>by
    have:=p1 q (mem_pgK hk hq)
    simp only [List.mem_cons,List.not_mem_nil,or_false,not_or]
    exact ⟨fun e=>this.1 (e ▸ page_mem _),fun e=>this.2 (e ▸ page_mem _)⟩
  ·exact rep_fram G2.fram (got_rep hr G1 p4 a1 a2) fun q hq=>by
    rw [List.mem_singleton]
    intro e
    exact p3 q hq (e ▸ page_mem _)
  ·refine got_rep (rep_fram G1.fram hr fun q hq=>?_) G2 p5 b1 b2
   rw [List.mem_singleton]
   intro e
   exact p3 _ (page_mem _) (e ▸ hq)
  ·exact rep_fram hF hr fun q hq=>by
    have:=p2 q (mem_pgK hk hq)
    simp only [List.mem_cons,List.not_mem_nil,or_false,not_or]
    exact ⟨fun e=>this.1 (e ▸ page_mem _),fun e=>this.2 (e ▸ page_mem _)⟩
theorem two_far (g:TwoIn K s s2 i n A a b B x y w w2) (hf:Far a b) {w':World} (hb:Below w2.heap.size w2 w'):JoinPost K s i n (A++a :: b :: B) A.length (.returned (.tuple #[])) w':=by
 refine ⟨rfl,s2,_,[],n,g.H.below hb,.inr ⟨rfl,rfl,fun A' a' b' B' he hl=>?_⟩,g.M,⟨rfl,rfl,rfl,g.pre.ens,g.pre.sole,rfl,rfl⟩,g.rep,by rw [g.gn,List.append_nil],g.fram.mono fun q hq=>?_⟩
 ·obtain ⟨e0,e1⟩:=List.append_inj he hl.symm
  injection e1 with e1 e2
  injection e2 with e2 e3
  subst e1 e2
  exact hf
 ·simp only [List.mem_cons,List.not_mem_nil,or_false] at hq
  rcases hq with rfl | rfl
  ·exact List.mem_cons_of_mem _ (mem_pgK (k:=a) (by simp) (page_mem _))
  ·exact List.mem_cons_of_mem _ (mem_pgK (k:=b) (by simp) (page_mem _))
theorem two_pack (t:TwoIn K s s2 i n A a b B x y w w2) {g c:Nat} {vs R:List Value} (hg:w2.heap.size≤g) (hp:PairsV (fun k=>s2.ρ k≠0) w2 vs (mE L b.1 a.2.ens b.2.ens)) (hc:(mE L b.1 a.2.ens b.2.ens).length≤c∧c≤maxLen) (hsh:Short (mE L b.1 a.2.ens b.2.ens)) (w5:World) (hb:Below w2.heap.size w2 w5) (hh:w5.heap[g]? = some (.cells (vs++R).toArray 135 (0,0))) :
  Calls Tryz.prog 85 #[n.ptr,.int .i64 ((A.length:Int)+1)] (w5.setCell ⟨x.blk,2,none⟩ (.slice (some ⟨g,0,none⟩) (mE L b.1 a.2.ens b.2.ens).length c)) fun e w6=>e=.returned (.tuple #[]) ∧
   Calls Tryz.prog 160 #[.pointer (some ⟨K.cb,0,none⟩),y.ptr] w6 fun e w7=>e=.returned (.tuple #[])∧∃ s5 x',x'.blk=x.blk∧w7.cell? ⟨x.blk,1,none⟩=some (.int .i64 L)∧Gone K s s5 i n A a b B x' w7:=by
 obtain ⟨⟨a1,a2⟩,⟨b1,b2⟩,e1,e2,e3⟩:=kid_page t.pre
 obtain ⟨ρ3,H3⟩:=t.H.newRow t.x.1 hb hg hh hp hc hsh
 have hM3:(upd s2.M a.2.page (some { x with ens:=mE L b.1 a.2.ens b.2.ens,arr:=some ⟨g,0,none⟩,cap:=c,sole:=true })) i=some n:=by rw [upd_other _ _ e1];exact t.M
 have hn3:=H3.node i n hM3
 have hens:n.ens=(A.map kEn++[kEn a])++kEn b :: B.map kEn:=by rw [t.pre.ens];simp
 have hal:(A.map kEn++[kEn a]).length=A.length+1:=by simp
 have hrm:=remove_ok _ n (A.map kEn++[kEn a]) (B.map kEn) (kEn b) _ hn3.at_ t.pre.sole hens
 rw [hal,show ((A.length+1:Nat):Int)=(A.length:Int)+1 by omega] at hrm
 refine hrm.mono ?_
 rintro e w6 hr
 have H6:=H3.removed hM3 t.pre.sole hr
 refine ⟨hr.1,?_⟩
 have hMy:upd (upd s2.M a.2.page (some { x with ens:=mE L b.1 a.2.ens b.2.ens,arr:=some ⟨g,0,none⟩,cap:=c,sole:=true })) i (some { n with ens:=hd0 n.level (A.map kEn++[kEn a]++B.map kEn) }) b.2.page=some y:=by
  rw [upd_other _ _ (Ne.symm e2),upd_other _ _ (Ne.symm e3)];exact t.y.1
 refine (leave_h H6 hMy ⟨b1,b2⟩).mono ?_
 rintro e w7 ⟨rfl,gv,ρ7,H7⟩
 have hhd:hd0 n.level (A.map kEn++[kEn a]++B.map kEn)=(A++a :: B).map kEn:=by
  have he:A.map kEn++[kEn a]++B.map kEn=(A++a :: B).map kEn:=by simp
  rw [he]
  have hk:=t.pre.tidy.1
  cases A with
  | nil =>
   have h0:a.1=[]:=hk.1
   simp [hd0,kEn,h0]
  | cons u A =>
   have h0:u.1=[]:=hk.1
   simp [hd0,kEn,h0]
 have hxM:upd (upd (upd s2.M a.2.page (some { x with ens:=mE L b.1 a.2.ens b.2.ens,arr:=some ⟨g,0,none⟩,cap:=c,sole:=true })) i (some { n with ens:=hd0 n.level (A.map kEn++[kEn a]++B.map kEn) })) b.2.page none a.2.page=some { x with ens:=mE L b.1 a.2.ens b.2.ens,arr:=some ⟨g,0,none⟩,cap:=c,sole:=true }:=by
  rw [upd_other _ _ e3,upd_other _ _ (Ne.symm e1),upd_same]
 have hx7:=(H7.node _ _ hxM).at_.c1
 refine ⟨rfl,_,{ x with ens:=mE L b.1 a.2.ens b.2.ens,arr:=some ⟨g,0,none⟩,cap:=c,sole:=true },rfl,by rw [← t.x.2.1];exact hx7,H7,⟨{ n with ens:=hd0 n.level (A.map kEn++[kEn a]++B.map kEn) },?_,rfl,rfl,rfl,hhd,t.pre.sole,rfl,rfl⟩,⟨hxM,t.x.2.1,rfl,rfl⟩,by show s2.gn++[b.2.page]=_;rw [t.gn],?_⟩
 ·show upd (upd (upd s2.M a.2.page _) i _) b.2.page none i=_
  rw [upd_other _ _ e2,upd_same]
 ·refine ⟨t.fram.same,fun q hq=>?_,[b.2.page],by show s2.gn++[b.2.page]=_;rw [t.gn],by simp⟩
  simp only [List.mem_cons,List.not_mem_nil,or_false,not_or] at hq
  show upd (upd (upd s2.M a.2.page _) i _) b.2.page none q=_
  rw [upd_other _ _ hq.2.2,upd_other _ _ hq.1,upd_other _ _ hq.2.1]
  exact t.fram.M q (by simp [hq.2.1,hq.2.2])
def JoinSaid (L:Nat):Prop:=∀ (K:Kc) (s:Hst) (i:Nat) (n:NO) (ks:List (Kid L)) (w:World),JoinPre K s i n ks w→∀ at_:Nat,at_≤900→Calls Tryz.prog 162 #[.pointer (some ⟨K.cb,0,none⟩),n.ptr,.int .i64 at_] w (JoinPost K s i n ks at_)
theorem gone_end {s5:Hst} {x':NO} {w0:World} (hL:L=0) (hp:JoinPre K s i n (A++a :: b :: B) w0) (hf:¬ Far a b) (g:Gone K s s5 i n A a b B x' w):JoinPost K s i n (A++a :: b :: B) A.length (.returned (.tuple #[])) w:=by
 subst hL
 exact gone_zero hp hf g
theorem gone_rec {s5:Hst} {x':NO} {w0:World} (ih:∀ L',L=L'+1→JoinSaid L') (hL:0 < L) (hp:JoinPre K s i n (A++a :: b :: B) w0) (hf:¬ Far a b) (g:Gone K s s5 i n A a b B x' w) :
  Calls Tryz.prog 162 #[.pointer (some ⟨K.cb,0,none⟩),x'.ptr,.int .i64 ((a.2.ens.length:Int) - 1)] w (JoinPost K s i n (A++a :: b :: B) A.length):=by
 cases L with
 | zero=>omega
 | succ L =>
  obtain ⟨X,a',b',Y,hX,hY,hpre,hl⟩:=gone_kids hp g
  have h5:a.2.ens.length≤512:=by
   have h1:=szE_len a.2.ens
   have h2:=(hp.tidy.2 a (by simp)).2.2.1
   unfold Tr.size at h2
   omega
  rw [show (a.2.ens.length:Int) - 1=(X.length:Int) by omega]
  exact (ih L rfl K s5 a.2.page x' _ w hpre X.length (by omega)).mono fun e w' hj=>gone_succ hp hf g hX hY hj
end
section
variable {K:Kc} {s:Hst} {i:Nat} {n:NO} {w:World} {L:Nat} {A:List (Kid L)} {a b:Kid L} {B:List (Kid L)}
theorem kid_at (hp:JoinPre K s i n (A++a :: b :: B) w):n.ens[A.length]? = some (kEn a)∧n.ens[A.length+1]? = some (kEn b):=by
 rw [hp.ens]
 constructor <;> simp
def ConQ (X:Nat→Prop) (w2:World) (L:Nat) (k:List UInt8) (es fs:List En) (n1 m1:Nat) (kv:Value) (e:Ending) (w':World):Prop :=
 ∃ g c vs R,e=.returned (.slice (some ⟨g,0,none⟩) (n1+m1) c)∧n1+m1≤c∧c≤maxLen∧w2.heap.size≤g∧Below w2.heap.size w2 w' ∧
  (∀ w'',w''=(if L=0 then w' else w'.setCell ⟨g,n1*2,none⟩ kv)→Below w2.heap.size w2 w''∧w''.heap[g]? = some (.cells (vs++R).toArray 135 (0,0)))∧PairsV X w2 vs (mE L k es fs)∧(∃ u,w'.cell? ⟨g,n1*2,none⟩=some u)∧w'.frozen? ⟨g,n1*2,none⟩=false∧g < w'.heap.size
theorem concat_q {X:Nat→Prop} {w2 W:World} {x y:NO} (hx:NodeAt X w2 x) (hy:NodeAt X w2 y) (hxe:x.ens≠[]) (hye:y.ens≠[]) (k:List UInt8) (kv:Value) (hk:BytesV X w2 kv k) (hb:Below w2.heap.size w2 W) :
  Calls Tryz.prog 187 #[.slice (some ⟨W.heap.size,0,none⟩) 2 2] (W.alloc (.cells #[.slice x.arr x.ens.length x.cap,.slice y.arr y.ens.length y.cap] 136)) (ConQ X w2 L k x.ens y.ens x.ens.length y.ens.length kv):=by
 obtain ⟨b1,o1,L1,V1,R1,ha1,hL1,r1⟩:=hx.rowOf hxe
 obtain ⟨b2,o2,L2,V2,R2,ha2,hL2,r2⟩:=hy.rowOf hye
 have hb2:Below w2.heap.size w2 (W.alloc (.cells #[.slice x.arr x.ens.length x.cap,.slice y.arr y.ens.length y.cap] 136)):=below_then_ hb ((Below.refl _ _).alloc (Nat.le_refl _) _)
 have hl1:b1 < w2.heap.size:=(Array.getElem?_eq_some_iff.1 r1.blk).1
 have hl2:b2 < w2.heap.size:=(Array.getElem?_eq_some_iff.1 r2.blk).1
 have hnew:=heap_alloc_new W (.cells #[.slice x.arr x.ens.length x.cap,.slice y.arr y.ens.length y.cap] 136)
 have hv1:=r1.pairs.len
 have hv2:=r2.pairs.len
 have p1:=List.length_pos_iff.2 hxe
 have p2:=List.length_pos_iff.2 hye
 refine (concat_ok W.heap.size x.ens.length y.ens.length x.cap y.cap ⟨b1,o1,none⟩ ⟨b2,o2,none⟩ V1 V2 _ (by rw [hnew,ha1,ha2]) hv1 hv2 ⟨p1,hx.short.1⟩ ⟨p2,hy.short.1⟩ (fun j u hu=>by rw [hb2.cell (p:=(⟨b1,o1,none⟩:Addr).add j) (by rw [addr_block];exact hl1),← hL1];exact r1.reads j u hu) (fun j u hu=>by rw [hb2.cell (p:=(⟨b2,o2,none⟩:Addr).add j) (by rw [addr_block];exact hl2),← hL2];exact r2.reads j u hu) r1.pairs.one r2.pairs.one ⟨Nat.lt_of_lt_of_le hl1 hb2.size,Nat.lt_of_lt_of_le hl2 hb2.size⟩).mono ?_
 rintro e w' ⟨g,c,R,rfl,h1,h2,h3,h4,h5⟩
 have hb3:Below w2.heap.size w2 w':=below_then_ hb2 h5
 have hgl:g < w'.heap.size:=(Array.getElem?_eq_some_iff.1 h4).1
 have hz:=hb2.size
 obtain ⟨f,r,hf⟩:∃ f r,y.ens=f :: r:=by cases he:y.ens with | nil=>exact absurd he hye | cons f r=>exact ⟨f,r,rfl⟩
 have hpy:=r2.pairs
 rw [hf] at hpy
 obtain ⟨fk,fv,Vr,rfl,k1,k2,k3⟩:=hpy.uncons
 refine ⟨g,c,V1++((if L=0 then fk else kv) :: fv :: Vr),R,rfl,h1,h2,Nat.le_trans hz h3,hb3,fun w'' hw=>?_,?_,⟨fk,?_⟩,by simp [World.frozen?,h4],hgl⟩
 ·by_cases h0:L=0
  ·rw [if_pos h0] at hw
   subst hw
   rw [if_pos h0]
   exact ⟨hb3,by rw [h4,List.append_assoc]⟩
  ·rw [if_neg h0] at hw
   rw [if_neg h0,hw]
   refine ⟨hb3.setCell (Nat.le_trans hz h3) _,?_⟩
   rw [heap_set h4]
   congr 2
   apply Array.ext'
   rw [Array.toList_setIfInBounds,List.toList_toArray,List.toList_toArray,List.set_append,if_neg (by omega),hv1,Nat.sub_self,List.append_assoc]
   rfl
 ·rw [hf]
  unfold mE
  refine r1.pairs.app ?_
  by_cases h0:L=0
  ·rw [if_pos h0];simp only [if_pos h0];exact ⟨k1,k2,k3⟩
  ·rw [if_neg h0];simp only [if_neg h0];exact ⟨hk,k2,k3⟩
 ·rw [Lib.cell_of_heap h4,List.getElem?_toArray,List.getElem?_append_right (by omega),hv1,Nat.sub_self];rfl
set_option maxHeartbeats 12800000 in
theorem join_step (ih:∀ L',L=L'+1→JoinSaid L') (hp:JoinPre K s i n (A++a :: b :: B) w) (h9:A.length≤900) :
  Calls Tryz.prog 162 #[.pointer (some ⟨K.cb,0,none⟩),n.ptr,.int .i64 A.length] w (JoinPost K s i n (A++a :: b :: B) A.length):=by
 obtain ⟨ka,kb⟩:=kid_at hp
 obtain ⟨⟨a1,a2⟩,⟨b1,b2⟩,e1,e2,e3⟩:=kid_page hp
 have ca:(kEn a).child=a.2.page:=kEn_child a (by omega)
 have cb:(kEn b).child=b.2.page:=kEn_child b (by omega)
 have hra:=(hp.rep a (by simp)).at_
 have hrb:=(hp.rep b (by simp)).at_
 have HC1:=Lib.hid (child_h hp.H hp.M ka rfl hp.level (by rw [ca];exact hra))
 rw [ca] at HC1
 have c2:=((hp.H.node i n hp.M).at_).c2
 have hNl:n.ens.length=A.length+2+B.length:=by rw [hp.ens,List.length_map];simp;omega
 have hL9:=(hp.H.node i n hp.M).at_.small.2.1
 rw [hp.level] at hL9
 have hta:=hp.tidy.2 a (by simp)
 have htb:=hp.tidy.2 b (by simp)
 have hkb:=keysOk_mid hp.tidy.1
 have hsz:=mE_size hta htb
 have hn5:=(hp.H.node i n hp.M).at_.short.1
 obtain ⟨N,hN⟩:∃ N,N=n.ens.length:=⟨_,rfl⟩
 rw [← hN] at c2 hNl hn5
 obtain ⟨al,hal⟩:∃ l,l=A.length:=⟨_,rfl⟩
 rw [← hal] at HC1 hNl h9 ⊢
 have hlt1:¬ ((N:Int)≤(al:Int)+1):=by omega
 have HIH:=Lib.hid ih;have HP:=Lib.hid hp
 have HKB:=Lib.hid kb;have HCB:=Lib.hid cb;have HAL:=Lib.hid hal;have HRB:=Lib.hid hrb;have HNN:=Lib.hid hN
 have HSZ:=Lib.hid hsz;have HTA:=Lib.hid hta;have HTB:=Lib.hid htb
 have hxb:=hp.H.node i n hp.M
 clear ih ka kb ca cb hra hrb hal hN hsz hta htb a1 a2 b1 b2
 obtain ⟨nb,hnb⟩:∃ b,b=n.blk:=⟨_,rfl⟩
 have HNB:=Lib.hid hnb
 have hnp:n.ptr=.pointer (some ⟨nb,0,none⟩):=by unfold NO.ptr;rw [hnb]
 rw [hnp] at HC1 ⊢
 rw [← hnb] at c2
 clear hnb hnp hxb hp
 go_enter Tryz.func162,Tryz.ntmps162
 go_wp2_with fail
 refine HC1.out.mono ?_
 rintro e w1 ⟨x,s1,rfl,H1,G1⟩
 have HC2:Hid (Calls Tryz.prog 159 #[.pointer (some ⟨K.cb,0,none⟩),.pointer (some ⟨nb,0,none⟩),.int .i64 ((al:Int)+1)] w1 fun e w2=>∃ y s2,e=.returned y.ptr∧TwoIn K s s2 i n A a b B x y w w2):=Lib.hid (by
  obtain ⟨_,_,e1,e2,e3⟩:=kid_page HP.out
  have hM1:s1.M i=some n:=by rw [G1.M,upd_other _ _ e1];exact HP.out.M
  have hc:Cur s1 b.2.page L b.2.ens:=HRB.out.fram G1.fram (by rw [List.mem_singleton];exact Ne.symm e3)
  have:=child_h H1 hM1 (at_:=al+1) (by rw [HAL.out];exact HKB.out) rfl HP.out.level (by rw [HCB.out];exact hc)
  rw [show ((al+1:Nat):Int)=(al:Int)+1 by omega] at this
  have hnp:n.ptr=.pointer (some ⟨nb,0,none⟩):=by unfold NO.ptr;rw [HNB.out]
  rw [hnp] at this
  refine this.mono ?_
  rintro e w2 ⟨y,s2,rfl,H2,G2⟩
  rw [HCB.out] at G2
  exact ⟨y,s2,rfl,two_mk HP.out G1 H2 G2⟩)
 clear H1 G1 c2
 go_wp2_with fail
 refine HC2.out.mono ?_
 rintro e w2 ⟨y,s2,rfl,ht⟩
 have hxn:=(ht.H.node _ x ht.x.1).at_
 have hyn:=(ht.H.node _ y ht.y.1).at_
 have hnn:=(ht.H.node _ n ht.M).at_
 have x1:=hxn.c1
 have x2:=hxn.c2
 have y1:=hyn.c1
 have y2:=hyn.c2
 have n2:=hnn.c2
 rw [ht.x.2.1] at x1
 rw [ht.y.2.1] at y1
 have hxe:x.ens≠[]:=by rw [ht.x.2.2];exact HTA.out.2.1
 have hye:y.ens≠[]:=by rw [ht.y.2.2];exact HTB.out.2.1
 have hyl:=List.length_pos_iff.2 hye
 have hx5:=hxn.short.1
 have hxl:=hxn.lt
 have hnl:=hnn.lt
 have fx:=hxn.frozen 2
 -- the key above the second one
 obtain ⟨gb,go,kv,vv,hna,hgl,hgf,hgk,_,hgB,_⟩:=hnn.ents.at_ (i:=A.length+1) HKB.out
 obtain ⟨kA,kcap,hkv,_⟩:=id hgB
 obtain ⟨kl,hkl⟩:∃ z,z=(kEn b).key.length:=⟨_,rfl⟩
 rw [← hkl] at hkv
 subst hkv
 clear hkl
 have HCO:Hid (∀ W,Below w2.heap.size w2 W→Calls Tryz.prog 187 #[.slice (some ⟨W.heap.size,0,none⟩) 2 2] (W.alloc (.cells #[.slice x.arr x.ens.length x.cap,.slice y.arr y.ens.length y.cap] 136)) (ConQ (fun k=>s2.ρ k≠0) w2 L b.1 x.ens y.ens x.ens.length y.ens.length (.slice kA kl kcap))):=Lib.hid fun W hb=>concat_q hxn hyn hxe hye b.1 _ hgB hb
 have HT:=Lib.hid ht
 have hsh:Short (mE L b.1 x.ens y.ens):=mE_short hxn.short hyn.short (by have:=keysOk_mid HP.out.tidy.1;omega) (by
  have h1:=szE_len x.ens;have h2:=szE_len y.ens
  have h3:=HTA.out.2.2.1;have h4:=HTB.out.2.2.1
  unfold Tr.size at h3 h4
  rw [← ht.x.2.2] at h3
  rw [← ht.y.2.2] at h4
  omega)
 have HSH:=Lib.hid hsh
 have HSZ2:Hid (szE (mE L b.1 x.ens y.ens)=a.2.size+b.2.size+sep L b.1):=Lib.hid (by rw [ht.x.2.2,ht.y.2.2];exact HSZ.out)
 have HXE:=Lib.hid ht.x.2.2;have HYE:=Lib.hid ht.y.2.2
 rw [hna] at n2
 rw [← HAL.out] at hgk
 have hsole:=HP.out.sole
 obtain ⟨gb',hgb'⟩:=hnn.alone HP.out.sole (by rw [HP.out.ens];simp)
 rw [hna] at hgb'
 injection hgb' with hgb'
 injection hgb' with hgb1 hgb2
 subst hgb1 hgb2
 rw [Nat.zero_add] at hgk
 rw [← HNN.out] at n2
 rw [← HNB.out] at n2 hnl
 obtain ⟨n1,hn1⟩:∃ l,l=x.ens.length:=⟨_,rfl⟩
 obtain ⟨m1,hm1⟩:∃ l,l=y.ens.length:=⟨_,rfl⟩
 rw [← hn1] at x2 hx5 HCO
 rw [← hm1] at y2 hyl HCO
 have HN1:=Lib.hid hn1;have HM1:=Lib.hid hm1
 have hy5:m1≤512:=by rw [hm1];exact hyn.short.1
 have hm0:decide (m1=0)=false:=decide_eq_false (by omega)
 have hm0':((m1:Int) == 0)=false:=by simp;omega
 have hcapn:=hnn.cap.1
 rw [← HNN.out] at hcapn
 obtain ⟨xb,hxb⟩:∃ b,b=x.blk:=⟨_,rfl⟩
 obtain ⟨yb,hyb⟩:∃ b,b=y.blk:=⟨_,rfl⟩
 have HXB:=Lib.hid hxb;have HYB:=Lib.hid hyb
 rw [← hxb] at x1 x2 hxl fx
 rw [← hyb] at y1 y2
 obtain ⟨xa,hxa⟩:∃ b,b=x.arr:=⟨_,rfl⟩
 obtain ⟨ya,hya⟩:∃ b,b=y.arr:=⟨_,rfl⟩
 obtain ⟨xc,hxc⟩:∃ b,b=x.cap:=⟨_,rfl⟩
 obtain ⟨yc,hyc⟩:∃ b,b=y.cap:=⟨_,rfl⟩
 obtain ⟨ncp,hncp⟩:∃ b,b=n.cap:=⟨_,rfl⟩
 rw [← hxa,← hxc] at x2
 rw [← hya,← hyc] at y2
 rw [← hxa,← hxc,← hya,← hyc] at HCO
 rw [← hncp] at n2 hcapn
 unfold NO.ptr
 rw [← hxb,← hyb]
 clear ht hxn hyn hnn hxe hye hsh hn1 hm1 hxb hyb hxa hya hxc hyc hncp hna hgB hgf hsole HC1 HC2
 have HXC:=Lib.hid (And.intro x1 (And.intro x2 (And.intro y1 (And.intro y2 n2))))
 go_wp2
 go_quiet (fail)
 go_wp2
 obtain ⟨W1,hW1⟩:∃ W1,W1=w2.drewN nq:=⟨_,rfl⟩
 rw [← hW1]
 have hb1:Below w2.heap.size w2 W1:=by rw [hW1];exact below_drewN _ _
 have x2':W1.cell? ⟨xb,2,none⟩=some (.slice xa n1 xc):=by rw [hW1];exact x2
 have y2':W1.cell? ⟨yb,2,none⟩=some (.slice ya m1 yc):=by rw [hW1];exact y2
 have HB1:Hid (Below w2.heap.size w2 W1.drew):=Lib.hid hb1.drew
 clear hW1 hb1 x1 x2 y1 y2 n2 hm0 hm0'
 go_still_tail 8,(by kernel_rfl)
 go_wp2_with fail
 refine (HCO.out _ HB1.out).mono ?_
 rintro e w3 ⟨g,c,vs,R,rfl,hc1,hc2,hg,hb3,hall,hpr,⟨u,hu⟩,hfz,hgw⟩
 have HALL:=Lib.hid hall;have HPR:=Lib.hid hpr;have HB3:=Lib.hid hb3
 clear hall hpr x2' y2'
 have x1:w3.cell? ⟨xb,1,none⟩=some (.int .i64 L):=(hb3.cell (p:=⟨xb,1,none⟩) hxl).trans HXC.out.1
 have hxl3:xb < w3.heap.size:=Nat.lt_of_lt_of_le hxl hb3.size
 have x2':w3.cell? ⟨xb,2,none⟩=some (.slice xa n1 xc):=(hb3.cell (p:=⟨xb,2,none⟩) hxl).trans HXC.out.2.1
 have fx3:w3.frozen? ⟨xb,2,none⟩=false:=(hb3.frozen (p:=⟨xb,2,none⟩) hxl).trans fx
 have n2':w3.cell? ⟨nb,2,none⟩=some (.slice (some ⟨gb,0,none⟩) N ncp):=(hb3.cell (p:=⟨nb,2,none⟩) hnl).trans HXC.out.2.2.2.2
 have k3:w3.cell? ⟨gb,(al+1)*2,none⟩=some (.slice kA kl kcap):=(hb3.cell (p:=⟨gb,(al+1)*2,none⟩) hgl).trans hgk
 have hgb3:gb < w3.heap.size:=Nat.lt_of_lt_of_le hgl hb3.size
 have hne1:xb≠g:=by omega
 have hne2:gb≠g:=by omega
 have hne3:nb≠g:=by omega
 have hnl3:nb < w3.heap.size:=Nat.lt_of_lt_of_le hnl hb3.size
 have hlen:(mE L b.1 a.2.ens b.2.ens).length=n1+m1:=by rw [mE_len,← HXE.out,← HYE.out,HN1.out,HM1.out]
 have HLEN:=Lib.hid hlen
 clear hb3 hlen hgk
 -- what there is behind the sizes
 have HSO:Hid (∀ W4 W5:World,Below w2.heap.size w2 W4→W4.heap[g]? = some (.cells (vs++R).toArray 135 (0,0))→Below W4.heap.size W4 W5→Calls Tryz.prog 184 #[.slice (some ⟨g,0,none⟩) (n1+m1) c] W5 fun e w'=>e=.returned (.int .i64 (szE (mE L b.1 x.ens y.ens)))∧Below W5.heap.size W5 w'):=Lib.hid fun W4 W5 hb4 hh4 hb5=>by
  have hgl4:g < W4.heap.size:=(Array.getElem?_eq_some_iff.1 hh4).1
  have hr:RowV (fun k=>s2.ρ k≠0∨k=g) W5 g [] vs R (mE L b.1 x.ens y.ens):=by
   refine ⟨(hb5.block g hgl4).trans hh4,.inr rfl,?_⟩
   rw [HN1.out,HM1.out] at *
   refine (HPR.out.kept (X':=fun k=>s2.ρ k≠0∨k=g) (Kept.ofBelow (S:=fun _=>False) (below_then_ hb4 hb5)) (fun _ _ h=>h.elim) (fun k hk h=>h.elim id fun e=>?_))
   subst e;omega
  exact sizeOf_any _ _ _ _ c W5 (by rw [mE_len,HN1.out,HM1.out]) hr.ents HSH.out
 have HPK:Hid (∀ w5:World,Below w2.heap.size w2 w5→w5.heap[g]? = some (.cells (vs++R).toArray 135 (0,0))→Calls Tryz.prog 85 #[.pointer (some ⟨nb,0,none⟩),.int .i64 ((al:Int)+1)] (w5.setCell ⟨xb,2,none⟩ (.slice (some ⟨g,0,none⟩) (n1+m1) c)) fun e w6=>e=.returned (.tuple #[]) ∧
   Calls Tryz.prog 160 #[.pointer (some ⟨K.cb,0,none⟩),.pointer (some ⟨yb,0,none⟩)] w6 fun e w7=>e=.returned (.tuple #[])∧∃ s5 x',x'.blk=xb∧w7.cell? ⟨xb,1,none⟩=some (.int .i64 L)∧Gone K s s5 i n A a b B x' w7):=Lib.hid fun w5 hb hh=>by
  have h1:=two_pack HT.out hg (by rw [← HXE.out,← HYE.out];exact HPR.out) (c:=c) (by rw [HLEN.out];exact ⟨hc1,hc2⟩) (by rw [← HXE.out,← HYE.out];exact HSH.out) w5 hb hh
  rw [HLEN.out] at h1
  unfold NO.ptr at h1
  rw [← HXB.out,← HYB.out,← HNB.out,← HAL.out] at h1
  exact h1
 have HSZ3:Hid (Far a b ↔ 510 < szE (mE L b.1 x.ens y.ens)):=Lib.hid (by rw [HSZ2.out];exact Iff.rfl)
 have hsz5:szE (mE L b.1 x.ens y.ens)≤300000:=short_sz HSH.out
 obtain ⟨sz,hszd⟩:∃ z,z=szE (mE L b.1 x.ens y.ens):=⟨_,rfl⟩
 rw [← hszd] at HSZ3 hsz5 HSO
 have HXE2:=Lib.hid HXE.out
 clear hszd HPR HSH HSZ2 HXE HYE HLEN
 unfold maxLen at hc2
 by_cases hl0:L=0
 ·obtain ⟨hb4,hh4⟩:=HALL.out w3 (by rw [if_pos hl0])
  have hnl0:¬ ((0:Int) < (L:Int)):=by omega
  have HB4:=Lib.hid hb4;have HH4:=Lib.hid hh4
  clear hb4 hh4 HALL hu
  by_cases hf:Far a b
  ·have hbig:(510:Int) < (sz:Int):=by have:=HSZ3.out.1 hf;omega
   clear HSZ3
   go_wp2_with fail
   refine (HSO.out w3 w3 HB4.out HH4.out (Below.refl _ _)).mono ?_
   rintro e w5 ⟨rfl,hb5⟩
   have HE:=Lib.hid (two_far HT.out hf (below_then_ HB4.out hb5))
   rw [← HAL.out] at HE
   clear hb5
   go_wp2
   first | (go_end0;exact HE.out) | exact bodyPost_ret (v:=.tuple #[]) (by simp [results,Tryz.results162,go_sem]) rfl HE.out
  ·have hsm:¬ ((510:Int) < (sz:Int)):=fun h=>hf (HSZ3.out.2 (by omega))
   clear HSZ3
   go_wp2_with fail
   refine (HSO.out w3 w3 HB4.out HH4.out (Below.refl _ _)).mono ?_
   rintro e w5 ⟨rfl,hb5⟩
   have HPK2:=Lib.hid (HPK.out w5 (below_then_ HB4.out hb5) ((hb5.block g hgw).trans HH4.out))
   have x2'':w5.cell? ⟨xb,2,none⟩=some (.slice xa n1 xc):=(hb5.cell (p:=⟨xb,2,none⟩) hxl3).trans x2'
   have fx5:w5.frozen? ⟨xb,2,none⟩=false:=(hb5.frozen (p:=⟨xb,2,none⟩) hxl3).trans fx3
   clear hb5 x2' fx3 x1 n2' k3
   go_wp2_with fail
   refine HPK2.out.mono ?_
   rintro e w6 ⟨rfl,hlv⟩
   have HLV:=Lib.hid hlv
   clear hlv x2'' fx5
   go_wp2_with fail
   refine HLV.out.mono ?_
   rintro e w7 ⟨rfl,s5,x',hxb',x7,hgo⟩
   have HE:=Lib.hid (gone_end hl0 HP.out hf hgo)
   rw [← HAL.out] at HE
   clear hgo hxb'
   go_wp2
   first | (go_end0;exact HE.out) | exact bodyPost_ret (v:=.tuple #[]) (by simp [results,Tryz.results162,go_sem]) rfl HE.out
 ·have hlp:(0:Int) < (L:Int):=by omega
  obtain ⟨W4,hW4⟩:∃ W4,W4=w3.setCell ⟨g,n1*2,none⟩ (.slice kA kl kcap):=⟨_,rfl⟩
  obtain ⟨hb4,hh4⟩:=HALL.out W4 (by rw [if_neg hl0,hW4])
  have HB4:=Lib.hid hb4;have HH4:=Lib.hid hh4;have HW4:=Lib.hid hW4
  clear hW4
  have f1:n1 < n1+m1:=by omega
  have f2:(n1:Int) < (n1:Int)+(m1:Int):=by omega
  have f3:(0:Int)≤(al:Int)+1:=by omega
  have f4:(al:Int)+1 < (N:Int):=by omega
  have f5:((al:Int)+1).toNat=al+1:=by omega
  clear hb4 hh4 HALL
  by_cases hf:Far a b
  ·have hbig:(510:Int) < (sz:Int):=by have:=HSZ3.out.1 hf;omega
   clear HSZ3
   go_wp2_with fail
   rw [← HW4.out]
   refine (HSO.out W4 W4 HB4.out HH4.out (Below.refl _ _)).mono ?_
   rintro e w5 ⟨rfl,hb5⟩
   have HE:=Lib.hid (two_far HT.out hf (below_then_ HB4.out hb5))
   rw [← HAL.out] at HE
   clear hb5
   go_wp2
   first | (go_end0;exact HE.out) | exact bodyPost_ret (v:=.tuple #[]) (by simp [results,Tryz.results162,go_sem]) rfl HE.out
  ·have hsm:¬ ((510:Int) < (sz:Int)):=fun h=>hf (HSZ3.out.2 (by omega))
   clear HSZ3
   go_wp2_with fail
   rw [← HW4.out]
   refine (HSO.out W4 W4 HB4.out HH4.out (Below.refl _ _)).mono ?_
   rintro e w5 ⟨rfl,hb5⟩
   have hb35:Below w2.heap.size w2 w5:=below_then_ HB4.out hb5
   have HPK2:=Lib.hid (HPK.out w5 hb35 ((hb5.block g (by have:=hb5.size;exact (Array.getElem?_eq_some_iff.1 HH4.out).1)).trans HH4.out))
   have x2'':w5.cell? ⟨xb,2,none⟩=some (.slice xa n1 xc):=(hb35.cell (p:=⟨xb,2,none⟩) hxl).trans HXC.out.2.1
   have fx5:w5.frozen? ⟨xb,2,none⟩=false:=(hb35.frozen (p:=⟨xb,2,none⟩) hxl).trans fx
   clear hb5 hb35 x2' fx3 x1 n2' k3 hu
   go_wp2_with fail
   refine HPK2.out.mono ?_
   rintro e w6 ⟨rfl,hlv⟩
   have HLV:=Lib.hid hlv
   clear hlv x2'' fx5
   go_wp2_with fail
   refine HLV.out.mono ?_
   rintro e w7 ⟨rfl,s5,x',hxb',x7,hgo⟩
   have hrec:=gone_rec HIH.out (by omega) HP.out hf hgo
   unfold NO.ptr at hrec
   rw [hxb',← HXE2.out,← HN1.out,← HAL.out] at hrec
   have HRC:=Lib.hid hrec
   clear hgo hxb' hrec
   go_wp2_with fail
   refine HRC.out.mono ?_
   rintro e w8 hpo
   obtain ⟨rfl,hpo2⟩:=id hpo
   have HE:=Lib.hid hpo
   clear hpo hpo2
   go_wp2
   first | (go_end0;exact HE.out) | exact bodyPost_ret (v:=.tuple #[]) (by simp [results,Tryz.results162,go_sem]) rfl HE.out
end
end Go.Proofs.YtfbbjiidccbaiaaGreatDoor
