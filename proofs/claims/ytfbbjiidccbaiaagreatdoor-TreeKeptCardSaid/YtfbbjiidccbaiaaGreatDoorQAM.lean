/- Texts of one proof, one behind the other: UI, UJ, UK, UL, UM, UN, UO. -/
import Derived.Test.YtfbbjiidccbaiaaGreatDoorQAK
import Derived.Test.YtfbbjiidccbaiaaGreatDoorQAL
import Derived.Deep.RegionLaw
import Derived.Test.YtfbbjiidccbaiaaGreatDoorQAA
set_option maxRecDepth 100000
set_option maxHeartbeats 6400000
namespace Go.Proofs.YtfbbjiidccbaiaaGreatDoor
open Go.RowKit
def Cur (s:Hst)(q l:Nat)(es:List En):Prop:=1<=q/\q<4096/\(match s.M q with
 | some x=>x.level=l/\x.ens=es
 | none=>FF s.h s.G q l es/\q ∉ s.gn)
structure Got (s s':Hst)(q l:Nat)(es:List En)(x:NO):Prop where
 M:s'.M=upd s.M q (some x)
 same:s'.h=s.h/\s'.G=s.G/\s'.tk=s.tk/\s'.gn=s.gn
 x:x.level=l/\x.ens=es/\(s.M q=some x\/s.M q=none/\x.sole=true/\x.had=szE es)
theorem BW0 {α:Type}{F:Nat->α}{q:Nat}{x:α}(h:F q=x):upd F q x=F:=by
 funext i
 by_cases hi:i=q
 ·subst hi;rw[AB,h]
 ·rw[AA _ _ hi]
theorem LR {ops:Array Oper}{o:Oper}{a:Act}{K:Act->World->Prop}{Q:Exit->Act->World->Prop}{E:Prop}{w w':World}(hgd:o.guard=none)(m x v:Operand)(t:TypeId)(ho:o.op=Op.mapUpdate t m x v)
  (mv xv vv:Value) (hm:a.eval m=mv) (hx:a.eval x=xv) (hv:a.eval v=vv) (hr:(Instr.mapUpdate t mv xv vv).run Tryz.prog w=.ok () w') (h:K (a.put o.dst undef) w') :
  if Region.wanted o (yielded ops a.tmps)=true then Oper.wp Tryz.prog o a w K Q else E:=by
 have hw:Region.wanted o (yielded ops a.tmps)=true:=by simp[Region.wanted,hgd]
 rw[if_pos hw];unfold Oper.wp;simp[execOp,ho,hm,hx,hv,hr,Result.andThen];exact h
section
variable {K:Kc} {s:Hst} {w w':World}
theorem Hnd.cb0 (H:Hnd K s w):w.cell? ⟨K.cb,0,none⟩=some (.pointer (some ⟨K.tb,0,none⟩)):=by rw[yC H.chg.1];rfl
theorem Hnd.cb1 (H:Hnd K s w):w.cell? ⟨K.cb,1,none⟩=some (.map (some K.mb)):=by rw[yC H.chg.1];rfl
theorem Hnd.cb2 (H:Hnd K s w):w.cell? ⟨K.cb,2,none⟩=some K.wv:=by rw[yC H.chg.1];rfl
theorem Hnd.cb3 (H:Hnd K s w):w.cell? ⟨K.cb,3,none⟩=some s.av:=by rw[yC H.chg.1];rfl
theorem Hnd.cb4 (H:Hnd K s w):w.cell? ⟨K.cb,4,none⟩=some s.gv:=by rw[yC H.chg.1];rfl
theorem Hnd.cbf (H:Hnd K s w)(j:Nat):w.frozen? ⟨K.cb,j,none⟩=false:=by simp[World.frozen?,H.chg.1]
theorem Hnd.cbl (H:Hnd K s w):K.cb<w.heap.size:=(Array.getElem?_eq_some_iff.1 H.chg.1).1
theorem Hnd.nS (H:Hnd K s w){q:Nat}{x:NO}(h:s.M q=some x):¬s.S x.blk:=λhs=>by
 have h1:=H.sub _ hs;rw[(H.node q x h).blk]at h1;omega
theorem AY9 (w:World):(zeroValue 127).run Tryz.prog w=.ok (.pointer none) w:=by kernel_rfl
theorem Hnd.look (H:Hnd K s w){q:Nat}(hq:1<=q/\q<4096):(Instr.lookup 184 (.map (some K.mb)) (.int .i64 q) false).run Tryz.prog w=.ok (((s.M q).map NO.ptr).getD (.pointer none)) w:=by
 obtain⟨m,hm⟩:=H.map.1;have:=hm.look (t:=184) (e:=127) Tryz.underlying184 (AY9 w) q hq.2
 rw[IR _ hq]at this;exact this
theorem QX (H:Hnd K s w){i:Nat}{n:NO}(hM:s.M i=some n){at_:Nat}{en:En}(hen:n.ens[at_]? = some en)(hv:en.val.length=2){l:Nat}(hl:n.level=l+1)(hq:1<=en.child/\en.child<4096){x:NO}(hx:s.M en.child=some x)(hxl:x.level=l) :
  Calls Tryz.prog 159 #[.pointer (some ⟨K.cb,0,none⟩),n.ptr,.int .i64 at_] w λe w'=>e=.returned x.ptr/\Hnd K s w':=by
 have hn:=H.node i n hM;have hxn:=H.node _ x hx;have HCH:=yH (F6 _ n at_ en w hn.at_ hen hv);obtain⟨q,hqd⟩:∃q,q=en.child:=⟨_,rfl⟩;rw[<-hqd]at HCH hq hx;have HLK:Hid (∀k,(Instr.lookup 184 (.map (some K.mb)) (.int .i64 q) false).run Tryz.prog (w.drewN k)=.ok x.ptr (w.drewN k)):=yH λk=>by
  have:=(H.below (AF w k)).look hq
  rw[hx]at this;exact this
 have c1:=H.cb1;have n1:=hn.at_.c1;have x1:=hxn.at_.c1;have hlv:=hn.at_.small.2.1;rw[hl]at n1 hlv;rw[hxl]at x1;have HE2:Hid (∀k j,Hnd K s ((w.drewN k).drewN j)):=yH λk j=>(H.below (AF w k)).below (AF _ j)
 have elv:IntKind.i64.wrap ((l:Int)+1-1)=l:=IntWalk.i64_in _ (by omega) |>.trans (by omega)
 unfold NO.ptr at *
 obtain⟨nb,hnb⟩:∃b,b=n.blk:=⟨_,rfl⟩;obtain⟨xb,hxb⟩:∃b,b=x.blk:=⟨_,rfl⟩;rw[<-hnb]at n1 HCH ⊢
 rw[<-hxb]at x1 HLK ⊢
 clear H hM hen hv hl hq hx hxl hn hxn hqd hnb hxb;go_enter Tryz.func159,Tryz.ntmps159;go_wp2_with fail;refine HCH.out.mono ?_;rintro e w' ⟨rfl,k,rfl⟩;have hlk:=HLK.out k;go_wp2;go_quiet (fail);go_wp2;go_ret;exact⟨rfl,HE2.out _ _⟩
theorem AX9 (H:Hnd K s w){i:Nat}{n:NO}(hM:s.M i=some n){at_:Nat}{en:En}(hen:n.ens[at_]? = some en)(hv:en.val.length=2){l:Nat}{es:List En}(hl:n.level=l+1)(hq:1<=en.child/\en.child<4096)(hx:s.M en.child=none)(hL:FF s.h s.G en.child l es)(hg:en.child ∉ s.gn) :
  Calls Tryz.prog 159 #[.pointer (some ⟨K.cb,0,none⟩),n.ptr,.int .i64 at_] w λe w'=>∃x S' ρ',e=.returned x.ptr/\Hnd K { s with S:=S',ρ:=ρ',M:=upd s.M en.child (some x) } w'/\x.level=l/\x.ens=es/\x.sole=true/\x.had=szE es:=by
 have hn:=H.node i n hM;have hnS:=H.nS hM;have HCH:=yH (F6 _ n at_ en w hn.at_ hen hv);have HBL:Hid (∀W,Below w.heap.size w W->Calls Tryz.prog 114 #[.pointer (some ⟨K.tb,0,none⟩),n.ptr,.int .i64 at_] W λe w1=>∃x w2,e=.returned x.ptr/\(w1.cell? ⟨K.cb,0,none⟩=some (.pointer (some ⟨K.tb,0,none⟩))/\w1.cell? ⟨K.cb,1,none⟩=some (.map (some K.mb)))/\(Instr.mapUpdate 184 (.map (some K.mb)) (.int .i64 en.child) x.ptr).run Tryz.prog w1=.ok () w2/\(w2.cell? ⟨K.cb,0,none⟩=some (.pointer (some ⟨K.tb,0,none⟩))/\w2.cell? ⟨K.cb,1,none⟩=some (.map (some K.mb))) /\
   (Instr.lookup 184 (.map (some K.mb)) (.int .i64 en.child) false).run Tryz.prog w2=.ok x.ptr w2/\Hid (∃S' ρ',Hnd K { s with S:=S',ρ:=ρ',M:=upd s.M en.child (some x) } w2/\x.level=l/\x.ens=es/\x.sole=true/\x.had=szE es)):=yH λW hb=>by
  have H1:=H.below hb;have hn1:=H1.node i n hM;refine (GH H1.act H1.tree.1 _ n hn1.at_ hnS at_ en hen hv l es hl hL.1 hL.2.1 hL.2.2).mono ?_;rintro e w1 ⟨y,S',rfl,hLd⟩;have hes:es≠[]:=by have:=hL.2.2.len;intro e;rw[e]at this;simp at this
  obtain⟨ρ',H2,hy⟩:=H1.loaded hLd hes en.child;obtain⟨m,hm⟩:=H2.map.1;obtain⟨w2,hr,hp,ht⟩:=hm.put (t:=184) (e:=127) Tryz.underlying184 (by have:=hm.few;unfold maxLen;omega) en.child hq.2 (by rw[IR _ hq];show (s.M en.child).map NO.ptr=none;rw[hx];rfl) y.ptr
  have hi:=hLd.info;have H3:=H2.putM hq hy ⟨hi.1,hL.1,.inl (by rw[hi.2.2.2.1];exact hL.2.1.symm)⟩ hg (AC.ofTurned ht rfl) hp
  refine⟨y,w2,rfl,⟨H2.cb0,H2.cb1⟩,hr,⟨H3.cb0,H3.cb1⟩,?_,yH ⟨S',ρ',H3,hi.2.1,hi.2.2.1,hi.2.2.2.2.2.1,hi.2.2.2.2.1⟩⟩;have:=H3.look hq
  rw[show ({ s with S:=S',ρ:=ρ',M:=upd s.M en.child (some y) }:Hst).M en.child=some y from AB _ _ _]at this
  exact this
 have hlk0:∀k,(Instr.lookup 184 (.map (some K.mb)) (.int .i64 en.child) false).run Tryz.prog (w.drewN k)=.ok (.pointer none) (w.drewN k):=λk=>by
  have:=(H.below (AF w k)).look hq
  rw[hx]at this;exact this
 obtain⟨q,hqd⟩:∃q,q=en.child:=⟨_,rfl⟩;rw[<-hqd]at HCH HBL hlk0 ⊢
 have HLK:=yH hlk0;have c0:=H.cb0;have c1:=H.cb1;unfold NO.ptr at *
 obtain⟨nb,hnb⟩:∃b,b=n.blk:=⟨_,rfl⟩;rw[<-hnb]at HCH HBL ⊢
 obtain⟨cb,hcb⟩:∃b,b=K.cb:=⟨_,rfl⟩;rw[<-hcb]at HBL c0 c1 ⊢
 clear H hM hen hv hl hq hx hL hg hn hnS hlk0 hqd hnb hcb;go_enter Tryz.func159,Tryz.ntmps159;go_wp2_with fail;refine HCH.out.mono ?_;rintro e w' ⟨rfl,k,rfl⟩;have hlk:=HLK.out k;go_wp2;go_quiet (fail);go_wp2;obtain⟨W1,hW1⟩:∃W1,W1=(w.drewN k).drewN nq:=⟨_,rfl⟩;rw[<-hW1];have HB1:Hid (Below w.heap.size w W1.drew):=yH (by rw[hW1];exact ((AF w k).trans ((AF (w.drewN k) _).mono (Nat.le_refl _))).drew)
 have HS1:Hid (W1.cell? ⟨cb,0,none⟩=some (.pointer (some ⟨K.tb,0,none⟩))/\W1.cell? ⟨cb,1,none⟩=some (.map (some K.mb))):=yH (by rw[hW1];exact⟨c0,c1⟩)
 have HQ:Hid (∀W:World,(W.cell? ⟨cb,0,none⟩=some (.pointer (some ⟨K.tb,0,none⟩))/\W.cell? ⟨cb,1,none⟩=some (.map (some K.mb)))->W.cell? ⟨cb,0,none⟩=some (.pointer (some ⟨K.tb,0,none⟩))/\W.cell? ⟨cb,1,none⟩=some (.map (some K.mb))):=yH (λ_ h=>h)
 clear hW1 c0 c1 hlk;refine wp_region_held_drew (S:=λW=>W.cell? ⟨cb,0,none⟩=some (.pointer (some ⟨K.tb,0,none⟩))/\W.cell? ⟨cb,1,none⟩=some (.map (some K.mb))) (by kernel_rfl) HS1.out (λhHeld=>?_)
 refine wpAnyH_take (i:=0) (v:=.pointer (some ⟨cb,0,none⟩)) rfl (by kernel_rfl) (by kernel_rfl) (by kernel_rfl) (λ_ _ _ h=>h) (Or.inl ⟨by rfl,λW hW=>by go_simp⟩) HS1.out ?_
 refine wpAnyH_take (i:=1) (v:=.pointer (some ⟨cb,0,none⟩)) rfl (by kernel_rfl) (by kernel_rfl) (by kernel_rfl) (λ_ _ _ h=>h) (Or.inl ⟨by rfl,λW hW=>by go_simp⟩) HS1.out ?_
 refine wpAnyH_take (i:=2) (v:=.pointer (some ⟨cb,1,none⟩)) rfl (by kernel_rfl) (by kernel_rfl) (by kernel_rfl) (λ_ _ _ h=>h) (Or.inl ⟨by rfl,λW hW=>by go_simp⟩) HS1.out ?_
 refine wpAnyH_take (i:=3) (v:=.map (some K.mb)) rfl (by kernel_rfl) (by kernel_rfl) (by kernel_rfl) (λ_ _ _ h=>h) (Or.inl ⟨by rfl,λW hW=>by have x1:=(HQ.out W hW).2;clear hW;go_simp⟩) HS1.out ?_
 refine wpAnyH_take (i:=4) (v:=.int .i64 q) rfl (by kernel_rfl) (by kernel_rfl) (by kernel_rfl) (λ_ _ _ h=>h) (Or.inl ⟨by rfl,λW hW=>by go_simp⟩) HS1.out ?_
 refine wpAnyH_take (i:=5) (v:=.pointer (some ⟨cb,0,none⟩)) rfl (by kernel_rfl) (by kernel_rfl) (by kernel_rfl) (λ_ _ _ h=>h) (Or.inl ⟨by rfl,λW hW=>by go_simp⟩) HS1.out ?_
 refine wpAnyH_take (i:=6) (v:=.pointer (some ⟨cb,0,none⟩)) rfl (by kernel_rfl) (by kernel_rfl) (by kernel_rfl) (λ_ _ _ h=>h) (Or.inl ⟨by rfl,λW hW=>by go_simp⟩) HS1.out ?_
 refine wpAnyH_take (i:=7) (v:=.pointer (some ⟨cb,0,none⟩)) rfl (by kernel_rfl) (by kernel_rfl) (by kernel_rfl) (λ_ _ _ h=>h) (Or.inl ⟨by rfl,λW hW=>by go_simp⟩) HS1.out ?_
 refine wpAnyH_take (i:=8) (v:=.pointer (some ⟨K.tb,0,none⟩)) rfl (by kernel_rfl) (by kernel_rfl) (by kernel_rfl) (λ_ _ _ h=>h) (Or.inl ⟨by rfl,λW hW=>by have x1:=(HQ.out W hW).1;clear hW;go_simp⟩) HS1.out ?_
 refine wpAnyH_take (i:=9) (v:=.pointer (some ⟨nb,0,none⟩)) rfl (by kernel_rfl) (by kernel_rfl) (by kernel_rfl) (λ_ _ _ h=>h) (Or.inl ⟨by rfl,λW hW=>by go_simp⟩) HS1.out ?_
 refine wpAnyH_take (i:=10) (v:=.int .i64 at_) rfl (by kernel_rfl) (by kernel_rfl) (by kernel_rfl) (λ_ _ _ h=>h) (Or.inl ⟨by rfl,λW hW=>by go_simp⟩) HS1.out ?_
 refine wpAnyH_ready (rs:=[11]) (by kernel_rfl) (by simp) ?_
 refine AllReadyH.cons rfl (λK' hK=>?_) AllReadyH.nil
 go_simp
 go_at_call 114;refine (HBL.out _ HB1.out).mono ?_;rintro e w1 ⟨x,w2,rfl,hs1,hmu,hs2,hlk2,hpost⟩;have HMU:=yH hmu;have HS3:=yH hs2;clear hmu hs2;refine hK.out _ _ hs1 (λhHeld2=>?_)
 clear hK K' hHeld hHeld2 hs1;refine wpAnyH_ready (rs:=[12]) (by kernel_rfl) (by simp) ?_
 refine AllReadyH.cons rfl (λK' hK=>?_) AllReadyH.nil
 refine LR rfl _ _ _ 184 rfl _ _ _ (by rfl) (by rfl) (by rfl) HMU.out ?_
 refine hK.out _ _ HS3.out (λhHeld3=>?_)
 clear hK K' hHeld3;refine wpAnyH_done (by kernel_rfl) ?_ _
 have d1:=HS3.out.2;go_wp2;obtain⟨S',ρ',h1,h2⟩:=hpost.out;have HP:=yH (And.intro h1 h2);clear h1 h2 hpost;go_ret;exact⟨x,S',ρ',rfl,HP.out⟩
theorem O8 (H:Hnd K s w){i:Nat}{n:NO}(hM:s.M i=some n){at_:Nat}{en:En}(hen:n.ens[at_]? = some en)(hv:en.val.length=2){l:Nat}{es:List En}(hl:n.level=l+1)(hc:Cur s en.child l es) :
  Calls Tryz.prog 159 #[.pointer (some ⟨K.cb,0,none⟩),n.ptr,.int .i64 at_] w λe w'=>∃x s',e=.returned x.ptr/\Hnd K s' w'/\Got s s' en.child l es x:=by
 obtain⟨q1,q2,hc⟩:=hc;cases hx:s.M en.child with
 | some x =>
  rw[hx]at hc;refine (QX H hM hen hv hl ⟨q1,q2⟩ hx hc.1).mono ?_;rintro e w' ⟨rfl,h⟩;exact⟨x,s,rfl,h,(BW0 hx).symm,⟨rfl,rfl,rfl,rfl⟩,hc.1,hc.2,.inl hx⟩
 | none =>
  rw[hx]at hc;refine (AX9 H hM hen hv hl ⟨q1,q2⟩ hx hc.1 hc.2).mono ?_;rintro e w' ⟨x,S',ρ',rfl,h,h1,h2,h3,h4⟩;exact⟨x,_,rfl,h,rfl,⟨rfl,rfl,rfl,rfl⟩,h1,h2,.inr ⟨hx,h3,h4⟩⟩
end
section
variable {K:Kc} {s:Hst} {w W w3:World}
theorem Hnd.pushG (H:Hnd K s w){v':Value}{q:Nat}(hb:Below w.heap.size w W)(hg:C3 W w3 s.gv v')(hn:E0 w3 v' (s.gn++[q]))(hq:s.h.has q)(hM:s.M q=none)(hnew:q ∉ s.gn) :
  ∃ρ',Hnd K { s with gn:=s.gn++[q],gv:=v',ρ:=ρ' } (w3.setCell ⟨K.cb,4,none⟩ v'):=by
 have HW:=H.below hb;have hcbW:=HW.cbl;have hkg:AC (λk=>s.gv.ownBlock=some k) W w3:=AC.ofGrown hg.1 (λk e=>e)
 have hk2:=AC.setCell (λk=>k=K.cb) w3 (b:=K.cb) (i:=4) rfl v'
 have hne:s.gv.ownBlock≠some K.cb:=λe=>by have h1:=HW.gon.2 _ e;have h2:=HW.chg.2;omega
 have hne2:v'.ownBlock≠some K.cb:=λe=>(hg.2 _ e).elim hne (by omega)
 have hcb3:w3.heap[K.cb]? = some (.cells (K.cells s) 186 (0,0)):=(hkg.block _ hcbW (λe=>hne e)).trans HW.chg.1
 refine⟨λk=>if v'.ownBlock=some k then 6 else s.ρ k,HW.step (T:=λk=>s.gv.ownBlock=some k\/k=K.cb) (R:=λr=>r=6\/r=2) ((hkg.mono (λk e=>.inl e)).trans (hk2.mono (T:=λk=>s.gv.ownBlock=some k\/k=K.cb) (λk e=>.inr e)) (λk e=>.inl e)) (λk _ e=>?_) (by omega) (λk hk=>?_) (λk hk=>?_) (.inl ⟨by omega,rfl,rfl,rfl⟩) (.inr ⟨?_,?_⟩) (.inl ⟨by omega,rfl⟩) (by omega) (.inl ⟨by omega,rfl,rfl⟩) (.inr ⟨?_,λk hk=>?_⟩) (λj x h=>.inl ⟨h,by omega,by omega,by omega⟩) HW.was ⟨?_,λj hj=>?_⟩ HW.tok⟩
 ·rcases e with e|rfl
  ·exact .inl (HW.gon.2 _ e)
  ·exact .inr HW.chg.2
 ·left
  dsimp only
  by_cases e:v'.ownBlock=some k
  ·rw[if_pos e];rcases hg.2 k e with h1|h1
   ·exact (HW.gon.2 _ h1).symm
   ·omega
  ·rw[if_neg e]
 ·dsimp only at hk
  have hz:w3.heap.size<=(w3.setCell ⟨K.cb,4,none⟩ v').heap.size:=hk2.size;by_cases e:v'.ownBlock=some k
  ·exact Nat.lt_of_lt_of_le (hn.lt k e) hz
  ·rw[if_neg e]at hk;have:=HW.lt k hk
   have:=hkg.size
   omega
 ·rw[BW hcb3];rfl
 ·dsimp only
  rw[if_neg hne2];exact HW.chg.2
 ·exact AG hn λk hk=>hk2.block k (hn.lt k hk) (λe=>hne2 (e ▸ hk))
 ·dsimp only at hk ⊢
  rw[if_pos hk]
 ·dsimp only
  rw[List.nodup_append];refine⟨H.gok.1,by simp,λa ha b hb' e=>?_⟩
  rw[List.mem_singleton]at hb';subst e;subst hb'
  exact hnew ha
 ·dsimp only at hj ⊢
  rcases List.mem_append.1 hj with hj|hj
  ·exact H.gok.2 j hj
  ·rw[List.mem_singleton]at hj;subst hj;exact⟨hq,hM⟩
theorem Hnd.pushT (H:Hnd K s w){v':Value}{q:Nat}(hb:Below w.heap.size w W)(hg:C3 W w3 s.av v')(hn:E0 w3 v' (s.tk++[q]))(hq:s.h.has q)(hnew:q ∉ s.tk) :
  ∃ρ',Hnd K { s with tk:=s.tk++[q],av:=v',ρ:=ρ' } (w3.setCell ⟨K.cb,3,none⟩ v'):=by
 have HW:=H.below hb;have hcbW:=HW.cbl;have hkg:AC (λk=>s.av.ownBlock=some k) W w3:=AC.ofGrown hg.1 (λk e=>e)
 have hk2:=AC.setCell (λk=>k=K.cb) w3 (b:=K.cb) (i:=3) rfl v'
 have hne:s.av.ownBlock≠some K.cb:=λe=>by have h1:=HW.tak.2 _ e;have h2:=HW.chg.2;omega
 have hne2:v'.ownBlock≠some K.cb:=λe=>(hg.2 _ e).elim hne (by omega)
 have hcb3:w3.heap[K.cb]? = some (.cells (K.cells s) 186 (0,0)):=(hkg.block _ hcbW (λe=>hne e)).trans HW.chg.1
 refine⟨λk=>if v'.ownBlock=some k then 5 else s.ρ k,HW.step (T:=λk=>s.av.ownBlock=some k\/k=K.cb) (R:=λr=>r=5\/r=2) ((hkg.mono (λk e=>.inl e)).trans (hk2.mono (T:=λk=>s.av.ownBlock=some k\/k=K.cb) (λk e=>.inr e)) (λk e=>.inl e)) (λk _ e=>?_) (by omega) (λk hk=>?_) (λk hk=>?_) (.inl ⟨by omega,rfl,rfl,rfl⟩) (.inr ⟨?_,?_⟩) (.inl ⟨by omega,rfl⟩) (by omega) (.inr ⟨?_,λk hk=>?_⟩) (.inl ⟨by omega,rfl,rfl⟩) (λj x h=>.inl ⟨h,by omega,by omega,by omega⟩) HW.was HW.gok ⟨?_,λj hj=>?_⟩⟩
 ·rcases e with e|rfl
  ·exact .inl (HW.tak.2 _ e)
  ·exact .inr HW.chg.2
 ·left
  dsimp only
  by_cases e:v'.ownBlock=some k
  ·rw[if_pos e];rcases hg.2 k e with h1|h1
   ·exact (HW.tak.2 _ h1).symm
   ·omega
  ·rw[if_neg e]
 ·dsimp only at hk
  have hz:w3.heap.size<=(w3.setCell ⟨K.cb,3,none⟩ v').heap.size:=hk2.size;by_cases e:v'.ownBlock=some k
  ·exact Nat.lt_of_lt_of_le (hn.lt k e) hz
  ·rw[if_neg e]at hk;have:=HW.lt k hk
   have:=hkg.size
   omega
 ·rw[BW hcb3];rfl
 ·dsimp only
  rw[if_neg hne2];exact HW.chg.2
 ·exact AG hn λk hk=>hk2.block k (hn.lt k hk) (λe=>hne2 (e ▸ hk))
 ·dsimp only at hk ⊢
  rw[if_pos hk]
 ·dsimp only
  rw[List.nodup_append];refine⟨H.tok.1,by simp,λa ha b hb' e=>?_⟩
  rw[List.mem_singleton]at hb';subst e;subst hb'
  exact hnew ha
 ·dsimp only at hj ⊢
  rcases List.mem_append.1 hj with hj|hj
  ·exact H.tok.2 j hj
  ·rw[List.mem_singleton]at hj;subst hj;exact hq
theorem AB2 {l:List Nat}(h:l.Nodup)(hb:∀q ∈ l,q<4096):l.length<=4096:=L7 h hb
theorem Hnd.has_lt (H:Hnd K s w){q:Nat}(hq:s.h.has q):1<=q/\q<4096:=H.act.has_lt hq
theorem Hnd.gn_few (H:Hnd K s w):s.gn.length<=4096:=AB2 H.gok.1 λq hq=>(H.has_lt (H.gok.2 q hq).1).2
theorem Hnd.tk_few (H:Hnd K s w):s.tk.length<=4096:=AB2 H.tok.1 λq hq=>(H.has_lt (H.tok.2 q hq)).2
def VR (K:Kc)(s:Hst)(q:Nat)(e:Ending)(w':World):Prop:=e=.returned (.tuple #[])/\∃v' ρ',Hnd K { s with M:=upd s.M q none,gn:=s.gn++[q],gv:=v',ρ:=ρ' } w'
theorem AO9 (H:Hnd K s w){q:Nat}{x:NO}(hM:s.M q=some x)(hq:1<=q/\q<4096) :
  Calls Tryz.prog 160 #[.pointer (some ⟨K.cb,0,none⟩),x.ptr] w (VR K s q):=by
 obtain⟨hpg,hhas,_⟩:=H.was q x hM hq.1 hq.2;have hxn:=H.node q x hM;have Hd:=H.below (Below.refl w.heap.size w).drew;obtain⟨m,hm⟩:=Hd.map.1;have hpt:C9 s.M q=some x.ptr:=by rw[IR _ hq,hM];rfl
 obtain⟨m0,rfl⟩:∃m0,m=m0+1:=by
  rcases Nat.eq_zero_or_pos m with e|e
  ·exfalso
   subst e;obtain⟨F,⟨D0,h1,h2,h3⟩,h4,_⟩:=hm.map;have hF:=h4 q _ hpt;rcases h3 q (WalkArith.wf_i64 (by omega)) with⟨hn,_⟩|⟨v,_,hh,_⟩
   ·rw[hF]at hn;cases hn
   ·have h5:=(D7 h1);have h6:(intKeys D0).length=0:=by rw[h5.2.2,h2]
    have h7:=(h5.2.1 (q:Int)).2 hh;rw[List.length_eq_zero_iff.1 h6]at h7;cases h7
  ·exact⟨m-1,by omega⟩
 obtain⟨w1,hdr,hp,ht⟩:=hm.del (t:=184) (e:=127) Tryz.underlying184 q hpt 0;have H1:=Hd.delM hq hM (AC.ofTurned ht rfl) hp;have x0:=hxn.at_.c0;have hb1:=ht.grown;have hxb1:w1.heap[x.blk]? = w.heap[x.blk]?:=(AC.ofTurned (S:=λk=>k=K.mb) ht rfl).block x.blk hxn.at_.lt (λe=>by have h1:=hxn.blk;rw[e,H.map.2]at h1;omega)
 have x01:w1.cell? ⟨x.blk,0,none⟩=some (.int .i64 q):=by rw[World.cell?_of_block hxb1,x0,hpg]
 rw[hpg]at x0;obtain⟨W2,hW2⟩:∃W2,W2=(w1.alloc (.cells #[.int .i64 q] 3)).drew:=⟨_,rfl⟩;have hbW:Below w1.heap.size w1 W2:=by rw[hW2];exact ((Below.refl _ _).alloc (Nat.le_refl _) _).drew
 have hcx:W2.cell? ⟨w1.heap.size,0,none⟩=some (.int .i64 q):=by
  have:W2.heap[w1.heap.size]? = some (.cells #[.int .i64 q] 3 (0,0)):=by rw[hW2];exact heap_alloc_new w1 _
  rw[yC this];rfl
 have H1W:=H1.below hbW;obtain⟨v',w3,hr3,hn3,hg3⟩:=MC W2 s.gv s.gn q w1.heap.size 1 H1W.gon.1 hcx (by have:=H.gn_few;omega) 57
 obtain⟨ρ',H4⟩:=H1.pushG (q:=q) hbW hg3 hn3 hhas (AB _ _ _) (λhg=>by have:=(H.gok.2 q hg).2;rw[hM]at this;cases this)
 obtain⟨ga,gc,hgv⟩:=H1W.gon.1.shape;obtain⟨va,vc,hvv⟩:=hn3.shape;have hkg:AC (λk=>s.gv.ownBlock=some k) W2 w3:=AC.ofGrown hg3.1 (λk e=>e)
 have hcb3:w3.heap[K.cb]? = some (.cells (K.cells { s with M:=upd s.M q none }) 186 (0,0)):=(hkg.block _ H1W.cbl (λe=>by have h1:=H1W.gon.2 _ e;have h2:=H1W.chg.2;omega)).trans H1W.chg.1
 have f4:w3.frozen? ⟨K.cb,4,none⟩=false:=by simp[World.frozen?,hcb3]
 have d4:w3.cell? ⟨K.cb,4,none⟩=some s.gv:=by rw[yC hcb3];rfl
 have c1:=H.cb1;have c4:=H1.cb4;have hcl1:=H1.cbl;have hxl1:x.blk<w1.heap.size:=by have:=hxn.at_.lt;have h2:=(AC.ofTurned (S:=λk=>k=K.mb) ht rfl).size;exact Nat.lt_of_lt_of_le this h2
 dsimp only at c4
 obtain⟨gn,hgn⟩:∃n,n=s.gn.length:=⟨_,rfl⟩;simp only[<-hgn]at hgv;have hvl:(s.gn++[q]).length=gn+1:=by rw[List.length_append,<-hgn];rfl
 rw[hvl]at hvv;rw[hgv]at hr3 c4 d4;rw[hvv]at hr3;have HE:Hid (VR K s q (.returned (.tuple #[])) (w3.setCell ⟨K.cb,4,none⟩ (.slice va (gn+1) vc))):=yH ⟨rfl,v',ρ',by rw[hvv]at H4 ⊢;exact H4⟩
 unfold NO.ptr;obtain⟨xb,hxb⟩:∃b,b=x.blk:=⟨_,rfl⟩;rw[<-hxb]at x0 x01 hxl1 ⊢
 obtain⟨cb,hcb⟩:∃b,b=K.cb:=⟨_,rfl⟩;rw[<-hcb]at c1 c4 f4 d4 HE hcl1 ⊢
 rw[hW2]at hr3;have HDR:=yH hdr;have HR3:=yH hr3;clear H hM hq hpg hhas hxn Hd hm hpt hdr hp ht H1 hb1 hxb1 hW2 hbW hcx H1W hr3 hn3 hg3 H4 hgv hvv hkg hcb3 hgn hvl hxb hcb;go_enter Tryz.func160,Tryz.ntmps160;go_wp2;go_still_tail 8,(by kernel_rfl)
 go_wp2_with (refine DT rfl _ _ 184 3 rfl _ _ (by rfl) (by rfl) HDR.out ?_)
 go_region_law (refine FW rfl _ _ 57 rfl _ _ _ (by rfl) (by rfl) HR3.out ?_)
 all_goals go_wp2
 all_goals go_end0
 all_goals exact HE.out
end
section
variable {K:Kc} {s s' s'':Hst} {w w' W:World}
theorem BU4 {ρ:Nat->Nat}{q:Nat}{x:NO}(h:DS ρ w q x)(hs:x.sole=true):ρ x.ab=8+2*q\/ρ x.ab=9+2*q:=by
 cases ha:x.arr with
 | none=>left;unfold NO.ab;rw[ha];exact h.blk
 | some ad =>
  right
  have:=h.row ad ha
  rw[if_pos hs]at this;unfold NO.ab;rw[ha];exact this
theorem Hnd.removed (H:Hnd K s w){i:Nat}{n:NO}(hM:s.M i=some n)(hs:n.sole=true){es:List En}{e:Ending}(hr:KZ (λk=>s.ρ k≠0) n es w e w'):Hnd K { s with M:=upd s.M i (some { n with ens:=es }) } w':=by
 obtain⟨_,h2,h3⟩:=hr;have hn:=H.node i n hM;have hlt:=λk hk=>Nat.lt_of_lt_of_le (H.lt k hk) h3.size
 exact H.turnM (T:=λk=>k=n.blk\/k=n.ab) (ρ':=s.ρ) hM h3 (λk _ e=>by
  rcases e with rfl|rfl
  ·exact .inl hn.blk
  ·exact BU4 hn hs) (λ_ _=>rfl) (λk _ hk=>hlt k hk) ⟨h2,hn.blk,hn.row⟩ ⟨rfl,rfl,rfl⟩
theorem Hnd.newRow (H:Hnd K s w){i:Nat}{n:NO}(hM:s.M i=some n)(hb:Below w.heap.size w W){g c:Nat}(hg:w.heap.size<=g){vs R:List Value}{es:List En}(hh:W.heap[g]? = some (.cells (vs++R).toArray 135 (0,0)))(hp:BE (λk=>s.ρ k≠0) w vs es)(hc:es.length<=c/\c<=maxLen)(hsh:DU es) :
  ∃ρ',Hnd K { s with M:=upd s.M i (some { n with ens:=es,arr:=some ⟨g,0,none⟩,cap:=c,sole:=true }),ρ:=ρ' } (W.setCell ⟨n.blk,2,none⟩ (.slice (some ⟨g,0,none⟩) es.length c)):=by
 have hn:=H.node i n hM;have hgl:g<W.heap.size:=(Array.getElem?_eq_some_iff.1 hh).1;have hnl:=hn.at_.lt;have hk2:=AC.setCell (λk=>k=n.blk) W (b:=n.blk) (i:=2) rfl (.slice (some ⟨g,0,none⟩) es.length c)
 have hk:AC (λk=>k=n.blk) w (W.setCell ⟨n.blk,2,none⟩ (.slice (some ⟨g,0,none⟩) es.length c)):=(AC.ofBelow (S:=λk=>k=n.blk) hb).trans hk2 (λk e=>.inl e)
 have hbW:W.heap[n.blk]? = some (.cells n.cells 138 (0,0)):=(hb.block _ hnl).trans hn.at_.blk;have hg0:s.ρ g=0:=by
  rcases Nat.eq_zero_or_pos (s.ρ g) with e|e
  ·exact e
  ·have:=H.lt g (by omega);omega
 refine⟨upd s.ρ g (9+2*i),H.turnM (T:=λk=>k=n.blk) hM hk (λk _ e=>.inl (e ▸ hn.blk)) (λk hk=>AA _ _ (by omega)) (λk hk' h0=>?_) ⟨⟨?_,?_,?_,hc,hn.at_.small,hsh,λ_ _=>⟨g,rfl⟩⟩,?_,λad ha=>?_⟩ ⟨rfl,rfl,rfl⟩⟩
 ·by_cases hkg:k=g
  ·rw[hkg];exact Nat.lt_of_lt_of_le hgl hk2.size
  ·rw[AA _ _ hkg]at h0;have:=H.lt k h0
   omega
 ·exact T0 hbW _ _ _
 ·show upd s.ρ g (9+2*i) n.blk≠0;rw[AA _ _ (by omega)];exact hn.at_.own
 ·have hr:OT (λk=>upd s.ρ g (9+2*i) k≠0) (W.setCell ⟨n.blk,2,none⟩ (.slice (some ⟨g,0,none⟩) es.length c)) g [] vs R es:=by
   refine⟨(hk2.block g hgl (by omega)).trans hh,by rw[AB];omega,hp.kept hk (λk _ e=>?_) (λk hl hx=>?_)⟩
   ·subst e;exact hn.at_.own
   ·rw[AA _ _ (by omega)]at hx;exact hx
  exact hr.ents
 ·show upd s.ρ g (9+2*i) n.blk=_;rw[AA _ _ (by omega)];exact hn.blk
 ·cases ha;rw[AB];rfl
structure FY (s s':Hst)(ps:List Nat):Prop where
 same:s'.h=s.h/\s'.G=s.G/\s'.tk=s.tk
 M:∀q,q ∉ ps->s'.M q=s.M q
 gn:∃d,s'.gn=s.gn++d/\∀q ∈ d,q ∈ ps
theorem FY.refl (s:Hst)(ps:List Nat):FY s s ps:=⟨⟨rfl,rfl,rfl⟩,λ_ _=>rfl,[],by simp,(λq hq=>by cases hq)⟩
theorem FY.trans {ps:List Nat}(h:FY s s' ps)(k:FY s' s'' ps):FY s s'' ps:=by
 obtain⟨d,h1,h2⟩:=h.gn;obtain⟨d',k1,k2⟩:=k.gn;refine⟨⟨k.same.1.trans h.same.1,k.same.2.1.trans h.same.2.1,k.same.2.2.trans h.same.2.2⟩,λq hq=>(k.M q hq).trans (h.M q hq),d++d',by rw[k1,h1,List.append_assoc],λq hq=>?_⟩
 rcases List.mem_append.1 hq with hq|hq
 ·exact h2 q hq
 ·exact k2 q hq
theorem FY.mono {ps ps':List Nat}(h:FY s s' ps)(hp:∀q ∈ ps,q ∈ ps'):FY s s' ps':=by
 obtain⟨d,h1,h2⟩:=h.gn;exact⟨h.same,λq hq=>h.M q (λh'=>hq (hp q h')),d,h1,λq hq=>hp q (h2 q hq)⟩
theorem Cur.fram {ps:List Nat}(h:FY s s' ps){q l:Nat}{es:List En}(hc:Cur s q l es)(hq:q ∉ ps):Cur s' q l es:=by
 obtain⟨h1,h2,h3⟩:=hc;refine⟨h1,h2,?_⟩;rw[h.M q hq];cases hm:s.M q with
 | some x=>rw[hm]at h3;exact h3
 | none =>
  rw[hm]at h3;obtain⟨d,hd,hdp⟩:=h.gn;dsimp only at h3 ⊢
  rw[h.same.1,h.same.2.1,hd];refine⟨h3.1,λhg=>?_⟩
  rcases List.mem_append.1 hg with hg|hg
  ·exact h3.2 hg
  ·exact hq (hdp q hg)
theorem C6 {ps:List Nat}(h:FY s s' ps){L:Nat}{t:Tr L}(hr:Rep (Cur s) t)(hd:∀q ∈ t.pages,q ∉ ps):Rep (Cur s') t:=hr.congr λq hq _ _ hc=>hc.fram h (hd q hq)
theorem Got.fram {q l:Nat}{es:List En}{x:NO}(h:Got s s' q l es x):FY s s' [q]:=⟨⟨h.same.1,h.same.2.1,h.same.2.2.1⟩,λj hj=>by rw[h.M,AA _ _ (by simpa using hj)],[],by rw[h.same.2.2.2,List.append_nil],(λq hq=>by cases hq)⟩
theorem GG {q l:Nat}{es:List En}{x:NO}(h1:1<=q)(h2:q<4096)(hm:s.M q=some x)(hl:x.level=l)(he:x.ens=es):Cur s q l es:=⟨h1,h2,by rw[hm];exact⟨hl,he⟩⟩
def N3 (n n':NO)(es:List En):Prop:=n'.blk=n.blk/\n'.page=n.page/\n'.level=n.level/\n'.ens=es/\n'.sole=true/\n'.was=n.was/\n'.had=n.had
def DN (K:Kc)(s:Hst)(i:Nat)(n:NO){L:Nat}(ks:List (Kid L))(at_:Nat)(e:Ending)(w':World):Prop :=
 e=.returned (.tuple #[])/\∃s' ks' dead n',Hnd K s' w'/\IG ks at_ ks' dead/\s'.M i=some n'/\N3 n n' (ks'.map kEn)/\(∀k ∈ ks',Rep (Cur s') k.2)/\s'.gn=s.gn++dead/\FY s s' (i::pgK ks)
structure CP (K:Kc)(s:Hst)(i:Nat)(n:NO){L:Nat}(ks:List (Kid L))(w:World):Prop where
 H:Hnd K s w
 M:s.M i=some n
 sole:n.sole=true
 level:n.level=L+1
 ens:n.ens=ks.map kEn
 tidy:EX ks
 rep:∀k ∈ ks,Rep (Cur s) k.2
 nodup:(pgK ks).Nodup
 apart:i ∉ pgK ks
theorem AC2 {i:Nat}{n:NO}{L:Nat}{ks:List (Kid L)}(h:CP K s i n ks w)(at_:Nat)(hl:ks.length<=at_+1)(h5:at_<=1000) :
  Calls Tryz.prog 162 #[.pointer (some ⟨K.cb,0,none⟩),n.ptr,.int .i64 at_] w (DN K s i n ks at_):=by
 have hn:=(h.H.node i n h.M).at_;have c2:=hn.c2;have hN:n.ens.length=ks.length:=by rw[h.ens,List.length_map]
 have HE:Hid (DN K s i n ks at_ (.returned (.tuple #[])) w):=yH ⟨rfl,s,ks,[],n,h.H,.inr ⟨rfl,rfl,λA a b B he hA=>by rw[he]at hl;simp at hl;omega⟩,h.M,⟨rfl,rfl,rfl,h.ens,h.sole,rfl,rfl⟩,h.rep,by simp,FY.refl _ _⟩
 rw[hN]at c2;obtain⟨N,hNd⟩:∃N,N=ks.length:=⟨_,rfl⟩;rw[<-hNd]at c2 hl;unfold NO.ptr;obtain⟨nb,hnb⟩:∃b,b=n.blk:=⟨_,rfl⟩;rw[<-hnb]at c2 ⊢
 have h1:(N:Int)<=(at_:Int)+1:=by omega
 clear h hn hN hNd hnb;go_enter Tryz.func162,Tryz.ntmps162;go_wp2;go_end0
 exact HE.out
theorem BG2 (a b:Value)(w:World):Calls Tryz.prog 162 #[a,b,.int .i64 (-1)] w λe w'=>e=.returned (.tuple #[])/\w'=w:=by
 go_enter Tryz.func162,Tryz.ntmps162;go_wp2;exact bodyPost_ret (v:=.tuple #[]) (by simp[results,Tryz.results162,go_sem]) rfl ⟨rfl,rfl⟩
end
def mE (L:Nat)(k:List UInt8)(es fs:List En):List En:=es++(match fs with
 | []=>[]
 | e::r=>(if L=0 then e else ⟨k,e.val⟩)::r)
theorem AO8 (k:List UInt8)(es fs:List En):mE 0 k es fs=es++fs:=by unfold mE;cases fs <;> rfl
theorem AJ6 (L:Nat)(k:List UInt8)(es fs:List En):(mE L k es fs).length=es.length+fs.length:=by
 unfold mE;cases fs <;> simp
theorem BR9 {L:Nat}{a b:Kid L}(ha:CJ a.2)(hb:CJ b.2):szE (mE L b.1 a.2.ens b.2.ens)=a.2.size+b.2.size+sep L b.1:=by
 cases L with
 | zero=>rw[AO8,CX];simp[sep,Tr.size]
 | succ L =>
  have hk:=(AL.1 hb.1).1.1;unfold mE Tr.size;rw[CX];cases hks:b.2.ks with
  | nil=>exact absurd hks (EU.1 hb.2.1)
  | cons b' Y =>
   rw[hks]at hk;have hb0:b'.1=[]:=hk.1;rw[AZ b.2,hks,List.map_cons];simp only[szE,En.size,kEn,sep,hb0];rw[if_neg (by omega),if_neg (by omega)]
   simp only[List.length_nil];omega
theorem BF0 {L:Nat}{k:List UInt8}{es fs:List En}(h1:DU es)(h2:DU fs)(hk:k.length<=255)(hl:es.length+fs.length<=512):DU (mE L k es fs):=by
 refine⟨by rw[AJ6];exact hl,λe he=>?_⟩
 unfold mE at he;rcases List.mem_append.1 he with he|he
 ·exact h1.2 e he
 ·cases fs with
  | nil=>cases he
  | cons f r =>
   rcases List.mem_cons.1 he with rfl|he
   ·split
    ·exact h2.2 f (by simp)
    ·exact⟨hk,(h2.2 f (by simp)).2⟩
   ·exact h2.2 e (by simp[he])
theorem G7 {L:Nat}{A:List (Kid L)}{a b:Kid L}{B:List (Kid L)}(h:(pgK (A++a::b::B)).Nodup) :
  (∀q ∈ pgK A,q ∉ a.2.pages/\q ∉ b.2.pages)/\(∀q ∈ pgK B,q ∉ a.2.pages/\q ∉ b.2.pages)/\(∀q ∈ a.2.pages,q ∉ b.2.pages)/\a.2.pages.Nodup/\b.2.pages.Nodup:=by
 rw[A8,AN,AN,List.nodup_append]at h;obtain⟨_,h2,h3⟩:=h;rw[List.nodup_append]at h2;obtain⟨h4,h5,h6⟩:=h2;rw[List.nodup_append]at h5;obtain⟨h7,h8,h9⟩:=h5;refine⟨λq hq=>⟨λhm=>h3 q hq q (by simp[hm]) rfl,λhm=>h3 q hq q (by simp[hm]) rfl⟩,λq hq=>⟨λhm=>h6 q hm q (by simp[hq]) rfl,λhm=>h9 q hm q hq rfl⟩,λq hq hm=>h6 q hq q (by simp[hm]) rfl,h4,h7⟩
theorem BB {L:Nat}{ks:List (Kid L)}{k:Kid L}(hk:k ∈ ks){q:Nat}(hq:q ∈ k.2.pages):q ∈ pgK ks:=List.mem_flatMap.2 ⟨k,hk,hq⟩
structure AM7 (K:Kc)(s s5:Hst)(i:Nat)(n:NO){L:Nat}(A:List (Kid L))(a b:Kid L)(B:List (Kid L))(x':NO)(w:World):Prop where
 H:Hnd K s5 w
 n':∃n',s5.M i=some n'/\N3 n n' ((A++a::B).map kEn)
 x:s5.M a.2.page=some x'/\x'.level=L/\x'.ens=mE L b.1 a.2.ens b.2.ens/\x'.sole=true
 gn:s5.gn=s.gn++[b.2.page]
 fram:FY s s5 [i,a.2.page,b.2.page]
section
variable {K:Kc} {s s5:Hst} {i:Nat} {n x':NO} {w w0:World}
theorem AW0 {A:List (Kid 0)}{a b:Kid 0}{B:List (Kid 0)}(hp:CP K s i n (A++a::b::B) w0)(hf:¬Far a b)(g:AM7 K s s5 i n A a b B x' w):DN K s i n (A++a::b::B) A.length (.returned (.tuple #[])) w:=by
 obtain⟨p1,p2,p3,p4,p5⟩:=G7 hp.nodup;obtain⟨n',hn,hni⟩:=g.n';obtain⟨hx,hxl,hxe,hxs⟩:=g.x;have ha:=hp.tidy.2 a (by simp)
 have hA:∀q ∈ pgK A,q ∉ [i,a.2.page,b.2.page]:=λq hq=>by
  simp only[List.mem_cons,List.not_mem_nil,or_false,not_or];exact⟨λe=>hp.apart (by rw[A8];simp[<-e,hq]),λe=>(p1 q hq).1 (e ▸ AS _),λe=>(p1 q hq).2 (e ▸ AS _)⟩
 have hB:∀q ∈ pgK B,q ∉ [i,a.2.page,b.2.page]:=λq hq=>by
  simp only[List.mem_cons,List.not_mem_nil,or_false,not_or];exact⟨λe=>hp.apart (by rw[A8,AN,AN];simp[<-e,hq]),λe=>(p2 q hq).1 (e ▸ AS _),λe=>(p2 q hq).2 (e ▸ AS _)⟩
 refine⟨rfl,s5,A++(a.1,.leaf a.2.page (a.2.es++b.2.es))::B,[b.2.page],n',g.H,.inl ⟨A,a,b,B,_,rfl,rfl,hf,⟨rfl,rfl⟩,rfl⟩,hn,?_,λk hk=>?_,g.gn,g.fram.mono λq hq=>?_⟩
 ·have:(A++(a.1,Tr.leaf a.2.page (a.2.es++b.2.es))::B).map kEn=(A++a::B).map kEn:=by simp[kEn]
  rw[this];exact hni
 ·simp only[List.mem_append,List.mem_cons]at hk;rcases hk with hk|rfl|hk
  ·exact C6 g.fram (hp.rep k (by simp[hk])) λq hq=>hA q (BB hk hq)
  ·exact GG ha.2.2.2.1 ha.2.2.2.2 hx hxl (by rw[hxe,AO8];rfl)
  ·exact C6 g.fram (hp.rep k (by simp[hk])) λq hq=>hB q (BB hk hq)
 ·simp only[List.mem_cons,List.not_mem_nil,or_false]at hq;rcases hq with rfl|rfl|rfl
  ·simp
  ·exact List.mem_cons_of_mem _ (BB (k:=a) (by simp) (AS _))
  ·exact List.mem_cons_of_mem _ (BB (k:=b) (by simp) (AS _))
variable {L:Nat} {A:List (Kid (L+1))} {a b:Kid (L+1)} {B:List (Kid (L+1))}
theorem AW2 (hp:CP K s i n (A++a::b::B) w0)(g:AM7 K s s5 i n A a b B x' w) :
  ∃X a' b' Y,a.2.ks=X++[a']/\b.2.ks=b'::Y/\CP K s5 a.2.page x' (X++a'::(b.1,b'.2)::Y) w/\X.length+1=a.2.ens.length:=by
 obtain⟨p1,p2,p3,p4,p5⟩:=G7 hp.nodup;obtain⟨hx,hxl,hxe,hxs⟩:=g.x;have ha:=hp.tidy.2 a (by simp)
 have hb:=hp.tidy.2 b (by simp)
 have hbk:=IW hp.tidy.1;obtain⟨X,a',hX⟩:∃X a',a.2.ks=X++[a']:=by
  rcases List.eq_nil_or_concat a.2.ks with e|⟨X,a',e⟩
  ·exact absurd e (EU.1 ha.2.1)
  ·exact⟨X,a',by rw[e,List.concat_eq_append]⟩
 obtain⟨b',Y,hY⟩:∃b' Y,b.2.ks=b'::Y:=by
  cases e:b.2.ks with
  | nil=>exact absurd e (EU.1 hb.2.1)
  | cons b' Y=>exact⟨b',Y,rfl⟩
 have hap:a.2.pages=a.2.page::(pgK X++a'.2.pages):=by rw[AQ,hX,A8,AN,FI,List.append_nil]
 have hbp:b.2.pages=b.2.page::(b'.2.pages++pgK Y):=by rw[AQ,hY,AN]
 obtain⟨ht1,hc1⟩:=AL.1 ha.1;obtain⟨ht2,hc2⟩:=AL.1 hb.1;have hr1:=(hp.rep a (by simp)).kid
 have hr2:=(hp.rep b (by simp)).kid
 rw[hX]at ht1 hr1;rw[hY]at ht2 hr2;rw[hap]at p4;rw[hbp]at p5;have q4:=List.nodup_cons.1 p4;have q5:=List.nodup_cons.1 p5;have hia:i ∉ a.2.pages:=λh=>hp.apart (BB (k:=a) (by simp) h)
 have hib:i ∉ b.2.pages:=λh=>hp.apart (BB (k:=b) (by simp) h)
 have hba:b.2.page ∉ a.2.pages:=λh=>p3 _ h (AS _)
 have hab:a.2.page ∉ b.2.pages:=λh=>p3 _ (AS _) h
 have n1:∀q ∈ pgK X++a'.2.pages,q ∉ [i,a.2.page,b.2.page]:=λq hq=>by
  have hm:q ∈ a.2.pages:=by rw[hap];exact List.mem_cons_of_mem _ hq
  simp only[List.mem_cons,List.not_mem_nil,or_false,not_or];exact⟨λe=>hia (e ▸ hm),λe=>q4.1 (e ▸ hq),λe=>hba (e ▸ hm)⟩
 have n2:∀q ∈ b'.2.pages++pgK Y,q ∉ [i,a.2.page,b.2.page]:=λq hq=>by
  have hm:q ∈ b.2.pages:=by rw[hbp];exact List.mem_cons_of_mem _ hq
  simp only[List.mem_cons,List.not_mem_nil,or_false,not_or];exact⟨λe=>hib (e ▸ hm),λe=>hab (e ▸ hm),λe=>q5.1 (e ▸ hq)⟩
 have hpk:pgK (X++a'::(b.1,b'.2)::Y)=(pgK X++a'.2.pages)++(b'.2.pages++pgK Y):=by rw[A8,AN,AN];simp
 refine⟨X,a',b',Y,hX,hY,⟨g.H,hx,hxs,hxl,?_,⟨EK (t:=a'.2) ht1.1 (λu hu=>(List.mem_cons.1 hu).elim (λe=>e ▸ hbk) (ht2.1.2 u)),λu hu=>?_⟩,λu hu=>?_,?_,?_⟩,?_⟩
 ·have hb0:b'.1=[]:=ht2.1.1;rw[hxe,AZ a.2,AZ b.2,hX,hY];unfold mE;simp[kEn]
 ·simp only[List.mem_append,List.mem_cons]at hu;rcases hu with hu|rfl|rfl|hu
  ·exact ht1.2 u (by simp[hu])
  ·exact ht1.2 u (by simp)
  ·exact ht2.2 b' (by simp)
  ·exact ht2.2 u (by simp[hu])
 ·simp only[List.mem_append,List.mem_cons]at hu;rcases hu with hu|rfl|rfl|hu
  ·exact C6 g.fram (hr1 u (by simp[hu])) λq hq=>n1 q (List.mem_append.2 (.inl (BB hu hq)))
  ·exact C6 g.fram (hr1 u (by simp)) λq hq=>n1 q (List.mem_append.2 (.inr hq))
  ·exact C6 g.fram (hr2 b' (by simp)) λq hq=>n2 q (List.mem_append.2 (.inl hq))
  ·exact C6 g.fram (hr2 u (by simp[hu])) λq hq=>n2 q (List.mem_append.2 (.inr (BB hu hq)))
 ·rw[hpk,List.nodup_append];refine⟨q4.2,q5.2,λq hq r hr e=>?_⟩
  subst e;exact p3 q (by rw[hap];exact List.mem_cons_of_mem _ hq) (by rw[hbp];exact List.mem_cons_of_mem _ hr)
 ·rw[hpk];intro hm;rcases List.mem_append.1 hm with hm|hm
  ·exact q4.1 hm
  ·exact hab (by rw[hbp];exact List.mem_cons_of_mem _ hm)
 ·rw[AZ,hX];simp
theorem AW1 (hp:CP K s i n (A++a::b::B) w0)(hf:¬Far a b)(g:AM7 K s s5 i n A a b B x' w){X:List (Kid L)}{a' b':Kid L}{Y:List (Kid L)}(hX:a.2.ks=X++[a'])(hY:b.2.ks=b'::Y){e:Ending}{w':World}
  (hj:DN K s5 a.2.page x' (X++a'::(b.1,b'.2)::Y) X.length e w'):DN K s i n (A++a::b::B) A.length e w':=by
 obtain⟨rfl,s6,ks2,d2,x2,H6,hJ,hM6,hN6,hR6,hg6,hF6⟩:=hj;obtain⟨p1,p2,p3,p4,p5⟩:=G7 hp.nodup;obtain⟨n',hn,hni⟩:=g.n';obtain⟨hx,hxl,hxe,hxs⟩:=g.x;have ha:=hp.tidy.2 a (by simp)
 have hap:a.2.pages=a.2.page::(pgK X++a'.2.pages):=by rw[AQ,hX,A8,AN,FI,List.append_nil]
 have hbp:b.2.pages=b.2.page::(b'.2.pages++pgK Y):=by rw[AQ,hY,AN]
 have hsub:∀q ∈ a.2.page::pgK (X++a'::(b.1,b'.2)::Y),q ∈ a.2.pages\/q ∈ b.2.pages:=λq hq=>by
  rw[A8,AN,AN]at hq;rw[hap,hbp];simp only[List.mem_cons,List.mem_append]at hq ⊢
  rcases hq with h|h|h|h|h <;> simp[h]
 have hF:FY s s6 (i::(a.2.pages++b.2.pages)):=(g.fram.mono λq hq=>by
  simp only[List.mem_cons,List.not_mem_nil,or_false]at hq;rcases hq with rfl|rfl|rfl
  ·simp
  ·simp[AS]
  ·simp[AS]).trans (hF6.mono λq hq=>by
   rcases hsub q hq with h|h <;> simp[h])
 have hA:∀q ∈ pgK A,q ∉ i::(a.2.pages++b.2.pages):=λq hq=>by
  simp only[List.mem_cons,List.mem_append,not_or];exact⟨λe=>hp.apart (by rw[A8];simp[<-e,hq]),p1 q hq⟩
 have hB:∀q ∈ pgK B,q ∉ i::(a.2.pages++b.2.pages):=λq hq=>by
  simp only[List.mem_cons,List.mem_append,not_or];exact⟨λe=>hp.apart (by rw[A8,AN,AN];simp[<-e,hq]),p2 q hq⟩
 have hiM:s6.M i=some n':=by
  rw[hF6.M i λhm=>?_];exact hn
  rcases hsub i hm with h|h
  ·exact hp.apart (BB (k:=a) (by simp) h)
  ·exact hp.apart (BB (k:=b) (by simp) h)
 have hmg:∃dd,Mrg a.2 b.1 b.2 (.node a.2.page ks2) dd/\dd=b.2.page::d2:=by
  refine⟨_,⟨X,a',b',Y,hX,hY,?_⟩,rfl⟩;rcases hJ with⟨A',a0,b0,B',m,he,hl,hnf,hm,rfl⟩|⟨rfl,rfl,hfar⟩
  ·obtain⟨e0,e1⟩:=List.append_inj he hl.symm;injection e1 with e1 e2
   injection e2 with e2 e3
   subst e0 e1 e2 e3;exact .inr ⟨hnf,m,d2,hm,rfl,rfl⟩
  ·exact .inl ⟨hfar X a' (b.1,b'.2) Y rfl rfl,rfl,rfl⟩
 obtain⟨dd,hmg,rfl⟩:=hmg;refine⟨rfl,s6,A++(a.1,.node a.2.page ks2)::B,b.2.page::d2,n',H6,.inl ⟨A,a,b,B,_,rfl,rfl,hf,hmg,rfl⟩,hiM,?_,λk hk=>?_,?_,hF.mono λq hq=>?_⟩
 ·have:(A++(a.1,Tr.node a.2.page ks2)::B).map kEn=(A++a::B).map kEn:=by simp[kEn]
  rw[this];exact hni
 ·simp only[List.mem_append,List.mem_cons]at hk;rcases hk with hk|rfl|hk
  ·exact C6 hF (hp.rep k (by simp[hk])) λq hq=>hA q (BB hk hq)
  ·refine Rep.mk ?_ hR6;exact GG ha.2.2.2.1 ha.2.2.2.2 hM6 (hN6.2.2.1.trans hxl) hN6.2.2.2.1
  ·exact C6 hF (hp.rep k (by simp[hk])) λq hq=>hB q (BB hk hq)
 ·rw[hg6,g.gn,List.append_assoc];rfl
 ·simp only[List.mem_cons,List.mem_append]at hq;rcases hq with rfl|hq|hq
  ·simp
  ·exact List.mem_cons_of_mem _ (BB (k:=a) (by simp) hq)
  ·exact List.mem_cons_of_mem _ (BB (k:=b) (by simp) hq)
end
section
variable {K:Kc} {s s1 s2:Hst} {i:Nat} {n:NO} {w w2:World} {L:Nat}
theorem O7 {t:Tr L}{x:NO}(hr:Rep (Cur s) t)(g:Got s s1 t.page L t.ens x)(hn:t.pages.Nodup)(h1:1<=t.page)(h2:t.page<4096):Rep (Cur s1) t:=by
 have hc:Cur s1 t.page L t.ens:=GG h1 h2 (by rw[g.M,AB]) g.x.1 g.x.2.1
 cases L with
 | zero=>exact hc
 | succ L =>
  refine Rep.mk hc λk hk=>C6 g.fram (hr.kid k hk) λq hq=>?_
  rw[AQ]at hn;have:=(List.nodup_cons.1 hn).1
  rw[List.mem_singleton];intro e;exact this (e ▸ BB hk hq)
theorem AM.rowOf {X:Nat->Prop}{x:NO}(h:AM X w x)(hne:x.ens≠[]):∃b o L vs R,x.arr=some ⟨b,o,none⟩/\L.length=o/\OT X w b L vs R x.ens:=by
 rcases h.ents with h0|⟨b,o,cs,ha,hb,hx,hc⟩
 ·exact absurd h0 hne
 ·obtain⟨L,vs,R,h1,h2⟩:=E5.row (b:=b) (o:=o) (by rw[<-ha];exact h.ents) hne
  exact⟨b,o,L,vs,R,ha,h1,h2⟩
theorem OT.reads {X:Nat->Prop}{b:Nat}{L vs R:List Value}{es:List En}(h:OT X w b L vs R es):∀j u,vs[j]? = some u->w.cell? ((⟨b,L.length,none⟩:Addr).add j)=some u:=λj u hu=>by
 have hj:=(List.getElem?_eq_some_iff.1 hu).1;rw[A3,yC h.blk,List.getElem?_toArray,List.getElem?_append_right (by omega),Nat.add_sub_cancel_left,List.getElem?_append_left hj]
 exact hu
variable {A:List (Kid L)} {a b:Kid L} {B:List (Kid L)} {x y:NO}
structure AQ1 (K:Kc)(s s2:Hst)(i:Nat)(n:NO){L:Nat}(A:List (Kid L))(a b:Kid L)(B:List (Kid L))(x y:NO)(w0 w:World):Prop where
 pre:CP K s i n (A++a::b::B) w0
 H:Hnd K s2 w
 M:s2.M i=some n
 x:s2.M a.2.page=some x/\x.level=L/\x.ens=a.2.ens
 y:s2.M b.2.page=some y/\y.level=L/\y.ens=b.2.ens
 gn:s2.gn=s.gn
 fram:FY s s2 [a.2.page,b.2.page]
 rep:∀k ∈ A++a::b::B,Rep (Cur s2) k.2
theorem M1 (hp:CP K s i n (A++a::b::B) w):(1<=a.2.page/\a.2.page<4096)/\(1<=b.2.page/\b.2.page<4096)/\i≠a.2.page/\i≠b.2.page/\a.2.page≠b.2.page:=by
 obtain⟨p1,p2,p3,p4,p5⟩:=G7 hp.nodup;refine⟨(hp.tidy.2 a (by simp)).2.2.2,(hp.tidy.2 b (by simp)).2.2.2,λe=>hp.apart (e ▸ BB (k:=a) (by simp) (AS _)),λe=>hp.apart (e ▸ BB (k:=b) (by simp) (AS _)),λe=>p3 _ (AS _) (e ▸ AS _)⟩
theorem BW1 (hp:CP K s i n (A++a::b::B) w)(G1:Got s s1 a.2.page L a.2.ens x)(H2:Hnd K s2 w2)(G2:Got s1 s2 b.2.page L b.2.ens y):AQ1 K s s2 i n A a b B x y w w2:=by
 obtain⟨⟨a1,a2⟩,⟨b1,b2⟩,e1,e2,e3⟩:=M1 hp;obtain⟨p1,p2,p3,p4,p5⟩:=G7 hp.nodup;have hF:FY s s2 [a.2.page,b.2.page]:=(G1.fram.mono (by simp)).trans (G2.fram.mono (by simp))
 refine⟨hp,H2,?_,⟨?_,G1.x.1,G1.x.2.1⟩,⟨?_,G2.x.1,G2.x.2.1⟩,G2.same.2.2.2.trans G1.same.2.2.2,hF,λk hk=>?_⟩
 ·rw[G2.M,AA _ _ e2,G1.M,AA _ _ e1];exact hp.M
 ·rw[G2.M,AA _ _ e3,G1.M,AB]
 ·rw[G2.M,AB]
 ·have hr:=hp.rep k hk;simp only[List.mem_append,List.mem_cons]at hk;rcases hk with hk|rfl|rfl|hk
  ·exact C6 hF hr λq hq=>by
    have:=p1 q (BB hk hq)
    simp only[List.mem_cons,List.not_mem_nil,or_false,not_or];exact⟨λe=>this.1 (e ▸ AS _),λe=>this.2 (e ▸ AS _)⟩
  ·exact C6 G2.fram (O7 hr G1 p4 a1 a2) λq hq=>by
    rw[List.mem_singleton];intro e;exact p3 q hq (e ▸ AS _)
  ·refine O7 (C6 G1.fram hr λq hq=>?_) G2 p5 b1 b2
   rw[List.mem_singleton];intro e;exact p3 _ (AS _) (e ▸ hq)
  ·exact C6 hF hr λq hq=>by
    have:=p2 q (BB hk hq)
    simp only[List.mem_cons,List.not_mem_nil,or_false,not_or];exact⟨λe=>this.1 (e ▸ AS _),λe=>this.2 (e ▸ AS _)⟩
theorem AN3 (g:AQ1 K s s2 i n A a b B x y w w2)(hf:Far a b){w':World}(hb:Below w2.heap.size w2 w'):DN K s i n (A++a::b::B) A.length (.returned (.tuple #[])) w':=by
 refine⟨rfl,s2,_,[],n,g.H.below hb,.inr ⟨rfl,rfl,λA' a' b' B' he hl=>?_⟩,g.M,⟨rfl,rfl,rfl,g.pre.ens,g.pre.sole,rfl,rfl⟩,g.rep,by rw[g.gn,List.append_nil],g.fram.mono λq hq=>?_⟩
 ·obtain⟨e0,e1⟩:=List.append_inj he hl.symm;injection e1 with e1 e2
  injection e2 with e2 e3
  subst e1 e2;exact hf
 ·simp only[List.mem_cons,List.not_mem_nil,or_false]at hq;rcases hq with rfl|rfl
  ·exact List.mem_cons_of_mem _ (BB (k:=a) (by simp) (AS _))
  ·exact List.mem_cons_of_mem _ (BB (k:=b) (by simp) (AS _))
theorem BA0 (t:AQ1 K s s2 i n A a b B x y w w2){g c:Nat}{vs R:List Value}(hg:w2.heap.size<=g)(hp:BE (λk=>s2.ρ k≠0) w2 vs (mE L b.1 a.2.ens b.2.ens))(hc:(mE L b.1 a.2.ens b.2.ens).length<=c/\c<=maxLen)(hsh:DU (mE L b.1 a.2.ens b.2.ens))(w5:World)(hb:Below w2.heap.size w2 w5)(hh:w5.heap[g]? = some (.cells (vs++R).toArray 135 (0,0))) :
  Calls Tryz.prog 85 #[n.ptr,.int .i64 ((A.length:Int)+1)] (w5.setCell ⟨x.blk,2,none⟩ (.slice (some ⟨g,0,none⟩) (mE L b.1 a.2.ens b.2.ens).length c)) λe w6=>e=.returned (.tuple #[]) /\
   Calls Tryz.prog 160 #[.pointer (some ⟨K.cb,0,none⟩),y.ptr] w6 λe w7=>e=.returned (.tuple #[])/\∃s5 x',x'.blk=x.blk/\w7.cell? ⟨x.blk,1,none⟩=some (.int .i64 L)/\AM7 K s s5 i n A a b B x' w7:=by
 obtain⟨⟨a1,a2⟩,⟨b1,b2⟩,e1,e2,e3⟩:=M1 t.pre;obtain⟨ρ3,H3⟩:=t.H.newRow t.x.1 hb hg hh hp hc hsh;have hM3:(upd s2.M a.2.page (some { x with ens:=mE L b.1 a.2.ens b.2.ens,arr:=some ⟨g,0,none⟩,cap:=c,sole:=true })) i=some n:=by rw[AA _ _ e1];exact t.M
 have hn3:=H3.node i n hM3;have hens:n.ens=(A.map kEn++[kEn a])++kEn b::B.map kEn:=by rw[t.pre.ens];simp
 have hal:(A.map kEn++[kEn a]).length=A.length+1:=by simp
 have hrm:=NR _ n (A.map kEn++[kEn a]) (B.map kEn) (kEn b) _ hn3.at_ t.pre.sole hens;rw[hal,show ((A.length+1:Nat):Int)=(A.length:Int)+1 by omega]at hrm
 refine hrm.mono ?_;rintro e w6 hr;have H6:=H3.removed hM3 t.pre.sole hr;refine⟨hr.1,?_⟩;have hMy:upd (upd s2.M a.2.page (some { x with ens:=mE L b.1 a.2.ens b.2.ens,arr:=some ⟨g,0,none⟩,cap:=c,sole:=true })) i (some { n with ens:=hd0 n.level (A.map kEn++[kEn a]++B.map kEn) }) b.2.page=some y:=by
  rw[AA _ _ (Ne.symm e2),AA _ _ (Ne.symm e3)];exact t.y.1
 refine (AO9 H6 hMy ⟨b1,b2⟩).mono ?_;rintro e w7 ⟨rfl,gv,ρ7,H7⟩;have hhd:hd0 n.level (A.map kEn++[kEn a]++B.map kEn)=(A++a::B).map kEn:=by
  have he:A.map kEn++[kEn a]++B.map kEn=(A++a::B).map kEn:=by simp
  rw[he];have hk:=t.pre.tidy.1;cases A with
  | nil =>
   have h0:a.1=[]:=hk.1;simp[hd0,kEn,h0]
  | cons u A =>
   have h0:u.1=[]:=hk.1;simp[hd0,kEn,h0]
 have hxM:upd (upd (upd s2.M a.2.page (some { x with ens:=mE L b.1 a.2.ens b.2.ens,arr:=some ⟨g,0,none⟩,cap:=c,sole:=true })) i (some { n with ens:=hd0 n.level (A.map kEn++[kEn a]++B.map kEn) })) b.2.page none a.2.page=some { x with ens:=mE L b.1 a.2.ens b.2.ens,arr:=some ⟨g,0,none⟩,cap:=c,sole:=true }:=by
  rw[AA _ _ e3,AA _ _ (Ne.symm e1),AB]
 have hx7:=(H7.node _ _ hxM).at_.c1;refine⟨rfl,_,{ x with ens:=mE L b.1 a.2.ens b.2.ens,arr:=some ⟨g,0,none⟩,cap:=c,sole:=true },rfl,by rw[<-t.x.2.1];exact hx7,H7,⟨{ n with ens:=hd0 n.level (A.map kEn++[kEn a]++B.map kEn) },?_,rfl,rfl,rfl,hhd,t.pre.sole,rfl,rfl⟩,⟨hxM,t.x.2.1,rfl,rfl⟩,by show s2.gn++[b.2.page]=_;rw[t.gn],?_⟩
 ·show upd (upd (upd s2.M a.2.page _) i _) b.2.page none i=_;rw[AA _ _ e2,AB]
 ·refine⟨t.fram.same,λq hq=>?_,[b.2.page],by show s2.gn++[b.2.page]=_;rw[t.gn],by simp⟩
  simp only[List.mem_cons,List.not_mem_nil,or_false,not_or]at hq;show upd (upd (upd s2.M a.2.page _) i _) b.2.page none q=_;rw[AA _ _ hq.2.2,AA _ _ hq.1,AA _ _ hq.2.1];exact t.fram.M q (by simp[hq.2.1,hq.2.2])
def RG (L:Nat):Prop:=∀(K:Kc) (s:Hst) (i:Nat) (n:NO) (ks:List (Kid L)) (w:World),CP K s i n ks w->∀at_:Nat,at_<=900->Calls Tryz.prog 162 #[.pointer (some ⟨K.cb,0,none⟩),n.ptr,.int .i64 at_] w (DN K s i n ks at_)
theorem BH9 {s5:Hst}{x':NO}{w0:World}(hL:L=0)(hp:CP K s i n (A++a::b::B) w0)(hf:¬Far a b)(g:AM7 K s s5 i n A a b B x' w):DN K s i n (A++a::b::B) A.length (.returned (.tuple #[])) w:=by
 subst hL;exact AW0 hp hf g
theorem BH8 {s5:Hst}{x':NO}{w0:World}(ih:∀L',L=L'+1->RG L')(hL:0<L)(hp:CP K s i n (A++a::b::B) w0)(hf:¬Far a b)(g:AM7 K s s5 i n A a b B x' w) :
  Calls Tryz.prog 162 #[.pointer (some ⟨K.cb,0,none⟩),x'.ptr,.int .i64 ((a.2.ens.length:Int)-1)] w (DN K s i n (A++a::b::B) A.length):=by
 cases L with
 | zero=>omega
 | succ L =>
  obtain⟨X,a',b',Y,hX,hY,hpre,hl⟩:=AW2 hp g;have h5:a.2.ens.length<=512:=by
   have h1:=KK a.2.ens;have h2:=(hp.tidy.2 a (by simp)).2.2.1
   unfold Tr.size at h2;omega
  rw[show (a.2.ens.length:Int)-1=(X.length:Int) by omega]
  exact (ih L rfl K s5 a.2.page x' _ w hpre X.length (by omega)).mono λe w' hj=>AW1 hp hf g hX hY hj
end
section
variable {K:Kc} {s:Hst} {i:Nat} {n:NO} {w:World} {L:Nat} {A:List (Kid L)} {a b:Kid L} {B:List (Kid L)}
theorem BY3 (hp:CP K s i n (A++a::b::B) w):n.ens[A.length]? = some (kEn a)/\n.ens[A.length+1]? = some (kEn b):=by
 rw[hp.ens];constructor <;> simp
def CD1 (X:Nat->Prop)(w2:World)(L:Nat)(k:List UInt8)(es fs:List En)(n1 m1:Nat)(kv:Value)(e:Ending)(w':World):Prop :=
 ∃g c vs R,e=.returned (.slice (some ⟨g,0,none⟩) (n1+m1) c)/\n1+m1<=c/\c<=maxLen/\w2.heap.size<=g/\Below w2.heap.size w2 w' /\
  (∀w'',w''=(if L=0 then w' else w'.setCell ⟨g,n1*2,none⟩ kv)->Below w2.heap.size w2 w''/\w''.heap[g]? = some (.cells (vs++R).toArray 135 (0,0)))/\BE X w2 vs (mE L k es fs)/\(∃u,w'.cell? ⟨g,n1*2,none⟩=some u)/\w'.frozen? ⟨g,n1*2,none⟩=false/\g<w'.heap.size
theorem BK7 {X:Nat->Prop}{w2 W:World}{x y:NO}(hx:AM X w2 x)(hy:AM X w2 y)(hxe:x.ens≠[])(hye:y.ens≠[])(k:List UInt8)(kv:Value)(hk:A7 X w2 kv k)(hb:Below w2.heap.size w2 W) :
  Calls Tryz.prog 187 #[.slice (some ⟨W.heap.size,0,none⟩) 2 2] (W.alloc (.cells #[.slice x.arr x.ens.length x.cap,.slice y.arr y.ens.length y.cap] 136)) (CD1 X w2 L k x.ens y.ens x.ens.length y.ens.length kv):=by
 obtain⟨b1,o1,L1,V1,R1,ha1,hL1,r1⟩:=hx.rowOf hxe;obtain⟨b2,o2,L2,V2,R2,ha2,hL2,r2⟩:=hy.rowOf hye;have hb2:Below w2.heap.size w2 (W.alloc (.cells #[.slice x.arr x.ens.length x.cap,.slice y.arr y.ens.length y.cap] 136)):=AE hb ((Below.refl _ _).alloc (Nat.le_refl _) _);have hl1:b1<w2.heap.size:=(Array.getElem?_eq_some_iff.1 r1.blk).1;have hl2:b2<w2.heap.size:=(Array.getElem?_eq_some_iff.1 r2.blk).1;have hnew:=heap_alloc_new W (.cells #[.slice x.arr x.ens.length x.cap,.slice y.arr y.ens.length y.cap] 136);have hv1:=r1.pairs.len;have hv2:=r2.pairs.len;have p1:=List.length_pos_iff.2 hxe;have p2:=List.length_pos_iff.2 hye;refine (AX6 W.heap.size x.ens.length y.ens.length x.cap y.cap ⟨b1,o1,none⟩ ⟨b2,o2,none⟩ V1 V2 _ (by rw[hnew,ha1,ha2]) hv1 hv2 ⟨p1,hx.short.1⟩ ⟨p2,hy.short.1⟩ (λj u hu=>by rw[hb2.cell (p:=(⟨b1,o1,none⟩:Addr).add j) (by rw[I0];exact hl1),<-hL1];exact r1.reads j u hu) (λj u hu=>by rw[hb2.cell (p:=(⟨b2,o2,none⟩:Addr).add j) (by rw[I0];exact hl2),<-hL2];exact r2.reads j u hu) r1.pairs.one r2.pairs.one ⟨Nat.lt_of_lt_of_le hl1 hb2.size,Nat.lt_of_lt_of_le hl2 hb2.size⟩).mono ?_
 rintro e w' ⟨g,c,R,rfl,h1,h2,h3,h4,h5⟩;have hb3:Below w2.heap.size w2 w':=AE hb2 h5;have hgl:g<w'.heap.size:=(Array.getElem?_eq_some_iff.1 h4).1;have hz:=hb2.size;obtain⟨f,r,hf⟩:∃f r,y.ens=f::r:=by cases he:y.ens with | nil=>exact absurd he hye | cons f r=>exact⟨f,r,rfl⟩
 have hpy:=r2.pairs;rw[hf]at hpy;obtain⟨fk,fv,Vr,rfl,k1,k2,k3⟩:=hpy.uncons;refine⟨g,c,V1++((if L=0 then fk else kv)::fv::Vr),R,rfl,h1,h2,Nat.le_trans hz h3,hb3,λw'' hw=>?_,?_,⟨fk,?_⟩,by simp[World.frozen?,h4],hgl⟩
 ·by_cases h0:L=0
  ·rw[if_pos h0]at hw;subst hw;rw[if_pos h0];exact⟨hb3,by rw[h4,List.append_assoc]⟩
  ·rw[if_neg h0]at hw;rw[if_neg h0,hw];refine⟨hb3.setCell (Nat.le_trans hz h3) _,?_⟩;rw[BW h4];congr 2
   apply Array.ext'
   rw[Array.toList_setIfInBounds,List.toList_toArray,List.toList_toArray,List.set_append,if_neg (by omega),hv1,Nat.sub_self,List.append_assoc]
   rfl
 ·rw[hf];unfold mE;refine r1.pairs.app ?_;by_cases h0:L=0
  ·rw[if_pos h0];simp only[if_pos h0];exact⟨k1,k2,k3⟩
  ·rw[if_neg h0];simp only[if_neg h0];exact⟨hk,k2,k3⟩
 ·rw[yC h4,List.getElem?_toArray,List.getElem?_append_right (by omega),hv1,Nat.sub_self];rfl
theorem T8 (ih:∀L',L=L'+1->RG L')(hp:CP K s i n (A++a::b::B) w)(h9:A.length<=900) :
  Calls Tryz.prog 162 #[.pointer (some ⟨K.cb,0,none⟩),n.ptr,.int .i64 A.length] w (DN K s i n (A++a::b::B) A.length):=by
 obtain⟨ka,kb⟩:=BY3 hp;obtain⟨⟨a1,a2⟩,⟨b1,b2⟩,e1,e2,e3⟩:=M1 hp;have ca:(kEn a).child=a.2.page:=CV a (by omega)
 have cb:(kEn b).child=b.2.page:=CV b (by omega)
 have hra:=(hp.rep a (by simp)).at_
 have hrb:=(hp.rep b (by simp)).at_
 have HC1:=yH (O8 hp.H hp.M ka rfl hp.level (by rw[ca];exact hra))
 rw[ca]at HC1;have c2:=((hp.H.node i n hp.M).at_).c2;have hNl:n.ens.length=A.length+2+B.length:=by rw[hp.ens,List.length_map];simp;omega
 have hL9:=(hp.H.node i n hp.M).at_.small.2.1;rw[hp.level]at hL9;have hta:=hp.tidy.2 a (by simp)
 have htb:=hp.tidy.2 b (by simp)
 have hkb:=IW hp.tidy.1;have hsz:=BR9 hta htb;have hn5:=(hp.H.node i n hp.M).at_.short.1;obtain⟨N,hN⟩:∃N,N=n.ens.length:=⟨_,rfl⟩;rw[<-hN]at c2 hNl hn5;obtain⟨al,hal⟩:∃l,l=A.length:=⟨_,rfl⟩;rw[<-hal]at HC1 hNl h9 ⊢
 have hlt1:¬((N:Int)<=(al:Int)+1):=by omega
 have HIH:=yH ih;have HP:=yH hp
 have HKB:=yH kb;have HCB:=yH cb;have HAL:=yH hal;have HRB:=yH hrb;have HNN:=yH hN
 have HSZ:=yH hsz;have HTA:=yH hta;have HTB:=yH htb
 have hxb:=hp.H.node i n hp.M;clear ih ka kb ca cb hra hrb hal hN hsz hta htb a1 a2 b1 b2;obtain⟨nb,hnb⟩:∃b,b=n.blk:=⟨_,rfl⟩;have HNB:=yH hnb;have hnp:n.ptr=.pointer (some ⟨nb,0,none⟩):=by unfold NO.ptr;rw[hnb]
 rw[hnp]at HC1 ⊢
 rw[<-hnb]at c2;clear hnb hnp hxb hp;go_enter Tryz.func162,Tryz.ntmps162;go_wp2_with fail;refine HC1.out.mono ?_;rintro e w1 ⟨x,s1,rfl,H1,G1⟩;have HC2:Hid (Calls Tryz.prog 159 #[.pointer (some ⟨K.cb,0,none⟩),.pointer (some ⟨nb,0,none⟩),.int .i64 ((al:Int)+1)] w1 λe w2=>∃y s2,e=.returned y.ptr/\AQ1 K s s2 i n A a b B x y w w2):=yH (by
  obtain⟨_,_,e1,e2,e3⟩:=M1 HP.out;have hM1:s1.M i=some n:=by rw[G1.M,AA _ _ e1];exact HP.out.M
  have hc:Cur s1 b.2.page L b.2.ens:=HRB.out.fram G1.fram (by rw[List.mem_singleton];exact Ne.symm e3)
  have:=O8 H1 hM1 (at_:=al+1) (by rw[HAL.out];exact HKB.out) rfl HP.out.level (by rw[HCB.out];exact hc)
  rw[show ((al+1:Nat):Int)=(al:Int)+1 by omega]at this
  have hnp:n.ptr=.pointer (some ⟨nb,0,none⟩):=by unfold NO.ptr;rw[HNB.out]
  rw[hnp]at this;refine this.mono ?_;rintro e w2 ⟨y,s2,rfl,H2,G2⟩;rw[HCB.out]at G2;exact⟨y,s2,rfl,BW1 HP.out G1 H2 G2⟩)
 clear H1 G1 c2;go_wp2_with fail;refine HC2.out.mono ?_;rintro e w2 ⟨y,s2,rfl,ht⟩;have hxn:=(ht.H.node _ x ht.x.1).at_;have hyn:=(ht.H.node _ y ht.y.1).at_;have hnn:=(ht.H.node _ n ht.M).at_;have x1:=hxn.c1;have x2:=hxn.c2;have y1:=hyn.c1;have y2:=hyn.c2;have n2:=hnn.c2;rw[ht.x.2.1]at x1;rw[ht.y.2.1]at y1;have hxe:x.ens≠[]:=by rw[ht.x.2.2];exact HTA.out.2.1
 have hye:y.ens≠[]:=by rw[ht.y.2.2];exact HTB.out.2.1
 have hyl:=List.length_pos_iff.2 hye;have hx5:=hxn.short.1;have hxl:=hxn.lt;have hnl:=hnn.lt;have fx:=hxn.frozen 2;obtain⟨gb,go,kv,vv,hna,hgl,hgf,hgk,_,hgB,_⟩:=hnn.ents.at_ (i:=A.length+1) HKB.out;obtain⟨kA,kcap,hkv,_⟩:=id hgB;obtain⟨kl,hkl⟩:∃z,z=(kEn b).key.length:=⟨_,rfl⟩;rw[<-hkl]at hkv;subst hkv;clear hkl;have HCO:Hid (∀W,Below w2.heap.size w2 W->Calls Tryz.prog 187 #[.slice (some ⟨W.heap.size,0,none⟩) 2 2] (W.alloc (.cells #[.slice x.arr x.ens.length x.cap,.slice y.arr y.ens.length y.cap] 136)) (CD1 (λk=>s2.ρ k≠0) w2 L b.1 x.ens y.ens x.ens.length y.ens.length (.slice kA kl kcap))):=yH λW hb=>BK7 hxn hyn hxe hye b.1 _ hgB hb
 have HT:=yH ht;have hsh:DU (mE L b.1 x.ens y.ens):=BF0 hxn.short hyn.short (by have:=IW HP.out.tidy.1;omega) (by
  have h1:=KK x.ens;have h2:=KK y.ens
  have h3:=HTA.out.2.2.1;have h4:=HTB.out.2.2.1
  unfold Tr.size at h3 h4;rw[<-ht.x.2.2]at h3;rw[<-ht.y.2.2]at h4;omega)
 have HSH:=yH hsh;have HSZ2:Hid (szE (mE L b.1 x.ens y.ens)=a.2.size+b.2.size+sep L b.1):=yH (by rw[ht.x.2.2,ht.y.2.2];exact HSZ.out)
 have HXE:=yH ht.x.2.2;have HYE:=yH ht.y.2.2
 rw[hna]at n2;rw[<-HAL.out]at hgk;have hsole:=HP.out.sole;obtain⟨gb',hgb'⟩:=hnn.alone HP.out.sole (by rw[HP.out.ens];simp)
 rw[hna]at hgb';injection hgb' with hgb'
 injection hgb' with hgb1 hgb2
 subst hgb1 hgb2;rw[Nat.zero_add]at hgk;rw[<-HNN.out]at n2;rw[<-HNB.out]at n2 hnl;obtain⟨n1,hn1⟩:∃l,l=x.ens.length:=⟨_,rfl⟩;obtain⟨m1,hm1⟩:∃l,l=y.ens.length:=⟨_,rfl⟩;rw[<-hn1]at x2 hx5 HCO;rw[<-hm1]at y2 hyl HCO;have HN1:=yH hn1;have HM1:=yH hm1
 have hy5:m1<=512:=by rw[hm1];exact hyn.short.1
 have hm0:decide (m1=0)=false:=decide_eq_false (by omega)
 have hm0':((m1:Int) == 0)=false:=by simp;omega
 have hcapn:=hnn.cap.1;rw[<-HNN.out]at hcapn;obtain⟨xb,hxb⟩:∃b,b=x.blk:=⟨_,rfl⟩;obtain⟨yb,hyb⟩:∃b,b=y.blk:=⟨_,rfl⟩;have HXB:=yH hxb;have HYB:=yH hyb
 rw[<-hxb]at x1 x2 hxl fx;rw[<-hyb]at y1 y2;obtain⟨xa,hxa⟩:∃b,b=x.arr:=⟨_,rfl⟩;obtain⟨ya,hya⟩:∃b,b=y.arr:=⟨_,rfl⟩;obtain⟨xc,hxc⟩:∃b,b=x.cap:=⟨_,rfl⟩;obtain⟨yc,hyc⟩:∃b,b=y.cap:=⟨_,rfl⟩;obtain⟨ncp,hncp⟩:∃b,b=n.cap:=⟨_,rfl⟩;rw[<-hxa,<-hxc]at x2;rw[<-hya,<-hyc]at y2;rw[<-hxa,<-hxc,<-hya,<-hyc]at HCO;rw[<-hncp]at n2 hcapn;unfold NO.ptr;rw[<-hxb,<-hyb];clear ht hxn hyn hnn hxe hye hsh hn1 hm1 hxb hyb hxa hya hxc hyc hncp hna hgB hgf hsole HC1 HC2;have HXC:=yH (And.intro x1 (And.intro x2 (And.intro y1 (And.intro y2 n2))));go_wp2;go_quiet (fail);go_wp2;obtain⟨W1,hW1⟩:∃W1,W1=w2.drewN nq:=⟨_,rfl⟩;rw[<-hW1];have hb1:Below w2.heap.size w2 W1:=by rw[hW1];exact AF _ _
 have x2':W1.cell? ⟨xb,2,none⟩=some (.slice xa n1 xc):=by rw[hW1];exact x2
 have y2':W1.cell? ⟨yb,2,none⟩=some (.slice ya m1 yc):=by rw[hW1];exact y2
 have HB1:Hid (Below w2.heap.size w2 W1.drew):=yH hb1.drew;clear hW1 hb1 x1 x2 y1 y2 n2 hm0 hm0';go_still_tail 8,(by kernel_rfl)
 go_wp2_with fail;refine (HCO.out _ HB1.out).mono ?_;rintro e w3 ⟨g,c,vs,R,rfl,hc1,hc2,hg,hb3,hall,hpr,⟨u,hu⟩,hfz,hgw⟩;have HALL:=yH hall;have HPR:=yH hpr;have HB3:=yH hb3
 clear hall hpr x2' y2';have x1:w3.cell? ⟨xb,1,none⟩=some (.int .i64 L):=(hb3.cell (p:=⟨xb,1,none⟩) hxl).trans HXC.out.1;have hxl3:xb<w3.heap.size:=Nat.lt_of_lt_of_le hxl hb3.size;have x2':w3.cell? ⟨xb,2,none⟩=some (.slice xa n1 xc):=(hb3.cell (p:=⟨xb,2,none⟩) hxl).trans HXC.out.2.1;have fx3:w3.frozen? ⟨xb,2,none⟩=false:=(hb3.frozen (p:=⟨xb,2,none⟩) hxl).trans fx;have n2':w3.cell? ⟨nb,2,none⟩=some (.slice (some ⟨gb,0,none⟩) N ncp):=(hb3.cell (p:=⟨nb,2,none⟩) hnl).trans HXC.out.2.2.2.2;have k3:w3.cell? ⟨gb,(al+1)*2,none⟩=some (.slice kA kl kcap):=(hb3.cell (p:=⟨gb,(al+1)*2,none⟩) hgl).trans hgk;have hgb3:gb<w3.heap.size:=Nat.lt_of_lt_of_le hgl hb3.size;have hne1:xb≠g:=by omega
 have hne2:gb≠g:=by omega
 have hne3:nb≠g:=by omega
 have hnl3:nb<w3.heap.size:=Nat.lt_of_lt_of_le hnl hb3.size;have hlen:(mE L b.1 a.2.ens b.2.ens).length=n1+m1:=by rw[AJ6,<-HXE.out,<-HYE.out,HN1.out,HM1.out]
 have HLEN:=yH hlen;clear hb3 hlen hgk;have HSO:Hid (∀W4 W5:World,Below w2.heap.size w2 W4->W4.heap[g]? = some (.cells (vs++R).toArray 135 (0,0))->Below W4.heap.size W4 W5->Calls Tryz.prog 184 #[.slice (some ⟨g,0,none⟩) (n1+m1) c] W5 λe w'=>e=.returned (.int .i64 (szE (mE L b.1 x.ens y.ens)))/\Below W5.heap.size W5 w'):=yH λW4 W5 hb4 hh4 hb5=>by
  have hgl4:g<W4.heap.size:=(Array.getElem?_eq_some_iff.1 hh4).1;have hr:OT (λk=>s2.ρ k≠0\/k=g) W5 g [] vs R (mE L b.1 x.ens y.ens):=by
   refine⟨(hb5.block g hgl4).trans hh4,.inr rfl,?_⟩;rw[HN1.out,HM1.out]at *
   refine (HPR.out.kept (X':=λk=>s2.ρ k≠0\/k=g) (AC.ofBelow (S:=λ_=>False) (AE hb4 hb5)) (λ_ _ h=>h.elim) (λk hk h=>h.elim id λe=>?_))
   subst e;omega
  exact P4 _ _ _ _ c W5 (by rw[AJ6,HN1.out,HM1.out]) hr.ents HSH.out
 have HPK:Hid (∀w5:World,Below w2.heap.size w2 w5->w5.heap[g]? = some (.cells (vs++R).toArray 135 (0,0))->Calls Tryz.prog 85 #[.pointer (some ⟨nb,0,none⟩),.int .i64 ((al:Int)+1)] (w5.setCell ⟨xb,2,none⟩ (.slice (some ⟨g,0,none⟩) (n1+m1) c)) λe w6=>e=.returned (.tuple #[]) /\
   Calls Tryz.prog 160 #[.pointer (some ⟨K.cb,0,none⟩),.pointer (some ⟨yb,0,none⟩)] w6 λe w7=>e=.returned (.tuple #[])/\∃s5 x',x'.blk=xb/\w7.cell? ⟨xb,1,none⟩=some (.int .i64 L)/\AM7 K s s5 i n A a b B x' w7):=yH λw5 hb hh=>by
  have h1:=BA0 HT.out hg (by rw[<-HXE.out,<-HYE.out];exact HPR.out) (c:=c) (by rw[HLEN.out];exact⟨hc1,hc2⟩) (by rw[<-HXE.out,<-HYE.out];exact HSH.out) w5 hb hh
  rw[HLEN.out]at h1;unfold NO.ptr at h1;rw[<-HXB.out,<-HYB.out,<-HNB.out,<-HAL.out]at h1;exact h1
 have HSZ3:Hid (Far a b ↔ 510<szE (mE L b.1 x.ens y.ens)):=yH (by rw[HSZ2.out];exact Iff.rfl)
 have hsz5:szE (mE L b.1 x.ens y.ens)<=300000:=P5 HSH.out;obtain⟨sz,hszd⟩:∃z,z=szE (mE L b.1 x.ens y.ens):=⟨_,rfl⟩;rw[<-hszd]at HSZ3 hsz5 HSO;have HXE2:=yH HXE.out;clear hszd HPR HSH HSZ2 HXE HYE HLEN;unfold maxLen at hc2;by_cases hl0:L=0
 ·obtain⟨hb4,hh4⟩:=HALL.out w3 (by rw[if_pos hl0])
  have hnl0:¬((0:Int)<(L:Int)):=by omega
  have HB4:=yH hb4;have HH4:=yH hh4
  clear hb4 hh4 HALL hu;by_cases hf:Far a b
  ·have hbig:(510:Int)<(sz:Int):=by have:=HSZ3.out.1 hf;omega
   clear HSZ3;go_wp2_with fail;refine (HSO.out w3 w3 HB4.out HH4.out (Below.refl _ _)).mono ?_;rintro e w5 ⟨rfl,hb5⟩;have HE:=yH (AN3 HT.out hf (AE HB4.out hb5));rw[<-HAL.out]at HE;clear hb5;go_wp2;first | (go_end0;exact HE.out) | exact bodyPost_ret (v:=.tuple #[]) (by simp[results,Tryz.results162,go_sem]) rfl HE.out
  ·have hsm:¬((510:Int)<(sz:Int)):=λh=>hf (HSZ3.out.2 (by omega))
   clear HSZ3;go_wp2_with fail;refine (HSO.out w3 w3 HB4.out HH4.out (Below.refl _ _)).mono ?_;rintro e w5 ⟨rfl,hb5⟩;have HPK2:=yH (HPK.out w5 (AE HB4.out hb5) ((hb5.block g hgw).trans HH4.out));have x2'':w5.cell? ⟨xb,2,none⟩=some (.slice xa n1 xc):=(hb5.cell (p:=⟨xb,2,none⟩) hxl3).trans x2';have fx5:w5.frozen? ⟨xb,2,none⟩=false:=(hb5.frozen (p:=⟨xb,2,none⟩) hxl3).trans fx3;clear hb5 x2' fx3 x1 n2' k3;go_wp2_with fail;refine HPK2.out.mono ?_;rintro e w6 ⟨rfl,hlv⟩;have HLV:=yH hlv;clear hlv x2'' fx5;go_wp2_with fail;refine HLV.out.mono ?_;rintro e w7 ⟨rfl,s5,x',hxb',x7,hgo⟩;have HE:=yH (BH9 hl0 HP.out hf hgo);rw[<-HAL.out]at HE;clear hgo hxb';go_wp2;first | (go_end0;exact HE.out) | exact bodyPost_ret (v:=.tuple #[]) (by simp[results,Tryz.results162,go_sem]) rfl HE.out
 ·have hlp:(0:Int)<(L:Int):=by omega
  obtain⟨W4,hW4⟩:∃W4,W4=w3.setCell ⟨g,n1*2,none⟩ (.slice kA kl kcap):=⟨_,rfl⟩;obtain⟨hb4,hh4⟩:=HALL.out W4 (by rw[if_neg hl0,hW4])
  have HB4:=yH hb4;have HH4:=yH hh4;have HW4:=yH hW4
  clear hW4;have f1:n1<n1+m1:=by omega
  have f2:(n1:Int)<(n1:Int)+(m1:Int):=by omega
  have f3:(0:Int)<=(al:Int)+1:=by omega
  have f4:(al:Int)+1<(N:Int):=by omega
  have f5:((al:Int)+1).toNat=al+1:=by omega
  clear hb4 hh4 HALL;by_cases hf:Far a b
  ·have hbig:(510:Int)<(sz:Int):=by have:=HSZ3.out.1 hf;omega
   clear HSZ3;go_wp2_with fail;rw[<-HW4.out];refine (HSO.out W4 W4 HB4.out HH4.out (Below.refl _ _)).mono ?_;rintro e w5 ⟨rfl,hb5⟩;have HE:=yH (AN3 HT.out hf (AE HB4.out hb5));rw[<-HAL.out]at HE;clear hb5;go_wp2;first | (go_end0;exact HE.out) | exact bodyPost_ret (v:=.tuple #[]) (by simp[results,Tryz.results162,go_sem]) rfl HE.out
  ·have hsm:¬((510:Int)<(sz:Int)):=λh=>hf (HSZ3.out.2 (by omega))
   clear HSZ3;go_wp2_with fail;rw[<-HW4.out];refine (HSO.out W4 W4 HB4.out HH4.out (Below.refl _ _)).mono ?_;rintro e w5 ⟨rfl,hb5⟩;have hb35:Below w2.heap.size w2 w5:=AE HB4.out hb5;have HPK2:=yH (HPK.out w5 hb35 ((hb5.block g (by have:=hb5.size;exact (Array.getElem?_eq_some_iff.1 HH4.out).1)).trans HH4.out))
   have x2'':w5.cell? ⟨xb,2,none⟩=some (.slice xa n1 xc):=(hb35.cell (p:=⟨xb,2,none⟩) hxl).trans HXC.out.2.1;have fx5:w5.frozen? ⟨xb,2,none⟩=false:=(hb35.frozen (p:=⟨xb,2,none⟩) hxl).trans fx;clear hb5 hb35 x2' fx3 x1 n2' k3 hu;go_wp2_with fail;refine HPK2.out.mono ?_;rintro e w6 ⟨rfl,hlv⟩;have HLV:=yH hlv;clear hlv x2'' fx5;go_wp2_with fail;refine HLV.out.mono ?_;rintro e w7 ⟨rfl,s5,x',hxb',x7,hgo⟩;have hrec:=BH8 HIH.out (by omega) HP.out hf hgo
   unfold NO.ptr at hrec;rw[hxb',<-HXE2.out,<-HN1.out,<-HAL.out]at hrec;have HRC:=yH hrec;clear hgo hxb' hrec;go_wp2_with fail;refine HRC.out.mono ?_;rintro e w8 hpo;obtain⟨rfl,hpo2⟩:=id hpo;have HE:=yH hpo;clear hpo hpo2;go_wp2;first | (go_end0;exact HE.out) | exact bodyPost_ret (v:=.tuple #[]) (by simp[results,Tryz.results162,go_sem]) rfl HE.out
end
theorem NW (L:Nat):RG L:=by
 induction L with
 | zero =>
  intro K s i n ks w hp at_ h9;rcases Nat.lt_or_ge (at_+1) ks.length with hlt|hge
  ·have hd:ks=ks.take at_++ks[at_]::ks[at_+1]::ks.drop (at_+2):=by
    rw[<-List.drop_eq_getElem_cons hlt,<-List.drop_eq_getElem_cons (by omega:at_<ks.length),List.take_append_drop]
   have hl:(ks.take at_).length=at_:=by rw[List.length_take];omega
   have:=T8 (A:=ks.take at_) (a:=ks[at_]) (b:=ks[at_+1]) (B:=ks.drop (at_+2)) (λL' h=>by omega) (by rw[<-hd];exact hp) (by rw[hl];exact h9)
   rw[<-hd,hl]at this;exact this
  ·exact AC2 hp at_ hge (by omega)
 | succ L ih =>
  intro K s i n ks w hp at_ h9;rcases Nat.lt_or_ge (at_+1) ks.length with hlt|hge
  ·have hd:ks=ks.take at_++ks[at_]::ks[at_+1]::ks.drop (at_+2):=by
    rw[<-List.drop_eq_getElem_cons hlt,<-List.drop_eq_getElem_cons (by omega:at_<ks.length),List.take_append_drop]
   have hl:(ks.take at_).length=at_:=by rw[List.length_take];omega
   have:=T8 (A:=ks.take at_) (a:=ks[at_]) (b:=ks[at_+1]) (B:=ks.drop (at_+2)) (λL' h=>by
    have:L'=L:=by omega
    subst this;exact ih) (by rw[<-hd];exact hp) (by rw[hl];exact h9)
   rw[<-hd,hl]at this;exact this
  ·exact AC2 hp at_ hge (by omega)
section
variable {K:Kc} {s:Hst} {i:Nat} {n:NO} {w:World} {L:Nat}
theorem AK1 {ks ks':List (Kid L)}{at_:Nat}{d:List Nat}(ht:EX ks)(h:IG ks at_ ks' d):EX ks'/\(pgK ks'++d).Perm (pgK ks):=by
 rcases id h with⟨A,a,b,B,m,rfl,hl,_⟩|⟨rfl,rfl,_⟩
 ·rw[<-hl]at h;rcases M2 ht h with⟨_,rfl,rfl⟩|⟨_,m,rfl,_,_,_,h3,h4,_⟩
  ·exact⟨ht,by simp⟩
  ·exact⟨h3,by have:=h4.perm;simpa using this⟩
 ·exact⟨ht,by simp⟩
theorem DN.next {ks:List (Kid L)}{at_:Nat}{e:Ending}{w0 w':World}(hp:CP K s i n ks w0)(h:DN K s i n ks at_ e w'):e=.returned (.tuple #[])/\∃s' ks' d n',IG ks at_ ks' d/\CP K s' i n' ks' w'/\N3 n n' (ks'.map kEn)/\s'.gn=s.gn++d/\FY s s' (i::pgK ks)/\(pgK ks'++d).Perm (pgK ks):=by
 obtain⟨rfl,s',ks',d,n',H,hJ,hM,hN,hR,hg,hF⟩:=h;obtain⟨ht,hperm⟩:=AK1 hp.tidy hJ;have hnd:(pgK ks'++d).Nodup:=hperm.nodup_iff.2 hp.nodup;refine⟨rfl,s',ks',d,n',hJ,⟨H,hM,hN.2.2.2.2.1,hN.2.2.1.trans hp.level,hN.2.2.2.1,ht,hR,(List.nodup_append.1 hnd).1,λhi=>hp.apart (hperm.mem_iff.1 (List.mem_append.2 (.inl hi)))⟩,hN,hg,hF,hperm⟩
theorem BG3 {ks:List (Kid L)}(hp:CP K s i n ks w)(at_:Nat)(h9:at_<=900) :
  Calls Tryz.prog 162 #[.pointer (some ⟨K.cb,0,none⟩),n.ptr,.int .i64 ((at_:Int)-1)] w λe w'=>e=.returned (.tuple #[])/\∃s' ks' d n',AQ4 ks at_ ks' d/\CP K s' i n' ks' w'/\N3 n n' (ks'.map kEn)/\s'.gn=s.gn++d/\FY s s' (i::pgK ks)/\(pgK ks'++d).Perm (pgK ks):=by
 cases at_ with
 | zero =>
  rw[show (((0:Nat):Int)-1)=-1 by omega]
  refine (BG2 _ _ w).mono ?_;rintro e w' ⟨rfl,rfl⟩;exact⟨rfl,s,ks,[],n,⟨rfl,rfl⟩,hp,⟨rfl,rfl,rfl,hp.ens,hp.sole,rfl,rfl⟩,by simp,FY.refl _ _,by simp⟩
 | succ at_ =>
  rw[show (((at_+1:Nat):Int)-1)=(at_:Int) by omega]
  refine (NW L K s i n ks w hp at_ (by omega)).mono ?_
  intro e w' h;exact h.next hp
def K5 (K:Kc)(s:Hst)(i:Nat)(n:NO)(e:Ending)(w':World):Prop :=
 e=.returned (.int .i64 0)/\∃q h' S' ρ' av',s.h.NextIs q h'/\Hnd K { s with S:=S',ρ:=ρ',h:=h',G:=upd s.G q A9,M:=upd (upd s.M i none) q (some { n with page:=q }),tk:=s.tk++[q],av:=av' } w'
def CU (h:Hd)(U:List Nat)(k:Nat):Prop:=(∀q,h.has q->q ∈ U)/\U.length+k<=4094
theorem CU.not_full {h:Hd}{U:List Nat}{k:Nat}(hr:CU h U k)(hf:∀j,h.isFree j=false)(hc:h.count=4095):False:=by
 have hsub:∀q ∈ (List.range 4095).map (·+1),q ∈ U:=λq hq=>by
  obtain⟨j,hj,rfl⟩:=List.mem_map.1 hq;have:=List.mem_range.1 hj
  exact hr.1 _ ⟨by omega,by omega,hf _⟩
 have hn:((List.range 4095).map (·+1)).Nodup:=by
  refine List.Pairwise.map _ (λa b h=>?_) List.nodup_range
  intro e;exact h (by omega)
 have:=List.Nodup.length_le_of_subset hn hsub
 rw[List.length_map,List.length_range]at this;have:=hr.2
 omega
theorem CU.next {h h':Hd}{U:List Nat}{k q:Nat}(hr:CU h U (k+1))(ho:h.Ok)(hn:h.NextIs q h'):CU h' (q::U) k:=by
 refine⟨λj hj=>?_,by have:=hr.2;simp;omega⟩
 rcases ((hn.spec ho).2.2.2.2.1 j).1 hj with h|h
 ·exact List.mem_cons_of_mem _ (hr.1 j h)
 ·exact h ▸ List.mem_cons_self
end
end Go.Proofs.YtfbbjiidccbaiaaGreatDoor
