/- Texts of one proof, one behind the other: UO, UP, UQ, UR, US, UT, UV, UW. -/
import Derived.Test.YtfbbjiidccbaiaaGreatDoorMAL
import Derived.Deep.RegionWith
import Derived.IntWalk
set_option maxRecDepth 100000
namespace Go.Proofs.YtfbbjiidccbaiaaGreatDoor
open Go.RowKit
theorem join_said (L:Nat):JoinSaid L:=by
 induction L with
 | zero =>
  intro K s i n ks w hp at_ h9
  rcases Nat.lt_or_ge (at_+1) ks.length with hlt | hge
  ·have hd:ks=ks.take at_++ks[at_] :: ks[at_+1] :: ks.drop (at_+2):=by
    rw [← List.drop_eq_getElem_cons hlt,← List.drop_eq_getElem_cons (by omega:at_ < ks.length),List.take_append_drop]
   have hl:(ks.take at_).length=at_:=by rw [List.length_take];omega
   have:=join_step (A:=ks.take at_) (a:=ks[at_]) (b:=ks[at_+1]) (B:=ks.drop (at_+2)) (fun L' h=>by omega) (by rw [← hd];exact hp) (by rw [hl];exact h9)
   rw [← hd,hl] at this
   exact this
  ·exact join_end hp at_ hge (by omega)
 | succ L ih =>
  intro K s i n ks w hp at_ h9
  rcases Nat.lt_or_ge (at_+1) ks.length with hlt | hge
  ·have hd:ks=ks.take at_++ks[at_] :: ks[at_+1] :: ks.drop (at_+2):=by
    rw [← List.drop_eq_getElem_cons hlt,← List.drop_eq_getElem_cons (by omega:at_ < ks.length),List.take_append_drop]
   have hl:(ks.take at_).length=at_:=by rw [List.length_take];omega
   have:=join_step (A:=ks.take at_) (a:=ks[at_]) (b:=ks[at_+1]) (B:=ks.drop (at_+2)) (fun L' h=>by
    have:L'=L:=by omega
    subst this;exact ih) (by rw [← hd];exact hp) (by rw [hl];exact h9)
   rw [← hd,hl] at this
   exact this
  ·exact join_end hp at_ hge (by omega)
section
variable {K:Kc} {s:Hst} {i:Nat} {n:NO} {w:World} {L:Nat}
theorem joinR_same {ks ks':List (Kid L)} {at_:Nat} {d:List Nat} (ht:TidyK ks) (h:JoinR ks at_ ks' d):TidyK ks'∧(pgK ks'++d).Perm (pgK ks):=by
 rcases id h with ⟨A,a,b,B,m,rfl,hl,_⟩ | ⟨rfl,rfl,_⟩
 ·rw [← hl] at h
  rcases joinR_ok ht h with ⟨_,rfl,rfl⟩ | ⟨_,m,rfl,_,_,_,h3,h4,_⟩
  ·exact ⟨ht,by simp⟩
  ·exact ⟨h3,by have:=h4.perm;simpa using this⟩
 ·exact ⟨ht,by simp⟩
theorem JoinPost.next {ks:List (Kid L)} {at_:Nat} {e:Ending} {w0 w':World} (hp:JoinPre K s i n ks w0) (h:JoinPost K s i n ks at_ e w'):e=.returned (.tuple #[])∧∃ s' ks' d n',JoinR ks at_ ks' d∧JoinPre K s' i n' ks' w'∧NodeIs n n' (ks'.map kEn)∧s'.gn=s.gn++d∧Fram s s' (i :: pgK ks)∧(pgK ks'++d).Perm (pgK ks):=by
 obtain ⟨rfl,s',ks',d,n',H,hJ,hM,hN,hR,hg,hF⟩:=h
 obtain ⟨ht,hperm⟩:=joinR_same hp.tidy hJ
 have hnd:(pgK ks'++d).Nodup:=hperm.nodup_iff.2 hp.nodup
 refine ⟨rfl,s',ks',d,n',hJ,⟨H,hM,hN.2.2.2.2.1,hN.2.2.1.trans hp.level,hN.2.2.2.1,ht,hR,(List.nodup_append.1 hnd).1,fun hi=>hp.apart (hperm.mem_iff.1 (List.mem_append.2 (.inl hi)))⟩,hN,hg,hF,hperm⟩
theorem join_m {ks:List (Kid L)} (hp:JoinPre K s i n ks w) (at_:Nat) (h9:at_≤900) :
  Calls Tryz.prog 162 #[.pointer (some ⟨K.cb,0,none⟩),n.ptr,.int .i64 ((at_:Int) - 1)] w fun e w'=>e=.returned (.tuple #[])∧∃ s' ks' d n',JoinM ks at_ ks' d∧JoinPre K s' i n' ks' w'∧NodeIs n n' (ks'.map kEn)∧s'.gn=s.gn++d∧Fram s s' (i :: pgK ks)∧(pgK ks'++d).Perm (pgK ks):=by
 cases at_ with
 | zero =>
  rw [show (((0:Nat):Int) - 1)=-1 by omega]
  refine (join_neg _ _ w).mono ?_
  rintro e w' ⟨rfl,rfl⟩
  exact ⟨rfl,s,ks,[],n,⟨rfl,rfl⟩,hp,⟨rfl,rfl,rfl,hp.ens,hp.sole,rfl,rfl⟩,by simp,Fram.refl _ _,by simp⟩
 | succ at_ =>
  rw [show (((at_+1:Nat):Int) - 1)=(at_:Int) by omega]
  refine (join_said L K s i n ks w hp at_ (by omega)).mono ?_
  intro e w' h
  exact h.next hp
def HousePost (K:Kc) (s:Hst) (i:Nat) (n:NO) (e:Ending) (w':World):Prop :=
 e=.returned (.int .i64 0)∧∃ q h' S' ρ' av',s.h.NextIs q h'∧Hnd K { s with S:=S',ρ:=ρ',h:=h',G:=upd s.G q noughts,M:=upd (upd s.M i none) q (some { n with page:=q }),tk:=s.tk++[q],av:=av' } w'
def Roomy (h:Hd) (U:List Nat) (k:Nat):Prop:=(∀ q,h.has q→q ∈ U)∧U.length+k≤4094
theorem Roomy.not_full {h:Hd} {U:List Nat} {k:Nat} (hr:Roomy h U k) (hf:∀ j,h.isFree j=false) (hc:h.count=4095):False:=by
 have hsub:∀ q ∈ (List.range 4095).map (·+1),q ∈ U:=fun q hq=>by
  obtain ⟨j,hj,rfl⟩:=List.mem_map.1 hq
  have:=List.mem_range.1 hj
  exact hr.1 _ ⟨by omega,by omega,hf _⟩
 have hn:((List.range 4095).map (·+1)).Nodup:=by
  refine List.Pairwise.map _ (fun a b h=>?_) List.nodup_range
  intro e;exact h (by omega)
 have:=List.Nodup.length_le_of_subset hn hsub
 rw [List.length_map,List.length_range] at this
 have:=hr.2
 omega
theorem Roomy.next {h h':Hd} {U:List Nat} {k q:Nat} (hr:Roomy h U (k+1)) (ho:h.Ok) (hn:h.NextIs q h'):Roomy h' (q :: U) k:=by
 refine ⟨fun j hj=>?_,by have:=hr.2;simp;omega⟩
 rcases ((hn.spec ho).2.2.2.2.1 j).1 hj with h | h
 ·exact List.mem_cons_of_mem _ (hr.1 j h)
 ·exact h ▸ List.mem_cons_self
end
section
variable {K:Kc} {s:Hst} {i:Nat} {n:NO} {w w':World}
theorem Hnd.paged (H:Hnd K s w) (hM:s.M i=some n) (hi:i=0∨4096≤i) (q:Nat) (hq:q < 4096):Hnd K { s with M:=upd s.M i (some { n with page:=q }) } (w.setCell ⟨n.blk,0,none⟩ (.int .i64 q)):=by
 have hn:=H.node i n hM
 have hk:=Kept.setCell (fun k=>k=n.blk) w (b:=n.blk) (i:=0) rfl (.int .i64 q)
 have hlt:=fun k hk'=>Nat.lt_of_lt_of_le (H.lt k hk') hk.size
 have hpe:ptrs (upd s.M i (some { n with page:=q }))=ptrs s.M:=ptrs_same fun j h1 h2=>by rw [upd_other _ _ (by omega)]
 refine H.step (T:=fun k=>k=n.blk) (R:=fun r=>r=8+2*i) hk (fun k _ e=>e ▸ hn.blk) (by omega) (fun _ _=>.inl rfl) hlt (.inl ⟨by omega,rfl,rfl,rfl⟩) (.inl ⟨by omega,rfl,rfl⟩) (.inl ⟨by omega,hpe⟩) (by omega) (.inl ⟨by omega,rfl,rfl⟩) (.inl ⟨by omega,rfl,rfl⟩) (fun j y hj=>?_) (fun j y hj h1 h2=>?_) ⟨H.gok.1,fun j hj=>⟨(H.gok.2 j hj).1,?_⟩⟩ H.tok
 ·dsimp only at hj
  by_cases hjq:j=i
  ·subst hjq
   rw [upd_same] at hj
   cases hj
   refine .inr ⟨⟨by show (w.setCell ⟨n.blk,0,none⟩ (.int .i64 q)).heap[n.blk]? = _;rw [heap_set hn.at_.blk];rfl,hn.at_.own,?_,hn.at_.cap,⟨hq,hn.at_.small.2⟩,hn.at_.short,hn.at_.alone⟩,hn.blk,hn.row⟩
   refine hn.at_.ents.kept hk (fun k _ e=>e ▸ hn.at_.own) (fun _ _ h=>h) (fun _ h=>h) (fun ad ha hne e=>?_)
   have hr:=hn.row ad ha
   rw [e,hn.blk] at hr
   split at hr <;> omega
  ·rw [upd_other _ _ hjq] at hj
   exact .inl ⟨hj,by omega,by omega,by omega⟩
 ·dsimp only at hj
  rw [upd_other _ _ (by omega)] at hj
  exact H.was j y hj h1 h2
 ·have:j≠i:=fun e=>by have:=(H.gok.2 j hj).2;rw [e,hM] at this;cases this
  dsimp only
  rw [upd_other _ _ this];exact (H.gok.2 j hj).2
theorem Hnd.named (H:Hnd K s w) (hM:s.M i=some n) (hi:i=0∨4096≤i) {q m:Nat} (hq:1≤q∧q < 4096) (hp:n.page=q∧s.h.has q∧n.was=[]) (hqM:s.M q=none) (hg:q ∉ s.gn) (hk:Kept (fun k=>k=K.mb) w w') (hm:KMap w' K.mb m (upd (ptrs s.M) q (some n.ptr))) :
  ∃ ρ',Hnd K { s with M:=upd (upd s.M i none) q (some n),ρ:=ρ' } w':=by
 have hn:=H.node i n hM
 have hT:∀ k,k < w.heap.size→k=K.mb→s.ρ k=3∨s.ρ k=8+2*i∨s.ρ k=9+2*i:=fun k _ e=>.inl (e ▸ H.map.2)
 have hiq:i≠q:=by omega
 have hpe:ptrs (upd (upd s.M i none) q (some n))=upd (ptrs s.M) q (some n.ptr):=by
  rw [ptrs_upd _ hq]
  congr 1
  exact ptrs_same fun j h1 h2=>by rw [upd_other _ _ (by omega)]
 have hr2:∀ k,(if s.ρ k=8+2*i then 8+2*q else if s.ρ k=9+2*i then 9+2*q else s.ρ k)=s.ρ k∨((s.ρ k=3∨s.ρ k=8+2*i∨s.ρ k=9+2*i)∧2≤s.ρ k∧2≤(if s.ρ k=8+2*i then 8+2*q else if s.ρ k=9+2*i then 9+2*q else s.ρ k)):=fun k=>by
  split
  ·right;omega
  ·split
   ·right;omega
   ·left;rfl
 have hz0:∀ k,(if s.ρ k=8+2*i then 8+2*q else if s.ρ k=9+2*i then 9+2*q else s.ρ k)≠0 ↔ s.ρ k≠0:=fun k=>by
  split
  ·omega
  ·split <;> omega
 refine ⟨fun k=>if s.ρ k=8+2*i then 8+2*q else if s.ρ k=9+2*i then 9+2*q else s.ρ k,H.step (T:=fun k=>k=K.mb) (R:=fun r=>r=3∨r=8+2*i∨r=9+2*i) hk hT (by omega) (fun k _=>hr2 k) (fun k hk'=>Nat.lt_of_lt_of_le (H.lt k ((hz0 k).1 hk')) hk.size) (.inl ⟨by omega,rfl,rfl,rfl⟩) (.inl ⟨by omega,rfl,rfl⟩) (.inr ⟨⟨m,by show KMap w' K.mb m (ptrs (upd (upd s.M i none) q (some n)));rw [hpe];exact hm⟩,?_⟩) (by omega) (.inl ⟨by omega,rfl,rfl⟩) (.inl ⟨by omega,rfl,rfl⟩) (fun j y hj=>?_) (fun j y hj h1 h2=>?_) ⟨H.gok.1,fun j hj=>⟨(H.gok.2 j hj).1,?_⟩⟩ H.tok⟩
 ·dsimp only
  rw [H.map.2,if_neg (by omega),if_neg (by omega)]
 ·dsimp only at hj
  by_cases hjq:j=q
  ·subst hjq
   rw [upd_same] at hj
   cases hj
   have e:(fun k=>(if s.ρ k=8+2*i then 8+2*j else if s.ρ k=9+2*i then 9+2*j else s.ρ k)≠0)=fun k=>s.ρ k≠0:=by
    funext k
    exact propext (hz0 k)
   refine .inr ⟨?_,?_,fun ad ha=>?_⟩
   ·dsimp only
    rw [e]
    refine hn.at_.kept hk (fun k _ h=>by rw [h,H.map.2];omega) (fun _ _ h=>h) (fun _ h=>h) (fun h=>?_) (fun ad ha _ h=>?_)
    ·have h1:=hn.blk
     rw [h,H.map.2] at h1
     omega
    ·have h1:=hn.row ad ha
     rw [h,H.map.2] at h1
     split at h1 <;> omega
   ·dsimp only
    rw [if_pos hn.blk]
   ·dsimp only
    have h1:=hn.row ad ha
    by_cases hs:n.sole=true
    ·rw [if_pos hs] at h1 ⊢
     rw [if_neg (by omega),if_pos h1]
    ·rw [if_neg hs] at h1 ⊢
     rw [if_neg (by omega),if_neg (by omega)];exact h1
  ·rw [upd_other _ _ hjq] at hj
   by_cases hji:j=i
   ·subst hji;rw [upd_same] at hj;cases hj
   ·rw [upd_other _ _ hji] at hj
    exact .inl ⟨hj,by omega,by omega,by omega⟩
 ·dsimp only at hj
  by_cases hjq:j=q
  ·subst hjq
   rw [upd_same] at hj
   cases hj
   exact ⟨hp.1,hp.2.1,.inr hp.2.2⟩
  ·rw [upd_other _ _ hjq,upd_other _ _ (by omega)] at hj
   exact H.was j y hj h1 h2
 ·have h1:=(H.gok.2 j hj).2
  dsimp only
  rw [upd_other _ _ (show j≠q from fun e=>hg (e ▸ hj))]
  by_cases hji:j=i
  ·subst hji;exact upd_same _ _ _
  ·rw [upd_other _ _ hji];exact h1
set_option maxHeartbeats 3200000 in
theorem house_h (H:Hnd K s w) (hM:s.M i=some n) (hi:i=0∨4096≤i) (hw:n.was=[]) {U:List Nat} {k:Nat} (hr:Roomy s.h U (k+1)) :
  Calls Tryz.prog 119 #[.pointer (some ⟨K.cb,0,none⟩),n.ptr] w (HousePost K s i n):=by
 have HAL:Hid (Calls Tryz.prog 14 #[.pointer (some ⟨K.c.a,0,none⟩)] w fun e w1=>∃ q,e=.returned (.tuple #[.int .i64 (q:Nat),.int .i64 0])∧q < 4096 ∧
   ∃ v' w3 w4,w1.cell? ⟨n.blk,0,none⟩=some (.int .i64 n.page)∧w1.frozen? ⟨n.blk,0,none⟩=false∧(∃ gl a c c',v'=Value.slice a (gl+1) c∧∃ ga,s.av=.slice ga gl c' ∧
    w1.cell? ⟨K.cb,3,none⟩=some (.slice ga gl c') ∧
    (Builtin.append_ #[57,57] 57 #[.slice ga gl c',.slice (some ⟨w1.heap.size,0,none⟩) 1 1]).run Tryz.prog ((w1.setCell ⟨n.blk,0,none⟩ (.int .i64 q)).alloc (.cells #[.int .i64 q] 3))=.ok v' w3 ∧
    w3.cell? ⟨K.cb,3,none⟩=some (.slice ga gl c')∧w3.frozen? ⟨K.cb,3,none⟩=false) ∧
    w3.cell? ⟨K.cb,1,none⟩=some (.map (some K.mb)) ∧
    (Instr.mapUpdate 184 (.map (some K.mb)) (.int .i64 q) n.ptr).run Tryz.prog (w3.setCell ⟨K.cb,3,none⟩ v')=.ok () w4∧Hid (HousePost K s i n (.returned (.int .i64 0)) w4)):=Lib.hid (by
  refine (alloc_v H.act).mono ?_
  rintro e w1 (⟨q,h',hnx,rfl,hA⟩ | ⟨hf,hc,_⟩)
  ·obtain ⟨hok',q1,q2,hnq,hhas,hroots⟩:=hnx.spec H.act.ok
   obtain ⟨S',ρ1,H1⟩:=H.act0 hA (fun j x hj h1 h2=>by
    have:=H.was j x hj h1 h2
    refine ⟨(hhas j).2 (.inl this.2.1),?_⟩
    rw [upd_other _ _ (show j≠q from fun e=>hnq (e ▸ this.2.1))]
    exact this.2.2) (fun j hj=>(hhas j).2 (.inl (H.gok.2 j hj).1)) (fun j hj=>(hhas j).2 (.inl (H.tok.2 j hj)))
   have hn1:=(H1.node i n hM).at_
   have H2:=H1.paged hM hi q q2
   refine ⟨q,rfl,q2,?_⟩
   obtain ⟨W2,hW2⟩:∃ W2,W2=w1.setCell ⟨n.blk,0,none⟩ (.int .i64 q):=⟨_,rfl⟩
   have hWs:W2.heap.size=w1.heap.size:=by rw [hW2];simp [World.setCell]
   rw [← hW2] at H2 ⊢
   rw [← hWs]
   have hb:Below W2.heap.size W2 (W2.alloc (.cells #[.int .i64 q] 3)):=(Below.refl _ _).alloc (Nat.le_refl _) _
   have H2W:=H2.below hb
   have hcx:(W2.alloc (.cells #[.int .i64 q] 3)).cell? ⟨W2.heap.size,0,none⟩=some (.int .i64 q):=by rw [Lib.cell_of_heap (heap_alloc_new W2 _)];rfl
   obtain ⟨v',w3,hr3,hn3,hg3⟩:=append_num _ s.av s.tk q W2.heap.size 1 H2W.tak.1 hcx (by have:=H.tk_few;omega) 57
   obtain ⟨ρ3,H3⟩:=H2.pushT (q:=q) hb hg3 hn3 ((hhas q).2 (.inr rfl)) (fun ht=>hnq (H.tok.2 q ht))
   obtain ⟨ga,c',hav⟩:=H2W.tak.1.shape
   obtain ⟨va,c,hvv⟩:=hn3.shape
   dsimp only at hav
   have hkg:Kept (fun k=>s.av.ownBlock=some k) (W2.alloc (.cells #[.int .i64 q] 3)) w3:=Kept.ofGrown hg3.1 (fun k e=>e)
   have hcb3:w3.heap[K.cb]? = (W2.alloc (.cells #[.int .i64 q] 3)).heap[K.cb]?:=hkg.block _ H2W.cbl (fun e=>by have h1:=H2W.tak.2 _ e;have h2:=H2W.chg.2;omega)
   have d3:=H2W.cb3
   have f3:=H2W.cbf 3
   obtain ⟨m,hm⟩:=H3.map.1
   have hqM:s.M q=none:=by
    cases hx:s.M q with
    | none=>rfl
    | some x=>exact absurd (H.was q x hx q1 q2).2.1 hnq
   have hM3:(upd s.M i (some { n with page:=q })) i=some { n with page:=q }:=upd_same _ _ _
   obtain ⟨w4,hr4,hp4,ht4⟩:=hm.put (t:=184) (e:=127) Tryz.underlying184 (by have:=hm.few;unfold maxLen;omega) q q2 (by rw [ptrs_at _ ⟨q1,q2⟩];show (upd s.M i (some { n with page:=q }) q).map NO.ptr=none;rw [upd_other _ _ (by omega),hqM];rfl) n.ptr
   obtain ⟨ρ4,H4⟩:=H3.named hM3 hi ⟨q1,q2⟩ ⟨rfl,(hhas q).2 (.inr rfl),hw⟩ (by show upd s.M i (some { n with page:=q }) q=none;rw [upd_other _ _ (by omega),hqM]) (fun hg=>hnq (H.gok.2 q hg).1) (Kept.ofTurned ht4 rfl) hp4
   have hu:upd (upd (upd s.M i (some { n with page:=q })) i none) q (some { n with page:=q })=upd (upd s.M i none) q (some { n with page:=q }):=by
    congr 1
    funext j
    by_cases hj:j=i
    ·subst hj;rw [upd_same,upd_same]
    ·rw [upd_other _ _ hj,upd_other _ _ hj,upd_other _ _ hj]
   dsimp only at H4
   rw [hu] at H4
   refine ⟨v',w3,w4,hn1.c0,hn1.frozen 0,⟨s.tk.length,va,c,c',by rw [hvv,List.length_append];rfl,ga,hav,?_,?_,?_,?_⟩,?_,hr4,Lib.hid ⟨rfl,q,h',S',ρ4,v',hnx,H4⟩⟩
   ·rw [← hav];exact H1.cb3
   ·rw [← hav];exact hr3
   ·rw [World.cell?_of_block hcb3,← hav];exact d3
   ·have:w3.frozen? ⟨K.cb,3,none⟩=(W2.alloc (.cells #[.int .i64 q] 3)).frozen? ⟨K.cb,3,none⟩:=by simp only [World.frozen?,hcb3]
    rw [this];exact f3
   ·rw [World.cell?_of_block hcb3];exact H2W.cb1
  ·exact (hr.not_full hf hc).elim)
 have c0:=H.cb0
 have t1:=H.tree.1.c1
 have hcl:=H.cbl
 have hne:K.cb≠n.blk:=fun e=>by have h1:=H.chg.2;have h2:=(H.node i n hM).blk;rw [← e] at h2;omega
 unfold NO.ptr at HAL ⊢
 obtain ⟨nb,hnb⟩:∃ b,b=n.blk:=⟨_,rfl⟩
 obtain ⟨cb,hcb⟩:∃ b,b=K.cb:=⟨_,rfl⟩
 rw [← hnb,← hcb] at HAL
 rw [← hcb] at c0 hcl hne ⊢
 rw [← hnb] at hne ⊢
 clear H hM hi hw hr hnb hcb
 go_enter Tryz.func119,Tryz.ntmps119
 go_wp2_with fail
 refine HAL.out.mono ?_
 rintro e w1 ⟨q,rfl,hq4,v',w3,w4,n0,nf,⟨gl,a,c,c',rfl,ga,_,d3,hr3,d3',f3'⟩,c1,hmu,hpo⟩
 have HMU:=Lib.hid hmu;have HR3:=Lib.hid hr3
 clear hmu hr3
 go_wp2_with (first
  | (at_builtin;refine Lib.wpList_append_run _ rfl _ _ 57 57 rfl _ _ rfl rfl _ _ HR3.out ?_)
  | (refine wpList_mapUpdate_run rfl _ _ _ 184 rfl _ _ _ (by rfl) (by rfl) (by rfl) HMU.out ?_))
 go_ret
 exact hpo.out
end
section
variable {K:Kc} {s s' s'':Hst} {i:Nat} {n:NO} {w w':World}
def tempNO (b l:Nat):NO:=⟨b,0,l,[],none,0,[],0,true⟩
theorem Hnd.temp (H:Hnd K s w) (l:Nat) (hl:l≤1000):∃ ρ',Hnd K { s with M:=upd s.M 4096 (some (tempNO w.heap.size l)),ρ:=ρ' } (w.alloc (.cells #[.int .i64 0,.int .i64 l,.slice none 0 0,.string ⟨#[]⟩,.int .i64 0] 138)):=by
 have hb:Below w.heap.size w (w.alloc (.cells #[.int .i64 0,.int .i64 l,.slice none 0 0,.string ⟨#[]⟩,.int .i64 0] 138)):=(Below.refl _ _).alloc (Nat.le_refl _) _
 have hz:(w.alloc (.cells #[.int .i64 0,.int .i64 l,.slice none 0 0,.string ⟨#[]⟩,.int .i64 0] 138)).heap.size=w.heap.size+1:=by simp
 have hpe:ptrs (upd s.M 4096 (some (tempNO w.heap.size l)))=ptrs s.M:=ptrs_same fun j h1 h2=>by rw [upd_other _ _ (by omega)]
 refine ⟨upd s.ρ w.heap.size 8200,H.step (T:=fun _=>False) (R:=fun _=>False) (Kept.ofBelow hb) (fun _ _ h=>h) id (fun k hk=>.inl (upd_other _ _ (by omega))) (fun k hk=>?_) (.inl ⟨id,rfl,rfl,rfl⟩) (.inl ⟨id,rfl,rfl⟩) (.inl ⟨id,hpe⟩) id (.inl ⟨id,rfl,rfl⟩) (.inl ⟨id,rfl,rfl⟩) (fun j y hj=>?_) (fun j y hj h1 h2=>?_) ⟨H.gok.1,fun j hj=>⟨(H.gok.2 j hj).1,?_⟩⟩ H.tok⟩
 ·dsimp only at hk
  rw [hz]
  by_cases hkg:k=w.heap.size
  ·omega
  ·rw [upd_other _ _ hkg] at hk
   have:=H.lt k hk
   omega
 ·dsimp only at hj
  by_cases hjq:j=4096
  ·subst hjq
   rw [upd_same] at hj
   cases hj
   refine .inr ⟨⟨heap_alloc_new w _,?_,.inl rfl,⟨Nat.le_refl _,Nat.zero_le _⟩,⟨by show 0 < 4096;omega,hl,by show 0≤1000000;omega⟩,⟨by simp [tempNO],fun e he=>by cases he⟩,fun _ h=>absurd rfl h⟩,upd_same _ _ _,fun ad ha=>by cases ha⟩
   show upd s.ρ w.heap.size 8200 w.heap.size≠0
   rw [upd_same];omega
  ·rw [upd_other _ _ hjq] at hj
   exact .inl ⟨hj,id,id,id⟩
 ·dsimp only at hj
  rw [upd_other _ _ (by omega)] at hj
  exact H.was j y hj h1 h2
 ·have:=(H.has_lt (H.gok.2 j hj).1).2
  dsimp only
  rw [upd_other _ _ (by omega)];exact (H.gok.2 j hj).2
theorem Hnd.halved (H:Hnd K s w) {p q:Nat} {x y:NO} (hx:s.M p=some x) (hy:s.M q=some y) (hpq:p≠q) (hs:x.sole=true) {e:Ending} (h:HalvePost (fun k=>s.ρ k≠0) x y w e w') :
  ∃ A b B v ρ',x.ens=A++b :: B∧IsMid x.ens A.length∧A≠[]∧szE A≤510∧szE (b :: B)≤510∧e=.returned v∧BytesV (fun k=>ρ' k≠0) w' v (sepK x.level A b) ∧
   ∃ x' y':NO,x'.blk=x.blk∧x'.page=x.page∧x'.level=x.level∧x'.ens=A∧x'.was=x.was∧x'.had=x.had∧y'.blk=y.blk∧y'.page=y.page∧y'.level=y.level∧y'.ens=hd0 x.level (b :: B)∧y'.was=y.was∧y'.had=y.had∧Hnd K { s with M:=upd (upd s.M p (some x')) q (some y'),ρ:=ρ' } w':=by
 obtain ⟨A,b,B,v,g,h1,h2,h3,h4,h5,harr,rfl,hv,nx,ny,hk⟩:=h
 have hxn:=H.node p x hx
 have hyn:=H.node q y hy
 have hgr:s.ρ g=9+2*p:=by have:=hxn.row _ harr;rwa [if_pos hs] at this
 have hab:x.ab=g:=by unfold NO.ab;rw [harr]
 have hz0:∀ k,(if s.ρ k=9+2*p then 7 else s.ρ k)≠0 ↔ s.ρ k≠0:=fun k=>by split <;> omega
 have e:(fun k=>(if s.ρ k=9+2*p then 7 else s.ρ k)≠0)=fun k=>s.ρ k≠0:=by
  funext k
  exact propext (hz0 k)
 have hpe:ptrs (upd (upd s.M p (some { x with ens:=A,cap:=A.length,sole:=false })) q (some { y with ens:=hd0 x.level (b :: B),arr:=some ⟨g,A.length*2,none⟩,cap:=x.cap - A.length,sole:=false }))=ptrs s.M:=ptrs_same fun j _ _=>by
  by_cases hj:j=q
  ·subst hj;rw [upd_same,hy];rfl
  ·rw [upd_other _ _ hj]
   by_cases hj2:j=p
   ·subst hj2;rw [upd_same,hx];rfl
   ·rw [upd_other _ _ hj2]
 refine ⟨A,b,B,v,fun k=>if s.ρ k=9+2*p then 7 else s.ρ k,h1,h2,h3,h4,h5,rfl,by dsimp only;rw [e];exact hv,{ x with ens:=A,cap:=A.length,sole:=false },{ y with ens:=hd0 x.level (b :: B),arr:=some ⟨g,A.length*2,none⟩,cap:=x.cap - A.length,sole:=false },rfl,rfl,rfl,rfl,rfl,rfl,rfl,rfl,rfl,rfl,rfl,rfl,?_⟩
 refine H.step (T:=fun k=>k=x.blk∨k=x.ab∨k=y.blk) (R:=fun r=>r=8+2*p∨r=9+2*p∨r=8+2*q) hk (fun k _ e=>?_) (by omega) (fun k _=>?_) (fun k hk'=>Nat.lt_of_lt_of_le (H.lt k ((hz0 k).1 hk')) hk.size) (.inl ⟨by omega,rfl,rfl,rfl⟩) (.inl ⟨by omega,rfl,rfl⟩) (.inl ⟨by omega,hpe⟩) (by omega) (.inl ⟨by omega,rfl,rfl⟩) (.inl ⟨by omega,rfl,rfl⟩) (fun j z hj=>?_) (fun j z hj h1 h2=>?_) ⟨H.gok.1,fun j hj=>⟨(H.gok.2 j hj).1,?_⟩⟩ H.tok
 ·rcases e with rfl | rfl | rfl
  ·exact .inl hxn.blk
  ·exact .inr (.inl (by rw [hab];exact hgr))
  ·exact .inr (.inr hyn.blk)
 ·dsimp only
  split
  ·right;omega
  ·left;rfl
 ·dsimp only at hj
  by_cases hjq:j=q
  ·subst hjq
   rw [upd_same] at hj
   cases hj
   refine .inr ⟨by dsimp only;rw [e];exact ny,?_,fun ad ha=>?_⟩
   ·dsimp only
    have:=hyn.blk
    rw [if_neg (by omega)];exact this
   ·cases ha
    dsimp only
    rw [if_pos hgr];rfl
  ·rw [upd_other _ _ hjq] at hj
   by_cases hjp:j=p
   ·subst hjp
    rw [upd_same] at hj
    cases hj
    refine .inr ⟨by dsimp only;rw [e];exact nx,?_,fun ad ha=>?_⟩
    ·dsimp only
     have:=hxn.blk
     rw [if_neg (by omega)];exact this
    ·rw [harr] at ha
     cases ha
     dsimp only
     rw [if_pos hgr];rfl
   ·rw [upd_other _ _ hjp] at hj
    by_cases hR:(j=p∨j=q)
    ·omega
    ·exact .inl ⟨hj,by omega,by omega,by omega⟩
 ·dsimp only at hj
  by_cases hjq:j=q
  ·subst hjq
   rw [upd_same] at hj
   cases hj
   exact H.was j y hy h1 h2
  ·rw [upd_other _ _ hjq] at hj
   by_cases hjp:j=p
   ·subst hjp
    rw [upd_same] at hj
    cases hj
    exact H.was j x hx h1 h2
   ·rw [upd_other _ _ hjp] at hj
    exact H.was j z hj h1 h2
 ·have h1:=(H.gok.2 j hj).2
  dsimp only
  rw [upd_other _ _ (fun e=>by rw [e,hy] at h1;cases h1),upd_other _ _ (fun e=>by rw [e,hx] at h1;cases h1)]
  exact h1
structure Fram2 (s s':Hst) (ps:List Nat):Prop where
 has:∀ q,s.h.has q→s'.h.has q
 back:∀ q,s'.h.has q→s.h.has q∨q ∈ ps
 G:∀ q,s.h.has q→s'.G q=s.G q
 M:∀ q,q < 4096→q ∉ ps→s'.M q=s.M q
 gn:∃ d,s'.gn=s.gn++d∧∀ q ∈ d,q ∈ ps
 roots:s'.h.roots=s.h.roots
theorem Fram.to2 {ps:List Nat} (h:Fram s s' ps):Fram2 s s' ps:=⟨fun q hq=>by rw [h.same.1];exact hq,fun q hq=>.inl (by rw [h.same.1] at hq;exact hq),fun q _=>by rw [h.same.2.1],fun q _ hq=>h.M q hq,h.gn,by rw [h.same.1]⟩
theorem Fram2.refl (s:Hst) (ps:List Nat):Fram2 s s ps:=(Fram.refl s ps).to2
theorem Fram2.trans {ps:List Nat} (h:Fram2 s s' ps) (k:Fram2 s' s'' ps):Fram2 s s'' ps:=by
 obtain ⟨d,h1,h2⟩:=h.gn
 obtain ⟨d',k1,k2⟩:=k.gn
 refine ⟨fun q hq=>k.has q (h.has q hq),fun q hq=>(k.back q hq).elim (h.back q) .inr,fun q hq=>(k.G q (h.has q hq)).trans (h.G q hq),fun q hl hq=>(k.M q hl hq).trans (h.M q hl hq),⟨d++d',by rw [k1,h1,List.append_assoc],fun q hq=>?_⟩,k.roots.trans h.roots⟩
 rcases List.mem_append.1 hq with hq | hq
 ·exact h2 q hq
 ·exact k2 q hq
theorem Fram2.mono {ps ps':List Nat} (h:Fram2 s s' ps) (hp:∀ q ∈ ps,q ∈ ps'):Fram2 s s' ps':=by
 obtain ⟨d,h1,h2⟩:=h.gn
 exact ⟨h.has,fun q hq=>(h.back q hq).imp id (hp q),h.G,fun q hl hq=>h.M q hl (fun h'=>hq (hp q h')),⟨d,h1,fun q hq=>hp q (h2 q hq)⟩,h.roots⟩
theorem Cur.fram2 {ps:List Nat} (h:Fram2 s s' ps) {q l:Nat} {es:List En} (hc:Cur s q l es) (hq:q ∉ ps):Cur s' q l es:=by
 obtain ⟨h1,h2,h3⟩:=hc
 refine ⟨h1,h2,?_⟩
 rw [h.M q h2 hq]
 cases hm:s.M q with
 | some x=>rw [hm] at h3;exact h3
 | none =>
  rw [hm] at h3
  obtain ⟨d,hd,hdp⟩:=h.gn
  dsimp only at h3 ⊢
  obtain ⟨⟨g1,g2,g3⟩,g4⟩:=h3
  rw [hd]
  refine ⟨⟨h.has q g1,(h.G q g1).trans g2,g3⟩,fun hg=>?_⟩
  rcases List.mem_append.1 hg with hg | hg
  ·exact g4 hg
  ·exact hq (hdp q hg)
theorem rep_fram2 {ps:List Nat} (h:Fram2 s s' ps) {L:Nat} {t:Tr L} (hr:Rep (Cur s) t) (hd:∀ q ∈ t.pages,q ∉ ps):Rep (Cur s') t:=hr.congr fun q hq _ _ hc=>hc.fram2 h (hd q hq)
theorem Hnd.cur_has (H:Hnd K s w) {q l:Nat} {es:List En} (hc:Cur s q l es):s.h.has q:=by
 obtain ⟨h1,h2,h3⟩:=hc
 cases hm:s.M q with
 | some x=>exact (H.was q x hm h1 h2).2.1
 | none=>rw [hm] at h3;exact h3.1.1
theorem Hnd.rep_has (H:Hnd K s w) {L:Nat} {t:Tr L} (hr:Rep (Cur s) t):∀ q ∈ t.pages,s.h.has q:=by
 induction L with
 | zero =>
  intro q hq
  have:q=t.page:=by simpa [Tr.pages,pagesL] using hq
  subst this
  exact H.cur_has hr.at_
 | succ L ih =>
  intro q hq
  rw [pages_node] at hq
  rcases List.mem_cons.1 hq with rfl | hq
  ·exact H.cur_has hr.at_
  ·obtain ⟨k,hk,hq⟩:=List.mem_flatMap.1 hq
   exact ih (hr.kid k hk) q hq
theorem cpl_lt:∀ (a b:List UInt8),lt a b→cpl a b < b.length
 | _,[],h=>absurd h (lt_nil _)
 | [],y :: b,_=>by simp [cpl]
 | x :: a,y :: b,h=>by
  rw [lt_cons] at h
  unfold cpl
  split
  ·rename_i hxy
   subst hxy
   have:=cpl_lt a b (h.elim (fun h=>absurd h (Nat.lt_irrefl _)) (fun h=>h.2))
   simp only [List.length_cons];omega
  ·simp
end
section
variable {K:Kc} {s:Hst} {i:Nat} {n x:NO} {w:World} {L:Nat} {A:List (Kid L)} {k:List UInt8} {c:Tr L} {B:List (Kid L)} {had:Nat}
structure FitIn (K:Kc) (s:Hst) (i:Nat) (n:NO) {L:Nat} (A:List (Kid L)) (k:List UInt8) (c:Tr L) (B:List (Kid L)) (had:Nat) (x:NO) (w:World):Prop where
 H:Hnd K s w
 M:s.M i=some n
 sole:n.sole=true
 level:n.level=L+1
 ens:n.ens=(A++(k,c) :: B).map kEn
 cap:n.cap=n.ens.length
 pre:FitPre A k c B had
 size:c.size≤640
 ord:∃ lo hi,Ord c lo hi
 x:s.M c.page=some x∧x.level=L∧x.ens=c.ens∧x.sole=true∧x.had=had
 rep:∀ y ∈ A++(k,c) :: B,Rep (Cur s) y.2
 nodup:(pgK (A++(k,c) :: B)).Nodup
 apart:i ∉ pgK (A++(k,c) :: B)∧i < 4096∧(s.h.has i∨i=0)
 sz:szU A k B≤510
structure FitOut (K:Kc) (s:Hst) (i:Nat) (n:NO) {L:Nat} (A:List (Kid L)) (k:List UInt8) (c:Tr L) (B:List (Kid L)) (had:Nat) (s':Hst) (n':NO) (ks':List (Kid L)) (born dead:List Nat) (w:World):Prop where
 H:Hnd K s' w
 M:s'.M i=some n'
 is:NodeIs n n' (ks'.map kEn)
 fit:FitR A k c B had ks' born dead
 rep:∀ y ∈ ks',Rep (Cur s') y.2
 gn:s'.gn=s.gn++dead
 new:∀ q ∈ born,¬ s.h.has q
 has:∀ q,s'.h.has q ↔ s.h.has q∨q ∈ born
 fram:Fram2 s s' (i :: (pgK (A++(k,c) :: B)++born))
def FitPost (K:Kc) (s:Hst) (i:Nat) (n:NO) {L:Nat} (A:List (Kid L)) (k:List UInt8) (c:Tr L) (B:List (Kid L)) (had:Nat) (e:Ending) (w:World):Prop :=
 e=.returned (.int .i64 0)∧∃ s' n' ks' born dead,FitOut K s i n A k c B had s' n' ks' born dead w
theorem FitIn.page (h:FitIn K s i n A k c B had x w):1≤c.page∧c.page < 4096:=h.pre.mid.2
theorem FitIn.kid (h:FitIn K s i n A k c B had x w):n.ens[A.length]? = some (kEn (k,c))∧(kEn (k,c)).child=c.page:=by
 refine ⟨by rw [h.ens];simp,kEn_child (k,c) (by have:=h.page;show c.page < 65536;omega)⟩
theorem FitIn.ne (h:FitIn K s i n A k c B had x w):i≠c.page:=fun e=>h.apart.1 (e ▸ mem_pgK (k:=(k,c)) (by simp) (page_mem c))
theorem loose_short {c:Tr L} (h:Loose c):∀ e ∈ c.ens,e.size≤130:=by
 cases L with
 | zero =>
  intro e he
  have:=(loose_leaf.1 h) e he
  unfold okL at this
  unfold En.size;omega
 | succ L =>
  intro e he
  obtain ⟨ht,_⟩:=loose_node.1 h
  rw [ens_node] at he
  obtain ⟨y,hy,rfl⟩:=List.mem_map.1 he
  have:=keysOk_le ht.1 y hy
  unfold En.size kEn pgV
  simp;omega
theorem leaf_cpl {c:Tr 0} {lo:List UInt8} {hi:Option (List UInt8)} (h:Ord c lo hi) {A:List En} {a b:En} {B:List En} (he:c.ens=A++a :: b :: B):cpl a.key b.key < b.key.length:=by
 have hs:=(ord_leaf.1 h).2.1
 rw [← ens_leaf,he] at hs
 exact cpl_lt _ _ ((Chn.two _ _ _ _).1 hs).2.1
theorem split_plain {c:Tr L} (hl:Loose c) (q:Nat) {A':List En} {b:En} {B':List En} (he:c.ens=A'++b :: B') (hA:A'≠[]) :
  ∃ c1 k2 c2,SplitR c q c1 k2 c2∧c1.ens=A'∧c2.ens=hd0 L (b :: B')∧c1.page=c.page∧c2.page=q∧k2=sepK L A' b∧∀ P P0:Nat→Nat→List En→Prop,P c.page L A'→P q L (hd0 L (b :: B'))→Rep P0 c→(∀ r ∈ c.pages,r≠c.page→∀ l es,P0 r l es→P r l es)→c.pages.Nodup→Rep P c1∧Rep P c2:=by
 cases L with
 | zero =>
  obtain ⟨E1,x,rfl⟩:∃ E1 x,A'=E1++[x]:=by
   rcases List.eq_nil_or_concat A' with e | ⟨E1,x,e⟩
   ·exact absurd e hA
   ·exact ⟨E1,x,by rw [e,List.concat_eq_append]⟩
  have hb:=(loose_leaf.1 hl) b (by rw [← ens_leaf,he];simp)
  refine ⟨.leaf c.page (E1++[x]),sepK 0 (E1++[x]) b,.leaf q (b :: B'),⟨E1,x,B',b,he,rfl,rfl,fun hlt=>?_⟩,rfl,(hd0_zero _).symm,rfl,rfl,rfl,fun P _ h1 h2 _ _ _=>⟨h1,by rw [hd0_zero] at h2;exact h2⟩⟩
  have hk:sepK 0 (E1++[x]) b=betw x.key b.key:=by simp [sepK]
  rw [hk]
  obtain ⟨b1,b2,b3⟩:=betw_ok _ _ hlt
  refine ⟨b1,b2,b3,?_⟩
  unfold betw
  rw [List.length_take]
  unfold okL at hb
  omega
 | succ L =>
  rw [ens_node] at he
  obtain ⟨K1,K0,hks,h1,h2⟩:=List.map_eq_append_iff.1 he
  obtain ⟨y,K2,rfl,h3,h4⟩:=List.map_eq_cons_iff.1 h2
  subst h1;subst h3;subst h4
  refine ⟨.node c.page K1,y.1,.node q (([],y.2) :: K2),⟨K1,y.2,K2,hks,fun e=>hA (by rw [e];rfl),rfl,rfl⟩,rfl,by simp [ens_node,hd0,kEn],rfl,rfl,by simp [sepK,kEn],fun P P0 p1 p2 hr0 hcp hnd=>?_⟩
  have hk0:=hr0.kid
  rw [pages_node] at hnd
  have hn:=(List.nodup_cons.1 hnd).1
  have hkid:∀ z ∈ c.ks,Rep P z.2:=fun z hz=>(hk0 z hz).congr fun r hr l es h=>hcp r (by rw [pages_node];exact List.mem_cons_of_mem _ (mem_pgK hz hr)) (fun e=>hn (e ▸ mem_pgK hz hr)) l es h
  rw [hks] at hkid
  refine ⟨Rep.mk p1 fun z hz=>hkid z (by simp [show z ∈ K1 from hz]),Rep.mk ?_ fun z hz=>?_⟩
  ·have:(Tr.node q (([],y.2) :: K2)).ens=hd0 (L+1) (kEn y :: K2.map kEn):=by simp [ens_node,hd0,kEn]
   rw [this];exact p2
  ·rcases List.mem_cons.1 (show z ∈ ([],y.2) :: K2 from hz) with rfl | hz
   ·exact hkid y (by simp)
   ·exact hkid z (by simp [hz])
end
theorem insert_any (g N i vb:Nat) (P Q R:List Value) (kv vv:Value) (w:World) (h:w.heap[g]? = some (.cells (P++(Q++R)).toArray 135 (0,0))) (hv:w.heap[vb]? = some (.cells #[kv,vv] 135 (0,0))) (hP:P.length=i*2) (hQ:Q.length=(N - i)*2) (hi:i≤N) (hN:1≤N) (hN5:N≤512)
  (hone:∀ v ∈ Q,v.oneCell'=true) (hone2:kv.oneCell'=true∧vv.oneCell'=true) :
  Calls Tryz.prog 80 #[.slice (some ⟨g,0,none⟩) N N,.int .i64 i,.slice (some ⟨vb,0,none⟩) 1 1] w (InsPost N P [kv,vv] Q w):=by
 rcases Nat.lt_or_ge i N with hlt | hge
 ·exact insert_mid g N i vb P Q R kv vv w h hv hP hQ hlt hN5 hone hone2
 ·obtain rfl:i=N:=by omega
  obtain rfl:Q=[]:=List.eq_nil_of_length_eq_zero (by rw [hQ];simp)
  exact insert_end g i vb P R kv vv w h hv hP hN hN5
section
variable {K:Kc} {s s4:Hst} {i:Nat} {n x:NO} {w w4:World} {L:Nat} {A:List (Kid L)} {k:List UInt8} {c:Tr L} {B:List (Kid L)} {had:Nat}
structure Halv (K:Kc) (s s4:Hst) (i:Nat) (n:NO) {L:Nat} (c:Tr L) (q:Nat) (A':List En) (b:En) (B':List En) (v:Value) (w:World):Prop where
 H:Hnd K s4 w
 Mn:s4.M i=some n
 x:∃ x',s4.M c.page=some x'∧x'.level=L∧x'.ens=A'
 y:∃ y',s4.M q=some y'∧y'.level=L∧y'.ens=hd0 L (b :: B')
 key:BytesV (fun k=>s4.ρ k≠0) w v (sepK L A' b)
 qok:1≤q∧q < 4096∧¬ s.h.has q
 has:∀ j,s4.h.has j ↔ s.h.has j∨j=q
 gn:s4.gn=s.gn
 fram:Fram2 s s4 [c.page,q]
 ens:c.ens=A'++b :: B'∧A'≠[]∧szE A'≤510∧szE (b :: B')≤510
theorem hd0_size (l:Nat) (es:List En):szE (hd0 l es)≤szE es:=by
 cases es with
 | nil=>exact Nat.le_refl _
 | cons e r =>
  unfold hd0
  simp only
  split
  ·exact Nat.le_refl _
  ·simp only [szE,En.size,List.length_nil];omega
structure Parted (K:Kc) (s s7:Hst) (i:Nat) (n n7:NO) {L:Nat} (A:List (Kid L)) (k:List UInt8) (c:Tr L) (B:List (Kid L)) (q:Nat) (c1:Tr L) (k2:List UInt8) (c2:Tr L) (w:World):Prop where
 pre:JoinPre K s7 i n7 (A++(k,c1) :: (k2,c2) :: B) w
 is:NodeIs n n7 ((A++(k,c1) :: (k2,c2) :: B).map kEn)
 split:SplitR c q c1 k2 c2∧c1.size≤510∧c2.size≤510
 qok:1≤q∧q < 4096∧¬ s.h.has q
 has:∀ j,s7.h.has j ↔ s.h.has j∨j=q
 gn:s7.gn=s.gn
 fram:Fram2 s s7 (i :: c.page :: q :: [])
 perm:(pgK (A++(k,c1) :: (k2,c2) :: B)).Perm (q :: pgK (A++(k,c) :: B))
theorem split_ins (F:FitIn K s i n A k c B had x w) {q:Nat} {A':List En} {b:En} {B':List En} {v:Value} (h:Halv K s s4 i n c q A' b B' v w4) (hv:∃ ka kl kc,v=.slice ka kl kc) :
  Calls Tryz.prog 118 #[v,.int .i64 q] w4.drew fun e w'=>∃ vb,e=.returned (.agg #[v,.slice (some ⟨vb,0,none⟩) 2 2])∧w'.cell? ⟨n.blk,2,none⟩=some (.slice n.arr n.ens.length n.cap) ∧
   Calls Tryz.prog 80 #[.slice n.arr n.ens.length n.cap,.int .i64 ((A.length:Int)+1),.slice (some ⟨w'.heap.size,0,none⟩) 1 1] (w'.alloc (.cells #[v,.slice (some ⟨vb,0,none⟩) 2 2] 135)) fun e w7=>∃ g c',e=.returned (.slice (some ⟨g,0,none⟩) (n.ens.length+1) c')∧(∃ u,w7.cell? ⟨n.blk,2,none⟩=some u)∧w7.frozen? ⟨n.blk,2,none⟩=false∧n.blk < w7.heap.size ∧
    ∃ s7 n7 c1 k2 c2,n7.blk=n.blk∧Parted K s s7 i n n7 A k c B q c1 k2 c2 (w7.setCell ⟨n.blk,2,none⟩ (.slice (some ⟨g,0,none⟩) (n.ens.length+1) c')):=by
 obtain ⟨ka,kl,kc,rfl⟩:=hv
 obtain ⟨lo,hi,hord⟩:=F.ord
 obtain ⟨c1,k2,c2,hsp,he1,he2,hp1,hp2,hk2,hrep⟩:=split_plain F.pre.mid.1 q h.ens.1 h.ens.2.1
 have hS:=split_ok F.pre.mid.1 hord hsp
 have hn4:=h.H.node i n h.Mn
 have hN:n.ens.length=A.length+1+B.length:=by rw [F.ens,List.length_map];simp;omega
 have hsz:szE n.ens≤510:=by
  have h1:=F.sz
  have h2:=szU_eq A k c B
  unfold szK at h2
  rw [F.ens,h2];exact h1
 have hN5:n.ens.length≤255:=by have:=szE_len n.ens;omega
 have hne:n.ens≠[]:=by rw [F.ens];simp
 obtain ⟨g0,harr⟩:=hn4.at_.alone F.sole hne
 have hb4:Below w4.heap.size w4 w4.drew:=(Below.refl _ _).drew
 refine (entryOf_any ka kl kc q w4.drew h.qok.2.1).mono ?_
 rintro e w' ⟨vb,rfl,hvb,hvr,hb5⟩
 have hb45:Below w4.heap.size w4 w':=hb4.trans hb5
 have H5:=h.H.below hb45
 have hn5:=(H5.node i n h.Mn).at_
 refine ⟨vb,rfl,hn5.c2,?_⟩
 obtain ⟨Wa,hWa⟩:∃ Wa,Wa=w'.alloc (.cells #[.slice ka kl kc,.slice (some ⟨vb,0,none⟩) 2 2] 135):=⟨_,rfl⟩
 have hba:Below w'.heap.size w' Wa:=by rw [hWa];exact (Below.refl _ _).alloc (Nat.le_refl _) _
 have hnew:Wa.heap[w'.heap.size]? = some (.cells #[.slice ka kl kc,.slice (some ⟨vb,0,none⟩) 2 2] 135 (0,0)):=by rw [hWa];exact heap_alloc_new w' _
 rw [← hWa]
 -- the row above
 have hent:=hn5.ents
 rw [harr] at hent
 obtain ⟨Lz,vs,R,hLz,hrow⟩:=hent.row hne
 obtain rfl:Lz=[]:=List.eq_nil_of_length_eq_zero hLz
 have hpr:=hrow.pairs
 have hsplit:n.ens=(A.map kEn++[kEn (k,c)])++B.map kEn:=by rw [F.ens];simp
 rw [hsplit] at hpr
 obtain ⟨P,Q,rfl,hpP,hpQ⟩:=hpr.split _ _
 have hPl:=hpP.len
 have hQl:=hpQ.len
 have hal:(A.map kEn++[kEn (k,c)]).length=A.length+1:=by simp
 rw [hal] at hPl
 rw [List.length_map] at hQl
 have hgl:g0 < w'.heap.size:=(Array.getElem?_eq_some_iff.1 hrow.blk).1
 have hga:Wa.heap[g0]? = some (.cells (P++(Q++R)).toArray 135 (0,0)):=by rw [hba.block g0 hgl,hrow.blk];simp
 have hins:=insert_any g0 n.ens.length (A.length+1) w'.heap.size P Q R (.slice ka kl kc) (.slice (some ⟨vb,0,none⟩) 2 2) Wa hga hnew hPl (by rw [hQl];congr 1;omega) (by omega) (by omega) (by omega) hpQ.one ⟨rfl,rfl⟩
 rw [show ((A.length+1:Nat):Int)=(A.length:Int)+1 by omega] at hins
 rw [harr,F.cap]
 refine hins.mono ?_
 rintro e w7 ⟨g,c',R',rfl,hc1,hc2,hg,hh7,hb7⟩
 have hb57:Below w'.heap.size w' w7:=below_then_ hba hb7
 have hn7l:n.blk < w7.heap.size:=Nat.lt_of_lt_of_le hn5.lt hb57.size
 refine ⟨g,c',rfl,⟨_,(hb57.cell (p:=⟨n.blk,2,none⟩) hn5.lt).trans hn5.c2⟩,(hb57.frozen (p:=⟨n.blk,2,none⟩) hn5.lt).trans (hn5.frozen 2),hn7l,?_⟩
 -- the entries above
 obtain ⟨es7,hes7⟩:∃ es7,es7=(A.map kEn++[kEn (k,c)])++(⟨k2,pgV q⟩ :: B.map kEn):=⟨_,rfl⟩
 have hkb:=keysOk_tail F.pre.keys
 have he7:es7=(A++(k,c1) :: (k2,c2) :: B).map kEn:=by rw [hes7];simp [kEn,hp1,hp2]
 have hl7:es7.length=n.ens.length+1:=by rw [hes7,hsplit];simp;omega
 have hgw:w'.heap.size≤g:=Nat.le_trans hba.size hg
 have hkey5:BytesV (fun k=>s4.ρ k≠0) w' (.slice ka kl kc) k2:=by rw [hk2];exact h.key.below hb45
 have hval5:BytesV (fun k=>s4.ρ k≠0) w' (.slice (some ⟨vb,0,none⟩) 2 2) (pgV q):=by
  refine ⟨some ⟨vb,0,none⟩,2,rfl,Nat.le_refl _,by unfold maxLen;omega,hvr,fun ad ha _ hx=>?_⟩
  cases ha
  have:=h.H.lt vb hx
  have hz:w4.drew.heap.size=w4.heap.size:=rfl
  omega
 have hp7:PairsV (fun k=>s4.ρ k≠0) w' (P++([.slice ka kl kc,.slice (some ⟨vb,0,none⟩) 2 2]++Q)) es7:=by
  rw [hes7]
  exact hpP.app ⟨hkey5,hval5,hpQ⟩
 have hsh7:Short es7:=by
  refine ⟨by rw [hl7];omega,fun e he=>?_⟩
  rw [hes7] at he
  simp only [List.mem_append,List.mem_cons] at he
  have h255:=hn4.at_.short.2
  have hkl:=hS.key
  rcases he with (he | he) | rfl | he
  ·exact h255 e (by rw [hsplit];simp [he])
  ·exact h255 e (by rw [hsplit];simp only [List.mem_append];exact .inl (.inr (by simpa using he)))
  ·refine ⟨by simp only;omega,by simp [pgV]⟩
  ·exact h255 e (by rw [hsplit];simp only [List.mem_append];exact .inr he)
 obtain ⟨ρ7,H7⟩:=H5.newRow h.Mn hb57 hgw (R:=R') (c:=c') (by rw [hh7];simp) hp7 (by rw [hl7];exact ⟨hc1,hc2⟩) hsh7
 rw [hl7] at H7
 have hin:i≠c.page:=F.ne
 have hiq:i≠q:=fun e=>by
  have h1:=F.apart.2.2
  rcases h1 with h1 | h1
  ·exact h.qok.2.2 (e ▸ h1)
  ·have:=h.qok;omega
 have hqp:q≠c.page:=fun e=>h.qok.2.2 (e ▸ F.H.rep_has (F.rep (k,c) (by simp)) _ (page_mem c))
 have hF7:Fram2 s { s4 with M:=upd s4.M i (some { n with ens:=es7,arr:=some ⟨g,0,none⟩,cap:=c',sole:=true }),ρ:=ρ7 } (i :: c.page :: q :: []):=by
  refine ⟨h.fram.has,fun j hj=>(h.fram.back j hj).imp id (fun h=>List.mem_cons_of_mem _ h),h.fram.G,fun j hl hj=>?_,?_,h.fram.roots⟩
  ·simp only [List.mem_cons,List.not_mem_nil,or_false,not_or] at hj
   show upd s4.M i _ j=_
   rw [upd_other _ _ hj.1]
   exact h.fram.M j hl (by simp [hj.2.1,hj.2.2])
  ·obtain ⟨d,hd,hdp⟩:=h.fram.gn
   exact ⟨d,hd,fun j hj=>List.mem_cons_of_mem _ (by simpa using hdp j hj)⟩
 have hperm:(pgK (A++(k,c1) :: (k2,c2) :: B)).Perm (q :: pgK (A++(k,c) :: B)):=by
  have h1:=hS.perm
  rw [List.perm_iff_count] at h1 ⊢
  intro j
  have:=h1 j
  rw [pgK_app,pgK_cons,pgK_cons,pgK_app,pgK_cons]
  simp only [List.count_append,List.count_cons] at this ⊢
  omega
 have hqn:q ∉ pgK (A++(k,c) :: B):=fun hm=>by
  obtain ⟨y,hy,hq⟩:=List.mem_flatMap.1 hm
  exact h.qok.2.2 (F.H.rep_has (F.rep y hy) q hq)
 have hnd:(pgK (A++(k,c1) :: (k2,c2) :: B)).Nodup:=hperm.nodup_iff.2 (List.nodup_cons.2 ⟨hqn,F.nodup⟩)
 have hip:i ∉ pgK (A++(k,c1) :: (k2,c2) :: B):=fun hm=>by
  rcases List.mem_cons.1 (hperm.mem_iff.1 hm) with e | e
  ·exact hiq e
  ·exact F.apart.1 e
 have s1:c1.size≤510:=by unfold Tr.size;rw [he1];exact h.ens.2.2.1
 have s2:c2.size≤510:=by unfold Tr.size;rw [he2];exact Nat.le_trans (hd0_size _ _) h.ens.2.2.2
 have hT:TidyK (A++(k,c1) :: (k2,c2) :: B):=by
  refine ⟨keysOk_sub (t:=c1) F.pre.keys fun z hz=>?_,fun z hz=>?_⟩
  ·rcases List.mem_cons.1 hz with rfl | hz
   ·exact hS.key
   ·exact hkb z hz
  ·simp only [List.mem_append,List.mem_cons] at hz
   rcases hz with hz | rfl | rfl | hz
   ·exact F.pre.left z hz
   ·exact ⟨hS.left,hS.ne.1,s1,by rw [hS.page.1];exact F.pre.mid.2⟩
   ·exact ⟨hS.right,hS.ne.2,s2,by rw [hS.page.2];exact ⟨h.qok.1,h.qok.2.1⟩⟩
   ·exact F.pre.right z hz
 obtain ⟨x',hx',hxl,hxe⟩:=h.x
 obtain ⟨y',hy',hyl,hye⟩:=h.y
 have hnA:∀ z ∈ A,∀ j ∈ z.2.pages,j ∉ i :: c.page :: q :: []:=fun z hz j hj=>by
  have hm:j ∈ pgK (A++(k,c) :: B):=mem_pgK (k:=z) (by simp [hz]) hj
  simp only [List.mem_cons,List.not_mem_nil,or_false,not_or]
  refine ⟨fun e=>F.apart.1 (e ▸ hm),fun e=>?_,fun e=>hqn (e ▸ hm)⟩
  have hnd2:=F.nodup
  rw [pgK_app,List.nodup_append] at hnd2
  exact hnd2.2.2 j (mem_pgK hz hj) j (by rw [pgK_cons];exact List.mem_append.2 (.inl (e ▸ page_mem c))) rfl
 have hnB:∀ z ∈ B,∀ j ∈ z.2.pages,j ∉ i :: c.page :: q :: []:=fun z hz j hj=>by
  have hm:j ∈ pgK (A++(k,c) :: B):=mem_pgK (k:=z) (by simp [hz]) hj
  simp only [List.mem_cons,List.not_mem_nil,or_false,not_or]
  refine ⟨fun e=>F.apart.1 (e ▸ hm),fun e=>?_,fun e=>hqn (e ▸ hm)⟩
  have hnd2:=F.nodup
  rw [pgK_app,List.nodup_append] at hnd2
  have hnd3:=hnd2.2.1
  rw [pgK_cons,List.nodup_append] at hnd3
  exact hnd3.2.2 c.page (page_mem c) j (mem_pgK hz hj) e.symm
 refine ⟨_,{ n with ens:=es7,arr:=some ⟨g,0,none⟩,cap:=c',sole:=true },c1,k2,c2,rfl,⟨⟨H7,upd_same _ _ _,rfl,F.level,he7,hT,fun z hz=>?_,hnd,hip⟩,⟨rfl,rfl,rfl,he7,rfl,rfl,rfl⟩,⟨hsp,s1,s2⟩,h.qok,h.has,h.gn,hF7,hperm⟩⟩
 have hcp:1≤c.page∧c.page < 4096:=F.page
 have hboth:Rep (Cur { s4 with M:=upd s4.M i (some { n with ens:=es7,arr:=some ⟨g,0,none⟩,cap:=c',sole:=true }),ρ:=ρ7 }) c1∧Rep (Cur { s4 with M:=upd s4.M i (some { n with ens:=es7,arr:=some ⟨g,0,none⟩,cap:=c',sole:=true }),ρ:=ρ7 }) c2:=by
  refine hrep _ (Cur s) ?_ ?_ (F.rep (k,c) (by simp)) (fun r hr hrc l es hc=>hc.fram2 hF7 ?_) ?_
  ·exact cur_some hcp.1 hcp.2 (show upd s4.M i _ c.page=some x' by rw [upd_other _ _ (Ne.symm hin)];exact hx') hxl hxe
  ·exact cur_some h.qok.1 h.qok.2.1 (show upd s4.M i _ q=some y' by rw [upd_other _ _ (Ne.symm hiq)];exact hy') hyl hye
  ·have hm:r ∈ pgK (A++(k,c) :: B):=mem_pgK (k:=(k,c)) (by simp) hr
   simp only [List.mem_cons,List.not_mem_nil,or_false,not_or]
   exact ⟨fun e=>F.apart.1 (e ▸ hm),hrc,fun e=>hqn (e ▸ hm)⟩
  ·have hnd2:=F.nodup
   rw [pgK_app,List.nodup_append] at hnd2
   have hnd3:=hnd2.2.1
   rw [pgK_cons,List.nodup_append] at hnd3
   exact hnd3.1
 simp only [List.mem_append,List.mem_cons] at hz
 rcases hz with hz | rfl | rfl | hz
 ·exact rep_fram2 hF7 (F.rep z (by simp [hz])) (hnA z hz)
 ·exact hboth.1
 ·exact hboth.2
 ·exact rep_fram2 hF7 (F.rep z (by simp [hz])) (hnB z hz)
end
section
variable {K:Kc} {s:Hst} {i:Nat} {n x:NO} {w:World} {L:Nat} {A:List (Kid L)} {k:List UInt8} {c:Tr L} {B:List (Kid L)} {had:Nat}
theorem split_cpl {c:Tr L} {lo:List UInt8} {hi:Option (List UInt8)} (h:Ord c lo hi):L=0→∀ A a b B,c.ens=A++a :: b :: B→cpl a.key b.key < b.key.length:=by
 cases L with
 | zero=>exact fun _ A a b B he=>leaf_cpl h he
 | succ L=>exact fun e=>absurd e (by omega)
def SplitTail (K:Kc) (s:Hst) (i:Nat) (n:NO) {L:Nat} (A:List (Kid L)) (k:List UInt8) (c:Tr L) (B:List (Kid L)) (had:Nat) (w:World):Prop :=
 Calls Tryz.prog 162 #[.pointer (some ⟨K.cb,0,none⟩),n.ptr,.int .i64 ((A.length:Int)+1)] w fun e w8=>e=.returned (.tuple #[]) ∧
  Calls Tryz.prog 162 #[.pointer (some ⟨K.cb,0,none⟩),n.ptr,.int .i64 ((A.length:Int) - 1)] w8 fun e w9=>e=.returned (.tuple #[])∧FitPost K s i n A k c B had (.returned (.int .i64 0)) w9
theorem split_tail (F:FitIn K s i n A k c B had x w) (hbig:510 < c.size) {s7:Hst} {n7:NO} {q:Nat} {c1 c2:Tr L} {k2:List UInt8} {w7:World} (hb:n7.blk=n.blk) (h:Parted K s s7 i n n7 A k c B q c1 k2 c2 w7):SplitTail K s i n A k c B had w7:=by
 have hA9:A.length≤800:=by
  have h1:=(F.H.node i n F.M).at_.short.1
  rw [F.ens,List.length_map] at h1
  simp at h1;omega
 have hp:n.ptr=n7.ptr:=by unfold NO.ptr;rw [hb]
 unfold SplitTail
 rw [hp]
 have hj:=join_said L K s7 i n7 _ w7 h.pre (A.length+1) (by omega)
 rw [show ((A.length+1:Nat):Int)=(A.length:Int)+1 by omega] at hj
 refine hj.mono ?_
 intro e w8 h8
 obtain ⟨rfl,s8,ks1,d1,n8,hJ1,hP8,hN8,hg8,hF8,hpm8⟩:=h8.next h.pre
 refine ⟨rfl,?_⟩
 have hp8:n7.ptr=n8.ptr:=by unfold NO.ptr;rw [hN8.1]
 rw [hp8]
 refine (join_m hP8 A.length (by omega)).mono ?_
 rintro e w9 ⟨rfl,s9,ks2,d2,n9,hJ2,hP9,hN9,hg9,hF9,hpm9⟩
 refine ⟨rfl,rfl,s9,n9,ks2,[q],d1++d2,⟨hP9.H,hP9.M,?_,.inr (.inl ⟨hbig,q,c1,k2,c2,ks1,d1,d2,h.split.1,h.split.2.1,h.split.2.2,h.qok.1,h.qok.2.1,hJ1,hJ2,rfl,rfl⟩),hP9.rep,?_,?_,?_,?_⟩⟩
 ·exact ⟨hN9.1.trans (hN8.1.trans h.is.1),hN9.2.1.trans (hN8.2.1.trans h.is.2.1),hN9.2.2.1.trans (hN8.2.2.1.trans h.is.2.2.1),hP9.ens,hP9.sole,hN9.2.2.2.2.2.1.trans (hN8.2.2.2.2.2.1.trans h.is.2.2.2.2.2.1),hN9.2.2.2.2.2.2.trans (hN8.2.2.2.2.2.2.trans h.is.2.2.2.2.2.2)⟩
 ·rw [hg9,hg8,h.gn,List.append_assoc]
 ·intro j hj
  rw [List.mem_singleton] at hj
  subst hj;exact h.qok.2.2
 ·intro j
  rw [hF9.same.1,hF8.same.1,h.has j,List.mem_singleton]
 ·have hsub:∀ j ∈ pgK (A++(k,c1) :: (k2,c2) :: B),j ∈ i :: (pgK (A++(k,c) :: B)++[q]):=fun j hj=>by
   rcases List.mem_cons.1 (h.perm.mem_iff.1 hj) with e | e
   ·simp [e]
   ·exact List.mem_cons_of_mem _ (List.mem_append.2 (.inl e))
  have hpg:∀ j ∈ pgK ks1,j ∈ i :: (pgK (A++(k,c) :: B)++[q]):=fun j hj=>hsub j (hpm8.mem_iff.1 (List.mem_append.2 (.inl hj)))
  refine (h.fram.mono fun j hj=>?_).trans ((hF8.to2.mono fun j hj=>?_).trans (hF9.to2.mono fun j hj=>?_))
  ·simp only [List.mem_cons,List.not_mem_nil,or_false] at hj
   rcases hj with rfl | rfl | rfl
   ·simp
   ·exact List.mem_cons_of_mem _ (List.mem_append.2 (.inl (mem_pgK (k:=(k,c)) (by simp) (page_mem c))))
   ·simp
  ·rcases List.mem_cons.1 hj with rfl | hj
   ·simp
   ·exact hsub j hj
  ·rcases List.mem_cons.1 hj with rfl | hj
   ·simp
   ·exact hpg j hj
def SplitMid (K:Kc) (s:Hst) (i:Nat) (n:NO) {L:Nat} (A:List (Kid L)) (k:List UInt8) (c:Tr L) (B:List (Kid L)) (had:Nat) (q:Nat) (v:Value) (w4:World):Prop :=
 Calls Tryz.prog 118 #[v,.int .i64 q] w4.drew fun e w'=>∃ vb,e=.returned (.agg #[v,.slice (some ⟨vb,0,none⟩) 2 2])∧w'.cell? ⟨n.blk,2,none⟩=some (.slice n.arr n.ens.length n.cap) ∧
   Calls Tryz.prog 80 #[.slice n.arr n.ens.length n.cap,.int .i64 ((A.length:Int)+1),.slice (some ⟨w'.heap.size,0,none⟩) 1 1] (w'.alloc (.cells #[v,.slice (some ⟨vb,0,none⟩) 2 2] 135)) fun e w7=>∃ g c',e=.returned (.slice (some ⟨g,0,none⟩) (n.ens.length+1) c')∧(∃ u,w7.cell? ⟨n.blk,2,none⟩=some u)∧w7.frozen? ⟨n.blk,2,none⟩=false∧n.blk < w7.heap.size ∧
    Hid (SplitTail K s i n A k c B had (w7.setCell ⟨n.blk,2,none⟩ (.slice (some ⟨g,0,none⟩) (n.ens.length+1) c')))
set_option maxHeartbeats 800000 in
theorem split_chain (F:FitIn K s i n A k c B had x w) (hbig:510 < c.size) {U:List Nat} {m:Nat} (hr:Roomy s.h U (m+1)) :
  Calls Tryz.prog 159 #[.pointer (some ⟨K.cb,0,none⟩),n.ptr,.int .i64 A.length] w fun e w1=>e=.returned x.ptr∧w1.cell? ⟨x.blk,1,none⟩=some (.int .i64 L) ∧
   Calls Tryz.prog 119 #[.pointer (some ⟨K.cb,0,none⟩),.pointer (some ⟨w1.heap.size,0,none⟩)] (w1.alloc (.cells #[.int .i64 0,.int .i64 L,.slice none 0 0,.string ⟨#[]⟩,.int .i64 0] 138)) fun e w3=>e=.returned (.int .i64 0) ∧
    Calls Tryz.prog 186 #[x.ptr,.pointer (some ⟨w1.heap.size,0,none⟩)] w3 fun e w4=>∃ ka kl kc q,e=.returned (.slice ka kl kc)∧w4.cell? ⟨n.blk,2,none⟩=some (.slice n.arr n.ens.length n.cap)∧w4.cell? ⟨w1.heap.size,0,none⟩=some (.int .i64 (q:Nat)) ∧
     SplitMid K s i n A k c B had q (.slice ka kl kc) w4:=by
 obtain ⟨hk,hkc⟩:=F.kid
 obtain ⟨hp1,hp2⟩:=F.page
 obtain ⟨hxM,hxl,hxe,hxs,hxh⟩:=F.x
 refine (child_in F.H F.M hk rfl F.level (by rw [hkc];exact ⟨hp1,hp2⟩) (by rw [hkc];exact hxM) hxl).mono ?_
 rintro e w1 ⟨rfl,H1⟩
 have c1:=(H1.node _ x hxM).at_.c1
 rw [hxl] at c1
 refine ⟨rfl,c1,?_⟩
 have hL:=(H1.node _ x hxM).at_.small.2.1
 rw [hxl] at hL
 obtain ⟨ρ2,H2⟩:=H1.temp L hL
 obtain ⟨yb,hyb⟩:∃ b,b=w1.heap.size:=⟨_,rfl⟩
 rw [← hyb] at H2 ⊢
 have hM4:upd s.M 4096 (some (tempNO yb L)) 4096=some (tempNO yb L):=upd_same _ _ _
 have hHO:=house_h (i:=4096) (n:=tempNO yb L) H2 hM4 (.inr (Nat.le_refl 4096)) rfl (U:=U) (k:=m) hr
 have hpt:(tempNO yb L).ptr=.pointer (some ⟨yb,0,none⟩):=rfl
 rw [hpt] at hHO
 refine hHO.mono ?_
 rintro e w3 ⟨rfl,q,h',S',ρ',av',hnx,H3⟩
 refine ⟨rfl,?_⟩
 obtain ⟨hok',q1,q2,hnq,hhas,hroots⟩:=hnx.spec H2.act.ok
 dsimp only at hnq hhas hroots H3
 have hcn:s.h.has c.page:=(F.H.was _ x hxM hp1 hp2).2.1
 have hpq:c.page≠q:=fun e=>hnq (e ▸ hcn)
 have hip:=F.ne
 have hiq:i≠q:=fun e=>by
  rcases F.apart.2.2 with h1 | h1
  ·exact hnq (e ▸ h1)
  ·omega
 have hi4:=F.apart.2.1
 have hM3:∀ j,j < 4096→j≠q→(upd (upd (upd s.M 4096 (some (tempNO yb L))) 4096 none) q (some { tempNO yb L with page:=q })) j=s.M j:=fun j h1 h2=>by
  rw [upd_other _ _ h2,upd_other _ _ (by omega),upd_other _ _ (by omega)]
 have hxM3:=(hM3 c.page hp2 hpq).trans hxM
 have hyM3:(upd (upd (upd s.M 4096 (some (tempNO yb L))) 4096 none) q (some { tempNO yb L with page:=q })) q=some { tempNO yb L with page:=q }:=upd_same _ _ _
 have hxn:=(H3.node _ x hxM3).at_
 have hyn:=(H3.node _ _ hyM3).at_
 have hne:x.blk≠yb:=fun e=>by
  have h1:=(H3.node _ x hxM3).blk
  have h2:ρ' yb=8+2*q:=(H3.node _ _ hyM3).blk
  rw [e] at h1
  dsimp only at h1
  omega
 obtain ⟨lo,hi,hord⟩:=F.ord
 have hlt:x.level=0→∀ A a b B,x.ens=A++a :: b :: B→cpl a.key b.key < b.key.length:=by rw [hxl,hxe];exact split_cpl hord
 have hsx:szE x.ens=c.size:=by rw [hxe];rfl
 refine (halve_ok _ x _ w3 hxn hyn hxs (by show L=x.level;exact hxl.symm) hne rfl H3.lt (by rw [hxe];exact loose_short F.pre.mid.1) (by rw [hsx];exact hbig) (by rw [hsx];exact F.size) hlt).mono ?_
 intro e w4 h4
 obtain ⟨A',b,B',v,ρ4,e1,_,e3,e4,e5,rfl,hv,x',y',xb1,_,xl1,xe1,_,_,yb1,yp1,yl1,ye1,_,_,H4⟩:=H3.halved hxM3 hyM3 hpq hxs h4
 have hMn:(upd (upd (upd (upd (upd s.M 4096 (some (tempNO yb L))) 4096 none) q (some { tempNO yb L with page:=q })) c.page (some x')) q (some y')) i=some n:=by
  rw [upd_other _ _ hiq,upd_other _ _ hip];exact (hM3 i hi4 hiq).trans F.M
 have hyM4:(upd (upd (upd (upd (upd s.M 4096 (some (tempNO yb L))) 4096 none) q (some { tempNO yb L with page:=q })) c.page (some x')) q (some y')) q=some y':=upd_same _ _ _
 obtain ⟨ka,kc,rfl,_⟩:=id hv
 have y0:=(H4.node _ _ hyM4).at_.c0
 rw [yb1,yp1] at y0
 have hHv:∃ s4,Halv K s s4 i n c q A' b B' (.slice ka (sepK x.level A' b).length kc) w4:=by
  refine ⟨_,H4,hMn,⟨x',?_,xl1.trans hxl,xe1⟩,⟨y',hyM4,yl1,by rw [ye1,hxl]⟩,?_,⟨q1,q2,hnq⟩,hhas,rfl,⟨fun j hj=>(hhas j).2 (.inl hj),fun j hj=>((hhas j).1 hj).imp id fun e=>by simp [e],fun j hj=>?_,fun j h1 h2=>?_,⟨[],(List.append_nil _).symm,fun j hj=>by cases hj⟩,hroots⟩,⟨by rw [← hxe];exact e1,e3,e4,e5⟩⟩
  ·show upd (upd _ c.page (some x')) q (some y') c.page=some x'
   rw [upd_other _ _ hpq,upd_same]
  ·rw [hxl] at hv;rw [hxl];exact hv
  ·show upd s.G q noughts j=s.G j
   exact upd_other _ _ (fun e:j=q=>hnq (e ▸ hj))
  ·simp only [List.mem_cons,List.not_mem_nil,or_false,not_or] at h2
   show upd (upd _ c.page (some x')) q (some y') j=s.M j
   rw [upd_other _ _ h2.2,upd_other _ _ h2.1]
   exact hM3 j h1 h2.2
 obtain ⟨s4,hHv⟩:=hHv
 refine ⟨ka,_,kc,q,rfl,(H4.node _ _ hMn).at_.c2,y0,?_⟩
 refine (split_ins F hHv ⟨_,_,_,rfl⟩).mono ?_
 rintro e w' ⟨vb,rfl,hn2,hins⟩
 refine ⟨vb,rfl,hn2,hins.mono ?_⟩
 rintro e w7 ⟨g,c',rfl,hu,hf,hl,s7,n7,c1',k2,c2',hb7,hP⟩
 exact ⟨g,c',rfl,hu,hf,hl,Lib.hid (split_tail F hbig hb7 hP)⟩
end
section
variable {K:Kc} {s:Hst} {i:Nat} {n x:NO} {w:World} {L:Nat} {A:List (Kid L)} {k:List UInt8} {c:Tr L} {B:List (Kid L)} {had:Nat}
set_option maxHeartbeats 12800000 in
theorem split_h (F:FitIn K s i n A k c B had x w) (hbig:510 < c.size) {U:List Nat} {m:Nat} (hr:Roomy s.h U (m+1)) :
  Calls Tryz.prog 161 #[.pointer (some ⟨K.cb,0,none⟩),n.ptr,.int .i64 A.length] w (FitPost K s i n A k c B had):=by
 have HC:=Lib.hid (split_chain F hbig hr)
 have hA9:A.length≤800:=by
  have h1:=(F.H.node i n F.M).at_.short.1
  rw [F.ens,List.length_map] at h1
  simp at h1;omega
 have hN9:n.ens.length≤512:=(F.H.node i n F.M).at_.short.1
 unfold SplitMid SplitTail at HC
 unfold NO.ptr at HC ⊢
 obtain ⟨nb,hnb⟩:∃ b,b=n.blk:=⟨_,rfl⟩
 obtain ⟨xb,hxb⟩:∃ b,b=x.blk:=⟨_,rfl⟩
 obtain ⟨na,hna⟩:∃ b,b=n.arr:=⟨_,rfl⟩
 obtain ⟨N,hN⟩:∃ b,b=n.ens.length:=⟨_,rfl⟩
 obtain ⟨nc,hnc⟩:∃ b,b=n.cap:=⟨_,rfl⟩
 rw [← hnb,← hxb,← hna,← hN,← hnc] at HC
 rw [← hnb]
 rw [← hN] at hN9
 obtain ⟨al,hal⟩:∃ l,l=A.length:=⟨_,rfl⟩
 rw [← hal] at HC hA9 ⊢
 clear hnb hxb hna hN hnc hal hr hbig F
 go_enter Tryz.func161,Tryz.ntmps161
 go_wp2_with fail
 refine HC.out.mono ?_
 rintro e w1 ⟨rfl,x1,h1⟩
 have H1:=Lib.hid h1
 clear h1
 go_wp2_with fail
 refine H1.out.mono ?_
 rintro e w3 ⟨rfl,h3⟩
 have H3:=Lib.hid h3
 clear h3
 go_wp2_with fail
 refine H3.out.mono ?_
 rintro e w4 ⟨ka,kl,kc,q,rfl,n2,y0,h4⟩
 have H4:=Lib.hid h4
 clear h4 x1 H1 H3 HC
 obtain ⟨yb,hyb⟩:∃ b,b=w1.heap.size:=⟨_,rfl⟩
 rw [← hyb] at y0 ⊢
 clear hyb
 go_wp2
 have hw:IntKind.i64.wrap ((al:Int)+1)=(al:Int)+1:=IntWalk.i64_in _ (by omega)
 go_region_with (first
  | (go_at_call 118;refine H4.out.mono ?_;rintro e w5 ⟨vb,rfl,n5,h5⟩;have n5':(w5.alloc (.cells #[.slice ka kl kc,.slice (some ⟨vb,0,none⟩) 2 2] 135)).cell? ⟨nb,2,none⟩=some (.slice na N nc):=(World.cell?_alloc_some w5 _ _ (by rw [n5];rfl)).trans n5;have H5:=Lib.hid h5;clear h5)
  | (go_at_call 80;refine H5.out.mono ?_;rintro e w7 ⟨g,c7,rfl,⟨u7,n7⟩,f7,l7,H7⟩))
 all_goals (
  clear n2 y0 H4
  go_wp2_with fail
  refine H7.out.mono ?_
  rintro e w8 ⟨rfl,h8⟩
  have H8:=Lib.hid h8
  clear h8 H7
  go_wp2_with fail
  refine H8.out.mono ?_
  rintro e w9 ⟨rfl,hP⟩
  have HP:=Lib.hid hP
  clear hP H8
  go_wp2
  go_ret
  exact HP.out)
end
section
variable {K:Kc} {s:Hst} {i:Nat} {n x:NO} {w w1:World} {L:Nat} {A:List (Kid L)} {k:List UInt8} {c:Tr L} {B:List (Kid L)} {had:Nat}
theorem hd0_rehd (ks:List (Kid L)):hd0 (L+1) (ks.map kEn)=(rehd ks).map kEn:=by
 cases ks with
 | nil=>rfl
 | cons a r=>simp [hd0,rehd,kEn]
theorem rehd_two {ks:List (Kid L)} {y:Kid L} (h:y ∈ rehd ks):∃ z ∈ ks,z.2=y.2:=by
 cases ks with
 | nil=>cases h
 | cons a r =>
  rcases List.mem_cons.1 h with rfl | h
  ·exact ⟨a,by simp,rfl⟩
  ·exact ⟨y,by simp [h],rfl⟩
theorem FitIn.at9 (F:FitIn K s i n A k c B had x w):A.length≤800∧n.ens.length≤512:=by
 have h1:=(F.H.node i n F.M).at_.short.1
 refine ⟨?_,h1⟩
 rw [F.ens,List.length_map] at h1
 simp at h1;omega
theorem FitIn.off (F:FitIn K s i n A k c B had x w):(∀ z ∈ A,∀ j ∈ z.2.pages,j≠i∧j≠c.page)∧(∀ z ∈ B,∀ j ∈ z.2.pages,j≠i∧j≠c.page):=by
 have hnd:=F.nodup
 rw [pgK_app,List.nodup_append] at hnd
 have hnd3:=hnd.2.1
 rw [pgK_cons,List.nodup_append] at hnd3
 refine ⟨fun z hz j hj=>⟨fun e=>F.apart.1 (e ▸ mem_pgK (k:=z) (by simp [hz]) hj),fun e=>?_⟩,fun z hz j hj=>⟨fun e=>F.apart.1 (e ▸ mem_pgK (k:=z) (by simp [hz]) hj),fun e=>?_⟩⟩
 ·exact hnd.2.2 j (mem_pgK hz hj) j (by rw [pgK_cons];exact List.mem_append.2 (.inl (e ▸ page_mem c))) rfl
 ·exact hnd3.2.2 c.page (page_mem c) j (mem_pgK hz hj) e.symm
theorem fit_none (F:FitIn K s i n A k c B had x w) (he:c.ens=[]) (H1:Hnd K s w1) :
  Calls Tryz.prog 85 #[n.ptr,.int .i64 A.length] w1 fun e w2=>e=.returned (.tuple #[])∧Calls Tryz.prog 160 #[.pointer (some ⟨K.cb,0,none⟩),x.ptr] w2 fun e w3=>e=.returned (.tuple #[])∧FitPost K s i n A k c B had (.returned (.int .i64 0)) w3:=by
 obtain ⟨hp1,hp2⟩:=F.page
 obtain ⟨hxM,hxl,hxe,hxs,hxh⟩:=F.x
 have hn1:=(H1.node i n F.M).at_
 have hens:n.ens=A.map kEn++kEn (k,c) :: B.map kEn:=by rw [F.ens];simp
 have hrm:=remove_ok _ n (A.map kEn) (B.map kEn) (kEn (k,c)) _ hn1 F.sole hens
 rw [List.length_map] at hrm
 refine hrm.mono ?_
 rintro e w2 hr
 have H2:=H1.removed F.M F.sole hr
 refine ⟨hr.1,?_⟩
 have hip:=F.ne
 have hMx:upd s.M i (some { n with ens:=hd0 n.level (A.map kEn++B.map kEn) }) c.page=some x:=by rw [upd_other _ _ (Ne.symm hip)];exact hxM
 refine (leave_h H2 hMx ⟨hp1,hp2⟩).mono ?_
 rintro e w3 ⟨rfl,gv,ρ3,H3⟩
 have hhd:hd0 n.level (A.map kEn++B.map kEn)=(rehd (A++B)).map kEn:=by rw [F.level,← List.map_append];exact hd0_rehd _
 have hF:∀ ps:List Nat,i ∈ ps→c.page ∈ ps→Fram2 s { s with M:=upd (upd s.M i (some { n with ens:=hd0 n.level (A.map kEn++B.map kEn) })) c.page none,gn:=s.gn++[c.page],gv:=gv,ρ:=ρ3 } ps:=fun ps hi hc =>
  ⟨fun j h=>h,fun j h=>.inl h,fun j _=>rfl,fun j _ hj=>by
   show upd (upd s.M i _) c.page none j=s.M j
   rw [upd_other _ _ (fun e=>hj (by rw [e];exact hc)),upd_other _ _ (fun e=>hj (by rw [e];exact hi))],⟨[c.page],rfl,fun j hj=>by rw [List.mem_singleton] at hj;rw [hj];exact hc⟩,rfl⟩
 have hmem:c.page ∈ pgK (A++(k,c) :: B):=mem_pgK (k:=(k,c)) (by simp) (page_mem c)
 refine ⟨rfl,rfl,_,{ n with ens:=hd0 n.level (A.map kEn++B.map kEn) },rehd (A++B),[],[c.page],⟨H3,?_,⟨rfl,rfl,rfl,hhd,F.sole,rfl,rfl⟩,.inl ⟨he,rfl,rfl,rfl⟩,fun y hy=>?_,rfl,(fun j hj=>by cases hj),fun j=>⟨fun h=>.inl h,fun h=>h.elim id (fun h=>by cases h)⟩,hF _ (by simp) (by simp [hmem])⟩⟩
 ·show upd (upd s.M i _) c.page none i=_
  rw [upd_other _ _ hip,upd_same]
 ·obtain ⟨z,hz,hzy⟩:=rehd_two hy
  rw [← hzy]
  refine rep_fram2 (hF [i,c.page] (by simp) (by simp)) (F.rep z (by rcases List.mem_append.1 hz with h | h <;> simp [h])) fun j hj=>?_
  simp only [List.mem_cons,List.not_mem_nil,or_false,not_or]
  rcases List.mem_append.1 hz with h | h
  ·exact F.off.1 z h j hj
  ·exact F.off.2 z h j hj
theorem fit_join (F:FitIn K s i n A k c B had x w) (he:c.ens≠[]) (h5:c.size≤510) (hlt:c.size < had) (H1:Hnd K s w1) :
  Calls Tryz.prog 162 #[.pointer (some ⟨K.cb,0,none⟩),n.ptr,.int .i64 A.length] w1 fun e w8=>e=.returned (.tuple #[]) ∧
   Calls Tryz.prog 162 #[.pointer (some ⟨K.cb,0,none⟩),n.ptr,.int .i64 ((A.length:Int) - 1)] w8 fun e w9=>e=.returned (.tuple #[])∧FitPost K s i n A k c B had (.returned (.int .i64 0)) w9:=by
 have hA9:=F.at9.1
 have hT:TidyK (A++(k,c) :: B):=⟨F.pre.keys,fun z hz=>by
  simp only [List.mem_append,List.mem_cons] at hz
  rcases hz with hz | rfl | hz
  ·exact F.pre.left z hz
  ·exact ⟨F.pre.mid.1,he,h5,F.pre.mid.2⟩
  ·exact F.pre.right z hz⟩
 have hpre:JoinPre K s i n (A++(k,c) :: B) w1:=⟨H1,F.M,F.sole,F.level,F.ens,hT,F.rep,F.nodup,F.apart.1⟩
 refine (join_said L K s i n _ w1 hpre A.length (by omega)).mono ?_
 intro e w8 h8
 obtain ⟨rfl,s8,ks1,d1,n8,hJ1,hP8,hN8,hg8,hF8,hpm8⟩:=h8.next hpre
 refine ⟨rfl,?_⟩
 have hp8:n.ptr=n8.ptr:=by unfold NO.ptr;rw [hN8.1]
 rw [hp8]
 refine (join_m hP8 A.length (by omega)).mono ?_
 rintro e w9 ⟨rfl,s9,ks2,d2,n9,hJ2,hP9,hN9,hg9,hF9,hpm9⟩
 refine ⟨rfl,rfl,s9,n9,ks2,[],d1++d2,⟨hP9.H,hP9.M,?_,.inr (.inr (.inl ⟨he,h5,hlt,ks1,d1,d2,hJ1,hJ2,rfl,rfl⟩)),hP9.rep,?_,(fun j hj=>by cases hj),fun j=>?_,?_⟩⟩
 ·exact ⟨hN9.1.trans hN8.1,hN9.2.1.trans hN8.2.1,hN9.2.2.1.trans hN8.2.2.1,hP9.ens,hP9.sole,hN9.2.2.2.2.2.1.trans hN8.2.2.2.2.2.1,hN9.2.2.2.2.2.2.trans hN8.2.2.2.2.2.2⟩
 ·rw [hg9,hg8,List.append_assoc]
 ·rw [hF9.same.1,hF8.same.1]
  exact ⟨fun h=>.inl h,fun h=>h.elim id (fun h=>by cases h)⟩
 ·refine (hF8.to2.mono fun j hj=>?_).trans (hF9.to2.mono fun j hj=>?_)
  ·rw [List.append_nil];exact hj
  ·rw [List.append_nil]
   rcases List.mem_cons.1 hj with rfl | hj
   ·simp
   ·exact List.mem_cons_of_mem _ (hpm8.mem_iff.1 (List.mem_append.2 (.inl hj)))
theorem fit_still (F:FitIn K s i n A k c B had x w) (he:c.ens≠[]) (h5:c.size≤510) (hge:had≤c.size) (H1:Hnd K s w1):FitPost K s i n A k c B had (.returned (.int .i64 0)) w1 :=
 ⟨rfl,s,n,_,[],[],⟨H1,F.M,⟨rfl,rfl,rfl,F.ens,F.sole,rfl,rfl⟩,.inr (.inr (.inr ⟨he,h5,hge,rfl,rfl,rfl⟩)),F.rep,(List.append_nil _).symm,(fun j hj=>by cases hj),fun j=>⟨fun h=>.inl h,fun h=>h.elim id (fun h=>by cases h)⟩,Fram2.refl s _⟩⟩
theorem FitIn.below (F:FitIn K s i n A k c B had x w) (H1:Hnd K s w1):FitIn K s i n A k c B had x w1:={ F with H:=H1 }
set_option maxHeartbeats 6400000 in
theorem fit_h (F:FitIn K s i n A k c B had x w) {U:List Nat} {m:Nat} (hr:Roomy s.h U (m+1)) :
  Calls Tryz.prog 122 #[.pointer (some ⟨K.cb,0,none⟩),n.ptr,.int .i64 A.length] w (FitPost K s i n A k c B had):=by
 obtain ⟨hk,hkc⟩:=F.kid
 obtain ⟨hp1,hp2⟩:=F.page
 obtain ⟨hxM,hxl,hxe,hxs,hxh⟩:=F.x
 have hA9:=F.at9.1
 have HC:=Lib.hid (child_in F.H F.M hk rfl F.level (by rw [hkc];exact ⟨hp1,hp2⟩) (by rw [hkc];exact hxM) hxl)
 have HS:Hid (∀ w1,Hnd K s w1→Calls Tryz.prog 154 #[x.ptr] w1 fun e w2=>e=.returned (.int .i64 c.size)∧w2.cell? ⟨x.blk,4,none⟩=some (.int .i64 had)∧Hid (Hnd K s w2)):=Lib.hid fun w1 H1=>by
  have hxn:=(H1.node _ x hxM).at_
  refine (size_any _ x w1 hxn).mono ?_
  rintro e w2 ⟨rfl,hb⟩
  have H2:=H1.below hb
  have c4:=(H2.node _ x hxM).at_.c4
  rw [hxh] at c4
  exact ⟨by rw [hxe];rfl,c4,Lib.hid H2⟩
 have HF:=Lib.hid F
 have hz:c.ens=[] ↔ c.size=0:=by
  unfold Tr.size
  constructor
  ·intro e;rw [e];rfl
  ·intro e
   have:=szE_len c.ens
   exact List.eq_nil_of_length_eq_zero (by omega)
 have hz6:=F.size
 have HR:=Lib.hid hr
 have HZ:=Lib.hid hz
 obtain ⟨sz,hsz⟩:∃ z,z=c.size:=⟨_,rfl⟩
 have HSZ:=Lib.hid hsz
 rw [← hsz] at HS hz6
 have hnp:n.ptr=.pointer (some ⟨n.blk,0,none⟩):=rfl
 have hxp:x.ptr=.pointer (some ⟨x.blk,0,none⟩):=rfl
 have HN:Hid (∀ w1,Hnd K s w1→sz=0→Calls Tryz.prog 85 #[n.ptr,.int .i64 A.length] w1 fun e w2=>e=.returned (.tuple #[])∧Calls Tryz.prog 160 #[.pointer (some ⟨K.cb,0,none⟩),x.ptr] w2 fun e w3=>e=.returned (.tuple #[])∧FitPost K s i n A k c B had (.returned (.int .i64 0)) w3):=Lib.hid fun w1 H1 h0=>fit_none F (hz.2 (by rw [← hsz];exact h0)) H1
 have HJ:Hid (∀ w1,Hnd K s w1→sz≠0→sz≤510→sz < had→Calls Tryz.prog 162 #[.pointer (some ⟨K.cb,0,none⟩),n.ptr,.int .i64 A.length] w1 fun e w8=>e=.returned (.tuple #[]) ∧
   Calls Tryz.prog 162 #[.pointer (some ⟨K.cb,0,none⟩),n.ptr,.int .i64 ((A.length:Int) - 1)] w8 fun e w9=>e=.returned (.tuple #[])∧FitPost K s i n A k c B had (.returned (.int .i64 0)) w9):=Lib.hid fun w1 H1 h0 h5 hlt=>fit_join F (fun e=>h0 (by rw [hsz];exact hz.1 e)) (by omega) (by omega) H1
 have HSP:Hid (∀ w1,Hnd K s w1→510 < sz→Calls Tryz.prog 161 #[.pointer (some ⟨K.cb,0,none⟩),n.ptr,.int .i64 A.length] w1 fun e w3=>e=.returned (.int .i64 0)∧FitPost K s i n A k c B had (.returned (.int .i64 0)) w3):=Lib.hid fun w1 H1 h5=>(split_h (F.below H1) (by omega) hr).mono fun e w3 h=>by
  obtain ⟨rfl,h⟩:=h
  exact ⟨rfl,rfl,h⟩
 have HST:Hid (∀ w1,Hnd K s w1→sz≠0→sz≤510→had≤sz→FitPost K s i n A k c B had (.returned (.int .i64 0)) w1):=Lib.hid fun w1 H1 h0 h5 hge=>fit_still F (fun e=>h0 (by rw [hsz];exact hz.1 e)) (by omega) (by omega) H1
 rw [hnp] at HC HN HJ HSP
 rw [hxp] at HC HS HN
 rw [hnp]
 obtain ⟨nb,hnb⟩:∃ b,b=n.blk:=⟨_,rfl⟩
 obtain ⟨xb,hxb⟩:∃ b,b=x.blk:=⟨_,rfl⟩
 rw [← hnb] at HC HN HJ HSP ⊢
 rw [← hxb] at HC HS HN
 obtain ⟨POST,hPOST⟩:∃ P,P=FitPost K s i n A k c B had:=⟨_,rfl⟩
 rw [← hPOST] at HN HJ HSP HST ⊢
 obtain ⟨al,hal⟩:∃ l,l=A.length:=⟨_,rfl⟩
 rw [← hal] at HC HN HJ HSP hA9 ⊢
 clear hPOST hnb hxb hal hz hr F hk hkc hp1 hp2 hxM hxl hxe hxs hxh hsz hnp hxp HF HR HZ HSZ
 go_enter Tryz.func122,Tryz.ntmps122
 go_wp2_with fail
 refine HC.out.mono ?_
 rintro e w1 ⟨rfl,h1⟩
 have H1:=Lib.hid h1
 clear h1
 go_wp2_with fail
 refine (HS.out w1 H1.out).mono ?_
 rintro e w2 ⟨rfl,x4,H2⟩
 clear HC HS H1
 by_cases h0:sz=0
 ·have HN2:=Lib.hid (HN.out w2 H2.out h0)
  subst h0
  clear HN HJ HSP HST
  go_wp2_with fail
  refine HN2.out.mono ?_
  rintro e w3 ⟨rfl,h3⟩
  have H3:=Lib.hid h3
  clear h3
  go_wp2_with fail
  refine H3.out.mono ?_
  rintro e w4 ⟨rfl,h4⟩
  have H4:=Lib.hid h4
  clear h4
  go_wp2
  exact H4.out
 ·have hb0:((sz:Int) == 0)=false:=by simp;omega
  by_cases h5:510 < sz
  ·have HN2:=Lib.hid (HSP.out w2 H2.out h5)
   have h5':(510:Int) < (sz:Int):=by omega
   clear HN HJ HSP HST
   go_wp2_with fail
   refine HN2.out.mono ?_
   rintro e w3 ⟨rfl,h3⟩
   have H3:=Lib.hid h3
   clear h3
   go_wp2
   exact H3.out
  ·have h5':¬ (510:Int) < (sz:Int):=by omega
   by_cases hlt:sz < had
   ·have HN2:=Lib.hid (HJ.out w2 H2.out h0 (by omega) hlt)
    clear HN HJ HSP HST
    go_wp2_with fail
    refine HN2.out.mono ?_
    rintro e w3 ⟨rfl,h3⟩
    have H3:=Lib.hid h3
    clear h3
    go_wp2_with fail
    refine H3.out.mono ?_
    rintro e w4 ⟨rfl,h4⟩
    have H4:=Lib.hid h4
    clear h4
    go_wp2
    exact H4.out
   ·have HN2:=Lib.hid (HST.out w2 H2.out h0 (by omega) (by omega))
    clear HN HJ HSP HST
    go_wp2
    exact HN2.out
end
end Go.Proofs.YtfbbjiidccbaiaaGreatDoor
