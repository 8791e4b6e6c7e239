/- Texts of one proof, one behind the other: ZA, ZB, ZC, ZD. -/
import Derived.Test.YtfbbjiidccbaiaaGreatDoorMAU
import Derived.Lib.AppendZerosOnto
set_option maxRecDepth 100000
namespace Go.Proofs.YtfbbjiidccbaiaaGreatDoor
open Go.RowKit
theorem cntE_self {F:List En} (hs:Srt F) {j:Nat} {e:En} (hj:F[j]? = some e):cntE e.key F=j:=by
 obtain ⟨hjl,rfl⟩:=List.getElem?_eq_some_iff.1 hj
 have hF:F=F.take j++(F[j] :: F.drop (j+1)):=by rw [← List.drop_eq_getElem_cons hjl,List.take_append_drop]
 have hs2:Srt (F.take j++(F[j] :: F.drop (j+1))):=by rw [← hF];exact hs
 obtain ⟨h1,h2,h3⟩:=srt_append.1 hs2
 have h4:=cntE_app (k:=F[j].key) (A:=F.take j) (B:=F[j] :: F.drop (j+1)) (fun a ha=>h3 a ha F[j] List.mem_cons_self) (fun b hb=>by
  simp only [List.head?_cons,Option.some.injEq] at hb
  subst hb
  exact lt_irrefl _)
 rw [← hF,List.length_take] at h4
 omega
theorem next_at {F:List En} (hs:Srt F) {j:Nat} {e:En} (hj:F[j]? = some e):nextE (e.key++[0]) F=F[j+1]?:=by
 have h1:=cntE_self hs hj
 unfold nextE
 rw [cntE_snoc0 _ hs,h1]
 have h2:isAt e.key F=true:=by unfold isAt;rw [h1,hj];simp
 rw [if_pos h2]
theorem prev_at {F:List En} (hs:Srt F) {j:Nat} {e:En} (hj:F[j]? = some e):prevE e.key F=if j=0 then none else F[j - 1]?:=by
 unfold prevE
 rw [cntE_self hs hj]
theorem prev_rev {F:List En} (hs:Srt F) {j:Nat} {e:En} (hj:F.reverse[j]? = some e):prevE e.key F=F.reverse[j+1]?:=by
 have hlt:=(List.getElem?_eq_some_iff.1 hj).1
 rw [List.length_reverse] at hlt
 rw [List.getElem?_reverse hlt] at hj
 rw [prev_at hs hj]
 by_cases h0:F.length - 1 - j=0
 ·rw [if_pos h0,List.getElem?_eq_none (by rw [List.length_reverse];omega)]
 ·rw [if_neg h0,List.getElem?_reverse (by omega),show F.length - 1 - j - 1=F.length - 1 - (j+1) by omega]
theorem first_at (F:List En):nextE [] F=F[0]?:=by
 unfold nextE
 cases F with
 | nil=>rfl
 | cons a r=>rw [cntE_cons_ge (lt_nil _)]
theorem last_rev (F:List En):F.getLast? = F.reverse[0]?:=by rw [List.getLast?_eq_head?_reverse,List.head?_eq_getElem?]
def lenV:Value→Nat
 | .slice _ n _=>n
 | _=>0
structure WhI (J:List RawOp→Prop) (B:Nat) (c:Ac) (tb r:Nat) (F:List En) (U:Us) (S:Nat→Prop) (w:World) (n1:Nat) (vo vb:Value) (fo fb:List En) (o:Option En) (wr:World):Prop where
 st:∃ S',TreeSt J B S' c tb r F U wr∧Turn S w S' wr∧LiI S' wr vo fo∧LiI S' wr vb fb∧¬ S' n1
 x:∃ a b:ByteArray,wr.heap[n1]? = some (.cells #[.string a,.string b] 89 (0,0))∧itV o=.agg #[.string a,.string b]
 ne:vo.ownBlock≠some n1∧vb.ownBlock≠some n1∧(∀ g,vo.ownBlock=some g→vb.ownBlock≠some g)∧w.heap.size≤n1
section
variable {J:List RawOp→Prop} {B:Nat} {S:Nat→Prop} {c:Ac} {w wr:World} {tb r n1:Nat} {F fo fb:List En} {U:Us} {vo vb:Value} {o:Option En}
theorem WhI.below {W:World} (I:WhI J B c tb r F U S w n1 vo vb fo fb o wr) (hb:Below wr.heap.size wr W):WhI J B c tb r F U S w n1 vo vb fo fb o W:=by
 obtain ⟨S',h1,h2,h3,h4,h5⟩:=I.st
 obtain ⟨a,b,h6,h7⟩:=I.x
 exact ⟨⟨S',h1.below hb,h2.trans (Turn.ofBelow hb),h3.below hb,h4.below hb,h5⟩,⟨a,b,(hb.block n1 (Array.getElem?_eq_some_iff.1 h6).1).trans h6,h7⟩,I.ne⟩
theorem WhI.swap (I:WhI J B c tb r F U S w n1 vo vb fo fb o wr):WhI J B c tb r F U S w n1 vb vo fb fo o wr:=by
 obtain ⟨S',h1,h2,h3,h4,h5⟩:=I.st
 exact ⟨⟨S',h1,h2,h4,h3,h5⟩,I.x,I.ne.2.1,I.ne.1,fun g hg e=>I.ne.2.2.1 g e hg,I.ne.2.2.2⟩
theorem TreeSt.kept {S' T:Nat→Prop} {W:World} (x:TreeSt J B S' c tb r F U wr) (hk:Kept T wr W) (hT:∀ k,T k→k < wr.heap.size→¬ S' k∧1≤k∧k≠tb):TreeSt J B S' c tb r F U W:=by
 obtain ⟨h,G,ps,h1,h2,h3,h4,h5⟩:=x
 exact ⟨h,G,ps,h1.kept hk (fun k hk hl=>⟨(hT k hk hl).1,(hT k hk hl).2.1⟩),h2.kept hk (fun ht=>(hT tb ht h2.lt).2.2 rfl),h3,h4,h5⟩
theorem WhI.app (I:WhI J B c tb r F U S w n1 vo vb fo fb o wr) (htb:tb < w.heap.size) (hnew:∀ g,vo.ownBlock=some g→w.heap.size≤g) {e:En} (ho:o=some e) (hl:fo.length≤90000) :
  ∃ (a b:ByteArray),wr.cell? ⟨n1,0,none⟩=some (.string a)∧wr.cell? ⟨n1,1,none⟩=some (.string b)∧∃ v2 w2,(Builtin.append_ #[74,74] 74 #[vo,.slice (some ⟨wr.heap.size,0,none⟩) 1 1]).run Tryz.prog (wr.alloc (.cells #[.string a,.string b] 89))=.ok v2 w2 ∧
   WhI J B c tb r F U S w n1 v2 vb (fo++[e]) fb o w2∧(∀ g,v2.ownBlock=some g→w.heap.size≤g)∧w2.cell? ⟨n1,0,none⟩=some (.string a)∧a.data.toList=e.key∧∃ A c2,v2=.slice A (fo.length+1) c2:=by
 obtain ⟨S',h1,h2,h3,h4,h5⟩:=I.st
 obtain ⟨a,b,h6,h7⟩:=I.x
 obtain ⟨i1,i2,i3,i4⟩:=I.ne
 subst ho
 have h7:Value.agg #[.string ⟨e.key.toArray⟩,.string ⟨e.val.toArray⟩]=.agg #[.string a,.string b]:=h7
 injection h7 with h7
 have h8:[Value.string ⟨e.key.toArray⟩,.string ⟨e.val.toArray⟩]=[.string a,.string b]:=congrArg Array.toList h7
 injection h8 with h8 h9
 injection h9 with h9 _
 injection h8 with h8
 injection h9 with h9
 subst h8 h9
 have hn1l:n1 < wr.heap.size:=(Array.getElem?_eq_some_iff.1 h6).1
 have hz:=h2.1.size
 refine ⟨_,_,by rw [Lib.cell_of_heap h6];rfl,by rw [Lib.cell_of_heap h6];rfl,?_⟩
 obtain ⟨wa,hwa⟩:∃ wa,wa=wr.alloc (.cells #[.string ⟨e.key.toArray⟩,.string ⟨e.val.toArray⟩] 89):=⟨_,rfl⟩
 have hba:Below wr.heap.size wr wa:=by rw [hwa];exact (Below.refl _ _).alloc (Nat.le_refl _) _
 have hza:wa.heap.size=wr.heap.size+1:=by rw [hwa];simp
 have hnw:wa.heap[wr.heap.size]? = some (.cells #[.string ⟨e.key.toArray⟩,.string ⟨e.val.toArray⟩] 89 (0,0)):=by rw [hwa];exact heap_alloc_new wr _
 obtain ⟨v2,w2,hr,j1,j2⟩:=append_items wa 74 vo fo [e] (h3.is.below hba) ⟨wr.heap.size,0,none⟩ 1 (fun i u hu=>by
  rw [add_plain2,Nat.zero_add,Lib.cell_of_heap hnw,← hu]
  simp [itC]) (by simp;omega)
 have hk:Kept (fun k=>vo.ownBlock=some k) wa w2:=⟨j2.1.os,j2.1.tape,j2.1.output,j2.1.size,fun k hk hne=>j2.1.block k hk (fun e=>hne e.symm)⟩
 have hkw:Kept (fun k=>vo.ownBlock=some k) wr w2:=(Kept.ofBelow (S:=fun k=>vo.ownBlock=some k) hba).trans hk (fun _ h=>.inl h)
 have hlow:∀ k,S' k→k < wr.heap.size:=fun k hk=>by
  obtain ⟨h,G,ps,hA,_⟩:=h1
  exact (hA.low k hk).2
 have hown2:∀ g,v2.ownBlock=some g→vo.ownBlock=some g∨wr.heap.size≤g:=fun g hg=>(j2.2 g hg).imp id (fun h=>by omega)
 have hx2:w2.heap[n1]? = some (.cells #[.string ⟨e.key.toArray⟩,.string ⟨e.val.toArray⟩] 89 (0,0)):=(hkw.block n1 hn1l i1).trans h6
 refine ⟨v2,w2,by rw [← hwa];exact hr,⟨⟨S',h1.kept hkw (fun k hk hl=>⟨h3.out k hk,by have:=hnew k hk;omega,by have:=hnew k hk;omega⟩),⟨h2.1.trans hkw (fun k hk=>.inr (hnew k hk)),h2.2⟩,⟨j1,fun g hg hs=>(hown2 g hg).elim (fun h=>h3.out g h hs) (fun h=>by have:=hlow g hs;omega)⟩,⟨h4.is.kept hkw (fun g hg e=>i3 g e hg),h4.out⟩,h5⟩,⟨_,_,hx2,rfl⟩,fun h=>(hown2 n1 h).elim i1 (fun h=>by omega),i2,fun g hg hb=>(hown2 g hg).elim (fun h=>i3 g h hb) (fun h=>by have:=h4.is.lt g hb;omega),i4⟩,fun g hg=>(hown2 g hg).elim (hnew g) (fun h=>by omega),by rw [Lib.cell_of_heap hx2];rfl,rfl,?_⟩
 obtain ⟨A,c2,hv,_⟩:=j1.slice
 exact ⟨A,c2,by rw [hv];simp⟩
theorem WhI.tell (I:WhI J B c tb r F U S w n1 vo vb fo fb o wr) (htb:tb < w.heap.size) {f:Nat} {args:Array Value} {o':Option En}
  (hc:∀ S',TreeSt J B S' c tb r F U wr→Calls Tryz.prog f args wr fun e w'=>e=.returned (.tuple #[itV o',.bool o'.isSome])∧StTo J B S' c tb r F U wr w') :
  Calls Tryz.prog f args wr fun e w3=>∃ (s1 s2:ByteArray),e=.returned (.tuple #[.agg #[.string s1,.string s2],.bool o'.isSome])∧n1 < w3.heap.size∧w3.frozen? ⟨n1,0,none⟩=false∧w3.frozen? ⟨n1,1,none⟩=false∧(∃ u,w3.cell? ⟨n1,0,none⟩=some u)∧(∃ u,w3.cell? ⟨n1,1,none⟩=some u) ∧
   Hid (WhI J B c tb r F U S w n1 vo vb fo fb o' ((w3.setCell ⟨n1,0,none⟩ (.string s1)).setCell ⟨n1,1,none⟩ (.string s2))):=by
 obtain ⟨S',h1,h2,h3,h4,h5⟩:=I.st
 obtain ⟨a,b,h6,h7⟩:=I.x
 obtain ⟨i1,i2,i3,i4⟩:=I.ne
 refine (hc S' h1).mono ?_
 rintro e w3 ⟨rfl,S3,k1,k2⟩
 have hn1l:n1 < wr.heap.size:=(Array.getElem?_eq_some_iff.1 h6).1
 have hx3:=(k2.1.block n1 hn1l h5).trans h6
 have hS3:¬ S3 n1:=k2.not hn1l h5
 have l3:=h3.turn k2
 have l4:=h4.turn k2
 obtain ⟨s1,s2,bb,hv,hb⟩:=itV_form o'
 have y1:=heap_set (i:=0) hx3 (.string s1)
 have y2:=heap_set (i:=1) y1 (.string s2)
 have hk:Kept (fun k=>k=n1) w3 ((w3.setCell ⟨n1,0,none⟩ (.string s1)).setCell ⟨n1,1,none⟩ (.string s2)):=(Kept.setCell (fun k=>k=n1) w3 (b:=n1) (i:=0) rfl (.string s1)).trans (Kept.setCell (fun k=>k=n1) _ (b:=n1) (i:=1) rfl (.string s2)) (fun k e=>.inl e)
 refine ⟨s1,s2,by rw [hv],(Array.getElem?_eq_some_iff.1 hx3).1,by simp [World.frozen?,hx3],by simp [World.frozen?,hx3],⟨_,by rw [Lib.cell_of_heap hx3];rfl⟩,⟨_,by rw [Lib.cell_of_heap hx3];rfl⟩,Lib.hid ⟨⟨S3,k1.kept hk (fun k e _=>by subst e;exact ⟨hS3,by omega,by omega⟩),⟨(h2.trans k2).1.trans hk (fun k e=>.inr (by omega)),(h2.trans k2).2⟩,⟨l3.is.kept hk (fun g hg e=>i1 (e ▸ hg)),l3.out⟩,⟨l4.is.kept hk (fun g hg e=>i2 (e ▸ hg)),l4.out⟩,hS3⟩,⟨s1,s2,y2,hv⟩,i1,i2,i3,i4⟩⟩
end
section
variable {J:List RawOp→Prop} {B:Nat} {S:Nat→Prop} {c:Ac} {w:World} {tb r:Nat} {F:List En} {U:Us}
def GathR (J:List RawOp→Prop) (B:Nat) (c:Ac) (tb r:Nat) (F:List En) (U:Us) (S:Nat→Prop) (w:World) (n1:Nat) (fwd:Bool) (f:Nat) (va vb:Value) (Lst:List En) (j:Nat) (fb:List En) (wr:World):Prop :=
 ∃ (a b:ByteArray) (v2:Value) (w2:World) (A:Option Addr) (c2:Nat),wr.cell? ⟨n1,0,none⟩=some (.string a)∧wr.cell? ⟨n1,1,none⟩=some (.string b)∧v2=.slice A (j+1) c2 ∧
  (Builtin.append_ #[74,74] 74 #[va,.slice (some ⟨wr.heap.size,0,none⟩) 1 1]).run Tryz.prog (wr.alloc (.cells #[.string a,.string b] 89))=.ok v2 w2∧w2.cell? ⟨n1,0,none⟩=some (.string a) ∧
  Hid (Calls Tryz.prog f #[.pointer (some ⟨tb,0,none⟩),.string a] w2 fun e w3=>∃ (s1 s2:ByteArray),e=.returned (.tuple #[.agg #[.string s1,.string s2],.bool (Lst[j+1]?).isSome])∧n1 < w3.heap.size∧w3.frozen? ⟨n1,0,none⟩=false∧w3.frozen? ⟨n1,1,none⟩=false∧(∃ u,w3.cell? ⟨n1,0,none⟩=some u)∧(∃ u,w3.cell? ⟨n1,1,none⟩=some u) ∧
   Hid ((if fwd then WhI J B c tb r F U S w n1 v2 vb (Lst.take (j+1)) fb (Lst[j+1]?) ((w3.setCell ⟨n1,0,none⟩ (.string s1)).setCell ⟨n1,1,none⟩ (.string s2)) else WhI J B c tb r F U S w n1 vb v2 fb (Lst.take (j+1)) (Lst[j+1]?) ((w3.setCell ⟨n1,0,none⟩ (.string s1)).setCell ⟨n1,1,none⟩ (.string s2)))∧∀ g,v2.ownBlock=some g→w.heap.size≤g))
theorem gath_fwd {n1 j:Nat} {va:Value} {wr:World} (htb:tb < w.heap.size) (hr16:r < 16) (hF:F.length≤60000) (hks:∀ e ∈ F,e.key.length≤96) (I:WhI J B c tb r F U S w n1 va (.slice none 0 0) (F.take j) [] (F[j]?) wr) (hown:∀ g,va.ownBlock=some g→w.heap.size≤g) (hj:j < F.length) :
  GathR J B c tb r F U S w n1 true 37 va (.slice none 0 0) F j [] wr:=by
 have he:F[j]? = some F[j]:=List.getElem?_eq_getElem hj
 have hs:Srt F:=by
  obtain ⟨S',h1,_⟩:=I.st
  exact h1.srt
 obtain ⟨a,b,k1,k2,v2,w2,k3,I2,k4,k5,k6,A,c2,k7⟩:=I.app htb hown (e:=F[j]) he (by rw [List.length_take];omega)
 rw [show F.take j++[F[j]]=F.take (j+1) from (List.take_succ_eq_append_getElem hj).symm] at I2
 rw [show (F.take j).length=j by rw [List.length_take];omega] at k7
 refine ⟨a,b,v2,w2,A,c2,k1,k2,k7,k3,k5,Lib.hid ?_⟩
 have hka:a.size≤96:=by
  have h2:=hks F[j] (List.getElem_mem _)
  rw [← k6] at h2
  exact h2
 have hnx:=next_at hs he
 rw [← k6] at hnx
 refine (I2.tell (f:=37) htb (o':=F[j+1]?) (fun S' hS=>?_)).mono ?_
 ·have:=ts_next hS hr16 a (by omega)
  rw [hnx] at this
  exact this
 ·rintro e w3 ⟨s1,s2,e1,e2,e3,e4,e5,e6,H⟩
  exact ⟨s1,s2,e1,e2,e3,e4,e5,e6,Lib.hid ⟨by rw [if_pos rfl];exact H.out,k4⟩⟩
theorem gath_back {n1 j:Nat} {va vo:Value} {fo:List En} {wr:World} (htb:tb < w.heap.size) (hr16:r < 16) (hF:F.length≤60000) (I:WhI J B c tb r F U S w n1 vo va fo (F.reverse.take j) (F.reverse[j]?) wr) (hown:∀ g,va.ownBlock=some g→w.heap.size≤g) (hj:j < F.length) :
  GathR J B c tb r F U S w n1 false 38 va vo F.reverse j fo wr:=by
 have hjr:j < F.reverse.length:=by rw [List.length_reverse];exact hj
 have he:F.reverse[j]? = some F.reverse[j]:=List.getElem?_eq_getElem hjr
 have hs:Srt F:=by
  obtain ⟨S',h1,_⟩:=I.st
  exact h1.srt
 obtain ⟨a,b,k1,k2,v2,w2,k3,I2,k4,k5,k6,A,c2,k7⟩:=I.swap.app htb hown (e:=F.reverse[j]) he (by rw [List.length_take,List.length_reverse];omega)
 rw [show F.reverse.take j++[F.reverse[j]]=F.reverse.take (j+1) from (List.take_succ_eq_append_getElem hjr).symm] at I2
 rw [show (F.reverse.take j).length=j by rw [List.length_take,List.length_reverse];omega] at k7
 refine ⟨a,b,v2,w2,A,c2,k1,k2,k7,k3,k5,Lib.hid ?_⟩
 have hnx:=prev_rev hs he
 rw [← k6] at hnx
 refine (I2.swap.tell (f:=38) htb (o':=F.reverse[j+1]?) (fun S' hS=>?_)).mono ?_
 ·have:=ts_prev hS hr16 a
  rw [hnx] at this
  exact this
 ·rintro e w3 ⟨s1,s2,e1,e2,e3,e4,e5,e6,H⟩
  exact ⟨s1,s2,e1,e2,e3,e4,e5,e6,Lib.hid ⟨by rw [if_neg (by simp)];exact H.out,k4⟩⟩
end
section
variable {J:List RawOp→Prop} {B:Nat} {S:Nat→Prop} {c:Ac} {w:World} {tb r:Nat} {F:List En} {U:Us}
theorem some_dec {α:Type} (l:List α) (j:Nat):(l[j]?).isSome=decide (j < l.length):=by
 by_cases h:j < l.length
 ·rw [List.getElem?_eq_getElem h];simp [h]
 ·rw [List.getElem?_eq_none (by omega)];simp [h]
theorem TreeSt.okL (x:TreeSt J B S c tb r F U w):∀ e ∈ F,e.key.length≤96:=by
 obtain ⟨h,G,ps,h1,h2,h3,h4,h5⟩:=x
 intro e he
 exact (h4.okL e he).2.1
theorem TreeSt.tblt (x:TreeSt J B S c tb r F U w):tb < w.heap.size:=by
 obtain ⟨h,G,ps,h1,h2,h3,h4,h5⟩:=x
 exact h2.lt
def WholeTo (J:List RawOp→Prop) (B:Nat) (S:Nat→Prop) (c:Ac) (tb r:Nat) (F:List En) (U:Us) (v':Value) (w w':World):Prop:=∃ S',TreeSt J B S' c tb r F U w'∧Turn S w S' w'∧LiI S' w' v' F
theorem wh_start {f:Nat} {args:Array Value} (hc:Calls Tryz.prog f args w fun e w'=>e=.returned (.tuple #[itV (F[0]?),.bool (F[0]?).isSome])∧StTo J B S c tb r F U w w') :
  Calls Tryz.prog f args w fun e w1=>∃ (s1 s2:ByteArray),e=.returned (.tuple #[.agg #[.string s1,.string s2],.bool (decide (0 < F.length))])∧w.heap.size≤w1.heap.size∧Hid (WhI J B c tb r F U S w w1.heap.size (.slice none 0 0) (.slice none 0 0) (F.take 0) [] (F[0]?) (w1.alloc (.cells #[.string s1,.string s2] 89))):=by
 refine hc.mono ?_
 rintro e w1 ⟨rfl,S',h1,h2⟩
 obtain ⟨s1,s2,bb,hv,hb⟩:=itV_form (F[0]?)
 have hba:Below w1.heap.size w1 (w1.alloc (.cells #[.string s1,.string s2] 89)):=(Below.refl _ _).alloc (Nat.le_refl _) _
 have hlow:∀ k,S' k→k < w1.heap.size:=fun k hk=>by
  obtain ⟨h,G,ps,hA,_⟩:=h1
  exact (hA.low k hk).2
 have hnn:(Value.slice none 0 0).ownBlock=none:=rfl
 refine ⟨s1,s2,by rw [hv,some_dec],h2.1.size,Lib.hid ⟨⟨S',h1.below hba,h2.trans (Turn.ofBelow hba),by rw [List.take_zero];exact LiI.nil_ _ _,LiI.nil_ _ _,fun hs=>by have:=hlow _ hs;omega⟩,⟨s1,s2,heap_alloc_new w1 _,hv⟩,by rw [hnn];simp,by rw [hnn];simp,(fun g hg=>by rw [hnn] at hg;cases hg),h2.1.size⟩⟩
set_option maxHeartbeats 6400000 in
theorem whole_ok (x:TreeSt J B S c tb r F U w) (hr16:r < 16) (hF:F.length≤60000) :
  Calls Tryz.prog 31 #[.pointer (some ⟨tb,0,none⟩)] w fun e w'=>∃ v',e=.returned (.tuple #[v',.bool true])∧WholeTo J B S c tb r F U v' w w':=by
 have htb:=x.tblt
 have hks:=x.okL
 have HFROM:=Lib.hid (wh_start (by have:=ts_from x hr16 ⟨#[]⟩;rw [first_at] at this;exact this))
 have HFW:Hid (∀ n1 va j wr,WhI J B c tb r F U S w n1 va (.slice none 0 0) (F.take j) [] (F[j]?) wr→(∀ g,va.ownBlock=some g→w.heap.size≤g)→j < F.length→GathR J B c tb r F U S w n1 true 37 va (.slice none 0 0) F j [] wr):=Lib.hid fun n1 va j wr I ho hj=>gath_fwd htb hr16 hF hks I ho hj
 have HBW:Hid (∀ n1 va vo j wr,WhI J B c tb r F U S w n1 vo va F (F.reverse.take j) (F.reverse[j]?) wr→(∀ g,va.ownBlock=some g→w.heap.size≤g)→j < F.length→GathR J B c tb r F U S w n1 false 38 va vo F.reverse j F wr):=Lib.hid fun n1 va vo j wr I ho hj=>gath_back htb hr16 hF I ho hj
 have HLAST:Hid (∀ n1 vo vb fo fb o wr,WhI J B c tb r F U S w n1 vo vb fo fb o wr→Calls Tryz.prog 39 #[.pointer (some ⟨tb,0,none⟩)] wr fun e w3=>∃ (s1 s2:ByteArray),e=.returned (.tuple #[.agg #[.string s1,.string s2],.bool (decide (0 < F.length))])∧n1 < w3.heap.size∧w3.frozen? ⟨n1,0,none⟩=false∧w3.frozen? ⟨n1,1,none⟩=false∧(∃ u,w3.cell? ⟨n1,0,none⟩=some u)∧(∃ u,w3.cell? ⟨n1,1,none⟩=some u) ∧
   Hid (WhI J B c tb r F U S w n1 vo vb fo fb (F.reverse[0]?) ((w3.setCell ⟨n1,0,none⟩ (.string s1)).setCell ⟨n1,1,none⟩ (.string s2)))):=Lib.hid fun n1 vo vb fo fb o wr I=>by
  have:=I.tell (f:=39) (args:=#[.pointer (some ⟨tb,0,none⟩)]) htb (o':=F.reverse[0]?) (fun S' hS=>by
   have h1:=ts_last hS hr16
   rw [last_rev] at h1
   exact h1)
  rw [some_dec,List.length_reverse] at this
  exact this
 have HSL:Hid (∀ n1 vo vb fo fb o wr,WhI J B c tb r F U S w n1 vo vb fo fb o wr→(∃ A c0,vo=.slice A fo.length c0)∧∃ A c0,vb=.slice A fb.length c0):=Lib.hid fun n1 vo vb fo fb o wr I=>by
  obtain ⟨S',h1,h2,h3,h4,h5⟩:=I.st
  obtain ⟨A,c0,e,_⟩:=h3.is.slice
  obtain ⟨A',c0',e',_⟩:=h4.is.slice
  exact ⟨⟨A,c0,e⟩,A',c0',e'⟩
 have HLEN:Hid (∀ n1 vo vb fo fb o wr,WhI J B c tb r F U S w n1 vo vb fo fb o wr→fo=F→Calls Tryz.prog 41 #[.pointer (some ⟨tb,0,none⟩)] wr fun e w'=>e=.returned (.int .i64 F.length)∧Hid (WholeTo J B S c tb r F U vo w w')):=Lib.hid fun n1 vo vb fo fb o wr I hfo=>by
  subst hfo
  obtain ⟨S',h1,h2,h3,h4,h5⟩:=I.st
  refine (ts_len h1 hr16).mono ?_
  rintro e w' ⟨rfl,S2,h6,h7⟩
  exact ⟨rfl,Lib.hid ⟨S2,h6,h2.trans h7,h3.turn h7⟩⟩
 have HCMP:Hid (∀ n1 vo vb o wr i,WhI J B c tb r F U S w n1 vo vb F F.reverse o wr→i < F.length→∃ g g2 cc cc2 p q,vo=.slice (some ⟨g,0,none⟩) F.length cc∧vb=.slice (some ⟨g2,0,none⟩) F.length cc2∧wr.cell? ⟨g2,i*2,none⟩=some (.string p)∧wr.cell? ⟨g2,i*2+1,none⟩=some (.string q)∧wr.cell? ⟨g,(F.length - 1 - i)*2,none⟩=some (.string p)∧wr.cell? ⟨g,(F.length - 1 - i)*2+1,none⟩=some (.string q)):=Lib.hid fun n1 vo vb o wr i I hi=>by
  obtain ⟨S',h1,h2,h3,h4,h5⟩:=I.st
  have hm:F.length - 1 - i < F.length:=by omega
  have e1:F[F.length - 1 - i]? = some F[F.length - 1 - i]:=List.getElem?_eq_getElem hm
  have e2:F.reverse[i]? = some F[F.length - 1 - i]:=by rw [List.getElem?_reverse hi];exact e1
  obtain ⟨g,cc,a1,_,a2,a3⟩:=h3.is.at_ e1
  obtain ⟨g2,cc2,b1,_,b2,b3⟩:=h4.is.at_ e2
  rw [List.length_reverse] at b1
  exact ⟨g,g2,cc,cc2,_,_,a1,b1,b2,b3,a2,a3⟩
 obtain ⟨n,hn⟩:∃ n,n=F.length:=⟨_,rfl⟩
 have HN:=Lib.hid hn
 rw [← hn] at HFROM HFW HBW HLAST HLEN HCMP hF
 clear x hks hn
 go_enter Tryz.func31,Tryz.ntmps31
 go_wp2_with fail
 refine HFROM.out.mono ?_
 rintro e w1 ⟨s1,s2,rfl,hn1,HI0⟩
 obtain ⟨n1,hn1d⟩:∃ n1,n1=w1.heap.size:=⟨_,rfl⟩
 have HI1:Hid (WhI J B c tb r F U S w n1 (.slice none 0 0) (.slice none 0 0) (F.take 0) [] (F[0]?) (w1.alloc (.cells #[.string s1,.string s2] 89))∧∀ g,(Value.slice none 0 0).ownBlock=some g→w.heap.size≤g):=Lib.hid ⟨by rw [hn1d];exact HI0.out,fun g hg=>by cases hg⟩
 have HN1:=Lib.hid hn1d
 obtain ⟨b0,hb0⟩:∃ b0,b0=decide (0 < n):=⟨_,rfl⟩
 rw [← hb0]
 have HB0:=Lib.hid hb0
 clear HFROM HI0 hn1 hb0
 go_wp2
 rw [← HN1.out]
 clear HN1 hn1d
 go_loopw [4,7] (fun vo ok wr=>∃ (j:Nat) (b:Bool) (A0:Option Addr) (c0:Nat),vo=.slice A0 j c0∧j≤n∧ok=.bool b∧Hid (b=decide (j < n))∧Hid (WhI J B c tb r F U S w n1 (.slice A0 j c0) (.slice none 0 0) (F.take j) [] (F[j]?) wr∧∀ g,(Value.slice A0 j c0).ownBlock=some g→w.heap.size≤g)) (fun vo _ _=>n - lenV vo)
 case atStart=>exact ⟨0,b0,none,0,rfl,by omega,rfl,HB0,HI1⟩
 case round =>
  obtain ⟨j,b,A0,c0,rfl,hjn,rfl,HB,HI⟩:=hrel
  cases b with
  | true =>
   have hj:j < n:=of_decide_eq_true HB.out.symm
   obtain ⟨a,b2,v2,w2,A,c2,d1,d2,rfl,hr,d3,HNX⟩:=HFW.out n1 _ j wr HI.out.1 HI.out.2 hj
   have f1:¬ (65536:Int) < (j:Int)+1:=by omega
   have f2:¬ 65536 < j+1:=by omega
   clear HI HB HI1
   go_wp2_with (at_builtin;refine Lib.wpList_append_run _ rfl (.tmp 15) (.tmp 17) 74 74 rfl _ _ rfl rfl _ _ hr ?_)
   clear hr d1 d2
   refine HNX.out.mono ?_
   rintro e w3 ⟨s3,s4,rfl,d4,d5,d6,⟨u,d7⟩,⟨u',d8⟩,HW⟩
   obtain ⟨b3,hb3⟩:∃ b3,b3=(F[j+1]?).isSome:=⟨_,rfl⟩
   rw [← hb3]
   have HB3:Hid (b3=decide (j+1 < n)):=Lib.hid (by rw [hb3,some_dec,← HN.out])
   clear HNX hb3
   go_wp2
   go_roundw
   case rel=>exact ⟨j+1,b3,A,c2,rfl,by omega,rfl,HB3,Lib.hid ⟨by have:=HW.out.1;first | exact this | rwa [if_pos rfl] at this,HW.out.2⟩⟩
   case measure=>simp [lenV];omega
  | false =>
   have hj:¬ j < n:=of_decide_eq_false HB.out.symm
   obtain rfl:j=n:=by omega
   have HI2:Hid (WhI J B c tb r F U S w n1 (.slice A0 j c0) (.slice none 0 0) F [] (F[j]?) wr):=Lib.hid (by
    have:=HI.out.1
    rwa [List.take_of_length_le (by rw [← HN.out];exact Nat.le_refl _)] at this)
   clear HB HI1 HFW HI hj HB0
   go_wp2_with fail
   refine (HLAST.out _ _ _ _ _ _ _ HI2.out).mono ?_
   rintro e w3 ⟨s3,s4,rfl,d4,d5,d6,⟨u,d7⟩,⟨u',d8⟩,HW⟩
   obtain ⟨b1,hb1⟩:∃ b1,b1=decide (0 < j):=⟨_,rfl⟩
   rw [← hb1]
   have HB1:=Lib.hid hb1
   have HI3:Hid (WhI J B c tb r F U S w n1 (.slice A0 j c0) (.slice none 0 0) F (F.reverse.take 0) (F.reverse[0]?) ((w3.setCell ⟨n1,0,none⟩ (.string s3)).setCell ⟨n1,1,none⟩ (.string s4))∧∀ g,(Value.slice none 0 0).ownBlock=some g→w.heap.size≤g):=Lib.hid ⟨by rw [List.take_zero];exact HW.out,fun g hg=>by cases hg⟩
   clear HLAST HI2 hb1 HW
   go_wp2
   clear d4 d5 d6 d7 d8
   go_loopw [5,7] (fun vb ok wr=>∃ (i:Nat) (b:Bool) (A1:Option Addr) (c1:Nat),vb=.slice A1 i c1∧i≤j∧ok=.bool b∧Hid (b=decide (i < j))∧Hid (WhI J B c tb r F U S w n1 (.slice A0 j c0) (.slice A1 i c1) F (F.reverse.take i) (F.reverse[i]?) wr∧∀ g,(Value.slice A1 i c1).ownBlock=some g→w.heap.size≤g)) (fun vb _ _=>j - lenV vb)
   case atStart=>exact ⟨0,b1,none,0,rfl,by omega,rfl,HB1,HI3⟩
   case round =>
    obtain ⟨i,b,A1,c1,rfl,hin,rfl,HB,HI⟩:=hrel
    cases b with
    | true =>
     have hi:i < j:=of_decide_eq_true HB.out.symm
     obtain ⟨a,b2,v2,w2,A,c2,d1,d2,rfl,hr,d3,HNX⟩:=HBW.out n1 _ _ i wr HI.out.1 HI.out.2 hi
     have f1:¬ (j:Int) < (i:Int)+1:=by omega
     have f2:¬ j < i+1:=by omega
     clear HI HB HI3 HB1
     go_wp2_with (at_builtin;refine Lib.wpList_append_run _ rfl (.tmp 35) (.tmp 37) 74 74 rfl _ _ rfl rfl _ _ hr ?_)
     clear hr d1 d2
     refine HNX.out.mono ?_
     rintro e w4 ⟨s5,s6,rfl,d4,d5,d6,⟨u2,d7⟩,⟨u3,d8⟩,HW⟩
     obtain ⟨b3,hb3⟩:∃ b3,b3=(F.reverse[i+1]?).isSome:=⟨_,rfl⟩
     rw [← hb3]
     have HB3:Hid (b3=decide (i+1 < j)):=Lib.hid (by rw [hb3,some_dec,List.length_reverse,← HN.out])
     clear HNX hb3
     go_wp2
     go_roundw
     case rel=>exact ⟨i+1,b3,A,c2,rfl,by omega,rfl,HB3,Lib.hid ⟨by have:=HW.out.1;rwa [if_neg (by simp)] at this,HW.out.2⟩⟩
     case measure=>simp [lenV];omega
    | false =>
     have hi:¬ i < j:=of_decide_eq_false HB.out.symm
     obtain rfl:i=j:=by omega
     have HI4:Hid (∃ o,WhI J B c tb r F U S w n1 (.slice A0 i c0) (.slice A1 i c1) F F.reverse o wr):=Lib.hid ⟨_,by
      have:=HI.out.1
      rwa [List.take_of_length_le (by rw [List.length_reverse,← HN.out];exact Nat.le_refl _)] at this⟩
     clear HB HBW HI hi HI3 HB1
     go_wp2
     go_loopw [8] (fun v wr=>∃ k:Nat,k≤i∧v=.int .i64 k∧Hid (∃ o,WhI J B c tb r F U S w n1 (.slice A0 i c0) (.slice A1 i c1) F F.reverse o wr)) (fun v _=>i - (intOf v).toNat)
     case atStart=>exact ⟨0,by omega,rfl,HI4⟩
     case round =>
      obtain ⟨k,hk,rfl,HI⟩:=hrel
      by_cases hki:k < i
      ·obtain ⟨g,g2,cc,cc2,p,q,h1,h2,d1,d2,d3,d4⟩:∃ g g2 cc cc2 p q,(Value.slice A0 i c0)=.slice (some ⟨g,0,none⟩) i cc∧(Value.slice A1 i c1)=.slice (some ⟨g2,0,none⟩) i cc2∧wr.cell? ⟨g2,k*2,none⟩=some (.string p)∧wr.cell? ⟨g2,k*2+1,none⟩=some (.string q)∧wr.cell? ⟨g,(i - 1 - k)*2,none⟩=some (.string p)∧wr.cell? ⟨g,(i - 1 - k)*2+1,none⟩=some (.string q):=by
        obtain ⟨o,h⟩:=HI.out
        exact HCMP.out _ _ _ o wr k h hki
       injection h1 with h1 _ h3
       injection h2 with h2 _ h4
       subst h1 h2 h3 h4
       obtain ⟨m,hm⟩:∃ m,m=i - 1 - k:=⟨_,rfl⟩
       rw [← hm] at d3 d4
       have f1:(k:Int) < (i:Int):=by omega
       have f2:(0:Int)≤(k:Int):=by omega
       have f3:IntKind.i64.wrap ((i:Int) - 1)=(i:Int) - 1:=IntWalk.i64_in _ (by omega)
       have f4:IntKind.i64.wrap ((i:Int) - 1 - (k:Int))=(m:Int):=by rw [IntWalk.i64_in _ (by omega)];omega
       have f5:(m:Int) < (i:Int):=by omega
       have f6:m < i:=by omega
       have HBD:Hid (∀ q2,∃ o,WhI J B c tb r F U S w n1 (.slice (some ⟨g,0,none⟩) i c0) (.slice (some ⟨g2,0,none⟩) i c1) F F.reverse o (wr.drewN q2)):=Lib.hid fun q2=>by
        obtain ⟨o,h⟩:=HI.out
        exact ⟨o,h.below (below_drewN wr q2)⟩
       clear HI HI4 HCMP HLEN hm
       go_wp2
       go_quiet (fail)
       go_wp2
       go_roundw
       case rel=>exact ⟨k+1,by omega,by go_num,Lib.hid (HBD.out _)⟩
       case measure=>simp [intOf];omega
      ·obtain rfl:k=i:=by omega
       obtain ⟨o,hI⟩:=HI.out
       have HL:=Lib.hid (HLEN.out _ _ _ _ _ _ _ hI rfl)
       clear HI HI4 HCMP HLEN hI
       go_wp2_with fail
       refine HL.out.mono ?_
       rintro e w5 ⟨rfl,HE⟩
       clear HL
       go_wp2
       go_ret2
       exact ⟨_,rfl,HE.out⟩
end
def stepE (kd:Int) (key val:ByteArray) (l:List En):List En :=
 if kd=1 then putE key val l else if kd=2 then delE key.data.toList l else if kd=7 then [] else l
theorem stepE_len (kd:Int) (key val:ByteArray) (l:List En):(stepE kd key val l).length≤l.length+1:=by
 have hi:∀ (k v:List UInt8) (l:List En),(insE k v l).length≤l.length+1:=fun k v l=>by
  induction l with
  | nil=>exact Nat.le_refl _
  | cons a r ih =>
   unfold insE
   split
   ·simp only [List.length_cons];omega
   ·split
    ·simp
    ·simp
 unfold stepE putE
 split
 ·split
  ·exact hi _ _ _
  ·omega
 ·split
  ·exact Nat.le_succ_of_le (List.length_filter_le _ _)
  ·split
   ·simp
   ·omega
section
variable {J:List RawOp→Prop} {B:Nat} {S:Nat→Prop} {c:Ac} {h:Hd} {G:Nat→List UInt8} {w:World} {tb r:Nat} {F l:List En} {ps:List Nat} {U:List Nat} {v:Value}
theorem does_all (x:ActV J B S c h G w) (ht:TreeAt w tb c.a r) (htS:¬ S tb) (hr16:r < 16) (hC:∀ q,(c.C q).length=512) (on:TreeOn h G (h.root r) F ps) (hrm:Roomy h U 16) (li:LiI S w v l) (hl:l.length≤80000) (hs:Srt l) (kd:Int) (key val:ByteArray) (hks:key.size < 9223372036854775807) :
  Calls Tryz.prog 29 #[.pointer (some ⟨tb,0,none⟩),v,.agg #[.int .i64 kd,.string key,.string val]] w (DoesPost J B S c h G tb r ps (stepE kd key val F) (stepE kd key val l) (l=F) w):=by
 have hn:∀ m:Int,m≠1→m≠2→m≠7→∀ l,stepE m key val l=l:=fun m h1 h2 h3 l=>by unfold stepE;rw [if_neg h1,if_neg h2,if_neg h3]
 by_cases h1:kd=1
 ·subst h1;exact does_put x ht htS hr16 hC on hrm li hl key val
 by_cases h2:kd=2
 ·subst h2;exact does_del x ht htS hr16 hC on hrm li hl hs key val
 by_cases h7:kd=7
 ·subst h7;exact does_drop x ht htS hr16 on key val
 rw [hn kd h1 h2 h7,hn kd h1 h2 h7]
 by_cases h3:kd=3
 ·subst h3;exact does_get x ht htS hr16 on li hl key val
 by_cases h4:kd=4
 ·subst h4;exact does_from x ht htS hr16 on li hl key val
 by_cases h5:kd=5
 ·subst h5;exact does_next x ht htS hr16 on li hl key val hks
 by_cases h6:kd=6
 ·subst h6;exact does_prev x ht htS hr16 on li hl key val
 exact does_other x ht on li kd (by omega) key val
theorem ts_does {U:Us} (x:TreeSt J B S c tb r F U w) (hr16:r < 16) (hC:∀ q,(c.C q).length=512) (hF:F.length≤1001) (hU:U.Ok) (li:LiI S w v l) (hl:l.length≤80000) (hs:Srt l) (kd:Int) (key val:ByteArray) (hks:key.size < 9223372036854775807) :
  Calls Tryz.prog 29 #[.pointer (some ⟨tb,0,none⟩),v,.agg #[.int .i64 kd,.string key,.string val]] w fun e w'=>∃ (v':Value) (b:Bool) (S':Nat→Prop),e=.returned (.tuple #[v',.bool b])∧(l=F→b=true)∧TreeSt J B S' c tb r (stepE kd key val F) U w'∧Turn S w S' w'∧LiI S' w' v' (stepE kd key val l):=by
 obtain ⟨h,G,ps,h1,h2,h3,h4,h5⟩:=x
 refine (does_all h1 h2 h3 hr16 hC h4 (roomy_of h4 h5.1 hF hU.1) li hl hs kd key val hks).mono ?_
 rintro e w' ⟨v',b,rfl,hb,h',G',S',ps',q1,q2,q3,q4,q5,q6⟩
 exact ⟨v',b,S',rfl,hb,⟨h',G',ps',q1,q3,q2.not h2.lt h3,q4,q5.only h5.1,hU.2 _ _ _⟩,q2,q6⟩
end
end Go.Proofs.YtfbbjiidccbaiaaGreatDoor
