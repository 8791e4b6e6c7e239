/- Texts of one proof, one behind the other: WW, YX, YY, WX, WY, YA, SZM, YO, YZ. -/
import Derived.Test.YtfbbjiidccbaiaaGreatDoorMAT
import Derived.Test.YtfbbjiidccbaiaaGreatDoorMAR
import Derived.Test.YtfbbjiidccbaiaaGreatDoorMAS
import Derived.Test.YtfbbjiidccbaiaaGreatDoorMAP
import Derived.Deep.CutRange
import Derived.Test.YtfbbjiidccbaiaaGreatDoorMAH
import Derived.Test.YtfbbjiidccbaiaaGreatDoorMAO
set_option maxRecDepth 100000
namespace Go.Proofs.YtfbbjiidccbaiaaGreatDoor
open Go.RowKit
section
variable (v:Value) (w:World) (hN:∀ W,Below w.heap.size w W→NoTree v W)
include hN
set_option maxHeartbeats 800000 in
theorem prev_nobody (k:ByteArray):Calls Tryz.prog 38 #[v,.string k] w fun e w'=>e=.returned (.tuple #[itV none,.bool false])∧Below w.heap.size w w':=by
 obtain ⟨W,hW⟩:∃ W,W=w.alloc (.cells #[.string ⟨#[]⟩,.string ⟨#[]⟩] 89):=⟨_,rfl⟩
 have hb:Below w.heap.size w W:=by rw [hW];exact (Below.refl _ _).alloc (Nat.le_refl _) _
 have HN:Hid (NoTree v W):=Lib.hid (hN W hb)
 have hr:W.heap[w.heap.size]? = some itZ:=by rw [hW];exact heap_alloc_new w _
 obtain ⟨d1,d2,d3,d4,d5,d6,d7,HE⟩:=res_set hr ⟨#[]⟩ ⟨#[]⟩ (Q:=fun W'=>Below w.heap.size w W') (fun W' hk=>hb.trans (hk.toBelow hb.size (fun i e=>Nat.le_of_eq e.symm)))
 clear hN hb hr
 go_enter Tryz.func38,Tryz.ntmps38
 go_wp2_with fail
 rw [← hW]
 refine HN.out.mono ?_
 rintro e w1 ⟨rfl,hw⟩
 subst w1
 clear hW
 go_wp2
 exact bodyPost_ret (v:=.tuple #[.agg #[.string ⟨#[]⟩,.string ⟨#[]⟩],.bool false]) (by simp [results,Tryz.results38,go_sem,d6,d7]) rfl ⟨rfl,HE.out⟩
set_option maxHeartbeats 800000 in
theorem last_nobody:Calls Tryz.prog 39 #[v] w fun e w'=>e=.returned (.tuple #[itV none,.bool false])∧Below w.heap.size w w':=by
 obtain ⟨W,hW⟩:∃ W,W=w.alloc (.cells #[.string ⟨#[]⟩,.string ⟨#[]⟩] 89):=⟨_,rfl⟩
 have hb:Below w.heap.size w W:=by rw [hW];exact (Below.refl _ _).alloc (Nat.le_refl _) _
 have HN:Hid (NoTree v W):=Lib.hid (hN W hb)
 have hr:W.heap[w.heap.size]? = some itZ:=by rw [hW];exact heap_alloc_new w _
 obtain ⟨d1,d2,d3,d4,d5,d6,d7,HE⟩:=res_set hr ⟨#[]⟩ ⟨#[]⟩ (Q:=fun W'=>Below w.heap.size w W') (fun W' hk=>hb.trans (hk.toBelow hb.size (fun i e=>Nat.le_of_eq e.symm)))
 clear hN hb hr
 go_enter Tryz.func39,Tryz.ntmps39
 go_wp2_with fail
 rw [← hW]
 refine HN.out.mono ?_
 rintro e w1 ⟨rfl,hw⟩
 subst w1
 clear hW
 go_wp2
 exact bodyPost_ret (v:=.tuple #[.agg #[.string ⟨#[]⟩,.string ⟨#[]⟩],.bool false]) (by simp [results,Tryz.results39,go_sem,d6,d7]) rfl ⟨rfl,HE.out⟩
set_option maxHeartbeats 800000 in
theorem next_nobody (k:ByteArray) (hk:k.size < 9223372036854775807):Calls Tryz.prog 37 #[v,.string k] w fun e w'=>e=.returned (.tuple #[itV none,.bool false])∧Below w.heap.size w w':=by
 obtain ⟨W,hW⟩:∃ W,W=w.alloc (.cells #[.string ⟨#[]⟩,.string ⟨#[]⟩] 89):=⟨_,rfl⟩
 have hb:Below w.heap.size w W:=by rw [hW];exact (Below.refl _ _).alloc (Nat.le_refl _) _
 have hz:W.heap.size=w.heap.size+1:=by rw [hW];simp
 have hr:W.heap[w.heap.size]? = some itZ:=by rw [hW];exact heap_alloc_new w _
 have HF:Hid (∀ k:ByteArray,Calls Tryz.prog 36 #[v,.string k] W fun e w4=>∃ s1 s2:ByteArray,e=.returned (.tuple #[.agg #[.string s1,.string s2],.bool false])∧ResSet w.heap.size s1 s2 w4 fun W'=>.tuple #[.agg #[.string s1,.string s2],.bool false]=Value.tuple #[itV none,.bool false]∧Below w.heap.size w W'):=Lib.hid fun k=>(from_nobody v W (fun W' hb'=>hN W' (hb.trans (hb'.mono (by omega)))) k).mono fun e w4 ⟨he,hb4⟩=>by
  have h1:Below w.heap.size w w4:=hb.trans (hb4.mono (by omega))
  exact ⟨⟨#[]⟩,⟨#[]⟩,he,res_set ((hb4.block _ (by omega)).trans hr) _ _ fun W' hk=>⟨rfl,h1.trans (hk.toBelow h1.size (fun i e=>Nat.le_of_eq e.symm))⟩⟩
 have z1:¬ 9223372036854775807 < k.size+(⟨#[0]⟩:ByteArray).size:=by show ¬ 9223372036854775807 < k.size+1;omega
 have z2:¬ 9223372036854775807 < k.size+1:=by omega
 clear hN hb hr hz hk
 go_enter Tryz.func37,Tryz.ntmps37
 go_wp2_with fail
 rw [← hW]
 refine (HF.out _).mono ?_
 rintro e w4 ⟨s1,s2,rfl,d1,d2,d3,d4,d5,d6,d7,HE⟩
 clear HF
 go_wp2
 exact bodyPost_ret (v:=.tuple #[.agg #[.string s1,.string s2],.bool false]) (by simp [results,Tryz.results37,go_sem,d6,d7]) rfl (HE.out.imp (congrArg _) id)
set_option maxHeartbeats 800000 in
theorem each_nobody (f:Value):Calls Tryz.prog 86 #[v,f] w fun e w'=>e=.returned (.tuple #[])∧w'=w:=by
 have HN:Hid (NoTree v w):=Lib.hid (hN w (Below.refl _ _));clear hN
 go_enter Tryz.func86,Tryz.ntmps86
 go_wp2_with fail
 refine HN.out.mono ?_
 rintro e w1 ⟨rfl,hw⟩
 subst w1
 go_wp2
 go_end0
 exact ⟨rfl,rfl⟩
end
section
variable {J:List RawOp→Prop} {B:Nat} {S:Nat→Prop} {c:Ac} {h:Hd} {G:Nat→List UInt8} {w:World} {tb r:Nat} {F:List En} {ps:List Nat}
theorem tell_set {o:Option En} {W0:World} (hW0:W0=w.alloc (.cells #[.string ⟨#[]⟩,.string ⟨#[]⟩] 89)) (x:ActV J B S c h G w) {e:Ending} {w4:World} (hp:TellPost J B S c h G o W0 e w4) :
  ∃ (s1 s2:ByteArray) (bb:Bool),e=.returned (.tuple #[.agg #[.string s1,.string s2],.bool bb])∧ResSet w.heap.size s1 s2 w4 fun W'=>TellPost J B S c h G o w (.returned (.tuple #[.agg #[.string s1,.string s2],.bool bb])) W':=by
 have hb0:Below w.heap.size w W0:=by rw [hW0];exact (Below.refl _ _).alloc (Nat.le_refl _) _
 have hz0:W0.heap.size=w.heap.size+1:=by rw [hW0];simp
 have hn0:W0.heap[w.heap.size]? = some itZ:=by rw [hW0];exact heap_alloc_new w _
 have hnS:¬ S w.heap.size:=fun hs=>by have:=(x.low _ hs).2;omega
 obtain ⟨he,S4,hT4,hA4⟩:=hp
 obtain ⟨s1,s2,bb,e6,e7⟩:=itV_form o
 have hr4:=(hT4.1.block w.heap.size (by omega) hnS).trans hn0
 refine ⟨s1,s2,bb,by rw [he,e6,e7],res_set hr4 _ _ fun W' hk=>⟨by rw [e6,e7],edge_fin x.tab.1.1 hA4 ((Turn.ofBelow hb0).trans hT4) ⟨hr4,hT4.not (by omega) hnS,Nat.le_refl _⟩ hk⟩⟩
set_option maxHeartbeats 1600000 in
theorem next_ok (x:ActV J B S c h G w) (ht:TreeAt w tb c.a r) (htS:¬ S tb) (hr16:r < 16) (on:TreeOn h G (h.root r) F ps) (key:ByteArray) (hk:key.size < 9223372036854775807) :
  Calls Tryz.prog 37 #[.pointer (some ⟨tb,0,none⟩),.string key] w (TellPost J B S c h G (nextE (key.data.toList++[0]) F) w):=by
 obtain ⟨W0,hW0⟩:∃ W0,W0=w.alloc (.cells #[.string ⟨#[]⟩,.string ⟨#[]⟩] 89):=⟨_,rfl⟩
 have hb0:Below w.heap.size w W0:=by rw [hW0];exact (Below.refl _ _).alloc (Nat.le_refl _) _
 have HF:Hid (∀ k2:ByteArray,k2.data.toList=key.data.toList++[0]→Calls Tryz.prog 36 #[.pointer (some ⟨tb,0,none⟩),.string k2] W0 fun e w4=>∃ (s1 s2:ByteArray) (bb:Bool),e=.returned (.tuple #[.agg #[.string s1,.string s2],.bool bb])∧ResSet w.heap.size s1 s2 w4 fun W'=>TellPost J B S c h G (nextE (key.data.toList++[0]) F) w (.returned (.tuple #[.agg #[.string s1,.string s2],.bool bb])) W'):=Lib.hid fun k2 hk=>by
  have h1:=from_ok (x.below hb0) (ht.below hb0) htS hr16 on k2
  rw [hk] at h1
  exact h1.mono fun e w4 hp=>tell_set hW0 x hp
 obtain ⟨o,ho⟩:∃ o,o=nextE (key.data.toList++[0]) F:=⟨_,rfl⟩
 rw [← ho] at HF ⊢
 have z1:¬ 9223372036854775807 < key.size+(⟨#[0]⟩:ByteArray).size:=by show ¬ 9223372036854775807 < key.size+1;omega
 have z2:¬ 9223372036854775807 < key.size+1:=by omega
 clear x ht htS on ho hb0 hk
 go_enter Tryz.func37,Tryz.ntmps37
 go_wp2_with fail
 rw [← hW0]
 refine (HF.out _ ?_).mono ?_
 ·simp
 rintro e w4 ⟨s1,s2,bb,rfl,d1,d2,d3,d4,d5,d6,d7,HE⟩
 clear HF
 go_wp2
 exact bodyPost_ret (v:=.tuple #[.agg #[.string s1,.string s2],.bool bb]) (by simp [results,Tryz.results37,go_sem,d6,d7]) rfl HE.out
end
section
variable {J:List RawOp→Prop} {B:Nat} {S:Nat→Prop} {c:Ac} {h:Hd} {G:Nat→List UInt8} {w:World} {tb r:Nat} {F l:List En} {ps:List Nat} {v:Value}
def TellGoes (J:List RawOp→Prop) (B:Nat) (S:Nat→Prop) (c:Ac) (h:Hd) (G:Nat→List UInt8) (tb r:Nat) (ps:List Nat) (F l:List En) (v:Value) (key:ByteArray) (rf:Nat) (w:World) (e:Ending) (w1:World):Prop :=
 ∃ (s1 s2:ByteArray) (b1:Bool),e=.returned (.tuple #[.agg #[.string s1,.string s2],.bool b1])∧(w1.alloc (.cells #[.string s1,.string s2] 89)).cell? ⟨w.heap.size,1,none⟩=some (.string key) ∧
  Hid (Calls Tryz.prog rf #[v,.string key] (w1.alloc (.cells #[.string s1,.string s2] 89)) fun e w3=>∃ (t1 t2:ByteArray) (b2:Bool),e=.returned (.tuple #[.agg #[.string t1,.string t2],.bool b2])∧w1.heap.size < w3.heap.size ∧
   w3.cell? ⟨w1.heap.size,0,none⟩=some (.string s1)∧w3.cell? ⟨w1.heap.size,1,none⟩=some (.string s2)∧Hid (l=F→s1=t1∧s2=t2∧b1=b2)∧Hid (∀ W,Below w3.heap.size w3 W→StepTo J B S c h G tb r ps F l v w W))
theorem tell_goes {W0:World} {key val:ByteArray} {kd:Int} {rf:Nat} {o1 o2:Option En} (o:OpAt w.heap.size S kd key val w W0) (hn0:w.heap.size < W0.heap.size) (ht:TreeAt W0 tb c.a r) (htS:¬ S tb) (on:TreeOn h G (h.root r) F ps) (li:LiI S W0 v l)
  (hrf:∀ W,ItV W v l→Calls Tryz.prog rf #[v,.string key] W fun e w'=>e=.returned (.tuple #[itV o2,.bool o2.isSome])∧Below W.heap.size W w') (heq:l=F→o1=o2) {e:Ending} {w1:World} (hp:TellPost J B S c h G o1 W0 e w1):TellGoes J B S c h G tb r ps F l v key rf w e w1:=by
 obtain ⟨rfl,hp⟩:=hp
 have hst:=(StepTo.act hp ht htS on li).older o.bel
 obtain ⟨S',hT,hA⟩:=hp
 have hz:=hT.1.size
 obtain ⟨s1,s2,b1,h1,h1b⟩:=itV_form o1
 obtain ⟨t1,t2,b2,h2,h2b⟩:=itV_form o2
 have hb:Below w1.heap.size w1 (w1.alloc (.cells #[.string s1,.string s2] 89)):=(Below.refl _ _).alloc (Nat.le_refl _) _
 have hnew:=heap_alloc_new w1 (.cells #[.string s1,.string s2] 89)
 have hza:(w1.alloc (.cells #[.string s1,.string s2] 89)).heap.size=w1.heap.size+1:=by simp
 refine ⟨s1,s2,b1,by rw [h1,h1b],?_,Lib.hid ?_⟩
 ·rw [hb.cell (p:=⟨w.heap.size,1,none⟩) (by show w.heap.size < _;omega)]
  exact o.turn _ _ hT
 ·refine (hrf _ ((li.turn hT).below hb).is).mono ?_
  rintro e w3 ⟨rfl,hb3⟩
  have hz3:=hb3.size
  have hn3:=(hb3.block w1.heap.size (by omega)).trans hnew
  refine ⟨t1,t2,b2,by rw [h2,h2b],by omega,by rw [Lib.cell_of_heap hn3];rfl,by rw [Lib.cell_of_heap hn3];rfl,Lib.hid fun e=>?_,Lib.hid fun W hW=>?_⟩
  ·have e1:=heq e
   subst e1
   rw [h1] at h2
   injection h2 with h2
   have h3:[Value.string s1,.string s2]=[.string t1,.string t2]:=congrArg Array.toList h2
   injection h3 with h4 h5
   injection h5 with h5 _
   injection h4 with h4
   injection h5 with h5
   exact ⟨h4,h5,h1b.symm.trans h2b⟩
  ·exact hst.below ((hb.trans (hb3.mono (by omega))).trans (hW.mono (by omega)))
theorem str_eq_cases (a b:ByteArray):(a=b∧(a.toList == b.toList)=true)∨(¬ a=b∧(a.toList == b.toList)=false):=by
 by_cases h:a=b
 ·exact .inl ⟨h,by rw [h];exact beq_self_eq_true _⟩
 ·refine .inr ⟨h,?_⟩
  cases hb:a.toList == b.toList with
  | false=>rfl
  | true =>
   have h1:=beq_iff_eq.1 hb
   rw [ByteArray.toList_eq,ByteArray.toList_eq] at h1
   have h2:=Array.toList_inj.1 h1
   cases a;cases b;cases h2
   exact absurd rfl h
set_option maxHeartbeats 3200000 in
theorem does_from (x:ActV J B S c h G w) (ht:TreeAt w tb c.a r) (htS:¬ S tb) (hr16:r < 16) (on:TreeOn h G (h.root r) F ps) (li:LiI S w v l) (hl:l.length≤80000) (key val:ByteArray) :
  Calls Tryz.prog 29 #[.pointer (some ⟨tb,0,none⟩),v,.agg #[.int .i64 4,.string key,.string val]] w (DoesPost J B S c h G tb r ps F l (l=F) w):=by
 obtain ⟨W0,hW0⟩:∃ W0,W0=w.alloc (.cells #[.int .i64 4,.string key,.string val] 78):=⟨_,rfl⟩
 have o:=op_at x 4 key val hW0
 have e0:=o.c0
 have e1:=o.c1
 have hn0:w.heap.size < W0.heap.size:=by rw [hW0];simp
 have HTL:Hid (Calls Tryz.prog 36 #[.pointer (some ⟨tb,0,none⟩),.string key] W0 (TellGoes J B S c h G tb r ps F l v key 70 w)):=Lib.hid (
  (from_ok (x.below o.bel) (ht.below o.bel) htS hr16 on key).mono fun e w1 hp=>tell_goes o hn0 (ht.below o.bel) htS on (li.below o.bel) (fun W hi=>rfrom_any hi (by omega) key) (fun e=>by rw [e];rfl) hp)
 clear x ht htS on li o hl hn0
 go_enter Tryz.func29,Tryz.ntmps29
 go_wp2_with fail
 rw [← hW0]
 refine HTL.out.mono ?_
 rintro e w1 ⟨s1,s2,b1,rfl,c1,HR⟩
 clear HTL e0 e1 hW0
 go_wp2_with fail
 refine HR.out.mono ?_
 rintro e w3 ⟨t1,t2,b2,rfl,hlt,d1,d2,HG,HS⟩
 clear HR c1
 have HS4:=Lib.hid (HS.out (w3.alloc (.cells #[.string t1,.string t2] 89)) ((Below.refl _ _).alloc (Nat.le_refl _) _))
 clear HS
 have hne:¬ w1.heap.size=w3.heap.size:=by omega
 rcases str_eq_cases s1 t1 with ⟨q1,q2⟩ | ⟨q1,q2⟩
 ·rcases str_eq_cases s2 t2 with ⟨q3,q4⟩ | ⟨q3,q4⟩
  ·have HQ:=Lib.hid q1;have HQ3:=Lib.hid q3
   clear q1 q3
   go_wp2
   go_ret2
   refine ⟨v,_,rfl,fun e=>?_,HS4.out⟩
   rw [(HG.out e).2.2]
   simp
  ·have HQ3:=Lib.hid q3
   clear q1 q3
   go_wp2
   go_ret2
   exact ⟨v,_,rfl,fun e=>absurd (HG.out e).2.1 HQ3.out,HS4.out⟩
 ·have HQ1:=Lib.hid q1
  clear q1
  go_wp2
  go_ret2
  exact ⟨v,_,rfl,fun e=>absurd (HG.out e).1 HQ1.out,HS4.out⟩
set_option maxHeartbeats 3200000 in
theorem does_prev (x:ActV J B S c h G w) (ht:TreeAt w tb c.a r) (htS:¬ S tb) (hr16:r < 16) (on:TreeOn h G (h.root r) F ps) (li:LiI S w v l) (hl:l.length≤80000) (key val:ByteArray) :
  Calls Tryz.prog 29 #[.pointer (some ⟨tb,0,none⟩),v,.agg #[.int .i64 6,.string key,.string val]] w (DoesPost J B S c h G tb r ps F l (l=F) w):=by
 obtain ⟨W0,hW0⟩:∃ W0,W0=w.alloc (.cells #[.int .i64 6,.string key,.string val] 78):=⟨_,rfl⟩
 have o:=op_at x 6 key val hW0
 have e0:=o.c0
 have e1:=o.c1
 have hn0:w.heap.size < W0.heap.size:=by rw [hW0];simp
 have HTL:Hid (Calls Tryz.prog 38 #[.pointer (some ⟨tb,0,none⟩),.string key] W0 (TellGoes J B S c h G tb r ps F l v key 72 w)):=Lib.hid (
  (prev_ok (x.below o.bel) (ht.below o.bel) htS hr16 on key).mono fun e w1 hp=>tell_goes o hn0 (ht.below o.bel) htS on (li.below o.bel) (fun W hi=>rprev_any hi (by omega) key) (fun e=>by rw [e]) hp)
 clear x ht htS on li o hl hn0
 go_enter Tryz.func29,Tryz.ntmps29
 go_wp2_with fail
 rw [← hW0]
 refine HTL.out.mono ?_
 rintro e w1 ⟨s1,s2,b1,rfl,c1,HR⟩
 clear HTL e0 e1 hW0
 go_wp2_with fail
 refine HR.out.mono ?_
 rintro e w3 ⟨t1,t2,b2,rfl,hlt,d1,d2,HG,HS⟩
 clear HR c1
 have HS4:=Lib.hid (HS.out (w3.alloc (.cells #[.string t1,.string t2] 89)) ((Below.refl _ _).alloc (Nat.le_refl _) _))
 clear HS
 have hne:¬ w1.heap.size=w3.heap.size:=by omega
 rcases str_eq_cases s1 t1 with ⟨q1,q2⟩ | ⟨q1,q2⟩
 ·rcases str_eq_cases s2 t2 with ⟨q3,q4⟩ | ⟨q3,q4⟩
  ·have HQ:=Lib.hid q1;have HQ3:=Lib.hid q3
   clear q1 q3
   go_wp2
   go_ret2
   refine ⟨v,_,rfl,fun e=>?_,HS4.out⟩
   rw [(HG.out e).2.2]
   simp
  ·have HQ3:=Lib.hid q3
   clear q1 q3
   go_wp2
   go_ret2
   exact ⟨v,_,rfl,fun e=>absurd (HG.out e).2.1 HQ3.out,HS4.out⟩
 ·have HQ1:=Lib.hid q1
  clear q1
  go_wp2
  go_ret2
  exact ⟨v,_,rfl,fun e=>absurd (HG.out e).1 HQ1.out,HS4.out⟩
set_option maxHeartbeats 3200000 in
theorem does_next (x:ActV J B S c h G w) (ht:TreeAt w tb c.a r) (htS:¬ S tb) (hr16:r < 16) (on:TreeOn h G (h.root r) F ps) (li:LiI S w v l) (hl:l.length≤80000) (key val:ByteArray) (hks:key.size < 9223372036854775807) :
  Calls Tryz.prog 29 #[.pointer (some ⟨tb,0,none⟩),v,.agg #[.int .i64 5,.string key,.string val]] w (DoesPost J B S c h G tb r ps F l (l=F) w):=by
 obtain ⟨W0,hW0⟩:∃ W0,W0=w.alloc (.cells #[.int .i64 5,.string key,.string val] 78):=⟨_,rfl⟩
 have o:=op_at x 5 key val hW0
 have e0:=o.c0
 have e1:=o.c1
 have hn0:w.heap.size < W0.heap.size:=by rw [hW0];simp
 have HTL:Hid (Calls Tryz.prog 37 #[.pointer (some ⟨tb,0,none⟩),.string key] W0 (TellGoes J B S c h G tb r ps F l v key 71 w)):=Lib.hid (
  (next_ok (x.below o.bel) (ht.below o.bel) htS hr16 on key hks).mono fun e w1 hp=>tell_goes o hn0 (ht.below o.bel) htS on (li.below o.bel) (fun W hi=>rnext_any hi (by omega) key) (fun e=>by rw [e];unfold nextE;rw [cntE_snoc0 _ on.srt]) hp)
 clear x ht htS on li o hl hn0 hks
 go_enter Tryz.func29,Tryz.ntmps29
 go_wp2_with fail
 rw [← hW0]
 refine HTL.out.mono ?_
 rintro e w1 ⟨s1,s2,b1,rfl,c1,HR⟩
 clear HTL e0 e1 hW0
 go_wp2_with fail
 refine HR.out.mono ?_
 rintro e w3 ⟨t1,t2,b2,rfl,hlt,d1,d2,HG,HS⟩
 clear HR c1
 have HS4:=Lib.hid (HS.out (w3.alloc (.cells #[.string t1,.string t2] 89)) ((Below.refl _ _).alloc (Nat.le_refl _) _))
 clear HS
 have hne:¬ w1.heap.size=w3.heap.size:=by omega
 rcases str_eq_cases s1 t1 with ⟨q1,q2⟩ | ⟨q1,q2⟩
 ·rcases str_eq_cases s2 t2 with ⟨q3,q4⟩ | ⟨q3,q4⟩
  ·have HQ:=Lib.hid q1;have HQ3:=Lib.hid q3
   clear q1 q3
   go_wp2
   go_ret2
   refine ⟨v,_,rfl,fun e=>?_,HS4.out⟩
   rw [(HG.out e).2.2]
   simp
  ·have HQ3:=Lib.hid q3
   clear q1 q3
   go_wp2
   go_ret2
   exact ⟨v,_,rfl,fun e=>absurd (HG.out e).2.1 HQ3.out,HS4.out⟩
 ·have HQ1:=Lib.hid q1
  clear q1
  go_wp2
  go_ret2
  exact ⟨v,_,rfl,fun e=>absurd (HG.out e).1 HQ1.out,HS4.out⟩
end
section
variable {J:List RawOp→Prop} {B:Nat} {S:Nat→Prop} {c:Ac} {h:Hd} {G:Nat→List UInt8} {w:World} {tb r:Nat} {F:List En} {ps:List Nat}
set_option maxHeartbeats 1600000 in
theorem edge_none {X:Nat→Prop} {n0:NO} {tv:Value} (hn:NodeAt X w n0) (he:n0.ens=[]) :
  Calls Tryz.prog 84 #[tv,n0.ptr,.int .i64 1] w fun e w'=>e=.returned (.tuple #[itV none,.bool false])∧Below w.heap.size w w':=by
 have c2:=hn.c2
 rw [he] at c2
 have c2:w.cell? ⟨n0.blk,2,none⟩=some (.slice n0.arr 0 n0.cap):=c2
 have hlt:=hn.lt
 obtain ⟨W0,hW0⟩:∃ W0,W0=w.alloc (.cells #[.string ⟨#[]⟩,.string ⟨#[]⟩] 89):=⟨_,rfl⟩
 have hb0:Below w.heap.size w W0:=by rw [hW0];exact (Below.refl _ _).alloc (Nat.le_refl _) _
 have hr0:W0.heap[w.heap.size]? = some itZ:=by rw [hW0];exact heap_alloc_new w _
 have e2:=(hb0.cell (p:=⟨n0.blk,2,none⟩) hlt).trans c2
 unfold NO.ptr
 obtain ⟨nb,hnb⟩:∃ nb,nb=n0.blk:=⟨_,rfl⟩
 rw [← hnb] at c2 e2 ⊢
 have HRS:Hid (∀ W,W.heap[w.heap.size]? = some itZ→Below w.heap.size w W→ResSet w.heap.size ⟨#[]⟩ ⟨#[]⟩ W fun W'=>Below w.heap.size w W'):=Lib.hid fun W hr hb=>res_set hr ⟨#[]⟩ ⟨#[]⟩ fun W' hk=>hb.trans (hk.toBelow hb.size (fun i e=>Nat.le_of_eq e.symm))
 have HS0:Hid (ResSet w.heap.size ⟨#[]⟩ ⟨#[]⟩ W0 fun W'=>Below w.heap.size w W'):=Lib.hid (HRS.out W0 hr0 hb0)
 clear hn he hlt hnb hr0 hb0
 go_enter Tryz.func84,Tryz.ntmps84
 go_wp2
 rw [← hW0]
 clear hW0
 go_loopw [1] (fun p wr=>p=.pointer (some ⟨nb,0,none⟩)∧W0=wr) (fun _ _=>0)
 case atStart=>exact ⟨rfl,rfl⟩
 case round =>
  obtain ⟨rfl,rfl⟩:=hrel
  obtain ⟨d1,d2,d3,d4,d5,d6,d7,HE⟩:=HS0.out
  clear HS0 HRS
  go_wp2
  exact bodyPost_ret (v:=.tuple #[.agg #[.string ⟨#[]⟩,.string ⟨#[]⟩],.bool false]) (by simp [results,Tryz.results84,go_sem,d6,d7]) rfl ⟨rfl,HE.out⟩
set_option maxHeartbeats 1600000 in
theorem last_ok (x:ActV J B S c h G w) (ht:TreeAt w tb c.a r) (htS:¬ S tb) (hr16:r < 16) (on:TreeOn h G (h.root r) F ps) :
  Calls Tryz.prog 39 #[.pointer (some ⟨tb,0,none⟩)] w (TellPost J B S c h G F.getLast? w):=by
 obtain ⟨W0,hW0⟩:∃ W0,W0=w.alloc (.cells #[.string ⟨#[]⟩,.string ⟨#[]⟩] 89):=⟨_,rfl⟩
 have hb0:Below w.heap.size w W0:=by rw [hW0];exact (Below.refl _ _).alloc (Nat.le_refl _) _
 have x0:=x.below hb0
 have ht0:=ht.below hb0
 have HTOP:=Lib.hid (top_ok x0 ht0 hr16)
 have HLD:Hid (∀ k,Calls Tryz.prog 75 #[.pointer (some ⟨tb,0,none⟩),.int .i64 (h.root r)] (W0.drewN k) fun e w2=>∃ yb:Nat,e=.returned (.pointer (some ⟨yb,0,none⟩))∧Hid (Calls Tryz.prog 84 #[.pointer (some ⟨tb,0,none⟩),.pointer (some ⟨yb,0,none⟩),.int .i64 1] w2 fun e w4=>∃ (s1 s2:ByteArray) (bb:Bool),e=.returned (.tuple #[.agg #[.string s1,.string s2],.bool bb])∧ResSet w.heap.size s1 s2 w4 fun W'=>TellPost J B S c h G F.getLast? w (.returned (.tuple #[.agg #[.string s1,.string s2],.bool bb])) W')):=Lib.hid fun k=>by
  have hbk:Below W0.heap.size W0 (W0.drewN k):=below_drewN W0 k
  have xk:=x0.below hbk
  have htk:=ht0.below hbk
  rcases on.is with ⟨rfl,h0,_⟩ | ⟨m,t,hr,ho,rfl,hpg,rfl,hrep⟩
  ·rw [h0]
   refine (load_zero xk htk).mono ?_
   rintro e w2 ⟨rfl,rfl⟩
   refine ⟨_,rfl,Lib.hid ?_⟩
   obtain ⟨w2,hw2⟩:∃ w2,w2=(W0.drewN k).alloc (.cells (tempNO (W0.drewN k).heap.size 0).cells 138):=⟨_,rfl⟩
   rw [← hw2]
   have hn:NodeAt (fun _=>True) w2 (tempNO (W0.drewN k).heap.size 0):=by rw [hw2];exact temp_at _ 0 (by omega) _ trivial
   have hb2:Below W0.heap.size W0 w2:=by rw [hw2];exact hbk.trans (((Below.refl _ _).alloc (Nat.le_refl _) _).mono hbk.size)
   refine (edge_none (tv:=.pointer (some ⟨tb,0,none⟩)) hn rfl).mono ?_
   rintro e w4 ⟨rfl,hb4⟩
   have hb5:Below W0.heap.size W0 w4:=hb2.trans (hb4.mono hb2.size)
   exact tell_set (o:=none) hW0 x ⟨rfl,S,Turn.ofBelow hb5,x0.below hb5⟩
  ·obtain ⟨q1,q2,q3⟩:=hrep.at_
   rw [← hpg]
   refine (load_ok xk htk t.page m t.ens q1 q2 q3).mono ?_
   rintro e w2 ⟨y,S2,rfl,hL⟩
   refine ⟨y.blk,rfl,Lib.hid ?_⟩
   have hT2:Turn S W0 S2 w2:=(Turn.ofBelow hbk).trans hL.turn
   have hed:=edge_ok (by have:=hT2.1.size;have:=ht0.lt;omega) hL.act (htk.kept hL.turn.1 htS) (hL.turn.not htk.lt htS) (hL.node (fun _=>False) (fun _ h=>h.elim)) hL.new.2.2.1 ⟨hL.info.2.1,hL.info.2.2.1⟩ hr.1 hrep false 1 rfl
   refine hed.mono ?_
   rintro e w4 ⟨he,S4,hT4,hA4⟩
   exact tell_set hW0 x ⟨he,S4,hT2.trans hT4,hA4⟩
 obtain ⟨rt,hrt⟩:∃ rt,rt=h.root r:=⟨_,rfl⟩
 rw [← hrt] at HTOP HLD
 clear x ht htS on hrt hb0 x0 ht0
 go_enter Tryz.func39,Tryz.ntmps39
 go_wp2_with fail
 rw [← hW0]
 clear hW0
 refine HTOP.out.mono ?_
 rintro e w1 ⟨rfl,k,rfl⟩
 clear HTOP
 have HL:=Lib.hid (HLD.out k)
 clear HLD
 go_wp2_with fail
 refine HL.out.mono ?_
 rintro e w2 ⟨yb,rfl,HE⟩
 clear HL
 go_wp2_with fail
 refine HE.out.mono ?_
 rintro e w4 ⟨r1,r2,bb,rfl,d1,d2,d3,d4,d5,d6,d7,HE4⟩
 clear HE
 go_wp2
 exact bodyPost_ret (v:=.tuple #[.agg #[.string r1,.string r2],.bool bb]) (by simp [results,Tryz.results39,go_sem,d6,d7]) rfl HE4.out
end
section
variable {J:List RawOp→Prop} {B:Nat} {S S':Nat→Prop} {c:Ac} {h:Hd} {G:Nat→List UInt8} {w wr:World} {tb r L:Nat} {t:Tr L} {lo:List UInt8} {hi:Option (List UInt8)} {n0:NO} {vlo vhi:Value}
def CmpNot (a b:Value) (W:World):Prop:=Calls Tryz.prog 113 #[a,b] W fun e w'=>(∃ r:Int,e=.returned (.int .i64 r)∧decide (r < 0)=false)∧W=w'
def CmpLess (a b:Value) (W:World):Prop:=Calls Tryz.prog 113 #[a,b] W fun e w'=>(∃ r:Int,e=.returned (.int .i64 r)∧decide (0≤r)=false)∧W=w'
theorem BytesO.reads {v:Value} {l:List UInt8} (h:BytesO S w v l):∃ A c,v=.slice A l.length c∧ReadsB w A l:=by
 obtain ⟨A,c,h1,_,_,h2,_⟩:=h
 exact ⟨A,c,h1,h2⟩
theorem cmp_not {a b:Value} {la lb:List UInt8} (ha:BytesO S w a la) (hb:BytesO S w b lb) (hl:le lb la):CmpNot a b w:=by
 obtain ⟨A,ca,rfl,h1⟩:=ha.reads
 obtain ⟨B',cb,rfl,h2⟩:=hb.reads
 refine (compare_any A B' la lb _ _ ca cb w rfl rfl h1 h2).mono ?_
 rintro e w' ⟨rfl,h3⟩
 exact ⟨⟨_,rfl,decide_eq_false fun h=>hl ((compare_neg la lb).1 h)⟩,h3⟩
theorem cmp_less {a b:Value} {la lb:List UInt8} (ha:BytesO S w a la) (hb:BytesO S w b lb) (hl:lt la lb):CmpLess a b w:=by
 obtain ⟨A,ca,rfl,h1⟩:=ha.reads
 obtain ⟨B',cb,rfl,h2⟩:=hb.reads
 refine (compare_any A B' la lb _ _ ca cb w rfl rfl h1 h2).mono ?_
 rintro e w' ⟨rfl,h3⟩
 exact ⟨⟨_,rfl,decide_eq_false fun h=>by have:=(compare_neg la lb).2 hl;omega⟩,h3⟩
def SoundRec (J:List RawOp→Prop) (B:Nat) (c:Ac) (h:Hd) (G:Nat→List UInt8) (tb r L:Nat) (t:Tr L) (lo:List UInt8) (hi:Option (List UInt8)) (n0:NO):Prop :=
 ∀ (i:Nat) (e:En) (S':Nat→Prop) (W:World) (kk vn:Value),t.ens[i]? = some e→ActV J B S' c h G W→TreeAt W tb c.a r→¬ S' tb→NodeO S' W n0→BytesO S' W kk (keyE L lo i e)→HiO S' W vn (nextK t hi i) →
  Calls Tryz.prog 114 #[.pointer (some ⟨tb,0,none⟩),n0.ptr,.int .i64 i] W fun e w4=>∃ (yb:Nat) (S4:Nat→Prop),e=.returned (.pointer (some ⟨yb,0,none⟩))∧Turn S' W S4 w4∧Calls Tryz.prog 74 #[.pointer (some ⟨tb,0,none⟩),.pointer (some ⟨yb,0,none⟩),kk,vn] w4 fun e w5=>e=.returned (.bool true)∧ActPost J B S4 c h G w4 w5
structure SoundI (J:List RawOp→Prop) (B:Nat) (S:Nat→Prop) (c:Ac) (h:Hd) (G:Nat→List UInt8) (w:World) (S':Nat→Prop) (wr:World):Prop where
 act:ActV J B S' c h G wr
 turn:Turn S w S' wr
structure SoundR (J:List RawOp→Prop) (B:Nat) (S:Nat→Prop) (c:Ac) (h:Hd) (G:Nat→List UInt8) (tb L N cap:Nat) (n0:NO) (vlo vhi:Value) (i bb of:Nat) (kv vv kk vn:Value) (w wr:World):Prop where
 lev:∀ W,Below wr.heap.size wr W→W.cell? ⟨n0.blk,1,none⟩=some (.int .i64 L)∧W.cell? ⟨n0.blk,2,none⟩=some (.slice (some ⟨bb,of,none⟩) N cap)
 e1:wr.cell? ⟨bb,of+i*2,none⟩=some kv
 e2:wr.cell? ⟨bb,of+i*2+1,none⟩=some vv
 k:kk=if 0 < L∧i=0 then vlo else kv
 s1:∃ (A:Option Addr) (l cc:Nat),kv=.slice A l cc
 s2:∃ (A:Option Addr) (l cc:Nat),vv=.slice A l cc
 n1:i+1 < N→∀ W,Below wr.heap.size wr W→W.cell? ⟨bb,of+(i+1)*2,none⟩=some vn
 n2:¬ i+1 < N→vn=vhi
 c1:∀ W,Below wr.heap.size wr W→CmpNot kk vlo W
 c2:vn=.slice none 0 0∨∃ (ad:Addr) (l cc:Nat),vn=.slice (some ad) l cc∧∀ W,Below wr.heap.size wr W→CmpLess kk vn W
 leaf:∀ W,Below wr.heap.size wr W→∃ S',SoundI J B S c h G w S' W
 node:0 < L→∀ W,Below wr.heap.size wr W→Calls Tryz.prog 114 #[.pointer (some ⟨tb,0,none⟩),n0.ptr,.int .i64 i] W fun e w4=>∃ yb:Nat,e=.returned (.pointer (some ⟨yb,0,none⟩))∧(∀ k,wr.heap.size≤k→k < W.heap.size→w4.heap[k]? = W.heap[k]?)∧w4.cell? ⟨n0.blk,1,none⟩=some (.int .i64 L) ∧
  Hid (Calls Tryz.prog 74 #[.pointer (some ⟨tb,0,none⟩),.pointer (some ⟨yb,0,none⟩),kk,vn] w4 fun e w5=>e=.returned (.bool true)∧(∀ k,wr.heap.size≤k→k < W.heap.size→w5.heap[k]? = W.heap[k]?)∧w5.cell? ⟨n0.blk,1,none⟩=some (.int .i64 L)∧∃ S5,SoundI J B S c h G w S5 w5)
theorem sound_round (hrec:0 < L→SoundRec J B c h G tb r L t lo hi n0) (I:SoundI J B S c h G w S' wr) (ht:TreeAt w tb c.a r) (htS:¬ S tb) (hn:NodeO S w n0) (his:n0.level=L∧n0.ens=t.ens) (htd:Tidy t) (hord:Ord t lo hi) (hlo:BytesO S w vlo lo) (hhi:HiO S w vhi hi) {i:Nat} (hiN:i < n0.ens.length) :
  ∃ (bb of:Nat) (kv vv kk vn:Value),n0.arr=some ⟨bb,of,none⟩∧SoundR J B S c h G tb L n0.ens.length n0.cap n0 vlo vhi i bb of kv vv kk vn w wr:=by
 have hn':=hn.turn I.turn
 have hlo':=hlo.turn I.turn
 have hhi':=hhi.turn I.turn
 have htS':¬ S' tb:=I.turn.not ht.lt htS
 have ht':=ht.kept I.turn.1 htS
 have hei:n0.ens[i]? = some n0.ens[i]:=List.getElem?_eq_getElem hiN
 obtain ⟨e,he⟩:∃ e,e=n0.ens[i]:=⟨_,rfl⟩
 rw [← he] at hei
 have hti:t.ens[i]? = some e:=by rw [← his.2];exact hei
 obtain ⟨bb,of,kv,vv,harr,hbl,hfr,k1,k2,k3,k4⟩:=hn'.ent hei
 have hkk:BytesO S' wr (if 0 < L∧i=0 then vlo else kv) (keyE L lo i e):=by
  unfold keyE
  by_cases h0:0 < L∧i=0
  ·rw [if_pos h0,if_pos h0];exact hlo'
  ·rw [if_neg h0,if_neg h0];exact k3
 obtain ⟨kk,hk⟩:∃ kk,kk=if 0 < L∧i=0 then vlo else kv:=⟨_,rfl⟩
 rw [← hk] at hkk
 have hvn:∃ vn,HiO S' wr vn (nextK t hi i)∧(i+1 < n0.ens.length→∀ W,Below wr.heap.size wr W→W.cell? ⟨bb,of+(i+1)*2,none⟩=some vn)∧(¬ i+1 < n0.ens.length→vn=vhi):=by
  by_cases hl:i+1 < n0.ens.length
  ·have hx:n0.ens[i+1]? = some n0.ens[i+1]:=List.getElem?_eq_getElem hl
   obtain ⟨bb2,of2,kv2,vv2,harr2,hbl2,hfr2,q1,q2,q3,q4⟩:=hn'.ent hx
   rw [harr] at harr2
   injection harr2 with ha
   injection ha with ha1 ha2
   subst ha1 ha2
   have htx:t.ens[i+1]? = some n0.ens[i+1]:=by rw [← his.2];exact hx
   refine ⟨kv2,?_,fun _ W hb=>(hb.cell (p:=⟨bb,of+(i+1)*2,none⟩) hbl).trans q1,fun h=>absurd hl h⟩
   unfold nextK
   rw [htx]
   exact ⟨next_ne htd hord hti htx,q3⟩
  ·have htx:t.ens[i+1]? = none:=by rw [← his.2];exact List.getElem?_eq_none (by omega)
   refine ⟨vhi,?_,fun h=>absurd h hl,fun _=>rfl⟩
   unfold nextK
   rw [htx]
   exact hhi'
 obtain ⟨vn,hv1,hv2,hv3⟩:=hvn
 obtain ⟨s1,s2⟩:=sound_at htd hord hti
 have hlev:∀ {S2:Nat→Prop} {W:World},NodeO S2 W n0→W.cell? ⟨n0.blk,1,none⟩=some (.int .i64 L):=fun hx=>by
  have:=hx.1.c1
  rw [his.1] at this
  exact this
 refine ⟨bb,of,kv,vv,kk,vn,harr,⟨fun W hb=>?_,k1,k2,hk,k3.reads.imp fun _ ⟨cc,h,_⟩=>⟨_,cc,h⟩,k4.reads.imp fun _ ⟨cc,h,_⟩=>⟨_,cc,h⟩,hv2,hv3,fun W hb=>cmp_not (hkk.below hb) (hlo'.below hb) s1,?_,fun W hb=>⟨S',I.act.below hb,I.turn.trans (Turn.ofBelow hb)⟩,fun h0 W hb=>?_⟩⟩
 ·have hx:=hn'.below hb
  refine ⟨hlev hx,?_⟩
  have h2:=hx.1.c2
  rw [harr] at h2
  exact h2
 ·cases hnk:nextK t hi i with
  | none=>rw [hnk] at hv1;exact .inl hv1
  | some x =>
   rw [hnk] at hv1
   obtain ⟨hx0,hx1⟩:=hv1
   obtain ⟨A,cc,hA,hr⟩:=hx1.reads
   cases A with
   | none =>
    rcases hr with h1 | ⟨_,_,h1,_⟩
    ·exact absurd h1 hx0
    ·cases h1
   | some ad=>exact .inr ⟨ad,_,cc,hA,fun W hb=>cmp_less (hkk.below hb) (hx1.below hb) (s2 x hnk)⟩
 ·have hTb:Turn S' wr S' W:=Turn.ofBelow hb
  have hltW:∀ k,wr.heap.size≤k→k < W.heap.size→¬ S' k:=fun k h1 h2 hs=>by have:=(I.act.low _ hs).2;omega
  refine ((hrec h0) i e S' W kk vn hti (I.act.below hb) (ht'.below hb) htS' (hn'.below hb) (hkk.below hb) (hv1.below hb)).mono ?_
  rintro e4 w4 ⟨yb,S4,rfl,hT4,hS⟩
  refine ⟨yb,rfl,fun k h1 h2=>hT4.1.block k h2 (hltW k h1 h2),hlev ((hn'.below hb).turn hT4),Lib.hid (hS.mono ?_)⟩
  rintro e5 w5 ⟨rfl,S5,hT5,hA5⟩
  have hT45:=hT4.trans hT5
  exact ⟨rfl,fun k h1 h2=>hT45.1.block k h2 (hltW k h1 h2),hlev ((hn'.below hb).turn hT45),S5,hA5,(I.turn.trans hTb).trans hT45⟩
end
section
variable {J:List RawOp→Prop} {B:Nat} {S:Nat→Prop} {c:Ac} {h:Hd} {G:Nat→List UInt8} {w:World} {tb r L:Nat} {t:Tr L} {lo:List UInt8} {hi:Option (List UInt8)} {n0:NO} {vlo vhi:Value}
set_option maxHeartbeats 2000000 in
theorem sound_step (hrec:0 < L→SoundRec J B c h G tb r L t lo hi n0) (x:ActV J B S c h G w) (ht:TreeAt w tb c.a r) (htS:¬ S tb) (hn:NodeO S w n0) (his:n0.level=L∧n0.ens=t.ens) (htd:Tidy t) (hord:Ord t lo hi) (hlo:BytesO S w vlo lo) (hhi:HiO S w vhi hi) :
  Calls Tryz.prog 74 #[.pointer (some ⟨tb,0,none⟩),n0.ptr,vlo,vhi] w fun e w'=>e=.returned (.bool true)∧ActPost J B S c h G w w':=by
 have HRD:Hid (∀ (S':Nat→Prop) (wr:World) (i:Nat),SoundI J B S c h G w S' wr→i < n0.ens.length→∃ (bb of:Nat) (kv vv kk vn:Value),n0.arr=some ⟨bb,of,none⟩∧SoundR J B S c h G tb L n0.ens.length n0.cap n0 vlo vhi i bb of kv vv kk vn w wr):=Lib.hid fun S' wr i I hi=>sound_round hrec I ht htS hn his htd hord hlo hhi hi
 have HI0:Hid (∃ S',SoundI J B S c h G w S' w):=Lib.hid ⟨S,x,Turn.refl S w⟩
 have HN2:Hid (∀ (S':Nat→Prop) (wr:World),SoundI J B S c h G w S' wr→wr.cell? ⟨n0.blk,2,none⟩=some (.slice n0.arr n0.ens.length n0.cap)):=Lib.hid fun S' wr I=>(hn.turn I.turn).1.c2
 have hne:1≤n0.ens.length:=by
  rw [his.2]
  exact List.length_pos_iff.2 htd.2.1
 have h512:=hn.1.short.1
 have c2:=hn.1.c2
 obtain ⟨Al,cl,rfl,-⟩:=hlo.reads
 obtain ⟨ll,hll⟩:∃ ll,ll=lo.length:=⟨_,rfl⟩
 rw [← hll] at HRD ⊢
 clear hrec x ht htS hn his htd hord hlo hhi hll
 unfold NO.ptr
 obtain ⟨nb,hnb⟩:∃ nb,nb=n0.blk:=⟨_,rfl⟩
 obtain ⟨N,hN⟩:∃ N,N=n0.ens.length:=⟨_,rfl⟩
 obtain ⟨ar,har⟩:∃ ar,ar=n0.arr:=⟨_,rfl⟩
 obtain ⟨cp,hcp⟩:∃ cp,cp=n0.cap:=⟨_,rfl⟩
 rw [← hnb,← hN,← har,← hcp] at c2 HN2
 rw [← hN,← har,← hcp] at HRD
 rw [← hN] at hne h512
 rw [← hnb]
 have HNB:=Lib.hid hnb
 clear hnb hN har hcp
 have hN0:(0:Int) < (N:Int):=by omega
 have hN1:decide (0 < N)=true:=decide_eq_true (by omega)
 go_enter Tryz.func74,Tryz.ntmps74
 go_wp2
 go_loopw [17] (fun i wr=>∃ k:Nat,k≤N∧i=.int .i64 k∧Hid (∃ S',SoundI J B S c h G w S' wr)) (fun i _=>N - (intOf i).toNat)
 case atStart=>exact ⟨0,by omega,rfl,HI0⟩
 case round =>
  obtain ⟨k,hk,rfl,HI⟩:=hrel
  by_cases hkn:k < N
  ·obtain ⟨bb,of,kv,vv,kk,vn,harr,HR⟩:∃ (bb of:Nat) (kv vv kk vn:Value),ar=some ⟨bb,of,none⟩∧Hid (SoundR J B S c h G tb L N cp n0 (.slice Al ll cl) vhi k bb of kv vv kk vn w wr):=by
    obtain ⟨S',I⟩:=HI.out
    obtain ⟨bb,of,kv,vv,kk,vn,h1,h2⟩:=HRD.out S' wr k I hkn
    exact ⟨bb,of,kv,vv,kk,vn,h1,Lib.hid h2⟩
   subst harr
   obtain ⟨Ak,lk,ck,rfl⟩:=HR.out.s1
   obtain ⟨Av,lv,cv,rfl⟩:=HR.out.s2
   obtain ⟨W1,hW1⟩:∃ W1,W1=wr.alloc (.cells #[kk,.slice Av lv cv] 135):=⟨_,rfl⟩
   have hb1:Below wr.heap.size wr W1:=by rw [hW1];exact (Below.refl _ _).alloc (Nat.le_refl _) _
   have hz1:W1.heap.size=wr.heap.size+1:=by rw [hW1];simp
   have hnew:W1.heap[wr.heap.size]? = some (.cells #[kk,.slice Av lv cv] 135 (0,0)):=by rw [hW1];exact heap_alloc_new wr _
   have q0:wr.cell? ⟨nb,1,none⟩=some (.int .i64 L):=by rw [HNB.out];exact (HR.out.lev wr (Below.refl _ _)).1
   have q00:wr.cell? ⟨nb,2,none⟩=some (.slice (some ⟨bb,of,none⟩) N cp):=by rw [HNB.out];exact (HR.out.lev wr (Below.refl _ _)).2
   have q1:W1.cell? ⟨nb,1,none⟩=some (.int .i64 L):=by rw [HNB.out];exact (HR.out.lev W1 hb1).1
   have q2:W1.cell? ⟨nb,2,none⟩=some (.slice (some ⟨bb,of,none⟩) N cp):=by rw [HNB.out];exact (HR.out.lev W1 hb1).2
   have hnl:nb < wr.heap.size:=World.block_lt_of_cell? wr _ q0
   have e1:=HR.out.e1
   have e2:=HR.out.e2
   have HC1:Hid (CmpNot kk (.slice Al ll cl) W1):=Lib.hid (HR.out.c1 W1 hb1)
   have HK:=Lib.hid HR.out.k
   have HVN1:Hid (k+1 < N→wr.cell? ⟨bb,of+(k+1)*2,none⟩=some vn∧W1.cell? ⟨bb,of+(k+1)*2,none⟩=some vn):=Lib.hid fun hl=>⟨HR.out.n1 hl wr (Below.refl _ _),HR.out.n1 hl W1 hb1⟩
   have HVN2:=Lib.hid HR.out.n2
   have HC2:Hid (vn=.slice none 0 0∨∃ (ad:Addr) (l cc:Nat),vn=.slice (some ad) l cc∧CmpLess kk vn W1):=Lib.hid (HR.out.c2.imp id fun ⟨ad,l,cc,h1,h2⟩=>⟨ad,l,cc,h1,h2 W1 hb1⟩)
   have HLEAF:Hid (∀ n,∃ S',SoundI J B S c h G w S' (W1.drewN n)):=Lib.hid fun n=>HR.out.leaf _ (below_then_ hb1 (below_drewN W1 n))
   have hbd:Below wr.heap.size wr W1.drew:=below_then_ hb1 (Below.refl W1.heap.size W1).drew
   have hzd:W1.drew.heap.size=W1.heap.size:=rfl
   have heb:∀ W':World,W'.heap[wr.heap.size]? = W1.drew.heap[wr.heap.size]?→W'.cell? ⟨wr.heap.size,0,none⟩=some kk:=fun W' hW'=>by
    have h1:W'.heap[wr.heap.size]? = some (.cells #[kk,.slice Av lv cv] 135 (0,0)):=hW'.trans hnew
    rw [Lib.cell_of_heap h1];rfl
   have HS0:Hid (W1.drew.cell? ⟨nb,1,none⟩=some (.int .i64 L)∧W1.drew.cell? ⟨wr.heap.size,0,none⟩=some kk):=Lib.hid ⟨q1,heb _ rfl⟩
   have HBL:Hid (0 < L→Calls Tryz.prog 114 #[.pointer (some ⟨tb,0,none⟩),.pointer (some ⟨nb,0,none⟩),.int .i64 k] W1.drew fun e w4=>∃ yb:Nat,e=.returned (.pointer (some ⟨yb,0,none⟩))∧Hid (w4.cell? ⟨nb,1,none⟩=some (.int .i64 L)∧w4.cell? ⟨wr.heap.size,0,none⟩=some kk) ∧
     Hid (Calls Tryz.prog 74 #[.pointer (some ⟨tb,0,none⟩),.pointer (some ⟨yb,0,none⟩),kk,vn] w4 fun e w5=>e=.returned (.bool true)∧Hid (w5.cell? ⟨nb,1,none⟩=some (.int .i64 L)∧w5.cell? ⟨wr.heap.size,0,none⟩=some kk)∧Hid (∃ S5,SoundI J B S c h G w S5 w5))):=Lib.hid fun hL=>by
    rw [HNB.out]
    refine (HR.out.node hL _ hbd).mono ?_
    rintro e w4 ⟨yb,rfl,hk4,hl4,hs⟩
    refine ⟨yb,rfl,Lib.hid ⟨hl4,heb _ (hk4 _ (Nat.le_refl _) (by rw [hzd];omega))⟩,Lib.hid (hs.out.mono ?_)⟩
    rintro e w5 ⟨rfl,hk5,hl5,hI5⟩
    exact ⟨rfl,Lib.hid ⟨hl5,heb _ (hk5 _ (Nat.le_refl _) (by rw [hzd];omega))⟩,Lib.hid hI5⟩
   have f1:IntKind.i64.wrap ((k:Int)+1)=(k:Int)+1:=IntWalk.i64_in _ (by omega)
   have f2:(k:Int) < (N:Int):=by omega
   have f3:(0:Int)≤(k:Int)+1:=by omega
   obtain ⟨eb,heb'⟩:∃ eb,eb=wr.heap.size:=⟨_,rfl⟩
   clear HR HRD HI HI0 HN2 heb hbd hzd hnew hz1 hb1
   have HQ1:=Lib.hid q1
   have HQ:Hid (∀ W:World,(W.cell? ⟨nb,1,none⟩=some (.int .i64 L)∧W.cell? ⟨wr.heap.size,0,none⟩=some kk)→W.cell? ⟨nb,1,none⟩=some (.int .i64 L)∧W.cell? ⟨wr.heap.size,0,none⟩=some kk):=Lib.hid fun _ h=>h
   clear q1
   obtain ⟨bL,hbL⟩:∃ bL,bL=decide (0 < L∧k=0):=⟨_,rfl⟩
   have HBL0:=Lib.hid hbL
   clear hbL
   obtain ⟨bN,hbN⟩:∃ bN,bN=decide (k+1 < N):=⟨_,rfl⟩
   have HBN:=Lib.hid hbN
   clear hbN
   obtain ⟨W0,hW0⟩:∃ W0,W0=wr.alloc (.cells #[.slice Ak lk ck,.slice Av lv cv] 135):=⟨_,rfl⟩
   have z1:W0.cell? ⟨nb,1,none⟩=some (.int .i64 L):=by rw [hW0];exact (((Below.refl _ _).alloc (Nat.le_refl _) _).cell (p:=⟨nb,1,none⟩) hnl).trans q0
   have hn0:W0.heap[wr.heap.size]? = some (.cells #[.slice Ak lk ck,.slice Av lv cv] 135 (0,0)):=by rw [hW0];exact heap_alloc_new wr _
   have z2:W0.cell? ⟨wr.heap.size,0,none⟩=some (.slice Ak lk ck):=by rw [Lib.cell_of_heap hn0];rfl
   have z3:W0.frozen? ⟨wr.heap.size,0,none⟩=false:=by simp [World.frozen?,hn0]
   have HZ:Hid (wr.heap.size < W0.heap.size):=Lib.hid (by rw [hW0];simp)
   have HSET:Hid (W0.setCell ⟨wr.heap.size,0,none⟩ kk=W1):=Lib.hid (by
    rw [hW0,hW1,World.setCell_alloc_at _ _ _ _ _ rfl]
    rfl)
   have HW0:=Lib.hid hW0
   have HW1:=Lib.hid hW1
   have q3:W1.cell? ⟨wr.heap.size,0,none⟩=some kk:=HS0.out.2
   have HQ2:=Lib.hid q2
   have HQ3:=Lib.hid q3
   clear q00 hW0 hW1 hn0 q2 q3
   go_upto_region 4 with fail
   go_cut [30,17] from 17 to 84 (fun b x wx=>b=.bool bL∧x=.int .i64 k∧wx=W0)
   case first =>
    rw [← HW0.out]
    clear e1 e2 q0
    by_cases hL1:0 < L
    ·have g1:(0:Int) < (L:Int):=by omega
     by_cases hk0:k=0
     ·have g2:(k:Int)=0:=by omega
      have hb:=HBL0.out
      rw [decide_eq_true (show 0 < L∧k=0 from ⟨hL1,hk0⟩)] at hb
      subst hb
      clear hk0
      go_wp2_with fail
      go_meet
      exact ⟨by first | rfl | trivial,by first | go_num | trivial,by first | rfl | trivial⟩
     ·have g2:¬ (k:Int)=0:=by omega
      have g3:((k:Int) == 0)=false:=by simp;omega
      have hb:=HBL0.out
      rw [decide_eq_false (show ¬ (0 < L∧k=0) from fun h=>hk0 h.2)] at hb
      subst hb
      clear hk0
      go_wp2_with fail
      go_meet
      exact ⟨by first | rfl | trivial,by first | rfl | trivial,by first | rfl | trivial⟩
    ·have g1:¬ (0:Int) < (L:Int):=by omega
     have hb:=HBL0.out
     rw [decide_eq_false (show ¬ (0 < L∧k=0) from fun h=>hL1 h.1)] at hb
     subst hb
     go_wp2_with fail
     go_meet
     exact ⟨by first | rfl | trivial,by first | rfl | trivial,by first | rfl | trivial⟩
   case rest =>
   obtain ⟨rfl,rfl,hwc⟩:=hcut
   obtain rfl:W0=wc:=hwc.symm
   go_upto_if 30 with fail
   go_cut [17] from 17 to 84 (fun x wx=>x=.int .i64 k∧wx=W1)
   case first =>
    have hkk:=HK.out
    have hset:=HSET.out
    have hbl:=HBL0.out
    clear HK HBL HS0 HQ HC1 HVN1 HVN2 HC2 HLEAF
    cases bL with
    | true =>
     have hp:=of_decide_eq_true hbl.symm
     rw [if_pos hp] at hkk
     subst hkk
     clear hp hbl
     go_wp2_with fail
     go_meet
     exact ⟨by first | rfl | trivial,by first | exact hset | trivial⟩
    | false =>
     have hp:=of_decide_eq_false hbl.symm
     rw [if_neg hp] at hkk
     subst hkk
     have hw:W0=W1:=by rw [HW0.out,HW1.out]
     clear hp hbl hset
     go_wp2_with fail
     go_meet
     exact ⟨by first | rfl | trivial,by first | exact hw | rfl | trivial⟩
   case rest =>
   obtain ⟨rfl,hwc⟩:=hcut
   obtain rfl:W1=wc:=hwc.symm
   clear z1 z2 z3 HSET HW0
   have q1:=HQ1.out
   have q2:=HQ2.out
   go_upto_region 7 with fail
   go_cut [41,17] from 17 to 84 (fun b x wx=>b=.bool bN∧x=.int .i64 k∧wx=W1)
   case first =>
    have hbn:=HBN.out
    clear HK HBL HS0 HQ HC1 HVN1 HVN2 HC2 HLEAF
    by_cases hl:k+1 < N
    ·have f4:(k:Int)+1 < (N:Int):=by omega
     rw [decide_eq_true hl] at hbn
     subst hbn
     go_wp2_with fail
     go_meet
     exact ⟨by first | rfl | trivial,by first | rfl | trivial,by first | rfl | trivial⟩
    ·have f4:¬ (k:Int)+1 < (N:Int):=by omega
     rw [decide_eq_false hl] at hbn
     subst hbn
     go_wp2_with fail
     go_meet
     exact ⟨by first | rfl | trivial,by first | rfl | trivial,by first | rfl | trivial⟩
   case rest =>
   obtain ⟨rfl,rfl,hwc⟩:=hcut
   obtain rfl:W1=wc:=hwc.symm
   go_upto_if 41 with fail
   go_cut [11,17] from 17 to 84 (fun v x wx=>v=vn∧x=.int .i64 k∧wx=W1)
   case first =>
    have hbn:=HBN.out
    clear HK HBL HS0 HQ HC1 HC2 HLEAF
    cases bN with
    | true =>
     have hl:=of_decide_eq_true hbn.symm
     obtain ⟨-,v1⟩:=HVN1.out hl
     have f4:(k:Int)+1 < (N:Int):=by omega
     clear HVN1 HVN2 hbn
     go_wp2_with fail
     go_meet
     exact ⟨by first | rfl | trivial,by first | rfl | trivial,by first | rfl | trivial⟩
    | false =>
     have hl:=of_decide_eq_false hbn.symm
     have hv:=HVN2.out hl
     clear HVN1 HVN2 hbn
     go_wp2_with fail
     go_meet
     exact ⟨hv.symm,by first | rfl | trivial,by first | rfl | trivial⟩
   case rest =>
   obtain ⟨hvv,rfl,hwc⟩:=hcut
   have hvv':=hvv.symm
   clear hvv
   subst hvv'
   obtain rfl:W1=wc:=hwc.symm
   go_upto_region 9 with fail
   go_cut [66,17] from 17 to 84 (fun b x wx=>b=.bool false∧x=.int .i64 k∧wx=W1)
   case first =>
    have q3:=HQ3.out
    clear HK HBL HS0 HQ HVN1 HVN2 HLEAF
    rcases HC2.out with hv | ⟨ad,l2,c2',hv,hc⟩
    ·subst hv
     clear HC2
     go_wp2_with fail
     refine HC1.out.mono ?_
     rintro e w1 ⟨⟨r1,rfl,hr1⟩,hw1⟩
     subst w1
     have hr1':=of_decide_eq_false hr1
     clear HC1
     go_wp2_with fail
     go_meet
     exact ⟨by first | rfl | trivial,by first | rfl | trivial,by first | rfl | trivial⟩
    ·subst hv
     have HC:=Lib.hid hc
     clear HC2 hc
     go_wp2_with fail
     refine HC1.out.mono ?_
     rintro e w1 ⟨⟨r1,rfl,hr1⟩,hw1⟩
     subst w1
     have hr1':=of_decide_eq_false hr1
     clear HC1
     go_wp2_with fail
     refine HC.out.mono ?_
     rintro e w1 ⟨⟨r2,rfl,hr2⟩,hw1⟩
     subst w1
     have hr2':=of_decide_eq_false hr2
     clear HC
     go_wp2_with fail
     go_meet
     exact ⟨by first | rfl | trivial,by first | rfl | trivial,by first | rfl | trivial⟩
   case rest =>
   obtain ⟨rfl,rfl,hwc⟩:=hcut
   obtain rfl:W1=wc:=hwc.symm
   clear HC1 HC2 HVN1 HVN2 HK HBN HBL0 HQ2 HQ3 q2
   by_cases hL:L=0
   ·subst hL
    clear HBL HS0 HQ
    go_wp2
    go_quiet (fail)
    go_wp2
    go_roundw
    case rel=>exact ⟨k+1,by omega,by go_num,Lib.hid (HLEAF.out _)⟩
    case measure=>simp [intOf];omega
   ·have hlp:0 < L:=by omega
    have g1:(0:Int) < (L:Int):=by omega
    clear HLEAF hL
    go_wp2
    have HB1:=Lib.hid (HBL.out hlp)
    clear HBL
    refine wp_region_goes (S:=fun W=>W.cell? ⟨nb,1,none⟩=some (.int .i64 L)∧W.cell? ⟨wr.heap.size,0,none⟩=some kk) [] (by kernel_rfl) ?_
    refine Goes.take (i:=0) (v:=.pointer (some ⟨nb,0,none⟩)) rfl (by kernel_rfl) (by kernel_rfl) (by kernel_rfl) (by kernel_rfl) (fun _ _ _ h=>h) (Or.inl ⟨by rfl,fun W hW=>by go_simp⟩) HS0.out ?_
    refine Goes.take (i:=1) (v:=.pointer (some ⟨nb,0,none⟩)) rfl (by kernel_rfl) (by kernel_rfl) (by kernel_rfl) (by kernel_rfl) (fun _ _ _ h=>h) (Or.inl ⟨by rfl,fun W hW=>by go_simp⟩) HS0.out ?_
    refine Goes.take (i:=2) (v:=.pointer (some ⟨nb,1,none⟩)) rfl (by kernel_rfl) (by kernel_rfl) (by kernel_rfl) (by kernel_rfl) (fun _ _ _ h=>h) (Or.inl ⟨by rfl,fun W hW=>by go_simp⟩) HS0.out ?_
    refine Goes.take (i:=3) (v:=.int .i64 L) rfl (by kernel_rfl) (by kernel_rfl) (by kernel_rfl) (by kernel_rfl) (fun _ _ _ h=>h) (Or.inl ⟨by rfl,fun W hW=>by have x1:=(HQ.out W hW).1;clear hW;go_simp⟩) HS0.out ?_
    refine Goes.take (i:=4) (v:=.bool true) rfl (by kernel_rfl) (by kernel_rfl) (by kernel_rfl) (by kernel_rfl) (fun _ _ _ h=>h) (Or.inl ⟨by rfl,fun W hW=>by go_simp⟩) HS0.out ?_
    refine Goes.take (i:=5) (v:=.bool true) rfl (by kernel_rfl) (by kernel_rfl) (by kernel_rfl) (by kernel_rfl) (fun _ _ _ h=>h) (Or.inl ⟨by rfl,fun W hW=>by go_simp⟩) HS0.out ?_
    refine Goes.take (i:=6) (v:=.pointer (some ⟨tb,0,none⟩)) rfl (by kernel_rfl) (by kernel_rfl) (by kernel_rfl) (by kernel_rfl) (fun _ _ _ h=>h) (Or.inl ⟨by (unfold Region.wanted yielded;go_simp),fun W hW=>by go_simp⟩) HS0.out ?_
    refine Goes.take (i:=7) (v:=.pointer (some ⟨tb,0,none⟩)) rfl (by kernel_rfl) (by kernel_rfl) (by kernel_rfl) (by kernel_rfl) (fun _ _ _ h=>h) (Or.inl ⟨by (unfold Region.wanted yielded;go_simp),fun W hW=>by go_simp⟩) HS0.out ?_
    refine Goes.take (i:=8) (v:=.pointer (some ⟨nb,0,none⟩)) rfl (by kernel_rfl) (by kernel_rfl) (by kernel_rfl) (by kernel_rfl) (fun _ _ _ h=>h) (Or.inl ⟨by (unfold Region.wanted yielded;go_simp),fun W hW=>by go_simp⟩) HS0.out ?_
    refine Goes.take (i:=9) (v:=.int .i64 k) rfl (by kernel_rfl) (by kernel_rfl) (by kernel_rfl) (by kernel_rfl) (fun _ _ _ h=>h) (Or.inl ⟨by (unfold Region.wanted yielded;go_simp),fun W hW=>by go_simp⟩) HS0.out ?_
    refine Goes.take (i:=11) (v:=.pointer (some ⟨wr.heap.size,0,none⟩)) rfl (by kernel_rfl) (by kernel_rfl) (by kernel_rfl) (by kernel_rfl) (fun _ _ _ h=>h) (Or.inl ⟨by (unfold Region.wanted yielded;go_simp),fun W hW=>by go_simp⟩) HS0.out ?_
    refine Goes.take (i:=12) (v:=kk) rfl (by kernel_rfl) (by kernel_rfl) (by kernel_rfl) (by kernel_rfl) (fun _ _ _ h=>h) (Or.inl ⟨by (unfold Region.wanted yielded;go_simp),fun W hW=>by have x1:=(HQ.out W hW).2;clear hW;go_simp⟩) HS0.out ?_
    refine Goes.take (i:=13) (v:=vn) rfl (by kernel_rfl) (by kernel_rfl) (by kernel_rfl) (by kernel_rfl) (fun _ _ _ h=>h) (Or.inl ⟨by (unfold Region.wanted yielded;go_simp),fun W hW=>by go_simp⟩) HS0.out ?_
    refine Goes.ready (rs:=[10]) (by kernel_rfl) (by simp) ?_
    refine AllGo.cons rfl (fun K' hK=>?_) AllGo.nil
    go_simp
    go_at_call 114
    refine HB1.out.mono ?_
    rintro e w4 ⟨yb,rfl,HS4,HSN⟩
    clear HB1
    refine hK.out _ _ (fun _=>HS4.out) ?_
    clear hK K'
    refine Goes.ready (rs:=[14]) (by kernel_rfl) (by simp) ?_
    refine AllGo.cons rfl (fun K' hK=>?_) AllGo.nil
    go_simp
    go_at_call 74
    refine HSN.out.mono ?_
    rintro e w5 ⟨rfl,HS5,HI5⟩
    clear HSN
    refine hK.out _ _ (fun _=>HS5.out) ?_
    clear hK K'
    refine Goes.ready (rs:=[15]) (by kernel_rfl) (by simp) ?_
    refine AllGo.cons rfl (fun K' hK=>?_) AllGo.nil
    go_simp
    refine hK.out _ _ (fun _=>HS5.out) ?_
    clear hK K'
    refine Goes.ready (rs:=[16]) (by kernel_rfl) (by simp) ?_
    refine AllGo.cons rfl (fun K' hK=>?_) AllGo.nil
    go_simp
    refine hK.out _ _ (fun _=>HS5.out) ?_
    clear hK K'
    refine Goes.done (by kernel_rfl) ?_ _
    go_wp2
    go_roundw
    case rel=>exact ⟨k+1,by omega,by go_num,HI5⟩
    case measure=>simp [intOf];omega
  ·obtain rfl:k=N:=by omega
   obtain ⟨S',I⟩:=HI.out
   have c2r:=HN2.out S' wr I
   clear HI HRD HI0 HN2
   have HI:=Lib.hid I
   clear I
   go_wp2
   go_ret
   exact ⟨rfl,S',HI.out.turn,HI.out.act⟩
end
section
variable {J:List RawOp→Prop} {B:Nat} {c:Ac} {h:Hd} {G:Nat→List UInt8} {tb r:Nat}
theorem sound_all:∀ {L:Nat} {t:Tr L} {lo:List UInt8} {hi:Option (List UInt8)} {n0:NO} {vlo vhi:Value} {S:Nat→Prop} {w:World},ActV J B S c h G w→TreeAt w tb c.a r→¬ S tb→NodeO S w n0→(n0.level=L∧n0.ens=t.ens)→Tidy t→Ord t lo hi→Rep (Laid h G) t→BytesO S w vlo lo→HiO S w vhi hi →
  Calls Tryz.prog 74 #[.pointer (some ⟨tb,0,none⟩),n0.ptr,vlo,vhi] w fun e w'=>e=.returned (.bool true)∧ActPost J B S c h G w w'
 | 0,_,_,_,_,_,_,_,_,x,ht,htS,hn,his,htd,hord,_,hlo,hhi=>sound_step (fun h0=>absurd h0 (by omega)) x ht htS hn his htd hord hlo hhi
 | L+1,t,lo,hi,n0,vlo,vhi,S,w,x,ht,htS,hn,his,htd,hord,hR,hlo,hhi=>by
  refine sound_step (fun _ i e S' W kk vn he hA hT hS hn' hk hv=>?_) x ht htS hn his htd hord hlo hhi
  obtain ⟨y,rfl,hy,hty,hoy⟩:=sound_kid htd hord he
  obtain ⟨q1,q2,q3⟩:=(hR.kid y hy).at_
  have hp:=hA.has_lt q1
  have hc:(kEn y).child=y.2.page:=kEn_child y (by omega)
  refine (below_ok hA hT _ n0 hn'.1 hn'.2.1 i (kEn y) (by rw [his.2];exact he) rfl L y.2.ens his.1 (by rw [hc];exact q1) (by rw [hc];exact q2) q3).mono ?_
  rintro e w4 ⟨yn,S4,rfl,hL⟩
  refine ⟨yn.blk,S4,rfl,hL.turn,?_⟩
  exact sound_all hL.act (hT.kept hL.turn.1 hS) (hL.turn.not hT.lt hS) hL.nodeO ⟨hL.info.2.1,hL.info.2.2.1⟩ hty hoy (hR.kid y hy) (hk.turn hL.turn) (hv.turn hL.turn)
end
section
variable {J:List RawOp→Prop} {B:Nat} {S:Nat→Prop} {c:Ac} {h:Hd} {G:Nat→List UInt8} {w:World} {tb r:Nat} {F:List En} {ps:List Nat}
set_option maxHeartbeats 800000 in
theorem check_ok (x:ActV J B S c h G w) (ht:TreeAt w tb c.a r) (htS:¬ S tb) (hr16:r < 16) (on:TreeOn h G (h.root r) F ps) :
  Calls Tryz.prog 30 #[.pointer (some ⟨tb,0,none⟩)] w fun e w'=>e=.returned (.bool true)∧ActPost J B S c h G w w':=by
 have HTOP:=Lib.hid (top_ok x ht hr16)
 have hpo:Hid (∀ W,Below w.heap.size w W→ActPost J B S c h G w W):=Lib.hid fun W hb=>⟨S,Turn.ofBelow hb,x.below hb⟩
 have HLD:Hid (h.root r≠0→∀ k,Calls Tryz.prog 75 #[.pointer (some ⟨tb,0,none⟩),.int .i64 (h.root r)] (w.drewN k) fun e w2=>∃ yb:Nat,e=.returned (.pointer (some ⟨yb,0,none⟩))∧Hid (Calls Tryz.prog 74 #[.pointer (some ⟨tb,0,none⟩),.pointer (some ⟨yb,0,none⟩),.slice none 0 0,.slice none 0 0] w2 fun e w3=>e=.returned (.bool true)∧Hid (∀ W,Below w3.heap.size w3 W→ActPost J B S c h G w W))):=Lib.hid fun hne k=>by
  have hbk:Below w.heap.size w (w.drewN k):=below_drewN w k
  have xk:=x.below hbk
  have htk:=ht.below hbk
  rcases on.is with ⟨_,h0,_⟩ | ⟨m,t,hr,ho,rfl,hpg,rfl,hrep⟩
  ·exact absurd h0 hne
  ·obtain ⟨q1,q2,q3⟩:=hrep.at_
   rw [← hpg]
   refine (load_ok xk htk t.page m t.ens q1 q2 q3).mono ?_
   rintro e w2 ⟨y,S2,rfl,hL⟩
   refine ⟨y.blk,rfl,Lib.hid ?_⟩
   refine (sound_all (lo:=[]) (hi:=none) hL.act (htk.kept hL.turn.1 htS) (hL.turn.not htk.lt htS) hL.nodeO ⟨hL.info.2.1,hL.info.2.2.1⟩ hr.1 ho hrep (BytesV.nil_ _ _) rfl).mono ?_
   rintro e w3 ⟨rfl,S3,hT3,hA3⟩
   refine ⟨rfl,Lib.hid fun W hb=>⟨S3,?_,hA3.below hb⟩⟩
   exact (((Turn.ofBelow hbk).trans hL.turn).trans hT3).trans (Turn.ofBelow hb)
 obtain ⟨rt,hrt⟩:∃ rt,rt=h.root r:=⟨_,rfl⟩
 rw [← hrt] at HTOP HLD
 clear x ht htS on hrt
 go_enter Tryz.func30,Tryz.ntmps30
 go_wp2_with fail
 refine HTOP.out.mono ?_
 rintro e w1 ⟨rfl,k,rfl⟩
 clear HTOP
 by_cases h0:rt=0
 ·subst h0
  clear HLD
  go_wp2
  go_ret
  exact ⟨rfl,hpo.out _ (by first | exact below_drewN w _ | exact (below_drewN w _).drew)⟩
 ·have f1:¬ ((rt:Int)=0):=by omega
  have f2:((rt:Int) == 0)=false:=by simp;omega
  have HL:=Lib.hid (HLD.out h0)
  clear HLD
  go_wp2_with fail
  refine (HL.out k).mono ?_
  rintro e w2 ⟨yb,rfl,HSN⟩
  clear HL
  go_wp2_with fail
  refine HSN.out.mono ?_
  rintro e w3 ⟨rfl,HE⟩
  clear HSN
  go_wp2
  go_ret
  exact ⟨rfl,HE.out _ (Below.refl _ _)⟩
end
def aS:ByteArray:=⟨#[97]⟩
def nowA:List UInt8:=splice noughts 0 aS.data.toList
def hA:Hd:=(Hd.zero.setCount 1).setRoot 3 1
def psA:List Pt:=[⟨1,0,⟨#[]⟩⟩,⟨1,0,aS⟩]
def yA (b:Nat):Dr:=Dr.put ⟨b,true,noughts,noughts⟩ 0 aS.data.toList
theorem short0 (ops:List RawOp) (rs:List ByteArray) (h:JL rs [] ops):(rHd (play ops 2,false)).2.2=true:=by rw [h.2];decide +kernel
theorem new_bad (v:Value) (q:Int) (w:World) (hq:¬ (0≤q∧q < 16)):Calls Tryz.prog 28 #[v,.int .i64 q] w fun e w'=>e=.returned (.tuple #[.pointer none,.int .i64 1])∧w'=w:=by
 by_cases h0:q < 0
 ·clear hq
  go_enter Tryz.func28,Tryz.ntmps28
  go_wp2
  go_ret2
  exact ⟨rfl,rfl⟩
 ·have h1:(16:Int)≤q:=by omega
  clear hq
  go_enter Tryz.func28,Tryz.ntmps28
  go_wp2
  go_ret2
  exact ⟨rfl,rfl⟩
theorem new_nil (q:Int) (w:World) (hq:0≤q∧q < 16):Calls Tryz.prog 28 #[.pointer none,.int .i64 q] w fun e w'=>e=.returned (.tuple #[.pointer none,.int .i64 1])∧w'=w:=by
 have HR:=Lib.hid (aroot_code (.pointer none) 1 w (by omega) (arefuses_nil w) q)
 obtain ⟨h0,h1⟩:=hq
 have h2:¬ q < 0:=by omega
 have h3:¬ (16:Int)≤q:=by omega
 go_enter Tryz.func28,Tryz.ntmps28
 go_wp2_with fail
 refine HR.out.mono ?_
 rintro e w1 ⟨rfl,hw⟩
 subst w1
 go_wp2
 go_ret2
 exact ⟨rfl,rfl⟩
section
variable {J:List RawOp→Prop} {B:Nat} {S:Nat→Prop} {c:Ac} {h:Hd} {G:Nat→List UInt8} {w:World}
set_option maxHeartbeats 800000 in
theorem new_ok (x:ActV J B S c h G w) (r:Nat) (hr:r < 16) :
  Calls Tryz.prog 28 #[.pointer (some ⟨c.a,0,none⟩),.int .i64 r] w fun e w'=>∃ tb,e=.returned (.tuple #[.pointer (some ⟨tb,0,none⟩),.int .i64 0])∧TreeAt w' tb c.a r∧w.heap.size≤tb∧Below w.heap.size w w':=by
 have HRT:=Lib.hid (root_v x r hr)
 have h2:¬ (r:Int) < 0:=by omega
 have h3:¬ (16:Int)≤(r:Int):=by omega
 obtain ⟨rt,hrt⟩:∃ rt,rt=h.root r:=⟨_,rfl⟩
 rw [← hrt] at HRT
 obtain ⟨a,ha⟩:∃ a,a=c.a:=⟨_,rfl⟩
 rw [← ha] at HRT ⊢
 clear x hrt ha
 have HE:Hid (TreeAt (w.alloc (.cells #[.pointer (some ⟨w.heap.size,0,none⟩),.pointer (some ⟨a,0,none⟩),.int .i64 r] 84)) w.heap.size a r∧Below w.heap.size w (w.alloc (.cells #[.pointer (some ⟨w.heap.size,0,none⟩),.pointer (some ⟨a,0,none⟩),.int .i64 r] 84))):=Lib.hid ⟨heap_alloc_new w _,(Below.refl _ _).alloc (Nat.le_refl _) _⟩
 go_enter Tryz.func28,Tryz.ntmps28
 go_wp2_with fail
 refine HRT.out.mono ?_
 rintro e w1 ⟨rfl,hw⟩
 subst w1
 go_wp2
 go_ret2
 exact ⟨_,rfl,HE.out.1,Nat.le_refl _,HE.out.2⟩
end
theorem zero_has (q:Nat):¬ Hd.zero.has q:=fun h=>by
 have h1:=h.1;have h2:=h.2.1
 have h3:Hd.zero.count=0:=rfl
 omega
theorem zero_root (r:Nat):Hd.zero.root r=0:=by
 unfold Hd.root Hd.zero
 simp only [List.getD_eq_getElem?_getD]
 rcases Nat.lt_or_ge r 16 with h | h
 ·rw [List.getElem?_replicate,if_pos h];rfl
 ·rw [List.getElem?_eq_none (by simpa using h)];rfl
def Fresh (B:Nat) (c:Ac) (S:Nat→Prop) (w:World):Prop:=ActV (JL [] []) B S c Hd.zero c.C w∧∀ q,(c.C q).length=512
theorem live_actv {B:Nat} {S3:Nat→Prop} {c:Ac} {h:Hd} {w:World} {m:Nat} {J:List RawOp→Prop} (h3:LiveSt J B S3 c.a c.s c.d c.l c.p c.db m c.n c.C c.N c.last h (fun _=>none) w) (hJ:Saves J) (hN:c.N≤4398046511000) (hT:Tab w) (hB:1≤B):∃ S,ActV J B S c h c.C w:=by
 have hlt:c.a < w.heap.size∧c.s < w.heap.size∧c.l < w.heap.size∧c.db < w.heap.size:=⟨h3.act.ac.lt,h3.act.sp.lt,h3.lg.lt,h3.act.dr.ltM⟩
 obtain ⟨l1,l2,l3,l4,_⟩:=h3.low
 refine ⟨fun k=>S3 k∨k=c.a∨k=c.s∨k=c.l∨k=c.db,⟨m,fun _=>none,S3,h3,fun k hk=>.inl hk,(fun q x hq=>by cases hq),(fun q x hq=>by cases hq),fun q _=>rfl⟩,⟨.inr (.inl rfl),.inr (.inr (.inl rfl)),.inr (.inr (.inr (.inl rfl))),.inr (.inr (.inr (.inr rfl)))⟩,fun k hk=>?_,hJ,hN,hT,hB⟩
 rcases hk with hk | rfl | rfl | rfl | rfl
 ·exact h3.pool.low k hk
 ·exact ⟨l1,hlt.1⟩
 ·exact ⟨l2,hlt.2.1⟩
 ·exact ⟨l3,hlt.2.2.1⟩
 ·exact ⟨l4,hlt.2.2.2⟩
set_option maxHeartbeats 1600000 in
theorem begun_ok (w:World) (hT:Tab w):Calls Tryz.prog 25 #[] w fun e w'=>∃ (c:Ac) (S:Nat→Prop),e=.returned (.tuple #[.pointer (some ⟨c.d,0,none⟩),.pointer (some ⟨c.s,0,none⟩),.pointer (some ⟨c.a,0,none⟩),.bool true])∧Fresh w.heap.size c S w'∧Below w.heap.size w w':=by
 obtain ⟨B,hBe⟩:∃ B,B=w.heap.size:=⟨_,rfl⟩
 have hB1:1≤B:=by rw [hBe];exact hT.1
 have HT:=Lib.hid hT
 have HBE:=Lib.hid hBe
 clear hBe hT
 go_enter Tryz.func25,Tryz.ntmps25
 go_wp2_with fail
 refine (new_disk _).mono ?_
 rintro e w1 ⟨rfl,hd1,hb1⟩
 rw [← HBE.out] at hd1 hb1 ⊢
 have HB1:=Lib.hid hb1
 have HD1:=Lib.hid hd1.bound;clear hd1 hb1
 go_wp2_with fail
 refine (open_sp (J:=JL [] []) (B:=B) (n:=16) (N:=0) [] [] [] HD1.out (fun k hk=>hk) rfl (fun r hr=>by cases hr) (by omega) (by omega) (by simp) ⟨rfl,rfl⟩ rfl (fun i h1=>by simp at h1) (by decide) Hd.zero_ok (Saves.jl _ _) (fun ops h=>short0 ops _ h) (by have:=HB1.out.size;have:=HBE.out;omega)).mono ?_
 rintro e w2 ⟨s,l,p,S2,rfl,hs2,hb2⟩
 have HB2:=Lib.hid (HB1.out.trans hb2);have HS2:=Lib.hid hs2;clear hs2 hb2
 go_wp2_with fail
 refine (begin_sp HS2.out).mono ?_
 rintro e w3 ⟨a,db,rfl,h3,hb3,_⟩
 have HB3:=Lib.hid (HB2.out.trans hb3);have H3:=Lib.hid h3;clear h3 hb3 HS2
 have hT3:Tab w3:=HT.out.below (HB3.out.mono (by have:=HBE.out;omega)) (by have:=HBE.out;have:=HT.out.1;omega)
 have HAV:=Lib.hid (live_actv (c:=⟨a,s,B,l,p,db,16,resN 0 [],resC (fun q=>pageOf (play [] 1) q) [],resH Hd.zero []⟩) H3.out (Saves.jl _ _) (by show resN 0 []≤_;decide) hT3 hB1)
 clear hT3
 go_wp2
 refine bodyPost_ret (v:=.tuple #[.pointer (some ⟨B,0,none⟩),.pointer (some ⟨s,0,none⟩),.pointer (some ⟨a,0,none⟩),.bool true]) (by simp [results,Tryz.results25,go_sem]) rfl ?_
 obtain ⟨S,hA⟩:=HAV.out
 refine ⟨⟨a,s,B,l,p,db,16,resN 0 [],resC (fun q=>pageOf (play [] 1) q) [],resH Hd.zero []⟩,S,rfl,⟨?_,fun q=>?_⟩,by rw [← HBE.out];exact HB3.out⟩
 ·rw [← HBE.out];exact hA
 ·exact pageOf_length _ _
structure Us where
 l:List Nat
 z:Hd→(Nat→List UInt8)→List Nat→Prop
def U0:Us:=⟨[],fun _ _ _=>True⟩
def Us.Ok (U:Us):Prop:=U.l.length≤2000∧∀ h G ps,U.z h G ps
theorem u0_ok:U0.Ok:=⟨Nat.zero_le _,fun _ _ _=>trivial⟩
def TreeSt (J:List RawOp→Prop) (B:Nat) (S:Nat→Prop) (c:Ac) (tb r:Nat) (F:List En) (U:Us) (w:World):Prop :=
 ∃ (h:Hd) (G:Nat→List UInt8) (ps:List Nat),ActV J B S c h G w∧TreeAt w tb c.a r∧¬ S tb∧TreeOn h G (h.root r) F ps∧(∀ q,h.has q→q ∈ ps∨q ∈ U.l)∧U.z h G ps
section
variable {J:List RawOp→Prop} {B:Nat} {S S':Nat→Prop} {c:Ac} {h:Hd} {G:Nat→List UInt8} {w w':World} {tb r:Nat} {F F':List En} {U:Us} {ps:List Nat}
theorem roomy_of {top:Nat} {U:List Nat} (on:TreeOn h G top F ps) (ho:∀ q,h.has q→q ∈ ps∨q ∈ U) (hF:F.length≤1001) (hU:U.length≤2000):Roomy h (ps++U) 16:=by
 refine ⟨fun q hq=>List.mem_append.2 (ho q hq),?_⟩
 have:=on.few
 rw [List.length_append];omega
theorem TreeSt.below (x:TreeSt J B S c tb r F U w) (hb:Below w.heap.size w w'):TreeSt J B S c tb r F U w':=by
 obtain ⟨h,G,ps,h1,h2,h3,h4,h5⟩:=x
 exact ⟨h,G,ps,h1.below hb,h2.below hb,h3,h4,h5⟩
theorem TreeSt.srt (x:TreeSt J B S c tb r F U w):Srt F:=by
 obtain ⟨h,G,ps,h1,h2,h3,h4,h5⟩:=x
 exact h4.srt
def StTo (J:List RawOp→Prop) (B:Nat) (S:Nat→Prop) (c:Ac) (tb r:Nat) (F':List En) (U:Us) (w w':World):Prop:=∃ S',TreeSt J B S' c tb r F' U w'∧Turn S w S' w'
theorem treePost_st (ht:TreeAt w tb c.a r) (htS:¬ S tb) (ho:∀ q,h.has q→q ∈ ps∨q ∈ U.l) (hz:∀ h G ps,U.z h G ps) (hp:TreePost J B S c h G tb r ps F' w w'):StTo J B S c tb r F' U w w':=by
 obtain ⟨h',G',S',ps',h1,h2,h3,h4,h5⟩:=hp
 exact ⟨S',⟨h',G',ps',h1,h3,h2.not ht.lt htS,h4,h5.only ho,hz _ _ _⟩,h2⟩
theorem actPost_st (ht:TreeAt w tb c.a r) (htS:¬ S tb) (on:TreeOn h G (h.root r) F ps) (ho:(∀ q,h.has q→q ∈ ps∨q ∈ U.l)∧U.z h G ps) (hp:ActPost J B S c h G w w'):StTo J B S c tb r F U w w':=by
 obtain ⟨S',hT,hA⟩:=hp
 exact ⟨S',⟨h,G,ps,hA,ht.kept hT.1 htS,hT.not ht.lt htS,on,ho⟩,hT⟩
theorem fresh_st {B:Nat} (hf:Fresh B c S w) {w2:World} (hb:Below w.heap.size w w2) (ht:TreeAt w2 tb c.a r) (htb:w.heap.size≤tb):TreeSt (JL [] []) B S c tb r [] U0 w2:=by
 refine ⟨Hd.zero,c.C,[],hf.1.below hb,ht,fun hs=>?_,?_,fun q hq=>absurd hq (zero_has q),trivial⟩
 ·have:=(hf.1.low _ hs).2;omega
 ·rw [zero_root];exact TreeOn.none_ _ _
theorem ts_put (x:TreeSt J B S c tb r F U w) (hr16:r < 16) (hC:∀ q,(c.C q).length=512) (hF:F.length≤1001) (hU:U.Ok) (key val:ByteArray) (hk1:1≤key.size) (hk2:key.size≤96) (hv:val.size≤32) :
  Calls Tryz.prog 35 #[.pointer (some ⟨tb,0,none⟩),.string key,.string val] w fun e w'=>e=.returned (.tuple #[.bool !(isAt key.data.toList F),.int .i64 0])∧StTo J B S c tb r (insE key.data.toList val.data.toList F) U w w':=by
 obtain ⟨h,G,ps,h1,h2,h3,h4,h5⟩:=x
 exact (put_ok h1 h2 h3 hr16 hC h4 (roomy_of h4 h5.1 hF hU.1) key val hk1 hk2 hv).mono fun e w' hp=>⟨hp.1,treePost_st h2 h3 h5.1 hU.2 hp.2⟩
theorem ts_get (x:TreeSt J B S c tb r F U w) (hr16:r < 16) (key:ByteArray) :
  Calls Tryz.prog 34 #[.pointer (some ⟨tb,0,none⟩),.string key] w fun e w'=>e=.returned (getV key.data.toList F)∧StTo J B S c tb r F U w w':=by
 obtain ⟨h,G,ps,h1,h2,h3,h4,h5⟩:=x
 exact (get_ok h1 h2 h3 hr16 h4 key).mono fun e w' hp=>⟨hp.1,actPost_st h2 h3 h4 h5 hp.2⟩
theorem ts_from (x:TreeSt J B S c tb r F U w) (hr16:r < 16) (key:ByteArray) :
  Calls Tryz.prog 36 #[.pointer (some ⟨tb,0,none⟩),.string key] w fun e w'=>e=.returned (.tuple #[itV (nextE key.data.toList F),.bool (nextE key.data.toList F).isSome])∧StTo J B S c tb r F U w w':=by
 obtain ⟨h,G,ps,h1,h2,h3,h4,h5⟩:=x
 exact (from_ok h1 h2 h3 hr16 h4 key).mono fun e w' hp=>⟨hp.1,actPost_st h2 h3 h4 h5 hp.2⟩
theorem ts_next (x:TreeSt J B S c tb r F U w) (hr16:r < 16) (key:ByteArray) (hk:key.size < 9223372036854775807) :
  Calls Tryz.prog 37 #[.pointer (some ⟨tb,0,none⟩),.string key] w fun e w'=>e=.returned (.tuple #[itV (nextE (key.data.toList++[0]) F),.bool (nextE (key.data.toList++[0]) F).isSome])∧StTo J B S c tb r F U w w':=by
 obtain ⟨h,G,ps,h1,h2,h3,h4,h5⟩:=x
 exact (next_ok h1 h2 h3 hr16 h4 key hk).mono fun e w' hp=>⟨hp.1,actPost_st h2 h3 h4 h5 hp.2⟩
theorem ts_prev (x:TreeSt J B S c tb r F U w) (hr16:r < 16) (key:ByteArray) :
  Calls Tryz.prog 38 #[.pointer (some ⟨tb,0,none⟩),.string key] w fun e w'=>e=.returned (.tuple #[itV (prevE key.data.toList F),.bool (prevE key.data.toList F).isSome])∧StTo J B S c tb r F U w w':=by
 obtain ⟨h,G,ps,h1,h2,h3,h4,h5⟩:=x
 exact (prev_ok h1 h2 h3 hr16 h4 key).mono fun e w' hp=>⟨hp.1,actPost_st h2 h3 h4 h5 hp.2⟩
theorem ts_last (x:TreeSt J B S c tb r F U w) (hr16:r < 16) :
  Calls Tryz.prog 39 #[.pointer (some ⟨tb,0,none⟩)] w fun e w'=>e=.returned (.tuple #[itV F.getLast?,.bool F.getLast?.isSome])∧StTo J B S c tb r F U w w':=by
 obtain ⟨h,G,ps,h1,h2,h3,h4,h5⟩:=x
 exact (last_ok h1 h2 h3 hr16 h4).mono fun e w' hp=>⟨hp.1,actPost_st h2 h3 h4 h5 hp.2⟩
theorem ts_len (x:TreeSt J B S c tb r F U w) (hr16:r < 16) :
  Calls Tryz.prog 41 #[.pointer (some ⟨tb,0,none⟩)] w fun e w'=>e=.returned (.int .i64 F.length)∧StTo J B S c tb r F U w w':=by
 obtain ⟨h,G,ps,h1,h2,h3,h4,h5⟩:=x
 exact (tlen_ok h1 h2 h3 hr16 h4).mono fun e w' hp=>⟨hp.1,actPost_st h2 h3 h4 h5 hp.2⟩
theorem ts_check (x:TreeSt J B S c tb r F U w) (hr16:r < 16) :
  Calls Tryz.prog 30 #[.pointer (some ⟨tb,0,none⟩)] w fun e w'=>e=.returned (.bool true)∧StTo J B S c tb r F U w w':=by
 obtain ⟨h,G,ps,h1,h2,h3,h4,h5⟩:=x
 exact (check_ok h1 h2 h3 hr16 h4).mono fun e w' hp=>⟨hp.1,actPost_st h2 h3 h4 h5 hp.2⟩
theorem StTo.bel (hx:StTo J B S c tb r F U w w') (hS:∀ k,S k→B≤k) (hB:B≤w.heap.size):Below B w w':=by
 obtain ⟨S',_,hT⟩:=hx
 exact hT.1.toBelow hB hS
theorem TreeSt.low (x:TreeSt J B S c tb r F U w):(∀ k,S k→B≤k)∧B≤w.heap.size:=by
 obtain ⟨h,G,ps,h1,_⟩:=x
 exact ⟨fun k hk=>(h1.low k hk).1,h1.size⟩
end
def kB:ByteArray:=⟨#[98]⟩
theorem insB1:insE kB.data.toList (⟨#[49]⟩:ByteArray).data.toList []=[⟨[98],[49]⟩]:=rfl
theorem insB2:insE kB.data.toList (⟨#[50]⟩:ByteArray).data.toList [⟨[98],[49]⟩]=[⟨[98],[50]⟩]:=by
 show insE [98] [50] [⟨[98],[49]⟩]=_
 unfold insE
 rw [if_neg (lt_irrefl _),if_pos rfl]
theorem getB:getV kB.data.toList [⟨[98],[50]⟩]=.tuple #[.string ⟨#[50]⟩,.int .i64 0]:=by
 unfold getV
 rw [if_pos (by decide)];rfl
set_option maxHeartbeats 3200000 in
theorem tlaw_awake (w:World) (hT:Tab w):Calls Tryz.prog 27 #[] w fun e w'=>e=.returned (.bool true)∧Below w.heap.size w w':=by
 obtain ⟨B,hBe⟩:∃ B,B=w.heap.size:=⟨_,rfl⟩
 have HT:=Lib.hid hT
 have HBE:=Lib.hid hBe
 rw [← hBe]
 clear hBe hT
 go_enter Tryz.func27,Tryz.ntmps27
 go_wp2_with fail
 refine (begun_ok w HT.out).mono ?_
 rintro e w1 ⟨c,S,rfl,hf,hb1⟩
 rw [← HBE.out] at hf hb1
 have HF:=Lib.hid hf
 have HB1:=Lib.hid hb1
 have HC:=Lib.hid hf.2
 clear hf hb1
 go_wp2_with fail
 refine (new_ok HF.out.1 2 (by omega)).mono ?_
 rintro e w2 ⟨tb,rfl,ht,htb,hb2⟩
 have HS2:=Lib.hid (fresh_st HF.out hb2 ht htb)
 have HB2:=Lib.hid (HB1.out.trans (hb2.mono HF.out.1.size))
 clear ht htb hb2 HF HB1
 go_wp2_with fail
 refine (ts_put HS2.out (by omega) HC.out (by simp) u0_ok kB ⟨#[49]⟩ (by decide) (by decide) (by decide)).mono ?_
 rintro e w3 ⟨rfl,h3⟩
 rw [insB1] at h3
 have HB3:=Lib.hid (HB2.out.trans (h3.bel HS2.out.low.1 HS2.out.low.2))
 obtain ⟨S3,h3,-⟩:=h3
 have HS3:=Lib.hid h3
 clear h3 HS2 HB2
 rw [show (!isAt kB.data.toList [])=true from rfl]
 go_wp2_with fail
 refine (ts_put HS3.out (by omega) HC.out (by simp) u0_ok kB ⟨#[50]⟩ (by decide) (by decide) (by decide)).mono ?_
 rintro e w4 ⟨rfl,h4⟩
 rw [insB2] at h4
 have HB4:=Lib.hid (HB3.out.trans (h4.bel HS3.out.low.1 HS3.out.low.2))
 obtain ⟨S4,h4,-⟩:=h4
 have HS4:=Lib.hid h4
 clear h4 HS3 HB3
 rw [show (!isAt kB.data.toList [⟨[98],[49]⟩])=false from by decide]
 go_wp2_with fail
 refine (ts_get HS4.out (by omega) kB).mono ?_
 rintro e w5 ⟨rfl,h5⟩
 have HB5:=Lib.hid (HB4.out.trans (h5.bel HS4.out.low.1 HS4.out.low.2))
 obtain ⟨S5,h5,-⟩:=h5
 have HS5:=Lib.hid h5
 clear h5 HS4 HB4
 rw [getB]
 go_wp2_with fail
 refine (ts_from HS5.out (by omega) ⟨#[]⟩).mono ?_
 rintro e w6 ⟨rfl,h6⟩
 have HB6:=Lib.hid (HB5.out.trans (h6.bel HS5.out.low.1 HS5.out.low.2))
 obtain ⟨S6,h6,-⟩:=h6
 have HS6:=Lib.hid h6
 clear h6 HS5 HB5
 rw [show nextE (⟨#[]⟩:ByteArray).data.toList [⟨[98],[50]⟩]=some ⟨[98],[50]⟩ from rfl,show itV (some ⟨[98],[50]⟩)=.agg #[.string ⟨#[98]⟩,.string ⟨#[50]⟩] from rfl,show (some (⟨[98],[50]⟩:En)).isSome=true from rfl]
 have HCK:Hid (∀ W,Below w6.heap.size w6 W→Calls Tryz.prog 30 #[.pointer (some ⟨tb,0,none⟩)] W fun e w'=>e=.returned (.bool true)∧Below B w w'):=Lib.hid fun W hb=>by
  have hs:=HS6.out.below hb
  refine (ts_check hs (by omega)).mono ?_
  rintro e w7 ⟨rfl,h7⟩
  exact ⟨rfl,(HB6.out.trans (hb.mono HS6.out.low.2)).trans (h7.bel hs.low.1 hs.low.2)⟩
 clear HS6 HB6
 go_wp2_with fail
 refine (HCK.out _ ((Below.refl _ _).alloc (Nat.le_refl _) _)).mono ?_
 rintro e w7 ⟨rfl,hb7⟩
 have HB7:=Lib.hid hb7
 clear hb7 HCK
 go_wp2
 go_ret
 exact ⟨rfl,HB7.out⟩
end Go.Proofs.YtfbbjiidccbaiaaGreatDoor
