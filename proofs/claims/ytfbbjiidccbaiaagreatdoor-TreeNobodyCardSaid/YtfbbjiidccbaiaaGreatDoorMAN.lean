/- Texts of one proof, one behind the other: UX, UY, UZ, VA, VB, VC, VD, VE, VF, VG, VH. -/
import Derived.Test.YtfbbjiidccbaiaaGreatDoorMAM
import Derived.Deep.RegionLaw
import Derived.Test.YtfbbjiidccbaiaaGreatDoorMAI
set_option maxRecDepth 100000
namespace Go.Proofs.YtfbbjiidccbaiaaGreatDoor
open Go.RowKit
def KidsR (P:Nat→Nat→List En→Prop):{l:Nat}→Tr l→Prop
 | 0,_=>True
 | _+1,t=>∀ y ∈ t.ks,Rep P y.2
theorem rep_kids {P:Nat→Nat→List En→Prop} {l:Nat} {t:Tr l} (h:P t.page l t.ens) (hk:KidsR P t):Rep P t:=by
 cases l with
 | zero=>exact h
 | succ l=>exact Rep.mk h hk
section
variable {K:Kc} {s0 s s':Hst} {w w':World} {F:List En} {P born dead:List Nat}
structure Ist (K:Kc) (s0 s:Hst) {l:Nat} (z:Zip l) (c:Tr l) (had:Nat) (F:List En) (P born dead:List Nat) (pre:List (NO × Nat)) (xc:NO) (w:World):Prop where
 H:Hnd K s w
 mid:Mid z c had F P born dead
 on:z.On c.page pre.reverse
 reps:z.Reps (Cur s)
 kids:KidsR (Cur s) c
 nodes:∀ st ∈ pre,s.M st.1.page=some st.1∧st.1.page < 4096
 x:s.M c.page=some xc∧xc.level=l∧xc.ens=c.ens∧xc.sole=true∧(z.In→xc.had=had)
 gn:s.gn=dead
 has:∀ q,s.h.has q ↔ s0.h.has q∨q ∈ born
 new:(P++born).Nodup∧(∀ q ∈ P,q=0∨s0.h.has q)∧(∀ q ∈ born,1≤q∧¬ s0.h.has q)
 fram:Fram2 s0 s (P++born)
 room:∃ U,Roomy s.h U (pre.length+1)
theorem on_pages:∀ {l:Nat} {z:Zip l} {q:Nat} {sts:List (NO × Nat)},z.On q sts→∀ st ∈ sts,st.1.page ∈ z.pg
 | _,.top _,_,_,h,st,hst=>by rw [show _=[] from h] at hst;cases hst
 | _,.up p A k B z,_,_,h,st,hst=>by
  obtain ⟨x,rest,rfl,hp,_,_,_,_,_,ho⟩:=h
  rcases List.mem_cons.1 hst with rfl | hst
  ·simp [Zip.pg,hp]
  ·have:=on_pages ho st hst
   simp [Zip.pg,this]
variable {l p:Nat} {A:List (Kid l)} {k:List UInt8} {B:List (Kid l)} {z:Zip (l+1)} {c:Tr l} {had:Nat} {pre:List (NO × Nat)} {xc:NO}
theorem Ist.step (h:Ist K s0 s (.up p A k B z) c had F P born dead pre xc w):∃ pre' x,pre=pre'++[(x,A.length)]∧x.page=p∧x.level=l+1∧x.ens=(A++(k,c) :: B).map kEn∧(z.In→x.had=szU A k B)∧z.On p pre'.reverse∧FitIn K s p x A k c B had xc w:=by
 obtain ⟨x,rest,hsts,hp,hl,he,hh,hs,hcap,ho⟩:=h.on
 have hpre:pre=rest.reverse++[(x,A.length)]:=by
  have:=congrArg List.reverse hsts
  rwa [List.reverse_reverse,List.reverse_cons] at this
 have hxM:=h.nodes (x,A.length) (by rw [hpre];simp)
 simp only at hxM
 rw [hp] at hxM
 have hpm:=h.mid.perm
 have hnd:=hpm.nodup_iff.2 h.new.1
 have hpg:1≤c.page∧c.page < 4096:=h.mid.page
 have hra:(pgK (A++(k,c) :: B)).Nodup∧p ∉ pgK (A++(k,c) :: B):=by
  simp only [Zip.pg] at hnd
  have hq:(c.pages++(pgK A++(pgK B++p :: z.pg)++dead)).Perm (p :: (pgK (A++(k,c) :: B)++(z.pg++dead))):=by
   rw [List.perm_iff_count]
   intro j
   rw [pgK_app,pgK_cons]
   simp only [List.count_append,List.count_cons]
   omega
  have hn2:=hq.nodup_iff.1 hnd
  rw [List.nodup_cons,List.nodup_append] at hn2
  exact ⟨hn2.2.1,fun hm=>hn2.1 (List.mem_append.2 (.inl hm))⟩
 refine ⟨rest.reverse,x,hpre,hp,hl,by rw [he];exact ens_mid.symm,hh,by rw [List.reverse_reverse];exact ho,?_⟩
 refine ⟨h.H,hxM.1,hs,hl,by rw [he];exact ens_mid.symm,hcap,h.mid.pre,by have h1:=h.mid.size;have h2:=h.mid.hadle;omega,?_,⟨h.x.1,h.x.2.1,h.x.2.2.1,h.x.2.2.2.1,h.x.2.2.2.2 trivial⟩,fun y hy=>?_,hra.1,⟨hra.2,hxM.2,?_⟩,h.mid.ok.2.1⟩
 ·obtain ⟨lo,hi,_,ho⟩:=h.mid.ord
  exact ⟨lo,hi,ho⟩
 ·simp only [List.mem_append,List.mem_cons] at hy
  rcases hy with hy | rfl | hy
  ·exact h.reps.1 y hy
  ·exact rep_kids (cur_some hpg.1 hpg.2 h.x.1 h.x.2.1 h.x.2.2.1) h.kids
  ·exact h.reps.2.1 y hy
 ·rcases Nat.eq_zero_or_pos p with e | e
  ·exact .inr e
  ·exact .inl (h.H.was p x hxM.1 e hxM.2).2.1
theorem Ist.next (h:Ist K s0 s (.up p A k B z) c had F P born dead pre xc w) {pre':List (NO × Nat)} {x:NO} (hpre:pre=pre'++[(x,A.length)]) (hp:x.page=p) (hl:x.level=l+1) (hh:z.In→x.had=szU A k B) (ho:z.On p pre'.reverse) {n':NO} {ks':List (Kid l)} {b d:List Nat} (hf:FitOut K s p x A k c B had s' n' ks' b d w') :
  Ist K s0 s' z (.node p ks') (szU A k B) F P (born++b) (dead++d) pre' n' w':=by
 have hm:=h.mid.fit hf.fit
 have hpm:=h.mid.perm
 have hnd:=hpm.nodup_iff.2 h.new.1
 have hb:b.length≤1∧∀ q ∈ b,1≤q:=by
  rcases hf.fit with ⟨_,_,rfl,_⟩ | ⟨_,q,_,_,_,_,_,_,_,_,_,hq,_,_,_,rfl,_⟩ | ⟨_,_,_,_,_,_,_,_,rfl,_⟩ | ⟨_,_,_,_,rfl,_⟩
  ·exact ⟨by simp,fun q hq=>by cases hq⟩
  ·exact ⟨by simp,fun j hj=>by rw [List.mem_singleton] at hj;omega⟩
  ·exact ⟨by simp,fun q hq=>by cases hq⟩
  ·exact ⟨by simp,fun q hq=>by cases hq⟩
 have hbn:b.Nodup:=by
  match b,hb.1 with
  | [],_=>simp
  | [_],_=>simp
 have hfresh:∀ q ∈ b,q ∉ P++born:=fun q hq hm=>by
  have h1:=hf.new q hq
  rcases List.mem_append.1 hm with hm | hm
  ·rcases h.new.2.1 q hm with e | e
   ·have:=hb.2 q hq;omega
   ·exact h1 ((h.has q).2 (.inl e))
  ·exact h1 ((h.has q).2 (.inr hm))
 have hnew:(P++(born++b)).Nodup:=by
  rw [← List.append_assoc,List.nodup_append]
  refine ⟨h.new.1,hbn,fun a ha j hj e=>hfresh j hj (e ▸ ha)⟩
 have hset:∀ q ∈ z.pg,q ∉ p :: (pgK (A++(k,c) :: B)++b):=fun q hq hc=>by
  have hqo:q ∈ P++born:=hpm.mem_iff.1 (by simp [Zip.pg,hq])
  have hq2:(c.pages++(pgK A++(pgK B++p :: z.pg)++dead)).Perm ((p :: pgK (A++(k,c) :: B))++(z.pg++dead)):=by
   rw [List.perm_iff_count]
   intro j
   rw [pgK_app,pgK_cons]
   simp only [List.cons_append,List.count_append,List.count_cons]
   omega
  have hn2:=hq2.nodup_iff.1 hnd
  rw [List.nodup_append] at hn2
  rcases List.mem_cons.1 hc with rfl | hc
  ·exact hn2.2.2 q (by simp) q (by simp [hq]) rfl
  ·rcases List.mem_append.1 hc with hc | hc
   ·exact hn2.2.2 q (List.mem_cons_of_mem _ hc) q (by simp [hq]) rfl
   ·exact hfresh q hc hqo
 have hlow:∀ q ∈ p :: (pgK (A++(k,c) :: B)++b),q ∈ P++(born++b):=fun q hq=>by
  rcases List.mem_cons.1 hq with rfl | hq
  ·have:q ∈ P++born:=hpm.mem_iff.1 (by simp [Zip.pg])
   rw [← List.append_assoc];exact List.mem_append.2 (.inl this)
  ·rcases List.mem_append.1 hq with hq | hq
   ·have:q ∈ P++born:=hpm.mem_iff.1 (by
     rw [pgK_app,pgK_cons] at hq
     simp only [List.mem_append] at hq
     simp only [Zip.pg,List.mem_append]
     rcases hq with hq | hq | hq
     ·exact .inr (.inl (.inl hq))
     ·exact .inl hq
     ·exact .inr (.inl (.inr (.inl hq))))
    rw [← List.append_assoc];exact List.mem_append.2 (.inl this)
   ·simp [hq]
 have hpo:=on_pages ho
 refine ⟨hf.H,hm,ho,h.reps.2.2.congr fun q hq _ _ hc=>hc.fram2 hf.fram (hset q hq),hf.rep,fun st hst=>?_,⟨hf.M,hf.is.2.2.1.trans hl,by rw [hf.is.2.2.2.1,ens_node,node_ks],hf.is.2.2.2.2.1,fun hz=>hf.is.2.2.2.2.2.2.trans (hh hz)⟩,by rw [hf.gn,h.gn],fun q=>?_,⟨hnew,h.new.2.1,fun q hq=>?_⟩,?_,?_⟩
 ·have h1:=h.nodes st (by rw [hpre];simp [hst])
  refine ⟨?_,h1.2⟩
  rw [hf.fram.M _ h1.2 (hset _ (hpo st (List.mem_reverse.2 hst)))];exact h1.1
 ·rw [hf.has q,h.has q,List.mem_append,or_assoc]
 ·rcases List.mem_append.1 hq with hq | hq
  ·exact h.new.2.2 q hq
  ·exact ⟨hb.2 q hq,fun e=>hf.new q hq ((h.has q).2 (.inl e))⟩
 ·refine (h.fram.mono fun q hq=>?_).trans (hf.fram.mono hlow)
  rw [← List.append_assoc];exact List.mem_append.2 (.inl hq)
 ·obtain ⟨U,h1,h2⟩:=h.room
  refine ⟨b++U,fun q hq=>?_,?_⟩
  ·rcases (hf.has q).1 hq with e | e
   ·exact List.mem_append.2 (.inr (h1 q e))
   ·exact List.mem_append.2 (.inl e)
  ·rw [hpre,List.length_append] at h2
   rw [List.length_append]
   simp only [List.length_singleton] at h2
   have:=hb.1
   omega
theorem Hnd.wayAt (H:Hnd K s w) {j:Nat} {x:NO} {a:Nat} (hj:K.way[j]? = some (x,a)):∃ g cap,K.wv=.slice (some ⟨g,0,none⟩) K.way.length cap∧w.cell? ⟨g,j*2,none⟩=some x.ptr∧w.cell? ⟨g,j*2+1,none⟩=some (.int .i64 a):=by
 have hlt:=(List.getElem?_eq_some_iff.1 hj).1
 have hw:=H.way.1
 rcases hw.2 with ⟨_,h0⟩ | ⟨g,cap,cur,hv,_,hh,_,_,_,htk⟩
 ·omega
 ·have hc:∀ (l:List (NO × Nat)) (j:Nat),l[j]? = some (x,a)→(l.flatMap stC)[j*2]? = some x.ptr∧(l.flatMap stC)[j*2+1]? = some (.int .i64 a):=by
   intro l
   induction l with
   | nil=>intro j hj;cases hj
   | cons y r ih =>
    intro j hj
    cases j with
    | zero =>
     simp only [List.getElem?_cons_zero,Option.some.injEq] at hj
     subst hj
     simp [stC]
    | succ j =>
     have:=ih j (by simpa using hj)
     rw [List.flatMap_cons]
     have e1:(j+1)*2=(stC y).length+j*2:=by simp [stC];omega
     rw [e1,List.getElem?_append_right (by omega),Nat.add_sub_cancel_left,Nat.add_assoc,List.getElem?_append_right (by omega),Nat.add_sub_cancel_left]
     exact this
  obtain ⟨c1,c2⟩:=hc K.way j hj
  refine ⟨g,cap,hv,?_,?_⟩
  ·rw [← htk,List.getElem?_take,if_pos (by omega)] at c1
   rw [Lib.cell_of_heap hh,← Array.getElem?_toList];exact c1
  ·rw [← htk,List.getElem?_take,if_pos (by omega)] at c2
   rw [Lib.cell_of_heap hh,← Array.getElem?_toList];exact c2
end
section
variable {K:Kc} {s0:Hst} {w:World} {F:List En} {P:List Nat}
def Zip.Hat:{l:Nat}→Zip l→Nat→Nat→Prop
 | l,.top _,p,had=>1≤l∧p=0∧had≤380
 | _,.up p A k B z,_,_=>z.Hat p (szU A k B)
def Lop (K:Kc) (s0:Hst) (F:List En) (P:List Nat) (j:Nat) (w:World):Prop :=
 ∃ (l:Nat) (z:Zip l) (c:Tr l) (had:Nat) (born dead:List Nat) (pre:List (NO × Nat)) (xc:NO) (s:Hst) (y:NO) (a:Nat),Ist K s0 s z c had F P born dead pre xc w∧pre=K.way.take j∧j < K.way.length∧K.way[j]? = some (y,a)∧y.blk=xc.blk∧y.was=xc.was∧z.Hat c.page had
theorem Lop.hnd {j:Nat} (h:Lop K s0 F P j w):∃ s,Hnd K s w:=by
 obtain ⟨l,z,c,had,born,dead,pre,xc,s,y,a,h,_⟩:=h
 exact ⟨s,h.H⟩
theorem Lop.round {j:Nat} (h:Lop K s0 F P (j+1) w):∃ (nb g cap a:Nat),K.wv=.slice (some ⟨g,0,none⟩) K.way.length cap∧w.cell? ⟨g,j*2,none⟩=some (.pointer (some ⟨nb,0,none⟩))∧w.cell? ⟨g,j*2+1,none⟩=some (.int .i64 (a:Nat))∧w.cell? ⟨K.cb,2,none⟩=some K.wv∧j < K.way.length ∧
  ∀ W,Below w.heap.size w W→Calls Tryz.prog 122 #[.pointer (some ⟨K.cb,0,none⟩),.pointer (some ⟨nb,0,none⟩),.int .i64 (a:Nat)] W fun e w'=>e=.returned (.int .i64 0)∧Hid (Lop K s0 F P j w'):=by
 obtain ⟨l,z,c,had,born,dead,pre,xc,s,y,a,h,hpre,hjl,hw,hb,hws,hat⟩:=h
 have hlen:pre.length=j+1:=by rw [hpre,List.length_take];omega
 cases z with
 | top _ =>
  exfalso
  have:=h.on
  have:pre.reverse=[]:=this
  rw [List.reverse_eq_nil_iff] at this
  rw [this] at hlen;simp at hlen
 | up p A k B z =>
  obtain ⟨pre',x,hp1,hxp,hxl,hxe,hxh,hon,hF⟩:=h.step
  have hl':pre'.length=j:=by rw [hp1,List.length_append] at hlen;simpa using hlen
  have hj:K.way[j]? = some (x,A.length):=by
   have h1:(K.way.take (j+1))[j]? = some (x,A.length):=by
    rw [← hpre,hp1,List.getElem?_append_right (by omega),hl',Nat.sub_self];rfl
   rw [List.getElem?_take,if_pos (by omega)] at h1
   exact h1
  have hp':pre'=K.way.take j:=by
   have h1:(K.way.take (j+1)).take j=pre':=by rw [← hpre,hp1,List.take_append_of_le_length (by omega),List.take_of_length_le (by omega)]
   rw [List.take_take,Nat.min_eq_left (by omega)] at h1
   exact h1.symm
  obtain ⟨g,cap,hv,c1,c2⟩:=h.H.wayAt hj
  obtain ⟨U,hr⟩:=h.room
  have hlp:pre.length+1=(pre'.length+1)+1:=by rw [hp1];simp
  rw [hlp] at hr
  refine ⟨x.blk,g,cap,A.length,hv,c1,c2,h.H.cb2,by omega,fun W hbW=>?_⟩
  refine (fit_h (hF.below (h.H.below hbW)) hr).mono ?_
  rintro e w' ⟨rfl,s',n',ks',b,d,hO⟩
  exact ⟨rfl,Lib.hid ⟨l+1,z,_,_,_,_,pre',n',s',x,A.length,h.next hp1 hxp hxl hxh hon hO,hp',by omega,hj,hO.is.1.symm,hO.is.2.2.2.2.2.1.symm,hat⟩⟩
set_option maxHeartbeats 6400000 in
theorem settle_walk {QQ:Ending→World→Prop} (hway:2≤K.way.length∧K.way.length≤1000) (h0:Lop K s0 F P (K.way.length - 1) w)
  (hend:∀ w1,Lop K s0 F P 0 w1→Calls Tryz.prog 124 #[.pointer (some ⟨K.cb,0,none⟩)] w1 fun e w2=>∃ r:Nat,e=.returned (.tuple #[.int .i64 r,.int .i64 0])∧Calls Tryz.prog 125 #[.pointer (some ⟨K.cb,0,none⟩)] w2 fun e w3=>e=.returned (.tuple #[]) ∧
   w3.cell? ⟨K.cb,0,none⟩=some (.pointer (some ⟨K.tb,0,none⟩))∧w3.cell? ⟨K.tb,1,none⟩=some (.pointer (some ⟨K.c.a,0,none⟩))∧w3.cell? ⟨K.tb,2,none⟩=some (.int .i64 K.r) ∧
   Calls Tryz.prog 18 #[.pointer (some ⟨K.c.a,0,none⟩),.int .i64 K.r,.int .i64 r] w3.drew fun e w4=>∃ er:Int,e=.returned (.int .i64 er)∧Hid (QQ (.returned (.int .i64 er)) w4)) :
  Calls Tryz.prog 81 #[.pointer (some ⟨K.cb,0,none⟩)] w QQ:=by
 obtain ⟨s,hH⟩:=h0.hnd
 obtain ⟨j0,hj0⟩:∃ j,K.way.length=j+2:=⟨K.way.length - 2,by omega⟩
 have hR0:Hid (Lop K s0 F P (j0+1) w):=Lib.hid (by have:=h0;rw [show K.way.length - 1=j0+1 by omega] at this;exact this)
 obtain ⟨nb,g,cap,a,hwv,hx⟩:=hR0.out.round
 clear hx
 have c2:=hH.cb2
 rw [hwv,hj0] at c2
 have HRD:Hid (∀ (j:Nat) (wr:World),Lop K s0 F P (j+1) wr→∃ (nb a:Nat),wr.cell? ⟨g,j*2,none⟩=some (.pointer (some ⟨nb,0,none⟩))∧wr.cell? ⟨g,j*2+1,none⟩=some (.int .i64 (a:Nat))∧wr.cell? ⟨K.cb,2,none⟩=some (.slice (some ⟨g,0,none⟩) (j0+2) cap)∧j < j0+2 ∧
   ∀ W,Below wr.heap.size wr W→Calls Tryz.prog 122 #[.pointer (some ⟨K.cb,0,none⟩),.pointer (some ⟨nb,0,none⟩),.int .i64 (a:Nat)] W fun e w'=>e=.returned (.int .i64 0)∧Hid (Lop K s0 F P j w')):=Lib.hid fun j wr h=>by
  obtain ⟨nb',g',cap',a',h1,h2,h3,h4,h5,h6⟩:=h.round
  rw [hwv,hj0] at h1
  injection h1 with e1 _ e2
  injection e1 with e1
  injection e1 with e1
  subst e1 e2
  rw [hj0] at h5
  rw [hwv,hj0] at h4
  exact ⟨nb',a',h2,h3,h4,h5,h6⟩
 have HEND:=Lib.hid hend
 have hjb:j0+2≤1000:=by omega
 clear hend h0 hH hway hwv
 go_enter Tryz.func81,Tryz.ntmps81
 go_wp2
 go_loopw [3] (fun i wr=>∃ j:Nat,j≤j0+1∧i=.int .i64 ((j:Int) - 1)∧Hid (Lop K s0 F P j wr)) (fun i _=>(intOf i+1).toNat)
 case atStart=>exact ⟨j0+1,by omega,by go_num,hR0⟩
 case round =>
  obtain ⟨j,hj,rfl,HL⟩:=hrel
  cases j with
  | zero =>
   have HE:=Lib.hid (HEND.out wr HL.out)
   clear HEND HRD HL hR0 c2
   go_wp2_with fail
   refine HE.out.mono ?_
   rintro e w2 ⟨r,rfl,h2⟩
   have H2:=Lib.hid h2
   clear h2 HE
   go_wp2_with fail
   refine H2.out.mono ?_
   rintro e w3 ⟨rfl,x0,t1,t2,h3⟩
   have H3:=Lib.hid h3
   clear h3 H2
   go_wp2
   go_still_tail 15,(by kernel_rfl)
   go_wp2_with fail
   refine H3.out.mono ?_
   rintro e w4 ⟨er,rfl,h4⟩
   go_wp2
   exact h4.out
  | succ m =>
   obtain ⟨nb2,a2,d1,d2,d3,d4,hF⟩:=HRD.out m wr HL.out
   have HF:=Lib.hid (hF _ (Below.refl wr.heap.size wr).drew)
   have hm:((m+1:Nat):Int) - 1=(m:Int):=by omega
   have d5:decide (m < j0+2)=true:=decide_eq_true d4
   have d6:(m:Int) < (j0:Int)+2:=by omega
   rw [hm]
   clear hF HEND HRD HL hR0 c2 hm
   go_wp2
   go_still_tail 17,(by kernel_rfl)
   go_wp2_with fail
   refine HF.out.mono ?_
   rintro e w2 ⟨rfl,H2⟩
   go_wp2
   go_roundw
   case rel=>exact ⟨m,by omega,by go_num,H2⟩
   case measure=>simp [intOf]
end
section
variable {K:Kc} {s:Hst} {w w' W w3:World}
theorem Hnd.park (H:Hnd K s w) {q m:Nat} {x:NO} (hq:1≤q∧q < 4096) (hM:s.M q=some x) (hk:Kept (fun k=>k=K.mb) w w') (hm:KMap w' K.mb m (upd (ptrs s.M) q none)) :
  ∃ ρ',Hnd K { s with M:=upd (upd s.M q none) 4096 (some x),ρ:=ρ' } w':=by
 have hn:=H.node q x hM
 have hT:∀ k,k < w.heap.size→k=K.mb→s.ρ k=3∨s.ρ k=8+2*q∨s.ρ k=9+2*q:=fun k _ e=>.inl (e ▸ H.map.2)
 have hpe:ptrs (upd (upd s.M q none) 4096 (some x))=upd (ptrs s.M) q none:=by
  have:ptrs (upd (upd s.M q none) 4096 (some x))=ptrs (upd s.M q none):=ptrs_same fun j h1 h2=>by rw [upd_other _ _ (by omega)]
  rw [this,ptrs_upd _ hq];rfl
 have hz0:∀ k,(if s.ρ k=8+2*q then 8+2*4096 else if s.ρ k=9+2*q then 9+2*4096 else s.ρ k)≠0 ↔ s.ρ k≠0:=fun k=>by
  split
  ·omega
  ·split <;> omega
 refine ⟨fun k=>if s.ρ k=8+2*q then 8+2*4096 else if s.ρ k=9+2*q then 9+2*4096 else s.ρ k,H.step (T:=fun k=>k=K.mb) (R:=fun r=>r=3∨r=8+2*q∨r=9+2*q) hk hT (by omega) (fun k _=>?_) (fun k hk'=>Nat.lt_of_lt_of_le (H.lt k ((hz0 k).1 hk')) hk.size) (.inl ⟨by omega,rfl,rfl,rfl⟩) (.inl ⟨by omega,rfl,rfl⟩) (.inr ⟨⟨m,by show KMap w' K.mb m (ptrs (upd (upd s.M q none) 4096 (some x)));rw [hpe];exact hm⟩,?_⟩) (by omega) (.inl ⟨by omega,rfl,rfl⟩) (.inl ⟨by omega,rfl,rfl⟩) (fun j y hj=>?_) (fun j y hj h1 h2=>?_) ⟨H.gok.1,fun j hj=>⟨(H.gok.2 j hj).1,?_⟩⟩ H.tok⟩
 ·dsimp only
  split
  ·right;omega
  ·split
   ·right;omega
   ·left;rfl
 ·dsimp only
  rw [H.map.2,if_neg (by omega),if_neg (by omega)]
 ·dsimp only at hj
  by_cases hjq:j=4096
  ·subst hjq
   rw [upd_same] at hj
   cases hj
   have e:(fun k=>(if s.ρ k=8+2*q then 8+2*4096 else if s.ρ k=9+2*q then 9+2*4096 else s.ρ k)≠0)=fun k=>s.ρ k≠0:=by
    funext k
    exact propext (hz0 k)
   refine .inr ⟨?_,?_,fun ad ha=>?_⟩
   ·dsimp only
    rw [e]
    refine hn.at_.kept hk (fun k _ h=>by rw [h,H.map.2];omega) (fun _ _ h=>h) (fun _ h=>h) (fun h=>?_) (fun ad ha _ h=>?_)
    ·have h1:=hn.blk
     rw [h,H.map.2] at h1
     omega
    ·have h1:=hn.row ad ha
     rw [h,H.map.2] at h1
     split at h1 <;> omega
   ·dsimp only
    rw [if_pos hn.blk]
   ·dsimp only
    have h1:=hn.row ad ha
    by_cases hs:x.sole=true
    ·rw [if_pos hs] at h1 ⊢
     rw [if_neg (by omega),if_pos h1]
    ·rw [if_neg hs] at h1 ⊢
     rw [if_neg (by omega),if_neg (by omega)];exact h1
  ·rw [upd_other _ _ hjq] at hj
   by_cases hji:j=q
   ·subst hji;rw [upd_same] at hj;cases hj
   ·rw [upd_other _ _ hji] at hj
    exact .inl ⟨hj,by omega,by omega,by omega⟩
 ·dsimp only at hj
  rw [upd_other _ _ (by omega)] at hj
  by_cases hjq:j=q
  ·subst hjq;rw [upd_same] at hj;cases hj
  ·rw [upd_other _ _ hjq] at hj
   exact H.was j y hj h1 h2
 ·have h3:=(H.has_lt (H.gok.2 j hj).1).2
  dsimp only
  rw [upd_other _ _ (by omega)]
  by_cases hjq:j=q
  ·subst hjq;exact upd_same _ _ _
  ·rw [upd_other _ _ hjq];exact (H.gok.2 j hj).2
def Leave2Post (K:Kc) (s:Hst) (q:Nat) (x:NO) (e:Ending) (w':World):Prop:=e=.returned (.tuple #[])∧∃ v' ρ',Hnd K { s with M:=upd (upd s.M q none) 4096 (some x),gn:=s.gn++[q],gv:=v',ρ:=ρ' } w'
set_option maxHeartbeats 3200000 in
theorem leave2_h (H:Hnd K s w) {q:Nat} {x:NO} (hM:s.M q=some x) (hq:1≤q∧q < 4096) :
  Calls Tryz.prog 160 #[.pointer (some ⟨K.cb,0,none⟩),x.ptr] w (Leave2Post K s q x):=by
 obtain ⟨hpg,hhas,_⟩:=H.was q x hM hq.1 hq.2
 have hxn:=H.node q x hM
 have Hd:=H.below (Below.refl w.heap.size w).drew
 obtain ⟨m,hm⟩:=Hd.map.1
 have hpt:ptrs s.M q=some x.ptr:=by rw [ptrs_at _ hq,hM];rfl
 obtain ⟨m0,rfl⟩:∃ m0,m=m0+1:=by
  rcases Nat.eq_zero_or_pos m with e | e
  ·exfalso
   subst e
   obtain ⟨F,⟨D0,h1,h2,h3⟩,h4,_⟩:=hm.map
   have hF:=h4 q _ hpt
   rcases h3 q (WalkArith.wf_i64 (by omega)) with ⟨hn,_⟩ | ⟨v,_,hh,_⟩
   ·rw [hF] at hn;cases hn
   ·have h5:=(intKeys_spec h1)
    have h6:(intKeys D0).length=0:=by rw [h5.2.2,h2]
    have h7:=(h5.2.1 (q:Int)).2 hh
    rw [List.length_eq_zero_iff.1 h6] at h7
    cases h7
  ·exact ⟨m - 1,by omega⟩
 obtain ⟨w1,hdr,hp,ht⟩:=hm.del (t:=184) (e:=127) Tryz.underlying184 q hpt 0
 obtain ⟨ρ1,H1⟩:=Hd.park hq hM (Kept.ofTurned ht rfl) hp
 have x0:=hxn.at_.c0
 have hb1:=ht.grown
 have hxb1:w1.heap[x.blk]? = w.heap[x.blk]?:=(Kept.ofTurned (S:=fun k=>k=K.mb) ht rfl).block x.blk hxn.at_.lt (fun e=>by have h1:=hxn.blk;rw [e,H.map.2] at h1;omega)
 have x01:w1.cell? ⟨x.blk,0,none⟩=some (.int .i64 q):=by rw [World.cell?_of_block hxb1,x0,hpg]
 rw [hpg] at x0
 -- the append
 obtain ⟨W2,hW2⟩:∃ W2,W2=(w1.alloc (.cells #[.int .i64 q] 3)).drew:=⟨_,rfl⟩
 have hbW:Below w1.heap.size w1 W2:=by rw [hW2];exact ((Below.refl _ _).alloc (Nat.le_refl _) _).drew
 have hcx:W2.cell? ⟨w1.heap.size,0,none⟩=some (.int .i64 q):=by
  have:W2.heap[w1.heap.size]? = some (.cells #[.int .i64 q] 3 (0,0)):=by rw [hW2];exact heap_alloc_new w1 _
  rw [Lib.cell_of_heap this];rfl
 have H1W:=H1.below hbW
 obtain ⟨v',w3,hr3,hn3,hg3⟩:=append_num W2 s.gv s.gn q w1.heap.size 1 H1W.gon.1 hcx (by have:=H.gn_few;omega) 57
 obtain ⟨ρ',H4⟩:=H1.pushG (q:=q) hbW hg3 hn3 hhas (by show upd (upd s.M q none) 4096 (some x) q=none;rw [upd_other _ _ (by omega),upd_same]) (fun hg=>by have:=(H.gok.2 q hg).2;rw [hM] at this;cases this)
 obtain ⟨ga,gc,hgv⟩:=H1W.gon.1.shape
 obtain ⟨va,vc,hvv⟩:=hn3.shape
 have hkg:Kept (fun k=>s.gv.ownBlock=some k) W2 w3:=Kept.ofGrown hg3.1 (fun k e=>e)
 have hcb3:w3.heap[K.cb]? = some (.cells (K.cells { s with M:=upd (upd s.M q none) 4096 (some x),ρ:=ρ1 }) 186 (0,0)):=(hkg.block _ H1W.cbl (fun e=>by have h1:=H1W.gon.2 _ e;have h2:=H1W.chg.2;omega)).trans H1W.chg.1
 have f4:w3.frozen? ⟨K.cb,4,none⟩=false:=by simp [World.frozen?,hcb3]
 have d4:w3.cell? ⟨K.cb,4,none⟩=some s.gv:=by rw [Lib.cell_of_heap hcb3];rfl
 have c1:=H.cb1
 have c4:=H1.cb4
 have hcl1:=H1.cbl
 have hxl1:x.blk < w1.heap.size:=by have:=hxn.at_.lt;have h2:=(Kept.ofTurned (S:=fun k=>k=K.mb) ht rfl).size;exact Nat.lt_of_lt_of_le this h2
 dsimp only at c4
 obtain ⟨gn,hgn⟩:∃ n,n=s.gn.length:=⟨_,rfl⟩
 simp only [← hgn] at hgv
 have hvl:(s.gn++[q]).length=gn+1:=by rw [List.length_append,← hgn];rfl
 rw [hvl] at hvv
 rw [hgv] at hr3 c4 d4
 rw [hvv] at hr3
 have HE:Hid (Leave2Post K s q x (.returned (.tuple #[])) (w3.setCell ⟨K.cb,4,none⟩ (.slice va (gn+1) vc))):=Lib.hid ⟨rfl,v',ρ',by rw [hvv] at H4 ⊢;exact H4⟩
 unfold NO.ptr
 obtain ⟨xb,hxb⟩:∃ b,b=x.blk:=⟨_,rfl⟩
 rw [← hxb] at x0 x01 hxl1 ⊢
 obtain ⟨cb,hcb⟩:∃ b,b=K.cb:=⟨_,rfl⟩
 rw [← hcb] at c1 c4 f4 d4 HE hcl1 ⊢
 rw [hW2] at hr3
 have HDR:=Lib.hid hdr
 have HR3:=Lib.hid hr3
 clear H hM hq hpg hhas hxn Hd hm hpt hdr hp ht H1 hb1 hxb1 hW2 hbW hcx H1W hr3 hn3 hg3 H4 hgv hvv hkg hcb3 hgn hvl hxb hcb
 go_enter Tryz.func160,Tryz.ntmps160
 go_wp2
 go_still_tail 8,(by kernel_rfl)
 go_wp2_with (refine wpList_delete_run rfl _ _ 184 3 rfl _ _ (by rfl) (by rfl) HDR.out ?_)
 go_region_law (refine step_app_run rfl _ _ 57 rfl _ _ _ (by rfl) (by rfl) HR3.out ?_)
 all_goals go_wp2
 all_goals go_end0
 all_goals exact HE.out
end
section
variable {K:Kc} {s0 s s':Hst} {w w':World} {F:List En} {P:List Nat}
structure Fin (K:Kc) (s0 s:Hst) (F:List En) (P:List Nat) (r:Nat) (ps born dead:List Nat) (w:World):Prop where
 H:Hnd K s w
 gn:s.gn=dead
 has:∀ q,s.h.has q ↔ s0.h.has q∨q ∈ born
 new:(P++born).Nodup∧(∀ q ∈ P,q=0∨s0.h.has q)∧(∀ q ∈ born,1≤q∧¬ s0.h.has q)
 fram:Fram2 s0 s (P++born)
 perm:(ps++0 :: dead).Perm (P++born)
 tree:(F=[]∧r=0∧ps=[])∨∃ (m:Nat) (t:Tr m),Root t∧Ord t [] none∧t.flat=F∧t.page=r∧t.pages=ps∧Rep (Cur s) t
structure Top (K:Kc) (s0 s:Hst) (F:List En) (P:List Nat) (x:NO) {L:Nat} (ks:List (Kid L)) (born dead:List Nat) (w:World):Prop where
 H:Hnd K s w
 M:s.M 0=some x
 level:x.level=L+1
 ens:x.ens=ks.map kEn
 was:x.was=[]
 done:Done ks F P born dead
 rep:∀ k ∈ ks,Rep (Cur s) k.2
 gn:s.gn=dead
 has:∀ q,s.h.has q ↔ s0.h.has q∨q ∈ born
 new:(P++born).Nodup∧(∀ q ∈ P,q=0∨s0.h.has q)∧(∀ q ∈ born,1≤q∧¬ s0.h.has q)
 fram:Fram2 s0 s (P++born)
 room:∃ U,Roomy s.h U 1
theorem Lop.top (h:Lop K s0 F P 0 w) (hw0:∀ y a,K.way[0]? = some (y,a)→y.was=[]):∃ (s:Hst) (x:NO) (L:Nat) (ks:List (Kid L)) (born dead:List Nat) (y:NO) (a:Nat),K.way[0]? = some (y,a)∧y.blk=x.blk∧Top K s0 s F P x ks born dead w:=by
 obtain ⟨l,z,c,had,born,dead,pre,xc,s,y,a,h,hpre,hjl,hw,hb,hws,hat⟩:=h
 obtain rfl:pre=[]:=by rw [hpre];rfl
 cases z with
 | up p A k B z =>
  exfalso
  obtain ⟨x,rest,h1,_⟩:=h.on
  cases h1
 | top _ =>
  obtain ⟨h1,h2,h3⟩:=hat
  obtain ⟨L,rfl⟩:∃ L,l=L+1:=⟨l - 1,by omega⟩
  have hc:c=.node 0 c.ks:=by rw [← h2];exact c.node_eta
  have hx:=h.x
  have hmid:=h.mid
  rw [hc] at hmid
  rw [h2] at hx
  refine ⟨s,xc,L,c.ks,born,dead,y,a,hw,hb,h.H,hx.1,hx.2.1,by rw [hx.2.2.1,ens_node],by rw [← hws];exact hw0 y a hw,hmid.done h3,h.kids,h.gn,h.has,h.new,h.fram,?_⟩
  obtain ⟨U,hU⟩:=h.room
  exact ⟨U,hU⟩
variable {x:NO} {L:Nat} {born dead:List Nat}
theorem Top.none_ (h:Top K s0 s F P x ([]:List (Kid L)) born dead w) (hk:Hnd K s w'):Fin K s0 s F P 0 [] born dead w' :=
 ⟨hk,h.gn,h.has,h.new,h.fram,by have:=h.done.perm;simpa [pgK_nil] using this,.inl ⟨h.done.none_,rfl,rfl⟩⟩
structure Cro (K:Kc) (s0 s:Hst) (P:List Nat) {L:Nat} (a:Kid L) (born dead:List Nat) {l:Nat} (t:Tr l) (d:List Nat) (x:NO) (w:World):Prop where
 H:Hnd K s w
 x:s.M t.page=some x∧x.level=l∧x.ens=t.ens
 tidy:Tidy t
 rep:Rep (Cur s) t
 ctx:∀ (m:Nat) (r:Tr m) (d':List Nat),Crown t r d'→Crown a.2 r (d++d')
 gn:s.gn=dead++d
 has:∀ q,s.h.has q ↔ s0.h.has q∨q ∈ born
 nodup:t.pages.Nodup
 sub:∀ q ∈ t.pages,q ∈ P++born
 fram:Fram2 s0 s (P++born)
theorem Top.one {a:Kid L} (h:Top K s0 s F P x [a] born dead w):x.ens[0]? = some (kEn a)∧Cur s (kEn a).child L a.2.ens∧∀ (x1:NO) (s1:Hst) (w1:World),Hnd K s1 w1→Got s s1 (kEn a).child L a.2.ens x1→Cro K s0 s1 P a born dead a.2 [] x1 w1:=by
 have ht:=h.done.tidy.2 a (by simp)
 have hc:(kEn a).child=a.2.page:=kEn_child a (by have:=ht.2.2.2;omega)
 have hr:=h.rep a (by simp)
 have hpm:=h.done.perm
 have hsub:∀ q ∈ a.2.pages,q ∈ P++born:=fun q hq=>hpm.mem_iff.1 (by rw [pgK_cons];simp [hq])
 have hnd:a.2.pages.Nodup:=by
  have h1:=hpm.nodup_iff.2 h.new.1
  rw [pgK_cons,pgK_nil,List.append_nil,List.nodup_append] at h1
  exact h1.1
 refine ⟨by rw [h.ens];rfl,by rw [hc];exact hr.at_,fun x1 s1 w1 H1 G1=>?_⟩
 rw [hc] at G1
 have hF:Fram2 s s1 (P++born):=G1.fram.to2.mono fun q hq=>by rw [List.mem_singleton] at hq;rw [hq];exact hsub _ (page_mem _)
 exact ⟨H1,⟨by rw [G1.M,upd_same],G1.x.1,G1.x.2.1⟩,ht,got_rep hr G1 hnd ht.2.2.2.1 ht.2.2.2.2,fun m r d' hd=>hd,by rw [G1.same.2.2.2,h.gn,List.append_nil],fun q=>by rw [G1.same.1];exact h.has q,hnd,hsub,h.fram.trans hF⟩
theorem Cro.fin {a:Kid L} {l:Nat} {t:Tr l} {d:List Nat} {x1:NO} {s1:Hst} {w1:World} (h:Top K s0 s F P x [a] born dead w) (c:Cro K s0 s1 P a born dead t d x1 w1) (hs:0 < l→t.ens.length≠1) (H2:Hnd K s1 w'):Fin K s0 s1 F P t.page t.pages born (dead++d) w':=by
 have hcr:=c.ctx l t [] (.stay t hs)
 rw [List.append_nil] at hcr
 obtain ⟨o1,o2,o3,o4⟩:=h.done.one hcr
 exact ⟨H2,c.gn,c.has,h.new,c.fram,o4,.inr ⟨l,t,o1,o2,o3,rfl,rfl,c.rep⟩⟩
theorem Cro.down {a:Kid L} {l:Nat} {t:Tr (l+1)} {d:List Nat} {x1:NO} {s1:Hst} {w1:World} (c:Cro K s0 s1 P a born dead t d x1 w1) (hone:t.ens.length=1) (W:World) (hbW:Below w1.heap.size w1 W) :
  Calls Tryz.prog 160 #[.pointer (some ⟨K.cb,0,none⟩),x1.ptr] W fun e w2=>e=.returned (.tuple #[])∧Calls Tryz.prog 159 #[.pointer (some ⟨K.cb,0,none⟩),x1.ptr,.int .i64 (0:Nat)] w2 fun e w3=>∃ (x2:NO) (s2:Hst) (t2:Tr l) (d2:List Nat),e=.returned x2.ptr∧Cro K s0 s2 P a born dead t2 d2 x2 w3:=by
 have htp:=c.tidy.2.2.2
 obtain ⟨b,hb⟩:∃ b,t.ks=[b]:=by
  rw [ens_node,List.length_map] at hone
  match hk:t.ks,hone with
  | [b],_=>exact ⟨b,rfl⟩
 have hl:=(loose_node.1 c.tidy.1).1
 rw [hb] at hl
 have hbt:=hl.2 b (by simp)
 refine (leave2_h (c.H.below hbW) c.x.1 htp).mono ?_
 rintro e w2 ⟨rfl,gv,ρ2,H2⟩
 refine ⟨rfl,?_⟩
 have hcb:(kEn b).child=b.2.page:=kEn_child b (by have:=hbt.2.2.2;omega)
 have hpg:=c.nodup
 rw [pages_node,hb,pgK_cons,pgK_nil,List.append_nil,List.nodup_cons] at hpg
 have hF:Fram2 s1 { s1 with M:=upd (upd s1.M t.page none) 4096 (some x1),gn:=s1.gn++[t.page],gv:=gv,ρ:=ρ2 } [t.page] :=
  ⟨fun j h=>h,fun j h=>.inl h,fun j _=>rfl,fun j h4 hj=>by
   show upd (upd s1.M t.page none) 4096 _ j=s1.M j
   rw [upd_other _ _ (by omega),upd_other _ _ (by simpa using hj)],⟨[t.page],rfl,fun j hj=>hj⟩,rfl⟩
 have hrb:Rep (Cur { s1 with M:=upd (upd s1.M t.page none) 4096 (some x1),gn:=s1.gn++[t.page],gv:=gv,ρ:=ρ2 }) b.2:=by
  have:=c.rep.kid b (by rw [hb];simp)
  exact rep_fram2 hF this fun j hj=>by rw [List.mem_singleton];exact fun e=>hpg.1 (e ▸ hj)
 have hen:x1.ens[0]? = some (kEn b):=by rw [c.x.2.2,ens_node,hb];rfl
 have hM4:upd (upd s1.M t.page none) 4096 (some x1) 4096=some x1:=upd_same _ _ _
 refine (child_h H2 (i:=4096) (n:=x1) hM4 (at_:=0) hen rfl c.x.2.1 (by rw [hcb];exact hrb.at_)).mono ?_
 rintro e w3 ⟨x2,s2,rfl,H3,G3⟩
 rw [hcb] at G3
 have hF2:Fram2 s1 s2 (P++born):=(hF.mono fun q hq=>by rw [List.mem_singleton] at hq;rw [hq];exact c.sub _ (page_mem _)).trans (G3.fram.to2.mono fun q hq=>by
  rw [List.mem_singleton] at hq
  rw [hq]
  exact c.sub _ (by rw [pages_node,hb,pgK_cons];simp [page_mem]))
 refine ⟨x2,s2,b.2,d++[t.page],rfl,H3,⟨by rw [G3.M,upd_same],G3.x.1,G3.x.2.1⟩,hbt,got_rep hrb G3 hpg.2 hbt.2.2.2.1 hbt.2.2.2.2,fun m r d' hd=>?_,by rw [G3.same.2.2.2,← List.append_assoc,← c.gn],fun q=>by rw [G3.same.1];exact c.has q,hpg.2,fun q hq=>c.sub q (by rw [pages_node,hb,pgK_cons];simp [hq]),c.fram.trans hF2⟩
 have:=c.ctx m r (t.page :: d') (.down t b r d' hb hd)
 rwa [List.append_assoc,List.singleton_append]
theorem Top.more {ks:List (Kid L)} (h:Top K s0 s F P x ks born dead w) (h2:2≤ks.length) {e:Ending} (hp:HousePost K s 0 x e w') :
  e=.returned (.int .i64 0)∧∃ (q:Nat) (s':Hst),w'.cell? ⟨x.blk,0,none⟩=some (.int .i64 q)∧Fin K s0 s' F P q (q :: pgK ks) (born++[q]) dead w':=by
 obtain ⟨rfl,q,h',S',ρ',av',hnx,H'⟩:=hp
 obtain ⟨hok',q1,q2,hnq,hhas,hroots⟩:=hnx.spec h.H.act.ok
 have hM':(upd (upd s.M 0 none) q (some { x with page:=q })) q=some { x with page:=q }:=upd_same _ _ _
 have hc0:=(H'.node q _ hM').at_.c0
 have hfresh:q ∉ P++born:=fun hm=>by
  rcases List.mem_append.1 hm with hm | hm
  ·rcases h.new.2.1 q hm with e | e
   ·omega
   ·exact hnq ((h.has q).2 (.inl e))
  ·exact hnq ((h.has q).2 (.inr hm))
 obtain ⟨o1,o2,o3,o4⟩:=h.done.more h2 q ⟨q1,q2⟩
 have hF:Fram2 s { s with S:=S',ρ:=ρ',h:=h',G:=upd s.G q noughts,M:=upd (upd s.M 0 none) q (some { x with page:=q }),tk:=s.tk++[q],av:=av' } [0,q]:=by
  refine ⟨fun j hj=>(hhas j).2 (.inl hj),fun j hj=>((hhas j).1 hj).imp id fun e=>by simp [e],fun j hj=>?_,fun j h4 hj=>?_,⟨[],(List.append_nil _).symm,fun j hj=>by cases hj⟩,hroots⟩
  ·exact upd_other _ _ (fun e:j=q=>hnq (e ▸ hj))
  ·simp only [List.mem_cons,List.not_mem_nil,or_false,not_or] at hj
   show upd (upd s.M 0 none) q _ j=s.M j
   rw [upd_other _ _ hj.2,upd_other _ _ hj.1]
 have hks:∀ j ∈ pgK ks,j ∉ [0,q]:=fun j hj=>by
  have hm:j ∈ P++born:=h.done.perm.mem_iff.1 (List.mem_append.2 (.inl hj))
  have hn:=h.done.perm.nodup_iff.2 h.new.1
  simp only [List.mem_cons,List.not_mem_nil,or_false,not_or]
  refine ⟨fun e=>?_,fun e=>hfresh (e ▸ hm)⟩
  rw [List.nodup_append] at hn
  exact hn.2.2 j hj 0 (by simp) e
 have hP0:(0:Nat) ∈ P++(born++[q]):=by
  have:(0:Nat) ∈ P++born:=h.done.perm.mem_iff.1 (by simp)
  rw [← List.append_assoc];exact List.mem_append.2 (.inl this)
 refine ⟨rfl,q,_,hc0,H',h.gn,fun j=>?_,⟨?_,h.new.2.1,fun j hj=>?_⟩,?_,o4,.inr ⟨L+1,.node q ks,o1,o2,o3,rfl,rfl,?_⟩⟩
 ·rw [List.mem_append,List.mem_singleton,← or_assoc,← h.has j];exact hhas j
 ·rw [← List.append_assoc,List.nodup_append]
  refine ⟨h.new.1,by simp,fun a ha b hb e=>?_⟩
  rw [List.mem_singleton] at hb
  exact hfresh (hb ▸ e ▸ ha)
 ·rcases List.mem_append.1 hj with hj | hj
  ·exact h.new.2.2 j hj
  ·rw [List.mem_singleton] at hj
   subst hj
   exact ⟨q1,fun e=>hnq ((h.has j).2 (.inl e))⟩
 ·refine (h.fram.mono fun j hj=>?_).trans (hF.mono fun j hj=>?_)
  ·rw [← List.append_assoc];exact List.mem_append.2 (.inl hj)
  ·simp only [List.mem_cons,List.not_mem_nil,or_false] at hj
   rcases hj with rfl | rfl
   ·exact hP0
   ·simp
 ·refine Rep.mk (cur_some q1 q2 hM' h.level (by rw [ens_node,node_ks];exact h.ens)) fun k hk=>?_
  exact rep_fram2 hF (h.rep k hk) fun j hj=>hks j (mem_pgK hk hj)
end
section
variable {K:Kc} {s0:Hst} {w:World} {F:List En} {P:List Nat}
def CrownPost (K:Kc) (s0:Hst) (F:List En) (P:List Nat) (e:Ending) (w':World):Prop:=∃ (r:Nat),e=.returned (.tuple #[.int .i64 r,.int .i64 0])∧Hid (∃ (s:Hst) (ps born dead:List Nat),Fin K s0 s F P r ps born dead w')
set_option maxHeartbeats 6400000 in
theorem crown_h (h:Lop K s0 F P 0 w) (hw0:∀ y a,K.way[0]? = some (y,a)→y.was=[]) :
  Calls Tryz.prog 124 #[.pointer (some ⟨K.cb,0,none⟩)] w (CrownPost K s0 F P):=by
 obtain ⟨s,x,L,ks,born,dead,y,a,hw,hb,hT⟩:=h.top hw0
 obtain ⟨g,cap,hv,d1,_⟩:=hT.H.wayAt hw
 have c2:=hT.H.cb2
 rw [hv] at c2
 have hN:0 < K.way.length:=(List.getElem?_eq_some_iff.1 hw).1
 rw [Nat.zero_mul] at d1
 have hxn:=(hT.H.node 0 x hT.M).at_
 have e2:=hxn.c2
 have hlen:x.ens.length=ks.length:=by rw [hT.ens,List.length_map]
 rw [hlen] at e2
 have hyp:y.ptr=.pointer (some ⟨x.blk,0,none⟩):=by unfold NO.ptr;rw [hb]
 rw [hyp] at d1
 obtain ⟨N,hNd⟩:∃ N,N=K.way.length:=⟨_,rfl⟩
 rw [← hNd] at c2 hN
 obtain ⟨xb,hxb⟩:∃ b,b=x.blk:=⟨_,rfl⟩
 have HXB:=Lib.hid hxb
 rw [← hxb] at d1 e2
 have hNi:(0:Int) < (N:Int):=by omega
 have hks5:ks.length≤512:=by have:=hxn.short.1;omega
 match hk:ks,hT with
 | [],hT =>
  have HF:Hid (∀ w',Below w.heap.size w w'→CrownPost K s0 F P (.returned (.tuple #[.int .i64 ((0:Nat):Int),.int .i64 0])) w'):=Lib.hid fun w' hb=>⟨0,rfl,Lib.hid ⟨s,[],born,dead,hT.none_ (hT.H.below hb)⟩⟩
  have HFw:=Lib.hid (HF.out w (Below.refl _ _))
  clear hT hv hw hb hxn hlen hyp hxb hNd HF HXB h hw0 hks5
  simp only [List.length_nil] at e2
  go_enter Tryz.func124,Tryz.ntmps124
  go_wp2
  go_ret2
  exact HFw.out
 | [b],hT =>
  obtain ⟨hen,hcur,hgot⟩:=hT.one
  have HCH:=Lib.hid (child_h hT.H hT.M hen rfl hT.level hcur)
  have HG:=Lib.hid hgot
  have HT:=Lib.hid hT
  have hxp:x.ptr=.pointer (some ⟨xb,0,none⟩):=by unfold NO.ptr;rw [hxb]
  rw [hxp] at HCH
  clear hT hv hw hb hxn hlen hyp hxb hNd HXB h hw0 hks5 hen hcur hgot hxp
  simp only [List.length_singleton] at e2
  go_enter Tryz.func124,Tryz.ntmps124
  go_wp2_with fail
  refine HCH.out.mono ?_
  rintro e w1 ⟨x1,s1,rfl,H1,G1⟩
  have HC0:=Lib.hid (HG.out x1 s1 w1 H1 G1)
  clear H1 G1 HCH HG
  go_wp2
  go_loopw [5] (fun p wr=>∃ (x1:NO) (s1:Hst) (l:Nat) (t:Tr l) (d:List Nat),p=x1.ptr∧Hid (Cro K s0 s1 P b born dead t d x1 wr)) (fun p wr=>lvOf p wr)
  case atStart=>exact ⟨x1,s1,L,b.2,[],rfl,HC0⟩
  case round =>
   obtain ⟨x2,s2,l,t,d,rfl,HC⟩:=hrel
   have hxn:=(HC.out.H.node _ x2 HC.out.x.1).at_
   have hlv:=HC.out.x.2.1
   have c1:=hxn.c1
   have HME:=Lib.hid ((lvOf_node hxn).trans hlv)
   have f2:=hxn.c2
   have f0:=hxn.c0
   have hpg:=(HC.out.H.was _ x2 HC.out.x.1 HC.out.tidy.2.2.2.1 HC.out.tidy.2.2.2.2).1
   rw [hpg] at f0
   rw [hlv] at c1
   rw [HC.out.x.2.2] at f2
   have h512:t.ens.length≤512:=by have:=hxn.short.1;rw [HC.out.x.2.2] at this;exact this
   cases l with
   | zero =>
    have HE:Hid (CrownPost K s0 F P (.returned (.tuple #[.int .i64 (t.page:Nat),.int .i64 0])) wr):=Lib.hid ⟨t.page,rfl,Lib.hid ⟨s2,_,_,_,HC.out.fin HT.out (fun h=>absurd h (by omega)) HC.out.H⟩⟩
    obtain ⟨tp,htp⟩:∃ p,p=t.page:=⟨_,rfl⟩
    rw [← htp] at HE f0
    obtain ⟨tl,htl⟩:∃ p,p=t.ens.length:=⟨_,rfl⟩
    rw [← htl] at f2 h512
    unfold NO.ptr
    clear hxn hlv hpg htp htl HC HME HC0
    go_wp2
    go_ret2
    exact HE.out
   | succ l =>
    have hpos:(0:Int) < ((l+1:Nat):Int):=by omega
    by_cases hone:t.ens.length=1
    ·have HDN:=Lib.hid (HC.out.down hone wr (Below.refl _ _))
     rw [hone] at f2
     unfold NO.ptr at HDN ⊢
     clear hxn hlv hpg HC HC0 h512
     go_wp2_with fail
     refine HDN.out.mono ?_
     rintro e w2 ⟨rfl,h2⟩
     have H2:=Lib.hid h2
     clear h2 HDN
     go_wp2_with fail
     refine H2.out.mono ?_
     rintro e w3 ⟨x3,s3,t3,d3,rfl,h3⟩
     have HM3:Hid (lvOf x3.ptr w3=l):=Lib.hid ((lvOf_node ((h3.H.node _ x3 h3.x.1).at_)).trans h3.x.2.1)
     have H3:=Lib.hid h3
     clear h3 H2
     go_wp2
     go_roundw
     case rel=>exact ⟨x3,s3,l,t3,d3,rfl,H3⟩
     case measure =>
      have h1:=HM3.out;have h2:=HME.out
      unfold NO.ptr at h1 h2
      show lvOf _ w3 < lvOf _ wr
      omega
    ·have HE:Hid (CrownPost K s0 F P (.returned (.tuple #[.int .i64 (t.page:Nat),.int .i64 0])) wr):=Lib.hid ⟨t.page,rfl,Lib.hid ⟨s2,_,_,_,HC.out.fin HT.out (fun _=>hone) HC.out.H⟩⟩
     obtain ⟨tp,htp⟩:∃ p,p=t.page:=⟨_,rfl⟩
     rw [← htp] at HE f0
     obtain ⟨tl,htl⟩:∃ p,p=t.ens.length:=⟨_,rfl⟩
     rw [← htl] at f2 h512 hone
     have hone2:decide (tl=1)=false:=decide_eq_false hone
     have hone3:((tl:Int) == 1)=false:=by simp;omega
     unfold NO.ptr
     clear hxn hlv hpg htp htl HC HME HC0
     go_wp2
     go_ret2
     exact HE.out
 | b :: b2 :: r,hT =>
  obtain ⟨U,hU⟩:=hT.room
  have HHO:Hid (Calls Tryz.prog 119 #[.pointer (some ⟨K.cb,0,none⟩),x.ptr] w fun e w'=>e=.returned (.int .i64 0)∧∃ q:Nat,w'.cell? ⟨x.blk,0,none⟩=some (.int .i64 q)∧Hid (CrownPost K s0 F P (.returned (.tuple #[.int .i64 q,.int .i64 0])) w')):=Lib.hid ((house_h hT.H hT.M (.inl rfl) hT.was (U:=U) (k:=0) hU).mono fun e w' hp=>by
   obtain ⟨rfl,q,s',hq,hf⟩:=hT.more (by simp) hp
   exact ⟨rfl,q,hq,Lib.hid ⟨q,rfl,Lib.hid ⟨s',_,_,_,hf⟩⟩⟩)
  have hxp:x.ptr=.pointer (some ⟨xb,0,none⟩):=by unfold NO.ptr;rw [hxb]
  rw [hxp,← hxb] at HHO
  have hl0:((b :: b2 :: r).length:Int)=(r.length:Int)+2:=by simp;omega
  obtain ⟨n2,hn2⟩:∃ n,n=(b :: b2 :: r).length:=⟨_,rfl⟩
  rw [← hn2] at e2 hks5
  have hn3:2≤n2:=by rw [hn2];simp
  have g0:((n2:Int) == 0)=false:=by simp;omega
  have g1:((n2:Int) == 1)=false:=by simp;omega
  have g2:decide (n2=0)=false:=decide_eq_false (by omega)
  have g3:decide (n2=1)=false:=decide_eq_false (by omega)
  clear hT hv hw hb hxn hlen hyp hxb hNd HXB h hw0 hxp hl0 hn2
  go_enter Tryz.func124,Tryz.ntmps124
  go_wp2_with fail
  refine HHO.out.mono ?_
  rintro e w2 ⟨rfl,q,q0,HE⟩
  clear HHO
  go_wp2
  go_ret2
  exact HE.out
end
theorem built_draft:Tryz.prog.built 111 []=some (Dr.cells ⟨0,false,noughts,noughts⟩).toArray:=by kernel_rfl
theorem run_sliceAll (W:World) (x:Addr):(Instr.sliceAt 109 (.pointer (some x)) none none none).run Tryz.prog W=.ok (.slice (some x) 512 512) W:=by
 obtain ⟨i,hi,_⟩:=Option.map_eq_some_iff.1 infoU8
 simp [Instr.sliceAt,run_underlying Tryz.underlying109,Instr.sureAddr,Instr.sliceBounds,sizeOf,typeInfo,hi,Result.andThen]
 cases x
 rfl
theorem infoPageA:(Tryz.prog.info? 109).map (·.size)=some 512:=by kernel_rfl
def DraftPost (t:ByteArray) (w:World) (e:Ending) (w':World):Prop:=∃ b,e=.returned (.pointer (some ⟨b,0,none⟩))∧w.heap.size≤b∧b < w'.heap.size∧Below w.heap.size w w'∧(∀ j,w'.frozen? ⟨b,j,none⟩=false)∧w'.rangeAt b 0 (Dr.cells ⟨b,false,t.data.toList,t.data.toList⟩)
set_option maxHeartbeats 1600000 in
theorem draftOf_ok (t:ByteArray) (w:World) (ht:t.size=512):Calls Tryz.prog 55 #[.string t] w (DraftPost t w):=by
 have htl:t.data.toList.length=512:=ht
 have hbl:(Lib.byteCells t.data.toList).length=512:=by rw [Lib.byteCells_length];exact htl
 obtain ⟨Y,hY⟩:∃ Y:Array Value,Y=(Dr.cells ⟨0,false,noughts,noughts⟩).toArray:=⟨_,rfl⟩
 have HB:=Lib.hid built_draft
 rw [← hY] at HB
 obtain ⟨w1,hw1⟩:∃ w1,w1=w.alloc (.cells Y 111):=⟨_,rfl⟩
 obtain ⟨b,hb⟩:∃ b,b=w.heap.size:=⟨_,rfl⟩
 have hnew:w1.heap[b]? = some (.cells Y 111 (0,0)):=by rw [hw1,hb];exact heap_alloc_new w _
 have hYl:Y.size=1025:=by rw [hY];show (Dr.cells ⟨0,false,noughts,noughts⟩).length=1025;exact Dr.cells_length _ noughts_length noughts_length
 have hth:w1.there b 0 1025:=fun j hj=>by
  refine ⟨?_,Lib.frozen_of_heap hnew _⟩
  rw [Nat.zero_add,Lib.cell_of_heap hnew,Array.getElem?_eq_getElem (by rw [hYl];exact hj)];rfl
 have hth1:w1.there b 1 512:=there_part hth (by omega) (by omega)
 have hcp:=run_copy_string_mid w1 102 9 3 5 b 1 512 512 t Tryz.underlying102 (by kernel_rfl) (by rw [ht];exact hth1) (by omega)
 obtain ⟨w2,hw2⟩:∃ w2,w2=w1.setCells b 1 (Lib.byteCells t.data.toList):=⟨_,rfl⟩
 rw [← hw2] at hcp
 have hr2:w2.rangeAt b 1 (Lib.byteCells t.data.toList):=by rw [hw2];exact World.rangeAt_setCells_same w1 b 1 _ (by rw [hbl];exact hth1)
 have hth2:w2.there b 0 1025:=by rw [hw2];exact World.there_setCells hth b 1 _
 have hth3:w2.there b 513 512:=there_part hth2 (by omega) (by omega)
 obtain ⟨w3,hw3⟩:∃ w3,w3=w2.setCells b 513 (Lib.byteCells t.data.toList):=⟨_,rfl⟩
 have hk3:Kept (fun k=>k=b) w1 w3:=by
  rw [hw3,hw2]
  exact (Kept.setCells (fun k=>k=b) w1 rfl _).trans (Kept.setCells (fun k=>k=b) _ rfl _) (fun _ e=>.inl e)
 have hb1:Below w.heap.size w w1:=by rw [hw1];exact (Below.refl _ _).alloc (Nat.le_refl _) _
 have hb3:Below w.heap.size w w3:=hb1.trans (hk3.toBelow hb1.size (fun k e=>by rw [e,hb];exact Nat.le_refl _))
 have hr3:w3.rangeAt b 0 (Dr.cells ⟨b,false,t.data.toList,t.data.toList⟩):=fun j v hv=>by
  rw [Nat.zero_add]
  unfold Dr.cells at hv
  cases j with
  | zero =>
   simp only [List.getElem?_cons_zero,Option.some.injEq] at hv
   subst hv
   have h0:w1.cell? ⟨b,0,none⟩=some (.bool false):=by
    rw [Lib.cell_of_heap hnew,hY];rfl
   rw [hw3,World.cell?_setCells_out b _ 513 w2 _ (fun _ _=>.inl (by show 0 < 513;omega)),hw2,World.cell?_setCells_out b _ 1 w1 _ (fun _ _=>.inl (by show 0 < 1;omega))]
   exact h0
  | succ j =>
   rw [List.getElem?_cons_succ] at hv
   by_cases hj:j < 512
   ·rw [List.getElem?_append_left (by rw [hbl];exact hj)] at hv
    have:=hr2 j v hv
    rw [hw3,World.cell?_setCells_out b _ 513 w2 _ (fun _ _=>.inl (by show j+1 < 513;omega)),Nat.add_comm]
    exact this
   ·rw [List.getElem?_append_right (by rw [hbl];omega),hbl] at hv
    have:=World.rangeAt_setCells_same w2 b 513 (Lib.byteCells t.data.toList) (by rw [hbl];exact hth3) (j - 512) v hv
    rw [hw3,show j+1=513+(j - 512) by omega]
    exact this
 have HE:Hid (DraftPost t w (.returned (.pointer (some ⟨b,0,none⟩))) w3):=Lib.hid ⟨b,rfl,by omega,by
  have h1:=(Array.getElem?_eq_some_iff.1 hnew).1
  exact Nat.lt_of_lt_of_le h1 hk3.size,hb3,fun j=>by rw [hw3,World.frozen?_setCells,hw2,World.frozen?_setCells];exact Lib.frozen_of_heap hnew _,hr3⟩
 obtain ⟨X,hX⟩:∃ X:Array Value,X=(Lib.byteCells t.data.toList).toArray:=⟨_,rfl⟩
 have HX:Hid (X.size=512):=Lib.hid (by rw [hX];exact hbl)
 have hXl:X.toList=Lib.byteCells t.data.toList:=by rw [hX]
 have HR2:Hid (w2.rangeAt b 1 X.toList):=Lib.hid (by rw [hXl];exact hr2)
 have HT3:Hid (w2.there b 513 X.size):=Lib.hid (by rw [HX.out];exact hth3)
 have HI:Hid ((Tryz.prog.info? 109).map (·.size)=some X.size):=Lib.hid (by rw [HX.out];exact infoPageA)
 have HIL:Hid ((Tryz.prog.info? 109).map (·.size)=some X.toList.length):=Lib.hid (by rw [Array.length_toList,HX.out];exact infoPageA)
 have HO:Hid (X.all (·.oneCell')=true):=Lib.hid (by rw [hX];exact all_oneCell_toArray (Lib.byteCells_one _))
 have HW3:Hid (w2.setCells b 513 X.toList=w3):=Lib.hid (by rw [hXl,hw3])
 have hsl:=fun W=>run_sliceAll W ⟨b,1,none⟩
 have hts:(t.size:Int)=512:=by omega
 clear hbl htl hY hnew hYl hth hth1 hw2 hr2 hth2 hth3 hw3 hk3 hb1 hb3 hr3 hX hXl ht
 rw [hw1] at hcp
 clear hw1
 subst hb
 go_enter Tryz.func55,Tryz.ntmps55
 go_wp2_with (refine wpList_val rfl (.agg Y) (exec_build rfl _ (by simp [go_sem]) Y HB.out w) ?_)
 refine wp_load_mid 109 _ rfl w.heap.size 1 (by rfl) X.toList _ HR2.out Tryz.underlying109 rfl HIL.out ?_
 rw [Array.toArray_toList]
 go_wp2_with (first
  | (refine wpList_store_mid rfl 109 _ _ rfl w.heap.size 513 X (by rfl) (by rfl) HT3.out HI.out HO.out ?_;rw [HW3.out])
  | (refine wp_store_mid 109 _ _ rfl w.heap.size 513 X (by rfl) (by rfl) HT3.out HI.out HO.out ?_;rw [HW3.out]))
 go_ret
 exact HE.out
theorem splice_whole {l bs:List UInt8} (h1:l.length=512) (h2:bs.length=512):splice l 0 bs=bs:=by
 unfold splice
 simp [h2,List.drop_of_length_le (by omega:l.length≤512)]
theorem upd_twice {α:Type} (F:Nat→α) (q:Nat) (a b:α):upd (upd F q a) q b=upd F q b:=by
 funext j
 by_cases hj:j=q
 ·subst hj;rw [upd_same,upd_same]
 ·rw [upd_other _ _ hj,upd_other _ _ hj,upd_other _ _ hj]
section
variable {J:List RawOp→Prop} {B:Nat} {S:Nat→Prop} {c:Ac} {h:Hd} {G:Nat→List UInt8} {w:World}
set_option maxHeartbeats 3200000 in
theorem new_chain (x:ActV J B S c h G w) {m:Nat} {D:Nat→Option Dr} {S0:Nat→Prop} (hL:LiveSt J B S0 c.a c.s c.d c.l c.p c.db m c.n c.C c.N c.last h D w) (h1:∀ k,S0 k→S k) (h2:∀ q x,D q=some x→S x.blk) (h3:DrOk c.C D) (h4:∀ q,h.has q→G q=pgD c.C D q)
  (q:Nat) (hq:h.has q) (hD:D q=none) (hC:(c.C q).length=512) (t:ByteArray) (ht:t.size=512) :
  Calls Tryz.prog 52 #[.pointer (some ⟨c.s,1,none⟩),.int .i64 q] w fun e w1=>e=.returned (.string ⟨(c.C q).toArray⟩) ∧
   Calls Tryz.prog 55 #[.string ⟨(c.C q).toArray⟩] w1 fun e w2=>∃ b w3,e=.returned (.pointer (some ⟨b,0,none⟩))∧w2.cell? ⟨c.a,83,none⟩=some (.map (some c.db)) ∧
    (Instr.mapUpdate 38 (.map (some c.db)) (.int .i64 q) (.pointer (some ⟨b,0,none⟩))).run Tryz.prog w2=.ok () w3 ∧
     (Builtin.copy_ #[102,9] 3 #[.slice (some ⟨b,513,none⟩) 512 512,.string t]).run Tryz.prog w3=.ok (goInt t.size) (w3.setCells b 513 (Lib.byteCells t.data.toList)) ∧
      Hid (ActPost J B S c h (upd G q t.data.toList) w (w3.setCells b 513 (Lib.byteCells t.data.toList))):=by
 have hq4:q < 4096:=by have:=hq.2.1;have:=x.ok.cnt;omega
 have htl:t.data.toList.length=512:=ht
 refine (sread_k q hL.act.sp hL.ns hL.pool hq4 hL.n0 x.cost x.saves).mono ?_
 rintro e w1 ⟨rfl,S1,hT,hp⟩
 refine ⟨rfl,?_⟩
 have hL1:=hL.turn hT hp
 have hsz:=x.size
 have hT1:Turn S w (fun k=>(S k∨w.heap.size≤k)∧k < w1.heap.size) w1:=⟨hT.1.mono h1,fun k hlt hs=>hs.1.elim id (by omega)⟩
 have x1:ActV J B (fun k=>(S k∨w.heap.size≤k)∧k < w1.heap.size) c h G w1:=by
  refine ⟨⟨m,D,S1,hL1,fun k hs=>⟨?_,(hp.low k hs).2⟩,fun r y hr=>⟨.inl (h2 r y hr),by have:=(x.low _ (h2 r y hr)).2;have:=hT.1.size;omega⟩,h3,h4⟩,?_,?_,x.saves,x.cost,x.tab.1.kept hT.1 (fun h0=>?_),x.tab.2⟩
  ·rcases Nat.lt_or_ge k w.heap.size with hlt | hge
   ·exact .inl (h1 k (hT.2 k hlt hs))
   ·exact .inr hge
  ·have hz:=hT.1.size
   have f:∀ k,S k→(S k∨w.heap.size≤k)∧k < w1.heap.size:=fun k hs=>⟨.inl hs,by have:=(x.low k hs).2;omega⟩
   exact ⟨f _ x.own.1,f _ x.own.2.1,f _ x.own.2.2.1,f _ x.own.2.2.2⟩
  ·rintro k ⟨hs,hlt⟩
   refine ⟨hs.elim (fun h=>(x.low k h).1) (fun h=>by omega),hlt⟩
  ·have:=(x.low 0 (h1 0 h0)).1
   have:=x.tab.2
   omega
 have hs1:∀ k,S1 k→(S k∨w.heap.size≤k)∧k < w1.heap.size:=fun k hs=>⟨by
  rcases Nat.lt_or_ge k w.heap.size with hlt | hge
  ·exact .inl (h1 k (hT.2 k hlt hs))
  ·exact .inr hge,(hp.low k hs).2⟩
 refine (draftOf_ok ⟨(c.C q).toArray⟩ w1 (by show (c.C q).toArray.size=512;simpa using hC)).mono ?_
 rintro e w2 ⟨b,rfl,hb1,hb2,hbl,hfz,hrg⟩
 have hrg':w2.rangeAt b 0 (Dr.cells ⟨b,false,c.C q,c.C q⟩):=by
  have:(⟨(c.C q).toArray⟩:ByteArray).data.toList=c.C q:=by simp
  rw [this] at hrg;exact hrg
 have hL2:=hL1.below hbl
 have hX2:=hL2.act
 have hdl:=hL1.act.dr.ltM
 have hal:=hL1.act.ac.lt
 have hsl:=hL1.act.sp.lt
 have hll:=hL1.lg.lt
 have hBw:=hL1.size
 obtain ⟨w3,hr,hD3,hk3⟩:=hX2.dr.put (by have:=hL.act.dr.few;omega) hq4 hD ⟨b,false,c.C q,c.C q⟩ hrg' hfz hC hC (by show b≠c.db;omega) hb2 (fun j y hj=>by
  have:=(hL1.act.dr.at_ j y hj).2.2.2.2.2.2
  show y.blk≠b
  omega)
 have hX3:ActSt w3 c.a c.s c.d c.l c.p c.db (m+1) c.last h (upd D q (some ⟨b,false,c.C q,c.C q⟩)):=by
  refine ⟨hX2.sp.kept hk3 hX2.ne.2.2,hX2.ac.kept hk3 hX2.ne.2.1,hD3,hX2.okl,hX2.ok,fun j y hj=>?_,hX2.ne,fun j y hj=>?_⟩
  ·by_cases hjq:j=q
   ·rw [hjq];exact hq
   ·rw [upd_other _ _ hjq] at hj;exact hX2.has j y hj
  ·by_cases hjq:j=q
   ·subst hjq;rw [upd_same] at hj;cases hj
    show b≠c.a∧b≠c.s
    omega
   ·rw [upd_other _ _ hjq] at hj;exact hX2.blk j y hj
 obtain ⟨hX4,hk4⟩:=hX3.turnDr (q:=q) (upd_same _ _ _) (at_:=0) (bs:=t.data.toList) (by rw [htl];omega)
 rw [upd_twice] at hX4
 have hth:w3.there b 0 1025:=by
  obtain ⟨_,g2,g3,g4,g5,_⟩:=hX3.dr.at_ q _ (upd_same _ _ _)
  exact Dr.there_ g2 g3 g4 g5
 have hcp:=run_copy_string_mid w3 102 9 3 5 b 513 512 512 t Tryz.underlying102 (by kernel_rfl) (by rw [ht];exact there_part hth (by omega) (by omega)) (by omega)
 refine ⟨b,w3,rfl,hX2.ac.dr,hr,hcp,Lib.hid ?_⟩
 simp only [Nat.add_zero] at hX4 hk4
 have hk:Kept (fun k=>k=c.db) w1 (w3.setCells b 513 (Lib.byteCells t.data.toList)):=by
  refine ((Kept.ofBelow (S:=fun k=>k=c.db) hbl).trans hk3 (fun _ e=>.inl e)).trans hk4 (fun k e=>.inr ?_)
  have e':k=b:=e
  omega
 have hk24:Kept (fun k=>k=c.db∨k=b) w2 (w3.setCells b 513 (Lib.byteCells t.data.toList)) :=
  (hk3.mono (T:=fun k=>k=c.db∨k=b) (fun _ e=>.inl e)).trans (hk4.mono (T:=fun k=>k=c.db∨k=b) (fun _ e=>.inr e)) (fun _ e=>.inl e)
 have hlow:=hL1.low
 have hL4:LiveSt J B S1 c.a c.s c.d c.l c.p c.db (m+1) c.n c.C c.N c.last h (upd D q (some ((⟨b,false,c.C q,c.C q⟩:Dr).put 0 t.data.toList))) (w3.setCells b 513 (Lib.byteCells t.data.toList)):=by
  refine ⟨hX4,hL2.pool.kept hk24 (fun k _ hS he=>?_),hL2.lg.kept hk24 ?_,hL1.ns,hL1.na,hL1.nl,hL1.nb,fun j y hj=>?_,⟨hL1.ne.1,hL1.ne.2.1,hL1.ne.2.2.1,fun j y hj=>?_⟩,⟨hlow.1,hlow.2.1,hlow.2.2.1,hlow.2.2.2.1,fun j y hj=>?_⟩,hL1.n0⟩
  ·rcases he with rfl | rfl
   ·exact hL1.nb hS
   ·have:=(hp.low _ hS).2;omega
  ·rintro (e | e)
   ·exact hL1.ne.2.2.1 e
   ·omega
  all_goals
   by_cases hjq:j=q
   ·subst hjq;rw [upd_same] at hj;cases hj
    first
     | (intro hh;have:=(hp.low _ hh).2;simp only [Dr.put] at this;omega)
     | (simp only [Dr.put];omega)
   ·rw [upd_other _ _ hjq] at hj
    first
     | exact hL1.nd j y hj
     | exact hL1.ne.2.2.2 j y hj
     | exact hlow.2.2.2.2 j y hj
 have hpo:=actPost_mk (G':=upd G q t.data.toList) x1 hk (fun k e=>e ▸ x1.own.2.2.2) hL4 hs1 (fun r y hr'=>?_) (fun r y hr'=>?_) (fun r hr'=>?_)
 ·obtain ⟨S',hT4,x4⟩:=hpo
  exact ⟨S',hT1.trans hT4,x4⟩
 ·by_cases hrq:r=q
  ·subst hrq;rw [upd_same] at hr';cases hr';exact .inr hb1
  ·rw [upd_other _ _ hrq] at hr'
   exact .inl ⟨.inl (h2 r y hr'),(hL1.act.dr.at_ r y hr').2.2.2.2.2.2⟩
 ·by_cases hrq:r=q
  ·subst hrq;rw [upd_same] at hr';cases hr';rfl
  ·rw [upd_other _ _ hrq] at hr';exact h3 r y hr'
 ·by_cases hrq:r=q
  ·subst hrq
   rw [upd_same];unfold pgD;rw [upd_same]
   exact (splice_whole hC htl).symm
  ·rw [upd_other _ _ hrq,h4 r hr'];unfold pgD;rw [upd_other _ _ hrq]
end
section
variable {J:List RawOp→Prop} {B:Nat} {S:Nat→Prop} {c:Ac} {h:Hd} {G:Nat→List UInt8} {w:World}
set_option maxHeartbeats 3200000 in
theorem write_v (x:ActV J B S c h G w) (q:Nat) (hq:h.has q) (t:ByteArray) (ht:t.size=512) (hG:(G q).length=512) :
  Calls Tryz.prog 16 #[.pointer (some ⟨c.a,0,none⟩),.int .i64 q,.int .i64 0,.string t] w fun e w'=>e=.returned (.int .i64 0)∧ActPost J B S c h (upd G q t.data.toList) w w':=by
 obtain ⟨m,D,S0,hL,h1,h2,h3,h4⟩:=x.live
 have htl:t.data.toList.length=512:=ht
 cases hD:D q with
 | some y =>
  have g:=hL.act.dr.at_ q y hD
  refine (awrite_draft q 0 y t hL.act hD (by omega)).mono ?_
  rintro e w' ⟨rfl,hA,hk⟩
  have hyb:(y.put 0 t.data.toList).blk=y.blk:=rfl
  have hL':LiveSt J B S0 c.a c.s c.d c.l c.p c.db m c.n c.C c.N c.last h (upd D q (some (y.put 0 t.data.toList))) w':=by
   refine ⟨hA,hL.pool.kept hk (fun k _ hS he=>hL.nd q y hD (he ▸ hS)),hL.lg.kept hk (fun e=>hL.ne.2.2.2 q y hD e.symm),hL.ns,hL.na,hL.nl,hL.nb,fun j z hj=>?_,⟨hL.ne.1,hL.ne.2.1,hL.ne.2.2.1,fun j z hj=>?_⟩,⟨hL.low.1,hL.low.2.1,hL.low.2.2.1,hL.low.2.2.2.1,fun j z hj=>?_⟩,hL.n0⟩
   all_goals
    by_cases hjq:j=q
    ·subst hjq;rw [upd_same] at hj;cases hj
     rw [hyb]
     first
      | exact hL.nd j y hD
      | exact hL.ne.2.2.2 j y hD
      | exact hL.low.2.2.2.2 j y hD
    ·rw [upd_other _ _ hjq] at hj
     first
      | exact hL.nd j z hj
      | exact hL.ne.2.2.2 j z hj
      | exact hL.low.2.2.2.2 j z hj
  refine ⟨rfl,actPost_mk x hk (fun k e=>e ▸ h2 q y hD) hL' h1 (fun r z hr=>?_) (fun r z hr=>?_) (fun r hr=>?_)⟩
  ·by_cases hrq:r=q
   ·subst hrq;rw [upd_same] at hr;cases hr;exact .inl (h2 r y hD)
   ·rw [upd_other _ _ hrq] at hr;exact .inl (h2 r z hr)
  ·by_cases hrq:r=q
   ·subst hrq;rw [upd_same] at hr;cases hr;exact h3 r y hD
   ·rw [upd_other _ _ hrq] at hr;exact h3 r z hr
  ·by_cases hrq:r=q
   ·subst hrq
    rw [upd_same];unfold pgD;rw [upd_same]
    exact (splice_whole g.2.2.2.2.1 htl).symm
   ·rw [upd_other _ _ hrq,h4 r hr];unfold pgD;rw [upd_other _ _ hrq]
 | none =>
  have hC:(c.C q).length=512:=by
   have:=h4 q hq
   unfold pgD at this
   rw [hD] at this
   have h':G q=c.C q:=this
   rw [← h'];exact hG
  have HCH:=Lib.hid (new_chain x hL h1 h2 h3 h4 q hq hD hC t ht)
  have h1':=refusesPage_live q hL.act
  rw [if_pos (by rw [Int.toNat_natCast];exact ⟨by have:=hq.1;omega,hq⟩)] at h1'
  have HP:=Lib.hid h1'
  have hq4:q < 4096:=by have:=hq.2.1;have:=x.ok.cnt;omega
  have hlk:=hL.act.dr.look_none hq4 hD
  have c83:=hL.act.ac.dr
  have c1:=hL.act.ac.st
  have hts:(t.size:Int)=512:=by omega
  have hsl:∀ (W:World) (b:Nat),(Instr.sliceAt 109 (.pointer (some ⟨b,513,none⟩)) (some (.int .i64 0)) none none).run Tryz.prog W=.ok (.slice (some ⟨b,513,none⟩) 512 512) W:=fun W b=>by
   have:=run_sliceArr W ⟨b,513,none⟩ 0 (by omega)
   rw [if_neg (by omega),add_lit'] at this
   exact this
  obtain ⟨cs,hcs⟩:∃ s:ByteArray,s=⟨(c.C q).toArray⟩:=⟨_,rfl⟩
  rw [← hcs] at HCH
  clear hL h1 h2 h3 h4 htl hD hC h1' hq4 hcs hq hG x ht
  go_enter Tryz.func16,Tryz.ntmps16
  go_wp2_with fail
  refine HP.out.mono ?_
  rintro e w' ⟨rfl,hw⟩
  subst w'
  go_wp2_with fail
  refine HCH.out.mono ?_
  rintro e w1 ⟨rfl,hn⟩
  have HN:=Lib.hid hn
  clear hn HCH HP
  go_wp2_with fail
  refine HN.out.mono ?_
  rintro e w2 ⟨b,w3,rfl,d83,hmu,hcp,HE⟩
  have HMU:=Lib.hid hmu
  clear hmu HN hlk c83 c1
  go_wp2_with (refine wpList_mapUpdate_run rfl _ _ _ 38 rfl _ _ _ (by rfl) (by rfl) (by rfl) HMU.out ?_)
  go_ret
  exact ⟨rfl,HE.out⟩
end
structure Hw (K:Kc) (s:Hst) (S':Nat→Prop) (ρ':Nat→Nat) (h':Hd) (G':Nat→List UInt8) (w:World):Prop where
 pos:1≤K.w0.heap.size
 tree:TreeAt w K.tb K.c.a K.r∧ρ' K.tb=0
 act:ActV K.J K.B S' K.c h' G' w
 sub:∀ k,S' k→ρ' k=1
 turn:Turn K.S0 K.w0 S' w
 low:∀ k,2≤ρ' k→K.w0.heap.size≤k
 lt:∀ k,ρ' k≠0→k < w.heap.size
 chg:w.heap[K.cb]? = some (.cells (K.cells s) 186 (0,0))∧ρ' K.cb=2
 map:(∃ m,KMap w K.mb m (ptrs s.M))∧ρ' K.mb=3
 gon:NumsAt w s.gv s.gn∧∀ k,s.gv.ownBlock=some k→ρ' k=6
 node:∀ q x,s.M q=some x→NodeOk ρ' w q x
section
variable {K:Kc} {s:Hst} {S':Nat→Prop} {ρ':Nat→Nat} {h':Hd} {G':Nat→List UInt8} {w w':World}
theorem Hnd.hw (H:Hnd K s w):Hw K s s.S s.ρ s.h s.G w:=⟨H.pos,H.tree,H.act,H.sub,H.turn,H.low,H.lt,H.chg,H.map,H.gon,H.node⟩
theorem Hw.acts (H:Hw K s S' ρ' h' G' w) {S2:Nat→Prop} {h2:Hd} {G2:Nat→List UInt8} {ρ2:Nat→Nat} (hT:Turn S' w S2 w') (hA:ActV K.J K.B S2 K.c h2 G2 w') (hρ:∀ k,k < w.heap.size→ρ2 k=ρ' k) (hS:∀ k,w.heap.size≤k→S2 k→ρ2 k=1) (hlt:∀ k,w.heap.size≤k→ρ2 k≠0→k < w'.heap.size)
  (h1:∀ k,w.heap.size≤k→ρ2 k≤1):Hw K s S2 ρ2 h2 G2 w':=by
 have hz:=hT.1.size
 have hTR:∀ k,k < w.heap.size→S' k→ρ' k=1:=fun k _ h=>H.sub k h
 have same:∀ k,ρ' k≠0→ρ2 k=ρ' k:=fun k h1=>hρ k (H.lt k h1)
 have blk:∀ k,ρ' k≠0→ρ' k≠1→w'.heap[k]? = w.heap[k]?:=fun k h1 h2=>hT.1.block k (H.lt k h1) fun h=>h2 (H.sub k h)
 have htb:=H.tree.1.lt
 refine ⟨H.pos,⟨H.tree.1.kept hT.1 (fun h=>?_),(hρ _ htb).trans H.tree.2⟩,hA,fun k hk=>?_,H.turn.trans hT,fun k hk=>?_,fun k hk=>?_,⟨?_,?_⟩,⟨?_,?_⟩,⟨ownsRow_of_block H.gon.1 fun k hk'=>?_,fun k hk'=>?_⟩,fun q x hq=>?_⟩
 ·have e1:=H.sub _ h
  rw [H.tree.2] at e1
  omega
 ·rcases Nat.lt_or_ge k w.heap.size with h | h
  ·exact (hρ k h).trans (H.sub k (hT.2 k h hk))
  ·exact hS k h hk
 ·rcases Nat.lt_or_ge k w.heap.size with h | h
  ·rw [hρ k h] at hk;exact H.low k hk
  ·have:=h1 k h;omega
 ·rcases Nat.lt_or_ge k w.heap.size with h | h
  ·omega
  ·exact hlt k h hk
 ·have hr:=H.chg.2
  rw [blk _ (by omega) (by omega)];exact H.chg.1
 ·have hr:=H.chg.2
  rw [same _ (by omega)];exact hr
 ·have hr:=H.map.2
  obtain ⟨m,hm⟩:=H.map.1
  exact ⟨m,hm.block (blk _ (by omega) (by omega))⟩
 ·have hr:=H.map.2
  rw [same _ (by omega)];exact hr
 ·have hr:=H.gon.2 k hk'
  exact blk _ (by omega) (by omega)
 ·have hr:=H.gon.2 k hk'
  rw [same _ (by omega)];exact hr
 ·exact (H.node q x hq).go (R:=fun r=>r=1) hT.1 hTR (by omega) (fun k hk=>.inl (hρ k hk)) H.lt ⟨by omega,by omega,by omega⟩
theorem Hw.post (H:Hw K s S' ρ' h' G' w) {h2:Hd} {G2:Nat→List UInt8} (hA:ActPost K.J K.B S' K.c h2 G2 w w'):∃ S2 ρ2,Hw K s S2 ρ2 h2 G2 w'∧∀ k,k < w.heap.size→ρ' k=0→ρ2 k=0∧w'.heap[k]? = w.heap[k]?:=by
 obtain ⟨S2,hT,hA⟩:=hA
 obtain ⟨ρ2,h1,h2,h3⟩:=roles_act ρ' w.heap.size S2
 have h0:∀ k,w.heap.size≤k→ρ' k=0:=fun k hk=>by
  rcases Nat.eq_zero_or_pos (ρ' k) with e | e
  ·exact e
  ·have:=H.lt k (by omega);omega
 refine ⟨S2,ρ2,H.acts hT hA h1 h2 (fun k hk h0'=>?_) (fun k hk=>?_),fun k hk hz=>⟨(h1 k hk).trans hz,hT.1.block k hk fun hs=>by have:=H.sub k hs;omega⟩⟩
 ·by_cases hs:S2 k
  ·exact (hA.low k hs).2
  ·rw [h3 k hk hs,h0 k hk] at h0'
   exact absurd rfl h0'
 ·by_cases hs:S2 k
  ·rw [h2 k hk hs];exact Nat.le_refl _
  ·rw [h3 k hk hs,h0 k hk];omega
theorem Hw.below (H:Hw K s S' ρ' h' G' w) (hb:Below w.heap.size w w'):Hw K s S' ρ' h' G' w':=by
 have hz:=hb.size
 have h0:∀ k,w.heap.size≤k→ρ' k=0:=fun k hk=>by
  rcases Nat.eq_zero_or_pos (ρ' k) with e | e
  ·exact e
  ·have:=H.lt k (by omega);omega
 have hT:Turn S' w S' w':=⟨Kept.ofBelow hb,fun k _ h=>h⟩
 exact H.acts hT (H.act.below hb) (fun _ _=>rfl) (fun k hk hs=>H.sub k hs) (fun k hk h=>absurd (h0 k hk) h) (fun k hk=>by rw [h0 k hk];omega)
theorem Hw.cb0 (H:Hw K s S' ρ' h' G' w):w.cell? ⟨K.cb,0,none⟩=some (.pointer (some ⟨K.tb,0,none⟩)):=by rw [Lib.cell_of_heap H.chg.1];rfl
theorem Hw.cb1 (H:Hw K s S' ρ' h' G' w):w.cell? ⟨K.cb,1,none⟩=some (.map (some K.mb)):=by rw [Lib.cell_of_heap H.chg.1];rfl
theorem Hw.cb4 (H:Hw K s S' ρ' h' G' w):w.cell? ⟨K.cb,4,none⟩=some s.gv:=by rw [Lib.cell_of_heap H.chg.1];rfl
theorem Hw.look (H:Hw K s S' ρ' h' G' w) {q:Nat} (hq:1≤q∧q < 4096) {x:NO} (hx:s.M q=some x):(Instr.lookup 184 (.map (some K.mb)) (.int .i64 q) false).run Tryz.prog w=.ok x.ptr w:=by
 obtain ⟨m,hm⟩:=H.map.1
 have:=hm.look (t:=184) (e:=127) Tryz.underlying184 (zeroPN w) q hq.2
 rw [ptrs_at _ hq,hx] at this
 exact this
end
theorem rep_at {P:Nat→Nat→List En→Prop}:∀ {L:Nat} {t:Tr L},Rep P t→Tidy t→L < 256→∀ q ∈ t.pages,∃ l es,P q l es∧VN l es
 | 0,t,hr,ht,hL,q,hq=>by
  have:q=t.page:=by simpa [Tr.pages,pagesL] using hq
  subst this
  exact ⟨0,t.ens,hr.at_,tidy_vn ht hL⟩
 | L+1,t,hr,ht,hL,q,hq=>by
  rw [pages_node] at hq
  rcases List.mem_cons.1 hq with rfl | hq
  ·exact ⟨L+1,t.ens,hr.at_,tidy_vn ht hL⟩
  ·obtain ⟨k,hk,hq⟩:=List.mem_flatMap.1 hq
   exact rep_at (hr.kid k hk) ((loose_node.1 ht.1).1.2 k hk) (by omega) q hq
section
variable {K:Kc} {s0 s:Hst} {w w':World} {F:List En} {P ps born dead:List Nat} {r:Nat}
theorem Fin.nodes (f:Fin K s0 s F P r ps born dead w) (h0:∀ q x,s0.M q=some x→1≤q→q < 4096→q ∈ P):∀ q x,s.M q=some x→1≤q→q < 4096→VN x.level x.ens:=by
 intro q x hx h1 h2
 by_cases hq:q ∈ P++born
 ·have hm:=f.perm.mem_iff.2 hq
  rcases List.mem_append.1 hm with hm | hm
  ·rcases f.tree with ⟨_,_,e⟩ | ⟨m,t,ht,_,_,_,hpg,hr⟩
   ·rw [e] at hm;cases hm
   ·have hlev:m≤12:=by
     have hnd:=f.perm.nodup_iff.2 f.new.1
     rw [List.nodup_append] at hnd
     refine ht.level (by rw [hpg];exact hnd.1) fun j hj=>?_
     exact (f.H.has_lt (f.H.rep_has hr j hj)).2
    rw [← hpg] at hm
    obtain ⟨l,es,hc,hv⟩:=rep_at hr ht.1 (by omega) q hm
    obtain ⟨_,_,hc⟩:=hc
    rw [hx] at hc
    obtain ⟨e1,e2⟩:=hc
    rw [e1,e2];exact hv
  ·rcases List.mem_cons.1 hm with e | hm
   ·omega
   ·have:=(f.H.gok.2 q (by rw [f.gn];exact hm)).2
    rw [hx] at this;cases this
 ·have h3:=f.fram.M q h2 hq
  rw [hx] at h3
  exact absurd (List.mem_append.2 (.inl (h0 q x h3.symm h1 h2))) hq
def wG (s:Hst) (l:List Nat):Nat→List UInt8:=fun q=>if q ∈ l then (match s.M q with
 | some x=>pgB x.level x.ens
 | none=>s.G q) else s.G q
theorem wG_nil (s:Hst):wG s []=s.G:=by funext q;unfold wG;rw [if_neg (by simp)]
theorem wG_snoc (s:Hst) (l:List Nat) {q:Nat} {x:NO} (hx:s.M q=some x):wG s (l++[q])=upd (wG s l) q (pgB x.level x.ens):=by
 funext j
 by_cases hj:j=q
 ·subst hj
  rw [upd_same];unfold wG;rw [if_pos (by simp),hx]
 ·rw [upd_other _ _ hj]
  unfold wG
  have:(j ∈ l++[q])=(j ∈ l):=by simp [hj]
  simp only [this]
def Wr (K:Kc) (s:Hst) (g:Nat) (o:Obj) (l:List Nat) (w:World):Prop:=∃ S' ρ',Hw K s S' ρ' s.h (wG s l) w∧ρ' g=0∧w.heap[g]? = some o
theorem Wr.same {g:Nat} {o:Obj} {l:List Nat} {q:Nat} {x:NO} (h:Wr K s g o l w) (hx:s.M q=some x) (hq:q ∉ l) (he:s.G q=pgB x.level x.ens):Wr K s g o (l++[q]) w:=by
 obtain ⟨S',ρ',H,hz,hgo⟩:=h
 refine ⟨S',ρ',⟨H.pos,H.tree,H.act.congr fun j _=>?_,H.sub,H.turn,H.low,H.lt,H.chg,H.map,H.gon,H.node⟩,hz,hgo⟩
 rw [wG_snoc s l hx]
 by_cases hj:j=q
 ·subst hj
  rw [upd_same];unfold wG;rw [if_neg hq];exact he.symm
 ·rw [upd_other _ _ hj]
theorem Wr.round {g:Nat} {o:Obj} {l:List Nat} {q:Nat} {x:NO} (h:Wr K s g o l w) (hM:s.M q=some x) (hq:1≤q∧q < 4096) (hl:q ∉ l) (hv:VN x.level x.ens) (hhas:s.h.has q) (hG:∀ q,s.h.has q→(s.G q).length=512) (hw:x.was=s.G q∨x.was=[]) :
  w.cell? ⟨K.cb,1,none⟩=some (.map (some K.mb))∧(Instr.lookup 184 (.map (some K.mb)) (.int .i64 q) false).run Tryz.prog w=.ok x.ptr w ∧
   Calls Tryz.prog 164 #[x.ptr] w fun e w1=>e=.returned (.string ⟨(pgB x.level x.ens).toArray⟩)∧w1.cell? ⟨x.blk,3,none⟩=some (.string ⟨x.was.toArray⟩) ∧
    (pgB x.level x.ens=x.was→Hid (Wr K s g o (l++[q]) w1))∧w1.cell? ⟨K.cb,0,none⟩=some (.pointer (some ⟨K.tb,0,none⟩))∧w1.cell? ⟨K.tb,1,none⟩=some (.pointer (some ⟨K.c.a,0,none⟩)) ∧
     Hid (Calls Tryz.prog 16 #[.pointer (some ⟨K.c.a,0,none⟩),.int .i64 q,.int .i64 0,.string ⟨(pgB x.level x.ens).toArray⟩] w1 fun e w2=>e=.returned (.int .i64 0)∧Hid (Wr K s g o (l++[q]) w2)):=by
 obtain ⟨S',ρ',H,hz,hgo⟩:=h
 have hgl:g < w.heap.size:=(Array.getElem?_eq_some_iff.1 hgo).1
 have hlen:=pgB_length x.level x.ens hv.fit
 refine ⟨H.cb1,H.look hq hM,(text_ok _ x w (H.node q x hM).at_ hv).mono ?_⟩
 rintro e w1 ⟨rfl,hb⟩
 have H1:=H.below hb
 have hgo1:w1.heap[g]? = some o:=(hb.block g hgl).trans hgo
 refine ⟨rfl,(H1.node q x hM).at_.c3,fun e=>Lib.hid (Wr.same ⟨S',ρ',H1,hz,hgo1⟩ hM hl ?_),H1.cb0,H1.tree.1.c1,Lib.hid ?_⟩
 ·rcases hw with hw | hw
  ·rw [← hw,e]
  ·rw [e,hw] at hlen;simp at hlen
 ·have hg:(wG s l q).length=512:=by unfold wG;rw [if_neg hl];exact hG q hhas
  refine (write_v H1.act q hhas ⟨(pgB x.level x.ens).toArray⟩ (by show (pgB x.level x.ens).toArray.size=512;simpa using hlen) hg).mono ?_
  rintro e w2 ⟨rfl,hp⟩
  obtain ⟨S2,ρ2,H2,hk⟩:=H1.post hp
  obtain ⟨hz2,hgo2⟩:=hk g (Nat.lt_of_lt_of_le hgl hb.size) hz
  have he:(⟨(pgB x.level x.ens).toArray⟩:ByteArray).data.toList=pgB x.level x.ens:=by simp
  rw [he,← wG_snoc s l hM] at H2
  exact ⟨rfl,Lib.hid ⟨S2,ρ2,H2,hz2,hgo2.trans hgo1⟩⟩
end
section
variable {K:Kc} {s:Hst} {w w':World}
theorem row_cell {w:World} {base:Nat} {v:Value} {l:List Nat} (h:w.ownsRow base 3 1 v l.length (l.map fun k:Nat=>Value.int .i64 (k:Int))) {j q:Nat} (hj:l[j]? = some q):∃ g cap,base≤g∧v=.slice (some ⟨g,0,none⟩) l.length cap∧∃ o,w.heap[g]? = some o∧∀ W:World,W.heap[g]? = some o→W.cell? ⟨g,j,none⟩=some (.int .i64 (q:Nat)):=by
 have hlt:=(List.getElem?_eq_some_iff.1 hj).1
 rcases h.2 with ⟨_,h0⟩ | ⟨g,cap,cur,hv,hb,hh,_,_,_,htk⟩
 ·omega
 ·refine ⟨g,cap,hb,hv,_,hh,fun W hW=>?_⟩
  have h1:(l.map fun k:Nat=>Value.int .i64 (k:Int))[j]? = some (.int .i64 (q:Nat)):=by rw [List.getElem?_map,hj];rfl
  rw [← htk,List.getElem?_take,if_pos (by omega)] at h1
  rw [Lib.cell_of_heap hW,← Array.getElem?_toList];exact h1
theorem row_shape {w:World} {base:Nat} {v:Value} {l:List Nat} (h:w.ownsRow base 3 1 v l.length (l.map fun k:Nat=>Value.int .i64 (k:Int))):∃ a cap,v=.slice a l.length cap:=by
 rcases h.2 with ⟨rfl,h0⟩ | ⟨g,cap,cur,hv,_⟩
 ·exact ⟨none,0,by rw [h0]⟩
 ·exact ⟨_,_,hv⟩
def Fre (K:Kc) (s:Hst) (ks l:List Nat) (w:World):Prop:=∃ S' ρ' h',Hw K s S' ρ' h' (wG s ks) w∧(∀ q,h'.has q ↔ s.h.has q∧q ∉ l)∧h'.roots=s.h.roots
theorem Wr.fre {g:Nat} {o:Obj} {ks:List Nat} (h:Wr K s g o ks w):Fre K s ks [] w:=by
 obtain ⟨S',ρ',H,_⟩:=h
 exact ⟨S',ρ',s.h,H,fun q=>by simp,rfl⟩
theorem Fre.round {ks l:List Nat} (h:Fre K s ks l w) {j q:Nat} (hj:s.gn[j]? = some q) (hq:s.h.has q) (hl:q ∉ l) :
  ∃ g cap,s.gv=.slice (some ⟨g,0,none⟩) s.gn.length cap∧w.cell? ⟨g,j,none⟩=some (.int .i64 (q:Nat))∧w.cell? ⟨K.cb,0,none⟩=some (.pointer (some ⟨K.tb,0,none⟩))∧w.cell? ⟨K.tb,1,none⟩=some (.pointer (some ⟨K.c.a,0,none⟩)) ∧
   Hid (Calls Tryz.prog 17 #[.pointer (some ⟨K.c.a,0,none⟩),.int .i64 (q:Nat)] w fun e w2=>e=.returned (.int .i64 0)∧Hid (Fre K s ks (l++[q]) w2)):=by
 obtain ⟨S',ρ',h',H,hh,hr⟩:=h
 obtain ⟨g,cap,_,hv,o,ho,hc⟩:=row_cell H.gon.1 hj
 have hhq:h'.has q:=(hh q).2 ⟨hq,hl⟩
 refine ⟨g,cap,hv,hc w ho,H.cb0,H.tree.1.c1,Lib.hid ((free_v H.act q hhq).mono ?_)⟩
 rintro e w2 ⟨rfl,hp⟩
 obtain ⟨S2,ρ2,H2,_⟩:=H.post hp
 refine ⟨rfl,Lib.hid ⟨S2,ρ2,h'.turn q,H2,fun r=>?_,hr⟩⟩
 rw [has_turn H.act.ok hhq r,hh r,List.mem_append,List.mem_singleton,not_or,and_assoc]
end
end Go.Proofs.YtfbbjiidccbaiaaGreatDoor
