/- Texts of one proof, one behind the other: TG, TH, TI, TN, TO, TP, TQ, TR. -/
import Derived.Test.YtfbbjiidccbaiaaGreatDoorMAH
import Derived.Test.YtfbbjiidccbaiaaGreatDoorMAB
import Derived.Lib.BytesEntry
import Derived.Laws.Externs
import Derived.Test.YtfbbjiidccbaiaaGreatDoorMAF
set_option maxRecDepth 100000
namespace Go.Proofs.YtfbbjiidccbaiaaGreatDoor
open Go.RowKit
def PoolK (J:List RawOp→Prop) (B:Nat) (S:Nat→Prop) (p d n:Nat) (C:Nat→List UInt8) (P:Nat→Nat) (M N:Nat) (w:World):Prop :=
 ∃ fb mb hand m fr Sd ops,J ops∧PoolG p d fb mb n hand m fr w∧Filled n m fr∧DiskAt Sd d ops w∧View n fr ops C P M∧ops.length+chg n fr≤N∧(¬ Sd p∧¬ Sd fb∧¬ Sd mb)∧(∀ k,Sd k∨k=p∨k=fb∨k=mb→S k)∧∀ k,S k→B≤k∧k < w.heap.size
theorem PoolJ.toK {J:List RawOp→Prop} {B p d n N:Nat} {S:Nat→Prop} {w:World} {C:Nat→List UInt8} {P:Nat→Nat} (h:PoolJ J B S p d n C P N w):PoolK J B S p d n C P N N w:=by
 obtain ⟨fb,mb,hand,m,fr,Sd,ops,hJ,h1,h2,h3,h4,h5⟩:=h
 exact ⟨fb,mb,hand,m,fr,Sd,ops,hJ,h1,h2,h3,h4,h4.cost,h5⟩
theorem PoolK.toJ {J:List RawOp→Prop} {B p d n M N:Nat} {S:Nat→Prop} {w:World} {C:Nat→List UInt8} {P:Nat→Nat} (h:PoolK J B S p d n C P M N w):PoolJ J B S p d n C P (max M N) w:=by
 obtain ⟨fb,mb,hand,m,fr,Sd,ops,hJ,h1,h2,h3,h4,h5,h6⟩:=h
 exact ⟨fb,mb,hand,m,fr,Sd,ops,hJ,h1,h2,h3,⟨h4.held,h4.free,by omega,fun q=>Nat.le_trans (h4.bnd q) (Nat.le_max_left _ _)⟩,h6⟩
theorem PoolK.rest {J:List RawOp→Prop} {B p d n M N:Nat} {S:Nat→Prop} {w:World} {C:Nat→List UInt8} (h:PoolK J B S p d n C P0 M N w):PoolJ J B S p d n C P0 N w:=by
 obtain ⟨fb,mb,hand,m,fr,Sd,ops,hJ,h1,h2,h3,h4,h5,h6⟩:=h
 exact ⟨fb,mb,hand,m,fr,Sd,ops,hJ,h1,h2,h3,⟨h4.held,h4.free,h5,fun q=>Nat.zero_le _⟩,h6⟩
section
variable {n:Nat} {fr fr':Nat→Option Fr} {ops:List RawOp}
theorem late_cost (hl:Late fr fr'):chg n fr'=chg n fr:=chg_same fun i=>by
 obtain ⟨b,hb⟩:=hl i
 rw [hb]
 cases fr i <;> rfl
theorem upd_cost {i:Nat} {f f':Fr} (hi:fr i=some f) (hin:i < n) (hc:f'.changed=f.changed):chg n (upd fr i (some f'))=chg n fr:=by
 have:=chg_upd fr (some f') hin
 rw [hi] at this
 simp only [cb,hc] at this
 omega
theorem load_cost {i q:Nat} {bs:List UInt8} {x:Nat} {b:Bool} (hi:fr i=none) (hin:i < n):chg n (upd fr i (some ⟨q,x,b,false,bs⟩))=chg n fr:=by
 have:=chg_upd fr (some ⟨q,x,b,false,bs⟩) hin
 rw [hi] at this
 simp only [cb] at this
 simpa using this
theorem evict_cost {i:Nat} {f:Fr} (hi:fr i=some f) (hin:i < n):(saved f ops).length+chg n (upd fr i none)≤ops.length+chg n fr:=by
 have:=chg_upd fr none hin
 rw [hi] at this
 unfold saved
 cases hc:f.changed <;> simp [cb,hc] at this ⊢ <;> omega
end
section
variable {B p d n M N:Nat} {S:Nat→Prop} {w w':World} {C:Nat→List UInt8} {P:Nat→Nat} {J:List RawOp→Prop}
theorem poolK_mk {fb mb hand m:Nat} {fr:Nat→Option Fr} {Sd:Nat→Prop} {ops:List RawOp} (hJ:J ops) (h1:PoolG p d fb mb n hand m fr w') (h2:Filled n m fr) (h3:DiskAt Sd d ops w') (h4:View n fr ops C P M) (hc4:ops.length+chg n fr≤N) (h5:¬ Sd p∧¬ Sd fb∧¬ Sd mb)
  (h6:∀ k,Sd k→S k∨w.heap.size≤k) (h7:S p∧S fb∧S mb) (h8:∀ k,S k→B≤k∧k < w.heap.size) (h9:Kept S w w'):∃ S',Turn S w S' w'∧PoolK J B S' p d n C P M N w':=by
 refine ⟨fun k=>(S k∨w.heap.size≤k)∧k < w'.heap.size,⟨h9,fun k hk hs=>hs.1.elim id (by omega)⟩,fb,mb,hand,m,fr,fun k=>Sd k∧k < w'.heap.size,ops,hJ,h1,h2,h3.bound,h4,hc4,⟨fun h=>h5.1 h.1,fun h=>h5.2.1 h.1,fun h=>h5.2.2 h.1⟩,?_,?_⟩
 ·rintro k (⟨h,hlt⟩ | rfl | rfl | rfl)
  ·exact ⟨h6 k h,hlt⟩
  ·exact ⟨.inl h7.1,h1.lt⟩
  ·exact ⟨.inl h7.2.1,h1.ltF⟩
  ·exact ⟨.inl h7.2.2,h1.ltM⟩
 ·rintro k ⟨hk,hlt⟩
  refine ⟨hk.elim (fun h=>(h8 k h).1) (fun h=>?_),hlt⟩
  have:=h8 p h7.1
  omega
end
def PinPostK (J:List RawOp→Prop) (B:Nat) (S:Nat→Prop) (p d n:Nat) (C:Nat→List UInt8) (P:Nat→Nat) (M N q:Nat) (w:World) (e:Ending) (w':World):Prop :=
 ∃ S',Turn S w S' w'∧(e=.returned (.int .i64 40)∧P q=0∧pinnedN P=n∧PoolK J B S' p d n C P M N w'∨e=.returned (.int .i64 0)∧¬ (P q=0∧pinnedN P=n)∧PoolK J B S' p d n C (upd P q (P q+1)) (M+1) N w')
theorem pin_k (J:List RawOp→Prop) (B:Nat) (S:Nat→Prop) (p d n:Nat) (C:Nat→List UInt8) (P:Nat→Nat) (M N q:Nat) (w:World) (h:PoolK J B S p d n C P M N w) (hM:M≤4398046511104) (hN:N≤4398046511104) (hq:q < 4096) (hcl:∀ ops q,J ops→J (ops++[.put 1 (q*512) ⟨(C q).toArray⟩])) :
  Calls Tryz.prog 97 #[.pointer (some ⟨p,0,none⟩),.int .i64 q] w (PinPostK J B S p d n C P M N q w):=by
 obtain ⟨fb,mb,hand,m,fr,Sd,ops,hJ,hG,hF,hD,hV,hcst,hO,hS,hB⟩:=h
 have hSS:S p∧S fb∧S mb:=⟨hS p (.inr (.inl rfl)),hS fb (.inr (.inr (.inl rfl))),hS mb (.inr (.inr (.inr rfl)))⟩
 by_cases hx:∃ i f,fr i=some f∧f.page=q
 ·
  obtain ⟨i,f,hi,rfl⟩:=hx
  obtain ⟨hin,_,hfb,_⟩:=hG.at_ i f hi
  obtain ⟨hC,hP,_⟩:=hV.held i f hi
  have hpn:f.pins≤M:=by rw [← hP];exact hV.bnd _
  refine (pin_held p d fb mb n hand m i fr f w hG hi (by omega)).mono ?_
  rintro e w' ⟨rfl,g1,g2⟩
  have hV2:=hV.turn hG.one hi hin (f':={ f with pins:=f.pins+1,lately:=true }) rfl (fun h=>⟨h,rfl⟩) (by show f.pins+1≤M+1;omega)
  have hC2:upd C f.page f.bytes=C:=by rw [← hC];exact upd_self _ _
  have hV3:View n (upd fr i (some { f with pins:=f.pins+1,lately:=true })) ops C (upd P f.page (P f.page+1)) (M+1):=by
   rw [hP];rw [show ({ f with pins:=f.pins+1,lately:=true }:Fr).bytes=f.bytes from rfl,hC2] at hV2;exact hV2
  obtain ⟨S',hT,hSt⟩:=poolK_mk (N:=N) (S:=S) (B:=B) (w:=w) hJ g1 ⟨hF.1,fun j=>by
   rw [hF.2 j]
   by_cases hj:j=i
   ·subst hj;rw [upd_same];exact ⟨fun _=>⟨_,rfl⟩,fun _=>⟨f,hi⟩⟩
   ·rw [upd_other _ _ hj]⟩ (hD.kept g2 (fun k _ hs e=>hO.2.1 (e ▸ hs))) hV3 (by rw [upd_cost (f':={ f with pins:=f.pins+1,lately:=true }) hi hin rfl];exact hcst) hO (fun k hk=>.inl (hS k (.inl hk))) hSS hB (g2.mono (fun k hk=>hk ▸ hSS.2.1))
  refine ⟨S',hT,.inr ⟨rfl,?_,hSt⟩⟩
  rintro ⟨h0,h1⟩
  exact full_no hG hV hin (fun g hg=>by rw [hi] at hg;cases hg;omega) h1
 ·have hno:∀ j f,fr j=some f→f.page≠q:=fun j f hj e=>hx ⟨j,f,hj,e⟩
  have hP0:=(hV.free q hno).2
  by_cases hm:m < n
  ·
   have hnone:fr m=none:=by
    cases hf:fr m with
    | none=>rfl
    | some f=>have:=(hF.2 m).2 ⟨f,hf⟩;omega
   have hs:Calls Tryz.prog 137 #[.pointer (some ⟨p,0,none⟩)] w fun e w'=>∃ i hand' m' fr' S ops',e=.returned (ptrFr fb i)∧Spared S p d fb mb n q hand' m' fr' ops' i w'∧(i=m∧m'=m∧fr'=fr∧S=Sd∧ops'=ops∧w'=w) :=
    (spare_free p d fb mb n hand m fr w hG hm).mono fun e w' ⟨h1,h2⟩=>⟨m,hand,m,fr,Sd,ops,h1,by subst h2;exact ⟨hG,hnone,hm,hF.1,hno,hD,hO.1,hO.2.1,hO.2.2⟩,rfl,rfl,rfl,rfl,rfl,h2⟩
   refine (pin_new p d fb mb n hand m fr q (fun i m' fr' S ops' w'=>i=m∧m'=m∧fr'=fr∧S=Sd∧ops'=ops∧w'=w) w hG hq hno hs).mono ?_
   rintro e w' ⟨rfl,i,hand',m',fr',S2,ops',w1,_,⟨hX1,hX2,hX3,hX4,hX5,hX6⟩,g1,g2,g3⟩
   subst hX2 hX3 hX4 hX5 hX6
   rw [hX1] at g1
   obtain ⟨S',hT,hSt⟩:=poolK_mk (N:=N) (S:=S) (B:=B) (w:=w1) hJ g1 ⟨hm,fun j=>by
    by_cases hj:j=m'
    ·subst hj;rw [upd_same];exact ⟨fun _=>⟨_,rfl⟩,fun _=>by omega⟩
    ·rw [upd_other _ _ hj,← hF.2 j];omega⟩ g2 (hV.load hnone hm hno) (by rw [load_cost hnone hm];exact hcst) hO (fun k hk=>.inl (hS k (.inl hk))) hSS hB (g3.mono (fun k hk=>by rcases hk with rfl | rfl;exact hSS.2.1;exact hSS.2.2))
   refine ⟨S',hT,.inr ⟨rfl,?_,?_⟩⟩
   ·rintro ⟨_,h1⟩
    exact full_no hG hV hm (fun g hg=>by rw [hnone] at hg;cases hg) h1
   ·rw [hP0];exact hSt
  ·have hmn:m=n:=by have:=hF.1;omega
   have hsp:=spare_full p d fb mb n hand m fr Sd ops w hG hF hmn hD (by omega) hO.1 hO.2.1 hO.2.2
   by_cases hall:∀ i,i < n→∃ f,fr i=some f∧0 < f.pins
   ·
    have hs:Calls Tryz.prog 137 #[.pointer (some ⟨p,0,none⟩)] w fun e w'=>e=.returned (.pointer none)∧∃ hand' fr',Late fr fr'∧PoolG p d fb mb n hand' m fr' w'∧Kept (fun k=>k=p∨k=fb) w w':=by
     refine hsp.mono ?_
     rintro e w' ⟨hand',fr',hL,he | ⟨i,f,S',hin,hi,hp,_⟩⟩
     ·exact ⟨he.1,hand',fr',hL,he.2.1,he.2.2.2⟩
     ·exfalso
      obtain ⟨f0,hf0,_,e2,_⟩:=late_some hL hi
      obtain ⟨g,hg,hgp⟩:=hall i hin
      rw [hf0] at hg;cases hg
      omega
    refine (pin_nil p d fb mb n hand m fr q (fun w'=>∃ hand' fr',Late fr fr'∧PoolG p d fb mb n hand' m fr' w'∧Kept (fun k=>k=p∨k=fb) w w') w hG hq hno hs).mono ?_
    rintro e w' ⟨rfl,hand',fr',hL,g1,g2⟩
    obtain ⟨S',hT,hSt⟩:=poolK_mk (N:=N) (S:=S) (B:=B) (w:=w) hJ g1 ⟨hF.1,fun j=>by
     rw [hF.2 j]
     constructor
     ·rintro ⟨f,hf⟩;obtain ⟨b,hb⟩:=late_back hL hf;exact ⟨_,hb⟩
     ·rintro ⟨f,hf⟩;obtain ⟨f0,hf0,_⟩:=late_some hL hf;exact ⟨_,hf0⟩⟩ (hD.kept g2 (fun k _ hsd e=>by rcases e with rfl | rfl;exact hO.1 hsd;exact hO.2.1 hsd)) (hV.late hL) (by rw [late_cost hL];exact hcst) hO (fun k hk=>.inl (hS k (.inl hk))) hSS hB (g2.mono (fun k hk=>by rcases hk with rfl | rfl;exact hSS.1;exact hSS.2.1))
    exact ⟨S',hT,.inl ⟨rfl,hP0,full_yes hG hV hall,hSt⟩⟩
   ·
    obtain ⟨i0,hi0,hp0⟩:∃ i,i < n∧∀ f,fr i=some f→f.pins=0:=by
     refine Classical.byContradiction fun hc=>hall fun i hi=>?_
     obtain ⟨f,hf⟩:=(hF.2 i).1 (by omega)
     refine ⟨f,hf,?_⟩
     refine Classical.byContradiction fun hc2=>hc ⟨i,hi,fun g hg=>?_⟩
     rw [hf] at hg;cases hg;omega
    have hs:Calls Tryz.prog 137 #[.pointer (some ⟨p,0,none⟩)] w fun e w'=>∃ i hand' m' fr2 S2 ops',e=.returned (ptrFr fb i)∧Spared S2 p d fb mb n q hand' m' fr2 ops' i w' ∧
      (m'=m - 1∧(∃ fr1 f,Late fr fr1∧fr1 i=some f∧f.pins=0∧fr2=upd fr1 i none∧ops'=saved f ops∧f.bytes.length=512)∧Kept (fun k=>Sd k∨k=p∨k=fb∨k=mb) w w'∧∀ k,S2 k→Sd k∨w.heap.size≤k):=by
     refine hsp.mono ?_
     rintro e w' ⟨hand',fr',hL,⟨_,_,ha,_⟩ | ⟨i,f,S2,hin,hi,hp,he,g1,g2,g3,g4⟩⟩
     ·exfalso
      obtain ⟨f,hf⟩:=(hF.2 i0).1 (by omega)
      obtain ⟨b,hb⟩:=late_back hL hf
      have h1:=ha i0 _ hi0 hb
      have h2:=hp0 f hf
      simp only at h1
      omega
     ·obtain ⟨f0,hf0,_,_,_,e4⟩:=late_some hL hi
      have hbl:f.bytes.length=512:=by rw [e4];exact (hG.at_ i f0 hf0).2.2.1
      refine ⟨i,hand',m - 1,upd fr' i none,S2,saved f ops,he,⟨g1,upd_same _ _ _,hin,by omega,fun j g hg=>?_,g2,?_,?_,?_⟩,rfl,⟨fr',f,hL,hi,hp,rfl,rfl,hbl⟩,g3,g4⟩
      ·by_cases hj:j=i
       ·subst hj;rw [upd_same] at hg;cases hg
       ·rw [upd_other _ _ hj] at hg
        obtain ⟨g0,hg0,e1,_⟩:=late_some hL hg
        rw [e1];exact hno j g0 hg0
      ·exact fun hh=>(g4 p hh).elim hO.1 (by have:=hG.lt;omega)
      ·exact fun hh=>(g4 fb hh).elim hO.2.1 (by have:=hG.ltF;omega)
      ·exact fun hh=>(g4 mb hh).elim hO.2.2 (by have:=hG.ltM;omega)
    refine (pin_new p d fb mb n hand m fr q _ w hG hq hno hs).mono ?_
    rintro e w' ⟨rfl,i,hand',m',fr2,S2,ops',w1,hSp,⟨rfl,⟨fr1,f,hL,hi,hp,rfl,rfl,hbl⟩,k1,k2⟩,g1,g2,g3⟩
    have one1:∀ a b x y,fr1 a=some x→fr1 b=some y→x.page=y.page→a=b:=fun a b x y hx hy hxy=>by
     obtain ⟨x0,hx0,ex,_⟩:=late_some hL hx
     obtain ⟨y0,hy0,ey,_⟩:=late_some hL hy
     exact hG.one a b x0 y0 hx0 hy0 (by omega)
    have hV1:=(hV.late hL).evict one1 hi hSp.lt hbl hp
    have hV2:=hV1.load hSp.none_ hSp.lt hSp.no
    have hn1:=hG.n1
    have hJ2:J (saved f ops):=by
     unfold saved
     cases hc:f.changed
     ·exact hJ
     ·have:=hcl ops f.page hJ
      rwa [((hV.late hL).held i f hi).1] at this
    obtain ⟨S',hT,hSt⟩:=poolK_mk (N:=N) (S:=S) (B:=B) (w:=w) hJ2 g1 ⟨by omega,fun j=>by
     by_cases hj:j=i
     ·subst hj;rw [upd_same]
      have:=hSp.lt
      exact ⟨fun _=>⟨_,rfl⟩,fun _=>by omega⟩
     ·rw [upd_other _ _ hj,upd_other _ _ hj]
      rw [show j < m - 1+1 ↔ j < m from by omega,hF.2 j]
      constructor
      ·rintro ⟨f,hf⟩;obtain ⟨b,hb⟩:=late_back hL hf;exact ⟨_,hb⟩
      ·rintro ⟨f,hf⟩;obtain ⟨f0,hf0,_⟩:=late_some hL hf;exact ⟨_,hf0⟩⟩ g2 hV2 (by rw [load_cost hSp.none_ hSp.lt];have h1:=evict_cost (ops:=ops) hi hSp.lt;rw [late_cost hL] at h1;omega) ⟨hSp.oP,hSp.oF,hSp.oM⟩ (fun k hk=>(k2 k hk).imp (fun h=>hS k (.inl h)) id) hSS hB
     ((k1.mono (fun k hk=>hS k hk)).trans g3 (fun k hk=>by rcases hk with rfl | rfl;exact .inl hSS.2.1;exact .inl hSS.2.2))
    refine ⟨S',hT,.inr ⟨rfl,?_,?_⟩⟩
    ·rintro ⟨_,h1⟩
     exact full_no hG hV hi0 hp0 h1
    ·rw [hP0];exact hSt
theorem unpin_k {J:List RawOp→Prop} {B p d n M N:Nat} {S:Nat→Prop} {w:World} {C:Nat→List UInt8} {P:Nat→Nat} (h:PoolK J B S p d n C P M N w) (q:Nat) (hp:0 < P q) (hM:M≤4398046511104) :
  Calls Tryz.prog 99 #[.pointer (some ⟨p,0,none⟩),.int .i64 q] w fun e w'=>e=.returned (.int .i64 0)∧∃ S',Turn S w S' w'∧PoolK J B S' p d n C (upd P q (P q - 1)) (M+1) N w':=by
 obtain ⟨fb,mb,hand,m,fr,Sd,ops,hJ,hG,hF,hD,hV,hcst,hO,hS,hB⟩:=h
 obtain ⟨i,f,hi,rfl,_,hfp,_⟩:=holder hG hV hp
 have hb:=hV.bnd f.page
 refine (unpin_yes p d fb mb n hand m i fr f w hG hi (by omega) (by omega)).mono ?_
 rintro e w' ⟨rfl,g1,g2,g3⟩
 have hSS:S p∧S fb∧S mb:=⟨hS p (.inr (.inl rfl)),hS fb (.inr (.inr (.inl rfl))),hS mb (.inr (.inr (.inr rfl)))⟩
 have hin:=(hG.at_ i f hi).1
 obtain ⟨S',hT,hSt⟩:=poolK_mk (M:=M+1) (N:=N) (J:=J) (C:=upd C f.page f.bytes) (P:=upd P f.page (f.pins - 1)) (S:=S) (B:=B) hJ (hG.turnFr hi g2 g3 g1 (hG.at_ i f hi).2.2.1 rfl) ⟨hF.1,fun j=>by
   rw [hF.2 j]
   by_cases hj:j=i
   ·subst hj;rw [upd_same];exact ⟨fun _=>⟨_,rfl⟩,fun _=>⟨f,hi⟩⟩
   ·rw [upd_other _ _ hj]⟩ (hD.kept g3 (fun k _ hs e=>hO.2.1 (e ▸ hs))) (hV.turn hG.one hi hin rfl (fun h=>⟨h,rfl⟩) (by show f.pins - 1≤M+1;omega)) (by rw [upd_cost (f':={ f with pins:=f.pins - 1 }) hi hin rfl];exact hcst) hO (fun k hk=>.inl (hS k (.inl hk))) hSS hB (g3.mono (fun k hk=>hk ▸ hSS.2.1))
 refine ⟨rfl,S',hT,?_⟩
 have hC:=(hV.held i f hi).1
 rw [← hC,upd_self] at hSt
 rw [← hfp];exact hSt
section
variable {J:List RawOp→Prop} {B s d l p n N a db m:Nat} {S:Nat→Prop} {C:Nat→List UInt8} {last h:Hd} {cur:Option Nat} {D:Nat→Option Dr} {w:World}
set_option maxHeartbeats 1600000 in
theorem aread_draft (q:Nat) (y:Dr) (x:ActSt w a s d l p db m last h D) (hq:D q=some y) :
  Calls Tryz.prog 13 #[.pointer (some ⟨a,0,none⟩),.int .i64 q] w fun e w'=>e=.returned (.tuple #[.string ⟨y.now.toArray⟩,.int .i64 0])∧w'=w:=by
 have h1:=refusesPage_live q x
 have hhas:=x.has q y hq
 rw [if_pos (by rw [Int.toNat_natCast];exact ⟨by have:=hhas.1;omega,hhas⟩)] at h1
 have HP:=Lib.hid h1
 have hlk:=x.dr.look hq
 unfold Dr.ptr at hlk
 have c83:=x.ac.dr
 obtain ⟨g1,g2,g3,g4,g5,g6,g7⟩:=x.dr.at_ q y hq
 have hcv:=run_string_mid w y.blk 513 512 y.now (Dr.range_now g2 g4)
 rw [g5] at hcv
 obtain ⟨t,ht⟩:∃ t:ByteArray,t=⟨y.now.toArray⟩:=⟨_,rfl⟩
 rw [← ht] at hcv ⊢
 obtain ⟨yb,hyb⟩:∃ yb,yb=y.blk:=⟨_,rfl⟩
 rw [← hyb] at hlk hcv g7
 clear h1 x hq hhas g1 g2 g3 g4 g5 g6 ht hyb
 go_enter Tryz.func13,Tryz.ntmps13
 go_wp2_with fail
 refine HP.out.mono ?_
 rintro e w' ⟨rfl,hw⟩
 subst w'
 go_wp2
 go_ret2
 exact ⟨rfl,rfl⟩
def ReadK (J:List RawOp→Prop) (B:Nat) (S:Nat→Prop) (p d n:Nat) (C:Nat→List UInt8) (N:Nat) (w w':World):Prop :=
 ∃ S',Turn S w S' w'∧PoolJ J B S' p d n C P0 N w'
set_option maxHeartbeats 1600000 in
theorem sread_k (q:Nat) (x:SpaceAt w s d l p last cur) (hs:¬ S s) (g:PoolJ J B S p d n C P0 N w) (hq:q < 4096) (hn:0 < n) (hN:N≤4398046511000) (hcl:Saves J) :
  Calls Tryz.prog 52 #[.pointer (some ⟨s,1,none⟩),.int .i64 q] w fun e w'=>e=.returned (.string ⟨(C q).toArray⟩)∧ReadK J B S p d n C N w w':=by
 have hsl:=x.lt
 have hpl:=x.pl
 have HPI:Hid (Calls Tryz.prog 97 #[.pointer (some ⟨p,0,none⟩),.int .i64 q] w fun e w1=>e=.returned (.int .i64 0)∧w1.cell? ⟨s,3,none⟩=some (.pointer (some ⟨p,0,none⟩))∧s < w1.heap.size∧Hid (∃ S1,Turn S w S1 w1∧¬ S1 s∧PoolK J B S1 p d n C (upd P0 q (P0 q+1)) (N+1) N w1)):=Lib.hid (by
  refine (pin_k J B S p d n C P0 N N q w g.toK (by omega) (by omega) hq (fun ops q=>hcl ops q _)).mono ?_
  rintro e w1 ⟨S1,hT,⟨_,_,h2,_⟩ | ⟨rfl,_,h3⟩⟩
  ·exact absurd h2 (pinned0 hn)
  ·exact ⟨rfl,(World.cell?_of_block (hT.1.block s hsl hs)).trans hpl,Nat.lt_of_lt_of_le hsl hT.1.size,Lib.hid ⟨S1,hT,hT.not hsl hs,h3⟩⟩)
 have HN:=Lib.hid hN
 clear x hs g hq hn hcl hN
 go_enter Tryz.func52,Tryz.ntmps52
 go_wp2_with fail
 refine HPI.out.mono ?_
 rintro e w1 ⟨rfl,hp1,hs1,hr⟩
 obtain ⟨S1,hT1,hn1,hK1⟩:=hr.out
 have HRD:Hid (Calls Tryz.prog 98 #[.pointer (some ⟨p,0,none⟩),.int .i64 q] w1 fun e w'=>e=.returned (.tuple #[.string ⟨(C q).toArray⟩,.int .i64 0])∧w'=w1):=Lib.hid (read_j hK1.toJ q (by rw [upd_same];omega))
 have HUN:Hid (Calls Tryz.prog 99 #[.pointer (some ⟨p,0,none⟩),.int .i64 q] w1 fun e w'=>e=.returned (.int .i64 0)∧ReadK J B S p d n C N w w'):=Lib.hid (by
  refine (unpin_k hK1 q (by rw [upd_same];omega) (by have:=HN.out;omega)).mono ?_
  rintro e w' ⟨rfl,S2,hT2,h2⟩
  rw [upd_back] at h2
  exact ⟨rfl,S2,hT1.trans hT2,h2.rest⟩)
 clear hr hT1 hn1 hK1
 go_wp2_with fail
 refine HRD.out.mono ?_
 rintro e w' ⟨rfl,hw⟩
 subst w'
 go_wp2_with fail
 refine HUN.out.mono ?_
 rintro e w2 ⟨rfl,hend⟩
 have HE:=Lib.hid hend
 clear hend
 go_wp2
 go_ret
 exact ⟨rfl,HE.out⟩
set_option maxHeartbeats 1600000 in
theorem aread_k (q:Nat) (x:ActSt w a s d l p db m last h D) (hs:¬ S s) (g:PoolJ J B S p d n C P0 N w) (hq:h.has q) (hD:D q=none) (hn:0 < n) (hN:N≤4398046511000) (hcl:Saves J) :
  Calls Tryz.prog 13 #[.pointer (some ⟨a,0,none⟩),.int .i64 q] w fun e w'=>e=.returned (.tuple #[.string ⟨(C q).toArray⟩,.int .i64 0])∧ReadK J B S p d n C N w w':=by
 have h1:=refusesPage_live q x
 have hq4:q < 4096:=by have:=hq.2.1;have:=x.ok.cnt;omega
 rw [if_pos (by rw [Int.toNat_natCast];exact ⟨by have:=hq.1;omega,hq⟩)] at h1
 have HP:=Lib.hid h1
 have hlk:=x.dr.look_none hq4 hD
 have HRD:=Lib.hid (sread_k q x.sp hs g hq4 hn hN hcl)
 have c83:=x.ac.dr
 have c1:=x.ac.st
 clear h1 x hs g hq hD hn hN hcl
 go_enter Tryz.func13,Tryz.ntmps13
 go_wp2_with fail
 refine HP.out.mono ?_
 rintro e w' ⟨rfl,hw⟩
 subst w'
 go_wp2_with fail
 refine HRD.out.mono ?_
 rintro e w1 ⟨rfl,hend⟩
 have HE:=Lib.hid hend
 clear hend
 go_wp2
 go_ret2
 exact ⟨rfl,HE.out⟩
end
structure Ac where
 a:Nat
 s:Nat
 d:Nat
 l:Nat
 p:Nat
 db:Nat
 n:Nat
 N:Nat
 C:Nat→List UInt8
 last:Hd
def pgD (C:Nat→List UInt8) (D:Nat→Option Dr) (q:Nat):List UInt8:=match D q with
 | some x=>x.now
 | none=>C q
def DrOk (C:Nat→List UInt8) (D:Nat→Option Dr):Prop:=∀ q x,D q=some x→x.was=if x.fresh then noughts else C q
structure ActV (J:List RawOp→Prop) (B:Nat) (S:Nat→Prop) (c:Ac) (h:Hd) (G:Nat→List UInt8) (w:World):Prop where
 live:∃ m D S0,LiveSt J B S0 c.a c.s c.d c.l c.p c.db m c.n c.C c.N c.last h D w∧(∀ k,S0 k→S k)∧(∀ q x,D q=some x→S x.blk)∧DrOk c.C D∧∀ q,h.has q→G q=pgD c.C D q
 own:S c.a∧S c.s∧S c.l∧S c.db
 low:∀ k,S k→B≤k∧k < w.heap.size
 saves:Saves J
 cost:c.N≤4398046511000
 tab:Tab w∧1≤B
theorem has_turn {h:Hd} (k:h.Ok) {q:Nat} (hq:h.has q) (j:Nat):(h.turn q).has j ↔ h.has j∧j≠q:=by
 have hlt:q < 4096:=by have:=hq.2.1;have:=k.cnt;omega
 unfold Hd.has at hq ⊢
 rw [Hd.isFree_turn k hlt]
 have hc:(h.turn q).count=h.count:=rfl
 rw [hc]
 by_cases hj:j=q
 ·subst hj;rw [if_pos rfl,hq.2.2];simp
 ·rw [if_neg hj];simp [hj]
section
variable {J:List RawOp→Prop} {B:Nat} {S:Nat→Prop} {c:Ac} {h:Hd} {G:Nat→List UInt8} {w w':World}
theorem ActV.ok (x:ActV J B S c h G w):h.Ok:=by
 obtain ⟨m,D,S0,hL,_⟩:=x.live
 exact hL.act.ok
theorem ActV.size (x:ActV J B S c h G w):B≤w.heap.size:=by
 obtain ⟨m,D,S0,hL,_⟩:=x.live
 exact hL.size
theorem ActV.has_lt (x:ActV J B S c h G w) {q:Nat} (hq:h.has q):1≤q∧q < 4096:=by
 have:=hq.2.1;have:=x.ok.cnt;exact ⟨hq.1,by omega⟩
theorem ActV.len (x:ActV J B S c h G w) {q:Nat} (hq:h.has q) (hC:(c.C q).length=512):(G q).length=512:=by
 obtain ⟨m,D,S0,hL,_,_,_,hG⟩:=x.live
 rw [hG q hq]
 unfold pgD
 cases hD:D q with
 | none=>exact hC
 | some y=>exact (hL.act.dr.at_ q y hD).2.2.2.2.1
theorem ActV.congr {G':Nat→List UInt8} (x:ActV J B S c h G w) (hG:∀ q,h.has q→G' q=G q):ActV J B S c h G' w:=by
 obtain ⟨m,D,S0,hL,h1,h2,h3,h4⟩:=x.live
 exact ⟨⟨m,D,S0,hL,h1,h2,h3,fun q hq=>(hG q hq).trans (h4 q hq)⟩,x.own,x.low,x.saves,x.cost,x.tab⟩
theorem ActV.kept {T:Nat→Prop} (x:ActV J B S c h G w) (hk:Kept T w w') (hT:∀ k,T k→k < w.heap.size→¬ S k∧1≤k):ActV J B S c h G w':=by
 obtain ⟨m,D,S0,hL,h1,h2,h3,h4⟩:=x.live
 have hn:∀ k,k < w.heap.size→S k→¬ T k:=fun k hk hs ht=>(hT k ht hk).1 hs
 have lt:∀ k,S k→k < w.heap.size:=fun k hs=>(x.low k hs).2
 refine ⟨⟨m,D,S0,⟨hL.act.kept hk (hn _ (lt _ x.own.1) x.own.1) (hn _ (lt _ x.own.2.1) x.own.2.1) (hn _ (lt _ x.own.2.2.2) x.own.2.2.2) (fun q y hq=>hn _ (lt _ (h2 q y hq)) (h2 q y hq)),hL.pool.kept hk (fun k hlt hs=>hn k hlt (h1 k hs)),hL.lg.kept hk (hn _ (lt _ x.own.2.2.1) x.own.2.2.1),hL.ns,hL.na,hL.nl,hL.nb,hL.nd,hL.ne,hL.low,hL.n0⟩,h1,h2,h3,h4⟩,x.own,fun k hs=>⟨(x.low k hs).1,Nat.lt_of_lt_of_le (lt k hs) hk.size⟩,x.saves,x.cost,x.tab.1.kept hk (fun h0=>?_),x.tab.2⟩
 have h00:0 < w.heap.size:=x.tab.1.1
 exact absurd (hT 0 h0 h00).2 (by omega)
theorem ActV.below (x:ActV J B S c h G w) (hb:Below w.heap.size w w'):ActV J B S c h G w' :=
 x.kept (Kept.ofBelow (S:=fun _=>False) hb) (fun _ h=>h.elim)
def ActPost (J:List RawOp→Prop) (B:Nat) (S:Nat→Prop) (c:Ac) (h:Hd) (G:Nat→List UInt8) (w w':World):Prop :=
 ∃ S',Turn S w S' w'∧ActV J B S' c h G w'
theorem ActPost.same (x:ActV J B S c h G w):ActPost J B S c h G w w:=⟨S,Turn.refl S w,x⟩
theorem actPost_mk {h':Hd} {G':Nat→List UInt8} {T:Nat→Prop} {m:Nat} {D:Nat→Option Dr} {S0:Nat→Prop} (x:ActV J B S c h G w) (hk:Kept T w w') (hT:∀ k,T k→S k) (hL:LiveSt J B S0 c.a c.s c.d c.l c.p c.db m c.n c.C c.N c.last h' D w')
  (h1:∀ k,S0 k→S k) (h2:∀ q y,D q=some y→S y.blk∨w.heap.size≤y.blk) (h3:DrOk c.C D) (h4:∀ q,h'.has q→G' q=pgD c.C D q):ActPost J B S c h' G' w w':=by
 have hsz:=x.size
 have h00:0 < w.heap.size:=x.tab.1.1
 refine ⟨fun k=>(S k∨w.heap.size≤k)∧k < w'.heap.size,⟨hk.mono hT,fun k hlt hs=>hs.1.elim id (by omega)⟩,⟨⟨m,D,S0,hL,fun k hs=>⟨.inl (h1 k hs),(hL.pool.low k hs).2⟩,fun q y hq=>⟨h2 q y hq,(hL.act.dr.at_ q y hq).2.2.2.2.2.2⟩,h3,h4⟩,?_,?_,x.saves,x.cost,x.tab.1.kept hk (fun h0=>?_),x.tab.2⟩⟩
 ·have hz:=hk.size
  have f:∀ k,S k→(S k∨w.heap.size≤k)∧k < w'.heap.size:=fun k hs=>⟨.inl hs,by have:=(x.low k hs).2;omega⟩
  exact ⟨f _ x.own.1,f _ x.own.2.1,f _ x.own.2.2.1,f _ x.own.2.2.2⟩
 ·rintro k ⟨hs,hlt⟩
  refine ⟨hs.elim (fun h=>(x.low k h).1) (fun h=>by omega),hlt⟩
 ·have:=(x.low 0 (hT 0 h0)).1
  have:=x.tab.2
  omega
theorem read_v (x:ActV J B S c h G w) (q:Nat) (hq:h.has q) :
  Calls Tryz.prog 13 #[.pointer (some ⟨c.a,0,none⟩),.int .i64 q] w fun e w'=>e=.returned (.tuple #[.string ⟨(G q).toArray⟩,.int .i64 0])∧ActPost J B S c h G w w':=by
 obtain ⟨m,D,S0,hL,h1,h2,h3,h4⟩:=x.live
 rw [h4 q hq]
 unfold pgD
 cases hD:D q with
 | some y =>
  refine (aread_draft q y hL.act hD).mono ?_
  rintro e w' ⟨rfl,rfl⟩
  exact ⟨rfl,ActPost.same x⟩
 | none =>
  refine (aread_k q hL.act hL.ns hL.pool hq hD hL.n0 x.cost x.saves).mono ?_
  rintro e w' ⟨rfl,S1,hT,hp⟩
  refine ⟨rfl,fun k=>(S k∨w.heap.size≤k)∧k < w'.heap.size,⟨hT.1.mono h1,fun k hlt hs=>hs.1.elim id (by omega)⟩,⟨⟨m,D,S1,hL.turn hT hp,fun k hs=>⟨?_,(hp.low k hs).2⟩,fun r y hr=>⟨.inl (h2 r y hr),by have:=(x.low _ (h2 r y hr)).2;have:=hT.1.size;omega⟩,h3,h4⟩,?_,?_,x.saves,x.cost,x.tab.1.kept hT.1 (fun h0=>?_),x.tab.2⟩⟩
  ·rcases Nat.lt_or_ge k w.heap.size with hlt | hge
   ·exact .inl (h1 k (hT.2 k hlt hs))
   ·exact .inr hge
  ·have hz:=hT.1.size
   have f:∀ k,S k→(S k∨w.heap.size≤k)∧k < w'.heap.size:=fun k hs=>⟨.inl hs,by have:=(x.low k hs).2;omega⟩
   exact ⟨f _ x.own.1,f _ x.own.2.1,f _ x.own.2.2.1,f _ x.own.2.2.2⟩
  ·have hsz:=x.size
   rintro k ⟨hs,hlt⟩
   refine ⟨hs.elim (fun h=>(x.low k h).1) (fun h=>by omega),hlt⟩
  ·have:=(x.low 0 (h1 0 h0)).1
   have:=x.tab.2
   omega
theorem read_v_none (x:ActV J B S c h G w) (q:Int) (hq:¬ (1≤q∧h.has q.toNat)) :
  Calls Tryz.prog 13 #[.pointer (some ⟨c.a,0,none⟩),.int .i64 q] w fun e w'=>e=.returned (.tuple #[.string ⟨#[]⟩,.int .i64 3])∧w'=w:=by
 obtain ⟨m,D,S0,hL,_⟩:=x.live
 exact aread_none q hL.act hq
theorem root_v (x:ActV J B S c h G w) (q:Nat) (hq:q < 16) :
  Calls Tryz.prog 15 #[.pointer (some ⟨c.a,0,none⟩),.int .i64 q] w fun e w'=>e=.returned (.tuple #[.int .i64 (h.root q),.int .i64 0])∧w'=w:=by
 obtain ⟨m,D,S0,hL,_⟩:=x.live
 exact root_live q hL hq
theorem setRoot_v (x:ActV J B S c h G w) (q n:Nat) (hq:q < 16) (hn:n < 2147483648) :
  Calls Tryz.prog 18 #[.pointer (some ⟨c.a,0,none⟩),.int .i64 q,.int .i64 n] w fun e w'=>e=.returned (.int .i64 0)∧ActPost J B S c (h.setRoot q n) G w w':=by
 obtain ⟨m,D,S0,hL,h1,h2,h3,h4⟩:=x.live
 refine (asetRoot_good q n hL.act hq hn).mono ?_
 rintro e w' ⟨rfl,hA,hk⟩
 refine ⟨rfl,actPost_mk x hk (fun k e=>e ▸ x.own.1) (D:=D) (S0:=S0) ⟨hA,hL.pool.kept hk (fun k _ hS he=>hL.na (he ▸ hS)),hL.lg.kept hk hL.ne.1,hL.ns,hL.na,hL.nl,hL.nb,hL.nd,hL.ne,hL.low,hL.n0⟩ h1 (fun q y hq=>.inl (h2 q y hq)) h3 (fun q hq=>h4 q hq)⟩
theorem alloc_v (x:ActV J B S c h G w) :
  Calls Tryz.prog 14 #[.pointer (some ⟨c.a,0,none⟩)] w fun e w' =>
   (∃ q h',h.NextIs q h'∧e=.returned (.tuple #[.int .i64 q,.int .i64 0])∧ActPost J B S c h' (upd G q noughts) w w') ∨
   ((∀ j,h.isFree j=false)∧h.count=4095∧e=.returned (.tuple #[.int .i64 0,.int .i64 2])∧w'=w):=by
 obtain ⟨m,D,S0,hL,h1,h2,h3,h4⟩:=x.live
 refine (alloc_live hL x.tab.1).mono ?_
 rintro e w' (⟨q,h',b,hn,rfl,hL',_,hk,hb⟩ | hno)
 ·refine .inl ⟨q,h',hn,rfl,actPost_mk x hk (fun k e=>e.elim (fun e=>e ▸ x.own.1) (fun e=>e ▸ x.own.2.2.2)) hL' h1 (fun r y hr=>?_) (fun r y hr=>?_) (fun r hr=>?_)⟩
  ·by_cases hrq:r=q
   ·subst hrq;rw [upd_same] at hr;cases hr;exact .inr hb
   ·rw [upd_other _ _ hrq] at hr;exact .inl (h2 r y hr)
  ·by_cases hrq:r=q
   ·subst hrq;rw [upd_same] at hr;cases hr;rfl
   ·rw [upd_other _ _ hrq] at hr;exact h3 r y hr
  ·by_cases hrq:r=q
   ·subst hrq;rw [upd_same];unfold pgD;rw [upd_same]
   ·rw [upd_other _ _ hrq]
    have:=h4 r (((hn.spec x.ok).2.2.2.2.1 r).1 hr |>.resolve_right hrq)
    rw [this];unfold pgD;rw [upd_other _ _ hrq]
 ·exact .inr hno
theorem free_v (x:ActV J B S c h G w) (q:Nat) (hq:h.has q) :
  Calls Tryz.prog 17 #[.pointer (some ⟨c.a,0,none⟩),.int .i64 q] w fun e w'=>e=.returned (.int .i64 0)∧ActPost J B S c (h.turn q) G w w':=by
 obtain ⟨m,D,S0,hL,h1,h2,h3,h4⟩:=x.live
 refine (free_live q hL hq).mono ?_
 rintro e w' ⟨rfl,⟨m',hL'⟩,_,hk⟩
 refine ⟨rfl,actPost_mk x hk (fun k e=>e.elim (fun e=>e ▸ x.own.1) (fun e=>e ▸ x.own.2.2.2)) hL' h1 (fun r y hr=>?_) (fun r y hr=>?_) (fun r hr=>?_)⟩
 ·by_cases hrq:r=q
  ·subst hrq;rw [upd_same] at hr;cases hr
  ·rw [upd_other _ _ hrq] at hr;exact .inl (h2 r y hr)
 ·by_cases hrq:r=q
  ·subst hrq;rw [upd_same] at hr;cases hr
  ·rw [upd_other _ _ hrq] at hr;exact h3 r y hr
 ·obtain ⟨hr1,hrq⟩:=(has_turn x.ok hq r).1 hr
  rw [h4 r hr1];unfold pgD;rw [upd_other _ _ hrq]
end
def TreeAt (w:World) (tb a r:Nat):Prop:=w.heap[tb]? = some (.cells #[.pointer (some ⟨tb,0,none⟩),.pointer (some ⟨a,0,none⟩),.int .i64 r] 84 (0,0))
theorem TreeAt.lt {w:World} {tb a r:Nat} (h:TreeAt w tb a r):tb < w.heap.size:=(Array.getElem?_eq_some_iff.1 h).1
theorem TreeAt.c0 {w:World} {tb a r:Nat} (h:TreeAt w tb a r):w.cell? ⟨tb,0,none⟩=some (.pointer (some ⟨tb,0,none⟩)):=by rw [Lib.cell_of_heap h];rfl
theorem TreeAt.c1 {w:World} {tb a r:Nat} (h:TreeAt w tb a r):w.cell? ⟨tb,1,none⟩=some (.pointer (some ⟨a,0,none⟩)):=by rw [Lib.cell_of_heap h];rfl
theorem TreeAt.c2 {w:World} {tb a r:Nat} (h:TreeAt w tb a r):w.cell? ⟨tb,2,none⟩=some (.int .i64 r):=by rw [Lib.cell_of_heap h];rfl
theorem TreeAt.kept {w w':World} {tb a r:Nat} {T:Nat→Prop} (h:TreeAt w tb a r) (hk:Kept T w w') (hT:¬ T tb):TreeAt w' tb a r:=by
 unfold TreeAt;rw [hk.block tb h.lt hT];exact h
theorem TreeAt.below {w w':World} {tb a r:Nat} (h:TreeAt w tb a r) (hb:Below w.heap.size w w'):TreeAt w' tb a r:=h.kept (Kept.ofBelow (S:=fun _=>False) hb) (fun h=>h)
structure Loaded (J:List RawOp→Prop) (B:Nat) (S:Nat→Prop) (c:Ac) (h:Hd) (G:Nat→List UInt8) (q level:Nat) (es:List En) (was:List UInt8) (w:World) (x:NO) (S':Nat→Prop) (w':World):Prop where
 act:ActV J B S' c h G w'
 turn:Turn S w S' w'
 node:∀ X:Nat→Prop,(∀ k,X k→k < w.heap.size∨S' k)→NodeAt (fun k=>X k∨k=x.blk∨k=x.ab) w' x
 new:w.heap.size≤x.blk∧w.heap.size≤x.ab∧¬ S' x.blk∧¬ S' x.ab
 info:x.page=q∧x.level=level∧x.ens=es∧x.was=was∧x.had=szE es∧x.sole=true∧x.cap=es.length
 ablt:x.ab < w'.heap.size
def LoadsV (J:List RawOp→Prop) (B:Nat) (S:Nat→Prop) (c:Ac) (h:Hd) (G:Nat→List UInt8) (q level:Nat) (es:List En) (was:List UInt8) (w:World) (e:Ending) (w':World):Prop :=
 ∃ x S',e=.returned x.ptr∧Loaded J B S c h G q level es was w x S' w'
section
variable {J:List RawOp→Prop} {B:Nat} {S:Nat→Prop} {c:Ac} {h:Hd} {G:Nat→List UInt8} {w:World} {tb r:Nat}
set_option maxHeartbeats 1600000 in
theorem load_ok (x:ActV J B S c h G w) (ht:TreeAt w tb c.a r) (q level:Nat) (es:List En) (hq:h.has q) (hG:G q=pgB level es) (hv:VN level es) :
  Calls Tryz.prog 75 #[.pointer (some ⟨tb,0,none⟩),.int .i64 q] w (LoadsV J B S c h G q level es (pgB level es) w):=by
 have hq4:=(x.has_lt hq).2
 have HRD:=Lib.hid (read_v x q hq)
 rw [hG] at HRD
 have c1:=ht.c1
 obtain ⟨s,hs⟩:∃ s:ByteArray,s=⟨(pgB level es).toArray⟩:=⟨_,rfl⟩
 rw [← hs] at HRD
 have HNO:Hid (∀ W,Calls Tryz.prog 115 #[.int .i64 q,.string s] W fun e w'=>∃ r,e=.returned (.tuple #[r,.bool true])∧LoadPost q level es W r w'):=Lib.hid (fun W=>by rw [hs];exact nodeOf_ok q level es W hv hq4)
 have HX:=Lib.hid x
 have HV:=Lib.hid hv
 clear x ht hG hv hs hq
 go_enter Tryz.func75,Tryz.ntmps75
 go_wp2_with fail
 refine HRD.out.mono ?_
 rintro e w1 ⟨rfl,S',hT,hA⟩
 have HT:=Lib.hid hT;have HA:=Lib.hid hA
 clear hT hA
 go_wp2_with fail
 refine (HNO.out w1).mono ?_
 rintro e w2 ⟨rv,rfl,no,rfl,hfr,h1,h2,h3,h4,h5,h6⟩
 have HE:Hid (LoadsV J B S c h G q level es (pgB level es) w (.returned no.ptr) w2):=Lib.hid (by
  have hlow:=HA.out.low
  have hz:=HT.out.1.size
  have hnew:=hfr.new
  refine ⟨no,S',rfl,HA.out.below hfr.below,HT.out.trans (Turn.ofBelow hfr.below),fun X hX=>hfr.node X fun k hk=>?_,⟨by omega,by omega,fun hs=>?_,fun hs=>?_⟩,⟨h1,h2,h3,h4,h5,h6⟩,?_⟩
  ·rcases hX k hk with h | h
   ·omega
   ·exact (hlow k h).2
  ·have:=(hlow _ hs).2;omega
  ·have:=(hlow _ hs).2;omega
  ·have hnd:=hfr.node (fun _=>False) (fun _ h=>h.elim)
   rcases hnd.ents with h0 | ⟨b,o,cs,ha,hh,_⟩
   ·have:=HV.out.len;rw [h3] at h0;rw [h0] at this;simp at this
   ·unfold NO.ab;rw [ha];exact (Array.getElem?_eq_some_iff.1 hh).1)
 clear hfr h1 h2 h3 h4 h5 h6
 unfold NO.ptr at HE ⊢
 go_wp2
 go_ret
 exact HE.out
end
theorem compare_neg:∀ (a b:List UInt8),Lib.compareBytes a b < 0 ↔ lt a b
 | [],[]=>by simp [Lib.compareBytes,lt,Op.bytesLess]
 | [],_ :: _=>by simp [Lib.compareBytes,lt,Op.bytesLess]
 | _ :: _,[]=>by simp [Lib.compareBytes,lt,Op.bytesLess]
 | x :: a,y :: b=>by
  have ih:=compare_neg a b
  rw [lt_cons]
  unfold Lib.compareBytes
  have e1:x < y ↔ x.toNat < y.toNat:=UInt8.lt_iff_toNat_lt
  have e2:y < x ↔ y.toNat < x.toNat:=UInt8.lt_iff_toNat_lt
  by_cases h1:x.toNat < y.toNat
  ·rw [if_pos (e1.2 h1)];exact ⟨fun _=>.inl h1,fun _=>by omega⟩
  ·rw [if_neg (fun h=>h1 (e1.1 h))]
   by_cases h2:y.toNat < x.toNat
   ·rw [if_pos (e2.2 h2)]
    refine ⟨fun h=>by omega,?_⟩
    rintro (h | ⟨rfl,_⟩)
    ·exact absurd h h1
    ·exact absurd h2 (Nat.lt_irrefl _)
   ·rw [if_neg (fun h=>h2 (e2.1 h)),ih]
    have hxy:x=y:=UInt8.toNat_inj.1 (by omega)
    exact ⟨fun h=>.inr ⟨hxy,h⟩,fun h=>h.elim (fun h=>absurd h h1) (fun h=>h.2)⟩
theorem compare_zero:∀ (a b:List UInt8),Lib.compareBytes a b=0 ↔ a=b
 | [],[]=>by simp [Lib.compareBytes]
 | [],_ :: _=>by simp [Lib.compareBytes]
 | _ :: _,[]=>by simp [Lib.compareBytes]
 | x :: a,y :: b=>by
  have ih:=compare_zero a b
  unfold Lib.compareBytes
  have e1:x < y ↔ x.toNat < y.toNat:=UInt8.lt_iff_toNat_lt
  have e2:y < x ↔ y.toNat < x.toNat:=UInt8.lt_iff_toNat_lt
  by_cases h1:x.toNat < y.toNat
  ·rw [if_pos (e1.2 h1)];exact ⟨fun h=>by omega,fun h=>by injection h with h;subst h;omega⟩
  ·rw [if_neg (fun h=>h1 (e1.1 h))]
   by_cases h2:y.toNat < x.toNat
   ·rw [if_pos (e2.2 h2)];exact ⟨fun h=>by omega,fun h=>by injection h with h;subst h;omega⟩
   ·rw [if_neg (fun h=>h2 (e2.1 h)),ih]
    have hxy:x=y:=UInt8.toNat_inj.1 (by omega)
    exact ⟨fun h=>by rw [hxy,h],fun h=>by injection h⟩
theorem toNums_get (l:List UInt8) (j:Nat) (x:Int) (h:(l.map fun b=>(b.toNat:Int))[j]? = some x):∃ hj:j < l.length,x=(l[j].toNat:Int):=by
 rw [List.getElem?_map] at h
 cases hj:l[j]? with
 | none=>rw [hj] at h;cases h
 | some b =>
  rw [hj] at h
  obtain ⟨hl,rfl⟩:=List.getElem?_eq_some_iff.1 hj
  exact ⟨hl,by simpa using h.symm⟩
theorem bytesOf_nums (l:List UInt8):Lib.bytesOf (l.map fun b=>(b.toNat:Int))=l:=by
 unfold Lib.bytesOf
 rw [List.map_map]
 conv=>rhs;rw [← List.map_id l]
 congr 1
 funext b
 simp
theorem run_bytesOf (w:World) (A:Option Addr) (l:List UInt8) (c:Nat) (h:ReadsB w A l):(Extern.Bytes.bytesOf (.slice A l.length c)).run Tryz.prog w=.ok ⟨l.toArray⟩ w:=by
 rcases A with _ | a
 ·rcases h with rfl | ⟨b,off,h1,_⟩
  ·rfl
  ·cases h1
 ·have:=Lib.run_loadBytesX (P:=Tryz.prog) w (l.map fun b=>(b.toNat:Int)) a .empty (fun j x hj=>by
   obtain ⟨hl,rfl⟩:=toNums_get l j x hj
   rcases h with rfl | ⟨b,off,h1,_,h3⟩
   ·simp at hl
   ·injection h1 with h1;subst h1;rw [add_lit'];exact h3 j hl)
  rw [List.length_map,bytesOf_nums] at this
  show (Extern.Bytes.loadBytes a l.length .empty).run Tryz.prog w=_
  rw [this]
  congr 1
  apply ByteArray.ext
  show (#[]:Array UInt8)++l.toArray=l.toArray
  simp
theorem run_compare (w:World) (A B:Option Addr) (la lb:List UInt8) (ca cb:Nat) (hA:ReadsB w A la) (hB:ReadsB w B lb) :
  (Extern.BytealgCompare.compare #[.slice A la.length ca,.slice B lb.length cb]).run Tryz.prog w=.ok (.int .i64 (Lib.compareBytes la lb)) w:=by
 change Sem.run Tryz.prog (do pure (goInt (Extern.BytealgCompare.cmp (← Extern.Bytes.bytesOf (.slice A la.length ca)) (← Extern.Bytes.bytesOf (.slice B lb.length cb))))) w=_
 simp only [Sem.run_bind,Sem.run_pure,run_bytesOf w A la ca hA,run_bytesOf w B lb cb hB,Result.andThen]
 rw [Lib.cmp_eq]
 rfl
set_option maxHeartbeats 800000 in
theorem compare_any (A B:Option Addr) (la lb:List UInt8) (n m ca cb:Nat) (w:World) (hn:la.length=n) (hm:lb.length=m) (hA:ReadsB w A la) (hB:ReadsB w B lb) :
  Calls Tryz.prog 113 #[.slice A n ca,.slice B m cb] w fun e w'=>e=.returned (.int .i64 (Lib.compareBytes la lb))∧w=w':=by
 have hr:=run_compare w A B la lb ca cb hA hB
 rw [hn,hm] at hr
 obtain ⟨r,hr'⟩:∃ r,r=Lib.compareBytes la lb:=⟨_,rfl⟩
 rw [← hr'] at hr ⊢
 clear hn hm hA hB hr'
 go_enter Tryz.func113,Tryz.ntmps113
 go_wp2
 rw [run_callFunc_extern Tryz.func151 (by kernel_rfl) (by kernel_rfl) (by kernel_rfl) (e:=Extern.BytealgCompare.compare) (by kernel_rfl),hr]
 simp only [Result.andThen]
 rw [Oper.upon_value]
 go_wp2
 go_ret
 exact ⟨rfl,rfl⟩
set_option maxHeartbeats 800000 in
theorem find1_any (A B D:Option Addr) (la lb:List UInt8) (n m p ca cb cd:Nat) (w:World) (hn:la.length=n) (hm:lb.length=m) (hA:ReadsB w A la) (hB:ReadsB w B lb) :
  Calls Tryz.prog 157 #[.agg #[.slice A n ca,.slice D p cd],.slice B m cb] w fun e w'=>e=.returned (.int .i64 (Lib.compareBytes la lb))∧Below w.heap.size w w':=by
 have hb:=(Below.refl w.heap.size w).alloc (Nat.le_refl _) (.cells #[.slice A n ca,.slice D p cd] 135)
 have HC:=Lib.hid (compare_any A B la lb n m ca cb _ hn hm (hA.below hb) (hB.below hb))
 obtain ⟨r,hr'⟩:∃ r,r=Lib.compareBytes la lb:=⟨_,rfl⟩
 rw [← hr'] at HC ⊢
 have HB:=Lib.hid hb
 clear hn hm hA hB hr' hb
 go_enter Tryz.func157,Tryz.ntmps157
 go_wp2_with fail
 refine HC.out.mono ?_
 rintro e w' ⟨rfl,rfl⟩
 go_wp2
 go_ret
 exact ⟨rfl,HB.out⟩
theorem cnt_lt {es:List En} (hs:Srt es) (key:List UInt8) {h:Nat} {e:En} (he:es[h]? = some e):lt e.key key ↔ h < cntE key es:=by
 obtain ⟨h1,h2,h3⟩:=part_at hs key
 have hl:=cntE_le key es
 constructor
 ·intro hlt
  rcases Nat.lt_or_ge h (cntE key es) with hc | hc
  ·exact hc
  ·refine absurd hlt (h3 e ?_)
   refine List.mem_of_getElem? (i:=h - cntE key es) ?_
   rw [List.getElem?_drop,← he];congr 1;omega
 ·intro hc
  refine h2 e ?_
  refine List.mem_of_getElem? (i:=h) ?_
  rw [List.getElem?_take,if_pos hc,he]
set_option maxHeartbeats 3200000 in
theorem search_any (X:Nat→Prop) (arr KA:Option Addr) (es:List En) (key:List UInt8) (N cap kn kc:Nat) (w:World) (hN:es.length=N) (hcap:N≤cap) (h:EntsV X w arr es) (hs:Short es) (hkn:key.length=kn) (hK:ReadsB w KA key) (hsrt:Srt es) :
  Calls Tryz.prog 156 #[.slice arr N cap,.slice KA kn kc,.func (.func 157) #[] #[]] w fun e w'=>e=.returned (.tuple #[.int .i64 (cntE key es),.bool (isAt key es)])∧Below w.heap.size w w':=by
 have hN5:N≤512:=by have:=hs.1;omega
 obtain ⟨C,hC⟩:∃ C,C=cntE key es:=⟨_,rfl⟩
 have hCN:C≤N:=by have:=cntE_le key es;omega
 have HA:Hid (∀ hh e,es[hh]? = some e→(Lib.compareBytes e.key key < 0 ↔ hh < C)):=Lib.hid (fun hh e he=>by rw [compare_neg,hC];exact cnt_lt hsrt key he)
 have HI:Hid (isAt key es=match es[C]? with | some e=>decide (e.key=key) | none=>false):=Lib.hid (by rw [hC];rfl)
 obtain ⟨b,hb⟩:∃ b,b=isAt key es:=⟨_,rfl⟩
 rw [← hC,← hb]
 rw [← hb] at HI
 have HH:=Lib.hid h;have HN:=Lib.hid hN;have HKN:=Lib.hid hkn;have HK:=Lib.hid hK
 clear h hs hkn hK hsrt hN hC hb
 go_enter Tryz.func156,Tryz.ntmps156
 go_wp2
 go_loopw [9,10] (fun i j wr=>∃ lo hi:Nat,lo≤C∧C≤hi∧hi≤N∧i=.int .i64 lo∧j=.int .i64 hi∧Hid (Below w.heap.size w wr)) (fun i j _=>(intOf j).toNat - (intOf i).toNat)
 case atStart=>exact ⟨0,N,by omega,hCN,Nat.le_refl _,rfl,rfl,Lib.hid (Below.refl _ _)⟩
 case round =>
  obtain ⟨lo,hi,h1,h2,h3,rfl,rfl,HB⟩:=hrel
  by_cases hlt:lo < hi
  ·have hh1:lo≤(lo+hi) / 2:=by omega
   have hh2:(lo+hi) / 2 < hi:=by omega
   have hhN:(lo+hi) / 2 < N:=by omega
   obtain ⟨en,hen⟩:=get_of HN.out hhN
   obtain ⟨bb,o,kv,vv,rfl,hbl,hfr,hc1,hc2,hk1,hk2⟩:=(HH.out.below HB.out).at_ hen
   obtain ⟨A1,c1,rfl,_,_,hR1,_⟩:=hk1
   obtain ⟨A2,c2,rfl,_,_,_⟩:=hk2
   have HF:=Lib.hid (find1_any A1 KA A2 en.key key en.key.length kn en.val.length c1 kc c2 wr rfl HKN.out hR1 (HK.out.below HB.out))
   have hiff:=HA.out _ en hen
   obtain ⟨r,hr⟩:∃ r,r=Lib.compareBytes en.key key:=⟨_,rfl⟩
   rw [← hr] at hiff HF
   obtain ⟨n1,hn1⟩:∃ n1,n1=en.key.length:=⟨_,rfl⟩
   obtain ⟨n2,hn2⟩:∃ n2,n2=en.val.length:=⟨_,rfl⟩
   rw [← hn1] at hc1 HF
   rw [← hn2] at hc2 HF
   clear hen hR1 hr hn1 hn2
   by_cases hcm:r < 0
   ·have hCh:=hiff.1 hcm
    clear hiff
    go_wp2_with (go_at_call 157;refine HF.out.mono ?_;rintro e w1 ⟨rfl,hb1⟩)
    go_roundw
    case rel=>exact ⟨(lo+hi) / 2+1,hi,by omega,h2,h3,by rw [show ((lo:Int)+(hi:Int)) / 2+1=(((lo+hi) / 2+1:Nat):Int) by omega],rfl,Lib.hid (below_then_ HB.out hb1)⟩
    case measure=>simp [intOf];omega
   ·have hCh:¬ (lo+hi) / 2 < C:=fun h=>hcm (hiff.2 h)
    clear hiff
    go_wp2_with (go_at_call 157;refine HF.out.mono ?_;rintro e w1 ⟨rfl,hb1⟩)
    go_roundw
    case rel=>exact ⟨lo,(lo+hi) / 2,h1,by omega,by omega,rfl,by rw [show ((lo:Int)+(hi:Int)) / 2=(((lo+hi) / 2:Nat):Int) by omega],Lib.hid (below_then_ HB.out hb1)⟩
    case measure=>simp [intOf];omega
  ·obtain rfl:lo=C:=by omega
   obtain rfl:hi=lo:=by omega
   by_cases hhN:hi < N
   ·obtain ⟨en,hen⟩:=get_of HN.out hhN
    obtain ⟨bb,o,kv,vv,rfl,hbl,hfr,hc1,hc2,hk1,hk2⟩:=(HH.out.below HB.out).at_ hen
    obtain ⟨A1,c1,rfl,_,_,hR1,_⟩:=hk1
    obtain ⟨A2,c2,rfl,_,_,_⟩:=hk2
    have HF:=Lib.hid (find1_any A1 KA A2 en.key key en.key.length kn en.val.length c1 kc c2 wr rfl HKN.out hR1 (HK.out.below HB.out))
    have hz:=compare_zero en.key key
    have hbi:=HI.out
    rw [hen] at hbi
    obtain ⟨r,hr⟩:∃ r,r=Lib.compareBytes en.key key:=⟨_,rfl⟩
    rw [← hr] at hz HF
    obtain ⟨n1,hn1⟩:∃ n1,n1=en.key.length:=⟨_,rfl⟩
    obtain ⟨n2,hn2⟩:∃ n2,n2=en.val.length:=⟨_,rfl⟩
    rw [← hn1] at hc1 HF
    rw [← hn2] at hc2 HF
    have hbz:b=(r == 0):=by rw [hbi,Bool.eq_iff_iff,decide_eq_true_eq,beq_iff_eq,hz]
    have HBZ:=Lib.hid hbz
    clear hen hR1 hr hn1 hn2 hz hbi hbz
    go_wp2_with (go_at_call 157;refine HF.out.mono ?_;rintro e w1 ⟨rfl,hb1⟩)
    go_ret2
    exact ⟨by rw [HBZ.out];rfl,below_then_ HB.out hb1⟩
   ·obtain rfl:hi=N:=by omega
    have hbf:b=false:=by
     rw [HI.out,List.getElem?_eq_none (by rw [HN.out];exact Nat.le_refl _)]
    subst hbf
    go_wp2
    go_ret2
    exact ⟨rfl,HB.out⟩
set_option maxHeartbeats 800000 in
theorem find_any (X:Nat→Prop) (x:NO) (KA:Option Addr) (key:List UInt8) (kn kc:Nat) (w:World) (h:NodeAt X w x) (hkn:key.length=kn) (hK:ReadsB w KA key) (hs:Srt x.ens) :
  Calls Tryz.prog 117 #[x.ptr,.slice KA kn kc] w fun e w'=>e=.returned (.tuple #[.int .i64 (cntE key x.ens),.bool (isAt key x.ens)])∧Below w.heap.size w w':=by
 have c2:=h.c2
 have HC:=Lib.hid (search_any X x.arr KA x.ens key x.ens.length x.cap kn kc w rfl h.cap.1 h.ents h.short hkn hK hs)
 unfold NO.ptr
 obtain ⟨C,hC⟩:∃ C,C=cntE key x.ens:=⟨_,rfl⟩
 obtain ⟨b,hb⟩:∃ b,b=isAt key x.ens:=⟨_,rfl⟩
 rw [← hC,← hb] at HC ⊢
 clear h hkn hK hs hC hb
 go_enter Tryz.func117,Tryz.ntmps117
 go_wp2_with fail
 refine HC.out.mono ?_
 rintro e w1 ⟨rfl,hb1⟩
 go_wp2
 go_ret2
 exact ⟨rfl,hb1⟩
set_option maxHeartbeats 800000 in
theorem lead_any (X:Nat→Prop) (x:NO) (KA:Option Addr) (key:List UInt8) (kn kc:Nat) (w:World) (h:NodeAt X w x) (hkn:key.length=kn) (hK:ReadsB w KA key) (hs:Srt x.ens) (hp:isAt key x.ens=false→1≤cntE key x.ens) :
  Calls Tryz.prog 116 #[x.ptr,.slice KA kn kc] w fun e w'=>e=.returned (.int .i64 (leadE key x.ens))∧Below w.heap.size w w':=by
 have HC:=Lib.hid (find_any X x KA key kn kc w h hkn hK hs)
 have hC5:cntE key x.ens≤512:=by have:=cntE_le key x.ens;have:=h.short.1;omega
 have hl:leadE key x.ens=if isAt key x.ens then cntE key x.ens else cntE key x.ens - 1:=rfl
 unfold NO.ptr at HC ⊢
 obtain ⟨C,hC⟩:∃ C,C=cntE key x.ens:=⟨_,rfl⟩
 obtain ⟨b,hb⟩:∃ b,b=isAt key x.ens:=⟨_,rfl⟩
 rw [← hC,← hb] at HC hl
 rw [← hC] at hC5
 rw [← hC,← hb] at hp
 rw [hl]
 clear h hkn hK hs hC hb hl
 cases b
 ·have hp1:=hp rfl
  clear hp
  go_enter Tryz.func116,Tryz.ntmps116
  go_wp2_with fail
  refine HC.out.mono ?_
  rintro e w1 ⟨rfl,hb1⟩
  go_wp2
  go_ret
  have e1:(C:Int) - 1=((C - 1:Nat):Int):=by omega
  exact ⟨by show Ending.returned (.int .i64 ((C:Int) - 1))=_;rw [e1],hb1⟩
 ·clear hp
  go_enter Tryz.func116,Tryz.ntmps116
  go_wp2_with fail
  refine HC.out.mono ?_
  rintro e w1 ⟨rfl,hb1⟩
  go_wp2
  go_ret
  exact ⟨rfl,hb1⟩
section
variable {J:List RawOp→Prop} {B:Nat} {S:Nat→Prop} {c:Ac} {h:Hd} {G:Nat→List UInt8} {w:World} {tb r:Nat}
theorem Loaded.below {q level:Nat} {es:List En} {was:List UInt8} {y:NO} {S':Nat→Prop} {w' w'':World} (hL:Loaded J B S c h G q level es was w y S' w') (hb:Below w'.heap.size w' w''):Loaded J B S c h G q level es was w y S' w'' :=
 ⟨hL.act.below hb,hL.turn.trans (Turn.ofBelow hb),fun X hX=>(hL.node X hX).below hb,hL.new,hL.info,Nat.lt_of_lt_of_le hL.ablt hb.size⟩
set_option maxHeartbeats 3200000 in
theorem below_ok (x:ActV J B S c h G w) (ht:TreeAt w tb c.a r) (X:Nat→Prop) (n:NO) (hn:NodeAt X w n) (hnS:¬ S n.blk) (i:Nat) (en:En) (hi:n.ens[i]? = some en) (hv2:en.val.length=2) (level:Nat) (es:List En) (hl:n.level=level+1)
  (hq:h.has en.child) (hG:G en.child=pgB level es) (hv:VN level es) :
  Calls Tryz.prog 114 #[.pointer (some ⟨tb,0,none⟩),n.ptr,.int .i64 i] w (LoadsV J B S c h G en.child level es (pgB level es) w):=by
 have HCH:=Lib.hid (child_any X n i en w hn hi hv2)
 obtain ⟨q,hqd⟩:∃ q,q=en.child:=⟨_,rfl⟩
 rw [← hqd] at hq hG HCH ⊢
 have HLD:Hid (∀ k,Calls Tryz.prog 75 #[.pointer (some ⟨tb,0,none⟩),.int .i64 q] (w.drewN k) (LoadsV J B S c h G q level es (pgB level es) (w.drewN k))):=Lib.hid (fun k=>load_ok (x.below (below_drewN w k)) (ht.below (below_drewN w k)) q level es hq hG hv)
 have c1:=hn.c1
 have hlt:=hn.lt
 have hlv:=hv.lev
 rw [hl] at c1
 unfold NO.ptr at HCH ⊢
 obtain ⟨nb,hnb⟩:∃ nb,nb=n.blk:=⟨_,rfl⟩
 rw [← hnb] at c1 hlt hnS HCH ⊢
 clear x ht hn hi hv2 hl hq hG hv hqd hnb
 go_enter Tryz.func114,Tryz.ntmps114
 go_wp2_with fail
 refine HCH.out.mono ?_
 rintro e w' ⟨rfl,k,rfl⟩
 go_wp2_with fail
 refine (HLD.out k).mono ?_
 rintro e w1 ⟨no,S',rfl,hL⟩
 have c1n:w1.cell? ⟨no.blk,1,none⟩=some (.int .i64 level):=by
  have:=(hL.node (fun _=>False) (fun _ h=>h.elim)).c1
  rw [hL.info.2.1] at this
  exact this
 have c1w:w1.cell? ⟨nb,1,none⟩=some (.int .i64 ((level+1:Nat):Int)):=(World.cell?_of_block (hL.turn.1.block nb hlt hnS)).trans c1
 have hL0:Loaded J B S c h G q level es (pgB level es) w no S' w1:=⟨hL.act,⟨⟨hL.turn.1.os,hL.turn.1.tape,hL.turn.1.output,hL.turn.1.size,hL.turn.1.block⟩,hL.turn.2⟩,hL.node,hL.new,hL.info,hL.ablt⟩
 have HE:Hid (∀ k,LoadsV J B S c h G q level es (pgB level es) w (.returned no.ptr) (w1.drewN k)):=Lib.hid fun k=>⟨no,S',rfl,hL0.below (below_drewN w1 k)⟩
 have HL:=Lib.hid hL
 clear hL hL0 c1
 unfold NO.ptr at HE ⊢
 have elv:IntKind.i64.wrap ((level:Int)+1 - 1)=level:=IntWalk.i64_in _ (by omega) |>.trans (by omega)
 go_wp2
 go_quiet (fail)
 go_wp2
 all_goals go_ret
 all_goals exact HE.out _
end
structure Nodes (X S:Nat→Prop) (w:World) (xs:List NO):Prop where
 at_:∀ x ∈ xs,NodeAt X w x∧¬ S x.blk∧¬ S x.ab∧X x.ab
 sub:∀ k,S k→X k
 lt:∀ k,X k→k < w.heap.size
 far:xs.Pairwise fun x y=>x.blk≠y.blk∧x.ab≠y.ab∧x.blk≠y.ab∧x.ab≠y.blk
section
variable {X X' S S' T:Nat→Prop} {w w':World} {xs:List NO}
theorem ab_of {x:NO} {ad:Addr} (h:x.arr=some ad):ad.block=x.ab:=by unfold NO.ab;rw [h]
theorem Nodes.turn (h:Nodes X S w xs) (hk:Kept T w w') (hT:∀ k,k < w.heap.size→T k→X k) (hx:∀ x ∈ xs,¬ T x.blk∧¬ T x.ab) (hX:∀ k,k < w.heap.size→X' k→X k) (hX2:∀ k,X k→X' k) (hX3:∀ k,X' k→k < w'.heap.size)
  (hS:∀ k,k < w.heap.size→S' k→S k) (hS2:∀ k,S' k→X' k):Nodes X' S' w' xs:=by
 refine ⟨fun x hm=>?_,hS2,hX3,h.far⟩
 obtain ⟨h1,h2,h3,h4⟩:=h.at_ x hm
 obtain ⟨t1,t2⟩:=hx x hm
 refine ⟨h1.kept hk hT hX hX2 t1 (fun ad ha _=>by rw [ab_of ha];exact t2),fun hs=>h2 (hS _ h1.lt hs),fun hs=>h3 (hS _ (h.lt _ h4) hs),hX2 _ h4⟩
theorem Nodes.below (h:Nodes X S w xs) (hb:Below w.heap.size w w'):Nodes X S w' xs :=
 h.turn (Kept.ofBelow (S:=fun _=>False) hb) (fun _ _ h=>h.elim) (fun _ _=>⟨fun h=>h,fun h=>h⟩) (fun _ _ h=>h) (fun _ h=>h) (fun k hk=>Nat.lt_of_lt_of_le (h.lt k hk) hb.size) (fun _ _ h=>h) h.sub
theorem Nodes.nil_ (hsub:∀ k,S k→X k) (hlt:∀ k,X k→k < w.heap.size):Nodes X S w []:=⟨(fun _ h=>by cases h),hsub,hlt,List.Pairwise.nil⟩
theorem Nodes.load {J:List RawOp→Prop} {B:Nat} {c:Ac} {h:Hd} {G:Nat→List UInt8} {q level:Nat} {es:List En} {was:List UInt8} {y:NO} (hN:Nodes X S w xs) (hL:Loaded J B S c h G q level es was w y S' w') :
  Nodes (fun k=>(X k∨S' k)∨k=y.blk∨k=y.ab) S' w' (xs++[y]):=by
 have hz:=hL.turn.1.size
 have hyn:=hL.node (fun k=>X k∨S' k) (fun k hk=>hk.imp (hN.lt k) id)
 have hlo:=hL.act.low
 have hT:=hN.turn (X':=fun k=>(X k∨S' k)∨k=y.blk∨k=y.ab) (S':=S') (w':=w') hL.turn.1 (fun k _ hs=>hN.sub k hs) (fun x hx=>⟨(hN.at_ x hx).2.1,(hN.at_ x hx).2.2.1⟩)
  (fun k hk hx=>by
   rcases hx with (hx | hx) | hx | hx
   ·exact hx
   ·exact hN.sub k (hL.turn.2 k hk hx)
   ·have:=hL.new.1;omega
   ·have:=hL.new.2.1;omega)
  (fun k hk=>.inl (.inl hk))
  (fun k hk=>by
   rcases hk with (hk | hk) | hk | hk
   ·have:=hN.lt k hk;omega
   ·exact (hlo k hk).2
   ·subst hk;exact hyn.lt
   ·subst hk
    exact hL.ablt)
  (fun k hk hs=>hL.turn.2 k hk hs) (fun k hk=>.inl (.inr hk))
 refine ⟨fun x hx=>?_,hT.sub,hT.lt,?_⟩
 ·rcases List.mem_append.1 hx with hx | hx
  ·exact hT.at_ x hx
  ·rw [List.mem_singleton] at hx
   subst hx
   exact ⟨hyn,hL.new.2.2.1,hL.new.2.2.2,.inr (.inr rfl)⟩
 ·rw [List.pairwise_append]
  refine ⟨hN.far,List.pairwise_singleton _ _,fun x hx z hz=>?_⟩
  rw [List.mem_singleton] at hz
  subst hz
  obtain ⟨h1,_,_,h4⟩:=hN.at_ x hx
  have e1:=h1.lt;have e2:=hN.lt _ h4;have e3:=hL.new
  exact ⟨by omega,by omega,by omega,by omega⟩
end
def stC (s:NO × Nat):List Value:=[s.1.ptr,.int .i64 s.2]
def StepsAt (w:World) (v:Value) (l:List (NO × Nat)):Prop:=w.ownsRow 0 133 2 v l.length (l.flatMap stC)
theorem infoStep:(Tryz.prog.info? 133).map (fun i=>(i.zero,i.size,i.bytes))=some (some (.agg #[.pointer none,.int .i64 0]),2,16):=by kernel_rfl
theorem st_len (l:List (NO × Nat)):(l.flatMap stC).length=l.length*2:=by
 induction l with
 | nil=>rfl
 | cons x r ih=>rw [List.flatMap_cons,List.length_append,ih];simp [stC];omega
theorem append_step (w:World) (a:Option Addr) (n c0:Nat) (l:List (NO × Nat)) (s:NO × Nat) (ad:Addr) (c:Nat) (hn:l.length=n) (h:StepsAt w (.slice a n c0) l) (hc:∀ j u,(stC s)[j]? = some u→w.cell? (ad.add j)=some u) (hl:n≤1000) (ty:TypeId) :
  ∃ a' c' w',(Builtin.append_ #[129,129] ty #[.slice a n c0,.slice (some ad) 1 c]).run Tryz.prog w=.ok (.slice a' (n+1) c') w'∧StepsAt w' (.slice a' (n+1) c') (l++[s])∧Grew w w' (.slice a n c0) (.slice a' (n+1) c'):=by
 obtain ⟨i0,hi,q0,q1,q2⟩:=info_parts infoStep
 subst hn
 obtain ⟨v',w',hr,h1,h2⟩:=append_own2 w 129 ty 133 i0 (.agg #[.pointer none,.int .i64 0]) 2 16 Tryz.underlying129 hi q0 q1 q2 rfl (by decide) _ l.length (l.flatMap stC) h ad 1 c (stC s) rfl hc (fun u hu=>by
  simp only [stC,List.mem_cons,List.not_mem_nil,or_false] at hu
  rcases hu with rfl | rfl <;> rfl) (by unfold maxLen;omega) (by omega) (by omega)
 have hs:StepsAt w' v' (l++[s]):=by
  unfold StepsAt
  rw [List.flatMap_append,List.length_append]
  simpa using h1
 obtain ⟨a',c',hv⟩:∃ a' c',v'=.slice a' (l.length+1) c':=by
  rcases h1.2 with ⟨rfl,h0⟩ | ⟨g,cap,cur,rfl,_⟩
  ·omega
  ·exact ⟨_,_,rfl⟩
 subst hv
 exact ⟨a',c',w',hr,hs,h2⟩
def Laid (h:Hd) (G:Nat→List UInt8) (q l:Nat) (es:List En):Prop:=h.has q∧G q=pgB l es∧VN l es
def IsNode {L:Nat} (x:NO) (t:Tr L):Prop:=x.page=t.page∧x.level=L∧x.ens=t.ens∧x.was=pgB L t.ens∧x.had=t.size∧x.sole=true∧x.cap=t.ens.length
def wayL (key:List UInt8) (b:Bool):(L:Nat)→Tr L→List (NO × Nat)→Prop
 | 0,t,sts=>∃ x:NO,sts=[(x,cntE key t.es)]∧IsNode x t∧b=isAt key t.es
 | L+1,t,sts=>∃ (x:NO) (rest:List (NO × Nat)) (A:List (Kid L)) (k:List UInt8) (cc:Tr L) (B:List (Kid L)),sts=(x,A.length) :: rest∧IsNode x t∧t.ks=A++(k,cc) :: B∧le k key∧(∀ b' B',B=b' :: B'→lt key b'.1)∧wayL key b L cc rest
theorem wayL_len {key:List UInt8} {b:Bool}:∀ {L:Nat} {t:Tr L} {sts:List (NO × Nat)},wayL key b L t sts→sts.length=L+1
 | 0,_,_,h=>by obtain ⟨x,rfl,_⟩:=h;rfl
 | _+1,_,_,h=>by
  obtain ⟨x,rest,A,k,cc,B,rfl,_,_,_,_,hr⟩:=h
  rw [List.length_cons,wayL_len hr]
structure WayI (J:List RawOp→Prop) (B:Nat) (S:Nat→Prop) (c:Ac) (h:Hd) (G:Nat→List UInt8) (key:List UInt8) (w:World) {L:Nat} (t:Tr L) (wr:World) (av:Option Addr) (m cv:Nat) (n:NO)
  (l:Nat) (tc:Tr l) (lo:List UInt8) (hi:Option (List UInt8)) (sts:List (NO × Nat)) (S' X':Nat→Prop):Prop where
 len:sts.length=m∧m+l=L
 rep:Rep (Laid h G) tc
 loose:Loose tc
 ne:0 < l→tc.ens≠[]
 ord:Ord tc lo hi
 node:IsNode n tc
 nodes:Nodes X' S' wr (sts.map (·.1)++[n])
 steps:StepsAt wr (.slice av m cv) sts
 way:∀ b rest,wayL key b l tc rest→wayL key b L t (sts++rest)
 act:ActV J B S' c h G wr
 turn:Turn S w S' wr
 new:∀ k,X' k→S k∨w.heap.size≤k
 row:∀ k,(Value.slice av m cv).ownBlock=some k→w.heap.size≤k∧X' k∧¬ S' k∧∀ x ∈ sts.map (·.1)++[n],x.blk≠k∧x.ab≠k
 fresh:∀ x ∈ sts.map (·.1)++[n],w.heap.size≤x.blk∧w.heap.size≤x.ab
theorem lead_pos {L:Nat} {ks:List (Kid L)} (hk:KeysOk ks) (hne:ks≠[]) (key:List UInt8) (h:isAt key (ks.map kEn)=false):1≤cntE key (ks.map kEn):=by
 obtain ⟨a,r,rfl⟩:∃ a r,ks=a :: r:=by cases ks with | nil=>exact absurd rfl hne | cons a r=>exact ⟨a,r,rfl⟩
 have ha:(kEn a).key=[]:=hk.1
 rw [List.map_cons]
 rw [List.map_cons] at h
 unfold cntE
 by_cases hlt:lt (kEn a).key key
 ·rw [if_pos hlt];omega
 ·exfalso
  have h0:cntE key (kEn a :: r.map kEn)=0:=by unfold cntE;rw [if_neg hlt]
  unfold isAt at h
  rw [h0] at h
  simp only [List.getElem?_cons_zero,decide_eq_false_iff_not] at h
  rw [ha] at h hlt
  exact hlt (nil_lt (fun e=>h e.symm))
section
variable {J:List RawOp→Prop} {B:Nat} {S:Nat→Prop} {c:Ac} {h:Hd} {G:Nat→List UInt8} {w:World} {tb r:Nat} {key:List UInt8} {KA:Option Addr} {kn kc L:Nat} {t:Tr L}
theorem nodes_grew {X S':Nat→Prop} {wr w2:World} {xs:List NO} {av:Option Addr} {m cv:Nat} {v':Value} (hN:Nodes X S' wr xs) (hg:Grew wr w2 (.slice av m cv) v') (hrow:∀ k,(Value.slice av m cv).ownBlock=some k→X k∧¬ S' k∧∀ x ∈ xs,x.blk≠k∧x.ab≠k) (hv:∀ k,v'.ownBlock=some k→k < w2.heap.size) :
  Nodes (fun k=>X k∨v'.ownBlock=some k) S' w2 xs:=by
 have hk:Kept (fun k=>(Value.slice av m cv).ownBlock=some k) wr w2:=Kept.ofGrown hg.1 (fun k e=>e)
 exact hN.turn hk (fun k _ e=>(hrow k e).1) (fun x hx=>⟨fun e=>((hrow _ e).2.2 x hx).1 rfl,fun e=>((hrow _ e).2.2 x hx).2 rfl⟩)
  (fun k hk' hx=>hx.elim id fun e=>(hg.2 k e).elim (fun e=>(hrow k e).1) (fun e=>by omega)) (fun k hx=>.inl hx) (fun k hx=>hx.elim (fun hx=>Nat.lt_of_lt_of_le (hN.lt k hx) hk.size) (hv k)) (fun k _ hs=>hs) (fun k hs=>.inl (hN.sub k hs))
theorem own_lt {w:World} {v:Value} {l:List (NO × Nat)} (h:StepsAt w v l):∀ k,v.ownBlock=some k→k < w.heap.size:=by
 intro k hk
 rcases h.2 with ⟨rfl,_⟩ | ⟨g,cap,cur,rfl,_,hh,_⟩
 ·simp [Value.ownBlock] at hk
 ·simp only [Value.ownBlock,Option.some.injEq] at hk
  subst hk
  exact (Array.getElem?_eq_some_iff.1 hh).1
theorem way_step {wr:World} {av:Option Addr} {m cv l:Nat} {n:NO} {tc:Tr (l+1)} {lo:List UInt8} {hi:Option (List UInt8)} {sts:List (NO × Nat)} {S' X':Nat→Prop} (hw:TreeAt w tb c.a r) (htS:¬ S tb) (hkn:key.length=kn) (hK:ReadsB w KA key) (hKS:∀ ad,KA=some ad→key≠[]→¬ S ad.block) (hL:L≤900)
  (I:WayI J B S c h G key w t wr av m cv n (l+1) tc lo hi sts S' X') :
  ∃ at_:Nat,Calls Tryz.prog 116 #[n.ptr,.slice KA kn kc] wr (fun e w'=>e=.returned (.int .i64 at_)∧Below wr.heap.size wr w') ∧
   ∀ w1,Below wr.heap.size wr w1→∃ a' c' w2,(Builtin.append_ #[129,129] 129 #[.slice av m cv,.slice (some ⟨w1.heap.size,0,none⟩) 1 1]).run Tryz.prog (w1.alloc (.cells #[n.ptr,.int .i64 at_] 133))=.ok (.slice a' (m+1) c') w2 ∧
    Calls Tryz.prog 114 #[.pointer (some ⟨tb,0,none⟩),n.ptr,.int .i64 at_] w2 fun e w3=>∃ y tk lo' hi' sts' S'' X'',e=.returned y.ptr∧y.level=l∧WayI J B S c h G key w t w3 a' (m+1) c' y l tk lo' hi' sts' S'' X'':=by
 obtain ⟨hlt,hloo⟩:=loose_node.1 I.loose
 have hor:=(ord_node.1 I.ord).2
 have hne:=ens_ne.1 (I.ne (by omega))
 obtain ⟨A,k,cc,Bk,hks,hAl,hle,hnx⟩:=lead_mid hlt.1 hor hne key
 have hens:n.ens=tc.ks.map kEn:=I.node.2.2.1
 have hnm:n ∈ sts.map (·.1)++[n]:=by simp
 obtain ⟨hna,hnS,hnS2,_⟩:=I.nodes.at_ n hnm
 have hKr:ReadsB wr KA key:=hK.kept I.turn.1 (fun ad hA hl _=>hKS ad hA hl)
 refine ⟨A.length,?_,fun w1 hb1=>?_⟩
 ·rw [hAl,← hens]
  refine lead_any X' n KA key kn kc wr hna hkn hKr ?_ ?_
  ·rw [hens];exact srt_keys hlt.1 hor
  ·rw [hens];exact lead_pos hlt.1 hne key
 ·obtain ⟨wa,hwa⟩:∃ wa,wa=w1.alloc (.cells #[n.ptr,.int .i64 A.length] 133):=⟨_,rfl⟩
  have hba:Below wr.heap.size wr wa:=by rw [hwa];exact below_then_ hb1 ((Below.refl _ _).alloc (Nat.le_refl _) _)
  have hnew:wa.heap[w1.heap.size]? = some (.cells #[n.ptr,.int .i64 A.length] 133 (0,0)):=by rw [hwa];exact heap_alloc_new w1 _
  have hst:=ownsRow_below I.steps hba
  obtain ⟨a',c',w2,hrun,hs2,hg⟩:=append_step wa av m cv sts (n,A.length) ⟨w1.heap.size,0,none⟩ 1 I.len.1 hst (fun j u hu=>by
   rw [add_lit',Nat.zero_add,Lib.cell_of_heap hnew,← hu]
   exact List.getElem?_toArray) (by have:=I.len.2;omega) 129
  rw [← hwa]
  refine ⟨a',c',w2,hrun,?_⟩
  have hrow':∀ k,(Value.slice av m cv).ownBlock=some k→w.heap.size≤k∧X' k∧¬ S' k∧∀ x ∈ sts.map (·.1)++[n],x.blk≠k∧x.ab≠k:=I.row
  have hkg:Kept (fun k=>(Value.slice av m cv).ownBlock=some k) wa w2:=Kept.ofGrown hg.1 (fun k e=>e)
  have hN2:=nodes_grew (I.nodes.below hba) hg (fun k e=>(hrow' k e).2) (own_lt hs2)
  have hA2:ActV J B S' c h G w2:=(I.act.below hba).kept hkg (fun k e _=>⟨(hrow' k e).2.2.1,by have h1:=(hrow' k e).1;have h2:=I.act.tab.1.1;have h3:=hw.lt;omega⟩)
  have hT2:Turn S w S' w2:=by
   refine ⟨?_,I.turn.2⟩
   have h1:=I.turn.1.trans (Kept.ofBelow (S:=fun _=>False) hba) (fun _ h=>h.elim)
   exact h1.trans hkg (fun k e=>.inr (hrow' k e).1)
  have ht2:TreeAt w2 tb c.a r:=hw.kept hT2.1 htS
  have hlad:=I.rep.kid (k,cc) (by rw [hks];simp)
  obtain ⟨hq,hGq,hvn⟩:=hlad.at_
  have hcp:cc.page < 4096:=(I.act.has_lt hq).2
  have hen:n.ens[A.length]? = some (kEn (k,cc)):=by rw [hens,hks];simp
  have hch:(kEn (k,cc)).child=cc.page:=kEn_child (k,cc) (by show cc.page < 65536;omega)
  have hnl:n.level=l+1:=I.node.2.1
  refine (below_ok hA2 ht2 _ n (hN2.at_ n hnm).1 (hN2.at_ n hnm).2.1 A.length (kEn (k,cc)) hen rfl l cc.ens hnl (by rw [hch];exact hq) (by rw [hch];exact hGq) hvn).mono ?_
  rintro e w3 ⟨y,S'',rfl,hLd⟩
  have hko:=(ordK_mid _ _ _).1 (hks ▸ hor)
  have hz1:wr.heap.size≤wa.heap.size:=hba.size
  have hz0:w.heap.size≤wr.heap.size:=I.turn.1.size
  have hzy:=hLd.new
  have hrw:∀ j,(Value.slice a' (m+1) c').ownBlock=some j→w.heap.size≤j∧¬ S' j∧j < w2.heap.size∧∀ x ∈ sts.map (·.1)++[n],x.blk≠j∧x.ab≠j:=fun j hj=>by
   have hlt:=own_lt hs2 j hj
   rcases hg.2 j hj with h1 | h1
   ·have h2:=hrow' j h1
    exact ⟨h2.1,h2.2.2.1,hlt,h2.2.2.2⟩
   ·refine ⟨by omega,fun hs=>?_,hlt,fun x hx=>?_⟩
    ·have:=(I.act.low j hs).2;omega
    ·obtain ⟨hx1,_,_,hx4⟩:=I.nodes.at_ x hx
     have e1:=hx1.lt;have e2:=I.nodes.lt _ hx4
     exact ⟨by omega,by omega⟩
  refine ⟨y,cc,_,_,sts++[(n,A.length)],S'',_,rfl,hLd.info.2.1,⟨by rw [List.length_append,I.len.1];rfl,by have:=I.len.2;omega⟩,hlad,(hlt.2 (k,cc) (by rw [hks];simp)).1,fun _=>(hlt.2 (k,cc) (by rw [hks];simp)).2.1,hko.2.1,⟨by rw [hLd.info.1,hch],hLd.info.2.1,hLd.info.2.2.1,hLd.info.2.2.2.1,hLd.info.2.2.2.2.1,hLd.info.2.2.2.2.2⟩,by have:=hN2.load hLd;rw [List.map_append];exact this,?_,fun b rest hr=>?_,hLd.act,hT2.trans hLd.turn,fun j hj=>?_,fun j hj=>?_,fun x hx=>?_⟩
  ·exact ownsRow_of_block hs2 (fun j hj=>hLd.turn.1.block j (hrw j hj).2.2.1 (hrw j hj).2.1)
  ·rw [List.append_assoc]
   exact I.way b _ ⟨n,rest,A,k,cc,Bk,rfl,I.node,hks,hle,hnx,hr⟩
  ·rcases hj with ((hj | hj) | hj) | hj | hj
   ·exact I.new j hj
   ·exact .inr (hrw j hj).1
   ·rcases Nat.lt_or_ge j w.heap.size with h1 | h1
    ·exact .inl ((hT2.trans hLd.turn).2 j h1 hj)
    ·exact .inr h1
   ·have:=hT2.1.size;exact .inr (by omega)
   ·have:=hT2.1.size;exact .inr (by omega)
  ·obtain ⟨h1,h2,h3,h4⟩:=hrw j hj
   refine ⟨h1,.inl (.inl (.inr hj)),fun hs=>h2 (hLd.turn.2 j h3 hs),fun x hx=>?_⟩
   rw [List.map_append] at hx
   rcases List.mem_append.1 hx with hx | hx
   ·exact h4 x hx
   ·rw [List.mem_singleton] at hx
    subst hx
    exact ⟨by omega,by omega⟩
  ·rw [List.map_append] at hx
   rcases List.mem_append.1 hx with hx | hx
   ·exact I.fresh x hx
   ·rw [List.mem_singleton] at hx
    subst hx
    have:=hT2.1.size
    exact ⟨by omega,by omega⟩
def WayOut (J:List RawOp→Prop) (B:Nat) (S:Nat→Prop) (c:Ac) (h:Hd) (G:Nat→List UInt8) (w:World) (P:Bool→List (NO × Nat)→Prop) (n:Nat) (e:Ending) (w':World):Prop :=
 ∃ (sts:List (NO × Nat)) (a:Option Addr) (cv:Nat) (b:Bool) (S' X':Nat→Prop),e=.returned (.tuple #[.slice a n cv,.bool b])∧P b sts∧Nodes X' S' w' (sts.map (·.1))∧StepsAt w' (.slice a n cv) sts∧ActV J B S' c h G w'∧Turn S w S' w' ∧
  (∀ k,X' k→S k∨w.heap.size≤k)∧(∀ k,(Value.slice a n cv).ownBlock=some k→w.heap.size≤k∧X' k∧¬ S' k∧∀ x ∈ sts.map (·.1),x.blk≠k∧x.ab≠k)∧∀ x ∈ sts.map (·.1),w.heap.size≤x.blk∧w.heap.size≤x.ab
def WayPost (J:List RawOp→Prop) (B:Nat) (S:Nat→Prop) (c:Ac) (h:Hd) (G:Nat→List UInt8) (key:List UInt8) (w:World) {L:Nat} (t:Tr L) (e:Ending) (w':World):Prop :=
 WayOut J B S c h G w (fun b sts=>wayL key b L t sts) (L+1) e w'
theorem way_end {wr:World} {av:Option Addr} {m cv:Nat} {n:NO} {tc:Tr 0} {lo:List UInt8} {hi:Option (List UInt8)} {sts:List (NO × Nat)} {S' X':Nat→Prop} (hw:TreeAt w tb c.a r) (hkn:key.length=kn) (hK:ReadsB w KA key) (hKS:∀ ad,KA=some ad→key≠[]→¬ S ad.block) (hL:L≤900)
  (I:WayI J B S c h G key w t wr av m cv n 0 tc lo hi sts S' X') :
  ∃ (at_:Nat) (b:Bool),Calls Tryz.prog 117 #[n.ptr,.slice KA kn kc] wr (fun e w'=>e=.returned (.tuple #[.int .i64 at_,.bool b])∧Below wr.heap.size wr w') ∧
   ∀ w1,Below wr.heap.size wr w1→∃ a' c' w2,(Builtin.append_ #[129,129] 129 #[.slice av m cv,.slice (some ⟨w1.heap.size,0,none⟩) 1 1]).run Tryz.prog (w1.alloc (.cells #[n.ptr,.int .i64 at_] 133))=.ok (.slice a' (m+1) c') w2 ∧
    WayPost J B S c h G key w t (.returned (.tuple #[.slice a' (m+1) c',.bool b])) w2:=by
 have hor:=I.ord.2.1
 have hens:n.ens=tc.es:=I.node.2.2.1
 have hnm:n ∈ sts.map (·.1)++[n]:=by simp
 obtain ⟨hna,hnS,hnS2,_⟩:=I.nodes.at_ n hnm
 have hKr:ReadsB wr KA key:=hK.kept I.turn.1 (fun ad hA hl _=>hKS ad hA hl)
 have hm:m=L:=by have:=I.len.2;omega
 refine ⟨cntE key tc.es,isAt key tc.es,?_,fun w1 hb1=>?_⟩
 ·rw [← hens]
  exact find_any X' n KA key kn kc wr hna hkn hKr (by rw [hens];exact hor)
 ·obtain ⟨wa,hwa⟩:∃ wa,wa=w1.alloc (.cells #[n.ptr,.int .i64 (cntE key tc.es)] 133):=⟨_,rfl⟩
  have hba:Below wr.heap.size wr wa:=by rw [hwa];exact below_then_ hb1 ((Below.refl _ _).alloc (Nat.le_refl _) _)
  have hnew:wa.heap[w1.heap.size]? = some (.cells #[n.ptr,.int .i64 (cntE key tc.es)] 133 (0,0)):=by rw [hwa];exact heap_alloc_new w1 _
  have hst:=ownsRow_below I.steps hba
  obtain ⟨a',c',w2,hrun,hs2,hg⟩:=append_step wa av m cv sts (n,cntE key tc.es) ⟨w1.heap.size,0,none⟩ 1 I.len.1 hst (fun j u hu=>by
   rw [add_lit',Nat.zero_add,Lib.cell_of_heap hnew,← hu]
   exact List.getElem?_toArray) (by omega) 129
  rw [← hwa]
  refine ⟨a',c',w2,hrun,?_⟩
  have hrow':=I.row
  have hkg:Kept (fun k=>(Value.slice av m cv).ownBlock=some k) wa w2:=Kept.ofGrown hg.1 (fun k e=>e)
  have hN2:=nodes_grew (I.nodes.below hba) hg (fun k e=>(hrow' k e).2) (own_lt hs2)
  have hA2:ActV J B S' c h G w2:=(I.act.below hba).kept hkg (fun k e _=>⟨(hrow' k e).2.2.1,by have h1:=(hrow' k e).1;have h2:=I.act.tab.1.1;have h3:=hw.lt;omega⟩)
  have hT2:Turn S w S' w2:=by
   refine ⟨?_,I.turn.2⟩
   have h1:=I.turn.1.trans (Kept.ofBelow (S:=fun _=>False) hba) (fun _ h=>h.elim)
   exact h1.trans hkg (fun k e=>.inr (hrow' k e).1)
  have hz1:wr.heap.size≤wa.heap.size:=hba.size
  have hz0:w.heap.size≤wr.heap.size:=I.turn.1.size
  have hrw:∀ j,(Value.slice a' (m+1) c').ownBlock=some j→w.heap.size≤j∧¬ S' j∧∀ x ∈ sts.map (·.1)++[n],x.blk≠j∧x.ab≠j:=fun j hj=>by
   rcases hg.2 j hj with h1 | h1
   ·have h2:=hrow' j h1
    exact ⟨h2.1,h2.2.2.1,h2.2.2.2⟩
   ·refine ⟨by omega,fun hs=>?_,fun x hx=>?_⟩
    ·have:=(I.act.low j hs).2;omega
    ·obtain ⟨hx1,_,_,hx4⟩:=I.nodes.at_ x hx
     have e1:=hx1.lt;have e2:=I.nodes.lt _ hx4
     exact ⟨by omega,by omega⟩
  subst hm
  have hmap:(sts++[(n,cntE key tc.es)]).map (·.1)=sts.map (·.1)++[n]:=by simp
  refine ⟨sts++[(n,cntE key tc.es)],a',c',isAt key tc.es,S',fun k=>X' k∨(Value.slice a' (m+1) c').ownBlock=some k,rfl,I.way _ _ ⟨n,rfl,I.node,rfl⟩,by rw [hmap];exact hN2,hs2,hA2,hT2,fun k hk=>hk.elim (I.new k) fun e=>.inr (hrw k e).1,fun k hk=>?_,fun x hx=>I.fresh x (hmap ▸ hx)⟩
  obtain ⟨h1,h2,h3⟩:=hrw k hk
  rw [hmap]
  exact ⟨h1,.inr hk,h2,h3⟩
def lvOf (v:Value) (w:World):Nat:=match v with
 | .pointer (some a)=>match w.cell? ⟨a.block,1,none⟩ with
  | some (.int _ x)=>x.toNat
  | _=>0
 | _=>0
theorem lvOf_node {X:Nat→Prop} {w:World} {n:NO} (h:NodeAt X w n):lvOf n.ptr w=n.level:=by
 unfold lvOf NO.ptr
 simp only [h.c1]
 simp
set_option maxHeartbeats 6400000 in
theorem way_ok (x:ActV J B S c h G w) (hw:TreeAt w tb c.a r) (htS:¬ S tb) (hkn:key.length=kn) (hK:ReadsB w KA key) (hKS:∀ ad,KA=some ad→key≠[]→¬ S ad.block) (hL:L≤900) (hR:Rep (Laid h G) t) (hlo:Loose t) (hne:0 < L→t.ens≠[]) {lo:List UInt8} {hi:Option (List UInt8)} (hord:Ord t lo hi) :
  Calls Tryz.prog 76 #[.pointer (some ⟨tb,0,none⟩),.int .i64 t.page,.slice KA kn kc] w (WayPost J B S c h G key w t):=by
 obtain ⟨hq,hG,hv⟩:=hR.at_
 have HLD:=Lib.hid (load_ok x hw t.page L t.ens hq hG hv)
 have hsub:∀ k,S k→k < w.heap.size:=fun k hk=>(x.low k hk).2
 have HN0:Hid (Nodes S S w []):=Lib.hid (Nodes.nil_ (fun _ h=>h) hsub)
 obtain ⟨pg,hpg⟩:∃ pg,pg=t.page:=⟨_,rfl⟩
 rw [← hpg] at HLD ⊢
 have HW:=Lib.hid hw;have HTS:=Lib.hid htS;have HKN:=Lib.hid hkn;have HK:=Lib.hid hK;have HKS:=Lib.hid hKS;have HR:=Lib.hid hR;have HLO:=Lib.hid hlo;have HNE:=Lib.hid hne;have HORD:=Lib.hid hord;have HPG:=Lib.hid hpg
 clear x hw htS hkn hK hKS hR hlo hne hord hq hG hv hsub hpg
 go_enter Tryz.func76,Tryz.ntmps76
 go_wp2_with fail
 refine HLD.out.mono ?_
 rintro e w1 ⟨y,S1,rfl,hLd⟩
 have HI:Hid (∃ X',WayI J B S c h G key w t w1 none 0 0 y L t lo hi [] S1 X'):=Lib.hid (by
  refine ⟨_,⟨⟨rfl,by omega⟩,HR.out,HLO.out,HNE.out,HORD.out,⟨by rw [hLd.info.1,HPG.out],hLd.info.2.1,hLd.info.2.2.1,hLd.info.2.2.2.1,hLd.info.2.2.2.2.1,hLd.info.2.2.2.2.2⟩,HN0.out.load hLd,⟨rfl,.inl ⟨rfl,rfl⟩⟩,fun b rest h=>h,hLd.act,hLd.turn,fun k hk=>?_,(fun k hk=>by simp [Value.ownBlock] at hk),fun x hx=>by
   rw [show ([]:List (NO × Nat)).map (·.1)++[y]=[y] from rfl,List.mem_singleton] at hx
   subst hx
   exact ⟨hLd.new.1,hLd.new.2.1⟩⟩⟩
  rcases hk with (hk | hk) | hk | hk
  ·exact .inl hk
  ·rcases Nat.lt_or_ge k w.heap.size with h1 | h1
   ·exact .inl (hLd.turn.2 k h1 hk)
   ·exact .inr h1
  ·have:=hLd.new.1;exact .inr (by omega)
  ·have:=hLd.new.2.1;exact .inr (by omega))
 have HY:Hid (y.level=L):=Lib.hid hLd.info.2.1
 clear hLd HN0 HLD
 go_wp2
 go_loopw [8,9] (fun v p wr=>∃ (av:Option Addr) (m cv:Nat) (n:NO) (l:Nat) (tc:Tr l) (lo:List UInt8) (hi:Option (List UInt8)) (sts:List (NO × Nat)) (S' X':Nat→Prop),v=.slice av m cv∧p=n.ptr∧Hid (WayI J B S c h G key w t wr av m cv n l tc lo hi sts S' X')) (fun _ p wr=>lvOf p wr)
 case atStart =>
  obtain ⟨X',hI⟩:=HI.out
  exact ⟨none,0,0,y,L,t,lo,hi,[],S1,X',rfl,rfl,Lib.hid hI⟩
 case round =>
  obtain ⟨av,m,cv,n,l,tc,lo',hi',sts,S',X',rfl,rfl,HG⟩:=hrel
  have hna:=(HG.out.nodes.at_ n (by simp)).1
  have hlv:=HG.out.node.2.1
  have c1:=hna.c1
  have HME:=Lib.hid ((lvOf_node hna).trans hlv)
  rw [hlv] at c1
  cases l with
  | zero =>
   obtain ⟨at_,b,hfd,happ⟩:=way_end (kc:=kc) HW.out HKN.out HK.out HKS.out hL HG.out
   have HFD:=Lib.hid hfd;have HAP:=Lib.hid happ
   clear hna hlv hfd happ
   unfold NO.ptr at HFD HAP ⊢
   go_wp2_with fail
   refine HFD.out.mono ?_
   rintro e w2 ⟨rfl,hb2⟩
   obtain ⟨a',c',w3,hrun,hpo⟩:=HAP.out w2 hb2
   have HPO:=Lib.hid hpo
   clear hpo
   go_wp2_with (at_builtin;refine Lib.wpList_append_run _ rfl _ _ 129 129 rfl _ _ rfl rfl _ _ hrun ?_)
   go_ret2
   exact HPO.out
  | succ l =>
   obtain ⟨at_,hld,happ⟩:=way_step (kc:=kc) HW.out HTS.out HKN.out HK.out HKS.out hL HG.out
   have HLE:=Lib.hid hld;have HAP:=Lib.hid happ
   clear hna hlv hld happ
   unfold NO.ptr at HLE HAP ⊢
   have hpos:(0:Int) < ((l+1:Nat):Int):=by omega
   go_wp2_with fail
   refine HLE.out.mono ?_
   rintro e w2 ⟨rfl,hb2⟩
   obtain ⟨a',c',w3,hrun,hbl⟩:=HAP.out w2 hb2
   have HBL:=Lib.hid hbl
   clear hbl
   go_wp2_with (at_builtin;refine Lib.wpList_append_run _ rfl _ _ 129 129 rfl _ _ rfl rfl _ _ hrun ?_)
   refine HBL.out.mono ?_
   rintro e w4 ⟨yy,tk,lo2,hi2,sts2,S2,X2,rfl,hyl,hI2⟩
   have HI2:=Lib.hid hI2
   have HMY:Hid (lvOf yy.ptr w4=l):=Lib.hid ((lvOf_node (hI2.nodes.at_ yy (by simp)).1).trans hyl)
   clear hI2 hyl
   go_wp2
   go_roundw
   case rel=>exact ⟨a',m+1,c',yy,l,tk,lo2,hi2,sts2,S2,X2,rfl,rfl,HI2⟩
   case measure =>
    have h1:=HMY.out;have h2:=HME.out
    show lvOf yy.ptr w4 < lvOf n.ptr wr
    omega
end
end Go.Proofs.YtfbbjiidccbaiaaGreatDoor
