/- Texts of one proof, one behind the other: PN, PO, SM, LA, LB, LC, LD, LE, LF, LG, LH, SL, SD, SE, SF. -/
import Derived.Test.YtfbbjiidccbaiaaGreatDoorMAC
import Derived.Laws.MakeOwn
import Derived.Test.YtfbbjiidccbaiaaGreatDoorMAA
import Derived.Laws.BitsAllLaws
import Derived.Deep.QuietTactic
import Derived.BigQuiet
import Derived.IntWalk
import Derived.Laws.OwnMore
import Derived.Deep.RegionHeld3
import Derived.Laws.Tables
import Derived.Lib.Builder
set_option maxRecDepth 100000
namespace Go.Proofs.YtfbbjiidccbaiaaGreatDoor
open Go.RowKit
section
variable {B p d n N:Nat} {S:Nat→Prop} {w:World} {C:Nat→List UInt8} {P:Nat→Nat}
def NoPins (P:Nat→Nat) (q:Int):Prop:=∀ j:Nat,(j:Int)=q→P j=0
def StPost (B:Nat) (S:Nat→Prop) (p d n:Nat) (C:Nat→List UInt8) (P:Nat→Nat) (N:Nat) (w:World) (e:Ending) (w':World):Prop :=
 e=.returned (.int .i64 0)∧∃ S',Turn S w S' w'∧PoolSt B S' p d n C P N w'
end
set_option maxHeartbeats 800000 in
theorem pnew_nodisk (v:Value) (n:Int) (w:World) (hp:NoDisk v w) :
  Calls Tryz.prog 46 #[v,.int .i64 n] w fun e w'=>e=.returned (.tuple #[.pointer none,.int .i64 1])∧w'=w:=by
 have HR:=Lib.hid (read_nobody v 1 0 0 w hp)
 clear hp
 go_enter Tryz.func46,Tryz.ntmps46
 go_wp2_with fail
 refine HR.out.mono ?_
 rintro e w2 ⟨rfl,rfl⟩
 go_wp2
 go_ret2
 exact ⟨rfl,rfl⟩
theorem infoFr:(Tryz.prog.info? 176).map (fun i=>(i.zero,i.size,i.bytes))=some (some (.agg (zeroFr 0).cells.toArray),516,536):=by kernel_rfl
set_option maxHeartbeats 1600000 in
theorem pnew_ok (d n:Nat) (S:Nat→Prop) (ops:List RawOp) (w:World) (h:DiskAt S d ops w) (h1:1≤n) (h2:n≤1024) :
  Calls Tryz.prog 46 #[.pointer (some ⟨d,0,none⟩),.int .i64 n] w fun e w'=>∃ p fb mb,e=.returned (.tuple #[.pointer (some ⟨p,0,none⟩),.int .i64 0])∧PoolG p d fb mb n 0 0 (fun _=>none) w'∧(w.heap.size≤p∧w.heap.size≤fb∧w.heap.size≤mb)∧Below w.heap.size w w':=by
 have HR:=Lib.hid (read_ok 1 0 0 S d ops w h (by omega) (by omega))
 simp only [List.take_zero] at HR
 obtain ⟨i,hi,hz,hs,hby⟩:=info_parts infoFr
 have hmk:∀ W:World,(Instr.makeSlice 154 (.int .i64 n) (.int .i64 n)).run Tryz.prog W=.ok (.slice (some ⟨W.heap.size,0,none⟩) n n) (W.alloc (.cells (madeCells (zeroFr 0).cells.toArray (n*516)) 176)):=fun W=>by
  have h:=run_make (P:=Tryz.prog) W 154 176 i _ Tryz.underlying154 hi hz .i64 .i64 n n (by omega) (by omega) (by rw [hby];omega) (by omega)
  rw [hs] at h
  rw [show (Value.agg (zeroFr 0).cells.toArray).cells=(zeroFr 0).cells.toArray from rfl] at h
  simpa using h
 obtain ⟨M,hM⟩:∃ M,M=madeCells (zeroFr 0).cells.toArray (n*516):=⟨_,rfl⟩
 have hMs:M.size=n*516:=by rw [hM,size_madeCells]
 rw [← hM] at hmk
 have hmm:=@run_makeMap Tryz.prog
 have hg1:¬ ((n:Int) < 1):=by omega
 have hg2:¬ ((1024:Int) < n):=by omega
 have HH:=Lib.hid h
 clear hM hi hz hs hby h
 go_enter Tryz.func46,Tryz.ntmps46
 go_wp2_with fail
 refine HR.out.mono ?_
 rintro e w2 ⟨rfl,hw⟩
 subst w2
 have hend:PoolG (w.heap.size+1+1) d w.heap.size (w.heap.size+1) n 0 0 (fun _=>none) (((w.alloc (.cells M 176)).alloc (.map #[] 0)).alloc (.cells #[.pointer (some ⟨w.heap.size+1+1,0,none⟩),.pointer (some ⟨d,0,none⟩),.slice (some ⟨w.heap.size,0,none⟩) n n,.map (some (w.heap.size+1)),.int .i64 0] 157)):=by
  obtain ⟨X,hX⟩:∃ X:Obj,X=.cells #[.pointer (some ⟨w.heap.size+1+1,0,none⟩),.pointer (some ⟨d,0,none⟩),.slice (some ⟨w.heap.size,0,none⟩) n n,.map (some (w.heap.size+1)),.int .i64 0] 157:=⟨_,rfl⟩
  have hfb:(((w.alloc (.cells M 176)).alloc (.map #[] 0)).alloc X).heap[w.heap.size]? = some (.cells M 176 (0,0)):=by
   rw [Below.heap_alloc _ _ _ (by simp;omega),Below.heap_alloc _ _ _ (by simp)]
   exact heap_alloc_new w _
  have hp:(((w.alloc (.cells M 176)).alloc (.map #[] 0)).alloc X).heap[w.heap.size+1+1]? = some X:=by
   have:=heap_alloc_new ((w.alloc (.cells M 176)).alloc (.map #[] 0)) X
   simpa using this
  rw [← hX]
  refine ⟨by rw [hp,hX];rfl,h1,h2,h1,fun j hj=>⟨?_,Lib.frozen_of_heap hfb _⟩,fun j=>Lib.frozen_of_heap hfb _,(fun i f hf=>by cases hf),(fun i j f g hf=>by cases hf),⟨fun _=>none,?_,fun i f hf=>by (cases hf),fun q v hv=>by (cases hv)⟩,by omega,by omega,by omega⟩
  ·rw [Lib.cell_of_heap hfb,Nat.zero_add,Array.getElem?_eq_getElem (by omega)];rfl
  ·have:=pmap_made (w.alloc (.cells M 176))
   simp only [World.size_alloc] at this
   exact this.block (Below.heap_alloc _ _ _ (by simp))
 have HE:=Lib.hid hend;clear hend
 go_wp2
 go_ret2
 exact ⟨_,_,_,rfl,HE.out,⟨by omega,by omega,by omega⟩,(((Below.refl _ w).alloc (Nat.le_refl _) _).alloc (by simp) _).alloc (by simp;omega) _⟩
theorem chg_none (n:Nat):chg n (fun _=>none)=0:=by
 induction n with
 | zero=>rfl
 | succ n ih=>rw [chg,ih];rfl
section
variable {B p d n N:Nat} {S:Nat→Prop} {w:World} {C:Nat→List UInt8} {P:Nat→Nat}
end
theorem pinnedN_zero {P:Nat→Nat} (h:∀ q,P q=0):pinnedN P=0 :=
 (pinnedN_list (l:=[]) List.nodup_nil (fun q=>by simp [h q])).symm
def xS:ByteArray:=⟨#[120]⟩
def PoolJ (J:List RawOp→Prop) (B:Nat) (S:Nat→Prop) (p d n:Nat) (C:Nat→List UInt8) (P:Nat→Nat) (N:Nat) (w:World):Prop :=
 ∃ fb mb hand m fr Sd ops,J ops∧PoolG p d fb mb n hand m fr w∧Filled n m fr∧DiskAt Sd d ops w∧View n fr ops C P N∧(¬ Sd p∧¬ Sd fb∧¬ Sd mb)∧(∀ k,Sd k∨k=p∨k=fb∨k=mb→S k)∧∀ k,S k→B≤k∧k < w.heap.size
section
variable {B p d n N:Nat} {S:Nat→Prop} {w w':World} {C:Nat→List UInt8} {P:Nat→Nat} {J:List RawOp→Prop}
theorem PoolJ.size (h:PoolJ J B S p d n C P N w):B≤w.heap.size:=by
 obtain ⟨fb,mb,hand,m,fr,Sd,ops,hJ,h1,_,_,_,_,h6,h7⟩:=h
 have:=h7 p (h6 p (.inr (.inl rfl)))
 omega
theorem PoolJ.low (h:PoolJ J B S p d n C P N w):∀ k,S k→B≤k∧k < w.heap.size:=by
 obtain ⟨fb,mb,hand,m,fr,Sd,ops,hJ,h1,_,_,_,_,h6,h7⟩:=h
 exact h7
theorem PoolJ.kept {T:Nat→Prop} (h:PoolJ J B S p d n C P N w) (hk:Kept T w w') (hd:∀ k,k < w.heap.size→S k→¬ T k):PoolJ J B S p d n C P N w':=by
 obtain ⟨fb,mb,hand,m,fr,Sd,ops,hJ,h1,h2,h3,h4,h5,h6,h7⟩:=h
 have hn:∀ k,Sd k∨k=p∨k=fb∨k=mb→¬ T k:=fun k hk'=>hd k (h7 k (h6 k hk')).2 (h6 k hk')
 refine ⟨fb,mb,hand,m,fr,Sd,ops,hJ,h1.kept hk (hn p (.inr (.inl rfl))) (hn fb (.inr (.inr (.inl rfl)))) (hn mb (.inr (.inr (.inr rfl)))),h2,h3.kept hk (fun k _ hs=>hn k (.inl hs)),h4,h5,h6,fun k hs=>⟨(h7 k hs).1,Nat.lt_of_lt_of_le (h7 k hs).2 hk.size⟩⟩
theorem PoolJ.below (h:PoolJ J B S p d n C P N w) (hk:Below w.heap.size w w'):PoolJ J B S p d n C P N w' :=
 h.kept (Kept.ofBelow (S:=fun _=>False) hk) (fun _ _ _=>id)
theorem poolJ_mk {fb mb hand m:Nat} {fr:Nat→Option Fr} {Sd:Nat→Prop} {ops:List RawOp} (hJ:J ops) (h1:PoolG p d fb mb n hand m fr w') (h2:Filled n m fr) (h3:DiskAt Sd d ops w') (h4:View n fr ops C P N) (h5:¬ Sd p∧¬ Sd fb∧¬ Sd mb)
  (h6:∀ k,Sd k→S k∨w.heap.size≤k) (h7:S p∧S fb∧S mb) (h8:∀ k,S k→B≤k∧k < w.heap.size) (h9:Kept S w w'):∃ S',Turn S w S' w'∧PoolJ J B S' p d n C P N w':=by
 refine ⟨fun k=>(S k∨w.heap.size≤k)∧k < w'.heap.size,⟨h9,fun k hk hs=>hs.1.elim id (by omega)⟩,fb,mb,hand,m,fr,fun k=>Sd k∧k < w'.heap.size,ops,hJ,h1,h2,h3.bound,h4,⟨fun h=>h5.1 h.1,fun h=>h5.2.1 h.1,fun h=>h5.2.2 h.1⟩,?_,?_⟩
 ·rintro k (⟨h,hlt⟩ | rfl | rfl | rfl)
  ·exact ⟨h6 k h,hlt⟩
  ·exact ⟨.inl h7.1,h1.lt⟩
  ·exact ⟨.inl h7.2.1,h1.ltF⟩
  ·exact ⟨.inl h7.2.2,h1.ltM⟩
 ·rintro k ⟨hk,hlt⟩
  refine ⟨hk.elim (fun h=>(h8 k h).1) (fun h=>?_),hlt⟩
  have:=h8 p h7.1
  omega
end
def PinPostJ (J:List RawOp→Prop) (B:Nat) (S:Nat→Prop) (p d n:Nat) (C:Nat→List UInt8) (P:Nat→Nat) (N q:Nat) (w:World) (e:Ending) (w':World):Prop :=
 ∃ S',Turn S w S' w'∧(e=.returned (.int .i64 40)∧P q=0∧pinnedN P=n∧PoolJ J B S' p d n C P N w'∨e=.returned (.int .i64 0)∧¬ (P q=0∧pinnedN P=n)∧PoolJ J B S' p d n C (upd P q (P q+1)) (N+1) w')
theorem pin_j (J:List RawOp→Prop) (B:Nat) (S:Nat→Prop) (p d n:Nat) (C:Nat→List UInt8) (P:Nat→Nat) (N q:Nat) (w:World) (h:PoolJ J B S p d n C P N w) (hN:N≤4398046511104) (hq:q < 4096) (hcl:∀ ops q,J ops→J (ops++[.put 1 (q*512) ⟨(C q).toArray⟩])) :
  Calls Tryz.prog 97 #[.pointer (some ⟨p,0,none⟩),.int .i64 q] w (PinPostJ J B S p d n C P N q w):=by
 obtain ⟨fb,mb,hand,m,fr,Sd,ops,hJ,hG,hF,hD,hV,hO,hS,hB⟩:=h
 have hSS:S p∧S fb∧S mb:=⟨hS p (.inr (.inl rfl)),hS fb (.inr (.inr (.inl rfl))),hS mb (.inr (.inr (.inr rfl)))⟩
 by_cases hx:∃ i f,fr i=some f∧f.page=q
 ·
  obtain ⟨i,f,hi,rfl⟩:=hx
  obtain ⟨hin,_,hfb,_⟩:=hG.at_ i f hi
  obtain ⟨hC,hP,_⟩:=hV.held i f hi
  have hpn:f.pins≤N:=by rw [← hP];exact hV.bnd _
  refine (pin_held p d fb mb n hand m i fr f w hG hi (by omega)).mono ?_
  rintro e w' ⟨rfl,g1,g2⟩
  have hV2:=hV.turn hG.one hi hin (f':={ f with pins:=f.pins+1,lately:=true }) rfl (fun h=>⟨h,rfl⟩) (by show f.pins+1≤N+1;omega)
  have hC2:upd C f.page f.bytes=C:=by rw [← hC];exact upd_self _ _
  have hV3:View n (upd fr i (some { f with pins:=f.pins+1,lately:=true })) ops C (upd P f.page (P f.page+1)) (N+1):=by
   rw [hP];rw [show ({ f with pins:=f.pins+1,lately:=true }:Fr).bytes=f.bytes from rfl,hC2] at hV2;exact hV2
  obtain ⟨S',hT,hSt⟩:=poolJ_mk (S:=S) (B:=B) (w:=w) hJ g1 ⟨hF.1,fun j=>by
   rw [hF.2 j]
   by_cases hj:j=i
   ·subst hj;rw [upd_same];exact ⟨fun _=>⟨_,rfl⟩,fun _=>⟨f,hi⟩⟩
   ·rw [upd_other _ _ hj]⟩ (hD.kept g2 (fun k _ hs e=>hO.2.1 (e ▸ hs))) hV3 hO (fun k hk=>.inl (hS k (.inl hk))) hSS hB (g2.mono (fun k hk=>hk ▸ hSS.2.1))
  refine ⟨S',hT,.inr ⟨rfl,?_,hSt⟩⟩
  rintro ⟨h0,h1⟩
  exact full_no hG hV hin (fun g hg=>by rw [hi] at hg;cases hg;omega) h1
 ·have hno:∀ j f,fr j=some f→f.page≠q:=fun j f hj e=>hx ⟨j,f,hj,e⟩
  have hP0:=(hV.free q hno).2
  by_cases hm:m < n
  ·
   have hnone:fr m=none:=by
    cases hf:fr m with
    | none=>rfl
    | some f=>have:=(hF.2 m).2 ⟨f,hf⟩;omega
   have hs:Calls Tryz.prog 137 #[.pointer (some ⟨p,0,none⟩)] w fun e w'=>∃ i hand' m' fr' S ops',e=.returned (ptrFr fb i)∧Spared S p d fb mb n q hand' m' fr' ops' i w'∧(i=m∧m'=m∧fr'=fr∧S=Sd∧ops'=ops∧w'=w) :=
    (spare_free p d fb mb n hand m fr w hG hm).mono fun e w' ⟨h1,h2⟩=>⟨m,hand,m,fr,Sd,ops,h1,by subst h2;exact ⟨hG,hnone,hm,hF.1,hno,hD,hO.1,hO.2.1,hO.2.2⟩,rfl,rfl,rfl,rfl,rfl,h2⟩
   refine (pin_new p d fb mb n hand m fr q (fun i m' fr' S ops' w'=>i=m∧m'=m∧fr'=fr∧S=Sd∧ops'=ops∧w'=w) w hG hq hno hs).mono ?_
   rintro e w' ⟨rfl,i,hand',m',fr',S2,ops',w1,_,⟨hX1,hX2,hX3,hX4,hX5,hX6⟩,g1,g2,g3⟩
   subst hX2 hX3 hX4 hX5 hX6
   rw [hX1] at g1
   obtain ⟨S',hT,hSt⟩:=poolJ_mk (S:=S) (B:=B) (w:=w1) hJ g1 ⟨hm,fun j=>by
    by_cases hj:j=m'
    ·subst hj;rw [upd_same];exact ⟨fun _=>⟨_,rfl⟩,fun _=>by omega⟩
    ·rw [upd_other _ _ hj,← hF.2 j];omega⟩ g2 (hV.load hnone hm hno) hO (fun k hk=>.inl (hS k (.inl hk))) hSS hB (g3.mono (fun k hk=>by rcases hk with rfl | rfl;exact hSS.2.1;exact hSS.2.2))
   refine ⟨S',hT,.inr ⟨rfl,?_,?_⟩⟩
   ·rintro ⟨_,h1⟩
    exact full_no hG hV hm (fun g hg=>by rw [hnone] at hg;cases hg) h1
   ·rw [hP0];exact hSt
  ·have hmn:m=n:=by have:=hF.1;omega
   have hsp:=spare_full p d fb mb n hand m fr Sd ops w hG hF hmn hD (by have:=hV.cost;omega) hO.1 hO.2.1 hO.2.2
   by_cases hall:∀ i,i < n→∃ f,fr i=some f∧0 < f.pins
   ·
    have hs:Calls Tryz.prog 137 #[.pointer (some ⟨p,0,none⟩)] w fun e w'=>e=.returned (.pointer none)∧∃ hand' fr',Late fr fr'∧PoolG p d fb mb n hand' m fr' w'∧Kept (fun k=>k=p∨k=fb) w w':=by
     refine hsp.mono ?_
     rintro e w' ⟨hand',fr',hL,he | ⟨i,f,S',hin,hi,hp,_⟩⟩
     ·exact ⟨he.1,hand',fr',hL,he.2.1,he.2.2.2⟩
     ·exfalso
      obtain ⟨f0,hf0,_,e2,_⟩:=late_some hL hi
      obtain ⟨g,hg,hgp⟩:=hall i hin
      rw [hf0] at hg;cases hg
      omega
    refine (pin_nil p d fb mb n hand m fr q (fun w'=>∃ hand' fr',Late fr fr'∧PoolG p d fb mb n hand' m fr' w'∧Kept (fun k=>k=p∨k=fb) w w') w hG hq hno hs).mono ?_
    rintro e w' ⟨rfl,hand',fr',hL,g1,g2⟩
    obtain ⟨S',hT,hSt⟩:=poolJ_mk (S:=S) (B:=B) (w:=w) hJ g1 ⟨hF.1,fun j=>by
     rw [hF.2 j]
     constructor
     ·rintro ⟨f,hf⟩;obtain ⟨b,hb⟩:=late_back hL hf;exact ⟨_,hb⟩
     ·rintro ⟨f,hf⟩;obtain ⟨f0,hf0,_⟩:=late_some hL hf;exact ⟨_,hf0⟩⟩ (hD.kept g2 (fun k _ hsd e=>by rcases e with rfl | rfl;exact hO.1 hsd;exact hO.2.1 hsd)) (hV.late hL) hO (fun k hk=>.inl (hS k (.inl hk))) hSS hB (g2.mono (fun k hk=>by rcases hk with rfl | rfl;exact hSS.1;exact hSS.2.1))
    exact ⟨S',hT,.inl ⟨rfl,hP0,full_yes hG hV hall,hSt⟩⟩
   ·
    obtain ⟨i0,hi0,hp0⟩:∃ i,i < n∧∀ f,fr i=some f→f.pins=0:=by
     refine Classical.byContradiction fun hc=>hall fun i hi=>?_
     obtain ⟨f,hf⟩:=(hF.2 i).1 (by omega)
     refine ⟨f,hf,?_⟩
     refine Classical.byContradiction fun hc2=>hc ⟨i,hi,fun g hg=>?_⟩
     rw [hf] at hg;cases hg;omega
    have hs:Calls Tryz.prog 137 #[.pointer (some ⟨p,0,none⟩)] w fun e w'=>∃ i hand' m' fr2 S2 ops',e=.returned (ptrFr fb i)∧Spared S2 p d fb mb n q hand' m' fr2 ops' i w' ∧
      (m'=m - 1∧(∃ fr1 f,Late fr fr1∧fr1 i=some f∧f.pins=0∧fr2=upd fr1 i none∧ops'=saved f ops∧f.bytes.length=512)∧Kept (fun k=>Sd k∨k=p∨k=fb∨k=mb) w w'∧∀ k,S2 k→Sd k∨w.heap.size≤k):=by
     refine hsp.mono ?_
     rintro e w' ⟨hand',fr',hL,⟨_,_,ha,_⟩ | ⟨i,f,S2,hin,hi,hp,he,g1,g2,g3,g4⟩⟩
     ·exfalso
      obtain ⟨f,hf⟩:=(hF.2 i0).1 (by omega)
      obtain ⟨b,hb⟩:=late_back hL hf
      have h1:=ha i0 _ hi0 hb
      have h2:=hp0 f hf
      simp only at h1
      omega
     ·obtain ⟨f0,hf0,_,_,_,e4⟩:=late_some hL hi
      have hbl:f.bytes.length=512:=by rw [e4];exact (hG.at_ i f0 hf0).2.2.1
      refine ⟨i,hand',m - 1,upd fr' i none,S2,saved f ops,he,⟨g1,upd_same _ _ _,hin,by omega,fun j g hg=>?_,g2,?_,?_,?_⟩,rfl,⟨fr',f,hL,hi,hp,rfl,rfl,hbl⟩,g3,g4⟩
      ·by_cases hj:j=i
       ·subst hj;rw [upd_same] at hg;cases hg
       ·rw [upd_other _ _ hj] at hg
        obtain ⟨g0,hg0,e1,_⟩:=late_some hL hg
        rw [e1];exact hno j g0 hg0
      ·exact fun hh=>(g4 p hh).elim hO.1 (by have:=hG.lt;omega)
      ·exact fun hh=>(g4 fb hh).elim hO.2.1 (by have:=hG.ltF;omega)
      ·exact fun hh=>(g4 mb hh).elim hO.2.2 (by have:=hG.ltM;omega)
    refine (pin_new p d fb mb n hand m fr q _ w hG hq hno hs).mono ?_
    rintro e w' ⟨rfl,i,hand',m',fr2,S2,ops',w1,hSp,⟨rfl,⟨fr1,f,hL,hi,hp,rfl,rfl,hbl⟩,k1,k2⟩,g1,g2,g3⟩
    have one1:∀ a b x y,fr1 a=some x→fr1 b=some y→x.page=y.page→a=b:=fun a b x y hx hy hxy=>by
     obtain ⟨x0,hx0,ex,_⟩:=late_some hL hx
     obtain ⟨y0,hy0,ey,_⟩:=late_some hL hy
     exact hG.one a b x0 y0 hx0 hy0 (by omega)
    have hV1:=(hV.late hL).evict one1 hi hSp.lt hbl hp
    have hV2:=hV1.load hSp.none_ hSp.lt hSp.no
    have hn1:=hG.n1
    have hJ2:J (saved f ops):=by
     unfold saved
     cases hc:f.changed
     ·exact hJ
     ·have:=hcl ops f.page hJ
      rwa [((hV.late hL).held i f hi).1] at this
    obtain ⟨S',hT,hSt⟩:=poolJ_mk (S:=S) (B:=B) (w:=w) hJ2 g1 ⟨by omega,fun j=>by
     by_cases hj:j=i
     ·subst hj;rw [upd_same]
      have:=hSp.lt
      exact ⟨fun _=>⟨_,rfl⟩,fun _=>by omega⟩
     ·rw [upd_other _ _ hj,upd_other _ _ hj]
      rw [show j < m - 1+1 ↔ j < m from by omega,hF.2 j]
      constructor
      ·rintro ⟨f,hf⟩;obtain ⟨b,hb⟩:=late_back hL hf;exact ⟨_,hb⟩
      ·rintro ⟨f,hf⟩;obtain ⟨f0,hf0,_⟩:=late_some hL hf;exact ⟨_,hf0⟩⟩ g2 hV2 ⟨hSp.oP,hSp.oF,hSp.oM⟩ (fun k hk=>(k2 k hk).imp (fun h=>hS k (.inl h)) id) hSS hB
     ((k1.mono (fun k hk=>hS k hk)).trans g3 (fun k hk=>by rcases hk with rfl | rfl;exact .inl hSS.2.1;exact .inl hSS.2.2))
    refine ⟨S',hT,.inr ⟨rfl,?_,?_⟩⟩
    ·rintro ⟨_,h1⟩
     exact full_no hG hV hi0 hp0 h1
    ·rw [hP0];exact hSt
section
variable {B p d n N:Nat} {S:Nat→Prop} {w:World} {C:Nat→List UInt8} {P:Nat→Nat} {J:List RawOp→Prop}
theorem read_j (h:PoolJ J B S p d n C P N w) (q:Nat) (hp:0 < P q) :
  Calls Tryz.prog 98 #[.pointer (some ⟨p,0,none⟩),.int .i64 q] w fun e w'=>e=.returned (.tuple #[.string ⟨(C q).toArray⟩,.int .i64 0])∧w'=w:=by
 obtain ⟨fb,mb,hand,m,fr,Sd,ops,hJ,hG,_,_,hV,_⟩:=h
 obtain ⟨i,f,hi,rfl,_,hfp,_⟩:=holder hG hV hp
 rw [(hV.held i f hi).1]
 exact pread_yes p d fb mb n hand m i fr f w hG hi (by omega)
def StPostJ (J:List RawOp→Prop) (B:Nat) (S:Nat→Prop) (p d n:Nat) (C:Nat→List UInt8) (P:Nat→Nat) (N:Nat) (w:World) (e:Ending) (w':World):Prop :=
 e=.returned (.int .i64 0)∧∃ S',Turn S w S' w'∧PoolJ J B S' p d n C P N w'
theorem turn_j {fb mb hand m i:Nat} {fr:Nat→Option Fr} {Sd:Nat→Prop} {ops:List RawOp} {f f':Fr} {w':World} (hJ:J ops) (hG:PoolG p d fb mb n hand m fr w) (hF:Filled n m fr) (hD:DiskAt Sd d ops w) (hV:View n fr ops C P N) (hO:¬ Sd p∧¬ Sd fb∧¬ Sd mb) (hS:∀ k,Sd k∨k=p∨k=fb∨k=mb→S k) (hB:∀ k,S k→B≤k∧k < w.heap.size)
  (hi:fr i=some f) (hFr:FrAt w' fb (i*516) f') (hT:Touch fb (i*516) 516 w w') (hK:Kept (fun k=>k=fb) w w') (hb:f'.bytes.length=512) (hpg:f'.page=f.page) (hc:f'.changed=false→f.changed=false∧f'.bytes=f.bytes) (hN:f'.pins≤N+1) :
  ∃ S',Turn S w S' w'∧PoolJ J B S' p d n (upd C f.page f'.bytes) (upd P f.page f'.pins) (N+1) w':=by
 have hSS:S p∧S fb∧S mb:=⟨hS p (.inr (.inl rfl)),hS fb (.inr (.inr (.inl rfl))),hS mb (.inr (.inr (.inr rfl)))⟩
 exact poolJ_mk hJ (hG.turnFr hi hT hK hFr hb hpg) ⟨hF.1,fun j=>by
   rw [hF.2 j]
   by_cases hj:j=i
   ·subst hj;rw [upd_same];exact ⟨fun _=>⟨_,rfl⟩,fun _=>⟨f,hi⟩⟩
   ·rw [upd_other _ _ hj]⟩ (hD.kept hK (fun k _ hs e=>hO.2.1 (e ▸ hs))) (hV.turn hG.one hi (hG.at_ i f hi).1 hpg hc hN) hO (fun k hk=>.inl (hS k (.inl hk))) hSS hB (hK.mono (fun k hk=>hk ▸ hSS.2.1))
theorem unpin_j (h:PoolJ J B S p d n C P N w) (q:Nat) (hp:0 < P q) (hN:N≤4398046511104) :
  Calls Tryz.prog 99 #[.pointer (some ⟨p,0,none⟩),.int .i64 q] w (StPostJ J B S p d n C (upd P q (P q - 1)) (N+1) w):=by
 obtain ⟨fb,mb,hand,m,fr,Sd,ops,hJ,hG,hF,hD,hV,hO,hS,hB⟩:=h
 obtain ⟨i,f,hi,rfl,_,hfp,_⟩:=holder hG hV hp
 have hb:=hV.bnd f.page
 refine (unpin_yes p d fb mb n hand m i fr f w hG hi (by omega) (by omega)).mono ?_
 rintro e w' ⟨rfl,g1,g2,g3⟩
 obtain ⟨S',hT,hSt⟩:=turn_j hJ hG hF hD hV hO hS hB hi g1 g2 g3 (hG.at_ i f hi).2.2.1 rfl (fun h=>⟨h,rfl⟩) (by show f.pins - 1≤N+1;omega)
 refine ⟨rfl,S',hT,?_⟩
 have hC:=(hV.held i f hi).1
 rw [show ({ f with pins:=f.pins - 1 }:Fr).bytes=C f.page from hC.symm,upd_self] at hSt
 rw [← hfp];exact hSt
theorem write_j (h:PoolJ J B S p d n C P N w) (q a:Nat) (s:ByteArray) (hp:0 < P q) (ha:a+s.size≤512) :
  Calls Tryz.prog 135 #[.pointer (some ⟨p,0,none⟩),.int .i64 q,.int .i64 a,.string s] w (StPostJ J B S p d n (upd C q (splice (C q) a s.data.toList)) P (N+1) w):=by
 obtain ⟨fb,mb,hand,m,fr,Sd,ops,hJ,hG,hF,hD,hV,hO,hS,hB⟩:=h
 obtain ⟨i,f,hi,rfl,_,hfp,_⟩:=holder hG hV hp
 have hb:=hV.bnd f.page
 have hbl:=(hG.at_ i f hi).2.2.1
 refine (pwrite_yes p d fb mb n hand m i a fr f s w hG hi (by omega) ha).mono ?_
 rintro e w' ⟨rfl,g1,g2,g3⟩
 have he:s.data.toList.length=s.size:=rfl
 obtain ⟨S',hT,hSt⟩:=turn_j hJ hG hF hD hV hO hS hB hi g1 g2 g3 (by show (splice f.bytes a s.data.toList).length=512;rw [length_splice _ _ _ (by rw [he,hbl];exact ha)];exact hbl) rfl (fun h=>by
  simp only [Bool.or_eq_false_iff,decide_eq_false_iff_not,ne_eq,Classical.not_not] at h
  refine ⟨h.1,?_⟩
  have:s.data.toList=[]:=List.eq_nil_of_length_eq_zero (by rw [he,h.2])
  show splice f.bytes a s.data.toList=f.bytes
  rw [this,splice_nil]) (by show f.pins≤N+1;omega)
 refine ⟨rfl,S',hT,?_⟩
 have hC:=(hV.held i f hi).1
 have hP:=(hV.held i f hi).2.1
 rw [show ({ f with bytes:=splice f.bytes a s.data.toList,changed:=f.changed || decide (s.size≠0) }:Fr).bytes=splice f.bytes a s.data.toList from rfl,show ({ f with bytes:=splice f.bytes a s.data.toList,changed:=f.changed || decide (s.size≠0) }:Fr).pins=P f.page from hP.symm,upd_self] at hSt
 rw [hC];exact hSt
end
def w4 (n:Nat):List UInt8:=[UInt8.ofNat (n / 16777216),UInt8.ofNat (n / 65536),UInt8.ofNat (n / 256),UInt8.ofNat n]
def v4 (l:List UInt8):Nat:=l.foldl (fun u c=>u*256+c.toNat) 0
theorem v4_snoc (l:List UInt8) (c:UInt8):v4 (l++[c])=v4 l*256+c.toNat:=by simp [v4]
theorem w4_length (n:Nat):(w4 n).length=4:=rfl
theorem v4_w4 (n:Nat) (h:n < 4294967296):v4 (w4 n)=n:=by
 simp only [v4,w4,List.foldl_cons,List.foldl_nil,UInt8.toNat_ofNat']
 omega
theorem v4_lt (l:List UInt8):∀ k,l.length≤k→v4 l < 256 ^ k:=by
 have H:∀ (l:List UInt8) u k,u < 256 ^ k→l.foldl (fun u c=>u*256+c.toNat) u < 256 ^ (k+l.length):=by
  intro l
  induction l with
  | nil=>intro u k h;simpa using h
  | cons c l ih =>
   intro u k h
   have hc:=c.toNat_lt
   have:=ih (u*256+c.toNat) (k+1) (by rw [Nat.pow_succ];omega)
   rw [List.foldl_cons,List.length_cons,show k+(l.length+1)=k+1+l.length by omega]
   exact this
 intro k hk
 have:=H l 0 0 (by decide)
 rw [Nat.zero_add] at this
 exact Nat.lt_of_lt_of_le this (Nat.pow_le_pow_right (by decide) hk)
def frm (r:ByteArray) (k:Nat):List UInt8:=w4 r.size++r.data.toList++w4 k
theorem frm_length (r:ByteArray) (k:Nat):(frm r k).length=r.size+8:=by
 have:r.data.toList.length=r.size:=rfl
 simp only [frm,List.length_append,w4_length,this]
 omega
def logG:Nat→List ByteArray→List UInt8
 | _,[]=>[]
 | k,r :: rs=>frm r k++logG (k+1) rs
def logB (rs:List ByteArray):List UInt8:=logG 1 rs
def Recs (rs:List ByteArray):Prop:=∀ r ∈ rs,1≤r.size∧r.size≤1048576
theorem logG_length:∀ (rs:List ByteArray) (k:Nat),Recs rs→9*rs.length≤(logG k rs).length
 | [],_,_=>by simp
 | r :: rs,k,h=>by
  have h1:=logG_length rs (k+1) (fun x hx=>h x (by simp [hx]))
  have h2:=(h r (by simp)).1
  simp only [logG,List.length_append,frm_length,List.length_cons]
  omega
theorem logB_length {rs:List ByteArray} (h:Recs rs):9*rs.length≤(logB rs).length:=logG_length rs 1 h
def cutF (l:List UInt8):Option (List UInt8 × List UInt8) :=
 if l.length < 8 then none else if l.length - 8 < v4 (l.take 4) then none else some ((l.drop 4).take (v4 (l.take 4)),l.drop (v4 (l.take 4)+8))
theorem cutF_frm {r:ByteArray} {k:Nat} {rest:List UInt8} (h:r.size≤1048576):cutF (frm r k++rest)=some (r.data.toList,rest):=by
 have hl:r.data.toList.length=r.size:=rfl
 have e1:(frm r k++rest).take 4=w4 r.size:=by
  simp only [frm,List.append_assoc]
  exact List.take_left' (w4_length _)
 have e2:(frm r k++rest).drop 4=r.data.toList++(w4 k++rest):=by
  simp only [frm,List.append_assoc]
  exact List.drop_left' (w4_length _)
 have e3:(frm r k++rest).drop (r.size+8)=rest:=List.drop_left' (frm_length r k)
 have e4:(frm r k++rest).length=r.size+8+rest.length:=by rw [List.length_append,frm_length]
 unfold cutF
 rw [e1,e2,v4_w4 _ (by omega),e3,if_neg (by omega),if_neg (by omega),List.take_left' hl]
theorem cutF_length {l a b:List UInt8} (h:cutF l=some (a,b)):b.length < l.length∧a.length=v4 (l.take 4)∧a.length+8≤l.length:=by
 unfold cutF at h
 split at h
 ·cases h
 ·split at h
  ·cases h
  ·rename_i h1 h2
   injection h with h
   injection h with h3 h4
   subst h3;subst h4
   simp only [List.length_drop,List.length_take]
   omega
def ReadsB (w:World) (a:Option Addr) (l:List UInt8):Prop :=
 l=[]∨∃ b off,a=some ⟨b,off,none⟩∧b < w.heap.size∧∀ j (h:j < l.length),w.cell? ⟨b,off+j,none⟩=some (.int .u8 (l[j].toNat:Int))
theorem ReadsB.at {w:World} {a:Option Addr} {l:List UInt8} (h:ReadsB w a l) (hl:0 < l.length):∃ b off,a=some ⟨b,off,none⟩∧b < w.heap.size∧∀ j (h:j < l.length),w.cell? ⟨b,off+j,none⟩=some (.int .u8 (l[j].toNat:Int)):=by
 rcases h with rfl | h
 ·simp at hl
 ·exact h
theorem ReadsB.below {w w':World} {a:Option Addr} {l:List UInt8} (h:ReadsB w a l) (hb:Below w.heap.size w w'):ReadsB w' a l:=by
 rcases h with h | ⟨b,off,h1,h2,h3⟩
 ·exact .inl h
 ·exact .inr ⟨b,off,h1,Nat.lt_of_lt_of_le h2 hb.size,fun j hj=>(hb.cell (p:=⟨b,off+j,none⟩) h2).trans (h3 j hj)⟩
theorem or_i64 (N:Nat) (b:Nat) (hN:N < 36028797018963968) (hb:b < 256):bits BinOp.or IntKind.i64 ((N:Int)*256) (b:Int)=((N*256+b:Nat):Int):=by
 have h1:(BitVec.ofInt 64 ((N:Int)*256)).toNat=N*256:=by rw [BitVec.toNat_ofInt];omega
 have h2:(BitVec.ofInt 64 (b:Int)).toNat=b:=by rw [BitVec.toNat_ofInt];omega
 show IntKind.i64.wrap ((BitVec.ofInt 64 ((N:Int)*256) ||| BitVec.ofInt 64 (b:Int)).toNat:Int)=_
 rw [BitVec.toNat_or,h1,h2,nat_join 8 (N*256) b (by omega) hb,IntKind.wrap_i64]
 omega
set_option maxHeartbeats 1600000 in
theorem wordOf_any (a:Option Addr) (l:List UInt8) (c:Nat) (w:World) (hl:l.length≤6) (hR:ReadsB w a l) :
  Calls Tryz.prog 176 #[.slice a l.length c] w fun e w'=>e=.returned (.int .i64 (v4 l))∧w'=w:=by
 have HR:=Lib.hid hR;clear hR
 go_enter Tryz.func176,Tryz.ntmps176
 go_wp2
 go_loop [3,5,8] (fun n _ i=>∃ k:Nat,k≤l.length∧i=.int .i64 k∧n=.int .i64 (v4 (l.take k))) (fun _ _ i=>l.length - (intOf i).toNat)
 case atStart=>exact ⟨0,by omega,rfl,rfl⟩
 case round =>
  obtain ⟨k,hk,rfl,rfl⟩:=hrel
  by_cases hlt:k < l.length
  ·obtain ⟨b,off,rfl,_,hc⟩:=HR.out.at (by omega)
   have hck:=hc k hlt
   clear hc
   have hN:v4 (l.take k) < 36028797018963968:=by
    refine Nat.lt_of_lt_of_le (v4_lt _ 6 ?_) (by decide)
    have:=List.length_take_le k l
    omega
   have hcb:=l[k].toNat_lt
   have hor:=or_i64 (v4 (l.take k)) l[k].toNat hN hcb
   have HS:Hid (v4 (l.take (k+1))=v4 (l.take k)*256+l[k].toNat):=Lib.hid (by rw [List.take_succ_eq_append_getElem hlt,v4_snoc])
   have HOR:=Lib.hid hor;clear hor
   go_wp2_with fail
   go_round
   case rel=>exact ⟨k+1,by omega,by go_num,by rw [HS.out,HOR.out]⟩
   case measure=>simp [intOf];omega
  ·obtain rfl:k=l.length:=by omega
   go_wp2
   go_ret
   exact ⟨rfl,rfl⟩
theorem wordOf_at (a:Option Addr) (l:List UInt8) (n c:Nat) (w:World) (hn:l.length=n) (hl:n≤6) (hR:ReadsB w a l) :
  Calls Tryz.prog 176 #[.slice a n c] w fun e w'=>e=.returned (.int .i64 (v4 l))∧w=w':=by
 subst hn
 exact (wordOf_any a l c w hl hR).mono fun _ _ h=>⟨h.1,h.2.symm⟩
theorem ReadsB.take {w:World} {a:Option Addr} {l:List UInt8} (h:ReadsB w a l) (n:Nat):ReadsB w a (l.take n):=by
 rcases h with rfl | ⟨b,off,h1,h2,h3⟩
 ·exact .inl (by simp)
 ·refine .inr ⟨b,off,h1,h2,fun j hj=>?_⟩
  rw [List.length_take] at hj
  rw [h3 j (by omega),List.getElem_take]
theorem ReadsB.drop {w:World} {b off:Nat} {l:List UInt8} (h:ReadsB w (some ⟨b,off,none⟩) l) (n:Nat):ReadsB w (some ⟨b,off+n,none⟩) (l.drop n):=by
 rcases h with rfl | ⟨b',off',h1,h2,h3⟩
 ·exact .inl (by simp)
 ·injection h1 with h1
  injection h1 with h1 h4
  subst h1;subst h4
  refine .inr ⟨b,off+n,rfl,h2,fun j hj=>?_⟩
  rw [List.length_drop] at hj
  rw [List.getElem_drop,Nat.add_assoc,h3 (n+j) (by omega)]
set_option maxHeartbeats 800000 in
theorem lcut_no (a:Option Addr) (l:List UInt8) (c:Nat) (w:World) (hc:l.length≤c) (hl:l.length≤4194304) (hR:ReadsB w a l) (h:cutF l=none) :
  Calls Tryz.prog 132 #[.slice a l.length c] w fun e w'=>e=.returned (.tuple #[.slice none 0 0,.slice none 0 0,.bool false])∧w'=w:=by
 by_cases h8:l.length < 8
 ·go_enter Tryz.func132,Tryz.ntmps132
  go_wp2
  go_ret3
  exact ⟨rfl,rfl⟩
 ·have hv:l.length - 8 < v4 (l.take 4):=by
   unfold cutF at h
   rw [if_neg h8] at h
   split at h
   ·assumption
   ·cases h
  have hlt:((l.length:Int) - 8 < (v4 (l.take 4):Int)):=by omega
  obtain ⟨b,off,rfl,_,hcell⟩:=hR.at (by omega)
  have H4:=Lib.hid (hR.take 4);clear hR hcell h
  have h4:(l.take 4).length=4:=by rw [List.length_take];omega
  have HL4:=Lib.hid h4;clear h4
  have hc4:4≤c:=by omega
  go_enter Tryz.func132,Tryz.ntmps132
  go_wp2_with fail
  refine (wordOf_at _ (l.take 4) _ _ _ HL4.out (by omega) H4.out).mono ?_
  rintro e w' ⟨rfl,rfl⟩
  go_wp2
  go_ret3
  exact ⟨rfl,rfl⟩
set_option maxHeartbeats 800000 in
theorem lcut_yes (a:Option Addr) (l r rest:List UInt8) (c:Nat) (w:World) (hc:l.length≤c) (hl:l.length≤4194304) (hR:ReadsB w a l) (h:cutF l=some (r,rest)) (hr:r≠[]) :
  Calls Tryz.prog 132 #[.slice a l.length c] w fun e w'=>∃ a1 c1 a2 c2,e=.returned (.tuple #[.slice a1 r.length c1,.slice a2 rest.length c2,.bool true])∧(∀ W,ReadsB W a l→ReadsB W a1 r∧ReadsB W a2 rest)∧rest.length≤c2∧∃ n,w'=w.drewN n:=by
 have hlen:=cutF_length h
 have hr0:0 < r.length:=List.length_pos_iff.2 hr
 have hlt:¬ ((l.length:Int) - 8 < (v4 (l.take 4):Int)):=by omega
 have h8:¬ l.length < 8:=by omega
 obtain ⟨b,off,rfl,_,hcell⟩:=hR.at (by omega)
 have H4:=Lib.hid (hR.take 4)
 have h4:(l.take 4).length=4:=by rw [List.length_take];omega
 have HL4:=Lib.hid h4;clear h4
 have hc4:4≤c:=by omega
 obtain ⟨q,hq⟩:∃ q,q=v4 (l.take 4):=⟨_,rfl⟩
 rw [← hq] at hlt hlen
 have hq0:0 < q:=by omega
 have hql:q+8≤l.length:=by omega
 have HQ:=Lib.hid hq;clear hq
 have hpost:Hid ((∀ W,ReadsB W (some ⟨b,off,none⟩) l→ReadsB W (some ⟨b,off+4,none⟩) r∧ReadsB W (some ⟨b,off+(q+8),none⟩) rest)∧rest.length=l.length - (q+8)∧r.length=q):=Lib.hid (by
  unfold cutF at h
  rw [if_neg h8,← HQ.out,if_neg (by omega)] at h
  injection h with h
  injection h with h3 h4
  subst h3;subst h4
  exact ⟨fun W hW=>⟨(hW.drop 4).take q,hW.drop (q+8)⟩,by rw [List.length_drop],by rw [List.length_take,List.length_drop];omega⟩)
 clear hR hcell h hr hr0 hlen
 go_enter Tryz.func132,Tryz.ntmps132
 go_wp2_with fail
 refine (wordOf_at _ (l.take 4) _ _ _ HL4.out (by omega) H4.out).mono ?_
 rintro e w' ⟨rfl,rfl⟩
 rw [← HQ.out]
 have e1:IntKind.i64.wrap (4+(q:Int))=4+(q:Int):=IntWalk.i64_in _ (by omega)
 have e2:IntKind.i64.wrap (4+(q:Int)+4)=4+(q:Int)+4:=IntWalk.i64_in _ (by omega)
 go_wp2
 go_quiet (fail)
 go_wp2
 all_goals
  go_ret3
  obtain ⟨p1,p3,p4⟩:=hpost.out
  subst p4
  have p5:l.length - (4+r.length+4)=rest.length:=by omega
  rw [show off+(r.length+8)=off+(4+r.length+4) by omega] at p1
  refine ⟨_,_,_,_,(by rw [← p5] <;> rfl),?_,?_,_,by first | exact rfl | (symm;assumption) | assumption⟩
  ·intro W hW
   refine ⟨(p1 W hW).1,?_⟩
   first
    | exact (p1 W hW).2
    | (left;exact List.eq_nil_of_length_eq_zero (by omega))
  ·omega
theorem infoStr:(Tryz.prog.info? 9).map (fun i=>(i.zero,i.size,i.bytes))=some (some (.string ⟨#[]⟩),1,16):=by kernel_rfl
def Strs (B:Nat) (w:World) (v:Value) (rs:List ByteArray):Prop:=w.ownsRow B 9 1 v rs.length (rs.map Value.string)
theorem ownsRow_below {w w':World} {base:Nat} {e:TypeId} {size:Nat} {v:Value} {n:Nat} {xs:List Value} (h:w.ownsRow base e size v n xs) (hb:Below w.heap.size w w'):w'.ownsRow base e size v n xs :=
 ownsRow_of_block h fun k hk=>hb.block k (h.lt k hk).2
theorem Strs.below {B:Nat} {w w':World} {v:Value} {rs:List ByteArray} (h:Strs B w v rs) (hb:Below w.heap.size w w'):Strs B w' v rs:=ownsRow_below h hb
theorem Strs.mono {B B':Nat} {w:World} {v:Value} {rs:List ByteArray} (h:Strs B w v rs) (hB:B'≤B):Strs B' w v rs :=
 ⟨h.1,h.2.imp id fun ⟨g,cap,cur,h1,h2,h3⟩=>⟨g,cap,cur,h1,Nat.le_trans hB h2,h3⟩⟩
theorem Strs.shape {B:Nat} {w:World} {v:Value} {rs:List ByteArray} (h:Strs B w v rs):∃ a c,v=.slice a rs.length c:=by
 rcases h.2 with ⟨rfl,h0⟩ | ⟨g,cap,cur,rfl,_⟩
 ·exact ⟨none,0,by rw [h0]⟩
 ·exact ⟨_,cap,rfl⟩
theorem below_drewN (w:World) (n:Nat):Below w.heap.size w (w.drewN n):=⟨rfl,rfl,rfl,Nat.le_refl _,fun _ _=>rfl⟩
theorem convert_reads (w:World) (a:Option Addr) (s:ByteArray) (c:Nat) (h:ReadsB w a s.data.toList) (h0:0 < s.size) :
  (convert 102 9 (.slice a s.size c)).run Tryz.prog w=.ok (.string s) w:=by
 obtain ⟨b,off,rfl,_,hc⟩:=h.at h0
 have:=run_convert_bytes_back (P:=Tryz.prog) w 102 9 5 ⟨b,off,none⟩ c s.data.toList Tryz.underlying102 Tryz.underlying5 Tryz.underlying9 (fun j hj=>by rw [Addr.add_lit];exact hc j hj)
 exact this
def restB (rs:List ByteArray) (i:Nat):List UInt8:=logG (i+1) (rs.drop i)
theorem restB_end (rs:List ByteArray):restB rs rs.length=[]:=by simp [restB,logG]
theorem restB_next {rs:List ByteArray} {i:Nat} (h:i < rs.length):restB rs i=frm rs[i] (i+1)++restB rs (i+1):=by
 unfold restB
 rw [List.drop_eq_getElem_cons h,logG]
theorem restB_le (rs:List ByteArray):∀ i,i≤rs.length→(restB rs i).length≤(logB rs).length:=by
 intro i
 induction i with
 | zero=>intro _;simp [restB,logB]
 | succ i ih =>
  intro h
  have:=ih (by omega)
  rw [restB_next (by omega:i < rs.length),List.length_append] at this
  omega
theorem lcut_end (a:Option Addr) (n c:Nat) (l:List UInt8) (w:World) (hn:l.length=n) (hl:l=[]) :
  Calls Tryz.prog 132 #[.slice a n c] w fun e w'=>e=.returned (.tuple #[.slice none 0 0,.slice none 0 0,.bool false])∧w=w':=by
 subst hl;subst hn
 exact (lcut_no a [] c w (by simp) (by simp) (.inl rfl) rfl).mono fun _ _ h=>⟨h.1,h.2.symm⟩
theorem lcut_next (a:Option Addr) (n c:Nat) (l:List UInt8) (s:ByteArray) (rest:List UInt8) (w:World) (hn:l.length=n) (hc:n≤c) (hl:n≤4194304) (hR:ReadsB w a l) (h:cutF l=some (s.data.toList,rest)) (hs:1≤s.size) :
  Calls Tryz.prog 132 #[.slice a n c] w fun e w'=>∃ a1 c1 a2 c2 m k,e=.returned (.tuple #[.slice a1 s.size c1,.slice a2 m c2,.bool true])∧w'=w.drewN k∧(∀ W,ReadsB W a l→ReadsB W a1 s.data.toList∧ReadsB W a2 rest)∧rest.length=m∧m≤c2:=by
 subst hn
 refine (lcut_yes a l s.data.toList rest c w hc hl hR h (by intro e;have:s.data.toList.length=s.size:=rfl;rw [e] at this;simp at this;omega)).mono ?_
 rintro e w' ⟨a1,c1,a2,c2,h1,h2,h4,k,h5⟩
 exact ⟨a1,c1,a2,c2,rest.length,k,h1,h5,h2,rfl,h4⟩
def sliceLen:Value→Nat
 | .slice _ n _=>n
 | _=>0
set_option maxHeartbeats 1600000 in
theorem recordsOf_any (rs:List ByteArray) (a:Option Addr) (c n:Nat) (w:World) (hn:(logB rs).length=n) (hl:n≤4194304) (hrs:Recs rs) (hc:n≤c) (hR:ReadsB w a (logB rs)) :
  Calls Tryz.prog 92 #[.slice a n c] w fun e w'=>∃ v,e=.returned v∧Strs w.heap.size w' v rs∧Below w.heap.size w w':=by
 obtain ⟨i0,hi,q0,q1,q2⟩:=info_parts infoStr
 have hn9:=logB_length hrs
 have HRS:=Lib.hid hrs;have HR:=Lib.hid hR;clear hrs hR
 obtain ⟨N,hN⟩:∃ N,N=rs.length:=⟨_,rfl⟩
 rw [hn,← hN] at hn9
 have HL:=Lib.hid hn;have HN:=Lib.hid hN;clear hn hN
 have HLE:Hid (∀ i,i≤N→(restB rs i).length≤n):=Lib.hid (fun i hi=>by rw [← HL.out];exact restB_le rs i (by rw [← HN.out];exact hi))
 go_enter Tryz.func92,Tryz.ntmps92
 go_wp2
 go_loopw [0,3] (fun b v wr=>∃ (i:Nat) (a':Option Addr) (c' m:Nat) (av:Option Addr) (cv:Nat),i≤N∧b=.slice a' m c'∧v=.slice av i cv∧m≤c'∧m≤4194304∧Hid ((restB rs i).length=m)∧Hid (ReadsB w a' (restB rs i))∧Hid (Strs w.heap.size wr v (rs.take i))∧Hid (Below w.heap.size w wr)) (fun b _ _=>sliceLen b)
 case atStart=>exact ⟨0,a,c,n,none,0,by omega,rfl,rfl,hc,hl,Lib.hid (by rw [← HL.out];rfl),HR,Lib.hid (World.ownsRow_nil _ _ _ _),Lib.hid (Below.refl _ _)⟩
 case round =>
  obtain ⟨i,a',c',m,av,cv,hiN,rfl,rfl,hmc,hm4,HM,HRR,HO,HB⟩:=hrel
  by_cases hlt:i < N
  ·have hlt':i < rs.length:=by rw [← HN.out];exact hlt
   have hok:=HRS.out _ (List.getElem_mem hlt')
   have HNX:=Lib.hid (restB_next hlt')
   have HCF:Hid (cutF (restB rs i)=some (rs[i].data.toList,restB rs (i+1))):=Lib.hid (by rw [HNX.out];exact cutF_frm hok.2)
   go_wp2_with fail
   refine (lcut_next _ _ _ _ _ _ _ HM.out hmc hm4 (HRR.out.below HB.out) HCF.out hok.1).mono ?_
   rintro e w1 ⟨a1,c1,a2,c2,m2,k,rfl,rfl,hr,hm2,hc2⟩
   have hr1:=(hr wr (HRR.out.below HB.out)).1
   have HRN:Hid (ReadsB w a2 (restB rs (i+1))):=Lib.hid (hr w HRR.out).2
   have hwd:(wr.drewN k).heap.size=wr.heap.size:=rfl
   have hcv:=fun o=>convert_reads ((wr.drewN k).alloc o) a1 rs[i] c1 ((hr1.below (below_drewN wr k)).below ((Below.refl _ _).alloc (Nat.le_refl _) o)) hok.1
   have hcv0:=convert_reads (wr.drewN k) a1 rs[i] c1 (hr1.below (below_drewN wr k)) hok.1
   have HM2:=Lib.hid hm2
   clear hr1 hr hm2
   have HO1:Hid ((wr.drewN k).ownsRow w.heap.size 9 1 (.slice av i cv) i ((rs.take i).map Value.string)):=Lib.hid (by
    have:=HO.out.below (below_drewN wr k)
    rw [Strs,List.length_take,Nat.min_eq_left (by omega)] at this
    exact this)
   have hBw:w.heap.size≤wr.heap.size:=HB.out.size
   go_wp2_with (at_builtin;refine wpList_append_own _ rfl _ _ 62 rfl w.heap.size 9 i0 (.string ⟨#[]⟩) 1 16 Tryz.underlying62 hi q0 q1 q2 rfl (by decide) _ _ _ rfl (HO1.out.alloc _) ⟨wr.heap.size,0,none⟩ 1 1 [.string rs[i]] rfl rfl ?c1 ?c2 ?c3 ?c4 ?c5 ?_)
   case c1 =>
    intro q u hu
    have hq:q=0:=by
     have:=(List.getElem?_eq_some_iff.1 hu).1
     simp at this
     omega
    subst hq
    simp at hu
    subst hu
    exact Lib.cell_of_heap (w:=(wr.drewN k).alloc (.cells #[.string rs[i]] 9)) (b:=wr.heap.size) (heap_alloc_new (wr.drewN k) _) 0
   case c2=>intro u hu;simp at hu;subst hu;rfl
   case c3=>unfold maxLen;omega
   case c4=>omega
   case c5=>simp;omega
   intro v' w2 hown' hgrow _
   obtain ⟨av',cv',rfl⟩:∃ a c,v'=.slice a (i+1) c:=by
    rcases hown'.2 with ⟨_,h0⟩ | ⟨g',cap',cur,hv,_⟩
    ·omega
    ·exact ⟨_,cap',hv⟩
   have HB2:Hid (Below w.heap.size w w2):=Lib.hid (((HB.out.trans ((below_drewN wr k).mono hBw)).alloc hBw _).grown hgrow (by rw [World.size_alloc];exact Nat.le_succ_of_le hBw) (fun q hq=>(HO1.out.lt q hq).1))
   have HO2:Hid (Strs w.heap.size w2 (.slice av' (i+1) cv') (rs.take (i+1))):=Lib.hid (by
    rw [Strs,List.take_succ_eq_append_getElem hlt',List.length_append,List.length_take,Nat.min_eq_left (by omega),List.map_append,List.map_take]
    exact hown')
   have hlen:m2 < m:=by
    have:=HM.out
    rw [HNX.out,List.length_append,frm_length,HM2.out] at this
    omega
   clear hown' hgrow hcv hcv0
   go_wp2
   go_roundw
   case rel=>exact ⟨i+1,a2,c2,m2,av',cv',by omega,rfl,rfl,hc2,by omega,HM2,HRN,HO2,HB2⟩
   case measure=>simp [sliceLen];omega
  ·obtain rfl:i=N:=by omega
   have HE:Hid (restB rs i=[]):=Lib.hid (by rw [HN.out];exact restB_end rs)
   go_wp2_with fail
   refine (lcut_end _ _ _ _ _ HM.out HE.out).mono ?_
   rintro e w1 ⟨rfl,rfl⟩
   go_wp2
   go_ret
   refine ⟨_,rfl,?_,HB.out⟩
   have h:Strs w.heap.size wr (.slice av i cv) rs:=by
    have:=HO.out
    rwa [show rs.take i=rs by rw [HN.out,List.take_length]] at this
   exact h
def LogOn (l d:Nat) (w:World):Prop:=w.heap[l]? = some (.cells #[.pointer (some ⟨l,0,none⟩),.pointer (some ⟨d,0,none⟩)] 152 (0,0))
theorem LogOn.lt {l d:Nat} {w:World} (h:LogOn l d w):l < w.heap.size:=(Array.getElem?_eq_some_iff.1 h).1
theorem LogOn.below {l d:Nat} {w w':World} (h:LogOn l d w) (hb:Below w.heap.size w w'):LogOn l d w':=by
 unfold LogOn
 rw [hb.block l h.lt];exact h
theorem LogOn.kept {S:Nat→Prop} {l d:Nat} {w w':World} (h:LogOn l d w) (hk:Kept S w w') (hl:¬ S l):LogOn l d w':=by
 unfold LogOn
 rw [hk.block l h.lt hl];exact h
theorem str_size (l:List UInt8):(⟨l.toArray⟩:ByteArray).size=l.length:=by simp [ByteArray.size]
theorem bytesOf_reads (w:World) (s:ByteArray) :
  ∃ c W,(convert 9 102 (.string s)).run Tryz.prog w=.ok (.slice (some ⟨w.heap.size,0,none⟩) s.size c) W∧s.size≤c∧ReadsB W (some ⟨w.heap.size,0,none⟩) s.data.toList∧Below w.heap.size w W:=by
 have h:=run_bytes_of_string (P:=Tryz.prog) w 9 102 5 s Tryz.underlying9 Tryz.underlying102 Tryz.underlying5
 refine ⟨_,_,h,grownCap_ge _ _ _ _,.inr ⟨w.heap.size,0,rfl,by simp,?_⟩,(Below.refl _ w).drew.alloc (Nat.le_refl _) _⟩
 intro j hj
 have hj':j < s.data.size:=by simpa using hj
 rw [Nat.zero_add]
 have e:=World.cell?_alloc_mark w.drew (bytesRow s (grownCap w s.size 0 5)) 5 ((bytesRow s (grownCap w s.size 0 5)).size,(bytesRow s (grownCap w s.size 0 5)).size+1) j
 rw [bytesRow_at s _ j hj'] at e
 rw [show w.drew.heap.size=w.heap.size from rfl] at e
 rw [e]
 simp
set_option maxHeartbeats 1600000 in
theorem open_ok (S:Nat→Prop) (d:Nat) (ops:List RawOp) (rs:List ByteArray) (w:World) (h:DiskAt S d ops w) (hp:play ops 0=logB rs) (hrs:Recs rs) :
  Calls Tryz.prog 45 #[.pointer (some ⟨d,0,none⟩)] w fun e w'=>∃ v,e=.returned (.tuple #[.pointer (some ⟨w.heap.size,0,none⟩),v,.int .i64 0])∧LogOn w.heap.size d w'∧Strs w.heap.size w' v rs∧Below w.heap.size w w':=by
 have HD:=Lib.hid h;clear h
 have hlen:(logB rs).length≤4194304:=by rw [← hp];exact play_length HD.out.1 0
 obtain ⟨s,hs⟩:∃ s:ByteArray,s=⟨(logB rs).toArray⟩:=⟨_,rfl⟩
 have hsl:s.data.toList=logB rs:=by rw [hs]
 have hsz:(logB rs).length=s.size:=by rw [← hsl];rfl
 have HRD:Hid (Calls Tryz.prog 90 #[.pointer (some ⟨d,0,none⟩),.int .i64 0,.int .i64 0,.int .i64 s.size] w fun e w'=>e=.returned (.tuple #[.string s,.int .i64 0])∧w=w'):=Lib.hid ((read_ok 0 0 s.size S d ops w HD.out (by omega) (by rw [hp];omega)).mono fun e w' ⟨h1,h2⟩=>⟨by rw [h1,hp,List.drop_zero,List.take_of_length_le (by omega),← hs],h2.symm⟩)
 have HSZ:Hid (Calls Tryz.prog 91 #[.pointer (some ⟨d,0,none⟩),.int .i64 0] w fun e w'=>e=.returned (.int .i64 s.size)∧w=w'):=Lib.hid ((size_ok 0 S d ops w HD.out (by omega)).mono fun e w' ⟨h1,h2⟩=>⟨by rw [h1,hp,hsz],h2.symm⟩)
 obtain ⟨c,W,hcv,hc,hR,hbW⟩:=bytesOf_reads (w.alloc (.cells #[.pointer (some ⟨w.heap.size,0,none⟩),.pointer (some ⟨d,0,none⟩)] 152)) s
 have HOF:=Lib.hid (recordsOf_any rs (some ⟨w.heap.size+1,0,none⟩) c s.size W hsz (by omega) hrs hc (by rw [← hsl];simpa using hR))
 have HON:Hid (LogOn w.heap.size d W):=Lib.hid (LogOn.below (w:=w.alloc (.cells #[.pointer (some ⟨w.heap.size,0,none⟩),.pointer (some ⟨d,0,none⟩)] 152)) (heap_alloc_new w _) hbW)
 have HBW:Hid (Below w.heap.size w W):=Lib.hid (((Below.refl _ w).alloc (Nat.le_refl _) _).trans (hbW.mono (by simp)))
 clear hp hrs hs hsl hsz hlen hc hR hbW
 go_enter Tryz.func45,Tryz.ntmps45
 go_wp2_with fail
 refine HSZ.out.mono ?_
 rintro e w1 ⟨rfl,rfl⟩
 go_wp2_with fail
 refine HRD.out.mono ?_
 rintro e w2 ⟨rfl,rfl⟩
 go_wp2_with fail
 refine HOF.out.mono ?_
 rintro e w3 ⟨v,rfl,hS,hb⟩
 have hz:=HBW.out.size
 have HS:=Lib.hid hS;have HB:=Lib.hid hb;clear hS hb
 go_wp2
 go_ret3
 exact ⟨v,rfl,HON.out.below HB.out,HS.out.mono hz,HBW.out.trans (HB.out.mono hz)⟩
def IsLog (ops:List RawOp) (rs:List ByteArray):Prop:=ops.length=rs.length∧∀ n,n≤rs.length→play (ops.take n) 0=logB (rs.take n)
def appCode (rs:List ByteArray) (s:ByteArray):Int:=if s.size=0∨1048576 < s.size then 30 else if 4194304 < (logB rs).length+s.size+8 then 2 else 0
def appRecs (rs:List ByteArray) (s:ByteArray):List ByteArray:=if appCode rs s=0 then rs++[s] else rs
structure DiskLog (B d:Nat) (S:Nat→Prop) (ops:List RawOp) (rs:List ByteArray) (w:World):Prop where
 disk:DiskAt S d ops w
 low:∀ k,S k→B≤k∧k < w.heap.size
 hist:IsLog ops rs
 recs:Recs rs
def AppPost (B d:Nat) (S:Nat→Prop) (rs:List ByteArray) (s:ByteArray) (w:World) (e:Ending) (w':World):Prop :=
 e=.returned (.int .i64 (appCode rs s))∧∃ S' ops',DiskLog B d S' ops' (appRecs rs s) w'∧Kept S w w'∧∀ k,k < w.heap.size→S' k→S k
def Texts (w:World) (v:Value) (rs:List ByteArray):Prop :=
 ∃ a c,v=.slice a rs.length c∧(rs=[]∨∃ b off,a=some ⟨b,off,none⟩∧b < w.heap.size∧∀ j (h:j < rs.length),w.cell? ⟨b,off+j,none⟩=some (.string rs[j]))
structure Two (B l d:Nat) (S:Nat→Prop) (ops:List RawOp) (rs:List ByteArray) (w:World):Prop where
 dl:DiskLog B d S ops rs w
 on:LogOn l d w
 out:¬ S l
 ge:B≤l
def TwoPost (B l d:Nat) (rs:List ByteArray) (s:ByteArray) (S:Nat→Prop) (w:World) (e:Ending) (w':World):Prop :=
 e=.returned (.int .i64 (appCode rs s))∧∃ S' ops',Two B l d S' ops' (appRecs rs s) w'∧Kept S w w'∧∀ k,k < w.heap.size→S' k→S k
def sA:ByteArray:=⟨#[97]⟩
def sB:ByteArray:=⟨#[98]⟩
def LogPost (S:Nat→Prop) (d:Nat) (ops:List RawOp) (rs:List ByteArray) (s:ByteArray) (w:World) (e:Ending) (w':World):Prop :=
 e=.returned (.int .i64 (appCode rs s))∧∃ S' ops',DiskAt S' d ops' w'∧(ops'=if appCode rs s=0 then ops++[.put 0 (logB rs).length ⟨(frm s (rs.length+1)).toArray⟩] else ops)∧Kept S w w'∧∀ k,S' k→S k∨w.heap.size≤k
theorem PoolJ.disk {J:List RawOp→Prop} {B p d n N:Nat} {S:Nat→Prop} {C:Nat→List UInt8} {P:Nat→Nat} {w:World} (h:PoolJ J B S p d n C P N w) :
  ∃ Sd ops,J ops∧DiskAt Sd d ops w∧(∀ k,Sd k→S k)∧ops.length≤N ∧
   ∀ (J':List RawOp→Prop) (w':World) (ops':List RawOp) (S2:Nat→Prop),DiskAt S2 d ops' w'→Kept Sd w w'→(∀ k,S2 k→Sd k∨w.heap.size≤k)→play ops' 1=play ops 1→ops'.length≤ops.length+1→J' ops' →
    ∃ S',Turn S w S' w'∧PoolJ J' B S' p d n C P (N+1) w':=by
 obtain ⟨fb,mb,hand,m,fr,Sd,ops,hJ,hG,hF,hD,hV,hO,hS,hB⟩:=h
 refine ⟨Sd,ops,hJ,hD,fun k hk=>hS k (.inl hk),by have:=hV.cost;omega,fun J' w' ops' S2 hD2 hK hS2 hpl hlen hJ'=>?_⟩
 refine poolJ_mk (S:=S) (B:=B) (w:=w) hJ' (hG.kept hK hO.1 hO.2.1 hO.2.2) hF hD2 ⟨fun i f hi=>?_,fun q hq=>?_,?_,fun q=>Nat.le_succ_of_le (hV.bnd q)⟩ ⟨fun hh=>(hS2 p hh).elim hO.1 (by have:=hG.lt;omega),fun hh=>(hS2 fb hh).elim hO.2.1 (by have:=hG.ltF;omega),fun hh=>(hS2 mb hh).elim hO.2.2 (by have:=hG.ltM;omega)⟩ (fun k hk=>(hS2 k hk).imp (fun h=>hS k (.inl h)) id) ⟨hS p (.inr (.inl rfl)),hS fb (.inr (.inr (.inl rfl))),hS mb (.inr (.inr (.inr rfl)))⟩ hB (hK.mono (fun k hk=>hS k (.inl hk)))
 ·rw [hpl];exact hV.held i f hi
 ·rw [hpl];exact hV.free q hq
 ·have:=hV.cost;omega
theorem pnew_j (J:List RawOp→Prop) (B d n N:Nat) (S:Nat→Prop) (ops:List RawOp) (w:World) (h:DiskAt S d ops w) (hS:∀ k,S k→B≤k∧k < w.heap.size) (h1:1≤n) (h2:n≤1024) (hN:ops.length≤N) (hJ:J ops) :
  Calls Tryz.prog 46 #[.pointer (some ⟨d,0,none⟩),.int .i64 n] w fun e w'=>∃ p S',e=.returned (.tuple #[.pointer (some ⟨p,0,none⟩),.int .i64 0])∧PoolJ J B S' p d n (fun q=>pageOf (play ops 1) q) (fun _=>0) N w'∧Below w.heap.size w w'∧S' p∧(∀ k,S k→S' k)∧∀ k,k < w.heap.size→S' k→S k:=by
 refine (pnew_ok d n S ops w h h1 h2).mono ?_
 rintro e w' ⟨p,fb,mb,rfl,hG,hp,hb⟩
 have hdB:=hS d h.at
 refine ⟨p,fun k=>(S k∨w.heap.size≤k)∧k < w'.heap.size,rfl,⟨fb,mb,0,0,fun _=>none,S,ops,hJ,hG,⟨by omega,fun i=>⟨fun hi=>by omega,(fun ⟨f,hf⟩=>by cases hf)⟩⟩,h.below hb,⟨(fun i f hf=>by cases hf),fun q _=>⟨rfl,rfl⟩,by rw [chg_none];omega,fun q=>by omega⟩,⟨fun hs=>?_,fun hs=>?_,fun hs=>?_⟩,?_,?_⟩,hb,⟨.inr hp.1,hG.lt⟩,fun k hk=>⟨.inl hk,Nat.lt_of_lt_of_le (hS k hk).2 hb.size⟩,fun k hk hs=>hs.1.elim id (by omega)⟩
 ·have:=hS p hs;omega
 ·have:=hS fb hs;omega
 ·have:=hS mb hs;omega
 ·rintro k (hk | rfl | rfl | rfl)
  ·exact ⟨.inl hk,Nat.lt_of_lt_of_le (hS k hk).2 hb.size⟩
  ·exact ⟨.inr hp.1,hG.lt⟩
  ·exact ⟨.inr hp.2.1,hG.ltF⟩
  ·exact ⟨.inr hp.2.2,hG.ltM⟩
 ·rintro k ⟨hk,hlt⟩
  exact ⟨hk.elim (fun h=>(hS k h).1) (fun h=>by omega),hlt⟩
structure SpaceAt (w:World) (s d l p:Nat) (h:Hd) (cur:Option Nat):Prop where
 self:w.cell? ⟨s,0,none⟩=some (.pointer (some ⟨s,0,none⟩))
 dk:w.cell? ⟨s,1,none⟩=some (.pointer (some ⟨d,0,none⟩))
 lg:w.cell? ⟨s,2,none⟩=some (.pointer (some ⟨l,0,none⟩))
 pl:w.cell? ⟨s,3,none⟩=some (.pointer (some ⟨p,0,none⟩))
 hd:HdAt w s 4 h
 cur_:w.cell? ⟨s,85,none⟩=some (.pointer (cur.map fun a=>⟨a,0,none⟩))
 froz:∀ j,w.frozen? ⟨s,j,none⟩=false
structure ActAt (w:World) (a s:Nat) (h:Hd) (dv:Value):Prop where
 self:w.cell? ⟨a,0,none⟩=some (.pointer (some ⟨a,0,none⟩))
 st:w.cell? ⟨a,1,none⟩=some (.pointer (some ⟨s,1,none⟩))
 hd:HdAt w a 2 h
 dr:w.cell? ⟨a,83,none⟩=some dv
 froz:∀ j,w.frozen? ⟨a,j,none⟩=false
section
variable {w w':World} {s d l p a:Nat} {h:Hd} {cur:Option Nat} {dv:Value}
theorem SpaceAt.lt (x:SpaceAt w s d l p h cur):s < w.heap.size:=World.block_lt_of_cell? w _ x.self
theorem ActAt.lt (x:ActAt w a s h dv):a < w.heap.size:=World.block_lt_of_cell? w _ x.self
theorem SpaceAt.block (x:SpaceAt w s d l p h cur) (hb:w'.heap[s]? = w.heap[s]?):SpaceAt w' s d l p h cur :=
 ⟨(World.cell?_of_block hb).trans x.self,(World.cell?_of_block hb).trans x.dk,(World.cell?_of_block hb).trans x.lg,(World.cell?_of_block hb).trans x.pl,x.hd.block hb,(World.cell?_of_block hb).trans x.cur_,fun j=>(World.frozen?_of_block hb).trans (x.froz j)⟩
theorem ActAt.block (x:ActAt w a s h dv) (hb:w'.heap[a]? = w.heap[a]?):ActAt w' a s h dv :=
 ⟨(World.cell?_of_block hb).trans x.self,(World.cell?_of_block hb).trans x.st,x.hd.block hb,(World.cell?_of_block hb).trans x.dr,fun j=>(World.frozen?_of_block hb).trans (x.froz j)⟩
theorem SpaceAt.kept {S:Nat→Prop} (x:SpaceAt w s d l p h cur) (hk:Kept S w w') (hs:¬ S s):SpaceAt w' s d l p h cur:=x.block (hk.block s x.lt hs)
theorem ActAt.kept {S:Nat→Prop} (x:ActAt w a s h dv) (hk:Kept S w w') (hs:¬ S a):ActAt w' a s h dv:=x.block (hk.block a x.lt hs)
theorem SpaceAt.below (x:SpaceAt w s d l p h cur) (hk:Below w.heap.size w w'):SpaceAt w' s d l p h cur:=x.block (hk.block s x.lt)
theorem ActAt.below (x:ActAt w a s h dv) (hk:Below w.heap.size w w'):ActAt w' a s h dv:=x.block (hk.block a x.lt)
theorem ActAt.turnHd (x:ActAt w a s h dv) {h':Hd} (hd:HdAt w' a 2 h') (ht:Touch a 2 81 w w'):ActAt w' a s h' dv :=
 ⟨(ht.out 0 (by omega)).trans x.self,(ht.out 1 (by omega)).trans x.st,hd,(ht.out 83 (by omega)).trans x.dr,fun j=>(ht.froz j).trans (x.froz j)⟩
theorem SpaceAt.setCur (x:SpaceAt w s d l p h cur) (k:h.Ok) (c:Option Nat):SpaceAt (w.setCell ⟨s,85,none⟩ (.pointer (c.map fun a=>⟨a,0,none⟩))) s d l p h c:=by
 have ht:Touch s 85 1 w (w.setCell ⟨s,85,none⟩ (.pointer (c.map fun a=>⟨a,0,none⟩))):=Touch.setCell w _ (by omega) (by omega)
 refine ⟨(ht.out 0 (by omega)).trans x.self,(ht.out 1 (by omega)).trans x.dk,(ht.out 2 (by omega)).trans x.lg,(ht.out 3 (by omega)).trans x.pl,rangeAt_touch x.hd ht (by rw [Hd.cells_length k];omega),World.cell?_setCell_same _ _ _ x.cur_,fun j=>(ht.froz j).trans (x.froz j)⟩
end
theorem sizeSp:(Tryz.prog.info? 55).map (·.size)=some 86:=by kernel_rfl
theorem sizeAc:(Tryz.prog.info? 40).map (·.size)=some 84:=by kernel_rfl
theorem sizeHd:(Tryz.prog.info? 37).map (·.size)=some 81:=by kernel_rfl
set_option maxHeartbeats 400000 in
theorem sgiven_self (l:Nat) (w:World) (h:w.cell? ⟨l,0,none⟩=some (.pointer (some ⟨l,0,none⟩))) :
  Calls Tryz.prog 59 #[.pointer (some ⟨l,0,none⟩)] w fun e w'=>e=.returned (.bool true)∧w'=w:=by
 obtain ⟨j,hj,_⟩:=Option.map_eq_some_iff.1 sizeSp
 have hq:=run_eql_ptr_same (P:=Tryz.prog) w (tp:=22) (te:=55) ⟨l,0,none⟩ Tryz.underlying22 hj
 go_enter Tryz.func59,Tryz.ntmps59
 go_wp2
 go_ret
 exact ⟨rfl,rfl⟩
def NoSpace (v:Value) (w:World):Prop:=Calls Tryz.prog 59 #[v] w fun e w'=>e=.returned (.bool false)∧w'=w
set_option maxHeartbeats 400000 in
theorem srefuses_free (s d l p:Nat) (h:Hd) (w:World) (x:SpaceAt w s d l p h none):Calls Tryz.prog 48 #[.pointer (some ⟨s,0,none⟩)] w fun e w'=>e=.returned (.int .i64 0)∧w'=w:=by
 have HP:=Lib.hid (sgiven_self s w x.self)
 have hc:w.cell? ⟨s,85,none⟩=some (.pointer none):=x.cur_
 clear x
 go_enter Tryz.func48,Tryz.ntmps48
 go_wp2_with fail
 refine HP.out.mono ?_
 rintro e w' ⟨rfl,hw⟩
 subst w'
 go_wp2
 go_ret
 exact ⟨rfl,rfl⟩
theorem built_action (s m:Nat) (X:List Value) (hX:X.length=81) :
  Tryz.prog.built 40 [(1,.pointer (some ⟨s,1,none⟩)),(2,.agg X.toArray),(3,.map (some m))]=some (([Value.pointer none,.pointer (some ⟨s,1,none⟩)]++X++[Value.map (some m)]).toArray) :=
 match X,hX with
 | c0 :: c1 :: c2 :: c3 :: c4 :: c5 :: c6 :: c7 :: c8 :: c9 :: c10 :: c11 :: c12 :: c13 :: c14 :: c15 :: c16 :: c17 :: c18 :: c19 :: c20 :: c21 :: c22 :: c23 :: c24 :: c25 :: c26 :: c27 :: c28 :: c29 :: c30 :: c31 :: c32 :: c33 :: c34 :: c35 :: c36 :: c37 :: c38 :: c39 :: c40 :: c41 :: c42 :: c43 :: c44 :: c45 :: c46 :: c47 :: c48 :: c49 :: c50 :: c51 :: c52 :: c53 :: c54 :: c55 :: c56 :: c57 :: c58 :: c59 :: c60 :: c61 :: c62 :: c63 :: c64 :: c65 :: c66 :: c67 :: c68 :: c69 :: c70 :: c71 :: c72 :: c73 :: c74 :: c75 :: c76 :: c77 :: c78 :: c79 :: c80 :: [],_=>by kernel_rfl
theorem exec_build {P:Program} {a:Act} {o:Oper} {t:TypeId} {parts:Array (Nat × Operand)} (ho:o.op=.build t parts) (vals:List (Nat × Value)) (hv:(parts.map fun (i,x)=>(i,a.eval x))=vals.toArray) (cells:Array Value) (hb:P.built t vals=some cells) (W:World) :
  (execOp a.eval o).run P W=.ok (.value (.agg cells)) W:=by
 have h:=run_build (P:=P) W t vals.toArray cells (by simpa using hb)
 unfold execOp
 simp only [ho,hv]
 simp [h]
def BeginPost (s d l p:Nat) (h:Hd) (w:World) (e:Ending) (w':World):Prop :=
 ∃ a db,e=.returned (.tuple #[.pointer (some ⟨a,0,none⟩),.int .i64 0])∧ActAt w' a s h (.map (some db))∧PMap w' db 0 (fun _=>none)∧SpaceAt w' s d l p h (some a)∧w.heap.size≤a∧w.heap.size≤db∧a≠db∧Kept (fun k=>k=s) w w'
set_option maxHeartbeats 1600000 in
theorem begin_ok (s d l p:Nat) (h:Hd) (w:World) (x:SpaceAt w s d l p h none) (k:h.Ok) :
  Calls Tryz.prog 11 #[.pointer (some ⟨s,0,none⟩)] w (BeginPost s d l p h w):=by
 have HR:=Lib.hid (srefuses_free s d l p h w x)
 have HX:=Lib.hid x
 have HK:=Lib.hid k
 have hlt:=x.lt
 obtain ⟨X,hX⟩:∃ X:List Value,X=h.cells:=⟨_,rfl⟩
 have HXX:Hid (∀ W:World,W.heap[s]? = w.heap[s]?→W.rangeAt s 4 X):=Lib.hid (fun W hb=>by rw [hX];exact HX.out.hd.block hb)
 have HXL:Hid ((Tryz.prog.info? 37).map (·.size)=some X.length):=Lib.hid (by rw [hX,Hd.cells_length k];exact sizeHd)
 have hmm:=@run_makeMap Tryz.prog
 obtain ⟨Y,hY⟩:∃ Y:Array Value,Y=([Value.pointer none,.pointer (some ⟨s,1,none⟩)]++X++[Value.map (some w.heap.size)]).toArray:=⟨_,rfl⟩
 have HY:=Lib.hid (built_action s w.heap.size X (by rw [hX,Hd.cells_length k]))
 rw [← hY] at HY
 have HYE:=Lib.hid hY;have HXE:=Lib.hid hX
 clear x k hY hX
 go_enter Tryz.func11,Tryz.ntmps11
 go_wp2_with fail
 refine HR.out.mono ?_
 rintro e w' ⟨rfl,hw⟩
 subst w'
 go_wp2
 refine wp_region_held_drew (S:=fun W=>Below w.heap.size w W) (by kernel_rfl) ((Below.refl _ _).drew) (fun hHeld=>?_)
 refine wpAnyH_take (i:=0) (v:=.pointer (some ⟨s,0,none⟩)) rfl (by kernel_rfl) (by kernel_rfl) (by kernel_rfl) (fun _ _ _ h=>h) (Or.inl ⟨by rfl,fun W hW=>by go_simp⟩) hHeld ?_
 refine wpAnyH_take (i:=1) (v:=.pointer (some ⟨s,0,none⟩)) rfl (by kernel_rfl) (by kernel_rfl) (by kernel_rfl) (fun _ _ _ h=>h) (Or.inl ⟨by rfl,fun W hW=>by go_simp⟩) hHeld ?_
 refine wpAnyH_take (i:=2) (v:=.pointer (some ⟨s,1,none⟩)) rfl (by kernel_rfl) (by kernel_rfl) (by kernel_rfl) (fun _ _ _ h=>h) (Or.inl ⟨by rfl,fun W hW=>by go_simp⟩) hHeld ?_
 refine wpAnyH_take (i:=3) (v:=.pointer (some ⟨s,0,none⟩)) rfl (by kernel_rfl) (by kernel_rfl) (by kernel_rfl) (fun _ _ _ h=>h) (Or.inl ⟨by rfl,fun W hW=>by go_simp⟩) hHeld ?_
 refine wpAnyH_take (i:=4) (v:=.pointer (some ⟨s,0,none⟩)) rfl (by kernel_rfl) (by kernel_rfl) (by kernel_rfl) (fun _ _ _ h=>h) (Or.inl ⟨by rfl,fun W hW=>by go_simp⟩) hHeld ?_
 refine wpAnyH_take (i:=5) (v:=.pointer (some ⟨s,1,none⟩)) rfl (by kernel_rfl) (by kernel_rfl) (by kernel_rfl) (fun _ _ _ h=>h) (Or.inl ⟨by rfl,fun W hW=>by go_simp⟩) hHeld ?_
 refine wpAnyH_take (i:=6) (v:=.pointer (some ⟨s,4,none⟩)) rfl (by kernel_rfl) (by kernel_rfl) (by kernel_rfl) (fun _ _ _ h=>h) (Or.inl ⟨by rfl,fun W hW=>by go_simp⟩) hHeld ?_
 refine wpAnyH_take (i:=7) (v:=.agg X.toArray) rfl (by kernel_rfl) (by kernel_rfl) (by kernel_rfl) (fun _ _ _ h=>h) (yieldsIf_load_mid (by rfl) 37 _ rfl s 4 rfl X _ (fun W hW=>HXX.out W (hW.block s hlt)) Tryz.underlying37 rfl HXL.out) hHeld ?_
 refine wpAnyH_ready (rs:=[8]) (by kernel_rfl) (by simp) ?_
 refine AllReadyH.cons rfl (fun K hK=>?_) AllReadyH.nil
 go_simp
 refine hK.out _ _ (((Below.refl _ w).alloc (Nat.le_refl _) _).drew) (fun hHeld2=>?_)
 clear hK K
 refine wpAnyH_take (i:=9) (v:=.agg Y) rfl (by kernel_rfl) (by kernel_rfl) (by kernel_rfl) (fun _ _ _ h=>h) (Or.inl ⟨by rfl,fun W hW=>exec_build rfl _ (by simp [go_sem]) Y HY.out W⟩) hHeld2 ?_
 refine wpAnyH_ready (rs:=[10]) (by kernel_rfl) (by simp) ?_
 refine AllReadyH.cons rfl (fun K hK=>?_) AllReadyH.nil
 go_simp
 refine hK.out _ _ ((((Below.refl _ w).alloc (Nat.le_refl _) _).alloc (by simp) _).drew) (fun hHeld3=>?_)
 clear hK K
 refine wpAnyH_take (i:=11) (v:=.pointer (some ⟨w.heap.size+1,0,none⟩)) rfl (by kernel_rfl) (by kernel_rfl) (by kernel_rfl) (fun _ _ _ h=>h) (Or.inl ⟨by rfl,fun W hW=>by go_simp⟩) hHeld3 ?_
 refine wpAnyH_done (by kernel_rfl) ?_ _
 clear hHeld hHeld2 hHeld3
 generalize hWW:((w.alloc (Obj.map #[] 0)).alloc (Obj.cells Y 40)).drew=W
 have hW:∀ W,W=((w.alloc (Obj.map #[] 0)).alloc (Obj.cells Y 40)).drew→W.heap[w.heap.size+1]? = some (.cells Y 40 (0,0))∧PMap W w.heap.size 0 (fun _=>none)∧W.heap.size=w.heap.size+2∧Below w.heap.size w W:=by
  rintro W rfl
  refine ⟨?_,?_,by simp,(((Below.refl _ w).alloc (Nat.le_refl _) _).alloc (by simp) _).drew⟩
  ·exact heap_alloc2_new w (Obj.map #[] 0) (Obj.cells Y 40)
  ·exact (pmap_made w).block (Below.heap_alloc _ _ _ (by simp))
 obtain ⟨g1,g2,g3,g4⟩:=hW W hWW.symm
 clear hW
 have hY0:∀ i v,(([Value.pointer none,.pointer (some ⟨s,1,none⟩)]++X++[Value.map (some w.heap.size)])[i]? = some v)→W.cell? ⟨w.heap.size+1,i,none⟩=some v:=fun i v hi=>by
  rw [Lib.cell_of_heap g1,HYE.out,List.getElem?_toArray];exact hi
 have hXl:X.length=81:=by rw [HXE.out,Hd.cells_length HK.out]
 have hA:ActAt (W.setCell ⟨w.heap.size+1,0,none⟩ (.pointer (some ⟨w.heap.size+1,0,none⟩))) (w.heap.size+1) s h (.map (some w.heap.size)):=by
  have ht:Touch (w.heap.size+1) 0 1 W (W.setCell ⟨w.heap.size+1,0,none⟩ (.pointer (some ⟨w.heap.size+1,0,none⟩))):=Touch.setCell W _ (by omega) (by omega)
  refine ⟨World.cell?_setCell_same _ _ _ (hY0 0 _ rfl),(ht.out 1 (by omega)).trans (hY0 1 _ rfl),fun j v hj=>?_,(ht.out 83 (by omega)).trans (hY0 83 _ ?_),fun j=>(ht.froz j).trans (Lib.frozen_of_heap g1 _)⟩
  ·rw [ht.out (2+j) (by omega)]
   rw [← HXE.out] at hj
   have hjl:=(List.getElem?_eq_some_iff.1 hj).1
   refine hY0 (2+j) v ?_
   rw [List.append_assoc,List.getElem?_append_right (by simp),List.getElem?_append_left (by simp;omega)]
   simpa using hj
  ·rw [List.getElem?_append_right (by simp [hXl])];simp [hXl]
 have hS:SpaceAt (W.setCell ⟨w.heap.size+1,0,none⟩ (.pointer (some ⟨w.heap.size+1,0,none⟩))) s d l p h none:=(HX.out.below g4).block (Below.heap_setCell _ _ _ _ (by simp;omega))
 have hE:BeginPost s d l p h w (.returned (.tuple #[.pointer (some ⟨w.heap.size+1,0,none⟩),.int .i64 0])) ((W.setCell ⟨w.heap.size+1,0,none⟩ (.pointer (some ⟨w.heap.size+1,0,none⟩))).setCell ⟨s,85,none⟩ (.pointer (some ⟨w.heap.size+1,0,none⟩))):=by
  refine ⟨w.heap.size+1,w.heap.size,rfl,hA.block (Below.heap_setCell _ _ _ _ (by simp;omega)),(g2.block (Below.heap_setCell _ _ _ _ (by simp))).block (Below.heap_setCell _ _ _ _ (by simp;omega)),hS.setCur HK.out (some (w.heap.size+1)),by omega,by omega,by omega,?_⟩
  refine ((Kept.ofBelow g4).trans (Kept.setCell (fun k=>w.heap.size≤k) W (b:=w.heap.size+1) (by show w.heap.size≤w.heap.size+1;omega) _) (fun i hi=>.inr hi)).trans (Kept.setCell (fun k=>k=s) _ (b:=s) rfl _) (fun i hi=>.inl hi)
 have HE:=Lib.hid hE;clear hE
 have c0:=hY0 0 _ rfl
 have f0:W.frozen? ⟨w.heap.size+1,0,none⟩=false:=Lib.frozen_of_heap g1 _
 have c1:W.cell? ⟨s,85,none⟩=some (.pointer none):=(HX.out.below g4).cur_
 have f1:W.frozen? ⟨s,85,none⟩=false:=(HX.out.below g4).froz _
 have hsz:s < W.heap.size:=by omega
 have hne:s≠w.heap.size+1:=by omega
 clear hWW g1 g2 g3 g4 hY0 hXl hA hS hmm
 go_wp2
 go_ret2
 exact HE.out
section
variable {P:Program} {w w':World} {ops:Array Oper} {rest:List Oper} {o:Oper} {a:Act} {Q:Exit→Act→World→Prop}
theorem wpList_val (hg:o.guard=none) (v:Value) (hr:(execOp a.eval o).run P w=.ok (.value v) w') (h:wpList P ops Q rest (a.put o.dst v) w'):wpList P ops Q (o :: rest) a w :=
 wpList_plain hg fun K hK=>by unfold Oper.wp;rw [hr];exact hK _ _ h
end
set_option maxHeartbeats 400000 in
theorem arefuses_nil (w:World):Calls Tryz.prog 49 #[.pointer none] w fun e w'=>e=.returned (.int .i64 1)∧w'=w:=by
 go_enter Tryz.func49,Tryz.ntmps49
 go_wp2
 go_ret
 exact ⟨rfl,rfl⟩
set_option maxHeartbeats 400000 in
theorem arefuses_live (a s:Nat) (w:World) (h0:w.cell? ⟨a,0,none⟩=some (.pointer (some ⟨a,0,none⟩))) (h1:w.cell? ⟨a,1,none⟩=some (.pointer (some ⟨s,1,none⟩))) (h2:w.cell? ⟨s,85,none⟩=some (.pointer (some ⟨a,0,none⟩))) :
  Calls Tryz.prog 49 #[.pointer (some ⟨a,0,none⟩)] w fun e w'=>e=.returned (.int .i64 0)∧w'=w:=by
 obtain ⟨j,hj,_⟩:=Option.map_eq_some_iff.1 sizeAc
 have hq:=Lib.run_neq_ptr_same (P:=Tryz.prog) w (tp:=28) (te:=40) ⟨a,0,none⟩ Tryz.underlying28 hj
 go_enter Tryz.func49,Tryz.ntmps49
 go_wp2
 go_ret
 exact ⟨rfl,rfl⟩
def Refused (v:Value) (c:Int) (w:World):Prop:=Calls Tryz.prog 49 #[v] w fun e w'=>e=.returned (.int .i64 c)∧w'=w
section
variable (v:Value) (c:Int) (w:World) (hc:c=1∨c=5) (hp:Refused v c w)
include hc hp
set_option maxHeartbeats 400000 in
theorem aroot_code (q:Int):Calls Tryz.prog 15 #[v,.int .i64 q] w fun e w'=>e=.returned (.tuple #[.int .i64 0,.int .i64 c])∧w'=w:=by
 have HP:Hid (Calls Tryz.prog 49 #[v] w fun e w'=>e=.returned (.int .i64 c)∧w'=w):=Lib.hid hp;clear hp
 rcases hc with rfl | rfl
 all_goals
  go_enter Tryz.func15,Tryz.ntmps15
  go_wp2_with fail
  refine HP.out.mono ?_
  rintro e w' ⟨rfl,hw⟩
  subst w'
  go_wp2
  go_ret2
  exact ⟨rfl,rfl⟩
end
set_option maxHeartbeats 400000 in
theorem aroot_good (a:Nat) (h:Hd) (q:Nat) (w:World) (hr:Refused (.pointer (some ⟨a,0,none⟩)) 0 w) (x:HdAt w a 2 h) (k:h.Ok) (hq:q < 16) :
  Calls Tryz.prog 15 #[.pointer (some ⟨a,0,none⟩),.int .i64 q] w fun e w'=>e=.returned (.tuple #[.int .i64 (h.root q),.int .i64 0])∧w'=w:=by
 have HR:Hid (Calls Tryz.prog 49 #[.pointer (some ⟨a,0,none⟩)] w fun e w'=>e=.returned (.int .i64 0)∧w'=w):=Lib.hid hr;clear hr
 have h1:=isRoot_any q w
 rw [decide_eq_true (by omega)] at h1
 have HI:=Lib.hid h1;clear h1
 have hc:=x.root k hq
 rw [show 2+65+q=67+q by omega] at hc
 obtain ⟨r,hr⟩:∃ r,r=h.root q:=⟨_,rfl⟩
 rw [← hr] at hc ⊢
 have hq16:(q:Int) < 16:=by omega
 clear x k hr
 go_enter Tryz.func15,Tryz.ntmps15
 go_wp2_with fail
 refine HR.out.mono ?_
 rintro e w' ⟨rfl,hw⟩
 subst w'
 go_wp2_with fail
 refine HI.out.mono ?_
 rintro e w' ⟨rfl,hw⟩
 subst w'
 go_wp2
 go_ret2
 exact ⟨rfl,rfl⟩
end Go.Proofs.YtfbbjiidccbaiaaGreatDoor
