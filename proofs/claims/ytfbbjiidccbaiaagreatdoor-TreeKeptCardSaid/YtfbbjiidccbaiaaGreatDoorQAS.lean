/- Texts of one proof, one behind the other: YN, YP, YQ, WI, WJ, YB, YG, YH, YE. -/
import Derived.Test.YtfbbjiidccbaiaaGreatDoorQAR
import Derived.Test.YtfbbjiidccbaiaaGreatDoorQAP
import Derived.Test.YtfbbjiidccbaiaaGreatDoorQAQ
import Derived.Test.YtfbbjiidccbaiaaGreatDoorQAA
import Derived.Lib.AppendZeros
set_option maxRecDepth 100000
set_option maxHeartbeats 6400000
namespace Go.Proofs.YtfbbjiidccbaiaaGreatDoor
open Go.RowKit
theorem JX:∀(a k:List UInt8),lt a (k++[0]) ↔ lt a k\/a=k
 | [],[]=>by simp[lt,Op.bytesLess]
 | [],y::k=>by simp[lt,Op.bytesLess]
 | x::a,[]=>by
  rw[List.nil_append,DG];constructor
  ·rintro (h | ⟨rfl,h⟩)
   ·simp at h
   ·exact absurd h (FC _)
  ·rintro (h | h)
   ·exact absurd h (FC _)
   ·cases h
 | x::a,y::k=>by
  rw[List.cons_append,DG,DG,JX a k];constructor
  ·rintro (h | ⟨rfl,h | rfl⟩)
   ·exact .inl (.inl h)
   ·exact .inl (.inr ⟨rfl,h⟩)
   ·exact .inr rfl
  ·rintro ((h | ⟨rfl,h⟩) | h)
   ·exact .inl h
   ·exact .inr ⟨rfl,.inl h⟩
   ·cases h;exact .inr ⟨rfl,.inr rfl⟩
theorem MB (k:List UInt8):∀{l:List En},Srt l->AP (k++[0]) l=AP k l+if A6 k l then 1 else 0
 | [],_=>rfl
 | e::r,hs=>by
  by_cases hl:lt e.key k
  ·have h1:A6 k (e::r)=A6 k r:=by unfold A6;rw[D8 hl];rfl
   rw[D8 hl,h1,D8 ((JX _ _).2 (.inl hl)),MB k (DE.1 (show Srt ([e]++r) from hs)).2.1]
   omega
  ·have h0:=EV (r:=r) hl;have h1:A6 k (e::r)=decide (e.key=k):=by unfold A6;rw[h0];rfl
   rw[h0,h1];by_cases he:e.key=k
   ·rw[D8 ((JX _ _).2 (.inr he)),if_pos (decide_eq_true he)];cases r with
    | nil=>rfl
    | cons a r =>
     rw[EV λha=>?_]
     have h2:=hs.cons_lt a (by simp)
     rw[he]at h2;rcases (JX _ _).1 ha with h3|h3
     ·exact JY h2 h3
     ·exact h2.ne h3.symm
   ·rw[EV λha=>((JX _ _).1 ha).elim hl he,if_neg (by simpa using he)]
section
variable {w:World} {v:Value} {l:List En}
theorem V4 {W0:World}(hW0:W0=w.alloc (.cells #[.string ⟨#[]⟩,.string ⟨#[]⟩] 89))(s1 s2:ByteArray):DR w.heap.size s1 s2 W0 λW'=>Below w.heap.size w W':=by
 have hb:Below w.heap.size w W0:=by rw[hW0];exact (Below.refl _ _).alloc (Nat.le_refl _) _
 have hn:W0.heap[w.heap.size]? = some itZ:=by rw[hW0];exact heap_alloc_new w _
 exact FX hn s1 s2 λW' hk=>hb.trans (hk.toBelow hb.size (λi e=>Nat.le_of_eq e.symm))
theorem AT2 (h:ItV w v l)(hl:l.length<=90000)(k:ByteArray) :
  Calls Tryz.prog 70 #[v,.string k] w λe w'=>e=.returned (.tuple #[itV (l[AP k.data.toList l]?),.bool (l[AP k.data.toList l]?).isSome])/\Below w.heap.size w w':=by
 obtain⟨W0,hW0⟩:∃W0,W0=w.alloc (.cells #[.string ⟨#[]⟩,.string ⟨#[]⟩] 89):=⟨_,rfl⟩;have hb:Below w.heap.size w W0:=by rw[hW0];exact (Below.refl _ _).alloc (Nat.le_refl _) _
 have h0:=h.below hb;have HF:=yH (F0 h0 (by omega) k)
 obtain⟨A,c,rfl,hc,_⟩:=h.slice;have HAT:Hid (AP k.data.toList l<l.length->∃g s1 s2,A=some ⟨g,0,none⟩/\W0.cell? ⟨g,AP k.data.toList l*2,none⟩=some (.string s1)/\W0.cell? ⟨g,AP k.data.toList l*2+1,none⟩=some (.string s2)/\itV (l[AP k.data.toList l]?)=.agg #[.string s1,.string s2]/\(l[AP k.data.toList l]?).isSome=true):=yH λhj=>by
  have he:l[AP k.data.toList l]? = some l[AP k.data.toList l]:=List.getElem?_eq_getElem hj;obtain⟨g,c2,hv,_,h1,h2⟩:=h0.at_ he;injection hv with h3 _ h4
  exact⟨g,_,_,h3,h1,h2,by rw[he];rfl,by rw[he];rfl⟩
 have HNO:Hid (¬AP k.data.toList l<l.length->itV (l[AP k.data.toList l]?)=.agg #[.string ⟨#[]⟩,.string ⟨#[]⟩]/\(l[AP k.data.toList l]?).isSome=false):=yH λhj=>by
  rw[List.getElem?_eq_none (by omega)];exact⟨rfl,rfl⟩
 have HRS:Hid (∀s1 s2,DR w.heap.size s1 s2 W0 λW'=>Below w.heap.size w W'):=yH λs1 s2=>V4 hW0 s1 s2
 obtain⟨n,hn⟩:∃n,n=l.length:=⟨_,rfl⟩;obtain⟨m,hm⟩:∃m,m=AP k.data.toList l:=⟨_,rfl⟩;obtain⟨o,ho⟩:∃o,o=itV (l[AP k.data.toList l]?):=⟨_,rfl⟩;obtain⟨b,hb⟩:∃b,b=(l[AP k.data.toList l]?).isSome:=⟨_,rfl⟩;rw[<-ho,<-hb,<-hn,<-hm]at HAT HNO;rw[<-hn,<-hm]at HF;rw[<-hn]at hl ⊢
 rw[<-ho,<-hb];clear h h0 hc hn hm ho hb;go_enter Tryz.func70,Tryz.ntmps70;go_wp2_with fail;rw[<-hW0];refine HF.out.mono ?_;rintro e w1 ⟨rfl,hw⟩;subst w1;clear HF;by_cases hmn:m<n
 ·obtain⟨g,s1,s2,rfl,c1,c2,rfl,rfl⟩:=HAT.out hmn;obtain⟨d1,d2,d3,d4,d5,d6,d7,HE⟩:=HRS.out s1 s2;have f1:(m:Int)<(n:Int):=by omega
  clear HAT HNO HRS hW0;go_wp2;exact bodyPost_ret (v:=.tuple #[.agg #[.string s1,.string s2],.bool true]) (by simp[results,Tryz.results70,go_sem,d6,d7]) rfl ⟨rfl,HE.out⟩
 ·have f1:¬(m:Int)<(n:Int):=by omega
  obtain⟨rfl,rfl⟩:=HNO.out hmn;obtain⟨d1,d2,d3,d4,d5,d6,d7,HE⟩:=HRS.out ⟨#[]⟩ ⟨#[]⟩;clear HAT HNO HRS hW0;go_wp2;exact bodyPost_ret (v:=.tuple #[.agg #[.string ⟨#[]⟩,.string ⟨#[]⟩],.bool false]) (by simp[results,Tryz.results70,go_sem,d6,d7]) rfl ⟨rfl,HE.out⟩
theorem AT1 (h:ItV w v l)(hl:l.length<=90000)(k:ByteArray) :
  Calls Tryz.prog 71 #[v,.string k] w λe w'=>e=.returned (.tuple #[itV (l[AP k.data.toList l+if A6 k.data.toList l then 1 else 0]?),.bool (l[AP k.data.toList l+if A6 k.data.toList l then 1 else 0]?).isSome])/\Below w.heap.size w w':=by
 obtain⟨W0,hW0⟩:∃W0,W0=w.alloc (.cells #[.string ⟨#[]⟩,.string ⟨#[]⟩] 89):=⟨_,rfl⟩;have hb:Below w.heap.size w W0:=by rw[hW0];exact (Below.refl _ _).alloc (Nat.le_refl _) _
 have h0:=h.below hb;have HF:=yH (F0 h0 (by omega) k)
 have HH:=yH (GZ h0 (by omega) k)
 obtain⟨A,c,rfl,hc,_⟩:=h.slice;have hmle:=EG k.data.toList l;obtain⟨i,hi⟩:∃i,i=AP k.data.toList l+if A6 k.data.toList l then 1 else 0:=⟨_,rfl⟩
 have HAT:Hid (i<l.length->∃g s1 s2,A=some ⟨g,0,none⟩/\W0.cell? ⟨g,i*2,none⟩=some (.string s1)/\W0.cell? ⟨g,i*2+1,none⟩=some (.string s2)/\itV (l[i]?)=.agg #[.string s1,.string s2]/\(l[i]?).isSome=true):=yH λhj=>by
  have he:l[i]? = some l[i]:=List.getElem?_eq_getElem hj;obtain⟨g,c2,hv,_,h1,h2⟩:=h0.at_ he;injection hv with h3 _ h4
  exact⟨g,_,_,h3,h1,h2,by rw[he];rfl,by rw[he];rfl⟩
 have HNO:Hid (¬i<l.length->itV (l[i]?)=.agg #[.string ⟨#[]⟩,.string ⟨#[]⟩]/\(l[i]?).isSome=false):=yH λhj=>by
  rw[List.getElem?_eq_none (by omega)];exact⟨rfl,rfl⟩
 have HRS:Hid (∀s1 s2,DR w.heap.size s1 s2 W0 λW'=>Below w.heap.size w W'):=yH λs1 s2=>V4 hW0 s1 s2
 rw[<-hi];obtain⟨n,hn⟩:∃n,n=l.length:=⟨_,rfl⟩;obtain⟨m,hm⟩:∃m,m=AP k.data.toList l:=⟨_,rfl⟩;obtain⟨bt,hbt⟩:∃bt,bt=A6 k.data.toList l:=⟨_,rfl⟩;obtain⟨o,ho⟩:∃o,o=itV (l[i]?):=⟨_,rfl⟩;obtain⟨b,hb⟩:∃b,b=(l[i]?).isSome:=⟨_,rfl⟩;rw[<-ho,<-hb,<-hn]at HAT HNO;rw[<-hn,<-hm]at HF;rw[<-hn,<-hbt]at HH;rw[<-hm,<-hbt]at hi;rw[<-hn]at hl ⊢
 rw[<-hn,<-hm]at hmle;rw[<-ho,<-hb];have HI:=yH hi;clear h h0 hc hn hm ho hb hbt hi;go_enter Tryz.func71,Tryz.ntmps71;go_wp2_with fail;rw[<-hW0];clear hW0;refine HF.out.mono ?_;rintro e w1 ⟨rfl,hw⟩;subst w1;clear HF;go_wp2_with fail;refine HH.out.mono ?_;rintro e w1 ⟨rfl,hw⟩;subst w1;clear HH;have f5:IntKind.i64.wrap ((m:Int)+1)=(m:Int)+1:=IntWalk.i64_in _ (by omega)
 by_cases hin:i<n
 ·obtain⟨g,s1,s2,rfl,c1,c2,rfl,rfl⟩:=HAT.out hin;obtain⟨d1,d2,d3,d4,d5,d6,d7,HE⟩:=HRS.out s1 s2;clear HAT HNO HRS;cases bt with
  | true =>
   obtain rfl:i=m+1:=HI.out;have f1:(m:Int)+1<(n:Int):=by omega
   have f2:(0:Int)<=(m:Int)+1:=by omega
   go_wp2;exact bodyPost_ret (v:=.tuple #[.agg #[.string s1,.string s2],.bool true]) (by simp[results,Tryz.results71,go_sem,d6,d7]) rfl ⟨rfl,HE.out⟩
  | false =>
   obtain rfl:i=m:=HI.out;have f1:(i:Int)<(n:Int):=by omega
   go_wp2;exact bodyPost_ret (v:=.tuple #[.agg #[.string s1,.string s2],.bool true]) (by simp[results,Tryz.results71,go_sem,d6,d7]) rfl ⟨rfl,HE.out⟩
 ·obtain⟨rfl,rfl⟩:=HNO.out hin;obtain⟨d1,d2,d3,d4,d5,d6,d7,HE⟩:=HRS.out ⟨#[]⟩ ⟨#[]⟩;clear HAT HNO HRS;cases bt with
  | true =>
   obtain rfl:i=m+1:=HI.out;have f1:¬(m:Int)+1<(n:Int):=by omega
   go_wp2;exact bodyPost_ret (v:=.tuple #[.agg #[.string ⟨#[]⟩,.string ⟨#[]⟩],.bool false]) (by simp[results,Tryz.results71,go_sem,d6,d7]) rfl ⟨rfl,HE.out⟩
  | false =>
   obtain rfl:i=m:=HI.out;have f1:¬(i:Int)<(n:Int):=by omega
   go_wp2;exact bodyPost_ret (v:=.tuple #[.agg #[.string ⟨#[]⟩,.string ⟨#[]⟩],.bool false]) (by simp[results,Tryz.results71,go_sem,d6,d7]) rfl ⟨rfl,HE.out⟩
theorem AS8 (h:ItV w v l)(hl:l.length<=90000)(k:ByteArray) :
  Calls Tryz.prog 72 #[v,.string k] w λe w'=>e=.returned (.tuple #[itV (EC k.data.toList l),.bool (EC k.data.toList l).isSome])/\Below w.heap.size w w':=by
 obtain⟨W0,hW0⟩:∃W0,W0=w.alloc (.cells #[.string ⟨#[]⟩,.string ⟨#[]⟩] 89):=⟨_,rfl⟩;have hb:Below w.heap.size w W0:=by rw[hW0];exact (Below.refl _ _).alloc (Nat.le_refl _) _
 have h0:=h.below hb;have HF:=yH (F0 h0 (by omega) k)
 obtain⟨A,c,rfl,hc,_⟩:=h.slice;have hmle:=EG k.data.toList l;have HAT:Hid (∀i,AP k.data.toList l=i+1->∃g s1 s2,A=some ⟨g,0,none⟩/\W0.cell? ⟨g,i*2,none⟩=some (.string s1)/\W0.cell? ⟨g,i*2+1,none⟩=some (.string s2)/\itV (EC k.data.toList l)=.agg #[.string s1,.string s2]/\(EC k.data.toList l).isSome=true):=yH λi hi=>by
  have hj:i<l.length:=by omega
  have he:l[i]? = some l[i]:=List.getElem?_eq_getElem hj;obtain⟨g,c2,hv,_,h1,h2⟩:=h0.at_ he;injection hv with h3 _ h4
  have hp:EC k.data.toList l=some l[i]:=by unfold EC;rw[if_neg (by omega),hi,Nat.add_sub_cancel,he]
  exact⟨g,_,_,h3,h1,h2,by rw[hp];rfl,by rw[hp];rfl⟩
 have HNO:Hid (AP k.data.toList l=0->itV (EC k.data.toList l)=.agg #[.string ⟨#[]⟩,.string ⟨#[]⟩]/\(EC k.data.toList l).isSome=false):=yH λhj=>by
  unfold EC;rw[if_pos hj];exact⟨rfl,rfl⟩
 have HRS:Hid (∀s1 s2,DR w.heap.size s1 s2 W0 λW'=>Below w.heap.size w W'):=yH λs1 s2=>V4 hW0 s1 s2
 obtain⟨n,hn⟩:∃n,n=l.length:=⟨_,rfl⟩;obtain⟨m,hm⟩:∃m,m=AP k.data.toList l:=⟨_,rfl⟩;obtain⟨o,ho⟩:∃o,o=itV (EC k.data.toList l):=⟨_,rfl⟩;obtain⟨b,hb⟩:∃b,b=(EC k.data.toList l).isSome:=⟨_,rfl⟩;rw[<-ho,<-hb,<-hm]at HAT HNO;rw[<-hn,<-hm]at HF;rw[<-hn,<-hm]at hmle;rw[<-hn]at hl ⊢
 rw[<-ho,<-hb];clear h h0 hc hn hm ho hb;go_enter Tryz.func72,Tryz.ntmps72;go_wp2_with fail;rw[<-hW0];refine HF.out.mono ?_;rintro e w1 ⟨rfl,hw⟩;subst w1;clear HF;by_cases hm0:m=0
 ·obtain⟨rfl,rfl⟩:=HNO.out hm0;subst hm0;rw[show ((0:Nat):Int)=0 from rfl]
  obtain⟨d1,d2,d3,d4,d5,d6,d7,HE⟩:=HRS.out ⟨#[]⟩ ⟨#[]⟩;clear HAT HNO HRS hW0;go_wp2;exact bodyPost_ret (v:=.tuple #[.agg #[.string ⟨#[]⟩,.string ⟨#[]⟩],.bool false]) (by simp[results,Tryz.results72,go_sem,d6,d7]) rfl ⟨rfl,HE.out⟩
 ·obtain⟨p,rfl⟩:∃p,m=p+1:=⟨m-1,by omega⟩
  obtain⟨g,s1,s2,rfl,c1,c2,rfl,rfl⟩:=HAT.out p rfl;obtain⟨d1,d2,d3,d4,d5,d6,d7,HE⟩:=HRS.out s1 s2;rw[show ((p+1:Nat):Int)=(p:Int)+1 from rfl]
  have f1:(0:Int)<(p:Int)+1:=by omega
  have f2:IntKind.i64.wrap (p:Int)=p:=IntWalk.i64_in _ (by omega)
  have f3:(p:Int)<(n:Int):=by omega
  have f4:p<n:=by omega
  clear HAT HNO HRS hW0 hm0;go_wp2;exact bodyPost_ret (v:=.tuple #[.agg #[.string s1,.string s2],.bool true]) (by simp[results,Tryz.results72,go_sem,d6,d7]) rfl ⟨rfl,HE.out⟩
end
section
variable {J:List AD->Prop} {B:Nat} {S:Nat->Prop} {c:Ac} {h:Hd} {G:Nat->List UInt8} {w:World} {tb r:Nat}
theorem BQ3 (x:AU J B S c h G w)(ht:AH w tb c.a r)(hr16:r<16)(key val:ByteArray)(hk:MG key val=false) :
  Calls Tryz.prog 35 #[.pointer (some ⟨tb,0,none⟩),.string key,.string val] w λe w'=>e=.returned (.tuple #[.bool false,.int .i64 1])/\Below w.heap.size w w':=by
 have HTOP:=yH (F9 x ht hr16);obtain⟨rt,hrt⟩:∃rt,rt=h.root r:=⟨_,rfl⟩;rw[<-hrt]at HTOP;have HB:Hid (∀k,Below w.heap.size w (w.drewN k)):=yH λk=>AF w k
 clear x ht hrt;by_cases h1:key.size=0
 ·have f1:key.toList.isEmpty=true:=by
   rw[ByteArray.toList_eq,List.isEmpty_iff];exact List.eq_nil_of_length_eq_zero (by rw[Array.length_toList];exact h1)
  have f2:key.toList=[]:=List.isEmpty_iff.1 f1;clear hk;go_enter Tryz.func35,Tryz.ntmps35;go_wp2_with fail;refine HTOP.out.mono ?_;rintro e w1 ⟨rfl,k,rfl⟩;clear HTOP;go_wp2;go_ret2;exact⟨rfl,HB.out _⟩
 ·have f1:¬key.toList=[]:=λe=>by
   rw[ByteArray.toList_eq]at e;have:=congrArg List.length e
   rw[Array.length_toList]at this;exact h1 this
  have f1':key.toList.isEmpty=false:=by
   cases hb:key.toList.isEmpty with
   | false=>rfl
   | true=>exact absurd (List.isEmpty_iff.1 hb) f1
  by_cases h2:96<key.size
  ·have f2:(96:Int)<(key.size:Int):=by omega
   have f3:decide ((96:Int)<(key.size:Int))=true:=decide_eq_true f2;clear hk;go_enter Tryz.func35,Tryz.ntmps35;go_wp2_with fail;refine HTOP.out.mono ?_;rintro e w1 ⟨rfl,k,rfl⟩;clear HTOP;go_wp2;go_ret2;exact⟨rfl,HB.out _⟩
  ·have h3:32<val.size:=by
    simp only[MG,Bool.and_eq_false_iff,decide_eq_false_iff_not]at hk;omega
   have f2:¬(96:Int)<(key.size:Int):=by omega
   have f2':decide ((96:Int)<(key.size:Int))=false:=decide_eq_false f2;have f3:(32:Int)<(val.size:Int):=by omega
   have f3':decide ((32:Int)<(val.size:Int))=true:=decide_eq_true f3;clear hk;go_enter Tryz.func35,Tryz.ntmps35;go_wp2_with fail;refine HTOP.out.mono ?_;rintro e w1 ⟨rfl,k,rfl⟩;clear HTOP;go_wp2;go_ret2;exact⟨rfl,HB.out _⟩
end
structure LiI (S:Nat->Prop)(w:World)(v:Value)(l:List En):Prop where
 is:ItV w v l
 out:∀g,v.ownBlock=some g->¬S g
section
variable {S S':Nat->Prop} {w w':World} {v:Value} {l:List En}
theorem LiI.turn (h:LiI S w v l)(hT:AO S w S' w'):LiI S' w' v l:=⟨h.is.kept hT.1 h.out,λg hg=>hT.not (h.is.lt g hg) (h.out g hg)⟩
theorem LiI.below (h:LiI S w v l)(hb:Below w.heap.size w w'):LiI S w' v l:=h.turn (AO.ofBelow hb)
theorem LiI.nil_ (S:Nat->Prop)(w:World):LiI S w (.slice none 0 0) []:=⟨ItV.nil_ w,λg hg=>by simp[Value.ownBlock]at hg⟩
theorem IF.li {n:Nat}(h:IF n w v l)(hS:∀k,S k->k<n):LiI S w v l:=⟨h.is,λg hg hs=>by have:=h.new g hg;have:=hS g hs;omega⟩
end
def BU (J:List AD->Prop)(B:Nat)(S:Nat->Prop)(c:Ac)(h:Hd)(G:Nat->List UInt8)(tb r:Nat)(ps:List Nat)(F' l':List En)(v':Value)(w w':World):Prop :=
 ∃(h':Hd) (G':Nat->List UInt8) (S':Nat->Prop) (ps':List Nat),AU J B S' c h' G' w'/\AO S w S' w'/\AH w' tb c.a r/\AY h' G' (h'.root r) F' ps'/\Oth h G r ps h' G' ps'/\LiI S' w' v' l'
def E6 (J:List AD->Prop)(B:Nat)(S:Nat->Prop)(c:Ac)(h:Hd)(G:Nat->List UInt8)(tb r:Nat)(ps:List Nat)(F' l':List En)(good:Prop)(w:World)(e:Ending)(w':World):Prop :=
 ∃(v':Value) (b:Bool),e=.returned (.tuple #[v',.bool b])/\(good->b=true)/\BU J B S c h G tb r ps F' l' v' w w'
section
variable {J:List AD->Prop} {B:Nat} {S:Nat->Prop} {c:Ac} {h:Hd} {G:Nat->List UInt8} {w:World} {tb r:Nat} {F l:List En} {ps:List Nat} {U:List Nat} {v:Value}
theorem BU.older {F' l':List En}{v':Value}{w1 w':World}(hp:BU J B S c h G tb r ps F' l' v' w1 w')(hb:Below w.heap.size w w1):BU J B S c h G tb r ps F' l' v' w w':=by
 obtain⟨h',G',S',ps',h1,h2,h3⟩:=hp;exact⟨h',G',S',ps',h1,(AO.ofBelow hb).trans h2,h3⟩
theorem BU.below {F' l':List En}{v':Value}{w' w2:World}(hp:BU J B S c h G tb r ps F' l' v' w w')(hb:Below w'.heap.size w' w2):BU J B S c h G tb r ps F' l' v' w w2:=by
 obtain⟨h',G',S',ps',h1,h2,h3,h4,h5,h6⟩:=hp;exact⟨h',G',S',ps',h1.below hb,h2.trans (AO.ofBelow hb),h3.below hb,h4,h5,h6.below hb⟩
theorem BU.of {F':List En}{w':World}(hp:CN J B S c h G tb r ps F' w w')(li:LiI S w v l):BU J B S c h G tb r ps F' l v w w':=by
 obtain⟨h',G',S',ps',h1,h2,h3,h4,h5⟩:=hp;exact⟨h',G',S',ps',h1,h2,h3,h4,h5,li.turn h2⟩
theorem BU.renew {F' l' l2:List En}{v' v2:Value}{w' w2:World}(hp:BU J B S c h G tb r ps F' l' v' w w')(hn:IF w'.heap.size w2 v2 l2)(hb:Below w'.heap.size w' w2):BU J B S c h G tb r ps F' l2 v2 w w2:=by
 obtain⟨h',G',S',ps',h1,h2,h3,h4,h5,h6⟩:=hp;exact⟨h',G',S',ps',h1.below hb,h2.trans (AO.ofBelow hb),h3.below hb,h4,h5,hn.li λk hk=>(h1.low k hk).2⟩
theorem BU.same (x:AU J B S c h G w)(ht:AH w tb c.a r)(on:AY h G (h.root r) F ps)(li:LiI S w v l){w':World}(hb:Below w.heap.size w w'):BU J B S c h G tb r ps F l v w w' :=
 ⟨h,G,S,ps,x.below hb,AO.ofBelow hb,ht.below hb,on,Oth.refl h G r on.has,li.below hb⟩
theorem BU.act {w':World}(x:BI J B S c h G w w')(ht:AH w tb c.a r)(htS:¬S tb)(on:AY h G (h.root r) F ps)(li:LiI S w v l):BU J B S c h G tb r ps F l v w w':=by
 obtain⟨S',hT,hA⟩:=x;exact⟨h,G,S',ps,hA,hT,ht.kept hT.1 htS,on,Oth.refl h G r on.has,li.turn hT⟩
def NS (key val:ByteArray)(l:List En):List En:=if MG key val then CM key.data.toList val.data.toList l else l
theorem BJ2 (x:AU J B S c h G w)(ht:AH w tb c.a r)(htS:¬S tb)(hr16:r<16)(hC:∀q,(c.C q).length=512)(on:AY h G (h.root r) F ps)(hrm:CU h U 16)(li:LiI S w v l)(hl:l.length<=80000)(key val:ByteArray) :
  Calls Tryz.prog 29 #[.pointer (some ⟨tb,0,none⟩),v,.agg #[.int .i64 1,.string key,.string val]] w (E6 J B S c h G tb r ps (NS key val F) (NS key val l) (l=F) w):=by
 obtain⟨W0,hW0⟩:∃W0,W0=w.alloc (.cells #[.int .i64 1,.string key,.string val] 78):=⟨_,rfl⟩;have hb0:Below w.heap.size w W0:=by rw[hW0];exact (Below.refl _ _).alloc (Nat.le_refl _) _
 have hz0:W0.heap.size=w.heap.size+1:=by rw[hW0];simp
 have hop:W0.heap[w.heap.size]? = some (.cells #[.int .i64 1,.string key,.string val] 78 (0,0)):=by rw[hW0];exact heap_alloc_new w _
 have e0:W0.cell? ⟨w.heap.size,0,none⟩=some (.int .i64 1):=by rw[yC hop];rfl
 have e1:W0.cell? ⟨w.heap.size,1,none⟩=some (.string key):=by rw[yC hop];rfl
 have e2:W0.cell? ⟨w.heap.size,2,none⟩=some (.string val):=by rw[yC hop];rfl
 have x0:=x.below hb0;have ht0:=ht.below hb0;have li0:=li.below hb0;have hopS:¬S w.heap.size:=λhs=>by have:=(x.low _ hs).2;omega
 have HOP:Hid (∀(W:World) (S':Nat->Prop),AO S W0 S' W->W.cell? ⟨w.heap.size,1,none⟩=some (.string key)/\W.cell? ⟨w.heap.size,2,none⟩=some (.string val)):=yH λW S' hT=>by
  have:=(hT.1.block w.heap.size (by omega) hopS).trans hop
  exact⟨by rw[yC this];rfl,by rw[yC this];rfl⟩
 have HMAY:Hid (∀W,Calls Tryz.prog 44 #[.string key,.string val] W λe w'=>e=.returned (.bool (MG key val))/\w'=W):=yH λW=>BC2 key val W
 obtain⟨vv,hvv⟩:∃vv,vv=v:=⟨_,rfl⟩;by_cases hm:MG key val=true
 ·obtain⟨m1,m2,m3⟩:=AO7.1 hm;have HPUT:Hid (Calls Tryz.prog 35 #[.pointer (some ⟨tb,0,none⟩),.string key,.string val] W0 λe w1=>∃b1:Bool,e=.returned (.tuple #[.bool b1,.int .i64 0])/\w1.cell? ⟨w.heap.size,1,none⟩=some (.string key)/\w1.cell? ⟨w.heap.size,2,none⟩=some (.string val) /\
    Hid (Calls Tryz.prog 66 #[v,.string key,.string val] w1 λe w2=>∃v2,e=.returned v2/\w2.cell? ⟨w.heap.size,1,none⟩=some (.string key)/\Hid (Calls Tryz.prog 67 #[v,.string key] w2 λe w3=>e=.returned (.bool (A6 key.data.toList l))/\w3=w2) /\
     Hid (BU J B S c h G tb r ps (NS key val F) (NS key val l) v2 w w2))/\(l=F->b1=!A6 key.data.toList l)):=yH (by
   refine (BD0 x0 ht0 htS hr16 hC on hrm key val m1 m2 m3).mono ?_;rintro e w1 ⟨rfl,hp⟩;obtain⟨h',G',S',ps',q1,q2,q3,q4,q5⟩:=hp;obtain⟨c1,c2⟩:=HOP.out _ _ q2;have li1:=li0.turn q2;refine⟨_,rfl,c1,c2,yH ?_,λe=>by rw[e]⟩
   refine (BB8 li1.is (by omega) key val).mono ?_
   rintro e w2 ⟨v2,rfl,hn,hb⟩;obtain⟨c3,_⟩:=HOP.out _ _ (q2.trans (AO.ofBelow hb));refine⟨v2,rfl,c3,yH (GZ (li1.is.below hb) (by omega) key),yH ?_⟩
   have hp:BU J B S c h G tb r ps (NS key val F) l v W0 w1:=by
    unfold NS;rw[if_pos hm]
    exact⟨h',G',S',ps',q1,q2,q3,q4,q5,li1⟩
   have hn':IF w1.heap.size w2 v2 (NS key val l):=by unfold NS;rw[if_pos hm];exact hn
   exact (hp.renew hn' hb).older hb0)
  rw[hm]at HMAY;obtain⟨bl,hbl⟩:∃bl,bl=A6 key.data.toList l:=⟨_,rfl⟩;rw[<-hbl]at HPUT;clear x ht htS hC on hrm li x0 ht0 li0 hop HOP hb0 hbl hz0 hopS m1 m2 m3 hm;go_enter Tryz.func29,Tryz.ntmps29;go_wp2_with fail;rw[<-hW0];refine HPUT.out.mono ?_;rintro e w1 ⟨b1,rfl,c1,c2,HRP,hbb⟩;have HBB:=yH hbb;clear HPUT hbb e0 e1 e2 hW0;go_wp2_with fail;refine (HMAY.out w1).mono ?_;rintro e w1' ⟨rfl,hw⟩;subst w1';clear HMAY;go_wp2_with fail;refine HRP.out.mono ?_;rintro e w2 ⟨v2,rfl,c3,HRH,HST⟩;clear HRP c1 c2;go_wp2_with fail;refine HRH.out.mono ?_;rintro e w3 ⟨rfl,hw⟩;subst w3;clear HRH;go_wp2;go_ret2;refine⟨v2,_,rfl,λe=>?_,HST.out⟩
  rw[HBB.out e];simp
 ·have hm:MG key val=false:=by simpa using hm
  have HPUT:Hid (Calls Tryz.prog 35 #[.pointer (some ⟨tb,0,none⟩),.string key,.string val] W0 λe w1=>e=.returned (.tuple #[.bool false,.int .i64 1])/\w1.cell? ⟨w.heap.size,1,none⟩=some (.string key)/\w1.cell? ⟨w.heap.size,2,none⟩=some (.string val)/\Hid (BU J B S c h G tb r ps (NS key val F) (NS key val l) v w w1)):=yH (by
   refine (BQ3 x0 ht0 hr16 key val hm).mono ?_;rintro e w1 ⟨rfl,hb⟩;obtain⟨c1,c2⟩:=HOP.out _ _ (AO.ofBelow hb);refine⟨rfl,c1,c2,yH ?_⟩;unfold NS;rw[if_neg (by rw[hm];simp),if_neg (by rw[hm];simp)]
   exact (BU.same x0 ht0 on li0 hb).older hb0)
  rw[hm]at HMAY;clear x ht htS hC on hrm li x0 ht0 li0 hop HOP hb0 hz0 hopS hm;go_enter Tryz.func29,Tryz.ntmps29;go_wp2_with fail;rw[<-hW0];refine HPUT.out.mono ?_;rintro e w1 ⟨rfl,c1,c2,HST⟩;clear HPUT e0 e1 e2 hW0;go_wp2_with fail;refine (HMAY.out w1).mono ?_;rintro e w1' ⟨rfl,hw⟩;subst w1';clear HMAY;go_wp2;go_ret2;exact⟨_,_,rfl,λ_=>rfl,HST.out⟩
end
structure BM7 (h:Hd)(G:Nat->List UInt8)(key:List UInt8)(F:List En)(b:Bool)(sts pre:List (NO × Nat))(x0:NO)(at_ q:Nat)(z0:Zip 0):Prop where
 eq:sts=pre++[(x0,at_)]
 on:z0.On q pre.reverse
 ok:∃had,z0.Ok had
 reps:z0.Reps (FF h G)
 next:ED key F=if at_<x0.ens.length then x0.ens[at_]? else z0.nx true
 prev:EC key F=if at_=0 then z0.nx false else x0.ens[at_-1]?
 is:b=A6 key F
 held:b=true->at_<x0.ens.length
 le:at_<=x0.ens.length
def BM8 (h:Hd)(G:Nat->List UInt8)(key:List UInt8)(F:List En)(b:Bool)(sts:List (NO × Nat)):Prop:=∃pre x0 at_ q z0,BM7 h G key F b sts pre x0 at_ q z0
theorem AS4 (h:Hd)(G:Nat->List UInt8)(key:List UInt8)(x0:NO)(hx:x0.ens=[]):BM8 h G key [] false [(x0,0)] :=
 ⟨[],x0,0,0,.top 0,rfl,rfl,⟨0,trivial⟩,trivial,by rw[hx];rfl,rfl,rfl,(λh=>by cases h),Nat.zero_le _⟩
theorem AS2 {h:Hd}{G:Nat->List UInt8}{L:Nat}{t:Tr L}(st:EY h G t){key:List UInt8}{b:Bool}{sts:List (NO × Nat)}(hw:NI key b L t sts):BM8 h G key t.flat b sts:=by
 obtain⟨pre,x0,c0,z0,⟨h1,h2,h3,h4,h5,h6⟩,_⟩:=VW (P:=FF h G) (F:=t.flat) (ps:=t.pages) (Q:=λ_ _=>True) (z:=.top L) (up:=[]) (λ_ _ _ _ _ _ _=>trivial) (AR3 st.root st.ord key) st.rep trivial hw rfl trivial
 obtain⟨n1,n2,n3,n4⟩:=h2.near;have hens:x0.ens=c0.es:=h3.2.2.1;refine⟨pre,x0,AP key c0.es,c0.page,z0,h1,by simpa using h5,⟨_,h2.ok⟩,h6.2,by rw[hens];exact n2,by rw[hens];exact n3,?_,λhb=>?_,by rw[hens];exact EG _ _⟩
 ·rw[h4,Bool.eq_iff_iff,n4,G9 st.ord.flat.1]
 ·rw[h4]at hb;obtain⟨A,e,B,hl,h7,_⟩:=XR hb;rw[hens,hl,List.length_append,<-hl,<-h7];simp
section
variable {J:List AD->Prop} {B:Nat} {S X:Nat->Prop} {c:Ac} {h:Hd} {G:Nat->List UInt8} {w:World} {tb r:Nat} {key:List UInt8} {KA:Option Addr} {kn kc:Nat} {F:List En} {ps:List Nat}
theorem BO4 (x:AU J B S c h G w)(hw:AH w tb c.a r)(htS:¬S tb)(hkn:key.length=kn)(hK:AK w KA key)(hKS:∀ad,KA=some ad->key≠[]->¬S ad.block)(on:AY h G (h.root r) F ps) :
  ∃n,1<=n/\n<=901/\Calls Tryz.prog 76 #[.pointer (some ⟨tb,0,none⟩),.int .i64 (h.root r),.slice KA kn kc] w (XV J B S c h G w (BM8 h G key F) n):=by
 rcases on.is with⟨rfl,htop,rfl⟩|⟨L,t,hr,ho,rfl,htop,rfl,hrep⟩
 ·refine⟨1,by omega,by omega,?_⟩
  rw[htop];refine (Y6 (kc:=kc) x hw hkn hK).mono ?_;rintro e w' ⟨sts,a,cv,b,S',X',rfl,⟨rfl,rfl⟩,h1⟩;exact⟨_,a,cv,false,S',X',rfl,AS4 h G key _ rfl,h1⟩
 ·have st:EY h G t:=⟨hr,ho,hrep,on.nodup⟩;have hL:L<=12:=hr.level on.nodup λq hq=>(x.has_lt (st.has q hq)).2
  refine⟨L+1,by omega,by omega,?_⟩
  rw[<-htop];refine (AZ4 (kc:=kc) x hw htS hkn hK hKS (by omega) hrep hr.1.1 (λ_=>hr.1.2.1) ho).mono ?_
  rintro e w' ⟨sts,a,cv,b,S',X',rfl,hwl,h1⟩;exact⟨sts,a,cv,b,S',X',rfl,AS2 st hwl,h1⟩
theorem BR0 {l:Nat}{z:Zip l}{q j:Nat}{sts:List (NO × Nat)}(ho:z.On q (sts.take (j+1)).reverse)(hj:j<sts.length):∃(p:Nat) (A:List (Kid l)) (k:List UInt8) (B:List (Kid l)) (z':Zip (l+1)) (x:NO),z=.up p A k B z'/\sts[j]? = some (x,A.length)/\z'.On p (sts.take j).reverse/\x.level=l+1/\x.ens=A.map kEn++(⟨k,pgV q⟩::B.map kEn):=by
 have ht:(sts.take (j+1)).reverse=sts[j]::(sts.take j).reverse:=by
  rw[List.take_add_one,List.getElem?_eq_getElem hj,Option.toList_some,List.reverse_append];rfl
 rw[ht]at ho;cases z with
 | top _=>exact absurd (show _=[] from ho) (by simp)
 | up p A k B z' =>
  obtain⟨x,rest,hs,hp,hl,he,_,_,_,ho'⟩:=ho;injection hs with hs1 hs2
  exact⟨p,A,k,B,z',x,rfl,by rw[List.getElem?_eq_getElem hj,hs1],by rw[hs2];exact ho',hl,he⟩
theorem BX8 {l:Nat}{z:Zip l}{q:Nat}(ho:z.On q [])(right:Bool):z.nx right=none:=by
 cases z with
 | top _=>cases right <;> rfl
 | up p A k B z' =>
  obtain⟨x,rest,hs,_⟩:=ho;cases hs
structure RJ (h:Hd)(G:Nat->List UInt8)(right:Bool)(o:Option En)(sts:List (NO × Nat))(j:Nat){l:Nat}(z:Zip l)(q:Nat):Prop where
 on:z.On q (sts.take j).reverse
 ok:∃had,z.Ok had
 reps:z.Reps (FF h G)
 o:z.nx right=o
theorem RJ.up {right:Bool}{o:Option En}{sts:List (NO × Nat)}{j l:Nat}{z:Zip l}{q:Nat}(I:RJ h G right o sts (j+1) z q)(hj:j<sts.length)(hN:DV X S w (sts.map (·.1))) :
  ∃(x:NO) (a:Nat),sts[j]? = some (x,a)/\a<x.ens.length/\AM X w x/\¬S x.blk/\x.level=l+1 /\
   (((if right then a+1=x.ens.length else a=0)/\∃(z':Zip (l+1)) (p:Nat),RJ h G right o sts j z' p) \/
   ∃y:Kid l,(if right then True else 1<=a)/\x.ens[if right then a+1 else a-1]? = some (kEn y)/\CJ y.2/\Rep (FF h G) y.2/\IT right y.2.flat=o):=by
 obtain⟨p,A,k,B',z',x,rfl,hs,ho',hl,he⟩:=BR0 I.on hj;obtain⟨had,hok,_,_,hok'⟩:=I.ok;have hm:x ∈ sts.map (·.1):=List.mem_map_of_mem (f:=(·.1)) (List.mem_of_getElem? hs)
 obtain⟨n1,n2,_⟩:=hN.at_ x hm;obtain⟨s1,s2⟩:=BP6 right A ⟨k,pgV q⟩ B';have hlen:A.length<x.ens.length:=by rw[he];simp
 refine⟨x,A.length,hs,hlen,n1,n2,hl,?_⟩;rcases CB5 (right:=right) (p:=p) (k:=k) (z:=z') hok.left hok.right with⟨e1,e2⟩|⟨y,e1,e2,e3,e4⟩
 ·refine .inl ⟨?_,z',p,ho',⟨_,hok'⟩,I.reps.2.2,e2 ▸ I.o⟩
  rw[he];exact s1 e1
 ·refine .inr ⟨y,(s2 y e1).1,by rw[he];exact (s2 y e1).2,e2,?_,e4 ▸ I.o⟩
  rcases e3 with e3|e3
  ·exact I.reps.1 y e3
  ·exact I.reps.2.1 y e3
end
section
variable {J:List AD->Prop} {B:Nat} {S S':Nat->Prop} {c:Ac} {h:Hd} {G:Nat->List UInt8} {w w':World}
def DM (S:Nat->Prop)(w:World)(n:NO):Prop:=AM (λk=>S k\/k=n.blk\/k=n.ab) w n/\¬S n.blk/\¬S n.ab/\n.ab<w.heap.size
theorem DM.turn {n:NO}(hn:DM S w n)(hT:AO S w S' w'):DM S' w' n:=by
 obtain⟨h1,h2,h3,h4⟩:=hn;have hk:AM (λk=>(S k\/S' k)\/k=n.blk\/k=n.ab) w' n:=h1.kept (T:=S) hT.1 (λk _ hs=>.inl hs) (λk hl hx=>by
  rcases hx with (hx|hx)|hx
  ·exact .inl hx
  ·exact .inl (hT.2 k hl hx)
  ·exact .inr hx) (λk hx=>hx.elim (λh=>.inl (.inl h)) .inr) h2 (λad ha _=>by rw[Q7 ha];exact h3)
 refine⟨hk.re (λk hx=>hx.elim (λh=>.inl (.inr h)) .inr) (.inr (.inl rfl)) (λad ha=>.inr (.inr (Q7 ha))),hT.not h1.lt h2,hT.not h4 h3,by have:=hT.1.size;omega⟩
theorem DM.below {n:NO}(hn:DM S w n)(hb:Below w.heap.size w w'):DM S w' n:=hn.turn (AO.ofBelow hb)
theorem GK.nodeO {q level:Nat}{es:List En}{was:List UInt8}{y:NO}(hL:GK J B S c h G q level es was w y S' w'):DM S' w' y:=by
 have h1:=hL.node S' (λk hk=>.inr hk)
 refine⟨h1,hL.new.2.2.1,hL.new.2.2.2,hL.ablt⟩
def CY (S:Nat->Prop)(w:World)(v:Value)(l:List UInt8):Prop:=A7 S w v l
theorem CY.turn {v:Value}{l:List UInt8}(hv:CY S w v l)(hT:AO S w S' w'):CY S' w' v l:=A7.kept hv hT.1 (λ_ _ h=>h) (λk hl h=>hT.2 k hl h)
theorem CY.below {v:Value}{l:List UInt8}(hv:CY S w v l)(hb:Below w.heap.size w w'):CY S w' v l:=hv.turn (AO.ofBelow hb)
def HiO (S:Nat->Prop)(w:World)(v:Value)(hi:Option (List UInt8)):Prop:=match hi with
 | none=>v=.slice none 0 0
 | some x=>x≠[]/\CY S w v x
theorem HiO.turn {v:Value}{hi:Option (List UInt8)}(hv:HiO S w v hi)(hT:AO S w S' w'):HiO S' w' v hi:=by
 cases hi with
 | none=>exact hv
 | some x=>exact⟨hv.1,hv.2.turn hT⟩
theorem HiO.below {v:Value}{hi:Option (List UInt8)}(hv:HiO S w v hi)(hb:Below w.heap.size w w'):HiO S w' v hi:=hv.turn (AO.ofBelow hb)
theorem DM.ent {n:NO}(hn:DM S w n){i:Nat}{e:En}(hi:n.ens[i]? = some e):∃b o kv vv,n.arr=some ⟨b,o,none⟩/\b<w.heap.size/\(∀j,w.frozen? ⟨b,j,none⟩=false)/\w.cell? ⟨b,o+i*2,none⟩=some kv/\w.cell? ⟨b,o+i*2+1,none⟩=some vv/\CY S w kv e.key/\CY S w vv e.val:=by
 obtain⟨b,o,kv,vv,h1,h2,h3,h4,h5,h6,h7⟩:=hn.1.ents.at_ hi;have f:∀{v:Value} {l:List UInt8},A7 (λk=>S k\/k=n.blk\/k=n.ab) w v l->CY S w v l:=λhv=>A7.kept hv (AC.ofBelow (S:=λ_=>False) (Below.refl _ w)) (λ_ _ h=>h.elim) (λk _ hk=>.inl hk)
 exact⟨b,o,kv,vv,h1,h2,h3,h4,h5,f h6,f h7⟩
def OQ (L:Nat)(lo:List UInt8)(i:Nat)(e:En):List UInt8:=if 0<L/\i=0 then lo else e.key
def G8 {L:Nat}(t:Tr L)(hi:Option (List UInt8))(i:Nat):Option (List UInt8):=match t.ens[i+1]? with
 | some e=>some e.key
 | none=>hi
theorem ZP:∀{L:Nat} {t:Tr L} {lo:List UInt8} {hi:Option (List UInt8)},CJ t->Ord t lo hi->∀{i:Nat} {e:En},t.ens[i]? = some e->le lo (OQ L lo i e)/\(∀x,G8 t hi i=some x->lt (OQ L lo i e) x)
 | 0,t,lo,hi,ht,ho,i,e,he=>by
  obtain⟨hb,hs,hin⟩:=AA9.1 ho;have hk:OQ 0 lo i e=e.key:=by unfold OQ;rw[if_neg (by omega)]
  rw[hk];have hm:=hin e (List.mem_of_getElem? he);refine⟨hm.1,λx hx=>?_⟩
  unfold G8 at hx;cases h1:t.ens[i+1]? with
  | none=>rw[h1]at hx;exact hm.2 x hx
  | some e2 =>
   rw[h1]at hx;cases hx;exact Chn.at_ hs he h1
 | L+1,t,lo,hi,ht,ho,i,e,he=>by
  obtain⟨hb,hok⟩:=B9.1 ho;rw[AZ,List.getElem?_map]at he;cases hk:t.ks[i]? with
  | none=>rw[hk]at he;cases he
  | some y =>
   rw[hk]at he;cases he;have hil:=(List.getElem?_eq_some_iff.1 hk).1;have hd:t.ks=t.ks.take i++y::t.ks.drop (i+1):=by
    have h1:t.ks.drop i=y::t.ks.drop (i+1):=by
     rw[List.drop_eq_getElem_cons hil];obtain⟨_,h2⟩:=List.getElem?_eq_some_iff.1 hk;rw[h2]
    rw[<-h1,List.take_append_drop]
   rw[hd]at hok;obtain⟨o1,o2,o3⟩:=(CD _ _ _).1 hok;have hkey:OQ (L+1) lo i (kEn y)=lof lo (t.ks.take i) y.1:=by
    unfold OQ lof;cases i with
    | zero=>rw[if_pos ⟨by omega,rfl⟩];rfl
    | succ i =>
     rw[if_neg (by omega)]
     have hne:t.ks.take (i+1)≠[]:=λe=>by
      have:=congrArg List.length e
      rw[List.length_take,List.length_nil]at this;omega
     cases h2:t.ks.take (i+1) with
     | nil=>exact absurd h2 hne
     | cons _ _=>rfl
   have hnx:∀x,G8 t hi i=some x->nxt (t.ks.drop (i+1)) hi=some x:=λx hx=>by
    unfold G8 at hx;rw[AZ,List.getElem?_map]at hx;cases h2:t.ks[i+1]? with
    | none =>
     rw[h2]at hx;rw[List.drop_eq_nil_of_le (List.getElem?_eq_none_iff.1 h2)];exact hx
    | some z =>
     rw[h2]at hx;cases hx;obtain⟨hz,h3⟩:=List.getElem?_eq_some_iff.1 h2;rw[List.drop_eq_getElem_cons hz,h3];rfl
   rw[hkey];refine⟨?_,λx hx=>o2.bd x (hnx x hx)⟩
   cases h2:t.ks.take i with
   | nil=>exact M0 _
   | cons a A =>
    rw[h2]at o1;exact (O0 o1 y.1 rfl).le
theorem AS1 {L:Nat}{t:Tr (L+1)}{lo:List UInt8}{hi:Option (List UInt8)}(ht:CJ t)(ho:Ord t lo hi){i:Nat}{e:En}(he:t.ens[i]? = some e):∃y:Kid L,e=kEn y/\y ∈ t.ks/\CJ y.2/\Ord y.2 (OQ (L+1) lo i e) (G8 t hi i):=by
 obtain⟨hb,hok⟩:=B9.1 ho;rw[AZ,List.getElem?_map]at he;cases hk:t.ks[i]? with
 | none=>rw[hk]at he;cases he
 | some y =>
  rw[hk]at he;cases he;have hil:=(List.getElem?_eq_some_iff.1 hk).1;have hm:y ∈ t.ks:=List.mem_of_getElem? hk;have hd:t.ks=t.ks.take i++y::t.ks.drop (i+1):=by
   have h1:t.ks.drop i=y::t.ks.drop (i+1):=by
    rw[List.drop_eq_getElem_cons hil];obtain⟨_,h2⟩:=List.getElem?_eq_some_iff.1 hk;rw[h2]
   rw[<-h1,List.take_append_drop]
  rw[hd]at hok;obtain⟨o1,o2,o3⟩:=(CD _ _ _).1 hok;refine⟨y,rfl,hm,(AL.1 ht.1).1.2 y hm,?_⟩;have hkey:OQ (L+1) lo i (kEn y)=lof lo (t.ks.take i) y.1:=by
   unfold OQ lof;cases i with
   | zero=>rw[if_pos ⟨by omega,rfl⟩];rfl
   | succ i =>
    rw[if_neg (by omega)]
    have hne:t.ks.take (i+1)≠[]:=λe=>by
     have:=congrArg List.length e
     rw[List.length_take,List.length_nil]at this;omega
    cases h2:t.ks.take (i+1) with
    | nil=>exact absurd h2 hne
    | cons _ _=>rfl
  have hnx:G8 t hi i=nxt (t.ks.drop (i+1)) hi:=by
   unfold G8;rw[AZ,List.getElem?_map];cases h2:t.ks[i+1]? with
   | none =>
    rw[List.drop_eq_nil_of_le (List.getElem?_eq_none_iff.1 h2)];rfl
   | some z =>
    obtain⟨hz,h3⟩:=List.getElem?_eq_some_iff.1 h2;rw[List.drop_eq_getElem_cons hz,h3];rfl
  rw[hkey,hnx];exact o2
theorem BR4 {L:Nat}{t:Tr L}{lo:List UInt8}{hi:Option (List UInt8)}(ht:CJ t)(ho:Ord t lo hi){i:Nat}{e x:En}(he:t.ens[i]? = some e)(hx:t.ens[i+1]? = some x):x.key≠[]:=λh0=>by
 have:=(ZP ht ho he).2 x.key (by unfold G8;rw[hx])
 rw[h0]at this;exact FC _ this
end
abbrev Vn:=Nat × Nat × Nat
def CA3:(L:Nat)->Tr L->List Vn
 | 0,t=>[(t.page,0,t.es.length)]
 | L+1,t=>(t.page,L+1,t.ks.length)::t.ks.flatMap λk=>CA3 L k.2
def Tr.vis {L:Nat}(t:Tr L):List Vn:=CA3 L t
def IJ {L:Nat}(ks:List (Kid L)):List Vn:=ks.flatMap λk=>k.2.vis
theorem PS (t:Tr 0):t.vis=[(t.page,0,t.ens.length)]:=rfl
theorem FL {L:Nat}(t:Tr (L+1)):t.vis=(t.page,L+1,t.ens.length)::IJ t.ks:=by
 rw[AZ,List.length_map];rfl
theorem F8 {L:Nat}(A B:List (Kid L)):IJ (A++B)=IJ A++IJ B:=by simp[IJ]
theorem JP {L:Nat}(a:Kid L):IJ [a]=a.2.vis:=by simp[IJ]
theorem OY {L:Nat}(a:Kid L):pgK [a]=a.2.pages:=by simp[pgK]
theorem GU:∀{L:Nat} {t:Tr L},t.vis.map (·.1)=t.pages
 | 0,t=>rfl
 | L+1,t=>by
  rw[FL,AQ,List.map_cons,IJ,pgK,List.map_flatMap];congr 2
  funext k
  exact GU
def E7:List Vn->Nat
 | []=>0
 | x::r=>(if x.2.1=0 then x.2.2 else 0)+E7 r
theorem AE2 (a b:List Vn):E7 (a++b)=E7 a+E7 b:=by
 induction a with
 | nil=>simp[E7]
 | cons x r ih=>simp only[List.cons_append,E7,ih];omega
theorem AX7 (a:List Vn)(x:Vn):E7 (a++[x])=E7 a+(if x.2.1=0 then x.2.2 else 0):=by rw[AE2];simp[E7]
theorem BZ2 {L:Nat}(ih:∀t:Tr L,E7 t.vis=t.flat.length)(ks:List (Kid L)):E7 (IJ ks)=(flK ks).length:=by
 induction ks with
 | nil=>rfl
 | cons a r ihr =>
  rw[show a::r=[a]++r from rfl,F8,DH,AE2,ihr,JP,ih,List.length_append]
  simp[flK]
theorem NJ:∀{L:Nat} (t:Tr L),E7 t.vis=t.flat.length
 | 0,t=>by rw[PS];simp[E7];rfl
 | L+1,t=>by
  rw[FL,B6];simp only[E7];rw[if_neg (by simp),Nat.zero_add]
  exact BZ2 NJ t.ks
def K6 (bb:Nat)(P:List Nat)(w:World):Prop:=∃cs:Array Value,w.heap[bb]? = some (.cells cs 197 (0,0))/\∀q,q<4096->cs[q]? = some (.bool (decide (q ∈ P)))
theorem K6.cell {bb:Nat}{P:List Nat}{w:World}(h:K6 bb P w){q:Nat}(hq:q<4096):w.cell? ⟨bb,q,none⟩=some (.bool (decide (q ∈ P))):=by
 obtain⟨cs,h1,h2⟩:=h;rw[yC h1];exact h2 q hq
theorem K6.lt {bb:Nat}{P:List Nat}{w:World}(h:K6 bb P w):bb<w.heap.size:=by
 obtain⟨cs,h1,_⟩:=h;exact (Array.getElem?_eq_some_iff.1 h1).1
theorem K6.free {bb:Nat}{P:List Nat}{w:World}(h:K6 bb P w)(i:Nat):w.frozen? ⟨bb,i,none⟩=false:=by
 obtain⟨cs,h1,_⟩:=h;simp[World.frozen?,h1]
theorem K6.kept {bb:Nat}{P:List Nat}{w w':World}{T:Nat->Prop}(h:K6 bb P w)(hk:AC T w w')(hT:¬T bb):K6 bb P w':=by
 have hl:=h.lt;obtain⟨cs,h1,h2⟩:=h;exact⟨cs,(hk.block bb hl hT).trans h1,h2⟩
theorem K6.set {bb:Nat}{P:List Nat}{w:World}(h:K6 bb P w){q:Nat}(hq:q<4096):K6 bb (P++[q]) (w.setCell ⟨bb,q,none⟩ (.bool true)):=by
 obtain⟨cs,h1,h2⟩:=h;refine⟨_,BW h1 _,λj hj=>?_⟩
 rw[Array.getElem?_setIfInBounds];by_cases hjq:q=j
 ·subst hjq;have hlt:q<cs.size:=(Array.getElem?_eq_some_iff.1 (h2 q hq)).1;rw[if_pos rfl,if_pos hlt];simp
 ·rw[if_neg hjq,h2 j hj];simp[Ne.symm hjq]
structure NZ (V:List Vn->(Nat->Prop)->World->Prop):Prop where
 kept:∀{acc:List Vn} {Z T:Nat->Prop} {w w':World},V acc Z w->AC T w w'->(∀k,k<w.heap.size->T k->¬Z k)->V acc Z w'
 lt:∀{acc:List Vn} {Z:Nat->Prop} {w:World},V acc Z w->∀k,Z k->1<=k/\k<w.heap.size
structure WkI (J:List AD->Prop)(B:Nat)(c:Ac)(h:Hd)(G:Nat->List UInt8)(bb:Nat)(V:List Vn->(Nat->Prop)->World->Prop)(X S:Nat->Prop)(acc:List Vn)(P:List Nat)(w:World):Prop where
 act:AU J B S c h G w
 sub:∀k,S k->X k
 lt:∀k,X k->k<w.heap.size
 been:K6 bb P w/\X bb/\¬S bb/\1<=bb
 vis:∃Z,V acc Z w/\∀k,Z k->X k/\¬S k/\k≠bb
section
variable {J:List AD->Prop} {B:Nat} {c:Ac} {h:Hd} {G:Nat->List UInt8} {bb:Nat} {V:List Vn->(Nat->Prop)->World->Prop} {X S:Nat->Prop} {acc:List Vn} {P:List Nat} {w w':World}
theorem WkI.below (hV:NZ V)(I:WkI J B c h G bb V X S acc P w)(hb:Below w.heap.size w w'):WkI J B c h G bb V X S acc P w':=by
 obtain⟨Z,h1,h2⟩:=I.vis;have hk:=AC.ofBelow (S:=λ_=>False) hb
 exact⟨I.act.below hb,I.sub,λk hk=>Nat.lt_of_lt_of_le (I.lt k hk) hb.size,⟨I.been.1.kept hk (λh=>h),I.been.2⟩,Z,hV.kept h1 hk (λ_ _ h=>h.elim),h2⟩
theorem WkI.mark (hV:NZ V)(I:WkI J B c h G bb V X S acc P w){q:Nat}(hq:q<4096):WkI J B c h G bb V X S acc (P++[q]) (w.setCell ⟨bb,q,none⟩ (.bool true))/\AO X w X (w.setCell ⟨bb,q,none⟩ (.bool true)):=by
 obtain⟨Z,h1,h2⟩:=I.vis;obtain⟨b1,b2,b3,b4⟩:=I.been;have hk:=AC.setCell (λk=>k=bb) w (b:=bb) (i:=q) rfl (.bool true)
 refine⟨⟨I.act.kept hk (λk e _=>e ▸ ⟨b3,b4⟩),I.sub,λk hx=>Nat.lt_of_lt_of_le (I.lt k hx) hk.size,⟨b1.set hq,b2,b3,b4⟩,Z,hV.kept h1 hk (λk _ e hz=>(h2 k hz).2.2 e),h2⟩,hk.mono (λk e=>e ▸ b2),λ_ _ hx=>hx⟩
theorem WkI.acted (hV:NZ V)(I:WkI J B c h G bb V X S acc P w){S':Nat->Prop}(hA:AU J B S' c h G w')(hT:AO S w S' w'):WkI J B c h G bb V (λk=>X k\/S' k) S' acc P w'/\AO X w (λk=>X k\/S' k) w':=by
 obtain⟨Z,h1,h2⟩:=I.vis;obtain⟨b1,b2,b3,b4⟩:=I.been;refine⟨⟨hA,λk hs=>.inr hs,λk hk=>hk.elim (λhx=>Nat.lt_of_lt_of_le (I.lt k hx) hT.1.size) (λhs=>(hA.low k hs).2),⟨b1.kept hT.1 b3,.inl b2,hT.not b1.lt b3,b4⟩,Z,hV.kept h1 hT.1 (λk _ hs hz=>(h2 k hz).2.1 hs),λk hz=>⟨.inl (h2 k hz).1,hT.not (hV.lt h1 k hz).2 (h2 k hz).2.1,(h2 k hz).2.2⟩⟩,hT.1.mono I.sub,λk hl hk=>hk.elim id λhs=>I.sub k (hT.2 k hl hs)⟩
theorem GK.nodeX {S':Nat->Prop}{q level:Nat}{es:List En}{was:List UInt8}{y:NO}(hlt:∀k,X k->k<w.heap.size)(hL:GK J B S c h G q level es was w y S' w'):DM (λk=>X k\/S' k) w' y:=by
 refine⟨hL.node (λk=>X k\/S' k) (λk hk=>hk.imp (hlt k) id),λhx=>?_,λhx=>?_,hL.ablt⟩
 ·rcases hx with hx|hx
  ·have:=hlt _ hx;have:=hL.new.1;omega
  ·exact hL.new.2.2.1 hx
 ·rcases hx with hx|hx
  ·have:=hlt _ hx;have:=hL.new.2.1;omega
  ·exact hL.new.2.2.2 hx
end
section
variable {J:List AD->Prop} {B:Nat} {c:Ac} {h:Hd} {G:Nat->List UInt8} {bb ab tb r:Nat} {V:List Vn->(Nat->Prop)->World->Prop} {X S:Nat->Prop} {acc:List Vn} {P:List Nat} {w wr:World} {n0:NO} {av:Nat->List Vn} {pv:Nat->List Nat}
def N0 (V:List Vn->(Nat->Prop)->World->Prop)(ab:Nat):Prop :=
 ∀(acc:List Vn) (Z X:Nat->Prop) (w:World) (n:NO),V acc Z w->AM X w n->acc.length<=4095->Calls Tryz.prog 88 #[n.ptr,.pointer (some ⟨ab,0,none⟩)] w λe w'=>e=.returned (.tuple #[])/\∃Z',V (acc++[(n.page,n.level,n.ens.length)]) Z' w'/\AO Z w Z' w'
def KU (ab:Nat):Value:=.func (.func 88) #[] #[.pointer (some ⟨ab,0,none⟩)]
def Q9 (J:List AD->Prop)(B:Nat)(c:Ac)(h:Hd)(G:Nat->List UInt8)(bb ab tb r:Nat)(V:List Vn->(Nat->Prop)->World->Prop)(n0:NO)(av:Nat->List Vn)(pv:Nat->List Nat):Prop :=
 ∀(i:Nat) (e:En) (X S:Nat->Prop) (W:World),n0.ens[i]? = some e->WkI J B c h G bb V X S (av i) (pv i) W->AH W tb c.a r->¬X tb->DM X W n0->e.val.length=2/\e.child<4096/\e.child ∉ pv i /\
  Calls Tryz.prog 114 #[.pointer (some ⟨tb,0,none⟩),n0.ptr,.int .i64 i] W λe w5=>∃yb:Nat,e=.returned (.pointer (some ⟨yb,0,none⟩))/\Calls Tryz.prog 127 #[.pointer (some ⟨tb,0,none⟩),.pointer (some ⟨yb,0,none⟩),.pointer (some ⟨bb,0,none⟩),KU ab] w5 λe w6=>e=.returned (.tuple #[])/\∃X' S',WkI J B c h G bb V X' S' (av (i+1)) (pv (i+1)) w6/\AO X W X' w6
def FE (J:List AD->Prop)(B:Nat)(c:Ac)(h:Hd)(G:Nat->List UInt8)(bb:Nat)(V:List Vn->(Nat->Prop)->World->Prop)(X:Nat->Prop)(w:World)(al:List Vn)(pl:List Nat)(wr:World):Prop:=∃X' S',WkI J B c h G bb V X' S' al pl wr/\AO X w X' wr
def NB (J:List AD->Prop)(B:Nat)(c:Ac)(h:Hd)(G:Nat->List UInt8)(bb ab tb:Nat)(V:List Vn->(Nat->Prop)->World->Prop)(X:Nat->Prop)(w:World)(nb:Nat)(av:Nat->List Vn)(pv:Nat->List Nat)(k q:Nat)(wr:World):Prop :=
 Calls Tryz.prog 152 #[.pointer (some ⟨nb,0,none⟩),.int .i64 k] wr.drew λe w4=>e=.returned (.int .i64 q)/\w4.cell? ⟨bb,q,none⟩=some (.bool false) /\
  Hid (∀W,Below w4.heap.size w4 W->Calls Tryz.prog 114 #[.pointer (some ⟨tb,0,none⟩),.pointer (some ⟨nb,0,none⟩),.int .i64 k] W λe w5=>∃yb:Nat,e=.returned (.pointer (some ⟨yb,0,none⟩)) /\
   Hid (Calls Tryz.prog 127 #[.pointer (some ⟨tb,0,none⟩),.pointer (some ⟨yb,0,none⟩),.pointer (some ⟨bb,0,none⟩),.func (.func 88) #[] #[.pointer (some ⟨ab,0,none⟩)]] w5 λe w6=>e=.returned (.tuple #[])/\Hid (FE J B c h G bb V X w (av (k+1)) (pv (k+1)) w6)))
theorem RK (hV:NZ V)(hrec:Q9 J B c h G bb ab tb r V n0 av pv)(ht:AH w tb c.a r)(htX:¬X tb)(hn:DM X w n0){k:Nat}(hk:k<n0.ens.length)(H:FE J B c h G bb V X w (av k) (pv k) wr) :
  ∃q,q<4096/\wr.drew.cell? ⟨bb,q,none⟩=some (.bool false)/\NB J B c h G bb ab tb V X w n0.blk av pv k q wr:=by
 obtain⟨X',S',I,hT⟩:=H;have he:n0.ens[k]? = some n0.ens[k]:=List.getElem?_eq_getElem hk;have hn':=hn.turn hT;have ht':=ht.kept hT.1 htX;have htX':=hT.not ht.lt htX;obtain⟨e1,e2,e3,_⟩:=hrec k _ X' S' wr he I ht' htX' hn';refine⟨n0.ens[k].child,e2,by rw[(I.below hV (Below.refl wr.heap.size wr).drew).been.1.cell e2];simp[e3],?_⟩
 have hbd:Below wr.heap.size wr wr.drew:=(Below.refl _ _).drew;refine (F6 _ n0 k n0.ens[k] wr.drew (hn'.below hbd).1 he e1).mono ?_;rintro e w4 ⟨rfl,m,rfl⟩;have hb4:Below wr.heap.size wr (wr.drew.drewN m):=hbd.trans ((AF wr.drew m).mono hbd.size);refine⟨rfl,?_,yH λW hb=>?_⟩
 ·rw[(I.below hV hb4).been.1.cell e2];simp[e3]
 ·have hbW:Below wr.heap.size wr W:=hb4.trans (hb.mono hb4.size);obtain⟨_,_,_,hB⟩:=hrec k _ X' S' W he (I.below hV hbW) (ht'.below hbW) htX' (hn'.below hbW);refine hB.mono ?_;rintro e w5 ⟨yb,rfl,hW⟩;refine⟨yb,rfl,yH (Calls.mono hW ?_)⟩;rintro e w6 ⟨rfl,X2,S2,I2,hT2⟩;exact⟨rfl,yH ⟨X2,S2,I2,(hT.trans (AO.ofBelow hbW)).trans hT2⟩⟩
theorem JO (hV:NZ V)(hC:N0 V ab)(hrec:0<n0.level->Q9 J B c h G bb ab tb r V n0 av pv)(I:WkI J B c h G bb V X S acc P w)(ht:AH w tb c.a r)(htX:¬X tb)(hn:DM X w n0)(hne:n0.ens≠[])(hfew:acc.length<=4095)(hav:av 0=acc++[(n0.page,n0.level,n0.ens.length)])(hpv:pv 0=P++[n0.page]) :
  Calls Tryz.prog 127 #[.pointer (some ⟨tb,0,none⟩),n0.ptr,.pointer (some ⟨bb,0,none⟩),KU ab] w λe w'=>e=.returned (.tuple #[])/\FE J B c h G bb V X w (av (if n0.level=0 then 0 else n0.ens.length)) (pv (if n0.level=0 then 0 else n0.ens.length)) w':=by
 have hpg:=hn.1.small.1;have hb0:=I.been.1.cell hpg;have hfz:=I.been.1.free n0.page;have hbl:=I.been.1.lt;obtain⟨oldv,hov⟩:∃v,v=Value.bool (decide (n0.page ∈ P)):=⟨_,rfl⟩;rw[<-hov]at hb0;obtain⟨I1,hT1⟩:=I.mark hV hpg;have HVIS:Hid (∀W,Below (w.setCell ⟨bb,n0.page,none⟩ (.bool true)).heap.size (w.setCell ⟨bb,n0.page,none⟩ (.bool true)) W->Calls Tryz.prog 88 #[n0.ptr,.pointer (some ⟨ab,0,none⟩)] W λe w2=>e=.returned (.tuple #[])/\w2.cell? ⟨n0.blk,1,none⟩=some (.int .i64 n0.level)/\w2.cell? ⟨n0.blk,2,none⟩=some (.slice n0.arr n0.ens.length n0.cap)/\Hid (FE J B c h G bb V X w (av 0) (pv 0) w2)):=yH λW hb=>by
  have I2:=I1.below hV hb;have hT2:=hT1.trans (AO.ofBelow hb);have hn2:=hn.turn hT2;obtain⟨Z,v1,v2⟩:=I2.vis;refine (hC acc Z _ W n0 v1 hn2.1 hfew).mono ?_;rintro e w2 ⟨rfl,Z',v3,v4⟩;have hx:∃X',WkI J B c h G bb V X' S (acc++[(n0.page,n0.level,n0.ens.length)]) (P++[n0.page]) w2/\AO X W X' w2:=by
   have hz:=v4.1.size;obtain⟨b1,b2,b3,b4⟩:=I2.been;have hlo:=I2.act.low;have hnew:∀k,Z' k->(X k/\¬S k/\k≠bb)\/W.heap.size<=k:=λk hk=>by
    rcases Nat.lt_or_ge k W.heap.size with hl|hg
    ·exact .inl (v2 k (v4.2 k hl hk))
    ·exact .inr hg
   refine⟨λk=>X k\/Z' k,⟨I2.act.kept v4.1 (λk hk _=>⟨(v2 k hk).2.1,(hV.lt v1 k hk).1⟩),λk hs=>.inl (I2.sub k hs),λk hk=>hk.elim (λhx=>Nat.lt_of_lt_of_le (I2.lt k hx) hz) (λhz'=>(hV.lt v3 k hz').2),⟨b1.kept v4.1 (λhz'=>(v2 bb hz').2.2 rfl),.inl b2,b3,b4⟩,Z',v3,λk hk=>?_⟩,v4.1.mono (λk hk=>(v2 k hk).1),λk hl hk=>hk.elim id λhk=>(v2 k (v4.2 k hl hk)).1⟩
   rcases hnew k hk with⟨_,e2,e3⟩|hg
   ·exact⟨.inr hk,e2,e3⟩
   ·exact⟨.inr hk,λhs=>by have:=(hlo k hs).2;omega,λe=>by have:=I2.lt bb b2;omega⟩
  obtain⟨X',I3,hT3⟩:=hx;have hn3:=hn2.turn hT3;exact⟨rfl,hn3.1.c1,hn3.1.c2,yH ⟨X',S,by rw[hav,hpv];exact I3,hT2.trans hT3⟩⟩
 have HRD:Hid (0<n0.level->∀(k:Nat) (wr:World),k<n0.ens.length->FE J B c h G bb V X w (av k) (pv k) wr->∃q,q<4096/\wr.drew.cell? ⟨bb,q,none⟩=some (.bool false)/\NB J B c h G bb ab tb V X w n0.blk av pv k q wr):=yH λh0 k wr hk H=>RK hV (hrec h0) ht htX hn hk H
 have hlen:1<=n0.ens.length:=List.length_pos_iff.2 hne;have h512:=hn.1.short.1;have c0:=hn.1.c0;have c1:=hn.1.c1;have c2:=hn.1.c2;have HV:=yH hV;clear hC hrec I ht htX hn hne hfew hav hpv I1 hT1 hov hV;unfold NO.ptr at HVIS ⊢
 unfold KU;obtain⟨nb,hnb⟩:∃nb,nb=n0.blk:=⟨_,rfl⟩;obtain⟨N,hN⟩:∃N,N=n0.ens.length:=⟨_,rfl⟩;obtain⟨ar,har⟩:∃ar,ar=n0.arr:=⟨_,rfl⟩;obtain⟨cp,hcp⟩:∃cp,cp=n0.cap:=⟨_,rfl⟩;obtain⟨q0,hq0⟩:∃q0,q0=n0.page:=⟨_,rfl⟩;obtain⟨Lv,hLv⟩:∃Lv,Lv=n0.level:=⟨_,rfl⟩;rw[<-hnb,<-hN,<-har,<-hcp,<-hq0,<-hLv]at HVIS;rw[<-hnb,<-hN,<-hLv]at HRD;rw[<-hnb]at c0 c1 c2 ⊢
 rw[<-hN]at hlen h512 c2 ⊢
 rw[<-har,<-hcp]at c2;rw[<-hq0]at c0 hpg hb0 hfz;rw[<-hLv]at c1 ⊢
 clear hnb hN har hcp hq0 hLv;obtain⟨M,hM⟩:∃M,M=if Lv=0 then 0 else N:=⟨_,rfl⟩
 rw[<-hM];have HM:=yH hM;clear hM;have f1:¬((N:Int)=0):=by omega
 have f2:(0:Int)<=(q0:Int):=by omega
 have f3:(q0:Int)<4096:=by omega
 go_enter Tryz.func127,Tryz.ntmps127;go_wp2_with fail;go_still_tail 7,(by kernel_rfl)
 go_wp2_with fail;refine (HVIS.out _ (Below.refl _ _).drew).mono ?_;rintro e w2 ⟨rfl,d1,d2,HW2⟩;clear HVIS c0 c1 c2 hb0 hfz;by_cases hl:Lv=0
 ·subst hl;obtain rfl:M=0:=by rw[HM.out];rfl
  rw[show ((0:Nat):Int)=0 from rfl]at d1
  clear HRD;go_wp2;exact bodyPost_ret (v:=.tuple #[]) (by simp[results,Tryz.results127,go_sem]) rfl ⟨rfl,HW2.out⟩
 ·have f4:¬((Lv:Int)=0):=by omega
  have f5:((Lv:Int) == 0)=false:=by simp;omega
  obtain rfl:M=N:=by rw[HM.out,if_neg hl]
  have HR:=yH (HRD.out (by omega))
  clear HRD hl;go_wp2;go_loopw [35] (λi wr=>∃k:Nat,k<=M/\i=.int .i64 k/\Hid (FE J B c h G bb V X w (av k) (pv k) wr)) (λi _=>M-(intOf i).toNat)
  case atStart=>exact⟨0,by omega,rfl,HW2⟩
  case round =>
   obtain⟨k,hk,rfl,HW⟩:=hrel;by_cases hkn:k<M
   ·obtain⟨q,hq,hs0,hR⟩:=HR.out k wr hkn HW.out;have HRR:=yH hR;have HS0:=yH hs0;have HQ:Hid (∀W:World,W.cell? ⟨bb,q,none⟩=some (.bool false)->W.cell? ⟨bb,q,none⟩=some (.bool false)):=yH λ_ h=>h
    clear hs0;have g1:(k:Int)<(M:Int):=by omega
    have g2:(0:Int)<=(q:Int):=by omega
    have g3:(q:Int)<4096:=by omega
    clear hR HR HW HW2 d1 d2;go_wp2;refine BS (S:=λW=>W.cell? ⟨bb,q,none⟩=some (.bool false)) [] (by kernel_rfl) ?_
    refine AJ.take (i:=0) (v:=.pointer (some ⟨bb,0,none⟩)) rfl (by kernel_rfl) (by kernel_rfl) (by kernel_rfl) (by kernel_rfl) (λ_ _ _ h=>h) (Or.inl ⟨by rfl,λW hW=>by go_simp⟩) HS0.out ?_
    refine AJ.take (i:=1) (v:=.pointer (some ⟨nb,0,none⟩)) rfl (by kernel_rfl) (by kernel_rfl) (by kernel_rfl) (by kernel_rfl) (λ_ _ _ h=>h) (Or.inl ⟨by rfl,λW hW=>by go_simp⟩) HS0.out ?_
    refine AJ.take (i:=2) (v:=.int .i64 k) rfl (by kernel_rfl) (by kernel_rfl) (by kernel_rfl) (by kernel_rfl) (λ_ _ _ h=>h) (Or.inl ⟨by rfl,λW hW=>by go_simp⟩) HS0.out ?_
    refine AJ.take (i:=4) (v:=.pointer (some ⟨bb,0,none⟩)) rfl (by kernel_rfl) (by kernel_rfl) (by kernel_rfl) (by kernel_rfl) (λ_ _ _ h=>h) (Or.inl ⟨by rfl,λW hW=>by go_simp⟩) HS0.out ?_
    refine AJ.ready (rs:=[3]) (by kernel_rfl) (by simp) ?_
    refine AI.cons rfl (λK' hK=>?_) AI.nil
    go_simp
    go_at_call 152;refine HRR.out.mono ?_;rintro e w4 ⟨rfl,hs4,HB4⟩;have HS4:=yH hs4;clear HRR hs4;refine hK.out _ _ (λ_=>HS4.out) ?_
    clear hK K';refine AJ.ready (rs:=[5]) (by kernel_rfl) (by simp) ?_
    refine AI.cons rfl (λK' hK=>?_) AI.nil
    go_simp
    refine hK.out _ _ (λ_=>HS4.out) ?_
    clear hK K';refine AJ.ready (rs:=[6]) (by kernel_rfl) (by simp) ?_
    refine AI.cons rfl (λK' hK=>?_) AI.nil
    have x1:=HS4.out;go_simp
    clear x1;refine hK.out _ _ (λ_=>HS4.out) ?_
    clear hK K';refine AJ.ready (rs:=[7]) (by kernel_rfl) (by simp) ?_
    refine AI.cons rfl (λK' hK=>?_) AI.nil
    go_simp
    refine hK.out _ _ (λ_=>HS4.out) ?_
    clear hK K';refine AJ.done (by kernel_rfl) ?_ _
    clear HS0 HS4 HQ;have HB5:=yH (HB4.out w4 (Below.refl _ _));clear HB4;go_wp2_with fail;refine HB5.out.mono ?_;rintro e w5 ⟨yb,rfl,HWK⟩;clear HB5;go_wp2_with fail;refine HWK.out.mono ?_;rintro e w6 ⟨rfl,HG6⟩;clear HWK;go_wp2;go_roundw
    case rel=>exact⟨k+1,by omega,by go_num,HG6⟩
    case measure=>simp[intOf];omega
   ·obtain rfl:k=M:=by omega
    clear HR HW2 d1 d2;go_wp2;go_end0
    exact⟨rfl,HW.out⟩
end
section
variable {J:List AD->Prop} {B:Nat} {c:Ac} {h:Hd} {G:Nat->List UInt8} {bb ab tb r:Nat} {V:List Vn->(Nat->Prop)->World->Prop}
theorem K7 (hV:NZ V)(hC:N0 V ab):∀{L:Nat} {t:Tr L} {n0:NO} {X S:Nat->Prop} {acc:List Vn} {P:List Nat} {w:World},WkI J B c h G bb V X S acc P w->AH w tb c.a r->¬X tb->DM X w n0->(n0.page=t.page/\n0.level=L/\n0.ens=t.ens)->CJ t->Rep (FF h G) t->(P++t.pages).Nodup->acc.length+t.vis.length<=4096 ->
  Calls Tryz.prog 127 #[.pointer (some ⟨tb,0,none⟩),n0.ptr,.pointer (some ⟨bb,0,none⟩),KU ab] w λe w'=>e=.returned (.tuple #[])/\FE J B c h G bb V X w (acc++t.vis) (P++t.pages) w'
 | 0,t,n0,X,S,acc,P,w,I,ht,htX,hn,his,htd,hR,hnd,hfew=>by
  rw[PS]at hfew ⊢
  have:=JO (av:=λ_=>acc++[(t.page,0,t.ens.length)]) (pv:=λ_=>P++[t.page]) hV hC (λh0=>absurd h0 (by rw[his.2.1];omega)) I ht htX hn (by rw[his.2.2];exact htd.2.1) (by simp at hfew;omega) (by rw[his.1,his.2.1,his.2.2]) (by rw[his.1])
  exact this
 | L+1,t,n0,X,S,acc,P,w,I,ht,htX,hn,his,htd,hR,hnd,hfew=>by
  have htk:=(AL.1 htd.1).1;have hlen:n0.ens.length=t.ks.length:=by rw[his.2.2,AZ,List.length_map]
  have hstep:=JO (av:=λi=>(acc++[(t.page,L+1,t.ens.length)])++IJ (t.ks.take i)) (pv:=λi=>(P++[t.page])++pgK (t.ks.take i)) hV hC (λ_=>?_) I ht htX hn (by rw[his.2.2];exact htd.2.1) (by rw[FL]at hfew;simp at hfew;omega) (by rw[his.1,his.2.1,his.2.2];simp[IJ]) (by rw[his.1];simp[pgK])
  ·rw[if_neg (by rw[his.2.1];omega),hlen,List.take_length,List.append_assoc,List.append_assoc,List.singleton_append,List.singleton_append,<-FL,<-AQ]at hstep
   exact hstep
  ·intro i e X' S' W he I' ht' htX' hn';have hi:i<t.ks.length:=by
    have:=(List.getElem?_eq_some_iff.1 he).1
    rw[his.2.2,AZ,List.length_map]at this;exact this
   obtain⟨y,hy⟩:∃y,y=t.ks[i]:=⟨_,rfl⟩;have hek:e=kEn y:=by
    rw[his.2.2,AZ,List.getElem?_map,List.getElem?_eq_getElem hi,<-hy]at he;exact (Option.some.inj he).symm
   subst hek;have hym:y ∈ t.ks:=by rw[hy];exact List.getElem_mem _
   have hty:=htk.2 y hym;obtain⟨q1,q2,q3⟩:=(hR.kid y hym).at_;have hp:=I'.act.has_lt q1;have hc:(kEn y).child=y.2.page:=CV y (by omega)
   have hsplit:t.ks=t.ks.take i++([y]++t.ks.drop (i+1)):=by
    rw[hy,List.singleton_append,<-List.drop_eq_getElem_cons hi,List.take_append_drop]
   have htake:t.ks.take (i+1)=t.ks.take i++[y]:=by rw[hy];exact List.take_succ_eq_append_getElem hi
   have hnd2:(((P++[t.page])++pgK (t.ks.take i))++y.2.pages).Nodup:=by
    have h1:P++t.pages=(((P++[t.page])++pgK (t.ks.take i))++y.2.pages)++pgK (t.ks.drop (i+1)):=by
     rw[AQ];conv=>lhs;rw[hsplit]
     rw[A8,A8,OY];simp
    rw[h1,List.nodup_append]at hnd;exact hnd.1
   have hfew2:((acc++[(t.page,L+1,t.ens.length)])++IJ (t.ks.take i)).length+y.2.vis.length<=4096:=by
    have h1:acc++t.vis=(((acc++[(t.page,L+1,t.ens.length)])++IJ (t.ks.take i))++y.2.vis)++IJ (t.ks.drop (i+1)):=by
     rw[FL];conv=>lhs;rw[hsplit]
     rw[F8,F8,JP];simp
    have h2:=congrArg List.length h1;rw[List.length_append,List.length_append,List.length_append]at h2;omega
   refine⟨rfl,by rw[hc];exact hp.2,λhm=>?_,?_⟩
   ·rw[hc]at hm;exact (List.nodup_append.1 hnd2).2.2 _ hm _ (AS y.2) rfl
   ·refine (GH I'.act ht' _ n0 hn'.1 (λhs=>hn'.2.1 (I'.sub _ hs)) i (kEn y) he rfl L y.2.ens his.2.1 (by rw[hc];exact q1) (by rw[hc];exact q2) q3).mono ?_
    rintro e w5 ⟨yn,S5,rfl,hL⟩;obtain⟨I5,hT5⟩:=I'.acted hV hL.act hL.turn;refine⟨yn.blk,rfl,?_⟩;refine (K7 hV hC I5 (ht'.kept hL.turn.1 (λhs=>htX' (I'.sub _ hs))) (hT5.not ht'.lt htX') (hL.nodeX I'.lt) ⟨hL.info.1.trans hc,hL.info.2.1,hL.info.2.2.1⟩ hty (hR.kid y hym) hnd2 hfew2).mono ?_
    rintro e w6 ⟨rfl,X6,S6,I6,hT6⟩;refine⟨rfl,X6,S6,?_,hT5.trans hT6⟩;dsimp only
    rw[htake,F8,JP,A8,OY,<-List.append_assoc,<-List.append_assoc];exact I6
end
def AY6 (nb:Nat)(acc:List Vn)(Z:Nat->Prop)(w:World):Prop:=w.heap[nb]? = some (.cells #[.int .i64 (E7 acc)] 3 (0,0))/\E7 acc<=512*acc.length/\1<=nb/\Z=λk=>k=nb
theorem BV8 (nb:Nat):NZ (AY6 nb):=by
 refine⟨λ{acc Z T w w'} h hk hT=>?_,λ{acc Z w} h k hz=>?_⟩
 ·obtain⟨h1,h2,h3,rfl⟩:=h;have hlt:nb<w.heap.size:=(Array.getElem?_eq_some_iff.1 h1).1;exact⟨(hk.block nb hlt (λht=>hT nb hlt ht rfl)).trans h1,h2,h3,rfl⟩
 ·obtain⟨h1,h2,h3,rfl⟩:=h;obtain rfl:k=nb:=hz;exact⟨h3,(Array.getElem?_eq_some_iff.1 h1).1⟩
theorem BV9 (nb:Nat)(acc:List Vn)(Z X:Nat->Prop)(w:World)(n:NO)(hv:AY6 nb acc Z w)(hn:AM X w n)(hf:acc.length<=4095) :
  Calls Tryz.prog 87 #[n.ptr,.pointer (some ⟨nb,0,none⟩)] w λe w'=>e=.returned (.tuple #[])/\∃Z',AY6 nb (acc++[(n.page,n.level,n.ens.length)]) Z' w'/\AO Z w Z' w':=by
 obtain⟨h1,h2,h3,rfl⟩:=hv;have c1:=hn.c1;have c2:=hn.c2;have h512:=hn.short.1;have d0:w.cell? ⟨nb,0,none⟩=some (.int .i64 (E7 acc)):=by rw[yC h1];rfl
 have d1:w.frozen? ⟨nb,0,none⟩=false:=by simp[World.frozen?,h1]
 have hcv:=AX7 acc (n.page,n.level,n.ens.length);have hlen:(acc++[(n.page,n.level,n.ens.length)]).length=acc.length+1:=by simp
 by_cases hl:n.level=0
 ·have HE:Hid (∃Z',AY6 nb (acc++[(n.page,n.level,n.ens.length)]) Z' (w.setCell ⟨nb,0,none⟩ (.int .i64 ((E7 acc:Int)+(n.ens.length:Int)))).drew/\AO (λk=>k=nb) w Z' (w.setCell ⟨nb,0,none⟩ (.int .i64 ((E7 acc:Int)+(n.ens.length:Int)))).drew):=yH (by
   have hcv':E7 (acc++[(n.page,n.level,n.ens.length)])=E7 acc+n.ens.length:=by rw[hcv];exact congrArg _ (if_pos hl)
   have hset:=BW (i:=0) h1 (.int .i64 ((E7 acc:Int)+(n.ens.length:Int)));refine⟨_,⟨?_,?_,h3,rfl⟩,?_⟩
   ·show (w.setCell ⟨nb,0,none⟩ _).heap[nb]? = _;rw[hset,hcv'];rfl
   ·rw[hcv',hlen];omega
   ·exact⟨(AC.setCell (λk=>k=nb) w (b:=nb) (i:=0) rfl _).trans (AC.ofBelow (S:=λk=>k=nb) (Below.refl _ _).drew) (λ_ e=>.inl e),λ_ _ h=>h⟩)
  obtain⟨N,hN⟩:∃N,N=n.ens.length:=⟨_,rfl⟩;obtain⟨m,hm⟩:∃m,m=E7 acc:=⟨_,rfl⟩;rw[hl]at c1;rw[<-hN]at c2 h512;rw[<-hm]at d0 h2;rw[<-hN,<-hm]at HE;rw[<-hN];have f1:IntKind.i64.wrap ((m:Int)+(N:Int))=(m:Int)+(N:Int):=IntWalk.i64_in _ (by omega)
  unfold NO.ptr;obtain⟨xb,hxb⟩:∃xb,xb=n.blk:=⟨_,rfl⟩;rw[<-hxb]at c1 c2 ⊢
  clear h1 hn hcv hlen hl hN hm hxb;rw[show ((0:Nat):Int)=0 from rfl]at c1
  go_enter Tryz.func87,Tryz.ntmps87;go_wp2;go_still_tail 7,(by kernel_rfl)
  go_wp2;go_end0
  exact⟨rfl,HE.out⟩
 ·have f0:¬((n.level:Nat):Int)=0:=by omega
  have hcv':E7 (acc++[(n.page,n.level,n.ens.length)])=E7 acc:=by rw[hcv];exact congrArg _ (if_neg hl)
  have HE:Hid (∃Z',AY6 nb (acc++[(n.page,n.level,n.ens.length)]) Z' w/\AO (λk=>k=nb) w Z' w):=yH ⟨_,⟨by rw[h1,hcv'],by rw[hcv',hlen];omega,h3,rfl⟩,AO.refl _ _⟩
  unfold NO.ptr;obtain⟨xb,hxb⟩:∃xb,xb=n.blk:=⟨_,rfl⟩;rw[<-hxb]at c1 c2 ⊢
  clear h1 hn hcv hlen hl hxb hcv';go_enter Tryz.func87,Tryz.ntmps87;go_wp2;go_end0
  exact⟨rfl,HE.out⟩
def pgC (acc:List Vn):List Value:=acc.map λx=>.int .i64 x.1
def ME (lb:Nat)(acc:List Vn)(Z:Nat->Prop)(w:World):Prop:=∃v:Value,w.heap[lb]? = some (.cells #[v] 57 (0,0))/\w.ownsRow 0 3 1 v acc.length (pgC acc)/\(∀g,v.ownBlock=some g->g≠lb/\1<=g)/\1<=lb/\Z=λk=>k=lb\/v.ownBlock=some k
theorem AZ6 (lb:Nat):NZ (ME lb):=by
 refine⟨λ{acc Z T w w'} h hk hT=>?_,λ{acc Z w} h k hz=>?_⟩
 ·obtain⟨v,h1,h2,h3,h4,rfl⟩:=h;have hlt:lb<w.heap.size:=(Array.getElem?_eq_some_iff.1 h1).1;refine⟨v,(hk.block lb hlt (λht=>hT lb hlt ht (.inl rfl))).trans h1,AG h2 λk hk'=>hk.block k (h2.lt k hk').2 (λht=>hT k (h2.lt k hk').2 ht (.inr hk')),h3,h4,rfl⟩
 ·obtain⟨v,h1,h2,h3,h4,rfl⟩:=h;rcases hz with rfl|hz
  ·exact⟨h4,(Array.getElem?_eq_some_iff.1 h1).1⟩
  ·exact⟨(h3 k hz).2,(h2.lt k hz).2⟩
theorem BH2:(Tryz.prog.info? 3).map (λi=>(i.zero,i.size,i.bytes))=some (some (.int .i64 0),1,8):=by kernel_rfl
theorem Y7 {lb:Nat}{acc:List Vn}{Z X:Nat->Prop}{w:World}{n:NO}(hv:ME lb acc Z w)(hn:AM X w n)(hf:acc.length<=4095) :
  ∃v,w.cell? ⟨lb,0,none⟩=some v/\∃v2 w2,(∃a2 n2 c2,v2=.slice a2 n2 c2)/\(Builtin.append_ #[57,57] 57 #[v,.slice (some ⟨w.heap.size,0,none⟩) 1 1]).run Tryz.prog (w.alloc (.cells #[.int .i64 n.page] 3)).drew=.ok v2 w2/\(w2.cell? ⟨lb,0,none⟩=some v/\w2.cell? ⟨n.blk,0,none⟩=some (.int .i64 n.page))/\w2.frozen? ⟨lb,0,none⟩=false/\lb<w2.heap.size /\
   ∃Z',ME lb (acc++[(n.page,n.level,n.ens.length)]) Z' (w2.setCell ⟨lb,0,none⟩ v2)/\AO Z w Z' (w2.setCell ⟨lb,0,none⟩ v2):=by
 obtain⟨v,h1,h2,h3,h4,rfl⟩:=hv;have hlt:lb<w.heap.size:=(Array.getElem?_eq_some_iff.1 h1).1;obtain⟨i0,hi,q0,q1,q2⟩:=info_parts BH2;obtain⟨wa,hwa⟩:∃wa,wa=(w.alloc (.cells #[.int .i64 n.page] 3)).drew:=⟨_,rfl⟩;have hba:Below w.heap.size w wa:=by rw[hwa];exact ((Below.refl _ w).alloc (Nat.le_refl _) _).drew
 have hz:wa.heap.size=w.heap.size+1:=by rw[hwa];show (w.alloc _).heap.size=_;simp
 have hnew:wa.heap[w.heap.size]? = some (.cells #[.int .i64 n.page] 3 (0,0)):=by rw[hwa];exact heap_alloc_new w _
 have h2a:wa.ownsRow 0 3 1 v acc.length (pgC acc):=AG h2 λk hk'=>hba.block k (h2.lt k hk').2
 obtain⟨v2,w2,hr,h5,h6⟩:=DZ wa 57 57 3 i0 (.int .i64 0) 1 8 Tryz.underlying57 hi q0 q1 q2 rfl (by decide) v acc.length (pgC acc) h2a ⟨w.heap.size,0,none⟩ 1 1 [.int .i64 n.page] rfl (λj u hu=>by
  rw[A3,Nat.zero_add,yC hnew,<-hu];exact List.getElem?_toArray) (λu hu=>by rw[List.mem_singleton]at hu;subst hu;rfl) (by unfold maxLen;omega) (by omega) (by omega)
 have hva:¬v.ownBlock=some lb:=λe=>(h3 lb e).1 rfl
 have hlb2:w2.heap[lb]? = some (.cells #[v] 57 (0,0)):=((h6.1.block lb (by omega) (λe=>hva e.symm)).trans (hba.block lb hlt)).trans h1
 have hset:=BW (i:=0) hlb2 v2;have hvn:¬v.ownBlock=some n.blk:=λe=>by
  rcases h2.2 with⟨rfl,_⟩|⟨g,cap,cur,rfl,_,hg,_⟩
  ·simp[Value.ownBlock]at e
  ·injection e with e
   have e':g=n.blk:=e;subst e';rw[hn.blk]at hg;injection hg with hg
   injection hg with _ h9 _
   exact absurd h9 (by decide)
 have hnb2:w2.cell? ⟨n.blk,0,none⟩=some (.int .i64 n.page):=by
  rw[World.cell?_of_block ((h6.1.block n.blk (by have:=hn.lt;omega) (λe=>hvn e.symm)).trans (hba.block n.blk hn.lt))]
  exact hn.c0
 have hne2:∀g,v2.ownBlock=some g->g≠lb/\1<=g:=λg hg=>(h6.2 g hg).elim (h3 g) (λe=>⟨by omega,by omega⟩)
 refine⟨v,by rw[yC h1];rfl,v2,w2,(by rcases h5.2 with⟨e,_⟩ | ⟨g,cap,cur,e,_⟩ <;> exact⟨_,_,_,e⟩),by rw[<-hwa];exact hr,⟨by rw[yC hlb2];rfl,hnb2⟩,by simp[World.frozen?,hlb2],(Array.getElem?_eq_some_iff.1 hlb2).1,_,⟨v2,hset,?_,hne2,h4,rfl⟩,?_,λk hk hz'=>?_⟩
 ·have h7:w2.ownsRow 0 3 1 v2 (acc++[(n.page,n.level,n.ens.length)]).length (pgC (acc++[(n.page,n.level,n.ens.length)])):=by
   rw[List.length_append,pgC,List.map_append];exact h5
  exact AG h7 λk hk'=>Below.heap_setCell _ _ _ _ (λe=>(hne2 k hk').1 e)
 ·have k1:AC (λk=>k=lb\/v.ownBlock=some k) w w2:=(AC.ofBelow (S:=λk=>k=lb\/v.ownBlock=some k) hba).trans (⟨h6.1.os,h6.1.tape,h6.1.output,h6.1.size,λk hk hn=>h6.1.block k hk (λe=>hn (.inr e.symm))⟩:AC (λk=>k=lb\/v.ownBlock=some k) wa w2) (λ_ e=>.inl e)
  exact k1.trans (AC.setCell (λk=>k=lb) _ (b:=lb) (i:=0) rfl v2) (λk e=>.inl (.inl e))
 ·rcases hz' with e|e
  ·exact .inl e
  ·exact (h6.2 k e).elim .inr (λe=>by omega)
theorem AZ7 (lb:Nat)(acc:List Vn)(Z X:Nat->Prop)(w:World)(n:NO)(hv:ME lb acc Z w)(hn:AM X w n)(hf:acc.length<=4095) :
  Calls Tryz.prog 88 #[n.ptr,.pointer (some ⟨lb,0,none⟩)] w λe w'=>e=.returned (.tuple #[])/\∃Z',ME lb (acc++[(n.page,n.level,n.ens.length)]) Z' w'/\AO Z w Z' w':=by
 obtain⟨v,d0,v2,w2,⟨a2,n2,c2,rfl⟩,hr,⟨hu,hu2⟩,hfz,hlt,hE⟩:=Y7 hv hn hf;have c0:=hn.c0;have HE:=yH hE;have HR:=yH hr;obtain⟨q,hq⟩:∃q,q=n.page:=⟨_,rfl⟩;rw[<-hq]at c0 HR hu2;unfold NO.ptr;obtain⟨xb,hxb⟩:∃xb,xb=n.blk:=⟨_,rfl⟩;rw[<-hxb]at c0 hu2 ⊢
 have HS2:Hid (w2.cell? ⟨lb,0,none⟩=some v/\w2.cell? ⟨xb,0,none⟩=some (.int .i64 q)):=yH ⟨hu,hu2⟩;have HQ:Hid (∀W:World,(W.cell? ⟨lb,0,none⟩=some v/\W.cell? ⟨xb,0,none⟩=some (.int .i64 q))->W.cell? ⟨lb,0,none⟩=some v/\W.cell? ⟨xb,0,none⟩=some (.int .i64 q)):=yH λ_ h=>h
 have HS0:Hid (w.drew.cell? ⟨lb,0,none⟩=some v/\w.drew.cell? ⟨xb,0,none⟩=some (.int .i64 q)):=yH ⟨d0,c0⟩;have HS1:Hid ((w.alloc (.cells #[.int .i64 q] 3)).drew.cell? ⟨lb,0,none⟩=some v/\(w.alloc (.cells #[.int .i64 q] 3)).drew.cell? ⟨xb,0,none⟩=some (.int .i64 q)):=yH (by
  have hba:Below w.heap.size w (w.alloc (.cells #[.int .i64 q] 3)).drew:=((Below.refl _ w).alloc (Nat.le_refl _) _).drew;exact⟨(hba.cell (p:=⟨lb,0,none⟩) (World.block_lt_of_cell? w _ d0)).trans d0,(hba.cell (p:=⟨xb,0,none⟩) (World.block_lt_of_cell? w _ c0)).trans c0⟩)
 clear hv hn hE hr hq hxb d0 c0;go_enter Tryz.func88,Tryz.ntmps88;go_wp2;refine BS (S:=λW=>W.cell? ⟨lb,0,none⟩=some v/\W.cell? ⟨xb,0,none⟩=some (.int .i64 q)) [7] (by kernel_rfl) ?_
 refine AJ.take (i:=0) (v:=v) rfl (by kernel_rfl) (by kernel_rfl) (by kernel_rfl) (by kernel_rfl) (λ_ _ _ h=>h) (Or.inl ⟨by rfl,λW hW=>by have x1:=(HQ.out W hW).1;clear hW;go_simp⟩) HS0.out ?_
 refine AJ.take (i:=1) (v:=.pointer (some ⟨xb,0,none⟩)) rfl (by kernel_rfl) (by kernel_rfl) (by kernel_rfl) (by kernel_rfl) (λ_ _ _ h=>h) (Or.inl ⟨by rfl,λW hW=>by go_simp⟩) HS0.out ?_
 refine AJ.take (i:=2) (v:=.pointer (some ⟨xb,0,none⟩)) rfl (by kernel_rfl) (by kernel_rfl) (by kernel_rfl) (by kernel_rfl) (λ_ _ _ h=>h) (Or.inl ⟨by rfl,λW hW=>by go_simp⟩) HS0.out ?_
 refine AJ.take (i:=3) (v:=.pointer (some ⟨xb,0,none⟩)) rfl (by kernel_rfl) (by kernel_rfl) (by kernel_rfl) (by kernel_rfl) (λ_ _ _ h=>h) (Or.inl ⟨by rfl,λW hW=>by go_simp⟩) HS0.out ?_
 refine AJ.take (i:=4) (v:=.int .i64 q) rfl (by kernel_rfl) (by kernel_rfl) (by kernel_rfl) (by kernel_rfl) (λ_ _ _ h=>h) (Or.inl ⟨by rfl,λW hW=>by have x1:=(HQ.out W hW).2;clear hW;go_simp⟩) HS0.out ?_
 refine AJ.ready (rs:=[5]) (by kernel_rfl) (by simp) ?_
 refine AI.cons rfl (λK' hK=>?_) AI.nil
 go_simp
 refine hK.out _ _ (λ_=>HS1.out) ?_
 clear hK K';refine AJ.ready (rs:=[6]) (by kernel_rfl) (by simp) ?_
 refine AI.cons rfl (λK' hK=>?_) AI.nil
 rw[if_pos (by rfl)]
 refine Lib.wp_append_run _ (.tmp 3) (.tmp 8) 57 57 rfl _ _ rfl rfl _ _ HR.out ?_;refine hK.out _ _ (λ_=>HS2.out) ?_
 clear hK K';refine AJ.ready (rs:=[7]) (by kernel_rfl) (by simp) ?_
 refine AI.cons rfl (λK' hK=>?_) AI.nil
 go_simp
 refine hK.out _ _ (λh=>absurd h (by decide)) ?_
 clear hK K';refine AJ.done (by kernel_rfl) ?_ _
 go_wp2;go_end0
 exact⟨rfl,HE.out⟩
end Go.Proofs.YtfbbjiidccbaiaaGreatDoor
