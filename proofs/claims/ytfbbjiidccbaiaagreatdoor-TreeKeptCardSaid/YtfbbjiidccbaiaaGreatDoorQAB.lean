/- Texts of one proof, one behind the other: PB, PC, PD, PE, PF, PG, PH, PI, SA. -/
import Derived.Test.YtfbbjiidccbaiaaGreatDoorQAA
import Derived.Deep.MidRow
import Derived.StillTailTactics
import Derived.BigQuiet
import Derived.Laws.Bits64
import Derived.Laws.Bits64b
set_option maxRecDepth 100000
set_option maxHeartbeats 6400000
namespace Go.Proofs.YtfbbjiidccbaiaaGreatDoor
open Go.RowKit
structure BJ (fb o n:Nat)(w w':World):Prop where
 out:∀j,(j<o\/o+n<=j)->w'.cell? ⟨fb,j,none⟩=w.cell? ⟨fb,j,none⟩
 some_:∀j,(w.cell? ⟨fb,j,none⟩).isSome=true->(w'.cell? ⟨fb,j,none⟩).isSome=true
 froz:∀j,w'.frozen? ⟨fb,j,none⟩=w.frozen? ⟨fb,j,none⟩
theorem BJ.ofBlock {fb o n:Nat}{w w':World}(h:w'.heap[fb]? = w.heap[fb]?):BJ fb o n w w' :=
 ⟨λ_ _=>World.cell?_of_block h,λ_ hj=>by rw[World.cell?_of_block h];exact hj,λ_=>World.frozen?_of_block h⟩
theorem BJ.trans {fb o n:Nat}{a b c:World}(h:BJ fb o n a b)(k:BJ fb o n b c):BJ fb o n a c :=
 ⟨λj hj=>(k.out j hj).trans (h.out j hj),λj hj=>k.some_ j (h.some_ j hj),λj=>(k.froz j).trans (h.froz j)⟩
theorem BJ.setCell {fb o n i:Nat}(w:World)(v:Value)(h1:o<=i)(h2:i<o+n):BJ fb o n w (w.setCell ⟨fb,i,none⟩ v) :=
 ⟨λj hj=>World.cell?_setCell_other _ _ _ _ (λe=>by injection e with _ e _;omega),λj hj=>by
  obtain⟨u,hu⟩:=Option.isSome_iff_exists.1 hj;obtain⟨v',hv'⟩:=cell?_setCell_some (w:=w) (p:=⟨fb,i,none⟩) (x:=v) (q:=⟨fb,j,none⟩) (v:=u) hu;rw[hv'];rfl,λj=>World.frozen?_setCell _ _ _ _⟩
theorem BJ.setCells {fb o n:Nat}(w:World)(o':Nat)(vs:List Value)(h1:o<=o')(h2:o'+vs.length<=o+n):BJ fb o n w (w.setCells fb o' vs) :=
 ⟨λj hj=>World.cell?_setCells_out fb vs o' w _ (λ_ _=>by show j<o'\/o'+vs.length<=j;omega),λj hj=>World.isSome_setCells fb vs o' w _ hj,λj=>World.frozen?_setCells fb vs o' w _⟩
theorem FH {fb o n o':Nat}{w w':World}{cs:List Value}(h:w.rangeAt fb o' cs)(ht:BJ fb o n w w')(hap:o'+cs.length<=o\/o+n<=o'):w'.rangeAt fb o' cs:=λj v hv=>by
 have hj:=(List.getElem?_eq_some_iff.1 hv).1;rw[ht.out (o'+j) (by omega)];exact h j v hv
theorem DW {fb o n o' m:Nat}{w w':World}(h:w.there fb o' m)(ht:BJ fb o n w w'):w'.there fb o' m:=λj hj =>
 ⟨ht.some_ _ (h j hj).1,(ht.froz _).trans (h j hj).2⟩
theorem DC {fb o m o' m':Nat}{w:World}(h:w.there fb o m)(h1:o<=o')(h2:o'+m'<=o+m):w.there fb o' m':=λj hj=>by
 have:=h (o'-o+j) (by omega)
 rwa [show o+(o'-o+j)=o'+j by omega]at this
theorem LK (fb:Nat):∀(vs:List Value) (o:Nat) (w:World),(w.setCells fb o vs).heap.size=w.heap.size/\(w.setCells fb o vs).os=w.os/\(w.setCells fb o vs).tape=w.tape/\(w.setCells fb o vs).output=w.output/\∀k,k≠fb->(w.setCells fb o vs).heap[k]? = w.heap[k]?
 | [],_,_=>⟨rfl,rfl,rfl,rfl,λ_ _=>rfl⟩
 | v::r,o,w=>by
  obtain⟨h1,h2,h3,h4,h5⟩:=LK fb r (o+1) (w.setCell ⟨fb,o,none⟩ v);exact⟨h1.trans (by simp[World.setCell]),h2,h3,h4,λk hk=>(h5 k hk).trans (Below.heap_setCell _ _ _ _ hk)⟩
theorem AC.setCells (S:Nat->Prop)(w:World){fb o:Nat}(hb:S fb)(vs:List Value):AC S w (w.setCells fb o vs):=by
 obtain⟨h1,h2,h3,h4,h5⟩:=LK fb vs o w;exact⟨h2,h3,h4,by rw[h1];exact Nat.le_refl _,λk _ hk=>h5 k (λe=>hk (e ▸ hb))⟩
structure Fr where
 page:Nat
 pins:Nat
 lately:Bool
 changed:Bool
 bytes:List UInt8
def Fr.cells (f:Fr):List Value:=[.int .i64 f.page,.int .i64 f.pins,.bool f.lately,.bool f.changed]++Lib.byteCells f.bytes
theorem Fr.cells_length (f:Fr):f.cells.length=4+f.bytes.length:=by simp[Fr.cells,Lib.byteCells_length];omega
theorem Fr.one (f:Fr):∀v ∈ f.cells,v.oneCell'=true:=by
 intro v hv;simp only[Fr.cells,List.mem_append]at hv;rcases hv with hv|hv
 ·simp at hv;rcases hv with rfl|rfl|rfl|rfl <;> rfl
 ·exact Lib.byteCells_one _ v hv
def EA (q:Nat):Fr:=⟨q,0,false,false,List.replicate 512 0⟩
def D2 (w:World)(fb o:Nat)(f:Fr):Prop:=w.rangeAt fb o f.cells
theorem D2.page {w:World}{fb o:Nat}{f:Fr}(h:D2 w fb o f):w.cell? ⟨fb,o,none⟩=some (.int .i64 f.page):=h 0 _ rfl
theorem D2.pins {w:World}{fb o:Nat}{f:Fr}(h:D2 w fb o f):w.cell? ⟨fb,o+1,none⟩=some (.int .i64 f.pins):=h 1 _ rfl
theorem D2.lately {w:World}{fb o:Nat}{f:Fr}(h:D2 w fb o f):w.cell? ⟨fb,o+2,none⟩=some (.bool f.lately):=h 2 _ rfl
theorem D2.changed {w:World}{fb o:Nat}{f:Fr}(h:D2 w fb o f):w.cell? ⟨fb,o+3,none⟩=some (.bool f.changed):=h 3 _ rfl
theorem D2.bytes {w:World}{fb o:Nat}{f:Fr}(h:D2 w fb o f):w.rangeAt fb (o+4) (Lib.byteCells f.bytes):=λj v hv=>by
 have:=h (4+j) v (by simp only[Fr.cells];rw[List.getElem?_append_right (by simp)];simpa using hv)
 rwa [show o+4+j=o+(4+j) by omega]
theorem D2.mk {w:World}{fb o:Nat}{f:Fr}(h0:w.cell? ⟨fb,o,none⟩=some (.int .i64 f.page))(h1:w.cell? ⟨fb,o+1,none⟩=some (.int .i64 f.pins))(h2:w.cell? ⟨fb,o+2,none⟩=some (.bool f.lately))
  (h3:w.cell? ⟨fb,o+3,none⟩=some (.bool f.changed)) (h4:w.rangeAt fb (o+4) (Lib.byteCells f.bytes)):D2 w fb o f:=λj v hv=>by
 by_cases hj:j<4
 ·have:j=0\/j=1\/j=2\/j=3:=by omega
  rcases this with rfl|rfl|rfl|rfl <;> (simp[Fr.cells]at hv;subst hv)
  ·exact h0
  ·exact h1
  ·exact h2
  ·exact h3
 ·obtain⟨k,rfl⟩:∃k,j=4+k:=⟨j-4,by omega⟩
  rw[show o+(4+k)=o+4+k by omega]
  refine h4 k v ?_;simp only[Fr.cells]at hv;rw[List.getElem?_append_right (by simp)]at hv
  simpa using hv
theorem A3 (b o j:Nat):(⟨b,o,none⟩:Addr).add j=⟨b,o+j,none⟩:=Addr.add_mid b o j
theorem CL (w:World)(dT sT ty elem:TypeId)(b o dLen dCap:Nat)(s:ByteArray)(hu:Tryz.prog.underlying dT=some (.slice elem))(hs:(Tryz.prog.info? elem).map (·.size)=some 1)(ht:w.there b o s.size)(hle:s.size<=dLen) :
  (Builtin.copy_ #[dT,sT] ty #[.slice (some ⟨b,o,none⟩) dLen dCap,.string s]).run Tryz.prog w=.ok (goInt s.size) (w.setCells b o (Lib.byteCells s.data.toList)):=by
 have hlen:(Lib.byteCells s.data.toList).length=s.size:=by rw[Lib.byteCells_length,<-Lib.size_eq]
 have hst:=run_storeCells_cells (P:=Tryz.prog) b o (Lib.byteCells s.data.toList) 0 w (λj hj=>by rw[hlen]at hj;simpa using (ht j hj).1) (λj hj=>by rw[hlen]at hj;simpa using (ht j hj).2) (Lib.byteCells_one _)
 have hmin:Nat.min s.size dLen=s.size:=Nat.min_eq_left hle;have htk:List.take s.size (List.map (λb:UInt8=>Value.int IntKind.u8 (b.toNat:Int)) s.data.toList)=Lib.byteCells s.data.toList:=by
  rw[List.take_of_length_le (by rw[List.length_map,<-Lib.size_eq];exact Nat.le_refl _)]
  rfl
 simp only[Nat.add_zero]at hst;cases hq:Tryz.prog.info? elem with
 | none=>simp[hq]at hs
 | some i =>
  simp[Builtin.copy_,run_underlying hu,Builtin.lenOf,Builtin.firstCells,sizeOf,typeInfo,hq,hmin];rw[htk,hst];simp[Result.andThen]
theorem DX (w:World)(b o c:Nat)(l:List UInt8)(h:w.rangeAt b o (Lib.byteCells l)) :
  (convert 102 9 (.slice (some ⟨b,o,none⟩) l.length c)).run Tryz.prog w=.ok (.string ⟨l.toArray⟩) w:=by
 refine run_convert_bytes_back (P:=Tryz.prog) w 102 9 5 ⟨b,o,none⟩ c l Tryz.underlying102 Tryz.underlying5 Tryz.underlying9 ?_;intro j hj;rw[A3,h j (.int .u8 (l[j].toNat:Int)) (by simp[Lib.byteCells,hj])]
theorem J6 (l:List UInt8)(n:Nat):(Lib.byteCells l).drop n=Lib.byteCells (l.drop n):=by simp[Lib.byteCells,List.map_drop]
theorem LT (l:List UInt8)(a:Nat)(cs:List UInt8)(h:a+cs.length<=l.length)(j:Nat):(splice l a cs)[j]? = if a<=j/\j<a+cs.length then cs[j-a]? else l[j]?:=by
 have e:splice l a cs=l.take a++(cs++l.drop (a+cs.length)):=by simp[splice]
 have hl:(l.take a).length=a:=by rw[List.length_take];omega
 rw[e];by_cases h1:j<a
 ·rw[List.getElem?_append_left (by omega),if_neg (by omega),List.getElem?_take,if_pos h1]
 ·rw[List.getElem?_append_right (by omega),hl]
  by_cases h2:j<a+cs.length
  ·rw[List.getElem?_append_left (by omega),if_pos (by omega)]
  ·rw[List.getElem?_append_right (by omega),if_neg (by omega),List.getElem?_drop]
   congr 1
   omega
theorem GA {w:World}{b o:Nat}{l:List UInt8}(h:w.rangeAt b o (Lib.byteCells l))(a:Nat)(cs:List UInt8)(hfit:a+cs.length<=l.length)(ht:w.there b (o+a) cs.length) :
  (w.setCells b (o+a) (Lib.byteCells cs)).rangeAt b o (Lib.byteCells (splice l a cs)):=λj v hv=>by
 have hl:(Lib.byteCells cs).length=cs.length:=Lib.byteCells_length _;rw[Lib.byteCells,List.getElem?_map,LT l a cs hfit j]at hv;by_cases h1:a<=j/\j<a+cs.length
 ·obtain⟨k,rfl⟩:∃k,j=a+k:=⟨j-a,by omega⟩
  have:=World.rangeAt_setCells_same w b (o+a) (Lib.byteCells cs) (by rw[hl];exact ht) k v ?_
  ·rwa [show o+(a+k)=o+a+k by omega]
  ·rw[if_pos h1,Nat.add_sub_cancel_left]at hv;rw[Lib.byteCells,List.getElem?_map];exact hv
 ·rw[World.cell?_setCells_out b (Lib.byteCells cs) (o+a) w _ (λ_ _=>by show o+j<o+a\/o+a+(Lib.byteCells cs).length<=o+j;rw[hl];omega)]
  rw[if_neg h1]at hv;exact h j v (by rw[Lib.byteCells,List.getElem?_map];exact hv)
theorem PW (l cs:List UInt8):splice l 0 cs=cs++l.drop cs.length:=by simp[splice]
def BT (F:List UInt8)(q:Nat):List UInt8:=let s:=(F.drop (q*512)).take 512;s++List.replicate (512-s.length) 0
theorem FJ (F:List UInt8)(q:Nat):(BT F q).length=512:=by
 unfold BT;simp only[List.length_append,List.length_replicate];have:((F.drop (q*512)).take 512).length<=512:=List.length_take_le _ _
 omega
theorem AS7 (fb o d:Nat)(f:Fr)(w:World)(hf:D2 w fb o f)(hc:f.changed=false) :
  Calls Tryz.prog 146 #[.pointer (some ⟨fb,o,none⟩),.pointer (some ⟨d,0,none⟩)] w λe w'=>e=.returned (.tuple #[])/\w'=w:=by
 have h3:=hf.changed;rw[hc]at h3;clear hf hc;go_enter Tryz.func146,Tryz.ntmps146;go_wp2;exact bodyPost_ret (v:=.tuple #[]) (by simp[results,Tryz.results146,go_sem]) rfl ⟨rfl,rfl⟩
theorem AS6 (fb o d:Nat)(f:Fr)(S:Nat->Prop)(ops:List AD)(w:World)(h:AT S d ops w)(hlen:ops.length<=4398046511104)(hf:D2 w fb o f)(hc:f.changed=true)(hq:f.page<4096)(hb:f.bytes.length=512)(hfr:∀j,w.frozen? ⟨fb,j,none⟩=false)(hS:¬S fb) :
  Calls Tryz.prog 146 #[.pointer (some ⟨fb,o,none⟩),.pointer (some ⟨d,0,none⟩)] w λe w'=>e=.returned (.tuple #[]) /\
   ∃w1,AT (N4 S w.heap.size) d (ops++[.put 1 (f.page*512) ⟨f.bytes.toArray⟩]) w1/\AC S w w1/\w'=w1.setCell ⟨fb,o+3,none⟩ (.bool false):=by
 have h3:=hf.changed;rw[hc]at h3;have h0:=hf.page;have hcv:=λW (hW:W.heap[fb]? = w.heap[fb]?)=>DX W fb (o+4) 512 f.bytes (λj v hv=>(World.cell?_of_block hW).trans (hf.bytes j v hv))
 rw[hb]at hcv;obtain⟨s,hs⟩:∃s:ByteArray,s=⟨f.bytes.toArray⟩:=⟨_,rfl⟩;rw[<-hs]at hcv ⊢
 have hsz:s.size=512:=by rw[hs,<-hb];simp[ByteArray.size]
 have hfl:fb<w.heap.size:=World.block_lt_of_cell? w _ h3;obtain⟨q,hq'⟩:∃q,q=f.page:=⟨_,rfl⟩;rw[<-hq']at h0 hq ⊢
 have hm:IntKind.i64.wrap ((q:Int)*512)=(q:Int)*512:=IntWalk.i64_in _ (by omega)
 have hm2:((q*512:Nat):Int)=(q:Int)*512:=by omega
 have hcv0:=hcv w rfl;have hcv1:=hcv w.drew rfl;have HW:Hid (∀W:World,W.heap=w.heap->W.os=w.os->W.tape=w.tape->W.output=w.output->Calls Tryz.prog 108 #[.pointer (some ⟨d,0,none⟩),.int .i64 1,.int .i64 ((q:Int)*512),.string s] W λe w'=>e=.returned (.int .i64 0)/\w'.cell? ⟨fb,o+3,none⟩=some (.bool true)/\w'.frozen? ⟨fb,o+3,none⟩=false/\Hid (AT (N4 S w.heap.size) d (ops++[.put 1 (q*512) s]) w'/\AC S w w')):=yH (λW e1 e2 e3 e4=>by
  rw[<-hm2];have hb1:Below w.heap.size w W:=⟨e2,e3,e4,by rw[e1];exact Nat.le_refl _,λk _=>by rw[e1]⟩
  refine (Y3 1 (q*512) s S d ops W (h.below hb1) hlen (by omega) (by omega) (by omega)).mono ?_
  rintro e w' ⟨h1,h2,h3'⟩;rw[e1]at h2;have hk:AC S w w':=(AC.ofBelow hb1).trans h3' (λ_ hi=>.inl hi)
  exact⟨h1,(World.cell?_of_block (hk.block fb hfl hS)).trans h3,(World.frozen?_of_block (hk.block fb hfl hS)).trans (hfr _),yH ⟨h2,hk⟩⟩)
 clear h hf hc hcv hs hsz hb hfr hq' hm2 hlen;go_enter Tryz.func146,Tryz.ntmps146;go_wp2;go_still_tail 11,(by kernel_rfl)
 go_wp2_with fail;refine (HW.out w.drew rfl rfl rfl rfl).mono ?_;rintro e w1 ⟨rfl,hc1,hf1,H1⟩;go_wp2;go_end0
 exact⟨rfl,w1,H1.out.1,H1.out.2,rfl⟩
theorem BB6 (fb o d:Nat)(f:Fr)(S:Nat->Prop)(ops:List AD)(w:World)(h:AT S d ops w)(hlen:ops.length<=4398046511104)(hf:D2 w fb o f)(hq:f.page<4096)(hb:f.bytes.length=512)(hfr:∀j,w.frozen? ⟨fb,j,none⟩=false)(hS:¬S fb) :
  Calls Tryz.prog 146 #[.pointer (some ⟨fb,o,none⟩),.pointer (some ⟨d,0,none⟩)] w λe w'=>e=.returned (.tuple #[]) /\
   (f.changed=false/\w'=w\/f.changed=true/\∃w1,AT (N4 S w.heap.size) d (ops++[.put 1 (f.page*512) ⟨f.bytes.toArray⟩]) w1/\AC S w w1/\w'=w1.setCell ⟨fb,o+3,none⟩ (.bool false)):=by
 cases hc:f.changed
 ·exact (AS7 fb o d f w hf hc).mono λe w' ⟨h1,h2⟩=>⟨h1,.inl ⟨rfl,h2⟩⟩
 ·exact (AS6 fb o d f S ops w h hlen hf hc hq hb hfr hS).mono λe w' ⟨h1,h2⟩=>⟨h1,.inr ⟨rfl,h2⟩⟩
theorem MH (q:Nat):(EA q).cells.toArray.size=516:=by
 rw[List.size_toArray,Fr.cells_length];simp[EA]
theorem BN9 (w:World):(zeroValue 176).run Tryz.prog w=.ok (.agg (EA 0).cells.toArray) w:=by kernel_rfl
theorem CA7 (q:Nat):(EA 0).cells.toArray.setIfInBounds 0 (.int .i64 q)=(EA q).cells.toArray:=by simp[EA,Fr.cells]
theorem BW7:(Tryz.prog.info? 176).map (·.size)=some 516:=by kernel_rfl
theorem AJ1 (F:List UInt8)(q n:Nat)(hn:n=min (F.length-q*512) 512):splice (List.replicate 512 0) 0 ((F.drop (q*512)).take n)=BT F q:=by
 have h1:(F.drop (q*512)).take n=(F.drop (q*512)).take 512:=by
  rw[hn];by_cases h:F.length-q*512<=512
  ·rw[Nat.min_eq_left h,List.take_of_length_le (by rw[List.length_drop];exact Nat.le_refl _),List.take_of_length_le (by rw[List.length_drop];exact h)]
  ·rw[Nat.min_eq_right (by omega)]
 rw[h1,PW];simp only[BT,List.drop_replicate]
theorem BF3 (fb o d q:Nat)(S:Nat->Prop)(ops:List AD)(w:World)(h:AT S d ops w)(hq:q<4096)(ht:w.there fb o 516)(hS:¬S fb) :
  Calls Tryz.prog 138 #[.pointer (some ⟨fb,o,none⟩),.pointer (some ⟨d,0,none⟩),.int .i64 q] w λe w'=>e=.returned (.tuple #[]) /\
   D2 w' fb o ⟨q,0,false,false,BT (BN ops 1) q⟩/\BJ fb o 516 w w'/\AC (λk=>k=fb) w w':=by
 obtain⟨X,hX⟩:∃X,X=(EA q).cells.toArray:=⟨_,rfl⟩;have hXs:X.size=516:=by rw[hX,MH]
 have hX1:X.all (·.oneCell')=true:=by rw[hX];exact all_oneCell_toArray (Fr.one _)
 obtain⟨Z,hZ⟩:∃Z,Z=(EA 0).cells.toArray:=⟨_,rfl⟩;have hzv:=λW=>BN9 W
 have hset:=CA7 q;rw[<-hZ]at hzv hset;rw[<-hX]at hset;have hZ0:¬Z=#[]:=by rw[hZ];intro e;have:=congrArg Array.size e;rw[MH]at this;simp at this
 obtain⟨w1,hw1⟩:∃w1,w1=w.setCells fb o X.toList:=⟨_,rfl⟩;have hk1:AC (λk=>k=fb) w w1:=by rw[hw1];exact AC.setCells (λk=>k=fb) w (fb:=fb) rfl _
 have hd1:AT S d ops w1:=h.kept hk1 (λk _ hs e=>hS (e ▸ hs))
 have hf1:D2 w1 fb o (EA q):=by
  have:=World.rangeAt_setCells_same w fb o X.toList (by rw[Array.length_toList,hXs];exact ht)
  rw[<-hw1]at this;unfold D2;rw[hX]at this;simpa using this
 have ht1:BJ fb o 516 w w1:=by rw[hw1];exact BJ.setCells w o _ (Nat.le_refl _) (by rw[Array.length_toList,hXs];exact Nat.le_refl _)
 obtain⟨L,hL⟩:∃L,L=(BN ops 1).length:=⟨_,rfl⟩;have hL4:L<=4194304:=by rw[hL];exact DA h.1 1
 have HSZ:Hid (Calls Tryz.prog 91 #[.pointer (some ⟨d,0,none⟩),.int .i64 1] w1 λe w'=>e=.returned (.int .i64 L)/\w1=w'):=yH ((KL 1 S d ops w1 hd1 (by omega)).mono λe w' ⟨h1,h2⟩=>⟨by rw[h1,hL],h2.symm⟩)
 have htw:w.there fb o X.size:=by rw[hXs];exact ht
 have HT:=yH htw;have HI:Hid ((Tryz.prog.info? 176).map (·.size)=some X.size):=yH (by rw[hXs];exact BW7)
 have HX1:=yH hX1;have HW1:=yH hw1.symm;have hm:IntKind.i64.wrap ((q:Int)*512)=(q:Int)*512:=IntWalk.i64_in _ (by omega)
 obtain⟨s,hs,HC⟩:∃s:ByteArray,s.data.toList=((BN ops 1).drop (q*512)).take (min (L-q*512) 512) /\
   ((L:Int)-(q:Int)*512<=512/\Hid (Calls Tryz.prog 90 #[.pointer (some ⟨d,0,none⟩),.int .i64 1,.int .i64 ((q:Int)*512),.int .i64 ((L:Int)-(q:Int)*512)] w1 λe w'=>∃c,e=.returned (.tuple #[.string s,.int .i64 c])/\w1=w') \/
   (512:Int)<(L:Int)-(q:Int)*512/\Hid (Calls Tryz.prog 90 #[.pointer (some ⟨d,0,none⟩),.int .i64 1,.int .i64 ((q:Int)*512),.int .i64 512] w1 λe w'=>∃c,e=.returned (.tuple #[.string s,.int .i64 c])/\w1=w')):=by
  have hm2:((q*512:Nat):Int)=(q:Int)*512:=by omega
  rw[<-hm2];by_cases hA:L<q*512
  ·refine⟨⟨#[]⟩,?_,.inl ⟨by omega,yH ?_⟩⟩
   ·rw[show min (L-q*512) 512=0 by omega,List.take_zero]
   ·exact (AO1 1 ((q*512:Nat):Int) ((L:Int)-((q*512:Nat):Int)) S d ops w1 hd1 (by omega) (by omega)).mono λe w' ⟨h1,h2⟩=>⟨1,h1,h2.symm⟩
  ·by_cases hB:L-q*512<=512
   ·refine⟨⟨(((BN ops 1).drop (q*512)).take (L-q*512)).toArray⟩,?_,.inl ⟨by omega,yH ?_⟩⟩
    ·rw[Nat.min_eq_left (by omega)]
    ·rw[show (L:Int)-((q*512:Nat):Int)=((L-q*512:Nat):Int) by omega]
     exact (KN 1 (q*512) (L-q*512) S d ops w1 hd1 (by omega) (by rw[<-hL];omega)).mono λe w' ⟨h1,h2⟩=>⟨0,h1,h2.symm⟩
   ·refine⟨⟨(((BN ops 1).drop (q*512)).take 512).toArray⟩,?_,.inr ⟨by omega,yH ?_⟩⟩
    ·rw[Nat.min_eq_right (by omega)]
    ·exact (KN 1 (q*512) 512 S d ops w1 hd1 (by omega) (by rw[<-hL];omega)).mono λe w' ⟨h1,h2⟩=>⟨0,h1,h2.symm⟩
 have hs5:s.size<=512:=by
  have e:s.data.toList.length=s.size:=rfl;rw[<-e,hs,List.length_take];omega
 have ht4:w1.there fb (o+4) s.size:=DC (DW ht ht1) (by omega) (by omega)
 have hcp:=CL w1 102 9 3 5 fb (o+4) 512 512 s Tryz.underlying102 (by kernel_rfl) ht4 hs5
 have hend:D2 (w1.setCells fb (o+4) (Lib.byteCells s.data.toList)) fb o ⟨q,0,false,false,BT (BN ops 1) q⟩/\BJ fb o 516 w (w1.setCells fb (o+4) (Lib.byteCells s.data.toList))/\AC (λk=>k=fb) w (w1.setCells fb (o+4) (Lib.byteCells s.data.toList)):=by
  have hsl:(Lib.byteCells s.data.toList).length=s.size:=by rw[Lib.byteCells_length];rfl
  have hfar:∀j,j<4->(w1.setCells fb (o+4) (Lib.byteCells s.data.toList)).cell? ⟨fb,o+j,none⟩=w1.cell? ⟨fb,o+j,none⟩:=λj hj=>World.cell?_setCells_out fb _ (o+4) w1 _ (λ_ _=>.inl (by show o+j<o+4;omega))
  refine⟨D2.mk ((hfar 0 (by omega)).trans hf1.page) ((hfar 1 (by omega)).trans hf1.pins) ((hfar 2 (by omega)).trans hf1.lately) ((hfar 3 (by omega)).trans hf1.changed) ?_,ht1.trans (BJ.setCells w1 (o+4) _ (by omega) (by rw[hsl];omega)),hk1.trans (AC.setCells (λk=>k=fb) w1 (fb:=fb) rfl _) (λ_ hi=>.inl hi)⟩
  have:=GA hf1.bytes 0 s.data.toList (by show 0+s.size<=_;simp[EA];omega) ht4
  rw[show (EA q).bytes=List.replicate 512 0 from rfl,hs,AJ1 _ q _ (by rw[hL])]at this
  rw[hs];exact this
 have HE:=yH hend;clear hend htw hX1 hX hXs hw1 hZ hs hL ht hk1 hf1 ht1 h hd1;rcases HC with⟨hlt,HR⟩|⟨hge,HR⟩
 all_goals
  go_enter Tryz.func138,Tryz.ntmps138;go_wp2_with (refine wpList_store_mid rfl 176 _ _ rfl fb o X (by rfl) (by rfl) HT.out HI.out HX1.out ?_)
  rw[HW1.out];go_wp2_with fail;refine HSZ.out.mono ?_;rintro e w' ⟨rfl,rfl⟩;go_wp2_with fail;refine HR.out.mono ?_;rintro e w' ⟨c,rfl,rfl⟩;go_wp2;go_end0
  exact⟨rfl,HE.out⟩
theorem CA4:(Tryz.prog.info? 157).map (·.size)=some 5:=by kernel_rfl
theorem GO (l:Nat)(w:World)(h:w.cell? ⟨l,0,none⟩=some (.pointer (some ⟨l,0,none⟩))) :
  Calls Tryz.prog 111 #[.pointer (some ⟨l,0,none⟩)] w λe w'=>e=.returned (.bool true)/\w'=w:=by
 obtain⟨j,hj,_⟩:=Option.map_eq_some_iff.1 CA4;have hq:=run_eql_ptr_same (P:=Tryz.prog) w (tp:=51) (te:=157) ⟨l,0,none⟩ Tryz.underlying51 hj;go_enter Tryz.func111,Tryz.ntmps111;go_wp2;go_ret;exact⟨rfl,rfl⟩
def DK (fb i:Nat):Value:=.pointer (some ⟨fb,i*516,none⟩)
structure AR (p d fb mb n hand m:Nat)(fr:Nat->Option Fr)(w:World):Prop where
 blk:w.heap[p]? = some (.cells #[.pointer (some ⟨p,0,none⟩),.pointer (some ⟨d,0,none⟩),.slice (some ⟨fb,0,none⟩) n n,.map (some mb),.int .i64 hand] 157 (0,0))
 n1:1<=n
 n2:n<=1024
 hand_:hand<n
 room:w.there fb 0 (n*516)
 froz:∀j,w.frozen? ⟨fb,j,none⟩=false
 at_:∀i f,fr i=some f->i<n/\D2 w fb (i*516) f/\f.bytes.length=512/\f.page<4096
 one:∀i j f g,fr i=some f->fr j=some g->f.page=g.page->i=j
 map:∃F,FR w mb m F/\(∀i f,fr i=some f->F f.page=some (DK fb i))/\∀q v,F q=some v->∃i f,fr i=some f/\(f.page:Int)=q/\v=DK fb i
 pf:p≠fb
 pm:p≠mb
 fm:fb≠mb
section
variable {p d fb mb n hand m:Nat} {fr:Nat->Option Fr} {w w':World}
theorem AR.lt (h:AR p d fb mb n hand m fr w):p<w.heap.size:=(Array.getElem?_eq_some_iff.1 h.blk).1
theorem AR.ltF (h:AR p d fb mb n hand m fr w):fb<w.heap.size:=by
 obtain⟨u,hu⟩:=Option.isSome_iff_exists.1 (h.room 0 (by have:=h.n1;omega)).1
 exact World.block_lt_of_cell? w _ hu
theorem AR.ltM (h:AR p d fb mb n hand m fr w):mb<w.heap.size:=by
 obtain⟨F,hF,_⟩:=h.map;exact hF.lt
theorem AR.c0 (h:AR p d fb mb n hand m fr w):w.cell? ⟨p,0,none⟩=some (.pointer (some ⟨p,0,none⟩)):=by rw[yC h.blk];rfl
theorem AR.c1 (h:AR p d fb mb n hand m fr w):w.cell? ⟨p,1,none⟩=some (.pointer (some ⟨d,0,none⟩)):=by rw[yC h.blk];rfl
theorem AR.c2 (h:AR p d fb mb n hand m fr w):w.cell? ⟨p,2,none⟩=some (.slice (some ⟨fb,0,none⟩) n n):=by rw[yC h.blk];rfl
theorem AR.c3 (h:AR p d fb mb n hand m fr w):w.cell? ⟨p,3,none⟩=some (.map (some mb)):=by rw[yC h.blk];rfl
theorem AR.c4 (h:AR p d fb mb n hand m fr w):w.cell? ⟨p,4,none⟩=some (.int .i64 hand):=by rw[yC h.blk];rfl
theorem AR.block (h:AR p d fb mb n hand m fr w)(h1:w'.heap[p]? = w.heap[p]?)(h2:w'.heap[fb]? = w.heap[fb]?)(h3:w'.heap[mb]? = w.heap[mb]?):AR p d fb mb n hand m fr w':=by
 obtain⟨F,hF,h4,h5⟩:=h.map;refine⟨h1.trans h.blk,h.n1,h.n2,h.hand_,DW h.room (BJ.ofBlock (o:=0) (n:=0) h2),λj=>(World.frozen?_of_block h2).trans (h.froz j),λi f hf=>?_,h.one,⟨F,hF.block h3,h4,h5⟩,h.pf,h.pm,h.fm⟩
 obtain⟨a,b,c⟩:=h.at_ i f hf;exact⟨a,λj v hv=>(World.cell?_of_block h2).trans (b j v hv),c⟩
theorem AR.kept {S:Nat->Prop}(h:AR p d fb mb n hand m fr w)(hk:AC S w w')(h1:¬S p)(h2:¬S fb)(h3:¬S mb):AR p d fb mb n hand m fr w' :=
 h.block (hk.block p h.lt h1) (hk.block fb h.ltF h2) (hk.block mb h.ltM h3)
theorem AR.turnFr (h:AR p d fb mb n hand m fr w){i:Nat}{f f':Fr}(hi:fr i=some f)(ht:BJ fb (i*516) 516 w w')(hk:AC (λk=>k=fb) w w')(hf:D2 w' fb (i*516) f')(hb:f'.bytes.length=512)(hp:f'.page=f.page) :
  AR p d fb mb n hand m (upd fr i (some f')) w':=by
 obtain⟨F,hF,h4,h5⟩:=h.map;obtain⟨hin,_,_,hq⟩:=h.at_ i f hi;have hpg:∀j g,upd fr i (some f') j=some g->∃g',fr j=some g'/\g'.page=g.page:=by
  intro j g hg;by_cases hj:j=i
  ·subst hj;rw[AB]at hg;cases hg;exact⟨f,hi,hp.symm⟩
  ·rw[AA _ _ hj]at hg;exact⟨g,hg,rfl⟩
 refine⟨(hk.block p h.lt h.pf).trans h.blk,h.n1,h.n2,h.hand_,DW h.room ht,λj=>(ht.froz j).trans (h.froz j),λj g hg=>?_,λa b x y hx hy hxy=>?_,⟨F,hF.block (hk.block mb h.ltM (λe=>h.fm e.symm)),λj g hg=>?_,λq v hv=>?_⟩,h.pf,h.pm,h.fm⟩
 ·by_cases hj:j=i
  ·subst hj;rw[AB]at hg;cases hg;exact⟨hin,hf,hb,hp ▸ hq⟩
  ·rw[AA _ _ hj]at hg;obtain⟨a,b,c,d'⟩:=h.at_ j g hg;refine⟨a,FH b ht ?_,c,d'⟩;rw[Fr.cells_length,c];have:j<i\/i<j:=by omega
   rcases this with hlt|hlt
   ·left;have:=Nat.mul_le_mul_right 516 (show j+1<=i from hlt);omega
   ·right;have:=Nat.mul_le_mul_right 516 (show i+1<=j from hlt);omega
 ·obtain⟨x',hx',ex⟩:=hpg a x hx;obtain⟨y',hy',ey⟩:=hpg b y hy;exact h.one a b x' y' hx' hy' (by rw[ex,ey,hxy])
 ·obtain⟨g',hg',eg⟩:=hpg j g hg;rw[<-eg];exact h4 j g' hg'
 ·obtain⟨j,g,hg,e1,e2⟩:=h5 q v hv;by_cases hj:j=i
  ·subst hj;rw[hi]at hg;cases hg
   exact⟨j,f',AB _ _ _,by rw[hp];exact e1,e2⟩
  ·exact⟨j,g,by rw[AA _ _ hj];exact hg,e1,e2⟩
theorem AR.look (h:AR p d fb mb n hand m fr w){i:Nat}{f:Fr}(hi:fr i=some f):(Instr.lookup 155 (.map (some mb)) (.int .i64 f.page) false).run Tryz.prog w=.ok (DK fb i) w:=by
 obtain⟨F,hF,h4,_⟩:=h.map;have:=hF.look Tryz.underlying155 (by kernel_rfl) f.page (WalkArith.wf_i64 (by have:=(h.at_ i f hi).2.2.2;omega))
 rw[this,h4 i f hi];rfl
theorem AR.look_none (h:AR p d fb mb n hand m fr w)(q:Int)(hq:(Lit.int .i64 q).wf=true)(hn:∀i f,fr i=some f->(f.page:Int)≠q):(Instr.lookup 155 (.map (some mb)) (.int .i64 q) false).run Tryz.prog w=.ok (.pointer none) w:=by
 obtain⟨F,hF,_,h5⟩:=h.map;have:=hF.look Tryz.underlying155 (by kernel_rfl) q hq
 rw[this];cases hv:F q with
 | none=>rfl
 | some v =>
  obtain⟨i,f,hi,e,_⟩:=h5 q v hv;exact absurd e (hn i f hi)
end
theorem LY (p d fb mb n hand m i:Nat)(fr:Nat->Option Fr)(f:Fr)(w:World)(h:AR p d fb mb n hand m fr w)(hi:fr i=some f)(hp:0<f.pins) :
  Calls Tryz.prog 112 #[.pointer (some ⟨p,0,none⟩),.int .i64 f.page] w λe w'=>e=.returned (.tuple #[DK fb i,.int .i64 0])/\w'=w:=by
 have HG:=yH (GO p w h.c0);have hc:=h.c3;have hl:=h.look hi;have hpc:=(h.at_ i f hi).2.1.pins;obtain⟨o,ho⟩:∃o,o=i*516:=⟨_,rfl⟩;obtain⟨q,hq⟩:∃q,q=f.page:=⟨_,rfl⟩;obtain⟨k,hk⟩:∃k,k=f.pins:=⟨_,rfl⟩;unfold DK at hl ⊢
 rw[<-ho]at hl hpc ⊢
 rw[<-hq]at hl ⊢
 rw[<-hk]at hpc hp;clear ho hq hk h;have hp':(0:Int)<k:=by omega
 go_enter Tryz.func112,Tryz.ntmps112;go_wp2_with fail;refine HG.out.mono ?_;rintro e w' ⟨rfl,hw⟩;subst w';go_wp2;go_ret2;exact⟨rfl,rfl⟩
theorem AT8 (p d fb mb n hand m i:Nat)(fr:Nat->Option Fr)(f:Fr)(w:World)(h:AR p d fb mb n hand m fr w)(hi:fr i=some f)(hp:0<f.pins) :
  Calls Tryz.prog 98 #[.pointer (some ⟨p,0,none⟩),.int .i64 f.page] w λe w'=>e=.returned (.tuple #[.string ⟨f.bytes.toArray⟩,.int .i64 0])/\w'=w:=by
 have HP:=yH (LY p d fb mb n hand m i fr f w h hi hp);obtain⟨_,hf,hb,_⟩:=h.at_ i f hi;unfold DK at HP;obtain⟨o,ho⟩:∃o,o=i*516:=⟨_,rfl⟩;rw[<-ho]at hf HP;have hcv:=DX w fb (o+4) 512 f.bytes hf.bytes;rw[hb]at hcv;obtain⟨s,hs⟩:∃s:ByteArray,s=⟨f.bytes.toArray⟩:=⟨_,rfl⟩;rw[<-hs]at hcv ⊢
 clear ho h hi hp hf hb hs;go_enter Tryz.func98,Tryz.ntmps98;go_wp2_with fail;refine HP.out.mono ?_;rintro e w' ⟨rfl,hw⟩;subst w';go_wp2;go_ret2;exact⟨rfl,rfl⟩
theorem RW (p d fb mb n hand m i:Nat)(fr:Nat->Option Fr)(f:Fr)(w:World)(h:AR p d fb mb n hand m fr w)(hi:fr i=some f)(hp:0<f.pins)(hp2:f.pins<=4611686018427387904) :
  Calls Tryz.prog 99 #[.pointer (some ⟨p,0,none⟩),.int .i64 f.page] w λe w'=>e=.returned (.int .i64 0)/\D2 w' fb (i*516) { f with pins:=f.pins-1 }/\BJ fb (i*516) 516 w w'/\AC (λk=>k=fb) w w':=by
 have HP:=yH (LY p d fb mb n hand m i fr f w h hi hp);obtain⟨hin,hf,hb,_⟩:=h.at_ i f hi;unfold DK at HP;have hfr:=h.froz (i*516+1);have hpc:=hf.pins;obtain⟨o,ho⟩:∃o,o=i*516:=⟨_,rfl⟩;rw[<-ho]at hf HP hpc hfr ⊢
 obtain⟨k,hk⟩:∃k,f.pins=k+1:=⟨f.pins-1,by omega⟩
 have hend:D2 (w.setCell ⟨fb,o+1,none⟩ (.int .i64 k)) fb o { f with pins:=f.pins-1 }/\BJ fb o 516 w (w.setCell ⟨fb,o+1,none⟩ (.int .i64 k))/\AC (λk=>k=fb) w (w.setCell ⟨fb,o+1,none⟩ (.int .i64 k)):=by
  have hfar:∀j,j≠1->(w.setCell ⟨fb,o+1,none⟩ (.int .i64 k)).cell? ⟨fb,o+j,none⟩=w.cell? ⟨fb,o+j,none⟩:=λj hj=>World.cell?_setCell_other _ _ _ _ (λe=>by injection e with _ e _;omega)
  refine⟨D2.mk ((hfar 0 (by omega)).trans hf.page) ?_ ((hfar 2 (by omega)).trans hf.lately) ((hfar 3 (by omega)).trans hf.changed) (λj v hv=>?_),BJ.setCell w _ (by omega) (by omega),AC.setCell (λk=>k=fb) w (b:=fb) rfl _⟩
  ·rw[World.cell?_setCell_same _ _ _ hpc];simp[hk]
  ·rw[show o+4+j=o+(4+j) by omega,hfar (4+j) (by omega),<-Nat.add_assoc]
   exact hf.bytes j v hv
 have HE:=yH hend;rw[hk]at hpc;have hkk:(((k+1:Nat):Int)-1)=k:=by omega
 have hk63:(k:Int)<=4611686018427387904:=by omega
 clear hend ho h hi hp hf hb hk hp2 hin;go_enter Tryz.func99,Tryz.ntmps99;go_wp2_with fail;refine HP.out.mono ?_;rintro e w' ⟨rfl,hw⟩;subst w';go_wp2;go_ret;exact⟨rfl,HE.out⟩
theorem BH1:(Tryz.prog.info? 5).map (·.size)=some 1:=by kernel_rfl
theorem IP (W:World)(x:Addr)(a:Nat)(ha:a<=512):(Instr.sliceAt 109 (.pointer (some x)) (some (.int .i64 a)) none none).run Tryz.prog W=.ok (.slice (some (if 512=a then x else x.add a)) (512-a) (512-a)) W:=by
 obtain⟨i,hi,hs⟩:=Option.map_eq_some_iff.1 BH1;simp[Instr.sliceAt,run_underlying Tryz.underlying109,Instr.sureAddr,Instr.sliceBounds,Instr.sliceBound,asIntOf,sizeOf,typeInfo,hi,hs,Result.andThen];rw[if_pos ha]
theorem LS (l:List UInt8)(a:Nat):splice l a []=l:=by simp[splice]
theorem AI8 (p d fb mb n hand m i a:Nat)(fr:Nat->Option Fr)(f:Fr)(s:ByteArray)(w:World)(h:AR p d fb mb n hand m fr w)(hi:fr i=some f)(hp:0<f.pins)(ha:a+s.size<=512) :
  Calls Tryz.prog 135 #[.pointer (some ⟨p,0,none⟩),.int .i64 f.page,.int .i64 a,.string s] w λe w'=>e=.returned (.int .i64 0) /\
   D2 w' fb (i*516) { f with bytes:=splice f.bytes a s.data.toList,changed:=f.changed || decide (s.size≠0) }/\BJ fb (i*516) 516 w w'/\AC (λk=>k=fb) w w':=by
 have HP:=yH (LY p d fb mb n hand m i fr f w h hi hp);obtain⟨hin,hf,hb,_⟩:=h.at_ i f hi;unfold DK at HP;have hfr:=h.froz (i*516+3);have ht:w.there fb (i*516) 516:=DC h.room (by omega) (by have:=Nat.mul_le_mul_right 516 (show i+1<=n from hin);omega)
 obtain⟨o,ho⟩:∃o,o=i*516:=⟨_,rfl⟩;rw[<-ho]at hf HP hfr ht ⊢
 have hch:=hf.changed;have he:s.data.toList.length=s.size:=rfl;have hlt:¬((512:Int)-s.size<a):=by omega
 have ha5:a<=512:=by omega
 have hsl:=λW=>IP W ⟨fb,o+4,none⟩ a ha5
 have hfar:∀(W:World) (b:Bool) j,j≠3->(W.setCell ⟨fb,o+3,none⟩ (.bool b)).cell? ⟨fb,o+j,none⟩=W.cell? ⟨fb,o+j,none⟩:=λW b j hj=>World.cell?_setCell_other _ _ _ _ (λe=>by injection e with _ e _;omega)
 by_cases h0:s.size=0
 ·have hnil:s.data.toList=[]:=List.eq_nil_of_length_eq_zero (by rw[he,h0])
  have hte:s.toList.isEmpty=true:=by rw[ByteArray.toList_eq,hnil];rfl
  obtain⟨ax,hax⟩:∃ax,(if 512=a then (⟨fb,o+4,none⟩:Addr) else (⟨fb,o+4,none⟩:Addr).add a)=ax:=⟨_,rfl⟩
  rw[hax]at hsl;clear hax;have hcp:=λ(ax:Option Addr) (x y:Nat)=>Lib.run_copy_empty_string (P:=Tryz.prog) w 102 9 3 5 ax x y s Tryz.underlying102 (by kernel_rfl) h0
  have hend:D2 (w.setCell ⟨fb,o+3,none⟩ (.bool f.changed)) fb o { f with bytes:=splice f.bytes a s.data.toList,changed:=f.changed || decide (s.size≠0) }/\BJ fb o 516 w (w.setCell ⟨fb,o+3,none⟩ (.bool f.changed))/\AC (λk=>k=fb) w (w.setCell ⟨fb,o+3,none⟩ (.bool f.changed)):=by
   rw[hnil,LS,h0];refine⟨D2.mk ((hfar w _ 0 (by omega)).trans hf.page) ((hfar w _ 1 (by omega)).trans hf.pins) ((hfar w _ 2 (by omega)).trans hf.lately) ?_ (λj v hv=>?_),BJ.setCell w _ (by omega) (by omega),AC.setCell (λk=>k=fb) w (b:=fb) rfl _⟩
   ·rw[World.cell?_setCell_same _ _ _ hch];simp
   ·rw[show o+4+j=o+(4+j) by omega,hfar w _ (4+j) (by omega),<-Nat.add_assoc]
    exact hf.bytes j v hv
  have HE:=yH hend;clear hend ho h hi hp hf hb hin hfar he ha ht hnil;have hs0:(s.size:Int)<=0:=by omega
  have hs1:(512:Int)-s.size<=512:=by omega
  have HZ:=yH h0;clear h0
  cases hcc:f.changed
  all_goals
   rw[hcc]at hch HE;clear hcc;go_enter Tryz.func135,Tryz.ntmps135;go_wp2_with fail;refine HP.out.mono ?_;rintro e w' ⟨rfl,hw⟩;subst w';go_wp2;go_ret;exact⟨rfl,HE.out⟩
 ·have hte:s.toList.isEmpty=false:=by
   rw[ByteArray.toList_eq];cases e:s.data.toList with
   | nil=>rw[e]at he;exact absurd he.symm h0
   | cons c r=>rfl
  rw[if_neg (show ¬512=a by omega),A3]at hsl
  have hta:w.there fb (o+4+a) s.size:=DC ht (by omega) (by omega)
  have hcp:=CL w 102 9 3 5 fb (o+4+a) (512-a) (512-a) s Tryz.underlying102 (by kernel_rfl) hta (by omega)
  obtain⟨w1,hw1⟩:∃w1,w1=w.setCells fb (o+4+a) (Lib.byteCells s.data.toList):=⟨_,rfl⟩;have hbl:(Lib.byteCells s.data.toList).length=s.size:=by rw[Lib.byteCells_length,he]
  have hfar1:∀j,j<4->w1.cell? ⟨fb,o+j,none⟩=w.cell? ⟨fb,o+j,none⟩:=λj hj=>by
   rw[hw1];exact World.cell?_setCells_out fb _ (o+4+a) w _ (λ_ _=>.inl (by show o+j<o+4+a;omega))
  have hch1:w1.cell? ⟨fb,o+3,none⟩=some (.bool f.changed):=(hfar1 3 (by omega)).trans hch
  have hfr1:w1.frozen? ⟨fb,o+3,none⟩=false:=by rw[hw1,World.frozen?_setCells];exact hfr
  have hend:D2 (w1.setCell ⟨fb,o+3,none⟩ (.bool true)) fb o { f with bytes:=splice f.bytes a s.data.toList,changed:=f.changed || decide (s.size≠0) }/\BJ fb o 516 w (w1.setCell ⟨fb,o+3,none⟩ (.bool true))/\AC (λk=>k=fb) w (w1.setCell ⟨fb,o+3,none⟩ (.bool true)):=by
   refine⟨D2.mk ((hfar w1 _ 0 (by omega)).trans ((hfar1 0 (by omega)).trans hf.page)) ((hfar w1 _ 1 (by omega)).trans ((hfar1 1 (by omega)).trans hf.pins)) ((hfar w1 _ 2 (by omega)).trans ((hfar1 2 (by omega)).trans hf.lately)) ?_ (λj v hv=>?_),?_,?_⟩
   ·rw[World.cell?_setCell_same _ _ _ hch1];simp[h0]
   ·rw[show o+4+j=o+(4+j) by omega,hfar w1 _ (4+j) (by omega),<-Nat.add_assoc,hw1]
    exact GA hf.bytes a s.data.toList (by rw[he,hb];exact ha) (by rw[he];exact hta) j v hv
   ·rw[hw1];exact (BJ.setCells w _ _ (by omega) (by rw[hbl];omega)).trans (BJ.setCell _ _ (by omega) (by omega))
   ·rw[hw1];exact (AC.setCells (λk=>k=fb) w (fb:=fb) rfl _).trans (AC.setCell (λk=>k=fb) _ (b:=fb) rfl _) (λ_ hi=>.inl hi)
  have HE:=yH hend;rw[<-hw1]at hcp;have hb1:(a:Int)<512:=by omega
  have hca:¬512=a:=by omega
  have hs1:(512:Int)-s.size<=512:=by omega
  have hs0:(0:Int)<s.size:=by omega
  clear hend ho h hi hp hf hb hin hfar hfar1 he ha ht hta hbl hw1 h0 hch;cases hcc:f.changed
  all_goals
   rw[hcc]at hch1 HE;clear hcc;go_enter Tryz.func135,Tryz.ntmps135;go_wp2_with fail;refine HP.out.mono ?_;rintro e w' ⟨rfl,hw⟩;subst w';go_wp2;go_ret;exact⟨rfl,HE.out⟩
def JD (fr fr':Nat->Option Fr):Prop:=∀i,∃b:Bool,fr' i=(fr i).map λf=>{ f with lately:=b }
theorem JD.refl (fr:Nat->Option Fr):JD fr fr:=λi=>by
 cases h:fr i with
 | none=>exact⟨false,rfl⟩
 | some f=>exact⟨f.lately,rfl⟩
theorem JD.set {fr fr':Nat->Option Fr}(h:JD fr fr'){i:Nat}{f:Fr}(hi:fr' i=some f)(b:Bool):JD fr (upd fr' i (some { f with lately:=b })):=λj=>by
 by_cases hj:j=i
 ·subst hj;obtain⟨c,hc⟩:=h j;rw[hi]at hc;cases hf:fr j with
  | none=>rw[hf]at hc;cases hc
  | some g =>
   rw[hf]at hc;simp only[Option.map_some,Option.some.injEq]at hc;subst hc;exact⟨b,by rw[AB];rfl⟩
 ·rw[AA _ _ hj];exact h j
section
variable {p d fb mb n hand m:Nat} {fr:Nat->Option Fr} {w w':World}
theorem AR.setHand (h:AR p d fb mb n hand m fr w){k:Nat}(hk:k<n):AR p d fb mb n k m fr (w.setCell ⟨p,4,none⟩ (.int .i64 k)):=by
 have hf:(w.setCell ⟨p,4,none⟩ (.int .i64 k)).heap[fb]? = w.heap[fb]?:=Below.heap_setCell _ _ _ _ (λe=>h.pf e.symm)
 have hm:(w.setCell ⟨p,4,none⟩ (.int .i64 k)).heap[mb]? = w.heap[mb]?:=Below.heap_setCell _ _ _ _ (λe=>h.pm e.symm)
 obtain⟨F,hF,h4,h5⟩:=h.map;refine⟨?_,h.n1,h.n2,hk,DW h.room (BJ.ofBlock (o:=0) (n:=0) hf),λj=>(World.frozen?_of_block hf).trans (h.froz j),λi f hi=>?_,h.one,⟨F,hF.block hm,h4,h5⟩,h.pf,h.pm,h.fm⟩
 ·simp only[World.setCell,Array.getElem?_modify,if_true,h.blk,Option.map_some];rfl
 ·obtain⟨a,b,c⟩:=h.at_ i f hi;exact⟨a,λj v hv=>(World.cell?_of_block hf).trans (b j v hv),c⟩
theorem AR.setLate (h:AR p d fb mb n hand m fr w){i:Nat}{f:Fr}(hi:fr i=some f)(b:Bool):AR p d fb mb n hand m (upd fr i (some { f with lately:=b })) (w.setCell ⟨fb,i*516+2,none⟩ (.bool b)):=by
 obtain⟨_,hf,hb,_⟩:=h.at_ i f hi;have hfar:∀j,j≠2->(w.setCell ⟨fb,i*516+2,none⟩ (.bool b)).cell? ⟨fb,i*516+j,none⟩=w.cell? ⟨fb,i*516+j,none⟩:=λj hj=>World.cell?_setCell_other _ _ _ _ (λe=>by injection e with _ e _;omega)
 refine h.turnFr hi (BJ.setCell w _ (by omega) (by omega)) (AC.setCell (λk=>k=fb) w (b:=fb) rfl _) (D2.mk ((hfar 0 (by omega)).trans hf.page) ((hfar 1 (by omega)).trans hf.pins) ?_ ((hfar 3 (by omega)).trans hf.changed) (λj v hv=>?_)) hb rfl
 ·exact World.cell?_setCell_same _ _ _ hf.lately
 ·rw[show i*516+4+j=i*516+(4+j) by omega,hfar (4+j) (by omega),<-Nat.add_assoc]
  exact hf.bytes j v hv
end
def AY7 (n hand k:Nat)(fr:Nat->Option Fr):Prop :=
 (∀j f,j<k->fr ((hand+j) % n)=some f->0<f.pins\/f.lately=false)/\∀j f,n<=j->j<k->fr ((hand+j) % n)=some f->0<f.pins
theorem AS3 {n hand k:Nat}{fr:Nat->Option Fr}(h:AY7 n hand k fr){f:Fr}(hf:fr ((hand+k) % n)=some f)(hp:0<f.pins):AY7 n hand (k+1) fr:=by
 refine⟨λj g hj hg=>?_,λj g hn hj hg=>?_⟩
 ·by_cases hjk:j=k
  ·subst hjk;rw[hf]at hg;cases hg;exact .inl hp
  ·exact h.1 j g (by omega) hg
 ·by_cases hjk:j=k
  ·subst hjk;rw[hf]at hg;cases hg;exact hp
  ·exact h.2 j g hn (by omega) hg
theorem AS5 {n hand k:Nat}{fr:Nat->Option Fr}(h:AY7 n hand k fr)(hn:1<=n){f:Fr}(hf:fr ((hand+k) % n)=some f)(hl:f.lately=true)(hp:f.pins=0):k<n/\AY7 n hand (k+1) (upd fr ((hand+k) % n) (some { f with lately:=false })):=by
 have hkn:k<n:=by
  by_cases hk:k<n
  ·exact hk
  ·exfalso
   have e:(hand+(k-n)) % n=(hand+k) % n:=by
    have:=Nat.add_mod_right (hand+(k-n)) n
    rw[<-this];congr 1;omega
   rcases h.1 (k-n) f (by omega) (by rw[e];exact hf) with h1|h1
   ·omega
   ·rw[hl]at h1;cases h1
 refine⟨hkn,λj g hj hg=>?_,λj g hn hj _=>by omega⟩
 by_cases he:(hand+j) % n=(hand+k) % n
 ·rw[he,AB]at hg;cases hg;exact .inr rfl
 ·rw[AA _ _ he]at hg;exact h.1 j g (by
   by_cases hjk:j=k
   ·subst hjk;exact absurd rfl he
   ·omega) hg
theorem BB5 {n hand:Nat}{fr:Nat->Option Fr}(h:AY7 n hand (2*n) fr)(hh:hand<n):∀i f,i<n->fr i=some f->0<f.pins:=by
 intro i f hi hf;obtain⟨j,hj1,hj2,hj⟩:∃j,n<=j/\j<2*n/\(hand+j) % n=i:=by
  by_cases hc:hand<=i
  ·exact⟨n+(i-hand),by omega,by omega,by rw[show hand+(n+(i-hand))=i+n by omega,Nat.add_mod_right,Nat.mod_eq_of_lt hi]⟩
  ·exact⟨n+(i+n-hand),by omega,by omega,by rw[show hand+(n+(i+n-hand))=i+n+n by omega,Nat.add_mod_right,Nat.add_mod_right,Nat.mod_eq_of_lt hi]⟩
 exact h.2 j f hj1 hj2 (by rw[hj];exact hf)
def BM5 (p d fb mb n m:Nat)(fr:Nat->Option Fr)(w:World)(e:Ending)(w':World):Prop :=
 ∃hand' fr',AR p d fb mb n hand' m fr' w'/\JD fr fr'/\AC (λk=>k=p\/k=fb) w w' /\
  (e=.returned (.pointer none)/\(∀i f,i<n->fr' i=some f->0<f.pins)\/∃i f,i<n/\fr' i=some f/\f.pins=0/\e=.returned (DK fb i))
theorem BA2 (p d fb mb n hand m:Nat)(fr:Nat->Option Fr)(w:World)(h:AR p d fb mb n hand m fr w)(hall:∀i,i<n->∃f,fr i=some f) :
  Calls Tryz.prog 180 #[.pointer (some ⟨p,0,none⟩)] w (BM5 p d fb mb n m fr w):=by
 have hc2:=h.c2;have hn1:=h.n1;have hn2:=h.n2;have hh:=h.hand_;have HH:=yH h;clear h
 have HA:=yH hall;clear hall
 go_enter Tryz.func180,Tryz.ntmps180;go_wp2;go_loopw [10] (λi wr=>∃(k hd:Nat) (fr':Nat->Option Fr),k<=2*n/\i=.int .i64 k/\Hid (hd=(hand+k) % n)/\Hid (AR p d fb mb n hd m fr' wr)/\Hid (JD fr fr')/\Hid (AY7 n hand k fr')/\Hid (AC (λk=>k=p\/k=fb) w wr)) (λi _=>2*n-(intOf i).toNat)
 case atStart=>exact⟨0,hand,fr,by omega,rfl,yH (by rw[Nat.add_zero,Nat.mod_eq_of_lt hh]),HH,yH (JD.refl _),yH ⟨λj f hj=>by omega,λj f _ hj=>by omega⟩,yH (AC.refl _ _)⟩
 case round =>
  obtain⟨k,hd,fr',hk,rfl,HD,HG,HL,HS,HK⟩:=hrel;by_cases hlt:k<2*n
  ·have hdn:hd<n:=HG.out.hand_;obtain⟨f,hf⟩:∃f,fr' hd=some f:=by
    obtain⟨g,hg⟩:=HA.out hd hdn;obtain⟨b,hb⟩:=HL.out hd;rw[hg]at hb;exact⟨_,hb⟩
   have g2:=HG.out.c2;have g4:=HG.out.c4;have gz:wr.frozen? ⟨p,4,none⟩=false:=Lib.frozen_of_heap HG.out.blk 4;have h1n:(1:Int)<=n:=by omega
   have hdi:(0:Int)<=hd:=by omega
   have hdj:(hd:Int)<n:=by omega
   have hwr:IntKind.i64.wrap ((hd:Int)+1)=(hd:Int)+1:=IntWalk.i64_in _ (by omega)
   have hn0:¬n=0:=by omega
   obtain⟨r,hr⟩:∃r:Nat,(hd+1) % n=r:=⟨_,rfl⟩;have hrn:r<n:=by rw[<-hr];exact Nat.mod_lt _ (by omega)
   have hmod:((hd:Int)+1).tmod (n:Int)=(r:Int):=by
    rw[Int.tmod_eq_emod_of_nonneg (by omega),<-hr]
    exact (Int.natCast_emod (hd+1) n).symm
   have HR:=yH hr;clear hr
   go_wp2;go_quiet (fail);obtain⟨W,hW⟩:∃W,W=wr.drewN nq:=⟨_,rfl⟩;rw[<-hW];have hG:AR p d fb mb n hd m fr' W:=by rw[hW];exact HG.out.block rfl rfl rfl
   have hK:AC (λk=>k=p\/k=fb) w W:=by rw[hW];exact HK.out.trans (AC.ofBelow (S:=λk=>k=p\/k=fb) ⟨rfl,rfl,rfl,Nat.le_refl _,λ_ _=>rfl⟩) (λ_ hi=>.inl hi)
   clear g2 g4 gz HG HK hW;have HK:=yH hK;clear hK
   have HG:=yH hG;clear hG
   have g2:=HG.out.c2;have g4:=HG.out.c4;have gz:W.frozen? ⟨p,4,none⟩=false:=Lib.frozen_of_heap HG.out.blk 4;have hpf:¬p=fb:=HG.out.pf;have hfp:¬fb=p:=λe=>hpf e.symm
   have hF:=(HG.out.at_ hd f hf).2.1;have p1:=hF.pins;have p2:=hF.lately;have pz:=HG.out.froz (hd*516+2);have HF:=yH hF;clear hF
   have HFF:=yH hf;clear hf
   have H2:Hid (AR p d fb mb n r m fr' (W.drew.setCell ⟨p,4,none⟩ (.int .i64 r))):=yH (AR.setHand (HG.out.block (w':=W.drew) rfl rfl rfl) hrn);have HK2:Hid (AC (λk=>k=p\/k=fb) w (W.drew.setCell ⟨p,4,none⟩ (.int .i64 r))):=yH ((HK.out.trans (AC.ofBelow (S:=λk=>k=p\/k=fb) (b:=W.drew) ⟨rfl,rfl,rfl,Nat.le_refl _,λ_ _=>rfl⟩) (λ_ hi=>.inl hi)).trans (AC.setCell (λk=>k=p\/k=fb) W.drew (b:=p) (.inl rfl) _) (λ_ hi=>.inl hi))
   have hrk:r=(hand+(k+1)) % n:=by rw[<-HR.out,HD.out,Nat.mod_add_mod,Nat.add_assoc]
   have HRK:=yH hrk;clear hrk
   obtain⟨pn,hpn⟩:∃pn,pn=f.pins:=⟨_,rfl⟩;obtain⟨lt,hlt'⟩:∃lt,lt=f.lately:=⟨_,rfl⟩;rw[<-hpn]at p1;rw[<-hlt']at p2;have HPN:=yH hpn;clear hpn
   have HLT:=yH hlt';clear hlt'
   by_cases hp0:pn=0
   ·subst hp0;cases lt
    ·go_wp2;go_still_tail 14,(by kernel_rfl)
     go_wp2;go_ret;exact⟨r,fr',H2.out,HL.out,HK2.out,.inr ⟨hd,f,hdn,HFF.out,HPN.out.symm,rfl⟩⟩
    ·go_wp2;go_still_tail 14,(by kernel_rfl)
     go_wp2;have hs:=AS5 HS.out hn1 (HD.out ▸ HFF.out) HLT.out.symm HPN.out.symm
     rw[<-HD.out]at hs;have HS2:=yH hs.2;clear hs
     have HL2:=yH (HL.out.set HFF.out false);have H3:=yH (H2.out.setLate HFF.out false);have HK3:=yH (HK2.out.trans (AC.setCell (λk=>k=p\/k=fb) (W.drew.setCell ⟨p,4,none⟩ (.int .i64 r)) (b:=fb) (i:=hd*516+2) (.inr rfl) (.bool false)) (λ_ hi=>.inl hi))
     go_roundw
     case rel=>exact⟨k+1,r,_,by omega,by go_num,HRK,H3,HL2,HS2,HK3⟩
     case measure=>simp[intOf];omega
   ·have hp1:(0:Int)<pn:=by omega
    go_wp2;go_still_tail 14,(by kernel_rfl)
    go_wp2;have hs:=AS3 HS.out (HD.out ▸ HFF.out) (by rw[<-HPN.out];omega)
    have HS2:=yH hs;clear hs
    go_roundw
    case rel=>exact⟨k+1,r,fr',by omega,by go_num,HRK,H2,HL,HS2,HK2⟩
    case measure=>simp[intOf];omega
  ·have hk2:k=2*n:=by omega
   subst hk2;go_wp2;go_ret;exact⟨hd,fr',HG.out,HL.out,HK.out,.inl ⟨rfl,BB5 HS.out hh⟩⟩
section
variable {P:Program} {w w':World} {ops:Array Oper} {rest:List Oper} {o:Oper} {a:Act} {Q:Exit->Act->World->Prop}
theorem DT (hg:o.guard=none)(m x:Operand)(t k:TypeId)(hop:o.op=Op.call { callee:=Callee.builtin Builtin.delete,args:=#[m,x],argTypes:=#[t,k] })
  (mv xv:Value) (hm:a.eval m=mv) (hx:a.eval x=xv) (hr:(Builtin.delete_ #[t,k] o.type #[mv,xv]).run P w=.ok (.tuple #[]) w') (h:wpList P ops Q rest (a.put o.dst (.tuple #[])) w') :
  wpList P ops Q (o::rest) a w:=by
 refine wpList_plain hg λK' hK'=>?_
 unfold Oper.wp;simp[execOp,hop,resolve,invoke,builtin,hm,hx,hr,Result.andThen];exact hK' _ _ h
theorem JM (hg:o.guard=none)(m:Operand)(t:TypeId)(hop:o.op=Op.call { callee:=Callee.builtin Builtin.len,args:=#[m],argTypes:=#[t] })
  (mv v:Value) (hm:a.eval m=mv) (hr:(Builtin.len_ #[t] o.type #[mv]).run P w=.ok v w) (h:wpList P ops Q rest (a.put o.dst v) w) :
  wpList P ops Q (o::rest) a w:=by
 refine wpList_plain hg λK' hK'=>?_
 unfold Oper.wp;simp[execOp,hop,resolve,invoke,builtin,hm,hr,Result.andThen];exact hK' _ _ h
theorem B8 (hg:o.guard=none)(m x v:Operand)(t:TypeId)(hop:o.op=Op.mapUpdate t m x v)
  (mv xv vv:Value) (hm:a.eval m=mv) (hx:a.eval x=xv) (hv:a.eval v=vv) (hr:(Instr.mapUpdate t mv xv vv).run P w=.ok () w') (h:wpList P ops Q rest (a.put o.dst undef) w') :
  wpList P ops Q (o::rest) a w:=by
 refine wpList_plain hg λK' hK'=>?_
 unfold Oper.wp;simp[execOp,hop,hm,hx,hv,hr,Result.andThen];exact hK' _ _ h
end
def N6 (n m:Nat)(fr:Nat->Option Fr):Prop:=m<=n/\∀i,i<m ↔ ∃f,fr i=some f
section
variable {p d fb mb n hand m:Nat} {fr:Nat->Option Fr} {w:World}
theorem AR.remove (h:AR p d fb mb n hand (m+1) fr w){i:Nat}{f:Fr}(hi:fr i=some f)(ty:TypeId) :
  ∃w',(Builtin.delete_ #[155,3] ty #[.map (some mb),.int .i64 f.page]).run Tryz.prog w=.ok (.tuple #[]) w'/\AR p d fb mb n hand m (upd fr i none) w'/\AC (λk=>k=mb) w w':=by
 obtain⟨F,hF,h4,h5⟩:=h.map;obtain⟨w',hr,hF',ht⟩:=hF.del Tryz.underlying155 f.page (WalkArith.wf_i64 (by have:=(h.at_ i f hi).2.2.2;omega)) (h4 i f hi) ty
 have hk:=AC.ofTurned (S:=λk=>k=mb) ht rfl
 have e1:=hk.block p h.lt h.pm;have e2:=hk.block fb h.ltF h.fm;have hup:∀j g,upd fr i none j=some g->j≠i/\fr j=some g:=λj g hg=>by
  by_cases hj:j=i
  ·subst hj;rw[AB]at hg;cases hg
  ·rw[AA _ _ hj]at hg;exact⟨hj,hg⟩
 refine⟨w',hr,⟨e1.trans h.blk,h.n1,h.n2,h.hand_,DW h.room (BJ.ofBlock (o:=0) (n:=0) e2),λj=>(World.frozen?_of_block e2).trans (h.froz j),λj g hg=>?_,λa b x y hx hy=>h.one a b x y (hup a x hx).2 (hup b y hy).2,⟨_,hF',λj g hg=>?_,λq v hv=>?_⟩,h.pf,h.pm,h.fm⟩,hk⟩
 ·obtain⟨a,b,c⟩:=h.at_ j g (hup j g hg).2;exact⟨a,λj v hv=>(World.cell?_of_block e2).trans (b j v hv),c⟩
 ·obtain⟨hj,hg'⟩:=hup j g hg;rw[BZ _ _ (λe=>hj (h.one j i g f hg' hi (by omega)))]
  exact h4 j g hg'
 ·by_cases hq:q=f.page
  ·subst hq;rw[C5]at hv;cases hv
  ·rw[BZ _ _ hq]at hv;obtain⟨j,g,hg,e3,e4⟩:=h5 q v hv;refine⟨j,g,?_,e3,e4⟩;rw[AA _ _ (λe=>?_)]
   ·exact hg
   ·subst e;rw[hi]at hg;cases hg;exact hq e3.symm
theorem AR.insert (h:AR p d fb mb n hand m fr w){i:Nat}{g:Fr}(hin:i<n)(hi:fr i=none)(hm:m<=n)(hq:g.page<4096)(hno:∀j f,fr j=some f->f.page≠g.page)(hg:D2 w fb (i*516) g)(hb:g.bytes.length=512) :
  ∃w',(Instr.mapUpdate 155 (.map (some mb)) (.int .i64 g.page) (DK fb i)).run Tryz.prog w=.ok () w'/\AR p d fb mb n hand (m+1) (upd fr i (some g)) w'/\AC (λk=>k=mb) w w':=by
 obtain⟨F,hF,h4,h5⟩:=h.map;have hnone:F g.page=none:=by
  cases hv:F g.page with
  | none=>rfl
  | some v =>
   obtain⟨j,f,hj,e,_⟩:=h5 _ v hv;exact absurd (by omega) (hno j f hj)
 obtain⟨w',hr,hF',ht⟩:=hF.put Tryz.underlying155 (by have:=h.n2;unfold maxLen;omega) g.page (WalkArith.wf_i64 (by omega)) hnone (DK fb i)
 have hk:=AC.ofTurned (S:=λk=>k=mb) ht rfl
 have e1:=hk.block p h.lt h.pm;have e2:=hk.block fb h.ltF h.fm;refine⟨w',hr,⟨e1.trans h.blk,h.n1,h.n2,h.hand_,DW h.room (BJ.ofBlock (o:=0) (n:=0) e2),λj=>(World.frozen?_of_block e2).trans (h.froz j),λj x hx=>?_,λa b x y hx hy hxy=>?_,⟨_,hF',λj x hx=>?_,λq v hv=>?_⟩,h.pf,h.pm,h.fm⟩,hk⟩
 ·by_cases hj:j=i
  ·subst hj;rw[AB]at hx;cases hx
   exact⟨hin,λj v hv=>(World.cell?_of_block e2).trans (hg j v hv),hb,hq⟩
  ·rw[AA _ _ hj]at hx;obtain⟨a,b,c⟩:=h.at_ j x hx;exact⟨a,λj v hv=>(World.cell?_of_block e2).trans (b j v hv),c⟩
 ·by_cases ha:a=i
  ·by_cases hb':b=i
   ·rw[ha,hb']
   ·subst ha;rw[AB]at hx;cases hx
    rw[AA _ _ hb']at hy;exact absurd hxy.symm (hno b y hy)
  ·by_cases hb':b=i
   ·subst hb';rw[AB]at hy;cases hy
    rw[AA _ _ ha]at hx;exact absurd hxy (hno a x hx)
   ·rw[AA _ _ ha]at hx;rw[AA _ _ hb']at hy;exact h.one a b x y hx hy hxy
 ·by_cases hj:j=i
  ·subst hj;rw[AB]at hx;cases hx
   exact C5 _ _ _
  ·rw[AA _ _ hj]at hx;rw[BZ _ _ (λe=>hno j x hx (by omega))]
   exact h4 j x hx
 ·by_cases hq':q=g.page
  ·subst hq';rw[C5]at hv;cases hv
   exact⟨i,g,AB _ _ _,rfl,rfl⟩
  ·rw[BZ _ _ hq']at hv;obtain⟨j,x,hx,e3,e4⟩:=h5 q v hv;refine⟨j,x,?_,e3,e4⟩;rw[AA _ _ (λe=>?_)]
   ·exact hx
   ·subst e;rw[hi]at hx;cases hx
theorem AR.len (h:AR p d fb mb n hand m fr w)(ty:TypeId):(Builtin.len_ #[155] ty #[.map (some mb)]).run Tryz.prog w=.ok (.int .i64 m) w:=by
 obtain⟨F,hF,_⟩:=h.map;exact hF.len Tryz.underlying155 ty
end
theorem PY (p d fb mb n hand m:Nat)(fr:Nat->Option Fr)(w:World)(h:AR p d fb mb n hand m fr w)(hm:m<n) :
  Calls Tryz.prog 137 #[.pointer (some ⟨p,0,none⟩)] w λe w'=>e=.returned (DK fb m)/\w'=w:=by
 have hc2:=h.c2;have hc3:=h.c3;have hl:=h.len 3;have hn2:=h.n2;have hmn:(m:Int)<n:=by omega
 have hm0:(0:Int)<=m:=by omega
 clear h;unfold DK;go_enter Tryz.func137,Tryz.ntmps137;go_wp2_with (refine JM rfl _ 155 rfl (.map (some mb)) _ (by rfl) hl ?_)
 go_ret;exact⟨rfl,rfl⟩
def FV (f:Fr)(ops:List AD):List AD:=if f.changed then ops++[.put 1 (f.page*512) ⟨f.bytes.toArray⟩] else ops
def VQ (S:Nat->Prop)(p d fb mb n m:Nat)(fr:Nat->Option Fr)(ops:List AD)(w:World)(e:Ending)(w':World):Prop :=
 ∃hand' fr',JD fr fr'/\(e=.returned (.pointer none)/\AR p d fb mb n hand' m fr' w'/\(∀i f,i<n->fr' i=some f->0<f.pins)/\AC (λk=>k=p\/k=fb) w w' \/
  ∃i f S',i<n/\fr' i=some f/\f.pins=0/\e=.returned (DK fb i)/\AR p d fb mb n hand' (m-1) (upd fr' i none) w'/\AT S' d (FV f ops) w'/\AC (λk=>S k\/k=p\/k=fb\/k=mb) w w'/\∀k,S' k->S k\/w.heap.size<=k)
theorem PX (p d fb mb n hand m:Nat)(fr:Nat->Option Fr)(S:Nat->Prop)(ops:List AD)(w:World)(h:AR p d fb mb n hand m fr w)(hF:N6 n m fr)(hm:m=n)(hd:AT S d ops w)(hlen:ops.length<=4398046511104)
  (h1:¬S p) (h2:¬S fb) (h3:¬S mb) :
  Calls Tryz.prog 137 #[.pointer (some ⟨p,0,none⟩)] w (VQ S p d fb mb n m fr ops w):=by
 have hc2:=h.c2;have hc3:=h.c3;have hl:=h.len 3;have hn1:=h.n1;have hmn:¬((m:Int)<n):=by omega
 have HT:=yH (BA2 p d fb mb n hand m fr w h (λi hi=>(hF.2 i).1 (by omega)))
 have HF:=yH hF;clear hF
 have HD:=yH hd;clear hd
 have HS:=yH (show ¬S p/\¬S fb/\¬S mb from⟨h1,h2,h3⟩);clear h1 h2 h3
 have HM:=yH hm;clear hm
 have HML:=yH h.ltM;clear h;go_enter Tryz.func137,Tryz.ntmps137;go_wp2_with (refine JM rfl _ 155 rfl (.map (some mb)) _ (by rfl) hl ?_)
 refine HT.out.mono ?_;rintro e w1 ⟨hand',fr',hG,hL,hK,he⟩;have HL:=yH hL;clear hL
 have HG:=yH hG;clear hG
 have HK:=yH hK;clear hK
 rcases he with⟨rfl,ha⟩|⟨i,f,hi,hf,hp,rfl⟩
 ·have HA:=yH ha;clear ha
  go_wp2;go_ret;exact⟨hand',fr',HL.out,.inl ⟨rfl,HG.out,HA.out,HK.out⟩⟩
 ·unfold DK;have c1:=HG.out.c1;obtain⟨_,hFr,hfb,hfq⟩:=HG.out.at_ i f hf;have hd1:AT S d ops w1:=HD.out.kept HK.out (λk _ hs e=>by rcases e with rfl | rfl;exact HS.out.1 hs;exact HS.out.2.1 hs)
  have HSV:=yH (BB6 fb (i*516) d f S ops w1 hd1 hlen hFr hfq hfb HG.out.froz HS.out.2.1);clear hFr hfb hfq hd1;have HFF:=yH hf;clear hf
  have HP:=yH hp;clear hp
  go_wp2_with fail;refine HSV.out.mono ?_;rintro e w2 ⟨rfl,hs⟩;have h2:∃f',f'.page=f.page/\AR p d fb mb n hand' m (upd fr' i (some f')) w2/\AC (λk=>S k\/k=p\/k=fb\/k=mb) w w2/\∃S',AT S' d (FV f ops) w2/\∀k,S' k->S k\/w.heap.size<=k:=by
   have hK1:AC (λk=>S k\/k=p\/k=fb\/k=mb) w w1:=HK.out.mono (λk hk=>hk.elim (λh=>.inr (.inl h)) (λh=>.inr (.inr (.inl h))))
   rcases hs with⟨hc,rfl⟩|⟨hc,w3,g1,g2,rfl⟩
   ·refine⟨f,rfl,?_,hK1,S,?_,λk hk=>.inl hk⟩
    ·have:upd fr' i (some f)=fr':=by
      funext j
      by_cases hj:j=i
      ·subst hj;rw[AB];exact HFF.out.symm
      ·rw[AA _ _ hj]
     rw[this];exact HG.out
    ·rw[FV,hc];exact HD.out.kept HK.out (λk _ hs e=>by rcases e with rfl | rfl;exact HS.out.1 hs;exact HS.out.2.1 hs)
   ·have hG3:=HG.out.kept g2 HS.out.1 HS.out.2.1 HS.out.2.2;obtain⟨_,hFr,hfb,_⟩:=hG3.at_ i f HFF.out;have hfar:∀j,j≠3->(w3.setCell ⟨fb,i*516+3,none⟩ (.bool false)).cell? ⟨fb,i*516+j,none⟩=w3.cell? ⟨fb,i*516+j,none⟩:=λj hj=>World.cell?_setCell_other _ _ _ _ (λe=>by injection e with _ e _;omega)
    refine⟨{ f with changed:=false },rfl,?_,?_,N4 S w1.heap.size,?_,?_⟩
    ·refine hG3.turnFr HFF.out (BJ.setCell w3 _ (by omega) (by omega)) (AC.setCell (λk=>k=fb) w3 (b:=fb) rfl _) (D2.mk ((hfar 0 (by omega)).trans hFr.page) ((hfar 1 (by omega)).trans hFr.pins) ((hfar 2 (by omega)).trans hFr.lately) ?_ (λj v hv=>?_)) hfb rfl
     ·exact World.cell?_setCell_same _ _ _ hFr.changed
     ·rw[show i*516+4+j=i*516+(4+j) by omega,hfar (4+j) (by omega),<-Nat.add_assoc]
      exact hFr.bytes j v hv
    ·exact (hK1.trans g2 (λk hk=>.inl (.inl hk))).trans (AC.setCell (λk=>k=fb) w3 (b:=fb) rfl _) (λk hk=>.inl (.inr (.inr (.inl hk))))
    ·rw[FV,if_pos hc];refine g1.kept (AC.setCell (λk=>k=fb) w3 (b:=fb) rfl _) (λk _ hs e=>?_)
     subst e;rcases hs with hs|hs
     ·exact HS.out.2.1 hs
     ·have:=HG.out.ltF;omega
    ·rintro k (hk | hk)
     ·exact .inl hk
     ·have:=HK.out.size;exact .inr (by omega)
  clear hs;obtain⟨f',hpg,hG2,hK2,S',hD2,hS2⟩:=h2;have hu:upd fr' i (some f') i=some f':=AB _ _ _;obtain⟨_,hFr,_,hfq⟩:=hG2.at_ i f' hu;have d3:=hG2.c3;have p0:=hFr.page;obtain⟨m0,hm0⟩:∃m0,m=m0+1:=⟨m-1,by have:=HM.out;omega⟩
  have hG3:AR p d fb mb n hand' (m0+1) (upd fr' i (some f')) w2.drew:=by rw[<-hm0];exact hG2.block rfl rfl rfl
  obtain⟨w4,hr,hG4,hK4⟩:=hG3.remove hu 0;rw[hpg]at hr p0;obtain⟨q,hq⟩:∃q,q=f.page:=⟨_,rfl⟩;rw[<-hq]at p0 hr;have hend:VQ S p d fb mb n m fr ops w (.returned (DK fb i)) w4:=by
   refine⟨hand',fr',HL.out,.inr ⟨i,f,S',hi,HFF.out,HP.out,rfl,?_,?_,?_,hS2⟩⟩
   ·have:upd (upd fr' i (some f')) i none=upd fr' i none:=by
     funext j
     by_cases hj:j=i
     ·subst hj;rw[AB,AB]
     ·rw[AA _ _ hj,AA _ _ hj,AA _ _ hj]
    rw[this]at hG4;rw[hm0];exact hG4
   ·refine (hD2.below (w':=w2.drew) ⟨rfl,rfl,rfl,Nat.le_refl _,λ_ _=>rfl⟩).kept hK4 (λk _ hs e=>?_)
    subst e;rcases hS2 _ hs with h|h
    ·exact HS.out.2.2 h
    ·have:=HML.out
     omega
   ·exact (hK2.trans (AC.ofBelow (S:=λ_=>False) (b:=w2.drew) ⟨rfl,rfl,rfl,Nat.le_refl _,λ_ _=>rfl⟩) (λ_ h=>h.elim)).trans hK4 (λk hk=>.inl (.inr (.inr (.inr hk))))
  have HE:=yH hend;unfold DK at HE;clear hend hG2 hK2 hD2 hS2 hu hFr hfq hG3 hG4 hK4 hpg hm0 hq;go_wp2;go_still_tail 8,(by kernel_rfl)
  go_wp2_with (refine DT rfl _ _ 155 3 rfl _ _ (by rfl) (by rfl) hr ?_)
  go_ret;exact HE.out
section
variable {p d fb mb n hand m:Nat} {fr:Nat->Option Fr} {w:World}
theorem AR.pinFr (h:AR p d fb mb n hand m fr w){i:Nat}{f:Fr}(hi:fr i=some f) :
  AR p d fb mb n hand m (upd fr i (some { f with pins:=f.pins+1,lately:=true })) ((w.setCell ⟨fb,i*516+1,none⟩ (.int .i64 (f.pins+1:Nat))).setCell ⟨fb,i*516+2,none⟩ (.bool true)) /\
  AC (λk=>k=fb) w ((w.setCell ⟨fb,i*516+1,none⟩ (.int .i64 (f.pins+1:Nat))).setCell ⟨fb,i*516+2,none⟩ (.bool true)):=by
 obtain⟨_,hf,hb,_⟩:=h.at_ i f hi;obtain⟨w1,hw1⟩:∃w1,w1=w.setCell ⟨fb,i*516+1,none⟩ (.int .i64 (f.pins+1:Nat)):=⟨_,rfl⟩;have hfar1:∀j,j≠1->w1.cell? ⟨fb,i*516+j,none⟩=w.cell? ⟨fb,i*516+j,none⟩:=λj hj=>by
  rw[hw1];exact World.cell?_setCell_other _ _ _ _ (λe=>by injection e with _ e _;omega)
 have hfar2:∀j,j≠2->(w1.setCell ⟨fb,i*516+2,none⟩ (.bool true)).cell? ⟨fb,i*516+j,none⟩=w1.cell? ⟨fb,i*516+j,none⟩:=λj hj=>World.cell?_setCell_other _ _ _ _ (λe=>by injection e with _ e _;omega)
 have hk:AC (λk=>k=fb) w (w1.setCell ⟨fb,i*516+2,none⟩ (.bool true)):=by
  rw[hw1];exact (AC.setCell (λk=>k=fb) w (b:=fb) rfl _).trans (AC.setCell (λk=>k=fb) _ (b:=fb) rfl _) (λ_ h=>.inl h)
 rw[<-hw1];refine⟨h.turnFr hi ?_ hk (D2.mk (((hfar2 0 (by omega)).trans (hfar1 0 (by omega))).trans hf.page) ?_ ?_ (((hfar2 3 (by omega)).trans (hfar1 3 (by omega))).trans hf.changed) (λj v hv=>?_)) hb rfl,hk⟩
 ·rw[hw1];exact (BJ.setCell w _ (by omega) (by omega)).trans (BJ.setCell _ _ (by omega) (by omega))
 ·rw[hfar2 1 (by omega),hw1];exact World.cell?_setCell_same _ _ _ hf.pins
 ·exact World.cell?_setCell_same _ _ _ ((hfar1 2 (by omega)).trans hf.lately)
 ·rw[show i*516+4+j=i*516+(4+j) by omega,hfar2 (4+j) (by omega),hfar1 (4+j) (by omega),<-Nat.add_assoc]
  exact hf.bytes j v hv
end
theorem AA5 (p d fb mb n hand m i:Nat)(fr:Nat->Option Fr)(f:Fr)(w:World)(h:AR p d fb mb n hand m fr w)(hi:fr i=some f)(hp2:f.pins<=4611686018427387904) :
  Calls Tryz.prog 97 #[.pointer (some ⟨p,0,none⟩),.int .i64 f.page] w λe w'=>e=.returned (.int .i64 0)/\AR p d fb mb n hand m (upd fr i (some { f with pins:=f.pins+1,lately:=true })) w'/\AC (λk=>k=fb) w w':=by
 have HG:=yH (GO p w h.c0);have hc:=h.c3;have hl:=h.look hi;obtain⟨_,hf,_,hq⟩:=h.at_ i f hi;have p1:=hf.pins;have p2:=hf.lately;have z1:=h.froz (i*516+1);have z2:=h.froz (i*516+2);have HE:=yH (h.pinFr hi);obtain⟨X,hX⟩:∃X,X=AR p d fb mb n hand m (upd fr i (some { f with pins:=f.pins+1,lately:=true })):=⟨_,rfl⟩;rw[<-hX]at HE ⊢
 obtain⟨o,ho⟩:∃o,o=i*516:=⟨_,rfl⟩;unfold DK at hl;rw[<-ho]at hl p1 p2 z1 z2 HE;obtain⟨k,hk⟩:∃k,k=f.pins:=⟨_,rfl⟩;rw[<-hk]at p1 hp2 HE;obtain⟨q,hq'⟩:∃q,q=f.page:=⟨_,rfl⟩;rw[<-hq']at hl hq ⊢
 have hq0:(0:Int)<=q:=by omega
 have hq1:(q:Int)<4096:=by omega
 have hk2:(k:Int)<=4611686018427387904:=by omega
 have hk1:((k+1:Nat):Int)=(k:Int)+1:=by omega
 rw[hk1]at HE;clear hX ho hk hq' h hf hi hp2 hk1;go_enter Tryz.func97,Tryz.ntmps97;go_wp2_with fail;refine HG.out.mono ?_;rintro e w' ⟨rfl,hw⟩;subst w';go_wp2;go_ret;exact⟨rfl,HE.out⟩
theorem AO3 (p d fb mb n hand m:Nat)(fr:Nat->Option Fr)(q:Nat)(X:World->Prop)(w:World)(h:AR p d fb mb n hand m fr w)(hq:q<4096)(hno:∀j f,fr j=some f->f.page≠q)
  (hs:Calls Tryz.prog 137 #[.pointer (some ⟨p,0,none⟩)] w λe w'=>e=.returned (.pointer none)/\X w') :
  Calls Tryz.prog 97 #[.pointer (some ⟨p,0,none⟩),.int .i64 q] w λe w'=>e=.returned (.int .i64 40)/\X w':=by
 have HG:=yH (GO p w h.c0);have hc:=h.c3;have hl:=h.look_none q (WalkArith.wf_i64 (by omega)) (λi f hi e=>hno i f hi (by omega))
 have HS:=yH hs;clear hs
 have hq0:(0:Int)<=q:=by omega
 have hq1:(q:Int)<4096:=by omega
 clear h hno;go_enter Tryz.func97,Tryz.ntmps97;go_wp2_with fail;refine HG.out.mono ?_;rintro e w' ⟨rfl,hw⟩;subst w';go_wp2_with fail;refine HS.out.mono ?_;rintro e w1 ⟨rfl,hx⟩;have HX:=yH hx;clear hx
 go_wp2;go_ret;exact⟨rfl,HX.out⟩
structure N2 (S:Nat->Prop)(p d fb mb n q hand m:Nat)(fr:Nat->Option Fr)(ops:List AD)(i:Nat)(w:World):Prop where
 g:AR p d fb mb n hand m fr w
 none_:fr i=none
 lt:i<n
 mn:m<=n
 no:∀j f,fr j=some f->f.page≠q
 disk:AT S d ops w
 oP:¬S p
 oF:¬S fb
 oM:¬S mb
def BN2 (p d fb mb n q:Nat)(X:Nat->Nat->(Nat->Option Fr)->(Nat->Prop)->List AD->World->Prop)(w':World):Prop :=
 ∃i hand' m' fr' S ops w1,N2 S p d fb mb n q hand' m' fr' ops i w1/\X i m' fr' S ops w1 /\
   AR p d fb mb n hand' (m'+1) (upd fr' i (some ⟨q,1,true,false,BT (BN ops 1) q⟩)) w'/\AT S d ops w'/\AC (λk=>k=fb\/k=mb) w1 w'
theorem OX (p d fb mb n hand m:Nat)(fr:Nat->Option Fr)(q:Nat)(X:Nat->Nat->(Nat->Option Fr)->(Nat->Prop)->List AD->World->Prop)(w:World)(h:AR p d fb mb n hand m fr w)(hq:q<4096)(hno:∀j f,fr j=some f->f.page≠q)
  (hs:Calls Tryz.prog 137 #[.pointer (some ⟨p,0,none⟩)] w λe w'=>∃i hand' m' fr' S ops,e=.returned (DK fb i)/\N2 S p d fb mb n q hand' m' fr' ops i w'/\X i m' fr' S ops w') :
  Calls Tryz.prog 97 #[.pointer (some ⟨p,0,none⟩),.int .i64 q] w λe w'=>e=.returned (.int .i64 0)/\BN2 p d fb mb n q X w':=by
 have HG:=yH (GO p w h.c0);have hc:=h.c3;have hl:=h.look_none q (WalkArith.wf_i64 (by omega)) (λi f hi e=>hno i f hi (by omega))
 have HS:=yH hs;clear hs
 have hq0:(0:Int)<=q:=by omega
 have hq1:(q:Int)<4096:=by omega
 clear h hno;go_enter Tryz.func97,Tryz.ntmps97;go_wp2_with fail;refine HG.out.mono ?_;rintro e w' ⟨rfl,hw⟩;subst w';go_wp2_with fail;refine HS.out.mono ?_;rintro e w1 ⟨i,hand',m',fr',S,ops,rfl,hSp,hx⟩;unfold DK;have HX:=yH hx;clear hx
 have c1:=hSp.g.c1;have ht:w1.there fb (i*516) 516:=DC hSp.g.room (by omega) (by have:=Nat.mul_le_mul_right 516 (show i+1<=n from hSp.lt);omega)
 have HLD:=yH (BF3 fb (i*516) d q S ops w1 hSp.disk hq ht hSp.oF);have HSP:=yH hSp;clear hSp ht
 go_wp2_with fail;refine HLD.out.mono ?_;rintro e w2 ⟨rfl,hFr,hT,hK⟩;have hG2:AR p d fb mb n hand' m' fr' w2:=by
  have hg:=HSP.out.g;obtain⟨F,hF,h4,h5⟩:=hg.map;refine⟨(hK.block p hg.lt hg.pf).trans hg.blk,hg.n1,hg.n2,hg.hand_,DW hg.room hT,λj=>(hT.froz j).trans (hg.froz j),λj f hj=>?_,hg.one,⟨F,hF.block (hK.block mb hg.ltM (λe=>hg.fm e.symm)),h4,h5⟩,hg.pf,hg.pm,hg.fm⟩
  obtain⟨a,b,c,d'⟩:=hg.at_ j f hj;refine⟨a,FH b hT ?_,c,d'⟩;rw[Fr.cells_length,c];have hji:j≠i:=λe=>by subst e;rw[HSP.out.none_]at hj;cases hj
  have:j<i\/i<j:=by omega
  rcases this with hlt|hlt
  ·left;have:=Nat.mul_le_mul_right 516 (show j+1<=i from hlt);omega
  ·right;have:=Nat.mul_le_mul_right 516 (show i+1<=j from hlt);omega
 obtain⟨w3,hr,hG3,hK3⟩:=hG2.insert (g:=⟨q,0,false,false,BT (BN ops 1) q⟩) HSP.out.lt HSP.out.none_ HSP.out.mn hq HSP.out.no hFr (FJ _ _);have c3:=hG2.c3;have hi3:upd fr' i (some (⟨q,0,false,false,BT (BN ops 1) q⟩:Fr)) i=some ⟨q,0,false,false,BT (BN ops 1) q⟩:=AB _ _ _;obtain⟨_,hF3,_,_⟩:=hG3.at_ i _ hi3;have p1:=hF3.pins;have p2:=hF3.lately;have z1:=hG3.froz (i*516+1);have z2:=hG3.froz (i*516+2);have hE:=hG3.pinFr hi3;have hend:BN2 p d fb mb n q X ((w3.setCell ⟨fb,i*516+1,none⟩ (.int .i64 1)).setCell ⟨fb,i*516+2,none⟩ (.bool true)):=by
  have hk13:AC (λk=>k=fb\/k=mb) w1 ((w3.setCell ⟨fb,i*516+1,none⟩ (.int .i64 1)).setCell ⟨fb,i*516+2,none⟩ (.bool true)) :=
   ((hK.mono (λk h=>.inl h)).trans (hK3.mono (T:=λk=>k=fb\/k=mb) (λk h=>.inr h)) (λ_ h=>.inl h)).trans (hE.2.mono (T:=λk=>k=fb\/k=mb) (λk h=>.inl h)) (λ_ h=>.inl h)
  refine⟨i,hand',m',fr',S,ops,w1,HSP.out,HX.out,?_,HSP.out.disk.kept hk13 (λk _ hs e=>by rcases e with rfl | rfl;exact HSP.out.oF hs;exact HSP.out.oM hs),hk13⟩
  have:=hE.1
  have e1:upd (upd fr' i (some (⟨q,0,false,false,BT (BN ops 1) q⟩:Fr))) i (some ⟨q,1,true,false,BT (BN ops 1) q⟩)=upd fr' i (some ⟨q,1,true,false,BT (BN ops 1) q⟩):=by
   funext j
   by_cases hj:j=i
   ·subst hj;rw[AB,AB]
   ·rw[AA _ _ hj,AA _ _ hj,AA _ _ hj]
  rw[<-e1];exact this
 have HE:=yH hend;unfold DK at hr;clear hend hE hF3 hi3 hG3 hK3 hFr hT hK hG2;go_wp2_with (refine B8 rfl _ _ _ 155 rfl _ _ _ (by rfl) (by rfl) (by rfl) hr ?_)
 go_ret;exact⟨rfl,HE.out⟩
structure Hd where
 count:Nat
 free:List Nat
 roots:List Nat
def Hd.cells (h:Hd):List Value:=.int .i64 h.count::(h.free.map (λx:Nat=>Value.int .u64 (x:Int))++h.roots.map (λx:Nat=>Value.int .i64 (x:Int)))
def Hd.word (h:Hd)(i:Nat):Nat:=h.free.getD i 0
def Hd.root (h:Hd)(i:Nat):Nat:=h.roots.getD i 0
def Hd.isFree (h:Hd)(q:Nat):Bool:=(h.word (q / 64)).testBit (q % 64)
def Hd.has (h:Hd)(q:Nat):Prop:=1<=q/\q<=h.count/\h.isFree q=false
instance (h:Hd) (q:Nat):Decidable (h.has q):=by unfold Hd.has;infer_instance
def Hd.zero:Hd:=⟨0,List.replicate 64 0,List.replicate 16 0⟩
structure Hd.Ok (h:Hd):Prop where
 nf:h.free.length=64
 nr:h.roots.length=16
 cnt:h.count<4096
 lt:∀i,h.word i<18446744073709551616
 rt:∀i,h.root i<2147483648
 in_:∀q,h.isFree q=true->1<=q/\q<=h.count
theorem Hd.cells_length {h:Hd}(k:h.Ok):h.cells.length=81:=by simp[Hd.cells,k.nf,k.nr]
theorem Hd.one (h:Hd):∀v ∈ h.cells,v.oneCell'=true:=by
 intro v hv;simp only[Hd.cells,List.mem_cons,List.mem_append,List.mem_map]at hv;rcases hv with rfl|⟨x,_,rfl⟩|⟨x,_,rfl⟩ <;> rfl
def DJ (w:World)(b o:Nat)(h:Hd):Prop:=w.rangeAt b o h.cells
section
variable {w w':World} {b o:Nat} {h:Hd}
theorem DJ.count (a:DJ w b o h):w.cell? ⟨b,o,none⟩=some (.int .i64 h.count):=a 0 _ rfl
theorem Hd.cell_word (k:h.Ok){i:Nat}(hi:i<64):h.cells[1+i]? = some (.int .u64 (h.word i:Int)):=by
 have h1:i<h.free.length:=by rw[k.nf];exact hi
 rw[Hd.cells,show 1+i=i+1 by omega,List.getElem?_cons_succ,List.getElem?_append_left (by simpa using h1),List.getElem?_map,List.getElem?_eq_getElem h1,Hd.word,List.getD_eq_getElem?_getD,List.getElem?_eq_getElem h1]
 rfl
theorem Hd.cell_root (k:h.Ok){i:Nat}(hi:i<16):h.cells[65+i]? = some (.int .i64 (h.root i:Int)):=by
 have h1:i<h.roots.length:=by rw[k.nr];exact hi
 rw[Hd.cells,show 65+i=(64+i)+1 by omega,List.getElem?_cons_succ,List.getElem?_append_right (by simp[k.nf]),List.getElem?_map,List.length_map,k.nf,show 64+i-64=i by omega,List.getElem?_eq_getElem h1,Hd.root,List.getD_eq_getElem?_getD,List.getElem?_eq_getElem h1]
 rfl
theorem DJ.word (a:DJ w b o h)(k:h.Ok){i:Nat}(hi:i<64):w.cell? ⟨b,o+1+i,none⟩=some (.int .u64 (h.word i:Int)):=by
 have:=a (1+i) _ (Hd.cell_word k hi)
 rwa [<-Nat.add_assoc]at this
theorem DJ.root (a:DJ w b o h)(k:h.Ok){i:Nat}(hi:i<16):w.cell? ⟨b,o+65+i,none⟩=some (.int .i64 (h.root i:Int)):=by
 have:=a (65+i) _ (Hd.cell_root k hi)
 rwa [<-Nat.add_assoc]at this
theorem DJ.block (a:DJ w b o h)(hb:w'.heap[b]? = w.heap[b]?):DJ w' b o h:=λj v hv=>(World.cell?_of_block hb).trans (a j v hv)
end
def Hd.setCount (h:Hd)(n:Nat):Hd:={ h with count:=n }
def Hd.setWord (h:Hd)(i x:Nat):Hd:={ h with free:=h.free.set i x }
def Hd.setRoot (h:Hd)(i x:Nat):Hd:={ h with roots:=h.roots.set i x }
theorem Hd.cells_setCount (h:Hd)(n:Nat):(h.setCount n).cells=h.cells.set 0 (.int .i64 n):=by simp[Hd.setCount,Hd.cells]
theorem Hd.cells_setWord {h:Hd}(k:h.Ok){i:Nat}(hi:i<64)(x:Nat):(h.setWord i x).cells=h.cells.set (1+i) (.int .u64 (x:Int)):=by
 rw[show 1+i=i+1 by omega]
 simp only[Hd.setWord,Hd.cells,List.set_cons_succ];rw[List.set_append_left _ _ (by simp[k.nf];omega),List.map_set]
theorem Hd.cells_setRoot {h:Hd}(k:h.Ok){i:Nat}(x:Nat):(h.setRoot i x).cells=h.cells.set (65+i) (.int .i64 (x:Int)):=by
 rw[show 65+i=(64+i)+1 by omega]
 simp only[Hd.setRoot,Hd.cells,List.set_cons_succ];rw[List.set_append_right _ _ (by simp[k.nf]),List.map_set]
 simp[k.nf]
theorem AA2 {w:World}{b o:Nat}{cs:List Value}(a:w.rangeAt b o cs)(i:Nat)(hi:i<cs.length)(v:Value):(w.setCell ⟨b,o+i,none⟩ v).rangeAt b o (cs.set i v):=λj u hu=>by
 by_cases hj:j=i
 ·subst hj;rw[List.getElem?_set_self hi]at hu;cases hu;exact World.cell?_setCell_same _ _ _ (a j _ (List.getElem?_eq_getElem hi))
 ·rw[List.getElem?_set_ne (λe=>hj e.symm)]at hu
  rw[World.cell?_setCell_other _ _ _ _ (λe=>by injection e with _ e _;omega)]
  exact a j u hu
theorem Hd.word_setWord (h:Hd)(k:h.Ok)(i x j:Nat)(hi:i<64):(h.setWord i x).word j=if j=i then x else h.word j:=by
 unfold Hd.word Hd.setWord;simp only[List.getD_eq_getElem?_getD];by_cases hj:j=i
 ·subst hj;rw[List.getElem?_set_self (by rw[k.nf];exact hi),if_pos rfl];rfl
 ·rw[List.getElem?_set_ne (λe=>hj e.symm),if_neg hj]
theorem Hd.root_setRoot (h:Hd)(k:h.Ok)(i x j:Nat)(hi:i<16):(h.setRoot i x).root j=if j=i then x else h.root j:=by
 unfold Hd.root Hd.setRoot;simp only[List.getD_eq_getElem?_getD];by_cases hj:j=i
 ·subst hj;rw[List.getElem?_set_self (by rw[k.nr];exact hi),if_pos rfl];rfl
 ·rw[List.getElem?_set_ne (λe=>hj e.symm),if_neg hj]
def Hd.turn (h:Hd)(q:Nat):Hd:=h.setWord (q / 64) (h.word (q / 64) ^^^ 2 ^ (q % 64))
theorem Hd.isFree_turn {h:Hd}(k:h.Ok){q:Nat}(hq:q<4096)(j:Nat):(h.turn q).isFree j=if j=q then !h.isFree q else h.isFree j:=by
 unfold Hd.isFree Hd.turn;rw[Hd.word_setWord h k _ _ _ (by omega)]
 by_cases hw:j / 64=q / 64
 ·rw[if_pos hw,Nat.testBit_xor,Nat.testBit_two_pow,<-hw];by_cases hj:j=q
  ·subst hj;simp
  ·rw[if_neg hj,decide_eq_false (by omega)];simp
 ·rw[if_neg hw,if_neg (by rintro rfl;exact hw rfl)]
theorem Hd.Ok.turn {h:Hd}(k:h.Ok){q:Nat}(hq:q<4096)(hin:1<=q/\q<=h.count):(h.turn q).Ok:=by
 refine⟨by simp[Hd.turn,Hd.setWord,k.nf],k.nr,k.cnt,λi=>?_,k.rt,λj hj=>?_⟩
 ·unfold Hd.turn;rw[Hd.word_setWord h k _ _ _ (by omega)]
  by_cases hi:i=q / 64
  ·rw[if_pos hi];exact Nat.xor_lt_two_pow (n:=64) (k.lt _) (Nat.pow_lt_pow_right (by omega) (by omega))
  ·rw[if_neg hi];exact k.lt i
 ·rw[Hd.isFree_turn k hq]at hj;by_cases hjq:j=q
  ·subst hjq;exact hin
  ·rw[if_neg hjq]at hj;exact k.in_ j hj
theorem Hd.zero_ok:Hd.zero.Ok:=by
 have hw:∀i,Hd.zero.word i=0:=λi=>by
  unfold Hd.word Hd.zero;simp only[List.getD_eq_getElem?_getD,List.getElem?_replicate];split <;> rfl
 have hr:∀i,Hd.zero.root i=0:=λi=>by
  unfold Hd.root Hd.zero;simp only[List.getD_eq_getElem?_getD,List.getElem?_replicate];split <;> rfl
 refine⟨rfl,rfl,by decide,λi=>by rw[hw];decide,λi=>by rw[hr];decide,λq hq=>?_⟩
 unfold Hd.isFree at hq;rw[hw]at hq;simp at hq
end Go.Proofs.YtfbbjiidccbaiaaGreatDoor
