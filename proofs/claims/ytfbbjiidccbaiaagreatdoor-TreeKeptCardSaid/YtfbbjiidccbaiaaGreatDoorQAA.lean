/- Texts of one proof, one behind the other: KA, KB, KC, KD, KE, KF, KG, KH, KI, PA. -/
import Derived.Test.YtfbbjiidccbaiaaGreatDoorProg
import Derived.WalkKit
import Derived.WalkLawsBesides
import Derived.WalkSpells
import Derived.Outline
import Derived.Below
import Derived.Lib.Hide
import Derived.Lib.BufferWrite
import Derived.Lib.UnsafeStr
import Derived.Laws.MakeOwn
import Derived.LaidEqlPtr
import Derived.Lib.AppendZerosOnto
import Derived.Laws.CopyOwn
import Derived.Deep.RegionLaw
import Derived.Deep.RegionHeld3
import Derived.Deep.RegionWith
import Derived.Laws.IdiomStrings
import Derived.Maps.RangeWalk
import Derived.Maps.Views
set_option maxRecDepth 100000
set_option maxHeartbeats 6400000
namespace Go.Proofs.YtfbbjiidccbaiaaGreatDoor
theorem yH {p : Prop} (h : p) : RowKit.Hid p := Lib.hid h
theorem yC {w : World} {b : Nat} {cs : Array Value} {T : TypeId} {fr : Nat × Nat} (hb : w.heap[b]? = some (.cells cs T fr)) (j : Nat) : w.cell? ⟨b, j, none⟩ = cs[j]? := Lib.cell_of_heap hb j
open Go.RowKit
def AB3 (b:Nat):Array Value:=#[.pointer (some ⟨b,0,none⟩),.slice none 0 0,.slice none 0 0,.slice none 0 0,.slice none 0 0,.slice none 0 0]
theorem CA6:(Tryz.prog.info? 107).map (·.size)=some 6:=by kernel_rfl
theorem BR6 (w:World) :
  Calls Tryz.prog 10 #[] w λe w'=>e=.returned (.pointer (some ⟨w.heap.size,0,none⟩))/\w'=w.alloc (.cells (AB3 w.heap.size) 107):=by
 go_enter Tryz.func10,Tryz.ntmps10;go_wp2;go_ret;exact⟨rfl,rfl⟩
theorem B4 (f:Int)(w:World) :
  Calls Tryz.prog 131 #[.int .i64 f] w λe w'=>e=.returned (.bool (decide (0<=f/\f<4)))/\w'=w:=by
 go_enter Tryz.func131,Tryz.ntmps131;go_wp2;all_goals
  go_ret;refine⟨congrArg (λb=>Ending.returned (.bool b)) ?_,rfl⟩
  grind
theorem B5 (d:Nat)(w:World)(h:w.cell? ⟨d,0,none⟩=some (.pointer (some ⟨d,0,none⟩))) :
  Calls Tryz.prog 130 #[.pointer (some ⟨d,0,none⟩)] w λe w'=>e=.returned (.bool true)/\w'=w:=by
 obtain⟨j,hj,_⟩:=Option.map_eq_some_iff.1 CA6;have hq:=run_eql_ptr_same (P:=Tryz.prog) w (tp:=26) (te:=107) ⟨d,0,none⟩ Tryz.underlying26 hj;go_enter Tryz.func130,Tryz.ntmps130;go_wp2;go_ret;exact⟨rfl,rfl⟩
theorem ZX (s:ByteArray)(w:World)(hlim:s.size<=281474976710656) :
  Calls Tryz.prog 183 #[.string s] w λe w'=>e=.returned (.string s)/\Below w.heap.size w w':=by
 by_cases h0:s.size=0
 ·have hs:s=⟨#[]⟩:=by
   apply ByteArray.ext
   exact Array.eq_empty_of_size_eq_zero h0
  subst hs;go_enter Tryz.func183,Tryz.ntmps183;go_wp2;go_ret;exact⟨rfl,Below.refl _ _⟩
 ·have infoB:(Tryz.prog.info? 5).map (λi=>(i.zero,i.size,i.bytes))=some (some (.int .u8 0),1,1):=by kernel_rfl
  obtain⟨i0,hi,hz0,hz1,hz2⟩:=info_parts infoB;have hinfo:(Tryz.prog.info? 5).map (·.size)=some 1:=by rw[hi];simp[hz1]
  have hco:Tryz.prog.cellsOf 5=1:=by simp[Program.cellsOf,hi,hz1]
  obtain⟨M,hM⟩:∃M,M=madeCells (Value.int .u8 0).cells (((s.size:Nat):Int).toNat*i0.size):=⟨_,rfl⟩;have hMs:M.size=s.size:=by rw[hM,size_madeCells,hz1];simp
  have hmk:∀W:World,(Instr.makeSlice 102 (.int .i64 (s.size:Int)) (.int .i64 (s.size:Int))).run Tryz.prog W=.ok (.slice (some ⟨W.heap.size,0,none⟩) s.size s.size) (W.alloc (.cells M 5)):=λW=>by
   have h:=run_make (P:=Tryz.prog) W 102 5 i0 (.int .u8 0) Tryz.underlying102 hi hz0 .i64 .i64 (s.size:Int) (s.size:Int) (by omega) (by omega) (by rw[hz2];omega) (by omega)
   rw[<-hM]at h;simpa using h
  clear hM;have hcp:=Lib.run_copy_row_string (P:=Tryz.prog) (w.alloc (.cells M 5)) 102 9 3 5 w.heap.size 0 s.size s.size s M 5 Tryz.underlying102 hinfo (heap_alloc_new w _) (Nat.le_refl _) (by omega)
  obtain⟨Y,hY⟩:∃Y,Y=(M.toList.take 0++Lib.byteCells s.data.toList++M.toList.drop (0+s.size)).toArray:=⟨_,rfl⟩;rw[<-hY]at hcp;have hYl:Y.toList=Lib.byteCells s.data.toList:=by
   rw[hY,List.toList_toArray,List.take_zero,List.nil_append,List.drop_of_length_le (by rw[Array.length_toList];omega),List.append_nil]
  have hYs:Y.size=s.size:=by rw[<-Array.length_toList,hYl,Lib.byteCells_length,<-Lib.size_eq]
  have hgY:((w.alloc (.cells M 5)).setRow w.heap.size Y).heap[w.heap.size]? = some (.cells Y 5 (0,0)):=setRow_heap _ _ M _ 5 (0,0) (heap_alloc_new w _);have hne:s.data.toList≠[]:=λe=>h0 (by rw[Lib.size_eq,e];rfl)
  have hUS:=Lib.run_unsafeString_row (P:=Tryz.prog) ((w.alloc (.cells M 5)).setRow w.heap.size Y) 272 3 9 5 Tryz.underlying272 hco w.heap.size Y.size (by unfold World.shape?;rw[hgY]) s.data.toList hne (by rw[<-Lib.size_eq];omega) (by rw[<-Lib.size_eq];omega)
   (λj x hx=>Lib.cells_of_row hgY Y.size j _ (by rw[List.take_of_length_le (by rw[Array.length_toList];exact Nat.le_refl _),hYl];simp[Lib.byteCells,hx]))
  rw[<-Lib.size_eq]at hUS;clear hY;go_enter Tryz.func183,Tryz.ntmps183;go_wp2;go_ret;have hb1:Below w.heap.size w (w.alloc (.cells M 5)):=(Below.refl _ w).alloc (Nat.le_refl _) _;have hb2:Below w.heap.size (w.alloc (.cells M 5)) ((w.alloc (.cells M 5)).setRow w.heap.size Y):=⟨rfl,rfl,rfl,by simp,λk hk=>setRow_other _ _ _ _ (by omega)⟩
  exact⟨rfl,Lib.below_freeze (hb1.trans hb2) (p:=⟨w.heap.size,0,none⟩) (Nat.le_refl _) _⟩
theorem AX8 (s:ByteArray)(w:World)(hlim:s.size<=281474976710656) :
  Calls Tryz.prog 148 #[.string s] w λe w'=>e=.returned (.string s)/\Below w.heap.size w w':=by
 go_enter Tryz.func148,Tryz.ntmps148;go_wp2_with (go_at_call 183;refine (ZX s _ hlim).mono ?_)
 rintro e w1 ⟨rfl,hb⟩;go_wp2;go_ret;exact⟨rfl,hb⟩
def Bytes (w:World)(v:Value)(l:List UInt8):Prop:=w.ownsRow 0 5 1 v l.length (Lib.byteCells l)
def C3 (w w':World)(v v':Value):Prop:=w.grownBy w' v.ownBlock/\∀k,v'.ownBlock=some k->v.ownBlock=some k\/w.heap.size<=k
theorem infoByte:(Tryz.prog.info? 5).map (λi=>(i.zero,i.size,i.bytes))=some (some (.int .u8 0),1,1):=by kernel_rfl
theorem F7 (n:Nat):Builtin.zeroCells #[Value.int .u8 0] n=(Lib.byteCells (List.replicate n 0)).toArray:=by
 apply Array.ext
 ·simp[Builtin.zeroCells,Lib.byteCells]
 ·intro i h1 h2;simp[Builtin.zeroCells,Lib.byteCells];have:i % 1=0:=Nat.mod_one i
  simp[this]
theorem EW (l:List UInt8)(n:Nat):(Lib.byteCells l).take n=Lib.byteCells (l.take n):=by simp[Lib.byteCells,List.map_take]
theorem Bytes.take {w:World}{v:Value}{l:List UInt8}(h:Bytes w v l){n:Nat}(hn:n<=l.length) :
  ∃ao cap,v=.slice ao l.length cap/\n<=cap/\Bytes w (.slice ao n cap) (l.take n)/\Value.ownBlock (.slice ao n cap)=v.ownBlock:=by
 rcases h.2 with⟨rfl,h0⟩|⟨g,cap,cur,rfl,_,hg,hnc,hcm,hcs,ht⟩
 ·have h1:n=0:=by omega
  subst h1;exact⟨none,0,by rw[h0],Nat.le_refl _,by rw[List.take_zero];exact World.ownsRow_nil _ _ _ _,rfl⟩
 ·have hln:(l.take n).length=n:=by rw[List.length_take];omega
  refine⟨some ⟨g,0,none⟩,cap,rfl,by omega,?_,rfl⟩
  show w.ownsRow 0 5 1 _ (l.take n).length _;rw[hln];refine⟨by rw[Lib.byteCells_length,hln];omega,.inr ⟨g,cap,cur,rfl,Nat.zero_le _,hg,by omega,hcm,hcs,?_⟩⟩
  rw[<-EW,<-ht,List.take_take];congr 1
  omega
theorem XS (w:World)(v:Value)(l:List UInt8)(h:Bytes w v l)(k:Nat)(h0:0<k)(hlen:l.length+k<=16777216)(ty:TypeId) :
  ∃v' w',(Builtin.append_ #[102,3] ty #[v,.int .i64 k]).run Tryz.prog w=.ok v' w'/\Bytes w' v' (l++List.replicate k 0)/\C3 w w' v v':=by
 obtain⟨i,hi,hz,hs,hby⟩:=info_parts infoByte;have hzc:(Value.int IntKind.u8 0).cells=#[Value.int .u8 0]:=rfl;have hlen':(l++List.replicate k 0).length=l.length+k:=by simp
 have grown:∀(old:Nat) (row:Option Nat),
   Bytes (w.drew.alloc (.cells ((Lib.byteCells l).toArray++Builtin.zeroCells #[Value.int .u8 0] k++Builtin.zeroCells #[Value.int .u8 0] (grownCap w (l.length+k) old 5-(l.length+k))) 5)) (.slice (some ⟨w.heap.size,0,none⟩) (l.length+k) (grownCap w (l.length+k) old 5)) (l++List.replicate k 0) /\
   w.grownBy (w.drew.alloc (.cells ((Lib.byteCells l).toArray++Builtin.zeroCells #[Value.int .u8 0] k++Builtin.zeroCells #[Value.int .u8 0] (grownCap w (l.length+k) old 5-(l.length+k))) 5)) row:=by
  intro old row;have hge:=grownCap_ge w (l.length+k) old 5;have hcm:grownCap w (l.length+k) old 5<=maxLen:=grownCap_le_maxLen w (l.length+k) old 5 (by unfold maxLen;omega)
  refine⟨?_,⟨rfl,rfl,rfl,by simp,λj hj _=>(Array.getElem?_push_lt (xs:=w.heap) hj).trans (Array.getElem?_eq_getElem hj).symm⟩⟩
  show World.ownsRow _ 0 5 1 _ (l++List.replicate k 0).length _;rw[hlen'];refine⟨by rw[Lib.byteCells_length,hlen'];omega,.inr ⟨w.heap.size,_,_,rfl,Nat.zero_le _,heap_alloc_new w.drew _,hge,hcm,?_,?_⟩⟩
  ·simp only[F7,Array.size_append,List.size_toArray,Lib.byteCells_length,List.length_replicate];omega
  ·simp only[F7,Array.toList_append];rw[Lib.byteCells_append];refine List.take_left' ?_;simp[Lib.byteCells_length]
 rcases h.2 with⟨rfl,hl0⟩|⟨g,cap,cur,rfl,_,hg,hnc,hcm,hcs,ht⟩
 ·obtain rfl:l=[]:=List.eq_nil_of_length_eq_zero hl0;have hr:=Lib.run_append_nil_zeros (P:=Tryz.prog) w 102 3 ty 5 i (.int .u8 0) .i64 .i64 Tryz.underlying102 Tryz.underlying3 hi hz k h0 (by omega) (by omega) (by rw[hby];simp at hlen;omega)
  have hgr:=grown 0 (Value.ownBlock (.slice none 0 0));rw[hzc]at hr;simp only[List.length_nil,Nat.zero_add,Lib.byteCells,List.map_nil,Array.empty_append]at hgr hr ⊢
  refine⟨_,_,hr,hgr.1,hgr.2,?_⟩;intro k hk;simp[Value.ownBlock]at hk;right;omega
 ·by_cases hroom:l.length+k<=cap
  ·have hst:=run_storeCells_at Tryz.prog g l.length 5 (Lib.byteCells (List.replicate k 0)) 0 cur w hg (by simp[Lib.byteCells_length];omega) (Lib.byteCells_one _)
   have hk0:¬k=0:=by omega
   have hr:(Builtin.append_ #[102,3] ty #[.slice (some ⟨g,0,none⟩) l.length cap,.int .i64 k]).run Tryz.prog w=.ok (.slice (some ⟨g,0,none⟩) (l.length+k) cap) (w.setRow g (cur.toList.take l.length++Lib.byteCells (List.replicate k 0)++cur.toList.drop (l.length+k)).toArray):=by
    have hw:IntKind.i64.wrap (k:Int)=k:=by rw[IntKind.wrap_i64];omega
    have hneg:¬((k:Int)<0):=by omega
    have h48i:¬(281474976710656<(k:Int)):=by omega
    simp only[Nat.add_zero]at hst;simp[Builtin.append_,run_underlying Tryz.underlying102,run_underlying Tryz.underlying3,sizeOf,typeInfo,zeroValue,hi,hz,hs,hby,asInt,asIntOf,hw,hneg,h48i,hroom,hk0,hzc,F7,Addr.add_lit,hst,Lib.byteCells_length]
   refine⟨_,_,hr,?_,⟨rfl,rfl,rfl,by simp,λk _ hk=>setRow_other w g k _ (λe=>hk (by simp[Value.ownBlock,e]))⟩,?_⟩
   ·show World.ownsRow _ 0 5 1 _ (l++List.replicate k 0).length _;rw[hlen'];refine⟨by rw[Lib.byteCells_length,hlen'];omega,.inr ⟨g,cap,_,rfl,Nat.zero_le _,setRow_heap w g cur _ 5 _ hg,hroom,hcm,?_,?_⟩⟩
    ·simp only[List.size_toArray,List.length_append,List.length_take,List.length_drop,Array.length_toList,Lib.byteCells_length,List.length_replicate];omega
    ·rw[Lib.byteCells_append,<-ht];simp only[Nat.mul_one];refine List.take_left' ?_;simp[Lib.byteCells_length];omega
   ·intro k' hk';exact .inl hk'
  ·have hold:(Builtin.firstCells i.size l.length (.slice (some ⟨g,0,none⟩) l.length cap)).run Tryz.prog w.drew=.ok (Lib.byteCells l).toArray w.drew:=by
    refine run_firstCells_some w.drew i.size l.length ⟨g,0,none⟩ l.length cap (Lib.byteCells l) (by rw[hs,Lib.byteCells_length];omega) ?_
    intro j u hu;exact World.ownsRow.cells (w:=w) h (g:=g) rfl j u hu
   have hr:=Lib.run_append_grow_zeros (P:=Tryz.prog) w 102 3 ty 5 i (.int .u8 0) .i64 .i64 Tryz.underlying102 Tryz.underlying3 hi hz (some ⟨g,0,none⟩) l.length cap (Lib.byteCells l) hold k h0 (by omega) (by omega) (by omega) (by rw[hby];omega) (growslice_fits (by omega) (by rw[hby];omega))
   have hgr:=grown cap (Value.ownBlock (.slice (some ⟨g,0,none⟩) l.length cap));rw[hzc]at hr;refine⟨_,_,hr,hgr.1,hgr.2,?_⟩;intro k hk;simp[Value.ownBlock]at hk;right;omega
structure AC (S:Nat->Prop)(w w':World):Prop where
 os:w'.os=w.os
 tape:w'.tape=w.tape
 output:w'.output=w.output
 size:w.heap.size<=w'.heap.size
 block:∀k,k<w.heap.size->¬S k->w'.heap[k]? = w.heap[k]?
def N4 (S:Nat->Prop)(n:Nat):Nat->Prop:=λk=>S k\/n<=k
theorem AC.refl (S:Nat->Prop)(w:World):AC S w w:=⟨rfl,rfl,rfl,Nat.le_refl _,λ_ _ _=>rfl⟩
theorem AC.trans {S T:Nat->Prop}{a b c:World}(h:AC S a b)(k:AC T b c)(hT:∀i,T i->S i\/a.heap.size<=i):AC S a c :=
 ⟨k.os.trans h.os,k.tape.trans h.tape,k.output.trans h.output,Nat.le_trans h.size k.size,λi hi hs=>(k.block i (Nat.lt_of_lt_of_le hi h.size) (λht=>(hT i ht).elim hs (by omega))).trans (h.block i hi hs)⟩
theorem AC.trans' {S:Nat->Prop}{a b c:World}(h:AC S a b)(k:AC (N4 S a.heap.size) b c):AC S a c:=h.trans k (λ_ hi=>hi)
theorem AC.mono {S T:Nat->Prop}{a b:World}(h:AC S a b)(hS:∀i,S i->T i):AC T a b:=⟨h.os,h.tape,h.output,h.size,λi hi ht=>h.block i hi (λhs=>ht (hS i hs))⟩
theorem AC.ofBelow {S:Nat->Prop}{a b:World}(h:Below a.heap.size a b):AC S a b:=⟨h.os,h.tape,h.output,h.size,λi hi _=>h.block i hi⟩
theorem AC.toBelow {S:Nat->Prop}{a b:World}{B:Nat}(h:AC S a b)(hB:B<=a.heap.size)(hS:∀i,S i->B<=i):Below B a b :=
 ⟨h.os,h.tape,h.output,h.size,λi hi=>h.block i (by omega) (λhs=>by have:=hS i hs;omega)⟩
theorem AC.ofGrown {S:Nat->Prop}{a b:World}{r:Option Nat}(h:a.grownBy b r)(hr:∀k,r=some k->S k):AC S a b :=
 ⟨h.os,h.tape,h.output,h.size,λi hi hs=>h.block i hi (λe=>hs (hr i e.symm))⟩
theorem AC.setCell (S:Nat->Prop)(w:World){b i:Nat}(hb:S b)(v:Value):AC S w (w.setCell ⟨b,i,none⟩ v) :=
 ⟨rfl,rfl,rfl,by simp[World.setCell],λk _ hk=>Below.heap_setCell _ _ _ _ (λe=>hk (by simp at e;exact e ▸ hb))⟩
theorem AG {w w':World}{B e n:Nat}{v:Value}{xs:List Value}{sz:Nat}(h:w.ownsRow B e sz v n xs)(hb:∀k,v.ownBlock=some k->w'.heap[k]? = w.heap[k]?):w'.ownsRow B e sz v n xs:=by
 refine⟨h.1,?_⟩;rcases h.2 with hn|⟨g,cap,cur,rfl,hB,hg,r⟩
 ·exact .inl hn
 ·exact .inr ⟨g,cap,cur,rfl,hB,by rw[hb g rfl];exact hg,r⟩
inductive AD where
 | put (f at':Nat) (s:ByteArray)
 | trim (f n:Nat)
def MT (l:List UInt8)(at':Nat)(cs:List UInt8):List UInt8:=splice (l++List.replicate (at'+cs.length-l.length) 0) at' cs
def upd {α:Type}(F:Nat->α)(f:Nat)(x:α):Nat->α:=λi=>if i=f then x else F i
theorem AB {α:Type}(F:Nat->α)(f:Nat)(x:α):upd F f x f=x:=by simp[upd]
theorem AA {α:Type}(F:Nat->α){f i:Nat}(x:α)(h:i≠f):upd F f x i=F i:=by simp[upd,h]
theorem AA4 (l:List UInt8)(at':Nat)(cs:List UInt8):(MT l at' cs).length=max l.length (at'+cs.length):=by
 unfold MT;rw[length_splice]
 ·simp;omega
 ·simp;omega
def AD.val:AD->Value
 | .put f at' s=>.iface 224 (.agg #[.int .i64 f,.int .i64 at',.string s])
 | .trim f n=>.iface 251 (.agg #[.int .i64 f,.int .i64 n])
def AD.run:AD->(Nat->List UInt8)->(Nat->List UInt8)
 | .put f at' s,F=>upd F f (MT (F f) at' s.data.toList)
 | .trim f n,F=>upd F f ((F f).take n)
def AD.Ok:AD->(Nat->List UInt8)->Prop
 | .put f at' s,_=>f<4/\at'+s.size<=4194304
 | .trim f n,F=>f<4/\n<=(F f).length
def BN (ops:List AD):Nat->List UInt8:=ops.foldl (λF o=>o.run F) (λ_=>[])
def AG5 (ops:List AD):Prop:=∀(i:Nat) (o:AD),ops[i]? = some o->AD.Ok o (BN (ops.take i))
theorem F3 (ops:List AD)(o:AD):BN (ops++[o])=o.run (BN ops):=by simp[BN]
theorem AU4:AG5 []:=by intro i o h;simp at h
theorem QI {ops:List AD}{o:AD}(h:AG5 ops)(ho:o.Ok (BN ops)):AG5 (ops++[o]):=by
 intro i x hx;rw[List.getElem?_append]at hx;split at hx
 ·rename_i hi
  rw[List.take_append_of_le_length (by omega)]
  exact h i x hx
 ·rename_i hi
  have hlt:=(List.getElem?_eq_some_iff.1 hx).1;simp at hlt;have:i=ops.length:=by omega
  subst this;simp at hx;subst hx;simpa using ho
theorem AH8 {o:AD}{F:Nat->List UInt8}(h:∀i,(F i).length<=4194304)(ho:o.Ok F):∀i,(o.run F i).length<=4194304:=by
 intro i;cases o with
 | put f at' s =>
  have hs:s.data.toList.length=s.size:=rfl;simp only[AD.run,upd];split
  ·rw[AA4,hs];have:=h f;have:=ho.2;omega
  ·exact h i
 | trim f n =>
  simp only[AD.run,upd];split
  ·rw[List.length_take];have:=h f;omega
  ·exact h i
theorem DA {ops:List AD}(h:AG5 ops):∀i,(BN ops i).length<=4194304:=by
 have H:∀n,n<=ops.length->∀i,(BN (ops.take n) i).length<=4194304:=by
  intro n;induction n with
  | zero=>intro _ i;simp[BN]
  | succ n ih =>
   intro hn;rw[List.take_succ_eq_append_getElem (by omega),F3]
   exact AH8 (ih (by omega)) (h n _ (List.getElem?_eq_getElem (by omega)))
 have:=H ops.length (Nat.le_refl _)
 rwa [List.take_length]at this
structure CZ (S:Nat->Prop)(d:Nat)(F:Nat->List UInt8)(ops:List AD)(vs:Nat->Value)(w:World):Prop where
 own:S d
 blk:w.heap[d]? = some (.cells #[.pointer (some ⟨d,0,none⟩),vs 0,vs 1,vs 2,vs 3,vs 4] 107 (0,0))
 file:∀i,i<4->Bytes w (vs i) (F i)
 done:w.ownsRow 0 247 1 (vs 4) ops.length (ops.map AD.val)
 foot:∀i k,i<5->(vs i).ownBlock=some k->S k/\k≠d
 inj:∀i j k,i<5->j<5->(vs i).ownBlock=some k->(vs j).ownBlock=some k->i=j
theorem CZ.lt {S:Nat->Prop}{d:Nat}{F:Nat->List UInt8}{ops:List AD}{vs:Nat->Value}{w:World}(h:CZ S d F ops vs w):d<w.heap.size:=(Array.getElem?_eq_some_iff.1 h.blk).1
theorem CZ.ltV {S:Nat->Prop}{d:Nat}{F:Nat->List UInt8}{ops:List AD}{vs:Nat->Value}{w:World}(h:CZ S d F ops vs w):∀i k,i<5->(vs i).ownBlock=some k->k<w.heap.size:=by
 intro i k hi hk;by_cases h4:i=4
 ·subst h4;exact (h.done.lt k hk).2
 ·exact (World.ownsRow.lt (h.file i (by omega)) k hk).2
theorem CZ.mono {S T:Nat->Prop}{d:Nat}{F:Nat->List UInt8}{ops:List AD}{vs:Nat->Value}{w:World}(h:CZ S d F ops vs w)(hS:∀i,S i->T i):CZ T d F ops vs w :=
 ⟨hS d h.own,h.blk,h.file,h.done,λi k hi hk=>⟨hS k (h.foot i k hi hk).1,(h.foot i k hi hk).2⟩,h.inj⟩
theorem CZ.kept {S T:Nat->Prop}{d:Nat}{F:Nat->List UInt8}{ops:List AD}{vs:Nat->Value}{w w':World}(h:CZ S d F ops vs w)(hk:AC T w w')(hd:∀k,k<w.heap.size->S k->¬T k):CZ S d F ops vs w' :=
 ⟨h.own,by rw[hk.block d h.lt (hd d h.lt h.own)];exact h.blk,
 λi hi=>AG (h.file i hi) (λk hkk=>hk.block k (h.ltV i k (by omega) hkk) (hd k (h.ltV i k (by omega) hkk) (h.foot i k (by omega) hkk).1)),
 AG h.done (λk hkk=>hk.block k (h.ltV 4 k (by omega) hkk) (hd k (h.ltV 4 k (by omega) hkk) (h.foot 4 k (by omega) hkk).1)),
 h.foot,h.inj⟩
theorem CZ.below {S:Nat->Prop}{d:Nat}{F:Nat->List UInt8}{ops:List AD}{vs:Nat->Value}{w w':World}(h:CZ S d F ops vs w)(hk:Below w.heap.size w w'):CZ S d F ops vs w' :=
 h.kept (AC.ofBelow (S:=λ_=>False) hk) (λ_ _ _=>id)
theorem BJ6 (S:Nat->Prop)(w:World)(hS:S w.heap.size):CZ S w.heap.size (λ_=>[]) [] (λ_=>.slice none 0 0) (w.alloc (.cells (AB3 w.heap.size) 107)) :=
 ⟨hS,heap_alloc_new w _,λ_ _=>World.ownsRow_nil _ _ _ _,World.ownsRow_nil _ _ _ _,λ_ k _ h=>by simp[Value.ownBlock]at h,λ_ _ k _ _ h=>by simp[Value.ownBlock]at h⟩
theorem CZ.setV {S:Nat->Prop}{d:Nat}{F F':Nat->List UInt8}{ops ops':List AD}{vs:Nat->Value}{w w1:World}(h:CZ S d F ops vs w){f:Nat}(hf:f<5){v':Value}
  (hg:C3 w w1 (vs f) v') (hF:∀i,i<4->Bytes w1 (upd vs f v' i) (F' i)) (hD:w1.ownsRow 0 247 1 (upd vs f v' 4) ops'.length (ops'.map AD.val)) :
  CZ (N4 S w.heap.size) d F' ops' (upd vs f v') (w1.setCell ⟨d,1+f,none⟩ v')/\AC S w (w1.setCell ⟨d,1+f,none⟩ v'):=by
 have hdw:=h.lt;have hb1:w1.heap[d]? = w.heap[d]?:=hg.1.block d hdw (λe=>(h.foot f d hf e.symm).2 rfl)
 have hne:∀i k,i<5->(upd vs f v' i).ownBlock=some k->N4 S w.heap.size k/\k≠d:=by
  intro i k hi hk;by_cases hif:i=f
  ·subst hif;rw[AB]at hk;rcases hg.2 k hk with h1|h1
   ·exact⟨.inl (h.foot i k hi h1).1,(h.foot i k hi h1).2⟩
   ·exact⟨.inr h1,by omega⟩
  ·rw[AA _ _ hif]at hk;exact⟨.inl (h.foot i k hi hk).1,(h.foot i k hi hk).2⟩
 have hset:∀k,k≠d->(w1.setCell ⟨d,1+f,none⟩ v').heap[k]? = w1.heap[k]?:=λk hk=>Below.heap_setCell _ _ _ _ hk
 refine⟨⟨.inl h.own,?_,?_,?_,hne,?_⟩,?_⟩
 ·have hblk:=h.blk;rw[<-hb1]at hblk;have:f=0\/f=1\/f=2\/f=3\/f=4:=by omega
  simp only[World.setCell,Array.getElem?_modify,if_true,hblk,Option.map_some];rcases this with rfl|rfl|rfl|rfl|rfl <;> simp[upd]
 ·intro i hi;exact AG (hF i hi) (λk hk=>hset k (hne i k (by omega) hk).2)
 ·exact AG hD (λk hk=>hset k (hne 4 k (by omega) hk).2)
 ·intro i j k hi hj hik hjk;by_cases hif:i=f
  ·by_cases hjf:j=f
   ·omega
   ·exfalso
    subst hif;rw[AB]at hik;rw[AA _ _ hjf]at hjk;rcases hg.2 k hik with h1|h1
    ·exact hjf (h.inj i j k hi hj h1 hjk).symm
    ·have:=h.ltV j k hj hjk;omega
  ·by_cases hjf:j=f
   ·exfalso
    subst hjf;rw[AB]at hjk;rw[AA _ _ hif]at hik;rcases hg.2 k hjk with h1|h1
    ·exact hif (h.inj i j k hi hj hik h1)
    ·have:=h.ltV i k hi hik;omega
   ·rw[AA _ _ hif]at hik;rw[AA _ _ hjf]at hjk;exact h.inj i j k hi hj hik hjk
 ·exact (AC.ofGrown hg.1 (λk hk=>(h.foot f k hf hk).1)).trans (AC.setCell S w1 h.own v') (λ_ hi=>.inl hi)
theorem CZ.setFile {S:Nat->Prop}{d:Nat}{F:Nat->List UInt8}{ops:List AD}{vs:Nat->Value}{w w1:World}(h:CZ S d F ops vs w){f:Nat}(hf:f<4){v':Value}{l:List UInt8}
  (hg:C3 w w1 (vs f) v') (hl:Bytes w1 v' l) :
  CZ (N4 S w.heap.size) d (upd F f l) ops (upd vs f v') (w1.setCell ⟨d,1+f,none⟩ v')/\AC S w (w1.setCell ⟨d,1+f,none⟩ v'):=by
 refine h.setV (by omega) hg ?_ ?_
 ·intro i hi;by_cases hif:i=f
  ·subst hif;rw[AB,AB];exact hl
  ·rw[AA _ _ hif,AA _ _ hif];exact AG (h.file i hi) (λk hk=>hg.1.block k (h.ltV i k (by omega) hk) (λe=>hif (h.inj i f k (by omega) (by omega) hk e.symm)))
 ·rw[AA _ _ (by omega:4≠f)]
  exact AG h.done (λk hk=>hg.1.block k (h.ltV 4 k (by omega) hk) (λe=>by have:=h.inj 4 f k (by omega) (by omega) hk e.symm;omega))
theorem CZ.setDone {S:Nat->Prop}{d:Nat}{F:Nat->List UInt8}{ops:List AD}{vs:Nat->Value}{w w1:World}(h:CZ S d F ops vs w){v':Value}{o:AD}
  (hg:C3 w w1 (vs 4) v') (hl:w1.ownsRow 0 247 1 v' (ops.length+1) (ops.map AD.val++[o.val])) :
  CZ (N4 S w.heap.size) d F (ops++[o]) (upd vs 4 v') (w1.setCell ⟨d,5,none⟩ v')/\AC S w (w1.setCell ⟨d,5,none⟩ v'):=by
 refine h.setV (f:=4) (by omega) hg ?_ ?_
 ·intro i hi;rw[AA _ _ (by omega:i≠4)]
  exact AG (h.file i hi) (λk hk=>hg.1.block k (h.ltV i k (by omega) hk) (λe=>by have:=h.inj i 4 k (by omega) (by omega) hk e.symm;omega))
 ·rw[AB];simpa using hl
def AT (S:Nat->Prop)(d:Nat)(ops:List AD)(w:World):Prop:=AG5 ops/\∃vs,CZ S d (BN ops) ops vs w
theorem AT.mono {S T:Nat->Prop}{d:Nat}{ops:List AD}{w:World}(h:AT S d ops w)(hS:∀i,S i->T i):AT T d ops w:=⟨h.1,h.2.imp λ_ h=>h.mono hS⟩
theorem AT.below {S:Nat->Prop}{d:Nat}{ops:List AD}{w w':World}(h:AT S d ops w)(hk:Below w.heap.size w w'):AT S d ops w':=⟨h.1,h.2.imp λ_ h=>h.below hk⟩
theorem AT.kept {S T:Nat->Prop}{d:Nat}{ops:List AD}{w w':World}(h:AT S d ops w)(hk:AC T w w')(hd:∀k,k<w.heap.size->S k->¬T k):AT S d ops w':=⟨h.1,h.2.imp λ_ h=>h.kept hk hd⟩
theorem AT.at {S:Nat->Prop}{d:Nat}{ops:List AD}{w:World}(h:AT S d ops w):S d:=h.2.elim λ_ h=>h.own
theorem AT.self {S:Nat->Prop}{d:Nat}{ops:List AD}{w:World}(h:AT S d ops w):w.cell? ⟨d,0,none⟩=some (.pointer (some ⟨d,0,none⟩)):=by
 obtain⟨vs,h⟩:=h.2;rw[yC h.blk];rfl
theorem CZ.cellV {S:Nat->Prop}{d:Nat}{F:Nat->List UInt8}{ops:List AD}{vs:Nat->Value}{w:World}(h:CZ S d F ops vs w){i:Nat}(hi:i<5):w.cell? ⟨d,1+i,none⟩=some (vs i):=by
 rw[yC h.blk];have:i=0\/i=1\/i=2\/i=3\/i=4:=by omega
 rcases this with rfl|rfl|rfl|rfl|rfl <;> rfl
theorem Bytes.alloc {w:World}{v:Value}{l:List UInt8}(h:Bytes w v l)(o:Obj):Bytes (w.alloc o) v l:=World.ownsRow.alloc h o
theorem Bytes.shape {w:World}{v:Value}{l:List UInt8}(h:Bytes w v l):∃ao n cap,v=.slice ao n cap/\n=l.length/\n<=cap/\(∀a,ao=some a->a.off=0/\a.spot=none/\v.ownBlock=some a.block)/\(ao=none->n=0):=by
 rcases h.2 with⟨rfl,h0⟩|⟨g,cap,cur,rfl,_,_,hc,_⟩
 ·exact⟨none,0,0,rfl,h0.symm,by omega,by intro a ha;simp at ha,λ_=>rfl⟩
 ·exact⟨some ⟨g,0,none⟩,_,cap,rfl,rfl,hc,by intro a ha;simp at ha;subst ha;exact⟨rfl,rfl,rfl⟩,by intro ha;simp at ha⟩
theorem JH {ops:Array Oper}{o:Oper}{a:Act}{w:World}{K:Act->World->Prop}{Q:Exit->Act->World->Prop}{E:Prop}(hgd:o.guard=none)(d s:Operand)
  (ho:o.op=.call { callee:=.builtin .copy,args:=#[d,s],argTypes:=#[102,9] }) (v:Value) (l:List UInt8) (hB:Bytes w v l) (at':Nat) (str:ByteArray) (hfit:at'+str.size<=l.length)
  (dp:Option Addr) (dl dc:Nat) (hd:a.eval d=.slice dp dl dc) (hdl:0<str.size->dl=l.length-at') (hdp:0<str.size->∃g,v.ownBlock=some g/\dp=some ⟨g,at',none⟩) (hs:a.eval s=.string str)
  (h:∀w',Bytes w' v (splice l at' str.data.toList)->w.grownBy w' v.ownBlock->K (a.put o.dst (goInt str.size)) w') :
  if Region.wanted o (yielded ops a.tmps)=true then Oper.wp Tryz.prog o a w K Q else E:=by
 have hw:Region.wanted o (yielded ops a.tmps)=true:=by simp[Region.wanted,hgd]
 rw[if_pos hw];obtain⟨i,hi,hz,hsz,hby⟩:=info_parts infoByte;have hinfo:(Tryz.prog.info? 5).map (·.size)=some 1:=by rw[hi];simp[hsz]
 have hstr:str.data.toList.length=str.size:=rfl;by_cases h0:str.size=0
 ·have hrun:=Lib.run_copy_empty_string (P:=Tryz.prog) w 102 9 o.type 5 dp dl dc str Tryz.underlying102 (by rw[hinfo];rfl) h0
  have hnil:str.data.toList=[]:=List.eq_nil_of_length_eq_zero (by rw[hstr,h0])
  unfold Oper.wp;simp[execOp,ho,resolve,invoke,builtin,hd,hs,hrun,Result.andThen];have:=h w (by rw[hnil];simpa [splice] using hB) ⟨rfl,rfl,rfl,Nat.le_refl _,λ_ _ _=>rfl⟩
  rw[h0]at this;exact this
 ·obtain⟨g,hg,rfl⟩:=hdp (by omega)
  have hdl':=hdl (by omega)
  rcases hB.2 with⟨rfl,_⟩|⟨g',cap,cur,rfl,_,hgb,hnc,hcm,hcs,ht⟩
  ·simp[Value.ownBlock]at hg
  ·obtain rfl:g'=g:=by simpa [Value.ownBlock] using hg
   have hrun:=Lib.run_copy_row_string (P:=Tryz.prog) w 102 9 o.type 5 g' at' dl dc str cur 5 Tryz.underlying102 hinfo hgb (by omega) (by omega)
   unfold Oper.wp;simp[execOp,ho,resolve,invoke,builtin,hd,hs,hrun,Result.andThen];have hsl:(splice l at' str.data.toList).length=l.length:=length_splice _ _ _ (by rw[hstr];exact hfit)
   have:=h (w.setRow g' (cur.toList.take at'++Lib.byteCells str.data.toList++cur.toList.drop (at'+str.size)).toArray) ?_ ⟨rfl,rfl,rfl,by simp,λk _ hk=>setRow_other w g' k _ (λe=>hk (by simp[Value.ownBlock,e]))⟩
   ·rw[Oper.upon_value];simpa using this
   ·show World.ownsRow _ 0 5 1 _ (splice l at' str.data.toList).length _;rw[hsl];refine⟨by rw[Lib.byteCells_length,hsl];omega,.inr ⟨g',cap,_,rfl,Nat.zero_le _,setRow_heap w g' cur _ 5 _ hgb,hnc,hcm,?_,?_⟩⟩
    ·simp only[List.size_toArray,List.length_append,List.length_take,List.length_drop,Array.length_toList,Lib.byteCells_length,hstr];omega
    ·unfold splice;simp only[Nat.mul_one,Lib.byteCells_append,List.append_assoc]at ht ⊢
     rw[<-EW];have hd2:Lib.byteCells (List.drop (at'+str.data.toList.length) l)=List.drop (at'+str.size) (Lib.byteCells l):=by simp[Lib.byteCells,List.map_drop]
     rw[hd2,<-ht,List.take_append,List.take_append,List.take_take,List.take_take];simp only[List.length_take,Array.length_toList,Lib.byteCells_length,hstr];have e1:min l.length at'=at':=by omega
     have e2:min at' l.length=at':=by omega
     have e3:min at' cur.size=at':=by omega
     rw[e1,e2,e3];congr 1
     rw[List.take_of_length_le (by rw[Lib.byteCells_length,hstr];omega)]
     congr 1
     rw[List.take_drop];congr 2
     omega
theorem KT {w W w2:World}{o:Obj}{row:Option Nat}(hg:W.grownBy w2 row)(hW:W.heap=(w.alloc o).heap){k:Nat}(hk:k<w.heap.size)(hne:some k≠row):w2.heap[k]? = w.heap[k]?:=by
 rw[hg.block k (by rw[hW];simp;omega) hne,hW]
 exact Below.heap_alloc w o k hk
theorem U3 {w W w2:World}{o:Obj}{row:Option Nat}(hg:W.grownBy w2 row)(hW:W.heap=(w.alloc o).heap)(hne:some w.heap.size≠row):w2.heap[w.heap.size]? = some o:=by
 rw[hg.block w.heap.size (by rw[hW];simp) hne,hW]
 exact heap_alloc_new w o
theorem CB0 (d f at':Nat)(s:ByteArray)(v:Value)(l:List UInt8)(w:World)(hf:f<4)(hat:at'+s.size<=4194304)(hl:l.length<=4194304)
  (hc:w.cell? ⟨d,1+f,none⟩=some v) (hfr:w.frozen? ⟨d,1+f,none⟩=false) (hdw:d<w.heap.size) (hown:Bytes w v l) (hne:v.ownBlock≠some d) :
  Calls Tryz.prog 230 #[.agg #[.int .i64 f,.int .i64 at',.string s],.pointer (some ⟨d,1,none⟩)] w λe w'=>e=.returned (.tuple #[]) /\
   ∃v' w1,Bytes w1 v' (MT l at' s.data.toList)/\C3 w w1 v v'/\w'=w1.setCell ⟨d,1+f,none⟩ v':=by
 have hstr:s.data.toList.length=s.size:=rfl;obtain⟨ao,n,cap,rfl,hn,hlc,hao,hnone⟩:=hown.shape;have HO:=yH hown;clear hown
 have HN:=yH hne;clear hne
 have HL:=yH hn;clear hn
 by_cases hgt:(n:Int)<at'+s.size
 ·obtain⟨k,hk⟩:∃k:Nat,at'+s.size-n=k:=⟨_,rfl⟩;have hk0:0<k:=by omega
  have hki:((at':Int)+s.size-n)=(k:Int):=by omega
  obtain⟨v',w1,hr,hB1,hG1⟩:=XS ((w.alloc (.cells #[.int .i64 f,.int .i64 at',.string s] 224)).drew) (.slice ao n cap) l (HO.out.alloc _) k hk0 (by omega) 102
  obtain⟨ao',n',cap',rfl,hn',hlc',hao',hnone'⟩:=hB1.shape;rw[List.length_append,List.length_replicate,<-HL.out]at hn';have hn2:n'=at'+s.size:=by omega
  rw[<-hki]at hr;have hlt:∀k,(Value.slice ao n cap).ownBlock=some k->k<w.heap.size:=λk hk=>(World.ownsRow.lt HO.out k hk).2
  have hbd1:w1.heap[d]? = w.heap[d]?:=KT (w:=w) (o:=.cells #[.int .i64 f,.int .i64 at',.string s] 224) hG1.1 rfl hdw (λe=>HN.out e.symm)
  have hbn1:=U3 (w:=w) (o:=.cells #[.int .i64 f,.int .i64 at',.string s] 224) hG1.1 rfl (λe=>absurd (hlt _ e.symm) (Nat.lt_irrefl _))
  have hne':∀j,(Value.slice ao' n' cap').ownBlock=some j->(Value.slice ao n cap).ownBlock=some j\/w.heap.size<j:=λj hj=>(hG1.2 j hj).imp id (λh=>by simp at h;omega)
  have hq1:w1.cell? ⟨w.heap.size,1,none⟩=some (.int .i64 at'):=by rw[yC hbn1];rfl
  have hq2:w1.cell? ⟨w.heap.size,2,none⟩=some (.string s):=by rw[yC hbn1];rfl
  have hle:at'<=n':=by omega
  have hfit:at'+s.size<=(l++List.replicate k 0).length:=by have:=HL.out;simp;omega
  have hdl:0<s.size->n'-at'=(l++List.replicate k 0).length-at':=by intro _;have:=HL.out;simp;omega
  obtain⟨ax,hax⟩:∃ax,(if cap'=at' then ao' else Option.map (λx=>x.add at') ao')=ax:=⟨_,rfl⟩
  have hdp:0<s.size->∃g,(Value.slice ao' n' cap').ownBlock=some g/\ax=some ⟨g,at',none⟩:=by
   intro h0;rw[<-hax];cases ao' with
   | none=>have:=hnone' rfl;omega
   | some a =>
    obtain⟨h1,h2,h3⟩:=hao' a rfl;refine⟨_,h3,?_⟩;rw[if_neg (by omega)]
    cases a with
    | mk b o sp=>simp at h1 h2;subst h1 h2;simp[Addr.add,eq_comm]
  have HP:=yH hdp;clear hdp
  have HDL:=yH hdl;clear hdl
  have HN':=yH hne';clear hne'
  have HB1:=yH hB1;clear hB1
  have HG1:=yH hG1;clear hG1
  have HBD:=yH hbd1;clear hbd1
  have HBN:=yH hbn1;clear hbn1
  have HK:=yH hk;clear hk hki
  have HLT:=yH hlt;clear hlt
  clear hao' hnone' hao hnone hn' hn2;go_enter Tryz.func230,Tryz.ntmps230;go_wp2;go_region
  go_wp2_with (at_builtin;refine Lib.wpList_append_run _ rfl _ _ 102 3 rfl _ _ rfl rfl _ _ hr ?_)
  go_region_law (refine JH rfl _ _ rfl (.slice ao' n' cap') (l++List.replicate k 0) HB1.out at' s hfit _ _ _ rfl HDL.out HP.out rfl ?_;intro w2 hB2 hg2)
  all_goals
   have hsz:w.heap.size<w1.heap.size:=(Array.getElem?_eq_some_iff.1 HBN.out).1;have hbd:w2.heap[d]? = w.heap[d]?:=(hg2.block d (show d<w1.heap.size by omega) (λe=>(HN'.out d e.symm).elim (λh=>HN.out h) (by omega))).trans HBD.out
   have hbn:w2.heap[w.heap.size]? = some (.cells #[.int .i64 f,.int .i64 at',.string s] 224):=(hg2.block w.heap.size (show w.heap.size<w1.heap.size from hsz) (λe=>(HN'.out _ e.symm).elim (λh=>absurd (HLT.out _ h) (Nat.lt_irrefl _)) (by omega))).trans HBN.out
   have hc2:w2.cell? ⟨d,1+f,none⟩=some (.slice ao n cap):=by rw[World.cell?_of_block (w:=w) hbd];exact hc
   have hf2:w2.frozen? ⟨d,1+f,none⟩=false:=by rw[World.frozen?_of_block (w:=w) hbd];exact hfr
   have hq0:w2.cell? ⟨w.heap.size,0,none⟩=some (.int .i64 f):=by rw[yC hbn];rfl
   have hG:C3 w w2.drew (.slice ao n cap) (.slice ao' n' cap'):=by
    refine⟨⟨hg2.os.trans HG1.out.1.os,hg2.tape.trans HG1.out.1.tape,hg2.output.trans HG1.out.1.output,?_,?_⟩,?_⟩
    ·have:=hg2.size
     have h3:w1.heap.size<=w2.heap.size:=this;show w.heap.size<=w2.heap.size;omega
    ·intro j hj hne;refine (hg2.block j (show j<w1.heap.size by omega) (λe=>?_)).trans (KT (w:=w) (o:=.cells #[.int .i64 f,.int .i64 at',.string s] 224) HG1.out.1 rfl hj hne)
     rcases HN'.out j e.symm with h|h
     ·exact hne h.symm
     ·omega
    ·intro j hj;rcases HN'.out j hj with h|h
     ·exact .inl h
     ·exact .inr (by omega)
   have HG:=yH hG;clear hG
   have HB2:=yH hB2;clear hB2
   clear hg2;have hf4:(f:Int)<4:=by omega
   go_wp2;go_region
   go_wp2;go_end0
   refine⟨rfl,_,w2.drew,?_,HG.out,rfl⟩;have hq:MT l at' s.data.toList=splice (l++List.replicate k 0) at' s.data.toList:=by
    unfold MT;rw[hstr,<-HL.out,HK.out]
   rw[hq];exact HB2.out
 ·have hle:at'<=n:=by omega
  have hfit:at'+s.size<=l.length:=by have:=HL.out;omega
  have hdl:0<s.size->n-at'=l.length-at':=by intro _;rw[<-HL.out]
  obtain⟨ax,hax⟩:∃ax,(if cap=at' then ao else Option.map (λx=>x.add at') ao)=ax:=⟨_,rfl⟩
  have hdp:0<s.size->∃g,(Value.slice ao n cap).ownBlock=some g/\ax=some ⟨g,at',none⟩:=by
   intro h0;rw[<-hax];cases ao with
   | none=>have:=hnone rfl;omega
   | some a =>
    obtain⟨h1,h2,h3⟩:=hao a rfl;refine⟨_,h3,?_⟩;rw[if_neg (by omega)]
    cases a with
    | mk b o sp=>simp at h1 h2;subst h1 h2;simp[Addr.add,eq_comm]
  have HP:=yH hdp;clear hdp
  have HDL:=yH hdl;clear hdl
  clear hao hnone;go_enter Tryz.func230,Tryz.ntmps230;go_wp2;go_region
  go_wp2;go_region_law (refine JH rfl _ _ rfl (.slice ao n cap) l (HO.out.alloc _) at' s hfit _ _ _ rfl HDL.out HP.out rfl ?_;intro w2 hB2 hg2)
  all_goals
   have hlt:∀k,(Value.slice ao n cap).ownBlock=some k->k<w.heap.size:=λk hk=>(World.ownsRow.lt HO.out k hk).2
   have hbd:w2.heap[d]? = w.heap[d]?:=KT (w:=w) (o:=.cells #[.int .i64 f,.int .i64 at',.string s] 224) hg2 rfl hdw (λe=>HN.out e.symm)
   have hbn:=U3 (w:=w) (o:=.cells #[.int .i64 f,.int .i64 at',.string s] 224) hg2 rfl (λe=>absurd (hlt _ e.symm) (Nat.lt_irrefl _))
   have hc2:w2.cell? ⟨d,1+f,none⟩=some (.slice ao n cap):=by rw[World.cell?_of_block (w:=w) hbd];exact hc
   have hf2:w2.frozen? ⟨d,1+f,none⟩=false:=by rw[World.frozen?_of_block (w:=w) hbd];exact hfr
   have hq0:w2.cell? ⟨w.heap.size,0,none⟩=some (.int .i64 f):=by rw[yC hbn];rfl
   have hG:C3 w w2.drew (.slice ao n cap) (.slice ao n cap):=⟨⟨hg2.os,hg2.tape,hg2.output,by have:=hg2.size;simp at this;show w.heap.size<=w2.heap.size;omega,λk hk hne=>KT (w:=w) (o:=.cells #[.int .i64 f,.int .i64 at',.string s] 224) hg2 rfl hk hne⟩,λk hk=>.inl hk⟩
   have HG:=yH hG;clear hG
   have HB2:=yH hB2;clear hB2
   clear hg2;have hf4:(f:Int)<4:=by omega
   go_wp2;go_region
   go_wp2;go_end0
   refine⟨rfl,_,w2.drew,?_,HG.out,rfl⟩;have hq:MT l at' s.data.toList=splice l at' s.data.toList:=by
    unfold MT;rw[hstr,show at'+s.size-l.length=0 by omega,List.replicate_zero,List.append_nil]
   rw[hq];exact HB2.out
theorem BW4 (d f n0:Nat)(v:Value)(l:List UInt8)(w:World)(hf:f<4)(hn0:n0<=l.length)(_hl:l.length<=4194304)
  (hc:w.cell? ⟨d,1+f,none⟩=some v) (hfr:w.frozen? ⟨d,1+f,none⟩=false) (hdw:d<w.heap.size) (hown:Bytes w v l) :
  Calls Tryz.prog 231 #[.agg #[.int .i64 f,.int .i64 n0],.pointer (some ⟨d,1,none⟩)] w λe w'=>e=.returned (.tuple #[]) /\
   ∃v' w1,Bytes w1 v' (l.take n0)/\C3 w w1 v v'/\w'=w1.setCell ⟨d,1+f,none⟩ v':=by
 obtain⟨ao,cap,rfl,hnc,hB,hob⟩:=hown.take hn0;have hBlt:∀k,(Value.slice ao n0 cap).ownBlock=some k->k<w.heap.size:=λk hk=>(World.ownsRow.lt hB k hk).2
 obtain⟨ll,hll⟩:∃ll,ll=l.length:=⟨_,rfl⟩;rw[<-hll]at hc hob _hl hn0 ⊢
 have HO:=yH hown;clear hown
 have HB:=yH hB;clear hB
 have HL:=yH hll;clear hll
 have HOB:=yH hob;clear hob
 clear hBlt;have hf4:(f:Int)<4:=by omega
 go_enter Tryz.func231,Tryz.ntmps231;go_wp2;go_region
 go_wp2;go_end0
 refine⟨rfl,_,(w.alloc (.cells #[.int .i64 f,.int .i64 n0] 251)).drew,HB.out.alloc _,⟨⟨rfl,rfl,rfl,?_,?_⟩,?_⟩,?_⟩
 ·show w.heap.size<=(w.heap.push _).size;simp
 ·intro k hk _;exact Below.heap_alloc w _ k hk
 ·intro k hk;rw[HOB.out]at hk;exact .inl hk
 ·have:=World.setCell_alloc_past (w:=w) (.cells #[.int .i64 f,.int .i64 n0] 251) d (1+f) (.slice ao n0 cap) hdw
  exact (congrArg World.drew this).symm
theorem AV6:(Tryz.prog.info? 247).map (λi=>(i.zero,i.size,i.bytes))=some (some .nilIface,1,16):=by kernel_rfl
theorem OM (w:World)(v:Value)(ops:List AD)(o:AD)(h:w.ownsRow 0 247 1 v ops.length (ops.map AD.val))(hlen:ops.length<=4398046511104)(ad:Addr)(c:Nat)(hc:w.cell? ad=some o.val)(ty:TypeId) :
  ∃v' w',(Builtin.append_ #[105,105] ty #[v,.slice (some ad) 1 c]).run Tryz.prog w=.ok v' w'/\w'.ownsRow 0 247 1 v' (ops.length+1) (ops.map AD.val++[o.val])/\C3 w w' v v':=by
 obtain⟨i,hi,hz,hs,hby⟩:=info_parts AV6;have hnews:∀j u,[o.val][j]? = some u->w.cell? (ad.add j)=some u:=by
  intro j u hu;have:j=0:=by have:=(List.getElem?_eq_some_iff.1 hu).1;simp at this;exact this
  subst this;simp at hu;subst hu;rw[show ad.add 0=ad by cases ad with | mk b o sp=>cases sp <;> simp[Addr.add]]
  exact hc
 have h1:∀u ∈ [o.val],u.oneCell'=true:=by intro u hu;simp at hu;subst hu;cases o <;> rfl
 obtain⟨v',w',hr,h2,h3,_⟩:=run_append_own (P:=Tryz.prog) w 0 105 ty 247 i .nilIface 1 16 Tryz.underlying105 hi hz hs hby rfl (by decide) v ops.length (ops.map AD.val) h ad 1 c [o.val] rfl hnews h1 (by unfold maxLen;omega) (by omega) (Nat.zero_le _)
 refine⟨v',w',hr,h2,h3,?_⟩;intro k hk;rcases h.2 with⟨rfl,h0⟩|⟨g,cap,cur,rfl,_,hg,hnc,hcm,hcs,ht⟩
 ·obtain rfl:ops=[]:=List.eq_nil_of_length_eq_zero h0;obtain⟨v2,w2,hr2,ho2,_⟩:=run_append_own (P:=Tryz.prog) w w.heap.size 105 ty 247 i .nilIface 1 16 Tryz.underlying105 hi hz hs hby rfl (by decide) (.slice none 0 0) 0 [] (World.ownsRow_nil _ _ _ _) ad 1 c [o.val] rfl hnews h1 (by unfold maxLen;omega) (by omega) (Nat.le_refl _)
  rw[hr]at hr2;cases hr2;exact .inr (ho2.lt k hk).1
 ·by_cases hroom:ops.length+1<=cap
  ·have hr2:=run_append_room (P:=Tryz.prog) w 105 ty 247 i Tryz.underlying105 hi g ops.length cap cur hg ad 1 c [o.val] (by rw[hs];rfl) hnews h1 hroom (by rw[hs];simp;omega)
   rw[hr]at hr2;cases hr2;exact .inl hk
  ·have hr2:=run_append_grow (P:=Tryz.prog) w 105 ty 247 i .nilIface Tryz.underlying105 hi hz ⟨g,0,none⟩ ops.length cap (ops.map AD.val) (by rw[hs];simp) (World.ownsRow.cells (w:=w) h (g:=g) rfl) ad 1 c [o.val] (by rw[hs];rfl) hnews (by omega) (by omega) (growslice_fits (by omega) (by rw[hby];omega))
   rw[hr]at hr2;cases hr2;simp[Value.ownBlock]at hk;right;omega
theorem BY8 (o:AD)(S:Nat->Prop)(d:Nat)(F:Nat->List UInt8)(ops:List AD)(vs:Nat->Value)(w:World)(h:CZ S d F ops vs w)(hF:∀i,(F i).length<=4194304)(ho:o.Ok F) :
  ∃(t:TypeId) (xs:Array Value) (g:FuncId),o.val=.iface t (.agg xs)/\(t=224/\g=230\/t=251/\g=231) /\
   Calls Tryz.prog g #[.agg xs,.pointer (some ⟨d,1,none⟩)] w λe w'=>e=.returned (.tuple #[])/\∃vs',CZ (N4 S w.heap.size) d (o.run F) ops vs' w'/\AC S w w':=by
 cases o with
 | put f at' s =>
  obtain⟨hf,hat⟩:=ho;refine⟨224,_,230,rfl,.inl ⟨rfl,rfl⟩,?_⟩;refine (CB0 d f at' s (vs f) (F f) w hf hat (hF f) (h.cellV (by omega)) (Lib.frozen_of_heap h.blk _) h.lt (h.file f hf) (λe=>(h.foot f d (by omega) e).2 rfl)).mono ?_
  rintro e w' ⟨rfl,v',w1,hB,hG,rfl⟩;have:=h.setFile hf hG hB
  exact⟨rfl,_,this.1,this.2⟩
 | trim f n =>
  obtain⟨hf,hn⟩:=ho;refine⟨251,_,231,rfl,.inr ⟨rfl,rfl⟩,?_⟩;refine (BW4 d f n (vs f) (F f) w hf hn (hF f) (h.cellV (by omega)) (Lib.frozen_of_heap h.blk _) h.lt (h.file f hf)).mono ?_
  rintro e w' ⟨rfl,v',w1,hB,hG,rfl⟩;have:=h.setFile hf hG hB
  exact⟨rfl,_,this.1,this.2⟩
theorem BM1 (xs:Array Value)(w:World):(nilAhead 399 224 (.agg xs) "vestibule/disk.do").run Tryz.prog w=.ok (some false) w:=by kernel_rfl
theorem AY5 (xs:Array Value)(w:World):(nilAhead 399 251 (.agg xs) "vestibule/disk.do").run Tryz.prog w=.ok (some false) w:=by kernel_rfl
theorem BR8 (xs:Array Value)(w:World):(method 399 224 (.agg xs) "vestibule/disk.do").run Tryz.prog w=.ok (230,.agg xs) w:=by kernel_rfl
theorem BE9 (xs:Array Value)(w:World):(method 399 251 (.agg xs) "vestibule/disk.do").run Tryz.prog w=.ok (231,.agg xs) w:=by kernel_rfl
theorem BY9 (o:AD)(S:Nat->Prop)(d:Nat)(ops:List AD)(w:World)(h:AT S d ops w)(ho:o.Ok (BN ops))(hlen:ops.length<=4398046511104) :
  Calls Tryz.prog 147 #[.pointer (some ⟨d,0,none⟩),o.val] w λe w'=>e=.returned (.tuple #[])/\AT (N4 S w.heap.size) d (ops++[o]) w'/\AC S w w':=by
 obtain⟨hok,vs,h⟩:=h;have hF:=DA hok;obtain⟨t,xs,g,hv,htg,hc⟩:=BY8 o S d (BN ops) ops vs w.drew (h.kept (w':=w.drew) (T:=λ_=>False) ⟨rfl,rfl,rfl,Nat.le_refl _,λ_ _ _=>rfl⟩ (λ_ _ _=>id)) hF ho
 have HD:=yH h;clear h
 have HO:=yH ho;clear ho
 have HF:=yH hF;clear hF
 have HC:=yH hc;clear hc
 have HV:=yH hv;rw[hv];clear hv;rcases htg with⟨rfl,rfl⟩|⟨rfl,rfl⟩
 ·have ha:=BM1 xs;have hm:=BR8 xs;go_enter Tryz.func147,Tryz.ntmps147;go_wp2;go_region_with (go_at_call 230;refine HC.out.mono ?_;rintro e w1 ⟨rfl,h1⟩)
  obtain⟨vs',h1,hk1⟩:=h1;have hcx:(w1.alloc (.cells #[Value.iface 224 (.agg xs)] 247)).cell? ⟨w1.heap.size,0,none⟩=some o.val:=by
   rw[yC (heap_alloc_new w1 _),HV.out];rfl
  have h2:=h1.below (w':=w1.alloc (.cells #[Value.iface 224 (.agg xs)] 247)) ((Below.refl _ _).alloc (Nat.le_refl _) _);obtain⟨v',w3,hr,how,hG⟩:=OM (w1.alloc (.cells #[Value.iface 224 (.agg xs)] 247)) (vs' 4) ops o h2.done hlen ⟨w1.heap.size,0,none⟩ 1 hcx 105;obtain⟨gg,nn,cc,rfl⟩:∃gg nn cc,v'=.slice gg nn cc:=by
   rcases how.2 with⟨rfl,_⟩|⟨g,cap,cur,rfl,_⟩
   ·exact⟨_,_,_,rfl⟩
   ·exact⟨_,_,_,rfl⟩
  have c5:w1.cell? ⟨d,5,none⟩=some (vs' 4):=h1.cellV (i:=4) (by omega)
  have hdlt:=h1.lt;have hb3:w3.heap[d]? = some (.cells #[.pointer (some ⟨d,0,none⟩),vs' 0,vs' 1,vs' 2,vs' 3,vs' 4] 107 (0,0)):=by
   rw[hG.1.block d (by simp;omega) (λe=>(h1.foot 4 d (by omega) e.symm).2 rfl),Below.heap_alloc w1 _ d hdlt]
   exact h1.blk
  have d5:w3.cell? ⟨d,5,none⟩=some (vs' 4):=by rw[yC hb3];rfl
  have f5:w3.frozen? ⟨d,5,none⟩=false:=Lib.frozen_of_heap hb3 5;have h4:=h2.setDone hG how;have H4:=yH h4;clear h4
  have HG:=yH hG;clear hG
  have HW:=yH how;clear how
  have HX:=yH hcx;clear hcx
  have H2:=yH h2;clear h2
  have H1:=yH h1;clear h1
  have HK1:=yH hk1;clear hk1
  have HB3:=yH hb3;clear hb3
  go_wp2_with (at_builtin;refine Lib.wpList_append_run _ rfl _ _ 105 105 rfl _ _ rfl rfl _ _ hr ?_)
  go_end0
  have hsz:w.heap.size<=w1.heap.size:=HK1.out.size;have hk:AC S w (w1.alloc (.cells #[Value.iface 224 (.agg xs)] 247)):=(AC.trans' (S:=S) ⟨HK1.out.os,HK1.out.tape,HK1.out.output,hsz,HK1.out.block⟩ (AC.ofBelow ((Below.refl _ w1).alloc (Nat.le_refl _) _)));refine⟨rfl,⟨QI hok HO.out,upd vs' 4 (.slice gg nn cc),?_⟩,hk.trans' H4.out.2⟩;rw[F3];refine H4.out.1.mono ?_;intro i hi;rcases hi with hi|hi
  ·exact hi
  ·refine .inr ?_;simp at hi;omega
 ·have ha:=AY5 xs;have hm:=BE9 xs;go_enter Tryz.func147,Tryz.ntmps147;go_wp2;go_region_with (go_at_call 231;refine HC.out.mono ?_;rintro e w1 ⟨rfl,h1⟩)
  obtain⟨vs',h1,hk1⟩:=h1;have hcx:(w1.alloc (.cells #[Value.iface 251 (.agg xs)] 247)).cell? ⟨w1.heap.size,0,none⟩=some o.val:=by
   rw[yC (heap_alloc_new w1 _),HV.out];rfl
  have h2:=h1.below (w':=w1.alloc (.cells #[Value.iface 251 (.agg xs)] 247)) ((Below.refl _ _).alloc (Nat.le_refl _) _);obtain⟨v',w3,hr,how,hG⟩:=OM (w1.alloc (.cells #[Value.iface 251 (.agg xs)] 247)) (vs' 4) ops o h2.done hlen ⟨w1.heap.size,0,none⟩ 1 hcx 105;obtain⟨gg,nn,cc,rfl⟩:∃gg nn cc,v'=.slice gg nn cc:=by
   rcases how.2 with⟨rfl,_⟩|⟨g,cap,cur,rfl,_⟩
   ·exact⟨_,_,_,rfl⟩
   ·exact⟨_,_,_,rfl⟩
  have c5:w1.cell? ⟨d,5,none⟩=some (vs' 4):=h1.cellV (i:=4) (by omega)
  have hdlt:=h1.lt;have hb3:w3.heap[d]? = some (.cells #[.pointer (some ⟨d,0,none⟩),vs' 0,vs' 1,vs' 2,vs' 3,vs' 4] 107 (0,0)):=by
   rw[hG.1.block d (by simp;omega) (λe=>(h1.foot 4 d (by omega) e.symm).2 rfl),Below.heap_alloc w1 _ d hdlt]
   exact h1.blk
  have d5:w3.cell? ⟨d,5,none⟩=some (vs' 4):=by rw[yC hb3];rfl
  have f5:w3.frozen? ⟨d,5,none⟩=false:=Lib.frozen_of_heap hb3 5;have h4:=h2.setDone hG how;have H4:=yH h4;clear h4
  have HG:=yH hG;clear hG
  have HW:=yH how;clear how
  have HX:=yH hcx;clear hcx
  have H2:=yH h2;clear h2
  have H1:=yH h1;clear h1
  have HK1:=yH hk1;clear hk1
  have HB3:=yH hb3;clear hb3
  go_wp2_with (at_builtin;refine Lib.wpList_append_run _ rfl _ _ 105 105 rfl _ _ rfl rfl _ _ hr ?_)
  go_end0
  have hsz:w.heap.size<=w1.heap.size:=HK1.out.size;have hk:AC S w (w1.alloc (.cells #[Value.iface 251 (.agg xs)] 247)):=(AC.trans' (S:=S) ⟨HK1.out.os,HK1.out.tape,HK1.out.output,hsz,HK1.out.block⟩ (AC.ofBelow ((Below.refl _ w1).alloc (Nat.le_refl _) _)));refine⟨rfl,⟨QI hok HO.out,upd vs' 4 (.slice gg nn cc),?_⟩,hk.trans' H4.out.2⟩;rw[F3];refine H4.out.1.mono ?_;intro i hi;rcases hi with hi|hi
  ·exact hi
  ·refine .inr ?_;simp at hi;omega
def BN5 (p:Value)(w:World):Prop:=Calls Tryz.prog 130 #[p] w λe w'=>e=.returned (.bool false)/\w'=w
theorem Y3 (f at':Nat)(s:ByteArray)(S:Nat->Prop)(d:Nat)(ops:List AD)(w:World)(h:AT S d ops w)(hlen:ops.length<=4398046511104)(hs:s.size<=9223372036854775807)(hf:f<4)(hat:at'+s.size<=4194304) :
  Calls Tryz.prog 108 #[.pointer (some ⟨d,0,none⟩),.int .i64 f,.int .i64 at',.string s] w λe w'=>e=.returned (.int .i64 0)/\AT (N4 S w.heap.size) d (ops++[.put f at' s]) w'/\AC S w w':=by
 have hself:=h.self;have h1:(f:Int)<4:=by omega
 have h2:¬((at':Int)<0):=by omega
 have h3:¬((4194304:Int)-s.size<at'):=by omega
 have hD:decide (0<=(f:Int)/\(f:Int)<4)=true:=by simp;omega
 have HH:=yH h;clear h
 go_enter Tryz.func108,Tryz.ntmps108;go_wp2_with (first
  | (go_at_call 130;refine (B5 d _ hself).mono ?_;rintro e w' ⟨rfl,hw⟩;subst w')
  | (go_at_call 131;refine (B4 _ _).mono ?_;rintro e w' ⟨rfl,hw⟩;subst w';rw[hD])
  | (go_at_call 148;refine (AX8 s _ (by omega)).mono ?_))
 rintro e w1 ⟨rfl,hb1⟩;have hd1:=HH.out.below hb1;have HD1:=yH hd1;clear hd1
 go_wp2_with (go_at_call 147;refine (BY9 (.put f at' s) S d ops _ HD1.out ⟨hf,hat⟩ hlen).mono ?_)
 rintro e w2 ⟨rfl,hd2,hk2⟩;have HD2:=yH hd2;clear hd2
 have HK2:=yH hk2;clear hk2
 go_wp2;go_ret;have hsz:=hb1.size;exact⟨rfl,HD2.out.mono (λi hi=>hi.imp id (λh=>by omega)),(AC.ofBelow hb1).trans HK2.out (λ_ hi=>.inl hi)⟩
theorem AZ0 (f at':Int)(s:ByteArray)(S:Nat->Prop)(d:Nat)(ops:List AD)(w:World)(h:AT S d ops w)(hs:s.size<=9223372036854775807)(hn:¬(0<=f/\f<4/\0<=at'/\at'+s.size<=4194304)) :
  Calls Tryz.prog 108 #[.pointer (some ⟨d,0,none⟩),.int .i64 f,.int .i64 at',.string s] w λe w'=>e=.returned (.int .i64 1)/\w'=w:=by
 have hself:=h.self;clear h;obtain⟨b,hD⟩:∃b,decide (0<=f/\f<4)=b:=⟨_,rfl⟩;have hb:b=true->¬(0<=at'/\at'+s.size<=4194304):=by
  intro hb;rw[hb]at hD;have:=of_decide_eq_true hD;omega
 clear hn;cases b
 ·go_enter Tryz.func108,Tryz.ntmps108;go_wp2_with (first
   | (go_at_call 130;refine (B5 d _ hself).mono ?_;rintro e w' ⟨rfl,hw⟩;subst w')
   | (go_at_call 131;refine (B4 _ _).mono ?_;rintro e w' ⟨rfl,hw⟩;subst w';rw[hD]))
  all_goals
   go_ret;exact⟨rfl,rfl⟩
 ·have hb':=hb rfl;clear hb;by_cases h0:at'<0
  ·go_enter Tryz.func108,Tryz.ntmps108;go_wp2_with (first
    | (go_at_call 130;refine (B5 d _ hself).mono ?_;rintro e w' ⟨rfl,hw⟩;subst w')
    | (go_at_call 131;refine (B4 _ _).mono ?_;rintro e w' ⟨rfl,hw⟩;subst w';rw[hD]))
   all_goals
    go_ret;exact⟨rfl,rfl⟩
  ·have h1:(4194304:Int)-s.size<at':=by omega
   clear hb';go_enter Tryz.func108,Tryz.ntmps108;go_wp2_with (first
    | (go_at_call 130;refine (B5 d _ hself).mono ?_;rintro e w' ⟨rfl,hw⟩;subst w')
    | (go_at_call 131;refine (B4 _ _).mono ?_;rintro e w' ⟨rfl,hw⟩;subst w';rw[hD]))
   all_goals
    go_ret;exact⟨rfl,rfl⟩
theorem CD4 (f n:Int)(S:Nat->Prop)(d:Nat)(ops:List AD)(w:World)(h:AT S d ops w)(hn:¬(0<=f/\f<4/\0<=n/\n<=(BN ops f.toNat).length)) :
  Calls Tryz.prog 150 #[.pointer (some ⟨d,0,none⟩),.int .i64 f,.int .i64 n] w λe w'=>e=.returned (.int .i64 1)/\w'=w:=by
 have hself:=h.self;by_cases hf:0<=f/\f<4
 ·obtain⟨j,rfl⟩:∃j:Nat,f=(j:Int):=⟨f.toNat,by omega⟩
  obtain⟨vs,hv⟩:=h.2;obtain⟨ao,ll,cap,hvs,hll,_,_,_⟩:=(hv.file j (by omega)).shape
  have hcf:w.cell? ⟨d,1+j,none⟩=some (.slice ao ll cap):=by rw[<-hvs];exact hv.cellV (by omega)
  have hD:decide (0<=(j:Int)/\(j:Int)<4)=true:=by simp;omega
  have h1:(j:Int)<4:=by omega
  simp only[Int.toNat_natCast,<-hll]at hn;clear hvs hv h hll;by_cases h0:n<0
  ·clear hn;go_enter Tryz.func150,Tryz.ntmps150;go_wp2_with (first
    | (go_at_call 130;refine (B5 d _ hself).mono ?_;rintro e w' ⟨rfl,hw⟩;subst w')
    | (go_at_call 131;refine (B4 _ _).mono ?_;rintro e w' ⟨rfl,hw⟩;subst w';rw[hD]))
   all_goals
    go_ret;exact⟨rfl,rfl⟩
  ·have h2:(ll:Int)<n:=by omega
   clear hn;go_enter Tryz.func150,Tryz.ntmps150;go_wp2_with (first
    | (go_at_call 130;refine (B5 d _ hself).mono ?_;rintro e w' ⟨rfl,hw⟩;subst w')
    | (go_at_call 131;refine (B4 _ _).mono ?_;rintro e w' ⟨rfl,hw⟩;subst w';rw[hD]))
   all_goals
    go_ret;exact⟨rfl,rfl⟩
 ·have hD:decide (0<=f/\f<4)=false:=decide_eq_false hf;clear hn hf h;go_enter Tryz.func150,Tryz.ntmps150;go_wp2_with (first
   | (go_at_call 130;refine (B5 d _ hself).mono ?_;rintro e w' ⟨rfl,hw⟩;subst w')
   | (go_at_call 131;refine (B4 _ _).mono ?_;rintro e w' ⟨rfl,hw⟩;subst w';rw[hD]))
  all_goals
   go_ret;exact⟨rfl,rfl⟩
theorem AA1 (p:Value)(f a n:Int)(w:World)(hp:BN5 p w) :
  Calls Tryz.prog 90 #[p,.int .i64 f,.int .i64 a,.int .i64 n] w λe w'=>e=.returned (.tuple #[.string ⟨#[]⟩,.int .i64 1])/\w'=w:=by
 have HP:=yH hp;clear hp
 go_enter Tryz.func90,Tryz.ntmps90;go_wp2_with (go_at_call 130;refine Calls.mono (show Calls Tryz.prog 130 #[p] _ _ from HP.out) ?_;rintro e w' ⟨rfl,hw⟩;subst w')
 go_ret2;exact⟨rfl,rfl⟩
theorem KL (f:Nat)(S:Nat->Prop)(d:Nat)(ops:List AD)(w:World)(h:AT S d ops w)(hf:f<4) :
  Calls Tryz.prog 91 #[.pointer (some ⟨d,0,none⟩),.int .i64 f] w λe w'=>e=.returned (.int .i64 (BN ops f).length)/\w'=w:=by
 have hself:=h.self;obtain⟨vs,hv⟩:=h.2;obtain⟨ao,ll,cap,hvs,hll,_,_,_⟩:=(hv.file f hf).shape;have hcf:w.cell? ⟨d,1+f,none⟩=some (.slice ao ll cap):=by rw[<-hvs];exact hv.cellV (by omega)
 have hD:decide (0<=(f:Int)/\(f:Int)<4)=true:=by simp;omega
 have h1:(f:Int)<4:=by omega
 rw[<-hll];clear hvs hv h hll;go_enter Tryz.func91,Tryz.ntmps91;go_wp2_with (first
  | (go_at_call 130;refine (B5 d _ hself).mono ?_;rintro e w' ⟨rfl,hw⟩;subst w')
  | (go_at_call 131;refine (B4 _ _).mono ?_;rintro e w' ⟨rfl,hw⟩;subst w';rw[hD]))
 go_ret;exact⟨rfl,rfl⟩
theorem LM (w:World)(v:Value)(l:List UInt8)(hB:Bytes w v l)(at' n:Nat)(hfit:at'+n<=l.length)(ax:Option Addr)(c:Nat)(hax:0<n->∃g,v.ownBlock=some g/\ax=some ⟨g,at',none⟩) :
  (convert 102 9 (.slice ax n c)).run Tryz.prog w=.ok (.string ⟨((l.drop at').take n).toArray⟩) w:=by
 by_cases h0:n=0
 ·subst h0;rw[List.take_zero];cases ax with
  | none =>
   rw[run_convert_bytes_string w 102 9 5 none 0 c Tryz.underlying102 Tryz.underlying5 Tryz.underlying9];simp[Conv.bytesToString];rfl
  | some a =>
   exact run_convert_bytes_back w 102 9 5 a c [] Tryz.underlying102 Tryz.underlying5 Tryz.underlying9 (λj hj=>by simp at hj)
 ·obtain⟨g,hg,rfl⟩:=hax (by omega)
  rcases hB.2 with⟨rfl,_⟩|⟨g',cap,cur,rfl,_,hgb,hnc,hcm,hcs,ht⟩
  ·simp[Value.ownBlock]at hg
  ·obtain rfl:g'=g:=by simpa [Value.ownBlock] using hg
   have hlen:((l.drop at').take n).length=n:=by rw[List.length_take,List.length_drop];omega
   have:=run_convert_bytes_back (P:=Tryz.prog) w 102 9 5 ⟨g',at',none⟩ c ((l.drop at').take n) Tryz.underlying102 Tryz.underlying5 Tryz.underlying9 ?_
   ·rw[hlen]at this;exact this
   ·intro j hj;rw[hlen]at hj;have hx:=World.ownsRow.cells (w:=w) hB (g:=g') rfl (at'+j) (.int .u8 ((l[at'+j]'(by omega)).toNat:Int)) (by simp only[Lib.byteCells,List.getElem?_map];rw[List.getElem?_eq_getElem (by omega)];rfl)
    have e1:(⟨g',at',none⟩:Addr).add j=(⟨g',0,none⟩:Addr).add (at'+j):=by
     simp only[Addr.add];split <;> split <;> simp_all
    rw[e1,hx];simp
theorem KN (f at' n:Nat)(S:Nat->Prop)(d:Nat)(ops:List AD)(w:World)(h:AT S d ops w)(hf:f<4)(hn:at'+n<=(BN ops f).length) :
  Calls Tryz.prog 90 #[.pointer (some ⟨d,0,none⟩),.int .i64 f,.int .i64 at',.int .i64 n] w λe w'=>e=.returned (.tuple #[.string ⟨(((BN ops f).drop at').take n).toArray⟩,.int .i64 0])/\w'=w:=by
 have hself:=h.self;have hmax:=DA h.1 f;obtain⟨vs,hv⟩:=h.2;have hB:=hv.file f hf;obtain⟨ao,ll,cap,hvs,hll,hcap,hao,hno⟩:=hB.shape;have hcf:w.cell? ⟨d,1+f,none⟩=some (.slice ao ll cap):=by rw[<-hvs];exact hv.cellV (by omega)
 rw[hvs]at hao hB;rw[<-hll]at hmax;have hn':at'+n<=ll:=by omega
 have hD:decide (0<=(f:Int)/\(f:Int)<4)=true:=by simp;omega
 have h1:(f:Int)<4:=by omega
 have h2:¬((at':Int)<0):=by omega
 have h3:¬((n:Int)<0):=by omega
 have h4:¬((ll:Int)-n<at'):=by omega
 have h5:at'<=at'+n:=by omega
 have h6:at'+n<=cap:=by omega
 have h7:at'+n-at'=n:=by omega
 obtain⟨ax,hax⟩:∃ax,(if cap=at' then ao else Option.map (λx=>x.add at') ao)=ax:=⟨_,rfl⟩
 have hdp:0<n->∃g,(Value.slice ao ll cap).ownBlock=some g/\ax=some ⟨g,at',none⟩:=by
  intro h0;rw[<-hax];cases ao with
  | none=>have:=hno rfl;omega
  | some a =>
   obtain⟨h1,h2,h3⟩:=hao a rfl;refine⟨_,h3,?_⟩;rw[if_neg (by omega)]
   cases a with
   | mk b o sp=>simp at h1 h2;subst h1 h2;simp[Addr.add,eq_comm]
 have hcv:=LM w (.slice ao ll cap) (BN ops f) hB at' n hn ax (cap-at') hdp;obtain⟨T,hT⟩:∃T,((List.drop at' (BN ops f)).take n).toArray=T:=⟨_,rfl⟩;rw[hT]at hcv ⊢
 clear hdp hB hao hno hvs hv hll hn hT h;go_enter Tryz.func90,Tryz.ntmps90;go_wp2_with (first
  | (go_at_call 130;refine (B5 d _ hself).mono ?_;rintro e w' ⟨rfl,hw⟩;subst w')
  | (go_at_call 131;refine (B4 _ _).mono ?_;rintro e w' ⟨rfl,hw⟩;subst w';rw[hD]))
 go_ret2;exact⟨rfl,rfl⟩
theorem AO1 (f a n:Int)(S:Nat->Prop)(d:Nat)(ops:List AD)(w:World)(h:AT S d ops w)(hn63:n<=9223372036854775807)(hn:¬(0<=f/\f<4/\0<=a/\0<=n/\a+n<=(BN ops f.toNat).length)) :
  Calls Tryz.prog 90 #[.pointer (some ⟨d,0,none⟩),.int .i64 f,.int .i64 a,.int .i64 n] w λe w'=>e=.returned (.tuple #[.string ⟨#[]⟩,.int .i64 1])/\w'=w:=by
 have hself:=h.self;by_cases hf:0<=f/\f<4
 ·obtain⟨j,rfl⟩:∃j:Nat,f=(j:Int):=⟨f.toNat,by omega⟩
  have hmax:=DA h.1 j;obtain⟨vs,hv⟩:=h.2;obtain⟨ao,ll,cap,hvs,hll,_,_,_⟩:=(hv.file j (by omega)).shape
  have hcf:w.cell? ⟨d,1+j,none⟩=some (.slice ao ll cap):=by rw[<-hvs];exact hv.cellV (by omega)
  have hD:decide (0<=(j:Int)/\(j:Int)<4)=true:=by simp;omega
  have h1:(j:Int)<4:=by omega
  simp only[Int.toNat_natCast,<-hll]at hn hmax;clear hvs hv h hll;by_cases ha:a<0
  ·clear hn;go_enter Tryz.func90,Tryz.ntmps90;go_wp2_with (first
    | (go_at_call 130;refine (B5 d _ hself).mono ?_;rintro e w' ⟨rfl,hw⟩;subst w')
    | (go_at_call 131;refine (B4 _ _).mono ?_;rintro e w' ⟨rfl,hw⟩;subst w';rw[hD]))
   all_goals
    go_ret2;exact⟨rfl,rfl⟩
  by_cases h0:n<0
  ·clear hn;go_enter Tryz.func90,Tryz.ntmps90;go_wp2_with (first
    | (go_at_call 130;refine (B5 d _ hself).mono ?_;rintro e w' ⟨rfl,hw⟩;subst w')
    | (go_at_call 131;refine (B4 _ _).mono ?_;rintro e w' ⟨rfl,hw⟩;subst w';rw[hD]))
   all_goals
    go_ret2;exact⟨rfl,rfl⟩
  ·have h2:(ll:Int)-n<a:=by omega
   have h3:(0:Int)<=n:=by omega
   clear hn;go_enter Tryz.func90,Tryz.ntmps90;go_wp2_with (first
    | (go_at_call 130;refine (B5 d _ hself).mono ?_;rintro e w' ⟨rfl,hw⟩;subst w')
    | (go_at_call 131;refine (B4 _ _).mono ?_;rintro e w' ⟨rfl,hw⟩;subst w';rw[hD]))
   all_goals
    go_ret2;exact⟨rfl,rfl⟩
 ·have hD:decide (0<=f/\f<4)=false:=decide_eq_false hf;clear hn hf h;go_enter Tryz.func90,Tryz.ntmps90;go_wp2_with (first
   | (go_at_call 130;refine (B5 d _ hself).mono ?_;rintro e w' ⟨rfl,hw⟩;subst w')
   | (go_at_call 131;refine (B4 _ _).mono ?_;rintro e w' ⟨rfl,hw⟩;subst w';rw[hD]))
  all_goals
   go_ret2;exact⟨rfl,rfl⟩
def CE0 (n:Nat):Nat->Prop:=λk=>n<=k
theorem AT.bound {S:Nat->Prop}{d:Nat}{ops:List AD}{w:World}(h:AT S d ops w):AT (λk=>S k/\k<w.heap.size) d ops w:=by
 obtain⟨hok,vs,h⟩:=h;exact⟨hok,vs,⟨⟨h.own,h.lt⟩,h.blk,h.file,h.done,λi k hi hk=>⟨⟨(h.foot i k hi hk).1,h.ltV i k hi hk⟩,(h.foot i k hi hk).2⟩,h.inj⟩⟩
theorem BE8 (w:World) :
  Calls Tryz.prog 10 #[] w λe w'=>e=.returned (.pointer (some ⟨w.heap.size,0,none⟩))/\AT (CE0 w.heap.size) w.heap.size [] w'/\Below w.heap.size w w':=by
 refine (BR6 w).mono ?_;rintro e w' ⟨rfl,rfl⟩;exact⟨rfl,⟨AU4,_,BJ6 _ w (Nat.le_refl _)⟩,(Below.refl _ _).alloc (Nat.le_refl _) _⟩
theorem DZ (w:World)(t ty e:TypeId)(i:TypeInfo)(z:Value)(size bytes:Nat)(ht:Tryz.prog.underlying t=some (.slice e))(hi:Tryz.prog.info? e=some i)(hz:i.zero=some z)
  (hs:i.size=size) (hby:i.bytes=bytes) (hzs:z.cells.size=size) (hsz:0<size)
  (v:Value) (n:Nat) (xs:List Value) (h:w.ownsRow 0 e size v n xs) (ad:Addr) (m c:Nat) (news:List Value) (hl:news.length=m*size) (hnews:∀j u,news[j]? = some u->w.cell? (ad.add j)=some u)
  (h1:∀u ∈ news,u.oneCell'=true) (h63:n+m<=maxLen) (hbytes:(n+m)*bytes<=140737488355328) (h64:n+m<=9223372036854775807) :
  ∃v' w',(Builtin.append_ #[t,t] ty #[v,.slice (some ad) m c]).run Tryz.prog w=.ok v' w'/\w'.ownsRow 0 e size v' (n+m) (xs++news)/\C3 w w' v v':=by
 obtain⟨v',w',hr,h2,h3,_⟩:=run_append_own (P:=Tryz.prog) w 0 t ty e i z size bytes ht hi hz hs hby hzs hsz v n xs h ad m c news hl hnews h1 h63 hbytes (Nat.zero_le _);refine⟨v',w',hr,h2,h3,?_⟩;intro k hk;rcases h.2 with⟨rfl,h0⟩|⟨g,cap,cur,rfl,_,hg,hnc,hcm,hcs,htk⟩
 ·subst h0;obtain rfl:xs=[]:=List.eq_nil_of_length_eq_zero (by simpa using h.1)
  obtain⟨v2,w2,hr2,ho2,_⟩:=run_append_own (P:=Tryz.prog) w w.heap.size t ty e i z size bytes ht hi hz hs hby hzs hsz (.slice none 0 0) 0 [] (World.ownsRow_nil _ _ _ _) ad m c news hl hnews h1 h63 hbytes (Nat.le_refl _);rw[hr]at hr2;cases hr2;exact .inr (ho2.lt k hk).1
 ·by_cases hroom:n+m<=cap
  ·have hr2:=run_append_room (P:=Tryz.prog) w t ty e i ht hi g n cap cur hg ad m c news (by rw[hs];exact hl) hnews h1 hroom (by rw[hs,hl,hcs,<-Nat.add_mul];exact Nat.mul_le_mul_right _ hroom)
   rw[hr]at hr2;cases hr2;exact .inl hk
  ·have hr2:=run_append_grow (P:=Tryz.prog) w t ty e i z ht hi hz ⟨g,0,none⟩ n cap xs (by rw[hs];exact h.1) (World.ownsRow.cells (w:=w) h (g:=g) rfl) ad m c news (by rw[hs];exact hl) hnews (by omega) (by omega) (growslice_fits (by omega) (by rw[hby];exact hbytes))
   rw[hr]at hr2;cases hr2;simp[Value.ownBlock]at hk;right;omega
end Go.Proofs.YtfbbjiidccbaiaaGreatDoor
set_option maxRecDepth 100000
set_option maxHeartbeats 6400000
namespace Go.Proofs.YtfbbjiidccbaiaaGreatDoor
open Go.RowKit Go.Maps
def AY3:Value->Option (DataW Value × List MemPlace):=λv=>some (.held v,[])
theorem XG:Keyed Tryz.prog 3:=int_keyed Tryz.underlying3
theorem BG5 (q:Int):WideAt.IsKeyLit (.int .i64 q):=trivial
def AR5 {α:Type}(F:Int->α)(q:Int)(x:α):Int->α:=λi=>if i=q then x else F i
theorem C5 {α:Type}(F:Int->α)(q:Int)(x:α):AR5 F q x q=x:=by simp[AR5]
theorem BZ {α:Type}(F:Int->α){q i:Int}(x:α)(h:i≠q):AR5 F q x i=F i:=by simp[AR5,h]
def FR (w:World)(b m:Nat)(F:Int->Option Value):Prop :=
 ∃D:DataW Value,w.ownsMap Tryz.prog 3 AY3 b m D/\Maps.size D=m/\∀q:Int,(Lit.int .i64 q).wf=true ->
  (F q=none/\Maps.has D (.int .i64 q)=false\/∃v,F q=some v/\Maps.has D (.int .i64 q)=true/\∀z,D.atKey (.int .i64 q) z=.held v)
theorem AA7 {w:World}{b n:Nat}{D:DataW Value}(h:w.ownsMap Tryz.prog 3 AY3 b n D):w.ownsMap Tryz.prog 3 AY3 b (Maps.size D) D:=by
 obtain⟨es,clock,hb,F,hs,rfl⟩:=h;exact⟨es,clock,hb,F,by simp[Maps.size,length_sorted],rfl⟩
theorem FR.lt {w:World}{b m:Nat}{F:Int->Option Value}(h:FR w b m F):b<w.heap.size:=h.elim λ_ h=>h.1.lt
theorem FR.block {w w':World}{b m:Nat}{F:Int->Option Value}(h:FR w b m F)(hb:w'.heap[b]? = w.heap[b]?):FR w' b m F:=by
 obtain⟨D,⟨es,clock,h1,h2⟩,h3⟩:=h;exact⟨D,⟨es,clock,hb.trans h1,h2⟩,h3⟩
theorem NT (w:World):FR (w.alloc (.map #[] 0)) w.heap.size 0 (λ_=>none) :=
 ⟨.map [],World.ownsMap_made _ _ _ _,rfl,λ_ _=>.inl ⟨rfl,rfl⟩⟩
theorem FR.look {w:World}{b m:Nat}{F:Int->Option Value}(h:FR w b m F){t e:TypeId}(ht:Tryz.prog.underlying t=some (.map 3 e))(hz:(zeroValue e).run Tryz.prog w=.ok (.pointer none) w)(q:Int)(hq:(Lit.int .i64 q).wf=true) :
  (Instr.lookup t (.map (some b)) (.int .i64 q) false).run Tryz.prog w=.ok ((F q).getD (.pointer none)) w:=by
 obtain⟨D,h1,_,h3⟩:=h;obtain⟨v,ps,hr,hv⟩:=h1.lookup (zd:=.held (.pointer none)) (zp:=[]) XG ht hz rfl (keyOf_int_mk (P:=Tryz.prog) Tryz.underlying3 hq);rw[hr];have hv':DataW.held v=D.atKey (.int .i64 q) (.held (.pointer none)):=by
  simp only[AY3,Option.some.injEq,Prod.mk.injEq]at hv;exact hv.1
 rcases h3 q hq with⟨hF,hn⟩|⟨u,hF,_,hat⟩
 ·rw[hF];rw[Maps.atKey_of_not_has hn]at hv';injection hv' with hv'
  rw[hv'];rfl
 ·rw[hF];rw[hat]at hv';injection hv' with hv'
  rw[hv'];rfl
theorem FR.len {w:World}{b m:Nat}{F:Int->Option Value}(h:FR w b m F){t e:TypeId}(ht:Tryz.prog.underlying t=some (.map 3 e))(ty:TypeId) :
  (Builtin.len_ #[t] ty #[.map (some b)]).run Tryz.prog w=.ok (.int .i64 m) w:=by
 obtain⟨D,h1,h2,_⟩:=h;rw[h1.len ht,h2]
theorem FR.put {w:World}{b m:Nat}{F:Int->Option Value}(h:FR w b m F){t e:TypeId}(ht:Tryz.prog.underlying t=some (.map 3 e))(hm:m<maxLen)(q:Int)(hq:(Lit.int .i64 q).wf=true)(hF:F q=none)(v:Value) :
  ∃w',(Instr.mapUpdate t (.map (some b)) (.int .i64 q) v).run Tryz.prog w=.ok () w'/\FR w' b (m+1) (AR5 F q (some v))/\w.mapTurned w' b:=by
 obtain⟨D,h1,h2,h3⟩:=h;obtain⟨w',hr,ho,ht'⟩:=h1.store (d:=.held v) (ps:=[]) XG ht hm (keyOf_int_mk (P:=Tryz.prog) Tryz.underlying3 hq) rfl;have hn:Maps.has D (.int .i64 q)=false:=by
  rcases h3 q hq with⟨_,hn⟩|⟨u,hu,_⟩
  ·exact hn
  ·rw[hF]at hu;cases hu
 refine⟨w',hr,⟨_,ho,?_,λi hi=>?_⟩,ht'⟩
 ·rw[Maps.size_put (h1.tidy XG),hn,h2];simp
 ·by_cases hiq:i=q
  ·subst hiq;exact .inr ⟨v,C5 _ _ _,Maps.has_put_same h1.isMap (BG5 i) _,λz=>Maps.atKey_put_same h1.isMap (BG5 i) _ z⟩
  ·have hne:(Lit.int .i64 i)≠.int .i64 q:=λe=>hiq (by injection e)
   rw[BZ _ _ hiq,Maps.has_put_other hne];exact (h3 i hi).imp id (λ⟨u,hu,h4,h5⟩=>⟨u,hu,h4,λz=>by rw[Maps.atKey_put_other hne];exact h5 z⟩)
theorem FR.del {w:World}{b m:Nat}{F:Int->Option Value}(h:FR w b (m+1) F){t e:TypeId}(ht:Tryz.prog.underlying t=some (.map 3 e))(q:Int)(hq:(Lit.int .i64 q).wf=true){v:Value}(hF:F q=some v)(ty:TypeId) :
  ∃w',(Builtin.delete_ #[t,3] ty #[.map (some b),.int .i64 q]).run Tryz.prog w=.ok (.tuple #[]) w'/\FR w' b m (AR5 F q none)/\w.mapTurned w' b:=by
 obtain⟨D,h1,h2,h3⟩:=h;obtain⟨w',hr,ho,ht'⟩:=h1.drop XG ht (keyOf_int_mk (P:=Tryz.prog) Tryz.underlying3 hq) ty;have hn:Maps.has D (.int .i64 q)=true:=by
  rcases h3 q hq with⟨hn,_⟩|⟨u,_,hn,_⟩
  ·rw[hF]at hn;cases hn
  ·exact hn
 have hsz:Maps.size (D.del (.int .i64 q))=m:=by
  have:=Maps.size_del (k:=.int .i64 q) (h1.tidy XG)
  rw[hn,h2]at this;simpa using this
 refine⟨w',hr,⟨_,by rw[<-hsz];exact AA7 ho,hsz,λi hi=>?_⟩,ht'⟩
 by_cases hiq:i=q
 ·subst hiq;exact .inl ⟨C5 _ _ _,Maps.has_del_same⟩
 ·have hne:(Lit.int .i64 i)≠.int .i64 q:=λe=>hiq (by injection e)
  rw[BZ _ _ hiq,Maps.has_del_other hne];exact (h3 i hi).imp id (λ⟨u,hu,h4,h5⟩=>⟨u,hu,h4,λz=>by rw[Maps.atKey_del_other hne];exact h5 z⟩)
theorem AC.ofTurned {S:Nat->Prop}{a b:World}{r:Nat}(h:a.mapTurned b r)(hr:S r):AC S a b:=AC.ofGrown h.grown (λk hk=>by injection hk with hk;exact hk ▸ hr)
end Go.Proofs.YtfbbjiidccbaiaaGreatDoor
