/- Texts of one proof, one behind the other: TF, TJ, TK, TL, TM, SZI, SZJ, SZK, SZL. -/
import Derived.Test.YtfbbjiidccbaiaaGreatDoorMAG
import Derived.Test.YtfbbjiidccbaiaaGreatDoorMAA
import Derived.Test.YtfbbjiidccbaiaaGreatDoorMAD
import Derived.Deep.QuietTactic
import Derived.BigQuiet
import Derived.IntWalk
import Derived.StillTailTactics
import Derived.Deep.RegionHeldLaw
import Derived.Test.YtfbbjiidccbaiaaGreatDoorMAF
import Derived.Deep.RegionHeld3
set_option maxRecDepth 100000
namespace Go.Proofs.YtfbbjiidccbaiaaGreatDoor
open Go.RowKit
def isAt (key:List UInt8) (l:List En):Bool:=match l[cntE key l]? with
 | some e=>decide (e.key=key)
 | none=>false
def leadE (key:List UInt8) (l:List En):Nat:=if isAt key l then cntE key l else cntE key l - 1
theorem isAt_iff {key:List UInt8} {l:List En} (h:Srt l):isAt key l=true ↔ hasE key l:=by
 obtain ⟨h1,h2,h3⟩:=part_at h key
 unfold isAt
 constructor
 ·cases hc:l[cntE key l]? with
  | none=>intro h;cases h
  | some e=>intro he;exact ⟨e,List.mem_of_getElem? hc,by simpa using he⟩
 ·rintro ⟨e,he,rfl⟩
  rw [h1,List.mem_append] at he
  rcases he with he | he
  ·exact absurd (h2 e he) (lt_irrefl _)
  ·cases hd:l.drop (cntE e.key l) with
   | nil=>rw [hd] at he;cases he
   | cons b r =>
    have hb:l[cntE e.key l]? = some b:=by
     rw [← List.head?_drop,hd];rfl
    rw [hb]
    rw [hd] at he h3
    rcases List.mem_cons.1 he with rfl | he
    ·simp
    ·have h4:Srt (b :: r):=by rw [← hd];exact h.sub (List.drop_sublist _ _)
     exact absurd (Srt.cons_lt h4 e he) (h3 b (by simp))
theorem srt_keys {L:Nat} {ks:List (Kid L)} (hk:KeysOk ks) {lo:List UInt8} {hi:Option (List UInt8)} (ho:OrdK lo ks hi):Srt (ks.map kEn):=by
 have key:∀ (r:List (Kid L)) (a:Kid L) (lo:List UInt8),OrdK lo (a :: r) hi→(r≠[]→lt a.1 (hdK r))→Srt ((a :: r).map kEn):=by
  intro r
  induction r with
  | nil=>intro a lo _ _;trivial
  | cons b r ih =>
   intro a lo h h1
   have h2:=(ordK_cons.1 h).2
   refine ⟨h1 (by simp),ih b b.1 h2 fun hr=>?_⟩
   cases r with
   | nil=>exact absurd rfl hr
   | cons c r=>exact (ordK_cons.1 h2).1.bd _ rfl
 cases ks with
 | nil=>trivial
 | cons a r =>
  refine key r a lo ho fun hr=>?_
  cases r with
  | nil=>exact absurd rfl hr
  | cons b r =>
   rw [hk.1]
   have:=hk.2 b (by simp)
   exact nil_lt (fun e=>by have e2:b.1=[]:=e;rw [e2] at this;simp at this)
theorem lead_mid {L:Nat} {ks:List (Kid L)} (hk:KeysOk ks) {lo:List UInt8} {hi:Option (List UInt8)} (ho:OrdK lo ks hi) (hne:ks≠[]) (key:List UInt8) :
  ∃ A k c B,ks=A++(k,c) :: B∧A.length=leadE key (ks.map kEn)∧le k key∧∀ b B',B=b :: B'→lt key b.1:=by
 have hs:=srt_keys hk ho
 obtain ⟨h1,h2,h3⟩:=part_at hs key
 have hcl:cntE key (ks.map kEn)≤ks.length:=by have:=cntE_le key (ks.map kEn);simpa using this
 obtain ⟨n,hn⟩:∃ n,cntE key (ks.map kEn)=n:=⟨_,rfl⟩
 rw [hn] at h1 h2 h3 hcl
 obtain ⟨a,r,rfl⟩:∃ a r,ks=a :: r:=by cases ks with | nil=>exact absurd rfl hne | cons a r=>exact ⟨a,r,rfl⟩
 have hlow:∀ x ∈ (a :: r).take n,lt x.1 key:=fun x hx=>h2 (kEn x) (by rw [← List.map_take];exact List.mem_map_of_mem hx)
 have hup:∀ x ∈ (a :: r).drop n,¬ lt x.1 key:=fun x hx=>h3 (kEn x) (by rw [← List.map_drop];exact List.mem_map_of_mem hx)
 have h0:isAt key ((a :: r).map kEn)=false→0 < n:=by
  intro hf
  rcases Nat.eq_zero_or_pos n with e | e
  ·exfalso
   unfold isAt at hf
   rw [hn,e] at hf
   simp only [List.map_cons,List.getElem?_cons_zero,decide_eq_false_iff_not] at hf
   have:¬ lt a.1 key:=hup a (by rw [e];simp)
   have ha:a.1=[]:=hk.1
   rcases le_iff.1 (show le key a.1 from this) with h | h
   ·rw [ha] at h;exact lt_nil _ h
   ·exact hf h.symm
  ·exact e
 by_cases hat:isAt key ((a :: r).map kEn)=true
 ·have hat':=hat
  unfold isAt at hat'
  rw [hn] at hat'
  cases hx:((a :: r).map kEn)[n]? with
  | none=>rw [hx] at hat';cases hat'
  | some e =>
   rw [hx] at hat'
   have hek:e.key=key:=by simpa using hat'
   rw [List.getElem?_map] at hx
   cases hy:(a :: r)[n]? with
   | none=>rw [hy] at hx;cases hx
   | some x =>
    rw [hy] at hx
    simp only [Option.map_some,Option.some.injEq] at hx
    subst hx
    have hnl:n < (a :: r).length:=(List.getElem?_eq_some_iff.1 hy).1
    have hd:(a :: r).drop n=x :: (a :: r).drop (n+1):=by
     rw [List.drop_eq_getElem_cons hnl]
     obtain ⟨_,h⟩:=List.getElem?_eq_some_iff.1 hy
     rw [h]
    refine ⟨(a :: r).take n,x.1,x.2,(a :: r).drop (n+1),?_,?_,?_,?_⟩
    ·rw [← hd,List.take_append_drop]
    ·rw [List.length_take,leadE,if_pos hat,hn];omega
    ·rw [show x.1=key from hek];exact le_refl' _
    ·intro b B' hB
     have h4:Srt (((a :: r).drop n).map kEn):=by rw [List.map_drop];exact hs.sub (List.drop_sublist _ _)
     rw [hd,hB] at h4
     have h5:lt x.1 b.1:=h4.1
     rw [show x.1=key from hek] at h5
     exact h5
 ·have hf:isAt key ((a :: r).map kEn)=false:=by simpa using hat
  have hpos:=h0 hf
  obtain ⟨m,rfl⟩:∃ m,n=m+1:=⟨n - 1,by omega⟩
  have hml:m < (a :: r).length:=by omega
  obtain ⟨x,hx⟩:∃ x,(a :: r)[m]? = some x:=⟨_,List.getElem?_eq_getElem hml⟩
  have hd:(a :: r).drop m=x :: (a :: r).drop (m+1):=by
   rw [List.drop_eq_getElem_cons hml]
   obtain ⟨_,h⟩:=List.getElem?_eq_some_iff.1 hx
   rw [h]
  refine ⟨(a :: r).take m,x.1,x.2,(a :: r).drop (m+1),?_,?_,?_,?_⟩
  ·rw [← hd,List.take_append_drop]
  ·rw [List.length_take,leadE,if_neg (by rw [hf];simp),hn];omega
  ·exact (hlow x (by rw [List.take_succ_eq_append_getElem hml];obtain ⟨_,h⟩:=List.getElem?_eq_some_iff.1 hx;simp [h])).le
  ·intro b B' hB
   have hnb:=hup b (by rw [hB];simp)
   rcases le_iff.1 (show le key b.1 from hnb) with h | h
   ·exact h
   ·exfalso
    have hc:((a :: r).map kEn)[m+1]? = some (kEn b):=by
     rw [List.getElem?_map,← List.head?_drop,hB];rfl
    unfold isAt at hf
    rw [hn,hc] at hf
    simp only [decide_eq_false_iff_not] at hf
    exact hf h.symm
theorem lead_flat {L:Nat} {A:List (Kid L)} {k:List UInt8} {c:Tr L} {B:List (Kid L)} {lo:List UInt8} {hi:Option (List UInt8)} (ho:OrdK lo (A++(k,c) :: B) hi) {key:List UInt8} (hk:le k key) (hB:∀ b B',B=b :: B'→lt key b.1) :
  (∀ e ∈ flK A,lt e.key key)∧(∀ e ∈ flK B,lt key e.key)∧(Inn lo hi key→Inn (lof lo A k) (nxt B hi) key):=by
 have h1:=(ordK_mid _ _ _).1 ho
 refine ⟨fun e he=>?_,fun e he=>?_,fun hi'=>⟨?_,fun x hx=>?_⟩⟩
 ·exact lt_of_lt_le (((ordK_flat (fun t {_ _} ht=>ht.flat) A h1.1).2 e he).2 _ rfl) hk
 ·cases B with
  | nil=>cases he
  | cons b B=>exact lt_of_lt_le (hB b B rfl) ((ordK_flat (fun t {_ _} ht=>ht.flat) _ h1.2.2).2 e he).1
 ·cases A with
  | nil=>exact hi'.1
  | cons a A=>exact hk
 ·cases B with
  | nil=>exact hi'.2 x hx
  | cons b B=>cases hx;exact hB b B rfl
theorem ret_i {a b:Nat} (h:a=b):Ending.returned (.int .i64 (a:Int))=.returned (.int .i64 (b:Int)):=by rw [h]
theorem below_then {B:Nat} {a b c:World} (h:Below B a b) (k:Below b.heap.size b c) (hB:B≤a.heap.size):Below B a c:=h.trans (k.mono (Nat.le_trans hB h.size))
theorem below_then_ {a b c:World} (h:Below a.heap.size a b) (k:Below b.heap.size b c):Below a.heap.size a c:=below_then h k (Nat.le_refl _)
def BytesV (X:Nat→Prop) (w:World) (v:Value) (l:List UInt8):Prop :=
 ∃ A c,v=.slice A l.length c∧l.length≤c∧c≤maxLen∧ReadsB w A l∧∀ ad,A=some ad→l≠[]→¬ X ad.block
section
variable {X X' T:Nat→Prop} {w w':World} {v:Value} {l:List UInt8}
theorem ReadsB.kept {A:Option Addr} (h:ReadsB w A l) (hk:Kept T w w') (hA:∀ ad,A=some ad→l≠[]→ad.block < w.heap.size→¬ T ad.block):ReadsB w' A l:=by
 rcases h with rfl | ⟨b,off,rfl,h2,h3⟩
 ·exact .inl rfl
 ·by_cases hl:l=[]
  ·exact .inl hl
  ·have hb:=hk.block b h2 (hA _ rfl hl h2)
   exact .inr ⟨b,off,rfl,Nat.lt_of_lt_of_le h2 hk.size,fun j hj=>(World.cell?_of_block hb).trans (h3 j hj)⟩
theorem ReadsB.blk_lt {ad:Addr} (h:ReadsB w (some ad) l) (hl:l≠[]):ad.block < w.heap.size:=by
 rcases h with h | ⟨b,off,h1,h2,_⟩
 ·exact absurd h hl
 ·injection h1 with h1;subst h1;exact h2
theorem BytesV.kept (h:BytesV X w v l) (hk:Kept T w w') (hT:∀ k,k < w.heap.size→T k→X k) (hX:∀ k,k < w.heap.size→X' k→X k):BytesV X' w' v l:=by
 obtain ⟨A,c,rfl,hc,hc2,hR,hn⟩:=h
 refine ⟨A,c,rfl,hc,hc2,hR.kept hk fun ad hA hl hlt ht=>hn ad hA hl (hT _ hlt ht),fun ad hA hl hx=>?_⟩
 subst hA
 exact hn ad rfl hl (hX _ (hR.blk_lt hl) hx)
theorem BytesV.below (h:BytesV X w v l) (hb:Below w.heap.size w w'):BytesV X w' v l :=
 h.kept (Kept.ofBelow (S:=fun _=>False) hb) (fun _ _ h=>h.elim) (fun _ _ h=>h)
theorem BytesV.nil_ (X:Nat→Prop) (w:World):BytesV X w (.slice none 0 0) []:=⟨none,0,rfl,Nat.le_refl _,Nat.zero_le _,.inl rfl,fun _ h=>by cases h⟩
end
def EntsV (X:Nat→Prop) (w:World) (arr:Option Addr) (es:List En):Prop :=
 es=[]∨∃ b o cs,arr=some ⟨b,o,none⟩∧w.heap[b]? = some (.cells cs 135 (0,0))∧X b ∧
  ∀ i (h:i < es.length),∃ kv vv,cs[o+2*i]? = some kv∧cs[o+2*i+1]? = some vv∧BytesV X w kv es[i].key∧BytesV X w vv es[i].val
section
variable {X X' T:Nat→Prop} {w w':World} {arr:Option Addr} {es:List En}
theorem EntsV.kept (h:EntsV X w arr es) (hk:Kept T w w') (hT:∀ k,k < w.heap.size→T k→X k) (hX:∀ k,k < w.heap.size→X' k→X k) (hX2:∀ k,X k→X' k)
  (ha:∀ ad,arr=some ad→es≠[]→¬ T ad.block):EntsV X' w' arr es:=by
 rcases h with rfl | ⟨b,o,cs,rfl,hb,hx,hc⟩
 ·exact .inl rfl
 ·by_cases hl:es=[]
  ·exact .inl hl
  ·have hlt:b < w.heap.size:=(Array.getElem?_eq_some_iff.1 hb).1
   refine .inr ⟨b,o,cs,rfl,(hk.block b hlt (ha _ rfl hl)).trans hb,hX2 _ hx,fun i hi=>?_⟩
   obtain ⟨kv,vv,h1,h2,h3,h4⟩:=hc i hi
   exact ⟨kv,vv,h1,h2,h3.kept hk hT hX,h4.kept hk hT hX⟩
theorem EntsV.below (h:EntsV X w arr es) (hb:Below w.heap.size w w'):EntsV X w' arr es :=
 h.kept (Kept.ofBelow (S:=fun _=>False) hb) (fun _ _ h=>h.elim) (fun _ _ h=>h) (fun _ h=>h) (fun _ _ _ h=>h)
theorem EntsV.at_ (h:EntsV X w arr es) {i:Nat} {e:En} (hi:es[i]? = some e):∃ b o kv vv,arr=some ⟨b,o,none⟩∧b < w.heap.size∧(∀ j,w.frozen? ⟨b,j,none⟩=false)∧w.cell? ⟨b,o+i*2,none⟩=some kv∧w.cell? ⟨b,o+i*2+1,none⟩=some vv∧BytesV X w kv e.key∧BytesV X w vv e.val:=by
 obtain ⟨hil,rfl⟩:=List.getElem?_eq_some_iff.1 hi
 rcases h with rfl | ⟨b,o,cs,rfl,hb,hx,hc⟩
 ·simp at hil
 ·obtain ⟨kv,vv,h1,h2,h3,h4⟩:=hc i hil
  have hlt:b < w.heap.size:=(Array.getElem?_eq_some_iff.1 hb).1
  refine ⟨b,o,kv,vv,rfl,hlt,fun j=>by simp [World.frozen?,hb],?_,?_,h3,h4⟩
  ·rw [Lib.cell_of_heap hb,Nat.mul_comm];exact h1
  ·rw [Lib.cell_of_heap hb,Nat.mul_comm];exact h2
end
structure NO where
 blk:Nat
 page:Nat
 level:Nat
 ens:List En
 arr:Option Addr
 cap:Nat
 was:List UInt8
 had:Nat
 sole:Bool
def NO.cells (x:NO):Array Value:=#[.int .i64 x.page,.int .i64 x.level,.slice x.arr x.ens.length x.cap,.string ⟨x.was.toArray⟩,.int .i64 x.had]
def NO.ptr (x:NO):Value:=.pointer (some ⟨x.blk,0,none⟩)
def Short (es:List En):Prop:=es.length≤512∧∀ e ∈ es,e.key.length≤255∧e.val.length≤255
theorem Short.at_ {es:List En} (h:Short es) {i:Nat} {e:En} (hi:es[i]? = some e):e.key.length≤255∧e.val.length≤255:=h.2 e (List.mem_of_getElem? hi)
theorem get_of {es:List En} {n i:Nat} (hn:es.length=n) (hi:i < n):∃ e,es[i]? = some e:=⟨_,List.getElem?_eq_getElem (by omega)⟩
structure NodeAt (X:Nat→Prop) (w:World) (x:NO):Prop where
 blk:w.heap[x.blk]? = some (.cells x.cells 138 (0,0))
 own:X x.blk
 ents:EntsV X w x.arr x.ens
 cap:x.ens.length≤x.cap∧x.cap≤maxLen
 small:x.page < 4096∧x.level≤1000∧x.had≤1000000
 short:Short x.ens
 alone:x.sole=true→x.ens≠[]→∃ b,x.arr=some ⟨b,0,none⟩
section
variable {X X' T:Nat→Prop} {w w':World} {x:NO}
theorem NodeAt.lt (h:NodeAt X w x):x.blk < w.heap.size:=(Array.getElem?_eq_some_iff.1 h.blk).1
theorem NodeAt.cell (h:NodeAt X w x) (i:Nat):w.cell? ⟨x.blk,i,none⟩=x.cells[i]?:=Lib.cell_of_heap h.blk i
theorem NodeAt.frozen (h:NodeAt X w x) (i:Nat):w.frozen? ⟨x.blk,i,none⟩=false:=by simp [World.frozen?,h.blk]
theorem NodeAt.c0 (h:NodeAt X w x):w.cell? ⟨x.blk,0,none⟩=some (.int .i64 x.page):=by rw [h.cell];rfl
theorem NodeAt.c1 (h:NodeAt X w x):w.cell? ⟨x.blk,1,none⟩=some (.int .i64 x.level):=by rw [h.cell];rfl
theorem NodeAt.c2 (h:NodeAt X w x):w.cell? ⟨x.blk,2,none⟩=some (.slice x.arr x.ens.length x.cap):=by rw [h.cell];rfl
theorem NodeAt.c3 (h:NodeAt X w x):w.cell? ⟨x.blk,3,none⟩=some (.string ⟨x.was.toArray⟩):=by rw [h.cell];rfl
theorem NodeAt.c4 (h:NodeAt X w x):w.cell? ⟨x.blk,4,none⟩=some (.int .i64 x.had):=by rw [h.cell];rfl
theorem NodeAt.kept (h:NodeAt X w x) (hk:Kept T w w') (hT:∀ k,k < w.heap.size→T k→X k) (hX:∀ k,k < w.heap.size→X' k→X k) (hX2:∀ k,X k→X' k)
  (hb:¬ T x.blk) (ha:∀ ad,x.arr=some ad→x.ens≠[]→¬ T ad.block):NodeAt X' w' x :=
 ⟨(hk.block _ h.lt hb).trans h.blk,hX2 _ h.own,h.ents.kept hk hT hX hX2 ha,h.cap,h.small,h.short,h.alone⟩
theorem NodeAt.below (h:NodeAt X w x) (hb:Below w.heap.size w w'):NodeAt X w' x :=
 h.kept (Kept.ofBelow (S:=fun _=>False) hb) (fun _ _ h=>h.elim) (fun _ _ h=>h) (fun _ h=>h) (fun h=>h) (fun _ _ _ h=>h)
end
theorem esize_any (A B:Option Addr) (n c m d:Nat) (w:World) (hn:n≤1000000) (hm:m≤1000000) :
  Calls Tryz.prog 201 #[.agg #[.slice A n c,.slice B m d]] w fun e w'=>e=.returned (.int .i64 ((2+n+m:Nat):Int))∧Below w.heap.size w w':=by
 go_enter Tryz.func201,Tryz.ntmps201
 go_wp2
 go_ret
 exact ⟨by simp,(Below.refl _ _).alloc (Nat.le_refl _) _⟩
theorem szE_take_succ {es:List En} {k:Nat} {e:En} (h:es[k]? = some e):szE (es.take (k+1))=szE (es.take k)+(2+e.key.length+e.val.length):=by
 obtain ⟨hl,rfl⟩:=List.getElem?_eq_some_iff.1 h
 rw [List.take_succ_eq_append_getElem hl,szE_snoc];rfl
theorem short_sz {es:List En} (h:Short es):szE es≤300000:=by
 have:∀ l:List En,(∀ e ∈ l,e.key.length≤255∧e.val.length≤255)→szE l≤512*l.length:=by
  intro l
  induction l with
  | nil=>intro _;simp [szE]
  | cons e r ih =>
   intro hh
   have h1:=hh e (by simp)
   have h2:=ih (fun x hx=>hh x (by simp [hx]))
   simp only [szE,En.size,List.length_cons];omega
 have h1:=this es h.2
 have h2:=h.1
 omega
set_option maxHeartbeats 1600000 in
theorem sizeOf_any (X:Nat→Prop) (arr:Option Addr) (es:List En) (n cap:Nat) (w:World) (hn:es.length=n) (h:EntsV X w arr es) (hs:Short es) :
  Calls Tryz.prog 184 #[.slice arr n cap] w fun e w'=>e=.returned (.int .i64 (szE es))∧Below w.heap.size w w':=by
 have hn5:n≤512:=by have:=hs.1;omega
 have HH:=Lib.hid h;have HS:=Lib.hid hs;have HN:=Lib.hid hn
 clear h hs hn
 go_enter Tryz.func184,Tryz.ntmps184
 go_wp2
 go_loopw [3,5,8] (fun s _ i wr=>∃ k:Nat,k≤n∧i=.int .i64 k∧s=.int .i64 (szE (es.take k))∧Hid (Below w.heap.size w wr)) (fun _ _ i _=>n - (intOf i).toNat)
 case atStart=>exact ⟨0,by omega,rfl,by simp [szE],Lib.hid (Below.refl _ _)⟩
 case round =>
  obtain ⟨k,hk,rfl,rfl,HB⟩:=hrel
  have hsz:szE (es.take k)≤300000:=Nat.le_trans (szE_take_le es k) (short_sz HS.out)
  obtain ⟨sz,hsz2⟩:∃ sz,sz=szE (es.take k):=⟨_,rfl⟩
  rw [← hsz2] at hsz ⊢
  have HSZ:=Lib.hid hsz2;clear hsz2
  by_cases hlt:k < n
  ·obtain ⟨en,hen⟩:=get_of HN.out hlt
   obtain ⟨b,o,kv,vv,rfl,hbl,hfr,hc1,hc2,hk1,hk2⟩:=(HH.out.below HB.out).at_ hen
   have hsh:=HS.out.at_ hen
   obtain ⟨A1,c1,rfl,hA1,hA2,_⟩:=hk1
   obtain ⟨A2,c2,rfl,hB1,hB2,_⟩:=hk2
   obtain ⟨l1,hl1⟩:∃ l1,l1=en.key.length:=⟨_,rfl⟩
   obtain ⟨l2,hl2⟩:∃ l2,l2=en.val.length:=⟨_,rfl⟩
   rw [← hl1] at hc1 hsh
   rw [← hl2] at hc2 hsh
   have HT:Hid (szE (es.take (k+1))=sz+(2+l1+l2)):=Lib.hid (by rw [szE_take_succ hen,HSZ.out,hl1,hl2])
   clear hA1 hB1 hA2 hB2
   have HL1:=Lib.hid hl1;have HL2:=Lib.hid hl2;have HEN:=Lib.hid hen;clear hl1 hl2 hen
   go_wp2_with (go_at_call 201;refine (esize_any _ _ _ _ _ _ _ (by omega) (by omega)).mono ?_;rintro e w1 ⟨rfl,hb1⟩)
   go_roundw
   case rel=>exact ⟨k+1,by omega,by go_num,by rw [HT.out];go_num,Lib.hid (below_then_ HB.out (((Below.refl _ _).alloc (Nat.le_refl _) _).trans (hb1.mono (by simp))))⟩
   case measure=>simp [intOf];omega
  ·obtain rfl:k=n:=by omega
   have HE:Hid (sz=szE es):=Lib.hid (by rw [HSZ.out,List.take_of_length_le (by rw [HN.out];exact Nat.le_refl _)])
   go_wp2
   go_ret
   exact ⟨ret_i HE.out,HB.out⟩
set_option maxHeartbeats 800000 in
theorem size_any (X:Nat→Prop) (x:NO) (w:World) (h:NodeAt X w x) :
  Calls Tryz.prog 154 #[x.ptr] w fun e w'=>e=.returned (.int .i64 (szE x.ens))∧Below w.heap.size w w':=by
 have c2:=h.c2
 have HC:=Lib.hid (sizeOf_any X x.arr x.ens x.ens.length x.cap w rfl h.ents h.short)
 unfold NO.ptr
 obtain ⟨s,hs⟩:∃ s,s=szE x.ens:=⟨_,rfl⟩
 rw [← hs] at HC ⊢
 clear h hs
 go_enter Tryz.func154,Tryz.ntmps154
 go_wp2_with fail
 refine HC.out.mono ?_
 rintro e w1 ⟨rfl,hb1⟩
 go_wp2
 go_ret
 exact ⟨rfl,hb1⟩
theorem or_child (a b:UInt8):bits BinOp.or IntKind.i64 ((a.toNat:Int)*256) (b.toNat:Int)=((a.toNat*256+b.toNat:Nat):Int) :=
 or_i64 a.toNat b.toNat (by have:=a.toNat_lt;omega) b.toNat_lt
set_option maxHeartbeats 1600000 in
theorem child_any (X:Nat→Prop) (x:NO) (i:Nat) (en:En) (w:World) (h:NodeAt X w x) (hi:x.ens[i]? = some en) (hv:en.val.length=2) :
  Calls Tryz.prog 152 #[x.ptr,.int .i64 i] w fun e w'=>e=.returned (.int .i64 en.child)∧∃ n,w'=w.drewN n:=by
 have c2:=h.c2
 obtain ⟨b,o,kv,vv,ha,hbl,hfr,hc1,hc2,hk1,hk2⟩:=h.ents.at_ hi
 obtain ⟨A2,cc2,rfl,hB1,hB2,hR,_⟩:=hk2
 obtain ⟨b2,o2,rfl,hb2,hcell⟩:=hR.at (by omega)
 have hv0:=hcell 0 (by omega)
 have hv1:=hcell 1 (by omega)
 rw [Nat.add_zero] at hv0
 rw [hv] at hc2 hB1
 rw [ha] at c2
 have hil:i < x.ens.length:=(List.getElem?_eq_some_iff.1 hi).1
 have hi5:x.ens.length≤512:=h.short.1
 have hch:en.child=(en.val[0]'(by omega)).toNat*256+(en.val[1]'(by omega)).toNat:=by
  unfold En.child
  rw [List.getD_eq_getElem?_getD,List.getD_eq_getElem?_getD,List.getElem?_eq_getElem (by omega),List.getElem?_eq_getElem (by omega)]
  rfl
 obtain ⟨v0,hv0'⟩:∃ v0,v0=en.val[0]'(by omega):=⟨_,rfl⟩
 obtain ⟨v1,hv1'⟩:∃ v1,v1=en.val[1]'(by omega):=⟨_,rfl⟩
 rw [← hv0'] at hv0 hch
 rw [← hv1'] at hv1 hch
 have h0:=v0.toNat_lt
 have h1:=v1.toNat_lt
 have hor:=or_child v0 v1
 unfold NO.ptr
 have hle:=h.cap.1
 obtain ⟨nn,hnn⟩:∃ nn,nn=x.ens.length:=⟨_,rfl⟩
 rw [← hnn] at c2 hil hi5 hle
 obtain ⟨xb,hxb⟩:∃ xb,xb=x.blk:=⟨_,rfl⟩
 rw [← hxb] at c2 ⊢
 obtain ⟨cp,hcp⟩:∃ cp,cp=x.cap:=⟨_,rfl⟩
 rw [← hcp] at c2 hle
 have HCH:=Lib.hid hch
 have HOR:=Lib.hid hor
 clear h hi hv ha hk1 hR hcell hch hor hv0' hv1' hnn hxb hcp
 go_enter Tryz.func152,Tryz.ntmps152
 go_wp2
 go_quiet (fail)
 go_wp2
 go_ret
 refine ⟨?_,_,rfl⟩
 rw [HCH.out]
 show Ending.returned (.int .i64 (bits BinOp.or IntKind.i64 ((v0.toNat:Int)*256) (v1.toNat:Int)))=_
 rw [HOR.out]
def TRestAt (w:World) (rb b o m c:Nat):Prop:=w.heap[rb]? = some (.cells #[.slice (some ⟨b,o,none⟩) m c,.bool false] 227 (0,0))
theorem restAt_set {w:World} {rb b o m c:Nat} (h:TRestAt w rb b o m c) (o' m' c':Nat):TRestAt (w.setCell ⟨rb,0,none⟩ (.slice (some ⟨b,o',none⟩) m' c')) rb b o' m' c':=by
 unfold TRestAt at h ⊢
 simp [World.setCell,Array.getElem?_modify,h]
def CutPost (rb b o m c n:Nat) (l:List UInt8) (w w':World):Prop :=
 ∃ o',TRestAt w' rb b o' (m - n) (c - n)∧ReadsB w' (some ⟨b,o,none⟩) (l.take n)∧ReadsB w' (some ⟨b,o',none⟩) (l.drop n)∧Kept (fun k=>k=rb) w w'
set_option maxHeartbeats 1600000 in
theorem tcut_ok (rb b o m c n:Nat) (l:List UInt8) (w:World) (h:TRestAt w rb b o m c) (hm:l.length=m) (hn:n≤m) (hc:m≤c) (hR:ReadsB w (some ⟨b,o,none⟩) l) (hbr:b≠rb) :
  Calls Tryz.prog 153 #[.pointer (some ⟨rb,0,none⟩),.int .i64 n] w fun e w'=>e=.returned (.slice (some ⟨b,o,none⟩) n n)∧CutPost rb b o m c n l w w':=by
 have c0:w.cell? ⟨rb,0,none⟩=some (.slice (some ⟨b,o,none⟩) m c):=by rw [Lib.cell_of_heap h];rfl
 have hfr:w.frozen? ⟨rb,0,none⟩=false:=by unfold TRestAt at h;simp [World.frozen?,h]
 have hlt:rb < w.heap.size:=(Array.getElem?_eq_some_iff.1 h).1
 have hgt:¬ ((m:Int) < n):=by omega
 have key:∀ o',(c=n∨o'=o+n)→CutPost rb b o m c n l w (w.setCell ⟨rb,0,none⟩ (.slice (some ⟨b,o',none⟩) (m - n) (c - n))):=by
  intro o' ho'
  have hkp:=Kept.setCell (fun k=>k=rb) w (b:=rb) (i:=0) rfl (.slice (some ⟨b,o',none⟩) (m - n) (c - n))
  refine ⟨o',restAt_set h _ _ _,(hR.take n).kept hkp (fun ad hA _ _ e=>by cases hA;exact hbr e),?_,hkp⟩
  rcases ho' with h0 | rfl
  ·rw [List.drop_of_length_le (by omega)];exact .inl rfl
  ·exact (hR.drop n).kept hkp (fun ad hA _ _ e=>by cases hA;exact hbr e)
 have hnc:n≤c:=by omega
 have em:(m:Int) - n=((m - n:Nat):Int):=by omega
 clear h hm hR hbr
 by_cases hcn:c=n
 ·have K0:=key o (.inl hcn)
  clear key
  subst hcn
  obtain rfl:m=c:=by omega
  rw [Nat.sub_self] at K0
  have K:=Lib.hid K0;clear K0
  go_enter Tryz.func153,Tryz.ntmps153
  go_wp2
  go_ret
  exact ⟨rfl,K.out⟩
 ·have K:=Lib.hid (key (o+n) (.inr rfl));clear key
  go_enter Tryz.func153,Tryz.ntmps153
  go_wp2
  go_ret
  exact ⟨rfl,K.out⟩
structure VN (level:Nat) (es:List En):Prop where
 ok:stN level es=true
 lev:level < 256
 fit:szE es≤510
theorem VN.len {level:Nat} {es:List En} (h:VN level es):1≤es.length∧es.length≤255:=by
 have h1:=szE_len es
 have h2:=h.fit
 have h3:=h.ok
 unfold stN at h3
 rw [Bool.and_eq_true,decide_eq_true_eq] at h3
 omega
theorem VN.at_ {level:Nat} {es:List En} (h:VN level es) {i:Nat} {e:En} (hi:es[i]? = some e):okE level i e=true:=by
 have h3:=h.ok
 unfold stN at h3
 rw [Bool.and_eq_true] at h3
 obtain ⟨hl,rfl⟩:=List.getElem?_eq_some_iff.1 hi
 have:=okEs_at level es 0 h3.1 i hl
 rwa [Nat.zero_add] at this
theorem okE_len {level i:Nat} {e:En} (h:okE level i e=true):e.key.length≤96∧e.val.length≤32:=by
 unfold okE at h
 simp only [Bool.and_eq_true,decide_eq_true_eq] at h
 exact ⟨h.1.1.2,h.1.2⟩
theorem VN.short {level:Nat} {es:List En} (h:VN level es):Short es:=by
 refine ⟨by have:=h.len;omega,fun e he=>?_⟩
 obtain ⟨i,hi,rfl⟩:=List.getElem_of_mem he
 have:=okE_len (h.at_ (List.getElem?_eq_getElem hi))
 omega
def zerosN (es:List En):List UInt8:=List.replicate (510 - szE es) 0
def leftE (es:List En) (k:Nat):List UInt8:=ensB (es.drop k)++zerosN es
theorem leftE_next {es:List En} {k:Nat} {e:En} (h:es[k]? = some e):leftE es k=UInt8.ofNat e.key.length :: UInt8.ofNat e.val.length :: (e.key++(e.val++leftE es (k+1))):=by
 obtain ⟨hl,rfl⟩:=List.getElem?_eq_some_iff.1 h
 unfold leftE
 rw [List.drop_eq_getElem_cons hl,ensB,En.bytes]
 simp
theorem pgB_left (level:Nat) (es:List En):pgB level es=UInt8.ofNat level :: UInt8.ofNat es.length :: leftE es 0:=by
 simp [pgB,ndB,leftE,zerosN]
theorem infoEntry:(Tryz.prog.info? 135).map (fun i=>(i.zero,i.size,i.bytes))=some (some (.agg #[.slice none 0 0,.slice none 0 0]),2,48):=by kernel_rfl
theorem make_entries (n:Nat) (hn:n≤1000000) (W:World):(Instr.makeSlice 136 (.int .u8 n) (.int .u8 n)).run Tryz.prog W=.ok (.slice (some ⟨W.heap.size,0,none⟩) n n) (W.alloc (.cells (madeCells #[.slice none 0 0,.slice none 0 0] (n*2)) 135)):=by
 obtain ⟨i,hi,hz,hs,hby⟩:=info_parts infoEntry
 have h:=run_make (P:=Tryz.prog) W 136 135 i _ Tryz.underlying136 hi hz .u8 .u8 n n (by omega) (by omega) (by rw [hby];omega) (by omega)
 rw [hs] at h
 rw [show (Value.agg #[.slice none 0 0,.slice none 0 0]).cells=#[.slice none 0 0,.slice none 0 0] from rfl] at h
 simpa using h
def BV (bb:Nat) (w:World) (v:Value) (l:List UInt8):Prop:=∃ o,v=.slice (some ⟨bb,o,none⟩) l.length l.length∧ReadsB w (some ⟨bb,o,none⟩) l
structure NL (es:List En) (bb rb eb nb pg lv:Nat) (was:ByteArray) (w:World) (k:Nat) (wr:World):Prop where
 rest:∃ o m c,TRestAt wr rb bb o m c∧m≤c∧(leftE es k).length=m∧ReadsB wr (some ⟨bb,o,none⟩) (leftE es k)
 ents:∃ cs,wr.heap[eb]? = some (.cells cs 135 (0,0))∧cs.size=es.length*2∧∀ i,i < k→∃ e kv vv,es[i]? = some e∧cs[i*2]? = some kv∧cs[i*2+1]? = some vv∧BV bb wr kv e.key∧BV bb wr vv e.val
 node:wr.heap[nb]? = some (.cells #[.int .i64 pg,.int .i64 lv,.slice (some ⟨eb,0,none⟩) es.length es.length,.string was,.int .i64 0] 138 (0,0))
 below:Below w.heap.size w wr
 ne:bb≠rb∧bb≠eb∧rb≠eb∧nb≠rb∧nb≠eb∧bb≠nb∧w.heap.size≤bb∧w.heap.size≤rb∧w.heap.size≤eb∧w.heap.size≤nb
theorem okE_parts {level i:Nat} {e:En} (h:okE level i e=true):(e.key.length=0 ↔ 0 < level∧i=0)∧e.key.length≤96∧e.val.length≤32∧(0 < level→e.val.length=2∧e.child < 4096):=by
 unfold okE at h
 simp only [Bool.and_eq_true,Bool.or_eq_true,beq_iff_eq,decide_eq_true_eq] at h
 obtain ⟨⟨⟨h1,h2⟩,h3⟩,h4⟩:=h
 refine ⟨?_,h2,h3,fun hl=>?_⟩
 ·rw [← decide_eq_decide,h1,Bool.decide_and]
 ·rcases h4 with h4 | h4
  ·omega
  ·exact h4
set_option maxHeartbeats 3200000 in
theorem stands_ok (X:Nat→Prop) (x:NO) (w:World) (h:NodeAt X w x) (hv:VN x.level x.ens) :
  Calls Tryz.prog 155 #[x.ptr] w fun e w'=>e=.returned (.bool true)∧Below w.heap.size w w':=by
 have c1:=h.c1
 have c2:=h.c2
 have hlt:=h.lt
 obtain ⟨N,hN⟩:∃ N,N=x.ens.length:=⟨_,rfl⟩
 have hN255:1≤N∧N≤255:=by have:=hv.len;omega
 have hcap:=h.cap.1
 rw [← hN] at c2 hcap
 unfold NO.ptr
 obtain ⟨xb,hxb⟩:∃ xb,xb=x.blk:=⟨_,rfl⟩
 rw [← hxb] at c1 c2 hlt ⊢
 obtain ⟨lv,hlv⟩:∃ lv,lv=x.level:=⟨_,rfl⟩
 have hlv2:lv < 256:=by rw [hlv];exact hv.lev
 rw [← hlv] at c1
 obtain ⟨ar,har⟩:∃ ar,ar=x.arr:=⟨_,rfl⟩
 obtain ⟨cp,hcp⟩:∃ cp,cp=x.cap:=⟨_,rfl⟩
 rw [← har,← hcp] at c2
 rw [← hcp] at hcap
 have HH:=Lib.hid h;have HV:=Lib.hid hv;have HN:=Lib.hid hN;have HXB:=Lib.hid hxb;have HLV:=Lib.hid hlv;have HAR:=Lib.hid har
 clear h hv hN hxb hlv har hcp
 go_enter Tryz.func155,Tryz.ntmps155
 go_wp2
 go_loopw [11] (fun i wr=>∃ k:Nat,k≤N∧i=.int .i64 k∧Hid (Below w.heap.size w wr)) (fun i _=>N - (intOf i).toNat)
 case atStart=>exact ⟨0,by omega,rfl,Lib.hid (Below.refl _ _)⟩
 case round =>
  obtain ⟨k,hk,rfl,HB⟩:=hrel
  by_cases hkn:k < N
  ·obtain ⟨en,hen⟩:=get_of HN.out.symm hkn
   have hNr:NodeAt X wr x:=HH.out.below HB.out
   obtain ⟨b,o,kv,vv,ha,hbl,hfr,hc1,hc2,hk1,hk2⟩:=hNr.ents.at_ hen
   rw [← HAR.out] at ha
   subst ha
   have hok:=okE_parts (HV.out.at_ hen)
   rw [← HLV.out] at hok
   obtain ⟨A1,q1,rfl,hA1,hA2,_⟩:=hk1
   obtain ⟨A2,q2,rfl,hB1,hB2,_⟩:=hk2
   obtain ⟨l1,hl1⟩:∃ l1,l1=en.key.length:=⟨_,rfl⟩
   obtain ⟨l2,hl2⟩:∃ l2,l2=en.val.length:=⟨_,rfl⟩
   rw [← hl1] at hc1 hok hA1
   rw [← hl2] at hc2 hok hB1
   have c1r:wr.cell? ⟨xb,1,none⟩=some (.int .i64 lv):=by rw [HB.out.cell (p:=⟨xb,1,none⟩) hlt];exact c1
   have c2r:wr.cell? ⟨xb,2,none⟩=some (.slice (some ⟨b,o,none⟩) N cp):=by rw [HB.out.cell (p:=⟨xb,2,none⟩) hlt];exact c2
   have hltr:xb < wr.heap.size:=Nat.lt_of_lt_of_le hlt HB.out.size
   have HCH:Hid (∀ W,Below wr.heap.size wr W→0 < lv→Calls Tryz.prog 152 #[.pointer (some ⟨xb,0,none⟩),.int .i64 k] W fun e w'=>e=.returned (.int .i64 en.child)∧∃ n,w'=W.drewN n):=Lib.hid (fun W hb hl=>by
    have:=child_any X x k en W (hNr.below hb) hen (by rw [← hl2];exact (hok.2.2.2 hl).1)
    unfold NO.ptr at this
    rw [← HXB.out] at this
    exact this)
   obtain ⟨ch,hch⟩:∃ ch,ch=en.child:=⟨_,rfl⟩
   rw [← hch] at hok HCH
   obtain ⟨hk0,hk96,hv32,hch4⟩:=hok
   have HL1:=Lib.hid hl1;have HL2:=Lib.hid hl2;have HEN:=Lib.hid hen;have HCHN:=Lib.hid hch
   clear hl1 hl2 hen hch hNr
   have hnk96:¬ ((96:Int) < l1):=by omega
   have hnv32:¬ ((32:Int) < l2):=by omega
   have ek:k*2+1=k*2+1:=rfl
   clear hA1 hA2 hB1 hB2 ek
   by_cases hl0:lv=0
   ·subst hl0
    have h10:0 < l1:=by rcases Nat.eq_zero_or_pos l1 with e | e;exact absurd (hk0.1 e).1 (by omega);exact e
    have hne0:decide (l1=0)=false:=decide_eq_false (by omega)
    clear hk0 hch4 HCH
    go_wp2
    go_roundw
    case rel=>exact ⟨k+1,by omega,by go_num,Lib.hid (below_then_ HB.out ((Below.refl _ _).alloc (Nat.le_refl _) _))⟩
    case measure=>simp [intOf];omega
   ·have hlp:0 < lv:=by omega
    have hlpi:(0:Int) < lv:=by omega
    have hch:=(hch4 hlp).2
    have h2:=(hch4 hlp).1
    have hne2:decide (l2=2)=true:=decide_eq_true h2
    have hge:¬ ((4096:Int)≤ch):=by omega
    have hlpd:decide (0 < lv)=true:=decide_eq_true hlp
    by_cases hk00:k=0
    ·subst hk00
     have h10:l1=0:=hk0.2 ⟨hlp,rfl⟩
     subst h10
     rw [Nat.zero_mul,Nat.add_zero] at hc1 hc2
     clear hk0 hch4
     go_wp2_with (go_at_call 152;refine (HCH.out _ ((Below.refl _ _).alloc (Nat.le_refl _) _) (by omega)).mono ?_;rintro e w1 ⟨rfl,q,rfl⟩)
     go_roundw
     case rel=>exact ⟨0+1,by omega,by go_num,Lib.hid (below_then_ HB.out ((below_then_ ((Below.refl _ _).alloc (Nat.le_refl _) _) (below_drewN _ _))))⟩
     case measure=>simp [intOf];omega
    ·have hkp:0 < k:=by omega
     have h10:0 < l1:=by rcases Nat.eq_zero_or_pos l1 with e | e;exact absurd (hk0.1 e).2 (by omega);exact e
     have hne0:decide (l1=0)=false:=decide_eq_false (by omega)
     have hkd:decide (k=0)=false:=decide_eq_false (by omega)
     have hkb:((k:Int) == 0)=false:=by simp;omega
     clear hk0 hch4
     go_wp2_with (go_at_call 152;refine (HCH.out _ ((Below.refl _ _).alloc (Nat.le_refl _) _) (by omega)).mono ?_;rintro e w1 ⟨rfl,q,rfl⟩)
     go_roundw
     case rel=>exact ⟨k+1,by omega,by go_num,Lib.hid (below_then_ HB.out ((below_then_ ((Below.refl _ _).alloc (Nat.le_refl _) _) (below_drewN _ _))))⟩
     case measure=>simp [intOf];omega
  ·obtain rfl:k=N:=by omega
   have c2r:wr.cell? ⟨xb,2,none⟩=some (.slice ar k cp):=by rw [HB.out.cell (p:=⟨xb,2,none⟩) hlt];exact c2
   have hltr:xb < wr.heap.size:=Nat.lt_of_lt_of_le hlt HB.out.size
   have hd:decide (0 < k)=true:=decide_eq_true (by omega)
   go_wp2
   go_ret
   exact ⟨rfl,HB.out⟩
theorem BV.kept {bb:Nat} {w w':World} {T:Nat→Prop} {v:Value} {l:List UInt8} (h:BV bb w v l) (hk:Kept T w w') (hT:¬ T bb):BV bb w' v l:=by
 obtain ⟨o,rfl,hR⟩:=h
 exact ⟨o,rfl,hR.kept hk (fun ad hA _ _=>by cases hA;exact hT)⟩
theorem nl_next {es:List En} {N bb rb eb nb pg lv k kl vl o2 o3 o4 m cc:Nat} {was:ByteArray} {w wr w6 w7 w8:World} {en:En} {v1 v2:Value} (HG:Hid (NL es bb rb eb nb pg lv was w k wr)) (hk:k < N) (HEN:Hid (es[k]? = some en)) (HK6:Hid (Kept (fun j=>j=rb) wr w6)) (HK7:Hid (Kept (fun j=>j=rb) w6.drew w7)) (HK8:Hid (Kept (fun j=>j=rb) w7 w8))
  (HR8:Hid (TRestAt w8 rb bb o4 (m - 2 - kl - vl) (cc - 2 - kl - vl))) (HL8:Hid (ReadsB w8 (some ⟨bb,o4,none⟩) (leftE es (k+1)))) (HE7:Hid (ReadsB w7 (some ⟨bb,o2,none⟩) en.key)) (HE8:Hid (ReadsB w8 (some ⟨bb,o3,none⟩) en.val))
  (HKL:Hid (kl=en.key.length)) (HVL:Hid (vl=en.val.length)) (HLM:Hid (m=2+(kl+(vl+(leftE es (k+1)).length)))) (hmc:m≤cc) (hN:es.length=N) (hv1:v1=.slice (some ⟨bb,o2,none⟩) kl kl) (hv2:v2=.slice (some ⟨bb,o3,none⟩) vl vl) :
  (∃ u0 u1,w8.cell? ⟨eb,k*2,none⟩=some u0∧w8.cell? ⟨eb,k*2+1,none⟩=some u1∧w8.frozen? ⟨eb,k*2,none⟩=false∧w8.frozen? ⟨eb,k*2+1,none⟩=false) ∧
  NL es bb rb eb nb pg lv was w (k+1) ((w8.setCell ⟨eb,k*2,none⟩ v1).setCell ⟨eb,k*2+1,none⟩ v2):=by
 obtain ⟨_,⟨cs,g5,g6,g7⟩,g8,g9,ne1,ne2,ne3,ne4,ne5,ne10,ne6,ne7,ne8,ne9⟩:=HG.out
 have hk68:Kept (fun j=>j=rb) wr w8:=(HK6.out.trans (b:=w6) (c:=w7) ⟨HK7.out.os,HK7.out.tape,HK7.out.output,HK7.out.size,HK7.out.block⟩ (fun i hi=>.inl hi)).trans HK8.out (fun i hi=>.inl hi)
 have hle:eb < wr.heap.size:=(Array.getElem?_eq_some_iff.1 g5).1
 have hln:nb < wr.heap.size:=(Array.getElem?_eq_some_iff.1 g8).1
 have he8:w8.heap[eb]? = some (.cells cs 135 (0,0)):=(hk68.block eb hle (Ne.symm ne3)).trans g5
 have hn8:=(hk68.block nb hln ne4).trans g8
 have hkc:k*2+1 < cs.size:=by omega
 refine ⟨⟨cs[k*2],cs[k*2+1],?_,?_,?_,?_⟩,?_⟩
 ·rw [Lib.cell_of_heap he8];exact Array.getElem?_eq_getElem _
 ·rw [Lib.cell_of_heap he8];exact Array.getElem?_eq_getElem _
 ·simp [World.frozen?,he8]
 ·simp [World.frozen?,he8]
 ·obtain ⟨w9,hw9⟩:∃ w9,w9=(w8.setCell ⟨eb,k*2,none⟩ v1).setCell ⟨eb,k*2+1,none⟩ v2:=⟨_,rfl⟩
  rw [← hw9]
  have hk9:Kept (fun j=>j=eb) w8 w9:=by rw [hw9];exact (Kept.setCell (fun j=>j=eb) w8 rfl v1).trans (Kept.setCell (fun j=>j=eb) _ rfl v2) (fun i hi=>.inl hi)
  have he9:w9.heap[eb]? = some (.cells ((cs.setIfInBounds (k*2) v1).setIfInBounds (k*2+1) v2) 135 (0,0)):=by
   rw [hw9];simp [World.setCell,Array.getElem?_modify,he8]
  have hlr:rb < w8.heap.size:=(Array.getElem?_eq_some_iff.1 HR8.out).1
  refine ⟨⟨o4,m - 2 - kl - vl,cc - 2 - kl - vl,?_,by omega,by have:=HLM.out;omega,HL8.out.kept hk9 (fun ad hA _ _=>by cases hA;exact ne2)⟩,⟨_,he9,by simp [g6],?_⟩,(hk9.block nb (Nat.lt_of_lt_of_le hln hk68.size) ne5).trans hn8,?_,ne1,ne2,ne3,ne4,ne5,ne10,ne6,ne7,ne8,ne9⟩
  ·have:=HR8.out
   unfold TRestAt at this ⊢
   rw [hk9.block rb hlr ne3];exact this
  ·intro i hi
   by_cases hik:i=k
   ·subst hik
    refine ⟨en,v1,v2,HEN.out,?_,?_,?_,?_⟩
    ·rw [Array.getElem?_setIfInBounds_ne (by omega),Array.getElem?_setIfInBounds_self_of_lt (by omega)]
    ·rw [Array.getElem?_setIfInBounds_self_of_lt (by simp;omega)]
    ·exact ⟨o2,by rw [hv1,HKL.out],(HE7.out.kept HK8.out (fun ad hA _ _=>by cases hA;exact ne1)).kept hk9 (fun ad hA _ _=>by cases hA;exact ne2)⟩
    ·exact ⟨o3,by rw [hv2,HVL.out],HE8.out.kept hk9 (fun ad hA _ _=>by cases hA;exact ne2)⟩
   ·obtain ⟨e,kv,vv,h1,h2,h3,h4,h5⟩:=g7 i (by omega)
    refine ⟨e,kv,vv,h1,?_,?_,(h4.kept hk68 ne1).kept hk9 ne2,(h5.kept hk68 ne1).kept hk9 ne2⟩
    ·rw [Array.getElem?_setIfInBounds_ne (by omega),Array.getElem?_setIfInBounds_ne (by omega)];exact h2
    ·rw [Array.getElem?_setIfInBounds_ne (by omega),Array.getElem?_setIfInBounds_ne (by omega)];exact h3
  ·exact (g9.trans (hk68.toBelow (B:=w.heap.size) g9.size (fun i hi=>by omega))).trans (hk9.toBelow (Nat.le_trans g9.size hk68.size) (fun i hi=>by omega))
def rdNO (nb eb pg level:Nat) (es:List En) (had:Nat):NO:=⟨nb,pg,level,es,some ⟨eb,0,none⟩,es.length,pgB level es,had,true⟩
theorem nl_node {es:List En} {bb rb eb nb pg level:Nat} {was:ByteArray} {w wr:World} (h:NL es bb rb eb nb pg level was w es.length wr) (hw:was=⟨(pgB level es).toArray⟩) (hv:VN level es) (hpg:pg < 4096) (X:Nat→Prop) (hX:∀ k,X k→k < w.heap.size) :
  NodeAt (fun k=>X k∨k=nb∨k=eb) wr (rdNO nb eb pg level es 0):=by
 obtain ⟨_,⟨cs,g5,g6,g7⟩,g8,g9,ne1,ne2,ne3,ne4,ne5,ne10,ne6,ne7,ne8,ne9⟩:=h
 have hbx:¬ (X bb∨bb=nb∨bb=eb):=by
  rintro (h | h | h)
  ·have:=hX _ h;omega
  ·exact ne10 h
  ·exact ne2 h
 have hsh:=hv.short
 refine ⟨by show wr.heap[nb]? = _;rw [g8,hw];rfl,.inr (.inl rfl),.inr ⟨eb,0,cs,rfl,g5,.inr (.inr rfl),fun i hi=>?_⟩,⟨Nat.le_refl _,by have:=hv.len;show es.length≤maxLen;unfold maxLen;omega⟩,⟨hpg,by have:=hv.lev;show level≤_;omega,by show 0≤_;omega⟩,hsh,fun _ _=>⟨eb,rfl⟩⟩
 obtain ⟨e,kv,vv,h1,h2,h3,⟨o1,rfl,r1⟩,⟨o2,rfl,r2⟩⟩:=g7 i hi
 obtain ⟨_,he⟩:=List.getElem?_eq_some_iff.1 h1
 have hs:=hsh.at_ h1
 refine ⟨_,_,by rw [Nat.zero_add,Nat.mul_comm];exact h2,by rw [Nat.zero_add,Nat.mul_comm];exact h3,?_,?_⟩
 ·show BytesV _ _ _ es[i].key
  rw [he]
  exact ⟨_,_,rfl,Nat.le_refl _,by unfold maxLen;omega,r1,fun ad hA _=>by cases hA;exact hbx⟩
 ·show BytesV _ _ _ es[i].val
  rw [he]
  exact ⟨_,_,rfl,Nat.le_refl _,by unfold maxLen;omega,r2,fun ad hA _=>by cases hA;exact hbx⟩
theorem NodeAt.setHad {X:Nat→Prop} {w:World} {nb eb pg level:Nat} {es:List En} {a:Nat} (h:NodeAt X w (rdNO nb eb pg level es a)) (hne:nb≠eb) (b:Nat) (hb:b≤1000000) :
  NodeAt X (w.setCell ⟨nb,4,none⟩ (.int .i64 b)) (rdNO nb eb pg level es b):=by
 have hk:=Kept.setCell (fun j=>j=nb) w (b:=nb) (i:=4) rfl (.int .i64 b)
 refine ⟨?_,h.own,h.ents.kept hk (fun k _ e=>e ▸ h.own) (fun _ _ h=>h) (fun _ h=>h) (fun ad hA _ e=>?_),h.cap,⟨h.small.1,h.small.2.1,hb⟩,h.short,h.alone⟩
 ·have:=h.blk
  unfold rdNO NO.cells at this ⊢
  simp [World.setCell,Array.getElem?_modify,this]
 ·cases hA;exact hne e.symm
def NO.ab (x:NO):Nat:=match x.arr with
 | some ad=>ad.block
 | none=>x.blk
structure FreshAt (w:World) (x:NO) (w':World):Prop where
 node:∀ X:Nat→Prop,(∀ k,X k→k < w.heap.size)→NodeAt (fun k=>X k∨k=x.blk∨k=x.ab) w' x
 new:w.heap.size≤x.blk∧w.heap.size≤x.ab
 below:Below w.heap.size w w'
def LoadPost (pg level:Nat) (es:List En) (w:World) (r:Value) (w':World):Prop :=
 ∃ x:NO,r=x.ptr∧FreshAt w x w'∧x.page=pg∧x.level=level∧x.ens=es∧x.was=pgB level es∧x.had=szE es∧x.sole=true∧x.cap=es.length
set_option maxHeartbeats 6400000 in
theorem nodeOf_ok (pg level:Nat) (es:List En) (w:World) (hv:VN level es) (hpg:pg < 4096) :
  Calls Tryz.prog 115 #[.int .i64 pg,.string ⟨(pgB level es).toArray⟩] w fun e w'=>∃ r,e=.returned (.tuple #[r,.bool true])∧LoadPost pg level es w r w':=by
 obtain ⟨s,hs⟩:∃ s:ByteArray,s=⟨(pgB level es).toArray⟩:=⟨_,rfl⟩
 have hsl:s.data.toList=pgB level es:=by rw [hs]
 have hsz:s.size=512:=by rw [hs,str_size,pgB_length _ _ hv.fit]
 obtain ⟨c,W,hcv,hc,hR,hbW⟩:=bytesOf_reads w s
 rw [hsl] at hR
 rw [hsz] at hc hcv
 rw [← hs]
 obtain ⟨w2,hw2⟩:∃ w2,w2=W.alloc (.cells #[.slice (some ⟨w.heap.size,0,none⟩) 512 c,.bool false] 227):=⟨_,rfl⟩
 have hbb:w.heap.size < W.heap.size:=hR.blk_lt (by rw [pgB_left];simp)
 have hb2:Below W.heap.size W w2:=by rw [hw2];exact (Below.refl _ _).alloc (Nat.le_refl _) _
 have hrs2:TRestAt w2 W.heap.size w.heap.size 0 512 c:=by unfold TRestAt;rw [hw2];exact heap_alloc_new W _
 have hR2:=hR.below hb2
 have hpl:(pgB level es).length=512:=pgB_length _ _ hv.fit
 have HCUT:Hid (Calls Tryz.prog 153 #[.pointer (some ⟨W.heap.size,0,none⟩),.int .i64 2] w2 fun e w'=>e=.returned (.slice (some ⟨w.heap.size,0,none⟩) 2 2)∧CutPost W.heap.size w.heap.size 0 512 c 2 (pgB level es) w2 w'):=Lib.hid (tcut_ok W.heap.size w.heap.size 0 512 c 2 (pgB level es) w2 hrs2 hpl (by omega) hc hR2 (by omega))
 obtain ⟨N,hN⟩:∃ N,N=es.length:=⟨_,rfl⟩
 have hN255:1≤N∧N≤255:=by have:=hv.len;omega
 have hlv:=hv.lev
 have hmk:=make_entries N (by omega)
 obtain ⟨Z,hZ⟩:∃ Z,Z=madeCells #[.slice none 0 0,.slice none 0 0] (N*2):=⟨_,rfl⟩
 have hZs:Z.size=N*2:=by rw [hZ,size_madeCells]
 rw [← hZ] at hmk
 have HW2:=Lib.hid hw2;have HS:=Lib.hid hs;have HSL:=Lib.hid hsl;have HV:=Lib.hid hv;have HB2:=Lib.hid hb2;have HBW:=Lib.hid hbW;have HN:=Lib.hid hN;have HZ:=Lib.hid hZ;have HZS:=Lib.hid hZs
 have HMK:=Lib.hid hmk
 clear hs hsl hsz hR hw2 hb2 hrs2 hR2 hpl hv hbW hN hZ hZs hmk
 go_enter Tryz.func115,Tryz.ntmps115
 go_wp2_with fail
 rw [← HW2.out]
 refine HCUT.out.mono ?_
 rintro e w3 ⟨rfl,hcut⟩
 obtain ⟨o1,hrs3,hrd3,hrl3,hk3⟩:=hcut
 have hS0:w3.cell? ⟨w.heap.size,0,none⟩=some (.int .u8 (level:Int))∧w3.cell? ⟨w.heap.size,1,none⟩=some (.int .u8 (N:Int)):=by
  obtain ⟨b,off,he,_,hc⟩:=hrd3.at (by rw [pgB_left];simp)
  injection he with he;injection he with e1 e2;subst e1;subst e2
  have h0:=hc 0 (by rw [pgB_left];simp)
  have h1:=hc 1 (by rw [pgB_left];simp)
  simp only [pgB_left,List.take_succ_cons,List.getElem_cons_zero,List.getElem_cons_succ] at h0 h1
  refine ⟨by rw [h0];congr 2;simp;omega,by rw [h1,← HN.out];congr 2;simp;omega⟩
 have HS0:Hid (w3.cell? ⟨w.heap.size,0,none⟩=some (.int .u8 (level:Int))∧w3.cell? ⟨w.heap.size,1,none⟩=some (.int .u8 (N:Int))):=Lib.hid hS0
 have HR3:=Lib.hid hrs3;have HL3:=Lib.hid hrl3;have HK3:=Lib.hid hk3
 clear hrs3 hrd3 hrl3 hk3 hS0
 have HL0:Hid (∀ W':World,(W'.cell? ⟨w.heap.size,0,none⟩=some (.int .u8 (level:Int))∧W'.cell? ⟨w.heap.size,1,none⟩=some (.int .u8 (N:Int)))→W'.cell? ⟨w.heap.size,0,none⟩=some (.int .u8 (level:Int))∧W'.cell? ⟨w.heap.size,1,none⟩=some (.int .u8 (N:Int))):=Lib.hid (fun _ h=>h)
 have hb3:w.heap.size < w3.heap.size:=Nat.lt_of_lt_of_le (by have:=HB2.out.size;omega) HK3.out.size
 have hcl:∀ (X:World) (o:Obj) (j:Nat),w.heap.size < X.heap.size→(X.alloc o).cell? ⟨w.heap.size,j,none⟩=X.cell? ⟨w.heap.size,j,none⟩:=fun X o j h=>World.cell?_alloc_lt X o _ h
 have HS4:Hid ((w3.drew.alloc (.cells Z 135)).cell? ⟨w.heap.size,0,none⟩=some (.int .u8 (level:Int))∧(w3.drew.alloc (.cells Z 135)).cell? ⟨w.heap.size,1,none⟩=some (.int .u8 (N:Int))):=Lib.hid ⟨(hcl w3 _ 0 hb3).trans HS0.out.1,(hcl w3 _ 1 hb3).trans HS0.out.2⟩
 have HS5:Hid (∀ o,(((w3.drew.alloc (.cells Z 135)).alloc o).cell? ⟨w.heap.size,0,none⟩=some (.int .u8 (level:Int))∧((w3.drew.alloc (.cells Z 135)).alloc o).cell? ⟨w.heap.size,1,none⟩=some (.int .u8 (N:Int)))):=Lib.hid fun o=>⟨(hcl _ o 0 (by simp;omega)).trans HS4.out.1,(hcl _ o 1 (by simp;omega)).trans HS4.out.2⟩
 clear hcl
 have ewl:IntKind.i64.wrap (level:Int)=level:=IntWalk.i64_in _ (by omega)
 go_wp2
 refine wp_region_held_drew (S:=fun W=>W.cell? ⟨w.heap.size,0,none⟩=some (.int .u8 (level:Int))∧W.cell? ⟨w.heap.size,1,none⟩=some (.int .u8 (N:Int))) (by kernel_rfl) HS0.out (fun hHeld=>?_)
 refine wpAnyH_take (i:=0) (v:=.int .i64 pg) rfl (by kernel_rfl) (by kernel_rfl) (by kernel_rfl) (fun _ _ _ h=>h) (Or.inl ⟨by rfl,fun W hW=>by go_simp⟩) HS0.out ?_
 refine wpAnyH_take (i:=1) (v:=.slice (some ⟨w.heap.size,0,none⟩) 2 2) rfl (by kernel_rfl) (by kernel_rfl) (by kernel_rfl) (fun _ _ _ h=>h) (Or.inl ⟨by rfl,fun W hW=>by go_simp⟩) HS0.out ?_
 refine wpAnyH_take (i:=2) (v:=.pointer (some ⟨w.heap.size,0,none⟩)) rfl (by kernel_rfl) (by kernel_rfl) (by kernel_rfl) (fun _ _ _ h=>h) (Or.inl ⟨by rfl,fun W hW=>by go_simp⟩) HS0.out ?_
 refine wpAnyH_take (i:=3) (v:=.int .u8 level) rfl (by kernel_rfl) (by kernel_rfl) (by kernel_rfl) (fun _ _ _ h=>h) (Or.inl ⟨by rfl,fun W hW=>by have x0:=(HL0.out W hW).1;clear hW;go_simp⟩) HS0.out ?_
 refine wpAnyH_take (i:=4) (v:=.int .i64 level) rfl (by kernel_rfl) (by kernel_rfl) (by kernel_rfl) (fun _ _ _ h=>h) (Or.inl ⟨by rfl,fun W hW=>by go_simp⟩) HS0.out ?_
 refine wpAnyH_take (i:=5) (v:=.string s) rfl (by kernel_rfl) (by kernel_rfl) (by kernel_rfl) (fun _ _ _ h=>h) (Or.inl ⟨by rfl,fun W hW=>by go_simp⟩) HS0.out ?_
 refine wpAnyH_take (i:=6) (v:=.slice (some ⟨w.heap.size,0,none⟩) 2 2) rfl (by kernel_rfl) (by kernel_rfl) (by kernel_rfl) (fun _ _ _ h=>h) (Or.inl ⟨by rfl,fun W hW=>by go_simp⟩) HS0.out ?_
 refine wpAnyH_take (i:=7) (v:=.pointer (some ⟨w.heap.size,1,none⟩)) rfl (by kernel_rfl) (by kernel_rfl) (by kernel_rfl) (fun _ _ _ h=>h) (Or.inl ⟨by rfl,fun W hW=>by go_simp⟩) HS0.out ?_
 refine wpAnyH_take (i:=8) (v:=.int .u8 N) rfl (by kernel_rfl) (by kernel_rfl) (by kernel_rfl) (fun _ _ _ h=>h) (Or.inl ⟨by rfl,fun W hW=>by have x1:=(HL0.out W hW).2;clear hW;go_simp⟩) HS0.out ?_
 refine wpAnyH_ready (rs:=[9]) (by kernel_rfl) (by simp) ?_
 refine AllReadyH.cons rfl (fun K hK=>?_) AllReadyH.nil
 have hmk:=HMK.out
 go_simp
 clear hmk
 refine hK.out _ _ HS4.out (fun hHeld2=>?_)
 clear hK K
 refine wpAnyH_take (i:=10) (v:=.agg #[.int .i64 pg,.int .i64 level,.slice (some ⟨w3.heap.size,0,none⟩) N N,.string s,.int .i64 0]) rfl (by kernel_rfl) (by kernel_rfl) (by kernel_rfl) (fun _ _ _ h=>h) (Or.inl ⟨by rfl,fun W hW=>by go_simp⟩) HS4.out ?_
 refine wpAnyH_ready (rs:=[11]) (by kernel_rfl) (by simp) ?_
 refine AllReadyH.cons rfl (fun K hK=>?_) AllReadyH.nil
 go_simp
 refine hK.out _ _ (HS5.out _) (fun hHeld3=>?_)
 clear hK K
 refine wpAnyH_take (i:=12) (v:=.pointer (some ⟨w3.heap.size+1,0,none⟩)) rfl (by kernel_rfl) (by kernel_rfl) (by kernel_rfl) (fun _ _ _ h=>h) (Or.inl ⟨by rfl,fun W hW=>by go_simp⟩) (HS5.out _) ?_
 refine wpAnyH_done (by kernel_rfl) ?_ _
 clear hHeld hHeld2 hHeld3
 obtain ⟨w5,hw5⟩:∃ w5,w5=((w3.alloc (.cells Z 135)).alloc (.cells #[.int .i64 pg,.int .i64 level,.slice (some ⟨w3.heap.size,0,none⟩) N N,.string s,.int .i64 0] 138)).drew:=⟨_,rfl⟩
 have hdr:∀ X:World,X.drew.heap=X.heap:=fun _=>rfl
 rw [← hw5]
 have HNL:Hid (NL es w.heap.size W.heap.size w3.heap.size (w3.heap.size+1) pg level s w 0 w5):=Lib.hid (by
  have hb35:Below w3.heap.size w3 w5:=by rw [hw5];exact (((Below.refl _ w3).alloc (Nat.le_refl _) _).alloc (by simp) _).drew
  have hz2:w2.heap.size=W.heap.size+1:=by rw [HW2.out];simp
  have hz3:w2.heap.size≤w3.heap.size:=HK3.out.size
  have hl0:(pgB level es).drop 2=leftE es 0:=by rw [pgB_left];rfl
  have hl1:(leftE es 0).length=510:=by rw [← hl0,List.length_drop,pgB_length _ _ HV.out.fit]
  have hh:∀ k,k < w3.heap.size→w5.heap[k]? = w3.heap[k]?:=fun k hk=>hb35.block k hk
  have hlr:W.heap.size < w3.heap.size:=(Array.getElem?_eq_some_iff.1 HR3.out).1
  refine ⟨⟨o1,510,c - 2,?_,by omega,hl1,?_⟩,⟨Z,?_,by rw [HZS.out,HN.out],fun i hi=>by omega⟩,?_,?_,by omega⟩
  ·have h:=HR3.out
   unfold TRestAt at h ⊢
   rw [hh _ hlr];exact h
  ·rw [← hl0];exact HL3.out.below hb35
  ·rw [hw5,hdr,Below.heap_alloc _ _ _ (by simp)]
   exact heap_alloc_new w3 _
  ·rw [hw5,hdr,← HN.out]
   have:=heap_alloc_new (w3.alloc (.cells Z 135)) (.cells #[.int .i64 pg,.int .i64 level,.slice (some ⟨w3.heap.size,0,none⟩) N N,.string s,.int .i64 0] 138)
   simpa using this
  ·exact below_then ((below_then_ HBW.out HB2.out).trans (HK3.out.toBelow (B:=w.heap.size) (by omega) (fun i hi=>by omega))) hb35 (Nat.le_refl _))
 clear hb3 HS0 HS4 HS5 HL0 ewl hdr hw5
 obtain ⟨bb,hbbd⟩:∃ b,b=w.heap.size:=⟨_,rfl⟩
 obtain ⟨rb,hrbd⟩:∃ b,b=W.heap.size:=⟨_,rfl⟩
 obtain ⟨eb,hebd⟩:∃ b,b=w3.heap.size:=⟨_,rfl⟩
 obtain ⟨nb,hnbd⟩:∃ b,b=w3.heap.size+1:=⟨_,rfl⟩
 rw [← hbbd,← hrbd,← hebd] at HNL ⊢
 rw [hebd,← hnbd,← hebd] at HNL ⊢
 have HBD:=Lib.hid hbbd;have HRD:=Lib.hid hrbd;have HED:=Lib.hid hebd;have HND:=Lib.hid hnbd
 clear hbbd hrbd hebd hnbd HCUT HW2 HB2 HBW HR3 HL3 HK3 hbb hcv hc HMK HZ HZS
 have cn2:w5.cell? ⟨nb,2,none⟩=some (.slice (some ⟨eb,0,none⟩) N N):=by rw [Lib.cell_of_heap HNL.out.node,HN.out];rfl
 go_wp2
 clear cn2
 go_loopw [32] (fun i wr=>∃ k:Nat,k≤N∧i=.int .i64 k∧Hid (NL es bb rb eb nb pg level s w k wr)) (fun i _=>N - (intOf i).toNat)
 case atStart=>exact ⟨0,by omega,rfl,HNL⟩
 case round =>
  obtain ⟨k,hk,rfl,HG⟩:=hrel
  by_cases hkn:k < N
  ·obtain ⟨en,hen⟩:=get_of HN.out.symm hkn
   have hsh:=HV.out.short.at_ hen
   obtain ⟨kl,hkl⟩:∃ kl,kl=en.key.length:=⟨_,rfl⟩
   obtain ⟨vl,hvl⟩:∃ vl,vl=en.val.length:=⟨_,rfl⟩
   have hkl5:kl≤255:=by omega
   have hvl5:vl≤255:=by omega
   obtain ⟨⟨o,m,cc,g1,g2,g3,g4⟩,⟨cs,g5,g6,g7⟩,g8,g9,g10⟩:=HG.out
   have hle:=leftE_next hen
   have hlm:m=2+(kl+(vl+(leftE es (k+1)).length)):=by rw [← g3,hle];simp;omega
   have HC1:=Lib.hid (tcut_ok rb bb o m cc 2 (leftE es k) wr g1 g3 (by omega) g2 g4 g10.1)
   have HLE:=Lib.hid hle;have HLM:=Lib.hid hlm;have HKL:=Lib.hid hkl;have HVL:=Lib.hid hvl;have HEN:=Lib.hid hen
   have HG5:=Lib.hid g5;have HG6:=Lib.hid g6;have HG7:=Lib.hid g7;have HG8:=Lib.hid g8;have HG9:=Lib.hid g9
   obtain ⟨ne1,ne2,ne3,ne4,ne5,ne10,ne6,ne7,ne8,ne9⟩:=g10
   have hg4:=Lib.hid g4
   clear hle hlm hkl hvl hen g1 g3 g4 g5 g6 g7 g8 g9 hsh
   go_wp2_with fail
   refine HC1.out.mono ?_
   rintro e w6 ⟨rfl,o2,h61,h62,h63,h64⟩
   have HT6:Hid (w6.cell? ⟨nb,2,none⟩=some (.slice (some ⟨eb,0,none⟩) N N)∧w6.cell? ⟨bb,o,none⟩=some (.int .u8 (kl:Int))∧w6.cell? ⟨bb,o+1,none⟩=some (.int .u8 (vl:Int))):=Lib.hid (by
    have hnl:nb < wr.heap.size:=(Array.getElem?_eq_some_iff.1 HG8.out).1
    refine ⟨?_,?_⟩
    ·rw [World.cell?_of_block (h64.block nb hnl ne4),Lib.cell_of_heap HG8.out,HN.out];rfl
    ·obtain ⟨b,off,he,_,hc⟩:=h62.at (by rw [HLE.out];simp)
     injection he with he;injection he with e1 e2;subst e1;subst e2
     have h0:=hc 0 (by rw [HLE.out];simp)
     have h1:=hc 1 (by rw [HLE.out];simp)
     simp only [HLE.out,List.take_succ_cons,List.getElem_cons_zero,List.getElem_cons_succ] at h0 h1
     rw [Nat.add_zero] at h0
     refine ⟨by rw [h0,← HKL.out];congr 2;simp;omega,by rw [h1,← HVL.out];congr 2;simp;omega⟩)
   have hd2:(leftE es k).drop 2=en.key++(en.val++leftE es (k+1)):=by rw [HLE.out];rfl
   rw [hd2] at h63
   have HR6:=Lib.hid h61;have HL6:=Lib.hid h63;have HK6:=Lib.hid h64
   clear h61 h62 h63 h64 hd2
   have HQ:Hid (∀ W:World,(W.cell? ⟨nb,2,none⟩=some (.slice (some ⟨eb,0,none⟩) N N)∧W.cell? ⟨bb,o,none⟩=some (.int .u8 (kl:Int))∧W.cell? ⟨bb,o+1,none⟩=some (.int .u8 (vl:Int)))→W.cell? ⟨nb,2,none⟩=some (.slice (some ⟨eb,0,none⟩) N N)∧W.cell? ⟨bb,o,none⟩=some (.int .u8 (kl:Int))∧W.cell? ⟨bb,o+1,none⟩=some (.int .u8 (vl:Int))):=Lib.hid (fun _ h=>h)
   have ekl:IntKind.i64.wrap (kl:Int)=kl:=IntWalk.i64_in _ (by omega)
   have evl:IntKind.i64.wrap (vl:Int)=vl:=IntWalk.i64_in _ (by omega)
   go_wp2
   refine wp_region_held_drew (S:=fun W=>W.cell? ⟨nb,2,none⟩=some (.slice (some ⟨eb,0,none⟩) N N)∧W.cell? ⟨bb,o,none⟩=some (.int .u8 (kl:Int))∧W.cell? ⟨bb,o+1,none⟩=some (.int .u8 (vl:Int))) (by kernel_rfl) HT6.out (fun hHeld=>?_)
   refine wpAnyH_take (i:=0) (v:=.pointer (some ⟨nb,0,none⟩)) rfl (by kernel_rfl) (by kernel_rfl) (by kernel_rfl) (fun _ _ _ h=>h) (Or.inl ⟨by rfl,fun W hW=>by go_simp⟩) HT6.out ?_
   refine wpAnyH_take (i:=1) (v:=.pointer (some ⟨nb,0,none⟩)) rfl (by kernel_rfl) (by kernel_rfl) (by kernel_rfl) (fun _ _ _ h=>h) (Or.inl ⟨by rfl,fun W hW=>by go_simp⟩) HT6.out ?_
   refine wpAnyH_take (i:=2) (v:=.pointer (some ⟨nb,2,none⟩)) rfl (by kernel_rfl) (by kernel_rfl) (by kernel_rfl) (fun _ _ _ h=>h) (Or.inl ⟨by rfl,fun W hW=>by go_simp⟩) HT6.out ?_
   refine wpAnyH_take (i:=3) (v:=.slice (some ⟨eb,0,none⟩) N N) rfl (by kernel_rfl) (by kernel_rfl) (by kernel_rfl) (fun _ _ _ h=>h) (Or.inl ⟨by rfl,fun W hW=>by obtain ⟨x0,x1,x2⟩:=HQ.out W hW;clear hW;go_simp⟩) HT6.out ?_
   refine wpAnyH_take (i:=4) (v:=.int .i64 k) rfl (by kernel_rfl) (by kernel_rfl) (by kernel_rfl) (fun _ _ _ h=>h) (Or.inl ⟨by rfl,fun W hW=>by go_simp⟩) HT6.out ?_
   refine wpAnyH_take (i:=5) (v:=.slice (some ⟨bb,o,none⟩) 2 2) rfl (by kernel_rfl) (by kernel_rfl) (by kernel_rfl) (fun _ _ _ h=>h) (Or.inl ⟨by rfl,fun W hW=>by go_simp⟩) HT6.out ?_
   refine wpAnyH_take (i:=6) (v:=.pointer (some ⟨bb,o,none⟩)) rfl (by kernel_rfl) (by kernel_rfl) (by kernel_rfl) (fun _ _ _ h=>h) (Or.inl ⟨by rfl,fun W hW=>by go_simp⟩) HT6.out ?_
   refine wpAnyH_take (i:=7) (v:=.int .u8 kl) rfl (by kernel_rfl) (by kernel_rfl) (by kernel_rfl) (fun _ _ _ h=>h) (Or.inl ⟨by rfl,fun W hW=>by obtain ⟨x0,x1,x2⟩:=HQ.out W hW;clear hW;go_simp⟩) HT6.out ?_
   refine wpAnyH_take (i:=8) (v:=.int .i64 kl) rfl (by kernel_rfl) (by kernel_rfl) (by kernel_rfl) (fun _ _ _ h=>h) (Or.inl ⟨by rfl,fun W hW=>by go_simp⟩) HT6.out ?_
   refine wpAnyH_take (i:=10) (v:=.slice (some ⟨bb,o,none⟩) 2 2) rfl (by kernel_rfl) (by kernel_rfl) (by kernel_rfl) (fun _ _ _ h=>h) (Or.inl ⟨by rfl,fun W hW=>by go_simp⟩) HT6.out ?_
   refine wpAnyH_take (i:=11) (v:=.pointer (some ⟨bb,o+1,none⟩)) rfl (by kernel_rfl) (by kernel_rfl) (by kernel_rfl) (fun _ _ _ h=>h) (Or.inl ⟨by rfl,fun W hW=>by go_simp⟩) HT6.out ?_
   refine wpAnyH_take (i:=12) (v:=.int .u8 vl) rfl (by kernel_rfl) (by kernel_rfl) (by kernel_rfl) (fun _ _ _ h=>h) (Or.inl ⟨by rfl,fun W hW=>by obtain ⟨x0,x1,x2⟩:=HQ.out W hW;clear hW;go_simp⟩) HT6.out ?_
   refine wpAnyH_take (i:=13) (v:=.int .i64 vl) rfl (by kernel_rfl) (by kernel_rfl) (by kernel_rfl) (fun _ _ _ h=>h) (Or.inl ⟨by rfl,fun W hW=>by go_simp⟩) HT6.out ?_
   clear ekl evl
   refine wpAnyH_ready (rs:=[9]) (by kernel_rfl) (by simp) ?_
   refine AllReadyH.cons rfl (fun K hK=>?_) AllReadyH.nil
   go_wp2_with fail
   refine (tcut_ok rb bb o2 (m - 2) (cc - 2) kl (en.key++(en.val++leftE es (k+1))) w6.drew HR6.out (by rw [HLM.out,HKL.out,HVL.out];simp) (by have:=HLM.out;omega) (by omega) HL6.out ne1).mono ?_
   rintro e w7 ⟨rfl,o3,h71,h72,h73,h74⟩
   have HKS:Hid (∀ X Y:World,Kept (fun j=>j=rb) X Y→nb < X.heap.size→bb < X.heap.size→(X.cell? ⟨nb,2,none⟩=some (.slice (some ⟨eb,0,none⟩) N N)∧X.cell? ⟨bb,o,none⟩=some (.int .u8 (kl:Int))∧X.cell? ⟨bb,o+1,none⟩=some (.int .u8 (vl:Int)))→Y.cell? ⟨nb,2,none⟩=some (.slice (some ⟨eb,0,none⟩) N N)∧Y.cell? ⟨bb,o,none⟩=some (.int .u8 (kl:Int))∧Y.cell? ⟨bb,o+1,none⟩=some (.int .u8 (vl:Int))):=Lib.hid (fun X Y hXY h1 h2 h=>by
    have e1:=hXY.block nb h1 ne4
    have e2:=hXY.block bb h2 ne1
    exact ⟨(World.cell?_of_block e1).trans h.1,(World.cell?_of_block e2).trans h.2.1,(World.cell?_of_block e2).trans h.2.2⟩)
   have hz6:nb < w6.heap.size∧bb < w6.heap.size:=by
    have hnl:nb < wr.heap.size:=(Array.getElem?_eq_some_iff.1 HG8.out).1
    have h1:=HK6.out.size
    have hbl:bb < wr.heap.size:=hg4.out.blk_lt (by rw [HLE.out];simp)
    omega
   have HT7:=Lib.hid (HKS.out w6.drew w7 h74 hz6.1 hz6.2 HT6.out)
   refine hK.out _ _ HT7.out (fun hHeld2=>?_)
   clear hK K hHeld hHeld2
   have hz7:=h74.size
   rw [show w6.drew.heap.size=w6.heap.size from rfl] at hz7
   rw [List.drop_left' HKL.out.symm] at h73
   rw [List.take_left' HKL.out.symm] at h72
   have HR7:=Lib.hid h71;have HE7:=Lib.hid h72;have HL7:=Lib.hid h73;have HK7:=Lib.hid h74
   clear h71 h72 h73 h74
   refine wpAnyH_ready (rs:=[14]) (by kernel_rfl) (by simp) ?_
   refine AllReadyH.cons rfl (fun K hK=>?_) AllReadyH.nil
   go_simp
   go_at_call 153
   refine (tcut_ok rb bb o3 (m - 2 - kl) (cc - 2 - kl) vl (en.val++leftE es (k+1)) w7 HR7.out (by rw [HLM.out,HVL.out];simp) (by have:=HLM.out;omega) (by omega) HL7.out ne1).mono ?_
   rintro e w8 ⟨rfl,o4,h81,h82,h83,h84⟩
   have HT8:=Lib.hid (HKS.out w7 w8 h84 (by omega) (by omega) HT7.out)
   refine hK.out _ _ HT8.out (fun hHeld3=>?_)
   clear hK K hHeld3
   rw [List.drop_left' HVL.out.symm] at h83
   rw [List.take_left' HVL.out.symm] at h82
   have HR8:=Lib.hid h81;have HE8:=Lib.hid h82;have HL8:=Lib.hid h83;have HK8:=Lib.hid h84
   clear h81 h82 h83 h84
   refine wpAnyH_take (i:=15) (v:=.agg #[.slice (some ⟨bb,o2,none⟩) kl kl,.slice (some ⟨bb,o3,none⟩) vl vl]) rfl (by kernel_rfl) (by kernel_rfl) (by kernel_rfl) (fun _ _ _ h=>h) (Or.inl ⟨by rfl,fun W hW=>by go_simp⟩) HT8.out ?_
   refine wpAnyH_take (i:=16) (v:=.pointer (some ⟨eb,k*2,none⟩)) rfl (by kernel_rfl) (by kernel_rfl) (by kernel_rfl) (fun _ _ _ h=>h) (Or.inl ⟨by rfl,fun W hW=>by go_simp⟩) HT8.out ?_
   refine wpAnyH_ready (rs:=[17]) (by kernel_rfl) (by simp) ?_
   refine AllReadyH.cons rfl (fun K hK=>?_) AllReadyH.nil
   go_simp
   obtain ⟨v1,hv1⟩:∃ v1:Value,v1=.slice (some ⟨bb,o2,none⟩) kl kl:=⟨_,rfl⟩
   obtain ⟨v2,hv2⟩:∃ v2:Value,v2=.slice (some ⟨bb,o3,none⟩) vl vl:=⟨_,rfl⟩
   have HFIN:=Lib.hid (nl_next HG hkn HEN HK6 HK7 HK8 HR8 HL8 HE7 HE8 HKL HVL HLM g2 HN.out.symm (v1:=v1) (v2:=v2) hv1 hv2)
   have hS9:Hid (((w8.setCell ⟨eb,k*2,none⟩ v1).setCell ⟨eb,k*2+1,none⟩ v2).cell? ⟨nb,2,none⟩=some (.slice (some ⟨eb,0,none⟩) N N)∧((w8.setCell ⟨eb,k*2,none⟩ v1).setCell ⟨eb,k*2+1,none⟩ v2).cell? ⟨bb,o,none⟩=some (.int .u8 (kl:Int))∧((w8.setCell ⟨eb,k*2,none⟩ v1).setCell ⟨eb,k*2+1,none⟩ v2).cell? ⟨bb,o+1,none⟩=some (.int .u8 (vl:Int))):=Lib.hid (by
    have ho:∀ b j,b≠eb→((w8.setCell ⟨eb,k*2,none⟩ v1).setCell ⟨eb,k*2+1,none⟩ v2).cell? ⟨b,j,none⟩=w8.cell? ⟨b,j,none⟩:=fun b j hb=>by
     rw [World.cell?_setCell_other _ _ _ _ (fun h=>hb (by injection h with e;exact e.symm)),World.cell?_setCell_other _ _ _ _ (fun h=>hb (by injection h with e;exact e.symm))]
    exact ⟨(ho nb 2 ne5).trans HT8.out.1,(ho bb o ne2).trans HT8.out.2.1,(ho bb (o+1) ne2).trans HT8.out.2.2⟩)
   obtain ⟨u0,u1,d0,d1,d2,d3⟩:=HFIN.out.1
   have HF2:=Lib.hid HFIN.out.2
   subst hv1;subst hv2
   have e1:(w8.setCell ⟨eb,k*2,none⟩ (.slice (some ⟨bb,o2,none⟩) kl kl)).cell? ⟨eb,k*2+1,none⟩=some u1:=by rw [World.cell?_setCell_other _ _ _ _ (by simp)];exact d1
   have e2:(w8.setCell ⟨eb,k*2,none⟩ (.slice (some ⟨bb,o2,none⟩) kl kl)).frozen? ⟨eb,k*2+1,none⟩=false:=by rw [World.frozen?_setCell];exact d3
   clear HFIN HT6 HT7 HT8 HKS HQ HE7 HE8 HL6 HL7 HL8 HR6 HR7 HR8 HK6 HK7 HK8 HC1 d1 d3 hz6 hz7
   simp only [d0,d2,e1,e2,Result.andThen,if_false,Bool.false_eq_true]
   refine hK.out _ _ hS9.out (fun hHeld4=>?_)
   clear hK K hHeld4 hS9 d0 d2 e1 e2
   refine wpAnyH_done (by kernel_rfl) ?_ _
   go_wp2
   go_roundw
   case rel=>exact ⟨k+1,by omega,by go_num,HF2⟩
   case measure=>simp [intOf];omega
  ·obtain rfl:k=N:=by omega
   have hNL:NL es bb rb eb nb pg level s w es.length wr:=by rw [← HN.out];exact HG.out
   have hnode:=nl_node hNL HS.out HV.out hpg (fun _=>False) (fun _ h=>h.elim)
   obtain ⟨⟨o,m,cc,g1,_⟩,_,g8,g9,ne1,ne2,ne3,ne4,ne5,ne10,ne6,ne7,ne8,ne9⟩:=hNL
   have hnl:nb < wr.heap.size:=(Array.getElem?_eq_some_iff.1 g8).1
   have hrl:rb < wr.heap.size:=(Array.getElem?_eq_some_iff.1 g1).1
   have HSI:=Lib.hid (size_any _ _ wr hnode)
   unfold NO.ptr rdNO at HSI
   simp only at HSI
   have HND:=Lib.hid hnode
   have HRS:Hid (wr.heap[rb]? = some (.cells #[.slice (some ⟨bb,o,none⟩) m cc,.bool false] 227 (0,0))):=Lib.hid g1
   have HG8:=Lib.hid g8
   clear g1 g8 hnode
   go_wp2_with fail
   refine HSI.out.mono ?_
   rintro e wa ⟨rfl,hba⟩
   have hca4:wa.cell? ⟨nb,4,none⟩=some (.int .i64 0):=by rw [hba.cell (p:=⟨nb,4,none⟩) hnl,Lib.cell_of_heap HG8.out];rfl
   have hfa4:wa.frozen? ⟨nb,4,none⟩=false:=by rw [hba.frozen (p:=⟨nb,4,none⟩) hnl];simp [World.frozen?,HG8.out]
   have HNA:=Lib.hid ((HND.out.below hba).setHad ne5 (szE es) (by have:=HV.out.fit;omega))
   obtain ⟨wb,hwb⟩:∃ wb,wb=wa.setCell ⟨nb,4,none⟩ (.int .i64 (szE es)):=⟨_,rfl⟩
   have hcb1:(wa.setCell ⟨nb,4,none⟩ (.int .i64 (szE es))).cell? ⟨rb,1,none⟩=some (.bool false):=by
    rw [World.cell?_setCell_other _ _ _ _ (fun h=>ne4 (by injection h)),hba.cell (p:=⟨rb,1,none⟩) hrl,Lib.cell_of_heap HRS.out];rfl
   rw [← hwb] at HNA
   have HST:=Lib.hid (stands_ok _ _ wb HNA.out HV.out)
   unfold NO.ptr rdNO at HST
   simp only at HST
   have HWB:=Lib.hid hwb
   have hz:w.heap.size≤wa.heap.size:=Nat.le_trans g9.size hba.size
   have HBB:Hid (Below w.heap.size w wb):=Lib.hid (by rw [hwb];exact (below_then g9 hba (Nat.le_refl _)).setCell (show w.heap.size≤nb from ne9) _)
   clear hwb
   go_wp2_with fail
   rw [← HWB.out]
   refine HST.out.mono ?_
   rintro e wc ⟨rfl,hbc⟩
   have HPOST:Hid (LoadPost pg level es w (.pointer (some ⟨nb,0,none⟩)) wc):=Lib.hid (by
    refine ⟨rdNO nb eb pg level es (szE es),rfl,⟨fun X hX=>?_,⟨ne9,ne8⟩,below_then HBB.out hbc (Nat.le_refl _)⟩,rfl,rfl,rfl,rfl,rfl,rfl,rfl⟩
    have hNL:NL es bb rb eb nb pg level s w es.length wr:=by rw [← HN.out];exact HG.out
    have h1:=(((nl_node hNL HS.out HV.out hpg X hX).below hba).setHad ne5 (szE es) (by have:=HV.out.fit;omega))
    rw [← HWB.out] at h1
    exact h1.below hbc)
   go_wp2
   go_ret2
   exact ⟨_,rfl,HPOST.out⟩
def drPtsO (q:Nat):Option Dr→List Pt
 | some x=>drPts q x
 | none=>[]
def allPts (D:Nat→Option Dr) (ks:List Nat):List Pt:=ks.flatMap fun q=>drPtsO q (D q)
def CommitPost (B:Nat) (S:Nat→Prop) (a s d l p n:Nat) (C:Nat→List UInt8) (P:Nat→Nat) (N:Nat) (rs:List ByteArray) (f2:List UInt8) (h:Hd) (ps:List Pt) (w w':World):Prop :=
 ∃ S',Kept (fun k=>S k∨k=s∨k=a) w w'∧(∀ k,k < w.heap.size→S' k→S k)∧PoolJ (JL (rs++[⟨(recB h ps).toArray⟩]) f2) B S' p d n (appC C ps) P (N+1+3*ps.length) w'∧SpaceAt w' s d l p h none∧ActAt w' a s h (.map none)
def setRs (y:Hd) (f:Nat→Nat):Nat→Hd
 | 0=>y
 | k+1=>(setRs y f k).setRoot k (f k)
def setWs (y:Hd) (f:Nat→Nat):Nat→Hd
 | 0=>y
 | k+1=>(setWs y f k).setWord k (f k)
def P0:Nat→Nat:=fun _=>0
theorem pinned0 {n:Nat} (h:0 < n):pinnedN P0≠n:=by rw [pinnedN_zero (P:=P0) (fun _=>rfl)];omega
def Saves (J:List RawOp→Prop):Prop:=∀ ops q bs,J ops→J (ops++[.put 1 (q*512) bs])
theorem Saves.jl (rs:List ByteArray) (f2:List UInt8):Saves (JL rs f2):=fun ops q bs h=>JL.save ops q bs h
structure SpSt (J:List RawOp→Prop) (B:Nat) (S:Nat→Prop) (s d l p n:Nat) (C:Nat→List UInt8) (N:Nat) (last:Hd) (cur:Option Nat) (w:World):Prop where
 sp:SpaceAt w s d l p last cur
 ok:last.Ok
 pool:PoolJ J B S p d n C P0 N w
 lg:LogOn l d w
 ns:¬ S s
 nl:¬ S l
 ne:l≠s
 low:B≤s∧B≤l
 n0:0 < n
structure LiveSt (J:List RawOp→Prop) (B:Nat) (S:Nat→Prop) (a s d l p db m n:Nat) (C:Nat→List UInt8) (N:Nat) (last h:Hd) (D:Nat→Option Dr) (w:World):Prop where
 act:ActSt w a s d l p db m last h D
 pool:PoolJ J B S p d n C P0 N w
 lg:LogOn l d w
 ns:¬ S s
 na:¬ S a
 nl:¬ S l
 nb:¬ S db
 nd:∀ q x,D q=some x→¬ S x.blk
 ne:l≠a∧l≠s∧l≠db∧∀ q x,D q=some x→x.blk≠l
 low:B≤a∧B≤s∧B≤l∧B≤db∧∀ q x,D q=some x→B≤x.blk
 n0:0 < n
section
variable {J:List RawOp→Prop} {B a s d l p db m n N:Nat} {S:Nat→Prop} {C:Nat→List UInt8} {last h:Hd} {cur:Option Nat} {D:Nat→Option Dr} {w w':World}
theorem SpSt.size (g:SpSt J B S s d l p n C N last cur w):B≤w.heap.size:=g.pool.size
theorem LiveSt.size (g:LiveSt J B S a s d l p db m n C N last h D w):B≤w.heap.size:=g.pool.size
theorem LiveSt.below (g:LiveSt J B S a s d l p db m n C N last h D w) (hb:Below w.heap.size w w'):LiveSt J B S a s d l p db m n C N last h D w' :=
 ⟨g.act.below hb,g.pool.below hb,g.lg.below hb,g.ns,g.na,g.nl,g.nb,g.nd,g.ne,g.low,g.n0⟩
theorem LiveSt.turn (g:LiveSt J B S a s d l p db m n C N last h D w) {S':Nat→Prop} {M:Nat} {J':List RawOp→Prop} (ht:Turn S w S' w') (hp:PoolJ J' B S' p d n C P0 M w'):LiveSt J' B S' a s d l p db m n C M last h D w':=by
 have h1:=g.act.sp.lt;have h2:=g.act.ac.lt;have h3:=g.act.dr.ltM;have h4:=g.lg.lt
 refine ⟨g.act.kept ht.1 g.na g.ns g.nb g.nd,hp,g.lg.kept ht.1 g.nl,ht.not h1 g.ns,ht.not h2 g.na,ht.not h4 g.nl,ht.not h3 g.nb,fun q x hq=>ht.not (g.act.dr.at_ q x hq).2.2.2.2.2.2 (g.nd q x hq),g.ne,g.low,g.n0⟩
theorem open_sp (ops:List RawOp) (rs:List ByteArray) (xs:List (Hd × List Pt)) (g:DiskAt S d ops w) (hS:∀ k,S k→B≤k∧k < w.heap.size) (hp:play ops 0=logB rs) (hrs:Recs rs) (h1:4≤n) (h2:n≤1024) (hNo:ops.length≤N) (hJ:J ops)
  (hlen:rs.length=xs.length) (hx:∀ i (h1:i < rs.length) (h2:i < xs.length),Tells rs[i] xs[i]) (hN:resN N xs≤4398046511104) (hok:(resH Hd.zero xs).Ok)
  (hcl:Saves J) (hJ2:∀ ops,J ops→(rHd (play ops 2,false)).2.2=true) (hB:B≤w.heap.size) :
  Calls Tryz.prog 9 #[.pointer (some ⟨d,0,none⟩),.int .i64 n] w fun e w'=>∃ s l p S',e=.returned (.tuple #[.pointer (some ⟨s,0,none⟩),.int .i64 0])∧SpSt J B S' s d l p n (resC (fun q=>pageOf (play ops 1) q) xs) (resN N xs) (resH Hd.zero xs) none w'∧Below B w w':=by
 refine (sopen_ok J B d n N S ops rs xs w g hS hp hrs h1 h2 hNo hJ hlen hx hN hcl hJ2).mono ?_
 rintro e w' ⟨s,l,p,S',rfl,⟨a1,a2,a3,a4,a5⟩,hlg,hsp,hpool,hk,_⟩
 exact ⟨s,l,p,S',rfl,⟨hsp,hok,hpool,hlg,a4,a5,a3,⟨by omega,by omega⟩,by omega⟩,hk.toBelow hB (fun i hi=>(hS i hi).1)⟩
theorem dr_none {db:Nat} (hm:PMap w db 0 (fun _=>none)):DraftsAt w db 0 (fun _=>none) :=
 ⟨⟨_,hm,(fun q x hq=>by cases hq),(fun q v hv=>by cases hv)⟩,(fun q x hq=>by cases hq),(fun q q' x y hq=>by cases hq)⟩
theorem begin_sp (g:SpSt J B S s d l p n C N last none w) :
  Calls Tryz.prog 11 #[.pointer (some ⟨s,0,none⟩)] w fun e w'=>∃ a db,e=.returned (.tuple #[.pointer (some ⟨a,0,none⟩),.int .i64 0])∧LiveSt J B S a s d l p db 0 n C N last last (fun _=>none) w'∧Below B w w'∧w.heap.size≤a∧Kept (fun k=>k=s) w w':=by
 refine (begin_ok s d l p last w g.sp g.ok).mono ?_
 rintro e w' ⟨a,db,rfl,hac,hm,hsp,ha,hdb,hne,hk⟩
 have hsz:=g.size
 have hlS:∀ k,S k→k < w.heap.size:=fun k hk=>(g.pool.low k hk).2
 have hll:=g.lg.lt
 have hls:=g.sp.lt
 refine ⟨a,db,rfl,⟨⟨hsp,hac,dr_none hm,g.ok,g.ok,(fun q x hq=>by cases hq),⟨by omega,hne,by omega⟩,(fun q x hq=>by cases hq)⟩,g.pool.kept hk (fun k _ hS he=>g.ns (he ▸ hS)),g.lg.kept hk g.ne,g.ns,fun hh=>by have:=hlS _ hh;omega,g.nl,fun hh=>by have:=hlS _ hh;omega,(fun q x hq=>by cases hq),⟨by omega,g.ne,by omega,(fun q x hq=>by cases hq)⟩,⟨by omega,g.low.1,g.low.2,by omega,(fun q x hq=>by cases hq)⟩,g.n0⟩,hk.toBelow hsz (fun i hi=>by have:=g.low.1;omega),ha,hk⟩
theorem LiveSt.bel (g:LiveSt J B S a s d l p db m n C N last h D w) (hk:Kept (fun k=>k=a∨k=db) w w'):Below B w w':=hk.toBelow g.size (fun i hi=>by rcases hi with rfl | rfl <;> have:=g.low <;> omega)
theorem alloc_live (g:LiveSt J B S a s d l p db m n C N last h D w) (hT:Tab w) :
  Calls Tryz.prog 14 #[.pointer (some ⟨a,0,none⟩)] w fun e w' =>
   (∃ q h' b,h.NextIs q h'∧e=.returned (.tuple #[.int .i64 q,.int .i64 0])∧LiveSt J B S a s d l p db (m+1) n C N last h' (upd D q (some ⟨b,true,noughts,noughts⟩)) w'∧Below B w w'∧Kept (fun k=>k=a∨k=db) w w'∧w.heap.size≤b) ∨
   ((∀ j,h.isFree j=false)∧h.count=4095∧e=.returned (.tuple #[.int .i64 0,.int .i64 2])∧w'=w):=by
 refine (aalloc_live g.act hT (by have:=g.act.dr.few;omega)).mono ?_
 rintro e w' (⟨q,h',b,hn,rfl,hb,hx,hk⟩ | ⟨h1,h2,rfl,rfl⟩)
 ·have hlS:∀ k,S k→k < w.heap.size:=fun k hk=>(g.pool.low k hk).2
  have hll:=g.lg.lt
  have hsz:=g.size
  refine .inl ⟨q,h',b,hn,rfl,⟨hx,g.pool.kept hk (fun k _ hS he=>by rcases he with rfl | rfl;exact g.na hS;exact g.nb hS),g.lg.kept hk (by rintro (hh | hh);exact g.ne.1 hh;exact g.ne.2.2.1 hh),g.ns,g.na,g.nl,g.nb,fun j y hj=>?_,⟨g.ne.1,g.ne.2.1,g.ne.2.2.1,fun j y hj=>?_⟩,⟨g.low.1,g.low.2.1,g.low.2.2.1,g.low.2.2.2.1,fun j y hj=>?_⟩,g.n0⟩,g.bel hk,hk,hb⟩
  all_goals
   by_cases hjq:j=q
   ·subst hjq;rw [upd_same] at hj;cases hj
    first
     | (intro hh;have:=hlS _ hh;simp only at this;omega)
     | (simp only;omega)
   ·rw [upd_other _ _ hjq] at hj
    first
     | exact g.nd j y hj
     | exact g.ne.2.2.2 j y hj
     | exact g.low.2.2.2.2 j y hj
 ·exact .inr ⟨h1,h2,rfl,rfl⟩
theorem root_live (q:Nat) (g:LiveSt J B S a s d l p db m n C N last h D w) (hq:q < 16) :
  Calls Tryz.prog 15 #[.pointer (some ⟨a,0,none⟩),.int .i64 q] w fun e w'=>e=.returned (.tuple #[.int .i64 (h.root q),.int .i64 0])∧w'=w:=aroot_good a h q w g.act.live g.act.ac.hd g.act.ok hq
theorem free_live (q:Nat) (g:LiveSt J B S a s d l p db m n C N last h D w) (hq:h.has q) :
  Calls Tryz.prog 17 #[.pointer (some ⟨a,0,none⟩),.int .i64 q] w fun e w'=>e=.returned (.int .i64 0)∧(∃ m',LiveSt J B S a s d l p db m' n C N last (h.turn q) (upd D q none) w')∧Below B w w'∧Kept (fun k=>k=a∨k=db) w w':=by
 refine (afree_live q g.act hq).mono ?_
 rintro e w' ⟨rfl,⟨m',_,hx⟩,hk⟩
 refine ⟨rfl,⟨m',hx,g.pool.kept hk (fun k _ hS he=>by rcases he with rfl | rfl;exact g.na hS;exact g.nb hS),g.lg.kept hk (by rintro (hh | hh);exact g.ne.1 hh;exact g.ne.2.2.1 hh),g.ns,g.na,g.nl,g.nb,fun j y hj=>?_,⟨g.ne.1,g.ne.2.1,g.ne.2.2.1,fun j y hj=>?_⟩,⟨g.low.1,g.low.2.1,g.low.2.2.1,g.low.2.2.2.1,fun j y hj=>?_⟩,g.n0⟩,g.bel hk,hk⟩
 all_goals
  by_cases hjq:j=q
  ·subst hjq;rw [upd_same] at hj;cases hj
  ·rw [upd_other _ _ hjq] at hj
   first
    | exact g.nd j y hj
    | exact g.ne.2.2.2 j y hj
    | exact g.low.2.2.2.2 j y hj
end
end Go.Proofs.YtfbbjiidccbaiaaGreatDoor
