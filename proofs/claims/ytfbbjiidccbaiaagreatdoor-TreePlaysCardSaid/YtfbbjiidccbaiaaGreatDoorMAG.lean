/- Texts of one proof, one behind the other: TX, TA, TB, TC, TD, TE. -/
import Derived.Test.YtfbbjiidccbaiaaGreatDoorMAF
import Derived.Test.YtfbbjiidccbaiaaGreatDoorMAD
set_option maxRecDepth 100000
namespace Go.Proofs.YtfbbjiidccbaiaaGreatDoor
open Go.RowKit Go.Maps Go.Sort Go.Shelf
structure KMap (w:World) (b m:Nat) (D:Nat→Option Value):Prop where
 map:∃ F,PMap w b m F∧(∀ (q:Nat) v,D q=some v→F q=some v)∧∀ (q:Int) v,F q=some v→∃ n:Nat,(n:Int)=q∧D n=some v
 lt:∀ q v,D q=some v→q < 4096
def KeysD (D:Nat→Option Value) (ks:List Nat):Prop:=ks.Pairwise (fun x y=>x < y)∧∀ q,q ∈ ks ↔ (D q).isSome=true
section
variable {w w':World} {b m:Nat} {D:Nat→Option Value}
theorem KMap.block (h:KMap w b m D) (hb:w'.heap[b]? = w.heap[b]?):KMap w' b m D:=by
 obtain ⟨F,h1,h2⟩:=h.map
 exact ⟨⟨F,h1.block hb,h2⟩,h.lt⟩
theorem kmap_made (w:World):KMap (w.alloc (.map #[] 0)) w.heap.size 0 (fun _=>none):=⟨⟨_,pmap_made w,(fun q v h=>by cases h),(fun q v h=>by cases h)⟩,fun q v h=>by cases h⟩
theorem KMap.look (h:KMap w b m D) {t e:TypeId} (ht:Tryz.prog.underlying t=some (.map 3 e)) (hz:(zeroValue e).run Tryz.prog w=.ok (.pointer none) w) (q:Nat) (hq:q < 4096) :
  (Instr.lookup t (.map (some b)) (.int .i64 q) false).run Tryz.prog w=.ok ((D q).getD (.pointer none)) w:=by
 obtain ⟨F,h1,h2,h3⟩:=h.map
 rw [h1.look ht hz q (WalkArith.wf_i64 (by omega))]
 have:F q=D q:=by
  cases hF:F q with
  | none =>
   cases hD:D q with
   | none=>rfl
   | some v=>rw [h2 q v hD] at hF;cases hF
  | some v =>
   obtain ⟨n,hn,hD⟩:=h3 q v hF
   have:n=q:=by omega
   subst this
   exact hD.symm
 rw [this]
theorem KMap.put (h:KMap w b m D) {t e:TypeId} (ht:Tryz.prog.underlying t=some (.map 3 e)) (hm:m < maxLen) (q:Nat) (hq:q < 4096) (hD:D q=none) (v:Value) :
  ∃ w',(Instr.mapUpdate t (.map (some b)) (.int .i64 q) v).run Tryz.prog w=.ok () w'∧KMap w' b (m+1) (upd D q (some v))∧w.mapTurned w' b:=by
 obtain ⟨F,h1,h2,h3⟩:=h.map
 have hF:F q=none:=by
  cases hF:F q with
  | none=>rfl
  | some u =>
   obtain ⟨n,hn,h4⟩:=h3 q u hF
   have:n=q:=by omega
   subst this
   rw [hD] at h4;cases h4
 obtain ⟨w',hr,hp,ht'⟩:=h1.put ht hm q (WalkArith.wf_i64 (by omega)) hF v
 refine ⟨w',hr,⟨⟨_,hp,fun j u hj=>?_,fun j u hj=>?_⟩,fun j u hj=>?_⟩,ht'⟩
 ·by_cases hjq:j=q
  ·subst hjq;rw [upd_same] at hj;rw [updI_same];exact hj
  ·rw [upd_other _ _ hjq] at hj;rw [updI_other _ _ (by omega)];exact h2 j u hj
 ·by_cases hjq:j=(q:Int)
  ·subst hjq;rw [updI_same] at hj;exact ⟨q,rfl,by rw [upd_same];exact hj⟩
  ·rw [updI_other _ _ hjq] at hj
   obtain ⟨n,hn,h4⟩:=h3 j u hj
   exact ⟨n,hn,by rw [upd_other _ _ (by omega)];exact h4⟩
 ·by_cases hjq:j=q
  ·omega
  ·rw [upd_other _ _ hjq] at hj;exact h.lt j u hj
theorem KMap.del (h:KMap w b (m+1) D) {t e:TypeId} (ht:Tryz.prog.underlying t=some (.map 3 e)) (q:Nat) {v:Value} (hD:D q=some v) (ty:TypeId) :
  ∃ w',(Builtin.delete_ #[t,3] ty #[.map (some b),.int .i64 q]).run Tryz.prog w=.ok (.tuple #[]) w'∧KMap w' b m (upd D q none)∧w.mapTurned w' b:=by
 obtain ⟨F,h1,h2,h3⟩:=h.map
 have hq:=h.lt q v hD
 obtain ⟨w',hr,hp,ht'⟩:=h1.del ht q (WalkArith.wf_i64 (by omega)) (h2 q v hD) ty
 refine ⟨w',hr,⟨⟨_,hp,fun j u hj=>?_,fun j u hj=>?_⟩,fun j u hj=>?_⟩,ht'⟩
 ·by_cases hjq:j=q
  ·subst hjq;rw [upd_same] at hj;cases hj
  ·rw [upd_other _ _ hjq] at hj;rw [updI_other _ _ (by omega)];exact h2 j u hj
 ·by_cases hjq:j=(q:Int)
  ·subst hjq;rw [updI_same] at hj;cases hj
  ·rw [updI_other _ _ hjq] at hj
   obtain ⟨n,hn,h4⟩:=h3 j u hj
   exact ⟨n,hn,by rw [upd_other _ _ (by omega)];exact h4⟩
 ·by_cases hjq:j=q
  ·subst hjq;rw [upd_same] at hj;cases hj
  ·rw [upd_other _ _ hjq] at hj;exact h.lt j u hj
theorem KMap.keys (h:KMap w b m D) :
  ∃ D0:DataW Value,w.ownsMap Tryz.prog 3 asIs b m D0∧Maps.size D0=m∧∀ ss:List Int,ss.Perm (intKeys D0)→∃ ks:List Nat,KeysD D ks∧ks.length=ss.length∧(ss.mergeSort (fun x y=>decide (x≤y))).map encZ=ks.map fun k:Nat=>Value.int .i64 (k:Int):=by
 obtain ⟨F,⟨D0,h1,h2,h3⟩,h4,h5⟩:=h.map
 refine ⟨D0,h1,h2,fun ss hp=>?_⟩
 obtain ⟨hnd,hmem,_⟩:=intKeys_spec h1
 have hwf:=intKeys_wf h1 Tryz.underlying3
 obtain ⟨zs,hzs⟩:∃ zs,zs=ss.mergeSort (fun x y=>decide (x≤y)):=⟨_,rfl⟩
 have hpz:zs.Perm (intKeys D0):=by rw [hzs];exact (List.mergeSort_perm ss _).trans hp
 have hkey:∀ z,z ∈ zs ↔ ∃ n:Nat,(n:Int)=z∧(D n).isSome=true:=fun z=>by
  rw [hpz.mem_iff]
  constructor
  ·intro hz
   rcases h3 z (hwf z hz) with ⟨_,e⟩ | ⟨v,e,_⟩
   ·rw [(hmem z).1 hz] at e;cases e
   ·obtain ⟨n,hn,hx⟩:=h5 z v e
    exact ⟨n,hn,by rw [hx];rfl⟩
  ·rintro ⟨n,rfl,hn⟩
   obtain ⟨x,hx⟩:=Option.isSome_iff_exists.1 hn
   rw [hmem]
   rcases h3 n (WalkArith.wf_i64 (by have:=h.lt n x hx;omega)) with ⟨e,_⟩ | ⟨v,_,e,_⟩
   ·rw [h4 n x hx] at e;cases e
   ·exact e
 have hsorted:zs.Pairwise (fun x y=>x < y):=by
  have tr:∀ a b c:Int,decide (a≤b)=true→decide (b≤c)=true→decide (a≤c)=true:=fun a b c x y=>by simp only [decide_eq_true_eq] at *;omega
  have tot:∀ a b:Int,(decide (a≤b) || decide (b≤a))=true:=fun a b=>by simp only [Bool.or_eq_true,decide_eq_true_eq];omega
  have hle:=List.pairwise_mergeSort tr tot ss
  rw [← hzs] at hle
  have hne:zs.Nodup:=hpz.nodup_iff.2 hnd
  refine (hle.and hne).imp (fun {a b} ⟨x,y⟩=>?_)
  have:=of_decide_eq_true x
  omega
 have hlen:zs.length=ss.length:=by rw [hzs];exact List.length_mergeSort ss
 rw [← hzs]
 refine ⟨zs.map Int.toNat,⟨?_,fun q=>?_⟩,by rw [List.length_map,hlen],?_⟩
 ·refine List.pairwise_map.2 (hsorted.imp_of_mem fun {a b} ha hb hab=>?_)
  obtain ⟨n,hn,_⟩:=(hkey a).1 ha
  obtain ⟨k,hk,_⟩:=(hkey b).1 hb
  omega
 ·rw [List.mem_map]
  constructor
  ·rintro ⟨z,hz,rfl⟩
   obtain ⟨n,rfl,hn⟩:=(hkey z).1 hz
   simpa using hn
  ·intro hq
   exact ⟨q,(hkey q).2 ⟨q,rfl,hq⟩,by simp⟩
 ·rw [List.map_map]
  refine List.map_congr_left fun z hz=>?_
  obtain ⟨n,rfl,_⟩:=(hkey z).1 hz
  simp [encZ]
theorem KeysD.le (h:KMap w b m D) {ks:List Nat} (hk:KeysD D ks):ks.length≤4096:=by
 rcases rising_le 4096 ks 0 hk.1 (fun x hx=>⟨by omega,by
  obtain ⟨y,hy⟩:=Option.isSome_iff_exists.1 ((hk.2 x).1 hx)
  exact h.lt x y hy⟩) with rfl | h
 ·simp
 ·omega
theorem KMap.few (h:KMap w b m D):m≤4096:=by
 obtain ⟨D0,h1,h2,h3⟩:=h.keys
 obtain ⟨ks,hk,hl,_⟩:=h3 _ (List.Perm.refl _)
 have:=(intKeys_spec h1).2.2
 have:=KeysD.le h hk
 omega
end
theorem keysN_call (db:Nat) (W:World):Calls Tryz.prog 163 #[.map (some db)] W fun e w'=>e=.returned (.func (.func 188) #[] #[.pointer (some ⟨W.heap.size,0,none⟩)])∧w'=W.alloc (.cells #[.map (some db)] 184) :=
 callsIn_wide.1 (AnyZI.keys_in Tryz.keysN Fence.wide 5 trivial rfl (some db) W)
theorem sortedN_call {w:World} {db m:Nat} {D:Nat→Option Value} (h:KMap w db m D) :
  Calls Tryz.prog 101 #[.func (.func 188) #[] #[.pointer (some ⟨w.heap.size,0,none⟩)]] (w.alloc (.cells #[.map (some db)] 184)) fun e w'=>∃ (v:Value) (ks:List Nat),e=.returned v∧KeysD D ks ∧
   w'.ownsRow w.heap.size 3 1 v ks.length (ks.map fun k:Nat=>Value.int .i64 (k:Int))∧Below w.heap.size w w':=by
 obtain ⟨D0,hown,hsz,hkeys⟩:=h.keys
 have hm:=h.few
 have hbl:=hown.lt
 have hseq:SeqGives Fence.wide 2 Tryz.prog 188 #[.pointer (some ⟨w.heap.size,0,none⟩)] encZ (fun ss=>ss.Perm (intKeys D0)) (Maps.size D0) (w.alloc (.cells #[.map (some db)] 184)) :=
  AnyZI.keys_gives (ρ:=Tryz.keysN_ren) { Tryz.keysN with } Fence.wide _ trivial rfl (by omega) w.heap.size db m D0 _ (by simp) (by simp) (by
   obtain ⟨es,clock,hb,Ft,hs,hD⟩:=hown
   exact ⟨es,clock,(Below.heap_alloc _ _ db hbl).trans hb,Ft,hs,hD⟩)
 have cS:=AnyZI.sorted_in Tryz.sortedA Fence.wide 5 trivial trivial trivial trivial rfl (by omega) (sortsA _) (enters_of Tryz.func89 (by kernel_rfl) rfl) 188 #[.pointer (some ⟨w.heap.size,0,none⟩)] trivial (enters_of Tryz.func188 (by kernel_rfl) rfl) _ _ (by unfold maxLen;omega) (by omega) _ hseq
 refine (callsIn_wide.1 cS).mono fun e w' ⟨v,ss,h1,h2,h3,_,h5⟩=>?_
 obtain ⟨ks,hk,hl,hr⟩:=hkeys ss h2
 refine ⟨v,ks,h1,hk,?_,((Below.refl _ w).alloc (Nat.le_refl _) _).trans (h5.mono (by simp))⟩
 rw [hl,← hr]
 exact Joins.ownsRow_le h3 (by simp)
end Go.Proofs.YtfbbjiidccbaiaaGreatDoor
set_option maxRecDepth 100000
namespace Go.Proofs.YtfbbjiidccbaiaaGreatDoor
open Go.RowKit
structure En where
 key:List UInt8
 val:List UInt8
def En.size (e:En):Nat:=2+e.key.length+e.val.length
def En.nil:En:=⟨[],[]⟩
def szE:List En→Nat
 | []=>0
 | e :: r=>e.size+szE r
theorem szE_append (a b:List En):szE (a++b)=szE a+szE b:=by
 induction a with
 | nil=>simp [szE]
 | cons x r ih=>simp [szE,ih,Nat.add_assoc]
theorem szE_snoc (a:List En) (e:En):szE (a++[e])=szE a+e.size:=by simp [szE_append,szE]
theorem szE_len (l:List En):2*l.length≤szE l:=by
 induction l with
 | nil=>simp [szE]
 | cons x r ih=>simp only [szE,List.length_cons,En.size];omega
theorem szE_take_le (l:List En) (k:Nat):szE (l.take k)≤szE l:=by
 have h:=congrArg szE (List.take_append_drop k l)
 rw [szE_append] at h
 omega
def En.bytes (e:En):List UInt8:=UInt8.ofNat e.key.length :: UInt8.ofNat e.val.length :: (e.key++e.val)
theorem En.bytes_length (e:En):e.bytes.length=e.size:=by simp [En.bytes,En.size];omega
def ensB:List En→List UInt8
 | []=>[]
 | e :: r=>e.bytes++ensB r
theorem ensB_append (a b:List En):ensB (a++b)=ensB a++ensB b:=by
 induction a with
 | nil=>simp [ensB]
 | cons x r ih=>simp [ensB,ih]
theorem ensB_length (l:List En):(ensB l).length=szE l:=by
 induction l with
 | nil=>rfl
 | cons x r ih=>simp [ensB,szE,ih,En.bytes_length]
def ndB (level:Nat) (l:List En):List UInt8:=UInt8.ofNat level :: UInt8.ofNat l.length :: ensB l
theorem ndB_length (level:Nat) (l:List En):(ndB level l).length=2+szE l:=by simp [ndB,ensB_length];omega
def pgB (level:Nat) (l:List En):List UInt8:=ndB level l++List.replicate (510 - szE l) 0
theorem pgB_length (level:Nat) (l:List En) (h:szE l≤510):(pgB level l).length=512:=by simp [pgB,ndB_length];omega
def cutL (n:Nat) (x:List UInt8 × Bool):List UInt8 × (List UInt8 × Bool):=if x.1.length < n then (List.replicate n 0,x.1,true) else (x.1.take n,x.1.drop n,x.2)
def szs (x:List UInt8 × Bool):List UInt8 × (List UInt8 × Bool):=cutL 2 x
def cutE (x:List UInt8 × Bool):En × (List UInt8 × Bool) :=
 (⟨(cutL ((szs x).1.getD 0 0).toNat (szs x).2).1,(cutL ((szs x).1.getD 1 0).toNat (cutL ((szs x).1.getD 0 0).toNat (szs x).2).2).1⟩,(cutL ((szs x).1.getD 1 0).toNat (cutL ((szs x).1.getD 0 0).toNat (szs x).2).2).2)
def cutEs:Nat→List UInt8 × Bool→List En × (List UInt8 × Bool)
 | 0,x=>([],x)
 | k+1,x=>((cutEs k x).1++[(cutE (cutEs k x).2).1],(cutE (cutEs k x).2).2)
def rdN (s:List UInt8):Nat × List En × Bool :=
 ((((cutL 2 (s,false)).1.getD 0 0).toNat),(cutEs ((cutL 2 (s,false)).1.getD 1 0).toNat (cutL 2 (s,false)).2).1,(cutEs ((cutL 2 (s,false)).1.getD 1 0).toNat (cutL 2 (s,false)).2).2.2)
def En.child (e:En):Nat:=(e.val.getD 0 0).toNat*256+(e.val.getD 1 0).toNat
def okE (level i:Nat) (e:En):Bool:=(decide (e.key.length=0) == (decide (0 < level) && decide (i=0))) && decide (e.key.length≤96) && decide (e.val.length≤32) && (decide (level=0) || (decide (e.val.length=2) && decide (e.child < 4096)))
def okEs (level:Nat):Nat→List En→Bool
 | _,[]=>true
 | i,e :: r=>okE level i e && okEs level (i+1) r
def stN (level:Nat) (es:List En):Bool:=okEs level 0 es && decide (0 < es.length)
theorem okEs_at (level:Nat):∀ (es:List En) (i:Nat),okEs level i es=true→∀ j (h:j < es.length),okE level (i+j) es[j]=true
 | [],_,_,j,h=>by simp at h
 | e :: r,i,hk,j,h=>by
  rw [okEs,Bool.and_eq_true] at hk
  cases j with
  | zero=>exact hk.1
  | succ j =>
   have:=okEs_at level r (i+1) hk.2 j (by simpa using h)
   rw [List.getElem_cons_succ,show i+(j+1)=i+1+j by omega]
   exact this
theorem okEs_all (level:Nat):∀ (es:List En) (i:Nat),(∀ j (h:j < es.length),okE level (i+j) es[j]=true)→okEs level i es=true
 | [],_,_=>rfl
 | e :: r,i,hk=>by
  rw [okEs,Bool.and_eq_true]
  refine ⟨hk 0 (by simp),okEs_all level r (i+1) fun j h=>?_⟩
  have:=hk (j+1) (by simpa using h)
  rw [List.getElem_cons_succ,show i+(j+1)=i+1+j by omega] at this
  exact this
def ndOf (s:List UInt8):Nat × List En × Bool:=((rdN s).1,(rdN s).2.1,!(rdN s).2.2 && stN (rdN s).1 (rdN s).2.1)
def ldOf (s:List UInt8):Nat × List En:=if (ndOf s).2.2=true then ((ndOf s).1,(ndOf s).2.1) else (0,[])
def lt (a b:List UInt8):Prop:=Op.bytesLess a b=true
instance (a b:List UInt8):Decidable (lt a b):=inferInstanceAs (Decidable (Op.bytesLess a b=true))
def le (a b:List UInt8):Prop:=¬ lt b a
theorem lt_nil (a:List UInt8):¬ lt a []:=by cases a <;> simp [lt,Op.bytesLess]
theorem nil_lt {a:List UInt8} (h:a≠[]):lt [] a:=by cases a with | nil=>exact absurd rfl h | cons _ _=>rfl
theorem lt_cons {x y:UInt8} {a b:List UInt8}:lt (x :: a) (y :: b) ↔ x.toNat < y.toNat∨x=y∧lt a b:=by
 simp [lt,Op.bytesLess,UInt8.lt_iff_toNat_lt]
theorem lt_irrefl (a:List UInt8):¬ lt a a:=by
 induction a with
 | nil=>exact lt_nil _
 | cons x a ih=>rw [lt_cons];rintro (h | ⟨_,h⟩);exact Nat.lt_irrefl _ h;exact ih h
theorem lt_trans:∀ {a b c:List UInt8},lt a b→lt b c→lt a c
 | _,_,[],_,h=>absurd h (lt_nil _)
 | _,[],_,h,_=>absurd h (lt_nil _)
 | [],_ :: _,_ :: _,_,_=>rfl
 | x :: a,y :: b,z :: c,h1,h2=>by
  rw [lt_cons] at h1 h2 ⊢
  rcases h1 with h1 | ⟨rfl,h1⟩ <;> rcases h2 with h2 | ⟨rfl,h2⟩
  ·exact .inl (by omega)
  ·exact .inl h1
  ·exact .inl h2
  ·exact .inr ⟨rfl,lt_trans h1 h2⟩
theorem lt_tri:∀ (a b:List UInt8),lt a b∨a=b∨lt b a
 | [],[]=>.inr (.inl rfl)
 | [],_ :: _=>.inl rfl
 | _ :: _,[]=>.inr (.inr rfl)
 | x :: a,y :: b=>by
  rw [lt_cons,lt_cons]
  rcases Nat.lt_trichotomy x.toNat y.toNat with h | h | h
  ·exact .inl (.inl h)
  ·have hxy:x=y:=UInt8.toNat_inj.1 h
   subst hxy
   rcases lt_tri a b with h | rfl | h
   ·exact .inl (.inr ⟨rfl,h⟩)
   ·exact .inr (.inl rfl)
   ·exact .inr (.inr (.inr ⟨rfl,h⟩))
  ·exact .inr (.inr (.inl h))
theorem lt_asymm {a b:List UInt8} (h:lt a b):¬ lt b a:=fun h'=>lt_irrefl _ (lt_trans h h')
theorem lt.ne {a b:List UInt8} (h:lt a b):a≠b:=fun e=>lt_irrefl b (e ▸ h)
theorem le_refl' (a:List UInt8):le a a:=lt_irrefl a
theorem lt.le {a b:List UInt8} (h:lt a b):le a b:=lt_asymm h
theorem le_iff {a b:List UInt8}:le a b ↔ lt a b∨a=b:=by
 constructor
 ·intro h
  rcases lt_tri a b with h1 | h1 | h1
  ·exact .inl h1
  ·exact .inr h1
  ·exact absurd h1 h
 ·rintro (h | rfl)
  ·exact h.le
  ·exact le_refl' _
theorem nil_le (a:List UInt8):le [] a:=lt_nil a
theorem lt_of_le_lt {a b c:List UInt8} (h:le a b) (k:lt b c):lt a c:=by
 rcases le_iff.1 h with h | rfl
 ·exact lt_trans h k
 ·exact k
theorem lt_of_lt_le {a b c:List UInt8} (h:lt a b) (k:le b c):lt a c:=by
 rcases le_iff.1 k with k | rfl
 ·exact lt_trans h k
 ·exact h
theorem le_trans' {a b c:List UInt8} (h:le a b) (k:le b c):le a c:=fun x=>k (lt_of_lt_le x h)
def Chn {α:Type} (R:α→α→Prop):List α→Prop
 | []=>True
 | [_]=>True
 | a :: b :: r=>R a b∧Chn R (b :: r)
section
variable {α:Type} {R:α→α→Prop}
theorem Chn.tail {a:α} {r:List α} (h:Chn R (a :: r)):Chn R r:=by
 cases r with
 | nil=>trivial
 | cons b r=>exact h.2
theorem Chn.mid (A:List α) (x:α) (B:List α):Chn R (A++x :: B) ↔ Chn R (A++[x])∧Chn R (x :: B):=by
 induction A with
 | nil=>simp [Chn]
 | cons a A ih =>
  cases A with
  | nil=>simp [Chn]
  | cons b A =>
   simp only [List.cons_append,Chn] at ih ⊢
   rw [ih,and_assoc]
theorem Chn.two (A:List α) (x y:α) (B:List α):Chn R (A++x :: y :: B) ↔ Chn R (A++[x])∧R x y∧Chn R (y :: B):=by
 rw [Chn.mid];rfl
theorem Chn.left {A B:List α} (h:Chn R (A++B)):Chn R A:=by
 induction A with
 | nil=>trivial
 | cons a A ih =>
  cases A with
  | nil=>trivial
  | cons b A=>exact ⟨h.1,ih h.2⟩
theorem Chn.right {A B:List α} (h:Chn R (A++B)):Chn R B:=by
 induction A with
 | nil=>exact h
 | cons a A ih=>exact ih h.tail
theorem Chn.last {A:List α} {x y:α} (h:Chn R (A++[x])) (hxy:∀ a,R a x→R a y):Chn R (A++[y]):=by
 induction A with
 | nil=>trivial
 | cons a A ih =>
  cases A with
  | nil=>exact ⟨hxy _ h.1,trivial⟩
  | cons b A=>exact ⟨h.1,ih h.2⟩
theorem Chn.first {B:List α} {x y:α} (h:Chn R (x :: B)) (hxy:∀ b,R x b→R y b):Chn R (y :: B):=by
 cases B with
 | nil=>trivial
 | cons b B=>exact ⟨hxy _ h.1,h.2⟩
theorem Chn.at_ {l:List α} (h:Chn R l) {i:Nat} {a b:α} (ha:l[i]? = some a) (hb:l[i+1]? = some b):R a b:=by
 induction l generalizing i with
 | nil=>simp at ha
 | cons x l ih =>
  cases l with
  | nil=>simp at hb
  | cons y l =>
   cases i with
   | zero=>simp at ha hb;subst ha hb;exact h.1
   | succ i=>exact ih h.2 (by simpa using ha) (by simpa using hb)
end
def Bd (lo:List UInt8) (hi:Option (List UInt8)):Prop:=∀ x,hi=some x→lt lo x
def Inn (lo:List UInt8) (hi:Option (List UInt8)) (k:List UInt8):Prop:=le lo k∧∀ x,hi=some x→lt k x
def Kl (a b:En):Prop:=lt a.key b.key
def Srt (l:List En):Prop:=Chn Kl l
theorem Srt.cons_lt {e:En} {l:List En} (h:Srt (e :: l)):∀ x ∈ l,lt e.key x.key:=by
 induction l generalizing e with
 | nil=>intro x hx;cases hx
 | cons a l ih =>
  intro x hx
  rcases List.mem_cons.1 hx with rfl | hx
  ·exact h.1
  ·exact lt_trans h.1 (ih h.2 x hx)
theorem srt_append {A B:List En}:Srt (A++B) ↔ Srt A∧Srt B∧∀ a ∈ A,∀ b ∈ B,lt a.key b.key:=by
 induction A with
 | nil=>simp [Srt,Chn]
 | cons a A ih =>
  constructor
  ·intro h
   have h1:=ih.1 h.tail
   have h2:=Srt.cons_lt h
   refine ⟨Chn.left h,h1.2.1,fun x hx b hb=>?_⟩
   rcases List.mem_cons.1 hx with rfl | hx
   ·exact h2 b (by simp [hb])
   ·exact h1.2.2 x hx b hb
  ·rintro ⟨h1,h2,h3⟩
   have h4:Srt (A++B):=ih.2 ⟨h1.tail,h2,fun x hx b hb=>h3 x (by simp [hx]) b hb⟩
   cases A with
   | nil =>
    cases B with
    | nil=>trivial
    | cons b B=>exact ⟨h3 a (by simp) b (by simp),h4⟩
   | cons a' A=>exact ⟨h1.1,h4⟩
theorem srt_cons {e:En} {l:List En}:Srt (e :: l) ↔ Srt l∧∀ x ∈ l,lt e.key x.key:=by
 have:=srt_append (A:=[e]) (B:=l)
 simp only [List.singleton_append,List.mem_singleton,forall_eq] at this
 rw [this]
 exact ⟨fun h=>h.2,fun h=>⟨trivial,h⟩⟩
def insE (k v:List UInt8):List En→List En
 | []=>[⟨k,v⟩]
 | e :: r=>if lt e.key k then e :: insE k v r else if e.key=k then ⟨k,v⟩ :: r else ⟨k,v⟩ :: e :: r
def delE (k:List UInt8) (l:List En):List En:=l.filter fun e=>decide (e.key≠k)
def hasE (k:List UInt8) (l:List En):Prop:=∃ e ∈ l,e.key=k
def cntE (k:List UInt8):List En→Nat
 | []=>0
 | e :: r=>if lt e.key k then cntE k r+1 else 0
theorem cntE_le (k:List UInt8) (l:List En):cntE k l≤l.length:=by
 induction l with
 | nil=>exact Nat.le_refl _
 | cons e r ih=>unfold cntE;split <;> simp <;> omega
theorem cntE_app {k:List UInt8} {A B:List En} (hA:∀ a ∈ A,lt a.key k) (hB:∀ b,B.head? = some b→¬ lt b.key k):cntE k (A++B)=A.length:=by
 induction A with
 | nil =>
  cases B with
  | nil=>rfl
  | cons b B=>unfold cntE;rw [List.nil_append];simp only [if_neg (hB b rfl)];rfl
 | cons a A ih =>
  have:=ih (fun x hx=>hA x (by simp [hx]))
  simp only [List.cons_append,cntE,if_pos (hA a (by simp)),this,List.length_cons]
theorem part_at {l:List En} (h:Srt l) (k:List UInt8):l=l.take (cntE k l)++l.drop (cntE k l)∧(∀ a ∈ l.take (cntE k l),lt a.key k)∧(∀ b ∈ l.drop (cntE k l),¬ lt b.key k):=by
 refine ⟨(List.take_append_drop _ _).symm,?_⟩
 induction l with
 | nil=>simp
 | cons e r ih =>
  unfold cntE
  by_cases hlt:lt e.key k
  ·rw [if_pos hlt]
   have:=ih h.tail
   refine ⟨fun a ha=>?_,fun b hb=>this.2 b (by simpa using hb)⟩
   rw [List.take_succ_cons] at ha
   rcases List.mem_cons.1 ha with rfl | ha
   ·exact hlt
   ·exact this.1 a ha
  ·rw [if_neg hlt]
   refine ⟨by simp,fun b hb=>?_⟩
   rw [List.drop_zero] at hb
   rcases List.mem_cons.1 hb with rfl | hb
   ·exact hlt
   ·exact lt_asymm (lt_of_le_lt hlt (Srt.cons_lt h b hb))
theorem insE_app {k v:List UInt8} {A M:List En} (hA:∀ a ∈ A,lt a.key k):insE k v (A++M)=A++insE k v M:=by
 induction A with
 | nil=>rfl
 | cons a A ih =>
  simp only [List.cons_append,insE,if_pos (hA a (by simp))]
  rw [ih (fun x hx=>hA x (by simp [hx]))]
theorem insE_app2 {k v:List UInt8} {M B:List En} (hB:∀ b ∈ B,lt k b.key):insE k v (M++B)=insE k v M++B:=by
 induction M with
 | nil =>
  cases B with
  | nil=>rfl
  | cons b B =>
   have h1:=hB b (by simp)
   simp only [List.nil_append,insE,if_neg (lt_asymm h1),if_neg (Ne.symm h1.ne),List.singleton_append]
 | cons e M ih =>
  simp only [List.cons_append,insE]
  split
  ·rw [ih];rfl
  ·split <;> rfl
theorem delE_app {k:List UInt8} {A M B:List En} (hA:∀ a ∈ A,lt a.key k) (hB:∀ b ∈ B,lt k b.key):delE k (A++M++B)=A++delE k M++B:=by
 unfold delE
 have e1:List.filter (fun e:En=>decide (e.key≠k)) A=A:=List.filter_eq_self.2 (fun a ha=>by simp [(hA a ha).ne])
 have e2:List.filter (fun e:En=>decide (e.key≠k)) B=B:=List.filter_eq_self.2 (fun b hb=>by simp [Ne.symm (hB b hb).ne])
 rw [List.filter_append,List.filter_append,e1,e2]
theorem hasE_app {k:List UInt8} {A M B:List En} (hA:∀ a ∈ A,lt a.key k) (hB:∀ b ∈ B,lt k b.key):hasE k (A++M++B) ↔ hasE k M:=by
 constructor
 ·rintro ⟨e,he,rfl⟩
  simp only [List.mem_append] at he
  rcases he with (he | he) | he
  ·exact absurd (hA e he) (lt_irrefl _)
  ·exact ⟨e,he,rfl⟩
  ·exact absurd (hB e he) (lt_irrefl _)
 ·rintro ⟨e,he,rfl⟩
  exact ⟨e,by simp [he],rfl⟩
theorem insE_mem {k v:List UInt8} {l:List En} {e:En} (h:e ∈ insE k v l):e=⟨k,v⟩∨e ∈ l:=by
 induction l with
 | nil=>simp [insE] at h;exact .inl h
 | cons a l ih =>
  unfold insE at h
  split at h
  ·rcases List.mem_cons.1 h with rfl | h
   ·exact .inr (by simp)
   ·rcases ih h with h | h
    ·exact .inl h
    ·exact .inr (by simp [h])
  ·split at h
   ·rcases List.mem_cons.1 h with rfl | h
    ·exact .inl rfl
    ·exact .inr (by simp [h])
   ·rcases List.mem_cons.1 h with rfl | h
    ·exact .inl rfl
    ·exact .inr h
theorem insE_srt {k v:List UInt8} {l:List En} (h:Srt l):Srt (insE k v l):=by
 induction l with
 | nil=>trivial
 | cons e l ih =>
  rw [srt_cons] at h
  unfold insE
  split
  ·rename_i hlt
   rw [srt_cons]
   refine ⟨ih h.1,fun x hx=>?_⟩
   rcases insE_mem hx with rfl | hx
   ·exact hlt
   ·exact h.2 x hx
  ·rename_i hlt
   split
   ·rename_i he
    subst he
    exact srt_cons.2 ⟨h.1,h.2⟩
   ·rename_i he
    have hke:lt k e.key:=(le_iff.1 hlt).elim id fun e'=>absurd e'.symm he
    exact srt_cons.2 ⟨srt_cons.2 h,fun x hx=>(List.mem_cons.1 hx).elim (fun e'=>e' ▸ hke) (fun hx=>lt_trans hke (h.2 x hx))⟩
theorem Srt.sub {l r:List En} (h:Srt l) (hs:r.Sublist l):Srt r:=by
 induction hs with
 | slnil=>trivial
 | cons a _ ih=>exact ih h.tail
 | cons_cons a hs ih =>
  rw [srt_cons] at h ⊢
  exact ⟨ih h.1,fun x hx=>h.2 x (hs.subset hx)⟩
theorem delE_srt {k:List UInt8} {l:List En} (h:Srt l):Srt (delE k l):=h.sub (List.filter_sublist)
def Tr:Nat→Type
 | 0=>Nat × List En
 | L+1=>Nat × List (List UInt8 × Tr L)
abbrev Kid (L:Nat):=List UInt8 × Tr L
def Tr.leaf (p:Nat) (es:List En):Tr 0:=(p,es)
def Tr.node {L:Nat} (p:Nat) (ks:List (Kid L)):Tr (L+1):=(p,ks)
def Tr.es (t:Tr 0):List En:=Prod.snd (α:=Nat) (β:=List En) t
def Tr.ks {L:Nat} (t:Tr (L+1)):List (Kid L):=Prod.snd (α:=Nat) (β:=List (Kid L)) t
def pageL:(L:Nat)→Tr L→Nat
 | 0,t=>Prod.fst (α:=Nat) (β:=List En) t
 | L+1,t=>Prod.fst (α:=Nat) (β:=List (Kid L)) t
def Tr.page {L:Nat} (t:Tr L):Nat:=pageL L t
theorem Tr.node_eta {L:Nat} (t:Tr (L+1)):t=.node t.page t.ks:=rfl
@[simp] theorem leaf_page (p:Nat) (es:List En):(Tr.leaf p es).page=p:=rfl
@[simp] theorem leaf_es (p:Nat) (es:List En):(Tr.leaf p es).es=es:=rfl
@[simp] theorem node_page {L:Nat} (p:Nat) (ks:List (Kid L)):(Tr.node p ks).page=p:=rfl
@[simp] theorem node_ks {L:Nat} (p:Nat) (ks:List (Kid L)):(Tr.node p ks).ks=ks:=rfl
def pgV (p:Nat):List UInt8:=[UInt8.ofNat (p / 256),UInt8.ofNat p]
def kEn {L:Nat} (k:Kid L):En:=⟨k.1,pgV k.2.page⟩
theorem kEn_child {L:Nat} (k:Kid L) (h:k.2.page < 65536):(kEn k).child=k.2.page:=by
 simp [kEn,En.child,pgV];omega
def ensL:(L:Nat)→Tr L→List En
 | 0,t=>t.es
 | _+1,t=>t.ks.map kEn
def Tr.ens {L:Nat} (t:Tr L):List En:=ensL L t
theorem ens_leaf (t:Tr 0):t.ens=t.es:=rfl
theorem ens_node {L:Nat} (t:Tr (L+1)):t.ens=t.ks.map kEn:=rfl
def Tr.size {L:Nat} (t:Tr L):Nat:=szE t.ens
def flatL:(L:Nat)→Tr L→List En
 | 0,t=>t.es
 | L+1,t=>t.ks.flatMap fun k=>flatL L k.2
def Tr.flat {L:Nat} (t:Tr L):List En:=flatL L t
def pagesL:(L:Nat)→Tr L→List Nat
 | 0,t=>[t.page]
 | L+1,t=>t.page :: t.ks.flatMap fun k=>pagesL L k.2
def Tr.pages {L:Nat} (t:Tr L):List Nat:=pagesL L t
def flK {L:Nat} (ks:List (Kid L)):List En:=ks.flatMap fun k=>k.2.flat
def pgK {L:Nat} (ks:List (Kid L)):List Nat:=ks.flatMap fun k=>k.2.pages
theorem flat_node {L:Nat} (t:Tr (L+1)):t.flat=flK t.ks:=rfl
theorem pages_node {L:Nat} (t:Tr (L+1)):t.pages=t.page :: pgK t.ks:=rfl
theorem flK_app {L:Nat} (A B:List (Kid L)):flK (A++B)=flK A++flK B:=by simp [flK]
theorem flK_cons {L:Nat} (a:Kid L) (B:List (Kid L)):flK (a :: B)=a.2.flat++flK B:=by simp [flK]
theorem pgK_app {L:Nat} (A B:List (Kid L)):pgK (A++B)=pgK A++pgK B:=by simp [pgK]
theorem pgK_cons {L:Nat} (a:Kid L) (B:List (Kid L)):pgK (a :: B)=a.2.pages++pgK B:=by simp [pgK]
theorem flK_nil {L:Nat}:flK ([]:List (Kid L))=[]:=rfl
theorem pgK_nil {L:Nat}:pgK ([]:List (Kid L))=[]:=rfl
theorem page_mem {L:Nat} (t:Tr L):t.page ∈ t.pages:=by
 cases L with
 | zero=>simp [Tr.pages,pagesL]
 | succ L=>rw [pages_node];simp
def szK {L:Nat} (ks:List (Kid L)):Nat:=szE (ks.map kEn)
theorem size_node {L:Nat} (t:Tr (L+1)):t.size=szK t.ks:=rfl
theorem size_leaf (t:Tr 0):t.size=szE t.es:=rfl
theorem szK_app {L:Nat} (A B:List (Kid L)):szK (A++B)=szK A+szK B:=by simp [szK,szE_append]
theorem szK_cons {L:Nat} (a:Kid L) (B:List (Kid L)):szK (a :: B)=4+a.1.length+szK B:=by
 simp [szK,szE,kEn,En.size,pgV];omega
theorem szK_nil {L:Nat}:szK ([]:List (Kid L))=0:=rfl
def repL (P:Nat→Nat→List En→Prop):(L:Nat)→Tr L→Prop
 | 0,t=>P t.page 0 t.es
 | L+1,t=>P t.page (L+1) (t.ks.map kEn)∧∀ k ∈ t.ks,repL P L k.2
def Rep (P:Nat→Nat→List En→Prop) {L:Nat} (t:Tr L):Prop:=repL P L t
theorem Rep.at_ {P:Nat→Nat→List En→Prop} {L:Nat} {t:Tr L} (h:Rep P t):P t.page L t.ens:=by
 cases L with
 | zero=>exact h
 | succ L=>exact h.1
theorem Rep.kid {P:Nat→Nat→List En→Prop} {L:Nat} {t:Tr (L+1)} (h:Rep P t):∀ k ∈ t.ks,Rep P k.2:=h.2
theorem Rep.mk {P:Nat→Nat→List En→Prop} {L:Nat} {t:Tr (L+1)} (h:P t.page (L+1) t.ens) (hk:∀ k ∈ t.ks,Rep P k.2):Rep P t:=⟨h,hk⟩
theorem Rep.congr {P P':Nat→Nat→List En→Prop} {L:Nat} {t:Tr L} (h:Rep P t) (hF:∀ q ∈ t.pages,∀ l es,P q l es→P' q l es):Rep P' t:=by
 induction L with
 | zero=>exact hF _ (page_mem t) _ _ h
 | succ L ih =>
  refine ⟨hF _ (page_mem t) _ _ h.1,fun k hk=>ih (h.2 k hk) fun q hq=>hF q ?_⟩
  rw [pages_node]
  exact List.mem_cons_of_mem _ (List.mem_flatMap.2 ⟨k,hk,hq⟩)
def okL (e:En):Prop:=0 < e.key.length∧e.key.length≤96∧e.val.length≤32
def sep (L:Nat) (k:List UInt8):Nat:=if L=0 then 0 else k.length
def Far {L:Nat} (a b:Kid L):Prop:=510 < a.2.size+b.2.size+sep L b.1
def KeysOk {L:Nat}:List (Kid L)→Prop
 | []=>True
 | a :: r=>a.1=[]∧∀ x ∈ r,0 < x.1.length∧x.1.length≤96
def looseL:(L:Nat)→Tr L→Prop
 | 0,t=>∀ e ∈ t.es,okL e
 | L+1,t=>KeysOk t.ks∧(∀ k ∈ t.ks,looseL L k.2∧k.2.ens≠[]∧k.2.size≤510∧1≤k.2.page∧k.2.page < 4096)∧Chn Far t.ks
def Loose {L:Nat} (t:Tr L):Prop:=looseL L t
def Tidy {L:Nat} (t:Tr L):Prop:=Loose t∧t.ens≠[]∧t.size≤510∧1≤t.page∧t.page < 4096
def TidyK {L:Nat} (ks:List (Kid L)):Prop:=KeysOk ks∧∀ k ∈ ks,Tidy k.2
theorem loose_node {L:Nat} {t:Tr (L+1)}:Loose t ↔ TidyK t.ks∧Chn Far t.ks:=by
 unfold TidyK
 rw [and_assoc]
 rfl
theorem loose_leaf {t:Tr 0}:Loose t ↔ ∀ e ∈ t.es,okL e:=Iff.rfl
theorem ens_ne {L:Nat} {t:Tr (L+1)}:t.ens≠[] ↔ t.ks≠[]:=by rw [ens_node];simp
theorem size_pos_node {L:Nat} {t:Tr (L+1)} (h:t.ens≠[]):4≤t.size:=by
 rw [size_node]
 cases he:t.ks with
 | nil=>exact absurd he (ens_ne.1 h)
 | cons a r=>rw [szK_cons];omega
def nxt {L:Nat} (r:List (Kid L)) (hi:Option (List UInt8)):Option (List UInt8):=match r with
 | []=>hi
 | b :: _=>some b.1
def hdK {L:Nat} (r:List (Kid L)):List UInt8:=match r with
 | []=>[]
 | b :: _=>b.1
def ordKs {L:Nat} (O:Tr L→List UInt8→Option (List UInt8)→Prop):List UInt8→List (Kid L)→Option (List UInt8)→Prop
 | _,[],_=>True
 | lo,a :: r,hi=>O a.2 lo (nxt r hi)∧ordKs O (hdK r) r hi
def ordL:(L:Nat)→Tr L→List UInt8→Option (List UInt8)→Prop
 | 0,t,lo,hi=>Bd lo hi∧Srt t.es∧∀ e ∈ t.es,Inn lo hi e.key
 | L+1,t,lo,hi=>Bd lo hi∧ordKs (ordL L) lo t.ks hi
def Ord {L:Nat} (t:Tr L) (lo:List UInt8) (hi:Option (List UInt8)):Prop:=ordL L t lo hi
def OrdK {L:Nat} (lo:List UInt8) (ks:List (Kid L)) (hi:Option (List UInt8)):Prop:=ordKs (fun t lo hi=>Ord t lo hi) lo ks hi
theorem ord_leaf {t:Tr 0} {lo:List UInt8} {hi:Option (List UInt8)}:Ord t lo hi ↔ Bd lo hi∧Srt t.es∧∀ e ∈ t.es,Inn lo hi e.key:=Iff.rfl
theorem ord_node {L:Nat} {t:Tr (L+1)} {lo:List UInt8} {hi:Option (List UInt8)}:Ord t lo hi ↔ Bd lo hi∧OrdK lo t.ks hi:=Iff.rfl
theorem Ord.bd {L:Nat} {t:Tr L} {lo:List UInt8} {hi:Option (List UInt8)} (h:Ord t lo hi):Bd lo hi:=by
 cases L with
 | zero=>exact h.1
 | succ L=>exact h.1
theorem ordK_cons {L:Nat} {lo:List UInt8} {a:Kid L} {r:List (Kid L)} {hi:Option (List UInt8)}:OrdK lo (a :: r) hi ↔ Ord a.2 lo (nxt r hi)∧OrdK (hdK r) r hi:=Iff.rfl
def lof {L:Nat} (lo:List UInt8) (A:List (Kid L)) (k:List UInt8):List UInt8:=match A with
 | []=>lo
 | _ :: _=>k
theorem nxt_app {L:Nat} (A:List (Kid L)) (b:Kid L) (B:List (Kid L)) (hi:Option (List UInt8)):nxt (A++b :: B) hi=nxt A (some b.1):=by cases A <;> rfl
theorem ordK_mid {L:Nat} (A:List (Kid L)) (b:Kid L) (B:List (Kid L)) {lo:List UInt8} {hi:Option (List UInt8)} :
  OrdK lo (A++b :: B) hi ↔ OrdK lo A (some b.1)∧Ord b.2 (lof lo A b.1) (nxt B hi)∧OrdK (hdK B) B hi:=by
 induction A generalizing lo with
 | nil =>
  rw [List.nil_append,ordK_cons]
  exact ⟨fun h=>⟨trivial,h.1,h.2⟩,fun h=>⟨h.2.1,h.2.2⟩⟩
 | cons a A ih =>
  rw [List.cons_append,ordK_cons,ordK_cons,nxt_app,ih]
  cases A with
  | nil=>exact ⟨fun h=>⟨⟨h.1,trivial⟩,h.2.2.1,h.2.2.2⟩,fun h=>⟨h.1.1,trivial,h.2.1,h.2.2⟩⟩
  | cons a' A=>exact ⟨fun h=>⟨⟨h.1,h.2.1⟩,h.2.2⟩,fun h=>⟨h.1.1,h.1.2,h.2⟩⟩
theorem Ord.lower {L:Nat} {t:Tr L} {lo lo':List UInt8} {hi:Option (List UInt8)} (h:Ord t lo hi) (hl:le lo' lo):Ord t lo' hi:=by
 induction L generalizing lo lo' hi with
 | zero=>exact ⟨fun x hx=>lt_of_le_lt hl (h.1 x hx),h.2.1,fun e he=>⟨le_trans' hl (h.2.2 e he).1,(h.2.2 e he).2⟩⟩
 | succ L ih =>
  refine ⟨fun x hx=>lt_of_le_lt hl (h.1 x hx),?_⟩
  have h2:=h.2
  cases hk:t.ks with
  | nil=>trivial
  | cons a r =>
   rw [hk] at h2
   exact ⟨ih h2.1 hl,h2.2⟩
theorem ordK_bd {L:Nat} {a:Kid L} {r:List (Kid L)} {lo:List UInt8} {hi:Option (List UInt8)} (h:OrdK lo (a :: r) hi):Bd lo hi:=by
 induction r generalizing lo a with
 | nil=>exact (ordK_cons.1 h).1.bd
 | cons b r ih =>
  have h1:=ordK_cons.1 h
  intro x hx
  exact lt_trans (h1.1.bd _ rfl) (ih h1.2 x hx)
theorem ordK_flat {L:Nat} (ih:∀ (t:Tr L) {lo:List UInt8} {hi:Option (List UInt8)},Ord t lo hi→Srt t.flat∧∀ e ∈ t.flat,Inn lo hi e.key)
  (ks:List (Kid L)) {lo:List UInt8} {hi:Option (List UInt8)} (h:OrdK lo ks hi):Srt (flK ks)∧∀ e ∈ flK ks,Inn lo hi e.key:=by
 induction ks generalizing lo with
 | nil=>exact ⟨trivial,fun e he=>by cases he⟩
 | cons a r ihr =>
  have h1:=ordK_cons.1 h
  rw [flK_cons]
  have h3:=ih _ h1.1
  cases r with
  | nil =>
   rw [flK_nil,List.append_nil]
   exact h3
  | cons b r =>
   have hlb:lt lo b.1:=h1.1.bd _ rfl
   have hb:=ordK_bd h1.2
   have h4:=ihr h1.2
   refine ⟨srt_append.2 ⟨h3.1,h4.1,fun x hx y hy=>lt_of_lt_le ((h3.2 x hx).2 _ rfl) (h4.2 y hy).1⟩,fun e he=>?_⟩
   rcases List.mem_append.1 he with he | he
   ·exact ⟨(h3.2 e he).1,fun x hx=>lt_trans ((h3.2 e he).2 _ rfl) (hb x hx)⟩
   ·exact ⟨le_trans' hlb.le (h4.2 e he).1,(h4.2 e he).2⟩
theorem Ord.flat {L:Nat} {t:Tr L} {lo:List UInt8} {hi:Option (List UInt8)} (h:Ord t lo hi):Srt t.flat∧∀ e ∈ t.flat,Inn lo hi e.key:=by
 induction L generalizing lo hi with
 | zero=>exact h.2
 | succ L ih=>exact ordK_flat (fun t {_ _} ht=>ih ht) _ h.2
def mrgL:(L:Nat)→Tr L→List UInt8→Tr L→Tr L→List Nat→Prop
 | 0,x,_,y,z,dead=>z=.leaf x.page (x.es++y.es)∧dead=[y.page]
 | L+1,x,k,y,z,dead=>∃ X a b Y,x.ks=X++[a]∧y.ks=b :: Y ∧
   (Far a (k,b.2)∧z=.node x.page (X++a :: (k,b.2) :: Y)∧dead=[y.page] ∨
   ¬ Far a (k,b.2)∧∃ m dd,mrgL L a.2 k b.2 m dd∧z=.node x.page (X++(a.1,m) :: Y)∧dead=y.page :: dd)
def Mrg {L:Nat} (x:Tr L) (k:List UInt8) (y z:Tr L) (dead:List Nat):Prop:=mrgL L x k y z dead
theorem keysOk_mid {L:Nat} {A:List (Kid L)} {a b:Kid L} {B:List (Kid L)} (h:KeysOk (A++a :: b :: B)):0 < b.1.length∧b.1.length≤96:=by
 cases A with
 | nil=>exact h.2 b (by simp)
 | cons x A=>exact h.2 b (by simp)
theorem keysOk_sub {L:Nat} {A:List (Kid L)} {a:Kid L} {B B':List (Kid L)} {t:Tr L} (h:KeysOk (A++a :: B)) (hB:∀ x ∈ B',0 < x.1.length∧x.1.length≤96):KeysOk (A++(a.1,t) :: B'):=by
 cases A with
 | nil=>exact ⟨h.1,hB⟩
 | cons x A =>
  refine ⟨h.1,fun y hy=>?_⟩
  have hy:y ∈ A++(a.1,t) :: B':=hy
  simp only [List.mem_append,List.mem_cons] at hy
  rcases hy with hy | rfl | hy
  ·exact h.2 y (by simp [hy])
  ·exact h.2 a (by simp)
  ·exact hB y hy
theorem keysOk_tail {L:Nat} {A:List (Kid L)} {a:Kid L} {B:List (Kid L)} (h:KeysOk (A++a :: B)):∀ x ∈ B,0 < x.1.length∧x.1.length≤96:=by
 cases A with
 | nil=>exact h.2
 | cons x A=>exact fun y hy=>h.2 y (by simp [hy])
structure MrgOk {L:Nat} (x:Tr L) (k:List UInt8) (y z:Tr L) (dead:List Nat):Prop where
 loose:Loose z
 ne:z.ens≠[]
 left:x.size≤z.size
 right:y.size≤z.size
 size:z.size≤x.size+y.size+sep L k
 page:z.page=x.page
 flat:z.flat=x.flat++y.flat
 ord:∀ lo hi,Ord x lo (some k)→Ord y k hi→Ord z lo hi
 perm:(z.pages++dead).Perm (x.pages++y.pages)
theorem ordK_last {L:Nat} {X:List (Kid L)} {a:Kid L} {lo:List UInt8} {hi:Option (List UInt8)}:OrdK lo (X++[a]) hi ↔ OrdK lo X (some a.1)∧Ord a.2 (lof lo X a.1) hi:=by
 rw [ordK_mid]
 exact ⟨fun h=>⟨h.1,h.2.1⟩,fun h=>⟨h.1,h.2,trivial⟩⟩
theorem mrg_ok {L:Nat} {x y z:Tr L} {k:List UInt8} {dead:List Nat} (hx:Loose x) (hy:Loose y) (hnx:x.ens≠[]) (hny:y.ens≠[]) (hk:0 < L→0 < k.length∧k.length≤96) (h:Mrg x k y z dead):MrgOk x k y z dead:=by
 induction L generalizing k dead with
 | zero =>
  obtain ⟨rfl,rfl⟩:=h
  refine ⟨?_,?_,?_,?_,?_,rfl,rfl,?_,?_⟩
  ·rw [loose_leaf,leaf_es]
   intro e he
   rcases List.mem_append.1 he with he | he
   ·exact hx e he
   ·exact hy e he
  ·rw [ens_leaf,leaf_es]
   rw [ens_leaf] at hnx
   simp [hnx]
  ·rw [size_leaf,size_leaf,leaf_es,szE_append];omega
  ·rw [size_leaf,size_leaf,leaf_es,szE_append];omega
  ·rw [size_leaf,size_leaf,size_leaf,leaf_es,szE_append];omega
  ·intro lo hi h1 h2
   refine ⟨fun e he=>lt_trans (h1.1 _ rfl) (h2.1 e he),srt_append.2 ⟨h1.2.1,h2.2.1,fun a ha b hb=>lt_of_lt_le ((h1.2.2 a ha).2 _ rfl) (h2.2.2 b hb).1⟩,fun e he=>?_⟩
   rcases List.mem_append.1 he with he | he
   ·exact ⟨(h1.2.2 e he).1,fun x hx=>lt_trans ((h1.2.2 e he).2 _ rfl) (h2.1 x hx)⟩
   ·exact ⟨le_trans' (h1.1 _ rfl).le (h2.2.2 e he).1,(h2.2.2 e he).2⟩
  ·exact List.Perm.refl _
 | succ L ih =>
  obtain ⟨X,a,b,Y,hX,hY,hcase⟩:=h
  obtain ⟨hxk,hxc⟩:=loose_node.1 hx
  obtain ⟨hyk,hyc⟩:=loose_node.1 hy
  rw [hX] at hxk hxc
  rw [hY] at hyk hyc
  have hk1:=hk (by omega)
  have hb0:b.1=[]:=hyk.1.1
  have ha:=hxk.2 a (by simp)
  have hb:=hyk.2 b (by simp)
  have hxs:x.size=szK X+(4+a.1.length):=by rw [size_node,hX,szK_app,szK_cons,szK_nil];omega
  have hys:y.size=4+szK Y:=by rw [size_node,hY,szK_cons,hb0];simp
  have hsep:sep (L+1) k=k.length:=by simp [sep]
  have hYk:∀ u ∈ Y,0 < u.1.length∧u.1.length≤96:=hyk.1.2
  have hxf:x.flat=flK X++a.2.flat:=by rw [flat_node,hX,flK_app,flK_cons,flK_nil,List.append_nil]
  have hyf:y.flat=b.2.flat++flK Y:=by rw [flat_node,hY,flK_cons]
  have hxp:x.pages=x.page :: (pgK X++a.2.pages):=by rw [pages_node,hX,pgK_app,pgK_cons,pgK_nil,List.append_nil]
  have hyp:y.pages=y.page :: (b.2.pages++pgK Y):=by rw [pages_node,hY,pgK_cons]
  have hox:∀ lo,Ord x lo (some k)→OrdK lo X (some a.1)∧Ord a.2 (lof lo X a.1) (some k):=fun lo h=>by
   have:=(ord_node.1 h).2
   rw [hX] at this
   exact ordK_last.1 this
  have hoy:∀ hi,Ord y k hi→Ord b.2 k (nxt Y hi)∧OrdK (hdK Y) Y hi:=fun hi h=>by
   have:=(ord_node.1 h).2
   rw [hY] at this
   exact ordK_cons.1 this
  rcases hcase with ⟨hfar,rfl,rfl⟩ | ⟨hnf,m,dd,hm,rfl,rfl⟩
  ·
   refine ⟨loose_node.2 ⟨⟨?_,?_⟩,?_⟩,?_,?_,?_,?_,rfl,?_,?_,?_⟩
   ·rw [node_ks]
    exact keysOk_sub (t:=a.2) hxk.1 fun u hu=>(List.mem_cons.1 hu).elim (fun e=>e ▸ hk1) (hYk u)
   ·rw [node_ks]
    intro u hu
    simp only [List.mem_append,List.mem_cons] at hu
    rcases hu with hu | rfl | rfl | hu
    ·exact hxk.2 u (by simp [hu])
    ·exact ha
    ·exact hb
    ·exact hyk.2 u (by simp [hu])
   ·rw [node_ks,Chn.two]
    exact ⟨hxc,hfar,hyc.first fun u hu=>hu⟩
   ·rw [ens_ne,node_ks];simp
   ·rw [hxs,size_node,node_ks,szK_app,szK_cons,szK_cons];dsimp only;omega
   ·rw [hys,size_node,node_ks,szK_app,szK_cons,szK_cons];dsimp only;omega
   ·rw [hsep,hxs,hys,size_node,node_ks,szK_app,szK_cons,szK_cons];dsimp only;omega
   ·rw [hxf,hyf,flat_node,node_ks,flK_app,flK_cons,flK_cons];simp
   ·intro lo hi h1 h2
    rw [ord_node,node_ks]
    refine ⟨fun e he=>lt_trans (h1.bd _ rfl) (h2.bd e he),?_⟩
    rw [ordK_mid]
    exact ⟨(hox lo h1).1,(hox lo h1).2,hoy hi h2⟩
   ·rw [hxp,hyp,pages_node,node_ks,pgK_app,pgK_cons,pgK_cons,node_page,List.perm_iff_count]
    intro q
    simp only [List.count_append,List.count_cons,List.count_nil];omega
  ·have hM:=ih ha.1 hb.1 ha.2.1 hb.2.1 (fun _=>hk1) hm
   have hms:m.size≤510:=by
    have:=hM.size
    unfold Far at hnf
    simp only at hnf
    omega
   have hmt:Tidy m:=⟨hM.loose,hM.ne,hms,by rw [hM.page];exact ha.2.2.2.1,by rw [hM.page];exact ha.2.2.2.2⟩
   have hx4:=size_pos_node hnx
   have hy4:=size_pos_node hny
   refine ⟨loose_node.2 ⟨⟨?_,?_⟩,?_⟩,?_,?_,?_,?_,rfl,?_,?_,?_⟩
   ·rw [node_ks]
    exact keysOk_sub hxk.1 hYk
   ·rw [node_ks]
    intro u hu
    simp only [List.mem_append,List.mem_cons] at hu
    rcases hu with hu | rfl | hu
    ·exact hxk.2 u (by simp [hu])
    ·exact hmt
    ·exact hyk.2 u (by simp [hu])
   ·rw [node_ks,Chn.mid]
    refine ⟨hxc.last fun u hu=>?_,hyc.first fun u hu=>?_⟩
    ·have:=hM.left;unfold Far at hu ⊢;simp only;omega
    ·have:=hM.right;unfold Far at hu ⊢;simp only;omega
   ·rw [ens_ne,node_ks];simp
   ·rw [hxs,size_node,node_ks,szK_app,szK_cons];dsimp only;omega
   ·rw [hys,size_node,node_ks,szK_app,szK_cons];omega
   ·rw [hsep,hxs,hys,size_node,node_ks,szK_app,szK_cons];dsimp only;omega
   ·rw [hxf,hyf,flat_node,node_ks,flK_app,flK_cons,hM.flat];simp
   ·intro lo hi h1 h2
    rw [ord_node,node_ks]
    refine ⟨fun e he=>lt_trans (h1.bd _ rfl) (h2.bd e he),?_⟩
    rw [ordK_mid]
    exact ⟨(hox lo h1).1,hM.ord _ _ (hox lo h1).2 (hoy hi h2).1,(hoy hi h2).2⟩
   ·have hp:=hM.perm
    rw [List.perm_iff_count] at hp
    rw [hxp,hyp,pages_node,node_ks,pgK_app,pgK_cons,node_page,List.perm_iff_count]
    intro q
    have:=hp q
    simp only [List.count_append,List.count_cons] at this ⊢
    omega
def JoinR {L:Nat} (ks:List (Kid L)) (at_:Nat) (ks':List (Kid L)) (dead:List Nat):Prop :=
 (∃ A a b B m,ks=A++a :: b :: B∧A.length=at_∧¬ Far a b∧Mrg a.2 b.1 b.2 m dead∧ks'=A++(a.1,m) :: B) ∨
 (ks'=ks∧dead=[]∧∀ A a b B,ks=A++a :: b :: B→A.length=at_→Far a b)
structure SameK {L:Nat} (ks ks':List (Kid L)) (born dead:List Nat):Prop where
 flat:flK ks'=flK ks
 ord:∀ lo hi,OrdK lo ks hi→OrdK lo ks' hi
 perm:(pgK ks'++dead).Perm (pgK ks++born)
theorem SameK.refl {L:Nat} (ks:List (Kid L)):SameK ks ks [] []:=⟨rfl,fun _ _ h=>h,by simp⟩
theorem SameK.trans {L:Nat} {a b c:List (Kid L)} {x y u v:List Nat} (h:SameK a b x y) (k:SameK b c u v):SameK a c (x++u) (y++v) :=
 ⟨k.flat.trans h.flat,fun lo hi ho=>k.ord lo hi (h.ord lo hi ho),by
  have h1:=h.perm;have h2:=k.perm
  rw [List.perm_iff_count] at h1 h2 ⊢
  intro q
  have e1:=h1 q;have e2:=h2 q
  simp only [List.count_append] at e1 e2 ⊢
  omega⟩
theorem joinR_ok {L:Nat} {A:List (Kid L)} {a b:Kid L} {B:List (Kid L)} {ks':List (Kid L)} {dead:List Nat} (ht:TidyK (A++a :: b :: B)) (h:JoinR (A++a :: b :: B) A.length ks' dead) :
  (Far a b∧ks'=A++a :: b :: B∧dead=[]) ∨
  (¬ Far a b∧∃ m,ks'=A++(a.1,m) :: B∧Tidy m∧a.2.size≤m.size∧b.2.size≤m.size∧TidyK ks'∧SameK (A++a :: b :: B) ks' [] dead∧szK ks'+4+b.1.length=szK (A++a :: b :: B)):=by
 rcases h with ⟨A',a',b',B',m,he,hl,hn,hm,rfl⟩ | ⟨rfl,rfl,hf⟩
 ·obtain ⟨e0,e1⟩:=List.append_inj he hl.symm
  injection e1 with e1 e2
  injection e2 with e2 e3
  subst e0 e1 e2 e3
  refine .inr ⟨hn,m,rfl,?_⟩
  have hbk:=keysOk_mid ht.1
  have ha:=ht.2 a (by simp)
  have hb:=ht.2 b (by simp)
  have hM:=mrg_ok ha.1 hb.1 ha.2.1 hb.2.1 (fun _=>hbk) hm
  have hms:m.size≤510:=by
   have:=hM.size
   unfold Far at hn
   omega
  have hmt:Tidy m:=⟨hM.loose,hM.ne,hms,by rw [hM.page];exact ha.2.2.2.1,by rw [hM.page];exact ha.2.2.2.2⟩
  have hB:=keysOk_tail ht.1
  refine ⟨hmt,hM.left,hM.right,⟨keysOk_sub (t:=m) ht.1 (fun x hx=>hB x (by simp [hx])),fun k hk=>?_⟩,⟨?_,?_,?_⟩,?_⟩
  ·simp only [List.mem_append,List.mem_cons] at hk
   rcases hk with hk | rfl | hk
   ·exact ht.2 k (by simp [hk])
   ·exact hmt
   ·exact ht.2 k (by simp [hk])
  ·rw [flK_app,flK_app,flK_cons,flK_cons,flK_cons,hM.flat];simp
  ·intro lo hi ho
   rw [ordK_mid] at ho
   have h2:=ordK_cons.1 ho.2.2
   rw [ordK_mid]
   exact ⟨ho.1,hM.ord _ _ ho.2.1 h2.1,h2.2⟩
  ·have hp:=hM.perm
   rw [List.perm_iff_count] at hp ⊢
   intro q
   have:=hp q
   rw [pgK_app,pgK_app,pgK_cons,pgK_cons,pgK_cons]
   simp only [List.count_append,List.count_nil] at this ⊢
   omega
  ·rw [szK_app,szK_app,szK_cons,szK_cons,szK_cons];simp only;omega
 ·exact .inl ⟨hf A a b B rfl rfl,rfl,rfl⟩
theorem joinR_end {L:Nat} {ks ks':List (Kid L)} {at_:Nat} {dead:List Nat} (hl:ks.length≤at_+1) (h:JoinR ks at_ ks' dead):ks'=ks∧dead=[]:=by
 rcases h with ⟨A,a,b,B,m,rfl,h2,_⟩ | ⟨rfl,rfl,_⟩
 ·simp at hl;omega
 ·exact ⟨rfl,rfl⟩
theorem joinR_chn {L:Nat} {A:List (Kid L)} {a b:Kid L} {B:List (Kid L)} {ks':List (Kid L)} {dead:List Nat} (ht:TidyK (A++a :: b :: B)) (h1:Chn Far (A++[a])) (h2:Chn Far (b :: B)) (h:JoinR (A++a :: b :: B) A.length ks' dead) :
  Chn Far ks':=by
 rcases joinR_ok ht h with ⟨hf,rfl,rfl⟩ | ⟨_,m,rfl,_,hl,hr,_⟩
 ·rw [Chn.two];exact ⟨h1,hf,h2⟩
 ·rw [Chn.mid]
  refine ⟨h1.last fun u hu=>?_,h2.first fun u hu=>?_⟩
  ·unfold Far at hu ⊢;simp only;omega
  ·unfold Far at hu ⊢;simp only;omega
def SplitR:{L:Nat}→Tr L→Nat→Tr L→List UInt8→Tr L→Prop
 | 0,c,p,c1,k,c2=>∃ E1 x E2 y,c.es=(E1++[x])++y :: E2∧c1=.leaf c.page (E1++[x])∧c2=.leaf p (y :: E2)∧(lt x.key y.key→lt x.key k∧le k y.key∧0 < k.length∧k.length≤96)
 | _+1,c,p,c1,k,c2=>∃ K1 t K2,c.ks=K1++(k,t) :: K2∧K1≠[]∧c1=.node c.page K1∧c2=.node p (([],t) :: K2)
structure SplitOk {L:Nat} (c:Tr L) (p:Nat) (c1:Tr L) (k:List UInt8) (c2:Tr L):Prop where
 left:Loose c1
 right:Loose c2
 ne:c1.ens≠[]∧c2.ens≠[]
 key:0 < k.length∧k.length≤96
 size:c1.size+c2.size+sep L k=c.size
 page:c1.page=c.page∧c2.page=p
 flat:c.flat=c1.flat++c2.flat
 ord:∀ lo hi,Ord c lo hi→Ord c1 lo (some k)∧Ord c2 k hi
 perm:(c1.pages++c2.pages).Perm (p :: c.pages)
theorem split_ok {L:Nat} {c c1 c2:Tr L} {p:Nat} {k:List UInt8} (hc:Loose c) {lo:List UInt8} {hi:Option (List UInt8)} (ho:Ord c lo hi) (h:SplitR c p c1 k c2):SplitOk c p c1 k c2:=by
 cases L with
 | zero =>
  obtain ⟨E1,x,E2,y,hes,rfl,rfl,hk⟩:=h
  have hs:=ho.2.1
  rw [hes] at hs
  have hxy:lt x.key y.key:=(srt_append.1 hs).2.2 x (by simp) y (by simp)
  obtain ⟨hk1,hk2,hk3,hk4⟩:=hk hxy
  have hcl:∀ e ∈ c.es,okL e:=hc
  rw [hes] at hcl
  refine ⟨fun e he=>hcl e (List.mem_append.2 (.inl he)),fun e he=>hcl e (List.mem_append.2 (.inr he)),⟨by rw [ens_leaf];simp,by rw [ens_leaf];simp⟩,⟨hk3,hk4⟩,?_,⟨rfl,rfl⟩,hes,?_,?_⟩
  ·rw [size_leaf,size_leaf,size_leaf,hes,szE_append,leaf_es,leaf_es];simp [sep]
  ·intro lo hi hoc
   have hs:=hoc.2.1
   have hin:=hoc.2.2
   rw [hes] at hs hin
   obtain ⟨s1,s2,s3⟩:=srt_append.1 hs
   refine ⟨⟨fun u hu=>?_,s1,fun e he=>⟨(hin e (List.mem_append.2 (.inl he))).1,fun u hu=>?_⟩⟩,⟨fun u hu=>?_,s2,fun e he=>⟨?_,(hin e (List.mem_append.2 (.inr he))).2⟩⟩⟩
   ·cases hu;exact lt_of_le_lt (hin x (by simp)).1 hk1
   ·cases hu
    rw [leaf_es] at he
    rcases List.mem_append.1 he with he | he
    ·exact lt_trans ((srt_append.1 s1).2.2 e he x (by simp)) hk1
    ·rw [List.mem_singleton] at he;subst he;exact hk1
   ·exact lt_of_le_lt hk2 ((hin y (by simp)).2 u hu)
   ·rw [leaf_es] at he
    rcases List.mem_cons.1 he with rfl | he
    ·exact hk2
    ·exact le_trans' hk2 (Srt.cons_lt s2 e he).le
  ·exact List.Perm.swap _ _ _
 | succ L =>
  obtain ⟨K1,t,K2,hks,hne,rfl,rfl⟩:=h
  obtain ⟨hk,hch⟩:=loose_node.1 hc
  rw [hks] at hk hch
  obtain ⟨a,K1,rfl⟩:∃ a K,K1=a :: K:=by cases K1 with | nil=>exact absurd rfl hne | cons a K=>exact ⟨a,K,rfl⟩
  have hkk:=hk.1.2 (k,t) (by simp)
  have hK2:=keysOk_tail hk.1
  refine ⟨loose_node.2 ⟨⟨⟨hk.1.1,fun x hx=>hk.1.2 x (List.mem_append.2 (.inl hx))⟩,fun x hx=>hk.2 x (List.mem_append.2 (.inl hx))⟩,hch.left⟩,loose_node.2 ⟨⟨⟨rfl,hK2⟩,fun x hx=>?_⟩,?_⟩,⟨by rw [ens_ne];simp,by rw [ens_ne];simp⟩,hkk,?_,⟨rfl,rfl⟩,?_,?_,?_⟩
  ·rw [node_ks] at hx
   rcases List.mem_cons.1 hx with rfl | hx
   ·exact hk.2 (k,t) (by simp)
   ·exact hk.2 x (by simp [hx])
  ·rw [node_ks]
   exact (Chn.right hch).first fun u hu=>hu
  ·rw [size_node,size_node,size_node,hks,szK_app,node_ks,node_ks,szK_cons (k,t),szK_cons ([],t)]
   simp [sep];omega
  ·rw [flat_node,flat_node,flat_node,hks,flK_app,node_ks,node_ks,flK_cons (k,t),flK_cons ([],t)]
  ·intro lo hi hoc
   have h1:=(ord_node.1 hoc).2
   rw [hks,ordK_mid] at h1
   have hb:=ordK_bd (a:=(k,t)) (r:=K2) (lo:=k) (hi:=hi) (ordK_cons.2 ⟨h1.2.1,h1.2.2⟩)
   exact ⟨ord_node.2 ⟨ordK_bd h1.1,h1.1⟩,ord_node.2 ⟨hb,ordK_cons.2 ⟨h1.2.1,h1.2.2⟩⟩⟩
  ·rw [pages_node,pages_node,pages_node,hks,pgK_app,node_ks,node_ks,pgK_cons (k,t),pgK_cons ([],t),node_page,node_page,List.perm_iff_count]
   intro q
   simp only [List.count_append,List.count_cons]
   omega
def JoinM {L:Nat} (ks:List (Kid L)) (i:Nat) (ks':List (Kid L)) (dead:List Nat):Prop:=match i with
 | 0=>ks'=ks∧dead=[]
 | j+1=>JoinR ks j ks' dead
def rehd {L:Nat} (ks:List (Kid L)):List (Kid L):=match ks with
 | []=>[]
 | a :: r=>([],a.2) :: r
def FitR {L:Nat} (A:List (Kid L)) (k:List UInt8) (c:Tr L) (B:List (Kid L)) (had:Nat) (ks':List (Kid L)) (born dead:List Nat):Prop :=
 (c.ens=[]∧ks'=rehd (A++B)∧born=[]∧dead=[c.page]) ∨
 (510 < c.size∧∃ p c1 k2 c2 ks1 d1 d2,SplitR c p c1 k2 c2∧c1.size≤510∧c2.size≤510∧1≤p∧p < 4096∧JoinR (A++(k,c1) :: (k2,c2) :: B) (A.length+1) ks1 d1∧JoinM ks1 A.length ks' d2∧born=[p]∧dead=d1++d2) ∨
 (c.ens≠[]∧c.size≤510∧c.size < had∧∃ ks1 d1 d2,JoinR (A++(k,c) :: B) A.length ks1 d1∧JoinM ks1 A.length ks' d2∧born=[]∧dead=d1++d2) ∨
 (c.ens≠[]∧c.size≤510∧had≤c.size∧ks'=A++(k,c) :: B∧born=[]∧dead=[])
theorem ordK_each {L:Nat} {hi hi':Option (List UInt8)} (ih:∀ (t:Tr L) (lo:List UInt8),Ord t lo hi→Ord t lo hi'):∀ (ks:List (Kid L)) (lo:List UInt8),OrdK lo ks hi→OrdK lo ks hi'
 | [],_,_=>trivial
 | [_],_,h=>ordK_cons.2 ⟨ih _ _ (ordK_cons.1 h).1,trivial⟩
 | _ :: b :: r,_,h=>ordK_cons.2 ⟨(ordK_cons.1 h).1,ordK_each ih (b :: r) b.1 (ordK_cons.1 h).2⟩
theorem Ord.upper {L:Nat} {t:Tr L} {lo:List UInt8} {hi hi':Option (List UInt8)} (h:Ord t lo hi) (hb:∀ x,hi'=some x→∃ y,hi=some y∧le y x):Ord t lo hi':=by
 have hbd:∀ l,Bd l hi→Bd l hi':=fun l hl x hx=>by
  obtain ⟨y,hy,hyx⟩:=hb x hx
  exact lt_of_lt_le (hl y hy) hyx
 induction L generalizing lo with
 | zero=>exact ⟨hbd _ h.1,h.2.1,fun e he=>⟨(h.2.2 e he).1,hbd _ (h.2.2 e he).2⟩⟩
 | succ L ih=>exact ord_node.2 ⟨hbd _ h.1,ordK_each (fun t lo ht=>ih ht) _ _ (ord_node.1 h).2⟩
theorem ordK_upper {L:Nat} {ks:List (Kid L)} {lo:List UInt8} {hi hi':Option (List UInt8)} (h:OrdK lo ks hi) (hb:∀ x,hi'=some x→∃ y,hi=some y∧le y x):OrdK lo ks hi':=by
 induction ks generalizing lo with
 | nil=>trivial
 | cons a r ihr =>
  rw [ordK_cons] at h ⊢
  cases r with
  | nil=>exact ⟨h.1.upper hb,trivial⟩
  | cons b r=>exact ⟨h.1,ihr h.2⟩
theorem ordK_lower {L:Nat} {ks:List (Kid L)} {lo lo':List UInt8} {hi:Option (List UInt8)} (h:OrdK lo ks hi) (hl:le lo' lo):OrdK lo' (rehd ks) hi:=by
 cases ks with
 | nil=>trivial
 | cons a r =>
  have:=ordK_cons.1 h
  exact ordK_cons.2 ⟨this.1.lower hl,this.2⟩
theorem ordK_rehd {L:Nat} {ks:List (Kid L)} {lo:List UInt8} {hi:Option (List UInt8)} (h:OrdK lo ks hi):OrdK lo (rehd ks) hi:=ordK_lower h (le_refl' _)
theorem flK_rehd {L:Nat} (ks:List (Kid L)):flK (rehd ks)=flK ks:=by
 cases ks with
 | nil=>rfl
 | cons a r=>rw [rehd,flK_cons,flK_cons]
theorem pgK_rehd {L:Nat} (ks:List (Kid L)):pgK (rehd ks)=pgK ks:=by
 cases ks with
 | nil=>rfl
 | cons a r=>rw [rehd,pgK_cons,pgK_cons]
theorem szK_rehd {L:Nat} (ks:List (Kid L)):szK (rehd ks)≤szK ks:=by
 cases ks with
 | nil=>exact Nat.le_refl _
 | cons a r=>rw [rehd,szK_cons,szK_cons];simp
theorem chn_rehd {L:Nat} {ks:List (Kid L)} (h:Chn Far ks):Chn Far (rehd ks):=by
 cases ks with
 | nil=>trivial
 | cons a r=>exact h.first fun u hu=>hu
theorem empty_flat {L:Nat} {c:Tr L} (h:c.ens=[]):c.flat=[]∧c.pages=[c.page]:=by
 cases L with
 | zero=>exact ⟨h,rfl⟩
 | succ L =>
  rw [ens_node,List.map_eq_nil_iff] at h
  rw [flat_node,pages_node,h]
  exact ⟨rfl,rfl⟩
structure FitPre {L:Nat} (A:List (Kid L)) (k:List UInt8) (c:Tr L) (B:List (Kid L)) (had:Nat):Prop where
 keys:KeysOk (A++(k,c) :: B)
 left:∀ x ∈ A,Tidy x.2
 right:∀ x ∈ B,Tidy x.2
 mid:Loose c∧1≤c.page∧c.page < 4096
 chl:Chn Far A
 chr:Chn Far B
 hadl:∀ A' a,A=A'++[a]→510 < a.2.size+had+sep L k
 hadr:∀ b B',B=b :: B'→510 < had+b.2.size+sep L b.1
 none_:c.ens=[]→had≤if L=0 then 130 else 4
structure FitOk {L:Nat} (ks ks':List (Kid L)) (born dead:List Nat):Prop where
 tidy:TidyK ks'
 chn:Chn Far ks'
 same:∀ lo hi,OrdK lo ks hi→flK ks'=flK ks∧OrdK lo ks' hi
 perm:(pgK ks'++dead).Perm (pgK ks++born)
 size:szK ks'≤szK ks+100
 none_:ks'=[]→szK ks≤4
theorem joinM_ok {L:Nat} {A:List (Kid L)} {x:Kid L} {R ks':List (Kid L)} {d:List Nat} (ht:TidyK (A++x :: R)) (hA:Chn Far A) (hR:Chn Far (x :: R)) (h:JoinM (A++x :: R) A.length ks' d) :
  TidyK ks'∧Chn Far ks'∧SameK (A++x :: R) ks' [] d∧szK ks'≤szK (A++x :: R)∧ks'≠[]:=by
 rcases List.eq_nil_or_concat A with rfl | ⟨A,a,rfl⟩
 ·obtain ⟨rfl,rfl⟩:=h
  exact ⟨ht,hR,SameK.refl _,Nat.le_refl _,by simp⟩
 ·rw [List.concat_eq_append] at *
  have hj:JoinR (A++a :: x :: R) A.length ks' d:=by
   have:(A++[a]).length=A.length+1:=by simp
   rw [this] at h
   have h':JoinR (A++[a]++x :: R) A.length ks' d:=h
   simpa using h'
  have ht':TidyK (A++a :: x :: R):=by simpa using ht
  have hc:=joinR_chn ht' hA hR hj
  have he:A++[a]++x :: R=A++a :: x :: R:=by simp
  rw [he]
  rcases joinR_ok ht' hj with ⟨_,rfl,rfl⟩ | ⟨_,m,rfl,_,_,_,h3,h4,h5⟩
  ·exact ⟨ht',hc,SameK.refl _,Nat.le_refl _,by simp⟩
  ·exact ⟨h3,hc,h4,by omega,by simp⟩
theorem joinA_ok {L:Nat} {A:List (Kid L)} {x:Kid L} {B ks':List (Kid L)} {d:List Nat} (ht:TidyK (A++x :: B)) (hB:Chn Far B) (h:JoinR (A++x :: B) A.length ks' d) :
  ∃ m R,ks'=A++(x.1,m) :: R∧TidyK ks'∧Chn Far ((x.1,m) :: R)∧x.2.size≤m.size∧SameK (A++x :: B) ks' [] d∧szK ks'≤szK (A++x :: B):=by
 cases B with
 | nil =>
  obtain ⟨rfl,rfl⟩:=joinR_end (by simp) h
  exact ⟨x.2,[],rfl,ht,trivial,Nat.le_refl _,SameK.refl _,Nat.le_refl _⟩
 | cons b B =>
  rcases joinR_ok ht h with ⟨hf,rfl,rfl⟩ | ⟨_,m,rfl,_,hl,hr,h3,h4,h5⟩
  ·exact ⟨x.2,b :: B,rfl,ht,⟨hf,hB⟩,Nat.le_refl _,SameK.refl _,Nat.le_refl _⟩
  ·exact ⟨m,B,rfl,h3,hB.first fun u hu=>by unfold Far at hu ⊢;simp only;omega,hl,h4,by omega⟩
theorem fit_ok {L:Nat} {A:List (Kid L)} {k:List UInt8} {c:Tr L} {B ks':List (Kid L)} {had:Nat} {born dead:List Nat} (hp:FitPre A k c B had) {lo0:List UInt8} {hi0:Option (List UInt8)} (hord:OrdK lo0 (A++(k,c) :: B) hi0) (h:FitR A k c B had ks' born dead) :
  FitOk (A++(k,c) :: B) ks' born dead:=by
 have hk:=hp.keys
 have hBk:=keysOk_tail hk
 have hsk:sep L k≤96:=by
  unfold sep
  split
  ·omega
  ·cases A with
   | nil=>have:=hk.1;simp only at this;simp [this]
   | cons a A=>exact (hk.2 (k,c) (by simp)).2
 rcases h with ⟨he,rfl,rfl,rfl⟩ | ⟨hs,p,c1,k2,c2,ks1,d1,d2,hsp,hs1,hs2,hp1,hp2,hj1,hj2,rfl,rfl⟩ | ⟨hne,hs,hlt,ks1,d1,d2,hj1,hj2,rfl,rfl⟩ | ⟨hne,hs,hge,rfl,rfl,rfl⟩
 ·
  obtain ⟨hfl,hpg⟩:=empty_flat he
  have hn:=hp.none_ he
  refine ⟨⟨?_,?_⟩,?_,?_,?_,?_,?_⟩
  ·cases A with
   | nil =>
    cases B with
    | nil=>trivial
    | cons b B=>exact ⟨rfl,fun x hx=>hBk x (by simp [hx])⟩
   | cons a A=>exact ⟨rfl,fun x hx=>by
     rcases List.mem_append.1 hx with hx | hx
     ·exact hk.2 x (by simp [hx])
     ·exact hBk x hx⟩
  ·intro x hx
   have hall:∀ x ∈ A++B,Tidy x.2:=fun x hx=>(List.mem_append.1 hx).elim (hp.left x) (hp.right x)
   generalize A++B=l at hall hx
   cases l with
   | nil=>cases hx
   | cons a r =>
    rcases List.mem_cons.1 hx with rfl | hx
    ·exact hall a (by simp)
    ·exact hall x (by simp [hx])
  ·refine chn_rehd ?_
   rcases List.eq_nil_or_concat A with rfl | ⟨A',a,rfl⟩
   ·exact hp.chr
   ·rw [List.concat_eq_append] at *
    cases B with
    | nil=>rw [List.append_nil];exact hp.chl
    | cons b B =>
     rw [List.append_assoc,List.singleton_append,Chn.two]
     refine ⟨hp.chl,?_,hp.chr⟩
     have h1:=hp.hadl A' a rfl
     have h2:=hp.hadr b B rfl
     unfold Far
     unfold sep at h1 h2 hsk ⊢
     split at hn <;> simp_all <;> omega
  ·intro lo hi ho
   rw [ordK_mid] at ho
   refine ⟨by rw [flK_rehd,flK_app,flK_app,flK_cons,hfl];simp,?_⟩
   have hbc:=ho.2.1.bd
   cases A with
   | nil =>
    cases B with
    | nil=>trivial
    | cons b B=>exact ordK_lower ho.2.2 (hbc _ rfl).le
   | cons a A =>
    refine ordK_rehd ?_
    cases B with
    | nil=>rw [List.append_nil];exact ordK_upper ho.1 fun x hx=>⟨k,rfl,(hbc x hx).le⟩
    | cons b B =>
     have h2:=ordK_cons.1 ho.2.2
     rw [ordK_mid]
     exact ⟨ordK_upper ho.1 fun x hx=>⟨k,rfl,(hbc x hx).le⟩,h2.1,h2.2⟩
  ·rw [pgK_rehd,pgK_app,pgK_app,pgK_cons,hpg,List.perm_iff_count]
   intro q
   simp only [List.count_append,List.count_cons,List.count_nil];omega
  ·have h1:=szK_rehd (A++B)
   rw [szK_app] at h1
   rw [szK_app,szK_cons];omega
  ·intro h0
   cases A with
   | nil =>
    cases B with
    | nil=>have h1:=hk.1;simp only at h1;rw [List.nil_append,szK_cons,szK_nil,h1];simp
    | cons b B=>cases h0
   | cons a A=>cases h0
 ·
  have ho:=(ordK_mid _ _ _).1 hord
  have hS:=split_ok hp.mid.1 ho.2.1 hsp
  have ht1:Tidy c1:=⟨hS.left,hS.ne.1,hs1,by rw [hS.page.1];exact hp.mid.2.1,by rw [hS.page.1];exact hp.mid.2.2⟩
  have ht2:Tidy c2:=⟨hS.right,hS.ne.2,hs2,by rw [hS.page.2];exact hp1,by rw [hS.page.2];exact hp2⟩
  have hT:TidyK (A++(k,c1) :: (k2,c2) :: B):=by
   refine ⟨keysOk_sub (t:=c1) hk fun x hx=>?_,fun x hx=>?_⟩
   ·rcases List.mem_cons.1 hx with rfl | hx
    ·exact hS.key
    ·exact hBk x hx
   ·simp only [List.mem_append,List.mem_cons] at hx
    rcases hx with hx | rfl | rfl | hx
    ·exact hp.left x hx
    ·exact ht1
    ·exact ht2
    ·exact hp.right x hx
  have h12:Far (k,c1) (k2,c2):=by have:=hS.size;unfold Far;simp only;omega
  have hS0:∀ lo hi,OrdK lo (A++(k,c) :: B) hi→flK (A++(k,c1) :: (k2,c2) :: B)=flK (A++(k,c) :: B)∧OrdK lo (A++(k,c1) :: (k2,c2) :: B) hi:=by
   intro lo hi h
   rw [ordK_mid] at h
   have h2:=hS.ord _ _ h.2.1
   refine ⟨by rw [flK_app,flK_app,flK_cons,flK_cons,flK_cons,hS.flat];simp,?_⟩
   rw [ordK_mid,ordK_cons]
   exact ⟨h.1,h2.1,h2.2,h.2.2⟩
  have e1:A++(k,c1) :: (k2,c2) :: B=(A++[(k,c1)])++(k2,c2) :: B:=by simp
  have hj1':JoinR ((A++[(k,c1)])++(k2,c2) :: B) (A++[(k,c1)]).length ks1 d1:=by
   rw [← e1,List.length_append,List.length_singleton];exact hj1
  obtain ⟨m,R,hks1,hT1,hc1,hm1,hsame1,hsz1⟩:=joinA_ok (e1 ▸ hT) hp.chr hj1'
  have e2:ks1=A++(k,c1) :: ((k2,m) :: R):=by rw [hks1];simp
  have hc2:Chn Far ((k,c1) :: (k2,m) :: R):=⟨by unfold Far at h12 ⊢;simp only at h12 hm1 ⊢;omega,hc1⟩
  rw [e2] at hj2 hT1
  obtain ⟨hT2,hch2,hsame2,hsz2,hne2⟩:=joinM_ok hT1 hp.chl hc2 hj2
  rw [← e2] at hsame2 hsz2
  rw [← e1] at hsame1 hsz1
  have hkl:k2.length≤96:=hS.key.2
  have hsz0:szK (A++(k,c1) :: (k2,c2) :: B)=szK (A++(k,c) :: B)+(4+k2.length):=by rw [szK_app,szK_app,szK_cons,szK_cons,szK_cons];simp only;omega
  refine ⟨hT2,hch2,fun lo hi h=>?_,?_,by omega,fun h=>absurd h hne2⟩
  ·obtain ⟨f1,o1⟩:=hS0 lo hi h
   exact ⟨by rw [hsame2.flat,hsame1.flat,f1],hsame2.ord _ _ (hsame1.ord _ _ o1)⟩
  ·have p1:=(hsame1.trans hsame2).perm
   have p2:=hS.perm
   rw [List.perm_iff_count] at p1 p2 ⊢
   intro q
   have a1:=p1 q;have a2:=p2 q
   rw [pgK_app,pgK_cons,pgK_cons] at a1
   rw [pgK_app,pgK_cons]
   simp only [List.count_append,List.count_cons,List.count_nil] at a1 a2 ⊢
   omega
 ·
  have hT:TidyK (A++(k,c) :: B):=by
   refine ⟨hk,fun x hx=>?_⟩
   simp only [List.mem_append,List.mem_cons] at hx
   rcases hx with hx | rfl | hx
   ·exact hp.left x hx
   ·exact ⟨hp.mid.1,hne,hs,hp.mid.2⟩
   ·exact hp.right x hx
  obtain ⟨m,R,hks1,hT1,hc1,hm1,hsame1,hsz1⟩:=joinA_ok hT hp.chr hj1
  rw [hks1] at hj2 hT1
  obtain ⟨hT2,hch2,hsame2,hsz2,hne2⟩:=joinM_ok hT1 hp.chl hc1 hj2
  rw [← hks1] at hsame2 hsz2
  refine ⟨hT2,hch2,fun lo hi h=>⟨by rw [hsame2.flat,hsame1.flat],hsame2.ord _ _ (hsame1.ord _ _ h)⟩,?_,by omega,fun h=>absurd h hne2⟩
  have:=(hsame1.trans hsame2).perm
  simpa using this
 ·
  refine ⟨⟨hk,fun x hx=>?_⟩,?_,fun lo hi h=>⟨rfl,h⟩,by simp,by omega,fun h=>by simp at h⟩
  ·simp only [List.mem_append,List.mem_cons] at hx
   rcases hx with hx | rfl | hx
   ·exact hp.left x hx
   ·exact ⟨hp.mid.1,hne,hs,hp.mid.2⟩
   ·exact hp.right x hx
  ·rw [Chn.mid]
   refine ⟨?_,?_⟩
   ·rcases List.eq_nil_or_concat A with rfl | ⟨A',a,rfl⟩
    ·trivial
    ·rw [List.concat_eq_append] at *
     rw [List.append_assoc,List.singleton_append,Chn.two]
     refine ⟨hp.chl,?_,trivial⟩
     have:=hp.hadl A' a rfl
     unfold Far;simp only;omega
   ·cases B with
    | nil=>trivial
    | cons b B =>
     refine ⟨?_,hp.chr⟩
     have:=hp.hadr b B rfl
     unfold Far;simp only;omega
def Tr.np {L:Nat} (t:Tr L):Nat:=t.pages.length
def Tr.nk {L:Nat} (t:Tr L):Nat:=t.flat.length
def npK {L:Nat} (ks:List (Kid L)):Nat:=(pgK ks).length
def nkK {L:Nat} (ks:List (Kid L)):Nat:=(flK ks).length
theorem npK_cons {L:Nat} (a:Kid L) (r:List (Kid L)):npK (a :: r)=a.2.np+npK r:=by simp [npK,pgK_cons,Tr.np]
theorem nkK_cons {L:Nat} (a:Kid L) (r:List (Kid L)):nkK (a :: r)=a.2.nk+nkK r:=by simp [nkK,flK_cons,Tr.nk]
theorem np_node {L:Nat} (t:Tr (L+1)):t.np=1+npK t.ks:=by simp [Tr.np,pages_node,npK];omega
theorem nk_node {L:Nat} (t:Tr (L+1)):t.nk=nkK t.ks:=rfl
theorem np_leaf (t:Tr 0):t.np=1:=rfl
theorem nk_leaf (t:Tr 0):t.nk=t.es.length:=rfl
theorem szE_okL {l:List En} (h:∀ e ∈ l,okL e):szE l≤130*l.length:=by
 induction l with
 | nil=>simp [szE]
 | cons e r ih =>
  have h1:=h e (by simp)
  have h2:=ih (fun x hx=>h x (by simp [hx]))
  simp only [szE,En.size,List.length_cons]
  unfold okL at h1;omega
theorem szK_le {L:Nat} {ks:List (Kid L)} (h:∀ x ∈ ks,x.1.length≤96):szK ks≤100*ks.length:=by
 induction ks with
 | nil=>simp [szK_nil]
 | cons a r ih =>
  have h1:=h a (by simp)
  have h2:=ih (fun x hx=>h x (by simp [hx]))
  rw [szK_cons,List.length_cons];omega
theorem keysOk_le {L:Nat} {ks:List (Kid L)} (h:KeysOk ks):∀ x ∈ ks,x.1.length≤96:=by
 cases ks with
 | nil=>intro x hx;cases hx
 | cons a r =>
  intro x hx
  rcases List.mem_cons.1 hx with rfl | hx
  ·rw [h.1];simp
  ·exact (h.2 x hx).2
theorem far_leaf {a b:Kid 0} (ha:Tidy a.2) (hb:Tidy b.2) (h:Far a b):4≤a.2.nk+b.2.nk:=by
 have h1:=szE_okL (l:=a.2.es) ha.1
 have h2:=szE_okL (l:=b.2.es) hb.1
 unfold Far at h
 rw [size_leaf,size_leaf] at h
 rw [nk_leaf,nk_leaf]
 simp [sep] at h
 omega
theorem far_node {L:Nat} {a b:Kid (L+1)} (ha:Tidy a.2) (hb:Tidy b.2) (hk:b.1.length≤96) (h:Far a b):6≤a.2.ks.length+b.2.ks.length:=by
 have h1:=szK_le (keysOk_le (loose_node.1 ha.1).1.1)
 have hbk:=(loose_node.1 hb.1).1.1
 unfold Far at h
 rw [size_node,size_node] at h
 simp [sep] at h
 have hne:=ens_ne.1 hb.2.1
 cases hb':b.2.ks with
 | nil=>exact absurd hb' hne
 | cons u r =>
  rw [hb'] at hbk h
  have h2:=szK_le (ks:=r) (fun x hx=>(hbk.2 x hx).2)
  rw [szK_cons,hbk.1] at h
  simp only [List.length_nil,List.length_cons] at h ⊢
  omega
theorem pairs {L:Nat} {N K:Kid L→Nat} {u v p:Nat} (h1:∀ x:Kid L,Tidy x.2→N x+1≤K x+u) (h2:∀ x y:Kid L,Tidy x.2→Tidy y.2→y.1.length≤96→Far x y→N x+N y+p≤K x+K y) (hv:v=u) :
  ∀ ks:List (Kid L),(∀ x ∈ ks,Tidy x.2)→(∀ x ∈ ks,x.1.length≤96)→Chn Far ks→(ks.map N).sum+(ks.length / 2)*p+(ks.length % 2)≤(ks.map K).sum+(ks.length % 2)*v
 | [],_,_,_=>by simp
 | [x],ht,_,_=>by have:=h1 x (ht x (by simp));simp;omega
 | x :: y :: r,ht,hk,hc=>by
  have ih:=pairs h1 h2 hv r (fun z hz=>ht z (by simp [hz])) (fun z hz=>hk z (by simp [hz])) hc.2.tail
  have:=h2 x y (ht x (by simp)) (ht y (by simp)) (hk y (by simp)) hc.1
  simp only [List.map_cons,List.sum_cons,List.length_cons]
  have e1:(r.length+1+1) / 2=r.length / 2+1:=by omega
  have e2:(r.length+1+1) % 2=r.length % 2:=by omega
  rw [e1,e2,Nat.add_mul]
  omega
theorem npK_sum {L:Nat} (ks:List (Kid L)):(ks.map fun k=>k.2.np).sum=npK ks:=by
 induction ks with
 | nil=>rfl
 | cons a r ih=>rw [npK_cons,List.map_cons,List.sum_cons,ih]
theorem nkK_sum {L:Nat} (ks:List (Kid L)):(ks.map fun k=>2*k.2.nk).sum=2*nkK ks:=by
 induction ks with
 | nil=>rfl
 | cons a r ih=>rw [nkK_cons,List.map_cons,List.sum_cons,ih];omega
theorem count_both (L:Nat):(∀ x:Kid L,Tidy x.2→x.2.np+1≤2*x.2.nk+L)∧(∀ x y:Kid L,Tidy x.2→Tidy y.2→y.1.length≤96→Far x y→x.2.np+y.2.np+(6+4*L)≤2*x.2.nk+2*y.2.nk):=by
 induction L with
 | zero =>
  refine ⟨fun x hx=>?_,fun x y hx hy _ hf=>?_⟩
  ·rw [np_leaf,nk_leaf]
   have:x.2.es≠[]:=hx.2.1
   have:=List.length_pos_iff.2 this
   omega
  ·have:=far_leaf hx hy hf
   rw [np_leaf,np_leaf]
   omega
 | succ L ih =>
  have hp:=fun (t:Tr (L+1)) (ht:Tidy t)=>pairs (N:=fun k:Kid L=>k.2.np) (K:=fun k:Kid L=>2*k.2.nk) (u:=L) (v:=L) (p:=6+4*L) ih.1 ih.2 rfl t.ks (loose_node.1 ht.1).1.2 (keysOk_le (loose_node.1 ht.1).1.1) (loose_node.1 ht.1).2
  refine ⟨fun x hx=>?_,fun x y hx hy hk hf=>?_⟩
  ·have h1:=hp x.2 hx
   rw [npK_sum,nkK_sum] at h1
   rw [np_node,nk_node]
   have hl:=List.length_pos_iff.2 (ens_ne.1 hx.2.1)
   generalize x.2.ks.length=n at h1 hl
   rcases Nat.mod_two_eq_zero_or_one n with h2 | h2
   ·rw [h2] at h1
    have h3:1*(6+4*L)≤n / 2*(6+4*L):=Nat.mul_le_mul_right _ (by omega)
    omega
   ·rw [h2] at h1
    have h3:0≤n / 2*(6+4*L):=Nat.zero_le _
    omega
  ·have h1:=hp x.2 hx
   have h2:=hp y.2 hy
   have h6:=far_node hx hy hk hf
   rw [npK_sum,nkK_sum] at h1 h2
   rw [np_node,nk_node,np_node,nk_node]
   generalize x.2.ks.length=n at h1 h6
   generalize y.2.ks.length=m at h2 h6
   have h3:(n / 2+m / 2)*(6+4*L)=n / 2*(6+4*L)+m / 2*(6+4*L):=Nat.add_mul _ _ _
   rcases Nat.mod_two_eq_zero_or_one n with a1 | a1 <;> rcases Nat.mod_two_eq_zero_or_one m with a2 | a2 <;> rw [a1] at h1 <;> rw [a2] at h2
   ·have h4:3*(6+4*L)≤(n / 2+m / 2)*(6+4*L):=Nat.mul_le_mul_right _ (by omega)
    omega
   ·have h4:3*(6+4*L)≤(n / 2+m / 2)*(6+4*L):=Nat.mul_le_mul_right _ (by omega)
    omega
   ·have h4:3*(6+4*L)≤(n / 2+m / 2)*(6+4*L):=Nat.mul_le_mul_right _ (by omega)
    omega
   ·have h4:2*(6+4*L)≤(n / 2+m / 2)*(6+4*L):=Nat.mul_le_mul_right _ (by omega)
    omega
theorem high_both (L:Nat):∀ x y:Kid L,Tidy x.2→Tidy y.2→y.1.length≤96→Far x y→2 ^ (L+1)≤x.2.np+y.2.np:=by
 induction L with
 | zero=>intro x y _ _ _ _;rw [np_leaf,np_leaf];omega
 | succ L ih =>
  have hp:=fun (t:Tr (L+1)) (ht:Tidy t)=>pairs (N:=fun _:Kid L=>0) (K:=fun k:Kid L=>k.2.np) (u:=1) (v:=1) (p:=2 ^ (L+1)) (fun x _=>by omega) (fun x y hx hy hk hf=>by have:=ih x y hx hy hk hf;omega) rfl t.ks (loose_node.1 ht.1).1.2 (keysOk_le (loose_node.1 ht.1).1.1) (loose_node.1 ht.1).2
  intro x y hx hy hk hf
  have h1:=hp x.2 hx
  have h2:=hp y.2 hy
  have h6:=far_node hx hy hk hf
  rw [npK_sum] at h1 h2
  rw [np_node,np_node]
  generalize x.2.ks.length=n at h1 h6
  generalize y.2.ks.length=m at h2 h6
  have h3:(n / 2+m / 2)*2 ^ (L+1)=n / 2*2 ^ (L+1)+m / 2*2 ^ (L+1):=Nat.add_mul _ _ _
  have h4:2*2 ^ (L+1)≤(n / 2+m / 2)*2 ^ (L+1):=Nat.mul_le_mul_right _ (by omega)
  rw [Nat.pow_succ 2 (L+1)]
  omega
def Root {L:Nat} (t:Tr L):Prop:=Tidy t∧(0 < L→2≤t.ens.length)
theorem Root.np {L:Nat} {t:Tr L} (h:Root t):t.np≤2*t.nk:=by
 cases L with
 | zero =>
  have:=(count_both 0).1 ([],t) h.1
  simp only at this;omega
 | succ L =>
  have ht:=h.1
  have h2:=h.2 (by omega)
  have h1:=pairs (N:=fun k:Kid L=>k.2.np) (K:=fun k:Kid L=>2*k.2.nk) (u:=L) (v:=L) (p:=6+4*L) (count_both L).1 (count_both L).2 rfl t.ks (loose_node.1 ht.1).1.2 (keysOk_le (loose_node.1 ht.1).1.1) (loose_node.1 ht.1).2
  rw [npK_sum,nkK_sum] at h1
  rw [np_node,nk_node]
  rw [ens_node,List.length_map] at h2
  generalize t.ks.length=n at h1 h2
  have h3:1*(6+4*L)≤n / 2*(6+4*L):=Nat.mul_le_mul_right _ (by omega)
  rcases Nat.mod_two_eq_zero_or_one n with a1 | a1 <;> rw [a1] at h1 <;> omega
theorem Root.high {L:Nat} {t:Tr L} (h:Root t):2 ^ L≤t.np:=by
 cases L with
 | zero=>rw [np_leaf];omega
 | succ L =>
  have ht:=h.1
  have h2:=h.2 (by omega)
  have hk:=keysOk_le (loose_node.1 ht.1).1.1
  have hc:=(loose_node.1 ht.1).2
  have htt:=(loose_node.1 ht.1).1.2
  rw [np_node]
  rw [ens_node,List.length_map] at h2
  match hks:t.ks,h2 with
  | a :: b :: r,_ =>
   rw [hks] at hk hc htt
   have:=high_both L a b (htt a (by simp)) (htt b (by simp)) (hk b (by simp)) hc.1
   rw [npK_cons,npK_cons];omega
theorem nodup_4096 {l:List Nat} (h:l.Nodup) (hb:∀ q ∈ l,q < 4096):l.length≤4096:=by
 have:=List.Nodup.length_le_of_subset (l₁:=l) (l₂:=List.range 4096) h (fun q hq=>List.mem_range.2 (hb q hq))
 simpa using this
theorem Root.level {L:Nat} {t:Tr L} (h:Root t) (hn:t.pages.Nodup) (hb:∀ q ∈ t.pages,q < 4096):L≤12:=by
 have h1:=h.high
 have h2:=nodup_4096 hn hb
 have h3:t.np=t.pages.length:=rfl
 rcases Nat.lt_or_ge 12 L with h4 | h4
 ·have:2 ^ 13≤2 ^ L:=Nat.pow_le_pow_right (by omega) h4
  omega
 ·exact h4
end Go.Proofs.YtfbbjiidccbaiaaGreatDoor
