/- Texts of one proof, one behind the other: ZK, ZL. -/
import Derived.Test.YtfbbjiidccbaiaaGreatDoorMAW
import Derived.Deep.CutRange
import Derived.BigQuiet
set_option maxRecDepth 100000
namespace Go.Proofs.YtfbbjiidccbaiaaGreatDoor
open Go Go.RowKit
theorem hasE_ins (k v:List UInt8):∀ l:List En,hasE k (insE k v l)
 | []=>⟨_,List.mem_cons_self ..,rfl⟩
 | e :: r=>by
  unfold insE
  split
  ·obtain ⟨x,hx,he⟩:=hasE_ins k v r
   exact ⟨x,List.mem_cons_of_mem _ hx,he⟩
  ·split
   ·exact ⟨_,List.mem_cons_self ..,rfl⟩
   ·exact ⟨_,List.mem_cons_self ..,rfl⟩
theorem hasE_keep {q:List UInt8} (k v:List UInt8):∀ {l:List En},hasE q l→hasE q (insE k v l)
 | [],h=>by obtain ⟨_,hx,_⟩:=h;cases hx
 | e :: r,h=>by
  obtain ⟨x,hx,he⟩:=h
  unfold insE
  split
  ·rcases List.mem_cons.1 hx with rfl | hx
   ·exact ⟨x,List.mem_cons_self ..,he⟩
   ·obtain ⟨y,hy,hk⟩:=hasE_keep k v ⟨x,hx,he⟩
    exact ⟨y,List.mem_cons_of_mem _ hy,hk⟩
  ·split
   ·next hek =>
    rcases List.mem_cons.1 hx with rfl | hx
    ·exact ⟨⟨k,v⟩,List.mem_cons_self ..,by rw [← he,hek]⟩
    ·exact ⟨x,List.mem_cons_of_mem _ hx,he⟩
   ·exact ⟨x,List.mem_cons_of_mem _ hx,he⟩
def addK (F:List En) (x:ByteArray):List En:=putE x ⟨#[]⟩ F
def keysE (xs:List ByteArray) (k:Nat):List En:=(xs.take k).foldl addK []
theorem addK_len (F:List En) (x:ByteArray):(addK F x).length≤F.length+1:=stepE_len 1 x ⟨#[]⟩ F
theorem keysE_succ {xs:List ByteArray} {k:Nat} (hk:k < xs.length):keysE xs (k+1)=addK (keysE xs k) (xs[k]'hk):=by
 unfold keysE
 rw [List.take_succ_eq_append_getElem hk,List.foldl_append];rfl
theorem keysE_len (xs:List ByteArray):∀ k,k≤xs.length→(keysE xs k).length≤k
 | 0,_=>by simp [keysE]
 | k+1,h=>by
  rw [keysE_succ h]
  have h1:=addK_len (keysE xs k) (xs[k]'h)
  have h2:=keysE_len xs k (by omega)
  omega
theorem keysE_has {xs:List ByteArray} {i:Nat} (hi:i < xs.length) (hm:MayE (xs[i]'hi) ⟨#[]⟩=true):∀ k,k≤xs.length→i < k→hasE (xs[i]'hi).data.toList (keysE xs k)
 | 0,_,h=>by omega
 | k+1,hk,h=>by
  rw [keysE_succ hk]
  unfold addK putE
  rcases Nat.lt_or_ge i k with hl | hl
  ·have h1:=keysE_has hi hm k (by omega) hl
   split
   ·exact hasE_keep _ _ h1
   ·exact h1
  ·obtain rfl:i=k:=by omega
   rw [if_pos hm]
   exact hasE_ins _ _ _
def StpI (c:Ac) (tb:Nat) (w:World) (F:List En) (wr:World):Prop:=∃ S,TreeSt (JL [] []) w.heap.size S c tb 1 F U0 wr∧Below w.heap.size w wr
section
variable {c:Ac} {tb:Nat} {F:List En} {w wr:World}
theorem StpI.below {W:World} (I:StpI c tb w F wr) (hb:Below wr.heap.size wr W):StpI c tb w F W:=by
 obtain ⟨S,h1,h4⟩:=I
 exact ⟨S,h1.below hb,h4.trans (hb.mono h4.size)⟩
theorem StpI.to {F':List En} {W:World} (h4:Below w.heap.size w wr) {S:Nat→Prop} (h1:TreeSt (JL [] []) w.heap.size S c tb 1 F U0 wr) (h:StTo (JL [] []) w.heap.size S c tb 1 F' U0 wr W):StpI c tb w F' W:=by
 obtain ⟨S',q1,q2⟩:=h
 exact ⟨S',q1,h4.trans (q2.1.toBelow h4.size h1.low.1)⟩
theorem StpI.put (I:StpI c tb w F wr) (hC:∀ q,(c.C q).length=512) (hF:F.length≤1001) (key:ByteArray) :
  Calls Tryz.prog 35 #[.pointer (some ⟨tb,0,none⟩),.string key,.string ⟨#[]⟩] wr fun e w2=>∃ (b:Bool) (f:Int),e=.returned (.tuple #[.bool b,.int .i64 f])∧Hid (StpI c tb w (addK F key) w2):=by
 obtain ⟨S,h1,h4⟩:=I
 unfold addK putE
 by_cases hm:MayE key ⟨#[]⟩=true
 ·obtain ⟨m1,m2,m3⟩:=may_iff.1 hm
  rw [if_pos hm]
  refine (ts_put h1 (by omega) hC hF u0_ok key ⟨#[]⟩ m1 m2 m3).mono ?_
  rintro e w2 ⟨rfl,q⟩
  exact ⟨_,_,rfl,Lib.hid (StpI.to h4 h1 q)⟩
 ·rw [if_neg hm]
  obtain ⟨h,G,ps,a1,a2,a3,a4,a5⟩:=h1
  refine (put_bad a1 a2 (by omega) key ⟨#[]⟩ (by simpa using hm)).mono ?_
  rintro e w2 ⟨rfl,hb⟩
  exact ⟨_,_,rfl,Lib.hid (StpI.below ⟨S,⟨h,G,ps,a1,a2,a3,a4,a5⟩,h4⟩ hb)⟩
theorem StpI.awake (I:StpI c tb w F wr) (hT:Tab w):Calls Tryz.prog 27 #[] wr fun e w2=>e=.returned (.bool true)∧Below w.heap.size w w2:=by
 obtain ⟨S,h1,h4⟩:=I
 refine (tlaw_awake wr (hT.below h4 hT.1)).mono ?_
 rintro e w2 ⟨rfl,hb⟩
 exact ⟨rfl,h4.trans (hb.mono h4.size)⟩
theorem StpI.from (I:StpI c tb w F wr) (key:ByteArray):Calls Tryz.prog 36 #[.pointer (some ⟨tb,0,none⟩),.string key] wr fun e w2=>e=.returned (.tuple #[itV (nextE key.data.toList F),.bool (nextE key.data.toList F).isSome])∧StpI c tb w F w2:=by
 obtain ⟨S,h1,h4⟩:=I
 exact (ts_from h1 (by omega) key).mono fun e w2 ⟨he,q⟩=>⟨he,StpI.to h4 h1 q⟩
theorem StpI.next (I:StpI c tb w F wr) (key:ByteArray) (hk:key.size < 9223372036854775807):Calls Tryz.prog 37 #[.pointer (some ⟨tb,0,none⟩),.string key] wr fun e w2=>e=.returned (.tuple #[itV (nextE (key.data.toList++[0]) F),.bool (nextE (key.data.toList++[0]) F).isSome])∧StpI c tb w F w2:=by
 obtain ⟨S,h1,h4⟩:=I
 exact (ts_next h1 (by omega) key hk).mono fun e w2 ⟨he,q⟩=>⟨he,StpI.to h4 h1 q⟩
theorem StpI.prev (I:StpI c tb w F wr) (key:ByteArray):Calls Tryz.prog 38 #[.pointer (some ⟨tb,0,none⟩),.string key] wr fun e w2=>e=.returned (.tuple #[itV (prevE key.data.toList F),.bool (prevE key.data.toList F).isSome])∧StpI c tb w F w2:=by
 obtain ⟨S,h1,h4⟩:=I
 exact (ts_prev h1 (by omega) key).mono fun e w2 ⟨he,q⟩=>⟨he,StpI.to h4 h1 q⟩
theorem StpI.last (I:StpI c tb w F wr):Calls Tryz.prog 39 #[.pointer (some ⟨tb,0,none⟩)] wr fun e w2=>e=.returned (.tuple #[itV F.getLast?,.bool F.getLast?.isSome])∧StpI c tb w F w2:=by
 obtain ⟨S,h1,h4⟩:=I
 exact (ts_last h1 (by omega)).mono fun e w2 ⟨he,q⟩=>⟨he,StpI.to h4 h1 q⟩
def Is (key:ByteArray) (e:Ending):Prop:=∃ s2:ByteArray,e=.returned (.tuple #[.agg #[.string key,.string s2],.bool true])
theorem is_of {key:ByteArray} {o:Option En} {x:En} (ho:o=some x) (hx:x.key=key.data.toList):Is key (.returned (.tuple #[itV o,.bool o.isSome])):=by
 subst ho
 refine ⟨⟨x.val.toArray⟩,?_⟩
 show Ending.returned (.tuple #[.agg #[.string ⟨x.key.toArray⟩,.string ⟨x.val.toArray⟩],.bool true])=_
 rw [hx]
theorem StpI.steps (I:StpI c tb w F wr) (key:ByteArray) (hk:key.size < 9223372036854775807) (hh:hasE key.data.toList F) :
  Calls Tryz.prog 36 #[.pointer (some ⟨tb,0,none⟩),.string key] wr (fun e w2=>Is key e∧Hid (StpI c tb w F w2)) ∧
  ∃ (s1 s2:ByteArray) (b:Bool),(∀ W,StpI c tb w F W→Calls Tryz.prog 37 #[.pointer (some ⟨tb,0,none⟩),.string key] W fun e w2=>e=.returned (.tuple #[.agg #[.string s1,.string s2],.bool b])∧Hid (StpI c tb w F w2)) ∧
   (b=true→∀ W,StpI c tb w F W→Calls Tryz.prog 38 #[.pointer (some ⟨tb,0,none⟩),.string s1] W fun e w2=>Is key e∧Hid (StpI c tb w F w2)) ∧
   (b=false→∀ W,StpI c tb w F W→Calls Tryz.prog 39 #[.pointer (some ⟨tb,0,none⟩)] W fun e w2=>Is key e∧Hid (StpI c tb w F w2)):=by
 have hs:Srt F:=by obtain ⟨S,h1,_⟩:=I;exact h1.srt
 obtain ⟨x,hx,hkx⟩:=hh
 obtain ⟨j,hj,hjx⟩:=List.mem_iff_getElem.1 hx
 have hF:F[j]? = some x:=by rw [List.getElem?_eq_getElem hj,hjx]
 have hc:cntE key.data.toList F=j:=by rw [← hkx];exact cntE_self hs hF
 refine ⟨?_,?_⟩
 ·refine (I.from key).mono ?_
  rintro e w2 ⟨rfl,q⟩
  exact ⟨is_of (by unfold nextE;rw [hc,hF]) hkx,Lib.hid q⟩
 ·have hn:nextE (key.data.toList++[0]) F=F[j+1]?:=by rw [← hkx];exact next_at hs hF
  cases hy:F[j+1]? with
  | some y =>
   rw [hy] at hn
   refine ⟨⟨y.key.toArray⟩,⟨y.val.toArray⟩,true,fun W IW=>(IW.next key hk).mono ?_,fun _ W IW=>(IW.prev _).mono ?_,fun h=>by cases h⟩
   ·rintro e w2 ⟨rfl,q⟩
    rw [hn]
    exact ⟨rfl,Lib.hid q⟩
   ·rintro e w2 ⟨rfl,q⟩
    refine ⟨is_of ?_ hkx,Lib.hid q⟩
    show prevE y.key F=some x
    rw [prev_at hs hy,if_neg (by omega)]
    exact hF
  | none =>
   rw [hy] at hn
   refine ⟨⟨#[]⟩,⟨#[]⟩,false,fun W IW=>(IW.next key hk).mono ?_,fun h=>(by cases h),fun _ W IW=>IW.last.mono ?_⟩
   ·rintro e w2 ⟨rfl,q⟩
    rw [hn]
    exact ⟨rfl,Lib.hid q⟩
   ·rintro e w2 ⟨rfl,q⟩
    refine ⟨is_of ?_ hkx,Lib.hid q⟩
    have h1:=List.getElem?_eq_none_iff.1 hy
    rw [List.getLast?_eq_getElem?,show F.length - 1=j by omega]
    exact hF
theorem StpI.prev_item (I:StpI c tb w F wr) (key x1 x2:ByteArray):Calls Tryz.prog 38 #[.pointer (some ⟨tb,0,none⟩),.string key] (wr.alloc (.cells #[.string x1,.string x2] 89)) fun e w2=>e=.returned (.tuple #[itV (prevE key.data.toList F),.bool (prevE key.data.toList F).isSome])∧w2.cell? ⟨wr.heap.size,0,none⟩=some (.string x1)∧wr.heap.size < w2.heap.size∧StpI c tb w F w2:=by
 obtain ⟨S,h1,h4⟩:=I
 have hb:Below wr.heap.size wr (wr.alloc (.cells #[.string x1,.string x2] 89)):=(Below.refl _ _).alloc (Nat.le_refl _) _
 have hn:=heap_alloc_new wr (.cells #[.string x1,.string x2] 89)
 have hz:(wr.alloc (.cells #[.string x1,.string x2] 89)).heap.size=wr.heap.size+1:=by simp
 have hS:¬ S wr.heap.size:=fun hs=>by
  obtain ⟨h,G,ps,a1,_⟩:=h1
  have:=(a1.low _ hs).2;omega
 refine (ts_prev (h1.below hb) (by omega) key).mono ?_
 rintro e w2 ⟨he,q⟩
 refine ⟨he,?_,?_,StpI.to (h4.trans (hb.mono h4.size)) (h1.below hb) q⟩
 ·obtain ⟨S',q1,q2⟩:=q
  rw [Lib.cell_of_heap ((q2.1.block wr.heap.size (by omega) hS).trans hn)];rfl
 ·obtain ⟨S',q1,q2⟩:=q
  have:=q2.1.size;omega
theorem StpI.around (I:StpI c tb w F wr) (at_:ByteArray) :
  ∃ (x1 x2:ByteArray) (b:Bool) (y1 y2:ByteArray) (d:Bool),
   Calls Tryz.prog 36 #[.pointer (some ⟨tb,0,none⟩),.string at_] wr (fun e w2=>e=.returned (.tuple #[.agg #[.string x1,.string x2],.bool b])∧Hid (StpI c tb w F w2)) ∧
   (∀ w3,StpI c tb w F w3→Calls Tryz.prog 38 #[.pointer (some ⟨tb,0,none⟩),.string at_] (w3.alloc (.cells #[.string x1,.string x2] 89)) fun e w2=>e=.returned (.tuple #[.agg #[.string y1,.string y2],.bool d])∧w2.cell? ⟨w3.heap.size,0,none⟩=some (.string x1)∧w3.heap.size < w2.heap.size∧Hid (StpI c tb w F w2)) ∧
   (b=true→Op.bytesLess x1.toList at_.toList=false)∧(d=true→Op.bytesLess y1.toList at_.toList=true)∧(b=true→d=true→Op.bytesLess y1.toList x1.toList=true):=by
 have hs:Srt F:=by obtain ⟨S,h1,_⟩:=I;exact h1.srt
 obtain ⟨x1,x2,b,e1,e2⟩:=itV_form (nextE at_.data.toList F)
 obtain ⟨y1,y2,d,e3,e4⟩:=itV_form (prevE at_.data.toList F)
 have hx:b=true→∃ x,F[cntE at_.data.toList F]? = some x∧x1=⟨x.key.toArray⟩:=fun hb=>by
  subst hb
  unfold nextE at e1 e2
  cases ho:F[cntE at_.data.toList F]? with
  | none=>rw [ho] at e2;cases e2
  | some x =>
   rw [ho] at e1
   injection e1 with h1
   simp at h1
   exact ⟨x,rfl,h1.1.symm⟩
 have hy:d=true→∃ y,0 < cntE at_.data.toList F∧F[cntE at_.data.toList F - 1]? = some y∧y1=⟨y.key.toArray⟩:=fun hb=>by
  subst hb
  unfold prevE at e3 e4
  split at e3
  ·next h0=>rw [if_pos h0] at e4;cases e4
  ·next h0 =>
   rw [if_neg h0] at e4
   cases ho:F[cntE at_.data.toList F - 1]? with
   | none=>rw [ho] at e4;cases e4
   | some y =>
    rw [ho] at e3
    injection e3 with h1
    simp at h1
    exact ⟨y,by omega,rfl,h1.1.symm⟩
 refine ⟨x1,x2,b,y1,y2,d,(I.from at_).mono ?_,fun w3 I3=>(I3.prev_item at_ x1 x2).mono ?_,fun hb=>?_,fun hd=>?_,fun hb hd=>?_⟩
 ·rintro e w2 ⟨rfl,q⟩;rw [e1,e2];exact ⟨rfl,Lib.hid q⟩
 ·rintro e w2 ⟨rfl,q1,q2,q⟩;rw [e3,e4];exact ⟨rfl,q1,q2,Lib.hid q⟩
 ·obtain ⟨x,h1,rfl⟩:=hx hb
  have:=mt (cntE_at h1 (Nat.le_refl _)).1 (Nat.lt_irrefl _)
  rw [ByteArray.toList_eq,ByteArray.toList_eq]
  simpa [lt] using this
 ·obtain ⟨y,h0,h1,rfl⟩:=hy hd
  have:=(cntE_at h1 (Nat.sub_le _ _)).2 (by omega)
  rw [ByteArray.toList_eq,ByteArray.toList_eq]
  exact this
 ·obtain ⟨x,h1,rfl⟩:=hx hb
  obtain ⟨y,h0,h2,rfl⟩:=hy hd
  rw [ByteArray.toList_eq,ByteArray.toList_eq]
  rw [show cntE at_.data.toList F=cntE at_.data.toList F - 1+1 by omega] at h1
  exact Chn.at_ hs h2 h1
end
def Txs (w:World) (a:Option Addr) (xs:List ByteArray):Prop :=
 xs=[]∨∃ b off,a=some ⟨b,off,none⟩∧b < w.heap.size∧∀ j (h:j < xs.length),w.cell? ⟨b,off+j,none⟩=some (.string (xs[j]'h))
theorem Txs.at_ {w:World} {a:Option Addr} {xs:List ByteArray} (h:Txs w a xs) {k:Nat} (hk:k < xs.length):∃ b off,a=some ⟨b,off,none⟩∧∀ W,Below w.heap.size w W→W.cell? ⟨b,off+k,none⟩=some (.string (xs[k]'hk)):=by
 rcases h with h | ⟨b,off,ha,hbw,hc⟩
 ·rw [h] at hk;simp at hk
 ·exact ⟨b,off,ha,fun W hb=>(hb.cell hbw).trans (hc k hk)⟩
theorem item_new (w:World) (s1 s2:ByteArray):∃ (W:World) (X:Nat),W=w.alloc (.cells #[.string s1,.string s2] 89)∧X=w.heap.size∧W.cell? ⟨X,0,none⟩=some (.string s1)∧Below w.heap.size w W :=
 ⟨_,_,rfl,rfl,by rw [Lib.cell_of_heap (heap_alloc_new w _)];rfl,(Below.refl _ _).alloc (Nat.le_refl _) _⟩
theorem drawnB (w:World) (k:Nat):∃ W,W=w.drewN k∧Below w.heap.size w W:=⟨_,rfl,rfl,rfl,rfl,Nat.le_refl _,fun _ _=>rfl⟩
set_option maxHeartbeats 3200000 in
theorem treeSteps_walk (a:Option Addr) (xs:List ByteArray) (lc:Nat) (at_:ByteArray) (w:World) (hT:Tab w) (hS:Txs w a xs) (hks:∀ x ∈ xs,x.size < 9223372036854775807) :
  Calls Tryz.prog 8 #[.slice a xs.length lc,.string at_] w fun e w'=>e=.returned (.bool true)∧Below w.heap.size w w':=by
 have HT:=Lib.hid hT
 have HBG:=Lib.hid (begun_ok w hT)
 have H1:Hid (∀ c tb wr k,(∀ q,(c.C q).length=512)→xs.length≤300→StpI c tb w (keysE xs k) wr→k < xs.length→∃ (b off:Nat) (key:ByteArray),a=some ⟨b,off,none⟩∧wr.cell? ⟨b,off+k,none⟩=some (.string key) ∧
   Calls Tryz.prog 35 #[.pointer (some ⟨tb,0,none⟩),.string key,.string ⟨#[]⟩] wr fun e w2=>∃ (b:Bool) (f:Int),e=.returned (.tuple #[.bool b,.int .i64 f])∧Hid (StpI c tb w (keysE xs (k+1)) w2)):=Lib.hid fun c tb wr k hC hn I hk=>by
  obtain ⟨b,off,ha,hc⟩:=hS.at_ hk
  obtain ⟨S,h1,h4⟩:=I
  have hl:=keysE_len xs k (by omega)
  have:=StpI.put ⟨S,h1,h4⟩ hC (by omega) (xs[k]'hk)
  rw [← keysE_succ hk] at this
  exact ⟨b,off,_,ha,hc wr h4,this⟩
 have H2:Hid (∀ c tb wr k,StpI c tb w (keysE xs xs.length) wr→k < xs.length→∃ (b off:Nat) (key:ByteArray),a=some ⟨b,off,none⟩∧Hid (∀ W,StpI c tb w (keysE xs xs.length) W→W.cell? ⟨b,off+k,none⟩=some (.string key))∧(MayE key ⟨#[]⟩=true →
  Calls Tryz.prog 36 #[.pointer (some ⟨tb,0,none⟩),.string key] wr (fun e w2=>Is key e∧Hid (StpI c tb w (keysE xs xs.length) w2)) ∧
  ∃ (s1 s2:ByteArray) (b:Bool),(∀ W,StpI c tb w (keysE xs xs.length) W→Calls Tryz.prog 37 #[.pointer (some ⟨tb,0,none⟩),.string key] W fun e w2=>e=.returned (.tuple #[.agg #[.string s1,.string s2],.bool b])∧Hid (StpI c tb w (keysE xs xs.length) w2)) ∧
   (b=true→∀ W,StpI c tb w (keysE xs xs.length) W→Calls Tryz.prog 38 #[.pointer (some ⟨tb,0,none⟩),.string s1] W fun e w2=>Is key e∧Hid (StpI c tb w (keysE xs xs.length) w2)) ∧
   (b=false→∀ W,StpI c tb w (keysE xs xs.length) W→Calls Tryz.prog 39 #[.pointer (some ⟨tb,0,none⟩)] W fun e w2=>Is key e∧Hid (StpI c tb w (keysE xs xs.length) w2)))):=Lib.hid fun c tb wr k I hk=>by
  obtain ⟨b,off,ha,hc⟩:=hS.at_ hk
  exact ⟨b,off,_,ha,Lib.hid fun W IW=>hc W (by obtain ⟨S,h1,h4⟩:=IW;exact h4),fun hm=>I.steps _ (hks _ (List.getElem_mem hk)) (keysE_has hk hm _ (Nat.le_refl _) hk)⟩
 obtain ⟨n,hn⟩:∃ n,n=xs.length:=⟨_,rfl⟩
 rw [← hn] at H1 H2 ⊢
 clear hS hks hT hn
 go_enter Tryz.func8,Tryz.ntmps8
 go_wp2_with fail
 refine HBG.out.mono ?_
 rintro e w1 ⟨c,S,rfl,hf,hb1⟩
 have HF:=Lib.hid hf
 have HB1:=Lib.hid hb1
 clear HBG hf hb1
 by_cases hn1:n≤300
 case neg =>
  have f1:(300:Int) < (n:Int):=by omega
  have HAW:=Lib.hid (tlaw_awake w1 (HT.out.below HB1.out HT.out.1))
  go_wp2_with fail
  refine HAW.out.mono ?_
  rintro e w2 ⟨rfl,hb⟩
  have HE:=Lib.hid (HB1.out.trans (hb.mono HB1.out.size))
  clear HAW hb
  go_wp2
  go_ret
  exact ⟨rfl,HE.out⟩
 have f1:¬ (300:Int) < (n:Int):=by omega
 go_wp2_with fail
 refine (new_ok HF.out.1 1 (by omega)).mono ?_
 rintro e w2 ⟨tb,rfl,ht,htb,hb2⟩
 have HI0:Hid (StpI c tb w [] w2):=Lib.hid ⟨S,fresh_st HF.out hb2 ht htb,HB1.out.trans (hb2.mono HB1.out.size)⟩
 have HC:=Lib.hid HF.out.2
 clear ht htb hb2 HF HB1
 go_wp2
 go_loopw [11] (fun i wr=>∃ k:Nat,k≤n∧i=.int .i64 k∧Hid (StpI c tb w (keysE xs k) wr)) (fun i _=>n - (intOf i).toNat)
 case atStart=>exact ⟨0,by omega,rfl,HI0⟩
 case round =>
  obtain ⟨k,hk,rfl,HI⟩:=hrel
  by_cases hkn:k < n
  ·obtain ⟨b,off,key,rfl,d0,hdo⟩:=H1.out c tb wr k HC.out hn1 HI.out hkn
   have HD:=Lib.hid hdo
   have f2:(k:Int) < (n:Int):=by omega
   clear hdo HI HI0 H1 H2
   go_wp2_with fail
   refine HD.out.mono ?_
   rintro e w3 ⟨bb,ff,rfl,HI2⟩
   clear HD d0
   go_wp2
   go_roundw
   case rel=>exact ⟨k+1,by omega,by go_num,HI2⟩
   case measure=>simp [intOf];omega
  ·obtain rfl:k=n:=by omega
   clear H1 HI0 HC
   go_wp2
   go_loopw [12] (fun i wr=>∃ j:Nat,j≤k∧i=.int .i64 j∧Hid (StpI c tb w (keysE xs k) wr)) (fun i _=>k - (intOf i).toNat)
   case atStart=>exact ⟨0,by omega,rfl,HI⟩
   case round =>
    obtain ⟨j,hj,rfl,HJ⟩:=hrel
    clear HI
    by_cases hjn:j < k
    ·obtain ⟨b,off,key,rfl,HCL,hst⟩:=H2.out c tb wr j HJ.out hjn
     have f2:(j:Int) < (k:Int):=by omega
     have d0:=HCL.out wr HJ.out
     have HST:=Lib.hid hst
     clear hst H2
     go_wp2_with fail
     refine (rmay_any key ⟨#[]⟩ wr).mono ?_
     rintro e w3 ⟨rfl,hw⟩
     subst w3
     obtain ⟨bm,hbm⟩:∃ bm,bm=MayE key ⟨#[]⟩:=⟨_,rfl⟩
     rw [← hbm]
     have HBM:=Lib.hid hbm
     clear hbm
     cases bm with
     | false =>
      go_wp2
      go_roundw
      case rel=>exact ⟨j+1,by omega,by go_num,HJ⟩
      case measure=>simp [intOf];omega
     | true =>
      obtain ⟨hfr,s1,s2,nx,hnx,hpv,hls⟩:=HST.out HBM.out.symm
      have HFR:=Lib.hid hfr
      have HNX:=Lib.hid hnx
      have HPV:=Lib.hid hpv
      have HLS:=Lib.hid hls
      clear hfr hnx hpv hls HST HBM HJ
      go_wp2_with fail
      refine HFR.out.mono ?_
      rintro e w3 ⟨⟨t2,rfl⟩,HI3⟩
      clear HFR d0
      go_upto_region 18 with fail
      obtain ⟨W3,X3,hW3,hX3,x3,hb3⟩:=item_new w3 key t2
      rw [← hW3,← hX3]
      have HJ3:=Lib.hid (HI3.out.below hb3)
      have d3:=HCL.out W3 HJ3.out
      clear hW3 hX3 hb3 HI3
      go_quiet (fail)
      obtain ⟨W4,hW4,hb4⟩:=drawnB W3 nq
      rw [← hW4]
      have HJ4:=Lib.hid (HJ3.out.below hb4)
      have d4:=HCL.out W4 HJ4.out
      clear hW4 hb4 HJ3 d3 x3
      go_wp2_with fail
      refine (HNX.out W4 HJ4.out).mono ?_
      rintro e w5 ⟨rfl,HI5⟩
      clear HNX HJ4 d4
      go_upto_region 21 with fail
      obtain ⟨W5,X5,hW5,hX5,x5,hb5⟩:=item_new w5 s1 s2
      rw [← hW5,← hX5]
      have HJ5:=Lib.hid (HI5.out.below hb5)
      clear hW5 hX5 hb5 HI5
      cases nx with
      | true =>
       go_wp2_with fail
       refine (HPV.out (by trivial) W5 HJ5.out).mono ?_
       rintro e w6 ⟨⟨t3,rfl⟩,HI6⟩
       clear HPV HJ5 x5 HLS
       go_upto_region 23 with fail
       obtain ⟨W6,X6,hW6,hX6,x6,hb6⟩:=item_new w6 key t3
       rw [← hW6,← hX6]
       have HJ6:=Lib.hid (HI6.out.below hb6)
       have d6:=HCL.out W6 HJ6.out
       clear hW6 hX6 hb6 HI6
       go_quiet (fail)
       obtain ⟨W7,hW7,hb7⟩:=drawnB W6 nq
       rw [← hW7]
       have HJ7:=Lib.hid (HJ6.out.below hb7)
       clear hW7 hb7 HJ6 d6 x6
       go_wp2
       go_roundw
       case rel=>exact ⟨j+1,by omega,by go_num,HJ7⟩
       case measure=>simp [intOf];omega
      | false =>
       go_wp2_with fail
       refine (HLS.out (by trivial) W5 HJ5.out).mono ?_
       rintro e w6 ⟨⟨t3,rfl⟩,HI6⟩
       clear HPV HJ5 x5 HLS
       go_upto_region 26 with fail
       obtain ⟨W6,X6,hW6,hX6,x6,hb6⟩:=item_new w6 key t3
       rw [← hW6,← hX6]
       have HJ6:=Lib.hid (HI6.out.below hb6)
       have d6:=HCL.out W6 HJ6.out
       clear hW6 hX6 hb6 HI6
       go_quiet (fail)
       obtain ⟨W7,hW7,hb7⟩:=drawnB W6 nq
       rw [← hW7]
       have HJ7:=Lib.hid (HJ6.out.below hb7)
       clear hW7 hb7 HJ6 d6 x6
       go_wp2
       go_roundw
       case rel=>exact ⟨j+1,by omega,by go_num,HJ7⟩
       case measure=>simp [intOf];omega
    ·obtain rfl:j=k:=by omega
     obtain ⟨x1,x2,bb,y1,y2,dd,hfr,hpv,g1,g2,g3⟩:=HJ.out.around at_
     have HFR:=Lib.hid hfr
     have HPV:=Lib.hid hpv
     clear hfr hpv H2 HJ
     go_wp2_with fail
     refine HFR.out.mono ?_
     rintro e w3 ⟨rfl,HI3⟩
     clear HFR
     go_upto_region 29 with fail
     obtain ⟨X3,hX3⟩:∃ X3,X3=w3.heap.size:=⟨_,rfl⟩
     have HPV2:=Lib.hid (HPV.out w3 HI3.out)
     obtain ⟨W3,hW3⟩:∃ W3,W3=w3.alloc (.cells #[.string x1,.string x2] 89):=⟨_,rfl⟩
     rw [← hX3,← hW3] at HPV2
     rw [← hW3,← hX3]
     clear hW3 hX3 HI3 HPV
     go_wp2_with fail
     refine HPV2.out.mono ?_
     rintro e w5 ⟨rfl,c5,l5,HI5⟩
     clear HPV2
     go_upto_region 30 with fail
     obtain ⟨W6,X6,hW6,hX6,hy6,hb6⟩:=item_new w5 y1 y2
     rw [← hW6,← hX6]
     have HJ6:=Lib.hid (HI5.out.below hb6)
     have hx6:W6.cell? ⟨X3,0,none⟩=some (.string x1):=(hb6.cell l5).trans c5
     have HAW:=Lib.hid (HJ6.out.awake HT.out)
     clear hW6 hX6 HI5 hb6 c5 l5 HJ6
     cases bb with
     | true =>
      have h1:=g1 rfl
      cases dd with
      | true =>
       have h2:=g2 rfl
       have h3:=g3 rfl rfl
       clear g1 g2 g3
       go_wp2_with fail
       refine HAW.out.mono ?_
       rintro e w7 ⟨rfl,hb⟩
       have HE:=Lib.hid hb
       clear HAW hb
       go_wp2
       go_ret
       exact ⟨rfl,HE.out⟩
      | false =>
       clear g1 g2 g3
       go_wp2_with fail
       refine HAW.out.mono ?_
       rintro e w7 ⟨rfl,hb⟩
       have HE:=Lib.hid hb
       clear HAW hb
       go_wp2
       go_ret
       exact ⟨rfl,HE.out⟩
     | false =>
      cases dd with
      | true =>
       have h2:=g2 rfl
       clear g1 g2 g3
       go_wp2_with fail
       refine HAW.out.mono ?_
       rintro e w7 ⟨rfl,hb⟩
       have HE:=Lib.hid hb
       clear HAW hb
       go_wp2
       go_ret
       exact ⟨rfl,HE.out⟩
      | false =>
       clear g1 g2 g3
       go_wp2_with fail
       refine HAW.out.mono ?_
       rintro e w7 ⟨rfl,hb⟩
       have HE:=Lib.hid hb
       clear HAW hb
       go_wp2
       go_ret
       exact ⟨rfl,HE.out⟩
end Go.Proofs.YtfbbjiidccbaiaaGreatDoor
