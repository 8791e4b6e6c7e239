/- Texts of one proof, one behind the other: ZN, ZO. -/
import Derived.Test.YtfbbjiidccbaiaaGreatDoorMAX
set_option maxRecDepth 100000
namespace Go.Proofs.YtfbbjiidccbaiaaGreatDoor
open Go Go.RowKit
def TwoSt (B:Nat) (S:Nat→Prop) (c:Ac) (r1 r2 ta tb:Nat) (F1 F2:List En) (v1 v2:Value) (w:World):Prop :=
 ∃ (h:Hd) (G:Nat→List UInt8) (p1 p2:List Nat),ActV (JL [] []) B S c h G w∧TreeAt w ta c.a r1∧¬ S ta∧TreeAt w tb c.a r2∧¬ S tb∧TreeOn h G (h.root r1) F1 p1∧TreeOn h G (h.root r2) F2 p2∧(∀ q ∈ p2,q ∉ p1)∧(∀ q,h.has q→q ∈ p1∨q ∈ p2)∧LiI S w v1 F1∧LiI S w v2 F2
section
variable {B:Nat} {S:Nat→Prop} {c:Ac} {r1 r2 ta tb:Nat} {F1 F2:List En} {v1 v2:Value} {w:World}
theorem TwoSt.swap (x:TwoSt B S c r1 r2 ta tb F1 F2 v1 v2 w):TwoSt B S c r2 r1 tb ta F2 F1 v2 v1 w:=by
 obtain ⟨h,G,p1,p2,a1,a2,a3,a4,a5,a6,a7,a8,a9,a10,a11⟩:=x
 exact ⟨h,G,p2,p1,a1,a4,a5,a2,a3,a7,a6,fun q h1 h2=>a8 q h2 h1,fun q hq=>(a9 q hq).symm,a11,a10⟩
theorem TwoSt.low (x:TwoSt B S c r1 r2 ta tb F1 F2 v1 v2 w):(∀ k,S k→B≤k)∧B≤w.heap.size:=by
 obtain ⟨h,G,p1,p2,a1,_⟩:=x
 exact ⟨fun k hk=>(a1.low k hk).1,a1.size⟩
theorem TwoSt.does (x:TwoSt B S c r1 r2 ta tb F1 F2 v1 v2 w) (hr16:r1 < 16) (hne:r2≠r1) (hC:∀ q,(c.C q).length=512) (hF1:F1.length≤1000) (hF2:F2.length≤1000) (kd:Int) (key val:ByteArray) (hks:key.size < 9223372036854775807) :
  Calls Tryz.prog 29 #[.pointer (some ⟨ta,0,none⟩),v1,.agg #[.int .i64 kd,.string key,.string val]] w fun e w'=>∃ (v':Value) (S':Nat→Prop),e=.returned (.tuple #[v',.bool true])∧TwoSt B S' c r1 r2 ta tb (stepE kd key val F1) F2 v' v2 w'∧Turn S w S' w':=by
 obtain ⟨h,G,p1,p2,a1,a2,a3,a4,a5,a6,a7,a8,a9,a10,a11⟩:=x
 have hp2:=a7.few
 refine (does_all a1 a2 a3 hr16 hC a6 (roomy_of a6 a9 (by omega) (by omega)) a10 (by omega) a6.srt kd key val hks).mono ?_
 rintro e w' ⟨v',b,rfl,hb,h',G',S',ps',q1,q2,q3,q4,q5,q6⟩
 rw [hb rfl]
 have ho:=a7.other q5 a8
 refine ⟨v',S',rfl,⟨h',G',ps',p2,q1,q3,q2.not a2.lt a3,a4.kept q2.1 a5,q2.not a4.lt a5,q4,?_,ho.2,q5.only a9,q6,a11.turn q2⟩,q2⟩
 rw [q5.root r2 hne]
 exact ho.1
theorem TwoSt.whole (x:TwoSt B S c r1 r2 ta tb F1 F2 v1 v2 w) (hr16:r1 < 16) (hF1:F1.length≤1000) :
  Calls Tryz.prog 31 #[.pointer (some ⟨ta,0,none⟩)] w fun e w'=>∃ (v':Value) (S':Nat→Prop),e=.returned (.tuple #[v',.bool true])∧TwoSt B S' c r1 r2 ta tb F1 F2 v1 v2 w'∧Turn S w S' w'∧LiI S' w' v' F1:=by
 obtain ⟨h,G,p1,p2,a1,a2,a3,a4,a5,a6,a7,a8,a9,a10,a11⟩:=x
 refine (whole_ok (U:=⟨p2,fun h G ps=>TreeOn h G (h.root r2) F2 p2∧∀ q ∈ p2,q ∉ ps⟩) ⟨h,G,p1,a1,a2,a3,a6,a9,a7,a8⟩ hr16 (by omega)).mono ?_
 rintro e w' ⟨v',rfl,S',⟨h',G',ps,b1,b2,b3,b4,b5,b6,b7⟩,hT,hL⟩
 exact ⟨v',S',rfl,⟨h',G',ps,p2,b1,b2,b3,a4.kept hT.1 a5,hT.not a4.lt a5,b4,b6,b7,b5,a10.turn hT,a11.turn hT⟩,hT,hL⟩
end
def ApI (c:Ac) (r1 r2 ta tb:Nat) (w:World) (v1 v2:Value) (k:Nat) (wr:World):Prop:=∃ (S:Nat→Prop) (F1 F2:List En),TwoSt w.heap.size S c r1 r2 ta tb F1 F2 v1 v2 wr∧F1.length+F2.length≤k∧Below w.heap.size w wr
section
variable {c:Ac} {r1 r2 ta tb k:Nat} {w wr:World} {v1 v2:Value} {xs:List It} {a:Option Addr}
theorem ApI.swap (I:ApI c r1 r2 ta tb w v1 v2 k wr):ApI c r2 r1 tb ta w v2 v1 k wr:=by
 obtain ⟨S,F1,F2,h1,h2,h3⟩:=I
 exact ⟨S,F2,F1,h1.swap,by omega,h3⟩
theorem ApI.does (I:ApI c r1 r2 ta tb w v1 v2 k wr) (hr16:r1 < 16) (hne:r2≠r1) (hC:∀ q,(c.C q).length=512) (hS:Sl w a xs) (hks:∀ x ∈ xs,x.f.size < 9223372036854775807) (hn:xs.length≤1000) (hk:k < xs.length) :
  ∃ (b off:Nat) (kd:Int) (key val:ByteArray),a=some ⟨b,off,none⟩∧wr.cell? ⟨b,off+k*3,none⟩=some (.int .i64 kd)∧wr.cell? ⟨b,off+k*3+1,none⟩=some (.string key)∧wr.cell? ⟨b,off+k*3+2,none⟩=some (.string val) ∧
   Calls Tryz.prog 29 #[.pointer (some ⟨ta,0,none⟩),v1,.agg #[.int .i64 kd,.string key,.string val]] wr fun e w2=>∃ v',e=.returned (.tuple #[v',.bool true])∧Hid (ApI c r1 r2 ta tb w v' v2 (k+1) w2):=by
 obtain ⟨S,F1,F2,h1,h3,h4⟩:=I
 rcases hS.below h4 with h0 | ⟨b,off,ha,hbw,hcell⟩
 ·rw [h0] at hk;simp at hk
 ·obtain ⟨c0,c1,c2⟩:=hcell k hk
  refine ⟨b,off,_,_,_,ha,c0,c1,c2,?_⟩
  refine (h1.does hr16 hne hC (by omega) (by omega) _ _ _ (hks _ (List.getElem_mem hk))).mono ?_
  rintro e w2 ⟨v',S',rfl,q1,q2⟩
  have hl:=stepE_len (xs[k]'hk).k (xs[k]'hk).f (xs[k]'hk).n F1
  exact ⟨v',rfl,Lib.hid ⟨S',_,F2,q1,by omega,h4.trans (q2.1.toBelow h4.size h1.low.1)⟩⟩
theorem ApI.ends (I:ApI c r1 r2 ta tb w v1 v2 k wr) (hr1:r1 < 16) (hr2:r2 < 16) (hk:k≤1000) :
  Calls Tryz.prog 31 #[.pointer (some ⟨ta,0,none⟩)] wr fun e w2=>∃ u1,e=.returned (.tuple #[u1,.bool true])∧Hid (Calls Tryz.prog 31 #[.pointer (some ⟨tb,0,none⟩)] w2 fun e w3=>∃ u2,e=.returned (.tuple #[u2,.bool true]) ∧
   Hid (Calls Tryz.prog 32 #[u1,v1] w3 fun e w4=>e=.returned (.bool true)∧Hid (Calls Tryz.prog 32 #[u2,v2] w4 fun e w5=>e=.returned (.bool true)∧Hid (Below w.heap.size w w5)))):=by
 obtain ⟨S,F1,F2,h1,h3,h4⟩:=I
 refine (h1.whole hr1 (by omega)).mono ?_
 rintro e w2 ⟨u1,S2,rfl,x2,t2,l2⟩
 refine ⟨u1,rfl,Lib.hid ?_⟩
 refine (x2.swap.whole hr2 (by omega)).mono ?_
 rintro e w3 ⟨u2,S3,rfl,x3,t3,l3⟩
 refine ⟨u2,rfl,Lib.hid ?_⟩
 have hb3:=(h4.trans (t2.1.toBelow h4.size h1.low.1)).trans (t3.1.toBelow (h4.trans (t2.1.toBelow h4.size h1.low.1)).size x2.low.1)
 obtain ⟨h,G,p1,p2,a1,a2,a3,a4,a5,a6,a7,a8,a9,a10,a11⟩:=x3.swap
 have l2':=l2.turn t3
 refine (rsame_eq l2'.is a10.is (by omega)).mono ?_
 rintro e w4 ⟨rfl,hb⟩
 refine ⟨rfl,Lib.hid ?_⟩
 refine (rsame_eq (l3.below hb).is (a11.below hb).is (by omega)).mono ?_
 rintro e w5 ⟨rfl,hb'⟩
 have hb4:=hb3.trans (hb.mono hb3.size)
 exact ⟨rfl,Lib.hid (hb4.trans (hb'.mono hb4.size))⟩
end
theorem two_fresh {c:Ac} {S:Nat→Prop} {w w1 w2 w3:World} {ta tb:Nat} (hf:Fresh w.heap.size c S w1) (hb1:Below w.heap.size w w1) (hb2:Below w1.heap.size w1 w2) (hb3:Below w2.heap.size w2 w3) (ha:TreeAt w2 ta c.a 1) (hta:w1.heap.size≤ta) (hb:TreeAt w3 tb c.a 15) (htb:w2.heap.size≤tb) :
  ApI c 1 15 ta tb w (.slice none 0 0) (.slice none 0 0) 0 w3:=by
 have h2:=hf.1.below hb2
 have hlow:∀ k,S k→k < w1.heap.size:=fun k hk=>(hf.1.low k hk).2
 have hz:∀ r,TreeOn Hd.zero c.C (Hd.zero.root r) [] []:=fun r=>by rw [zero_root];exact TreeOn.none_ _ _
 have h12:=hb2.size
 exact ⟨S,[],[],⟨Hd.zero,c.C,[],[],h2.below hb3,ha.below hb3,fun hs=>by have:=hlow _ hs;omega,hb,fun hs=>by have:=hlow _ hs;omega,hz 1,hz 15,fun q hq=>(by cases hq),fun q hq=>absurd hq (zero_has q),LiI.nil_ _ _,LiI.nil_ _ _⟩,Nat.le_refl _,(hb1.trans (hb2.mono hb1.size)).trans (hb3.mono (Nat.le_trans hb1.size h12))⟩
set_option maxHeartbeats 3200000 in
theorem treeApart_walk (a:Option Addr) (xs:List It) (lc:Nat) (w:World) (hT:Tab w) (hS:Sl w a xs) (hks:∀ x ∈ xs,x.f.size < 9223372036854775807) :
  Calls Tryz.prog 5 #[.slice a xs.length lc] w fun e w'=>e=.returned (.bool true)∧Below w.heap.size w w':=by
 have HT:=Lib.hid hT
 have HBG:=Lib.hid (begun_ok w hT)
 have HDO:Hid (∀ c r1 r2 ta tb v1 v2 k wr,r1 < 16→r2≠r1→(∀ q,(c.C q).length=512)→xs.length≤1000→ApI c r1 r2 ta tb w v1 v2 k wr→k < xs.length→∃ (b off:Nat) (kd:Int) (key val:ByteArray),a=some ⟨b,off,none⟩∧wr.cell? ⟨b,off+k*3,none⟩=some (.int .i64 kd)∧wr.cell? ⟨b,off+k*3+1,none⟩=some (.string key)∧wr.cell? ⟨b,off+k*3+2,none⟩=some (.string val) ∧
   Calls Tryz.prog 29 #[.pointer (some ⟨ta,0,none⟩),v1,.agg #[.int .i64 kd,.string key,.string val]] wr fun e w2=>∃ v',e=.returned (.tuple #[v',.bool true])∧Hid (ApI c r1 r2 ta tb w v' v2 (k+1) w2)):=Lib.hid fun c r1 r2 ta tb v1 v2 k wr hr hne hC hn I hk=>I.does hr hne hC hS hks hn hk
 obtain ⟨n,hn⟩:∃ n,n=xs.length:=⟨_,rfl⟩
 rw [← hn] at HDO ⊢
 clear hS hks hT hn
 go_enter Tryz.func5,Tryz.ntmps5
 go_wp2_with fail
 refine HBG.out.mono ?_
 rintro e w1 ⟨c,S,rfl,hf,hb1⟩
 have HF:=Lib.hid hf
 have HB1:=Lib.hid hb1
 clear HBG hf hb1
 go_wp2_with fail
 refine (fits_any a n lc w1).mono ?_
 rintro e w1' ⟨rfl,hw⟩
 subst w1'
 obtain ⟨bf,hbf⟩:∃ bf,bf=decide (n≤1000):=⟨_,rfl⟩
 rw [← hbf]
 have HBF:=Lib.hid hbf
 clear hbf
 cases bf with
 | false =>
  have HAW:=Lib.hid (tlaw_awake w1 (HT.out.below HB1.out HT.out.1))
  go_wp2_with fail
  refine HAW.out.mono ?_
  rintro e w2 ⟨rfl,hb⟩
  have HE:=Lib.hid (HB1.out.trans (hb.mono HB1.out.size))
  clear HAW hb
  go_wp2
  go_ret
  exact ⟨rfl,HE.out⟩
 | true =>
  have hn1:n≤1000:=of_decide_eq_true HBF.out.symm
  clear HBF
  go_wp2_with fail
  refine (new_ok HF.out.1 1 (by omega)).mono ?_
  rintro e w2 ⟨ta,rfl,hta,hta2,hb2⟩
  have HTA:=Lib.hid (And.intro hta hta2)
  have HB2:=Lib.hid hb2
  clear hta hta2 hb2
  go_wp2_with fail
  refine (new_ok (HF.out.1.below HB2.out) 15 (by omega)).mono ?_
  rintro e w3 ⟨tb,rfl,ht,htb,hb3⟩
  have HI0:Hid (ApI c 1 15 ta tb w (.slice none 0 0) (.slice none 0 0) 0 w3):=Lib.hid (two_fresh HF.out HB1.out HB2.out hb3 HTA.out.1 HTA.out.2 ht htb)
  have HC:=Lib.hid HF.out.2
  clear ht htb hb3 HF HB1 HB2 HTA
  go_wp2
  go_loopw [11,12,13] (fun v1 v2 i wr=>∃ k:Nat,k≤n∧i=.int .i64 k∧Hid (ApI c 1 15 ta tb w v1 v2 k wr)) (fun _ _ i _=>n - (intOf i).toNat)
  case atStart=>exact ⟨0,by omega,rfl,HI0⟩
  case round =>
   obtain ⟨k,hk,rfl,HI⟩:=hrel
   by_cases hkn:k < n
   ·have f1:(k:Int) < (n:Int):=by omega
    by_cases hm:(k:Int) % 2=0
    ·have f2:((k:Int) % 2 == 0)=true:=beq_iff_eq.2 hm
     obtain ⟨b,off,kd,key,val,rfl,d0,d1,d2,hdo⟩:=HDO.out c 1 15 ta tb _ _ k wr (by omega) (by omega) HC.out hn1 HI.out hkn
     have HD:=Lib.hid hdo
     clear hdo HI HI0 HDO
     go_wp2_with fail
     refine HD.out.mono ?_
     rintro e w4 ⟨v',rfl,HI2⟩
     clear HD d0 d1 d2
     go_wp2
     go_roundw
     case rel =>
      refine ⟨k+1,?_,?_,?_⟩
      ·omega
      ·go_num
      ·exact HI2
     case measure=>simp [intOf];omega
    ·have f2:((k:Int) % 2 == 0)=false:=by simp [hm]
     obtain ⟨b,off,kd,key,val,rfl,d0,d1,d2,hdo⟩:=HDO.out c 15 1 tb ta _ _ k wr (by omega) (by omega) HC.out hn1 HI.out.swap hkn
     have HD:=Lib.hid hdo
     clear hdo HI HI0 HDO
     go_wp2_with fail
     refine HD.out.mono ?_
     rintro e w4 ⟨v',rfl,HI2⟩
     have HI3:=Lib.hid HI2.out.swap
     clear HD d0 d1 d2 HI2
     go_wp2
     go_roundw
     case rel =>
      refine ⟨k+1,?_,?_,?_⟩
      ·omega
      ·go_num
      ·exact HI3
     case measure=>simp [intOf];omega
   ·have f1:¬ (k:Int) < (n:Int):=by omega
    have HW:=Lib.hid (HI.out.ends (by omega) (by omega) (by omega))
    clear HI HI0 HDO HC
    go_wp2_with fail
    refine HW.out.mono ?_
    rintro e w4 ⟨u1,rfl,HW2⟩
    clear HW
    go_wp2_with fail
    refine HW2.out.mono ?_
    rintro e w5 ⟨u2,rfl,HW3⟩
    clear HW2
    go_wp2_with fail
    refine HW3.out.mono ?_
    rintro e w6 ⟨rfl,HW4⟩
    clear HW3
    go_wp2_with fail
    refine HW4.out.mono ?_
    rintro e w7 ⟨rfl,HB7⟩
    clear HW4
    have HAW:=Lib.hid (tlaw_awake w7 (HT.out.below HB7.out HT.out.1))
    go_wp2_with fail
    refine HAW.out.mono ?_
    rintro e w8 ⟨rfl,hb⟩
    have HE:=Lib.hid (HB7.out.trans (hb.mono HB7.out.size))
    clear HAW hb
    go_wp2
    go_ret
    exact ⟨rfl,HE.out⟩
end Go.Proofs.YtfbbjiidccbaiaaGreatDoor
