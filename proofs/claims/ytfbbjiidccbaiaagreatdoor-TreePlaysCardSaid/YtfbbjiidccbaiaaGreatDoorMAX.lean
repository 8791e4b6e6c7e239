/- Texts of one proof, one behind the other: ZF. -/
import Derived.Test.YtfbbjiidccbaiaaGreatDoorMAW
set_option maxRecDepth 100000
namespace Go.Proofs.YtfbbjiidccbaiaaGreatDoor
open Go Go.RowKit
theorem fits_any (a:Option Addr) (n lc:Nat) (w:World):Calls Tryz.prog 26 #[.slice a n lc] w fun e w'=>e=.returned (.bool (decide (n≤1000)))∧w'=w:=by
 by_cases h:n≤1000
 ·have f1:(n:Int)≤1000:=by omega
  have f2:decide (n≤1000)=true:=decide_eq_true h
  have HF:=Lib.hid f2
  clear f2
  go_enter Tryz.func26,Tryz.ntmps26
  go_wp2
  go_ret
  exact ⟨by first | rfl | (rw [HF.out];rfl),rfl⟩
 ·have f1:¬ (n:Int)≤1000:=by omega
  have f2:decide (n≤1000)=false:=decide_eq_false h
  have HF:=Lib.hid f2
  clear f2
  go_enter Tryz.func26,Tryz.ntmps26
  go_wp2
  go_ret
  exact ⟨by first | rfl | (rw [HF.out];rfl),rfl⟩
def PlI (c:Ac) (tb r:Nat) (w:World) (v:Value) (k:Nat) (wr:World):Prop:=∃ (S:Nat→Prop) (F:List En),TreeSt (JL [] []) w.heap.size S c tb r F U0 wr∧LiI S wr v F∧F.length≤k∧Below w.heap.size w wr
section
variable {c:Ac} {tb r k:Nat} {w wr:World} {v:Value} {xs:List It} {a:Option Addr}
theorem PlI.does (I:PlI c tb r w v k wr) (hr16:r < 16) (hC:∀ q,(c.C q).length=512) (hS:Sl w a xs) (hks:∀ x ∈ xs,x.f.size < 9223372036854775807) (hn:xs.length≤1000) (hk:k < xs.length) :
  ∃ (b off:Nat) (kd:Int) (key val:ByteArray),a=some ⟨b,off,none⟩∧wr.cell? ⟨b,off+k*3,none⟩=some (.int .i64 kd)∧wr.cell? ⟨b,off+k*3+1,none⟩=some (.string key)∧wr.cell? ⟨b,off+k*3+2,none⟩=some (.string val) ∧
   Calls Tryz.prog 29 #[.pointer (some ⟨tb,0,none⟩),v,.agg #[.int .i64 kd,.string key,.string val]] wr fun e w2=>∃ v',e=.returned (.tuple #[v',.bool true])∧Hid (PlI c tb r w v' (k+1) w2):=by
 obtain ⟨S,F,h1,h2,h3,h4⟩:=I
 rcases hS.below h4 with h0 | ⟨b,off,ha,hbw,hcell⟩
 ·rw [h0] at hk;simp at hk
 ·obtain ⟨c0,c1,c2⟩:=hcell k hk
  refine ⟨b,off,_,_,_,ha,c0,c1,c2,?_⟩
  refine (ts_does h1 hr16 hC (by omega) u0_ok h2 (by omega) h1.srt _ _ _ (hks _ (List.getElem_mem hk))).mono ?_
  rintro e w2 ⟨v',b2,S',rfl,hb,q1,q2,q3⟩
  rw [hb rfl]
  have hl:=stepE_len (xs[k]'hk).k (xs[k]'hk).f (xs[k]'hk).n F
  exact ⟨v',rfl,Lib.hid ⟨S',_,q1,q3,by omega,h4.trans (q2.1.toBelow h4.size h1.low.1)⟩⟩
theorem PlI.check (I:PlI c tb r w v k wr) (hr16:r < 16):Calls Tryz.prog 30 #[.pointer (some ⟨tb,0,none⟩)] wr fun e w2=>e=.returned (.bool true)∧Hid (PlI c tb r w v k w2):=by
 obtain ⟨S,F,h1,h2,h3,h4⟩:=I
 refine (ts_check h1 hr16).mono ?_
 rintro e w2 ⟨rfl,S',q1,q2⟩
 exact ⟨rfl,Lib.hid ⟨S',F,q1,h2.turn q2,h3,h4.trans (q2.1.toBelow h4.size h1.low.1)⟩⟩
theorem PlI.whole (I:PlI c tb r w v k wr) (hr16:r < 16) (hk:k≤1000):Calls Tryz.prog 31 #[.pointer (some ⟨tb,0,none⟩)] wr fun e w2=>∃ v2,e=.returned (.tuple #[v2,.bool true])∧Hid (Calls Tryz.prog 32 #[v2,v] w2 fun e w3=>e=.returned (.bool true)∧Hid (PlI c tb r w v k w3)):=by
 obtain ⟨S,F,h1,h2,h3,h4⟩:=I
 refine (whole_ok h1 hr16 (by omega)).mono ?_
 rintro e w2 ⟨v2,rfl,S',q1,q2,q3⟩
 have l2:=h2.turn q2
 refine ⟨v2,rfl,Lib.hid ?_⟩
 refine (rsame_eq q3.is l2.is (by omega)).mono ?_
 rintro e w3 ⟨rfl,hb⟩
 have hb4:=h4.trans (q2.1.toBelow h4.size h1.low.1)
 exact ⟨rfl,Lib.hid ⟨S',F,q1.below hb,l2.below hb,h3,hb4.trans (hb.mono hb4.size)⟩⟩
theorem PlI.awake (I:PlI c tb r w v k wr) (hT:Tab w):Calls Tryz.prog 27 #[] wr fun e w2=>e=.returned (.bool true)∧Below w.heap.size w w2:=by
 obtain ⟨S,F,h1,h2,h3,h4⟩:=I
 refine (tlaw_awake wr (hT.below h4 hT.1)).mono ?_
 rintro e w2 ⟨rfl,hb⟩
 exact ⟨rfl,h4.trans (hb.mono h4.size)⟩
end
set_option maxHeartbeats 3200000 in
theorem treePlays_walk (a:Option Addr) (xs:List It) (lc:Nat) (w:World) (hT:Tab w) (hS:Sl w a xs) (hks:∀ x ∈ xs,x.f.size < 9223372036854775807) :
  Calls Tryz.prog 4 #[.slice a xs.length lc] w fun e w'=>e=.returned (.bool true)∧Below w.heap.size w w':=by
 have HT:=Lib.hid hT
 have HBG:=Lib.hid (begun_ok w hT)
 have HDO:Hid (∀ c tb r v k wr,(∀ q,(c.C q).length=512)→xs.length≤1000→r < 16→PlI c tb r w v k wr→k < xs.length→∃ (b off:Nat) (kd:Int) (key val:ByteArray),a=some ⟨b,off,none⟩∧wr.cell? ⟨b,off+k*3,none⟩=some (.int .i64 kd)∧wr.cell? ⟨b,off+k*3+1,none⟩=some (.string key)∧wr.cell? ⟨b,off+k*3+2,none⟩=some (.string val) ∧
   Calls Tryz.prog 29 #[.pointer (some ⟨tb,0,none⟩),v,.agg #[.int .i64 kd,.string key,.string val]] wr fun e w2=>∃ v',e=.returned (.tuple #[v',.bool true])∧Hid (PlI c tb r w v' (k+1) w2)):=Lib.hid fun c tb r v k wr hC hn hr I hk=>I.does hr hC hS hks hn hk
 obtain ⟨n,hn⟩:∃ n,n=xs.length:=⟨_,rfl⟩
 rw [← hn] at HDO ⊢
 clear hS hks hT hn
 go_enter Tryz.func4,Tryz.ntmps4
 go_wp2_with fail
 refine HBG.out.mono ?_
 rintro e w1 ⟨c,S,rfl,hf,hb1⟩
 have HF:=Lib.hid hf
 have HB1:=Lib.hid hb1
 clear HBG hf hb1
 go_wp2_with fail
 refine (fits_any a n lc w1).mono ?_
 rintro e w1' ⟨rfl,hw⟩
 subst w1'
 obtain ⟨bf,hbf⟩:∃ bf,bf=decide (n≤1000):=⟨_,rfl⟩
 rw [← hbf]
 have HBF:=Lib.hid hbf
 clear hbf
 cases bf with
 | false =>
  have HAW:=Lib.hid (tlaw_awake w1 (HT.out.below HB1.out HT.out.1))
  go_wp2_with fail
  refine HAW.out.mono ?_
  rintro e w2 ⟨rfl,hb⟩
  have HE:=Lib.hid (HB1.out.trans (hb.mono HB1.out.size))
  clear HAW hb
  go_wp2
  go_ret
  exact ⟨rfl,HE.out⟩
 | true =>
  have hn1:n≤1000:=of_decide_eq_true HBF.out.symm
  clear HBF
  go_wp2_with fail
  refine (new_ok HF.out.1 5 (by omega)).mono ?_
  rintro e w2 ⟨tb,rfl,ht,htb,hb2⟩
  have HI0:Hid (PlI c tb 5 w (.slice none 0 0) 0 w2):=Lib.hid ⟨S,[],fresh_st HF.out hb2 ht htb,LiI.nil_ _ _,Nat.le_refl _,HB1.out.trans (hb2.mono HB1.out.size)⟩
  have HC:=Lib.hid HF.out.2
  clear ht htb hb2 HF HB1
  go_wp2
  go_loopw [9,10] (fun v i wr=>∃ k:Nat,k≤n∧i=.int .i64 k∧Hid (PlI c tb 5 w v k wr)) (fun _ i _=>n - (intOf i).toNat)
  case atStart=>exact ⟨0,by omega,rfl,HI0⟩
  case round =>
   obtain ⟨k,hk,rfl,HI⟩:=hrel
   by_cases hkn:k < n
   ·obtain ⟨b,off,kd,key,val,rfl,d0,d1,d2,hdo⟩:=HDO.out c tb 5 _ k wr HC.out hn1 (by omega) HI.out hkn
    have HD:=Lib.hid hdo
    have f1:(k:Int) < (n:Int):=by omega
    clear hdo HI HI0 HDO
    go_wp2_with fail
    refine HD.out.mono ?_
    rintro e w3 ⟨v',rfl,HI2⟩
    clear HD d0 d1 d2
    by_cases hm:(k:Int).tmod 16=0
    ·have f2:((k:Int).tmod 16 == 0)=true:=beq_iff_eq.2 hm
     have HC2:=Lib.hid (HI2.out.check (by omega))
     clear HI2
     go_wp2_with fail
     refine HC2.out.mono ?_
     rintro e w4 ⟨rfl,HI3⟩
     clear HC2
     go_wp2
     go_roundw
     case rel=>exact ⟨k+1,by omega,by go_num,HI3⟩
     case measure=>simp [intOf];omega
    ·have f2:((k:Int).tmod 16 == 0)=false:=by simp [hm]
     go_wp2
     go_roundw
     case rel=>exact ⟨k+1,by omega,by go_num,HI2⟩
     case measure=>simp [intOf];omega
   ·have f1:¬ (k:Int) < (n:Int):=by omega
    have HW:=Lib.hid (HI.out.whole (by omega) (by omega))
    clear HI HI0 HDO HC
    go_wp2_with fail
    refine HW.out.mono ?_
    rintro e w3 ⟨v2,rfl,HR⟩
    clear HW
    go_wp2_with fail
    refine HR.out.mono ?_
    rintro e w4 ⟨rfl,HI3⟩
    clear HR
    have HC2:=Lib.hid (HI3.out.check (by omega))
    clear HI3
    go_wp2_with fail
    refine HC2.out.mono ?_
    rintro e w5 ⟨rfl,HI4⟩
    clear HC2
    have HAW:=Lib.hid (HI4.out.awake HT.out)
    clear HI4
    go_wp2_with fail
    refine HAW.out.mono ?_
    rintro e w6 ⟨rfl,hb⟩
    have HE:=Lib.hid hb
    clear HAW hb
    go_wp2
    go_ret
    exact ⟨rfl,HE.out⟩
end Go.Proofs.YtfbbjiidccbaiaaGreatDoor
