/- Texts of one proof, one behind the other: ZH, ZI. -/
import Derived.Test.YtfbbjiidccbaiaaGreatDoorMAX
import Derived.Deep.CutRange
set_option maxRecDepth 100000
namespace Go.Proofs.YtfbbjiidccbaiaaGreatDoor
open Go Go.RowKit
section
variable (v:Value) (w:World) (hN:∀ W,Below w.heap.size w W→NoTree v W)
include hN
set_option maxHeartbeats 800000 in
theorem tlen_nobody:Calls Tryz.prog 41 #[v] w fun e w'=>e=.returned (.int .i64 0)∧Below w.heap.size w w':=by
 obtain ⟨W0,hW0⟩:∃ W0,W0=w.alloc (.cells #[.int .i64 0] 3):=⟨_,rfl⟩
 have hb0:Below w.heap.size w W0:=by rw [hW0];exact (Below.refl _ _).alloc (Nat.le_refl _) _
 have HEA:Hid (Calls Tryz.prog 86 #[v,.func (.func 87) #[] #[.pointer (some ⟨w.heap.size,0,none⟩)]] W0 fun e w1=>e=.returned (.tuple #[])∧w1.cell? ⟨w.heap.size,0,none⟩=some (.int .i64 0)∧Hid (Below w.heap.size w w1)):=Lib.hid ((each_nobody v W0 (fun W hb=>hN W (hb0.trans (hb.mono hb0.size))) _).mono fun e w1 ⟨he,hw⟩=>by
  subst hw
  refine ⟨he,?_,Lib.hid hb0⟩
  rw [hW0,Lib.cell_of_heap (heap_alloc_new w _)];rfl)
 clear hN hb0
 go_enter Tryz.func41,Tryz.ntmps41
 go_wp2_with fail
 rw [← hW0]
 refine HEA.out.mono ?_
 rintro e w1 ⟨rfl,c1,HE⟩
 clear HEA hW0
 go_wp2
 go_ret
 exact ⟨rfl,HE.out⟩
set_option maxHeartbeats 800000 in
theorem tpages_nobody:Calls Tryz.prog 42 #[v] w fun e w'=>e=.returned (.slice none 0 0)∧Below w.heap.size w w':=by
 obtain ⟨W0,hW0⟩:∃ W0,W0=w.alloc (.cells #[.slice none 0 0] 57):=⟨_,rfl⟩
 have hb0:Below w.heap.size w W0:=by rw [hW0];exact (Below.refl _ _).alloc (Nat.le_refl _) _
 have HEA:Hid (Calls Tryz.prog 86 #[v,.func (.func 88) #[] #[.pointer (some ⟨w.heap.size,0,none⟩)]] W0 fun e w1=>e=.returned (.tuple #[])∧w1.cell? ⟨w.heap.size,0,none⟩=some (.slice none 0 0)∧Hid (Below w.heap.size w w1)):=Lib.hid ((each_nobody v W0 (fun W hb=>hN W (hb0.trans (hb.mono hb0.size))) _).mono fun e w1 ⟨he,hw⟩=>by
  subst hw
  refine ⟨he,?_,Lib.hid hb0⟩
  rw [hW0,Lib.cell_of_heap (heap_alloc_new w _)];rfl)
 clear hN hb0
 go_enter Tryz.func42,Tryz.ntmps42
 go_wp2_with fail
 rw [← hW0]
 refine HEA.out.mono ?_
 rintro e w1 ⟨rfl,c1,HE⟩
 clear HEA hW0
 go_wp2_with fail
 refine (Tryz.slices_Sort_int_none none 0 _).mono ?_
 rintro e w2 ⟨rfl,hw⟩
 subst w2
 go_wp2
 go_ret
 exact ⟨rfl,HE.out⟩
end
theorem tnew_any {J:List RawOp→Prop} {B:Nat} {S:Nat→Prop} {c:Ac} {h:Hd} {G:Nat→List UInt8} {w:World} (x:ActV J B S c h G w) (n:Int) :
  Calls Tryz.prog 28 #[.pointer (some ⟨c.a,0,none⟩),.int .i64 n] w fun e w'=>∃ (v:Value) (f:Int),e=.returned (.tuple #[v,.int .i64 f])∧Hid ((∃ tb,v=.pointer (some ⟨tb,0,none⟩)∧f=0∧0≤n∧n < 16)∨(v=.pointer none∧f=1∧¬ (0≤n∧n < 16)))∧Hid (Below w.heap.size w w'):=by
 by_cases hq:0≤n∧n < 16
 ·obtain ⟨h0,h1⟩:=hq
  obtain ⟨r,rfl⟩:=Int.eq_ofNat_of_zero_le h0
  refine (new_ok x r (by omega)).mono ?_
  rintro e w' ⟨tb,rfl,_,_,hb⟩
  exact ⟨_,_,rfl,Lib.hid (.inl ⟨tb,rfl,rfl,h0,h1⟩),Lib.hid hb⟩
 ·refine (new_bad _ n w hq).mono ?_
  rintro e w' ⟨rfl,rfl⟩
  exact ⟨_,_,rfl,Lib.hid (.inr ⟨rfl,rfl,hq⟩),Lib.hid (Below.refl _ _)⟩
def Nob (w0:World) (v:Value) (W:World):Prop:=Below w0.heap.size w0 W∧∀ W',Below w0.heap.size w0 W'→NoTree v W'
section
variable {w0 W:World} {v:Value} (h:Nob w0 v W)
include h
theorem Nob.no:∀ W',Below W.heap.size W W'→NoTree v W':=fun W' hb=>h.2 W' (h.1.trans (hb.mono h.1.size))
theorem Nob.to {W':World} (hb:Below W.heap.size W W'):Nob w0 v W':=⟨h.1.trans (hb.mono h.1.size),h.2⟩
theorem Nob.put (k x:ByteArray):Calls Tryz.prog 35 #[v,.string k,.string x] W fun e w'=>e=.returned (.tuple #[.bool false,.int .i64 1])∧w'=W:=put_nobody v W h.no k x
theorem Nob.get (k:ByteArray):Calls Tryz.prog 34 #[v,.string k] W fun e w'=>e=.returned (.tuple #[.string ⟨#[]⟩,.int .i64 1])∧w'=W:=get_nobody v W h.no k
theorem Nob.del (k:ByteArray):Calls Tryz.prog 40 #[v,.string k] W fun e w'=>e=.returned (.int .i64 1)∧w'=W:=del_nobody v W h.no k
theorem Nob.drop:Calls Tryz.prog 43 #[v] W fun e w'=>e=.returned (.int .i64 1)∧w'=W:=drop_nobody v W h.no
theorem Nob.check:Calls Tryz.prog 30 #[v] W fun e w'=>e=.returned (.bool false)∧w'=W:=check_nobody v W h.no
theorem Nob.from (k:ByteArray):Calls Tryz.prog 36 #[v,.string k] W fun e w'=>e=.returned (.tuple #[.agg #[.string ⟨#[]⟩,.string ⟨#[]⟩],.bool false])∧Hid (Nob w0 v w'):=(from_nobody v W h.no k).mono fun _ _ ⟨he,hb⟩=>⟨he,Lib.hid (h.to hb)⟩
theorem Nob.next (k:ByteArray) (hk:k.size < 9223372036854775807):Calls Tryz.prog 37 #[v,.string k] W fun e w'=>e=.returned (.tuple #[.agg #[.string ⟨#[]⟩,.string ⟨#[]⟩],.bool false])∧Hid (Nob w0 v w'):=(next_nobody v W h.no k hk).mono fun _ _ ⟨he,hb⟩=>⟨he,Lib.hid (h.to hb)⟩
theorem Nob.prev (k:ByteArray):Calls Tryz.prog 38 #[v,.string k] W fun e w'=>e=.returned (.tuple #[.agg #[.string ⟨#[]⟩,.string ⟨#[]⟩],.bool false])∧Hid (Nob w0 v w'):=(prev_nobody v W h.no k).mono fun _ _ ⟨he,hb⟩=>⟨he,Lib.hid (h.to hb)⟩
theorem Nob.last:Calls Tryz.prog 39 #[v] W fun e w'=>e=.returned (.tuple #[.agg #[.string ⟨#[]⟩,.string ⟨#[]⟩],.bool false])∧Hid (Nob w0 v w'):=(last_nobody v W h.no).mono fun _ _ ⟨he,hb⟩=>⟨he,Lib.hid (h.to hb)⟩
theorem Nob.len:Calls Tryz.prog 41 #[v] W fun e w'=>e=.returned (.int .i64 0)∧Hid (Nob w0 v w'):=(tlen_nobody v W h.no).mono fun _ _ ⟨he,hb⟩=>⟨he,Lib.hid (h.to hb)⟩
theorem Nob.pages:Calls Tryz.prog 42 #[v] W fun e w'=>e=.returned (.slice none 0 0)∧Hid (Nob w0 v w'):=(tpages_nobody v W h.no).mono fun _ _ ⟨he,hb⟩=>⟨he,Lib.hid (h.to hb)⟩
end
theorem nob_rows {w2 W0:World} {L:Nat} (hW0:W0=(w2.alloc (.cells #[.pointer none,.pointer none,.int .i64 0] 84)).alloc (.cells #[.pointer none,.pointer (some ⟨w2.heap.size,0,none⟩)] 71)) (hL:L=w2.heap.size+1) :
  ∀ k,k < 2→∀ W,Below W0.heap.size W0 W→∃ t,W.cell? ⟨L,k,none⟩=some t∧Nob W0 t W:=by
 intro k hk W hb
 have hz:W0.heap.size=w2.heap.size+2:=by rw [hW0];simp
 have h1:W0.heap[L]? = some (.cells #[.pointer none,.pointer (some ⟨w2.heap.size,0,none⟩)] 71):=by
  have:=heap_alloc_new (w2.alloc (.cells #[.pointer none,.pointer none,.int .i64 0] 84)) (.cells #[.pointer none,.pointer (some ⟨w2.heap.size,0,none⟩)] 71)
  rw [← hW0] at this
  rw [hL];simpa using this
 have h0:W0.heap[w2.heap.size]? = some (.cells #[.pointer none,.pointer none,.int .i64 0] 84):=by
  have h:=heap_alloc_new w2 (.cells #[.pointer none,.pointer none,.int .i64 0] 84)
  rw [hW0,heap_alloc_old _ _ (by simp)];exact h
 have hc:∀ (v:Value),(#[Value.pointer none,.pointer (some ⟨w2.heap.size,0,none⟩)])[k]? = some v→W.cell? ⟨L,k,none⟩=some v:=fun v hv=>by
  exact (hb.cell (show L < W0.heap.size by omega)).trans (by rw [Lib.cell_of_heap h1];exact hv)
 rcases (by omega:k=0∨k=1) with rfl | rfl
 ·exact ⟨_,hc _ rfl,hb,fun W' _=>notree_nil W'⟩
 ·exact ⟨_,hc _ rfl,hb,fun W' hb'=>notree_zero _ W' ((hb'.cell (show w2.heap.size < W0.heap.size by omega)).trans (by rw [Lib.cell_of_heap h0];rfl))⟩
set_option maxHeartbeats 3200000 in
theorem treeNobody_walk (n:Int) (s:ByteArray) (hs:s.size < 9223372036854775807) (w:World) (hT:Tab w) :
  Calls Tryz.prog 7 #[.int .i64 n,.string s] w fun e w'=>e=.returned (.bool true)∧Below w.heap.size w w':=by
 have HT:=Lib.hid hT
 have HS:=Lib.hid hs
 have HBG:=Lib.hid (begun_ok w hT)
 clear hT hs
 go_enter Tryz.func7,Tryz.ntmps7
 go_wp2_with fail
 refine (new_nil 3 w ⟨by omega,by omega⟩).mono ?_
 rintro e w1 ⟨rfl,hw⟩
 subst w1
 go_wp2_with fail
 refine HBG.out.mono ?_
 rintro e w1 ⟨c,S,rfl,hf,hb1⟩
 have HB1:=Lib.hid hb1
 have HNA:=Lib.hid (tnew_any hf.1 n)
 clear HBG hf hb1
 go_wp2_with fail
 refine HNA.out.mono ?_
 rintro e w2 ⟨v,f,rfl,HV,hb2⟩
 have HB2:=Lib.hid (HB1.out.trans (hb2.out.mono HB1.out.size))
 clear HNA HB1 hb2
 go_upto_region 6 with fail
 go_cut [77] from 54 to 77 (fun b wx=>b=.bool false∧wx=w2)
 case first =>
  rcases HV.out with ⟨tb,rfl,rfl,g1,g2⟩ | ⟨rfl,rfl,g⟩
  ·clear HV
   go_wp2_with fail
   go_meet
   exact ⟨by first | rfl | trivial,by first | rfl | trivial⟩
  ·clear HV
   by_cases g1:0≤n
   ·have g2:¬ n < 16:=fun h=>g ⟨g1,h⟩
    clear g
    go_wp2_with fail
    go_meet
    exact ⟨by first | rfl | trivial,by first | rfl | trivial⟩
   ·clear g
    go_wp2_with fail
    go_meet
    exact ⟨by first | rfl | trivial,by first | rfl | trivial⟩
 case rest =>
 obtain ⟨rfl,hwc⟩:=hcut
 obtain rfl:w2=wc:=hwc.symm
 clear HV
 obtain ⟨W0,hW0⟩:∃ W0,W0=(w2.alloc (.cells #[.pointer none,.pointer none,.int .i64 0] 84)).alloc (.cells #[.pointer none,.pointer (some ⟨w2.heap.size,0,none⟩)] 71):=⟨_,rfl⟩
 obtain ⟨L,hL⟩:∃ L,L=w2.heap.size+1:=⟨_,rfl⟩
 have HB0:Hid (Below w.heap.size w W0):=Lib.hid (by rw [hW0];exact (HB2.out.alloc HB2.out.size _).alloc (by simp;have:=HB2.out.size;omega) _)
 have HROW:=Lib.hid (nob_rows hW0 hL)
 clear HB2
 go_wp2
 rw [← hW0,← hL]
 clear hW0 hL
 go_loopw [14] (fun i wr=>∃ k:Nat,k≤2∧i=.int .i64 k∧Hid (Below W0.heap.size W0 wr)) (fun i _=>2 - (intOf i).toNat)
 case atStart=>exact ⟨0,by omega,rfl,Lib.hid (Below.refl _ _)⟩
 case round =>
  obtain ⟨k,hk,rfl,HB⟩:=hrel
  by_cases hkn:k < 2
  ·obtain ⟨t,hc,hn⟩:=HROW.out k hkn wr HB.out
   have f1:(k:Int) < 2:=by omega
   have HN:=Lib.hid hn
   clear HROW HB HB0 hn
   go_wp2_with fail
   refine (HN.out.put s s).mono ?_
   rintro e w3 ⟨rfl,hw⟩
   subst w3
   go_wp2_with fail
   refine (HN.out.get s).mono ?_
   rintro e w3 ⟨rfl,hw⟩
   subst w3
   go_wp2_with fail
   refine (HN.out.from s).mono ?_
   rintro e w3 ⟨rfl,HN3⟩
   have HN3a:=Lib.hid (HN3.out.to ((Below.refl _ w3).alloc (Nat.le_refl _) (.cells #[.string ⟨#[]⟩,.string ⟨#[]⟩] 89)))
   clear HN HN3 hc
   go_wp2_with fail
   refine (HN3a.out.next s HS.out).mono ?_
   rintro e w4 ⟨rfl,HN4⟩
   have HN4a:=Lib.hid (HN4.out.to ((Below.refl _ w4).alloc (Nat.le_refl _) (.cells #[.string ⟨#[]⟩,.string ⟨#[]⟩] 89)))
   clear HN3a HN4
   go_wp2_with fail
   refine (HN4a.out.prev s).mono ?_
   rintro e w5 ⟨rfl,HN5⟩
   have HN5a:=Lib.hid (HN5.out.to ((Below.refl _ w5).alloc (Nat.le_refl _) (.cells #[.string ⟨#[]⟩,.string ⟨#[]⟩] 89)))
   clear HN4a HN5
   go_wp2_with fail
   refine (HN5a.out.last ).mono ?_
   rintro e w6 ⟨rfl,HN6⟩
   have HN6a:=Lib.hid (HN6.out.to ((Below.refl _ w6).alloc (Nat.le_refl _) (.cells #[.string ⟨#[]⟩,.string ⟨#[]⟩] 89)))
   clear HN5a HN6
   go_upto_region 19 with fail
   obtain ⟨W9,hW9⟩:∃ W9,W9=w6.alloc (.cells #[.string ⟨#[]⟩,.string ⟨#[]⟩] 89):=⟨_,rfl⟩
   rw [← hW9] at HN6a ⊢
   clear hW9
   go_wp2_with fail
   refine (HN6a.out.del s).mono ?_
   rintro e w7 ⟨rfl,hw⟩
   subst w7
   go_wp2_with fail
   refine HN6a.out.len.mono ?_
   rintro e w7 ⟨rfl,HN7⟩
   clear HN6a
   go_wp2_with fail
   refine HN7.out.pages.mono ?_
   rintro e w8 ⟨rfl,HN8⟩
   clear HN7
   go_wp2_with fail
   refine HN8.out.check.mono ?_
   rintro e w10 ⟨rfl,hw⟩
   subst w10
   go_wp2_with fail
   refine HN8.out.drop.mono ?_
   rintro e w10 ⟨rfl,hw⟩
   subst w10
   have HB8:=Lib.hid HN8.out.1
   clear HN8
   go_wp2
   go_roundw
   case rel=>exact ⟨k+1,by omega,by go_num,HB8⟩
   case measure=>simp [intOf];omega
  ·have f1:¬ (k:Int) < 2:=by omega
   have hbw:=HB0.out.trans (HB.out.mono HB0.out.size)
   have HBW:=Lib.hid hbw
   have HAW:=Lib.hid (tlaw_awake wr (HT.out.below hbw HT.out.1))
   clear hbw HROW HB HB0
   go_wp2_with fail
   refine HAW.out.mono ?_
   rintro e w3 ⟨rfl,hb⟩
   have HE:=Lib.hid (HBW.out.trans (hb.mono HBW.out.size))
   clear HAW hb
   go_wp2
   go_ret
   exact ⟨rfl,HE.out⟩
end Go.Proofs.YtfbbjiidccbaiaaGreatDoor
