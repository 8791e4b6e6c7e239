/- TreeSteps: for every list of keys and every text, the law answers true, and each argument reads afterwards as it read before. Conditions: the package variable that the row lists starts as the program's text lays it (the card ties it). -/
import Derived.Test.YtfbbjiidccbaiaaGreatDoorCards
import Derived.Test.YtfbbjiidccbaiaaGreatDoorTie
import Derived.Test.YtfbbjiidccbaiaaGreatDoorMAC
import Derived.Test.YtfbbjiidccbaiaaGreatDoorMAZ
import Derived.ChangeMaps5
import Derived.SliceStrings
import Derived.ProofKit
import Derived.Deep.Slices
import Derived.SevenTiedAt
set_option maxRecDepth 100000
namespace Go.Proofs.YtfbbjiidccbaiaaGreatDoor
open Go Go.ChangeShapes Go.WideShapes Go.ChangeAt Go.RowKit
open Go.ChangeMaps (open_string shut_string)
theorem weightsAll_in {H:Type} {P:Program} {e:TypeId}:∀ {l:List (DataW H)} {d:DataW H},d ∈ l→∀ n ∈ d.weights P e,n ∈ DataW.weightsAll P e l
 | d' :: r,d,hd,n,hn=>by
  simp only [DataW.weightsAll,List.mem_append]
  rcases List.mem_cons.1 hd with rfl | h
  ·exact Or.inl hn
  ·exact Or.inr (weightsAll_in h n hn)
theorem readRecStrs:Tryz.prog.readableRec 62=true:=by kernel_rfl
section
variable {H:Type} {enc:TypeId × Value→H} {W:World} {base:Nat} {sp:Nat→Bool} {held:Bool}
theorem open_keys {r:Reach} {b0:Nat} {v:Value} {d:DataW H} {p:List MemPlace} (hv:Value.okWide Tryz.prog W r b0 62 v) (hd:DataW.Trod enc Tryz.prog W base sp held 62 v d p) :
  ∃ (a:Option Addr) (xs:List ByteArray) (c:Nat),v=.slice a xs.length c∧Txs W a xs∧(xs=[]∨∃ elems spare,d=.slice elems spare∧∀ x ∈ xs,DataW.lit (.string x.data.toList) ∈ elems):=by
 obtain ⟨a1,len1,cap1,rfl⟩:=okWide_slice Tryz.underlying62 hv
 obtain ⟨fuel,h⟩:=hd
 rcases open_strings Tryz.underlying62 Tryz.underlying9 cells9 h with ⟨e,_⟩ | ⟨a,len,cap,ss,e,_,hlc,hcm,hss,hx,hcell,_⟩
 ·simp [Value.cells] at e
  obtain ⟨rfl,rfl,rfl⟩:=e
  exact ⟨none,[],0,rfl,.inl rfl,.inl rfl⟩
 ·simp [Value.cells] at e
  obtain ⟨rfl,rfl,rfl⟩:=e
  have hlen:len1≤ss.length:=by rw [hss];split <;> omega
  have hl:(ss.take len1).length=len1:=by rw [List.length_take];omega
  refine ⟨some a,ss.take len1,cap1,by rw [hl],?_,.inr ⟨_,_,congrArg Prod.fst hx,fun x hm=>List.mem_map.2 ⟨x,hm,rfl⟩⟩⟩
  cases len1 with
  | zero=>exact .inl (by simp)
  | succ n =>
   obtain ⟨b,off,spot⟩:=a
   have h0:=hcell 0 (by omega)
   have hspot:spot=none:=by simpa [Addr.add] using World.cell?_spot h0
   subst hspot
   refine .inr ⟨b,off,rfl,?_,fun j hj=>?_⟩
   ·rw [add_plain] at h0
    unfold World.cell? at h0
    split at h0
    ·rename_i hh
     exact (Array.getElem?_eq_some_iff.1 hh).1
    ·cases h0
   ·rw [hl] at hj
    have:=hcell j (by omega)
    rw [add_plain] at this
    rw [this,List.getElem_take,List.getD_eq_getElem?_getD,List.getElem?_eq_getElem (by omega)]
    rfl
end
theorem sized_text {H:Type} {ts:List TypeId} {ds:List (DataW H)} (h:(DataW.weightsEach Tryz.prog ts ds).all (·≤reachBytes)=true) {j:Nat} {elems spare:List (DataW H)} (ht:ts[j]? = some 62) (hd:ds[j]? = some (.slice elems spare)) {x:ByteArray} (hm:DataW.lit (.string x.data.toList) ∈ elems):x.size < 9223372036854775807:=by
 have h1:x.data.toList.length≤reachBytes:=by
  refine of_decide_eq_true (List.all_eq_true.1 h _ (DataW.weights_mem_each ht hd _ ?_))
  simp only [DataW.weights,Tryz.underlying62,List.mem_cons,List.mem_append]
  refine Or.inr (Or.inl (weightsAll_in hm _ ?_))
  simp [DataW.weights]
 have h2:reachBytes=140737488351232:=rfl
 rw [h2] at h1
 have h3:x.data.toList.length=x.size:=by simp
 omega
theorem treeSteps_met (os:Os) (args:Array Value):laidMetH Tryz.prog listed ((World.doorLaid Tryz.prog 4000 os).forCall (fun _ _=>0) ⟨#[],args,[]⟩).memory :=
 laidMetH_of_parts3 (fuel:=8) (laidMet_of_run' 8 (by kernel_rfl) (by kernel_rfl)) (by kernel_rfl) (by kernel_rfl)
set_option maxHeartbeats 1600000 in
theorem treeSteps_lifted (os:Os) (started:os.Started) (H:Type) (enc:TypeId × Value→H) :
  ReturnsInHanded {} Tryz.checked os 8 .any (fun w args=>(Rows.treeStepsSpec.pre enc Tryz.prog Tryz.f8 [] false w args∧laidMetH Tryz.prog listed w)∧sizedMet enc Tryz.prog Tryz.f8 (OpenSpec.ofChange Rows.treeStepsSpec) false w args)
   (Rows.treeStepsSpec.post enc Tryz.prog Tryz.f8 false true false false):=by
 refine returnsInHanded_of_change_and (C:=Tryz.checked) (X:=fun w _=>laidMetH Tryz.prog listed w) (fun _ _ _ hh h=>h.of_heap hh) ownS started (by kernel_rfl) Tryz.func8
  (ChangeSpec.witness_shaped (enc:=enc) (C:=Tryz.checked) (os:=os) (X:=fun w _=>laidMetH Tryz.prog listed w) false (World.doorLaid Tryz.prog 4000 os) #[.slice none 0 0,.string ⟨#[]⟩] 8 rfl (World.shaped_of_RefB (by kernel_rfl) (by kernel_rfl)) (by kernel_rfl) (by kernel_rfl) (by kernel_rfl) (treeSteps_met os _)) ?_
 intro W base args ds gs before hval0 hW _ hsz0 hL _
 have hval:∀ (j:Nat) t v,Tryz.f8.params[j]? = some t→args[j]? = some v→Value.okWide Tryz.prog W .any base t v:=hval0
 have hsz:(DataW.weightsEach Tryz.prog (Tryz.f8.params.toList++Rows.treeStepsSpec.plain.varTypes Tryz.prog) (ds++gs)).all (·≤reachBytes)=true:=hsz0
 have hW':=hW
 obtain ⟨p,q,hA0,hV,rfl,hfz,hnd⟩:=hW
 have hA:DataW.TrodAll enc Tryz.prog W 0 (fun _=>true) true Tryz.f8.params.toList args.toList ds p:=hA0
 rw [Tryz.params8] at hA hval hsz
 obtain ⟨v0,v1,d0,d1,p0,p1,rfl,rfl,rfl,h0,h1⟩:=trodAll_two hA
 obtain ⟨rfl,rfl⟩:=trodVars_none hV
 obtain ⟨a1,xs1,lc1,rfl,hS1,hd1⟩:=open_keys (hval 0 62 v0 rfl rfl) h0
 obtain ⟨s1,rfl,rfl,rfl,hs1⟩:=open_string Tryz.underlying9 (hval 1 9 v1 rfl rfl) h1
 have hks:∀ x ∈ xs1,x.size < 9223372036854775807:=by
  rcases hd1 with rfl | ⟨elems,spare,rfl,hx⟩
  ·simp
  ·intro x hm
   exact sized_text hsz (j:=0) rfl rfl (hx x hm)
 clear hA0 hval0 hsz0
 simp only [List.append_nil] at hW'
 have hlt1:∀ x ∈ p0,x.block < W.heap.size:=fun x hx=>hW'.lt x (by simp [hx])
 refine (treeSteps_walk a1 xs1 lc1 s1 W (laid_of hL) hS1 hks).mono fun e W' ⟨he,hb⟩=>?_
 subst he
 refine ⟨_,rfl,_,_,_,[],p0,[],hW',?_,?_,?_,hb.frame _,fun h=>by cases h⟩
 ·exact trodAll_mk1 (shut_bool Tryz.underlying4 _)
 ·have h:=trodAll_mk2 (Below.trod laidOut readRecStrs (of_decide_eq_true (by kernel_rfl)) h0 hb hlt1) (shut_string Tryz.underlying9 hs1)
  simp only [List.append_nil] at h
  exact h
 ·rfl
theorem treeSteps_said:Rows.TreeStepsSaid :=
 OpenClaim.holds_of_wide 8 Tryz.f8 rfl rfl rfl rfl rfl rfl rfl ⟨rfl,rfl,rfl,rfl,rfl⟩ rfl rfl rfl rfl rfl (by kernel_rfl) Tryz.func8 (by kernel_rfl)
  (of_decide_eq_true (by kernel_rfl)) (by unfold Func.isWrapper;rw [if_neg (of_decide_eq_false (by kernel_rfl))];exact ⟨rfl,rfl⟩)
  (fun os started H enc _=>treeSteps_lifted os started H enc)
theorem treeSteps_holds:Rows.TreeStepsCardSaid :=
 Claim7.holds_tied_plain_at .later [] [.data] true (true,"d1bb8fffae3f99fe6157575af41d3414929c98b6f192ab91bbd7f5d7f7a52cc4") false
  treeSteps_said (fun _ h=>by cases h) (by kernel_rfl) (fun _ h=>by cases h) treeSteps_row_tie rfl ⟨rfl,rfl⟩ (by kernel_rfl) rfl
  (fun f fn hf hfn=>by
   obtain rfl:f=8:=Option.some.inj ((show Tryz.prog.funcNamed "vestibule/vestibulelaw06.TreeSteps" = some 8 by kernel_rfl).symm.trans hf) |>.symm
   obtain rfl:fn=Tryz.f8:=(Option.some.inj (Tryz.func8.symm.trans hfn)).symm
   exact ⟨by kernel_rfl,fun j t ht=>by
    rw [Tryz.params8] at ht
    have hm:t ∈ [62,9]:=List.mem_of_getElem? (by simpa using ht)
    have hall:∀ t ∈ [62,9],Tryz.prog.wantsStandIn t=false:=by
     intro t ht
     simp only [List.mem_cons,List.not_mem_nil,or_false] at ht
     rcases ht with rfl | rfl <;> kernel_rfl
    exact hall t hm⟩)
  (by kernel_rfl)
#print axioms treeSteps_holds
end Go.Proofs.YtfbbjiidccbaiaaGreatDoor
