/- TreeKept: for every script and every number, the law answers true, and each argument reads afterwards as it read before. Conditions: the package variable that the row lists starts as the program's text lays it (the card ties it). -/
import Derived.Test.YtfbbjiidccbaiaaGreatDoorCards
import Derived.Test.YtfbbjiidccbaiaaGreatDoorTie
import Derived.Test.YtfbbjiidccbaiaaGreatDoorQAC
import Derived.Test.YtfbbjiidccbaiaaGreatDoorQAW
import Derived.ChangeMaps5
import Derived.SevenTiedAt
set_option maxRecDepth 100000
namespace Go.Proofs.YtfbbjiidccbaiaaGreatDoor
open Go Go.ChangeShapes Go.WideShapes Go.ChangeAt Go.RowKit
theorem weightsAll_in {H:Type} {P:Program} {e:TypeId}:∀ {l:List (DataW H)} {d:DataW H},d ∈ l→∀ n ∈ d.weights P e,n ∈ DataW.weightsAll P e l
 | d' :: r,d,hd,n,hn=>by
  simp only [DataW.weightsAll,List.mem_append]
  rcases List.mem_cons.1 hd with rfl | h
  ·exact Or.inl hn
  ·exact Or.inr (weightsAll_in h n hn)
theorem sized_key {H:Type} {ts:List TypeId} {ds:List (DataW H)} (h:(DataW.weightsEach Tryz.prog ts ds).all (·≤reachBytes)=true) {j:Nat} {elems spare:List (DataW H)} (ht:ts[j]? = some 67) (hd:ds[j]? = some (.slice elems spare)) {d:DataW H} {x:It} (hm:d ∈ elems) (hx:AG3 d x):x.f.size < 9223372036854775807:=by
 obtain ⟨a,c,rfl⟩:=hx
 have h1:x.f.data.toList.length≤reachBytes:=by
  refine of_decide_eq_true (List.all_eq_true.1 h _ (DataW.weights_mem_each ht hd _ ?_))
  simp only [DataW.weights,Tryz.underlying67,List.mem_cons,List.mem_append]
  refine Or.inr (Or.inl (weightsAll_in hm _ ?_))
  simp [DataW.weights,DataW.weightsEach,Tryz.underlying78]
 have h2:reachBytes=140737488351232:=rfl
 rw [h2] at h1
 have h3:x.f.data.toList.length=x.f.size:=by simp
 omega
theorem treeKept_met (os:Os) (args:Array Value):laidMetH Tryz.prog QN ((World.doorLaid Tryz.prog 4000 os).forCall (fun _ _=>0) ⟨#[],args,[]⟩).memory :=
 laidMetH_of_parts3 (fuel:=8) (laidMet_of_run' 8 (by kernel_rfl) (by kernel_rfl)) (by kernel_rfl) (by kernel_rfl)
set_option maxHeartbeats 1600000 in
theorem treeKept_lifted (os:Os) (started:os.Started) (H:Type) (enc:TypeId × Value→H) :
  ReturnsInHanded {} Tryz.checked os 6 .any (fun w args=>(Rows.treeKeptSpec.pre enc Tryz.prog Tryz.f6 [] false w args∧laidMetH Tryz.prog QN w)∧sizedMet enc Tryz.prog Tryz.f6 (OpenSpec.ofChange Rows.treeKeptSpec) false w args)
   (Rows.treeKeptSpec.post enc Tryz.prog Tryz.f6 false true false false):=by
 refine returnsInHanded_of_change_and (C:=Tryz.checked) (X:=fun w _=>laidMetH Tryz.prog QN w) (fun _ _ _ hh h=>h.of_heap hh) CD6 started (by kernel_rfl) Tryz.func6
  (ChangeSpec.witness_shaped (enc:=enc) (C:=Tryz.checked) (os:=os) (X:=fun w _=>laidMetH Tryz.prog QN w) false (World.doorLaid Tryz.prog 4000 os) #[.slice none 0 0,.int .i64 0] 8 rfl (World.shaped_of_RefB (by kernel_rfl) (by kernel_rfl)) (by kernel_rfl) (by kernel_rfl) (by kernel_rfl) (treeKept_met os _)) ?_
 intro W base args ds gs before hval0 hW _ hsz0 hL _
 have hval:∀ (j:Nat) t v,Tryz.f6.params[j]? = some t→args[j]? = some v→Value.okWide Tryz.prog W .any base t v:=hval0
 have hsz:(DataW.weightsEach Tryz.prog (Tryz.f6.params.toList++Rows.treeKeptSpec.plain.varTypes Tryz.prog) (ds++gs)).all (·≤reachBytes)=true:=hsz0
 have hW':=hW
 obtain ⟨p,q,hA0,hV,rfl,hfz,hnd⟩:=hW
 have hA:DataW.TrodAll enc Tryz.prog W 0 (fun _=>true) true Tryz.f6.params.toList args.toList ds p:=hA0
 rw [Tryz.params6] at hA hval hsz
 obtain ⟨v0,v1,d0,d1,p0,p1,rfl,rfl,rfl,h0,h1⟩:=trodAll_two hA
 obtain ⟨rfl,rfl⟩:=trodVars_none hV
 obtain ⟨a1,xs1,lc1,rfl,hS1,hF1,hd1⟩:=AB0 (hval 0 67 v0 rfl rfl) h0
 obtain ⟨kp,rfl,rfl,rfl,wa⟩:=open_int Tryz.underlying3 (hval 1 3 v1 rfl rfl) h1
 have hks:∀ x ∈ xs1,x.f.size < 9223372036854775807:=by
  rcases hd1 with ⟨_,rfl⟩ | ⟨elems,spare,rfl,_,hx⟩
  ·simp
  ·intro x hm
   obtain ⟨e,he,hs⟩:=hx x hm
   exact sized_key hsz (j:=0) rfl rfl he hs
 clear hA0 hval0 hsz0
 simp only [List.append_nil] at hW'
 have hlt1:∀ x ∈ p0,x.block < W.heap.size:=fun x hx=>hW'.lt x (by simp [hx])
 refine (RL a1 xs1 lc1 kp W (BS4 hL) hS1 hks).mono fun e W' ⟨he,hb⟩=>?_
 subst he
 refine ⟨_,rfl,_,_,_,[],p0,[],hW',?_,?_,?_,hb.frame _,fun h=>by cases h⟩
 ·exact trodAll_mk1 (shut_bool Tryz.underlying4 _)
 ·have h:=trodAll_mk2 (Below.trod BS5 AI4 (of_decide_eq_true (by kernel_rfl)) h0 hb hlt1) (shut_int Tryz.underlying3 wa)
  simp only [List.append_nil] at h
  exact h
 ·rfl
theorem treeKept_said:Rows.TreeKeptSaid :=
 OpenClaim.holds_of_wide 6 Tryz.f6 rfl rfl rfl rfl rfl rfl rfl ⟨rfl,rfl,rfl,rfl,rfl⟩ rfl rfl rfl rfl rfl (by kernel_rfl) Tryz.func6 (by kernel_rfl)
  (of_decide_eq_true (by kernel_rfl)) (by unfold Func.isWrapper;rw [if_neg (of_decide_eq_false (by kernel_rfl))];exact ⟨rfl,rfl⟩)
  (fun os started H enc _=>treeKept_lifted os started H enc)
theorem treeKept_holds:Rows.TreeKeptCardSaid :=
 Claim7.holds_tied_plain_at .later [] [.data] true (true,"d1bb8fffae3f99fe6157575af41d3414929c98b6f192ab91bbd7f5d7f7a52cc4") false
  treeKept_said (fun _ h=>by cases h) (by kernel_rfl) (fun _ h=>by cases h) treeKept_row_tie rfl ⟨rfl,rfl⟩ (by kernel_rfl) rfl
  (fun f fn hf hfn=>by
   obtain rfl:f=6:=Option.some.inj ((show Tryz.prog.funcNamed "vestibule/vestibulelaw06.TreeKept" = some 6 by kernel_rfl).symm.trans hf) |>.symm
   obtain rfl:fn=Tryz.f6:=(Option.some.inj (Tryz.func6.symm.trans hfn)).symm
   exact ⟨by kernel_rfl,fun j t ht=>by
    rw [Tryz.params6] at ht
    have hm:t ∈ [67,3]:=List.mem_of_getElem? (by simpa using ht)
    have hall:∀ t ∈ [67,3],Tryz.prog.wantsStandIn t=false:=by
     intro t ht
     simp only [List.mem_cons,List.not_mem_nil,or_false] at ht
     rcases ht with rfl | rfl <;> kernel_rfl
    exact hall t hm⟩)
  (by kernel_rfl)
#print axioms treeKept_holds
end Go.Proofs.YtfbbjiidccbaiaaGreatDoor
