/- TreeNobody: for every number and every string, the law answers true, and each argument reads afterwards as it read before. Conditions: the package variable that the row lists starts as the program's text lays it (the card ties it). -/
import Derived.Test.YtfbbjiidccbaiaaGreatDoorCards
import Derived.Test.YtfbbjiidccbaiaaGreatDoorTie
import Derived.Test.YtfbbjiidccbaiaaGreatDoorMAC
import Derived.Test.YtfbbjiidccbaiaaGreatDoorMAY
import Derived.ChangeMaps5
import Derived.SevenTiedAt
set_option maxRecDepth 100000
namespace Go.Proofs.YtfbbjiidccbaiaaGreatDoor
open Go Go.ChangeShapes Go.WideShapes Go.ChangeAt Go.RowKit
open Go.ChangeMaps (open_string shut_string)
theorem treeNobody_met (os:Os) (args:Array Value):laidMetH Tryz.prog listed ((World.doorLaid Tryz.prog 4000 os).forCall (fun _ _=>0) ⟨#[],args,[]⟩).memory :=
 laidMetH_of_parts3 (fuel:=8) (laidMet_of_run' 8 (by kernel_rfl) (by kernel_rfl)) (by kernel_rfl) (by kernel_rfl)
set_option maxHeartbeats 1600000 in
theorem treeNobody_lifted (os:Os) (started:os.Started) (H:Type) (enc:TypeId × Value→H) :
  ReturnsInHanded {} Tryz.checked os 7 .any (fun w args=>(Rows.treeNobodySpec.pre enc Tryz.prog Tryz.f7 [] false w args∧laidMetH Tryz.prog listed w)∧sizedMet enc Tryz.prog Tryz.f7 (OpenSpec.ofChange Rows.treeNobodySpec) false w args)
   (Rows.treeNobodySpec.post enc Tryz.prog Tryz.f7 false true false false):=by
 refine returnsInHanded_of_change_and (C:=Tryz.checked) (X:=fun w _=>laidMetH Tryz.prog listed w) (fun _ _ _ hh h=>h.of_heap hh) ownS started (by kernel_rfl) Tryz.func7
  (ChangeSpec.witness_shaped (enc:=enc) (C:=Tryz.checked) (os:=os) (X:=fun w _=>laidMetH Tryz.prog listed w) false (World.doorLaid Tryz.prog 4000 os) #[.int .i64 0,.string ⟨#[]⟩] 8 rfl (World.shaped_of_RefB (by kernel_rfl) (by kernel_rfl)) (by kernel_rfl) (by kernel_rfl) (by kernel_rfl) (treeNobody_met os _)) ?_
 intro W base args ds gs before hval0 hW _ hsz0 hL _
 have hval:∀ (j:Nat) t v,Tryz.f7.params[j]? = some t→args[j]? = some v→Value.okWide Tryz.prog W .any base t v:=hval0
 have hsz:(DataW.weightsEach Tryz.prog (Tryz.f7.params.toList++Rows.treeNobodySpec.plain.varTypes Tryz.prog) (ds++gs)).all (·≤reachBytes)=true:=hsz0
 have hW':=hW
 obtain ⟨p,q,hA0,hV,rfl,hfz,hnd⟩:=hW
 have hA:DataW.TrodAll enc Tryz.prog W 0 (fun _=>true) true Tryz.f7.params.toList args.toList ds p:=hA0
 rw [Tryz.params7] at hA hval hsz
 obtain ⟨v0,v1,d0,d1,p0,p1,rfl,rfl,rfl,h0,h1⟩:=trodAll_two hA
 obtain ⟨rfl,rfl⟩:=trodVars_none hV
 obtain ⟨a,rfl,rfl,rfl,wa⟩:=open_int Tryz.underlying3 (hval 0 3 v0 rfl rfl) h0
 obtain ⟨s1,rfl,rfl,rfl,hs1⟩:=open_string Tryz.underlying9 (hval 1 9 v1 rfl rfl) h1
 have hs2:s1.size < 9223372036854775807:=by
  have h1:=sized_string hsz (j:=1) (t:=9) rfl rfl
  have h2:reachBytes=140737488351232:=rfl
  rw [h2] at h1
  have h3:s1.data.toList.length=s1.size:=by simp
  omega
 clear hA0 hval0 hsz0
 simp only [List.append_nil] at hW'
 refine (treeNobody_walk a s1 hs2 W (laid_of hL)).mono fun e W' ⟨he,hb⟩=>?_
 subst he
 refine ⟨_,rfl,_,_,_,[],[],[],hW',?_,?_,?_,hb.frame _,fun h=>by cases h⟩
 ·exact trodAll_mk1 (shut_bool Tryz.underlying4 _)
 ·exact trodAll_mk2 (shut_int Tryz.underlying3 wa) (shut_string Tryz.underlying9 hs1)
 ·rfl
theorem treeNobody_said:Rows.TreeNobodySaid :=
 OpenClaim.holds_of_wide 7 Tryz.f7 rfl rfl rfl rfl rfl rfl rfl ⟨rfl,rfl,rfl,rfl,rfl⟩ rfl rfl rfl rfl rfl (by kernel_rfl) Tryz.func7 (by kernel_rfl)
  (of_decide_eq_true (by kernel_rfl)) (by unfold Func.isWrapper;rw [if_neg (of_decide_eq_false (by kernel_rfl))];exact ⟨rfl,rfl⟩)
  (fun os started H enc _=>treeNobody_lifted os started H enc)
theorem treeNobody_holds:Rows.TreeNobodyCardSaid :=
 Claim7.holds_tied_plain_at .later [] [.data] true (true,"d1bb8fffae3f99fe6157575af41d3414929c98b6f192ab91bbd7f5d7f7a52cc4") false
  treeNobody_said (fun _ h=>by cases h) (by kernel_rfl) (fun _ h=>by cases h) treeNobody_row_tie rfl ⟨rfl,rfl⟩ (by kernel_rfl) rfl
  (fun f fn hf hfn=>by
   obtain rfl:f=7:=Option.some.inj ((show Tryz.prog.funcNamed "vestibule/vestibulelaw06.TreeNobody" = some 7 by kernel_rfl).symm.trans hf) |>.symm
   obtain rfl:fn=Tryz.f7:=(Option.some.inj (Tryz.func7.symm.trans hfn)).symm
   exact ⟨by kernel_rfl,fun j t ht=>by
    rw [Tryz.params7] at ht
    have hm:t ∈ [3,9]:=List.mem_of_getElem? (by simpa using ht)
    have hall:∀ t ∈ [3,9],Tryz.prog.wantsStandIn t=false:=by
     intro t ht
     simp only [List.mem_cons,List.not_mem_nil,or_false] at ht
     rcases ht with rfl | rfl <;> kernel_rfl
    exact hall t hm⟩)
  (by kernel_rfl)
#print axioms treeNobody_holds
end Go.Proofs.YtfbbjiidccbaiaaGreatDoor
