/- The heads as the library's heap sees them: its calls by the interface; down. -/
import Derived.Test.YtgegljbocacdnaaOE
set_option maxRecDepth 100000
namespace Go.Proofs.Ytgegljbocacdnaa
open Go.RowKit

theorem run_loadHeads (a : Addr) (v : Value) (w : World) (h : w.cell? a = some v) : (loadVar 51 a).run Try.prog w = .ok v w := by
  simp [loadVar, h]
theorem viaHeads (s : String) (a : Addr) (w : World) : ((receiverAt 56 (.val (.pointer (some a))) false (some s)).run Try.prog w) = (loadVar 51 a).run Try.prog w := by kernel_rfl
theorem met_of (f : Nat) (name : String) (g : FuncId) (hm : ((Try.prog.info? 56).bind fun i => (i.methods.find? (·.name == name)).map fun m => (m.path, m.func)) = some (#[], some (g, false))) (a : Addr) (v : Value) (w : World) (h : w.cell? a = some v) : (method (f + 1) 56 (.pointer (some a)) name).run Try.prog w = .ok (g, v) w := by
  obtain ⟨i, hi, hm⟩ := Option.bind_eq_some_iff.1 hm
  obtain ⟨m, hf, hm⟩ := Option.map_eq_some_iff.1 hm
  injection hm with h1 h2
  have e : ∀ s, (receiverAt 56 (.val (.pointer (some a))) false (some s)).run Try.prog w = .ok v w := fun s => (viaHeads s a w).trans (run_loadHeads a v w h)
  unfold method
  simp [typeInfo, hi, hf, h1, h2, follow, e]
theorem metLess (a : Addr) (v : Value) (w : World) (h : w.cell? a = some v) : (method 208 56 (.pointer (some a)) "Less").run Try.prog w = .ok (69, v) w := met_of _ _ _ (by kernel_rfl) a v w h
theorem metLen (a : Addr) (v : Value) (w : World) (h : w.cell? a = some v) : (method 208 56 (.pointer (some a)) "Len").run Try.prog w = .ok (68, v) w := met_of _ _ _ (by kernel_rfl) a v w h
theorem metSwap (a : Addr) (v : Value) (w : World) (h : w.cell? a = some v) : (method 208 56 (.pointer (some a)) "Swap").run Try.prog w = .ok (70, v) w := met_of _ _ _ (by kernel_rfl) a v w h
theorem metPush (a : Addr) (w : World) : (method 208 56 (.pointer (some a)) "Push").run Try.prog w = .ok (72, .pointer (some a)) w := by kernel_rfl
theorem metPop (a : Addr) (w : World) : (method 208 56 (.pointer (some a)) "Pop").run Try.prog w = .ok (71, .pointer (some a)) w := by kernel_rfl
theorem ahLess (a : Addr) (w : World) : (nilAhead 208 56 (.pointer (some a)) "Less").run Try.prog w = .ok (some false) w := by kernel_rfl
theorem ahLen (a : Addr) (w : World) : (nilAhead 208 56 (.pointer (some a)) "Len").run Try.prog w = .ok (some false) w := by kernel_rfl
theorem ahSwap (a : Addr) (w : World) : (nilAhead 208 56 (.pointer (some a)) "Swap").run Try.prog w = .ok (some false) w := by kernel_rfl
theorem ahPush (a : Addr) (w : World) : (nilAhead 208 56 (.pointer (some a)) "Push").run Try.prog w = .ok (some false) w := by kernel_rfl
theorem ahPop (a : Addr) (w : World) : (nilAhead 208 56 (.pointer (some a)) "Pop").run Try.prog w = .ok (some false) w := by kernel_rfl
end Go.Proofs.Ytgegljbocacdnaa
