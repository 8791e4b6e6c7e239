/- A method in hand, whatever it is: what each of its calls answers and leaves. -/
import Derived.Test.YtnnmigglcpkomaaDL
import Derived.Test.YtnnmigglcpkomaaGK
set_option maxRecDepth 100000
namespace Go.Proofs.Ytnnmigglcpkomaa.Dm
open Go Go.RowKit

/-- What holds now, and whatever is written of S and of memory made later. -/
def Rob (S : Nat → Prop) (w : World) (X : World → Prop) : Prop := ∀ w', Kept S w w' → X w'
theorem Rob.now {S : Nat → Prop} {w : World} {X : World → Prop} (h : Rob S w X) : X w := h w (Kept.refl S w)
theorem Rob.step {S S1 : Nat → Prop} {w w1 : World} {X : World → Prop} (h : Rob S w X) (k : Kept S w w1) (hS : ∀ i, S1 i → S i ∨ w.heap.size ≤ i) : Rob S1 w1 X := fun w' hk => h w' (k.trans hk hS)
theorem Rob.below {S : Nat → Prop} {w w1 : World} {X : World → Prop} (h : Rob S w X) (hb : Below w.heap.size w w1) : Rob S w1 X := h.step (Kept.ofBelow hb) (fun _ h => .inl h)
theorem Rob.and {S : Nat → Prop} {w : World} {X Y : World → Prop} (h : Rob S w X) (k : Rob S w Y) : Rob S w (fun w => X w ∧ Y w) := fun w' hk => ⟨h w' hk, k w' hk⟩
theorem Rob.imp {S : Nat → Prop} {w : World} {X Y : World → Prop} (h : Rob S w X) (k : ∀ w, X w → Y w) : Rob S w Y := fun w' hk => k w' (h w' hk)

/-- A row made since S was bounded stands whatever S does. -/
theorem Rows.rob {S : Nat → Prop} {B : Nat} {w : World} {v : Value} {es : List En} (h : Rows B w v es) (hS : ∀ k, S k → k < B) : Rob S w (fun w' => Rows B w' v es) := fun _ hk =>
  ownsRow_of_block h fun k h1 => hk.block k (h.lt k h1).2 (fun hs => by have := hS k hs; have := (h.lt k h1).1; omega)

/-- What Insert answers, and what there is then. -/
def insR (kinds : List Int) (l : List Et) (c : Et) : Int := if refusedE kinds c = 0 then (if c ∈ l then 160 else 0) else refusedE kinds c
def insL (kinds : List Int) (l : List Et) (c : Et) : List Et := if insR kinds l c = 0 then withE l c else l
/-- What Delete answers, and what there is then. -/
def delR (kinds : List Int) (l : List Et) (c : Et) : Int := if refusedE kinds c = 0 then (if c ∈ l then 0 else 3) else refusedE kinds c
def delL (kinds : List Int) (l : List Et) (c : Et) : List Et := if delR kinds l c = 0 then withoutE l c else l

/-- A method behind an interface: its dynamic type and value, the calls' functions; St i S w l: behind i calls it holds l, in the blocks S. -/
structure Meth (T : TypeId) (p : Value) (kinds : List Int) (lim : Nat) (St : Nat → (Nat → Prop) → World → List Et → Prop) (nI nD nF nE nC nX : FuncId) : Prop where
  mI : ∀ W, (method 276 T p "Insert").run Try.prog W = .ok (nI, p) W
  aI : ∀ W, (nilAhead 276 T p "Insert").run Try.prog W = .ok (some false) W
  eI : ∀ args W, (callFunc nI args).run Try.prog W = .ok (.enter nI args) W
  mD : ∀ W, (method 276 T p "Delete").run Try.prog W = .ok (nD, p) W
  aD : ∀ W, (nilAhead 276 T p "Delete").run Try.prog W = .ok (some false) W
  eD : ∀ args W, (callFunc nD args).run Try.prog W = .ok (.enter nD args) W
  mF : ∀ W, (method 276 T p "Find").run Try.prog W = .ok (nF, p) W
  aF : ∀ W, (nilAhead 276 T p "Find").run Try.prog W = .ok (some false) W
  eF : ∀ args W, (callFunc nF args).run Try.prog W = .ok (.enter nF args) W
  mE : ∀ W, (method 276 T p "Entries").run Try.prog W = .ok (nE, p) W
  aE : ∀ W, (nilAhead 276 T p "Entries").run Try.prog W = .ok (some false) W
  eE : ∀ args W, (callFunc nE args).run Try.prog W = .ok (.enter nE args) W
  mC : ∀ W, (method 276 T p "Check").run Try.prog W = .ok (nC, p) W
  aC : ∀ W, (nilAhead 276 T p "Check").run Try.prog W = .ok (some false) W
  eC : ∀ args W, (callFunc nC args).run Try.prog W = .ok (.enter nC args) W
  mX : ∀ W, (method 276 T p "Drop").run Try.prog W = .ok (nX, p) W
  aX : ∀ W, (nilAhead 276 T p "Drop").run Try.prog W = .ok (some false) W
  eX : ∀ args W, (callFunc nX args).run Try.prog W = .ok (.enter nX args) W
  bound : ∀ {i S w l}, St i S w l → ∀ k, S k → k < w.heap.size
  frame : ∀ {i S w w' l}, St i S w l → Kept (fun k => ¬ S k) w w' → St i S w' l
  insert : ∀ {i S w l} {e : En}, St i S w l → i < lim → Rob S w e.In → Calls Try.prog nI #[p, e.v] w fun r w' => ∃ S', r = .returned (.int .i64 (insR kinds l e.c)) ∧ St (i + 1) S' w' (insL kinds l e.c) ∧ Kept S w w' ∧ ∀ k, S' k → S k ∨ w.heap.size ≤ k
  delete : ∀ {i S w l} {e : En}, St i S w l → i < lim → Rob S w e.In → Calls Try.prog nD #[p, e.v] w fun r w' => ∃ S', r = .returned (.int .i64 (delR kinds l e.c)) ∧ St (i + 1) S' w' (delL kinds l e.c) ∧ Kept S w w' ∧ ∀ k, S' k → S k ∨ w.heap.size ≤ k
  find : ∀ {i S w l} {e : En}, St i S w l → i < lim → Rob S w e.In → Calls Try.prog nF #[p, e.dv] w fun r w' => ∃ S' v m, r = .returned (.tuple #[v, .int .i64 (refusedE kinds (e.d, 0))]) ∧ (∃ a c, v = .slice a (m : List Int).length c ∧ IntsW w' a m ∧ m = if refusedE kinds (e.d, 0) = 0 then findE l e.d else []) ∧ St (i + 1) S' w' l ∧ Kept S w w' ∧ ∀ k, S' k → S k ∨ w.heap.size ≤ k
  entries : ∀ {i S w l}, St i S w l → i ≤ lim → Calls Try.prog nE #[p] w fun r w' => ∃ S' a c es, r = .returned (.slice a (es : List En).length c) ∧ EnsW w' a es ∧ consE es = l ∧ St i S' w' l ∧ Kept S w w' ∧ ∀ k, S' k → S k ∨ w.heap.size ≤ k
  check : ∀ {i S w l}, St i S w l → i ≤ lim → Calls Try.prog nC #[p] w fun r w' => ∃ S', r = .returned (.bool true) ∧ St i S' w' l ∧ Kept S w w' ∧ ∀ k, S' k → S k ∨ w.heap.size ≤ k
  drop : ∀ {i S w l}, St i S w l → i < lim → Calls Try.prog nX #[p] w fun r w' => ∃ S', r = .returned (.int .i64 0) ∧ St (i + 1) S' w' [] ∧ Kept S w w' ∧ ∀ k, S' k → S k ∨ w.heap.size ≤ k
end Go.Proofs.Ytnnmigglcpkomaa.Dm
