/- Texts of the same proof, one behind the other: DK, DL, DM, DN, DO, DP, DQ. -/
import Derived.Test.YtefddiikdamnbaaGreatDoorMBB
import Derived.Test.YtefddiikdamnbaaGreatDoorMAA
/- The document's With: the entry stands where it belongs. -/
set_option maxRecDepth 100000
namespace Go.Proofs.YtefddiikdamnbaaGreatDoor.Dm
open Go Go.RowKit

def withL (es : List En) (e : En) : List En := es.takeWhile (fun x => !aheadE e.c x.c) ++ e :: es.dropWhile (fun x => !aheadE e.c x.c)
/-- What With has put behind j entries. -/
def WI (es : List En) (e : En) (j : Nat) (dn : Bool) (out : List En) : Prop :=
  (dn = false ∧ out = es.take j ∧ ∀ x, x ∈ es.take j → aheadE e.c x.c = false) ∨ (dn = true ∧ out ++ es.drop j = withL es e)
end Go.Proofs.YtefddiikdamnbaaGreatDoor.Dm

/- The document's Find: the addresses of a key; are two lists of numbers the same. -/
set_option maxRecDepth 100000
namespace Go.Proofs.YtefddiikdamnbaaGreatDoor.Dm
open Go Go.RowKit

theorem infoInt : (Tryz.prog.info? 3).map (fun i => (i.zero, i.size, i.bytes)) = some (some (.int .i64 0), 1, 8) := by kernel_rfl

/-- Numbers that lie in a row of their own, from block B on. -/
def IRow (B : Nat) (w : World) (v : Value) (l : List Int) : Prop := w.ownsRow B 3 1 v l.length (l.map (Value.int .i64))
def findL (es : List En) (d : Dt) : List Int := (es.filter fun x => decide (x.d = d)).map (·.t)
end Go.Proofs.YtefddiikdamnbaaGreatDoor.Dm

/- A method in hand, whatever it is: what each of its calls answers and leaves. -/
set_option maxRecDepth 100000
namespace Go.Proofs.YtefddiikdamnbaaGreatDoor.Dm
open Go Go.RowKit

/-- What holds now, and whatever is written of S and of memory made later. -/
def Rob (S : Nat → Prop) (w : World) (X : World → Prop) : Prop := ∀ w', Kept S w w' → X w'
theorem Rob.now {S : Nat → Prop} {w : World} {X : World → Prop} (h : Rob S w X) : X w := h w (Kept.refl S w)
theorem Rob.step {S S1 : Nat → Prop} {w w1 : World} {X : World → Prop} (h : Rob S w X) (k : Kept S w w1) (hS : ∀ i, S1 i → S i ∨ w.heap.size ≤ i) : Rob S1 w1 X := fun w' hk => h w' (k.trans hk hS)
theorem Rob.below {S : Nat → Prop} {w w1 : World} {X : World → Prop} (h : Rob S w X) (hb : Below w.heap.size w w1) : Rob S w1 X := h.step (Kept.ofBelow hb) (fun _ h => .inl h)
theorem Rob.imp {S : Nat → Prop} {w : World} {X Y : World → Prop} (h : Rob S w X) (k : ∀ w, X w → Y w) : Rob S w Y := fun w' hk => k w' (h w' hk)

/-- What Insert answers, and what there is then. -/
def insR (kinds : List Int) (l : List Et) (c : Et) : Int := if refusedE kinds c = 0 then (if c ∈ l then 160 else 0) else refusedE kinds c
def insL (kinds : List Int) (l : List Et) (c : Et) : List Et := if insR kinds l c = 0 then withE l c else l
/-- What Delete answers, and what there is then. -/
def delR (kinds : List Int) (l : List Et) (c : Et) : Int := if refusedE kinds c = 0 then (if c ∈ l then 0 else 3) else refusedE kinds c
def delL (kinds : List Int) (l : List Et) (c : Et) : List Et := if delR kinds l c = 0 then withoutE l c else l

/-- A method behind an interface: its dynamic type and value, the calls' functions; St i S w l: behind i calls it holds l, in the blocks S. -/
structure Meth (T : TypeId) (p : Value) (kinds : List Int) (lim : Nat) (St : Nat → (Nat → Prop) → World → List Et → Prop) (nI nD nF nE nC nX : FuncId) : Prop where
  mI : ∀ W, (method 419 T p "Insert").run Tryz.prog W = .ok (nI, p) W
  aI : ∀ W, (nilAhead 419 T p "Insert").run Tryz.prog W = .ok (some false) W
  eI : ∀ args W, (callFunc nI args).run Tryz.prog W = .ok (.enter nI args) W
  mD : ∀ W, (method 419 T p "Delete").run Tryz.prog W = .ok (nD, p) W
  aD : ∀ W, (nilAhead 419 T p "Delete").run Tryz.prog W = .ok (some false) W
  eD : ∀ args W, (callFunc nD args).run Tryz.prog W = .ok (.enter nD args) W
  mF : ∀ W, (method 419 T p "Find").run Tryz.prog W = .ok (nF, p) W
  aF : ∀ W, (nilAhead 419 T p "Find").run Tryz.prog W = .ok (some false) W
  eF : ∀ args W, (callFunc nF args).run Tryz.prog W = .ok (.enter nF args) W
  mE : ∀ W, (method 419 T p "Entries").run Tryz.prog W = .ok (nE, p) W
  aE : ∀ W, (nilAhead 419 T p "Entries").run Tryz.prog W = .ok (some false) W
  eE : ∀ args W, (callFunc nE args).run Tryz.prog W = .ok (.enter nE args) W
  mC : ∀ W, (method 419 T p "Check").run Tryz.prog W = .ok (nC, p) W
  aC : ∀ W, (nilAhead 419 T p "Check").run Tryz.prog W = .ok (some false) W
  eC : ∀ args W, (callFunc nC args).run Tryz.prog W = .ok (.enter nC args) W
  mX : ∀ W, (method 419 T p "Drop").run Tryz.prog W = .ok (nX, p) W
  aX : ∀ W, (nilAhead 419 T p "Drop").run Tryz.prog W = .ok (some false) W
  eX : ∀ args W, (callFunc nX args).run Tryz.prog W = .ok (.enter nX args) W
  bound : ∀ {i S w l}, St i S w l → ∀ k, S k → k < w.heap.size
  frame : ∀ {i S w w' l}, St i S w l → Kept (fun k => ¬ S k) w w' → St i S w' l
  insert : ∀ {i S w l} {e : En}, St i S w l → i < lim → Rob S w e.In → Calls Tryz.prog nI #[p, e.v] w fun r w' => ∃ S', r = .returned (.int .i64 (insR kinds l e.c)) ∧ St (i + 1) S' w' (insL kinds l e.c) ∧ Kept S w w' ∧ ∀ k, S' k → S k ∨ w.heap.size ≤ k
  delete : ∀ {i S w l} {e : En}, St i S w l → i < lim → Rob S w e.In → Calls Tryz.prog nD #[p, e.v] w fun r w' => ∃ S', r = .returned (.int .i64 (delR kinds l e.c)) ∧ St (i + 1) S' w' (delL kinds l e.c) ∧ Kept S w w' ∧ ∀ k, S' k → S k ∨ w.heap.size ≤ k
  find : ∀ {i S w l} {e : En}, St i S w l → i < lim → Rob S w e.In → Calls Tryz.prog nF #[p, e.dv] w fun r w' => ∃ S' v m, r = .returned (.tuple #[v, .int .i64 (refusedE kinds (e.d, 0))]) ∧ (∃ a c, v = .slice a (m : List Int).length c ∧ IntsW w' a m ∧ m = if refusedE kinds (e.d, 0) = 0 then findE l e.d else []) ∧ St (i + 1) S' w' l ∧ Kept S w w' ∧ ∀ k, S' k → S k ∨ w.heap.size ≤ k
  entries : ∀ {i S w l}, St i S w l → i ≤ lim → Calls Tryz.prog nE #[p] w fun r w' => ∃ S' a c es, r = .returned (.slice a (es : List En).length c) ∧ EnsW w' a es ∧ consE es = l ∧ St i S' w' l ∧ Kept S w w' ∧ ∀ k, S' k → S k ∨ w.heap.size ≤ k
  check : ∀ {i S w l}, St i S w l → i ≤ lim → Calls Tryz.prog nC #[p] w fun r w' => ∃ S', r = .returned (.bool true) ∧ St i S' w' l ∧ Kept S w w' ∧ ∀ k, S' k → S k ∨ w.heap.size ≤ k
  drop : ∀ {i S w l}, St i S w l → i < lim → Calls Tryz.prog nX #[p] w fun r w' => ∃ S', r = .returned (.int .i64 0) ∧ St (i + 1) S' w' [] ∧ Kept S w w' ∧ ∀ k, S' k → S k ∨ w.heap.size ≤ k
end Go.Proofs.YtefddiikdamnbaaGreatDoor.Dm

/- The book's Does: a call on both sides. Insert. -/
set_option maxRecDepth 100000
namespace Go.Proofs.YtefddiikdamnbaaGreatDoor.Dm
open Go Go.RowKit

/-- What a call leaves on both sides. -/
def DoesPost (St : Nat → (Nat → Prop) → World → List Et → Prop) (i : Nat) (S : Nat → Prop) (n : Nat) (L : List Et) (w : World) (r : Ending) (w' : World) : Prop :=
  ∃ S' a' c' es', r = .returned (.tuple #[.slice a' (es' : List En).length c', .bool true]) ∧ consE es' = L ∧ Rob S' w' (fun w => EnsW w a' es') ∧ es'.length ≤ n + 1 ∧ St (i + 1) S' w' L ∧ Kept S w w' ∧ ∀ k, S' k → S k ∨ w.heap.size ≤ k

end Go.Proofs.YtefddiikdamnbaaGreatDoor.Dm

/- The book's Does: Delete. -/
set_option maxRecDepth 100000
namespace Go.Proofs.YtefddiikdamnbaaGreatDoor.Dm
open Go Go.RowKit

end Go.Proofs.YtefddiikdamnbaaGreatDoor.Dm

/- The book's Does: Find, Drop, and what is no call. -/
set_option maxRecDepth 100000
namespace Go.Proofs.YtefddiikdamnbaaGreatDoor.Dm
open Go Go.RowKit

end Go.Proofs.YtefddiikdamnbaaGreatDoor.Dm

/- The book's Plays: a script on both sides. -/
set_option maxRecDepth 100000
namespace Go.Proofs.YtefddiikdamnbaaGreatDoor.Dm
open Go Go.RowKit

/-- A call of a script. -/
structure OpE where
  o : Int
  e : En
/-- A script that lies in memory. -/
structure OpsW (w : World) (a : Option Addr) (ops : List OpE) : Prop where
  lies : ops = [] ∨ ∃ b off, a = some ⟨b, off, none⟩ ∧ b < w.heap.size ∧ ∀ j (h : j < ops.length), w.cell? ⟨b, off + j * 6, none⟩ = some (.int .i64 (ops[j]'h).o) ∧ w.cell? ⟨b, off + j * 6 + 1, none⟩ = some (.int .i64 (ops[j]'h).e.k) ∧ w.cell? ⟨b, off + j * 6 + 2, none⟩ = some (.int .i64 (ops[j]'h).e.n) ∧
    w.cell? ⟨b, off + j * 6 + 3, none⟩ = some (.string (ops[j]'h).e.s) ∧ w.cell? ⟨b, off + j * 6 + 4, none⟩ = some (.slice (ops[j]'h).e.a (ops[j]'h).e.xs.length (ops[j]'h).e.lc) ∧ w.cell? ⟨b, off + j * 6 + 5, none⟩ = some (.int .i64 (ops[j]'h).e.t)
  all : ∀ x, x ∈ ops → x.e.In w

/-- What there is behind a call, behind a script. -/
def doE (kinds : List Int) (l : List Et) (x : OpE) : List Et := if x.o = 1 then insL kinds l x.e.c else if x.o = 2 then delL kinds l x.e.c else if x.o = 4 then [] else l
def playE (kinds : List Int) (ops : List OpE) : List Et := ops.foldl (doE kinds) []
/-- What a script leaves on both sides. -/
def PlaysPost (St : Nat → (Nat → Prop) → World → List Et → Prop) (S : Nat → Prop) (n : Nat) (L : List Et) (w : World) (r : Ending) (w' : World) : Prop :=
  ∃ S' a' c' es', r = .returned (.tuple #[.slice a' (es' : List En).length c', .bool true]) ∧ consE es' = L ∧ Rob S' w' (fun w => EnsW w a' es') ∧ es'.length ≤ n ∧ St n S' w' L ∧ Kept S w w' ∧ ∀ k, S' k → S k ∨ w.heap.size ≤ k

end Go.Proofs.YtefddiikdamnbaaGreatDoor.Dm
