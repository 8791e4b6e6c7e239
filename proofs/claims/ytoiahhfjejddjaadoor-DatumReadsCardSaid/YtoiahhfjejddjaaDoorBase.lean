/- Plain definitions over data and small lemmas: which items and data may be; where the items of a list lie. No condition. -/
import Derived.Test.YtoiahhfjejddjaaDoorProg
import Derived.WalkKit
import Derived.WalkLawsBesides
import Derived.WalkSpells
import Derived.Outline
import Derived.Below
import Derived.Lib.Hide
set_option maxRecDepth 100000
namespace Go.Proofs.YtoiahhfjejddjaaDoor
open Go.RowKit

def itemOk (k n : Int) (s : ByteArray) (ll : Nat) : Bool :=
  decide (¬ 0 < ll ∧ (k = 1 ∧ s.toList.isEmpty = true ∨ k = 2 ∧ n = 0 ∧ (s.size : Int) ≤ 32))
theorem itemOk_true {k n : Int} {s : ByteArray} {ll : Nat} (h : itemOk k n s ll = true) : ¬ 0 < ll ∧ (k = 1 ∧ s.toList.isEmpty = true ∨ k = 2 ∧ n = 0 ∧ (s.size : Int) ≤ 32) := of_decide_eq_true h
theorem itemOk_false {k n : Int} {s : ByteArray} {ll : Nat} (h : itemOk k n s ll = false) : ¬ (¬ 0 < ll ∧ (k = 1 ∧ s.toList.isEmpty = true ∨ k = 2 ∧ n = 0 ∧ (s.size : Int) ≤ 32)) := of_decide_eq_false h
theorem itemOk_of {k n : Int} {s : ByteArray} {ll : Nat} (h : ¬ 0 < ll ∧ (k = 1 ∧ s.toList.isEmpty = true ∨ k = 2 ∧ n = 0 ∧ (s.size : Int) ≤ 32)) : itemOk k n s ll = true := decide_eq_true h
theorem itemOk_not {k n : Int} {s : ByteArray} {ll : Nat} (h : ¬ (¬ 0 < ll ∧ (k = 1 ∧ s.toList.isEmpty = true ∨ k = 2 ∧ n = 0 ∧ (s.size : Int) ≤ 32))) : itemOk k n s ll = false := decide_eq_false h

/-- A datum without its items: its kind, number, text, and where its list lies. -/
structure It where
  k : Int
  n : Int
  s : ByteArray
  a : Option Addr
  ll : Nat
  lc : Nat

def It.ok (x : It) : Bool := itemOk x.k x.n x.s x.ll

/-- The cells of the items of a list that lies at block b from off on. -/
def CellsOf (w : World) (b off : Nat) (xs : List It) : Prop :=
  ∀ j (h : j < xs.length), w.cell? ⟨b, off + j * 4, none⟩ = some (.int .i64 (xs[j]'h).k) ∧ w.cell? ⟨b, off + j * 4 + 1, none⟩ = some (.int .i64 (xs[j]'h).n) ∧
    w.cell? ⟨b, off + j * 4 + 2, none⟩ = some (.string (xs[j]'h).s) ∧ w.cell? ⟨b, off + j * 4 + 3, none⟩ = some (.slice (xs[j]'h).a (xs[j]'h).ll (xs[j]'h).lc)

/-- The items xs lie where the slice's pointer points. -/
def Sl (w : World) (a : Option Addr) (xs : List It) : Prop :=
  xs = [] ∨ ∃ b off, a = some ⟨b, off, none⟩ ∧ b < w.heap.size ∧ CellsOf w b off xs

theorem Sl.below {w w' : World} {a : Option Addr} {xs : List It} {B : Nat} (h : Sl w a xs) (hb : Below B w w') (hB : w.heap.size ≤ B) : Sl w' a xs := by
  rcases h with h | ⟨b, off, ha, hlt, hc⟩
  · exact .inl h
  · refine .inr ⟨b, off, ha, ?_, fun j hj => ?_⟩
    · have := hb.size; omega
    · obtain ⟨h0, h1, h2, h3⟩ := hc j hj
      exact ⟨(hb.cell (p := ⟨b, _, none⟩) (by show b < B; omega)).trans h0, (hb.cell (p := ⟨b, _, none⟩) (by show b < B; omega)).trans h1, (hb.cell (p := ⟨b, _, none⟩) (by show b < B; omega)).trans h2, (hb.cell (p := ⟨b, _, none⟩) (by show b < B; omega)).trans h3⟩

/-- The items lie in a block below B. -/
def SlB (B : Nat) (w : World) (a : Option Addr) (xs : List It) : Prop :=
  xs = [] ∨ ∃ b off, a = some ⟨b, off, none⟩ ∧ b < B ∧ CellsOf w b off xs

theorem SlB.below {w w' : World} {a : Option Addr} {xs : List It} {B : Nat} (h : SlB B w a xs) (hb : Below B w w') : SlB B w' a xs := by
  rcases h with h | ⟨b, off, ha, hlt, hc⟩
  · exact .inl h
  · refine .inr ⟨b, off, ha, hlt, fun j hj => ?_⟩
    obtain ⟨h0, h1, h2, h3⟩ := hc j hj
    exact ⟨(hb.cell (p := ⟨b, _, none⟩) hlt).trans h0, (hb.cell (p := ⟨b, _, none⟩) hlt).trans h1, (hb.cell (p := ⟨b, _, none⟩) hlt).trans h2, (hb.cell (p := ⟨b, _, none⟩) hlt).trans h3⟩
theorem SlB.sl {w : World} {a : Option Addr} {xs : List It} {B : Nat} (h : SlB B w a xs) (hB : B ≤ w.heap.size) : Sl w a xs := by
  rcases h with h | ⟨b, off, ha, hlt, hc⟩
  · exact .inl h
  · exact .inr ⟨b, off, ha, by omega, hc⟩
theorem Sl.slB {w : World} {a : Option Addr} {xs : List It} (h : Sl w a xs) : SlB w.heap.size w a xs := h
theorem SlB.at {B : Nat} {w : World} {a : Option Addr} {xs : List It} (h : SlB B w a xs) {j : Nat} (hj : j < xs.length) :
    ∃ b off, a = some ⟨b, off, none⟩ ∧ b < B ∧ CellsOf w b off xs := by
  rcases h with rfl | h
  · simp at hj
  · exact h

theorem Sl.at {w : World} {a : Option Addr} {xs : List It} (h : Sl w a xs) {j : Nat} (hj : j < xs.length) :
    ∃ b off, a = some ⟨b, off, none⟩ ∧ b < w.heap.size ∧ CellsOf w b off xs := by
  rcases h with rfl | h
  · simp at hj
  · exact h

def listOk (n : Int) (s : ByteArray) (xs : List It) : Bool :=
  decide (n = 0 ∧ s.toList.isEmpty = true ∧ (xs.length : Int) ≤ 8) && xs.all It.ok

def dOk (k n : Int) (s : ByteArray) (xs : List It) : Bool := if k = 3 then listOk n s xs else itemOk k n s xs.length

theorem bcell {W w1 : World} (hb : Below W.heap.size W w1) : (∀ b o, b < W.heap.size → w1.cell? ⟨b, o, none⟩ = W.cell? ⟨b, o, none⟩) ∧ (∀ b o, b < W.heap.size → w1.frozen? ⟨b, o, none⟩ = W.frozen? ⟨b, o, none⟩) :=
  ⟨fun b o h => hb.cell (p := ⟨b, o, none⟩) h, fun b o h => hb.frozen (p := ⟨b, o, none⟩) h⟩

/-- A datum's own box, behind whatever was done above it. -/
theorem box_cells {w wr : World} {v0 v1 v2 v3 : Value} {T : TypeId} (hb : Below (w.heap.size + 1) (w.alloc (.cells #[v0, v1, v2, v3] T)) wr) :
    wr.cell? ⟨w.heap.size, 0, none⟩ = some v0 ∧ wr.cell? ⟨w.heap.size, 1, none⟩ = some v1 ∧ wr.cell? ⟨w.heap.size, 2, none⟩ = some v2 ∧ wr.cell? ⟨w.heap.size, 3, none⟩ = some v3 := by
  refine ⟨(hb.cell (p := ⟨w.heap.size, 0, none⟩) (by simp)).trans ?_, (hb.cell (p := ⟨w.heap.size, 1, none⟩) (by simp)).trans ?_, (hb.cell (p := ⟨w.heap.size, 2, none⟩) (by simp)).trans ?_, (hb.cell (p := ⟨w.heap.size, 3, none⟩) (by simp)).trans ?_⟩ <;>
    simp

theorem box_frozen {w wr : World} {v0 v1 v2 v3 : Value} {T : TypeId} (hb : Below (w.heap.size + 1) (w.alloc (.cells #[v0, v1, v2, v3] T)) wr) :
    wr.frozen? ⟨w.heap.size, 0, none⟩ = false ∧ wr.frozen? ⟨w.heap.size, 1, none⟩ = false ∧ wr.frozen? ⟨w.heap.size, 2, none⟩ = false ∧ wr.frozen? ⟨w.heap.size, 3, none⟩ = false := by
  refine ⟨(hb.frozen (p := ⟨w.heap.size, 0, none⟩) (by simp)).trans ?_, (hb.frozen (p := ⟨w.heap.size, 1, none⟩) (by simp)).trans ?_, (hb.frozen (p := ⟨w.heap.size, 2, none⟩) (by simp)).trans ?_, (hb.frozen (p := ⟨w.heap.size, 3, none⟩) (by simp)).trans ?_⟩ <;>
    simp

/-- What is below a world that was allocated in. -/
theorem below_al {w w' : World} (o : Obj) (h : Below (w.alloc o).heap.size (w.alloc o) w') : Below w.heap.size w w' :=
  ((Below.refl _ _).alloc (Nat.le_refl _) o).trans (h.mono (by simp))

theorem below_al2 {w w' : World} (o o2 : Obj) (h : Below ((w.alloc o).alloc o2).heap.size ((w.alloc o).alloc o2) w') : Below w.heap.size w w' :=
  below_al o (below_al o2 h)
/-- Two data's boxes. -/
theorem box_cells2 {w wr : World} {v0 v1 v2 v3 u0 u1 u2 u3 : Value} {T U : TypeId} (hb : Below (w.heap.size + 1 + 1) ((w.alloc (.cells #[v0, v1, v2, v3] T)).alloc (.cells #[u0, u1, u2, u3] U)) wr) :
    (wr.cell? ⟨w.heap.size, 0, none⟩ = some v0 ∧ wr.cell? ⟨w.heap.size, 1, none⟩ = some v1 ∧ wr.cell? ⟨w.heap.size, 2, none⟩ = some v2 ∧ wr.cell? ⟨w.heap.size, 3, none⟩ = some v3) ∧
    (wr.cell? ⟨w.heap.size + 1, 0, none⟩ = some u0 ∧ wr.cell? ⟨w.heap.size + 1, 1, none⟩ = some u1 ∧ wr.cell? ⟨w.heap.size + 1, 2, none⟩ = some u2 ∧ wr.cell? ⟨w.heap.size + 1, 3, none⟩ = some u3) := by
  refine ⟨box_cells (((Below.refl _ _).alloc (by simp) _).trans (hb.mono (by omega))), ?_⟩
  have := box_cells (w := w.alloc (.cells #[v0, v1, v2, v3] T)) (wr := wr) (v0 := u0) (v1 := u1) (v2 := u2) (v3 := u3) (T := U) (by simpa using hb)
  simpa using this

theorem below_then {B : Nat} {w wr w1 : World} (hb : Below B w wr) (hB : B ≤ w.heap.size) (h1 : Below wr.heap.size wr w1) : Below B w w1 :=
  hb.trans (h1.mono (by have := hb.size; omega))
theorem below_then_al {B : Nat} {w wr w1 : World} (hb : Below B w wr) (hB : B ≤ w.heap.size) (o : Obj) (h1 : Below (wr.alloc o).heap.size (wr.alloc o) w1) : Below B w w1 :=
  below_then hb hB (below_al o h1)
theorem below_then_al2 {B : Nat} {w wr w1 : World} (hb : Below B w wr) (hB : B ≤ w.heap.size) (o o2 : Obj) (h1 : Below ((wr.alloc o).alloc o2).heap.size ((wr.alloc o).alloc o2) w1) : Below B w w1 :=
  below_then_al hb hB o (below_al o2 h1)

end Go.Proofs.YtoiahhfjejddjaaDoor
