/- The document's disk in a variable of the law, beside the disk. No program's function is met here. -/
import Derived.Test.YtafokloeabjpgaaKO
import Derived.Test.YtafokloeabjpgaaKQ
import Derived.Test.YtafokloeabjpgaaKR
set_option maxRecDepth 100000
namespace Go.Proofs.Ytafokloeabjpgaa
open Go.RowKit

theorem nextF_play (ops : List RawOp) (o : Option RawOp) : nextF (play ops) o = play (ops ++ o.toList) := by
  cases o with
  | none => simp [nextF]
  | some o => simp [nextF, play_snoc]
theorem nextN_len (ops : List RawOp) (o : Option RawOp) : nextN ops.length o = (ops ++ o.toList).length := by
  cases o <;> simp [nextN]

def set5 (w : World) (Q : Nat) (x0 x1 x2 x3 x4 : Value) : World := ((((w.setCell ⟨Q, 0, none⟩ x0).setCell ⟨Q, 1, none⟩ x1).setCell ⟨Q, 2, none⟩ x2).setCell ⟨Q, 3, none⟩ x3).setCell ⟨Q, 4, none⟩ x4

theorem grownBy_trans {a b c : World} {r : Option Nat} (h : a.grownBy b r) (k : b.grownBy c r) : a.grownBy c r :=
  ⟨k.os.trans h.os, k.tape.trans h.tape, k.output.trans h.output, Nat.le_trans h.size k.size, fun i hi hne => (k.block i (Nat.lt_of_lt_of_le hi h.size) hne).trans (h.block i hi hne)⟩
theorem set5_grown (w : World) (Q : Nat) (x0 x1 x2 x3 x4 : Value) : w.grownBy (set5 w Q x0 x1 x2 x3 x4) (some Q) :=
  grownBy_trans (grownBy_trans (grownBy_trans (grownBy_trans (Lib.grownBy_setCell _ _ _ _) (Lib.grownBy_setCell _ _ _ _)) (Lib.grownBy_setCell _ _ _ _)) (Lib.grownBy_setCell _ _ _ _)) (Lib.grownBy_setCell _ _ _ _)

theorem refF_28 {S : Nat → Prop} {w w' : World} {A : Nat → Option Addr} {Ln C : Nat → Nat} {F : Nat → List UInt8} {r : Option Nat} (h : RefF S w A Ln C F) (hg : w.grownBy w' r) (h28 : ∀ k, r = some k → Holds28 k w) : RefF S w' A Ln C F := by
  intro i hi
  refine ⟨ownsRow_of_block (h i hi).1 (fun k hk => hg.block k (World.ownsRow.lt (h i hi).1 k hk).2 (fun e => ?_)), (h i hi).2⟩
  obtain ⟨c, hc⟩ := h28 k e.symm
  rcases (h i hi).1.2 with ⟨hv0, _⟩ | ⟨g, cap, cur, hv0, _, hg', _⟩
  · rw [hv0] at hk; simp [Value.ownBlock] at hk
  · rw [hv0] at hk
    simp [Value.ownBlock] at hk
    subst hk
    rw [hc] at hg'
    simp at hg'

/-- The cells of the document's disk. -/
abbrev ra (A : Nat → Option Addr) (Ln C : Nat → Nat) (N : Nat) : Array Value :=
  #[.slice (A 0) (Ln 0) (C 0), .slice (A 1) (Ln 1) (C 1), .slice (A 2) (Ln 2) (C 2), .slice (A 3) (Ln 3) (C 3), .int .i64 N]

/-- A disk of the call's own and the document's in block Q, both behind the same raw writes, at most m; of what was there nothing has changed. -/
structure Two (B : Nat) (w wr : World) (d Q m : Nat) (S : Nat → Prop) (ops : List RawOp) (A : Nat → Option Addr) (Ln C : Nat → Nat) : Prop where
  disk : DiskAt S d ops wr
  ref : RefF S wr A Ln C (play ops)
  var : wr.heap[Q]? = some (.cells (ra A Ln C ops.length) 28 (0, 0))
  len : ops.length ≤ m
  bound : ∀ k, S k → B ≤ k ∧ k < wr.heap.size
  apart : ¬ S Q
  up : B ≤ Q
  old : Below B w wr

theorem Two.below {B : Nat} {w wr w' : World} {d Q m : Nat} {S : Nat → Prop} {ops : List RawOp} {A : Nat → Option Addr} {Ln C : Nat → Nat} (h : Two B w wr d Q m S ops A Ln C) (hb : Below wr.heap.size wr w') (hB : B ≤ wr.heap.size) : Two B w w' d Q m S ops A Ln C :=
  ⟨h.disk.below hb, h.ref.below hb, by rw [hb.block Q (Array.getElem?_eq_some_iff.1 h.var).1]; exact h.var, h.len, fun k hk => ⟨(h.bound k hk).1, Nat.lt_of_lt_of_le (h.bound k hk).2 hb.size⟩, h.apart, h.up, h.old.trans (hb.mono hB)⟩

theorem two_step {B : Nat} {w w3 : World} {d Q m : Nat} {S : Nat → Prop} {ops : List RawOp} {A : Nat → Option Addr} {Ln C : Nat → Nat} (hD : DiskAt S d ops w3) (hR : RefF S w3 A Ln C (play ops)) (hb : ∀ k, S k → B ≤ k ∧ k < w3.heap.size) (hq : ¬ S Q) (hQ : B ≤ Q) {x0 x1 x2 x3 x4 : Value}
    (hv : w3.heap[Q]? = some (.cells #[x0, x1, x2, x3, x4] 28 (0, 0))) (hw : Below B w w3) (hl : ops.length ≤ m) :
    Two B w (set5 w3 Q (.slice (A 0) (Ln 0) (C 0)) (.slice (A 1) (Ln 1) (C 1)) (.slice (A 2) (Ln 2) (C 2)) (.slice (A 3) (Ln 3) (C 3)) (.int .i64 ops.length)) d Q m S ops A Ln C := by
  have hg := set5_grown w3 Q (.slice (A 0) (Ln 0) (C 0)) (.slice (A 1) (Ln 1) (C 1)) (.slice (A 2) (Ln 2) (C 2)) (.slice (A 3) (Ln 3) (C 3)) (.int .i64 ops.length)
  refine ⟨hD.kept (Kept.ofGrown (S := fun k => k = Q) hg (fun k hk => by simpa using hk.symm)) (fun k _ hs hk => hq (hk ▸ hs)), refF_28 hR hg (fun k hk => by cases hk; exact ⟨_, hv⟩), ?_, hl, fun k hk => ⟨(hb k hk).1, Nat.lt_of_lt_of_le (hb k hk).2 hg.size⟩, hq, hQ, hw.trans ⟨hg.os, hg.tape, hg.output, hg.size, fun k hk => hg.block k (by have := (Array.getElem?_eq_some_iff.1 hv).1; omega) (fun e => by cases e; omega)⟩⟩
  have h0 := _root_.Go.heap_setCell_same w3 Q 0 _ 28 (.slice (A 0) (Ln 0) (C 0)) hv
  have h1 := _root_.Go.heap_setCell_same _ Q 1 _ 28 (.slice (A 1) (Ln 1) (C 1)) h0
  have h2 := _root_.Go.heap_setCell_same _ Q 2 _ 28 (.slice (A 2) (Ln 2) (C 2)) h1
  have h3 := _root_.Go.heap_setCell_same _ Q 3 _ 28 (.slice (A 3) (Ln 3) (C 3)) h2
  have h4 := _root_.Go.heap_setCell_same _ Q 4 _ 28 (.int .i64 ops.length) h3
  exact h4
end Go.Proofs.Ytafokloeabjpgaa
