/- The disk, the document's disk of now and those of all times. No program's function is met here. -/
import Derived.Test.YtafokloeabjpgaaKU
import Derived.Test.YtafokloeabjpgaaKT
set_option maxRecDepth 100000
namespace Go.Proofs.Ytafokloeabjpgaa
open Go.RowKit

/-- The slice va holds the document's disks behind the first k raw writes, for each k. -/
structure Hist (B : Nat) (wr : World) (Q : Nat) (S : Nat → Prop) (ops : List RawOp) (va : Value) (AA : Nat → Nat → Option Addr) (LL CC : Nat → Nat → Nat) : Prop where
  row : wr.ownsRow 0 28 5 va (ops.length + 1) (times AA LL CC (ops.length + 1))
  refs : ∀ k, k ≤ ops.length → RefF S wr (AA k) (LL k) (CC k) (play (ops.take k))
  blk : ∀ k, va.ownBlock = some k → ¬ S k ∧ B ≤ k ∧ k ≠ Q

theorem row_holds {w : World} {va : Value} {n : Nat} {xs : List Value} (h : w.ownsRow 0 28 5 va n xs) : ∀ k, va.ownBlock = some k → Holds28 k w := by
  intro k hk
  rcases h.2 with ⟨rfl, _⟩ | ⟨g, cap, cur, rfl, _, hg, _⟩
  · simp [Value.ownBlock] at hk
  · simp [Value.ownBlock] at hk
    subst hk
    exact ⟨cur, hg⟩

theorem refF_kept2 {S S' : Nat → Prop} {w w' : World} {A : Nat → Option Addr} {Ln C : Nat → Nat} {F : Nat → List UInt8} (h : RefF S w A Ln C F) (hk : Kept S w w') (hS : ∀ k, k < w.heap.size → S' k → S k) : RefF S' w' A Ln C F :=
  fun i hi => ⟨ownsRow_of_block (h i hi).1 (fun k hkk => hk.block k (World.ownsRow.lt (h i hi).1 k hkk).2 ((h i hi).2 k hkk)), fun k hkk hs => (h i hi).2 k hkk (hS k (World.ownsRow.lt (h i hi).1 k hkk).2 hs)⟩

theorem Hist.kept {B : Nat} {w w' : World} {Q : Nat} {S S' : Nat → Prop} {ops : List RawOp} {va : Value} {AA : Nat → Nat → Option Addr} {LL CC : Nat → Nat → Nat} (h : Hist B w Q S ops va AA LL CC) (hk : Kept S w w') (hS : ∀ k, k < w.heap.size → S' k → S k) : Hist B w' Q S' ops va AA LL CC :=
  ⟨ownsRow_of_block h.row (fun k hkk => hk.block k (h.row.lt k hkk).2 (h.blk k hkk).1), fun k hkl => refF_kept2 (h.refs k hkl) hk hS, fun k hkk => ⟨fun hs => (h.blk k hkk).1 (hS k (h.row.lt k hkk).2 hs), (h.blk k hkk).2⟩⟩
theorem Hist.below {B : Nat} {w w' : World} {Q : Nat} {S : Nat → Prop} {ops : List RawOp} {va : Value} {AA : Nat → Nat → Option Addr} {LL CC : Nat → Nat → Nat} (h : Hist B w Q S ops va AA LL CC) (hk : Below w.heap.size w w') : Hist B w' Q S ops va AA LL CC :=
  h.kept (Kept.ofBelow hk) (fun _ _ h => h)
theorem Hist.set5 {B : Nat} {w : World} {Q : Nat} {S : Nat → Prop} {ops : List RawOp} {va : Value} {AA : Nat → Nat → Option Addr} {LL CC : Nat → Nat → Nat} (h : Hist B w Q S ops va AA LL CC) (hQ : Holds28 Q w) (x0 x1 x2 x3 x4 : Value) : Hist B (set5 w Q x0 x1 x2 x3 x4) Q S ops va AA LL CC := by
  have hg := set5_grown w Q x0 x1 x2 x3 x4
  exact ⟨ownsRow_of_block h.row (fun k hkk => hg.block k (h.row.lt k hkk).2 (fun e => (h.blk k hkk).2.2 (by cases e; rfl))), fun k hkl => refF_28 (h.refs k hkl) hg (fun j hj => by cases hj; exact hQ), h.blk⟩

theorem hist_append {B : Nat} {w w4 : World} {Q : Nat} {S : Nat → Prop} {ops : List RawOp} {o : RawOp} {va va' : Value} {AA : Nat → Nat → Option Addr} {LL CC : Nat → Nat → Nat} {A : Nat → Option Addr} {Ln C : Nat → Nat} (h : Hist B w Q S ops va AA LL CC)
    (hrow : w4.ownsRow 0 28 5 va' (ops.length + 1 + 1) (times AA LL CC (ops.length + 1) ++ rc A Ln C (ops.length + 1))) (hg : Grew w w4 va va') (hR : RefF S w A Ln C (play (ops ++ [o]))) (hS : ∀ k, S k → k < w.heap.size) (hQ : Q < w.heap.size) (hB : B ≤ w.heap.size) :
    Hist B w4 Q S (ops ++ [o]) va' (upd AA (ops.length + 1) A) (upd LL (ops.length + 1) Ln) (upd CC (ops.length + 1) C) := by
  have hlen : (ops ++ [o]).length = ops.length + 1 := by simp
  refine ⟨?_, ?_, ?_⟩
  · rw [hlen, times_snoc]
    exact hrow
  · intro k hk
    rw [hlen] at hk
    by_cases hk1 : k = ops.length + 1
    · subst hk1
      simp only [upd_same]
      rw [List.take_of_length_le (by rw [hlen]; exact Nat.le_refl _)]
      exact refF_28 hR hg.1 (row_holds h.row)
    · simp only [upd_other _ _ hk1]
      rw [List.take_append_of_le_length (by omega)]
      exact refF_28 (h.refs k (by omega)) hg.1 (row_holds h.row)
  · intro k hk
    rcases hg.2 k hk with h1 | h1
    · exact h.blk k h1
    · exact ⟨fun hs => by have := hS k hs; omega, by omega, by omega⟩

/-- What stands behind the append. -/
theorem after_append {B : Nat} {w w2 wc w4 : World} {d Q m b10 : Nat} {S0 S : Nat → Prop} {ops0 ops : List RawOp} {o : Option RawOp} {A : Nat → Option Addr} {Ln C : Nat → Nat} {va va' : Value} {AA : Nat → Nat → Option Addr} {LL CC : Nat → Nat → Nat} {ob : Obj} (h : After B w w2 d Q m S0 ops0 o wc S ops A Ln C)
    (hh : Hist B wc Q S ops0 va AA LL CC) (hg : Grew (wc.alloc ob) w4 va va') (hQ : Q < wc.heap.size) (hB : B ≤ wc.heap.size) (hb : b10 < wc.heap.size) (hbv : va.ownBlock ≠ some b10) :
    DiskAt S d ops w4 ∧ RefF S w4 A Ln C (play ops) ∧ (∀ k, S k → B ≤ k ∧ k < w4.heap.size) ∧ Below B w w4 ∧ w4.heap[Q]? = w2.heap[Q]? ∧ w4.heap[b10]? = wc.heap[b10]? := by
  have hal : Below wc.heap.size wc (wc.alloc ob) := (Below.refl _ _).alloc (Nat.le_refl _) _
  have hsz : (wc.alloc ob).heap.size = wc.heap.size + 1 := by simp
  have hold : ∀ k, k < wc.heap.size → va.ownBlock ≠ some k → w4.heap[k]? = wc.heap[k]? := fun k hk hne => (hg.1.block k (by omega) (fun e => hne e.symm)).trans (hal.block k hk)
  have h28 : ∀ k, va.ownBlock = some k → Holds28 k (wc.alloc ob) := fun k hk => by
    obtain ⟨c, hc⟩ := row_holds hh.row k hk
    exact ⟨c, by rw [hal.block k (hh.row.lt k hk).2]; exact hc⟩
  have hs4 := hg.1.size
  refine ⟨?_, refF_28 (h.ref.below hal) hg.1 h28, fun k hk => ⟨(h.bound k hk).1, by have := (h.bound k hk).2; omega⟩, ?_, ?_, hold b10 hb hbv⟩
  · exact (h.disk.below hal).kept (Kept.ofGrown (S := fun k => va.ownBlock = some k) hg.1 (fun k hk => hk)) (fun k _ hs hk => (hh.blk k hk).1 hs)
  · refine h.old.trans ⟨hg.1.os.trans hal.os, hg.1.tape.trans hal.tape, hg.1.output.trans hal.output, by omega, fun k hk => ?_⟩
    by_cases hv : va.ownBlock = some k
    · have := (hh.blk k hv).2.1
      omega
    · exact hold k (by omega) hv
  · rw [hold Q hQ (fun e => (hh.blk Q e).2.2 rfl)]
    exact h.var
end Go.Proofs.Ytafokloeabjpgaa
