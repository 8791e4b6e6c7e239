/- What one operation of a script leaves, whichever of the two comes first: its call or the variable that takes what it gives. -/
import Derived.Test.YtafokloeabjpgaaKS
set_option maxRecDepth 100000
namespace Go.Proofs.Ytafokloeabjpgaa
open Go.RowKit

/-- What stands behind the operation, in a world w'. -/
structure After (B : Nat) (w w2 : World) (d Q m : Nat) (S0 : Nat → Prop) (ops0 : List RawOp) (o : Option RawOp) (w' : World) (S : Nat → Prop) (ops : List RawOp) (A : Nat → Option Addr) (Ln C : Nat → Nat) : Prop where
  disk : DiskAt S d ops w'
  ref : RefF S w' A Ln C (play ops)
  len : ops.length ≤ m
  bound : ∀ k, S k → B ≤ k ∧ k < w'.heap.size
  apart : ¬ S Q
  old : Below B w w'
  kept : Kept S0 w2 w'
  less : ∀ k, k < w2.heap.size → S k → S0 k
  ops : ops = ops0 ++ o.toList
  var : w'.heap[Q]? = w2.heap[Q]?

def DPost (B : Nat) (w w2 W : World) (d Q m : Nat) (S0 : Nat → Prop) (ops0 : List RawOp) (o : Option RawOp) (e : Ending) (w' : World) : Prop :=
  ∃ S ops A Ln C, e = .returned (.tuple #[rv A Ln C ops.length, .bool true]) ∧ Hid (After B w w2 d Q m S0 ops0 o w' S ops A Ln C ∧ w2.heap.size ≤ w'.heap.size ∧ (w2.heap.size < W.heap.size → ¬ S w2.heap.size)) ∧
    Hid (∀ x, W.heap[w2.heap.size]? = some x → w'.heap[w2.heap.size]? = some x)

theorem does_post (k f n : Int) (s : ByteArray) {B : Nat} {w w2 W : World} {d Q m : Nat} {S : Nat → Prop} {ops : List RawOp} {A : Nat → Option Addr} {Ln C : Nat → Nat} (h : Two B w w2 d Q m S ops A Ln C) (hB : B ≤ w2.heap.size) (hm : m ≤ 4398046511104) (hz : s.size ≤ 9223372036854775807) (hW : Below w2.heap.size w2 W) :
    Calls Try.prog 11 #[.pointer (some ⟨d, 0, none⟩), rv A Ln C ops.length, opv k f n s] W (DPost B w w2 W d Q (m + 1) S ops (step k f n s (play ops))) := by
  have hQ := (Array.getElem?_eq_some_iff.1 h.var).1
  refine (does_any k f n s S d ops _ (play ops) ops.length W (h.disk.below hW) ⟨A, Ln, C, rfl, h.ref.below hW⟩ (fun k hk => Nat.lt_of_lt_of_le (h.bound k hk).2 hW.size) (Nat.le_trans h.len hm) (by have := h.len; omega) (play_length h.disk.1) hz).mono ?_
  rintro e w' ⟨v', b, rfl, hb, S', hD, hR, h1, h2, h3, hK⟩
  obtain rfl := hb rfl
  rw [nextF_play, nextN_len] at hR
  obtain ⟨A', Ln', C', rfl, hR⟩ := hR
  have hk2 : Kept S w2 w' := (Kept.ofBelow hW).trans hK (fun _ hi => .inl hi)
  have hl : (step k f n s (play ops)).toList.length ≤ 1 := by cases step k f n s (play ops) <;> simp
  have hsW := hW.size
  refine ⟨S', _, A', Ln', C', rfl, Lib.hid ⟨⟨hD, hR, by rw [List.length_append]; have := h.len; omega, fun k hk => ⟨(h2 k hk).elim (fun h' => (h.bound k h').1) (by omega), h3 k hk⟩, fun hs => (h2 Q hs).elim h.apart (by omega), h.old.trans (hk2.toBelow hB (fun i hi => (h.bound i hi).1)), hk2, fun k hk hs => (h2 k hs).elim id (by omega), rfl, hk2.block Q hQ h.apart⟩, hk2.size, fun hlt hs => (h2 _ hs).elim (fun h' => by have := (h.bound _ h').2; omega) (by omega)⟩, Lib.hid (fun x hx => ?_)⟩
  have hlt := (Array.getElem?_eq_some_iff.1 hx).1
  rw [hK.block _ hlt (fun hs => by have := (h.bound _ hs).2; omega)]
  exact hx

/-- Where the variable comes behind the call. -/
theorem meet1 {B : Nat} {w w2 w3 : World} {d Q m : Nat} {S0 S : Nat → Prop} {ops0 ops : List RawOp} {o : Option RawOp} {A : Nat → Option Addr} {Ln C : Nat → Nat} (h : After B w w2 d Q m S0 ops0 o w3 S ops A Ln C) (hB : B ≤ w3.heap.size) (hq : Q < w3.heap.size) :
    After B w w2 d Q m S0 ops0 o (w3.alloc (.cells (ra A Ln C ops.length) 28)) S ops A Ln C ∧ (w3.alloc (.cells (ra A Ln C ops.length) 28)).heap[w3.heap.size]? = some (.cells (ra A Ln C ops.length) 28 (0, 0)) := by
  have hb : Below w3.heap.size w3 (w3.alloc (.cells (ra A Ln C ops.length) 28)) := (Below.refl _ _).alloc (Nat.le_refl _) _
  refine ⟨⟨h.disk.below hb, h.ref.below hb, h.len, fun k hk => ⟨(h.bound k hk).1, Nat.lt_of_lt_of_le (h.bound k hk).2 hb.size⟩, h.apart, h.old.trans (hb.mono hB), h.kept.trans (Kept.ofBelow (S := fun _ => False) hb) (fun _ hi => hi.elim), h.less, h.ops, ?_⟩, heap_alloc_new w3 _⟩
  rw [← h.var]
  exact hb.block Q hq

/-- Where the variable comes ahead of the call. -/
theorem meet2 {B : Nat} {w w2 w3 : World} {d Q m : Nat} {S0 S : Nat → Prop} {ops0 ops : List RawOp} {o : Option RawOp} {A : Nat → Option Addr} {Ln C : Nat → Nat} (h : After B w w2 d Q m S0 ops0 o w3 S ops A Ln C) (hB : B ≤ w2.heap.size) (hs : ¬ S w2.heap.size) (hQ : Q < w2.heap.size) {x0 x1 x2 x3 x4 : Value}
    (hv : w3.heap[w2.heap.size]? = some (.cells #[x0, x1, x2, x3, x4] 28 (0, 0))) :
    After B w w2 d Q m S0 ops0 o (set5 w3 w2.heap.size (.slice (A 0) (Ln 0) (C 0)) (.slice (A 1) (Ln 1) (C 1)) (.slice (A 2) (Ln 2) (C 2)) (.slice (A 3) (Ln 3) (C 3)) (.int .i64 ops.length)) S ops A Ln C ∧
      (set5 w3 w2.heap.size (.slice (A 0) (Ln 0) (C 0)) (.slice (A 1) (Ln 1) (C 1)) (.slice (A 2) (Ln 2) (C 2)) (.slice (A 3) (Ln 3) (C 3)) (.int .i64 ops.length)).heap[w2.heap.size]? = some (.cells (ra A Ln C ops.length) 28 (0, 0)) := by
  have hg := set5_grown w3 w2.heap.size (.slice (A 0) (Ln 0) (C 0)) (.slice (A 1) (Ln 1) (C 1)) (.slice (A 2) (Ln 2) (C 2)) (.slice (A 3) (Ln 3) (C 3)) (.int .i64 ops.length)
  have hlt := (Array.getElem?_eq_some_iff.1 hv).1
  refine ⟨⟨h.disk.kept (Kept.ofGrown (S := fun k => k = w2.heap.size) hg (fun k hk => by simpa using hk.symm)) (fun k _ hs' hk => hs (hk ▸ hs')), refF_28 h.ref hg (fun k hk => by cases hk; exact ⟨_, hv⟩), h.len, fun k hk => ⟨(h.bound k hk).1, Nat.lt_of_lt_of_le (h.bound k hk).2 hg.size⟩, h.apart,
    h.old.trans ⟨hg.os, hg.tape, hg.output, hg.size, fun k hk => hg.block k (by omega) (fun e => by cases e; omega)⟩, h.kept.trans (Kept.ofGrown (S := fun k => k = w2.heap.size) hg (fun k hk => by simpa using hk.symm)) (fun i hi => .inr (by omega)), h.less, h.ops, ?_⟩, ?_⟩
  · rw [hg.block Q (by omega) (fun e => by cases e; omega)]
    exact h.var
  · have h0 := _root_.Go.heap_setCell_same w3 w2.heap.size 0 _ 28 (.slice (A 0) (Ln 0) (C 0)) hv
    have h1 := _root_.Go.heap_setCell_same _ w2.heap.size 1 _ 28 (.slice (A 1) (Ln 1) (C 1)) h0
    have h2 := _root_.Go.heap_setCell_same _ w2.heap.size 2 _ 28 (.slice (A 2) (Ln 2) (C 2)) h1
    have h3 := _root_.Go.heap_setCell_same _ w2.heap.size 3 _ 28 (.slice (A 3) (Ln 3) (C 3)) h2
    have h4 := _root_.Go.heap_setCell_same _ w2.heap.size 4 _ 28 (.int .i64 ops.length) h3
    exact h4
end Go.Proofs.Ytafokloeabjpgaa
