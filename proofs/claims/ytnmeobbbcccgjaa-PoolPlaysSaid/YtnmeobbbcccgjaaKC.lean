/- What a disk holds (its files, its raw writes), where it lies, and what of it stands when something is written. No program's function is met here. -/
import Derived.Test.YtnmeobbbcccgjaaKB
set_option maxRecDepth 100000
namespace Go.Proofs.Ytnmeobbbcccgjaa
open Go.RowKit

/-- Of the blocks that were there just those of S may have been written. -/
structure Kept (S : Nat → Prop) (w w' : World) : Prop where
  os : w'.os = w.os
  tape : w'.tape = w.tape
  output : w'.output = w.output
  size : w.heap.size ≤ w'.heap.size
  block : ∀ k, k < w.heap.size → ¬ S k → w'.heap[k]? = w.heap[k]?

def More (S : Nat → Prop) (n : Nat) : Nat → Prop := fun k => S k ∨ n ≤ k

theorem Kept.refl (S : Nat → Prop) (w : World) : Kept S w w := ⟨rfl, rfl, rfl, Nat.le_refl _, fun _ _ _ => rfl⟩
theorem Kept.trans {S T : Nat → Prop} {a b c : World} (h : Kept S a b) (k : Kept T b c) (hT : ∀ i, T i → S i ∨ a.heap.size ≤ i) : Kept S a c :=
  ⟨k.os.trans h.os, k.tape.trans h.tape, k.output.trans h.output, Nat.le_trans h.size k.size, fun i hi hs => (k.block i (Nat.lt_of_lt_of_le hi h.size) (fun ht => (hT i ht).elim hs (by omega))).trans (h.block i hi hs)⟩
theorem Kept.trans' {S : Nat → Prop} {a b c : World} (h : Kept S a b) (k : Kept (More S a.heap.size) b c) : Kept S a c := h.trans k (fun _ hi => hi)
theorem Kept.mono {S T : Nat → Prop} {a b : World} (h : Kept S a b) (hS : ∀ i, S i → T i) : Kept T a b := ⟨h.os, h.tape, h.output, h.size, fun i hi ht => h.block i hi (fun hs => ht (hS i hs))⟩
theorem Kept.ofBelow {S : Nat → Prop} {a b : World} (h : Below a.heap.size a b) : Kept S a b := ⟨h.os, h.tape, h.output, h.size, fun i hi _ => h.block i hi⟩
theorem Kept.toBelow {S : Nat → Prop} {a b : World} {B : Nat} (h : Kept S a b) (hB : B ≤ a.heap.size) (hS : ∀ i, S i → B ≤ i) : Below B a b :=
  ⟨h.os, h.tape, h.output, h.size, fun i hi => h.block i (by omega) (fun hs => by have := hS i hs; omega)⟩
theorem Kept.ofGrown {S : Nat → Prop} {a b : World} {r : Option Nat} (h : a.grownBy b r) (hr : ∀ k, r = some k → S k) : Kept S a b :=
  ⟨h.os, h.tape, h.output, h.size, fun i hi hs => h.block i hi (fun e => hs (hr i e.symm))⟩
theorem Kept.setCell (S : Nat → Prop) (w : World) {b i : Nat} (hb : S b) (v : Value) : Kept S w (w.setCell ⟨b, i, none⟩ v) :=
  ⟨rfl, rfl, rfl, by simp [World.setCell], fun k _ hk => Below.heap_setCell _ _ _ _ (fun e => hk (by simp at e; exact e ▸ hb))⟩

theorem ownsRow_of_block {w w' : World} {B e n : Nat} {v : Value} {xs : List Value} {sz : Nat} (h : w.ownsRow B e sz v n xs) (hb : ∀ k, v.ownBlock = some k → w'.heap[k]? = w.heap[k]?) : w'.ownsRow B e sz v n xs := by
  refine ⟨h.1, ?_⟩
  rcases h.2 with hn | ⟨g, cap, cur, rfl, hB, hg, r⟩
  · exact .inl hn
  · exact .inr ⟨g, cap, cur, rfl, hB, by rw [hb g rfl]; exact hg, r⟩

/-- A raw write. -/
inductive RawOp where
  | put (f at' : Nat) (s : ByteArray)
  | trim (f n : Nat)

def putL (l : List UInt8) (at' : Nat) (cs : List UInt8) : List UInt8 := splice (l ++ List.replicate (at' + cs.length - l.length) 0) at' cs
def upd {α : Type} (F : Nat → α) (f : Nat) (x : α) : Nat → α := fun i => if i = f then x else F i
theorem upd_same {α : Type} (F : Nat → α) (f : Nat) (x : α) : upd F f x f = x := by simp [upd]
theorem upd_other {α : Type} (F : Nat → α) {f i : Nat} (x : α) (h : i ≠ f) : upd F f x i = F i := by simp [upd, h]
theorem putL_length (l : List UInt8) (at' : Nat) (cs : List UInt8) : (putL l at' cs).length = max l.length (at' + cs.length) := by
  unfold putL
  rw [length_splice]
  · simp; omega
  · simp; omega

def RawOp.val : RawOp → Value
  | .put f at' s => .iface 82 (.agg #[.int .i64 f, .int .i64 at', .string s])
  | .trim f n => .iface 84 (.agg #[.int .i64 f, .int .i64 n])
def RawOp.run : RawOp → (Nat → List UInt8) → (Nat → List UInt8)
  | .put f at' s, F => upd F f (putL (F f) at' s.data.toList)
  | .trim f n, F => upd F f ((F f).take n)
def RawOp.Ok : RawOp → (Nat → List UInt8) → Prop
  | .put f at' s, _ => f < 4 ∧ at' + s.size ≤ 4194304
  | .trim f n, F => f < 4 ∧ n ≤ (F f).length
def play (ops : List RawOp) : Nat → List UInt8 := ops.foldl (fun F o => o.run F) (fun _ => [])
def OkAll (ops : List RawOp) : Prop := ∀ (i : Nat) (o : RawOp), ops[i]? = some o → RawOp.Ok o (play (ops.take i))

theorem play_nil : play [] = fun _ => [] := rfl
theorem play_snoc (ops : List RawOp) (o : RawOp) : play (ops ++ [o]) = o.run (play ops) := by simp [play]
theorem okAll_nil : OkAll [] := by intro i o h; simp at h
theorem okAll_snoc {ops : List RawOp} {o : RawOp} (h : OkAll ops) (ho : o.Ok (play ops)) : OkAll (ops ++ [o]) := by
  intro i x hx
  rw [List.getElem?_append] at hx
  split at hx
  · rename_i hi
    rw [List.take_append_of_le_length (by omega)]
    exact h i x hx
  · rename_i hi
    have hlt := (List.getElem?_eq_some_iff.1 hx).1
    simp at hlt
    have : i = ops.length := by omega
    subst this
    simp at hx
    subst hx
    simpa using ho
theorem okAll_take {ops : List RawOp} (h : OkAll ops) (n : Nat) : OkAll (ops.take n) := by
  intro i x hx
  rw [List.getElem?_take] at hx
  split at hx
  · rename_i hi
    rw [List.take_take, Nat.min_eq_left (by omega)]
    exact h i x hx
  · cases hx
theorem run_length {o : RawOp} {F : Nat → List UInt8} (h : ∀ i, (F i).length ≤ 4194304) (ho : o.Ok F) : ∀ i, (o.run F i).length ≤ 4194304 := by
  intro i
  cases o with
  | put f at' s =>
    have hs : s.data.toList.length = s.size := rfl
    simp only [RawOp.run, upd]
    split
    · rw [putL_length, hs]; have := h f; have := ho.2; omega
    · exact h i
  | trim f n =>
    simp only [RawOp.run, upd]
    split
    · rw [List.length_take]; have := h f; omega
    · exact h i
theorem play_length {ops : List RawOp} (h : OkAll ops) : ∀ i, (play ops i).length ≤ 4194304 := by
  have H : ∀ n, n ≤ ops.length → ∀ i, (play (ops.take n) i).length ≤ 4194304 := by
    intro n
    induction n with
    | zero => intro _ i; simp [play]
    | succ n ih =>
      intro hn
      rw [List.take_succ_eq_append_getElem (by omega), play_snoc]
      exact run_length (ih (by omega)) (h n _ (List.getElem?_eq_getElem (by omega)))
  have := H ops.length (Nat.le_refl _)
  rwa [List.take_length] at this

/-- A disk lies at block d, and holds these files and these raw writes; all its blocks are of S. -/
structure DiskF (S : Nat → Prop) (d : Nat) (F : Nat → List UInt8) (ops : List RawOp) (vs : Nat → Value) (w : World) : Prop where
  own : S d
  blk : w.heap[d]? = some (.cells #[.pointer (some ⟨d, 0, none⟩), vs 0, vs 1, vs 2, vs 3, vs 4] 59 (0, 0))
  file : ∀ i, i < 4 → Bytes w (vs i) (F i)
  done : w.ownsRow 0 78 1 (vs 4) ops.length (ops.map RawOp.val)
  foot : ∀ i k, i < 5 → (vs i).ownBlock = some k → S k ∧ k ≠ d
  inj : ∀ i j k, i < 5 → j < 5 → (vs i).ownBlock = some k → (vs j).ownBlock = some k → i = j

theorem DiskF.lt {S : Nat → Prop} {d : Nat} {F : Nat → List UInt8} {ops : List RawOp} {vs : Nat → Value} {w : World} (h : DiskF S d F ops vs w) : d < w.heap.size := (Array.getElem?_eq_some_iff.1 h.blk).1
theorem DiskF.ltV {S : Nat → Prop} {d : Nat} {F : Nat → List UInt8} {ops : List RawOp} {vs : Nat → Value} {w : World} (h : DiskF S d F ops vs w) : ∀ i k, i < 5 → (vs i).ownBlock = some k → k < w.heap.size := by
  intro i k hi hk
  by_cases h4 : i = 4
  · subst h4; exact (h.done.lt k hk).2
  · exact (World.ownsRow.lt (h.file i (by omega)) k hk).2
theorem DiskF.mono {S T : Nat → Prop} {d : Nat} {F : Nat → List UInt8} {ops : List RawOp} {vs : Nat → Value} {w : World} (h : DiskF S d F ops vs w) (hS : ∀ i, S i → T i) : DiskF T d F ops vs w :=
  ⟨hS d h.own, h.blk, h.file, h.done, fun i k hi hk => ⟨hS k (h.foot i k hi hk).1, (h.foot i k hi hk).2⟩, h.inj⟩
theorem DiskF.kept {S T : Nat → Prop} {d : Nat} {F : Nat → List UInt8} {ops : List RawOp} {vs : Nat → Value} {w w' : World} (h : DiskF S d F ops vs w) (hk : Kept T w w') (hd : ∀ k, k < w.heap.size → S k → ¬ T k) : DiskF S d F ops vs w' :=
  ⟨h.own, by rw [hk.block d h.lt (hd d h.lt h.own)]; exact h.blk,
   fun i hi => ownsRow_of_block (h.file i hi) (fun k hkk => hk.block k (h.ltV i k (by omega) hkk) (hd k (h.ltV i k (by omega) hkk) (h.foot i k (by omega) hkk).1)),
   ownsRow_of_block h.done (fun k hkk => hk.block k (h.ltV 4 k (by omega) hkk) (hd k (h.ltV 4 k (by omega) hkk) (h.foot 4 k (by omega) hkk).1)),
   h.foot, h.inj⟩
theorem DiskF.below {S : Nat → Prop} {d : Nat} {F : Nat → List UInt8} {ops : List RawOp} {vs : Nat → Value} {w w' : World} (h : DiskF S d F ops vs w) (hk : Below w.heap.size w w') : DiskF S d F ops vs w' :=
  h.kept (Kept.ofBelow (S := fun _ => False) hk) (fun _ _ _ => id)

theorem disk_new (S : Nat → Prop) (w : World) (hS : S w.heap.size) : DiskF S w.heap.size (fun _ => []) [] (fun _ => .slice none 0 0) (w.alloc (.cells (newCells w.heap.size) 59)) :=
  ⟨hS, heap_alloc_new w _, fun _ _ => World.ownsRow_nil _ _ _ _, World.ownsRow_nil _ _ _ _, fun _ k _ h => by simp [Value.ownBlock] at h, fun _ _ k _ _ h => by simp [Value.ownBlock] at h⟩

/-- Which block a disk's cell's value lies in, behind a store into one cell. -/
theorem DiskF.setV {S : Nat → Prop} {d : Nat} {F F' : Nat → List UInt8} {ops ops' : List RawOp} {vs : Nat → Value} {w w1 : World} (h : DiskF S d F ops vs w) {f : Nat} (hf : f < 5) {v' : Value}
    (hg : Grew w w1 (vs f) v') (hF : ∀ i, i < 4 → Bytes w1 (upd vs f v' i) (F' i)) (hD : w1.ownsRow 0 78 1 (upd vs f v' 4) ops'.length (ops'.map RawOp.val)) :
    DiskF (More S w.heap.size) d F' ops' (upd vs f v') (w1.setCell ⟨d, 1 + f, none⟩ v') ∧ Kept S w (w1.setCell ⟨d, 1 + f, none⟩ v') := by
  have hdw := h.lt
  have hb1 : w1.heap[d]? = w.heap[d]? := hg.1.block d hdw (fun e => (h.foot f d hf e.symm).2 rfl)
  have hne : ∀ i k, i < 5 → (upd vs f v' i).ownBlock = some k → More S w.heap.size k ∧ k ≠ d := by
    intro i k hi hk
    by_cases hif : i = f
    · subst hif
      rw [upd_same] at hk
      rcases hg.2 k hk with h1 | h1
      · exact ⟨.inl (h.foot i k hi h1).1, (h.foot i k hi h1).2⟩
      · exact ⟨.inr h1, by omega⟩
    · rw [upd_other _ _ hif] at hk
      exact ⟨.inl (h.foot i k hi hk).1, (h.foot i k hi hk).2⟩
  have hset : ∀ k, k ≠ d → (w1.setCell ⟨d, 1 + f, none⟩ v').heap[k]? = w1.heap[k]? := fun k hk => Below.heap_setCell _ _ _ _ hk
  refine ⟨⟨.inl h.own, ?_, ?_, ?_, hne, ?_⟩, ?_⟩
  · have hblk := h.blk
    rw [← hb1] at hblk
    have : f = 0 ∨ f = 1 ∨ f = 2 ∨ f = 3 ∨ f = 4 := by omega
    simp only [World.setCell, Array.getElem?_modify, if_true, hblk, Option.map_some]
    rcases this with rfl | rfl | rfl | rfl | rfl <;> simp [upd]
  · intro i hi
    exact ownsRow_of_block (hF i hi) (fun k hk => hset k (hne i k (by omega) hk).2)
  · exact ownsRow_of_block hD (fun k hk => hset k (hne 4 k (by omega) hk).2)
  · intro i j k hi hj hik hjk
    by_cases hif : i = f
    · by_cases hjf : j = f
      · omega
      · exfalso
        subst hif
        rw [upd_same] at hik
        rw [upd_other _ _ hjf] at hjk
        rcases hg.2 k hik with h1 | h1
        · exact hjf (h.inj i j k hi hj h1 hjk).symm
        · have := h.ltV j k hj hjk; omega
    · by_cases hjf : j = f
      · exfalso
        subst hjf
        rw [upd_same] at hjk
        rw [upd_other _ _ hif] at hik
        rcases hg.2 k hjk with h1 | h1
        · exact hif (h.inj i j k hi hj hik h1)
        · have := h.ltV i k hi hik; omega
      · rw [upd_other _ _ hif] at hik
        rw [upd_other _ _ hjf] at hjk
        exact h.inj i j k hi hj hik hjk
  · exact (Kept.ofGrown hg.1 (fun k hk => (h.foot f k hf hk).1)).trans (Kept.setCell S w1 h.own v') (fun _ hi => .inl hi)

theorem DiskF.setFile {S : Nat → Prop} {d : Nat} {F : Nat → List UInt8} {ops : List RawOp} {vs : Nat → Value} {w w1 : World} (h : DiskF S d F ops vs w) {f : Nat} (hf : f < 4) {v' : Value} {l : List UInt8}
    (hg : Grew w w1 (vs f) v') (hl : Bytes w1 v' l) :
    DiskF (More S w.heap.size) d (upd F f l) ops (upd vs f v') (w1.setCell ⟨d, 1 + f, none⟩ v') ∧ Kept S w (w1.setCell ⟨d, 1 + f, none⟩ v') := by
  refine h.setV (by omega) hg ?_ ?_
  · intro i hi
    by_cases hif : i = f
    · subst hif; rw [upd_same, upd_same]; exact hl
    · rw [upd_other _ _ hif, upd_other _ _ hif]
      exact ownsRow_of_block (h.file i hi) (fun k hk => hg.1.block k (h.ltV i k (by omega) hk) (fun e => hif (h.inj i f k (by omega) (by omega) hk e.symm)))
  · rw [upd_other _ _ (by omega : 4 ≠ f)]
    exact ownsRow_of_block h.done (fun k hk => hg.1.block k (h.ltV 4 k (by omega) hk) (fun e => by have := h.inj 4 f k (by omega) (by omega) hk e.symm; omega))

theorem DiskF.setDone {S : Nat → Prop} {d : Nat} {F : Nat → List UInt8} {ops : List RawOp} {vs : Nat → Value} {w w1 : World} (h : DiskF S d F ops vs w) {v' : Value} {o : RawOp}
    (hg : Grew w w1 (vs 4) v') (hl : w1.ownsRow 0 78 1 v' (ops.length + 1) (ops.map RawOp.val ++ [o.val])) :
    DiskF (More S w.heap.size) d F (ops ++ [o]) (upd vs 4 v') (w1.setCell ⟨d, 5, none⟩ v') ∧ Kept S w (w1.setCell ⟨d, 5, none⟩ v') := by
  refine h.setV (f := 4) (by omega) hg ?_ ?_
  · intro i hi
    rw [upd_other _ _ (by omega : i ≠ 4)]
    exact ownsRow_of_block (h.file i hi) (fun k hk => hg.1.block k (h.ltV i k (by omega) hk) (fun e => by have := h.inj i 4 k (by omega) (by omega) hk e.symm; omega))
  · rw [upd_same]
    simpa using hl

/-- A disk that New or Cut gave, and what it has been through. -/
def DiskAt (S : Nat → Prop) (d : Nat) (ops : List RawOp) (w : World) : Prop := OkAll ops ∧ ∃ vs, DiskF S d (play ops) ops vs w

theorem DiskAt.mono {S T : Nat → Prop} {d : Nat} {ops : List RawOp} {w : World} (h : DiskAt S d ops w) (hS : ∀ i, S i → T i) : DiskAt T d ops w := ⟨h.1, h.2.imp fun _ h => h.mono hS⟩
theorem DiskAt.below {S : Nat → Prop} {d : Nat} {ops : List RawOp} {w w' : World} (h : DiskAt S d ops w) (hk : Below w.heap.size w w') : DiskAt S d ops w' := ⟨h.1, h.2.imp fun _ h => h.below hk⟩
theorem DiskAt.kept {S T : Nat → Prop} {d : Nat} {ops : List RawOp} {w w' : World} (h : DiskAt S d ops w) (hk : Kept T w w') (hd : ∀ k, k < w.heap.size → S k → ¬ T k) : DiskAt S d ops w' := ⟨h.1, h.2.imp fun _ h => h.kept hk hd⟩
theorem DiskAt.lt {S : Nat → Prop} {d : Nat} {ops : List RawOp} {w : World} (h : DiskAt S d ops w) : d < w.heap.size := h.2.elim fun _ h => h.lt
theorem DiskAt.at {S : Nat → Prop} {d : Nat} {ops : List RawOp} {w : World} (h : DiskAt S d ops w) : S d := h.2.elim fun _ h => h.own
theorem DiskAt.self {S : Nat → Prop} {d : Nat} {ops : List RawOp} {w : World} (h : DiskAt S d ops w) : w.cell? ⟨d, 0, none⟩ = some (.pointer (some ⟨d, 0, none⟩)) := by
  obtain ⟨vs, h⟩ := h.2
  rw [Lib.cell_of_heap h.blk]; rfl
theorem DiskF.cellV {S : Nat → Prop} {d : Nat} {F : Nat → List UInt8} {ops : List RawOp} {vs : Nat → Value} {w : World} (h : DiskF S d F ops vs w) {i : Nat} (hi : i < 5) : w.cell? ⟨d, 1 + i, none⟩ = some (vs i) := by
  rw [Lib.cell_of_heap h.blk]
  have : i = 0 ∨ i = 1 ∨ i = 2 ∨ i = 3 ∨ i = 4 := by omega
  rcases this with rfl | rfl | rfl | rfl | rfl <;> rfl
end Go.Proofs.Ytnmeobbbcccgjaa
