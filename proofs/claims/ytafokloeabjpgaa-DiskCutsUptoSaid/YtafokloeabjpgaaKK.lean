/- The document's disk: where its files lie; its Trim. -/
import Derived.Test.YtafokloeabjpgaaKJ
set_option maxRecDepth 100000
namespace Go.Proofs.Ytafokloeabjpgaa
open Go.RowKit

/-- The value of the document's disk. -/
abbrev rv (A : Nat → Option Addr) (Ln C : Nat → Nat) (N : Nat) : Value :=
  .agg #[.slice (A 0) (Ln 0) (C 0), .slice (A 1) (Ln 1) (C 1), .slice (A 2) (Ln 2) (C 2), .slice (A 3) (Ln 3) (C 3), .int .i64 N]

/-- The document's disk's files lie there, none of them in a block of S. -/
def RefF (S : Nat → Prop) (w : World) (A : Nat → Option Addr) (Ln C : Nat → Nat) (F : Nat → List UInt8) : Prop :=
  ∀ i, i < 4 → Bytes w (.slice (A i) (Ln i) (C i)) (F i) ∧ ∀ k, (Value.slice (A i) (Ln i) (C i)).ownBlock = some k → ¬ S k

/-- v is the document's disk with these files and so many raw writes; none of its rows lies in a block of S. -/
def RefAt (S : Nat → Prop) (w : World) (v : Value) (F : Nat → List UInt8) (N : Nat) : Prop :=
  ∃ A Ln C, v = rv A Ln C N ∧ RefF S w A Ln C F

theorem RefF.kept {S : Nat → Prop} {w w' : World} {A : Nat → Option Addr} {Ln C : Nat → Nat} {F : Nat → List UInt8} (hB : RefF S w A Ln C F) (hk : Kept S w w') : RefF S w' A Ln C F :=
  fun i hi => ⟨ownsRow_of_block (hB i hi).1 (fun k hk' => hk.block k (World.ownsRow.lt (hB i hi).1 k hk').2 ((hB i hi).2 k hk')), (hB i hi).2⟩
theorem RefF.below {S : Nat → Prop} {w w' : World} {A : Nat → Option Addr} {Ln C : Nat → Nat} {F : Nat → List UInt8} (hB : RefF S w A Ln C F) (hk : Below w.heap.size w w') : RefF S w' A Ln C F := hB.kept (Kept.ofBelow hk)
theorem RefF.more {S T : Nat → Prop} {w : World} {A : Nat → Option Addr} {Ln C : Nat → Nat} {F : Nat → List UInt8} (hB : RefF S w A Ln C F) (hT : ∀ k, k < w.heap.size → T k → S k) : RefF T w A Ln C F :=
  fun i hi => ⟨(hB i hi).1, fun k hk ht => (hB i hi).2 k hk (hT k (World.ownsRow.lt (hB i hi).1 k hk).2 ht)⟩
theorem RefAt.kept {S : Nat → Prop} {w w' : World} {v : Value} {F : Nat → List UInt8} {N : Nat} (h : RefAt S w v F N) (hk : Kept S w w') : RefAt S w' v F N := by
  obtain ⟨A, Ln, C, hv, hB⟩ := h
  exact ⟨A, Ln, C, hv, hB.kept hk⟩
theorem RefAt.below {S : Nat → Prop} {w w' : World} {v : Value} {F : Nat → List UInt8} {N : Nat} (h : RefAt S w v F N) (hk : Below w.heap.size w w') : RefAt S w' v F N := h.kept (Kept.ofBelow hk)
theorem RefAt.more {S T : Nat → Prop} {w : World} {v : Value} {F : Nat → List UInt8} {N : Nat} (h : RefAt S w v F N) (hT : ∀ k, k < w.heap.size → T k → S k) : RefAt T w v F N := by
  obtain ⟨A, Ln, C, hv, hB⟩ := h
  exact ⟨A, Ln, C, hv, hB.more hT⟩
theorem refAt_nil (S : Nat → Prop) (w : World) : RefAt S w (.agg #[.slice none 0 0, .slice none 0 0, .slice none 0 0, .slice none 0 0, .int .i64 0]) (fun _ => []) 0 :=
  ⟨fun _ => none, fun _ => 0, fun _ => 0, rfl, fun _ _ => ⟨World.ownsRow_nil _ _ _ _, fun k hk => by simp [Value.ownBlock] at hk⟩⟩

theorem RefF.len {S : Nat → Prop} {w : World} {A : Nat → Option Addr} {Ln C : Nat → Nat} {F : Nat → List UInt8} (hB : RefF S w A Ln C F) {i : Nat} (hi : i < 4) : Ln i = (F i).length := by
  obtain ⟨ao, n, cap, hv, hn, _⟩ := (hB i hi).1.shape
  injection hv with _ h2 _
  omega
theorem RefF.cap {S : Nat → Prop} {w : World} {A : Nat → Option Addr} {Ln C : Nat → Nat} {F : Nat → List UInt8} (hB : RefF S w A Ln C F) {i : Nat} (hi : i < 4) : Ln i ≤ C i := by
  obtain ⟨ao, n, cap, hv, hn, hc, _⟩ := (hB i hi).1.shape
  injection hv with _ h2 h3
  omega

/-- The file put in. -/
theorem RefF.put {S : Nat → Prop} {w w' : World} {A : Nat → Option Addr} {Ln C : Nat → Nat} {F : Nat → List UInt8} (hB : RefF S w A Ln C F) (hb : Below w.heap.size w w') (f : Nat) {a : Option Addr} {n c : Nat} {l : List UInt8} (hv : Bytes w' (.slice a n c) l)
    (hn : ∀ k, (Value.slice a n c).ownBlock = some k → ¬ S k) : RefF S w' (upd A f a) (upd Ln f n) (upd C f c) (upd F f l) := by
  intro i hi
  by_cases hif : i = f
  · subst hif; simp only [upd_same]; exact ⟨hv, hn⟩
  · simp only [upd_other _ _ hif]
    exact hB.below hb i hi

theorem rv_at (A : Nat → Option Addr) (Ln C : Nat → Nat) (N j : Nat) (hj : j < 4) : (#[Value.slice (A 0) (Ln 0) (C 0), .slice (A 1) (Ln 1) (C 1), .slice (A 2) (Ln 2) (C 2), .slice (A 3) (Ln 3) (C 3), .int .i64 N] : Array Value)[j]? = some (.slice (A j) (Ln j) (C j)) := by
  have : j = 0 ∨ j = 1 ∨ j = 2 ∨ j = 3 := by omega
  rcases this with rfl | rfl | rfl | rfl <;> rfl
theorem rv_at2 (A : Nat → Option Addr) (Ln C : Nat → Nat) (N j : Nat) (hj : j < 4) (h : j < ([Value.slice (A 0) (Ln 0) (C 0), .slice (A 1) (Ln 1) (C 1), .slice (A 2) (Ln 2) (C 2), .slice (A 3) (Ln 3) (C 3), .int .i64 N] : List Value).length) : ([Value.slice (A 0) (Ln 0) (C 0), .slice (A 1) (Ln 1) (C 1), .slice (A 2) (Ln 2) (C 2), .slice (A 3) (Ln 3) (C 3), .int .i64 N] : List Value)[j]'h = .slice (A j) (Ln j) (C j) := by
  have : j = 0 ∨ j = 1 ∨ j = 2 ∨ j = 3 := by omega
  rcases this with rfl | rfl | rfl | rfl <;> rfl
theorem rv_set (A : Nat → Option Addr) (Ln C : Nat → Nat) (N j : Nat) (hj : j < 4) (a : Option Addr) (n c : Nat) : (#[Value.slice (A 0) (Ln 0) (C 0), .slice (A 1) (Ln 1) (C 1), .slice (A 2) (Ln 2) (C 2), .slice (A 3) (Ln 3) (C 3), .int .i64 N] : Array Value).setIfInBounds j (.slice a n c) =
    #[Value.slice (upd A j a 0) (upd Ln j n 0) (upd C j c 0), .slice (upd A j a 1) (upd Ln j n 1) (upd C j c 1), .slice (upd A j a 2) (upd Ln j n 2) (upd C j c 2), .slice (upd A j a 3) (upd Ln j n 3) (upd C j c 3), .int .i64 N] := by
  have : j = 0 ∨ j = 1 ∨ j = 2 ∨ j = 3 := by omega
  rcases this with rfl | rfl | rfl | rfl <;> simp [upd]

/-- A row of bytes copied behind nothing. -/
theorem append_copy (w : World) (v : Value) (l : List UInt8) (h : Bytes w v l) (hlen : l.length ≤ 16777216) (ty : TypeId) :
    ∃ v' w', (Builtin.append_ #[25, 25] ty #[.slice none 0 0, v]).run Try.prog w = .ok v' w' ∧ w'.ownsRow w.heap.size 5 1 v' l.length (Lib.byteCells l) ∧ w.grownBy w' none := by
  obtain ⟨i, hi, hz, hs, hby⟩ := info_parts infoByte
  rcases h.2 with ⟨rfl, h0⟩ | ⟨g, cap, cur, rfl, _, hg, hnc, hcm, hcs, ht⟩
  · obtain rfl : l = [] := List.eq_nil_of_length_eq_zero h0
    refine ⟨.slice none 0 0, w, ?_, World.ownsRow_nil _ _ _ _, ⟨rfl, rfl, rfl, Nat.le_refl _, fun _ _ _ => rfl⟩⟩
    simp [Builtin.append_, run_underlying Try.underlying25, sizeOf, typeInfo, hi, Builtin.lenOf, Builtin.firstCells]
  · obtain ⟨v', w', hr, h2, h3, _⟩ := run_append_own (P := Try.prog) w w.heap.size 25 ty 5 i (.int .u8 0) 1 1 Try.underlying25 hi hz hs hby rfl (by decide) (.slice none 0 0) 0 [] (World.ownsRow_nil _ _ _ _) ⟨g, 0, none⟩ l.length cap (Lib.byteCells l) (by rw [Lib.byteCells_length]; omega) (World.ownsRow.cells (w := w) h (g := g) rfl) (Lib.byteCells_one _) (by unfold maxLen; omega) (by omega) (Nat.le_refl _)
    rw [Nat.zero_add, List.nil_append] at h2
    exact ⟨v', w', hr, h2, h3⟩

set_option maxHeartbeats 2000000 in
theorem rtrim_no (S : Nat → Prop) (A : Nat → Option Addr) (Ln C : Nat → Nat) (F : Nat → List UInt8) (N : Nat) (f n : Int) (w : World) (hB : RefF S w A Ln C F) (hn : ¬ (0 ≤ f ∧ f < 4 ∧ 0 ≤ n ∧ n ≤ (F f.toNat).length)) :
    Calls Try.prog 21 #[rv A Ln C N, .int .i64 f, .int .i64 n] w fun e w' => e = .returned (.tuple #[rv A Ln C N, .int .i64 1]) ∧ Below w.heap.size w w' := by
  by_cases hf : 0 ≤ f ∧ f < 4
  · obtain ⟨j, rfl⟩ : ∃ j : Nat, f = (j : Int) := ⟨f.toNat, by omega⟩
    have hj : j < 4 := by omega
    simp only [Int.toNat_natCast, ← hB.len hj] at hn
    have hat := rv_at2 A Ln C N j hj
    have h1 : (j : Int) < 4 := by omega
    clear hB
    by_cases h0 : n < 0
    · clear hn
      go_enter Try.func21, Try.ntmps21
      go_wp2
      exact bodyPost_ret (v := .tuple #[rv A Ln C N, .int .i64 1]) (by simp [results, Try.results21, go_sem]) rfl ⟨rfl, ((Below.refl _ w).alloc (Nat.le_refl _) _).alloc (by simp) _⟩
    · have h2 : (Ln j : Int) < n := by omega
      clear hn
      go_enter Try.func21, Try.ntmps21
      go_wp2
      exact bodyPost_ret (v := .tuple #[rv A Ln C N, .int .i64 1]) (by simp [results, Try.results21, go_sem]) rfl ⟨rfl, ((Below.refl _ w).alloc (Nat.le_refl _) _).alloc (by simp) _⟩
  · clear hn hB
    by_cases h0 : f < 0
    · clear hf
      go_enter Try.func21, Try.ntmps21
      go_wp2
      exact bodyPost_ret (v := .tuple #[rv A Ln C N, .int .i64 1]) (by simp [results, Try.results21, go_sem]) rfl ⟨rfl, ((Below.refl _ w).alloc (Nat.le_refl _) _).alloc (by simp) _⟩
    · have h1 : (4 : Int) ≤ f := by omega
      clear hf
      go_enter Try.func21, Try.ntmps21
      go_wp2
      exact bodyPost_ret (v := .tuple #[rv A Ln C N, .int .i64 1]) (by simp [results, Try.results21, go_sem]) rfl ⟨rfl, ((Below.refl _ w).alloc (Nat.le_refl _) _).alloc (by simp) _⟩
end Go.Proofs.Ytafokloeabjpgaa
