/- The document's Trim and Read. -/
import Derived.Test.YtafokloeabjpgaaKK
set_option maxRecDepth 100000
namespace Go.Proofs.Ytafokloeabjpgaa
open Go.RowKit

theorem Bytes.cutHead {w : World} {a : Option Addr} {m c : Nat} {l : List UInt8} (h : Bytes w (.slice a m c) l) {n : Nat} (hn : n ≤ l.length) : Bytes w (.slice a n c) (l.take n) ∧ (Value.slice a n c).ownBlock = (Value.slice a m c).ownBlock := by
  obtain ⟨ao, cap, hv, hnc, hB, hob⟩ := h.take hn
  injection hv with h1 h2 h3
  subst h1 h3
  exact ⟨hB, hob⟩

theorem ownsRow_slice {w : World} {B : Nat} {v : Value} {l : List UInt8} (h : w.ownsRow B 5 1 v l.length (Lib.byteCells l)) : ∃ a c, v = .slice a l.length c ∧ (∀ k, v.ownBlock = some k → B ≤ k ∧ k < w.heap.size) := by
  have hk := h.lt
  rcases h.2 with ⟨rfl, h0⟩ | ⟨g, cap, cur, rfl, _⟩
  · exact ⟨none, 0, by rw [h0], hk⟩
  · exact ⟨_, cap, rfl, hk⟩

theorem ownsRow_mono {w : World} {B : Nat} {v : Value} {l : List UInt8} (h : w.ownsRow B 5 1 v l.length (Lib.byteCells l)) : Bytes w v l := by
  refine ⟨h.1, ?_⟩
  rcases h.2 with h0 | ⟨g, cap, cur, hv, _, r⟩
  · exact .inl h0
  · exact .inr ⟨g, cap, cur, hv, Nat.zero_le _, r⟩

theorem below_cell {B : Nat} {w W : World} (h : Below B w W) (b i : Nat) (v : Value) (hb : B ≤ b) : Below B w (W.setCell ⟨b, i, none⟩ v) := h.setCell (p := ⟨b, i, none⟩) hb v
theorem bytes_cell {W : World} {x : Value} {l : List UInt8} (h : Bytes W x l) (b i : Nat) (v : Value) (hb : ∀ k, x.ownBlock = some k → k ≠ b) : Bytes (W.setCell ⟨b, i, none⟩ v) x l :=
  ownsRow_of_block h (fun k hk => Below.heap_setCell _ _ _ _ (hb k hk))

theorem ownsRow_of_eq {w : World} {B n : Nat} {v : Value} {l : List UInt8} (h : w.ownsRow B 5 1 v n (Lib.byteCells l)) : Bytes w v l := by
  have hn : l.length = n := by have := h.1; rw [Lib.byteCells_length] at this; omega
  subst hn
  exact ownsRow_mono h

set_option maxHeartbeats 4000000 in
theorem rtrim_ok (S : Nat → Prop) (A : Nat → Option Addr) (Ln C : Nat → Nat) (F : Nat → List UInt8) (N : Nat) (j n : Nat) (w : World) (hB : RefF S w A Ln C F) (hS : ∀ k, S k → k < w.heap.size) (hN : N ≤ 4611686018427387904) (hmax : (F j).length ≤ 4194304) (hj : j < 4) (hn : n ≤ (F j).length) :
    Calls Try.prog 21 #[rv A Ln C N, .int .i64 j, .int .i64 n] w fun e w' => ∃ v', e = .returned (.tuple #[v', .int .i64 0]) ∧ RefAt S w' v' (upd F j ((F j).take n)) (N + 1) ∧ Below w.heap.size w w' := by
  have hlen := hB.len hj
  have hcap := hB.cap hj
  have hBj := (hB j hj).1.cutHead hn
  have hb2 : Below w.heap.size w ((w.alloc (.cells #[Value.slice (A 0) (Ln 0) (C 0), .slice (A 1) (Ln 1) (C 1), .slice (A 2) (Ln 2) (C 2), .slice (A 3) (Ln 3) (C 3), .int .i64 N] 28)).alloc (.cells #[.slice none 0 0, .slice none 0 0, .slice none 0 0, .slice none 0 0, .int .i64 0] 28)) := ((Below.refl _ w).alloc (Nat.le_refl _) _).alloc (by simp) _
  obtain ⟨v', w3, hr, ho, hg⟩ := append_copy ((w.alloc (.cells #[Value.slice (A 0) (Ln 0) (C 0), .slice (A 1) (Ln 1) (C 1), .slice (A 2) (Ln 2) (C 2), .slice (A 3) (Ln 3) (C 3), .int .i64 N] 28)).alloc (.cells #[.slice none 0 0, .slice none 0 0, .slice none 0 0, .slice none 0 0, .int .i64 0] 28)) (.slice (A j) n (C j)) ((F j).take n) (ownsRow_of_block hBj.1 (fun k hk => hb2.block k (World.ownsRow.lt hBj.1 k hk).2)) (by rw [List.length_take]; omega) 25
  obtain ⟨a', c', rfl, hown⟩ := ownsRow_slice ho
  have hb3 : Below w.heap.size w w3 := hb2.trans ⟨hg.os, hg.tape, hg.output, hg.size, fun k hk => hg.block k (by simp; omega) (by simp)⟩
  have hsz3 : w.heap.size + 1 + 1 ≤ w3.heap.size := by have := hg.size; simp at this; omega
  have k0 : w3.heap[w.heap.size]? = some (.cells #[Value.slice (A 0) (Ln 0) (C 0), .slice (A 1) (Ln 1) (C 1), .slice (A 2) (Ln 2) (C 2), .slice (A 3) (Ln 3) (C 3), .int .i64 N] 28) := by
    rw [hg.block w.heap.size (by simp; omega) (by simp), Below.heap_alloc _ _ _ (by simp)]
    exact heap_alloc_new w _
  have k1 : w3.heap[w.heap.size + 1]? = some (.cells #[.slice none 0 0, .slice none 0 0, .slice none 0 0, .slice none 0 0, .int .i64 0] 28) := by
    rw [hg.block (w.heap.size + 1) (by simp) (by simp)]
    have := heap_alloc_new (w.alloc (.cells #[Value.slice (A 0) (Ln 0) (C 0), .slice (A 1) (Ln 1) (C 1), .slice (A 2) (Ln 2) (C 2), .slice (A 3) (Ln 3) (C 3), .int .i64 N] 28)) (.cells #[.slice none 0 0, .slice none 0 0, .slice none 0 0, .slice none 0 0, .int .i64 0] 28)
    simpa using this
  have hl2 : ((F j).take n).length = n := by rw [List.length_take]; omega
  rw [hl2] at ho hown hr
  have hfile : ∀ W : World, Below w.heap.size w W → Bytes W (.slice a' n c') ((F j).take n) → RefAt S W (rv (upd A j a') (upd Ln j n) (upd C j c') (N + 1)) (upd F j ((F j).take n)) (N + 1) := fun W hbW hBW =>
    ⟨_, _, _, rfl, hB.put hbW j hBW (fun k hk hs => by have := (hown k hk).1; have h2 := hS k hs; simp at this; omega)⟩
  have HF := Lib.hid hfile; clear hfile
  have HO := Lib.hid ho; clear ho
  have HB3 := Lib.hid hb3; clear hb3
  have HOWN := Lib.hid hown; clear hown
  have hnl : ¬ ((Ln j : Int) < n) := by omega
  have hnc : n ≤ C j := by omega
  have c00 : w3.cell? ⟨w.heap.size, 0, none⟩ = some (.slice (A 0) (Ln 0) (C 0)) := by rw [Lib.cell_of_heap k0]; rfl
  have c01 : w3.cell? ⟨w.heap.size, 1, none⟩ = some (.slice (A 1) (Ln 1) (C 1)) := by rw [Lib.cell_of_heap k0]; rfl
  have c02 : w3.cell? ⟨w.heap.size, 2, none⟩ = some (.slice (A 2) (Ln 2) (C 2)) := by rw [Lib.cell_of_heap k0]; rfl
  have c03 : w3.cell? ⟨w.heap.size, 3, none⟩ = some (.slice (A 3) (Ln 3) (C 3)) := by rw [Lib.cell_of_heap k0]; rfl
  have c04 : w3.cell? ⟨w.heap.size, 4, none⟩ = some (.int .i64 N) := by rw [Lib.cell_of_heap k0]; rfl
  have f00 : ∀ i, w3.frozen? ⟨w.heap.size, i, none⟩ = false := fun i => Lib.frozen_of_heap k0 i
  have c10 : w3.cell? ⟨w.heap.size + 1, 0, none⟩ = some (.slice none 0 0) := by rw [Lib.cell_of_heap k1]; rfl
  have c11 : w3.cell? ⟨w.heap.size + 1, 1, none⟩ = some (.slice none 0 0) := by rw [Lib.cell_of_heap k1]; rfl
  have c12 : w3.cell? ⟨w.heap.size + 1, 2, none⟩ = some (.slice none 0 0) := by rw [Lib.cell_of_heap k1]; rfl
  have c13 : w3.cell? ⟨w.heap.size + 1, 3, none⟩ = some (.slice none 0 0) := by rw [Lib.cell_of_heap k1]; rfl
  have c14 : w3.cell? ⟨w.heap.size + 1, 4, none⟩ = some (.int .i64 0) := by rw [Lib.cell_of_heap k1]; rfl
  have f10 : ∀ i, w3.frozen? ⟨w.heap.size + 1, i, none⟩ = false := fun i => Lib.frozen_of_heap k1 i
  clear k0 k1 hg hb2 hB hBj hmax hlen hl2 hcap hn
  have hj4 : j = 0 ∨ j = 1 ∨ j = 2 ∨ j = 3 := by omega
  clear hj
  rcases hj4 with rfl | rfl | rfl | rfl
  · go_enter Try.func21, Try.ntmps21
    go_wp2_with (at_builtin; refine Lib.wpList_append_run _ rfl _ _ 25 25 rfl _ _ rfl rfl _ _ hr ?_)
    refine bodyPost_ret (v := .tuple #[.agg #[.slice a' n c', .slice (A 1) (Ln 1) (C 1), .slice (A 2) (Ln 2) (C 2), .slice (A 3) (Ln 3) (C 3), .int .i64 (N + 1)], .int .i64 0]) (by simp [results, Try.results21, go_sem, c10, c11, c12, c13, c14]) rfl ⟨_, rfl, ?_, ?_⟩
    · refine HF.out _ ?_ ?_
      · repeat refine below_cell ?_ _ _ _ (by omega)
        exact HB3.out
      · repeat refine bytes_cell ?_ _ _ _ (fun k hk => by have := (HOWN.out k hk).1; simp at this; omega)
        exact ownsRow_of_eq HO.out
    · repeat refine below_cell ?_ _ _ _ (by omega)
      exact HB3.out
  · go_enter Try.func21, Try.ntmps21
    go_wp2_with (at_builtin; refine Lib.wpList_append_run _ rfl _ _ 25 25 rfl _ _ rfl rfl _ _ hr ?_)
    refine bodyPost_ret (v := .tuple #[.agg #[.slice (A 0) (Ln 0) (C 0), .slice a' n c', .slice (A 2) (Ln 2) (C 2), .slice (A 3) (Ln 3) (C 3), .int .i64 (N + 1)], .int .i64 0]) (by simp [results, Try.results21, go_sem, c10, c11, c12, c13, c14]) rfl ⟨_, rfl, ?_, ?_⟩
    · refine HF.out _ ?_ ?_
      · repeat refine below_cell ?_ _ _ _ (by omega)
        exact HB3.out
      · repeat refine bytes_cell ?_ _ _ _ (fun k hk => by have := (HOWN.out k hk).1; simp at this; omega)
        exact ownsRow_of_eq HO.out
    · repeat refine below_cell ?_ _ _ _ (by omega)
      exact HB3.out
  · go_enter Try.func21, Try.ntmps21
    go_wp2_with (at_builtin; refine Lib.wpList_append_run _ rfl _ _ 25 25 rfl _ _ rfl rfl _ _ hr ?_)
    refine bodyPost_ret (v := .tuple #[.agg #[.slice (A 0) (Ln 0) (C 0), .slice (A 1) (Ln 1) (C 1), .slice a' n c', .slice (A 3) (Ln 3) (C 3), .int .i64 (N + 1)], .int .i64 0]) (by simp [results, Try.results21, go_sem, c10, c11, c12, c13, c14]) rfl ⟨_, rfl, ?_, ?_⟩
    · refine HF.out _ ?_ ?_
      · repeat refine below_cell ?_ _ _ _ (by omega)
        exact HB3.out
      · repeat refine bytes_cell ?_ _ _ _ (fun k hk => by have := (HOWN.out k hk).1; simp at this; omega)
        exact ownsRow_of_eq HO.out
    · repeat refine below_cell ?_ _ _ _ (by omega)
      exact HB3.out
  · go_enter Try.func21, Try.ntmps21
    go_wp2_with (at_builtin; refine Lib.wpList_append_run _ rfl _ _ 25 25 rfl _ _ rfl rfl _ _ hr ?_)
    refine bodyPost_ret (v := .tuple #[.agg #[.slice (A 0) (Ln 0) (C 0), .slice (A 1) (Ln 1) (C 1), .slice (A 2) (Ln 2) (C 2), .slice a' n c', .int .i64 (N + 1)], .int .i64 0]) (by simp [results, Try.results21, go_sem, c10, c11, c12, c13, c14]) rfl ⟨_, rfl, ?_, ?_⟩
    · refine HF.out _ ?_ ?_
      · repeat refine below_cell ?_ _ _ _ (by omega)
        exact HB3.out
      · repeat refine bytes_cell ?_ _ _ _ (fun k hk => by have := (HOWN.out k hk).1; simp at this; omega)
        exact ownsRow_of_eq HO.out
    · repeat refine below_cell ?_ _ _ _ (by omega)
      exact HB3.out
end Go.Proofs.Ytafokloeabjpgaa
