/- A rack in memory: shelves of entries in order; where an entry stands (seek). -/
import Derived.Test.YtnnmigglcpkomaaRH
import Derived.Test.YtnnmigglcpkomaaRD
import Derived.Test.YtnnmigglcpkomaaGK
import Derived.Test.YtnnmigglcpkomaaRF
set_option maxRecDepth 100000
namespace Go.Proofs.Ytnnmigglcpkomaa.Dm
open Go Go.RowKit

/-- A shelf: its block, its room, its entries. -/
structure Sh where
  g : Nat
  c : Nat
  hs : List Hd
def Sh.v (s : Sh) : Value := .slice (some ⟨s.g, 0, none⟩) s.hs.length s.c
def hdC (h : Hd) : List Value := [.string h.1, .int .i64 h.2]
def cellsH (hs : List Hd) : List Value := hs.flatMap hdC
theorem cellsH_length (hs : List Hd) : (cellsH hs).length = hs.length * 2 := by
  induction hs with
  | nil => rfl
  | cons h hs ih => simp [cellsH, hdC] at ih ⊢; omega
theorem cellsH_append (a b : List Hd) : cellsH (a ++ b) = cellsH a ++ cellsH b := by simp [cellsH]
theorem cellsH_one (h : Hd) : cellsH [h] = hdC h := by simp [cellsH]
theorem cellsH_take (hs : List Hd) (i : Nat) : (cellsH hs).take (i * 2) = cellsH (hs.take i) := by
  rcases Nat.lt_or_ge hs.length i with h | h
  · rw [List.take_of_length_le (by rw [cellsH_length]; omega), List.take_of_length_le (by omega)]
  · conv => lhs; rw [← List.take_append_drop i hs, cellsH_append]
    exact List.take_left' (by rw [cellsH_length, List.length_take]; omega)
theorem cellsH_drop (hs : List Hd) (i : Nat) : (cellsH hs).drop (i * 2) = cellsH (hs.drop i) := by
  rcases Nat.lt_or_ge hs.length i with h | h
  · rw [List.drop_eq_nil_of_le (by rw [cellsH_length]; omega), List.drop_eq_nil_of_le (by omega)]
    rfl
  · conv => lhs; rw [← List.take_append_drop i hs, cellsH_append]
    exact List.drop_left' (by rw [cellsH_length, List.length_take]; omega)
theorem cellsH_one' (hs : List Hd) : ∀ v ∈ cellsH hs, v.oneCell' = true := by
  intro v hv
  simp only [cellsH, List.mem_flatMap] at hv
  obtain ⟨h, _, hv⟩ := hv
  simp only [hdC, List.mem_cons, List.not_mem_nil, or_false] at hv
  rcases hv with rfl | rfl <;> rfl
theorem cellsH_get (hs : List Hd) (j : Nat) (h : j < hs.length) : (cellsH hs)[j * 2]? = some (.string hs[j].1) ∧ (cellsH hs)[j * 2 + 1]? = some (.int .i64 hs[j].2) := by
  have e : (cellsH hs).drop (j * 2) = cellsH (hs[j] :: hs.drop (j + 1)) := by rw [cellsH_drop, List.drop_eq_getElem_cons h]
  have e0 : ((cellsH hs).drop (j * 2))[0]? = some (.string hs[j].1) := by rw [e]; rfl
  have e1 : ((cellsH hs).drop (j * 2))[1]? = some (.int .i64 hs[j].2) := by rw [e]; rfl
  rw [List.getElem?_drop] at e0 e1
  exact ⟨e0, e1⟩

/-- A shelf's entries lie in its block. -/
def ShAt (w : World) (s : Sh) : Prop := w.ownsRow 0 80 2 s.v s.hs.length (cellsH s.hs)
theorem ShAt.lt {w : World} {s : Sh} (h : ShAt w s) : s.g < w.heap.size := (World.ownsRow.lt h s.g rfl).2
theorem ShAt.row {w : World} {s : Sh} (h : ShAt w s) : RowH w s.g s.hs := by
  obtain ⟨_, h | ⟨g, cap, cur, hv, _, hg, hnc, _, hcs, ht⟩⟩ := h
  · cases h.1
  · simp only [Sh.v, Value.slice.injEq, Option.some.injEq, Addr.mk.injEq] at hv
    obtain ⟨⟨rfl, -⟩, -, rfl⟩ := hv
    intro j hj
    obtain ⟨e0, e1⟩ := cellsH_get s.hs j hj
    rw [← ht, List.getElem?_take] at e0 e1
    rw [if_pos (by omega)] at e0 e1
    rw [Lib.cell_of_heap hg, Lib.cell_of_heap hg]
    exact ⟨by simpa using e0, by simpa using e1⟩
theorem ShAt.of_block {w w' : World} {s : Sh} (h : ShAt w s) (hb : w'.heap[s.g]? = w.heap[s.g]?) : ShAt w' s := ownsRow_of_block h (fun k hk => by cases hk; exact hb)

/-- A rack at block P, behind the slice v: its shelves. -/
structure RackAt (w : World) (P : Nat) (v : Value) (ss : List Sh) : Prop where
  cell : w.cell? ⟨P, 1, none⟩ = some v
  cold : w.frozen? ⟨P, 1, none⟩ = false
  row : w.ownsRow 0 102 1 v ss.length (ss.map Sh.v)
  shelf : ∀ s, s ∈ ss → ShAt w s
  ne : ∀ s, s ∈ ss → s.hs ≠ []
  vP : v.ownBlock ≠ some P
  sP : ∀ s, s ∈ ss → s.g ≠ P ∧ v.ownBlock ≠ some s.g
  apart : ss.Pairwise fun s t => s.g ≠ t.g
/-- The blocks of a rack. -/
def bl (P : Nat) (v : Value) (ss : List Sh) (k : Nat) : Prop := k = P ∨ v.ownBlock = some k ∨ ∃ s, s ∈ ss ∧ s.g = k
theorem RackAt.lt {w : World} {P : Nat} {v : Value} {ss : List Sh} (h : RackAt w P v ss) : P < w.heap.size := by
  have := h.cell
  rcases Nat.lt_or_ge P w.heap.size with h1 | h1
  · exact h1
  · simp [World.cell?, Array.getElem?_eq_none h1] at this
theorem RackAt.form {w : World} {P : Nat} {v : Value} {ss : List Sh} (h : RackAt w P v ss) : ∃ a c, v = .slice a ss.length c := by
  rcases h.row.2 with ⟨h1, h2⟩ | ⟨g, cap, _, h1, _⟩
  · exact ⟨none, 0, by rw [h1, h2]⟩
  · exact ⟨_, _, h1⟩
theorem RackAt.at {w : World} {P : Nat} {a : Option Addr} {n c : Nat} {ss : List Sh} (h : RackAt w P (.slice a n c) ss) (j : Nat) (hj : j < ss.length) : ∃ b, a = some ⟨b, 0, none⟩ ∧ b < w.heap.size ∧ w.cell? ⟨b, j, none⟩ = some ss[j].v := by
  rcases h.row.2 with ⟨h1, h2⟩ | ⟨g, cap, cur, h1, _, hg, hnc, _, hcs, ht⟩
  · omega
  · cases h1
    refine ⟨g, rfl, (Array.getElem?_eq_some_iff.1 hg).1, ?_⟩
    rw [Lib.cell_of_heap hg]
    have e : (ss.map Sh.v)[j]? = some ss[j].v := by simp [hj]
    rw [← ht, List.getElem?_take, if_pos (by omega)] at e
    simpa using e
/-- Nothing of a rack turned. -/
theorem RackAt.below {w w' : World} {P : Nat} {v : Value} {ss : List Sh} (h : RackAt w P v ss) (hb : Below w.heap.size w w') : RackAt w' P v ss :=
  ⟨(hb.cell (p := ⟨P, 1, none⟩) h.lt).trans h.cell, (hb.frozen (p := ⟨P, 1, none⟩) h.lt).trans h.cold, ownsRow_below h.row hb, fun s hs => (h.shelf s hs).of_block (hb.block _ (h.shelf s hs).lt), h.ne, h.vP, h.sP, h.apart⟩

theorem RackAt.bl_lt {w : World} {P : Nat} {v : Value} {ss : List Sh} (h : RackAt w P v ss) (k : Nat) (hk : bl P v ss k) : k < w.heap.size := by
  rcases hk with rfl | hk | ⟨s, hs, rfl⟩
  · exact h.lt
  · exact (World.ownsRow.lt h.row k hk).2
  · exact (h.shelf s hs).lt
/-- One shelf made anew, or parted, or gone: the rack. -/
theorem RackAt.remake {w w' : World} {P : Nat} {v v' : Value} {A B M : List Sh} {s : Sh} (h : RackAt w P v (A ++ s :: B)) (hc : w'.cell? ⟨P, 1, none⟩ = some v') (hf : w'.frozen? ⟨P, 1, none⟩ = false)
    (hr : w'.ownsRow 0 102 1 v' (A ++ M ++ B).length ((A ++ M ++ B).map Sh.v)) (hk : ∀ t, t ∈ A ++ B → w'.heap[t.g]? = w.heap[t.g]?) (hM : ∀ m, m ∈ M → ShAt w' m ∧ m.hs ≠ [] ∧ (m.g = s.g ∨ w.heap.size ≤ m.g) ∧ v'.ownBlock ≠ some m.g)
    (hMM : M.Pairwise fun s t => s.g ≠ t.g) (hv : v'.ownBlock = v.ownBlock ∨ ∀ k, v'.ownBlock = some k → w.heap.size ≤ k) : RackAt w' P v' (A ++ M ++ B) := by
  have hmem : ∀ t, t ∈ A ++ B → t ∈ A ++ s :: B := fun t ht => by
    rcases List.mem_append.1 ht with h1 | h1
    · exact List.mem_append.2 (.inl h1)
    · exact List.mem_append.2 (.inr (List.mem_cons_of_mem _ h1))
  have hsm : s ∈ A ++ s :: B := by simp
  obtain ⟨pA, pB, pAB⟩ := List.pairwise_append.1 h.apart
  have pB' := List.pairwise_cons.1 pB
  have hne : ∀ t, t ∈ A ++ B → ∀ m, m ∈ M → m.g ≠ t.g := fun t ht m hm => by
    have h1 := (h.shelf t (hmem t ht)).lt
    rcases (hM m hm).2.2.1 with h2 | h2
    · rw [h2]
      rcases List.mem_append.1 ht with h3 | h3
      · exact fun hh => pAB t h3 s (by simp) hh.symm
      · exact pB'.1 t h3
    · omega
  have hvt : ∀ t, t ∈ A ++ B → v'.ownBlock ≠ some t.g := fun t ht hh => by
    rcases hv with h1 | h1
    · exact (h.sP t (hmem t ht)).2 (h1 ▸ hh)
    · have := h1 _ hh
      have := (h.shelf t (hmem t ht)).lt
      omega
  have hsplit : ∀ t, t ∈ A ++ M ++ B → t ∈ A ++ B ∨ t ∈ M := fun t ht => by
    simp only [List.mem_append] at ht ⊢
    rcases ht with (h1 | h1) | h1
    · exact .inl (.inl h1)
    · exact .inr h1
    · exact .inl (.inr h1)
  refine ⟨hc, hf, hr, fun t ht => ?_, fun t ht => ?_, fun hh => ?_, fun t ht => ?_, ?_⟩
  · rcases hsplit t ht with h1 | h1
    · exact (h.shelf t (hmem t h1)).of_block (hk t h1)
    · exact (hM t h1).1
  · rcases hsplit t ht with h1 | h1
    · exact h.ne t (hmem t h1)
    · exact (hM t h1).2.1
  · rcases hv with h1 | h1
    · exact h.vP (h1 ▸ hh)
    · have := h1 _ hh
      have := h.lt
      omega
  · rcases hsplit t ht with h1 | h1
    · exact ⟨(h.sP t (hmem t h1)).1, hvt t h1⟩
    · refine ⟨fun hh => ?_, (hM t h1).2.2.2⟩
      rcases (hM t h1).2.2.1 with h2 | h2
      · exact (h.sP s hsm).1 (h2 ▸ hh)
      · have := h.lt
        omega
  · rw [List.append_assoc]
    refine List.pairwise_append.2 ⟨pA, List.pairwise_append.2 ⟨hMM, pB'.2, fun a ha b hb => hne b (by simp [hb]) a ha⟩, fun a ha b hb => ?_⟩
    rcases List.mem_append.1 hb with h1 | h1
    · exact fun hh => hne a (by simp [ha]) b h1 hh.symm
    · exact pAB a ha b (by simp [h1])

/-- A cell of a row of one's own, stored anew. -/
theorem ownsRow_set {w : World} {e : TypeId} {g n c i : Nat} {xs : List Value} {u : Value} (h : w.ownsRow 0 e 1 (.slice (some ⟨g, 0, none⟩) n c) n xs) (_ : i < n) : (w.setCell ⟨g, i, none⟩ u).ownsRow 0 e 1 (.slice (some ⟨g, 0, none⟩) n c) n (xs.set i u) := by
  refine ⟨by rw [List.length_set]; exact h.1, ?_⟩
  rcases h.2 with ⟨h1, _⟩ | ⟨g', cap, cur, h1, h2, hg, hnc, hcm, hcs, ht⟩
  · cases h1
  · cases h1
    refine .inr ⟨g, c, cur.setIfInBounds i u, rfl, h2, ?_, hnc, hcm, by simpa using hcs, ?_⟩
    · rw [setCell_eq_setRow w g i cur e (0, 0) u hg]
      exact setRow_heap w g cur _ e _ hg
    · rw [Array.toList_setIfInBounds, List.take_set, ht]

set_option maxHeartbeats 800000 in
theorem seek1_any (s : Sh) (f : Hd) (r : List Hd) (x : Hd) (w : World) (hS : ShAt w s) (hf : s.hs = f :: r) : Calls Try.prog 59 #[s.v, hdV x] w fun e w' => e = .returned (.int .i64 (cmpH f x)) ∧ Below w.heap.size w w' := by
  obtain ⟨g, c, hs⟩ := s
  obtain ⟨xk, xt⟩ := x
  obtain ⟨fk, ft⟩ := f
  simp only at hf
  subst hf
  have hlt := hS.lt
  obtain ⟨d0, d1⟩ := hS.row 0 (by simp)
  simp only [Nat.zero_mul, Nat.zero_add, List.getElem_cons_zero] at d0 d1 hlt
  obtain ⟨q, hq⟩ : ∃ q, q = cmpH (fk, ft) (xk, xt) := ⟨_, rfl⟩
  have HC : Hid (∀ W, Calls Try.prog 60 #[.agg #[.string fk, .int .i64 ft], .agg #[.string xk, .int .i64 xt]] W fun e w' => e = .returned (.int .i64 q) ∧ Below W.heap.size W w') := Lib.hid (fun W => by rw [hq]; exact compare_any _ _ W)
  unfold Sh.v hdV
  simp only [List.length_cons]
  rw [← hq]
  obtain ⟨n, hn⟩ : ∃ n, n = r.length := ⟨_, rfl⟩
  rw [← hn]
  clear hq hn hS
  go_enter Try.func59, Try.ntmps59
  go_wp2
  obtain ⟨W0, hW0⟩ : ∃ W0, W0 = w.alloc (.cells #[.string xk, .int .i64 xt] 80) := ⟨_, rfl⟩
  have c0 : W0.cell? ⟨w.heap.size, 0, none⟩ = some (.string xk) := by rw [hW0]; simp
  have c1 : W0.cell? ⟨w.heap.size, 1, none⟩ = some (.int .i64 xt) := by rw [hW0]; simp
  have hB0 : Below w.heap.size w W0 := by rw [hW0]; exact (Below.refl _ _).alloc (Nat.le_refl _) _
  have e0 : W0.cell? ⟨g, 0, none⟩ = some (.string fk) := (hB0.cell (p := ⟨g, 0, none⟩) hlt).trans d0
  have e1 : W0.cell? ⟨g, 1, none⟩ = some (.int .i64 ft) := (hB0.cell (p := ⟨g, 1, none⟩) hlt).trans d1
  rw [← hW0]
  clear hW0 d0 d1
  refine wp_region_still_tail 4 (by kernel_rfl) (by kernel_rfl) ?_
  simp only [List.take_succ_cons, List.take_zero, List.drop_succ_cons, List.drop_zero]
  repeat still_step
  try refine wpStill_nil ?_
  change wpList _ _ _ _ _ (World.drew _)
  go_wp2_with (go_at_call 60; refine (HC.out _).mono ?_; rintro e w' ⟨rfl, hb'⟩)
  go_ret
  exact ⟨rfl, hB0.drew.trans (Below.mono hb' (by exact hB0.size))⟩
end Go.Proofs.Ytnnmigglcpkomaa.Dm
