/- A head in memory; moveOn. -/
import Derived.Test.YtgegljbocacdnaaOI
set_option maxRecDepth 100000
namespace Go.Proofs.Ytgegljbocacdnaa
open Go.RowKit

/-- Texts that can be read from a slice, whose room is known. -/
def TextC (w : World) (v : Value) (rs : List ByteArray) : Prop :=
  ∃ a c, v = .slice a rs.length c ∧ rs.length ≤ c ∧ c ≤ 9223372036854775807 ∧ (rs = [] ∨ ∃ b off, a = some ⟨b, off, none⟩ ∧ b < w.heap.size ∧ ∀ j (h : j < rs.length), w.cell? ⟨b, off + j, none⟩ = some (.string rs[j]))
theorem TextC.texts {w : World} {v : Value} {rs : List ByteArray} (h : TextC w v rs) : Texts w v rs := by
  obtain ⟨a, c, h1, _, _, h2⟩ := h
  exact ⟨a, c, h1, h2⟩
theorem TextC.below {B : Nat} {w w' : World} {v : Value} {rs : List ByteArray} (h : TextC w v rs) (hb : Below B w w') (hB : w.heap.size ≤ B) : TextC w' v rs := by
  obtain ⟨a, c, rfl, h1, h2, h⟩ := h
  refine ⟨a, c, rfl, h1, h2, h.imp id ?_⟩
  rintro ⟨b, off, h1, h2, h3⟩
  exact ⟨b, off, h1, Nat.lt_of_lt_of_le h2 hb.size, fun j hj => (hb.cell (p := ⟨b, off + j, none⟩) (Nat.lt_of_lt_of_le h2 hB)).trans (h3 j hj)⟩
theorem Strs.textC {B : Nat} {w : World} {v : Value} {rs : List ByteArray} (h : Strs B w v rs) : TextC w v rs := by
  obtain ⟨a, c, rfl, h1⟩ := h.texts
  rcases h.2 with ⟨h2, h3⟩ | ⟨g, cap, cur, h2, _, _, h3, h4, _⟩
  · injection h2 with _ _ h5
    exact ⟨a, c, rfl, by omega, by omega, h1⟩
  · injection h2 with _ _ h5
    exact ⟨a, c, rfl, by omega, by unfold maxLen at h4; omega, h1⟩

/-- A head lies at block q: its text and those behind it. -/
def HdAt (W0 : World) (q : Nat) (l : List ByteArray) (w : World) : Prop :=
  ∃ t r v, l = t :: r ∧ w.heap[q]? = some (.cells #[.string t, v] 54 (0, 0)) ∧ TextC W0 v r
theorem HdAt.same {W0 : World} {q : Nat} {l : List ByteArray} {w w' : World} (h : HdAt W0 q l w) (e : w'.heap[q]? = w.heap[q]?) : HdAt W0 q l w' := by
  obtain ⟨t, r, v, h1, h2, h3⟩ := h
  exact ⟨t, r, v, h1, e.trans h2, h3⟩
theorem HdAt.hk {B : Nat} {W0 : World} {q : Nat} {l : List ByteArray} {w w' : World} (h : HdAt W0 q l w) (hk : HK B w w') : HdAt W0 q l w' := by
  obtain ⟨t, r, v, h1, h2, h3⟩ := h
  exact ⟨t, r, v, h1, hk.other q _ _ _ (by decide) (by decide) h2, h3⟩

set_option maxHeartbeats 800000 in
theorem move_no (W0 : World) (q : Nat) (t : ByteArray) (w : World) (h : HdAt W0 q [t] w) :
    Calls Try.prog 28 #[.pointer (some ⟨q, 0, none⟩)] w fun e w' => e = .returned (.bool false) ∧ w = w' := by
  obtain ⟨t', r, v, h1, h2, h3⟩ := h
  injection h1 with _ h1
  subst h1
  obtain ⟨a, c, rfl, _⟩ := h3
  have c1 : w.cell? ⟨q, 1, none⟩ = some (.slice a 0 c) := by rw [Lib.cell_of_heap h2]; rfl
  clear h2
  go_enter Try.func28, Try.ntmps28
  go_wp2
  go_ret
  exact ⟨rfl, rfl⟩

/-- What moveOn leaves, where there is a next text. -/
structure MovePost (W0 : World) (q : Nat) (r : List ByteArray) (w : World) (e : Ending) (w' : World) : Prop where
  ret : e = .returned (.bool true)
  hd : HdAt W0 q r w'
  gr : w.grownBy w' (some q)

set_option maxHeartbeats 1600000 in
theorem move_yes (W0 : World) (q : Nat) (t x : ByteArray) (r : List ByteArray) (w : World) (h : HdAt W0 q (t :: x :: r) w) (hw : Below W0.heap.size W0 w) :
    Calls Try.prog 28 #[.pointer (some ⟨q, 0, none⟩)] w (MovePost W0 q (x :: r) w) := by
  obtain ⟨t', r', v, h1, h2, h3⟩ := h
  injection h1 with _ h1
  subst h1
  obtain ⟨a, c, rfl, hc, hc9, h4⟩ := h3
  rcases h4 with h4 | ⟨b, o, rfl, hb, h4⟩
  · cases h4
  have c0 : w.cell? ⟨q, 0, none⟩ = some (.string t') := by rw [Lib.cell_of_heap h2]; rfl
  have c1 : w.cell? ⟨q, 1, none⟩ = some (.slice (some ⟨b, o, none⟩) (r.length + 1) c) := by rw [Lib.cell_of_heap h2]; rfl
  have f0 : w.frozen? ⟨q, 0, none⟩ = false := Lib.frozen_of_heap h2 0
  have f1 : w.frozen? ⟨q, 1, none⟩ = false := Lib.frozen_of_heap h2 1
  have cx : w.cell? ⟨b, o, none⟩ = some (.string x) := (hw.cell (p := ⟨b, o, none⟩) hb).trans (h4 0 (by simp))
  have hq := (Array.getElem?_eq_some_iff.1 h2).1
  obtain ⟨v', hv'⟩ : ∃ v', v' = (if c = 1 then Value.slice (some ⟨b, o, none⟩) r.length 0 else Value.slice (some ⟨b, o + 1, none⟩) r.length (c - 1)) := ⟨_, rfl⟩
  have hT : TextC W0 v' r := by
    have hc' : r.length + 1 ≤ c := hc
    by_cases h1c : c = 1
    · rw [if_pos h1c] at hv'
      have hr : r = [] := List.eq_nil_of_length_eq_zero (by omega)
      exact ⟨some ⟨b, o, none⟩, 0, hv', by rw [hr]; simp, by omega, .inl hr⟩
    · rw [if_neg h1c] at hv'
      refine ⟨some ⟨b, o + 1, none⟩, c - 1, hv', by omega, by omega, .inr ⟨b, o + 1, rfl, hb, fun j hj => ?_⟩⟩
      have := h4 (j + 1) (by simpa using hj)
      rw [show o + (j + 1) = o + 1 + j by omega] at this
      exact this
  have HP : Hid (MovePost W0 q (x :: r) w (.returned (.bool true)) ((w.setCell ⟨q, 0, none⟩ (.string x)).setCell ⟨q, 1, none⟩ v').drew) := Lib.hid (by
    have e1 := heap_setCell_same w q 0 _ 54 (.string x) h2
    have e2 := heap_setCell_same _ q 1 _ 54 v' e1
    refine ⟨rfl, ⟨x, r, v', rfl, e2, hT⟩, ⟨rfl, rfl, rfl, by simp, fun k hk hne => ?_⟩⟩
    have hne' : q ≠ k := fun e => hne (by rw [e])
    exact (heap_setCell_other _ ⟨q, 1, none⟩ k v' (fun e => hne' e.symm)).trans (heap_setCell_other w ⟨q, 0, none⟩ k (.string x) (fun e => hne' e.symm)))
  obtain ⟨n, hn⟩ : ∃ n, n = r.length := ⟨_, rfl⟩
  simp only [List.length_cons] at hc
  rw [← hn] at c1 hc hv'
  have hn0 : 0 < n + 1 := by omega
  clear h2 h4 hw hT hn
  by_cases h1c : c = 1
  · subst h1c
    obtain rfl : n = 0 := by omega
    rw [if_pos rfl] at hv'
    subst hv'
    go_enter Try.func28, Try.ntmps28
    go_wp2
    go_region
    all_goals (go_wp2; go_ret; exact HP.out)
  · rw [if_neg h1c] at hv'
    subst hv'
    have h1c' : 1 < c := by omega
    go_enter Try.func28, Try.ntmps28
    go_wp2
    go_region
    all_goals (go_wp2; go_ret; exact HP.out)
end Go.Proofs.Ytgegljbocacdnaa
