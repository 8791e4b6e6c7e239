/- The set that the document's And and Or lay out. -/
import Derived.Test.YtpjpkpbfbbpmdaaDoorTTH
set_option maxRecDepth 100000
namespace Go.Proofs.YtpjpkpbfbbpmdaaDoor.Ts
open Go Go.RowKit

/-- The block in hand, and the one ahead of it. -/
def So (o k : Nat) : Prop := k = o ∨ k + 1 = o
/-- What is laid out, block o: exact ones T, pages P; W: the memory at the start. -/
structure Out (W w : World) (o g : Nat) (ta : Option Addr) (tn tc : Nat) (pa : Option Addr) (pn pc : Nat) (T P : List Nat) : Prop where
  box : w.heap[o]? = some (.cells #[.int .i64 (g : Int), .slice ta tn tc, .slice pa pn pc] 27 (0, 0))
  tl : tn = T.length
  pl : pn = P.length
  nt : NumsS (So o) w ta T
  np : NumsS (So o) w pa P
  kept : Kept (fun k => k = o) W w
section
variable {W w w' : World} {o g : Nat} {ta : Option Addr} {tn tc : Nat} {pa : Option Addr} {pn pc : Nat} {T P : List Nat}
theorem Out.lt (h : Out W w o g ta tn tc pa pn pc T P) : o < w.heap.size := (Array.getElem?_eq_some_iff.1 h.box).1
theorem Out.below (h : Out W w o g ta tn tc pa pn pc T P) (hb : Below w.heap.size w w') : Out W w' o g ta tn tc pa pn pc T P :=
  ⟨(hb.block o h.lt).trans h.box, h.tl, h.pl, h.nt.below hb, h.np.below hb, h.kept.trans (Kept.ofBelow (S := fun k => k = o) hb) (fun _ e => .inl e)⟩
theorem Out.t (h : Out W w o g ta tn tc pa pn pc T P) : w.cell? ⟨o, 1, none⟩ = some (.slice ta tn tc) := Lib.cell_of_heap h.box 1
theorem Out.p (h : Out W w o g ta tn tc pa pn pc T P) : w.cell? ⟨o, 2, none⟩ = some (.slice pa pn pc) := Lib.cell_of_heap h.box 2
theorem Out.f (h : Out W w o g ta tn tc pa pn pc T P) (j : Nat) : w.frozen? ⟨o, j, none⟩ = false := froz_of h.box j
theorem Out.cell (h : Out W w o g ta tn tc pa pn pc T P) {q : Addr} {v : Value} (hq : q.block < W.heap.size) (hne : q.block ≠ o) (hc : W.cell? q = some v) : w.cell? q = some v :=
  (World.cell?_of_block (h.kept.block q.block hq hne)).trans hc
theorem Out.putP (h : Out W w o g ta tn tc pa pn pc T P) {a : Option Addr} {n c : Nat} {l : List Nat} (hn : n = l.length) (hl : NumsS (So o) w a l) : Out W (w.setCell ⟨o, 2, none⟩ (.slice a n c)) o g ta tn tc a n c T l := by
  have hk : Kept (So o) w (w.setCell ⟨o, 2, none⟩ (.slice a n c)) := Kept.setCell (So o) _ (b := o) (.inl rfl) _
  have hk' : Kept (fun k => k = o) w (w.setCell ⟨o, 2, none⟩ (.slice a n c)) := Kept.setCell (fun k => k = o) _ (b := o) rfl _
  refine ⟨?_, h.tl, hn, h.nt.kept hk, hl.kept hk, h.kept.trans hk' (fun _ e => .inl e)⟩
  have := heap_setCell_same w o 2 _ 27 (.slice a n c) h.box
  simpa using this
theorem Out.putT (h : Out W w o g ta tn tc pa pn pc T P) {a : Option Addr} {n c : Nat} {l : List Nat} (hn : n = l.length) (hl : NumsS (So o) w a l) : Out W (w.setCell ⟨o, 1, none⟩ (.slice a n c)) o g a n c pa pn pc l P := by
  have hk : Kept (So o) w (w.setCell ⟨o, 1, none⟩ (.slice a n c)) := Kept.setCell (So o) _ (b := o) (.inl rfl) _
  have hk' : Kept (fun k => k = o) w (w.setCell ⟨o, 1, none⟩ (.slice a n c)) := Kept.setCell (fun k => k = o) _ (b := o) rfl _
  refine ⟨?_, hn, h.pl, hl.kept hk, h.np.kept hk, h.kept.trans hk' (fun _ e => .inl e)⟩
  have := heap_setCell_same w o 1 _ 27 (.slice a n c) h.box
  simpa using this
/-- What put leaves of it. -/
def PutO (W : World) (o g : Nat) (ta : Option Addr) (tn tc : Nat) (pa : Option Addr) (pn pc : Nat) (T P l : List Nat) (w : World) (e : Ending) (w' : World) : Prop :=
  ∃ a c, e = .returned (.slice a l.length c) ∧ Hid (NumsS (So o) w' a l ∧ Out W w' o g ta tn tc pa pn pc T P ∧ Below w.heap.size w w')
theorem Out.callP (h : Out W w o g ta tn tc pa pn pc T P) (hs : Srt P) (x : Nat) (hl : pn ≤ 1099511627776) {V : World} (hV : Below w.heap.size w V) :
    Calls Tryd.prog 31 #[.slice pa pn pc, .int .i64 x] V (PutO W o g ta tn tc pa pn pc T P (ins x P) w) := by
  have h' := h.below hV
  refine (rput_any pc h'.np h.pl x hl (fun k e => by have := h'.lt; rcases e with e | e <;> omega) hs).mono ?_
  rintro e w' ⟨a, c, rfl, k1, k2⟩
  exact ⟨a, c, rfl, Lib.hid ⟨k1, h'.below k2, bel3 hV k2⟩⟩
theorem Out.callT (h : Out W w o g ta tn tc pa pn pc T P) (hs : Srt T) (x : Nat) (hl : tn ≤ 1099511627776) {V : World} (hV : Below w.heap.size w V) :
    Calls Tryd.prog 31 #[.slice ta tn tc, .int .i64 x] V (PutO W o g ta tn tc pa pn pc T P (ins x T) w) := by
  have h' := h.below hV
  refine (rput_any tc h'.nt h.tl x hl (fun k e => by have := h'.lt; rcases e with e | e <;> omega) hs).mono ?_
  rintro e w' ⟨a, c, rfl, k1, k2⟩
  exact ⟨a, c, rfl, Lib.hid ⟨k1, h'.below k2, bel3 hV k2⟩⟩
end

theorem four_of (w : World) (o0 o1 o2 o3 : Array Value) (t : TypeId) : ∀ W, W = (((w.alloc (.cells o0 t)).alloc (.cells o1 t)).alloc (.cells o2 t)).alloc (.cells o3 t) →
    W.heap[w.heap.size]? = some (.cells o0 t (0, 0)) ∧ W.heap[w.heap.size + 1]? = some (.cells o1 t (0, 0)) ∧ W.heap[w.heap.size + 2]? = some (.cells o2 t (0, 0)) ∧ W.heap[w.heap.size + 3]? = some (.cells o3 t (0, 0)) ∧ Below w.heap.size w W ∧ W.heap.size = w.heap.size + 4 := by
  rintro W rfl
  have e0 := heap_alloc_new w (.cells o0 t)
  have e1 := heap_alloc_new (w.alloc (.cells o0 t)) (.cells o1 t)
  have e2 := heap_alloc_new ((w.alloc (.cells o0 t)).alloc (.cells o1 t)) (.cells o2 t)
  have e3 := heap_alloc_new (((w.alloc (.cells o0 t)).alloc (.cells o1 t)).alloc (.cells o2 t)) (.cells o3 t)
  have z1 : (w.alloc (.cells o0 t)).heap.size = w.heap.size + 1 := by simp
  have z2 : ((w.alloc (.cells o0 t)).alloc (.cells o1 t)).heap.size = w.heap.size + 2 := by simp
  have z3 : (((w.alloc (.cells o0 t)).alloc (.cells o1 t)).alloc (.cells o2 t)).heap.size = w.heap.size + 3 := by simp
  rw [z1] at e1; rw [z2] at e2; rw [z3] at e3
  have b1 : ∀ i, i < w.heap.size + 1 → ((w.alloc (.cells o0 t)).alloc (.cells o1 t)).heap[i]? = (w.alloc (.cells o0 t)).heap[i]? := fun i hi => Below.heap_alloc _ _ _ (by rw [z1]; exact hi)
  have b2 : ∀ i, i < w.heap.size + 2 → (((w.alloc (.cells o0 t)).alloc (.cells o1 t)).alloc (.cells o2 t)).heap[i]? = ((w.alloc (.cells o0 t)).alloc (.cells o1 t)).heap[i]? := fun i hi => Below.heap_alloc _ _ _ (by rw [z2]; exact hi)
  have b3 : ∀ i, i < w.heap.size + 3 → ((((w.alloc (.cells o0 t)).alloc (.cells o1 t)).alloc (.cells o2 t)).alloc (.cells o3 t)).heap[i]? = (((w.alloc (.cells o0 t)).alloc (.cells o1 t)).alloc (.cells o2 t)).heap[i]? := fun i hi => Below.heap_alloc _ _ _ (by rw [z3]; exact hi)
  refine ⟨(b3 _ (by omega)).trans ((b2 _ (by omega)).trans ((b1 _ (by omega)).trans e0)), (b3 _ (by omega)).trans ((b2 _ (by omega)).trans e1), (b3 _ (by omega)).trans e2, e3, ?_, by simp⟩
  exact ((((Below.refl _ _).alloc (Nat.le_refl _) _).alloc (by simp) _).alloc (by simp; omega) _).alloc (by simp; omega) _
end Go.Proofs.YtpjpkpbfbbpmdaaDoor.Ts
