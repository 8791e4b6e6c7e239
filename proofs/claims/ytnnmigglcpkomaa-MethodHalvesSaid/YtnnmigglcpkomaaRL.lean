/- The contract of put, where no shelf is parted. -/
import Derived.Test.YtnnmigglcpkomaaRK
import Derived.Deep.DeepCutAuto
set_option maxRecDepth 100000
namespace Go.Proofs.Ytnnmigglcpkomaa.Dm
open Go Go.RowKit

theorem ownsRow_some {w : World} {B e z n : Nat} {v : Value} {xs : List Value} (h : w.ownsRow B e z v (n + 1) xs) : ∃ g c, v = .slice (some ⟨g, 0, none⟩) (n + 1) c := by
  rcases h.2 with ⟨_, h0⟩ | ⟨g, c, _, hv, _⟩
  · omega
  · exact ⟨g, c, hv⟩

theorem new_heapH (w : World) (o : Obj) : (w.alloc o).heap[w.heap.size]? = some o := by
  show (w.heap.push o)[w.heap.size]? = some o
  simp

set_option maxHeartbeats 3200000 in
/-- The entry is there. -/
theorem put_have (P : Nat) (ss : List Sh) (x : Hd) (w : World) (hS : ∀ W, Below w.heap.size w W → Calls Try.prog 48 #[.pointer (some ⟨P, 1, none⟩), hdV x] W (SeekPost (Sh.lists ss) x W)) (hx : x ∈ (Sh.lists ss).flatten) :
    Calls Try.prog 39 #[.pointer (some ⟨P, 1, none⟩), hdV x] w fun e w' => e = .returned (.bool false) ∧ Below w.heap.size w w' := by
  have HS : Hid (∀ W, Below w.heap.size w W → Calls Try.prog 48 #[.pointer (some ⟨P, 1, none⟩), hdV x] W fun e w' => ∃ i at' : Nat, e = .returned (.tuple #[.int .i64 i, .int .i64 at', .bool true]) ∧ Below W.heap.size W w') := Lib.hid (fun W hW => (hS W hW).mono (by
    rintro e w' ⟨i, at', th, rfl, hk, hb⟩
    refine ⟨i, at', ?_, hb⟩
    cases th with
    | true => rfl
    | false =>
      rw [hk.split] at hx
      rcases List.mem_append.1 hx with h | h
      · have h1 := hk.low x h
        rw [cmpH_self] at h1
        omega
      · have h1 := hk.high rfl x h
        rw [cmpH_self] at h1
        omega))
  clear hS hx
  obtain ⟨xk, xt⟩ := x
  unfold hdV at HS ⊢
  simp only [] at HS ⊢
  go_enter Try.func39, Try.ntmps39
  go_wp2_with (go_at_call 48; refine (HS.out _ ((Below.refl _ _).alloc (Nat.le_refl _) _)).mono ?_)
  rintro e w1 ⟨i, at', rfl, hb1⟩
  have HB : Hid (Below w.heap.size w w1) := Lib.hid (below_al _ hb1)
  clear hb1
  go_wp2
  go_ret
  exact ⟨rfl, HB.out⟩

/-- What put leaves of a rack that has not the entry. -/
def RkPost (P : Nat) (v : Value) (ss : List Sh) (F : List Hd) (w : World) (e : Ending) (w' : World) : Prop :=
  ∃ v' ss', e = .returned (.bool true) ∧ RackAt w' P v' ss' ∧ (Sh.lists ss').flatten = F ∧ Kept (bl P v ss) w w' ∧ (∀ k, bl P v' ss' k → bl P v ss k ∨ w.heap.size ≤ k) ∧ w'.cell? ⟨P, 0, none⟩ = w.cell? ⟨P, 0, none⟩ ∧ ∀ s, s ∈ ss' → s.hs.length ≤ 512

/-- The rack where the shelf s has X now. -/
def PutMid (P sb c : Nat) (A B : List Sh) (s : Sh) (X : List Hd) (w wx : World) : Prop :=
  ∃ g2 c2, RackAt wx P (.slice (some ⟨sb, 0, none⟩) (A ++ s :: B).length c) (A ++ [⟨g2, c2, X⟩] ++ B) ∧ Kept (bl P (.slice (some ⟨sb, 0, none⟩) (A ++ s :: B).length c) (A ++ s :: B)) w wx ∧ (g2 = s.g ∨ w.heap.size ≤ g2) ∧ wx.cell? ⟨P, 0, none⟩ = w.cell? ⟨P, 0, none⟩
theorem PutMid.post {P sb c : Nat} {A B : List Sh} {s : Sh} {X : List Hd} {w wx : World} (h : PutMid P sb c A B s X w wx) (hb : ∀ t, t ∈ A ++ s :: B → t.hs.length ≤ 512) (hX : X.length ≤ 512) :
    RkPost P (.slice (some ⟨sb, 0, none⟩) (A ++ s :: B).length c) (A ++ s :: B) ((Sh.lists A).flatten ++ X ++ (Sh.lists B).flatten) w (.returned (.bool true)) wx := by
  obtain ⟨g2, c2, hR, hK, hg, h0⟩ := h
  refine ⟨_, _, rfl, hR, by simp [Sh.lists], hK, ?_, h0, fun t ht => ?_⟩
  rotate_left
  · simp only [List.mem_append, List.mem_singleton] at ht
    rcases ht with (h1 | rfl) | h1
    · exact hb t (by simp [h1])
    · exact hX
    · exact hb t (by simp [h1])
  rintro k (rfl | h | ⟨t, ht, rfl⟩)
  · exact .inl (.inl rfl)
  · exact .inl (.inr (.inl h))
  · simp only [List.mem_append, List.mem_singleton] at ht
    rcases ht with (h1 | rfl) | h1
    · exact .inl (.inr (.inr ⟨t, by simp [h1], rfl⟩))
    · rcases hg with h2 | h2
      · exact .inl (.inr (.inr ⟨s, by simp, h2.symm⟩))
      · exact .inr h2
    · exact .inl (.inr (.inr ⟨t, by simp [h1], rfl⟩))

set_option maxHeartbeats 3200000 in
theorem put_new (P sb c : Nat) (A B : List Sh) (s : Sh) (x : Hd) (w : World) (at' : Nat) (hR : RackAt w P (.slice (some ⟨sb, 0, none⟩) (A ++ s :: B).length c) (A ++ s :: B)) (hat : at' ≤ s.hs.length) (hfew : ∀ t, t ∈ A ++ s :: B → t.hs.length ≤ 512)
    (hSP : 512 ≤ s.hs.length → ∀ wx, PutMid P sb c A B s (s.hs.take at' ++ [x] ++ s.hs.drop at') w wx → Calls Try.prog 56 #[.pointer (some ⟨P, 1, none⟩), .int .i64 A.length] wx fun e w' => e = .returned (.tuple #[]) ∧ RkPost P (.slice (some ⟨sb, 0, none⟩) (A ++ s :: B).length c) (A ++ s :: B) ((Sh.lists A).flatten ++ (s.hs.take at' ++ [x] ++ s.hs.drop at') ++ (Sh.lists B).flatten) w (.returned (.bool true)) w')
    (hS : ∀ W, Below w.heap.size w W → Calls Try.prog 48 #[.pointer (some ⟨P, 1, none⟩), hdV x] W fun e w' => e = .returned (.tuple #[.int .i64 A.length, .int .i64 at', .bool false]) ∧ Below W.heap.size W w') :
    Calls Try.prog 39 #[.pointer (some ⟨P, 1, none⟩), hdV x] w (RkPost P (.slice (some ⟨sb, 0, none⟩) (A ++ s :: B).length c) (A ++ s :: B) ((Sh.lists A).flatten ++ (s.hs.take at' ++ [x] ++ s.hs.drop at') ++ (Sh.lists B).flatten) w) := by
  have hlen := hfew s (by simp)
  obtain ⟨n, hnn⟩ : ∃ n, n = (A ++ s :: B).length := ⟨_, rfl⟩
  obtain ⟨i, hi⟩ : ∃ i, i = A.length := ⟨_, rfl⟩
  have hin : i < n := by rw [hnn, hi]; simp
  have hc := hR.cell
  have hf := hR.cold
  have hPl := hR.lt
  have hSA := hR.shelf s (by simp)
  obtain ⟨b', hb', hsbl, hsc⟩ := hR.at A.length (by simp)
  cases hb'
  rw [show (A ++ s :: B)[A.length]'(by simp) = s by simp, ← hi] at hsc
  have hsbP : sb ≠ P := fun h => hR.vP (by rw [h]; rfl)
  have hsg : s.g ≠ P ∧ s.g ≠ sb := ⟨(hR.sP s (by simp)).1, fun h => (hR.sP s (by simp)).2 (by rw [h]; rfl)⟩
  have hsf : ∀ o, w.frozen? ⟨sb, o, none⟩ = false := fun o => by
    rcases hR.row.2 with ⟨h1, _⟩ | ⟨g, cap, cur, h1, _, hg, _⟩
    · cases h1
    · cases h1
      exact Lib.frozen_of_heap hg o
  have HI : Hid (∀ W vb, (∀ k, k < w.heap.size → W.heap[k]? = w.heap[k]?) → w.heap.size ≤ vb → W.heap[vb]? = some (.cells #[.string x.1, .int .i64 x.2] 80 (0, 0)) → Calls Try.prog 55 #[s.v, .int .i64 at', .slice (some ⟨vb, 0, none⟩) 1 1] W fun e w' => ∃ g2 c2, e = .returned (.slice (some ⟨g2, 0, none⟩) (s.hs.length + 1) c2) ∧
      w'.cell? ⟨P, 1, none⟩ = some (.slice (some ⟨sb, 0, none⟩) n c) ∧ w'.cell? ⟨sb, i, none⟩ = some s.v ∧ w'.frozen? ⟨sb, i, none⟩ = false ∧ w'.ownsRow 0 80 2 (.slice (some ⟨g2, 0, none⟩) (s.hs.length + 1) c2) (s.hs.length + 1) (cellsH (s.hs.take at' ++ [x] ++ s.hs.drop at')) ∧ Grew W w' s.v (.slice (some ⟨g2, 0, none⟩) (s.hs.length + 1) c2)) := Lib.hid (fun W vb hW hvb hcell => by
    have hSW : ShAt W s := hSA.of_block (hW _ hSA.lt)
    refine (inHeld_any s.v s.hs.length at' (cellsH s.hs) vb [.string x.1, .int .i64 x.2] W hSW hat (by omega) hcell rfl (cellsH_one' [x]) (cellsH_one' _) (fun h => by have := hSA.lt; simp only [Sh.v, Value.ownBlock, Option.some.injEq] at h; omega)).mono ?_
    rintro e w' ⟨v', rfl, hO, hG⟩
    obtain ⟨g2, c2, rfl⟩ := ownsRow_some hO
    have hkept : ∀ k, k < w.heap.size → k ≠ s.g → w'.heap[k]? = w.heap[k]? := fun k hk hks => (hG.1.block k (by
      rcases Nat.lt_or_ge k W.heap.size with h | h
      · exact h
      · have := hW k hk
        rw [Array.getElem?_eq_none h] at this
        have := (Array.getElem?_eq_none_iff.1 this.symm)
        omega) (fun h => hks (by simpa [Sh.v, Value.ownBlock] using h))).trans (hW k hk)
    refine ⟨g2, c2, rfl, ?_, ?_, ?_, ?_, hG⟩
    · rw [World.cell?_of_block (w := w) (hkept P hPl (fun h => hsg.1 h.symm)), hc, hnn]
    · rw [World.cell?_of_block (w := w) (hkept sb hsbl (fun h => hsg.2 h.symm)), hsc]
    · rw [World.frozen?_of_block (w := w) (hkept sb hsbl (fun h => hsg.2 h.symm)), hsf]
    · rw [cellsH_append, cellsH_append, ← cellsH_take, ← cellsH_drop, cellsH_one]
      exact hO)
  have HFIN : Hid (∀ W2 g2 c2 w2, Below w.heap.size w W2 → Grew W2 w2 s.v (.slice (some ⟨g2, 0, none⟩) (s.hs.length + 1) c2) → w2.ownsRow 0 80 2 (.slice (some ⟨g2, 0, none⟩) (s.hs.length + 1) c2) (s.hs.length + 1) (cellsH (s.hs.take at' ++ [x] ++ s.hs.drop at')) →
      PutMid P sb c A B s (s.hs.take at' ++ [x] ++ s.hs.drop at') w (w2.setCell ⟨sb, i, none⟩ (.slice (some ⟨g2, 0, none⟩) (s.hs.length + 1) c2))) := Lib.hid (by
    intro W2 g2 c2 w2 hB2 hG hO
    have hln : (s.hs.take at' ++ [x] ++ s.hs.drop at').length = s.hs.length + 1 := by
      simp only [List.length_append, List.length_take, List.length_drop, List.length_singleton]
      omega
    have hsgl : s.g < w.heap.size := hSA.lt
    have hkept : ∀ k, k < w.heap.size → k ≠ s.g → w2.heap[k]? = w.heap[k]? := fun k hk hks => (hG.1.block k (by have := hB2.size; omega) (fun h => hks (by simpa [Sh.v, Value.ownBlock] using h))).trans (hB2.block k hk)
    have hg2 : g2 = s.g ∨ w.heap.size ≤ g2 := by
      rcases hG.2 g2 rfl with h | h
      · left; simpa [Sh.v, Value.ownBlock] using h.symm
      · right; have := hB2.size; omega
    have hg2sb : g2 ≠ sb := by
      rcases hg2 with h | h
      · rw [h]; exact hsg.2
      · omega
    have hg2P : g2 ≠ P := by
      rcases hg2 with h | h
      · rw [h]; exact hsg.1
      · omega
    have hk4 : ∀ k, k ≠ sb → (w2.setCell ⟨sb, i, none⟩ (.slice (some ⟨g2, 0, none⟩) (s.hs.length + 1) c2)).heap[k]? = w2.heap[k]? := fun k hk => Below.heap_setCell _ _ _ _ hk
    have hrow2 : w2.ownsRow 0 102 1 (.slice (some ⟨sb, 0, none⟩) (A ++ s :: B).length c) (A ++ s :: B).length ((A ++ s :: B).map Sh.v) := ownsRow_of_block hR.row (fun k hk => by cases hk; exact hkept sb hsbl (fun h => hsg.2 h.symm))
    have hset := ownsRow_set (u := .slice (some ⟨g2, 0, none⟩) (s.hs.length + 1) c2) hrow2 (i := i) (by rw [hi]; simp)
    refine ⟨g2, c2, ?_, ?_, hg2, World.cell?_of_block (w := w) (a := ⟨P, 0, none⟩) ((hk4 P (fun h => hsbP h.symm)).trans (hkept P hPl (fun h => hsg.1 h.symm)))⟩
    · refine hR.remake ?_ ?_ ?_ ?_ ?_ (List.pairwise_singleton _ _) (.inl rfl)
      · rw [World.cell?_of_block (w := w2) (hk4 P (fun h => hsbP h.symm)), World.cell?_of_block (w := w) (hkept P hPl (fun h => hsg.1 h.symm)), hc]
      · rw [World.frozen?_of_block (w := w2) (hk4 P (fun h => hsbP h.symm)), World.frozen?_of_block (w := w) (hkept P hPl (fun h => hsg.1 h.symm)), hf]
      · have e1 : (A ++ [(⟨g2, c2, s.hs.take at' ++ [x] ++ s.hs.drop at'⟩ : Sh)] ++ B).length = (A ++ s :: B).length := by simp
        have e2 : (A ++ [(⟨g2, c2, s.hs.take at' ++ [x] ++ s.hs.drop at'⟩ : Sh)] ++ B).map Sh.v = ((A ++ s :: B).map Sh.v).set i (.slice (some ⟨g2, 0, none⟩) (s.hs.length + 1) c2) := by
          rw [hi]
          simp only [List.map_append, List.map_cons, List.map_nil]
          rw [List.set_append_right _ _ (by rw [List.length_map]; exact Nat.le_refl _), List.length_map, Nat.sub_self, List.set_cons_zero]
          rw [show Sh.v ⟨g2, c2, s.hs.take at' ++ [x] ++ s.hs.drop at'⟩ = .slice (some ⟨g2, 0, none⟩) (s.hs.length + 1) c2 by rw [← hln]; rfl]
          simp only [List.append_assoc, List.cons_append, List.nil_append]
        rw [e1, e2]
        exact hset
      · intro t ht
        have htm : t ∈ A ++ s :: B := by
          rcases List.mem_append.1 ht with h1 | h1 <;> simp [h1]
        have h1 := (hR.shelf t htm).lt
        have h2 := hR.sP t htm
        have h3 : t.g ≠ s.g := by
          obtain ⟨_, pB, pAB⟩ := List.pairwise_append.1 hR.apart
          rcases List.mem_append.1 ht with h4 | h4
          · exact pAB t h4 s (by simp)
          · exact fun h => (List.pairwise_cons.1 pB).1 t h4 h.symm
        rw [hk4 _ (fun h => h2.2 (by rw [h]; rfl)), hkept _ h1 h3]
      · intro m hm
        rw [List.mem_singleton.1 hm]
        refine ⟨?_, by simp, hg2, fun h => hg2sb (by cases h; rfl)⟩
        have : w2.ownsRow 0 80 2 (Sh.v ⟨g2, c2, s.hs.take at' ++ [x] ++ s.hs.drop at'⟩) (s.hs.take at' ++ [x] ++ s.hs.drop at').length (cellsH (s.hs.take at' ++ [x] ++ s.hs.drop at')) := by
          unfold Sh.v
          rw [hln]
          exact hO
        exact ownsRow_of_block this (fun k hk => by cases hk; exact hk4 _ hg2sb)
    · refine ⟨hG.1.os.trans hB2.os, hG.1.tape.trans hB2.tape, hG.1.output.trans hB2.output, ?_, fun k hk hnk => ?_⟩
      · have := hB2.size
        have := hG.1.size
        simp only [World.setCell, Array.size_modify]
        omega
      · have h1 : k ≠ sb := fun h => hnk (.inr (.inl (by rw [h]; rfl)))
        have h2 : k ≠ s.g := fun h => hnk (.inr (.inr ⟨s, by simp, h.symm⟩))
        rw [hk4 k h1, hkept k hk h2])
  obtain ⟨q, hq⟩ : ∃ q, q = s.hs.length := ⟨_, rfl⟩
  obtain ⟨sg, sc, hsv⟩ : ∃ sg sc, s.v = .slice (some ⟨sg, 0, none⟩) q sc := ⟨s.g, s.c, by rw [hq]; rfl⟩
  obtain ⟨X, hX⟩ : ∃ X, X = s.hs.take at' ++ [x] ++ s.hs.drop at' := ⟨_, rfl⟩
  have HMR : Hid (∀ wx, PutMid P sb c A B s X w wx → ∃ g2 c2, wx.cell? ⟨P, 1, none⟩ = some (.slice (some ⟨sb, 0, none⟩) n c) ∧ wx.cell? ⟨sb, i, none⟩ = some (.slice (some ⟨g2, 0, none⟩) (q + 1) c2)) := Lib.hid (by
    rintro wx ⟨g2, c2, hRx, _, _, _⟩
    refine ⟨g2, c2, by rw [hRx.cell, hnn], ?_⟩
    have hl : (A ++ [(⟨g2, c2, X⟩ : Sh)] ++ B).length = (A ++ s :: B).length := by simp
    rw [← hl] at hRx
    obtain ⟨b2, h1, _, h3⟩ := hRx.at A.length (by simp)
    cases h1
    rw [hi, h3]
    have : (A ++ [(⟨g2, c2, X⟩ : Sh)] ++ B)[A.length]'(by simp) = ⟨g2, c2, X⟩ := by simp
    rw [this]
    show some (Value.slice (some ⟨g2, 0, none⟩) X.length c2) = _
    rw [show X.length = q + 1 by rw [hX, hq]; simp only [List.length_append, List.length_take, List.length_drop, List.length_singleton]; omega])
  obtain ⟨PP, hPP⟩ : ∃ PP, PP = RkPost P (.slice (some ⟨sb, 0, none⟩) (A ++ s :: B).length c) (A ++ s :: B) ((Sh.lists A).flatten ++ (s.hs.take at' ++ [x] ++ s.hs.drop at') ++ (Sh.lists B).flatten) w := ⟨_, rfl⟩
  obtain ⟨MM, hMM⟩ : ∃ MM, MM = PutMid P sb c A B s X w := ⟨_, rfl⟩
  have HMP : Hid (∀ wx, q < 512 → MM wx → PP (.returned (.bool true)) wx) := Lib.hid (by
    rw [hMM, hPP, hX]
    exact fun wx hq5 h => h.post hfew (by simp only [List.length_append, List.length_take, List.length_drop, List.length_singleton]; omega))
  rw [← hPP] at hSP ⊢
  rw [← hX, ← hMM, ← hq, ← hi] at hSP
  rw [← hX, hsv, ← hq] at HI HFIN
  rw [← hMM] at HFIN HMR
  rw [hsv] at hsc
  rw [← hi] at hS
  rw [← hnn] at hc
  have hq1 : q < 1000000 := by omega
  obtain ⟨xk, xt⟩ := x
  unfold hdV at hS ⊢
  simp only [] at hS HI ⊢
  have HS := Lib.hid hS
  have HSP := Lib.hid hSP
  have hsf' := hsf i
  clear hS hSP hR hnn hi hsg hSA hf hsf hPP hMM hX hsv hq hlen hat hfew
  have hnz : ((n : Int) == 0) = false := by rw [beq_eq_false_iff_ne]; omega
  have hnz' : ¬ n = 0 := by omega
  go_enter Try.func39, Try.ntmps39
  go_wp2_with (go_at_call 48; refine (HS.out _ ((Below.refl _ _).alloc (Nat.le_refl _) _)).mono ?_)
  rintro e w1 ⟨rfl, hb1⟩
  obtain ⟨x0, x1⟩ := boxH (by simpa using hb1)
  have hB : Below w.heap.size w w1 := below_al _ hb1
  have hsz1 : w.heap.size < w1.heap.size := by have := hb1.size; simp at this; omega
  have c1 : w1.cell? ⟨P, 1, none⟩ = some (.slice (some ⟨sb, 0, none⟩) n c) := (hB.cell (p := ⟨P, 1, none⟩) hPl).trans hc
  have c2 : w1.cell? ⟨sb, i, none⟩ = some (.slice (some ⟨sg, 0, none⟩) q sc) := (hB.cell (p := ⟨sb, i, none⟩) hsbl).trans hsc
  have hsb1 : sb < w1.heap.size := by have := hB.size; omega
  have hP1 : P < w1.heap.size := by have := hB.size; omega
  have HB := Lib.hid hB
  clear hb1 hB hc hsc
  go_upto_region 6 with fail
  go_cut [5] (fun k wx => k = .int .i64 i ∧ MM wx)
  case first =>
    go_region_law (go_simp; go_at_call 55; refine (HI.out _ _ (HB.out.alloc HB.out.size _).drew.block HB.out.size (new_heapH w1 _)).mono ?_; rintro e w2 ⟨g2, c2', rfl, d1, d2, d3, hO, hG⟩)
    all_goals
      have HEND := Lib.hid (HFIN.out _ g2 c2' w2 (HB.out.alloc HB.out.size _).drew hG hO)
      clear hO hG
      go_wp2_with fail
      go_meet
      exact ⟨rfl, HEND.out⟩
  case rest =>
    obtain ⟨rfl, hm⟩ := hcut
    obtain ⟨g2, c2', d1, d2⟩ := HMR.out _ hm
    have HM := Lib.hid hm
    clear hm
    by_cases h5 : 512 ≤ q
    · have h51 : (512 : Int) < (q : Int) + 1 := by omega
      go_wp2_with (go_at_call 56; refine (HSP.out h5 _ HM.out).mono ?_; rintro e w3 ⟨rfl, hp⟩; have HP := Lib.hid hp; clear hp)
      exact HP.out
    · have h51 : ¬ (512 : Int) < (q : Int) + 1 := by omega
      go_wp2
      exact HMP.out _ (by omega) HM.out
end Go.Proofs.Ytnnmigglcpkomaa.Dm
