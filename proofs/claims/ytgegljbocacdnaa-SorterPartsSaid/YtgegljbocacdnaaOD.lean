/- What Swap does to heads. -/
import Derived.Test.YtgegljbocacdnaaOC
set_option maxRecDepth 100000
namespace Go.Proofs.Ytgegljbocacdnaa
open Go.RowKit

theorem row_type {w : World} {B : Nat} {T : TypeId} {g n c : Nat} {xs : List Value} (h : w.ownsRow B T 1 (.slice (some ⟨g, 0, none⟩) n c) n xs) : B ≤ g ∧ ∃ cur, w.heap[g]? = some (Obj.cells cur T (0, 0)) := by
  rcases h.2 with ⟨h', _⟩ | ⟨g', cap', cur, h', hb, hg, _⟩
  · simp at h'
  · simp only [Value.slice.injEq, Option.some.injEq, Addr.mk.injEq, and_true, true_and] at h'
    obtain ⟨rfl, rfl⟩ := h'
    exact ⟨hb, cur, hg⟩
theorem HK.ofGrown {B : Nat} {w w' : World} {g n c : Nat} {xs : List Value} (h : w.ownsRow B 52 1 (.slice (some ⟨g, 0, none⟩) n c) n xs) (hg : w.grownBy w' (some g)) : HK B w w' := by
  obtain ⟨hB, cur, hc⟩ := row_type h
  have hlt : g < w.heap.size := (Array.getElem?_eq_some_iff.1 hc).1
  refine ⟨⟨hg.os, hg.tape, hg.output, hg.size, fun k hk => hg.block k (by omega) (fun e => by injection e with e; omega)⟩, fun k cs T m h1 h2 h3 => ?_⟩
  have hk : k < w.heap.size := (Array.getElem?_eq_some_iff.1 h3).1
  rw [hg.block k hk (fun e => by
    injection e with e
    subst e
    rw [hc] at h3
    injection h3 with h3
    injection h3 with _ h4 _
    exact h2 h4.symm)]
  exact h3

theorem ptrs_swp {ks : List Nat} (i j : Nat) : ((ptrs ks).set i (ptr (ks.getD j 0))).set j (ptr (ks.getD i 0)) = ptrs (swp ks i j) := by
  unfold ptrs swp
  rw [List.map_set, List.map_set]
set_option maxHeartbeats 1600000 in
theorem hdSwap_any (B g n c : Nat) (ks : List Nat) (i j : Nat) (w : World) (hn : ks.length = n) (hr : w.ownsRow B 52 1 (.slice (some ⟨g, 0, none⟩) n c) n (ptrs ks)) (hi : i < n) (hj : j < n) :
    Calls Try.prog 70 #[.slice (some ⟨g, 0, none⟩) n c, .int .i64 i, .int .i64 j] w fun e w' => e = .returned (.tuple #[]) ∧ w'.ownsRow B 52 1 (.slice (some ⟨g, 0, none⟩) n c) n (ptrs (swp ks i j)) ∧ w.grownBy w' (some g) := by
  have ci : w.cell? ⟨g, i, none⟩ = some (.pointer (some ⟨ks.getD i 0, 0, none⟩)) := (hr.cellAt i (by omega)).trans (ptrs_get ks i (by omega))
  have cj : w.cell? ⟨g, j, none⟩ = some (.pointer (some ⟨ks.getD j 0, 0, none⟩)) := (hr.cellAt j (by omega)).trans (ptrs_get ks j (by omega))
  have fi := hr.frozenAt i
  have fj := hr.frozenAt j
  have HR := Lib.hid hr
  have HS := Lib.hid (ptrs_swp (ks := ks) i j)
  obtain ⟨p, hp⟩ : ∃ p, p = ks.getD i 0 := ⟨_, rfl⟩
  obtain ⟨q, hq⟩ : ∃ q, q = ks.getD j 0 := ⟨_, rfl⟩
  rw [← hp] at ci HS
  rw [← hq] at cj HS
  have i1 : (i : Int) < n := by omega
  have j1 : (j : Int) < n := by omega
  clear hr hn hp hq
  obtain ⟨v1, h1⟩ := cell?_setCell_some (w := w) (p := ⟨g, i, none⟩) (x := .pointer (some ⟨q, 0, none⟩)) (q := ⟨g, j, none⟩) cj
  go_enter Try.func70, Try.ntmps70
  go_wp2
  go_region
  go_end0
  have s1 := HR.out.stored i (.pointer (some ⟨q, 0, none⟩))
  have s2 := s1.1.stored j (.pointer (some ⟨p, 0, none⟩))
  have hx := HS.out
  unfold ptr at hx
  rw [hx] at s2
  exact ⟨rfl, s2.1.drew, ⟨s2.2.os.trans s1.2.os, s2.2.tape.trans s1.2.tape, s2.2.output.trans s1.2.output, Nat.le_trans s1.2.size s2.2.size, fun k hk hk2 => (s2.2.block k (Nat.lt_of_lt_of_le hk s1.2.size) hk2).trans (s1.2.block k hk hk2)⟩⟩
end Go.Proofs.Ytgegljbocacdnaa
