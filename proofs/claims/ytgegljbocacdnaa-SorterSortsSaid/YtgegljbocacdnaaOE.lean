/- What Push and Pop do to the variable of heads. -/
import Derived.Test.YtgegljbocacdnaaOD
import Derived.StillTailTactics
set_option maxRecDepth 100000
namespace Go.Proofs.Ytgegljbocacdnaa
open Go.RowKit

theorem Hs.at {B hb : Nat} {ks : List Nat} {v : Value} {w : World} (hs : Hs B hb ks v w) : hb < w.heap.size ∧ w.cell? ⟨hb, 0, none⟩ = some v ∧ w.frozen? ⟨hb, 0, none⟩ = false :=
  ⟨(Array.getElem?_eq_some_iff.1 hs.blk).1, by rw [Lib.cell_of_heap hs.blk]; rfl, Lib.frozen_of_heap hs.blk 0⟩
/-- The row's block is not the variable's. -/
theorem Hs.apart {B hb : Nat} {ks : List Nat} {v : Value} {w : World} (h : Hs B hb ks v w) : v.ownBlock ≠ some hb := by
  rcases h.row.2 with ⟨rfl, _⟩ | ⟨g, cap, cur, rfl, _, hg, _⟩
  · intro e; cases e
  · intro e
    injection e with e
    have e' : g = hb := e
    subst e'
    have := h.blk
    rw [hg] at this
    injection this with this
    injection this with _ h9 _
    exact absurd h9 (by decide)
/-- The variable is given another row. -/
theorem Hs.store {B hb : Nat} {ks' : List Nat} {v v' : Value} {w : World} (h : w.heap[hb]? = some (.cells #[v] 51 (0, 0))) (hB : B ≤ hb) (hr : w.ownsRow B 52 1 v' ks'.length (ptrs ks')) : Hs B hb ks' v' (w.setCell ⟨hb, 0, none⟩ v') ∧ HK B w (w.setCell ⟨hb, 0, none⟩ v') := by
  have hne : v'.ownBlock ≠ some hb := by
    rcases hr.2 with ⟨rfl, _⟩ | ⟨g, cap, cur, rfl, _, hg, _⟩
    · intro e; cases e
    · intro e
      injection e with e
      have e' : g = hb := e
      subst e'
      rw [hg] at h
      injection h with h
      injection h with _ h9 _
      exact absurd h9 (by decide)
  have hlt := (Array.getElem?_eq_some_iff.1 h).1
  have ho : ∀ k, k ≠ hb → (w.setCell ⟨hb, 0, none⟩ v').heap[k]? = w.heap[k]? := fun k hk => heap_setCell_other w ⟨hb, 0, none⟩ k v' (fun e => hk e)
  refine ⟨⟨?_, ownsRow_of_block hr (fun k hk => ho k (fun e => hne (by rw [hk, e]))), hB⟩, ⟨⟨rfl, rfl, rfl, by simp, fun k hk => ho k (by omega)⟩, fun k cs T m h1 h2 h3 => ?_⟩⟩
  · have := heap_setCell_same w hb 0 #[v] 51 v' h
    rw [this]; rfl
  · rw [ho k (by
      rintro rfl
      rw [h] at h3
      injection h3 with h3
      injection h3 with _ h4 _
      exact h1 h4.symm)]
    exact h3

set_option maxHeartbeats 800000 in
theorem hdPop_any (B hb : Nat) (ks : List Nat) (q : Nat) (v : Value) (w : World) (h : Hs B hb (ks ++ [q]) v w) :
    Calls Try.prog 71 #[.pointer (some ⟨hb, 0, none⟩)] w fun e w' => e = .returned (.iface 52 (.pointer (some ⟨q, 0, none⟩))) ∧ (∃ v', Hs B hb ks v' w') ∧ HK B w w' := by
  obtain ⟨hlt, hc, hf⟩ := h.at
  obtain ⟨g, c, rfl⟩ : ∃ g c, v = .slice (some ⟨g, 0, none⟩) (ks.length + 1) c := by
    rcases h.row.2 with ⟨_, h0⟩ | ⟨g, cap, cur, rfl, _⟩
    · simp at h0
    · exact ⟨g, cap, by simp⟩
  have hrow := h.row
  simp only [List.length_append, List.length_singleton] at hrow
  have cq : w.cell? ⟨g, ks.length, none⟩ = some (.pointer (some ⟨q, 0, none⟩)) := (hrow.cellAt ks.length (by omega)).trans (by simp [ptrs, ptr])
  have hcap : ks.length + 1 ≤ c ∧ w.ownsRow B 52 1 (.slice (some ⟨g, 0, none⟩) ks.length c) ks.length (ptrs ks) ∧ c ≤ maxLen := by
    rcases hrow.2 with ⟨h', _⟩ | ⟨g', cap', cur, h', hbg, hg, hnc, hcm, hcs, ht⟩
    · simp at h'
    · simp only [Value.slice.injEq, Option.some.injEq, Addr.mk.injEq, and_true, true_and] at h'
      obtain ⟨rfl, rfl⟩ := h'
      refine ⟨hnc, ⟨by simp [ptrs], .inr ⟨g, c, cur, rfl, hbg, hg, by omega, hcm, hcs, ?_⟩⟩, hcm⟩
      have := congrArg (List.take ks.length) ht
      rw [List.take_take] at this
      rw [Nat.mul_one, show min ks.length (ks.length + 1) = ks.length by omega] at this
      rw [Nat.mul_one, this]
      simp [ptrs]
  obtain ⟨h1, h2, h3⟩ := hcap
  have HP := Lib.hid (Hs.store h.blk h.ge h2)
  obtain ⟨n, hn⟩ : ∃ n, n = ks.length := ⟨_, rfl⟩
  rw [← hn] at hc cq h1 HP
  unfold maxLen at h3
  clear h hrow h2 hn
  go_enter Try.func71, Try.ntmps71
  go_wp2
  go_ret
  exact ⟨rfl, ⟨_, HP.out.1⟩, HP.out.2⟩

theorem Hs.drew {B hb : Nat} {ks : List Nat} {v : Value} {w : World} (h : Hs B hb ks v w) : Hs B hb ks v w.drew := ⟨h.blk, h.row.drew, h.ge⟩
theorem HK.alloc {B : Nat} {w : World} (h : B ≤ w.heap.size) (o : Obj) : HK B w (w.alloc o) :=
  ⟨(Below.refl _ _).alloc h _, fun k cs T m _ _ h3 => by rw [Below.heap_alloc w o k (Array.getElem?_eq_some_iff.1 h3).1]; exact h3⟩
theorem HK.drew {B : Nat} {w w' : World} (h : HK B w w') : HK B w w'.drew := ⟨h.below.drew, h.other⟩

theorem append_ptr (w : World) (B : Nat) (v : Value) (ks : List Nat) (q : Nat) (h : w.ownsRow B 52 1 v ks.length (ptrs ks)) (b c : Nat) (hc : w.cell? ⟨b, 0, none⟩ = some (.pointer (some ⟨q, 0, none⟩))) (hl : ks.length < 4194304) (hB : B ≤ w.heap.size) (ty : TypeId) :
    ∃ v' w', (Builtin.append_ #[51, 51] ty #[v, .slice (some ⟨b, 0, none⟩) 1 c]).run Try.prog w = .ok v' w' ∧ w'.ownsRow B 52 1 v' (ks.length + 1) (ptrs (ks ++ [q])) ∧ w.grownBy w' v.ownBlock := by
  obtain ⟨i0, hi, q0, q1, q2⟩ := info_parts infoPHead
  obtain ⟨v', w', hr, h2, h3, _⟩ := run_append_own (P := Try.prog) w B 51 ty 52 i0 (.pointer none) 1 8 Try.underlying51 hi q0 q1 q2 rfl (by decide) v ks.length (ptrs ks) h ⟨b, 0, none⟩ 1 c [.pointer (some ⟨q, 0, none⟩)] rfl (fun j u hu => by
    have : j = 0 := by have := (List.getElem?_eq_some_iff.1 hu).1; simp at this; exact this
    subst this
    simp at hu
    subst hu
    exact hc) (fun u hu => by simp at hu; subst hu; rfl) (by unfold maxLen; omega) (by omega) hB
  refine ⟨v', w', hr, ?_, h3⟩
  unfold ptrs at h2 ⊢
  rw [List.map_append]
  exact h2

theorem HK.row {B : Nat} {w w' : World} {T : Nat} {v : Value} {n : Nat} {xs : List Value} (hT : T = 52) (h : w.ownsRow B T 1 v n xs) (hg : w.grownBy w' v.ownBlock) (hB : B ≤ w.heap.size) : HK B w w' := by
  subst hT
  rcases h.2 with ⟨rfl, _⟩ | ⟨g, cap, cur, rfl, hBg, hc, _⟩
  · exact ⟨⟨hg.os, hg.tape, hg.output, hg.size, fun k hk => hg.block k (by omega) (fun e => by cases e)⟩, fun k cs T m _ _ h3 => by rw [hg.block k (Array.getElem?_eq_some_iff.1 h3).1 (fun e => by cases e)]; exact h3⟩
  · refine ⟨⟨hg.os, hg.tape, hg.output, hg.size, fun k hk => hg.block k (by omega) (fun e => by injection e with e; have e' : k = g := e; omega)⟩, fun k cs T m _ h2 h3 => ?_⟩
    rw [hg.block k (Array.getElem?_eq_some_iff.1 h3).1 (fun e => by
      injection e with e
      have e' : k = g := e
      subst e'
      rw [hc] at h3
      injection h3 with h3
      injection h3 with _ h4 _
      exact h2 h4.symm)]
    exact h3

theorem run_head (v : Value) (w : World) : (Instr.typeAssert (.iface 52 v) 20 52 false).run Try.prog w = .ok v w := by kernel_rfl

set_option maxHeartbeats 1600000 in
theorem hdPush_any (B hb : Nat) (ks : List Nat) (q : Nat) (v : Value) (w : World) (h : Hs B hb ks v w) (hl : ks.length < 4194304) :
    Calls Try.prog 72 #[.pointer (some ⟨hb, 0, none⟩), .iface 52 (.pointer (some ⟨q, 0, none⟩))] w fun e w' => e = .returned (.tuple #[]) ∧ (∃ v', Hs B hb (ks ++ [q]) v' w') ∧ HK B w w' := by
  obtain ⟨hlt, hc, hf⟩ := h.at
  have hBw : B ≤ w.heap.size := Nat.le_trans h.ge (Nat.le_of_lt hlt)
  obtain ⟨W2, hW2⟩ : ∃ W2, W2 = (w.alloc (.cells #[.pointer (some ⟨q, 0, none⟩)] 52)).drew := ⟨_, rfl⟩
  have hk2 : HK B w W2 := by rw [hW2]; exact (HK.alloc hBw _).drew
  have h2 : Hs B hb ks v W2 := by
    refine ⟨hk2.below.size |> fun _ => ?_, ?_, h.ge⟩
    · rw [hW2]; exact (Below.heap_alloc w _ hb hlt).trans h.blk
    · rw [hW2]; exact (h.row.alloc _).drew
  have hcx : W2.cell? ⟨w.heap.size, 0, none⟩ = some (.pointer (some ⟨q, 0, none⟩)) := by
    have : W2.heap[w.heap.size]? = some (.cells #[.pointer (some ⟨q, 0, none⟩)] 52 (0, 0)) := by rw [hW2]; exact heap_alloc_new w _
    rw [Lib.cell_of_heap this]; rfl
  have hBW : B ≤ W2.heap.size := Nat.le_trans hBw hk2.below.size
  obtain ⟨v', w3, hr, hn, hg⟩ := append_ptr W2 B v ks q h2.row w.heap.size 1 hcx hl hBW 51
  have hk3 : HK B W2 w3 := HK.row rfl h2.row hg hBW
  have hb3 : w3.heap[hb]? = some (.cells #[v] 51 (0, 0)) := (hg.block hb (by rw [hW2]; simp; omega) (fun e => h2.apart e.symm)).trans h2.blk
  have c3 : w3.cell? ⟨hb, 0, none⟩ = some v := by rw [Lib.cell_of_heap hb3]; rfl
  have f3 : w3.frozen? ⟨hb, 0, none⟩ = false := Lib.frozen_of_heap hb3 0
  have hn' : w3.ownsRow B 52 1 v' (ks ++ [q]).length (ptrs (ks ++ [q])) := by rw [List.length_append]; exact hn
  have HP := Lib.hid (Hs.store hb3 h.ge hn')
  have HKK := Lib.hid (hk2.trans hk3)
  obtain ⟨a, n, c, hv⟩ : ∃ a n c, v = .slice a n c := by
    rcases h.row.2 with ⟨rfl, _⟩ | ⟨g, cap, cur, rfl, _⟩ <;> exact ⟨_, _, _, rfl⟩
  obtain ⟨a', n', c', hv'⟩ : ∃ a n c, v' = .slice a n c := by
    rcases hn.2 with ⟨rfl, _⟩ | ⟨g, cap, cur, rfl, _⟩ <;> exact ⟨_, _, _, rfl⟩
  subst hv hv'
  rw [hW2] at hr
  have HR := Lib.hid hr
  clear h h2 hk2 hr hg hk3 hb3 hn hn' hW2 hcx hBW
  have ht := fun W => run_head (.pointer (some ⟨q, 0, none⟩)) W
  go_enter Try.func72, Try.ntmps72
  go_wp2
  go_region_law (refine step_app_run rfl _ _ 51 rfl _ _ _ (by rfl) (by rfl) HR.out ?_)
  all_goals go_end0
  all_goals exact ⟨rfl, ⟨_, HP.out.1⟩, HKK.out.trans HP.out.2⟩
end Go.Proofs.Ytgegljbocacdnaa
