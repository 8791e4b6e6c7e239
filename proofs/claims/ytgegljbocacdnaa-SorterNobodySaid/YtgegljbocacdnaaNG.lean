/- SorterNobody's walk. -/
import Derived.Test.YtgegljbocacdnaaNF
import Derived.Test.YtgegljbocacdnaaOW
set_option maxRecDepth 100000
namespace Go.Proofs.Ytgegljbocacdnaa
open Go.RowKit

set_option maxHeartbeats 3200000 in
theorem snobody_walk (x : ByteArray) (w : World) :
    Calls Try.prog 7 #[.string x] w fun e w' => e = .returned (.bool true) ∧ Below w.heap.size w w' := by
  obtain ⟨g, hg⟩ : ∃ g, g = w.heap.size := ⟨_, rfl⟩
  obtain ⟨W, hW⟩ : ∃ W, W = (w.alloc (.cells #[.pointer none, .int .i64 0, .int .i64 0, .slice none 0 0, .slice none 0 0, .bool false] 42)).alloc (.cells #[.pointer none, .pointer (some ⟨g, 0, none⟩)] 23) := ⟨_, rfl⟩
  have hbW : Below w.heap.size w W := by rw [hW]; exact ((Below.refl _ _).alloc (Nat.le_refl _) _).alloc (by simp) _
  have hWz : W.heap.size = g + 2 := by rw [hW, hg]; simp
  have b0 : W.heap[g]? = some (.cells #[.pointer none, .int .i64 0, .int .i64 0, .slice none 0 0, .slice none 0 0, .bool false] 42 (0, 0)) := by
    rw [hW, hg]
    exact (Below.heap_alloc _ _ w.heap.size (by simp)).trans (heap_alloc_new w _)
  have b1 : W.heap[g + 1]? = some (.cells #[.pointer none, .pointer (some ⟨g, 0, none⟩)] 23 (0, 0)) := by
    rw [hW, hg]
    have := heap_alloc_new (w.alloc (.cells #[.pointer none, .int .i64 0, .int .i64 0, .slice none 0 0, .slice none 0 0, .bool false] 42)) (.cells #[.pointer none, .pointer (some ⟨w.heap.size, 0, none⟩)] 23)
    rw [World.size_alloc] at this
    exact this
  have HN : Hid (∀ k, k < 2 → ∃ p, W.cell? ⟨g + 1, k, none⟩ = some p ∧ NoSo p W ∧ ∃ a, p = .pointer a) := Lib.hid (fun k hk => by
    match k, hk with
    | 0, _ => exact ⟨_, by rw [Lib.cell_of_heap b1]; rfl, .inl rfl, _, rfl⟩
    | 1, _ => exact ⟨_, by rw [Lib.cell_of_heap b1]; rfl, .inr ⟨g, rfl, by omega, by rw [Lib.cell_of_heap b0]; rfl⟩, _, rfl⟩)
  have HBW := Lib.hid hbW
  have HAW := Lib.hid (xawake_any W)
  clear hbW hWz b0 b1
  go_enter Try.func7, Try.ntmps7
  go_wp2
  rw [← hg, ← hW]
  clear hW hg
  go_loop [4] (fun i => ∃ k : Nat, k ≤ 2 ∧ i = .int .i64 k) (fun i => 2 - (intOf i).toNat)
  case atStart => exact ⟨0, by omega, rfl⟩
  case round =>
    obtain ⟨k, hk, rfl⟩ := hrel
    by_cases hlt : k < 2
    · obtain ⟨p, hc, hno, a, rfl⟩ := HN.out k hlt
      have hr := soRefuses_no _ W hno
      have HS := Lib.hid (soSorted_ref _ 1 W hr (by decide))
      have HA := Lib.hid (soAdd_ref _ x 1 W hr (by decide))
      have HR := Lib.hid (soRuns_no _ W hno)
      have hk2 : (k : Int) < 2 := by omega
      clear hr hno
      go_wp2_with fail
      refine HS.out.mono ?_
      rintro e w1 ⟨rfl, rfl⟩
      go_wp2_with fail
      refine HA.out.mono ?_
      rintro e w1 ⟨rfl, rfl⟩
      go_wp2_with fail
      refine HR.out.mono ?_
      rintro e w1 ⟨rfl, rfl⟩
      go_wp2
      go_round
      case rel => exact ⟨k + 1, by omega, by go_num⟩
      case measure => simp [intOf]; omega
    · go_wp2_with fail
      refine HAW.out.mono ?_
      rintro e w1 ⟨rfl, hb1⟩
      go_wp2
      go_ret
      exact ⟨rfl, HBW.out.trans (hb1.mono HBW.out.size)⟩
end Go.Proofs.Ytgegljbocacdnaa
