/- The walk of PoolNobody. -/
import Derived.Test.YtnmeobbbcccgjaaPO
set_option maxRecDepth 100000
namespace Go.Proofs.Ytnmeobbbcccgjaa
open Go.RowKit

set_option maxHeartbeats 3200000 in
theorem poolNobody_walk (n : Int) (s : ByteArray) (w : World) : Calls Try.prog 5 #[.int .i64 n, .string s] w fun e w' => e = .returned (.bool true) ∧ Below w.heap.size w w' := by
  go_enter Try.func5, Try.ntmps5
  go_wp2_with fail
  refine (pnew_nodisk (.pointer none) 3 _ (noDisk_nil _)).mono ?_
  rintro e w1 ⟨rfl, hw⟩
  subst w1
  go_wp2
  have hW : ∀ W, W = (w.alloc (.cells #[.pointer none, .pointer none, .slice none 0 0, .map none, .int .i64 0] 48)).alloc (.cells #[.pointer none, .pointer (some ⟨w.heap.size, 0, none⟩)] 23) → W.cell? ⟨w.heap.size, 0, none⟩ = some (.pointer none) ∧ W.cell? ⟨w.heap.size + 1, 0, none⟩ = some (.pointer none) ∧ W.cell? ⟨w.heap.size + 1, 1, none⟩ = some (.pointer (some ⟨w.heap.size, 0, none⟩)) ∧ Below w.heap.size w W := by
    rintro W rfl
    refine ⟨?_, ?_, ?_, ((Below.refl _ w).alloc (Nat.le_refl _) _).alloc (by simp) _⟩
    · simp [go_sem]
    · simp
    · simp
  generalize hWW : (w.alloc (.cells #[.pointer none, .pointer none, .slice none 0 0, .map none, .int .i64 0] 48)).alloc (.cells #[.pointer none, .pointer (some ⟨w.heap.size, 0, none⟩)] 23) = W
  obtain ⟨c1, c2, c3, hb⟩ := hW W hWW.symm
  have HB := Lib.hid hb; clear hb hW hWW
  go_loop [8] (fun i => ∃ k : Nat, k ≤ 2 ∧ i = .int .i64 k) (fun i => 2 - (intOf i).toNat)
  case atStart => exact ⟨0, by omega, rfl⟩
  case round =>
    obtain ⟨k, hk, rfl⟩ := hrel
    by_cases hk2 : k = 2
    · subst hk2
      go_wp2_with fail
      refine (awake_any _).mono ?_
      rintro e w6 ⟨rfl, hb6⟩
      go_wp2
      go_ret
      exact ⟨rfl, HB.out.trans (hb6.mono HB.out.size)⟩
    · obtain ⟨v, hv, hg⟩ : ∃ a, W.cell? ⟨w.heap.size + 1, k, none⟩ = some (.pointer a) ∧ Hid (NoPool (.pointer a) W) := by
        have : k = 0 ∨ k = 1 := by omega
        rcases this with rfl | rfl
        · exact ⟨_, c2, Lib.hid (pgiven_nil W)⟩
        · exact ⟨_, c3, Lib.hid (pgiven_zero w.heap.size W c1)⟩
      have hk1 : k < 2 := by omega
      clear c1 c2 c3
      go_wp2_with fail
      refine (pread_code _ n 1 _ (.inl rfl) (pinned_nobody _ n _ hg.out)).mono ?_
      rintro e w6 ⟨rfl, hw⟩
      subst w6
      go_wp2_with fail
      refine (pin_nobody _ n _ hg.out).mono ?_
      rintro e w6 ⟨rfl, hw⟩
      subst w6
      go_wp2_with fail
      refine (unpin_code _ n 1 _ (.inl rfl) (pinned_nobody _ n _ hg.out)).mono ?_
      rintro e w6 ⟨rfl, hw⟩
      subst w6
      go_wp2_with fail
      refine (pwrite_code _ n n 1 s _ (.inl rfl) (pinned_nobody _ n _ hg.out)).mono ?_
      rintro e w6 ⟨rfl, hw⟩
      subst w6
      go_wp2_with fail
      refine (flush_nobody _ _ hg.out).mono ?_
      rintro e w6 ⟨rfl, hw⟩
      subst w6
      go_wp2_with fail
      refine (pins_code _ n 1 _ (.inl rfl) (pinned_nobody _ n _ hg.out)).mono ?_
      rintro e w6 ⟨rfl, hw⟩
      subst w6
      go_wp2_with fail
      refine (held_nobody _ _ hg.out).mono ?_
      rintro e w6 ⟨rfl, hw⟩
      subst w6
      go_wp2
      go_round
      case rel => exact ⟨k + 1, by omega, by go_num⟩
      case measure => simp [intOf]; omega
end Go.Proofs.Ytnmeobbbcccgjaa
