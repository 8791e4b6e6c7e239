/- The walk of LogRefuses. -/
import Derived.Test.YtnncljihnelalaaLH
set_option maxRecDepth 100000
namespace Go.Proofs.Ytnncljihnelalaa
open Go.RowKit

theorem app0 : appCode [] ⟨#[]⟩ = 30 ∧ appRecs [] ⟨#[]⟩ = [] := by
  have h : appCode [] ⟨#[]⟩ = 30 := by rfl
  exact ⟨h, by rw [appRecs, if_neg (by rw [h]; decide)]⟩

set_option maxHeartbeats 3200000 in
theorem refuses_walk (s : ByteArray) (w : World) : Calls Try.prog 4 #[.string s] w fun e w' => e = .returned (.bool true) ∧ Below w.heap.size w w' := by
  go_enter Try.func4, Try.ntmps4
  go_wp2_with fail
  refine (new_log _).mono ?_
  rintro e w1 ⟨rfl, h1, hb1⟩
  have H1 := Lib.hid h1; have HB1 := Lib.hid hb1; clear h1 hb1
  go_wp2_with fail
  refine (open_log _ _ _ _ _ _ H1.out).mono ?_
  rintro e w2 ⟨v, rfl, h2, hs2, hb2⟩
  obtain ⟨a, c, rfl⟩ := hs2.shape
  have H2 := Lib.hid h2; have HB2 := Lib.hid (HB1.out.trans (hb2.mono HB1.out.size)); clear h2 hb2 hs2
  go_wp2_with fail
  refine (append_log _ _ _ _ _ _ ⟨#[]⟩ _ H2.out).mono ?_
  rintro e w3 ⟨he, S3, ops3, h3, hk3, _⟩
  rw [app0.1] at he; rw [app0.2] at h3
  subst he
  have H3 := Lib.hid h3; have HB3 := Lib.hid (HB2.out.trans (H2.out.toBelow hk3)); clear h3 hk3
  go_wp2_with fail
  refine (len_ok _ _ _ _ [] _ H3.out.dl.disk H3.out.on H3.out.dl.hist.now H3.out.dl.recs).mono ?_
  rintro e w4 ⟨rfl, hb4⟩
  have HB4 := Lib.hid (HB3.out.trans (hb4.mono HB3.out.size)); clear hb4
  go_wp2_with fail
  refine (open_nobody (.pointer none) _ (noDisk_nil _)).mono ?_
  rintro e w5 ⟨rfl, hw5⟩
  subst hw5
  have hz := HB4.out.size
  go_wp2
  have hW : ∀ W, W = (w5.alloc (.cells #[.pointer none, .pointer none] 37)).alloc (.cells #[.pointer none, .pointer (some ⟨w5.heap.size, 0, none⟩)] 25) → W.cell? ⟨w5.heap.size, 0, none⟩ = some (.pointer none) ∧ W.cell? ⟨w5.heap.size + 1, 0, none⟩ = some (.pointer none) ∧ W.cell? ⟨w5.heap.size + 1, 1, none⟩ = some (.pointer (some ⟨w5.heap.size, 0, none⟩)) ∧ Below w.heap.size w W := by
    rintro W rfl
    refine ⟨?_, ?_, ?_, (HB4.out.alloc hz _).alloc (by simp; omega) _⟩
    · simp [go_sem]
    · simp
    · simp
  generalize hWW : (w5.alloc (.cells #[.pointer none, .pointer none] 37)).alloc (.cells #[.pointer none, .pointer (some ⟨w5.heap.size, 0, none⟩)] 25) = W
  obtain ⟨c1, c2, c3, hb⟩ := hW W hWW.symm
  have HB := Lib.hid hb; clear hb hW hWW
  go_loop [11] (fun i => ∃ k : Nat, k ≤ 2 ∧ i = .int .i64 k) (fun i => 2 - (intOf i).toNat)
  case atStart => exact ⟨0, by omega, rfl⟩
  case round =>
    obtain ⟨k, hk, rfl⟩ := hrel
    have hk3 : k = 0 ∨ k = 1 ∨ k = 2 := by omega
    rcases hk3 with rfl | rfl | rfl
    · have hg := Lib.hid (lgiven_nil W)
      go_wp2_with fail
      refine (append_nobody _ s _ hg.out).mono ?_
      rintro e w6 ⟨rfl, hw⟩
      subst w6
      go_wp2_with fail
      refine (reset_nobody _ _ hg.out).mono ?_
      rintro e w6 ⟨rfl, hw⟩
      subst w6
      go_wp2_with fail
      refine (len_nobody _ _ hg.out).mono ?_
      rintro e w6 ⟨rfl, hw⟩
      subst w6
      go_wp2
      go_round
      case rel => exact ⟨1, by omega, rfl⟩
      case measure => simp [intOf]
    · have hg := Lib.hid (lgiven_zero w5.heap.size W c1)
      go_wp2_with fail
      refine (append_nobody _ s _ hg.out).mono ?_
      rintro e w6 ⟨rfl, hw⟩
      subst w6
      go_wp2_with fail
      refine (reset_nobody _ _ hg.out).mono ?_
      rintro e w6 ⟨rfl, hw⟩
      subst w6
      go_wp2_with fail
      refine (len_nobody _ _ hg.out).mono ?_
      rintro e w6 ⟨rfl, hw⟩
      subst w6
      go_wp2
      go_round
      case rel => exact ⟨2, by omega, rfl⟩
      case measure => simp [intOf]
    · go_wp2_with fail
      refine (awake_any _).mono ?_
      rintro e w6 ⟨rfl, hb6⟩
      go_wp2
      go_ret
      exact ⟨rfl, HB.out.trans (hb6.mono HB.out.size)⟩
end Go.Proofs.Ytnncljihnelalaa
