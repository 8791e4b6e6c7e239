/- TidsetNobody's walk. -/
import Derived.Test.YtpjpkpbfbbpmdaaDoorTSK
set_option maxRecDepth 100000
namespace Go.Proofs.YtpjpkpbfbbpmdaaDoor.Ts
open Go Go.RowKit

theorem quietly {f : Nat} {args : Array Value} {w : World} {v : Value} (h : Calls Tryd.prog f args w fun e w' => e = .returned v ∧ w = w') : Calls Tryd.prog f args w fun e w' => e = .returned v ∧ w' = w := h.mono fun _ _ h => ⟨h.1, h.2.symm⟩
theorem NoSet.drewN {p : Value} {w : World} (h : NoSet p w) (k : Nat) : NoSet p (w.drewN k) := h.below (belowDrewN w k)

set_option maxHeartbeats 3200000 in
theorem nobody14_walk (n : Int) (w : World) (hT : Tab w) :
    Calls Tryd.prog 6 #[.int .i64 n] w fun e w' => e = .returned (.bool true) ∧ Below w.heap.size w w' := by
  have HN := Lib.hid (new_st 3 w (by omega))
  have HT := Lib.hid hT
  have h1 := hT.1
  clear hT
  go_enter Tryd.func6, Tryd.ntmps6
  go_wp2_with fail
  refine HN.out.mono ?_
  rintro e w1 ⟨b, be, bw, rfl, hs, hb, g1, g2, g3⟩
  have HB := Lib.hid hb
  have hbl := hs.at_.lt
  have hz1 := hb.size
  have c0 := hs.at_.c0
  clear hs hb g1 g2 g3 HN
  obtain ⟨W2, hW2⟩ : ∃ W2, W2 = w1.alloc (.cells #[.pointer none, .int .i64 0, .int .i64 0, .map none, .map none] 45) := ⟨_, rfl⟩
  obtain ⟨W3, hW3⟩ : ∃ W3, W3 = W2.alloc (.cells #[.pointer none, .pointer (some ⟨w1.heap.size, 0, none⟩)] 25) := ⟨_, rfl⟩
  have hb2 : Below w1.heap.size w1 W2 := by rw [hW2]; exact (Below.refl _ _).alloc (Nat.le_refl _) _
  have hz2 : W2.heap.size = w1.heap.size + 1 := by rw [hW2]; simp
  have hb3 : Below W2.heap.size W2 W3 := by rw [hW3]; exact (Below.refl _ _).alloc (Nat.le_refl _) _
  have HB3 : Hid (Below w.heap.size w W3) := Lib.hid (HB.out.trans ((hb2.trans (hb3.mono (by omega))).mono hz1))
  have HNS : Hid (∀ k, k < 2 → ∃ q, NoSet q W3 ∧ W3.cell? ⟨w1.heap.size + 1, k, none⟩ = some q) := Lib.hid fun k hk => by
    have hc : ∀ j, W3.cell? ⟨w1.heap.size + 1, j, none⟩ = (#[.pointer none, .pointer (some ⟨w1.heap.size, 0, none⟩)] : Array Value)[j]? := fun j => by
      rw [hW3, ← hz2]; exact Lib.cell_of_heap (heap_alloc_new W2 _) j
    have hz : W2.cell? ⟨w1.heap.size, 0, none⟩ = some (.pointer none) := by rw [hW2]; exact Lib.cell_of_heap (heap_alloc_new w1 _) 0
    rcases (by omega : k = 0 ∨ k = 1) with rfl | rfl
    · exact ⟨_, .inl rfl, hc 0⟩
    · refine ⟨_, .inr ⟨w1.heap.size, rfl, Nat.lt_of_lt_of_le (by omega) hb3.size, (hb3.cell (p := ⟨w1.heap.size, 0, none⟩) (by simp; omega)).trans hz⟩, hc 1⟩
  have HC0 : Hid (W3.cell? ⟨b, 0, none⟩ = some (.pointer (some ⟨b, 0, none⟩))) := Lib.hid ((hb3.cell (p := ⟨b, 0, none⟩) (by simp; omega)).trans ((hb2.cell (p := ⟨b, 0, none⟩) hbl).trans c0))
  have hs3 : w1.heap.size + 1 < W3.heap.size := by rw [hW3]; simp; omega
  have hbl3 : b < W3.heap.size := by omega
  have HW2 := Lib.hid hW2; have HW3 := Lib.hid hW3
  clear hb2 hb3 c0 hbl hW2 hW3 hz2
  go_wp2
  rw [← HW2.out]
  go_loopw [6] (fun i wr => ∃ k : Nat, k ≤ 2 ∧ i = .int .i64 k ∧ Below W3.heap.size W3 wr) (fun i _ => 2 - (intOf i).toNat)
  case atStart => exact ⟨0, by omega, rfl, by rw [← HW3.out]; exact Below.refl _ _⟩
  case round =>
    obtain ⟨k, hk, rfl, hbr⟩ := hrel
    have HBR := Lib.hid hbr
    by_cases hlt : k < 2
    · obtain ⟨q, hq, hc⟩ := HNS.out k hlt
      have hqr := hq.below hbr
      have hcr := (hbr.cell (p := ⟨w1.heap.size + 1, k, none⟩) hs3).trans hc
      have hb0 := (hbr.cell (p := ⟨b, 0, none⟩) hbl3).trans HC0.out
      have HA1 := Lib.hid (and_no q (.pointer (some ⟨b, 0, none⟩)) wr (.inl hqr))
      have HO1 := Lib.hid (or_no (.pointer (some ⟨b, 0, none⟩)) q wr (.inr ⟨⟨b, rfl, hb0⟩, hqr⟩))
      have HQ : Hid (∀ j, NoSet q (wr.drewN j)) := Lib.hid fun j => hqr.drewN j
      have HBJ : Hid (∀ j, Below W3.heap.size W3 (wr.drewN j)) := Lib.hid fun j => HBR.out.trans ((belowDrewN wr j).mono HBR.out.size)
      clear hq hc hqr hb0 hbr
      go_wp2_with fail
      refine HA1.out.mono ?_
      rintro e w4 ⟨rfl, rfl⟩
      go_wp2_with fail
      refine HO1.out.mono ?_
      rintro e w4 ⟨rfl, rfl⟩
      go_wp2_with fail
      go_quiet ((first
        | (go_at_call 21; exact Calls.quiet_of_same (quietly (add_no _ _ _ (HQ.out _))))
        | (go_at_call 17; exact Calls.quiet_of_same (quietly (has_no _ _ _ (HQ.out _))))
        | (go_at_call 18; exact Calls.quiet_of_same (quietly (tids_no _ _ (HQ.out _))))
        | (go_at_call 16; exact Calls.quiet_of_same (quietly (pages_no _ _ (HQ.out _))))))
      go_wp2
      go_roundw
      case rel => exact ⟨k + 1, by omega, by go_num, HBJ.out _⟩
      case measure => simp [intOf]; omega
    · have HE : Hid (Below w.heap.size w wr) := Lib.hid (HB3.out.trans (hbr.mono HB3.out.size))
      have HAW := Lib.hid (awake14 wr (HT.out.below HE.out h1))
      clear hbr
      go_wp2_with fail
      refine HAW.out.mono ?_
      rintro e w5 ⟨rfl, hb5⟩
      have HE2 := Lib.hid (HE.out.trans (hb5.mono HE.out.size))
      clear hb5
      go_wp2
      go_ret
      exact ⟨rfl, HE2.out⟩
end Go.Proofs.YtpjpkpbfbbpmdaaDoor.Ts
