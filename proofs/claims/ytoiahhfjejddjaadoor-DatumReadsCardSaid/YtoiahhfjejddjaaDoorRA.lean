/- The contracts of the reference's digit and quoted. -/
import Derived.Test.YtoiahhfjejddjaaDoorZ
import Derived.Test.YtoiahhfjejddjaaDoorJ
set_option maxRecDepth 100000
namespace Go.Proofs.YtoiahhfjejddjaaDoor
open Go Go.RowKit

theorem hexV_at : ∀ (j : Fin 16) (u : Fin 256), (digS[j.val]'(by have := j.isLt; show j.val < 16; omega)).toNat = u.val → hexV (UInt8.ofNat u.val) = (j.val : Int) := by decide +kernel
theorem hexV_none : ∀ (u : Fin 256), (∀ j : Fin 16, (digS[j.val]'(by have := j.isLt; show j.val < 16; omega)).toNat ≠ u.val) → hexV (UInt8.ofNat u.val) = -1 := by decide +kernel

set_option maxHeartbeats 800000 in
theorem digit_any (u : UInt8) (w : World) : Calls Tryd.prog 67 #[.int .u8 (u.toNat : Int)] w fun e w' => e = .returned (.int .i64 (hexV u)) ∧ w' = w := by
  have hu := u.toNat_lt
  have hu2 : UInt8.ofNat u.toNat = u := by simp
  have hat : ∀ j (hj : j < 16) (hd : j < digS.size), (digS[j]'hd).toNat = u.toNat → hexV u = (j : Int) := fun j hj hd h => by
    have := hexV_at ⟨j, hj⟩ ⟨u.toNat, hu⟩ h
    rw [hu2] at this
    exact this
  have hno : (∀ j (hj : j < 16) (hd : j < digS.size), (digS[j]'hd).toNat ≠ u.toNat) → hexV u = -1 := fun h => by
    have := hexV_none ⟨u.toNat, hu⟩ (fun j => h j.val j.isLt _)
    rw [hu2] at this
    exact this
  have HAT := Lib.hid hat; have HNO := Lib.hid hno
  clear hat hno hu2
  obtain ⟨c, hc⟩ : ∃ c : Int, c = (u.toNat : Int) := ⟨_, rfl⟩
  have HC := Lib.hid hc
  rw [← hc]
  clear hc
  go_enter Tryd.func67, Tryd.ntmps67
  go_wp2
  go_loop [3] (fun i => ∃ j : Nat, j ≤ 16 ∧ i = .int .i64 j ∧ Hid (∀ k (hk : k < 16) (hd : k < digS.size), k < j → (digS[k]'hd).toNat ≠ u.toNat)) (fun i => 16 - (intOf i).toNat)
  case atStart => exact ⟨0, by omega, rfl, Lib.hid (fun k _ _ h => by omega)⟩
  case round =>
    obtain ⟨j, hj, rfl, HP⟩ := hrel
    by_cases hlt : j < 16
    · have hd : j < digS.size := hlt
      by_cases hq : (digS[j]'hd).toNat = u.toNat
      · have hb : (((digS[j]'hd).toNat : Int) == c) = true := by rw [HC.out, hq]; simp
        have HV := Lib.hid (HAT.out j hlt hd hq)
        clear hq
        go_wp2
        go_ret
        exact ⟨by rw [HV.out]; rfl, rfl⟩
      · have hb : (((digS[j]'hd).toNat : Int) == c) = false := by rw [HC.out, beq_eq_false_iff_ne]; omega
        have HQ := Lib.hid hq
        clear hq
        go_wp2
        go_round
        case rel =>
          refine ⟨j + 1, by omega, by go_num, Lib.hid (fun k hk hd' h => ?_)⟩
          by_cases hkj : k < j
          · exact HP.out k hk hd' hkj
          · obtain rfl : k = j := by omega
            exact HQ.out
        case measure => simp [intOf]; omega
    · have HV := Lib.hid (HNO.out (fun k hk hd => HP.out k hk hd (by omega)))
      go_wp2
      go_ret
      exact ⟨by rw [HV.out]; rfl, rfl⟩
end Go.Proofs.YtoiahhfjejddjaaDoor
