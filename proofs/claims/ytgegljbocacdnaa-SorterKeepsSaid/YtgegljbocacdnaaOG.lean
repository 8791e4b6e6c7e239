/- container/heap's down over heads. -/
import Derived.Test.YtgegljbocacdnaaOF
import Derived.Deep.CutRange
import Derived.Deep.DeepCutAuto
set_option maxRecDepth 100000
namespace Go.Proofs.Ytgegljbocacdnaa
open Go.RowKit

/-- What down leaves. -/
structure DownPost (B hb : Nat) (v : Value) (K : Nat → ByteArray) (ks : List Nat) (n s : Nat) (w w' : World) : Prop where
  hs : ∃ ks', Hs B hb ks' v w' ∧ HpF K ks' n s ∧ ks'.Perm ks ∧ ∀ k, n ≤ k → ks'.getD k 0 = ks.getD k 0
  hk : HK B w w'

theorem less_at {B hb g N c n : Nat} {K : Nat → ByteArray} {ks : List Nat} {w : World} (h : Hs B hb ks (.slice (some ⟨g, 0, none⟩) N c) w) (hN : ks.length = N) (hK : Keys K ks w) (hn : n ≤ N) (m a b : Nat) (ha : a < n) (hb' : b < n) :
    Calls Try.prog 69 #[.slice (some ⟨g, 0, none⟩) N c, .int .i64 a, .int .i64 b] (w.drewN m) fun e w' => e = .returned (.bool (ltB (K (ks.getD a 0)) (K (ks.getD b 0)))) ∧ ∃ m', w.drewN m' = w' := by
  have hr := (h.drewN m).row
  rw [hN] at hr
  refine (hdLess_any B g N c K ks a b (w.drewN m) hN hr (hK.hk (HK.drewN (B := B) w m)) (by omega) (by omega)).mono ?_
  rintro e w' ⟨h1, m', h2⟩
  exact ⟨h1, _, by rw [h2, World.drewN_drewN]⟩

theorem swap_at {B hb g N c : Nat} {ks : List Nat} {w : World} (h : Hs B hb ks (.slice (some ⟨g, 0, none⟩) N c) w) (hN : ks.length = N) (m a b : Nat) (ha : a < N) (hb' : b < N) :
    Calls Try.prog 70 #[.slice (some ⟨g, 0, none⟩) N c, .int .i64 a, .int .i64 b] (w.drewN m) fun e w' => e = .returned (.tuple #[]) ∧ Hs B hb (swp ks a b) (.slice (some ⟨g, 0, none⟩) N c) w' ∧ HK B w w' := by
  have hr := (h.drewN m).row
  rw [hN] at hr
  refine (hdSwap_any B g N c ks a b (w.drewN m) hN hr ha hb').mono ?_
  rintro e w' ⟨h1, h2, h3⟩
  have hg := row_type hr
  have hne : g ≠ hb := fun e => h.apart (by rw [← e]; rfl)
  refine ⟨h1, ⟨?_, by rw [swp_len, hN]; exact h2, h.ge⟩, (HK.drewN w m).trans (HK.ofGrown hr h3)⟩
  rw [h3.block hb h.at.1 (fun e => by injection e with e; exact hne e.symm)]
  exact h.blk

set_option maxHeartbeats 1600000 in
theorem hdown_any (B hb g N c n s : Nat) (K : Nat → ByteArray) (ks : List Nat) (w : World) (h : Hs B hb ks (.slice (some ⟨g, 0, none⟩) N c) w) (hN : ks.length = N) (hK : Keys K ks w) (hn : n ≤ N) (hs : s < N) (hN9 : N ≤ 4194304) (hp : HpF K ks n (s + 1)) :
    Calls Try.prog 33 #[.iface 56 (.pointer (some ⟨hb, 0, none⟩)), .int .i64 s, .int .i64 n] w fun e w' => ∃ v, e = .returned v ∧ DownPost B hb (.slice (some ⟨g, 0, none⟩) N c) K ks n s w w' := by
  have HH := Lib.hid h
  have HK0 := Lib.hid hK
  have HN := Lib.hid hN
  have HD0 := Lib.hid (Dn.start hp)
  have mL := fun (W : World) (hW : W.cell? ⟨hb, 0, none⟩ = some (.slice (some ⟨g, 0, none⟩) N c)) => metLess ⟨hb, 0, none⟩ _ W hW
  have mS := fun (W : World) (hW : W.cell? ⟨hb, 0, none⟩ = some (.slice (some ⟨g, 0, none⟩) N c)) => metSwap ⟨hb, 0, none⟩ _ W hW
  have aL := fun (W : World) => ahLess ⟨hb, 0, none⟩ W
  have aS := fun (W : World) => ahSwap ⟨hb, 0, none⟩ W
  clear h hN hK hp
  go_enter Try.func33, Try.ntmps33
  go_wp2
  go_loopw [7] (fun i wr => ∃ (q : Nat) (ls : List Nat), s ≤ q ∧ q < N ∧ i = .int .i64 q ∧ Hid (Hs B hb ls (.slice (some ⟨g, 0, none⟩) N c) wr) ∧ Hid (ls.length = N) ∧ Hid (Keys K ls wr) ∧ Hid (Dn K ls n s q) ∧ Hid (ls.Perm ks ∧ ∀ k, n ≤ k → ls.getD k 0 = ks.getD k 0) ∧ Hid (HK B w wr)) (fun i _ => N - (intOf i).toNat)
  case atStart => exact ⟨s, ks, Nat.le_refl _, hs, rfl, HH, HN, HK0, HD0, Lib.hid ⟨List.Perm.refl _, fun _ _ => rfl⟩, Lib.hid (HK.refl _ _)⟩
  case round =>
    obtain ⟨q, ls, hsq, hqN, rfl, HL, HLN, HKY, HDN, HPF, HKK⟩ := hrel
    have hcell := HL.out.at.2.1
    by_cases h1 : 2 * q + 1 < n
    · have e1 : ((2 * q + 1 : Nat) : Int) = 2 * (q : Int) + 1 := by omega
      have e2 : ((2 * q + 2 : Nat) : Int) = 2 * (q : Int) + 1 + 1 := by omega
      have E1 := Lib.hid e1; have E2 := Lib.hid e2; clear e1 e2
      have HL1 := Lib.hid (less_at HL.out HLN.out HKY.out hn)
      have HS1 := Lib.hid (swap_at HL.out HLN.out)
      have hqn : q < n := by omega
      by_cases h2 : 2 * q + 2 < n
      · have c1 := HL1.out 0 (2 * q + 2) (2 * q + 1) h2 h1
        rw [E1.out, E2.out] at c1
        by_cases h3 : leS (K (ls.getD (2 * q + 1) 0)) (K (ls.getD (2 * q + 2) 0))
        · rw [ltB_no h3] at c1
          have C1 := Lib.hid c1; clear c1
          have HM : Hid (∀ k, 1 ≤ k → k < n → (k - 1) / 2 = q → leS (K (ls.getD (2 * q + 1) 0)) (K (ls.getD k 0))) := Lib.hid (fun k k1 k2 k3 => by
            rcases (by omega : k = 2 * q + 1 ∨ k = 2 * q + 2) with rfl | rfl
            · exact leS_refl _
            · exact h3)
          clear h3
          go_wp2_with fail
          refine C1.out.mono ?_
          rintro e w1 ⟨rfl, m1, rfl⟩
          clear C1
          by_cases h4 : leS (K (ls.getD q 0)) (K (ls.getD (2 * q + 1) 0))
          · have c2 := HL1.out m1 (2 * q + 1) q (by omega) hqn
            rw [E1.out, ltB_no h4] at c2
            have C2 := Lib.hid c2; clear c2
            go_wp2_with fail
            refine C2.out.mono ?_
            rintro e w2 ⟨rfl, m2, rfl⟩
            go_wp2
            go_ret
            exact ⟨_, rfl, ⟨⟨ls, HL.out.drewN m2, HDN.out.stop (fun k k1 k2 k3 => leS_trans h4 (HM.out k k1 k2 k3)), HPF.out.1, HPF.out.2⟩, HKK.out.trans (HK.drewN wr m2)⟩⟩
          · have c2 := HL1.out m1 (2 * q + 1) q (by omega) hqn
            rw [E1.out, ltB_yes h4] at c2
            have C2 := Lib.hid c2; clear c2
            go_wp2_with fail
            refine C2.out.mono ?_
            rintro e w2 ⟨rfl, m2, rfl⟩
            have c3 := HS1.out m2 q (2 * q + 1) hqN (by omega)
            rw [E1.out] at c3
            have C3 := Lib.hid c3; clear c3
            go_wp2_with fail
            refine C3.out.mono ?_
            rintro e w3 ⟨rfl, h5, h6⟩
            have H5 := Lib.hid h5
            have H6 := Lib.hid (HKY.out.hk h6)
            have H7 := Lib.hid (HKK.out.trans h6)
            have H8 := Lib.hid (HDN.out.step (c := 2 * q + 1) (by rw [HLN.out]; exact hn) hsq (by omega) (by omega) (by omega) HM.out h4)
            have H9 : Hid ((swp ls q (2 * q + 1)).Perm ks ∧ ∀ k, n ≤ k → (swp ls q (2 * q + 1)).getD k 0 = ks.getD k 0) := Lib.hid ⟨(swp_perm (by rw [HLN.out]; exact hqN) (by rw [HLN.out]; exact (by omega))).trans HPF.out.1, fun k hk => by rw [swp_get (by rw [HLN.out]; exact hqN) (by rw [HLN.out]; exact (by omega)), if_neg (by omega), if_neg (by omega)]; exact HPF.out.2 k hk⟩
            have H10 : Hid ((swp ls q (2 * q + 1)).length = N) := Lib.hid ((swp_len _ _ _).trans HLN.out)
            have H11 : Hid (Keys K (swp ls q (2 * q + 1)) w3) := Lib.hid (H6.out.perm (swp_perm (by rw [HLN.out]; exact hqN) (by rw [HLN.out]; exact (by omega))))
            clear h5 h6 HL1 HS1 C2 C3
            go_wp2
            go_roundw
            case rel => exact ⟨2 * q + 1, swp ls q (2 * q + 1), by omega, by omega, by rw [E1.out], H5, H10, H11, H8, H9, H7⟩
            case measure => simp [intOf]; omega
        · rw [ltB_yes h3] at c1
          have C1 := Lib.hid c1; clear c1
          have HM : Hid (∀ k, 1 ≤ k → k < n → (k - 1) / 2 = q → leS (K (ls.getD (2 * q + 2) 0)) (K (ls.getD k 0))) := Lib.hid (fun k k1 k2 k3 => by
            rcases (by omega : k = 2 * q + 1 ∨ k = 2 * q + 2) with rfl | rfl
            · exact (leS_total _ _).resolve_left h3
            · exact leS_refl _)
          clear h3
          go_wp2_with fail
          refine C1.out.mono ?_
          rintro e w1 ⟨rfl, m1, rfl⟩
          clear C1
          by_cases h4 : leS (K (ls.getD q 0)) (K (ls.getD (2 * q + 2) 0))
          · have c2 := HL1.out m1 (2 * q + 2) q (by omega) hqn
            rw [E2.out, ltB_no h4] at c2
            have C2 := Lib.hid c2; clear c2
            go_wp2_with fail
            refine C2.out.mono ?_
            rintro e w2 ⟨rfl, m2, rfl⟩
            go_wp2
            go_ret
            exact ⟨_, rfl, ⟨⟨ls, HL.out.drewN m2, HDN.out.stop (fun k k1 k2 k3 => leS_trans h4 (HM.out k k1 k2 k3)), HPF.out.1, HPF.out.2⟩, HKK.out.trans (HK.drewN wr m2)⟩⟩
          · have c2 := HL1.out m1 (2 * q + 2) q (by omega) hqn
            rw [E2.out, ltB_yes h4] at c2
            have C2 := Lib.hid c2; clear c2
            go_wp2_with fail
            refine C2.out.mono ?_
            rintro e w2 ⟨rfl, m2, rfl⟩
            have c3 := HS1.out m2 q (2 * q + 2) hqN (by omega)
            rw [E2.out] at c3
            have C3 := Lib.hid c3; clear c3
            go_wp2_with fail
            refine C3.out.mono ?_
            rintro e w3 ⟨rfl, h5, h6⟩
            have H5 := Lib.hid h5
            have H6 := Lib.hid (HKY.out.hk h6)
            have H7 := Lib.hid (HKK.out.trans h6)
            have H8 := Lib.hid (HDN.out.step (c := 2 * q + 2) (by rw [HLN.out]; exact hn) hsq (by omega) (by omega) (by omega) HM.out h4)
            have H9 : Hid ((swp ls q (2 * q + 2)).Perm ks ∧ ∀ k, n ≤ k → (swp ls q (2 * q + 2)).getD k 0 = ks.getD k 0) := Lib.hid ⟨(swp_perm (by rw [HLN.out]; exact hqN) (by rw [HLN.out]; exact (by omega))).trans HPF.out.1, fun k hk => by rw [swp_get (by rw [HLN.out]; exact hqN) (by rw [HLN.out]; exact (by omega)), if_neg (by omega), if_neg (by omega)]; exact HPF.out.2 k hk⟩
            have H10 : Hid ((swp ls q (2 * q + 2)).length = N) := Lib.hid ((swp_len _ _ _).trans HLN.out)
            have H11 : Hid (Keys K (swp ls q (2 * q + 2)) w3) := Lib.hid (H6.out.perm (swp_perm (by rw [HLN.out]; exact hqN) (by rw [HLN.out]; exact (by omega))))
            clear h5 h6 HL1 HS1 C2 C3
            go_wp2
            go_roundw
            case rel => exact ⟨2 * q + 2, swp ls q (2 * q + 2), by omega, by omega, by rw [E2.out], H5, H10, H11, H8, H9, H7⟩
            case measure => simp [intOf]; omega
      · have HM : Hid (∀ k, 1 ≤ k → k < n → (k - 1) / 2 = q → leS (K (ls.getD (2 * q + 1) 0)) (K (ls.getD k 0))) := Lib.hid (fun k k1 k2 k3 => by
          obtain rfl : k = 2 * q + 1 := by omega
          exact leS_refl _)
        by_cases h4 : leS (K (ls.getD q 0)) (K (ls.getD (2 * q + 1) 0))
        · have c2 := HL1.out 0 (2 * q + 1) q (by omega) hqn
          rw [E1.out, ltB_no h4] at c2
          have C2 := Lib.hid c2; clear c2
          go_wp2_with fail
          refine C2.out.mono ?_
          rintro e w2 ⟨rfl, m2, rfl⟩
          go_wp2
          go_ret
          exact ⟨_, rfl, ⟨⟨ls, HL.out.drewN m2, HDN.out.stop (fun k k1 k2 k3 => leS_trans h4 (HM.out k k1 k2 k3)), HPF.out.1, HPF.out.2⟩, HKK.out.trans (HK.drewN wr m2)⟩⟩
        · have c2 := HL1.out 0 (2 * q + 1) q (by omega) hqn
          rw [E1.out, ltB_yes h4] at c2
          have C2 := Lib.hid c2; clear c2
          go_wp2_with fail
          refine C2.out.mono ?_
          rintro e w2 ⟨rfl, m2, rfl⟩
          have c3 := HS1.out m2 q (2 * q + 1) hqN (by omega)
          rw [E1.out] at c3
          have C3 := Lib.hid c3; clear c3
          go_wp2_with fail
          refine C3.out.mono ?_
          rintro e w3 ⟨rfl, h5, h6⟩
          have H5 := Lib.hid h5
          have H6 := Lib.hid (HKY.out.hk h6)
          have H7 := Lib.hid (HKK.out.trans h6)
          have H8 := Lib.hid (HDN.out.step (c := 2 * q + 1) (by rw [HLN.out]; exact hn) hsq (by omega) (by omega) (by omega) HM.out h4)
          have H9 : Hid ((swp ls q (2 * q + 1)).Perm ks ∧ ∀ k, n ≤ k → (swp ls q (2 * q + 1)).getD k 0 = ks.getD k 0) := Lib.hid ⟨(swp_perm (by rw [HLN.out]; exact hqN) (by rw [HLN.out]; exact (by omega))).trans HPF.out.1, fun k hk => by rw [swp_get (by rw [HLN.out]; exact hqN) (by rw [HLN.out]; exact (by omega)), if_neg (by omega), if_neg (by omega)]; exact HPF.out.2 k hk⟩
          have H10 : Hid ((swp ls q (2 * q + 1)).length = N) := Lib.hid ((swp_len _ _ _).trans HLN.out)
          have H11 : Hid (Keys K (swp ls q (2 * q + 1)) w3) := Lib.hid (H6.out.perm (swp_perm (by rw [HLN.out]; exact hqN) (by rw [HLN.out]; exact (by omega))))
          clear h5 h6 HL1 HS1 C2 C3
          go_wp2
          go_roundw
          case rel => exact ⟨2 * q + 1, swp ls q (2 * q + 1), by omega, by omega, by rw [E1.out], H5, H10, H11, H8, H9, H7⟩
          case measure => simp [intOf]; omega
    · go_wp2_with fail
      go_ret
      exact ⟨⟨_, rfl⟩, ⟨⟨ls, HL.out, HDN.out.stop (fun k k1 k2 k3 => by omega), HPF.out.1, HPF.out.2⟩, HKK.out⟩⟩
end Go.Proofs.Ytgegljbocacdnaa
