/- container/heap's up over heads; Init. -/
import Derived.Test.YtgegljbocacdnaaOG
set_option maxRecDepth 100000
namespace Go.Proofs.Ytgegljbocacdnaa
open Go.RowKit

/-- What up leaves. -/
structure UpPost (B hb : Nat) (v : Value) (K : Nat → ByteArray) (ks : List Nat) (n : Nat) (w w' : World) : Prop where
  hs : ∃ ks', Hs B hb ks' v w' ∧ HpF K ks' n 0 ∧ ks'.Perm ks
  hk : HK B w w'

set_option maxHeartbeats 1600000 in
theorem hup_any (B hb g N c s : Nat) (K : Nat → ByteArray) (ks : List Nat) (w : World) (h : Hs B hb ks (.slice (some ⟨g, 0, none⟩) N c) w) (hN : ks.length = N) (hK : Keys K ks w) (hs : s < N) (hN9 : N ≤ 4194304) (hp : UpI K ks N s) :
    Calls Try.prog 34 #[.iface 56 (.pointer (some ⟨hb, 0, none⟩)), .int .i64 s] w fun e w' => e = .returned (.tuple #[]) ∧ UpPost B hb (.slice (some ⟨g, 0, none⟩) N c) K ks N w w' := by
  have HH := Lib.hid h
  have HK0 := Lib.hid hK
  have HN := Lib.hid hN
  have HD0 := Lib.hid hp
  have mL := fun (W : World) (hW : W.cell? ⟨hb, 0, none⟩ = some (.slice (some ⟨g, 0, none⟩) N c)) => metLess ⟨hb, 0, none⟩ _ W hW
  have mS := fun (W : World) (hW : W.cell? ⟨hb, 0, none⟩ = some (.slice (some ⟨g, 0, none⟩) N c)) => metSwap ⟨hb, 0, none⟩ _ W hW
  have aL := fun (W : World) => ahLess ⟨hb, 0, none⟩ W
  have aS := fun (W : World) => ahSwap ⟨hb, 0, none⟩ W
  clear h hN hK hp
  go_enter Try.func34, Try.ntmps34
  go_wp2
  go_loopw [1] (fun i wr => ∃ (q : Nat) (ls : List Nat), q < N ∧ i = .int .i64 q ∧ Hid (Hs B hb ls (.slice (some ⟨g, 0, none⟩) N c) wr) ∧ Hid (ls.length = N) ∧ Hid (Keys K ls wr) ∧ Hid (UpI K ls N q) ∧ Hid (ls.Perm ks) ∧ Hid (HK B w wr)) (fun i _ => (intOf i).toNat)
  case atStart => exact ⟨s, ks, hs, rfl, HH, HN, HK0, HD0, Lib.hid (List.Perm.refl _), Lib.hid (HK.refl _ _)⟩
  case round =>
    obtain ⟨q, ls, hqN, rfl, HL, HLN, HKY, HDN, HPF, HKK⟩ := hrel
    have hcell := HL.out.at.2.1
    by_cases h0 : q = 0
    · subst h0
      go_wp2_with fail
      go_end0
      exact ⟨rfl, ⟨ls, HL.out, HDN.out.stop (.inl rfl), HPF.out⟩, HKK.out⟩
    · have h1 : 1 ≤ q := by omega
      have h1i : (1 : Int) ≤ q := by omega
      have hne : (((q : Int) - 1) / 2 == (q : Int)) = false := by rw [beq_eq_false_iff_ne]; omega
      obtain ⟨p, hp⟩ : ∃ p, p = (q - 1) / 2 := ⟨_, rfl⟩
      have ep : ((q : Int) - 1) / 2 = (p : Int) := by omega
      have hpq : p < q := by omega
      have hne' : ((p : Int) == (q : Int)) = false := by rw [beq_eq_false_iff_ne]; omega
      have EP := Lib.hid ep; have HP := Lib.hid hp.symm; clear hp
      have HL1 := Lib.hid (less_at HL.out HLN.out HKY.out (Nat.le_refl N))
      have HS1 := Lib.hid (swap_at HL.out HLN.out)
      by_cases h4 : leS (K (ls.getD p 0)) (K (ls.getD q 0))
      · have c2 := HL1.out 0 q p hqN (by omega)
        rw [ltB_no h4] at c2
        have C2 := Lib.hid c2; clear c2
        go_wp2_with fail
        refine C2.out.mono ?_
        rintro e w2 ⟨rfl, m2, rfl⟩
        go_wp2
        go_end0
        exact ⟨rfl, ⟨ls, HL.out.drewN m2, HDN.out.stop (.inr (by rw [HP.out]; exact h4)), HPF.out⟩, HKK.out.trans (HK.drewN wr m2)⟩
      · have c2 := HL1.out 0 q p hqN (by omega)
        rw [ltB_yes h4] at c2
        have C2 := Lib.hid c2; clear c2
        go_wp2_with fail
        refine C2.out.mono ?_
        rintro e w2 ⟨rfl, m2, rfl⟩
        have C3 := Lib.hid (HS1.out m2 p q (by omega) hqN)
        go_wp2_with fail
        refine C3.out.mono ?_
        rintro e w3 ⟨rfl, h5, h6⟩
        have H5 := Lib.hid h5
        have H7 := Lib.hid (HKK.out.trans h6)
        have hpm := swp_perm (l := ls) (i := p) (j := q) (by rw [HLN.out]; omega) (by rw [HLN.out]; exact hqN)
        have H8 := Lib.hid (HDN.out.step (by rw [HLN.out]; exact Nat.le_refl _) h1 hqN HP.out h4)
        have H9 := Lib.hid (hpm.trans HPF.out)
        have H10 : Hid ((swp ls p q).length = N) := Lib.hid ((swp_len _ _ _).trans HLN.out)
        have H11 : Hid (Keys K (swp ls p q) w3) := Lib.hid ((HKY.out.hk h6).perm hpm)
        clear h5 h6 HL1 HS1 C2 C3 hpm
        go_wp2
        go_roundw
        case rel => exact ⟨p, swp ls p q, by omega, rfl, H5, H10, H11, H8, H9, H7⟩
        case measure => simp [intOf]; omega
end Go.Proofs.Ytgegljbocacdnaa
