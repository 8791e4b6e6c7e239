/- container/heap's Init, Pop and Push over heads. -/
import Derived.Test.YtgegljbocacdnaaOH
set_option maxRecDepth 100000
namespace Go.Proofs.Ytgegljbocacdnaa
open Go.RowKit

theorem Hs.shape {B hb : Nat} {ks : List Nat} {v : Value} {w : World} (h : Hs B hb ks v w) : ∃ a c, v = .slice a ks.length c ∧ (0 < ks.length → ∃ g, a = some ⟨g, 0, none⟩) := by
  rcases h.row.2 with ⟨rfl, h0⟩ | ⟨g, cap, cur, rfl, _⟩
  · exact ⟨none, 0, by rw [h0], fun h => by omega⟩
  · exact ⟨_, cap, rfl, fun _ => ⟨g, rfl⟩⟩
set_option maxHeartbeats 1600000 in
theorem hinit_any (B hb N : Nat) (K : Nat → ByteArray) (ks : List Nat) (v : Value) (w : World) (h : Hs B hb ks v w) (hN : ks.length = N) (hK : Keys K ks w) (hN9 : N ≤ 4194304) :
    Calls Try.prog 26 #[.iface 56 (.pointer (some ⟨hb, 0, none⟩))] w fun e w' => e = .returned (.tuple #[]) ∧ UpPost B hb v K ks N w w' := by
  obtain ⟨a, c, rfl, ha⟩ := h.shape
  rw [hN] at h ha ⊢
  have mL := fun (W : World) (hW : W.cell? ⟨hb, 0, none⟩ = some (.slice a N c)) => metLen ⟨hb, 0, none⟩ _ W hW
  have aL := fun (W : World) => ahLen ⟨hb, 0, none⟩ W
  have HA := Lib.hid ha
  have HH := Lib.hid h
  have HK0 := Lib.hid hK
  have HN := Lib.hid hN
  have hc := h.at.2.1
  have e2 : ((N / 2 : Nat) : Int) = (N : Int) / 2 := by omega
  have hd : ((N : Int) / 2 - 1) = ((N / 2 : Nat) : Int) - 1 := by omega
  have HD := Lib.hid hd
  clear h hN hK ha e2 hd
  go_enter Try.func26, Try.ntmps26
  go_wp2_with fail
  refine (hdLen_any _ _ _ _).mono ?_
  rintro e w1 ⟨rfl, rfl⟩
  go_wp2
  go_loopw [3] (fun i wr => ∃ (q : Nat) (ls : List Nat), q ≤ N / 2 ∧ i = .int .i64 ((q : Int) - 1) ∧ Hid (Hs B hb ls (.slice a N c) wr) ∧ Hid (ls.length = N) ∧ Hid (Keys K ls wr) ∧ Hid (HpF K ls N q) ∧ Hid (ls.Perm ks) ∧ Hid (HK B w wr)) (fun i _ => (intOf i + 1).toNat)
  case atStart => exact ⟨N / 2, ks, Nat.le_refl _, by rw [← HD.out], HH, HN, HK0, Lib.hid (HpF.far K ks N _ (by omega)), Lib.hid (List.Perm.refl _), Lib.hid (HK.refl _ _)⟩
  case round =>
    obtain ⟨q, ls, hqN, rfl, HL, HLN, HKY, HHP, HPF, HKK⟩ := hrel
    cases q with
    | zero =>
      go_wp2_with fail
      go_end0
      exact ⟨rfl, ⟨ls, HL.out, HHP.out, HPF.out⟩, HKK.out⟩
    | succ q =>
      have hn0 : 0 < N := by omega
      obtain ⟨g, hg⟩ := HA.out hn0
      have HL2 : Hid (Hs B hb ls (.slice (some ⟨g, 0, none⟩) N c) wr) := Lib.hid (by rw [← hg]; exact HL.out)
      have HDW := Lib.hid (hdown_any B hb g N c N q K ls wr HL2.out HLN.out HKY.out (Nat.le_refl _) (by omega) hN9 HHP.out)
      have hq1 : ((q + 1 : Nat) : Int) - 1 = q := by omega
      rw [hq1]
      have HG := Lib.hid hg
      clear hg hq1
      go_wp2_with fail
      refine HDW.out.mono ?_
      rintro e w2 ⟨v2, rfl, ⟨ls2, k1, k2, k3, _⟩, k5⟩
      have H1 : Hid (Hs B hb ls2 (.slice a N c) w2) := Lib.hid (by rw [HG.out]; exact k1)
      have H2 := Lib.hid k2
      have H3 := Lib.hid (k3.trans HPF.out)
      have H4 := Lib.hid (HKK.out.trans k5)
      have H5 := Lib.hid ((HKY.out.hk k5).perm k3)
      have H6 : Hid (ls2.length = N) := Lib.hid (k3.length_eq.trans HLN.out)
      clear k1 k2 k3 k5 HDW HL2
      go_wp2
      go_roundw
      case rel => exact ⟨q, ls2, by omega, rfl, H1, H6, H5, H2, H3, H4⟩
      case measure => simp [intOf]

/-- What Pop of the library's heap leaves: the first one is out. -/
structure PopPost (B hb : Nat) (K : Nat → ByteArray) (ks : List Nat) (w : World) (e : Ending) (w' : World) : Prop where
  ret : e = .returned (.iface 52 (.pointer (some ⟨ks.getD 0 0, 0, none⟩)))
  hs : ∃ ks' v, Hs B hb ks' v w' ∧ HpF K ks' ks'.length 0 ∧ (ks.getD 0 0 :: ks').Perm ks
  hk : HK B w w'

set_option maxHeartbeats 1600000 in
theorem hpop_any (B hb N : Nat) (K : Nat → ByteArray) (ks : List Nat) (v : Value) (w : World) (h : Hs B hb ks v w) (hN : ks.length = N + 1) (hK : Keys K ks w) (hN9 : N < 4194304) (hp : HpF K ks (N + 1) 0) :
    Calls Try.prog 27 #[.iface 56 (.pointer (some ⟨hb, 0, none⟩))] w (PopPost B hb K ks w) := by
  obtain ⟨a, c, rfl, ha⟩ := h.shape
  obtain ⟨g, rfl⟩ := ha (by omega)
  rw [hN] at h
  have mL := fun (W : World) (hW : W.cell? ⟨hb, 0, none⟩ = some (.slice (some ⟨g, 0, none⟩) (N + 1) c)) => metLen ⟨hb, 0, none⟩ _ W hW
  have aL := fun (W : World) => ahLen ⟨hb, 0, none⟩ W
  have mS := fun (W : World) (hW : W.cell? ⟨hb, 0, none⟩ = some (.slice (some ⟨g, 0, none⟩) (N + 1) c)) => metSwap ⟨hb, 0, none⟩ _ W hW
  have aS := fun (W : World) => ahSwap ⟨hb, 0, none⟩ W
  have mP := fun (W : World) => metPop ⟨hb, 0, none⟩ W
  have aP := fun (W : World) => ahPop ⟨hb, 0, none⟩ W
  have hc := h.at.2.1
  have hpm := swp_perm (l := ks) (i := 0) (j := N) (by omega) (by omega)
  have HSW := Lib.hid (swap_at h hN 0 0 N (by omega) (by omega))
  have HTOP := Lib.hid (hp.top hN)
  have HG : Hid ((swp ks 0 N).getD N 0 = ks.getD 0 0) := Lib.hid (by rw [swp_get (by omega) (by omega), if_pos rfl])
  have HN := Lib.hid hN
  have HK0 := Lib.hid hK
  have HPM := Lib.hid hpm
  have hN1 : ((N + 1 : Nat) : Int) - 1 = N := by omega
  clear h hN hK hp ha hpm
  go_enter Try.func27, Try.ntmps27
  go_wp2_with fail
  refine (hdLen_any _ _ _ _).mono ?_
  rintro e w1 ⟨rfl, rfl⟩
  go_wp2_with fail
  refine HSW.out.mono ?_
  rintro e w2 ⟨rfl, h2, hk2⟩
  have hc2 := h2.at.2.1
  have HD := Lib.hid (hdown_any B hb g (N + 1) c N 0 K _ w2 h2 ((swp_len _ _ _).trans HN.out) ((HK0.out.hk hk2).perm HPM.out) (by omega) (by omega) (by omega) HTOP.out)
  have HK2 := Lib.hid hk2
  clear h2 hk2 HSW HTOP
  go_wp2_with fail
  refine HD.out.mono ?_
  rintro e w3 ⟨v3, rfl, ⟨ls, h3, h4, h5, h6⟩, hk3⟩
  have hl : ls.length = N + 1 := h5.length_eq.trans ((swp_len _ _ _).trans HN.out)
  have hq : ls.getD N 0 = ks.getD 0 0 := by rw [h6 N (Nat.le_refl _), HG.out]
  have hsplit : ls.take N ++ [ks.getD 0 0] = ls := by
    rw [← hq, getD_eq _ _ (by omega)]
    have e : ls.drop N = [ls[N]] := by rw [List.drop_eq_getElem_cons (by omega), List.drop_of_length_le (by omega)]
    conv => rhs; rw [← List.take_append_drop N ls, e]
  have h3' : Hs B hb (ls.take N ++ [ks.getD 0 0]) (.slice (some ⟨g, 0, none⟩) (N + 1) c) w3 := by rw [hsplit]; exact h3
  have HPP := Lib.hid (hdPop_any B hb _ _ _ w3 h3')
  have HT : Hid (HpF K (ls.take N) (ls.take N).length 0) := Lib.hid (by
    rw [List.length_take, Nat.min_eq_left (by omega)]
    exact h4.congr (fun k hk => by simp [List.getD_eq_getElem?_getD, hk]))
  have HPE : Hid ((ks.getD 0 0 :: ls.take N).Perm ks) := Lib.hid (by
    refine List.Perm.trans ?_ (h5.trans HPM.out)
    rw [← hsplit]
    simp only [List.take_left', List.length_take, Nat.min_eq_left (by omega : N ≤ ls.length)]
    rw [hsplit]
    have := (List.perm_append_comm (l₁ := ls.take N) (l₂ := [ks.getD 0 0])).symm
    rw [hsplit] at this
    exact this)
  have HK3 := Lib.hid (HK2.out.trans hk3)
  obtain ⟨q, hqq⟩ : ∃ q, q = ks.getD 0 0 := ⟨_, rfl⟩
  have HQ := Lib.hid hqq
  rw [← hqq] at HPP
  clear hqq h3 h4 h5 h6 hk3 hl hq hsplit h3' HD HG
  go_wp2_with fail
  refine HPP.out.mono ?_
  rintro e w4 ⟨rfl, ⟨v', h7⟩, hk4⟩
  have H7 := Lib.hid h7; have HK4 := Lib.hid hk4; clear h7 hk4
  go_wp2
  go_ret
  exact ⟨congrArg (fun q => Ending.returned (.iface 52 (.pointer (some ⟨q, 0, none⟩)))) HQ.out, ⟨_, v', H7.out, HT.out, HPE.out⟩, HK3.out.trans HK4.out⟩

/-- What Push of the library's heap leaves. -/
structure PushPost (B hb : Nat) (K : Nat → ByteArray) (ks : List Nat) (w : World) (e : Ending) (w' : World) : Prop where
  ret : e = .returned (.tuple #[])
  hs : ∃ ks' v, Hs B hb ks' v w' ∧ HpF K ks' ks'.length 0 ∧ ks'.Perm ks
  hk : HK B w w'

set_option maxHeartbeats 1600000 in
theorem hpush_any (B hb q : Nat) (K : Nat → ByteArray) (ks : List Nat) (v : Value) (w : World) (h : Hs B hb ks v w) (hK : Keys K (q :: ks) w) (hN9 : ks.length < 4194304) (hp : HpF K ks ks.length 0) :
    Calls Try.prog 29 #[.iface 56 (.pointer (some ⟨hb, 0, none⟩)), .iface 52 (.pointer (some ⟨q, 0, none⟩))] w (PushPost B hb K (q :: ks) w) := by
  have mP := fun (W : World) => metPush ⟨hb, 0, none⟩ W
  have aP := fun (W : World) => ahPush ⟨hb, 0, none⟩ W
  have aL := fun (W : World) => ahLen ⟨hb, 0, none⟩ W
  have HPU := Lib.hid (hdPush_any B hb ks q v w h hN9)
  have HK0 := Lib.hid hK
  have HUP := Lib.hid (UpI.start (q := q) hp)
  obtain ⟨N, hN⟩ : ∃ N, N = ks.length := ⟨_, rfl⟩
  rw [← hN] at hN9
  have HN := Lib.hid hN.symm
  clear h hK hp hN
  go_enter Try.func29, Try.ntmps29
  go_wp2_with fail
  refine HPU.out.mono ?_
  rintro e w1 ⟨rfl, ⟨v1, h1⟩, hk1⟩
  obtain ⟨a, c, rfl, ha⟩ := h1.shape
  obtain ⟨g, rfl⟩ := ha (by simp)
  have hl : (ks ++ [q]).length = N + 1 := by rw [List.length_append, HN.out]; rfl
  rw [hl] at h1
  have mL := fun (W : World) (hW : W.cell? ⟨hb, 0, none⟩ = some (.slice (some ⟨g, 0, none⟩) (N + 1) c)) => metLen ⟨hb, 0, none⟩ _ W hW
  have hc := h1.at.2.1
  have hpq : (ks ++ [q]).Perm (q :: ks) := List.perm_append_comm
  have HPQ := Lib.hid hpq
  have HU := Lib.hid (hup_any B hb g (N + 1) c N K (ks ++ [q]) w1 h1 hl ((HK0.out.hk hk1).perm hpq) (by omega) (by omega) (by have := HUP.out; rw [HN.out] at this; exact this))
  have HK1 := Lib.hid hk1
  have hN1 : ((N + 1 : Nat) : Int) - 1 = N := by omega
  clear ha h1 hk1 hl hpq
  go_wp2_with fail
  refine (hdLen_any _ _ _ _).mono ?_
  rintro e w2 ⟨rfl, rfl⟩
  go_wp2_with fail
  refine HU.out.mono ?_
  rintro e w3 ⟨rfl, ⟨ls, h2, h3, h4⟩, hk2⟩
  have H2 := Lib.hid h2; have H4 := Lib.hid (h4.trans HPQ.out); have HK2 := Lib.hid (HK1.out.trans hk2)
  have H3 : Hid (HpF K ls ls.length 0) := Lib.hid (by rw [h4.length_eq, List.length_append, HN.out]; exact h3)
  clear h2 h3 h4 hk2
  go_wp2
  go_end0
  exact ⟨rfl, ⟨ls, _, H2.out, H3.out, H4.out⟩, HK2.out⟩
end Go.Proofs.Ytgegljbocacdnaa
