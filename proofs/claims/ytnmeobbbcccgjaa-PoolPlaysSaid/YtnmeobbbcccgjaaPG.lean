/- The contract of a pool's turn: whose frame is taken next. -/
import Derived.Test.YtnmeobbbcccgjaaPF
set_option maxRecDepth 100000
namespace Go.Proofs.Ytnmeobbbcccgjaa
open Go.RowKit

/-- The same frames, but for their marks of being asked for lately. -/
def Late (fr fr' : Nat → Option Fr) : Prop := ∀ i, ∃ b : Bool, fr' i = (fr i).map fun f => { f with lately := b }
theorem Late.refl (fr : Nat → Option Fr) : Late fr fr := fun i => by
  cases h : fr i with
  | none => exact ⟨false, rfl⟩
  | some f => exact ⟨f.lately, rfl⟩
theorem Late.set {fr fr' : Nat → Option Fr} (h : Late fr fr') {i : Nat} {f : Fr} (hi : fr' i = some f) (b : Bool) : Late fr (upd fr' i (some { f with lately := b })) := fun j => by
  by_cases hj : j = i
  · subst hj
    obtain ⟨c, hc⟩ := h j
    rw [hi] at hc
    cases hf : fr j with
    | none => rw [hf] at hc; cases hc
    | some g =>
      rw [hf] at hc
      simp only [Option.map_some, Option.some.injEq] at hc
      subst hc
      exact ⟨b, by rw [upd_same]; rfl⟩
  · rw [upd_other _ _ hj]; exact h j

section
variable {p d fb mb n hand m : Nat} {fr : Nat → Option Fr} {w w' : World}
theorem PoolG.setHand (h : PoolG p d fb mb n hand m fr w) {k : Nat} (hk : k < n) : PoolG p d fb mb n k m fr (w.setCell ⟨p, 4, none⟩ (.int .i64 k)) := by
  have hf : (w.setCell ⟨p, 4, none⟩ (.int .i64 k)).heap[fb]? = w.heap[fb]? := Below.heap_setCell _ _ _ _ (fun e => h.pf e.symm)
  have hm : (w.setCell ⟨p, 4, none⟩ (.int .i64 k)).heap[mb]? = w.heap[mb]? := Below.heap_setCell _ _ _ _ (fun e => h.pm e.symm)
  obtain ⟨F, hF, h4, h5⟩ := h.map
  refine ⟨?_, h.n1, h.n2, hk, there_touch h.room (Touch.ofBlock (o := 0) (n := 0) hf), fun j => (World.frozen?_of_block hf).trans (h.froz j), fun i f hi => ?_, h.one, ⟨F, hF.block hm, h4, h5⟩, h.pf, h.pm, h.fm⟩
  · simp only [World.setCell, Array.getElem?_modify, if_true, h.blk, Option.map_some]
    rfl
  · obtain ⟨a, b, c⟩ := h.at_ i f hi
    exact ⟨a, fun j v hv => (World.cell?_of_block hf).trans (b j v hv), c⟩
theorem PoolG.setLate (h : PoolG p d fb mb n hand m fr w) {i : Nat} {f : Fr} (hi : fr i = some f) (b : Bool) : PoolG p d fb mb n hand m (upd fr i (some { f with lately := b })) (w.setCell ⟨fb, i * 516 + 2, none⟩ (.bool b)) := by
  obtain ⟨_, hf, hb, _⟩ := h.at_ i f hi
  have hfar : ∀ j, j ≠ 2 → (w.setCell ⟨fb, i * 516 + 2, none⟩ (.bool b)).cell? ⟨fb, i * 516 + j, none⟩ = w.cell? ⟨fb, i * 516 + j, none⟩ := fun j hj => World.cell?_setCell_other _ _ _ _ (fun e => by injection e with _ e _; omega)
  refine h.turnFr hi (Touch.setCell w _ (by omega) (by omega)) (Kept.setCell (fun k => k = fb) w (b := fb) rfl _) (FrAt.mk ((hfar 0 (by omega)).trans hf.page) ((hfar 1 (by omega)).trans hf.pins) ?_ ((hfar 3 (by omega)).trans hf.changed) (fun j v hv => ?_)) hb rfl
  · exact World.cell?_setCell_same _ _ _ hf.lately
  · rw [show i * 516 + 4 + j = i * 516 + (4 + j) by omega, hfar (4 + j) (by omega), ← Nat.add_assoc]
    exact hf.bytes j v hv
end

/-- What the hand has seen in k rounds. -/
def Seen (n hand k : Nat) (fr : Nat → Option Fr) : Prop :=
  (∀ j f, j < k → fr ((hand + j) % n) = some f → 0 < f.pins ∨ f.lately = false) ∧ ∀ j f, n ≤ j → j < k → fr ((hand + j) % n) = some f → 0 < f.pins

theorem seen_pins {n hand k : Nat} {fr : Nat → Option Fr} (h : Seen n hand k fr) {f : Fr} (hf : fr ((hand + k) % n) = some f) (hp : 0 < f.pins) : Seen n hand (k + 1) fr := by
  refine ⟨fun j g hj hg => ?_, fun j g hn hj hg => ?_⟩
  · by_cases hjk : j = k
    · subst hjk; rw [hf] at hg; cases hg; exact .inl hp
    · exact h.1 j g (by omega) hg
  · by_cases hjk : j = k
    · subst hjk; rw [hf] at hg; cases hg; exact hp
    · exact h.2 j g hn (by omega) hg
theorem seen_late {n hand k : Nat} {fr : Nat → Option Fr} (h : Seen n hand k fr) (hn : 1 ≤ n) {f : Fr} (hf : fr ((hand + k) % n) = some f) (hl : f.lately = true) (hp : f.pins = 0) : k < n ∧ Seen n hand (k + 1) (upd fr ((hand + k) % n) (some { f with lately := false })) := by
  have hkn : k < n := by
    by_cases hk : k < n
    · exact hk
    · exfalso
      have e : (hand + (k - n)) % n = (hand + k) % n := by
        have := Nat.add_mod_right (hand + (k - n)) n
        rw [← this]; congr 1; omega
      rcases h.1 (k - n) f (by omega) (by rw [e]; exact hf) with h1 | h1
      · omega
      · rw [hl] at h1; cases h1
  refine ⟨hkn, fun j g hj hg => ?_, fun j g hn hj _ => by omega⟩
  by_cases he : (hand + j) % n = (hand + k) % n
  · rw [he, upd_same] at hg; cases hg; exact .inr rfl
  · rw [upd_other _ _ he] at hg
    exact h.1 j g (by
      by_cases hjk : j = k
      · subst hjk; exact absurd rfl he
      · omega) hg
theorem seen_all {n hand : Nat} {fr : Nat → Option Fr} (h : Seen n hand (2 * n) fr) (hh : hand < n) : ∀ i f, i < n → fr i = some f → 0 < f.pins := by
  intro i f hi hf
  obtain ⟨j, hj1, hj2, hj⟩ : ∃ j, n ≤ j ∧ j < 2 * n ∧ (hand + j) % n = i := by
    by_cases hc : hand ≤ i
    · exact ⟨n + (i - hand), by omega, by omega, by rw [show hand + (n + (i - hand)) = i + n by omega, Nat.add_mod_right, Nat.mod_eq_of_lt hi]⟩
    · exact ⟨n + (i + n - hand), by omega, by omega, by rw [show hand + (n + (i + n - hand)) = i + n + n by omega, Nat.add_mod_right, Nat.add_mod_right, Nat.mod_eq_of_lt hi]⟩
  exact h.2 j f hj1 hj2 (by rw [hj]; exact hf)

def TurnPost (p d fb mb n m : Nat) (fr : Nat → Option Fr) (w : World) (e : Ending) (w' : World) : Prop :=
  ∃ hand' fr', PoolG p d fb mb n hand' m fr' w' ∧ Late fr fr' ∧ Kept (fun k => k = p ∨ k = fb) w w' ∧
    (e = .returned (.pointer none) ∧ (∀ i f, i < n → fr' i = some f → 0 < f.pins) ∨ ∃ i f, i < n ∧ fr' i = some f ∧ f.pins = 0 ∧ e = .returned (ptrFr fb i))

set_option maxHeartbeats 1600000 in
theorem turn_any (p d fb mb n hand m : Nat) (fr : Nat → Option Fr) (w : World) (h : PoolG p d fb mb n hand m fr w) (hall : ∀ i, i < n → ∃ f, fr i = some f) :
    Calls Try.prog 39 #[.pointer (some ⟨p, 0, none⟩)] w (TurnPost p d fb mb n m fr w) := by
  have hc2 := h.c2
  have hn1 := h.n1
  have hn2 := h.n2
  have hh := h.hand_
  have HH := Lib.hid h; clear h
  have HA := Lib.hid hall; clear hall
  go_enter Try.func39, Try.ntmps39
  go_wp2
  go_loopw [10] (fun i wr => ∃ (k hd : Nat) (fr' : Nat → Option Fr), k ≤ 2 * n ∧ i = .int .i64 k ∧ Hid (hd = (hand + k) % n) ∧ Hid (PoolG p d fb mb n hd m fr' wr) ∧ Hid (Late fr fr') ∧ Hid (Seen n hand k fr') ∧ Hid (Kept (fun k => k = p ∨ k = fb) w wr)) (fun i _ => 2 * n - (intOf i).toNat)
  case atStart => exact ⟨0, hand, fr, by omega, rfl, Lib.hid (by rw [Nat.add_zero, Nat.mod_eq_of_lt hh]), HH, Lib.hid (Late.refl _), Lib.hid ⟨fun j f hj => by omega, fun j f _ hj => by omega⟩, Lib.hid (Kept.refl _ _)⟩
  case round =>
    obtain ⟨k, hd, fr', hk, rfl, HD, HG, HL, HS, HK⟩ := hrel
    by_cases hlt : k < 2 * n
    · have hdn : hd < n := HG.out.hand_
      obtain ⟨f, hf⟩ : ∃ f, fr' hd = some f := by
        obtain ⟨g, hg⟩ := HA.out hd hdn
        obtain ⟨b, hb⟩ := HL.out hd
        rw [hg] at hb
        exact ⟨_, hb⟩
      have g2 := HG.out.c2
      have g4 := HG.out.c4
      have gz : wr.frozen? ⟨p, 4, none⟩ = false := Lib.frozen_of_heap HG.out.blk 4
      have h1n : (1 : Int) ≤ n := by omega
      have hdi : (0 : Int) ≤ hd := by omega
      have hdj : (hd : Int) < n := by omega
      have hwr : IntKind.i64.wrap ((hd : Int) + 1) = (hd : Int) + 1 := IntWalk.i64_in _ (by omega)
      have hn0 : ¬ n = 0 := by omega
      obtain ⟨r, hr⟩ : ∃ r : Nat, (hd + 1) % n = r := ⟨_, rfl⟩
      have hrn : r < n := by rw [← hr]; exact Nat.mod_lt _ (by omega)
      have hmod : ((hd : Int) + 1).tmod (n : Int) = (r : Int) := by
        rw [Int.tmod_eq_emod_of_nonneg (by omega), ← hr]
        exact (Int.natCast_emod (hd + 1) n).symm
      have HR := Lib.hid hr; clear hr
      go_wp2
      go_quiet (fail)
      obtain ⟨W, hW⟩ : ∃ W, W = wr.drewN nq := ⟨_, rfl⟩
      rw [← hW]
      have hG : PoolG p d fb mb n hd m fr' W := by rw [hW]; exact HG.out.block rfl rfl rfl
      have hK : Kept (fun k => k = p ∨ k = fb) w W := by rw [hW]; exact HK.out.trans (Kept.ofBelow (S := fun k => k = p ∨ k = fb) ⟨rfl, rfl, rfl, Nat.le_refl _, fun _ _ => rfl⟩) (fun _ hi => .inl hi)
      clear g2 g4 gz HG HK hW
      have HK := Lib.hid hK; clear hK
      have HG := Lib.hid hG; clear hG
      have g2 := HG.out.c2
      have g4 := HG.out.c4
      have gz : W.frozen? ⟨p, 4, none⟩ = false := Lib.frozen_of_heap HG.out.blk 4
      have hpf : ¬ p = fb := HG.out.pf
      have hfp : ¬ fb = p := fun e => hpf e.symm
      have hF := (HG.out.at_ hd f hf).2.1
      have p1 := hF.pins
      have p2 := hF.lately
      have pz := HG.out.froz (hd * 516 + 2)
      have HF := Lib.hid hF; clear hF
      have HFF := Lib.hid hf; clear hf
      have H2 : Hid (PoolG p d fb mb n r m fr' (W.drew.setCell ⟨p, 4, none⟩ (.int .i64 r))) := Lib.hid (PoolG.setHand (HG.out.block (w' := W.drew) rfl rfl rfl) hrn)
      have HK2 : Hid (Kept (fun k => k = p ∨ k = fb) w (W.drew.setCell ⟨p, 4, none⟩ (.int .i64 r))) := Lib.hid ((HK.out.trans (Kept.ofBelow (S := fun k => k = p ∨ k = fb) (b := W.drew) ⟨rfl, rfl, rfl, Nat.le_refl _, fun _ _ => rfl⟩) (fun _ hi => .inl hi)).trans (Kept.setCell (fun k => k = p ∨ k = fb) W.drew (b := p) (.inl rfl) _) (fun _ hi => .inl hi))
      have hrk : r = (hand + (k + 1)) % n := by rw [← HR.out, HD.out, Nat.mod_add_mod, Nat.add_assoc]
      have HRK := Lib.hid hrk; clear hrk
      obtain ⟨pn, hpn⟩ : ∃ pn, pn = f.pins := ⟨_, rfl⟩
      obtain ⟨lt, hlt'⟩ : ∃ lt, lt = f.lately := ⟨_, rfl⟩
      rw [← hpn] at p1
      rw [← hlt'] at p2
      have HPN := Lib.hid hpn; clear hpn
      have HLT := Lib.hid hlt'; clear hlt'
      by_cases hp0 : pn = 0
      · subst hp0
        cases lt
        · go_wp2
          go_still_tail 14, (by kernel_rfl)
          go_wp2
          go_ret
          exact ⟨r, fr', H2.out, HL.out, HK2.out, .inr ⟨hd, f, hdn, HFF.out, HPN.out.symm, rfl⟩⟩
        · go_wp2
          go_still_tail 14, (by kernel_rfl)
          go_wp2
          have hs := seen_late HS.out hn1 (HD.out ▸ HFF.out) HLT.out.symm HPN.out.symm
          rw [← HD.out] at hs
          have HS2 := Lib.hid hs.2; clear hs
          have HL2 := Lib.hid (HL.out.set HFF.out false)
          have H3 := Lib.hid (H2.out.setLate HFF.out false)
          have HK3 := Lib.hid (HK2.out.trans (Kept.setCell (fun k => k = p ∨ k = fb) (W.drew.setCell ⟨p, 4, none⟩ (.int .i64 r)) (b := fb) (i := hd * 516 + 2) (.inr rfl) (.bool false)) (fun _ hi => .inl hi))
          go_roundw
          case rel => exact ⟨k + 1, r, _, by omega, by go_num, HRK, H3, HL2, HS2, HK3⟩
          case measure => simp [intOf]; omega
      · have hp1 : (0 : Int) < pn := by omega
        go_wp2
        go_still_tail 14, (by kernel_rfl)
        go_wp2
        have hs := seen_pins HS.out (HD.out ▸ HFF.out) (by rw [← HPN.out]; omega)
        have HS2 := Lib.hid hs; clear hs
        go_roundw
        case rel => exact ⟨k + 1, r, fr', by omega, by go_num, HRK, H2, HL, HS2, HK2⟩
        case measure => simp [intOf]; omega
    · have hk2 : k = 2 * n := by omega
      subst hk2
      go_wp2
      go_ret
      exact ⟨hd, fr', HG.out, HL.out, HK.out, .inl ⟨rfl, seen_all HS.out hh⟩⟩
end Go.Proofs.Ytnmeobbbcccgjaa
