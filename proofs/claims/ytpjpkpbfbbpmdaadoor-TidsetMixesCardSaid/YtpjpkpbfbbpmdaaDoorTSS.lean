/- And: its walk. -/
import Derived.Test.YtpjpkpbfbbpmdaaDoorTSR
set_option maxRecDepth 100000
namespace Go.Proofs.YtpjpkpbfbbpmdaaDoor.Ts
open Go Go.RowKit Go.Maps

set_option maxHeartbeats 3200000 in
theorem and_ok {w : World} {ab ae aw bb be bw : Nat} {a b : Tset} (ha : StAt w ab ae aw a) (hb : StAt w bb be bw b) :
    Calls Tryd.prog 10 #[.pointer (some ⟨ab, 0, none⟩), .pointer (some ⟨bb, 0, none⟩)] w (MixPost (AndTo a b) w) := by
  have HU := Lib.hid (under_ok ha hb)
  have hal := ha.lts
  have hbl := hb.lts
  obtain ⟨D, hown, h4⟩ := ha.at_.wh
  have HRD : Hid (Reads D (whF a.P)) := Lib.hid h4
  have HOW := Lib.hid hown
  have HA := Lib.hid ha
  have HB := Lib.hid hb
  have HP0 : Hid (PSo a b (Maps.has D) []) := Lib.hid ⟨List.Pairwise.nil, fun q => ⟨fun e => by simp at e, fun e => by rw [Reads.hasWh h4 ha.ok.raw.pl e.1.1] at e; cases e.2⟩⟩
  clear ha hb hown h4
  go_enter Tryd.func10, Tryd.ntmps10
  go_wp2_with fail
  refine HU.out.mono ?_
  rintro e w1 ⟨sb, se, sw, rfl, hs, hb1, g1, g2, g3⟩
  have hz1 := hb1.size
  have hsl := hs.lts
  have ha1 := HA.out.old hb1 hal.1 hal.2.1 hal.2.2
  have c4 := ha1.at_.c4
  have hown : w1.ownsMap Tryd.prog 3 rdU aw (Maps.size D) D := by
    obtain ⟨es, clock, h1, h2⟩ := HOW.out
    exact ⟨es, clock, (hb1.block aw hal.2.2).trans h1, h2⟩
  have HS := Lib.hid hs
  have HB1 := Lib.hid hb1
  have HOWN : Hid (∀ k, Own sb se sw k → w.heap.size ≤ k ∧ k < w1.heap.size) := Lib.hid (by rintro k (rfl | rfl | rfl) <;> exact ⟨by assumption, by first | exact hsl.1 | exact hsl.2.1 | exact hsl.2.2⟩)
  clear hs hb1 HU HOW ha1
  go_wp2_with (first
    | (at_range; refine wpList_range_own _ rfl _ 43 rfl 3 53 keyI Tryd.underlying43 _ aw _ _ rfl hown ?_; intro w0 hrg0 hg0 hs0)
    | go_in)
  go_frame
  go_loopw [8] (fun _ wr => ∃ (left : Lit → Bool) (cn : Nat) (P1 : List Nat), wr.ranges Tryd.prog 3 rdU aw w1.heap.size (Maps.size D) D left cn ∧ Hid (PSo a b left P1) ∧ Hid (SetAt wr sb se sw (min a.most b.most) [] P1) ∧ Hid (Kept (Own sb se sw) w1 wr))
    (fun _ wr => wr.rangeLeft aw w1.heap.size)
  case atStart => exact ⟨_, _, [], hrg0, HP0, Lib.hid (HS.out.at_.below (grown_none hg0)), Lib.hid (Kept.ofBelow (grown_none hg0))⟩
  case round =>
    obtain ⟨left, cn, P1, hrg, HPS, HS1, HK1⟩ := hrel
    clear hg0 hs0 hrg0
    have hzr := HK1.out.size
    go_wp2_with (first
      | (at_next; refine wpList_next_iu _ rfl _ rfl 3 keyI Tryd.underlying3 aw w1.heap.size _ _ _ _ rfl hrg ?_ ?_)
      | go_in)
    · intro _ hl0
      clear hrg
      have HPQ : Hid (∀ q, q ∈ P1 ↔ q ∈ a.P ∧ q ∈ b.P) := Lib.hid fun q => by rw [HPS.out.mem, hl0]; simp
      have hR0 : Raw [] P1 := ⟨List.Pairwise.nil, HPS.out.srt, by simp, fun p hp => HA.out.ok.raw.pl p ((HPQ.out p).1 hp).1, by simp⟩
      have HR0 := Lib.hid hR0
      obtain ⟨W4, hW4⟩ : ∃ W4, W4 = wr.alloc (.cells #[.pointer (some ⟨ab, 0, none⟩), .pointer (some ⟨bb, 0, none⟩)] 25) := ⟨_, rfl⟩
      have hb4 : Below wr.heap.size wr W4 := by rw [hW4]; exact (Below.refl _ _).alloc (Nat.le_refl _) _
      have hL : wr.heap.size < W4.heap.size := by rw [hW4]; simp
      have hS4 := HS1.out.below hb4
      have hk4 : Kept (Own sb se sw) w1 W4 := HK1.out.trans (Kept.ofBelow (S := fun _ => False) hb4) (fun _ e => e.elim)
      have hbo4 : Below w.heap.size w W4 := HB1.out.trans (hk4.toBelow hz1 (fun k e => (HOWN.out k e).1))
      have HA4 := Lib.hid (HA.out.old hbo4 hal.1 hal.2.1 hal.2.2)
      have HB4 := Lib.hid (HB.out.old hbo4 hbl.1 hbl.2.1 hbl.2.2)
      have hcl : ∀ j, W4.cell? ⟨wr.heap.size, j, none⟩ = (#[.pointer (some ⟨ab, 0, none⟩), .pointer (some ⟨bb, 0, none⟩)] : Array Value)[j]? := fun j => by rw [hW4]; exact Lib.cell_of_heap (heap_alloc_new wr _) j
      have HXS : Hid (∀ k, k < 2 → ∃ xb xe xw x, W4.cell? ⟨wr.heap.size, k, none⟩ = some (.pointer (some ⟨xb, 0, none⟩)) ∧ StAt W4 xb xe xw x ∧ (xb < w.heap.size ∧ xe < w.heap.size ∧ xw < w.heap.size) ∧ (k = 0 ∧ x = a ∨ k = 1 ∧ x = b)) := Lib.hid fun k hk => by
        rcases (by omega : k = 0 ∨ k = 1) with rfl | rfl
        · exact ⟨ab, ae, aw, a, hcl 0, HA4.out, hal, .inl ⟨rfl, rfl⟩⟩
        · exact ⟨bb, be, bw, b, hcl 1, HB4.out, hbl, .inr ⟨rfl, rfl⟩⟩
      have HS4 := Lib.hid hS4
      have HBO4 := Lib.hid hbo4
      have HW4 := Lib.hid hW4
      obtain ⟨L, hLe⟩ : ∃ L, L = wr.heap.size := ⟨_, rfl⟩
      rw [← hLe] at HXS hL hzr
      have HLE := Lib.hid hLe
      have hz4 : w1.heap.size ≤ W4.heap.size := by omega
      have HOL : Hid (∀ k, Own sb se sw k → k ≠ L) := Lib.hid fun k e e2 => by have := (HOWN.out k e).2; omega
      have HDEG : Hid (∀ T W, SetAt W sb se sw (min a.most b.most) T P1 → Raw T P1 → TUp a b 2 T → Kept (Own sb se sw) W4 W → Calls Tryd.prog 27 #[.pointer (some ⟨sb, 0, none⟩)] W fun e w' => e = .returned (.tuple #[]) ∧ Hid (∃ s, StAt w' sb se sw s ∧ AndTo a b s ∧ Below w.heap.size w w')) := Lib.hid fun T W hST hRT hT hK => by
        refine (degrade_any hST hRT (by have := HA.out.ok.most; omega)).mono ?_
        rintro e w' ⟨h1, T', P', hd, hS', hk'⟩
        have hand : AndTo a b ⟨min a.most b.most, T', P'⟩ := ⟨rfl, T, P1, ⟨hRT.st, hRT.sp, fun t => by
          rw [hT t, ← both_says HA.out.ok HB.out.ok]
          simp, fun p => HPQ.out p⟩, hd⟩
        exact ⟨h1, Lib.hid ⟨_, ⟨hS', hand.ok HA.out.ok HB.out.ok⟩, hand, HBO4.out.trans ((hK.trans hk' (fun _ e => .inl e)).toBelow (by have := HBO4.out.size; omega) (fun k e => (HOWN.out k e).1))⟩⟩
      clear hl0 hR0 hb4 hS4 hk4 hbo4 hcl HPS HS1 HK1 hW4 hLe
      go_wp2
      rw [← HW4.out, ← HLE.out]
      go_loopw [53] (fun i wr => ∃ (k : Nat) (T1 : List Nat), k ≤ 2 ∧ i = .int .i64 k ∧ Hid (SetAt wr sb se sw (min a.most b.most) T1 P1) ∧ Hid (Raw T1 P1) ∧ Hid (TUp a b k T1) ∧ Hid (Kept (Own sb se sw) W4 wr)) (fun i _ => 2 - (intOf i).toNat)
      case atStart => exact ⟨0, [], by omega, rfl, HS4, HR0, Lib.hid (fun t => by simp), Lib.hid (Kept.refl _ _)⟩
      case round =>
        obtain ⟨k, T1, hk, rfl, HS1, HR1, HT1, HK1⟩ := hrel
        have hzr := HK1.out.size
        by_cases hlt : k < 2
        · obtain ⟨xb, xe, xw, x, hxc, hxs, hxl, hxk⟩ := HXS.out k hlt
          have hbr : Below w.heap.size w wr := HBO4.out.trans (HK1.out.toBelow (by omega) (fun k e => (HOWN.out k e).1))
          have hxr : StAt wr xb xe xw x := hxs.kept HK1.out (fun e => by have := (HOWN.out _ e).1; omega) (fun e => by have := (HOWN.out _ e).1; omega) (fun e => by have := (HOWN.out _ e).1; omega)
          have hxc2 := (World.cell?_of_block (a := ⟨L, k, none⟩) (HK1.out.block L hL (fun e => HOL.out _ e rfl))).trans hxc
          have hx3 := hxr.at_.c3
          obtain ⟨D2, hown2, h42⟩ := hxr.at_.ex
          have HRX : Hid (Reads D2 (exF x.T)) := Lib.hid h42
          have HX := Lib.hid hxr
          have HXK := Lib.hid hxk
          have HT0 : Hid (TSo a b x T1 (Maps.has D2) T1) := Lib.hid fun t => ⟨.inl, fun e => e.elim id (fun e => by rw [Reads.hasPl h42 hxr.ok.raw.tl e.1.2] at e; cases e.2)⟩
          have hki : (k : Int) < 2 := by omega
          clear hxs hbr hxr hxc hxk h42
          go_wp2_with (first
            | (at_range; refine wpList_range_own _ rfl _ 42 rfl 3 56 keyI Tryd.underlying42 _ xe _ _ rfl hown2 ?_; intro w0 hrg0 hg0 hs0)
            | go_in)
          go_frame
          obtain ⟨r, hre⟩ : ∃ r, r = wr.heap.size := ⟨_, rfl⟩
          rw [← hre] at hrg0 hs0 hzr ⊢
          obtain ⟨wq, hwq⟩ : ∃ wq, wq = wr := ⟨_, rfl⟩
          rw [← hwq] at hg0 HS1 HK1 HX
          have HK0 : Hid (Kept (Own sb se sw) W4 w0) := Lib.hid (HK1.out.trans (Kept.ofBelow (S := fun _ => False) (grown_none hg0)) (fun _ e => e.elim))
          have HS0 := Lib.hid (HS1.out.below (grown_none hg0))
          have hxlt : xe < w0.heap.size := by omega
          have hro : ∀ k, Own sb se sw k → k ≠ r := fun k e e2 => by have := (HOWN.out k e).2; omega
          have hxo : ∀ k, Own sb se sw k → k ≠ xe := fun k e e2 => by have := (HOWN.out k e).1; omega
          have HRO := Lib.hid hro
          have HXO := Lib.hid hxo
          have hrz : w1.heap.size ≤ r := by omega
          clear hg0 hs0 HS1 HK1 hro hxo hwq hre
          go_loopw [13] (fun _ wr => ∃ (left : Lit → Bool) (cn : Nat) (T2 : List Nat), wr.ranges Tryd.prog 3 rdPl xe r (Maps.size D2) D2 left cn ∧ Hid (TSo a b x T1 left T2) ∧ Hid (SetAt wr sb se sw (min a.most b.most) T2 P1) ∧ Hid (Raw T2 P1) ∧ Hid (Kept (Own sb se sw) W4 wr))
            (fun _ wr => wr.rangeLeft xe r)
          case atStart => exact ⟨_, _, T1, hrg0, HT0, HS0, HR1, HK0⟩
          case round =>
            obtain ⟨left, cn, T2, hrg, HT2, HS2, HR2, HK2⟩ := hrel
            clear hrg0
            have hzr2 := HK2.out.size
            go_wp2_with (first
              | (at_next; refine wpList_next_ranges_ii _ rfl _ rfl 3 56 .i64 .u64 keyI Tryd.underlying3 Tryd.underlying56 xe r _ _ _ _ rfl hrg ?_ ?_)
              | go_in)
            · intro _ hl0
              have HTU := Lib.hid (TUp.next HT1.out HXK.out HT2.out hl0)
              clear hl0 hrg
              go_wp2
              go_roundw
              case rel => exact ⟨k + 1, T2, by omega, by go_num, HS2, HR2, HTU, HK2⟩
              case measure => simp [intOf]; omega
            · intro y c w2 cn1 hwy hwc hly hat hrg1 hltc hg1 hs1 hen
              obtain ⟨q, rfl, hq, hq0, rfl⟩ := HRX.out.ePl HX.out.ok.raw.tl hwy hat
              have hr1 := hrg1.lt
              have hx1 := hrg1.owns.lt
              have hk2 : Kept (Own sb se sw) W4 w2 := by
                refine HK2.out.trans (Kept.ofGrown (S := fun k => k = r) hg1 (fun k e => by injection e with e; exact e.symm)) (fun k e => .inr ?_)
                subst e; omega
              have hb2 : Below w.heap.size w w2 := HBO4.out.trans (hk2.toBelow (by omega) (fun k e => (HOWN.out k e).1))
              have hS2 : SetAt w2 sb se sw (min a.most b.most) T2 P1 := HS2.out.blocks (hg1.block sb HS2.out.lt (by simp; omega)) (hg1.block se HS2.out.ex.lt (by simp; omega)) (hg1.block sw HS2.out.wh.lt (by simp; omega))
              have hA2 := HA.out.old hb2 hal.1 hal.2.1 hal.2.2
              have HCA := Lib.hid (at_st hA2 q hq)
              have HCB : Hid (∀ W, Below w2.heap.size w2 W → Calls Tryd.prog 25 #[.pointer (some ⟨bb, 0, none⟩), .int .i64 q] W fun e w' => e = .returned (.int .u64 (atV b q : Nat)) ∧ Below W.heap.size W w') := Lib.hid fun W hW =>
                at_st (HB.out.old (hb2.trans (hW.mono hb2.size)) hbl.1 hbl.2.1 hbl.2.2) q hq
              have hbits := bits_and_u64_nat (atV a q) (atV b q) (atV_lt a q) (atV_lt b q)
              have hplt : atV a q &&& atV b q < 18446744073709551616 := Nat.lt_of_le_of_lt Nat.and_le_left (atV_lt a q)
              have hqP : q ∉ P1 := fun hp => by
                have h2 := (HPQ.out q).1 hp
                rcases HXK.out with ⟨_, rfl⟩ | ⟨_, rfl⟩
                · exact pl_off HX.out.ok hq0 h2.1
                · exact pl_off HX.out.ok hq0 h2.2
              have HTT : Hid (∀ T', (∀ t, t ∈ T' ↔ t ∈ T2 ∨ q ∉ P1 ∧ t / 64 = q ∧ (atV a q &&& atV b q).testBit (t % 64) = true) → TSo a b x T1 (fun z => left z && !z.sameKey (.int .i64 (q : Int))) T') := Lib.hid fun T' h => HT2.out.turn hq hq0 hqP h
              have HTY : Hid (atV a q &&& atV b q = 0 → TSo a b x T1 (fun z => left z && !z.sameKey (.int .i64 (q : Int))) T2) := Lib.hid fun h => HT2.out.stay hq h
              have HRM : Hid (∀ w' : World, w'.heap[xe]? = w2.heap[xe]? → w'.heap[r]? = w2.heap[r]? → w'.ranges Tryd.prog 3 rdPl xe r (Maps.size D2) D2 (fun z => left z && !z.sameKey (.int .i64 (q : Int))) cn1 ∧ w'.rangeLeft xe r < wr.rangeLeft xe r) := Lib.hid fun w' e1 e2 => by
                have := ranges_block hrg1 e1 e2
                exact ⟨this, by rw [this.left_eq, hrg.left_eq]; exact hltc⟩
              have HPU : Hid (∀ W, Below w2.heap.size w2 W → atV a q &&& atV b q ≠ 0 → Calls Tryd.prog 26 #[.pointer (some ⟨sb, 0, none⟩), .int .i64 q, .int .u64 ((atV a q &&& atV b q : Nat) : Int)] W fun e w' => e = .returned (.tuple #[]) ∧ Hid (PutPost sb se sw (min a.most b.most) T2 P1 q (atV a q &&& atV b q) W w')) := Lib.hid fun W hW h0 =>
                (put_st (hS2.below hW) HR2.out q _ hq hplt h0).mono fun e w' h => ⟨h.1, Lib.hid h.2⟩
              have HK3 := Lib.hid hk2
              have HS3 := Lib.hid hS2
              obtain ⟨va, hva⟩ : ∃ v, v = atV a q := ⟨_, rfl⟩
              obtain ⟨vb, hvb⟩ : ∃ v, v = atV b q := ⟨_, rfl⟩
              rw [← hva] at HCA hbits HTT HTY HPU
              rw [← hvb] at HCB hbits HTT HTY HPU
              obtain ⟨v, hv⟩ : ∃ v, v = va &&& vb := ⟨_, rfl⟩
              rw [← hv] at hbits HTT HTY HPU
              obtain ⟨pv, hpv⟩ : ∃ v, v = pl x.T q := ⟨_, rfl⟩
              rw [← hpv] at hen
              clear hat hly hwy hwc hrg hrg1 hltc hg1 hs1 hb2 hS2 hA2 hplt hqP hq0 hk2 hva hvb hv hpv HT2 HS2 HK2
              go_wp2_with fail
              refine HCA.out.mono ?_
              rintro e w3 ⟨rfl, hb3⟩
              go_wp2_with fail
              refine (HCB.out _ hb3).mono ?_
              rintro e w4 ⟨rfl, hb4⟩
              have hb24 : Below w2.heap.size w2 w4 := hb3.trans (hb4.mono hb3.size)
              clear hb3 hb4 HCA HCB
              by_cases h0 : v = 0
              · have h0' : ((v : Int) != 0) = false := by simp [h0]
                have HE := HRM.out w4 (hb24.block xe hx1) (hb24.block r hr1)
                have HRG := Lib.hid HE.1
                have HME := Lib.hid HE.2
                have HTN := Lib.hid (HTY.out h0)
                have HSN := Lib.hid (HS3.out.below hb24)
                have HKN : Hid (Kept (Own sb se sw) W4 w4) := Lib.hid (HK3.out.trans (Kept.ofBelow (S := fun _ => False) hb24) (fun _ e => e.elim))
                clear HE hb24 h0
                go_wp2
                go_roundw
                case rel => exact ⟨_, _, T2, HRG.out, HTN, HSN, HR2, HKN⟩
                case measure => exact HME.out
              · have h0' : ((v : Int) != 0) = true := by simp; omega
                have HPC := Lib.hid (HPU.out w4 hb24 h0)
                go_wp2_with fail
                refine HPC.out.mono ?_
                rintro e w5 ⟨rfl, HPP⟩
                obtain ⟨T3, f1, f2, f3, f4⟩ := HPP.out
                have hk24 : Kept (Own sb se sw) w2 w5 := (Kept.ofBelow (S := Own sb se sw) hb24).trans f4 (fun _ e => .inl e)
                have HE := HRM.out w5 (hk24.block xe hx1 (fun e => HXO.out _ e rfl)) (hk24.block r hr1 (fun e => HRO.out _ e rfl))
                have HRG := Lib.hid HE.1
                have HME := Lib.hid HE.2
                have HTN := Lib.hid (HTT.out T3 f3)
                have HSN := Lib.hid f1
                have HRN := Lib.hid f2
                have HKN : Hid (Kept (Own sb se sw) W4 w5) := Lib.hid (HK3.out.trans hk24 (fun _ e => .inl e))
                clear HE hb24 f1 f2 f3 f4 hk24 HPP HPC h0
                go_wp2
                go_roundw
                case rel => exact ⟨_, _, T3, HRG.out, HTN, HSN, HRN, HKN⟩
                case measure => exact HME.out
        · have hk2 : k = 2 := by omega
          subst hk2
          have HDG := Lib.hid (HDEG.out T1 wr HS1.out HR1.out HT1.out HK1.out)
          clear HS1 HR1 HT1 HK1
          go_wp2_with fail
          refine HDG.out.mono ?_
          rintro e w5 ⟨rfl, HE⟩
          obtain ⟨s, e1, e2, e3⟩ := HE.out
          have HE2 : Hid (MixPost (AndTo a b) w (.returned (.tuple #[.pointer (some ⟨sb, 0, none⟩), .int .i64 0])) w5) := Lib.hid ⟨sb, se, sw, s, rfl, e1, e2, e3, g1, g2, g3⟩
          clear e1 e2 e3 HE
          go_wp2
          go_ret2
          exact HE2.out
    · intro x d w2 cn1 hwx hlx hat hrg1 hlt hg1 hs1 hen
      obtain ⟨q, rfl, hq, hq0⟩ := HRD.out.eWh HA.out.ok.raw.pl hwx hat
      have hk2 : Kept (Own sb se sw) w1 w2 := Kept.ofGrownR HK1.out hg1 (Nat.le_refl _)
      have hb2 : Below w.heap.size w w2 := HB1.out.trans (hk2.toBelow hz1 (fun k e => (HOWN.out k e).1))
      have hS2 : SetAt w2 sb se sw (min a.most b.most) [] P1 := HS1.out.blocks (hg1.block sb (by omega) (by simp; omega)) (hg1.block se (by omega) (by simp; omega)) (hg1.block sw (by omega) (by simp; omega))
      have hB2 := HB.out.old hb2 hbl.1 hbl.2.1 hbl.2.2
      have d4 := hB2.at_.c4
      have hlU := hB2.at_.wh.lookU q hq
      have hbal : Below w2.heap.size w2 (w2.alloc (.cells #[] 53)) := (Below.refl _ _).alloc (Nat.le_refl _) _
      have hS3 := hS2.below hbal
      have e4 := hS3.c4
      have hrl1 := hrg1.lt
      have hawl := hrg1.owns.lt
      have hP1 : ∀ p ∈ P1, p < 262144 := fun p hp => HA.out.ok.raw.pl p ((HPS.out.mem p).1 hp).1.1
      by_cases hqb : q ∈ b.P
      · rw [decide_eq_true hqb] at hlU
        obtain ⟨w3, hr3, hm3, ht3⟩ := hS3.wh.putU hP1 q hq
        have hb3 : ∀ k, k < w2.heap.size → k ≠ sw → w3.heap[k]? = w2.heap[k]? := fun k e1 e2 => (ht3.grown.block k (Nat.lt_of_lt_of_le e1 hbal.size) (by simp; exact e2)).trans (hbal.block k e1)
        have hrg3 := ranges_block hrg1 (hb3 aw hawl (by omega)) (hb3 _ hrl1 (by omega))
        have HM : Hid (w3.rangeLeft aw w1.heap.size < wr.rangeLeft aw w1.heap.size) := Lib.hid (by rw [hrg3.left_eq, hrg.left_eq]; exact hlt)
        have HRG := Lib.hid hrg3
        have HP3 := Lib.hid (HPS.out.turn hq0 hqb)
        have HS3 : Hid (SetAt w3 sb se sw (min a.most b.most) [] (ins q P1)) := Lib.hid ⟨(hb3 sb (by omega) hS2.nb.2).trans hS2.blk, hS2.ex.block (hb3 se (by omega) hS2.ne), hm3, hS2.ne⟩
        have HK3 : Hid (Kept (Own sb se sw) w1 w3) := Lib.hid ((hk2.trans (Kept.ofBelow (S := fun _ => False) hbal) (fun _ e => e.elim)).trans (Kept.ofTurned (S := Own sb se sw) ht3 (.inr (.inr rfl))) (fun _ e => .inl e))
        clear hat hlx hwx hrg hrg1 hlt hg1 hs1 hk2 hb2 hS2 hB2 hbal hS3 hrl1 hawl hP1 hqb hm3 ht3 hb3 hrg3 hq0 HPS HS1 HK1 hzr
        go_wp2
        go_roundw
        case rel => exact ⟨_, _, _, HRG.out, HP3, HS3, HK3⟩
        case measure => exact HM.out
      · rw [decide_eq_false hqb] at hlU
        have hrg3 := ranges_block hrg1 (hbal.block aw hawl) (hbal.block _ hrl1)
        have HM : Hid ((w2.alloc (.cells #[] 53)).rangeLeft aw w1.heap.size < wr.rangeLeft aw w1.heap.size) := Lib.hid (by rw [hrg3.left_eq, hrg.left_eq]; exact hlt)
        have HRG := Lib.hid hrg3
        have HP3 := Lib.hid (HPS.out.stay (x := q) hqb)
        have HS3 := Lib.hid hS3
        have HK3 : Hid (Kept (Own sb se sw) w1 (w2.alloc (.cells #[] 53))) := Lib.hid (hk2.trans (Kept.ofBelow (S := fun _ => False) hbal) (fun _ e => e.elim))
        clear hat hlx hwx hrg hrg1 hlt hg1 hs1 hk2 hb2 hS2 hB2 hbal hS3 hrl1 hawl hP1 hqb hrg3 hq0 HPS HS1 HK1 hzr
        go_wp2
        go_roundw
        case rel => exact ⟨_, _, _, HRG.out, HP3, HS3, HK3⟩
        case measure => exact HM.out
end Go.Proofs.YtpjpkpbfbbpmdaaDoor.Ts
