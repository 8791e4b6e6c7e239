/- Or. -/
import Derived.Test.YtpjpkpbfbbpmdaaDoorTSS
set_option maxRecDepth 100000
namespace Go.Proofs.YtpjpkpbfbbpmdaaDoor.Ts
open Go Go.RowKit Go.Maps

/-- The addresses so far, in a range over x's pages. -/
def USo (x : Tset) (P : List Nat) (T0 : List Nat) (left : Lit → Bool) (T : List Nat) : Prop := ∀ t, t ∈ T ↔ t ∈ T0 ∨ (t ∈ x.T ∧ t / 64 ∉ P) ∧ left (.int .i64 ((t / 64 : Nat) : Int)) = false
theorem USo.turn {x : Tset} {T0 T T' : List Nat} {left : Lit → Bool} {P : List Nat} (h : USo x P T0 left T) {q : Nat}
    (hT : ∀ t, t ∈ T' ↔ t ∈ T ∨ q ∉ P ∧ t / 64 = q ∧ (pl x.T q).testBit (t % 64) = true) : USo x P T0 (fun z => left z && !z.sameKey (.int .i64 (q : Int))) T' := fun t => by
  simp only [strike_int]
  rw [hT, h t]
  by_cases e : t / 64 = q
  · have hb := pl_bit' x.T t
    rw [e] at hb
    simp only [e, hb]
    simp
    constructor
    · rintro ((h | h) | h)
      · exact .inl h
      · exact .inr h.1
      · exact .inr ⟨h.2, h.1⟩
    · rintro (h | h)
      · exact .inl (.inl h)
      · exact .inr ⟨h.2, h.1⟩
  · simp [e]
/-- The addresses behind k of both ranges. -/
def UUp (a b : Tset) (P : List Nat) (k : Nat) (T : List Nat) : Prop := ∀ t, t ∈ T ↔ (0 < k ∧ t ∈ a.T ∨ 1 < k ∧ t ∈ b.T) ∧ t / 64 ∉ P
theorem UUp.next {a b x : Tset} {k : Nat} {P T0 T : List Nat} {left : Lit → Bool} (h0 : UUp a b P k T0) (hx : k = 0 ∧ x = a ∨ k = 1 ∧ x = b) (h : USo x P T0 left T) (hl : ∀ kl, left kl = false) : UUp a b P (k + 1) T := fun t => by
  rw [h t, h0 t, hl]
  rcases hx with ⟨rfl, rfl⟩ | ⟨rfl, rfl⟩
  · simp
  · simp
    constructor
    · rintro (⟨h1, h2⟩ | ⟨h1, h2⟩)
      · exact ⟨.inl h1, h2⟩
      · exact ⟨.inr h1, h2⟩
    · rintro ⟨h1 | h1, h2⟩
      · exact .inl ⟨h1, h2⟩
      · exact .inr ⟨h1, h2⟩

/-- Copy of a set's pages into those of another. -/
theorem copy_set {w : World} {sb se sw m : Nat} {T P : List Nat} (h : SetAt w sb se sw m T P) (h1 : Srt P) (h2 : ∀ p ∈ P, p < 262144) {bs : Nat} {Ps : List Nat} (hs : MapIs rdU w bs (whF Ps)) (hne : sw ≠ bs) (h3 : ∀ p ∈ Ps, p < 262144) :
    Calls Tryd.prog 28 #[.map (some sw), .map (some bs)] w fun e w' => e = .returned (.tuple #[]) ∧ ∃ P', Srt P' ∧ (∀ q, q ∈ P' ↔ q ∈ P ∨ q ∈ Ps) ∧ SetAt w' sb se sw m T P' ∧ Kept (Own sb se sw) w w' :=
  (copy_any h.wh hs hne h1 h2 h3).mono fun _ _ ⟨e1, P', e2, e3, e4, e5⟩ => ⟨e1, P', e2, e3, ⟨(e5.block sb h.lt h.nb.2).trans h.blk, h.ex.block (e5.block se h.ex.lt h.ne), e4, h.ne⟩, e5.mono (T := Own sb se sw) (fun _ e => .inr (.inr e))⟩

set_option maxHeartbeats 3200000 in
theorem or_ok {w : World} {ab ae aw bb be bw : Nat} {a b : Tset} (ha : StAt w ab ae aw a) (hb : StAt w bb be bw b) :
    Calls Tryd.prog 11 #[.pointer (some ⟨ab, 0, none⟩), .pointer (some ⟨bb, 0, none⟩)] w (MixPost (OrTo a b) w) := by
  have HU := Lib.hid (under_ok ha hb)
  have hal := ha.lts
  have hbl := hb.lts
  have HA := Lib.hid ha
  have HB := Lib.hid hb
  clear ha hb
  go_enter Tryd.func11, Tryd.ntmps11
  go_wp2_with fail
  refine HU.out.mono ?_
  rintro e w1 ⟨sb, se, sw, rfl, hs, hb1, g1, g2, g3⟩
  have hz1 := hb1.size
  have hsl := hs.lts
  have ha1 := HA.out.old hb1 hal.1 hal.2.1 hal.2.2
  have c4 := ha1.at_.c4
  have d4 := hs.at_.c4
  have HOWN : Hid (∀ k, Own sb se sw k → w.heap.size ≤ k ∧ k < w1.heap.size) := Lib.hid (by rintro k (rfl | rfl | rfl) <;> exact ⟨by assumption, by first | exact hsl.1 | exact hsl.2.1 | exact hsl.2.2⟩)
  have HB1 := Lib.hid hb1
  have HCP : Hid (∀ j, Calls Tryd.prog 28 #[.map (some sw), .map (some aw)] (w1.drewN j) fun e w' => e = .returned (.tuple #[]) ∧ Hid (∃ P', Srt P' ∧ (∀ q, q ∈ P' ↔ q ∈ a.P) ∧ SetAt w' sb se sw (min a.most b.most) [] P' ∧ Kept (Own sb se sw) w1 w')) := Lib.hid fun j =>
    (copy_set (hs.at_.below (belowDrewN w1 j)) List.Pairwise.nil (by simp) (ha1.below (belowDrewN w1 j)).at_.wh (by omega) HA.out.ok.raw.pl).mono fun e w' ⟨e1, P', e2, e3, e4, e5⟩ => ⟨e1, Lib.hid ⟨P', e2, fun q => by rw [e3]; simp, e4, (Kept.ofBelow (S := Own sb se sw) (belowDrewN w1 j)).trans e5 (fun _ e => .inl e)⟩⟩
  clear hs hb1 HU ha1
  go_wp2_with fail
  go_still_tail 8, (by kernel_rfl)
  go_wp2_with fail
  refine (HCP.out 1).mono ?_
  rintro e w2 ⟨rfl, HC⟩
  obtain ⟨PA, p1, p2, p3, p4⟩ := HC.out
  have hz2 := p4.size
  have hbo2 : Below w.heap.size w w2 := HB1.out.trans (p4.toBelow hz1 (fun k e => (HOWN.out k e).1))
  have hb2 := HB.out.old hbo2 hbl.1 hbl.2.1 hbl.2.2
  have c42 := hb2.at_.c4
  have d42 := p3.c4
  have HK2 := Lib.hid p4
  have hPA : ∀ p ∈ PA, p < 262144 := fun p hp => HA.out.ok.raw.pl p ((p2 p).1 hp)
  have HCP2 : Hid (∀ j, Calls Tryd.prog 28 #[.map (some sw), .map (some bw)] (w2.drewN j) fun e w' => e = .returned (.tuple #[]) ∧ Hid (∃ P', Srt P' ∧ (∀ q, q ∈ P' ↔ q ∈ a.P ∨ q ∈ b.P) ∧ SetAt w' sb se sw (min a.most b.most) [] P' ∧ Kept (Own sb se sw) w2 w')) := Lib.hid fun j =>
    (copy_set (p3.below (belowDrewN w2 j)) p1 hPA (hb2.below (belowDrewN w2 j)).at_.wh (by omega) HB.out.ok.raw.pl).mono fun e w' ⟨e1, P', e2, e3, e4, e5⟩ => ⟨e1, Lib.hid ⟨P', e2, fun q => by rw [e3, p2], e4, (Kept.ofBelow (S := Own sb se sw) (belowDrewN w2 j)).trans e5 (fun _ e => .inl e)⟩⟩
  clear p1 p2 p3 p4 hbo2 hb2 hPA HC HCP c4 d4
  go_wp2_with fail
  go_still_tail 8, (by kernel_rfl)
  go_wp2_with fail
  refine (HCP2.out 1).mono ?_
  rintro e wr ⟨rfl, HC⟩
  obtain ⟨P1, p1, p2, p3, p4⟩ := HC.out
  have HPQ : Hid (∀ q, q ∈ P1 ↔ q ∈ a.P ∨ q ∈ b.P) := Lib.hid p2
  have HR0 : Hid (Raw [] P1) := Lib.hid ⟨List.Pairwise.nil, p1, by simp, fun p hp => ((p2 p).1 hp).elim (HA.out.ok.raw.pl p) (HB.out.ok.raw.pl p), by simp⟩
  have HS1 := Lib.hid p3
  have HK1 : Hid (Kept (Own sb se sw) w1 wr) := Lib.hid (HK2.out.trans p4 (fun _ e => .inl e))
  have hzr := HK1.out.size
  clear p1 p2 p3 p4 HC HCP2 HK2 c42 d42
  obtain ⟨W4, hW4⟩ : ∃ W4, W4 = wr.alloc (.cells #[.pointer (some ⟨ab, 0, none⟩), .pointer (some ⟨bb, 0, none⟩)] 25) := ⟨_, rfl⟩
  have hb4 : Below wr.heap.size wr W4 := by rw [hW4]; exact (Below.refl _ _).alloc (Nat.le_refl _) _
  have hL : wr.heap.size < W4.heap.size := by rw [hW4]; simp
  have hS4 := HS1.out.below hb4
  have hk4 : Kept (Own sb se sw) w1 W4 := HK1.out.trans (Kept.ofBelow (S := fun _ => False) hb4) (fun _ e => e.elim)
  have hbo4 : Below w.heap.size w W4 := HB1.out.trans (hk4.toBelow hz1 (fun k e => (HOWN.out k e).1))
  have HA4 := Lib.hid (HA.out.old hbo4 hal.1 hal.2.1 hal.2.2)
  have HB4 := Lib.hid (HB.out.old hbo4 hbl.1 hbl.2.1 hbl.2.2)
  have hcl : ∀ j, W4.cell? ⟨wr.heap.size, j, none⟩ = (#[.pointer (some ⟨ab, 0, none⟩), .pointer (some ⟨bb, 0, none⟩)] : Array Value)[j]? := fun j => by rw [hW4]; exact Lib.cell_of_heap (heap_alloc_new wr _) j
  have HXS : Hid (∀ k, k < 2 → ∃ xb xe xw x, W4.cell? ⟨wr.heap.size, k, none⟩ = some (.pointer (some ⟨xb, 0, none⟩)) ∧ StAt W4 xb xe xw x ∧ (xb < w.heap.size ∧ xe < w.heap.size ∧ xw < w.heap.size) ∧ (k = 0 ∧ x = a ∨ k = 1 ∧ x = b)) := Lib.hid fun k hk => by
    rcases (by omega : k = 0 ∨ k = 1) with rfl | rfl
    · exact ⟨ab, ae, aw, a, hcl 0, HA4.out, hal, .inl ⟨rfl, rfl⟩⟩
    · exact ⟨bb, be, bw, b, hcl 1, HB4.out, hbl, .inr ⟨rfl, rfl⟩⟩
  have HS4 := Lib.hid hS4
  have HBO4 := Lib.hid hbo4
  have HW4 := Lib.hid hW4
  obtain ⟨L, hLe⟩ : ∃ L, L = wr.heap.size := ⟨_, rfl⟩
  rw [← hLe] at HXS hL hzr
  have HLE := Lib.hid hLe
  have hz4 : w1.heap.size ≤ W4.heap.size := by omega
  have HOL : Hid (∀ k, Own sb se sw k → k ≠ L) := Lib.hid fun k e e2 => by have := (HOWN.out k e).2; omega
  have HDEG : Hid (∀ T W, SetAt W sb se sw (min a.most b.most) T P1 → Raw T P1 → UUp a b P1 2 T → Kept (Own sb se sw) W4 W → Calls Tryd.prog 27 #[.pointer (some ⟨sb, 0, none⟩)] W fun e w' => e = .returned (.tuple #[]) ∧ Hid (∃ s, StAt w' sb se sw s ∧ OrTo a b s ∧ Below w.heap.size w w')) := Lib.hid fun T W hST hRT hT hK => by
    refine (degrade_any hST hRT (by have := HA.out.ok.most; omega)).mono ?_
    rintro e w' ⟨h1, T', P', hd, hS', hk'⟩
    have hand : OrTo a b ⟨min a.most b.most, T', P'⟩ := ⟨rfl, T, P1, ⟨hRT.st, hRT.sp, fun t => by
      rw [hT t, HPQ.out]
      simp [EitherT, EitherP], fun p => HPQ.out p⟩, hd⟩
    exact ⟨h1, Lib.hid ⟨_, ⟨hS', hand.ok HA.out.ok HB.out.ok⟩, hand, HBO4.out.trans ((hK.trans hk' (fun _ e => .inl e)).toBelow (by have := HBO4.out.size; omega) (fun k e => (HOWN.out k e).1))⟩⟩
  clear hb4 hS4 hk4 hbo4 hcl HS1 HK1 hW4 hLe
  go_wp2
  rw [← HW4.out, ← HLE.out]
  go_loopw [43] (fun i wr => ∃ (k : Nat) (T1 : List Nat), k ≤ 2 ∧ i = .int .i64 k ∧ Hid (SetAt wr sb se sw (min a.most b.most) T1 P1) ∧ Hid (Raw T1 P1) ∧ Hid (UUp a b P1 k T1) ∧ Hid (Kept (Own sb se sw) W4 wr)) (fun i _ => 2 - (intOf i).toNat)
  case atStart => exact ⟨0, [], by omega, rfl, HS4, HR0, Lib.hid (fun t => by simp), Lib.hid (Kept.refl _ _)⟩
  case round =>
    obtain ⟨k, T1, hk, rfl, HS1, HR1, HT1, HK1⟩ := hrel
    have hzr := HK1.out.size
    by_cases hlt : k < 2
    · obtain ⟨xb, xe, xw, x, hxc, hxs, hxl, hxk⟩ := HXS.out k hlt
      have hbr : Below w.heap.size w wr := HBO4.out.trans (HK1.out.toBelow (by omega) (fun k e => (HOWN.out k e).1))
      have hxr : StAt wr xb xe xw x := hxs.kept HK1.out (fun e => by have := (HOWN.out _ e).1; omega) (fun e => by have := (HOWN.out _ e).1; omega) (fun e => by have := (HOWN.out _ e).1; omega)
      have hxc2 := (World.cell?_of_block (a := ⟨L, k, none⟩) (HK1.out.block L hL (fun e => HOL.out _ e rfl))).trans hxc
      have hx3 := hxr.at_.c3
      obtain ⟨D2, hown2, h42⟩ := hxr.at_.ex
      have HRX : Hid (Reads D2 (exF x.T)) := Lib.hid h42
      have HX := Lib.hid hxr
      have HXK := Lib.hid hxk
      have HT0 : Hid (USo x P1 T1 (Maps.has D2) T1) := Lib.hid fun t => ⟨.inl, fun e => e.elim id (fun e => by rw [Reads.hasPl h42 hxr.ok.raw.tl (fun e0 => pl_zero.1 e0 t e.1.1 rfl)] at e; cases e.2)⟩
      have hki : (k : Int) < 2 := by omega
      clear hxs hbr hxr hxc hxk h42
      go_wp2_with (first
        | (at_range; refine wpList_range_own _ rfl _ 42 rfl 3 56 keyI Tryd.underlying42 _ xe _ _ rfl hown2 ?_; intro w0 hrg0 hg0 hs0)
        | go_in)
      go_frame
      obtain ⟨r, hre⟩ : ∃ r, r = wr.heap.size := ⟨_, rfl⟩
      rw [← hre] at hrg0 hs0 hzr ⊢
      obtain ⟨wq, hwq⟩ : ∃ wq, wq = wr := ⟨_, rfl⟩
      rw [← hwq] at hg0 HS1 HK1 HX
      have HK0 : Hid (Kept (Own sb se sw) W4 w0) := Lib.hid (HK1.out.trans (Kept.ofBelow (S := fun _ => False) (grown_none hg0)) (fun _ e => e.elim))
      have HS0 := Lib.hid (HS1.out.below (grown_none hg0))
      have hxlt : xe < w0.heap.size := by omega
      have hro : ∀ k, Own sb se sw k → k ≠ r := fun k e e2 => by have := (HOWN.out k e).2; omega
      have hxo : ∀ k, Own sb se sw k → k ≠ xe := fun k e e2 => by have := (HOWN.out k e).1; omega
      have HRO := Lib.hid hro
      have HXO := Lib.hid hxo
      have hrz : w1.heap.size ≤ r := by omega
      clear hg0 hs0 HS1 HK1 hro hxo hwq hre
      go_loopw [10] (fun _ wr => ∃ (left : Lit → Bool) (cn : Nat) (T2 : List Nat), wr.ranges Tryd.prog 3 rdPl xe r (Maps.size D2) D2 left cn ∧ Hid (USo x P1 T1 left T2) ∧ Hid (SetAt wr sb se sw (min a.most b.most) T2 P1) ∧ Hid (Raw T2 P1) ∧ Hid (Kept (Own sb se sw) W4 wr))
        (fun _ wr => wr.rangeLeft xe r)
      case atStart => exact ⟨_, _, T1, hrg0, HT0, HS0, HR1, HK0⟩
      case round =>
        obtain ⟨left, cn, T2, hrg, HT2, HS2, HR2, HK2⟩ := hrel
        clear hrg0
        have hzr2 := HK2.out.size
        go_wp2_with (first
          | (at_next; refine wpList_next_ranges_ii _ rfl _ rfl 3 56 .i64 .u64 keyI Tryd.underlying3 Tryd.underlying56 xe r _ _ _ _ rfl hrg ?_ ?_)
          | go_in)
        · intro _ hl0
          have HTU := Lib.hid (UUp.next HT1.out HXK.out HT2.out hl0)
          clear hl0 hrg
          go_wp2
          go_roundw
          case rel => exact ⟨k + 1, T2, by omega, by go_num, HS2, HR2, HTU, HK2⟩
          case measure => simp [intOf]; omega
        · intro y c w2 cn1 hwy hwc hly hat hrg1 hltc hg1 hs1 hen
          obtain ⟨q, rfl, hq, hq0, rfl⟩ := HRX.out.ePl HX.out.ok.raw.tl hwy hat
          have hr1 := hrg1.lt
          have hx1 := hrg1.owns.lt
          have hk2 : Kept (Own sb se sw) W4 w2 := by
            refine HK2.out.trans (Kept.ofGrown (S := fun k => k = r) hg1 (fun k e => by injection e with e; exact e.symm)) (fun k e => .inr ?_)
            subst e; omega
          have hS2 : SetAt w2 sb se sw (min a.most b.most) T2 P1 := HS2.out.blocks (hg1.block sb HS2.out.lt (by simp; omega)) (hg1.block se HS2.out.ex.lt (by simp; omega)) (hg1.block sw HS2.out.wh.lt (by simp; omega))
          have HRM : Hid (∀ w' : World, w'.heap[xe]? = w2.heap[xe]? → w'.heap[r]? = w2.heap[r]? → w'.ranges Tryd.prog 3 rdPl xe r (Maps.size D2) D2 (fun z => left z && !z.sameKey (.int .i64 (q : Int))) cn1 ∧ w'.rangeLeft xe r < wr.rangeLeft xe r) := Lib.hid fun w' e1 e2 => by
            have := ranges_block hrg1 e1 e2
            exact ⟨this, by rw [this.left_eq, hrg.left_eq]; exact hltc⟩
          have HTT : Hid (∀ T', (∀ t, t ∈ T' ↔ t ∈ T2 ∨ q ∉ P1 ∧ t / 64 = q ∧ (pl x.T q).testBit (t % 64) = true) → USo x P1 T1 (fun z => left z && !z.sameKey (.int .i64 (q : Int))) T') := Lib.hid fun T' h => HT2.out.turn h
          have HPU : Hid (Calls Tryd.prog 26 #[.pointer (some ⟨sb, 0, none⟩), .int .i64 q, .int .u64 ((pl x.T q : Nat) : Int)] w2 fun e w' => e = .returned (.tuple #[]) ∧ Hid (PutPost sb se sw (min a.most b.most) T2 P1 q (pl x.T q) w2 w')) := Lib.hid
            ((put_st hS2 HR2.out q _ hq (pl_lt _ _) hq0).mono fun e w' h => ⟨h.1, Lib.hid h.2⟩)
          have HK3 := Lib.hid hk2
          obtain ⟨pv, hpv⟩ : ∃ v, v = pl x.T q := ⟨_, rfl⟩
          rw [← hpv] at hen HPU HTT
          clear hat hly hwy hwc hrg hrg1 hltc hg1 hs1 hS2 hq0 hk2 hpv HT2 HS2 HK2
          go_wp2_with fail
          refine HPU.out.mono ?_
          rintro e w5 ⟨rfl, HPP⟩
          obtain ⟨T3, f1, f2, f3, f4⟩ := HPP.out
          have HE := HRM.out w5 (f4.block xe hx1 (fun e => HXO.out _ e rfl)) (f4.block r hr1 (fun e => HRO.out _ e rfl))
          have HRG := Lib.hid HE.1
          have HME := Lib.hid HE.2
          have HTN := Lib.hid (HTT.out T3 f3)
          have HSN := Lib.hid f1
          have HRN := Lib.hid f2
          have HKN : Hid (Kept (Own sb se sw) W4 w5) := Lib.hid (HK3.out.trans f4 (fun _ e => .inl e))
          clear HE f1 f2 f3 f4 HPP HPU
          go_wp2
          go_roundw
          case rel => exact ⟨_, _, T3, HRG.out, HTN, HSN, HRN, HKN⟩
          case measure => exact HME.out
    · have hk2 : k = 2 := by omega
      subst hk2
      have HDG := Lib.hid (HDEG.out T1 wr HS1.out HR1.out HT1.out HK1.out)
      clear HS1 HR1 HT1 HK1
      go_wp2_with fail
      refine HDG.out.mono ?_
      rintro e w5 ⟨rfl, HE⟩
      obtain ⟨s, e1, e2, e3⟩ := HE.out
      have HE2 : Hid (MixPost (OrTo a b) w (.returned (.tuple #[.pointer (some ⟨sb, 0, none⟩), .int .i64 0])) w5) := Lib.hid ⟨sb, se, sw, s, rfl, e1, e2, e3, g1, g2, g3⟩
      clear e1 e2 e3 HE
      go_wp2
      go_ret2
      exact HE2.out
end Go.Proofs.YtpjpkpbfbbpmdaaDoor.Ts
