/- TidsetHolds' walk. -/
import Derived.Test.YtpjpkpbfbbpmdaaDoorTTC
set_option maxRecDepth 100000
namespace Go.Proofs.YtpjpkpbfbbpmdaaDoor.Ts
open Go Go.RowKit

theorem and_hasB {a b s : Tset} (h : AndTo a b s) {t : Int} (h1 : hasB a t = true) (h2 : hasB b t = true) : hasB s t = true :=
  hasB_iff.2 ⟨(hasB_iff.1 h1).1, h.has (hasB_iff.1 h1).2 (hasB_iff.1 h2).2⟩
theorem or_hasB {a b s : Tset} (h : OrTo a b s) {t : Int} (h1 : hasB a t = true ∨ hasB b t = true) : hasB s t = true := by
  rcases h1 with h1 | h1
  · exact hasB_iff.2 ⟨(hasB_iff.1 h1).1, h.has (.inl (hasB_iff.1 h1).2)⟩
  · exact hasB_iff.2 ⟨(hasB_iff.1 h1).1, h.has (.inr (hasB_iff.1 h1).2)⟩
theorem and_onlyB {a b s : Tset} (h : AndTo a b s) (hP : s.P = []) {t : Int} (h1 : hasB s t = true) : hasB a t = true ∧ hasB b t = true := by
  have := h.only hP (hasB_iff.1 h1).2
  exact ⟨hasB_iff.2 ⟨(hasB_iff.1 h1).1, this.1⟩, hasB_iff.2 ⟨(hasB_iff.1 h1).1, this.2⟩⟩
theorem or_onlyB {a b s : Tset} (h : OrTo a b s) (hP : s.P = []) {t : Int} (h1 : hasB s t = true) : hasB a t = true ∨ hasB b t = true :=
  (h.only hP (hasB_iff.1 h1).2).imp (fun e => hasB_iff.2 ⟨(hasB_iff.1 h1).1, e⟩) (fun e => hasB_iff.2 ⟨(hasB_iff.1 h1).1, e⟩)
/-- Has, as it is met in a walk. -/
theorem has_in {W0 : World} {b be bw : Nat} {s : Tset} (h : StAt W0 b be bw s) (t : Int) (W : World) (hW : Below W0.heap.size W0 W) :
    Calls Tryd.prog 17 #[.pointer (some ⟨b, 0, none⟩), .int .i64 t] W fun e w' => e = .returned (.bool (hasB s t)) ∧ Below W0.heap.size W0 w' :=
  (has_any (h.below hW) t).mono fun _ _ ⟨h1, h2⟩ => ⟨h1, bel3 hW h2⟩
theorem told_len {W0 : World} {l : List Nat} {f : Nat} {args : Array Value} {W : World} (h : Calls Tryd.prog f args W (Told l W)) (hW : Below W0.heap.size W0 W) :
    Calls Tryd.prog f args W fun e w' => ∃ a c, e = .returned (.slice a l.length c) ∧ Below W0.heap.size W0 w' := h.mono fun e w' ⟨v, h1, h2, h3⟩ => by
  obtain ⟨a, c, rfl⟩ := h2.shape
  exact ⟨a, c, h1, bel3 hW h3⟩

set_option maxHeartbeats 6400000 in
theorem holds14_walk (a : Option Addr) (xs : List Int) (c : Nat) (a' : Option Addr) (ys : List Int) (c' : Nat) (ma mb : Int) (w : World) (hT : Tab w) (hx : ZV w a xs) (hy : ZV w a' ys) (hn : xs.length ≤ 9223372036854775807) (hn' : ys.length ≤ 9223372036854775807) (la : Option Addr) (zs : List Int) (lc : Nat) (hz : ZV w la zs) (hnz : zs.length ≤ 9223372036854775807) :
    Calls Tryd.prog 4 #[.agg #[.slice a xs.length c, .slice a' ys.length c', .int .i64 ma, .int .i64 mb], .slice la zs.length lc] w fun e w' => e = .returned (.bool true) ∧ Below w.heap.size w w' := by
  have HT := Lib.hid hT
  have h1 := hT.1
  obtain ⟨n, hne⟩ : ∃ n, n = xs.length := ⟨_, rfl⟩
  obtain ⟨m, hme⟩ : ∃ m, m = ys.length := ⟨_, rfl⟩
  rw [← hne] at hn ⊢
  rw [← hme] at hn' ⊢
  obtain ⟨W0, hW0⟩ : ∃ W0, W0 = w.alloc (.cells #[.slice a n c, .slice a' m c', .int .i64 ma, .int .i64 mb] 24) := ⟨_, rfl⟩
  have hb0 : Below w.heap.size w W0 := by rw [hW0]; exact (Below.refl _ _).alloc (Nat.le_refl _) _
  have hz0 : W0.heap.size = w.heap.size + 1 := by rw [hW0]; simp
  have HZ : Hid (ZV W0 la zs) := Lib.hid (hz.below hb0)
  obtain ⟨zn, hzn⟩ : ∃ zn, zn = zs.length := ⟨_, rfl⟩
  rw [← hzn] at hnz ⊢
  have HZN := Lib.hid hzn
  clear hz hzn
  have HBX := Lib.hid (box_two w (.slice a n c) (.slice a' m c') (.int .i64 ma) (.int .i64 mb) 24)
  rw [← hW0] at HBX
  obtain ⟨B, hB⟩ : ∃ B, B = w.heap.size := ⟨_, rfl⟩
  rw [← hB] at HBX hz0
  obtain ⟨d0, d1, d2, d3⟩ := HBX.out W0 (Below.refl _ _)
  have HMA := Lib.hid (made_any ma a xs n c W0 hne (hx.below hb0) hn (hT.below hb0 h1))
  have HMB : Hid (∀ W, Below W0.heap.size W0 W → Calls Tryd.prog 9 #[.int .i64 mb, .slice a' m c'] W (MadeAny mb ys W)) := Lib.hid fun W hW => made_any mb a' ys m c' W hme (hy.below (bel3 hb0 hW)) hn' (hT.below (bel3 hb0 hW) h1)
  have HB0 := Lib.hid hb0
  have HW0 := Lib.hid hW0
  have HBE := Lib.hid hB
  clear hT hx hy hne hme hb0 hW0 hB
  go_enter Tryd.func4, Tryd.ntmps4
  go_wp2_with fail
  rw [← HW0.out, ← HBE.out]
  refine HMA.out.mono ?_
  rintro e w1 (⟨ab, ae, aw, sa, a1, n1, c1, a2, n2, c2, rfl, HA⟩ | ⟨rfl, HA⟩)
  · have hbA : Below W0.heap.size W0 w1 := HA.out.2.2.2.2
    have hbA2 : Below (B + 1) W0 (w1.alloc (.cells #[.int .i64 ((sa.most : Nat) : Int), .slice a1 n1 c1, .slice a2 n2 c2] 27)) := (hbA.mono (by omega)).alloc (by have := hbA.size; omega) _
    obtain ⟨W2, hW2⟩ : ∃ W2, W2 = w1.alloc (.cells #[.int .i64 ((sa.most : Nat) : Int), .slice a1 n1 c1, .slice a2 n2 c2] 27) := ⟨_, rfl⟩
    have hb12 : Below w1.heap.size w1 W2 := by rw [hW2]; exact (Below.refl _ _).alloc (Nat.le_refl _) _
    rw [← hW2] at hbA2
    have hbA3 : Below W0.heap.size W0 W2 := bel3 hbA hb12
    obtain ⟨d0, d1, d2, d3⟩ := HBX.out w1 (hbA.mono (by omega))
    have hBw : B < w1.heap.size := by have := hbA.size; omega
    have HMB2 := Lib.hid (HMB.out W2 hbA3)
    have HB2 := Lib.hid (bel3 HB0.out hbA3)
    have HW2 := Lib.hid hW2
    have HB12 := Lib.hid hb12
    clear hbA hbA2 hbA3 hW2 hb12
    go_wp2_with fail
    rw [← HW2.out]
    refine HMB2.out.mono ?_
    rintro e w3 (⟨bb, be, bw, sb, a3, n3, c3, a4, n4, c4, rfl, HBB⟩ | ⟨rfl, HBB⟩)
    · obtain ⟨W4, hW4⟩ : ∃ W4, W4 = w3.alloc (.cells #[.int .i64 ((sb.most : Nat) : Int), .slice a3 n3 c3, .slice a4 n4 c4] 27) := ⟨_, rfl⟩
      have hb34 : Below w3.heap.size w3 W4 := by rw [hW4]; exact (Below.refl _ _).alloc (Nat.le_refl _) _
      have HB34 := Lib.hid hb34
      have HW4 := Lib.hid hW4
      have HB4 := Lib.hid (bel3 (bel3 HB2.out HBB.out.2.2.2.2) hb34)
      clear hW4 hb34
      have HSA : Hid (StAt W4 ab ae aw sa) := Lib.hid (((HA.out.2.1.below HB12.out).below HBB.out.2.2.2.2).below HB34.out)
      have HSB : Hid (StAt W4 bb be bw sb) := Lib.hid (HBB.out.2.1.below HB34.out)
      have HC0 : Hid (Below W4.heap.size W4 W4) := Lib.hid (Below.refl _ _)
      have HM1 := Lib.hid (and_ok (HSA.out.below HC0.out) (HSB.out.below HC0.out))
      go_wp2_with fail
      rw [← HW4.out]
      refine HM1.out.mono ?_
      rintro e x1 ⟨s1b, s1e, s1w, s1, rfl, t1, r1, hb1, _⟩
      have HC1 := Lib.hid (bel3 HC0.out hb1)
      have HS1 := Lib.hid t1
      have HR1 := Lib.hid r1
      have HD1 := Lib.hid hb1
      clear t1 r1 hb1 HM1
      have HM2 := Lib.hid (or_ok (HSA.out.below HC1.out) (HSB.out.below HC1.out))
      go_wp2_with fail
      refine HM2.out.mono ?_
      rintro e x2 ⟨s2b, s2e, s2w, s2, rfl, t2, r2, hb2, _⟩
      have HC2 := Lib.hid (bel3 HC1.out hb2)
      have HS2 := Lib.hid t2
      have HR2 := Lib.hid r2
      have HD2 := Lib.hid hb2
      clear t2 r2 hb2 HM2
      have HX1 : Hid (StAt x2 s1b s1e s1w s1) := Lib.hid (HS1.out.below HD2.out)
      have HXA : Hid (StAt x2 ab ae aw sa) := Lib.hid (HSA.out.below HC2.out)
      have HXB : Hid (StAt x2 bb be bw sb) := Lib.hid (HSB.out.below HC2.out)
      have HXD := HS2
      have hbx := Below.refl x2.heap.size x2
      have HBX2 : Hid (∀ W, Below x2.heap.size x2 W → Below W0.heap.size W0 W ∧ Below w.heap.size w W ∧ Tab W ∧ W.cell? ⟨B, 2, none⟩ = some (.int .i64 ma) ∧ W.cell? ⟨B, 3, none⟩ = some (.int .i64 mb)) := Lib.hid fun W hW => by
        have hw : Below w1.heap.size w1 W := bel3 (bel3 (bel3 (bel3 HB12.out HBB.out.2.2.2.2) HB34.out) HC2.out) hW
        have hw0 : Below W0.heap.size W0 W := bel3 HA.out.2.2.2.2 hw
        have hw9 := bel3 HB0.out hw0
        obtain ⟨_, _, x, y⟩ := HBX.out W (hw0.mono (by omega))
        exact ⟨hw0, hw9, HT.out.below hw9 h1, x, y⟩
      have HPG1 : Hid (∀ W, Below x2.heap.size x2 W → Calls Tryd.prog 16 #[.pointer (some ⟨s1b, 0, none⟩)] W fun e w' => ∃ a c, e = .returned (.slice a s1.P.length c) ∧ Below x2.heap.size x2 w') := Lib.hid fun W hW => told_len (pages_any (HX1.out.below hW)) hW
      have HPG2 : Hid (∀ W, Below x2.heap.size x2 W → Calls Tryd.prog 16 #[.pointer (some ⟨s2b, 0, none⟩)] W fun e w' => ∃ a c, e = .returned (.slice a s2.P.length c) ∧ Below x2.heap.size x2 w') := Lib.hid fun W hW => told_len (pages_any (HXD.out.below hW)) hW
      have HTD1 : Hid (∀ W, Below x2.heap.size x2 W → Calls Tryd.prog 18 #[.pointer (some ⟨s1b, 0, none⟩)] W fun e w' => ∃ a c, e = .returned (.slice a s1.T.length c) ∧ Below x2.heap.size x2 w') := Lib.hid fun W hW => told_len (tids_any (HX1.out.below hW) (HBX2.out W hW).2.2.1) hW
      have HTD2 : Hid (∀ W, Below x2.heap.size x2 W → Calls Tryd.prog 18 #[.pointer (some ⟨s2b, 0, none⟩)] W fun e w' => ∃ a c, e = .returned (.slice a s2.T.length c) ∧ Below x2.heap.size x2 w') := Lib.hid fun W hW => told_len (tids_any (HXD.out.below hW) (HBX2.out W hW).2.2.1) hW
      have HAWK : Hid (∀ W, Below x2.heap.size x2 W → Calls Tryd.prog 12 #[] W fun e w' => e = .returned (.bool true) ∧ Below x2.heap.size x2 w') := Lib.hid fun W hW => (awake14 W (HBX2.out W hW).2.2.1).mono fun _ _ ⟨e1, e2⟩ => ⟨e1, bel3 hW e2⟩
      have hp1 := HX1.out.few.2
      have hp2 := HXD.out.few.2
      have hle1 : ((s1.T.length : Nat) : Int) ≤ min ma mb := by
        have e1 := HX1.out.ok.few
        rw [HR1.out.1, HA.out.2.2.2.1.most, HBB.out.2.2.2.1.most] at e1
        have e2 := HA.out.1; have e3 := HBB.out.1
        simp only [] at e1
        omega
      have hle2 : ((s2.T.length : Nat) : Int) ≤ min ma mb := by
        have e1 := HXD.out.ok.few
        rw [HR2.out.1, HA.out.2.2.2.1.most, HBB.out.2.2.2.1.most] at e1
        have e2 := HA.out.1; have e3 := HBB.out.1
        simp only [] at e1
        omega
      have HEX : Hid (s1.P.length = 0 → s2.P.length = 0 → s1.P = [] ∧ s2.P = []) := Lib.hid fun e1 e2 => ⟨List.eq_nil_of_length_eq_zero e1, List.eq_nil_of_length_eq_zero e2⟩
      obtain ⟨p1, hp1e⟩ : ∃ p, p = s1.P.length := ⟨_, rfl⟩
      obtain ⟨p2, hp2e⟩ : ∃ p, p = s2.P.length := ⟨_, rfl⟩
      obtain ⟨t1, ht1e⟩ : ∃ p, p = s1.T.length := ⟨_, rfl⟩
      obtain ⟨t2, ht2e⟩ : ∃ p, p = s2.T.length := ⟨_, rfl⟩
      rw [← hp1e] at hp1 HPG1 HEX
      rw [← hp2e] at hp2 HPG2 HEX
      rw [← ht1e] at hle1 HTD1
      rw [← ht2e] at hle2 HTD2
      clear hp1e hp2e ht1e ht2e
      have HJ : Hid (∀ t, ∃ ha hb hc hd : Bool, (∀ W, Below x2.heap.size x2 W → Calls Tryd.prog 17 #[.pointer (some ⟨ab, 0, none⟩), .int .i64 t] W fun e w' => e = .returned (.bool ha) ∧ Below x2.heap.size x2 w') ∧ (∀ W, Below x2.heap.size x2 W → Calls Tryd.prog 17 #[.pointer (some ⟨bb, 0, none⟩), .int .i64 t] W fun e w' => e = .returned (.bool hb) ∧ Below x2.heap.size x2 w') ∧
          (∀ W, Below x2.heap.size x2 W → Calls Tryd.prog 17 #[.pointer (some ⟨s1b, 0, none⟩), .int .i64 t] W fun e w' => e = .returned (.bool hc) ∧ Below x2.heap.size x2 w') ∧ (∀ W, Below x2.heap.size x2 W → Calls Tryd.prog 17 #[.pointer (some ⟨s2b, 0, none⟩), .int .i64 t] W fun e w' => e = .returned (.bool hd) ∧ Below x2.heap.size x2 w') ∧
          (ha = true → hb = true → hc = true) ∧ (ha = true ∨ hb = true → hd = true) ∧ (p1 = 0 → p2 = 0 → (hc = true → ha = true ∧ hb = true) ∧ (hd = true → ha = true ∨ hb = true))) := Lib.hid fun t =>
        ⟨hasB sa t, hasB sb t, hasB s1 t, hasB s2 t, has_in HXA.out t, has_in HXB.out t, has_in HX1.out t, has_in HXD.out t, fun e1 e2 => and_hasB HR1.out e1 e2, fun e => or_hasB HR2.out e, fun e1 e2 => ⟨and_onlyB HR1.out (HEX.out e1 e2).1, or_onlyB HR2.out (HEX.out e1 e2).2⟩⟩
      have HRT : Hid (∀ W, Below x2.heap.size x2 W → Below w.heap.size w W) := Lib.hid fun W hW => (HBX2.out W hW).2.1
      have HZW : Hid (∀ W, Below x2.heap.size x2 W → ZV W la zs) := Lib.hid fun W hW => HZ.out.below (HBX2.out W hW).1
      obtain ⟨M, hM⟩ : ∃ M, min ma mb = M := ⟨_, rfl⟩
      rw [hM] at hle1 hle2
      have hd1 : decide (((t1 : Nat) : Int) ≤ M) = true := decide_eq_true hle1
      have hd2 : decide (((t2 : Nat) : Int) ≤ M) = true := decide_eq_true hle2
      obtain ⟨ex, hex⟩ : ∃ ex : Bool, (((p1 : Nat) : Int) + ((p2 : Nat) : Int) == 0) = ex := ⟨_, rfl⟩
      have HEX2 : Hid (ex = true → p1 = 0 ∧ p2 = 0) := Lib.hid fun e => by
        rw [e] at hex
        have := of_decide_eq_true hex
        omega
      clear HMA HMB HMB2 HA HBB HSA HSB HS1 HS2 HD1 HD2 HC0 HC1 HC2 HB12 HB34 HR1 HR2 HX1 HXA HXB HXD HEX
      go_wp2_with (first
        | (go_at_call_of 16 s1b; refine (HPG1.out _ (by assumption)).mono ?_; rintro e y1 ⟨a5, c5, rfl, hb5⟩)
        | (go_at_call_of 16 s2b; refine (HPG2.out _ (by assumption)).mono ?_; rintro e y2 ⟨a6, c6, rfl, hb6⟩))
      clear hex hb5
      go_loopw [16] (fun v wr => ∃ k : Nat, k ≤ zn ∧ v = .int .i64 k ∧ Hid (Below x2.heap.size x2 wr)) (fun v _ => zn - (intOf v).toNat)
      case atStart => exact ⟨0, by omega, rfl, Lib.hid hb6⟩
      case round =>
        clear hb6
        obtain ⟨k, hk, rfl, HBR⟩ := hrel
        by_cases hlt : k < zn
        · have hlt' : k < zs.length := by rw [← HZN.out]; exact hlt
          obtain ⟨zb, zo, rfl, hzl, cz⟩ := (HZW.out _ HBR.out).at hlt'
          obtain ⟨t, ht⟩ : ∃ t, t = zs[k] := ⟨_, rfl⟩
          rw [← ht] at cz
          clear ht
          obtain ⟨ha, hb, hc, hd, ja, jb, jc, jd, q1, q2, q3⟩ := HJ.out t
          have JA := Lib.hid ja
          have JB := Lib.hid jb
          have JC := Lib.hid jc
          have JD := Lib.hid jd
          have hq3 : ex = true → (hc = true → ha = true ∧ hb = true) ∧ (hd = true → ha = true ∨ hb = true) := fun e => q3 (HEX2.out e).1 (HEX2.out e).2
          have hki : (k : Int) < (zn : Int) := by omega
          have hbr := HBR.out
          clear ja jb jc jd q3
          cases ha <;> cases hb <;> cases hc <;> cases hd <;> cases ex
          all_goals first
            | (exfalso; simp at q1 q2 hq3; done)
            | (exfalso; revert q1 q2 hq3; decide)
            | (clear q1 q2 hq3
               go_wp2_with (first
                | (go_at_call_of 17 ab; refine (JA.out _ (by assumption)).mono ?_; rintro e y ⟨rfl, hby⟩)
                | (go_at_call_of 17 bb; refine (JB.out _ (by assumption)).mono ?_; rintro e y ⟨rfl, hby⟩)
                | (go_at_call_of 17 s1b; refine (JC.out _ (by assumption)).mono ?_; rintro e y ⟨rfl, hby⟩)
                | (go_at_call_of 17 s2b; refine (JD.out _ (by assumption)).mono ?_; rintro e y ⟨rfl, hby⟩))
               go_roundw
               case rel => exact ⟨k + 1, by omega, by go_num, Lib.hid (by assumption)⟩
               case measure => simp [intOf]; omega)
        · have hbr := HBR.out
          obtain ⟨_, _, _, x23, y23⟩ := HBX2.out _ hbr
          obtain ⟨VV, hVV⟩ : ∃ VV, VV = wr := ⟨_, rfl⟩
          rw [← hVV] at x23 y23 hbr
          have HVV := Lib.hid hVV
          have HKP : Hid (∀ W, Below x2.heap.size x2 W → W.cell? ⟨B, 2, none⟩ = some (.int .i64 ma) ∧ W.cell? ⟨B, 3, none⟩ = some (.int .i64 mb)) := Lib.hid fun W hW => (HBX2.out W hW).2.2.2
          clear hVV
          go_wp2_with fail
          rw [← HVV.out]
          go_region_held3 (fun w' => w'.cell? ⟨B, 2, none⟩ = some (.int .i64 ma) ∧ w'.cell? ⟨B, 3, none⟩ = some (.int .i64 mb)) ((refine HKP.out _ ?_; first | assumption | exact hbr.drew))
            (first
            | (go_at_call_of 18 s1b; refine (HTD1.out _ (by first | assumption | exact hbr.drew)).mono ?_; rintro e y1 ⟨a5, c5, rfl, hb5⟩)
            | (go_at_call_of 18 s2b; refine (HTD2.out _ (by first | assumption | exact hbr.drew)).mono ?_; rintro e y2 ⟨a6, c6, rfl, hb6⟩)
            | (go_at_call 12; refine (HAWK.out _ (by first | assumption | exact hbr.drew)).mono ?_; rintro e y3 ⟨rfl, hb7⟩))
          all_goals
            have HF := Lib.hid (HRT.out _ hb7)
            go_wp2
            go_ret
            exact ⟨rfl, HF.out⟩
    · obtain ⟨W4, hW4⟩ : ∃ W4, W4 = w3.alloc (.cells #[.int .i64 0, .slice none 0 0, .slice none 0 0] 27) := ⟨_, rfl⟩
      have hb34 : Below w3.heap.size w3 W4 := by rw [hW4]; exact (Below.refl _ _).alloc (Nat.le_refl _) _
      have HB34 := Lib.hid hb34
      have HW4 := Lib.hid hW4
      have HB4 := Lib.hid (bel3 (bel3 HB2.out HBB.out.2) hb34)
      clear hW4 hb34
      have HAW := Lib.hid (awake14 W4 (HT.out.below HB4.out h1))
      go_wp2_with fail
      rw [← HW4.out]
      refine HAW.out.mono ?_
      rintro e w9 ⟨rfl, hb9⟩
      have HE := Lib.hid (bel3 HB4.out hb9)
      clear hb9
      go_wp2
      go_ret
      exact ⟨rfl, HE.out⟩
  · have hbA : Below W0.heap.size W0 w1 := HA.out.2
    have hbA2 : Below (B + 1) W0 (w1.alloc (.cells #[.int .i64 0, .slice none 0 0, .slice none 0 0] 27)) := (hbA.mono (by omega)).alloc (by have := hbA.size; omega) _
    obtain ⟨W2, hW2⟩ : ∃ W2, W2 = w1.alloc (.cells #[.int .i64 0, .slice none 0 0, .slice none 0 0] 27) := ⟨_, rfl⟩
    have hb12 : Below w1.heap.size w1 W2 := by rw [hW2]; exact (Below.refl _ _).alloc (Nat.le_refl _) _
    rw [← hW2] at hbA2
    have hbA3 : Below W0.heap.size W0 W2 := bel3 hbA hb12
    obtain ⟨d0, d1, d2, d3⟩ := HBX.out w1 (hbA.mono (by omega))
    have hBw : B < w1.heap.size := by have := hbA.size; omega
    have HMB2 := Lib.hid (HMB.out W2 hbA3)
    have HB2 := Lib.hid (bel3 HB0.out hbA3)
    have HW2 := Lib.hid hW2
    have HB12 := Lib.hid hb12
    clear hbA hbA2 hbA3 hW2 hb12
    go_wp2_with fail
    rw [← HW2.out]
    refine HMB2.out.mono ?_
    rintro e w3 (⟨bb, be, bw, sb, a3, n3, c3, a4, n4, c4, rfl, HBB⟩ | ⟨rfl, HBB⟩)
    · obtain ⟨W4, hW4⟩ : ∃ W4, W4 = w3.alloc (.cells #[.int .i64 ((sb.most : Nat) : Int), .slice a3 n3 c3, .slice a4 n4 c4] 27) := ⟨_, rfl⟩
      have hb34 : Below w3.heap.size w3 W4 := by rw [hW4]; exact (Below.refl _ _).alloc (Nat.le_refl _) _
      have HB34 := Lib.hid hb34
      have HW4 := Lib.hid hW4
      have HB4 := Lib.hid (bel3 (bel3 HB2.out HBB.out.2.2.2.2) hb34)
      clear hW4 hb34
      have HAW := Lib.hid (awake14 W4 (HT.out.below HB4.out h1))
      go_wp2_with fail
      rw [← HW4.out]
      refine HAW.out.mono ?_
      rintro e w9 ⟨rfl, hb9⟩
      have HE := Lib.hid (bel3 HB4.out hb9)
      clear hb9
      go_wp2
      go_ret
      exact ⟨rfl, HE.out⟩
    · obtain ⟨W4, hW4⟩ : ∃ W4, W4 = w3.alloc (.cells #[.int .i64 0, .slice none 0 0, .slice none 0 0] 27) := ⟨_, rfl⟩
      have hb34 : Below w3.heap.size w3 W4 := by rw [hW4]; exact (Below.refl _ _).alloc (Nat.le_refl _) _
      have HB34 := Lib.hid hb34
      have HW4 := Lib.hid hW4
      have HB4 := Lib.hid (bel3 (bel3 HB2.out HBB.out.2) hb34)
      clear hW4 hb34
      have HAW := Lib.hid (awake14 W4 (HT.out.below HB4.out h1))
      go_wp2_with fail
      rw [← HW4.out]
      refine HAW.out.mono ?_
      rintro e w9 ⟨rfl, hb9⟩
      have HE := Lib.hid (bel3 HB4.out hb9)
      clear hb9
      go_wp2
      go_ret
      exact ⟨rfl, HE.out⟩
end Go.Proofs.YtpjpkpbfbbpmdaaDoor.Ts
