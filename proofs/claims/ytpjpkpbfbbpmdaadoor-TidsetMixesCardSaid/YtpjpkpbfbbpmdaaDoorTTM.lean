/- TidsetMixes' walk. -/
import Derived.Test.YtpjpkpbfbbpmdaaDoorTTL
set_option maxRecDepth 100000
namespace Go.Proofs.YtpjpkpbfbbpmdaaDoor.Ts
open Go Go.RowKit

set_option maxHeartbeats 6400000 in
theorem mixes14_walk (a : Option Addr) (xs : List Int) (c : Nat) (a' : Option Addr) (ys : List Int) (c' : Nat) (ma mb : Int) (w : World) (hT : Tab w) (hx : ZV w a xs) (hy : ZV w a' ys) (hn : xs.length ≤ 9223372036854775807) (hn' : ys.length ≤ 9223372036854775807) (la : Option Addr) (zs : List Int) (lc : Nat) (hz : ZV w la zs) (hnz : zs.length ≤ 9223372036854775807) :
    Calls Tryd.prog 3 #[.agg #[.slice a xs.length c, .slice a' ys.length c', .int .i64 ma, .int .i64 mb], .slice la zs.length lc] w fun e w' => e = .returned (.bool true) ∧ Below w.heap.size w w' := by
  have HT := Lib.hid hT
  have h1 := hT.1
  obtain ⟨n, hne⟩ : ∃ n, n = xs.length := ⟨_, rfl⟩
  obtain ⟨m, hme⟩ : ∃ m, m = ys.length := ⟨_, rfl⟩
  rw [← hne] at hn ⊢
  rw [← hme] at hn' ⊢
  obtain ⟨W0, hW0⟩ : ∃ W0, W0 = w.alloc (.cells #[.slice a n c, .slice a' m c', .int .i64 ma, .int .i64 mb] 24) := ⟨_, rfl⟩
  have hb0 : Below w.heap.size w W0 := by rw [hW0]; exact (Below.refl _ _).alloc (Nat.le_refl _) _
  have hz0 : W0.heap.size = w.heap.size + 1 := by rw [hW0]; simp
  have HZ : Hid (ZV W0 la zs) := Lib.hid (hz.below hb0)
  obtain ⟨zn, hzn⟩ : ∃ zn, zn = zs.length := ⟨_, rfl⟩
  rw [← hzn] at hnz ⊢
  have HZN := Lib.hid hzn
  clear hz hzn
  have HBX := Lib.hid (box_two w (.slice a n c) (.slice a' m c') (.int .i64 ma) (.int .i64 mb) 24)
  rw [← hW0] at HBX
  obtain ⟨B, hB⟩ : ∃ B, B = w.heap.size := ⟨_, rfl⟩
  rw [← hB] at HBX hz0
  obtain ⟨d0, d1, d2, d3⟩ := HBX.out W0 (Below.refl _ _)
  have HMA := Lib.hid (made_any ma a xs n c W0 hne (hx.below hb0) hn (hT.below hb0 h1))
  have HMB : Hid (∀ W, Below W0.heap.size W0 W → Calls Tryd.prog 9 #[.int .i64 mb, .slice a' m c'] W (MadeAny mb ys W)) := Lib.hid fun W hW => made_any mb a' ys m c' W hme (hy.below (bel3 hb0 hW)) hn' (hT.below (bel3 hb0 hW) h1)
  have HB0 := Lib.hid hb0
  have HW0 := Lib.hid hW0
  have HBE := Lib.hid hB
  clear hT hx hy hne hme hb0 hW0 hB
  go_enter Tryd.func3, Tryd.ntmps3
  go_wp2_with fail
  rw [← HW0.out, ← HBE.out]
  refine HMA.out.mono ?_
  rintro e w1 (⟨ab, ae, aw, sa, a1, n1, c1, a2, n2, c2, rfl, HA⟩ | ⟨rfl, HA⟩)
  · have hbA : Below W0.heap.size W0 w1 := HA.out.2.2.2.2
    have hbA2 : Below (B + 1) W0 (w1.alloc (.cells #[.int .i64 ((sa.most : Nat) : Int), .slice a1 n1 c1, .slice a2 n2 c2] 27)) := (hbA.mono (by omega)).alloc (by have := hbA.size; omega) _
    obtain ⟨W2, hW2⟩ : ∃ W2, W2 = w1.alloc (.cells #[.int .i64 ((sa.most : Nat) : Int), .slice a1 n1 c1, .slice a2 n2 c2] 27) := ⟨_, rfl⟩
    have hb12 : Below w1.heap.size w1 W2 := by rw [hW2]; exact (Below.refl _ _).alloc (Nat.le_refl _) _
    rw [← hW2] at hbA2
    have hbA3 : Below W0.heap.size W0 W2 := bel3 hbA hb12
    obtain ⟨d0, d1, d2, d3⟩ := HBX.out w1 (hbA.mono (by omega))
    have hBw : B < w1.heap.size := by have := hbA.size; omega
    have HMB2 := Lib.hid (HMB.out W2 hbA3)
    have HB2 := Lib.hid (bel3 HB0.out hbA3)
    have HW2 := Lib.hid hW2
    have HB12 := Lib.hid hb12
    clear hbA hbA2 hbA3 hW2 hb12
    go_wp2_with fail
    rw [← HW2.out]
    refine HMB2.out.mono ?_
    rintro e w3 (⟨bb, be, bw, sb, a3, n3, c3, a4, n4, c4, rfl, HBB⟩ | ⟨rfl, HBB⟩)
    · obtain ⟨W4, hW4⟩ : ∃ W4, W4 = w3.alloc (.cells #[.int .i64 ((sb.most : Nat) : Int), .slice a3 n3 c3, .slice a4 n4 c4] 27) := ⟨_, rfl⟩
      have hb34 : Below w3.heap.size w3 W4 := by rw [hW4]; exact (Below.refl _ _).alloc (Nat.le_refl _) _
      have HB34 := Lib.hid hb34
      have HW4 := Lib.hid hW4
      have HB4 := Lib.hid (bel3 (bel3 HB2.out HBB.out.2.2.2.2) hb34)
      clear hW4 hb34
      have HSA : Hid (StAt W4 ab ae aw sa) := Lib.hid (((HA.out.2.1.below HB12.out).below HBB.out.2.2.2.2).below HB34.out)
      have HSB : Hid (StAt W4 bb be bw sb) := Lib.hid (HBB.out.2.1.below HB34.out)
      have HC0 : Hid (Below W4.heap.size W4 W4) := Lib.hid (Below.refl _ _)
      have HM1 := Lib.hid (and_ok (HSA.out.below HC0.out) (HSB.out.below HC0.out))
      go_wp2_with fail
      rw [← HW4.out]
      refine HM1.out.mono ?_
      rintro e x1 ⟨s1b, s1e, s1w, s1, rfl, t1, r1, hb1, _⟩
      have HC1 := Lib.hid (bel3 HC0.out hb1)
      have HS1 := Lib.hid t1
      have HR1 := Lib.hid r1
      have HD1 := Lib.hid hb1
      clear t1 r1 hb1 HM1
      have HM2 := Lib.hid (or_ok (HSA.out.below HC1.out) (HSB.out.below HC1.out))
      go_wp2_with fail
      refine HM2.out.mono ?_
      rintro e x2 ⟨s2b, s2e, s2w, s2, rfl, t2, r2, hb2, _⟩
      have HC2 := Lib.hid (bel3 HC1.out hb2)
      have HS2 := Lib.hid t2
      have HR2 := Lib.hid r2
      have HD2 := Lib.hid hb2
      clear t2 r2 hb2 HM2
      have HXA : Hid (StAt x2 ab ae aw sa) := Lib.hid (HSA.out.below HC2.out)
      have HXB : Hid (StAt x2 bb be bw sb) := Lib.hid (HSB.out.below HC2.out)
      have HX1 : Hid (StAt x2 s1b s1e s1w s1) := Lib.hid (HS1.out.below HD2.out)
      have HX2 := HS2
      have hk2 : W2.heap[w1.heap.size]? = some (.cells #[.int .i64 ((sa.most : Nat) : Int), .slice a1 n1 c1, .slice a2 n2 c2] 27 (0, 0)) := by rw [HW2.out]; exact heap_alloc_new w1 _
      have hk4 : W4.heap[w3.heap.size]? = some (.cells #[.int .i64 ((sb.most : Nat) : Int), .slice a3 n3 c3, .slice a4 n4 c4] 27 (0, 0)) := by rw [HW4.out]; exact heap_alloc_new w3 _
      have h24 : Below W2.heap.size W2 W4 := bel3 HBB.out.2.2.2.2 HB34.out
      have hl2 := (Array.getElem?_eq_some_iff.1 hk2).1
      have hl4 := (Array.getElem?_eq_some_iff.1 hk4).1
      have HPQ : Hid (∀ V, Below x2.heap.size x2 V → V.cell? ⟨w1.heap.size, 0, none⟩ = some (.int .i64 ((sa.most : Nat) : Int)) ∧ V.cell? ⟨w1.heap.size, 1, none⟩ = some (.slice a1 n1 c1) ∧ V.cell? ⟨w1.heap.size, 2, none⟩ = some (.slice a2 n2 c2) ∧
          V.cell? ⟨w3.heap.size, 0, none⟩ = some (.int .i64 ((sb.most : Nat) : Int)) ∧ V.cell? ⟨w3.heap.size, 1, none⟩ = some (.slice a3 n3 c3) ∧ V.cell? ⟨w3.heap.size, 2, none⟩ = some (.slice a4 n4 c4)) := Lib.hid fun V hV => by
        have h4 : Below W4.heap.size W4 V := bel3 HC2.out hV
        have e2 := ((bel3 h24 h4).block _ hl2).trans hk2
        have e4 := (h4.block _ hl4).trans hk4
        exact ⟨Lib.cell_of_heap e2 0, Lib.cell_of_heap e2 1, Lib.cell_of_heap e2 2, Lib.cell_of_heap e4 0, Lib.cell_of_heap e4 1, Lib.cell_of_heap e4 2⟩
      have HPA : Hid (RAt (fun _ => False) x2 sa (.agg #[.int .i64 ((sa.most : Nat) : Int), .slice a1 n1 c1, .slice a2 n2 c2])) := Lib.hid (HA.out.2.2.1.below (bel3 (bel3 HB12.out h24) HC2.out))
      have HPB : Hid (RAt (fun _ => False) x2 sb (.agg #[.int .i64 ((sb.most : Nat) : Int), .slice a3 n3 c3, .slice a4 n4 c4])) := Lib.hid (HBB.out.2.2.1.below (bel3 HB34.out HC2.out))
      have HBX2 : Hid (∀ W, Below x2.heap.size x2 W → Below W0.heap.size W0 W ∧ Below w.heap.size w W ∧ Tab W) := Lib.hid fun W hW => by
        have hw : Below w1.heap.size w1 W := bel3 (bel3 HB12.out h24) (bel3 HC2.out hW)
        have hw0 : Below W0.heap.size W0 W := bel3 HA.out.2.2.2.2 hw
        exact ⟨hw0, bel3 HB0.out hw0, HT.out.below (bel3 HB0.out hw0) h1⟩
      have HV0 : Hid (Below x2.heap.size x2 x2) := Lib.hid (Below.refl _ _)
      clear hk2 hk4 h24 hl2 hl4 HMA HMB HMB2 HA HBB HSA HSB HS1 HS2 HD1 HD2 HC0 HC1 HC2 HB12 HB34 HB2 HB4 d0 d1 d2 d3
      have HRM1 : Hid (Calls Tryd.prog 14 #[.agg #[.int .i64 ((sa.most : Nat) : Int), .slice a1 n1 c1, .slice a2 n2 c2], .agg #[.int .i64 ((sb.most : Nat) : Int), .slice a3 n3 c3, .slice a4 n4 c4]] x2 fun e w' => ∃ s v', e = .returned v' ∧ AndTo sa sb s ∧ RAt (fun _ => False) w' s v' ∧ Below x2.heap.size x2 w') := Lib.hid (rand_ok (HPA.out.below HV0.out) (HPB.out.below HV0.out) HXA.out.ok HXB.out.ok)
      obtain ⟨p0, p1, p2, q0, q1, q2⟩ := HPQ.out _ HV0.out
      go_wp2_with fail
      refine HRM1.out.mono ?_
      rintro e y1 ⟨t1, v1, rfl, ht, hr, hb⟩
      obtain rfl := ht.unique HR1.out
      have HVR1 := Lib.hid hr
      have HV1 := Lib.hid (bel3 HV0.out hb)
      clear hb ht hr p0 p1 p2 q0 q1 q2 HRM1
      have HSM2 : Hid (Calls Tryd.prog 13 #[.pointer (some ⟨s1b, 0, none⟩), v1, .slice la zn lc] y1 fun e w' => e = .returned (.bool true) ∧ Below y1.heap.size y1 w') := Lib.hid (same_ok (HX1.out.below HV1.out) HVR1.out la zs zn lc HZN.out (HZ.out.below (HBX2.out _ HV1.out).1) hnz (HBX2.out _ HV1.out).2.2)
      obtain ⟨p0, p1, p2, q0, q1, q2⟩ := HPQ.out _ HV1.out
      go_wp2_with fail
      refine HSM2.out.mono ?_
      rintro e y2 ⟨rfl, hb⟩
      have HV2 := Lib.hid (bel3 HV1.out hb)
      clear hb p0 p1 p2 q0 q1 q2 HSM2
      have HRM3 : Hid (Calls Tryd.prog 15 #[.agg #[.int .i64 ((sa.most : Nat) : Int), .slice a1 n1 c1, .slice a2 n2 c2], .agg #[.int .i64 ((sb.most : Nat) : Int), .slice a3 n3 c3, .slice a4 n4 c4]] y2 fun e w' => ∃ s v', e = .returned v' ∧ OrTo sa sb s ∧ RAt (fun _ => False) w' s v' ∧ Below y2.heap.size y2 w') := Lib.hid (ror_ok (HPA.out.below HV2.out) (HPB.out.below HV2.out) HXA.out.ok HXB.out.ok)
      obtain ⟨p0, p1, p2, q0, q1, q2⟩ := HPQ.out _ HV2.out
      go_wp2_with fail
      refine HRM3.out.mono ?_
      rintro e y3 ⟨t3, v3, rfl, ht, hr, hb⟩
      obtain rfl := ht.unique HR2.out
      have HVR3 := Lib.hid hr
      have HV3 := Lib.hid (bel3 HV2.out hb)
      clear hb ht hr p0 p1 p2 q0 q1 q2 HRM3
      have HSM4 : Hid (Calls Tryd.prog 13 #[.pointer (some ⟨s2b, 0, none⟩), v3, .slice la zn lc] y3 fun e w' => e = .returned (.bool true) ∧ Below y3.heap.size y3 w') := Lib.hid (same_ok (HX2.out.below HV3.out) HVR3.out la zs zn lc HZN.out (HZ.out.below (HBX2.out _ HV3.out).1) hnz (HBX2.out _ HV3.out).2.2)
      obtain ⟨p0, p1, p2, q0, q1, q2⟩ := HPQ.out _ HV3.out
      go_wp2_with fail
      refine HSM4.out.mono ?_
      rintro e y4 ⟨rfl, hb⟩
      have HV4 := Lib.hid (bel3 HV3.out hb)
      clear hb p0 p1 p2 q0 q1 q2 HSM4
      have HSM5 : Hid (Calls Tryd.prog 13 #[.pointer (some ⟨ab, 0, none⟩), .agg #[.int .i64 ((sa.most : Nat) : Int), .slice a1 n1 c1, .slice a2 n2 c2], .slice la zn lc] y4 fun e w' => e = .returned (.bool true) ∧ Below y4.heap.size y4 w') := Lib.hid (same_ok (HXA.out.below HV4.out) (HPA.out.below HV4.out) la zs zn lc HZN.out (HZ.out.below (HBX2.out _ HV4.out).1) hnz (HBX2.out _ HV4.out).2.2)
      obtain ⟨p0, p1, p2, q0, q1, q2⟩ := HPQ.out _ HV4.out
      go_wp2_with fail
      refine HSM5.out.mono ?_
      rintro e y5 ⟨rfl, hb⟩
      have HV5 := Lib.hid (bel3 HV4.out hb)
      clear hb p0 p1 p2 q0 q1 q2 HSM5
      have HSM6 : Hid (Calls Tryd.prog 13 #[.pointer (some ⟨bb, 0, none⟩), .agg #[.int .i64 ((sb.most : Nat) : Int), .slice a3 n3 c3, .slice a4 n4 c4], .slice la zn lc] y5 fun e w' => e = .returned (.bool true) ∧ Below y5.heap.size y5 w') := Lib.hid (same_ok (HXB.out.below HV5.out) (HPB.out.below HV5.out) la zs zn lc HZN.out (HZ.out.below (HBX2.out _ HV5.out).1) hnz (HBX2.out _ HV5.out).2.2)
      obtain ⟨p0, p1, p2, q0, q1, q2⟩ := HPQ.out _ HV5.out
      go_wp2_with fail
      refine HSM6.out.mono ?_
      rintro e y6 ⟨rfl, hb⟩
      have HV6 := Lib.hid (bel3 HV5.out hb)
      clear hb p0 p1 p2 q0 q1 q2 HSM6
      have HAW := Lib.hid (awake14 y6 (HBX2.out _ HV6.out).2.2)
      have HBW := Lib.hid (HBX2.out _ HV6.out).2.1
      go_wp2_with fail
      refine HAW.out.mono ?_
      rintro e w9 ⟨rfl, hb9⟩
      have HE := Lib.hid (bel3 HBW.out hb9)
      clear hb9
      go_wp2
      go_ret
      exact ⟨rfl, HE.out⟩
    · obtain ⟨W4, hW4⟩ : ∃ W4, W4 = w3.alloc (.cells #[.int .i64 0, .slice none 0 0, .slice none 0 0] 27) := ⟨_, rfl⟩
      have hb34 : Below w3.heap.size w3 W4 := by rw [hW4]; exact (Below.refl _ _).alloc (Nat.le_refl _) _
      have HB34 := Lib.hid hb34
      have HW4 := Lib.hid hW4
      have HB4 := Lib.hid (bel3 (bel3 HB2.out HBB.out.2) hb34)
      clear hW4 hb34
      have HAW := Lib.hid (awake14 W4 (HT.out.below HB4.out h1))
      have HUN : Hid (Un (.pointer (some ⟨ab, 0, none⟩)) (.pointer none) W4) := Lib.hid (.inr ⟨⟨ab, rfl, (((HA.out.2.1.below HB12.out).below HBB.out.2).below HB34.out).at_.c0⟩, .inl rfl⟩)
      have HAN := Lib.hid (and_no _ _ _ HUN.out)
      have HON := Lib.hid (or_no _ _ _ HUN.out)
      go_wp2_with fail
      rw [← HW4.out]
      refine HAN.out.mono ?_
      rintro e x1 ⟨rfl, rfl⟩
      go_wp2_with fail
      refine HON.out.mono ?_
      rintro e x2 ⟨rfl, rfl⟩
      go_wp2_with fail
      refine HAW.out.mono ?_
      rintro e w9 ⟨rfl, hb9⟩
      have HE := Lib.hid (bel3 HB4.out hb9)
      clear hb9
      go_wp2
      go_ret
      exact ⟨rfl, HE.out⟩
  · have hbA : Below W0.heap.size W0 w1 := HA.out.2
    have hbA2 : Below (B + 1) W0 (w1.alloc (.cells #[.int .i64 0, .slice none 0 0, .slice none 0 0] 27)) := (hbA.mono (by omega)).alloc (by have := hbA.size; omega) _
    obtain ⟨W2, hW2⟩ : ∃ W2, W2 = w1.alloc (.cells #[.int .i64 0, .slice none 0 0, .slice none 0 0] 27) := ⟨_, rfl⟩
    have hb12 : Below w1.heap.size w1 W2 := by rw [hW2]; exact (Below.refl _ _).alloc (Nat.le_refl _) _
    rw [← hW2] at hbA2
    have hbA3 : Below W0.heap.size W0 W2 := bel3 hbA hb12
    obtain ⟨d0, d1, d2, d3⟩ := HBX.out w1 (hbA.mono (by omega))
    have hBw : B < w1.heap.size := by have := hbA.size; omega
    have HMB2 := Lib.hid (HMB.out W2 hbA3)
    have HB2 := Lib.hid (bel3 HB0.out hbA3)
    have HW2 := Lib.hid hW2
    have HB12 := Lib.hid hb12
    clear hbA hbA2 hbA3 hW2 hb12
    go_wp2_with fail
    rw [← HW2.out]
    refine HMB2.out.mono ?_
    rintro e w3 (⟨bb, be, bw, sb, a3, n3, c3, a4, n4, c4, rfl, HBB⟩ | ⟨rfl, HBB⟩)
    · obtain ⟨W4, hW4⟩ : ∃ W4, W4 = w3.alloc (.cells #[.int .i64 ((sb.most : Nat) : Int), .slice a3 n3 c3, .slice a4 n4 c4] 27) := ⟨_, rfl⟩
      have hb34 : Below w3.heap.size w3 W4 := by rw [hW4]; exact (Below.refl _ _).alloc (Nat.le_refl _) _
      have HB34 := Lib.hid hb34
      have HW4 := Lib.hid hW4
      have HB4 := Lib.hid (bel3 (bel3 HB2.out HBB.out.2.2.2.2) hb34)
      clear hW4 hb34
      have HAW := Lib.hid (awake14 W4 (HT.out.below HB4.out h1))
      have HUN : Hid (Un (.pointer none) (.pointer (some ⟨bb, 0, none⟩)) W4) := Lib.hid (.inl (.inl rfl))
      have HAN := Lib.hid (and_no _ _ _ HUN.out)
      have HON := Lib.hid (or_no _ _ _ HUN.out)
      go_wp2_with fail
      rw [← HW4.out]
      refine HAN.out.mono ?_
      rintro e x1 ⟨rfl, rfl⟩
      go_wp2_with fail
      refine HON.out.mono ?_
      rintro e x2 ⟨rfl, rfl⟩
      go_wp2_with fail
      refine HAW.out.mono ?_
      rintro e w9 ⟨rfl, hb9⟩
      have HE := Lib.hid (bel3 HB4.out hb9)
      clear hb9
      go_wp2
      go_ret
      exact ⟨rfl, HE.out⟩
    · obtain ⟨W4, hW4⟩ : ∃ W4, W4 = w3.alloc (.cells #[.int .i64 0, .slice none 0 0, .slice none 0 0] 27) := ⟨_, rfl⟩
      have hb34 : Below w3.heap.size w3 W4 := by rw [hW4]; exact (Below.refl _ _).alloc (Nat.le_refl _) _
      have HB34 := Lib.hid hb34
      have HW4 := Lib.hid hW4
      have HB4 := Lib.hid (bel3 (bel3 HB2.out HBB.out.2) hb34)
      clear hW4 hb34
      have HAW := Lib.hid (awake14 W4 (HT.out.below HB4.out h1))
      have HUN : Hid (Un (.pointer none) (.pointer none) W4) := Lib.hid (.inl (.inl rfl))
      have HAN := Lib.hid (and_no _ _ _ HUN.out)
      have HON := Lib.hid (or_no _ _ _ HUN.out)
      go_wp2_with fail
      rw [← HW4.out]
      refine HAN.out.mono ?_
      rintro e x1 ⟨rfl, rfl⟩
      go_wp2_with fail
      refine HON.out.mono ?_
      rintro e x2 ⟨rfl, rfl⟩
      go_wp2_with fail
      refine HAW.out.mono ?_
      rintro e w9 ⟨rfl, hb9⟩
      have HE := Lib.hid (bel3 HB4.out hb9)
      clear hb9
      go_wp2
      go_ret
      exact ⟨rfl, HE.out⟩
end Go.Proofs.YtpjpkpbfbbpmdaaDoor.Ts
