/- TidsetSame's walk. -/
import Derived.Test.YtpjpkpbfbbpmdaaDoorTTB
set_option maxRecDepth 100000
namespace Go.Proofs.YtpjpkpbfbbpmdaaDoor.Ts
open Go Go.RowKit

/-- What made leaves, the document's value opened. -/
def MadeAny (most : Int) (l : List Int) (w : World) (e : Ending) (w' : World) : Prop :=
  (∃ b be bw s a1 n1 c1 a2 n2 c2, e = .returned (.tuple #[.pointer (some ⟨b, 0, none⟩), .agg #[.int .i64 ((s.most : Nat) : Int), .slice a1 n1 c1, .slice a2 n2 c2], .bool true]) ∧ Hid ((0 ≤ most ∧ most ≤ 64) ∧ StAt w' b be bw s ∧ RAt (fun _ => False) w' s (rv s.most a1 n1 c1 a2 n2 c2) ∧ Adds ⟨most.toNat, [], []⟩ l s ∧ Below w.heap.size w w')) ∨
  (e = .returned (.tuple #[.pointer none, .agg #[.int .i64 0, .slice none 0 0, .slice none 0 0], .bool true]) ∧ Hid (¬ (0 ≤ most ∧ most ≤ 64) ∧ Below w.heap.size w w'))
theorem made_any (most : Int) (a : Option Addr) (xs : List Int) (n c : Nat) (w : World) (hn : n = xs.length) (hx : ZV w a xs) (hbig : n ≤ 9223372036854775807) (hT : Tab w) : Calls Tryd.prog 9 #[.int .i64 most, .slice a n c] w (MadeAny most xs w) := by
  by_cases hm : 0 ≤ most ∧ most ≤ 64
  · obtain ⟨k, rfl⟩ : ∃ k : Nat, most = k := ⟨most.toNat, by omega⟩
    refine (made_ok k a xs n c w (by omega) hn hx hbig hT).mono ?_
    rintro e w' ⟨b, be, bw, s, v, rfl, h1, h2, h3, h4, h5, _⟩
    have h30 := h3
    obtain ⟨a1, n1, c1, a2, n2, c2, rfl, _⟩ := h3
    exact .inl ⟨b, be, bw, s, a1, n1, c1, a2, n2, c2, rfl, Lib.hid ⟨h1, h2, h30, h4, h5⟩⟩
  · refine (made_no most a n c w hm).mono ?_
    rintro e w' ⟨rfl, h1, h2⟩
    exact .inr ⟨rfl, Lib.hid ⟨h1, h2⟩⟩
theorem StAt.few {w : World} {b be bw : Nat} {s : Tset} (h : StAt w b be bw s) : s.T.length ≤ 2199023255552 ∧ s.P.length ≤ 2199023255552 := by
  have := h.ok.few
  have := h.ok.most
  have := raw_few h.ok.raw
  omega
theorem bel3 {w W1 W2 : World} (h : Below w.heap.size w W1) (k : Below W1.heap.size W1 W2) : Below w.heap.size w W2 := h.trans (k.mono h.size)
theorem box_two (w : World) (x0 x1 x2 x3 : Value) (t : TypeId) : ∀ W, Below (w.heap.size + 1) (w.alloc (.cells #[x0, x1, x2, x3] t)) W → W.cell? ⟨w.heap.size, 0, none⟩ = some x0 ∧ W.cell? ⟨w.heap.size, 1, none⟩ = some x1 ∧ W.cell? ⟨w.heap.size, 2, none⟩ = some x2 ∧ W.cell? ⟨w.heap.size, 3, none⟩ = some x3 := fun W h => by
  have hk : W.heap[w.heap.size]? = some (.cells #[x0, x1, x2, x3] t (0, 0)) := (h.block w.heap.size (by omega)).trans (heap_alloc_new w _)
  exact ⟨Lib.cell_of_heap hk 0, Lib.cell_of_heap hk 1, Lib.cell_of_heap hk 2, Lib.cell_of_heap hk 3⟩

set_option maxHeartbeats 6400000 in
theorem same14_walk (a : Option Addr) (xs : List Int) (c : Nat) (a' : Option Addr) (ys : List Int) (c' : Nat) (ma mb : Int) (w : World) (hT : Tab w) (hx : ZV w a xs) (hy : ZV w a' ys) (hn : xs.length ≤ 9223372036854775807) (hn' : ys.length ≤ 9223372036854775807) :
    Calls Tryd.prog 5 #[.agg #[.slice a xs.length c, .slice a' ys.length c', .int .i64 ma, .int .i64 mb]] w fun e w' => e = .returned (.bool true) ∧ Below w.heap.size w w' := by
  have HT := Lib.hid hT
  have h1 := hT.1
  obtain ⟨n, hne⟩ : ∃ n, n = xs.length := ⟨_, rfl⟩
  obtain ⟨m, hme⟩ : ∃ m, m = ys.length := ⟨_, rfl⟩
  rw [← hne] at hn ⊢
  rw [← hme] at hn' ⊢
  obtain ⟨W0, hW0⟩ : ∃ W0, W0 = w.alloc (.cells #[.slice a n c, .slice a' m c', .int .i64 ma, .int .i64 mb] 24) := ⟨_, rfl⟩
  have hb0 : Below w.heap.size w W0 := by rw [hW0]; exact (Below.refl _ _).alloc (Nat.le_refl _) _
  have hz0 : W0.heap.size = w.heap.size + 1 := by rw [hW0]; simp
  have HBX := Lib.hid (box_two w (.slice a n c) (.slice a' m c') (.int .i64 ma) (.int .i64 mb) 24)
  rw [← hW0] at HBX
  obtain ⟨B, hB⟩ : ∃ B, B = w.heap.size := ⟨_, rfl⟩
  rw [← hB] at HBX hz0
  obtain ⟨d0, d1, d2, d3⟩ := HBX.out W0 (Below.refl _ _)
  have HMA := Lib.hid (made_any ma a xs n c W0 hne (hx.below hb0) hn (hT.below hb0 h1))
  have HMB : Hid (∀ W, Below W0.heap.size W0 W → Calls Tryd.prog 9 #[.int .i64 mb, .slice a' m c'] W (MadeAny mb ys W)) := Lib.hid fun W hW => made_any mb a' ys m c' W hme (hy.below (bel3 hb0 hW)) hn' (hT.below (bel3 hb0 hW) h1)
  have HB0 := Lib.hid hb0
  have HW0 := Lib.hid hW0
  have HBE := Lib.hid hB
  clear hT hx hy hne hme hb0 hW0 hB
  go_enter Tryd.func5, Tryd.ntmps5
  go_wp2_with fail
  rw [← HW0.out, ← HBE.out]
  refine HMA.out.mono ?_
  rintro e w1 (⟨ab, ae, aw, sa, a1, n1, c1, a2, n2, c2, rfl, HA⟩ | ⟨rfl, HA⟩)
  · have hbA : Below W0.heap.size W0 w1 := HA.out.2.2.2.2
    have hbA2 : Below (B + 1) W0 (w1.alloc (.cells #[.int .i64 ((sa.most : Nat) : Int), .slice a1 n1 c1, .slice a2 n2 c2] 27)) := (hbA.mono (by omega)).alloc (by have := hbA.size; omega) _
    obtain ⟨W2, hW2⟩ : ∃ W2, W2 = w1.alloc (.cells #[.int .i64 ((sa.most : Nat) : Int), .slice a1 n1 c1, .slice a2 n2 c2] 27) := ⟨_, rfl⟩
    have hb12 : Below w1.heap.size w1 W2 := by rw [hW2]; exact (Below.refl _ _).alloc (Nat.le_refl _) _
    rw [← hW2] at hbA2
    have hbA3 : Below W0.heap.size W0 W2 := bel3 hbA hb12
    obtain ⟨d0, d1, d2, d3⟩ := HBX.out w1 (hbA.mono (by omega))
    have hBw : B < w1.heap.size := by have := hbA.size; omega
    have HMB2 := Lib.hid (HMB.out W2 hbA3)
    have HB2 := Lib.hid (bel3 HB0.out hbA3)
    have HW2 := Lib.hid hW2
    have HB12 := Lib.hid hb12
    clear hbA hbA2 hbA3 hW2 hb12
    go_wp2_with fail
    rw [← HW2.out]
    refine HMB2.out.mono ?_
    rintro e w3 (⟨bb, be, bw, sb, a3, n3, c3, a4, n4, c4, rfl, HBB⟩ | ⟨rfl, HBB⟩)
    · obtain ⟨W4, hW4⟩ : ∃ W4, W4 = w3.alloc (.cells #[.int .i64 ((sb.most : Nat) : Int), .slice a3 n3 c3, .slice a4 n4 c4] 27) := ⟨_, rfl⟩
      have hb34 : Below w3.heap.size w3 W4 := by rw [hW4]; exact (Below.refl _ _).alloc (Nat.le_refl _) _
      have HB34 := Lib.hid hb34
      have HW4 := Lib.hid hW4
      have HB4 := Lib.hid (bel3 (bel3 HB2.out HBB.out.2.2.2.2) hb34)
      clear hW4 hb34
      have HSA : Hid (StAt W4 ab ae aw sa) := Lib.hid (((HA.out.2.1.below HB12.out).below HBB.out.2.2.2.2).below HB34.out)
      have HSB : Hid (StAt W4 bb be bw sb) := Lib.hid (HBB.out.2.1.below HB34.out)
      have HC0 : Hid (Below W4.heap.size W4 W4) := Lib.hid (Below.refl _ _)
      have HM1 := Lib.hid (and_ok (HSA.out.below HC0.out) (HSB.out.below HC0.out))
      go_wp2_with fail
      rw [← HW4.out]
      refine HM1.out.mono ?_
      rintro e x1 ⟨s1b, s1e, s1w, s1, rfl, t1, r1, hb1, _⟩
      have HC1 := Lib.hid (bel3 HC0.out hb1)
      have HS1 := Lib.hid t1
      have HR1 := Lib.hid r1
      have HD1 := Lib.hid hb1
      clear t1 r1 hb1 HM1
      have HM2 := Lib.hid (and_ok (HSB.out.below HC1.out) (HSA.out.below HC1.out))
      go_wp2_with fail
      refine HM2.out.mono ?_
      rintro e x2 ⟨s2b, s2e, s2w, s2, rfl, t2, r2, hb2, _⟩
      have HC2 := Lib.hid (bel3 HC1.out hb2)
      have HS2 := Lib.hid t2
      have HR2 := Lib.hid r2
      have HD2 := Lib.hid hb2
      clear t2 r2 hb2 HM2
      have HM3 := Lib.hid (or_ok (HSA.out.below HC2.out) (HSB.out.below HC2.out))
      go_wp2_with fail
      refine HM3.out.mono ?_
      rintro e x3 ⟨s3b, s3e, s3w, s3, rfl, t3, r3, hb3, _⟩
      have HC3 := Lib.hid (bel3 HC2.out hb3)
      have HS3 := Lib.hid t3
      have HR3 := Lib.hid r3
      have HD3 := Lib.hid hb3
      clear t3 r3 hb3 HM3
      have HM4 := Lib.hid (or_ok (HSB.out.below HC3.out) (HSA.out.below HC3.out))
      go_wp2_with fail
      refine HM4.out.mono ?_
      rintro e x4 ⟨s4b, s4e, s4w, s4, rfl, t4, r4, hb4, _⟩
      have HC4 := Lib.hid (bel3 HC3.out hb4)
      have HS4 := Lib.hid t4
      have HR4 := Lib.hid r4
      have HD4 := Lib.hid hb4
      clear t4 r4 hb4 HM4
      obtain rfl : s1 = s2 := HR1.out.unique HR2.out.swap
      obtain rfl : s3 = s4 := HR3.out.unique HR4.out.swap
      have HX1 : Hid (StAt x4 s1b s1e s1w s1) := Lib.hid (((HS1.out.below HD2.out).below HD3.out).below HD4.out)
      have HX2 : Hid (StAt x4 s2b s2e s2w s1) := Lib.hid ((HS2.out.below HD3.out).below HD4.out)
      have HX3 : Hid (StAt x4 s3b s3e s3w s3) := Lib.hid (HS3.out.below HD4.out)
      have HF0 : Hid (Below x4.heap.size x4 x4) := Lib.hid (Below.refl _ _)
      have HQ := Lib.hid (tids_any (HX1.out.below HF0.out) (HT.out.below (bel3 HB4.out HC4.out) h1))
      go_wp2_with fail
      refine HQ.out.mono ?_
      rintro e w5 ⟨v5, rfl, hn5, hb5⟩
      obtain ⟨a5, c5, rfl⟩ := hn5.shape
      have HV5 := Lib.hid hn5.nums
      have HF5a := Lib.hid (bel3 HF0.out hb5)
      have HC5a := Lib.hid (bel3 HC4.out hb5)
      have HQ2 := Lib.hid (tids_any (HX2.out.below HF5a.out) (HT.out.below (bel3 HB4.out HC5a.out) h1))
      clear hn5 hb5 HQ
      go_wp2_with fail
      refine HQ2.out.mono ?_
      rintro e u5 ⟨v52, rfl, hn5, hb5⟩
      obtain ⟨b5, e5, rfl⟩ := hn5.shape
      have HI := Lib.hid (ints_same (n := s1.T.length) c5 e5 rfl (HV5.out.below hb5) hn5.nums HX1.out.few.1)
      have HF5b := Lib.hid (bel3 HF5a.out hb5)
      have HC5b := Lib.hid (bel3 HC5a.out hb5)
      clear hn5 hb5 HQ2
      go_wp2_with fail
      refine HI.out.mono ?_
      rintro e z5 ⟨rfl, hb5⟩
      have HF5 := Lib.hid (bel3 HF5b.out hb5)
      have HC5 := Lib.hid (bel3 HC5b.out hb5)
      clear hb5 HI
      have HQ := Lib.hid (pages_any (HX1.out.below HF5.out))
      go_wp2_with fail
      refine HQ.out.mono ?_
      rintro e w6 ⟨v6, rfl, hn6, hb6⟩
      obtain ⟨a6, c6, rfl⟩ := hn6.shape
      have HV6 := Lib.hid hn6.nums
      have HF6a := Lib.hid (bel3 HF5.out hb6)
      have HC6a := Lib.hid (bel3 HC5.out hb6)
      have HQ2 := Lib.hid (pages_any (HX2.out.below HF6a.out))
      clear hn6 hb6 HQ
      go_wp2_with fail
      refine HQ2.out.mono ?_
      rintro e u6 ⟨v62, rfl, hn6, hb6⟩
      obtain ⟨b6, e6, rfl⟩ := hn6.shape
      have HI := Lib.hid (ints_same (n := s1.P.length) c6 e6 rfl (HV6.out.below hb6) hn6.nums HX1.out.few.2)
      have HF6b := Lib.hid (bel3 HF6a.out hb6)
      have HC6b := Lib.hid (bel3 HC6a.out hb6)
      clear hn6 hb6 HQ2
      go_wp2_with fail
      refine HI.out.mono ?_
      rintro e z6 ⟨rfl, hb6⟩
      have HF6 := Lib.hid (bel3 HF6b.out hb6)
      have HC6 := Lib.hid (bel3 HC6b.out hb6)
      clear hb6 HI
      have HQ := Lib.hid (tids_any (HX3.out.below HF6.out) (HT.out.below (bel3 HB4.out HC6.out) h1))
      go_wp2_with fail
      refine HQ.out.mono ?_
      rintro e w7 ⟨v7, rfl, hn7, hb7⟩
      obtain ⟨a7, c7, rfl⟩ := hn7.shape
      have HV7 := Lib.hid hn7.nums
      have HF7a := Lib.hid (bel3 HF6.out hb7)
      have HC7a := Lib.hid (bel3 HC6.out hb7)
      have HQ2 := Lib.hid (tids_any (HS4.out.below HF7a.out) (HT.out.below (bel3 HB4.out HC7a.out) h1))
      clear hn7 hb7 HQ
      go_wp2_with fail
      refine HQ2.out.mono ?_
      rintro e u7 ⟨v72, rfl, hn7, hb7⟩
      obtain ⟨b7, e7, rfl⟩ := hn7.shape
      have HI := Lib.hid (ints_same (n := s3.T.length) c7 e7 rfl (HV7.out.below hb7) hn7.nums HX3.out.few.1)
      have HF7b := Lib.hid (bel3 HF7a.out hb7)
      have HC7b := Lib.hid (bel3 HC7a.out hb7)
      clear hn7 hb7 HQ2
      go_wp2_with fail
      refine HI.out.mono ?_
      rintro e z7 ⟨rfl, hb7⟩
      have HF7 := Lib.hid (bel3 HF7b.out hb7)
      have HC7 := Lib.hid (bel3 HC7b.out hb7)
      clear hb7 HI
      have HQ := Lib.hid (pages_any (HX3.out.below HF7.out))
      go_wp2_with fail
      refine HQ.out.mono ?_
      rintro e w8 ⟨v8, rfl, hn8, hb8⟩
      obtain ⟨a8, c8, rfl⟩ := hn8.shape
      have HV8 := Lib.hid hn8.nums
      have HF8a := Lib.hid (bel3 HF7.out hb8)
      have HC8a := Lib.hid (bel3 HC7.out hb8)
      have HQ2 := Lib.hid (pages_any (HS4.out.below HF8a.out))
      clear hn8 hb8 HQ
      go_wp2_with fail
      refine HQ2.out.mono ?_
      rintro e u8 ⟨v82, rfl, hn8, hb8⟩
      obtain ⟨b8, e8, rfl⟩ := hn8.shape
      have HI := Lib.hid (ints_same (n := s3.P.length) c8 e8 rfl (HV8.out.below hb8) hn8.nums HX3.out.few.2)
      have HF8b := Lib.hid (bel3 HF8a.out hb8)
      have HC8b := Lib.hid (bel3 HC8a.out hb8)
      clear hn8 hb8 HQ2
      go_wp2_with fail
      refine HI.out.mono ?_
      rintro e z8 ⟨rfl, hb8⟩
      have HF8 := Lib.hid (bel3 HF8b.out hb8)
      have HC8 := Lib.hid (bel3 HC8b.out hb8)
      clear hb8 HI
      have HAW := Lib.hid (awake14 z8 (HT.out.below (bel3 HB4.out HC8.out) h1))
      go_wp2_with fail
      refine HAW.out.mono ?_
      rintro e w9 ⟨rfl, hb9⟩
      have HE := Lib.hid (bel3 (bel3 HB4.out HC8.out) hb9)
      clear hb9
      go_wp2
      go_ret
      exact ⟨rfl, HE.out⟩
    · obtain ⟨W4, hW4⟩ : ∃ W4, W4 = w3.alloc (.cells #[.int .i64 0, .slice none 0 0, .slice none 0 0] 27) := ⟨_, rfl⟩
      have hb34 : Below w3.heap.size w3 W4 := by rw [hW4]; exact (Below.refl _ _).alloc (Nat.le_refl _) _
      have HB34 := Lib.hid hb34
      have HW4 := Lib.hid hW4
      have HB4 := Lib.hid (bel3 (bel3 HB2.out HBB.out.2) hb34)
      clear hW4 hb34
      have HAW := Lib.hid (awake14 W4 (HT.out.below HB4.out h1))
      go_wp2_with fail
      rw [← HW4.out]
      refine HAW.out.mono ?_
      rintro e w9 ⟨rfl, hb9⟩
      have HE := Lib.hid (bel3 HB4.out hb9)
      clear hb9
      go_wp2
      go_ret
      exact ⟨rfl, HE.out⟩
  · have hbA : Below W0.heap.size W0 w1 := HA.out.2
    have hbA2 : Below (B + 1) W0 (w1.alloc (.cells #[.int .i64 0, .slice none 0 0, .slice none 0 0] 27)) := (hbA.mono (by omega)).alloc (by have := hbA.size; omega) _
    obtain ⟨W2, hW2⟩ : ∃ W2, W2 = w1.alloc (.cells #[.int .i64 0, .slice none 0 0, .slice none 0 0] 27) := ⟨_, rfl⟩
    have hb12 : Below w1.heap.size w1 W2 := by rw [hW2]; exact (Below.refl _ _).alloc (Nat.le_refl _) _
    rw [← hW2] at hbA2
    have hbA3 : Below W0.heap.size W0 W2 := bel3 hbA hb12
    obtain ⟨d0, d1, d2, d3⟩ := HBX.out w1 (hbA.mono (by omega))
    have hBw : B < w1.heap.size := by have := hbA.size; omega
    have HMB2 := Lib.hid (HMB.out W2 hbA3)
    have HB2 := Lib.hid (bel3 HB0.out hbA3)
    have HW2 := Lib.hid hW2
    have HB12 := Lib.hid hb12
    clear hbA hbA2 hbA3 hW2 hb12
    go_wp2_with fail
    rw [← HW2.out]
    refine HMB2.out.mono ?_
    rintro e w3 (⟨bb, be, bw, sb, a3, n3, c3, a4, n4, c4, rfl, HBB⟩ | ⟨rfl, HBB⟩)
    · obtain ⟨W4, hW4⟩ : ∃ W4, W4 = w3.alloc (.cells #[.int .i64 ((sb.most : Nat) : Int), .slice a3 n3 c3, .slice a4 n4 c4] 27) := ⟨_, rfl⟩
      have hb34 : Below w3.heap.size w3 W4 := by rw [hW4]; exact (Below.refl _ _).alloc (Nat.le_refl _) _
      have HB34 := Lib.hid hb34
      have HW4 := Lib.hid hW4
      have HB4 := Lib.hid (bel3 (bel3 HB2.out HBB.out.2.2.2.2) hb34)
      clear hW4 hb34
      have HAW := Lib.hid (awake14 W4 (HT.out.below HB4.out h1))
      go_wp2_with fail
      rw [← HW4.out]
      refine HAW.out.mono ?_
      rintro e w9 ⟨rfl, hb9⟩
      have HE := Lib.hid (bel3 HB4.out hb9)
      clear hb9
      go_wp2
      go_ret
      exact ⟨rfl, HE.out⟩
    · obtain ⟨W4, hW4⟩ : ∃ W4, W4 = w3.alloc (.cells #[.int .i64 0, .slice none 0 0, .slice none 0 0] 27) := ⟨_, rfl⟩
      have hb34 : Below w3.heap.size w3 W4 := by rw [hW4]; exact (Below.refl _ _).alloc (Nat.le_refl _) _
      have HB34 := Lib.hid hb34
      have HW4 := Lib.hid hW4
      have HB4 := Lib.hid (bel3 (bel3 HB2.out HBB.out.2) hb34)
      clear hW4 hb34
      have HAW := Lib.hid (awake14 W4 (HT.out.below HB4.out h1))
      go_wp2_with fail
      rw [← HW4.out]
      refine HAW.out.mono ?_
      rintro e w9 ⟨rfl, hb9⟩
      have HE := Lib.hid (bel3 HB4.out hb9)
      clear hb9
      go_wp2
      go_ret
      exact ⟨rfl, HE.out⟩
end Go.Proofs.YtpjpkpbfbbpmdaaDoor.Ts
