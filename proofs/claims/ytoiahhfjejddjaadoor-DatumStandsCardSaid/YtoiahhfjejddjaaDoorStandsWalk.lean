/- The walk of DatumStands: for every two data that came in it answers true; other memory stands. -/
import Derived.Test.YtoiahhfjejddjaaDoorOrd
import Derived.Test.YtoiahhfjejddjaaDoorN
set_option maxRecDepth 100000
namespace Go.Proofs.YtoiahhfjejddjaaDoor
open Go Go.RowKit

theorem bytes_some (k n : Int) (s : ByteArray) (a : Option Addr) (xs : List It) (lc : Nat) (w : World) (hS : Sl w a xs) :
    Calls Tryd.prog 17 #[.agg #[.int .i64 k, .int .i64 n, .string s, .slice a xs.length lc]] w fun e w' => (∃ (t : ByteArray) (er : Int), e = .returned (.tuple #[.string t, .int .i64 er])) ∧ Below w.heap.size w w' := by
  cases h : dOk k n s xs
  · exact (bytes_no k n s a xs lc w hS h).mono fun e w' ⟨h1, h2⟩ => ⟨⟨_, _, h1⟩, h2⟩
  · exact (bytes_ok k n s a xs lc w hS h).mono fun e w' ⟨h1, h2⟩ => ⟨⟨_, _, h1⟩, h2⟩

theorem alloc2 (w : World) (o1 o2 : Obj) : Below w.heap.size w ((w.alloc o1).alloc o2) := ((Below.refl _ _).alloc (Nat.le_refl _) _).alloc (by simp) _

set_option maxHeartbeats 1600000 in
theorem stands_err (k n : Int) (s : ByteArray) (a : Option Addr) (xs : List It) (lc : Nat) (k' n' : Int) (s' : ByteArray) (a' : Option Addr) (xs' : List It) (lc' : Nat) (w : World) (hL : Laid w) (hS : Sl w a xs) (hS' : Sl w a' xs') (c er : Int) (hv : cmpD k n s xs k' n' s' xs' = (c, er)) (her : er ≠ 0) :
    Calls Tryd.prog 7 #[.agg #[.int .i64 k, .int .i64 n, .string s, .slice a xs.length lc], .agg #[.int .i64 k', .int .i64 n', .string s', .slice a' xs'.length lc']] w fun e w' => e = .returned (.bool true) ∧ Below w.heap.size w w' := by
  have HL := Lib.hid hL; have HS := Lib.hid hS; have HS' := Lib.hid hS'; have HV := Lib.hid hv
  have hne : (er != 0) = true := by rw [bne_iff_ne]; exact her
  clear hL hS hS' hv her
  go_enter Tryd.func7, Tryd.ntmps7
  go_wp2_with fail
  refine (compare_any k n s a xs lc k' n' s' a' xs' lc' _ (HS.out.below (alloc2 _ _ _) (Nat.le_refl _)) (HS'.out.below (alloc2 _ _ _) (Nat.le_refl _))).mono ?_
  rw [HV.out]
  rintro e w1 ⟨rfl, hb1⟩
  have HB1 := Lib.hid hb1; clear hb1
  obtain ⟨⟨c0, c1, c2, c3⟩, d0, d1, d2, d3⟩ := box_cells2 (by simpa using HB1.out)
  go_wp2_with fail
  refine (bytes_some k n s a xs lc _ (HS.out.below (below_al2 _ _ HB1.out) (Nat.le_refl _))).mono ?_
  rintro e w2 ⟨⟨t2, er2, rfl⟩, hb2⟩
  have HB2 := Lib.hid (below_then HB1.out (Nat.le_refl _) hb2); clear hb2 c0 c1 c2 c3 d0 d1 d2 d3
  obtain ⟨⟨c0, c1, c2, c3⟩, d0, d1, d2, d3⟩ := box_cells2 (by simpa using HB2.out)
  go_wp2_with fail
  refine (bytes_some k' n' s' a' xs' lc' _ (HS'.out.below (below_al2 _ _ HB2.out) (Nat.le_refl _))).mono ?_
  rintro e w3 ⟨⟨t3, er3, rfl⟩, hb3⟩
  have HB3 := Lib.hid (below_then HB2.out (Nat.le_refl _) hb3); clear hb3 c0 c1 c2 c3 d0 d1 d2 d3
  obtain ⟨⟨c0, c1, c2, c3⟩, d0, d1, d2, d3⟩ := box_cells2 (by simpa using HB3.out)
  go_wp2_with fail
  refine (rcompare_any k n s a xs lc k' n' s' a' xs' lc' _ (HS.out.below (below_al2 _ _ HB3.out) (Nat.le_refl _)) (HS'.out.below (below_al2 _ _ HB3.out) (Nat.le_refl _))).mono ?_
  rw [HV.out]
  rintro e w4 ⟨rfl, hb4⟩
  have HB4 := Lib.hid (below_then HB3.out (Nat.le_refl _) hb4); clear hb4 c0 c1 c2 c3 d0 d1 d2 d3
  go_wp2_with fail
  refine (awake_any _ (HL.out.below (below_al2 _ _ HB4.out) HL.out.six)).mono ?_
  rintro e w5 ⟨rfl, hb5⟩
  go_wp2
  go_ret
  exact ⟨rfl, below_then (below_al2 _ _ HB4.out) (Nat.le_refl _) hb5⟩

theorem extract_toList (l l' : List UInt8) : (({ data := l'.toArray } : ByteArray).extract 0 l.length).toList = l'.take l.length := by
  rw [ByteArray.toList_eq, Lib.extract_data]
  simp

set_option maxHeartbeats 1600000 in
theorem stands_less (k n : Int) (s : ByteArray) (a : Option Addr) (xs : List It) (lc : Nat) (k' n' : Int) (s' : ByteArray) (a' : Option Addr) (xs' : List It) (lc' : Nat) (w : World) (hL : Laid w) (hS : Sl w a xs) (hS' : Sl w a' xs') (hv : cmpD k n s xs k' n' s' xs' = (-1, 0))
    (h1 : dOk k n s xs = true) (h2 : dOk k' n' s' xs' = true) (l l' : List UInt8) (hl : datB k n s xs = l) (hl' : datB k' n' s' xs' = l') (hp : Parts l l') :
    Calls Tryd.prog 7 #[.agg #[.int .i64 k, .int .i64 n, .string s, .slice a xs.length lc], .agg #[.int .i64 k', .int .i64 n', .string s', .slice a' xs'.length lc']] w fun e w' => e = .returned (.bool true) ∧ Below w.heap.size w w' := by
  have HL := Lib.hid hL; have HS := Lib.hid hS; have HS' := Lib.hid hS'; have HV := Lib.hid hv; have H1 := Lib.hid h1; have H2 := Lib.hid h2; have HLL := Lib.hid hl; have HLL' := Lib.hid hl'
  have hless := hp.less
  have hx : ((({ data := l'.toArray } : ByteArray).extract 0 l.length).toList == l) = false := by rw [beq_eq_false_iff_ne, extract_toList]; exact hp.apart.1
  clear hL hS hS' hv h1 h2 hl hl' hp
  go_enter Tryd.func7, Tryd.ntmps7
  go_wp2_with fail
  refine (compare_any k n s a xs lc k' n' s' a' xs' lc' _ (HS.out.below (alloc2 _ _ _) (Nat.le_refl _)) (HS'.out.below (alloc2 _ _ _) (Nat.le_refl _))).mono ?_
  rw [HV.out]
  rintro e w1 ⟨rfl, hb1⟩
  have HB1 := Lib.hid hb1; clear hb1
  obtain ⟨⟨c0, c1, c2, c3⟩, d0, d1, d2, d3⟩ := box_cells2 (by simpa using HB1.out)
  go_wp2_with fail
  refine (bytes_ok k n s a xs lc _ (HS.out.below (below_al2 _ _ HB1.out) (Nat.le_refl _)) H1.out).mono ?_
  rw [HLL.out]
  rintro e w2 ⟨rfl, hb2⟩
  have HB2 := Lib.hid (below_then HB1.out (Nat.le_refl _) hb2); clear hb2 c0 c1 c2 c3 d0 d1 d2 d3
  obtain ⟨⟨c0, c1, c2, c3⟩, d0, d1, d2, d3⟩ := box_cells2 (by simpa using HB2.out)
  go_wp2_with fail
  refine (bytes_ok k' n' s' a' xs' lc' _ (HS'.out.below (below_al2 _ _ HB2.out) (Nat.le_refl _)) H2.out).mono ?_
  rw [HLL'.out]
  rintro e w3 ⟨rfl, hb3⟩
  have HB3 := Lib.hid (below_then HB2.out (Nat.le_refl _) hb3); clear hb3 c0 c1 c2 c3 d0 d1 d2 d3
  go_wp2_with fail
  all_goals
    refine (awake_any _ (HL.out.below (below_al2 _ _ HB3.out) HL.out.six)).mono ?_
    rintro e w5 ⟨rfl, hb5⟩
    go_wp2
    go_ret
    exact ⟨rfl, below_then (below_al2 _ _ HB3.out) (Nat.le_refl _) hb5⟩

set_option maxHeartbeats 1600000 in
theorem stands_more (k n : Int) (s : ByteArray) (a : Option Addr) (xs : List It) (lc : Nat) (k' n' : Int) (s' : ByteArray) (a' : Option Addr) (xs' : List It) (lc' : Nat) (w : World) (hL : Laid w) (hS : Sl w a xs) (hS' : Sl w a' xs') (hv : cmpD k n s xs k' n' s' xs' = (1, 0))
    (h1 : dOk k n s xs = true) (h2 : dOk k' n' s' xs' = true) (l l' : List UInt8) (hl : datB k n s xs = l) (hl' : datB k' n' s' xs' = l') (hp : Parts l' l) :
    Calls Tryd.prog 7 #[.agg #[.int .i64 k, .int .i64 n, .string s, .slice a xs.length lc], .agg #[.int .i64 k', .int .i64 n', .string s', .slice a' xs'.length lc']] w fun e w' => e = .returned (.bool true) ∧ Below w.heap.size w w' := by
  have HL := Lib.hid hL; have HS := Lib.hid hS; have HS' := Lib.hid hS'; have HV := Lib.hid hv; have H1 := Lib.hid h1; have H2 := Lib.hid h2; have HLL := Lib.hid hl; have HLL' := Lib.hid hl'
  have hless := hp.not_less
  have hne : (l == l') = false := by rw [beq_eq_false_iff_ne]; exact fun e => hp.ne e.symm
  have hx : ((({ data := l'.toArray } : ByteArray).extract 0 l.length).toList == l) = false := by rw [beq_eq_false_iff_ne, extract_toList]; exact hp.apart.2
  clear hL hS hS' hv h1 h2 hl hl' hp
  go_enter Tryd.func7, Tryd.ntmps7
  go_wp2_with fail
  refine (compare_any k n s a xs lc k' n' s' a' xs' lc' _ (HS.out.below (alloc2 _ _ _) (Nat.le_refl _)) (HS'.out.below (alloc2 _ _ _) (Nat.le_refl _))).mono ?_
  rw [HV.out]
  rintro e w1 ⟨rfl, hb1⟩
  have HB1 := Lib.hid hb1; clear hb1
  obtain ⟨⟨c0, c1, c2, c3⟩, d0, d1, d2, d3⟩ := box_cells2 (by simpa using HB1.out)
  go_wp2_with fail
  refine (bytes_ok k n s a xs lc _ (HS.out.below (below_al2 _ _ HB1.out) (Nat.le_refl _)) H1.out).mono ?_
  rw [HLL.out]
  rintro e w2 ⟨rfl, hb2⟩
  have HB2 := Lib.hid (below_then HB1.out (Nat.le_refl _) hb2); clear hb2 c0 c1 c2 c3 d0 d1 d2 d3
  obtain ⟨⟨c0, c1, c2, c3⟩, d0, d1, d2, d3⟩ := box_cells2 (by simpa using HB2.out)
  go_wp2_with fail
  refine (bytes_ok k' n' s' a' xs' lc' _ (HS'.out.below (below_al2 _ _ HB2.out) (Nat.le_refl _)) H2.out).mono ?_
  rw [HLL'.out]
  rintro e w3 ⟨rfl, hb3⟩
  have HB3 := Lib.hid (below_then HB2.out (Nat.le_refl _) hb3); clear hb3 c0 c1 c2 c3 d0 d1 d2 d3
  go_wp2_with fail
  all_goals
    refine (awake_any _ (HL.out.below (below_al2 _ _ HB3.out) HL.out.six)).mono ?_
    rintro e w5 ⟨rfl, hb5⟩
    go_wp2
    go_ret
    exact ⟨rfl, below_then (below_al2 _ _ HB3.out) (Nat.le_refl _) hb5⟩

set_option maxHeartbeats 1600000 in
theorem stands_same (k n : Int) (s : ByteArray) (a : Option Addr) (xs : List It) (lc : Nat) (k' n' : Int) (s' : ByteArray) (a' : Option Addr) (xs' : List It) (lc' : Nat) (w : World) (hL : Laid w) (hS : Sl w a xs) (hS' : Sl w a' xs') (hv : cmpD k n s xs k' n' s' xs' = (0, 0))
    (h1 : dOk k n s xs = true) (h2 : dOk k' n' s' xs' = true) (l : List UInt8) (hl : datB k n s xs = l) (hl' : datB k' n' s' xs' = l) :
    Calls Tryd.prog 7 #[.agg #[.int .i64 k, .int .i64 n, .string s, .slice a xs.length lc], .agg #[.int .i64 k', .int .i64 n', .string s', .slice a' xs'.length lc']] w fun e w' => e = .returned (.bool true) ∧ Below w.heap.size w w' := by
  have HL := Lib.hid hL; have HS := Lib.hid hS; have HS' := Lib.hid hS'; have HV := Lib.hid hv; have H1 := Lib.hid h1; have H2 := Lib.hid h2; have HLL := Lib.hid hl; have HLL' := Lib.hid hl'
  have hless := bytesLess_self l
  have hx : (({ data := l.toArray } : ByteArray).extract 0 l.length).toList = l := by rw [extract_toList]; simp
  clear hL hS hS' hv h1 h2 hl hl' 
  go_enter Tryd.func7, Tryd.ntmps7
  go_wp2_with fail
  refine (compare_any k n s a xs lc k' n' s' a' xs' lc' _ (HS.out.below (alloc2 _ _ _) (Nat.le_refl _)) (HS'.out.below (alloc2 _ _ _) (Nat.le_refl _))).mono ?_
  rw [HV.out]
  rintro e w1 ⟨rfl, hb1⟩
  have HB1 := Lib.hid hb1; clear hb1
  obtain ⟨⟨c0, c1, c2, c3⟩, d0, d1, d2, d3⟩ := box_cells2 (by simpa using HB1.out)
  go_wp2_with fail
  refine (bytes_ok k n s a xs lc _ (HS.out.below (below_al2 _ _ HB1.out) (Nat.le_refl _)) H1.out).mono ?_
  rw [HLL.out]
  rintro e w2 ⟨rfl, hb2⟩
  have HB2 := Lib.hid (below_then HB1.out (Nat.le_refl _) hb2); clear hb2 c0 c1 c2 c3 d0 d1 d2 d3
  obtain ⟨⟨c0, c1, c2, c3⟩, d0, d1, d2, d3⟩ := box_cells2 (by simpa using HB2.out)
  go_wp2_with fail
  refine (bytes_ok k' n' s' a' xs' lc' _ (HS'.out.below (below_al2 _ _ HB2.out) (Nat.le_refl _)) H2.out).mono ?_
  rw [HLL'.out]
  rintro e w3 ⟨rfl, hb3⟩
  have HB3 := Lib.hid (below_then HB2.out (Nat.le_refl _) hb3); clear hb3 c0 c1 c2 c3 d0 d1 d2 d3
  go_wp2_with fail
  refine (awake_any _ (HL.out.below (below_al2 _ _ HB3.out) HL.out.six)).mono ?_
  rintro e w5 ⟨rfl, hb5⟩
  go_wp2
  go_ret
  exact ⟨rfl, below_then (below_al2 _ _ HB3.out) (Nat.le_refl _) hb5⟩


theorem stands_any (k n : Int) (s : ByteArray) (a : Option Addr) (xs : List It) (lc : Nat) (k' n' : Int) (s' : ByteArray) (a' : Option Addr) (xs' : List It) (lc' : Nat) (w : World) (hL : Laid w) (hS : Sl w a xs) (hS' : Sl w a' xs') (hn : I64 n) (hn' : I64 n') :
    Calls Tryd.prog 7 #[.agg #[.int .i64 k, .int .i64 n, .string s, .slice a xs.length lc], .agg #[.int .i64 k', .int .i64 n', .string s', .slice a' xs'.length lc']] w fun e w' => e = .returned (.bool true) ∧ Below w.heap.size w w' := by
  by_cases hno : dOk k n s xs = false ∨ dOk k' n' s' xs' = false
  · exact stands_err k n s a xs lc k' n' s' a' xs' lc' w hL hS hS' 0 11 (by rw [cmpD, if_pos hno]) (by decide)
  · by_cases h3 : k = 3 ∨ k' = 3
    · exact stands_err k n s a xs lc k' n' s' a' xs' lc' w hL hS hS' 0 10 (by rw [cmpD, if_neg hno, if_pos h3]) (by decide)
    · have h1 : dOk k n s xs = true := by cases h : dOk k n s xs <;> simp_all
      have h2 : dOk k' n' s' xs' = true := by cases h : dOk k' n' s' xs' <;> simp_all
      have k3 : k ≠ 3 := fun h => h3 (.inl h)
      have k3' : k' ≠ 3 := fun h => h3 (.inr h)
      have i1 : itemOk k n s 0 = true := by
        have := itemOk_true (show itemOk k n s xs.length = true by simpa [dOk, k3] using h1)
        exact itemOk_of ⟨by omega, this.2⟩
      have i2 : itemOk k' n' s' 0 = true := by
        have := itemOk_true (show itemOk k' n' s' xs'.length = true by simpa [dOk, k3'] using h2)
        exact itemOk_of ⟨by omega, this.2⟩
      have b1 : datB k n s xs = itemB k n s := by rw [datB, if_neg k3]
      have b2 : datB k' n' s' xs' = itemB k' n' s' := by rw [datB, if_neg k3']
      have hv : ∀ c, ordR k n s k' n' s' = c → cmpD k n s xs k' n' s' xs' = (c, 0) := fun c hc => by rw [cmpD, if_neg hno, if_neg h3, hc]
      rcases itemB_order i1 i2 hn hn' with ⟨hc, hp⟩ | ⟨hc, hp⟩ | ⟨hc, rfl, rfl, rfl⟩
      · exact stands_less k n s a xs lc k' n' s' a' xs' lc' w hL hS hS' (hv _ hc) h1 h2 _ _ b1 b2 hp
      · exact stands_more k n s a xs lc k' n' s' a' xs' lc' w hL hS hS' (hv _ hc) h1 h2 _ _ b1 b2 hp
      · exact stands_same k n s a xs lc k n s a' xs' lc' w hL hS hS' (hv _ hc) h1 h2 _ b1 b2
end Go.Proofs.YtoiahhfjejddjaaDoor
