/- The walk of DatumLine: for every three data that came in it answers true; other memory stands. -/
import Derived.Test.YtoiahhfjejddjaaDoorOrd
import Derived.Test.YtoiahhfjejddjaaDoorN
import Derived.Test.YtoiahhfjejddjaaDoorSame
set_option maxRecDepth 100000
namespace Go.Proofs.YtoiahhfjejddjaaDoor
open Go Go.RowKit

/-- Three data's boxes. -/
theorem box_cells3 {w wr : World} {v0 v1 v2 v3 u0 u1 u2 u3 t0 t1 t2 t3 : Value} {T U R : TypeId} (hb : Below (w.heap.size + 1 + 1 + 1) (((w.alloc (.cells #[v0, v1, v2, v3] T)).alloc (.cells #[u0, u1, u2, u3] U)).alloc (.cells #[t0, t1, t2, t3] R)) wr) :
    (wr.cell? ⟨w.heap.size, 0, none⟩ = some v0 ∧ wr.cell? ⟨w.heap.size, 1, none⟩ = some v1 ∧ wr.cell? ⟨w.heap.size, 2, none⟩ = some v2 ∧ wr.cell? ⟨w.heap.size, 3, none⟩ = some v3) ∧
    (wr.cell? ⟨w.heap.size + 1, 0, none⟩ = some u0 ∧ wr.cell? ⟨w.heap.size + 1, 1, none⟩ = some u1 ∧ wr.cell? ⟨w.heap.size + 1, 2, none⟩ = some u2 ∧ wr.cell? ⟨w.heap.size + 1, 3, none⟩ = some u3) ∧
    (wr.cell? ⟨w.heap.size + 1 + 1, 0, none⟩ = some t0 ∧ wr.cell? ⟨w.heap.size + 1 + 1, 1, none⟩ = some t1 ∧ wr.cell? ⟨w.heap.size + 1 + 1, 2, none⟩ = some t2 ∧ wr.cell? ⟨w.heap.size + 1 + 1, 3, none⟩ = some t3) := by
  obtain ⟨h1, h2⟩ := box_cells2 (((Below.refl (w.heap.size + 1 + 1) _).alloc (by simp) _).trans (hb.mono (by omega)))
  refine ⟨h1, h2, ?_⟩
  have := box_cells (w := (w.alloc (.cells #[v0, v1, v2, v3] T)).alloc (.cells #[u0, u1, u2, u3] U)) (wr := wr) (v0 := t0) (v1 := t1) (v2 := t2) (v3 := t3) (T := R) (by simpa using hb)
  simpa using this
theorem alloc3 (w : World) (o1 o2 o3 : Obj) : Below w.heap.size w (((w.alloc o1).alloc o2).alloc o3) := (((Below.refl _ _).alloc (Nat.le_refl _) _).alloc (by simp) _).alloc (by simp; omega) _
theorem below_al3 {w w' : World} (o1 o2 o3 : Obj) (h : Below (((w.alloc o1).alloc o2).alloc o3).heap.size (((w.alloc o1).alloc o2).alloc o3) w') : Below w.heap.size w w' :=
  below_al o1 (below_al2 o2 o3 h)

theorem bytesLess_trans : ∀ (a b c : List UInt8), Op.bytesLess a b = true → Op.bytesLess b c = true → Op.bytesLess a c = true
  | _, [], _, h, _ => by simp [Op.bytesLess] at h
  | _, _ :: _, [], _, h => by simp [Op.bytesLess] at h
  | [], _ :: _, _ :: _, _, _ => by simp [Op.bytesLess]
  | x :: a, y :: b, z :: c, h1, h2 => by
    simp only [Op.bytesLess, Bool.or_eq_true, decide_eq_true_eq, Bool.and_eq_true, beq_iff_eq] at h1 h2 ⊢
    rcases h1 with h1 | ⟨rfl, h1⟩
    · rcases h2 with h2 | ⟨rfl, h2⟩
      · left; rw [UInt8.lt_iff_toNat_lt] at h1 h2 ⊢; omega
      · left; exact h1
    · rcases h2 with h2 | ⟨rfl, h2⟩
      · left; exact h2
      · right; exact ⟨rfl, bytesLess_trans a b c h1 h2⟩

theorem ordR_range (k n : Int) (s : ByteArray) (k' n' : Int) (s' : ByteArray) : -1 ≤ ordR k n s k' n' s' ∧ ordR k n s k' n' s' ≤ 1 := by
  unfold ordR
  split
  · split <;> omega
  · split
    · omega
    · split <;> omega

/-- The order of three items is one. -/
theorem ordR_line {k n : Int} {s : ByteArray} {k' n' : Int} {s' : ByteArray} {k2 n2 : Int} {s2 : ByteArray} (h1 : itemOk k n s 0 = true) (h2 : itemOk k' n' s' 0 = true) (h3 : itemOk k2 n2 s2 0 = true) (q1 : I64 n) (q2 : I64 n') (q3 : I64 n2) :
    ordR k' n' s' k n s = - ordR k n s k' n' s' ∧ (0 < ordR k n s k' n' s' ∨ 0 < ordR k' n' s' k2 n2 s2 ∨ ordR k n s k2 n2 s2 ≤ 0) ∧ (ordR k n s k' n' s' = 0 → k = k' ∧ n = n' ∧ s = s') ∧ (k = k' ∧ n = n' ∧ s = s' → ordR k n s k' n' s' = 0) := by
  have self : ∀ {k n : Int} {s : ByteArray}, itemOk k n s 0 = true → I64 n → ordR k n s k n s = 0 := fun {k n s} h q => by
    rcases itemB_order h h q q with ⟨_, p⟩ | ⟨_, p⟩ | ⟨e, _⟩
    · exact absurd rfl p.ne
    · exact absurd rfl p.ne
    · exact e
  refine ⟨?_, ?_, ?_, ?_⟩
  · rcases itemB_order h1 h2 q1 q2 with ⟨e, p⟩ | ⟨e, p⟩ | ⟨e, rfl, rfl, rfl⟩
    · rcases itemB_order h2 h1 q2 q1 with ⟨e', p'⟩ | ⟨e', p'⟩ | ⟨e', rfl, rfl, rfl⟩
      · have := p.not_less; rw [p'.less] at this; exact Bool.noConfusion this
      · omega
      · exact absurd rfl p.ne
    · rcases itemB_order h2 h1 q2 q1 with ⟨e', p'⟩ | ⟨e', p'⟩ | ⟨e', rfl, rfl, rfl⟩
      · omega
      · have := p.not_less; rw [p'.less] at this; exact Bool.noConfusion this
      · exact absurd rfl p.ne
    · omega
  · rcases itemB_order h1 h2 q1 q2 with ⟨e, p⟩ | ⟨e, p⟩ | ⟨e, rfl, rfl, rfl⟩
    · rcases itemB_order h2 h3 q2 q3 with ⟨e', p'⟩ | ⟨e', p'⟩ | ⟨e', rfl, rfl, rfl⟩
      · right; right
        have hl := bytesLess_trans _ _ _ p.less p'.less
        rcases itemB_order h1 h3 q1 q3 with ⟨e2, p2⟩ | ⟨e2, p2⟩ | ⟨e2, _⟩
        · omega
        · rw [p2.not_less] at hl; exact Bool.noConfusion hl
        · omega
      · right; left; omega
      · right; right; omega
    · left; omega
    · rcases itemB_order h1 h3 q1 q3 with ⟨e', p'⟩ | ⟨e', p'⟩ | ⟨e', _⟩
      · right; right; omega
      · right; left; omega
      · right; right; omega
  · intro e
    rcases itemB_order h1 h2 q1 q2 with ⟨e', _⟩ | ⟨e', _⟩ | ⟨_, r⟩
    · omega
    · omega
    · exact r
  · rintro ⟨rfl, rfl, rfl⟩
    exact self h1 q1

set_option maxHeartbeats 1600000 in
theorem line_err1 (k n : Int) (s : ByteArray) (a : Option Addr) (xs : List It) (lc : Nat) (k' n' : Int) (s' : ByteArray) (a' : Option Addr) (xs' : List It) (lc' : Nat) (k2 n2 : Int) (s2 : ByteArray) (a2 : Option Addr) (xs2 : List It) (lc2 : Nat) (w : World) (hL : Laid w) (hS : Sl w a xs) (hS' : Sl w a' xs') (hS2 : Sl w a2 xs2) (x y z r h er f g : Int) (v1 : cmpD k n s xs k' n' s' xs' = (x, er)) (v2 : cmpD k' n' s' xs' k2 n2 s2 xs2 = (y, f)) (v3 : cmpD k n s xs k2 n2 s2 xs2 = (z, g)) (v4 : cmpD k' n' s' xs' k n s xs = (r, h)) (her : (er != 0) = true) :
    Calls Tryd.prog 8 #[.agg #[.int .i64 k, .int .i64 n, .string s, .slice a xs.length lc], .agg #[.int .i64 k', .int .i64 n', .string s', .slice a' xs'.length lc'], .agg #[.int .i64 k2, .int .i64 n2, .string s2, .slice a2 xs2.length lc2]] w fun e w' => e = .returned (.bool true) ∧ Below w.heap.size w w' := by
  have HL := Lib.hid hL; have HS := Lib.hid hS; have HS' := Lib.hid hS'; have HS2 := Lib.hid hS2; have V1 := Lib.hid v1; have V2 := Lib.hid v2; have V3 := Lib.hid v3; have V4 := Lib.hid v4
  clear hL hS hS' hS2 v1 v2 v3 v4
  go_enter Tryd.func8, Tryd.ntmps8
  go_wp2_with fail
  refine (compare_any k n s a xs lc k' n' s' a' xs' lc' _ (HS.out.below (alloc3 _ _ _ _) (Nat.le_refl _)) (HS'.out.below (alloc3 _ _ _ _) (Nat.le_refl _))).mono ?_
  rw [V1.out]
  rintro e w1 ⟨rfl, hb1⟩
  have HB1 := Lib.hid hb1; clear hb1
  obtain ⟨⟨c0, c1, c2, c3⟩, ⟨d0, d1, d2, d3⟩, e0, e1, e2, e3⟩ := box_cells3 (by simpa using HB1.out)
  go_wp2_with fail
  refine (compare_any k' n' s' a' xs' lc' k2 n2 s2 a2 xs2 lc2 _ (HS'.out.below (below_al3 _ _ _ HB1.out) (Nat.le_refl _)) (HS2.out.below (below_al3 _ _ _ HB1.out) (Nat.le_refl _))).mono ?_
  rw [V2.out]
  rintro e w2 ⟨rfl, hb2⟩
  have HB2 := Lib.hid (below_then HB1.out (Nat.le_refl _) hb2); clear hb2
  clear c0 c1 c2 c3 d0 d1 d2 d3 e0 e1 e2 e3
  obtain ⟨⟨c0, c1, c2, c3⟩, ⟨d0, d1, d2, d3⟩, e0, e1, e2, e3⟩ := box_cells3 (by simpa using HB2.out)
  go_wp2_with fail
  refine (compare_any k n s a xs lc k2 n2 s2 a2 xs2 lc2 _ (HS.out.below (below_al3 _ _ _ HB2.out) (Nat.le_refl _)) (HS2.out.below (below_al3 _ _ _ HB2.out) (Nat.le_refl _))).mono ?_
  rw [V3.out]
  rintro e w3 ⟨rfl, hb3⟩
  have HB3 := Lib.hid (below_then HB2.out (Nat.le_refl _) hb3); clear hb3
  clear c0 c1 c2 c3 d0 d1 d2 d3 e0 e1 e2 e3
  obtain ⟨⟨c0, c1, c2, c3⟩, ⟨d0, d1, d2, d3⟩, e0, e1, e2, e3⟩ := box_cells3 (by simpa using HB3.out)
  go_wp2_with fail
  refine (compare_any k' n' s' a' xs' lc' k n s a xs lc _ (HS'.out.below (below_al3 _ _ _ HB3.out) (Nat.le_refl _)) (HS.out.below (below_al3 _ _ _ HB3.out) (Nat.le_refl _))).mono ?_
  rw [V4.out]
  rintro e w4 ⟨rfl, hb4⟩
  have HB4 := Lib.hid (below_then HB3.out (Nat.le_refl _) hb4); clear hb4
  clear c0 c1 c2 c3 d0 d1 d2 d3 e0 e1 e2 e3
  obtain ⟨⟨c0, c1, c2, c3⟩, ⟨d0, d1, d2, d3⟩, e0, e1, e2, e3⟩ := box_cells3 (by simpa using HB4.out)
  go_wp2_with fail
  refine (rcompare_any k n s a xs lc k' n' s' a' xs' lc' _ (HS.out.below (below_al3 _ _ _ HB4.out) (Nat.le_refl _)) (HS'.out.below (below_al3 _ _ _ HB4.out) (Nat.le_refl _))).mono ?_
  rw [V1.out]
  rintro e w5 ⟨rfl, hb5⟩
  have HB5 := Lib.hid (below_then HB4.out (Nat.le_refl _) hb5); clear hb5
  clear c0 c1 c2 c3 d0 d1 d2 d3 e0 e1 e2 e3
  obtain ⟨⟨c0, c1, c2, c3⟩, ⟨d0, d1, d2, d3⟩, e0, e1, e2, e3⟩ := box_cells3 (by simpa using HB5.out)
  go_wp2_with fail
  refine (rcompare_any k' n' s' a' xs' lc' k2 n2 s2 a2 xs2 lc2 _ (HS'.out.below (below_al3 _ _ _ HB5.out) (Nat.le_refl _)) (HS2.out.below (below_al3 _ _ _ HB5.out) (Nat.le_refl _))).mono ?_
  rw [V2.out]
  rintro e w6 ⟨rfl, hb6⟩
  have HB6 := Lib.hid (below_then HB5.out (Nat.le_refl _) hb6); clear hb6
  clear c0 c1 c2 c3 d0 d1 d2 d3 e0 e1 e2 e3
  obtain ⟨⟨c0, c1, c2, c3⟩, ⟨d0, d1, d2, d3⟩, e0, e1, e2, e3⟩ := box_cells3 (by simpa using HB6.out)
  go_wp2_with fail
  refine (rcompare_any k n s a xs lc k2 n2 s2 a2 xs2 lc2 _ (HS.out.below (below_al3 _ _ _ HB6.out) (Nat.le_refl _)) (HS2.out.below (below_al3 _ _ _ HB6.out) (Nat.le_refl _))).mono ?_
  rw [V3.out]
  rintro e w7 ⟨rfl, hb7⟩
  have HB7 := Lib.hid (below_then HB6.out (Nat.le_refl _) hb7); clear hb7
  clear c0 c1 c2 c3 d0 d1 d2 d3 e0 e1 e2 e3
  go_wp2_with fail
  refine (awake_any _ (HL.out.below (below_al3 _ _ _ HB7.out) HL.out.six)).mono ?_
  rintro e w8 ⟨rfl, hb8⟩
  go_wp2
  go_ret
  exact ⟨rfl, below_then (below_al3 _ _ _ HB7.out) (Nat.le_refl _) hb8⟩

set_option maxHeartbeats 1600000 in
theorem line_err2 (k n : Int) (s : ByteArray) (a : Option Addr) (xs : List It) (lc : Nat) (k' n' : Int) (s' : ByteArray) (a' : Option Addr) (xs' : List It) (lc' : Nat) (k2 n2 : Int) (s2 : ByteArray) (a2 : Option Addr) (xs2 : List It) (lc2 : Nat) (w : World) (hL : Laid w) (hS : Sl w a xs) (hS' : Sl w a' xs') (hS2 : Sl w a2 xs2) (x y z r h f g : Int) (v1 : cmpD k n s xs k' n' s' xs' = (x, 0)) (v2 : cmpD k' n' s' xs' k2 n2 s2 xs2 = (y, f)) (v3 : cmpD k n s xs k2 n2 s2 xs2 = (z, g)) (v4 : cmpD k' n' s' xs' k n s xs = (r, h)) (hf : (f != 0) = true) :
    Calls Tryd.prog 8 #[.agg #[.int .i64 k, .int .i64 n, .string s, .slice a xs.length lc], .agg #[.int .i64 k', .int .i64 n', .string s', .slice a' xs'.length lc'], .agg #[.int .i64 k2, .int .i64 n2, .string s2, .slice a2 xs2.length lc2]] w fun e w' => e = .returned (.bool true) ∧ Below w.heap.size w w' := by
  have HL := Lib.hid hL; have HS := Lib.hid hS; have HS' := Lib.hid hS'; have HS2 := Lib.hid hS2; have V1 := Lib.hid v1; have V2 := Lib.hid v2; have V3 := Lib.hid v3; have V4 := Lib.hid v4
  clear hL hS hS' hS2 v1 v2 v3 v4
  go_enter Tryd.func8, Tryd.ntmps8
  go_wp2_with fail
  refine (compare_any k n s a xs lc k' n' s' a' xs' lc' _ (HS.out.below (alloc3 _ _ _ _) (Nat.le_refl _)) (HS'.out.below (alloc3 _ _ _ _) (Nat.le_refl _))).mono ?_
  rw [V1.out]
  rintro e w1 ⟨rfl, hb1⟩
  have HB1 := Lib.hid hb1; clear hb1
  obtain ⟨⟨c0, c1, c2, c3⟩, ⟨d0, d1, d2, d3⟩, e0, e1, e2, e3⟩ := box_cells3 (by simpa using HB1.out)
  go_wp2_with fail
  refine (compare_any k' n' s' a' xs' lc' k2 n2 s2 a2 xs2 lc2 _ (HS'.out.below (below_al3 _ _ _ HB1.out) (Nat.le_refl _)) (HS2.out.below (below_al3 _ _ _ HB1.out) (Nat.le_refl _))).mono ?_
  rw [V2.out]
  rintro e w2 ⟨rfl, hb2⟩
  have HB2 := Lib.hid (below_then HB1.out (Nat.le_refl _) hb2); clear hb2
  clear c0 c1 c2 c3 d0 d1 d2 d3 e0 e1 e2 e3
  obtain ⟨⟨c0, c1, c2, c3⟩, ⟨d0, d1, d2, d3⟩, e0, e1, e2, e3⟩ := box_cells3 (by simpa using HB2.out)
  go_wp2_with fail
  refine (compare_any k n s a xs lc k2 n2 s2 a2 xs2 lc2 _ (HS.out.below (below_al3 _ _ _ HB2.out) (Nat.le_refl _)) (HS2.out.below (below_al3 _ _ _ HB2.out) (Nat.le_refl _))).mono ?_
  rw [V3.out]
  rintro e w3 ⟨rfl, hb3⟩
  have HB3 := Lib.hid (below_then HB2.out (Nat.le_refl _) hb3); clear hb3
  clear c0 c1 c2 c3 d0 d1 d2 d3 e0 e1 e2 e3
  obtain ⟨⟨c0, c1, c2, c3⟩, ⟨d0, d1, d2, d3⟩, e0, e1, e2, e3⟩ := box_cells3 (by simpa using HB3.out)
  go_wp2_with fail
  refine (compare_any k' n' s' a' xs' lc' k n s a xs lc _ (HS'.out.below (below_al3 _ _ _ HB3.out) (Nat.le_refl _)) (HS.out.below (below_al3 _ _ _ HB3.out) (Nat.le_refl _))).mono ?_
  rw [V4.out]
  rintro e w4 ⟨rfl, hb4⟩
  have HB4 := Lib.hid (below_then HB3.out (Nat.le_refl _) hb4); clear hb4
  clear c0 c1 c2 c3 d0 d1 d2 d3 e0 e1 e2 e3
  obtain ⟨⟨c0, c1, c2, c3⟩, ⟨d0, d1, d2, d3⟩, e0, e1, e2, e3⟩ := box_cells3 (by simpa using HB4.out)
  go_wp2_with fail
  refine (rcompare_any k n s a xs lc k' n' s' a' xs' lc' _ (HS.out.below (below_al3 _ _ _ HB4.out) (Nat.le_refl _)) (HS'.out.below (below_al3 _ _ _ HB4.out) (Nat.le_refl _))).mono ?_
  rw [V1.out]
  rintro e w5 ⟨rfl, hb5⟩
  have HB5 := Lib.hid (below_then HB4.out (Nat.le_refl _) hb5); clear hb5
  clear c0 c1 c2 c3 d0 d1 d2 d3 e0 e1 e2 e3
  obtain ⟨⟨c0, c1, c2, c3⟩, ⟨d0, d1, d2, d3⟩, e0, e1, e2, e3⟩ := box_cells3 (by simpa using HB5.out)
  go_wp2_with fail
  refine (rcompare_any k' n' s' a' xs' lc' k2 n2 s2 a2 xs2 lc2 _ (HS'.out.below (below_al3 _ _ _ HB5.out) (Nat.le_refl _)) (HS2.out.below (below_al3 _ _ _ HB5.out) (Nat.le_refl _))).mono ?_
  rw [V2.out]
  rintro e w6 ⟨rfl, hb6⟩
  have HB6 := Lib.hid (below_then HB5.out (Nat.le_refl _) hb6); clear hb6
  clear c0 c1 c2 c3 d0 d1 d2 d3 e0 e1 e2 e3
  obtain ⟨⟨c0, c1, c2, c3⟩, ⟨d0, d1, d2, d3⟩, e0, e1, e2, e3⟩ := box_cells3 (by simpa using HB6.out)
  go_wp2_with fail
  refine (rcompare_any k n s a xs lc k2 n2 s2 a2 xs2 lc2 _ (HS.out.below (below_al3 _ _ _ HB6.out) (Nat.le_refl _)) (HS2.out.below (below_al3 _ _ _ HB6.out) (Nat.le_refl _))).mono ?_
  rw [V3.out]
  rintro e w7 ⟨rfl, hb7⟩
  have HB7 := Lib.hid (below_then HB6.out (Nat.le_refl _) hb7); clear hb7
  clear c0 c1 c2 c3 d0 d1 d2 d3 e0 e1 e2 e3
  go_wp2_with fail
  refine (awake_any _ (HL.out.below (below_al3 _ _ _ HB7.out) HL.out.six)).mono ?_
  rintro e w8 ⟨rfl, hb8⟩
  go_wp2
  go_ret
  exact ⟨rfl, below_then (below_al3 _ _ _ HB7.out) (Nat.le_refl _) hb8⟩

set_option maxHeartbeats 1600000 in
theorem line_err3 (k n : Int) (s : ByteArray) (a : Option Addr) (xs : List It) (lc : Nat) (k' n' : Int) (s' : ByteArray) (a' : Option Addr) (xs' : List It) (lc' : Nat) (k2 n2 : Int) (s2 : ByteArray) (a2 : Option Addr) (xs2 : List It) (lc2 : Nat) (w : World) (hL : Laid w) (hS : Sl w a xs) (hS' : Sl w a' xs') (hS2 : Sl w a2 xs2) (x y z r h g : Int) (v1 : cmpD k n s xs k' n' s' xs' = (x, 0)) (v2 : cmpD k' n' s' xs' k2 n2 s2 xs2 = (y, 0)) (v3 : cmpD k n s xs k2 n2 s2 xs2 = (z, g)) (v4 : cmpD k' n' s' xs' k n s xs = (r, h)) (hg : (g != 0) = true) :
    Calls Tryd.prog 8 #[.agg #[.int .i64 k, .int .i64 n, .string s, .slice a xs.length lc], .agg #[.int .i64 k', .int .i64 n', .string s', .slice a' xs'.length lc'], .agg #[.int .i64 k2, .int .i64 n2, .string s2, .slice a2 xs2.length lc2]] w fun e w' => e = .returned (.bool true) ∧ Below w.heap.size w w' := by
  have HL := Lib.hid hL; have HS := Lib.hid hS; have HS' := Lib.hid hS'; have HS2 := Lib.hid hS2; have V1 := Lib.hid v1; have V2 := Lib.hid v2; have V3 := Lib.hid v3; have V4 := Lib.hid v4
  clear hL hS hS' hS2 v1 v2 v3 v4
  go_enter Tryd.func8, Tryd.ntmps8
  go_wp2_with fail
  refine (compare_any k n s a xs lc k' n' s' a' xs' lc' _ (HS.out.below (alloc3 _ _ _ _) (Nat.le_refl _)) (HS'.out.below (alloc3 _ _ _ _) (Nat.le_refl _))).mono ?_
  rw [V1.out]
  rintro e w1 ⟨rfl, hb1⟩
  have HB1 := Lib.hid hb1; clear hb1
  obtain ⟨⟨c0, c1, c2, c3⟩, ⟨d0, d1, d2, d3⟩, e0, e1, e2, e3⟩ := box_cells3 (by simpa using HB1.out)
  go_wp2_with fail
  refine (compare_any k' n' s' a' xs' lc' k2 n2 s2 a2 xs2 lc2 _ (HS'.out.below (below_al3 _ _ _ HB1.out) (Nat.le_refl _)) (HS2.out.below (below_al3 _ _ _ HB1.out) (Nat.le_refl _))).mono ?_
  rw [V2.out]
  rintro e w2 ⟨rfl, hb2⟩
  have HB2 := Lib.hid (below_then HB1.out (Nat.le_refl _) hb2); clear hb2
  clear c0 c1 c2 c3 d0 d1 d2 d3 e0 e1 e2 e3
  obtain ⟨⟨c0, c1, c2, c3⟩, ⟨d0, d1, d2, d3⟩, e0, e1, e2, e3⟩ := box_cells3 (by simpa using HB2.out)
  go_wp2_with fail
  refine (compare_any k n s a xs lc k2 n2 s2 a2 xs2 lc2 _ (HS.out.below (below_al3 _ _ _ HB2.out) (Nat.le_refl _)) (HS2.out.below (below_al3 _ _ _ HB2.out) (Nat.le_refl _))).mono ?_
  rw [V3.out]
  rintro e w3 ⟨rfl, hb3⟩
  have HB3 := Lib.hid (below_then HB2.out (Nat.le_refl _) hb3); clear hb3
  clear c0 c1 c2 c3 d0 d1 d2 d3 e0 e1 e2 e3
  obtain ⟨⟨c0, c1, c2, c3⟩, ⟨d0, d1, d2, d3⟩, e0, e1, e2, e3⟩ := box_cells3 (by simpa using HB3.out)
  go_wp2_with fail
  refine (compare_any k' n' s' a' xs' lc' k n s a xs lc _ (HS'.out.below (below_al3 _ _ _ HB3.out) (Nat.le_refl _)) (HS.out.below (below_al3 _ _ _ HB3.out) (Nat.le_refl _))).mono ?_
  rw [V4.out]
  rintro e w4 ⟨rfl, hb4⟩
  have HB4 := Lib.hid (below_then HB3.out (Nat.le_refl _) hb4); clear hb4
  clear c0 c1 c2 c3 d0 d1 d2 d3 e0 e1 e2 e3
  obtain ⟨⟨c0, c1, c2, c3⟩, ⟨d0, d1, d2, d3⟩, e0, e1, e2, e3⟩ := box_cells3 (by simpa using HB4.out)
  go_wp2_with fail
  refine (rcompare_any k n s a xs lc k' n' s' a' xs' lc' _ (HS.out.below (below_al3 _ _ _ HB4.out) (Nat.le_refl _)) (HS'.out.below (below_al3 _ _ _ HB4.out) (Nat.le_refl _))).mono ?_
  rw [V1.out]
  rintro e w5 ⟨rfl, hb5⟩
  have HB5 := Lib.hid (below_then HB4.out (Nat.le_refl _) hb5); clear hb5
  clear c0 c1 c2 c3 d0 d1 d2 d3 e0 e1 e2 e3
  obtain ⟨⟨c0, c1, c2, c3⟩, ⟨d0, d1, d2, d3⟩, e0, e1, e2, e3⟩ := box_cells3 (by simpa using HB5.out)
  go_wp2_with fail
  refine (rcompare_any k' n' s' a' xs' lc' k2 n2 s2 a2 xs2 lc2 _ (HS'.out.below (below_al3 _ _ _ HB5.out) (Nat.le_refl _)) (HS2.out.below (below_al3 _ _ _ HB5.out) (Nat.le_refl _))).mono ?_
  rw [V2.out]
  rintro e w6 ⟨rfl, hb6⟩
  have HB6 := Lib.hid (below_then HB5.out (Nat.le_refl _) hb6); clear hb6
  clear c0 c1 c2 c3 d0 d1 d2 d3 e0 e1 e2 e3
  obtain ⟨⟨c0, c1, c2, c3⟩, ⟨d0, d1, d2, d3⟩, e0, e1, e2, e3⟩ := box_cells3 (by simpa using HB6.out)
  go_wp2_with fail
  refine (rcompare_any k n s a xs lc k2 n2 s2 a2 xs2 lc2 _ (HS.out.below (below_al3 _ _ _ HB6.out) (Nat.le_refl _)) (HS2.out.below (below_al3 _ _ _ HB6.out) (Nat.le_refl _))).mono ?_
  rw [V3.out]
  rintro e w7 ⟨rfl, hb7⟩
  have HB7 := Lib.hid (below_then HB6.out (Nat.le_refl _) hb7); clear hb7
  clear c0 c1 c2 c3 d0 d1 d2 d3 e0 e1 e2 e3
  go_wp2_with fail
  refine (awake_any _ (HL.out.below (below_al3 _ _ _ HB7.out) HL.out.six)).mono ?_
  rintro e w8 ⟨rfl, hb8⟩
  go_wp2
  go_ret
  exact ⟨rfl, below_then (below_al3 _ _ _ HB7.out) (Nat.le_refl _) hb8⟩

set_option maxHeartbeats 1600000 in
theorem line_ok1 (k n : Int) (s : ByteArray) (a : Option Addr) (lc : Nat) (k' n' : Int) (s' : ByteArray) (a' : Option Addr) (lc' : Nat) (k2 n2 : Int) (s2 : ByteArray) (a2 : Option Addr) (lc2 : Nat) (w : World) (hL : Laid w) (hS : Sl w a []) (hS' : Sl w a' []) (hS2 : Sl w a2 []) (x y z : Int) (v1 : cmpD k n s [] k' n' s' [] = (x, 0)) (v2 : cmpD k' n' s' [] k2 n2 s2 [] = (y, 0)) (v3 : cmpD k n s [] k2 n2 s2 [] = (z, 0)) (v4 : cmpD k' n' s' [] k n s [] = (-x, 0)) (hx1 : -1 ≤ x) (hx2 : x ≤ 1) (HD : Hid (k ≠ k' ∨ n ≠ n' ∨ s ≠ s')) (hxb : (x != 0) = true) (hxc : (x == 0) = false) (hx : 0 < x) :
    Calls Tryd.prog 8 #[.agg #[.int .i64 k, .int .i64 n, .string s, .slice a 0 lc], .agg #[.int .i64 k', .int .i64 n', .string s', .slice a' 0 lc'], .agg #[.int .i64 k2, .int .i64 n2, .string s2, .slice a2 0 lc2]] w fun e w' => e = .returned (.bool true) ∧ Below w.heap.size w w' := by
  have HL := Lib.hid hL; have HS := Lib.hid hS; have HS' := Lib.hid hS'; have HS2 := Lib.hid hS2; have V1 := Lib.hid v1; have V2 := Lib.hid v2; have V3 := Lib.hid v3; have V4 := Lib.hid v4
  clear hL hS hS' hS2 v1 v2 v3 v4
  go_enter Tryd.func8, Tryd.ntmps8
  go_wp2_with fail
  refine (compare_any k n s a [] lc k' n' s' a' [] lc' _ (HS.out.below (alloc3 _ _ _ _) (Nat.le_refl _)) (HS'.out.below (alloc3 _ _ _ _) (Nat.le_refl _))).mono ?_
  rw [V1.out]
  rintro e w1 ⟨rfl, hb1⟩
  have HB1 := Lib.hid hb1; clear hb1
  obtain ⟨⟨c0, c1, c2, c3⟩, ⟨d0, d1, d2, d3⟩, e0, e1, e2, e3⟩ := box_cells3 (by simpa using HB1.out)
  go_wp2_with fail
  refine (compare_any k' n' s' a' [] lc' k2 n2 s2 a2 [] lc2 _ (HS'.out.below (below_al3 _ _ _ HB1.out) (Nat.le_refl _)) (HS2.out.below (below_al3 _ _ _ HB1.out) (Nat.le_refl _))).mono ?_
  rw [V2.out]
  rintro e w2 ⟨rfl, hb2⟩
  have HB2 := Lib.hid (below_then HB1.out (Nat.le_refl _) hb2); clear hb2
  clear c0 c1 c2 c3 d0 d1 d2 d3 e0 e1 e2 e3
  obtain ⟨⟨c0, c1, c2, c3⟩, ⟨d0, d1, d2, d3⟩, e0, e1, e2, e3⟩ := box_cells3 (by simpa using HB2.out)
  go_wp2_with fail
  refine (compare_any k n s a [] lc k2 n2 s2 a2 [] lc2 _ (HS.out.below (below_al3 _ _ _ HB2.out) (Nat.le_refl _)) (HS2.out.below (below_al3 _ _ _ HB2.out) (Nat.le_refl _))).mono ?_
  rw [V3.out]
  rintro e w3 ⟨rfl, hb3⟩
  have HB3 := Lib.hid (below_then HB2.out (Nat.le_refl _) hb3); clear hb3
  clear c0 c1 c2 c3 d0 d1 d2 d3 e0 e1 e2 e3
  obtain ⟨⟨c0, c1, c2, c3⟩, ⟨d0, d1, d2, d3⟩, e0, e1, e2, e3⟩ := box_cells3 (by simpa using HB3.out)
  go_wp2_with fail
  refine (compare_any k' n' s' a' [] lc' k n s a [] lc _ (HS'.out.below (below_al3 _ _ _ HB3.out) (Nat.le_refl _)) (HS.out.below (below_al3 _ _ _ HB3.out) (Nat.le_refl _))).mono ?_
  rw [V4.out]
  rintro e w4 ⟨rfl, hb4⟩
  have HB4 := Lib.hid (below_then HB3.out (Nat.le_refl _) hb4); clear hb4
  clear c0 c1 c2 c3 d0 d1 d2 d3 e0 e1 e2 e3
  obtain ⟨⟨c0, c1, c2, c3⟩, ⟨d0, d1, d2, d3⟩, e0, e1, e2, e3⟩ := box_cells3 (by simpa using HB4.out)
  go_wp2_with fail
  refine (same_no k n s a 0 lc k' n' s' a' 0 lc' _ HD.out).mono ?_
  rintro e w5 ⟨rfl, hb5⟩
  have HB5 := Lib.hid (below_then HB4.out (Nat.le_refl _) hb5); clear hb5 c0 c1 c2 c3 d0 d1 d2 d3 e0 e1 e2 e3
  go_wp2_with fail
  refine (awake_any _ (HL.out.below (below_al3 _ _ _ HB5.out) HL.out.six)).mono ?_
  rintro e w6 ⟨rfl, hb6⟩
  go_wp2
  go_ret
  exact ⟨rfl, below_then (below_al3 _ _ _ HB5.out) (Nat.le_refl _) hb6⟩

set_option maxHeartbeats 1600000 in
theorem line_ok3 (k n : Int) (s : ByteArray) (a : Option Addr) (lc : Nat) (k' n' : Int) (s' : ByteArray) (a' : Option Addr) (lc' : Nat) (k2 n2 : Int) (s2 : ByteArray) (a2 : Option Addr) (lc2 : Nat) (w : World) (hL : Laid w) (hS : Sl w a []) (hS' : Sl w a' []) (hS2 : Sl w a2 []) (x y z : Int) (v1 : cmpD k n s [] k' n' s' [] = (x, 0)) (v2 : cmpD k' n' s' [] k2 n2 s2 [] = (y, 0)) (v3 : cmpD k n s [] k2 n2 s2 [] = (z, 0)) (v4 : cmpD k' n' s' [] k n s [] = (-x, 0)) (hx1 : -1 ≤ x) (hx2 : x ≤ 1) (HD : Hid (k ≠ k' ∨ n ≠ n' ∨ s ≠ s')) (hxb : (x != 0) = true) (hxc : (x == 0) = false) (hx : x < 0) (hy : 0 < y) :
    Calls Tryd.prog 8 #[.agg #[.int .i64 k, .int .i64 n, .string s, .slice a 0 lc], .agg #[.int .i64 k', .int .i64 n', .string s', .slice a' 0 lc'], .agg #[.int .i64 k2, .int .i64 n2, .string s2, .slice a2 0 lc2]] w fun e w' => e = .returned (.bool true) ∧ Below w.heap.size w w' := by
  have HL := Lib.hid hL; have HS := Lib.hid hS; have HS' := Lib.hid hS'; have HS2 := Lib.hid hS2; have V1 := Lib.hid v1; have V2 := Lib.hid v2; have V3 := Lib.hid v3; have V4 := Lib.hid v4
  clear hL hS hS' hS2 v1 v2 v3 v4
  go_enter Tryd.func8, Tryd.ntmps8
  go_wp2_with fail
  refine (compare_any k n s a [] lc k' n' s' a' [] lc' _ (HS.out.below (alloc3 _ _ _ _) (Nat.le_refl _)) (HS'.out.below (alloc3 _ _ _ _) (Nat.le_refl _))).mono ?_
  rw [V1.out]
  rintro e w1 ⟨rfl, hb1⟩
  have HB1 := Lib.hid hb1; clear hb1
  obtain ⟨⟨c0, c1, c2, c3⟩, ⟨d0, d1, d2, d3⟩, e0, e1, e2, e3⟩ := box_cells3 (by simpa using HB1.out)
  go_wp2_with fail
  refine (compare_any k' n' s' a' [] lc' k2 n2 s2 a2 [] lc2 _ (HS'.out.below (below_al3 _ _ _ HB1.out) (Nat.le_refl _)) (HS2.out.below (below_al3 _ _ _ HB1.out) (Nat.le_refl _))).mono ?_
  rw [V2.out]
  rintro e w2 ⟨rfl, hb2⟩
  have HB2 := Lib.hid (below_then HB1.out (Nat.le_refl _) hb2); clear hb2
  clear c0 c1 c2 c3 d0 d1 d2 d3 e0 e1 e2 e3
  obtain ⟨⟨c0, c1, c2, c3⟩, ⟨d0, d1, d2, d3⟩, e0, e1, e2, e3⟩ := box_cells3 (by simpa using HB2.out)
  go_wp2_with fail
  refine (compare_any k n s a [] lc k2 n2 s2 a2 [] lc2 _ (HS.out.below (below_al3 _ _ _ HB2.out) (Nat.le_refl _)) (HS2.out.below (below_al3 _ _ _ HB2.out) (Nat.le_refl _))).mono ?_
  rw [V3.out]
  rintro e w3 ⟨rfl, hb3⟩
  have HB3 := Lib.hid (below_then HB2.out (Nat.le_refl _) hb3); clear hb3
  clear c0 c1 c2 c3 d0 d1 d2 d3 e0 e1 e2 e3
  obtain ⟨⟨c0, c1, c2, c3⟩, ⟨d0, d1, d2, d3⟩, e0, e1, e2, e3⟩ := box_cells3 (by simpa using HB3.out)
  go_wp2_with fail
  refine (compare_any k' n' s' a' [] lc' k n s a [] lc _ (HS'.out.below (below_al3 _ _ _ HB3.out) (Nat.le_refl _)) (HS.out.below (below_al3 _ _ _ HB3.out) (Nat.le_refl _))).mono ?_
  rw [V4.out]
  rintro e w4 ⟨rfl, hb4⟩
  have HB4 := Lib.hid (below_then HB3.out (Nat.le_refl _) hb4); clear hb4
  clear c0 c1 c2 c3 d0 d1 d2 d3 e0 e1 e2 e3
  obtain ⟨⟨c0, c1, c2, c3⟩, ⟨d0, d1, d2, d3⟩, e0, e1, e2, e3⟩ := box_cells3 (by simpa using HB4.out)
  go_wp2_with fail
  refine (same_no k n s a 0 lc k' n' s' a' 0 lc' _ HD.out).mono ?_
  rintro e w5 ⟨rfl, hb5⟩
  have HB5 := Lib.hid (below_then HB4.out (Nat.le_refl _) hb5); clear hb5 c0 c1 c2 c3 d0 d1 d2 d3 e0 e1 e2 e3
  go_wp2_with fail
  refine (awake_any _ (HL.out.below (below_al3 _ _ _ HB5.out) HL.out.six)).mono ?_
  rintro e w6 ⟨rfl, hb6⟩
  go_wp2
  go_ret
  exact ⟨rfl, below_then (below_al3 _ _ _ HB5.out) (Nat.le_refl _) hb6⟩

set_option maxHeartbeats 1600000 in
theorem line_ok4 (k n : Int) (s : ByteArray) (a : Option Addr) (lc : Nat) (k' n' : Int) (s' : ByteArray) (a' : Option Addr) (lc' : Nat) (k2 n2 : Int) (s2 : ByteArray) (a2 : Option Addr) (lc2 : Nat) (w : World) (hL : Laid w) (hS : Sl w a []) (hS' : Sl w a' []) (hS2 : Sl w a2 []) (x y z : Int) (v1 : cmpD k n s [] k' n' s' [] = (x, 0)) (v2 : cmpD k' n' s' [] k2 n2 s2 [] = (y, 0)) (v3 : cmpD k n s [] k2 n2 s2 [] = (z, 0)) (v4 : cmpD k' n' s' [] k n s [] = (-x, 0)) (hx1 : -1 ≤ x) (hx2 : x ≤ 1) (HD : Hid (k ≠ k' ∨ n ≠ n' ∨ s ≠ s')) (hxb : (x != 0) = true) (hxc : (x == 0) = false) (hx : x < 0) (hy : y ≤ 0) (hz : z ≤ 0) :
    Calls Tryd.prog 8 #[.agg #[.int .i64 k, .int .i64 n, .string s, .slice a 0 lc], .agg #[.int .i64 k', .int .i64 n', .string s', .slice a' 0 lc'], .agg #[.int .i64 k2, .int .i64 n2, .string s2, .slice a2 0 lc2]] w fun e w' => e = .returned (.bool true) ∧ Below w.heap.size w w' := by
  have HL := Lib.hid hL; have HS := Lib.hid hS; have HS' := Lib.hid hS'; have HS2 := Lib.hid hS2; have V1 := Lib.hid v1; have V2 := Lib.hid v2; have V3 := Lib.hid v3; have V4 := Lib.hid v4
  clear hL hS hS' hS2 v1 v2 v3 v4
  go_enter Tryd.func8, Tryd.ntmps8
  go_wp2_with fail
  refine (compare_any k n s a [] lc k' n' s' a' [] lc' _ (HS.out.below (alloc3 _ _ _ _) (Nat.le_refl _)) (HS'.out.below (alloc3 _ _ _ _) (Nat.le_refl _))).mono ?_
  rw [V1.out]
  rintro e w1 ⟨rfl, hb1⟩
  have HB1 := Lib.hid hb1; clear hb1
  obtain ⟨⟨c0, c1, c2, c3⟩, ⟨d0, d1, d2, d3⟩, e0, e1, e2, e3⟩ := box_cells3 (by simpa using HB1.out)
  go_wp2_with fail
  refine (compare_any k' n' s' a' [] lc' k2 n2 s2 a2 [] lc2 _ (HS'.out.below (below_al3 _ _ _ HB1.out) (Nat.le_refl _)) (HS2.out.below (below_al3 _ _ _ HB1.out) (Nat.le_refl _))).mono ?_
  rw [V2.out]
  rintro e w2 ⟨rfl, hb2⟩
  have HB2 := Lib.hid (below_then HB1.out (Nat.le_refl _) hb2); clear hb2
  clear c0 c1 c2 c3 d0 d1 d2 d3 e0 e1 e2 e3
  obtain ⟨⟨c0, c1, c2, c3⟩, ⟨d0, d1, d2, d3⟩, e0, e1, e2, e3⟩ := box_cells3 (by simpa using HB2.out)
  go_wp2_with fail
  refine (compare_any k n s a [] lc k2 n2 s2 a2 [] lc2 _ (HS.out.below (below_al3 _ _ _ HB2.out) (Nat.le_refl _)) (HS2.out.below (below_al3 _ _ _ HB2.out) (Nat.le_refl _))).mono ?_
  rw [V3.out]
  rintro e w3 ⟨rfl, hb3⟩
  have HB3 := Lib.hid (below_then HB2.out (Nat.le_refl _) hb3); clear hb3
  clear c0 c1 c2 c3 d0 d1 d2 d3 e0 e1 e2 e3
  obtain ⟨⟨c0, c1, c2, c3⟩, ⟨d0, d1, d2, d3⟩, e0, e1, e2, e3⟩ := box_cells3 (by simpa using HB3.out)
  go_wp2_with fail
  refine (compare_any k' n' s' a' [] lc' k n s a [] lc _ (HS'.out.below (below_al3 _ _ _ HB3.out) (Nat.le_refl _)) (HS.out.below (below_al3 _ _ _ HB3.out) (Nat.le_refl _))).mono ?_
  rw [V4.out]
  rintro e w4 ⟨rfl, hb4⟩
  have HB4 := Lib.hid (below_then HB3.out (Nat.le_refl _) hb4); clear hb4
  clear c0 c1 c2 c3 d0 d1 d2 d3 e0 e1 e2 e3
  obtain ⟨⟨c0, c1, c2, c3⟩, ⟨d0, d1, d2, d3⟩, e0, e1, e2, e3⟩ := box_cells3 (by simpa using HB4.out)
  go_wp2_with fail
  refine (same_no k n s a 0 lc k' n' s' a' 0 lc' _ HD.out).mono ?_
  rintro e w5 ⟨rfl, hb5⟩
  have HB5 := Lib.hid (below_then HB4.out (Nat.le_refl _) hb5); clear hb5 c0 c1 c2 c3 d0 d1 d2 d3 e0 e1 e2 e3
  go_wp2_with fail
  refine (awake_any _ (HL.out.below (below_al3 _ _ _ HB5.out) HL.out.six)).mono ?_
  rintro e w6 ⟨rfl, hb6⟩
  go_wp2
  go_ret
  exact ⟨rfl, below_then (below_al3 _ _ _ HB5.out) (Nat.le_refl _) hb6⟩

set_option maxHeartbeats 1600000 in
theorem line_ok2 (k n : Int) (s : ByteArray) (a : Option Addr) (lc : Nat) (a' : Option Addr) (lc' : Nat) (k2 n2 : Int) (s2 : ByteArray) (a2 : Option Addr) (lc2 : Nat) (w : World) (hL : Laid w) (hS : Sl w a []) (hS' : Sl w a' []) (hS2 : Sl w a2 []) (y : Int) (v1 : cmpD k n s [] k n s [] = (0, 0)) (v2 : cmpD k n s [] k2 n2 s2 [] = (y, 0)) (v3 : cmpD k n s [] k2 n2 s2 [] = (y, 0)) (v4 : cmpD k n s [] k n s [] = (0, 0)) (hy : 0 < y) :
    Calls Tryd.prog 8 #[.agg #[.int .i64 k, .int .i64 n, .string s, .slice a 0 lc], .agg #[.int .i64 k, .int .i64 n, .string s, .slice a' 0 lc'], .agg #[.int .i64 k2, .int .i64 n2, .string s2, .slice a2 0 lc2]] w fun e w' => e = .returned (.bool true) ∧ Below w.heap.size w w' := by
  have HL := Lib.hid hL; have HS := Lib.hid hS; have HS' := Lib.hid hS'; have HS2 := Lib.hid hS2; have V1 := Lib.hid v1; have V2 := Lib.hid v2; have V3 := Lib.hid v3; have V4 := Lib.hid v4
  clear hL hS hS' hS2 v1 v2 v3 v4
  go_enter Tryd.func8, Tryd.ntmps8
  go_wp2_with fail
  refine (compare_any k n s a [] lc k n s a' [] lc' _ (HS.out.below (alloc3 _ _ _ _) (Nat.le_refl _)) (HS'.out.below (alloc3 _ _ _ _) (Nat.le_refl _))).mono ?_
  rw [V1.out]
  rintro e w1 ⟨rfl, hb1⟩
  have HB1 := Lib.hid hb1; clear hb1
  obtain ⟨⟨c0, c1, c2, c3⟩, ⟨d0, d1, d2, d3⟩, e0, e1, e2, e3⟩ := box_cells3 (by simpa using HB1.out)
  go_wp2_with fail
  refine (compare_any k n s a' [] lc' k2 n2 s2 a2 [] lc2 _ (HS'.out.below (below_al3 _ _ _ HB1.out) (Nat.le_refl _)) (HS2.out.below (below_al3 _ _ _ HB1.out) (Nat.le_refl _))).mono ?_
  rw [V2.out]
  rintro e w2 ⟨rfl, hb2⟩
  have HB2 := Lib.hid (below_then HB1.out (Nat.le_refl _) hb2); clear hb2
  clear c0 c1 c2 c3 d0 d1 d2 d3 e0 e1 e2 e3
  obtain ⟨⟨c0, c1, c2, c3⟩, ⟨d0, d1, d2, d3⟩, e0, e1, e2, e3⟩ := box_cells3 (by simpa using HB2.out)
  go_wp2_with fail
  refine (compare_any k n s a [] lc k2 n2 s2 a2 [] lc2 _ (HS.out.below (below_al3 _ _ _ HB2.out) (Nat.le_refl _)) (HS2.out.below (below_al3 _ _ _ HB2.out) (Nat.le_refl _))).mono ?_
  rw [V3.out]
  rintro e w3 ⟨rfl, hb3⟩
  have HB3 := Lib.hid (below_then HB2.out (Nat.le_refl _) hb3); clear hb3
  clear c0 c1 c2 c3 d0 d1 d2 d3 e0 e1 e2 e3
  obtain ⟨⟨c0, c1, c2, c3⟩, ⟨d0, d1, d2, d3⟩, e0, e1, e2, e3⟩ := box_cells3 (by simpa using HB3.out)
  go_wp2_with fail
  refine (compare_any k n s a' [] lc' k n s a [] lc _ (HS'.out.below (below_al3 _ _ _ HB3.out) (Nat.le_refl _)) (HS.out.below (below_al3 _ _ _ HB3.out) (Nat.le_refl _))).mono ?_
  rw [V4.out]
  rintro e w4 ⟨rfl, hb4⟩
  have HB4 := Lib.hid (below_then HB3.out (Nat.le_refl _) hb4); clear hb4
  clear c0 c1 c2 c3 d0 d1 d2 d3 e0 e1 e2 e3
  obtain ⟨⟨c0, c1, c2, c3⟩, ⟨d0, d1, d2, d3⟩, e0, e1, e2, e3⟩ := box_cells3 (by simpa using HB4.out)
  go_wp2_with fail
  refine (same_yes k n s a [] lc a' [] lc' _ (.inl rfl) (.inl rfl) rfl (by simp) (fun i h => by simp at h)).mono ?_
  rintro e w5 ⟨rfl, hb5⟩
  have HB5 := Lib.hid (below_then HB4.out (Nat.le_refl _) hb5); clear hb5 c0 c1 c2 c3 d0 d1 d2 d3 e0 e1 e2 e3
  go_wp2_with fail
  refine (awake_any _ (HL.out.below (below_al3 _ _ _ HB5.out) HL.out.six)).mono ?_
  rintro e w6 ⟨rfl, hb6⟩
  go_wp2
  go_ret
  exact ⟨rfl, below_then (below_al3 _ _ _ HB5.out) (Nat.le_refl _) hb6⟩

set_option maxHeartbeats 1600000 in
theorem line_ok5 (k n : Int) (s : ByteArray) (a : Option Addr) (lc : Nat) (a' : Option Addr) (lc' : Nat) (k2 n2 : Int) (s2 : ByteArray) (a2 : Option Addr) (lc2 : Nat) (w : World) (hL : Laid w) (hS : Sl w a []) (hS' : Sl w a' []) (hS2 : Sl w a2 []) (y : Int) (v1 : cmpD k n s [] k n s [] = (0, 0)) (v2 : cmpD k n s [] k2 n2 s2 [] = (y, 0)) (v3 : cmpD k n s [] k2 n2 s2 [] = (y, 0)) (v4 : cmpD k n s [] k n s [] = (0, 0)) (hy : y ≤ 0) :
    Calls Tryd.prog 8 #[.agg #[.int .i64 k, .int .i64 n, .string s, .slice a 0 lc], .agg #[.int .i64 k, .int .i64 n, .string s, .slice a' 0 lc'], .agg #[.int .i64 k2, .int .i64 n2, .string s2, .slice a2 0 lc2]] w fun e w' => e = .returned (.bool true) ∧ Below w.heap.size w w' := by
  have HL := Lib.hid hL; have HS := Lib.hid hS; have HS' := Lib.hid hS'; have HS2 := Lib.hid hS2; have V1 := Lib.hid v1; have V2 := Lib.hid v2; have V3 := Lib.hid v3; have V4 := Lib.hid v4
  clear hL hS hS' hS2 v1 v2 v3 v4
  go_enter Tryd.func8, Tryd.ntmps8
  go_wp2_with fail
  refine (compare_any k n s a [] lc k n s a' [] lc' _ (HS.out.below (alloc3 _ _ _ _) (Nat.le_refl _)) (HS'.out.below (alloc3 _ _ _ _) (Nat.le_refl _))).mono ?_
  rw [V1.out]
  rintro e w1 ⟨rfl, hb1⟩
  have HB1 := Lib.hid hb1; clear hb1
  obtain ⟨⟨c0, c1, c2, c3⟩, ⟨d0, d1, d2, d3⟩, e0, e1, e2, e3⟩ := box_cells3 (by simpa using HB1.out)
  go_wp2_with fail
  refine (compare_any k n s a' [] lc' k2 n2 s2 a2 [] lc2 _ (HS'.out.below (below_al3 _ _ _ HB1.out) (Nat.le_refl _)) (HS2.out.below (below_al3 _ _ _ HB1.out) (Nat.le_refl _))).mono ?_
  rw [V2.out]
  rintro e w2 ⟨rfl, hb2⟩
  have HB2 := Lib.hid (below_then HB1.out (Nat.le_refl _) hb2); clear hb2
  clear c0 c1 c2 c3 d0 d1 d2 d3 e0 e1 e2 e3
  obtain ⟨⟨c0, c1, c2, c3⟩, ⟨d0, d1, d2, d3⟩, e0, e1, e2, e3⟩ := box_cells3 (by simpa using HB2.out)
  go_wp2_with fail
  refine (compare_any k n s a [] lc k2 n2 s2 a2 [] lc2 _ (HS.out.below (below_al3 _ _ _ HB2.out) (Nat.le_refl _)) (HS2.out.below (below_al3 _ _ _ HB2.out) (Nat.le_refl _))).mono ?_
  rw [V3.out]
  rintro e w3 ⟨rfl, hb3⟩
  have HB3 := Lib.hid (below_then HB2.out (Nat.le_refl _) hb3); clear hb3
  clear c0 c1 c2 c3 d0 d1 d2 d3 e0 e1 e2 e3
  obtain ⟨⟨c0, c1, c2, c3⟩, ⟨d0, d1, d2, d3⟩, e0, e1, e2, e3⟩ := box_cells3 (by simpa using HB3.out)
  go_wp2_with fail
  refine (compare_any k n s a' [] lc' k n s a [] lc _ (HS'.out.below (below_al3 _ _ _ HB3.out) (Nat.le_refl _)) (HS.out.below (below_al3 _ _ _ HB3.out) (Nat.le_refl _))).mono ?_
  rw [V4.out]
  rintro e w4 ⟨rfl, hb4⟩
  have HB4 := Lib.hid (below_then HB3.out (Nat.le_refl _) hb4); clear hb4
  clear c0 c1 c2 c3 d0 d1 d2 d3 e0 e1 e2 e3
  obtain ⟨⟨c0, c1, c2, c3⟩, ⟨d0, d1, d2, d3⟩, e0, e1, e2, e3⟩ := box_cells3 (by simpa using HB4.out)
  go_wp2_with fail
  refine (same_yes k n s a [] lc a' [] lc' _ (.inl rfl) (.inl rfl) rfl (by simp) (fun i h => by simp at h)).mono ?_
  rintro e w5 ⟨rfl, hb5⟩
  have HB5 := Lib.hid (below_then HB4.out (Nat.le_refl _) hb5); clear hb5 c0 c1 c2 c3 d0 d1 d2 d3 e0 e1 e2 e3
  go_wp2_with fail
  refine (awake_any _ (HL.out.below (below_al3 _ _ _ HB5.out) HL.out.six)).mono ?_
  rintro e w6 ⟨rfl, hb6⟩
  go_wp2
  go_ret
  exact ⟨rfl, below_then (below_al3 _ _ _ HB5.out) (Nat.le_refl _) hb6⟩

theorem items_nil {k n : Int} {s : ByteArray} {xs : List It} (h : dOk k n s xs = true) (hk : k ≠ 3) : xs = [] ∧ itemOk k n s 0 = true := by
  have h1 : itemOk k n s xs.length = true := by simpa [dOk, hk] using h
  have h2 := itemOk_true h1
  refine ⟨?_, itemOk_of ⟨by omega, h2.2⟩⟩
  cases xs with
  | nil => rfl
  | cons x xs => exact absurd h2.1 (by simp)

theorem cmpD_cases (k n : Int) (s : ByteArray) (xs : List It) (k' n' : Int) (s' : ByteArray) (xs' : List It) :
    (∃ c e, cmpD k n s xs k' n' s' xs' = (c, e) ∧ e ≠ 0) ∨ (cmpD k n s xs k' n' s' xs' = (ordR k n s k' n' s', 0) ∧ (xs = [] ∧ itemOk k n s 0 = true) ∧ xs' = [] ∧ itemOk k' n' s' 0 = true) := by
  by_cases hno : dOk k n s xs = false ∨ dOk k' n' s' xs' = false
  · exact .inl ⟨0, 11, by rw [cmpD, if_pos hno], by decide⟩
  · by_cases h3 : k = 3 ∨ k' = 3
    · exact .inl ⟨0, 10, by rw [cmpD, if_neg hno, if_pos h3], by decide⟩
    · have h1 : dOk k n s xs = true := by cases h : dOk k n s xs <;> simp_all
      have h2 : dOk k' n' s' xs' = true := by cases h : dOk k' n' s' xs' <;> simp_all
      refine .inr ⟨by rw [cmpD, if_neg hno, if_neg h3], items_nil h1 (fun h => h3 (.inl h)), ?_⟩
      exact items_nil h2 (fun h => h3 (.inr h))

theorem cmpD_nil {k n : Int} {s : ByteArray} {k' n' : Int} {s' : ByteArray} (h1 : itemOk k n s 0 = true) (h2 : itemOk k' n' s' 0 = true) : cmpD k n s [] k' n' s' [] = (ordR k n s k' n' s', 0) := by
  have a1 := (itemOk_true h1).2
  have a2 := (itemOk_true h2).2
  have k3 : k ≠ 3 := by omega
  have k3' : k' ≠ 3 := by omega
  have d1 : dOk k n s [] = true := by simpa [dOk, k3] using h1
  have d2 : dOk k' n' s' [] = true := by simpa [dOk, k3'] using h2
  simp [cmpD, d1, d2, k3, k3']

theorem line_any (k n : Int) (s : ByteArray) (a : Option Addr) (xs : List It) (lc : Nat) (k' n' : Int) (s' : ByteArray) (a' : Option Addr) (xs' : List It) (lc' : Nat) (k2 n2 : Int) (s2 : ByteArray) (a2 : Option Addr) (xs2 : List It) (lc2 : Nat) (w : World) (hL : Laid w) (hS : Sl w a xs) (hS' : Sl w a' xs') (hS2 : Sl w a2 xs2) (q1 : I64 n) (q2 : I64 n') (q3 : I64 n2) :
    Calls Tryd.prog 8 #[.agg #[.int .i64 k, .int .i64 n, .string s, .slice a xs.length lc], .agg #[.int .i64 k', .int .i64 n', .string s', .slice a' xs'.length lc'], .agg #[.int .i64 k2, .int .i64 n2, .string s2, .slice a2 xs2.length lc2]] w fun e w' => e = .returned (.bool true) ∧ Below w.heap.size w w' := by
  obtain ⟨r, h, v4⟩ : ∃ r h, cmpD k' n' s' xs' k n s xs = (r, h) := ⟨_, _, rfl⟩
  obtain ⟨y, f, v2⟩ : ∃ y f, cmpD k' n' s' xs' k2 n2 s2 xs2 = (y, f) := ⟨_, _, rfl⟩
  obtain ⟨z, g, v3⟩ : ∃ z g, cmpD k n s xs k2 n2 s2 xs2 = (z, g) := ⟨_, _, rfl⟩
  rcases cmpD_cases k n s xs k' n' s' xs' with ⟨x, er, v1, her⟩ | ⟨v1, ⟨rfl, i1⟩, rfl, i2⟩
  · exact line_err1 k n s a xs lc k' n' s' a' xs' lc' k2 n2 s2 a2 xs2 lc2 w hL hS hS' hS2 x y z r h er f g v1 v2 v3 v4 (by rw [bne_iff_ne]; exact her)
  · rcases cmpD_cases k' n' s' [] k2 n2 s2 xs2 with ⟨y, f, v2, hf⟩ | ⟨v2, _, rfl, i3⟩
    · exact line_err2 k n s a [] lc k' n' s' a' [] lc' k2 n2 s2 a2 xs2 lc2 w hL hS hS' hS2 _ y z r h f g v1 v2 v3 v4 (by rw [bne_iff_ne]; exact hf)
    · clear v3 v4 v1 v2
      have v1 := cmpD_nil i1 i2
      have v2 := cmpD_nil i2 i3
      have v3 := cmpD_nil i1 i3
      have v4 := cmpD_nil i2 i1
      obtain ⟨o1, o2, o3, o4⟩ := ordR_line i1 i2 i3 q1 q2 q3
      obtain ⟨b1, b2⟩ := ordR_range k n s k' n' s'
      rw [o1] at v4
      by_cases hx0 : ordR k n s k' n' s' = 0
      · obtain ⟨rfl, rfl, rfl⟩ := o3 hx0
        rw [hx0] at v1
        rw [hx0] at v4
        by_cases hy : 0 < ordR k n s k2 n2 s2
        · exact line_ok2 k n s a lc a' lc' k2 n2 s2 a2 lc2 w hL hS hS' hS2 _ v1 v2 v3 v4 hy
        · exact line_ok5 k n s a lc a' lc' k2 n2 s2 a2 lc2 w hL hS hS' hS2 _ v1 v2 v3 v4 (by omega)
      · have HD : Hid (k ≠ k' ∨ n ≠ n' ∨ s ≠ s') := Lib.hid (by
          by_cases hk : k = k'
          · by_cases hn : n = n'
            · by_cases hs : s = s'
              · exact absurd (o4 ⟨hk, hn, hs⟩) hx0
              · exact .inr (.inr hs)
            · exact .inr (.inl hn)
          · exact .inl hk)
        have hb1 : (ordR k n s k' n' s' != 0) = true := by rw [bne_iff_ne]; exact hx0
        have hb2 : (ordR k n s k' n' s' == 0) = false := by rw [beq_eq_false_iff_ne]; exact hx0
        by_cases hx : 0 < ordR k n s k' n' s'
        · exact line_ok1 k n s a lc k' n' s' a' lc' k2 n2 s2 a2 lc2 w hL hS hS' hS2 _ _ _ v1 v2 v3 v4 b1 b2 HD hb1 hb2 hx
        · by_cases hy : 0 < ordR k' n' s' k2 n2 s2
          · exact line_ok3 k n s a lc k' n' s' a' lc' k2 n2 s2 a2 lc2 w hL hS hS' hS2 _ _ _ v1 v2 v3 v4 b1 b2 HD hb1 hb2 (by omega) hy
          · exact line_ok4 k n s a lc k' n' s' a' lc' k2 n2 s2 a2 lc2 w hL hS hS' hS2 _ _ _ v1 v2 v3 v4 b1 b2 HD hb1 hb2 (by omega) (by omega) (by omega)

theorem line_law (k n : Int) (s : ByteArray) (a : Option Addr) (xs : List It) (lc : Nat) (k' n' : Int) (s' : ByteArray) (a' : Option Addr) (xs' : List It) (lc' : Nat) (k2 n2 : Int) (s2 : ByteArray) (a2 : Option Addr) (xs2 : List It) (lc2 : Nat) (w : World) (hL : Laid w) (hS : Sl w a xs) (q1 : I64 n) (_ : AllI xs) (hS' : Sl w a' xs') (q2 : I64 n') (_ : AllI xs') (hS2 : Sl w a2 xs2) (q3 : I64 n2) (_ : AllI xs2) :
    Calls Tryd.prog 8 #[.agg #[.int .i64 k, .int .i64 n, .string s, .slice a xs.length lc], .agg #[.int .i64 k', .int .i64 n', .string s', .slice a' xs'.length lc'], .agg #[.int .i64 k2, .int .i64 n2, .string s2, .slice a2 xs2.length lc2]] w fun e w' => e = .returned (.bool true) ∧ Below w.heap.size w w' :=
  line_any k n s a xs lc k' n' s' a' xs' lc' k2 n2 s2 a2 xs2 lc2 w hL hS hS' hS2 q1 q2 q3
end Go.Proofs.YtoiahhfjejddjaaDoor
