/- The walk of DatumReads: for every two strings that came in it answers true; other memory stands. -/
import Derived.Test.YtoiahhfjejddjaaDoorRN
import Derived.Test.YtoiahhfjejddjaaDoorZ
import Derived.Test.YtoiahhfjejddjaaDoorBackWalk
set_option maxRecDepth 100000
namespace Go.Proofs.YtoiahhfjejddjaaDoor
open Go Go.RowKit

/-- What bytes begin with, as both readers tell it. -/
def OAns (s : List UInt8) (k n : Int) (t : ByteArray) (m c : Int) (xs : List It) : Prop :=
  (ofF s = none ∧ k = 0 ∧ n = 0 ∧ t = ⟨#[]⟩ ∧ m = 0 ∧ c = 11 ∧ xs = []) ∨ ∃ q : Nat, ofF s = some ((k, n, t), xs.map cont, q) ∧ m = q ∧ c = 0
theorem OAns.same {s : List UInt8} {k n k' n' : Int} {t t' : ByteArray} {m c m' c' : Int} {xs ys : List It} (h : OAns s k n t m c xs) (h' : OAns s k' n' t' m' c' ys) : k = k' ∧ n = n' ∧ t = t' ∧ m = m' ∧ c = c' ∧ xs.map cont = ys.map cont := by
  rcases h with ⟨h0, rfl, rfl, rfl, rfl, rfl, rfl⟩ | ⟨q, h0, rfl, rfl⟩
  · rcases h' with ⟨_, rfl, rfl, rfl, rfl, rfl, rfl⟩ | ⟨q', h1, _⟩
    · exact ⟨rfl, rfl, rfl, rfl, rfl, rfl⟩
    · rw [h0] at h1; cases h1
  · rcases h' with ⟨h1, _⟩ | ⟨q', h1, rfl, rfl⟩
    · rw [h0] at h1; cases h1
    · rw [h0] at h1
      injection h1 with h1
      injection h1 with e1 h1
      injection h1 with e2 e3
      injection e1 with e1 e4
      injection e4 with e4 e5
      exact ⟨e1, e4, e5, by rw [e3], rfl, e2⟩
/-- The answer of a reader of bytes, whatever it is. -/
def OPost (s : List UInt8) (w : World) (e : Ending) (w' : World) : Prop :=
  Below w.heap.size w w' ∧ ∃ (k n : Int) (t : ByteArray) (a : Option Addr) (xs : List It) (lc : Nat) (m c : Int), e = .returned (.tuple #[.agg #[.int .i64 k, .int .i64 n, .string t, .slice a xs.length lc], .int .i64 m, .int .i64 c]) ∧ OAns s k n t m c xs ∧ xs.length ≤ 8 ∧ (∀ x ∈ xs, x.ll = 0) ∧ Sl w' a xs
theorem OfPost.ans {s : List UInt8} {w : World} {e : Ending} {w' : World} (h : OfPost s w e w') : OPost s w e w' := by
  refine ⟨h.1, ?_⟩
  rcases h.2 with ⟨h1, h2⟩ | ⟨k, n, t, a, xs, lc, m, h1, h2, _, h4, h5, h6⟩
  · exact ⟨0, 0, ⟨#[]⟩, none, [], 0, 0, 11, h2, .inl ⟨h1, rfl, rfl, rfl, rfl, rfl, rfl⟩, by simp, fun x hx => by simp at hx, .inl rfl⟩
  · exact ⟨k, n, t, a, xs, lc, m, 0, h2, .inr ⟨m, h1, rfl, rfl⟩, h5, fun x hx => (h4 x hx).2, h6⟩

/-- What a text is of, as both readers tell it. -/
def PAns (s : List UInt8) (k n : Int) (t : ByteArray) (c : Int) (xs : List It) : Prop :=
  (c = 0 ∧ Valid k n t xs ∧ datT k n t xs = s ∧ DClause s k n t xs) ∨ (c = 11 ∧ k = 0 ∧ n = 0 ∧ t = ⟨#[]⟩ ∧ xs = [] ∧ ∀ k n t xs, Valid k n t xs → s ≠ datT k n t xs)
theorem PAns.same {s : List UInt8} {k n k' n' : Int} {t t' : ByteArray} {c c' : Int} {xs ys : List It} (h : PAns s k n t c xs) (h' : PAns s k' n' t' c' ys) : k = k' ∧ n = n' ∧ t = t' ∧ c = c' ∧ xs.map cont = ys.map cont := by
  rcases h with ⟨rfl, hv, hd, hc⟩ | ⟨rfl, rfl, rfl, rfl, rfl, hno⟩
  · rcases h' with ⟨rfl, hv', hd', _⟩ | ⟨rfl, _, _, _, _, hno⟩
    · obtain ⟨e1, e2, e3, e4⟩ := hc k' n' t' ys hv' hd'.symm
      exact ⟨e1, e2, e3, rfl, e4⟩
    · exact absurd hd.symm (hno _ _ _ _ hv)
  · rcases h' with ⟨rfl, hv', hd', _⟩ | ⟨rfl, rfl, rfl, rfl, rfl, _⟩
    · exact absurd hd'.symm (hno _ _ _ _ hv')
    · exact ⟨rfl, rfl, rfl, rfl, rfl⟩
/-- The answer of a reader of texts, whatever it is. -/
def PPost (s : List UInt8) (w : World) (e : Ending) (w' : World) : Prop :=
  Below w.heap.size w w' ∧ ∃ (k n : Int) (t : ByteArray) (a : Option Addr) (xs : List It) (lc : Nat) (c : Int), e = .returned (.tuple #[.agg #[.int .i64 k, .int .i64 n, .string t, .slice a xs.length lc], .int .i64 c]) ∧ PAns s k n t c xs ∧ xs.length ≤ 8 ∧ (∀ x ∈ xs, x.ll = 0) ∧ Sl w' a xs
theorem ParsePost.ans {s : List UInt8} {w : World} {e : Ending} {w' : World} (h : ParsePost s w e w') : PPost s w e w' := by
  refine ⟨h.1, ?_⟩
  rcases h.2 with ⟨k, n, t, a, xs, lc, h1, h2, h3, h4, h5, h6⟩ | ⟨h1, h2⟩
  · exact ⟨k, n, t, a, xs, lc, 0, h1, .inl ⟨rfl, h2, h5, h6⟩, (ll_zero h2.1).1, fun x hx => (h3 x hx).2, h4⟩
  · exact ⟨0, 0, ⟨#[]⟩, none, [], 0, 11, h1, .inr ⟨rfl, rfl, rfl, rfl, rfl, h2⟩, by simp, fun x hx => by simp at hx, .inl rfl⟩

/-- A datum's box. -/
def Box (b : Nat) (k n : Int) (t : ByteArray) (v : Value) (w : World) : Prop := w.heap[b]? = some (.cells #[.int .i64 k, .int .i64 n, .string t, v] 24 (0, 0))
theorem Box.lt {b : Nat} {k n : Int} {t : ByteArray} {v : Value} {w : World} (h : Box b k n t v w) : b < w.heap.size := (Array.getElem?_eq_some_iff.1 h).1
theorem Box.below {b : Nat} {k n : Int} {t : ByteArray} {v : Value} {w w' : World} (h : Box b k n t v w) (hb : Below w.heap.size w w') : Box b k n t v w' := (hb.block b h.lt).trans h
theorem Box.new (k n : Int) (t : ByteArray) (v : Value) (w : World) : Box w.heap.size k n t v (w.alloc (.cells #[.int .i64 k, .int .i64 n, .string t, v] 24)) := heap_alloc_new w _
theorem Box.cells {b : Nat} {k n : Int} {t : ByteArray} {v : Value} {w : World} (h : Box b k n t v w) : w.cell? ⟨b, 0, none⟩ = some (.int .i64 k) ∧ w.cell? ⟨b, 1, none⟩ = some (.int .i64 n) ∧ w.cell? ⟨b, 2, none⟩ = some (.string t) ∧ w.cell? ⟨b, 3, none⟩ = some v := by
  refine ⟨?_, ?_, ?_, ?_⟩ <;> (rw [Lib.cell_of_heap h]; rfl)
theorem below_new {B : Nat} {w w' : World} (h : Below B w w') (hB : B ≤ w.heap.size) (o : Obj) : Below B w (w'.alloc o) := h.alloc (Nat.le_trans hB h.size) o

set_option maxHeartbeats 3200000 in
theorem reads_law (s t : ByteArray) (w : World) (hL : Laid w) (hs : s.size ≤ 140737488351232) (ht : t.size ≤ 140737488351232) :
    Calls Tryd.prog 5 #[.string s, .string t] w fun e w' => e = .returned (.bool true) ∧ Below w.heap.size w w' := by
  have hsix := hL.six
  have HL := Lib.hid hL; clear hL
  have H1 := Lib.hid (fun W => (of_any s W (by omega)).mono fun _ _ h => h.ans)
  have H2 := Lib.hid (fun W => (rof_any s W (by omega)).mono fun _ _ h => h.ans)
  have H3 := Lib.hid (fun W hW => (parse_any t W hW (by omega)).mono fun _ _ h => h.ans)
  have H4 := Lib.hid (fun W hW => (rparse_any t W hW (by omega)).mono fun _ _ h => h.ans)
  go_enter Tryd.func5, Tryd.ntmps5
  go_wp2_with fail
  refine (H1.out _).mono ?_
  rintro r w1 ⟨hb1, k1, n1, t1, a1, xs1, lc1, m1, c1, rfl, ha1, h81, hll1, hs1⟩
  have HA1 := Lib.hid ha1; have HLL1 := Lib.hid hll1; have HS1 := Lib.hid hs1; have HB1 := Lib.hid hb1
  have hz1 := hb1.size
  clear ha1 hll1 hs1 hb1
  go_wp2_with fail
  refine (H2.out _).mono ?_
  rintro r w2 ⟨hb2, k2, n2, t2, a2, xs2, lc2, m2, c2, rfl, ha2, h82, hll2, hs2⟩
  obtain ⟨rfl, rfl, rfl, rfl, rfl, hcc⟩ := HA1.out.same ha2
  have HBX1 := Lib.hid ((Box.new k1 n1 t1 (.slice a1 xs1.length lc1) w1).below hb2)
  have HC1 := Lib.hid (cont_pair hcc HLL1.out hll2)
  have HSA := Lib.hid ((HS1.out.below ((Below.refl _ w1).alloc (Nat.le_refl _) (.cells #[.int .i64 k1, .int .i64 n1, .string t1, .slice a1 xs1.length lc1] 24)) (Nat.le_refl _)).below hb2 (Nat.le_refl _))
  have HSB := Lib.hid hs2
  have HB2 := Lib.hid ((HB1.out.alloc hz1 _).trans (hb2.mono (by simp only [World.size_alloc]; omega)))
  have hz2 := HB2.out.size
  have hz12 := hb2.size
  simp only [World.size_alloc] at hz12
  clear ha2 hcc hll2 hs2 hb2 HA1 HLL1 HS1 HB1
  go_wp2_with fail
  refine (H3.out _ (HL.out.below (HB2.out.alloc hz2 _) hsix)).mono ?_
  rintro r w3 ⟨hb3, k3, n3, t3, a3, xs3, lc3, c3, rfl, ha3, h83, hll3, hs3⟩
  have hal3 := (Below.refl w2.heap.size w2).alloc (Nat.le_refl _) (.cells #[.int .i64 k1, .int .i64 n1, .string t1, .slice a2 xs2.length lc2] 24)
  have HBX1 := Lib.hid ((HBX1.out.below hal3).below hb3)
  have HBX2 := Lib.hid ((Box.new k1 n1 t1 (.slice a2 xs2.length lc2) w2).below hb3)
  have HSA := Lib.hid ((HSA.out.below hal3 (Nat.le_refl _)).below hb3 (Nat.le_refl _))
  have HSB := Lib.hid ((HSB.out.below hal3 (Nat.le_refl _)).below hb3 (Nat.le_refl _))
  have HB3 := Lib.hid ((HB2.out.alloc hz2 _).trans (hb3.mono (by simp only [World.size_alloc]; omega)))
  have hz3 := HB3.out.size
  have hz23 := hb3.size
  simp only [World.size_alloc] at hz23
  have HA3 := Lib.hid ha3; have HLL3 := Lib.hid hll3; have HS3 := Lib.hid hs3
  clear ha3 hll3 hs3 hb3 hal3
  go_wp2_with fail
  refine (H4.out _ (HL.out.below (HB3.out.alloc hz3 _) hsix)).mono ?_
  rintro r w4 ⟨hb4, k4, n4, t4, a4, xs4, lc4, c4, rfl, ha4, h84, hll4, hs4⟩
  obtain ⟨rfl, rfl, rfl, rfl, hcc⟩ := HA3.out.same ha4
  have HC3 := Lib.hid (cont_pair hcc HLL3.out hll4)
  have hal4 := (Below.refl w3.heap.size w3).alloc (Nat.le_refl _) (.cells #[.int .i64 k3, .int .i64 n3, .string t3, .slice a3 xs3.length lc3] 24)
  have hal5 := (Below.refl w4.heap.size w4).alloc (Nat.le_refl _) (.cells #[.int .i64 k3, .int .i64 n3, .string t3, .slice a4 xs4.length lc4] 24)
  have HBX1 := Lib.hid (((HBX1.out.below hal4).below hb4).below hal5)
  have HBX2 := Lib.hid (((HBX2.out.below hal4).below hb4).below hal5)
  have HBX3 := Lib.hid (((Box.new k3 n3 t3 (.slice a3 xs3.length lc3) w3).below hb4).below hal5)
  have HBX4 := Lib.hid (Box.new k3 n3 t3 (.slice a4 xs4.length lc4) w4)
  have HSA := Lib.hid (((HSA.out.below hal4 (Nat.le_refl _)).below hb4 (Nat.le_refl _)).below hal5 (Nat.le_refl _))
  have HSB := Lib.hid (((HSB.out.below hal4 (Nat.le_refl _)).below hb4 (Nat.le_refl _)).below hal5 (Nat.le_refl _))
  have HSC := Lib.hid (((HS3.out.below hal4 (Nat.le_refl _)).below hb4 (Nat.le_refl _)).below hal5 (Nat.le_refl _))
  have HSD := Lib.hid (hs4.below hal5 (Nat.le_refl _))
  have hz4 : w.heap.size ≤ w4.heap.size := by have := hb4.size; simp only [World.size_alloc] at this; omega
  have HB4 := Lib.hid (((HB3.out.alloc hz3 _).trans (hb4.mono (by simp only [World.size_alloc]; omega))).alloc hz4 (.cells #[.int .i64 k3, .int .i64 n3, .string t3, .slice a4 xs4.length lc4] 24))
  clear ha4 hcc hll4 hs4 hb4 hal4 hal5 HA3 HLL3 HS3
  obtain ⟨p0, p1, p2, p3⟩ := HBX1.out.cells
  obtain ⟨q0, q1, q2, q3⟩ := HBX2.out.cells
  have hm1 : (m1 == m1) = true := by simp
  have hc1 : (c1 == c1) = true := by simp
  have hc3 : (c3 == c3) = true := by simp
  go_wp2_with fail
  refine (same_yes k1 n1 t1 a1 xs1 lc1 a2 xs2 lc2 _ HSA.out HSB.out HC1.out.1 h81 HC1.out.2).mono ?_
  rintro r w5 ⟨rfl, hb5⟩
  have HBX3 := Lib.hid (HBX3.out.below hb5)
  have HBX4 := Lib.hid (HBX4.out.below hb5)
  have HSC := Lib.hid (HSC.out.below hb5 (Nat.le_refl _))
  have HSD := Lib.hid (HSD.out.below hb5 (Nat.le_refl _))
  have HB5 := Lib.hid (HB4.out.trans (hb5.mono (by simp only [World.size_alloc]; omega)))
  have hz5 := HB5.out.size
  clear hb5 p0 p1 p2 p3 q0 q1 q2 q3
  obtain ⟨p0, p1, p2, p3⟩ := HBX3.out.cells
  obtain ⟨q0, q1, q2, q3⟩ := HBX4.out.cells
  go_wp2_with fail
  refine (same_yes k3 n3 t3 a3 xs3 lc3 a4 xs4 lc4 _ HSC.out HSD.out HC3.out.1 h83 HC3.out.2).mono ?_
  rintro r w6 ⟨rfl, hb6⟩
  have HB6 := Lib.hid (HB5.out.trans (hb6.mono hz5))
  have hz6 := HB6.out.size
  clear hb6 p0 p1 p2 p3 q0 q1 q2 q3
  go_wp2_with fail
  refine (awake_any _ (HL.out.below HB6.out hsix)).mono ?_
  rintro r w7 ⟨rfl, hb7⟩
  go_wp2
  go_ret
  exact ⟨rfl, HB6.out.trans (hb7.mono hz6)⟩
end Go.Proofs.YtoiahhfjejddjaaDoor
