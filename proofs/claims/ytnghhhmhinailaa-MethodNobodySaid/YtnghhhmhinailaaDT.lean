/- The document's Bound of a range: of a pointer to a datum. -/
import Derived.Test.YtnghhhmhinailaaDS
set_option maxRecDepth 100000
namespace Go.Proofs.Ytnghhhmhinailaa.Dm
open Go Go.RowKit

/-- A bound as it is handed over: a pointer, nil or to a datum's four cells. -/
def BdW (w : World) (p : Option Addr) : Option En → Prop
  | none => p = none
  | some e => (∃ b off, p = some ⟨b, off, none⟩ ∧ b < w.heap.size ∧ w.cell? ⟨b, off, none⟩ = some (.int .i64 e.k) ∧ w.cell? ⟨b, off + 1, none⟩ = some (.int .i64 e.n) ∧ w.cell? ⟨b, off + 2, none⟩ = some (.string e.s) ∧ w.cell? ⟨b, off + 3, none⟩ = some (.slice e.a e.xs.length e.lc)) ∧ e.In w
theorem BdW.below {w w' : World} {p : Option Addr} {d : Option En} (h : BdW w p d) (hb : Below w.heap.size w w') : BdW w' p d := by
  cases d with
  | none => exact h
  | some e =>
    obtain ⟨⟨b, off, h1, h2, h3, h4, h5, h6⟩, h7⟩ := h
    exact ⟨⟨b, off, h1, Nat.lt_of_lt_of_le h2 hb.size, (hb.cell (p := ⟨b, _, none⟩) h2).trans h3, (hb.cell (p := ⟨b, _, none⟩) h2).trans h4, (hb.cell (p := ⟨b, _, none⟩) h2).trans h5, (hb.cell (p := ⟨b, _, none⟩) h2).trans h6⟩, h7.below hb⟩
/-- Why a bound is refused, if it is. -/
def boundE : Option En → Int
  | none => 0
  | some e => if e.ok = true then (if e.k = 3 then 10 else 0) else 1

set_option maxHeartbeats 1600000 in
theorem bound9_any (p : Option Addr) (d : Option En) (w : World) (h : BdW w p d) :
    Calls Try.prog 19 #[.pointer p] w fun r w' => r = .returned (.int .i64 (boundE d)) ∧ Below w.heap.size w w' := by
  cases d with
  | none =>
    obtain rfl : p = none := h
    unfold boundE
    go_enter Try.func19, Try.ntmps19
    go_wp2
    go_ret
    exact ⟨rfl, Below.refl _ _⟩
  | some e =>
    obtain ⟨⟨b, off, rfl, hb, c0, c1, c2, c3⟩, hin⟩ := h
    obtain ⟨R, hR⟩ : ∃ R, R = boundE (some e) := ⟨_, rfl⟩
    rw [← hR]
    have hR2 : R = if e.ok = true then (if e.k = 3 then 10 else 0) else 1 := hR
    obtain ⟨k, n, s, a, xs, lc, t⟩ := e
    obtain ⟨q, hq⟩ : ∃ q, q = En.ok ⟨k, n, s, a, xs, lc, t⟩ := ⟨_, rfl⟩
    rw [← hq] at hR2
    simp only at hR2 c0 c1 c2 c3
    have HA : Hid (Calls Try.prog 36 #[.agg #[.int .i64 k, .int .i64 n, .string s, .slice a xs.length lc]] w fun e w' => e = .returned (.bool q) ∧ Below w.heap.size w w') :=
      Lib.hid (by
        cases q
        · exact may_no k n s a xs lc w hin.sl hq.symm
        · exact may_ok k n s a xs lc w hin.sl hq.symm)
    have HR := Lib.hid hR2
    obtain ⟨ll, hll⟩ : ∃ ll, ll = xs.length := ⟨_, rfl⟩
    rw [← hll] at HA c3
    clear hR hR2 hq hll hin
    go_enter Try.func19, Try.ntmps19
    go_wp2_with (go_at_call 36; refine HA.out.mono ?_)
    rintro e w1 ⟨rfl, hb1⟩
    have d0 := (hb1.cell (p := ⟨b, off, none⟩) hb).trans c0
    have HB1 := Lib.hid hb1
    clear hb1 HA
    cases q
    · have HT : Hid (R = 1) := Lib.hid (by rw [HR.out]; simp)
      go_wp2
      go_ret
      exact ⟨congrArg (fun b => Ending.returned (.int .i64 b)) HT.out.symm, HB1.out⟩
    · by_cases hk : k = 3
      · have HT : Hid (R = 10) := Lib.hid (by rw [HR.out]; simp [hk])
        subst hk
        go_wp2
        go_ret
        exact ⟨congrArg (fun b => Ending.returned (.int .i64 b)) HT.out.symm, HB1.out⟩
      · have HT : Hid (R = 0) := Lib.hid (by rw [HR.out]; simp [hk])
        have hb3 : (k == 3) = false := by rw [beq_eq_false_iff_ne]; exact hk
        go_wp2
        go_ret
        exact ⟨congrArg (fun b => Ending.returned (.int .i64 b)) HT.out.symm, HB1.out⟩
end Go.Proofs.Ytnghhhmhinailaa.Dm
