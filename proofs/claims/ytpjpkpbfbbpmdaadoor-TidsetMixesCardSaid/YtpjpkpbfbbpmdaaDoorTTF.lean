/- Numbers, and two rows of numbers with two lengths, that came in. No condition. -/
import Derived.Test.YtpjpkpbfbbpmdaaDoorRows
import Derived.Test.YtpjpkpbfbbpmdaaDoorTTA
import Derived.ProofKit
import Derived.OpenShut
import Derived.Lib.SmallJoins
import Derived.Deep.Fields
import Derived.ChangeSame
import Derived.ChangeSlices
import Derived.Carry
set_option maxRecDepth 100000
namespace Go.Proofs.YtpjpkpbfbbpmdaaDoor.Ts
open Go Go.ChangeShapes Go.WideShapes Go.ChangeAt Go.RowKit Go.Deep Go.Joins

theorem laidOut : laidOutB Tryd.prog = true := by kernel_rfl
theorem readRecInts : Tryd.prog.readableRec 22 = true := by kernel_rfl
theorem readRecTwo : Tryd.prog.readableRec 24 = true := by kernel_rfl
theorem cells3 : Tryd.prog.cellsOf 3 = 1 := by kernel_rfl
theorem cellsL : Tryd.prog.cellsOf 22 = 1 := by kernel_rfl
theorem cellsTwo : Tryd.prog.cellsOf 24 = 4 := by kernel_rfl

section
variable {H : Type} {enc : TypeId × Value → H} {W : World} {base : Nat} {sp : Nat → Bool} {held : Bool}

theorem read_num {fuel : Nat} {v : Value} {y : DataW H × List MemPlace} (h : DataW.trod enc Tryd.prog W base sp held fuel 3 [v] = some y) : ∃ n, v = .int .i64 n := by
  obtain ⟨n, e, _, _⟩ := DataW.trod_int Tryd.underlying3 h
  simp at e
  exact ⟨n, e⟩

theorem read_nums {fuel : Nat} {v : Value} {y : DataW H × List MemPlace} (h : DataW.trod enc Tryd.prog W base sp held fuel 22 [v] = some y) :
    ∃ (a : Option Addr) (xs : List Int) (c : Nat), v = .slice a xs.length c ∧ ZV W a xs ∧ xs.length ≤ 9223372036854775807 := by
  rcases ChangeShapes.open_ints Tryd.underlying22 Tryd.underlying3 cells3 h with ⟨e, hd0⟩ | ⟨a, len1, cap1, zs, e, _, hlc, hcm, hzl, hd0, hcell, hwf⟩
  · simp at e
    subst e
    exact ⟨none, [], 0, rfl, .inl rfl, by simp⟩
  · simp at e
    subst e
    have hl : len1 ≤ zs.length := by rw [hzl]; split <;> omega
    have htl : (zs.take len1).length = len1 := by rw [List.length_take]; omega
    have hmx : maxLen = 9223372036854775807 := by decide
    refine ⟨some a, zs.take len1, cap1, by rw [htl], ?_, by rw [htl]; omega⟩
    by_cases h0 : len1 = 0
    · subst h0; exact .inl (List.take_zero)
    · obtain ⟨b, off, spot⟩ := a
      have hc0 := hcell 0 (by omega)
      have hspot : spot = none := by simpa [Addr.add] using World.cell?_spot hc0
      subst hspot
      refine .inr ⟨b, off, rfl, ?_, fun j hj => ?_⟩
      · rw [add_plain] at hc0
        unfold World.cell? at hc0
        split at hc0
        · rename_i hh
          exact (Array.getElem?_eq_some_iff.1 hh).1
        · cases hc0
      · have := hcell j (by omega)
        rw [add_plain] at this
        rw [this]
        simp only [List.getElem_take]
        rw [List.getD_eq_getElem?_getD, List.getElem?_eq_getElem (by omega)]
        rfl

/-- A row of numbers that came in. -/
theorem in_ints {r : Reach} {b0 : Nat} {v : Value} {d : DataW H} {p : List MemPlace} (hv : Value.okWide Tryd.prog W r b0 22 v) (hd : DataW.Trod enc Tryd.prog W base sp held 22 v d p) :
    ∃ (a : Option Addr) (xs : List Int) (c : Nat), v = .slice a xs.length c ∧ ZV W a xs ∧ xs.length ≤ 9223372036854775807 := by
  obtain ⟨a1, len1, cap1, rfl⟩ := okWide_slice Tryd.underlying22 hv
  obtain ⟨fuel, h⟩ := hd
  exact read_nums (y := (d, p)) h

/-- Two rows and two lengths that came in. -/
theorem in_two {r : Reach} {b0 : Nat} {v : Value} {d : DataW H} {p : List MemPlace} (hv : Value.okWide Tryd.prog W r b0 24 v) (hd : DataW.Trod enc Tryd.prog W base sp held 24 v d p) :
    ∃ (a : Option Addr) (xs : List Int) (c : Nat) (a' : Option Addr) (ys : List Int) (c' : Nat) (ma mb : Int), v = .agg #[.slice a xs.length c, .slice a' ys.length c', .int .i64 ma, .int .i64 mb] ∧ ZV W a xs ∧ ZV W a' ys ∧
      xs.length ≤ 9223372036854775807 ∧ ys.length ≤ 9223372036854775807 := by
  obtain ⟨cs, rfl, hsz⟩ := okWide_struct Tryd.underlying24 hv
  obtain ⟨c0, c1, c2, c3, rfl⟩ := array4 (hsz.trans cellsTwo)
  obtain ⟨fuel, hf⟩ := hd
  obtain ⟨y0, y1, y2, y3, n, hx, _, h0, h1, h2, h3⟩ := trod_struct4 Tryd.underlying24 hf
  have f0 : DataW.trod enc Tryd.prog W base sp held n 22 (([c0, c1, c2, c3].drop 0).take (Tryd.prog.cellsOf 22)) = some y0 := h0
  have f1 : DataW.trod enc Tryd.prog W base sp held n 22 (([c0, c1, c2, c3].drop 1).take (Tryd.prog.cellsOf 22)) = some y1 := h1
  have f2 : DataW.trod enc Tryd.prog W base sp held n 3 (([c0, c1, c2, c3].drop 2).take (Tryd.prog.cellsOf 3)) = some y2 := h2
  have f3 : DataW.trod enc Tryd.prog W base sp held n 3 (([c0, c1, c2, c3].drop 3).take (Tryd.prog.cellsOf 3)) = some y3 := h3
  rw [cellsL] at f0 f1
  rw [cells3] at f2 f3
  obtain ⟨a, xs, c, rfl, hx0, hn0⟩ := read_nums (v := c0) (y := y0) f0
  obtain ⟨a', ys, c', rfl, hx1, hn1⟩ := read_nums (v := c1) (y := y1) f1
  obtain ⟨ma, rfl⟩ := read_num (v := c2) (y := y2) f2
  obtain ⟨mb, rfl⟩ := read_num (v := c3) (y := y3) f3
  exact ⟨a, xs, c, a', ys, c', ma, mb, rfl, hx0, hx1, hn0, hn1⟩
end
end Go.Proofs.YtpjpkpbfbbpmdaaDoor.Ts
