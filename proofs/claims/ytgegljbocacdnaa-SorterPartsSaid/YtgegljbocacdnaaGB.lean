/- A list of texts that came in. -/
import Derived.Test.YtgegljbocacdnaaGA
import Derived.Test.YtgegljbocacdnaaRows
import Derived.SliceStrings
import Derived.ProofKit
import Derived.ChangeMaps5
import Derived.Deep.Slices
set_option maxRecDepth 100000
namespace Go.Proofs.Ytgegljbocacdnaa
open Go Go.ChangeShapes Go.WideShapes Go.ChangeAt Go.RowKit

theorem laidOut : laidOutB Try.prog = true := by kernel_rfl
theorem readRecStrs : Try.prog.readableRec 22 = true := by kernel_rfl
theorem cells9 : Try.prog.cellsOf 9 = 1 := by kernel_rfl

section
variable {H : Type} {enc : TypeId × Value → H} {W : World} {base : Nat} {sp : Nat → Bool} {held : Bool}

theorem add_plain (b off i : Nat) : (⟨b, off, none⟩ : Addr).add i = ⟨b, off + i, none⟩ := Addr.add_lit _ _ _

theorem open_texts {r : Reach} {b0 : Nat} {v : Value} {d : DataW H} {p : List MemPlace} (hv : Value.okWide Try.prog W r b0 22 v) (hd : DataW.Trod enc Try.prog W base sp held 22 v d p) :
    ∃ (a : Option Addr) (xs : List ByteArray) (c : Nat), v = .slice a xs.length c ∧ Texts W (.slice a xs.length c) xs ∧ xs.length ≤ 9223372036854775807 := by
  obtain ⟨a1, len1, cap1, rfl⟩ := okWide_slice Try.underlying22 hv
  obtain ⟨fuel, h⟩ := hd
  rcases open_strings Try.underlying22 Try.underlying9 cells9 h with ⟨e, _⟩ | ⟨a, len, cap, ss, e, _, hlc, hcm, hss, _, hcell, _⟩
  · simp [Value.cells] at e
    obtain ⟨rfl, rfl, rfl⟩ := e
    exact ⟨none, [], 0, rfl, ⟨none, 0, rfl, .inl rfl⟩, by simp⟩
  · simp [Value.cells] at e
    obtain ⟨rfl, rfl, rfl⟩ := e
    unfold maxLen at hcm
    have hlen : len1 ≤ ss.length := by rw [hss]; split <;> omega
    have hl : (ss.take len1).length = len1 := by rw [List.length_take]; omega
    refine ⟨some a, ss.take len1, cap1, by rw [hl], ⟨some a, cap1, rfl, ?_⟩, by omega⟩
    cases len1 with
    | zero => exact .inl (by simp)
    | succ n =>
      obtain ⟨b, off, spot⟩ := a
      have h0 := hcell 0 (by omega)
      have hspot : spot = none := by simpa [Addr.add] using World.cell?_spot h0
      subst hspot
      refine .inr ⟨b, off, rfl, ?_, fun j hj => ?_⟩
      · rw [add_plain] at h0
        unfold World.cell? at h0
        split at h0
        · rename_i hh
          exact (Array.getElem?_eq_some_iff.1 hh).1
        · cases h0
      · rw [hl] at hj
        have := hcell j (by omega)
        rw [add_plain] at this
        rw [this, List.getElem_take, List.getD_eq_getElem?_getD, List.getElem?_eq_getElem (by omega)]
        rfl
end
end Go.Proofs.Ytgegljbocacdnaa
