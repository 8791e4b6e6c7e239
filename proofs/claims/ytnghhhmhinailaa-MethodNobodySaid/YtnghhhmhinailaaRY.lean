/- An entry that came in. -/
import Derived.Test.YtnghhhmhinailaaDV
set_option maxRecDepth 100000
namespace Go.Proofs.Ytnghhhmhinailaa.Dm
open Go Go.ChangeShapes Go.WideShapes Go.ChangeAt Go.RowKit Go.Deep Go.Joins

section
variable {H : Type} {enc : TypeId × Value → H} {W : World} {base : Nat} {sp : Nat → Bool} {held : Bool}

theorem open_entry {r : Reach} {b0 : Nat} {v : Value} {d : DataW H} {p : List MemPlace} (hv : Value.okWide Try.prog W r b0 35 v) (hd : DataW.Trod enc Try.prog W base sp held 35 v d p) :
    ∃ e : En, v = e.v ∧ e.In W := by
  obtain ⟨cs, rfl, hs⟩ := okWide_struct Try.underlying35 hv
  rw [cellsEn] at hs
  obtain ⟨fuel, h⟩ := hd
  obtain ⟨l⟩ := cs
  have hl : l.length = 5 := hs
  match l, hl with
  | [u0, u1, u2, u3, u4], _ =>
    obtain ⟨e, hE, rfl, rfl, rfl, rfl, rfl⟩ := read_en (u0 := u0) (u1 := u1) (u2 := u2) (u3 := u3) (u4 := u4) h
    exact ⟨e, rfl, hE⟩
end
end Go.Proofs.Ytnghhhmhinailaa.Dm
