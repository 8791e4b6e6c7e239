/- A list of entries that came in. -/
import Derived.Test.YtnghhhmhinailaaDR
set_option maxRecDepth 100000
namespace Go.Proofs.Ytnghhhmhinailaa.Dm
open Go Go.ChangeShapes Go.WideShapes Go.ChangeAt Go.RowKit Go.Deep Go.Joins

/-- Entries in a row, whatever they are. -/
structure EnsR (w : World) (a : Option Addr) (es : List En) : Prop where
  lies : es = [] ∨ ∃ b off, a = some ⟨b, off, none⟩ ∧ b < w.heap.size ∧ Cells5 w b off es
  all : ∀ e, e ∈ es → e.In w

section
variable {H : Type} {enc : TypeId × Value → H} {W : World} {base : Nat} {sp : Nat → Bool} {held : Bool}

/-- The five cells of an entry of a row. -/
def EnAt (W : World) (a : Addr) (i : Nat) (x : En) : Prop :=
  (W.cell? (a.add (i * 5)) = some (.int .i64 x.k) ∧ W.cell? (a.add (i * 5 + 1)) = some (.int .i64 x.n) ∧ W.cell? (a.add (i * 5 + 2)) = some (.string x.s) ∧ W.cell? (a.add (i * 5 + 3)) = some (.slice x.a x.xs.length x.lc) ∧ W.cell? (a.add (i * 5 + 4)) = some (.int .i64 x.t)) ∧ x.In W
theorem read_enAt {a : Addr} {i n : Nat} {cs : List Value} {y : DataW H × List MemPlace} (hc : W.cells? base (a.add (i * 5)) 5 = some cs) (h : DataW.trod enc Try.prog W base sp held n 35 cs = some y) : ∃ x, EnAt W a i x := by
  obtain ⟨_, hcl, hat⟩ := World.cells?_some hc
  match cs, hcl with
  | [u0, u1, u2, u3, u4], _ =>
    obtain ⟨e, hE, rfl, rfl, rfl, rfl, rfl⟩ := read_en (u0 := u0) (u1 := u1) (u2 := u2) (u3 := u3) (u4 := u4) h
    refine ⟨e, ⟨?_, ?_, ?_, ?_, ?_⟩, hE⟩
    · exact hat 0 (by omega)
    · rw [← add_add]; exact hat 1 (by omega)
    · rw [← add_add]; exact hat 2 (by omega)
    · rw [← add_add]; exact hat 3 (by omega)
    · rw [← add_add]; exact hat 4 (by omega)

/-- Entries that came in. -/
theorem open_ens {r : Reach} {b0 : Nat} {v : Value} {d : DataW H} {p : List MemPlace} (hv : Value.okWide Try.prog W r b0 25 v) (hd : DataW.Trod enc Try.prog W base sp held 25 v d p) :
    ∃ (a : Option Addr) (xs : List En) (lc : Nat), v = .slice a xs.length lc ∧ EnsR W a xs := by
  obtain ⟨a1, len1, cap1, rfl⟩ := okWide_slice Try.underlying25 hv
  obtain ⟨fuel, h⟩ := hd
  rcases open_slice Try.underlying25 h with ⟨e, hd0⟩ | ⟨a, len, cap, m, n, D, Pl, e, hd0, hl, hdd, hm, hh, hi⟩
  · simp [Value.cells] at e
    obtain ⟨rfl, rfl, rfl⟩ := e
    exact ⟨none, [], 0, rfl, .inl rfl, fun x hx => by simp at hx⟩
  · simp [Value.cells] at e
    obtain ⟨rfl, rfl, rfl⟩ := e
    have hlen : len1 ≤ m := by rw [hm]; split <;> omega
    rw [cellsEn] at hi
    have hx : ∀ i, i < len1 → ∃ x, EnAt W a i x := fun i hil => by
      obtain ⟨cs', hc, ht⟩ := hi i (by omega)
      exact read_enAt hc ht
    let f : Nat → En := fun i => if h : i < len1 then Classical.choose (hx i h) else ⟨0, 0, ⟨#[]⟩, none, [], 0, 0⟩
    have hf : ∀ i, i < len1 → EnAt W a i (f i) := fun i hil => by
      have : f i = Classical.choose (hx i hil) := dif_pos hil
      rw [this]
      exact Classical.choose_spec (hx i hil)
    have hlf : ((List.range len1).map f).length = len1 := by simp
    have hget : ∀ j (hj : j < ((List.range len1).map f).length), ((List.range len1).map f)[j]'hj = f j := fun j hj => by simp
    refine ⟨some a, (List.range len1).map f, cap1, by rw [hlf], ?_, ?_⟩
    · cases len1 with
      | zero => exact .inl rfl
      | succ len =>
        obtain ⟨b, off, spot⟩ := a
        have h0 := (hf 0 (by omega)).1.1
        have hspot : spot = none := by simpa [Addr.add] using World.cell?_spot h0
        subst hspot
        refine .inr ⟨b, off, rfl, ?_, fun j hj => ?_⟩
        · rw [add_plain] at h0
          unfold World.cell? at h0
          split at h0
          · rename_i hh
            exact (Array.getElem?_eq_some_iff.1 hh).1
          · cases h0
        · obtain ⟨⟨e0, e1, e2, e3, e4⟩, _⟩ := hf j (by rw [hlf] at hj; exact hj)
          rw [add_plain] at e0 e1 e2 e3 e4
          rw [hget j hj]
          exact ⟨e0, e1, e2, e3, e4⟩
    · intro x hx
      obtain ⟨i, hi, rfl⟩ := List.mem_map.1 hx
      exact (hf i (List.mem_range.1 hi)).2
end
end Go.Proofs.Ytnghhhmhinailaa.Dm
