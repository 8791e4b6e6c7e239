/- A list of data that came in, with its items' own lists. -/
import Derived.Test.YtoiahhfjejddjaaDoorO
set_option maxRecDepth 100000
namespace Go.Proofs.YtoiahhfjejddjaaDoor
open Go Go.ChangeShapes Go.WideShapes Go.ChangeAt Go.RowKit Go.Deep Go.Joins

/-- The item's own list. -/
def Inner (W : World) (x : It) : Prop := ∃ ys : List It, ys.length = x.ll ∧ Sl W x.a ys ∧ AllI ys
/-- Every item's number is a number of 64 bits, and every item's list can be read. -/
def Deep (W : World) (xs : List It) : Prop := AllI xs ∧ ∀ x ∈ xs, Inner W x

theorem Inner.below {W W' : World} {x : It} {B : Nat} (h : Inner W x) (hb : Below B W W') (hB : W.heap.size ≤ B) : Inner W' x := by
  obtain ⟨ys, h1, h2, h3⟩ := h
  exact ⟨ys, h1, h2.below hb hB, h3⟩

theorem readRec22 : Tryd.prog.readableRec 22 = true := by kernel_rfl

section
variable {H : Type} {enc : TypeId × Value → H} {W : World} {base : Nat} {sp : Nat → Bool} {held : Bool}

theorem read_item2 {a : Addr} {i n : Nat} {cs : List Value} {y : DataW H × List MemPlace} (hc : W.cells? base (a.add (i * 4)) 4 = some cs) (h : DataW.trod enc Tryd.prog W base sp held n 24 cs = some y) : ∃ x, ItemAt W a i x ∧ Inner W x := by
  obtain ⟨ys, n', _, _, _, hyl, hf⟩ := DataW.trod_struct Tryd.underlying24 h
  obtain ⟨_, hcl, hat⟩ := World.cells?_some hc
  match cs, hcl, ys, hyl with
  | [u0, u1, u2, u3], _, [y0, y1, y2, y3], _ =>
    have f0 : DataW.trod enc Tryd.prog W base sp held n' 3 (([u0, u1, u2, u3].drop 0).take (Tryd.prog.cellsOf 3)) = some y0 := hf 0 _ rfl
    have f1 : DataW.trod enc Tryd.prog W base sp held n' 3 (([u0, u1, u2, u3].drop 1).take (Tryd.prog.cellsOf 3)) = some y1 := hf 1 _ rfl
    have f2 : DataW.trod enc Tryd.prog W base sp held n' 9 (([u0, u1, u2, u3].drop 2).take (Tryd.prog.cellsOf 9)) = some y2 := hf 2 _ rfl
    have f3 : DataW.trod enc Tryd.prog W base sp held n' 22 (([u0, u1, u2, u3].drop 3).take (Tryd.prog.cellsOf 22)) = some y3 := hf 3 _ rfl
    rw [cells3] at f0 f1
    rw [cells9] at f2
    rw [cells22] at f3
    obtain ⟨k, rfl, _⟩ := read_int (v := u0) (y := y0) f0
    obtain ⟨m, rfl, hm⟩ := read_int (v := u1) (y := y1) f1
    obtain ⟨s, rfl⟩ := read_text (v := u2) (y := y2) f2
    obtain ⟨b, zs, c, e, hS, hA⟩ := open_items f3
    obtain rfl : u3 = .slice b zs.length c := by simpa using e
    refine ⟨⟨k, m, s, b, zs.length, c⟩, ⟨?_, ?_, ?_, ?_, hm⟩, zs, rfl, hS, hA⟩
    · exact hat 0 (by omega)
    · rw [← add_add]; exact hat 1 (by omega)
    · rw [← add_add]; exact hat 2 (by omega)
    · rw [← add_add]; exact hat 3 (by omega)

/-- A list of data that came in. -/
theorem open_list {r : Reach} {b0 : Nat} {v : Value} {d : DataW H} {p : List MemPlace} (hv : Value.okWide Tryd.prog W r b0 22 v) (hd : DataW.Trod enc Tryd.prog W base sp held 22 v d p) :
    ∃ (a : Option Addr) (xs : List It) (lc : Nat), v = .slice a xs.length lc ∧ Sl W a xs ∧ Deep W xs := by
  obtain ⟨a1, len1, cap1, rfl⟩ := okWide_slice Tryd.underlying22 hv
  obtain ⟨fuel, h⟩ := hd
  rcases open_slice Tryd.underlying22 h with ⟨e, _⟩ | ⟨a, len, cap, m, n, D, Pl, e, _, hl, _, hm, _, hi⟩
  · simp [Value.cells] at e
    obtain ⟨rfl, rfl, rfl⟩ := e
    exact ⟨none, [], 0, rfl, .inl rfl, (fun x hx => by simp at hx), fun x hx => by simp at hx⟩
  · simp [Value.cells] at e
    obtain ⟨rfl, rfl, rfl⟩ := e
    have hlen : len1 ≤ m := by rw [hm]; split <;> omega
    rw [cells24] at hi
    have hx : ∀ i, i < len1 → ∃ x, ItemAt W a i x ∧ Inner W x := fun i hil => by
      obtain ⟨cs', hc, ht⟩ := hi i (by omega)
      exact read_item2 hc ht
    let f : Nat → It := fun i => if h : i < len1 then Classical.choose (hx i h) else ⟨0, 0, ⟨#[]⟩, none, 0, 0⟩
    have hf : ∀ i, i < len1 → ItemAt W a i (f i) ∧ Inner W (f i) := fun i hil => by
      have : f i = Classical.choose (hx i hil) := dif_pos hil
      rw [this]
      exact Classical.choose_spec (hx i hil)
    have hlf : ((List.range len1).map f).length = len1 := by simp
    have hget : ∀ j (hj : j < ((List.range len1).map f).length), ((List.range len1).map f)[j]'hj = f j := fun j hj => by simp
    refine ⟨some a, (List.range len1).map f, cap1, by rw [hlf], ?_, ?_, ?_⟩
    · cases len1 with
      | zero => exact .inl rfl
      | succ len =>
        obtain ⟨b, off, spot⟩ := a
        have h0 := (hf 0 (by omega)).1.1
        have hspot : spot = none := by simpa [Addr.add] using World.cell?_spot h0
        subst hspot
        refine .inr ⟨b, off, rfl, ?_, fun j hj => ?_⟩
        · rw [add_plain] at h0
          unfold World.cell? at h0
          split at h0
          · rename_i hh
            exact (Array.getElem?_eq_some_iff.1 hh).1
          · cases h0
        · obtain ⟨e0, e1, e2, e3, _⟩ := (hf j (by rw [hlf] at hj; exact hj)).1
          rw [add_plain] at e0 e1 e2 e3
          rw [hget j hj]
          exact ⟨e0, e1, e2, e3⟩
    · intro x hx
      obtain ⟨i, hi, rfl⟩ := List.mem_map.1 hx
      exact (hf i (List.mem_range.1 hi)).1.2.2.2.2
    · intro x hx
      obtain ⟨i, hi, rfl⟩ := List.mem_map.1 hx
      exact (hf i (List.mem_range.1 hi)).2
end
end Go.Proofs.YtoiahhfjejddjaaDoor
