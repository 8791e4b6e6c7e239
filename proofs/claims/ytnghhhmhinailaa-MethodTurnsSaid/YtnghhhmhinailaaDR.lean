/- Data, entries and scripts that came in. -/
import Derived.Test.YtnghhhmhinailaaRows
import Derived.Test.YtnghhhmhinailaaDQ
import Derived.ProofKit
import Derived.SizedLaws
import Derived.LaidMore
import Derived.OpenShut
import Derived.Lib.SmallJoins
import Derived.Deep.Slices
import Derived.Deep.Fields
import Derived.ChangeSame
import Derived.Carry
set_option maxRecDepth 100000
namespace Go.Proofs.Ytnghhhmhinailaa.Dm
open Go Go.ChangeShapes Go.WideShapes Go.ChangeAt Go.RowKit Go.Deep Go.Joins

theorem laidOut : laidOutB Try.prog = true := by kernel_rfl
theorem readRecOps : Try.prog.readableRec 22 = true := by kernel_rfl
theorem cellsOp : Try.prog.cellsOf 75 = 6 := by kernel_rfl
theorem cellsEn : Try.prog.cellsOf 35 = 5 := by kernel_rfl
theorem cellsDt : Try.prog.cellsOf 33 = 4 := by kernel_rfl
theorem cellsDs : Try.prog.cellsOf 31 = 1 := by kernel_rfl
theorem cells3 : Try.prog.cellsOf 3 = 1 := by kernel_rfl
theorem cells9 : Try.prog.cellsOf 9 = 1 := by kernel_rfl
theorem bytesOp : Try.prog.bytesOf 75 = 72 := by kernel_rfl

section
variable {H : Type} {enc : TypeId × Value → H} {W : World} {base : Nat} {sp : Nat → Bool} {held : Bool}

theorem i64_of_wf {n : Int} (h : (Lit.int .i64 n).wf = true) : I64 n := by
  have e1 : IntKind.i64.min = -9223372036854775808 := rfl
  have e2 : IntKind.i64.max = 9223372036854775807 := rfl
  simp [Lit.wf, e1, e2] at h
  exact ⟨h.1, h.2⟩
theorem read_int {fuel : Nat} {v : Value} {y : DataW H × List MemPlace} (h : DataW.trod enc Try.prog W base sp held fuel 3 [v] = some y) : ∃ n, v = .int .i64 n ∧ I64 n := by
  obtain ⟨n, e, _, wf⟩ := DataW.trod_int Try.underlying3 h
  simp at e
  exact ⟨n, e, i64_of_wf wf⟩
theorem read_text {fuel : Nat} {v : Value} {y : DataW H × List MemPlace} (h : DataW.trod enc Try.prog W base sp held fuel 9 [v] = some y) : ∃ s, v = .string s := by
  obtain ⟨s, e, _, _⟩ := DataW.trod_string Try.underlying9 h
  simp at e
  exact ⟨s, e⟩
theorem read_slice {fuel : Nat} {v : Value} {y : DataW H × List MemPlace} (h : DataW.trod enc Try.prog W base sp held fuel 31 [v] = some y) : ∃ a len cap, v = .slice a len cap := by
  rcases open_slice Try.underlying31 h with ⟨e, _⟩ | ⟨a, len, cap, _, _, _, _, e, _⟩
  · simp at e; exact ⟨_, _, _, e⟩
  · simp at e; exact ⟨_, _, _, e⟩

/-- The four cells of one item. -/
def ItemAt (W : World) (a : Addr) (i : Nat) (x : It) : Prop :=
  W.cell? (a.add (i * 4)) = some (.int .i64 x.k) ∧ W.cell? (a.add (i * 4 + 1)) = some (.int .i64 x.n) ∧ W.cell? (a.add (i * 4 + 2)) = some (.string x.s) ∧ W.cell? (a.add (i * 4 + 3)) = some (.slice x.a x.ll x.lc) ∧ I64 x.n

theorem read_item {a : Addr} {i n : Nat} {cs : List Value} {y : DataW H × List MemPlace} (hc : W.cells? base (a.add (i * 4)) 4 = some cs) (h : DataW.trod enc Try.prog W base sp held n 33 cs = some y) : ∃ x, ItemAt W a i x := by
  obtain ⟨ys, n', _, _, _, hyl, hf⟩ := DataW.trod_struct Try.underlying33 h
  obtain ⟨_, hcl, hat⟩ := World.cells?_some hc
  match cs, hcl, ys, hyl with
  | [u0, u1, u2, u3], _, [y0, y1, y2, y3], _ =>
    have f0 : DataW.trod enc Try.prog W base sp held n' 3 (([u0, u1, u2, u3].drop 0).take (Try.prog.cellsOf 3)) = some y0 := hf 0 _ rfl
    have f1 : DataW.trod enc Try.prog W base sp held n' 3 (([u0, u1, u2, u3].drop 1).take (Try.prog.cellsOf 3)) = some y1 := hf 1 _ rfl
    have f2 : DataW.trod enc Try.prog W base sp held n' 9 (([u0, u1, u2, u3].drop 2).take (Try.prog.cellsOf 9)) = some y2 := hf 2 _ rfl
    have f3 : DataW.trod enc Try.prog W base sp held n' 31 (([u0, u1, u2, u3].drop 3).take (Try.prog.cellsOf 31)) = some y3 := hf 3 _ rfl
    rw [cells3] at f0 f1
    rw [cells9] at f2
    rw [cellsDs] at f3
    obtain ⟨k, rfl, _⟩ := read_int (v := u0) (y := y0) f0
    obtain ⟨m, rfl, hm⟩ := read_int (v := u1) (y := y1) f1
    obtain ⟨s, rfl⟩ := read_text (v := u2) (y := y2) f2
    obtain ⟨b, l, c, rfl⟩ := read_slice (v := u3) (y := y3) f3
    refine ⟨⟨k, m, s, b, l, c⟩, ?_, ?_, ?_, ?_, hm⟩
    · exact hat 0 (by omega)
    · rw [← add_add]; exact hat 1 (by omega)
    · rw [← add_add]; exact hat 2 (by omega)
    · rw [← add_add]; exact hat 3 (by omega)

/-- A list of data that came in. -/
theorem open_items {fuel : Nat} {cs : List Value} {y : DataW H × List MemPlace} (h : DataW.trod enc Try.prog W base sp held fuel 31 cs = some y) :
    ∃ (a : Option Addr) (xs : List It) (lc : Nat), cs = [.slice a xs.length lc] ∧ Sl W a xs ∧ AllI xs := by
  rcases open_slice Try.underlying31 h with ⟨e, _⟩ | ⟨a, len, cap, m, n, D, Pl, e, _, hl, _, hm, _, hi⟩
  · exact ⟨none, [], 0, e, .inl rfl, fun x hx => by simp at hx⟩
  · have hlen : len ≤ m := by rw [hm]; split <;> omega
    rw [cellsDt] at hi
    have hx : ∀ i, i < len → ∃ x, ItemAt W a i x := fun i hil => by
      obtain ⟨cs', hc, ht⟩ := hi i (by omega)
      exact read_item hc ht
    let f : Nat → It := fun i => if h : i < len then Classical.choose (hx i h) else ⟨0, 0, ⟨#[]⟩, none, 0, 0⟩
    have hf : ∀ i, i < len → ItemAt W a i (f i) := fun i hil => by
      have : f i = Classical.choose (hx i hil) := dif_pos hil
      rw [this]
      exact Classical.choose_spec (hx i hil)
    have hlf : ((List.range len).map f).length = len := by simp
    have hget : ∀ j (hj : j < ((List.range len).map f).length), ((List.range len).map f)[j]'hj = f j := fun j hj => by simp
    refine ⟨some a, (List.range len).map f, cap, by rw [hlf]; exact e, ?_, ?_⟩
    · cases len with
      | zero => exact .inl rfl
      | succ len =>
        obtain ⟨b, off, spot⟩ := a
        have h0 := (hf 0 (by omega)).1
        have hspot : spot = none := by simpa [Addr.add] using World.cell?_spot h0
        subst hspot
        refine .inr ⟨b, off, rfl, ?_, fun j hj => ?_⟩
        · rw [add_plain] at h0
          unfold World.cell? at h0
          split at h0
          · rename_i hh
            exact (Array.getElem?_eq_some_iff.1 hh).1
          · cases h0
        · obtain ⟨e0, e1, e2, e3, _⟩ := hf j (by rw [hlf] at hj; exact hj)
          rw [add_plain] at e0 e1 e2 e3
          rw [hget j hj]
          exact ⟨e0, e1, e2, e3⟩
    · intro x hx
      obtain ⟨i, hi, rfl⟩ := List.mem_map.1 hx
      exact (hf i (List.mem_range.1 hi)).2.2.2.2

/-- The five cells of an entry. -/
theorem read_en {n : Nat} {u0 u1 u2 u3 u4 : Value} {y : DataW H × List MemPlace} (h : DataW.trod enc Try.prog W base sp held n 35 [u0, u1, u2, u3, u4] = some y) : ∃ e : En, e.In W ∧ u0 = .int .i64 e.k ∧ u1 = .int .i64 e.n ∧ u2 = .string e.s ∧ u3 = .slice e.a e.xs.length e.lc ∧ u4 = .int .i64 e.t := by
  obtain ⟨ys, n', _, _, _, hyl, hf⟩ := DataW.trod_struct Try.underlying35 h
  match ys, hyl with
  | [y0, y1], _ =>
    have f0 : DataW.trod enc Try.prog W base sp held n' 33 (([u0, u1, u2, u3, u4].drop 0).take (Try.prog.cellsOf 33)) = some y0 := hf 0 _ rfl
    have f1 : DataW.trod enc Try.prog W base sp held n' 3 (([u0, u1, u2, u3, u4].drop 4).take (Try.prog.cellsOf 3)) = some y1 := hf 1 _ rfl
    rw [cellsDt] at f0
    rw [cells3] at f1
    obtain ⟨t, rfl, ht⟩ := read_int (v := u4) (y := y1) f1
    obtain ⟨zs, n2, _, _, _, hzl, hg⟩ := DataW.trod_struct Try.underlying33 f0
    match zs, hzl with
    | [z0, z1, z2, z3], _ =>
      have g0 : DataW.trod enc Try.prog W base sp held n2 3 (([u0, u1, u2, u3].drop 0).take (Try.prog.cellsOf 3)) = some z0 := hg 0 _ rfl
      have g1 : DataW.trod enc Try.prog W base sp held n2 3 (([u0, u1, u2, u3].drop 1).take (Try.prog.cellsOf 3)) = some z1 := hg 1 _ rfl
      have g2 : DataW.trod enc Try.prog W base sp held n2 9 (([u0, u1, u2, u3].drop 2).take (Try.prog.cellsOf 9)) = some z2 := hg 2 _ rfl
      have g3 : DataW.trod enc Try.prog W base sp held n2 31 (([u0, u1, u2, u3].drop 3).take (Try.prog.cellsOf 31)) = some z3 := hg 3 _ rfl
      rw [cells3] at g0 g1
      rw [cells9] at g2
      rw [cellsDs] at g3
      obtain ⟨k, rfl, _⟩ := read_int (v := u0) (y := z0) g0
      obtain ⟨m, rfl, hm⟩ := read_int (v := u1) (y := z1) g1
      obtain ⟨s, rfl⟩ := read_text (v := u2) (y := z2) g2
      obtain ⟨b, xs, c, e, hS, hA⟩ := open_items g3
      obtain rfl : u3 = .slice b xs.length c := by simpa using e
      exact ⟨⟨k, m, s, b, xs, c, t⟩, ⟨hS, hm, hA, ht⟩, rfl, rfl, rfl, rfl, rfl⟩

/-- The six cells of a call. -/
def OpAt (W : World) (a : Addr) (i : Nat) (x : OpE) : Prop :=
  (W.cell? (a.add (i * 6)) = some (.int .i64 x.o) ∧ W.cell? (a.add (i * 6 + 1)) = some (.int .i64 x.e.k) ∧ W.cell? (a.add (i * 6 + 2)) = some (.int .i64 x.e.n) ∧ W.cell? (a.add (i * 6 + 3)) = some (.string x.e.s) ∧ W.cell? (a.add (i * 6 + 4)) = some (.slice x.e.a x.e.xs.length x.e.lc) ∧ W.cell? (a.add (i * 6 + 5)) = some (.int .i64 x.e.t)) ∧ x.e.In W
theorem read_op {a : Addr} {i n : Nat} {cs : List Value} {y : DataW H × List MemPlace} (hc : W.cells? base (a.add (i * 6)) 6 = some cs) (h : DataW.trod enc Try.prog W base sp held n 75 cs = some y) : ∃ x, OpAt W a i x := by
  obtain ⟨ys, n', _, _, _, hyl, hf⟩ := DataW.trod_struct Try.underlying75 h
  obtain ⟨_, hcl, hat⟩ := World.cells?_some hc
  match cs, hcl, ys, hyl with
  | [u, u0, u1, u2, u3, u4], _, [y0, y1], _ =>
    have f0 : DataW.trod enc Try.prog W base sp held n' 3 (([u, u0, u1, u2, u3, u4].drop 0).take (Try.prog.cellsOf 3)) = some y0 := hf 0 _ rfl
    have f1 : DataW.trod enc Try.prog W base sp held n' 35 (([u, u0, u1, u2, u3, u4].drop 1).take (Try.prog.cellsOf 35)) = some y1 := hf 1 _ rfl
    rw [cells3] at f0
    rw [cellsEn] at f1
    obtain ⟨o, rfl, _⟩ := read_int (v := u) (y := y0) f0
    obtain ⟨e, hE, rfl, rfl, rfl, rfl, rfl⟩ := read_en (u0 := u0) (u1 := u1) (u2 := u2) (u3 := u3) (u4 := u4) f1
    refine ⟨⟨o, e⟩, ⟨?_, ?_, ?_, ?_, ?_, ?_⟩, hE⟩
    · exact hat 0 (by omega)
    · rw [← add_add]; exact hat 1 (by omega)
    · rw [← add_add]; exact hat 2 (by omega)
    · rw [← add_add]; exact hat 3 (by omega)
    · rw [← add_add]; exact hat 4 (by omega)
    · rw [← add_add]; exact hat 5 (by omega)

/-- A script that came in. -/
theorem open_ops {r : Reach} {b0 : Nat} {v : Value} {d : DataW H} {p : List MemPlace} (hv : Value.okWide Try.prog W r b0 22 v) (hd : DataW.Trod enc Try.prog W base sp held 22 v d p) :
    ∃ (a : Option Addr) (xs : List OpE) (lc : Nat), v = .slice a xs.length lc ∧ OpsW W a xs := by
  obtain ⟨a1, len1, cap1, rfl⟩ := okWide_slice Try.underlying22 hv
  obtain ⟨fuel, h⟩ := hd
  rcases open_slice Try.underlying22 h with ⟨e, hd0⟩ | ⟨a, len, cap, m, n, D, Pl, e, hd0, hl, hdd, hm, hh, hi⟩
  · simp [Value.cells] at e
    obtain ⟨rfl, rfl, rfl⟩ := e
    exact ⟨none, [], 0, rfl, .inl rfl, fun x hx => by simp at hx⟩
  · simp [Value.cells] at e
    obtain ⟨rfl, rfl, rfl⟩ := e
    have hlen : len1 ≤ m := by rw [hm]; split <;> omega
    rw [cellsOp] at hi
    have hx : ∀ i, i < len1 → ∃ x, OpAt W a i x := fun i hil => by
      obtain ⟨cs', hc, ht⟩ := hi i (by omega)
      exact read_op hc ht
    let f : Nat → OpE := fun i => if h : i < len1 then Classical.choose (hx i h) else ⟨0, ⟨0, 0, ⟨#[]⟩, none, [], 0, 0⟩⟩
    have hf : ∀ i, i < len1 → OpAt W a i (f i) := fun i hil => by
      have : f i = Classical.choose (hx i hil) := dif_pos hil
      rw [this]
      exact Classical.choose_spec (hx i hil)
    have hlf : ((List.range len1).map f).length = len1 := by simp
    have hget : ∀ j (hj : j < ((List.range len1).map f).length), ((List.range len1).map f)[j]'hj = f j := fun j hj => by simp
    refine ⟨some a, (List.range len1).map f, cap1, by rw [hlf], ?_, ?_⟩
    · cases len1 with
      | zero => exact .inl rfl
      | succ len =>
        obtain ⟨b, off, spot⟩ := a
        have h0 := (hf 0 (by omega)).1.1
        have hspot : spot = none := by simpa [Addr.add] using World.cell?_spot h0
        subst hspot
        refine .inr ⟨b, off, rfl, ?_, fun j hj => ?_⟩
        · rw [add_plain] at h0
          unfold World.cell? at h0
          split at h0
          · rename_i hh
            exact (Array.getElem?_eq_some_iff.1 hh).1
          · cases h0
        · obtain ⟨⟨e0, e1, e2, e3, e4, e5⟩, _⟩ := hf j (by rw [hlf] at hj; exact hj)
          rw [add_plain] at e0 e1 e2 e3 e4 e5
          rw [hget j hj]
          exact ⟨e0, e1, e2, e3, e4, e5⟩
    · intro x hx
      obtain ⟨i, hi, rfl⟩ := List.mem_map.1 hx
      exact (hf i (List.mem_range.1 hi)).2
end
end Go.Proofs.Ytnghhhmhinailaa.Dm
