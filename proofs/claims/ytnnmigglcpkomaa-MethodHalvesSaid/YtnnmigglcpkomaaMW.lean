/- Texts of the same proof, one behind the other: DR, DV, MG, QG, QF. -/
import Derived.Test.YtnnmigglcpkomaaRows
import Derived.Test.YtnnmigglcpkomaaDQ
import Derived.ProofKit
import Derived.SizedLaws
import Derived.LaidMore
import Derived.OpenShut
import Derived.Lib.SmallJoins
import Derived.Deep.Slices
import Derived.Deep.Fields
import Derived.ChangeSame
import Derived.Carry
import Derived.Test.YtnnmigglcpkomaaMZ
import Derived.Deep.CutRange
import Derived.Deep.DeepCutAuto
/- Data, entries and scripts that came in. -/
set_option maxRecDepth 100000
namespace Go.Proofs.Ytnnmigglcpkomaa.Dm
open Go Go.ChangeShapes Go.WideShapes Go.ChangeAt Go.RowKit Go.Deep Go.Joins

theorem laidOut : laidOutB Try.prog = true := by kernel_rfl
theorem readRecOps : Try.prog.readableRec 22 = true := by kernel_rfl
theorem cellsOp : Try.prog.cellsOf 75 = 6 := by kernel_rfl
theorem cellsEn : Try.prog.cellsOf 35 = 5 := by kernel_rfl
theorem cellsDt : Try.prog.cellsOf 33 = 4 := by kernel_rfl
theorem cellsDs : Try.prog.cellsOf 31 = 1 := by kernel_rfl
theorem cells3 : Try.prog.cellsOf 3 = 1 := by kernel_rfl
theorem cells9 : Try.prog.cellsOf 9 = 1 := by kernel_rfl
theorem bytesOp : Try.prog.bytesOf 75 = 72 := by kernel_rfl

section
variable {H : Type} {enc : TypeId × Value → H} {W : World} {base : Nat} {sp : Nat → Bool} {held : Bool}

theorem i64_of_wf {n : Int} (h : (Lit.int .i64 n).wf = true) : I64 n := by
  have e1 : IntKind.i64.min = -9223372036854775808 := rfl
  have e2 : IntKind.i64.max = 9223372036854775807 := rfl
  simp [Lit.wf, e1, e2] at h
  exact ⟨h.1, h.2⟩
theorem read_int {fuel : Nat} {v : Value} {y : DataW H × List MemPlace} (h : DataW.trod enc Try.prog W base sp held fuel 3 [v] = some y) : ∃ n, v = .int .i64 n ∧ I64 n := by
  obtain ⟨n, e, _, wf⟩ := DataW.trod_int Try.underlying3 h
  simp at e
  exact ⟨n, e, i64_of_wf wf⟩
theorem read_text {fuel : Nat} {v : Value} {y : DataW H × List MemPlace} (h : DataW.trod enc Try.prog W base sp held fuel 9 [v] = some y) : ∃ s, v = .string s := by
  obtain ⟨s, e, _, _⟩ := DataW.trod_string Try.underlying9 h
  simp at e
  exact ⟨s, e⟩
theorem read_slice {fuel : Nat} {v : Value} {y : DataW H × List MemPlace} (h : DataW.trod enc Try.prog W base sp held fuel 31 [v] = some y) : ∃ a len cap, v = .slice a len cap := by
  rcases open_slice Try.underlying31 h with ⟨e, _⟩ | ⟨a, len, cap, _, _, _, _, e, _⟩
  · simp at e; exact ⟨_, _, _, e⟩
  · simp at e; exact ⟨_, _, _, e⟩

/-- The four cells of one item. -/
def ItemAt (W : World) (a : Addr) (i : Nat) (x : It) : Prop :=
  W.cell? (a.add (i * 4)) = some (.int .i64 x.k) ∧ W.cell? (a.add (i * 4 + 1)) = some (.int .i64 x.n) ∧ W.cell? (a.add (i * 4 + 2)) = some (.string x.s) ∧ W.cell? (a.add (i * 4 + 3)) = some (.slice x.a x.ll x.lc) ∧ I64 x.n

theorem read_item {a : Addr} {i n : Nat} {cs : List Value} {y : DataW H × List MemPlace} (hc : W.cells? base (a.add (i * 4)) 4 = some cs) (h : DataW.trod enc Try.prog W base sp held n 33 cs = some y) : ∃ x, ItemAt W a i x := by
  obtain ⟨ys, n', _, _, _, hyl, hf⟩ := DataW.trod_struct Try.underlying33 h
  obtain ⟨_, hcl, hat⟩ := World.cells?_some hc
  match cs, hcl, ys, hyl with
  | [u0, u1, u2, u3], _, [y0, y1, y2, y3], _ =>
    have f0 : DataW.trod enc Try.prog W base sp held n' 3 (([u0, u1, u2, u3].drop 0).take (Try.prog.cellsOf 3)) = some y0 := hf 0 _ rfl
    have f1 : DataW.trod enc Try.prog W base sp held n' 3 (([u0, u1, u2, u3].drop 1).take (Try.prog.cellsOf 3)) = some y1 := hf 1 _ rfl
    have f2 : DataW.trod enc Try.prog W base sp held n' 9 (([u0, u1, u2, u3].drop 2).take (Try.prog.cellsOf 9)) = some y2 := hf 2 _ rfl
    have f3 : DataW.trod enc Try.prog W base sp held n' 31 (([u0, u1, u2, u3].drop 3).take (Try.prog.cellsOf 31)) = some y3 := hf 3 _ rfl
    rw [cells3] at f0 f1
    rw [cells9] at f2
    rw [cellsDs] at f3
    obtain ⟨k, rfl, _⟩ := read_int (v := u0) (y := y0) f0
    obtain ⟨m, rfl, hm⟩ := read_int (v := u1) (y := y1) f1
    obtain ⟨s, rfl⟩ := read_text (v := u2) (y := y2) f2
    obtain ⟨b, l, c, rfl⟩ := read_slice (v := u3) (y := y3) f3
    refine ⟨⟨k, m, s, b, l, c⟩, ?_, ?_, ?_, ?_, hm⟩
    · exact hat 0 (by omega)
    · rw [← add_add]; exact hat 1 (by omega)
    · rw [← add_add]; exact hat 2 (by omega)
    · rw [← add_add]; exact hat 3 (by omega)

/-- A list of data that came in. -/
theorem open_items {fuel : Nat} {cs : List Value} {y : DataW H × List MemPlace} (h : DataW.trod enc Try.prog W base sp held fuel 31 cs = some y) :
    ∃ (a : Option Addr) (xs : List It) (lc : Nat), cs = [.slice a xs.length lc] ∧ Sl W a xs ∧ AllI xs := by
  rcases open_slice Try.underlying31 h with ⟨e, _⟩ | ⟨a, len, cap, m, n, D, Pl, e, _, hl, _, hm, _, hi⟩
  · exact ⟨none, [], 0, e, .inl rfl, fun x hx => by simp at hx⟩
  · have hlen : len ≤ m := by rw [hm]; split <;> omega
    rw [cellsDt] at hi
    have hx : ∀ i, i < len → ∃ x, ItemAt W a i x := fun i hil => by
      obtain ⟨cs', hc, ht⟩ := hi i (by omega)
      exact read_item hc ht
    let f : Nat → It := fun i => if h : i < len then Classical.choose (hx i h) else ⟨0, 0, ⟨#[]⟩, none, 0, 0⟩
    have hf : ∀ i, i < len → ItemAt W a i (f i) := fun i hil => by
      have : f i = Classical.choose (hx i hil) := dif_pos hil
      rw [this]
      exact Classical.choose_spec (hx i hil)
    have hlf : ((List.range len).map f).length = len := by simp
    have hget : ∀ j (hj : j < ((List.range len).map f).length), ((List.range len).map f)[j]'hj = f j := fun j hj => by simp
    refine ⟨some a, (List.range len).map f, cap, by rw [hlf]; exact e, ?_, ?_⟩
    · cases len with
      | zero => exact .inl rfl
      | succ len =>
        obtain ⟨b, off, spot⟩ := a
        have h0 := (hf 0 (by omega)).1
        have hspot : spot = none := by simpa [Addr.add] using World.cell?_spot h0
        subst hspot
        refine .inr ⟨b, off, rfl, ?_, fun j hj => ?_⟩
        · rw [add_plain] at h0
          unfold World.cell? at h0
          split at h0
          · rename_i hh
            exact (Array.getElem?_eq_some_iff.1 hh).1
          · cases h0
        · obtain ⟨e0, e1, e2, e3, _⟩ := hf j (by rw [hlf] at hj; exact hj)
          rw [add_plain] at e0 e1 e2 e3
          rw [hget j hj]
          exact ⟨e0, e1, e2, e3⟩
    · intro x hx
      obtain ⟨i, hi, rfl⟩ := List.mem_map.1 hx
      exact (hf i (List.mem_range.1 hi)).2.2.2.2

/-- The five cells of an entry. -/
theorem read_en {n : Nat} {u0 u1 u2 u3 u4 : Value} {y : DataW H × List MemPlace} (h : DataW.trod enc Try.prog W base sp held n 35 [u0, u1, u2, u3, u4] = some y) : ∃ e : En, e.In W ∧ u0 = .int .i64 e.k ∧ u1 = .int .i64 e.n ∧ u2 = .string e.s ∧ u3 = .slice e.a e.xs.length e.lc ∧ u4 = .int .i64 e.t := by
  obtain ⟨ys, n', _, _, _, hyl, hf⟩ := DataW.trod_struct Try.underlying35 h
  match ys, hyl with
  | [y0, y1], _ =>
    have f0 : DataW.trod enc Try.prog W base sp held n' 33 (([u0, u1, u2, u3, u4].drop 0).take (Try.prog.cellsOf 33)) = some y0 := hf 0 _ rfl
    have f1 : DataW.trod enc Try.prog W base sp held n' 3 (([u0, u1, u2, u3, u4].drop 4).take (Try.prog.cellsOf 3)) = some y1 := hf 1 _ rfl
    rw [cellsDt] at f0
    rw [cells3] at f1
    obtain ⟨t, rfl, ht⟩ := read_int (v := u4) (y := y1) f1
    obtain ⟨zs, n2, _, _, _, hzl, hg⟩ := DataW.trod_struct Try.underlying33 f0
    match zs, hzl with
    | [z0, z1, z2, z3], _ =>
      have g0 : DataW.trod enc Try.prog W base sp held n2 3 (([u0, u1, u2, u3].drop 0).take (Try.prog.cellsOf 3)) = some z0 := hg 0 _ rfl
      have g1 : DataW.trod enc Try.prog W base sp held n2 3 (([u0, u1, u2, u3].drop 1).take (Try.prog.cellsOf 3)) = some z1 := hg 1 _ rfl
      have g2 : DataW.trod enc Try.prog W base sp held n2 9 (([u0, u1, u2, u3].drop 2).take (Try.prog.cellsOf 9)) = some z2 := hg 2 _ rfl
      have g3 : DataW.trod enc Try.prog W base sp held n2 31 (([u0, u1, u2, u3].drop 3).take (Try.prog.cellsOf 31)) = some z3 := hg 3 _ rfl
      rw [cells3] at g0 g1
      rw [cells9] at g2
      rw [cellsDs] at g3
      obtain ⟨k, rfl, _⟩ := read_int (v := u0) (y := z0) g0
      obtain ⟨m, rfl, hm⟩ := read_int (v := u1) (y := z1) g1
      obtain ⟨s, rfl⟩ := read_text (v := u2) (y := z2) g2
      obtain ⟨b, xs, c, e, hS, hA⟩ := open_items g3
      obtain rfl : u3 = .slice b xs.length c := by simpa using e
      exact ⟨⟨k, m, s, b, xs, c, t⟩, ⟨hS, hm, hA, ht⟩, rfl, rfl, rfl, rfl, rfl⟩

/-- The six cells of a call. -/
def OpAt (W : World) (a : Addr) (i : Nat) (x : OpE) : Prop :=
  (W.cell? (a.add (i * 6)) = some (.int .i64 x.o) ∧ W.cell? (a.add (i * 6 + 1)) = some (.int .i64 x.e.k) ∧ W.cell? (a.add (i * 6 + 2)) = some (.int .i64 x.e.n) ∧ W.cell? (a.add (i * 6 + 3)) = some (.string x.e.s) ∧ W.cell? (a.add (i * 6 + 4)) = some (.slice x.e.a x.e.xs.length x.e.lc) ∧ W.cell? (a.add (i * 6 + 5)) = some (.int .i64 x.e.t)) ∧ x.e.In W
theorem read_op {a : Addr} {i n : Nat} {cs : List Value} {y : DataW H × List MemPlace} (hc : W.cells? base (a.add (i * 6)) 6 = some cs) (h : DataW.trod enc Try.prog W base sp held n 75 cs = some y) : ∃ x, OpAt W a i x := by
  obtain ⟨ys, n', _, _, _, hyl, hf⟩ := DataW.trod_struct Try.underlying75 h
  obtain ⟨_, hcl, hat⟩ := World.cells?_some hc
  match cs, hcl, ys, hyl with
  | [u, u0, u1, u2, u3, u4], _, [y0, y1], _ =>
    have f0 : DataW.trod enc Try.prog W base sp held n' 3 (([u, u0, u1, u2, u3, u4].drop 0).take (Try.prog.cellsOf 3)) = some y0 := hf 0 _ rfl
    have f1 : DataW.trod enc Try.prog W base sp held n' 35 (([u, u0, u1, u2, u3, u4].drop 1).take (Try.prog.cellsOf 35)) = some y1 := hf 1 _ rfl
    rw [cells3] at f0
    rw [cellsEn] at f1
    obtain ⟨o, rfl, _⟩ := read_int (v := u) (y := y0) f0
    obtain ⟨e, hE, rfl, rfl, rfl, rfl, rfl⟩ := read_en (u0 := u0) (u1 := u1) (u2 := u2) (u3 := u3) (u4 := u4) f1
    refine ⟨⟨o, e⟩, ⟨?_, ?_, ?_, ?_, ?_, ?_⟩, hE⟩
    · exact hat 0 (by omega)
    · rw [← add_add]; exact hat 1 (by omega)
    · rw [← add_add]; exact hat 2 (by omega)
    · rw [← add_add]; exact hat 3 (by omega)
    · rw [← add_add]; exact hat 4 (by omega)
    · rw [← add_add]; exact hat 5 (by omega)

/-- A script that came in. -/
theorem open_ops {r : Reach} {b0 : Nat} {v : Value} {d : DataW H} {p : List MemPlace} (hv : Value.okWide Try.prog W r b0 22 v) (hd : DataW.Trod enc Try.prog W base sp held 22 v d p) :
    ∃ (a : Option Addr) (xs : List OpE) (lc : Nat), v = .slice a xs.length lc ∧ OpsW W a xs := by
  obtain ⟨a1, len1, cap1, rfl⟩ := okWide_slice Try.underlying22 hv
  obtain ⟨fuel, h⟩ := hd
  rcases open_slice Try.underlying22 h with ⟨e, hd0⟩ | ⟨a, len, cap, m, n, D, Pl, e, hd0, hl, hdd, hm, hh, hi⟩
  · simp [Value.cells] at e
    obtain ⟨rfl, rfl, rfl⟩ := e
    exact ⟨none, [], 0, rfl, .inl rfl, fun x hx => by simp at hx⟩
  · simp [Value.cells] at e
    obtain ⟨rfl, rfl, rfl⟩ := e
    have hlen : len1 ≤ m := by rw [hm]; split <;> omega
    rw [cellsOp] at hi
    have hx : ∀ i, i < len1 → ∃ x, OpAt W a i x := fun i hil => by
      obtain ⟨cs', hc, ht⟩ := hi i (by omega)
      exact read_op hc ht
    let f : Nat → OpE := fun i => if h : i < len1 then Classical.choose (hx i h) else ⟨0, ⟨0, 0, ⟨#[]⟩, none, [], 0, 0⟩⟩
    have hf : ∀ i, i < len1 → OpAt W a i (f i) := fun i hil => by
      have : f i = Classical.choose (hx i hil) := dif_pos hil
      rw [this]
      exact Classical.choose_spec (hx i hil)
    have hlf : ((List.range len1).map f).length = len1 := by simp
    have hget : ∀ j (hj : j < ((List.range len1).map f).length), ((List.range len1).map f)[j]'hj = f j := fun j hj => by simp
    refine ⟨some a, (List.range len1).map f, cap1, by rw [hlf], ?_, ?_⟩
    · cases len1 with
      | zero => exact .inl rfl
      | succ len =>
        obtain ⟨b, off, spot⟩ := a
        have h0 := (hf 0 (by omega)).1.1
        have hspot : spot = none := by simpa [Addr.add] using World.cell?_spot h0
        subst hspot
        refine .inr ⟨b, off, rfl, ?_, fun j hj => ?_⟩
        · rw [add_plain] at h0
          unfold World.cell? at h0
          split at h0
          · rename_i hh
            exact (Array.getElem?_eq_some_iff.1 hh).1
          · cases h0
        · obtain ⟨⟨e0, e1, e2, e3, e4, e5⟩, _⟩ := hf j (by rw [hlf] at hj; exact hj)
          rw [add_plain] at e0 e1 e2 e3 e4 e5
          rw [hget j hj]
          exact ⟨e0, e1, e2, e3, e4, e5⟩
    · intro x hx
      obtain ⟨i, hi, rfl⟩ := List.mem_map.1 hx
      exact (hf i (List.mem_range.1 hi)).2
end
end Go.Proofs.Ytnnmigglcpkomaa.Dm

/- A list of entries that came in. -/
set_option maxRecDepth 100000
namespace Go.Proofs.Ytnnmigglcpkomaa.Dm
open Go Go.ChangeShapes Go.WideShapes Go.ChangeAt Go.RowKit Go.Deep Go.Joins

/-- Entries in a row, whatever they are. -/
structure EnsR (w : World) (a : Option Addr) (es : List En) : Prop where
  lies : es = [] ∨ ∃ b off, a = some ⟨b, off, none⟩ ∧ b < w.heap.size ∧ Cells5 w b off es
  all : ∀ e, e ∈ es → e.In w

section
variable {H : Type} {enc : TypeId × Value → H} {W : World} {base : Nat} {sp : Nat → Bool} {held : Bool}

/-- The five cells of an entry of a row. -/
def EnAt (W : World) (a : Addr) (i : Nat) (x : En) : Prop :=
  (W.cell? (a.add (i * 5)) = some (.int .i64 x.k) ∧ W.cell? (a.add (i * 5 + 1)) = some (.int .i64 x.n) ∧ W.cell? (a.add (i * 5 + 2)) = some (.string x.s) ∧ W.cell? (a.add (i * 5 + 3)) = some (.slice x.a x.xs.length x.lc) ∧ W.cell? (a.add (i * 5 + 4)) = some (.int .i64 x.t)) ∧ x.In W
theorem read_enAt {a : Addr} {i n : Nat} {cs : List Value} {y : DataW H × List MemPlace} (hc : W.cells? base (a.add (i * 5)) 5 = some cs) (h : DataW.trod enc Try.prog W base sp held n 35 cs = some y) : ∃ x, EnAt W a i x := by
  obtain ⟨_, hcl, hat⟩ := World.cells?_some hc
  match cs, hcl with
  | [u0, u1, u2, u3, u4], _ =>
    obtain ⟨e, hE, rfl, rfl, rfl, rfl, rfl⟩ := read_en (u0 := u0) (u1 := u1) (u2 := u2) (u3 := u3) (u4 := u4) h
    refine ⟨e, ⟨?_, ?_, ?_, ?_, ?_⟩, hE⟩
    · exact hat 0 (by omega)
    · rw [← add_add]; exact hat 1 (by omega)
    · rw [← add_add]; exact hat 2 (by omega)
    · rw [← add_add]; exact hat 3 (by omega)
    · rw [← add_add]; exact hat 4 (by omega)

/-- Entries that came in. -/
theorem open_ens {r : Reach} {b0 : Nat} {v : Value} {d : DataW H} {p : List MemPlace} (hv : Value.okWide Try.prog W r b0 25 v) (hd : DataW.Trod enc Try.prog W base sp held 25 v d p) :
    ∃ (a : Option Addr) (xs : List En) (lc : Nat), v = .slice a xs.length lc ∧ EnsR W a xs := by
  obtain ⟨a1, len1, cap1, rfl⟩ := okWide_slice Try.underlying25 hv
  obtain ⟨fuel, h⟩ := hd
  rcases open_slice Try.underlying25 h with ⟨e, hd0⟩ | ⟨a, len, cap, m, n, D, Pl, e, hd0, hl, hdd, hm, hh, hi⟩
  · simp [Value.cells] at e
    obtain ⟨rfl, rfl, rfl⟩ := e
    exact ⟨none, [], 0, rfl, .inl rfl, fun x hx => by simp at hx⟩
  · simp [Value.cells] at e
    obtain ⟨rfl, rfl, rfl⟩ := e
    have hlen : len1 ≤ m := by rw [hm]; split <;> omega
    rw [cellsEn] at hi
    have hx : ∀ i, i < len1 → ∃ x, EnAt W a i x := fun i hil => by
      obtain ⟨cs', hc, ht⟩ := hi i (by omega)
      exact read_enAt hc ht
    let f : Nat → En := fun i => if h : i < len1 then Classical.choose (hx i h) else ⟨0, 0, ⟨#[]⟩, none, [], 0, 0⟩
    have hf : ∀ i, i < len1 → EnAt W a i (f i) := fun i hil => by
      have : f i = Classical.choose (hx i hil) := dif_pos hil
      rw [this]
      exact Classical.choose_spec (hx i hil)
    have hlf : ((List.range len1).map f).length = len1 := by simp
    have hget : ∀ j (hj : j < ((List.range len1).map f).length), ((List.range len1).map f)[j]'hj = f j := fun j hj => by simp
    refine ⟨some a, (List.range len1).map f, cap1, by rw [hlf], ?_, ?_⟩
    · cases len1 with
      | zero => exact .inl rfl
      | succ len =>
        obtain ⟨b, off, spot⟩ := a
        have h0 := (hf 0 (by omega)).1.1
        have hspot : spot = none := by simpa [Addr.add] using World.cell?_spot h0
        subst hspot
        refine .inr ⟨b, off, rfl, ?_, fun j hj => ?_⟩
        · rw [add_plain] at h0
          unfold World.cell? at h0
          split at h0
          · rename_i hh
            exact (Array.getElem?_eq_some_iff.1 hh).1
          · cases h0
        · obtain ⟨⟨e0, e1, e2, e3, e4⟩, _⟩ := hf j (by rw [hlf] at hj; exact hj)
          rw [add_plain] at e0 e1 e2 e3 e4
          rw [hget j hj]
          exact ⟨e0, e1, e2, e3, e4⟩
    · intro x hx
      obtain ⟨i, hi, rfl⟩ := List.mem_map.1 hx
      exact (hf i (List.mem_range.1 hi)).2
end
end Go.Proofs.Ytnnmigglcpkomaa.Dm

/- The walk of MethodTurns. -/
set_option maxRecDepth 100000
namespace Go.Proofs.Ytnnmigglcpkomaa.Dm
open Go Go.RowKit

theorem tmod_inN (x : Int) {n : Nat} (h : 0 < n) : x.tmod (n : Int) < n ∧ -(n : Int) < x.tmod (n : Int) := by
  have h : (x.tmod (n : Int)).natAbs < n := by
    rw [Int.natAbs_tmod]
    exact Nat.mod_lt _ h
  omega

set_option maxHeartbeats 400000 in
theorem law_all (w : World) : Calls Try.prog 11 #[] w fun r w' => r = .returned (.slice (some ⟨w.heap.size, 0, none⟩) 3 3) ∧ w' = w.alloc (.cells #[.int .i64 1, .int .i64 2, .int .i64 3] 3) := by
  go_enter Try.func11, Try.ntmps11
  go_wp2
  go_ret
  exact ⟨rfl, rfl⟩
theorem refused_all (e : En) (w : World) (he : e.In w) : Calls Try.prog 25 #[.slice (some ⟨w.heap.size, 0, none⟩) 3 3, e.v] (w.alloc (.cells #[.int .i64 1, .int .i64 2, .int .i64 3] 3)) fun r w' => r = .returned (.int .i64 (refusedE [1, 2, 3] e.c)) ∧ Below w.heap.size w w' := by
  have hb := (Below.refl w.heap.size w).alloc (Nat.le_refl _) (.cells #[.int .i64 1, .int .i64 2, .int .i64 3] 3)
  refine (refused9_any (some ⟨w.heap.size, 0, none⟩) [1, 2, 3] 3 e _ (he.below hb) (.inr ⟨w.heap.size, 0, rfl, by simp, fun j hj => ?_⟩) (by decide)).mono ?_
  · have hj3 : j < 3 := hj
    rcases (by omega : j = 0 ∨ j = 1 ∨ j = 2) with rfl | rfl | rfl <;> simp
  · rintro r w' ⟨rfl, h⟩
    exact ⟨rfl, hb.trans (h.mono hb.size)⟩

/-- An entry's cells. -/
def C5 (b o : Nat) (x : En) (W : World) : Prop := W.cell? ⟨b, o, none⟩ = some (.int .i64 x.k) ∧ W.cell? ⟨b, o + 1, none⟩ = some (.int .i64 x.n) ∧ W.cell? ⟨b, o + 2, none⟩ = some (.string x.s) ∧ W.cell? ⟨b, o + 3, none⟩ = some (.slice x.a x.xs.length x.lc) ∧ W.cell? ⟨b, o + 4, none⟩ = some (.int .i64 x.t)

set_option maxHeartbeats 12800000 in
theorem methodTurns_walk (a : Option Addr) (es : List En) (c : Nat) (by_ : Int) (w : World) (h : EnsR w a es) :
    Calls Try.prog 8 #[.slice a es.length c, .int .i64 by_] w fun e w' => e = .returned (.bool true) ∧ Below w.heap.size w w' := by
  have HAW := Lib.hid awake_any
  obtain ⟨n, hn⟩ : ∃ n, n = es.length := ⟨_, rfl⟩
  rw [← hn]
  by_cases h0 : n = 0
  · subst h0
    clear h hn
    go_enter Try.func8, Try.ntmps8
    go_wp2_with fail
    refine (HAW.out w).mono ?_
    rintro e w1 ⟨rfl, hb⟩
    go_wp2
    go_ret
    exact ⟨rfl, hb⟩
  by_cases h2 : 200 < n
  · have f1 : ¬ (n : Int) = 0 := by omega
    have f2 : (200 : Int) < n := by omega
    clear h hn
    go_enter Try.func8, Try.ntmps8
    go_wp2_with fail
    refine (HAW.out w).mono ?_
    rintro e w1 ⟨rfl, hb⟩
    go_wp2
    go_ret
    exact ⟨rfl, hb⟩
  obtain ⟨b, off, rfl, hbw, hcs⟩ : ∃ b off, a = some ⟨b, off, none⟩ ∧ b < w.heap.size ∧ Cells5 w b off es := by
    rcases h.lies with h1 | h1
    · rw [h1] at hn; exact absurd hn h0
    · exact h1
  have HC5 : Hid (∀ W, Below w.heap.size w W → ∀ j (hj : j < es.length), C5 b (off + j * 5) (es[j]'hj) W ∧ (es[j]'hj).In W) := Lib.hid (fun W hW j hj => by
    obtain ⟨c0, c1, c2, c3, c4⟩ := hcs j hj
    have hc : ∀ o, W.cell? ⟨b, o, none⟩ = w.cell? ⟨b, o, none⟩ := fun o => hW.cell (p := ⟨b, o, none⟩) hbw
    exact ⟨⟨(hc _).trans c0, (hc _).trans c1, (hc _).trans c2, (hc _).trans c3, (hc _).trans c4⟩, (h.all _ (List.getElem_mem _)).below hW⟩)
  obtain ⟨cs, hcs'⟩ : ∃ cs, cs = consE es := ⟨_, rfl⟩
  have HNUM : Hid (∀ c, c ∈ cs → c.1.nums) := Lib.hid (fun c hc => by
    rw [hcs'] at hc
    obtain ⟨e, he, rfl⟩ := List.mem_map.1 hc
    exact In_nums (h.all e he))
  have hcl : cs.length = n := by rw [hcs', hn]; exact List.length_map _
  have HCL := Lib.hid hcl
  have HCS : Hid (∀ j (hj : j < es.length) (hj' : j < cs.length), cs[j]'hj' = (es[j]'hj).c) := Lib.hid (fun j hj hj' => by
    subst hcs'
    exact List.getElem_map _)
  have HN := Lib.hid hn
  have b1 : (1 : Int) ≤ n := by omega
  have b2 : (n : Int) ≤ 200 := by omega
  have f1 : ¬ (n : Int) = 0 := by omega
  have f2 : ¬ (200 : Int) < n := by omega
  have hX := tmod_inN by_ (show 0 < n by omega)
  obtain ⟨X, hXe⟩ : ∃ X, by_.tmod (n : Int) = X := ⟨_, rfl⟩
  rw [hXe] at hX
  clear h hcs hcs' hcl hn h0 h2
  go_enter Try.func8, Try.ntmps8
  go_upto_if 25 with fail
  go_cut [6] (fun x wx => (∃ m : Nat, m < n ∧ x = .int .i64 m) ∧ w = wx)
  case first =>
    go_wp2_with fail
    all_goals go_meet
    all_goals first
      | exact ⟨⟨X.toNat, by omega, by congr 1; omega⟩, rfl⟩
      | exact ⟨⟨(-X).toNat, by omega, by congr 1; omega⟩, rfl⟩
  case rest =>
    obtain ⟨⟨k, hk, rfl⟩, rfl⟩ := hcut
    clear hX hXe
    go_wp2_with fail
    refine (newPlain_any _).mono ?_
    rintro r w1 ⟨rfl, hp1, hb1⟩
    have HP1 := Lib.hid hp1
    have HB1 := Lib.hid hb1
    clear hp1 hb1
    go_wp2_with fail
    refine (newPlain_any _).mono ?_
    rintro r w2 ⟨rfl, hp2, hb2⟩
    have HTW := Lib.hid (Tw.new HP1.out HB1.out hp2 hb2)
    clear HP1 HB1 hp2 hb2
    obtain ⟨p, hp⟩ : ∃ p, p = w.heap.size := ⟨_, rfl⟩
    obtain ⟨q, hq⟩ : ∃ q, q = w1.heap.size := ⟨_, rfl⟩
    rw [← hp, ← hq] at HTW
    rw [← hp, ← hq]
    clear hp hq
    go_wp2
    go_loopw [9] (fun i wr => ∃ j : Nat, j ≤ n ∧ i = .int .i64 j ∧ Hid (Tw p q w (putsE [1, 2, 3] (cs.take j)) (putsE [1, 2, 3] (turned cs k j)) wr)) (fun i _ => n - (intOf i).toNat)
    case atStart => exact ⟨0, Nat.zero_le _, rfl, HTW⟩
    case round =>
      obtain ⟨j, hj, rfl, HT⟩ := hrel
      clear HTW
      by_cases hjn : j < n
      · have hje : j < es.length := by rw [← HN.out]; exact hjn
        have hjc : j < cs.length := by rw [HCL.out]; exact hjn
        have hWB : Below w.heap.size w wr := by
          obtain ⟨_, _, _, _, _, _, _, h⟩ := HT.out
          exact h
        obtain ⟨hc5, hin⟩ := HC5.out wr hWB j hje
        have hcx := HCS.out j hje hjc
        obtain ⟨t, ht⟩ : ∃ t, t = turn n k j := ⟨_, rfl⟩
        have htl : t < n := by rw [ht]; exact turn_lt (by omega)
        have hte : t < es.length := by rw [← HN.out]; exact htl
        have htc : t < cs.length := by rw [HCL.out]; exact htl
        have hmod := turn_mod (k := k) hjn
        rw [← ht] at hmod
        have hcy := HCS.out t hte htc
        have hA : putsE [1, 2, 3] (cs.take (j + 1)) = insL [1, 2, 3] (putsE [1, 2, 3] (cs.take j)) (es[j]'hje).c := by rw [List.take_succ_eq_append_getElem hjc, puts_snoc, hcx]
        have hB : putsE [1, 2, 3] (turned cs k (j + 1)) = insL [1, 2, 3] (putsE [1, 2, 3] (turned cs k j)) (es[t]'hte).c := by
          have e : turn cs.length k j = t := by rw [HCL.out, ht]
          rw [turned_succ cs k j (by rw [e]; exact htc), puts_snoc, ← hcy]
          simp only [e]
        have hl1 : (putsE [1, 2, 3] (cs.take j)).length < 512 := Nat.lt_of_le_of_lt (puts_length _ _) (by rw [List.length_take]; omega)
        have hl2 : (putsE [1, 2, 3] (turned cs k j)).length < 512 := Nat.lt_of_le_of_lt (puts_length _ _) (Nat.lt_of_le_of_lt (turned_length _ _ _) (by omega))
        have HI1 := HT.out.ins hin hl1
        rw [← hA] at HI1
        have HI2 : Hid (∀ W, Tw p q w (putsE [1, 2, 3] (cs.take (j + 1))) (putsE [1, 2, 3] (turned cs k j)) W → C5 b (off + t * 5) (es[t]'hte) W ∧ Calls Try.prog 24 #[.pointer (some ⟨q, 0, none⟩), (es[t]'hte).v] W fun r w' => ∃ r2, r = .returned (.int .i64 r2) ∧ Hid (Tw p q w (putsE [1, 2, 3] (cs.take (j + 1))) (putsE [1, 2, 3] (turned cs k (j + 1))) w')) := Lib.hid (fun W hT => by
          have hWW : Below w.heap.size w W := by
            obtain ⟨_, _, _, _, _, _, _, h⟩ := hT
            exact h
          obtain ⟨h1, h2⟩ := HC5.out W hWW t hte
          refine ⟨h1, (hT.ins2 h2 hl2).mono ?_⟩
          rintro r w' ⟨rfl, h3⟩
          rw [← hB] at h3
          exact ⟨_, rfl, Lib.hid h3⟩)
        obtain ⟨rr, hrr⟩ : ∃ rr, rr = refusedE [1, 2, 3] (es[j]'hje).c := ⟨_, rfl⟩
        obtain ⟨r1, hr1⟩ : ∃ r1, r1 = insR [1, 2, 3] (putsE [1, 2, 3] (cs.take j)) (es[j]'hje).c := ⟨_, rfl⟩
        have HRR : Hid ((rr = 0 ∧ (r1 = 0 ∨ r1 = 160)) ∨ (¬ rr = 0 ∧ r1 = rr)) := Lib.hid (by
          unfold insR at hr1
          rw [← hrr] at hr1
          by_cases h : rr = 0
          · rw [if_pos h] at hr1
            split at hr1
            · exact .inl ⟨h, .inr hr1⟩
            · exact .inl ⟨h, .inl hr1⟩
          · rw [if_neg h] at hr1
            exact .inr ⟨h, hr1⟩)
        rw [← hr1] at HI1
        have HRF : Hid (∀ W, Below w.heap.size w W → C5 b (off + j * 5) (es[j]'hje) W ∧ Calls Try.prog 25 #[.slice (some ⟨W.heap.size, 0, none⟩) 3 3, (es[j]'hje).v] (W.alloc (.cells #[.int .i64 1, .int .i64 2, .int .i64 3] 3)) fun r w' => r = .returned (.int .i64 rr) ∧ Below W.heap.size W w') := Lib.hid (fun W hW => by
          obtain ⟨h1, h2⟩ := HC5.out W hW j hje
          rw [hrr]
          exact ⟨h1, refused_all _ W h2⟩)
        obtain ⟨x, hx⟩ : ∃ x, x = es[j]'hje := ⟨_, rfl⟩
        obtain ⟨y, hy⟩ : ∃ y, y = es[t]'hte := ⟨_, rfl⟩
        rw [← hx] at hc5 HI1 HRF
        rw [← hy] at HI2
        unfold En.v at HI1 HI2 HRF
        have HI1 := Lib.hid HI1
        have hbW : b < wr.heap.size := Nat.lt_of_lt_of_le hbw hWB.size
        clear hWB hin hcx hcy hA hB hl1 hl2 hrr hr1 hx hy hje hjc hte htc ht HT
        obtain ⟨c0, c1, c2, c3, c4⟩ := hc5
        have f3 : (j : Int) < (n : Int) := by omega
        have f4 : (t : Int) < (n : Int) := by omega
        go_wp2_with fail
        refine HI1.out.mono ?_
        rintro r w3 ⟨rfl, ht3⟩
        obtain ⟨hd5, hi2⟩ := HI2.out w3 ht3
        have HI3 := Lib.hid hi2
        clear c0 c1 c2 c3 c4 HI1 HI2 hi2 ht3
        obtain ⟨c0, c1, c2, c3, c4⟩ := hd5
        go_wp2_with fail
        refine HI3.out.mono ?_
        rintro r w4 ⟨r2, rfl, HT4⟩
        clear c0 c1 c2 c3 c4 HI3
        have hb4 : Below w.heap.size w w4 := by
          obtain ⟨_, _, _, _, _, _, _, h⟩ := HT4.out
          exact h
        have HB4 := Lib.hid hb4
        have HCC : Hid (∀ W, Below w.heap.size w W → C5 b (off + j * 5) x W) := Lib.hid (fun W hW => (HRF.out W hW).1)
        have HS4 : Hid (C5 b (off + j * 5) x w4.drew) := Lib.hid (HCC.out _ (hb4.trans ((Below.refl _ _).drew.mono hb4.size)))
        have HR4 := Lib.hid (HRF.out w4.drew (hb4.trans ((Below.refl _ _).drew.mono hb4.size))).2
        clear hb4 HRF
        go_wp2_with fail
        refine wp_region_held_drew (S := fun W => C5 b (off + j * 5) x W) (by kernel_rfl) HS4.out (fun hHeld => ?_)
        refine wpAnyH_take (i := 1) (v := .slice (some ⟨b, off, none⟩) n c) rfl (by kernel_rfl) (by kernel_rfl) (by kernel_rfl) (fun _ _ _ h => h) (Or.inl ⟨by first | rfl | (unfold Region.wanted yielded; go_simp), fun W hW => by clear hW; go_simp⟩) HS4.out ?_
        refine wpAnyH_take (i := 2) (v := .int .i64 (j : Int)) rfl (by kernel_rfl) (by kernel_rfl) (by kernel_rfl) (fun _ _ _ h => h) (Or.inl ⟨by first | rfl | (unfold Region.wanted yielded; go_simp), fun W hW => by clear hW; go_simp⟩) HS4.out ?_
        refine wpAnyH_take (i := 3) (v := .pointer (some ⟨b, off + j * 5, none⟩)) rfl (by kernel_rfl) (by kernel_rfl) (by kernel_rfl) (fun _ _ _ h => h) (Or.inl ⟨by first | rfl | (unfold Region.wanted yielded; go_simp), fun W hW => by clear hW; go_simp⟩) HS4.out ?_
        refine wpAnyH_take (i := 4) (v := .agg #[.int .i64 x.k, .int .i64 x.n, .string x.s, .slice x.a x.xs.length x.lc, .int .i64 x.t]) rfl (by kernel_rfl) (by kernel_rfl) (by kernel_rfl) (fun _ _ _ h => h) (Or.inl ⟨by first | rfl | (unfold Region.wanted yielded; go_simp), fun W hW => by obtain ⟨q0, q1, q2, q3, q4⟩ := hW; go_simp⟩) HS4.out ?_
        refine wpAnyH_ready (rs := [0]) (by kernel_rfl) (by simp) ?_
        refine AllReadyH.cons rfl (fun K hK => ?_) AllReadyH.nil
        go_simp
        go_at_call 11
        refine (law_all _).mono ?_
        rintro r w5 ⟨rfl, hw5⟩
        have HS5 : Hid (C5 b (off + j * 5) x w5) := Lib.hid (HCC.out _ (by rw [hw5]; exact (HB4.out.trans ((Below.refl _ _).drew.mono HB4.out.size)).alloc HB4.out.size _))
        refine hK.out _ _ HS5.out (fun _ => ?_)
        clear hK K
        refine wpAnyH_ready (rs := [5]) (by kernel_rfl) (by simp) ?_
        refine AllReadyH.cons rfl (fun K hK => ?_) AllReadyH.nil
        go_simp
        go_at_call 25
        refine HR4.out.mono ?_
        rintro r w6 ⟨rfl, hb6⟩
        have HB6 : Hid (Below w4.heap.size w4 w6) := Lib.hid ((Below.refl _ _).drew.trans hb6)
        have HS6 : Hid (C5 b (off + j * 5) x w6) := Lib.hid (HCC.out _ (HB4.out.trans (HB6.out.mono HB4.out.size)))
        refine hK.out _ _ HS6.out (fun _ => ?_)
        clear hK K hb6 hw5
        refine wpAnyH_take (i := 6) (v := .int .i64 rr) rfl (by kernel_rfl) (by kernel_rfl) (by kernel_rfl) (fun _ _ _ h => h) (Or.inl ⟨by first | rfl | (unfold Region.wanted yielded; go_simp), fun W hW => by clear hW; go_simp⟩) HS6.out ?_
        refine wpAnyH_done (by kernel_rfl) ?_ _
        have HT6 : Hid (Tw p q w (putsE [1, 2, 3] (cs.take (j + 1))) (putsE [1, 2, 3] (turned cs k (j + 1))) w6) := Lib.hid (HT4.out.below HB6.out)
        clear hHeld HS4 HS5 HS6 HCC HR4 HB4 HB6 HT4 HC5 HCS HNUM hmod
        go_simp
        rcases HRR.out with ⟨rfl, rfl | rfl⟩ | ⟨hne, rfl⟩
        · go_wp2_with fail
          exact ⟨⟨j + 1, by omega, by go_num, HT6⟩, by simp [intOf]; omega⟩
        · go_wp2_with fail
          exact ⟨⟨j + 1, by omega, by go_num, HT6⟩, by simp [intOf]; omega⟩
        · have hnb : (r1 == 0) = false := by rw [beq_eq_false_iff_ne]; exact hne
          go_wp2_with fail
          exact ⟨⟨j + 1, by omega, by go_num, HT6⟩, by simp [intOf]; omega⟩
      · have hjn2 : j = n := by omega
        have f3 : ¬ (j : Int) < (n : Int) := by omega
        have hT2 := HT.out
        rw [hjn2, ← HCL.out, List.take_length, turned_one (by rw [HCL.out]; exact hk) HNUM.out] at hT2
        have hgood := (puts_goods (kinds := [1, 2, 3]) HNUM.out).1
        have hlen : (putsE [1, 2, 3] cs).length ≤ 200 := Nat.le_trans (puts_length _ _) (by rw [HCL.out]; omega)
        obtain ⟨G, hG⟩ : ∃ G, G = putsE [1, 2, 3] cs := ⟨_, rfl⟩
        rw [← hG] at hT2 hgood hlen
        have HE1 := Lib.hid (hT2.entries (by omega))
        have HG := Lib.hid hgood
        have HLEN := Lib.hid hlen
        clear hT2 hgood hlen hG HT hjn2
        go_wp2_with fail
        refine HE1.out.mono ?_
        rintro r w3 ⟨v1, es1, rfl, hs1, hc1, hb1, ht1⟩
        obtain ⟨a1, cc1, rfl⟩ := hs1.row.shape
        have HE2 := Lib.hid (ht1.swap.entries (by have := HLEN.out; omega))
        have HW1 : Hid (EnsW w3 a1 es1) := Lib.hid (hs1.ens (by rw [hc1]; exact HG.out))
        have HC1 := Lib.hid hc1
        clear hs1 hb1 ht1 HE1 hc1
        go_wp2_with fail
        refine HE2.out.mono ?_
        rintro r w4 ⟨v2, es2, rfl, hs2, hc2, hb2, ht2⟩
        obtain ⟨a2, cc2, rfl⟩ := hs2.row.shape
        have hsa := sameAll_any a1 es1 cc1 a2 es2 cc2 w4 (HW1.out.below hb2) (hs2.ens (by rw [hc2]; exact HG.out)) (by
          have h7 := congrArg List.length HC1.out
          have := HLEN.out
          unfold consE at h7
          rw [List.length_map] at h7
          omega)
        rw [decide_eq_true (HC1.out.trans hc2.symm)] at hsa
        have HSA := Lib.hid hsa
        have HB4 : Hid (Below w.heap.size w w4) := Lib.hid (by
          obtain ⟨_, _, _, _, _, _, _, h⟩ := ht2
          exact h)
        clear hsa hs2 hc2 hb2 ht2 HE2
        go_wp2_with fail
        refine HSA.out.mono ?_
        rintro r w5 ⟨rfl, hb5⟩
        have HB5 := Lib.hid (HB4.out.trans (hb5.mono HB4.out.size))
        clear hb5 HSA
        go_wp2_with fail
        refine (HAW.out w5).mono ?_
        rintro e w6 ⟨rfl, hb6⟩
        have HE := Lib.hid (HB5.out.trans (hb6.mono HB5.out.size))
        clear hb6
        go_wp2
        go_ret
        exact ⟨rfl, HE.out⟩
end Go.Proofs.Ytnnmigglcpkomaa.Dm

/- How long a script may be that came in; two data that came in. -/
set_option maxRecDepth 100000
namespace Go.Proofs.Ytnnmigglcpkomaa.Dm
open Go Go.ChangeShapes Go.WideShapes Go.ChangeAt Go.RowKit Go.Deep Go.Joins

/-- What the weights of all arguments say of one. -/
theorem weights_one {H : Type} {P : Program} {ts : List TypeId} {ds : List (DataW H)} (h : (DataW.weightsEach P ts ds).all (· ≤ reachBytes) = true) {j : Nat} {t : TypeId} {d : DataW H} (ht : ts[j]? = some t) (hd : ds[j]? = some d) : ∀ n ∈ DataW.weights P t d, n ≤ reachBytes :=
  fun n hn => of_decide_eq_true (List.all_eq_true.1 h _ (DataW.weights_mem_each ht hd n hn))

theorem ops_length {H : Type} {enc : TypeId × Value → H} {W : World} {base : Nat} {sp : Nat → Bool} {held : Bool} {a : Option Addr} {n c : Nat} {d : DataW H} {p : List MemPlace}
    (hd : DataW.Trod enc Try.prog W base sp held 22 (.slice a n c) d p) (hw : ∀ n ∈ DataW.weights Try.prog 22 d, n ≤ reachBytes) : n ≤ 2199023255540 := by
  obtain ⟨fuel, h⟩ := hd
  rcases DataW.trod_slice Try.underlying22 h with ⟨e, _⟩ | ⟨a, len, cap, elems, rest, n, _, e, ed, hb, hl, hm, hlen, hel, hsp, hns⟩
  · simp [Value.cells] at e
    obtain ⟨_, rfl, _⟩ := e
    omega
  · simp [Value.cells] at e
    obtain ⟨_, rfl, _⟩ := e
    injection ed with ed _
    simp only [] at ed
    rw [ed] at hw
    have := hw _ (by
      simp only [DataW.weights, Try.underlying22]
      exact List.mem_cons_self ..)
    rw [bytesOp] at this
    unfold reachBytes at this
    simp only [List.length_map] at this
    omega
end Go.Proofs.Ytnnmigglcpkomaa.Dm

/- The walk of MethodPlays. -/
set_option maxRecDepth 100000
namespace Go.Proofs.Ytnnmigglcpkomaa.Dm
open Go Go.RowKit

/-- A row of n entries in block g, whatever they are. -/
def RowG (g n : Nat) (W : World) : Prop := ∃ cur : Array Value, W.heap[g]? = some (.cells cur 35 (0, 0)) ∧ n * 5 ≤ cur.size
theorem RowG.cell {g n o : Nat} {W : World} (h : RowG g n W) (ho : o < n * 5) : (∃ u, W.cell? ⟨g, o, none⟩ = some u) ∧ W.frozen? ⟨g, o, none⟩ = false := by
  obtain ⟨cur, hg, hs⟩ := h
  have hlt : o < cur.size := by omega
  exact ⟨⟨cur[o], by rw [Lib.cell_of_heap hg, Array.getElem?_eq_getElem hlt]⟩, Lib.frozen_of_heap hg o⟩
theorem RowG.set {g n : Nat} {W : World} (h : RowG g n W) (o : Nat) (x : Value) : RowG g n (W.setCell ⟨g, o, none⟩ x) := by
  obtain ⟨cur, hg, hs⟩ := h
  refine ⟨cur.setIfInBounds o x, ?_, by simpa using hs⟩
  rw [setCell_eq_setRow W g o cur 35 (0, 0) x hg]
  exact setRow_heap W g cur _ 35 _ hg
theorem EnSt.rowG {N : Nat} {w : World} {v : Value} {es : List En} (h : EnSt N w v es) : (v = .slice none 0 0 ∧ es = []) ∨ ∃ g c, v = .slice (some ⟨g, 0, none⟩) es.length c ∧ N ≤ g ∧ RowG g es.length w := by
  rcases h.row.2 with ⟨h1, h2⟩ | ⟨g, cap, cur, h1, h2, hg, hnc, _, hcs, ht⟩
  · exact .inl ⟨h1, List.eq_nil_of_length_eq_zero h2⟩
  · exact .inr ⟨g, cap, h1, h2, cur, hg, by omega⟩

theorem OpsW.below {w w' : World} {a : Option Addr} {ops : List OpE} (h : OpsW w a ops) (hb : Below w.heap.size w w') : OpsW w' a ops := by
  refine ⟨?_, fun x hx => (h.all x hx).below hb⟩
  rcases h.lies with h1 | ⟨b, off, ha, hlt, hc⟩
  · exact .inl h1
  · refine .inr ⟨b, off, ha, Nat.lt_of_lt_of_le hlt hb.size, fun j hj => ?_⟩
    obtain ⟨h0, h1, h2, h3, h4, h5⟩ := hc j hj
    exact ⟨(hb.cell (p := ⟨b, _, none⟩) hlt).trans h0, (hb.cell (p := ⟨b, _, none⟩) hlt).trans h1, (hb.cell (p := ⟨b, _, none⟩) hlt).trans h2, (hb.cell (p := ⟨b, _, none⟩) hlt).trans h3, (hb.cell (p := ⟨b, _, none⟩) hlt).trans h4, (hb.cell (p := ⟨b, _, none⟩) hlt).trans h5⟩

/-- The law's own Plays: NewPlain, then the kinds, then the script. -/
theorem plays_law {w w1 : World} {sa : Option Addr} {sc : Nat} {ops : List OpE} (h : OpsW w sa ops) (hbig : ops.length ≤ 2199023255540) (hp : PlSt w.heap.size (fun k => k = w.heap.size) w1 []) (hb : Below w.heap.size w w1) :
    Calls Try.prog 10 #[.iface 23 (.pointer (some ⟨w.heap.size, 0, none⟩)), .slice (some ⟨w1.heap.size, 0, none⟩) 3 3, .slice sa ops.length sc] (w1.alloc (.cells #[.int .i64 1, .int .i64 2, .int .i64 3] 3)) fun r w' => ∃ S' a' c' es', r = .returned (.tuple #[.slice a' (es' : List En).length c', .bool true]) ∧ es'.length ≤ 2199023255540 ∧ Rob S' w' (fun w => EnsW w a' es') ∧ PlSt w.heap.size S' w' (consE es') ∧ Below w.heap.size w w' ∧ (∀ k, S' k → w.heap.size ≤ k) := by
  have hPw := hp.bound w.heap.size rfl
  have hb2 : Below w.heap.size w (w1.alloc (.cells #[.int .i64 1, .int .i64 2, .int .i64 3] 3)) := hb.alloc hb.size _
  have hst : PlSt w.heap.size (fun k => k = w.heap.size) (w1.alloc (.cells #[.int .i64 1, .int .i64 2, .int .i64 3] 3)) [] := hp.below ((Below.refl _ _).alloc (Nat.le_refl _) _)
  refine (plays_any (plain_meth w.heap.size) (fun h => plI_up h) (fun k => k = w.heap.size) _ (some ⟨w1.heap.size, 0, none⟩) 3 sa sc ops ⟨hst, Nat.zero_le _⟩ hbig ?_ (by decide) ?_ hbig).mono ?_
  · intro w' hk
    have hbk : w'.heap[w1.heap.size]? = (w1.alloc (.cells #[.int .i64 1, .int .i64 2, .int .i64 3] 3)).heap[w1.heap.size]? := hk.block _ (by simp) (by omega)
    refine .inr ⟨w1.heap.size, 0, rfl, by have := hk.size; simp at this; omega, fun j hj => ?_⟩
    have hj3 : j < 3 := hj
    rw [World.cell?_of_block (w := w1.alloc (.cells #[.int .i64 1, .int .i64 2, .int .i64 3] 3)) hbk]
    rcases (by omega : j = 0 ∨ j = 1 ∨ j = 2) with rfl | rfl | rfl <;> simp
  · intro w' hk
    exact h.below (hb2.trans (hk.toBelow hb2.size (fun k hk => by omega)))
  · rintro r w' ⟨S', a', c', es', rfl, h1, h2, h3, h4, h5, h6⟩
    refine ⟨S', a', c', es', rfl, Nat.le_trans h3 hbig, h2, by rw [h1]; exact h4.1, hb2.trans (h5.toBelow hb2.size (fun k hk => by omega)), fun k hk => ?_⟩
    rcases h6 k hk with h7 | h7
    · omega
    · have := hb2.size; omega

set_option maxHeartbeats 6400000 in
theorem methodPlays_walk (sa : Option Addr) (sc : Nat) (ops : List OpE) (w : World) (h : OpsW w sa ops) (hbig : ops.length ≤ 2199023255540) :
    Calls Try.prog 3 #[.slice sa ops.length sc] w fun e w' => e = .returned (.bool true) ∧ Below w.heap.size w w' := by
  have HAW := Lib.hid awake_any
  have HPL : Hid (∀ w1, PlSt w.heap.size (fun k => k = w.heap.size) w1 [] → Below w.heap.size w w1 → _) := Lib.hid (fun w1 hp hb => plays_law (sc := sc) h hbig hp hb)
  obtain ⟨n, hn⟩ : ∃ n, n = ops.length := ⟨_, rfl⟩
  rw [← hn] at HPL ⊢
  clear h hbig hn
  go_enter Try.func3, Try.ntmps3
  go_wp2_with fail
  refine (newPlain_any _).mono ?_
  rintro r w1 ⟨rfl, hp1, hb1⟩
  have HQ := Lib.hid (HPL.out w1 hp1 hb1)
  clear hp1 hb1 HPL
  obtain ⟨P, hP⟩ : ∃ P, P = w.heap.size := ⟨_, rfl⟩
  have HPP := Lib.hid hP
  rw [← hP] at HQ ⊢
  clear hP
  go_wp2_with fail
  refine (law_all _).mono ?_
  rintro r w2 ⟨rfl, rfl⟩
  go_wp2_with fail
  refine HQ.out.mono ?_
  rintro r w3 ⟨S', a', c', es', rfl, hl, hrob, hst, hb3, hS⟩
  obtain ⟨m, hm⟩ : ∃ m, m = es'.length := ⟨_, rfl⟩
  have HROB := Lib.hid hrob; have HST := Lib.hid hst; have HB3 := Lib.hid hb3; have HSS := Lib.hid hS; have HM := Lib.hid hm
  have HL : Hid (m ≤ 2199023255540) := Lib.hid (by rw [hm]; exact hl)
  have HCL : Hid ((consE es').length = m) := Lib.hid (by rw [hm]; unfold consE; rw [List.length_map])
  have hE1 := entries_st hst (by rw [HCL.out]; have := HL.out; omega)
  have HE1 := Lib.hid hE1
  rw [← hm]
  clear hrob hst hb3 hS hm hl hE1 HQ
  go_wp2_with fail
  refine HE1.out.mono ?_
  rintro r w4 ⟨v1, es1, rfl, hs1, hc1, hb4⟩
  have h1l : es1.length = m := by
    have h7 := congrArg List.length hc1
    rw [HCL.out] at h7
    unfold consE at h7
    rw [List.length_map] at h7
    exact h7
  have HST4 : Hid (∀ W, Below w3.heap.size w3 W → PlSt P S' W (consE es') ∧ EnsW W a' es') := Lib.hid (fun W hW => ⟨HST.out.below hW, (HROB.out.below hW).now⟩)
  have HFIN : Hid (∀ W, Below w3.heap.size w3 W → Below P w W) := Lib.hid (fun W hW => HB3.out.trans (hW.mono (by have := HB3.out.size; rw [HPP.out]; exact this)))
  -- behind the loop
  have HEND : Hid (∀ W, Below w3.heap.size w3 W → Calls Try.prog 12 #[.pointer (some ⟨P, 0, none⟩)] W fun r w' => ∃ a2 c2, r = .returned (.slice a2 m c2) ∧ Hid (Below w3.heap.size w3 w') ∧ Hid (Calls Try.prog 13 #[.slice a2 m c2, .slice a' m c'] w' fun r w2 => r = .returned (.bool true) ∧ Below w'.heap.size w' w2)) := Lib.hid (fun W hW => by
    obtain ⟨hs, _⟩ := HST4.out W hW
    refine (entries_st hs (by rw [HCL.out]; have := HL.out; omega)).mono ?_
    rintro r w' ⟨v2, es2, rfl, hs2, hc2, hb2⟩
    obtain ⟨a2, c2, rfl⟩ := hs2.shape
    have h2l : es2.length = m := by
      have h7 := congrArg List.length hc2
      rw [HCL.out] at h7
      unfold consE at h7
      rw [List.length_map] at h7
      exact h7
    have hW2 := hW.trans (hb2.mono hW.size)
    have hsa := sameAll_any a2 es2 c2 a' es' c' w' (hs2.ens (by rw [hc2]; exact hs.good)) (HST4.out w' hW2).2 (by rw [h2l]; have := HL.out; omega)
    rw [decide_eq_true hc2, h2l, ← HM.out] at hsa
    exact ⟨a2, c2, by rw [h2l], Lib.hid hW2, Lib.hid hsa⟩)
  obtain ⟨N3, hN3⟩ : ∃ N3, N3 = w3.heap.size := ⟨_, rfl⟩
  have HN3 := Lib.hid hN3
  have HW4 : Hid (Below w3.heap.size w3 w4) := Lib.hid hb4
  have hm2 : m < 2199023255552 := by have := HL.out; omega
  rcases hs1.rowG with ⟨rfl, h0⟩ | ⟨g, c1, rfl, hgN, hrow⟩
  · clear hs1 hc1 hb4 h1l h0 hN3 HE1
    go_wp2
    go_loopw [7] (fun i wr => i = .int .i64 0 ∧ Hid (Below w3.heap.size w3 wr)) (fun _ _ => 0)
    case atStart => exact ⟨rfl, HW4⟩
    case round =>
      obtain ⟨rfl, HB⟩ := hrel
      have HF := Lib.hid (HEND.out _ HB.out)
      go_wp2_with fail
      refine HF.out.mono ?_
      rintro r w5 ⟨a2, c2, rfl, HB5, HSA⟩
      go_wp2_with fail
      refine HSA.out.mono ?_
      rintro r w6 ⟨rfl, hb6⟩
      have HB6 : Hid (Below w3.heap.size w3 w6) := Lib.hid (HB5.out.trans (hb6.mono HB5.out.size))
      clear hb6
      have HPG := Lib.hid ((pages_st P w6).mono (fun _ _ h => (⟨h.1, h.2.symm⟩ : _ ∧ w6 = _)))
      have HA6 := Lib.hid (HAW.out w6)
      go_wp2_with (go_at_call 14; refine HPG.out.mono ?_; rintro r w7 ⟨rfl, rfl⟩)
      refine HA6.out.mono ?_
      rintro e w8 ⟨rfl, hb8⟩
      have HE : Hid (Below P w w8) := Lib.hid (HFIN.out w8 (HB6.out.trans (hb8.mono HB6.out.size)))
      clear hb8
      go_wp2
      go_ret
      exact ⟨rfl, by rw [← HPP.out]; exact HE.out⟩
  · rw [h1l] at hrow ⊢
    have hgw : w3.heap.size ≤ g := hgN
    have HROW := Lib.hid hrow
    have HGW := Lib.hid hgw
    clear hs1 hc1 hb4 h1l hN3 HE1 hgN hrow hgw
    go_wp2
    go_loopw [7] (fun i wr => ∃ j : Nat, j ≤ m ∧ i = .int .i64 j ∧ Hid (Below w3.heap.size w3 wr) ∧ Hid (RowG g m wr)) (fun i _ => m - (intOf i).toNat)
    case atStart => exact ⟨0, Nat.zero_le _, rfl, HW4, HROW⟩
    case round =>
      obtain ⟨j, hj, rfl, HB, HR⟩ := hrel
      by_cases hjn : j < m
      · have f3 : (j : Int) < (m : Int) := by omega
        obtain ⟨⟨u0, d0⟩, e0⟩ := HR.out.cell (o := j * 5) (by omega)
        obtain ⟨⟨u1, d1⟩, e1⟩ := HR.out.cell (o := j * 5 + 1) (by omega)
        obtain ⟨⟨u2, d2⟩, e2⟩ := HR.out.cell (o := j * 5 + 2) (by omega)
        obtain ⟨⟨u3, d3⟩, e3⟩ := HR.out.cell (o := j * 5 + 3) (by omega)
        obtain ⟨⟨u4, d4⟩, e4⟩ := HR.out.cell (o := j * 5 + 4) (by omega)
        go_wp2
        go_roundw
        case rel => exact ⟨j + 1, by omega, by go_num, Lib.hid (((((HB.out.setCell (p := ⟨g, _, none⟩) HGW.out _).setCell (p := ⟨g, _, none⟩) HGW.out _).setCell (p := ⟨g, _, none⟩) HGW.out _).setCell (p := ⟨g, _, none⟩) HGW.out _).setCell (p := ⟨g, _, none⟩) HGW.out _), Lib.hid (((((HR.out.set _ _).set _ _).set _ _).set _ _).set _ _)⟩
        case measure => simp [intOf]; omega
      · have f3 : ¬ (j : Int) < (m : Int) := by omega
        have HF := Lib.hid (HEND.out _ HB.out)
        go_wp2_with fail
        refine HF.out.mono ?_
        rintro r w5 ⟨a2, c2, rfl, HB5, HSA⟩
        go_wp2_with fail
        refine HSA.out.mono ?_
        rintro r w6 ⟨rfl, hb6⟩
        have HB6 : Hid (Below w3.heap.size w3 w6) := Lib.hid (HB5.out.trans (hb6.mono HB5.out.size))
        clear hb6
        have HPG := Lib.hid ((pages_st P w6).mono (fun _ _ h => (⟨h.1, h.2.symm⟩ : _ ∧ w6 = _)))
        have HA6 := Lib.hid (HAW.out w6)
        go_wp2_with (go_at_call 14; refine HPG.out.mono ?_; rintro r w7 ⟨rfl, rfl⟩)
        refine HA6.out.mono ?_
        rintro e w8 ⟨rfl, hb8⟩
        have HE : Hid (Below P w w8) := Lib.hid (HFIN.out w8 (HB6.out.trans (hb8.mono HB6.out.size)))
        clear hb8
        go_wp2
        go_ret
        exact ⟨rfl, by rw [← HPP.out]; exact HE.out⟩
end Go.Proofs.Ytnnmigglcpkomaa.Dm
