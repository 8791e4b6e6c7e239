/- A script of a pool's operations that came in; a list of ints that came in. No condition. -/
import Derived.Test.YtnmeobbbcccgjaaRows
import Derived.Test.YtnmeobbbcccgjaaPO
import Derived.ProofKit
import Derived.SizedLaws
import Derived.LaidMore
import Derived.OpenShut
import Derived.Lib.SmallJoins
import Derived.Deep.Slices
import Derived.Deep.Fields
import Derived.ChangeSame
import Derived.Carry
set_option maxRecDepth 100000
namespace Go.Proofs.Ytnmeobbbcccgjaa
open Go Go.ChangeShapes Go.WideShapes Go.ChangeAt Go.RowKit Go.Deep Go.Joins

theorem laidOut : laidOutB Try.prog = true := by kernel_rfl
theorem readRecOps : Try.prog.readableRec 22 = true := by kernel_rfl
theorem cellsOp : Try.prog.cellsOf 37 = 4 := by kernel_rfl
theorem cells3 : Try.prog.cellsOf 3 = 1 := by kernel_rfl
theorem cells9 : Try.prog.cellsOf 9 = 1 := by kernel_rfl
theorem bytesOp : Try.prog.bytesOf 37 = 40 := by kernel_rfl

/-- An operation: its kind, file, place, text. -/
structure It where
  k : Int
  f : Int
  n : Int
  s : ByteArray

def I64 (n : Int) : Prop := -9223372036854775808 ≤ n ∧ n ≤ 9223372036854775807
def It.Fits (x : It) : Prop := I64 x.k ∧ I64 x.f ∧ I64 x.n ∧ x.s.size ≤ 9223372036854775807

/-- The operations lie where the slice's pointer points. -/
def Sl (w : World) (a : Option Addr) (xs : List It) : Prop :=
  xs = [] ∨ ∃ b off, a = some ⟨b, off, none⟩ ∧ b < w.heap.size ∧ ∀ j (h : j < xs.length), w.cell? ⟨b, off + j * 4, none⟩ = some (.int .i64 (xs[j]'h).k) ∧ w.cell? ⟨b, off + j * 4 + 1, none⟩ = some (.int .i64 (xs[j]'h).f) ∧
    w.cell? ⟨b, off + j * 4 + 2, none⟩ = some (.int .i64 (xs[j]'h).n) ∧ w.cell? ⟨b, off + j * 4 + 3, none⟩ = some (.string (xs[j]'h).s)

theorem Sl.below {w w' : World} {a : Option Addr} {xs : List It} (h : Sl w a xs) (hb : Below w.heap.size w w') : Sl w' a xs := by
  rcases h with h | ⟨b, off, ha, hbw, hc⟩
  · exact .inl h
  · refine .inr ⟨b, off, ha, Nat.lt_of_lt_of_le hbw hb.size, fun j hj => ?_⟩
    obtain ⟨h0, h1, h2, h3⟩ := hc j hj
    exact ⟨(hb.cell hbw).trans h0, (hb.cell hbw).trans h1, (hb.cell hbw).trans h2, (hb.cell hbw).trans h3⟩

section
variable {H : Type} {enc : TypeId × Value → H} {W : World} {base : Nat} {sp : Nat → Bool} {held : Bool}

theorem i64_of_wf {n : Int} (h : (Lit.int .i64 n).wf = true) : I64 n := by
  have e1 : IntKind.i64.min = -9223372036854775808 := rfl
  have e2 : IntKind.i64.max = 9223372036854775807 := rfl
  simp [Lit.wf, e1, e2] at h
  exact ⟨h.1, h.2⟩
theorem read_int {fuel : Nat} {v : Value} {y : DataW H × List MemPlace} (h : DataW.trod enc Try.prog W base sp held fuel 3 [v] = some y) : ∃ n, v = .int .i64 n ∧ I64 n := by
  obtain ⟨n, e, _, wf⟩ := DataW.trod_int Try.underlying3 h
  simp at e
  exact ⟨n, e, i64_of_wf wf⟩
theorem read_text {fuel : Nat} {v : Value} {y : DataW H × List MemPlace} (h : DataW.trod enc Try.prog W base sp held fuel 9 [v] = some y) : ∃ s, v = .string s ∧ s.size ≤ 9223372036854775807 := by
  obtain ⟨s, e, _, hs⟩ := DataW.trod_string Try.underlying9 h
  simp at e
  exact ⟨s, e, hs⟩

/-- The four cells of one operation. -/
def ItemAt (W : World) (a : Addr) (i : Nat) (x : It) : Prop :=
  W.cell? (a.add (i * 4)) = some (.int .i64 x.k) ∧ W.cell? (a.add (i * 4 + 1)) = some (.int .i64 x.f) ∧ W.cell? (a.add (i * 4 + 2)) = some (.int .i64 x.n) ∧ W.cell? (a.add (i * 4 + 3)) = some (.string x.s) ∧ x.Fits

theorem read_item {a : Addr} {i n : Nat} {cs : List Value} {y : DataW H × List MemPlace} (hc : W.cells? base (a.add (i * 4)) 4 = some cs) (h : DataW.trod enc Try.prog W base sp held n 37 cs = some y) : ∃ x, ItemAt W a i x := by
  obtain ⟨ys, n', _, _, _, hyl, hf⟩ := DataW.trod_struct Try.underlying37 h
  obtain ⟨_, hcl, hat⟩ := World.cells?_some hc
  match cs, hcl, ys, hyl with
  | [u0, u1, u2, u3], _, [y0, y1, y2, y3], _ =>
    have f0 : DataW.trod enc Try.prog W base sp held n' 3 (([u0, u1, u2, u3].drop 0).take (Try.prog.cellsOf 3)) = some y0 := hf 0 _ rfl
    have f1 : DataW.trod enc Try.prog W base sp held n' 3 (([u0, u1, u2, u3].drop 1).take (Try.prog.cellsOf 3)) = some y1 := hf 1 _ rfl
    have f2 : DataW.trod enc Try.prog W base sp held n' 3 (([u0, u1, u2, u3].drop 2).take (Try.prog.cellsOf 3)) = some y2 := hf 2 _ rfl
    have f3 : DataW.trod enc Try.prog W base sp held n' 9 (([u0, u1, u2, u3].drop 3).take (Try.prog.cellsOf 9)) = some y3 := hf 3 _ rfl
    rw [cells3] at f0 f1 f2
    rw [cells9] at f3
    obtain ⟨k, rfl, hk⟩ := read_int (v := u0) (y := y0) f0
    obtain ⟨f, rfl, hf'⟩ := read_int (v := u1) (y := y1) f1
    obtain ⟨m, rfl, hm⟩ := read_int (v := u2) (y := y2) f2
    obtain ⟨s, rfl, hs⟩ := read_text (v := u3) (y := y3) f3
    refine ⟨⟨k, f, m, s⟩, ?_, ?_, ?_, ?_, hk, hf', hm, hs⟩
    · exact hat 0 (by omega)
    · rw [← add_add]; exact hat 1 (by omega)
    · rw [← add_add]; exact hat 2 (by omega)
    · rw [← add_add]; exact hat 3 (by omega)

/-- A script that came in. -/
theorem open_script {r : Reach} {b0 : Nat} {v : Value} {d : DataW H} {p : List MemPlace} (hv : Value.okWide Try.prog W r b0 22 v) (hd : DataW.Trod enc Try.prog W base sp held 22 v d p) :
    ∃ (a : Option Addr) (xs : List It) (lc : Nat), v = .slice a xs.length lc ∧ Sl W a xs ∧ (∀ x ∈ xs, x.Fits) ∧ (d = .nil ∧ xs = [] ∨ ∃ elems spare, d = .slice elems spare ∧ xs.length ≤ elems.length) := by
  obtain ⟨a1, len1, cap1, rfl⟩ := okWide_slice Try.underlying22 hv
  obtain ⟨fuel, h⟩ := hd
  rcases open_slice Try.underlying22 h with ⟨e, hd0⟩ | ⟨a, len, cap, m, n, D, Pl, e, hd0, hl, hdd, hm, hh, hi⟩
  · simp [Value.cells] at e
    obtain ⟨rfl, rfl, rfl⟩ := e
    have hd1 : d = .nil := congrArg Prod.fst hd0
    exact ⟨none, [], 0, rfl, .inl rfl, (fun x hx => by simp at hx), .inl ⟨hd1, rfl⟩⟩
  · simp [Value.cells] at e
    obtain ⟨rfl, rfl, rfl⟩ := e
    have hd1 : d = .slice (List.map D (List.range len1)) (List.map (fun j => D (len1 + j)) (List.range (m - len1))) := congrArg Prod.fst hh
    have hlen : len1 ≤ m := by rw [hm]; split <;> omega
    rw [cellsOp] at hi
    have hx : ∀ i, i < len1 → ∃ x, ItemAt W a i x := fun i hil => by
      obtain ⟨cs', hc, ht⟩ := hi i (by omega)
      exact read_item hc ht
    let f : Nat → It := fun i => if h : i < len1 then Classical.choose (hx i h) else ⟨0, 0, 0, ⟨#[]⟩⟩
    have hf : ∀ i, i < len1 → ItemAt W a i (f i) := fun i hil => by
      have : f i = Classical.choose (hx i hil) := dif_pos hil
      rw [this]
      exact Classical.choose_spec (hx i hil)
    have hlf : ((List.range len1).map f).length = len1 := by simp
    have hget : ∀ j (hj : j < ((List.range len1).map f).length), ((List.range len1).map f)[j]'hj = f j := fun j hj => by simp
    refine ⟨some a, (List.range len1).map f, cap1, by rw [hlf], ?_, ?_, ?_⟩
    · cases len1 with
      | zero => exact .inl rfl
      | succ len =>
        obtain ⟨b, off, spot⟩ := a
        have h0 := (hf 0 (by omega)).1
        have hspot : spot = none := by simpa [Addr.add] using World.cell?_spot h0
        subst hspot
        refine .inr ⟨b, off, rfl, ?_, fun j hj => ?_⟩
        · rw [add_plain] at h0
          unfold World.cell? at h0
          split at h0
          · rename_i hh
            exact (Array.getElem?_eq_some_iff.1 hh).1
          · cases h0
        · obtain ⟨e0, e1, e2, e3, _⟩ := hf j (by rw [hlf] at hj; exact hj)
          rw [add_plain] at e0 e1 e2 e3
          rw [hget j hj]
          exact ⟨e0, e1, e2, e3⟩
    · intro x hx
      obtain ⟨i, hi, rfl⟩ := List.mem_map.1 hx
      exact (hf i (List.mem_range.1 hi)).2.2.2.2
    · exact .inr ⟨_, _, hd1, by simp⟩

/-- The ints lie where the slice's pointer points. -/
def SlI (w : World) (a : Option Addr) (xs : List Int) : Prop :=
  xs = [] ∨ ∃ b off, a = some ⟨b, off, none⟩ ∧ b < w.heap.size ∧ ∀ j (h : j < xs.length), w.cell? ⟨b, off + j, none⟩ = some (.int .i64 (xs[j]'h))
theorem SlI.below {w w' : World} {a : Option Addr} {xs : List Int} (h : SlI w a xs) (hb : Below w.heap.size w w') : SlI w' a xs := by
  rcases h with h | ⟨b, off, ha, hbw, hc⟩
  · exact .inl h
  · exact .inr ⟨b, off, ha, Nat.lt_of_lt_of_le hbw hb.size, fun j hj => (hb.cell hbw).trans (hc j hj)⟩

theorem readRecInts : Try.prog.readableRec 31 = true := by kernel_rfl
theorem bytesInt : Try.prog.bytesOf 3 = 8 := by kernel_rfl

/-- A list of ints that came in. -/
theorem open_intlist {r : Reach} {b0 : Nat} {v : Value} {d : DataW H} {p : List MemPlace} (hv : Value.okWide Try.prog W r b0 31 v) (hd : DataW.Trod enc Try.prog W base sp held 31 v d p) :
    ∃ (a : Option Addr) (xs : List Int) (lc : Nat), v = .slice a xs.length lc ∧ SlI W a xs ∧ (∀ x ∈ xs, I64 x) ∧ (d = .nil ∧ xs = [] ∨ ∃ elems spare, d = .slice elems spare ∧ xs.length ≤ elems.length) := by
  obtain ⟨a1, len1, cap1, rfl⟩ := okWide_slice Try.underlying31 hv
  obtain ⟨fuel, h⟩ := hd
  rcases open_ints Try.underlying31 Try.underlying3 cells3 h with ⟨e, hd0⟩ | ⟨a, len, cap, zs, e, _, hlc, _, hzl, hd0, hcell, hwf⟩
  · simp [Value.cells] at e
    obtain ⟨rfl, rfl, rfl⟩ := e
    have hd1 : d = .nil := congrArg Prod.fst hd0
    exact ⟨none, [], 0, rfl, .inl rfl, (fun x hx => by simp at hx), .inl ⟨hd1, rfl⟩⟩
  · simp [Value.cells] at e
    obtain ⟨rfl, rfl, rfl⟩ := e
    have hl : len1 ≤ zs.length := by rw [hzl]; split <;> omega
    have hd1 : d = .slice (lits .i64 (zs.take len1)) (lits .i64 (zs.drop len1)) := congrArg Prod.fst hd0
    have htl : (zs.take len1).length = len1 := by rw [List.length_take]; omega
    refine ⟨some a, zs.take len1, cap1, by rw [htl], ?_, fun x hx => i64_of_wf (hwf x (List.mem_of_mem_take hx)), .inr ⟨_, _, hd1, by simp [lits]⟩⟩
    by_cases h0 : len1 = 0
    · subst h0; exact .inl (List.take_zero)
    · obtain ⟨b, off, spot⟩ := a
      have hc0 := hcell 0 (by omega)
      have hspot : spot = none := by simpa [Addr.add] using World.cell?_spot hc0
      subst hspot
      refine .inr ⟨b, off, rfl, ?_, fun j hj => ?_⟩
      · rw [add_plain] at hc0
        unfold World.cell? at hc0
        split at hc0
        · rename_i hh
          exact (Array.getElem?_eq_some_iff.1 hh).1
        · cases hc0
      · have := hcell j (by omega)
        rw [add_plain] at this
        rw [this]
        simp only [List.getElem_take]
        rw [List.getD_eq_getElem?_getD, List.getElem?_eq_getElem (by omega)]
        rfl
end
end Go.Proofs.Ytnmeobbbcccgjaa
