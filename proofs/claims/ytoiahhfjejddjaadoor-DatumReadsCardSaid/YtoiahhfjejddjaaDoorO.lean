/- How a datum that came in is opened; what the listed variables give. No condition. -/
import Derived.Test.YtoiahhfjejddjaaDoorRows
import Derived.Test.YtoiahhfjejddjaaDoorN
import Derived.ProofKit
import Derived.LaidMore
import Derived.OpenShut
import Derived.Stop.Joined
import Derived.Lib.SmallJoins
import Derived.Deep.Slices
import Derived.Deep.Fields
import Derived.ChangeSame
import Derived.Carry
import Derived.Stop.LaidErr
import Derived.Lib.LaidTab
set_option maxRecDepth 100000
namespace Go.Proofs.YtoiahhfjejddjaaDoor
open Go Go.ChangeShapes Go.WideShapes Go.ChangeAt Go.RowKit Go.Deep Go.Joins

theorem laidOut : laidOutB Tryd.prog = true := by kernel_rfl
theorem readRec24 : Tryd.prog.readableRec 24 = true := by kernel_rfl
theorem own : ownKnob Tryd.prog.godebug = none := by kernel_rfl
theorem cells24 : Tryd.prog.cellsOf 24 = 4 := by kernel_rfl
theorem cells3 : Tryd.prog.cellsOf 3 = 1 := by kernel_rfl
theorem cells9 : Tryd.prog.cellsOf 9 = 1 := by kernel_rfl
theorem cells22 : Tryd.prog.cellsOf 22 = 1 := by kernel_rfl
theorem fields24 : oneCellFields Tryd.prog #[{ name := "Kind", type := 3, offset := 0, embedded := false, tag := "", pkgPath := "", byteOffset := 0 }, { name := "N", type := 3, offset := 1, embedded := false, tag := "", pkgPath := "", byteOffset := 8 }, { name := "S", type := 9, offset := 2, embedded := false, tag := "", pkgPath := "", byteOffset := 16 }, { name := "L", type := 22, offset := 3, embedded := false, tag := "", pkgPath := "", byteOffset := 32 }] = true := by kernel_rfl

section
variable {H : Type} {enc : TypeId × Value → H} {W : World} {base : Nat} {sp : Nat → Bool} {held : Bool}

theorem i64_of_wf {n : Int} (h : (Lit.int .i64 n).wf = true) : I64 n := by
  have e1 : IntKind.i64.min = -9223372036854775808 := rfl
  have e2 : IntKind.i64.max = 9223372036854775807 := rfl
  simp [Lit.wf, e1, e2] at h
  exact ⟨h.1, h.2⟩

/-- What one cell that reads as an int, as a text, as a list is. -/
theorem read_int {fuel : Nat} {v : Value} {y : DataW H × List MemPlace} (h : DataW.trod enc Tryd.prog W base sp held fuel 3 [v] = some y) : ∃ n, v = .int .i64 n ∧ I64 n := by
  obtain ⟨n, e, _, wf⟩ := DataW.trod_int Tryd.underlying3 h
  simp at e
  exact ⟨n, e, i64_of_wf wf⟩
theorem read_text {fuel : Nat} {v : Value} {y : DataW H × List MemPlace} (h : DataW.trod enc Tryd.prog W base sp held fuel 9 [v] = some y) : ∃ s, v = .string s := by
  obtain ⟨s, e, _, _⟩ := DataW.trod_string Tryd.underlying9 h
  simp at e
  exact ⟨s, e⟩
theorem read_slice {fuel : Nat} {v : Value} {y : DataW H × List MemPlace} (h : DataW.trod enc Tryd.prog W base sp held fuel 22 [v] = some y) : ∃ a len cap, v = .slice a len cap := by
  rcases open_slice Tryd.underlying22 h with ⟨e, _⟩ | ⟨a, len, cap, _, _, _, _, e, _⟩
  · simp at e; exact ⟨_, _, _, e⟩
  · simp at e; exact ⟨_, _, _, e⟩

/-- The four cells of one item. -/
def ItemAt (W : World) (a : Addr) (i : Nat) (x : It) : Prop :=
  W.cell? (a.add (i * 4)) = some (.int .i64 x.k) ∧ W.cell? (a.add (i * 4 + 1)) = some (.int .i64 x.n) ∧ W.cell? (a.add (i * 4 + 2)) = some (.string x.s) ∧ W.cell? (a.add (i * 4 + 3)) = some (.slice x.a x.ll x.lc) ∧ I64 x.n

theorem read_item {a : Addr} {i n : Nat} {cs : List Value} {y : DataW H × List MemPlace} (hc : W.cells? base (a.add (i * 4)) 4 = some cs) (h : DataW.trod enc Tryd.prog W base sp held n 24 cs = some y) : ∃ x, ItemAt W a i x := by
  obtain ⟨ys, n', _, _, _, hyl, hf⟩ := DataW.trod_struct Tryd.underlying24 h
  obtain ⟨_, hcl, hat⟩ := World.cells?_some hc
  match cs, hcl, ys, hyl with
  | [u0, u1, u2, u3], _, [y0, y1, y2, y3], _ =>
    have f0 : DataW.trod enc Tryd.prog W base sp held n' 3 (([u0, u1, u2, u3].drop 0).take (Tryd.prog.cellsOf 3)) = some y0 := hf 0 _ rfl
    have f1 : DataW.trod enc Tryd.prog W base sp held n' 3 (([u0, u1, u2, u3].drop 1).take (Tryd.prog.cellsOf 3)) = some y1 := hf 1 _ rfl
    have f2 : DataW.trod enc Tryd.prog W base sp held n' 9 (([u0, u1, u2, u3].drop 2).take (Tryd.prog.cellsOf 9)) = some y2 := hf 2 _ rfl
    have f3 : DataW.trod enc Tryd.prog W base sp held n' 22 (([u0, u1, u2, u3].drop 3).take (Tryd.prog.cellsOf 22)) = some y3 := hf 3 _ rfl
    rw [cells3] at f0 f1
    rw [cells9] at f2
    rw [cells22] at f3
    obtain ⟨k, rfl, _⟩ := read_int (v := u0) (y := y0) f0
    obtain ⟨m, rfl, hm⟩ := read_int (v := u1) (y := y1) f1
    obtain ⟨s, rfl⟩ := read_text (v := u2) (y := y2) f2
    obtain ⟨b, l, c, rfl⟩ := read_slice (v := u3) (y := y3) f3
    refine ⟨⟨k, m, s, b, l, c⟩, ?_, ?_, ?_, ?_, hm⟩
    · exact hat 0 (by omega)
    · rw [← add_add]; exact hat 1 (by omega)
    · rw [← add_add]; exact hat 2 (by omega)
    · rw [← add_add]; exact hat 3 (by omega)

/-- A list of data that came in. -/
theorem open_items {fuel : Nat} {cs : List Value} {y : DataW H × List MemPlace} (h : DataW.trod enc Tryd.prog W base sp held fuel 22 cs = some y) :
    ∃ (a : Option Addr) (xs : List It) (lc : Nat), cs = [.slice a xs.length lc] ∧ Sl W a xs ∧ AllI xs := by
  rcases open_slice Tryd.underlying22 h with ⟨e, _⟩ | ⟨a, len, cap, m, n, D, Pl, e, _, hl, _, hm, _, hi⟩
  · exact ⟨none, [], 0, e, .inl rfl, fun x hx => by simp at hx⟩
  · have hlen : len ≤ m := by rw [hm]; split <;> omega
    rw [cells24] at hi
    have hx : ∀ i, i < len → ∃ x, ItemAt W a i x := fun i hil => by
      obtain ⟨cs', hc, ht⟩ := hi i (by omega)
      exact read_item hc ht
    let f : Nat → It := fun i => if h : i < len then Classical.choose (hx i h) else ⟨0, 0, ⟨#[]⟩, none, 0, 0⟩
    have hf : ∀ i, i < len → ItemAt W a i (f i) := fun i hil => by
      have : f i = Classical.choose (hx i hil) := dif_pos hil
      rw [this]
      exact Classical.choose_spec (hx i hil)
    have hlf : ((List.range len).map f).length = len := by simp
    have hget : ∀ j (hj : j < ((List.range len).map f).length), ((List.range len).map f)[j]'hj = f j := fun j hj => by simp
    refine ⟨some a, (List.range len).map f, cap, by rw [hlf]; exact e, ?_, ?_⟩
    · cases len with
      | zero => exact .inl rfl
      | succ len =>
        obtain ⟨b, off, spot⟩ := a
        have h0 := (hf 0 (by omega)).1
        have hspot : spot = none := by simpa [Addr.add] using World.cell?_spot h0
        subst hspot
        refine .inr ⟨b, off, rfl, ?_, fun j hj => ?_⟩
        · rw [add_plain] at h0
          unfold World.cell? at h0
          split at h0
          · rename_i hh
            exact (Array.getElem?_eq_some_iff.1 hh).1
          · cases h0
        · obtain ⟨e0, e1, e2, e3, _⟩ := hf j (by rw [hlf] at hj; exact hj)
          rw [add_plain] at e0 e1 e2 e3
          rw [hget j hj]
          exact ⟨e0, e1, e2, e3⟩
    · intro x hx
      obtain ⟨i, hi, rfl⟩ := List.mem_map.1 hx
      exact (hf i (List.mem_range.1 hi)).2.2.2.2

/-- A datum that came in. -/
theorem open_datum {r : Reach} {b0 : Nat} {v : Value} {d : DataW H} {p : List MemPlace} (hv : Value.okWide Tryd.prog W r b0 24 v) (h : DataW.Trod enc Tryd.prog W base sp held 24 v d p) :
    ∃ (k n : Int) (s : ByteArray) (a : Option Addr) (xs : List It) (lc : Nat), v = .agg #[.int .i64 k, .int .i64 n, .string s, .slice a xs.length lc] ∧ Sl W a xs ∧ I64 n ∧ AllI xs := by
  obtain ⟨v0, v1, v2, v3, y0, y1, y2, y3, m, rfl, _, _, h0, h1, h2, h3⟩ := open_agg4 Tryd.underlying24 fields24 cells24 hv h
  obtain ⟨k, rfl, _⟩ := read_int h0
  obtain ⟨n, rfl, hn⟩ := read_int h1
  obtain ⟨s, rfl⟩ := read_text h2
  obtain ⟨a, xs, lc, e, hS, hA⟩ := open_items h3
  simp at e
  subst e
  exact ⟨k, n, s, a, xs, lc, rfl, hS, hn, hA⟩
end

/-! ### What the listed variables give -/
abbrev listed : List (String × DataW Unit) := [("math/bits.deBruijn32tab", Rows.laid_math_bits_deBruijn32tab), ("math/bits.deBruijn64tab", Rows.laid_math_bits_deBruijn64tab), ("internal/strconv.uint64pow10", Rows.laid_internal_strconv_uint64pow10), ("strconv.ErrRange", Rows.laid_strconv_ErrRange), ("strconv.ErrSyntax", Rows.laid_strconv_ErrSyntax)]
theorem gB64 : Tryd.prog.globalNamed "math/bits.deBruijn64tab" = some 5 := by kernel_rfl
theorem gRange : Tryd.prog.globalNamed "strconv.ErrRange" = some 2 := by kernel_rfl
theorem gSyntax : Tryd.prog.globalNamed "strconv.ErrSyntax" = some 1 := by kernel_rfl
theorem tTab : (Tryd.prog.globals[0]?).map (·.type) = some 103 := by kernel_rfl
theorem tRange : (Tryd.prog.globals[2]?).map (·.type) = some 56 := by kernel_rfl
theorem tSyntax : (Tryd.prog.globals[1]?).map (·.type) = some 56 := by kernel_rfl
theorem cells103 : Tryd.prog.cellsOf 103 = 20 := by kernel_rfl
theorem cells81 : Tryd.prog.cellsOf 81 = 1 := by kernel_rfl
theorem star : "*" ++ "errors.errorString" = "*errors.errorString" := by decide
theorem row114 (u : TypeId) (h : Tryd.prog.typeName? 3 u = some "*errors.errorString") : u = 114 :=
  typeName_ptr_named (nm := "errors.errorString") (by rw [star]; kernel_rfl) (by kernel_rfl) (by decide) u (by rw [star]; exact h)
theorem cells116 : Tryd.prog.cellsOf 116 = 1 := by kernel_rfl

theorem laid_of {W : World} (h : laidMetH Tryd.prog listed W) : Laid W := by
  rw [MakeChecks.laidMetH_plain _ _ _ (by kernel_rfl)] at h
  have h5 := h.tail
  have h0 := h5.tail
  have h2 := h0.tail
  have h1 := h2.tail
  obtain ⟨a0, s0, hv0, _, _, _⟩ := laid_sentinel h2 gRange tRange Tryd.underlying56 row114 Tryd.underlying114 Tryd.underlying116 rfl rfl Tryd.underlying9 cells116 cells9
  obtain ⟨a1, s1, hv1, _, _, _⟩ := laid_sentinel h1 gSyntax tSyntax Tryd.underlying56 row114 Tryd.underlying114 Tryd.underlying116 rfl rfl Tryd.underlying9 cells116 cells9
  refine ⟨?_, ⟨_, by have := World.var?_cell gSyntax hv1 0; simpa using this, .inr ⟨_, _, rfl⟩⟩, ⟨_, by have := World.var?_cell gRange hv0 0; simpa using this, .inr ⟨_, _, rfl⟩⟩, ?_⟩
  · exact Lib.tabIs_of_head gTab tTab Tryd.underlying103 Tryd.underlying81 cells81 cells103 h0
  · obtain ⟨_, ⟨g', _, _, _, _, _, hg', _, hv', _⟩, _⟩ := h5
    obtain rfl := Option.some.inj (gB64.symm.trans hg')
    unfold World.var? at hv'
    rw [gB64] at hv'
    simp only [Option.bind_some] at hv'
    cases e : W.heap[5]? with
    | none => rw [e] at hv'; simp at hv'
    | some o =>
      have := (Array.getElem?_eq_some_iff.1 e).1
      omega
end Go.Proofs.YtoiahhfjejddjaaDoor
