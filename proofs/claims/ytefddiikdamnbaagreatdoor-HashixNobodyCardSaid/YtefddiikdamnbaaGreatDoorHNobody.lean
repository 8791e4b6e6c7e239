/- HashixNobody: for every entry and every number, the law answers true, and each argument reads afterwards as it read before. Conditions: the package variable that the row lists starts as the program's text lays it (the card ties it). -/
import Derived.Test.YtefddiikdamnbaaGreatDoorRows
import Derived.Test.YtefddiikdamnbaaGreatDoorMAD
import Derived.ProofKit
import Derived.LaidMore
import Derived.OpenShut
import Derived.Stop.Joined
import Derived.Carry
import Derived.Lib.LaidTab
import Derived.Test.YtefddiikdamnbaaGreatDoorMBC
import Derived.SizedLaws
import Derived.Lib.SmallJoins
import Derived.Deep.Slices
import Derived.Deep.Fields
import Derived.ChangeSame
import Derived.Test.YtefddiikdamnbaaGreatDoorCards
import Derived.Test.YtefddiikdamnbaaGreatDoorTie
import Derived.Test.YtefddiikdamnbaaGreatDoorMBP
import Derived.ChangeMaps5
import Derived.SevenTiedAt
/- What the listed variable gives: the table that TrailingZeros64 reads. -/
set_option maxRecDepth 100000
namespace Go.Proofs.YtefddiikdamnbaaGreatDoor
open Go Go.ChangeShapes Go.WideShapes Go.ChangeAt Go.RowKit

theorem ownS : ownKnob Tryz.prog.godebug = none := by kernel_rfl
abbrev listed : List (String × DataW Unit) := [("math/bits.deBruijn64tab", Rows.laid_math_bits_deBruijn64tab)]
theorem gTab : Tryz.prog.globalNamed "math/bits.deBruijn64tab" = some 0 := by kernel_rfl
theorem tTab : (Tryz.prog.globals[0]?).map (·.type) = some 230 := by kernel_rfl
theorem cellsTab : Tryz.prog.cellsOf 230 = 64 := by kernel_rfl
theorem cellsU8 : Tryz.prog.cellsOf 5 = 1 := by kernel_rfl
theorem debr : Lib.deBruijn64tab.length = 64 := by decide

theorem laid_of {W : World} (h : laidMetH Tryz.prog listed W) : Tab W := by
  rw [MakeChecks.laidMetH_plain _ _ _ (by kernel_rfl)] at h
  have ht : Lib.TabIs Tryz.prog W "math/bits.deBruijn64tab" .u8 (Lib.deBruijn64tab.map (fun x : Nat => (x : Int))) := Lib.tabIs_of_head gTab tTab Tryz.underlying230 Tryz.underlying5 cellsU8 cellsTab h
  have hc : ∀ j, j < 64 → W.cell? ⟨0, j, none⟩ = some (.int .u8 (Lib.deBruijn64tab.getD j 0)) := fun j hj => by
    have := World.var?_cell gTab ht j
    rw [this, List.getElem?_toArray, List.getElem?_map, List.getElem?_map, List.getD_eq_getElem?_getD, List.getElem?_eq_getElem (by rw [debr]; exact hj)]
    rfl
  exact ⟨Nat.lt_of_le_of_lt (Nat.zero_le _) (World.block_lt_of_cell? W _ (hc 0 (by omega))), hc⟩
end Go.Proofs.YtefddiikdamnbaaGreatDoor

/- Data, entries and scripts that came in. -/
set_option maxRecDepth 100000
namespace Go.Proofs.YtefddiikdamnbaaGreatDoor.Dm
open Go Go.ChangeShapes Go.WideShapes Go.ChangeAt Go.RowKit Go.Deep Go.Joins

theorem laidOut : laidOutB Tryz.prog = true := by kernel_rfl
theorem cellsEn : Tryz.prog.cellsOf 84 = 5 := by kernel_rfl
theorem cellsDt : Tryz.prog.cellsOf 81 = 4 := by kernel_rfl
theorem cellsDs : Tryz.prog.cellsOf 79 = 1 := by kernel_rfl
theorem cells3 : Tryz.prog.cellsOf 3 = 1 := by kernel_rfl
theorem cells9 : Tryz.prog.cellsOf 9 = 1 := by kernel_rfl
section
variable {H : Type} {enc : TypeId × Value → H} {W : World} {base : Nat} {sp : Nat → Bool} {held : Bool}

theorem i64_of_wf {n : Int} (h : (Lit.int .i64 n).wf = true) : I64 n := by
  have e1 : IntKind.i64.min = -9223372036854775808 := rfl
  have e2 : IntKind.i64.max = 9223372036854775807 := rfl
  simp [Lit.wf, e1, e2] at h
  exact ⟨h.1, h.2⟩
theorem read_int {fuel : Nat} {v : Value} {y : DataW H × List MemPlace} (h : DataW.trod enc Tryz.prog W base sp held fuel 3 [v] = some y) : ∃ n, v = .int .i64 n ∧ I64 n := by
  obtain ⟨n, e, _, wf⟩ := DataW.trod_int Tryz.underlying3 h
  simp at e
  exact ⟨n, e, i64_of_wf wf⟩
theorem read_text {fuel : Nat} {v : Value} {y : DataW H × List MemPlace} (h : DataW.trod enc Tryz.prog W base sp held fuel 9 [v] = some y) : ∃ s, v = .string s := by
  obtain ⟨s, e, _, _⟩ := DataW.trod_string Tryz.underlying9 h
  simp at e
  exact ⟨s, e⟩
theorem read_slice {fuel : Nat} {v : Value} {y : DataW H × List MemPlace} (h : DataW.trod enc Tryz.prog W base sp held fuel 79 [v] = some y) : ∃ a len cap, v = .slice a len cap := by
  rcases open_slice Tryz.underlying79 h with ⟨e, _⟩ | ⟨a, len, cap, _, _, _, _, e, _⟩
  · simp at e; exact ⟨_, _, _, e⟩
  · simp at e; exact ⟨_, _, _, e⟩

/-- The four cells of one item. -/
def ItemAt (W : World) (a : Addr) (i : Nat) (x : It) : Prop :=
  W.cell? (a.add (i * 4)) = some (.int .i64 x.k) ∧ W.cell? (a.add (i * 4 + 1)) = some (.int .i64 x.n) ∧ W.cell? (a.add (i * 4 + 2)) = some (.string x.s) ∧ W.cell? (a.add (i * 4 + 3)) = some (.slice x.a x.ll x.lc) ∧ I64 x.n

theorem read_item {a : Addr} {i n : Nat} {cs : List Value} {y : DataW H × List MemPlace} (hc : W.cells? base (a.add (i * 4)) 4 = some cs) (h : DataW.trod enc Tryz.prog W base sp held n 81 cs = some y) : ∃ x, ItemAt W a i x := by
  obtain ⟨ys, n', _, _, _, hyl, hf⟩ := DataW.trod_struct Tryz.underlying81 h
  obtain ⟨_, hcl, hat⟩ := World.cells?_some hc
  match cs, hcl, ys, hyl with
  | [u0, u1, u2, u3], _, [y0, y1, y2, y3], _ =>
    have f0 : DataW.trod enc Tryz.prog W base sp held n' 3 (([u0, u1, u2, u3].drop 0).take (Tryz.prog.cellsOf 3)) = some y0 := hf 0 _ rfl
    have f1 : DataW.trod enc Tryz.prog W base sp held n' 3 (([u0, u1, u2, u3].drop 1).take (Tryz.prog.cellsOf 3)) = some y1 := hf 1 _ rfl
    have f2 : DataW.trod enc Tryz.prog W base sp held n' 9 (([u0, u1, u2, u3].drop 2).take (Tryz.prog.cellsOf 9)) = some y2 := hf 2 _ rfl
    have f3 : DataW.trod enc Tryz.prog W base sp held n' 79 (([u0, u1, u2, u3].drop 3).take (Tryz.prog.cellsOf 79)) = some y3 := hf 3 _ rfl
    rw [cells3] at f0 f1
    rw [cells9] at f2
    rw [cellsDs] at f3
    obtain ⟨k, rfl, _⟩ := read_int (v := u0) (y := y0) f0
    obtain ⟨m, rfl, hm⟩ := read_int (v := u1) (y := y1) f1
    obtain ⟨s, rfl⟩ := read_text (v := u2) (y := y2) f2
    obtain ⟨b, l, c, rfl⟩ := read_slice (v := u3) (y := y3) f3
    refine ⟨⟨k, m, s, b, l, c⟩, ?_, ?_, ?_, ?_, hm⟩
    · exact hat 0 (by omega)
    · rw [← add_add]; exact hat 1 (by omega)
    · rw [← add_add]; exact hat 2 (by omega)
    · rw [← add_add]; exact hat 3 (by omega)

/-- A list of data that came in. -/
theorem open_items {fuel : Nat} {cs : List Value} {y : DataW H × List MemPlace} (h : DataW.trod enc Tryz.prog W base sp held fuel 79 cs = some y) :
    ∃ (a : Option Addr) (xs : List It) (lc : Nat), cs = [.slice a xs.length lc] ∧ Sl W a xs ∧ AllI xs := by
  rcases open_slice Tryz.underlying79 h with ⟨e, _⟩ | ⟨a, len, cap, m, n, D, Pl, e, _, hl, _, hm, _, hi⟩
  · exact ⟨none, [], 0, e, .inl rfl, fun x hx => by simp at hx⟩
  · have hlen : len ≤ m := by rw [hm]; split <;> omega
    rw [cellsDt] at hi
    have hx : ∀ i, i < len → ∃ x, ItemAt W a i x := fun i hil => by
      obtain ⟨cs', hc, ht⟩ := hi i (by omega)
      exact read_item hc ht
    let f : Nat → It := fun i => if h : i < len then Classical.choose (hx i h) else ⟨0, 0, ⟨#[]⟩, none, 0, 0⟩
    have hf : ∀ i, i < len → ItemAt W a i (f i) := fun i hil => by
      have : f i = Classical.choose (hx i hil) := dif_pos hil
      rw [this]
      exact Classical.choose_spec (hx i hil)
    have hlf : ((List.range len).map f).length = len := by simp
    have hget : ∀ j (hj : j < ((List.range len).map f).length), ((List.range len).map f)[j]'hj = f j := fun j hj => by simp
    refine ⟨some a, (List.range len).map f, cap, by rw [hlf]; exact e, ?_, ?_⟩
    · cases len with
      | zero => exact .inl rfl
      | succ len =>
        obtain ⟨b, off, spot⟩ := a
        have h0 := (hf 0 (by omega)).1
        have hspot : spot = none := by simpa [Addr.add] using World.cell?_spot h0
        subst hspot
        refine .inr ⟨b, off, rfl, ?_, fun j hj => ?_⟩
        · rw [add_plain] at h0
          unfold World.cell? at h0
          split at h0
          · rename_i hh
            exact (Array.getElem?_eq_some_iff.1 hh).1
          · cases h0
        · obtain ⟨e0, e1, e2, e3, _⟩ := hf j (by rw [hlf] at hj; exact hj)
          rw [add_plain] at e0 e1 e2 e3
          rw [hget j hj]
          exact ⟨e0, e1, e2, e3⟩
    · intro x hx
      obtain ⟨i, hi, rfl⟩ := List.mem_map.1 hx
      exact (hf i (List.mem_range.1 hi)).2.2.2.2

/-- The five cells of an entry. -/
theorem read_en {n : Nat} {u0 u1 u2 u3 u4 : Value} {y : DataW H × List MemPlace} (h : DataW.trod enc Tryz.prog W base sp held n 84 [u0, u1, u2, u3, u4] = some y) : ∃ e : En, e.In W ∧ u0 = .int .i64 e.k ∧ u1 = .int .i64 e.n ∧ u2 = .string e.s ∧ u3 = .slice e.a e.xs.length e.lc ∧ u4 = .int .i64 e.t := by
  obtain ⟨ys, n', _, _, _, hyl, hf⟩ := DataW.trod_struct Tryz.underlying84 h
  match ys, hyl with
  | [y0, y1], _ =>
    have f0 : DataW.trod enc Tryz.prog W base sp held n' 81 (([u0, u1, u2, u3, u4].drop 0).take (Tryz.prog.cellsOf 81)) = some y0 := hf 0 _ rfl
    have f1 : DataW.trod enc Tryz.prog W base sp held n' 3 (([u0, u1, u2, u3, u4].drop 4).take (Tryz.prog.cellsOf 3)) = some y1 := hf 1 _ rfl
    rw [cellsDt] at f0
    rw [cells3] at f1
    obtain ⟨t, rfl, ht⟩ := read_int (v := u4) (y := y1) f1
    obtain ⟨zs, n2, _, _, _, hzl, hg⟩ := DataW.trod_struct Tryz.underlying81 f0
    match zs, hzl with
    | [z0, z1, z2, z3], _ =>
      have g0 : DataW.trod enc Tryz.prog W base sp held n2 3 (([u0, u1, u2, u3].drop 0).take (Tryz.prog.cellsOf 3)) = some z0 := hg 0 _ rfl
      have g1 : DataW.trod enc Tryz.prog W base sp held n2 3 (([u0, u1, u2, u3].drop 1).take (Tryz.prog.cellsOf 3)) = some z1 := hg 1 _ rfl
      have g2 : DataW.trod enc Tryz.prog W base sp held n2 9 (([u0, u1, u2, u3].drop 2).take (Tryz.prog.cellsOf 9)) = some z2 := hg 2 _ rfl
      have g3 : DataW.trod enc Tryz.prog W base sp held n2 79 (([u0, u1, u2, u3].drop 3).take (Tryz.prog.cellsOf 79)) = some z3 := hg 3 _ rfl
      rw [cells3] at g0 g1
      rw [cells9] at g2
      rw [cellsDs] at g3
      obtain ⟨k, rfl, _⟩ := read_int (v := u0) (y := z0) g0
      obtain ⟨m, rfl, hm⟩ := read_int (v := u1) (y := z1) g1
      obtain ⟨s, rfl⟩ := read_text (v := u2) (y := z2) g2
      obtain ⟨b, xs, c, e, hS, hA⟩ := open_items g3
      obtain rfl : u3 = .slice b xs.length c := by simpa using e
      exact ⟨⟨k, m, s, b, xs, c, t⟩, ⟨hS, hm, hA, ht⟩, rfl, rfl, rfl, rfl, rfl⟩

/-- The six cells of a call. -/
def OpAt (W : World) (a : Addr) (i : Nat) (x : OpE) : Prop :=
  (W.cell? (a.add (i * 6)) = some (.int .i64 x.o) ∧ W.cell? (a.add (i * 6 + 1)) = some (.int .i64 x.e.k) ∧ W.cell? (a.add (i * 6 + 2)) = some (.int .i64 x.e.n) ∧ W.cell? (a.add (i * 6 + 3)) = some (.string x.e.s) ∧ W.cell? (a.add (i * 6 + 4)) = some (.slice x.e.a x.e.xs.length x.e.lc) ∧ W.cell? (a.add (i * 6 + 5)) = some (.int .i64 x.e.t)) ∧ x.e.In W
end
end Go.Proofs.YtefddiikdamnbaaGreatDoor.Dm

/- A list of entries that came in. -/
set_option maxRecDepth 100000
namespace Go.Proofs.YtefddiikdamnbaaGreatDoor.Dm
open Go Go.ChangeShapes Go.WideShapes Go.ChangeAt Go.RowKit Go.Deep Go.Joins

/-- Entries in a row, whatever they are. -/
structure EnsR (w : World) (a : Option Addr) (es : List En) : Prop where
  lies : es = [] ∨ ∃ b off, a = some ⟨b, off, none⟩ ∧ b < w.heap.size ∧ Cells5 w b off es
  all : ∀ e, e ∈ es → e.In w

section
variable {H : Type} {enc : TypeId × Value → H} {W : World} {base : Nat} {sp : Nat → Bool} {held : Bool}

/-- The five cells of an entry of a row. -/
def EnAt (W : World) (a : Addr) (i : Nat) (x : En) : Prop :=
  (W.cell? (a.add (i * 5)) = some (.int .i64 x.k) ∧ W.cell? (a.add (i * 5 + 1)) = some (.int .i64 x.n) ∧ W.cell? (a.add (i * 5 + 2)) = some (.string x.s) ∧ W.cell? (a.add (i * 5 + 3)) = some (.slice x.a x.xs.length x.lc) ∧ W.cell? (a.add (i * 5 + 4)) = some (.int .i64 x.t)) ∧ x.In W
end
end Go.Proofs.YtefddiikdamnbaaGreatDoor.Dm

/- An entry that came in. -/
set_option maxRecDepth 100000
namespace Go.Proofs.YtefddiikdamnbaaGreatDoor.Dm
open Go Go.ChangeShapes Go.WideShapes Go.ChangeAt Go.RowKit Go.Deep Go.Joins

section
variable {H : Type} {enc : TypeId × Value → H} {W : World} {base : Nat} {sp : Nat → Bool} {held : Bool}

theorem open_entry {r : Reach} {b0 : Nat} {v : Value} {d : DataW H} {p : List MemPlace} (hv : Value.okWide Tryz.prog W r b0 84 v) (hd : DataW.Trod enc Tryz.prog W base sp held 84 v d p) :
    ∃ e : En, v = e.v ∧ e.In W := by
  obtain ⟨cs, rfl, hs⟩ := okWide_struct Tryz.underlying84 hv
  rw [cellsEn] at hs
  obtain ⟨fuel, h⟩ := hd
  obtain ⟨l⟩ := cs
  have hl : l.length = 5 := hs
  match l, hl with
  | [u0, u1, u2, u3, u4], _ =>
    obtain ⟨e, hE, rfl, rfl, rfl, rfl, rfl⟩ := read_en (u0 := u0) (u1 := u1) (u2 := u2) (u3 := u3) (u4 := u4) h
    exact ⟨e, rfl, hE⟩
end
end Go.Proofs.YtefddiikdamnbaaGreatDoor.Dm

set_option maxRecDepth 100000
namespace Go.Proofs.YtefddiikdamnbaaGreatDoor
open Go Go.ChangeShapes Go.WideShapes Go.ChangeAt Go.RowKit
open Dm

theorem readRecEntry11 : Tryz.prog.readableRec 84 = true := by kernel_rfl
theorem hashixNobody_met (os : Os) (args : Array Value) : laidMetH Tryz.prog listed ((World.doorLaid Tryz.prog 4000 os).forCall (fun _ _ => 0) ⟨#[], args, []⟩).memory :=
  laidMetH_of_parts3 (fuel := 8) (laidMet_of_run' 8 (by kernel_rfl) (by kernel_rfl)) (by kernel_rfl) (by kernel_rfl)

set_option maxHeartbeats 1600000 in
theorem hashixNobody_lifted (os : Os) (started : os.Started) (H : Type) (enc : TypeId × Value → H) :
    ReturnsInHanded {} Tryz.checked os 8 .any (fun w args => (Rows.hashixNobodySpec.pre enc Tryz.prog Tryz.f8 [] false w args ∧ laidMetH Tryz.prog listed w) ∧ sizedMet enc Tryz.prog Tryz.f8 (OpenSpec.ofChange Rows.hashixNobodySpec) false w args)
      (Rows.hashixNobodySpec.post enc Tryz.prog Tryz.f8 false true false false) := by
  refine returnsInHanded_of_change_and (C := Tryz.checked) (X := fun w _ => laidMetH Tryz.prog listed w) (fun _ _ _ hh h => h.of_heap hh) ownS started (by kernel_rfl) Tryz.func8
    (ChangeSpec.witness_shaped (enc := enc) (C := Tryz.checked) (os := os) (X := fun w _ => laidMetH Tryz.prog listed w) false (World.doorLaid Tryz.prog 4000 os) #[.agg #[.int .i64 0, .int .i64 0, .string ⟨#[]⟩, .slice none 0 0, .int .i64 0], .int .i64 0] 8 rfl (World.shaped_of_RefB (by kernel_rfl) (by kernel_rfl)) (by kernel_rfl) (by kernel_rfl) (by kernel_rfl) (hashixNobody_met os _)) ?_
  intro W base args ds gs before hval0 hW _ hsz0 hL _
  have hval : ∀ (j : Nat) t v, Tryz.f8.params[j]? = some t → args[j]? = some v → Value.okWide Tryz.prog W .any base t v := hval0
  have hsz : (DataW.weightsEach Tryz.prog (Tryz.f8.params.toList ++ Rows.hashixNobodySpec.plain.varTypes Tryz.prog) (ds ++ gs)).all (· ≤ reachBytes) = true := hsz0
  have hW' := hW
  obtain ⟨p, q, hA0, hV, rfl, hfz, hnd⟩ := hW
  have hA : DataW.TrodAll enc Tryz.prog W 0 (fun _ => true) true Tryz.f8.params.toList args.toList ds p := hA0
  rw [Tryz.params8] at hA hval hsz
  obtain ⟨v0, v1, d0, d1, p0, p1, rfl, rfl, rfl, h0, h1⟩ := trodAll_two hA
  obtain ⟨rfl, rfl⟩ := trodVars_none hV
  obtain ⟨e0, rfl, hE0⟩ := Dm.open_entry (hval 0 84 v0 rfl rfl) h0
  obtain ⟨n1, rfl, rfl, rfl, wn⟩ := open_int Tryz.underlying3 (hval 1 3 v1 rfl rfl) h1
  clear hA0 hval0 hsz0
  simp only [List.append_nil] at hW'
  have hlt0 : ∀ x ∈ p0, x.block < W.heap.size := fun x hx => hW'.lt x (by simp [hx])
  refine (Dm.hashixNobody_walk e0 n1 W hE0 (laid_of hL)).mono fun e W' ⟨he, hb⟩ => ?_
  subst he
  refine ⟨_, rfl, _, _, _, [], p0, [], hW', ?_, ?_, ?_, hb.frame _, fun h => by cases h⟩
  · exact trodAll_mk1 (shut_bool Tryz.underlying4 _)
  · have := trodAll_mk2 (Below.trod laidOut readRecEntry11 (of_decide_eq_true (by kernel_rfl)) h0 hb hlt0) (shut_int (n := n1) Tryz.underlying3 wn)
    rw [List.append_nil] at this
    exact this
  · rfl

theorem hashixNobody_said : Rows.HashixNobodySaid :=
  OpenClaim.holds_of_wide 8 Tryz.f8 rfl rfl rfl rfl rfl rfl rfl ⟨rfl, rfl, rfl, rfl, rfl⟩ rfl rfl rfl rfl rfl (by kernel_rfl) Tryz.func8 (by kernel_rfl)
    (of_decide_eq_true (by kernel_rfl)) (by unfold Func.isWrapper; rw [if_neg (of_decide_eq_false (by kernel_rfl))]; exact ⟨rfl, rfl⟩)
    (fun os started H enc _ => hashixNobody_lifted os started H enc)

theorem hashixNobody_holds : Rows.HashixNobodyCardSaid :=
  Claim7.holds_tied_plain_at .later [] [.data] true (true, "ff9eb63baed6b5490b94633c0b03e5b1c0aeeeb859ba99799c3199fcbb6b4b2c") false
    hashixNobody_said (fun _ h => by cases h) (by kernel_rfl) (fun _ h => by cases h) hashixNobody_row_tie rfl ⟨rfl, rfl⟩ (by kernel_rfl) rfl
    (fun f fn hf hfn => by
      obtain rfl : f = 8 := Option.some.inj ((show Tryz.prog.funcNamed "vestibule/vestibulelaw11.HashixNobody" = some 8 by kernel_rfl).symm.trans hf) |>.symm
      obtain rfl : fn = Tryz.f8 := (Option.some.inj (Tryz.func8.symm.trans hfn)).symm
      exact ⟨by kernel_rfl, fun j t ht => by
        rw [Tryz.params8] at ht
        have hm : t ∈ [84, 3] := List.mem_of_getElem? (by simpa using ht)
        have hall : ∀ t ∈ [84, 3], Tryz.prog.wantsStandIn t = false := by
          intro t ht
          simp only [List.mem_cons, List.not_mem_nil, or_false] at ht
          rcases ht with rfl | rfl <;> kernel_rfl
        exact hall t hm⟩)
    (by kernel_rfl)
#print axioms hashixNobody_holds
end Go.Proofs.YtefddiikdamnbaaGreatDoor
