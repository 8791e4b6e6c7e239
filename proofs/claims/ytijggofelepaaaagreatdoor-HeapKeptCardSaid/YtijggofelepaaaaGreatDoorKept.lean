/- HeapKept: for every script and every number, the law answers true, and each argument reads afterwards as it read before. Conditions: the package variable that the row lists starts as the program's text lays it (the card ties it). -/
import Derived.Test.YtijggofelepaaaaGreatDoorRows
import Derived.Test.YtijggofelepaaaaGreatDoorPLD
import Derived.ProofKit
import Derived.SizedLaws
import Derived.LaidMore
import Derived.OpenShut
import Derived.Lib.SmallJoins
import Derived.Deep.Slices
import Derived.Deep.Fields
import Derived.ChangeSame
import Derived.Carry
import Derived.Deep.CutRange
import Derived.Test.YtijggofelepaaaaGreatDoorMAT
import Derived.Test.YtijggofelepaaaaGreatDoorMAH
import Derived.Test.YtijggofelepaaaaGreatDoorPLE
import Derived.Test.YtijggofelepaaaaGreatDoorCards
import Derived.Test.YtijggofelepaaaaGreatDoorTie
import Derived.ChangeMaps5
import Derived.SevenTiedAt
/- A script of a heap's calls that came in. No condition. -/
set_option maxRecDepth 100000
namespace Go.Proofs.YtijggofelepaaaaGreatDoor
open Go Go.ChangeShapes Go.WideShapes Go.ChangeAt Go.RowKit Go.Deep Go.Joins

theorem laidOut : laidOutB Tryz.prog = true := by kernel_rfl
theorem readRecOps : Tryz.prog.readableRec 67 = true := by kernel_rfl
theorem cellsOp : Tryz.prog.cellsOf 77 = 3 := by kernel_rfl
theorem cells3 : Tryz.prog.cellsOf 3 = 1 := by kernel_rfl
theorem cells9 : Tryz.prog.cellsOf 9 = 1 := by kernel_rfl
theorem add_plain (b off i : Nat) : (⟨b, off, none⟩ : Addr).add i = ⟨b, off + i, none⟩ := Addr.add_lit _ _ _

/-- A call: its kind, its number, its row. -/
structure It where
  k : Int
  f : Int
  n : ByteArray

def I64 (n : Int) : Prop := -9223372036854775808 ≤ n ∧ n ≤ 9223372036854775807
def It.Fits (x : It) : Prop := I64 x.k ∧ I64 x.f ∧ x.n.size ≤ 9223372036854775807

/-- The operations lie where the slice's pointer points. -/
def Sl (w : World) (a : Option Addr) (xs : List It) : Prop :=
  xs = [] ∨ ∃ b off, a = some ⟨b, off, none⟩ ∧ b < w.heap.size ∧ ∀ j (h : j < xs.length), w.cell? ⟨b, off + j * 3, none⟩ = some (.int .i64 (xs[j]'h).k) ∧ w.cell? ⟨b, off + j * 3 + 1, none⟩ = some (.int .i64 (xs[j]'h).f) ∧ w.cell? ⟨b, off + j * 3 + 2, none⟩ = some (.string (xs[j]'h).n)

theorem Sl.below {w w' : World} {a : Option Addr} {xs : List It} (h : Sl w a xs) (hb : Below w.heap.size w w') : Sl w' a xs := by
  rcases h with h | ⟨b, off, ha, hbw, hc⟩
  · exact .inl h
  · refine .inr ⟨b, off, ha, Nat.lt_of_lt_of_le hbw hb.size, fun j hj => ?_⟩
    obtain ⟨h0, h1, h2⟩ := hc j hj
    exact ⟨(hb.cell hbw).trans h0, (hb.cell hbw).trans h1, (hb.cell hbw).trans h2⟩

section
variable {H : Type} {enc : TypeId × Value → H} {W : World} {base : Nat} {sp : Nat → Bool} {held : Bool}

theorem i64_of_wf {n : Int} (h : (Lit.int .i64 n).wf = true) : I64 n := by
  have e1 : IntKind.i64.min = -9223372036854775808 := rfl
  have e2 : IntKind.i64.max = 9223372036854775807 := rfl
  simp [Lit.wf, e1, e2] at h
  exact ⟨h.1, h.2⟩
theorem read_int {fuel : Nat} {v : Value} {y : DataW H × List MemPlace} (h : DataW.trod enc Tryz.prog W base sp held fuel 3 [v] = some y) : ∃ n, v = .int .i64 n ∧ I64 n := by
  obtain ⟨n, e, _, wf⟩ := DataW.trod_int Tryz.underlying3 h
  simp at e
  exact ⟨n, e, i64_of_wf wf⟩
theorem read_text {fuel : Nat} {v : Value} {y : DataW H × List MemPlace} (h : DataW.trod enc Tryz.prog W base sp held fuel 9 [v] = some y) : ∃ s, v = .string s ∧ y = (.lit (.string s.data.toList), []) ∧ s.size ≤ 9223372036854775807 := by
  obtain ⟨s, e, hy, hs⟩ := DataW.trod_string Tryz.underlying9 h
  simp at e
  exact ⟨s, e, hy, hs⟩

/-- The four cells of one operation. -/
def ItemAt (W : World) (a : Addr) (i : Nat) (x : It) : Prop :=
  W.cell? (a.add (i * 3)) = some (.int .i64 x.k) ∧ W.cell? (a.add (i * 3 + 1)) = some (.int .i64 x.f) ∧ W.cell? (a.add (i * 3 + 2)) = some (.string x.n) ∧ x.Fits

theorem read_item {a : Addr} {i n : Nat} {cs : List Value} {y : DataW H × List MemPlace} (hc : W.cells? base (a.add (i * 3)) 3 = some cs) (h : DataW.trod enc Tryz.prog W base sp held n 77 cs = some y) : ∃ x, ItemAt W a i x := by
  obtain ⟨ys, n', _, hy, _, hyl, hf⟩ := DataW.trod_struct Tryz.underlying77 h
  obtain ⟨_, hcl, hat⟩ := World.cells?_some hc
  match cs, hcl, ys, hyl with
  | [u0, u1, u2], _, [y0, y1, y2], _ =>
    have f0 : DataW.trod enc Tryz.prog W base sp held n' 3 (([u0, u1, u2].drop 0).take (Tryz.prog.cellsOf 3)) = some y0 := hf 0 _ rfl
    have f1 : DataW.trod enc Tryz.prog W base sp held n' 3 (([u0, u1, u2].drop 1).take (Tryz.prog.cellsOf 3)) = some y1 := hf 1 _ rfl
    have f2 : DataW.trod enc Tryz.prog W base sp held n' 9 (([u0, u1, u2].drop 2).take (Tryz.prog.cellsOf 9)) = some y2 := hf 2 _ rfl
    rw [cells3] at f0 f1
    rw [cells9] at f2
    obtain ⟨k, rfl, hk⟩ := read_int (v := u0) (y := y0) f0
    obtain ⟨f, rfl, hf'⟩ := read_int (v := u1) (y := y1) f1
    obtain ⟨m, rfl, _, hm⟩ := read_text (v := u2) (y := y2) f2
    refine ⟨⟨k, f, m⟩, ?_, ?_, ?_, hk, hf', hm⟩
    · exact hat 0 (by omega)
    · rw [← add_add]; exact hat 1 (by omega)
    · rw [← add_add]; exact hat 2 (by omega)

/-- A script that came in. -/
theorem open_ops7 {r : Reach} {b0 : Nat} {v : Value} {d : DataW H} {p : List MemPlace} (hv : Value.okWide Tryz.prog W r b0 67 v) (hd : DataW.Trod enc Tryz.prog W base sp held 67 v d p) :
    ∃ (a : Option Addr) (xs : List It) (lc : Nat), v = .slice a xs.length lc ∧ Sl W a xs ∧ (∀ x ∈ xs, x.Fits) := by
  obtain ⟨a1, len1, cap1, rfl⟩ := okWide_slice Tryz.underlying67 hv
  obtain ⟨fuel, h⟩ := hd
  rcases open_slice Tryz.underlying67 h with ⟨e, hd0⟩ | ⟨a, len, cap, m, n, D, Pl, e, hd0, hl, hdd, hm, hh, hi⟩
  · simp [Value.cells] at e
    obtain ⟨rfl, rfl, rfl⟩ := e
    exact ⟨none, [], 0, rfl, .inl rfl, fun x hx => by simp at hx⟩
  · simp [Value.cells] at e
    obtain ⟨rfl, rfl, rfl⟩ := e
    have hlen : len1 ≤ m := by rw [hm]; split <;> omega
    rw [cellsOp] at hi
    have hx : ∀ i, i < len1 → ∃ x, ItemAt W a i x := fun i hil => by
      obtain ⟨cs', hc, ht⟩ := hi i (by omega)
      exact read_item hc ht
    let f : Nat → It := fun i => if h : i < len1 then Classical.choose (hx i h) else ⟨0, 0, ⟨#[]⟩⟩
    have hf : ∀ i, i < len1 → ItemAt W a i (f i) := fun i hil => by
      have : f i = Classical.choose (hx i hil) := dif_pos hil
      rw [this]
      exact Classical.choose_spec (hx i hil)
    have hlf : ((List.range len1).map f).length = len1 := by simp
    have hget : ∀ j (hj : j < ((List.range len1).map f).length), ((List.range len1).map f)[j]'hj = f j := fun j hj => by simp
    refine ⟨some a, (List.range len1).map f, cap1, by rw [hlf], ?_, ?_⟩
    · cases len1 with
      | zero => exact .inl rfl
      | succ len =>
        obtain ⟨b, off, spot⟩ := a
        have h0 := (hf 0 (by omega)).1
        have hspot : spot = none := by simpa [Addr.add] using World.cell?_spot h0
        subst hspot
        refine .inr ⟨b, off, rfl, ?_, fun j hj => ?_⟩
        · rw [add_plain] at h0
          unfold World.cell? at h0
          split at h0
          · rename_i hh
            exact (Array.getElem?_eq_some_iff.1 hh).1
          · cases h0
        · obtain ⟨e0, e1, e2, _⟩ := hf j (by rw [hlf] at hj; exact hj)
          rw [add_plain] at e0 e1 e2
          rw [hget j hj]
          exact ⟨e0, e1, e2⟩
    · intro x hx
      obtain ⟨i, hi, rfl⟩ := List.mem_map.1 hx
      exact (hf i (List.mem_range.1 hi)).2.2.2

end
end Go.Proofs.YtijggofelepaaaaGreatDoor

/- A heap behind so many calls of a script. -/
set_option maxRecDepth 100000
namespace Go.Proofs.YtijggofelepaaaaGreatDoor
open Go Go.RowKit

/-- Behind so many calls of the script. -/
def PlyI (c : Ac) (hb r : Nat) (w : World) (v : Value) (k : Nat) (wr : World) : Prop := ∃ S l m, DoSt (JL [] []) w.heap.size c hb r S v l m wr ∧ m ≤ k ∧ Below w.heap.size w wr
section
variable {c : Ac} {hb r k : Nat} {w wr : World} {v : Value} {xs : List It} {a : Option Addr}
theorem PlyI.does (I : PlyI c hb r w v k wr) (hr : r < 16) (hS : Sl w a xs) (hF : ∀ x ∈ xs, x.Fits) (hn : xs.length ≤ 1000) (hk : k < xs.length) :
    ∃ (b off : Nat) (kd at_ : Int) (row : ByteArray), a = some ⟨b, off, none⟩ ∧ wr.cell? ⟨b, off + k * 3, none⟩ = some (.int .i64 kd) ∧ wr.cell? ⟨b, off + k * 3 + 1, none⟩ = some (.int .i64 at_) ∧ wr.cell? ⟨b, off + k * 3 + 2, none⟩ = some (.string row) ∧
      Calls Tryz.prog 25 #[.pointer (some ⟨hb, 0, none⟩), v, .agg #[.int .i64 kd, .int .i64 at_, .string row]] wr fun e w2 => ∃ v', e = .returned (.tuple #[v', .bool true]) ∧ Hid (PlyI c hb r w v' (k + 1) w2) := by
  obtain ⟨S, l, m, h1, h2, h3⟩ := I
  rcases hS.below h3 with h0 | ⟨b, off, ha, hbw, hcell⟩
  · rw [h0] at hk; simp at hk
  · obtain ⟨c0, c1, c2⟩ := hcell k hk
    refine ⟨b, off, _, _, _, ha, c0, c1, c2, ?_⟩
    have hf := (hF _ (List.getElem_mem hk)).2.1
    refine (does_any h1 hr (by omega) _ _ (by have := hf.2; omega) _).mono ?_
    rintro e w2 ⟨v', S', l', m', rfl, q1, q2, q3⟩
    exact ⟨v', rfl, Lib.hid ⟨S', l', m', q1, by omega, h1.heap.to h3 (Nat.le_refl _) q3⟩⟩
theorem PlyI.told (I : PlyI c hb r w v k wr) (hr : r < 16) (hk : k ≤ 1000) : Calls Tryz.prog 27 #[.pointer (some ⟨hb, 0, none⟩), v] wr fun e w2 => e = .returned (.bool true) ∧ Hid (Below w.heap.size w w2) := by
  obtain ⟨S, l, m, h1, h2, h3⟩ := I
  refine (told_any h1 hr (by omega)).mono ?_
  rintro e w2 ⟨rfl, S', hT⟩
  exact ⟨rfl, Lib.hid (h1.heap.to h3 (Nat.le_refl _) hT)⟩
end

end Go.Proofs.YtijggofelepaaaaGreatDoor

/- A heap whose action is over, as another has begun since. -/
set_option maxRecDepth 100000
namespace Go.Proofs.YtijggofelepaaaaGreatDoor
open Go.RowKit

theorem cells_of_cell {w : World} {b k : Nat} {x : Value} (h : w.cell? ⟨b, k, none⟩ = some x) : ∃ cs t z, w.heap[b]? = some (.cells cs t z) := by
  unfold World.cell? at h
  split at h
  · rename_i hh
    exact ⟨_, _, _, hh⟩
  · cases h
/-- Two addresses of cells that are not of one block are not the same. -/
theorem run_neq_far {w : World} {P : Program} {tp te : TypeId} {j : TypeInfo} {a b : Nat} {x y : Value} (hp : P.underlying tp = some (.pointer te)) (hte : P.info? te = some j) (hsz : j.size ≠ 0) (hbl : a ≠ b)
    (ha : w.cell? ⟨a, 0, none⟩ = some x) (hb : w.cell? ⟨b, 0, none⟩ = some y) (fa : ∀ j, w.frozen? ⟨a, j, none⟩ = false) (fb : ∀ j, w.frozen? ⟨b, j, none⟩ = false) :
    (binOp .neq tp (.pointer (some ⟨a, 0, none⟩)) (.pointer (some ⟨b, 0, none⟩))).run P w = .ok (.bool true) w := by
  obtain ⟨ca, ta, za, ea⟩ := cells_of_cell ha
  obtain ⟨cb, tb, zb, eb⟩ := cells_of_cell hb
  have e : (sameAddr ⟨a, 0, none⟩ ⟨b, 0, none⟩).run P w = .ok false w := by
    simp [sameAddr, hbl, fa, fb, noView, viewAt, World.shape?, mayBeOne, stringish, ea, eb]
  have h : ∀ d : Nat, (Op.equalIn (d + 1) tp (.pointer (some ⟨a, 0, none⟩)) (.pointer (some ⟨b, 0, none⟩))).run P w = .ok false w := fun d => by
    simp [Op.equalIn, run_underlying hp, sizeOf, typeInfo, hte, hsz, e]
  simp only [binOp]
  simp [Op.equal, Op.maxDepth, h 9999]

set_option maxHeartbeats 400000 in
theorem arefuses_other (a b s : Nat) (w : World) (h0 : w.cell? ⟨a, 0, none⟩ = some (.pointer (some ⟨a, 0, none⟩))) (h1 : w.cell? ⟨a, 1, none⟩ = some (.pointer (some ⟨s, 1, none⟩))) (h2 : w.cell? ⟨s, 85, none⟩ = some (.pointer (some ⟨b, 0, none⟩))) (hab : a ≠ b) (hb : w.cell? ⟨b, 0, none⟩ = some (.pointer (some ⟨b, 0, none⟩))) (fa : ∀ j, w.frozen? ⟨a, j, none⟩ = false) (fb : ∀ j, w.frozen? ⟨b, j, none⟩ = false) :
    Calls Tryz.prog 39 #[.pointer (some ⟨a, 0, none⟩)] w fun e w' => e = .returned (.int .i64 5) ∧ w' = w := by
  obtain ⟨j, hj, _⟩ := Option.map_eq_some_iff.1 sizeAc
  have hq := Lib.run_neq_ptr_same (P := Tryz.prog) w (tp := 28) (te := 40) ⟨a, 0, none⟩ Tryz.underlying28 hj
  obtain ⟨j2, hj2, hs2⟩ := Option.map_eq_some_iff.1 sizeAc
  have hf := run_neq_far (P := Tryz.prog) (w := w) (tp := 28) (te := 40) Tryz.underlying28 hj2 (by rw [hs2]; decide) (fun e => hab e.symm) hb h0 fb fa
  clear hs2 hj2 hb fa fb hab
  go_enter Tryz.func39, Tryz.ntmps39
  go_wp2
  go_ret
  exact ⟨rfl, rfl⟩

section
variable {w : World} {a hb r : Nat}
theorem hp_over (hR : ∀ k, Refused (.pointer (some ⟨a, 0, none⟩)) 5 (w.drewN k)) (ht : HeapAt w hb a r) :
    Calls Tryz.prog 99 #[.pointer (some ⟨hb, 0, none⟩)] w fun e w' => e = .returned (.int .i64 5) ∧ ∃ k, w' = w.drewN k := by
  have HRT : Hid (∀ k, Calls Tryz.prog 12 #[.pointer (some ⟨a, 0, none⟩), .int .i64 r] (w.drewN k) fun e w' => e = .returned (.tuple #[.int .i64 0, .int .i64 5]) ∧ w' = w.drewN k) := Lib.hid fun k => aroot_code _ 5 _ (.inr rfl) (hR k) r
  have c0 := ht.c0
  have c1 := ht.c1
  have c2 := ht.c2
  clear ht hR
  obtain ⟨j, hj, _⟩ := Option.map_eq_some_iff.1 sizeHp
  have hq := Lib.run_neq_ptr_same (P := Tryz.prog) w (tp := 70) (te := 115) ⟨hb, 0, none⟩ Tryz.underlying70 hj
  go_enter Tryz.func99, Tryz.ntmps99
  go_wp2
  go_quiet ((go_at_call 12; exact Calls.quiet_of_same (HRT.out _)))
  go_wp2
  go_ret
  exact ⟨rfl, _, rfl⟩
set_option maxHeartbeats 800000 in
theorem at_over (f : Value) (q : Int) (h : Calls Tryz.prog 99 #[.pointer (some ⟨hb, 0, none⟩)] w fun e w' => e = .returned (.int .i64 5) ∧ ∃ k, w' = w.drewN k) :
    Calls Tryz.prog 65 #[.pointer (some ⟨hb, 0, none⟩), .int .i64 q, f] w fun e w' => e = .returned (.int .i64 5) ∧ ∃ k, w' = w.drewN k := by
  have H := Lib.hid h
  clear h
  go_enter Tryz.func65, Tryz.ntmps65
  go_wp2_with fail
  refine H.out.mono ?_
  rintro e w1 ⟨rfl, hw⟩
  have HW := Lib.hid hw
  clear hw H
  go_wp2
  go_ret
  exact ⟨rfl, HW.out⟩
set_option maxHeartbeats 1600000 in
theorem get_over7 (q : Int) (h : ∀ W, Below w.heap.size w W → Calls Tryz.prog 99 #[.pointer (some ⟨hb, 0, none⟩)] W fun e w' => e = .returned (.int .i64 5) ∧ ∃ k, w' = W.drewN k) :
    Calls Tryz.prog 26 #[.pointer (some ⟨hb, 0, none⟩), .int .i64 q] w fun e w' => e = .returned (.tuple #[.string ⟨#[]⟩, .bool false, .int .i64 5]) ∧ Below w.heap.size w w' := by
  have H : Hid (∀ f W, Below w.heap.size w W → Calls Tryz.prog 65 #[.pointer (some ⟨hb, 0, none⟩), .int .i64 q, f] W fun e w' => e = .returned (.int .i64 5) ∧ ∃ k, w' = W.drewN k) := Lib.hid fun f W hW => at_over f q (h W hW)
  clear h
  have hb0 := ((Below.refl w.heap.size w).alloc (Nat.le_refl _) (.cells #[.string ⟨#[]⟩] 9)).alloc (by simp) (.cells #[.bool false] 4)
  go_enter Tryz.func26, Tryz.ntmps26
  go_wp2_with fail
  refine (H.out _ _ hb0).mono ?_
  rintro e w1 ⟨rfl, k, hw⟩
  subst w1
  have HB := Lib.hid (fun j => hb0.trans ((below_drewN _ j).mono hb0.size))
  clear hb0 H
  go_wp2
  go_region
  all_goals
    go_wp2
  all_goals
    refine bodyPost_ret (v := .tuple #[.string ⟨#[]⟩, .bool false, .int .i64 5]) (by simp [results, Tryz.results26, go_sem]) rfl ?_
    first
      | exact ⟨rfl, ((HB.out (k + 1)).setCell (p := ⟨w.heap.size, 0, none⟩) (Nat.le_refl _) _).setCell (p := ⟨w.heap.size + 1, 0, none⟩) (Nat.le_succ _) _⟩
      | exact ⟨rfl, ((HB.out (k + 1)).setCell (p := ⟨w.heap.size + 1, 0, none⟩) (Nat.le_succ _) _).setCell (p := ⟨w.heap.size, 0, none⟩) (Nat.le_refl _) _⟩
      | exact ⟨rfl, HB.out (k + 1)⟩
end
end Go.Proofs.YtijggofelepaaaaGreatDoor

/- HeapKept: what stands behind Commit; the second action's steps; what is opened anew. -/
set_option maxRecDepth 100000
namespace Go.Proofs.YtijggofelepaaaaGreatDoor
open Go Go.RowKit

theorem HpS.congr {h : Hd} {G G' : Nat → List UInt8} {top m e : Nat} {L : Nat → List Pl} (x : HpS h G top L m e) (hG : ∀ q, h.has q → G' q = G q) : HpS h G' top L m e := by
  have hh : ∀ q, (∃ k, ch0 top k = q ∧ q ≠ 0) ∨ L q ≠ [] → h.has q := fun q hq => by
    rcases hq with ⟨k, rfl, h0⟩ | hq
    · exact (x.on.chas k h0).2.1
    · exact (x.on.sheet q hq).1
  exact ⟨x.on.congr hh (fun q hq => hG q (hh q hq)), fun q hq => by rw [hG q hq]; exact x.len q hq, x.own, x.cnt, x.few⟩

/-- An action at block a that is over, as another one at block b goes on; a heap of the one that is over; all beside S. -/
structure OverAt (S : Nat → Prop) (w : World) (a s b hb : Nat) : Prop where
  a0 : w.cell? ⟨a, 0, none⟩ = some (.pointer (some ⟨a, 0, none⟩))
  a1 : w.cell? ⟨a, 1, none⟩ = some (.pointer (some ⟨s, 1, none⟩))
  s85 : w.cell? ⟨s, 85, none⟩ = some (.pointer (some ⟨b, 0, none⟩))
  b0 : w.cell? ⟨b, 0, none⟩ = some (.pointer (some ⟨b, 0, none⟩))
  fa : ∀ j, w.frozen? ⟨a, j, none⟩ = false
  fb : ∀ j, w.frozen? ⟨b, j, none⟩ = false
  heap : HeapAt w hb a 3
  ne : a ≠ b
  out : ¬ S a ∧ ¬ S s ∧ ¬ S b ∧ ¬ S hb
section
variable {S S' : Nat → Prop} {w w' : World} {a s b hb : Nat}
theorem OverAt.to (o : OverAt S w a s b hb) (hk : Kept S w w') (ho : ∀ k, k < w.heap.size → S' k → S k) : OverAt S' w' a s b hb := by
  have la := World.block_lt_of_cell? w _ o.a0
  have ls := World.block_lt_of_cell? w _ o.s85
  have lb := World.block_lt_of_cell? w _ o.b0
  have ka := hk.block a la o.out.1
  have ks := hk.block s ls o.out.2.1
  have kb := hk.block b lb o.out.2.2.1
  exact ⟨(World.cell?_of_block ka).trans o.a0, (World.cell?_of_block ka).trans o.a1, (World.cell?_of_block ks).trans o.s85, (World.cell?_of_block kb).trans o.b0, fun j => (World.frozen?_of_block ka).trans (o.fa j), fun j => (World.frozen?_of_block kb).trans (o.fb j), o.heap.kept hk o.out.2.2.2, o.ne,
    ⟨fun h => o.out.1 (ho _ la h), fun h => o.out.2.1 (ho _ ls h), fun h => o.out.2.2.1 (ho _ lb h), fun h => o.out.2.2.2 (ho _ o.heap.lt h)⟩⟩
theorem OverAt.below (o : OverAt S w a s b hb) (hbw : Below w.heap.size w w') : OverAt S w' a s b hb := o.to (Kept.ofBelow hbw) (fun _ _ h => h)
theorem OverAt.get (o : OverAt S w a s b hb) (q : Int) : Calls Tryz.prog 26 #[.pointer (some ⟨hb, 0, none⟩), .int .i64 q] w fun e w' => e = .returned (.tuple #[.string ⟨#[]⟩, .bool false, .int .i64 5]) ∧ Below w.heap.size w w' :=
  get_over7 q fun W hW => hp_over (a := a) (r := 3) (fun n => by
    have o' := (o.below hW).below (below_drewN W n)
    exact arefuses_other a b s (W.drewN n) o'.a0 o'.a1 o'.s85 o'.ne o'.b0 o'.fa o'.fb) (o.below hW).heap
end

/-- A list that stands beside S. -/
def RwO (S : Nat → Prop) (w : World) (v : Value) (l : List Rw) : Prop := RwV w v l ∧ ∀ g, v.ownBlock = some g → ¬ S g
theorem RwO.to {S S' : Nat → Prop} {w w' : World} {v : Value} {l : List Rw} (h : RwO S w v l) (hk : Kept S w w') (ho : ∀ k, k < w.heap.size → S' k → S k) : RwO S' w' v l := ⟨h.1.kept hk h.2, fun g hg hs => h.2 g hg (ho g (h.1.lt g hg) hs)⟩

/-- What stands while the second action goes on: the first one over, its heap, the list, and what a disk opened anew tells. -/
structure KpS (c c2 : Ac) (hb : Nat) (l : List Rw) (v : Value) (rs : List ByteArray) (xs : List (Hd × List Pt)) (h : Hd) (L : Nat → List Pl) (m : Nat) (S : Nat → Prop) (w : World) : Prop where
  act : ActAt w c.a c.s h (.map none)
  heap : HeapAt w hb c.a 3
  out : ¬ S c.a ∧ ¬ S hb
  li : RwO S w v l
  same : c2.s = c.s ∧ c2.d = c.d ∧ c.a ≠ c2.a
  on : HpS h c2.C (h.root 3) L m 0 ∧ RowsOf L l
  few : l.length ≤ m ∧ m ≤ 1000
  len : ∀ q, (c2.C q).length = 512
  recs : Recs rs ∧ rs.length = xs.length ∧ ∀ i (h1 : i < rs.length) (h2 : i < xs.length), Tells rs[i] xs[i]
  head : resH Hd.zero xs = h ∧ h.Ok
  cost : resN c2.N xs ≤ 8000000
  anew : ∀ C0 : Nat → List UInt8, (∀ q, (C0 q).length = 512) → ∀ q, h.has q → resC C0 xs q = c2.C q
section
variable {c c2 : Ac} {hb m : Nat} {l : List Rw} {v : Value} {rs : List ByteArray} {xs : List (Hd × List Pt)} {h : Hd} {L : Nat → List Pl} {S S' : Nat → Prop} {w w' : World}
theorem KpS.to (x : KpS c c2 hb l v rs xs h L m S w) (hk : Kept S w w') (ho : ∀ k, k < w.heap.size → S' k → S k) : KpS c c2 hb l v rs xs h L m S' w' :=
  ⟨x.act.kept hk x.out.1, x.heap.kept hk x.out.2, ⟨fun hs => x.out.1 (ho _ x.act.lt hs), fun hs => x.out.2 (ho _ x.heap.lt hs)⟩, x.li.to hk ho, x.same, x.on, x.few, x.len, x.recs, x.head, x.cost, x.anew⟩
end

/-- The second action, behind so many steps. -/
def KpU (w0 : World) (a d s hb : Nat) (v : Value) (b hb2 : Nat) (v2 : Value) (k : Nat) (w : World) : Prop :=
  ∃ (c c2 : Ac) (S : Nat → Prop) (l l2 : List Rw) (m2 : Nat) (rs : List ByteArray) (xs : List (Hd × List Pt)) (h : Hd) (L : Nat → List Pl) (m : Nat),
    (c.a = a ∧ c.d = d ∧ c.s = s ∧ c2.a = b) ∧ KpS c c2 hb l v rs xs h L m S w ∧ DoSt (JL rs []) w0.heap.size c2 hb2 3 S v2 l2 m2 w ∧ m2 ≤ k ∧ Below w0.heap.size w0 w

section
variable {c : Ac} {hb n : Nat} {w0 wr : World} {v : Value}
set_option maxHeartbeats 800000 in
theorem PlyI.commit (I : PlyI c hb 3 w0 v n wr) (hz : c.last = Hd.zero ∧ c.N = 0) (hC : ∀ q, (c.C q).length = 512) (hn : n ≤ 800) (hT : Tab w0) :
    Calls Tryz.prog 16 #[.pointer (some ⟨c.a, 0, none⟩)] wr fun e w1 => e = .returned (.int .i64 0) ∧ Hid (Calls Tryz.prog 8 #[.pointer (some ⟨c.s, 0, none⟩)] w1 fun e w2 => ∃ b, e = .returned (.tuple #[.pointer (some ⟨b, 0, none⟩), .int .i64 0]) ∧
      Hid (Calls Tryz.prog 24 #[.pointer (some ⟨b, 0, none⟩), .int .i64 3] w2 fun e w3 => ∃ hb2, e = .returned (.tuple #[.pointer (some ⟨hb2, 0, none⟩), .int .i64 0]) ∧ Hid (KpU w0 c.a c.d c.s hb v b hb2 v n w3))) := by
  obtain ⟨S, l, m, ⟨⟨L, ⟨h, G, hA, hTr, hnS, hon⟩, hrow⟩, hli, hlo, hfew⟩, hmn, hbl⟩ := I
  have hps : ∀ q, h.has q → q ∈ List.range 1002 := fun q hq => List.mem_range.2 (by have := hon.le hq; omega)
  have hlow := fun k hk => (hA.low k hk).1
  refine (commit_v hA hC _ hps (by simp) (fun r hr => by cases hr) (by decide +kernel) (by have := hz.2; omega)).mono ?_
  rintro e w1 ⟨rfl, S1, rs, pt, hc⟩
  refine ⟨rfl, Lib.hid ?_⟩
  have hb1 : Below w0.heap.size w0 w1 := hbl.trans (hc.kept.toBelow hbl.size hlow)
  have hT1 : Tab w1 := hT.below hb1 hT.1
  refine (begin_v hc.sp (Saves.jl _ _) (by have := hc.few; have := hz.2; omega) hT1 hT.1).mono ?_
  rintro e w2 ⟨c2, S2, rfl, es, ed, el, ep, en, eN, eC, elast, hA2, hage, hold, hk2⟩
  refine ⟨c2.a, rfl, Lib.hid ?_⟩
  rw [← eC] at hA2
  refine (hp_new hA2 3 (by omega)).mono ?_
  rintro e w3 ⟨hb2, rfl, ht2, htb2, hb3⟩
  refine ⟨hb2, rfl, Lib.hid ?_⟩
  have hsz1 := hc.kept.size
  have hkk : Kept S wr w2 := hc.kept.trans (hk2.mono (T := S) (fun k e => e ▸ hA.own.2.1)) (fun _ hi => .inl hi)
  have hoo : ∀ k, k < wr.heap.size → S2 k → S k := fun k hlt hs => by
    rcases hold k (by omega) hs with h1 | rfl | rfl
    · exact hc.old k hlt h1
    · exact hA.own.2.1
    · exact hA.own.2.2.1
  have hact2 : ActAt w2 c.a c.s h (.map none) := hc.act.kept hk2 hc.na.2.1
  have hb02 : Below w0.heap.size w0 w2 := hbl.trans (hkk.toBelow hbl.size hlow)
  have hb03 : Below w0.heap.size w0 w3 := hb02.trans (hb3.mono hb02.size)
  have hC2 : ∀ q, (c2.C q).length = 512 := fun q => by rw [eC]; exact hc.len q
  have hon2 : HpS h c2.C (h.root 3) L m 0 := hon.congr fun q hq => by rw [eC]; exact hc.is q hq
  have hN2 : c2.N ≤ 3000001 := by rw [eN, hz.2]; have := hc.few; omega
  obtain ⟨xs, hr, hh, hN, hnew⟩ : ∃ xs : List (Hd × List Pt), (Recs rs ∧ rs.length = xs.length ∧ ∀ i (h1 : i < rs.length) (h2 : i < xs.length), Tells rs[i] xs[i]) ∧ resH Hd.zero xs = h ∧ resN c2.N xs ≤ 8000000 ∧ (∀ C0 : Nat → List UInt8, (∀ q, (C0 q).length = 512) → ∀ q, h.has q → resC C0 xs q = c2.C q) := by
    have hno : ∀ q, ¬ c.last.has q := fun q hq => by rw [hz.1] at hq; exact zero_has q hq
    rcases hc.told with ⟨h1, h2, h3⟩ | ⟨h1, h2, h3⟩
    · subst h1
      refine ⟨[], ⟨(fun r hr => by cases hr), rfl, fun i h1 => by simp at h1⟩, by rw [h3, hz.1]; rfl, by show c2.N ≤ _; omega, fun C0 _ q hq => ?_⟩
      rw [h3] at hq
      exact absurd hq (hno q)
    · rw [List.nil_append] at h1
      subst h1
      refine ⟨[(h, pt)], ⟨fun x hx => by rw [List.mem_singleton] at hx; subst hx; exact ⟨h2, h3⟩, rfl, fun i h1 h2 => ?_⟩, rfl, ?_, fun C0 h0 q hq => ?_⟩
      · have : i = 0 := by simp at h1; omega
        subst this
        exact tells_rec h hc.ok pt (by have := hc.few; omega) hc.fits
      · show c2.N + 3 * pt.length ≤ _
        have := hc.few; omega
      · show appC C0 pt q = _
        rw [hc.anew hno C0 h0 q hq, eC, hc.is q hq]
  have hli3 : RwO S2 w3 v l := by
    have := (show RwO S wr v l from ⟨hli, hlo⟩).to hkk hoo
    exact ⟨this.1.below hb3, this.2⟩
  refine ⟨c, c2, S2, l, l, m, rs, xs, h, L, m, ⟨rfl, rfl, rfl, rfl⟩, ⟨hact2.below hb3, (hTr.kept hkk hnS).below hb3, ⟨fun hs => ?_, fun hs => hnS (hoo hb hTr.lt hs)⟩, hli3, ⟨es, ed, by have := hc.na.2.2.2; omega⟩, ⟨hon2, hrow⟩, ⟨hfew, by omega⟩, hC2, hr, ⟨hh, hc.ok⟩, hN, hnew⟩, ⟨⟨L, ⟨h, c2.C, hA2.below hb3, ht2, fun hs => ?_, hon2⟩, hrow⟩, hli3.1, hli3.2, hfew⟩, hmn, hb03⟩
  · rcases hold c.a (by have := hc.na.2.2.2; omega) hs with h1 | h1 | h1
    · exact hc.na.1 h1
    · exact hc.na.2.1 h1
    · exact hc.na.2.2.1 h1
  · have := (hA2.low _ hs).2; omega
end

section
variable {w0 w : World} {a d s hb b hb2 k : Nat} {v v2 : Value} {xs : List It} {al : Option Addr}
theorem KpU.does (I : KpU w0 a d s hb v b hb2 v2 k w) (hS : Sl w0 al xs) (hF : ∀ x ∈ xs, x.Fits) (hn : xs.length ≤ 800) (hk : k < xs.length) :
    ∃ (g off : Nat) (kd at_ : Int) (row : ByteArray), al = some ⟨g, off, none⟩ ∧ w.cell? ⟨g, off + k * 3, none⟩ = some (.int .i64 kd) ∧ w.cell? ⟨g, off + k * 3 + 1, none⟩ = some (.int .i64 at_) ∧ w.cell? ⟨g, off + k * 3 + 2, none⟩ = some (.string row) ∧
      Calls Tryz.prog 25 #[.pointer (some ⟨hb2, 0, none⟩), v2, .agg #[.int .i64 kd, .int .i64 at_, .string row]] w fun e w2 => ∃ v', e = .returned (.tuple #[v', .bool true]) ∧ Hid (KpU w0 a d s hb v b hb2 v' (k + 1) w2) := by
  obtain ⟨c, c2, S, l, l2, m2, rs, ys, h, L, m, he, hx, ht, hm2, hbl⟩ := I
  rcases hS.below hbl with h0 | ⟨g, off, ha, hbw, hcell⟩
  · rw [h0] at hk; simp at hk
  · obtain ⟨c0, c1, c2'⟩ := hcell k hk
    refine ⟨g, off, _, _, _, ha, c0, c1, c2', ?_⟩
    have hf := (hF _ (List.getElem_mem hk)).2.1
    refine (does_any ht (by omega) (by omega) _ _ (by have := hf.2; omega) _).mono ?_
    rintro e w2 ⟨v', S', l', m', rfl, q1, q2, q3⟩
    exact ⟨v', rfl, Lib.hid ⟨c, c2, S', l, l', m', rs, ys, h, L, m, he, hx.to q3.1 q3.2, q1, by omega, ht.heap.to hbl (Nat.le_refl _) q3⟩⟩
set_option maxHeartbeats 800000 in
theorem KpU.open_ (I : KpU w0 a d s hb v b hb2 v2 k w) (hT : Tab w0) :
    Calls Tryz.prog 6 #[.pointer (some ⟨d, 0, none⟩), .int .i64 4] w fun e w1 => ∃ y, e = .returned (.tuple #[.pointer (some ⟨y, 0, none⟩), .int .i64 0]) ∧ Hid (Calls Tryz.prog 8 #[.pointer (some ⟨y, 0, none⟩)] w1 fun e w2 => ∃ b3, e = .returned (.tuple #[.pointer (some ⟨b3, 0, none⟩), .int .i64 0]) ∧
      Hid (Calls Tryz.prog 24 #[.pointer (some ⟨b3, 0, none⟩), .int .i64 3] w2 fun e w3 => ∃ hb3, e = .returned (.tuple #[.pointer (some ⟨hb3, 0, none⟩), .int .i64 0]) ∧
        Hid (Calls Tryz.prog 26 #[.pointer (some ⟨hb, 0, none⟩), .int .i64 64] w3 fun e w4 => e = .returned (.tuple #[.string ⟨#[]⟩, .bool false, .int .i64 5]) ∧
          Hid (Calls Tryz.prog 27 #[.pointer (some ⟨hb3, 0, none⟩), v] w4 fun e w5 => e = .returned (.bool true) ∧
            Hid (Calls Tryz.prog 23 #[] w5 fun e w6 => e = .returned (.bool true) ∧ Below w0.heap.size w0 w6))))) := by
  obtain ⟨c, c2, S, l, l2, m2, rs, xs, h, L, m, ⟨rfl, rfl, rfl, rfl⟩, hx, ht, hm2, hbl⟩ := I
  obtain ⟨⟨L2, ⟨h2, G2, hA2, _⟩, _⟩, _⟩ := ht
  have hlow := fun k hk => (hA2.low k hk).1
  obtain ⟨_, D, S0, hL, _⟩ := hA2.live
  have hsp := hL.act.sp
  have hac := hL.act.ac
  have hov : ∀ T : Nat → Prop, (∀ k, T k → S k ∧ k ≠ c2.a ∧ k ≠ c2.s ∧ k ≠ c2.l) → OverAt T w c.a c.s c2.a hb := fun T hT' =>
    ⟨hx.act.self, hx.act.st, by rw [← hx.same.1]; exact hsp.cur_, hac.self, hx.act.froz, hac.froz, hx.heap, hx.same.2.2, ⟨fun h => hx.out.1 (hT' _ h).1, fun h => (hT' _ h).2.2.1 hx.same.1.symm, fun h => (hT' _ h).2.1 rfl, fun h => hx.out.2 (hT' _ h).1⟩⟩
  rw [← hx.same.2.1]
  refine (open_v hA2 4 xs hx.recs.1 (by omega) (by omega) hx.recs.2.1 hx.recs.2.2 (by have := hx.cost; omega) (by rw [hx.head.1]; exact hx.head.2)).mono ?_
  rintro e w1 ⟨y, ly, py, S1, T, C0, rfl, h0, hy, hys, hyl, hkT, hTS, hoT⟩
  have o1 := hov T hTS
  have li1 : RwO T w v l := ⟨hx.li.1, fun g hg hh => hx.li.2 g hg (hTS g hh).1⟩
  have hb1 : Below w0.heap.size w0 w1 := hbl.trans (hkT.toBelow hbl.size (fun k hk => hlow k (hTS k hk).1))
  rw [hx.head.1] at hy
  have hT1 : Tab w1 := hT.below hb1 hT.1
  clear hac hsp hL
  refine ⟨y, rfl, Lib.hid ?_⟩
  refine (begin_v hy (Saves.jl _ _) (by have := hx.cost; omega) hT1 hT.1).mono ?_
  rintro e w2 ⟨c3, S3, rfl, es, ed, el, ep, en, eN, eC, elast, hA3, hage, hold, hk2⟩
  have hs1 : w.heap.size ≤ w1.heap.size := hkT.size
  have hk02 : Kept T w w2 := hkT.trans hk2 (fun k e => .inr (by have e' : k = y := e; omega))
  have ho02 : ∀ k, k < w.heap.size → S3 k → T k := fun k hlt hs => by
    rcases hold k (by omega) hs with h1 | rfl | rfl
    · exact hoT k hlt h1
    · omega
    · omega
  have o3 := o1.to hk02 ho02
  have li3 := li1.to hk02 ho02
  have hb2 : Below w0.heap.size w0 w2 := hbl.trans (hk02.toBelow hbl.size (fun k hk => hlow k (hTS k hk).1))
  rw [← eC] at hA3
  have hon3 : HpS h c3.C (h.root 3) L m 0 := hx.on.1.congr fun q hq => by rw [eC]; exact hx.anew C0 h0 q hq
  refine ⟨c3.a, rfl, Lib.hid ?_⟩
  refine (hp_new hA3 3 (by omega)).mono ?_
  rintro e w3 ⟨hb3, rfl, ht3, htb3, hbb3⟩
  refine ⟨hb3, rfl, Lib.hid ?_⟩
  have o4 := o3.below hbb3
  have d3 : DoSt (JL rs []) w0.heap.size c3 hb3 3 S3 v l m w3 := ⟨⟨L, ⟨h, c3.C, hA3.below hbb3, ht3, fun hs => by have := (hA3.low _ hs).2; omega, hon3⟩, hx.on.2⟩, li3.1.below hbb3, li3.2, hx.few.1⟩
  have hb03 : Below w0.heap.size w0 w3 := hb2.trans (hbb3.mono hb2.size)
  refine (o4.get 64).mono ?_
  rintro e w4 ⟨rfl, hb4⟩
  refine ⟨rfl, Lib.hid ?_⟩
  have d4 := d3.below hb4
  have hb04 : Below w0.heap.size w0 w4 := hb03.trans (hb4.mono hb03.size)
  refine (told_any d4 (by omega) hx.few.2).mono ?_
  rintro e w5 ⟨rfl, S5, hT5⟩
  refine ⟨rfl, Lib.hid ?_⟩
  have hb05 : Below w0.heap.size w0 w5 := d4.heap.to hb04 (Nat.le_refl _) hT5
  refine (awake_any w5 (hT.below hb05 hT.1)).mono ?_
  rintro e w6 ⟨rfl, hb6⟩
  exact ⟨rfl, hb05.trans (hb6.mono hb05.size)⟩
end
end Go.Proofs.YtijggofelepaaaaGreatDoor

/- The walk of HeapKept. -/
set_option maxRecDepth 100000
namespace Go.Proofs.YtijggofelepaaaaGreatDoor
open Go Go.RowKit

theorem tmod_in (x : Int) (n : Nat) : x.tmod ((n : Int) + 1) ≤ n ∧ -(n : Int) ≤ x.tmod ((n : Int) + 1) := by
  have h : (x.tmod ((n : Int) + 1)).natAbs < n + 1 := by
    rw [Int.natAbs_tmod]
    exact Nat.mod_lt _ (by omega)
  omega

theorem PlyI.shape {c : Ac} {hb r k : Nat} {w wr : World} {v : Value} (I : PlyI c hb r w v k wr) : ∃ A L c0, v = .slice A L c0 := by
  obtain ⟨S, l, m, h1, _⟩ := I
  obtain ⟨A, c0, e, _⟩ := h1.rows.slice
  exact ⟨A, _, c0, e⟩
theorem KpU.shape {w0 w : World} {a d s hb b hb2 k : Nat} {v v2 : Value} (I : KpU w0 a d s hb v b hb2 v2 k w) : ∃ A L c0, v2 = .slice A L c0 := by
  obtain ⟨c, c2, S, l, l2, m2, rs, ys, h, L, m, he, hx, ht, hm2, hbl⟩ := I
  obtain ⟨A, c0, e, _⟩ := ht.rows.slice
  exact ⟨A, _, c0, e⟩

set_option maxHeartbeats 6400000 in
theorem heapKept_walk (a : Option Addr) (xs : List It) (lc : Nat) (kp : Int) (w : World) (hT : Tab w) (hS : Sl w a xs) (hF : ∀ x ∈ xs, x.Fits) :
    Calls Tryz.prog 4 #[.slice a xs.length lc, .int .i64 kp] w fun e w' => e = .returned (.bool true) ∧ Below w.heap.size w w' := by
  have HT := Lib.hid hT
  have HBG := Lib.hid (begun_ok0 w hT)
  have HDO : Hid (∀ c hb v k wr, xs.length ≤ 800 → PlyI c hb 3 w v k wr → k < xs.length → ∃ (b off : Nat) (kd at_ : Int) (row : ByteArray), a = some ⟨b, off, none⟩ ∧ wr.cell? ⟨b, off + k * 3, none⟩ = some (.int .i64 kd) ∧ wr.cell? ⟨b, off + k * 3 + 1, none⟩ = some (.int .i64 at_) ∧ wr.cell? ⟨b, off + k * 3 + 2, none⟩ = some (.string row) ∧
      Calls Tryz.prog 25 #[.pointer (some ⟨hb, 0, none⟩), v, .agg #[.int .i64 kd, .int .i64 at_, .string row]] wr fun e w2 => ∃ v', e = .returned (.tuple #[v', .bool true]) ∧ Hid (PlyI c hb 3 w v' (k + 1) w2)) := Lib.hid fun c hb v k wr hn I hk => I.does (by omega) hS hF (by omega) hk
  have HDU : Hid (∀ a' d s hb v b2 hb2 v2 k wr, xs.length ≤ 800 → KpU w a' d s hb v b2 hb2 v2 k wr → k < xs.length → ∃ (b off : Nat) (kd at_ : Int) (row : ByteArray), a = some ⟨b, off, none⟩ ∧ wr.cell? ⟨b, off + k * 3, none⟩ = some (.int .i64 kd) ∧ wr.cell? ⟨b, off + k * 3 + 1, none⟩ = some (.int .i64 at_) ∧ wr.cell? ⟨b, off + k * 3 + 2, none⟩ = some (.string row) ∧
      Calls Tryz.prog 25 #[.pointer (some ⟨hb2, 0, none⟩), v2, .agg #[.int .i64 kd, .int .i64 at_, .string row]] wr fun e w2 => ∃ v', e = .returned (.tuple #[v', .bool true]) ∧ Hid (KpU w a' d s hb v b2 hb2 v' (k + 1) w2)) := Lib.hid fun a' d s hb v b2 hb2 v2 k wr hn I hk => I.does hS hF hn hk
  obtain ⟨n, hn⟩ : ∃ n, n = xs.length := ⟨_, rfl⟩
  rw [← hn] at HDO HDU ⊢
  clear hS hF hT hn
  go_enter Tryz.func4, Tryz.ntmps4
  go_wp2_with fail
  refine HBG.out.mono ?_
  rintro e w1 ⟨c, S, rfl, hf, hb1, hz⟩
  have HF := Lib.hid hf
  have HB1 := Lib.hid hb1
  have HZ := Lib.hid hz
  clear HBG hf hb1 hz
  by_cases hn1 : n ≤ 800
  case neg =>
    have f1 : (800 : Int) < (n : Int) := by omega
    have HAW := Lib.hid (awake_any w1 (HT.out.below HB1.out HT.out.1))
    go_wp2_with fail
    refine HAW.out.mono ?_
    rintro e w2 ⟨rfl, hb⟩
    have HE := Lib.hid (HB1.out.trans (hb.mono HB1.out.size))
    clear HAW hb
    go_wp2
    go_ret
    exact ⟨rfl, HE.out⟩
  have f1 : ¬ (800 : Int) < (n : Int) := by omega
  go_wp2_with fail
  refine (hl_new HF.out 3 (by omega)).mono ?_
  rintro e w2 ⟨hb, rfl, h2, -, hb2⟩
  have HI0 : Hid (PlyI c hb 3 w (.slice none 0 0) 0 w2) := Lib.hid ⟨S, [], 0, ⟨h2, RwV.nil_ _, fun g hg => by simp [Value.ownBlock] at hg, Nat.le_refl _⟩, Nat.le_refl _, HB1.out.trans (hb2.mono HB1.out.size)⟩
  have HC := Lib.hid HF.out.2
  clear h2 hb2 HF HB1
  have hX := tmod_in kp n
  obtain ⟨X, hXe⟩ : ∃ X, kp.tmod ((n : Int) + 1) = X := ⟨_, rfl⟩
  rw [hXe] at hX
  have hM1 : ¬ ((n : Int) + 1 = 0) := by omega
  go_upto_if 58 with fail
  go_cut [11] (fun x wx => (∃ m : Nat, m ≤ n ∧ x = .int .i64 m) ∧ w2 = wx)
  case first =>
    go_wp2_with fail
    all_goals go_meet
    all_goals first
      | exact ⟨⟨X.toNat, by omega, by congr 1; omega⟩, rfl⟩
      | exact ⟨⟨(-X).toNat, by omega, by congr 1; omega⟩, rfl⟩
  case rest =>
    obtain ⟨⟨m, hm, rfl⟩, rfl⟩ := hcut
    clear hX hXe hM1
    go_wp2
    go_loopw [12, 13] (fun v i wr => ∃ (k : Nat) (A0 : Option Addr) (L0 c0 : Nat), k ≤ m ∧ v = .slice A0 L0 c0 ∧ i = .int .i64 k ∧ Hid (PlyI c hb 3 w (.slice A0 L0 c0) k wr)) (fun _ i _ => m - (intOf i).toNat)
    case atStart => exact ⟨0, none, 0, 0, by omega, rfl, rfl, HI0⟩
    case round =>
      obtain ⟨k, A0, L0, c0, hk, rfl, rfl, HI⟩ := hrel
      by_cases hkn : k < m
      · obtain ⟨b, off, kd, at_, row, rfl, d0, d1, d2, hdo⟩ := HDO.out c hb _ k wr hn1 HI.out (by omega)
        have HD := Lib.hid hdo
        have f1 : (k : Int) < (m : Int) := by omega
        have f2 : (k : Int) < (n : Int) := by omega
        clear hdo HI HI0 HDO HDU
        go_wp2_with fail
        refine HD.out.mono ?_
        rintro e w3 ⟨v', rfl, HI2⟩
        obtain ⟨A', L', c', rfl⟩ := HI2.out.shape
        clear HD d0 d1 d2
        go_wp2
        go_roundw
        case rel => exact ⟨k + 1, A', L', c', by omega, rfl, by go_num, HI2⟩
        case measure => simp [intOf]; omega
      · obtain rfl : k = m := by omega
        have f1 : ¬ (k : Int) < (k : Int) := by omega
        have HCM := Lib.hid (HI.out.commit HZ.out HC.out (by omega) HT.out)
        clear HI HI0 HDO HC HZ
        go_wp2_with fail
        refine HCM.out.mono ?_
        rintro e w3 ⟨rfl, HBN⟩
        clear HCM
        go_wp2_with fail
        refine HBN.out.mono ?_
        rintro e w4 ⟨b2, rfl, HNW⟩
        clear HBN
        go_wp2_with fail
        refine HNW.out.mono ?_
        rintro e w5 ⟨hb2, rfl, HU0⟩
        clear HNW
        go_wp2
        go_loopw [18, 19] (fun v2 i wr => ∃ (j : Nat) (A2 : Option Addr) (L2 c2 : Nat), k ≤ j ∧ j ≤ n ∧ v2 = .slice A2 L2 c2 ∧ i = .int .i64 j ∧ Hid (KpU w c.a c.d c.s hb (.slice A0 L0 c0) b2 hb2 (.slice A2 L2 c2) j wr)) (fun _ i _ => n - (intOf i).toNat)
        case atStart => exact ⟨k, A0, L0, c0, by omega, by omega, rfl, rfl, HU0⟩
        case round =>
          obtain ⟨j, A2, L2, c2, hkj, hj, rfl, rfl, HU⟩ := hrel
          by_cases hjn : j < n
          · obtain ⟨b, off, kd, at_, row, rfl, d0, d1, d2, hdo⟩ := HDU.out _ _ _ _ _ _ _ _ j wr hn1 HU.out hjn
            have HD := Lib.hid hdo
            have f2 : (j : Int) < (n : Int) := by omega
            clear hdo HU HU0 HDU
            go_wp2_with fail
            refine HD.out.mono ?_
            rintro e w6 ⟨v', rfl, HU2⟩
            obtain ⟨A', L', c', rfl⟩ := HU2.out.shape
            clear HD d0 d1 d2
            go_wp2
            go_roundw
            case rel => exact ⟨j + 1, A', L', c', by omega, by omega, rfl, by go_num, HU2⟩
            case measure => simp [intOf]; omega
          · obtain rfl : j = n := by omega
            have f2 : ¬ (j : Int) < (j : Int) := by omega
            have HO := Lib.hid (HU.out.open_ HT.out)
            clear HU HU0 HDU
            go_wp2_with fail
            refine HO.out.mono ?_
            rintro e w6 ⟨y, rfl, H1⟩
            clear HO
            go_wp2_with fail
            refine H1.out.mono ?_
            rintro e w7 ⟨b3, rfl, H2⟩
            clear H1
            go_wp2_with fail
            refine H2.out.mono ?_
            rintro e w8 ⟨hb3, rfl, H3⟩
            clear H2
            go_wp2_with fail
            refine H3.out.mono ?_
            rintro e w9 ⟨rfl, H4⟩
            clear H3
            go_wp2_with fail
            refine H4.out.mono ?_
            rintro e w10 ⟨rfl, H5⟩
            clear H4
            go_wp2_with fail
            refine H5.out.mono ?_
            rintro e w11 ⟨rfl, hb⟩
            have HE := Lib.hid hb
            clear H5 hb
            go_wp2
            go_ret
            exact ⟨rfl, HE.out⟩
end Go.Proofs.YtijggofelepaaaaGreatDoor

set_option maxRecDepth 100000
namespace Go.Proofs.YtijggofelepaaaaGreatDoor
open Go Go.ChangeShapes Go.WideShapes Go.ChangeAt Go.RowKit

theorem heapKept_met (os : Os) (args : Array Value) : laidMetH Tryz.prog listed ((World.doorLaid Tryz.prog 4000 os).forCall (fun _ _ => 0) ⟨#[], args, []⟩).memory :=
  laidMetH_of_parts3 (fuel := 8) (laidMet_of_run' 8 (by kernel_rfl) (by kernel_rfl)) (by kernel_rfl) (by kernel_rfl)

set_option maxHeartbeats 1600000 in
theorem heapKept_lifted (os : Os) (started : os.Started) (H : Type) (enc : TypeId × Value → H) :
    ReturnsInHanded {} Tryz.checked os 4 .any (fun w args => (Rows.heapKeptSpec.pre enc Tryz.prog Tryz.f4 [] false w args ∧ laidMetH Tryz.prog listed w) ∧ sizedMet enc Tryz.prog Tryz.f4 (OpenSpec.ofChange Rows.heapKeptSpec) false w args)
      (Rows.heapKeptSpec.post enc Tryz.prog Tryz.f4 false true false false) := by
  refine returnsInHanded_of_change_and (C := Tryz.checked) (X := fun w _ => laidMetH Tryz.prog listed w) (fun _ _ _ hh h => h.of_heap hh) ownS started (by kernel_rfl) Tryz.func4
    (ChangeSpec.witness_shaped (enc := enc) (C := Tryz.checked) (os := os) (X := fun w _ => laidMetH Tryz.prog listed w) false (World.doorLaid Tryz.prog 4000 os) #[.slice none 0 0, .int .i64 0] 8 rfl (World.shaped_of_RefB (by kernel_rfl) (by kernel_rfl)) (by kernel_rfl) (by kernel_rfl) (by kernel_rfl) (heapKept_met os _)) ?_
  intro W base args ds gs before hval0 hW _ hsz0 hL _
  have hval : ∀ (j : Nat) t v, Tryz.f4.params[j]? = some t → args[j]? = some v → Value.okWide Tryz.prog W .any base t v := hval0
  have hsz : (DataW.weightsEach Tryz.prog (Tryz.f4.params.toList ++ Rows.heapKeptSpec.plain.varTypes Tryz.prog) (ds ++ gs)).all (· ≤ reachBytes) = true := hsz0
  have hW' := hW
  obtain ⟨p, q, hA0, hV, rfl, hfz, hnd⟩ := hW
  have hA : DataW.TrodAll enc Tryz.prog W 0 (fun _ => true) true Tryz.f4.params.toList args.toList ds p := hA0
  rw [Tryz.params4] at hA hval hsz
  obtain ⟨v0, v1, d0, d1, p0, p1, rfl, rfl, rfl, h0, h1⟩ := trodAll_two hA
  obtain ⟨rfl, rfl⟩ := trodVars_none hV
  obtain ⟨a1, xs1, lc1, rfl, hS1, hF1⟩ := open_ops7 (hval 0 67 v0 rfl rfl) h0
  obtain ⟨kp, rfl, rfl, rfl, wa⟩ := open_int Tryz.underlying3 (hval 1 3 v1 rfl rfl) h1
  clear hA0 hval0 hsz0
  simp only [List.append_nil] at hW'
  have hlt1 : ∀ x ∈ p0, x.block < W.heap.size := fun x hx => hW'.lt x (by simp [hx])
  refine (heapKept_walk a1 xs1 lc1 kp W (laid_of hL) hS1 hF1).mono fun e W' ⟨he, hb⟩ => ?_
  subst he
  refine ⟨_, rfl, _, _, _, [], p0, [], hW', ?_, ?_, ?_, hb.frame _, fun h => by cases h⟩
  · exact trodAll_mk1 (shut_bool Tryz.underlying4 _)
  · have h := trodAll_mk2 (Below.trod laidOut readRecOps (of_decide_eq_true (by kernel_rfl)) h0 hb hlt1) (shut_int Tryz.underlying3 wa)
    simp only [List.append_nil] at h
    exact h
  · rfl

theorem heapKept_said : Rows.HeapKeptSaid :=
  OpenClaim.holds_of_wide 4 Tryz.f4 rfl rfl rfl rfl rfl rfl rfl ⟨rfl, rfl, rfl, rfl, rfl⟩ rfl rfl rfl rfl rfl (by kernel_rfl) Tryz.func4 (by kernel_rfl)
    (of_decide_eq_true (by kernel_rfl)) (by unfold Func.isWrapper; rw [if_neg (of_decide_eq_false (by kernel_rfl))]; exact ⟨rfl, rfl⟩)
    (fun os started H enc _ => heapKept_lifted os started H enc)

theorem heapKept_holds : Rows.HeapKeptCardSaid :=
  Claim7.holds_tied_plain_at .later [] [.data] true (true, "3c034a4557810e19f86b5ed09d73e72f6f8cf53b0af36773a1f530690163dbac") false
    heapKept_said (fun _ h => by cases h) (by kernel_rfl) (fun _ h => by cases h) heapKept_row_tie rfl ⟨rfl, rfl⟩ (by kernel_rfl) rfl
    (fun f fn hf hfn => by
      obtain rfl : f = 4 := Option.some.inj ((show Tryz.prog.funcNamed "vestibule/vestibulelaw07.HeapKept" = some 4 by kernel_rfl).symm.trans hf) |>.symm
      obtain rfl : fn = Tryz.f4 := (Option.some.inj (Tryz.func4.symm.trans hfn)).symm
      exact ⟨by kernel_rfl, fun j t ht => by
        rw [Tryz.params4] at ht
        have hm : t ∈ [67, 3] := List.mem_of_getElem? (by simpa using ht)
        have hall : ∀ t ∈ [67, 3], Tryz.prog.wantsStandIn t = false := by
          intro t ht
          simp only [List.mem_cons, List.not_mem_nil, or_false] at ht
          rcases ht with rfl | rfl <;> kernel_rfl
        exact hall t hm⟩)
    (by kernel_rfl)
#print axioms heapKept_holds
end Go.Proofs.YtijggofelepaaaaGreatDoor
