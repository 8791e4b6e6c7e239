/- A sorter in memory; given, refuses, New, Runs. -/
import Derived.Test.YtgegljbocacdnaaNA
set_option maxRecDepth 100000
namespace Go.Proofs.Ytgegljbocacdnaa
open Go.RowKit

theorem infoStrs : (Try.prog.info? 22).map (fun i => (i.zero, i.size, i.bytes)) = some (some (.slice none 0 0), 1, 24) := by kernel_rfl
theorem sizeSorter : (Try.prog.info? 42).map (·.size) = some 6 := by kernel_rfl

def soCells (s room tk : Nat) (hv rv : Value) (over : Bool) : Array Value := #[.pointer (some ⟨s, 0, none⟩), .int .i64 room, .int .i64 tk, hv, rv, .bool over]
/-- A sorter lies at block s: what is in hand, and the runs. -/
structure SoAt (B s room tk : Nat) (hv rv : Value) (vs : List Value) (hand : List ByteArray) (rss : List (List ByteArray)) (over : Bool) (w : World) : Prop where
  blk : w.heap[s]? = some (.cells (soCells s room tk hv rv over) 42 (0, 0))
  hand : Strs B w hv hand
  runs : w.ownsRow B 22 1 rv vs.length vs
  len : vs.length = rss.length
  each : ∀ (j : Nat) (v : Value) (l : List ByteArray), vs[j]? = some v → rss[j]? = some l → Strs B w v l ∧ (v.ownBlock = none ∨ v.ownBlock ≠ hv.ownBlock)
  ge : B ≤ s
section
variable {B s room tk : Nat} {hv rv : Value} {vs : List Value} {hand : List ByteArray} {rss : List (List ByteArray)} {over : Bool} {w w' : World}
theorem SoAt.lt (h : SoAt B s room tk hv rv vs hand rss over w) : s < w.heap.size := (Array.getElem?_eq_some_iff.1 h.blk).1
theorem SoAt.cell (h : SoAt B s room tk hv rv vs hand rss over w) (i : Nat) : w.cell? ⟨s, i, none⟩ = (soCells s room tk hv rv over)[i]? := Lib.cell_of_heap h.blk i
theorem SoAt.below (h : SoAt B s room tk hv rv vs hand rss over w) (hb : Below w.heap.size w w') : SoAt B s room tk hv rv vs hand rss over w' :=
  ⟨(hb.block s h.lt).trans h.blk, h.hand.below hb, ownsRow_below h.runs hb, h.len, fun j v l h1 h2 => ⟨(h.each j v l h1 h2).1.below hb, (h.each j v l h1 h2).2⟩, h.ge⟩
end

theorem eql_nil_so (w : World) (a : Addr) : (binOp .eql 23 (.pointer none) (.pointer (some a))).run Try.prog w = .ok (.bool false) w := by
  have h : ∀ d : Nat, (Op.equalIn (d + 1) 23 (.pointer none) (.pointer (some a))).run Try.prog w = .ok false w := fun d => by
    simp [Op.equalIn, run_underlying Try.underlying23, sizeOf, typeInfo]
  simp only [binOp]
  simp [Op.equal, Op.maxDepth, h 9999]

set_option maxHeartbeats 400000 in
theorem soGiven_nil (w : World) : Calls Try.prog 21 #[.pointer none] w fun e w' => e = .returned (.bool false) ∧ w = w' := by
  go_enter Try.func21, Try.ntmps21
  go_wp2
  go_ret
  exact ⟨rfl, rfl⟩
set_option maxHeartbeats 400000 in
theorem soGiven_self (s : Nat) (w : World) (h : w.cell? ⟨s, 0, none⟩ = some (.pointer (some ⟨s, 0, none⟩))) :
    Calls Try.prog 21 #[.pointer (some ⟨s, 0, none⟩)] w fun e w' => e = .returned (.bool true) ∧ w = w' := by
  obtain ⟨j, hj, _⟩ := Option.map_eq_some_iff.1 sizeSorter
  have hq := run_eql_ptr_same (P := Try.prog) w (tp := 23) (te := 42) ⟨s, 0, none⟩ Try.underlying23 hj
  go_enter Try.func21, Try.ntmps21
  go_wp2
  go_ret
  exact ⟨rfl, rfl⟩
set_option maxHeartbeats 400000 in
theorem soGiven_zero (s : Nat) (w : World) (h : w.cell? ⟨s, 0, none⟩ = some (.pointer none)) :
    Calls Try.prog 21 #[.pointer (some ⟨s, 0, none⟩)] w fun e w' => e = .returned (.bool false) ∧ w = w' := by
  have hq := eql_nil_so w ⟨s, 0, none⟩
  go_enter Try.func21, Try.ntmps21
  go_wp2
  go_ret
  exact ⟨rfl, rfl⟩

/-- A sorter that New did not give. -/
def NoSo (p : Value) (w : World) : Prop := p = .pointer none ∨ ∃ s, p = .pointer (some ⟨s, 0, none⟩) ∧ s < w.heap.size ∧ w.cell? ⟨s, 0, none⟩ = some (.pointer none)
theorem NoSo.below {p : Value} {w w' : World} (h : NoSo p w) (hb : Below w.heap.size w w') : NoSo p w' := by
  rcases h with h | ⟨s, h1, h2, h3⟩
  · exact .inl h
  · exact .inr ⟨s, h1, Nat.lt_of_lt_of_le h2 hb.size, (hb.cell (p := ⟨s, 0, none⟩) h2).trans h3⟩
theorem soGiven_no (p : Value) (w : World) (h : NoSo p w) : Calls Try.prog 21 #[p] w fun e w' => e = .returned (.bool false) ∧ w = w' := by
  rcases h with rfl | ⟨s, rfl, _, h⟩
  · exact soGiven_nil w
  · exact soGiven_zero s w h
set_option maxHeartbeats 400000 in
theorem soRefuses_no (p : Value) (w : World) (h : NoSo p w) : Calls Try.prog 18 #[p] w fun e w' => e = .returned (.int .i64 1) ∧ w = w' := by
  have HG := Lib.hid (soGiven_no p w h); clear h
  go_enter Try.func18, Try.ntmps18
  go_wp2_with fail
  refine HG.out.mono ?_
  rintro e w1 ⟨rfl, rfl⟩
  go_wp2
  go_ret
  exact ⟨rfl, rfl⟩
set_option maxHeartbeats 400000 in
theorem soRefuses_at (s : Nat) (b : Bool) (w : World) (h : w.cell? ⟨s, 0, none⟩ = some (.pointer (some ⟨s, 0, none⟩))) (h5 : w.cell? ⟨s, 5, none⟩ = some (.bool b)) :
    Calls Try.prog 18 #[.pointer (some ⟨s, 0, none⟩)] w fun e w' => e = .returned (.int .i64 (if b then 5 else 0)) ∧ w = w' := by
  have HG := Lib.hid (soGiven_self s w h); clear h
  cases b with
  | false =>
    go_enter Try.func18, Try.ntmps18
    go_wp2_with fail
    refine HG.out.mono ?_
    rintro e w1 ⟨rfl, rfl⟩
    go_wp2
    go_ret
    exact ⟨rfl, rfl⟩
  | true =>
    go_enter Try.func18, Try.ntmps18
    go_wp2_with fail
    refine HG.out.mono ?_
    rintro e w1 ⟨rfl, rfl⟩
    go_wp2
    go_ret
    exact ⟨rfl, rfl⟩
set_option maxHeartbeats 400000 in
theorem soNew_bad (room : Int) (w : World) (h : room < 1 ∨ 65536 < room) : Calls Try.prog 9 #[.int .i64 room] w fun e w' => e = .returned (.tuple #[.pointer none, .int .i64 1]) ∧ w = w' := by
  rcases (by omega : room < 1 ∨ (1 ≤ room ∧ 65536 < room)) with h | ⟨h1, h⟩
  all_goals
    go_enter Try.func9, Try.ntmps9
    go_wp2
    go_ret2
    exact ⟨rfl, rfl⟩
set_option maxHeartbeats 800000 in
theorem soNew_ok (room : Nat) (w : World) (h1 : 1 ≤ room) (h2 : room ≤ 65536) : Calls Try.prog 9 #[.int .i64 room] w fun e w' => e = .returned (.tuple #[.pointer (some ⟨w.heap.size, 0, none⟩), .int .i64 0]) ∧ SoAt w.heap.size w.heap.size room 0 (.slice none 0 0) (.slice none 0 0) [] [] [] false w' ∧ Below w.heap.size w w' := by
  have i1 : (1 : Int) ≤ room := by omega
  have i2 : (room : Int) ≤ 65536 := by omega
  go_enter Try.func9, Try.ntmps9
  go_wp2
  go_ret2
  refine ⟨rfl, ⟨heap_alloc_new w _, World.ownsRow_nil _ _ _ _, World.ownsRow_nil _ _ _ _, rfl, fun j v l h => by simp at h, Nat.le_refl _⟩, (Below.refl _ _).alloc (Nat.le_refl _) _⟩
end Go.Proofs.Ytgegljbocacdnaa
