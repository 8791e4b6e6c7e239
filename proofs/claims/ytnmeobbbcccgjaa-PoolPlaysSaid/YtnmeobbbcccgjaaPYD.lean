/- The law's loop over a script: the pool and the law's pages go in step. -/
import Derived.Test.YtnmeobbbcccgjaaPYC
set_option maxRecDepth 100000
namespace Go.Proofs.Ytnmeobbbcccgjaa
open Go Go.RowKit

theorem pageOf_nil (q : Nat) : pageOf [] q = List.replicate 512 0 := by simp [pageOf]

/-- At the script's beginning. -/
theorem both_start (B p d n N : Nat) (S : Nat → Prop) (w : World) (h : PoolSt B S p d n (fun q => pageOf (play [] 1) q) (fun _ => 0) N w) :
    Both B S (fun k => k = w.heap.size) p d w.heap.size n [] (fun q => pageOf (play [] 1) q) (fun _ => 0) N (w.alloc (.cells #[.int .i64 n, .slice none 0 0, .slice none 0 0, .slice none 0 0] 34)) := by
  refine ⟨h.below ((Below.refl _ _).alloc (Nat.le_refl _) _), ⟨.slice none 0 0, .slice none 0 0, .slice none 0 0, [], rfl, heap_alloc_new w _, World.ownsRow_nil _ _ _ _, World.ownsRow_nil _ _ _ _, World.ownsRow_nil _ _ _ _, (fun i b e hb => by simp at hb), List.nodup_nil, (fun k hk => by simp [Value.ownBlock] at hk), (fun k hk => by simp [Value.ownBlock] at hk), (fun k hk => by simp [Value.ownBlock] at hk), (fun b hb => by simp at hb), (fun k hk => by simp [Value.ownBlock] at hk)⟩, fun k hs ht => ?_, fun k hk => ?_, ⟨List.nodup_nil, (fun e he => by simp at he), fun q _ => ⟨rfl, pageOf_nil q⟩⟩⟩
  · have := h.low k hs; omega
  · have := h.size
    simp; omega

/-- One operation of a script, where it lies. -/
theorem op_cells {w : World} {a : Option Addr} {xs : List It} (h : Sl w a xs) {j : Nat} {x : It} (hj : xs[j]? = some x) : ∃ b off, a = some ⟨b, off, none⟩ ∧ b < w.heap.size ∧ w.cell? ⟨b, off + j * 4, none⟩ = some (.int .i64 x.k) ∧ w.cell? ⟨b, off + j * 4 + 1, none⟩ = some (.int .i64 x.f) ∧ w.cell? ⟨b, off + j * 4 + 2, none⟩ = some (.int .i64 x.n) ∧ w.cell? ⟨b, off + j * 4 + 3, none⟩ = some (.string x.s) := by
  obtain ⟨hl, hx⟩ := List.getElem?_eq_some_iff.1 hj
  rcases h with rfl | ⟨b, off, ha, hb, hc⟩
  · simp at hl
  · have := hc j hl
    rw [hx] at this
    exact ⟨b, off, ha, hb, this⟩

section
variable {T : Nat → Prop} {g n : Nat} {L : List Pg} {w : World}
theorem PgAt.page (h : PgAt T g n L w) {i : Nat} {e : Pg} (hi : L[i]? = some e) : ∃ b c, w.cell? ⟨g, 1, none⟩ = some (.slice (some ⟨b, 0, none⟩) L.length c) ∧ L.length ≤ c ∧ w.cell? ⟨b, i, none⟩ = some (.int .i64 e.page) := by
  obtain ⟨va, vb, vp, bs, h⟩ := h
  have hil : i < L.length := (List.getElem?_eq_some_iff.1 hi).1
  have c1 := h.c1
  obtain ⟨a, c, rfl, hlc, hsh⟩ := row_shape h.at_
  rcases hsh with h0 | ⟨b, rfl, _, _, hc, _⟩
  · omega
  · exact ⟨b, c, c1, hlc, hc i _ (by simp [natVals, hi])⟩
theorem PgAt.lenCell (h : PgAt T g n L w) : ∃ a c, w.cell? ⟨g, 1, none⟩ = some (.slice a L.length c) := by
  obtain ⟨va, vb, vp, bs, h⟩ := h
  have c1 := h.c1
  obtain ⟨a, c, rfl, _, _⟩ := row_shape h.at_
  exact ⟨a, c, c1⟩
end

/-- Another pool on the disk that a Flush has left: it tells the same pages, and pins none. -/
theorem second_pool {B p d n N : Nat} {S T : Nat → Prop} {C : Nat → List UInt8} {P : Nat → Nat} {L : List Pg} {g : Nat} {w w1 w2 : World} {p2 fb2 mb2 : Nat} (h : Both B S T p d g n L C P N w) (hG : PoolG p2 d fb2 mb2 2 0 0 (fun _ => none) w1) (hp : w.heap.size ≤ p2 ∧ w.heap.size ≤ fb2 ∧ w.heap.size ≤ mb2) (hb : Below w.heap.size w w1)
    {S' : Nat → Prop} (ht : Turn S w1 S' w2) {Sd : Nat → Prop} {ops : List RawOp} (hd : DiskAt Sd d ops w2) (hs : ∀ k, Sd k → S' k) (hl : ops.length ≤ N) (hC : ∀ q, C q = pageOf (play ops 1) q) (hS' : ∀ k, S' k → B ≤ k ∧ k < w2.heap.size) :
    ∃ Sy, PoolSt B Sy p2 d 2 C (fun _ => 0) N w2 ∧ PgAt T g n L w2 ∧ (∀ k, Sy k → ¬ T k) ∧ ∀ k, T k → B ≤ k ∧ k < w2.heap.size := by
  have hlt : ∀ k, S k → k < w.heap.size := fun k hk => (h.st.low k hk).2
  have hn : ∀ k, w.heap.size ≤ k → ¬ S k := fun k hk hs => by have := hlt k hs; omega
  have hp2 := hG.lt; have hfb2 := hG.ltF; have hmb2 := hG.ltM
  have hnd : ∀ k, w.heap.size ≤ k → k < w1.heap.size → ¬ Sd k := fun k hk hk1 hsd => hn k hk (ht.2 k hk1 (hs k hsd))
  have hG2 := hG.kept ht.1 (hn p2 hp.1) (hn fb2 hp.2.1) (hn mb2 hp.2.2)
  have hBw := h.low1
  have hsz := ht.1.size
  refine ⟨fun k => Sd k ∨ k = p2 ∨ k = fb2 ∨ k = mb2, ⟨fb2, mb2, 0, 0, fun _ => none, Sd, ops, hG2, ⟨by omega, fun i => ⟨fun hi => by omega, (fun ⟨f, hf⟩ => by cases hf)⟩⟩, hd, ⟨(fun i f hf => by cases hf), fun q _ => ⟨hC q, rfl⟩, by rw [chg_none]; omega, fun q => by omega⟩, ⟨hnd p2 hp.1 hp2, hnd fb2 hp.2.1 hfb2, hnd mb2 hp.2.2 hmb2⟩, fun k hk => hk, ?_⟩, (h.pg.below hb).kept ht.1 (fun k _ hT hS => h.dis k hS hT), ?_, fun k hk => ⟨(h.low k hk).1, ?_⟩⟩
  · rintro k (hk | rfl | rfl | rfl)
    · exact hS' k (hs k hk)
    · exact ⟨by omega, by omega⟩
    · exact ⟨by omega, by omega⟩
    · exact ⟨by omega, by omega⟩
  · rintro k hk hT
    have hTw := (h.low k hT).2
    have hb1 := hb.size
    rcases hk with hk | rfl | rfl | rfl
    · exact h.dis k (ht.2 k (by omega) (hs k hk)) hT
    · omega
    · omega
    · omega
  · have hTw := (h.low k hk).2
    have hb1 := hb.size
    omega
end Go.Proofs.Ytnmeobbbcccgjaa
