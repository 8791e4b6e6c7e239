/- HeapStays: for every number and every list of texts, the law answers true, and each argument reads afterwards as it read before. Conditions: the package variable that the row lists starts as the program's text lays it (the card ties it). -/
import Derived.Test.YtjhdfpchoepkaaaGreatDoorMAT
import Derived.Deep.CutRange
import Derived.Test.YtjhdfpchoepkaaaGreatDoorCards
import Derived.Test.YtjhdfpchoepkaaaGreatDoorTie
import Derived.ChangeMaps5
import Derived.SliceStrings
import Derived.ProofKit
import Derived.Deep.Slices
import Derived.SevenTiedAt
/- Rows of addresses beside a heap: one that only grows, one whose head is dropped; the list without a row that came and went. -/
set_option maxRecDepth 100000
namespace Go.Proofs.YtjhdfpchoepkaaaGreatDoor
open Go Go.RowKit

section
variable {J : List RawOp → Prop} {B : Nat} {S S' : Nat → Prop} {c : Ac} {w w' : World} {hb r : Nat} {l : List Rw} {m : Nat}
theorem HpL.kept {T : Nat → Prop} (x : HpL J B c hb r S l m w) (hk : Kept T w w') (hT : ∀ k, T k → k < w.heap.size → ¬ S k ∧ 1 ≤ k ∧ k ≠ hb) : HpL J B c hb r S l m w' := by
  obtain ⟨L, ⟨h, G, hA, ht, hS, hs⟩, y⟩ := x
  exact ⟨L, ⟨h, G, hA.kept hk (fun k h1 h2 => ⟨(hT k h1 h2).1, (hT k h1 h2).2.1⟩), ht.kept hk (fun h1 => (hT hb h1 ht.lt).2.2 rfl), hS, hs⟩, y⟩
theorem HpL.lt (x : HpL J B c hb r S l m w) : hb < w.heap.size := by
  obtain ⟨L, ⟨h, G, hA, ht, hS, hs⟩, y⟩ := x
  exact ht.lt
theorem HpL.blk (x : HpL J B c hb r S l m w) : ∀ k, S k → k < w.heap.size := by
  obtain ⟨L, ⟨h, G, hA, ht, hS, hs⟩, y⟩ := x
  exact fun k hk => (hA.low k hk).2
end

/-- Numbers in a row, wherever it begins; its spare cells are there. -/
def TailI (w : World) (v : Value) (xs : List Nat) : Prop := (v = .slice none 0 0 ∧ xs = []) ∨
  ∃ g o cap, v = .slice (some ⟨g, o, none⟩) xs.length cap ∧ xs.length ≤ cap ∧ g < w.heap.size ∧ (∀ j, j < cap → (w.cell? ⟨g, o + j, none⟩).isSome = true ∧ w.frozen? ⟨g, o + j, none⟩ = false) ∧ ∀ j x : Nat, xs[j]? = some x → w.cell? ⟨g, o + j, none⟩ = some (.int .i64 (x : Int))
section
variable {w w' : World} {v : Value} {xs : List Nat}
theorem TailI.nil (w : World) : TailI w (.slice none 0 0) [] := Or.inl ⟨rfl, rfl⟩
theorem TailI.kept {T : Nat → Prop} (h : TailI w v xs) (hk : Kept T w w') (hT : ∀ g, v.ownBlock = some g → ¬ T g) : TailI w' v xs := by
  rcases h with h | ⟨g, o, cap, rfl, h1, h2, h3, h4⟩
  · exact Or.inl h
  · have hb := hk.block g h2 (hT g rfl)
    exact Or.inr ⟨g, o, cap, rfl, h1, Nat.lt_of_lt_of_le h2 hk.size, fun j hj => ⟨by rw [World.cell?_of_block (a := ⟨g, o + j, none⟩) hb]; exact (h3 j hj).1, by rw [World.frozen?_of_block (a := ⟨g, o + j, none⟩) hb]; exact (h3 j hj).2⟩, fun j x hx => by rw [World.cell?_of_block (a := ⟨g, o + j, none⟩) hb]; exact h4 j x hx⟩
theorem TailI.lt (h : TailI w v xs) : ∀ g, v.ownBlock = some g → g < w.heap.size := by
  rcases h with ⟨rfl, _⟩ | ⟨g, o, cap, rfl, h1, h2, h3, h4⟩
  · intro g hg; simp [Value.ownBlock] at hg
  · intro k hk; simp only [Value.ownBlock, Option.some.injEq] at hk; omega
theorem TailI.shape (h : TailI w v xs) : ∃ a c, v = .slice a xs.length c := by
  rcases h with ⟨rfl, rfl⟩ | ⟨g, o, cap, rfl, _⟩
  · exact ⟨none, 0, rfl⟩
  · exact ⟨_, _, rfl⟩
theorem tail_own {b : Nat} {n : Nat} {ys : List Value} (h : w.ownsRow b 3 1 v n ys) (hn : n = xs.length) (hy : ys = xs.map fun k : Nat => Value.int .i64 (k : Int)) : TailI w v xs := by
  subst hn hy
  rcases h.2 with ⟨rfl, h0⟩ | ⟨g, cap, cur, rfl, _, hh, h1, h2, h3, h4⟩
  · exact Or.inl ⟨rfl, List.eq_nil_of_length_eq_zero h0⟩
  · have hlt : g < w.heap.size := (Array.getElem?_eq_some_iff.1 hh).1
    refine Or.inr ⟨g, 0, cap, rfl, h1, hlt, fun j hj => ⟨?_, ?_⟩, fun j x hx => ?_⟩
    · rw [Lib.cell_of_heap hh, Nat.zero_add, Array.getElem?_eq_getElem (by omega)]; rfl
    · unfold World.frozen?
      simp [hh]
    · have hj : j < xs.length := (List.getElem?_eq_some_iff.1 hx).1
      rw [Lib.cell_of_heap hh, Nat.zero_add]
      have e : (cur.toList.take (xs.length * 1))[j]? = some (.int .i64 (x : Int)) := by
        rw [h4, List.getElem?_map, hx]; rfl
      rw [List.getElem?_take_of_lt (by omega)] at e
      simpa using e
theorem kept_setCells (w : World) (g o : Nat) (v : Value) : Kept (fun k => k = g) w (w.setCells g o [v]) :=
  Kept.setCell (fun k => k = g) w (b := g) (i := o) rfl v
/-- One more. -/
theorem tail_push (h : TailI w v xs) (hl : xs.length ≤ 1000) (x : Nat) (ty : TypeId) :
    ∃ v' w', (Builtin.append_ #[57, 57] ty #[v, .slice (some ⟨w.heap.size, 0, none⟩) 1 1]).run Tryz.prog (w.alloc (.cells #[.int .i64 x] 3)) = .ok v' w' ∧ TailI w' v' (xs ++ [x]) ∧ Kept (fun k => v.ownBlock = some k) w w' ∧ ∀ k, v'.ownBlock = some k → v.ownBlock = some k ∨ w.heap.size ≤ k := by
  obtain ⟨i0, hi, q0, q1, q2⟩ := info_parts infoInt
  have hn := heap_alloc_new w (.cells #[.int .i64 x] 3)
  have hkA : Kept (fun _ => False) w (w.alloc (.cells #[.int .i64 x] 3)) := Kept.ofBelow ((Below.refl _ _).alloc (Nat.le_refl _) _)
  have hnews : ∀ j u, [Value.int .i64 (x : Int)][j]? = some u → (w.alloc (.cells #[.int .i64 x] 3)).cell? ((⟨w.heap.size, 0, none⟩ : Addr).add j) = some u := fun j u hu => by
    match j, hu with
    | 0, hu => rw [Addr.add_lit, Nat.zero_add, Lib.cell_of_heap hn]; simpa using hu
    | j + 1, hu => simp at hu
  have hone : ∀ u ∈ [Value.int .i64 (x : Int)], u.oneCell' = true := fun u hu => by rw [List.mem_singleton] at hu; subst hu; rfl
  have hA := h.kept hkA (fun _ _ h => h)
  rcases h with ⟨rfl, rfl⟩ | ⟨g, o, cap, rfl, h1, h2, h3, h4⟩
  · obtain ⟨v', w', hr, hN, hG⟩ := nums_push w (.slice none 0 0) [] x (NumsI.nil w) (by simp) ty
    refine ⟨v', w', hr, tail_own hN rfl rfl, ⟨hG.1.os, hG.1.tape, hG.1.output, ?_, fun k hk _ => ?_⟩, fun k hk => ?_⟩
    · have := hG.1.size; simp at this; omega
    · exact (hG.1.block k (by simp; omega) (by simp [Value.ownBlock])).trans (Below.heap_alloc w _ k hk)
    · rcases hG.2 k hk with h | h
      · exact .inl h
      · exact .inr (by simp at h; omega)
  · rcases Nat.lt_or_ge cap (xs.length + 1) with hc | hc
    · obtain ⟨v', w', hr, hN, hG⟩ := run_append_arg_grows (P := Tryz.prog) (w.alloc (.cells #[.int .i64 x] 3)) 57 ty 3 i0 (.int .i64 0) 1 8 Tryz.underlying57 hi q0 q1 q2 rfl (by decide) ⟨g, o, none⟩ xs.length cap (xs.map fun k : Nat => Value.int .i64 (k : Int)) (by simp) (fun j u hu => by
        rw [List.getElem?_map] at hu
        obtain ⟨y, hy, rfl⟩ := Option.map_eq_some_iff.1 hu
        rw [Addr.add_lit, World.cell?_of_block (a := ⟨g, o + j, none⟩) (Below.heap_alloc w _ g h2)]
        exact h4 j y hy) ⟨w.heap.size, 0, none⟩ 1 1 [.int .i64 x] rfl hnews hc (by unfold maxLen; omega) (by omega)
      refine ⟨v', w', hr, tail_own hN (by simp) (by simp), ⟨hG.os, hG.tape, hG.output, ?_, fun k hk _ => ?_⟩, fun k hk => ?_⟩
      · have := hG.size; simp at this; omega
      · exact (hG.block k (by simp; omega) (by simp)).trans (Below.heap_alloc w _ k hk)
      · have := (hN.lt k hk).1; simp at this; exact .inr (by omega)
    · have hcell := h3 xs.length hc
      have hb := Below.heap_alloc w (.cells #[.int .i64 x] 3) g h2
      have hr := run_append_room_cells (P := Tryz.prog) (w.alloc (.cells #[.int .i64 x] 3)) 57 ty 3 i0 Tryz.underlying57 hi g o xs.length cap ⟨w.heap.size, 0, none⟩ 1 1 [.int .i64 x] (by rw [q1]; rfl) hnews hone hc (fun j hj => by
        obtain rfl : j = 0 := by simpa using hj
        rw [q1, World.cell?_of_block (a := ⟨g, o + xs.length * 1 + 0, none⟩) hb]
        simpa using hcell.1) (fun j hj => by
        obtain rfl : j = 0 := by simpa using hj
        rw [q1, World.frozen?_of_block (a := ⟨g, o + xs.length * 1 + 0, none⟩) hb]
        simpa using hcell.2)
      rw [q1, Nat.mul_one] at hr
      have hks := kept_setCells (w.alloc (.cells #[.int .i64 x] 3)) g (o + xs.length) (.int .i64 x)
      have hsm : ∀ j, j < cap → ((w.alloc (.cells #[.int .i64 x] 3)).cell? ⟨g, o + j, none⟩).isSome = true ∧ (w.alloc (.cells #[.int .i64 x] 3)).frozen? ⟨g, o + j, none⟩ = false := fun j hj => by
        rw [World.cell?_of_block (a := ⟨g, o + j, none⟩) hb, World.frozen?_of_block (a := ⟨g, o + j, none⟩) hb]; exact h3 j hj
      refine ⟨_, _, hr, Or.inr ⟨g, o, cap, by simp, by simp; omega, ?_, fun j hj => ⟨?_, ?_⟩, fun j y hy => ?_⟩, ⟨hks.os, hks.tape, hks.output, ?_, fun k hk hne => ?_⟩, fun k hk => .inl hk⟩
      · have := hks.size; simp at this ⊢; omega
      · exact World.isSome_setCells _ _ _ _ _ (hsm j hj).1
      · rw [World.frozen?_setCells]; exact (hsm j hj).2
      · by_cases hj : j < xs.length
        · rw [List.getElem?_append_left hj] at hy
          rw [World.cell?_setCells_out _ _ _ _ _ (fun _ _ => .inl (by simp; omega)), World.cell?_of_block (a := ⟨g, o + j, none⟩) hb]
          exact h4 j y hy
        · have hjl : j < (xs ++ [x]).length := (List.getElem?_eq_some_iff.1 hy).1
          rw [List.length_append, List.length_singleton] at hjl
          obtain rfl : j = xs.length := by omega
          simp at hy
          subst hy
          have := World.cell?_setCells_in g [.int .i64 (x : Int)] (o + xs.length) (w.alloc (.cells #[.int .i64 x] 3)) (fun j hj => by
            obtain rfl : j = 0 := by simpa using hj
            exact (hsm xs.length hc).1) 0 (by simp)
          simpa using this
      · have := hks.size; simp at this; omega
      · have hkg : k ≠ g := fun e => hne (by rw [e]; rfl)
        exact (hks.block k (by simp; omega) hkg).trans (Below.heap_alloc w _ k hk)
/-- Its head is dropped. -/
theorem TailI.drop {a : Option Addr} {n cap x : Nat} (h : TailI w (.slice a n cap) (x :: xs)) : ∃ g o, a = some ⟨g, o, none⟩ ∧ n = xs.length + 1 ∧ n ≤ cap ∧ w.cell? ⟨g, o, none⟩ = some (.int .i64 (x : Int)) ∧ TailI w (.slice (some ⟨g, o + 1, none⟩) xs.length (cap - 1)) xs := by
  rcases h with ⟨_, h⟩ | ⟨g, o, cp, e, h1, h2, h3, h4⟩
  · cases h
  · cases e
    rw [List.length_cons] at h1
    refine ⟨g, o, rfl, by simp, by simp; omega, h4 0 x rfl, Or.inr ⟨g, o + 1, cap - 1, rfl, by omega, h2, fun j hj => ?_, fun j y hy => ?_⟩⟩
    · have := h3 (1 + j) (by omega)
      rw [← Nat.add_assoc] at this
      exact this
    · have := h4 (j + 1) y (by simpa using hy)
      rw [show o + 1 + j = o + (j + 1) by omega]
      exact this
end
theorem withoutR_withR (r : Rw) : ∀ l : List Rw, withoutR (withR l r) r.tid = withoutR l r.tid
  | [] => by simp [withR, withoutR]
  | a :: l => by
    have ih := withoutR_withR r l
    unfold withoutR at ih ⊢
    unfold withR
    split
    · simp
    · rw [List.filter_cons, List.filter_cons, ih]
theorem withoutR_twice (l : List Rw) (t : Nat) : withoutR (withoutR l t) t = withoutR l t := by
  unfold withoutR
  rw [List.filter_filter]
  simp
theorem withoutR_one {x : Rw} : ∀ {l : List Rw}, l.Pairwise (fun a b => a.tid < b.tid) → x ∈ l → (withoutR l x.tid).length + 1 = l.length
  | [], _, h => by cases h
  | a :: l, hs, h => by
    obtain ⟨h1, h2⟩ := List.pairwise_cons.1 hs
    rcases List.mem_cons.1 h with rfl | h
    · have e : withoutR (x :: l) x.tid = l := by
        unfold withoutR
        rw [List.filter_cons, if_neg (by simp)]
        exact List.filter_eq_self.2 fun y hy => by have := h1 y hy; simp; omega
      rw [e]; rfl
    · have := withoutR_one h2 h
      have hne : a.tid ≠ x.tid := by have := h1 x h; omega
      unfold withoutR at this ⊢
      rw [List.filter_cons, if_pos (by simpa using hne), List.length_cons, List.length_cons]
      omega
end Go.Proofs.YtjhdfpchoepkaaaGreatDoor

/- Rows that stay, and rows that come and go: what stands between two calls of the law. -/
set_option maxRecDepth 100000
namespace Go.Proofs.YtjhdfpchoepkaaaGreatDoor
open Go Go.RowKit

/-- The row that stays, number j. -/
def stB (j : Nat) : List UInt8 := [115, 116, 97, 121, 115, 32, UInt8.ofNat (65 + j)]
/-- A heap, the addresses of the n rows that stay, those of the q others. -/
structure StyX (c : Ac) (hb : Nat) (w : World) (v : Value) (n : Nat) (v2 : Value) (q M : Nat) (wr : World) (S : Nat → Prop) (l : List Rw) (ts xs : List Nat) (m : Nat) : Prop where
  heap : HpL (JL [] []) w.heap.size c hb 4 S l m wr
  few : m ≤ M
  bel : Below w.heap.size w wr
  len : l.length = n + q
  others : xs.length = q
  stays : ts.length = n
  row : TailI wr v ts
  tail : TailI wr v2 xs
  out : ∀ g, v.ownBlock = some g → ¬ S g ∧ g ≠ hb ∧ w.heap.size ≤ g ∧ v2.ownBlock ≠ some g
  out2 : ∀ g, v2.ownBlock = some g → ¬ S g ∧ g ≠ hb ∧ w.heap.size ≤ g
  is : ∀ j, j < n → (⟨ts.getD j 0, stB j, true⟩ : Rw) ∈ l ∧ ts.getD j 0 ∉ xs
  nd : xs.Nodup
  lives : ∀ x ∈ xs, ∃ row, (⟨x, row, true⟩ : Rw) ∈ l
def Sty (c : Ac) (hb : Nat) (w : World) (v : Value) (n : Nat) (v2 : Value) (q M : Nat) (wr : World) : Prop := ∃ S l ts xs m, StyX c hb w v n v2 q M wr S l ts xs m
section
variable {c : Ac} {hb : Nat} {w : World} {v : Value} {n : Nat} {v2 : Value} {q M : Nat} {wr : World}
theorem Sty.below {w' : World} (x : Sty c hb w v n v2 q M wr) (hbw : Below wr.heap.size wr w') : Sty c hb w v n v2 q M w' := by
  obtain ⟨S, l, ts, xs, m, x⟩ := x
  have hk : Kept (fun _ => False) wr w' := Kept.ofBelow hbw
  exact ⟨S, l, ts, xs, m, { x with heap := x.heap.below hbw, bel := x.bel.trans (hbw.mono x.bel.size), row := x.row.kept hk (fun _ _ h => h), tail := x.tail.kept hk (fun _ _ h => h) }⟩
theorem Sty.bel (x : Sty c hb w v n v2 q M wr) : Below w.heap.size w wr := by
  obtain ⟨S, l, ts, xs, m, x⟩ := x
  exact x.bel
/-- The heap has turned, its list too; of the two rows of addresses nothing. -/
theorem StyX.turn {S S' : Nat → Prop} {l l' : List Rw} {ts xs : List Nat} {m m' M' : Nat} {w' : World} (x : StyX c hb w v n v2 q M wr S l ts xs m) (hT : Turn S wr S' w') (h : HpL (JL [] []) w.heap.size c hb 4 S' l' m' w') (hM : m' ≤ M')
    (hl : l'.length = n + q) (his : ∀ j, j < n → (⟨ts.getD j 0, stB j, true⟩ : Rw) ∈ l') (hlv : ∀ y ∈ xs, ∃ row, (⟨y, row, true⟩ : Rw) ∈ l') : StyX c hb w v n v2 q M' w' S' l' ts xs m' :=
  { heap := h, few := hM, bel := x.heap.to x.bel (Nat.le_refl _) hT, len := hl, others := x.others, stays := x.stays,
    row := x.row.kept hT.1 (fun g hg => (x.out g hg).1), tail := x.tail.kept hT.1 (fun g hg => (x.out2 g hg).1),
    out := fun g hg => ⟨fun hs => (x.out g hg).1 (hT.2 g (x.row.lt g hg) hs), (x.out g hg).2⟩,
    out2 := fun g hg => ⟨fun hs => (x.out2 g hg).1 (hT.2 g (x.tail.lt g hg) hs), (x.out2 g hg).2⟩,
    is := fun j hj => ⟨his j hj, (x.is j hj).2⟩, nd := x.nd, lives := hlv }
/-- A row is inserted: what stands behind it, with the address in hand. -/
theorem StyX.insert {S : Nat → Prop} {l : List Rw} {ts xs : List Nat} {m : Nat} (x : StyX c hb w v n v2 q M wr S l ts xs m) (hM : M + 1 ≤ 1000) (row : ByteArray) (hrow : 1 ≤ row.size ∧ row.size ≤ 400) :
    Calls Tryz.prog 40 #[.pointer (some ⟨hb, 0, none⟩), .string row] wr fun e w' => ∃ t : Nat, e = .returned (.tuple #[.int .i64 t, .int .i64 0]) ∧ ∃ S' l' m', HpL (JL [] []) w.heap.size c hb 4 S' l' m' w' ∧ m' ≤ M + 1 ∧ Turn S wr S' w' ∧ l'.length = l.length + 1 ∧ (∀ y ∈ l, y.tid ≠ t) ∧ (∀ y, y ∈ l' ↔ y = ⟨t, row.data.toList, true⟩ ∨ y ∈ l) := by
  refine (hl_insert x.heap (by omega) (by have := x.few; omega) row hrow).mono ?_
  rintro e w' ⟨t, S', he, _, _, h3, hT, hv⟩
  exact ⟨t, he, S', _, _, hv, by have := x.few; omega, hT, withR_len _ _, h3, fun y => withR_mem _ _ _⟩
/-- A push beside the heap. -/
theorem push_heap {S : Nat → Prop} {l : List Rw} {m : Nat} {u : Value} {w' w3 : World} (h : HpL (JL [] []) w.heap.size c hb 4 S l m w') (hk : Kept (fun k => u.ownBlock = some k) w' w3) (ho : ∀ g, u.ownBlock = some g → ¬ S g ∧ g ≠ hb ∧ w.heap.size ≤ g) (h1 : 1 ≤ w.heap.size) (hb0 : Below w.heap.size w w') :
    HpL (JL [] []) w.heap.size c hb 4 S l m w3 ∧ Below w.heap.size w w3 :=
  ⟨h.kept hk fun k e _ => ⟨(ho k e).1, by have := (ho k e).2.2; omega, (ho k e).2.1⟩, hb0.trans (hk.toBelow hb0.size fun i hi => (ho i hi).2.2)⟩
set_option maxHeartbeats 800000 in
/-- One more row that stays. -/
theorem Sty.stay (x : Sty c hb w v n (.slice none 0 0) 0 M wr) (hn : n ≤ 1000) (hM : M + 1 ≤ 1000) (h1 : 1 ≤ w.heap.size) :
    Calls Tryz.prog 40 #[.pointer (some ⟨hb, 0, none⟩), .string ⟨(stB n).toArray⟩] wr fun e w' => ∃ t : Nat, e = .returned (.tuple #[.int .i64 t, .int .i64 0]) ∧ Hid (∀ ty, ∃ a' c' w3, (Builtin.append_ #[57, 57] ty #[v, .slice (some ⟨w'.heap.size, 0, none⟩) 1 1]).run Tryz.prog (w'.alloc (.cells #[.int .i64 t] 3)) = .ok (.slice a' (n + 1) c') w3 ∧ Hid (Sty c hb w (.slice a' (n + 1) c') (n + 1) (.slice none 0 0) 0 (M + 1) w3)) := by
  obtain ⟨S, l, ts, xs, m, x⟩ := x
  refine (x.insert hM ⟨(stB n).toArray⟩ ⟨by simp [ByteArray.size, stB], by simp [ByteArray.size, stB]⟩).mono ?_
  rintro e w' ⟨t, he, S', l', m', hv, hm, hT, hl, hne, hmem⟩
  refine ⟨t, he, Lib.hid fun ty => ?_⟩
  have hx0 : xs = [] := List.eq_nil_of_length_eq_zero x.others
  have hts := x.stays
  have hrow := x.row.kept hT.1 (fun g hg => (x.out g hg).1)
  have hbel := x.heap.to x.bel (Nat.le_refl _) hT
  have hout : ∀ g, v.ownBlock = some g → ¬ S' g ∧ g ≠ hb ∧ w.heap.size ≤ g := fun g hg => ⟨fun hs => (x.out g hg).1 (hT.2 g (x.row.lt g hg) hs), (x.out g hg).2.1, (x.out g hg).2.2.1⟩
  obtain ⟨v', w3, hr, hrow', hk, hown⟩ := tail_push hrow (by omega) t ty
  obtain ⟨a', c', rfl⟩ := hrow'.shape
  have hln : (ts ++ [t]).length = n + 1 := by rw [List.length_append, hts]; rfl
  rw [hln] at hr hrow' hown
  obtain ⟨hh, hb3⟩ := push_heap hv hk hout h1 hbel
  refine ⟨a', c', w3, hr, Lib.hid ⟨S', l', ts ++ [t], [], m', { heap := hh, few := hm, bel := hb3, len := by have := x.len; omega, others := rfl, stays := hln, row := hrow', tail := TailI.nil _, out := fun g hg => ?_, out2 := fun g hg => by simp [Value.ownBlock] at hg, is := fun j hj => ⟨?_, by simp⟩, nd := List.nodup_nil, lives := fun y hy => by cases hy }⟩⟩
  · rcases hown g hg with h | h
    · obtain ⟨h2, h3, h4⟩ := hout g h
      exact ⟨h2, h3, h4, by simp [Value.ownBlock]⟩
    · have := hv.lt; have := hbel.size
      exact ⟨fun hs => by have := hv.blk g hs; omega, by omega, by omega, by simp [Value.ownBlock]⟩
  · rw [hmem]
    rcases Nat.lt_or_ge j n with hlt | hge
    · rw [List.getD_eq_getElem?_getD, List.getElem?_append_left (by omega), ← List.getD_eq_getElem?_getD]
      exact .inr (x.is j hlt).1
    · obtain rfl : j = n := by omega
      left
      rw [List.getD_eq_getElem?_getD, List.getElem?_append_right (by omega), hts]
      simp
set_option maxHeartbeats 800000 in
/-- One more of the others. -/
theorem Sty.other (x : Sty c hb w v n v2 q M wr) (hq : q ≤ 1000) (hM : M + 1 ≤ 1000) (h1 : 1 ≤ w.heap.size) (row : ByteArray) (hrow : 1 ≤ row.size ∧ row.size ≤ 400) :
    Calls Tryz.prog 40 #[.pointer (some ⟨hb, 0, none⟩), .string row] wr fun e w' => ∃ t : Nat, e = .returned (.tuple #[.int .i64 t, .int .i64 0]) ∧ Hid (Below w.heap.size w w') ∧ Hid (∀ ty, ∃ a' c' w3, (Builtin.append_ #[57, 57] ty #[v2, .slice (some ⟨w'.heap.size, 0, none⟩) 1 1]).run Tryz.prog (w'.alloc (.cells #[.int .i64 t] 3)) = .ok (.slice a' (q + 1) c') w3 ∧ Hid (Sty c hb w v n (.slice a' (q + 1) c') (q + 1) (M + 1) w3)) := by
  obtain ⟨S, l, ts, xs, m, x⟩ := x
  refine (x.insert hM row hrow).mono ?_
  rintro e w' ⟨t, he, S', l', m', hv, hm, hT, hl, hne, hmem⟩
  have hbel := x.heap.to x.bel (Nat.le_refl _) hT
  refine ⟨t, he, Lib.hid hbel, Lib.hid fun ty => ?_⟩
  have hxs := x.others
  have hrowv := x.row.kept hT.1 (fun g hg => (x.out g hg).1)
  have htail := x.tail.kept hT.1 (fun g hg => (x.out2 g hg).1)
  have hout : ∀ g, v.ownBlock = some g → ¬ S' g ∧ g ≠ hb ∧ w.heap.size ≤ g ∧ v2.ownBlock ≠ some g := fun g hg => ⟨fun hs => (x.out g hg).1 (hT.2 g (x.row.lt g hg) hs), (x.out g hg).2⟩
  have hout2 : ∀ g, v2.ownBlock = some g → ¬ S' g ∧ g ≠ hb ∧ w.heap.size ≤ g := fun g hg => ⟨fun hs => (x.out2 g hg).1 (hT.2 g (x.tail.lt g hg) hs), (x.out2 g hg).2⟩
  obtain ⟨v', w3, hr, htail', hk, hown⟩ := tail_push htail (by omega) t ty
  obtain ⟨a', c', rfl⟩ := htail'.shape
  have hln : (xs ++ [t]).length = q + 1 := by rw [List.length_append, hxs]; rfl
  rw [hln] at hr htail' hown
  obtain ⟨hh, hb3⟩ := push_heap hv hk hout2 h1 hbel
  refine ⟨a', c', w3, hr, Lib.hid ⟨S', l', ts, xs ++ [t], m', { heap := hh, few := hm, bel := hb3, len := by have := x.len; omega, others := hln, stays := x.stays, row := hrowv.kept hk (fun g hg => (hout g hg).2.2.2), tail := htail', out := fun g hg => ?_, out2 := fun g hg => ?_, is := fun j hj => ⟨?_, ?_⟩, nd := ?_, lives := fun y hy => ?_ }⟩⟩
  · obtain ⟨h2, h3, h4, h5⟩ := hout g hg
    refine ⟨h2, h3, h4, fun e => ?_⟩
    rcases hown g e with h | h
    · exact h5 h
    · have := hrowv.lt g hg; omega
  · rcases hown g hg with h | h
    · exact hout2 g h
    · have := hv.lt; have := hbel.size
      exact ⟨fun hs => by have := hv.blk g hs; omega, by omega, by omega⟩
  · rw [hmem]; exact .inr (x.is j hj).1
  · intro h
    rcases List.mem_append.1 h with h | h
    · exact (x.is j hj).2 h
    · exact hne _ (x.is j hj).1 (List.mem_singleton.1 h)
  · refine List.nodup_append.2 ⟨x.nd, by simp, fun a ha b hb e => ?_⟩
    obtain ⟨rw', hw⟩ := x.lives a ha
    obtain rfl : b = t := List.mem_singleton.1 hb
    exact hne _ hw e
  · rcases List.mem_append.1 hy with h | h
    · obtain ⟨rw', hw⟩ := x.lives y h
      exact ⟨rw', (hmem _).2 (.inr hw)⟩
    · obtain rfl : y = t := List.mem_singleton.1 h
      exact ⟨_, (hmem _).2 (.inl rfl)⟩
/-- A row that is none. -/
theorem Sty.bad (x : Sty c hb w v n v2 q M wr) (row : ByteArray) (hrow : row.size = 0 ∨ 400 < row.size) :
    Calls Tryz.prog 40 #[.pointer (some ⟨hb, 0, none⟩), .string row] wr fun e w' => e = .returned (.tuple #[.int .i64 0, .int .i64 70]) ∧ Hid (Sty c hb w v n v2 q M w') := by
  obtain ⟨S, l, ts, xs, m, y⟩ := id x
  exact (hl_insert_bad y.heap (by omega) row hrow).mono fun e w' ⟨he, hbw⟩ => ⟨he, Lib.hid (x.below hbw)⟩
theorem Sty.more {M' : Nat} (x : Sty c hb w v n v2 q M wr) (h : M ≤ M') : Sty c hb w v n v2 q M' wr := by
  obtain ⟨S, l, ts, xs, m, y⟩ := x
  exact ⟨S, l, ts, xs, m, { y with few := Nat.le_trans y.few h }⟩
set_option maxHeartbeats 800000 in
/-- The first of the others is killed, freed and dropped. -/
theorem Sty.kill {a : Option Addr} {cp : Nat} (x : Sty c hb w v n (.slice a (q + 1) cp) (q + 1) M wr) :
    ∃ (g o t : Nat), a = some ⟨g, o, none⟩ ∧ q + 1 ≤ cp ∧ wr.cell? ⟨g, o, none⟩ = some (.int .i64 (t : Int)) ∧ Hid (Calls Tryz.prog 41 #[.pointer (some ⟨hb, 0, none⟩), .int .i64 t] wr fun e w' => e = .returned (.int .i64 0) ∧ w'.cell? ⟨g, o, none⟩ = some (.int .i64 (t : Int)) ∧
      Hid (Calls Tryz.prog 42 #[.pointer (some ⟨hb, 0, none⟩), .int .i64 t] w' fun e w2 => e = .returned (.int .i64 0) ∧ Hid (Sty c hb w v n (.slice (some ⟨g, o + 1, none⟩) q (cp - 1)) q M w2))) := by
  obtain ⟨S, l, ts, xs, m, x⟩ := x
  obtain ⟨t, ys, rfl⟩ : ∃ t ys, xs = t :: ys := by
    cases xs with
    | nil => have := x.others; cases this
    | cons t ys => exact ⟨t, ys, rfl⟩
  obtain ⟨g, o, rfl, _, hcp, hcell, _⟩ := x.tail.drop
  obtain ⟨row, hz⟩ := x.lives t (by simp)
  refine ⟨g, o, t, rfl, hcp, hcell, Lib.hid ?_⟩
  have hys : ys.length = q := by have := x.others; simpa using this
  have htn : t ∉ ys := (List.nodup_cons.1 x.nd).1
  have hst : ∀ j, j < n → ts.getD j 0 ≠ t := fun j hj e => (x.is j hj).2 (by rw [e]; simp)
  have hone : (withoutR l t).length + 1 = l.length := withoutR_one x.heap.srt hz
  have htwo : withoutR (withR (withoutR l t) ⟨t, row, false⟩) t = withoutR l t := (withoutR_withR ⟨t, row, false⟩ _).trans (withoutR_twice l t)
  refine (hl_kill x.heap (by omega) (z := ⟨t, row, true⟩) hz).mono ?_
  rintro e w' ⟨_, hh⟩
  obtain ⟨he, S', hT, hv⟩ := hh rfl
  refine ⟨he, ?_, Lib.hid ?_⟩
  · obtain ⟨g', o', e', _, _, hc', _⟩ := (x.tail.kept hT.1 (fun g hg => (x.out2 g hg).1)).drop
    cases e'; exact hc'
  refine (hl_free hv (by omega) (z := ⟨t, row, false⟩) ((withR_mem _ _ _).2 (.inl rfl))).mono ?_
  rintro e w2 ⟨_, hh2⟩
  obtain ⟨he2, S2, hT2, hv2⟩ := hh2 rfl
  have hv2' : HpL (JL [] []) w.heap.size c hb 4 S2 (withoutR l t) m w2 := by
    have e : withoutR (withR (withoutR l t) ⟨t, row, false⟩) t = withoutR l t := htwo
    rw [← e]; exact hv2
  have hT12 := hT.trans hT2
  refine ⟨he2, Lib.hid ⟨S2, withoutR l t, ts, ys, m, { heap := hv2', few := x.few, bel := x.heap.to x.bel (Nat.le_refl _) hT12, len := by have := x.len; omega, others := hys, stays := x.stays, row := x.row.kept hT12.1 (fun g hg => (x.out g hg).1), tail := ?_, out := fun g' hg => ⟨fun hs => (x.out g' hg).1 (hT12.2 g' (x.row.lt g' hg) hs), (x.out g' hg).2⟩, out2 := fun g' hg => ⟨fun hs => (x.out2 g' hg).1 (hT12.2 g' (x.tail.lt g' hg) hs), (x.out2 g' hg).2⟩, is := fun j hj => ⟨(withoutR_mem _ _ _).2 ⟨(x.is j hj).1, hst j hj⟩, fun h => (x.is j hj).2 (List.mem_cons_of_mem _ h)⟩, nd := (List.nodup_cons.1 x.nd).2, lives := fun y hy => ?_ }⟩⟩
  · obtain ⟨g', o', e', _, _, _, ht'⟩ := (x.tail.kept hT12.1 (fun g hg => (x.out2 g hg).1)).drop
    cases e'
    rw [hys] at ht'; exact ht'
  · obtain ⟨rw', hw⟩ := x.lives y (List.mem_cons_of_mem _ hy)
    exact ⟨rw', (withoutR_mem _ _ _).2 ⟨hw, fun e => htn (by rw [← show y = t from e]; exact hy)⟩⟩
/-- A row that stays is got. -/
theorem Sty.get {a : Option Addr} {cp : Nat} (x : Sty c hb w (.slice a n cp) n v2 q M wr) {j : Nat} (hj : j < n) :
    ∃ (g o t : Nat), a = some ⟨g, o, none⟩ ∧ wr.cell? ⟨g, o + j, none⟩ = some (.int .i64 (t : Int)) ∧ Hid (Calls Tryz.prog 31 #[.pointer (some ⟨hb, 0, none⟩), .int .i64 t] wr fun e w' => e = .returned (.tuple #[.string ⟨(stB j).toArray⟩, .bool true, .int .i64 0]) ∧ Hid (Sty c hb w (.slice a n cp) n v2 q M w')) := by
  obtain ⟨S, l, ts, xs, m, x⟩ := x
  have hts := x.stays
  have hgd : ts[j]? = some (ts.getD j 0) := by rw [List.getD_eq_getElem?_getD, List.getElem?_eq_getElem (by omega)]; rfl
  rcases x.row with ⟨e, e2⟩ | ⟨g, o, cap, e, h1, h2, h3, h4⟩
  · rw [e2] at hts; simp at hts; omega
  · injection e with e1 e2 e3
    refine ⟨g, o, ts.getD j 0, e1, h4 j _ hgd, Lib.hid ?_⟩
    have hz := (x.is j hj).1
    refine (hl_get x.heap (by omega) hz).mono ?_
    rintro e w' ⟨he, S', hT, hv⟩
    exact ⟨he, Lib.hid ⟨S', l, ts, xs, m, x.turn hT hv x.few x.len (fun j hj => (x.is j hj).1) x.lives⟩⟩
theorem Sty.tids (x : Sty c hb w v n v2 q M wr) :
    Calls Tryz.prog 43 #[.pointer (some ⟨hb, 0, none⟩)] wr fun e w' => ∃ a cp, e = .returned (.slice a (n + q) cp) ∧ Hid (Below w.heap.size w w') := by
  obtain ⟨S, l, ts, xs, m, x⟩ := x
  refine (hl_tids x.heap (by omega)).mono ?_
  rintro e w' ⟨S', u, he, hT, hv, hn, _⟩
  obtain ⟨a, cp, rfl⟩ := hn.shape
  rw [List.length_map, x.len] at he
  exact ⟨a, cp, he, Lib.hid (x.heap.to x.bel (Nat.le_refl _) hT)⟩
theorem sty_new {S : Nat → Prop} {w1 w2 : World} (hb0 : Below w.heap.size w w1) (h : HpL (JL [] []) w.heap.size c hb 4 S [] 0 w2) (hb2 : Below w1.heap.size w1 w2) : Sty c hb w (.slice none 0 0) 0 (.slice none 0 0) 0 0 w2 :=
  ⟨S, [], [], [], 0, { heap := h, few := Nat.le_refl _, bel := hb0.trans (hb2.mono hb0.size), len := rfl, others := rfl, stays := rfl, row := TailI.nil _, tail := TailI.nil _, out := fun g hg => by simp [Value.ownBlock] at hg, out2 := fun g hg => by simp [Value.ownBlock] at hg, is := fun j hj => by omega, nd := List.nodup_nil, lives := fun y hy => by cases hy }⟩
end
end Go.Proofs.YtjhdfpchoepkaaaGreatDoor

/- The walk of HeapStays. -/
set_option maxRecDepth 100000
namespace Go.Proofs.YtjhdfpchoepkaaaGreatDoor
open Go Go.RowKit

theorem and31 (n : Int) : bits .and .i64 n 31 = n % 32 := by
  have h31 : (BitVec.ofInt 64 31).toNat = 2 ^ 5 - 1 := by decide
  have key : (BitVec.ofInt 64 n &&& BitVec.ofInt 64 31).toNat = (n % ((2 ^ 64 : Nat) : Int)).toNat % 2 ^ 5 := by
    rw [BitVec.toNat_and, BitVec.toNat_ofInt, h31, Nat.and_two_pow_sub_one_eq_mod]
  show IntKind.i64.wrap ((BitVec.ofInt 64 n &&& BitVec.ofInt 64 31).toNat : Nat) = n % 32
  rw [key, IntKind.wrap_i64]
  omega
/-- The texts lie where the slice's pointer points. -/
def Txs (w : World) (a : Option Addr) (xs : List ByteArray) : Prop :=
  xs = [] ∨ ∃ b off, a = some ⟨b, off, none⟩ ∧ b < w.heap.size ∧ ∀ j (h : j < xs.length), w.cell? ⟨b, off + j, none⟩ = some (.string (xs[j]'h))
theorem Txs.at_ {w : World} {a : Option Addr} {xs : List ByteArray} (h : Txs w a xs) {k : Nat} (hk : k < xs.length) : ∃ b off, a = some ⟨b, off, none⟩ ∧ ∀ W, Below w.heap.size w W → W.cell? ⟨b, off + k, none⟩ = some (.string (xs[k]'hk)) := by
  rcases h with h | ⟨b, off, ha, hbw, hc⟩
  · rw [h] at hk; simp at hk
  · exact ⟨b, off, ha, fun W hb => (hb.cell hbw).trans (hc k hk)⟩

theorem st_conv (wr : World) (k : Nat) (hk : k < 32) : (convert 95 9 (.slice (some ⟨wr.heap.size, 0, none⟩) 1 1)).run Tryz.prog (wr.alloc (.cells #[.int .u8 (65 + (k : Int))] 5)) = .ok (.string ⟨#[UInt8.ofNat (65 + k)]⟩) (wr.alloc (.cells #[.int .u8 (65 + (k : Int))] 5)) := by
  have h := run_string_mid (wr.alloc (.cells #[.int .u8 (65 + (k : Int))] 5)) wr.heap.size 0 1 [UInt8.ofNat (65 + k)] (fun j v hv => by
    match j, hv with
    | 0, hv =>
      rw [Lib.cell_of_heap (heap_alloc_new wr _)]
      simp [Lib.byteCells] at hv
      rw [← hv]
      simp
      omega
    | j + 1, hv => simp [Lib.byteCells] at hv)
  exact h
theorem st_add (k : Nat) : (⟨#[115, 116, 97, 121, 115, 32]⟩ : ByteArray) ++ ⟨#[65 + UInt8.ofNat k]⟩ = ⟨(stB k).toArray⟩ := by
  have e : UInt8.ofNat (65 + k) = 65 + UInt8.ofNat k := UInt8.ofNat_add 65 k
  unfold stB
  rw [e]; rfl

set_option maxHeartbeats 3200000 in
theorem heapStays_walk (many : Int) (a : Option Addr) (xs : List ByteArray) (lc : Nat) (w : World) (hT : Tab w) (hS : Txs w a xs) :
    Calls Tryz.prog 9 #[.int .i64 many, .slice a xs.length lc] w fun e w' => e = .returned (.bool true) ∧ Below w.heap.size w w' := by
  have HT := Lib.hid hT
  have HBG := Lib.hid (begun_ok w hT)
  have HW1 : 1 ≤ w.heap.size := hT.1
  have HX : Hid (∀ k, k < xs.length → ∃ (b off : Nat) (key : ByteArray), a = some ⟨b, off, none⟩ ∧ ∀ W, Below w.heap.size w W → W.cell? ⟨b, off + k, none⟩ = some (.string key)) := Lib.hid fun k hk => by
    obtain ⟨b, off, ha, hc⟩ := hS.at_ hk
    exact ⟨b, off, _, ha, hc⟩
  obtain ⟨R, hR⟩ : ∃ R, R = xs.length := ⟨_, rfl⟩
  rw [← hR] at HX ⊢
  clear hT hS hR
  go_enter Tryz.func9, Tryz.ntmps9
  go_wp2_with fail
  refine HBG.out.mono ?_
  rintro e w1 ⟨c, S, rfl, hf, hb1⟩
  have HF := Lib.hid hf
  have HB1 := Lib.hid hb1
  clear HBG hf hb1
  go_wp2_with fail
  refine (hl_new HF.out 4 (by omega)).mono ?_
  rintro e w2 ⟨hb, rfl, h2, -, hb2⟩
  have HI0 : Hid (Sty c hb w (.slice none 0 0) 0 (.slice none 0 0) 0 0 w2) := Lib.hid (sty_new HB1.out h2 hb2)
  clear h2 hb2 HF HB1
  go_upto_region 8 with fail
  obtain ⟨n, hn, he⟩ : ∃ n : Nat, n < 32 ∧ bits .and .i64 many 31 = n := ⟨(many % 32).toNat, by omega, by rw [and31]; omega⟩
  rw [he]
  clear he
  go_wp2
  go_loopw [12, 13] (fun v i wr => ∃ (k : Nat) (a' : Option Addr) (c' : Nat), k ≤ n ∧ i = .int .i64 k ∧ v = .slice a' k c' ∧ Hid (Sty c hb w v k (.slice none 0 0) 0 k wr)) (fun _ i _ => n - (intOf i).toNat)
  case atStart => exact ⟨0, none, 0, by omega, rfl, rfl, HI0⟩
  case round =>
    obtain ⟨k, a', c', hk, rfl, rfl, HI⟩ := hrel
    by_cases hkn : k < n
    · have hcv := st_conv wr k (by omega)
      obtain ⟨W1, hW1⟩ : ∃ W1, W1 = wr.alloc (.cells #[.int .u8 (65 + (k : Int))] 5) := ⟨_, rfl⟩
      have HI1 : Hid (Sty c hb w (.slice a' k c') k (.slice none 0 0) 0 k W1) := Lib.hid (by rw [hW1]; exact HI.out.below ((Below.refl _ _).alloc (Nat.le_refl _) _))
      have HHW := Lib.hid hW1
      go_wp2_with fail
      rw [st_add, ← HHW.out]
      refine (Sty.stay HI1.out (by omega) (by omega) HW1).mono ?_
      rintro e w3 ⟨t, rfl, HA⟩
      clear HI HI0 HI1 HHW hW1 hcv
      obtain ⟨a3, c3, w4, hr, HI2⟩ := HA.out 57
      clear HA
      go_wp2_with (at_builtin; refine Lib.wpList_append_run _ rfl _ _ 57 57 rfl _ _ rfl rfl _ _ hr ?_)
      clear hr
      go_roundw
      case rel => exact ⟨k + 1, a3, c3, by omega, by go_num, rfl, HI2⟩
      case measure => simp [intOf]; omega
    · obtain rfl : k = n := by omega
      clear HI0
      go_wp2
      go_loopw [16, 17] (fun v i wr => ∃ (j q : Nat) (a2 : Option Addr) (c2 : Nat), j ≤ R ∧ j ≤ 200 ∧ q ≤ 2 ∧ i = .int .i64 j ∧ v = .slice a2 q c2 ∧ Hid (Sty c hb w (.slice a' k c') k (.slice a2 q c2) q (k + j) wr)) (fun _ i _ => R - (intOf i).toNat)
      case atStart => exact ⟨0, 0, none, 0, by omega, by omega, by omega, rfl, rfl, HI⟩
      case round =>
        obtain ⟨j, q, a2, c2, hj, hj2, hq, rfl, rfl, HJ⟩ := hrel
        clear HI
        by_cases hjR : j < R ∧ j < 200
        · obtain ⟨hjR1, hj200⟩ := hjR
          obtain ⟨b, off, key, rfl, hc⟩ := HX.out j hjR1
          have f1 : (j : Int) < (R : Int) := by omega
          have f2 : (j : Int) < 200 := by omega
          have d0 := hc wr HJ.out.bel
          have HCE := Lib.hid hc
          clear hc
          by_cases hgood : 1 ≤ key.size ∧ key.size ≤ 400
          · obtain ⟨g1, g2⟩ := hgood
            have g1i : (1 : Int) ≤ (key.size : Int) := by omega
            have g2i : (key.size : Int) ≤ 400 := by omega
            go_wp2_with fail
            refine (Sty.other HJ.out (by omega) (by omega) HW1 key ⟨g1, g2⟩).mono ?_
            rintro e w3 ⟨t, rfl, HB3, HA⟩
            have d3 := HCE.out w3 HB3.out
            obtain ⟨a3, c3, w4, hr, HJ2⟩ := HA.out 57
            clear HA HJ d0
            rcases (by omega : q = 0 ∨ q = 1 ∨ q = 2) with rfl | rfl | rfl
            · simp only [Nat.reduceAdd] at hr HJ2
              go_wp2_with (at_builtin; refine Lib.wpList_append_run _ rfl _ _ 57 57 rfl _ _ rfl rfl _ _ hr ?_)
              clear hr d3
              go_roundw
              case rel => exact ⟨j + 1, 1, a3, c3, by omega, by omega, by omega, by go_num, rfl, Lib.hid (HJ2.out.more (by omega))⟩
              case measure => simp [intOf]; omega
            · simp only [Nat.reduceAdd] at hr HJ2
              go_wp2_with (at_builtin; refine Lib.wpList_append_run _ rfl _ _ 57 57 rfl _ _ rfl rfl _ _ hr ?_)
              clear hr d3
              go_roundw
              case rel => exact ⟨j + 1, 2, a3, c3, by omega, by omega, by omega, by go_num, rfl, Lib.hid (HJ2.out.more (by omega))⟩
              case measure => simp [intOf]; omega
            · simp only [Nat.reduceAdd] at hr HJ2
              obtain ⟨g, o, x, rfl, hcp, hcell, HK⟩ := Sty.kill (q := 2) HJ2.out
              have h3c : (3 : Int) ≤ (c3 : Int) := by omega
              have h1c : 1 ≤ c3 := by omega
              go_wp2_with (at_builtin; refine Lib.wpList_append_run _ rfl _ _ 57 57 rfl _ _ rfl rfl _ _ hr ?_)
              clear hr d3
              go_wp2_with fail
              refine HK.out.mono ?_
              rintro e w5 ⟨rfl, hcell5, HF⟩
              clear HK HJ2 hcell
              go_wp2_with fail
              refine HF.out.mono ?_
              rintro e w6 ⟨rfl, HJ3⟩
              clear HF hcell5
              go_wp2
              go_roundw
              case rel => exact ⟨j + 1, 2, _, _, by omega, by omega, by omega, by go_num, rfl, Lib.hid (HJ3.out.more (by omega))⟩
              case measure => simp [intOf]; omega
          · have hbad : key.size = 0 ∨ 400 < key.size := by omega
            have HBD := Lib.hid (Sty.bad HJ.out key hbad)
            have HE : Hid (∀ w3, Sty c hb w (.slice a' k c') k (.slice a2 q c2) q (k + j) w3 → w3.cell? ⟨b, off + j, none⟩ = some (.string key)) := Lib.hid fun w3 h => HCE.out w3 h.bel
            rcases hbad with h0 | h0
            · have g0 : (key.size : Int) = 0 := by omega
              have g1 : ¬ (1 : Int) ≤ (key.size : Int) := by omega
              go_wp2_with fail
              refine HBD.out.mono ?_
              rintro e w3 ⟨rfl, HJ2⟩
              have d3 := HE.out w3 HJ2.out
              clear HBD HE HJ d0
              go_wp2
              go_roundw
              case rel => exact ⟨j + 1, q, a2, c2, by omega, by omega, by omega, by go_num, rfl, Lib.hid (HJ2.out.more (by omega))⟩
              case measure => simp [intOf]; omega
            · have g1 : (1 : Int) ≤ (key.size : Int) := by omega
              have g2 : ¬ (key.size : Int) ≤ 400 := by omega
              go_wp2_with fail
              refine HBD.out.mono ?_
              rintro e w3 ⟨rfl, HJ2⟩
              have d3 := HE.out w3 HJ2.out
              clear HBD HE HJ d0
              go_wp2
              go_roundw
              case rel => exact ⟨j + 1, q, a2, c2, by omega, by omega, by omega, by go_num, rfl, Lib.hid (HJ2.out.more (by omega))⟩
              case measure => simp [intOf]; omega
        · have f1 : ¬ ((j : Int) < (R : Int) ∧ (j : Int) < 200) := by omega
          rcases (by omega : ¬ (j : Int) < (R : Int) ∨ ((j : Int) < (R : Int) ∧ ¬ (j : Int) < 200)) with f2 | ⟨f2, f3⟩
          · clear f1
            obtain ⟨M, hM⟩ : ∃ M, M = k + j := ⟨_, rfl⟩
            rw [← hM] at HJ
            clear HX hM
            go_wp2
            go_loopw [20] (fun i wr => ∃ p : Nat, p ≤ k ∧ i = .int .i64 p ∧ Hid (Sty c hb w (.slice a' k c') k (.slice a2 q c2) q M wr)) (fun i _ => k - (intOf i).toNat)
            case atStart => exact ⟨0, by omega, rfl, HJ⟩
            case round =>
              obtain ⟨p, hp, rfl, HP⟩ := hrel
              clear HJ
              by_cases hpk : p < k
              · obtain ⟨g, o, t, rfl, hcell, HG⟩ := Sty.get HP.out hpk
                have f3 : (p : Int) < (k : Int) := by omega
                go_wp2_with fail
                refine HG.out.mono ?_
                rintro e w5 ⟨rfl, HP2⟩
                clear HG HP hcell
                have hcv := st_conv w5 p (by omega)
                obtain ⟨W1, hW1⟩ : ∃ W1, W1 = w5.alloc (.cells #[.int .u8 (65 + (p : Int))] 5) := ⟨_, rfl⟩
                have HI1 := Lib.hid (show Sty c hb w (.slice (some ⟨g, o, none⟩) k c') k (.slice a2 q c2) q M W1 by rw [hW1]; exact HP2.out.below ((Below.refl _ _).alloc (Nat.le_refl _) _))
                have HHW := Lib.hid hW1
                clear hW1 HP2
                have hadd := st_add p
                go_wp2
                rw [← HHW.out]
                go_roundw
                case rel => exact ⟨p + 1, by omega, by go_num, HI1⟩
                case measure => simp [intOf]; omega
              · have f3 : ¬ (p : Int) < (k : Int) := by omega
                go_wp2_with fail
                refine (Sty.tids HP.out).mono ?_
                rintro e w5 ⟨a5, c5, rfl, HB5⟩
                have HAW := Lib.hid (awake_any w5 (HT.out.below HB5.out HT.out.1))
                go_wp2_with fail
                refine HAW.out.mono ?_
                rintro e w6 ⟨rfl, hb6⟩
                have HE := Lib.hid (HB5.out.trans (hb6.mono HB5.out.size))
                clear HAW hb6
                go_wp2
                go_ret
                exact ⟨rfl, HE.out⟩
          · clear f1
            obtain ⟨M, hM⟩ : ∃ M, M = k + j := ⟨_, rfl⟩
            rw [← hM] at HJ
            clear HX hM
            go_wp2
            go_loopw [20] (fun i wr => ∃ p : Nat, p ≤ k ∧ i = .int .i64 p ∧ Hid (Sty c hb w (.slice a' k c') k (.slice a2 q c2) q M wr)) (fun i _ => k - (intOf i).toNat)
            case atStart => exact ⟨0, by omega, rfl, HJ⟩
            case round =>
              obtain ⟨p, hp, rfl, HP⟩ := hrel
              clear HJ
              by_cases hpk : p < k
              · obtain ⟨g, o, t, rfl, hcell, HG⟩ := Sty.get HP.out hpk
                have f3 : (p : Int) < (k : Int) := by omega
                go_wp2_with fail
                refine HG.out.mono ?_
                rintro e w5 ⟨rfl, HP2⟩
                clear HG HP hcell
                have hcv := st_conv w5 p (by omega)
                obtain ⟨W1, hW1⟩ : ∃ W1, W1 = w5.alloc (.cells #[.int .u8 (65 + (p : Int))] 5) := ⟨_, rfl⟩
                have HI1 := Lib.hid (show Sty c hb w (.slice (some ⟨g, o, none⟩) k c') k (.slice a2 q c2) q M W1 by rw [hW1]; exact HP2.out.below ((Below.refl _ _).alloc (Nat.le_refl _) _))
                have HHW := Lib.hid hW1
                clear hW1 HP2
                have hadd := st_add p
                go_wp2
                rw [← HHW.out]
                go_roundw
                case rel => exact ⟨p + 1, by omega, by go_num, HI1⟩
                case measure => simp [intOf]; omega
              · have f3 : ¬ (p : Int) < (k : Int) := by omega
                go_wp2_with fail
                refine (Sty.tids HP.out).mono ?_
                rintro e w5 ⟨a5, c5, rfl, HB5⟩
                have HAW := Lib.hid (awake_any w5 (HT.out.below HB5.out HT.out.1))
                go_wp2_with fail
                refine HAW.out.mono ?_
                rintro e w6 ⟨rfl, hb6⟩
                have HE := Lib.hid (HB5.out.trans (hb6.mono HB5.out.size))
                clear HAW hb6
                go_wp2
                go_ret
                exact ⟨rfl, HE.out⟩
end Go.Proofs.YtjhdfpchoepkaaaGreatDoor

set_option maxRecDepth 100000
namespace Go.Proofs.YtjhdfpchoepkaaaGreatDoor
open Go Go.ChangeShapes Go.WideShapes Go.ChangeAt Go.RowKit
open Go.ChangeMaps (open_string shut_string)

theorem laidOut : laidOutB Tryz.prog = true := by kernel_rfl
theorem cells9 : Tryz.prog.cellsOf 9 = 1 := by kernel_rfl
theorem add_plain (b off i : Nat) : (⟨b, off, none⟩ : Addr).add i = ⟨b, off + i, none⟩ := Addr.add_lit _ _ _
theorem readRecStrs : Tryz.prog.readableRec 62 = true := by kernel_rfl
section
variable {H : Type} {enc : TypeId × Value → H} {W : World} {base : Nat} {sp : Nat → Bool} {held : Bool}
/-- A list of texts that came in. -/
theorem open_keys {r : Reach} {b0 : Nat} {v : Value} {d : DataW H} {p : List MemPlace} (hv : Value.okWide Tryz.prog W r b0 62 v) (hd : DataW.Trod enc Tryz.prog W base sp held 62 v d p) :
    ∃ (a : Option Addr) (xs : List ByteArray) (c : Nat), v = .slice a xs.length c ∧ Txs W a xs ∧ (xs = [] ∨ ∃ elems spare, d = .slice elems spare ∧ ∀ x ∈ xs, DataW.lit (.string x.data.toList) ∈ elems) := by
  obtain ⟨a1, len1, cap1, rfl⟩ := okWide_slice Tryz.underlying62 hv
  obtain ⟨fuel, h⟩ := hd
  rcases open_strings Tryz.underlying62 Tryz.underlying9 cells9 h with ⟨e, _⟩ | ⟨a, len, cap, ss, e, _, hlc, hcm, hss, hx, hcell, _⟩
  · simp [Value.cells] at e
    obtain ⟨rfl, rfl, rfl⟩ := e
    exact ⟨none, [], 0, rfl, .inl rfl, .inl rfl⟩
  · simp [Value.cells] at e
    obtain ⟨rfl, rfl, rfl⟩ := e
    have hlen : len1 ≤ ss.length := by rw [hss]; split <;> omega
    have hl : (ss.take len1).length = len1 := by rw [List.length_take]; omega
    refine ⟨some a, ss.take len1, cap1, by rw [hl], ?_, .inr ⟨_, _, congrArg Prod.fst hx, fun x hm => List.mem_map.2 ⟨x, hm, rfl⟩⟩⟩
    cases len1 with
    | zero => exact .inl (by simp)
    | succ n =>
      obtain ⟨b, off, spot⟩ := a
      have h0 := hcell 0 (by omega)
      have hspot : spot = none := by simpa [Addr.add] using World.cell?_spot h0
      subst hspot
      refine .inr ⟨b, off, rfl, ?_, fun j hj => ?_⟩
      · rw [add_plain] at h0
        unfold World.cell? at h0
        split at h0
        · rename_i hh
          exact (Array.getElem?_eq_some_iff.1 hh).1
        · cases h0
      · rw [hl] at hj
        have := hcell j (by omega)
        rw [add_plain] at this
        rw [this, List.getElem_take, List.getD_eq_getElem?_getD, List.getElem?_eq_getElem (by omega)]
        rfl
end
theorem heapStays_met (os : Os) (args : Array Value) : laidMetH Tryz.prog listed ((World.doorLaid Tryz.prog 4000 os).forCall (fun _ _ => 0) ⟨#[], args, []⟩).memory :=
  laidMetH_of_parts3 (fuel := 8) (laidMet_of_run' 8 (by kernel_rfl) (by kernel_rfl)) (by kernel_rfl) (by kernel_rfl)

set_option maxHeartbeats 1600000 in
theorem heapStays_lifted (os : Os) (started : os.Started) (H : Type) (enc : TypeId × Value → H) :
    ReturnsInHanded {} Tryz.checked os 9 .any (fun w args => (Rows.heapStaysSpec.pre enc Tryz.prog Tryz.f9 [] false w args ∧ laidMetH Tryz.prog listed w) ∧ sizedMet enc Tryz.prog Tryz.f9 (OpenSpec.ofChange Rows.heapStaysSpec) false w args)
      (Rows.heapStaysSpec.post enc Tryz.prog Tryz.f9 false true false false) := by
  refine returnsInHanded_of_change_and (C := Tryz.checked) (X := fun w _ => laidMetH Tryz.prog listed w) (fun _ _ _ hh h => h.of_heap hh) ownS started (by kernel_rfl) Tryz.func9
    (ChangeSpec.witness_shaped (enc := enc) (C := Tryz.checked) (os := os) (X := fun w _ => laidMetH Tryz.prog listed w) false (World.doorLaid Tryz.prog 4000 os) #[.int .i64 0, .slice none 0 0] 8 rfl (World.shaped_of_RefB (by kernel_rfl) (by kernel_rfl)) (by kernel_rfl) (by kernel_rfl) (by kernel_rfl) (heapStays_met os _)) ?_
  intro W base args ds gs before hval0 hW _ hsz0 hL _
  have hval : ∀ (j : Nat) t v, Tryz.f9.params[j]? = some t → args[j]? = some v → Value.okWide Tryz.prog W .any base t v := hval0
  have hsz : (DataW.weightsEach Tryz.prog (Tryz.f9.params.toList ++ Rows.heapStaysSpec.plain.varTypes Tryz.prog) (ds ++ gs)).all (· ≤ reachBytes) = true := hsz0
  have hW' := hW
  obtain ⟨p, q, hA0, hV, rfl, hfz, hnd⟩ := hW
  have hA : DataW.TrodAll enc Tryz.prog W 0 (fun _ => true) true Tryz.f9.params.toList args.toList ds p := hA0
  rw [Tryz.params9] at hA hval hsz
  obtain ⟨v0, v1, d0, d1, p0, p1, rfl, rfl, rfl, h0, h1⟩ := trodAll_two hA
  obtain ⟨rfl, rfl⟩ := trodVars_none hV
  obtain ⟨n0, rfl, rfl, rfl, wa⟩ := open_int Tryz.underlying3 (hval 0 3 v0 rfl rfl) h0
  obtain ⟨a1, xs1, lc1, rfl, hS1, hd1⟩ := open_keys (hval 1 62 v1 rfl rfl) h1
  clear hA0 hval0 hsz0
  simp only [List.append_nil, List.nil_append] at hW'
  have hlt1 : ∀ x ∈ p1, x.block < W.heap.size := fun x hx => hW'.lt x (by simp [hx])
  refine (heapStays_walk n0 a1 xs1 lc1 W (laid_of hL) hS1).mono fun e W' ⟨he, hb⟩ => ?_
  subst he
  refine ⟨_, rfl, _, _, _, [], p1, [], hW', ?_, ?_, ?_, hb.frame _, fun h => by cases h⟩
  · exact trodAll_mk1 (shut_bool Tryz.underlying4 _)
  · have h := trodAll_mk2 (shut_int Tryz.underlying3 wa) (Below.trod laidOut readRecStrs (of_decide_eq_true (by kernel_rfl)) h1 hb hlt1)
    simp only [List.nil_append] at h
    exact h
  · rfl

theorem heapStays_said : Rows.HeapStaysSaid :=
  OpenClaim.holds_of_wide 9 Tryz.f9 rfl rfl rfl rfl rfl rfl rfl ⟨rfl, rfl, rfl, rfl, rfl⟩ rfl rfl rfl rfl rfl (by kernel_rfl) Tryz.func9 (by kernel_rfl)
    (of_decide_eq_true (by kernel_rfl)) (by unfold Func.isWrapper; rw [if_neg (of_decide_eq_false (by kernel_rfl))]; exact ⟨rfl, rfl⟩)
    (fun os started H enc _ => heapStays_lifted os started H enc)

theorem heapStays_holds : Rows.HeapStaysCardSaid :=
  Claim7.holds_tied_plain_at .later [] [.data] true (true, "63e338a3631e277fdbf87d39920ea12ee42c98963aada10cc5d66bf97678c9b1") false
    heapStays_said (fun _ h => by cases h) (by kernel_rfl) (fun _ h => by cases h) heapStays_row_tie rfl ⟨rfl, rfl⟩ (by kernel_rfl) rfl
    (fun f fn hf hfn => by
      obtain rfl : f = 9 := Option.some.inj ((show Tryz.prog.funcNamed "vestibule/vestibulelaw07.HeapStays" = some 9 by kernel_rfl).symm.trans hf) |>.symm
      obtain rfl : fn = Tryz.f9 := (Option.some.inj (Tryz.func9.symm.trans hfn)).symm
      exact ⟨by kernel_rfl, fun j t ht => by
        rw [Tryz.params9] at ht
        have hm : t ∈ [3, 62] := List.mem_of_getElem? (by simpa using ht)
        have hall : ∀ t ∈ [3, 62], Tryz.prog.wantsStandIn t = false := by
          intro t ht
          simp only [List.mem_cons, List.not_mem_nil, or_false] at ht
          rcases ht with rfl | rfl <;> kernel_rfl
        exact hall t hm⟩)
    (by kernel_rfl)
#print axioms heapStays_holds
end Go.Proofs.YtjhdfpchoepkaaaGreatDoor
