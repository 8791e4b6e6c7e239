/- The law's own pages while a page is added: three rows, each by one append. No program's function is met here. -/
import Derived.Test.YtnmeobbbcccgjaaPY
set_option maxRecDepth 100000
namespace Go.Proofs.Ytnmeobbbcccgjaa
open Go Go.RowKit

/-- The law's pages, row by row. -/
structure PgX (T : Nat → Prop) (g n : Nat) (A : List Nat) (R : List (List UInt8)) (Q : List Nat) (va vb vp : Value) (bs : List Nat) (w : World) : Prop where
  own : T g
  blk : w.heap[g]? = some (.cells #[.int .i64 n, va, vb, vp] 34 (0, 0))
  at_ : w.ownsRow 0 3 1 va A.length (natVals A)
  rows : w.ownsRow 0 44 1 vb R.length (bs.map rowVal)
  pins : w.ownsRow 0 3 1 vp Q.length (natVals Q)
  bytes : ∀ (i b : Nat) (r : List UInt8), bs[i]? = some b → R[i]? = some r → w.heap[b]? = some (.cells (Lib.byteCells r).toArray 5 (0, 0))
  nodup : bs.Nodup
  footA : ∀ k, va.ownBlock = some k → T k
  footB : ∀ k, vb.ownBlock = some k → T k
  footP : ∀ k, vp.ownBlock = some k → T k
  footR : ∀ b, b ∈ bs → T b
  ap : ∀ k, va.ownBlock = some k → vp.ownBlock ≠ some k

section
variable {T : Nat → Prop} {g n : Nat} {A Q : List Nat} {R : List (List UInt8)} {va vb vp v' : Value} {bs : List Nat} {w w' w2 : World} {L : List Pg}
theorem PgF.toX (h : PgF T g n L va vb vp bs w) : PgX T g n (L.map (·.page)) (L.map (·.bytes)) (L.map (·.pins)) va vb vp bs w :=
  ⟨h.own, h.blk, by rw [List.length_map]; exact h.at_, by rw [List.length_map]; exact h.rows, by rw [List.length_map]; exact h.pins, fun i b r hb hr => by
    rw [List.getElem?_map] at hr
    cases he : L[i]? with
    | none => rw [he] at hr; cases hr
    | some e => rw [he] at hr; cases hr; exact h.bytes i b e hb he, h.nodup, h.footA, h.footB, h.footP, h.footR, h.ap⟩
theorem PgX.toF (h : PgX T g n (L.map (·.page)) (L.map (·.bytes)) (L.map (·.pins)) va vb vp bs w) : PgF T g n L va vb vp bs w := by
  have h1 := h.at_; have h2 := h.rows; have h3 := h.pins
  rw [List.length_map] at h1 h2 h3
  exact ⟨h.own, h.blk, h1, h2, h3, fun i b e hb he => h.bytes i b e.bytes hb (by rw [List.getElem?_map, he]; rfl), h.nodup, h.footA, h.footB, h.footP, h.footR, h.ap⟩
theorem PgX.mono {T' : Nat → Prop} (h : PgX T g n A R Q va vb vp bs w) (hT : ∀ k, T k → T' k) : PgX T' g n A R Q va vb vp bs w :=
  ⟨hT _ h.own, h.blk, h.at_, h.rows, h.pins, h.bytes, h.nodup, fun k hk => hT k (h.footA k hk), fun k hk => hT k (h.footB k hk), fun k hk => hT k (h.footP k hk), fun b hb => hT b (h.footR b hb), h.ap⟩
theorem PgX.lt (h : PgX T g n A R Q va vb vp bs w) : g < w.heap.size := (Array.getElem?_eq_some_iff.1 h.blk).1
theorem PgX.lenB (h : PgX T g n A R Q va vb vp bs w) : bs.length = R.length := by have := h.rows.1; simpa using this
theorem PgX.rowAt (h : PgX T g n A R Q va vb vp bs w) {b : Nat} (hb : b ∈ bs) : ∃ r : List UInt8, w.heap[b]? = some (.cells (Lib.byteCells r).toArray 5 (0, 0)) := by
  obtain ⟨i, hi, rfl⟩ := List.getElem_of_mem hb
  exact ⟨_, h.bytes i _ _ (List.getElem?_eq_getElem hi) (List.getElem?_eq_getElem (by rw [← h.lenB]; exact hi))⟩

theorem PgX.below (h : PgX T g n A R Q va vb vp bs w) (hb : Below w.heap.size w w') : PgX T g n A R Q va vb vp bs w' :=
  ⟨h.own, (hb.block g h.lt).trans h.blk, ownsRow_of_block h.at_ (fun k hk => hb.block k (h.at_.lt k hk).2), ownsRow_of_block h.rows (fun k hk => hb.block k (h.rows.lt k hk).2), ownsRow_of_block h.pins (fun k hk => hb.block k (h.pins.lt k hk).2),
    fun i b r hi hr => by have := h.bytes i b r hi hr; rw [hb.block b (Array.getElem?_eq_some_iff.1 this).1]; exact this, h.nodup, h.footA, h.footB, h.footP, h.footR, h.ap⟩

/-- The block of the three rows' slices, behind a store of one of them. -/
theorem setCell_three (hb : w2.heap[g]? = some (.cells #[.int .i64 n, va, vb, vp] 34 (0, 0))) : (w2.setCell ⟨g, 1, none⟩ v').heap[g]? = some (.cells #[.int .i64 n, v', vb, vp] 34 (0, 0)) ∧ (w2.setCell ⟨g, 2, none⟩ v').heap[g]? = some (.cells #[.int .i64 n, va, v', vp] 34 (0, 0)) ∧ (w2.setCell ⟨g, 3, none⟩ v').heap[g]? = some (.cells #[.int .i64 n, va, vb, v'] 34 (0, 0)) := by
  refine ⟨?_, ?_, ?_⟩
  all_goals
    simp only [World.setCell, Array.getElem?_modify, if_true, hb, Option.map_some]
    rfl

theorem PgX.pushA (h : PgX T g n A R Q va vb vp bs w) (hT : ∀ k, w.heap.size ≤ k → T k) {q : Nat} (hg : Grew w w2 va v') (ho : w2.ownsRow 0 3 1 v' (A.length + 1) (natVals A ++ [.int .i64 q])) :
    PgX T g n (A ++ [q]) R Q v' vb vp bs (w2.setCell ⟨g, 1, none⟩ v') ∧ Kept T w (w2.setCell ⟨g, 1, none⟩ v') := by
  have hgA : va.ownBlock ≠ some g := fun e => by obtain ⟨c, hc⟩ := row_block h.at_ e; exact block_ne h.blk hc (by decide) rfl
  have hb2 := (hg.1.block g h.lt (fun e => hgA e.symm)).trans h.blk
  have hset : ∀ k, k ≠ g → (w2.setCell ⟨g, 1, none⟩ v').heap[k]? = w2.heap[k]? := fun k hk => Below.heap_setCell _ _ _ _ hk
  have far : ∀ k (c : Array Value) (e : TypeId), e ≠ 3 → e ≠ 34 → w.heap[k]? = some (Obj.cells c e (0, 0)) → (w2.setCell ⟨g, 1, none⟩ v').heap[k]? = w.heap[k]? := fun k c e h3 h34 hk => by
    rw [hset k (fun e' => block_ne hk h.blk h34 e')]
    exact hg.1.block k (Array.getElem?_eq_some_iff.1 hk).1 (fun e' => by obtain ⟨c', hc'⟩ := row_block h.at_ e'.symm; exact block_ne hk hc' h3 rfl)
  refine ⟨⟨h.own, (setCell_three hb2).1, ?_, ?_, ?_, fun i b r hi hr => ?_, h.nodup, fun k hk => ?_, h.footB, h.footP, h.footR, fun k hk hp => ?_⟩, ?_⟩
  · have e1 : natVals (A ++ [q]) = natVals A ++ [.int .i64 q] := by simp [natVals]
    rw [e1, List.length_append, List.length_singleton]
    refine ownsRow_of_block ho (fun k hk => hset k (fun e => ?_))
    subst e
    rcases hg.2 k hk with h1 | h1
    · exact hgA h1
    · have := h.lt; omega
  · refine ownsRow_of_block h.rows (fun k hk => ?_)
    obtain ⟨c, hc⟩ := row_block h.rows hk
    exact far k c 44 (by decide) (by decide) hc
  · refine ownsRow_of_block h.pins (fun k hk => ?_)
    obtain ⟨c, hc⟩ := row_block h.pins hk
    rw [hset k (fun e' => block_ne hc h.blk (by decide) e')]
    exact hg.1.block k (h.pins.lt k hk).2 (fun e' => h.ap k e'.symm hk)
  · have := h.bytes i b r hi hr
    rw [far b _ 5 (by decide) (by decide) this]; exact this
  · rcases hg.2 k hk with h1 | h1
    · exact h.footA k h1
    · exact hT k h1
  · rcases hg.2 k hk with h1 | h1
    · exact h.ap k h1 hp
    · have := (h.pins.lt k hp).2; omega
  · exact (Kept.ofGrown hg.1 (fun k hk => h.footA k hk)).trans (Kept.setCell T w2 h.own v') (fun _ h => .inl h)

theorem PgX.pushP (h : PgX T g n A R Q va vb vp bs w) (hT : ∀ k, w.heap.size ≤ k → T k) {q : Nat} (hg : Grew w w2 vp v') (ho : w2.ownsRow 0 3 1 v' (Q.length + 1) (natVals Q ++ [.int .i64 q])) :
    PgX T g n A R (Q ++ [q]) va vb v' bs (w2.setCell ⟨g, 3, none⟩ v') ∧ Kept T w (w2.setCell ⟨g, 3, none⟩ v') := by
  have hgA : vp.ownBlock ≠ some g := fun e => by obtain ⟨c, hc⟩ := row_block h.pins e; exact block_ne h.blk hc (by decide) rfl
  have hb2 := (hg.1.block g h.lt (fun e => hgA e.symm)).trans h.blk
  have hset : ∀ k, k ≠ g → (w2.setCell ⟨g, 3, none⟩ v').heap[k]? = w2.heap[k]? := fun k hk => Below.heap_setCell _ _ _ _ hk
  have far : ∀ k (c : Array Value) (e : TypeId), e ≠ 3 → e ≠ 34 → w.heap[k]? = some (Obj.cells c e (0, 0)) → (w2.setCell ⟨g, 3, none⟩ v').heap[k]? = w.heap[k]? := fun k c e h3 h34 hk => by
    rw [hset k (fun e' => block_ne hk h.blk h34 e')]
    exact hg.1.block k (Array.getElem?_eq_some_iff.1 hk).1 (fun e' => by obtain ⟨c', hc'⟩ := row_block h.pins e'.symm; exact block_ne hk hc' h3 rfl)
  refine ⟨⟨h.own, (setCell_three hb2).2.2, ?_, ?_, ?_, fun i b r hi hr => ?_, h.nodup, h.footA, h.footB, fun k hk => ?_, h.footR, fun k hk hp => ?_⟩, ?_⟩
  · refine ownsRow_of_block h.at_ (fun k hk => ?_)
    obtain ⟨c, hc⟩ := row_block h.at_ hk
    rw [hset k (fun e' => block_ne hc h.blk (by decide) e')]
    exact hg.1.block k (h.at_.lt k hk).2 (fun e' => h.ap k hk e'.symm)
  · refine ownsRow_of_block h.rows (fun k hk => ?_)
    obtain ⟨c, hc⟩ := row_block h.rows hk
    exact far k c 44 (by decide) (by decide) hc
  · have e1 : natVals (Q ++ [q]) = natVals Q ++ [.int .i64 q] := by simp [natVals]
    rw [e1, List.length_append, List.length_singleton]
    refine ownsRow_of_block ho (fun k hk => hset k (fun e => ?_))
    subst e
    rcases hg.2 k hk with h1 | h1
    · exact hgA h1
    · have := h.lt; omega
  · have := h.bytes i b r hi hr
    rw [far b _ 5 (by decide) (by decide) this]; exact this
  · rcases hg.2 k hk with h1 | h1
    · exact h.footP k h1
    · exact hT k h1
  · rcases hg.2 k hp with h1 | h1
    · exact h.ap k hk h1
    · have := (h.at_.lt k hk).2; omega
  · exact (Kept.ofGrown hg.1 (fun k hk => h.footP k hk)).trans (Kept.setCell T w2 h.own v') (fun _ h => .inl h)

theorem PgX.pushB (h : PgX T g n A R Q va vb vp bs w) (hT : ∀ k, w.heap.size ≤ k → T k) {b0 : Nat} {r0 : List UInt8} (hb0 : w.heap[b0]? = some (.cells (Lib.byteCells r0).toArray 5 (0, 0))) (hnew : b0 ∉ bs) (hTb : T b0) (hg : Grew w w2 vb v') (ho : w2.ownsRow 0 44 1 v' (R.length + 1) (bs.map rowVal ++ [rowVal b0])) :
    PgX T g n A (R ++ [r0]) Q va v' vp (bs ++ [b0]) (w2.setCell ⟨g, 2, none⟩ v') ∧ Kept T w (w2.setCell ⟨g, 2, none⟩ v') := by
  have hgA : vb.ownBlock ≠ some g := fun e => by obtain ⟨c, hc⟩ := row_block h.rows e; exact block_ne h.blk hc (by decide) rfl
  have hb2 := (hg.1.block g h.lt (fun e => hgA e.symm)).trans h.blk
  have hset : ∀ k, k ≠ g → (w2.setCell ⟨g, 2, none⟩ v').heap[k]? = w2.heap[k]? := fun k hk => Below.heap_setCell _ _ _ _ hk
  have far : ∀ k (c : Array Value) (e : TypeId), e ≠ 44 → e ≠ 34 → w.heap[k]? = some (Obj.cells c e (0, 0)) → (w2.setCell ⟨g, 2, none⟩ v').heap[k]? = w.heap[k]? := fun k c e h3 h34 hk => by
    rw [hset k (fun e' => block_ne hk h.blk h34 e')]
    exact hg.1.block k (Array.getElem?_eq_some_iff.1 hk).1 (fun e' => by obtain ⟨c', hc'⟩ := row_block h.rows e'.symm; exact block_ne hk hc' h3 rfl)
  have hlB := h.lenB
  refine ⟨⟨h.own, (setCell_three hb2).2.1, ?_, ?_, ?_, fun i b r hi hr => ?_, ?_, h.footA, fun k hk => ?_, h.footP, fun b hb => ?_, h.ap⟩, ?_⟩
  · refine ownsRow_of_block h.at_ (fun k hk => ?_)
    obtain ⟨c, hc⟩ := row_block h.at_ hk
    exact far k c 3 (by decide) (by decide) hc
  · rw [List.map_append, List.length_append, List.length_singleton]
    refine ownsRow_of_block ho (fun k hk => hset k (fun e => ?_))
    subst e
    rcases hg.2 k hk with h1 | h1
    · exact hgA h1
    · have := h.lt; omega
  · refine ownsRow_of_block h.pins (fun k hk => ?_)
    obtain ⟨c, hc⟩ := row_block h.pins hk
    exact far k c 3 (by decide) (by decide) hc
  · by_cases hib : i < bs.length
    · rw [List.getElem?_append_left hib] at hi
      rw [List.getElem?_append_left (by omega)] at hr
      have := h.bytes i b r hi hr
      rw [far b _ 5 (by decide) (by decide) this]; exact this
    · rw [List.getElem?_append_right (by omega)] at hi
      rw [List.getElem?_append_right (by omega)] at hr
      have hi0 : i - bs.length = 0 := by
        have := (List.getElem?_eq_some_iff.1 hi).1
        simp at this; omega
      rw [hi0] at hi
      rw [show i - R.length = 0 by omega] at hr
      simp at hi hr
      subst hi hr
      rw [far _ _ 5 (by decide) (by decide) hb0]; exact hb0
  · exact List.nodup_append.2 ⟨h.nodup, by simp, fun a ha b hb e => by simp at hb; subst hb; subst e; exact hnew ha⟩
  · rcases hg.2 k hk with h1 | h1
    · exact h.footB k h1
    · exact hT k h1
  · rcases List.mem_append.1 hb with hb | hb
    · exact h.footR b hb
    · simp at hb; subst hb; exact hTb
  · exact (Kept.ofGrown hg.1 (fun k hk => h.footB k hk)).trans (Kept.setCell T w2 h.own v') (fun _ h => .inl h)
end

theorem infoRow : (Try.prog.info? 44).map (fun i => (i.zero, i.size, i.bytes)) = some (some (.slice none 0 0), 1, 24) := by kernel_rfl

/-- 'append(at, x)'. -/
theorem append_nat (w : World) (v : Value) (l : List Nat) (x : Nat) (h : w.ownsRow 0 3 1 v l.length (natVals l)) (hl : l.length ≤ 1048576) (ad : Addr) (c : Nat) (hc : w.cell? ad = some (.int .i64 x)) (ty : TypeId) :
    ∃ v' w', (Builtin.append_ #[31, 31] ty #[v, .slice (some ad) 1 c]).run Try.prog w = .ok v' w' ∧ w'.ownsRow 0 3 1 v' (l.length + 1) (natVals l ++ [.int .i64 x]) ∧ Grew w w' v v' := by
  obtain ⟨i, hi, hz, hs, hby⟩ := info_parts infoInt
  exact append_own2 w 31 ty 3 i (.int .i64 0) 1 8 Try.underlying31 hi hz hs hby rfl (by decide) v l.length (natVals l) h ad 1 c [.int .i64 x] rfl (fun j u hu => by
    have : j = 0 := by have := (List.getElem?_eq_some_iff.1 hu).1; simp at this; exact this
    subst this
    simp at hu
    subst hu
    rw [show ad.add 0 = ad by cases ad with | mk b o sp => cases sp <;> simp [Addr.add]]
    exact hc) (fun u hu => by simp at hu; subst hu; rfl) (by unfold maxLen; omega) (by omega) (by omega)
/-- 'append(rows, r)'. -/
theorem append_row (w : World) (v : Value) (bs : List Nat) (m b0 : Nat) (h : w.ownsRow 0 44 1 v m (bs.map rowVal)) (hl : m ≤ 1048576) (ad : Addr) (c : Nat) (hc : w.cell? ad = some (rowVal b0)) (ty : TypeId) :
    ∃ v' w', (Builtin.append_ #[32, 32] ty #[v, .slice (some ad) 1 c]).run Try.prog w = .ok v' w' ∧ w'.ownsRow 0 44 1 v' (m + 1) (bs.map rowVal ++ [rowVal b0]) ∧ Grew w w' v v' := by
  obtain ⟨i, hi, hz, hs, hby⟩ := info_parts infoRow
  exact append_own2 w 32 ty 44 i (.slice none 0 0) 1 24 Try.underlying32 hi hz hs hby rfl (by decide) v m (bs.map rowVal) h ad 1 c [rowVal b0] rfl (fun j u hu => by
    have : j = 0 := by have := (List.getElem?_eq_some_iff.1 hu).1; simp at this; exact this
    subst this
    simp at hu
    subst hu
    rw [show ad.add 0 = ad by cases ad with | mk b o sp => cases sp <;> simp [Addr.add]]
    exact hc) (fun u hu => by simp at hu; subst hu; rfl) (by unfold maxLen; omega) (by omega) (by omega)
end Go.Proofs.Ytnmeobbbcccgjaa
