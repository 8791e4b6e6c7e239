/- What stands while runs are put together. -/
import Derived.Test.YtgegljbocacdnaaOL
set_option maxRecDepth 100000
namespace Go.Proofs.Ytgegljbocacdnaa
open Go.RowKit

/-- What is told so far, and what the heads have still to tell. -/
structure MInv (all out : List ByteArray) (ks : List Nat) (T : Nat → List ByteArray) : Prop where
  rise : Rise out
  perm : (out ++ ks.flatMap T).Perm all
  low : ∀ x, x ∈ out → ∀ q, q ∈ ks → ∀ y, y ∈ T q → leS x y
  each : ∀ q, q ∈ ks → Rise (T q)
theorem MInv.to {all out : List ByteArray} {ks ks' : List Nat} {T : Nat → List ByteArray} (h : MInv all out ks T) (hp : ks'.Perm ks) : MInv all out ks' T :=
  ⟨h.rise, ((hp.flatMap_right T).append_left out).trans h.perm, fun x hx q hq => h.low x hx q (hp.mem_iff.1 hq), fun q hq => h.each q (hp.mem_iff.1 hq)⟩
theorem MInv.drop {all out : List ByteArray} {q : Nat} {ks : List Nat} {T : Nat → List ByteArray} (h : MInv all out (q :: ks) T) (hq : T q = []) : MInv all out ks T :=
  ⟨h.rise, by have := h.perm; rw [List.flatMap_cons, hq, List.nil_append] at this; exact this, fun x hx q' hq' => h.low x hx q' (List.mem_cons_of_mem _ hq'), fun q' hq' => h.each q' (List.mem_cons_of_mem _ hq')⟩
theorem MInv.step {all out : List ByteArray} {q : Nat} {ks : List Nat} {T T' : Nat → List ByteArray} {t : ByteArray} {r : List ByteArray} (h : MInv all out (q :: ks) T) (hn : q ∉ ks) (hq : T q = t :: r) (hl : ∀ q', q' ∈ ks → ∀ y, y ∈ T q' → leS t y) (h1 : T' q = r) (h2 : ∀ k, k ≠ q → T' k = T k) : MInv all (out ++ [t]) (q :: ks) T' := by
  have hT : ∀ k, k ∈ ks → T' k = T k := fun k hk => h2 k (fun e => hn (e ▸ hk))
  have hf : ks.flatMap T' = ks.flatMap T := by
    rw [List.flatMap_def, List.flatMap_def, List.map_congr_left hT]
  have hr := h.each q (List.mem_cons_self ..)
  rw [hq] at hr
  obtain ⟨hr1, hr2⟩ := List.pairwise_cons.1 hr
  refine ⟨?_, ?_, fun x hx q' hq' y hy => ?_, fun q' hq' => ?_⟩
  · refine List.pairwise_append.2 ⟨h.rise, List.pairwise_singleton _ _, fun x hx y hy => ?_⟩
    rw [List.mem_singleton] at hy
    subst hy
    exact h.low x hx q (List.mem_cons_self ..) _ (by rw [hq]; exact List.mem_cons_self ..)
  · have := h.perm
    rw [List.flatMap_cons, hq] at this
    rw [List.flatMap_cons, h1, hf]
    simpa using this
  · rcases List.mem_append.1 hx with hx | hx
    · rcases List.mem_cons.1 hq' with rfl | hq'
      · exact h.low x hx q' (List.mem_cons_self ..) y (by rw [hq]; rw [h1] at hy; exact List.mem_cons_of_mem _ hy)
      · exact h.low x hx q' (List.mem_cons_of_mem _ hq') y (by rw [← hT q' hq']; exact hy)
    · rw [List.mem_singleton] at hx
      subst hx
      rcases List.mem_cons.1 hq' with rfl | hq'
      · exact hr1 y (by rw [h1] at hy; exact hy)
      · exact hl q' hq' y (by rw [← hT q' hq']; exact hy)
  · rcases List.mem_cons.1 hq' with rfl | hq'
    · rw [h1]; exact hr2
    · rw [hT q' hq']; exact h.each q' (List.mem_cons_of_mem _ hq')
/-- The first head's text is below all others. -/
theorem least_all {T : Nat → List ByteArray} {ks ks' : List Nat} {t : ByteArray} {r : List ByteArray} (hp : (ks.getD 0 0 :: ks').Perm ks) (hH : HpF (keyT T) ks ks.length 0) (hq : T (ks.getD 0 0) = t :: r) (he : ∀ q, q ∈ ks → Rise (T q)) : ∀ q', q' ∈ ks' → ∀ y, y ∈ T q' → leS t y := by
  intro q' hq' y hy
  have hm : q' ∈ ks := hp.mem_iff.1 (List.mem_cons_of_mem _ hq')
  obtain ⟨j, hj, rfl⟩ := List.getElem_of_mem hm
  have h1 := hH.least j hj
  rw [getD_eq ks j hj] at h1
  have hk : keyT T (ks.getD 0 0) = t := by rw [keyT, hq]; rfl
  rw [hk] at h1
  cases hT : T ks[j] with
  | nil => rw [hT] at hy; cases hy
  | cons a l =>
    have hk2 : keyT T ks[j] = a := by rw [keyT, hT]; rfl
    rw [hk2] at h1
    have hr := he _ hm
    rw [hT] at hr hy
    rcases List.mem_cons.1 hy with rfl | hy
    · exact h1
    · exact leS_trans h1 ((List.pairwise_cons.1 hr).1 y hy)

/-! ### Memory -/
theorem HK.ofNone {B : Nat} {w w' : World} (hg : w.grownBy w' none) (hB : B ≤ w.heap.size) : HK B w w' :=
  ⟨⟨hg.os, hg.tape, hg.output, hg.size, fun k hk => hg.block k (by omega) (fun e => by cases e)⟩, fun k cs T m _ _ h3 => by rw [hg.block k (Array.getElem?_eq_some_iff.1 h3).1 (fun e => by cases e)]; exact h3⟩
theorem Strs.hk {B : Nat} {w w' : World} {v : Value} {rs : List ByteArray} (h : Strs B w v rs) (hk : HK B w w') : Strs B w' v rs := by
  refine ownsRow_of_block h fun k hb => ?_
  rcases h.2 with ⟨rfl, _⟩ | ⟨g, cap, cur, rfl, _, hg, _⟩
  · cases hb
  · injection hb with hb
    have hb' : g = k := hb
    subst hb'
    rw [hg]; exact hk.other g _ _ _ (by decide) (by decide) hg
/-- Texts' own row and other rows have different blocks. -/
theorem Strs.ne {B : Nat} {w : World} {v : Value} {rs : List ByteArray} (h : Strs B w v rs) {k : Nat} {cs : Array Value} {T : TypeId} {m : Nat × Nat} (hk : w.heap[k]? = some (Obj.cells cs T m)) (hT : T ≠ 9) : v.ownBlock ≠ some k := by
  rcases h.2 with ⟨rfl, _⟩ | ⟨g, cap, cur, rfl, _, hg, _⟩
  · intro e; cases e
  · intro e
    injection e with e
    have e' : g = k := e
    subst e'
    rw [hg] at hk
    injection hk with hk
    injection hk with _ h9 _
    exact hT h9.symm
theorem St.grown {W0 : World} {hb : Nat} {ks : List Nat} {T : Nat → List ByteArray} {v : Value} {out : List ByteArray} {w w' : World} (h : St W0 hb ks T w) (ho : Strs W0.heap.size w v out) (hg : w.grownBy w' v.ownBlock) : St W0 hb ks T w' := by
  have hsame : ∀ k cs (T : TypeId) m, T ≠ 9 → w.heap[k]? = some (Obj.cells cs T m) → w'.heap[k]? = w.heap[k]? := fun k cs T m hT hk => hg.block k (Array.getElem?_eq_some_iff.1 hk).1 (fun e => ho.ne hk hT e.symm)
  obtain ⟨v1, h1⟩ := h.hs
  refine ⟨⟨v1, ⟨(hsame hb _ _ _ (by decide) h1.blk).trans h1.blk, ownsRow_of_block h1.row fun k hk => ?_, h1.ge⟩⟩, fun q hq => ⟨(h.hd q hq).1, ?_⟩, h.nd, h.bel.trans ⟨hg.os, hg.tape, hg.output, hg.size, fun k hk => hg.block k (Nat.lt_of_lt_of_le hk h.bel.size) (fun e => by have := (ho.lt k e.symm).1; omega)⟩⟩
  · rcases h1.row.2 with ⟨rfl, _⟩ | ⟨g, cap, cur, rfl, _, hgg, _⟩
    · cases hk
    · injection hk with hk
      have hk' : g = k := hk
      subst hk'
      exact hsame g _ _ _ (by decide) hgg
  · obtain ⟨t, r, v2, h3, h4, h5⟩ := (h.hd q hq).2
    exact ⟨t, r, v2, h3, (hsame q _ _ _ (by decide) h4).trans h4, h5⟩
/-- One of the heads has moved on: it is out of the heap then. -/
theorem St.moved {W0 : World} {hb q : Nat} {ks : List Nat} {T : Nat → List ByteArray} {l : List ByteArray} {w w' : World} (h : St W0 hb ks T w) (hB : W0.heap.size ≤ q) (h0 : HdAt W0 q l w) (hq : q ∉ ks) (hg : w.grownBy w' (some q)) : St W0 hb ks T w' := by
  obtain ⟨t0, r0, v0, _, hq54, _⟩ := h0
  obtain ⟨v1, h1⟩ := h.hs
  have hne : ∀ k cs (T : TypeId) m, T ≠ 54 → w.heap[k]? = some (Obj.cells cs T m) → w'.heap[k]? = w.heap[k]? := fun k cs T m hT hk => hg.block k (Array.getElem?_eq_some_iff.1 hk).1 (fun e => by
    injection e with e
    subst e
    rw [hq54] at hk
    injection hk with hk
    injection hk with _ h9 _
    exact hT h9.symm)
  refine ⟨⟨v1, ⟨(hne hb _ _ _ (by decide) h1.blk).trans h1.blk, ownsRow_of_block h1.row fun k hk => ?_, h1.ge⟩⟩, fun p hp => ⟨(h.hd p hp).1, ?_⟩, h.nd, h.bel.trans ⟨hg.os, hg.tape, hg.output, hg.size, fun k hk => hg.block k (Nat.lt_of_lt_of_le hk h.bel.size) (fun e => by injection e with e; omega)⟩⟩
  · rcases h1.row.2 with ⟨rfl, _⟩ | ⟨g, cap, cur, rfl, _, hgg, _⟩
    · cases hk
    · injection hk with hk
      have hk' : g = k := hk
      subst hk'
      exact hne g _ _ _ (by decide) hgg
  · have hpq : p ≠ q := fun e => hq (e ▸ hp)
    exact (h.hd p hp).2.same (hg.block p (h.hd p hp).2.lt (fun e => by injection e with e; exact hpq e))
theorem Strs.moved {B q : Nat} {w w' : World} {v : Value} {rs : List ByteArray} {cs : Array Value} (h : Strs B w v rs) (hq : w.heap[q]? = some (Obj.cells cs 54 (0, 0))) (hg : w.grownBy w' (some q)) : Strs B w' v rs :=
  h.kept hg (.inr (h.ne hq (by decide)))
/-- A text is put behind those that are told. -/
theorem append_text (w : World) (B : Nat) (v : Value) (rs : List ByteArray) (s : ByteArray) (h : Strs B w v rs) (hl : rs.length < 4194304) (hB : B ≤ w.heap.size) (ty : TypeId) :
    ∃ v' w', (Builtin.append_ #[22, 22] ty #[v, .slice (some ⟨w.heap.size, 0, none⟩) 1 1]).run Try.prog (w.alloc (.cells #[.string s] 9)) = .ok v' w' ∧ Strs B w' v' (rs ++ [s]) ∧ (w.alloc (.cells #[.string s] 9)).grownBy w' v.ownBlock := by
  obtain ⟨i0, hi, q0, q1, q2⟩ := info_parts infoStr
  obtain ⟨v', w', hr, h2, h3, _⟩ := run_append_own (P := Try.prog) (w.alloc (.cells #[.string s] 9)) B 22 ty 9 i0 (.string ⟨#[]⟩) 1 16 Try.underlying22 hi q0 q1 q2 rfl (by decide) v rs.length (rs.map .string) (World.ownsRow.alloc h _) ⟨w.heap.size, 0, none⟩ 1 1 [.string s] rfl (fun j u hu => by
    have : j = 0 := by have := (List.getElem?_eq_some_iff.1 hu).1; simp at this; exact this
    subst this
    simp at hu
    subst hu
    exact Lib.cell_of_heap (heap_alloc_new w _) 0) (fun u hu => by simp at hu; subst hu; rfl) (by unfold maxLen; omega) (by omega) (by simp; omega)
  refine ⟨v', w', hr, ?_, h3⟩
  unfold Strs
  rw [List.length_append, List.map_append]
  exact h2
end Go.Proofs.Ytgegljbocacdnaa
