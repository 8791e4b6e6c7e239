/- merged: the first loop, that makes the heads. -/
import Derived.Test.YtgegljbocacdnaaOJ
set_option maxRecDepth 100000
namespace Go.Proofs.Ytgegljbocacdnaa
open Go.RowKit

/-- Lists of texts that can be read. -/
def Runs (w : World) (v : Value) (rss : List (List ByteArray)) : Prop :=
  ∃ a c, v = .slice a rss.length c ∧ (rss = [] ∨ ∃ b off, a = some ⟨b, off, none⟩ ∧ b < w.heap.size ∧ ∀ j (h : j < rss.length), ∃ v', w.cell? ⟨b, off + j, none⟩ = some v' ∧ TextC w v' rss[j])

/-- The heads as they stand: where, and what each has still to tell. -/
structure St (W0 : World) (hb : Nat) (ks : List Nat) (T : Nat → List ByteArray) (w : World) : Prop where
  hs : ∃ v, Hs W0.heap.size hb ks v w
  hd : ∀ q, q ∈ ks → W0.heap.size ≤ q ∧ HdAt W0 q (T q) w
  nd : ks.Nodup
  bel : Below W0.heap.size W0 w
def keyT (T : Nat → List ByteArray) (q : Nat) : ByteArray := (T q).headD ⟨#[]⟩
theorem HdAt.key {W0 : World} {q : Nat} {T : Nat → List ByteArray} {w : World} (h : HdAt W0 q (T q) w) : ∃ v, w.heap[q]? = some (.cells #[.string (keyT T q), v] 54 (0, 0)) := by
  obtain ⟨t, r, v, h1, h2, _⟩ := h
  exact ⟨v, by rw [keyT, h1]; exact h2⟩
theorem St.keys {W0 : World} {hb : Nat} {ks : List Nat} {T : Nat → List ByteArray} {w : World} (h : St W0 hb ks T w) : Keys (keyT T) ks w := fun q hq => (h.hd q hq).2.key
theorem HdAt.lt {W0 : World} {q : Nat} {l : List ByteArray} {w : World} (h : HdAt W0 q l w) : q < w.heap.size := by
  obtain ⟨t, r, v, _, h2, _⟩ := h
  exact (Array.getElem?_eq_some_iff.1 h2).1
theorem St.hk {W0 : World} {hb : Nat} {ks ks' : List Nat} {T : Nat → List ByteArray} {v : Value} {w w' : World} (h : St W0 hb ks T w) (hk : HK W0.heap.size w w') (hs : Hs W0.heap.size hb ks' v w') (hsub : ∀ q, q ∈ ks' → q ∈ ks) (hn : ks'.Nodup) : St W0 hb ks' T w' :=
  ⟨⟨v, hs⟩, fun q hq => ⟨(h.hd q (hsub q hq)).1, (h.hd q (hsub q hq)).2.hk hk⟩, hn, h.bel.trans hk.below⟩

/-- What the slice behind the first text is. -/
def tailV (b o n c : Nat) : Value := if c = 1 then Value.slice (some ⟨b, o, none⟩) n 0 else Value.slice (some ⟨b, o + 1, none⟩) n (c - 1)
theorem tailV_textC {W0 : World} {b o c : Nat} {x : ByteArray} {r : List ByteArray} (h : TextC W0 (.slice (some ⟨b, o, none⟩) (r.length + 1) c) (x :: r)) : TextC W0 (tailV b o r.length c) r ∧ W0.cell? ⟨b, o, none⟩ = some (.string x) ∧ r.length + 1 ≤ c ∧ b < W0.heap.size := by
  obtain ⟨a, c', h1, hc, hc9, h4⟩ := h
  injection h1 with h1 h2 h3
  subst h1 h3
  rcases h4 with h4 | ⟨b', o', h4, hb, h5⟩
  · cases h4
  injection h4 with h4
  injection h4 with h4 h6
  subst h4 h6
  have hc' : r.length + 1 ≤ c := hc
  refine ⟨?_, h5 0 (by simp), hc', hb⟩
  unfold tailV
  by_cases h1c : c = 1
  · rw [if_pos h1c]
    have hr : r = [] := List.eq_nil_of_length_eq_zero (by omega)
    exact ⟨some ⟨b, o, none⟩, 0, rfl, by rw [hr]; simp, by omega, .inl hr⟩
  · rw [if_neg h1c]
    refine ⟨some ⟨b, o + 1, none⟩, c - 1, rfl, by omega, by omega, .inr ⟨b, o + 1, rfl, hb, fun j hj => ?_⟩⟩
    have := h5 (j + 1) (by simpa using hj)
    rw [show o + (j + 1) = o + 1 + j by omega] at this
    exact this

/-- A new head is put behind the others: what append gives, and what is then stored. -/
theorem St.more {W0 : World} {hb : Nat} {ks : List Nat} {T : Nat → List ByteArray} {v : Value} {w : World} (h : St W0 hb ks T w) (hv : Hs W0.heap.size hb ks v w) (hl : ks.length < 4194304) (x : ByteArray) (r : List ByteArray) (tv : Value) (ht : TextC W0 tv r) :
    ∃ v' w3, (Builtin.append_ #[51, 51] 51 #[v, .slice (some ⟨w.heap.size + 1, 0, none⟩) 1 1]).run Try.prog ((w.alloc (.cells #[.string x, tv] 54)).alloc (.cells #[.pointer (some ⟨w.heap.size, 0, none⟩)] 52)).drew = .ok v' w3 ∧
      w3.cell? ⟨hb, 0, none⟩ = some v ∧ w3.frozen? ⟨hb, 0, none⟩ = false ∧ (∃ a n c, v' = .slice a n c) ∧
      Hs W0.heap.size hb (ks ++ [w.heap.size]) v' (w3.setCell ⟨hb, 0, none⟩ v') ∧ St W0 hb (ks ++ [w.heap.size]) (fun k => if k = w.heap.size then x :: r else T k) (w3.setCell ⟨hb, 0, none⟩ v') := by
  have hBw : W0.heap.size ≤ w.heap.size := h.bel.size
  obtain ⟨W2, hW2⟩ : ∃ W2, W2 = ((w.alloc (.cells #[.string x, tv] 54)).alloc (.cells #[.pointer (some ⟨w.heap.size, 0, none⟩)] 52)).drew := ⟨_, rfl⟩
  have hk1 : HK W0.heap.size w (w.alloc (.cells #[.string x, tv] 54)) := HK.alloc hBw _
  have hk2 : HK W0.heap.size w W2 := by rw [hW2]; exact (hk1.trans (HK.alloc (by simp; omega) _)).drew
  have hlt := hv.at.1
  have hq2 : W2.heap[w.heap.size]? = some (.cells #[.string x, tv] 54 (0, 0)) := by
    rw [hW2]
    exact (Below.heap_alloc (w.alloc (.cells #[.string x, tv] 54)) _ w.heap.size (by simp)).trans (heap_alloc_new w _)
  have hb2 : W2.heap[hb]? = some (.cells #[v] 51 (0, 0)) := by
    rw [hW2]
    exact ((Below.heap_alloc (w.alloc (.cells #[.string x, tv] 54)) _ hb (by simp; omega)).trans (Below.heap_alloc w _ hb hlt)).trans hv.blk
  have hr2 : W2.ownsRow W0.heap.size 52 1 v ks.length (ptrs ks) := by rw [hW2]; exact ((hv.row.alloc _).alloc _).drew
  have hcx : W2.cell? ⟨w.heap.size + 1, 0, none⟩ = some (.pointer (some ⟨w.heap.size, 0, none⟩)) := by
    have : W2.heap[w.heap.size + 1]? = some (.cells #[.pointer (some ⟨w.heap.size, 0, none⟩)] 52 (0, 0)) := by
      rw [hW2]
      have := heap_alloc_new (w.alloc (.cells #[.string x, tv] 54)) (.cells #[.pointer (some ⟨w.heap.size, 0, none⟩)] 52)
      rw [World.size_alloc] at this
      exact this
    rw [Lib.cell_of_heap this]; rfl
  have hBW : W0.heap.size ≤ W2.heap.size := Nat.le_trans hBw hk2.below.size
  obtain ⟨v', w3, hr, hn, hg⟩ := append_ptr W2 W0.heap.size v ks w.heap.size hr2 (w.heap.size + 1) 1 hcx hl hBW 51
  have hk3 : HK W0.heap.size W2 w3 := HK.row rfl hr2 hg hBW
  have h2 : Hs W0.heap.size hb ks v W2 := ⟨hb2, hr2, hv.ge⟩
  have hb3 : w3.heap[hb]? = some (.cells #[v] 51 (0, 0)) := (hg.block hb h2.at.1 (fun e => h2.apart e.symm)).trans hb2
  have hn' : w3.ownsRow W0.heap.size 52 1 v' (ks ++ [w.heap.size]).length (ptrs (ks ++ [w.heap.size])) := by rw [List.length_append]; exact hn
  obtain ⟨hS, hK4⟩ := Hs.store hb3 hv.ge hn'
  have hkk := (hk2.trans hk3).trans hK4
  have hkq := hk3.trans hK4
  rw [hW2] at hr
  refine ⟨v', w3, hr, by rw [Lib.cell_of_heap hb3]; rfl, Lib.frozen_of_heap hb3 0, ?_, hS, ⟨⟨v', hS⟩, fun q hq => ?_, ?_, h.bel.trans hkk.below⟩⟩
  · rcases hn.2 with ⟨rfl, _⟩ | ⟨g, cap, cur, rfl, _⟩ <;> exact ⟨_, _, _, rfl⟩
  · rcases List.mem_append.1 hq with hq | hq
    · have hql := (h.hd q hq).2.lt
      rw [if_neg (by omega)]
      exact ⟨(h.hd q hq).1, (h.hd q hq).2.hk hkk⟩
    · have hq' : q = w.heap.size := by simpa using hq
      subst hq'
      rw [if_pos rfl]
      have h0 : HdAt W0 w.heap.size (x :: r) W2 := ⟨x, r, tv, rfl, hq2, ht⟩
      exact ⟨hBw, h0.hk hkq⟩
  · rw [List.nodup_append]
    refine ⟨h.nd, by simp, fun a ha b hb' => ?_⟩
    have hql := (h.hd a ha).2.lt
    have hbq : b = w.heap.size := by simpa using hb'
    omega
end Go.Proofs.Ytgegljbocacdnaa
