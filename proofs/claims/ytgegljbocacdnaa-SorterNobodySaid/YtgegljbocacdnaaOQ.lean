/- What stands at the head of merged's second loop, and what each call in its round makes of it. -/
import Derived.Test.YtgegljbocacdnaaOM
set_option maxRecDepth 100000
namespace Go.Proofs.Ytgegljbocacdnaa
open Go.RowKit

theorem heads_few {W0 : World} {T : Nat → List ByteArray} {w : World} : ∀ (ks : List Nat), (∀ q, q ∈ ks → W0.heap.size ≤ q ∧ HdAt W0 q (T q) w) → ks.length ≤ (ks.flatMap T).length
  | [], _ => by simp
  | q :: ks, h => by
    have := heads_few ks (fun p hp => h p (List.mem_cons_of_mem _ hp))
    obtain ⟨t, r, v, h1, _⟩ := (h q (List.mem_cons_self ..)).2
    rw [List.flatMap_cons, List.length_append, h1, List.length_cons, List.length_cons]
    omega
theorem St.congr {W0 : World} {hb : Nat} {ks : List Nat} {T T' : Nat → List ByteArray} {w : World} (h : St W0 hb ks T w) (e : ∀ q, q ∈ ks → T' q = T q) : St W0 hb ks T' w :=
  ⟨h.hs, fun q hq => by rw [e q hq]; exact h.hd q hq, h.nd, h.bel⟩
theorem keyT_congr {T T' : Nat → List ByteArray} {q : Nat} (e : T' q = T q) : keyT T' q = keyT T q := by unfold keyT; rw [e]
theorem St.push {W0 : World} {hb q : Nat} {ks ks' : List Nat} {T : Nat → List ByteArray} {v : Value} {w w' : World} (h : St W0 hb ks T w) (hB : W0.heap.size ≤ q) (hq : HdAt W0 q (T q) w) (hn : q ∉ ks) (hk : HK W0.heap.size w w') (hs : Hs W0.heap.size hb ks' v w') (hp : ks'.Perm (q :: ks)) : St W0 hb ks' T w' :=
  ⟨⟨v, hs⟩, fun p hp' => by
    rcases List.mem_cons.1 (hp.mem_iff.1 hp') with rfl | hp'
    · exact ⟨hB, hq.hk hk⟩
    · exact ⟨(h.hd p hp').1, (h.hd p hp').2.hk hk⟩, hp.nodup_iff.2 (List.nodup_cons.2 ⟨hn, h.nd⟩), h.bel.trans hk.below⟩

/-- What stands at the loop's head: n are told. -/
structure Mg (W0 : World) (hb : Nat) (all : List ByteArray) (v : Value) (n : Nat) (ks : List Nat) (w : World) : Prop where
  st : ∃ T out, out.length = n ∧ St W0 hb ks T w ∧ HpF (keyT T) ks ks.length 0 ∧ MInv all out ks T ∧ Strs W0.heap.size w v out
theorem Mg.ready {W0 : World} {hb : Nat} {all : List ByteArray} {v : Value} {n : Nat} {ks : List Nat} {w : World} (h : Mg W0 hb all v n ks w) : Below W0.heap.size W0 w ∧ (∃ a c, w.cell? ⟨hb, 0, none⟩ = some (.slice a ks.length c)) ∧ n + ks.length ≤ all.length ∧ ∃ a c, v = .slice a n c := by
  obtain ⟨T, out, h1, h2, h3, h4, h5⟩ := h
  obtain ⟨v0, h0⟩ := h2.hs
  obtain ⟨a, c, rfl, _⟩ := h0.shape
  obtain ⟨a5, c5, h6⟩ := h5.shape
  refine ⟨h2.bel, ⟨a, c, h0.at.2.1⟩, ?_, a5, c5, by rw [h6, h1]⟩
  have := h4.perm.length_eq
  rw [List.length_append] at this
  have h7 := heads_few ks h2.hd
  omega
theorem Mg.done {W0 : World} {hb : Nat} {all : List ByteArray} {v : Value} {n : Nat} {w : World} (h : Mg W0 hb all v n [] w) : Strs W0.heap.size w v (srtS all) ∧ Below W0.heap.size W0 w := by
  obtain ⟨T, out, h1, h2, h3, h4, h5⟩ := h
  have hp := h4.perm
  simp at hp
  rw [← srtS_one h4.rise hp]
  exact ⟨h5, h2.bel⟩

/-- Behind Pop: the head q is out, t is its text, r are those behind it. -/
structure Mg1 (W0 : World) (hb : Nat) (all : List ByteArray) (v : Value) (n q : Nat) (t : ByteArray) (r : List ByteArray) (ks : List Nat) (T : Nat → List ByteArray) (out : List ByteArray) (w : World) : Prop where
  len : out.length = n
  st : St W0 hb ks T w
  hp : HpF (keyT T) ks ks.length 0
  inv : MInv all (out ++ [t]) (q :: ks) T
  strs : Strs W0.heap.size w v out
  ge : W0.heap.size ≤ q
  hd : HdAt W0 q (t :: r) w
  tq : T q = r
  out_ : q ∉ ks

theorem Mg.pop {W0 : World} {hb : Nat} {all : List ByteArray} {v : Value} {n N : Nat} {ks : List Nat} {w : World} (h : Mg W0 hb all v n ks w) (hN : ks.length = N + 1) (hall : all.length ≤ 4194304) :
    Calls Try.prog 27 #[.iface 56 (.pointer (some ⟨hb, 0, none⟩))] w fun e w' => ∃ q t r ks' T out, e = .returned (.iface 52 (.pointer (some ⟨q, 0, none⟩))) ∧ ks'.length = N ∧ Mg1 W0 hb all v n q t r ks' T out w' := by
  have hr := h.ready
  obtain ⟨T, out, h1, h2, h3, h4, h5⟩ := h
  obtain ⟨v0, h0⟩ := h2.hs
  rw [hN] at h3
  refine (hpop_any W0.heap.size hb N (keyT T) ks v0 w h0 hN h2.keys (by have := hr.2.2.1; omega) h3).mono ?_
  rintro e w' ⟨rfl, ⟨ks', v', k1, k2, k3⟩, k4⟩
  have hm : ks.getD 0 0 ∈ ks := k3.mem_iff.1 (List.mem_cons_self ..)
  have hnd := k3.nodup_iff.2 h2.nd
  obtain ⟨hn1, hn2⟩ := List.nodup_cons.1 hnd
  obtain ⟨hge, hhd⟩ := h2.hd _ hm
  obtain ⟨t, r, tv, e1, e2, e3⟩ := id hhd
  have hinv := h4.to k3
  have hleast := least_all k3 (by rw [hN]; exact h3) e1 h4.each
  have hst : St W0 hb ks' T w' := h2.hk k4 k1 (fun q hq => k3.mem_iff.1 (List.mem_cons_of_mem _ hq)) hn2
  have hagree : ∀ p, p ∈ ks' → (fun k => if k = ks.getD 0 0 then r else T k) p = T p := fun p hp => if_neg (fun (e : p = ks.getD 0 0) => hn1 (e ▸ hp))
  refine ⟨ks.getD 0 0, t, r, ks', fun k => if k = ks.getD 0 0 then r else T k, out, rfl, by have := k3.length_eq; rw [hN] at this; simpa using this, h1, hst.congr hagree, k2.keys (Nat.le_refl _) (fun p hp => keyT_congr (hagree p hp)), hinv.step hn1 e1 hleast (if_pos rfl) (fun k hk => if_neg hk), h5.hk k4, hge, ?_, if_pos rfl, hn1⟩
  have := hhd.hk k4
  rwa [e1] at this

/-- Behind the append: the text is told. -/
theorem Mg1.told {W0 : World} {hb : Nat} {all : List ByteArray} {v : Value} {n q : Nat} {t : ByteArray} {r : List ByteArray} {ks : List Nat} {T : Nat → List ByteArray} {out : List ByteArray} {w : World} (h : Mg1 W0 hb all v n q t r ks T out w) (hn : n < 4194304) :
    ∃ v' w', (Builtin.append_ #[22, 22] 22 #[v, .slice (some ⟨w.heap.size, 0, none⟩) 1 1]).run Try.prog (w.alloc (.cells #[.string t] 9)) = .ok v' w' ∧ (∃ a c, v' = .slice a (n + 1) c) ∧ Strs W0.heap.size w' v' (out ++ [t]) ∧ St W0 hb ks T w' ∧ HdAt W0 q (t :: r) w' := by
  obtain ⟨v', w', hr, h1, h2⟩ := append_text w W0.heap.size v out t h.strs (by rw [h.len]; exact hn) h.st.bel.size 22
  have hk := HK.alloc (w := w) h.st.bel.size (.cells #[.string t] 9)
  have hs1 : St W0 hb ks T (w.alloc (.cells #[.string t] 9)) := by
    obtain ⟨v0, h0⟩ := h.st.hs
    exact h.st.hk hk ⟨(Below.heap_alloc w _ hb h0.at.1).trans h0.blk, h0.row.alloc _, h0.ge⟩ (fun _ h => h) h.st.nd
  have ho := h.strs.hk hk
  obtain ⟨a, c, e⟩ := h1.shape
  rw [List.length_append, h.len] at e
  refine ⟨v', w', hr, ⟨a, c, e⟩, h1, hs1.grown ho h2, ?_⟩
  have hd := h.hd.hk hk
  obtain ⟨t', r', tv, e1, e2, e3⟩ := hd
  exact ⟨t', r', tv, e1, (h2.block q (Array.getElem?_eq_some_iff.1 e2).1 (fun e => ho.ne e2 (by decide) e.symm)).trans e2, e3⟩

theorem Mg1.no {W0 : World} {hb : Nat} {all : List ByteArray} {v v' : Value} {n q : Nat} {t : ByteArray} {ks : List Nat} {T : Nat → List ByteArray} {out : List ByteArray} {w w' : World} (h : Mg1 W0 hb all v n q t [] ks T out w) (hs : Strs W0.heap.size w' v' (out ++ [t])) (hst : St W0 hb ks T w') : Mg W0 hb all v' (n + 1) ks w' :=
  ⟨T, out ++ [t], by rw [List.length_append, h.len]; rfl, hst, h.hp, h.inv.drop h.tq, hs⟩
theorem Mg1.push {W0 : World} {hb : Nat} {all : List ByteArray} {v v' : Value} {n q : Nat} {t : ByteArray} {r : List ByteArray} {ks : List Nat} {T : Nat → List ByteArray} {out : List ByteArray} {w w1 w' : World} (h : Mg1 W0 hb all v n q t r ks T out w) (hs : Strs W0.heap.size w1 v' (out ++ [t])) (hst : St W0 hb ks T w1) (hd1 : HdAt W0 q (t :: r) w1) (hd : HdAt W0 q r w') (hg : w1.grownBy w' (some q)) (hk : ks.length < 4194304) :
    Calls Try.prog 29 #[.iface 56 (.pointer (some ⟨hb, 0, none⟩)), .iface 52 (.pointer (some ⟨q, 0, none⟩))] w' fun e w2 => e = .returned (.tuple #[]) ∧ ∃ ks', ks'.length = ks.length + 1 ∧ Mg W0 hb all v' (n + 1) ks' w2 := by
  have hst2 := hst.moved h.ge hd1 h.out_ hg
  have hs2 : Strs W0.heap.size w' v' (out ++ [t]) := by
    obtain ⟨_, _, _, _, e2, _⟩ := hd1
    exact hs.moved e2 hg
  obtain ⟨v0, h0⟩ := hst2.hs
  have hd' : HdAt W0 q (T q) w' := by rw [h.tq]; exact hd
  refine (hpush_any W0.heap.size hb q (keyT T) ks v0 w' h0 (fun p hp => by
    rcases List.mem_cons.1 hp with rfl | hp
    · exact hd'.key
    · exact hst2.keys p hp) hk h.hp).mono ?_
  rintro e w2 ⟨rfl, ⟨ks', v2, k1, k2, k3⟩, k4⟩
  exact ⟨rfl, ks', k3.length_eq, T, out ++ [t], by rw [List.length_append, h.len]; rfl, hst2.push h.ge hd' h.out_ k4 k1 k3, k2, h.inv.to k3, hs2.hk k4⟩
theorem Mg.first {W0 : World} {hb : Nat} {l : List ByteArray} {T : Nat → List ByteArray} {ks : List Nat} {v : Value} {w : World} (h : St W0 hb ks T w) (hp : HpF (keyT T) ks ks.length 0) (hl : (ks.flatMap T).Perm l) (he : ∀ q, q ∈ ks → Rise (T q)) (hv : Strs W0.heap.size w v []) : Mg W0 hb l v 0 ks w :=
  ⟨T, [], rfl, h, hp, ⟨List.Pairwise.nil, by simpa using hl, (fun x hx => by cases hx), he⟩, hv⟩
end Go.Proofs.Ytgegljbocacdnaa
