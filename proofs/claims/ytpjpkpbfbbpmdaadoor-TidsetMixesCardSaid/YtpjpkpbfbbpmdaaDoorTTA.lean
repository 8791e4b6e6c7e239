/- A set of addresses, on both sides. -/
import Derived.Test.YtpjpkpbfbbpmdaaDoorTSY
set_option maxRecDepth 100000
namespace Go.Proofs.YtpjpkpbfbbpmdaaDoor.Ts
open Go Go.RowKit

/-- Numbers that came in. -/
def ZV (w : World) (a : Option Addr) (xs : List Int) : Prop :=
  xs = [] ∨ ∃ b off, a = some ⟨b, off, none⟩ ∧ b < w.heap.size ∧ ∀ j (h : j < xs.length), w.cell? ⟨b, off + j, none⟩ = some (.int .i64 xs[j])
theorem ZV.below {w w' : World} {a : Option Addr} {xs : List Int} (h : ZV w a xs) (hb : Below w.heap.size w w') : ZV w' a xs :=
  h.imp id fun ⟨b, off, h1, h3, h4⟩ => ⟨b, off, h1, Nat.lt_of_lt_of_le h3 hb.size, fun j hj => (hb.cell (p := ⟨b, off + j, none⟩) h3).trans (h4 j hj)⟩
theorem ZV.at {w : World} {a : Option Addr} {xs : List Int} (h : ZV w a xs) {j : Nat} (hj : j < xs.length) : ∃ b off, a = some ⟨b, off, none⟩ ∧ b < w.heap.size ∧ w.cell? ⟨b, off + j, none⟩ = some (.int .i64 xs[j]) := by
  rcases h with rfl | ⟨b, off, h1, h2, h3⟩
  · simp at hj
  · exact ⟨b, off, h1, h2, h3 j hj⟩

def Adr (t : Int) : Prop := 0 ≤ t ∧ t < 16777216
instance (t : Int) : Decidable (Adr t) := by unfold Adr; infer_instance
/-- A number is added, if it is an address. -/
def AStep (s : Tset) (t : Int) (s' : Tset) : Prop := ¬ Adr t ∧ s' = s ∨ Adr t ∧ AddTo s t.toNat s'
inductive Adds (s0 : Tset) : List Int → Tset → Prop
  | nil : Adds s0 [] s0
  | snoc {l : List Int} {s s' : Tset} {t : Int} (h : Adds s0 l s) (k : AStep s t s') : Adds s0 (l ++ [t]) s'
theorem AStep.ok {s s' : Tset} {t : Int} (h : AStep s t s') (k : s.Ok) : s'.Ok := by
  rcases h with ⟨_, rfl⟩ | ⟨h1, h2⟩
  · exact k
  · exact h2.ok k (by have := h1.1; have := h1.2; omega)
theorem AStep.most {s s' : Tset} {t : Int} (h : AStep s t s') : s'.most = s.most := by
  rcases h with ⟨_, rfl⟩ | ⟨_, h2⟩
  · rfl
  · exact h2.1
theorem Adds.most {s0 s : Tset} {l : List Int} (h : Adds s0 l s) : s.most = s0.most := by
  induction h with
  | nil => rfl
  | snoc _ k ih => rw [k.most, ih]
theorem Adds.take {s0 s s' : Tset} {l : List Int} {i : Nat} (h : Adds s0 (l.take i) s) (hi : i < l.length) (k : AStep s l[i] s') : Adds s0 (l.take (i + 1)) s' := by
  rw [List.take_succ_eq_append_getElem hi]; exact .snoc h k

/-- Add of any number. -/
def AddZ (b be bw : Nat) (s : Tset) (t : Int) (w : World) (e : Ending) (w' : World) : Prop :=
  e = .returned (.int .i64 (if Adr t then 0 else 1)) ∧ ∃ s', AStep s t s' ∧ StAt w' b be bw s' ∧ Kept (Own b be bw) w w'
theorem add_z {w : World} {b be bw : Nat} {s : Tset} (h : StAt w b be bw s) (t : Int) : Calls Tryd.prog 21 #[.pointer (some ⟨b, 0, none⟩), .int .i64 t] w (AddZ b be bw s t w) := by
  by_cases ht : Adr t
  · obtain ⟨n, rfl⟩ : ∃ n : Nat, t = n := ⟨t.toNat, by have := ht.1; omega⟩
    refine (add_ok h n (by have := ht.2; omega)).mono fun e w' ⟨h1, s', h2, h3, h4⟩ => ⟨by rw [if_pos ht]; exact h1, s', .inr ⟨ht, h2⟩, h3, h4⟩
  · exact (add_bad h t ht).mono fun e w' ⟨h1, h2⟩ => ⟨by rw [if_neg ht]; exact h1, s, .inl ⟨ht, rfl⟩, by rw [← h2]; exact h, by rw [← h2]; exact Kept.refl _ _⟩
/-- The document's Add of any number. -/
def RAddZ (S : Nat → Prop) (s : Tset) (t : Int) (w : World) (e : Ending) (w' : World) : Prop :=
  ∃ s' v', e = .returned (.tuple #[v', .int .i64 (if Adr t then 0 else 1)]) ∧ AStep s t s' ∧ RAt S w' s' v' ∧ Below w.heap.size w w'
theorem radd_z {S : Nat → Prop} {w : World} {s : Tset} {v : Value} (h : RAt S w s v) (hk : s.Ok) (t : Int) (hS : ∀ k, S k → k < w.heap.size) : Calls Tryd.prog 23 #[v, .int .i64 t] w (RAddZ S s t w) := by
  by_cases ht : Adr t
  · obtain ⟨n, rfl⟩ : ∃ n : Nat, t = n := ⟨t.toNat, by have := ht.1; omega⟩
    refine (radd_ok h hk n (by have := ht.2; omega) hS).mono fun e w' ⟨s', v', h1, h2, h3, h4⟩ => ⟨s', v', by rw [if_pos ht]; exact h1, .inr ⟨ht, h2⟩, h3, h4⟩
  · have hv : ∃ m a n c a' n' c', v = rv m a n c a' n' c' := by
      obtain ⟨a, n, c, a', n', c', h1, _⟩ := h
      exact ⟨_, _, _, _, _, _, _, h1⟩
    exact (radd_bad v hv t w ht).mono fun e w' ⟨h1, h2⟩ => ⟨s, v, by rw [if_neg ht]; exact h1, .inl ⟨ht, rfl⟩, h.below h2, h2⟩
theorem AStep.unique {s a b : Tset} {t : Int} (h : AStep s t a) (k : AStep s t b) : a = b := by
  rcases h with ⟨h1, rfl⟩ | ⟨h1, h⟩ <;> rcases k with ⟨k1, rfl⟩ | ⟨k1, k⟩
  · rfl
  · exact absurd k1 h1
  · exact absurd h1 k1
  · exact h.unique k

/-- What made leaves. -/
def MadeOk (most : Int) (l : List Int) (w : World) (e : Ending) (w' : World) : Prop :=
  ∃ b be bw s v, e = .returned (.tuple #[.pointer (some ⟨b, 0, none⟩), v, .bool true]) ∧ (0 ≤ most ∧ most ≤ 64) ∧ StAt w' b be bw s ∧ RAt (fun _ => False) w' s v ∧ Adds ⟨most.toNat, [], []⟩ l s ∧ Below w.heap.size w w' ∧ w.heap.size ≤ b ∧ w.heap.size ≤ be ∧ w.heap.size ≤ bw
def MadeNo (most : Int) (w : World) (e : Ending) (w' : World) : Prop :=
  e = .returned (.tuple #[.pointer none, rv 0 none 0 0 none 0 0, .bool true]) ∧ ¬ (0 ≤ most ∧ most ≤ 64) ∧ Below w.heap.size w w'

set_option maxHeartbeats 3200000 in
theorem made_no (most : Int) (a : Option Addr) (n c : Nat) (w : World) (h : ¬ (0 ≤ most ∧ most ≤ 64)) : Calls Tryd.prog 9 #[.int .i64 most, .slice a n c] w (MadeNo most w) := by
  have HN : Hid (∀ W, Calls Tryd.prog 20 #[.int .i64 most] W fun e w' => e = .returned (.tuple #[.pointer none, .int .i64 1]) ∧ W = w') := Lib.hid fun W => tnew_bad most W (by omega)
  have HR : Hid (∀ W, Calls Tryd.prog 22 #[.int .i64 most] W fun e w' => e = .returned (.tuple #[rv 0 none 0 0 none 0 0, .int .i64 1]) ∧ Below W.heap.size W w') := Lib.hid fun W => rnew_bad most W (by omega)
  have HH := Lib.hid h
  obtain ⟨m, hm⟩ : ∃ m, m = most := ⟨_, rfl⟩
  rw [← hm] at HN HR ⊢
  rw [← hm] at HH
  clear h hm
  unfold rv at HR
  go_enter Tryd.func9, Tryd.ntmps9
  go_wp2_with fail
  refine (HN.out _).mono ?_
  rintro e w1 ⟨rfl, rfl⟩
  go_wp2_with fail
  refine (HR.out _).mono ?_
  rintro e w1 ⟨rfl, hb⟩
  obtain ⟨W0, hW0⟩ : ∃ W0, W0 = w.alloc (.cells #[.int .i64 0, .slice none 0 0, .slice none 0 0] 27) := ⟨_, rfl⟩
  have hk0 : W0.heap[w.heap.size]? = some (.cells #[.int .i64 0, .slice none 0 0, .slice none 0 0] 27 (0, 0)) := by rw [hW0]; exact heap_alloc_new w _
  have hb0 : Below w.heap.size w W0 := by rw [hW0]; exact (Below.refl _ _).alloc (Nat.le_refl _) _
  have hz0 : W0.heap.size = w.heap.size + 1 := by rw [hW0]; simp
  rw [← hW0] at hb
  have hk1 : w1.heap[w.heap.size]? = some (.cells #[.int .i64 0, .slice none 0 0, .slice none 0 0] 27 (0, 0)) := (hb.block _ (by omega)).trans hk0
  have hz1 : w.heap.size + 1 ≤ w1.heap.size := by have := hb.size; omega
  have HB1 : Hid (Below w.heap.size w w1) := Lib.hid (hb0.trans (hb.mono (by omega)))
  obtain ⟨R, hR⟩ : ∃ R, R = w.heap.size := ⟨_, rfl⟩
  rw [← hR] at hk1 hz1
  have HRE := Lib.hid hR
  obtain ⟨W2, hW2⟩ : ∃ W2, W2 = w1.alloc (.cells #[.int .i64 0, .slice none 0 0, .slice none 0 0] 27) := ⟨_, rfl⟩
  obtain ⟨Q, hQ⟩ : ∃ Q, Q = w1.heap.size := ⟨_, rfl⟩
  have hq : W2.heap[Q]? = some (.cells #[.int .i64 0, .slice none 0 0, .slice none 0 0] 27 (0, 0)) := by rw [hW2, hQ]; exact heap_alloc_new w1 _
  have hr : W2.heap[R]? = some (.cells #[.int .i64 0, .slice none 0 0, .slice none 0 0] 27 (0, 0)) := by rw [hW2]; exact (Below.heap_alloc _ _ _ (by omega)).trans hk1
  have HB2 : Hid (Below w.heap.size w W2) := Lib.hid (HB1.out.trans (by rw [hW2]; exact ((Below.refl _ _).alloc (Nat.le_refl _) _).mono (by omega)))
  have a0 : W2.cell? ⟨Q, 0, none⟩ = some (.int .i64 0) := Lib.cell_of_heap hq 0
  have a1 : W2.cell? ⟨Q, 1, none⟩ = some (.slice none 0 0) := Lib.cell_of_heap hq 1
  have a2 : W2.cell? ⟨Q, 2, none⟩ = some (.slice none 0 0) := Lib.cell_of_heap hq 2
  have b0 : W2.cell? ⟨R, 0, none⟩ = some (.int .i64 0) := Lib.cell_of_heap hr 0
  have b1 : W2.cell? ⟨R, 1, none⟩ = some (.slice none 0 0) := Lib.cell_of_heap hr 1
  have b2 : W2.cell? ⟨R, 2, none⟩ = some (.slice none 0 0) := Lib.cell_of_heap hr 2
  have q0 := froz_of hr 0
  have q1 := froz_of hr 1
  have q2 := froz_of hr 2
  have HHR := Lib.hid hr
  have HW2 := Lib.hid hW2
  have HQ := Lib.hid hQ
  have HE : Hid ((((W2.setCell ⟨R, 0, none⟩ (.int .i64 0)).setCell ⟨R, 1, none⟩ (.slice none 0 0)).setCell ⟨R, 2, none⟩ (.slice none 0 0)).drew.heap[R]? = some (.cells #[.int .i64 0, .slice none 0 0, .slice none 0 0] 27 (0, 0)) ∧ Below w.heap.size w (((W2.setCell ⟨R, 0, none⟩ (.int .i64 0)).setCell ⟨R, 1, none⟩ (.slice none 0 0)).setCell ⟨R, 2, none⟩ (.slice none 0 0)).drew) := Lib.hid
    ⟨three (w := W2) HHR.out _ _ _, (HB2.out.trans ((three_kept (fun k => k = R) (w := W2) rfl _ _ _).toBelow HB2.out.size (fun k e => by have := HRE.out; omega))).drew⟩
  clear hb hk0 hb0 hz0 hk1 hW0 hR hW2 hQ hq hr hz1
  have hn : n = 0 ∨ 0 < n := by omega
  rcases hn with rfl | hn
  all_goals
    go_wp2
    rw [← HW2.out, ← HQ.out, ← HRE.out]
    refine wp_loop_rounds 1 ?_
    rw [rounds_succ]
    go_wp2_with fail
    go_region
    go_wp2
    exact bodyPost_ret (v := .tuple #[.pointer none, .agg #[.int .i64 0, .slice none 0 0, .slice none 0 0], .bool true]) (by
      have e0 := Lib.cell_of_heap HE.out.1 0
      have e1 := Lib.cell_of_heap HE.out.1 1
      have e2 := Lib.cell_of_heap HE.out.1 2
      simp [results, Tryd.results9, go_sem, e0, e1, e2]) rfl ⟨rfl, HH.out, HE.out.2⟩
end Go.Proofs.YtpjpkpbfbbpmdaaDoor.Ts
