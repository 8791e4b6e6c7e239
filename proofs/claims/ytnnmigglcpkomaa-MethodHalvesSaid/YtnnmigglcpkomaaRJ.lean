/- The order of entries in hand; where one stands among shelves: in plain words. -/
import Derived.Test.YtnnmigglcpkomaaRA
set_option maxRecDepth 100000
namespace Go.Proofs.Ytnnmigglcpkomaa.Dm
open Go Go.RowKit

theorem u8_same {x y : UInt8} (h1 : ¬ x < y) (h2 : ¬ y < x) : x = y := by
  rw [UInt8.lt_iff_toNat_lt] at h1 h2
  exact UInt8.toNat_inj.1 (by omega)
theorem cb_swap : ∀ a b : List UInt8, Lib.compareBytes b a = - Lib.compareBytes a b
  | [], [] => rfl
  | [], _ :: _ => rfl
  | _ :: _, [] => rfl
  | x :: a, y :: b => by
    have ih := cb_swap a b
    have e1 : x < y ↔ x.toNat < y.toNat := UInt8.lt_iff_toNat_lt
    have e2 : y < x ↔ y.toNat < x.toNat := UInt8.lt_iff_toNat_lt
    unfold Lib.compareBytes
    by_cases h1 : x < y
    · have h2 : ¬ y < x := fun h => by have := e1.1 h1; have := e2.1 h; omega
      simp [h1, h2]
    · by_cases h2 : y < x
      · simp [h1, h2]
      · simp [h1, h2, ih]
theorem cb_zero : ∀ a b : List UInt8, Lib.compareBytes a b = 0 → a = b
  | [], [], _ => rfl
  | [], _ :: _, h => by simp [Lib.compareBytes] at h
  | _ :: _, [], h => by simp [Lib.compareBytes] at h
  | x :: a, y :: b, h => by
    have e1 : x < y ↔ x.toNat < y.toNat := UInt8.lt_iff_toNat_lt
    have e2 : y < x ↔ y.toNat < x.toNat := UInt8.lt_iff_toNat_lt
    unfold Lib.compareBytes at h
    by_cases h1 : x < y
    · rw [if_pos h1] at h; omega
    · by_cases h2 : y < x
      · rw [if_neg h1, if_pos h2] at h; omega
      · rw [if_neg h1, if_neg h2] at h
        have hxy : x = y := u8_same h1 h2
        rw [hxy, cb_zero a b h]
theorem cb_self (a : List UInt8) : Lib.compareBytes a a = 0 := by have := cb_swap a a; omega
theorem cb_less : ∀ a b : List UInt8, Lib.compareBytes a b < 0 ↔ Op.bytesLess a b = true
  | [], [] => by simp [Lib.compareBytes, Op.bytesLess]
  | [], _ :: _ => by simp [Lib.compareBytes, Op.bytesLess]
  | _ :: _, [] => by simp [Lib.compareBytes, Op.bytesLess]
  | x :: a, y :: b => by
    have ih := cb_less a b
    have e1 : x < y ↔ x.toNat < y.toNat := UInt8.lt_iff_toNat_lt
    have e2 : y < x ↔ y.toNat < x.toNat := UInt8.lt_iff_toNat_lt
    unfold Lib.compareBytes Op.bytesLess
    rw [Bool.or_eq_true, Bool.and_eq_true, decide_eq_true_eq, beq_iff_eq]
    by_cases h1 : x < y
    · rw [if_pos h1]; exact ⟨fun _ => .inl h1, fun _ => by omega⟩
    · rw [if_neg h1]
      by_cases h2 : y < x
      · rw [if_pos h2]
        refine ⟨fun h => by omega, ?_⟩
        rintro (h | ⟨rfl, _⟩)
        · exact absurd h h1
        · exact absurd (e2.1 h2) (Nat.lt_irrefl _)
      · rw [if_neg h2, ih]
        have hxy : x = y := u8_same h1 h2
        exact ⟨fun h => .inr ⟨hxy, h⟩, fun h => h.elim (fun h => absurd h h1) (fun h => h.2)⟩
theorem cb_trans : ∀ a b c : List UInt8, Lib.compareBytes a b < 0 → Lib.compareBytes b c < 0 → Lib.compareBytes a c < 0
  | _, [], [], _, h => by simp [Lib.compareBytes] at h
  | [], [], _ :: _, h, _ => by simp [Lib.compareBytes] at h
  | _ :: _, [], _ :: _, h, _ => by simp [Lib.compareBytes] at h
  | _, _ :: _, [], _, h => by simp [Lib.compareBytes] at h
  | [], _ :: _, _ :: _, _, _ => by simp [Lib.compareBytes]
  | x :: a, y :: b, z :: c, h1, h2 => by
    have ih := cb_trans a b c
    have hxy : ∀ p q : UInt8, p < q ↔ p.toNat < q.toNat := fun p q => UInt8.lt_iff_toNat_lt
    unfold Lib.compareBytes at h1 h2 ⊢
    simp only [hxy] at h1 h2 ⊢
    split at h1
    · split at h2
      · rw [if_pos (by omega)]; omega
      · split at h2
        · omega
        · rw [if_pos (by omega)]; omega
    · split at h1
      · omega
      · split at h2
        · rw [if_pos (by omega)]; omega
        · split at h2
          · omega
          · rw [if_neg (by omega), if_neg (by omega)]
            exact ih h1 h2
theorem cb_cases (a b : List UInt8) : Lib.compareBytes a b = -1 ∨ Lib.compareBytes a b = 0 ∨ Lib.compareBytes a b = 1 := by
  induction a generalizing b with
  | nil => cases b <;> simp [Lib.compareBytes]
  | cons x a ih =>
    cases b with
    | nil => simp [Lib.compareBytes]
    | cons y b =>
      unfold Lib.compareBytes
      split
      · simp
      · split
        · simp
        · exact ih b

theorem ba_eq {s t : ByteArray} (h : s.data.toList = t.data.toList) : s = t := ByteArray.ext (Array.toList_inj.1 h)

theorem cmpH_swap (a b : Hd) : cmpH b a = - cmpH a b := by
  have h := cb_swap a.1.data.toList b.1.data.toList
  unfold cmpH
  by_cases h0 : Lib.compareBytes a.1.data.toList b.1.data.toList = 0
  · rw [if_pos h0, if_pos (by omega)]
    unfold cmpI
    split <;> split <;> (try split) <;> omega
  · rw [if_neg h0, if_neg (by omega), h]
theorem cmpH_self (a : Hd) : cmpH a a = 0 := by have := cmpH_swap a a; omega
theorem cmpH_zero {a b : Hd} (h : cmpH a b = 0) : a = b := by
  unfold cmpH at h
  split at h
  · rename_i h0
    unfold cmpI at h
    have h2 : a.2 = b.2 := by
      split at h
      · omega
      · split at h <;> omega
    exact Prod.ext (ba_eq (cb_zero _ _ h0)) h2
  · exact absurd h (by assumption)
theorem cmpH_trans {a b c : Hd} (h1 : cmpH a b < 0) (h2 : cmpH b c < 0) : cmpH a c < 0 := by
  have hI : ∀ x y : Int, cmpI x y < 0 ↔ x < y := fun x y => by unfold cmpI; split <;> (try split) <;> omega
  unfold cmpH at h1 h2 ⊢
  by_cases h3 : Lib.compareBytes a.1.data.toList b.1.data.toList = 0
  · rw [if_pos h3, hI] at h1
    rw [cb_zero _ _ h3]
    by_cases h4 : Lib.compareBytes b.1.data.toList c.1.data.toList = 0
    · rw [if_pos h4, hI] at h2 ⊢; omega
    · rw [if_neg h4] at h2 ⊢; exact h2
  · rw [if_neg h3] at h1
    by_cases h4 : Lib.compareBytes b.1.data.toList c.1.data.toList = 0
    · rw [cb_zero _ _ h4] at h1
      rw [if_neg (by omega)]
      exact h1
    · rw [if_neg h4] at h2
      have := cb_trans _ _ _ h1 h2
      rw [if_neg (by omega)]
      exact this

/-- Rising, no two the same. -/
def SrtH (l : List Hd) : Prop := l.Pairwise fun a b => cmpH a b < 0

/-- Where x stands among rising ones. -/
theorem cut_at (x : Hd) : ∀ l : List Hd, SrtH l → ∃ k, k ≤ l.length ∧ (∀ i (h : i < l.length), i < k → cmpH (l[i]'h) x < 0) ∧ ∀ i (h : i < l.length), k ≤ i → ¬ cmpH (l[i]'h) x < 0
  | [], _ => ⟨0, Nat.le_refl _, fun i h => by simp at h, fun i h => by simp at h⟩
  | a :: l, hs => by
    have hs' := List.pairwise_cons.1 hs
    by_cases ha : cmpH a x < 0
    · obtain ⟨k, h0, h1, h2⟩ := cut_at x l hs'.2
      refine ⟨k + 1, by simp; omega, fun i h hi => ?_, fun i h hi => ?_⟩
      · cases i with
        | zero => exact ha
        | succ i => exact h1 i (by simpa using h) (by omega)
      · cases i with
        | zero => omega
        | succ i => exact h2 i (by simpa using h) (by omega)
    · refine ⟨0, Nat.zero_le _, fun i h hi => by omega, fun i h _ => ?_⟩
      cases i with
      | zero => exact ha
      | succ i =>
        intro hx
        exact ha (cmpH_trans (hs'.1 _ (List.getElem_mem (by simpa using h))) hx)

/-- The first of a shelf. -/
def firstH (l : List Hd) : Hd := l.headD (⟨#[]⟩, 0)

theorem firsts_rise : ∀ L : List (List Hd), (∀ l, l ∈ L → l ≠ []) → SrtH L.flatten → SrtH (L.map firstH)
  | [], _, _ => List.Pairwise.nil
  | l :: L, hne, hs => by
    rw [List.flatten_cons] at hs
    obtain ⟨_, h2, h3⟩ := List.pairwise_append.1 hs
    refine List.pairwise_cons.2 ⟨fun f hf => ?_, firsts_rise L (fun m hm => hne m (List.mem_cons_of_mem _ hm)) h2⟩
    obtain ⟨m, hm, rfl⟩ := List.mem_map.1 hf
    cases l with
    | nil => exact absurd rfl (hne [] (by simp))
    | cons a l =>
      cases m with
      | nil => exact absurd rfl (hne [] (by simp [hm]))
      | cons b m => exact h3 a (by simp) b (List.mem_flatten.2 ⟨_, hm, by simp⟩)

/-- The place of x among shelves: of which shelf, where in it; whether it is there. -/
structure Seek (L : List (List Hd)) (x : Hd) (i at' : Nat) (th : Bool) : Prop where
  shape : L = [] ∧ i = 0 ∧ at' = 0 ∨ i < L.length
  fits : at' ≤ (L.getD i []).length
  low : ∀ a, a ∈ (L.take i).flatten ++ (L.getD i []).take at' → cmpH a x < 0
  high : th = false → ∀ b, b ∈ (L.getD i []).drop at' ++ (L.drop (i + 1)).flatten → 0 < cmpH b x
  hit : th = true → ∃ r, (L.getD i []).drop at' = x :: r

theorem flat_split (L : List (List Hd)) (i at' : Nat) (h : i < L.length) : L.flatten = ((L.take i).flatten ++ (L.getD i []).take at') ++ ((L.getD i []).drop at' ++ (L.drop (i + 1)).flatten) := by
  have e : L.getD i [] = L[i] := by simp [h]
  rw [e, List.append_assoc, ← List.append_assoc (L[i].take at'), List.take_append_drop]
  have h1 := congrArg List.flatten (List.take_append_drop i L)
  rw [List.drop_eq_getElem_cons h, List.flatten_append, List.flatten_cons] at h1
  exact h1.symm
theorem Seek.split {L : List (List Hd)} {x : Hd} {i at' : Nat} {th : Bool} (h : Seek L x i at' th) : L.flatten = ((L.take i).flatten ++ (L.getD i []).take at') ++ ((L.getD i []).drop at' ++ (L.drop (i + 1)).flatten) := by
  rcases h.shape with ⟨rfl, rfl, rfl⟩ | h1
  · rfl
  · exact flat_split L i at' h1

theorem all_above {x : Hd} {B : List Hd} (hs : SrtH B) (h : ∀ b, B.head? = some b → 0 < cmpH b x) : ∀ b, b ∈ B → 0 < cmpH b x := by
  intro b hb
  cases B with
  | nil => cases hb
  | cons c B =>
    have hc := h c rfl
    rcases List.mem_cons.1 hb with rfl | hb
    · exact hc
    · have h1 := (List.pairwise_cons.1 hs).1 b hb
      have h2 := cmpH_swap c x
      have h3 : cmpH x b < 0 := cmpH_trans (a := x) (b := c) (by omega) h1
      have := cmpH_swap x b
      omega

theorem getD_map_first (L : List (List Hd)) (j : Nat) (h : j < L.length) : (L.map firstH)[j]'(by simpa using h) = firstH (L[j]) := by simp

/-- What seek tells, out of where its two searches end. -/
theorem seek_first {L : List (List Hd)} {x : Hd} {k : Nat} (hs : SrtH L.flatten) (hk : k < L.length) (h0 : cmpH (firstH L[k]) x = 0) (hne : ∀ l, l ∈ L → l ≠ []) : Seek L x k 0 true := by
  have e : L.getD k [] = L[k] := by simp [hk]
  have hx := cmpH_zero h0
  obtain ⟨a, r, hr⟩ : ∃ a r, L[k] = a :: r := by
    cases hl : L[k] with
    | nil => exact absurd hl (hne _ (List.getElem_mem hk))
    | cons a r => exact ⟨a, r, rfl⟩
  have hxa : a = x := by rw [← hx, hr]; rfl
  refine ⟨.inr hk, Nat.zero_le _, fun b hb => ?_, fun h => (by cases h), fun _ => ⟨r, (by rw [e, hr, hxa]; rfl)⟩⟩
  rw [flat_split L k 0 hk] at hs
  exact (List.pairwise_append.1 hs).2.2 b hb x (by rw [e, hr, hxa]; simp)
theorem seek_zero {L : List (List Hd)} {x : Hd} (hs : SrtH L.flatten) (hne : ∀ l, l ∈ L → l ≠ []) (h0 : ∀ (h : 0 < L.length), 0 < cmpH (firstH L[0]) x) : Seek L x 0 0 false := by
  cases L with
  | nil => exact ⟨.inl ⟨rfl, rfl, rfl⟩, Nat.zero_le _, fun a ha => (by simp at ha), fun _ b hb => (by simp at hb), fun h => (by cases h)⟩
  | cons l L =>
    refine ⟨.inr (by simp), Nat.zero_le _, fun a ha => (by simp at ha), fun _ => ?_, fun h => (by cases h)⟩
    have e : ((l :: L).getD 0 []).drop 0 ++ ((l :: L).drop (0 + 1)).flatten = (l :: L).flatten := by simp
    rw [e]
    refine all_above hs (fun b hb => ?_)
    have := h0 (by simp)
    cases l with
    | nil => exact absurd rfl (hne [] (by simp))
    | cons c l =>
      simp only [List.flatten_cons, List.cons_append, List.head?_cons, Option.some.injEq] at hb
      subst hb
      exact this
theorem seek_in {L : List (List Hd)} {x : Hd} {k at' : Nat} {th : Bool} (hs : SrtH L.flatten) (hne : ∀ l, l ∈ L → l ≠ []) (hk : k < L.length) (h1 : cmpH (firstH L[k]) x < 0) (h2 : ∀ (h : k + 1 < L.length), 0 < cmpH (firstH L[k + 1]) x)
    (ha : at' ≤ L[k].length) (hl : ∀ i (h : i < L[k].length), i < at' → cmpH (L[k][i]) x < 0) (hh : ∀ i (h : i < L[k].length), at' ≤ i → ¬ cmpH (L[k][i]) x < 0) (hth : th = true ↔ ∃ h : at' < L[k].length, cmpH (L[k][at']) x = 0) : Seek L x k at' th := by
  have e : L.getD k [] = L[k] := by simp [hk]
  have hsp := hs
  rw [flat_split L k at' hk] at hsp
  obtain ⟨_, hB, _⟩ := List.pairwise_append.1 hsp
  refine ⟨.inr hk, by rw [e]; exact ha, fun a haa => ?_, fun hf => ?_, fun ht => ?_⟩
  · rcases List.mem_append.1 haa with h | h
    · obtain ⟨f, r, hr⟩ : ∃ f r, L[k] = f :: r := by
        cases hl : L[k] with
        | nil => exact absurd hl (hne _ (List.getElem_mem hk))
        | cons a r => exact ⟨a, r, rfl⟩
      have hs0 := hs
      rw [flat_split L k 0 hk] at hs0
      have := (List.pairwise_append.1 hs0).2.2 a (by simp [h]) f (by rw [e, hr]; simp)
      rw [hr] at h1
      exact cmpH_trans this h1
    · rw [e] at h
      obtain ⟨i, hi, rfl⟩ := List.getElem_of_mem h
      rw [List.length_take] at hi
      rw [List.getElem_take]
      exact hl i (by omega) (by omega)
  · refine all_above hB (fun b hb => ?_)
    rw [e] at hb
    by_cases hat : at' < L[k].length
    · rw [List.drop_eq_getElem_cons hat, List.cons_append, List.head?_cons, Option.some.injEq] at hb
      subst hb
      have h3 := hh at' hat (Nat.le_refl _)
      have h4 : ¬ cmpH (L[k][at']) x = 0 := fun h => by rw [hth.2 ⟨hat, h⟩] at hf; cases hf
      omega
    · rw [List.drop_eq_nil_of_le (by omega), List.nil_append] at hb
      by_cases hk1 : k + 1 < L.length
      · rw [List.drop_eq_getElem_cons hk1, List.flatten_cons] at hb
        have := h2 hk1
        cases hl : L[k + 1] with
        | nil => exact absurd hl (hne _ (List.getElem_mem hk1))
        | cons c l =>
          rw [hl] at hb this
          simp only [List.cons_append, List.head?_cons, Option.some.injEq] at hb
          subst hb
          exact this
      · rw [List.drop_eq_nil_of_le (by omega)] at hb
        cases hb
  · obtain ⟨h, h0⟩ := hth.1 ht
    exact ⟨L[k].drop (at' + 1), by rw [e, List.drop_eq_getElem_cons h, cmpH_zero h0]⟩
end Go.Proofs.Ytnnmigglcpkomaa.Dm
