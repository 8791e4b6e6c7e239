/- A heap of texts in plain words: blocks in a row, each with a text; two change their places; down, up. No program's function is met here. -/
import Derived.Test.YtgegljbocacdnaaOA
import Derived.Test.YtgegljbocacdnaaGA
set_option maxRecDepth 100000
namespace Go.Proofs.Ytgegljbocacdnaa
open Go.RowKit

/-- Two of a row change their places. -/
def swp (l : List Nat) (i j : Nat) : List Nat := (l.set i (l.getD j 0)).set j (l.getD i 0)
theorem swp_len (l : List Nat) (i j : Nat) : (swp l i j).length = l.length := by simp [swp]
theorem getD_eq (l : List Nat) (i : Nat) (h : i < l.length) : l.getD i 0 = l[i] := by simp [List.getD_eq_getElem?_getD, List.getElem?_eq_getElem h]
theorem getD_app {l : List Nat} (m : List Nat) {i : Nat} (h : i < l.length) : (l ++ m).getD i 0 = l.getD i 0 := by simp [List.getD_eq_getElem?_getD, List.getElem?_append_left h]
theorem swp_get {l : List Nat} {i j : Nat} (hi : i < l.length) (hj : j < l.length) (k : Nat) : (swp l i j).getD k 0 = if k = j then l.getD i 0 else if k = i then l.getD j 0 else l.getD k 0 := by
  unfold swp
  simp only [List.getD_eq_getElem?_getD, List.getElem?_set, List.length_set]
  by_cases h1 : j = k
  · subst h1; simp [hj]
  · rw [if_neg h1]
    by_cases h2 : i = k
    · subst h2; simp [hi, Ne.symm h1]
    · rw [if_neg h2, if_neg (Ne.symm h1), if_neg (Ne.symm h2)]
theorem swp_perm {l : List Nat} {i j : Nat} (hi : i < l.length) (hj : j < l.length) : (swp l i j).Perm l := by
  have h := Array.swap_perm (xs := l.toArray) (i := i) (j := j) (by simpa using hi) (by simpa using hj)
  have e : (l.toArray.swap i j (by simpa using hi) (by simpa using hj)).toList = swp l i j := by
    unfold swp
    rw [getD_eq l i hi, getD_eq l j hj]
    simp [Array.swap_def]
  have h2 := Array.perm_iff_toList_perm.1 h
  rw [e] at h2
  simpa using h2

section
variable (K : Nat → ByteArray)
/-- The j-th is not below the one above it. -/
def Ord (l : List Nat) (j : Nat) : Prop := leS (K (l.getD ((j - 1) / 2) 0)) (K (l.getD j 0))
/-- The first n stand as a heap, so far as s and what comes behind it are above others. -/
def HpF (l : List Nat) (n s : Nat) : Prop := ∀ j, 1 ≤ j → j < n → s ≤ (j - 1) / 2 → Ord K l j
/-- What holds while one goes down: it is at i. -/
structure Dn (l : List Nat) (n s i : Nat) : Prop where
  ord : ∀ j, 1 ≤ j → j < n → s ≤ (j - 1) / 2 → (j - 1) / 2 ≠ i → Ord K l j
  up : s < i → s ≤ (i - 1) / 2 ∧ ∀ j, 1 ≤ j → j < n → (j - 1) / 2 = i → leS (K (l.getD ((i - 1) / 2) 0)) (K (l.getD j 0))
variable {K}
theorem Dn.start {l : List Nat} {n s : Nat} (h : HpF K l n (s + 1)) : Dn K l n s s :=
  ⟨fun j h1 h2 h3 h4 => h j h1 h2 (by omega), fun h => absurd h (Nat.lt_irrefl _)⟩
/-- One step down: c is the lesser one below i. -/
theorem Dn.step {l : List Nat} {n s i c : Nat} (h : Dn K l n s i) (hl : n ≤ l.length) (hsi : s ≤ i) (hc1 : 1 ≤ c) (hcn : c < n) (hci : (c - 1) / 2 = i) (hmin : ∀ j, 1 ≤ j → j < n → (j - 1) / 2 = i → leS (K (l.getD c 0)) (K (l.getD j 0))) (hlt : ¬ leS (K (l.getD i 0)) (K (l.getD c 0))) : Dn K (swp l i c) n s c := by
  have hi : i < l.length := by omega
  have hc : c < l.length := by omega
  have g := swp_get hi hc
  have hle : leS (K (l.getD c 0)) (K (l.getD i 0)) := (leS_total _ _).resolve_right hlt
  refine ⟨fun j h1 h2 h3 h4 => ?_, fun hsc => ⟨by omega, fun j h1 h2 h3 => ?_⟩⟩
  · unfold Ord
    rw [g, g]
    by_cases hp : (j - 1) / 2 = i
    · by_cases hjc : j = c
      · subst hjc
        rw [if_neg h4, if_pos hp, if_pos rfl]; exact hle
      · rw [if_neg h4, if_pos hp, if_neg hjc, if_neg (by omega)]
        exact hmin j h1 h2 hp
    · rw [if_neg h4, if_neg hp, if_neg (by rintro rfl; exact hp hci)]
      by_cases hji : j = i
      · subst hji
        rw [if_pos rfl]
        exact (h.up (by omega)).2 c hc1 hcn hci
      · rw [if_neg hji]
        exact h.ord j h1 h2 h3 hp
  · rw [g, g, if_neg (by omega), if_pos hci, if_neg (by omega), if_neg (by omega)]
    have := h.ord j h1 h2 (by omega) (by omega)
    unfold Ord at this
    rwa [h3] at this
theorem Dn.stop {l : List Nat} {n s i : Nat} (h : Dn K l n s i) (hmin : ∀ j, 1 ≤ j → j < n → (j - 1) / 2 = i → leS (K (l.getD i 0)) (K (l.getD j 0))) : HpF K l n s := by
  intro j h1 h2 h3
  by_cases hp : (j - 1) / 2 = i
  · unfold Ord; rw [hp]; exact hmin j h1 h2 hp
  · exact h.ord j h1 h2 h3 hp

/-- What holds while one goes up: it is at i. -/
structure UpI (K : Nat → ByteArray) (l : List Nat) (n i : Nat) : Prop where
  ord : ∀ j, 1 ≤ j → j < n → j ≠ i → Ord K l j
  up : ∀ j, 1 ≤ j → j < n → (j - 1) / 2 = i → 1 ≤ i → leS (K (l.getD ((i - 1) / 2) 0)) (K (l.getD j 0))
theorem UpI.step {l : List Nat} {n i p : Nat} (h : UpI K l n i) (hl : n ≤ l.length) (hi1 : 1 ≤ i) (hin : i < n) (hp : (i - 1) / 2 = p) (hlt : ¬ leS (K (l.getD p 0)) (K (l.getD i 0))) : UpI K (swp l p i) n p := by
  have hi : i < l.length := by omega
  have hpl : p < l.length := by omega
  have g := swp_get hpl hi
  have hle : leS (K (l.getD i 0)) (K (l.getD p 0)) := (leS_total _ _).resolve_right hlt
  refine ⟨fun j h1 h2 h3 => ?_, fun j h1 h2 h3 h4 => ?_⟩
  · unfold Ord
    rw [g, g]
    by_cases hji : j = i
    · subst hji
      rw [if_neg (by omega), if_pos hp, if_pos rfl]; exact hle
    · by_cases hjp : (j - 1) / 2 = p
      · rw [if_neg (by omega), if_pos hjp, if_neg hji, if_neg h3]
        have := h.ord j h1 h2 hji
        unfold Ord at this
        rw [hjp] at this
        exact leS_trans hle this
      · by_cases hjq : (j - 1) / 2 = i
        · rw [if_pos hjq, if_neg hji, if_neg h3]
          have := h.up j h1 h2 hjq hi1
          rwa [hp] at this
        · rw [if_neg hjq, if_neg hjp, if_neg hji, if_neg h3]
          exact h.ord j h1 h2 hji
  · rw [g, g, if_neg (by omega), if_neg (by omega)]
    have hop := h.ord p h4 (by omega) (by omega)
    unfold Ord at hop
    by_cases hji : j = i
    · subst hji
      rw [if_pos rfl]; exact hop
    · rw [if_neg hji, if_neg (by omega)]
      have := h.ord j h1 h2 hji
      unfold Ord at this
      rw [h3] at this
      exact leS_trans hop this
theorem UpI.stop {l : List Nat} {n i : Nat} (h : UpI K l n i) (hi : i = 0 ∨ leS (K (l.getD ((i - 1) / 2) 0)) (K (l.getD i 0))) : HpF K l n 0 := by
  intro j h1 h2 _
  by_cases hji : j = i
  · subst hji
    rcases hi with rfl | hi
    · omega
    · exact hi
  · exact h.ord j h1 h2 hji
/-- The first one of a heap is the least. -/
theorem HpF.least {l : List Nat} {n : Nat} (h : HpF K l n 0) : ∀ j, j < n → leS (K (l.getD 0 0)) (K (l.getD j 0)) := by
  intro j
  induction j using Nat.strongRecOn with
  | ind j ih =>
    intro hj
    by_cases h0 : j = 0
    · subst h0; exact leS_refl _
    · exact leS_trans (ih ((j - 1) / 2) (by omega) (by omega)) (h j (by omega) hj (Nat.zero_le _))
/-- What was put behind a heap goes up from there. -/
theorem UpI.start {l : List Nat} {q : Nat} (h : HpF K l l.length 0) : UpI K (l ++ [q]) (l.length + 1) l.length := by
  refine ⟨fun j h1 h2 h3 => ?_, fun j h1 h2 h3 _ => by omega⟩
  have := h j h1 (by omega) (Nat.zero_le _)
  unfold Ord at this ⊢
  rw [getD_app _ (by omega), getD_app _ (by omega)]
  exact this
theorem HpF.congr {l m : List Nat} {n s : Nat} (h : HpF K l n s) (e : ∀ k, k < n → m.getD k 0 = l.getD k 0) : HpF K m n s := fun j h1 h2 h3 => by
  unfold Ord
  rw [e _ h2, e _ (by omega)]
  exact h j h1 h2 h3
theorem HpF.keys {K2 : Nat → ByteArray} {l : List Nat} {n s : Nat} (h : HpF K l n s) (hl : n ≤ l.length) (e : ∀ q, q ∈ l → K2 q = K q) : HpF K2 l n s := fun j h1 h2 h3 => by
  have := h j h1 h2 h3
  unfold Ord at this ⊢
  rw [e _ (by rw [getD_eq _ _ (by omega)]; exact List.getElem_mem _), e _ (by rw [getD_eq _ _ (by omega)]; exact List.getElem_mem _)]
  exact this
/-- The last one has come to the first place, to go down from there. -/
theorem HpF.top {l : List Nat} {n : Nat} (h : HpF K l (n + 1) 0) (hl : l.length = n + 1) : HpF K (swp l 0 n) n 1 := by
  intro j h1 h2 h3
  have g := swp_get (l := l) (i := 0) (j := n) (by omega) (by omega)
  unfold Ord
  rw [g, g, if_neg (by omega), if_neg (by omega), if_neg (by omega), if_neg (by omega)]
  exact h j h1 (by omega) (Nat.zero_le _)
/-- Far enough behind nothing is below. -/
theorem HpF.far (K : Nat → ByteArray) (l : List Nat) (n s : Nat) (h : n ≤ 2 * s + 1) : HpF K l n s := fun j h1 h2 h3 => by omega
end
end Go.Proofs.Ytgegljbocacdnaa
