/- Plain lemmas over texts of integers: they are read as what they are of. No condition. -/
import Derived.Test.YtoiahhfjejddjaaDoorPlain
import Derived.Lib.ItoaLen
import Derived.Lib.AtoiAllCases
namespace Go.Proofs.YtoiahhfjejddjaaDoor
open Go Go.RowKit

theorem nDigits_le (k : Nat) : ∀ u, u < 10 ^ (k + 1) → Lib.nDigits u ≤ k + 1 := by
  induction k with
  | zero => intro u h; rw [Lib.nDigits_small (by simpa using h)]; exact Nat.le_refl _
  | succ k ih =>
    intro u h
    by_cases hu : u < 10
    · rw [Lib.nDigits_small hu]; omega
    · rw [Lib.nDigits_big hu]
      have h2 : u / 10 < 10 ^ (k + 1) := by
        rw [Nat.div_lt_iff_lt_mul (by omega)]
        rw [Nat.pow_succ] at h
        exact h
      have := ih _ h2
      omega

theorem itoa_len20 (n : Int) (h0 : -9223372036854775808 ≤ n) (h1 : n ≤ 9223372036854775807) : (Lib.itoa n).length ≤ 20 := by
  have h19 : (10000000000000000000 : Nat) = 10 ^ (18 + 1) := by decide
  unfold Lib.itoa
  split
  · have := nDigits_le 18 n.natAbs (by omega)
    rw [List.length_cons, Lib.decDigits_length]; omega
  · have := nDigits_le 18 n.toNat (by omega)
    rw [Lib.decDigits_length]; omega

/-- Digits alone. -/
theorem decDigits_dig : ∀ (f u : Nat), u ≤ f → ∀ c ∈ Lib.decDigits u, 48 ≤ c.toNat ∧ c.toNat ≤ 57 := by
  intro f
  induction f with
  | zero =>
    intro u hu c hc
    rw [Lib.decDigits_one (by omega)] at hc
    simp at hc; subst hc
    obtain rfl : u = 0 := by omega
    decide
  | succ f ih =>
    intro u hu c hc
    by_cases h : u < 10
    · rw [Lib.decDigits_one h] at hc
      rw [List.mem_singleton] at hc; subst hc
      rw [UInt8.toNat_ofNat', Nat.mod_eq_of_lt (by omega)]; omega
    · rw [Lib.decDigits, dif_neg h] at hc
      rcases List.mem_append.1 hc with hc | hc
      · exact ih _ (by omega) c hc
      · rw [List.mem_singleton] at hc; subst hc
        rw [UInt8.toNat_ofNat', Nat.mod_eq_of_lt (by omega)]; omega

theorem decDigits_ne (u : Nat) : ∃ c r, Lib.decDigits u = c :: r := by
  have h : (Lib.decDigits u).length = Lib.nDigits u := Lib.decDigits_length u
  have := Lib.nDigits_pos u
  cases e : Lib.decDigits u with
  | nil => rw [e] at h; simp at h; omega
  | cons c r => exact ⟨c, r, rfl⟩

theorem parse_dec : ∀ (f u : Nat), u ≤ f → u < 18446744073709551616 → ∀ rest, Lib.parseUint10 0 (Lib.decDigits u ++ rest) = Lib.parseUint10 u rest := by
  intro f
  induction f with
  | zero =>
    intro u hu _ rest
    obtain rfl : u = 0 := by omega
    rw [Lib.decDigits_one (by omega)]
    simp [Lib.parseUint10]
  | succ f ih =>
    intro u hu hlt rest
    by_cases h : u < 10
    · rw [Lib.decDigits_one h]
      have e : (UInt8.ofNat (48 + u)).toNat = 48 + u := by rw [UInt8.toNat_ofNat', Nat.mod_eq_of_lt (by omega)]
      simp only [List.cons_append, List.nil_append, Lib.parseUint10, e]
      rw [if_pos (by omega), if_neg (by omega), if_neg (by omega)]
      congr 1
      omega
    · rw [Lib.decDigits, dif_neg h, List.append_assoc, ih (u / 10) (by omega) (by omega)]
      have e : (UInt8.ofNat (48 + u % 10)).toNat = 48 + u % 10 := by rw [UInt8.toNat_ofNat', Nat.mod_eq_of_lt (by omega)]
      simp only [List.cons_append, List.nil_append, Lib.parseUint10, e]
      rw [if_pos (by omega), if_neg (by omega), if_neg (by omega)]
      congr 1
      omega

theorem parseMag_dec (u : Nat) (h : u < 18446744073709551616) : Lib.parseMag (Lib.decDigits u) = .ok u := by
  obtain ⟨c, r, e⟩ := decDigits_ne u
  unfold Lib.parseMag
  rw [if_neg (by rw [e]; simp)]
  have := parse_dec u u (Nat.le_refl _) h []
  rw [List.append_nil] at this
  rw [this]; rfl

theorem atoi_itoa (n : Int) (h0 : -9223372036854775808 ≤ n) (h1 : n ≤ 9223372036854775807) : Lib.atoiAll (Lib.itoa n) = .ok n := by
  unfold Lib.itoa
  split
  · rename_i hn
    rw [Lib.atoiAll_minus, parseMag_dec _ (by omega)]
    show (if 9223372036854775808 < n.natAbs then Lib.NumEnd.range else Lib.NumEnd.ok (-(n.natAbs : Int))) = Lib.NumEnd.ok n
    rw [if_neg (by omega)]
    congr 1
    omega
  · rename_i hn
    obtain ⟨c, r, e⟩ := decDigits_ne n.toNat
    have hc := decDigits_dig _ n.toNat (Nat.le_refl _) c (by rw [e]; simp)
    have hp := parseMag_dec n.toNat (by omega)
    rw [e] at hp ⊢
    rw [Lib.atoiAll_plain _ _ (by omega) (by omega), hp]
    show (if 9223372036854775808 ≤ n.toNat then Lib.NumEnd.range else Lib.NumEnd.ok (n.toNat : Int)) = Lib.NumEnd.ok n
    rw [if_neg (by omega)]
    congr 1
    omega

/-- The signs of which the text of an integer is made. -/
def numC (c : UInt8) : Bool := decide ((c.toNat : Int) = 45 ∨ 48 ≤ (c.toNat : Int) ∧ (c.toNat : Int) ≤ 57)
theorem itoa_numC (n : Int) : ∀ c ∈ Lib.itoa n, numC c = true := by
  intro c hc
  unfold Lib.itoa at hc
  unfold numC
  split at hc
  · rcases List.mem_cons.1 hc with rfl | hc
    · decide
    · have := decDigits_dig _ _ (Nat.le_refl _) c hc
      exact decide_eq_true (by omega)
  · have := decDigits_dig _ _ (Nat.le_refl _) c hc
    exact decide_eq_true (by omega)
theorem itoa_ne (n : Int) : Lib.itoa n ≠ [] := by
  unfold Lib.itoa
  split
  · simp
  · obtain ⟨c, r, e⟩ := decDigits_ne n.toNat
    rw [e]; simp
theorem itoa_head (n : Int) : ∃ c r, Lib.itoa n = c :: r ∧ c ≠ 39 ∧ c ≠ 91 := by
  cases e : Lib.itoa n with
  | nil => exact absurd e (itoa_ne n)
  | cons c r =>
    have := itoa_numC n c (by rw [e]; simp)
    refine ⟨c, r, rfl, ?_, ?_⟩ <;> (intro h; subst h; revert this; decide)

/-- What may stand behind an item's text. -/
def Rest (r : List UInt8) : Prop := r = [] ∨ ∃ r', r = 44 :: r' ∨ r = 93 :: r'
theorem Rest.head {r : List UInt8} (h : Rest r) : ∀ c, r.head? = some c → numC c = false := by
  intro c hc
  rcases h with rfl | ⟨r', rfl | rfl⟩
  · simp at hc
  · simp at hc; subst hc; decide
  · simp at hc; subst hc; decide

theorem int_scan {s : List UInt8} {n : Int} {r : List UInt8} (hs : s = Lib.itoa n ++ r) (h0 : -9223372036854775808 ≤ n) (h1 : n ≤ 9223372036854775807) (hr : Rest r) {j : Nat} (hj : j ≤ s.length) (_h20 : j ≤ 20)
    (hP : ∀ i (hi : i < s.length), i < j → numC (s[i]'hi) = true) (hE : j = s.length ∨ j = 20 ∨ ∃ h : j < s.length, numC (s[j]'h) = false) : s.take j = Lib.itoa n ∧ j = (Lib.itoa n).length := by
  subst hs
  have hl := itoa_len20 n h0 h1
  have key : j = (Lib.itoa n).length := by
    rcases Nat.lt_trichotomy j (Lib.itoa n).length with h | h | h
    · exfalso
      rcases hE with hE | hE | ⟨hE, hc⟩
      · rw [List.length_append] at hE; omega
      · omega
      · rw [List.getElem_append_left h] at hc
        have := itoa_numC n _ (List.getElem_mem h)
        rw [hc] at this; exact Bool.noConfusion this
    · exact h
    · exfalso
      have hlen : (Lib.itoa n).length < (Lib.itoa n ++ r).length := by omega
      have h2 := hP _ hlen h
      rw [List.getElem_append_right (Nat.le_refl _)] at h2
      have h3 := hr.head (r[(Lib.itoa n).length - (Lib.itoa n).length]'(by rw [List.length_append] at hlen; omega)) (by
        rw [List.head?_eq_getElem?, List.getElem?_eq_some_iff]
        exact ⟨by rw [List.length_append] at hlen; omega, by simp⟩)
      rw [h2] at h3; exact Bool.noConfusion h3
  refine ⟨?_, key⟩
  rw [key]
  simp
end Go.Proofs.YtoiahhfjejddjaaDoor
