/- The contract of the reference's Parse: at a text that is no list's. -/
import Derived.Test.YtoiahhfjejddjaaDoorRJ
import Derived.Test.YtoiahhfjejddjaaDoorM
set_option maxRecDepth 100000
namespace Go.Proofs.YtoiahhfjejddjaaDoor
open Go Go.RowKit

theorem not_list {s : List UInt8} (h : s.length < 2 ∨ s.head? ≠ some 91) (xs : List It) : s ≠ 91 :: (commaT xs ++ [93]) := by
  rintro rfl
  rcases h with h | h
  · simp at h; omega
  · exact h rfl

theorem valid_item {k n : Int} {t : ByteArray} (h : itemOk k n t 0 = true) (hn : I64 n) : k ≠ 3 ∧ Valid k n t [] := by
  have hk : k ≠ 3 := by
    rcases (itemOk_true h).2 with ⟨q, _⟩ | ⟨q, _⟩ <;> omega
  exact ⟨hk, by rw [dOk, if_neg hk]; exact h, hn, fun x hx => by simp at hx⟩

theorem read_yes {s : List UInt8} (h : s.length < 2 ∨ s.head? ≠ some 91) {k n : Int} {t : ByteArray} (hok : itemOk k n t 0 = true) (hn : I64 n) (ht : itemT k n t = s) : Valid k n t [] ∧ datT k n t [] = s ∧ DClause s k n t [] := by
  obtain ⟨hk, hv⟩ := valid_item hok hn
  refine ⟨hv, by rw [datT, if_neg hk, ht], ?_⟩
  intro k' n' t' ys hv' e
  by_cases hk' : k' = 3
  · subst hk'
    exact absurd (by rw [e, datT, if_pos rfl]) (not_list h ys)
  · obtain ⟨h1, rfl⟩ := hv'.item hk'
    rw [datT, if_neg hk'] at e
    obtain ⟨q1, q2, q3, _⟩ := item_pfx (r' := []) (r := []) hok h1 hn hv'.2.1 (by simp) (by simp) (by rw [ht, e])
    exact ⟨q1, q2, q3, rfl⟩

theorem read_no {s : List UInt8} (h : s.length < 2 ∨ s.head? ≠ some 91) (hno : ∀ k n t, itemOk k n t 0 = true → I64 n → itemT k n t ≠ s) : ∀ k n t xs, Valid k n t xs → s ≠ datT k n t xs := by
  intro k n t xs hv e
  by_cases hk : k = 3
  · subst hk
    exact not_list h xs (by rw [e, datT, if_pos rfl])
  · obtain ⟨h1, rfl⟩ := hv.item hk
    rw [datT, if_neg hk] at e
    exact hno k n t h1 hv.2.1 e.symm

/-- What the list's scan has shown, as the post wants it. -/
theorem scan_clause {s : List UInt8} (hs : ∃ s', s = 91 :: s') {acc : List It} (h : ∀ ys, s = 91 :: (commaT ys ++ [93]) → Good ys → ys.length ≤ 8 → ys.map cont = acc.map cont) : DClause s 3 0 ⟨#[]⟩ acc := by
  intro k' n' t' ys hv e
  by_cases hk : k' = 3
  · subst hk
    obtain ⟨a, b, c, d⟩ := hv.good
    rw [datT, if_pos rfl] at e
    exact ⟨rfl, a.symm, b.symm, (h ys e d c).symm⟩
  · exfalso
    obtain ⟨h1, _⟩ := hv.item hk
    obtain ⟨s', hs⟩ := hs
    rw [datT, if_neg hk] at e
    rcases (itemOk_true h1).2 with ⟨q, _⟩ | ⟨q, _⟩
    · subst q
      obtain ⟨c', r', e', _, h91⟩ := itoa_head n'
      rw [itemT, if_pos rfl, e', hs] at e
      injection e with e _
      exact h91 e.symm
    · subst q
      rw [itemT, if_neg (by decide), hs] at e
      injection e with e _
      exact absurd e (by decide)
theorem scan_no {s : List UInt8} (hs : ∃ s', s = 91 :: s') (h : ∀ ys, s = 91 :: (commaT ys ++ [93]) → Good ys → ys.length ≤ 8 → False) : ∀ k n t xs, Valid k n t xs → s ≠ datT k n t xs := by
  intro k n t xs hv e
  have hc := scan_clause hs (acc := []) (fun ys a b c => (h ys a b c).elim) k n t xs hv e
  obtain ⟨rfl, rfl, rfl, _⟩ := hc
  obtain ⟨_, _, c, d⟩ := hv.good
  rw [datT, if_pos rfl] at e
  exact h xs e d c
end Go.Proofs.YtoiahhfjejddjaaDoor
