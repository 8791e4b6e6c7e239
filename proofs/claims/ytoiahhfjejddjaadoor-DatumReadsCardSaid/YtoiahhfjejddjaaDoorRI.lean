/- Plain lemmas of the reference's Parse: where an item's text ends within a list's. -/
import Derived.Test.YtoiahhfjejddjaaDoorRE
import Derived.Test.YtoiahhfjejddjaaDoorK
set_option maxRecDepth 100000
namespace Go.Proofs.YtoiahhfjejddjaaDoor
open Go Go.RowKit

/-- Two texts of quotes that begin alike are one. -/
theorem quote_pfx : ∀ (t' t r' r : List UInt8), t'.flatMap pB ++ 39 :: r' = t.flatMap pB ++ 39 :: r → t' = t ∧ r' = r
  | [], t, r', r, h => by
    have h1 : 39 :: r' = t.flatMap pB ++ 39 :: r := h
    obtain ⟨h2, h3⟩ := scan_quote h1
    exact ⟨h2.symm, h3⟩
  | u :: t', t, r', r, h => by
    rw [List.flatMap_cons] at h
    rcases pB_cases u with ⟨_, e⟩ | ⟨_, e, h39, h37⟩
    · rw [e] at h
      have h1 : 37 :: (hexD (u.toNat / 16) :: hexD (u.toNat % 16) :: (t'.flatMap pB ++ 39 :: r')) = t.flatMap pB ++ 39 :: r := h
      obtain ⟨v, t3, ht, hd⟩ := scan_esc h1
      injection hd with d1 hd
      injection hd with d2 hd
      have hu : u = v := by rw [← hexB_hexD u, ← hexB_hexD v, d1, d2]
      obtain ⟨q1, q2⟩ := quote_pfx t' t3 r' r hd
      exact ⟨by rw [ht, hu, q1], q2⟩
    · rw [e] at h
      have h1 : u :: (t'.flatMap pB ++ 39 :: r') = t.flatMap pB ++ 39 :: r := h
      obtain ⟨t3, ht, hd⟩ := scan_plain h1 h39 h37
      obtain ⟨q1, q2⟩ := quote_pfx t' t3 r' r hd
      exact ⟨by rw [ht, q1], q2⟩

theorem pText_pfx {t' t r' r : List UInt8} (h : pText t' ++ r' = pText t ++ r) : t' = t ∧ r' = r := by
  unfold pText at h
  simp only [List.cons_append, List.append_assoc, List.cons.injEq, true_and, List.nil_append] at h
  exact quote_pfx t' t r' r h

/-- A run of a number's bytes that something else ends. -/
theorem run_pfx (P : UInt8 → Bool) : ∀ (a b r' r : List UInt8), (∀ c ∈ a, P c = true) → (∀ c ∈ b, P c = true) → (∀ c, r'.head? = some c → P c = false) → (∀ c, r.head? = some c → P c = false) → a ++ r' = b ++ r → a = b ∧ r' = r
  | [], [], _, _, _, _, _, _, h => ⟨rfl, h⟩
  | [], c :: b, r', r, _, hb, h1, _, h => by
    have := h1 c (by rw [show r' = c :: (b ++ r) from h]; rfl)
    rw [hb c (by simp)] at this
    cases this
  | c :: a, [], r', r, ha, _, _, h2, h => by
    have := h2 c (by rw [show r = c :: (a ++ r') from h.symm]; rfl)
    rw [ha c (by simp)] at this
    cases this
  | c :: a, d :: b, r', r, ha, hb, h1, h2, h => by
    simp only [List.cons_append, List.cons.injEq] at h
    obtain ⟨q1, q2⟩ := run_pfx P a b r' r (fun x hx => ha x (by simp [hx])) (fun x hx => hb x (by simp [hx])) h1 h2 h.2
    exact ⟨by rw [h.1, q1], q2⟩

theorem empty_of {t : ByteArray} (h : t.toList.isEmpty = true) : t = ⟨#[]⟩ := by
  rw [ByteArray.toList_eq] at h
  have e : t.data.toList = [] := by simpa using h
  exact ByteArray.ext (Array.toList_inj.1 e)

/-- An item's text, whatever follows that is no number's byte, is this item's. -/
theorem item_pfx {k n k2 n2 : Int} {t t2 : ByteArray} {r' r : List UInt8} (h1 : itemOk k n t 0 = true) (h2 : itemOk k2 n2 t2 0 = true) (hn : I64 n) (hn2 : I64 n2)
    (hr' : ∀ c, r'.head? = some c → numC c = false) (hr : ∀ c, r.head? = some c → numC c = false) (h : itemT k n t ++ r' = itemT k2 n2 t2 ++ r) : k = k2 ∧ n = n2 ∧ t = t2 ∧ r' = r := by
  rcases (itemOk_true h1).2 with ⟨a1, a2⟩ | ⟨a1, a2, _⟩ <;> rcases (itemOk_true h2).2 with ⟨b1, b2⟩ | ⟨b1, b2, _⟩
  · subst a1; subst b1
    have h3 : Lib.itoa n ++ r' = Lib.itoa n2 ++ r := h
    obtain ⟨q1, q2⟩ := run_pfx numC _ _ _ _ (itoa_numC n) (itoa_numC n2) hr' hr h3
    have e1 := atoi_itoa n hn.1 hn.2
    rw [q1, atoi_itoa n2 hn2.1 hn2.2] at e1
    injection e1 with e1
    exact ⟨rfl, e1.symm, by rw [empty_of a2, empty_of b2], q2⟩
  · subst a1; subst b1
    exfalso
    have h3 : Lib.itoa n ++ r' = 39 :: (t2.data.toList.flatMap pB ++ [39]) ++ r := h
    obtain ⟨c, d, e, hc, _⟩ := itoa_head n
    rw [e] at h3
    injection h3 with h3 _
    exact hc h3
  · subst a1; subst b1
    exfalso
    have h3 : 39 :: (t.data.toList.flatMap pB ++ [39]) ++ r' = Lib.itoa n2 ++ r := h
    obtain ⟨c, d, e, hc, _⟩ := itoa_head n2
    rw [e] at h3
    injection h3 with h3 _
    exact hc h3.symm
  · subst a1; subst b1; subst a2; subst b2
    have h3 : pText t.data.toList ++ r' = pText t2.data.toList ++ r := h
    obtain ⟨q1, q2⟩ := pText_pfx h3
    exact ⟨rfl, rfl, ByteArray.ext (Array.toList_inj.1 q1), q2⟩
end Go.Proofs.YtoiahhfjejddjaaDoor
