/- The order of lists of bytes. No program's function is met here. -/
import Derived.Test.YtnnmigglcpkomaaProg
import Derived.WalkKit
import Derived.WalkLawsBesides
import Derived.WalkSpells
import Derived.Outline
import Derived.Below
import Derived.Lib.Hide
set_option maxRecDepth 100000
namespace Go.Proofs.Ytnnmigglcpkomaa
open Go.RowKit

/-! ### The order of keys -/
def lt (a b : List UInt8) : Prop := Op.bytesLess a b = true
instance (a b : List UInt8) : Decidable (lt a b) := inferInstanceAs (Decidable (Op.bytesLess a b = true))
def le (a b : List UInt8) : Prop := ¬ lt b a
theorem lt_nil (a : List UInt8) : ¬ lt a [] := by cases a <;> simp [lt, Op.bytesLess]
theorem nil_lt {a : List UInt8} (h : a ≠ []) : lt [] a := by cases a with | nil => exact absurd rfl h | cons _ _ => rfl
theorem lt_cons {x y : UInt8} {a b : List UInt8} : lt (x :: a) (y :: b) ↔ x.toNat < y.toNat ∨ x = y ∧ lt a b := by
  simp [lt, Op.bytesLess, UInt8.lt_iff_toNat_lt]
theorem lt_irrefl (a : List UInt8) : ¬ lt a a := by
  induction a with
  | nil => exact lt_nil _
  | cons x a ih => rw [lt_cons]; rintro (h | ⟨_, h⟩); exact Nat.lt_irrefl _ h; exact ih h
theorem lt_trans : ∀ {a b c : List UInt8}, lt a b → lt b c → lt a c
  | _, _, [], _, h => absurd h (lt_nil _)
  | _, [], _, h, _ => absurd h (lt_nil _)
  | [], _ :: _, _ :: _, _, _ => rfl
  | x :: a, y :: b, z :: c, h1, h2 => by
    rw [lt_cons] at h1 h2 ⊢
    rcases h1 with h1 | ⟨rfl, h1⟩ <;> rcases h2 with h2 | ⟨rfl, h2⟩
    · exact .inl (by omega)
    · exact .inl h1
    · exact .inl h2
    · exact .inr ⟨rfl, lt_trans h1 h2⟩
theorem lt_tri : ∀ (a b : List UInt8), lt a b ∨ a = b ∨ lt b a
  | [], [] => .inr (.inl rfl)
  | [], _ :: _ => .inl rfl
  | _ :: _, [] => .inr (.inr rfl)
  | x :: a, y :: b => by
    rw [lt_cons, lt_cons]
    rcases Nat.lt_trichotomy x.toNat y.toNat with h | h | h
    · exact .inl (.inl h)
    · have hxy : x = y := UInt8.toNat_inj.1 h
      subst hxy
      rcases lt_tri a b with h | rfl | h
      · exact .inl (.inr ⟨rfl, h⟩)
      · exact .inr (.inl rfl)
      · exact .inr (.inr (.inr ⟨rfl, h⟩))
    · exact .inr (.inr (.inl h))
theorem lt_asymm {a b : List UInt8} (h : lt a b) : ¬ lt b a := fun h' => lt_irrefl _ (lt_trans h h')
theorem lt.ne {a b : List UInt8} (h : lt a b) : a ≠ b := fun e => lt_irrefl b (e ▸ h)
theorem le_refl' (a : List UInt8) : le a a := lt_irrefl a
theorem lt.le {a b : List UInt8} (h : lt a b) : le a b := lt_asymm h
theorem le_iff {a b : List UInt8} : le a b ↔ lt a b ∨ a = b := by
  constructor
  · intro h
    rcases lt_tri a b with h1 | h1 | h1
    · exact .inl h1
    · exact .inr h1
    · exact absurd h1 h
  · rintro (h | rfl)
    · exact h.le
    · exact le_refl' _
theorem nil_le (a : List UInt8) : le [] a := lt_nil a
theorem lt_of_le_lt {a b c : List UInt8} (h : le a b) (k : lt b c) : lt a c := by
  rcases le_iff.1 h with h | rfl
  · exact lt_trans h k
  · exact k
theorem lt_of_lt_le {a b c : List UInt8} (h : lt a b) (k : le b c) : lt a c := by
  rcases le_iff.1 k with k | rfl
  · exact lt_trans h k
  · exact h
theorem le_trans' {a b c : List UInt8} (h : le a b) (k : le b c) : le a c := fun x => k (lt_of_lt_le x h)
theorem not_lt_le {a b : List UInt8} (h : ¬ lt a b) : le b a := h
end Go.Proofs.Ytnnmigglcpkomaa
