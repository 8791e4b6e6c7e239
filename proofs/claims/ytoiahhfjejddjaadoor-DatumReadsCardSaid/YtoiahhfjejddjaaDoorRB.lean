/- Digits and their value, in plain words (for the reference's Number). No condition. -/
import Derived.Test.YtoiahhfjejddjaaDoorRA
import Derived.Test.YtoiahhfjejddjaaDoorText
set_option maxRecDepth 100000
namespace Go.Proofs.YtoiahhfjejddjaaDoor
open Go Go.RowKit

/-- The value of digits. -/
def valD (l : List UInt8) : Nat := l.foldl (fun u c => u * 10 + (c.toNat - 48)) 0
theorem valD_snoc (l : List UInt8) (c : UInt8) : valD (l ++ [c]) = valD l * 10 + (c.toNat - 48) := by simp [valD]
theorem valD_le : ∀ (r l : List UInt8), valD l ≤ valD (l ++ r)
  | [], l => by simp
  | c :: r, l => by
    have h := valD_le r (l ++ [c])
    rw [valD_snoc] at h
    rw [List.append_assoc] at h
    simp only [List.cons_append, List.nil_append] at h
    omega
theorem dec_small {u : Nat} (h : u < 10) : Lib.decDigits u = [UInt8.ofNat (48 + u)] := by
  rw [Lib.decDigits]
  simp [h]
theorem dec_step {u d : Nat} (hu : 1 ≤ u) (hd : d < 10) : Lib.decDigits (u * 10 + d) = Lib.decDigits u ++ [UInt8.ofNat (48 + d)] := by
  rw [Lib.decDigits]
  have h : ¬ u * 10 + d < 10 := by omega
  have h1 : (u * 10 + d) / 10 = u := by omega
  have h2 : (u * 10 + d) % 10 = d := by omega
  simp [h, h1, h2]
theorem valD_dec : ∀ (f u : Nat), u ≤ f → valD (Lib.decDigits u) = u := by
  intro f
  induction f with
  | zero => intro u hu; obtain rfl : u = 0 := by omega
            rw [dec_small (by omega)]; rfl
  | succ f ih =>
    intro u hu
    by_cases h : u < 10
    · rw [dec_small h]
      simp only [valD, List.foldl_cons, List.foldl_nil]
      rw [UInt8.toNat_ofNat']
      omega
    · have e : u = (u / 10) * 10 + u % 10 := by omega
      rw [e, dec_step (by omega) (by omega), valD_snoc, ih _ (by omega), UInt8.toNat_ofNat']
      omega
theorem dec_head : ∀ (f u : Nat), u ≤ f → 1 ≤ u → ∀ c r, Lib.decDigits u = c :: r → c ≠ 48 := by
  intro f
  induction f with
  | zero => intro u hu h1; omega
  | succ f ih =>
    intro u hu h1 c r hc
    by_cases h : u < 10
    · rw [dec_small h] at hc
      injection hc with hc _
      intro e
      subst e
      have := congrArg UInt8.toNat hc
      rw [UInt8.toNat_ofNat'] at this
      simp at this
      omega
    · have e : u = (u / 10) * 10 + u % 10 := by omega
      rw [e, dec_step (by omega) (by omega)] at hc
      obtain ⟨c', r', h'⟩ := decDigits_ne (u / 10)
      rw [h'] at hc
      injection hc with hc _
      rw [← hc]
      exact ih (u / 10) (by omega) (by omega) c' r' h'
/-- A byte that is a digit is its digit's byte. -/
theorem digit_byte {c : UInt8} (h0 : 48 ≤ c.toNat) (h1 : c.toNat ≤ 57) : UInt8.ofNat (48 + (c.toNat - 48)) = c := by
  rw [show 48 + (c.toNat - 48) = c.toNat by omega]
  simp

/-- Digits with no nought ahead are the digits of their value: one digit more. -/
theorem dec_snoc {l : List UInt8} {c : UInt8} (h : l = [] ∨ Lib.decDigits (valD l) = l ∧ 1 ≤ valD l) (h0 : 48 ≤ c.toNat) (h1 : c.toNat ≤ 57) : Lib.decDigits (valD (l ++ [c])) = l ++ [c] := by
  rw [valD_snoc]
  rcases h with rfl | ⟨h, hv⟩
  · simp only [valD, List.foldl_nil, Nat.zero_mul, Nat.zero_add, List.nil_append]
    rw [dec_small (by omega), digit_byte h0 h1]
  · rw [dec_step hv (by omega), h, digit_byte h0 h1]
theorem valD_pos {c : UInt8} {r : List UInt8} (h0 : 48 ≤ c.toNat) (hc : c ≠ 48) : 1 ≤ valD (c :: r) := by
  have h := valD_le r [c]
  have hv : valD [c] = c.toNat - 48 := by simp [valD]
  have hne : c.toNat ≠ 48 := fun e => hc (by rw [← UInt8.toNat_inj]; exact e)
  simp only [List.cons_append, List.nil_append] at h
  omega
end Go.Proofs.YtoiahhfjejddjaaDoor
