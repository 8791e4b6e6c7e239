/- How a quoted text is read byte by byte, in plain lists. No program's function is met here. -/
import Derived.Test.YtoiahhfjejddjaaDoorRE
import Derived.Test.YtoiahhfjejddjaaDoorX
set_option maxRecDepth 100000
namespace Go.Proofs.YtoiahhfjejddjaaDoor
open Go Go.RowKit

/-- How far a quoted text that is the whole has been read. -/
def ScanW (s acc : List UInt8) (j : Nat) : Prop := ∀ t, s = pText t → t.length ≤ 32 → ∃ t2, t = acc ++ t2 ∧ s.drop j = t2.flatMap pB ++ 39 :: []

theorem ScanW.start {s : List UInt8} : ScanW s [] 1 := by
  intro t hs _
  refine ⟨t, rfl, ?_⟩
  rw [hs]
  simp [pText]

theorem ScanW.plain {s acc : List UInt8} {j : Nat} (h : ScanW s acc j) (hj : j + 1 < s.length) (h37 : s[j]'(by omega) ≠ 37) : ScanW s (acc ++ [s[j]'(by omega)]) (j + 1) := by
  intro t hs ht
  obtain ⟨t2, e1, e2⟩ := h t hs ht
  rw [drop_cons (by omega : j < s.length)] at e2
  by_cases h39 : s[j]'(by omega) = 39
  · exfalso
    rw [h39] at e2
    have := (scan_quote e2).2
    have hl := congrArg List.length this
    simp at hl
    omega
  · obtain ⟨t3, e3, e4⟩ := scan_plain e2 h39 h37
    exact ⟨t3, by rw [e1, e3]; simp, e4⟩

theorem ScanW.esc {s acc : List UInt8} {j : Nat} (h : ScanW s acc j) (hj : j < s.length) (h37 : s[j]'hj = 37) (t : List UInt8) (hs : s = pText t) (ht : t.length ≤ 32) :
    ∃ u t3, t = acc ++ u :: t3 ∧ s.drop (j + 1) = hexD (u.toNat / 16) :: hexD (u.toNat % 16) :: (t3.flatMap pB ++ 39 :: []) := by
  obtain ⟨t2, e1, e2⟩ := h t hs ht
  rw [drop_cons hj, h37] at e2
  obtain ⟨u, t3, e3, e4⟩ := scan_esc e2
  exact ⟨u, t3, by rw [e1, e3], e4⟩

theorem ScanW.hex {s acc : List UInt8} {j : Nat} (h : ScanW s acc j) (hj : j + 3 < s.length) (h37 : s[j]'(by omega) = 37) : ScanW s (acc ++ [byt (16 * hexV (s[j + 1]'(by omega)) + hexV (s[j + 2]'(by omega)))]) (j + 3) := by
  intro t hs ht
  obtain ⟨u, t3, e1, e2⟩ := h.esc (by omega) h37 t hs ht
  rw [drop_cons (by omega : j + 1 < s.length), drop_cons (by omega : j + 1 + 1 < s.length)] at e2
  injection e2 with a1 a2
  injection a2 with a2 a3
  refine ⟨t3, ?_, a3⟩
  have hu : u.toNat < 256 := u.toNat_lt
  have hb : byt (16 * hexV (s[j + 1]'(by omega)) + hexV (s[j + 2]'(by omega))) = u := by
    apply UInt8.toNat_inj.1
    have h1 : hexV (s[j + 1]'(by omega)) = ((u.toNat / 16 : Nat) : Int) := by rw [a1]; exact hexV_hexD _ (by omega)
    have h2 : hexV (s[j + 2]'(by omega)) = ((u.toNat % 16 : Nat) : Int) := by
      have : s[j + 2]'(by omega) = s[j + 1 + 1]'(by omega) := rfl
      rw [this, a2]; exact hexV_hexD _ (by omega)
    have h3 := byt_nat (16 * hexV (s[j + 1]'(by omega)) + hexV (s[j + 2]'(by omega)))
    rw [h1, h2] at h3 ⊢
    omega
  rw [hb, e1]
  simp

theorem ScanW.short {s acc : List UInt8} {j : Nat} (h : ScanW s acc j) (hj : j < s.length) (h37 : s[j]'hj = 37) (hl : s.length ≤ j + 3) : ∀ t, t.length ≤ 32 → s ≠ pText t := by
  intro t ht hs
  obtain ⟨u, t3, e1, e2⟩ := h.esc hj h37 t hs ht
  have := congrArg List.length e2
  simp at this
  omega

theorem ScanW.bad {s acc : List UInt8} {j : Nat} (h : ScanW s acc j) (hj : j + 2 < s.length) (h37 : s[j]'(by omega) = 37) (hb : hexV (s[j + 1]'(by omega)) < 0 ∨ hexV (s[j + 2]'(by omega)) < 0) : ∀ t, t.length ≤ 32 → s ≠ pText t := by
  intro t ht hs
  obtain ⟨u, t3, e1, e2⟩ := h.esc (by omega) h37 t hs ht
  rw [drop_cons (by omega : j + 1 < s.length), drop_cons (by omega : j + 1 + 1 < s.length)] at e2
  injection e2 with a1 a2
  injection a2 with a2 a3
  have hu : u.toNat < 256 := u.toNat_lt
  have h1 : hexV (s[j + 1]'(by omega)) = ((u.toNat / 16 : Nat) : Int) := by rw [a1]; exact hexV_hexD _ (by omega)
  have h2 : hexV (s[j + 2]'(by omega)) = ((u.toNat % 16 : Nat) : Int) := by
    have : s[j + 2]'(by omega) = s[j + 1 + 1]'(by omega) := rfl
    rw [this, a2]; exact hexV_hexD _ (by omega)
  omega

theorem ScanW.done {s acc : List UInt8} {j : Nat} (h : ScanW s acc j) (hl : s.length ≤ j + 1) (t : List UInt8) (hs : s = pText t) (ht : t.length ≤ 32) : t = acc := by
  obtain ⟨t2, e1, e2⟩ := h t hs ht
  cases t2 with
  | nil => simpa using e1
  | cons u t3 =>
    exfalso
    have hlen := congrArg List.length e2
    simp at hlen
    have hp : 1 ≤ (pB u).length := by unfold pB; split <;> simp
    omega
end Go.Proofs.YtoiahhfjejddjaaDoor
