/- The contracts of printByte: for every byte; other memory stands. -/
import Derived.Test.YtoiahhfjejddjaaDoorE
import Derived.Deep.RegionHeld3
import Derived.RegionTactic
import Derived.ChangeAlike
import Derived.Laws.IdiomStrings
set_option maxRecDepth 100000
namespace Go.Proofs.YtoiahhfjejddjaaDoor
open Go Go.RowKit

def hexD (x : Nat) : UInt8 := UInt8.ofNat (if x < 10 then 48 + x else 55 + x)
abbrev digS : ByteArray := { data := #[48, 49, 50, 51, 52, 53, 54, 55, 56, 57, 65, 66, 67, 68, 69, 70] }
theorem dig_at (x : Nat) (h : x < 16) (h' : x < digS.size) : digS[x]'h' = hexD x := by
  have : x = 0 ∨ x = 1 ∨ x = 2 ∨ x = 3 ∨ x = 4 ∨ x = 5 ∨ x = 6 ∨ x = 7 ∨ x = 8 ∨ x = 9 ∨ x = 10 ∨ x = 11 ∨ x = 12 ∨ x = 13 ∨ x = 14 ∨ x = 15 := by omega
  rcases this with rfl | rfl | rfl | rfl | rfl | rfl | rfl | rfl | rfl | rfl | rfl | rfl | rfl | rfl | rfl | rfl <;> rfl

/-- Is a byte told by three signs? -/
def esc (u : UInt8) : Bool := decide ((u.toNat : Int) < 33 ∨ 126 < (u.toNat : Int) ∨ (u.toNat : Int) = 39 ∨ (u.toNat : Int) = 37)
/-- What stands for a byte of a text. -/
def pB (u : UInt8) : List UInt8 := if esc u = true then [37, hexD (u.toNat / 16), hexD (u.toNat % 16)] else [u]

theorem conv3 (w : World) (x y : UInt8) : (convert 42 9 (.slice (some ⟨w.heap.size, 0, none⟩) 3 3)).run Tryd.prog (w.alloc (.cells #[.int .u8 37, .int .u8 (x.toNat : Int), .int .u8 (y.toNat : Int)] 5)).drew =
    .ok (.string ⟨#[37, x, y]⟩) (w.alloc (.cells #[.int .u8 37, .int .u8 (x.toNat : Int), .int .u8 (y.toNat : Int)] 5)).drew :=
  run_convert_bytes_back (P := Tryd.prog) _ 42 9 5 ⟨w.heap.size, 0, none⟩ 3 [37, x, y] Tryd.underlying42 Tryd.underlying5 Tryd.underlying9 (by
    intro j hj
    simp at hj
    have : j = 0 ∨ j = 1 ∨ j = 2 := by omega
    rcases this with rfl | rfl | rfl <;> simp [Addr.add])
theorem conv1 (w : World) (x : UInt8) : (convert 42 9 (.slice (some ⟨w.heap.size, 0, none⟩) 1 1)).run Tryd.prog (w.alloc (.cells #[.int .u8 (x.toNat : Int)] 5)) =
    .ok (.string ⟨#[x]⟩) (w.alloc (.cells #[.int .u8 (x.toNat : Int)] 5)) :=
  run_convert_bytes_back (P := Tryd.prog) _ 42 9 5 ⟨w.heap.size, 0, none⟩ 1 [x] Tryd.underlying42 Tryd.underlying5 Tryd.underlying9 (by
    intro j hj
    simp at hj
    obtain rfl : j = 0 := by omega
    simp [Addr.add])

theorem ret_str {a b : List UInt8} (h : a = b) : Ending.returned (.string ⟨a.toArray⟩) = .returned (.string ⟨b.toArray⟩) := by rw [h]

set_option maxHeartbeats 800000 in
theorem printByte_any (u : UInt8) (w : World) :
    Calls Tryd.prog 59 #[.int .u8 (u.toNat : Int)] w fun e w' => e = .returned (.string ⟨(pB u).toArray⟩) ∧ Below w.heap.size w w' := by
  obtain ⟨c, hc⟩ : ∃ c : Int, c = (u.toNat : Int) := ⟨_, rfl⟩
  have h0 : 0 ≤ c := by omega
  have h1 : c < 256 := by have := u.toNat_lt; omega
  have e1 : c / 16 < 16 := by omega
  have e2 : 0 ≤ c / 16 := by omega
  have e0 : bits BinOp.and IntKind.u8 c 15 = c % 16 := u8_and15 _ h0 h1
  have e3 : bits BinOp.and IntKind.u8 c 15 < 16 := by rw [e0]; omega
  have e4 : 0 ≤ bits BinOp.and IntKind.u8 c 15 := by rw [e0]; omega
  have E0 := Lib.hid e0; clear e0
  have HC := Lib.hid hc
  have hcv := conv3 w
  have hcv1 := conv1 w u
  rw [← hc] at hcv1 ⊢
  clear hc
  have fin3 : esc u = true → ∀ (ha : (c / 16).toNat < digS.size) (hb : (bits BinOp.and IntKind.u8 c 15).toNat < digS.size), [37, digS[(c / 16).toNat]'ha, digS[(bits BinOp.and IntKind.u8 c 15).toNat]'hb] = pB u := by
    intro he ha hb
    rw [dig_at _ (by omega), dig_at _ (by omega), pB, if_pos he, E0.out, HC.out]
    have q1 : ((u.toNat : Int) / 16).toNat = u.toNat / 16 := by omega
    have q2 : ((u.toNat : Int) % 16).toNat = u.toNat % 16 := by omega
    rw [q1, q2]
  have F3 := Lib.hid fin3; clear fin3
  by_cases a1 : c < 33
  · have HE : Hid (esc u = true) := Lib.hid (by unfold esc; rw [← HC.out]; exact decide_eq_true (.inl a1))
    go_enter Tryd.func59, Tryd.ntmps59
    go_wp2
    go_region
    all_goals
      go_wp2
      go_ret
      exact ⟨ret_str (F3.out HE.out _ _), ((Below.refl _ _).alloc (Nat.le_refl _) _).drew⟩
  · by_cases a2 : 126 < c
    · have HE : Hid (esc u = true) := Lib.hid (by unfold esc; rw [← HC.out]; exact decide_eq_true (.inr (.inl a2)))
      go_enter Tryd.func59, Tryd.ntmps59
      go_wp2
      go_region
      all_goals
        go_wp2
        go_ret
        exact ⟨ret_str (F3.out HE.out _ _), ((Below.refl _ _).alloc (Nat.le_refl _) _).drew⟩
    · cases a3 : c == 39
      · cases a4 : c == 37
        · have HE : Hid (esc u = false) := Lib.hid (by unfold esc; rw [← HC.out]; rw [beq_eq_false_iff_ne] at a3 a4; exact decide_eq_false (by omega))
          go_enter Tryd.func59, Tryd.ntmps59
          go_wp2
          go_ret
          exact ⟨ret_str (a := [u]) (by rw [pB, HE.out]; rfl), (Below.refl _ _).alloc (Nat.le_refl _) _⟩
        · have HE : Hid (esc u = true) := Lib.hid (by unfold esc; rw [← HC.out]; exact decide_eq_true (.inr (.inr (.inr (by simpa using a4)))))
          go_enter Tryd.func59, Tryd.ntmps59
          go_wp2
          go_region
          all_goals
            go_wp2
            go_ret
            exact ⟨ret_str (F3.out HE.out _ _), ((Below.refl _ _).alloc (Nat.le_refl _) _).drew⟩
      · have HE : Hid (esc u = true) := Lib.hid (by unfold esc; rw [← HC.out]; exact decide_eq_true (.inr (.inr (.inl (by simpa using a3)))))
        go_enter Tryd.func59, Tryd.ntmps59
        go_wp2
        go_region
        all_goals
          go_wp2
          go_ret
          exact ⟨ret_str (F3.out HE.out _ _), ((Below.refl _ _).alloc (Nat.le_refl _) _).drew⟩
end Go.Proofs.YtoiahhfjejddjaaDoor
