/- The contract of the reference's Same: true of two data alike, false of two that differ outside their lists; other memory stands. -/
import Derived.Test.YtoiahhfjejddjaaDoorL
import Derived.Deep.RegionHeld3
import Derived.RegionTactic
import Derived.ChangeAlike
import Derived.BigRegion
set_option maxRecDepth 100000
namespace Go.Proofs.YtoiahhfjejddjaaDoor
open Go Go.RowKit

theorem str_ne {s t : ByteArray} (h : s ≠ t) : (s.toList != t.toList) = true := by
  rw [bne_iff_ne]
  intro e
  rw [ByteArray.toList_eq, ByteArray.toList_eq] at e
  exact h (by apply ByteArray.ext; exact Array.toList_inj.1 e)

set_option maxHeartbeats 800000 in
theorem same_no (k n : Int) (s : ByteArray) (a : Option Addr) (ll lc : Nat) (k' n' : Int) (s' : ByteArray) (a' : Option Addr) (ll' lc' : Nat) (w : World) (h : k ≠ k' ∨ n ≠ n' ∨ s ≠ s') :
    Calls Tryd.prog 25 #[.agg #[.int .i64 k, .int .i64 n, .string s, .slice a ll lc], .agg #[.int .i64 k', .int .i64 n', .string s', .slice a' ll' lc']] w fun e w' => e = .returned (.bool false) ∧ Below w.heap.size w w' := by
  by_cases h1 : k = k'
  · subst h1
    by_cases h2 : n = n'
    · subst h2
      have h3 : s ≠ s' := by
        rcases h with h | h | h
        · exact absurd rfl h
        · exact absurd rfl h
        · exact h
      have hb := str_ne h3
      have hb2 : (s.toList == s'.toList) = false := by simpa [bne] using hb
      clear h h3
      go_enter Tryd.func25, Tryd.ntmps25
      go_wp2
      go_ret
      exact ⟨rfl, ((Below.refl _ _).alloc (Nat.le_refl _) _).alloc (by simp) _⟩
    · have hb : (n != n') = true := by rw [bne_iff_ne]; exact h2
      clear h
      go_enter Tryd.func25, Tryd.ntmps25
      go_wp2
      go_ret
      exact ⟨rfl, ((Below.refl _ _).alloc (Nat.le_refl _) _).alloc (by simp) _⟩
  · have hb : (k != k') = true := by rw [bne_iff_ne]; exact h1
    clear h
    go_enter Tryd.func25, Tryd.ntmps25
    go_wp2
    go_ret
    exact ⟨rfl, ((Below.refl _ _).alloc (Nat.le_refl _) _).alloc (by simp) _⟩

set_option maxHeartbeats 3200000 in
theorem same_yes (k n : Int) (s : ByteArray) (a : Option Addr) (xs : List It) (lc : Nat) (a' : Option Addr) (ys : List It) (lc' : Nat) (w : World) (hS : Sl w a xs) (hS' : Sl w a' ys) (hlen : ys.length = xs.length) (h8 : xs.length ≤ 8)
    (hc : ∀ i (h : i < xs.length) (h' : i < ys.length), cont (xs[i]'h) = cont (ys[i]'h') ∧ (xs[i]'h).ll = 0 ∧ (ys[i]'h').ll = 0) :
    Calls Tryd.prog 25 #[.agg #[.int .i64 k, .int .i64 n, .string s, .slice a xs.length lc], .agg #[.int .i64 k, .int .i64 n, .string s, .slice a' ys.length lc']] w fun e w' => e = .returned (.bool true) ∧ Below w.heap.size w w' := by
  rw [hlen]
  have HS := Lib.hid hS; have HS' := Lib.hid hS'; have HC := Lib.hid hc; have HLEN := Lib.hid hlen
  obtain ⟨ll, hll⟩ : ∃ ll, ll = xs.length := ⟨_, rfl⟩
  rw [← hll] at h8 ⊢
  have HL := Lib.hid hll
  clear hS hS' hc hlen hll
  go_enter Tryd.func25, Tryd.ntmps25
  go_wp2
  go_loopw [5] (fun i wr => ∃ j : Nat, j ≤ ll ∧ i = .int .i64 j ∧ Below (w.heap.size + 1 + 1) ((w.alloc (.cells #[.int .i64 k, .int .i64 n, .string s, .slice a ll lc] 24)).alloc (.cells #[.int .i64 k, .int .i64 n, .string s, .slice a' ll lc'] 24)) wr) (fun i _ => ll - (intOf i).toNat)
  case atStart => exact ⟨0, Nat.zero_le _, rfl, Below.refl _ _⟩
  case round =>
    obtain ⟨j, hj, rfl, hb⟩ := hrel
    obtain ⟨⟨c0, c1, c2, c3⟩, d0, d1, d2, d3⟩ := box_cells2 hb
    have HBW : Hid (Below w.heap.size w wr) := Lib.hid (below_al2 _ _ (by simpa using hb))
    have hsz := hb.size
    simp at hsz
    have HB := Lib.hid hb; clear hb
    by_cases hlt : j < ll
    · have hlt' : j < xs.length := by rw [← HL.out]; exact hlt
      have hlt2 : j < ys.length := by rw [HLEN.out]; exact hlt'
      obtain ⟨b, off, rfl, hbw, hx⟩ := (HS.out.below HBW.out (Nat.le_refl _)).at hlt'
      obtain ⟨b', off', rfl, hbw', hy⟩ := (HS'.out.below HBW.out (Nat.le_refl _)).at hlt2
      obtain ⟨x0, x1, x2, x3⟩ := hx j hlt'
      obtain ⟨y0, y1, y2, y3⟩ := hy j hlt2
      obtain ⟨q1, q2, q3⟩ := HC.out j hlt' hlt2
      simp only [cont, Prod.mk.injEq] at q1
      rw [q1.1, ] at x0
      rw [q1.2.1] at x1
      rw [q1.2.2] at x2
      rw [q2] at x3
      rw [q3] at y3
      clear hx hy q1 q2 q3
      have hji : (j : Int) < (ll : Int) := by omega
      have hj0 : (0 : Int) ≤ (j : Int) := by omega
      have hz0 : w.heap.size < wr.heap.size := by omega
      have hz1 : w.heap.size + 1 < wr.heap.size := by omega
      go_wp2
      go_region
      all_goals
        go_wp2
      all_goals
        go_roundw
        case rel => exact ⟨j + 1, by omega, by go_num, ((HB.out.alloc (by omega) _).alloc (by rw [World.size_alloc]; omega) _).drew⟩
        case measure => simp [intOf]; omega
    · go_wp2
      go_ret
      exact ⟨rfl, HBW.out⟩
end Go.Proofs.YtoiahhfjejddjaaDoor
