/- The contracts of the reference's May. -/
import Derived.Test.YtnnmigglcpkomaaDA
set_option maxRecDepth 100000
namespace Go.Proofs.Ytnnmigglcpkomaa.Dm
open Go.RowKit

set_option maxHeartbeats 400000 in
theorem simple_any (k n : Int) (s : ByteArray) (a : Option Addr) (ll lc : Nat) (w : World) :
    Calls Try.prog 54 #[.agg #[.int .i64 k, .int .i64 n, .string s, .slice a ll lc]] w fun e w' => e = .returned (.bool (itemOk k n s ll)) ∧ Below w.heap.size w w' := by
  go_enter Try.func54, Try.ntmps54
  go_wp2
  all_goals
    go_ret
    refine ⟨congrArg (fun b => Ending.returned (.bool b)) ?_, (Below.refl _ _).alloc (Nat.le_refl _) _⟩
    rw [Bool.eq_iff_iff]
    simp only [itemOk, decide_eq_true_eq]
    grind

theorem listOk_parts {n : Int} {s : ByteArray} {xs : List It} (h : listOk n s xs = true) : n = 0 ∧ s.toList.isEmpty = true ∧ (xs.length : Int) ≤ 8 ∧ ∀ x ∈ xs, x.ok = true := by
  simp only [listOk, Bool.and_eq_true, decide_eq_true_eq, List.all_eq_true] at h
  exact ⟨h.1.1, h.1.2.1, h.1.2.2, h.2⟩

/-- Where no item fails, the list does for another reason. -/
theorem listOk_first {n : Int} {s : ByteArray} {xs : List It} (h : listOk n s xs = false) (hn : n = 0) (hs : s.toList.isEmpty = true) (hl : (xs.length : Int) ≤ 8) : ¬ ∀ i (hi : i < xs.length), (xs[i]'hi).ok = true := by
  intro hall
  have : listOk n s xs = true := by
    simp only [listOk, Bool.and_eq_true, decide_eq_true_eq, List.all_eq_true]
    refine ⟨⟨hn, hs, hl⟩, fun x hx => ?_⟩
    obtain ⟨i, hi, rfl⟩ := List.getElem_of_mem hx
    exact hall i hi
  simp [this] at h

theorem simple_ok (k n : Int) (s : ByteArray) (a : Option Addr) (ll lc : Nat) (w : World) (h : itemOk k n s ll = true) :
    Calls Try.prog 54 #[.agg #[.int .i64 k, .int .i64 n, .string s, .slice a ll lc]] w fun e w' => e = .returned (.bool true) ∧ Below w.heap.size w w' := by
  have := simple_any k n s a ll lc w
  rwa [h] at this

theorem simple_no (k n : Int) (s : ByteArray) (a : Option Addr) (ll lc : Nat) (w : World) (h : itemOk k n s ll = false) :
    Calls Try.prog 54 #[.agg #[.int .i64 k, .int .i64 n, .string s, .slice a ll lc]] w fun e w' => e = .returned (.bool false) ∧ Below w.heap.size w w' := by
  have := simple_any k n s a ll lc w
  rwa [h] at this

set_option maxHeartbeats 400000 in
theorem may_ok (k n : Int) (s : ByteArray) (a : Option Addr) (xs : List It) (lc : Nat) (w : World) (hS : Sl w a xs) (h : dOk k n s xs = true) :
    Calls Try.prog 36 #[.agg #[.int .i64 k, .int .i64 n, .string s, .slice a xs.length lc]] w fun e w' => e = .returned (.bool true) ∧ Below w.heap.size w w' := by
  have HS := Lib.hid hS; clear hS
  by_cases hk : k = 3
  · subst hk
    rw [show dOk 3 n s xs = listOk n s xs from by simp [dOk]] at h
    obtain ⟨rfl, hs, hlen, hall⟩ := listOk_parts h
    have HA := Lib.hid hall; clear hall h
    obtain ⟨ll, hll⟩ : ∃ ll, ll = xs.length := ⟨_, rfl⟩
    rw [← hll] at hlen ⊢
    have HL := Lib.hid hll; clear hll
    go_enter Try.func36, Try.ntmps36
    go_wp2
    go_loopw [3] (fun i wr => ∃ j : Nat, j ≤ ll ∧ i = .int .i64 j ∧ Below (w.heap.size + 1) (w.alloc (.cells #[.int .i64 3, .int .i64 0, .string s, .slice a ll lc] 33)) wr) (fun i _ => ll - (intOf i).toNat)
    case atStart => exact ⟨0, Nat.zero_le _, rfl, Below.refl _ _⟩
    case round =>
      obtain ⟨j, hj, rfl, hb⟩ := hrel
      obtain ⟨d0, d1, d2, d3⟩ := box_cells hb
      by_cases hlt : j < ll
      · have hlt' : j < xs.length := by rw [← HL.out]; exact hlt
        obtain ⟨b, off, rfl, hbw, hc⟩ := ((HS.out.below ((Below.refl _ _).alloc (Nat.le_refl _) _) (Nat.le_refl _)).below hb (by simp)).at hlt'
        obtain ⟨c0, c1, c2, c3⟩ := hc j hlt'
        clear hc
        have hok : (xs[j]'hlt').ok = true := HA.out _ (List.getElem_mem _)
        have HO := Lib.hid hok; clear hok
        go_wp2_with (go_at_call 54; refine (simple_ok _ _ _ _ _ _ _ HO.out).mono ?_)
        rintro e w1 ⟨rfl, hb1⟩
        go_wp2
        go_roundw
        case rel => exact ⟨j + 1, by omega, by go_num, below_then hb (by simp) hb1⟩
        case measure => simp [intOf]; omega
      · go_wp2
        go_ret
        exact ⟨rfl, below_al _ (by simpa using hb)⟩
  · have HF := Lib.hid h; clear h
    go_enter Try.func36, Try.ntmps36
    go_wp2_with (go_at_call 54; refine (simple_ok _ _ _ _ _ _ _ (by have := HF.out; simpa [dOk, hk] using this)).mono ?_)
    rintro e w1 ⟨rfl, hb1⟩
    go_wp2
    go_ret
    exact ⟨rfl, below_al _ hb1⟩

set_option maxHeartbeats 800000 in
theorem may_no (k n : Int) (s : ByteArray) (a : Option Addr) (xs : List It) (lc : Nat) (w : World) (hS : Sl w a xs) (h : dOk k n s xs = false) :
    Calls Try.prog 36 #[.agg #[.int .i64 k, .int .i64 n, .string s, .slice a xs.length lc]] w fun e w' => e = .returned (.bool false) ∧ Below w.heap.size w w' := by
  have HS := Lib.hid hS; clear hS
  by_cases hk : k = 3
  · subst hk
    rw [show dOk 3 n s xs = listOk n s xs from by simp [dOk]] at h
    have HF := Lib.hid h; clear h
    obtain ⟨ll, hll⟩ : ∃ ll, ll = xs.length := ⟨_, rfl⟩
    rw [← hll]
    have HL := Lib.hid hll; clear hll
    by_cases hn : n = 0
    · subst hn
      cases hs : s.toList.isEmpty
      · go_enter Try.func36, Try.ntmps36
        go_wp2
        go_ret
        exact ⟨rfl, (Below.refl _ _).alloc (Nat.le_refl _) _⟩
      · by_cases hl : (ll : Int) ≤ 8
        · have hfst := listOk_first HF.out rfl hs (by rw [← HL.out]; exact hl)
          have HFS := Lib.hid hfst; clear hfst
          go_enter Try.func36, Try.ntmps36
          go_wp2
          go_loopw [3] (fun i wr => ∃ j : Nat, j ≤ ll ∧ i = .int .i64 j ∧ Below (w.heap.size + 1) (w.alloc (.cells #[.int .i64 3, .int .i64 0, .string s, .slice a ll lc] 33)) wr ∧ Hid (∀ i (hi : i < xs.length), i < j → (xs[i]'hi).ok = true)) (fun i _ => ll - (intOf i).toNat)
          case atStart => exact ⟨0, Nat.zero_le _, rfl, Below.refl _ _, Lib.hid (fun _ _ h => by omega)⟩
          case round =>
            obtain ⟨j, hj, rfl, hb, HP⟩ := hrel
            obtain ⟨d0, d1, d2, d3⟩ := box_cells hb
            by_cases hlt : j < ll
            · have hlt' : j < xs.length := by rw [← HL.out]; exact hlt
              obtain ⟨b, off, rfl, hbw, hc⟩ := ((HS.out.below ((Below.refl _ _).alloc (Nat.le_refl _) _) (Nat.le_refl _)).below hb (by simp)).at hlt'
              obtain ⟨c0, c1, c2, c3⟩ := hc j hlt'
              clear hc
              cases hok : (xs[j]'hlt').ok
              · have HO := Lib.hid hok; clear hok
                go_wp2_with (go_at_call 54; refine (simple_no _ _ _ _ _ _ _ HO.out).mono ?_)
                rintro e w1 ⟨rfl, hb1⟩
                go_wp2
                go_ret
                exact ⟨rfl, below_al _ (by simpa using below_then hb (by simp) hb1)⟩
              · have HO := Lib.hid hok; clear hok
                go_wp2_with (go_at_call 54; refine (simple_ok _ _ _ _ _ _ _ HO.out).mono ?_)
                rintro e w1 ⟨rfl, hb1⟩
                go_wp2
                go_roundw
                case rel =>
                  refine ⟨j + 1, by omega, by go_num, below_then hb (by simp) hb1, Lib.hid (fun i hi hij => ?_)⟩
                  by_cases hij' : i < j
                  · exact HP.out i hi hij'
                  · obtain rfl : i = j := by omega
                    exact HO.out
                case measure => simp [intOf]; omega
            · exfalso
              exact HFS.out (fun i hi => HP.out i hi (by have := HL.out; omega))
        · go_enter Try.func36, Try.ntmps36
          go_wp2
          go_ret
          exact ⟨rfl, (Below.refl _ _).alloc (Nat.le_refl _) _⟩
    · go_enter Try.func36, Try.ntmps36
      go_wp2
      go_ret
      exact ⟨rfl, (Below.refl _ _).alloc (Nat.le_refl _) _⟩
  · have HF := Lib.hid h; clear h
    go_enter Try.func36, Try.ntmps36
    go_wp2_with (go_at_call 54; refine (simple_no _ _ _ _ _ _ _ (by have := HF.out; simpa [dOk, hk] using this)).mono ?_)
    rintro e w1 ⟨rfl, hb1⟩
    go_wp2
    go_ret
    exact ⟨rfl, below_al _ hb1⟩
end Go.Proofs.Ytnnmigglcpkomaa.Dm
