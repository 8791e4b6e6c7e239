/- The contracts of the reference's tests on data and of its orders: for every datum; other memory stands. -/
import Derived.Test.YtoiahhfjejddjaaDoorA
set_option maxRecDepth 100000
namespace Go.Proofs.YtoiahhfjejddjaaDoor
open Go.RowKit

theorem simple_ok (k n : Int) (s : ByteArray) (a : Option Addr) (ll lc : Nat) (w : World) (h : itemOk k n s ll = true) :
    Calls Tryd.prog 53 #[.agg #[.int .i64 k, .int .i64 n, .string s, .slice a ll lc]] w fun e w' => e = .returned (.bool true) ∧ Below w.heap.size w w' := by
  have := simple_any k n s a ll lc w
  rwa [h] at this
theorem simple_no (k n : Int) (s : ByteArray) (a : Option Addr) (ll lc : Nat) (w : World) (h : itemOk k n s ll = false) :
    Calls Tryd.prog 53 #[.agg #[.int .i64 k, .int .i64 n, .string s, .slice a ll lc]] w fun e w' => e = .returned (.bool false) ∧ Below w.heap.size w w' := by
  have := simple_any k n s a ll lc w
  rwa [h] at this

set_option maxHeartbeats 400000 in
theorem may_ok (k n : Int) (s : ByteArray) (a : Option Addr) (xs : List It) (lc : Nat) (w : World) (hS : Sl w a xs) (h : dOk k n s xs = true) :
    Calls Tryd.prog 30 #[.agg #[.int .i64 k, .int .i64 n, .string s, .slice a xs.length lc]] w fun e w' => e = .returned (.bool true) ∧ Below w.heap.size w w' := by
  have HS := Lib.hid hS; clear hS
  by_cases hk : k = 3
  · subst hk
    rw [show dOk 3 n s xs = listOk n s xs from by simp [dOk]] at h
    obtain ⟨rfl, hs, hlen, hall⟩ := listOk_parts h
    have HA := Lib.hid hall; clear hall h
    obtain ⟨ll, hll⟩ : ∃ ll, ll = xs.length := ⟨_, rfl⟩
    rw [← hll] at hlen ⊢
    have HL := Lib.hid hll; clear hll
    go_enter Tryd.func30, Tryd.ntmps30
    go_wp2
    go_loopw [3] (fun i wr => ∃ j : Nat, j ≤ ll ∧ i = .int .i64 j ∧ Below (w.heap.size + 1) (w.alloc (.cells #[.int .i64 3, .int .i64 0, .string s, .slice a ll lc] 24)) wr) (fun i _ => ll - (intOf i).toNat)
    case atStart => exact ⟨0, Nat.zero_le _, rfl, Below.refl _ _⟩
    case round =>
      obtain ⟨j, hj, rfl, hb⟩ := hrel
      obtain ⟨d0, d1, d2, d3⟩ := box_cells hb
      by_cases hlt : j < ll
      · have hlt' : j < xs.length := by rw [← HL.out]; exact hlt
        obtain ⟨b, off, rfl, hbw, hc⟩ := ((HS.out.below ((Below.refl _ _).alloc (Nat.le_refl _) _) (Nat.le_refl _)).below hb (by simp)).at hlt'
        obtain ⟨c0, c1, c2, c3⟩ := hc j hlt'
        clear hc
        have hok : (xs[j]'hlt').ok = true := HA.out _ (List.getElem_mem _)
        have HO := Lib.hid hok; clear hok
        go_wp2_with (go_at_call 53; refine (simple_ok _ _ _ _ _ _ _ HO.out).mono ?_)
        rintro e w1 ⟨rfl, hb1⟩
        go_wp2
        go_roundw
        case rel => exact ⟨j + 1, by omega, by go_num, below_then hb (by simp) hb1⟩
        case measure => simp [intOf]; omega
      · go_wp2
        go_ret
        exact ⟨rfl, below_al _ (by simpa using hb)⟩
  · have HF := Lib.hid h; clear h
    go_enter Tryd.func30, Tryd.ntmps30
    go_wp2_with (go_at_call 53; refine (simple_ok _ _ _ _ _ _ _ (by have := HF.out; simpa [dOk, hk] using this)).mono ?_)
    rintro e w1 ⟨rfl, hb1⟩
    go_wp2
    go_ret
    exact ⟨rfl, below_al _ hb1⟩

set_option maxHeartbeats 800000 in
theorem may_no (k n : Int) (s : ByteArray) (a : Option Addr) (xs : List It) (lc : Nat) (w : World) (hS : Sl w a xs) (h : dOk k n s xs = false) :
    Calls Tryd.prog 30 #[.agg #[.int .i64 k, .int .i64 n, .string s, .slice a xs.length lc]] w fun e w' => e = .returned (.bool false) ∧ Below w.heap.size w w' := by
  have HS := Lib.hid hS; clear hS
  by_cases hk : k = 3
  · subst hk
    rw [show dOk 3 n s xs = listOk n s xs from by simp [dOk]] at h
    have HF := Lib.hid h; clear h
    obtain ⟨ll, hll⟩ : ∃ ll, ll = xs.length := ⟨_, rfl⟩
    rw [← hll]
    have HL := Lib.hid hll; clear hll
    by_cases hn : n = 0
    · subst hn
      cases hs : s.toList.isEmpty
      · go_enter Tryd.func30, Tryd.ntmps30
        go_wp2
        go_ret
        exact ⟨rfl, (Below.refl _ _).alloc (Nat.le_refl _) _⟩
      · by_cases hl : (ll : Int) ≤ 8
        · have hfst := listOk_first HF.out rfl hs (by rw [← HL.out]; exact hl)
          have HFS := Lib.hid hfst; clear hfst
          go_enter Tryd.func30, Tryd.ntmps30
          go_wp2
          go_loopw [3] (fun i wr => ∃ j : Nat, j ≤ ll ∧ i = .int .i64 j ∧ Below (w.heap.size + 1) (w.alloc (.cells #[.int .i64 3, .int .i64 0, .string s, .slice a ll lc] 24)) wr ∧ Hid (∀ i (hi : i < xs.length), i < j → (xs[i]'hi).ok = true)) (fun i _ => ll - (intOf i).toNat)
          case atStart => exact ⟨0, Nat.zero_le _, rfl, Below.refl _ _, Lib.hid (fun _ _ h => by omega)⟩
          case round =>
            obtain ⟨j, hj, rfl, hb, HP⟩ := hrel
            obtain ⟨d0, d1, d2, d3⟩ := box_cells hb
            by_cases hlt : j < ll
            · have hlt' : j < xs.length := by rw [← HL.out]; exact hlt
              obtain ⟨b, off, rfl, hbw, hc⟩ := ((HS.out.below ((Below.refl _ _).alloc (Nat.le_refl _) _) (Nat.le_refl _)).below hb (by simp)).at hlt'
              obtain ⟨c0, c1, c2, c3⟩ := hc j hlt'
              clear hc
              cases hok : (xs[j]'hlt').ok
              · have HO := Lib.hid hok; clear hok
                go_wp2_with (go_at_call 53; refine (simple_no _ _ _ _ _ _ _ HO.out).mono ?_)
                rintro e w1 ⟨rfl, hb1⟩
                go_wp2
                go_ret
                exact ⟨rfl, below_al _ (by simpa using below_then hb (by simp) hb1)⟩
              · have HO := Lib.hid hok; clear hok
                go_wp2_with (go_at_call 53; refine (simple_ok _ _ _ _ _ _ _ HO.out).mono ?_)
                rintro e w1 ⟨rfl, hb1⟩
                go_wp2
                go_roundw
                case rel =>
                  refine ⟨j + 1, by omega, by go_num, below_then hb (by simp) hb1, Lib.hid (fun i hi hij => ?_)⟩
                  by_cases hij' : i < j
                  · exact HP.out i hi hij'
                  · obtain rfl : i = j := by omega
                    exact HO.out
                case measure => simp [intOf]; omega
            · exfalso
              exact HFS.out (fun i hi => HP.out i hi (by have := HL.out; omega))
        · go_enter Tryd.func30, Tryd.ntmps30
          go_wp2
          go_ret
          exact ⟨rfl, (Below.refl _ _).alloc (Nat.le_refl _) _⟩
    · go_enter Tryd.func30, Tryd.ntmps30
      go_wp2
      go_ret
      exact ⟨rfl, (Below.refl _ _).alloc (Nat.le_refl _) _⟩
  · have HF := Lib.hid h; clear h
    go_enter Tryd.func30, Tryd.ntmps30
    go_wp2_with (go_at_call 53; refine (simple_no _ _ _ _ _ _ _ (by have := HF.out; simpa [dOk, hk] using this)).mono ?_)
    rintro e w1 ⟨rfl, hb1⟩
    go_wp2
    go_ret
    exact ⟨rfl, below_al _ hb1⟩

set_option maxHeartbeats 400000 in
theorem rcheck_ok (k n : Int) (s : ByteArray) (a : Option Addr) (xs : List It) (lc : Nat) (w : World) (hS : Sl w a xs) (h : dOk k n s xs = true) :
    Calls Tryd.prog 15 #[.agg #[.int .i64 k, .int .i64 n, .string s, .slice a xs.length lc]] w fun e w' => e = .returned (.int .i64 0) ∧ Below w.heap.size w w' := by
  have HS := Lib.hid hS; clear hS
  have HF := Lib.hid h; clear h
  go_enter Tryd.func15, Tryd.ntmps15
  go_wp2_with (go_at_call 30; refine (may_ok _ _ _ _ _ _ _ (HS.out.below ((Below.refl _ _).alloc (Nat.le_refl _) _) (Nat.le_refl _)) HF.out).mono ?_)
  rintro e w1 ⟨rfl, hb1⟩
  go_wp2
  go_ret
  exact ⟨rfl, below_al _ hb1⟩

set_option maxHeartbeats 400000 in
theorem rcheck_no (k n : Int) (s : ByteArray) (a : Option Addr) (xs : List It) (lc : Nat) (w : World) (hS : Sl w a xs) (h : dOk k n s xs = false) :
    Calls Tryd.prog 15 #[.agg #[.int .i64 k, .int .i64 n, .string s, .slice a xs.length lc]] w fun e w' => e = .returned (.int .i64 11) ∧ Below w.heap.size w w' := by
  have HS := Lib.hid hS; clear hS
  have HF := Lib.hid h; clear h
  go_enter Tryd.func15, Tryd.ntmps15
  go_wp2_with (go_at_call 30; refine (may_no _ _ _ _ _ _ _ (HS.out.below ((Below.refl _ _).alloc (Nat.le_refl _) _) (Nat.le_refl _)) HF.out).mono ?_)
  rintro e w1 ⟨rfl, hb1⟩
  go_wp2
  go_ret
  exact ⟨rfl, below_al _ hb1⟩
end Go.Proofs.YtoiahhfjejddjaaDoor
