/- The contract of the reference's Same: whether two data are alike; other memory stands. -/
import Derived.Test.YtnnmigglcpkomaaDE
import Derived.Deep.RegionHeld3
import Derived.RegionTactic
import Derived.ChangeAlike
import Derived.BigRegion
set_option maxRecDepth 100000
namespace Go.Proofs.Ytnnmigglcpkomaa.Dm
open Go Go.RowKit

theorem str_ne {s t : ByteArray} (h : s ≠ t) : (s.toList != t.toList) = true := by
  rw [bne_iff_ne]
  intro e
  rw [ByteArray.toList_eq, ByteArray.toList_eq] at e
  exact h (by apply ByteArray.ext; exact Array.toList_inj.1 e)

set_option maxHeartbeats 800000 in
theorem same_no (k n : Int) (s : ByteArray) (a : Option Addr) (ll lc : Nat) (k' n' : Int) (s' : ByteArray) (a' : Option Addr) (ll' lc' : Nat) (w : World) (h : k ≠ k' ∨ n ≠ n' ∨ s ≠ s' ∨ ll ≠ ll') :
    Calls Try.prog 37 #[.agg #[.int .i64 k, .int .i64 n, .string s, .slice a ll lc], .agg #[.int .i64 k', .int .i64 n', .string s', .slice a' ll' lc']] w fun e w' => e = .returned (.bool false) ∧ Below w.heap.size w w' := by
  by_cases h1 : k = k'
  · subst h1
    by_cases h2 : n = n'
    · subst h2
      by_cases h3 : s = s'
      · subst h3
        have hl : ll ≠ ll' := by simpa using h
        have hb : (((ll : Int)) != (ll' : Int)) = true := by rw [bne_iff_ne]; omega
        clear h
        go_enter Try.func37, Try.ntmps37
        go_wp2
        go_ret
        exact ⟨rfl, ((Below.refl _ _).alloc (Nat.le_refl _) _).alloc (by simp) _⟩
      · have hb := str_ne h3
        have hb2 : (s.toList == s'.toList) = false := by simpa [bne] using hb
        clear h h3
        go_enter Try.func37, Try.ntmps37
        go_wp2
        go_ret
        exact ⟨rfl, ((Below.refl _ _).alloc (Nat.le_refl _) _).alloc (by simp) _⟩
    · have hb : (n != n') = true := by rw [bne_iff_ne]; exact h2
      clear h
      go_enter Try.func37, Try.ntmps37
      go_wp2
      go_ret
      exact ⟨rfl, ((Below.refl _ _).alloc (Nat.le_refl _) _).alloc (by simp) _⟩
  · have hb : (k != k') = true := by rw [bne_iff_ne]; exact h1
    clear h
    go_enter Try.func37, Try.ntmps37
    go_wp2
    go_ret
    exact ⟨rfl, ((Below.refl _ _).alloc (Nat.le_refl _) _).alloc (by simp) _⟩

set_option maxHeartbeats 3200000 in
theorem same_lists (k n : Int) (s : ByteArray) (a : Option Addr) (xs : List It) (lc : Nat) (a' : Option Addr) (ys : List It) (lc' : Nat) (w : World) (hS : Sl w a xs) (hS' : Sl w a' ys) (hlen : ys.length = xs.length) (h8 : xs.length ≤ 8)
    (h0 : ∀ x, x ∈ xs → x.ll = 0) (h0' : ∀ x, x ∈ ys → x.ll = 0) :
    Calls Try.prog 37 #[.agg #[.int .i64 k, .int .i64 n, .string s, .slice a xs.length lc], .agg #[.int .i64 k, .int .i64 n, .string s, .slice a' ys.length lc']] w fun e w' => e = .returned (.bool (decide (xs.map itC = ys.map itC))) ∧ Below w.heap.size w w' := by
  rw [hlen]
  obtain ⟨R, hR⟩ : ∃ R, R = decide (xs.map itC = ys.map itC) := ⟨_, rfl⟩
  rw [← hR]
  have HS := Lib.hid hS; have HS' := Lib.hid hS'; have HC := Lib.hid h0; have HC' := Lib.hid h0'; have HLEN := Lib.hid hlen; have HR := Lib.hid hR
  obtain ⟨ll, hll⟩ : ∃ ll, ll = xs.length := ⟨_, rfl⟩
  rw [← hll] at h8 ⊢
  have HL := Lib.hid hll
  clear hS hS' h0 h0' hlen hll hR
  go_enter Try.func37, Try.ntmps37
  go_wp2
  go_loopw [5] (fun i wr => ∃ j : Nat, j ≤ ll ∧ i = .int .i64 j ∧ Below (w.heap.size + 1 + 1) ((w.alloc (.cells #[.int .i64 k, .int .i64 n, .string s, .slice a ll lc] 33)).alloc (.cells #[.int .i64 k, .int .i64 n, .string s, .slice a' ll lc'] 33)) wr ∧ Hid ((xs.map itC).take j = (ys.map itC).take j)) (fun i _ => ll - (intOf i).toNat)
  case atStart => exact ⟨0, Nat.zero_le _, rfl, Below.refl _ _, Lib.hid rfl⟩
  case round =>
    obtain ⟨j, hj, rfl, hb, HP⟩ := hrel
    obtain ⟨⟨c0, c1, c2, c3⟩, d0, d1, d2, d3⟩ := box_cells2 hb
    have HBW : Hid (Below w.heap.size w wr) := Lib.hid (below_al2 _ _ (by simpa using hb))
    have hsz := hb.size
    simp at hsz
    have HB := Lib.hid hb; clear hb
    by_cases hlt : j < ll
    · have hlt' : j < xs.length := by rw [← HL.out]; exact hlt
      have hlt2 : j < ys.length := by rw [HLEN.out]; exact hlt'
      obtain ⟨b, off, rfl, hbw, hx⟩ := (HS.out.below HBW.out (Nat.le_refl _)).at hlt'
      obtain ⟨b', off', rfl, hbw', hy⟩ := (HS'.out.below HBW.out (Nat.le_refl _)).at hlt2
      obtain ⟨x0, x1, x2, x3⟩ := hx j hlt'
      obtain ⟨y0, y1, y2, y3⟩ := hy j hlt2
      rw [HC.out _ (List.getElem_mem hlt')] at x3
      rw [HC'.out _ (List.getElem_mem hlt2)] at y3
      obtain ⟨X, hX⟩ : ∃ X, X = xs[j]'hlt' := ⟨_, rfl⟩
      obtain ⟨Y, hY⟩ : ∃ Y, Y = ys[j]'hlt2 := ⟨_, rfl⟩
      have hX0 : X.ll = 0 := by rw [hX]; exact HC.out _ (List.getElem_mem hlt')
      have hY0 : Y.ll = 0 := by rw [hY]; exact HC'.out _ (List.getElem_mem hlt2)
      rw [← hX] at x0 x1 x2 x3
      rw [← hY] at y0 y1 y2 y3
      have HX : Hid ((xs.map itC)[j]'(by rw [List.length_map]; exact hlt') = itC X) := Lib.hid (by rw [List.getElem_map, hX])
      have HY : Hid ((ys.map itC)[j]'(by rw [List.length_map]; exact hlt2) = itC Y) := Lib.hid (by rw [List.getElem_map, hY])
      obtain ⟨xk, xn, xt, xa, xl, xc⟩ := X
      obtain ⟨yk, yn, yt, ya, yl, yc⟩ := Y
      simp only at x0 x1 x2 x3 y0 y1 y2 y3 hX0 hY0
      subst hX0 hY0
      clear hx hy hX hY
      have hji : (j : Int) < (ll : Int) := by omega
      have hj0 : (0 : Int) ≤ (j : Int) := by omega
      have hz0 : w.heap.size < wr.heap.size := by omega
      have hz1 : w.heap.size + 1 < wr.heap.size := by omega
      have no : itC ⟨xk, xn, xt, xa, 0, xc⟩ ≠ itC ⟨yk, yn, yt, ya, 0, yc⟩ → R = false := fun h => by
        rw [HR.out, decide_eq_false_iff_not]
        intro e
        refine h ?_
        rw [← HX.out, ← HY.out]
        simp only [e]
      have NO := Lib.hid no; clear no
      by_cases hk : xk = yk
      · subst hk
        by_cases hn : xn = yn
        · subst hn
          by_cases ht : xt = yt
          · subst ht
            have HN : Hid ((xs.map itC).take (j + 1) = (ys.map itC).take (j + 1)) := Lib.hid (by
              rw [List.take_add_one, List.take_add_one, HP.out, List.getElem?_eq_getElem (by rw [List.length_map]; exact hlt'), List.getElem?_eq_getElem (by rw [List.length_map]; exact hlt2), HX.out, HY.out]
              rfl)
            go_wp2
            go_region
            all_goals
              go_wp2
            all_goals
              go_roundw
              case rel => exact ⟨j + 1, by omega, by go_num, ((HB.out.alloc (by omega) _).alloc (by rw [World.size_alloc]; omega) _).drew, HN⟩
              case measure => simp [intOf]; omega
          · have hb1 := str_ne ht
            have hb2 : (xt.toList == yt.toList) = false := by simpa [bne] using hb1
            have HF : Hid (R = false) := Lib.hid (NO.out (fun e => ht (by simp only [itC, Prod.mk.injEq] at e; exact e.2.2.1)))
            clear ht
            go_wp2
            go_region
            all_goals
              go_wp2
            all_goals
              go_ret
              exact ⟨congrArg (fun b => Ending.returned (.bool b)) HF.out.symm, HBW.out.trans (((Below.refl _ _).alloc (Nat.le_refl _) _).alloc (by rw [World.size_alloc]; omega) _ |>.drew |>.mono (by have := HBW.out.size; omega))⟩
        · have hb1 : (xn != yn) = true := by rw [bne_iff_ne]; exact hn
          have HF : Hid (R = false) := Lib.hid (NO.out (fun e => hn (by simp only [itC, Prod.mk.injEq] at e; exact e.2.1)))
          go_wp2
          go_region
          all_goals
            go_wp2
          all_goals
            go_ret
            exact ⟨congrArg (fun b => Ending.returned (.bool b)) HF.out.symm, HBW.out.trans (((Below.refl _ _).alloc (Nat.le_refl _) _).alloc (by rw [World.size_alloc]; omega) _ |>.drew |>.mono (by have := HBW.out.size; omega))⟩
      · have hb1 : (xk != yk) = true := by rw [bne_iff_ne]; exact hk
        have HF : Hid (R = false) := Lib.hid (NO.out (fun e => hk (by simp only [itC, Prod.mk.injEq] at e; exact e.1)))
        go_wp2
        go_region
        all_goals
          go_wp2
        all_goals
          go_ret
          exact ⟨congrArg (fun b => Ending.returned (.bool b)) HF.out.symm, HBW.out.trans (((Below.refl _ _).alloc (Nat.le_refl _) _).alloc (by rw [World.size_alloc]; omega) _ |>.drew |>.mono (by have := HBW.out.size; omega))⟩
    · have HT : Hid (R = true) := Lib.hid (by
        rw [HR.out, decide_eq_true_eq]
        have h := HP.out
        rw [List.take_of_length_le (by rw [List.length_map]; have := HL.out; omega), List.take_of_length_le (by rw [List.length_map]; have := HL.out; have := HLEN.out; omega)] at h
        exact h)
      go_wp2
      go_ret
      exact ⟨congrArg (fun b => Ending.returned (.bool b)) HT.out.symm, HBW.out⟩

/-- Same, of any two data whose items have no lists. -/
theorem same_any (k n : Int) (s : ByteArray) (a : Option Addr) (xs : List It) (lc : Nat) (k' n' : Int) (s' : ByteArray) (a' : Option Addr) (ys : List It) (lc' : Nat) (w : World) (hS : Sl w a xs) (hS' : Sl w a' ys) (h8 : xs.length ≤ 8)
    (h0 : ∀ x, x ∈ xs → x.ll = 0) (h0' : ∀ x, x ∈ ys → x.ll = 0) :
    Calls Try.prog 37 #[.agg #[.int .i64 k, .int .i64 n, .string s, .slice a xs.length lc], .agg #[.int .i64 k', .int .i64 n', .string s', .slice a' ys.length lc']] w fun e w' => e = .returned (.bool (decide (((k, n, s, xs.map itC) : Dt) = (k', n', s', ys.map itC)))) ∧ Below w.heap.size w w' := by
  by_cases h : k ≠ k' ∨ n ≠ n' ∨ s ≠ s' ∨ xs.length ≠ ys.length
  · have e : decide (((k, n, s, xs.map itC) : Dt) = (k', n', s', ys.map itC)) = false := by
      rw [decide_eq_false_iff_not]
      intro e
      simp only [Prod.mk.injEq] at e
      obtain ⟨e1, e2, e3, e4⟩ := e
      have e5 := congrArg List.length e4
      simp only [List.length_map] at e5
      simp_all
    rw [e]
    exact same_no k n s a _ lc k' n' s' a' _ lc' w h
  · have e1 : k = k' := by false_or_by_contra; exact h (.inl ‹_›)
    have e2 : n = n' := by false_or_by_contra; exact h (.inr (.inl ‹_›))
    have e3 : s = s' := by false_or_by_contra; exact h (.inr (.inr (.inl ‹_›)))
    have e4 : xs.length = ys.length := by false_or_by_contra; exact h (.inr (.inr (.inr ‹_›)))
    subst e1 e2 e3
    have e : decide (((k, n, s, xs.map itC) : Dt) = (k, n, s, ys.map itC)) = decide (xs.map itC = ys.map itC) := by simp
    rw [e]
    exact same_lists k n s a xs lc a' ys lc' w hS hS' e4.symm h8 h0 h0'
end Go.Proofs.Ytnnmigglcpkomaa.Dm
