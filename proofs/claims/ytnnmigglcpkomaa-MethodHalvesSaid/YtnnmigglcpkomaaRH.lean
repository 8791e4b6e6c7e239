/- slices.BinarySearchFunc on the list of shelves, whatever is said of each. -/
import Derived.Test.YtnnmigglcpkomaaRG
set_option maxRecDepth 100000
namespace Go.Proofs.Ytnnmigglcpkomaa.Dm
open Go Go.RowKit

set_option maxHeartbeats 3200000 in
theorem bsShelves_any (a : Option Addr) (c : Nat) (vs : List Value) (x : Hd) (w : World) (hR : ∀ j (h : j < vs.length), ∃ b, a = some ⟨b, 0, none⟩ ∧ b < w.heap.size ∧ w.cell? ⟨b, j, none⟩ = some vs[j]) (hn : vs.length < 2199023255552) (k : Nat) (fb : Bool) (hk : k ≤ vs.length) (sg : Nat → Int)
    (hC : ∀ j (h : j < vs.length) W, Below w.heap.size w W → Calls Try.prog 59 #[vs[j], hdV x] W fun e w' => e = .returned (.int .i64 (sg j)) ∧ Below W.heap.size W w')
    (h1 : ∀ i, i < vs.length → i < k → sg i < 0) (h2 : ∀ i, i < vs.length → k ≤ i → ¬ sg i < 0) (hfb : fb = true ↔ k < vs.length ∧ sg k = 0) :
    Calls Try.prog 58 #[.slice a vs.length c, hdV x, .func (.func 59) #[] #[]] w fun e w' => e = .returned (.tuple #[.int .i64 k, .bool fb]) ∧ Below w.heap.size w w' := by
  obtain ⟨xk, xt⟩ := x
  have hen : ∀ args W, (callFunc 59 args).run Try.prog W = .ok (.enter 59 args) W := fun args W => enters_of Try.func59 (by kernel_rfl) rfl args W
  unfold hdV at hC
  simp only [] at hC
  have HC := Lib.hid hC
  have HR := Lib.hid hR
  have H1 := Lib.hid h1
  have H2 := Lib.hid h2
  have HF := Lib.hid hfb
  obtain ⟨n, hN⟩ : ∃ n, n = vs.length := ⟨_, rfl⟩
  rw [← hN] at hk hn
  have HN := Lib.hid hN
  rw [← hN]
  unfold hdV
  simp only []
  clear hR h1 h2 hfb hN hC
  go_enter Try.func58, Try.ntmps58
  go_wp2
  go_loopw [9, 10] (fun vi vj wr => ∃ lo hi : Nat, vi = .int .i64 lo ∧ vj = .int .i64 hi ∧ lo ≤ k ∧ k ≤ hi ∧ hi ≤ n ∧ Hid (Below (w.heap.size + 1) (w.alloc (.cells #[.string xk, .int .i64 xt] 80)) wr)) (fun vi vj _ => (intOf vj).toNat - (intOf vi).toNat)
  case atStart => exact ⟨0, n, rfl, rfl, Nat.zero_le _, hk, Nat.le_refl _, Lib.hid (Below.refl _ _)⟩
  case round =>
    obtain ⟨lo, hi, rfl, rfl, hlo, hhi, hin, HB⟩ := hrel
    obtain ⟨c0, c1⟩ := boxH HB.out
    have HW : Hid (Below w.heap.size w wr) := Lib.hid (((Below.refl _ _).alloc (Nat.le_refl _) _).trans (HB.out.mono (by omega)))
    by_cases hlt : lo < hi
    · obtain ⟨m, hm⟩ : ∃ m, m = (lo + hi) / 2 := ⟨_, rfl⟩
      have hmn : m < vs.length := by rw [← HN.out]; omega
      obtain ⟨b, hab, hb, e0⟩ := HR.out m hmn
      obtain ⟨y, hy, d0⟩ : ∃ y : Value, y = vs[m]'hmn ∧ wr.cell? ⟨b, m, none⟩ = some y := ⟨_, rfl, (HW.out.cell (p := ⟨b, m, none⟩) hb).trans e0⟩
      subst hab
      clear e0
      have hmi : ((lo : Int) + (hi : Int)) / 2 = (m : Int) := by omega
      have hmn' : m < n := by omega
      have hsh : Op.shift .shr .u64 ((lo : Int) + (hi : Int)) .u64 1 = pure (.int .u64 (m : Int)) := by
        rw [shift_shr_any _ _ _ _ (by decide), ← hmi]
        rfl
      have HM := Lib.hid hm
      have HQ := HC.out m hmn
      rw [← hy] at HQ
      have Hm : Hid (m < vs.length) := Lib.hid hmn
      have HY1 : Hid (m < k → sg m < 0) := Lib.hid (H1.out m hmn)
      have HY2 : Hid (k ≤ m → 0 ≤ sg m) := Lib.hid (fun h => by have := H2.out m hmn h; omega)
      clear hm hmi hmn hy
      obtain ⟨q, hq⟩ : ∃ q, q = sg m := ⟨_, rfl⟩
      rw [← hq] at HQ
      have HQQ := Lib.hid hq
      have HQ' := Lib.hid HQ
      clear hq HQ
      by_cases hq0 : q < 0
      · have hd0 : decide (q < 0) = true := decide_eq_true hq0
        have hmk : m + 1 ≤ k := by
          have := HY2.out
          rw [← HQQ.out] at this
          omega
        go_wp2
        refine wp_region_still_tail 6 (by kernel_rfl) (by kernel_rfl) ?_
        simp only [List.take_succ_cons, List.take_zero, List.drop_succ_cons, List.drop_zero]
        repeat still_step
        try refine wpStill_nil ?_
        change wpList _ _ _ _ _ (World.drew _)
        go_wp2_with (go_at_call 59; refine (HQ'.out _ HW.out.drew).mono ?_; rintro e w' ⟨rfl, hb'⟩)
        have HB' : Hid (Below (w.heap.size + 1) (w.alloc (.cells #[.string xk, .int .i64 xt] 80)) w') := Lib.hid (HB.out.drew.trans (Below.mono hb' (by have := HB.out.size; simp at this; exact this)))
        go_roundw
        case rel => exact ⟨m + 1, hi, by go_num, rfl, hmk, hhi, hin, HB'⟩
        case measure => simp [intOf]; have := HM.out; omega
      · have hd0 : decide (q < 0) = false := decide_eq_false hq0
        have hmk : k ≤ m := by
          rcases Nat.lt_or_ge m k with h | h
          · have := HY1.out h
            rw [← HQQ.out] at this
            omega
          · exact h
        go_wp2
        refine wp_region_still_tail 6 (by kernel_rfl) (by kernel_rfl) ?_
        simp only [List.take_succ_cons, List.take_zero, List.drop_succ_cons, List.drop_zero]
        repeat still_step
        try refine wpStill_nil ?_
        change wpList _ _ _ _ _ (World.drew _)
        go_wp2_with (go_at_call 59; refine (HQ'.out _ HW.out.drew).mono ?_; rintro e w' ⟨rfl, hb'⟩)
        have HB' : Hid (Below (w.heap.size + 1) (w.alloc (.cells #[.string xk, .int .i64 xt] 80)) w') := Lib.hid (HB.out.drew.trans (Below.mono hb' (by have := HB.out.size; simp at this; exact this)))
        go_roundw
        case rel => exact ⟨lo, m, rfl, rfl, hlo, hmk, by omega, HB'⟩
        case measure => simp [intOf]; have := HM.out; omega
    · obtain rfl : lo = k := by omega
      obtain rfl : hi = lo := by omega
      by_cases hkn : hi < n
      · have Hm : Hid (hi < vs.length) := Lib.hid (by rw [← HN.out]; exact hkn)
        obtain ⟨b, hab, hb, e0⟩ := HR.out hi Hm.out
        obtain ⟨y, hy, d0⟩ : ∃ y : Value, y = vs[hi]'Hm.out ∧ wr.cell? ⟨b, hi, none⟩ = some y := ⟨_, rfl, (HW.out.cell (p := ⟨b, hi, none⟩) hb).trans e0⟩
        subst hab
        clear e0
        have HQ := HC.out hi Hm.out
        rw [← hy] at HQ
        obtain ⟨q, hq⟩ : ∃ q, q = sg hi := ⟨_, rfl⟩
        rw [← hq] at HQ
        have HFB : Hid (fb = decide (q = 0)) := Lib.hid (by
          rw [Bool.eq_iff_iff, HF.out, decide_eq_true_eq, hq]
          exact ⟨fun h => h.2, fun h => ⟨Hm.out, h⟩⟩)
        have HQ' := Lib.hid HQ
        clear hq HQ hy
        have hd1 : decide ((hi : Int) < (n : Int)) = true := decide_eq_true (by omega)
        go_wp2
        have hq1 : w.heap.size + 1 ≤ wr.heap.size := by have := HB.out.size; simp at this; exact this
        have B0 : Below (w.heap.size + 1) wr wr := Below.refl _ _
        have HWW : Hid (∀ W, Below (w.heap.size + 1) wr W → Below w.heap.size w W) := Lib.hid (fun W hw => HW.out.trans (hw.mono (by omega)))
        have KEEP : Hid (∀ W1 W2, (W1.cell? ⟨b, hi, none⟩ = some y ∧ W1.cell? ⟨w.heap.size, 0, none⟩ = some (.string xk) ∧ W1.cell? ⟨w.heap.size, 1, none⟩ = some (.int .i64 xt) ∧ Below (w.heap.size + 1) wr W1 ∧ w.heap.size + 1 ≤ W1.heap.size) → Below W1.heap.size W1 W2 →
            (W2.cell? ⟨b, hi, none⟩ = some y ∧ W2.cell? ⟨w.heap.size, 0, none⟩ = some (.string xk) ∧ W2.cell? ⟨w.heap.size, 1, none⟩ = some (.int .i64 xt) ∧ Below (w.heap.size + 1) wr W2 ∧ w.heap.size + 1 ≤ W2.heap.size)) := Lib.hid (fun W1 W2 h hb2 =>
          ⟨(hb2.cell (p := ⟨b, _, none⟩) (by show b < _; omega)).trans h.1, (hb2.cell (p := ⟨w.heap.size, _, none⟩) (by show w.heap.size < _; omega)).trans h.2.1, (hb2.cell (p := ⟨w.heap.size, _, none⟩) (by show w.heap.size < _; omega)).trans h.2.2.1, h.2.2.2.1.trans (hb2.mono (by omega)), Nat.le_trans h.2.2.2.2 hb2.size⟩)
        go_region_held3 (fun w' => w'.cell? ⟨b, hi, none⟩ = some y ∧ w'.cell? ⟨w.heap.size, 0, none⟩ = some (.string xk) ∧ w'.cell? ⟨w.heap.size, 1, none⟩ = some (.int .i64 xt) ∧ Below (w.heap.size + 1) wr w' ∧ w.heap.size + 1 ≤ w'.heap.size)
          (first | exact KEEP.out _ _ ⟨d0, c0, c1, B0, hq1⟩ (Below.refl _ _).drew | exact KEEP.out _ _ ‹_ ∧ _› ‹Below _ _ _›)
          (first | (go_at_call 59; refine (HQ'.out _ (HWW.out _ (by go_split_ands; assumption))).mono ?_; rintro e w' ⟨rfl, hb'⟩))
        clear B0 KEEP hq1 c0 c1 d0
        rename World => wx
        go_split_ands
        have HX : Hid (Below w.heap.size w wx) := Lib.hid (HW.out.trans (Below.mono (show Below (w.heap.size + 1) wr wx by assumption) (by omega)))
        go_wp2
        go_ret2
        exact ⟨by rw [HFB.out]; rfl, HX.out⟩
      · have HFB : Hid (fb = false) := Lib.hid (by
          cases hfb : fb
          · rfl
          · obtain ⟨h, _⟩ := HF.out.1 hfb
            have := HN.out
            omega)
        have hd1 : decide ((hi : Int) < (n : Int)) = false := decide_eq_false (by omega)
        go_wp2
        go_quiet (fail)
        go_wp2
        go_ret2
        exact ⟨by rw [HFB.out]; rfl, HW.out.trans ⟨rfl, rfl, rfl, Nat.le_refl _, fun _ _ => rfl⟩⟩
end Go.Proofs.Ytnnmigglcpkomaa.Dm
