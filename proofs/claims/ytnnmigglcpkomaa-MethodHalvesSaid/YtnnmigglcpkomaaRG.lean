/- slices.BinarySearchFunc on one shelf. -/
import Derived.Test.YtnnmigglcpkomaaRB
import Derived.Laws.Shifts
import Derived.Shelf.Small.Strs
set_option maxRecDepth 100000
namespace Go.Proofs.Ytnnmigglcpkomaa.Dm
open Go Go.RowKit

/-- Entries in hand, one behind the other in a block. -/
def RowH (w : World) (b : Nat) (hs : List Hd) : Prop := ∀ j (h : j < hs.length), w.cell? ⟨b, j * 2, none⟩ = some (.string hs[j].1) ∧ w.cell? ⟨b, j * 2 + 1, none⟩ = some (.int .i64 hs[j].2)
theorem RowH.below {w w' : World} {B b : Nat} {hs : List Hd} (h : RowH w b hs) (hb : Below B w w') (hB : b < B) : RowH w' b hs := fun j hj =>
  ⟨(hb.cell (p := ⟨b, _, none⟩) hB).trans (h j hj).1, (hb.cell (p := ⟨b, _, none⟩) hB).trans (h j hj).2⟩

theorem boxH {w wr : World} {k t : Value} {T : TypeId} (hb : Below (w.heap.size + 1) (w.alloc (.cells #[k, t] T)) wr) : wr.cell? ⟨w.heap.size, 0, none⟩ = some k ∧ wr.cell? ⟨w.heap.size, 1, none⟩ = some t :=
  ⟨(hb.cell (p := ⟨w.heap.size, 0, none⟩) (by simp)).trans (by simp), (hb.cell (p := ⟨w.heap.size, 1, none⟩) (by simp)).trans (by simp)⟩

set_option maxHeartbeats 3200000 in
theorem bsShelf_any (b c : Nat) (hs : List Hd) (x : Hd) (w : World) (hb : b < w.heap.size) (hR : RowH w b hs) (hn : hs.length < 2199023255552) (k : Nat) (fb : Bool) (hk : k ≤ hs.length)
    (h1 : ∀ i (h : i < hs.length), i < k → cmpH hs[i] x < 0) (h2 : ∀ i (h : i < hs.length), k ≤ i → ¬ cmpH hs[i] x < 0) (hfb : fb = true ↔ ∃ h : k < hs.length, cmpH hs[k] x = 0) :
    Calls Try.prog 61 #[.slice (some ⟨b, 0, none⟩) hs.length c, hdV x, .func (.func 60) #[] #[]] w fun e w' => e = .returned (.tuple #[.int .i64 k, .bool fb]) ∧ Below w.heap.size w w' := by
  obtain ⟨xk, xt⟩ := x
  have hen : ∀ args W, (callFunc 60 args).run Try.prog W = .ok (.enter 60 args) W := fun args W => enters_of Try.func60 (by kernel_rfl) rfl args W
  have HC : Hid (∀ (y : Hd) W, Calls Try.prog 60 #[.agg #[.string y.1, .int .i64 y.2], .agg #[.string xk, .int .i64 xt]] W fun e w' => e = .returned (.int .i64 (cmpH y (xk, xt))) ∧ Below W.heap.size W w') := Lib.hid (fun y W => compare_any y (xk, xt) W)
  have HR := Lib.hid hR
  have H1 := Lib.hid h1
  have H2 := Lib.hid h2
  have HF := Lib.hid hfb
  obtain ⟨n, hN⟩ : ∃ n, n = hs.length := ⟨_, rfl⟩
  rw [← hN] at hk hn
  have HN := Lib.hid hN
  rw [← hN]
  unfold hdV
  simp only []
  clear hR h1 h2 hfb hN
  go_enter Try.func61, Try.ntmps61
  go_wp2
  go_loopw [9, 10] (fun vi vj wr => ∃ lo hi : Nat, vi = .int .i64 lo ∧ vj = .int .i64 hi ∧ lo ≤ k ∧ k ≤ hi ∧ hi ≤ n ∧ Hid (Below (w.heap.size + 1) (w.alloc (.cells #[.string xk, .int .i64 xt] 80)) wr)) (fun vi vj _ => (intOf vj).toNat - (intOf vi).toNat)
  case atStart => exact ⟨0, n, rfl, rfl, Nat.zero_le _, hk, Nat.le_refl _, Lib.hid (Below.refl _ _)⟩
  case round =>
    obtain ⟨lo, hi, rfl, rfl, hlo, hhi, hin, HB⟩ := hrel
    obtain ⟨c0, c1⟩ := boxH HB.out
    have HW : Hid (Below w.heap.size w wr) := Lib.hid (((Below.refl _ _).alloc (Nat.le_refl _) _).trans (HB.out.mono (by omega)))
    by_cases hlt : lo < hi
    · obtain ⟨m, hm⟩ : ∃ m, m = (lo + hi) / 2 := ⟨_, rfl⟩
      have hmn : m < hs.length := by rw [← HN.out]; omega
      obtain ⟨y, hy, d0, d1⟩ : ∃ y : Hd, y = hs[m]'hmn ∧ wr.cell? ⟨b, m * 2, none⟩ = some (.string y.1) ∧ wr.cell? ⟨b, m * 2 + 1, none⟩ = some (.int .i64 y.2) := ⟨_, rfl, (HR.out.below HW.out hb) m hmn⟩
      have hmi : ((lo : Int) + (hi : Int)) / 2 = (m : Int) := by omega
      have hmn' : m < n := by omega
      have hsh : Op.shift .shr .u64 ((lo : Int) + (hi : Int)) .u64 1 = pure (.int .u64 (m : Int)) := by
        rw [shift_shr_any _ _ _ _ (by decide), ← hmi]
        rfl
      have HM := Lib.hid hm
      have HQ := HC.out y
      have Hm : Hid (m < hs.length) := Lib.hid hmn
      have HY1 : Hid (m < k → cmpH y (xk, xt) < 0) := Lib.hid (by rw [hy]; exact H1.out m hmn)
      have HY2 : Hid (k ≤ m → 0 ≤ cmpH y (xk, xt)) := Lib.hid (by rw [hy]; exact fun h => by have := H2.out m hmn h; omega)
      clear hm hmi hmn hy
      obtain ⟨q, hq⟩ : ∃ q, q = cmpH y (xk, xt) := ⟨_, rfl⟩
      rw [← hq] at HQ
      have HQQ := Lib.hid hq
      have HQ' := Lib.hid HQ
      clear hq HQ
      by_cases hq0 : q < 0
      · have hd0 : decide (q < 0) = true := decide_eq_true hq0
        have hmk : m + 1 ≤ k := by
          have := HY2.out
          rw [← HQQ.out] at this
          omega
        go_wp2
        refine wp_region_still_tail 6 (by kernel_rfl) (by kernel_rfl) ?_
        simp only [List.take_succ_cons, List.take_zero, List.drop_succ_cons, List.drop_zero]
        repeat still_step
        try refine wpStill_nil ?_
        change wpList _ _ _ _ _ (World.drew _)
        go_wp2_with (go_at_call 60; refine (HQ'.out _).mono ?_; rintro e w' ⟨rfl, hb'⟩)
        have HB' : Hid (Below (w.heap.size + 1) (w.alloc (.cells #[.string xk, .int .i64 xt] 80)) w') := Lib.hid (HB.out.drew.trans (Below.mono hb' (by have := HB.out.size; simp at this; exact this)))
        go_roundw
        case rel => exact ⟨m + 1, hi, by go_num, rfl, hmk, hhi, hin, HB'⟩
        case measure => simp [intOf]; have := HM.out; omega
      · have hd0 : decide (q < 0) = false := decide_eq_false hq0
        have hmk : k ≤ m := by
          rcases Nat.lt_or_ge m k with h | h
          · have := HY1.out h
            rw [← HQQ.out] at this
            omega
          · exact h
        go_wp2
        refine wp_region_still_tail 6 (by kernel_rfl) (by kernel_rfl) ?_
        simp only [List.take_succ_cons, List.take_zero, List.drop_succ_cons, List.drop_zero]
        repeat still_step
        try refine wpStill_nil ?_
        change wpList _ _ _ _ _ (World.drew _)
        go_wp2_with (go_at_call 60; refine (HQ'.out _).mono ?_; rintro e w' ⟨rfl, hb'⟩)
        have HB' : Hid (Below (w.heap.size + 1) (w.alloc (.cells #[.string xk, .int .i64 xt] 80)) w') := Lib.hid (HB.out.drew.trans (Below.mono hb' (by have := HB.out.size; simp at this; exact this)))
        go_roundw
        case rel => exact ⟨lo, m, rfl, rfl, hlo, hmk, by omega, HB'⟩
        case measure => simp [intOf]; have := HM.out; omega
    · obtain rfl : lo = k := by omega
      obtain rfl : hi = lo := by omega
      by_cases hkn : hi < n
      · have Hm : Hid (hi < hs.length) := Lib.hid (by rw [← HN.out]; exact hkn)
        obtain ⟨y, hy, d0, d1⟩ : ∃ y : Hd, y = hs[hi]'Hm.out ∧ wr.cell? ⟨b, hi * 2, none⟩ = some (.string y.1) ∧ wr.cell? ⟨b, hi * 2 + 1, none⟩ = some (.int .i64 y.2) := ⟨_, rfl, (HR.out.below HW.out hb) hi Hm.out⟩
        have HQ := HC.out y
        obtain ⟨q, hq⟩ : ∃ q, q = cmpH y (xk, xt) := ⟨_, rfl⟩
        rw [← hq] at HQ
        have HFB : Hid (fb = decide (q = 0)) := Lib.hid (by
          rw [Bool.eq_iff_iff, HF.out, decide_eq_true_eq, hq, hy]
          exact ⟨fun ⟨_, h⟩ => h, fun h => ⟨Hm.out, h⟩⟩)
        have HQ' := Lib.hid HQ
        clear hq HQ hy
        have hd1 : decide ((hi : Int) < (n : Int)) = true := decide_eq_true (by omega)
        go_wp2
        have hq1 : w.heap.size + 1 ≤ wr.heap.size := by have := HB.out.size; simp at this; exact this
        have B0 : Below (w.heap.size + 1) wr wr := Below.refl _ _
        have KEEP : Hid (∀ W1 W2, (W1.cell? ⟨b, hi * 2, none⟩ = some (.string y.1) ∧ W1.cell? ⟨b, hi * 2 + 1, none⟩ = some (.int .i64 y.2) ∧ W1.cell? ⟨w.heap.size, 0, none⟩ = some (.string xk) ∧ W1.cell? ⟨w.heap.size, 1, none⟩ = some (.int .i64 xt) ∧ Below (w.heap.size + 1) wr W1 ∧ w.heap.size + 1 ≤ W1.heap.size) → Below W1.heap.size W1 W2 →
            (W2.cell? ⟨b, hi * 2, none⟩ = some (.string y.1) ∧ W2.cell? ⟨b, hi * 2 + 1, none⟩ = some (.int .i64 y.2) ∧ W2.cell? ⟨w.heap.size, 0, none⟩ = some (.string xk) ∧ W2.cell? ⟨w.heap.size, 1, none⟩ = some (.int .i64 xt) ∧ Below (w.heap.size + 1) wr W2 ∧ w.heap.size + 1 ≤ W2.heap.size)) := Lib.hid (fun W1 W2 h hb2 =>
          ⟨(hb2.cell (p := ⟨b, _, none⟩) (by show b < _; omega)).trans h.1, (hb2.cell (p := ⟨b, _, none⟩) (by show b < _; omega)).trans h.2.1, (hb2.cell (p := ⟨w.heap.size, _, none⟩) (by show w.heap.size < _; omega)).trans h.2.2.1, (hb2.cell (p := ⟨w.heap.size, _, none⟩) (by show w.heap.size < _; omega)).trans h.2.2.2.1, h.2.2.2.2.1.trans (hb2.mono (by omega)), Nat.le_trans h.2.2.2.2.2 hb2.size⟩)
        go_region_held3 (fun w' => w'.cell? ⟨b, hi * 2, none⟩ = some (.string y.1) ∧ w'.cell? ⟨b, hi * 2 + 1, none⟩ = some (.int .i64 y.2) ∧ w'.cell? ⟨w.heap.size, 0, none⟩ = some (.string xk) ∧ w'.cell? ⟨w.heap.size, 1, none⟩ = some (.int .i64 xt) ∧ Below (w.heap.size + 1) wr w' ∧ w.heap.size + 1 ≤ w'.heap.size)
          (first | exact KEEP.out _ _ ⟨d0, d1, c0, c1, B0, hq1⟩ (Below.refl _ _).drew | exact KEEP.out _ _ ‹_ ∧ _› ‹Below _ _ _›)
          (first | (go_at_call 60; refine (HQ'.out _).mono ?_; rintro e w' ⟨rfl, hb'⟩))
        clear B0 KEEP hq1 c0 c1 d0 d1
        rename World => wx
        go_split_ands
        have HX : Hid (Below w.heap.size w wx) := Lib.hid (HW.out.trans (Below.mono (show Below (w.heap.size + 1) wr wx by assumption) (by omega)))
        go_wp2
        go_ret2
        exact ⟨by rw [HFB.out]; rfl, HX.out⟩
      · have HFB : Hid (fb = false) := Lib.hid (by
          cases hfb : fb
          · rfl
          · obtain ⟨h, _⟩ := HF.out.1 hfb
            have := HN.out
            omega)
        have hd1 : decide ((hi : Int) < (n : Int)) = false := decide_eq_false (by omega)
        go_wp2
        go_quiet (fail)
        go_wp2
        go_ret2
        exact ⟨by rw [HFB.out]; rfl, HW.out.trans ⟨rfl, rfl, rfl, Nat.le_refl _, fun _ _ => rfl⟩⟩
end Go.Proofs.Ytnnmigglcpkomaa.Dm
