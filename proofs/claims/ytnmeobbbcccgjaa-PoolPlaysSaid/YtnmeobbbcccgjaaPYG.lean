/- The walk of PoolPlays. -/
import Derived.Test.YtnmeobbbcccgjaaPYF
set_option maxRecDepth 100000
namespace Go.Proofs.Ytnmeobbbcccgjaa
open Go Go.RowKit

set_option maxHeartbeats 3200000 in
theorem plays_walk (a0 : Int) (a : Option Addr) (xs : List It) (lc : Nat) (w : World) (hS : Sl w a xs) (hF : ∀ x ∈ xs, x.Fits) (hxl : xs.length ≤ 3518437208780) :
    Calls Try.prog 3 #[.int .i64 a0, .slice a xs.length lc] w fun e w' => e = .returned (.bool true) ∧ Below w.heap.size w w' := by
  obtain ⟨B, hBe⟩ : ∃ B, B = w.heap.size := ⟨_, rfl⟩
  have hBw : B ≤ w.heap.size := by omega
  have HBE := Lib.hid hBe; clear hBe
  have HSL := Lib.hid hS; clear hS
  have HF := Lib.hid hF; clear hF
  obtain ⟨ll, hll⟩ : ∃ ll, ll = xs.length := ⟨_, rfl⟩
  rw [← hll] at hxl ⊢
  have HLL := Lib.hid hll; clear hll
  by_cases hfr : 1 ≤ a0 ∧ a0 ≤ 1024
  · obtain ⟨n, rfl⟩ : ∃ n : Nat, a0 = (n : Int) := ⟨a0.toNat, by omega⟩
    have hn1 : 1 ≤ n := by omega
    have hn2 : n ≤ 1024 := by omega
    have hg1 : decide ((1 : Int) ≤ n) = true := by simp; omega
    have hg2 : decide ((n : Int) ≤ 1024) = true := by simp; omega
    clear hfr
    go_enter Try.func3, Try.ntmps3
    go_wp2_with fail
    refine (new_disk _).mono ?_
    rintro e w1 ⟨rfl, hd1, hb1⟩
    rw [← HBE.out] at hd1 hb1 ⊢
    have HB1 := Lib.hid hb1
    have HD1 := Lib.hid hd1.bound; clear hd1 hb1
    go_wp2_with fail
    refine (pnew_st B B n 0 _ [] _ HD1.out (fun k hk => hk) hn1 hn2 (by simp)).mono ?_
    rintro e w2 ⟨p, S2, rfl, h2, hb2, _⟩
    have hB12 := HB1.out.size
    have hB22 := hb2.size
    have HB3 : Hid (Below B w (w2.alloc (.cells #[.int .i64 n, .slice none 0 0, .slice none 0 0, .slice none 0 0] 34))) := Lib.hid ((HB1.out.trans (hb2.mono (by omega))).trans ((Below.refl _ _).alloc (by omega) _))
    have h3 := both_start B p B n 0 S2 w2 h2
    obtain ⟨g, hg⟩ : ∃ g, g = w2.heap.size := ⟨_, rfl⟩
    rw [← hg] at h3
    have H3 := Lib.hid h3; clear h3 h2 hb2 hB12 hB22
    go_wp2
    rw [← hg]
    clear hg
    go_loopw [8] (fun vi wr => ∃ (j : Nat) (S T : Nat → Prop) (L : List Pg) (C : Nat → List UInt8) (P : Nat → Nat), j ≤ ll ∧ vi = .int .i64 j ∧ Hid (Both B S T p B g n L C P j wr) ∧ Hid (Below B w wr)) (fun vi _ => ll - (intOf vi).toNat)
    case atStart => exact ⟨0, S2, _, [], _, _, by omega, rfl, H3, HB3⟩
    case round =>
      clear HB1 HD1 H3 HB3
      obtain ⟨j, S, T, L, C, P, hj, rfl, HT, HB⟩ := hrel
      by_cases hlt : j < ll
      · obtain ⟨x, hx⟩ : ∃ x, xs[j]? = some x := ⟨_, List.getElem?_eq_getElem (by have := HLL.out; omega)⟩
        obtain ⟨b, off, rfl, hbw, c0, c1, c2, c3⟩ := op_cells HSL.out hx
        have HDO := Lib.hid (does_any B S T p B g n L C P j x wr HT.out (HF.out x (List.mem_of_getElem? hx)) (by omega))
        have hbB : b < B := by have := HBE.out; omega
        have d0 := (HB.out.cell hbB).trans c0
        have d1 := (HB.out.cell hbB).trans c1
        have d2 := (HB.out.cell hbB).trans c2
        have d3 := (HB.out.cell hbB).trans c3
        clear hx c0 c1 c2 c3
        go_wp2_with fail
        refine HDO.out.mono ?_
        rintro e w3 ⟨rfl, S', T', L', C', P', h3, hb3⟩
        have H3 := Lib.hid h3; have HB3 := Lib.hid (HB.out.trans hb3); clear h3 hb3 d0 d1 d2 d3
        go_wp2_with fail
        refine (told_any _ _ _ _ _ _ _ _ _ _ _ _ H3.out).mono ?_
        rintro e w4 ⟨rfl, hb4⟩
        have H4 := Lib.hid (H3.out.below hb4)
        have HB4 := Lib.hid (HB3.out.trans (hb4.mono H3.out.low1))
        clear hb4
        go_wp2
        go_roundw
        case rel => exact ⟨j + 1, S', T', L', C', P', by omega, by go_num, H4, HB4⟩
        case measure => simp [intOf]; omega
      · have HSZ := Lib.hid HT.out.low1
        go_wp2_with fail
        refine (awake_any _).mono ?_
        rintro e w6 ⟨rfl, hb6⟩
        have HB6 := Lib.hid (HB.out.trans (hb6.mono HSZ.out)); clear hb6
        go_wp2
        go_ret
        refine ⟨rfl, ?_⟩
        have := HB6.out
        rw [HBE.out] at this
        exact this
  · have HFR := Lib.hid hfr
    have hc : a0 < 1 ∨ ¬ a0 < 1 ∧ 1024 < a0 := by omega
    clear hfr
    rcases hc with hc | ⟨hc, hc2⟩
    all_goals go_enter Try.func3, Try.ntmps3
    all_goals go_wp2_with fail
    all_goals refine (new_disk _).mono ?_
    all_goals rintro e w1 ⟨rfl, hd1, hb1⟩
    all_goals rw [← HBE.out] at hd1 hb1 ⊢
    all_goals have HB1 := Lib.hid hb1
    all_goals have HD1 := Lib.hid (pnew_bad _ _ _ a0 _ hd1 HFR.out)
    all_goals clear hd1 hb1
    all_goals go_wp2_with fail
    all_goals refine HD1.out.mono ?_
    all_goals rintro e w2 ⟨rfl, hw⟩
    all_goals subst w2
    all_goals go_wp2_with fail
    all_goals refine (awake_any _).mono ?_
    all_goals rintro e w6 ⟨rfl, hb6⟩
    all_goals have HB6 := Lib.hid (HB1.out.trans (hb6.mono (by have := HB1.out.size; omega)))
    all_goals clear hb6
    all_goals go_wp2
    all_goals go_ret
    all_goals refine ⟨rfl, ?_⟩
    all_goals have := HB6.out
    all_goals rw [HBE.out] at this
    all_goals exact this
end Go.Proofs.Ytnmeobbbcccgjaa
