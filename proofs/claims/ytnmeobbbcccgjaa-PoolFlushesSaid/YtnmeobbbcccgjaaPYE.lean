/- The walk of PoolFlushes. -/
import Derived.Test.YtnmeobbbcccgjaaPYD
set_option maxRecDepth 100000
namespace Go.Proofs.Ytnmeobbbcccgjaa
open Go Go.RowKit

set_option maxHeartbeats 3200000 in
theorem flushes_walk (a0 : Int) (a : Option Addr) (xs : List It) (lc : Nat) (w : World) (hS : Sl w a xs) (hF : ∀ x ∈ xs, x.Fits) (hxl : xs.length ≤ 3518437208780) :
    Calls Try.prog 4 #[.int .i64 a0, .slice a xs.length lc] w fun e w' => e = .returned (.bool true) ∧ Below w.heap.size w w' := by
  obtain ⟨B, hBe⟩ : ∃ B, B = w.heap.size := ⟨_, rfl⟩
  have hBw : B ≤ w.heap.size := by omega
  have HBE := Lib.hid hBe; clear hBe
  have HSL := Lib.hid hS; clear hS
  have HF := Lib.hid hF; clear hF
  obtain ⟨ll, hll⟩ : ∃ ll, ll = xs.length := ⟨_, rfl⟩
  rw [← hll] at hxl ⊢
  have HLL := Lib.hid hll; clear hll
  by_cases hfr : 1 ≤ a0 ∧ a0 ≤ 1024
  · obtain ⟨n, rfl⟩ : ∃ n : Nat, a0 = (n : Int) := ⟨a0.toNat, by omega⟩
    have hn1 : 1 ≤ n := by omega
    have hn2 : n ≤ 1024 := by omega
    clear hfr
    go_enter Try.func4, Try.ntmps4
    go_wp2_with fail
    refine (new_disk _).mono ?_
    rintro e w1 ⟨rfl, hd1, hb1⟩
    rw [← HBE.out] at hd1 hb1 ⊢
    have HB1 := Lib.hid hb1
    have HD1 := Lib.hid hd1.bound; clear hd1 hb1
    go_wp2_with fail
    refine (pnew_st B B n 0 _ [] _ HD1.out (fun k hk => hk) hn1 hn2 (by simp)).mono ?_
    rintro e w2 ⟨p, S2, rfl, h2, hb2, _⟩
    have hB12 := HB1.out.size
    have hB22 := hb2.size
    have HB3 : Hid (Below B w (w2.alloc (.cells #[.int .i64 n, .slice none 0 0, .slice none 0 0, .slice none 0 0] 34))) := Lib.hid ((HB1.out.trans (hb2.mono (by omega))).trans ((Below.refl _ _).alloc (by omega) _))
    have h3 := both_start B p B n 0 S2 w2 h2
    obtain ⟨g, hg⟩ : ∃ g, g = w2.heap.size := ⟨_, rfl⟩
    rw [← hg] at h3
    have H3 := Lib.hid h3; clear h3 h2 hb2 hB12 hB22
    go_wp2
    rw [← hg]
    clear hg
    go_loopw [9] (fun vi wr => ∃ (j : Nat) (S T : Nat → Prop) (L : List Pg) (C : Nat → List UInt8) (P : Nat → Nat), j ≤ ll ∧ vi = .int .i64 j ∧ Hid (Both B S T p B g n L C P j wr) ∧ Hid (Below B w wr)) (fun vi _ => ll - (intOf vi).toNat)
    case atStart => exact ⟨0, S2, _, [], _, _, by omega, rfl, H3, HB3⟩
    case round =>
      clear HB1 HD1 H3 HB3
      obtain ⟨j, S, T, L, C, P, hj, rfl, HT, HB⟩ := hrel
      by_cases hlt : j < ll
      · obtain ⟨x, hx⟩ : ∃ x, xs[j]? = some x := ⟨_, List.getElem?_eq_getElem (by have := HLL.out; omega)⟩
        obtain ⟨b, off, rfl, hbw, c0, c1, c2, c3⟩ := op_cells HSL.out hx
        have HDO := Lib.hid (does_any B S T p B g n L C P j x wr HT.out (HF.out x (List.mem_of_getElem? hx)) (by omega))
        have hbB : b < B := by have := HBE.out; omega
        have d0 := (HB.out.cell hbB).trans c0
        have d1 := (HB.out.cell hbB).trans c1
        have d2 := (HB.out.cell hbB).trans c2
        have d3 := (HB.out.cell hbB).trans c3
        clear hx c0 c1 c2 c3
        go_wp2_with fail
        refine HDO.out.mono ?_
        rintro e w3 ⟨rfl, S', T', L', C', P', h3, hb3⟩
        have H3 := Lib.hid h3; have HB3 := Lib.hid (HB.out.trans hb3); clear h3 hb3 d0 d1 d2 d3
        go_wp2
        go_roundw
        case rel => exact ⟨j + 1, S', T', L', C', P', by omega, by go_num, H3, HB3⟩
        case measure => simp [intOf]; omega
      · obtain ⟨_, _, _, _, _, Sd, ops, _, _, hD, _⟩ := HT.out.st
        have HPN := Lib.hid (pnew_ok B 2 Sd ops wr hD (by omega) (by omega))
        clear hD
        go_wp2_with fail
        refine HPN.out.mono ?_
        rintro e w4 ⟨p2, fb2, mb2, rfl, hG2, hp2, hb4⟩
        have hsz := HT.out.low1
        have hb4' := HB.out.trans (hb4.mono hsz)
        have HG2 := Lib.hid hG2; have HP2 := Lib.hid hp2; have HB4 := Lib.hid hb4; have HB4' := Lib.hid hb4'
        clear hG2 hp2 hb4 hb4'
        have HST := Lib.hid (HT.out.below HB4.out).st
        have HFL := Lib.hid (flush_st HST.out (by omega))
        go_wp2_with fail
        refine HFL.out.mono ?_
        rintro e w5 ⟨rfl, S5, t5, h5, Sd5, ops5, hd5, hs5, hl5, hC5⟩
        obtain ⟨Sy, hy, hpg, hyT, hTl⟩ := second_pool HT.out HG2.out HP2.out HB4.out t5 hd5 hs5 hl5 hC5 h5.low
        have HB5 := Lib.hid (HB4'.out.trans (HST.out.toBelow t5))
        have HY := Lib.hid hy; have HPG := Lib.hid hpg; have HYT := Lib.hid hyT; have HTL := Lib.hid hTl
        have HREL := Lib.hid HT.out.rel
        clear hy hpg hyT hTl t5 h5 hd5 hs5 hl5 hC5 hsz
        clear HPN HG2 HP2 HB4 HB4' HST HFL HT HB
        obtain ⟨lL, hlL⟩ : ∃ lL, lL = L.length := ⟨_, rfl⟩
        have hL4 : lL ≤ 4096 := by rw [hlL]; exact HREL.out.len
        have HLL2 := Lib.hid hlL; clear hlL
        go_wp2
        go_loopw [12] (fun vi wz => ∃ (k : Nat) (Sz : Nat → Prop) (Pz : Nat → Nat) (Nz : Nat), k ≤ lL ∧ vi = .int .i64 k ∧ Nz ≤ ll + 2 * k ∧ Hid (∀ i, Pz i = 0) ∧ Hid (PoolSt B Sz p2 B 2 C Pz Nz wz) ∧ Hid (PgAt T g n L wz) ∧ Hid (∀ i, Sz i → ¬ T i) ∧ Hid (∀ i, T i → B ≤ i ∧ i < wz.heap.size) ∧ Hid (Below B w wz)) (fun vi _ => lL - (intOf vi).toNat)
        case atStart => exact ⟨0, Sy, _, j, by omega, rfl, by omega, Lib.hid (fun _ => rfl), HY, HPG, HYT, HTL, HB5⟩
        case round =>
          clear HB5 HY HPG HYT HTL
          obtain ⟨k, Sz, Pz, Nz, hk, rfl, hNz, HPZ, HY, HPG, HYT, HTL, HBz⟩ := hrel
          by_cases hlt2 : k < lL
          · obtain ⟨y, hy⟩ : ∃ y, L[k]? = some y := ⟨_, List.getElem?_eq_getElem (by have := HLL2.out; omega)⟩
            have HE := Lib.hid (HREL.out.ent y (List.mem_of_getElem? hy))
            have HPI := Lib.hid (pin_ok HY.out (by omega) y.page HE.out.1 (by rw [pinnedN_zero HPZ.out]; omega))
            obtain ⟨b1, cc1, a1, hc1, a2⟩ := HPG.out.page hy
            rw [← HLL2.out] at a1 hc1
            have HLY := Lib.hid hy; clear hy
            go_wp2_with fail
            refine HPI.out.mono ?_
            rintro e w6 ⟨rfl, S6, t6, h6⟩
            have HPG6 := Lib.hid (HPG.out.kept t6.1 (fun i _ hT hs => HYT.out i hs hT))
            have HYT6 : Hid (∀ i, S6 i → ¬ T i) := Lib.hid (fun i hi hT => HYT.out i (t6.2 i (HTL.out i hT).2 hi) hT)
            have HTL6 : Hid (∀ i, T i → B ≤ i ∧ i < w6.heap.size) := Lib.hid (fun i hi => ⟨(HTL.out i hi).1, Nat.lt_of_lt_of_le (HTL.out i hi).2 t6.1.size⟩)
            have HB6 := Lib.hid (HBz.out.trans (HY.out.toBelow t6))
            have HRD := read_st h6 y.page (by rw [upd_same]; omega)
            rw [HE.out.2.2.1] at HRD
            have HUN := Lib.hid (unpin_st h6 y.page (by rw [upd_same]; omega) (by omega))
            have H6 := Lib.hid h6
            clear t6 h6 a1 a2 hc1
            obtain ⟨b2, cc2, f1, hc2, f2⟩ := HPG6.out.page HLY.out
            obtain ⟨gB, cc3, b3, f3, hc3, f4, hrg, _, _⟩ := HPG6.out.bytesAt HLY.out
            have hcv := run_string_mid w6 b3 0 512 y.bytes hrg
            rw [HE.out.2.2.2] at hcv
            rw [← HLL2.out] at f1 hc2 f3 hc3
            unfold rowVal at f4
            obtain ⟨t, ht⟩ : ∃ t : ByteArray, t = ⟨y.bytes.toArray⟩ := ⟨_, rfl⟩
            rw [← ht] at hcv HRD
            have HRD' := Lib.hid HRD
            clear ht hrg HRD
            go_wp2_with fail
            refine HRD'.out.mono ?_
            rintro e w7 ⟨rfl, hw⟩
            subst w7
            go_wp2_with fail
            refine HUN.out.mono ?_
            rintro e w8 ⟨rfl, S8, t8, h8⟩
            have HPG8 := Lib.hid (HPG6.out.kept t8.1 (fun i _ hT hs => HYT6.out i hs hT))
            have HYT8 : Hid (∀ i, S8 i → ¬ T i) := Lib.hid (fun i hi hT => HYT6.out i (t8.2 i (HTL6.out i hT).2 hi) hT)
            have HTL8 : Hid (∀ i, T i → B ≤ i ∧ i < w8.heap.size) := Lib.hid (fun i hi => ⟨(HTL6.out i hi).1, Nat.lt_of_lt_of_le (HTL6.out i hi).2 t8.1.size⟩)
            have HB8 := Lib.hid (HB6.out.trans (H6.out.toBelow t8))
            obtain ⟨P8, HZ8, H8⟩ : ∃ P8 : Nat → Nat, Hid (∀ i, P8 i = 0) ∧ Hid (PoolSt B S8 p2 B 2 C P8 (Nz + 1 + 1) w8) := ⟨_, Lib.hid (fun i => by
              by_cases hi : i = y.page
              · subst hi; rw [upd_same, upd_same, HPZ.out]
              · rw [upd_other _ _ hi, upd_other _ _ hi, HPZ.out]), Lib.hid h8⟩
            clear t8 h8 f1 f2 f3 f4 hcv
            go_wp2
            go_roundw
            case rel => exact ⟨k + 1, S8, P8, Nz + 1 + 1, by omega, by go_num, by omega, HZ8, H8, HPG8, HYT8, HTL8, HB8⟩
            case measure => simp [intOf]; omega
          · obtain ⟨b1, cc1, a1⟩ := HPG.out.lenCell
            rw [← HLL2.out] at a1
            go_wp2_with fail
            refine (awake_any _).mono ?_
            rintro e w6 ⟨rfl, hb6⟩
            have HB6 := Lib.hid (HBz.out.trans (hb6.mono (by have := HBz.out.size; omega))); clear hb6
            go_wp2
            go_ret
            refine ⟨rfl, ?_⟩
            have := HB6.out
            rw [HBE.out] at this
            exact this
  · have HFR := Lib.hid hfr
    have hc : a0 < 1 ∨ ¬ a0 < 1 ∧ 1024 < a0 := by omega
    clear hfr
    rcases hc with hc | ⟨hc, hc2⟩
    all_goals go_enter Try.func4, Try.ntmps4
    all_goals go_wp2_with fail
    all_goals refine (new_disk _).mono ?_
    all_goals rintro e w1 ⟨rfl, hd1, hb1⟩
    all_goals rw [← HBE.out] at hd1 hb1 ⊢
    all_goals have HB1 := Lib.hid hb1
    all_goals have HD1 := Lib.hid (pnew_bad _ _ _ a0 _ hd1 HFR.out)
    all_goals clear hd1 hb1
    all_goals go_wp2_with fail
    all_goals refine HD1.out.mono ?_
    all_goals rintro e w2 ⟨rfl, hw⟩
    all_goals subst w2
    all_goals go_wp2_with fail
    all_goals refine (awake_any _).mono ?_
    all_goals rintro e w6 ⟨rfl, hb6⟩
    all_goals have HB6 := Lib.hid (HB1.out.trans (hb6.mono (by have := HB1.out.size; omega)))
    all_goals clear hb6
    all_goals go_wp2
    all_goals go_ret
    all_goals refine ⟨rfl, ?_⟩
    all_goals have := HB6.out
    all_goals rw [HBE.out] at this
    all_goals exact this
end Go.Proofs.Ytnmeobbbcccgjaa
