/- SorterKeeps' walk. -/
import Derived.Test.YtgegljbocacdnaaNH
set_option maxRecDepth 100000
namespace Go.Proofs.Ytgegljbocacdnaa
open Go.RowKit

theorem and63 (n : Int) : bits .and .i64 n 63 = n % 64 := by
  have h7 : (BitVec.ofInt 64 63).toNat = 2 ^ 6 - 1 := by decide
  have key : (BitVec.ofInt 64 n &&& BitVec.ofInt 64 63).toNat = (n % ((2 ^ 64 : Nat) : Int)).toNat % 2 ^ 6 := by
    rw [BitVec.toNat_and, BitVec.toNat_ofInt, h7, Nat.and_two_pow_sub_one_eq_mod]
  show IntKind.i64.wrap ((BitVec.ofInt 64 n &&& BitVec.ofInt 64 63).toNat : Nat) = n % 64
  rw [key, IntKind.wrap_i64]
  omega
/-- How often a text stands in a list. -/
def cntS (x : ByteArray) (l : List ByteArray) : Nat := l.countP fun y => decide (y = x)
theorem cntS_snoc (x y : ByteArray) (l : List ByteArray) : cntS x (l ++ [y]) = cntS x l + if y = x then 1 else 0 := by
  unfold cntS
  rw [List.countP_append]
  by_cases h : y = x <;> simp [h]
theorem cntS_le (x : ByteArray) (l : List ByteArray) : cntS x l ≤ l.length := List.countP_le_length
theorem cntS_perm {x : ByteArray} {l m : List ByteArray} (h : l.Perm m) : cntS x l = cntS x m := h.countP_eq _
theorem cntS_rep (x : ByteArray) (n : Nat) : cntS x (List.replicate n x) = n := by
  unfold cntS
  induction n with
  | zero => rfl
  | succ n ih => rw [List.replicate_succ, List.countP_cons, ih]; simp
theorem cntS_app (x : ByteArray) (l m : List ByteArray) : cntS x (l ++ m) = cntS x l + cntS x m := by unfold cntS; rw [List.countP_append]
theorem cntS_take (x : ByteArray) (l : List ByteArray) (k : Nat) : cntS x (l.take k) ≤ cntS x l := by
  conv => rhs; rw [← List.take_append_drop k l, cntS_app]
  exact Nat.le_add_right _ _
theorem str_ne {s x : ByteArray} (h : ¬ s = x) : (s.toList == x.toList) = false := by
  rw [beq_eq_false_iff_ne, ByteArray.toList_eq, ByteArray.toList_eq]
  exact fun e => h (bytes_ext e)

set_option maxHeartbeats 6400000 in
theorem keeps_walk (v : Value) (xs : List ByteArray) (x : ByteArray) (m : Int) (w : World) (hT : TextC w v xs) (hz : Szd xs) (hx : x.size ≤ 281474976710656) :
    Calls Try.prog 8 #[v, .string x, .int .i64 m] w fun e w' => e = .returned (.bool true) ∧ Below w.heap.size w w' := by
  obtain ⟨r, hr, hr9⟩ : ∃ n : Nat, bits .and .i64 m 63 = (n : Int) ∧ n ≤ 63 := ⟨(m % 64).toNat, by rw [and63]; omega, by omega⟩
  obtain ⟨B, hB⟩ : ∃ B, B = w.heap.size := ⟨_, rfl⟩
  have HNS := Lib.hid (so_new B 3 w (by omega) (by omega) (by omega))
  rw [← hB] at HNS
  have HB := Lib.hid hB
  obtain ⟨a, c, rfl, -⟩ := id hT
  obtain ⟨n, hn⟩ : ∃ n, n = xs.length := ⟨_, rfl⟩
  rw [← hn] at hT ⊢
  have HT := Lib.hid hT
  have HZ := Lib.hid hz
  have HNN := Lib.hid hn
  have HX := Lib.hid hx
  clear hT hz hn hB hx
  go_enter Try.func8, Try.ntmps8
  go_wp2_with fail
  refine HNS.out.mono ?_
  rintro e w1 ⟨rfl, hs1, hb1⟩
  have HS1 : Hid (∃ S, SoSt B B 3 S (xs.take 0) w1) := Lib.hid ⟨_, hs1⟩
  have HB1 := Lib.hid hb1
  clear hs1 hb1 HNS
  by_cases hbig : 2000 < n
  · have HAW := Lib.hid (xawake_any w1)
    have hbi : (2000 : Int) < n := by omega
    go_wp2_with fail
    refine HAW.out.mono ?_
    rintro e w3 ⟨rfl, hb3⟩
    go_wp2
    go_ret
    refine ⟨rfl, ?_⟩
    rw [← HB.out]
    exact HB1.out.trans (hb3.mono (by rw [HB.out]; exact HB1.out.size))
  · have hsm : n ≤ 2000 := by omega
    clear hbig
    go_wp2_with fail
    go_loopw [10, 11] (fun wt i wr => ∃ k q : Nat, k ≤ n ∧ q ≤ 2063 ∧ i = .int .i64 k ∧ wt = .int .i64 q ∧ Hid (r + cntS x (xs.take k) = q) ∧ Hid (∃ S, SoSt B B 3 S (xs.take k) wr) ∧ Hid (Below B w wr)) (fun _ i _ => n - (intOf i).toNat)
    case atStart => exact ⟨0, r, Nat.zero_le _, by omega, rfl, by rw [← hr], Lib.hid (by rw [List.take_zero]; rfl), HS1, HB1⟩
    case round =>
      obtain ⟨k, q, hk, hq, rfl, rfl, HQ, HSK, HBK⟩ := hrel
      by_cases hlt : k < n
      · obtain ⟨hl, b, off, rfl, hbw, hcell⟩ := HT.out.at hlt
        have hcell' := (HBK.out.cell (p := ⟨b, off + k, none⟩) (by show b < B; rw [HB.out]; exact hbw)).trans hcell
        obtain ⟨S, hS⟩ := HSK.out
        have htl : (xs.take k).length < 100000 := by rw [List.length_take]; omega
        have htk : xs.take (k + 1) = xs.take k ++ [xs[k]] := List.take_succ_eq_append_getElem hl
        have hadd := so_add B B 3 S _ xs[k] wr hS htl (HZ.out _ (List.getElem_mem hl))
        have HADD : Hid (Calls Try.prog 11 #[.pointer (some ⟨B, 0, none⟩), .string xs[k]] wr fun e w' => e = .returned (.int .i64 0) ∧ Below B wr w' ∧ ∃ S, SoSt B B 3 S (xs.take (k + 1)) w') := Lib.hid (hadd.mono fun e w' ⟨e1, e2, S', e3, _⟩ => ⟨e1, e2, S', by rw [htk]; exact e3⟩)
        have hkn : (k : Int) < n := by omega
        have hcs := cntS_snoc x xs[k] (xs.take k)
        rw [← htk] at hcs
        have hcl : cntS x (xs.take (k + 1)) ≤ n := by
          have := cntS_le x (xs.take (k + 1))
          rw [List.length_take] at this
          omega
        obtain ⟨y, hy⟩ : ∃ y, y = xs[k] := ⟨_, rfl⟩
        rw [← hy] at hcell' HADD hcs
        by_cases hyx : y = x
        · rw [if_pos hyx] at hcs
          subst hyx
          have HQ2 : Hid (r + cntS y (xs.take (k + 1)) = q + 1) := Lib.hid (by rw [hcs]; have := HQ.out; omega)
          have hq2 : q + 1 ≤ 2063 := by have := HQ2.out; omega
          clear hl hcell hS hadd htk hy htl hcs hcl
          go_wp2_with fail
          refine HADD.out.mono ?_
          rintro e w2 ⟨rfl, hb2, hs2⟩
          have HB2 := Lib.hid (HBK.out.trans hb2)
          have HS2 := Lib.hid hs2
          clear hb2 hs2 HADD
          go_wp2
          go_roundw
          case rel => exact ⟨k + 1, q + 1, by omega, hq2, by go_num, by go_num, HQ2, HS2, HB2⟩
          case measure => simp [intOf]; omega
        · rw [if_neg hyx] at hcs
          have hne := str_ne hyx
          have HQ2 : Hid (r + cntS x (xs.take (k + 1)) = q) := Lib.hid (by rw [hcs]; have := HQ.out; omega)
          clear hl hcell hS hadd htk hy htl hcs hcl hyx
          go_wp2_with fail
          refine HADD.out.mono ?_
          rintro e w2 ⟨rfl, hb2, hs2⟩
          have HB2 := Lib.hid (HBK.out.trans hb2)
          have HS2 := Lib.hid hs2
          clear hb2 hs2 HADD
          go_wp2
          go_roundw
          case rel => exact ⟨k + 1, q, by omega, hq, by go_num, rfl, HQ2, HS2, HB2⟩
          case measure => simp [intOf]; omega
      · obtain rfl : k = n := by omega
        have hall : xs.take k = xs := by rw [HNN.out, List.take_length]
        have HQ2 : Hid (r + cntS x xs = q) := Lib.hid (by have := HQ.out; rwa [hall] at this)
        have HS2 : Hid (∃ S, SoSt B B 3 S (xs ++ List.replicate 0 x) wr) := Lib.hid (by have := HSK.out; rw [hall] at this; simpa using this)
        clear hall HQ HSK
        go_wp2_with fail
        go_loopw [12] (fun i wr => ∃ j : Nat, j ≤ r ∧ i = .int .i64 j ∧ Hid (∃ S, SoSt B B 3 S (xs ++ List.replicate j x) wr) ∧ Hid (Below B w wr)) (fun i _ => r - (intOf i).toNat)
        case atStart => exact ⟨0, Nat.zero_le _, rfl, HS2, HBK⟩
        case round =>
          obtain ⟨j, hj, rfl, HSJ, HBJ⟩ := hrel
          by_cases hlt2 : j < r
          · obtain ⟨S, hS⟩ := HSJ.out
            have hadd := so_add B B 3 S _ x wr hS (by rw [List.length_append, List.length_replicate]; have := HNN.out; omega) HX.out
            have HADD : Hid (Calls Try.prog 11 #[.pointer (some ⟨B, 0, none⟩), .string x] wr fun e w' => e = .returned (.int .i64 0) ∧ Below B wr w' ∧ ∃ S, SoSt B B 3 S (xs ++ List.replicate (j + 1) x) w') := Lib.hid (hadd.mono fun e w' ⟨e1, e2, S', e3, _⟩ => ⟨e1, e2, S', by rw [List.replicate_succ', ← List.append_assoc]; exact e3⟩)
            have hjr : (j : Int) < r := by omega
            clear hS hadd
            go_wp2_with fail
            refine HADD.out.mono ?_
            rintro e w2 ⟨rfl, hb2, hs2⟩
            have HB2 := Lib.hid (HBJ.out.trans hb2)
            have HS2 := Lib.hid hs2
            clear hb2 hs2 HADD
            go_wp2
            go_roundw
            case rel => exact ⟨j + 1, by omega, by go_num, HS2, HB2⟩
            case measure => simp [intOf]; omega
          · obtain rfl : j = r := by omega
            obtain ⟨S, hS⟩ := HSJ.out
            obtain ⟨all, hall⟩ : ∃ all, all = xs ++ List.replicate j x := ⟨_, rfl⟩
            have HAL : Hid (all.length = k + j) := Lib.hid (by rw [hall, List.length_append, List.length_replicate, HNN.out])
            have HAC : Hid (cntS x (srtS all) = q) := Lib.hid (by rw [cntS_perm (srtS_perm all), hall, cntS_app, cntS_rep]; have := HQ2.out; omega)
            rw [← hall] at hS
            have HSD := Lib.hid (so_sorted B B 3 S all wr hS (by rw [HAL.out]; omega))
            clear hS hall HSJ HQ2 HS2
            go_wp2_with fail
            refine HSD.out.mono ?_
            rintro e w3 ⟨v3, rfl, hs3, -, hb3, -⟩
            obtain ⟨a3, c3, rfl⟩ := hs3.shape
            obtain ⟨R, hR⟩ : ∃ R, R = srtS all := ⟨_, rfl⟩
            have HRI : Hid (Rise R) := Lib.hid (by rw [hR]; exact srtS_rise all)
            have HRL : Hid (R.length = k + j) := Lib.hid (by rw [hR, srtS_len]; exact HAL.out)
            rw [← hR] at hs3 HAC ⊢
            rw [HRL.out]
            have HS3 : Hid (TextC w3 (.slice a3 (k + j) c3) R) := Lib.hid (by have := hs3.textC; rwa [HRL.out] at this)
            have HB3 := Lib.hid (HBJ.out.trans hb3)
            clear hs3 hb3 hR HSD HAL
            obtain ⟨M, hM⟩ : ∃ M, M = k + j := ⟨_, rfl⟩
            rw [← hM] at HRL HS3 ⊢
            go_wp2
            go_loop [10, 15] (fun wt i => ∃ p u : Nat, p ≤ M ∧ u ≤ 2063 ∧ i = .int .i64 p ∧ wt = .int .i64 u ∧ Hid (u + cntS x (R.take p) = q)) (fun _ i => M - (intOf i).toNat)
            case atStart => exact ⟨0, q, Nat.zero_le _, hq, rfl, rfl, Lib.hid (by rw [List.take_zero]; rfl)⟩
            case round =>
              obtain ⟨p, u, hp, hu, rfl, rfl, HU⟩ := hrel
              by_cases hlt3 : p < M
              · obtain ⟨hl, b, off, rfl, hbw, hcell⟩ := HS3.out.at hlt3
                have htk : R.take (p + 1) = R.take p ++ [R[p]] := List.take_succ_eq_append_getElem hl
                have hcs := cntS_snoc x R[p] (R.take p)
                rw [← htk] at hcs
                have hct := cntS_take x R (p + 1)
                rw [HAC.out] at hct
                have hpM : (p : Int) < M := by omega
                obtain ⟨y, hy⟩ : ∃ y, y = R[p] := ⟨_, rfl⟩
                rw [← hy] at hcell hcs
                by_cases hyx : y = x
                · rw [if_pos hyx] at hcs
                  subst hyx
                  have h1u : 1 ≤ u := by have := HU.out; omega
                  have HU2 : Hid (u - 1 + cntS y (R.take (p + 1)) = q) := Lib.hid (by rw [hcs]; have := HU.out; omega)
                  have hui : ((u - 1 : Nat) : Int) = (u : Int) - 1 := by omega
                  clear hl htk hy hcs hct hbw
                  go_wp2_with fail
                  go_round
                  case rel => exact ⟨p + 1, u - 1, by omega, by omega, by go_num, by rw [hui], HU2⟩
                  case measure => simp [intOf]; omega
                · rw [if_neg hyx] at hcs
                  have hne := str_ne hyx
                  have HU2 : Hid (u + cntS x (R.take (p + 1)) = q) := Lib.hid (by rw [hcs]; have := HU.out; omega)
                  clear hl htk hy hcs hct hbw hyx
                  go_wp2_with fail
                  go_round
                  case rel => exact ⟨p + 1, u, by omega, hu, by go_num, rfl, HU2⟩
                  case measure => simp [intOf]; omega
              · obtain rfl : p = M := by omega
                have hu0 : u = 0 := by
                  have := HU.out
                  rw [show R.take p = R by rw [← HRL.out, List.take_length], HAC.out] at this
                  omega
                subst hu0
                subst hM
                have hri := xrises_any _ R w3 HS3.out.texts (by rw [HRL.out]; omega)
                rw [decide_eq_true HRI.out] at hri
                have HRR := Lib.hid hri
                clear hri
                go_wp2_with fail
                refine HRR.out.mono ?_
                rintro e w6 ⟨rfl, q6, hw6⟩
                have HB6 : Hid (Below B w w6) := Lib.hid (by rw [← hw6]; exact HB3.out.trans ((below_drewN w3 q6).mono (by rw [HB.out]; exact HB3.out.size)))
                have HAW := Lib.hid (xawake_any w6)
                clear hw6 HRR
                go_wp2_with fail
                refine HAW.out.mono ?_
                rintro e w7 ⟨rfl, hb7⟩
                go_wp2
                go_ret
                refine ⟨rfl, ?_⟩
                rw [← HB.out]
                exact HB6.out.trans (hb7.mono (by rw [HB.out]; exact HB6.out.size))
end Go.Proofs.Ytgegljbocacdnaa
