/- SorterRooms' walk. -/
import Derived.Test.YtgegljbocacdnaaNH
set_option maxRecDepth 100000
namespace Go.Proofs.Ytgegljbocacdnaa
open Go.RowKit

theorem and255 (n : Int) : bits .and .i64 n 255 = n % 256 := by
  have h7 : (BitVec.ofInt 64 255).toNat = 2 ^ 8 - 1 := by decide
  have key : (BitVec.ofInt 64 n &&& BitVec.ofInt 64 255).toNat = (n % ((2 ^ 64 : Nat) : Int)).toNat % 2 ^ 8 := by
    rw [BitVec.toNat_and, BitVec.toNat_ofInt, h7, Nat.and_two_pow_sub_one_eq_mod]
  show IntKind.i64.wrap ((BitVec.ofInt 64 n &&& BitVec.ofInt 64 255).toNat : Nat) = n % 256
  rw [key, IntKind.wrap_i64]
  omega

/-- Two sorters, side by side. -/
structure Pair (B s t ra rb : Nat) (S T : Nat → Prop) (got : List ByteArray) (w : World) : Prop where
  s : SoSt B s ra S got w
  t : SoSt B t rb T got w
  apart : ∀ k, S k → ¬ T k

set_option maxHeartbeats 6400000 in
theorem rooms_walk (m0 m1 : Int) (v : Value) (xs : List ByteArray) (w : World) (hT : TextC w v xs) (hz : Szd xs) :
    Calls Try.prog 5 #[.int .i64 m0, .int .i64 m1, v] w fun e w' => e = .returned (.bool true) ∧ Below w.heap.size w w' := by
  obtain ⟨ra, hra, ra1, ra2⟩ : ∃ n : Nat, 1 + bits .and .i64 m0 255 = (n : Int) ∧ 1 ≤ n ∧ n ≤ 65536 := ⟨(1 + m0 % 256).toNat, by rw [and255]; omega, by omega, by omega⟩
  obtain ⟨rb, hrb, rb1, rb2⟩ : ∃ n : Nat, 1 + bits .and .i64 m1 255 = (n : Int) ∧ 1 ≤ n ∧ n ≤ 65536 := ⟨(1 + m1 % 256).toNat, by rw [and255]; omega, by omega, by omega⟩
  obtain ⟨B, hB⟩ : ∃ B, B = w.heap.size := ⟨_, rfl⟩
  have HNS := Lib.hid (so_new B ra w ra1 ra2 (by omega))
  rw [← hB] at HNS
  have HB := Lib.hid hB
  obtain ⟨a, c, rfl, -⟩ := id hT
  obtain ⟨n, hn⟩ : ∃ n, n = xs.length := ⟨_, rfl⟩
  rw [← hn] at hT ⊢
  have HT := Lib.hid hT
  have HZ := Lib.hid hz
  have HNN := Lib.hid hn
  clear hT hz hn hB
  go_enter Try.func5, Try.ntmps5
  go_wp2_with fail
  refine HNS.out.mono ?_
  rintro e w1 ⟨rfl, hs1, hb1⟩
  have hB1 : B ≤ w1.heap.size := hs1.ge
  obtain ⟨t, ht⟩ : ∃ t, t = w1.heap.size := ⟨_, rfl⟩
  have HNT := Lib.hid (so_new B rb w1 rb1 rb2 hB1)
  rw [← ht] at HNT
  have HS1 := Lib.hid hs1
  have HB1 := Lib.hid hb1
  have HTT := Lib.hid ht
  clear hs1 hb1 ht HNS
  go_wp2_with fail
  refine HNT.out.mono ?_
  rintro e w2 ⟨rfl, ht2, hb2⟩
  have hp : Pair B B t ra rb (fun k => k = B) (fun k => k = t) (xs.take 0) w2 := by
    refine ⟨HS1.out.below (by rw [← HTT.out]; exact hb2), ht2, fun k hk h => ?_⟩
    have := (HS1.out.low B rfl).2
    have h1 : k = B := hk
    have h2 : k = t := h
    have := HTT.out
    omega
  have HP : Hid (∃ S T, Pair B B t ra rb S T (xs.take 0) w2) := Lib.hid ⟨_, _, hp⟩
  have HB2 : Hid (Below B w w2) := Lib.hid (HB1.out.trans (hb2.mono (by rw [HTT.out]; exact hB1)))
  clear ht2 hb2 hp HNT
  by_cases hbig : 2000 < n
  · have HAW := Lib.hid (xawake_any w2)
    have hbi : (2000 : Int) < n := by omega
    go_wp2_with fail
    refine HAW.out.mono ?_
    rintro e w3 ⟨rfl, hb3⟩
    go_wp2
    go_ret
    refine ⟨rfl, ?_⟩
    rw [← HB.out]
    exact HB2.out.trans (hb3.mono (by rw [HB.out]; exact HB2.out.size))
  · have hsm : n ≤ 2000 := by omega
    clear hbig
    go_wp2_with fail
    go_loopw [11] (fun i wr => ∃ k : Nat, k ≤ n ∧ i = .int .i64 k ∧ Hid (∃ S T, Pair B B t ra rb S T (xs.take k) wr) ∧ Hid (Below B w wr)) (fun i _ => n - (intOf i).toNat)
    case atStart => exact ⟨0, Nat.zero_le _, rfl, HP, HB2⟩
    case round =>
      obtain ⟨k, hk, rfl, HPK, HBK⟩ := hrel
      by_cases hlt : k < n
      · obtain ⟨hl, b, off, rfl, hbw, hcell⟩ := HT.out.at hlt
        have hcell' := (HBK.out.cell (p := ⟨b, off + k, none⟩) (by show b < B; rw [HB.out]; exact hbw)).trans hcell
        obtain ⟨S, T, hP⟩ := HPK.out
        have htl : (xs.take k).length < 100000 := by rw [List.length_take]; omega
        have htk : xs.take k ++ [xs[k]] = xs.take (k + 1) := (List.take_succ_eq_append_getElem hl).symm
        have hadd := so_add B B ra S _ xs[k] wr hP.s htl (HZ.out _ (List.getElem_mem hl))
        have hadd2 : ∀ w3, SoSt B t rb T (xs.take k) w3 → Calls Try.prog 11 #[.pointer (some ⟨t, 0, none⟩), .string xs[k]] w3 (Added B t rb T (xs.take k) xs[k] w3) := fun w3 h3 => so_add B t rb T _ xs[k] w3 h3 htl (HZ.out _ (List.getElem_mem hl))
        have HADD := Lib.hid hadd
        have HADD2 := Lib.hid hadd2
        have HPP := Lib.hid hP
        have HTK := Lib.hid htk
        have hkn : (k : Int) < n := by omega
        obtain ⟨x, hx⟩ : ∃ x, x = xs[k] := ⟨_, rfl⟩
        rw [← hx] at hcell hcell' HADD HADD2 HTK
        clear hl hadd hadd2 htk hx htl hP HPK
        go_wp2_with fail
        refine HADD.out.mono ?_
        rintro e w3 ⟨rfl, hb3, S3, hs3, hsub3, hk3⟩
        have ht3 : SoSt B t rb T (xs.take k) w3 := HPP.out.t.other (S' := S) (fun j hj hS => HPP.out.apart j hS hj) hb3.size hk3
        have hap3 : ∀ j, S3 j → ¬ T j := fun j hj hT' => by
          rcases hsub3 j hj with h | h
          · exact HPP.out.apart j h hT'
          · have := (HPP.out.t.low j hT').2; omega
        have HB3 := Lib.hid (HBK.out.trans hb3)
        have hc3 := (HB3.out.cell (p := ⟨b, off + k, none⟩) (by show b < B; rw [HB.out]; exact hbw)).trans hcell
        have HA2 := Lib.hid (HADD2.out w3 ht3)
        have HS3 := Lib.hid hs3; have HT3 := Lib.hid ht3; have HAP := Lib.hid hap3
        clear hb3 hs3 hsub3 hk3 ht3 hap3 HADD HADD2 HPP hcell'
        go_wp2_with fail
        refine HA2.out.mono ?_
        rintro e w4 ⟨rfl, hb4, T4, ht4, hsub4, hk4⟩
        have hs4 : SoSt B B ra S3 (xs.take k ++ [x]) w4 := HS3.out.other (S' := T) HAP.out hb4.size hk4
        have HP4 : Hid (∃ S T, Pair B B t ra rb S T (xs.take (k + 1)) w4) := Lib.hid ⟨S3, T4, by
          rw [← HTK.out]
          refine ⟨hs4, ht4, fun j hj hT' => ?_⟩
          rcases hsub4 j hT' with h | h
          · exact HAP.out j hj h
          · have := (HS3.out.low j hj).2; omega⟩
        have HB4 := Lib.hid (HB3.out.trans hb4)
        clear hb4 ht4 hsub4 hk4 hs4 HS3 HT3 HAP HA2 hcell hc3 hbw
        go_wp2
        go_roundw
        case rel => exact ⟨k + 1, by omega, by go_num, HP4, HB4⟩
        case measure => simp [intOf]; omega
      · obtain rfl : k = n := by omega
        have hall : xs.take k = xs := by rw [HNN.out, List.take_length]
        obtain ⟨S, T, hP⟩ := HPK.out
        rw [hall] at hP
        have hl9 : xs.length ≤ 100000 := by rw [← HNN.out]; omega
        have HSD := Lib.hid (so_sorted B B ra S xs wr hP.s hl9)
        have HPP := Lib.hid hP
        have HTD : Hid (∀ w3, SoSt B t rb T xs w3 → Calls Try.prog 13 #[.pointer (some ⟨t, 0, none⟩)] w3 (Told B t T xs w3)) := Lib.hid (fun w3 h3 => so_sorted B t rb T xs w3 h3 hl9)
        clear hP hall HPK hl9
        go_wp2_with fail
        refine HSD.out.mono ?_
        rintro e w3 ⟨v3, rfl, hs3, -, hb3, hk3⟩
        obtain ⟨a3, c3, rfl⟩ := hs3.shape
        rw [srtS_len, ← HNN.out] at hs3 ⊢
        have ht3 : SoSt B t rb T xs w3 := HPP.out.t.other (S' := S) (fun j hj hS => HPP.out.apart j hS hj) hb3.size hk3
        have HT2 := Lib.hid (HTD.out w3 ht3)
        have HS3 := Lib.hid hs3
        have HB3 := Lib.hid (HBK.out.trans hb3)
        clear hs3 hb3 hk3 ht3 HTD HSD
        go_wp2_with fail
        refine HT2.out.mono ?_
        rintro e w4 ⟨v4, rfl, hs4, -, hb4, hk4⟩
        obtain ⟨a4, n4, c4, rfl⟩ : ∃ a n c, v4 = .slice a n c := by obtain ⟨a, c, e⟩ := hs4.shape; exact ⟨_, _, _, e⟩
        have hx4 : Strs wr.heap.size w4 (.slice a3 k c3) (srtS xs) := ownsRow_of_block HS3.out fun j hj => hk4 j (HS3.out.lt j hj).2 (fun hT' => by have := (HPP.out.t.low j hT').2; have := (HS3.out.lt j hj).1; omega)
        have hl9 : (srtS xs).length ≤ 9223372036854775807 := by rw [srtS_len, ← HNN.out]; omega
        have HSM := Lib.hid (xsame_yes _ _ (srtS xs) w4 hx4.texts hs4.texts hl9)
        have HX4 := Lib.hid hx4
        have HB4 := Lib.hid (HB3.out.trans hb4)
        have HL9 := Lib.hid hl9
        clear hx4 hs4 hb4 hk4 hl9 HT2 HS3 HPP
        go_wp2_with fail
        refine HSM.out.mono ?_
        rintro e w5 ⟨rfl, q5, hw5⟩
        have HX5 : Hid (Strs wr.heap.size w5 (.slice a3 k c3) (srtS xs)) := Lib.hid (by rw [← hw5]; exact HX4.out.below (below_drewN w4 q5))
        have HB5 : Hid (Below B w w5) := Lib.hid (by rw [← hw5]; exact HB4.out.trans ((below_drewN w4 q5).mono (by rw [HB.out]; exact HB4.out.size)))
        have hri := xrises_any _ (srtS xs) w5 HX5.out.texts HL9.out
        rw [decide_eq_true (srtS_rise xs)] at hri
        have HRI := Lib.hid hri
        clear hw5 hri HSM
        go_wp2_with fail
        refine HRI.out.mono ?_
        rintro e w6 ⟨rfl, q6, hw6⟩
        have HB6 : Hid (Below B w w6) := Lib.hid (by rw [← hw6]; exact HB5.out.trans ((below_drewN w5 q6).mono (by rw [HB.out]; exact HB5.out.size)))
        have HAW := Lib.hid (xawake_any w6)
        have hkk : ((k : Int) == k) = true := by simp
        clear hw6 HRI
        go_wp2_with fail
        refine HAW.out.mono ?_
        rintro e w7 ⟨rfl, hb7⟩
        go_wp2
        go_ret
        refine ⟨rfl, ?_⟩
        rw [← HB.out]
        exact HB6.out.trans (hb7.mono (by rw [HB.out]; exact HB6.out.size))
end Go.Proofs.Ytgegljbocacdnaa
