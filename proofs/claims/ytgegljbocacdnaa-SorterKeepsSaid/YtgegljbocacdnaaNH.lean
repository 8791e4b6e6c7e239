/- SorterSorts' walk. -/
import Derived.Test.YtgegljbocacdnaaNF
import Derived.Test.YtgegljbocacdnaaOW
set_option maxRecDepth 100000
namespace Go.Proofs.Ytgegljbocacdnaa
open Go.RowKit

theorem runs_count (n r : Nat) (hr : 1 ≤ r) : (n + r - 1) / r = if 0 < n % r then n / r + 1 else n / r := by
  have h := Nat.div_add_mod n r
  have hm := Nat.mod_lt n (by omega : r > 0)
  obtain ⟨D, hD⟩ : ∃ D, D = n / r := ⟨_, rfl⟩
  obtain ⟨M, hM⟩ : ∃ M, M = n % r := ⟨_, rfl⟩
  rw [← hD, ← hM] at h
  rw [← hM] at hm
  rw [← hD, ← hM]
  by_cases h0 : 0 < M
  · rw [if_pos h0]
    have e : n + r - 1 = (M - 1) + r * (D + 1) := by rw [Nat.mul_add, Nat.mul_one]; omega
    rw [e, Nat.add_mul_div_left _ _ (by omega), Nat.div_eq_of_lt (by omega)]; omega
  · rw [if_neg h0]
    have e : n + r - 1 = (r - 1) + r * D := by omega
    rw [e, Nat.add_mul_div_left _ _ (by omega), Nat.div_eq_of_lt (by omega)]; omega

set_option maxHeartbeats 3200000 in
theorem sorts_bad (room : Int) (v : Value) (xs : List ByteArray) (w : World) (hT : TextC w v xs) (h : room < 1 ∨ 65536 < room) :
    Calls Try.prog 3 #[.int .i64 room, v] w fun e w' => e = .returned (.bool true) ∧ Below w.heap.size w w' := by
  have HN := Lib.hid (soNew_bad room w h)
  have HAW := Lib.hid (xawake_any w)
  obtain ⟨a, c, rfl, -⟩ := hT
  obtain ⟨n, hn⟩ : ∃ n, n = xs.length := ⟨_, rfl⟩
  rw [← hn]
  clear hn
  rcases (by omega : room < 1 ∨ (1 ≤ room ∧ 65536 < room)) with h | ⟨h1, h⟩
  all_goals
    go_enter Try.func3, Try.ntmps3
    go_wp2_with fail
    refine HN.out.mono ?_
    rintro e w1 ⟨rfl, rfl⟩
    go_wp2_with fail
    refine HAW.out.mono ?_
    rintro e w1 ⟨rfl, hb1⟩
    go_wp2
    go_ret
    exact ⟨rfl, hb1⟩

set_option maxHeartbeats 3200000 in
theorem sorts_big (room : Nat) (v : Value) (xs : List ByteArray) (w : World) (hT : TextC w v xs) (h1 : 1 ≤ room) (h2 : room ≤ 65536) (hbig : 2000 < xs.length) :
    Calls Try.prog 3 #[.int .i64 room, v] w fun e w' => e = .returned (.bool true) ∧ Below w.heap.size w w' := by
  have HN := Lib.hid (so_new w.heap.size room w h1 h2 (Nat.le_refl _))
  obtain ⟨a, c, rfl, -⟩ := hT
  obtain ⟨n, hn⟩ : ∃ n, n = xs.length := ⟨_, rfl⟩
  rw [← hn] at hbig ⊢
  clear hn
  have i1 : (1 : Int) ≤ room := by omega
  have i2 : (room : Int) ≤ 65536 := by omega
  have i3 : (2000 : Int) < n := by omega
  go_enter Try.func3, Try.ntmps3
  go_wp2_with fail
  refine HN.out.mono ?_
  rintro e w1 ⟨rfl, -, hb1⟩
  have HAW := Lib.hid (xawake_any w1)
  have HB1 := Lib.hid hb1
  clear hb1
  go_wp2_with fail
  refine HAW.out.mono ?_
  rintro e w2 ⟨rfl, hb2⟩
  go_wp2
  go_ret
  exact ⟨rfl, HB1.out.trans (hb2.mono HB1.out.size)⟩

theorem TextC.at {w : World} {a : Option Addr} {n c : Nat} {rs : List ByteArray} (h : TextC w (.slice a n c) rs) {k : Nat} (hk : k < n) : ∃ (hl : k < rs.length) (b off : Nat), a = some ⟨b, off, none⟩ ∧ b < w.heap.size ∧ w.cell? ⟨b, off + k, none⟩ = some (.string rs[k]) := by
  obtain ⟨a', c', h1, _, _, h2⟩ := h
  injection h1 with h1 h3 _
  subst h1 h3
  rcases h2 with rfl | ⟨b, off, rfl, hb, h4⟩
  · simp at hk
  · exact ⟨hk, b, off, rfl, hb, h4 k hk⟩

set_option maxHeartbeats 6400000 in
theorem sorts_good (room : Nat) (v : Value) (xs : List ByteArray) (w : World) (hT : TextC w v xs) (hz : Szd xs) (h1 : 1 ≤ room) (h2 : room ≤ 65536) (hsm : xs.length ≤ 2000) :
    Calls Try.prog 3 #[.int .i64 room, v] w fun e w' => e = .returned (.bool true) ∧ Below w.heap.size w w' := by
  have HN := Lib.hid (so_new w.heap.size room w h1 h2 (Nat.le_refl _))
  obtain ⟨a, c, rfl, -⟩ := id hT
  obtain ⟨n, hn⟩ : ∃ n, n = xs.length := ⟨_, rfl⟩
  rw [← hn] at hsm hT ⊢
  have HT := Lib.hid hT
  have HZ := Lib.hid hz
  have HNN := Lib.hid hn
  have HCNT := Lib.hid (runs_count n room h1)
  obtain ⟨D, hD⟩ : ∃ D, D = n / room := ⟨_, rfl⟩
  have hDi : (n : Int) / (room : Int) = (D : Int) := by rw [hD]; rfl
  have hD9 : D ≤ 2000 := by rw [hD]; exact Nat.le_trans (Nat.div_le_self _ _) hsm
  obtain ⟨M, hM⟩ : ∃ M, M = n % room := ⟨_, rfl⟩
  have hMi : (n : Int) % (room : Int) = (M : Int) := by rw [hM]; rfl
  rw [← hD, ← hM] at HCNT
  have HDI := Lib.hid hDi; have HMI := Lib.hid hMi
  have i1 : (1 : Int) ≤ room := by omega
  have i2 : (room : Int) ≤ 65536 := by omega
  have i0 : ¬ (room : Int) = 0 := by omega
  have i3 : (n : Int) ≤ 2000 := by omega
  obtain ⟨s, hs⟩ : ∃ s, s = w.heap.size := ⟨_, rfl⟩
  rw [← hs] at HN
  have HS := Lib.hid hs
  clear hT hz hn hD hM hDi hMi hs
  go_enter Try.func3, Try.ntmps3
  go_wp2_with fail
  refine HN.out.mono ?_
  rintro e w1 ⟨rfl, hso, hb1⟩
  have HSO : Hid (∃ S, SoSt s s room S (xs.take 0) w1) := Lib.hid ⟨_, hso⟩
  have HB1 := Lib.hid hb1
  clear hso hb1 HN
  go_wp2_with fail
  go_loopw [7] (fun i wr => ∃ k : Nat, k ≤ n ∧ i = .int .i64 k ∧ Hid (∃ S, SoSt s s room S (xs.take k) wr) ∧ Hid (Below s w wr)) (fun i _ => n - (intOf i).toNat)
  case atStart => exact ⟨0, Nat.zero_le _, rfl, HSO, HB1⟩
  case round =>
    obtain ⟨k, hk, rfl, HSK, HB⟩ := hrel
    by_cases hlt : k < n
    · obtain ⟨hl, b, off, rfl, hbw, hcell⟩ := HT.out.at hlt
      have hcell' := (HB.out.cell (p := ⟨b, off + k, none⟩) (by show b < s; rw [HS.out]; exact hbw)).trans hcell
      obtain ⟨S, hS⟩ := HSK.out
      have htl : (xs.take k).length < 100000 := by rw [List.length_take]; omega
      have hadd := so_add s s room S _ xs[k] wr hS htl (HZ.out _ (List.getElem_mem hl))
      have htk : xs.take k ++ [xs[k]] = xs.take (k + 1) := (List.take_succ_eq_append_getElem hl).symm
      have HADD : Hid (Calls Try.prog 11 #[.pointer (some ⟨s, 0, none⟩), .string xs[k]] wr fun e w' => e = .returned (.int .i64 0) ∧ Below s wr w' ∧ ∃ S, SoSt s s room S (xs.take (k + 1)) w') := Lib.hid (hadd.mono fun e w' ⟨e1, e2, S', e3, _⟩ => ⟨e1, e2, S', by rw [← htk]; exact e3⟩)
      have hkn : (k : Int) < n := by omega
      obtain ⟨x, hx⟩ : ∃ x, x = xs[k] := ⟨_, rfl⟩
      rw [← hx] at hcell' HADD
      clear hl hcell hS hadd htk hx htl
      go_wp2_with fail
      refine HADD.out.mono ?_
      rintro e w2 ⟨rfl, hb2, hs2⟩
      have HB2 := Lib.hid (HB.out.trans hb2)
      have HS2 := Lib.hid hs2
      clear hb2 hs2 HADD
      go_wp2
      go_roundw
      case rel => exact ⟨k + 1, by omega, by go_num, HS2, HB2⟩
      case measure => simp [intOf]; omega
    · obtain rfl : k = n := by omega
      have hall : xs.take k = xs := by rw [HNN.out, List.take_length]
      obtain ⟨S, hS⟩ := HSK.out
      rw [hall] at hS
      have hruns := so_runs s s room S xs wr hS h1 h2 (by rw [← HNN.out]; omega)
      rw [← HNN.out, HCNT.out] at hruns
      have HSS := Lib.hid hS
      have hDD := HDI.out
      have hMM := HMI.out
      clear hS HSK hall
      by_cases hm0 : 0 < M
      · rw [if_pos hm0] at hruns
        have HRU := Lib.hid hruns
        have hm0i : (0 : Int) < M := by omega
        have hDc : ((D + 1 : Nat) : Int) = (D : Int) + 1 := by omega
        rw [hDc] at HRU
        clear hruns hDc
        go_wp2_with fail
        refine HRU.out.mono ?_
        rintro e w3 ⟨rfl, q3, hw3⟩
        have hs3 : SoSt s s room S xs w3 := by rw [← hw3]; exact HSS.out.below (below_drewN wr q3)
        have HB3 : Hid (Below s w w3) := Lib.hid (by rw [← hw3]; exact HB.out.trans ((below_drewN wr q3).mono HSS.out.ge))
        have HSD := Lib.hid (so_sorted s s room S xs w3 hs3 (by rw [← HNN.out]; omega))
        have hge3 := hs3.ge
        clear hw3 hs3 HRU HSS
        go_wp2_with fail
        refine HSD.out.mono ?_
        rintro e w4 ⟨v4, rfl, hs4, ho4, hb4, -⟩
        obtain ⟨a4, n4, c4, rfl⟩ : ∃ a n c, v4 = .slice a n c := by obtain ⟨a, c, e⟩ := hs4.shape; exact ⟨_, _, _, e⟩
        have HB4 := Lib.hid (HB3.out.trans hb4)
        have HSR := Lib.hid (soSorted_ref (.pointer (some ⟨s, 0, none⟩)) 5 w4 (soRefuses_at s true w4 ho4.2.1 ho4.2.2) (by decide))
        have HO4 := Lib.hid ho4
        have HS4 := Lib.hid hs4
        have hz4 := HB4.out.size
        have hsz : s ≤ w4.heap.size := by rw [HS.out]; exact hz4
        have HSO4 := Lib.hid (xsorted_any _ xs w4 (HT.out.below HB4.out (by rw [HS.out]; exact Nat.le_refl _)).texts (by rw [← HNN.out]; omega))
        clear hs4 ho4 hb4 HSD
        go_wp2_with fail
        refine HSR.out.mono ?_
        rintro e w5 ⟨rfl, rfl⟩
        go_wp2_with fail
        refine HSO4.out.mono ?_
        rintro e w6 ⟨v6, rfl, hs6, hb6⟩
        have HB6 := Lib.hid (HB4.out.trans (hb6.mono hsz))
        have HO6 := Lib.hid (HO4.out.below hb6)
        have HSM := Lib.hid (xsame_yes _ v6 (srtS xs) w6 (HS4.out.below hb6).texts hs6.texts (by rw [srtS_len, ← HNN.out]; omega))
        clear hs6 hb6 HSO4 HSR
        go_wp2_with fail
        refine HSM.out.mono ?_
        rintro e w7 ⟨rfl, q7, hw7⟩
        have ho7 : SoOver s w7 := by rw [← hw7]; exact HO6.out.below (below_drewN w6 q7)
        have HB7 : Hid (Below s w w7) := Lib.hid (by rw [← hw7]; exact HB6.out.trans ((below_drewN w6 q7).mono (by rw [HS.out]; exact HB6.out.size)))
        have HAD := Lib.hid (soAdd_ref (.pointer (some ⟨s, 0, none⟩)) ⟨#[120]⟩ 5 w7 (soRefuses_at s true w7 ho7.2.1 ho7.2.2) (by decide))
        have HAW := Lib.hid (xawake_any w7)
        clear ho7 hw7 HSM
        go_wp2_with fail
        refine HAD.out.mono ?_
        rintro e w8 ⟨rfl, rfl⟩
        go_wp2_with fail
        refine HAW.out.mono ?_
        rintro e w9 ⟨rfl, hb9⟩
        go_wp2
        go_ret
        refine ⟨rfl, ?_⟩
        rw [← HS.out]
        exact HB7.out.trans (hb9.mono (by rw [HS.out]; exact HB7.out.size))
      · rw [if_neg hm0] at hruns
        have HRU := Lib.hid hruns
        have hm0i : M = 0 := by omega
        clear hruns hm0
        go_wp2_with fail
        refine HRU.out.mono ?_
        rintro e w3 ⟨rfl, q3, hw3⟩
        have hs3 : SoSt s s room S xs w3 := by rw [← hw3]; exact HSS.out.below (below_drewN wr q3)
        have HB3 : Hid (Below s w w3) := Lib.hid (by rw [← hw3]; exact HB.out.trans ((below_drewN wr q3).mono HSS.out.ge))
        have HSD := Lib.hid (so_sorted s s room S xs w3 hs3 (by rw [← HNN.out]; omega))
        have hge3 := hs3.ge
        clear hw3 hs3 HRU HSS
        go_wp2_with fail
        refine HSD.out.mono ?_
        rintro e w4 ⟨v4, rfl, hs4, ho4, hb4, -⟩
        obtain ⟨a4, n4, c4, rfl⟩ : ∃ a n c, v4 = .slice a n c := by obtain ⟨a, c, e⟩ := hs4.shape; exact ⟨_, _, _, e⟩
        have HB4 := Lib.hid (HB3.out.trans hb4)
        have HSR := Lib.hid (soSorted_ref (.pointer (some ⟨s, 0, none⟩)) 5 w4 (soRefuses_at s true w4 ho4.2.1 ho4.2.2) (by decide))
        have HO4 := Lib.hid ho4
        have HS4 := Lib.hid hs4
        have hz4 := HB4.out.size
        have hsz : s ≤ w4.heap.size := by rw [HS.out]; exact hz4
        have HSO4 := Lib.hid (xsorted_any _ xs w4 (HT.out.below HB4.out (by rw [HS.out]; exact Nat.le_refl _)).texts (by rw [← HNN.out]; omega))
        clear hs4 ho4 hb4 HSD
        go_wp2_with fail
        refine HSR.out.mono ?_
        rintro e w5 ⟨rfl, rfl⟩
        go_wp2_with fail
        refine HSO4.out.mono ?_
        rintro e w6 ⟨v6, rfl, hs6, hb6⟩
        have HB6 := Lib.hid (HB4.out.trans (hb6.mono hsz))
        have HO6 := Lib.hid (HO4.out.below hb6)
        have HSM := Lib.hid (xsame_yes _ v6 (srtS xs) w6 (HS4.out.below hb6).texts hs6.texts (by rw [srtS_len, ← HNN.out]; omega))
        clear hs6 hb6 HSO4 HSR
        go_wp2_with fail
        refine HSM.out.mono ?_
        rintro e w7 ⟨rfl, q7, hw7⟩
        have ho7 : SoOver s w7 := by rw [← hw7]; exact HO6.out.below (below_drewN w6 q7)
        have HB7 : Hid (Below s w w7) := Lib.hid (by rw [← hw7]; exact HB6.out.trans ((below_drewN w6 q7).mono (by rw [HS.out]; exact HB6.out.size)))
        have HAD := Lib.hid (soAdd_ref (.pointer (some ⟨s, 0, none⟩)) ⟨#[120]⟩ 5 w7 (soRefuses_at s true w7 ho7.2.1 ho7.2.2) (by decide))
        have HAW := Lib.hid (xawake_any w7)
        clear ho7 hw7 HSM
        go_wp2_with fail
        refine HAD.out.mono ?_
        rintro e w8 ⟨rfl, rfl⟩
        go_wp2_with fail
        refine HAW.out.mono ?_
        rintro e w9 ⟨rfl, hb9⟩
        go_wp2
        go_ret
        refine ⟨rfl, ?_⟩
        rw [← HS.out]
        exact HB7.out.trans (hb9.mono (by rw [HS.out]; exact HB7.out.size))

theorem sorts_walk (room : Int) (v : Value) (xs : List ByteArray) (w : World) (hT : TextC w v xs) (hz : Szd xs) :
    Calls Try.prog 3 #[.int .i64 room, v] w fun e w' => e = .returned (.bool true) ∧ Below w.heap.size w w' := by
  by_cases h : room < 1 ∨ 65536 < room
  · exact sorts_bad room v xs w hT h
  · obtain ⟨r, rfl⟩ : ∃ r : Nat, room = r := ⟨room.toNat, by omega⟩
    by_cases hb : 2000 < xs.length
    · exact sorts_big r v xs w hT (by omega) (by omega) hb
    · exact sorts_good r v xs w hT hz (by omega) (by omega) (by omega)
end Go.Proofs.Ytgegljbocacdnaa
