/- The contract of the reference's Number, at every text. -/
import Derived.Test.YtoiahhfjejddjaaDoorRC
set_option maxRecDepth 100000
namespace Go.Proofs.YtoiahhfjejddjaaDoor
open Go Go.RowKit

theorem itoa_below {tl : List UInt8} {n : Int} (hn : I64 n) (h : Lib.itoa n = 45 :: tl) : ∃ u : Nat, tl = Lib.decDigits u ∧ 1 ≤ u ∧ u ≤ 9223372036854775808 := by
  obtain ⟨h1, h2⟩ := hn
  unfold Lib.itoa at h
  split at h
  · injection h with _ h
    exact ⟨n.natAbs, h.symm, by omega, by omega⟩
  · exfalso
    have := decDigits_dig n.toNat n.toNat (Nat.le_refl _) 45 (by rw [h]; simp)
    revert this
    decide

set_option maxHeartbeats 3200000 in
theorem number_neg (s : ByteArray) (w : World) (hs : s.size ≤ 140737488355328) (h1 : 1 < s.size) (h45 : s[0] = 45) : Calls Tryd.prog 66 #[.string s] w fun e w' => NumPost s.data.toList e ∧ w' = w := by
  have HLEN := Lib.hid (toList_size s)
  obtain ⟨T, hT⟩ : ∃ T, s.extract 1 s.size = T := ⟨_, rfl⟩
  have hTl : T.data.toList = s.data.toList.drop 1 := by rw [← hT]; exact extract_drop s 1
  have hTs : T.size = s.size - 1 := by
    have : T.data.toList.length = T.size := rfl
    rw [← this, hTl, List.length_drop, HLEN.out]
  have hsl : s.data.toList = 45 :: T.data.toList := by
    have e : s.data.toList.drop 0 = s.data.toList[0]'(by have := HLEN.out; omega) :: s.data.toList.drop 1 := List.drop_eq_getElem_cons (by have := HLEN.out; omega)
    rw [List.drop_zero, ← hTl, show s.data.toList[0]'(by have := HLEN.out; omega) = 45 from h45] at e
    exact e
  have HTLEN := Lib.hid (toList_size T)
  have HK : Hid (∀ n, I64 n → Lib.itoa n = s.data.toList → ∃ u : Nat, T.data.toList = Lib.decDigits u ∧ 1 ≤ u ∧ u ≤ 9223372036854775808) := Lib.hid (fun n hn h => itoa_below hn (by rw [h, hsl]))
  have HSL := Lib.hid hsl
  have b45 : ((s[0].toNat : Int) == 45) = true := by rw [h45]; rfl
  have hT0 : 0 < T.size := by omega
  obtain ⟨c, r, hl⟩ : ∃ c r, T.data.toList = c :: r := by
    match hl : T.data.toList with
    | [] => have := HTLEN.out; rw [hl] at this; simp only [List.length_nil] at this; omega
    | c :: r => exact ⟨c, r, rfl⟩
  have hf := first_cons hl hT0
  have hz2 : T.toList ≠ [] := by rw [ByteArray.toList_eq, hl]; simp
  have hz3 : T.toList.isEmpty = false := by rw [ByteArray.toList_eq, hl]; rfl
  have HTS := Lib.hid hTs
  clear h45 hTl hsl hTs
  by_cases h48 : c = 48
  · have b48 : ((T[0].toNat : Int) == 48) = true := by rw [hf, h48]; rfl
    have HN : Hid (∀ n, I64 n → Lib.itoa n ≠ s.data.toList) := Lib.hid (fun n hn h => by
      obtain ⟨u, h2, hu, _⟩ := HK.out n hn h
      rw [hl, h48] at h2
      exact dec_head u u (Nat.le_refl _) hu _ _ h2.symm rfl)
    clear hl hf h48
    have HTS1 := HTS.out
    have hc : T.size = 1 ∨ 1 < T.size := by omega
    clear HTS1
    rcases hc with hc | hc
    all_goals
      go_enter Tryd.func66, Tryd.ntmps66
      go_wp2
      go_ret2
      exact ⟨.inr ⟨0, ⟨by decide, by decide⟩, rfl, HN.out⟩, rfl⟩
  · have HH : Hid (c ≠ 48) := Lib.hid h48
    have b48 : ((T[0].toNat : Int) == 48) = false := by rw [hf]; exact u8_not (c := 48) h48
    have HSC := Lib.hid hl
    clear hl hf h48
    have hc : T.size = 1 ∨ 1 < T.size := by omega
    have hTmax : T.size ≤ 140737488355328 := by have := HTS.out; omega
    rcases hc with hc | hc
    all_goals
      go_enter Tryd.func66, Tryd.ntmps66
      go_wp2
      go_loop [6, 7, 8] (fun n i _ => ∃ j N : Nat, j ≤ T.size ∧ i = .int .i64 j ∧ n = .int .i64 (-(N : Int)) ∧ N ≤ 9223372036854775808 ∧ Hid (N = valD (T.data.toList.take j)) ∧ Hid (∀ c ∈ T.data.toList.take j, 48 ≤ c.toNat ∧ c.toNat ≤ 57) ∧ Hid (j = 0 ∨ Lib.decDigits (valD (T.data.toList.take j)) = T.data.toList.take j)) (fun _ i _ => T.size - (intOf i).toNat)
      case atStart => exact ⟨0, 0, by omega, rfl, rfl, by omega, Lib.hid (by simp [valD]), Lib.hid (by simp), Lib.hid (.inl rfl)⟩
      case round =>
        obtain ⟨j, N, hj, rfl, rfl, hN, HV, HP, HD⟩ := hrel
        by_cases hlt : j < T.size
        · have HT := Lib.hid (take_snoc T j hlt)
          have hcu := T[j].toNat_lt
          have hVs : Hid (valD (T.data.toList.take (j + 1)) = N * 10 + (T[j].toNat - 48)) := Lib.hid (by rw [HT.out, valD_snoc, ← HV.out])
          have hLe : Hid (valD (T.data.toList.take (j + 1)) ≤ valD T.data.toList) := Lib.hid (by
            have := valD_le (T.data.toList.drop (j + 1)) (T.data.toList.take (j + 1))
            rwa [List.take_append_drop] at this)
          by_cases hdig : 48 ≤ T[j].toNat ∧ T[j].toNat ≤ 57
          · by_cases hov : N * 10 + (T[j].toNat - 48) ≤ 9223372036854775808
            · have HPN : Hid (∀ c ∈ T.data.toList.take (j + 1), 48 ≤ c.toNat ∧ c.toNat ≤ 57) := Lib.hid (by
                intro c' hc'
                rw [HT.out, List.mem_append, List.mem_singleton] at hc'
                rcases hc' with hc' | rfl
                · exact HP.out c' hc'
                · exact hdig)
              have HDN : Hid (Lib.decDigits (valD (T.data.toList.take (j + 1))) = T.data.toList.take (j + 1)) := Lib.hid (by
                rw [HT.out]
                refine dec_snoc ?_ hdig.1 hdig.2
                rcases HD.out with rfl | h
                · exact .inl List.take_zero
                · by_cases hj0 : j = 0
                  · subst hj0; exact .inl List.take_zero
                  · refine .inr ⟨h, ?_⟩
                    obtain ⟨q, rfl⟩ : ∃ q, j = q + 1 := ⟨j - 1, by omega⟩
                    have h48 := (HP.out c (by rw [HSC.out]; simp)).1
                    rw [HSC.out, List.take_succ_cons]
                    exact valD_pos h48 HH.out)
              obtain ⟨g1, g2⟩ := hdig
              have a1 : ¬ (T[j].toNat : Int) - 48 < 0 := by omega
              have a2 : ¬ 9 < (T[j].toNat : Int) - 48 := by omega
              have a3 : ¬ -(N : Int) < -922337203685477580 := by omega
              have hten : (-(N : Int) == -922337203685477580) = false ∨ ((-(N : Int) == -922337203685477580) = true ∧ ¬ 8 < (T[j].toNat : Int) - 48) := by
                rw [beq_eq_false_iff_ne, beq_iff_eq]
                omega
              rcases hten with a4 | ⟨a4, a5⟩
              all_goals
                go_wp2
                go_round
                case rel =>
                  refine ⟨j + 1, N * 10 + (T[j].toNat - 48), by omega, by go_num, ?_, hov, Lib.hid hVs.out.symm, HPN, Lib.hid (.inr HDN.out)⟩
                  congr 1
                  omega
                case measure => simp [intOf]; omega
            · have HN : Hid (∀ n, I64 n → Lib.itoa n ≠ s.data.toList) := Lib.hid (fun n hn h => by
                obtain ⟨u, h2, _, h3⟩ := HK.out n hn h
                have h4 := valD_dec u u (Nat.le_refl _)
                rw [← h2] at h4
                have := hLe.out
                rw [hVs.out] at this
                omega)
              obtain ⟨g1, g2⟩ := hdig
              have a1 : ¬ (T[j].toNat : Int) - 48 < 0 := by omega
              have a2 : ¬ 9 < (T[j].toNat : Int) - 48 := by omega
              have hten : -(N : Int) < -922337203685477580 ∨ (¬ -(N : Int) < -922337203685477580 ∧ (-(N : Int) == -922337203685477580) = true ∧ 8 < (T[j].toNat : Int) - 48) := by
                rw [beq_iff_eq]
                omega
              clear hov
              rcases hten with a3 | ⟨a3, a4, a5⟩
              all_goals
                go_wp2
                go_ret2
                exact ⟨.inr ⟨0, ⟨by decide, by decide⟩, rfl, HN.out⟩, rfl⟩
          · have HN : Hid (∀ n, I64 n → Lib.itoa n ≠ s.data.toList) := Lib.hid (fun n hn h => by
              obtain ⟨u, h2, _, _⟩ := HK.out n hn h
              refine hdig (decDigits_dig u u (Nat.le_refl _) T[j] ?_)
              rw [← h2]
              exact List.getElem_mem (l := T.data.toList) (n := j) hlt)
            have hd2 : (T[j].toNat : Int) - 48 < 0 ∨ (¬ (T[j].toNat : Int) - 48 < 0 ∧ 9 < (T[j].toNat : Int) - 48) := by omega
            clear hdig
            rcases hd2 with a1 | ⟨a1, a2⟩
            all_goals
              go_wp2
              go_ret2
              exact ⟨.inr ⟨0, ⟨by decide, by decide⟩, rfl, HN.out⟩, rfl⟩
        · have htk : T.data.toList.take j = T.data.toList := List.take_of_length_le (by have := HTLEN.out; omega)
          have HN1 : Hid (N = valD T.data.toList) := Lib.hid (by rw [HV.out, htk])
          have HN2 : Hid (Lib.decDigits N = T.data.toList) := Lib.hid (by
            rcases HD.out with h | h
            · omega
            · rw [htk] at h
              rw [HN1.out]
              exact h)
          clear htk
          have hn1 : 1 ≤ N := by
            have h48 := (HP.out c (by rw [HSC.out, show j = (j - 1) + 1 by omega]; simp)).1
            rw [HN1.out, HSC.out]
            exact valD_pos h48 HH.out
          have hnn : I64 (-(N : Int)) := ⟨by omega, by omega⟩
          have HNN := Lib.hid hnn
          clear hnn
          go_wp2
          go_ret2
          refine ⟨.inl ⟨-(N : Int), HNN.out, ?_, rfl⟩, rfl⟩
          rw [Lib.itoa_neg N hn1, HN2.out, HSL.out]

theorem number_any (s : ByteArray) (w : World) (hs : s.size ≤ 140737488355328) : Calls Tryd.prog 66 #[.string s] w fun e w' => NumPost s.data.toList e ∧ w' = w := by
  by_cases h : ∃ h1 : 1 < s.size, s[0] = 45
  · obtain ⟨h1, h45⟩ := h
    exact number_neg s w hs h1 h45
  · refine number_pos s w hs ?_
    by_cases h1 : 1 < s.size
    · refine .inr (fun e => h ⟨h1, ?_⟩)
      match hl : s.data.toList with
      | [] => rw [hl] at e; cases e
      | c :: r =>
        rw [hl] at e
        injection e with e
        rw [← e]
        exact first_cons hl (by omega)
    · exact .inl (by have : s.data.toList.length = s.size := rfl
                     omega)
end Go.Proofs.YtoiahhfjejddjaaDoor
