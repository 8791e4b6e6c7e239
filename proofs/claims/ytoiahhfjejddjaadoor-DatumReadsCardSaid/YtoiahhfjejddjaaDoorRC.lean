/- The contract of the reference's Number: the number of a printed integer, and of no other text. -/
import Derived.Test.YtoiahhfjejddjaaDoorRB
set_option maxRecDepth 100000
namespace Go.Proofs.YtoiahhfjejddjaaDoor
open Go Go.RowKit

/-- What Number leaves. -/
def NumPost (s : List UInt8) (e : Ending) : Prop :=
  (∃ n, I64 n ∧ s = Lib.itoa n ∧ e = .returned (.tuple #[.int .i64 n, .bool true])) ∨ (∃ n, I64 n ∧ e = .returned (.tuple #[.int .i64 n, .bool false]) ∧ ∀ n, I64 n → Lib.itoa n ≠ s)

theorem itoa_pos {s : List UInt8} (hs : s.length ≤ 1 ∨ s.head? ≠ some 45) {n : Int} (hn : I64 n) (h : Lib.itoa n = s) : ∃ u : Nat, s = Lib.decDigits u ∧ u ≤ 9223372036854775807 := by
  unfold Lib.itoa at h
  split at h
  · exfalso
    obtain ⟨c, r, h'⟩ := decDigits_ne n.natAbs
    rw [h'] at h
    rw [← h] at hs
    rcases hs with hs | hs
    · simp at hs
    · simp at hs
  · obtain ⟨h1, h2⟩ := hn
    exact ⟨n.toNat, h.symm, by omega⟩

set_option maxHeartbeats 3200000 in
theorem number_pos (s : ByteArray) (w : World) (hs : s.size ≤ 140737488355328) (hp : s.data.toList.length ≤ 1 ∨ s.data.toList.head? ≠ some 45) : Calls Tryd.prog 66 #[.string s] w fun e w' => NumPost s.data.toList e ∧ w' = w := by
  have HLEN := Lib.hid (toList_size s)
  have HK : Hid (∀ n, I64 n → Lib.itoa n = s.data.toList → ∃ u : Nat, s.data.toList = Lib.decDigits u ∧ u ≤ 9223372036854775807) := Lib.hid (fun n hn h => itoa_pos hp hn h)
  match hl : s.data.toList with
  | [] =>
    obtain rfl : s = ⟨#[]⟩ := ByteArray.ext (by simpa using hl)
    clear hl hp
    go_enter Tryd.func66, Tryd.ntmps66
    go_wp2
    go_ret2
    refine ⟨.inr ⟨0, ⟨by decide, by decide⟩, rfl, fun n _ => ?_⟩, rfl⟩
    exact itoa_ne n
  | c :: r =>
    rw [← hl]
    have hsz := size_cons hl
    have h0 : 0 < s.size := by omega
    have hf := first_cons hl h0
    have hz2 : s.toList ≠ [] := by rw [ByteArray.toList_eq, hl]; simp
    have hz3 : s.toList.isEmpty = false := by rw [ByteArray.toList_eq, hl]; rfl
    have hbelow : ¬ 1 < s.size ∨ ((s[0].toNat : Int) == 45) = false := by
      by_cases h1 : 1 < s.size
      · rcases hp with hp | hp
        · have := HLEN.out
          omega
        · refine .inr ?_
          rw [hf]
          exact u8_not (c := 45) (fun e => hp (by rw [hl, e]; rfl))
      · exact .inl h1
    by_cases hlead : 1 < s.size ∧ c = 48
    · obtain ⟨h1, h48⟩ := hlead
      have b48 : ((s[0].toNat : Int) == 48) = true := by rw [hf, h48]; rfl
      have b45 : ((s[0].toNat : Int) == 45) = false := by rw [hf, h48]; rfl
      have HN : Hid (∀ n, I64 n → Lib.itoa n ≠ s.data.toList) := Lib.hid (fun n hn h => by
        obtain ⟨u, h2, _⟩ := HK.out n hn h
        rw [hl, h48] at h2
        by_cases hu : 1 ≤ u
        · exact dec_head u u (Nat.le_refl _) hu _ _ h2.symm rfl
        · obtain rfl : u = 0 := by omega
          rw [dec_small (by omega)] at h2
          injection h2 with _ h2
          have : s.size = 1 := by rw [hsz, h2]; rfl
          omega)
      clear hl hf hp hbelow
      go_enter Tryd.func66, Tryd.ntmps66
      go_wp2
      go_ret2
      exact ⟨.inr ⟨0, ⟨by decide, by decide⟩, rfl, HN.out⟩, rfl⟩
    · have HH : Hid (1 < s.size → c ≠ 48) := Lib.hid (fun h e => hlead ⟨h, e⟩)
      have b48 : ¬ 1 < s.size ∨ ((s[0].toNat : Int) == 48) = false := by
        by_cases h1 : 1 < s.size
        · exact .inr (by rw [hf]; exact u8_not (c := 48) (HH.out h1))
        · exact .inl h1
      have HS := Lib.hid hl
      have HSZ := Lib.hid hsz
      clear hl hf hp hlead hsz
      have hcase : s.size = 1 ∨ (1 < s.size ∧ ((s[0].toNat : Int) == 45) = false ∧ ((s[0].toNat : Int) == 48) = false) := by
        by_cases h1 : 1 < s.size
        · refine .inr ⟨h1, ?_, ?_⟩
          · rcases hbelow with h | h
            · exact absurd h1 h
            · exact h
          · rcases b48 with h | h
            · exact absurd h1 h
            · exact h
        · exact .inl (by omega)
      clear hbelow b48
      rcases hcase with h1 | ⟨h1, b45, b48⟩
      all_goals
        go_enter Tryd.func66, Tryd.ntmps66
        go_wp2
        go_loop [6, 7, 8] (fun n i _ => ∃ j N : Nat, j ≤ s.size ∧ i = .int .i64 j ∧ n = .int .i64 (-(N : Int)) ∧ N ≤ 9223372036854775808 ∧ Hid (N = valD (s.data.toList.take j)) ∧ Hid (∀ c ∈ s.data.toList.take j, 48 ≤ c.toNat ∧ c.toNat ≤ 57) ∧ Hid (j = 0 ∨ Lib.decDigits (valD (s.data.toList.take j)) = s.data.toList.take j)) (fun _ i _ => s.size - (intOf i).toNat)
        case atStart => exact ⟨0, 0, by omega, rfl, rfl, by omega, Lib.hid (by simp [valD]), Lib.hid (by simp), Lib.hid (.inl rfl)⟩
        case round =>
          obtain ⟨j, N, hj, rfl, rfl, hN, HV, HP, HD⟩ := hrel
          by_cases hlt : j < s.size
          · have HT := Lib.hid (take_snoc s j hlt)
            have hcu := s[j].toNat_lt
            have hVs : Hid (valD (s.data.toList.take (j + 1)) = N * 10 + (s[j].toNat - 48)) := Lib.hid (by rw [HT.out, valD_snoc, ← HV.out])
            have hLe : Hid (valD (s.data.toList.take (j + 1)) ≤ valD s.data.toList) := Lib.hid (by
              have := valD_le (s.data.toList.drop (j + 1)) (s.data.toList.take (j + 1))
              rwa [List.take_append_drop] at this)
            by_cases hdig : 48 ≤ s[j].toNat ∧ s[j].toNat ≤ 57
            · by_cases hov : N * 10 + (s[j].toNat - 48) ≤ 9223372036854775808
              · have HPN : Hid (∀ c ∈ s.data.toList.take (j + 1), 48 ≤ c.toNat ∧ c.toNat ≤ 57) := Lib.hid (by
                  intro c' hc'
                  rw [HT.out, List.mem_append, List.mem_singleton] at hc'
                  rcases hc' with hc' | rfl
                  · exact HP.out c' hc'
                  · exact hdig)
                have HDN : Hid (Lib.decDigits (valD (s.data.toList.take (j + 1))) = s.data.toList.take (j + 1)) := Lib.hid (by
                  rw [HT.out]
                  refine dec_snoc ?_ hdig.1 hdig.2
                  rcases HD.out with rfl | h
                  · exact .inl List.take_zero
                  · by_cases hj0 : j = 0
                    · subst hj0; exact .inl List.take_zero
                    · refine .inr ⟨h, ?_⟩
                      obtain ⟨q, rfl⟩ : ∃ q, j = q + 1 := ⟨j - 1, by omega⟩
                      have h48 := (HP.out c (by rw [HS.out]; simp)).1
                      rw [HS.out, List.take_succ_cons]
                      exact valD_pos h48 (HH.out (by omega)))
                obtain ⟨g1, g2⟩ := hdig
                have a1 : ¬ (s[j].toNat : Int) - 48 < 0 := by omega
                have a2 : ¬ 9 < (s[j].toNat : Int) - 48 := by omega
                have a3 : ¬ -(N : Int) < -922337203685477580 := by omega
                have hten : (-(N : Int) == -922337203685477580) = false ∨ ((-(N : Int) == -922337203685477580) = true ∧ ¬ 8 < (s[j].toNat : Int) - 48) := by
                  rw [beq_eq_false_iff_ne, beq_iff_eq]
                  omega
                rcases hten with a4 | ⟨a4, a5⟩
                all_goals
                  go_wp2
                  go_round
                  case rel =>
                    refine ⟨j + 1, N * 10 + (s[j].toNat - 48), by omega, by go_num, ?_, hov, Lib.hid hVs.out.symm, HPN, Lib.hid (.inr HDN.out)⟩
                    congr 1
                    omega
                  case measure => simp [intOf]; omega
              · have HN : Hid (∀ n, I64 n → Lib.itoa n ≠ s.data.toList) := Lib.hid (fun n hn h => by
                  obtain ⟨u, h2, h3⟩ := HK.out n hn h
                  have h4 := valD_dec u u (Nat.le_refl _)
                  rw [← h2] at h4
                  have := hLe.out
                  rw [hVs.out] at this
                  omega)
                obtain ⟨g1, g2⟩ := hdig
                have a1 : ¬ (s[j].toNat : Int) - 48 < 0 := by omega
                have a2 : ¬ 9 < (s[j].toNat : Int) - 48 := by omega
                have hten : -(N : Int) < -922337203685477580 ∨ (¬ -(N : Int) < -922337203685477580 ∧ (-(N : Int) == -922337203685477580) = true ∧ 8 < (s[j].toNat : Int) - 48) := by
                  rw [beq_iff_eq]
                  omega
                clear hov
                rcases hten with a3 | ⟨a3, a4, a5⟩
                all_goals
                  go_wp2
                  go_ret2
                  exact ⟨.inr ⟨0, ⟨by decide, by decide⟩, rfl, HN.out⟩, rfl⟩
            · have HN : Hid (∀ n, I64 n → Lib.itoa n ≠ s.data.toList) := Lib.hid (fun n hn h => by
                obtain ⟨u, h2, _⟩ := HK.out n hn h
                refine hdig (decDigits_dig u u (Nat.le_refl _) s[j] ?_)
                rw [← h2]
                exact List.getElem_mem (l := s.data.toList) (n := j) hlt)
              have hd2 : (s[j].toNat : Int) - 48 < 0 ∨ (¬ (s[j].toNat : Int) - 48 < 0 ∧ 9 < (s[j].toNat : Int) - 48) := by omega
              clear hdig
              rcases hd2 with a1 | ⟨a1, a2⟩
              all_goals
                go_wp2
                go_ret2
                exact ⟨.inr ⟨0, ⟨by decide, by decide⟩, rfl, HN.out⟩, rfl⟩
          · have htk : s.data.toList.take j = s.data.toList := List.take_of_length_le (by have := HLEN.out; omega)
            have HN1 : Hid (N = valD s.data.toList) := Lib.hid (by rw [HV.out, htk])
            have HN2 : Hid (Lib.decDigits N = s.data.toList) := Lib.hid (by
              rcases HD.out with h | h
              · omega
              · rw [htk] at h
                rw [HN1.out]
                exact h)
            clear htk
            by_cases hmax : N = 9223372036854775808
            · have HN : Hid (∀ n, I64 n → Lib.itoa n ≠ s.data.toList) := Lib.hid (fun n hn h => by
                obtain ⟨u, h2, h3⟩ := HK.out n hn h
                have h4 := valD_dec u u (Nat.le_refl _)
                rw [← h2, ← HN1.out] at h4
                omega)
              have bm : (-(N : Int) == -9223372036854775808) = true := by rw [beq_iff_eq]; omega
              clear hmax
              go_wp2
              go_ret2
              exact ⟨.inr ⟨0, ⟨by decide, by decide⟩, rfl, HN.out⟩, rfl⟩
            · have bm : (-(N : Int) == -9223372036854775808) = false := by rw [beq_eq_false_iff_ne]; omega
              have hnn : I64 (N : Int) := ⟨by omega, by omega⟩
              have HNN := Lib.hid hnn
              clear hnn
              go_wp2
              go_ret2
              refine ⟨.inl ⟨(N : Int), HNN.out, ?_, ?_⟩, rfl⟩
              · rw [Lib.itoa_nonneg, HN2.out]
              · simp
end Go.Proofs.YtoiahhfjejddjaaDoor
