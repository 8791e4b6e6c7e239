/- The law's own words on lists of texts: same, rises. -/
import Derived.Test.YtgegljbocacdnaaOT
set_option maxRecDepth 100000
namespace Go.Proofs.Ytgegljbocacdnaa
open Go.RowKit

set_option maxHeartbeats 1600000 in
theorem xsame_yes (v1 v2 : Value) (rs : List ByteArray) (w : World) (h1 : Texts w v1 rs) (h2 : Texts w v2 rs) (hn : rs.length ≤ 9223372036854775807) :
    Calls Try.prog 14 #[v1, v2] w fun e w' => e = .returned (.bool true) ∧ ∃ n, w.drewN n = w' := by
  obtain ⟨a1, c1, rfl, h1⟩ := h1
  obtain ⟨a2, c2, rfl, h2⟩ := h2
  obtain ⟨n, hn'⟩ : ∃ n, n = rs.length := ⟨_, rfl⟩
  have HC : Hid (∀ k, k < n → ∃ b1 o1 b2 o2 s, a1 = some ⟨b1, o1, none⟩ ∧ a2 = some ⟨b2, o2, none⟩ ∧ w.cell? ⟨b1, o1 + k, none⟩ = some (.string s) ∧ w.cell? ⟨b2, o2 + k, none⟩ = some (.string s)) := Lib.hid (fun k hk => by
    rw [hn'] at hk
    rcases h1 with rfl | ⟨b1, o1, e1, _, g1⟩
    · simp at hk
    · rcases h2 with rfl | ⟨b2, o2, e2, _, g2⟩
      · simp at hk
      · exact ⟨b1, o1, b2, o2, rs[k], e1, e2, g1 k hk, g2 k hk⟩)
  rw [← hn'] at hn ⊢
  clear h1 h2 hn'
  have hnn : ((n : Int) != n) = false := by simp
  go_enter Try.func14, Try.ntmps14
  go_wp2
  go_loopw [5] (fun i wr => ∃ k q : Nat, k ≤ n ∧ i = .int .i64 k ∧ wr = w.drewN q) (fun i _ => n - (intOf i).toNat)
  case atStart => exact ⟨0, 0, by omega, rfl, rfl⟩
  case round =>
    obtain ⟨k, q, hk, rfl, rfl⟩ := hrel
    by_cases hlt : k < n
    · obtain ⟨b1, o1, b2, o2, s, rfl, rfl, g1, g2⟩ := HC.out k hlt
      have hkn : (k : Int) < n := by omega
      go_wp2_with fail
      go_quiet (fail)
      go_wp2
      go_roundw
      case rel => exact ⟨k + 1, _, by omega, by go_num, rfl⟩
      case measure => simp [intOf]; omega
    · go_wp2
      go_ret
      exact ⟨rfl, _, rfl⟩

/-- '>' of texts, as it is spelled. -/
def gtB (t s : ByteArray) : Bool := !Op.bytesLess t.toList s.toList && !t.toList == s.toList
theorem gtB_iff (t s : ByteArray) : gtB t s = true ↔ ¬ leS t s := by
  unfold gtB leS le
  rw [ByteArray.toList_eq, ByteArray.toList_eq]
  simp only [Bool.and_eq_true, Bool.not_eq_true', beq_eq_false_iff_ne]
  rcases lt_tri t.data.toList s.data.toList with h | h | h
  · have h2 := lt_asymm h
    have h3 : Op.bytesLess t.data.toList s.data.toList = true := h
    simp [h2, h3]
  · rw [h]; simp [lt_irrefl]
  · have h2 := lt_asymm h
    have h3 : Op.bytesLess t.data.toList s.data.toList = false := by unfold lt at h2; simpa using h2
    have h4 : t.data.toList ≠ s.data.toList := fun e => lt_irrefl _ (e ▸ h)
    have h5 : ¬¬ lt s.data.toList t.data.toList := fun k => k h
    simp [h3, h4, h5]
theorem gt_no {t s : ByteArray} (h : leS t s) : Op.bytesLess t.toList s.toList = true ∨ (t.toList == s.toList) = true := by
  have : gtB t s = false := by
    cases hh : gtB t s
    · rfl
    · exact absurd h ((gtB_iff t s).1 hh)
  unfold gtB at this
  simp only [Bool.and_eq_false_iff, Bool.not_eq_false'] at this
  exact this
theorem gt_yes {t s : ByteArray} (h : ¬ leS t s) : Op.bytesLess t.toList s.toList = false ∧ (t.toList == s.toList) = false := by
  have := (gtB_iff t s).2 h
  unfold gtB at this
  simpa using this

set_option maxHeartbeats 1600000 in
theorem xrises_any (v : Value) (rs : List ByteArray) (w : World) (h : Texts w v rs) (hn : rs.length ≤ 9223372036854775807) :
    Calls Try.prog 16 #[v] w fun e w' => e = .returned (.bool (decide (Rise rs))) ∧ ∃ n, w.drewN n = w' := by
  obtain ⟨a, c, rfl, -⟩ := id h
  obtain ⟨n, hn'⟩ : ∃ n, n = rs.length := ⟨_, rfl⟩
  rw [← hn'] at h hn ⊢
  have HT := Lib.hid (fun k (hk : k < n) => h.at' hk)
  have HN := Lib.hid hn'
  obtain ⟨B, hB⟩ : ∃ B, B = decide (Rise rs) := ⟨_, rfl⟩
  rw [← hB]
  have HB := Lib.hid hB
  clear h hn' hB
  go_enter Try.func16, Try.ntmps16
  go_wp2
  go_loopw [3] (fun i wr => ∃ k q : Nat, i = .int .i64 ((k + 1 : Nat) : Int) ∧ (k ≤ n) ∧ Hid (wr = w.drewN q) ∧ Hid (∀ j, j < k → j + 1 < n → leS (rs.getD j ⟨#[]⟩) (rs.getD (j + 1) ⟨#[]⟩))) (fun i _ => n + 1 - (intOf i).toNat)
  case atStart => exact ⟨0, 0, rfl, Nat.zero_le _, Lib.hid rfl, Lib.hid (fun j h1 h2 => by omega)⟩
  case round =>
    obtain ⟨m, q, rfl, hm, HW, HO⟩ := hrel
    by_cases hlt : m + 1 < n
    · obtain ⟨-, b, off, rfl, -, hcell⟩ := HT.out (m + 1) (by omega)
      have c1 : wr.cell? ⟨b, off + (m + 1), none⟩ = _ := (congrArg (fun W : World => W.cell? ⟨b, off + (m + 1), none⟩) HW.out).trans (hcell (m + 1) (by omega))
      have c0 : wr.cell? ⟨b, off + m, none⟩ = _ := (congrArg (fun W : World => W.cell? ⟨b, off + m, none⟩) HW.out).trans (hcell m (by omega))
      obtain ⟨s, hs⟩ : ∃ s, s = rs.getD (m + 1) ⟨#[]⟩ := ⟨_, rfl⟩
      obtain ⟨t, ht⟩ : ∃ t, t = rs.getD m ⟨#[]⟩ := ⟨_, rfl⟩
      rw [← hs] at c1
      rw [← ht] at c0
      have HS := Lib.hid hs; have HTT := Lib.hid ht
      obtain ⟨p, hp⟩ : ∃ p, p = m + 1 := ⟨_, rfl⟩
      have hw : IntKind.i64.wrap ((p : Int) - 1) = (m : Int) := by rw [show (p : Int) - 1 = m by omega]; exact IntWalk.i64_in _ (by omega)
      rw [← hp] at c1 ⊢
      have i1 : (p : Int) < n := by omega
      have i2 : (m : Int) < n := by omega
      have HP := Lib.hid hp
      clear hs ht hcell hp
      by_cases hle : leS t s
      · have hlb := gt_no hle
        have HO2 : Hid (∀ j, j < m + 1 → j + 1 < n → leS (rs.getD j ⟨#[]⟩) (rs.getD (j + 1) ⟨#[]⟩)) := Lib.hid (fun j h1 h2 => by
          by_cases hj : j = m
          · subst hj
            rw [← HS.out, ← HTT.out]; exact hle
          · exact HO.out j (by omega) h2)
        clear hle
        rcases hlb with hlb | hlb
        all_goals
          go_wp2_with fail
          go_quiet (fail)
          go_wp2
          go_roundw
          case rel => exact ⟨m + 1, _, by rw [HP.out]; go_num, by omega, Lib.hid (by rw [HW.out, World.drewN_drewN]), HO2⟩
          case measure => have := HP.out; simp [intOf]; omega
      · obtain ⟨hlb, hlc⟩ := gt_yes hle
        have HF : Hid (false = B) := Lib.hid (by
          rw [HB.out]
          symm
          rw [decide_eq_false_iff_not]
          intro hr
          have := rise_to hr m (by have := HN.out; omega)
          rw [← HS.out, ← HTT.out] at this
          exact hle this)
        clear hle
        go_wp2_with fail
        go_quiet (fail)
        go_wp2
        go_ret
        exact ⟨congrArg (fun b => Ending.returned (.bool b)) HF.out, _, by rw [HW.out, World.drewN_drewN]⟩
    · have HF : Hid (true = B) := Lib.hid (by
        rw [HB.out]
        symm
        rw [decide_eq_true_iff]
        exact rise_of fun j hj => HO.out j (by have := HN.out; omega) (by have := HN.out; omega))
      go_wp2_with fail
      go_ret
      exact ⟨congrArg (fun b => Ending.returned (.bool b)) HF.out, _, HW.out.symm⟩
end Go.Proofs.Ytgegljbocacdnaa
