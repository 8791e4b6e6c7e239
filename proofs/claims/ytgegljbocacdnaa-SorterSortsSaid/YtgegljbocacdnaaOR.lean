/- cmp.Less and slices.IsSorted of texts. -/
import Derived.Test.YtgegljbocacdnaaON
import Derived.IntWalk
set_option maxRecDepth 100000
namespace Go.Proofs.Ytgegljbocacdnaa
open Go.RowKit

set_option maxHeartbeats 400000 in
theorem cmpNaN_any (s : ByteArray) (w : World) : Calls Try.prog 35 #[.string s] w fun e w' => e = .returned (.bool false) ∧ w = w' := by
  go_enter Try.func35, Try.ntmps35
  go_wp2
  go_ret
  exact ⟨by simp, rfl⟩
set_option maxHeartbeats 400000 in
theorem cmpLess_any (s t : ByteArray) (w : World) : Calls Try.prog 30 #[.string s, .string t] w fun e w' => e = .returned (.bool (ltB s t)) ∧ w = w' := by
  have h1 := Lib.hid (cmpNaN_any s w)
  go_enter Try.func30, Try.ntmps30
  go_wp2_with fail
  refine h1.out.mono ?_
  rintro e w1 ⟨rfl, rfl⟩
  go_wp2
  go_ret
  exact ⟨rfl, rfl⟩

instance (l : List ByteArray) : Decidable (Rise l) := inferInstanceAs (Decidable (List.Pairwise leS l))

theorem rise_of {l : List ByteArray} (h : ∀ j, j + 1 < l.length → leS (l.getD j ⟨#[]⟩) (l.getD (j + 1) ⟨#[]⟩)) : Rise l :=
  (rise_iff l).2 fun j hj => by
    have := h j hj
    rwa [List.getD_eq_getElem?_getD, List.getD_eq_getElem?_getD, List.getElem?_eq_getElem hj, List.getElem?_eq_getElem (by omega)] at this
theorem rise_to {l : List ByteArray} (h : Rise l) (j : Nat) (hj : j + 1 < l.length) : leS (l.getD j ⟨#[]⟩) (l.getD (j + 1) ⟨#[]⟩) := by
  have := (rise_iff l).1 h j hj
  rw [List.getD_eq_getElem?_getD, List.getD_eq_getElem?_getD, List.getElem?_eq_getElem hj, List.getElem?_eq_getElem (by omega)]
  exact this
theorem Texts.at' {w : World} {a : Option Addr} {n c : Nat} {rs : List ByteArray} (h : Texts w (.slice a n c) rs) {k : Nat} (hk : k < n) : n = rs.length ∧ ∃ b off, a = some ⟨b, off, none⟩ ∧ b < w.heap.size ∧ ∀ j, j < n → w.cell? ⟨b, off + j, none⟩ = some (.string (rs.getD j ⟨#[]⟩)) := by
  obtain ⟨a', c', h1, h2⟩ := h
  injection h1 with h1 h3 _
  subst h1
  refine ⟨h3, ?_⟩
  rcases h2 with rfl | ⟨b, off, rfl, hb, h3'⟩
  · simp at h3; omega
  · exact ⟨b, off, rfl, hb, fun j hj => by rw [h3' j (by omega), List.getD_eq_getElem?_getD, List.getElem?_eq_getElem (by omega)]; rfl⟩

set_option maxHeartbeats 1600000 in
theorem isSorted_any (v : Value) (rs : List ByteArray) (w : World) (h : Texts w v rs) (hn : rs.length ≤ 9223372036854775807) :
    Calls Try.prog 23 #[v] w fun e w' => e = .returned (.bool (decide (Rise rs))) ∧ ∃ n, w.drewN n = w' := by
  obtain ⟨a, c, rfl, -⟩ := id h
  obtain ⟨n, hn'⟩ : ∃ n, n = rs.length := ⟨_, rfl⟩
  rw [← hn'] at h hn ⊢
  have HT := Lib.hid (fun k (hk : k < n) => h.at' hk)
  have HN := Lib.hid hn'
  obtain ⟨B, hB⟩ : ∃ B, B = decide (Rise rs) := ⟨_, rfl⟩
  rw [← hB]
  have HB := Lib.hid hB
  clear h hn' hB
  go_enter Try.func23, Try.ntmps23
  go_wp2
  go_loopw [3] (fun i wr => ∃ k q : Nat, k ≤ n ∧ i = .int .i64 ((k : Int) - 1) ∧ Hid (wr = w.drewN q) ∧ Hid (∀ j, k ≤ j + 1 → j + 1 < n → leS (rs.getD j ⟨#[]⟩) (rs.getD (j + 1) ⟨#[]⟩))) (fun i _ => (intOf i).toNat)
  case atStart => exact ⟨n, 0, Nat.le_refl _, rfl, Lib.hid rfl, Lib.hid (fun j h1 h2 => by omega)⟩
  case round =>
    obtain ⟨k, q, hk, rfl, HW, HO⟩ := hrel
    by_cases hlt : 2 ≤ k
    · obtain ⟨m, rfl⟩ : ∃ m, k = m + 2 := ⟨k - 2, by omega⟩
      obtain ⟨-, b, off, rfl, -, hcell⟩ := HT.out (m + 1) (by omega)
      have c1 : wr.cell? ⟨b, off + (m + 1), none⟩ = _ := (congrArg (fun W : World => W.cell? ⟨b, off + (m + 1), none⟩) HW.out).trans (hcell (m + 1) (by omega))
      have c0 : wr.cell? ⟨b, off + m, none⟩ = _ := (congrArg (fun W : World => W.cell? ⟨b, off + m, none⟩) HW.out).trans (hcell m (by omega))
      have e1 : ((m + 2 : Nat) : Int) - 1 = ((m + 1 : Nat) : Int) := by omega
      rw [e1]
      obtain ⟨s, hs⟩ : ∃ s, s = rs.getD (m + 1) ⟨#[]⟩ := ⟨_, rfl⟩
      obtain ⟨t, ht⟩ : ∃ t, t = rs.getD m ⟨#[]⟩ := ⟨_, rfl⟩
      rw [← hs] at c1
      rw [← ht] at c0
      have HS := Lib.hid hs; have HTT := Lib.hid ht
      have i1 : ((m + 1 : Nat) : Int) < n := by omega
      have i2 : (m : Int) < n := by omega
      clear hs ht hcell e1
      obtain ⟨p, hp⟩ : ∃ p, p = m + 1 := ⟨_, rfl⟩
      have hw : IntKind.i64.wrap ((p : Int) - 1) = (m : Int) := by rw [show (p : Int) - 1 = m by omega]; exact IntWalk.i64_in _ (by omega)
      rw [← hp] at c1 i1 ⊢
      have hp0 : 0 < p := by omega
      have HP := Lib.hid hp
      clear hp
      by_cases hle : leS t s
      · have HC : Hid (∀ W, Calls Try.prog 30 #[.string s, .string t] W fun e w' => e = .returned (.bool false) ∧ w' = W) := Lib.hid (fun W => (cmpLess_any s t W).mono fun e w' ⟨h1, h2⟩ => ⟨by rw [h1, ltB_no hle], h2.symm⟩)
        have HO2 : Hid (∀ j, m + 1 ≤ j + 1 → j + 1 < n → leS (rs.getD j ⟨#[]⟩) (rs.getD (j + 1) ⟨#[]⟩)) := Lib.hid (fun j h1 h2 => by
          by_cases hj : j = m
          · subst hj
            rw [← HS.out, ← HTT.out]; exact hle
          · exact HO.out j (by omega) h2)
        clear hle
        go_wp2_with fail
        go_quiet ((go_at_call 30; exact Calls.quiet_of_same (HC.out _)))
        go_wp2
        go_roundw
        case rel => exact ⟨m + 1, _, by omega, by go_num, Lib.hid (by rw [HW.out, World.drewN_drewN]), HO2⟩
        case measure => have := HP.out; simp [intOf]; omega
      · have HC : Hid (∀ W, Calls Try.prog 30 #[.string s, .string t] W fun e w' => e = .returned (.bool true) ∧ w' = W) := Lib.hid (fun W => (cmpLess_any s t W).mono fun e w' ⟨h1, h2⟩ => ⟨by rw [h1, ltB_yes hle], h2.symm⟩)
        have HF : Hid (B = false) := Lib.hid (by
          rw [HB.out, decide_eq_false_iff_not]
          intro hr
          have := rise_to hr m (by have := HN.out; omega)
          rw [← HS.out, ← HTT.out] at this
          exact hle this)
        clear hle
        go_wp2_with fail
        go_quiet ((go_at_call 30; exact Calls.quiet_of_same (HC.out _)))
        go_wp2
        go_ret
        exact ⟨by rw [HF.out]; rfl, _, by rw [HW.out, World.drewN_drewN]⟩
    · have HF : Hid (true = B) := Lib.hid (by
        rw [HB.out]
        symm
        rw [decide_eq_true_iff]
        exact rise_of fun j hj => HO.out j (by omega) (by have := HN.out; omega))
      go_wp2_with fail
      go_ret
      exact ⟨congrArg (fun b => Ending.returned (.bool b)) HF.out, _, HW.out.symm⟩
end Go.Proofs.Ytgegljbocacdnaa
