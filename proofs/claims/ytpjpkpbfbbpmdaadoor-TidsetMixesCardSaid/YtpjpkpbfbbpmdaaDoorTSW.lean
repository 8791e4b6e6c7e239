/- The document's fullest page. -/
import Derived.Test.YtpjpkpbfbbpmdaaDoorTSV
set_option maxRecDepth 100000
namespace Go.Proofs.YtpjpkpbfbbpmdaaDoor.Ts
open Go Go.RowKit

theorem cnt_take {T : List Nat} {q k : Nat} (h : k < T.length) : cnt q (T.take (k + 1)) = cnt q (T.take k) + if T[k] / 64 = q then 1 else 0 := by
  rw [List.take_succ_eq_append_getElem h]
  unfold cnt onp
  rw [List.filter_append, List.length_append]
  by_cases e : T[k] / 64 = q <;> simp [e]
theorem cnt_take_le (T : List Nat) (q k : Nat) : cnt q (T.take k) ≤ k := by
  have h1 := cnt_le q (T.take k)
  have h2 := List.length_take_le k T
  omega
/-- The best of the first i, as the document keeps it. -/
def RB (T : List Nat) (i : Nat) (bz : Int) (m : Nat) : Prop :=
  (∀ t ∈ T.take i, cnt (t / 64) T ≤ m ∧ (cnt (t / 64) T = m → bz ≤ ((t / 64 : Nat) : Int))) ∧ (i = 0 ∧ m = 0 ∨ ∃ p : Nat, bz = p ∧ 0 < m ∧ cnt p T = m ∧ ∃ t ∈ T.take i, t / 64 = p)
theorem cnt_mem {T : List Nat} {t : Nat} (h : t ∈ T) : 0 < cnt (t / 64) T := cnt_pos.2 ⟨t, h, rfl⟩
theorem RB.turn {T : List Nat} {i : Nat} {bz : Int} {m : Nat} (h : RB T i bz m) (hi : i < T.length) (hm : m < cnt (T[i] / 64) T) : RB T (i + 1) ((T[i] / 64 : Nat) : Int) (cnt (T[i] / 64) T) := by
  have e := List.take_succ_eq_append_getElem hi
  refine ⟨fun t ht => ?_, .inr ⟨_, rfl, by omega, rfl, T[i], by rw [e]; exact List.mem_append_right _ (List.mem_singleton.2 rfl), rfl⟩⟩
  rw [e, List.mem_append, List.mem_singleton] at ht
  rcases ht with ht | rfl
  · have := (h.1 t ht).1
    exact ⟨by omega, fun x => by omega⟩
  · exact ⟨Nat.le_refl _, fun _ => Int.le_refl _⟩
theorem RB.stay {T : List Nat} {i : Nat} {bz : Int} {m : Nat} (h : RB T i bz m) (hs : Srt T) (hi : i < T.length) (hm : ¬ m < cnt (T[i] / 64) T) : RB T (i + 1) bz m := by
  have e := List.take_succ_eq_append_getElem hi
  have hp := cnt_mem (List.getElem_mem hi)
  have hs2 := srt_take hs (i + 1)
  rw [e] at hs2
  have h3 := (List.pairwise_append.1 hs2).2.2
  rcases h.2 with ⟨_, h2⟩ | ⟨p, rfl, h4, h5, t, h6, h7⟩
  · omega
  · refine ⟨fun u hu => ?_, .inr ⟨p, rfl, h4, h5, t, by rw [e]; exact List.mem_append_left _ h6, h7⟩⟩
    rw [e, List.mem_append, List.mem_singleton] at hu
    rcases hu with hu | rfl
    · exact h.1 u hu
    · have := h3 t h6 T[i] (by simp)
      exact ⟨by omega, fun _ => by omega⟩
theorem RB.full {T : List Nat} {bz : Int} {m : Nat} (h : RB T T.length bz m) (h0 : T ≠ []) : ∃ p : Nat, bz = p ∧ IsFull T p := by
  have hl := List.length_pos_iff.2 h0
  rcases h.2 with ⟨e, _⟩ | ⟨p, rfl, h4, h5, _⟩
  · omega
  · refine ⟨p, rfl, by omega, fun q => ?_⟩
    by_cases hq : 0 < cnt q T
    · obtain ⟨t, ht, rfl⟩ := cnt_pos.1 hq
      have := h.1 t (by rw [List.take_length]; exact ht)
      rw [h5]
      exact ⟨this.1, fun x => by have := this.2 x; omega⟩
    · omega

set_option maxHeartbeats 3200000 in
theorem rfullest_any {S : Nat → Prop} {w : World} {a : Option Addr} {T : List Nat} {n : Nat} (c : Nat) (h : NumsS S w a T) (hn : n = T.length) (hl : n ≤ 1000) (hs : Srt T) (ht : ∀ t ∈ T, t < 16777216) (h0 : T ≠ []) :
    Calls Tryd.prog 45 #[.slice a n c] w fun e w' => ∃ p : Nat, e = .returned (.int .i64 p) ∧ IsFull T p ∧ Below w.heap.size w w' := by
  have HL := Lib.hid h
  have HN := Lib.hid hn
  have HS := Lib.hid hs
  have HT := Lib.hid ht
  have H0 := Lib.hid h0
  have HPG : Hid (∀ t W, t < 16777216 → Calls Tryd.prog 33 #[.int .i64 (t : Nat)] W fun e w' => e = .returned (.int .i64 ((t / 64 : Nat) : Int)) ∧ w' = W) := Lib.hid fun t W h => (rpage_any t W h).mono fun _ _ h => ⟨h.1, h.2.symm⟩
  clear h hn hs ht h0
  go_enter Tryd.func45, Tryd.ntmps45
  go_wp2
  go_loopw [3, 4, 5] (fun v3 v4 v5 wr => ∃ (i m : Nat) (bz : Int), i ≤ n ∧ m ≤ n ∧ -1 ≤ bz ∧ bz < 262144 ∧ v5 = .int .i64 i ∧ v4 = .int .i64 m ∧ v3 = .int .i64 bz ∧ Hid (RB T i bz m) ∧ Hid (Below w.heap.size w wr)) (fun _ _ v5 _ => n - (intOf v5).toNat)
  case atStart => exact ⟨0, 0, -1, by omega, by omega, by omega, by omega, rfl, rfl, rfl, Lib.hid ⟨by simp, .inl ⟨rfl, rfl⟩⟩, Lib.hid (Below.refl _ _)⟩
  case round =>
    obtain ⟨i, m, bz, hi, hm, hb0, hb1, rfl, rfl, rfl, HB, HW⟩ := hrel
    by_cases hlt : i < n
    · have hlt' : i < T.length := by rw [← HN.out]; exact hlt
      obtain ⟨b, off, rfl, hbw, c0⟩ := (HL.out.below HW.out).at hlt'
      obtain ⟨y, hy⟩ : ∃ y, y = T[i] := ⟨_, rfl⟩
      have hy24 : y < 16777216 := by rw [hy]; exact HT.out _ (List.getElem_mem _)
      rw [← hy] at c0
      have HY := Lib.hid hy
      have hii : (i : Int) < (n : Int) := by omega
      obtain ⟨W0, hW0⟩ : ∃ W0, W0 = wr := ⟨_, rfl⟩
      rw [← hW0] at HW
      have HW0 := Lib.hid hW0
      clear hy hW0
      go_wp2
      go_loopw [6, 7] (fun v6 v7 wr => ∃ j : Nat, j ≤ n ∧ v7 = .int .i64 j ∧ v6 = .int .i64 (cnt (y / 64) (T.take j)) ∧ Hid (Below w.heap.size w wr)) (fun _ v7 _ => n - (intOf v7).toNat)
      case atStart => exact ⟨0, by omega, rfl, by simp [cnt, onp], by rw [← HW0.out]; exact HW⟩
      case round =>
        obtain ⟨j, hj, rfl, rfl, HW1⟩ := hrel
        have hcj := cnt_take_le T (y / 64) j
        clear HW HW0 c0
        obtain ⟨b', off', e1, hbw2, c0⟩ := (HL.out.below HW1.out).at hlt'
        injection e1 with e1; injection e1 with e2 e3
        subst e2 e3
        rw [← HY.out] at c0
        by_cases hjt : j < n
        · have hjt' : j < T.length := by rw [← HN.out]; exact hjt
          obtain ⟨b', off', e1, _, d0⟩ := (HL.out.below HW1.out).at hjt'
          injection e1 with e1; injection e1 with e2 e3
          subst e2 e3
          obtain ⟨z, hz⟩ : ∃ z, z = T[j] := ⟨_, rfl⟩
          have hz24 : z < 16777216 := by rw [hz]; exact HT.out _ (List.getElem_mem _)
          have hct := cnt_take (q := y / 64) hjt'
          rw [← hz] at d0 hct
          have HCT := Lib.hid hct
          obtain ⟨cn, hcn⟩ : ∃ cn, cn = cnt (y / 64) (T.take j) := ⟨_, rfl⟩
          rw [← hcn] at hcj HCT ⊢
          have hji : (j : Int) < (n : Int) := by omega
          have hj0 : (0 : Int) ≤ (j : Int) := by omega
          have hi0 : (0 : Int) ≤ (i : Int) := by omega
          have HBJ : Hid (∀ k, Below w.heap.size w (wr.drewN k)) := Lib.hid fun k => HW1.out.trans ((belowDrewN wr k).mono HW1.out.size)
          clear hz hct hcn
          by_cases he : z / 64 = y / 64
          · have he1 : (((z / 64 : Nat) : Int) == ((y / 64 : Nat) : Int)) = true := by simp; omega
            have he2 : ((z : Int) / 64 == (y : Int) / 64) = true := by simp; omega
            have he3 : (z / 64 == y / 64) = true := by simp [he]
            have HCC : Hid (cnt (y / 64) (T.take (j + 1)) = cn + 1) := Lib.hid (by rw [HCT.out, if_pos he])
            clear he
            go_wp2_with fail
            go_quiet ((first
              | (go_at_call_of 33 z; exact Calls.quiet_of_same (HPG.out z _ hz24))
              | (go_at_call_of 33 y; exact Calls.quiet_of_same (HPG.out y _ hy24))))
            go_wp2
            go_roundw
            case rel => exact ⟨j + 1, by omega, by go_num, by rw [HCC.out]; go_num, HBJ.out _⟩
            case measure => simp [intOf]; omega
          · have he1 : (((z / 64 : Nat) : Int) == ((y / 64 : Nat) : Int)) = false := by simp; omega
            have he2 : ((z : Int) / 64 == (y : Int) / 64) = false := by simp; omega
            have he3 : (z / 64 == y / 64) = false := by simp [he]
            have HCC : Hid (cnt (y / 64) (T.take (j + 1)) = cn) := Lib.hid (by rw [HCT.out, if_neg he]; rfl)
            clear he
            go_wp2_with fail
            go_quiet ((first
              | (go_at_call_of 33 z; exact Calls.quiet_of_same (HPG.out z _ hz24))
              | (go_at_call_of 33 y; exact Calls.quiet_of_same (HPG.out y _ hy24))))
            go_wp2
            go_roundw
            case rel => exact ⟨j + 1, by omega, by go_num, by rw [HCC.out], HBJ.out _⟩
            case measure => simp [intOf]; omega
        · have hjn : j = n := by omega
          have hall : cnt (y / 64) (T.take j) = cnt (T[i] / 64) T := by rw [hjn, HN.out, List.take_length, HY.out]
          have HRT : Hid (m < cnt (T[i] / 64) T → RB T (i + 1) ((y / 64 : Nat) : Int) (cnt (T[i] / 64) T)) := Lib.hid fun h => by rw [HY.out]; exact HB.out.turn hlt' h
          have HRS : Hid (¬ m < cnt (T[i] / 64) T → RB T (i + 1) bz m) := Lib.hid fun h => HB.out.stay HS.out hlt' h
          rw [hall] at hcj ⊢
          obtain ⟨cn, hcn⟩ : ∃ cn, cn = cnt (T[i] / 64) T := ⟨_, rfl⟩
          rw [← hcn] at hcj HRT HRS ⊢
          have HPY := Lib.hid (rpage_any y wr hy24)
          have hy64 : y / 64 < 262144 := by omega
          clear hall hcn
          subst hjn
          by_cases hc : m < cn
          · have hc1 : decide ((m : Int) < (cn : Int)) = true := decide_eq_true (by omega)
            have hc2 : decide (m < cn) = true := decide_eq_true hc
            have HR2 := Lib.hid (HRT.out hc)
            obtain ⟨pg, hpg⟩ : ∃ pg, pg = y / 64 := ⟨_, rfl⟩
            rw [← hpg] at HPY HR2 hy64
            clear HB hc hpg
            go_wp2_with fail
            refine HPY.out.mono ?_
            rintro e w5 ⟨rfl, rfl⟩
            go_wp2
            go_roundw
            case rel => exact ⟨i + 1, cn, (pg : Int), by omega, by omega, by omega, by omega, by go_num, rfl, rfl, HR2, HW1⟩
            case measure => simp [intOf]; omega
          · have hc1 : decide ((m : Int) < (cn : Int)) = false := decide_eq_false (by omega)
            have hc2 : decide (m < cn) = false := decide_eq_false hc
            have HR2 := Lib.hid (HRS.out hc)
            clear HB hc
            go_wp2
            go_roundw
            case rel => exact ⟨i + 1, m, bz, by omega, by omega, by omega, by omega, by go_num, rfl, rfl, HR2, HW1⟩
            case measure => simp [intOf]; omega
    · have hin : i = T.length := by rw [← HN.out]; omega
      have hB := HB.out
      rw [hin] at hB
      obtain ⟨p, rfl, hp⟩ := hB.full H0.out
      have HP := Lib.hid hp
      clear hB hp HB hin
      go_wp2
      go_ret
      exact ⟨p, rfl, HP.out, HW.out⟩
end Go.Proofs.YtpjpkpbfbbpmdaaDoor.Ts
