/- The document's comparison of numbers; awake; what nobody made. -/
import Derived.Test.YtpjpkpbfbbpmdaaDoorTSJ
set_option maxRecDepth 100000
namespace Go.Proofs.YtpjpkpbfbbpmdaaDoor.Ts
open Go Go.RowKit

theorem belowDrewN (w : World) (n : Nat) : Below w.heap.size w (w.drewN n) := ⟨rfl, rfl, rfl, Nat.le_refl _, fun _ _ => rfl⟩

set_option maxHeartbeats 1600000 in
theorem ints_any {B B' : Nat} (a : Option Addr) (l : List Nat) (c : Nat) (a' : Option Addr) (m : List Nat) (c' : Nat) (w : World) (hl : NumsV B w a l) (hl' : NumsV B' w a' m) (hbig : l.length ≤ 2199023255552) :
    Calls Tryd.prog 19 #[.slice a l.length c, .slice a' m.length c'] w fun r w' => r = .returned (.bool (decide (l = m))) ∧ Below w.heap.size w w' := by
  obtain ⟨R, hR⟩ : ∃ R, R = decide (l = m) := ⟨_, rfl⟩
  rw [← hR]
  have HR := Lib.hid hR; have HL := Lib.hid hl; have HL' := Lib.hid hl'
  by_cases hlen : l.length = m.length
  · rw [← hlen]
    have HLN := Lib.hid hlen
    obtain ⟨ll, hll⟩ : ∃ ll, ll = l.length := ⟨_, rfl⟩
    have HLL := Lib.hid hll
    rw [← hll] at hbig ⊢
    clear hR hl hl' hll hlen
    go_enter Tryd.func19, Tryd.ntmps19
    go_wp2
    go_loopw [5] (fun i wr => ∃ j : Nat, j ≤ ll ∧ i = .int .i64 j ∧ Hid (Below w.heap.size w wr) ∧ Hid (l.take j = m.take j)) (fun i _ => ll - (intOf i).toNat)
    case atStart => exact ⟨0, Nat.zero_le _, rfl, Lib.hid (Below.refl _ _), Lib.hid rfl⟩
    case round =>
      obtain ⟨j, hj, rfl, HBW, HP⟩ := hrel
      by_cases hlt : j < ll
      · have hlt' : j < l.length := by rw [← HLL.out]; exact hlt
        have hlt2 : j < m.length := by rw [← HLN.out]; exact hlt'
        have h1 := HL.out.below HBW.out
        have h2 := HL'.out.below HBW.out
        obtain ⟨b, off, rfl, hbw, hc⟩ : ∃ b off, a = some ⟨b, off, none⟩ ∧ b < wr.heap.size ∧ ∀ j (h : j < l.length), wr.cell? ⟨b, off + j, none⟩ = some (.int .i64 ((l[j]'h : Nat) : Int)) := by
          rcases h1 with h | h
          · rw [h] at hlt'; simp at hlt'
          · obtain ⟨b, off, h1, _, h2, h3⟩ := h
            exact ⟨b, off, h1, h2, h3⟩
        obtain ⟨b', off', rfl, hbw', hc'⟩ : ∃ b off, a' = some ⟨b, off, none⟩ ∧ b < wr.heap.size ∧ ∀ j (h : j < m.length), wr.cell? ⟨b, off + j, none⟩ = some (.int .i64 ((m[j]'h : Nat) : Int)) := by
          rcases h2 with h | h
          · rw [h] at hlt2; simp at hlt2
          · obtain ⟨b, off, h1, _, h2, h3⟩ := h
            exact ⟨b, off, h1, h2, h3⟩
        have c0 := hc j hlt'
        have c1 := hc' j hlt2
        obtain ⟨x, hx⟩ : ∃ x, x = l[j]'hlt' := ⟨_, rfl⟩
        obtain ⟨y, hy⟩ : ∃ y, y = m[j]'hlt2 := ⟨_, rfl⟩
        rw [← hx] at c0
        rw [← hy] at c1
        have HX := Lib.hid hx
        have HY := Lib.hid hy
        clear h1 h2 hc hc' hx hy
        have hji : (j : Int) < (ll : Int) := by omega
        by_cases he : x = y
        · have hb : ((x : Int) != (y : Int)) = false := by simp [he]
          have hb2 : (x != y) = false := by simp [he]
          have HN : Hid (l.take (j + 1) = m.take (j + 1)) := Lib.hid (by
            rw [List.take_succ_eq_append_getElem hlt', List.take_succ_eq_append_getElem hlt2, HP.out, ← HX.out, ← HY.out, he])
          clear he
          go_wp2
          go_quiet (fail)
          have HBN : Hid (Below w.heap.size w (wr.drewN nq)) := Lib.hid (HBW.out.trans ((belowDrewN wr nq).mono HBW.out.size))
          go_wp2
          go_roundw
          case rel => exact ⟨j + 1, by omega, by go_num, HBN, HN⟩
          case measure => simp [intOf]; omega
        · have hb : ((x : Int) != (y : Int)) = true := by rw [bne_iff_ne]; omega
          have hb2 : (x != y) = true := by rw [bne_iff_ne]; exact he
          have HT : Hid (R = false) := Lib.hid (by
            rw [HR.out, decide_eq_false_iff_not]
            intro h
            apply he
            rw [HX.out, HY.out]
            simp only [h])
          clear he
          go_wp2
          go_quiet (fail)
          have HBN : Hid (Below w.heap.size w (wr.drewN nq)) := Lib.hid (HBW.out.trans ((belowDrewN wr nq).mono HBW.out.size))
          go_wp2
          go_ret
          exact ⟨congrArg (fun b => Ending.returned (.bool b)) HT.out.symm, HBN.out⟩
      · have HT : Hid (R = true) := Lib.hid (by
          rw [HR.out, decide_eq_true_eq]
          have h := HP.out
          rwa [List.take_of_length_le (by have := HLL.out; omega), List.take_of_length_le (by have := HLL.out; have := HLN.out; omega)] at h)
        go_wp2
        go_ret
        exact ⟨congrArg (fun b => Ending.returned (.bool b)) HT.out.symm, HBW.out⟩
  · have HT : Hid (R = false) := Lib.hid (by
      rw [HR.out, decide_eq_false_iff_not]
      intro h
      exact hlen (congrArg List.length h))
    obtain ⟨ll, hll⟩ : ∃ ll, ll = l.length := ⟨_, rfl⟩
    obtain ⟨kl, hkl⟩ : ∃ kl, kl = m.length := ⟨_, rfl⟩
    rw [← hll, ← hkl] at hlen ⊢
    have hb : ((ll : Int) != (kl : Int)) = true := by rw [bne_iff_ne]; omega
    clear hR hl hl' HL HL' HR hll hkl
    go_enter Tryd.func19, Tryd.ntmps19
    go_wp2
    go_ret
    exact ⟨congrArg (fun b => Ending.returned (.bool b)) HT.out.symm, Below.refl _ _⟩

theorem ints_same {B B' : Nat} {a a' : Option Addr} {l : List Nat} {n : Nat} (c c' : Nat) {w : World} (hn : n = l.length) (hl : NumsV B w a l) (hl' : NumsV B' w a' l) (hbig : n ≤ 2199023255552) :
    Calls Tryd.prog 19 #[.slice a n c, .slice a' n c'] w fun r w' => r = .returned (.bool true) ∧ Below w.heap.size w w' := by
  subst hn
  exact (ints_any a l c a' l c' w hl hl' hbig).mono fun _ _ ⟨h1, h2⟩ => ⟨by rw [h1, decide_eq_true rfl], h2⟩

/-- A literal's numbers. -/
theorem lit1 (w : World) (x : Nat) (T : TypeId) : NumsV w.heap.size (w.alloc (.cells #[.int .i64 (x : Int)] T)) (some ⟨w.heap.size, 0, none⟩) [x] :=
  .inr ⟨w.heap.size, 0, rfl, Nat.le_refl _, by simp, fun j hj => by
    obtain rfl : j = 0 := by simpa using hj
    rw [Lib.cell_of_heap (heap_alloc_new w _)]; rfl⟩

def NewPost (most : Nat) (w : World) (e : Ending) (w' : World) : Prop :=
  ∃ b be bw, e = .returned (.tuple #[.pointer (some ⟨b, 0, none⟩), .int .i64 0]) ∧ StAt w' b be bw ⟨most, [], []⟩ ∧ Below w.heap.size w w' ∧ w.heap.size ≤ b ∧ w.heap.size ≤ be ∧ w.heap.size ≤ bw
theorem new_st (most : Nat) (w : World) (h2 : most ≤ 64) : Calls Tryd.prog 20 #[.int .i64 most] w (NewPost most w) :=
  (tnew_ok most w h2).mono fun e w' ⟨h1, h3, h4⟩ => ⟨_, _, _, h1, ⟨h3, ⟨⟨List.Pairwise.nil, List.Pairwise.nil, by simp, by simp, by simp⟩, by simp, h2⟩⟩, h4, by omega, by omega, by omega⟩

theorem full3 : IsFull [64, 65, 130] 1 := by
  refine ⟨by decide, fun q => ?_⟩
  by_cases h1 : q = 1
  · subst h1; exact ⟨Nat.le_refl _, fun _ => Nat.le_refl _⟩
  · by_cases h2 : q = 2
    · subst h2; exact ⟨by decide, by decide⟩
    · have e : cnt q [64, 65, 130] = 0 := by
        have := mt cnt_pos.1 (show ¬ ∃ t, t ∈ [64, 65, 130] ∧ t / 64 = q by
          rintro ⟨t, ht, e⟩
          simp only [List.mem_cons, List.not_mem_nil, or_false] at ht
          omega)
        omega
      have e1 : cnt 1 [64, 65, 130] = 2 := by decide
      omega
theorem step1 {s : Tset} (h : AddTo ⟨2, [], []⟩ 64 s) : s = ⟨2, [64], []⟩ := h.unique ⟨rfl, .inr ⟨by simp, .done (by decide)⟩⟩
theorem step2 {s : Tset} (h : AddTo ⟨2, [64], []⟩ 65 s) : s = ⟨2, [64, 65], []⟩ := h.unique ⟨rfl, .inr ⟨by simp, .done (by decide)⟩⟩
theorem step3 {s : Tset} (h : AddTo ⟨2, [64, 65], []⟩ 130 s) : s = ⟨2, [130], [1]⟩ := h.unique ⟨rfl, .inr ⟨by simp, .step (by decide) full3 (.done (by decide))⟩⟩
theorem has70 : hasB ⟨2, [130], [1]⟩ 70 = true := by decide
theorem has131 : hasB ⟨2, [130], [1]⟩ 131 = false := by decide

theorem Kept.toB {S : Nat → Prop} {w0 a b : World} (hb : Below w0.heap.size w0 a) (hk : Kept S a b) (hS : ∀ k, S k → w0.heap.size ≤ k) : Below w0.heap.size w0 b := hb.trans (hk.toBelow hb.size hS)

set_option maxHeartbeats 3200000 in
theorem awake14 (w : World) (hT : Tab w) : Calls Tryd.prog 12 #[] w fun e w' => e = .returned (.bool true) ∧ Below w.heap.size w w' := by
  have HN := Lib.hid (new_st 2 w (by omega))
  have HT := Lib.hid hT
  have h1 := hT.1
  clear hT
  go_enter Tryd.func12, Tryd.ntmps12
  go_wp2_with fail
  refine HN.out.mono ?_
  rintro e w1 ⟨b, be, bw, rfl, hs, hb, g1, g2, g3⟩
  have HO : Hid (∀ k, Own b be bw k → w.heap.size ≤ k) := Lib.hid (by rintro k (rfl | rfl | rfl) <;> assumption)
  have HB := Lib.hid hb
  have HA := Lib.hid (add_ok hs 64 (by omega))
  clear hs hb g1 g2 g3 HN
  go_wp2_with fail
  refine HA.out.mono ?_
  rintro e w2 ⟨rfl, s1, ha, hs1, hk1⟩
  obtain rfl := step1 ha
  have HB2 := Lib.hid (Kept.toB HB.out hk1 HO.out)
  have HA2 := Lib.hid (add_ok hs1 65 (by omega))
  clear ha hs1 hk1 HA HB
  go_wp2_with fail
  refine HA2.out.mono ?_
  rintro e w3 ⟨rfl, s2, ha, hs2, hk2⟩
  obtain rfl := step2 ha
  have HB3 := Lib.hid (Kept.toB HB2.out hk2 HO.out)
  have HA3 := Lib.hid (add_ok hs2 130 (by omega))
  clear ha hs2 hk2 HA2 HB2
  go_wp2_with fail
  refine HA3.out.mono ?_
  rintro e w4 ⟨rfl, s3, ha, hs3, hk3⟩
  obtain rfl := step3 ha
  have HB4 := Lib.hid (Kept.toB HB3.out hk3 HO.out)
  have HS4 := Lib.hid hs3
  have HP := Lib.hid (pages_any hs3)
  clear ha hs3 hk3 HA3 HB3
  go_wp2_with fail
  refine HP.out.mono ?_
  rintro e w5 ⟨v5, rfl, hn5, hb5⟩
  obtain ⟨a5, c5, rfl⟩ := hn5.shape
  have hx5 := hn5.nums.below ((Below.refl _ _).alloc (Nat.le_refl _) (.cells #[.int .i64 (1 : Nat)] 3))
  have HI := Lib.hid (ints_same (n := 1) c5 1 rfl hx5 (lit1 w5 1 3) (by simp))
  have HB5 := Lib.hid (HB4.out.trans (hb5.mono HB4.out.size))
  have HS5 := Lib.hid (HS4.out.below hb5)
  clear hn5 hb5 hx5 HP HB4 HS4
  go_wp2_with fail
  refine HI.out.mono ?_
  rintro e w6 ⟨rfl, hb6⟩
  have hb56 : Below w5.heap.size w5 w6 := ((Below.refl _ w5).alloc (Nat.le_refl _) _).trans (hb6.mono (by simp))
  have HB6 := Lib.hid (HB5.out.trans (hb56.mono HB5.out.size))
  have HS6 := Lib.hid (HS5.out.below hb56)
  have HQ := Lib.hid (tids_any HS6.out (HT.out.below HB6.out h1))
  clear hb6 hb56 HI HB5 HS5
  go_wp2_with fail
  refine HQ.out.mono ?_
  rintro e w7 ⟨v7, rfl, hn7, hb7⟩
  obtain ⟨a7, c7, rfl⟩ := hn7.shape
  have hx7 := hn7.nums.below ((Below.refl _ _).alloc (Nat.le_refl _) (.cells #[.int .i64 (130 : Nat)] 3))
  have HI := Lib.hid (ints_same (n := 1) c7 1 rfl hx7 (lit1 w7 130 3) (by simp))
  have HB7 := Lib.hid (HB6.out.trans (hb7.mono HB6.out.size))
  have HS7 := Lib.hid (HS6.out.below hb7)
  clear hn7 hb7 hx7 HQ HB6 HS6
  go_wp2_with fail
  refine HI.out.mono ?_
  rintro e w8 ⟨rfl, hb8⟩
  have hb78 : Below w7.heap.size w7 w8 := ((Below.refl _ w7).alloc (Nat.le_refl _) _).trans (hb8.mono (by simp))
  have HB8 := Lib.hid (HB7.out.trans (hb78.mono HB7.out.size))
  have HS8 := Lib.hid (HS7.out.below hb78)
  have HH := Lib.hid (has_any HS8.out 70)
  rw [has70] at HH
  clear hb8 hb78 HI HB7 HS7
  go_wp2_with fail
  refine HH.out.mono ?_
  rintro e w9 ⟨rfl, hb9⟩
  have HB9 := Lib.hid (HB8.out.trans (hb9.mono HB8.out.size))
  have HH2 := Lib.hid (has_any (HS8.out.below hb9) 131)
  rw [has131] at HH2
  clear hb9 HH HB8 HS8
  go_wp2_with fail
  refine HH2.out.mono ?_
  rintro e w10 ⟨rfl, hb10⟩
  have HB10 := Lib.hid (HB9.out.trans (hb10.mono HB9.out.size))
  clear hb10 HH2 HB9
  go_wp2
  go_ret
  exact ⟨rfl, HB10.out⟩

/-! What nobody made. -/
set_option maxHeartbeats 400000 in
theorem under_no1 (p q : Value) (w : World) (h : NoSet p w) : Calls Tryd.prog 24 #[p, q] w fun e w' => e = .returned (.tuple #[.pointer none, .int .i64 1]) ∧ w = w' := by
  have HG := Lib.hid (given_no p w h); clear h
  go_enter Tryd.func24, Tryd.ntmps24
  go_wp2_with fail
  refine HG.out.mono ?_
  rintro e w1 ⟨rfl, rfl⟩
  go_wp2
  go_ret2
  exact ⟨rfl, rfl⟩
set_option maxHeartbeats 400000 in
theorem under_no2 (b : Nat) (q : Value) (w : World) (hb : w.cell? ⟨b, 0, none⟩ = some (.pointer (some ⟨b, 0, none⟩))) (h : NoSet q w) : Calls Tryd.prog 24 #[.pointer (some ⟨b, 0, none⟩), q] w fun e w' => e = .returned (.tuple #[.pointer none, .int .i64 1]) ∧ w = w' := by
  have HG := Lib.hid (given_self b w hb)
  have HQ := Lib.hid (given_no q w h); clear h
  go_enter Tryd.func24, Tryd.ntmps24
  go_wp2_with fail
  refine HG.out.mono ?_
  rintro e w1 ⟨rfl, rfl⟩
  go_wp2_with fail
  refine HQ.out.mono ?_
  rintro e w1 ⟨rfl, rfl⟩
  go_wp2
  go_ret2
  exact ⟨rfl, rfl⟩
/-- One of both is no set. -/
def Un (p q : Value) (w : World) : Prop := NoSet p w ∨ (∃ b, p = .pointer (some ⟨b, 0, none⟩) ∧ w.cell? ⟨b, 0, none⟩ = some (.pointer (some ⟨b, 0, none⟩))) ∧ NoSet q w
theorem under_no (p q : Value) (w : World) (h : Un p q w) : Calls Tryd.prog 24 #[p, q] w fun e w' => e = .returned (.tuple #[.pointer none, .int .i64 1]) ∧ w = w' := by
  rcases h with h | ⟨⟨b, rfl, hb⟩, h⟩
  · exact under_no1 p q w h
  · exact under_no2 b q w hb h
set_option maxHeartbeats 400000 in
theorem and_no (p q : Value) (w : World) (h : Un p q w) : Calls Tryd.prog 10 #[p, q] w fun e w' => e = .returned (.tuple #[.pointer none, .int .i64 1]) ∧ w = w' := by
  have HU := Lib.hid (under_no p q w h); clear h
  go_enter Tryd.func10, Tryd.ntmps10
  go_wp2_with fail
  refine HU.out.mono ?_
  rintro e w1 ⟨rfl, rfl⟩
  go_wp2
  go_ret2
  exact ⟨rfl, rfl⟩
set_option maxHeartbeats 400000 in
theorem or_no (p q : Value) (w : World) (h : Un p q w) : Calls Tryd.prog 11 #[p, q] w fun e w' => e = .returned (.tuple #[.pointer none, .int .i64 1]) ∧ w = w' := by
  have HU := Lib.hid (under_no p q w h); clear h
  go_enter Tryd.func11, Tryd.ntmps11
  go_wp2_with fail
  refine HU.out.mono ?_
  rintro e w1 ⟨rfl, rfl⟩
  go_wp2
  go_ret2
  exact ⟨rfl, rfl⟩
end Go.Proofs.YtpjpkpbfbbpmdaaDoor.Ts
