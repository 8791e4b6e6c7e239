/- Is an entry there; are two lists of entries the same. -/
import Derived.Test.YtnnmigglcpkomaaDH
import Derived.StillTailTactics
set_option maxRecDepth 100000
namespace Go.Proofs.Ytnnmigglcpkomaa.Dm
open Go Go.RowKit

set_option maxHeartbeats 1600000 in
theorem has_any (a : Option Addr) (es : List En) (c : Nat) (e : En) (w : World) (he : e.In w) (ho : e.ok = true) (hl : EnsW w a es) (hbig : (es.length : Int) < 4611686018427387904) :
    Calls Try.prog 42 #[.slice a es.length c, e.v] w fun r w' => r = .returned (.bool (decide (e.c ∈ consE es))) ∧ Below w.heap.size w w' := by
  obtain ⟨R, hR⟩ : ∃ R, R = decide (e.c ∈ consE es) := ⟨_, rfl⟩
  rw [← hR]
  have HA : Hid (∀ W, Below w.heap.size w W → ∀ x, x ∈ es → Calls Try.prog 21 #[x.v, e.v] W fun r w' => r = .returned (.bool (decide (x.c = e.c))) ∧ Below W.heap.size W w') :=
    Lib.hid (fun W hW x hx => same9_any x e W ((hl.all x hx).1.below hW) (he.below hW) (hl.all x hx).2 ho)
  obtain ⟨C, hC⟩ : ∃ C, C = e.c := ⟨_, rfl⟩
  rw [← hC] at hR HA
  have HR := Lib.hid hR; have HL := Lib.hid hl
  obtain ⟨ll, hll⟩ : ∃ ll, ll = es.length := ⟨_, rfl⟩
  have HLL := Lib.hid hll
  rw [← hll] at hbig ⊢
  obtain ⟨k, n, s, ea, xs, lc, t⟩ := e
  obtain ⟨xl, hxl⟩ : ∃ xl, xl = xs.length := ⟨_, rfl⟩
  unfold En.v at HA ⊢
  simp only [] at HA ⊢
  rw [← hxl] at HA ⊢
  clear hR hl hll hC hxl he ho
  go_enter Try.func42, Try.ntmps42
  go_wp2
  go_loopw [5] (fun i wr => ∃ j : Nat, j ≤ ll ∧ i = .int .i64 j ∧ Below (w.heap.size + 1) (w.alloc (.cells #[.int .i64 k, .int .i64 n, .string s, .slice ea xl lc, .int .i64 t] 35)) wr ∧ Hid (C ∉ (consE es).take j)) (fun i _ => ll - (intOf i).toNat)
  case atStart => exact ⟨0, Nat.zero_le _, rfl, Below.refl _ _, Lib.hid (by simp)⟩
  case round =>
    obtain ⟨j, hj, rfl, hb, HP⟩ := hrel
    obtain ⟨d0, d1, d2, d3, d4⟩ := box5 hb
    have HBW : Hid (Below w.heap.size w wr) := Lib.hid (below_al _ (by simpa using hb))
    have hsz : w.heap.size < wr.heap.size := by have := hb.size; simp at this; omega
    have HB := Lib.hid hb; clear hb
    by_cases hlt : j < ll
    · have hlt' : j < es.length := by rw [← HLL.out]; exact hlt
      obtain ⟨b, off, rfl, hbw, hc⟩ := (HL.out.below HBW.out).at hlt'
      obtain ⟨c0, c1, c2, c3, c4⟩ := hc j hlt'
      clear hc
      have hmem : es[j]'hlt' ∈ es := List.getElem_mem _
      have hcon : (consE es)[j]'(by unfold consE; rw [List.length_map]; exact hlt') = (es[j]'hlt').c := by unfold consE; rw [List.getElem_map]
      obtain ⟨x, hx⟩ : ∃ x, x = es[j]'hlt' := ⟨_, rfl⟩
      rw [← hx] at c0 c1 c2 c3 c4 hmem hcon
      have HCON := Lib.hid hcon
      have HCALL := HA.out wr.drew (HBW.out.trans ((Below.refl _ _).drew.mono HBW.out.size)) x hmem
      obtain ⟨xk, xn, xt, xa, xxs, xlc, xtid⟩ := x
      simp only [] at c0 c1 c2 c3 c4 HCALL
      obtain ⟨q, hq⟩ : ∃ q, q = decide (En.c ⟨xk, xn, xt, xa, xxs, xlc, xtid⟩ = C) := ⟨_, rfl⟩
      rw [← hq] at HCALL
      obtain ⟨xxl, hxxl⟩ : ∃ xxl, xxl = xxs.length := ⟨_, rfl⟩
      rw [← hxxl] at c3 HCALL
      have HCALL := Lib.hid HCALL
      have HQ := Lib.hid hq
      clear hx hmem hcon hq hxxl
      have hji : (j : Int) < (ll : Int) := by omega
      have hj0 : (0 : Int) ≤ (j : Int) := by omega
      go_wp2
      go_still_tail 5, (by kernel_rfl)
      go_wp2_with fail
      refine HCALL.out.mono ?_
      rintro e w1 ⟨rfl, hb1⟩
      have HB1 : Hid (Below wr.heap.size wr w1) := Lib.hid ((Below.refl _ _).drew.trans hb1)
      clear HCALL hb1
      cases q
      · have HN : Hid (C ∉ (consE es).take (j + 1)) := Lib.hid (by
          rw [List.take_add_one, List.getElem?_eq_getElem (by unfold consE; rw [List.length_map]; exact hlt'), HCON.out]
          intro h
          rcases List.mem_append.1 h with h | h
          · exact HP.out h
          · have h2 : C = En.c ⟨xk, xn, xt, xa, xxs, xlc, xtid⟩ := by rw [Option.toList_some, List.mem_singleton] at h; exact h
            have h3 := HQ.out.symm
            rw [decide_eq_false_iff_not] at h3
            exact h3 h2.symm)
        go_wp2
        go_roundw
        case rel => exact ⟨j + 1, by omega, by go_num, HB.out.trans (HB1.out.mono (by omega)), HN⟩
        case measure => simp [intOf]; omega
      · have HT : Hid (R = true) := Lib.hid (by
          rw [HR.out, decide_eq_true_eq]
          have h3 := HQ.out.symm
          rw [decide_eq_true_eq] at h3
          rw [← h3, ← HCON.out]
          exact List.getElem_mem _)
        go_wp2
        go_ret
        exact ⟨congrArg (fun b => Ending.returned (.bool b)) HT.out.symm, HBW.out.trans (HB1.out.mono HBW.out.size)⟩
    · have HT : Hid (R = false) := Lib.hid (by
        rw [HR.out, decide_eq_false_iff_not]
        have h := HP.out
        rwa [List.take_of_length_le (by unfold consE; rw [List.length_map]; have := HLL.out; omega)] at h)
      go_wp2
      go_ret
      exact ⟨congrArg (fun b => Ending.returned (.bool b)) HT.out.symm, HBW.out⟩

set_option maxHeartbeats 1600000 in
theorem sameAll_any (a : Option Addr) (es : List En) (c : Nat) (a' : Option Addr) (fs : List En) (c' : Nat) (w : World) (hl : EnsW w a es) (hl' : EnsW w a' fs) (hbig : (es.length : Int) < 4611686018427387904) :
    Calls Try.prog 13 #[.slice a es.length c, .slice a' fs.length c'] w fun r w' => r = .returned (.bool (decide (consE es = consE fs))) ∧ Below w.heap.size w w' := by
  obtain ⟨R, hR⟩ : ∃ R, R = decide (consE es = consE fs) := ⟨_, rfl⟩
  rw [← hR]
  have HR := Lib.hid hR; have HL := Lib.hid hl; have HL' := Lib.hid hl'
  by_cases hlen : es.length = fs.length
  · have HA : Hid (∀ W, Below w.heap.size w W → ∀ x, x ∈ es → ∀ y, y ∈ fs → Calls Try.prog 21 #[x.v, y.v] W fun r w' => r = .returned (.bool (decide (x.c = y.c))) ∧ Below W.heap.size W w') :=
      Lib.hid (fun W hW x hx y hy => same9_any x y W ((hl.all x hx).1.below hW) ((hl'.all y hy).1.below hW) (hl.all x hx).2 (hl'.all y hy).2)
    rw [← hlen]
    have HLN := Lib.hid hlen
    obtain ⟨ll, hll⟩ : ∃ ll, ll = es.length := ⟨_, rfl⟩
    have HLL := Lib.hid hll
    rw [← hll] at hbig ⊢
    unfold En.v at HA
    clear hR hl hl' hll hlen
    go_enter Try.func13, Try.ntmps13
    go_wp2
    go_loopw [5] (fun i wr => ∃ j : Nat, j ≤ ll ∧ i = .int .i64 j ∧ Hid (Below w.heap.size w wr) ∧ Hid ((consE es).take j = (consE fs).take j)) (fun i _ => ll - (intOf i).toNat)
    case atStart => exact ⟨0, Nat.zero_le _, rfl, Lib.hid (Below.refl _ _), Lib.hid rfl⟩
    case round =>
      obtain ⟨j, hj, rfl, HBW, HP⟩ := hrel
      by_cases hlt : j < ll
      · have hlt' : j < es.length := by rw [← HLL.out]; exact hlt
        have hlt2 : j < fs.length := by rw [← HLN.out]; exact hlt'
        obtain ⟨b, off, rfl, hbw, hc⟩ := (HL.out.below HBW.out).at hlt'
        obtain ⟨c0, c1, c2, c3, c4⟩ := hc j hlt'
        obtain ⟨b', off', rfl, hbw', hc'⟩ := (HL'.out.below HBW.out).at hlt2
        obtain ⟨d0, d1, d2, d3, d4⟩ := hc' j hlt2
        clear hc hc'
        have hmem : es[j]'hlt' ∈ es := List.getElem_mem _
        have hmem' : fs[j]'hlt2 ∈ fs := List.getElem_mem _
        have hcon : (consE es)[j]'(by unfold consE; rw [List.length_map]; exact hlt') = (es[j]'hlt').c := by unfold consE; rw [List.getElem_map]
        have hcon' : (consE fs)[j]'(by unfold consE; rw [List.length_map]; exact hlt2) = (fs[j]'hlt2).c := by unfold consE; rw [List.getElem_map]
        obtain ⟨x, hx⟩ : ∃ x, x = es[j]'hlt' := ⟨_, rfl⟩
        obtain ⟨y, hy⟩ : ∃ y, y = fs[j]'hlt2 := ⟨_, rfl⟩
        rw [← hx] at c0 c1 c2 c3 c4 hmem hcon
        rw [← hy] at d0 d1 d2 d3 d4 hmem' hcon'
        have HCON := Lib.hid hcon
        have HCON' := Lib.hid hcon'
        have HCALL := HA.out wr.drew (HBW.out.trans ((Below.refl _ _).drew.mono HBW.out.size)) x hmem y hmem'
        obtain ⟨q, hq⟩ : ∃ q, q = decide (x.c = y.c) := ⟨_, rfl⟩
        rw [← hq] at HCALL
        have HQ := Lib.hid hq
        obtain ⟨xk, xn, xt, xa, xxs, xlc, xtid⟩ := x
        obtain ⟨yk, yn, yt, ya, yxs, ylc, ytid⟩ := y
        simp only [] at c0 c1 c2 c3 c4 d0 d1 d2 d3 d4 HCALL
        obtain ⟨xxl, hxxl⟩ : ∃ xxl, xxl = xxs.length := ⟨_, rfl⟩
        obtain ⟨yxl, hyxl⟩ : ∃ yxl, yxl = yxs.length := ⟨_, rfl⟩
        rw [← hxxl] at c3 HCALL
        rw [← hyxl] at d3 HCALL
        have HCALL := Lib.hid HCALL
        clear hx hy hmem hmem' hcon hcon' hq hxxl hyxl
        have hji : (j : Int) < (ll : Int) := by omega
        have hj0 : (0 : Int) ≤ (j : Int) := by omega
        go_wp2
        go_still_tail 8, (by kernel_rfl)
        go_wp2_with fail
        refine HCALL.out.mono ?_
        rintro e w1 ⟨rfl, hb1⟩
        have HB1 : Hid (Below w.heap.size w w1) := Lib.hid (HBW.out.trans (((Below.refl _ _).drew.trans hb1).mono HBW.out.size))
        clear HCALL hb1
        cases q
        · have HT : Hid (R = false) := Lib.hid (by
            rw [HR.out, decide_eq_false_iff_not]
            intro h
            have h3 := HQ.out.symm
            rw [decide_eq_false_iff_not] at h3
            refine h3 ?_
            rw [← HCON.out, ← HCON'.out]
            simp only [h])
          go_wp2
          go_ret
          exact ⟨congrArg (fun b => Ending.returned (.bool b)) HT.out.symm, HB1.out⟩
        · have HN : Hid ((consE es).take (j + 1) = (consE fs).take (j + 1)) := Lib.hid (by
            have h3 := HQ.out.symm
            rw [decide_eq_true_eq] at h3
            rw [List.take_add_one, List.take_add_one, HP.out, List.getElem?_eq_getElem (by unfold consE; rw [List.length_map]; exact hlt'), List.getElem?_eq_getElem (by unfold consE; rw [List.length_map]; exact hlt2), HCON.out, HCON'.out, h3])
          go_wp2
          go_roundw
          case rel => exact ⟨j + 1, by omega, by go_num, HB1, HN⟩
          case measure => simp [intOf]; omega
      · have HT : Hid (R = true) := Lib.hid (by
          rw [HR.out, decide_eq_true_eq]
          have h := HP.out
          rwa [List.take_of_length_le (by unfold consE; rw [List.length_map]; have := HLL.out; omega), List.take_of_length_le (by unfold consE; rw [List.length_map]; have := HLL.out; have := HLN.out; omega)] at h)
        go_wp2
        go_ret
        exact ⟨congrArg (fun b => Ending.returned (.bool b)) HT.out.symm, HBW.out⟩
  · have HT : Hid (R = false) := Lib.hid (by
      rw [HR.out, decide_eq_false_iff_not]
      intro h
      have h2 := congrArg List.length h
      unfold consE at h2
      rw [List.length_map, List.length_map] at h2
      exact hlen h2)
    obtain ⟨ll, hll⟩ : ∃ ll, ll = es.length := ⟨_, rfl⟩
    obtain ⟨kl, hkl⟩ : ∃ kl, kl = fs.length := ⟨_, rfl⟩
    rw [← hll, ← hkl] at hlen ⊢
    have hb : ((ll : Int) != (kl : Int)) = true := by rw [bne_iff_ne]; omega
    clear hR hl hl' HL HL' HR hll hkl
    go_enter Try.func13, Try.ntmps13
    go_wp2
    go_ret
    exact ⟨congrArg (fun b => Ending.returned (.bool b)) HT.out.symm, Below.refl _ _⟩
end Go.Proofs.Ytnnmigglcpkomaa.Dm
