/- The document's Find: the addresses of a key; are two lists of numbers the same. -/
import Derived.Test.YtnnmigglcpkomaaDK
set_option maxRecDepth 100000
namespace Go.Proofs.Ytnnmigglcpkomaa.Dm
open Go Go.RowKit

theorem infoInt : (Try.prog.info? 3).map (fun i => (i.zero, i.size, i.bytes)) = some (some (.int .i64 0), 1, 8) := by kernel_rfl

/-- Numbers that lie in a row of their own, from block B on. -/
def IRow (B : Nat) (w : World) (v : Value) (l : List Int) : Prop := w.ownsRow B 3 1 v l.length (l.map (Value.int .i64))
theorem IRow.below {B : Nat} {w w' : World} {v : Value} {l : List Int} (h : IRow B w v l) (hb : Below w.heap.size w w') : IRow B w' v l := ownsRow_of_block h fun k hk => hb.block k (h.lt k hk).2
theorem IRow.shape {B : Nat} {w : World} {v : Value} {l : List Int} (h : IRow B w v l) : ∃ a c, v = .slice a l.length c := by
  rcases h.2 with ⟨rfl, h0⟩ | ⟨g, cap, cur, rfl, _⟩
  · exact ⟨none, 0, by rw [h0]⟩
  · exact ⟨_, cap, rfl⟩
theorem IRow.mono {B B' : Nat} {w : World} {v : Value} {l : List Int} (h : IRow B w v l) (hB : B' ≤ B) : IRow B' w v l :=
  ⟨h.1, h.2.imp id fun ⟨g, cap, cur, h1, h2, h3⟩ => ⟨g, cap, cur, h1, Nat.le_trans hB h2, h3⟩⟩
theorem IRow.ints {B : Nat} {w : World} {a : Option Addr} {n c : Nat} {l : List Int} (h : IRow B w (.slice a n c) l) : IntsW w a l := by
  rcases h.2 with ⟨_, h0⟩ | ⟨g, cap, cur, hv, hB, hg, _⟩
  · exact .inl (List.eq_nil_of_length_eq_zero h0)
  · injection hv with hv _ _
    subst hv
    refine .inr ⟨g, 0, rfl, (Array.getElem?_eq_some_iff.1 hg).1, fun j hj => ?_⟩
    have := h.cells (g := g) rfl j (.int .i64 l[j]) (by simp [hj])
    rw [Addr.add_lit] at this
    exact this

/-- A number is put behind a row that lies in memory made since. -/
theorem putInt {B : Nat} {w : World} (ty : TypeId) {v : Value} {l : List Int} (h : IRow B w v l) (x : Int) (T : TypeId) (hl : l.length ≤ 2199023255552) (hB : B ≤ w.heap.size) :
    ∃ a c w', (Builtin.append_ #[28, 28] ty #[v, .slice (some ⟨w.heap.size, 0, none⟩) 1 1]).run Try.prog (w.alloc (.cells #[.int .i64 x] T)) = .ok (.slice a (l.length + 1) c) w' ∧ IRow B w' (.slice a (l.length + 1) c) (l ++ [x]) ∧ Below B w w' := by
  have hb := (Below.refl w.heap.size w).alloc (Nat.le_refl _) (.cells #[.int .i64 x] T)
  obtain ⟨i0, hi, q0, q1, q2⟩ := info_parts infoInt
  have h0 := h.below hb
  have hBs := Nat.le_trans hB hb.size
  obtain ⟨v', w', hr, h2, h3, _⟩ := run_append_own_wide (P := Try.prog) _ B 28 ty 3 i0 _ 1 8 Try.underlying28 hi q0 q1 q2 rfl (by decide) v l.length (l.map (Value.int .i64)) h0 ⟨w.heap.size, 0, none⟩ 1 1 [.int .i64 x] rfl (fun j u hu => by
    have hj : j < 1 := by
      obtain ⟨h1, _⟩ := List.getElem?_eq_some_iff.1 hu
      exact h1
    obtain rfl : j = 0 := by omega
    rw [Addr.add_lit, Nat.zero_add, Lib.cell_of_heap (heap_alloc_new w _)]
    simpa using hu) (fun u hu => by
      rw [List.mem_singleton] at hu
      subst hu; rfl) (by unfold maxLen; omega) (by omega) hBs
  have h4 : IRow B w' v' (l ++ [x]) := by
    rw [IRow, List.map_append, List.length_append]
    exact h2
  obtain ⟨a, c, rfl⟩ := h4.shape
  rw [List.length_append, List.length_singleton] at hr h4
  exact ⟨a, c, w', hr, h4, (hb.mono hB).trans ⟨h3.os, h3.tape, h3.output, h3.size, fun k hk => h3.block k (Nat.lt_of_lt_of_le hk hBs) (fun e => by have := (h0.lt k e.symm).1; omega)⟩⟩

def findL (es : List En) (d : Dt) : List Int := (es.filter fun x => decide (x.d = d)).map (·.t)
theorem findL_c (es : List En) (d : Dt) : findE (consE es) d = findL es d := by
  unfold consE findL findE
  rw [List.filter_map, List.map_map]
  rfl

set_option maxHeartbeats 1600000 in
theorem find9_any (a : Option Addr) (es : List En) (c : Nat) (e : En) (w : World) (he : e.In w) (ho : e.ok = true) (hl : EnsW w a es) (hbig : es.length ≤ 2199023255552) :
    Calls Try.prog 20 #[.slice a es.length c, e.dv] w fun r w' => ∃ v, r = .returned v ∧ IRow w.heap.size w' v (findL es e.d) ∧ Below w.heap.size w w' := by
  have HA : Hid (∀ W, Below w.heap.size w W → ∀ x, x ∈ es → Calls Try.prog 37 #[x.dv, e.dv] W fun r w' => r = .returned (.bool (decide (x.d = e.d))) ∧ Below W.heap.size W w') :=
    Lib.hid (fun W hW x hx => same_any x.k x.n x.s x.a x.xs x.lc e.k e.n e.s e.a e.xs e.lc W ((hl.all x hx).1.sl.below hW (Nat.le_refl _)) (he.sl.below hW (Nat.le_refl _)) (ok_few (hl.all x hx).2).1 (ok_few (hl.all x hx).2).2 (ok_few ho).2)
  obtain ⟨C, hC⟩ : ∃ C, C = e.d := ⟨_, rfl⟩
  rw [← hC] at HA ⊢
  have HL := Lib.hid hl
  obtain ⟨ll, hll⟩ : ∃ ll, ll = es.length := ⟨_, rfl⟩
  have HLL := Lib.hid hll
  rw [← hll] at hbig ⊢
  obtain ⟨k, n, s, ea, xs, lc, t⟩ := e
  obtain ⟨xl, hxl⟩ : ∃ xl, xl = xs.length := ⟨_, rfl⟩
  unfold En.dv at HA ⊢
  simp only [] at HA ⊢
  rw [← hxl] at HA ⊢
  clear hl hll hC hxl he ho
  go_enter Try.func20, Try.ntmps20
  go_wp2
  go_loopw [5, 6] (fun o i wr => ∃ (j m : Nat) (oa : Option Addr) (oc : Nat), j ≤ ll ∧ i = .int .i64 j ∧ o = .slice oa m oc ∧ Below (w.heap.size + 1) (w.alloc (.cells #[.int .i64 k, .int .i64 n, .string s, .slice ea xl lc] 33)) wr ∧ Hid (m = (findL (es.take j) C).length) ∧ Hid (IRow (w.heap.size + 1) wr (.slice oa m oc) (findL (es.take j) C))) (fun _ i _ => ll - (intOf i).toNat)
  case atStart => exact ⟨0, 0, none, 0, Nat.zero_le _, rfl, rfl, Below.refl _ _, Lib.hid rfl, Lib.hid (World.ownsRow_nil _ _ _ _)⟩
  case round =>
    obtain ⟨j, m, oa, oc, hj, rfl, rfl, hb, HM, HO⟩ := hrel
    obtain ⟨d0, d1, d2, d3⟩ := box_cells hb
    have HBW : Hid (Below w.heap.size w wr) := Lib.hid (below_al _ (by simpa using hb))
    have hsz : w.heap.size < wr.heap.size := by have := hb.size; simp at this; omega
    have HB := Lib.hid hb; clear hb
    by_cases hlt : j < ll
    · have hlt' : j < es.length := by rw [← HLL.out]; exact hlt
      obtain ⟨b, off, rfl, hbw, hc⟩ := (HL.out.below HBW.out).at hlt'
      obtain ⟨c0, c1, c2, c3, c4⟩ := hc j hlt'
      clear hc
      have hmem : es[j]'hlt' ∈ es := List.getElem_mem _
      obtain ⟨x, hx⟩ : ∃ x, x = es[j]'hlt' := ⟨_, rfl⟩
      have HTK : Hid (es.take (j + 1) = es.take j ++ [x]) := Lib.hid (by rw [List.take_succ_eq_append_getElem hlt', hx])
      rw [← hx] at c0 c1 c2 c3 c4 hmem
      have HCALL := HA.out wr.drew (HBW.out.trans ((Below.refl _ _).drew.mono HBW.out.size)) x hmem
      obtain ⟨q, hq⟩ : ∃ q, q = decide (x.d = C) := ⟨_, rfl⟩
      rw [← hq] at HCALL
      have hstep : findL (es.take (j + 1)) C = if q = true then findL (es.take j) C ++ [x.t] else findL (es.take j) C := by
        unfold findL
        rw [HTK.out, List.filter_append, List.filter_cons, List.filter_nil, hq]
        by_cases h : x.d = C
        · simp [h]
        · simp [h]
      have HSTEP := Lib.hid hstep
      have HLEN : Hid ((findL (es.take j) C).length ≤ ll) := Lib.hid (by
        unfold findL
        rw [List.length_map]
        refine Nat.le_trans (List.length_filter_le _ _) ?_
        rw [List.length_take]
        omega)
      obtain ⟨xk, xn, xt, xa, xxs, xlc, xtid⟩ := x
      simp only [] at c0 c1 c2 c3 c4 HCALL
      obtain ⟨xxl, hxxl⟩ : ∃ xxl, xxl = xxs.length := ⟨_, rfl⟩
      rw [← hxxl] at c3 HCALL
      have HCALL := Lib.hid HCALL
      clear hx hmem hq hxxl hstep
      have hji : (j : Int) < (ll : Int) := by omega
      have hj0 : (0 : Int) ≤ (j : Int) := by omega
      go_wp2
      go_still_tail 6, (by kernel_rfl)
      go_wp2_with fail
      refine HCALL.out.mono ?_
      rintro e w1 ⟨rfl, hb1⟩
      have HB1 : Hid (Below wr.heap.size wr w1) := Lib.hid ((Below.refl _ _).drew.trans hb1)
      have hw1 : wr.heap.size ≤ w1.heap.size := HB1.out.size
      have e4 := (HB1.out.cell (p := ⟨b, off + j * 5 + 4, none⟩) hbw).trans c4
      clear HCALL hb1 c0 c1 c2 c3 c4
      cases q
      · have HO2 : Hid (IRow (w.heap.size + 1) w1 (.slice oa m oc) (findL (es.take (j + 1)) C)) := Lib.hid (by rw [HSTEP.out]; exact HO.out.below HB1.out)
        have HM2 : Hid (m = (findL (es.take (j + 1)) C).length) := Lib.hid (by rw [HSTEP.out]; exact HM.out)
        go_wp2
        go_roundw
        case rel => exact ⟨j + 1, m, oa, oc, by omega, by go_num, rfl, HB.out.trans (HB1.out.mono (by omega)), HM2, HO2⟩
        case measure => simp [intOf]; omega
      · obtain ⟨na, nc, w2, hr2, ho2, hb2⟩ := putInt 28 (HO.out.below HB1.out) xtid 3 (Nat.le_trans HLEN.out hbig) (by omega)
        rw [← HM.out] at hr2 ho2
        have HB2 : Hid (Below (w.heap.size + 1) (w.alloc (.cells #[.int .i64 k, .int .i64 n, .string s, .slice ea xl lc] 33)) w2) := Lib.hid ((HB.out.trans (HB1.out.mono (by omega))).trans hb2)
        have HO2 : Hid (IRow (w.heap.size + 1) w2 (.slice na (m + 1) nc) (findL (es.take (j + 1)) C)) := Lib.hid (by rw [HSTEP.out]; exact ho2)
        have HM2 : Hid (m + 1 = (findL (es.take (j + 1)) C).length) := Lib.hid (by rw [HSTEP.out]; simp [HM.out])
        clear hb2 ho2
        go_wp2_with (at_builtin; refine Lib.wpList_append_run _ rfl _ _ 28 28 rfl _ _ rfl rfl _ _ hr2 ?_)
        go_roundw
        case rel => exact ⟨j + 1, m + 1, na, nc, by omega, by go_num, rfl, HB2.out, HM2, HO2⟩
        case measure => simp [intOf]; omega
    · have HE : Hid (IRow (w.heap.size + 1) wr (.slice oa m oc) (findL es C)) := Lib.hid (by
        have h := HO.out
        rw [List.take_of_length_le (by have := HLL.out; omega)] at h
        exact h)
      go_wp2
      go_ret
      exact ⟨_, rfl, HE.out.mono (by omega), HBW.out⟩

set_option maxHeartbeats 1600000 in
theorem ints_any (a : Option Addr) (l : List Int) (c : Nat) (a' : Option Addr) (m : List Int) (c' : Nat) (w : World) (hl : IntsW w a l) (hl' : IntsW w a' m) (hbig : l.length ≤ 2199023255552) :
    Calls Try.prog 46 #[.slice a l.length c, .slice a' m.length c'] w fun r w' => r = .returned (.bool (decide (l = m))) ∧ Below w.heap.size w w' := by
  obtain ⟨R, hR⟩ : ∃ R, R = decide (l = m) := ⟨_, rfl⟩
  rw [← hR]
  have HR := Lib.hid hR; have HL := Lib.hid hl; have HL' := Lib.hid hl'
  by_cases hlen : l.length = m.length
  · rw [← hlen]
    have HLN := Lib.hid hlen
    obtain ⟨ll, hll⟩ : ∃ ll, ll = l.length := ⟨_, rfl⟩
    have HLL := Lib.hid hll
    rw [← hll] at hbig ⊢
    clear hR hl hl' hll hlen
    go_enter Try.func46, Try.ntmps46
    go_wp2
    go_loopw [5] (fun i wr => ∃ j : Nat, j ≤ ll ∧ i = .int .i64 j ∧ Hid (Below w.heap.size w wr) ∧ Hid (l.take j = m.take j)) (fun i _ => ll - (intOf i).toNat)
    case atStart => exact ⟨0, Nat.zero_le _, rfl, Lib.hid (Below.refl _ _), Lib.hid rfl⟩
    case round =>
      obtain ⟨j, hj, rfl, HBW, HP⟩ := hrel
      by_cases hlt : j < ll
      · have hlt' : j < l.length := by rw [← HLL.out]; exact hlt
        have hlt2 : j < m.length := by rw [← HLN.out]; exact hlt'
        have h1 := HL.out.below HBW.out
        have h2 := HL'.out.below HBW.out
        obtain ⟨b, off, rfl, hbw, hc⟩ : ∃ b off, a = some ⟨b, off, none⟩ ∧ b < wr.heap.size ∧ ∀ j (h : j < l.length), wr.cell? ⟨b, off + j, none⟩ = some (.int .i64 (l[j]'h)) := by
          rcases h1 with h | h
          · rw [h] at hlt'; simp at hlt'
          · exact h
        obtain ⟨b', off', rfl, hbw', hc'⟩ : ∃ b off, a' = some ⟨b, off, none⟩ ∧ b < wr.heap.size ∧ ∀ j (h : j < m.length), wr.cell? ⟨b, off + j, none⟩ = some (.int .i64 (m[j]'h)) := by
          rcases h2 with h | h
          · rw [h] at hlt2; simp at hlt2
          · exact h
        have c0 := hc j hlt'
        have c1 := hc' j hlt2
        obtain ⟨x, hx⟩ : ∃ x, x = l[j]'hlt' := ⟨_, rfl⟩
        obtain ⟨y, hy⟩ : ∃ y, y = m[j]'hlt2 := ⟨_, rfl⟩
        rw [← hx] at c0
        rw [← hy] at c1
        have HX := Lib.hid hx
        have HY := Lib.hid hy
        clear h1 h2 hc hc' hx hy
        have hji : (j : Int) < (ll : Int) := by omega
        by_cases he : x = y
        · have hb : (x != y) = false := by simp [he]
          have HN : Hid (l.take (j + 1) = m.take (j + 1)) := Lib.hid (by
            rw [List.take_succ_eq_append_getElem hlt', List.take_succ_eq_append_getElem hlt2, HP.out, ← HX.out, ← HY.out, he])
          clear he
          go_wp2
          go_quiet (fail)
          have HBN : Hid (Below w.heap.size w (wr.drewN nq)) := Lib.hid (HBW.out.trans ((below_drewN wr nq).mono HBW.out.size))
          go_wp2
          go_roundw
          case rel => exact ⟨j + 1, by omega, by go_num, HBN, HN⟩
          case measure => simp [intOf]; omega
        · have hb : (x != y) = true := by rw [bne_iff_ne]; exact he
          have HT : Hid (R = false) := Lib.hid (by
            rw [HR.out, decide_eq_false_iff_not]
            intro h
            apply he
            rw [HX.out, HY.out]
            simp only [h])
          clear he
          go_wp2
          go_quiet (fail)
          have HBN : Hid (Below w.heap.size w (wr.drewN nq)) := Lib.hid (HBW.out.trans ((below_drewN wr nq).mono HBW.out.size))
          go_wp2
          go_ret
          exact ⟨congrArg (fun b => Ending.returned (.bool b)) HT.out.symm, HBN.out⟩
      · have HT : Hid (R = true) := Lib.hid (by
          rw [HR.out, decide_eq_true_eq]
          have h := HP.out
          rwa [List.take_of_length_le (by have := HLL.out; omega), List.take_of_length_le (by have := HLL.out; have := HLN.out; omega)] at h)
        go_wp2
        go_ret
        exact ⟨congrArg (fun b => Ending.returned (.bool b)) HT.out.symm, HBW.out⟩
  · have HT : Hid (R = false) := Lib.hid (by
      rw [HR.out, decide_eq_false_iff_not]
      intro h
      exact hlen (congrArg List.length h))
    obtain ⟨ll, hll⟩ : ∃ ll, ll = l.length := ⟨_, rfl⟩
    obtain ⟨kl, hkl⟩ : ∃ kl, kl = m.length := ⟨_, rfl⟩
    rw [← hll, ← hkl] at hlen ⊢
    have hb : ((ll : Int) != (kl : Int)) = true := by rw [bne_iff_ne]; omega
    clear hR hl hl' HL HL' HR hll hkl
    go_enter Try.func46, Try.ntmps46
    go_wp2
    go_ret
    exact ⟨congrArg (fun b => Ending.returned (.bool b)) HT.out.symm, Below.refl _ _⟩
end Go.Proofs.Ytnnmigglcpkomaa.Dm
