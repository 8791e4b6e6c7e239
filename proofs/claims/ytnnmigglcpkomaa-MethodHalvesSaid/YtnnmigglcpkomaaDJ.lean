/- Rows of entries that a call owns, one entry appended; the document's Without. -/
import Derived.Test.YtnnmigglcpkomaaDI
import Derived.Deep.DeepAppendWide
set_option maxRecDepth 100000
namespace Go.Proofs.Ytnnmigglcpkomaa.Dm
open Go Go.RowKit

theorem infoEn : (Try.prog.info? 35).map (fun i => (i.zero, i.size, i.bytes)) = some (some (.agg #[.int .i64 0, .int .i64 0, .string ⟨#[]⟩, .slice none 0 0, .int .i64 0]), 5, 64) := by kernel_rfl

/-- An entry's cells. -/
def cellsE (e : En) : List Value := [.int .i64 e.k, .int .i64 e.n, .string e.s, .slice e.a e.xs.length e.lc, .int .i64 e.t]
def rowE (es : List En) : List Value := es.flatMap cellsE
theorem rowE_app (a b : List En) : rowE (a ++ b) = rowE a ++ rowE b := by unfold rowE; rw [List.flatMap_append]
theorem rowE_length (es : List En) : (rowE es).length = es.length * 5 := by
  induction es with
  | nil => rfl
  | cons e l ih =>
    show (cellsE e ++ rowE l).length = _
    rw [List.length_append, ih, List.length_cons]
    show 5 + l.length * 5 = _
    omega
theorem rowE_get : ∀ (es : List En) (j : Nat) (h : j < es.length) (i : Nat), i < 5 → (rowE es)[j * 5 + i]? = (cellsE (es[j]'h))[i]?
  | e :: l, 0, _, i, hi => by
    show (cellsE e ++ rowE l)[0 * 5 + i]? = _
    rw [Nat.zero_mul, Nat.zero_add, List.getElem?_append_left (by show i < 5; exact hi)]
    rfl
  | e :: l, j + 1, h, i, hi => by
    show (cellsE e ++ rowE l)[(j + 1) * 5 + i]? = _
    rw [List.getElem?_append_right (by show 5 ≤ _; omega)]
    have e1 : (j + 1) * 5 + i - (cellsE e).length = j * 5 + i := by show (j + 1) * 5 + i - 5 = _; omega
    rw [e1, rowE_get l j (by simpa using h) i hi]
    rfl

/-- Entries that lie in a row of their own, from block B on. -/
def Rows (B : Nat) (w : World) (v : Value) (es : List En) : Prop := w.ownsRow B 35 5 v es.length (rowE es)
theorem Rows.below {B : Nat} {w w' : World} {v : Value} {es : List En} (h : Rows B w v es) (hb : Below w.heap.size w w') : Rows B w' v es := ownsRow_of_block h fun k hk => hb.block k (h.lt k hk).2
theorem Rows.shape {B : Nat} {w : World} {v : Value} {es : List En} (h : Rows B w v es) : ∃ a c, v = .slice a es.length c := by
  rcases h.2 with ⟨rfl, h0⟩ | ⟨g, cap, cur, rfl, _⟩
  · exact ⟨none, 0, by rw [h0]⟩
  · exact ⟨_, cap, rfl⟩
theorem Rows.mono {B B' : Nat} {w : World} {v : Value} {es : List En} (h : Rows B w v es) (hB : B' ≤ B) : Rows B' w v es :=
  ⟨h.1, h.2.imp id fun ⟨g, cap, cur, h1, h2, h3⟩ => ⟨g, cap, cur, h1, Nat.le_trans hB h2, h3⟩⟩
theorem Rows.ens {B : Nat} {w : World} {a : Option Addr} {n c : Nat} {es : List En} (h : Rows B w (.slice a n c) es) (hall : ∀ e, e ∈ es → e.In w ∧ e.ok = true) : EnsW w a es := by
  refine ⟨?_, hall⟩
  rcases h.2 with ⟨_, h0⟩ | ⟨g, cap, cur, hv, hB, hg, _⟩
  · exact .inl (List.eq_nil_of_length_eq_zero h0)
  · injection hv with hv _ _
    subst hv
    refine .inr ⟨g, 0, rfl, (Array.getElem?_eq_some_iff.1 hg).1, fun j hj => ?_⟩
    have hc : ∀ i, i < 5 → ∀ u, (cellsE (es[j]'hj))[i]? = some u → w.cell? ⟨g, 0 + j * 5 + i, none⟩ = some u := fun i hi u hu => by
      have := h.cells (g := g) rfl (j * 5 + i) u (by rw [rowE_get es j hj i hi]; exact hu)
      rw [Addr.add_lit] at this
      rw [show 0 + j * 5 + i = 0 + (j * 5 + i) from by omega]
      exact this
    exact ⟨hc 0 (by omega) _ rfl, hc 1 (by omega) _ rfl, hc 2 (by omega) _ rfl, hc 3 (by omega) _ rfl, hc 4 (by omega) _ rfl⟩

theorem append_en (w : World) (ty : TypeId) (B : Nat) (v : Value) (es : List En) (h : Rows B w v es) (e : En) (g c : Nat) (hc : ∀ i, i < 5 → ∀ u, (cellsE e)[i]? = some u → w.cell? ⟨g, i, none⟩ = some u) (hl : es.length ≤ 2199023255552) (hB : B ≤ w.heap.size) :
    ∃ v' w', (Builtin.append_ #[25, 25] ty #[v, .slice (some ⟨g, 0, none⟩) 1 c]).run Try.prog w = .ok v' w' ∧ Rows B w' v' (es ++ [e]) ∧ Below B w w' := by
  obtain ⟨i0, hi, q0, q1, q2⟩ := info_parts infoEn
  obtain ⟨v', w', hr, h2, h3, _⟩ := run_append_own_wide (P := Try.prog) w B 25 ty 35 i0 _ 5 64 Try.underlying25 hi q0 q1 q2 rfl (by decide) v es.length (rowE es) h ⟨g, 0, none⟩ 1 c (cellsE e) rfl (fun j u hu => by
    have hj : j < 5 := by
      obtain ⟨h1, _⟩ := List.getElem?_eq_some_iff.1 hu
      exact h1
    rw [Addr.add_lit, Nat.zero_add]
    exact hc j hj u hu) (fun u hu => by
      simp only [cellsE, List.mem_cons, List.not_mem_nil, or_false] at hu
      rcases hu with rfl | rfl | rfl | rfl | rfl <;> rfl) (by unfold maxLen; omega) (by omega) hB
  refine ⟨v', w', hr, ?_, ⟨h3.os, h3.tape, h3.output, h3.size, fun k hk => h3.block k (Nat.lt_of_lt_of_le hk hB) (fun e => by have := (h.lt k e.symm).1; omega)⟩⟩
  rw [Rows, rowE_app, List.length_append]
  have : rowE [e] = cellsE e := by simp [rowE]
  rw [this]
  exact h2

/-- A literal's cells. -/
theorem lit_cells (w : World) (e : En) (T : TypeId) : ∀ i, i < 5 → ∀ u, (cellsE e)[i]? = some u → (w.alloc (.cells #[.int .i64 e.k, .int .i64 e.n, .string e.s, .slice e.a e.xs.length e.lc, .int .i64 e.t] T)).cell? ⟨w.heap.size, i, none⟩ = some u := fun i hi u hu => by
  rw [Lib.cell_of_heap (heap_alloc_new w _)]
  have : ∀ l : List Value, l.toArray[i]? = l[i]? := fun l => by simp
  exact (this (cellsE e)).trans hu

/-- An entry is put behind a row that lies in memory made since. -/
theorem put_en {B : Nat} {w : World} (ty : TypeId) {v : Value} {es : List En} (h : Rows B w v es) (e : En) (T : TypeId) (hl : es.length ≤ 2199023255552) (hB : B ≤ w.heap.size) :
    ∃ a c w', (Builtin.append_ #[25, 25] ty #[v, .slice (some ⟨w.heap.size, 0, none⟩) 1 1]).run Try.prog (w.alloc (.cells #[.int .i64 e.k, .int .i64 e.n, .string e.s, .slice e.a e.xs.length e.lc, .int .i64 e.t] T)) = .ok (.slice a (es.length + 1) c) w' ∧ Rows B w' (.slice a (es.length + 1) c) (es ++ [e]) ∧ Below B w w' := by
  have hb := (Below.refl w.heap.size w).alloc (Nat.le_refl _) (.cells #[.int .i64 e.k, .int .i64 e.n, .string e.s, .slice e.a e.xs.length e.lc, .int .i64 e.t] T)
  obtain ⟨v', w', hr, h2, h3⟩ := append_en _ ty B v es (h.below hb) e w.heap.size 1 (lit_cells w e T) hl (Nat.le_trans hB hb.size)
  obtain ⟨a, c, rfl⟩ := h2.shape
  rw [List.length_append, List.length_singleton] at hr h2
  exact ⟨a, c, w', hr, h2, (hb.mono hB).trans h3⟩

def withoutL (es : List En) (C : Et) : List En := es.filter fun x => decide (x.c ≠ C)
theorem withoutL_c (es : List En) (C : Et) : consE (withoutL es C) = withoutE (consE es) C := by
  unfold consE withoutL withoutE
  rw [List.filter_map]
  rfl

set_option maxHeartbeats 1600000 in
theorem without_any (a : Option Addr) (es : List En) (c : Nat) (e : En) (w : World) (he : e.In w) (ho : e.ok = true) (hl : EnsW w a es) (hbig : es.length ≤ 2199023255552) :
    Calls Try.prog 44 #[.slice a es.length c, e.v] w fun r w' => ∃ v, r = .returned v ∧ Rows w.heap.size w' v (withoutL es e.c) ∧ Below w.heap.size w w' := by
  have HA : Hid (∀ W, Below w.heap.size w W → ∀ x, x ∈ es → Calls Try.prog 21 #[x.v, e.v] W fun r w' => r = .returned (.bool (decide (x.c = e.c))) ∧ Below W.heap.size W w') :=
    Lib.hid (fun W hW x hx => same9_any x e W ((hl.all x hx).1.below hW) (he.below hW) (hl.all x hx).2 ho)
  obtain ⟨C, hC⟩ : ∃ C, C = e.c := ⟨_, rfl⟩
  rw [← hC] at HA ⊢
  have HL := Lib.hid hl
  obtain ⟨ll, hll⟩ : ∃ ll, ll = es.length := ⟨_, rfl⟩
  have HLL := Lib.hid hll
  rw [← hll] at hbig ⊢
  obtain ⟨k, n, s, ea, xs, lc, t⟩ := e
  obtain ⟨xl, hxl⟩ : ∃ xl, xl = xs.length := ⟨_, rfl⟩
  unfold En.v at HA ⊢
  simp only [] at HA ⊢
  rw [← hxl] at HA ⊢
  clear hl hll hC hxl he ho
  go_enter Try.func44, Try.ntmps44
  go_wp2
  go_loopw [5, 6] (fun o i wr => ∃ (j m : Nat) (oa : Option Addr) (oc : Nat), j ≤ ll ∧ i = .int .i64 j ∧ o = .slice oa m oc ∧ Below (w.heap.size + 1) (w.alloc (.cells #[.int .i64 k, .int .i64 n, .string s, .slice ea xl lc, .int .i64 t] 35)) wr ∧ Hid (m = (withoutL (es.take j) C).length) ∧ Hid (Rows (w.heap.size + 1) wr (.slice oa m oc) (withoutL (es.take j) C))) (fun _ i _ => ll - (intOf i).toNat)
  case atStart => exact ⟨0, 0, none, 0, Nat.zero_le _, rfl, rfl, Below.refl _ _, Lib.hid rfl, Lib.hid (World.ownsRow_nil _ _ _ _)⟩
  case round =>
    obtain ⟨j, m, oa, oc, hj, rfl, rfl, hb, HM, HO⟩ := hrel
    obtain ⟨d0, d1, d2, d3, d4⟩ := box5 hb
    have HBW : Hid (Below w.heap.size w wr) := Lib.hid (below_al _ (by simpa using hb))
    have hsz : w.heap.size < wr.heap.size := by have := hb.size; simp at this; omega
    have HB := Lib.hid hb; clear hb
    by_cases hlt : j < ll
    · have hlt' : j < es.length := by rw [← HLL.out]; exact hlt
      obtain ⟨b, off, rfl, hbw, hc⟩ := (HL.out.below HBW.out).at hlt'
      obtain ⟨c0, c1, c2, c3, c4⟩ := hc j hlt'
      clear hc
      have hmem : es[j]'hlt' ∈ es := List.getElem_mem _
      obtain ⟨x, hx⟩ : ∃ x, x = es[j]'hlt' := ⟨_, rfl⟩
      have HTK : Hid (es.take (j + 1) = es.take j ++ [x]) := Lib.hid (by rw [List.take_succ_eq_append_getElem hlt', hx])
      rw [← hx] at c0 c1 c2 c3 c4 hmem
      have HCALL := HA.out wr.drew (HBW.out.trans ((Below.refl _ _).drew.mono HBW.out.size)) x hmem
      obtain ⟨q, hq⟩ : ∃ q, q = decide (x.c = C) := ⟨_, rfl⟩
      rw [← hq] at HCALL
      have hstep : withoutL (es.take (j + 1)) C = if q = true then withoutL (es.take j) C else withoutL (es.take j) C ++ [x] := by
        unfold withoutL
        rw [HTK.out, List.filter_append, List.filter_cons, List.filter_nil, hq]
        by_cases h : x.c = C
        · simp [h]
        · simp [h]
      have HSTEP := Lib.hid hstep
      have HLEN : Hid ((withoutL (es.take j) C).length ≤ ll) := Lib.hid (by
        refine Nat.le_trans (List.length_filter_le _ _) ?_
        rw [List.length_take]
        omega)
      have HPUT : Hid (∀ W V, Below wr.heap.size wr W → V = W → ∃ a c w', (Builtin.append_ #[25, 25] 25 #[.slice oa m oc, .slice (some ⟨W.heap.size, 0, none⟩) 1 1]).run Try.prog (V.alloc (.cells #[.int .i64 x.k, .int .i64 x.n, .string x.s, .slice x.a x.xs.length x.lc, .int .i64 x.t] 35)) = .ok (.slice a (m + 1) c) w' ∧ Rows (w.heap.size + 1) w' (.slice a (m + 1) c) (withoutL (es.take j) C ++ [x]) ∧ Below (w.heap.size + 1) W w') := Lib.hid (fun W V hW e => by
        subst e
        have h := put_en 25 (HO.out.below hW) x 35 (Nat.le_trans HLEN.out hbig) (by have := hW.size; omega)
        rw [← HM.out] at h
        exact h)
      obtain ⟨xk, xn, xt, xa, xxs, xlc, xtid⟩ := x
      simp only [] at c0 c1 c2 c3 c4 HCALL HPUT
      obtain ⟨xxl, hxxl⟩ : ∃ xxl, xxl = xxs.length := ⟨_, rfl⟩
      rw [← hxxl] at c3 HCALL HPUT
      have HCALL := Lib.hid HCALL
      clear hx hmem hq hxxl hstep
      have hji : (j : Int) < (ll : Int) := by omega
      have hj0 : (0 : Int) ≤ (j : Int) := by omega
      go_wp2
      go_still_tail 5, (by kernel_rfl)
      go_wp2_with fail
      refine HCALL.out.mono ?_
      rintro e w1 ⟨rfl, hb1⟩
      have HB1 : Hid (Below wr.heap.size wr w1) := Lib.hid ((Below.refl _ _).drew.trans hb1)
      have hw1 : wr.heap.size ≤ w1.heap.size := HB1.out.size
      have e0 := (HB1.out.cell (p := ⟨b, off + j * 5, none⟩) hbw).trans c0
      have e1 := (HB1.out.cell (p := ⟨b, off + j * 5 + 1, none⟩) hbw).trans c1
      have e2 := (HB1.out.cell (p := ⟨b, off + j * 5 + 2, none⟩) hbw).trans c2
      have e3 := (HB1.out.cell (p := ⟨b, off + j * 5 + 3, none⟩) hbw).trans c3
      have e4 := (HB1.out.cell (p := ⟨b, off + j * 5 + 4, none⟩) hbw).trans c4
      clear HCALL hb1 c0 c1 c2 c3 c4
      cases q
      · obtain ⟨na, nc, w2, hr2, ho2, hb2⟩ := HPUT.out w1 w1 HB1.out rfl
        have HB2 : Hid (Below (w.heap.size + 1) (w.alloc (.cells #[.int .i64 k, .int .i64 n, .string s, .slice ea xl lc, .int .i64 t] 35)) w2) := Lib.hid ((HB.out.trans (HB1.out.mono (by omega))).trans hb2)
        have HO2 : Hid (Rows (w.heap.size + 1) w2 (.slice na (m + 1) nc) (withoutL (es.take (j + 1)) C)) := Lib.hid (by rw [HSTEP.out]; exact ho2)
        have HM2 : Hid (m + 1 = (withoutL (es.take (j + 1)) C).length) := Lib.hid (by rw [HSTEP.out]; simp [HM.out])
        clear hb2 ho2
        go_wp2_with (at_builtin; refine Lib.wpList_append_run _ rfl _ _ 25 25 rfl _ _ rfl rfl _ _ hr2 ?_)
        go_roundw
        case rel => exact ⟨j + 1, m + 1, na, nc, by omega, by go_num, rfl, HB2.out, HM2, HO2⟩
        case measure => simp [intOf]; omega
      · have HO2 : Hid (Rows (w.heap.size + 1) w1 (.slice oa m oc) (withoutL (es.take (j + 1)) C)) := Lib.hid (by rw [HSTEP.out]; exact HO.out.below HB1.out)
        have HM2 : Hid (m = (withoutL (es.take (j + 1)) C).length) := Lib.hid (by rw [HSTEP.out]; exact HM.out)
        go_wp2
        go_roundw
        case rel => exact ⟨j + 1, m, oa, oc, by omega, by go_num, rfl, HB.out.trans (HB1.out.mono (by omega)), HM2, HO2⟩
        case measure => simp [intOf]; omega
    · have HE : Hid (Rows (w.heap.size + 1) wr (.slice oa m oc) (withoutL es C)) := Lib.hid (by
        have h := HO.out
        rw [List.take_of_length_le (by have := HLL.out; omega)] at h
        exact h)
      go_wp2
      go_ret
      exact ⟨_, rfl, HE.out.mono (by omega), HBW.out⟩
end Go.Proofs.Ytnnmigglcpkomaa.Dm
