/- The document's With: the entry stands where it belongs. -/
import Derived.Test.YtnnmigglcpkomaaDJ
set_option maxRecDepth 100000
namespace Go.Proofs.Ytnnmigglcpkomaa.Dm
open Go Go.RowKit

def withL (es : List En) (e : En) : List En := es.takeWhile (fun x => !aheadE e.c x.c) ++ e :: es.dropWhile (fun x => !aheadE e.c x.c)
theorem withL_c (es : List En) (e : En) : consE (withL es e) = withE (consE es) e.c := by
  unfold consE withL withE
  rw [List.map_append, List.map_cons, List.takeWhile_map, List.dropWhile_map]
  rfl

/-- What With has put behind j entries. -/
def WI (es : List En) (e : En) (j : Nat) (dn : Bool) (out : List En) : Prop :=
  (dn = false ∧ out = es.take j ∧ ∀ x, x ∈ es.take j → aheadE e.c x.c = false) ∨ (dn = true ∧ out ++ es.drop j = withL es e)
theorem WI.start (es : List En) (e : En) : WI es e 0 false [] := .inl ⟨rfl, by simp, fun x hx => by simp at hx⟩
theorem WI.skip {es : List En} {e : En} {j : Nat} {out : List En} (h : WI es e j false out) (hj : j < es.length) (ha : aheadE e.c (es[j]'hj).c = false) : WI es e (j + 1) false (out ++ [es[j]'hj]) := by
  rcases h with ⟨_, h1, h2⟩ | ⟨h, _⟩
  · refine .inl ⟨rfl, by rw [List.take_succ_eq_append_getElem hj, h1], fun x hx => ?_⟩
    rw [List.take_succ_eq_append_getElem hj] at hx
    rcases List.mem_append.1 hx with hx | hx
    · exact h2 x hx
    · rw [List.mem_singleton.1 hx]; exact ha
  · cases h
theorem withL_at {es : List En} {e : En} {j : Nat} (h : ∀ x, x ∈ es.take j → aheadE e.c x.c = false) (hn : ∀ (hj : j < es.length), aheadE e.c (es[j]'hj).c = true) : withL es e = es.take j ++ e :: es.drop j := by
  have h1 : ∀ (l m : List En), (∀ x, x ∈ l → aheadE e.c x.c = false) → (∀ x, m.head? = some x → aheadE e.c x.c = true) → withL (l ++ m) e = l ++ e :: m := by
    intro l m hl hm
    induction l with
    | nil =>
      cases m with
      | nil => rfl
      | cons y m =>
        have := hm y rfl
        simp [withL, this]
    | cons y l ih =>
      have hy := hl y (List.mem_cons_self ..)
      have := ih (fun x hx => hl x (List.mem_cons_of_mem _ hx))
      unfold withL at this ⊢
      simp only [List.cons_append, List.takeWhile_cons, List.dropWhile_cons, hy, Bool.not_false, if_true, List.cons_append]
      rw [this]
  have h2 := h1 (es.take j) (es.drop j) h (fun x hx => by
    by_cases hj : j < es.length
    · rw [List.drop_eq_getElem_cons hj, List.head?_cons] at hx
      injection hx with hx
      rw [← hx]; exact hn hj
    · rw [List.drop_of_length_le (by omega)] at hx; cases hx)
  rwa [List.take_append_drop] at h2
theorem WI.here {es : List En} {e : En} {j : Nat} {out : List En} (h : WI es e j false out) (hj : j < es.length) (ha : aheadE e.c (es[j]'hj).c = true) : WI es e (j + 1) true (out ++ [e] ++ [es[j]'hj]) := by
  rcases h with ⟨_, h1, h2⟩ | ⟨h, _⟩
  · refine .inr ⟨rfl, ?_⟩
    rw [withL_at h2 (fun _ => ha), h1, List.append_assoc, List.append_assoc]
    congr 1
    rw [List.drop_eq_getElem_cons hj]
    rfl
  · cases h
theorem WI.go {es : List En} {e : En} {j : Nat} {out : List En} (h : WI es e j true out) (hj : j < es.length) : WI es e (j + 1) true (out ++ [es[j]'hj]) := by
  rcases h with ⟨h, _⟩ | ⟨_, h⟩
  · cases h
  · refine .inr ⟨rfl, ?_⟩
    rw [← h, List.append_assoc, List.drop_eq_getElem_cons hj]
    rfl
theorem WI.endF {es : List En} {e : En} {j : Nat} {out : List En} (h : WI es e j false out) (hj : es.length ≤ j) : out ++ [e] = withL es e := by
  rcases h with ⟨_, h1, h2⟩ | ⟨h, _⟩
  · rw [withL_at h2 (fun hl => absurd hl (by omega)), h1, List.drop_of_length_le hj]
  · cases h
theorem WI.endT {es : List En} {e : En} {j : Nat} {out : List En} (h : WI es e j true out) (hj : es.length ≤ j) : out = withL es e := by
  rcases h with ⟨h, _⟩ | ⟨_, h⟩
  · cases h
  · rwa [List.drop_of_length_le hj, List.append_nil] at h
theorem withL_length (es : List En) (e : En) : (withL es e).length = es.length + 1 := by
  unfold withL
  rw [List.length_append, List.length_cons]
  have := congrArg List.length (List.takeWhile_append_dropWhile (p := fun x => !aheadE e.c x.c) (l := es))
  rw [List.length_append] at this
  omega
theorem WI.len {es : List En} {e : En} {j : Nat} {dn : Bool} {out : List En} (h : WI es e j dn out) (hj : j ≤ es.length) : out.length ≤ es.length + 1 := by
  rcases h with ⟨_, h1, h2⟩ | ⟨_, h⟩
  · rw [h1, List.length_take]; omega
  · have := congrArg List.length h
    rw [withL_length, List.length_append] at this
    omega

set_option maxHeartbeats 3200000 in
theorem with_any (a : Option Addr) (es : List En) (c : Nat) (e : En) (w : World) (he : e.In w) (ho : e.ok = true) (hl : EnsW w a es) (hbig : es.length ≤ 2199023255540) :
    Calls Try.prog 43 #[.slice a es.length c, e.v] w fun r w' => ∃ v, r = .returned v ∧ Rows w.heap.size w' v (withL es e) ∧ Below w.heap.size w w' := by
  have HA : Hid (∀ W, Below w.heap.size w W → ∀ x, x ∈ es → Calls Try.prog 57 #[e.v, x.v] W fun r w' => r = .returned (.bool (aheadE e.c x.c)) ∧ Below W.heap.size W w') :=
    Lib.hid (fun W hW x hx => ahead9_any e x W (he.below hW) ((hl.all x hx).1.below hW) ho (hl.all x hx).2)
  have HL := Lib.hid hl
  obtain ⟨ll, hll⟩ : ∃ ll, ll = es.length := ⟨_, rfl⟩
  have HLL := Lib.hid hll
  rw [← hll] at hbig ⊢
  obtain ⟨ef, hef⟩ : ∃ f, f = e := ⟨_, rfl⟩
  rw [show withL es e = withL es ef from by rw [hef]]
  have HEF := Lib.hid hef
  obtain ⟨k, n, s, ea, xs, lc, t⟩ := e
  obtain ⟨xl, hxl⟩ : ∃ xl, xl = xs.length := ⟨_, rfl⟩
  have HPE : Hid (∀ W (oa : Option Addr) (oc m : Nat) (out : List En), m = out.length → m ≤ ll + 1 → Rows (w.heap.size + 1) W (.slice oa m oc) out → w.heap.size + 1 ≤ W.heap.size → ∃ a c w', (Builtin.append_ #[25, 25] 25 #[.slice oa m oc, .slice (some ⟨W.heap.size, 0, none⟩) 1 1]).run Try.prog (W.alloc (.cells #[.int .i64 k, .int .i64 n, .string s, .slice ea xl lc, .int .i64 t] 35)) = .ok (.slice a (m + 1) c) w' ∧ Rows (w.heap.size + 1) w' (.slice a (m + 1) c) (out ++ [ef]) ∧ Below (w.heap.size + 1) W w') := Lib.hid (fun W oa oc m out hm hle hR hB => by
    have h := put_en 25 hR ⟨k, n, s, ea, xs, lc, t⟩ 35 (by omega) hB
    rw [← hm, ← hef] at h
    rw [hxl]
    have e1 : (.cells #[.int .i64 k, .int .i64 n, .string s, .slice ea xs.length lc, .int .i64 t] 35 : Obj) = .cells #[.int .i64 ef.k, .int .i64 ef.n, .string ef.s, .slice ef.a ef.xs.length ef.lc, .int .i64 ef.t] 35 := by rw [hef]
    rw [e1]
    exact h)
  unfold En.v at HA ⊢
  simp only [] at HA ⊢
  rw [← hxl] at HA ⊢
  rw [← hef] at HA
  clear hl hll hxl he ho hef
  go_enter Try.func43, Try.ntmps43
  go_wp2
  go_loopw [5, 6, 7] (fun o d i wr => ∃ (j m : Nat) (dn : Bool) (oa : Option Addr) (oc : Nat) (out : List En), j ≤ ll ∧ i = .int .i64 j ∧ d = .bool dn ∧ o = .slice oa m oc ∧ Below (w.heap.size + 1) (w.alloc (.cells #[.int .i64 k, .int .i64 n, .string s, .slice ea xl lc, .int .i64 t] 35)) wr ∧ Hid (m = out.length) ∧ Hid (WI es ef j dn out) ∧ Hid (Rows (w.heap.size + 1) wr (.slice oa m oc) out)) (fun _ _ i _ => ll - (intOf i).toNat)
  case atStart => exact ⟨0, 0, false, none, 0, [], Nat.zero_le _, rfl, rfl, rfl, Below.refl _ _, Lib.hid rfl, Lib.hid (WI.start es ef), Lib.hid (World.ownsRow_nil _ _ _ _)⟩
  case round =>
    obtain ⟨j, m, dn, oa, oc, out, hj, rfl, rfl, rfl, hb, HM, HI, HO⟩ := hrel
    obtain ⟨d0, d1, d2, d3, d4⟩ := box5 hb
    have HBW : Hid (Below w.heap.size w wr) := Lib.hid (below_al _ (by simpa using hb))
    have hsz : w.heap.size < wr.heap.size := by have := hb.size; simp at this; omega
    have HB := Lib.hid hb; clear hb
    have hm : m ≤ ll + 1 := by rw [HM.out, HLL.out]; exact HI.out.len (by rw [← HLL.out]; exact hj)
    by_cases hlt : j < ll
    · have hlt' : j < es.length := by rw [← HLL.out]; exact hlt
      obtain ⟨b, off, rfl, hbw, hc⟩ := HL.out.at hlt'
      have hcw := hc j hlt'
      clear hc
      have hmem : es[j]'hlt' ∈ es := List.getElem_mem _
      obtain ⟨x, hx⟩ : ∃ x, x = es[j]'hlt' := ⟨_, rfl⟩
      rw [← hx] at hcw hmem
      have HX := Lib.hid hx
      obtain ⟨xf, hxf⟩ : ∃ f, f = x := ⟨_, rfl⟩
      have HXF : Hid (xf = es[j]'hlt') := Lib.hid (hxf.trans hx)
      have HCALL := HA.out wr.drew (HBW.out.trans ((Below.refl _ _).drew.mono HBW.out.size)) x hmem
      obtain ⟨q, hq⟩ : ∃ q, q = aheadE ef.c x.c := ⟨_, rfl⟩
      rw [← hq] at HCALL
      have HQ : Hid (q = aheadE ef.c (es[j]'hlt').c) := Lib.hid (by rw [hq, hx])
      obtain ⟨xk, xn, xt, xa, xxs, xlc, xtid⟩ := x
      simp only [] at hcw HCALL
      obtain ⟨xxl, hxxl⟩ : ∃ xxl, xxl = xxs.length := ⟨_, rfl⟩
      have HPX : Hid (∀ W (oa : Option Addr) (oc m : Nat) (out : List En), m = out.length → m ≤ ll + 2 → Rows (w.heap.size + 1) W (.slice oa m oc) out → w.heap.size + 1 ≤ W.heap.size → ∃ a c w', (Builtin.append_ #[25, 25] 25 #[.slice oa m oc, .slice (some ⟨W.heap.size, 0, none⟩) 1 1]).run Try.prog (W.alloc (.cells #[.int .i64 xk, .int .i64 xn, .string xt, .slice xa xxl xlc, .int .i64 xtid] 35)) = .ok (.slice a (m + 1) c) w' ∧ Rows (w.heap.size + 1) w' (.slice a (m + 1) c) (out ++ [xf]) ∧ Below (w.heap.size + 1) W w') := Lib.hid (fun W oa oc m out hm hle hR hB => by
        have h := put_en 25 hR ⟨xk, xn, xt, xa, xxs, xlc, xtid⟩ 35 (by omega) hB
        rw [← hm, ← hxf] at h
        rw [hxxl]
        have e1 : (.cells #[.int .i64 xk, .int .i64 xn, .string xt, .slice xa xxs.length xlc, .int .i64 xtid] 35 : Obj) = .cells #[.int .i64 xf.k, .int .i64 xf.n, .string xf.s, .slice xf.a xf.xs.length xf.lc, .int .i64 xf.t] 35 := by rw [hxf]
        rw [e1]
        exact h)
      rw [← hxxl] at hcw HCALL
      have HCALL := Lib.hid HCALL
      have HCW : Hid (∀ W, Below w.heap.size w W → W.cell? ⟨b, off + j * 5, none⟩ = some (.int .i64 xk) ∧ W.cell? ⟨b, off + j * 5 + 1, none⟩ = some (.int .i64 xn) ∧ W.cell? ⟨b, off + j * 5 + 2, none⟩ = some (.string xt) ∧ W.cell? ⟨b, off + j * 5 + 3, none⟩ = some (.slice xa xxl xlc) ∧ W.cell? ⟨b, off + j * 5 + 4, none⟩ = some (.int .i64 xtid)) := Lib.hid (fun W h => by
        obtain ⟨c0, c1, c2, c3, c4⟩ := hcw
        exact ⟨(h.cell (p := ⟨b, _, none⟩) hbw).trans c0, (h.cell (p := ⟨b, _, none⟩) hbw).trans c1, (h.cell (p := ⟨b, _, none⟩) hbw).trans c2, (h.cell (p := ⟨b, _, none⟩) hbw).trans c3, (h.cell (p := ⟨b, _, none⟩) hbw).trans c4⟩)
      clear hx hmem hq hxxl hxf HX hcw
      have hji : (j : Int) < (ll : Int) := by omega
      have hj0 : (0 : Int) ≤ (j : Int) := by omega
      cases dn
      · obtain ⟨c0, c1, c2, c3, c4⟩ := HCW.out wr HBW.out
        go_wp2
        go_still_tail 8, (by kernel_rfl)
        go_wp2_with fail
        refine HCALL.out.mono ?_
        rintro e w1 ⟨rfl, hb1⟩
        have HB1 : Hid (Below wr.heap.size wr w1) := Lib.hid ((Below.refl _ _).drew.trans hb1)
        have hw1 : wr.heap.size ≤ w1.heap.size := HB1.out.size
        have HBB : Hid (Below (w.heap.size + 1) (w.alloc (.cells #[.int .i64 k, .int .i64 n, .string s, .slice ea xl lc, .int .i64 t] 35)) w1) := Lib.hid (HB.out.trans (HB1.out.mono (by omega)))
        clear HCALL hb1
        cases q
        · obtain ⟨na, nc, w2, hr2, ho2, hb2⟩ := HPX.out w1 oa oc m out HM.out (by omega) (HO.out.below HB1.out) (by omega)
          obtain ⟨e0, e1, e2, e3, e4⟩ := HCW.out w1 (HBW.out.trans (HB1.out.mono HBW.out.size))
          have HB2 := Lib.hid (HBB.out.trans hb2)
          have HI2 : Hid (WI es ef (j + 1) false (out ++ [xf])) := Lib.hid (by rw [HXF.out]; exact HI.out.skip hlt' HQ.out.symm)
          have HM2 : Hid (m + 1 = (out ++ [xf]).length) := Lib.hid (by rw [List.length_append, ← HM.out]; rfl)
          have HO2 := Lib.hid ho2
          clear hb2 ho2 c0 c1 c2 c3 c4
          go_wp2_with (at_builtin; refine Lib.wpList_append_run _ rfl _ _ 25 25 rfl _ _ rfl rfl _ _ hr2 ?_)
          go_roundw
          case rel => exact ⟨j + 1, m + 1, false, na, nc, _, by omega, by go_num, rfl, rfl, HB2.out, HM2, HI2, HO2⟩
          case measure => simp [intOf]; omega
        · obtain ⟨f0, f1, f2, f3, f4⟩ := box5 HBB.out
          obtain ⟨na, nc, w2, hr2, ho2, hb2⟩ := HPE.out w1 oa oc m out HM.out hm (HO.out.below HB1.out) (by omega)
          have hL2 : Below w.heap.size w w2 := (HBW.out.trans (HB1.out.mono HBW.out.size)).trans (hb2.mono (by omega))
          have HB2 := Lib.hid (HBB.out.trans hb2)
          have hw2 : w1.heap.size ≤ w2.heap.size := hb2.size
          have hM1 : m + 1 = (out ++ [ef]).length := by rw [List.length_append, ← HM.out]; rfl
          obtain ⟨pa, pc, w3, hr3, ho3, hb3⟩ := HPX.out w2 na nc (m + 1) (out ++ [ef]) hM1 (by omega) ho2 (by omega)
          have HB3 := Lib.hid (HB2.out.trans hb3)
          obtain ⟨e0, e1, e2, e3, e4⟩ := HCW.out w2 hL2
          have HI2 : Hid (WI es ef (j + 1) true (out ++ [ef] ++ [xf])) := Lib.hid (by rw [HXF.out]; exact HI.out.here hlt' HQ.out.symm)
          have HM2 : Hid (m + 1 + 1 = (out ++ [ef] ++ [xf]).length) := Lib.hid (by rw [List.length_append, ← hM1]; rfl)
          have HO2 := Lib.hid ho3
          clear hb2 ho2 c0 c1 c2 c3 c4 hL2 hM1 ho3 hb3 d0 d1 d2 d3 d4
          go_wp2_with (first | (at_builtin; refine Lib.wpList_append_run _ rfl (.tmp 24) (.tmp 26) 25 25 rfl _ _ rfl rfl _ _ hr2 ?_) | (at_builtin; refine Lib.wpList_append_run _ rfl (.tmp 28) (.tmp 33) 25 25 rfl _ _ rfl rfl _ _ hr3 ?_))
          go_roundw
          case rel => exact ⟨j + 1, m + 1 + 1, true, pa, pc, _, by omega, by go_num, rfl, rfl, HB3.out, HM2, HI2, HO2⟩
          case measure => simp [intOf]; omega
      · clear HCALL HQ
        go_wp2
        go_quiet (fail)
        obtain ⟨w1, hw1⟩ : ∃ W, W = wr.drewN nq := ⟨_, rfl⟩
        rw [← hw1]
        have HB1 : Hid (Below wr.heap.size wr w1) := Lib.hid (by rw [hw1]; exact below_drewN wr nq)
        have hs1 : wr.heap.size ≤ w1.heap.size := HB1.out.size
        clear hw1
        obtain ⟨na, nc, w2, hr2, ho2, hb2⟩ := HPX.out w1 oa oc m out HM.out (by omega) (HO.out.below HB1.out) (by omega)
        obtain ⟨e0, e1, e2, e3, e4⟩ := HCW.out w1 (HBW.out.trans (HB1.out.mono HBW.out.size))
        have HB2 := Lib.hid ((HB.out.trans (HB1.out.mono (by omega))).trans hb2)
        have HI2 : Hid (WI es ef (j + 1) true (out ++ [xf])) := Lib.hid (by rw [HXF.out]; exact HI.out.go hlt')
        have HM2 : Hid (m + 1 = (out ++ [xf]).length) := Lib.hid (by rw [List.length_append, ← HM.out]; rfl)
        have HO2 := Lib.hid ho2
        clear hb2 ho2 d0 d1 d2 d3 d4
        go_wp2_with (at_builtin; refine Lib.wpList_append_run _ rfl _ _ 25 25 rfl _ _ rfl rfl _ _ hr2 ?_)
        go_roundw
        case rel => exact ⟨j + 1, m + 1, true, na, nc, _, by omega, by go_num, rfl, rfl, HB2.out, HM2, HI2, HO2⟩
        case measure => simp [intOf]; omega
    · have hjl : es.length ≤ j := by rw [← HLL.out]; omega
      cases dn
      · obtain ⟨na, nc, w2, hr2, ho2, hb2⟩ := HPE.out wr oa oc m out HM.out hm HO.out (by omega)
        have HE : Hid (Rows (w.heap.size + 1) w2 (.slice na (m + 1) nc) (withL es ef)) := Lib.hid (by rw [← HI.out.endF hjl]; exact ho2)
        have HB2 : Hid (Below w.heap.size w w2) := Lib.hid (HBW.out.trans (hb2.mono (by omega)))
        clear ho2 hb2
        go_wp2_with (at_builtin; refine Lib.wpList_append_run _ rfl _ _ 25 25 rfl _ _ rfl rfl _ _ hr2 ?_)
        go_ret
        exact ⟨_, rfl, HE.out.mono (by omega), HB2.out⟩
      · have HE : Hid (Rows (w.heap.size + 1) wr (.slice oa m oc) (withL es ef)) := Lib.hid (by rw [← HI.out.endT hjl]; exact HO.out)
        go_wp2
        go_ret
        exact ⟨_, rfl, HE.out.mono (by omega), HBW.out⟩
end Go.Proofs.Ytnnmigglcpkomaa.Dm
