/- The book's Does: Delete. -/
import Derived.Test.YtnnmigglcpkomaaDN
set_option maxRecDepth 100000
namespace Go.Proofs.Ytnnmigglcpkomaa.Dm
open Go Go.RowKit

set_option maxHeartbeats 3200000 in
theorem does_del {T : TypeId} {p : Value} {kinds : List Int} {lim : Nat} {St : Nat → (Nat → Prop) → World → List Et → Prop} {nI nD nF nE nC nX : FuncId} (M : Meth T p kinds lim St nI nD nF nE nC nX)
    (i : Nat) (S : Nat → Prop) (w : World) (es : List En) (a : Option Addr) (c : Nat) (ka : Option Addr) (kc : Nat) (e : En) (hSt : St i S w (consE es)) (hi : i < lim) (hK : Rob S w (fun w => IntsW w ka kinds)) (h8 : kinds.length ≤ 8)
    (hL : Rob S w (fun w => EnsW w a es)) (he : Rob S w e.In) (hbig : es.length ≤ 2199023255540) :
    Calls Try.prog 26 #[.iface T p, .slice ka kinds.length kc, .slice a es.length c, .agg #[.int .i64 2, .int .i64 e.k, .int .i64 e.n, .string e.s, .slice e.a e.xs.length e.lc, .int .i64 e.t]] w fun r w' => DoesPost St i S es.length (delL kinds (consE es) e.c) w r w' := by
  have hnS : ¬ S w.heap.size := fun h => by have := M.bound hSt _ h; omega
  obtain ⟨ef, hef⟩ : ∃ f, f = e := ⟨_, rfl⟩
  rw [show e.c = ef.c from by rw [hef]]
  have hSt0 : ∀ w', Kept (fun k => ¬ S k) w w' → St i S w' (consE es) := fun w' h => M.frame hSt h
  have mD := M.mD
  have aD := M.aD
  have eD := M.eD
  obtain ⟨k, n, s, ea, xs, lc, t⟩ := e
  obtain ⟨xl, hxl⟩ : ∃ xl, xl = xs.length := ⟨_, rfl⟩
  obtain ⟨ll, hll⟩ : ∃ ll, ll = es.length := ⟨_, rfl⟩
  obtain ⟨kl, hkl⟩ : ∃ kl, kl = kinds.length := ⟨_, rfl⟩
  obtain ⟨W0, hW0⟩ : ∃ W0, W0 = w.alloc (.cells #[.int .i64 2, .int .i64 k, .int .i64 n, .string s, .slice ea xl lc, .int .i64 t] 75) := ⟨_, rfl⟩
  have hb0 : Below w.heap.size w W0 := by rw [hW0]; exact (Below.refl _ _).alloc (Nat.le_refl _) _
  have hW0d : Below w.heap.size w W0.drew := hb0.trans ((Below.refl _ _).drew.mono hb0.size)
  have HBX : Hid (∀ W, Kept S W0 W → W.cell? ⟨w.heap.size, 0, none⟩ = some (.int .i64 2) ∧ W.cell? ⟨w.heap.size, 1, none⟩ = some (.int .i64 k) ∧ W.cell? ⟨w.heap.size, 2, none⟩ = some (.int .i64 n) ∧ W.cell? ⟨w.heap.size, 3, none⟩ = some (.string s) ∧ W.cell? ⟨w.heap.size, 4, none⟩ = some (.slice ea xl lc) ∧ W.cell? ⟨w.heap.size, 5, none⟩ = some (.int .i64 t)) := Lib.hid (fun W hk => box6 (by rw [hW0] at hk; exact hk) hnS)
  obtain ⟨R, hR⟩ : ∃ R, R = delR kinds (consE es) ef.c := ⟨_, rfl⟩
  obtain ⟨Q, hQ⟩ : ∃ Q, Q = refusedE kinds ef.c := ⟨_, rfl⟩
  have HI : Hid (Calls Try.prog nD #[p, .agg #[.int .i64 k, .int .i64 n, .string s, .slice ea xl lc, .int .i64 t]] W0.drew fun r w' => ∃ S', r = .returned (.int .i64 R) ∧ St (i + 1) S' w' (delL kinds (consE es) ef.c) ∧ Kept S W0.drew w' ∧ ∀ k, S' k → S k ∨ W0.drew.heap.size ≤ k) := Lib.hid (by
    have h := M.delete (e := ef) (hSt0 W0.drew (Kept.ofBelow hW0d)) hi (by rw [hef]; exact he.below hW0d)
    rw [hR, hxl]
    rw [hef] at h ⊢
    exact h)
  have HQ : Hid (∀ W, Kept S W0 W → Calls Try.prog 25 #[.slice ka kl kc, .agg #[.int .i64 k, .int .i64 n, .string s, .slice ea xl lc, .int .i64 t]] W fun r w' => r = .returned (.int .i64 Q) ∧ Below W.heap.size W w') := Lib.hid (fun W hk => by
    have h := refused9_any ka kinds kc ef W (by rw [hef]; exact he W ((Kept.ofBelow hb0).trans hk (fun _ h => .inl h))) (hK W ((Kept.ofBelow hb0).trans hk (fun _ h => .inl h))) h8
    rw [hQ, hkl, hxl]
    rw [hef] at h ⊢
    exact h)
  simp only []
  rw [← hxl, ← hll, ← hkl]
  obtain ⟨c0, c1, c2, c3, c4, c5⟩ := HBX.out _ (Kept.refl S W0)
  have hsz0 : w.heap.size < W0.heap.size := by rw [hW0]; simp
  have HKR : Hid (Kept S W0 W0) := Lib.hid (Kept.refl S W0)
  have KEEP : Hid (∀ W1 W2, (W1.cell? ⟨w.heap.size, 1, none⟩ = some (.int .i64 k) ∧ W1.cell? ⟨w.heap.size, 2, none⟩ = some (.int .i64 n) ∧ W1.cell? ⟨w.heap.size, 3, none⟩ = some (.string s) ∧ W1.cell? ⟨w.heap.size, 4, none⟩ = some (.slice ea xl lc) ∧ W1.cell? ⟨w.heap.size, 5, none⟩ = some (.int .i64 t) ∧ Kept S W0 W1) → Kept S W1 W2 →
    (W2.cell? ⟨w.heap.size, 1, none⟩ = some (.int .i64 k) ∧ W2.cell? ⟨w.heap.size, 2, none⟩ = some (.int .i64 n) ∧ W2.cell? ⟨w.heap.size, 3, none⟩ = some (.string s) ∧ W2.cell? ⟨w.heap.size, 4, none⟩ = some (.slice ea xl lc) ∧ W2.cell? ⟨w.heap.size, 5, none⟩ = some (.int .i64 t) ∧ Kept S W0 W2)) := Lib.hid (fun W1 W2 h hk => by
    have hB := h.2.2.2.2.2.trans hk (fun _ h => .inl h)
    obtain ⟨_, c1, c2, c3, c4, c5⟩ := HBX.out _ hB
    exact ⟨c1, c2, c3, c4, c5, hB⟩)
  have kr : Kept S W0 W0 := Kept.refl S W0
  have kd : Kept S W0 W0.drew := Kept.ofBelow (Below.refl _ _).drew
  have HR := Lib.hid hR; have HQE := Lib.hid hQ; have HEF := Lib.hid hef; have HLL := Lib.hid hll; have HW0 := Lib.hid hW0; have HE := Lib.hid he
  have HST := Lib.hid hSt0; have HXL := Lib.hid hxl; have HB0 := Lib.hid hb0; have HM := Lib.hid M; have HL := Lib.hid hL
  clear hW0
  clear hxl hll hkl hR hQ he hSt hSt0 hef hK h8 hb0 hW0d M hL
  go_enter Try.func26, Try.ntmps26
  go_wp2_with fail
  rw [← HW0.out]
  go_region_held3 (fun w' => w'.cell? ⟨w.heap.size, 1, none⟩ = some (.int .i64 k) ∧ w'.cell? ⟨w.heap.size, 2, none⟩ = some (.int .i64 n) ∧ w'.cell? ⟨w.heap.size, 3, none⟩ = some (.string s) ∧ w'.cell? ⟨w.heap.size, 4, none⟩ = some (.slice ea xl lc) ∧ w'.cell? ⟨w.heap.size, 5, none⟩ = some (.int .i64 t) ∧ Kept S W0 w')
    (first | exact KEEP.out _ _ ⟨c1, c2, c3, c4, c5, kr⟩ kd | exact KEEP.out _ _ ‹_ ∧ _› ‹Kept _ _ _› | exact KEEP.out _ _ ‹_ ∧ _› (Kept.ofBelow ‹Below _ _ _›))
    (first | (go_at_call 25; refine (HQ.out _ (by go_split_ands; assumption)).mono ?_; rintro e w' ⟨rfl, hb'⟩) | (refine HI.out.mono ?_; rintro e wa ⟨S', rfl, hst, hk', hs'⟩))
  rename World => w1
  go_split_ands
  have hk1 : Kept S W0 w1 := by assumption
  have hk2 : Kept S w w1 := (Kept.ofBelow HB0.out).trans hk1 (fun _ h => .inl h)
  have hs1 : ∀ k, S' k → S k ∨ w.heap.size ≤ k := fun k hk => (hs' k hk).imp id (fun h => Nat.le_trans HB0.out.size h)
  have hst1 : St (i + 1) S' w1 (delL kinds (consE es) ef.c) := HM.out.frame hst (Kept.ofBelow hb')
  obtain ⟨c0, c1, c2, c3, c4, c5⟩ := HBX.out _ hk1
  have HK2 := Lib.hid hk2; have HS1 := Lib.hid hs1; have HST1 := Lib.hid hst1
  have HL1 := Lib.hid (HL.out.step hk2 hs1)
  have HE1 : Hid (Rob S' w1 ef.In) := Lib.hid (by rw [HEF.out]; exact HE.out.step hk2 hs1)
  have hsz1 : w.heap.size < w1.heap.size := by have := hk1.size; omega
  have hll : ll ≤ 2199023255540 := by rw [HLL.out]; exact hbig
  clear hst hk' hs' hb' hk1 hk2 hs1 hst1 kr kd KEEP HI HQ HST HKR hbig mD aD eD
  by_cases hq0 : Q = 0
  · have HOK : Hid (ef.ok = true) := Lib.hid (refused_ok (HQE.out.symm.trans hq0))
    subst hq0
    obtain ⟨q, hq⟩ : ∃ q, q = decide (ef.c ∈ consE es) := ⟨_, rfl⟩
    have hRq : R = if q = true then 0 else 3 := by
      rw [HR.out, delR, if_pos HQE.out.symm, hq]; simp
    have HHAS : Hid (Calls Try.prog 42 #[.slice a ll c, .agg #[.int .i64 k, .int .i64 n, .string s, .slice ea xl lc, .int .i64 t]] w1 fun r w' => r = .returned (.bool q) ∧ Below w1.heap.size w1 w') := Lib.hid (by
      have h := has_any a es c ef w1 HE1.out.now HOK.out HL1.out.now (by have := HLL.out; omega)
      rw [HLL.out, HXL.out, hq]
      rw [HEF.out] at h ⊢
      exact h)
    have HQQ := Lib.hid hq; clear hq
    have HRQ := Lib.hid hRq; clear hRq
    go_wp2_with (go_at_call 42; refine HHAS.out.mono ?_)
    rintro e w2 ⟨rfl, hb2⟩
    obtain ⟨c0, c1, c2, c3, c4, c5⟩ : w2.cell? ⟨w.heap.size, 0, none⟩ = some (.int .i64 2) ∧ w2.cell? ⟨w.heap.size, 1, none⟩ = some (.int .i64 k) ∧ w2.cell? ⟨w.heap.size, 2, none⟩ = some (.int .i64 n) ∧ w2.cell? ⟨w.heap.size, 3, none⟩ = some (.string s) ∧ w2.cell? ⟨w.heap.size, 4, none⟩ = some (.slice ea xl lc) ∧ w2.cell? ⟨w.heap.size, 5, none⟩ = some (.int .i64 t) :=
      ⟨(hb2.cell (p := ⟨w.heap.size, _, none⟩) hsz1).trans c0, (hb2.cell (p := ⟨w.heap.size, _, none⟩) hsz1).trans c1, (hb2.cell (p := ⟨w.heap.size, _, none⟩) hsz1).trans c2, (hb2.cell (p := ⟨w.heap.size, _, none⟩) hsz1).trans c3, (hb2.cell (p := ⟨w.heap.size, _, none⟩) hsz1).trans c4, (hb2.cell (p := ⟨w.heap.size, _, none⟩) hsz1).trans c5⟩
    have HB2 := Lib.hid hb2; clear hb2 HHAS
    cases q
    · have hR0 : R = 3 := by rw [HRQ.out]; simp
      subst hR0
      go_wp2
      go_ret2
      have hins : delL kinds (consE es) ef.c = consE es := by unfold delL; rw [if_neg (by rw [← HR.out]; decide)]
      refine ⟨S', a, c, es, by rw [← HLL.out]; rfl, hins.symm, HL1.out.below HB2.out, by rw [HLL.out]; omega, HM.out.frame HST1.out (Kept.ofBelow HB2.out), HK2.out.trans (Kept.ofBelow (S := S) HB2.out) (fun _ h => .inl h), HS1.out⟩
    · have hR0 : R = 0 := by rw [HRQ.out]; simp
      subst hR0
      have HW : Hid (Calls Try.prog 44 #[.slice a ll c, .agg #[.int .i64 k, .int .i64 n, .string s, .slice ea xl lc, .int .i64 t]] w2 fun r w' => ∃ v, r = .returned v ∧ Rows w2.heap.size w' v (withoutL es ef.c) ∧ Below w2.heap.size w2 w') := Lib.hid (by
        have h := without_any a es c ef w2 (HE1.out.below HB2.out).now HOK.out (HL1.out.below HB2.out).now (by have := HLL.out; omega)
        rw [HLL.out, HXL.out]
        rw [HEF.out] at h ⊢
        exact h)
      go_wp2_with (go_at_call 44; refine HW.out.mono ?_)
      rintro e w3 ⟨v, rfl, hr3, hb3⟩
      obtain ⟨na, nc, rfl⟩ := hr3.shape
      have HR3 := Lib.hid hr3; have HB3 := Lib.hid hb3; clear hr3 hb3 HW
      go_wp2
      go_ret2
      have hins : delL kinds (consE es) ef.c = withoutE (consE es) ef.c := by unfold delL; rw [if_pos HR.out.symm]
      have hst3 : St (i + 1) S' w2 (delL kinds (consE es) ef.c) := HM.out.frame HST1.out (Kept.ofBelow HB2.out)
      have hb13 := HB2.out.trans (HB3.out.mono HB2.out.size)
      refine ⟨S', na, nc, withoutL es ef.c, rfl, by rw [withoutL_c, hins], ?_, by rw [HLL.out]; exact Nat.le_trans (List.length_filter_le _ _) (Nat.le_succ _), HM.out.frame hst3 (Kept.ofBelow HB3.out), HK2.out.trans (Kept.ofBelow (S := S) hb13) (fun _ h => .inl h), HS1.out⟩
      refine ens_rob HR3.out (HM.out.bound hst3) (fun w' hk => ?_)
      intro x hx
      exact ((HL1.out.below hb13) w' hk).all x (List.mem_filter.1 hx).1
  · have hRQ : R = Q := by rw [HR.out, delR, if_neg (by rw [← HQE.out]; exact hq0), HQE.out]
    subst hRQ
    have hb : (R == 0) = false := by rw [beq_eq_false_iff_ne]; exact hq0
    have HQ0 := Lib.hid hq0; clear hq0
    go_wp2
    go_ret2
    have hins : delL kinds (consE es) ef.c = consE es := by unfold delL; rw [if_neg (by rw [← HR.out]; exact HQ0.out)]
    refine ⟨S', a, c, es, by rw [← HLL.out]; rfl, hins.symm, HL1.out, by rw [HLL.out]; omega, HST1.out, HK2.out, HS1.out⟩
end Go.Proofs.Ytnnmigglcpkomaa.Dm
