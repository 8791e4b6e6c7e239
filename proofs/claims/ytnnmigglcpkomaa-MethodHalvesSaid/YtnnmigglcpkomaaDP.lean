/- The book's Does: Find, Drop, and what is no call. -/
import Derived.Test.YtnnmigglcpkomaaDO
set_option maxRecDepth 100000
namespace Go.Proofs.Ytnnmigglcpkomaa.Dm
open Go Go.RowKit

theorem refusedKey_ok {kinds : List Int} {e : En} (h : refusedE kinds (e.d, 0) = 0) : e.ok = true := by
  unfold refusedE mayE at h
  split at h
  · rename_i h1
    rw [Bool.and_eq_true] at h1
    rw [← En.ok_d]
    exact h1.2
  · cases h

set_option maxHeartbeats 3200000 in
theorem does_find {T : TypeId} {p : Value} {kinds : List Int} {lim : Nat} {St : Nat → (Nat → Prop) → World → List Et → Prop} {nI nD nF nE nC nX : FuncId} (M : Meth T p kinds lim St nI nD nF nE nC nX)
    (i : Nat) (S : Nat → Prop) (w : World) (es : List En) (a : Option Addr) (c : Nat) (ka : Option Addr) (kc : Nat) (e : En) (hSt : St i S w (consE es)) (hi : i < lim) (hK : Rob S w (fun w => IntsW w ka kinds)) (h8 : kinds.length ≤ 8)
    (hL : Rob S w (fun w => EnsW w a es)) (he : Rob S w e.In) (hbig : es.length ≤ 2199023255540) :
    Calls Try.prog 26 #[.iface T p, .slice ka kinds.length kc, .slice a es.length c, .agg #[.int .i64 3, .int .i64 e.k, .int .i64 e.n, .string e.s, .slice e.a e.xs.length e.lc, .int .i64 e.t]] w fun r w' => DoesPost St i S es.length (consE es) w r w' := by
  have hnS : ¬ S w.heap.size := fun h => by have := M.bound hSt _ h; omega
  obtain ⟨ef, hef⟩ : ∃ f, f = e := ⟨_, rfl⟩
  have mF := M.mF
  have aF := M.aF
  have eF := M.eF
  obtain ⟨k, n, s, ea, xs, lc, t⟩ := e
  obtain ⟨xl, hxl⟩ : ∃ xl, xl = xs.length := ⟨_, rfl⟩
  obtain ⟨ll, hll⟩ : ∃ ll, ll = es.length := ⟨_, rfl⟩
  obtain ⟨kl, hkl⟩ : ∃ kl, kl = kinds.length := ⟨_, rfl⟩
  obtain ⟨W0, hW0⟩ : ∃ W0, W0 = w.alloc (.cells #[.int .i64 3, .int .i64 k, .int .i64 n, .string s, .slice ea xl lc, .int .i64 t] 75) := ⟨_, rfl⟩
  have hb0 : Below w.heap.size w W0 := by rw [hW0]; exact (Below.refl _ _).alloc (Nat.le_refl _) _
  have HBX : Hid (∀ W, Kept S W0 W → W.cell? ⟨w.heap.size, 0, none⟩ = some (.int .i64 3) ∧ W.cell? ⟨w.heap.size, 1, none⟩ = some (.int .i64 k) ∧ W.cell? ⟨w.heap.size, 2, none⟩ = some (.int .i64 n) ∧ W.cell? ⟨w.heap.size, 3, none⟩ = some (.string s) ∧ W.cell? ⟨w.heap.size, 4, none⟩ = some (.slice ea xl lc) ∧ W.cell? ⟨w.heap.size, 5, none⟩ = some (.int .i64 t)) := Lib.hid (fun W hk => box6 (by rw [hW0] at hk; exact hk) hnS)
  obtain ⟨Q, hQ⟩ : ∃ Q, Q = refusedE kinds (ef.d, 0) := ⟨_, rfl⟩
  have HI : Hid (Calls Try.prog nF #[p, .agg #[.int .i64 k, .int .i64 n, .string s, .slice ea xl lc]] W0 fun r w' => ∃ S' v m, r = .returned (.tuple #[v, .int .i64 Q]) ∧ (∃ a c, v = .slice a (m : List Int).length c ∧ IntsW w' a m ∧ m = if Q = 0 then findE (consE es) ef.d else []) ∧ St (i + 1) S' w' (consE es) ∧ Kept S W0 w' ∧ ∀ k, S' k → S k ∨ W0.heap.size ≤ k) := Lib.hid (by
    have h := M.find (e := ef) (M.frame hSt (Kept.ofBelow hb0)) hi (by rw [hef]; exact he.below hb0)
    rw [hQ, hxl]
    rw [hef] at h ⊢
    exact h)
  have HQ : Hid (∀ W, Kept S W0 W → Calls Try.prog 45 #[.slice ka kl kc, .agg #[.int .i64 k, .int .i64 n, .string s, .slice ea xl lc]] W fun r w' => r = .returned (.int .i64 Q) ∧ Below W.heap.size W w') := Lib.hid (fun W hk => by
    have h := refusedKey_any ka kinds kc ef W (by rw [hef]; exact he W ((Kept.ofBelow hb0).trans hk (fun _ h => .inl h))) (hK W ((Kept.ofBelow hb0).trans hk (fun _ h => .inl h))) h8
    rw [hQ, hkl, hxl]
    rw [hef] at h ⊢
    exact h)
  simp only []
  rw [← hxl, ← hll, ← hkl]
  obtain ⟨c0, c1, c2, c3, c4, c5⟩ := HBX.out _ (Kept.refl S W0)
  have hsz0 : w.heap.size < W0.heap.size := by rw [hW0]; simp
  have HQE := Lib.hid hQ; have HEF := Lib.hid hef; have HLL := Lib.hid hll; have HW0 := Lib.hid hW0; have HE := Lib.hid he
  have HXL := Lib.hid hxl; have HB0 := Lib.hid hb0; have HM := Lib.hid M; have HL := Lib.hid hL
  clear hW0
  clear hxl hll hkl hQ he hSt hef hK h8 hb0 M hL
  go_enter Try.func26, Try.ntmps26
  go_wp2_with fail
  rw [← HW0.out]
  go_wp2_with fail
  refine HI.out.mono ?_
  rintro e w1 ⟨S', v, m, rfl, ⟨va, vc, rfl, hm, hmv⟩, hst1, hk1, hs'⟩
  have hk2 : Kept S w w1 := (Kept.ofBelow HB0.out).trans hk1 (fun _ h => .inl h)
  have hs1 : ∀ k, S' k → S k ∨ w.heap.size ≤ k := fun k hk => (hs' k hk).imp id (fun h => Nat.le_trans HB0.out.size h)
  obtain ⟨ml, hml⟩ : ∃ ml, ml = m.length := ⟨_, rfl⟩
  rw [← hml]
  have HML := Lib.hid hml; have HMV := Lib.hid hmv; have HMI := Lib.hid hm
  have HK1 := Lib.hid hk1
  have HK2 := Lib.hid hk2; have HS1 := Lib.hid hs1; have HST1 := Lib.hid hst1
  have HL1 := Lib.hid (HL.out.step hk2 hs1)
  have HE1 : Hid (Rob S' w1 ef.In) := Lib.hid (by rw [HEF.out]; exact HE.out.step hk2 hs1)
  have hsz1 : w.heap.size < w1.heap.size := by have := hk1.size; omega
  have hll : ll ≤ 2199023255540 := by rw [HLL.out]; exact hbig
  have HCQ := Lib.hid (HQ.out w1 hk1)
  obtain ⟨c0, c1, c2, c3, c4, c5⟩ := HBX.out _ hk1
  clear hst1 hs' hk1 hk2 hs1 hm hmv hml HI HQ hbig mF aF eF
  go_wp2_with (go_at_call 45; refine HCQ.out.mono ?_)
  rintro e w2 ⟨rfl, hb2⟩
  obtain ⟨c0, c1, c2, c3, c4, c5⟩ : w2.cell? ⟨w.heap.size, 0, none⟩ = some (.int .i64 3) ∧ w2.cell? ⟨w.heap.size, 1, none⟩ = some (.int .i64 k) ∧ w2.cell? ⟨w.heap.size, 2, none⟩ = some (.int .i64 n) ∧ w2.cell? ⟨w.heap.size, 3, none⟩ = some (.string s) ∧ w2.cell? ⟨w.heap.size, 4, none⟩ = some (.slice ea xl lc) ∧ w2.cell? ⟨w.heap.size, 5, none⟩ = some (.int .i64 t) :=
    ⟨(hb2.cell (p := ⟨w.heap.size, _, none⟩) hsz1).trans c0, (hb2.cell (p := ⟨w.heap.size, _, none⟩) hsz1).trans c1, (hb2.cell (p := ⟨w.heap.size, _, none⟩) hsz1).trans c2, (hb2.cell (p := ⟨w.heap.size, _, none⟩) hsz1).trans c3, (hb2.cell (p := ⟨w.heap.size, _, none⟩) hsz1).trans c4, (hb2.cell (p := ⟨w.heap.size, _, none⟩) hsz1).trans c5⟩
  have HB2 := Lib.hid hb2; clear hb2 HCQ
  by_cases hq0 : Q = 0
  · have HOK : Hid (ef.ok = true) := Lib.hid (refusedKey_ok (HQE.out.symm.trans hq0))
    subst hq0
    have HMF : Hid (m = findL es ef.d) := Lib.hid (by rw [HMV.out, if_pos rfl, findL_c])
    have HF : Hid (Calls Try.prog 20 #[.slice a ll c, .agg #[.int .i64 k, .int .i64 n, .string s, .slice ea xl lc]] w2 fun r w' => ∃ v, r = .returned v ∧ IRow w2.heap.size w' v (findL es ef.d) ∧ Below w2.heap.size w2 w') := Lib.hid (by
      have h := find9_any a es c ef w2 (HE1.out.below HB2.out).now HOK.out (HL1.out.below HB2.out).now (by have := HLL.out; omega)
      rw [HLL.out, HXL.out]
      rw [HEF.out] at h ⊢
      exact h)
    go_wp2_with (go_at_call 20; refine HF.out.mono ?_)
    rintro e w3 ⟨v3, rfl, hr3, hb3⟩
    obtain ⟨na, nc, rfl⟩ := hr3.shape
    have HB3 := Lib.hid hb3
    have HI3 : Hid (Calls Try.prog 46 #[.slice va ml vc, .slice na (findL es ef.d).length nc] w3 fun r w' => r = .returned (.bool true) ∧ Below w3.heap.size w3 w') := Lib.hid (by
      have h := ints_any va m vc na (findL es ef.d) nc w3 ((HMI.out.below HB2.out).below hb3) hr3.ints (by
        rw [HMF.out]
        unfold findL
        rw [List.length_map]
        have := List.length_filter_le (fun x : En => decide (x.d = ef.d)) es
        have := HLL.out
        omega)
      rw [HML.out]
      have e1 : decide (m = findL es ef.d) = true := decide_eq_true HMF.out
      rw [e1] at h
      exact h)
    clear hr3 hb3 HF
    go_wp2_with (go_at_call 46; refine HI3.out.mono ?_)
    rintro e w4 ⟨rfl, hb4⟩
    have HB4 := Lib.hid hb4; clear hb4 HI3
    go_wp2
    go_ret2
    have hb14 := (HB2.out.trans (HB3.out.mono HB2.out.size)).trans (HB4.out.mono (Nat.le_trans HB2.out.size HB3.out.size))
    exact ⟨S', a, c, es, by rw [← HLL.out]; rfl, rfl, HL1.out.below hb14, by rw [HLL.out]; omega, HM.out.frame HST1.out (Kept.ofBelow hb14), HK2.out.trans (Kept.ofBelow (S := S) hb14) (fun _ h => .inl h), HS1.out⟩
  · have hm0 : ml = 0 := by rw [HML.out, HMV.out, if_neg hq0]; rfl
    subst hm0
    have hb : (Q == 0) = false := by rw [beq_eq_false_iff_ne]; exact hq0
    clear hq0
    go_wp2
    go_ret2
    exact ⟨S', a, c, es, by rw [← HLL.out]; rfl, rfl, HL1.out.below HB2.out, by rw [HLL.out]; omega, HM.out.frame HST1.out (Kept.ofBelow HB2.out), HK2.out.trans (Kept.ofBelow (S := S) HB2.out) (fun _ h => .inl h), HS1.out⟩

set_option maxHeartbeats 1600000 in
theorem does_drop {T : TypeId} {p : Value} {kinds : List Int} {lim : Nat} {St : Nat → (Nat → Prop) → World → List Et → Prop} {nI nD nF nE nC nX : FuncId} (M : Meth T p kinds lim St nI nD nF nE nC nX)
    (i : Nat) (S : Nat → Prop) (w : World) (es : List En) (a : Option Addr) (ll c : Nat) (ka : Option Addr) (kl kc : Nat) (k n : Int) (s : ByteArray) (ea : Option Addr) (xl lc : Nat) (t : Int) (hSt : St i S w (consE es)) (hi : i < lim) :
    Calls Try.prog 26 #[.iface T p, .slice ka kl kc, .slice a ll c, .agg #[.int .i64 4, .int .i64 k, .int .i64 n, .string s, .slice ea xl lc, .int .i64 t]] w fun r w' => DoesPost St i S es.length [] w r w' := by
  have mX := M.mX
  have aX := M.aX
  have eX := M.eX
  obtain ⟨W0, hW0⟩ : ∃ W0, W0 = w.alloc (.cells #[.int .i64 4, .int .i64 k, .int .i64 n, .string s, .slice ea xl lc, .int .i64 t] 75) := ⟨_, rfl⟩
  have hb0 : Below w.heap.size w W0 := by rw [hW0]; exact (Below.refl _ _).alloc (Nat.le_refl _) _
  have HI := Lib.hid (M.drop (M.frame hSt (Kept.ofBelow hb0)) hi)
  have HB0 := Lib.hid hb0; have HW0 := Lib.hid hW0
  clear hb0 hW0 M hSt
  go_enter Try.func26, Try.ntmps26
  go_wp2_with fail
  rw [← HW0.out]
  go_wp2_with fail
  refine HI.out.mono ?_
  rintro e w1 ⟨S', rfl, hst1, hk1, hs'⟩
  have HST := Lib.hid hst1
  have HK2 : Hid (Kept S w w1) := Lib.hid ((Kept.ofBelow HB0.out).trans hk1 (fun _ h => .inl h))
  have HS1 : Hid (∀ k, S' k → S k ∨ w.heap.size ≤ k) := Lib.hid (fun k hk => (hs' k hk).imp id (fun h => Nat.le_trans HB0.out.size h))
  clear hst1 hk1 hs' HI mX aX eX
  go_wp2
  go_ret2
  exact ⟨S', none, 0, [], rfl, rfl, fun _ _ => ⟨.inl rfl, fun x hx => by cases hx⟩, Nat.zero_le _, HST.out, HK2.out, HS1.out⟩

set_option maxHeartbeats 1600000 in
/-- What is no call changes nothing. -/
theorem does_none {T : TypeId} {p : Value} {kinds : List Int} {lim : Nat} {St : Nat → (Nat → Prop) → World → List Et → Prop} {nI nD nF nE nC nX : FuncId} (M : Meth T p kinds lim St nI nD nF nE nC nX)
    (i : Nat) (S : Nat → Prop) (w : World) (es : List En) (a : Option Addr) (c : Nat) (ka : Option Addr) (kl kc : Nat) (o k n : Int) (s : ByteArray) (ea : Option Addr) (xl lc : Nat) (t : Int) (hSt : St i S w (consE es)) (hL : Rob S w (fun w => EnsW w a es)) (hup : ∀ {i S w l}, St i S w l → St (i + 1) S w l)
    (h1 : o ≠ 1) (h2 : o ≠ 2) (h3 : o ≠ 3) (h4 : o ≠ 4) :
    Calls Try.prog 26 #[.iface T p, .slice ka kl kc, .slice a es.length c, .agg #[.int .i64 o, .int .i64 k, .int .i64 n, .string s, .slice ea xl lc, .int .i64 t]] w fun r w' => DoesPost St i S es.length (consE es) w r w' := by
  obtain ⟨W0, hW0⟩ : ∃ W0, W0 = w.alloc (.cells #[.int .i64 o, .int .i64 k, .int .i64 n, .string s, .slice ea xl lc, .int .i64 t] 75) := ⟨_, rfl⟩
  have hb0 : Below w.heap.size w W0 := by rw [hW0]; exact (Below.refl _ _).alloc (Nat.le_refl _) _
  have HP : Hid (DoesPost St i S es.length (consE es) w (.returned (.tuple #[.slice a es.length c, .bool true])) W0) := Lib.hid ⟨S, a, c, es, rfl, rfl, hL.below hb0, by omega, hup (M.frame hSt (Kept.ofBelow hb0)), Kept.ofBelow hb0, fun _ h => .inl h⟩
  have HW0 := Lib.hid hW0
  have b1 : (o == 1) = false := by rw [beq_eq_false_iff_ne]; exact h1
  have b2 : (o == 2) = false := by rw [beq_eq_false_iff_ne]; exact h2
  have b3 : (o == 3) = false := by rw [beq_eq_false_iff_ne]; exact h3
  have b4 : (o == 4) = false := by rw [beq_eq_false_iff_ne]; exact h4
  obtain ⟨ll, hll⟩ : ∃ ll, ll = es.length := ⟨_, rfl⟩
  rw [← hll] at HP ⊢
  clear hb0 hW0 M hSt hL hup hll
  go_enter Try.func26, Try.ntmps26
  go_wp2_with fail
  go_ret2
  rw [← HW0.out]
  exact HP.out
end Go.Proofs.Ytnnmigglcpkomaa.Dm
