/- The walk of MethodNobody. -/
import Derived.Test.YtnghhhmhinailaaRV
import Derived.Test.YtnghhhmhinailaaRU
import Derived.Deep.CutRange
set_option maxRecDepth 100000
namespace Go.Proofs.Ytnghhhmhinailaa.Dm
open Go Go.RowKit

theorem asn1 (w : World) : (Instr.typeAssert .nilIface 55 112 true).run Try.prog w = .ok (.tuple #[.nilIface, .bool false]) w := by kernel_rfl
theorem asn2 (w : World) : (Instr.typeAssert .nilIface 55 115 true).run Try.prog w = .ok (.tuple #[.nilIface, .bool false]) w := by kernel_rfl
theorem asn3 (w : World) : (Instr.typeAssert .nilIface 55 118 true).run Try.prog w = .ok (.tuple #[.nilIface, .bool false]) w := by kernel_rfl
theorem asn4 (w : World) : (Instr.typeAssert .nilIface 55 121 true).run Try.prog w = .ok (.tuple #[.nilIface, .bool false]) w := by kernel_rfl

set_option maxHeartbeats 800000 in
theorem abil_nil (w : World) : Calls Try.prog 35 #[.nilIface] w fun r w' => r = .returned (.slice none 0 0) ∧ w' = w := by
  have h1 := asn1; have h2 := asn2; have h3 := asn3; have h4 := asn4
  go_enter Try.func35, Try.ntmps35
  go_wp2
  go_ret
  exact ⟨rfl, rfl⟩
set_option maxHeartbeats 400000 in
theorem abils_nil (w : World) : Calls Try.prog 18 #[.nilIface] w fun r w' => r = .returned (.slice none 0 0) ∧ w' = w := by
  have HA := Lib.hid (abil_nil w)
  go_enter Try.func18, Try.ntmps18
  go_wp2_with (go_at_call 35; refine (HA.out).mono ?_; rintro e w' ⟨rfl, rfl⟩)
  go_ret
  exact ⟨rfl, rfl⟩

/-- The two of the law's list, and its own entry. -/
theorem nob_rows {w W0 : World} {v0 v1 v2 v3 v4 : Value} {L : Nat} (hW0 : W0 = ((w.alloc (.cells #[v0, v1, v2, v3, v4] 35)).alloc (.cells #[.pointer none, .slice none 0 0] 65)).alloc (.cells #[.pointer none, .pointer (some ⟨w.heap.size + 1, 0, none⟩)] 23)) (hL : L = w.heap.size + 2) :
    ∀ k, k < 2 → ∀ W, Below W0.heap.size W0 W → ∃ A, W.cell? ⟨L, k, none⟩ = some (.pointer A) ∧ NoPl A W := by
  intro k hk W hb
  have hz : W0.heap.size = w.heap.size + 3 := by rw [hW0]; simp
  have h1 : W0.heap[L]? = some (.cells #[.pointer none, .pointer (some ⟨w.heap.size + 1, 0, none⟩)] 23) := by
    have := heap_alloc_new ((w.alloc (.cells #[v0, v1, v2, v3, v4] 35)).alloc (.cells #[.pointer none, .slice none 0 0] 65)) (.cells #[.pointer none, .pointer (some ⟨w.heap.size + 1, 0, none⟩)] 23)
    rw [← hW0] at this
    rw [hL]; simpa using this
  have h0 : W0.heap[w.heap.size + 1]? = some (.cells #[.pointer none, .slice none 0 0] 65) := by
    have h := heap_alloc_new (w.alloc (.cells #[v0, v1, v2, v3, v4] 35)) (.cells #[.pointer none, .slice none 0 0] 65)
    rw [hW0, heap_alloc_old _ _ _ (by simp)]; simpa using h
  have hc : ∀ (v : Value), (#[Value.pointer none, .pointer (some ⟨w.heap.size + 1, 0, none⟩)])[k]? = some v → W.cell? ⟨L, k, none⟩ = some v := fun v hv => by
    exact (hb.cell (show L < W0.heap.size by omega)).trans (by rw [Lib.cell_of_heap h1]; exact hv)
  rcases (by omega : k = 0 ∨ k = 1) with rfl | rfl
  · exact ⟨_, hc _ rfl, .inl rfl⟩
  · exact ⟨_, hc _ rfl, .inr ⟨_, rfl, by have := hb.size; omega, (hb.cell (show w.heap.size + 1 < W0.heap.size by omega)).trans (by rw [Lib.cell_of_heap h0]; rfl)⟩⟩

/-- What stays while the law asks one of its list. -/
def Sq (L q E : Nat) (A : Option Addr) (k n : Int) (s : ByteArray) (ea : Option Addr) (xl lc : Nat) (t : Int) (W : World) : Prop := W.cell? ⟨L, q, none⟩ = some (.pointer A) ∧ W.cell? ⟨E, 0, none⟩ = some (.int .i64 k) ∧ W.cell? ⟨E, 1, none⟩ = some (.int .i64 n) ∧ W.cell? ⟨E, 2, none⟩ = some (.string s) ∧ W.cell? ⟨E, 3, none⟩ = some (.slice ea xl lc) ∧ W.cell? ⟨E, 4, none⟩ = some (.int .i64 t)

set_option maxHeartbeats 25600000 in
theorem methodNobody_walk (k n : Int) (s : ByteArray) (ea : Option Addr) (xl lc : Nat) (t : Int) (w : World) :
    Calls Try.prog 7 #[.agg #[.int .i64 k, .int .i64 n, .string s, .slice ea xl lc, .int .i64 t]] w fun e w' => e = .returned (.bool true) ∧ Below w.heap.size w w' := by
  obtain ⟨W0, hW0⟩ : ∃ W0, W0 = ((w.alloc (.cells #[.int .i64 k, .int .i64 n, .string s, .slice ea xl lc, .int .i64 t] 35)).alloc (.cells #[.pointer none, .slice none 0 0] 65)).alloc (.cells #[.pointer none, .pointer (some ⟨w.heap.size + 1, 0, none⟩)] 23) := ⟨_, rfl⟩
  obtain ⟨L, hL⟩ : ∃ L, L = w.heap.size + 2 := ⟨_, rfl⟩
  obtain ⟨E, hE⟩ : ∃ E, E = w.heap.size := ⟨_, rfl⟩
  have HB0 : Hid (Below w.heap.size w W0) := Lib.hid (by rw [hW0]; exact (((Below.refl _ _).alloc (Nat.le_refl _) _).alloc (by simp) _).alloc (by simp; omega) _)
  have HROW := Lib.hid (nob_rows hW0 hL)
  have hE0 : W0.heap[w.heap.size]? = some (.cells #[.int .i64 k, .int .i64 n, .string s, .slice ea xl lc, .int .i64 t] 35) := by
    rw [hW0, heap_alloc_old _ _ _ (by simp; omega), heap_alloc_old _ _ _ (by simp), heap_alloc_new]
  have HENT : Hid (∀ W, Below W0.heap.size W0 W → W.cell? ⟨E, 0, none⟩ = some (.int .i64 k) ∧ W.cell? ⟨E, 1, none⟩ = some (.int .i64 n) ∧ W.cell? ⟨E, 2, none⟩ = some (.string s) ∧ W.cell? ⟨E, 3, none⟩ = some (.slice ea xl lc) ∧ W.cell? ⟨E, 4, none⟩ = some (.int .i64 t)) := Lib.hid (fun W hW => by
    have hE3 : E < W0.heap.size := by rw [hW0, hE]; simp; omega
    have hE1 : W.heap[E]? = some (.cells #[.int .i64 k, .int .i64 n, .string s, .slice ea xl lc, .int .i64 t] 35) := (hW.block _ hE3).trans (by rw [hE]; exact hE0)
    exact ⟨by rw [Lib.cell_of_heap hE1]; rfl, by rw [Lib.cell_of_heap hE1]; rfl, by rw [Lib.cell_of_heap hE1]; rfl, by rw [Lib.cell_of_heap hE1]; rfl, by rw [Lib.cell_of_heap hE1]; rfl⟩)
  clear hE0
  have HLB : Hid (∀ W, Below W0.heap.size W0 W → ∀ q, W.cell? ⟨L, q, none⟩ = W0.cell? ⟨L, q, none⟩) := Lib.hid (fun W hW q => hW.cell (p := ⟨L, q, none⟩) (by show L < _; rw [hL, hW0]; simp))
  go_enter Try.func7, Try.ntmps7
  go_wp2
  rw [← hE] at hW0 hL ⊢
  rw [← hW0, ← hL]
  clear hW0 hL hE
  go_loopw [4] (fun i wr => ∃ k : Nat, k ≤ 2 ∧ i = .int .i64 k ∧ Hid (Below W0.heap.size W0 wr)) (fun i _ => 2 - (intOf i).toNat)
  case atStart => exact ⟨0, by omega, rfl, Lib.hid (Below.refl _ _)⟩
  case round =>
    obtain ⟨q, hk, rfl, HB⟩ := hrel
    by_cases hkn : q < 2
    · obtain ⟨A, hc, hn⟩ := HROW.out q hkn wr HB.out
      obtain ⟨c0, c1, c2, c3, c4⟩ := HENT.out wr HB.out
      have f1 : (q : Int) < 2 := by omega
      have HN := Lib.hid hn
      have HNB := Lib.hid (nobody_pl A k n s ea xl lc t wr.drew (hn.grow (Below.refl _ _).drew))
      clear HB0 hn
      go_wp2_with fail
      refine (range_nob A wr HN.out).mono ?_
      rintro e w3 ⟨rfl, hw⟩
      obtain rfl : wr = w3 := hw.symm
      go_upto_region 6 with fail
      have HSQ : Hid (∀ W, Below W0.heap.size W0 W → Sq L q E A k n s ea xl lc t W) := Lib.hid (fun W hW => ⟨(HLB.out W hW q).trans ((HLB.out wr HB.out q).symm.trans hc), HENT.out W hW⟩)
      have HS0 : Hid (Sq L q E A k n s ea xl lc t wr.drew) := Lib.hid (HSQ.out _ (HB.out.trans ((Below.refl _ _).drew.mono HB.out.size)))
      refine wp_region_held_drew (S := fun W => Sq L q E A k n s ea xl lc t W) (by kernel_rfl) HS0.out (fun hHeld => ?_)
      refine wpAnyH_take (i := 0) (v := .slice (some ⟨L, 0, none⟩) 2 2) rfl (by kernel_rfl) (by kernel_rfl) (by kernel_rfl) (fun _ _ _ h => h) (Or.inl ⟨by first | rfl | (unfold Region.wanted yielded; go_simp), fun W hW => by clear hW; go_simp⟩) HS0.out ?_
      refine wpAnyH_take (i := 1) (v := .int .i64 (q : Int)) rfl (by kernel_rfl) (by kernel_rfl) (by kernel_rfl) (fun _ _ _ h => h) (Or.inl ⟨by first | rfl | (unfold Region.wanted yielded; go_simp), fun W hW => by clear hW; go_simp⟩) HS0.out ?_
      refine wpAnyH_take (i := 2) (v := .pointer (some ⟨L, q, none⟩)) rfl (by kernel_rfl) (by kernel_rfl) (by kernel_rfl) (fun _ _ _ h => h) (Or.inl ⟨by first | rfl | (unfold Region.wanted yielded; go_simp), fun W hW => by clear hW; go_simp⟩) HS0.out ?_
      refine wpAnyH_take (i := 3) (v := .pointer A) rfl (by kernel_rfl) (by kernel_rfl) (by kernel_rfl) (fun _ _ _ h => h) (Or.inl ⟨by first | rfl | (unfold Region.wanted yielded; go_simp), fun W hW => by obtain ⟨q9, q0, q1, q2, q3, q4⟩ := hW; go_simp⟩) HS0.out ?_
      refine wpAnyH_take (i := 4) (v := .iface 23 (.pointer A)) rfl (by kernel_rfl) (by kernel_rfl) (by kernel_rfl) (fun _ _ _ h => h) (Or.inl ⟨by first | rfl | (unfold Region.wanted yielded; go_simp), fun W hW => by clear hW; go_simp⟩) HS0.out ?_
      refine wpAnyH_take (i := 5) (v := .agg #[.int .i64 k, .int .i64 n, .string s, .slice ea xl lc, .int .i64 t]) rfl (by kernel_rfl) (by kernel_rfl) (by kernel_rfl) (fun _ _ _ h => h) (Or.inl ⟨by first | rfl | (unfold Region.wanted yielded; go_simp), fun W hW => by obtain ⟨q9, q0, q1, q2, q3, q4⟩ := hW; go_simp⟩) HS0.out ?_
      refine wpAnyH_ready (rs := [6]) (by kernel_rfl) (by simp) ?_
      refine AllReadyH.cons rfl (fun K hK => ?_) AllReadyH.nil
      go_simp
      go_at_call 22
      refine HNB.out.mono ?_
      rintro r w4 ⟨rfl, hb4⟩
      have HB4 : Hid (Below W0.heap.size W0 w4) := Lib.hid (HB.out.trans ((Below.refl _ _).drew.mono HB.out.size |>.trans (hb4.mono (by have := HB.out.size; simpa using this))))
      have hn4 := HN.out.grow ((Below.refl _ _).drew.trans hb4)
      have HNM := Lib.hid (name_nob A w4 hn4)
      have HS4 : Hid (Sq L q E A k n s ea xl lc t w4) := Lib.hid (HSQ.out _ HB4.out)
      refine hK.out _ _ HS4.out (fun _ => ?_)
      clear hK K HNB hb4 hn4
      refine wpAnyH_take (i := 7) (v := .bool false) rfl (by kernel_rfl) (by kernel_rfl) (by kernel_rfl) (fun _ _ _ h => h) (Or.inl ⟨by first | rfl | (unfold Region.wanted yielded; go_simp), fun W hW => by clear hW; go_simp⟩) HS4.out ?_
      refine wpAnyH_take (i := 8) (v := .bool false) rfl (by kernel_rfl) (by kernel_rfl) (by kernel_rfl) (fun _ _ _ h => h) (Or.inl ⟨by first | rfl | (unfold Region.wanted yielded; go_simp), fun W hW => by clear hW; go_simp⟩) HS4.out ?_
      refine wpAnyH_take (i := 9) (v := .slice (some ⟨L, 0, none⟩) 2 2) rfl (by kernel_rfl) (by kernel_rfl) (by kernel_rfl) (fun _ _ _ h => h) (Or.inl ⟨by first | rfl | (unfold Region.wanted yielded; go_simp), fun W hW => by clear hW; go_simp⟩) HS4.out ?_
      refine wpAnyH_take (i := 10) (v := .int .i64 (q : Int)) rfl (by kernel_rfl) (by kernel_rfl) (by kernel_rfl) (fun _ _ _ h => h) (Or.inl ⟨by first | rfl | (unfold Region.wanted yielded; go_simp), fun W hW => by clear hW; go_simp⟩) HS4.out ?_
      refine wpAnyH_take (i := 11) (v := .pointer (some ⟨L, q, none⟩)) rfl (by kernel_rfl) (by kernel_rfl) (by kernel_rfl) (fun _ _ _ h => h) (Or.inl ⟨by first | rfl | (unfold Region.wanted yielded; go_simp), fun W hW => by clear hW; go_simp⟩) HS4.out ?_
      refine wpAnyH_take (i := 12) (v := .pointer A) rfl (by kernel_rfl) (by kernel_rfl) (by kernel_rfl) (fun _ _ _ h => h) (Or.inl ⟨by first | rfl | (unfold Region.wanted yielded; go_simp), fun W hW => by obtain ⟨q9, q0, q1, q2, q3, q4⟩ := hW; go_simp⟩) HS4.out ?_
      refine wpAnyH_ready (rs := [13]) (by kernel_rfl) (by simp) ?_
      refine AllReadyH.cons rfl (fun K hK => ?_) AllReadyH.nil
      go_simp
      go_at_call 23
      refine HNM.out.mono ?_
      rintro r w5 ⟨rfl, hw5⟩
      obtain rfl : w4 = w5 := hw5.symm
      refine hK.out _ _ HS4.out (fun _ => ?_)
      clear hK K HNM
      refine wpAnyH_take (i := 14) (v := .bool false) rfl (by kernel_rfl) (by kernel_rfl) (by kernel_rfl) (fun _ _ _ h => h) (Or.inl ⟨by unfold Region.wanted yielded; go_simp, fun W hW => by clear hW; go_simp⟩) HS4.out ?_
      refine wpAnyH_take (i := 15) (v := .bool false) rfl (by kernel_rfl) (by kernel_rfl) (by kernel_rfl) (fun _ _ _ h => h) (Or.inl ⟨by unfold Region.wanted yielded; go_simp, fun W hW => by clear hW; go_simp⟩) HS4.out ?_
      refine wpAnyH_take (i := 16) (v := .bool false) rfl (by kernel_rfl) (by kernel_rfl) (by kernel_rfl) (fun _ _ _ h => h) (Or.inl ⟨by unfold Region.wanted yielded; go_simp, fun W hW => by clear hW; go_simp⟩) HS4.out ?_
      refine wpAnyH_take (i := 17) (v := .slice none 0 0) rfl (by kernel_rfl) (by kernel_rfl) (by kernel_rfl) (fun _ _ _ h => h) (Or.inl ⟨by unfold Region.wanted yielded; go_simp, fun W hW => by clear hW; go_simp⟩) HS4.out ?_
      refine wpAnyH_take (i := 18) (v := .int .i64 0) rfl (by kernel_rfl) (by kernel_rfl) (by kernel_rfl) (fun _ _ _ h => h) (Or.inl ⟨by unfold Region.wanted yielded; go_simp, fun W hW => by clear hW; go_simp⟩) HS4.out ?_
      refine wpAnyH_take (i := 19) (v := .bool false) rfl (by kernel_rfl) (by kernel_rfl) (by kernel_rfl) (fun _ _ _ h => h) (Or.inl ⟨by unfold Region.wanted yielded; go_simp, fun W hW => by clear hW; go_simp⟩) HS4.out ?_
      refine wpAnyH_take (i := 20) (v := .bool false) rfl (by kernel_rfl) (by kernel_rfl) (by kernel_rfl) (fun _ _ _ h => h) (Or.inl ⟨by unfold Region.wanted yielded; go_simp, fun W hW => by clear hW; go_simp⟩) HS4.out ?_
      refine wpAnyH_take (i := 21) (v := .bool false) rfl (by kernel_rfl) (by kernel_rfl) (by kernel_rfl) (fun _ _ _ h => h) (Or.inl ⟨by unfold Region.wanted yielded; go_simp, fun W hW => by clear hW; go_simp⟩) HS4.out ?_
      refine wpAnyH_take (i := 22) (v := .int .i64 1) rfl (by kernel_rfl) (by kernel_rfl) (by kernel_rfl) (fun _ _ _ h => h) (Or.inl ⟨by unfold Region.wanted yielded; go_simp, fun W hW => by clear hW; go_simp⟩) HS4.out ?_
      refine wpAnyH_take (i := 23) (v := .bool false) rfl (by kernel_rfl) (by kernel_rfl) (by kernel_rfl) (fun _ _ _ h => h) (Or.inl ⟨by unfold Region.wanted yielded; go_simp, fun W hW => by clear hW; go_simp⟩) HS4.out ?_
      refine wpAnyH_take (i := 24) (v := .bool false) rfl (by kernel_rfl) (by kernel_rfl) (by kernel_rfl) (fun _ _ _ h => h) (Or.inl ⟨by unfold Region.wanted yielded; go_simp, fun W hW => by clear hW; go_simp⟩) HS4.out ?_
      refine wpAnyH_done (by kernel_rfl) ?_ _
      clear hHeld HS0 HS4 HSQ hc hw5 HN
      clear c0 c1 c2 c3 c4 HB HROW HENT HLB
      go_simp
      go_wp2_with fail
      exact ⟨⟨q + 1, by omega, by go_num, HB4⟩, by simp [intOf]; omega⟩
    · have f1 : ¬ (q : Int) < 2 := by omega
      have HBW := Lib.hid (HB0.out.trans (HB.out.mono HB0.out.size))
      clear HROW HB HB0 HENT HLB
      go_wp2_with fail
      refine (abils_nil _).mono ?_
      rintro e w3 ⟨rfl, hw⟩
      subst w3
      go_wp2_with fail
      refine (awake_any _).mono ?_
      rintro e w3 ⟨rfl, hb⟩
      have HE := Lib.hid (HBW.out.trans (hb.mono HBW.out.size))
      clear hb
      go_wp2
      go_ret
      exact ⟨rfl, HE.out⟩
end Go.Proofs.Ytnghhhmhinailaa.Dm
