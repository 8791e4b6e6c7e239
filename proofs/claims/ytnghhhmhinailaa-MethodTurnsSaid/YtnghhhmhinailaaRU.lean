/- What must come, whatever the arguments are (the laws' awake). -/
import Derived.Test.YtnghhhmhinailaaRT
import Derived.Deep.DeepCutAuto
set_option maxRecDepth 100000
namespace Go.Proofs.Ytnghhhmhinailaa.Dm
open Go Go.RowKit

/-- The law's own key lies in block bk. -/
def KC (bk : Nat) (W : World) : Prop := W.cell? ⟨bk, 0, none⟩ = some (.int .i64 1) ∧ W.cell? ⟨bk, 1, none⟩ = some (.int .i64 5) ∧ W.cell? ⟨bk, 2, none⟩ = some (.string ⟨#[]⟩) ∧ W.cell? ⟨bk, 3, none⟩ = some (.slice none 0 0)
theorem KC.of_block {bk : Nat} {W W' : World} (h : KC bk W) (hb : W'.heap[bk]? = W.heap[bk]?) : KC bk W' :=
  ⟨(World.cell?_of_block (w := W) (a := ⟨bk, 0, none⟩) hb).trans h.1, (World.cell?_of_block (w := W) (a := ⟨bk, 1, none⟩) hb).trans h.2.1, (World.cell?_of_block (w := W) (a := ⟨bk, 2, none⟩) hb).trans h.2.2.1, (World.cell?_of_block (w := W) (a := ⟨bk, 3, none⟩) hb).trans h.2.2.2⟩

/-- Awake on its way: the method holds l. -/
def Aw (B P bk : Nat) (w0 : World) (l : List Et) (W : World) : Prop := ∃ S, PlSt P S W l ∧ (∀ k, S k → B ≤ k ∧ k ≠ bk) ∧ KC bk W ∧ bk < W.heap.size ∧ Below B w0 W

def e5 (t : Int) : En := ⟨1, 5, ⟨#[]⟩, none, [], 0, t⟩
theorem e5_in (t : Int) (ht : I64 t) (W : World) : (e5 t).In W := ⟨.inl rfl, (show I64 5 from ⟨by decide, by decide⟩), fun x hx => (by cases hx), ht⟩
theorem e5_c (t : Int) : (e5 t).c = ((1, 5, ⟨#[]⟩, []), t) := rfl

theorem aw_ins {B P bk : Nat} {w0 W : World} {l : List Et} (h : Aw B P bk w0 l W) (hB : B ≤ W.heap.size) (t : Int) (ht : I64 t) (hl : l.length < 512) :
    Calls Try.prog 24 #[.pointer (some ⟨P, 0, none⟩), (e5 t).v] W fun r w' => r = .returned (.int .i64 (insR [1, 2, 3] l (e5 t).c)) ∧ Aw B P bk w0 (insL [1, 2, 3] l (e5 t).c) w' ∧ KC bk w' ∧ B ≤ w'.heap.size := by
  obtain ⟨S, hp, hS, hk, hbk, hb⟩ := h
  refine (ins_st hp hl (e5_in t ht W)).mono ?_
  rintro r w' ⟨S', rfl, hp', hK, hS'⟩
  have hkc := hk.of_block (hK.block bk hbk (fun h => (hS bk h).2 rfl))
  refine ⟨rfl, ⟨S', hp', fun k hk => ?_, hkc, Nat.lt_of_lt_of_le hbk hK.size, hb.trans (hK.toBelow hB (fun k hk => (hS k hk).1))⟩, hkc, Nat.le_trans hB hK.size⟩
  rcases hS' k hk with h1 | h1
  · exact hS k h1
  · exact ⟨by omega, by omega⟩

theorem ok5 : dOk 1 5 ⟨#[]⟩ [] = true := by
  unfold dOk
  rw [if_neg (by decide)]
  exact itemOk_of ⟨by decide, .inl ⟨rfl, by rw [ByteArray.toList_eq]; rfl⟩⟩
theorem may5 (t : Int) (h0 : 0 ≤ t) (h1 : t < 16777216) : refusedE [1, 2, 3] (e5 t).c = 0 := by
  rw [refused_may]
  have : mayE (e5 t).c = true := by
    unfold mayE
    rw [Bool.and_eq_true, decide_eq_true_eq]
    exact ⟨⟨h0, h1⟩, by rw [show (e5 t).c.1.ok = (e5 t).ok from (e5 t).ok_d]; exact ok5⟩
  rw [this]
  rfl
theorem l1 : insR [1, 2, 3] [] (e5 1).c = 0 ∧ insL [1, 2, 3] [] (e5 1).c = [(e5 1).c] := by
  have h : insR [1, 2, 3] [] (e5 1).c = 0 := by unfold insR; rw [may5 1 (by decide) (by decide)]; rfl
  exact ⟨h, by unfold insL; rw [h]; rfl⟩
theorem e5_ne : (e5 0).c ≠ (e5 1).c := fun h => by have := congrArg Prod.snd h; revert this; decide
theorem l2 : insR [1, 2, 3] [(e5 1).c] (e5 0).c = 0 ∧ insL [1, 2, 3] [(e5 1).c] (e5 0).c = [(e5 0).c, (e5 1).c] := by
  have hn : (e5 0).c ∉ [(e5 1).c] := fun h => e5_ne (List.mem_singleton.1 h)
  have h : insR [1, 2, 3] [(e5 1).c] (e5 0).c = 0 := by unfold insR; rw [may5 0 (by decide) (by decide), if_pos rfl, if_neg hn]
  refine ⟨h, ?_⟩
  unfold insL
  rw [h, if_pos rfl, withE_cons, if_pos]
  exact ahead_iff.2 (.inr ⟨rfl, by decide⟩)
theorem l3 : insR [1, 2, 3] [(e5 0).c, (e5 1).c] (e5 0).c = 160 ∧ insL [1, 2, 3] [(e5 0).c, (e5 1).c] (e5 0).c = [(e5 0).c, (e5 1).c] := by
  have h : insR [1, 2, 3] [(e5 0).c, (e5 1).c] (e5 0).c = 160 := by unfold insR; rw [may5 0 (by decide) (by decide), if_pos rfl, if_pos (by simp)]
  exact ⟨h, by unfold insL; rw [h]; rfl⟩

/-- Three Inserts, one behind the other. -/
theorem three {B P bk : Nat} {w0 W : World} (h : Aw B P bk w0 [] W) (hB : B ≤ W.heap.size) :
    Calls Try.prog 24 #[.pointer (some ⟨P, 0, none⟩), (e5 1).v] W fun r w1 => r = .returned (.int .i64 0) ∧ KC bk w1 ∧
      Hid (Calls Try.prog 24 #[.pointer (some ⟨P, 0, none⟩), (e5 0).v] w1 fun r w2 => r = .returned (.int .i64 0) ∧ KC bk w2 ∧
        Hid (Calls Try.prog 24 #[.pointer (some ⟨P, 0, none⟩), (e5 0).v] w2 fun r w3 => r = .returned (.int .i64 160) ∧ KC bk w3 ∧ Hid (Aw B P bk w0 [(e5 0).c, (e5 1).c] w3 ∧ B ≤ w3.heap.size))) := by
  refine (aw_ins h hB 1 ⟨by decide, by decide⟩ (by decide)).mono ?_
  rintro r w1 ⟨rfl, h1, hk1, hb1⟩
  rw [l1.2] at h1
  refine ⟨by rw [l1.1], hk1, Lib.hid ?_⟩
  refine (aw_ins h1 hb1 0 ⟨by decide, by decide⟩ (by simp)).mono ?_
  rintro r w2 ⟨rfl, h2, hk2, hb2⟩
  rw [l2.2] at h2
  refine ⟨by rw [l2.1], hk2, Lib.hid ?_⟩
  refine (aw_ins h2 hb2 0 ⟨by decide, by decide⟩ (by simp)).mono ?_
  rintro r w3 ⟨rfl, h3, hk3, hb3⟩
  rw [l3.2] at h3
  exact ⟨by rw [l3.1], hk3, Lib.hid ⟨h3, hb3⟩⟩

theorem find5 : findE [(e5 0).c, (e5 1).c] (e5 0).d = [0, 1] := by
  have h : ∀ t, ((e5 t).c.1 = (e5 0).d) = True := fun t => eq_true rfl
  unfold findE
  simp only [List.filter_cons, List.filter_nil, h, decide_true, if_true, List.map_cons, List.map_nil]
  rfl

set_option maxHeartbeats 3200000 in
theorem awake_any (w : World) : Calls Try.prog 15 #[] w fun r w' => r = .returned (.bool true) ∧ Below w.heap.size w w' := by
  go_enter Try.func15, Try.ntmps15
  go_wp2_with fail
  refine (newPlain_any w).mono ?_
  rintro r w1 ⟨rfl, hp, hb⟩
  obtain ⟨P, hP⟩ : ∃ P, P = w.heap.size := ⟨_, rfl⟩
  rw [← hP] at hp
  have hPl : P < w1.heap.size := hp.bound P rfl
  have hAW : Aw w.heap.size P w1.heap.size w [] ((w1.alloc (.cells #[.int .i64 1, .int .i64 5, .string ⟨#[]⟩, .slice none 0 0] 33)).drew) := by
    have hb1 : Below w1.heap.size w1 ((w1.alloc (.cells #[.int .i64 1, .int .i64 5, .string ⟨#[]⟩, .slice none 0 0] 33)).drew) := ((Below.refl _ _).alloc (Nat.le_refl _) _).drew
    refine ⟨_, hp.below hb1, fun k hk => ⟨by rw [hk, hP]; exact Nat.le_refl _, by rw [hk]; omega⟩, ?_, by simp, hb.trans (hb1.mono hb.size)⟩
    unfold KC
    refine ⟨?_, ?_, ?_, ?_⟩ <;> (show World.cell? (World.alloc _ _) _ = _; simp)
  have HT := Lib.hid (three hAW (by have := hb.size; simp; omega))
  obtain ⟨bk, hbk⟩ : ∃ bk, bk = w1.heap.size := ⟨_, rfl⟩
  have HB := Lib.hid hb
  obtain ⟨-, -, -, ⟨k0, k1, k2, k3⟩, -, -⟩ := hAW
  rw [← hP]
  clear hp hP hb
  go_wp2_with fail
  rw [← hbk] at HT k0 k1 k2 k3 ⊢
  obtain ⟨W0, hW0⟩ : ∃ W0, W0 = w1.alloc (.cells #[.int .i64 1, .int .i64 5, .string ⟨#[]⟩, .slice none 0 0] 33) := ⟨_, rfl⟩
  rw [← hW0] at HT k0 k1 k2 k3 ⊢
  clear hW0
  have HBK := Lib.hid hbk
  clear hbk
  have HS0 : Hid (KC bk W0.drew) := Lib.hid ⟨k0, k1, k2, k3⟩
  refine wp_region_held_drew (S := fun W => KC bk W) (by kernel_rfl) HS0.out (fun hHeld => ?_)
  refine wpAnyH_take (i := 0) (v := .pointer (some ⟨P, 0, none⟩)) rfl (by kernel_rfl) (by kernel_rfl) (by kernel_rfl) (fun _ _ _ h => h) (Or.inl ⟨by first | rfl | (unfold Region.wanted yielded; go_simp), fun W hW => by clear hW; go_simp⟩) HS0.out ?_
  refine wpAnyH_take (i := 1) (v := .agg #[.int .i64 1, .int .i64 5, .string ⟨#[]⟩, .slice none 0 0]) rfl (by kernel_rfl) (by kernel_rfl) (by kernel_rfl) (fun _ _ _ h => h) (Or.inl ⟨by first | rfl | (unfold Region.wanted yielded; go_simp), fun W hW => by obtain ⟨q0, q1, q2, q3⟩ := hW; go_simp⟩) HS0.out ?_
  refine wpAnyH_take (i := 2) (v := .agg #[.int .i64 1, .int .i64 5, .string ⟨#[]⟩, .slice none 0 0, .int .i64 1]) rfl (by kernel_rfl) (by kernel_rfl) (by kernel_rfl) (fun _ _ _ h => h) (Or.inl ⟨by first | rfl | (unfold Region.wanted yielded; go_simp), fun W hW => by clear hW; go_simp⟩) HS0.out ?_
  refine wpAnyH_take (i := 4) (v := .pointer (some ⟨P, 0, none⟩)) rfl (by kernel_rfl) (by kernel_rfl) (by kernel_rfl) (fun _ _ _ h => h) (Or.inl ⟨by first | rfl | (unfold Region.wanted yielded; go_simp), fun W hW => by clear hW; go_simp⟩) HS0.out ?_
  refine wpAnyH_take (i := 5) (v := .agg #[.int .i64 1, .int .i64 5, .string ⟨#[]⟩, .slice none 0 0]) rfl (by kernel_rfl) (by kernel_rfl) (by kernel_rfl) (fun _ _ _ h => h) (Or.inl ⟨by first | rfl | (unfold Region.wanted yielded; go_simp), fun W hW => by obtain ⟨q0, q1, q2, q3⟩ := hW; go_simp⟩) HS0.out ?_
  refine wpAnyH_take (i := 6) (v := .agg #[.int .i64 1, .int .i64 5, .string ⟨#[]⟩, .slice none 0 0, .int .i64 0]) rfl (by kernel_rfl) (by kernel_rfl) (by kernel_rfl) (fun _ _ _ h => h) (Or.inl ⟨by first | rfl | (unfold Region.wanted yielded; go_simp), fun W hW => by clear hW; go_simp⟩) HS0.out ?_
  refine wpAnyH_take (i := 8) (v := .pointer (some ⟨P, 0, none⟩)) rfl (by kernel_rfl) (by kernel_rfl) (by kernel_rfl) (fun _ _ _ h => h) (Or.inl ⟨by first | rfl | (unfold Region.wanted yielded; go_simp), fun W hW => by clear hW; go_simp⟩) HS0.out ?_
  refine wpAnyH_take (i := 9) (v := .agg #[.int .i64 1, .int .i64 5, .string ⟨#[]⟩, .slice none 0 0]) rfl (by kernel_rfl) (by kernel_rfl) (by kernel_rfl) (fun _ _ _ h => h) (Or.inl ⟨by first | rfl | (unfold Region.wanted yielded; go_simp), fun W hW => by obtain ⟨q0, q1, q2, q3⟩ := hW; go_simp⟩) HS0.out ?_
  refine wpAnyH_take (i := 10) (v := .agg #[.int .i64 1, .int .i64 5, .string ⟨#[]⟩, .slice none 0 0, .int .i64 0]) rfl (by kernel_rfl) (by kernel_rfl) (by kernel_rfl) (fun _ _ _ h => h) (Or.inl ⟨by first | rfl | (unfold Region.wanted yielded; go_simp), fun W hW => by clear hW; go_simp⟩) HS0.out ?_
  refine wpAnyH_ready (rs := [3]) (by kernel_rfl) (by simp) ?_
  refine AllReadyH.cons rfl (fun K hK => ?_) AllReadyH.nil
  go_simp
  go_at_call 24
  refine HT.out.mono ?_
  rintro r w2 ⟨rfl, hs2, HT2⟩
  refine hK.out _ _ hs2 (fun _ => ?_)
  clear hK K
  have HS2 := Lib.hid hs2
  clear hs2 HT
  refine wpAnyH_ready (rs := [7]) (by kernel_rfl) (by simp) ?_
  refine AllReadyH.cons rfl (fun K hK => ?_) AllReadyH.nil
  go_simp
  go_at_call 24
  refine HT2.out.mono ?_
  rintro r w3 ⟨rfl, hs3, HT3⟩
  refine hK.out _ _ hs3 (fun _ => ?_)
  clear hK K
  have HS3 := Lib.hid hs3
  clear hs3 HT2
  refine wpAnyH_ready (rs := [11]) (by kernel_rfl) (by simp) ?_
  refine AllReadyH.cons rfl (fun K hK => ?_) AllReadyH.nil
  go_simp
  go_at_call 24
  refine HT3.out.mono ?_
  rintro r w4 ⟨rfl, hs4, HFIN⟩
  refine hK.out _ _ hs4 (fun _ => ?_)
  clear hK K
  have HS4 := Lib.hid hs4
  clear hs4 HT3
  refine wpAnyH_take (i := 12) (v := .int .i64 0) rfl (by kernel_rfl) (by kernel_rfl) (by kernel_rfl) (fun _ _ _ h => h) (Or.inl ⟨by first | rfl | (unfold Region.wanted yielded; go_simp), fun W hW => by clear hW; go_simp⟩) HS4.out ?_
  refine wpAnyH_take (i := 13) (v := .int .i64 0) rfl (by kernel_rfl) (by kernel_rfl) (by kernel_rfl) (fun _ _ _ h => h) (Or.inl ⟨by first | rfl | (unfold Region.wanted yielded; go_simp), fun W hW => by clear hW; go_simp⟩) HS4.out ?_
  refine wpAnyH_take (i := 14) (v := .int .i64 160) rfl (by kernel_rfl) (by kernel_rfl) (by kernel_rfl) (fun _ _ _ h => h) (Or.inl ⟨by first | rfl | (unfold Region.wanted yielded; go_simp), fun W hW => by clear hW; go_simp⟩) HS4.out ?_
  refine wpAnyH_done (by kernel_rfl) ?_ _
  clear hHeld HS0 HS2 HS3 k0 k1 k2 k3
  obtain ⟨c0, c1, c2, c3⟩ := HS4.out
  obtain ⟨⟨S, hp, hS, -, -, hb4⟩, hB4⟩ := HFIN.out
  have HFD : Hid (Calls Try.prog 30 #[.pointer (some ⟨P, 0, none⟩), .agg #[.int .i64 1, .int .i64 5, .string ⟨#[]⟩, .slice none 0 0]] w4 fun r w' => ∃ g c, r = .returned (.tuple #[.slice (some ⟨g, 0, none⟩) 2 c, .int .i64 0]) ∧ w'.cell? ⟨g, 0, none⟩ = some (.int .i64 0) ∧ w'.cell? ⟨g, 1, none⟩ = some (.int .i64 1) ∧ Hid (PlSt P S w' [(e5 0).c, (e5 1).c] ∧ Below w4.heap.size w4 w')) := Lib.hid (by
    refine (find_st (e := e5 0) hp (by simp) (e5_in 0 ⟨by decide, by decide⟩ w4)).mono ?_
    rintro r w' ⟨v, rfl, hr, hbw⟩
    have ho : (e5 0).ok = true := ok5
    rw [if_pos ho, find5] at hr
    obtain ⟨g, c, rfl⟩ := ownsRow_some hr
    rw [if_pos ho]
    have hcell := World.ownsRow.cells hr (g := g) rfl
    have r0 := hcell 0 (.int .i64 0) rfl
    have r1 := hcell 1 (.int .i64 1) rfl
    exact ⟨g, c, rfl, by simpa [Addr.add_lit] using r0, by simpa [Addr.add_lit] using r1, Lib.hid ⟨hp.below hbw, hbw⟩⟩)
  have HB4 := Lib.hid hb4
  clear hp hS hb4 hB4 HFIN HS4
  go_wp2_with fail
  refine HFD.out.mono ?_
  rintro r w5 ⟨g, c, rfl, r0, r1, H5⟩
  have HNM := Lib.hid (name_st H5.out.1)
  clear HFD
  go_wp2_with (go_at_call 23; refine (HNM.out).mono ?_; rintro e w' ⟨rfl, rfl⟩)
  go_ret
  exact ⟨rfl, HB4.out.trans (H5.out.2.mono HB4.out.size)⟩
end Go.Proofs.Ytnghhhmhinailaa.Dm
