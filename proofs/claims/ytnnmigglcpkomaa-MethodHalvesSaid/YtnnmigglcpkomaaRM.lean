/- The contract of put into a rack without shelves. -/
import Derived.Test.YtnnmigglcpkomaaRL
import Derived.Deep.DeepCutAuto
set_option maxRecDepth 100000
namespace Go.Proofs.Ytnnmigglcpkomaa.Dm
open Go Go.RowKit

set_option maxHeartbeats 3200000 in
theorem put_first (P : Nat) (v : Value) (x : Hd) (w : World) (hR : RackAt w P v [])
    (hS : ∀ W, Below w.heap.size w W → Calls Try.prog 48 #[.pointer (some ⟨P, 1, none⟩), hdV x] W fun e w' => e = .returned (.tuple #[.int .i64 0, .int .i64 0, .bool false]) ∧ Below W.heap.size W w') :
    Calls Try.prog 39 #[.pointer (some ⟨P, 1, none⟩), hdV x] w (RkPost P v [] [x] w) := by
  obtain ⟨i0, hi0, hz0, hzs, hzb⟩ := info_parts infoHelds
  have hc := hR.cell
  have hf := hR.cold
  have hPl := hR.lt
  obtain ⟨a, c, rfl⟩ := hR.form
  simp only [List.length_nil] at hc
  -- the list of shelves takes an empty one
  have HAP : Hid (∀ W, Below w.heap.size w W → ∃ sb c1 w', (Builtin.append_ #[61, 61] 61 #[.slice a 0 c, .slice (some ⟨W.heap.size, 0, none⟩) 1 1]).run Try.prog (W.alloc (.cells #[.slice none 0 0] 102)) = .ok (.slice (some ⟨sb, 0, none⟩) 1 c1) w' ∧
      w'.ownsRow 0 102 1 (.slice (some ⟨sb, 0, none⟩) 1 c1) 1 [.slice none 0 0] ∧ Grew (W.alloc (.cells #[.slice none 0 0] 102)) w' (.slice a 0 c) (.slice (some ⟨sb, 0, none⟩) 1 c1) ∧ w'.cell? ⟨P, 1, none⟩ = some (.slice a 0 c) ∧ w'.frozen? ⟨P, 1, none⟩ = false) := Lib.hid (fun W hW => by
    have hb : (W.alloc (.cells #[.slice none 0 0] 102)).heap[W.heap.size]? = some (.cells [Value.slice none 0 0].toArray 102 (0, 0)) := new_heapH W _
    have hrow : (W.alloc (.cells #[.slice none 0 0] 102)).ownsRow 0 102 1 (.slice a 0 c) 0 [] := ownsRow_below (ownsRow_below hR.row hW) ((Below.refl _ _).alloc (Nat.le_refl _) _)
    obtain ⟨v', w', hr, hO, hG⟩ := append_own2 (W.alloc (.cells #[.slice none 0 0] 102)) 61 61 102 i0 _ 1 24 Try.underlying61 hi0 hz0 hzs hzb rfl (by decide) (.slice a 0 c) 0 [] hrow ⟨W.heap.size, 0, none⟩ 1 1 [.slice none 0 0] rfl (cells_row hb) (by simp [Value.oneCell']) (by unfold maxLen; omega) (by omega) (by omega)
    obtain ⟨sb, c1, rfl⟩ := ownsRow_some hO
    have hP' : w'.heap[P]? = w.heap[P]? := (hG.1.block P (by have := hW.size; simp; omega) (fun h => hR.vP h.symm)).trans ((Below.heap_alloc W _ P (by have := hW.size; omega)).trans (hW.block P hPl))
    exact ⟨sb, c1, w', hr, hO, hG, (World.cell?_of_block (w := w) (a := ⟨P, 1, none⟩) hP').trans hc, (World.frozen?_of_block (w := w) (a := ⟨P, 1, none⟩) hP').trans hf⟩)
  obtain ⟨xk, xt⟩ := x
  unfold hdV at hS ⊢
  simp only [] at hS ⊢
  have HS := Lib.hid hS
  have HR := Lib.hid hR
  have hvP : Hid ((Value.slice a 0 c).ownBlock ≠ some P) := Lib.hid hR.vP
  obtain ⟨PP, hPP⟩ : ∃ PP, PP = RkPost P (.slice a 0 c) [] [(xk, xt)] w := ⟨_, rfl⟩
  have HPP := Lib.hid hPP
  rw [show RkPost P (.slice a [].length c) [] [(xk, xt)] w = PP from hPP.symm]
  clear hS hR hPP
  go_enter Try.func39, Try.ntmps39
  go_wp2_with (go_at_call 48; refine (HS.out _ ((Below.refl _ _).alloc (Nat.le_refl _) _)).mono ?_)
  rintro e w1 ⟨rfl, hb1⟩
  obtain ⟨x0, x1⟩ := boxH (by simpa using hb1)
  have hB : Below w.heap.size w w1 := below_al _ hb1
  have hsz1 : w.heap.size < w1.heap.size := by have := hb1.size; simp at this; omega
  have c1 : w1.cell? ⟨P, 1, none⟩ = some (.slice a 0 c) := (hB.cell (p := ⟨P, 1, none⟩) hPl).trans hc
  have hP1 : P < w1.heap.size := by have := hB.size; omega
  obtain ⟨sb, c1', w2, hr, hO, hG, e1, e2⟩ := HAP.out w1 hB
  have HB := Lib.hid hB
  have HO := Lib.hid hO
  have HG := Lib.hid hG
  clear hb1 hB hc hO hG
  have hsbP : sb ≠ P := fun h => by
    rcases HG.out.2 sb rfl with h1 | h1
    · exact hvP.out (by rw [h1, h])
    · simp at h1; omega
  have hslt : sb < w2.heap.size := (World.ownsRow.lt HO.out sb rfl).2
  have hP2 : P < w2.heap.size := by have := HG.out.1.size; simp at this; omega
  have hbx : w2.heap[w.heap.size]? = w1.heap[w.heap.size]? := (HG.out.1.block w.heap.size (by simp; omega) (fun h => by have := (World.ownsRow.lt HR.out.row _ h.symm).2; omega)).trans (Below.heap_alloc w1 _ _ hsz1)
  have hw2 : w.heap.size < w2.heap.size := by have := HG.out.1.size; simp at this; omega
  obtain ⟨W3, hW3⟩ : ∃ W3, W3 = w2.setCell ⟨P, 1, none⟩ (.slice (some ⟨sb, 0, none⟩) 1 c1') := ⟨_, rfl⟩
  have hk3 : ∀ k, k ≠ P → W3.heap[k]? = w2.heap[k]? := fun k hk => by rw [hW3]; exact Below.heap_setCell _ _ _ _ hk
  have hs3 : W3.heap.size = w2.heap.size := by rw [hW3]; simp [World.setCell]
  have g0 : W3.cell? ⟨P, 1, none⟩ = some (.slice (some ⟨sb, 0, none⟩) 1 c1') := by rw [hW3]; exact World.cell?_setCell_same' _ _ _ (by rw [e1]; rfl)
  have gf : W3.frozen? ⟨P, 1, none⟩ = false := by rw [hW3, World.frozen?_setCell]; exact e2
  have HO3 : Hid (W3.ownsRow 0 102 1 (.slice (some ⟨sb, 0, none⟩) 1 c1') 1 [.slice none 0 0]) := Lib.hid (ownsRow_of_block HO.out (fun k hk => by cases hk; exact hk3 _ hsbP))
  have g1 : W3.cell? ⟨sb, 0, none⟩ = some (.slice none 0 0) := by
    rcases HO3.out.2 with ⟨h1, _⟩ | ⟨g, cap, cur, h1, _, hg, _, _, _, ht⟩
    · cases h1
    · cases h1
      rw [Lib.cell_of_heap hg]
      have : (cur.toList.take (1 * 1))[0]? = some (Value.slice none 0 0) := by rw [ht]; rfl
      simpa using this
  have gsf : W3.frozen? ⟨sb, 0, none⟩ = false := by
    rcases HO3.out.2 with ⟨h1, _⟩ | ⟨g, cap, cur, h1, _, hg, _⟩
    · cases h1
    · cases h1; exact Lib.frozen_of_heap hg 0
  have gx : W3.heap[w.heap.size]? = w1.heap[w.heap.size]? := (hk3 _ (by omega)).trans hbx
  have x0' : W3.cell? ⟨w.heap.size, 0, none⟩ = some (.string xk) := (World.cell?_of_block (w := w1) (a := ⟨w.heap.size, 0, none⟩) gx).trans x0
  have x1' : W3.cell? ⟨w.heap.size, 1, none⟩ = some (.int .i64 xt) := (World.cell?_of_block (w := w1) (a := ⟨w.heap.size, 1, none⟩) gx).trans x1
  have HK3 : Hid (Kept (bl P (.slice a 0 c) []) w W3) := Lib.hid (by
    have hb := HB.out
    have hg := HG.out.1
    refine ⟨by rw [hW3]; exact hg.os.trans hb.os, by rw [hW3]; exact hg.tape.trans hb.tape, by rw [hW3]; exact hg.output.trans hb.output, by rw [hs3]; omega, fun k hk hnk => ?_⟩
    rw [hk3 k (fun h => hnk (.inl h)), hg.block k (by have := hb.size; simp; omega) (fun h => hnk (.inr (.inl h.symm)))]
    exact (Below.heap_alloc w1 _ k (by have := hb.size; omega)).trans (hb.block k hk))
  have H00 : Hid (W3.cell? ⟨P, 0, none⟩ = w.cell? ⟨P, 0, none⟩) := Lib.hid (by
    rw [hW3, World.cell?_setCell_other _ _ _ _ (by intro h; cases h)]
    refine (World.cell?_of_block (w := w1) (a := ⟨P, 0, none⟩) ((HG.out.1.block P (by simp; omega) (fun h => hvP.out h.symm)).trans (Below.heap_alloc w1 _ P hP1))).trans ?_
    exact HB.out.cell (p := ⟨P, 0, none⟩) hPl)
  have HSB : Hid ((Value.slice a 0 c).ownBlock = some sb ∨ w.heap.size ≤ sb) := Lib.hid (by
    rcases HG.out.2 sb rfl with h1 | h1
    · exact .inl h1
    · simp at h1; right; omega)
  have HI : Hid (∀ W vb, (∀ k, k < W3.heap.size → W.heap[k]? = W3.heap[k]?) → W3.heap.size ≤ vb → W3.heap.size ≤ W.heap.size → W.heap[vb]? = some (.cells #[.string xk, .int .i64 xt] 80 (0, 0)) → Calls Try.prog 55 #[.slice none 0 0, .int .i64 0, .slice (some ⟨vb, 0, none⟩) 1 1] W fun e w' => ∃ g2 c2, e = .returned (.slice (some ⟨g2, 0, none⟩) 1 c2) ∧
      w'.cell? ⟨P, 1, none⟩ = some (.slice (some ⟨sb, 0, none⟩) 1 c1') ∧ w'.cell? ⟨sb, 0, none⟩ = some (.slice none 0 0) ∧ w'.frozen? ⟨sb, 0, none⟩ = false ∧ w'.ownsRow 0 80 2 (.slice (some ⟨g2, 0, none⟩) 1 c2) 1 (cellsH [(xk, xt)]) ∧ W3.heap.size ≤ g2 ∧ Kept (fun _ => False) W w') := Lib.hid (fun W vb hW hvb hWs hcell => by
    refine (inHeld_any (.slice none 0 0) 0 0 [] vb [.string xk, .int .i64 xt] W (World.ownsRow_nil _ _ _ _) (Nat.le_refl _) (by omega) hcell rfl (cellsH_one' [(xk, xt)]) (by simp) (by simp [Value.ownBlock])).mono ?_
    rintro e w' ⟨v', rfl, hO', hG'⟩
    obtain ⟨g2, c2, rfl⟩ := ownsRow_some hO'
    have hkept : ∀ k, k < W3.heap.size → w'.heap[k]? = W3.heap[k]? := fun k hk => (hG'.1.block k (by omega) (by simp [Value.ownBlock])).trans (hW k hk)
    refine ⟨g2, c2, rfl, ?_, ?_, ?_, hO', ?_, ⟨hG'.1.os, hG'.1.tape, hG'.1.output, hG'.1.size, fun k hk _ => hG'.1.block k hk (by simp [Value.ownBlock])⟩⟩
    · exact (World.cell?_of_block (w := W3) (a := ⟨P, 1, none⟩) (hkept P (by omega))).trans g0
    · exact (World.cell?_of_block (w := W3) (a := ⟨sb, 0, none⟩) (hkept sb (by omega))).trans g1
    · exact (World.frozen?_of_block (w := W3) (a := ⟨sb, 0, none⟩) (hkept sb (by omega))).trans gsf
    · rcases hG'.2 g2 rfl with h | h
      · simp [Value.ownBlock] at h
      · omega)
  have HFIN : Hid (∀ W g2 c2 w', Below W3.heap.size W3 W → W3.heap.size ≤ g2 → Kept (fun _ => False) W w' → w'.ownsRow 0 80 2 (.slice (some ⟨g2, 0, none⟩) 1 c2) 1 (cellsH [(xk, xt)]) → RkPost P (.slice a 0 c) [] [(xk, xt)] w (.returned (.bool true)) (w'.setCell ⟨sb, 0, none⟩ (.slice (some ⟨g2, 0, none⟩) 1 c2))) := Lib.hid (by
    intro W g2 c2 w' hBW hg2 hK hO'
    have hkept : ∀ k, k < W3.heap.size → w'.heap[k]? = W3.heap[k]? := fun k hk => (hK.block k (by have := hBW.size; omega) (fun h => h)).trans (hBW.block k hk)
    have hk4 : ∀ k, k ≠ sb → (w'.setCell ⟨sb, 0, none⟩ (.slice (some ⟨g2, 0, none⟩) 1 c2)).heap[k]? = w'.heap[k]? := fun k hk => Below.heap_setCell _ _ _ _ hk
    have hrow : w'.ownsRow 0 102 1 (.slice (some ⟨sb, 0, none⟩) 1 c1') 1 [.slice none 0 0] := ownsRow_of_block HO3.out (fun k hk => by cases hk; exact hkept sb (by omega))
    refine ⟨.slice (some ⟨sb, 0, none⟩) 1 c1', [⟨g2, c2, [(xk, xt)]⟩], rfl, ⟨?_, ?_, ?_, ?_, ?_, ?_, ?_, List.pairwise_singleton _ _⟩, by simp [Sh.lists], ?_, ?_, ?_, fun t ht => by rw [List.mem_singleton.1 ht]; simp⟩
    · exact (World.cell?_of_block (w := W3) (a := ⟨P, 1, none⟩) ((hk4 P (fun h => hsbP h.symm)).trans (hkept P (by omega)))).trans g0
    · exact (World.frozen?_of_block (w := W3) (a := ⟨P, 1, none⟩) ((hk4 P (fun h => hsbP h.symm)).trans (hkept P (by omega)))).trans gf
    · exact ownsRow_set (u := .slice (some ⟨g2, 0, none⟩) 1 c2) hrow (i := 0) (by omega)
    · intro t ht
      rw [List.mem_singleton.1 ht]
      exact ownsRow_of_block (show w'.ownsRow 0 80 2 (Sh.v ⟨g2, c2, [(xk, xt)]⟩) 1 (cellsH [(xk, xt)]) from hO') (fun k hk => by cases hk; exact hk4 _ (by show g2 ≠ sb; omega))
    · intro t ht
      rw [List.mem_singleton.1 ht]
      simp
    · exact fun h => hsbP (by cases h; rfl)
    · intro t ht
      rw [List.mem_singleton.1 ht]
      exact ⟨by show g2 ≠ P; omega, fun h => by cases h; omega⟩
    · have hk := HK3.out
      refine ⟨hK.os.trans (hBW.os.trans hk.os), hK.tape.trans (hBW.tape.trans hk.tape), hK.output.trans (hBW.output.trans hk.output), ?_, fun k hkl hnk => ?_⟩
      · have := hk.size
        have := hBW.size
        have := hK.size
        simp only [World.setCell, Array.size_modify]
        omega
      · have h1 : k ≠ sb := fun h => by
          rcases HSB.out with h2 | h2
          · exact hnk (.inr (.inl (by rw [h2, h])))
          · omega
        rw [hk4 k h1, hkept k (by have := hk.size; omega)]
        exact hk.block k hkl hnk
    · rintro k (rfl | h | ⟨t, ht, rfl⟩)
      · exact .inl (.inl rfl)
      · cases h
        rcases HSB.out with h2 | h2
        · exact .inl (.inr (.inl h2))
        · exact .inr h2
      · rw [List.mem_singleton.1 ht]
        exact .inr (by show w.heap.size ≤ g2; omega)
    · exact (World.cell?_of_block (w := W3) (a := ⟨P, 0, none⟩) ((hk4 P (fun h => hsbP h.symm)).trans (hkept P (by omega)))).trans H00.out)
  rw [← HPP.out] at HFIN
  have hsl3 : sb < W3.heap.size := by omega
  have hPl3 : P < W3.heap.size := by omega
  have hwl3 : w.heap.size < W3.heap.size := by omega
  clear H00 HPP hvP HR HAP HS HSB HK3 HO3 HG HO HB gf gsf gx hbx hk3 hs3
  go_upto_region 6 with (at_builtin; refine Lib.wpList_append_run _ rfl _ _ 61 61 rfl _ _ rfl rfl _ _ hr ?_)
  rw [← hW3]
  clear hr hW3 e1 e2 x0 x1 c1
  go_cut [5] (fun k wx => k = .int .i64 0 ∧ PP (.returned (.bool true)) wx ∧ ∃ g2 c2, wx.cell? ⟨P, 1, none⟩ = some (.slice (some ⟨sb, 0, none⟩) 1 c1') ∧ wx.cell? ⟨sb, 0, none⟩ = some (.slice (some ⟨g2, 0, none⟩) 1 c2))
  case first =>
    go_region_law (go_simp; go_at_call 55; refine (HI.out _ _ (((Below.refl _ W3).alloc (Nat.le_refl _) _).drew).block (Nat.le_refl _) (((Below.refl _ W3).alloc (Nat.le_refl _) _).drew).size (new_heapH W3 _)).mono ?_; rintro e w4 ⟨g2, c2, rfl, d1, d2, d3, hO, hgl, hK⟩)
    all_goals
      have HEND := Lib.hid (HFIN.out _ g2 c2 w4 (((Below.refl _ W3).alloc (Nat.le_refl _) _).drew) hgl hK hO)
      clear hO hK
      go_wp2_with fail
      go_meet
      exact ⟨rfl, HEND.out, g2, c2, by rw [World.cell?_setCell_other _ _ _ _ (by intro h; cases h)]; exact d1, World.cell?_setCell_same' _ _ _ (by rw [d2]; rfl)⟩
  case rest =>
    obtain ⟨rfl, hm, g2, c2', d1, d2⟩ := hcut
    have HM := Lib.hid hm
    clear hm
    go_wp2
    exact HM.out
end Go.Proofs.Ytnnmigglcpkomaa.Dm
