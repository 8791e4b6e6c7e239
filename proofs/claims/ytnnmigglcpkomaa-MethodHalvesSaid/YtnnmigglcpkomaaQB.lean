/- The contract of split: a shelf that is too long is parted. -/
import Derived.Test.YtnnmigglcpkomaaQA
import Derived.Test.YtnnmigglcpkomaaRD
import Derived.Deep.DeepCutAuto
set_option maxRecDepth 100000
namespace Go.Proofs.Ytnnmigglcpkomaa.Dm
open Go Go.RowKit

/-- Nothing turned since. -/
theorem RkPost.below {P : Nat} {v : Value} {ss : List Sh} {F : List Hd} {w w1 w2 : World} {e : Ending} (h : RkPost P v ss F w e w1) (hb : Below w1.heap.size w1 w2) : RkPost P v ss F w e w2 := by
  obtain ⟨v', ss', h1, h2, h3, h4, h5, h6, h7⟩ := h
  have hl := h2.lt
  exact ⟨v', ss', h1, h2.below hb, h3, h4.trans (Kept.ofBelow (S := fun _ => False) hb) (fun _ h => h.elim), h5, (hb.cell (p := ⟨P, 0, none⟩) hl).trans h6, h7⟩

/-- What stands behind the second half's insertion. -/
structure SpMid (P sb c g2 c2 : Nat) (A B : List Sh) (X : List Hd) (wx : World) (g3 c3 sb2 c' : Nat) (W4 : World) : Prop where
  hg3 : wx.heap.size ≤ g3
  hk4 : ∀ k, k < wx.heap.size → k ≠ sb → W4.heap[k]? = wx.heap[k]?
  hrow3 : W4.ownsRow 0 80 2 (.slice (some ⟨g3, 0, none⟩) 257 c3) 257 (cellsH (X.drop 256))
  hO : W4.ownsRow 0 102 1 (.slice (some ⟨sb2, 0, none⟩) ((A ++ ⟨g2, c2, X⟩ :: B).length + 1) c') ((A ++ ⟨g2, c2, X⟩ :: B).length + 1) (((A ++ ⟨g2, c2, X⟩ :: B).map Sh.v).take (A.length + 1) ++ [.slice (some ⟨g3, 0, none⟩) 257 c3] ++ ((A ++ ⟨g2, c2, X⟩ :: B).map Sh.v).drop (A.length + 1))
  hsb2 : sb2 = sb ∨ wx.heap.size ≤ sb2
  hg3s : g3 ≠ sb2
  hos : W4.os = wx.os
  htp : W4.tape = wx.tape
  hout : W4.output = wx.output
  hsz : wx.heap.size ≤ W4.heap.size

set_option maxHeartbeats 3200000 in
theorem split_any (P sb c : Nat) (A B : List Sh) (s : Sh) (X : List Hd) (w wx : World) (hm : PutMid P sb c A B s X w wx) (hX : X.length = 513) (hfew : ∀ t, t ∈ A ++ s :: B → t.hs.length ≤ 512) (hn : (A ++ s :: B).length < 2199023255552) :
    Calls Try.prog 56 #[.pointer (some ⟨P, 1, none⟩), .int .i64 A.length] wx fun e w' => e = .returned (.tuple #[]) ∧ RkPost P (.slice (some ⟨sb, 0, none⟩) (A ++ s :: B).length c) (A ++ s :: B) ((Sh.lists A).flatten ++ X ++ (Sh.lists B).flatten) w (.returned (.bool true)) w' := by
  obtain ⟨g2, c2, hR, hK, hg, h0⟩ := hm
  have ess : A ++ [(⟨g2, c2, X⟩ : Sh)] ++ B = A ++ ⟨g2, c2, X⟩ :: B := by simp
  have eln : (A ++ s :: B).length = (A ++ (⟨g2, c2, X⟩ : Sh) :: B).length := by simp
  rw [ess] at hR
  rw [eln] at hR hK hn ⊢
  obtain ⟨n, hnn⟩ : ∃ n, n = (A ++ (⟨g2, c2, X⟩ : Sh) :: B).length := ⟨_, rfl⟩
  obtain ⟨i, hi⟩ : ∃ i, i = A.length := ⟨_, rfl⟩
  have hin : i < n := by rw [hnn, hi]; simp
  have hcm1 := hR.cell
  have hPl := hR.lt
  have hSA := hR.shelf ⟨g2, c2, X⟩ (by simp)
  have hg2l : g2 < wx.heap.size := hSA.lt
  have hsP : (⟨g2, c2, X⟩ : Sh) ∈ A ++ ⟨g2, c2, X⟩ :: B := by simp
  have hg2s : g2 ≠ sb := fun h => (hR.sP _ hsP).2 (by rw [h]; rfl)
  obtain ⟨b', hb', hsbl, hsc⟩ := hR.at A.length (by simp)
  cases hb'
  rw [show (A ++ (⟨g2, c2, X⟩ : Sh) :: B)[A.length]'(by simp) = ⟨g2, c2, X⟩ by simp, ← hi] at hsc
  have hsbP : sb ≠ P := fun h => hR.vP (by rw [h]; rfl)
  obtain ⟨cur, hcur, hcs, hqc, hcm, htk⟩ : ∃ cur : Array Value, wx.heap[g2]? = some (.cells cur 80 (0, 0)) ∧ cur.size = c2 * 2 ∧ 513 ≤ c2 ∧ c2 ≤ maxLen ∧ cur.toList.take (513 * 2) = cellsH X := by
    rcases hSA.2 with ⟨h1, _⟩ | ⟨g, cap, cur, h1, _, hg, hnc, hcm, hcs, ht⟩
    · cases h1
    · simp only [Sh.v, Value.slice.injEq, Option.some.injEq, Addr.mk.injEq] at h1
      obtain ⟨⟨rfl, -⟩, -, rfl⟩ := h1
      simp only [hX] at hnc ht
      exact ⟨cur, hg, hcs, hnc, hcm, ht⟩
  have hsv : Sh.v ⟨g2, c2, X⟩ = .slice (some ⟨g2, 0, none⟩) 513 c2 := by unfold Sh.v; rw [hX]
  rw [hsv] at hsc
  -- the upper half anew
  have HC : Hid (∀ W, Below wx.heap.size wx W → Calls Try.prog 73 #[.slice (some ⟨g2, 512, none⟩) 257 (c2 - 256)] W fun e w' => ∃ g3 c3, e = .returned (.slice (some ⟨g3, 0, none⟩) 257 c3) ∧ Hid (w'.ownsRow 0 80 2 (.slice (some ⟨g3, 0, none⟩) 257 c3) 257 (cellsH (X.drop 256)) ∧ wx.heap.size ≤ g3) ∧ Hid (Below wx.heap.size wx w') ∧ w'.cell? ⟨P, 1, none⟩ = some (.slice (some ⟨sb, 0, none⟩) n c) ∧ (w'.alloc (.cells #[.slice (some ⟨g3, 0, none⟩) 257 c3] 102)).cell? ⟨P, 1, none⟩ = some (.slice (some ⟨sb, 0, none⟩) n c)) := Lib.hid (fun W hW => by
    have hgW : W.heap[g2]? = some (.cells cur 80 (0, 0)) := (hW.block g2 hg2l).trans hcur
    have hdl : (cellsH (X.drop 256)).length = 257 * 2 := by rw [cellsH_length, List.length_drop, hX]
    refine (clHeld_any ⟨g2, 512, none⟩ 257 (c2 - 256) (cellsH (X.drop 256)) W (by omega) hdl (fun j u hj => ?_) (cellsH_one' _) (by omega)).mono ?_
    · rw [Addr.add_lit, Lib.cell_of_heap hgW]
      have hj2 : j < 514 := by
        have h := (List.getElem?_eq_some_iff.1 hj).1
        rw [hdl] at h
        omega
      rw [← cellsH_drop, ← htk, List.getElem?_drop, List.getElem?_take, if_pos (by omega)] at hj
      simpa using hj
    · rintro e w' ⟨g3, c3, rfl, h1, h2, h3⟩
      have hBB := hW.trans (h3.mono hW.size)
      exact ⟨g3, c3, rfl, Lib.hid ⟨h1, Nat.le_trans hW.size h2⟩, Lib.hid hBB, by rw [hBB.cell (p := ⟨P, 1, none⟩) hPl, hcm1, hnn], by rw [(hBB.alloc hBB.size _).cell (p := ⟨P, 1, none⟩) hPl, hcm1, hnn]⟩)
  -- and a shelf of its own
  have HI : Hid (∀ W vb g3 c3, Below wx.heap.size wx W → wx.heap.size ≤ g3 → wx.heap.size ≤ vb → W.heap[vb]? = some (.cells #[.slice (some ⟨g3, 0, none⟩) 257 c3] 102 (0, 0)) → W.ownsRow 0 80 2 (.slice (some ⟨g3, 0, none⟩) 257 c3) 257 (cellsH (X.drop 256)) →
      Calls Try.prog 72 #[.slice (some ⟨sb, 0, none⟩) n c, .int .i64 ((i : Int) + 1), .slice (some ⟨vb, 0, none⟩) 1 1] W fun e w' => ∃ sb2 c', e = .returned (.slice (some ⟨sb2, 0, none⟩) (n + 1) c') ∧ w'.cell? ⟨P, 1, none⟩ = some (.slice (some ⟨sb, 0, none⟩) n c) ∧ w'.frozen? ⟨P, 1, none⟩ = false ∧ Hid (SpMid P sb c g2 c2 A B X wx g3 c3 sb2 c' w')) := Lib.hid (fun W vb g3 c3 hW hg3 hvb hcell hrow => by
    have hrowW := ownsRow_below hR.row hW
    have h1 := inShelf_any (.slice (some ⟨sb, 0, none⟩) n c) n (i + 1) ((A ++ (⟨g2, c2, X⟩ : Sh) :: B).map Sh.v) vb [.slice (some ⟨g3, 0, none⟩) 257 c3] W (by rw [hnn]; exact hrowW) (by omega) (by omega) hcell rfl (by simp [Value.oneCell']) (by
      intro u hu
      obtain ⟨t, _, rfl⟩ := List.mem_map.1 hu
      rfl) (fun h => by simp only [Value.ownBlock, Option.some.injEq] at h; omega)
    rw [show ((i + 1 : Nat) : Int) = (i : Int) + 1 by omega] at h1
    refine h1.mono ?_
    rintro e w' ⟨v', rfl, hO, hG⟩
    obtain ⟨sb2, c', rfl⟩ := ownsRow_some hO
    have hkept : ∀ k, k < wx.heap.size → k ≠ sb → w'.heap[k]? = wx.heap[k]? := fun k hk hks => (hG.1.block k (by have := hW.size; omega) (fun h => hks (by simpa [Value.ownBlock] using h))).trans (hW.block k hk)
    have hsb2 : sb2 = sb ∨ W.heap.size ≤ sb2 := by
      rcases hG.2 sb2 rfl with h | h
      · left; simpa [Value.ownBlock] using h.symm
      · exact .inr h
    have hg3W : g3 < W.heap.size := (World.ownsRow.lt hrow g3 rfl).2
    refine ⟨sb2, c', rfl, ?_, ?_, Lib.hid ⟨hg3, hkept, ?_, ?_, ?_, ?_, hG.1.os.trans hW.os, hG.1.tape.trans hW.tape, hG.1.output.trans hW.output, ?_⟩⟩
    · rw [World.cell?_of_block (w := wx) (hkept P hPl (fun h => hsbP h.symm)), hcm1, hnn]
    · rw [World.frozen?_of_block (w := wx) (hkept P hPl (fun h => hsbP h.symm)), hR.cold]
    · exact ownsRow_of_block hrow (fun k hk => by
        cases hk
        exact hG.1.block g3 hg3W (fun h => by simp only [Value.ownBlock, Option.some.injEq] at h; omega))
    · rw [← hnn, ← hi]
      exact hO
    · have := hW.size
      omega
    · omega
    · have := hW.size
      have := hG.1.size
      omega)
  -- what stands at the end
  have HF : Hid (∀ g3 c3 sb2 c' W4, SpMid P sb c g2 c2 A B X wx g3 c3 sb2 c' W4 →
      W4.heap[g2]? = some (.cells cur 80 (0, 0)) ∧ W4.cell? ⟨sb2, i, none⟩ = some (.slice (some ⟨g2, 0, none⟩) 513 c2) ∧ W4.frozen? ⟨sb2, i, none⟩ = false ∧ sb2 ≠ P ∧ sb2 ≠ g2 ∧ sb2 < W4.heap.size ∧
      ∀ row2 : Array Value, row2.size = cur.size → row2.toList.take (256 * 2) = cellsH (X.take 256) → RkPost P (.slice (some ⟨sb, 0, none⟩) n c) (A ++ s :: B) ((Sh.lists A).flatten ++ X ++ (Sh.lists B).flatten) w (.returned (.bool true))
        (((W4.setCell ⟨P, 1, none⟩ (.slice (some ⟨sb2, 0, none⟩) (n + 1) c')).setRow g2 row2).setCell ⟨sb2, i, none⟩ (.slice (some ⟨g2, 0, none⟩) 256 c2))) := Lib.hid (by
    intro g3 c3 sb2 c' W4 M
    have hcW : W4.heap[g2]? = some (.cells cur 80 (0, 0)) := (M.hk4 g2 hg2l hg2s).trans hcur
    have hsl := (World.ownsRow.lt M.hO sb2 rfl).2
    have hpl : P < wx.heap.size := hPl
    have hsb2P : sb2 ≠ P := by
      rcases M.hsb2 with h | h
      · rw [h]; exact hsbP
      · omega
    have hsb2g : sb2 ≠ g2 := by
      rcases M.hsb2 with h | h
      · rw [h]; exact fun h => hg2s h.symm
      · omega
    have hcell : W4.cell? ⟨sb2, i, none⟩ = some (.slice (some ⟨g2, 0, none⟩) 513 c2) ∧ W4.frozen? ⟨sb2, i, none⟩ = false := by
      rcases M.hO.2 with ⟨h1, _⟩ | ⟨g, cap, cu, h1, _, hg, hnc, _, hcs2, ht⟩
      · cases h1
      · cases h1
        refine ⟨?_, Lib.frozen_of_heap hg i⟩
        rw [Lib.cell_of_heap hg]
        have e : (((A ++ (⟨g2, c2, X⟩ : Sh) :: B).map Sh.v).take (A.length + 1) ++ [Value.slice (some ⟨g3, 0, none⟩) 257 c3] ++ ((A ++ (⟨g2, c2, X⟩ : Sh) :: B).map Sh.v).drop (A.length + 1))[i]? = some (.slice (some ⟨g2, 0, none⟩) 513 c2) := by
          have e1 : (A ++ (⟨g2, c2, X⟩ : Sh) :: B).map Sh.v = (A.map Sh.v ++ [Sh.v ⟨g2, c2, X⟩]) ++ B.map Sh.v := by simp
          have el : (A.map Sh.v ++ [Sh.v ⟨g2, c2, X⟩]).length = A.length + 1 := by simp
          rw [e1, List.take_left' el, hi, hsv]
          rw [List.append_assoc, List.append_assoc, List.getElem?_append_right (by rw [List.length_map]; exact Nat.le_refl _), List.length_map, Nat.sub_self]
          rfl
        rw [← ht, List.getElem?_take, if_pos (by rw [← hnn]; omega)] at e
        simpa using e
    refine ⟨hcW, hcell.1, hcell.2, hsb2P, hsb2g, hsl, fun row2 hrs hrt => ?_⟩
    have hE := split_end (half := 256) (q := 513) (W7 := _) hR hX (by omega) (by omega) M.hg3 M.hk4 M.hrow3 M.hO M.hsb2 M.hg3s M.hos M.htp M.hout M.hsz hcW hcs hqc hcm hrs hrt rfl
    rw [← hnn, ← hi] at hE
    obtain ⟨hR7, hK7, h07⟩ := hE
    refine ⟨_, _, rfl, hR7, ?_, ?_, ?_, h07.trans h0, fun t ht => ?_⟩
    · simp only [Sh.lists, List.map_append, List.map_cons, List.map_nil, List.flatten_append, List.flatten_cons, List.flatten_nil, List.append_nil, List.take_append_drop]
    · rw [hnn]
      refine hK.trans (by rw [← hnn]; exact hK7) ?_
      rintro k (rfl | h | ⟨t, ht, rfl⟩)
      · exact .inl (.inl rfl)
      · exact .inl (.inr (.inl (by rw [← hnn]; exact h)))
      · simp only [List.mem_append, List.mem_cons] at ht
        rcases ht with h1 | rfl | h1
        · exact .inl (.inr (.inr ⟨t, by simp [h1], rfl⟩))
        · rcases hg with h2 | h2
          · exact .inl (.inr (.inr ⟨s, by simp, h2.symm⟩))
          · exact .inr h2
        · exact .inl (.inr (.inr ⟨t, by simp [h1], rfl⟩))
    · have hws := hK.size
      have hg3 := M.hg3
      rintro k (rfl | h | ⟨t, ht, rfl⟩)
      · exact .inl (.inl rfl)
      · cases h
        rcases M.hsb2 with h2 | h2
        · exact .inl (.inr (.inl (by rw [h2]; rfl)))
        · right; show w.heap.size ≤ sb2; omega
      · simp only [List.mem_append, List.mem_cons, List.not_mem_nil, or_false] at ht
        rcases ht with (h1 | rfl | rfl) | h1
        · exact .inl (.inr (.inr ⟨t, by simp [h1], rfl⟩))
        · rcases hg with h2 | h2
          · exact .inl (.inr (.inr ⟨s, by simp, h2.symm⟩))
          · exact .inr h2
        · exact .inr (by show w.heap.size ≤ g3; omega)
        · exact .inl (.inr (.inr ⟨t, by simp [h1], rfl⟩))
    · simp only [List.mem_append, List.mem_cons, List.not_mem_nil, or_false] at ht
      rcases ht with (h1 | rfl | rfl) | h1
      · exact hfew t (by simp [h1])
      · show (X.take 256).length ≤ 512
        rw [List.length_take]; omega
      · show (X.drop 256).length ≤ 512
        rw [List.length_drop]; omega
      · exact hfew t (by simp [h1]))
  rw [← hnn] at hcm1 ⊢
  rw [← hi]
  obtain ⟨PP, hPP⟩ : ∃ PP, PP = RkPost P (.slice (some ⟨sb, 0, none⟩) n c) (A ++ s :: B) ((Sh.lists A).flatten ++ X ++ (Sh.lists B).flatten) w (.returned (.bool true)) := ⟨_, rfl⟩
  have HPB : Hid (∀ W, PP W → PP W.drew) := Lib.hid (fun W h => by rw [hPP] at h ⊢; exact h.below (Below.refl _ _).drew)
  rw [← hPP] at HF ⊢
  obtain ⟨MM, hMM⟩ : ∃ MM : Nat → Nat → Nat → Nat → World → Prop, MM = SpMid P sb c g2 c2 A B X wx := ⟨_, rfl⟩
  rw [← hMM] at HF HI
  have HCUR : Hid (cur.size = c2 * 2 ∧ cur.toList.take (513 * 2) = cellsH X) := Lib.hid ⟨hcs, htk⟩
  have HCM : Hid (c2 ≤ 9223372036854775807) := Lib.hid (by unfold maxLen at hcm; omega)
  have hn2 : n < 2199023255552 := by omega
  clear hPP hMM hR hK hg h0 ess eln hnn hi hSA hsP hg2s hsbl hsbP hcur hcs hcm htk hsv hn hfew
  have f1 : ¬ c2 = 256 := by omega
  have f2 : ¬ c2 = 0 := by omega
  have hw1 : IntKind.i64.wrap ((i : Int) + 1) = (i : Int) + 1 := IntWalk.i64_in _ (by omega)
  have hw2 : wrap64 ((i : Int) + 1) = (i : Int) + 1 := IntWalk.wrap64_in _ ⟨by omega, by omega⟩
  have b1 : (i : Int) < (n : Int) := by omega
  have b2 : (i : Int) < (n : Int) + 1 := by omega
  have b3 : (513 : Nat) ≤ c2 := hqc
  have b4 : (256 : Nat) ≤ c2 := by omega
  go_enter Try.func56, Try.ntmps56
  go_upto_region 2 with fail
  go_cut [4, 5] (fun s h wy => s = .slice (some ⟨g2, 0, none⟩) 513 c2 ∧ h = .int .i64 256 ∧ ∃ g3 c3 sb2 c' W4, Hid (MM g3 c3 sb2 c' W4) ∧ wy = W4.setCell ⟨P, 1, none⟩ (.slice (some ⟨sb2, 0, none⟩) (n + 1) c') ∧ W4.cell? ⟨P, 1, none⟩ = some (.slice (some ⟨sb, 0, none⟩) n c) ∧ W4.frozen? ⟨P, 1, none⟩ = false)
  case first =>
    go_region_law (first
      | (go_simp; go_at_call 73; refine (HC.out _ (Below.refl _ _).drew).mono ?_; rintro e w2 ⟨g3, c3, rfl, HO2, HB2, d0, d0'⟩)
      | (go_simp; go_at_call 72; refine (HI.out _ _ g3 c3 (HB2.out.alloc HB2.out.size _) HO2.out.2 HB2.out.size (new_heapH w2 _) (ownsRow_below HO2.out.1 ((Below.refl _ _).alloc (Nat.le_refl _) _))).mono ?_; rintro e w4 ⟨sb2, c', rfl, d1, d2, HM⟩))
    all_goals
      go_wp2_with fail
      go_meet
      exact ⟨rfl, rfl, g3, c3, sb2, c', w4, HM, rfl, d1, d2⟩
  case rest =>
    obtain ⟨rfl, rfl, g3, c3, sb2, c', W4, HM, rfl, d1, d2⟩ := hcut
    obtain ⟨hcW, hsc4, hsf4, hsP4, hsg4, hsl4, hpost⟩ := HF.out _ _ _ _ _ HM.out
    have HPOST := Lib.hid hpost
    obtain ⟨W5, hW5⟩ : ∃ W5, W5 = W4.setCell ⟨P, 1, none⟩ (.slice (some ⟨sb2, 0, none⟩) (n + 1) c') := ⟨_, rfl⟩
    have hc5 : W5.heap[g2]? = some (.cells cur 80 (0, 0)) := by
      rw [hW5, Below.heap_setCell _ _ _ _ (fun h => by
        have h2 : (W4.cell? ⟨P, 1, none⟩) = some (.slice (some ⟨sb, 0, none⟩) n c) := d1
        have h3 : (W4.heap[P]?) = some (.cells cur 80 (0, 0)) := by rw [← show g2 = P from h]; exact hcW
        have h4 : cur.toList.take (513 * 2) = cellsH X := HCUR.out.2
        have h5 := (cellsH_get X 0 (by omega)).2
        rw [← h4, List.getElem?_take, if_pos (by omega)] at h5
        rw [Lib.cell_of_heap h3] at h2
        simp at h5 h2
        rw [h5] at h2
        cases h2)]
      exact hcW
    obtain ⟨ze, hze⟩ : ∃ ze : Value, ze = (.agg #[.string ⟨#[]⟩, .int .i64 0]) := ⟨_, rfl⟩
    have hzl : (Builtin.zeroCells ze.cells 257).toList.length = 257 * 2 := by rw [zc_length, hze]; rfl
    have hz1 : ∀ v ∈ (Builtin.zeroCells ze.cells 257).toList, v.oneCell' = true := zc_one _ _ (by rw [hze]; intro v hv; simp [Value.cells] at hv; rcases hv with rfl | rfl <;> rfl) (by rw [hze]; decide)
    obtain ⟨row2, hrow2⟩ : ∃ row2, row2 = (splice cur.toList 512 (Builtin.zeroCells ze.cells 257).toList).toArray := ⟨_, rfl⟩
    have hcl : ∀ ty cc, (Builtin.clear_ #[102] ty #[.slice (some ⟨g2, 512, none⟩) 257 cc]).run Try.prog W5 = .ok (.tuple #[]) (W5.setRow g2 row2) := fun ty cc => by
      rw [hrow2]
      exact run_clear_any W5 102 80 ty ze Try.underlying102 (fun w => by rw [hze]; exact Try.zeroValue80 w) g2 512 257 cc cur 80 hc5 (by omega) (by rw [hzl, HCUR.out.1]; omega) hz1
    have hrs : row2.size = cur.size := by
      rw [hrow2, List.size_toArray, length_splice _ _ _ (by rw [hzl, Array.length_toList, HCUR.out.1]; omega), Array.length_toList]
    have hrt : row2.toList.take (256 * 2) = cellsH (X.take 256) := by
      rw [hrow2]
      show (splice _ _ _).take _ = _
      unfold splice
      rw [List.take_left' (by rw [List.length_take, Array.length_toList, HCUR.out.1]; omega), ← cellsH_take, ← HCUR.out.2, List.take_take]
      congr 1
    have hfin := HPOST.out row2 hrs hrt
    obtain ⟨W6, hW6⟩ : ∃ W6, W6 = W5.setRow g2 row2 := ⟨_, rfl⟩
    rw [← hW5, ← hW6] at hfin
    rw [← hW6] at hcl
    rw [← hW5]
    have HFIN := Lib.hid hfin
    have k1 : W6.heap[P]? = W5.heap[P]? := by
      rw [hW6]
      refine setRow_other _ g2 P row2 (fun h => ?_)
      have h3 : W5.heap[P]? = some (.cells cur 80 (0, 0)) := by rw [h]; exact hc5
      have h2 : W5.cell? ⟨P, 1, none⟩ = some (.slice (some ⟨sb2, 0, none⟩) (n + 1) c') := by rw [hW5]; exact World.cell?_setCell_same' _ _ _ (by rw [d1]; rfl)
      have h4 : cur.toList.take (513 * 2) = cellsH X := HCUR.out.2
      have h5 := (cellsH_get X 0 (by omega)).2
      rw [← h4, List.getElem?_take, if_pos (by omega)] at h5
      rw [Lib.cell_of_heap h3] at h2
      simp at h5 h2
      rw [h5] at h2
      cases h2
    have k2 : W6.heap[sb2]? = W4.heap[sb2]? := by rw [hW6, setRow_other _ g2 sb2 row2 hsg4, hW5, Below.heap_setCell _ _ _ _ hsP4]
    have q1 : W6.cell? ⟨P, 1, none⟩ = some (.slice (some ⟨sb2, 0, none⟩) (n + 1) c') := by
      rw [World.cell?_of_block (w := W5) k1, hW5]
      exact World.cell?_setCell_same' _ _ _ (by rw [d1]; rfl)
    have q2 : W6.cell? ⟨sb2, i, none⟩ = some (.slice (some ⟨g2, 0, none⟩) 513 c2) := (World.cell?_of_block (w := W4) k2).trans hsc4
    have q3 : W6.frozen? ⟨sb2, i, none⟩ = false := (World.frozen?_of_block (w := W4) k2).trans hsf4
    clear hfin hpost HPOST hW5 hW6 hrow2 hze hzl hz1 hc5 hrs hrt k1 k2 HF HI HC d1 d2 hcW hsc4 hsf4 hcm1 hsc
    go_wp2_with (at_builtin; refine wpList_clear_ran _ rfl _ 102 rfl _ rfl (hcl _ _) ?_)
    go_region
    all_goals
      go_end0
      exact ⟨rfl, HPB.out _ HFIN.out⟩
end Go.Proofs.Ytnnmigglcpkomaa.Dm
