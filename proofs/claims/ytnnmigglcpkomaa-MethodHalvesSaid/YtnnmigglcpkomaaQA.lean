/- slices.Clone of a part of a shelf; what a shelf's parting leaves in memory. -/
import Derived.Test.YtnnmigglcpkomaaRL
set_option maxRecDepth 100000
namespace Go.Proofs.Ytnnmigglcpkomaa.Dm
open Go Go.RowKit

set_option maxHeartbeats 800000 in
/-- slices.Clone of entries: a row of their own. -/
theorem clHeld_any (ad : Addr) (m c : Nat) (cs : List Value) (w : World) (hm : 0 < m) (hl : cs.length = m * 2) (hc : ∀ j u, cs[j]? = some u → w.cell? (ad.add j) = some u) (h1 : ∀ u ∈ cs, u.oneCell' = true) (hb : m < 2199023255552) :
    Calls Try.prog 73 #[.slice (some ad) m c] w fun e w' => ∃ g c2, e = .returned (.slice (some ⟨g, 0, none⟩) m c2) ∧ w'.ownsRow 0 80 2 (.slice (some ⟨g, 0, none⟩) m c2) m cs ∧ w.heap.size ≤ g ∧ Below w.heap.size w w' := by
  obtain ⟨i0, hi0, hz0, hzs, hzb⟩ := info_parts infoHeld
  have hlt : ∀ j u, cs[j]? = some u → (ad.add j).block < w.heap.size := fun j u hj => by
    have h := hc j u hj
    rcases Nat.lt_or_ge (ad.add j).block w.heap.size with h1 | h1
    · exact h1
    · simp [World.cell?, Array.getElem?_eq_none h1] at h
  have hB := (Below.refl w.heap.size w).alloc (Nat.le_refl _) (.cells #[] 80)
  have hO : (w.alloc (.cells #[] 80)).ownsRow 0 80 2 (.slice (some ⟨w.heap.size, 0, none⟩) 0 0) 0 [] :=
    ⟨rfl, .inr ⟨w.heap.size, 0, #[], rfl, Nat.zero_le _, new_heapH w _, Nat.le_refl _, Nat.zero_le _, rfl, rfl⟩⟩
  have hap : ∀ ty, ∃ v' w', (Builtin.append_ #[102, 102] ty #[.slice (some ⟨w.heap.size, 0, none⟩) 0 0, .slice (some ad) m c]).run Try.prog (w.alloc (.cells #[] 80)) = .ok v' w' ∧ w'.ownsRow 0 80 2 v' (0 + m) ([] ++ cs) ∧ Grew (w.alloc (.cells #[] 80)) w' (.slice (some ⟨w.heap.size, 0, none⟩) 0 0) v' := fun ty =>
    append_own2 (w.alloc (.cells #[] 80)) 102 ty 80 i0 _ 2 24 Try.underlying102 hi0 hz0 hzs hzb rfl (by decide) _ 0 [] hO ad m c cs hl (fun j u hj => by
      rw [hB.cell (hlt j u hj)]
      exact hc j u hj) h1 (by unfold maxLen; omega) (by omega) (by omega)
  obtain ⟨v', w', hr, h2, hG⟩ := hap 102
  rw [Nat.zero_add, List.nil_append] at h2
  obtain ⟨k, rfl⟩ : ∃ k, m = k + 1 := ⟨m - 1, by omega⟩
  obtain ⟨g, c2, rfl⟩ := ownsRow_some h2
  have HEND : Hid (w'.ownsRow 0 80 2 (.slice (some ⟨g, 0, none⟩) (k + 1) c2) (k + 1) cs ∧ w.heap.size ≤ g ∧ Below w.heap.size w w') := Lib.hid (by
    refine ⟨h2, ?_, ⟨hG.1.os, hG.1.tape, hG.1.output, ?_, fun b hb => ?_⟩⟩
    · rcases hG.2 g rfl with h | h
      · simp only [Value.ownBlock, Option.some.injEq] at h; omega
      · simp at h; omega
    · have := hG.1.size; simp at this; omega
    · rw [hG.1.block b (by simp; omega) (fun h => by simp only [Value.ownBlock, Option.some.injEq] at h; omega)]
      exact Below.heap_alloc _ _ _ hb)
  clear hap h2 hG hO hB hlt hc hl h1 hb hi0 hz0 hzs hzb
  have he : ∀ w : World, (binOp .eql 102 (.slice (some ad) (k + 1) c) (.slice none 0 0)).run Try.prog w = .ok (.bool false) w := fun _ => rfl
  go_enter Try.func73, Try.ntmps73
  go_wp2_with (at_builtin; refine Lib.wpList_append_run _ rfl _ _ 102 102 rfl _ _ rfl rfl _ _ hr ?_)
  go_ret
  exact ⟨g, c2, rfl, HEND.out.1, HEND.out.2.1, HEND.out.2.2⟩

/-- What parting leaves in memory: the shelf's lower half where it was, its upper half behind it. -/
theorem split_end {P sb c sb2 c' g2 c2 g3 c3 half q : Nat} {A B : List Sh} {X : List Hd} {wx W4 W7 : World} {cur row2 : Array Value}
    (hR : RackAt wx P (.slice (some ⟨sb, 0, none⟩) (A ++ ⟨g2, c2, X⟩ :: B).length c) (A ++ ⟨g2, c2, X⟩ :: B)) (hq : X.length = q) (hh : 0 < half) (hhq : half < q) (hg3 : wx.heap.size ≤ g3)
    (hk4 : ∀ k, k < wx.heap.size → k ≠ sb → W4.heap[k]? = wx.heap[k]?) (hrow3 : W4.ownsRow 0 80 2 (.slice (some ⟨g3, 0, none⟩) (q - half) c3) (q - half) (cellsH (X.drop half)))
    (hO : W4.ownsRow 0 102 1 (.slice (some ⟨sb2, 0, none⟩) ((A ++ ⟨g2, c2, X⟩ :: B).length + 1) c') ((A ++ ⟨g2, c2, X⟩ :: B).length + 1) (((A ++ ⟨g2, c2, X⟩ :: B).map Sh.v).take (A.length + 1) ++ [.slice (some ⟨g3, 0, none⟩) (q - half) c3] ++ ((A ++ ⟨g2, c2, X⟩ :: B).map Sh.v).drop (A.length + 1)))
    (hsb2 : sb2 = sb ∨ wx.heap.size ≤ sb2) (hg3s : g3 ≠ sb2) (hos : W4.os = wx.os) (htp : W4.tape = wx.tape) (hout : W4.output = wx.output) (hsz : wx.heap.size ≤ W4.heap.size)
    (hcur : W4.heap[g2]? = some (.cells cur 80 (0, 0))) (hcs : cur.size = c2 * 2) (hqc : q ≤ c2) (hcm : c2 ≤ maxLen) (hrs : row2.size = cur.size) (hrt : row2.toList.take (half * 2) = cellsH (X.take half))
    (hW7 : W7 = ((W4.setCell ⟨P, 1, none⟩ (.slice (some ⟨sb2, 0, none⟩) ((A ++ ⟨g2, c2, X⟩ :: B).length + 1) c')).setRow g2 row2).setCell ⟨sb2, A.length, none⟩ (.slice (some ⟨g2, 0, none⟩) half c2)) :
    RackAt W7 P (.slice (some ⟨sb2, 0, none⟩) ((A ++ ⟨g2, c2, X⟩ :: B).length + 1) c') (A ++ [⟨g2, c2, X.take half⟩, ⟨g3, c3, X.drop half⟩] ++ B) ∧ Kept (bl P (.slice (some ⟨sb, 0, none⟩) (A ++ ⟨g2, c2, X⟩ :: B).length c) (A ++ ⟨g2, c2, X⟩ :: B)) wx W7 ∧ W7.cell? ⟨P, 0, none⟩ = wx.cell? ⟨P, 0, none⟩ := by
  have hPl := hR.lt
  have hsP : (⟨g2, c2, X⟩ : Sh) ∈ A ++ ⟨g2, c2, X⟩ :: B := by simp
  have hg2P : g2 ≠ P := (hR.sP _ hsP).1
  have hg2s : g2 ≠ sb := fun h => (hR.sP _ hsP).2 (by rw [h]; rfl)
  have hg2l : g2 < wx.heap.size := (hR.shelf _ hsP).lt
  have hsbP : sb ≠ P := fun h => hR.vP (by rw [h]; rfl)
  have hsb2P : sb2 ≠ P := by
    rcases hsb2 with h | h
    · rw [h]; exact hsbP
    · omega
  have hg22 : g2 ≠ sb2 := by
    rcases hsb2 with h | h
    · rw [h]; exact hg2s
    · omega
  have hk7 : ∀ k, k ≠ P → k ≠ g2 → k ≠ sb2 → W7.heap[k]? = W4.heap[k]? := fun k h1 h2 h3 => by
    rw [hW7, Below.heap_setCell _ _ _ _ h3, setRow_other _ g2 k row2 h2, Below.heap_setCell _ _ _ _ h1]
  have hcP : W4.cell? ⟨P, 1, none⟩ = wx.cell? ⟨P, 1, none⟩ := World.cell?_of_block (hk4 P hPl (fun h => hsbP h.symm))
  have hfP : W4.frozen? ⟨P, 1, none⟩ = wx.frozen? ⟨P, 1, none⟩ := World.frozen?_of_block (hk4 P hPl (fun h => hsbP h.symm))
  have hb1 : W7.heap[P]? = (W4.setCell ⟨P, 1, none⟩ (.slice (some ⟨sb2, 0, none⟩) ((A ++ ⟨g2, c2, X⟩ :: B).length + 1) c')).heap[P]? := by
    rw [hW7, Below.heap_setCell _ _ _ _ (fun h => hsb2P h.symm), setRow_other _ g2 P row2 (fun h => hg2P h.symm)]
  have hc2 : ((W4.setCell ⟨P, 1, none⟩ (.slice (some ⟨sb2, 0, none⟩) ((A ++ ⟨g2, c2, X⟩ :: B).length + 1) c')).setRow g2 row2).heap[g2]? = some (.cells row2 80 (0, 0)) :=
    setRow_heap _ g2 cur row2 _ _ (by rw [Below.heap_setCell _ _ _ _ hg2P]; exact hcur)
  have hb2 : W7.heap[g2]? = some (.cells row2 80 (0, 0)) := by
    rw [hW7, Below.heap_setCell _ _ _ _ hg22]
    exact hc2
  have hvs : ((A ++ [(⟨g2, c2, X.take half⟩ : Sh), ⟨g3, c3, X.drop half⟩] ++ B)).map Sh.v = (((A ++ (⟨g2, c2, X⟩ : Sh) :: B).map Sh.v).take (A.length + 1) ++ [Value.slice (some ⟨g3, 0, none⟩) (q - half) c3] ++ ((A ++ ⟨g2, c2, X⟩ :: B).map Sh.v).drop (A.length + 1)).set A.length (Value.slice (some ⟨g2, 0, none⟩) half c2) := by
    have e1 : (A ++ (⟨g2, c2, X⟩ : Sh) :: B).map Sh.v = (A.map Sh.v ++ [Sh.v ⟨g2, c2, X⟩]) ++ B.map Sh.v := by simp
    have el : (A.map Sh.v ++ [Sh.v ⟨g2, c2, X⟩]).length = A.length + 1 := by simp
    rw [e1, List.take_left' el, List.drop_left' el]
    have e2 : Sh.v ⟨g2, c2, X.take half⟩ = .slice (some ⟨g2, 0, none⟩) half c2 := by
      unfold Sh.v
      rw [List.length_take, Nat.min_eq_left (by omega)]
    have e3 : Sh.v ⟨g3, c3, X.drop half⟩ = .slice (some ⟨g3, 0, none⟩) (q - half) c3 := by
      unfold Sh.v
      rw [List.length_drop, hq]
    simp only [List.map_append, List.map_cons, e2, e3, List.append_assoc, List.cons_append, List.nil_append]
    rw [List.set_append_right _ _ (by rw [List.length_map]; exact Nat.le_refl _), List.length_map, Nat.sub_self, List.set_cons_zero]
  have hlen : (A ++ [(⟨g2, c2, X.take half⟩ : Sh), ⟨g3, c3, X.drop half⟩] ++ B).length = (A ++ (⟨g2, c2, X⟩ : Sh) :: B).length + 1 := by simp; omega
  have hO' : ((W4.setCell ⟨P, 1, none⟩ (.slice (some ⟨sb2, 0, none⟩) ((A ++ ⟨g2, c2, X⟩ :: B).length + 1) c')).setRow g2 row2).ownsRow 0 102 1 (.slice (some ⟨sb2, 0, none⟩) ((A ++ ⟨g2, c2, X⟩ :: B).length + 1) c') ((A ++ ⟨g2, c2, X⟩ :: B).length + 1) (((A ++ ⟨g2, c2, X⟩ :: B).map Sh.v).take (A.length + 1) ++ [.slice (some ⟨g3, 0, none⟩) (q - half) c3] ++ ((A ++ ⟨g2, c2, X⟩ :: B).map Sh.v).drop (A.length + 1)) :=
    ownsRow_of_block hO (fun k hk => by cases hk; rw [setRow_other _ g2 sb2 row2 (fun h => hg22 h.symm), Below.heap_setCell _ _ _ _ hsb2P])
  refine ⟨hR.remake ?_ ?_ ?_ ?_ ?_ ?_ ?_, ?_, ?_⟩
  · rw [World.cell?_of_block (w := W4.setCell ⟨P, 1, none⟩ _) hb1]
    exact World.cell?_setCell_same' _ _ _ (by rw [hcP, hR.cell]; rfl)
  · rw [World.frozen?_of_block (w := W4.setCell ⟨P, 1, none⟩ _) hb1, World.frozen?_setCell, hfP]
    exact hR.cold
  · rw [hlen, hvs, hW7]
    exact ownsRow_set (u := .slice (some ⟨g2, 0, none⟩) half c2) hO' (by simp; omega)
  · intro t ht
    have htm : t ∈ A ++ (⟨g2, c2, X⟩ : Sh) :: B := by
      rcases List.mem_append.1 ht with h1 | h1 <;> simp [h1]
    have h1 := (hR.shelf t htm).lt
    have h2 := hR.sP t htm
    have h3 : t.g ≠ g2 := by
      obtain ⟨_, pB, pAB⟩ := List.pairwise_append.1 hR.apart
      rcases List.mem_append.1 ht with h4 | h4
      · exact pAB t h4 ⟨g2, c2, X⟩ (by simp)
      · exact fun h => (List.pairwise_cons.1 pB).1 t h4 h.symm
    have h4 : t.g ≠ sb := fun h => h2.2 (by rw [h]; rfl)
    have h5 : t.g ≠ sb2 := by
      rcases hsb2 with h | h
      · rw [h]; exact h4
      · omega
    rw [hk7 _ h2.1 h3 h5, hk4 _ h1 h4]
  · intro m hm
    simp only [List.mem_cons, List.not_mem_nil, or_false] at hm
    rcases hm with rfl | rfl
    · refine ⟨?_, ?_, .inl rfl, fun h => hg22 (by cases h; rfl)⟩
      · have hl : (X.take half).length = half := by rw [List.length_take]; omega
        refine ⟨by rw [cellsH_length], .inr ⟨g2, c2, row2, rfl, Nat.zero_le _, hb2, by show (X.take half).length ≤ c2; omega, hcm, by rw [hrs]; exact hcs, ?_⟩⟩
        show row2.toList.take ((X.take half).length * 2) = _
        rw [hl]
        exact hrt
      · exact fun h => by have := congrArg List.length h; rw [List.length_take, Nat.min_eq_left (by omega), List.length_nil] at this; omega
    · have hl : (X.drop half).length = q - half := by rw [List.length_drop, hq]
      refine ⟨?_, ?_, .inr hg3, fun h => hg3s (by cases h; rfl)⟩
      · have : W4.ownsRow 0 80 2 (Sh.v ⟨g3, c3, X.drop half⟩) (X.drop half).length (cellsH (X.drop half)) := by
          unfold Sh.v
          rw [hl]
          exact hrow3
        exact ownsRow_of_block this (fun k hk => by cases hk; exact hk7 g3 (by omega) (by omega) hg3s)
      · exact fun h => by have := congrArg List.length h; rw [hl, List.length_nil] at this; omega
  · exact List.pairwise_cons.2 ⟨fun t ht => by rw [List.mem_singleton.1 ht]; show g2 ≠ g3; omega, List.pairwise_singleton _ _⟩
  · rcases hsb2 with h | h
    · exact .inl (by rw [h]; rfl)
    · exact .inr (fun k hk => by cases hk; exact h)
  · refine ⟨by rw [hW7]; exact hos, by rw [hW7]; exact htp, by rw [hW7]; exact hout, ?_, fun k hk hnk => ?_⟩
    · rw [hW7]
      simp only [World.setCell, World.setRow, Array.size_modify]
      exact hsz
    · have h1 : k ≠ P := fun h => hnk (.inl h)
      have h2 : k ≠ sb := fun h => hnk (.inr (.inl (by rw [h]; rfl)))
      have h3 : k ≠ g2 := fun h => hnk (.inr (.inr ⟨_, hsP, h.symm⟩))
      have h4 : k ≠ sb2 := by
        rcases hsb2 with h | h
        · rw [h]; exact h2
        · omega
      rw [hk7 k h1 h3 h4, hk4 k hk h2]
  · rw [World.cell?_of_block (w := W4.setCell ⟨P, 1, none⟩ _) (a := ⟨P, 0, none⟩) hb1, World.cell?_setCell_other _ _ _ _ (by intro h; cases h)]
    exact World.cell?_of_block (hk4 P hPl (fun h => hsbP h.symm))
end Go.Proofs.Ytnnmigglcpkomaa.Dm
