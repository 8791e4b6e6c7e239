/- slices.Insert of one element: in place, at the end, or into a new row. -/
import Derived.Test.YtnnmigglcpkomaaRC
set_option maxRecDepth 100000
namespace Go.Proofs.Ytnnmigglcpkomaa.Dm
open Go Go.RowKit

set_option maxHeartbeats 1600000 in
/-- Insert behind the last element. -/
theorem inShelf_end (ao : Option Addr) (n cap : Nat) (xs : List Value) (vb : Nat) (news : List Value) (w : World) (h : w.ownsRow 0 102 1 (.slice ao n cap) n xs) (hn : n < 2199023255552)
    (hb : w.heap[vb]? = some (.cells news.toArray 102 (0, 0))) (hl : news.length = 1 * 1) (h1 : ∀ u ∈ news, u.oneCell' = true) :
    Calls Try.prog 72 #[.slice ao n cap, .int .i64 n, .slice (some ⟨vb, 0, none⟩) 1 1] w fun e w' => ∃ v', e = .returned v' ∧ w'.ownsRow 0 102 1 v' (n + 1) (xs ++ news) ∧ Grew w w' (.slice ao n cap) v' := by
  obtain ⟨i0, hi0, hz0, hzs, hzb⟩ := info_parts infoHelds
  obtain ⟨v', w', hr, hO, hG⟩ := append_own2 w 61 61 102 i0 _ 1 24 Try.underlying61 hi0 hz0 hzs hzb rfl (by decide) (.slice ao n cap) n xs h ⟨vb, 0, none⟩ 1 1 news hl (fun j u hj => by
    have e1 : (⟨vb, 0, none⟩ : Addr).add j = ⟨vb, j, none⟩ := by rw [Addr.add_lit, Nat.zero_add]
    rw [e1, Lib.cell_of_heap hb]
    simpa using hj) h1 (by unfold maxLen; omega) (by omega) (by omega)
  have HO := Lib.hid hO
  have HG := Lib.hid hG
  clear hO hG h hb h1 hl
  by_cases hc : cap = n
  · subst hc
    go_enter Try.func72, Try.ntmps72
    go_wp2_with (at_builtin; refine Lib.wpList_append_run _ rfl _ _ 61 61 rfl _ _ rfl rfl _ _ hr ?_)
    go_ret
    exact ⟨_, rfl, HO.out, HG.out⟩
  · go_enter Try.func72, Try.ntmps72
    go_wp2_with (at_builtin; refine Lib.wpList_append_run _ rfl _ _ 61 61 rfl _ _ rfl rfl _ _ hr ?_)
    go_ret
    exact ⟨_, rfl, HO.out, HG.out⟩

set_option maxHeartbeats 3200000 in
/-- Insert ahead of the last, where there is room: in place. -/
theorem inShelf_room (g n cap i : Nat) (xs : List Value) (vb : Nat) (news : List Value) (w : World) (cur : Array Value) (hg : w.heap[g]? = some (.cells cur 102 (0, 0))) (hi : i < n) (hcap : n + 1 ≤ cap) (hcm : cap ≤ maxLen)
    (hcs : cur.size = cap * 1) (hx : cur.toList.take (n * 1) = xs) (hb : w.heap[vb]? = some (.cells news.toArray 102 (0, 0))) (hl : news.length = 1 * 1) (h1 : ∀ u ∈ news, u.oneCell' = true) (h1x : ∀ u ∈ xs, u.oneCell' = true) (hne : vb ≠ g) :
    Calls Try.prog 72 #[.slice (some ⟨g, 0, none⟩) n cap, .int .i64 i, .slice (some ⟨vb, 0, none⟩) 1 1] w fun e w' => e = .returned (.slice (some ⟨g, 0, none⟩) (n + 1) cap) ∧
      w' = (w.drew.setRow g (splice cur.toList (i + 1) (xs.drop i)).toArray).setRow g (splice (splice cur.toList (i + 1) (xs.drop i)) i news).toArray := by
  obtain ⟨i0, hi0, hz0, hzs, hzb⟩ := info_parts infoHelds
  have hsz : (Try.prog.info? 102).map (·.size) = some 1 := by rw [hi0]; simp [hzs]
  have hxl : xs.length = n * 1 := by rw [← hx, List.length_take, Array.length_toList]; omega
  have hcm' : cap ≤ 9223372036854775807 := by unfold maxLen at hcm; omega
  have hdl : (xs.drop i).length = (n - i) * 1 := by rw [List.length_drop]; omega
  obtain ⟨X, hX⟩ : ∃ X, X = xs.drop i := ⟨_, rfl⟩
  rw [← hX] at hdl ⊢
  have hov : ∀ lb cb W, W.heap[g]? = some (.cells cur 102 (0, 0)) → W.heap[vb]? = some (.cells news.toArray 102 (0, 0)) → (callFunc 83 #[.slice (some ⟨vb, 0, none⟩) 1 1, .slice (some ⟨g, i + 1, none⟩) lb cb]).run Try.prog W = .ok (.value (.bool false)) W := fun lb cb W hg' hb' => by
    rw [run_callFunc_extern Try.func83 (by kernel_rfl) (by kernel_rfl) (by kernel_rfl) (e := Extern.SlicesOverlaps.overlaps #[61, 61] #[4]) (by kernel_rfl),
      Lib.run_overlaps_apart W 61 4 102 Try.underlying61 1 Try.sizeOf102 ⟨vb, 0, none⟩ ⟨g, i + 1, none⟩ 1 1 lb cb hne 102 102 news.length cur.size (by simp [World.shape?, hb']) (by simp [World.shape?, hg']) (by omega) (by simp [World.frozen?, hb']) (by simp [World.frozen?, hb'])]
    rfl
  have hov0 := fun lb cb => hov lb cb w hg hb
  obtain ⟨A1, hA1⟩ : ∃ A1, A1 = (splice cur.toList (i + 1) X).toArray := ⟨_, rfl⟩
  have hA1s : A1.size = cap * 1 := by rw [hA1, List.size_toArray, length_splice _ _ _ (by rw [hdl, Array.length_toList, hcs]; omega), Array.length_toList, hcs]
  have hcp1 : ∀ ty dc sc, (Builtin.copy_ #[61, 61] ty #[.slice (some ⟨g, i + 1, none⟩) (n - i) dc, .slice (some ⟨g, i, none⟩) (n + 1 - i) sc]).run Try.prog w.drew = .ok (goInt ((n - i : Nat) : Int)) (w.drew.setRow g A1) := fun ty dc sc => by
    rw [hA1]
    exact run_copy_any w.drew 61 61 ty 102 1 g (i + 1) (n - i) dc ⟨g, i, none⟩ (n + 1 - i) sc cur 102 X (n - i) Try.underlying61 hsz hg (by simp only [Nat.min_def]; split <;> omega) hdl
      (fun j u hj => by
        rw [Addr.add_lit]
        have : w.drew.cell? ⟨g, i + j, none⟩ = cur[i + j]? := Lib.cell_of_heap (show w.drew.heap[g]? = _ from hg) _
        rw [this]
        rw [hX, List.getElem?_drop, ← hx, List.getElem?_take] at hj
        split at hj
        · simpa using hj
        · cases hj) (by rw [hdl, hcs]; omega) (fun u hu => h1x u (List.mem_of_mem_drop (by rw [← hX]; exact hu)))
  have hcp2 : ∀ ty dc, (Builtin.copy_ #[61, 61] ty #[.slice (some ⟨g, i, none⟩) (n + 1 - i) dc, .slice (some ⟨vb, 0, none⟩) 1 1]).run Try.prog (w.drew.setRow g A1) = .ok (goInt 1) ((w.drew.setRow g A1).setRow g (splice A1.toList i news).toArray) := fun ty dc =>
    run_copy_any (w.drew.setRow g A1) 61 61 ty 102 1 g i (n + 1 - i) dc ⟨vb, 0, none⟩ 1 1 A1 102 news 1 Try.underlying61 hsz (setRow_heap w.drew g cur A1 _ _ hg) (by simp only [Nat.min_def]; split <;> omega) hl
      (cells_row (by rw [setRow_other w.drew g vb A1 hne]; exact hb)) (by rw [hl, hA1s]; omega) h1
  have hout : (w.drew.setRow g A1).setRow g (splice A1.toList i news).toArray = (w.drew.setRow g (splice cur.toList (i + 1) X).toArray).setRow g (splice (splice cur.toList (i + 1) X) i news).toArray := by rw [hA1]
  rw [← hout]
  obtain ⟨W2, hW2⟩ : ∃ W2, W2 = (w.drew.setRow g A1).setRow g (splice A1.toList i news).toArray := ⟨_, rfl⟩
  rw [← hW2] at hcp2 ⊢
  obtain ⟨W1, hW1⟩ : ∃ W1, W1 = w.drew.setRow g A1 := ⟨_, rfl⟩
  rw [← hW1] at hcp1 hcp2
  clear hout hA1 hA1s hX hdl hW1 hW2 hx hxl hov h1 h1x hl hb hg hcs
  have e1 : ¬ ((i : Int) = (n : Int)) := by omega
  have e2 : ¬ (cap = i + 1) := by omega
  have e3 : ¬ (cap = i) := by omega
  have hw1 : IntKind.i64.wrap ((i : Int) + 1) = (i : Int) + 1 := IntWalk.i64_in _ (by omega)
  have hw2 : IntKind.i64.wrap ((n : Int) + 1) = (n : Int) + 1 := IntWalk.i64_in _ (by omega)
  have b1 : (0 : Int) ≤ (i : Int) + 1 := by omega
  have b2 : ((i : Int) + 1).toNat = i + 1 := by omega
  have b3 : ((n : Int) + 1).toNat = n + 1 := by omega
  have b4 : i ≤ n := by omega
  have b5 : (i : Int) ≤ (n : Int) + 1 := by omega
  go_enter Try.func72, Try.ntmps72
  go_wp2_with (first | simp only [hov0])
  go_region_law (refine step_copy_ran rfl _ _ 61 61 rfl _ _ (by simp [Act.eval, Act.put]) (by simp [Act.eval, Act.put]) (hcp1 _ _ _) ?_)
  all_goals
    go_wp2_with (at_builtin; refine wpList_copy_ran _ rfl _ _ 61 61 rfl _ _ rfl rfl (hcp2 _ _) ?_)
    go_ret
    exact ⟨rfl, rfl⟩

set_option maxHeartbeats 3200000 in
/-- Insert ahead of the last, where there is no room: a new row. -/
theorem inShelf_grow (g n cap i : Nat) (xs : List Value) (vb : Nat) (news : List Value) (w : World) (cur : Array Value) (hg : w.heap[g]? = some (.cells cur 102 (0, 0))) (hi : i < n) (hnc : n ≤ cap) (hcap : ¬ n + 1 ≤ cap) (hn : n < 2199023255552)
    (hcs : cur.size = cap * 1) (hx : cur.toList.take (n * 1) = xs) (hb : w.heap[vb]? = some (.cells news.toArray 102 (0, 0))) (hl : news.length = 1 * 1) (h1 : ∀ u ∈ news, u.oneCell' = true) (h1x : ∀ u ∈ xs, u.oneCell' = true) :
    Calls Try.prog 72 #[.slice (some ⟨g, 0, none⟩) n cap, .int .i64 i, .slice (some ⟨vb, 0, none⟩) 1 1] w fun e w' => ∃ c row, e = .returned (.slice (some ⟨w.heap.size, 0, none⟩) (n + 1) c) ∧ n + 1 ≤ c ∧ c ≤ maxLen ∧ row.size = c * 1 ∧
      row.toList.take ((n + 1) * 1) = xs.take i ++ news ++ xs.drop i ∧ w'.heap[w.heap.size]? = some (.cells row 102 (0, 0)) ∧ Below w.heap.size w w' := by
  obtain ⟨i0, hi0, hz0, hzs, hzb⟩ := info_parts infoHelds
  have hsz : (Try.prog.info? 102).map (·.size) = some 1 := by rw [hi0]; simp [hzs]
  have hxl : xs.length = n * 1 := by rw [← hx, List.length_take, Array.length_toList]; omega
  obtain ⟨C, hC⟩ : ∃ C, C = grownCap w (n + 1) cap 102 := ⟨_, rfl⟩
  have hC1 : n + 1 ≤ C := by rw [hC]; exact grownCap_ge w _ _ _
  have hC2 : C ≤ maxLen := by rw [hC]; exact grownCap_le_maxLen w (n + 1) cap 102 (by unfold maxLen; omega)
  have hold : (Builtin.firstCells i0.size i (.slice (some ⟨g, 0, none⟩) i cap)).run Try.prog w.drew = .ok (xs.take i).toArray w.drew := by
    rw [hzs]
    exact run_firstCells_some w.drew 1 i ⟨g, 0, none⟩ i cap (xs.take i) (by rw [List.length_take, hxl]; omega) (fun j u hj => by
      rw [Addr.add_lit, Nat.zero_add]
      have : w.drew.cell? ⟨g, j, none⟩ = cur[j]? := Lib.cell_of_heap (show w.drew.heap[g]? = _ from hg) _
      rw [this]
      rw [← hx, List.take_take, List.getElem?_take] at hj
      split at hj
      · simpa using hj
      · cases hj)
  have hik : i + (n + 1 - i) = n + 1 := by omega
  obtain ⟨ze, hze⟩ : ∃ ze : Value, ze = (.slice none 0 0) := ⟨_, rfl⟩
  have hz0' : i0.zero = some ze := by rw [hze]; exact hz0
  have hzl : ze.cells.size = 1 := by rw [hze]; rfl
  obtain ⟨ROW, hROW⟩ : ∃ ROW : Array Value, ROW = (xs.take i).toArray ++ Builtin.zeroCells ze.cells (n + 1 - i) ++ Builtin.zeroCells ze.cells (C - (n + 1)) := ⟨_, rfl⟩
  have hRs : ROW.size = C * 1 := by
    rw [hROW]
    simp only [Array.size_append, List.size_toArray, List.length_take, hxl, Builtin.zeroCells, Array.size_map, Array.size_range, hzl]
    omega
  have hrz : ∀ ty, (Builtin.append_ #[61, 3] ty #[.slice (some ⟨g, 0, none⟩) i cap, .int .i64 ((n : Int) + 1 - (i : Int))]).run Try.prog w = .ok (.slice (some ⟨w.heap.size, 0, none⟩) (n + 1) C) (w.drew.alloc (.cells ROW 102)) := fun ty => by
    have h := Lib.run_append_grow_zeros w 61 3 ty 102 i0 ze .i64 .i64 Try.underlying61 Try.underlying3 hi0 hz0' (some ⟨g, 0, none⟩) i cap _ hold (n + 1 - i) (by omega) (by omega) (by omega) (by omega) (by rw [hzb]; omega) (by rw [hzb, hik]; exact growslice_fits (by omega) (by omega))
    rw [hik] at h
    rw [show (n : Int) + 1 - (i : Int) = ((n + 1 - i : Nat) : Int) by omega, hROW, hC]
    exact h
  obtain ⟨W1, hW1⟩ : ∃ W1, W1 = w.drew.alloc (.cells ROW 102) := ⟨_, rfl⟩
  rw [← hW1] at hrz
  have hgw : g < w.heap.size := (Array.getElem?_eq_some_iff.1 hg).1
  have hvw : vb < w.heap.size := (Array.getElem?_eq_some_iff.1 hb).1
  have hN : W1.heap[w.heap.size]? = some (.cells ROW 102 (0, 0)) := by rw [hW1]; show (w.heap.push _)[w.heap.size]? = _; simp
  have hg1 : W1.heap[g]? = some (.cells cur 102 (0, 0)) := by rw [hW1]; exact (Lib.alloc_old w.drew _ g hgw).trans hg
  have hb1 : W1.heap[vb]? = some (.cells news.toArray 102 (0, 0)) := by rw [hW1]; exact (Lib.alloc_old w.drew _ vb hvw).trans hb
  have hB1 : Below w.heap.size w W1 := by rw [hW1]; exact ((Below.refl _ _).drew).alloc (Nat.le_refl _) _
  obtain ⟨A1, hA1⟩ : ∃ A1, A1 = (splice ROW.toList i news).toArray := ⟨_, rfl⟩
  have hA1s : A1.size = C * 1 := by rw [hA1, List.size_toArray, length_splice _ _ _ (by rw [hl, Array.length_toList, hRs]; omega), Array.length_toList, hRs]
  have hcp1 : ∀ ty dc, (Builtin.copy_ #[61, 61] ty #[.slice (some ⟨w.heap.size, i, none⟩) (n + 1 - i) dc, .slice (some ⟨vb, 0, none⟩) 1 1]).run Try.prog W1 = .ok (goInt 1) (W1.setRow w.heap.size A1) := fun ty dc => by
    rw [hA1]
    exact run_copy_any W1 61 61 ty 102 1 w.heap.size i (n + 1 - i) dc ⟨vb, 0, none⟩ 1 1 ROW 102 news 1 Try.underlying61 hsz hN (by simp only [Nat.min_def]; split <;> omega) hl (cells_row hb1) (by rw [hl, hRs]; omega) h1
  obtain ⟨W2, hW2⟩ : ∃ W2, W2 = W1.setRow w.heap.size A1 := ⟨_, rfl⟩
  rw [← hW2] at hcp1
  have hN2 : W2.heap[w.heap.size]? = some (.cells A1 102 (0, 0)) := by rw [hW2]; exact setRow_heap W1 w.heap.size ROW A1 _ _ hN
  have hg2 : W2.heap[g]? = some (.cells cur 102 (0, 0)) := by rw [hW2, setRow_other W1 w.heap.size g A1 (by omega)]; exact hg1
  have hB2 : Below w.heap.size w W2 := by rw [hW2]; exact below_setRow hB1 (Nat.le_refl _) A1
  obtain ⟨X, hX⟩ : ∃ X, X = xs.drop i := ⟨_, rfl⟩
  have hdl : X.length = (n - i) * 1 := by rw [hX, List.length_drop]; omega
  obtain ⟨A2, hA2⟩ : ∃ A2, A2 = (splice A1.toList (i + 1) X).toArray := ⟨_, rfl⟩
  have hA2s : A2.size = C * 1 := by rw [hA2, List.size_toArray, length_splice _ _ _ (by rw [hdl, Array.length_toList, hA1s]; omega), Array.length_toList, hA1s]
  have hcp2 : ∀ ty dc sc, (Builtin.copy_ #[61, 61] ty #[.slice (some ⟨w.heap.size, i + 1, none⟩) (n - i) dc, .slice (some ⟨g, i, none⟩) (n - i) sc]).run Try.prog W2.drew = .ok (goInt ((n - i : Nat) : Int)) (W2.drew.setRow w.heap.size A2) := fun ty dc sc => by
    rw [hA2]
    exact run_copy_any W2.drew 61 61 ty 102 1 w.heap.size (i + 1) (n - i) dc ⟨g, i, none⟩ (n - i) sc A1 102 X (n - i) Try.underlying61 hsz hN2 (by simp only [Nat.min_def]; split <;> omega) hdl
      (fun j u hj => by
        rw [Addr.add_lit]
        have : W2.drew.cell? ⟨g, i + j, none⟩ = cur[i + j]? := Lib.cell_of_heap (show W2.drew.heap[g]? = _ from hg2) _
        rw [this]
        rw [hX, List.getElem?_drop, ← hx, List.getElem?_take] at hj
        split at hj
        · simpa using hj
        · cases hj) (by rw [hdl, hA1s]; omega) (fun u hu => h1x u (List.mem_of_mem_drop (by rw [← hX]; exact hu)))
  obtain ⟨W3, hW3⟩ : ∃ W3, W3 = W2.drew.setRow w.heap.size A2 := ⟨_, rfl⟩
  rw [← hW3] at hcp2
  have HN3 : Hid (W3.heap[w.heap.size]? = some (.cells A2 102 (0, 0))) := Lib.hid (by rw [hW3]; exact setRow_heap W2.drew w.heap.size A1 A2 _ _ hN2)
  have HB3 : Hid (Below w.heap.size w W3) := Lib.hid (by rw [hW3]; exact below_setRow hB2.drew (Nat.le_refl _) A2)
  have HA2 : Hid (A2.toList.take ((n + 1) * 1) = xs.take i ++ news ++ xs.drop i) := Lib.hid (by
    have t1 : ROW.toList.take i = xs.take i := by
      rw [hROW, Array.toList_append, Array.toList_append, List.append_assoc]
      exact List.take_left' (by rw [List.length_take, hxl]; omega)
    have t2 : A1.toList.take (i + 1) = xs.take i ++ news := by
      rw [hA1]
      show (splice ROW.toList i news).take (i + 1) = _
      unfold splice
      rw [t1, ← List.append_assoc]
      exact List.take_left' (by rw [List.length_append, List.length_take, hxl, hl]; omega)
    rw [hA2]
    show (splice A1.toList (i + 1) X).take ((n + 1) * 1) = _
    unfold splice
    rw [t2, ← hX, ← List.append_assoc]
    exact List.take_left' (by rw [List.length_append, List.length_append, List.length_take, hxl, hl, hdl]; omega))
  have HA2s := Lib.hid hA2s
  have HC := Lib.hid (And.intro hC1 hC2)
  have hC63 : C ≤ 9223372036854775807 := by unfold maxLen at hC2; omega
  clear hW1 hW2 hW3 hA1 hA2 hA1s hA2s hROW hRs hX hdl hN hN2 hg1 hg2 hb1 hB1 hB2 hgw hvw hx hxl h1 h1x hl hb hg hcs hC hC2 hze hz0' hzl hold
  have e1 : ¬ ((i : Int) = (n : Int)) := by omega
  have e2 : ¬ (C = i + 1) := by omega
  have e3 : ¬ (C = i) := by omega
  have e4 : ¬ (cap = i) := by omega
  have e5 : (cap : Int) < (n : Int) + 1 := by omega
  have hw1 : IntKind.i64.wrap ((i : Int) + 1) = (i : Int) + 1 := IntWalk.i64_in _ (by omega)
  have hw2 : IntKind.i64.wrap ((n : Int) + 1) = (n : Int) + 1 := IntWalk.i64_in _ (by omega)
  have hw3 : IntKind.i64.wrap ((n : Int) + 1 - (i : Int)) = (n : Int) + 1 - (i : Int) := IntWalk.i64_in _ (by omega)
  have b1 : (0 : Int) ≤ (i : Int) + 1 := by omega
  have b2 : ((i : Int) + 1).toNat = i + 1 := by omega
  have b3 : ((n : Int) + 1).toNat = n + 1 := by omega
  have b4 : i ≤ n := by omega
  have b5 : (i : Int) ≤ (n : Int) + 1 := by omega
  go_enter Try.func72, Try.ntmps72
  go_wp2_with (at_builtin; first | (refine Lib.wpList_append_run _ rfl _ _ 61 3 rfl _ _ rfl rfl _ _ (hrz _) ?_) | (refine wpList_copy_ran _ rfl _ _ 61 61 rfl _ _ rfl rfl (hcp1 _ _) ?_))
  go_region_law (refine step_copy_ran rfl _ _ 61 61 rfl _ _ (by simp [Act.eval, Act.put]) (by simp [Act.eval, Act.put]) (hcp2 _ _ _) ?_)
  all_goals
    go_wp2
    go_ret
    exact ⟨C, A2, rfl, HC.out.1, HC.out.2, HA2s.out, HA2.out, HN3.out, HB3.out⟩

/-- Insert of one element, wherever. -/
theorem inShelf_any (v : Value) (n i : Nat) (xs : List Value) (vb : Nat) (news : List Value) (w : World) (h : w.ownsRow 0 102 1 v n xs) (hi : i ≤ n) (hn : n < 2199023255552)
    (hb : w.heap[vb]? = some (.cells news.toArray 102 (0, 0))) (hl : news.length = 1 * 1) (h1 : ∀ u ∈ news, u.oneCell' = true) (h1x : ∀ u ∈ xs, u.oneCell' = true) (hne : v.ownBlock ≠ some vb) :
    Calls Try.prog 72 #[v, .int .i64 i, .slice (some ⟨vb, 0, none⟩) 1 1] w fun e w' => ∃ v', e = .returned v' ∧ w'.ownsRow 0 102 1 v' (n + 1) (xs.take i ++ news ++ xs.drop i) ∧ Grew w w' v v' := by
  have hxl := h.1
  by_cases hin : i = n
  · subst hin
    obtain ⟨ao, cap, rfl⟩ : ∃ ao cap, v = .slice ao i cap := by
      rcases h.2 with ⟨rfl, rfl⟩ | ⟨g, cap, cur, rfl, _⟩
      · exact ⟨_, _, rfl⟩
      · exact ⟨_, _, rfl⟩
    refine (inShelf_end ao i cap xs vb news w h hn hb hl h1).mono ?_
    rintro e w' ⟨v', rfl, hO, hG⟩
    refine ⟨v', rfl, ?_, hG⟩
    rw [List.take_of_length_le (by omega), List.drop_eq_nil_of_le (by omega), List.append_nil]
    exact hO
  · rcases h.2 with ⟨rfl, rfl⟩ | ⟨g, cap, cur, rfl, _, hg, hnc, hcm, hcs, hx⟩
    · omega
    · have hlen : (xs.take i ++ news ++ xs.drop i).length = (n + 1) * 1 := by
        simp only [List.length_append, List.length_take, List.length_drop, hxl, hl]
        omega
      by_cases hcap : n + 1 ≤ cap
      · refine (inShelf_room g n cap i xs vb news w cur hg (by omega) hcap hcm hcs hx hb hl h1 h1x (fun hh => hne (by rw [hh]; rfl))).mono ?_
        rintro e w' ⟨rfl, rfl⟩
        have hs1 : (splice cur.toList (i + 1) (xs.drop i)).length = cap * 1 := by rw [length_splice _ _ _ (by rw [List.length_drop, hxl, Array.length_toList, hcs]; omega), Array.length_toList, hcs]
        refine ⟨_, rfl, ⟨hlen, .inr ⟨g, cap, _, rfl, Nat.zero_le _, setRow_heap _ g _ _ _ _ (setRow_heap w.drew g cur _ _ _ hg), hcap, hcm, ?_, ?_⟩⟩, ⟨⟨rfl, rfl, rfl, by simp, fun k _ hk => ?_⟩, fun k hk => .inl hk⟩⟩
        · rw [List.size_toArray, length_splice _ _ _ (by rw [hs1, hl]; omega), hs1]
        · show (splice _ _ _).take _ = _
          have := take_splice2 cur.toList xs (xs.drop i) news i (i + 1) ((n - i) * 1) (by rw [← hx]; congr 1; omega) rfl (by omega) (by rw [hl, Array.length_toList, hcs]; omega) (by rw [List.length_drop]; omega)
          rw [← this]
          congr 1
          rw [hl]
          omega
        · rw [setRow_other _ g k _ (fun hh => hk (by rw [hh]; rfl)), setRow_other _ g k _ (fun hh => hk (by rw [hh]; rfl))]
          rfl
      · refine (inShelf_grow g n cap i xs vb news w cur hg (by omega) hnc hcap hn hcs hx hb hl h1 h1x).mono ?_
        rintro e w' ⟨c, row, rfl, hc1, hc2, hr1, hr2, hr3, hB⟩
        refine ⟨_, rfl, ⟨hlen, .inr ⟨w.heap.size, c, row, rfl, Nat.zero_le _, hr3, hc1, hc2, hr1, hr2⟩⟩, ⟨⟨hB.os, hB.tape, hB.output, hB.size, fun k hk _ => hB.block k hk⟩, fun k hk => .inr ?_⟩⟩
        simp only [Value.ownBlock, Option.some.injEq] at hk
        omega
end Go.Proofs.Ytnnmigglcpkomaa.Dm
