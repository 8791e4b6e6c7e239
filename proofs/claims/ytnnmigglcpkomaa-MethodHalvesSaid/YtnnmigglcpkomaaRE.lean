/- slices.Delete of one element. -/
import Derived.Test.YtnnmigglcpkomaaRC
set_option maxRecDepth 100000
namespace Go.Proofs.Ytnnmigglcpkomaa.Dm
open Go Go.RowKit

theorem take_cut2 (L xs ys : List Value) (a b k : Nat) (hx : L.take k = xs) (hb : a ≤ b) (hbk : b ≤ k) (hk : k ≤ L.length) (hy : ys = xs.drop b) (m : Nat) (hm : m + b = k + a) : (L.take a ++ ys ++ L.drop (a + ys.length)).take m = xs.take a ++ xs.drop b := by
  have hxl : xs.length = k := by rw [← hx, List.length_take]; omega
  have t1 : L.take a = xs.take a := by
    rw [← hx, List.take_take]
    congr 1
    omega
  rw [t1, hy]
  exact List.take_left' (by rw [List.length_append, List.length_take, List.length_drop, hxl]; omega)

set_option maxHeartbeats 3200000 in
/-- Delete of the element at i. -/
theorem delHeld_any (g m cap i : Nat) (xs : List Value) (w : World) (cur : Array Value) (hg : w.heap[g]? = some (.cells cur 80 (0, 0))) (hi : i ≤ m) (hcap : m + 1 ≤ cap) (hcm : cap ≤ maxLen) (hm : m < 2199023255552)
    (hcs : cur.size = cap * 2) (hx : cur.toList.take ((m + 1) * 2) = xs) (h1x : ∀ u ∈ xs, u.oneCell' = true) :
    Calls Try.prog 112 #[.slice (some ⟨g, 0, none⟩) (m + 1) cap, .int .i64 i, .int .i64 ((i : Int) + 1)] w fun e w' => e = .returned (.slice (some ⟨g, 0, none⟩) m cap) ∧
      ∃ row : Array Value, w'.heap[g]? = some (.cells row 80 (0, 0)) ∧ row.size = cap * 2 ∧ row.toList.take (m * 2) = xs.take (i * 2) ++ xs.drop ((i + 1) * 2) ∧ w.grownBy w' (some g) ∧ w'.heap.size = w.heap.size := by
  obtain ⟨i0, hi0, hz0, hzs, hzb⟩ := info_parts infoHeld
  have zzsize : i0.size = 2 := hzs
  have hxl : xs.length = (m + 1) * 2 := by rw [← hx, List.length_take, Array.length_toList]; omega
  have hcm' : cap ≤ 9223372036854775807 := by unfold maxLen at hcm; omega
  obtain ⟨X, hX⟩ : ∃ X, X = xs.drop ((i + 1) * 2) := ⟨_, rfl⟩
  have hdl : X.length = (m - i) * 2 := by rw [hX, List.length_drop]; omega
  obtain ⟨AD, hAD, hADc⟩ : ∃ AD : Addr, (if cap = i + 1 then some (⟨g, 0, none⟩ : Addr) else some ⟨g, (i + 1) * 2, none⟩) = some AD ∧ ∀ j u, X[j]? = some u → w.cell? (AD.add j) = some u := by
    by_cases hc : cap = i + 1
    · refine ⟨⟨g, 0, none⟩, by rw [if_pos hc], fun j u hj => ?_⟩
      have : X = [] := List.eq_nil_of_length_eq_zero (by rw [hdl]; omega)
      rw [this] at hj
      simp at hj
    · refine ⟨⟨g, (i + 1) * 2, none⟩, by rw [if_neg hc], fun j u hj => ?_⟩
      rw [Addr.add_lit, Lib.cell_of_heap hg]
      rw [hX, List.getElem?_drop, ← hx, List.getElem?_take] at hj
      split at hj
      · simpa using hj
      · cases hj
  obtain ⟨A1, hA1⟩ : ∃ A1 : Array Value, A1 = (cur.toList.take (i * 2) ++ X ++ cur.toList.drop (i * 2 + X.length)).toArray := ⟨_, rfl⟩
  have hA1s : A1.size = cap * 2 := by
    rw [hA1]
    simp only [List.size_toArray, List.length_append, List.length_take, List.length_drop, Array.length_toList, hcs, hdl]
    omega
  have hap : ∀ ty c, (Builtin.append_ #[102, 102] ty #[.slice (some ⟨g, 0, none⟩) i cap, .slice (some AD) (m - i) c]).run Try.prog w.drew = .ok (.slice (some ⟨g, 0, none⟩) m cap) (w.drew.setRow g A1) := fun ty c => by
    have h := run_append_room (P := Try.prog) w.drew 102 ty 80 i0 Try.underlying102 hi0 g i cap cur hg AD (m - i) c X (by rw [hdl, zzsize]) hADc (fun u hu => h1x u (List.mem_of_mem_drop (by rw [← hX]; exact hu))) (by omega) (by rw [zzsize, hdl, hcs]; omega)
    rw [zzsize, show i + (m - i) = m by omega] at h
    rw [hA1]
    simpa only [Nat.mul_one] using h
  obtain ⟨W1, hW1⟩ : ∃ W1, W1 = w.drew.setRow g A1 := ⟨_, rfl⟩
  rw [← hW1] at hap
  have hg1 : W1.heap[g]? = some (.cells A1 80 (0, 0)) := by rw [hW1]; exact setRow_heap w.drew g cur A1 _ _ hg
  obtain ⟨ze, hze⟩ : ∃ ze : Value, ze = (.agg #[.string ⟨#[]⟩, .int .i64 0]) := ⟨_, rfl⟩
  have hzl : (Builtin.zeroCells ze.cells 1).toList.length = 1 * 2 := by rw [zc_length, hze]; rfl
  have hz1 : ∀ v ∈ (Builtin.zeroCells ze.cells 1).toList, v.oneCell' = true := zc_one _ _ (by rw [hze]; intro v hv; simp [Value.cells] at hv; rcases hv with rfl | rfl <;> rfl) (by rw [hze]; decide)
  obtain ⟨A2, hA2⟩ : ∃ A2, A2 = (splice A1.toList (m * 2) (Builtin.zeroCells ze.cells 1).toList).toArray := ⟨_, rfl⟩
  have hcl : ∀ ty c, (Builtin.clear_ #[102] ty #[.slice (some ⟨g, m * 2, none⟩) 1 c]).run Try.prog W1 = .ok (.tuple #[]) (W1.setRow g A2) := fun ty c => by
    rw [hA2]
    exact run_clear_any W1 102 80 ty ze Try.underlying102 (fun w => by rw [hze]; exact Try.zeroValue80 w) g (m * 2) 1 c A1 80 hg1 (by omega) (by rw [hzl, hA1s]; omega) hz1
  obtain ⟨W2, hW2⟩ : ∃ W2, W2 = W1.setRow g A2 := ⟨_, rfl⟩
  rw [← hW2] at hcl
  have HG : Hid (W2.heap[g]? = some (.cells A2 80 (0, 0))) := Lib.hid (by rw [hW2]; exact setRow_heap W1 g A1 A2 _ _ hg1)
  have HS : Hid (A2.size = cap * 2) := Lib.hid (by rw [hA2, List.size_toArray, length_splice _ _ _ (by rw [hzl, Array.length_toList, hA1s]; omega), Array.length_toList, hA1s])
  have HT : Hid (A2.toList.take (m * 2) = xs.take (i * 2) ++ xs.drop ((i + 1) * 2)) := Lib.hid (by
    rw [hA2]
    show (splice _ _ _).take _ = _
    unfold splice
    rw [List.take_append_of_le_length (by rw [List.length_take, Array.length_toList, hA1s]; omega), List.take_take, Nat.min_self, hA1]
    exact take_cut2 cur.toList xs X (i * 2) ((i + 1) * 2) ((m + 1) * 2) hx (by omega) (by omega) (by rw [Array.length_toList, hcs]; omega) hX (m * 2) (by omega))
  have HB : Hid (w.grownBy W2 (some g) ∧ W2.heap.size = w.heap.size) := Lib.hid (by
    rw [hW2, hW1]
    refine ⟨⟨rfl, rfl, rfl, by simp, fun k _ hk => ?_⟩, by simp⟩
    rw [setRow_other _ g k _ (fun hh => hk (by rw [hh])), setRow_other _ g k _ (fun hh => hk (by rw [hh]))]
    rfl)
  clear hg1 hW1 hW2 hA1 hA1s hA2 hX hdl hADc hx hxl hcs h1x hg hzl hz1 hze hz0 zzsize hi0 hzs hzb
  have e1 : ¬ ((i : Int) = (i : Int) + 1) := by omega
  have e2 : ¬ (cap = i) := by omega
  have e3 : ¬ (cap = m) := by omega
  have hw1 : IntKind.i64.wrap ((i : Int) + 1) = (i : Int) + 1 := IntWalk.i64_in _ (by omega)
  have b1 : (0 : Int) ≤ (i : Int) + 1 := by omega
  have b2 : ((i : Int) + 1).toNat = i + 1 := by omega
  have b3 : ((m : Int) + 1).toNat = m + 1 := by omega
  have b4 : (i : Int) ≤ (m : Int) + 1 := by omega
  have b5 : m ≤ cap := by omega
  have b6 : (m : Int) + 1 ≤ (cap : Int) := by omega
  have b7 : i ≤ cap := by omega
  have b8 : i ≤ m + 1 := by omega
  go_enter Try.func112, Try.ntmps112
  go_wp2
  go_region_law (refine step_app_run rfl _ _ 102 rfl _ _ _ (by rfl) (by rfl) (hap _ _) ?_)
  all_goals
    go_wp2_with (at_builtin; refine wpList_clear_ran _ rfl _ 102 rfl _ rfl (hcl _ _) ?_)
    go_ret
    exact ⟨rfl, A2, HG.out, HS.out, HT.out, HB.out.1, HB.out.2⟩
end Go.Proofs.Ytnnmigglcpkomaa.Dm
