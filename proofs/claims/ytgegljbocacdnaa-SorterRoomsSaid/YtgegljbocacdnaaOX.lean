/- Lists of texts, and lists of such lists, that came in: where they lie, and how large a text may be. -/
import Derived.Test.YtgegljbocacdnaaOW
import Derived.Test.YtgegljbocacdnaaGB
import Derived.SizedLaws
set_option maxRecDepth 100000
namespace Go.Proofs.Ytgegljbocacdnaa
open Go Go.ChangeShapes Go.WideShapes Go.ChangeAt Go.RowKit

theorem cells22 : Try.prog.cellsOf 22 = 1 := by kernel_rfl
theorem bytesStr : Try.prog.bytesOf 9 = 16 := by kernel_rfl
section
variable {H : Type} {enc : TypeId × Value → H} {W : World} {base : Nat} {sp : Nat → Bool} {held : Bool}

theorem wAll_in {P : Program} {e : TypeId} : ∀ {l : List (DataW H)} {d : DataW H}, d ∈ l → ∀ n ∈ d.weights P e, n ∈ DataW.weightsAll P e l
  | [], _, h, _, _ => by cases h
  | x :: l, d, h, n, hn => by
    simp only [DataW.weightsAll, List.mem_append]
    rcases List.mem_cons.1 h with rfl | h
    · exact .inl hn
    · exact .inr (wAll_in h n hn)

/-- What a list of texts that came in is: its cells, and what its weights say. -/
theorem open_strs1 {fuel : Nat} {v : Value} {x : DataW H × List MemPlace} (h : DataW.trod enc Try.prog W base sp held fuel 22 [v] = some x) :
    ∃ xs, TextC W v xs ∧ ((∀ n ∈ DataW.weights Try.prog 22 x.1, n ≤ reachBytes) → Szd xs ∧ xs.length * 16 ≤ reachBytes) := by
  rcases open_strings Try.underlying22 Try.underlying9 cells9 h with ⟨e, _⟩ | ⟨a, len, cap, ss, e, _, hlc, hcm, hss, hx, hcell, _⟩
  · simp at e
    subst e
    exact ⟨[], ⟨none, 0, rfl, Nat.le_refl _, by omega, .inl rfl⟩, fun _ => ⟨fun s hs => (by cases hs), (by simp)⟩⟩
  · simp at e
    subst e
    unfold maxLen at hcm
    have hlen : len ≤ ss.length := by rw [hss]; split <;> omega
    have hl : (ss.take len).length = len := by rw [List.length_take]; omega
    refine ⟨ss.take len, ⟨some a, cap, by rw [hl], by omega, hcm, ?_⟩, fun hw => ⟨fun s hs => ?_, ?_⟩⟩
    · cases len with
      | zero => exact .inl (by simp)
      | succ n =>
        obtain ⟨b, off, spot⟩ := a
        have h0 := hcell 0 (by omega)
        have hspot : spot = none := by simpa [Addr.add] using World.cell?_spot h0
        subst hspot
        refine .inr ⟨b, off, rfl, ?_, fun j hj => ?_⟩
        · rw [add_plain] at h0
          unfold World.cell? at h0
          split at h0
          · rename_i hh
            exact (Array.getElem?_eq_some_iff.1 hh).1
          · cases h0
        · rw [hl] at hj
          have := hcell j (by omega)
          rw [add_plain] at this
          rw [this, List.getElem_take, List.getD_eq_getElem?_getD, List.getElem?_eq_getElem (by omega)]
          rfl
    · rw [hx] at hw
      have hm : (DataW.lit (.string s.data.toList) : DataW H) ∈ strs (ss.take len) := by
        unfold strs
        exact List.mem_map.2 ⟨s, hs, rfl⟩
      have := hw s.data.toList.length (by
        simp only [DataW.weights, Try.underlying22, List.mem_cons, List.mem_append]
        exact .inr (.inl (wAll_in hm _ (by simp [DataW.weights]))))
      have e2 : s.data.toList.length = s.size := rfl
      rw [e2] at this
      unfold reachBytes at this
      omega
    · rw [hx] at hw
      have := hw _ (by
        simp only [DataW.weights, Try.underlying22]
        exact List.mem_cons_self ..)
      rw [bytesStr] at this
      simp only [strs, List.length_map, List.length_drop] at this
      rw [hl] at this ⊢
      omega

theorem open_textc {r : Reach} {b0 : Nat} {v : Value} {d : DataW H} {p : List MemPlace} (hv : Value.okWide Try.prog W r b0 22 v) (hd : DataW.Trod enc Try.prog W base sp held 22 v d p) :
    ∃ xs, TextC W v xs ∧ ((∀ n ∈ DataW.weights Try.prog 22 d, n ≤ reachBytes) → Szd xs ∧ xs.length * 16 ≤ reachBytes) := by
  obtain ⟨a1, len1, cap1, rfl⟩ := okWide_slice Try.underlying22 hv
  obtain ⟨fuel, h⟩ := hd
  exact open_strs1 h

theorem open_runs {r : Reach} {b0 : Nat} {v : Value} {d : DataW H} {p : List MemPlace} (hv : Value.okWide Try.prog W r b0 35 v) (hd : DataW.Trod enc Try.prog W base sp held 35 v d p) :
    ∃ rss, Runs W v rss ∧ rss.length ≤ 9223372036854775807 ∧ ((∀ n ∈ DataW.weights Try.prog 35 d, n ≤ reachBytes) → ∀ l, l ∈ rss → Szd l ∧ l.length * 16 ≤ reachBytes) := by
  obtain ⟨a1, len1, cap1, rfl⟩ := okWide_slice Try.underlying35 hv
  obtain ⟨fuel, h⟩ := hd
  rcases DataW.trod_slice Try.underlying35 h with ⟨e, _⟩ | ⟨a, len, cap, elems, rest, n, _, e, ed, hb, hl, hm, hlen, hel, hsp, hns⟩
  · simp [Value.cells] at e
    obtain ⟨rfl, rfl, rfl⟩ := e
    exact ⟨[], ⟨none, 0, rfl, .inl rfl⟩, by simp, fun _ l hl => by cases hl⟩
  · simp [Value.cells] at e
    obtain ⟨rfl, rfl, rfl⟩ := e
    injection ed with ed _
    unfold maxLen at hm
    have each : ∀ i, i < len1 → ∃ y : Value × List ByteArray, W.cell? (a.add i) = some y.1 ∧ TextC W y.1 y.2 ∧ ((∀ n ∈ DataW.weights Try.prog 35 d, n ≤ reachBytes) → Szd y.2 ∧ y.2.length * 16 ≤ reachBytes) := by
      intro i hi
      have hy : elems[i]? = some (elems[i]'(by omega)) := List.getElem?_eq_getElem (by omega)
      have hb' := (hel i hi).trans hy
      rw [cells22, Nat.mul_one, Option.bind_eq_some_iff] at hb'
      obtain ⟨cs', hcs, hy'⟩ := hb'
      have hc1 : ∃ u, cs' = [u] := by
        rcases open_strings Try.underlying22 Try.underlying9 cells9 hy' with ⟨e, _⟩ | ⟨_, _, _, _, e, _⟩ <;> exact ⟨_, e⟩
      obtain ⟨u, rfl⟩ := hc1
      obtain ⟨xs, h1, h2⟩ := open_strs1 hy'
      refine ⟨(u, xs), cell_of_cells?_one hcs, h1, fun hw => h2 fun n hn => hw n ?_⟩
      rw [ed]
      simp only [DataW.weights, Try.underlying35, List.mem_cons, List.mem_append]
      exact .inr (.inl (wAll_in (List.mem_map.2 ⟨_, List.getElem_mem (by omega), rfl⟩) _ hn))
    obtain ⟨y, hy⟩ := Go.Deep.choose_lt each
    refine ⟨(List.range len1).map fun i => (y i).2, ⟨some a, cap1, by simp, ?_⟩, by simp; omega, fun hw l hl' => ?_⟩
    · cases len1 with
      | zero => exact .inl (by simp)
      | succ m =>
        obtain ⟨b, off, spot⟩ := a
        have h0 := (hy 0 (by omega)).1
        have hspot : spot = none := by simpa [Addr.add] using World.cell?_spot h0
        subst hspot
        refine .inr ⟨b, off, rfl, ?_, fun j hj => ?_⟩
        · rw [add_plain] at h0
          unfold World.cell? at h0
          split at h0
          · rename_i hh
            exact (Array.getElem?_eq_some_iff.1 hh).1
          · cases h0
        · have hj' : j < m + 1 := by simpa using hj
          obtain ⟨h1, h2, _⟩ := hy j hj'
          rw [add_plain] at h1
          exact ⟨_, h1, by simpa using h2⟩
    · obtain ⟨i, hi, rfl⟩ := List.mem_map.1 hl'
      exact (hy i (List.mem_range.1 hi)).2.2 hw
/-- What the weights of all arguments say of one. -/
theorem weights_of {P : Program} {ts : List TypeId} {ds : List (DataW H)} (h : (DataW.weightsEach P ts ds).all (· ≤ reachBytes) = true) {j : Nat} {t : TypeId} {d : DataW H} (ht : ts[j]? = some t) (hd : ds[j]? = some d) : ∀ n ∈ DataW.weights P t d, n ≤ reachBytes :=
  fun n hn => of_decide_eq_true (List.all_eq_true.1 h _ (DataW.weights_mem_each ht hd n hn))
end
end Go.Proofs.Ytgegljbocacdnaa
