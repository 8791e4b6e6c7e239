/- What a sorter's calls answer of what is none, or over; endRun. -/
import Derived.Test.YtgegljbocacdnaaNB
import Derived.Deep.RegionLaw
set_option maxRecDepth 100000
namespace Go.Proofs.Ytgegljbocacdnaa
open Go.RowKit

set_option maxHeartbeats 400000 in
theorem soAdd_ref (p : Value) (x : ByteArray) (n : Int) (w : World) (h : Calls Try.prog 18 #[p] w fun e w' => e = .returned (.int .i64 n) ∧ w = w') (hn : n ≠ 0) : Calls Try.prog 11 #[p, .string x] w fun e w' => e = .returned (.int .i64 n) ∧ w = w' := by
  have H := Lib.hid h; clear h
  have hn1 : (n != 0) = true := by simpa using hn
  clear hn
  go_enter Try.func11, Try.ntmps11
  go_wp2_with fail
  refine H.out.mono ?_
  rintro e w1 ⟨rfl, rfl⟩
  go_wp2
  go_ret
  exact ⟨rfl, rfl⟩
set_option maxHeartbeats 400000 in
theorem soSorted_ref (p : Value) (n : Int) (w : World) (h : Calls Try.prog 18 #[p] w fun e w' => e = .returned (.int .i64 n) ∧ w = w') (hn : n ≠ 0) : Calls Try.prog 13 #[p] w fun e w' => e = .returned (.tuple #[.slice none 0 0, .int .i64 n]) ∧ w = w' := by
  have H := Lib.hid h; clear h
  have hn1 : (n != 0) = true := by simpa using hn
  clear hn
  go_enter Try.func13, Try.ntmps13
  go_wp2_with fail
  refine H.out.mono ?_
  rintro e w1 ⟨rfl, rfl⟩
  go_wp2
  go_ret2
  exact ⟨rfl, rfl⟩
set_option maxHeartbeats 400000 in
theorem soRuns_no (p : Value) (w : World) (h : NoSo p w) : Calls Try.prog 12 #[p] w fun e w' => e = .returned (.int .i64 0) ∧ w = w' := by
  have HG := Lib.hid (soGiven_no p w h); clear h
  go_enter Try.func12, Try.ntmps12
  go_wp2_with fail
  refine HG.out.mono ?_
  rintro e w1 ⟨rfl, rfl⟩
  go_wp2
  go_ret
  exact ⟨rfl, rfl⟩

/-- An own row's block is no block of other things. -/
theorem own_ne {B : Nat} {T : TypeId} {w : World} {v : Value} {n : Nat} {xs : List Value} (h : w.ownsRow B T 1 v n xs) {k : Nat} {cs : Array Value} {T' : TypeId} {m : Nat × Nat} (hk : w.heap[k]? = some (Obj.cells cs T' m)) (hT : T' ≠ T) : v.ownBlock ≠ some k := by
  rcases h.2 with ⟨rfl, _⟩ | ⟨g, cap, cur, rfl, _, hg, _⟩
  · intro e; cases e
  · intro e
    injection e with e
    have e' : g = k := e
    subst e'
    rw [hg] at hk
    injection hk with hk
    injection hk with _ h9 _
    exact hT h9.symm
/-- Two own rows of different kinds have different blocks. -/
theorem own_ne2 {B B' : Nat} {T T' : TypeId} {w : World} {v v' : Value} {n n' : Nat} {xs xs' : List Value} (h : w.ownsRow B T 1 v n xs) (h' : w.ownsRow B' T' 1 v' n' xs') (hT : T' ≠ T) : v.ownBlock = none ∨ v.ownBlock ≠ v'.ownBlock := by
  rcases h'.2 with ⟨rfl, _⟩ | ⟨g, cap, cur, rfl, _, hg, _⟩
  · cases hv : v.ownBlock with
    | none => exact .inl rfl
    | some k => exact .inr (by intro e; cases e)
  · exact .inr (own_ne h hg hT)

/-- The blocks of a sorter. -/
def Foot (s : Nat) (hv rv : Value) (vs : List Value) (k : Nat) : Prop := k = s ∨ hv.ownBlock = some k ∨ rv.ownBlock = some k ∨ ∃ v, v ∈ vs ∧ v.ownBlock = some k
/-- Just a sorter's blocks were written, and it has no others but new ones. -/
structure Ft (s : Nat) (hv rv : Value) (vs : List Value) (hv' rv' : Value) (vs' : List Value) (w w' : World) : Prop where
  keep : ∀ k, k < w.heap.size → ¬ Foot s hv rv vs k → w'.heap[k]? = w.heap[k]?
  foot : ∀ k, Foot s hv' rv' vs' k → Foot s hv rv vs k ∨ w.heap.size ≤ k
  size : w.heap.size ≤ w'.heap.size
theorem Ft.trans {s : Nat} {hv rv : Value} {vs : List Value} {hv1 rv1 : Value} {vs1 : List Value} {hv2 rv2 : Value} {vs2 : List Value} {w w1 w2 : World} (h : Ft s hv rv vs hv1 rv1 vs1 w w1) (h2 : Ft s hv1 rv1 vs1 hv2 rv2 vs2 w1 w2) : Ft s hv rv vs hv2 rv2 vs2 w w2 :=
  ⟨fun k hk hf => (h2.keep k (Nat.lt_of_lt_of_le hk h.size) (fun h3 => by
    rcases h.foot k h3 with h4 | h4
    · exact hf h4
    · omega)).trans (h.keep k hk hf), fun k hk => by
    rcases h2.foot k hk with h3 | h3
    · exact h.foot k h3
    · exact .inr (Nat.le_trans h.size h3), Nat.le_trans h.size h2.size⟩

/-- What endRun leaves: what was in hand is a run. -/
def EndPost (B s room tk : Nat) (hv rv : Value) (vs : List Value) (hand : List ByteArray) (rss : List (List ByteArray)) (w : World) (e : Ending) (w' : World) : Prop :=
  e = .returned (.tuple #[]) ∧ Below B w w' ∧ ∃ rv' vs', SoAt B s room tk (.slice none 0 0) rv' vs' [] (rss ++ [srtS hand]) false w' ∧ Ft s hv rv vs (.slice none 0 0) rv' vs' w w'

set_option maxHeartbeats 1600000 in
theorem endRun_any (B s room tk : Nat) (hv rv : Value) (vs : List Value) (hand : List ByteArray) (rss : List (List ByteArray)) (w : World) (h : SoAt B s room tk hv rv vs hand rss false w) (hB : B ≤ w.heap.size) (hl : hand.length ≤ 4194304) (hn : rss.length < 4194304) :
    Calls Try.prog 20 #[.pointer (some ⟨s, 0, none⟩)] w (EndPost B s room tk hv rv vs hand rss w) := by
  obtain ⟨ah, nh, ch, rfl⟩ : ∃ a n c, hv = .slice a n c := by obtain ⟨a, c, e⟩ := h.hand.shape; exact ⟨_, _, _, e⟩
  obtain ⟨ar, nr, cr, rfl⟩ : ∃ a n c, rv = .slice a n c := by
    rcases h.runs.2 with ⟨rfl, _⟩ | ⟨g, cap, cur, rfl, _⟩ <;> exact ⟨_, _, _, rfl⟩
  have c3 : w.cell? ⟨s, 3, none⟩ = some (.slice ah nh ch) := by rw [h.cell]; rfl
  have HS := Lib.hid (sort_strs B _ hand w h.hand hl)
  have H := Lib.hid h; clear h
  go_enter Try.func20, Try.ntmps20
  go_wp2_with fail
  refine HS.out.mono ?_
  rintro e w1 ⟨rfl, hs1, hg1⟩
  -- the state behind the sort
  have hb1 : w1.heap[s]? = some (.cells (soCells s room tk (.slice ah nh ch) (.slice ar nr cr) false) 42 (0, 0)) := (hg1.block s H.out.lt (fun e => H.out.hand.ne H.out.blk (by decide) e.symm)).trans H.out.blk
  have hr1 : w1.ownsRow B 22 1 (.slice ar nr cr) vs.length vs := H.out.runs.kept hg1 (own_ne2 H.out.runs H.out.hand (by decide))
  have he1 : ∀ (j : Nat) (v : Value) (l : List ByteArray), vs[j]? = some v → rss[j]? = some l → Strs B w1 v l := fun j v l h1 h2 => by
    obtain ⟨h3, h4⟩ := H.out.each j v l h1 h2
    exact h3.kept hg1 h4
  have hlow : ∀ k, k < B → w1.heap[k]? = w.heap[k]? := fun k hk => hg1.block k (by omega) (fun e => by have := (H.out.hand.lt k e.symm).1; omega)
  have hbw1 : Below B w w1 := ⟨hg1.os, hg1.tape, hg1.output, hg1.size, hlow⟩
  have hB1 : B ≤ w1.heap.size := Nat.le_trans hB hg1.size
  have hs1l : s < w1.heap.size := (Array.getElem?_eq_some_iff.1 hb1).1
  -- the append
  obtain ⟨W2, hW2⟩ : ∃ W, W = (w1.alloc (.cells #[.slice ah nh ch] 22)).drew := ⟨_, rfl⟩
  have hbw2 : Below w1.heap.size w1 W2 := by rw [hW2]; exact ((Below.refl _ _).alloc (Nat.le_refl _) _).drew
  have hcx : W2.cell? ⟨w1.heap.size, 0, none⟩ = some (.slice ah nh ch) := by
    have : W2.heap[w1.heap.size]? = some (.cells #[.slice ah nh ch] 22 (0, 0)) := by rw [hW2]; exact heap_alloc_new w1 _
    rw [Lib.cell_of_heap this]; rfl
  have hr2 := ownsRow_below hr1 hbw2
  obtain ⟨i0, hi, q0, q1, q2⟩ := info_parts infoStrs
  obtain ⟨rv', w3, hr, hr30, hG3⟩ := append_own2 W2 35 35 22 i0 (.slice none 0 0) 1 24 Try.underlying35 hi q0 q1 q2 rfl (by decide) (.slice ar nr cr) vs.length vs (⟨hr2.1, hr2.2.imp id fun ⟨g, cap, cur, h1, _, h3⟩ => ⟨g, cap, cur, h1, Nat.zero_le _, h3⟩⟩) ⟨w1.heap.size, 0, none⟩ 1 1 [Value.slice ah nh ch] rfl (fun j u hu => by
    have : j = 0 := by have := (List.getElem?_eq_some_iff.1 hu).1; simp at this; exact this
    subst this
    simp at hu
    subst hu
    exact hcx) (fun u hu => by simp at hu; subst hu; rfl) (by unfold maxLen; have := H.out.len; omega) (by have := H.out.len; omega) (by have := H.out.len; omega)
  have hg3 := hG3.1
  have hr3 : w3.ownsRow B 22 1 rv' (vs.length + 1) (vs ++ [Value.slice ah nh ch]) := ⟨hr30.1, hr30.2.imp id fun ⟨g, cap, cur, h1, _, h3⟩ => ⟨g, cap, cur, h1, by
    rcases hG3.2 g (by rw [h1]; rfl) with h | h
    · exact (hr2.lt g h).1
    · exact Nat.le_trans (Nat.le_trans hB1 hbw2.size) h, h3⟩⟩
  have hz2 : w1.heap.size + 1 = W2.heap.size := by rw [hW2]; simp
  have hb2 : W2.heap[s]? = some (.cells (soCells s room tk (.slice ah nh ch) (.slice ar nr cr) false) 42 (0, 0)) := (hbw2.block s hs1l).trans hb1
  have hb3 : w3.heap[s]? = some (.cells (soCells s room tk (.slice ah nh ch) (.slice ar nr cr) false) 42 (0, 0)) := (hg3.block s (Nat.lt_of_lt_of_le hs1l hbw2.size) (fun e => own_ne hr2 hb2 (by decide) e.symm)).trans hb2
  have hs3 : Strs B w3 (.slice ah nh ch) (srtS hand) := (hs1.below hbw2).kept hg3 (own_ne2 (hs1.below hbw2) hr2 (by decide))
  have he3 : ∀ (j : Nat) (v : Value) (l : List ByteArray), vs[j]? = some v → rss[j]? = some l → Strs B w3 v l := fun j v l h1 h2 => ((he1 j v l h1 h2).below hbw2).kept hg3 (own_ne2 ((he1 j v l h1 h2).below hbw2) hr2 (by decide))
  obtain ⟨ar', nr', cr', rfl⟩ : ∃ a n c, rv' = .slice a n c := by
    rcases hr3.2 with ⟨rfl, _⟩ | ⟨g, cap, cur, rfl, _⟩ <;> exact ⟨_, _, _, rfl⟩
  -- the two stores
  obtain ⟨w5, hw5⟩ : ∃ w5, w5 = (w3.setCell ⟨s, 4, none⟩ (.slice ar' nr' cr')).setCell ⟨s, 3, none⟩ (.slice none 0 0) := ⟨_, rfl⟩
  have e4 := heap_setCell_same w3 s 4 _ 42 (.slice ar' nr' cr') hb3
  have e5 := heap_setCell_same _ s 3 _ 42 (.slice none 0 0) e4
  have hg5 : w3.grownBy w5 (some s) := by
    rw [hw5]
    refine ⟨rfl, rfl, rfl, by simp, fun k hk hne => ?_⟩
    have hne' : s ≠ k := fun e => hne (by rw [e])
    exact (heap_setCell_other _ ⟨s, 3, none⟩ k _ (fun e => hne' e.symm)).trans (heap_setCell_other w3 ⟨s, 4, none⟩ k _ (fun e => hne' e.symm))
  have hr5 : w5.ownsRow B 22 1 (.slice ar' nr' cr') (vs ++ [Value.slice ah nh ch]).length (vs ++ [Value.slice ah nh ch]) := by
    rw [List.length_append]
    exact hr3.kept hg5 (.inr (own_ne hr3 hb3 (by decide)))
  have HP : Hid (EndPost B s room tk (.slice ah nh ch) (.slice ar nr cr) vs hand rss w (.returned (.tuple #[])) w5) := Lib.hid (by
    refine ⟨rfl, ?_, .slice ar' nr' cr', vs ++ [Value.slice ah nh ch], ⟨?_, World.ownsRow_nil _ _ _ _, hr5, ?_, fun j v l h1 h2 => ⟨?_, ?_⟩, H.out.ge⟩, ?_⟩
    · refine hbw1.trans ((hbw2.mono hB1).trans ?_)
      have hB3 := H.out.ge
      exact ⟨hg5.os.trans hg3.os, hg5.tape.trans hg3.tape, hg5.output.trans hg3.output, Nat.le_trans hg3.size hg5.size, fun k hk => (hg5.block k (Nat.lt_of_lt_of_le (Nat.lt_of_lt_of_le hk (Nat.le_trans hB1 hbw2.size)) hg3.size) (fun e => by injection e with e; omega)).trans (hg3.block k (Nat.lt_of_lt_of_le hk (Nat.le_trans hB1 hbw2.size)) (fun e => by have := (hr2.lt k e.symm).1; omega))⟩
    · rw [hw5]; exact e5
    · rw [List.length_append, List.length_append, H.out.len]; rfl
    · have hx : Strs B w3 v l := by
        by_cases hj : j < vs.length
        · rw [List.getElem?_append_left hj] at h1
          rw [List.getElem?_append_left (by have := H.out.len; omega)] at h2
          exact he3 j v l h1 h2
        · have hjl : j < (vs ++ [Value.slice ah nh ch]).length := (List.getElem?_eq_some_iff.1 h1).1
          have hj2 : j = vs.length := by simp at hjl; omega
          subst hj2
          rw [List.getElem?_append_right (Nat.le_refl _), Nat.sub_self] at h1
          rw [H.out.len, List.getElem?_append_right (Nat.le_refl _), Nat.sub_self] at h2
          simp at h1 h2
          subst h1 h2
          exact hs3
      exact hx.kept hg5 (.inr (hx.ne hb3 (by decide)))
    · cases hv : v.ownBlock with
      | none => exact .inl rfl
      | some g => exact .inr (by intro e; cases e)
    · refine ⟨fun k hk hf => ?_, fun k hk => ?_, ?_⟩
      · have n1 : ¬ k = s := fun e => hf (.inl e)
        have n2 : ¬ (Value.slice ah nh ch).ownBlock = some k := fun e => hf (.inr (.inl e))
        have n3 : ¬ (Value.slice ar nr cr).ownBlock = some k := fun e => hf (.inr (.inr (.inl e)))
        have k1 : k < w1.heap.size := Nat.lt_of_lt_of_le hk hg1.size
        have k2 : k < W2.heap.size := Nat.lt_of_lt_of_le k1 hbw2.size
        exact (hg5.block k (Nat.lt_of_lt_of_le k2 hg3.size) (fun e => by injection e with e; exact n1 e)).trans ((hg3.block k k2 (fun e => n3 e.symm)).trans ((hbw2.block k k1).trans (hg1.block k hk (fun e => n2 e.symm))))
      · have hsz1 := hg1.size
        rcases hk with hk | hk | hk | ⟨v, hv, hk⟩
        · exact .inl (.inl hk)
        · cases hk
        · rcases hG3.2 k hk with h | h
          · exact .inl (.inr (.inr (.inl h)))
          · exact .inr (by omega)
        · rcases List.mem_append.1 hv with hv | hv
          · exact .inl (.inr (.inr (.inr ⟨v, hv, hk⟩)))
          · rw [List.mem_singleton.1 hv] at hk
            exact .inl (.inr (.inl hk))
      · have := hg1.size; have := hg3.size; have := hg5.size; omega)
  rw [hW2] at hr
  have HR := Lib.hid hr
  have d3 : w1.cell? ⟨s, 3, none⟩ = some (.slice ah nh ch) := by rw [Lib.cell_of_heap hb1]; rfl
  have d4 : w1.cell? ⟨s, 4, none⟩ = some (.slice ar nr cr) := by rw [Lib.cell_of_heap hb1]; rfl
  have x4 : w3.cell? ⟨s, 4, none⟩ = some (.slice ar nr cr) := by rw [Lib.cell_of_heap hb3]; rfl
  have x3 : w3.cell? ⟨s, 3, none⟩ = some (.slice ah nh ch) := by rw [Lib.cell_of_heap hb3]; rfl
  have y4 : w3.frozen? ⟨s, 4, none⟩ = false := Lib.frozen_of_heap hb3 4
  have y3 : w3.frozen? ⟨s, 3, none⟩ = false := Lib.frozen_of_heap hb3 3
  rw [hw5] at HP
  clear H HS hs1 hg1 hb1 hr1 he1 hlow hbw1 hW2 hbw2 hcx hr2 hi q0 q1 q2 hr hr3 hr30 hG3 hz2 hg3 hb2 hb3 hs3 he3 hw5 e4 e5 hg5 hr5 c3
  go_wp2
  go_region_law (refine step_app_run rfl _ _ 35 rfl _ _ _ (by rfl) (by rfl) HR.out ?_)
  all_goals go_wp2
  all_goals go_end0
  all_goals exact HP.out
end Go.Proofs.Ytgegljbocacdnaa
