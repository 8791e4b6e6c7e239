/- The law's awake. -/
import Derived.Test.YtgegljbocacdnaaOV
set_option maxRecDepth 100000
namespace Go.Proofs.Ytgegljbocacdnaa
open Go.RowKit

def sA : ByteArray := ⟨#[97]⟩
def sB : ByteArray := ⟨#[98]⟩
def sC : ByteArray := ⟨#[99]⟩
theorem texts_lit {w : World} {g n : Nat} {rs : List ByteArray} {cs : Array Value} (h : w.heap[g]? = some (.cells cs 9 (0, 0))) (hc : ∀ j (hj : j < rs.length), cs[j]? = some (.string rs[j])) (hn : rs.length = n) (h9 : n ≤ 9223372036854775807) : TextC w (.slice (some ⟨g, 0, none⟩) n n) rs := by
  subst hn
  refine ⟨_, _, rfl, Nat.le_refl _, h9, .inr ⟨g, 0, rfl, (Array.getElem?_eq_some_iff.1 h).1, fun j hj => ?_⟩⟩
  rw [Nat.zero_add, Lib.cell_of_heap h]
  exact hc j hj
theorem szd_lit (x : UInt8) : ((⟨#[x]⟩ : ByteArray)).size ≤ 281474976710656 := by
  show 1 ≤ _
  omega
theorem le_AB : leS sA sB := by decide
theorem le_AC : leS sA sC := by decide
theorem le_BC : leS sB sC := by decide
theorem no_CA : ¬ leS sC sA := by decide
theorem srt_ACB : srtS [sA, sC, sB] = [sA, sB, sC] :=
  (srtS_one (List.pairwise_cons.2 ⟨fun y hy => by
    rcases List.mem_cons.1 hy with rfl | hy
    · exact le_AB
    · rw [List.mem_singleton.1 hy]; exact le_AC, List.pairwise_cons.2 ⟨fun y hy => by rw [List.mem_singleton.1 hy]; exact le_BC, List.pairwise_singleton _ _⟩⟩) ((List.Perm.swap sC sB []).cons sA)).symm

set_option maxHeartbeats 3200000 in
theorem xawake_any (w : World) :
    Calls Try.prog 10 #[] w fun e w' => e = .returned (.bool true) ∧ Below w.heap.size w w' := by
  -- the first lists
  obtain ⟨W1, hW1⟩ : ∃ W, W = ((w.alloc (.cells #[.string sA, .string sC] 9)).alloc (.cells #[.string sB] 9)).alloc (.cells #[.slice (some ⟨w.heap.size, 0, none⟩) 2 2, .slice (some ⟨w.heap.size + 1, 0, none⟩) 1 1] 22) := ⟨_, rfl⟩
  have b0 : Below w.heap.size w W1 := by
    rw [hW1]
    exact (((Below.refl _ _).alloc (Nat.le_refl _) _).alloc (by simp) _).alloc (by simp; omega) _
  have hz1 : W1.heap.size = w.heap.size + 3 := by rw [hW1]; simp
  have hR1 : Runs W1 (.slice (some ⟨w.heap.size + 2, 0, none⟩) 2 2) [[sA, sC], [sB]] := by
    have g0 : W1.heap[w.heap.size]? = some (.cells #[.string sA, .string sC] 9 (0, 0)) := by
      rw [hW1]
      exact ((Below.heap_alloc _ _ w.heap.size (by simp; omega)).trans (Below.heap_alloc _ _ w.heap.size (by simp))).trans (heap_alloc_new w _)
    have g1 : W1.heap[w.heap.size + 1]? = some (.cells #[.string sB] 9 (0, 0)) := by
      rw [hW1]
      refine (Below.heap_alloc _ _ (w.heap.size + 1) (by simp)).trans ?_
      have := heap_alloc_new (w.alloc (.cells #[.string sA, .string sC] 9)) (.cells #[.string sB] 9)
      rw [World.size_alloc] at this
      exact this
    have g2 : W1.heap[w.heap.size + 2]? = some (.cells #[.slice (some ⟨w.heap.size, 0, none⟩) 2 2, .slice (some ⟨w.heap.size + 1, 0, none⟩) 1 1] 22 (0, 0)) := by
      rw [hW1]
      have := heap_alloc_new ((w.alloc (.cells #[.string sA, .string sC] 9)).alloc (.cells #[.string sB] 9)) (.cells #[.slice (some ⟨w.heap.size, 0, none⟩) 2 2, .slice (some ⟨w.heap.size + 1, 0, none⟩) 1 1] 22)
      rw [World.size_alloc, World.size_alloc] at this
      exact this
    refine ⟨_, _, rfl, .inr ⟨w.heap.size + 2, 0, rfl, by omega, fun j hj => ?_⟩⟩
    match j, hj with
    | 0, _ => exact ⟨_, by rw [Lib.cell_of_heap g2]; rfl, texts_lit (n := 2) g0 (fun j hj => by match j, hj with | 0, _ => rfl | 1, _ => rfl) rfl (by omega)⟩
    | 1, _ => exact ⟨_, by rw [Lib.cell_of_heap g2]; rfl, texts_lit (n := 1) g1 (fun j hj => by match j, hj with | 0, _ => rfl) rfl (by omega)⟩
  have hrise1 : ∀ l, l ∈ [[sA, sC], [sB]] → Rise l := fun l hl => by
    rcases List.mem_cons.1 hl with rfl | hl
    · exact List.pairwise_cons.2 ⟨fun y hy => by rw [List.mem_singleton.1 hy]; exact le_AC, List.pairwise_singleton _ _⟩
    · rw [List.mem_singleton.1 hl]; exact List.pairwise_singleton _ _
  have M1 := merge_any [[sA, sC], [sB]] _ W1 hR1 (by simp) (fun l hl => by
    rcases List.mem_cons.1 hl with rfl | hl
    · simp
    · rw [List.mem_singleton.1 hl]; simp) (fun _ => by simp) (fun s hs => by
    simp at hs
    rcases hs with rfl | rfl | rfl <;> exact szd_lit _)
  have HM1 : Hid (Calls Try.prog 17 #[.slice (some ⟨w.heap.size + 2, 0, none⟩) 2 2] W1 fun e w' => ∃ v, e = .returned (.tuple #[v, .int .i64 0]) ∧ Strs w.heap.size w' v [sA, sB, sC] ∧ Below w.heap.size w w') := Lib.hid (M1.mono fun e w' ⟨h1, _, h3⟩ => by
    obtain ⟨v, he, hs⟩ := h1 hrise1
    rw [show ([[sA, sC], [sB]] : List (List ByteArray)).flatten = [sA, sC, sB] from rfl, srt_ACB] at hs
    exact ⟨v, he, hs.mono (by omega), b0.trans (h3.mono (by omega))⟩)
  clear M1 hR1 hrise1 b0 hz1
  unfold sA sB sC at hW1
  go_enter Try.func10, Try.ntmps10
  go_wp2_with fail
  rw [← hW1]
  refine HM1.out.mono ?_
  rintro e w1 ⟨v, rfl, hs, hb⟩
  clear hW1 HM1
  -- the second list
  obtain ⟨W2, hW2⟩ : ∃ W, W = (w1.alloc (.cells #[.string sC, .string sA] 9)).alloc (.cells #[.slice (some ⟨w1.heap.size, 0, none⟩) 2 2] 22) := ⟨_, rfl⟩
  have b2 : Below w1.heap.size w1 W2 := by
    rw [hW2]
    exact ((Below.refl _ _).alloc (Nat.le_refl _) _).alloc (by simp) _
  have hz2 : W2.heap.size = w1.heap.size + 2 := by rw [hW2]; simp
  have hR2 : Runs W2 (.slice (some ⟨w1.heap.size + 1, 0, none⟩) 1 1) [[sC, sA]] := by
    have g0 : W2.heap[w1.heap.size]? = some (.cells #[.string sC, .string sA] 9 (0, 0)) := by
      rw [hW2]
      exact (Below.heap_alloc _ _ w1.heap.size (by simp)).trans (heap_alloc_new w1 _)
    have g2 : W2.heap[w1.heap.size + 1]? = some (.cells #[.slice (some ⟨w1.heap.size, 0, none⟩) 2 2] 22 (0, 0)) := by
      rw [hW2]
      have := heap_alloc_new (w1.alloc (.cells #[.string sC, .string sA] 9)) (.cells #[.slice (some ⟨w1.heap.size, 0, none⟩) 2 2] 22)
      rw [World.size_alloc] at this
      exact this
    refine ⟨_, _, rfl, .inr ⟨w1.heap.size + 1, 0, rfl, by omega, fun j hj => ?_⟩⟩
    match j, hj with
    | 0, _ => exact ⟨_, by rw [Lib.cell_of_heap g2]; rfl, texts_lit (n := 2) g0 (fun j hj => by match j, hj with | 0, _ => rfl | 1, _ => rfl) rfl (by omega)⟩
  have hbad : ¬ ∀ l, l ∈ [[sC, sA]] → Rise l := fun h => no_CA ((List.pairwise_cons.1 (h _ (List.mem_singleton.2 rfl))).1 _ (List.mem_singleton.2 rfl))
  have M2 := merge_any [[sC, sA]] _ W2 hR2 (by simp) (fun l hl => by rw [List.mem_singleton.1 hl]; simp) (fun _ => by simp) (fun s hs => by
    simp at hs
    rcases hs with rfl | rfl <;> exact szd_lit _)
  have HM2 : Hid (Calls Try.prog 17 #[.slice (some ⟨w1.heap.size + 1, 0, none⟩) 1 1] W2 fun e w' => e = .returned (.tuple #[.slice none 0 0, .int .i64 1]) ∧ Below w1.heap.size w1 w') := Lib.hid (M2.mono fun e w' ⟨_, h2, h3⟩ => ⟨h2 hbad, b2.trans (h3.mono (by omega))⟩)
  clear M2 hR2 hbad b2 hz2
  unfold sA sC at hW2
  have HB := Lib.hid hb; have HS := Lib.hid hs; clear hb hs
  have hz := HB.out.size
  go_wp2_with fail
  rw [← hW2]
  refine HM2.out.mono ?_
  rintro e w2 ⟨rfl, hb2⟩
  clear hW2 HM2
  have HB2 := Lib.hid (HB.out.trans (hb2.mono hz))
  have HS2 := Lib.hid (HS.out.texts.below hb2)
  clear hb2
  obtain ⟨W3, hW3⟩ : ∃ W, W = w2.alloc (.cells #[.string sA, .string sB, .string sC] 9) := ⟨_, rfl⟩
  have HX : Hid (Calls Try.prog 14 #[v, .slice (some ⟨w2.heap.size, 0, none⟩) 3 3] W3 fun e w' => e = .returned (.bool true) ∧ ∃ n, W3.drewN n = w') := Lib.hid (by
    refine xsame_yes v _ [sA, sB, sC] W3 (HS2.out.below ?_) ?_ (by simp)
    · rw [hW3]; exact (Below.refl _ _).alloc (Nat.le_refl _) _
    · have g0 : W3.heap[w2.heap.size]? = some (.cells #[.string sA, .string sB, .string sC] 9 (0, 0)) := by rw [hW3]; exact heap_alloc_new w2 _
      exact (texts_lit (n := 3) g0 (fun j hj => by match j, hj with | 0, _ => rfl | 1, _ => rfl | 2, _ => rfl) rfl (by omega)).texts)
  have HB3 : Hid (Below w.heap.size w W3) := Lib.hid (by rw [hW3]; exact HB2.out.alloc HB2.out.size _)
  unfold sA sB sC at hW3
  go_wp2_with fail
  rw [← hW3]
  refine HX.out.mono ?_
  rintro e w3 ⟨rfl, n, rfl⟩
  clear hW3 HX
  go_wp2
  go_ret
  exact ⟨rfl, HB3.out.trans ((below_drewN W3 n).mono HB3.out.size)⟩
end Go.Proofs.Ytgegljbocacdnaa
