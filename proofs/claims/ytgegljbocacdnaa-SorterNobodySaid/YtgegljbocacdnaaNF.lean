/- A sorter as the laws see it: what was taken, and which blocks are its own. -/
import Derived.Test.YtgegljbocacdnaaNE
set_option maxRecDepth 100000
namespace Go.Proofs.Ytgegljbocacdnaa
open Go.RowKit

theorem SoAt.keep {B s room tk : Nat} {hv rv : Value} {vs : List Value} {hand : List ByteArray} {rss : List (List ByteArray)} {over : Bool} {w w' : World} (h : SoAt B s room tk hv rv vs hand rss over w) (hk : ∀ k, Foot s hv rv vs k → w'.heap[k]? = w.heap[k]?) : SoAt B s room tk hv rv vs hand rss over w' :=
  ⟨(hk s (.inl rfl)).trans h.blk, ownsRow_of_block h.hand fun k hb => hk k (.inr (.inl hb)), ownsRow_of_block h.runs fun k hb => hk k (.inr (.inr (.inl hb))), h.len, fun j v l h1 h2 => ⟨ownsRow_of_block (h.each j v l h1 h2).1 fun k hb => hk k (.inr (.inr (.inr ⟨v, List.mem_of_getElem? h1, hb⟩))), (h.each j v l h1 h2).2⟩, h.ge⟩

structure SoSt (B s room : Nat) (S : Nat → Prop) (got : List ByteArray) (w : World) : Prop where
  ex : ∃ hv rv vs hand rss, SoAt B s room got.length hv rv vs hand rss false w ∧ (rss.flatten ++ hand).Perm got ∧ (∀ l, l ∈ rss → Rise l) ∧ rss.length ≤ got.length ∧ hand.length < room ∧ ∀ k, Foot s hv rv vs k → S k
  low : ∀ k, S k → B ≤ k ∧ k < w.heap.size
  ge : B ≤ w.heap.size
theorem SoSt.keep {B s room : Nat} {S : Nat → Prop} {got : List ByteArray} {w w' : World} (h : SoSt B s room S got w) (hz : w.heap.size ≤ w'.heap.size) (hk : ∀ k, S k → w'.heap[k]? = w.heap[k]?) : SoSt B s room S got w' := by
  obtain ⟨⟨hv, rv, vs, hand, rss, h1, h2, h3, h4, h5, h6⟩, h7, h8⟩ := h
  exact ⟨⟨hv, rv, vs, hand, rss, h1.keep (fun k hf => hk k (h6 k hf)), h2, h3, h4, h5, h6⟩, fun k hS => ⟨(h7 k hS).1, Nat.lt_of_lt_of_le (h7 k hS).2 hz⟩, Nat.le_trans h8 hz⟩
theorem SoSt.below {B s room : Nat} {S : Nat → Prop} {got : List ByteArray} {w w' : World} (h : SoSt B s room S got w) (hb : Below w.heap.size w w') : SoSt B s room S got w' :=
  h.keep hb.size fun k hk => hb.block k (h.low k hk).2

theorem so_new (B room : Nat) (w : World) (h1 : 1 ≤ room) (h2 : room ≤ 65536) (hB : B ≤ w.heap.size) : Calls Try.prog 9 #[.int .i64 room] w fun e w' => e = .returned (.tuple #[.pointer (some ⟨w.heap.size, 0, none⟩), .int .i64 0]) ∧ SoSt B w.heap.size room (fun k => k = w.heap.size) [] w' ∧ Below w.heap.size w w' := by
  refine (soNew_ok room w h1 h2).mono fun e w' ⟨he, hs, hb⟩ => ⟨he, ⟨⟨_, _, [], [], [], ⟨hs.blk, World.ownsRow_nil _ _ _ _, World.ownsRow_nil _ _ _ _, rfl, fun j v l h => by simp at h, hB⟩, List.Perm.refl _, (fun l hl => by cases hl), Nat.le_refl _, h1, fun k hk => ?_⟩, fun k hk => ?_, Nat.le_trans hB hb.size⟩, hb⟩
  · rcases hk with hk | hk | hk | ⟨v, hv, _⟩
    · exact hk
    · cases hk
    · cases hk
    · cases hv
  · subst hk
    exact ⟨hB, hs.lt⟩

/-- What Add leaves, as the laws see it. -/
def Added (B s room : Nat) (S : Nat → Prop) (got : List ByteArray) (x : ByteArray) (w : World) (e : Ending) (w' : World) : Prop :=
  e = .returned (.int .i64 0) ∧ Below B w w' ∧ ∃ S', SoSt B s room S' (got ++ [x]) w' ∧ (∀ k, S' k → S k ∨ w.heap.size ≤ k) ∧ ∀ k, k < w.heap.size → ¬ S k → w'.heap[k]? = w.heap[k]?
theorem so_add (B s room : Nat) (S : Nat → Prop) (got : List ByteArray) (x : ByteArray) (w : World) (h : SoSt B s room S got w) (hl : got.length < 100000) (hx : x.size ≤ 281474976710656) : Calls Try.prog 11 #[.pointer (some ⟨s, 0, none⟩), .string x] w (Added B s room S got x w) := by
  obtain ⟨⟨hv, rv, vs, hand, rss, h1, h2, h3, h4, h5, h6⟩, h7, h8⟩ := h
  have hlen := h2.length_eq
  rw [List.length_append] at hlen
  refine (soAdd_any B s room got.length hv rv vs hand rss x w h1 h8 (by omega) (by omega) (by omega) hx).mono ?_
  rintro e w' ⟨he, hb, hv', rv', vs', k1, k2, k3⟩
  refine ⟨he, hb, fun k => Foot s hv' rv' vs' k ∧ k < w'.heap.size, ⟨?_, fun k hk => ⟨?_, hk.2⟩, Nat.le_trans h8 hb.size⟩, fun k hk => ?_, fun k hk hS => k3.keep k hk (fun hf => hS (h6 k hf))⟩
  · by_cases hroom : hand.length + 1 = room
    · have k4 := k1 hroom
      refine ⟨hv', rv', vs', [], rss ++ [srtS (hand ++ [x])], by rw [List.length_append]; exact k4, ?_, ?_, ?_, (by simp; omega), fun k hk => ⟨hk, ?_⟩⟩
      · rw [List.flatten_append, List.append_nil]
        simp only [List.flatten_cons, List.flatten_nil, List.append_nil]
        refine ((srtS_perm (hand ++ [x])).append_left rss.flatten).trans ?_
        rw [← List.append_assoc]
        exact h2.append_right [x]
      · intro l hl
        rcases List.mem_append.1 hl with hl | hl
        · exact h3 l hl
        · rw [List.mem_singleton.1 hl]; exact srtS_rise _
      · rw [List.length_append, List.length_append]; simp; exact h4
      · rcases hk with hk | hk | hk | ⟨v, hv2, hk⟩
        · rw [hk]; exact k4.lt
        · exact (k4.hand.lt k hk).2
        · exact (k4.runs.lt k hk).2
        · obtain ⟨j, hj, rfl⟩ := List.getElem_of_mem hv2
          have hj2 : j < (rss ++ [srtS (hand ++ [x])]).length := by rw [← k4.len]; exact hj
          exact ((k4.each j _ _ (List.getElem?_eq_getElem hj) (List.getElem?_eq_getElem hj2)).1.lt k hk).2
    · have k4 := k2 hroom
      refine ⟨hv', rv', vs', hand ++ [x], rss, by rw [List.length_append]; exact k4, ?_, h3, ?_, (by rw [List.length_append]; simp; omega), fun k hk => ⟨hk, ?_⟩⟩
      · rw [← List.append_assoc]; exact h2.append_right [x]
      · rw [List.length_append]; omega
      · rcases hk with hk | hk | hk | ⟨v, hv2, hk⟩
        · rw [hk]; exact k4.lt
        · exact (k4.hand.lt k hk).2
        · exact (k4.runs.lt k hk).2
        · obtain ⟨j, hj, rfl⟩ := List.getElem_of_mem hv2
          have hj2 : j < rss.length := by rw [← k4.len]; exact hj
          exact ((k4.each j _ _ (List.getElem?_eq_getElem hj) (List.getElem?_eq_getElem hj2)).1.lt k hk).2
  · rcases k3.foot k hk.1 with hf | hf
    · exact (h7 k (h6 k hf)).1
    · exact Nat.le_trans h8 hf
  · rcases k3.foot k hk.1 with hf | hf
    · exact .inl (h6 k hf)
    · exact .inr hf
theorem so_runs (B s room : Nat) (S : Nat → Prop) (got : List ByteArray) (w : World) (h : SoSt B s room S got w) (h1 : 1 ≤ room) (h2 : room ≤ 65536) (hl : got.length ≤ 100000) : Calls Try.prog 12 #[.pointer (some ⟨s, 0, none⟩)] w fun e w' => e = .returned (.int .i64 (((got.length + room - 1) / room : Nat) : Int)) ∧ ∃ n, w.drewN n = w' := by
  obtain ⟨⟨hv, rv, vs, hand, rss, h3, _⟩, _⟩ := h
  exact soRuns_any B s room got.length hv rv vs hand rss w h3 h1 h2 (by omega)
/-- What Sorted leaves, as the laws see it. -/
def Told (B s : Nat) (S : Nat → Prop) (got : List ByteArray) (w : World) (e : Ending) (w' : World) : Prop :=
  ∃ v, e = .returned (.tuple #[v, .int .i64 0]) ∧ Strs w.heap.size w' v (srtS got) ∧ SoOver s w' ∧ Below B w w' ∧ ∀ k, k < w.heap.size → ¬ S k → w'.heap[k]? = w.heap[k]?
theorem so_sorted (B s room : Nat) (S : Nat → Prop) (got : List ByteArray) (w : World) (h : SoSt B s room S got w) (hl : got.length ≤ 100000) : Calls Try.prog 13 #[.pointer (some ⟨s, 0, none⟩)] w (Told B s S got w) := by
  obtain ⟨⟨hv, rv, vs, hand, rss, h1, h2, h3, h4, h5, h6⟩, h7, h8⟩ := h
  have hlen := h2.length_eq
  rw [List.length_append] at hlen
  refine (soSorted_any B s room got.length hv rv vs hand rss w h1 h8 h3 (by omega) (by omega)).mono ?_
  rintro e w' ⟨v, he, hs, ho, hb, hk⟩
  rw [srtS_congr h2] at hs
  exact ⟨v, he, hs, ho, hb, fun k hk1 hk2 => hk k hk1 (fun hf => hk2 (h6 k hf))⟩
/-- Two sorters that have no block in common. -/
theorem SoSt.other {B s room : Nat} {S S' : Nat → Prop} {got : List ByteArray} {w w' : World} (h : SoSt B s room S got w) (hd : ∀ k, S k → ¬ S' k) (hz : w.heap.size ≤ w'.heap.size) (hk : ∀ k, k < w.heap.size → ¬ S' k → w'.heap[k]? = w.heap[k]?) : SoSt B s room S got w' :=
  h.keep hz fun k hS => hk k (h.low k hS).2 (hd k hS)
end Go.Proofs.Ytgegljbocacdnaa
