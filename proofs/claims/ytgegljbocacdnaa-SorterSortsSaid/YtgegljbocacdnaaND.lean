/- Add: a text is taken. -/
import Derived.Test.YtgegljbocacdnaaNC
set_option maxRecDepth 100000
namespace Go.Proofs.Ytgegljbocacdnaa
open Go.RowKit

section
variable {B s room tk : Nat} {hv rv : Value} {vs : List Value} {hand : List ByteArray} {rss : List (List ByteArray)} {w : World}
/-- What stands behind 's.hand = append(s.hand, x)'. -/
theorem SoAt.add (h : SoAt B s room tk hv rv vs hand rss false w) (hB : B ≤ w.heap.size) (hl : hand.length < 4194304) (x : ByteArray) (w1 : World) (hb1 : Below w.heap.size w w1) :
    ∃ hv' w3, (Builtin.append_ #[22, 22] 22 #[hv, .slice (some ⟨w1.heap.size, 0, none⟩) 1 1]).run Try.prog (w1.alloc (.cells #[.string x] 9)) = .ok hv' w3 ∧ w1.cell? ⟨s, 3, none⟩ = some hv ∧ w3.cell? ⟨s, 3, none⟩ = some hv ∧ w3.frozen? ⟨s, 3, none⟩ = false ∧ s < w1.heap.size ∧ (∃ a c, hv' = .slice a (hand.length + 1) c) ∧
      SoAt B s room tk hv' rv vs (hand ++ [x]) rss false (w3.setCell ⟨s, 3, none⟩ hv') ∧ Below B w (w3.setCell ⟨s, 3, none⟩ hv') ∧ Ft s hv rv vs hv' rv vs w (w3.setCell ⟨s, 3, none⟩ hv') := by
  have h1 := h.below hb1
  have hB1 : B ≤ w1.heap.size := Nat.le_trans hB hb1.size
  obtain ⟨hv', w3, hr, hs3, hg3⟩ := append_text w1 B hv hand x h1.hand hl hB1 22
  have hba : Below w1.heap.size w1 (w1.alloc (.cells #[.string x] 9)) := (Below.refl _ _).alloc (Nat.le_refl _) _
  have h2 := h1.below hba
  have hb3 : w3.heap[s]? = some (.cells (soCells s room tk hv rv false) 42 (0, 0)) := (hg3.block s h2.lt (fun e => h2.hand.ne h2.blk (by decide) e.symm)).trans h2.blk
  have hr3 : w3.ownsRow B 22 1 rv vs.length vs := h2.runs.kept hg3 (own_ne2 h2.runs h2.hand (by decide))
  obtain ⟨a, c, e⟩ := hs3.shape
  rw [List.length_append] at e
  -- where the new row lies
  have hnew : ∀ k, hv'.ownBlock = some k → hv.ownBlock = some k ∨ w1.heap.size < k := by
    intro k hk
    obtain ⟨v2, w2, hr2, _, hG2⟩ := append_texts (w1.alloc (.cells #[.string x] 9)) 22 hv hand [x] B h2.hand ⟨w1.heap.size, 0, none⟩ 1 (fun j hj => by
      have : j = 0 := by simpa using hj
      subst this
      exact Lib.cell_of_heap (heap_alloc_new w1 _) 0) (by simp; omega)
    have hr' : (Builtin.append_ #[22, 22] 22 #[hv, .slice (some ⟨w1.heap.size, 0, none⟩) [x].length 1]).run Try.prog (w1.alloc (.cells #[.string x] 9)) = .ok hv' w3 := hr
    rw [hr'] at hr2
    injection hr2 with e1 e2
    subst e1 e2
    rcases hG2.2 k hk with h | h
    · exact .inl h
    · simp at h; exact .inr (by omega)
  have hgs : w3.grownBy (w3.setCell ⟨s, 3, none⟩ hv') (some s) := ⟨rfl, rfl, rfl, by simp, fun k hk hne => heap_setCell_other w3 ⟨s, 3, none⟩ k hv' (fun e => hne (by simp [e]))⟩
  have hbl : Below B w w3 := (hb1.mono hB).trans ((hba.mono hB1).trans ⟨hg3.os, hg3.tape, hg3.output, hg3.size, fun k hk => hg3.block k (by simp; omega) (fun e => by have := (h2.hand.lt k e.symm).1; omega)⟩)
  refine ⟨hv', w3, hr, by rw [h1.cell]; rfl, by rw [Lib.cell_of_heap hb3]; rfl, Lib.frozen_of_heap hb3 3, h1.lt, ⟨a, c, e⟩, ⟨?_, hs3.kept hgs (.inr (hs3.ne hb3 (by decide))), hr3.kept hgs (.inr (own_ne hr3 hb3 (by decide))), h.len, fun j v l e1 e2 => ?_, h.ge⟩, hbl.trans ⟨rfl, rfl, rfl, by simp, fun k hk => hgs.block k (Nat.lt_of_lt_of_le (Nat.lt_of_lt_of_le hk hB) hbl.size) (fun e => by injection e with e; have := h.ge; omega)⟩, ⟨fun k hk hf => ?_, fun k hk => ?_, ?_⟩⟩
  · have := heap_setCell_same w3 s 3 _ 42 hv' hb3
    rw [this]; rfl
  · obtain ⟨h5, h6⟩ := h2.each j v l e1 e2
    have h7 : Strs B w3 v l := h5.kept hg3 h6
    refine ⟨h7.kept hgs (.inr (h7.ne hb3 (by decide))), ?_⟩
    rcases h6 with h6 | h6
    · exact .inl h6
    · refine .inr fun e => ?_
      cases hk : hv'.ownBlock with
      | none =>
        rw [hk] at e
        have := (hs3.2)
        rcases this with ⟨_, hz⟩ | ⟨g, cap, cur, hg, _⟩
        · simp at hz
        · rw [hg] at hk; cases hk
      | some k =>
        rw [hk] at e
        rcases hnew k hk with hk2 | hk2
        · exact h6 (by rw [e, hk2])
        · have := ((h1.each j v l e1 e2).1.lt k e).2
          omega
  · have n1 : ¬ k = s := fun e => hf (.inl e)
    have n2 : ¬ hv.ownBlock = some k := fun e => hf (.inr (.inl e))
    have k1 : k < w1.heap.size := Nat.lt_of_lt_of_le hk hb1.size
    have k2 : k < (w1.alloc (.cells #[.string x] 9)).heap.size := by simp; omega
    exact (hgs.block k (Nat.lt_of_lt_of_le k2 hg3.size) (fun e => by injection e with e; exact n1 e)).trans ((hg3.block k k2 (fun e => n2 e.symm)).trans ((hba.block k k1).trans (hb1.block k hk)))
  · rcases hk with hk | hk | hk
    · exact .inl (.inl hk)
    · rcases hnew k hk with h3 | h3
      · exact .inl (.inr (.inl h3))
      · exact .inr (by have := hb1.size; omega)
    · exact .inl (.inr (.inr hk))
  · have := hb1.size; have := hba.size; have := hg3.size; simp; omega
end
theorem SoAt.counted {B s room tk tk' : Nat} {hv rv : Value} {vs : List Value} {hand : List ByteArray} {rss : List (List ByteArray)} {w : World} (h : SoAt B s room tk hv rv vs hand rss false w) (ht : tk' = tk + 1) : SoAt B s room tk' hv rv vs hand rss false (w.setCell ⟨s, 2, none⟩ (.int .i64 (tk' : Nat))) ∧ Below B w (w.setCell ⟨s, 2, none⟩ (.int .i64 (tk' : Nat))) ∧ Ft s hv rv vs hv rv vs w (w.setCell ⟨s, 2, none⟩ (.int .i64 (tk' : Nat))) := by
  subst ht
  have hgs : w.grownBy (w.setCell ⟨s, 2, none⟩ (.int .i64 ((tk + 1 : Nat) : Int))) (some s) := ⟨rfl, rfl, rfl, by simp, fun k hk hne => heap_setCell_other w ⟨s, 2, none⟩ k _ (fun e => hne (by simp [e]))⟩
  refine ⟨⟨?_, h.hand.kept hgs (.inr (h.hand.ne h.blk (by decide))), h.runs.kept hgs (.inr (own_ne h.runs h.blk (by decide))), h.len, fun j v l e1 e2 => ⟨(h.each j v l e1 e2).1.kept hgs (.inr ((h.each j v l e1 e2).1.ne h.blk (by decide))), (h.each j v l e1 e2).2⟩, h.ge⟩, ⟨rfl, rfl, rfl, by simp, fun k hk => heap_setCell_other w ⟨s, 2, none⟩ k _ (fun e => by have := h.ge; simp at e; omega)⟩, ⟨fun k hk hf => hgs.block k hk (fun e => by injection e with e; exact hf (.inl e)), fun k hk => .inl hk, by simp⟩⟩
  have := heap_setCell_same w s 2 _ 42 (.int .i64 ((tk + 1 : Nat) : Int)) h.blk
  rw [this]; rfl

/-- What Add leaves. -/
def AddPost (B s room tk : Nat) (hv0 rv0 : Value) (vs0 : List Value) (hand : List ByteArray) (rss : List (List ByteArray)) (x : ByteArray) (w : World) (e : Ending) (w' : World) : Prop :=
  e = .returned (.int .i64 0) ∧ Below B w w' ∧ ∃ hv rv vs, (hand.length + 1 = room → SoAt B s room (tk + 1) hv rv vs [] (rss ++ [srtS (hand ++ [x])]) false w') ∧ (hand.length + 1 ≠ room → SoAt B s room (tk + 1) hv rv vs (hand ++ [x]) rss false w') ∧ Ft s hv0 rv0 vs0 hv rv vs w w'
theorem Ft.drewN {s : Nat} {hv rv : Value} {vs : List Value} (w : World) (n : Nat) : Ft s hv rv vs hv rv vs w (w.drewN n) := ⟨fun _ _ _ => rfl, fun _ h => .inl h, Nat.le_refl _⟩

set_option maxHeartbeats 3200000 in
theorem soAdd_any (B s room tk : Nat) (hv rv : Value) (vs : List Value) (hand : List ByteArray) (rss : List (List ByteArray)) (x : ByteArray) (w : World) (h : SoAt B s room tk hv rv vs hand rss false w) (hB : B ≤ w.heap.size) (hl : hand.length < 4194304) (hn : rss.length < 4194304) (htk : tk < 4194304) (hx : x.size ≤ 281474976710656) :
    Calls Try.prog 11 #[.pointer (some ⟨s, 0, none⟩), .string x] w (AddPost B s room tk hv rv vs hand rss x w) := by
  have HRE := Lib.hid (soRefuses_at s false w (by rw [h.cell]; rfl) (by rw [h.cell]; rfl))
  obtain ⟨ah, nh, ch, rfl⟩ : ∃ a n c, hv = .slice a n c := by obtain ⟨a, c, e⟩ := h.hand.shape; exact ⟨_, _, _, e⟩
  have c3 : w.cell? ⟨s, 3, none⟩ = some (.slice ah nh ch) := by rw [h.cell]; rfl
  have HC := Lib.hid (fun W => clone_any x W hx)
  have HA := Lib.hid (h.add hB hl x)
  have hsl := h.lt
  clear h hx
  go_enter Try.func11, Try.ntmps11
  go_wp2_with fail
  refine HRE.out.mono ?_
  rintro e w0 ⟨rfl, rfl⟩
  go_wp2
  go_region_law (first | (refine step_app_run rfl _ _ 22 rfl _ _ _ (by rfl) (by rfl) (by assumption) ?_) | (go_simp; go_at_call 19; refine (HC.out _).mono ?_; rintro e w1 ⟨rfl, hb1⟩; obtain ⟨hv', w3, hr, d3, e3, f3, hs1, ⟨a3, c3', rfl⟩, hat, hbel, hft⟩ := HA.out w1 ((Below.refl _ w).drew.trans hb1)))
  all_goals
    obtain ⟨W4, hW4⟩ : ∃ W, W = w3.setCell ⟨s, 3, none⟩ (.slice a3 (hand.length + 1) c3') := ⟨_, rfl⟩
    rw [← hW4] at hat hbel hft ⊢
    have HBE := Lib.hid hbel
    have HFT := Lib.hid hft
    have HCO := Lib.hid (hat.counted (tk' := tk + 1) rfl)
    have d2 : W4.cell? ⟨s, 2, none⟩ = some (.int .i64 tk) := by rw [hat.cell]; rfl
    have f2 : W4.frozen? ⟨s, 2, none⟩ = false := Lib.frozen_of_heap hat.blk 2
    have htki : ((tk + 1 : Nat) : Int) = (tk : Int) + 1 := by omega
    rw [htki] at HCO
    clear hbel hat hft hr d3 e3 f3 hs1 hb1 htki hW4
    go_wp2_with fail
    obtain ⟨W5, hW5⟩ : ∃ W, W = W4.setCell ⟨s, 2, none⟩ (.int .i64 ((tk : Int) + 1)) := ⟨_, rfl⟩
    rw [← hW5] at HCO ⊢
    have c1 : W5.cell? ⟨s, 1, none⟩ = some (.int .i64 room) := by rw [HCO.out.1.cell]; rfl
    have c3 : W5.cell? ⟨s, 3, none⟩ = some (.slice a3 (hand.length + 1) c3') := by rw [HCO.out.1.cell]; rfl
    have HSO := Lib.hid HCO.out.1
    have HB5 := Lib.hid (HBE.out.trans HCO.out.2.1)
    have HF5 := Lib.hid (HFT.out.trans HCO.out.2.2)
    obtain ⟨m, hm⟩ : ∃ m, m = hand.length := ⟨_, rfl⟩
    rw [← hm] at c3 hl
    have HM := Lib.hid hm
    clear hW5 HCO d2 f2 hm HBE HFT
    by_cases hroom : m + 1 = room
    · subst hroom
      go_quiet (fail)
      obtain ⟨W6, hW6⟩ : ∃ W, W = W5.drewN nq := ⟨_, rfl⟩
      rw [← hW6]
      have h6 : SoAt B s (m + 1) (tk + 1) (.slice a3 (hand.length + 1) c3') rv vs (hand ++ [x]) rss false W6 := by rw [hW6]; exact HSO.out.below (below_drewN W5 nq)
      have hb6 : Below B w W6 := by rw [hW6]; exact HB5.out.trans ((below_drewN W5 nq).mono (Nat.le_trans hB HB5.out.size))
      have HE := Lib.hid (endRun_any B s (m + 1) (tk + 1) _ rv vs (hand ++ [x]) rss W6 h6 (Nat.le_trans hB hb6.size) (by rw [List.length_append, ← HM.out]; simp; omega) hn)
      have HB6 := Lib.hid hb6
      have HF6 : Hid (Ft s (.slice ah nh ch) rv vs (.slice a3 (hand.length + 1) c3') rv vs w W6) := Lib.hid (by rw [hW6]; exact HF5.out.trans (Ft.drewN W5 nq))
      clear h6 hb6 hW6
      go_wp2_with fail
      refine HE.out.mono ?_
      rintro e w7 ⟨rfl, hb7, rv7, vs7, h7, hf7⟩
      have HF7 := Lib.hid (HF6.out.trans hf7)
      have H7 := Lib.hid h7
      have HB7 := Lib.hid (HB6.out.trans hb7)
      clear h7 hb7 hf7 HE
      go_wp2
      go_ret
      exact ⟨rfl, HB7.out, _, _, _, fun _ => H7.out, fun h => absurd (by rw [← HM.out]) h, HF7.out⟩
    · have hroomi : ((m : Int) + 1 == (room : Int)) = false := by rw [beq_eq_false_iff_ne]; omega
      go_quiet (fail)
      go_wp2
      go_ret
      exact ⟨rfl, HB5.out.trans ((below_drewN W5 nq).mono (Nat.le_trans hB HB5.out.size)), _, _, _, fun h => absurd h (by rw [← HM.out]; exact hroom), fun _ => HSO.out.below (below_drewN W5 nq), HF5.out.trans (Ft.drewN W5 nq)⟩
end Go.Proofs.Ytgegljbocacdnaa
