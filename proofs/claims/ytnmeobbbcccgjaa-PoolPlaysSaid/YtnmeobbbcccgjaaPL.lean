/- The contract of a pool's Flush. -/
import Derived.Test.YtnmeobbbcccgjaaPK
set_option maxRecDepth 100000
namespace Go.Proofs.Ytnmeobbbcccgjaa
open Go.RowKit

/-- What a save leaves of the pool and its disk. -/
structure Flushed (S : Nat → Prop) (p d fb mb n hand m : Nat) (fr fr' : Nat → Option Fr) (C : Nat → List UInt8) (P : Nat → Nat) (N B : Nat) (w0 w : World) : Prop where
  g : PoolG p d fb mb n hand m fr' w
  st : ∃ S' ops', DiskAt S' d ops' w ∧ View n fr' ops' C P N ∧ (∀ k, S' k → S k ∨ B ≤ k) 
  same : ∀ i, (fr' i).map (·.page) = (fr i).map (·.page)
  kept : Kept (fun k => S k ∨ k = fb) w0 w

theorem flushed_save {S : Nat → Prop} {p d fb mb n hand m : Nat} {fr fr' : Nat → Option Fr} {C : Nat → List UInt8} {P : Nat → Nat} {N B : Nat} {w0 w : World} (h : Flushed S p d fb mb n hand m fr fr' C P N B w0 w) (hN : N ≤ 4398046511104) (hB : B ≤ w.heap.size) (hw0 : w0.heap.size ≤ B)
    (hp : ¬ S p ∧ p < B) (hf : ¬ S fb ∧ fb < B) (hm : ¬ S mb ∧ mb < B) {i : Nat} {f : Fr} (hi : fr' i = some f) :
    Calls Try.prog 30 #[ptrFr fb i, .pointer (some ⟨d, 0, none⟩)] w fun e w' => e = .returned (.tuple #[]) ∧ ∃ fr2, Flushed S p d fb mb n hand m fr fr2 C P N B w0 w' ∧ (∀ f, fr2 i = some f → f.changed = false) ∧ ∀ j, j ≠ i → fr2 j = fr' j := by
  obtain ⟨S', ops', hd, hv, hS'⟩ := h.st
  obtain ⟨hin, hFr, hfb, hfq⟩ := h.g.at_ i f hi
  have oP : ¬ S' p := fun e => (hS' p e).elim hp.1 (by omega)
  have oF : ¬ S' fb := fun e => (hS' fb e).elim hf.1 (by omega)
  have oM : ¬ S' mb := fun e => (hS' mb e).elim hm.1 (by omega)
  refine (save_any fb (i * 516) d f S' ops' w hd (by have := hv.cost; omega) hFr hfq hfb h.g.froz oF).mono ?_
  rintro e w' ⟨he, hs⟩
  refine ⟨he, ?_⟩
  rcases hs with ⟨hc, rfl⟩ | ⟨hc, w3, g1, g2, rfl⟩
  · exact ⟨fr', h, fun g hg => by rw [hi] at hg; cases hg; exact hc, fun _ _ => rfl⟩
  · have hG3 := h.g.kept g2 oP oF oM
    obtain ⟨_, hFr, hfb, _⟩ := hG3.at_ i f hi
    have hfar : ∀ j, j ≠ 3 → (w3.setCell ⟨fb, i * 516 + 3, none⟩ (.bool false)).cell? ⟨fb, i * 516 + j, none⟩ = w3.cell? ⟨fb, i * 516 + j, none⟩ := fun j hj => World.cell?_setCell_other _ _ _ _ (fun e => by injection e with _ e _; omega)
    have hk3 : Kept (fun k => k = fb) w3 (w3.setCell ⟨fb, i * 516 + 3, none⟩ (.bool false)) := Kept.setCell (fun k => k = fb) w3 (b := fb) rfl _
    refine ⟨upd fr' i (some { f with changed := false }), ⟨?_, ⟨More S' w.heap.size, _, ?_, hv.save h.g.one hi hin hfb hc, ?_⟩, fun j => ?_, ?_⟩, ?_, fun j hj => upd_other _ _ hj⟩
    · refine hG3.turnFr hi (Touch.setCell w3 _ (by omega) (by omega)) hk3 (FrAt.mk ((hfar 0 (by omega)).trans hFr.page) ((hfar 1 (by omega)).trans hFr.pins) ((hfar 2 (by omega)).trans hFr.lately) ?_ (fun j v hv => ?_)) hfb rfl
      · exact World.cell?_setCell_same _ _ _ hFr.changed
      · rw [show i * 516 + 4 + j = i * 516 + (4 + j) by omega, hfar (4 + j) (by omega), ← Nat.add_assoc]
        exact hFr.bytes j v hv
    · refine g1.kept hk3 (fun k _ hs e => ?_)
      subst e
      rcases hs with hs | hs
      · exact oF hs
      · omega
    · rintro k (hk | hk)
      · exact hS' k hk
      · exact .inr (by omega)
    · by_cases hj : j = i
      · subst hj; rw [upd_same, ← h.same, hi]; rfl
      · rw [upd_other _ _ hj]; exact h.same j
    · refine (h.kept.trans g2 (fun k hk => ?_)).trans hk3 (fun k hk => .inl (.inr hk))
      rcases hS' k hk with h1 | h1
      · exact .inl (.inl h1)
      · exact .inr (by omega)
    · intro g hg
      rw [upd_same] at hg; cases hg; rfl

set_option maxHeartbeats 1600000 in
theorem flush_any (p d fb mb n hand m : Nat) (fr : Nat → Option Fr) (S : Nat → Prop) (ops : List RawOp) (C : Nat → List UInt8) (P : Nat → Nat) (N : Nat) (w : World) (h : PoolG p d fb mb n hand m fr w) (hm : m ≤ n) (hd : DiskAt S d ops w) (hv : View n fr ops C P N) (hN : N ≤ 4398046511104)
    (h1 : ¬ S p) (h2 : ¬ S fb) (h3 : ¬ S mb) (hS : ∀ k, S k → k < w.heap.size) :
    Calls Try.prog 13 #[.pointer (some ⟨p, 0, none⟩)] w fun e w' => e = .returned (.int .i64 0) ∧ ∃ fr', Flushed S p d fb mb n hand m fr fr' C P N w.heap.size w w' ∧ ∀ i f, fr' i = some f → f.changed = false := by
  have HG := Lib.hid (pgiven_self p w h.c0)
  have HH := Lib.hid (held_any p d fb mb n hand m fr w h hm)
  have h2n := h.n2
  have H := Lib.hid h
  have HD := Lib.hid hd; clear hd
  have HV := Lib.hid hv; clear hv
  have HS := Lib.hid (show (¬ S p ∧ ¬ S fb ∧ ¬ S mb) ∧ ∀ k, S k → k < w.heap.size from ⟨⟨h1, h2, h3⟩, hS⟩)
  clear h h1 h2 h3 hS
  go_enter Try.func13, Try.ntmps13
  go_wp2_with fail
  refine HG.out.mono ?_
  rintro e w' ⟨rfl, hw⟩
  subst w'
  go_wp2_with fail
  refine HH.out.mono ?_
  rintro e w1 ⟨v, l, rfl, hR, hln, _, hmem, hb⟩
  obtain ⟨a, c, rfl, hcell⟩ := hR
  have hlen : (asInts l).length = l.length := by simp [asInts]
  rw [hlen]
  obtain ⟨ll, hll⟩ : ∃ ll, ll = l.length := ⟨_, rfl⟩
  rw [← hll] at hln ⊢
  have HLL := Lib.hid hll
  have HM := Lib.hid hmem; clear hmem
  have HC : Hid (∀ k, k < ll → ∃ g x, a = some ⟨g, 0, none⟩ ∧ w.heap.size ≤ g ∧ g < w1.heap.size ∧ l[k]? = some x ∧ w1.cell? ⟨g, k, none⟩ = some (.int .i64 x)) := Lib.hid (fun k hk => by
    rcases hcell with h0 | ⟨g, rfl, hg1, hg2, hg3⟩
    · simp [asInts] at h0; subst h0; simp at hll; omega
    · refine ⟨g, l[k], rfl, hg1, hg2, List.getElem?_eq_getElem (by omega), hg3 k _ ?_⟩
      simp [asInts, show k < l.length by omega])
  have hF0 : Flushed S p d fb mb n hand m fr fr C P N w1.heap.size w1 w1 := ⟨H.out.below hb, ⟨S, ops, HD.out.below hb, HV.out, fun k hk => .inl hk⟩, fun _ => rfl, Kept.refl _ _⟩
  have HB := Lib.hid hb
  have HF0 := Lib.hid hF0
  clear hF0 hcell hlen hll hb
  go_wp2
  go_loopw [11] (fun i wr => ∃ (k : Nat) (fr' : Nat → Option Fr), k ≤ ll ∧ i = .int .i64 k ∧ Hid (Flushed S p d fb mb n hand m fr fr' C P N w1.heap.size w1 wr) ∧ Hid (∀ j x i f, j < k → l[j]? = some x → fr' i = some f → (f.page : Int) = x → f.changed = false)) (fun i _ => ll - (intOf i).toNat)
  case atStart => exact ⟨0, fr, by omega, rfl, HF0, Lib.hid (fun j x i f hj => by omega)⟩
  case round =>
    obtain ⟨k, fr', hk, rfl, HF, HQ⟩ := hrel
    by_cases hlt : k < ll
    · obtain ⟨g, x, rfl, hg1, hg2, hlx, hcx⟩ := HC.out k hlt
      have hxw : wr.cell? ⟨g, k, none⟩ = some (.int .i64 x) := (World.cell?_of_block (HF.out.kept.block g hg2 (fun e => by
        rcases e with e | e
        · have := HS.out.2 g e; omega
        · have := H.out.ltF; omega))).trans hcx
      obtain ⟨i0, f0, hf0, hx⟩ := (HM.out x).1 (List.mem_of_getElem? hlx)
      obtain ⟨f, hf, hfp⟩ : ∃ f, fr' i0 = some f ∧ f.page = f0.page := by
        have := HF.out.same i0
        rw [hf0] at this
        cases hfr : fr' i0 with
        | none => rw [hfr] at this; cases this
        | some f => rw [hfr] at this; simp at this; exact ⟨f, rfl, this⟩
      rw [← hfp] at hx
      have HLX := Lib.hid hlx; clear hlx hcx
      have hG2 : PoolG p d fb mb n hand m fr' wr.drew := HF.out.g.block rfl rfl rfl
      have c3 := hG2.c3
      have c1 := hG2.c1
      have hlk := hG2.look hf
      rw [hx] at hlk
      have hwz := HB.out.size
      have hF2 : Flushed S p d fb mb n hand m fr fr' C P N w1.heap.size w1 wr.drew := by
        obtain ⟨S', ops', hd', hv', hs'⟩ := HF.out.st
        exact ⟨hG2, ⟨S', ops', hd'.below ⟨rfl, rfl, rfl, Nat.le_refl _, fun _ _ => rfl⟩, hv', hs'⟩, HF.out.same, HF.out.kept.trans (Kept.ofBelow (S := fun _ => False) ⟨rfl, rfl, rfl, Nat.le_refl _, fun _ _ => rfl⟩) (fun _ h => h.elim)⟩
      have HSV := Lib.hid (flushed_save hF2 hN (by exact HF.out.kept.size) (Nat.le_refl _) ⟨HS.out.1.1, by have := H.out.lt; omega⟩ ⟨HS.out.1.2.1, by have := H.out.ltF; omega⟩ ⟨HS.out.1.2.2, by have := H.out.ltM; omega⟩ hf)
      have d3 := HF.out.g.c3
      have d1 := HF.out.g.c1
      have HX := Lib.hid hx
      have HFF := Lib.hid hf
      unfold ptrFr at hlk HSV
      clear hf0 hfp hG2 hF2 hf hx
      go_wp2
      go_still_tail 10, (by kernel_rfl)
      go_wp2_with fail
      refine HSV.out.mono ?_
      rintro e w3 ⟨rfl, fr2, hF3, hc3, hs3⟩
      have HF3 := Lib.hid hF3
      have HQ3 : Hid (∀ j x i f, j < k + 1 → l[j]? = some x → fr2 i = some f → (f.page : Int) = x → f.changed = false) := Lib.hid (fun j y i h hj hy hi hpy => by
        by_cases hii : i = i0
        · subst hii; exact hc3 h hi
        · rw [hs3 i hii] at hi
          by_cases hjk : j = k
          · subst hjk
            rw [HLX.out] at hy; cases hy
            exact absurd (HF.out.g.one i i0 h f hi HFF.out (by have := HX.out; omega)) hii
          · exact HQ.out j y i h (by omega) hy hi hpy)
      clear hF3 hc3 hs3
      go_wp2
      go_roundw
      case rel => exact ⟨k + 1, fr2, by omega, by go_num, HF3, HQ3⟩
      case measure => simp [intOf]; omega
    · have hkl : k = ll := by omega
      have HKL := Lib.hid hkl; clear hkl
      go_wp2
      go_ret
      refine ⟨rfl, fr', ⟨HF.out.g, ?_, HF.out.same, (Kept.ofBelow (S := fun k => S k ∨ k = fb) HB.out).trans HF.out.kept (fun _ h => .inl h)⟩, fun i f hi => ?_⟩
      · obtain ⟨S', ops', hd', hv', hs'⟩ := HF.out.st
        exact ⟨S', ops', hd', hv', fun k hk => (hs' k hk).imp id (fun h => by have := HB.out.size; omega)⟩
      · have hmem : (f.page : Int) ∈ l := by
          refine (HM.out _).2 ?_
          have := HF.out.same i
          rw [hi] at this
          cases hfr : fr i with
          | none => rw [hfr] at this; cases this
          | some f0 => rw [hfr] at this; simp at this; exact ⟨i, f0, hfr, by rw [this]⟩
        obtain ⟨j, hj, hjl⟩ := List.getElem_of_mem hmem
        exact HQ.out j _ i f (by have := HLL.out; have := HKL.out; omega) (by rw [List.getElem?_eq_getElem hj, hjl]) hi rfl
end Go.Proofs.Ytnmeobbbcccgjaa
