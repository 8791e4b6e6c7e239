/- The contract of a pool's Write, where bytes are written. -/
import Derived.Test.YtnmeobbbcccgjaaPE
set_option maxRecDepth 100000
namespace Go.Proofs.Ytnmeobbbcccgjaa
open Go.RowKit

theorem infoU8 : (Try.prog.info? 5).map (·.size) = some 1 := by kernel_rfl
/-- 'f.bytes[a:]'. -/
theorem run_sliceArr (W : World) (x : Addr) (a : Nat) (ha : a ≤ 512) : (Instr.sliceAt 70 (.pointer (some x)) (some (.int .i64 a)) none none).run Try.prog W = .ok (.slice (some (if 512 = a then x else x.add a)) (512 - a) (512 - a)) W := by
  obtain ⟨i, hi, hs⟩ := Option.map_eq_some_iff.1 infoU8
  simp [Instr.sliceAt, run_underlying Try.underlying70, Instr.sureAddr, Instr.sliceBounds, Instr.sliceBound, asIntOf, sizeOf, typeInfo, hi, hs, Result.andThen]
  rw [if_pos ha]

theorem splice_nil (l : List UInt8) (a : Nat) : splice l a [] = l := by simp [splice]

set_option maxHeartbeats 1600000 in
theorem pwrite_yes (p d fb mb n hand m i a : Nat) (fr : Nat → Option Fr) (f : Fr) (s : ByteArray) (w : World) (h : PoolG p d fb mb n hand m fr w) (hi : fr i = some f) (hp : 0 < f.pins) (ha : a + s.size ≤ 512) :
    Calls Try.prog 17 #[.pointer (some ⟨p, 0, none⟩), .int .i64 f.page, .int .i64 a, .string s] w fun e w' => e = .returned (.int .i64 0) ∧
      FrAt w' fb (i * 516) { f with bytes := splice f.bytes a s.data.toList, changed := f.changed || decide (s.size ≠ 0) } ∧ Touch fb (i * 516) 516 w w' ∧ Kept (fun k => k = fb) w w' := by
  have HP := Lib.hid (pinned_yes p d fb mb n hand m i fr f w h hi hp)
  obtain ⟨hin, hf, hb, _⟩ := h.at_ i f hi
  unfold ptrFr at HP
  have hfr := h.froz (i * 516 + 3)
  have ht : w.there fb (i * 516) 516 := there_part h.room (by omega) (by have := Nat.mul_le_mul_right 516 (show i + 1 ≤ n from hin); omega)
  obtain ⟨o, ho⟩ : ∃ o, o = i * 516 := ⟨_, rfl⟩
  rw [← ho] at hf HP hfr ht ⊢
  have hch := hf.changed
  have he : s.data.toList.length = s.size := rfl
  have hlt : ¬ ((512 : Int) - s.size < a) := by omega
  have ha5 : a ≤ 512 := by omega
  have hsl := fun W => run_sliceArr W ⟨fb, o + 4, none⟩ a ha5
  have hfar : ∀ (W : World) (b : Bool) j, j ≠ 3 → (W.setCell ⟨fb, o + 3, none⟩ (.bool b)).cell? ⟨fb, o + j, none⟩ = W.cell? ⟨fb, o + j, none⟩ := fun W b j hj => World.cell?_setCell_other _ _ _ _ (fun e => by injection e with _ e _; omega)
  by_cases h0 : s.size = 0
  · have hnil : s.data.toList = [] := List.eq_nil_of_length_eq_zero (by rw [he, h0])
    have hte : s.toList.isEmpty = true := by rw [ByteArray.toList_eq, hnil]; rfl
    obtain ⟨ax, hax⟩ : ∃ ax, (if 512 = a then (⟨fb, o + 4, none⟩ : Addr) else (⟨fb, o + 4, none⟩ : Addr).add a) = ax := ⟨_, rfl⟩
    rw [hax] at hsl
    clear hax
    have hcp := fun (ax : Option Addr) (x y : Nat) => Lib.run_copy_empty_string (P := Try.prog) w 44 9 3 5 ax x y s Try.underlying44 (by kernel_rfl) h0
    have hend : FrAt (w.setCell ⟨fb, o + 3, none⟩ (.bool f.changed)) fb o { f with bytes := splice f.bytes a s.data.toList, changed := f.changed || decide (s.size ≠ 0) } ∧ Touch fb o 516 w (w.setCell ⟨fb, o + 3, none⟩ (.bool f.changed)) ∧ Kept (fun k => k = fb) w (w.setCell ⟨fb, o + 3, none⟩ (.bool f.changed)) := by
      rw [hnil, splice_nil, h0]
      refine ⟨FrAt.mk ((hfar w _ 0 (by omega)).trans hf.page) ((hfar w _ 1 (by omega)).trans hf.pins) ((hfar w _ 2 (by omega)).trans hf.lately) ?_ (fun j v hv => ?_), Touch.setCell w _ (by omega) (by omega), Kept.setCell (fun k => k = fb) w (b := fb) rfl _⟩
      · rw [World.cell?_setCell_same _ _ _ hch]
        simp
      · rw [show o + 4 + j = o + (4 + j) by omega, hfar w _ (4 + j) (by omega), ← Nat.add_assoc]
        exact hf.bytes j v hv
    have HE := Lib.hid hend
    clear hend ho h hi hp hf hb hin hfar he ha ht hnil
    have hs0 : (s.size : Int) ≤ 0 := by omega
    have hs1 : (512 : Int) - s.size ≤ 512 := by omega
    have HZ := Lib.hid h0; clear h0
    cases hcc : f.changed
    all_goals
      rw [hcc] at hch HE
      clear hcc
      go_enter Try.func17, Try.ntmps17
      go_wp2_with fail
      refine HP.out.mono ?_
      rintro e w' ⟨rfl, hw⟩
      subst w'
      go_wp2
      go_ret
      exact ⟨rfl, HE.out⟩
  · have hte : s.toList.isEmpty = false := by
      rw [ByteArray.toList_eq]
      cases e : s.data.toList with
      | nil => rw [e] at he; exact absurd he.symm h0
      | cons c r => rfl
    rw [if_neg (show ¬ 512 = a by omega), add_lit'] at hsl
    have hta : w.there fb (o + 4 + a) s.size := there_part ht (by omega) (by omega)
    have hcp := run_copy_string_mid w 44 9 3 5 fb (o + 4 + a) (512 - a) (512 - a) s Try.underlying44 (by kernel_rfl) hta (by omega)
    obtain ⟨w1, hw1⟩ : ∃ w1, w1 = w.setCells fb (o + 4 + a) (Lib.byteCells s.data.toList) := ⟨_, rfl⟩
    have hbl : (Lib.byteCells s.data.toList).length = s.size := by rw [Lib.byteCells_length, he]
    have hfar1 : ∀ j, j < 4 → w1.cell? ⟨fb, o + j, none⟩ = w.cell? ⟨fb, o + j, none⟩ := fun j hj => by
      rw [hw1]; exact World.cell?_setCells_out fb _ (o + 4 + a) w _ (fun _ _ => .inl (by show o + j < o + 4 + a; omega))
    have hch1 : w1.cell? ⟨fb, o + 3, none⟩ = some (.bool f.changed) := (hfar1 3 (by omega)).trans hch
    have hfr1 : w1.frozen? ⟨fb, o + 3, none⟩ = false := by rw [hw1, World.frozen?_setCells]; exact hfr
    have hend : FrAt (w1.setCell ⟨fb, o + 3, none⟩ (.bool true)) fb o { f with bytes := splice f.bytes a s.data.toList, changed := f.changed || decide (s.size ≠ 0) } ∧ Touch fb o 516 w (w1.setCell ⟨fb, o + 3, none⟩ (.bool true)) ∧ Kept (fun k => k = fb) w (w1.setCell ⟨fb, o + 3, none⟩ (.bool true)) := by
      refine ⟨FrAt.mk ((hfar w1 _ 0 (by omega)).trans ((hfar1 0 (by omega)).trans hf.page)) ((hfar w1 _ 1 (by omega)).trans ((hfar1 1 (by omega)).trans hf.pins)) ((hfar w1 _ 2 (by omega)).trans ((hfar1 2 (by omega)).trans hf.lately)) ?_ (fun j v hv => ?_), ?_, ?_⟩
      · rw [World.cell?_setCell_same _ _ _ hch1]
        simp [h0]
      · rw [show o + 4 + j = o + (4 + j) by omega, hfar w1 _ (4 + j) (by omega), ← Nat.add_assoc, hw1]
        exact rangeAt_splice hf.bytes a s.data.toList (by rw [he, hb]; exact ha) (by rw [he]; exact hta) j v hv
      · rw [hw1]
        exact (Touch.setCells w _ _ (by omega) (by rw [hbl]; omega)).trans (Touch.setCell _ _ (by omega) (by omega))
      · rw [hw1]
        exact (Kept.setCells (fun k => k = fb) w (fb := fb) rfl _).trans (Kept.setCell (fun k => k = fb) _ (b := fb) rfl _) (fun _ hi => .inl hi)
    have HE := Lib.hid hend
    rw [← hw1] at hcp
    have hb1 : (a : Int) < 512 := by omega
    have hca : ¬ 512 = a := by omega
    have hs1 : (512 : Int) - s.size ≤ 512 := by omega
    have hs0 : (0 : Int) < s.size := by omega
    clear hend ho h hi hp hf hb hin hfar hfar1 he ha ht hta hbl hw1 h0 hch
    cases hcc : f.changed
    all_goals
      rw [hcc] at hch1 HE
      clear hcc
      go_enter Try.func17, Try.ntmps17
      go_wp2_with fail
      refine HP.out.mono ?_
      rintro e w' ⟨rfl, hw⟩
      subst w'
      go_wp2
      go_ret
      exact ⟨rfl, HE.out⟩
end Go.Proofs.Ytnmeobbbcccgjaa
