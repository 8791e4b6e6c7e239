/- The contracts of a pool's Pins, Read, Unpin, Write. -/
import Derived.Test.YtnmeobbbcccgjaaPD
set_option maxRecDepth 100000
namespace Go.Proofs.Ytnmeobbbcccgjaa
open Go.RowKit

def NoPool (v : Value) (w : World) : Prop := Calls Try.prog 29 #[v] w fun e w' => e = .returned (.bool false) ∧ w' = w

set_option maxHeartbeats 800000 in
theorem pins_yes (p d fb mb n hand m i : Nat) (fr : Nat → Option Fr) (f : Fr) (w : World) (h : PoolG p d fb mb n hand m fr w) (hi : fr i = some f) (hp : 0 < f.pins) :
    Calls Try.prog 18 #[.pointer (some ⟨p, 0, none⟩), .int .i64 f.page] w fun e w' => e = .returned (.int .i64 f.pins) ∧ w' = w := by
  have HP := Lib.hid (pinned_yes p d fb mb n hand m i fr f w h hi hp)
  have hpc := (h.at_ i f hi).2.1.pins
  unfold ptrFr at HP
  obtain ⟨o, ho⟩ : ∃ o, o = i * 516 := ⟨_, rfl⟩
  rw [← ho] at hpc HP
  clear ho h hi hp
  go_enter Try.func18, Try.ntmps18
  go_wp2_with fail
  refine HP.out.mono ?_
  rintro e w' ⟨rfl, hw⟩
  subst w'
  go_wp2
  go_ret
  exact ⟨rfl, rfl⟩

set_option maxHeartbeats 800000 in
theorem pins_code (v : Value) (q c : Int) (w : World) (hc : c = 1 ∨ c = 3) (h : Calls Try.prog 33 #[v, .int .i64 q] w fun e w' => e = .returned (.tuple #[.pointer none, .int .i64 c]) ∧ w' = w) :
    Calls Try.prog 18 #[v, .int .i64 q] w fun e w' => e = .returned (.int .i64 0) ∧ w' = w := by
  have HP := Lib.hid h; clear h
  rcases hc with rfl | rfl
  all_goals
    go_enter Try.func18, Try.ntmps18
    go_wp2_with fail
    refine HP.out.mono ?_
    rintro e w' ⟨rfl, hw⟩
    subst w'
    go_wp2
    go_ret
    exact ⟨rfl, rfl⟩

set_option maxHeartbeats 800000 in
theorem pread_yes (p d fb mb n hand m i : Nat) (fr : Nat → Option Fr) (f : Fr) (w : World) (h : PoolG p d fb mb n hand m fr w) (hi : fr i = some f) (hp : 0 < f.pins) :
    Calls Try.prog 15 #[.pointer (some ⟨p, 0, none⟩), .int .i64 f.page] w fun e w' => e = .returned (.tuple #[.string ⟨f.bytes.toArray⟩, .int .i64 0]) ∧ w' = w := by
  have HP := Lib.hid (pinned_yes p d fb mb n hand m i fr f w h hi hp)
  obtain ⟨_, hf, hb, _⟩ := h.at_ i f hi
  unfold ptrFr at HP
  obtain ⟨o, ho⟩ : ∃ o, o = i * 516 := ⟨_, rfl⟩
  rw [← ho] at hf HP
  have hcv := run_string_mid w fb (o + 4) 512 f.bytes hf.bytes
  rw [hb] at hcv
  obtain ⟨s, hs⟩ : ∃ s : ByteArray, s = ⟨f.bytes.toArray⟩ := ⟨_, rfl⟩
  rw [← hs] at hcv ⊢
  clear ho h hi hp hf hb hs
  go_enter Try.func15, Try.ntmps15
  go_wp2_with fail
  refine HP.out.mono ?_
  rintro e w' ⟨rfl, hw⟩
  subst w'
  go_wp2
  go_ret2
  exact ⟨rfl, rfl⟩

set_option maxHeartbeats 800000 in
theorem pread_code (v : Value) (q c : Int) (w : World) (hc : c = 1 ∨ c = 3) (h : Calls Try.prog 33 #[v, .int .i64 q] w fun e w' => e = .returned (.tuple #[.pointer none, .int .i64 c]) ∧ w' = w) :
    Calls Try.prog 15 #[v, .int .i64 q] w fun e w' => e = .returned (.tuple #[.string ⟨#[]⟩, .int .i64 c]) ∧ w' = w := by
  have HP := Lib.hid h; clear h
  rcases hc with rfl | rfl
  all_goals
    go_enter Try.func15, Try.ntmps15
    go_wp2_with fail
    refine HP.out.mono ?_
    rintro e w' ⟨rfl, hw⟩
    subst w'
    go_wp2
    go_ret2
    exact ⟨rfl, rfl⟩

set_option maxHeartbeats 800000 in
theorem unpin_yes (p d fb mb n hand m i : Nat) (fr : Nat → Option Fr) (f : Fr) (w : World) (h : PoolG p d fb mb n hand m fr w) (hi : fr i = some f) (hp : 0 < f.pins) (hp2 : f.pins ≤ 4611686018427387904) :
    Calls Try.prog 16 #[.pointer (some ⟨p, 0, none⟩), .int .i64 f.page] w fun e w' => e = .returned (.int .i64 0) ∧ FrAt w' fb (i * 516) { f with pins := f.pins - 1 } ∧ Touch fb (i * 516) 516 w w' ∧ Kept (fun k => k = fb) w w' := by
  have HP := Lib.hid (pinned_yes p d fb mb n hand m i fr f w h hi hp)
  obtain ⟨hin, hf, hb, _⟩ := h.at_ i f hi
  unfold ptrFr at HP
  have hfr := h.froz (i * 516 + 1)
  have hpc := hf.pins
  obtain ⟨o, ho⟩ : ∃ o, o = i * 516 := ⟨_, rfl⟩
  rw [← ho] at hf HP hpc hfr ⊢
  obtain ⟨k, hk⟩ : ∃ k, f.pins = k + 1 := ⟨f.pins - 1, by omega⟩
  have hend : FrAt (w.setCell ⟨fb, o + 1, none⟩ (.int .i64 k)) fb o { f with pins := f.pins - 1 } ∧ Touch fb o 516 w (w.setCell ⟨fb, o + 1, none⟩ (.int .i64 k)) ∧ Kept (fun k => k = fb) w (w.setCell ⟨fb, o + 1, none⟩ (.int .i64 k)) := by
    have hfar : ∀ j, j ≠ 1 → (w.setCell ⟨fb, o + 1, none⟩ (.int .i64 k)).cell? ⟨fb, o + j, none⟩ = w.cell? ⟨fb, o + j, none⟩ := fun j hj => World.cell?_setCell_other _ _ _ _ (fun e => by injection e with _ e _; omega)
    refine ⟨FrAt.mk ((hfar 0 (by omega)).trans hf.page) ?_ ((hfar 2 (by omega)).trans hf.lately) ((hfar 3 (by omega)).trans hf.changed) (fun j v hv => ?_), Touch.setCell w _ (by omega) (by omega), Kept.setCell (fun k => k = fb) w (b := fb) rfl _⟩
    · rw [World.cell?_setCell_same _ _ _ hpc]
      simp [hk]
    · rw [show o + 4 + j = o + (4 + j) by omega, hfar (4 + j) (by omega), ← Nat.add_assoc]
      exact hf.bytes j v hv
  have HE := Lib.hid hend
  rw [hk] at hpc
  have hkk : (((k + 1 : Nat) : Int) - 1) = k := by omega
  have hk63 : (k : Int) ≤ 4611686018427387904 := by omega
  clear hend ho h hi hp hf hb hk hp2 hin
  go_enter Try.func16, Try.ntmps16
  go_wp2_with fail
  refine HP.out.mono ?_
  rintro e w' ⟨rfl, hw⟩
  subst w'
  go_wp2
  go_ret
  exact ⟨rfl, HE.out⟩

set_option maxHeartbeats 800000 in
theorem unpin_code (v : Value) (q c : Int) (w : World) (hc : c = 1 ∨ c = 3) (h : Calls Try.prog 33 #[v, .int .i64 q] w fun e w' => e = .returned (.tuple #[.pointer none, .int .i64 c]) ∧ w' = w) :
    Calls Try.prog 16 #[v, .int .i64 q] w fun e w' => e = .returned (.int .i64 c) ∧ w' = w := by
  have HP := Lib.hid h; clear h
  rcases hc with rfl | rfl
  all_goals
    go_enter Try.func16, Try.ntmps16
    go_wp2_with fail
    refine HP.out.mono ?_
    rintro e w' ⟨rfl, hw⟩
    subst w'
    go_wp2
    go_ret
    exact ⟨rfl, rfl⟩

set_option maxHeartbeats 800000 in
theorem pwrite_code (v : Value) (q a c : Int) (s : ByteArray) (w : World) (hc : c = 1 ∨ c = 3) (h : Calls Try.prog 33 #[v, .int .i64 q] w fun e w' => e = .returned (.tuple #[.pointer none, .int .i64 c]) ∧ w' = w) :
    Calls Try.prog 17 #[v, .int .i64 q, .int .i64 a, .string s] w fun e w' => e = .returned (.int .i64 c) ∧ w' = w := by
  have HP := Lib.hid h; clear h
  rcases hc with rfl | rfl
  all_goals
    go_enter Try.func17, Try.ntmps17
    go_wp2_with fail
    refine HP.out.mono ?_
    rintro e w' ⟨rfl, hw⟩
    subst w'
    go_wp2
    go_ret
    exact ⟨rfl, rfl⟩

set_option maxHeartbeats 800000 in
theorem pwrite_no (p d fb mb n hand m i : Nat) (fr : Nat → Option Fr) (f : Fr) (a : Int) (s : ByteArray) (w : World) (h : PoolG p d fb mb n hand m fr w) (hi : fr i = some f) (hp : 0 < f.pins) (hs : s.size ≤ 9223372036854775807) (hn : ¬ (0 ≤ a ∧ a + s.size ≤ 512)) :
    Calls Try.prog 17 #[.pointer (some ⟨p, 0, none⟩), .int .i64 f.page, .int .i64 a, .string s] w fun e w' => e = .returned (.int .i64 1) ∧ w' = w := by
  have HP := Lib.hid (pinned_yes p d fb mb n hand m i fr f w h hi hp)
  unfold ptrFr at HP
  clear h hi hp
  by_cases h0 : a < 0
  · clear hn
    go_enter Try.func17, Try.ntmps17
    go_wp2_with fail
    refine HP.out.mono ?_
    rintro e w' ⟨rfl, hw⟩
    subst w'
    go_wp2
    go_ret
    exact ⟨rfl, rfl⟩
  · have h1 : (512 : Int) - s.size < a := by omega
    clear hn
    go_enter Try.func17, Try.ntmps17
    go_wp2_with fail
    refine HP.out.mono ?_
    rintro e w' ⟨rfl, hw⟩
    subst w'
    go_wp2
    go_ret
    exact ⟨rfl, rfl⟩
end Go.Proofs.Ytnmeobbbcccgjaa
