/- Entries in hand: how they lie, their order; the contracts of strings.Compare, cmp.Compare, cmp.Or and compare. -/
import Derived.Test.YtnnmigglcpkomaaDA
import Derived.Lib.Bytealg
import Derived.Laws.Externs
import Derived.BigQuiet
import Derived.Deep.RegionHeld3
import Derived.StillTailTactics
set_option maxRecDepth 100000
namespace Go.Proofs.Ytnnmigglcpkomaa.Dm
open Go Go.RowKit

/-- An entry as it is held: its key's bytes, its address. -/
abbrev Hd := ByteArray × Int
def hdV (h : Hd) : Value := .agg #[.string h.1, .int .i64 h.2]
def cmpI (a b : Int) : Int := if a < b then -1 else if b < a then 1 else 0
/-- Below, at or above 0: a stands ahead of b, where b does, or behind it. -/
def cmpH (a b : Hd) : Int := if Lib.compareBytes a.1.data.toList b.1.data.toList = 0 then cmpI a.2 b.2 else Lib.compareBytes a.1.data.toList b.1.data.toList

set_option maxHeartbeats 400000 in
theorem cmpstr_any (a b : ByteArray) (w : World) :
    Calls Try.prog 85 #[.string a, .string b] w fun e w' => e = .returned (.int .i64 (Lib.compareBytes a.data.toList b.data.toList)) ∧ w' = w := by
  have hx : (callFunc 91 #[.string a, .string b]).run Try.prog w = .ok (.value (.int .i64 (Lib.compareBytes a.data.toList b.data.toList))) w := by
    rw [run_callFunc_extern Try.func91 (by kernel_rfl) (by kernel_rfl) (by kernel_rfl) (e := Extern.BytealgCompare.compare) (by kernel_rfl), Lib.run_compareString]
    rfl
  go_enter Try.func85, Try.ntmps85
  go_wp2_with (simp only [hx])
  go_ret
  exact ⟨rfl, rfl⟩

set_option maxHeartbeats 400000 in
theorem strcmp_any (a b : ByteArray) (w : World) :
    Calls Try.prog 75 #[.string a, .string b] w fun e w' => e = .returned (.int .i64 (Lib.compareBytes a.data.toList b.data.toList)) ∧ w' = w := by
  go_enter Try.func75, Try.ntmps75
  go_wp2_with (go_at_call 85; refine (cmpstr_any _ _ _).mono ?_; rintro e w' ⟨rfl, rfl⟩)
  go_ret
  exact ⟨rfl, rfl⟩

set_option maxHeartbeats 400000 in
theorem nan_any (x : Int) (w : World) : Calls Try.prog 86 #[.int .i64 x] w fun e w' => e = .returned (.bool false) ∧ w' = w := by
  go_enter Try.func86, Try.ntmps86
  go_wp2
  go_ret
  exact ⟨by simp, rfl⟩

set_option maxHeartbeats 400000 in
theorem cmpint_any (x y : Int) (w : World) : Calls Try.prog 76 #[.int .i64 x, .int .i64 y] w fun e w' => e = .returned (.int .i64 (cmpI x y)) ∧ w' = w := by
  go_enter Try.func76, Try.ntmps76
  go_wp2_with (go_at_call 86; refine (nan_any _ _).mono ?_; rintro e w' ⟨rfl, rfl⟩)
  all_goals (go_ret; refine ⟨?_, rfl⟩; unfold cmpI; (repeat' split) <;> first | rfl | (exfalso; omega))

set_option maxHeartbeats 800000 in
theorem or_two (b c : Nat) (x y : Int) (w : World) (h0 : w.cell? ⟨b, 0, none⟩ = some (.int .i64 x)) (h1 : w.cell? ⟨b, 1, none⟩ = some (.int .i64 y)) :
    Calls Try.prog 74 #[.slice (some ⟨b, 0, none⟩) 2 c] w fun e w' => e = .returned (.int .i64 (if x = 0 then y else x)) ∧ w' = w := by
  go_enter Try.func74, Try.ntmps74
  go_wp2
  go_loopw [8] (fun i wr => ∃ j : Nat, j ≤ 2 ∧ i = .int .i64 j ∧ wr = w ∧ (1 ≤ j → x = 0) ∧ (2 ≤ j → y = 0)) (fun i _ => 2 - (intOf i).toNat)
  case atStart => exact ⟨0, by omega, rfl, rfl, by omega, by omega⟩
  case round =>
    obtain ⟨j, hj, rfl, rfl, hx, hy⟩ := hrel
    have h3 : j = 0 ∨ j = 1 ∨ j = 2 := by omega
    rcases h3 with rfl | rfl | rfl
    · by_cases hx0 : x = 0
      · subst hx0
        go_wp2
        go_roundw
        case rel => exact ⟨1, by omega, rfl, by simp⟩
        case measure => simp [intOf]
      · have hb : (x != 0) = true := by simp [hx0]
        go_wp2
        go_ret
        exact ⟨by simp, rfl⟩
    · obtain rfl := hx (Nat.le_refl _)
      by_cases hy0 : y = 0
      · subst hy0
        go_wp2
        go_roundw
        case rel => exact ⟨2, by omega, rfl, by simp⟩
        case measure => simp [intOf]
      · have hb : (y != 0) = true := by simp [hy0]
        go_wp2
        go_ret
        exact ⟨by simp, rfl⟩
    · obtain rfl := hx (by omega)
      obtain rfl := hy (by omega)
      go_wp2
      go_ret
      exact ⟨by simp, rfl⟩

theorem top0 {w : World} {b : Nat} {x y : Value} {T : TypeId} (hb : b = w.heap.size) : (w.alloc (.cells #[x, y] T)).cell? ⟨b, 0, none⟩ = some x := by subst hb; simp
theorem top1 {w : World} {b : Nat} {x y : Value} {T : TypeId} (hb : b = w.heap.size) : (w.alloc (.cells #[x, y] T)).cell? ⟨b, 1, none⟩ = some y := by subst hb; simp

theorem top0d {w : World} {b : Nat} {x y : Value} {T : TypeId} (hb : b = w.heap.size) : ((w.alloc (.cells #[x, y] T)).drew).cell? ⟨b, 0, none⟩ = some x := top0 hb
theorem top1d {w : World} {b : Nat} {x y : Value} {T : TypeId} (hb : b = w.heap.size) : ((w.alloc (.cells #[x, y] T)).drew).cell? ⟨b, 1, none⟩ = some y := top1 hb

set_option maxHeartbeats 1600000 in
theorem compare_any (a b : Hd) (w : World) : Calls Try.prog 60 #[hdV a, hdV b] w fun e w' => e = .returned (.int .i64 (cmpH a b)) ∧ Below w.heap.size w w' := by
  obtain ⟨k, t⟩ := a
  obtain ⟨k', t'⟩ := b
  obtain ⟨R, hR⟩ : ∃ R, R = cmpH (k, t) (k', t') := ⟨_, rfl⟩
  obtain ⟨q, hq⟩ : ∃ q, q = Lib.compareBytes k.data.toList k'.data.toList := ⟨_, rfl⟩
  obtain ⟨u, hu⟩ : ∃ u, u = cmpI t t' := ⟨_, rfl⟩
  have HR : Hid (R = if q = 0 then u else q) := Lib.hid (by rw [hR, hq, hu]; rfl)
  have H3 : Hid (∀ W b c, W.cell? ⟨b, 0, none⟩ = some (.int .i64 q) → W.cell? ⟨b, 1, none⟩ = some (.int .i64 u) → Calls Try.prog 74 #[.slice (some ⟨b, 0, none⟩) 2 c] W fun e w' => e = .returned (.int .i64 R) ∧ w' = W) := Lib.hid (fun W b c h0 h1 => by rw [HR.out]; exact or_two b c q u W h0 h1)
  have H1 : Hid (∀ W, Calls Try.prog 75 #[.string k, .string k'] W fun e w' => e = .returned (.int .i64 q) ∧ w' = W) := Lib.hid (fun W => by rw [hq]; exact strcmp_any k k' W)
  have H2 : Hid (∀ W, Calls Try.prog 76 #[.int .i64 t, .int .i64 t'] W fun e w' => e = .returned (.int .i64 u) ∧ w' = W) := Lib.hid (fun W => by rw [hu]; exact cmpint_any t t' W)
  rw [← hR]
  clear hR hq hu HR
  unfold hdV
  simp only []
  go_enter Try.func60, Try.ntmps60
  go_wp2
  obtain ⟨W0, hW0⟩ : ∃ W0, W0 = (w.alloc (.cells #[.string k, .int .i64 t] 80)).alloc (.cells #[.string k', .int .i64 t'] 80) := ⟨_, rfl⟩
  have c0 : W0.cell? ⟨w.heap.size, 0, none⟩ = some (.string k) := by rw [hW0]; simp
  have c1 : W0.cell? ⟨w.heap.size, 1, none⟩ = some (.int .i64 t) := by rw [hW0]; simp
  have c2 : W0.cell? ⟨w.heap.size + 1, 0, none⟩ = some (.string k') := by rw [hW0]; simp
  have c3 : W0.cell? ⟨w.heap.size + 1, 1, none⟩ = some (.int .i64 t') := by rw [hW0]; simp
  have hB0 : Below w.heap.size w W0 := by rw [hW0]; exact ((Below.refl _ _).alloc (Nat.le_refl _) _).alloc (by simp) _
  rw [← hW0]
  clear hW0
  refine wp_region_still_tail 10 (by kernel_rfl) (by kernel_rfl) ?_
  simp only [List.take_succ_cons, List.take_zero, List.drop_succ_cons, List.drop_zero]
  repeat (first | still_call (H1.out _) | still_call (H2.out _) | still_step)
  try refine wpStill_nil ?_
  change wpList _ _ _ _ _ (World.drew _)
  go_wp2_with (go_at_call 74; refine (H3.out _ _ _ (top0d rfl) (top1d rfl)).mono ?_; rintro e w' ⟨rfl, rfl⟩)
  go_ret
  exact ⟨rfl, (hB0.alloc hB0.size _).drew⟩
end Go.Proofs.Ytnnmigglcpkomaa.Dm
