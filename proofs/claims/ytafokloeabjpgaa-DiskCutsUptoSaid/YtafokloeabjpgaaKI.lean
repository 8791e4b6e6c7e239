/- awake is true. -/
import Derived.Test.YtafokloeabjpgaaKH
set_option maxRecDepth 100000
namespace Go.Proofs.Ytafokloeabjpgaa
open Go.RowKit

theorem DiskAt.back {B m d : Nat} {ops : List RawOp} {w : World} (h : DiskAt (More (From B) m) d ops w) (hB : B ≤ m) : DiskAt (From B) d ops w := h.mono (fun i hi => hi.elim id (fun h => by unfold From; omega))
theorem Kept.belowF {B : Nat} {w w' : World} (h : Kept (From B) w w') (hB : B ≤ w.heap.size) : Below B w w' := h.toBelow hB (fun _ hi => hi)

def abS : ByteArray := ⟨#[97, 98]⟩

theorem play_ab : play [.put 1 2 abS] 1 = [0, 0, 97, 98] := by rfl

theorem new_disk (w : World) :
    Calls Try.prog 8 #[] w fun e w' => e = .returned (.pointer (some ⟨w.heap.size, 0, none⟩)) ∧ DiskAt (From w.heap.size) w.heap.size [] w' ∧ Below w.heap.size w w' := by
  refine (new_any w).mono ?_
  rintro e w' ⟨rfl, rfl⟩
  exact ⟨rfl, ⟨okAll_nil, _, disk_new _ w (Nat.le_refl _)⟩, (Below.refl _ _).alloc (Nat.le_refl _) _⟩

theorem write_okF (f at' : Nat) (s : ByteArray) (B d : Nat) (ops : List RawOp) (w : World) (h : DiskAt (From B) d ops w) (hB : B ≤ w.heap.size) (hlen : ops.length ≤ 4398046511104) (hs : s.size ≤ 9223372036854775807) (hf : f < 4) (hat : at' + s.size ≤ 4194304) :
    Calls Try.prog 16 #[.pointer (some ⟨d, 0, none⟩), .int .i64 f, .int .i64 at', .string s] w fun e w' => e = .returned (.int .i64 0) ∧ DiskAt (From B) d (ops ++ [.put f at' s]) w' ∧ Below B w w' := by
  refine (write_ok f at' s (From B) d ops w h hlen hs hf hat).mono ?_
  rintro e w' ⟨rfl, h1, h2⟩
  exact ⟨rfl, h1.back hB, h2.belowF hB⟩

theorem trim_okF (f n : Nat) (B d : Nat) (ops : List RawOp) (w : World) (h : DiskAt (From B) d ops w) (hB : B ≤ w.heap.size) (hlen : ops.length ≤ 4398046511104) (hf : f < 4) (hn : n ≤ (play ops f).length) :
    Calls Try.prog 20 #[.pointer (some ⟨d, 0, none⟩), .int .i64 f, .int .i64 n] w fun e w' => e = .returned (.int .i64 0) ∧ DiskAt (From B) d (ops ++ [.trim f n]) w' ∧ Below B w w' := by
  refine (trim_ok f n (From B) d ops w h hlen hf hn).mono ?_
  rintro e w' ⟨rfl, h1, h2⟩
  exact ⟨rfl, h1.back hB, h2.belowF hB⟩

theorem cut_okF (n : Nat) (B d : Nat) (ops : List RawOp) (w : World) (h : DiskAt (From B) d ops w) (hB : B ≤ w.heap.size) (hlen : ops.length ≤ 4398046511104) (hn : n ≤ ops.length) :
    Calls Try.prog 15 #[.pointer (some ⟨d, 0, none⟩), .int .i64 n] w fun e w' => ∃ c, e = .returned (.tuple #[.pointer (some ⟨c, 0, none⟩), .int .i64 0]) ∧ DiskAt (From B) c (ops.take n) w' ∧ DiskAt (From B) d ops w' ∧ Below B w w' := by
  refine (cut_ok n (From B) d ops w h hlen hn).mono ?_
  rintro e w' ⟨rfl, h1, h2⟩
  exact ⟨_, rfl, h1.mono (fun i hi => Nat.le_trans hB hi), h.below h2, h2.mono hB⟩

set_option maxHeartbeats 2000000 in
theorem awake_any (w : World) :
    Calls Try.prog 10 #[] w fun e w' => e = .returned (.bool true) ∧ Below w.heap.size w w' := by
  obtain ⟨B, hBe⟩ : ∃ B, B = w.heap.size := ⟨_, rfl⟩
  rw [← hBe]
  have hBle : B ≤ w.heap.size := by omega
  have HBE := Lib.hid hBe; clear hBe
  have hL1 : (play [.put 1 2 abS] 1).length = 4 := rfl
  have hL2 : ((([RawOp.put 1 2 abS, .trim 1 3] : List RawOp).length : Nat) : Int) = 2 := rfl
  have hR : ((play [RawOp.put 1 2 abS, .trim 1 3] 1).drop 0).take 3 = [0, 0, 97] := rfl
  go_enter Try.func10, Try.ntmps10
  go_wp2_with (go_at_call 8; refine (new_disk _).mono ?_)
  rw [← HBE.out]
  rintro e w1 ⟨rfl, hd1, hb1⟩
  have hB1 : B ≤ w1.heap.size := Nat.le_trans hBle hb1.size
  have HD1 := Lib.hid hd1; clear hd1
  go_wp2_with (go_at_call 16; refine (write_okF 1 2 abS B B [] _ HD1.out hB1 (by simp) (by decide) (by decide) (by decide)).mono ?_)
  rintro e w2 ⟨rfl, hd2, hb2⟩
  have hB2 : B ≤ w2.heap.size := Nat.le_trans hB1 hb2.size
  have HD2 := Lib.hid (show DiskAt (From B) B [RawOp.put 1 2 abS] w2 from hd2); clear hd2
  go_wp2_with (go_at_call 20; refine (trim_okF 1 3 B B [.put 1 2 abS] _ HD2.out hB2 (by simp) (by decide) (by decide)).mono ?_)
  rintro e w3 ⟨rfl, hd3, hb3⟩
  have hB3 : B ≤ w3.heap.size := Nat.le_trans hB2 hb3.size
  have HD3 := Lib.hid (show DiskAt (From B) B [RawOp.put 1 2 abS, .trim 1 3] w3 from hd3); clear hd3
  go_wp2_with (go_at_call 15; refine (cut_okF 1 B B [.put 1 2 abS, .trim 1 3] _ HD3.out hB3 (by simp) (by decide)).mono ?_)
  rintro e w4 ⟨c, rfl, hd4, hd5, hb4⟩
  have hB4 : B ≤ w4.heap.size := Nat.le_trans hB3 hb4.size
  have HD4 := Lib.hid (show DiskAt (From B) c [RawOp.put 1 2 abS] w4 from hd4); clear hd4
  have HD5 := Lib.hid hd5; clear hd5
  go_wp2_with (go_at_call 12; refine (read_ok 1 0 3 (From B) B [.put 1 2 abS, .trim 1 3] _ HD5.out (by decide) (by decide)).mono ?_)
  rintro e w5 ⟨rfl, hw5⟩
  subst w5
  rw [hR]
  go_wp2_with (first
    | (go_at_call 19; refine (size_ok 1 (From B) c [.put 1 2 abS] _ HD4.out (by decide)).mono ?_; rintro e w6 ⟨rfl, hw6⟩; subst w6; rw [hL1])
    | (go_at_call 18; refine (writes_ok (From B) B [.put 1 2 abS, .trim 1 3] _ HD5.out).mono ?_; rintro e w6 ⟨rfl, hw6⟩; subst w6; rw [hL2]))
  go_ret
  exact ⟨rfl, ((hb1.trans hb2).trans hb3).trans hb4⟩

set_option maxHeartbeats 2000000 in
theorem nobody_walk (n : Int) (s : ByteArray) (w : World) :
    Calls Try.prog 6 #[.int .i64 n, .string s] w fun e w' => e = .returned (.bool true) ∧ Below w.heap.size w w' := by
  obtain ⟨n0, hn0⟩ : ∃ n0, n0 = w.heap.size := ⟨_, rfl⟩
  have HN0 := Lib.hid hn0
  go_enter Try.func6, Try.ntmps6
  go_wp2
  rw [← hn0]
  clear hn0
  go_loopw [6] (fun i wr => ∃ j : Nat, j ≤ 2 ∧ i = .int .i64 j ∧ Hid (Below n0 w wr) ∧ Hid (wr.cell? ⟨n0 + 1, 0, none⟩ = some (.pointer none) ∧ wr.cell? ⟨n0 + 1, 1, none⟩ = some (.pointer (some ⟨n0, 0, none⟩)) ∧ wr.cell? ⟨n0, 0, none⟩ = some (.pointer none))) (fun i _ => 2 - (intOf i).toNat)
  case atStart =>
    refine ⟨0, by omega, rfl, ?_, ?_⟩
    · rw [HN0.out]
      exact ((Below.refl _ w).alloc (Nat.le_refl _) _).alloc (by simp) _
    · rw [HN0.out]
      refine ⟨?_, ?_, ?_⟩ <;> simp [go_sem]
  case round =>
    obtain ⟨j, hj, rfl, HB, HC⟩ := hrel
    have hsz := HB.out.size
    by_cases h2 : j = 2
    · subst h2
      have HB2 := HB.out
      go_wp2_with (go_at_call 10; refine (awake_any _).mono ?_)
      rintro e w1 ⟨rfl, hb1⟩
      go_wp2
      go_ret
      refine ⟨rfl, ?_⟩
      rw [← HN0.out]
      exact HB2.trans (hb1.mono (by rw [HN0.out]; exact HB2.size))
    · obtain rfl | rfl : j = 0 ∨ j = 1 := by omega
      · have c0 := HC.out.1
        have HN := Lib.hid (noDisk_nil wr)
        go_wp2_with (first
          | (go_at_call 12; refine (read_nobody _ n n n _ HN.out).mono ?_; rintro e w6 ⟨rfl, hw6⟩; subst w6)
          | (go_at_call 15; refine (cut_nobody _ n _ HN.out).mono ?_; rintro e w6 ⟨rfl, hw6⟩; subst w6)
          | (go_at_call 16; refine (write_nobody _ n n s _ HN.out).mono ?_; rintro e w6 ⟨rfl, hw6⟩; subst w6)
          | (go_at_call 20; refine (trim_nobody _ n n _ HN.out).mono ?_; rintro e w6 ⟨rfl, hw6⟩; subst w6)
          | (go_at_call 19; refine (size_nobody _ n _ HN.out).mono ?_; rintro e w6 ⟨rfl, hw6⟩; subst w6)
          | (go_at_call 18; refine (writes_nobody _ _ HN.out).mono ?_; rintro e w6 ⟨rfl, hw6⟩; subst w6))
        go_roundw
        case rel => exact ⟨1, by omega, by go_num, HB, HC⟩
        case measure => simp [intOf]
      · have c0 := HC.out.2.1
        have HN := Lib.hid (noDisk_zero n0 wr HC.out.2.2)
        go_wp2_with (first
          | (go_at_call 12; refine (read_nobody _ n n n _ HN.out).mono ?_; rintro e w6 ⟨rfl, hw6⟩; subst w6)
          | (go_at_call 15; refine (cut_nobody _ n _ HN.out).mono ?_; rintro e w6 ⟨rfl, hw6⟩; subst w6)
          | (go_at_call 16; refine (write_nobody _ n n s _ HN.out).mono ?_; rintro e w6 ⟨rfl, hw6⟩; subst w6)
          | (go_at_call 20; refine (trim_nobody _ n n _ HN.out).mono ?_; rintro e w6 ⟨rfl, hw6⟩; subst w6)
          | (go_at_call 19; refine (size_nobody _ n _ HN.out).mono ?_; rintro e w6 ⟨rfl, hw6⟩; subst w6)
          | (go_at_call 18; refine (writes_nobody _ _ HN.out).mono ?_; rintro e w6 ⟨rfl, hw6⟩; subst w6))
        go_roundw
        case rel => exact ⟨2, by omega, by go_num, HB, HC⟩
        case measure => simp [intOf]
end Go.Proofs.Ytafokloeabjpgaa
