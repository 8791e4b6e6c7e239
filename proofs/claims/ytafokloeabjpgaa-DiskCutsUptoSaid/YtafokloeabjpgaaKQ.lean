/- A disk and the document's disk, held against each other. -/
import Derived.Test.YtafokloeabjpgaaKP
import Derived.Deep.QuietTactic
import Derived.BigQuiet
set_option maxRecDepth 100000
namespace Go.Proofs.Ytafokloeabjpgaa
open Go.RowKit

theorem DiskAt.drew {S : Nat → Prop} {d : Nat} {ops : List RawOp} {w : World} (h : DiskAt S d ops w) : DiskAt S d ops w.drew := h.kept (T := fun _ => False) ⟨rfl, rfl, rfl, Nat.le_refl _, fun _ _ _ => rfl⟩ (fun _ _ _ => id)

theorem DiskAt.drewN {S : Nat → Prop} {d : Nat} {ops : List RawOp} {w : World} (h : DiskAt S d ops w) (m : Nat) : DiskAt S d ops (w.drewN m) := h.kept (T := fun _ => False) ⟨rfl, rfl, rfl, Nat.le_refl _, fun _ _ _ => rfl⟩ (fun _ _ _ => id)

theorem below_drewN {B : Nat} {a w : World} (h : Below B a w) (m : Nat) : Below B a (w.drewN m) := ⟨h.os, h.tape, h.output, h.size, h.block⟩

set_option maxHeartbeats 4000000 in
theorem same_any (S : Nat → Prop) (d : Nat) (ops : List RawOp) (v : Value) (w : World) (hD : DiskAt S d ops w) (hR : RefAt S w v (play ops) ops.length) (hlen : ops.length ≤ 4398046511104) :
    Calls Try.prog 14 #[.pointer (some ⟨d, 0, none⟩), v] w fun e w' => e = .returned (.bool true) ∧ Below w.heap.size w w' := by
  obtain ⟨A, Ln, C, rfl, hB⟩ := hR
  obtain ⟨N, hN⟩ : ∃ N, N = ops.length := ⟨_, rfl⟩
  rw [← hN]
  have HN := Lib.hid hN; clear hN
  have HD := Lib.hid hD; clear hD
  have HB := Lib.hid hB; clear hB
  have hb1 : Below w.heap.size w (w.alloc (.cells #[Value.slice (A 0) (Ln 0) (C 0), .slice (A 1) (Ln 1) (C 1), .slice (A 2) (Ln 2) (C 2), .slice (A 3) (Ln 3) (C 3), .int .i64 N] 28)) := (Below.refl _ w).alloc (Nat.le_refl _) _
  have HB1 := Lib.hid hb1; clear hb1
  go_enter Try.func14, Try.ntmps14
  go_wp2
  go_loopw [5] (fun vi wr => ∃ j : Nat, j ≤ 4 ∧ vi = .int .i64 j ∧ Hid (Below (w.heap.size + 1) (w.alloc (.cells #[Value.slice (A 0) (Ln 0) (C 0), .slice (A 1) (Ln 1) (C 1), .slice (A 2) (Ln 2) (C 2), .slice (A 3) (Ln 3) (C 3), .int .i64 N] 28)) wr)) (fun vi _ => 4 - (intOf vi).toNat)
  case atStart => exact ⟨0, by omega, rfl, Lib.hid (Below.refl _ _)⟩
  case round =>
    obtain ⟨j, hj, rfl, HI⟩ := hrel
    have hwr : Below w.heap.size w wr := HB1.out.trans (HI.out.mono (by omega))
    have HWR := Lib.hid hwr; clear hwr
    have HDr := Lib.hid (HD.out.below HWR.out)
    have k0 : wr.heap[w.heap.size]? = some (.cells #[Value.slice (A 0) (Ln 0) (C 0), .slice (A 1) (Ln 1) (C 1), .slice (A 2) (Ln 2) (C 2), .slice (A 3) (Ln 3) (C 3), .int .i64 N] 28) := by
      rw [HI.out.block w.heap.size (by omega)]
      exact heap_alloc_new w _
    by_cases hlt : j < 4
    · obtain ⟨ao, ll, cap, hvs, hll, hcap, hao, hno⟩ := (HB.out j hlt).1.shape
      have hBr : Bytes wr (.slice ao ll cap) (play ops j) := by rw [← hvs]; exact (HB.out.below HWR.out j hlt).1
      have hc0 : wr.cell? ⟨w.heap.size, j, none⟩ = some (.slice ao ll cap) := by
        rw [Lib.cell_of_heap k0, rv_at A Ln C N j hlt, hvs]
      rw [hvs] at hao
      have hcv := fun m => convert_bytes (wr.drewN m) (.slice ao ll cap) (play ops j) hBr 0 ll (by omega) ao cap (fun h0 => by
        cases ao with
        | none => have := hno rfl; omega
        | some a =>
          obtain ⟨h1, h2, h3⟩ := hao a rfl
          refine ⟨_, h3, ?_⟩
          cases a with
          | mk b o sp => simp at h1 h2; subst h1 h2; rfl)
      obtain ⟨T, hT⟩ : ∃ T : ByteArray, (⟨((List.drop 0 (play ops j)).take ll).toArray⟩ : ByteArray) = T := ⟨_, rfl⟩
      rw [hT] at hcv
      have HT := Lib.hid hT; clear hT
      have HLL := Lib.hid hll; clear hll
      have HSZ : Hid (∀ m, Calls Try.prog 19 #[.pointer (some ⟨d, 0, none⟩), .int .i64 j] (wr.drewN m) fun e w' => e = .returned (.int .i64 ll) ∧ w' = wr.drewN m) := Lib.hid (fun m => by rw [HLL.out]; exact size_ok j S d ops _ (HDr.out.drewN m) hlt)
      have hj4 : (j : Int) < 4 := by omega
      clear hao hno hBr hvs hcap k0
      go_wp2_with (go_at_call 12; refine (read_ok j 0 ll S d ops _ HDr.out hlt (by rw [HLL.out]; omega)).mono ?_; rintro e w6 ⟨rfl, hw6⟩; subst w6; rw [HT.out])
      go_quiet (first | (go_at_call 19; refine Calls.quiet_of_same (HSZ.out _)))
      go_wp2
      exact ⟨⟨j + 1, by omega, by go_num, Lib.hid (below_drewN HI.out nq)⟩, by simp [intOf]; omega⟩
    · have hj4 : j = 4 := by omega
      subst hj4
      have c4 : wr.cell? ⟨w.heap.size, 4, none⟩ = some (.int .i64 N) := by rw [Lib.cell_of_heap k0]; rfl
      have HWS : Hid (∀ m, Calls Try.prog 18 #[.pointer (some ⟨d, 0, none⟩)] (wr.drewN m) fun e w' => e = .returned (.int .i64 N) ∧ w' = wr.drewN m) := Lib.hid (fun m => by rw [HN.out]; exact writes_ok S d ops _ (HDr.out.drewN m))
      have HSZ : Hid (∀ (f : Int), ¬ (0 ≤ f ∧ f < 4) → ∀ m, Calls Try.prog 19 #[.pointer (some ⟨d, 0, none⟩), .int .i64 f] (wr.drewN m) fun e w' => e = .returned (.int .i64 0) ∧ w' = wr.drewN m) := Lib.hid (fun f hf m => size_no f S d ops _ (HDr.out.drewN m) hf)
      go_wp2
      go_quiet (first | (go_at_call 19; refine Calls.quiet_of_same (HSZ.out _ (by decide) _)) | (go_at_call 18; refine Calls.quiet_of_same (HWS.out _)))
      go_wp2
      go_ret
      exact ⟨rfl, below_drewN HWR.out nq⟩
end Go.Proofs.Ytafokloeabjpgaa
