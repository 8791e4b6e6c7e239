/- One raw write that is no Trim, on both sides. -/
import Derived.Test.YtafokloeabjpgaaKN
set_option maxRecDepth 100000
namespace Go.Proofs.Ytafokloeabjpgaa
open Go.RowKit

set_option maxHeartbeats 4000000 in
theorem does_put (k f n : Int) (s : ByteArray) (S : Nat → Prop) (d : Nat) (ops : List RawOp) (v : Value) (F : Nat → List UInt8) (N : Nat) (w : World) (hD : DiskAt S d ops w) (hR : RefAt S w v F N) (hS : ∀ k, S k → k < w.heap.size) (hlen : ops.length ≤ 4398046511104) (hN : N ≤ 4611686018427387904) (hmax : ∀ i, (F i).length ≤ 4194304) (hz : s.size ≤ 9223372036854775807) (hk : ¬ k = 2) :
    Calls Try.prog 11 #[.pointer (some ⟨d, 0, none⟩), v, opv k f n s] w fun e w' => ∃ v' b, e = .returned (.tuple #[v', .bool b]) ∧ (code (step k f n s (play ops)) = code (step k f n s F) → b = true) ∧
      ∃ S', DiskAt S' d (ops ++ (step k f n s (play ops)).toList) w' ∧ RefAt S' w' v' (nextF F (step k f n s F)) (nextN N (step k f n s F)) ∧ (∀ i, S i → S' i) ∧ (∀ i, S' i → S i ∨ w.heap.size ≤ i) ∧ (∀ i, S' i → i < w'.heap.size) ∧ Kept S w w' := by
  obtain ⟨A, Ln, C, rfl, hB⟩ := hR
  have hst : ∀ G, step k f n s G = putStep f n s := fun G => if_neg hk
  simp only [hst]
  clear hst
  have hX : Below w.heap.size w (((w.alloc (.cells #[Value.slice (A 0) (Ln 0) (C 0), .slice (A 1) (Ln 1) (C 1), .slice (A 2) (Ln 2) (C 2), .slice (A 3) (Ln 3) (C 3), .int .i64 N] 28)).alloc (.cells #[.int .i64 k, .int .i64 f, .int .i64 n, .string s] 31)).alloc (.cells #[.slice none 0 0, .slice none 0 0, .slice none 0 0, .slice none 0 0, .int .i64 0] 28)) := (((Below.refl _ w).alloc (Nat.le_refl _) _).alloc (by simp) _).alloc (by simp; omega) _
  have HT := Lib.hid (rwrite_any S (rv A Ln C N) F N f n s _ (RefAt.below ⟨A, Ln, C, rfl, hB⟩ hX) (fun k hk => Nat.lt_of_lt_of_le (hS k hk) hX.size) hN hmax hz)
  have HD := Lib.hid hD; clear hD
  have HM := Lib.hid hmax; clear hmax
  have HS := Lib.hid hS; clear hS
  have HX := Lib.hid hX; clear hX
  clear hB
  go_enter Try.func11, Try.ntmps11
  go_wp2_with (go_at_call 17; refine HT.out.mono ?_)
  rintro e w2 ⟨v', rfl, ⟨A2, Ln2, C2, rfl, hB2⟩, hb2⟩
  obtain ⟨N2, hN2⟩ : ∃ N2, N2 = nextN N (putStep f n s) := ⟨_, rfl⟩
  rw [← hN2]
  obtain ⟨cr, hcr⟩ : ∃ cr, cr = code (putStep f n s) := ⟨_, rfl⟩
  rw [← hcr]
  have hsz2 : w.heap.size + 3 ≤ w2.heap.size := by have := hb2.size; simp at this; omega
  have hwb : Below w.heap.size w w2 := HX.out.trans (hb2.mono HX.out.size)
  have k31 : w2.heap[w.heap.size + 1]? = some (.cells #[.int .i64 k, .int .i64 f, .int .i64 n, .string s] 31) := by
    rw [hb2.block (w.heap.size + 1) (by simp), Below.heap_alloc _ _ _ (by simp)]
    have := heap_alloc_new (w.alloc (.cells #[Value.slice (A 0) (Ln 0) (C 0), .slice (A 1) (Ln 1) (C 1), .slice (A 2) (Ln 2) (C 2), .slice (A 3) (Ln 3) (C 3), .int .i64 N] 28)) (.cells #[.int .i64 k, .int .i64 f, .int .i64 n, .string s] 31)
    simpa using this
  have k28 : w2.heap[w.heap.size + 1 + 1]? = some (.cells #[.slice none 0 0, .slice none 0 0, .slice none 0 0, .slice none 0 0, .int .i64 0] 28) := by
    rw [hb2.block (w.heap.size + 1 + 1) (by simp)]
    have := heap_alloc_new ((w.alloc (.cells #[Value.slice (A 0) (Ln 0) (C 0), .slice (A 1) (Ln 1) (C 1), .slice (A 2) (Ln 2) (C 2), .slice (A 3) (Ln 3) (C 3), .int .i64 N] 28)).alloc (.cells #[.int .i64 k, .int .i64 f, .int .i64 n, .string s] 31)) (.cells #[.slice none 0 0, .slice none 0 0, .slice none 0 0, .slice none 0 0, .int .i64 0] 28)
    simpa using this
  have hY : Below w2.heap.size w2 (w2.alloc (.cells #[Value.slice (A2 0) (Ln2 0) (C2 0), .slice (A2 1) (Ln2 1) (C2 1), .slice (A2 2) (Ln2 2) (C2 2), .slice (A2 3) (Ln2 3) (C2 3), .int .i64 N2] 28)).drew := ((Below.refl _ w2).alloc (Nat.le_refl _) _).drew
  have hsY : (w2.alloc (.cells #[Value.slice (A2 0) (Ln2 0) (C2 0), .slice (A2 1) (Ln2 1) (C2 1), .slice (A2 2) (Ln2 2) (C2 2), .slice (A2 3) (Ln2 3) (C2 3), .int .i64 N2] 28)).drew.heap.size = w2.heap.size + 1 := by show (w2.heap.push _).size = _; simp
  have hwY : Below w.heap.size w (w2.alloc (.cells #[Value.slice (A2 0) (Ln2 0) (C2 0), .slice (A2 1) (Ln2 1) (C2 1), .slice (A2 2) (Ln2 2) (C2 2), .slice (A2 3) (Ln2 3) (C2 3), .int .i64 N2] 28)).drew := hwb.trans (hY.mono (by omega))
  have hDY : DiskAt S d ops (w2.alloc (.cells #[Value.slice (A2 0) (Ln2 0) (C2 0), .slice (A2 1) (Ln2 1) (C2 1), .slice (A2 2) (Ln2 2) (C2 2), .slice (A2 3) (Ln2 3) (C2 3), .int .i64 N2] 28)).drew := HD.out.below hwY
  have hT2 : Calls Try.prog 16 #[.pointer (some ⟨d, 0, none⟩), .int .i64 f, .int .i64 n, .string s] (w2.alloc (.cells #[Value.slice (A2 0) (Ln2 0) (C2 0), .slice (A2 1) (Ln2 1) (C2 1), .slice (A2 2) (Ln2 2) (C2 2), .slice (A2 3) (Ln2 3) (C2 3), .int .i64 N2] 28)).drew fun e w' => e = .returned (.int .i64 (code (putStep f n s))) ∧ Hid (DiskAt (More S (w2.heap.size + 1)) d (ops ++ (putStep f n s).toList) w' ∧ Kept S w w' ∧ Kept S w2 w' ∧ w2.heap.size + 1 ≤ w'.heap.size) ∧ Hid (w'.heap[w.heap.size + 1 + 1]? = some (.cells #[.slice none 0 0, .slice none 0 0, .slice none 0 0, .slice none 0 0, .int .i64 0] 28)) ∧ Hid (w'.heap[w2.heap.size]? = some (.cells #[Value.slice (A2 0) (Ln2 0) (C2 0), .slice (A2 1) (Ln2 1) (C2 1), .slice (A2 2) (Ln2 2) (C2 2), .slice (A2 3) (Ln2 3) (C2 3), .int .i64 N2] 28)) := by
    refine (write_any f n s S d ops _ hDY hlen hz).mono ?_
    rintro e w' ⟨rfl, h1, h2⟩
    rw [hsY] at h1
    have hk2 : Kept S w2 w' := (Kept.ofBelow hY).trans h2 (fun _ hi => .inl hi)
    have hs2 := h2.size
    rw [hsY] at hs2
    refine ⟨rfl, Lib.hid ⟨h1, (Kept.ofBelow hwY).trans h2 (fun _ hi => .inl hi), hk2, hs2⟩, Lib.hid ?_, Lib.hid ?_⟩
    · rw [hk2.block (w.heap.size + 1 + 1) (by omega) (fun hs => by have := HS.out _ hs; omega)]
      exact k28
    · rw [h2.block w2.heap.size (by rw [hsY]; omega) (fun hs => by have := HS.out _ hs; omega)]
      exact heap_alloc_new w2 _
  obtain ⟨cd, hcd⟩ : ∃ cd, cd = code (putStep f n s) := ⟨_, rfl⟩
  rw [← hcd] at hT2
  have HT2 := Lib.hid hT2; clear hT2
  have q1 : w2.cell? ⟨w.heap.size + 1, 1, none⟩ = some (.int .i64 f) := by rw [Lib.cell_of_heap k31]; rfl
  have q2 : w2.cell? ⟨w.heap.size + 1, 2, none⟩ = some (.int .i64 n) := by rw [Lib.cell_of_heap k31]; rfl
  have q3 : w2.cell? ⟨w.heap.size + 1, 3, none⟩ = some (.string s) := by rw [Lib.cell_of_heap k31]; rfl
  have hlt1 : w.heap.size + 1 < w2.heap.size := by omega
  have HB2 := Lib.hid hB2; clear hB2
  have HN2 := Lib.hid hN2; clear hN2
  have HWB := Lib.hid hwb; clear hwb
  have HCR := Lib.hid hcr; clear hcr
  have HCD := Lib.hid hcd; clear hcd
  clear hb2 k31 k28 hY hsY hwY hDY
  go_wp2
  go_region_with (go_at_call 16; refine HT2.out.mono ?_; rintro e w5 ⟨rfl, H5, E6, E8⟩; have c60 : w5.cell? ⟨w.heap.size + 1 + 1, 0, none⟩ = some (.slice none 0 0) := (by rw [Lib.cell_of_heap E6.out]; rfl); have c61 : w5.cell? ⟨w.heap.size + 1 + 1, 1, none⟩ = some (.slice none 0 0) := (by rw [Lib.cell_of_heap E6.out]; rfl); have c62 : w5.cell? ⟨w.heap.size + 1 + 1, 2, none⟩ = some (.slice none 0 0) := (by rw [Lib.cell_of_heap E6.out]; rfl); have c63 : w5.cell? ⟨w.heap.size + 1 + 1, 3, none⟩ = some (.slice none 0 0) := (by rw [Lib.cell_of_heap E6.out]; rfl); have c64 : w5.cell? ⟨w.heap.size + 1 + 1, 4, none⟩ = some (.int .i64 0) := (by rw [Lib.cell_of_heap E6.out]; rfl); have f6 : ∀ i, w5.frozen? ⟨w.heap.size + 1 + 1, i, none⟩ = false := (fun i => Lib.frozen_of_heap E6.out i); have c80 : w5.cell? ⟨w2.heap.size, 0, none⟩ = some (.slice (A2 0) (Ln2 0) (C2 0)) := (by rw [Lib.cell_of_heap E8.out]; rfl); have c81 : w5.cell? ⟨w2.heap.size, 1, none⟩ = some (.slice (A2 1) (Ln2 1) (C2 1)) := (by rw [Lib.cell_of_heap E8.out]; rfl); have c82 : w5.cell? ⟨w2.heap.size, 2, none⟩ = some (.slice (A2 2) (Ln2 2) (C2 2)) := (by rw [Lib.cell_of_heap E8.out]; rfl); have c83 : w5.cell? ⟨w2.heap.size, 3, none⟩ = some (.slice (A2 3) (Ln2 3) (C2 3)) := (by rw [Lib.cell_of_heap E8.out]; rfl); have c84 : w5.cell? ⟨w2.heap.size, 4, none⟩ = some (.int .i64 N2) := (by rw [Lib.cell_of_heap E8.out]; rfl))
  all_goals
    go_wp2
    refine bodyPost_ret (v := .tuple #[rv A2 Ln2 C2 N2, .bool (cd == cr)]) (by simp [results, Try.results11, go_sem, c60, c61, c62, c63, c64]) rfl ⟨_, _, rfl, fun _ => by have e : cd = cr := HCD.out.trans HCR.out.symm; simp [e], ?_⟩
    exact does_end HS.out hsz2 ⟨A2, Ln2, C2, by rw [HN2.out], HB2.out⟩ H5.out E6.out _ _ _ _ _

theorem does_any (k f n : Int) (s : ByteArray) (S : Nat → Prop) (d : Nat) (ops : List RawOp) (v : Value) (F : Nat → List UInt8) (N : Nat) (w : World) (hD : DiskAt S d ops w) (hR : RefAt S w v F N) (hS : ∀ k, S k → k < w.heap.size) (hlen : ops.length ≤ 4398046511104) (hN : N ≤ 4611686018427387904) (hmax : ∀ i, (F i).length ≤ 4194304) (hz : s.size ≤ 9223372036854775807) :
    Calls Try.prog 11 #[.pointer (some ⟨d, 0, none⟩), v, opv k f n s] w fun e w' => ∃ v' b, e = .returned (.tuple #[v', .bool b]) ∧ (code (step k f n s (play ops)) = code (step k f n s F) → b = true) ∧
      ∃ S', DiskAt S' d (ops ++ (step k f n s (play ops)).toList) w' ∧ RefAt S' w' v' (nextF F (step k f n s F)) (nextN N (step k f n s F)) ∧ (∀ i, S i → S' i) ∧ (∀ i, S' i → S i ∨ w.heap.size ≤ i) ∧ (∀ i, S' i → i < w'.heap.size) ∧ Kept S w w' := by
  by_cases hk : k = 2
  · exact does_trim k f n s S d ops v F N w hD hR hS hlen hN hmax hz hk
  · exact does_put k f n s S d ops v F N w hD hR hS hlen hN hmax hz hk
end Go.Proofs.Ytafokloeabjpgaa
