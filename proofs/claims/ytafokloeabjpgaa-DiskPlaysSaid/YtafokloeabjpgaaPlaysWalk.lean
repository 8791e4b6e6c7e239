/- The walk of DiskPlays. -/
import Derived.Test.YtafokloeabjpgaaKU
import Derived.Test.YtafokloeabjpgaaAgainWalk
set_option maxRecDepth 100000
namespace Go.Proofs.Ytafokloeabjpgaa
open Go.RowKit

set_option maxHeartbeats 8000000 in
theorem plays_walk (a : Option Addr) (xs : List It) (lc : Nat) (p q : Int) (w : World) (hSl : Sl w a xs) (hF : ∀ x ∈ xs, x.Fits) (hxl : xs.length ≤ 3518437208780) (hp : I64 p) (hq : I64 q) :
    Calls Try.prog 3 #[.slice a xs.length lc, .int .i64 p, .int .i64 q] w fun e w' => e = .returned (.bool true) ∧ Below w.heap.size w w' := by
  obtain ⟨B, hBe⟩ : ∃ B, B = w.heap.size := ⟨_, rfl⟩
  rw [← hBe]
  have hBle : B ≤ w.heap.size := by omega
  have HBE := Lib.hid hBe; clear hBe
  obtain ⟨ll, hll⟩ : ∃ ll, ll = xs.length := ⟨_, rfl⟩
  rw [← hll] at hxl ⊢
  have HL := Lib.hid hll; clear hll
  have HS := Lib.hid hSl; clear hSl
  have HF := Lib.hid hF; clear hF
  have HP := Lib.hid hp; clear hp
  have HQ := Lib.hid hq; clear hq
  go_enter Try.func3, Try.ntmps3
  go_wp2_with (go_at_call 8; refine (new_disk _).mono ?_)
  rw [← HBE.out]
  rintro e w1 ⟨rfl, hd1, hb1⟩
  obtain ⟨Q, hQe⟩ : ∃ Q, Q = w1.heap.size := ⟨_, rfl⟩
  have hQB : B ≤ Q := by rw [hQe]; exact Nat.le_trans hBle hb1.size
  have h0 : Two B w (w1.alloc (.cells #[.slice none 0 0, .slice none 0 0, .slice none 0 0, .slice none 0 0, .int .i64 0] 28)) B Q 0 (fun k => From B k ∧ k < w1.heap.size) [] (fun _ => none) (fun _ => 0) (fun _ => 0) := by
    have hal : Below w1.heap.size w1 (w1.alloc (.cells #[.slice none 0 0, .slice none 0 0, .slice none 0 0, .slice none 0 0, .int .i64 0] 28)) := (Below.refl _ _).alloc (Nat.le_refl _) _
    refine ⟨hd1.bound.below hal, fun _ _ => ⟨World.ownsRow_nil _ _ _ _, fun k hk => by simp [Value.ownBlock] at hk⟩, by rw [hQe]; exact heap_alloc_new w1 _, Nat.le_refl _, fun k hk => ⟨hk.1, by have := hk.2; simp; omega⟩, fun h => by have := h.2; omega, hQB, hb1.trans (hal.mono (by omega))⟩
  have H0 := Lib.hid h0; clear h0 hd1 hb1
  go_wp2
  rw [← hQe]
  clear hQe
  go_loopw [9] (fun vi wr => ∃ j : Nat, j ≤ ll ∧ vi = .int .i64 j ∧ ∃ S ops A Ln C, Hid (Two B w wr B Q j S ops A Ln C)) (fun vi _ => ll - (intOf vi).toNat)
  case atStart => exact ⟨0, Nat.zero_le _, rfl, _, _, _, _, _, H0⟩
  case round =>
    obtain ⟨j, hj, rfl, S, ops, A, Ln, C, HT⟩ := hrel
    have hbw' : Below w.heap.size w wr := by rw [← HBE.out]; exact HT.out.old
    have hsz : B ≤ wr.heap.size := Nat.le_trans hBle HT.out.old.size
    have hol : ops.length ≤ j := HT.out.len
    have hQw : Q < wr.heap.size := (Array.getElem?_eq_some_iff.1 HT.out.var).1
    by_cases hlt : j < ll
    · have hjx : j < xs.length := by rw [← HL.out]; exact hlt
      obtain ⟨b, off, rfl, c0, c1, c2, c3, hb0⟩ := sl_at HS.out hbw' hjx
      have hfit := HF.out _ (List.getElem_mem hjx)
      obtain ⟨x, hx⟩ : ∃ x, x = xs[j]'hjx := ⟨_, rfl⟩
      rw [← hx] at c0 c1 c2 c3 hfit
      have HX := Lib.hid hx; clear hx
      have HFIT := Lib.hid hfit; clear hfit
      obtain ⟨sb, hsb⟩ : ∃ sb, smallB x.n x.s = sb := ⟨_, rfl⟩
      go_wp2_with (go_at_call 9; refine (small_any x.k x.f x.n x.s _).mono ?_)
      rw [hsb]
      rintro e w2 ⟨rfl, hb2⟩
      have HT2 := Lib.hid (HT.out.below hb2 hsz)
      have hsz2 : B ≤ w2.heap.size := Nat.le_trans hsz hb2.size
      have hle2 := hb2.size
      cases sb
      · go_wp2_with (go_at_call 10; refine (awake_any _).mono ?_; rintro e w3 ⟨rfl, hb3⟩)
        go_ret
        exact ⟨rfl, HT2.out.old.trans (hb3.mono hsz2)⟩
      · have hbr : b < wr.heap.size := by have := hbw'.size; omega
        have d0 : w2.cell? ⟨b, off + j * 4, none⟩ = some (.int .i64 x.k) := (hb2.cell hbr).trans c0
        have d1 : w2.cell? ⟨b, off + j * 4 + 1, none⟩ = some (.int .i64 x.f) := (hb2.cell hbr).trans c1
        have d2 : w2.cell? ⟨b, off + j * 4 + 2, none⟩ = some (.int .i64 x.n) := (hb2.cell hbr).trans c2
        have d3 : w2.cell? ⟨b, off + j * 4 + 3, none⟩ = some (.string x.s) := (hb2.cell hbr).trans c3
        have q0 : w2.cell? ⟨Q, 0, none⟩ = some (.slice (A 0) (Ln 0) (C 0)) := by rw [Lib.cell_of_heap HT2.out.var]; rfl
        have q1 : w2.cell? ⟨Q, 1, none⟩ = some (.slice (A 1) (Ln 1) (C 1)) := by rw [Lib.cell_of_heap HT2.out.var]; rfl
        have q2 : w2.cell? ⟨Q, 2, none⟩ = some (.slice (A 2) (Ln 2) (C 2)) := by rw [Lib.cell_of_heap HT2.out.var]; rfl
        have q3 : w2.cell? ⟨Q, 3, none⟩ = some (.slice (A 3) (Ln 3) (C 3)) := by rw [Lib.cell_of_heap HT2.out.var]; rfl
        have q4 : w2.cell? ⟨Q, 4, none⟩ = some (.int .i64 ops.length) := by rw [Lib.cell_of_heap HT2.out.var]; rfl
        have hlen : ops.length ≤ 4398046511104 := by omega
        have hml : j ≤ 4398046511104 := by omega
        have HDO : Hid (∀ W, Below w2.heap.size w2 W → Calls Try.prog 11 #[.pointer (some ⟨B, 0, none⟩), rv A Ln C ops.length, opv x.k x.f x.n x.s] W (DPost B w w2 W B Q (j + 1) S ops (step x.k x.f x.n x.s (play ops)))) := Lib.hid (fun W hW => does_post x.k x.f x.n x.s HT2.out hsz2 hml HFIT.out.2.2.2 hW)
        have HBa : Hid (Below w2.heap.size w2 w2.drew) := Lib.hid (Below.refl _ _).drew
        have HBb : Hid (Below w2.heap.size w2 (w2.drew.alloc (.cells #[.slice none 0 0, .slice none 0 0, .slice none 0 0, .slice none 0 0, .int .i64 0] 28))) := Lib.hid (((Below.refl _ _).drew).alloc (Nat.le_refl _) _)
        have HBc : Hid (Below w2.heap.size w2 (w2.alloc (.cells #[.slice none 0 0, .slice none 0 0, .slice none 0 0, .slice none 0 0, .int .i64 0] 28)).drew) := Lib.hid (((Below.refl _ _).alloc (Nat.le_refl _) _).drew)
        have hjll : (j : Int) < ll := by omega
        have hQ2 : Q < w2.heap.size := by omega
        have hb2w : b < w2.heap.size := by omega
        obtain ⟨nl, hnl⟩ : ∃ nl, nl = ops.length := ⟨_, rfl⟩
        rw [← hnl] at HDO q4
        have HNL := Lib.hid hnl; clear hnl
        clear hb2 c0 c1 c2 c3 hlen
        go_upto_region 10 with fail
        go_cut [10, 11] (fun tx ty wx => ∃ b10 A' Ln' C' ops' S', tx = .pointer (some ⟨b10, 0, none⟩) ∧ ty = .bool true ∧ Hid (After B w w2 B Q (j + 1) S ops (step x.k x.f x.n x.s (play ops)) wx S' ops' A' Ln' C' ∧ wx.heap[b10]? = some (.cells (ra A' Ln' C' ops'.length) 28 (0, 0)) ∧ b10 ≠ Q))
        case first =>
          go_region_with (first | (go_at_call 11; refine (HDO.out _ HBc.out).mono ?_; rintro e w3 ⟨S', ops', A', Ln', C', rfl, HA, HE⟩; have k6 : w3.heap[w2.heap.size]? = some (.cells #[.slice none 0 0, .slice none 0 0, .slice none 0 0, .slice none 0 0, .int .i64 0] 28) := HE.out _ (heap_alloc_new w2 _); have c60 : w3.cell? ⟨w2.heap.size, 0, none⟩ = some (.slice none 0 0) := (by rw [Lib.cell_of_heap k6]; rfl); have c61 : w3.cell? ⟨w2.heap.size, 1, none⟩ = some (.slice none 0 0) := (by rw [Lib.cell_of_heap k6]; rfl); have c62 : w3.cell? ⟨w2.heap.size, 2, none⟩ = some (.slice none 0 0) := (by rw [Lib.cell_of_heap k6]; rfl); have c63 : w3.cell? ⟨w2.heap.size, 3, none⟩ = some (.slice none 0 0) := (by rw [Lib.cell_of_heap k6]; rfl); have c64 : w3.cell? ⟨w2.heap.size, 4, none⟩ = some (.int .i64 0) := (by rw [Lib.cell_of_heap k6]; rfl); have f6 : ∀ i, w3.frozen? ⟨w2.heap.size, i, none⟩ = false := (fun i => Lib.frozen_of_heap k6 i); have K6 := Lib.hid k6; clear k6) | (go_at_call 11; refine (HDO.out _ HBa.out).mono ?_; rintro e w3 ⟨S', ops', A', Ln', C', rfl, HA, HE⟩))
          all_goals go_wp2_with fail
          all_goals go_meet
          all_goals have hw3 := HA.out.2.1
          all_goals first
            | (have hk6 := K6.out; have hm := meet2 HA.out.1 hsz2 (HA.out.2.2 (by show w2.heap.size < (w2.heap.push _).size; simp)) hQ2 hk6; exact ⟨_, _, _, _, _, _, rfl, rfl, Lib.hid ⟨hm.1, hm.2, by omega⟩⟩)
            | (have hm := meet1 HA.out.1 (by omega) (by omega); exact ⟨_, _, _, _, _, _, rfl, rfl, Lib.hid ⟨hm.1, hm.2, by omega⟩⟩)
        case rest =>
          obtain ⟨b10, A', Ln', C', ops', S', rfl, rfl, HA⟩ := hcut
          obtain ⟨hA, hv10, hbQ⟩ := HA.out
          have hvQ : wc.heap[Q]? = some (.cells (ra A Ln C ops.length) 28 (0, 0)) := by rw [hA.var]; exact HT2.out.var
          have hTw := two_step hA.disk hA.ref hA.bound hA.apart hQB hvQ hA.old hA.len
          have HTW := Lib.hid hTw; clear hTw
          have e0 : wc.cell? ⟨b10, 0, none⟩ = some (.slice (A' 0) (Ln' 0) (C' 0)) := by rw [Lib.cell_of_heap hv10]; rfl
          have e1 : wc.cell? ⟨b10, 1, none⟩ = some (.slice (A' 1) (Ln' 1) (C' 1)) := by rw [Lib.cell_of_heap hv10]; rfl
          have e2 : wc.cell? ⟨b10, 2, none⟩ = some (.slice (A' 2) (Ln' 2) (C' 2)) := by rw [Lib.cell_of_heap hv10]; rfl
          have e3 : wc.cell? ⟨b10, 3, none⟩ = some (.slice (A' 3) (Ln' 3) (C' 3)) := by rw [Lib.cell_of_heap hv10]; rfl
          have e4 : wc.cell? ⟨b10, 4, none⟩ = some (.int .i64 ops'.length) := by rw [Lib.cell_of_heap hv10]; rfl
          have g0 : wc.cell? ⟨Q, 0, none⟩ = some (.slice (A 0) (Ln 0) (C 0)) := by rw [Lib.cell_of_heap hvQ]; rfl
          have g1 : wc.cell? ⟨Q, 1, none⟩ = some (.slice (A 1) (Ln 1) (C 1)) := by rw [Lib.cell_of_heap hvQ]; rfl
          have g2 : wc.cell? ⟨Q, 2, none⟩ = some (.slice (A 2) (Ln 2) (C 2)) := by rw [Lib.cell_of_heap hvQ]; rfl
          have g3 : wc.cell? ⟨Q, 3, none⟩ = some (.slice (A 3) (Ln 3) (C 3)) := by rw [Lib.cell_of_heap hvQ]; rfl
          have g4 : wc.cell? ⟨Q, 4, none⟩ = some (.int .i64 ops.length) := by rw [Lib.cell_of_heap hvQ]; rfl
          have fQ : ∀ i, wc.frozen? ⟨Q, i, none⟩ = false := fun i => Lib.frozen_of_heap hvQ i
          clear hA hv10 hvQ
          clear q0 q1 q2 q3 q4 d0 d1 d2 d3
          go_wp2
          go_roundw
          case rel => exact ⟨j + 1, by omega, by go_num, _, _, _, _, _, Lib.hid HTW.out⟩
          case measure => simp [intOf]; omega
    · obtain ⟨T, hT⟩ : ∃ T, readS 1 p q (play ops) = T := ⟨_, rfl⟩
      obtain ⟨E, hE⟩ : ∃ E, readE 1 p q (play ops) = E := ⟨_, rfl⟩
      have q0 : wr.cell? ⟨Q, 0, none⟩ = some (.slice (A 0) (Ln 0) (C 0)) := by rw [Lib.cell_of_heap HT.out.var]; rfl
      have q1 : wr.cell? ⟨Q, 1, none⟩ = some (.slice (A 1) (Ln 1) (C 1)) := by rw [Lib.cell_of_heap HT.out.var]; rfl
      have q2 : wr.cell? ⟨Q, 2, none⟩ = some (.slice (A 2) (Ln 2) (C 2)) := by rw [Lib.cell_of_heap HT.out.var]; rfl
      have q3 : wr.cell? ⟨Q, 3, none⟩ = some (.slice (A 3) (Ln 3) (C 3)) := by rw [Lib.cell_of_heap HT.out.var]; rfl
      have q4 : wr.cell? ⟨Q, 4, none⟩ = some (.int .i64 ops.length) := by rw [Lib.cell_of_heap HT.out.var]; rfl
      have hrd := read_any 1 p q S B ops wr HT.out.disk HQ.out.2
      have hrr := rread_any 1 p q S (rv A Ln C ops.length) (play ops) ops.length wr ⟨A, Ln, C, rfl, HT.out.ref⟩ HQ.out.2 HP.out.2 (play_length HT.out.disk.1)
      rw [hT, hE] at hrd hrr
      have HRD := Lib.hid hrd; clear hrd
      have HRR := Lib.hid hrr; clear hrr
      have HTT := Lib.hid hT; clear hT
      have HEE := Lib.hid hE; clear hE
      go_wp2_with (first
        | (go_at_call 12; refine HRD.out.mono ?_; rintro e w6 ⟨rfl, hw6⟩; subst w6)
        | (go_at_call 13; refine HRR.out.mono ?_))
      rintro e w4 ⟨rfl, hb4⟩
      have HT4 := Lib.hid (HT.out.below hb4 hsz)
      have hsz4 : B ≤ w4.heap.size := Nat.le_trans hsz hb4.size
      have r0 : w4.cell? ⟨Q, 0, none⟩ = some (.slice (A 0) (Ln 0) (C 0)) := (hb4.cell hQw).trans q0
      have r1 : w4.cell? ⟨Q, 1, none⟩ = some (.slice (A 1) (Ln 1) (C 1)) := (hb4.cell hQw).trans q1
      have r2 : w4.cell? ⟨Q, 2, none⟩ = some (.slice (A 2) (Ln 2) (C 2)) := (hb4.cell hQw).trans q2
      have r3 : w4.cell? ⟨Q, 3, none⟩ = some (.slice (A 3) (Ln 3) (C 3)) := (hb4.cell hQw).trans q3
      have r4 : w4.cell? ⟨Q, 4, none⟩ = some (.int .i64 ops.length) := (hb4.cell hQw).trans q4
      have hsm := same_any S B ops (rv A Ln C ops.length) w4 HT4.out.disk ⟨A, Ln, C, rfl, HT4.out.ref⟩ (by omega)
      have HSM := Lib.hid hsm; clear hsm
      clear hb4 q0 q1 q2 q3 q4
      go_wp2_with (go_at_call 14; refine HSM.out.mono ?_)
      rintro e w5 ⟨rfl, hb5⟩
      have hsz5 : B ≤ w5.heap.size := Nat.le_trans hsz4 hb5.size
      have HB5 := Lib.hid (HT4.out.old.trans (hb5.mono hsz4))
      clear hb5
      go_wp2_with (go_at_call 10; refine (awake_any _).mono ?_; rintro e w6 ⟨rfl, hb6⟩)
      go_ret
      exact ⟨rfl, HB5.out.trans (hb6.mono hsz5)⟩
end Go.Proofs.Ytafokloeabjpgaa
