/- The walk of DiskCuts. -/
import Derived.Test.YtafokloeabjpgaaKV
import Derived.Test.YtafokloeabjpgaaAgainWalk
set_option maxRecDepth 100000
namespace Go.Proofs.Ytafokloeabjpgaa
open Go.RowKit

theorem refF_low {S S' : Nat → Prop} {w w' : World} {A : Nat → Option Addr} {Ln C : Nat → Nat} {F : Nat → List UInt8} (h : RefF S w A Ln C F) (hk : Kept (fun k => S k ∨ w.heap.size ≤ k) w w') (hS : ∀ k, S' k → w.heap.size ≤ k) : RefF S' w' A Ln C F :=
  fun i hi => ⟨ownsRow_of_block (h i hi).1 (fun k hkk => hk.block k (World.ownsRow.lt (h i hi).1 k hkk).2 (fun e => e.elim ((h i hi).2 k hkk) (by have := (World.ownsRow.lt (h i hi).1 k hkk).2; omega))), fun k hkk hs => by have := (World.ownsRow.lt (h i hi).1 k hkk).2; have := hS k hs; omega⟩

def otherS : ByteArray := ⟨#[111, 116, 104, 101, 114]⟩
def anotherS : ByteArray := ⟨#[97, 110, 111, 116, 104, 101, 114]⟩

theorem hist_cell {B : Nat} {w w' : World} {Q : Nat} {S : Nat → Prop} {ops : List RawOp} {g n1 c1 : Nat} {AA : Nat → Nat → Option Addr} {LL CC : Nat → Nat → Nat} (h : Hist B w Q S ops (.slice (some ⟨g, 0, none⟩) n1 c1) AA LL CC) (hg : w'.heap[g]? = w.heap[g]?) {i : Nat} (hi : i ≤ ops.length) {r : Nat} {v : Value} (hr : r < 5) (hv : (rc (AA i) (LL i) (CC i) i)[r]? = some v) : w'.cell? ⟨g, i * 5 + r, none⟩ = some v := by
  rw [World.cell?_of_block (w := w) hg]
  have := World.ownsRow.cells (w := w) h.row (g := g) rfl (i * 5 + r) v (by rw [times_at AA LL CC (ops.length + 1) i (by omega) r hr]; exact hv)
  have e1 : (⟨g, 0, none⟩ : Addr).add (i * 5 + r) = ⟨g, i * 5 + r, none⟩ := by simp only [Addr.add]; split <;> simp_all
  rw [e1] at this
  exact this

set_option maxHeartbeats 8000000 in
theorem cuts_walk (a : Option Addr) (xs : List It) (lc : Nat) (p : Int) (w : World) (hSl : Sl w a xs) (hF : ∀ x ∈ xs, x.Fits) (hxl : xs.length ≤ 1048576) (hp : I64 p) :
    Calls Try.prog 4 #[.slice a xs.length lc, .int .i64 p] w fun e w' => e = .returned (.bool true) ∧ Below w.heap.size w w' := by
  obtain ⟨B, hBe⟩ : ∃ B, B = w.heap.size := ⟨_, rfl⟩
  rw [← hBe]
  have hBle : B ≤ w.heap.size := by omega
  have HBE := Lib.hid hBe; clear hBe
  obtain ⟨ll, hll⟩ : ∃ ll, ll = xs.length := ⟨_, rfl⟩
  rw [← hll] at hxl ⊢
  have HL := Lib.hid hll; clear hll
  have HS := Lib.hid hSl; clear hSl
  have HF := Lib.hid hF; clear hF
  have HP := Lib.hid hp; clear hp
  go_enter Try.func4, Try.ntmps4
  go_wp2_with (go_at_call 8; refine (new_disk _).mono ?_)
  rw [← HBE.out]
  rintro e w1 ⟨rfl, hd1, hb1⟩
  obtain ⟨R0, hR0⟩ : ∃ R0, R0 = w1.heap.size := ⟨_, rfl⟩
  have hRB : B ≤ R0 := by rw [hR0]; exact Nat.le_trans hBle hb1.size
  have hal1 : Below w1.heap.size w1 (w1.alloc (.cells #[.slice none 0 0, .slice none 0 0, .slice none 0 0, .slice none 0 0, .int .i64 0] 28)) := (Below.refl _ _).alloc (Nat.le_refl _) _
  have hal : Below w1.heap.size w1 ((w1.alloc (.cells #[.slice none 0 0, .slice none 0 0, .slice none 0 0, .slice none 0 0, .int .i64 0] 28)).alloc (.cells #[.slice none 0 0, .slice none 0 0, .slice none 0 0, .slice none 0 0, .int .i64 0] 28)) := ((Below.refl _ _).alloc (Nat.le_refl _) _).alloc (by simp) _
  have hvq : ((w1.alloc (.cells #[.slice none 0 0, .slice none 0 0, .slice none 0 0, .slice none 0 0, .int .i64 0] 28)).alloc (.cells #[.slice none 0 0, .slice none 0 0, .slice none 0 0, .slice none 0 0, .int .i64 0] 28)).heap[R0 + 1]? = some (.cells #[.slice none 0 0, .slice none 0 0, .slice none 0 0, .slice none 0 0, .int .i64 0] 28) := by
    have := heap_alloc_new (w1.alloc (.cells #[.slice none 0 0, .slice none 0 0, .slice none 0 0, .slice none 0 0, .int .i64 0] 28)) (.cells #[.slice none 0 0, .slice none 0 0, .slice none 0 0, .slice none 0 0, .int .i64 0] 28)
    rw [hR0]
    simpa using this
  have hvr : ((w1.alloc (.cells #[.slice none 0 0, .slice none 0 0, .slice none 0 0, .slice none 0 0, .int .i64 0] 28)).alloc (.cells #[.slice none 0 0, .slice none 0 0, .slice none 0 0, .slice none 0 0, .int .i64 0] 28)).heap[R0]? = some (.cells #[.slice none 0 0, .slice none 0 0, .slice none 0 0, .slice none 0 0, .int .i64 0] 28) := by
    rw [Below.heap_alloc _ _ _ (by simp; omega), hR0]
    exact heap_alloc_new w1 _
  have h0 : Two B w ((w1.alloc (.cells #[.slice none 0 0, .slice none 0 0, .slice none 0 0, .slice none 0 0, .int .i64 0] 28)).alloc (.cells #[.slice none 0 0, .slice none 0 0, .slice none 0 0, .slice none 0 0, .int .i64 0] 28)) B (R0 + 1) 0 (fun k => From B k ∧ k < w1.heap.size) [] (fun _ => none) (fun _ => 0) (fun _ => 0) :=
    ⟨hd1.bound.below hal, fun _ _ => ⟨World.ownsRow_nil _ _ _ _, fun k hk => by simp [Value.ownBlock] at hk⟩, hvq, Nat.le_refl _, fun k hk => ⟨hk.1, by have := hk.2; simp; omega⟩, fun h => by have := h.2; omega, by omega, hb1.trans (hal.mono (by omega))⟩
  have h0h : Hist B ((w1.alloc (.cells #[.slice none 0 0, .slice none 0 0, .slice none 0 0, .slice none 0 0, .int .i64 0] 28)).alloc (.cells #[.slice none 0 0, .slice none 0 0, .slice none 0 0, .slice none 0 0, .int .i64 0] 28)) (R0 + 1) (fun k => From B k ∧ k < w1.heap.size) [] (.slice (some ⟨R0, 0, none⟩) 1 1) (fun _ _ => none) (fun _ _ => 0) (fun _ _ => 0) :=
    ⟨⟨by simp [times], .inr ⟨R0, 1, _, rfl, Nat.zero_le _, hvr, Nat.le_refl _, by unfold maxLen; omega, rfl, rfl⟩⟩, fun k _ i _ => ⟨by rw [show ([] : List RawOp).take k = [] by simp]; exact World.ownsRow_nil _ _ _ _, fun k hk => by simp [Value.ownBlock] at hk⟩, fun k hk => by
      simp [Value.ownBlock] at hk
      subst hk
      exact ⟨fun h => by have := h.2; omega, hRB, by omega⟩⟩
  have H0 := Lib.hid h0; clear h0
  have H0H := Lib.hid h0h; clear h0h
  clear hd1 hb1 hal hal1 hvq hvr
  go_wp2
  rw [← hR0]
  clear hR0
  obtain ⟨Q, hQe⟩ : ∃ Q, Q = R0 + 1 := ⟨_, rfl⟩
  rw [← hQe] at H0 H0H ⊢
  have hQB : B ≤ Q := by omega
  clear hQe
  go_loopw [6, 8] (fun va vi wr => ∃ j : Nat, j ≤ ll ∧ vi = .int .i64 j ∧ ∃ S ops A Ln C AA LL CC a1 n1 c1, va = .slice a1 n1 c1 ∧ n1 = ops.length + 1 ∧ Hid (Two B w wr B Q j S ops A Ln C) ∧ Hid (Hist B wr Q S ops (.slice a1 n1 c1) AA LL CC)) (fun _ vi _ => ll - (intOf vi).toNat)
  case atStart => exact ⟨0, Nat.zero_le _, rfl, _, _, _, _, _, _, _, _, _, _, _, rfl, rfl, H0, H0H⟩
  case round =>
    obtain ⟨j, hj, rfl, S, ops, A, Ln, C, AA, LL, CC, a1, n1, c1, rfl, hn1, HT, HH⟩ := hrel
    have HN1 := Lib.hid hn1; clear hn1
    have hbw' : Below w.heap.size w wr := by rw [← HBE.out]; exact HT.out.old
    have hsz : B ≤ wr.heap.size := Nat.le_trans hBle HT.out.old.size
    have hol : ops.length ≤ j := HT.out.len
    have hQw : Q < wr.heap.size := (Array.getElem?_eq_some_iff.1 HT.out.var).1
    by_cases hlt : j < ll
    · have hjx : j < xs.length := by rw [← HL.out]; exact hlt
      obtain ⟨b, off, rfl, cc0, cc1, cc2, cc3, hb0⟩ := sl_at HS.out hbw' hjx
      have hfit := HF.out _ (List.getElem_mem hjx)
      obtain ⟨x, hx⟩ : ∃ x, x = xs[j]'hjx := ⟨_, rfl⟩
      rw [← hx] at cc0 cc1 cc2 cc3 hfit
      have HX := Lib.hid hx; clear hx
      have HFIT := Lib.hid hfit; clear hfit
      obtain ⟨sb, hsb⟩ : ∃ sb, smallB x.n x.s = sb := ⟨_, rfl⟩
      go_wp2_with (go_at_call 9; refine (small_any x.k x.f x.n x.s _).mono ?_)
      rw [hsb]
      rintro e w2 ⟨rfl, hb2⟩
      have HT2 := Lib.hid (HT.out.below hb2 hsz)
      have HH2 := Lib.hid (HH.out.below hb2)
      have hsz2 : B ≤ w2.heap.size := Nat.le_trans hsz hb2.size
      have hle2 := hb2.size
      cases sb
      · go_wp2_with (go_at_call 10; refine (awake_any _).mono ?_; rintro e w3 ⟨rfl, hb3⟩)
        go_ret
        exact ⟨rfl, HT2.out.old.trans (hb3.mono hsz2)⟩
      · have hbr : b < wr.heap.size := by have := hbw'.size; omega
        have d0 : w2.cell? ⟨b, off + j * 4, none⟩ = some (.int .i64 x.k) := (hb2.cell hbr).trans cc0
        have d1 : w2.cell? ⟨b, off + j * 4 + 1, none⟩ = some (.int .i64 x.f) := (hb2.cell hbr).trans cc1
        have d2 : w2.cell? ⟨b, off + j * 4 + 2, none⟩ = some (.int .i64 x.n) := (hb2.cell hbr).trans cc2
        have d3 : w2.cell? ⟨b, off + j * 4 + 3, none⟩ = some (.string x.s) := (hb2.cell hbr).trans cc3
        have q0 : w2.cell? ⟨Q, 0, none⟩ = some (.slice (A 0) (Ln 0) (C 0)) := by rw [Lib.cell_of_heap HT2.out.var]; rfl
        have q1 : w2.cell? ⟨Q, 1, none⟩ = some (.slice (A 1) (Ln 1) (C 1)) := by rw [Lib.cell_of_heap HT2.out.var]; rfl
        have q2 : w2.cell? ⟨Q, 2, none⟩ = some (.slice (A 2) (Ln 2) (C 2)) := by rw [Lib.cell_of_heap HT2.out.var]; rfl
        have q3 : w2.cell? ⟨Q, 3, none⟩ = some (.slice (A 3) (Ln 3) (C 3)) := by rw [Lib.cell_of_heap HT2.out.var]; rfl
        have q4 : w2.cell? ⟨Q, 4, none⟩ = some (.int .i64 ops.length) := by rw [Lib.cell_of_heap HT2.out.var]; rfl
        have hlen : ops.length ≤ 4398046511104 := by omega
        have hml : j ≤ 4398046511104 := by omega
        have HDO : Hid (∀ W, Below w2.heap.size w2 W → Calls Try.prog 11 #[.pointer (some ⟨B, 0, none⟩), rv A Ln C ops.length, opv x.k x.f x.n x.s] W (DPost B w w2 W B Q (j + 1) S ops (step x.k x.f x.n x.s (play ops)))) := Lib.hid (fun W hW => does_post x.k x.f x.n x.s HT2.out hsz2 hml HFIT.out.2.2.2 hW)
        have HBa : Hid (Below w2.heap.size w2 w2.drew) := Lib.hid (Below.refl _ _).drew
        have HBb : Hid (Below w2.heap.size w2 (w2.drew.alloc (.cells #[.slice none 0 0, .slice none 0 0, .slice none 0 0, .slice none 0 0, .int .i64 0] 28))) := Lib.hid (((Below.refl _ _).drew).alloc (Nat.le_refl _) _)
        have HBc : Hid (Below w2.heap.size w2 (w2.alloc (.cells #[.slice none 0 0, .slice none 0 0, .slice none 0 0, .slice none 0 0, .int .i64 0] 28)).drew) := Lib.hid (((Below.refl _ _).alloc (Nat.le_refl _) _).drew)
        have hjll : (j : Int) < ll := by omega
        have hQ2 : Q < w2.heap.size := by omega
        have hb2w : b < w2.heap.size := by omega
        obtain ⟨nl, hnl⟩ : ∃ nl, nl = ops.length := ⟨_, rfl⟩
        rw [← hnl] at HDO q4
        have HNL := Lib.hid hnl; clear hnl
        clear hb2 cc0 cc1 cc2 cc3 hlen
        go_upto_region 11 with fail
        go_cut [9, 10] (fun tx ty wx => ∃ b10 A' Ln' C' ops' S', tx = .pointer (some ⟨b10, 0, none⟩) ∧ ty = .bool true ∧ Hid (After B w w2 B Q (j + 1) S ops (step x.k x.f x.n x.s (play ops)) wx S' ops' A' Ln' C' ∧ wx.heap[b10]? = some (.cells (ra A' Ln' C' ops'.length) 28 (0, 0)) ∧ b10 ≠ Q ∧ w2.heap.size ≤ b10))
        case first =>
          go_region_with (first | (go_at_call 11; refine (HDO.out _ HBc.out).mono ?_; rintro e w3 ⟨S', ops', A', Ln', C', rfl, HA, HE⟩; have k6 : w3.heap[w2.heap.size]? = some (.cells #[.slice none 0 0, .slice none 0 0, .slice none 0 0, .slice none 0 0, .int .i64 0] 28) := HE.out _ (heap_alloc_new w2 _); have c60 : w3.cell? ⟨w2.heap.size, 0, none⟩ = some (.slice none 0 0) := (by rw [Lib.cell_of_heap k6]; rfl); have c61 : w3.cell? ⟨w2.heap.size, 1, none⟩ = some (.slice none 0 0) := (by rw [Lib.cell_of_heap k6]; rfl); have c62 : w3.cell? ⟨w2.heap.size, 2, none⟩ = some (.slice none 0 0) := (by rw [Lib.cell_of_heap k6]; rfl); have c63 : w3.cell? ⟨w2.heap.size, 3, none⟩ = some (.slice none 0 0) := (by rw [Lib.cell_of_heap k6]; rfl); have c64 : w3.cell? ⟨w2.heap.size, 4, none⟩ = some (.int .i64 0) := (by rw [Lib.cell_of_heap k6]; rfl); have f6 : ∀ i, w3.frozen? ⟨w2.heap.size, i, none⟩ = false := (fun i => Lib.frozen_of_heap k6 i); have K6 := Lib.hid k6; clear k6) | (go_at_call 11; refine (HDO.out _ HBa.out).mono ?_; rintro e w3 ⟨S', ops', A', Ln', C', rfl, HA, HE⟩))
          all_goals go_wp2_with fail
          all_goals go_meet
          all_goals have hw3 := HA.out.2.1
          all_goals first
            | (have hk6 := K6.out; have hm := meet2 HA.out.1 hsz2 (HA.out.2.2 (by show w2.heap.size < (w2.heap.push _).size; simp)) hQ2 hk6; exact ⟨_, _, _, _, _, _, rfl, rfl, Lib.hid ⟨hm.1, hm.2, by omega, by omega⟩⟩)
            | (have hm := meet1 HA.out.1 (by omega) (by omega); exact ⟨_, _, _, _, _, _, rfl, rfl, Lib.hid ⟨hm.1, hm.2, by omega, by omega⟩⟩)
        case rest =>
          obtain ⟨b10, A', Ln', C', ops', S', rfl, rfl, HA⟩ := hcut
          obtain ⟨hA, hv10, hbQ, hb10⟩ := HA.out
          have hhc := HH2.out.kept hA.kept hA.less
          have hsw := hA.kept.size
          have hQc : Q < wc.heap.size := by omega
          have hBc : B ≤ wc.heap.size := by omega
          have hb10c : b10 < wc.heap.size := (Array.getElem?_eq_some_iff.1 hv10).1
          have hvQ : wc.heap[Q]? = some (.cells (ra A Ln C ops.length) 28 (0, 0)) := by rw [hA.var]; exact HT2.out.var
          have e0 : wc.cell? ⟨b10, 0, none⟩ = some (.slice (A' 0) (Ln' 0) (C' 0)) := by rw [Lib.cell_of_heap hv10]; rfl
          have e1 : wc.cell? ⟨b10, 1, none⟩ = some (.slice (A' 1) (Ln' 1) (C' 1)) := by rw [Lib.cell_of_heap hv10]; rfl
          have e2 : wc.cell? ⟨b10, 2, none⟩ = some (.slice (A' 2) (Ln' 2) (C' 2)) := by rw [Lib.cell_of_heap hv10]; rfl
          have e3 : wc.cell? ⟨b10, 3, none⟩ = some (.slice (A' 3) (Ln' 3) (C' 3)) := by rw [Lib.cell_of_heap hv10]; rfl
          have e4 : wc.cell? ⟨b10, 4, none⟩ = some (.int .i64 ops'.length) := by rw [Lib.cell_of_heap hv10]; rfl
          have g0 : wc.cell? ⟨Q, 0, none⟩ = some (.slice (A 0) (Ln 0) (C 0)) := by rw [Lib.cell_of_heap hvQ]; rfl
          have g1 : wc.cell? ⟨Q, 1, none⟩ = some (.slice (A 1) (Ln 1) (C 1)) := by rw [Lib.cell_of_heap hvQ]; rfl
          have g2 : wc.cell? ⟨Q, 2, none⟩ = some (.slice (A 2) (Ln 2) (C 2)) := by rw [Lib.cell_of_heap hvQ]; rfl
          have g3 : wc.cell? ⟨Q, 3, none⟩ = some (.slice (A 3) (Ln 3) (C 3)) := by rw [Lib.cell_of_heap hvQ]; rfl
          have g4 : wc.cell? ⟨Q, 4, none⟩ = some (.int .i64 ops.length) := by rw [Lib.cell_of_heap hvQ]; rfl
          have fQ : ∀ i, wc.frozen? ⟨Q, i, none⟩ = false := fun i => Lib.frozen_of_heap hvQ i
          clear q0 q1 q2 q3 q4 d0 d1 d2 d3
          cases ho : step x.k x.f x.n x.s (play ops) with
          | none =>
            have hops : ops' = ops := by have := hA.ops; rw [ho] at this; simpa using this
            subst hops
            have hTw := two_step hA.disk hA.ref hA.bound hA.apart hQB hvQ hA.old hA.len
            have HTW := Lib.hid hTw; clear hTw
            have HHS := Lib.hid (hhc.set5 ⟨_, hvQ⟩ (.slice (A' 0) (Ln' 0) (C' 0)) (.slice (A' 1) (Ln' 1) (C' 1)) (.slice (A' 2) (Ln' 2) (C' 2)) (.slice (A' 3) (Ln' 3) (C' 3)) (.int .i64 ops'.length))
            clear hA hv10 hvQ hhc ho
            go_wp2
            go_roundw
            case rel => exact ⟨j + 1, by omega, by go_num, _, _, _, _, _, _, _, _, _, _, _, rfl, HN1.out, Lib.hid HTW.out, Lib.hid HHS.out⟩
            case measure => simp [intOf]; omega
          | some o =>
            have hops : ops' = ops ++ [o] := by have := hA.ops; rw [ho] at this; simpa using this
            have hl' : ops'.length = ops.length + 1 := by rw [hops]; simp
            have hgt : (ops.length : Int) < (ops'.length : Int) := by omega
            have hl10 : ops'.length ≤ 1048577 := by have := hA.len; omega
            obtain ⟨i0, hi, hz0, hz1, hz2⟩ := info_parts info28
            have hal : Below wc.heap.size wc (wc.alloc (.cells (ra A' Ln' C' ops'.length) 28)) := (Below.refl _ _).alloc (Nat.le_refl _) _
            have hrow1 := (hhc.below hal).row
            have hnews : ∀ jj u, (rc A' Ln' C' ops'.length)[jj]? = some u → (wc.alloc (.cells (ra A' Ln' C' ops'.length) 28)).cell? ((⟨wc.heap.size, 0, none⟩ : Addr).add jj) = some u := by
              intro jj u hu
              have ea : (⟨wc.heap.size, 0, none⟩ : Addr).add jj = ⟨wc.heap.size, jj, none⟩ := by simp only [Addr.add]; split <;> simp_all
              rw [ea, Lib.cell_of_heap (heap_alloc_new wc _)]
              simpa using hu
            obtain ⟨va', w4, hr, hrow, hG⟩ := append_own2 (wc.alloc (.cells (ra A' Ln' C' ops'.length) 28)) 41 41 28 i0 _ 5 104 Try.underlying41 hi hz0 hz1 hz2 rfl (by decide) (.slice a1 n1 c1) (ops.length + 1) _ hrow1 ⟨wc.heap.size, 0, none⟩ 1 1 (rc A' Ln' C' ops'.length) rfl hnews (by intro u hu; simp at hu; rcases hu with rfl | rfl | rfl | rfl | rfl <;> rfl) (by unfold maxLen; omega) (by omega) (by omega) (by omega)
            rw [hl'] at hrow
            obtain ⟨a2, n2, c2, rfl, hn2⟩ : ∃ a2 n2 c2, va' = .slice a2 n2 c2 ∧ n2 = ops.length + 1 + 1 := by
              rcases hrow.2 with ⟨_, h0⟩ | ⟨g, cap, cur, hv, _⟩
              · omega
              · exact ⟨_, _, cap, hv, rfl⟩
            have hap := after_append hA hhc hG hQc hBc hb10c (fun e => by have := (HH2.out.row.lt b10 e).2; omega)
            have hHa := hist_append (hhc.below hal) hrow hG (by rw [← hops]; exact hA.ref.below hal) (fun k hk => by have := (hA.bound k hk).2; simp; omega) (by simp; omega) (by simp; omega)
            rw [← hops] at hHa
            obtain ⟨p1, p2, p3, p4, p5, p6⟩ := hap
            have hvQ4 : w4.heap[Q]? = some (.cells (ra A Ln C ops.length) 28 (0, 0)) := by rw [p5]; exact HT2.out.var
            have hv104 := p6.trans hv10
            have hTw := two_step p1 p2 p3 hA.apart hQB hvQ4 p4 hA.len
            have HTW := Lib.hid hTw; clear hTw
            have HHS := Lib.hid (hHa.set5 ⟨_, hvQ4⟩ (.slice (A' 0) (Ln' 0) (C' 0)) (.slice (A' 1) (Ln' 1) (C' 1)) (.slice (A' 2) (Ln' 2) (C' 2)) (.slice (A' 3) (Ln' 3) (C' 3)) (.int .i64 ops'.length))
            have i0' : w4.cell? ⟨b10, 0, none⟩ = some (.slice (A' 0) (Ln' 0) (C' 0)) := by rw [Lib.cell_of_heap hv104]; rfl
            have i1' : w4.cell? ⟨b10, 1, none⟩ = some (.slice (A' 1) (Ln' 1) (C' 1)) := by rw [Lib.cell_of_heap hv104]; rfl
            have i2' : w4.cell? ⟨b10, 2, none⟩ = some (.slice (A' 2) (Ln' 2) (C' 2)) := by rw [Lib.cell_of_heap hv104]; rfl
            have i3' : w4.cell? ⟨b10, 3, none⟩ = some (.slice (A' 3) (Ln' 3) (C' 3)) := by rw [Lib.cell_of_heap hv104]; rfl
            have i4' : w4.cell? ⟨b10, 4, none⟩ = some (.int .i64 ops'.length) := by rw [Lib.cell_of_heap hv104]; rfl
            have k0 : w4.cell? ⟨Q, 0, none⟩ = some (.slice (A 0) (Ln 0) (C 0)) := by rw [Lib.cell_of_heap hvQ4]; rfl
            have k1 : w4.cell? ⟨Q, 1, none⟩ = some (.slice (A 1) (Ln 1) (C 1)) := by rw [Lib.cell_of_heap hvQ4]; rfl
            have k2 : w4.cell? ⟨Q, 2, none⟩ = some (.slice (A 2) (Ln 2) (C 2)) := by rw [Lib.cell_of_heap hvQ4]; rfl
            have k3 : w4.cell? ⟨Q, 3, none⟩ = some (.slice (A 3) (Ln 3) (C 3)) := by rw [Lib.cell_of_heap hvQ4]; rfl
            have k4 : w4.cell? ⟨Q, 4, none⟩ = some (.int .i64 ops.length) := by rw [Lib.cell_of_heap hvQ4]; rfl
            have fQ4 : ∀ i, w4.frozen? ⟨Q, i, none⟩ = false := fun i => Lib.frozen_of_heap hvQ4 i
            have HN2 : Hid (n2 = ops'.length + 1) := Lib.hid (by omega)
            have HR := hr
            clear hA hv10 hvQ hhc ho hal hrow1 hnews hrow hG hHa p1 p2 p3 p4 p5 p6 hvQ4 hv104 hops hl' hn2 HR
            go_wp2_with (at_builtin; refine Lib.wpList_append_run _ rfl _ _ 41 41 rfl _ _ rfl rfl _ _ hr ?_)
            go_roundw
            case rel => exact ⟨j + 1, by omega, by go_num, _, _, _, _, _, _, _, _, _, _, _, rfl, HN2.out, Lib.hid HTW.out, Lib.hid HHS.out⟩
            case measure => simp [intOf]; omega
    · have q4 : wr.cell? ⟨Q, 4, none⟩ = some (.int .i64 ops.length) := by rw [Lib.cell_of_heap HT.out.var]; rfl
      by_cases hc : 0 ≤ p ∧ p ≤ ops.length
      · obtain ⟨i, rfl⟩ : ∃ i : Nat, p = (i : Int) := ⟨p.toNat, by omega⟩
        have hi : i ≤ ops.length := by omega
        have hng : ¬ ((ops.length : Int) < i) := by omega
        have hin : (i : Int) < n1 := by have := HN1.out; omega
        have hti : (ops.take i).length = i := by rw [List.length_take]; omega
        obtain ⟨g, rfl, hgw⟩ : ∃ g, a1 = some ⟨g, 0, none⟩ ∧ g < wr.heap.size := by
          rcases HH.out.row.2 with ⟨_, h0⟩ | ⟨g, cap, cur, hv, _, hg, _⟩
          · omega
          · injection hv with e1; exact ⟨g, e1, (Array.getElem?_eq_some_iff.1 hg).1⟩
        have hgS : ¬ S g := (HH.out.blk g rfl).1
        have HHI := Lib.hid hi; clear hi
        have HTI := Lib.hid hti; clear hti
        have hoL : ops.length ≤ 4398046511104 := by omega
        have HOL := Lib.hid hoL; clear hoL
        clear hc
        go_wp2_with (go_at_call 15; refine (cut_ok i S B ops _ HT.out.disk HOL.out HHI.out).mono ?_)
        obtain ⟨c, hce⟩ : ∃ c, c = wr.heap.size := ⟨_, rfl⟩
        rw [← hce]
        rintro e w4 rfl hd4 hb4
        have hb4' : Below wr.heap.size wr w4 := by rw [← hce]; exact hb4
        have hsz4 := hb4'.size
        have HC4 := Lib.hid hd4.bound; clear hd4
        have HD4 := Lib.hid (HT.out.disk.below hb4')
        have HB4 := Lib.hid (HT.out.old.trans (hb4'.mono hsz))
        have hK4 : Kept (fun k => S k ∨ wr.heap.size ≤ k) wr w4 := Kept.ofBelow hb4'
        have HK4 := Lib.hid hK4; clear hK4
        have q4' : w4.cell? ⟨Q, 4, none⟩ = some (.int .i64 ops.length) := (hb4'.cell hQw).trans q4
        have hg4 : w4.heap[g]? = wr.heap[g]? := hb4'.block g hgw
        have m0 : w4.cell? ⟨g, i * 5, none⟩ = some (.slice (AA i 0) (LL i 0) (CC i 0)) := hist_cell HH.out hg4 HHI.out (r := 0) (by omega) rfl
        have m1 : w4.cell? ⟨g, i * 5 + 1, none⟩ = some (.slice (AA i 1) (LL i 1) (CC i 1)) := hist_cell HH.out hg4 HHI.out (r := 1) (by omega) rfl
        have m2 : w4.cell? ⟨g, i * 5 + 2, none⟩ = some (.slice (AA i 2) (LL i 2) (CC i 2)) := hist_cell HH.out hg4 HHI.out (r := 2) (by omega) rfl
        have m3 : w4.cell? ⟨g, i * 5 + 3, none⟩ = some (.slice (AA i 3) (LL i 3) (CC i 3)) := hist_cell HH.out hg4 HHI.out (r := 3) (by omega) rfl
        have m4 : w4.cell? ⟨g, i * 5 + 4, none⟩ = some (.int .i64 i) := hist_cell HH.out hg4 HHI.out (r := 4) (by omega) rfl
        have hr4 : RefAt (fun k => From c k ∧ k < w4.heap.size) w4 (rv (AA i) (LL i) (CC i) i) (play (ops.take i)) (ops.take i).length := ⟨AA i, LL i, CC i, by rw [HTI.out], refF_low (HH.out.refs i HHI.out) HK4.out (fun k hk => by have := hk.1; unfold From at this; omega)⟩
        have HSM := Lib.hid (same_any _ c (ops.take i) _ w4 HC4.out hr4 (by rw [HTI.out]; have := HOL.out; have := HHI.out; omega))
        have hcz : c ≤ w4.heap.size := by omega
        have HCE := Lib.hid hce; clear hce
        clear hb4 hg4 hr4 q4
        go_wp2_with (go_at_call 14; refine HSM.out.mono ?_)
        rintro e w5 ⟨rfl, hb5⟩
        have hsz5 := hb5.size
        have HC5 := Lib.hid (HC4.out.below hb5)
        have HD5 := Lib.hid (HD4.out.below hb5)
        have HB5 := Lib.hid (HB4.out.trans (hb5.mono (by omega)))
        have HK5 := Lib.hid (HK4.out.trans (Kept.ofBelow (S := fun _ => False) hb5) (fun _ hi => hi.elim))
        clear hb5 hb4' m0 m1 m2 m3 m4 q4'
        go_wp2_with (go_at_call 16; refine (write_ok 0 0 otherS _ c (ops.take i) _ HC5.out (by rw [HTI.out]; have := HOL.out; have := HHI.out; omega) (by decide) (by decide) (by decide)).mono ?_)
        rintro e w6 ⟨rfl, hd6, hk6⟩
        have hsz6 := hk6.size
        have HC6 := Lib.hid hd6; clear hd6
        have HD6 := Lib.hid (HD5.out.kept hk6 (fun k _ hs hk => by have := (HT.out.bound k hs).2; have h1 := hk.1; unfold From at h1; have := HCE.out; omega))
        have HB6 := Lib.hid (HB5.out.trans (hk6.toBelow (by omega) (fun k hk => by have h1 := hk.1; unfold From at h1; have := HCE.out; omega)))
        have HK6 := Lib.hid (HK5.out.trans hk6 (fun k hk => .inl (.inr (by have h1 := hk.1; unfold From at h1; have := HCE.out; omega))))
        clear hk6
        go_wp2_with (go_at_call 16; refine (write_ok 1 0 anotherS S B ops _ HD6.out HOL.out (by decide) (by decide) (by decide)).mono ?_)
        rintro e w7 ⟨rfl, _, hk7⟩
        have hsz7 := hk7.size
        have hc7 := HC6.out.kept hk7 (fun k _ hs hk => by
          have := (HT.out.bound k hk).2
          have := HCE.out
          rcases hs with hs | hs
          · have h1 := hs.1; unfold From at h1; omega
          · omega)
        have HC7 := Lib.hid hc7.bound; clear hc7
        have HB7 := Lib.hid (HB6.out.trans (hk7.toBelow (by omega) (fun k hk => (HT.out.bound k hk).1)))
        have HK7 := Lib.hid (HK6.out.trans hk7 (fun k hk => .inl (.inl hk)))
        clear hk7
        have hg7 : w7.heap[g]? = wr.heap[g]? := HK7.out.block g hgw (fun h => h.elim hgS (by omega))
        have m0 : w7.cell? ⟨g, i * 5, none⟩ = some (.slice (AA i 0) (LL i 0) (CC i 0)) := hist_cell HH.out hg7 HHI.out (r := 0) (by omega) rfl
        have m1 : w7.cell? ⟨g, i * 5 + 1, none⟩ = some (.slice (AA i 1) (LL i 1) (CC i 1)) := hist_cell HH.out hg7 HHI.out (r := 1) (by omega) rfl
        have m2 : w7.cell? ⟨g, i * 5 + 2, none⟩ = some (.slice (AA i 2) (LL i 2) (CC i 2)) := hist_cell HH.out hg7 HHI.out (r := 2) (by omega) rfl
        have m3 : w7.cell? ⟨g, i * 5 + 3, none⟩ = some (.slice (AA i 3) (LL i 3) (CC i 3)) := hist_cell HH.out hg7 HHI.out (r := 3) (by omega) rfl
        have m4 : w7.cell? ⟨g, i * 5 + 4, none⟩ = some (.int .i64 i) := hist_cell HH.out hg7 HHI.out (r := 4) (by omega) rfl
        have hSc : ∀ k, More (fun k => From c k ∧ k < w4.heap.size) w5.heap.size k ∧ k < w7.heap.size → wr.heap.size ≤ k := fun k hk => by
          have := HCE.out
          rcases hk.1 with h1 | h1
          · have h2 := h1.1; unfold From at h2; omega
          · omega
        have hr7 := refF_low (HH.out.refs i HHI.out) HK7.out hSc
        have HRW := Lib.hid (rwrite_ok _ (AA i) (LL i) (CC i) (play (ops.take i)) i 0 0 otherS w7 hr7 (fun k hk => hk.2) (by have := HOL.out; have := HHI.out; omega) (play_length (okAll_take HT.out.disk.1 i) 0) (by decide) (by decide))
        clear hg7 hr7
        go_wp2_with (go_at_call 17; refine HRW.out.mono ?_)
        rintro e w8 ⟨v8, rfl, ⟨A8, Ln8, C8, rfl, hr8⟩, hb8⟩
        have hsz8 := hb8.size
        have hal : Below w8.heap.size w8 (w8.alloc (.cells (ra A8 Ln8 C8 (i + 1)) 28)) := (Below.refl _ _).alloc (Nat.le_refl _) _
        have hd9 := (HC7.out.below hb8).below hal
        have hr9 : RefAt _ (w8.alloc (.cells (ra A8 Ln8 C8 (i + 1)) 28)) (rv A8 Ln8 C8 (i + 1)) (play (ops.take i ++ [.put 0 0 otherS])) (ops.take i ++ [RawOp.put 0 0 otherS]).length := ⟨A8, Ln8, C8, by rw [List.length_append, HTI.out]; rfl, by rw [play_snoc]; exact hr8.below hal⟩
        have HSN := Lib.hid (same_any _ c (ops.take i ++ [.put 0 0 otherS]) _ _ hd9 hr9 (by rw [List.length_append, HTI.out]; have := HOL.out; have := HHI.out; simp; omega))
        have HB9 := Lib.hid ((HB7.out.trans (hb8.mono (by omega))).trans (hal.mono (by omega)))
        have hBz : B ≤ (w8.alloc (.cells (ra A8 Ln8 C8 (i + 1)) 28)).heap.size := by simp; omega
        clear hr8 hb8 hal hd9 hr9
        go_wp2_with (go_at_call 14; refine HSN.out.mono ?_)
        rintro e w9 ⟨rfl, hb9⟩
        have hsz9 := hb9.size
        have HBA := Lib.hid (HB9.out.trans (hb9.mono hBz))
        have hBy : B ≤ w9.heap.size := Nat.le_trans hBz hsz9
        clear hb9
        go_wp2_with (go_at_call 10; refine (awake_any _).mono ?_; rintro e w10 ⟨rfl, hb10⟩)
        go_ret
        exact ⟨rfl, HBA.out.trans (hb10.mono hBy)⟩
      · have HC := Lib.hid hc
        have HCN := Lib.hid (cut_no p S B ops wr HT.out.disk hc)
        by_cases hp0 : p < 0
        · clear hc
          go_wp2_with (first
            | (go_at_call 15; refine HCN.out.mono ?_; rintro e w6 ⟨rfl, hw6⟩; subst w6)
            | (go_at_call 10; refine (awake_any _).mono ?_; rintro e w7 ⟨rfl, hb7⟩))
          go_ret
          exact ⟨rfl, HT.out.old.trans (hb7.mono hsz)⟩
        · have hp1 : (ops.length : Int) < p := by omega
          clear hc
          go_wp2_with (first
            | (go_at_call 15; refine HCN.out.mono ?_; rintro e w6 ⟨rfl, hw6⟩; subst w6)
            | (go_at_call 10; refine (awake_any _).mono ?_; rintro e w7 ⟨rfl, hb7⟩))
          go_ret
          exact ⟨rfl, HT.out.old.trans (hb7.mono hsz)⟩
end Go.Proofs.Ytafokloeabjpgaa
