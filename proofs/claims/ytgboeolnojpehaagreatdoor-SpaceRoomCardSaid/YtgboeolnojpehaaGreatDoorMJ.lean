/- Texts of the same proof, one behind the other: SZR. -/
import Derived.Test.YtgboeolnojpehaaGreatDoorMI
import Derived.Deep.OwnRows
/- The walk of SpaceRoom. -/
set_option maxRecDepth 100000
namespace Go.Proofs.YtgboeolnojpehaaGreatDoor
open Go.RowKit

theorem and63 (x : Int) : ∃ k : Nat, k ≤ 63 ∧ bits BinOp.and IntKind.i64 x 63 = (k : Int) := by
  refine ⟨(BitVec.ofInt 64 x).toNat % 64, by omega, ?_⟩
  show IntKind.i64.wrap ((BitVec.ofInt 64 x &&& BitVec.ofInt 64 63).toNat : Int) = _
  rw [BitVec.toNat_and, show (BitVec.ofInt 64 63).toNat = 2 ^ 6 - 1 from by decide, Nat.and_two_pow_sub_one_eq_mod]
  exact IntWalk.i64_in _ (by omega)
/-- An operation whose run is known, and that is asked for. -/
theorem wpList_val_wanted {P : Program} {w w' : World} {ops : Array Oper} {rest : List Oper} {o : Oper} {a : Act} {Q : Exit → Act → World → Prop} (hw : Region.wanted o (yielded ops a.tmps) = true) (v : Value) (hr : (execOp a.eval o).run P w = .ok (.value v) w') (h : wpList P ops Q rest (a.put o.dst v) w') : wpList P ops Q (o :: rest) a w :=
  wpList_step fun K hK => by rw [if_pos hw]; unfold Oper.wp; rw [hr]; exact hK _ _ h
theorem infoBool : (Tryz.prog.info? 4).map (fun i => (i.zero, i.size, i.bytes)) = some (some (.bool false), 1, 1) := by kernel_rfl

/-- A slice's 4096 bools. -/
def SeenAt (W : World) (sb : Nat) (f : Nat → Bool) : Prop := ∀ q, q < 4096 → W.cell? ⟨sb, q, none⟩ = some (.bool (f q)) ∧ W.frozen? ⟨sb, q, none⟩ = false
theorem SeenAt.block {W W' : World} {sb : Nat} {f : Nat → Bool} (h : SeenAt W sb f) (hb : W'.heap[sb]? = W.heap[sb]?) : SeenAt W' sb f := fun q hq => ⟨(World.cell?_of_block hb).trans (h q hq).1, (World.frozen?_of_block hb).trans (h q hq).2⟩
theorem SeenAt.set {W : World} {sb q : Nat} {f g : Nat → Bool} (h : SeenAt W sb f) (b : Bool) (hq : q < 4096) (hg : ∀ j, g j = if j = q then b else f j) : SeenAt (W.setCell ⟨sb, q, none⟩ (.bool b)) sb g := fun j hj => by
  have ht : Touch sb q 1 W (W.setCell ⟨sb, q, none⟩ (.bool b)) := Touch.setCell W _ (by omega) (by omega)
  refine ⟨?_, (ht.froz j).trans (h j hj).2⟩
  rw [hg]
  by_cases hjq : j = q
  · subst hjq; rw [if_pos rfl]; exact World.cell?_setCell_same _ _ _ (h j hj).1
  · rw [if_neg hjq]; exact (ht.out j (by omega)).trans (h j hj).1

/-- An action, and beside it the list of the pages that there are. -/
def Room (B : Nat) (S : Nat → Prop) (a s d l p db sb : Nat) (C : Nat → List UInt8) (w : World) (h : Hd) (W : World) : Prop :=
  ∃ m D, LiveSt (JL [] []) B S a s d l p db m 8 C 0 Hd.zero h D W ∧ (∀ q x, D q = some x → x.blk ≠ sb) ∧ SeenAt W sb (fun q => decide (h.has q)) ∧ Below B w W ∧ (sb ≠ a ∧ sb ≠ s ∧ sb ≠ l ∧ sb ≠ db ∧ ¬ S sb ∧ B ≤ sb)

section
variable {B a s d l p db sb : Nat} {S : Nat → Prop} {C : Nat → List UInt8} {h : Hd} {w W : World}

theorem live_store {m n N : Nat} {last : Hd} {J : List RawOp → Prop} {D : Nat → Option Dr} (g : LiveSt J B S a s d l p db m n C N last h D W) (hD : ∀ q x, D q = some x → x.blk ≠ sb) (hne : sb ≠ a ∧ sb ≠ s ∧ sb ≠ l ∧ sb ≠ db ∧ ¬ S sb ∧ B ≤ sb) (q : Nat) (v : Value) :
    LiveSt J B S a s d l p db m n C N last h D (W.setCell ⟨sb, q, none⟩ v) := by
  have hk : Kept (fun k => k = sb) W (W.setCell ⟨sb, q, none⟩ v) := Kept.setCell (fun k => k = sb) W (b := sb) rfl _
  exact ⟨g.act.kept hk (fun e => hne.1 e.symm) (fun e => hne.2.1 e.symm) (fun e => hne.2.2.2.1 e.symm) hD, g.pool.kept hk (fun k _ hS he => hne.2.2.2.2.1 (he ▸ hS)), g.lg.kept hk (fun e => hne.2.2.1 e.symm), g.ns, g.na, g.nl, g.nb, g.nd, g.ne, g.low, g.n0⟩

theorem room_alloc (hR : Room B S a s d l p db sb C w h W) (hT : Tab W) :
    Calls Tryz.prog 10 #[.pointer (some ⟨a, 0, none⟩)] W fun e w' =>
      (∃ q h', h.NextIs q h' ∧ (1 ≤ q ∧ q < 4096) ∧ e = .returned (.tuple #[.int .i64 q, .int .i64 0]) ∧ w'.cell? ⟨sb, q, none⟩ = some (.bool false) ∧ w'.frozen? ⟨sb, q, none⟩ = false ∧ Hid (Room B S a s d l p db sb C w h' (w'.setCell ⟨sb, q, none⟩ (.bool true)))) ∨
      ((∀ j, h.isFree j = false) ∧ h.count = 4095 ∧ e = .returned (.tuple #[.int .i64 0, .int .i64 2]) ∧ w' = W) := by
  obtain ⟨m, D, g, hD, hs, hb, hne⟩ := hR
  refine (alloc_live g hT).mono ?_
  rintro e w' (⟨q, h', b, hn, rfl, g', hb', hk, hlb⟩ | ⟨h1, h2, rfl, rfl⟩)
  · obtain ⟨k', hq1, hq4, hno, hhas, _⟩ := hn.spec g.act.ok
    have hsl : sb < W.heap.size := World.block_lt_of_cell? W _ (hs 0 (by omega)).1
    have hblk := hk.block sb hsl (by rintro (e | e); exact hne.1 e; exact hne.2.2.2.1 e)
    have hs' := hs.block hblk
    have hD' : ∀ j x, upd D q (some (⟨b, true, noughts, noughts⟩ : Dr)) j = some x → x.blk ≠ sb := fun j x hj => by
      by_cases hjq : j = q
      · subst hjq; rw [upd_same] at hj; cases hj; show b ≠ sb; omega
      · rw [upd_other _ _ hjq] at hj; exact hD j x hj
    refine .inl ⟨q, h', hn, ⟨hq1, hq4⟩, rfl, ?_, (hs' q hq4).2, Lib.hid ⟨_, _, live_store g' hD' hne q _, hD', ?_, (hb.trans hb').trans ((Kept.setCell (fun k => k = sb) w' (b := sb) rfl _).toBelow g'.size (fun i hi => by have := hne.2.2.2.2.2; omega)), hne⟩⟩
    · rw [(hs' q hq4).1]
      show some (Value.bool (decide (h.has q))) = _
      rw [decide_eq_false hno]
    · refine hs'.set true hq4 (fun j => ?_)
      by_cases hjq : j = q
      · rw [if_pos hjq]; exact decide_eq_true ((hhas j).2 (.inr hjq))
      · rw [if_neg hjq]
        have := hhas j
        by_cases hh : h.has j
        · rw [decide_eq_true hh]; exact decide_eq_true (this.2 (.inl hh))
        · rw [decide_eq_false hh]; exact decide_eq_false (fun e => (this.1 e).elim hh hjq)
  · exact .inr ⟨h1, h2, rfl, rfl⟩

theorem room_free (q : Nat) (hR : Room B S a s d l p db sb C w h W) (hq : h.has q) :
    Calls Tryz.prog 13 #[.pointer (some ⟨a, 0, none⟩), .int .i64 q] W fun e w' => e = .returned (.int .i64 0) ∧ (∃ b, w'.cell? ⟨sb, q, none⟩ = some (.bool b)) ∧ w'.frozen? ⟨sb, q, none⟩ = false ∧ Hid (Room B S a s d l p db sb C w (h.turn q) (w'.setCell ⟨sb, q, none⟩ (.bool false))) := by
  obtain ⟨m, D, g, hD, hs, hb, hne⟩ := hR
  refine (free_live q g hq).mono ?_
  rintro e w' ⟨rfl, ⟨m', g'⟩, hb', hk⟩
  have hq4 : q < 4096 := by have := hq.2.1; have := g.act.ok.cnt; omega
  have hsl : sb < W.heap.size := World.block_lt_of_cell? W _ (hs 0 (by omega)).1
  have hblk := hk.block sb hsl (by rintro (e | e); exact hne.1 e; exact hne.2.2.2.1 e)
  have hs' := hs.block hblk
  have hD' : ∀ j x, upd D q none j = some x → x.blk ≠ sb := fun j x hj => by
    by_cases hjq : j = q
    · subst hjq; rw [upd_same] at hj; cases hj
    · rw [upd_other _ _ hjq] at hj; exact hD j x hj
  refine ⟨rfl, ⟨_, (hs' q hq4).1⟩, (hs' q hq4).2, Lib.hid ⟨_, _, live_store g' hD' hne q _, hD', ?_, (hb.trans hb').trans ((Kept.setCell (fun k => k = sb) w' (b := sb) rfl _).toBelow g'.size (fun i hi => by have := hne.2.2.2.2.2; omega)), hne⟩⟩
  refine hs'.set false hq4 (fun j => ?_)
  have hfr := Hd.isFree_turn g.act.ok hq4 j
  have hnf : h.isFree q = false := hq.2.2
  by_cases hjq : j = q
  · subst hjq
    rw [if_pos rfl]
    rw [if_pos rfl, hnf] at hfr
    exact decide_eq_false (fun e => by have := e.2.2; rw [hfr] at this; cases this)
  · rw [if_neg hjq]
    rw [if_neg hjq] at hfr
    have he : (h.turn q).has j ↔ h.has j := by
      unfold Hd.has
      rw [hfr]
      exact Iff.rfl
    exact decide_eq_decide.2 he
end

theorem zero_root (q : Nat) : Hd.zero.root q = 0 := by
  unfold Hd.root Hd.zero
  simp only [List.getD_eq_getElem?_getD, List.getElem?_replicate]
  split <;> rfl
theorem zero_free (q : Nat) : Hd.zero.isFree q = false := by
  cases h : Hd.zero.isFree q with
  | false => rfl
  | true => have := Hd.zero_ok.isFree_lt h; simp [Hd.zero] at this; omega

set_option maxHeartbeats 6400000 in
theorem spaceRoom_walk (freed : Int) (w : World) (hT : Tab w) : Calls Tryz.prog 4 #[.int .i64 freed] w fun e w' => e = .returned (.bool true) ∧ Below w.heap.size w w' := by
  obtain ⟨B, hBe⟩ : ∃ B, B = w.heap.size := ⟨_, rfl⟩
  have hB1 : 1 ≤ B := by rw [hBe]; exact hT.1
  have HT := Lib.hid hT
  have HBE := Lib.hid hBe
  obtain ⟨n, hn63, hand⟩ := and63 freed
  obtain ⟨X, hX⟩ : ∃ X, X = stZ.toArray := ⟨_, rfl⟩
  have HX := Lib.hid built_stZ
  rw [← hX] at HX
  have HXE := Lib.hid hX
  obtain ⟨Z, hZ⟩ : ∃ Z, Z = madeCells #[Value.bool false] 4096 := ⟨_, rfl⟩
  have hmk : ∀ W : World, (Instr.makeSlice 67 (.int .i64 4096) (.int .i64 4096)).run Tryz.prog W = .ok (.slice (some ⟨W.heap.size, 0, none⟩) 4096 4096) (W.alloc (.cells Z 4)) := fun W => by
    have := run_make_row' (P := Tryz.prog) 67 4 (.bool false) 1 Tryz.underlying67 infoBool rfl .i64 .i64 4096 (by omega) (by omega) W
    rw [← hZ] at this
    exact this
  have HZ0 : Hid (∀ q, q < 4096 → Z[q]? = some (.bool false)) := Lib.hid (fun q hq => by
    rw [hZ, Array.getElem?_eq_getElem (by rw [size_madeCells]; exact hq)]
    simp [madeCells, Nat.mod_one])
  clear hBe hT hX hZ
  go_enter Tryz.func4, Tryz.ntmps4
  go_wp2_with fail
  refine (new_disk _).mono ?_
  rintro e w1 ⟨rfl, hd1, hb1⟩
  rw [← HBE.out] at hd1 hb1 ⊢
  have HB1 := Lib.hid hb1
  have HD1 := Lib.hid hd1.bound; clear hd1 hb1
  go_wp2_with fail
  refine (open_sp (J := JL [] []) (B := B) (n := 8) (N := 0) [] [] [] HD1.out (fun k hk => hk) rfl (fun r hr => by cases hr) (by omega) (by omega) (by simp) ⟨rfl, rfl⟩ rfl (fun i h1 => by simp at h1) (by decide) Hd.zero_ok (Saves.jl _ _) (fun ops h => short0 ops _ h) (by have := HB1.out.size; have := HBE.out; omega)).mono ?_
  rintro e w2 ⟨s, l, p, S2, rfl, hs2, hb2⟩
  have HB2 := Lib.hid (HB1.out.trans hb2); have HS2 := Lib.hid hs2; clear hs2 hb2
  go_wp2_with fail
  refine (begin_sp HS2.out).mono ?_
  rintro e w3 ⟨a, db, rfl, h3, hb3, _⟩
  obtain ⟨C, hC⟩ : ∃ C, C = resC (fun q => pageOf (play [] 1) q) [] := ⟨_, rfl⟩
  rw [← hC] at h3
  clear hC HS2
  obtain ⟨w4, hw4⟩ : ∃ w4, w4 = w3.alloc (.cells Z 4) := ⟨_, rfl⟩
  obtain ⟨sb, hsb⟩ : ∃ sb, sb = w3.heap.size := ⟨_, rfl⟩
  have hb4 : Below w3.heap.size w3 w4 := by rw [hw4]; exact (Below.refl _ _).alloc (Nat.le_refl _) _
  have hg4 : w4.heap[sb]? = some (.cells Z 4 (0, 0)) := by rw [hw4, hsb]; exact heap_alloc_new w3 _
  have hR4 : Room B S2 a s B l p db sb C w Hd.zero w4 := by
    have l1 := h3.act.ac.lt; have l2 := h3.act.sp.lt; have l3 := h3.lg.lt; have l4 := h3.act.dr.ltM
    refine ⟨0, _, h3.below hb4, (fun q x hq => by cases hq), fun q hq => ⟨?_, Lib.frozen_of_heap hg4 _⟩, (HB2.out.trans hb3).trans (hb4.mono h3.size), by omega, by omega, by omega, by omega, fun hh => by have := (h3.pool.low _ hh).2; omega, by have := h3.size; omega⟩
    rw [Lib.cell_of_heap hg4, HZ0.out q hq]
    have : ¬ Hd.zero.has q := fun e => by have := e.1; have := e.2.1; simp [Hd.zero] at this; omega
    show _ = some (Value.bool (decide (Hd.zero.has q)))
    rw [decide_eq_false this]
  have HR4 := Lib.hid hR4
  have HW4 := Lib.hid hw4; have HSB := Lib.hid hsb
  clear h3 hb3 hb4 hg4 hR4 hw4 hsb
  go_wp2
  rw [← HW4.out, ← HSB.out]
  clear hmk
  go_loopw [8] (fun i wr => ∃ k : Nat, 1 ≤ k ∧ k ≤ 4096 ∧ i = .int .i64 k ∧ Hid (∃ h, Room B S2 a s B l p db sb C w h wr ∧ h.count + 1 = k ∧ ∀ j, h.isFree j = false)) (fun i _ => 4096 - (intOf i).toNat)
  case atStart => exact ⟨1, by omega, by omega, rfl, Lib.hid ⟨_, HR4.out, rfl, zero_free⟩⟩
  case round =>
    obtain ⟨k, hk1, hk2, rfl, hh⟩ := hrel
    obtain ⟨h, hR, hcnt, hfr⟩ := hh.out
    have hTr : Tab wr := by obtain ⟨_, _, _, _, _, hb, _⟩ := hR; exact HT.out.below hb hB1
    have HAL := Lib.hid (room_alloc hR hTr)
    have HC := Lib.hid hcnt; have HF := Lib.hid hfr; have HRR := Lib.hid hR
    clear hh hR hcnt hfr hTr
    by_cases hlt : k < 4096
    · have hki : (k : Int) < 4096 := by omega
      go_wp2_with fail
      refine HAL.out.mono ?_
      rintro e w5 (⟨q, h', hn, ⟨hq1, hq4⟩, rfl, hc, hf, hR'⟩ | ⟨_, h2, _, _⟩)
      rotate_left
      · exfalso; have := HC.out; omega
      have hqk : h'.count + 1 = k + 1 ∧ ∀ j, h'.isFree j = false := by
        rcases hn with ⟨h1, _, _⟩ | ⟨_, _, rfl, rfl⟩
        · rw [HF.out q] at h1; cases h1
        · exact ⟨by show h.count + 1 + 1 = k + 1; have := HC.out; omega, HF.out⟩
      have HQ := Lib.hid hqk
      have hq1i : ¬ (q : Int) < 1 := by omega
      have hq4i : (q : Int) < 4096 := by omega
      clear hn hqk
      go_wp2
      go_roundw
      case rel => exact ⟨k + 1, by omega, by omega, by simp, Lib.hid ⟨h', hR'.out, HQ.out.1, HQ.out.2⟩⟩
      case measure => simp [intOf]; omega
    · have hk4 : k = 4096 := by omega
      subst hk4
      go_wp2_with fail
      refine HAL.out.mono ?_
      rintro e w5 (⟨q, h', hn, _, _, _, _, _⟩ | ⟨_, h2, rfl, hw⟩)
      · exfalso
        rcases hn with ⟨h1, _, _⟩ | ⟨_, h2, _, _⟩
        · rw [HF.out q] at h1; cases h1
        · have := HC.out; omega
      subst w5
      clear h2 HAL
      go_wp2
      go_loopw [14] (fun i wr => ∃ k : Nat, 1 ≤ k ∧ k ≤ n + 1 ∧ i = .int .i64 k ∧ Hid (∃ h, Room B S2 a s B l p db sb C w h wr ∧ h.count = 4095 ∧ ∀ j, h.isFree j = true ↔ ∃ t, 1 ≤ t ∧ t < k ∧ j = t * 60)) (fun i _ => n + 1 - (intOf i).toNat)
      case atStart => exact ⟨1, by omega, by omega, rfl, Lib.hid ⟨h, HRR.out, by have := HC.out; omega, fun j => ⟨(fun e => by rw [HF.out j] at e; cases e), fun ⟨t, h1, h2, _⟩ => by omega⟩⟩⟩
      case round =>
        obtain ⟨k, hk1, hk2, rfl, hh⟩ := hrel
        obtain ⟨h, hR, hcnt, hfr⟩ := hh.out
        by_cases hlt : k ≤ n
        · have hki : (k : Int) ≤ n := by omega
          obtain ⟨q, hq⟩ : ∃ q : Nat, q = k * 60 := ⟨_, rfl⟩
          have hqi : (k : Int) * 60 = (q : Int) := by omega
          have hhas : h.has q := ⟨by omega, by omega, by
            cases hv : h.isFree q with
            | false => rfl
            | true => obtain ⟨t, _, h2, h3⟩ := (hfr q).1 hv; omega⟩
          have hok : h.Ok := by obtain ⟨_, _, g, _⟩ := hR; exact g.act.ok
          have hq4 : (q : Int) < 4096 := by omega
          have hturn : (h.turn q).count = 4095 ∧ ∀ j, (h.turn q).isFree j = true ↔ ∃ t, 1 ≤ t ∧ t < k + 1 ∧ j = t * 60 := by
            refine ⟨hcnt, fun j => ?_⟩
            rw [Hd.isFree_turn hok (by omega)]
            by_cases hjq : j = q
            · rw [if_pos hjq, hhas.2.2]
              exact ⟨fun _ => ⟨k, hk1, by omega, by omega⟩, fun _ => rfl⟩
            · rw [if_neg hjq, hfr j]
              exact ⟨fun ⟨t, a, b, c⟩ => ⟨t, a, by omega, c⟩, fun ⟨t, a, b, c⟩ => ⟨t, a, by omega, c⟩⟩
          have HFE := Lib.hid (room_free q hR hhas)
          have HTU := Lib.hid hturn
          clear hh hR hcnt hfr hhas hok hturn hq
          go_wp2_with fail
          refine HFE.out.mono ?_
          rintro e w5 ⟨rfl, ⟨b, hc⟩, hf, hR'⟩
          go_wp2
          go_roundw
          case rel => exact ⟨k + 1, by omega, by omega, by simp, Lib.hid ⟨_, hR'.out, HTU.out.1, HTU.out.2⟩⟩
          case measure => simp [intOf]; omega
        · have hkn : k = n + 1 := by omega
          subst hkn
          have hki : ¬ ((n : Int) + 1 ≤ n) := by omega
          have HRR2 := Lib.hid hR; have HCC := Lib.hid hcnt; have HFF := Lib.hid hfr
          clear hh hR hcnt hfr
          go_wp2
          go_loopw [15] (fun i wr => ∃ k : Nat, k ≤ n ∧ i = .int .i64 k ∧ Hid (∃ h, Room B S2 a s B l p db sb C w h wr ∧ h.count = 4095 ∧ ∀ j, h.isFree j = true ↔ ∃ t, k + 1 ≤ t ∧ t ≤ n ∧ j = t * 60)) (fun i _ => n - (intOf i).toNat)
          case atStart => exact ⟨0, by omega, rfl, Lib.hid ⟨_, HRR2.out, HCC.out, fun j => by rw [HFF.out j]; exact ⟨fun ⟨t, a, b, c⟩ => ⟨t, by omega, by omega, c⟩, fun ⟨t, a, b, c⟩ => ⟨t, by omega, by omega, c⟩⟩⟩⟩
          case round =>
            obtain ⟨k, hk2, rfl, hh⟩ := hrel
            obtain ⟨h, hR, hcnt, hfr⟩ := hh.out
            have hTr : Tab wr := by obtain ⟨_, _, _, _, _, hb, _⟩ := hR; exact HT.out.below hb hB1
            have hok : h.Ok := by obtain ⟨_, _, g, _⟩ := hR; exact g.act.ok
            have HAL := Lib.hid (room_alloc hR hTr)
            by_cases hlt : k < n
            · have hki : (k : Int) < n := by omega
              have hfree : h.isFree ((k + 1) * 60) = true := (hfr _).2 ⟨k + 1, by omega, by omega, rfl⟩
              have hmore : ∀ q h', h.NextIs q h' → h'.count = 4095 ∧ ∀ j, h'.isFree j = true ↔ ∃ t, k + 1 + 1 ≤ t ∧ t ≤ n ∧ j = t * 60 := fun q h' hn => by
                rcases hn with ⟨h1, h2, rfl⟩ | ⟨h1, _, _, _⟩
                · obtain ⟨t, t1, t2, rfl⟩ := (hfr q).1 h1
                  have ht : t = k + 1 := by
                    by_cases hlt : (k + 1) * 60 < t * 60
                    · have := h2 _ hlt
                      rw [hfree] at this; cases this
                    · omega
                  subst ht
                  refine ⟨hcnt, fun j => ?_⟩
                  rw [Hd.isFree_turn hok (by omega)]
                  by_cases hjq : j = (k + 1) * 60
                  · rw [if_pos hjq, h1]
                    exact ⟨(fun e => by cases e), fun ⟨t, a, b, c⟩ => by omega⟩
                  · rw [if_neg hjq, hfr j]
                    exact ⟨fun ⟨t, a, b, c⟩ => ⟨t, by rcases Nat.lt_or_ge (k + 1) t with h | h; omega; exfalso; apply hjq; rw [c, show t = k + 1 by omega], b, c⟩, fun ⟨t, a, b, c⟩ => ⟨t, by omega, b, c⟩⟩
                · rw [h1] at hfree; cases hfree
              have HMO := Lib.hid hmore
              have HFE := Lib.hid hfree
              clear hh hR hcnt hfr hTr hok hmore hfree
              go_wp2_with fail
              refine HAL.out.mono ?_
              rintro e w5 (⟨q, h', hn, ⟨hq1, hq4⟩, rfl, hc, hf, hR'⟩ | ⟨h1, _, _, _⟩)
              rotate_left
              · exfalso; have := h1 ((k + 1) * 60); rw [HFE.out] at this; cases this
              have HM := Lib.hid (HMO.out q h' hn)
              have hq1i : ¬ (q : Int) < 1 := by omega
              have hq4i : (q : Int) < 4096 := by omega
              clear hn
              go_wp2
              go_roundw
              case rel => exact ⟨k + 1, by omega, by simp, Lib.hid ⟨h', hR'.out, HM.out.1, HM.out.2⟩⟩
              case measure => simp [intOf]; omega
            · have hkn : k = n := by omega
              subst hkn
              have hki : ¬ ((k : Int) < k) := by omega
              have hno : ∀ j, h.isFree j = false := fun j => by
                cases hv : h.isFree j with
                | false => rfl
                | true => obtain ⟨t, a, b, _⟩ := (hfr j).1 hv; omega
              have HNO := Lib.hid hno; have HCC3 := Lib.hid hcnt
              obtain ⟨m6, D6, g6, _, _, hb6, _⟩ := hR
              have HG6 := Lib.hid g6; have HB6 := Lib.hid hb6
              clear hh hcnt hfr hTr hok hno g6 hb6
              go_wp2_with fail
              refine HAL.out.mono ?_
              rintro e w5 (⟨q, h', hn, _, _, _, _, _⟩ | ⟨_, h2, rfl, hw⟩)
              · exfalso
                rcases hn with ⟨h1, _, _⟩ | ⟨_, h2, _, _⟩
                · rw [HNO.out q] at h1; cases h1
                · have := HCC3.out; omega
              subst w5
              clear h2
              go_wp2_with fail
              refine (abort_live HG6.out).mono ?_
              rintro e w7 ⟨rfl, hs7, _, hb7⟩
              have HB7 := Lib.hid (HB6.out.trans hb7)
              have HSD := Lib.hid (stands_zero hs7 rfl (fun q _ => zero_root q))
              rw [← HXE.out] at HSD
              clear hs7 hb7
              go_wp2_with (refine wpList_val_wanted (by rfl) (.agg X) (exec_build rfl _ (by simp [go_sem]) X HX.out _) ?_)
              refine HSD.out.mono ?_
              rintro e w8 ⟨rfl, _, hb8⟩
              have HB8 := Lib.hid (HB7.out.trans hb8)
              have HAW := Lib.hid (slaw_awake w8 (HT.out.below HB8.out hB1))
              clear hb8
              go_wp2_with fail
              refine HAW.out.mono ?_
              rintro e w9 ⟨rfl, hb9⟩
              have HB9 := Lib.hid (HB8.out.trans (hb9.mono (by have := HB8.out.size; have := HBE.out; omega)))
              clear hb9
              go_wp2
              go_ret
              refine ⟨rfl, ?_⟩
              have := HB9.out
              rw [HBE.out] at this
              exact this
end Go.Proofs.YtgboeolnojpehaaGreatDoor
