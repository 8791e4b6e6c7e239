/- Texts of the same proof, one behind the other: SZE, SZF, SZG, PIter, SZH, SZI. -/
import Derived.Test.YtijggofelepaaaaGreatDoorMAJ
import Derived.BigQuiet
import Derived.Deep.RegionHeld3
import Derived.Lib.SmallJoins
import Derived.Shelf.SlIterI.Nil
import Derived.Test.YtijggofelepaaaaGreatDoorProg
/- store.finish, where the log's file has room. -/
set_option maxRecDepth 100000
namespace Go.Proofs.YtijggofelepaaaaGreatDoor
open Go.RowKit

/-- The disk's raw writes: the log's file holds these records, the head's file these bytes. -/
def JL (rs : List ByteArray) (f2 : List UInt8) (ops : List RawOp) : Prop := play ops 0 = logB rs ∧ play ops 2 = f2
theorem JL.save {rs : List ByteArray} {f2 : List UInt8} (ops : List RawOp) (q : Nat) (bs : ByteArray) (h : JL rs f2 ops) : JL rs f2 (ops ++ [.put 1 (q * 512) bs]) := by
  unfold JL at h ⊢
  rw [play_snoc, RawOp.run, upd_other _ _ (by omega), upd_other _ _ (by omega)]
  exact h
theorem JL.append {rs : List ByteArray} {f2 : List UInt8} {ops : List RawOp} (h : JL rs f2 ops) (r : ByteArray) :
    JL (rs ++ [r]) f2 (ops ++ [.put 0 (logB rs).length ⟨(frm r (rs.length + 1)).toArray⟩]) ∧ play (ops ++ [.put 0 (logB rs).length ⟨(frm r (rs.length + 1)).toArray⟩]) 1 = play ops 1 := by
  unfold JL at h ⊢
  rw [play_snoc, RawOp.run, upd_same, upd_other _ _ (by omega), upd_other _ _ (by omega), h.1, putL_end, logB_snoc]
  exact ⟨⟨rfl, h.2⟩, rfl⟩

def FinPost (B : Nat) (S : Nat → Prop) (s d l p n : Nat) (C : Nat → List UInt8) (P : Nat → Nat) (N : Nat) (rs : List ByteArray) (f2 : List UInt8) (h' : Hd) (cur : Option Nat) (ps : List Pt) (w w' : World) : Prop :=
  ∃ S', Kept (fun k => S k ∨ k = s) w w' ∧ (∀ k, k < w.heap.size → S' k → S k) ∧ PoolJ (JL (rs ++ [⟨(recB h' ps).toArray⟩]) f2) B S' p d n (appC C ps) P (N + 1 + 3 * ps.length) w' ∧ SpaceAt w' s d l p h' cur

set_option maxHeartbeats 3200000 in
theorem finish_ok (B : Nat) (S : Nat → Prop) (s d l p n : Nat) (C : Nat → List UInt8) (P : Nat → Nat) (N : Nat) (rs : List ByteArray) (f2 : List UInt8) (last h' : Hd) (cur : Option Nat) (v : Value) (ps : List Pt) (Bp : Nat) (w : World)
    (x : SpaceAt w s d l p last cur) (k : last.Len) (k' : h'.Ok) (hs : ¬ S s) (lg : LogOn l d w) (hl : ¬ S l) (g : PoolJ (JL rs f2) B S p d n C P N w) (hpt : PtsAt Bp w v ps) (hpS : ∀ b, v.ownBlock = some b → ¬ S b) (hf : ∀ p ∈ ps, p.Fits) (hsz : (recB h' ps).length ≤ 16777216)
    (hrs : Recs rs) (hc : appCode rs ⟨(recB h' ps).toArray⟩ = 0) (hP : pinnedN P ≠ n) (hN : N + 1 + 3 * ps.length ≤ 4398046511104) :
    Calls Tryz.prog 48 #[.pointer (some ⟨s, 1, none⟩), .agg h'.cells.toArray, v] w fun e w' => e = .returned (.int .i64 0) ∧ FinPost B S s d l p n C P N rs f2 h' cur ps w w' := by
  obtain ⟨fl, hfl⟩ : ∃ fl, fl = h'.cells := ⟨_, rfl⟩
  obtain ⟨w1, hw1⟩ : ∃ w1, w1 = w.alloc (.cells fl.toArray 37) := ⟨_, rfl⟩
  have hb1 : Below w.heap.size w w1 := by rw [hw1]; exact (Below.refl _ _).alloc (Nat.le_refl _) _
  have hv1 : HvAt w1 w.heap.size h' := by rw [hw1, hfl]; exact HvAt.new w h'
  have hbx : ¬ S w.heap.size := fun hh => by have := (g.low _ hh).2; omega
  have HS1 : Hid ((Tryz.prog.info? 37).map (·.size) = some fl.length) := Lib.hid (by rw [hfl]; exact k'.len.size')
  have HRC : Hid (Calls Tryz.prog 89 #[.agg fl.toArray, v] w1 fun e w' => e = .returned (.string ⟨(recB h' ps).toArray⟩) ∧ Below w1.heap.size w1 w') := Lib.hid (by
    rw [hfl]
    exact recordOf_any Bp h' v ps w1 k' (hpt.below hb1) hsz (fun p hp => by have := hf p hp; exact ⟨by have := this.1; omega, by have := this.2; omega⟩))
  obtain ⟨r, hr⟩ : ∃ r : ByteArray, r = ⟨(recB h' ps).toArray⟩ := ⟨_, rfl⟩
  rw [← hr] at HRC hc
  have HRG : Hid (∀ W, Below w1.heap.size w1 W → W.rangeAt w.heap.size 0 fl) := Lib.hid (fun W hb => by rw [hfl]; exact (hv1.block (hb.block _ hv1.lt)).1)
  have HAP : Hid (∀ W, Below w1.heap.size w1 W → Calls Tryz.prog 90 #[.pointer (some ⟨l, 0, none⟩), .string r] W fun e w' => e = .returned (.int .i64 0) ∧ w'.rangeAt w.heap.size 0 fl ∧
      Calls Tryz.prog 80 #[.pointer (some ⟨s, 1, none⟩), .agg fl.toArray, v] w' fun e w'' => e = .returned (.tuple #[]) ∧ FinPost B S s d l p n C P N rs f2 h' cur ps w w'') := Lib.hid (fun W hb => by
    have hbW : Below w.heap.size w W := hb1.trans (hb.mono hb1.size)
    have gW := g.below hbW
    obtain ⟨Sd, ops, hJ, hD, hSd, hol, hmk⟩ := gW.disk
    refine (lappend_any l d Sd ops rs r W hD (lg.below hbW) (fun hh => hl (hSd _ hh)) hJ.1 hrs (by omega)).mono ?_
    rintro e w' ⟨rfl, S2, ops', hD2, ho, hK, hS2⟩
    rw [hc, if_pos rfl] at ho
    obtain ⟨j1, j2⟩ := hJ.append r
    rw [← ho] at j1 j2
    obtain ⟨S3, hT3, hJ3⟩ := hmk (JL (rs ++ [r]) f2) w' ops' S2 hD2 hK hS2 j2 (by rw [ho]; simp) j1
    have hTw : Turn S w S3 w' := (Turn.ofBelow hbW).trans hT3
    have hx' := x.kept hTw.1 hs
    have hpt' : PtsAt Bp w' v ps := ownsRow_of_block hpt fun b hb' => hTw.1.block b (World.ownsRow.lt hpt b hb').2 (hpS b hb')
    have hvW : HvAt W w.heap.size h' := hv1.block (hb.block _ hv1.lt)
    have hv' : HvAt w' w.heap.size h' := hvW.kept hT3.1 hbx
    refine ⟨by rw [hc], by rw [hfl]; exact hv'.1, ?_⟩
    rw [hfl]
    refine (apply_any (JL (rs ++ [r]) f2) B S3 s d l p n C P (N + 1) last h' cur v ps Bp w' hx' k k'.len (hTw.not x.lt hs) hJ3 hpt' (fun b hb' => hTw.not (World.ownsRow.lt hpt b hb').2 (hpS b hb')) hf hP hN (fun ops q bs hj => JL.save ops q bs hj)).mono ?_
    rintro e w'' ⟨rfl, S4, hk4, hs4, hJ4, hx4⟩
    rw [hr] at hJ4
    refine ⟨rfl, S4, hTw.1.mono (T := fun k => S k ∨ k = s) (fun _ hi => .inl hi) |>.trans hk4 (fun i hi => ?_), fun k hk hh => hTw.2 k hk (hs4 k (Nat.lt_of_lt_of_le hk hTw.1.size) hh), hJ4, hx4⟩
    by_cases hi1 : i < w.heap.size
    · exact .inl (hi.imp (hTw.2 i hi1) id)
    · exact .inr (by omega))
  have HLG : Hid (∀ W, Below w1.heap.size w1 W → W.cell? ⟨s, 2, none⟩ = some (.pointer (some ⟨l, 0, none⟩))) := Lib.hid (fun W hb => (x.below (hb1.trans (hb.mono hb1.size))).lg)
  have HW1 := Lib.hid hw1.symm
  rw [← hfl]
  have hrg1 := HRG.out w1 (Below.refl _ _)
  rw [hw1] at hrg1
  have HRG1 := Lib.hid hrg1
  clear hfl hw1 hb1 hv1 hbx x k k' hs lg hl g hpt hpS hf hsz hrs hc hP hN hr hrg1
  go_enter Tryz.func48, Tryz.ntmps48
  go_wp2_with (refine wpList_load_mid rfl 37 _ rfl w.heap.size 0 (by rfl) fl _ HRG1.out Tryz.underlying37 rfl HS1.out ?_)
  rw [HW1.out]
  refine HRC.out.mono ?_
  rintro e w2 ⟨rfl, hb2⟩
  have hlg := HLG.out w2 hb2
  have HA := Lib.hid (HAP.out w2 hb2)
  clear hb2
  go_wp2_with fail
  refine HA.out.mono ?_
  rintro e w3 ⟨rfl, hrg, hap⟩
  have HRG3 := Lib.hid hrg; have HA3 := Lib.hid hap
  clear hrg hap
  go_wp2_with (refine wpList_load_mid rfl 37 _ rfl w.heap.size 0 (by rfl) fl _ HRG3.out Tryz.underlying37 rfl HS1.out ?_)
  refine HA3.out.mono ?_
  rintro e w4 ⟨rfl, hend⟩
  have HE := Lib.hid hend
  clear hend
  go_wp2
  go_ret
  exact ⟨rfl, HE.out⟩
end Go.Proofs.YtijggofelepaaaaGreatDoor

/- draft.changed: the stretches in which a draft is not as it was. -/
set_option maxRecDepth 100000
namespace Go.Proofs.YtijggofelepaaaaGreatDoor
open Go.RowKit

/-- A stretch's cells: from, to. -/
def sgC (x : Nat × Nat) : List Value := [.int .i64 x.1, .int .i64 x.2]
/-- Stretches in a row of their own. -/
def SgAt (B : Nat) (w : World) (v : Value) (l : List (Nat × Nat)) : Prop := w.ownsRow B 205 2 v l.length (l.flatMap sgC)
theorem sg_len (l : List (Nat × Nat)) : (l.flatMap sgC).length = l.length * 2 := by
  induction l with
  | nil => rfl
  | cons x r ih => rw [List.flatMap_cons, List.length_append, ih]; simp [sgC]; omega
theorem flat2 (l : List (Nat × Nat)) (k : Nat) (hk : k < l.length) (j : Nat) (hj : j < 2) : (l.flatMap sgC)[k * 2 + j]? = (sgC l[k])[j]? := by
  induction l generalizing k with
  | nil => simp at hk
  | cons p r ih =>
    rw [List.flatMap_cons]
    have hl : (sgC p).length = 2 := rfl
    cases k with
    | zero => rw [List.getElem?_append_left (by omega)]; simp
    | succ k =>
      rw [List.getElem?_append_right (by omega), show (k + 1) * 2 + j - (sgC p).length = k * 2 + j by omega, ih k (by simpa using hk)]
      rfl
theorem sg_set (l : List (Nat × Nat)) (x : Nat × Nat) (t : Nat) : ((l ++ [x]).flatMap sgC).set (l.length * 2 + 1) (.int .i64 t) = (l ++ [(x.1, t)]).flatMap sgC := by
  rw [List.flatMap_append, List.flatMap_append, List.set_append_right _ _ (by rw [sg_len]; omega), sg_len, show l.length * 2 + 1 - l.length * 2 = 1 by omega]
  rfl
theorem SgAt.at {B : Nat} {w : World} {a : Option Addr} {n c : Nat} {l : List (Nat × Nat)} (h : SgAt B w (.slice a n c) l) {k : Nat} (hk : k < l.length) :
    ∃ g, a = some ⟨g, 0, none⟩ ∧ B ≤ g ∧ g < w.heap.size ∧ n = l.length ∧ w.cell? ⟨g, k * 2, none⟩ = some (.int .i64 l[k].1) ∧ w.cell? ⟨g, k * 2 + 1, none⟩ = some (.int .i64 l[k].2) := by
  rcases h.2 with ⟨_, h0⟩ | ⟨g, cap, cur, hv, hB, hg, _⟩
  · omega
  · injection hv with hv hn _
    subst hv
    have hc : ∀ j, j < 2 → w.cell? ⟨g, k * 2 + j, none⟩ = (sgC l[k])[j]? := fun j hj => by
      have := h.cells (g := g) rfl (k * 2 + j)
      cases hv : (sgC l[k])[j]? with
      | none => have : (sgC l[k]).length = 2 := rfl; rw [List.getElem?_eq_none_iff] at hv; omega
      | some u =>
        have := this u (by rw [flat2 l k hk j hj, hv])
        rwa [add_lit', Nat.zero_add] at this
    exact ⟨g, rfl, hB, (Array.getElem?_eq_some_iff.1 hg).1, hn, hc 0 (by omega), hc 1 (by omega)⟩

/-- One place more. -/
def chStep (was now : List UInt8) (l : List (Nat × Nat)) (i : Nat) : List (Nat × Nat) :=
  if now.getD i 0 = was.getD i 0 then l
  else match l.getLast? with
    | some x => if i ≤ x.2 + 6 then l.dropLast ++ [(x.1, i + 1)] else l ++ [(i, i + 1)]
    | none => l ++ [(i, i + 1)]
def chUpto (was now : List UInt8) : Nat → List (Nat × Nat)
  | 0 => []
  | q + 1 => chStep was now (chUpto was now q) q

def SgOk (q : Nat) (l : List (Nat × Nat)) : Prop := l.length ≤ q ∧ ∀ x ∈ l, x.1 < x.2 ∧ x.2 ≤ q
theorem SgOk.step {was now : List UInt8} {l : List (Nat × Nat)} {q : Nat} (h : SgOk q l) : SgOk (q + 1) (chStep was now l q) := by
  have h0 : SgOk (q + 1) l := ⟨by have := h.1; omega, fun x hx => by have := h.2 x hx; omega⟩
  have h1 : SgOk (q + 1) (l ++ [(q, q + 1)]) := ⟨by rw [List.length_append]; have := h.1; simp; omega, fun x hx => by
    rcases List.mem_append.1 hx with hx | hx
    · exact h0.2 x hx
    · rw [List.mem_singleton] at hx; subst hx; simp⟩
  unfold chStep
  split
  · exact h0
  · split
    · rename_i x hx
      split
      · have hm := List.mem_of_getLast? hx
        refine ⟨?_, fun y hy => ?_⟩
        · rw [List.length_append, List.length_dropLast]; have := h.1; have := List.length_pos_of_mem hm; simp; omega
        · rcases List.mem_append.1 hy with hy | hy
          · exact h0.2 y ((List.dropLast_sublist l).subset hy)
          · rw [List.mem_singleton] at hy; subst hy
            have := h.2 x hm
            simp only; omega
      · exact h1
    · exact h1
theorem chUpto_ok (was now : List UInt8) (q : Nat) : SgOk q (chUpto was now q) := by
  induction q with
  | zero => exact ⟨by simp [chUpto], by simp [chUpto]⟩
  | succ q ih => exact ih.step

theorem infoSg : (Tryz.prog.info? 205).map (fun i => (i.zero, i.size, i.bytes)) = some (some (.agg #[.int .i64 0, .int .i64 0]), 2, 16) := by kernel_rfl

theorem byteCell_at (l : List UInt8) (i : Nat) (hi : i < l.length) : (Lib.byteCells l)[i]? = some (.int .u8 ((l.getD i 0).toNat : Int)) := by
  simp [Lib.byteCells, List.getElem?_map, List.getElem?_eq_getElem hi, List.getD_eq_getElem?_getD]
theorem Dr.at_was {w : World} {x : Dr} (h : w.rangeAt x.blk 0 x.cells) (h1 : x.was.length = 512) {i : Nat} (hi : i < 512) : w.cell? ⟨x.blk, 1 + i, none⟩ = some (.int .u8 ((x.was.getD i 0).toNat : Int)) := by
  have := h (1 + i) (.int .u8 ((x.was.getD i 0).toNat : Int)) (by
    rw [Dr.cells, show 1 + i = i + 1 by omega, List.getElem?_cons_succ, List.getElem?_append_left (by rw [Lib.byteCells_length]; omega), byteCell_at _ _ (by omega)])
  rwa [Nat.zero_add] at this
theorem Dr.at_now {w : World} {x : Dr} (h : w.rangeAt x.blk 0 x.cells) (h1 : x.was.length = 512) (h2 : x.now.length = 512) {i : Nat} (hi : i < 512) : w.cell? ⟨x.blk, 513 + i, none⟩ = some (.int .u8 ((x.now.getD i 0).toNat : Int)) := by
  have := h (513 + i) (.int .u8 ((x.now.getD i 0).toNat : Int)) (by
    rw [Dr.cells, show 513 + i = (512 + i) + 1 by omega, List.getElem?_cons_succ, List.getElem?_append_right (by rw [Lib.byteCells_length]; omega), Lib.byteCells_length, h1, show 512 + i - 512 = i by omega, byteCell_at _ _ (by omega)])
  rwa [Nat.zero_add] at this

set_option maxHeartbeats 3200000 in
theorem changed_any (x : Dr) (w : World) (hr : w.rangeAt x.blk 0 x.cells) (h1 : x.was.length = 512) (h2 : x.now.length = 512) :
    Calls Tryz.prog 135 #[x.ptr] w fun e w' => ∃ v, e = .returned v ∧ SgAt w.heap.size w' v (chUpto x.was x.now 512) ∧ Below w.heap.size w w' := by
  obtain ⟨ip, hip, q0, q1, q2⟩ := info_parts infoSg
  have hlt : x.blk < w.heap.size := World.block_lt_of_cell? w _ (hr 0 _ rfl)
  have HC : Hid (∀ W, Below w.heap.size w W → ∀ i, i < 512 → W.cell? ⟨x.blk, 1 + i, none⟩ = some (.int .u8 ((x.was.getD i 0).toNat : Int)) ∧ W.cell? ⟨x.blk, 513 + i, none⟩ = some (.int .u8 ((x.now.getD i 0).toNat : Int))) := Lib.hid (fun W hb i hi => by
    have hW : W.rangeAt x.blk 0 x.cells := fun j v hv => (World.cell?_of_block (hb.block x.blk hlt)).trans (hr j v hv)
    exact ⟨Dr.at_was hW h1 hi, Dr.at_now hW h1 h2 hi⟩)
  obtain ⟨blk, fr, was, now⟩ := x
  simp only [Dr.ptr] at *
  clear hr h1 h2 hlt
  go_enter Tryz.func135, Tryz.ntmps135
  go_wp2
  go_loopw [3, 6] (fun v i wr => ∃ (q m : Nat) (a : Option Addr) (c : Nat) (acc : List (Nat × Nat)), q ≤ 512 ∧ i = .int .i64 q ∧ v = .slice a m c ∧ Hid (m = acc.length ∧ acc = chUpto was now q) ∧ Hid (SgAt w.heap.size wr (.slice a m c) acc) ∧ Hid (Below w.heap.size w wr)) (fun _ i _ => 512 - (intOf i).toNat)
  case atStart => exact ⟨0, 0, none, 0, [], by omega, rfl, rfl, Lib.hid ⟨rfl, rfl⟩, Lib.hid ⟨rfl, .inl ⟨rfl, rfl⟩⟩, Lib.hid (Below.refl _ _)⟩
  case round =>
    obtain ⟨q, m, a, c, acc, hq, rfl, rfl, hm, ho, hb⟩ := hrel
    have hok : SgOk q acc := by rw [hm.out.2]; exact chUpto_ok _ _ _
    by_cases hlt : q < 512
    · have hqi : (q : Int) < 512 := by omega
      have hq0 : (0 : Int) ≤ q := by omega
      have hwr : IntKind.i64.wrap ((q : Int) + 1) = (q : Int) + 1 := IntWalk.i64_in _ (by omega)
      obtain ⟨c1, c2⟩ := HC.out wr hb.out q hlt
      obtain ⟨y, hy⟩ : ∃ y : Int, y = ((was.getD q 0).toNat : Int) := ⟨_, rfl⟩
      obtain ⟨z, hz⟩ : ∃ z : Int, z = ((now.getD q 0).toNat : Int) := ⟨_, rfl⟩
      rw [← hy] at c1
      rw [← hz] at c2
      have hyz : z = y ↔ now.getD q 0 = was.getD q 0 := by
        rw [hy, hz]
        constructor
        · intro e; exact UInt8.toNat_inj.1 (by omega)
        · intro e; rw [e]
      by_cases he : now.getD q 0 = was.getD q 0
      · obtain rfl := hyz.2 he
        have hn : acc = chUpto was now (q + 1) := by rw [hm.out.2]; conv => rhs; unfold chUpto; unfold chStep; rw [if_pos he]
        have HM := Lib.hid (show m = acc.length ∧ acc = chUpto was now (q + 1) from ⟨hm.out.1, hn⟩)
        clear hy hz hyz he hn hok hm
        go_wp2
        go_quiet (fail)
        obtain ⟨W, hW⟩ : ∃ W, W = wr.drewN nq := ⟨_, rfl⟩
        rw [← hW]
        have hwb : Below wr.heap.size wr W := by rw [hW]; exact ⟨rfl, rfl, rfl, Nat.le_refl _, fun _ _ => rfl⟩
        have HO := Lib.hid (show SgAt w.heap.size W (.slice a m c) acc from ownsRow_below ho.out hwb)
        have HB := Lib.hid (hb.out.trans (hwb.mono hb.out.size))
        clear hwb hW c1 c2
        go_wp2
        go_roundw
        case rel => exact ⟨q + 1, m, a, c, acc, by omega, by simp, rfl, HM, HO, HB⟩
        case measure => simp [intOf]; omega
      · have hstep : chUpto was now (q + 1) = chStep was now acc q := by rw [hm.out.2]; rfl
        have hzy : (z == y) = false := by
          rw [beq_eq_false_iff_ne]; intro e; exact he (hyz.1 e)
        have hzy2 : decide (z = y) = false := decide_eq_false (fun e => he (hyz.1 e))
        have hcase : (acc = [] ∧ m = 0) ∨ ∃ (k : Nat) (l0 : List (Nat × Nat)) (x : Nat × Nat), acc = l0 ++ [x] ∧ l0.length = k ∧ m = k + 1 := by
          rcases List.eq_nil_or_concat acc with h | ⟨l0, x, h⟩
          · exact .inl ⟨h, by rw [hm.out.1, h]; rfl⟩
          · rw [List.concat_eq_append] at h; exact .inr ⟨l0.length, l0, x, h, rfl, by rw [hm.out.1, h]; simp⟩
        have hml : m = acc.length := hm.out.1
        rcases hcase with ⟨rfl, rfl⟩ | ⟨k, l0, x, rfl, hk, rfl⟩
        · have hn : chUpto was now (q + 1) = [(q, q + 1)] := by rw [hstep]; unfold chStep; rw [if_neg he]; rfl
          have HN := Lib.hid hn
          clear hy hz hyz he hn hok hm hstep hml
          go_wp2
          go_quiet (fail)
          obtain ⟨W, hW⟩ : ∃ W, W = wr.drewN nq := ⟨_, rfl⟩
          rw [← hW]
          have hwb : Below wr.heap.size wr W := by rw [hW]; exact ⟨rfl, rfl, rfl, Nat.le_refl _, fun _ _ => rfl⟩
          have hO : W.ownsRow w.heap.size 205 2 (.slice a 0 c) 0 [] := ownsRow_below ho.out hwb
          have HO := Lib.hid hO
          have hB := hb.out.trans (hwb.mono hb.out.size)
          have HB := Lib.hid hB
          have hWs := hB.size
          clear hwb hW c1 c2 hO hB ho hb
          go_wp2_with (at_builtin; refine wpList_append_own _ rfl _ _ 202 rfl w.heap.size 205 ip (.agg #[.int .i64 0, .int .i64 0]) 2 16 Tryz.underlying202 hip q0 q1 q2 rfl (by decide) _ _ _ rfl (HO.out.alloc _) ⟨W.heap.size, 0, none⟩ 1 1 [.int .i64 q, .int .i64 ((q : Int) + 1)] rfl rfl ?c1 ?c2 ?c3 ?c4 ?c5 ?_)
          case c1 =>
            intro j u hu
            have hq : j = 0 ∨ j = 1 := by
              have := (List.getElem?_eq_some_iff.1 hu).1
              simp at this
              omega
            have hg := heap_alloc_new W (.cells #[.int .i64 q, .int .i64 ((q : Int) + 1)] 205)
            rw [add_lit', Nat.zero_add, Lib.cell_of_heap hg]
            rcases hq with rfl | rfl <;> exact hu
          case c2 =>
            intro u hu
            simp only [List.mem_cons, List.not_mem_nil, or_false] at hu
            rcases hu with rfl | rfl <;> rfl
          case c3 => unfold maxLen; omega
          case c4 => omega
          case c5 => simp; omega
          intro v6 w6 hown6 hgrow6 _
          obtain ⟨a6, c6, rfl⟩ : ∃ a c, v6 = .slice a 1 c := by
            rcases hown6.2 with ⟨_, h0⟩ | ⟨g', cap', cur, hv, _⟩
            · omega
            · exact ⟨_, cap', hv⟩
          have HO6 : Hid (SgAt w.heap.size w6 (.slice a6 1 c6) [(q, q + 1)]) := Lib.hid hown6
          have HB6 := Lib.hid ((HB.out.alloc hWs (.cells #[.int .i64 q, .int .i64 ((q : Int) + 1)] 205)).grown hgrow6 (by simp; omega) (fun k hk => (World.ownsRow.lt HO.out k hk).1))
          clear hown6 hgrow6
          go_wp2
          go_roundw
          case rel => exact ⟨q + 1, 1, a6, c6, _, by omega, by simp, rfl, Lib.hid ⟨rfl, HN.out.symm⟩, HO6, HB6⟩
          case measure => simp [intOf]; omega
        · obtain ⟨g, rfl, hBg, hgl, -, -, e1⟩ := ho.out.at (k := k) (by rw [← hk]; simp)
          have hxk : (l0 ++ [x])[k]'(by rw [← hk]; simp) = x := by simp [← hk]
          rw [hxk] at e1
          have hx := hok.2 x (by simp)
          obtain ⟨t, ht⟩ : ∃ t, t = x.2 := ⟨_, rfl⟩
          rw [← ht] at e1 hx
          have hlast : (l0 ++ [x]).getLast? = some x := by simp
          have hkq : k + 1 ≤ q := by have := hok.1; simp at this; omega
          have htq : (t : Int) ≤ q := by omega
          have ht0 : (0 : Int) ≤ t := by omega
          have h0k : (0 : Int) < (k : Int) + 1 := by omega
          have HCE : Hid (∀ W, Below wr.heap.size wr W → W.cell? ⟨g, k * 2 + 1, none⟩ = some (.int .i64 t) ∧ W.frozen? ⟨g, k * 2 + 1, none⟩ = false) := Lib.hid (fun W hb => ⟨(World.cell?_of_block (hb.block g hgl)).trans e1, (show W.ownsRow w.heap.size 205 2 (.slice (some ⟨g, 0, none⟩) (k + 1) c) (k + 1) ((l0 ++ [x]).flatMap sgC) from by have := ownsRow_below ho.out hb; rw [← hml] at this; exact this).frozenAt _⟩)
          have HK := Lib.hid hk; have HT := Lib.hid ht; have HML := Lib.hid hml
          by_cases hnear : q ≤ t + 6
          · have hn : chUpto was now (q + 1) = l0 ++ [(x.1, q + 1)] := by rw [hstep]; unfold chStep; rw [if_neg he, hlast]; simp only; rw [← ht, if_pos hnear]; simp
            have hnear2 : (q : Int) - t ≤ 6 := by omega
            have hst : ∀ W, Below wr.heap.size wr W → SgAt w.heap.size (W.setCell ⟨g, k * 2 + 1, none⟩ (.int .i64 ((q : Int) + 1))) (.slice (some ⟨g, 0, none⟩) (k + 1) c) (l0 ++ [(x.1, q + 1)]) ∧ Below w.heap.size w (W.setCell ⟨g, k * 2 + 1, none⟩ (.int .i64 ((q : Int) + 1))) := fun W hWb => by
              have h1 : W.ownsRow w.heap.size 205 2 (.slice (some ⟨g, 0, none⟩) (k + 1) c) (l0 ++ [x]).length ((l0 ++ [x]).flatMap sgC) := ownsRow_below ho.out hWb
              rw [← hml] at h1
              obtain ⟨h2, h3⟩ := h1.stored (k * 2 + 1) (.int .i64 ((q : Int) + 1))
              rw [← hk, show ((q : Int) + 1) = ((q + 1 : Nat) : Int) by simp, sg_set, hk] at h2
              refine ⟨?_, (hb.out.trans (hWb.mono hb.out.size)).grown h3 (by have := hb.out.size; have := hWb.size; omega) (fun j hj => by cases hj; exact hBg)⟩
              unfold SgAt
              rw [show (l0 ++ [(x.1, q + 1)]).length = k + 1 by simp [hk]]
              exact h2
            have HST := Lib.hid hst
            have HN := Lib.hid hn
            clear hy hz hyz he hn hok hm hstep hml hlast hxk hx ht hk hst hnear ho hb e1
            go_wp2
            go_quiet (fail)
            obtain ⟨W, hW⟩ : ∃ W, W = wr.drewN nq := ⟨_, rfl⟩
            rw [← hW]
            have hwb : Below wr.heap.size wr W := by rw [hW]; exact ⟨rfl, rfl, rfl, Nat.le_refl _, fun _ _ => rfl⟩
            obtain ⟨e1, e2⟩ := HCE.out W hwb
            obtain ⟨s1, s2⟩ := HST.out W hwb
            have HS1 := Lib.hid s1; have HS2 := Lib.hid s2
            clear hwb hW c1 c2 s1 s2
            go_wp2
            go_roundw
            case rel => exact ⟨q + 1, k + 1, _, c, _, by omega, by simp, rfl, Lib.hid ⟨by rw [List.length_append, HK.out]; rfl, HN.out.symm⟩, HS1, HS2⟩
            case measure => simp [intOf]; omega
          · have hn : chUpto was now (q + 1) = (l0 ++ [x]) ++ [(q, q + 1)] := by rw [hstep]; unfold chStep; rw [if_neg he, hlast]; simp only; rw [← ht, if_neg hnear]
            have hfar : (6 : Int) < (q : Int) - t := by omega
            obtain ⟨acc, hacc⟩ : ∃ acc, acc = l0 ++ [x] := ⟨_, rfl⟩
            rw [← hacc] at hn hml ho
            have HN := Lib.hid hn
            have HML := Lib.hid hml
            clear hy hz hyz he hn hok hm hstep hml hlast hxk hx ht hk hnear e1 hacc
            go_wp2
            go_quiet (fail)
            obtain ⟨W, hW⟩ : ∃ W, W = wr.drewN nq := ⟨_, rfl⟩
            rw [← hW]
            have hwb : Below wr.heap.size wr W := by rw [hW]; exact ⟨rfl, rfl, rfl, Nat.le_refl _, fun _ _ => rfl⟩
            obtain ⟨e1, e2⟩ := HCE.out W hwb
            have hO : W.ownsRow w.heap.size 205 2 (.slice (some ⟨g, 0, none⟩) (k + 1) c) (k + 1) (acc.flatMap sgC) := by
              have := ownsRow_below ho.out hwb
              rw [← HML.out] at this
              exact this
            have HO := Lib.hid hO
            have hB := hb.out.trans (hwb.mono hb.out.size)
            have HB := Lib.hid hB
            have hWs := hB.size
            clear hwb hW c1 c2 hO hB ho hb
            go_wp2_with (at_builtin; refine wpList_append_own _ rfl _ _ 202 rfl w.heap.size 205 ip (.agg #[.int .i64 0, .int .i64 0]) 2 16 Tryz.underlying202 hip q0 q1 q2 rfl (by decide) _ _ _ rfl (HO.out.alloc _) ⟨W.heap.size, 0, none⟩ 1 1 [.int .i64 q, .int .i64 ((q : Int) + 1)] rfl rfl ?c1 ?c2 ?c3 ?c4 ?c5 ?_)
            case c1 =>
              intro j u hu
              have hq : j = 0 ∨ j = 1 := by
                have := (List.getElem?_eq_some_iff.1 hu).1
                simp at this
                omega
              have hg := heap_alloc_new W (.cells #[.int .i64 q, .int .i64 ((q : Int) + 1)] 205)
              rw [add_lit', Nat.zero_add, Lib.cell_of_heap hg]
              rcases hq with rfl | rfl <;> exact hu
            case c2 =>
              intro u hu
              simp only [List.mem_cons, List.not_mem_nil, or_false] at hu
              rcases hu with rfl | rfl <;> rfl
            case c3 => unfold maxLen; omega
            case c4 => omega
            case c5 => simp; omega
            intro v6 w6 hown6 hgrow6 _
            obtain ⟨a6, c6, rfl⟩ : ∃ a c, v6 = .slice a (k + 1 + 1) c := by
              rcases hown6.2 with ⟨_, h0⟩ | ⟨g', cap', cur, hv, _⟩
              · omega
              · exact ⟨_, cap', hv⟩
            have HO6 : Hid (SgAt w.heap.size w6 (.slice a6 (k + 1 + 1) c6) (acc ++ [(q, q + 1)])) := Lib.hid (by
              unfold SgAt
              rw [List.length_append, List.flatMap_append, ← HML.out]
              exact hown6)
            have HB6 := Lib.hid ((HB.out.alloc hWs (.cells #[.int .i64 q, .int .i64 ((q : Int) + 1)] 205)).grown hgrow6 (by simp; omega) (fun k hk => (World.ownsRow.lt HO.out k hk).1))
            clear hown6 hgrow6
            go_wp2
            go_roundw
            case rel => exact ⟨q + 1, k + 1 + 1, a6, c6, _, by omega, by simp, rfl, Lib.hid ⟨by rw [List.length_append, ← HML.out]; rfl, HN.out.symm⟩, HO6, HB6⟩
            case measure => simp [intOf]; omega
    · have hq5 : q = 512 := by omega
      subst hq5
      have HA := Lib.hid hm.out.2
      clear hm hok
      go_wp2
      go_ret
      exact ⟨_, rfl, by rw [← HA.out]; exact ho.out, hb.out⟩
end Go.Proofs.YtijggofelepaaaaGreatDoor

/- draft.patches: what leads from a page, as it was, to its draft. -/
set_option maxRecDepth 100000
namespace Go.Proofs.YtijggofelepaaaaGreatDoor
open Go.RowKit

theorem pt_len (l : List Pt) : (l.flatMap Pt.cells).length = l.length * 3 := by
  induction l with
  | nil => rfl
  | cons x r ih => rw [List.flatMap_cons, List.length_append, ih]; simp [Pt.cells]; omega

/-- Patches behind patches: where the new row lies. -/
theorem append_pts (w : World) (v : Value) (ps qs : List Pt) (ad : Addr) (c : Nat) (h : PtsAt 0 w v ps) (hc : ∀ j u, (qs.flatMap Pt.cells)[j]? = some u → w.cell? (ad.add j) = some u) (hl : ps.length + qs.length ≤ 4194304) (ty : TypeId) :
    ∃ v' w', (Builtin.append_ #[108, 108] ty #[v, .slice (some ad) qs.length c]).run Tryz.prog w = .ok v' w' ∧ PtsAt 0 w' v' (ps ++ qs) ∧ Grew w w' v v' := by
  obtain ⟨i0, hi, q0, q1, q2⟩ := info_parts infoPt
  obtain ⟨v', w', hr, h1, h2⟩ := append_own2 w 108 ty 196 i0 (.agg #[.int .i64 0, .int .i64 0, .string ⟨#[]⟩]) 3 32 Tryz.underlying108 hi q0 q1 q2 rfl (by decide) v ps.length (ps.flatMap Pt.cells) h ad qs.length c (qs.flatMap Pt.cells) (pt_len qs) hc (fun u hu => by
    obtain ⟨p, _, hu⟩ := List.mem_flatMap.1 hu
    simp only [Pt.cells, List.mem_cons, List.not_mem_nil, or_false] at hu
    rcases hu with rfl | rfl | rfl <;> rfl) (by unfold maxLen; omega) (by omega) (by omega)
  refine ⟨v', w', hr, ?_, h2⟩
  rw [PtsAt, List.flatMap_append, List.length_append]
  exact h1
theorem append_pt1 (w : World) (v : Value) (ps : List Pt) (p : Pt) (ad : Addr) (c : Nat) (h : PtsAt 0 w v ps) (hc : ∀ j u, p.cells[j]? = some u → w.cell? (ad.add j) = some u) (hl : ps.length < 4194304) (ty : TypeId) :
    ∃ a' c' w', (Builtin.append_ #[108, 108] ty #[v, .slice (some ad) 1 c]).run Tryz.prog w = .ok (.slice a' (ps.length + 1) c') w' ∧ PtsAt 0 w' (.slice a' (ps.length + 1) c') (ps ++ [p]) ∧ Grew w w' v (.slice a' (ps.length + 1) c') := by
  obtain ⟨v', w', h1, h2, h3⟩ := append_pts w v ps [p] ad c h (by simpa using hc) (by simp; omega) ty
  obtain ⟨a', c', hv⟩ := h2.shape
  rw [List.length_append] at hv
  subst hv
  exact ⟨a', c', w', h1, h2, h3⟩
theorem append_ptsv (w : World) (v u : Value) (ps qs : List Pt) (B : Nat) (h : PtsAt 0 w v ps) (hu : PtsAt B w u qs) (hl : ps.length + qs.length ≤ 4194304) (ty : TypeId) :
    ∃ v' w', (Builtin.append_ #[108, 108] ty #[v, u]).run Tryz.prog w = .ok v' w' ∧ PtsAt 0 w' v' (ps ++ qs) ∧ Grew w w' v v' := by
  rcases hu.2 with ⟨rfl, h0⟩ | ⟨g, cap, cur, rfl, hB, hg, _⟩
  · obtain rfl : qs = [] := List.eq_nil_of_length_eq_zero h0
    obtain ⟨i0, hi, q0, q1, q2⟩ := info_parts infoPt
    have hr := run_append_owned_none (P := Tryz.prog) (w := w) 0 108 ty 196 i0 3 Tryz.underlying108 hi v _ _ h
    exact ⟨_, _, hr, by rw [List.append_nil]; exact h, Grew.refl _ _⟩
  · exact append_pts w v ps qs ⟨g, 0, none⟩ cap h (fun j u hj => hu.cells (g := g) rfl j u hj) hl ty

/-- What leads from a page to its draft. -/
def freshPt (q : Nat) (fr : Bool) : List Pt := if fr then [⟨q, 0, ⟨#[]⟩⟩] else []
def sgPt (q : Nat) (now : List UInt8) (s : Nat × Nat) : Pt := ⟨q, s.1, ⟨((now.drop s.1).take (s.2 - s.1)).toArray⟩⟩
def drPts (q : Nat) (x : Dr) : List Pt := freshPt q x.fresh ++ (chUpto x.was x.now 512).map (sgPt q x.now)

theorem run_slicePart (W : World) (b o f t : Nat) (h1 : f < t) (h2 : t ≤ 512) : (Instr.sliceAt 101 (.pointer (some ⟨b, o, none⟩)) (some (.int .i64 f)) (some (.int .i64 t)) none).run Tryz.prog W = .ok (.slice (some ⟨b, o + f, none⟩) (t - f) (512 - f)) W := by
  obtain ⟨i, hi, hs⟩ := Option.map_eq_some_iff.1 (show (Tryz.prog.info? 5).map (·.size) = some 1 by kernel_rfl)
  have e1 : f ≤ t := by omega
  have e2 : ¬ 512 = f := by omega
  simp [Instr.sliceAt, run_underlying Tryz.underlying101, Instr.sureAddr, Instr.sliceBounds, Instr.sliceBound, asIntOf, sizeOf, typeInfo, hi, hs, Result.andThen, e1, h2, e2, add_lit']

theorem Dr.string_part {w : World} {b f t c : Nat} {now : List UInt8} (h : w.rangeAt b 513 (Lib.byteCells now)) (h2 : now.length = 512) (hft : f < t) (ht : t ≤ 512) : (convert 94 9 (.slice (some ⟨b, 513 + f, none⟩) (t - f) c)).run Tryz.prog w = .ok (.string ⟨((now.drop f).take (t - f)).toArray⟩) w := by
  have hl : ((now.drop f).take (t - f)).length = t - f := by simp [h2]; omega
  have := run_string_mid w b (513 + f) c ((now.drop f).take (t - f)) (fun j v hv => by
    rw [← byteCells_take, ← byteCells_drop, List.getElem?_take] at hv
    split at hv
    · rw [List.getElem?_drop] at hv
      have := h (f + j) v hv
      rwa [show 513 + f + j = 513 + (f + j) by omega]
    · cases hv)
  rwa [hl] at this

set_option maxHeartbeats 3200000 in
theorem dpatches_any (q : Nat) (x : Dr) (w : World) (hr : w.rangeAt x.blk 0 x.cells) (h1 : x.was.length = 512) (h2 : x.now.length = 512) :
    Calls Tryz.prog 88 #[x.ptr, .int .i64 q] w fun e w' => ∃ v, e = .returned v ∧ PtsAt w.heap.size w' v (drPts q x) ∧ Below w.heap.size w w' := by
  have hlt : x.blk < w.heap.size := World.block_lt_of_cell? w _ (hr 0 _ rfl)
  have HLT := Lib.hid hlt
  have HRW : Hid (∀ W, Below w.heap.size w W → W.rangeAt x.blk 0 x.cells) := Lib.hid (fun W hb j v hv => (World.cell?_of_block (hb.block x.blk hlt)).trans (hr j v hv))
  have HCH : Hid (∀ W, Below w.heap.size w W → Calls Tryz.prog 135 #[x.ptr] W fun e w' => ∃ a c, e = .returned (.slice a (chUpto x.was x.now 512).length c) ∧ SgAt W.heap.size w' (.slice a (chUpto x.was x.now 512).length c) (chUpto x.was x.now 512) ∧ Below W.heap.size W w') := Lib.hid (fun W hb => (changed_any x W (HRW.out W hb) h1 h2).mono fun e w' ⟨v, e1, e2, e3⟩ => by
    have : ∃ a c, v = .slice a (chUpto x.was x.now 512).length c := by
      rcases e2.2 with ⟨h1, h0⟩ | ⟨g, cap, cur, hv, _⟩
      · exact ⟨none, 0, by rw [h1, h0]⟩
      · exact ⟨_, cap, hv⟩
    obtain ⟨a, c, rfl⟩ := this
    exact ⟨a, c, e1, e2, e3⟩)
  have c0 : w.cell? ⟨x.blk, 0, none⟩ = some (.bool x.fresh) := hr 0 _ rfl
  have HOK : Hid (SgOk 512 (chUpto x.was x.now 512)) := Lib.hid (chUpto_ok _ _ _)
  have HNW : Hid (∀ W, Below w.heap.size w W → W.rangeAt x.blk 513 (Lib.byteCells x.now)) := Lib.hid (fun W hb => Dr.range_now (HRW.out W hb) h1)
  unfold drPts
  obtain ⟨L, hL⟩ : ∃ L, L = chUpto x.was x.now 512 := ⟨_, rfl⟩
  rw [← hL] at HCH HOK ⊢
  obtain ⟨blk, fr, was, now⟩ := x
  simp only [Dr.ptr] at *
  have H2 := Lib.hid h2
  obtain ⟨n, hn⟩ : ∃ n, n = L.length := ⟨_, rfl⟩
  have HN := Lib.hid hn
  rw [← hn] at HCH
  have hn512 : n ≤ 512 := by rw [hn]; exact HOK.out.1
  clear hr h1 h2 hL hn HRW
  have hq9 : L.length ≤ 512 := HOK.out.1
  have HQ9 := Lib.hid hq9
  clear hq9
  obtain ⟨pre, hpre⟩ : ∃ pre, pre = freshPt q fr := ⟨_, rfl⟩
  have hprl : pre.length ≤ 1 := by rw [hpre]; cases fr <;> simp [freshPt]
  have HPL := Lib.hid hprl
  rw [← hpre]
  have HPRE := Lib.hid hpre
  clear hpre hprl
  cases fr
  case' false =>
    obtain ⟨v0, hv0⟩ : ∃ v0, v0 = Value.slice none 0 0 := ⟨_, rfl⟩
    obtain ⟨wa, hwa⟩ : ∃ wa, wa = w := ⟨_, rfl⟩
    have HP0 : Hid (PtsAt w.heap.size wa v0 pre) := Lib.hid (by rw [hv0, HPRE.out]; exact ⟨rfl, .inl ⟨rfl, rfl⟩⟩)
    have HB0 : Hid (Below w.heap.size w wa) := Lib.hid (by rw [hwa]; exact Below.refl _ _)
    have HPZ : Hid (0 = pre.length) := Lib.hid (by rw [HPRE.out]; rfl)
    have HV0 := Lib.hid hv0
    have HWA := Lib.hid hwa
    clear hv0 hwa
    go_enter Tryz.func88, Tryz.ntmps88
    go_wp2_with fail
    rw [← HWA.out]
  case' true =>
    obtain ⟨a6, c6, w6, hr6, ho6, hg6⟩ := append_pt1 (w.alloc (.cells #[.int .i64 q, .int .i64 0, .string ⟨#[]⟩] 196)) (.slice none 0 0) [] ⟨q, 0, ⟨#[]⟩⟩ ⟨w.heap.size, 0, none⟩ 1 ⟨rfl, .inl ⟨rfl, rfl⟩⟩ (fun j u hu => by
      have hg := heap_alloc_new w (.cells #[.int .i64 q, .int .i64 0, .string ⟨#[]⟩] 196)
      rw [add_lit', Nat.zero_add, Lib.cell_of_heap hg, List.getElem?_toArray]; exact hu) (by simp) 108
    have hb0 : Below w.heap.size w (w.alloc (.cells #[.int .i64 q, .int .i64 0, .string ⟨#[]⟩] 196)) := (Below.refl _ _).alloc (Nat.le_refl _) _
    have HP0 : Hid (PtsAt w.heap.size w6 (.slice a6 1 c6) pre) := Lib.hid (by
      rw [HPRE.out]
      rcases ho6.2 with h | ⟨g, cap, cur, hv, _, r⟩
      · exact ⟨ho6.1, .inl h⟩
      · refine ⟨ho6.1, .inr ⟨g, cap, cur, hv, ?_, r⟩⟩
        have := hg6.own (B := w.heap.size) (by simp) (fun k hk => by simp [Value.ownBlock] at hk) g (by rw [hv]; rfl)
        exact this)
    have HB0 : Hid (Below w.heap.size w w6) := Lib.hid (hb0.trans (hg6.below (by simp) (fun k hk => by simp [Value.ownBlock] at hk)))
    obtain ⟨v0, hv0⟩ : ∃ v0, v0 = Value.slice a6 1 c6 := ⟨_, rfl⟩
    obtain ⟨wa, hwa⟩ : ∃ wa, wa = w6 := ⟨_, rfl⟩
    rw [← hv0] at HP0
    rw [← hwa] at HP0 HB0
    have HPZ : Hid (1 = pre.length) := Lib.hid (by rw [HPRE.out]; rfl)
    have HV0 := Lib.hid hv0
    have HWA := Lib.hid hwa
    have HR6 : Hid ((Builtin.append_ #[108, 108] 108 #[.slice none 0 0, .slice (some ⟨w.heap.size, 0, none⟩) 1 1]).run Tryz.prog (w.alloc (.cells #[.int .i64 q, .int .i64 0, .string ⟨#[]⟩] 196)) = .ok (.slice a6 1 c6) w6) := Lib.hid hr6
    clear hv0 hwa hr6 ho6 hg6 hb0
    go_enter Tryz.func88, Tryz.ntmps88
    go_wp2_with (at_builtin; refine Lib.wpList_append_run _ rfl _ _ 108 108 rfl _ _ rfl rfl _ _ HR6.out ?_)
    rw [← HWA.out]
  all_goals
    refine (HCH.out _ HB0.out).mono ?_
    rintro e w2 ⟨a2, cc2, rfl, hsg, hb2⟩
    have HO0 : Hid (∀ k, v0.ownBlock = some k → w.heap.size ≤ k) := Lib.hid (fun k hk => (World.ownsRow.lt HP0.out k hk).1)
    have HSG : Hid (∀ W v, Grew w2 W v0 v → SgAt 0 W (.slice a2 n cc2) L) := Lib.hid (fun W v hg => by
      have h1 : w2.ownsRow 0 205 2 (.slice a2 n cc2) L.length (L.flatMap sgC) := Joins.ownsRow_le hsg (Nat.zero_le _)
      refine ownsRow_of_block h1 (fun k hk => hg.1.block k (World.ownsRow.lt h1 k hk).2 (fun e => ?_))
      have h2 := (World.ownsRow.lt HP0.out k e.symm).2
      have h3 := (World.ownsRow.lt hsg k hk).1
      omega)
    have HP2 : Hid (PtsAt 0 w2 v0 pre) := Lib.hid (Joins.ownsRow_le (ownsRow_below HP0.out hb2) (Nat.zero_le _))
    have HB2 : Hid (Below w.heap.size w w2) := Lib.hid (HB0.out.trans (hb2.mono HB0.out.size))
    clear hsg hb2
    go_wp2
    go_loopw [5, 20] (fun v i wr => ∃ (k m : Nat) (a : Option Addr) (c : Nat) (acc : List Pt), k ≤ n ∧ i = .int .i64 k ∧ v = .slice a m c ∧ Hid (m = acc.length ∧ acc = pre ++ (L.take k).map (sgPt q now)) ∧ Hid (PtsAt 0 wr (.slice a m c) acc) ∧ Hid (Grew w2 wr v0 (.slice a m c))) (fun _ i _ => n - (intOf i).toNat)
    case atStart => exact ⟨0, _, _, _, pre, by omega, rfl, rfl, Lib.hid ⟨HPZ.out, by simp⟩, Lib.hid (by rw [← HV0.out]; exact HP2.out), Lib.hid (by rw [← HV0.out]; exact Grew.refl _ _)⟩
    case round =>
      obtain ⟨k, m, a, c, acc, hk, rfl, rfl, hm, ho, hg⟩ := hrel
      by_cases hlt : k < n
      · have hlt' : k < L.length := by rw [← HN.out]; exact hlt
        have hkn : (k : Int) < n := by omega
        obtain ⟨g, rfl, -, hgl, -, e0, e1⟩ := (HSG.out wr _ hg.out).at hlt'
        obtain ⟨f, hf⟩ : ∃ f, f = L[k].1 := ⟨_, rfl⟩
        obtain ⟨t, ht⟩ : ∃ t, t = L[k].2 := ⟨_, rfl⟩
        have hft := HOK.out.2 L[k] (List.getElem_mem hlt')
        rw [← hf, ← ht] at hft
        rw [← hf] at e0
        rw [← ht] at e1
        obtain ⟨hft1, hft2⟩ := hft
        have hBr : Below w.heap.size w wr := HB2.out.trans (hg.out.below HB2.out.size HO0.out)
        have hb1 : Below wr.heap.size wr ((wr.alloc (.cells #[.int .i64 f, .int .i64 t] 205)).drew) := ((Below.refl _ wr).alloc (Nat.le_refl _) _).drew
        have hsl := fun W => run_slicePart W blk 513 f t hft1 hft2
        have hcv := Dr.string_part (c := 512 - f) (HNW.out _ (hBr.trans (hb1.mono hBr.size))) H2.out hft1 hft2
        obtain ⟨S, hS⟩ : ∃ S : ByteArray, S = ⟨((now.drop f).take (t - f)).toArray⟩ := ⟨_, rfl⟩
        have hptk : sgPt q now L[k] = ⟨q, f, S⟩ := by rw [hS, hf, ht]; rfl
        obtain ⟨cn, hcn⟩ : ∃ cn, cn = wr.heap.size := ⟨_, rfl⟩
        obtain ⟨W0, hW0⟩ : ∃ W0, W0 = (wr.alloc (.cells #[.int .i64 f, .int .i64 t] 205)).drew := ⟨_, rfl⟩
        have hb1 : Below wr.heap.size wr W0 := by rw [hW0]; exact ((Below.refl _ wr).alloc (Nat.le_refl _) _).drew
        have hgc : W0.heap[cn]? = some (.cells #[.int .i64 f, .int .i64 t] 205 (0, 0)) := by rw [hW0, hcn]; exact heap_alloc_new wr _
        have hz0 : W0.heap.size = cn + 1 := by rw [hW0, hcn]; simp
        have hblk : blk < wr.heap.size := Nat.lt_of_lt_of_le HLT.out hBr.size
        have hnw0 : W0.rangeAt blk 513 (Lib.byteCells now) := HNW.out _ (hBr.trans (hb1.mono hBr.size))
        obtain ⟨W1, hW1⟩ : ∃ W1, W1 = W0.alloc (.cells #[.int .i64 q, .int .i64 f, .string S] 196) := ⟨_, rfl⟩
        have hb2 : Below W0.heap.size W0 W1 := by rw [hW1]; exact (Below.refl _ W0).alloc (Nat.le_refl _) _
        have hb3 : Below wr.heap.size wr W1 := hb1.trans (hb2.mono hb1.size)
        have hcap : acc.length < 4194304 := by
          rw [hm.out.2, List.length_append, List.length_map, List.length_take]
          have h1 := HPL.out; have h2 := HQ9.out
          omega
        obtain ⟨a6, c6, w6, hr6, ho6, hg6⟩ := append_pt1 W1 (.slice a m c) acc ⟨q, f, S⟩ ⟨cn + 1, 0, none⟩ 1 (Joins.ownsRow_le (ownsRow_below ho.out hb3) (Nat.zero_le _)) (fun j u hu => by
          have hg := heap_alloc_new W0 (.cells #[.int .i64 q, .int .i64 f, .string S] 196)
          rw [hz0] at hg
          have h2 := Lib.cell_of_heap (w := W1) (by rw [hW1]; exact hg) (0 + j)
          rw [add_lit', h2, Nat.zero_add, List.getElem?_toArray]; exact hu) hcap 108
        have hown : ∀ k, (Value.slice a m c).ownBlock = some k → w.heap.size ≤ k ∧ k < wr.heap.size := fun k hk => ⟨hg.out.own HB2.out.size HO0.out k hk, (World.ownsRow.lt ho.out k hk).2⟩
        have hkeep : ∀ k, k < W1.heap.size → (k = cn ∨ k = blk) → w6.heap[k]? = W1.heap[k]? := fun k hk hkk => hg6.1.block k hk (fun e => by
          have h1 := hown k e.symm
          have h2 := HLT.out
          rcases hkk with h | h <;> omega)
        have hS0 : W0.heap[cn]? = some (.cells #[.int .i64 f, .int .i64 t] 205 (0, 0)) ∧ W0.rangeAt blk 513 (Lib.byteCells now) := ⟨hgc, hnw0⟩
        have hlc : cn < W1.heap.size ∧ blk < W1.heap.size := by have := hb2.size; omega
        have hS1 : W1.heap[cn]? = some (.cells #[.int .i64 f, .int .i64 t] 205 (0, 0)) ∧ W1.rangeAt blk 513 (Lib.byteCells now) := ⟨(hb2.block cn (by omega)).trans hgc, fun j v hv => (World.cell?_of_block (hb2.block blk (by omega))).trans (hnw0 j v hv)⟩
        have hS6 : w6.heap[cn]? = some (.cells #[.int .i64 f, .int .i64 t] 205 (0, 0)) ∧ w6.rangeAt blk 513 (Lib.byteCells now) := ⟨(hkeep cn hlc.1 (.inl rfl)).trans hS1.1, fun j v hv => (World.cell?_of_block (hkeep blk hlc.2 (.inr rfl))).trans (hS1.2 j v hv)⟩
        rw [← hm.out.1] at hr6 ho6 hg6
        have HR6 := Lib.hid hr6
        have HO6 := Lib.hid ho6
        have HG6 : Hid (Grew w2 w6 v0 (.slice a6 (m + 1) c6)) := Lib.hid ((hg.out.trans (Grew.ofBelow hb3 _)).trans hg6)
        have HM6 : Hid (m + 1 = (acc ++ [(⟨q, f, S⟩ : Pt)]).length ∧ acc ++ [(⟨q, f, S⟩ : Pt)] = pre ++ (L.take (k + 1)).map (sgPt q now)) := Lib.hid ⟨by rw [List.length_append, ← hm.out.1]; rfl, by
          rw [List.take_succ_eq_append_getElem hlt', List.map_append, ← List.append_assoc, ← hm.out.2, List.map_cons, List.map_nil, hptk]⟩
        have hf0 : (0 : Int) ≤ f := by omega
        have HCV : Hid (∀ W : World, (W.heap[cn]? = some (.cells #[.int .i64 f, .int .i64 t] 205 (0, 0)) ∧ W.rangeAt blk 513 (Lib.byteCells now)) → (convert 94 9 (.slice (some ⟨blk, 513 + f, none⟩) (t - f) (512 - f))).run Tryz.prog W = .ok (.string S) W) := Lib.hid (fun W hW => by rw [hS]; exact Dr.string_part hW.2 H2.out hft1 hft2)
        have HL0 : Hid (∀ W : World, (W.heap[cn]? = some (.cells #[.int .i64 f, .int .i64 t] 205 (0, 0)) ∧ W.rangeAt blk 513 (Lib.byteCells now)) → W.cell? ⟨cn, 0, none⟩ = some (.int .i64 f) ∧ W.cell? ⟨cn, 1, none⟩ = some (.int .i64 t)) := Lib.hid (fun W hW => ⟨by rw [Lib.cell_of_heap hW.1]; rfl, by rw [Lib.cell_of_heap hW.1]; rfl⟩)
        have HSL : Hid (∀ W : World, (Instr.sliceAt 101 (.pointer (some ⟨blk, 513, none⟩)) (some (.int .i64 f)) (some (.int .i64 t)) none).run Tryz.prog W = .ok (.slice (some ⟨blk, 513 + f, none⟩) (t - f) (512 - f)) W) := Lib.hid (fun W => run_slicePart W blk 513 f t hft1 hft2)
        have HS0 := Lib.hid hS0; have HS1 := Lib.hid hS1; have HS6 := Lib.hid hS6
        have HW0 := Lib.hid hW0; have HW1 := Lib.hid hW1; have HCN := Lib.hid hcn; have HZ0 := Lib.hid hz0
        clear hf ht hm ho hg hr6 ho6 hg6 hptk hS hBr hb1 hb2 hb3 hcap hlt' hown hkeep hS0 hS1 hS6 hlc hnw0 hgc hW0 hW1 hcn hz0 hblk
        go_wp2
        rw [← HCN.out]
        refine wp_region_held_drew (S := fun W => W.heap[cn]? = some (.cells #[.int .i64 f, .int .i64 t] 205 (0, 0)) ∧ W.rangeAt blk 513 (Lib.byteCells now)) (by kernel_rfl) (by rw [← HW0.out]; exact HS0.out) (fun hHeld => ?_)
        rw [← HW0.out]
        refine wpAnyH_take (i := 0) (v := .slice a m c) rfl (by kernel_rfl) (by kernel_rfl) (by kernel_rfl) (fun _ _ _ h => h) (Or.inl ⟨by rfl, fun W hW => by go_simp⟩) HS0.out ?_
        refine wpAnyH_take (i := 1) (v := .int .i64 q) rfl (by kernel_rfl) (by kernel_rfl) (by kernel_rfl) (fun _ _ _ h => h) (Or.inl ⟨by rfl, fun W hW => by go_simp⟩) HS0.out ?_
        refine wpAnyH_take (i := 2) (v := .pointer (some ⟨cn, 0, none⟩)) rfl (by kernel_rfl) (by kernel_rfl) (by kernel_rfl) (fun _ _ _ h => h) (Or.inl ⟨by rfl, fun W hW => by go_simp⟩) HS0.out ?_
        refine wpAnyH_take (i := 3) (v := .int .i64 f) rfl (by kernel_rfl) (by kernel_rfl) (by kernel_rfl) (fun _ _ _ h => h) (Or.inl ⟨by rfl, fun W hW => by obtain ⟨x0, x1⟩ := HL0.out W hW; clear hW; go_simp⟩) HS0.out ?_
        refine wpAnyH_take (i := 4) (v := .pointer (some ⟨blk, 0, none⟩)) rfl (by kernel_rfl) (by kernel_rfl) (by kernel_rfl) (fun _ _ _ h => h) (Or.inl ⟨by rfl, fun W hW => by go_simp⟩) HS0.out ?_
        refine wpAnyH_take (i := 5) (v := .pointer (some ⟨blk, 0, none⟩)) rfl (by kernel_rfl) (by kernel_rfl) (by kernel_rfl) (fun _ _ _ h => h) (Or.inl ⟨by rfl, fun W hW => by go_simp⟩) HS0.out ?_
        refine wpAnyH_take (i := 6) (v := .pointer (some ⟨blk, 513, none⟩)) rfl (by kernel_rfl) (by kernel_rfl) (by kernel_rfl) (fun _ _ _ h => h) (Or.inl ⟨by rfl, fun W hW => by go_simp⟩) HS0.out ?_
        refine wpAnyH_take (i := 7) (v := .pointer (some ⟨cn, 0, none⟩)) rfl (by kernel_rfl) (by kernel_rfl) (by kernel_rfl) (fun _ _ _ h => h) (Or.inl ⟨by rfl, fun W hW => by go_simp⟩) HS0.out ?_
        refine wpAnyH_take (i := 8) (v := .int .i64 f) rfl (by kernel_rfl) (by kernel_rfl) (by kernel_rfl) (fun _ _ _ h => h) (Or.inl ⟨by rfl, fun W hW => by obtain ⟨x0, x1⟩ := HL0.out W hW; clear hW; go_simp⟩) HS0.out ?_
        refine wpAnyH_take (i := 9) (v := .pointer (some ⟨cn, 1, none⟩)) rfl (by kernel_rfl) (by kernel_rfl) (by kernel_rfl) (fun _ _ _ h => h) (Or.inl ⟨by rfl, fun W hW => by go_simp⟩) HS0.out ?_
        refine wpAnyH_take (i := 10) (v := .int .i64 t) rfl (by kernel_rfl) (by kernel_rfl) (by kernel_rfl) (fun _ _ _ h => h) (Or.inl ⟨by rfl, fun W hW => by obtain ⟨x0, x1⟩ := HL0.out W hW; clear hW; go_simp⟩) HS0.out ?_
        refine wpAnyH_take (i := 11) (v := .slice (some ⟨blk, 513 + f, none⟩) (t - f) (512 - f)) rfl (by kernel_rfl) (by kernel_rfl) (by kernel_rfl) (fun _ _ _ h => h) (Or.inl ⟨by rfl, fun W hW => by have hh := HSL.out W; clear hW; go_simp⟩) HS0.out ?_
        refine wpAnyH_take (i := 12) (v := .string S) rfl (by kernel_rfl) (by kernel_rfl) (by kernel_rfl) (fun _ _ _ h => h) (Or.inl ⟨by rfl, fun W hW => by have hh := HCV.out W hW; clear hW; go_simp⟩) HS0.out ?_
        refine wpAnyH_take (i := 13) (v := .agg #[.int .i64 q, .int .i64 f, .string S]) rfl (by kernel_rfl) (by kernel_rfl) (by kernel_rfl) (fun _ _ _ h => h) (Or.inl ⟨by rfl, fun W hW => by clear hW; go_simp⟩) HS0.out ?_
        refine wpAnyH_ready (rs := [14]) (by kernel_rfl) (by simp) ?_
        refine AllReadyH.cons rfl (fun K hK => ?_) AllReadyH.nil
        go_simp
        rw [HZ0.out, ← HW1.out]
        refine hK.out _ _ HS1.out (fun hHeld2 => ?_)
        clear hK K
        refine wpAnyH_ready (rs := [15]) (by kernel_rfl) (by simp) ?_
        refine AllReadyH.cons rfl (fun K hK => ?_) AllReadyH.nil
        refine step_app_run rfl _ _ 108 rfl _ _ _ (by rfl) (by rfl) HR6.out ?_
        refine hK.out _ _ HS6.out (fun hHeld3 => ?_)
        clear hK K
        refine wpAnyH_take (i := 16) (v := .slice a6 (m + 1) c6) rfl (by kernel_rfl) (by kernel_rfl) (by kernel_rfl) (fun _ _ _ h => h) (Or.inl ⟨by rfl, fun W hW => by clear hW; go_simp⟩) HS6.out ?_
        refine wpAnyH_done (by kernel_rfl) ?_ _
        clear hHeld hHeld2 hHeld3
        go_wp2
        go_roundw
        case rel =>
          exact ⟨k + 1, m + 1, a6, c6, _, by omega, by simp, rfl, HM6, HO6, HG6⟩
        case measure => simp [intOf]; omega
      · have hkn : k = n := by omega
        subst hkn
        have hacc : acc = pre ++ L.map (sgPt q now) := by rw [hm.out.2, List.take_of_length_le (by rw [← HN.out]; exact Nat.le_refl _)]
        have HE : Hid (PtsAt w.heap.size wr (.slice a m c) (pre ++ L.map (sgPt q now)) ∧ Below w.heap.size w wr) := Lib.hid ⟨by
          rw [← hacc]
          rcases ho.out.2 with h | ⟨g, cap, cur, hv, _, r⟩
          · exact ⟨ho.out.1, .inl h⟩
          · exact ⟨ho.out.1, .inr ⟨g, cap, cur, hv, hg.out.own HB2.out.size HO0.out g (by rw [hv]; rfl), r⟩⟩, HB2.out.trans (hg.out.below HB2.out.size HO0.out)⟩
        clear hacc hm ho hg
        go_wp2
        go_ret
        exact ⟨_, rfl, HE.out.1, HE.out.2⟩
end Go.Proofs.YtijggofelepaaaaGreatDoor

/- What the library's own contracts of maps.Keys and slices.Sorted say at this program: each is one application. -/
namespace Go.Proofs
open Go.Shelf
def Tryz.keysA_ren : Go.Shelf.Ren := ⟨fun | 7 => 87 | 10 => 134 | n => n, fun | 23 => 38 | 26 => 3 | 3 => 100 | 28 => 152 | 0 => 0 | 27 => 151 | 33 => 105 | 4 => 4 | n => n, fun | n => n⟩
theorem Tryz.keysA : Go.Proofs.SlLaysZI.n7 Tryz.prog Tryz.keysA_ren := {
  mixed := by kernel_rfl
  f7 := ⟨Tryz.f87.name, by decide, Tryz.func87.trans (congrArg some (by kernel_rfl))⟩
  f10 := ⟨Tryz.f134.name, by decide, Tryz.func134.trans (congrArg some (by kernel_rfl))⟩
  t0 := Tryz.underlying0
  a0 := Tryz.isAgg0
  z0 := Tryz.sizeOf0
  v0 := Tryz.zeroValue0
  t4 := Tryz.underlying4
  a4 := Tryz.isAgg4
  z4 := Tryz.sizeOf4
  v4 := Tryz.zeroValue4
  t23 := Tryz.underlying38
  a23 := Tryz.isAgg38
  z23 := Tryz.sizeOf38
  v23 := Tryz.zeroValue38
  t26 := Tryz.underlying3
  a26 := Tryz.isAgg3
  z26 := Tryz.sizeOf3
  v26 := Tryz.zeroValue3
  t27 := Tryz.underlying151
  a27 := Tryz.isAgg151
  z27 := Tryz.sizeOf151
  v27 := Tryz.zeroValue151
  t28 := Tryz.underlying152
  a28 := Tryz.isAgg152
  z28 := Tryz.sizeOf152
  v28 := Tryz.zeroValue152
  t33 := Tryz.underlying105
  a33 := Tryz.isAgg105
  z33 := Tryz.sizeOf105
  v33 := Tryz.zeroValue105 }
def Tryz.sortedA_ren : Go.Shelf.Ren := ⟨fun | 6 => 86 | 8 => 112 | 9 => 97 | 11 => 157 | 13 => 146 | 12 => 145 | 23 => 185 | 24 => 186 | 14 => 176 | 15 => 177 | 16 => 178 | 17 => 179 | 18 => 180 | 19 => 181 | 20 => 182 | 21 => 183 | 22 => 184 | 25 => 196 | 26 => 197 | 27 => 198 | 28 => 199 | 29 => 200 | 30 => 201 | 31 => 206 | n => n, fun | 26 => 3 | 28 => 152 | 24 => 57 | 0 => 0 | 3 => 3 | 37 => 201 | 48 => 249 | 50 => 33 | 4 => 4 | 40 => 241 | 39 => 240 | 45 => 246 | 5 => 5 | 9 => 9 | 51 => 260 | 55 => 264 | 57 => 270 | 58 => 250 | 33 => 105 | n => n, fun | n => n⟩
theorem Tryz.sortedA : Go.Proofs.SlLaysZI.n6 Tryz.prog Tryz.sortedA_ren := {
  mixed := by kernel_rfl
  f6 := ⟨Tryz.f86.name, by decide, Tryz.func86.trans (congrArg some (by kernel_rfl))⟩
  f8 := ⟨Tryz.f112.name, by decide, Tryz.func112.trans (congrArg some (by kernel_rfl))⟩
  f11 := ⟨Tryz.f157.name, by decide, Tryz.func157.trans (congrArg some (by kernel_rfl))⟩
  t0 := Tryz.underlying0
  a0 := Tryz.isAgg0
  z0 := Tryz.sizeOf0
  v0 := Tryz.zeroValue0
  t24 := Tryz.underlying57
  a24 := Tryz.isAgg57
  z24 := Tryz.sizeOf57
  v24 := Tryz.zeroValue57
  t26 := Tryz.underlying3
  a26 := Tryz.isAgg3
  z26 := Tryz.sizeOf3
  v26 := Tryz.zeroValue3
  t28 := Tryz.underlying152
  a28 := Tryz.isAgg152
  z28 := Tryz.sizeOf152
  v28 := Tryz.zeroValue152
  i26 := by kernel_rfl }
end Go.Proofs

/- The pages that have a draft, rising: slices.Sorted over maps.Keys. -/
set_option maxRecDepth 100000
namespace Go.Proofs.YtijggofelepaaaaGreatDoor
open Go.RowKit Go.Maps Go.Sort Go.Shelf

/-- A rising list of the pages that have a draft. -/
def KeysOf (D : Nat → Option Dr) (ks : List Nat) : Prop := ks.Pairwise (fun x y => x < y) ∧ ∀ q, q ∈ ks ↔ (D q).isSome = true

theorem intKeys_spec {w : World} {b n : Nat} {D0 : DataW Value} {R : Value → Option (DataW Value × List MemPlace)} (hown : w.ownsMap Tryz.prog 3 R b n D0) :
    (intKeys D0).Nodup ∧ (∀ x, x ∈ intKeys D0 ↔ Maps.has D0 (.int .i64 x) = true) ∧ (intKeys D0).length = Maps.size D0 := by
  obtain ⟨es, hD, hpw, _⟩ := hown.entries keyI
  obtain ⟨es', hD', hko⟩ := hown.keysOf
  obtain rfl : es = es' := by rw [hD] at hD'; simpa using hD'
  subst hD
  have hk : ∀ p ∈ es, ∃ x, p.1 = .int .i64 x := fun p hp => by
    obtain ⟨v, hv⟩ := hko p hp
    obtain ⟨x, _, hx, _⟩ := Maps.keyOf_i64 Tryz.underlying3 hv
    exact ⟨x, hx⟩
  refine ⟨?_, fun x => ?_, by simp [intKeys, Maps.size]⟩
  · show (es.map fun p => Go.intOf p.1).Nodup
    refine List.pairwise_map.2 (hpw.imp_of_mem fun {p q} hp hq hne e => hne ?_)
    obtain ⟨a, ha⟩ := hk p hp
    obtain ⟨c, hc⟩ := hk q hq
    rw [ha, hc] at e ⊢
    exact congrArg _ e
  · show x ∈ es.map (fun p => Go.intOf p.1) ↔ _
    rw [List.mem_map, has_eq, List.any_eq_true]
    refine ⟨fun ⟨p, hp, hx⟩ => ⟨p, hp, ?_⟩, fun ⟨p, hp, hx⟩ => ⟨p, hp, ?_⟩⟩
    · obtain ⟨a, ha⟩ := hk p hp
      rw [ha] at hx ⊢
      subst hx
      simp [Lit.sameKey, Go.intOf]
    · obtain ⟨a, ha⟩ := hk p hp
      rw [ha] at hx ⊢
      simpa [Lit.sameKey, Go.intOf] using hx

theorem rising_le (N : Nat) : ∀ (l : List Nat) (lo : Nat), l.Pairwise (fun x y => x < y) → (∀ x ∈ l, lo ≤ x ∧ x < N) → l = [] ∨ l.length + lo ≤ N
  | [], _, _, _ => .inl rfl
  | a :: r, lo, hp, hb => by
    have ha := hb a (by simp)
    obtain ⟨h1, h2⟩ := List.pairwise_cons.1 hp
    rcases rising_le N r (a + 1) h2 (fun x hx => ⟨h1 x hx, (hb x (by simp [hx])).2⟩) with rfl | h
    · exact .inr (by simp; omega)
    · exact .inr (by simp; omega)

/-- Out of the map's keys, in whatever order. -/
theorem DraftsAt.keys {w : World} {db m : Nat} {D : Nat → Option Dr} (h : DraftsAt w db m D) :
    ∃ D0 : DataW Value, w.ownsMap Tryz.prog 3 asIs db m D0 ∧ Maps.size D0 = m ∧ ∀ ss : List Int, ss.Perm (intKeys D0) → ∃ ks : List Nat, KeysOf D ks ∧ ks.length = ss.length ∧ (ss.mergeSort (fun x y => decide (x ≤ y))).map encZ = ks.map fun k : Nat => Value.int .i64 (k : Int) := by
  obtain ⟨F, ⟨D0, h1, h2, h3⟩, h4, h5⟩ := h.map
  refine ⟨D0, h1, h2, fun ss hp => ?_⟩
  obtain ⟨hnd, hmem, _⟩ := intKeys_spec h1
  have hwf := intKeys_wf h1 Tryz.underlying3
  obtain ⟨zs, hzs⟩ : ∃ zs, zs = ss.mergeSort (fun x y => decide (x ≤ y)) := ⟨_, rfl⟩
  have hpz : zs.Perm (intKeys D0) := by rw [hzs]; exact (List.mergeSort_perm ss _).trans hp
  have hkey : ∀ z, z ∈ zs ↔ ∃ n : Nat, (n : Int) = z ∧ (D n).isSome = true := fun z => by
    rw [hpz.mem_iff]
    constructor
    · intro hz
      rcases h3 z (hwf z hz) with ⟨_, e⟩ | ⟨v, e, _⟩
      · rw [(hmem z).1 hz] at e; cases e
      · obtain ⟨n, x, hn, hx, _⟩ := h5 z v e
        exact ⟨n, hn, by rw [hx]; rfl⟩
    · rintro ⟨n, rfl, hn⟩
      obtain ⟨x, hx⟩ := Option.isSome_iff_exists.1 hn
      rw [hmem]
      rcases h3 n (WalkArith.wf_i64 (by have := (h.at_ n x hx).1; omega)) with ⟨e, _⟩ | ⟨v, _, e, _⟩
      · rw [h4 n x hx] at e; cases e
      · exact e
  have hsorted : zs.Pairwise (fun x y => x < y) := by
    have tr : ∀ a b c : Int, decide (a ≤ b) = true → decide (b ≤ c) = true → decide (a ≤ c) = true := fun a b c x y => by simp only [decide_eq_true_eq] at *; omega
    have tot : ∀ a b : Int, (decide (a ≤ b) || decide (b ≤ a)) = true := fun a b => by simp only [Bool.or_eq_true, decide_eq_true_eq]; omega
    have hle := List.pairwise_mergeSort tr tot ss
    rw [← hzs] at hle
    have hne : zs.Nodup := hpz.nodup_iff.2 hnd
    refine (hle.and hne).imp (fun {a b} ⟨x, y⟩ => ?_)
    have := of_decide_eq_true x
    omega
  have hlen : zs.length = ss.length := by rw [hzs]; exact List.length_mergeSort ss
  rw [← hzs]
  refine ⟨zs.map Int.toNat, ⟨?_, fun q => ?_⟩, by rw [List.length_map, hlen], ?_⟩
  · refine List.pairwise_map.2 (hsorted.imp_of_mem fun {a b} ha hb hab => ?_)
    obtain ⟨n, hn, _⟩ := (hkey a).1 ha
    obtain ⟨k, hk, _⟩ := (hkey b).1 hb
    omega
  · rw [List.mem_map]
    constructor
    · rintro ⟨z, hz, rfl⟩
      obtain ⟨n, rfl, hn⟩ := (hkey z).1 hz
      simpa using hn
    · intro hq
      exact ⟨q, (hkey q).2 ⟨q, rfl, hq⟩, by simp⟩
  · rw [List.map_map]
    refine List.map_congr_left fun z hz => ?_
    obtain ⟨n, rfl, _⟩ := (hkey z).1 hz
    simp [encZ]

theorem KeysOf.le {w : World} {db m : Nat} {D : Nat → Option Dr} (h : DraftsAt w db m D) {ks : List Nat} (hk : KeysOf D ks) : ks.length ≤ 4096 := by
  rcases rising_le 4096 ks 0 hk.1 (fun x hx => ⟨by omega, by
    obtain ⟨y, hy⟩ := Option.isSome_iff_exists.1 ((hk.2 x).1 hx)
    exact (h.at_ x y hy).1⟩) with rfl | h
  · simp
  · omega
/-- There are no more drafts than pages. -/
theorem DraftsAt.few {w : World} {db m : Nat} {D : Nat → Option Dr} (h : DraftsAt w db m D) : m ≤ 4096 := by
  obtain ⟨D0, h1, h2, h3⟩ := h.keys
  obtain ⟨ks, hk, hl, _⟩ := h3 _ (List.Perm.refl _)
  have := (intKeys_spec h1).2.2
  have := KeysOf.le h hk
  omega

theorem sortsA (m : Nat) : AnyZI.SortsIn Tryz.prog Tryz.sortedA_ren Fence.wide m :=
  ⟨fun blk off cap ss W hH hblk hsz => callsIn_wide.2 (Tryz.slices_Sort_int blk off cap ss W hH hblk hsz), fun p cap W => callsIn_wide.2 (Tryz.slices_Sort_int_none p cap W)⟩

theorem keys_call (db : Nat) (W : World) : Calls Tryz.prog 87 #[.map (some db)] W fun e w' => e = .returned (.func (.func 134) #[] #[.pointer (some ⟨W.heap.size, 0, none⟩)]) ∧ w' = W.alloc (.cells #[.map (some db)] 38) :=
  callsIn_wide.1 (AnyZI.keys_in Tryz.keysA Fence.wide 5 trivial rfl (some db) W)

theorem sorted_call {w : World} {db m : Nat} {D : Nat → Option Dr} (h : DraftsAt w db m D) :
    Calls Tryz.prog 86 #[.func (.func 134) #[] #[.pointer (some ⟨w.heap.size, 0, none⟩)]] (w.alloc (.cells #[.map (some db)] 38)) fun e w' => ∃ (v : Value) (ks : List Nat), e = .returned v ∧ KeysOf D ks ∧
      w'.ownsRow w.heap.size 3 1 v ks.length (ks.map fun k : Nat => Value.int .i64 (k : Int)) ∧ Below w.heap.size w w' := by
  obtain ⟨D0, hown, hsz, hkeys⟩ := h.keys
  have hm := h.few
  have hbl := hown.lt
  have hseq : SeqGives Fence.wide 2 Tryz.prog 134 #[.pointer (some ⟨w.heap.size, 0, none⟩)] encZ (fun ss => ss.Perm (intKeys D0)) (Maps.size D0) (w.alloc (.cells #[.map (some db)] 38)) :=
    AnyZI.keys_gives (ρ := Tryz.keysA_ren) { Tryz.keysA with } Fence.wide _ trivial rfl (by omega) w.heap.size db m D0 _ (by simp) (by simp) (by
      obtain ⟨es, clock, hb, Ft, hs, hD⟩ := hown
      exact ⟨es, clock, (Below.heap_alloc _ _ db hbl).trans hb, Ft, hs, hD⟩)
  have cS := AnyZI.sorted_in Tryz.sortedA Fence.wide 5 trivial trivial trivial trivial rfl (by omega) (sortsA _) (enters_of Tryz.func97 (by kernel_rfl) rfl) 134 #[.pointer (some ⟨w.heap.size, 0, none⟩)] trivial (enters_of Tryz.func134 (by kernel_rfl) rfl) _ _ (by unfold maxLen; omega) (by omega) _ hseq
  refine (callsIn_wide.1 cS).mono fun e w' ⟨v, ss, h1, h2, h3, _, h5⟩ => ?_
  obtain ⟨ks, hk, hl, hr⟩ := hkeys ss h2
  refine ⟨v, ks, h1, hk, ?_, ((Below.refl _ w).alloc (Nat.le_refl _) _).trans (h5.mono (by simp))⟩
  rw [hl, ← hr]
  exact Joins.ownsRow_le h3 (by simp)
end Go.Proofs.YtijggofelepaaaaGreatDoor

/- Action.patches: what leads from the pages, as the last finished action left them, to the drafts. -/
set_option maxRecDepth 100000
namespace Go.Proofs.YtijggofelepaaaaGreatDoor
open Go.RowKit

def drPtsO (q : Nat) : Option Dr → List Pt
  | some x => drPts q x
  | none => []
def allPts (D : Nat → Option Dr) (ks : List Nat) : List Pt := ks.flatMap fun q => drPtsO q (D q)
theorem drPts_len (q : Nat) (x : Dr) : (drPts q x).length ≤ 513 := by
  have h1 : (freshPt q x.fresh).length ≤ 1 := by unfold freshPt; split <;> simp
  have h2 := (chUpto_ok x.was x.now 512).1
  rw [drPts, List.length_append, List.length_map]
  omega
theorem allPts_len (D : Nat → Option Dr) (ks : List Nat) : (allPts D ks).length ≤ 513 * ks.length := by
  induction ks with
  | nil => simp [allPts]
  | cons k r ih =>
    have h : (drPtsO k (D k)).length ≤ 513 := by
      cases h : D k with
      | none => simp [drPtsO]
      | some x => exact drPts_len k x
    unfold allPts at ih ⊢
    rw [List.flatMap_cons, List.length_append, List.length_cons]
    omega

set_option maxHeartbeats 3200000 in
theorem apatches_any (a s db m : Nat) (h : Hd) (D : Nat → Option Dr) (w : World) (x : ActAt w a s h (.map (some db))) (y : DraftsAt w db m D) :
    Calls Tryz.prog 47 #[.pointer (some ⟨a, 0, none⟩)] w fun e w' => ∃ v ks, e = .returned v ∧ KeysOf D ks ∧ PtsAt w.heap.size w' v (allPts D ks) ∧ Below w.heap.size w w' := by
  have c83 := x.dr
  have HX := Lib.hid x
  have HY := Lib.hid y
  have HKC := Lib.hid (keys_call db w)
  have HSC := Lib.hid (sorted_call y)
  clear x y
  go_enter Tryz.func47, Tryz.ntmps47
  go_wp2_with fail
  refine HKC.out.mono ?_
  rintro e w' ⟨rfl, hw⟩
  subst w'
  go_wp2_with fail
  refine HSC.out.mono ?_
  rintro e w2 ⟨v2, ks, rfl, hks, hrow, hb2⟩
  obtain ⟨n, hn⟩ : ∃ n, n = ks.length := ⟨_, rfl⟩
  have hn4 : n ≤ 4096 := by rw [hn]; exact hks.le HY.out
  obtain ⟨a2, cc2, rfl⟩ : ∃ a c, v2 = .slice a n c := by
    rcases hrow.2 with ⟨h1, h0⟩ | ⟨g, cap, cur, hv, _⟩
    · exact ⟨none, 0, by rw [h1, hn, h0]⟩
    · exact ⟨_, cap, by rw [hv, hn]⟩
  have HKS := Lib.hid hks; have HROW := Lib.hid hrow; have HB2 := Lib.hid hb2; have HN := Lib.hid hn
  clear hks hrow hb2 hn c83
  go_wp2
  go_loopw [3, 13] (fun v i wr => ∃ (k m' : Nat) (al : Option Addr) (c : Nat) (acc : List Pt), k ≤ n ∧ i = .int .i64 k ∧ v = .slice al m' c ∧ Hid (m' = acc.length ∧ acc = allPts D (ks.take k)) ∧ Hid (PtsAt w2.heap.size wr (.slice al m' c) acc) ∧ Hid (Below w2.heap.size w2 wr)) (fun _ i _ => n - (intOf i).toNat)
  case atStart => exact ⟨0, 0, none, 0, [], by omega, rfl, rfl, Lib.hid ⟨rfl, rfl⟩, Lib.hid ⟨rfl, .inl ⟨rfl, rfl⟩⟩, Lib.hid (Below.refl _ _)⟩
  case round =>
    obtain ⟨k, m', al, c, acc, hk, rfl, rfl, hm, ho, hb⟩ := hrel
    by_cases hlt : k < n
    · have hlt' : k < ks.length := by rw [← HN.out]; exact hlt
      have hkn : (k : Int) < n := by omega
      obtain ⟨g, hg, hBg, hgl⟩ : ∃ g, a2 = some ⟨g, 0, none⟩ ∧ w.heap.size ≤ g ∧ g < w2.heap.size := by
        rcases HROW.out.2 with ⟨h1, h0⟩ | ⟨g, cap, cur, hv, hB, hg, _⟩
        · omega
        · injection hv with hv _ _
          exact ⟨g, hv, hB, (Array.getElem?_eq_some_iff.1 hg).1⟩
      subst hg
      obtain ⟨q, hq⟩ : ∃ q, q = ks[k] := ⟨_, rfl⟩
      have e0 : wr.cell? ⟨g, k, none⟩ = some (.int .i64 q) := by
        have := HROW.out.cells (g := g) rfl k (.int .i64 (q : Int)) (by rw [List.getElem?_map, List.getElem?_eq_getElem hlt', ← hq]; rfl)
        rw [add_lit', Nat.zero_add] at this
        exact (World.cell?_of_block (hb.out.block g hgl)).trans this
      have hqm : q ∈ ks := by rw [hq]; exact List.getElem_mem hlt'
      obtain ⟨x, hx⟩ := Option.isSome_iff_exists.1 ((HKS.out.2 q).1 hqm)
      have hBr : Below w.heap.size w wr := HB2.out.trans (hb.out.mono HB2.out.size)
      have hyr := HY.out.below hBr
      have hlk := hyr.look hx
      obtain ⟨_, x1, _, x2, x3, _, _⟩ := hyr.at_ q x hx
      have HDP : Hid (Calls Tryz.prog 88 #[x.ptr, .int .i64 q] wr fun e w' => ∃ v, e = .returned v ∧ PtsAt wr.heap.size w' v (drPts q x) ∧ Below wr.heap.size wr w') := Lib.hid (dpatches_any q x wr x1 x2 x3)
      have c83 : wr.cell? ⟨a, 83, none⟩ = some (.map (some db)) := (HX.out.below hBr).dr
      have HSTEP : Hid (∀ w3 v3, PtsAt wr.heap.size w3 v3 (drPts q x) → Below wr.heap.size wr w3 → ∃ al' c' w4, (Builtin.append_ #[108, 108] 108 #[.slice al m' c, v3]).run Tryz.prog w3 = .ok (.slice al' (m' + (drPts q x).length) c') w4 ∧ PtsAt w2.heap.size w4 (.slice al' (m' + (drPts q x).length) c') (acc ++ drPts q x) ∧ Below w2.heap.size w2 w4) := Lib.hid (fun w3 v3 hp3 hb3 => by
        have hacc : acc.length + (drPts q x).length ≤ 4194304 := by
          rw [hm.out.2]
          have h1 := allPts_len D (ks.take k)
          have h2 := drPts_len q x
          have h3 : (ks.take k).length ≤ k := by rw [List.length_take]; omega
          have h4 := HN.out
          have h5 : k < 4096 := by omega
          omega
        obtain ⟨v4, w4, h1, h2, h3⟩ := append_ptsv w3 (.slice al m' c) v3 acc (drPts q x) wr.heap.size (Joins.ownsRow_le (ownsRow_below ho.out hb3) (Nat.zero_le _)) hp3 hacc 108
        have hown : ∀ j, (Value.slice al m' c).ownBlock = some j → w2.heap.size ≤ j := fun j hj => (World.ownsRow.lt ho.out j hj).1
        have hB3 : Below w2.heap.size w2 w3 := hb.out.trans (hb3.mono hb.out.size)
        have hsz3 : w2.heap.size ≤ w3.heap.size := hB3.size
        obtain ⟨a', c', hv⟩ := h2.shape
        rw [List.length_append, ← hm.out.1] at hv
        subst hv
        refine ⟨a', c', w4, h1, ?_, hB3.trans (h3.below hsz3 hown)⟩
        rcases h2.2 with h | ⟨g, cap, cur, hv, _, r⟩
        · exact ⟨h2.1, .inl h⟩
        · exact ⟨h2.1, .inr ⟨g, cap, cur, hv, h3.own hsz3 hown g (by rw [hv]; rfl), r⟩⟩)
      have HM' : Hid (m' + (drPts q x).length = (acc ++ drPts q x).length ∧ acc ++ drPts q x = allPts D (ks.take (k + 1))) := Lib.hid ⟨by rw [List.length_append, hm.out.1], by
        rw [List.take_succ_eq_append_getElem hlt', allPts, List.flatMap_append, hm.out.2]
        unfold allPts
        rw [← hq]
        simp [hx, drPtsO]⟩
      clear hlt' hq hqm hyr x1 x2 x3 hm ho hb hBr hgl hBg hx
      go_wp2_with fail
      refine HDP.out.mono ?_
      rintro e w3 ⟨v3, rfl, hp3, hb3⟩
      obtain ⟨al', c', w4, hr4, ho4, hb4⟩ := HSTEP.out w3 v3 hp3 hb3
      obtain ⟨m4, hm4⟩ : ∃ m4, m4 = m' + (drPts q x).length := ⟨_, rfl⟩
      rw [← hm4] at hr4 ho4
      have HR4 := Lib.hid hr4; have HO4 := Lib.hid ho4; have HB4 := Lib.hid hb4
      have HM4 : Hid (m4 = (acc ++ drPts q x).length ∧ acc ++ drPts q x = allPts D (ks.take (k + 1))) := Lib.hid (by rw [hm4]; exact HM'.out)
      clear hp3 hb3 hr4 ho4 hb4 hm4 c83 e0 hlk
      go_wp2_with (at_builtin; refine Lib.wpList_append_run _ rfl _ _ 108 108 rfl _ _ rfl rfl _ _ HR4.out ?_)
      go_roundw
      case rel => exact ⟨k + 1, m4, al', c', _, by omega, by simp, rfl, HM4, HO4, HB4⟩
      case measure => simp [intOf]; omega
    · have hkn : k = n := by omega
      subst hkn
      have hacc : acc = allPts D ks := by rw [hm.out.2, List.take_of_length_le (by rw [← HN.out]; exact Nat.le_refl _)]
      have HE : Hid (PtsAt w.heap.size wr (.slice al m' c) (allPts D ks) ∧ Below w.heap.size w wr) := Lib.hid ⟨by
        rw [← hacc]
        exact Joins.ownsRow_le ho.out HB2.out.size, HB2.out.trans (hb.out.mono HB2.out.size)⟩
      clear hacc hm ho hb
      go_wp2
      go_ret
      exact ⟨_, ks, rfl, HKS.out, HE.out.1, HE.out.2⟩
end Go.Proofs.YtijggofelepaaaaGreatDoor
