/- Texts of the same proof, one behind the other: VC, VD, VE, XM, XN, XO, FA, XP. -/
import Derived.Test.YtefddiikdamnbaaGreatDoorMAL
import Derived.Test.YtefddiikdamnbaaGreatDoorMBH
import Derived.RangeFuncNested
import Derived.RangeFuncCalls
import Derived.Test.YtefddiikdamnbaaGreatDoorProg
/- Contract: a draft of a page. -/
set_option maxRecDepth 100000
namespace Go.Proofs.YtefddiikdamnbaaGreatDoor
open Go.RowKit

theorem built_draft : Tryz.prog.built 122 [] = some (Dr.cells ⟨0, false, noughts, noughts⟩).toArray := by kernel_rfl
theorem run_sliceAll (W : World) (x : Addr) : (Instr.sliceAt 120 (.pointer (some x)) none none none).run Tryz.prog W = .ok (.slice (some x) 512 512) W := by
  obtain ⟨i, hi, _⟩ := Option.map_eq_some_iff.1 infoU8
  simp [Instr.sliceAt, run_underlying Tryz.underlying120, Instr.sureAddr, Instr.sliceBounds, sizeOf, typeInfo, hi, Result.andThen]
  cases x
  rfl
theorem infoPageA : (Tryz.prog.info? 120).map (·.size) = some 512 := by kernel_rfl

def DraftPost (t : ByteArray) (w : World) (e : Ending) (w' : World) : Prop := ∃ b, e = .returned (.pointer (some ⟨b, 0, none⟩)) ∧ w.heap.size ≤ b ∧ b < w'.heap.size ∧ Below w.heap.size w w' ∧ (∀ j, w'.frozen? ⟨b, j, none⟩ = false) ∧ w'.rangeAt b 0 (Dr.cells ⟨b, false, t.data.toList, t.data.toList⟩)

set_option maxHeartbeats 1600000 in
theorem draftOf_ok (t : ByteArray) (w : World) (ht : t.size = 512) : Calls Tryz.prog 58 #[.string t] w (DraftPost t w) := by
  have htl : t.data.toList.length = 512 := ht
  have hbl : (Lib.byteCells t.data.toList).length = 512 := by rw [Lib.byteCells_length]; exact htl
  obtain ⟨Y, hY⟩ : ∃ Y : Array Value, Y = (Dr.cells ⟨0, false, noughts, noughts⟩).toArray := ⟨_, rfl⟩
  have HB := Lib.hid built_draft
  rw [← hY] at HB
  obtain ⟨w1, hw1⟩ : ∃ w1, w1 = w.alloc (.cells Y 122) := ⟨_, rfl⟩
  obtain ⟨b, hb⟩ : ∃ b, b = w.heap.size := ⟨_, rfl⟩
  have hnew : w1.heap[b]? = some (.cells Y 122 (0, 0)) := by rw [hw1, hb]; exact heap_alloc_new w _
  have hYl : Y.size = 1025 := by rw [hY]; show (Dr.cells ⟨0, false, noughts, noughts⟩).length = 1025; exact Dr.cells_length _ noughts_length noughts_length
  have hth : w1.there b 0 1025 := fun j hj => by
    refine ⟨?_, Lib.frozen_of_heap hnew _⟩
    rw [Nat.zero_add, Lib.cell_of_heap hnew, Array.getElem?_eq_getElem (by rw [hYl]; exact hj)]; rfl
  have hth1 : w1.there b 1 512 := there_part hth (by omega) (by omega)
  have hcp := run_copy_string_mid w1 113 9 3 5 b 1 512 512 t Tryz.underlying113 (by kernel_rfl) (by rw [ht]; exact hth1) (by omega)
  obtain ⟨w2, hw2⟩ : ∃ w2, w2 = w1.setCells b 1 (Lib.byteCells t.data.toList) := ⟨_, rfl⟩
  rw [← hw2] at hcp
  have hr2 : w2.rangeAt b 1 (Lib.byteCells t.data.toList) := by rw [hw2]; exact World.rangeAt_setCells_same w1 b 1 _ (by rw [hbl]; exact hth1)
  have hth2 : w2.there b 0 1025 := by rw [hw2]; exact World.there_setCells hth b 1 _
  have hth3 : w2.there b 513 512 := there_part hth2 (by omega) (by omega)
  obtain ⟨w3, hw3⟩ : ∃ w3, w3 = w2.setCells b 513 (Lib.byteCells t.data.toList) := ⟨_, rfl⟩
  have hk3 : Kept (fun k => k = b) w1 w3 := by
    rw [hw3, hw2]
    exact (Kept.setCells (fun k => k = b) w1 rfl _).trans (Kept.setCells (fun k => k = b) _ rfl _) (fun _ e => .inl e)
  have hb1 : Below w.heap.size w w1 := by rw [hw1]; exact (Below.refl _ _).alloc (Nat.le_refl _) _
  have hb3 : Below w.heap.size w w3 := hb1.trans (hk3.toBelow hb1.size (fun k e => by rw [e, hb]; exact Nat.le_refl _))
  have hr3 : w3.rangeAt b 0 (Dr.cells ⟨b, false, t.data.toList, t.data.toList⟩) := fun j v hv => by
    rw [Nat.zero_add]
    unfold Dr.cells at hv
    cases j with
    | zero =>
      simp only [List.getElem?_cons_zero, Option.some.injEq] at hv
      subst hv
      have h0 : w1.cell? ⟨b, 0, none⟩ = some (.bool false) := by
        rw [Lib.cell_of_heap hnew, hY]; rfl
      rw [hw3, World.cell?_setCells_out b _ 513 w2 _ (fun _ _ => .inl (by show 0 < 513; omega)), hw2, World.cell?_setCells_out b _ 1 w1 _ (fun _ _ => .inl (by show 0 < 1; omega))]
      exact h0
    | succ j =>
      rw [List.getElem?_cons_succ] at hv
      by_cases hj : j < 512
      · rw [List.getElem?_append_left (by rw [hbl]; exact hj)] at hv
        have := hr2 j v hv
        rw [hw3, World.cell?_setCells_out b _ 513 w2 _ (fun _ _ => .inl (by show j + 1 < 513; omega)), Nat.add_comm]
        exact this
      · rw [List.getElem?_append_right (by rw [hbl]; omega), hbl] at hv
        have := World.rangeAt_setCells_same w2 b 513 (Lib.byteCells t.data.toList) (by rw [hbl]; exact hth3) (j - 512) v hv
        rw [hw3, show j + 1 = 513 + (j - 512) by omega]
        exact this
  have HE : Hid (DraftPost t w (.returned (.pointer (some ⟨b, 0, none⟩))) w3) := Lib.hid ⟨b, rfl, by omega, by
    have h1 := (Array.getElem?_eq_some_iff.1 hnew).1
    exact Nat.lt_of_lt_of_le h1 hk3.size, hb3, fun j => by rw [hw3, World.frozen?_setCells, hw2, World.frozen?_setCells]; exact Lib.frozen_of_heap hnew _, hr3⟩
  obtain ⟨X, hX⟩ : ∃ X : Array Value, X = (Lib.byteCells t.data.toList).toArray := ⟨_, rfl⟩
  have HX : Hid (X.size = 512) := Lib.hid (by rw [hX]; exact hbl)
  have hXl : X.toList = Lib.byteCells t.data.toList := by rw [hX]
  have HR2 : Hid (w2.rangeAt b 1 X.toList) := Lib.hid (by rw [hXl]; exact hr2)
  have HT3 : Hid (w2.there b 513 X.size) := Lib.hid (by rw [HX.out]; exact hth3)
  have HI : Hid ((Tryz.prog.info? 120).map (·.size) = some X.size) := Lib.hid (by rw [HX.out]; exact infoPageA)
  have HIL : Hid ((Tryz.prog.info? 120).map (·.size) = some X.toList.length) := Lib.hid (by rw [Array.length_toList, HX.out]; exact infoPageA)
  have HO : Hid (X.all (·.oneCell') = true) := Lib.hid (by rw [hX]; exact all_oneCell_toArray (Lib.byteCells_one _))
  have HW3 : Hid (w2.setCells b 513 X.toList = w3) := Lib.hid (by rw [hXl, hw3])
  have hsl := fun W => run_sliceAll W ⟨b, 1, none⟩
  have hts : (t.size : Int) = 512 := by omega
  clear hbl htl hY hnew hYl hth hth1 hw2 hr2 hth2 hth3 hw3 hk3 hb1 hb3 hr3 hX hXl ht
  rw [hw1] at hcp
  clear hw1
  subst hb
  go_enter Tryz.func58, Tryz.ntmps58
  go_wp2_with (refine wpList_val rfl (.agg Y) (exec_build rfl _ (by simp [go_sem]) Y HB.out w) ?_)
  refine wp_load_mid 120 _ rfl w.heap.size 1 (by rfl) X.toList _ HR2.out Tryz.underlying120 rfl HIL.out ?_
  rw [Array.toArray_toList]
  go_wp2_with (first
    | (refine wpList_store_mid rfl 120 _ _ rfl w.heap.size 513 X (by rfl) (by rfl) HT3.out HI.out HO.out ?_; rw [HW3.out])
    | (refine wp_store_mid 120 _ _ rfl w.heap.size 513 X (by rfl) (by rfl) HT3.out HI.out HO.out ?_; rw [HW3.out]))
  go_ret
  exact HE.out
end Go.Proofs.YtefddiikdamnbaaGreatDoor

/- Contract: Action.Write of a whole page, with a draft or without. -/
set_option maxRecDepth 100000
namespace Go.Proofs.YtefddiikdamnbaaGreatDoor
open Go.RowKit

theorem splice_whole {l bs : List UInt8} (h1 : l.length = 512) (h2 : bs.length = 512) : splice l 0 bs = bs := by
  unfold splice
  simp [h2, List.drop_of_length_le (by omega : l.length ≤ 512)]
theorem upd_twice {α : Type} (F : Nat → α) (q : Nat) (a b : α) : upd (upd F q a) q b = upd F q b := by
  funext j
  by_cases hj : j = q
  · subst hj; rw [upd_same, upd_same]
  · rw [upd_other _ _ hj, upd_other _ _ hj, upd_other _ _ hj]

section
variable {J : List RawOp → Prop} {B : Nat} {S : Nat → Prop} {c : Ac} {h : Hd} {G : Nat → List UInt8} {w : World}
set_option maxHeartbeats 3200000 in
theorem new_chain (x : ActV J B S c h G w) {m : Nat} {D : Nat → Option Dr} {S0 : Nat → Prop} (hL : LiveSt J B S0 c.a c.s c.d c.l c.p c.db m c.n c.C c.N c.last h D w) (h1 : ∀ k, S0 k → S k) (h2 : ∀ q x, D q = some x → S x.blk) (h3 : DrOk c.last h c.C D) (h4 : ∀ q, h.has q → G q = pgD c.C D q)
    (q : Nat) (hq : h.has q) (hD : D q = none) (hC : (c.C q).length = 512) (t : ByteArray) (ht : t.size = 512) :
    Calls Tryz.prog 55 #[.pointer (some ⟨c.s, 1, none⟩), .int .i64 q] w fun e w1 => e = .returned (.string ⟨(c.C q).toArray⟩) ∧
      Calls Tryz.prog 58 #[.string ⟨(c.C q).toArray⟩] w1 fun e w2 => ∃ b w3, e = .returned (.pointer (some ⟨b, 0, none⟩)) ∧ w2.cell? ⟨c.a, 83, none⟩ = some (.map (some c.db)) ∧
        (Instr.mapUpdate 38 (.map (some c.db)) (.int .i64 q) (.pointer (some ⟨b, 0, none⟩))).run Tryz.prog w2 = .ok () w3 ∧
          (Builtin.copy_ #[113, 9] 3 #[.slice (some ⟨b, 513, none⟩) 512 512, .string t]).run Tryz.prog w3 = .ok (goInt t.size) (w3.setCells b 513 (Lib.byteCells t.data.toList)) ∧
            Hid (ActPost J B S c h (upd G q t.data.toList) w (w3.setCells b 513 (Lib.byteCells t.data.toList))) := by
  have hq4 : q < 4096 := by have := hq.2.1; have := x.ok.cnt; omega
  have htl : t.data.toList.length = 512 := ht
  refine (sread_k q hL.act.sp hL.ns hL.pool hq4 hL.n0 x.cost x.saves).mono ?_
  rintro e w1 ⟨rfl, S1, hT, hp⟩
  refine ⟨rfl, ?_⟩
  have hL1 := hL.turn hT hp
  have hsz := x.size
  have hT1 : Turn S w (fun k => (S k ∨ w.heap.size ≤ k) ∧ k < w1.heap.size) w1 := ⟨hT.1.mono h1, fun k hlt hs => hs.1.elim id (by omega)⟩
  have x1 : ActV J B (fun k => (S k ∨ w.heap.size ≤ k) ∧ k < w1.heap.size) c h G w1 := by
    refine ⟨⟨m, D, S1, hL1, fun k hs => ⟨?_, (hp.low k hs).2⟩, fun r y hr => ⟨.inl (h2 r y hr), by have := (x.low _ (h2 r y hr)).2; have := hT.1.size; omega⟩, h3, h4⟩, ?_, ?_, x.saves, x.cost, x.tab.1.kept hT.1 (fun h0 => ?_), x.tab.2⟩
    · rcases Nat.lt_or_ge k w.heap.size with hlt | hge
      · exact .inl (h1 k (hT.2 k hlt hs))
      · exact .inr hge
    · have hz := hT.1.size
      have f : ∀ k, S k → (S k ∨ w.heap.size ≤ k) ∧ k < w1.heap.size := fun k hs => ⟨.inl hs, by have := (x.low k hs).2; omega⟩
      exact ⟨f _ x.own.1, f _ x.own.2.1, f _ x.own.2.2.1, f _ x.own.2.2.2⟩
    · rintro k ⟨hs, hlt⟩
      refine ⟨hs.elim (fun h => (x.low k h).1) (fun h => by omega), hlt⟩
    · have := (x.low 0 (h1 0 h0)).1
      have := x.tab.2
      omega
  have hs1 : ∀ k, S1 k → (S k ∨ w.heap.size ≤ k) ∧ k < w1.heap.size := fun k hs => ⟨by
    rcases Nat.lt_or_ge k w.heap.size with hlt | hge
    · exact .inl (h1 k (hT.2 k hlt hs))
    · exact .inr hge, (hp.low k hs).2⟩
  refine (draftOf_ok ⟨(c.C q).toArray⟩ w1 (by show (c.C q).toArray.size = 512; simpa using hC)).mono ?_
  rintro e w2 ⟨b, rfl, hb1, hb2, hbl, hfz, hrg⟩
  have hrg' : w2.rangeAt b 0 (Dr.cells ⟨b, false, c.C q, c.C q⟩) := by
    have : (⟨(c.C q).toArray⟩ : ByteArray).data.toList = c.C q := by simp
    rw [this] at hrg; exact hrg
  have hL2 := hL1.below hbl
  have hX2 := hL2.act
  have hdl := hL1.act.dr.ltM
  have hal := hL1.act.ac.lt
  have hsl := hL1.act.sp.lt
  have hll := hL1.lg.lt
  have hBw := hL1.size
  obtain ⟨w3, hr, hD3, hk3⟩ := hX2.dr.put (by have := hL.act.dr.few; omega) hq4 hD ⟨b, false, c.C q, c.C q⟩ hrg' hfz hC hC (by show b ≠ c.db; omega) hb2 (fun j y hj => by
    have := (hL1.act.dr.at_ j y hj).2.2.2.2.2.2
    show y.blk ≠ b
    omega)
  have hX3 : ActSt w3 c.a c.s c.d c.l c.p c.db (m + 1) c.last h (upd D q (some ⟨b, false, c.C q, c.C q⟩)) := by
    refine ⟨hX2.sp.kept hk3 hX2.ne.2.2, hX2.ac.kept hk3 hX2.ne.2.1, hD3, hX2.okl, hX2.ok, fun j y hj => ?_, hX2.ne, fun j y hj => ?_⟩
    · by_cases hjq : j = q
      · rw [hjq]; exact hq
      · rw [upd_other _ _ hjq] at hj; exact hX2.has j y hj
    · by_cases hjq : j = q
      · subst hjq; rw [upd_same] at hj; cases hj
        show b ≠ c.a ∧ b ≠ c.s
        omega
      · rw [upd_other _ _ hjq] at hj; exact hX2.blk j y hj
  obtain ⟨hX4, hk4⟩ := hX3.turnDr (q := q) (upd_same _ _ _) (at_ := 0) (bs := t.data.toList) (by rw [htl]; omega)
  rw [upd_twice] at hX4
  have hth : w3.there b 0 1025 := by
    obtain ⟨_, g2, g3, g4, g5, _⟩ := hX3.dr.at_ q _ (upd_same _ _ _)
    exact Dr.there_ g2 g3 g4 g5
  have hcp := run_copy_string_mid w3 113 9 3 5 b 513 512 512 t Tryz.underlying113 (by kernel_rfl) (by rw [ht]; exact there_part hth (by omega) (by omega)) (by omega)
  refine ⟨b, w3, rfl, hX2.ac.dr, hr, hcp, Lib.hid ?_⟩
  simp only [Nat.add_zero] at hX4 hk4
  have hk : Kept (fun k => k = c.db) w1 (w3.setCells b 513 (Lib.byteCells t.data.toList)) := by
    refine ((Kept.ofBelow (S := fun k => k = c.db) hbl).trans hk3 (fun _ e => .inl e)).trans hk4 (fun k e => .inr ?_)
    have e' : k = b := e
    omega
  have hk24 : Kept (fun k => k = c.db ∨ k = b) w2 (w3.setCells b 513 (Lib.byteCells t.data.toList)) :=
    (hk3.mono (T := fun k => k = c.db ∨ k = b) (fun _ e => .inl e)).trans (hk4.mono (T := fun k => k = c.db ∨ k = b) (fun _ e => .inr e)) (fun _ e => .inl e)
  have hlow := hL1.low
  have hL4 : LiveSt J B S1 c.a c.s c.d c.l c.p c.db (m + 1) c.n c.C c.N c.last h (upd D q (some ((⟨b, false, c.C q, c.C q⟩ : Dr).put 0 t.data.toList))) (w3.setCells b 513 (Lib.byteCells t.data.toList)) := by
    refine ⟨hX4, hL2.pool.kept hk24 (fun k _ hS he => ?_), hL2.lg.kept hk24 ?_, hL1.ns, hL1.na, hL1.nl, hL1.nb, fun j y hj => ?_, ⟨hL1.ne.1, hL1.ne.2.1, hL1.ne.2.2.1, fun j y hj => ?_⟩, ⟨hlow.1, hlow.2.1, hlow.2.2.1, hlow.2.2.2.1, fun j y hj => ?_⟩, hL1.n0⟩
    · rcases he with rfl | rfl
      · exact hL1.nb hS
      · have := (hp.low _ hS).2; omega
    · rintro (e | e)
      · exact hL1.ne.2.2.1 e
      · omega
    all_goals
      by_cases hjq : j = q
      · subst hjq; rw [upd_same] at hj; cases hj
        first
          | (intro hh; have := (hp.low _ hh).2; simp only [Dr.put] at this; omega)
          | (simp only [Dr.put]; omega)
      · rw [upd_other _ _ hjq] at hj
        first
          | exact hL1.nd j y hj
          | exact hL1.ne.2.2.2 j y hj
          | exact hlow.2.2.2.2 j y hj
  have hpo := actPost_mk (G' := upd G q t.data.toList) x1 hk (fun k e => e ▸ x1.own.2.2.2) hL4 hs1 (fun r y hr' => ?_) ⟨fun r y hr' => ?_, fun r y hr' => ?_, fun r hr' hn' => ?_⟩ (fun r hr' => ?_)
  · obtain ⟨S', hT4, x4⟩ := hpo
    exact ⟨S', hT1.trans hT4, x4⟩
  · by_cases hrq : r = q
    · subst hrq; rw [upd_same] at hr'; cases hr'; exact .inr hb1
    · rw [upd_other _ _ hrq] at hr'
      exact .inl ⟨.inl (h2 r y hr'), (hL1.act.dr.at_ r y hr').2.2.2.2.2.2⟩
  · by_cases hrq : r = q
    · subst hrq; rw [upd_same] at hr'; cases hr'; rfl
    · rw [upd_other _ _ hrq] at hr'; exact h3.1 r y hr'
  · by_cases hrq : r = q
    · subst hrq; exact .inr (h3.2.2 r hq hD)
    · rw [upd_other _ _ hrq] at hr'; exact h3.2.1 r y hr'
  · by_cases hrq : r = q
    · subst hrq; rw [upd_same] at hn'; cases hn'
    · rw [upd_other _ _ hrq] at hn'; exact h3.2.2 r hr' hn'
  · by_cases hrq : r = q
    · subst hrq
      rw [upd_same]; unfold pgD; rw [upd_same]
      exact (splice_whole hC htl).symm
    · rw [upd_other _ _ hrq, h4 r hr']; unfold pgD; rw [upd_other _ _ hrq]
end
end Go.Proofs.YtefddiikdamnbaaGreatDoor

/- Contract: Action.Write of a whole page (the walk). -/
set_option maxRecDepth 100000
namespace Go.Proofs.YtefddiikdamnbaaGreatDoor
open Go.RowKit

section
variable {J : List RawOp → Prop} {B : Nat} {S : Nat → Prop} {c : Ac} {h : Hd} {G : Nat → List UInt8} {w : World}
set_option maxHeartbeats 3200000 in
theorem write_v (x : ActV J B S c h G w) (q : Nat) (hq : h.has q) (t : ByteArray) (ht : t.size = 512) (hG : (G q).length = 512) :
    Calls Tryz.prog 17 #[.pointer (some ⟨c.a, 0, none⟩), .int .i64 q, .int .i64 0, .string t] w fun e w' => e = .returned (.int .i64 0) ∧ ActPost J B S c h (upd G q t.data.toList) w w' := by
  obtain ⟨m, D, S0, hL, h1, h2, h3, h4⟩ := x.live
  have htl : t.data.toList.length = 512 := ht
  cases hD : D q with
  | some y =>
    have g := hL.act.dr.at_ q y hD
    refine (awrite_draft q 0 y t hL.act hD (by omega)).mono ?_
    rintro e w' ⟨rfl, hA, hk⟩
    have hyb : (y.put 0 t.data.toList).blk = y.blk := rfl
    have hL' : LiveSt J B S0 c.a c.s c.d c.l c.p c.db m c.n c.C c.N c.last h (upd D q (some (y.put 0 t.data.toList))) w' := by
      refine ⟨hA, hL.pool.kept hk (fun k _ hS he => hL.nd q y hD (he ▸ hS)), hL.lg.kept hk (fun e => hL.ne.2.2.2 q y hD e.symm), hL.ns, hL.na, hL.nl, hL.nb, fun j z hj => ?_, ⟨hL.ne.1, hL.ne.2.1, hL.ne.2.2.1, fun j z hj => ?_⟩, ⟨hL.low.1, hL.low.2.1, hL.low.2.2.1, hL.low.2.2.2.1, fun j z hj => ?_⟩, hL.n0⟩
      all_goals
        by_cases hjq : j = q
        · subst hjq; rw [upd_same] at hj; cases hj
          rw [hyb]
          first
            | exact hL.nd j y hD
            | exact hL.ne.2.2.2 j y hD
            | exact hL.low.2.2.2.2 j y hD
        · rw [upd_other _ _ hjq] at hj
          first
            | exact hL.nd j z hj
            | exact hL.ne.2.2.2 j z hj
            | exact hL.low.2.2.2.2 j z hj
    refine ⟨rfl, actPost_mk x hk (fun k e => e ▸ h2 q y hD) hL' h1 (fun r z hr => ?_) ⟨fun r z hr => ?_, fun r z hr => ?_, fun r hr hn' => ?_⟩ (fun r hr => ?_)⟩
    · by_cases hrq : r = q
      · subst hrq; rw [upd_same] at hr; cases hr; exact .inl (h2 r y hD)
      · rw [upd_other _ _ hrq] at hr; exact .inl (h2 r z hr)
    · by_cases hrq : r = q
      · subst hrq; rw [upd_same] at hr; cases hr; exact h3.1 r y hD
      · rw [upd_other _ _ hrq] at hr; exact h3.1 r z hr
    · by_cases hrq : r = q
      · subst hrq; rw [upd_same] at hr; cases hr; exact h3.2.1 r y hD
      · rw [upd_other _ _ hrq] at hr; exact h3.2.1 r z hr
    · by_cases hrq : r = q
      · subst hrq; rw [upd_same] at hn'; cases hn'
      · rw [upd_other _ _ hrq] at hn'; exact h3.2.2 r hr hn'
    · by_cases hrq : r = q
      · subst hrq
        rw [upd_same]; unfold pgD; rw [upd_same]
        exact (splice_whole g.2.2.2.2.1 htl).symm
      · rw [upd_other _ _ hrq, h4 r hr]; unfold pgD; rw [upd_other _ _ hrq]
  | none =>
    have hC : (c.C q).length = 512 := by
      have := h4 q hq
      unfold pgD at this
      rw [hD] at this
      have h' : G q = c.C q := this
      rw [← h']; exact hG
    have HCH := Lib.hid (new_chain x hL h1 h2 h3 h4 q hq hD hC t ht)
    have h1' := refusesPage_live q hL.act
    rw [if_pos (by rw [Int.toNat_natCast]; exact ⟨by have := hq.1; omega, hq⟩)] at h1'
    have HP := Lib.hid h1'
    have hq4 : q < 4096 := by have := hq.2.1; have := x.ok.cnt; omega
    have hlk := hL.act.dr.look_none hq4 hD
    have c83 := hL.act.ac.dr
    have c1 := hL.act.ac.st
    have hts : (t.size : Int) = 512 := by omega
    have hsl : ∀ (W : World) (b : Nat), (Instr.sliceAt 120 (.pointer (some ⟨b, 513, none⟩)) (some (.int .i64 0)) none none).run Tryz.prog W = .ok (.slice (some ⟨b, 513, none⟩) 512 512) W := fun W b => by
      have := run_sliceArr W ⟨b, 513, none⟩ 0 (by omega)
      rw [if_neg (by omega), add_lit'] at this
      exact this
    obtain ⟨cs, hcs⟩ : ∃ s : ByteArray, s = ⟨(c.C q).toArray⟩ := ⟨_, rfl⟩
    rw [← hcs] at HCH
    clear hL h1 h2 h3 h4 htl hD hC h1' hq4 hcs hq hG x ht
    go_enter Tryz.func17, Tryz.ntmps17
    go_wp2_with fail
    refine HP.out.mono ?_
    rintro e w' ⟨rfl, hw⟩
    subst w'
    go_wp2_with fail
    refine HCH.out.mono ?_
    rintro e w1 ⟨rfl, hn⟩
    have HN := Lib.hid hn
    clear hn HCH HP
    go_wp2_with fail
    refine HN.out.mono ?_
    rintro e w2 ⟨b, w3, rfl, d83, hmu, hcp, HE⟩
    have HMU := Lib.hid hmu
    clear hmu HN hlk c83 c1
    go_wp2_with (refine wpList_mapUpdate_run rfl _ _ _ 38 rfl _ _ _ (by rfl) (by rfl) (by rfl) HMU.out ?_)
    go_ret
    exact ⟨rfl, HE.out⟩
end
end Go.Proofs.YtefddiikdamnbaaGreatDoor

/- Contracts: the index of a root; what is no index. -/
set_option maxRecDepth 100000
namespace Go.Proofs.YtefddiikdamnbaaGreatDoor.Dm
open Go Go.RowKit

/-- An index at block hb, by the action at a, of the root r. -/
def HxAt (w : World) (hb a r : Nat) : Prop := w.heap[hb]? = some (.cells #[.pointer (some ⟨hb, 0, none⟩), .pointer (some ⟨a, 0, none⟩), .int .i64 r] 102 (0, 0))
theorem HxAt.lt {w : World} {tb a r : Nat} (h : HxAt w tb a r) : tb < w.heap.size := (Array.getElem?_eq_some_iff.1 h).1
theorem HxAt.c0 {w : World} {tb a r : Nat} (h : HxAt w tb a r) : w.cell? ⟨tb, 0, none⟩ = some (.pointer (some ⟨tb, 0, none⟩)) := by rw [Lib.cell_of_heap h]; rfl
theorem HxAt.c1 {w : World} {tb a r : Nat} (h : HxAt w tb a r) : w.cell? ⟨tb, 1, none⟩ = some (.pointer (some ⟨a, 0, none⟩)) := by rw [Lib.cell_of_heap h]; rfl
theorem HxAt.c2 {w : World} {tb a r : Nat} (h : HxAt w tb a r) : w.cell? ⟨tb, 2, none⟩ = some (.int .i64 r) := by rw [Lib.cell_of_heap h]; rfl
theorem HxAt.kept {w w' : World} {tb a r : Nat} {T : Nat → Prop} (h : HxAt w tb a r) (hk : Kept T w w') (hT : ¬ T tb) : HxAt w' tb a r := by
  unfold HxAt; rw [hk.block tb h.lt hT]; exact h
theorem HxAt.below {w w' : World} {tb a r : Nat} (h : HxAt w tb a r) (hb : Below w.heap.size w w') : HxAt w' tb a r := h.kept (Kept.ofBelow (S := fun _ => False) hb) (fun h => h)

theorem hx_bad (v : Value) (q : Int) (w : World) (hq : ¬ (0 ≤ q ∧ q < 16)) : Calls Tryz.prog 28 #[v, .int .i64 q] w fun e w' => e = .returned (.tuple #[.pointer none, .int .i64 1]) ∧ w' = w := by
  by_cases h0 : q < 0
  · clear hq
    go_enter Tryz.func28, Tryz.ntmps28
    go_wp2
    go_ret2
    exact ⟨rfl, rfl⟩
  · have h1 : (16 : Int) ≤ q := by omega
    clear hq
    go_enter Tryz.func28, Tryz.ntmps28
    go_wp2
    go_ret2
    exact ⟨rfl, rfl⟩

theorem sizeHx : (Tryz.prog.info? 102).map (·.size) = some 3 := by kernel_rfl
theorem neq_nil_hash (w : World) (a : Addr) : (binOp .eql 70 (.pointer none) (.pointer (some a))).run Tryz.prog w = .ok (.bool false) w := by
  have h : ∀ d : Nat, (Op.equalIn (d + 1) 70 (.pointer none) (.pointer (some a))).run Tryz.prog w = .ok false w := fun d => by
    simp [Op.equalIn, run_underlying Tryz.underlying70, sizeOf, typeInfo]
  simp only [binOp]
  simp [Op.equal, Op.maxDepth, h 9999]

theorem eq_same_hash (w : World) (a : Addr) : (binOp .eql 70 (.pointer (some a)) (.pointer (some a))).run Tryz.prog w = .ok (.bool true) w := by
  obtain ⟨j, hj, _⟩ := Option.map_eq_some_iff.1 sizeHx
  have h : ∀ d : Nat, (Op.equalIn (d + 1) 70 (.pointer (some a)) (.pointer (some a))).run Tryz.prog w = .ok true w := fun d => by
    simp [Op.equalIn, run_underlying Tryz.underlying70, sizeOf, typeInfo, hj, run_sameAddr_same]
  simp only [binOp]
  simp [Op.equal, Op.maxDepth, h 9999]

/-! ### Indexes that nobody made -/
/-- What is no index. -/
def NoHx (v : Value) (w : World) : Prop := Calls Tryz.prog 123 #[v] w fun e w' => e = .returned (.bool false) ∧ w' = w
theorem nohx_nil (w : World) : NoHx (.pointer none) w := by
  unfold NoHx
  go_enter Tryz.func123, Tryz.ntmps123
  go_wp2
  go_ret
  exact ⟨rfl, rfl⟩
theorem nohx_zero (tb : Nat) (w : World) (h : w.cell? ⟨tb, 0, none⟩ = some (.pointer none)) : NoHx (.pointer (some ⟨tb, 0, none⟩)) w := by
  have hq := neq_nil_hash w ⟨tb, 0, none⟩
  unfold NoHx
  go_enter Tryz.func123, Tryz.ntmps123
  go_wp2
  go_ret
  exact ⟨rfl, rfl⟩
theorem nohx_refuses (v : Value) (w : World) (h : NoHx v w) : Calls Tryz.prog 75 #[v] w fun e w' => e = .returned (.int .i64 1) ∧ w' = w := by
  have H := Lib.hid h
  clear h
  go_enter Tryz.func75, Tryz.ntmps75
  go_wp2_with fail
  refine H.out.mono ?_
  rintro e w1 ⟨rfl, hw⟩
  subst w1
  go_wp2
  go_ret
  exact ⟨rfl, rfl⟩
theorem hx_given {w : World} {hb a r : Nat} (ht : HxAt w hb a r) : Calls Tryz.prog 123 #[.pointer (some ⟨hb, 0, none⟩)] w fun e w' => e = .returned (.bool true) ∧ w' = w := by
  have c0 := ht.c0
  clear ht
  have hq := eq_same_hash w ⟨hb, 0, none⟩
  go_enter Tryz.func123, Tryz.ntmps123
  go_wp2
  go_ret
  exact ⟨rfl, rfl⟩
theorem hx_name {w : World} {hb a r : Nat} (ht : HxAt w hb a r) : Calls Tryz.prog 69 #[.pointer (some ⟨hb, 0, none⟩)] w fun e w' => e = .returned (.string ⟨#[104, 97, 115, 104]⟩) ∧ w' = w := by
  have H := Lib.hid (hx_given ht)
  clear ht
  go_enter Tryz.func69, Tryz.ntmps69
  go_wp2_with fail
  refine H.out.mono ?_
  rintro e w1 ⟨rfl, hw⟩
  subst w1
  go_wp2
  go_ret
  exact ⟨rfl, rfl⟩

section
variable {J : List RawOp → Prop} {B : Nat} {S : Nat → Prop} {c : Ac} {h : Hd} {G : Nat → List UInt8} {w : World} {hb r : Nat}
set_option maxHeartbeats 800000 in
theorem hx_new (x : ActV J B S c h G w) (r : Nat) (hr : r < 16) :
    Calls Tryz.prog 28 #[.pointer (some ⟨c.a, 0, none⟩), .int .i64 r] w fun e w' => ∃ tb, e = .returned (.tuple #[.pointer (some ⟨tb, 0, none⟩), .int .i64 0]) ∧ HxAt w' tb c.a r ∧ w.heap.size ≤ tb ∧ Below w.heap.size w w' := by
  have HRT := Lib.hid (root_v x r hr)
  have h2 : ¬ (r : Int) < 0 := by omega
  have h3 : ¬ (16 : Int) ≤ (r : Int) := by omega
  obtain ⟨rt, hrt⟩ : ∃ rt, rt = h.root r := ⟨_, rfl⟩
  rw [← hrt] at HRT
  obtain ⟨a, ha⟩ : ∃ a, a = c.a := ⟨_, rfl⟩
  rw [← ha] at HRT ⊢
  clear x hrt ha
  have HE : Hid (HxAt (w.alloc (.cells #[.pointer (some ⟨w.heap.size, 0, none⟩), .pointer (some ⟨a, 0, none⟩), .int .i64 r] 102)) w.heap.size a r ∧ Below w.heap.size w (w.alloc (.cells #[.pointer (some ⟨w.heap.size, 0, none⟩), .pointer (some ⟨a, 0, none⟩), .int .i64 r] 102))) := Lib.hid ⟨heap_alloc_new w _, (Below.refl _ _).alloc (Nat.le_refl _) _⟩
  go_enter Tryz.func28, Tryz.ntmps28
  go_wp2_with fail
  refine HRT.out.mono ?_
  rintro e w1 ⟨rfl, hw⟩
  subst w1
  go_wp2
  go_ret2
  exact ⟨_, rfl, HE.out.1, Nat.le_refl _, HE.out.2⟩

set_option maxHeartbeats 1600000 in
theorem hx_live (x : ActV J B S c h G w) (ht : HxAt w hb c.a r) (hr : r < 16) :
    Calls Tryz.prog 75 #[.pointer (some ⟨hb, 0, none⟩)] w fun e w' => e = .returned (.int .i64 0) ∧ ∃ k, w' = w.drewN k := by
  have HRT : Hid (∀ k, Calls Tryz.prog 16 #[.pointer (some ⟨c.a, 0, none⟩), .int .i64 r] (w.drewN k) fun e w' => e = .returned (.tuple #[.int .i64 (h.root r), .int .i64 0]) ∧ w' = w.drewN k) := Lib.hid fun k => root_v (x.below (below_drewN w k)) r hr
  have HGV := Lib.hid (hx_given ht)
  have c1 := ht.c1
  have c2 := ht.c2
  obtain ⟨rt, hrt⟩ : ∃ rt, rt = h.root r := ⟨_, rfl⟩
  rw [← hrt] at HRT
  clear x ht hrt
  go_enter Tryz.func75, Tryz.ntmps75
  go_wp2_with fail
  refine HGV.out.mono ?_
  rintro e w1 ⟨rfl, hw⟩
  subst w1
  go_wp2
  go_quiet ((go_at_call 16; exact Calls.quiet_of_same (HRT.out _)))
  go_wp2
  go_ret
  exact ⟨rfl, _, rfl⟩
end
end Go.Proofs.YtefddiikdamnbaaGreatDoor.Dm

/- Contract: the table of an index. -/
set_option maxRecDepth 100000
namespace Go.Proofs.YtefddiikdamnbaaGreatDoor.Dm
open Go Go.RowKit

theorem two_at (F : Nat → Nat) : ∀ (k b : Nat), b < k → ((List.range k).flatMap (fun b => [byt ((F b / 256 : Nat) : Int), byt (F b : Int)]))[2 * b]? = some (byt ((F b / 256 : Nat) : Int)) ∧ ((List.range k).flatMap (fun b => [byt ((F b / 256 : Nat) : Int), byt (F b : Int)]))[2 * b + 1]? = some (byt (F b : Int)) := by
  intro k
  induction k with
  | zero => intro b hb; omega
  | succ k ih =>
    intro b hb
    have hl := two_len F k
    rw [List.range_succ, List.flatMap_append]
    by_cases h : b = k
    · subst h
      rw [List.getElem?_append_right (by omega), List.getElem?_append_right (by omega), hl, Nat.sub_self, show 2 * b + 1 - 2 * b = 1 by omega]
      exact ⟨rfl, rfl⟩
    · rw [List.getElem?_append_left (by omega), List.getElem?_append_left (by omega)]
      exact ih b (by omega)
theorem tbE_at (n cnt : Nat) (F : Nat → Nat) {b : Nat} (hb : b < 250) : (tbE n cnt F).getD (4 + 2 * b) 0 = byt ((F b / 256 : Nat) : Int) ∧ (tbE n cnt F).getD (4 + 2 * b + 1) 0 = byt (F b : Int) := by
  obtain ⟨h1, h2⟩ := two_at F 250 b hb
  have hl := two_len F 250
  constructor
  · rw [List.getD_eq_getElem?_getD, show 4 + 2 * b = 2 * b + 1 + 1 + 1 + 1 by omega]
    unfold tbE
    rw [List.getElem?_cons_succ, List.getElem?_cons_succ, List.getElem?_cons_succ, List.getElem?_cons_succ, List.getElem?_append_left (by omega), h1]
    rfl
  · rw [List.getD_eq_getElem?_getD, show 4 + 2 * b + 1 = (2 * b + 1) + 1 + 1 + 1 + 1 by omega]
    unfold tbE
    rw [List.getElem?_cons_succ, List.getElem?_cons_succ, List.getElem?_cons_succ, List.getElem?_cons_succ, List.getElem?_append_left (by omega), h2]
    rfl
/-- The first ones of k buckets. -/
def upto (F : Nat → Nat) (k : Nat) : Nat → Nat := fun b => if b < k then F b else 0
theorem upto_zero (F : Nat → Nat) : upto F 0 = fun _ => 0 := by funext b; simp [upto]
theorem upto_succ (F : Nat → Nat) (k : Nat) : upd (upto F k) k (F k) = upto F (k + 1) := by
  funext b
  by_cases h : b = k
  · subst h; rw [upd_same]; simp [upto]
  · rw [upd_other _ _ h]
    unfold upto
    by_cases h2 : b < k
    · rw [if_pos h2, if_pos (by omega)]
    · rw [if_neg h2, if_neg (by omega)]
theorem upto_all {F : Nat → Nat} {n : Nat} (h : ∀ b, n ≤ b → F b = 0) : upto F n = F := by
  funext b
  unfold upto
  split
  · rfl
  · exact (h b (by omega)).symm

theorem zeroTable1 : Tryz.zeroCells152.setIfInBounds 1 (.int .i64 1) = (.int .i64 0 :: .int .i64 1 :: .int .i64 0 :: fCells (fun _ => 0)).toArray := by rw [fCells_zero]; kernel_rfl
theorem zeroTable2 (a b : Int) : (Tryz.zeroCells152.setIfInBounds 0 (.int .i64 a)).setIfInBounds 1 (.int .i64 b) = (.int .i64 a :: .int .i64 b :: .int .i64 0 :: fCells (fun _ => 0)).toArray := by rw [fCells_zero]; kernel_rfl

section
variable {J : List RawOp → Prop} {B : Nat} {S : Nat → Prop} {c : Ac} {h : Hd} {G : Nat → List UInt8} {w : World} {hb r n cnt top : Nat} {F : Nat → Nat}
/-- A table in new memory, and what a call leaves of the action. -/
def TbPost (J : List RawOp → Prop) (B : Nat) (S : Nat → Prop) (c : Ac) (h : Hd) (G : Nat → List UInt8) (w : World) (pg n cnt : Nat) (F : Nat → Nat) (e : Ending) (w' : World) : Prop :=
  ∃ tb S', e = .returned (.pointer (some ⟨tb, 0, none⟩)) ∧ w.heap.size ≤ tb ∧ ¬ S' tb ∧ TbAt w' tb pg n cnt F ∧ Turn S w S' w' ∧ ActV J B S' c h G w'
set_option maxHeartbeats 1600000 in
theorem table_none (x : ActV J B S c h G w) (ht : HxAt w hb c.a r) (hr : r < 16) (hz : h.root r = 0) : Calls Tryz.prog 77 #[.pointer (some ⟨hb, 0, none⟩)] w (TbPost J B S c h G w 0 1 0 (fun _ => 0)) := by
  have HRT : Hid (∀ k, Calls Tryz.prog 16 #[.pointer (some ⟨c.a, 0, none⟩), .int .i64 r] (w.drewN k) fun e w' => e = .returned (.tuple #[.int .i64 0, .int .i64 0]) ∧ w' = w.drewN k) := Lib.hid fun k => by
    have := root_v (x.below (below_drewN w k)) r hr
    rw [hz] at this
    exact this
  have HRD : Hid (∀ k, Calls Tryz.prog 14 #[.pointer (some ⟨c.a, 0, none⟩), .int .i64 0] (w.drewN k) fun e w' => e = .returned (.tuple #[.string ⟨#[]⟩, .int .i64 3]) ∧ w' = w.drewN k) := Lib.hid fun k => read_v_none (x.below (below_drewN w k)) 0 (by omega)
  have HX := Lib.hid x
  have HB : Hid (∀ k, TbPost J B S c h G w 0 1 0 (fun _ => 0) (.returned (.pointer (some ⟨w.heap.size, 0, none⟩))) ((w.drewN k).alloc (.cells (.int .i64 0 :: .int .i64 1 :: .int .i64 0 :: fCells (fun _ => 0)).toArray 152))) := Lib.hid fun k => by
    have hb : Below w.heap.size w ((w.drewN k).alloc (.cells (.int .i64 0 :: .int .i64 1 :: .int .i64 0 :: fCells (fun _ => 0)).toArray 152)) := (below_drewN w k).alloc (Nat.le_refl _) _
    exact ⟨w.heap.size, S, rfl, Nat.le_refl _, fun hs => by have := (x.low _ hs).2; omega, heap_alloc_new (w.drewN k) _, Turn.ofBelow hb, x.below hb⟩
  have c1 := ht.c1
  have c2 := ht.c2
  rw [← zeroTable1] at HB
  clear x ht hr hz
  go_enter Tryz.func77, Tryz.ntmps77
  go_wp2
  go_quiet ((go_at_call 16; exact Calls.quiet_of_same (HRT.out _)))
  go_wp2_with fail
  refine (HRD.out _).mono ?_
  rintro e w1 ⟨rfl, hw⟩
  subst w1
  go_wp2
  go_ret
  exact HB.out _
set_option maxHeartbeats 3200000 in
theorem table_some (x : ActV J B S c h G w) (ht : HxAt w hb c.a r) (hS : ¬ S hb) (hr : r < 16) (hz : h.root r = top) (hp : h.has top) (hG : G top = tbE n cnt F) (hn : 1 ≤ n) (hn2 : n ≤ 250) (hc : cnt < 16777216) (hF : ∀ b, F b < 65536) (hF0 : ∀ b, n ≤ b → F b = 0) : Calls Tryz.prog 77 #[.pointer (some ⟨hb, 0, none⟩)] w (TbPost J B S c h G w top n cnt F) := by
  have HRT : Hid (∀ k, Calls Tryz.prog 16 #[.pointer (some ⟨c.a, 0, none⟩), .int .i64 r] (w.drewN k) fun e w' => e = .returned (.tuple #[.int .i64 top, .int .i64 0]) ∧ w' = w.drewN k) := Lib.hid fun k => by
    have := root_v (x.below (below_drewN w k)) r hr
    rw [hz] at this
    exact this
  obtain ⟨s, hs⟩ : ∃ s : ByteArray, s = ⟨(tbE n cnt F).toArray⟩ := ⟨_, rfl⟩
  have hlen := tbE_len n cnt F
  have HRD : Hid (∀ k, Calls Tryz.prog 14 #[.pointer (some ⟨c.a, 0, none⟩), .int .i64 top] (w.drewN k) fun e w' => e = .returned (.tuple #[.string s, .int .i64 0]) ∧ ActPost J B S c h G (w.drewN k) w') := Lib.hid fun k => by
    have := read_v (x.below (below_drewN w k)) top hp
    rw [hG, ← hs] at this
    exact this
  have HIX : Hid (∀ j : Nat, j < 512 → ∀ W, (Instr.index 9 (.string s) (.int .i64 (j : Int))).run Tryz.prog W = .ok (.int .u8 (((tbE n cnt F).getD j 0).toNat : Int)) W) := Lib.hid fun j hj W => by rw [hs]; exact str_byte _ j (by omega) W
  have e0 : (((tbE n cnt F).getD 0 0).toNat : Int) = (n : Int) := by show ((byt (n : Int)).toNat : Int) = _; rw [byt_nat']; omega
  obtain ⟨x1, hx1⟩ : ∃ x, x = cnt / 65536 := ⟨_, rfl⟩
  obtain ⟨x2, hx2⟩ : ∃ x, x = cnt / 256 % 256 := ⟨_, rfl⟩
  obtain ⟨x3, hx3⟩ : ∃ x, x = cnt % 256 := ⟨_, rfl⟩
  have e1 : (((tbE n cnt F).getD 1 0).toNat : Int) = (x1 : Int) := by show ((byt ((cnt / 65536 : Nat) : Int)).toNat : Int) = _; rw [byt_nat']; omega
  have e2 : (((tbE n cnt F).getD 2 0).toNat : Int) = (x2 : Int) := by show ((byt ((cnt / 256 : Nat) : Int)).toNat : Int) = _; rw [byt_nat']; omega
  have e3 : (((tbE n cnt F).getD 3 0).toNat : Int) = (x3 : Int) := by show ((byt (cnt : Int)).toNat : Int) = _; rw [byt_nat']; omega
  have i0 : ∀ W, (Instr.index 9 (.string s) (.int .i64 0)).run Tryz.prog W = .ok (.int .u8 (n : Int)) W := fun W => by have := HIX.out 0 (by omega) W; rw [e0] at this; exact this
  have i1 : ∀ W, (Instr.index 9 (.string s) (.int .i64 1)).run Tryz.prog W = .ok (.int .u8 (x1 : Int)) W := fun W => by have := HIX.out 1 (by omega) W; rw [e1] at this; exact this
  have i2 : ∀ W, (Instr.index 9 (.string s) (.int .i64 2)).run Tryz.prog W = .ok (.int .u8 (x2 : Int)) W := fun W => by have := HIX.out 2 (by omega) W; rw [e2] at this; exact this
  have i3 : ∀ W, (Instr.index 9 (.string s) (.int .i64 3)).run Tryz.prog W = .ok (.int .u8 (x3 : Int)) W := fun W => by have := HIX.out 3 (by omega) W; rw [e3] at this; exact this
  have hx1b : x1 < 256 := by omega
  have hx2b : x2 < 256 := by omega
  have hx3b : x3 < 256 := by omega
  have o1 : bits BinOp.or IntKind.i64 ((x1 : Int) * 65536) ((x2 : Int) * 256) = ((x1 * 65536 + x2 * 256 : Nat) : Int) := by
    have := or_two x1 (x2 * 256) 16 (by omega) (by omega) (by omega)
    rw [show ((x2 * 256 : Nat) : Int) = (x2 : Int) * 256 by omega] at this
    exact this
  have o2 : bits BinOp.or IntKind.i64 ((x1 * 65536 + x2 * 256 : Nat) : Int) (x3 : Int) = (cnt : Int) := by
    have := or_two (x1 * 256 + x2) x3 8 (by omega) (by omega) (by omega)
    rw [show ((x1 * 65536 + x2 * 256 : Nat) : Int) = ((x1 * 256 + x2 : Nat) : Int) * 2 ^ 8 by omega, this]
    omega
  have HO : bits BinOp.or IntKind.i64 (bits BinOp.or IntKind.i64 ((x1 : Int) * 65536) ((x2 : Int) * 256)) (x3 : Int) = (cnt : Int) := by rw [o1, o2]
  have HLK : Hid (∀ b : Nat, b < 250 → ∀ W, Calls Tryz.prog 127 #[.string s, .int .i64 (4 + 2 * (b : Int))] W fun e w' => e = .returned (.int .i64 (F b : Nat)) ∧ ∃ k, w' = W.drewN k) := Lib.hid fun b hb W => by
    have := linkIn_any (tbE n cnt F) (4 + 2 * b) W (by omega) (by omega)
    rw [show ((4 + 2 * b : Nat) : Int) = 4 + 2 * (b : Int) by omega, ← hs] at this
    refine this.mono ?_
    rintro e w' ⟨rfl, hk⟩
    refine ⟨?_, hk⟩
    congr 2
    obtain ⟨a1, a2⟩ := tbE_at n cnt F hb
    rw [a1, a2, byt_nat', byt_nat']
    have := hF b
    omega
  have hmax : max (n : Int) 1 = (n : Int) := by omega
  have hmin : min (n : Int) 250 = (n : Int) := by omega
  have hne : (top : Int) = 0 ∨ ¬ (top : Int) = 0 := by omega
  have HX := Lib.hid x
  have c1 := ht.c1
  have c2 := ht.c2
  have HT0 := Lib.hid ht
  have HSB := Lib.hid hS
  have HF0 := Lib.hid hF0
  clear x ht hr hz hp hG hs hlen e0 e1 e2 e3 hx1 hx2 hx3 o1 o2 hF hF0 hne hS
  go_enter Tryz.func77, Tryz.ntmps77
  go_wp2
  go_quiet ((go_at_call 16; exact Calls.quiet_of_same (HRT.out _)))
  go_wp2_with fail
  refine (HRD.out _).mono ?_
  rintro e w1 ⟨rfl, S1, hT1, hx1⟩
  go_wp2_with fail
  obtain ⟨W1, hW1⟩ : ∃ W1, W1 = w1.alloc (.cells ((Tryz.zeroCells152.setIfInBounds 0 (.int .i64 top)).setIfInBounds 1 (.int .i64 n)) 152) := ⟨_, rfl⟩
  obtain ⟨tb, htb⟩ : ∃ tb, tb = w1.heap.size := ⟨_, rfl⟩
  have hbW : Below w1.heap.size w1 W1 := by rw [hW1]; exact (Below.refl _ _).alloc (Nat.le_refl _) _
  have hTB : TbAt W1 tb top n 0 (fun _ => 0) := by
    unfold TbAt
    rw [hW1, htb, zeroTable2]
    exact heap_alloc_new w1 _
  have hTB2 : TbAt (W1.drew.setCell ⟨tb, 2, none⟩ (.int .i64 cnt)) tb top n cnt (upto F 0) := by rw [upto_zero]; exact (hTB.below (Below.refl _ _).drew).setCnt cnt
  have g1 := hTB.cells.2.1
  have g2 := hTB.cells.2.2
  have f2 := hTB.frozen 2
  have HK2 : Hid (Kept (fun k => k = tb) W1 (W1.drew.setCell ⟨tb, 2, none⟩ (.int .i64 cnt))) := Lib.hid ((Kept.ofBelow (Below.refl _ _).drew).trans (Kept.setCell (fun k => k = tb) _ (b := tb) (i := 2) rfl _) (fun _ e => .inl e))
  have HTB2 := Lib.hid hTB2
  have HW1B := Lib.hid hbW
  have HTURN := Lib.hid hT1
  have HX1 := Lib.hid hx1
  have HTB := Lib.hid htb
  rw [← hW1, ← htb]
  clear hW1 htb hbW hTB hTB2 hT1 hx1 i0
  go_still_tail 16, (by kernel_rfl)
  go_wp2_with fail
  go_loopw [62] (fun v wr => ∃ k : Nat, k ≤ n ∧ v = .int .i64 k ∧ Hid (TbAt wr tb top n cnt (upto F k)) ∧ Hid (Kept (fun k => k = tb) W1 wr)) (fun v _ => n - (intOf v).toNat)
  case atStart => exact ⟨0, by omega, rfl, HTB2, HK2⟩
  case round =>
    clear HTB2 HK2 HRT HRD i1 i2 i3 g1 g2 f2 HO
    obtain ⟨k, hk, rfl, HT, HK⟩ := hrel
    by_cases hlt : k < n
    · have hlt' : (k : Int) < (n : Int) := by omega
      have hk5 : k < 250 := by omega
      have HL := Lib.hid (HLK.out k hk5)
      have q1 := HT.out.first hk5
      have q2 := HT.out.frozen (3 + k)
      have hq0 : upto F k k = 0 := by unfold upto; rw [if_neg (Nat.lt_irrefl _)]
      rw [hq0] at q1
      have HN : Hid (∀ j, TbAt ((wr.drewN j).setCell ⟨tb, 3 + k, none⟩ (.int .i64 (F k : Nat))) tb top n cnt (upto F (k + 1)) ∧ Kept (fun k => k = tb) W1 ((wr.drewN j).setCell ⟨tb, 3 + k, none⟩ (.int .i64 (F k : Nat)))) := Lib.hid fun j => by
        refine ⟨?_, (HK.out.trans (Kept.ofBelow (below_drewN wr j)) (fun _ e => .inl e)).trans (Kept.setCell (fun k => k = tb) _ (b := tb) (i := 3 + k) rfl _) (fun _ e => .inl e)⟩
        have := ((HT.out.below (below_drewN wr j)).setF k (F k))
        rw [upto_succ] at this
        exact this
      obtain ⟨v, hv⟩ : ∃ v, v = F k := ⟨_, rfl⟩
      rw [← hv] at HL HN
      have a1 : (0 : Int) ≤ (k : Int) := by omega
      have a2 : (k : Int) < 250 := by omega
      have e5 : IntKind.i64.wrap (2 * (k : Int)) = 2 * (k : Int) := IntWalk.i64_in _ (by omega)
      have e6 : IntKind.i64.wrap (4 + 2 * (k : Int)) = 4 + 2 * (k : Int) := IntWalk.i64_in _ (by omega)
      clear hv hq0 HLK HT HK
      go_wp2
      go_region_with (go_at_call 127; refine (HL.out _).mono ?_; rintro e w3 ⟨rfl, j, hw⟩; subst w3)
      all_goals go_wp2
      all_goals go_roundw
      all_goals first
        | (case rel => exact ⟨k + 1, by omega, by go_num, Lib.hid (HN.out _).1, Lib.hid (HN.out _).2⟩)
        | (case measure => simp [intOf]; omega)
    · obtain rfl : k = n := by omega
      have hT := HT.out
      rw [upto_all HF0.out] at hT
      have hw := (HTURN.out)
      have hz := hw.1.size
      have hz2 := HX1.out.low
      have hK := HK.out
      have htl := HTB.out
      have hb1 := HW1B.out
      have HE : Hid (TbPost J B S c h G w top k cnt F (.returned (.pointer (some ⟨tb, 0, none⟩))) wr) := Lib.hid (by
        have hz' : w.heap.size ≤ w1.heap.size := hz
        have hKK : Kept (fun k => k = tb) w1 wr := (Kept.ofBelow hb1).trans hK (fun _ e => .inl e)
        refine ⟨tb, S1, rfl, by omega, fun hs => by have := (hz2 _ hs).2; omega, hT, ?_, HX1.out.kept hKK (fun j e hj => by omega)⟩
        have hB : Below w1.heap.size w1 wr := hKK.toBelow (Nat.le_refl _) (fun i e => by have e' : i = tb := e; omega)
        have hTw : Turn S w S1 w1 := (Turn.ofBelow (below_drewN w _)).trans hw
        exact hTw.trans (Turn.ofBelow hB))
      clear hT hw hz hz2 hK htl hb1 HT HK HX1 HTURN HW1B HTB HF0 HLK
      go_wp2
      go_ret
      exact HE.out
end
end Go.Proofs.YtefddiikdamnbaaGreatDoor.Dm

/- Contracts: a sheet is written, a table is kept. -/
set_option maxRecDepth 100000
namespace Go.Proofs.YtefddiikdamnbaaGreatDoor.Dm
open Go Go.RowKit

section
variable {J : List RawOp → Prop} {B : Nat} {S : Nat → Prop} {c : Ac} {h : Hd} {G : Nat → List UInt8} {w : World} {hb r n cnt top tb sb q nx : Nat} {F : Nat → Nat} {l : List Et}
set_option maxHeartbeats 1600000 in
theorem write_h (x : ActV J B S c h G w) (ht : HxAt w hb c.a r) (hSb : ¬ S hb) (hs : HsAt w sb q nx l) (hSs : ¬ S sb) (hq : h.has q) (hl : (bodyE l).length ≤ 510) (hnx : nx < 4096) (hG : (G q).length = 512) :
    Calls Tryz.prog 145 #[.pointer (some ⟨hb, 0, none⟩), .pointer (some ⟨sb, 0, none⟩)] w fun e w' => e = .returned (.tuple #[]) ∧ ActPost J B S c h (upd G q (shE nx l)) w w' := by
  obtain ⟨t, htt⟩ : ∃ t : ByteArray, t = ⟨(shE nx l).toArray⟩ := ⟨_, rfl⟩
  have htz : t.size = 512 := by rw [htt, ← shE_len (next := nx) hl]; rfl
  have HBY : Hid (∀ W, Below w.heap.size w W → Calls Tryz.prog 193 #[.pointer (some ⟨sb, 0, none⟩)] W fun e w' => e = .returned (.string t) ∧ Below W.heap.size W w') := Lib.hid fun W hb => by
    rw [htt]; exact shBytes_any (hs.below hb) hl hnx
  have HWR : Hid (∀ W, Below w.heap.size w W → Calls Tryz.prog 17 #[.pointer (some ⟨c.a, 0, none⟩), .int .i64 q, .int .i64 0, .string t] W fun e w' => e = .returned (.int .i64 0) ∧ ActPost J B S c h (upd G q (shE nx l)) w w') := Lib.hid fun W hb => by
    refine (write_v (x.below hb) q hq t htz hG).mono ?_
    rintro e w' ⟨rfl, S', hT, hx⟩
    have e1 : t.data.toList = shE nx l := by rw [htt]
    exact ⟨rfl, S', (Turn.ofBelow hb).trans hT, by rw [e1] at hx; exact hx⟩
  have c1 := ht.c1
  obtain ⟨d0, _, _⟩ := hs.cells
  have HS : Hid (∀ W, Kept S w W → (W.cell? ⟨hb, 1, none⟩ = some (.pointer (some ⟨c.a, 0, none⟩)) ∧ W.cell? ⟨sb, 0, none⟩ = some (.int .i64 q) ∧ Kept S w W)) := Lib.hid fun W hk => ⟨(ht.kept hk hSb).c1, (hs.kept hk hSs).cells.1, hk⟩
  clear x ht hs hq hG htt htz hSb hSs
  go_enter Tryz.func145, Tryz.ntmps145
  go_region_held (fun w' => w'.cell? ⟨hb, 1, none⟩ = some (.pointer (some ⟨c.a, 0, none⟩)) ∧ w'.cell? ⟨sb, 0, none⟩ = some (.int .i64 q) ∧ Kept S w w')
    ((refine HS.out _ ?_; first
      | exact Kept.refl _ _
      | exact Kept.ofBelow (Below.refl _ _).drew
      | exact hT.1
      | exact Kept.ofBelow ((Below.refl _ _).drew.trans hb2)))
    (first
    | (go_at_call 193; refine (HBY.out _ (Below.refl _ _).drew).mono ?_; rintro e w2 ⟨rfl, hb2⟩)
    | (go_at_call 17; refine (HWR.out _ ((Below.refl _ _).drew.trans hb2)).mono ?_; rintro e w3 ⟨rfl, S', hT, hx⟩))
  go_split_ands
  go_wp2
  go_end0
  exact ⟨rfl, S', hT, hx⟩
set_option maxHeartbeats 1600000 in
theorem keep_h (x : ActV J B S c h G w) (ht : HxAt w hb c.a r) (hSb : ¬ S hb) (hs : TbAt w tb q n cnt F) (hSs : ¬ S tb) (hq : h.has q) (hG : (G q).length = 512) :
    Calls Tryz.prog 146 #[.pointer (some ⟨hb, 0, none⟩), .pointer (some ⟨tb, 0, none⟩)] w fun e w' => e = .returned (.tuple #[]) ∧ ActPost J B S c h (upd G q (tbE n cnt F)) w w' := by
  obtain ⟨t, htt⟩ : ∃ t : ByteArray, t = ⟨(tbE n cnt F).toArray⟩ := ⟨_, rfl⟩
  have htz : t.size = 512 := by rw [htt, ← tbE_len n cnt F]; rfl
  have HBY : Hid (∀ W, Below w.heap.size w W → Calls Tryz.prog 133 #[.pointer (some ⟨tb, 0, none⟩)] W fun e w' => e = .returned (.string t) ∧ Below W.heap.size W w') := Lib.hid fun W hb => by
    rw [htt]; exact tbBytes_h (hs.below hb)
  have HWR : Hid (∀ W, Below w.heap.size w W → Calls Tryz.prog 17 #[.pointer (some ⟨c.a, 0, none⟩), .int .i64 q, .int .i64 0, .string t] W fun e w' => e = .returned (.int .i64 0) ∧ ActPost J B S c h (upd G q (tbE n cnt F)) w w') := Lib.hid fun W hb => by
    refine (write_v (x.below hb) q hq t htz hG).mono ?_
    rintro e w' ⟨rfl, S', hT, hx⟩
    have e1 : t.data.toList = tbE n cnt F := by rw [htt]
    exact ⟨rfl, S', (Turn.ofBelow hb).trans hT, by rw [e1] at hx; exact hx⟩
  have c1 := ht.c1
  obtain ⟨d0, _, _⟩ := hs.cells
  have HS : Hid (∀ W, Kept S w W → (W.cell? ⟨hb, 1, none⟩ = some (.pointer (some ⟨c.a, 0, none⟩)) ∧ W.cell? ⟨tb, 0, none⟩ = some (.int .i64 q) ∧ Kept S w W)) := Lib.hid fun W hk => ⟨(ht.kept hk hSb).c1, (hs.kept hk hSs).cells.1, hk⟩
  clear x ht hs hq hG htt htz hSb hSs
  go_enter Tryz.func146, Tryz.ntmps146
  go_region_held (fun w' => w'.cell? ⟨hb, 1, none⟩ = some (.pointer (some ⟨c.a, 0, none⟩)) ∧ w'.cell? ⟨tb, 0, none⟩ = some (.int .i64 q) ∧ Kept S w w')
    ((refine HS.out _ ?_; first
      | exact Kept.refl _ _
      | exact Kept.ofBelow (Below.refl _ _).drew
      | exact hT.1
      | exact Kept.ofBelow ((Below.refl _ _).drew.trans hb2)))
    (first
    | (go_at_call 133; refine (HBY.out _ (Below.refl _ _).drew).mono ?_; rintro e w2 ⟨rfl, hb2⟩)
    | (go_at_call 17; refine (HWR.out _ ((Below.refl _ _).drew.trans hb2)).mono ?_; rintro e w3 ⟨rfl, S', hT, hx⟩))
  go_split_ands
  go_wp2
  go_end0
  exact ⟨rfl, S', hT, hx⟩
end
end Go.Proofs.YtefddiikdamnbaaGreatDoor.Dm

/- A range over a function whose iterator turns memory of its own (an action's): the statement, and one round, each by itself. -/
set_option maxRecDepth 100000
namespace Go.Proofs.YtefddiikdamnbaaGreatDoor
open Go Go.RowKit

/-- A loop's record, by its state and its pending jump. -/
abbrev LpRec := LoopState → Option Code → Loop
/-- What is asked of a loop's body at its end: R is told what yield answers, and the world behind it. -/
def yPost (l : Nat) (rec : LpRec) (R : Bool → Option Code → World → Prop) : Exit → Act → World → Prop
  | .normal, _, w => w.heap[l]? = some (.loop (rec .busy none)) ∧ R true none (w.putObj l (.loop (rec .ready none)))
  | .ret, _, w => w.heap[l]? = some (.loop (rec .busy none)) ∧ R false (some .ret) (w.putObj l (.loop (rec .done (some .ret))))
  | .exit id, _, w => w.heap[l]? = some (.loop (rec .busy none)) ∧ R false (some (.exit id)) (w.putObj l (.loop (rec .done (some (.exit id)))))
  | .goto t, _, w => w.heap[l]? = some (.loop (rec .busy none)) ∧ R false (some (.goto t)) (w.putObj l (.loop (rec .done (some (.goto t)))))
  | .panic _, _, _ => False
  | .outgrown, _, _ => False

section
variable {P : Program} {n m : Nat}
/-- One call of yield: the assignments to the loop's left sides, then the body. -/
theorem yield_round {l : Nat} {W : World} {fn : FuncId} {tmps : Array Value} {ps : Array Tmp} {assign body : Code} {D : Nat} {rec : LpRec} {args : Array Value}
    (hrec : ∀ st pe, rec st pe = { state := st, pending := pe, fn, tmps, params := ps, assign, body, defers := D })
    (hl : W.heap[l]? = some (.loop (rec .ready none))) (hs : args.size = ps.size) (R : Bool → Option Code → World → Prop)
    (h : assign.wpIn (Fence.wide.inRound l) m P (Exit.then (fun a₁ w₁ => w₁.heap[l]? = some (.loop (rec .ready none)) ∧ body.wpIn (Fence.wide.inRound l) m P (yPost l rec R) a₁ (w₁.putObj l (.loop (rec .busy none)))) (fun _ _ _ => False))
      { tmps := (ps.zip args).foldl (fun t (p, v) => t.setIfInBounds p v) tmps, defers := [] } W) :
    YieldAt Fence.wide m P l args W fun e W' => ∃ b j, e = .returned (.bool b) ∧ R b j W' := by
  have hy := run_yield (P := P) (args := args) hl (by rw [hrec]; exact hs)
  rw [hrec] at hy
  refine ⟨fn, _, assign, body, hy, roundIn_of_wpIn trivial (wpIn_mono h ?_)⟩
  rintro e a1 W1 hp
  cases e with
  | normal =>
    obtain ⟨h1, h2⟩ := hp
    have hb := run_beginRound (P := P) h1 (by rw [hrec])
    have e1 : ({ rec .ready none with state := .busy } : Loop) = rec .busy none := by rw [hrec, hrec]
    rw [e1] at hb
    refine ⟨_, hb, wpIn_mono h2 ?_⟩
    have key : ∀ (j : Option Code) (W3 : World), W3.heap[l]? = some (.loop (rec .busy none)) → (Instr.endRound l j).run P W3 = .ok (.bool j.isNone) (W3.putObj l (.loop (rec (if j.isNone then .ready else .done) j))) := fun j W3 h3 => by
      have := run_endRound (P := P) j h3
      rw [hrec] at this ⊢
      exact this
    rintro e a3 W3 hp
    cases e with
    | normal => exact ⟨_, _, key none W3 hp.1, true, _, rfl, hp.2⟩
    | ret => exact ⟨_, _, key _ W3 hp.1, false, _, rfl, hp.2⟩
    | exit id => exact ⟨_, _, key _ W3 hp.1, false, _, rfl, hp.2⟩
    | goto t => exact ⟨_, _, key _ W3 hp.1, false, _, rfl, hp.2⟩
    | panic ch => exact hp.elim
    | outgrown => exact hp.elim
  | ret => exact hp.elim
  | exit id => exact hp.elim
  | goto t => exact hp.elim
  | panic ch => exact hp.elim
  | outgrown => exact hp.elim

/-- How an iterator ends: nothing is pending, or a jump is. -/
def ranOut (l : Nat) (rec : LpRec) (Qd : World → Prop) (Qj : Code → World → Prop) (e : Ending) (W : World) : Prop :=
  (∃ v, e = .returned v) ∧ ((W.heap[l]? = some (.loop (rec .ready none)) ∧ Qd (W.putObj l (.loop (rec .exhausted none)))) ∨
    ∃ c, W.heap[l]? = some (.loop (rec .done (some c))) ∧ Qj c (W.putObj l (.loop (rec .exhausted (some c)))))

/-- The statement, outside rounds: two blocks are laid, the iterator is called. -/
theorem range_outer {g : Operand} {ps : Array Tmp} {assign body : Code} {Q : Exit → Act → World → Prop} {a : Act} {w : World} {gf : Nat} {lb : Array Value}
    (hg : a.eval g = .func (.func gf) #[] lb) (eg : ∀ args w, (callFunc gf args).run P w = .ok (.enter gf args) w)
    (h : ∀ (fn : FuncId) (rec : LpRec), (∀ st pe, rec st pe = { state := st, pending := pe, fn, tmps := a.tmps, params := ps, assign, body, defers := w.heap.size }) →
      CallsIn Fence.wide m P gf (#[.func (.yield (w.heap.size + 1)) #[] #[]] ++ lb) ((w.alloc (.deferred (some []))).alloc (.loop (rec .ready none)))
        (ranOut (w.heap.size + 1) rec (Q .normal { a with defers := { target := .collected w.heap.size, args := #[] } :: a.defers }) (fun c => c.wpIn Fence.wide n P Q { a with defers := { target := .collected w.heap.size, args := #[] } :: a.defers }))) :
    (Code.rangeFunc g ps assign body).wpIn Fence.wide n P Q a w := by
  refine wpIn_rangeFunc ?_
  intro fn _
  have hc := h fn (fun st pe => { state := st, pending := pe, fn, tmps := a.tmps, params := ps, assign, body, defers := w.heap.size }) (fun _ _ => rfl)
  obtain ⟨W1, hW1⟩ : ∃ W1, W1 = (w.alloc (.deferred (some []))).alloc (.loop { state := .ready, pending := none, fn, tmps := a.tmps, params := ps, assign, body, defers := w.heap.size }) := ⟨_, rfl⟩
  rw [← hW1] at hc
  refine ⟨w.heap.size + 1, [{ target := .collected w.heap.size, args := #[] }], W1, { target := .fn (.func gf) lb, args := #[.func (.yield (w.heap.size + 1)) #[] #[]] }, W1, gf, #[.func (.yield (w.heap.size + 1)) #[] #[]] ++ lb, W1, by rw [hW1]; exact run_enterLoop_outer _ _ _ _ _, ?_, fun _ _ => trivial, ?_, fun hd => absurd hd (by simp [Fence.wide]), ?_⟩
  · simp only [resolve, hg]
    simp [go_sem]
  · simp [invoke, go_sem, eg]
  · refine (callsIn_wide (n := n - 1)).2 ((callsIn_wide (n := m)).1 (CallsIn.mono hc ?_))
    rintro e W2 ⟨⟨v, rfl⟩, (⟨h1, h2⟩ | ⟨c, h1, h2⟩)⟩
    · exact ⟨none, _, run_endLoop (P := P) h1 (by simp), h2⟩
    · exact ⟨some c, _, run_endLoop (P := P) h1 (by simp), h2⟩

/-- The statement in a round of the loop l₀: one block is laid. -/
theorem range_inner {g : Operand} {ps : Array Tmp} {assign body : Code} {Q : Exit → Act → World → Prop} {a : Act} {w : World} {gf : Nat} {lb : Array Value} {l₀ : Nat} {r₀ : Loop} (hl₀ : w.heap[l₀]? = some (.loop r₀))
    (hg : a.eval g = .func (.func gf) #[] lb) (eg : ∀ args w, (callFunc gf args).run P w = .ok (.enter gf args) w)
    (h : ∀ (fn : FuncId) (rec : LpRec), (∀ st pe, rec st pe = { state := st, pending := pe, fn, tmps := a.tmps, params := ps, assign, body, defers := r₀.defers }) →
      CallsIn Fence.wide m P gf (#[.func (.yield w.heap.size) #[] #[]] ++ lb) (w.alloc (.loop (rec .ready none)))
        (ranOut w.heap.size rec (Q .normal a) (fun c => c.wpIn (Fence.wide.inRound l₀) n P Q a))) :
    (Code.rangeFunc g ps assign body).wpIn (Fence.wide.inRound l₀) n P Q a w := by
  refine wpIn_rangeFunc ?_
  intro fn _
  have hc := h fn (fun st pe => { state := st, pending := pe, fn, tmps := a.tmps, params := ps, assign, body, defers := r₀.defers }) (fun _ _ => rfl)
  obtain ⟨W1, hW1⟩ : ∃ W1, W1 = w.alloc (.loop { state := .ready, pending := none, fn, tmps := a.tmps, params := ps, assign, body, defers := r₀.defers }) := ⟨_, rfl⟩
  rw [← hW1] at hc
  refine ⟨w.heap.size, [], W1, { target := .fn (.func gf) lb, args := #[.func (.yield w.heap.size) #[] #[]] }, W1, gf, #[.func (.yield w.heap.size) #[] #[]] ++ lb, W1, by rw [hW1]; exact run_enterLoop_inner hl₀ _ _ _ _ _, ?_, fun _ _ => trivial, ?_, fun hd => absurd hd (by simp [Fence.wide, Fence.inRound]), ?_⟩
  · simp only [resolve, hg]
    simp [go_sem]
  · simp [invoke, go_sem, eg]
  · refine CallsIn.inRound l₀ ((callsIn_wide (n := n - 1)).2 ((callsIn_wide (n := m)).1 (CallsIn.mono hc ?_)))
    rintro e W2 ⟨⟨v, rfl⟩, (⟨h1, h2⟩ | ⟨c, h1, h2⟩)⟩
    · exact ⟨none, _, run_endLoop (P := P) h1 (by simp), h2⟩
    · exact ⟨some c, _, run_endLoop (P := P) h1 (by simp), h2⟩
end
end Go.Proofs.YtefddiikdamnbaaGreatDoor

/- Contracts: the iterators over sheets, as values; what was seen. -/
set_option maxRecDepth 100000
namespace Go.Proofs.YtefddiikdamnbaaGreatDoor.Dm
open Go Go.RowKit

/-- Which pages were seen. -/
def svCells (V : Nat → Bool) : List Value := (List.range 4096).map fun i => .bool (V i)
def SeenAt (w : World) (sn : Nat) (V : Nat → Bool) : Prop := w.heap[sn]? = some (.cells (svCells V).toArray 245 (0, 0))
def updB (V : Nat → Bool) (q : Nat) : Nat → Bool := fun i => if i = q then true else V i
theorem svCells_at (V : Nat → Bool) {i : Nat} (hi : i < 4096) : (svCells V)[i]? = some (.bool (V i)) := by
  unfold svCells
  rw [List.getElem?_map, List.getElem?_range hi]
  rfl
theorem svCells_len (V : Nat → Bool) : (svCells V).length = 4096 := by simp [svCells]
theorem svCells_set (V : Nat → Bool) (q : Nat) : (svCells V).set q (.bool true) = svCells (updB V q) := by
  apply List.ext_getElem?
  intro i
  by_cases hi : i < 4096
  · by_cases hib : i = q
    · subst hib
      rw [List.getElem?_set_self (by rw [svCells_len]; exact hi), svCells_at _ hi]
      simp [updB]
    · rw [List.getElem?_set_ne (fun e => hib e.symm), svCells_at _ hi, svCells_at _ hi]
      simp [updB, hib]
  · rw [List.getElem?_eq_none (by rw [List.length_set, svCells_len]; omega), List.getElem?_eq_none (by rw [svCells_len]; omega)]
theorem svCells_zero : svCells (fun _ => false) = List.replicate 4096 (.bool false) := by
  apply List.ext_getElem?
  intro i
  by_cases hi : i < 4096
  · rw [svCells_at _ hi, List.getElem?_replicate, if_pos hi]
  · rw [List.getElem?_eq_none (by rw [svCells_len]; omega), List.getElem?_eq_none (by rw [List.length_replicate]; omega)]
theorem zeroSeen : Tryz.zeroCells245 = (svCells (fun _ => false)).toArray := by rw [svCells_zero]; kernel_rfl
section
variable {w w' : World} {sn : Nat} {V : Nat → Bool}
theorem SeenAt.lt (h : SeenAt w sn V) : sn < w.heap.size := (Array.getElem?_eq_some_iff.1 h).1
theorem SeenAt.kept {T : Nat → Prop} (h : SeenAt w sn V) (hk : Kept T w w') (hT : ¬ T sn) : SeenAt w' sn V := by
  unfold SeenAt; rw [hk.block sn h.lt hT]; exact h
theorem SeenAt.at_ (h : SeenAt w sn V) {i : Nat} (hi : i < 4096) : w.cell? ⟨sn, i, none⟩ = some (.bool (V i)) := by
  rw [Lib.cell_of_heap h, List.getElem?_toArray]
  exact svCells_at V hi
theorem SeenAt.frozen (h : SeenAt w sn V) (i : Nat) : w.frozen? ⟨sn, i, none⟩ = false := Lib.frozen_of_heap h i
theorem SeenAt.mark (h : SeenAt w sn V) (q : Nat) : SeenAt (w.setCell ⟨sn, q, none⟩ (.bool true)) sn (updB V q) := by
  unfold SeenAt at h ⊢
  rw [heap_set_at h q _]
  congr 2
  apply Array.ext'
  rw [Array.toList_setIfInBounds, List.toList_toArray, List.toList_toArray, svCells_set]
end

/-- An iterator over chains: its three boxes. -/
def IterAt (w : World) (hb tb o m cp b1 b2 b3 : Nat) : Prop :=
  w.heap[b1]? = some (.cells #[.pointer (some ⟨hb, 0, none⟩)] 70 (0, 0)) ∧ w.heap[b2]? = some (.cells #[.pointer (some ⟨tb, 0, none⟩)] 142 (0, 0)) ∧ w.heap[b3]? = some (.cells #[.slice (some ⟨tb, 3 + o, none⟩) m cp] 57 (0, 0))
theorem along_any (hb tb o m cp : Nat) (w : World) : Calls Tryz.prog 126 #[.pointer (some ⟨hb, 0, none⟩), .pointer (some ⟨tb, 0, none⟩), .slice (some ⟨tb, 3 + o, none⟩) m cp] w fun e w' =>
    ∃ b, e = .returned (.func (.func 177) #[] #[.pointer (some ⟨b + 1, 0, none⟩), .pointer (some ⟨b + 2, 0, none⟩), .pointer (some ⟨b, 0, none⟩)]) ∧ w.heap.size ≤ b ∧ IterAt w' hb tb o m cp b (b + 1) (b + 2) ∧ Below w.heap.size w w' := by
  have HE : Hid (IterAt (((w.alloc (.cells #[.pointer (some ⟨hb, 0, none⟩)] 70)).alloc (.cells #[.pointer (some ⟨tb, 0, none⟩)] 142)).alloc (.cells #[.slice (some ⟨tb, 3 + o, none⟩) m cp] 57)) hb tb o m cp w.heap.size (w.heap.size + 1) (w.heap.size + 2) ∧
      Below w.heap.size w (((w.alloc (.cells #[.pointer (some ⟨hb, 0, none⟩)] 70)).alloc (.cells #[.pointer (some ⟨tb, 0, none⟩)] 142)).alloc (.cells #[.slice (some ⟨tb, 3 + o, none⟩) m cp] 57))) := Lib.hid (by
    have h1 := heap_alloc_new w (.cells #[.pointer (some ⟨hb, 0, none⟩)] 70)
    have h2 := heap_alloc_new (w.alloc (.cells #[.pointer (some ⟨hb, 0, none⟩)] 70)) (.cells #[.pointer (some ⟨tb, 0, none⟩)] 142)
    have h3 := heap_alloc_new ((w.alloc (.cells #[.pointer (some ⟨hb, 0, none⟩)] 70)).alloc (.cells #[.pointer (some ⟨tb, 0, none⟩)] 142)) (.cells #[.slice (some ⟨tb, 3 + o, none⟩) m cp] 57)
    simp only [World.size_alloc] at h2 h3
    refine ⟨⟨?_, ?_, h3⟩, (((Below.refl _ _).alloc (Nat.le_refl _) _).alloc (by simp) _).alloc (by simp; omega) _⟩
    · rw [Below.heap_alloc _ _ _ (by simp; omega), Below.heap_alloc _ _ _ (by simp)]; exact h1
    · rw [Below.heap_alloc _ _ _ (by simp)]; exact h2)
  go_enter Tryz.func126, Tryz.ntmps126
  go_wp2
  go_ret
  exact ⟨w.heap.size, rfl, Nat.le_refl _, HE.out.1, HE.out.2⟩
theorem infoInt_ : (Tryz.prog.info? 3).map (·.size) = some 1 := by kernel_rfl
theorem run_slicePart2 (W : World) (b o f t : Nat) (h1 : f < t) (h2 : t ≤ 250) : (Instr.sliceAt 150 (.pointer (some ⟨b, o, none⟩)) (some (.int .i64 f)) (some (.int .i64 t)) none).run Tryz.prog W = .ok (.slice (some ⟨b, o + f, none⟩) (t - f) (250 - f)) W := by
  obtain ⟨i, hi, hs⟩ := Option.map_eq_some_iff.1 infoInt_
  have e1 : f ≤ t := by omega
  have e2 : ¬ 250 = f := by omega
  simp [Instr.sliceAt, run_underlying Tryz.underlying150, Instr.sureAddr, Instr.sliceBounds, Instr.sliceBound, asIntOf, sizeOf, typeInfo, hi, hs, Result.andThen, e1, h2, e2, add_lit']
theorem run_sliceOne (W : World) (b o f : Nat) (h2 : f < 250) : (Instr.sliceAt 150 (.pointer (some ⟨b, o, none⟩)) (some (.int .i64 f)) (some (.int .i64 ((f : Int) + 1))) none).run Tryz.prog W = .ok (.slice (some ⟨b, o + f, none⟩) 1 (250 - f)) W := by
  have h := run_slicePart2 W b o f (f + 1) (by omega) (by omega)
  rw [show ((f + 1 : Nat) : Int) = (f : Int) + 1 by omega, show f + 1 - f = 1 by omega] at h
  exact h
section
theorem sheets_any (hb tb b : Nat) (w : World) (hb2 : b < 250) : Calls Tryz.prog 95 #[.pointer (some ⟨hb, 0, none⟩), .pointer (some ⟨tb, 0, none⟩), .int .i64 b] w fun e w' =>
    ∃ i, e = .returned (.func (.func 177) #[] #[.pointer (some ⟨i + 1, 0, none⟩), .pointer (some ⟨i + 2, 0, none⟩), .pointer (some ⟨i, 0, none⟩)]) ∧ w.heap.size ≤ i ∧ IterAt w' hb tb b 1 (250 - b) i (i + 1) (i + 2) ∧ Below w.heap.size w w' := by
  have HA := Lib.hid fun W => along_any hb tb b 1 (250 - b) W
  have hsl := fun W => run_sliceOne W tb 3 b hb2
  have e3 : IntKind.i64.wrap ((b : Int) + 1) = (b : Int) + 1 := IntWalk.i64_in _ (by omega)
  go_enter Tryz.func95, Tryz.ntmps95
  go_wp2_with fail
  refine (HA.out _).mono ?_
  rintro e w1 ⟨i, rfl, hi, hit, hb1⟩
  have H := Lib.hid (And.intro hi (And.intro hit hb1))
  clear hi hit hb1
  go_wp2
  go_ret
  exact ⟨i, rfl, H.out⟩
end

/-! ### What a round leaves -/
/-- Beside the action's own memory just the blocks of C are written. -/
def TurnX (C S : Nat → Prop) (w : World) (S' : Nat → Prop) (w' : World) : Prop := Kept (fun k => S k ∨ C k) w w' ∧ ∀ k, k < w.heap.size → S' k → S k
/-- What an iterator is told by one call of yield. -/
def YPosX {α : Type} (J : List RawOp → Prop) (B : Nat) (c : Ac) (h : Hd) (G : Nat → List UInt8) (C : Nat → Prop) (Js Jx : (Nat → Prop) → List α → World → Prop) (S : Nat → Prop) (s : List α) (w : World) (e : Ending) (w' : World) : Prop :=
  ∃ bb S', e = .returned (.bool bb) ∧ (bb = true → TurnX C S w S' w' ∧ ActV J B S' c h G w' ∧ Js S' s w') ∧ (bb = false → Jx S' s w')
/-- How an iterator over an action ends: all were handed over, or it was left. -/
def SeqEndX {α : Type} (J : List RawOp → Prop) (B : Nat) (c : Ac) (h : Hd) (G : Nat → List UInt8) (Js Jx : (Nat → Prop) → List α → World → Prop) (all : List α) (e : Ending) (w' : World) : Prop :=
  (∃ v, e = .returned v) ∧ ((∃ S', ActV J B S' c h G w' ∧ Js S' all w') ∨ ∃ S' pre, pre <+: all ∧ Jx S' pre w')
end Go.Proofs.YtefddiikdamnbaaGreatDoor.Dm
