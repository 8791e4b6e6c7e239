/- Texts of the same proof, one behind the other: HB, HK, HL, HP, HE, FB, FF, FG. -/
import Derived.Test.YtijggofelepaaaaGreatDoorMAN
import Derived.Test.YtijggofelepaaaaGreatDoorMAM
import Derived.Deep.RegionHeld3
import Derived.RangeFuncBound
import Derived.RangeFuncLeaves
import Derived.Shelf.Abstract
import Derived.Shelf.RegionOpen
import Derived.OwnWalkIn
import Derived.TacticsInMore
import Derived.LoopNIn
import Derived.LoopIn
import Derived.BigQuiet
/- Contract: Action.Write of some bytes at a place of a page, with a draft or without. -/
set_option maxRecDepth 100000
namespace Go.Proofs.YtijggofelepaaaaGreatDoor
open Go.RowKit

section
variable {J : List RawOp → Prop} {B : Nat} {S : Nat → Prop} {c : Ac} {h : Hd} {G : Nat → List UInt8} {w : World}
set_option maxHeartbeats 3200000 in
theorem new_chain_at (x : ActV J B S c h G w) {m : Nat} {D : Nat → Option Dr} {S0 : Nat → Prop} (hL : LiveSt J B S0 c.a c.s c.d c.l c.p c.db m c.n c.C c.N c.last h D w) (h1 : ∀ k, S0 k → S k) (h2 : ∀ q x, D q = some x → S x.blk) (h3 : DrOk c.last h c.C D) (h4 : ∀ q, h.has q → G q = pgD c.C D q)
    (q : Nat) (hq : h.has q) (hD : D q = none) (hC : (c.C q).length = 512) (at_ : Nat) (t : ByteArray) (hfit : at_ + t.size ≤ 512) :
    Calls Tryz.prog 42 #[.pointer (some ⟨c.s, 1, none⟩), .int .i64 q] w fun e w1 => e = .returned (.string ⟨(c.C q).toArray⟩) ∧
      Calls Tryz.prog 45 #[.string ⟨(c.C q).toArray⟩] w1 fun e w2 => ∃ b w3, e = .returned (.pointer (some ⟨b, 0, none⟩)) ∧ w2.cell? ⟨c.a, 83, none⟩ = some (.map (some c.db)) ∧
        (Instr.mapUpdate 38 (.map (some c.db)) (.int .i64 q) (.pointer (some ⟨b, 0, none⟩))).run Tryz.prog w2 = .ok () w3 ∧
          (Builtin.copy_ #[94, 9] 3 #[.slice (some ⟨b, 513 + at_, none⟩) (512 - at_) (512 - at_), .string t]).run Tryz.prog w3 = .ok (goInt t.size) (w3.setCells b (513 + at_) (Lib.byteCells t.data.toList)) ∧
            Hid (ActPost J B S c h (upd G q (splice (G q) at_ t.data.toList)) w (w3.setCells b (513 + at_) (Lib.byteCells t.data.toList))) := by
  have hq4 : q < 4096 := by have := hq.2.1; have := x.ok.cnt; omega
  have htl : t.data.toList.length = t.size := rfl
  have hGq : G q = c.C q := by rw [h4 q hq]; unfold pgD; rw [hD]
  refine (sread_k q hL.act.sp hL.ns hL.pool hq4 hL.n0 x.cost x.saves).mono ?_
  rintro e w1 ⟨rfl, S1, hT, hp⟩
  refine ⟨rfl, ?_⟩
  have hL1 := hL.turn hT hp
  have hsz := x.size
  have hT1 : Turn S w (fun k => (S k ∨ w.heap.size ≤ k) ∧ k < w1.heap.size) w1 := ⟨hT.1.mono h1, fun k hlt hs => hs.1.elim id (by omega)⟩
  have x1 : ActV J B (fun k => (S k ∨ w.heap.size ≤ k) ∧ k < w1.heap.size) c h G w1 := by
    refine ⟨⟨m, D, S1, hL1, fun k hs => ⟨?_, (hp.low k hs).2⟩, fun r y hr => ⟨.inl (h2 r y hr), by have := (x.low _ (h2 r y hr)).2; have := hT.1.size; omega⟩, h3, h4⟩, ?_, ?_, x.saves, x.cost, x.tab.1.kept hT.1 (fun h0 => ?_), x.tab.2⟩
    · rcases Nat.lt_or_ge k w.heap.size with hlt | hge
      · exact .inl (h1 k (hT.2 k hlt hs))
      · exact .inr hge
    · have hz := hT.1.size
      have f : ∀ k, S k → (S k ∨ w.heap.size ≤ k) ∧ k < w1.heap.size := fun k hs => ⟨.inl hs, by have := (x.low k hs).2; omega⟩
      exact ⟨f _ x.own.1, f _ x.own.2.1, f _ x.own.2.2.1, f _ x.own.2.2.2⟩
    · rintro k ⟨hs, hlt⟩
      refine ⟨hs.elim (fun h => (x.low k h).1) (fun h => by omega), hlt⟩
    · have := (x.low 0 (h1 0 h0)).1
      have := x.tab.2
      omega
  have hs1 : ∀ k, S1 k → (S k ∨ w.heap.size ≤ k) ∧ k < w1.heap.size := fun k hs => ⟨by
    rcases Nat.lt_or_ge k w.heap.size with hlt | hge
    · exact .inl (h1 k (hT.2 k hlt hs))
    · exact .inr hge, (hp.low k hs).2⟩
  refine (draftOf_ok ⟨(c.C q).toArray⟩ w1 (by show (c.C q).toArray.size = 512; simpa using hC)).mono ?_
  rintro e w2 ⟨b, rfl, hb1, hb2, hbl, hfz, hrg⟩
  have hrg' : w2.rangeAt b 0 (Dr.cells ⟨b, false, c.C q, c.C q⟩) := by
    have : (⟨(c.C q).toArray⟩ : ByteArray).data.toList = c.C q := by simp
    rw [this] at hrg; exact hrg
  have hL2 := hL1.below hbl
  have hX2 := hL2.act
  have hdl := hL1.act.dr.ltM
  have hal := hL1.act.ac.lt
  have hsl := hL1.act.sp.lt
  have hll := hL1.lg.lt
  have hBw := hL1.size
  obtain ⟨w3, hr, hD3, hk3⟩ := hX2.dr.put (by have := hL.act.dr.few; omega) hq4 hD ⟨b, false, c.C q, c.C q⟩ hrg' hfz hC hC (by show b ≠ c.db; omega) hb2 (fun j y hj => by
    have := (hL1.act.dr.at_ j y hj).2.2.2.2.2.2
    show y.blk ≠ b
    omega)
  have hX3 : ActSt w3 c.a c.s c.d c.l c.p c.db (m + 1) c.last h (upd D q (some ⟨b, false, c.C q, c.C q⟩)) := by
    refine ⟨hX2.sp.kept hk3 hX2.ne.2.2, hX2.ac.kept hk3 hX2.ne.2.1, hD3, hX2.okl, hX2.ok, fun j y hj => ?_, hX2.ne, fun j y hj => ?_⟩
    · by_cases hjq : j = q
      · rw [hjq]; exact hq
      · rw [upd_other _ _ hjq] at hj; exact hX2.has j y hj
    · by_cases hjq : j = q
      · subst hjq; rw [upd_same] at hj; cases hj
        show b ≠ c.a ∧ b ≠ c.s
        omega
      · rw [upd_other _ _ hjq] at hj; exact hX2.blk j y hj
  obtain ⟨hX4, hk4⟩ := hX3.turnDr (q := q) (upd_same _ _ _) (at_ := at_) (bs := t.data.toList) (by rw [htl]; omega)
  rw [upd_twice] at hX4
  have hth : w3.there b 0 1025 := by
    obtain ⟨_, g2, g3, g4, g5, _⟩ := hX3.dr.at_ q _ (upd_same _ _ _)
    exact Dr.there_ g2 g3 g4 g5
  have hcp := run_copy_string_mid w3 94 9 3 5 b (513 + at_) (512 - at_) (512 - at_) t Tryz.underlying94 (by kernel_rfl) (there_part hth (by omega) (by omega)) (by omega)
  refine ⟨b, w3, rfl, hX2.ac.dr, hr, hcp, Lib.hid ?_⟩
  have hk : Kept (fun k => k = c.db) w1 (w3.setCells b (513 + at_) (Lib.byteCells t.data.toList)) := by
    refine ((Kept.ofBelow (S := fun k => k = c.db) hbl).trans hk3 (fun _ e => .inl e)).trans hk4 (fun k e => .inr ?_)
    have e' : k = b := e
    omega
  have hk24 : Kept (fun k => k = c.db ∨ k = b) w2 (w3.setCells b (513 + at_) (Lib.byteCells t.data.toList)) :=
    (hk3.mono (T := fun k => k = c.db ∨ k = b) (fun _ e => .inl e)).trans (hk4.mono (T := fun k => k = c.db ∨ k = b) (fun _ e => .inr e)) (fun _ e => .inl e)
  have hlow := hL1.low
  have hL4 : LiveSt J B S1 c.a c.s c.d c.l c.p c.db (m + 1) c.n c.C c.N c.last h (upd D q (some ((⟨b, false, c.C q, c.C q⟩ : Dr).put at_ t.data.toList))) (w3.setCells b (513 + at_) (Lib.byteCells t.data.toList)) := by
    refine ⟨hX4, hL2.pool.kept hk24 (fun k _ hS he => ?_), hL2.lg.kept hk24 ?_, hL1.ns, hL1.na, hL1.nl, hL1.nb, fun j y hj => ?_, ⟨hL1.ne.1, hL1.ne.2.1, hL1.ne.2.2.1, fun j y hj => ?_⟩, ⟨hlow.1, hlow.2.1, hlow.2.2.1, hlow.2.2.2.1, fun j y hj => ?_⟩, hL1.n0⟩
    · rcases he with rfl | rfl
      · exact hL1.nb hS
      · have := (hp.low _ hS).2; omega
    · rintro (e | e)
      · exact hL1.ne.2.2.1 e
      · omega
    all_goals
      by_cases hjq : j = q
      · subst hjq; rw [upd_same] at hj; cases hj
        first
          | (intro hh; have := (hp.low _ hh).2; simp only [Dr.put] at this; omega)
          | (simp only [Dr.put]; omega)
      · rw [upd_other _ _ hjq] at hj
        first
          | exact hL1.nd j y hj
          | exact hL1.ne.2.2.2 j y hj
          | exact hlow.2.2.2.2 j y hj
  have hpo := actPost_mk (G' := upd G q (splice (G q) at_ t.data.toList)) x1 hk (fun k e => e ▸ x1.own.2.2.2) hL4 hs1 (fun r y hr' => ?_) ⟨fun r y hr' => ?_, fun r y hr' => ?_, fun r hr' hn' => ?_⟩ (fun r hr' => ?_)
  · obtain ⟨S', hT4, x4⟩ := hpo
    exact ⟨S', hT1.trans hT4, x4⟩
  · by_cases hrq : r = q
    · subst hrq; rw [upd_same] at hr'; cases hr'; exact .inr hb1
    · rw [upd_other _ _ hrq] at hr'
      exact .inl ⟨.inl (h2 r y hr'), (hL1.act.dr.at_ r y hr').2.2.2.2.2.2⟩
  · by_cases hrq : r = q
    · subst hrq; rw [upd_same] at hr'; cases hr'; rfl
    · rw [upd_other _ _ hrq] at hr'; exact h3.1 r y hr'
  · by_cases hrq : r = q
    · subst hrq; exact .inr (h3.2.2 r hq hD)
    · rw [upd_other _ _ hrq] at hr'; exact h3.2.1 r y hr'
  · by_cases hrq : r = q
    · subst hrq; rw [upd_same] at hn'; cases hn'
    · rw [upd_other _ _ hrq] at hn'; exact h3.2.2 r hr' hn'
  · by_cases hrq : r = q
    · subst hrq
      rw [upd_same]; unfold pgD; rw [upd_same, hGq]; rfl
    · rw [upd_other _ _ hrq, h4 r hr']; unfold pgD; rw [upd_other _ _ hrq]
set_option maxHeartbeats 3200000 in
theorem write_at_v (x : ActV J B S c h G w) (q : Nat) (hq : h.has q) (at_ : Nat) (t : ByteArray) (h0 : 0 < t.size) (hfit : at_ + t.size ≤ 512) (hG : (G q).length = 512) :
    Calls Tryz.prog 13 #[.pointer (some ⟨c.a, 0, none⟩), .int .i64 q, .int .i64 at_, .string t] w fun e w' => e = .returned (.int .i64 0) ∧ ActPost J B S c h (upd G q (splice (G q) at_ t.data.toList)) w w' := by
  obtain ⟨m, D, S0, hL, h1, h2, h3, h4⟩ := x.live
  have htl : t.data.toList.length = t.size := rfl
  cases hD : D q with
  | some y =>
    refine (awrite_draft q at_ y t hL.act hD (by omega)).mono ?_
    rintro e w' ⟨rfl, hA, hk⟩
    have hyb : (y.put at_ t.data.toList).blk = y.blk := rfl
    have hL' : LiveSt J B S0 c.a c.s c.d c.l c.p c.db m c.n c.C c.N c.last h (upd D q (some (y.put at_ t.data.toList))) w' := by
      refine ⟨hA, hL.pool.kept hk (fun k _ hS he => hL.nd q y hD (he ▸ hS)), hL.lg.kept hk (fun e => hL.ne.2.2.2 q y hD e.symm), hL.ns, hL.na, hL.nl, hL.nb, fun j z hj => ?_, ⟨hL.ne.1, hL.ne.2.1, hL.ne.2.2.1, fun j z hj => ?_⟩, ⟨hL.low.1, hL.low.2.1, hL.low.2.2.1, hL.low.2.2.2.1, fun j z hj => ?_⟩, hL.n0⟩
      all_goals
        by_cases hjq : j = q
        · subst hjq; rw [upd_same] at hj; cases hj
          rw [hyb]
          first
            | exact hL.nd j y hD
            | exact hL.ne.2.2.2 j y hD
            | exact hL.low.2.2.2.2 j y hD
        · rw [upd_other _ _ hjq] at hj
          first
            | exact hL.nd j z hj
            | exact hL.ne.2.2.2 j z hj
            | exact hL.low.2.2.2.2 j z hj
    refine ⟨rfl, actPost_mk x hk (fun k e => e ▸ h2 q y hD) hL' h1 (fun r z hr => ?_) ⟨fun r z hr => ?_, fun r z hr => ?_, fun r hr hn' => ?_⟩ (fun r hr => ?_)⟩
    · by_cases hrq : r = q
      · subst hrq; rw [upd_same] at hr; cases hr; exact .inl (h2 r y hD)
      · rw [upd_other _ _ hrq] at hr; exact .inl (h2 r z hr)
    · by_cases hrq : r = q
      · subst hrq; rw [upd_same] at hr; cases hr; exact h3.1 r y hD
      · rw [upd_other _ _ hrq] at hr; exact h3.1 r z hr
    · by_cases hrq : r = q
      · subst hrq; rw [upd_same] at hr; cases hr; exact h3.2.1 r y hD
      · rw [upd_other _ _ hrq] at hr; exact h3.2.1 r z hr
    · by_cases hrq : r = q
      · subst hrq; rw [upd_same] at hn'; cases hn'
      · rw [upd_other _ _ hrq] at hn'; exact h3.2.2 r hr hn'
    · by_cases hrq : r = q
      · subst hrq
        have hGq : G r = y.now := by rw [h4 r hq]; unfold pgD; rw [hD]
        rw [upd_same]; unfold pgD; rw [upd_same, hGq]; rfl
      · rw [upd_other _ _ hrq, h4 r hr]; unfold pgD; rw [upd_other _ _ hrq]
  | none =>
    have hC : (c.C q).length = 512 := by
      have := h4 q hq
      unfold pgD at this
      rw [hD] at this
      have h' : G q = c.C q := this
      rw [← h']; exact hG
    have HCH := Lib.hid (new_chain_at x hL h1 h2 h3 h4 q hq hD hC at_ t hfit)
    have h1' := refusesPage_live q hL.act
    rw [if_pos (by rw [Int.toNat_natCast]; exact ⟨by have := hq.1; omega, hq⟩)] at h1'
    have HP := Lib.hid h1'
    have hq4 : q < 4096 := by have := hq.2.1; have := x.ok.cnt; omega
    have hlk := hL.act.dr.look_none hq4 hD
    have c83 := hL.act.ac.dr
    have c1 := hL.act.ac.st
    have hlt : ¬ ((512 : Int) - t.size < at_) := by omega
    have hs1 : (512 : Int) - t.size ≤ 512 := by omega
    have hs0 : (0 : Int) < t.size := by omega
    have hb1 : (at_ : Int) < 512 := by omega
    have hca : ¬ 512 = at_ := by omega
    have hsl : ∀ (W : World) (b : Nat), (Instr.sliceAt 101 (.pointer (some ⟨b, 513, none⟩)) (some (.int .i64 at_)) none none).run Tryz.prog W = .ok (.slice (some ⟨b, 513 + at_, none⟩) (512 - at_) (512 - at_)) W := fun W b => by
      have := run_sliceArr W ⟨b, 513, none⟩ at_ (by omega)
      rw [if_neg (by omega), add_lit'] at this
      exact this
    obtain ⟨cs, hcs⟩ : ∃ s : ByteArray, s = ⟨(c.C q).toArray⟩ := ⟨_, rfl⟩
    rw [← hcs] at HCH
    clear hL h1 h2 h3 h4 htl hD hC h1' hq4 hcs hq hG x h0 hfit
    go_enter Tryz.func13, Tryz.ntmps13
    go_wp2_with fail
    refine HP.out.mono ?_
    rintro e w' ⟨rfl, hw⟩
    subst w'
    go_wp2_with fail
    refine HCH.out.mono ?_
    rintro e w1 ⟨rfl, hn⟩
    have HN := Lib.hid hn
    clear hn HCH HP
    go_wp2_with fail
    refine HN.out.mono ?_
    rintro e w2 ⟨b, w3, rfl, d83, hmu, hcp, HE⟩
    have HMU := Lib.hid hmu
    clear hmu HN hlk c83 c1
    go_wp2_with (refine wpList_mapUpdate_run rfl _ _ _ 38 rfl _ _ _ (by rfl) (by rfl) (by rfl) HMU.out ?_)
    go_ret
    exact ⟨rfl, HE.out⟩
end
end Go.Proofs.YtijggofelepaaaaGreatDoor

/- Contracts: a page's mark; a mark that is set. -/
set_option maxRecDepth 100000
namespace Go.Proofs.YtijggofelepaaaaGreatDoor
open Go.RowKit

section
variable {J : List RawOp → Prop} {B : Nat} {S : Nat → Prop} {c : Ac} {h : Hd} {G : Nat → List UInt8} {w : World} {hb r : Nat}
theorem chQ_has {h : Hd} {G : Nat → List UInt8} {r k : Nat} (h0 : chQ h G r k ≠ 0) : h.has (chQ h G r k) := by
  unfold chQ at h0 ⊢
  split at h0
  · split at h0
    · rename_i h1 h2; simp only [if_pos h1, if_pos h2]; exact h1
    · split at h0
      · rename_i h1 h2 h3; simp only [if_pos h1, if_neg h2, if_pos h3]; exact h3
      · exact absurd rfl h0
  · exact absurd rfl h0
/-- The mark of a page, by its chart. -/
def mkQ (h : Hd) (G : Nat → List UInt8) (r q : Nat) : Nat := if 4096 ≤ q then 0 else if chQ h G r (q / 1008) = 0 then 0 else markB (G (chQ h G r (q / 1008))) (q % 1008)

set_option maxHeartbeats 1600000 in
theorem mark_any (x : ActV J B S c h G w) (ht : HeapAt w hb c.a r) (hS : ¬ S hb) (hr : r < 16) (q : Nat) (hL : ∀ q, h.has q → (G q).length = 512) :
    Calls Tryz.prog 110 #[.pointer (some ⟨hb, 0, none⟩), .int .i64 q] w fun e w' => e = .returned (.int .i64 (mkQ h G r q)) ∧ ActPost J B S c h G w w' := by
  unfold mkQ
  by_cases h4 : 4096 ≤ q
  · rw [if_pos h4]
    have h5 : (4096 : Int) ≤ q := by omega
    have HX := Lib.hid (ActPost.same x)
    clear x ht
    go_enter Tryz.func110, Tryz.ntmps110
    go_wp2
    go_ret
    exact ⟨rfl, HX.out⟩
  · rw [if_neg h4]
    have h5 : ¬ (4096 : Int) ≤ q := by omega
    obtain ⟨k, hk⟩ : ∃ k, k = q / 1008 := ⟨_, rfl⟩
    obtain ⟨m, hm⟩ : ∃ m, m = q % 1008 := ⟨_, rfl⟩
    have hk4 : k ≤ 4 := by omega
    have hm8 : m < 1008 := by omega
    have HC := Lib.hid (chart_any x ht hS hr k hk4 (hL _))
    have e1 : (q : Int).tdiv 1008 = (k : Int) := by rw [Int.tdiv_eq_ediv_of_nonneg (by omega)]; omega
    have e2 : (q : Int) / 1008 = (k : Int) := by omega
    have e3 : IntKind.i64.wrap (k : Int) = (k : Int) := IntWalk.i64_in _ (by omega)
    have e4 : wrap64 (k : Int) = (k : Int) := IntWalk.wrap64_in _ (by omega)
    have e5 : (q : Int).tmod 1008 = (m : Int) := by rw [Int.tmod_eq_emod_of_nonneg (by omega)]; omega
    have e6 : (q : Int) % 1008 = (m : Int) := by omega
    have e7 : wrap64 (m : Int) = (m : Int) := IntWalk.wrap64_in _ (by omega)
    have e8 : IntKind.i64.wrap (m : Int) = (m : Int) := IntWalk.i64_in _ (by omega)
    rw [← hk, ← hm]
    obtain ⟨p, hp⟩ : ∃ p, p = chQ h G r k := ⟨_, rfl⟩
    rw [← hp] at HC ⊢
    by_cases h0 : p = 0
    · rw [if_pos h0]
      subst h0
      unfold ChPost at HC
      rw [if_pos rfl] at HC
      clear x ht hL hp hk hm
      go_enter Tryz.func110, Tryz.ntmps110
      go_wp2_with fail
      refine HC.out.mono ?_
      rintro e w1 ⟨rfl, hA⟩
      have HA := Lib.hid hA
      clear hA
      go_wp2
      go_ret
      exact ⟨rfl, HA.out⟩
    · rw [if_neg h0]
      unfold ChPost at HC
      rw [if_neg h0] at HC
      have HM : Hid (∀ W, Calls Tryz.prog 155 #[.string ⟨(G p).toArray⟩, .int .i64 m] W fun e w' => e = .returned (.int .i64 (markB (G p) m)) ∧ w' = W) := Lib.hid fun W => markIn_any (G p) m W hm8 (hL _ (by rw [hp]; exact chQ_has (by rw [← hp]; exact h0)))
      obtain ⟨s, hs⟩ : ∃ s : ByteArray, s = ⟨(G p).toArray⟩ := ⟨_, rfl⟩
      obtain ⟨mk, hmk⟩ : ∃ mk, mk = markB (G p) m := ⟨_, rfl⟩
      rw [← hs] at HC HM
      rw [← hmk] at HM ⊢
      have hp0 : ¬ (p : Int) = 0 := by omega
      clear x ht hL hp hk hm h0 hs hmk
      go_enter Tryz.func110, Tryz.ntmps110
      go_wp2_with fail
      refine HC.out.mono ?_
      rintro e w1 ⟨rfl, hA⟩
      have HA := Lib.hid hA
      clear hA
      go_wp2_with fail
      refine (HM.out _).mono ?_
      rintro e w2 ⟨rfl, hw⟩
      subst w2
      go_wp2
      go_ret
      exact ⟨rfl, HA.out⟩

theorem HpOn.chart {L : Nat → List Pl} {ch : Nat → Nat} (x : HpOn h G (h.root r) L ch) {k : Nat} (hk : k ≤ 4) : chQ h G r k = ch k := by
  unfold chQ
  by_cases hn : h.has (h.root r)
  · have h0 : h.root r ≠ 0 := by have := hn.1; omega
    rw [if_pos hn]
    by_cases hk0 : k = 0
    · subst hk0; rw [if_pos rfl, x.root_]
    · rw [if_neg hk0, x.link h0 k (by omega) (by omega)]
      by_cases hc : h.has (ch k)
      · rw [if_pos hc]
      · rw [if_neg hc]
        by_cases hz : ch k = 0
        · exact hz.symm
        · exact absurd (x.chas k hz).2.1 hc
  · rw [if_neg hn]
    have h0 : h.root r = 0 := by
      by_cases hz : ch 0 = 0
      · rw [← x.root_]; exact hz
      · have := (x.chas 0 hz).2.1; rw [x.root_] at this; exact absurd this hn
    exact (x.none_ h0 k).symm
theorem HpOn.mkq {L : Nat → List Pl} {ch : Nat → Nat} (x : HpOn h G (h.root r) L ch) (q : Nat) : mkQ h G r q = mkP (L q) := by
  unfold mkQ
  by_cases h4 : 4096 ≤ q
  · rw [if_pos h4]
    by_cases hl : L q = []
    · rw [(mkP_zero _).2 hl]
    · have := (x.sheet q hl).2.1; exact absurd h4 (by omega)
  · rw [if_neg h4, x.chart (by omega)]
    exact x.mark_at (by omega)
end
end Go.Proofs.YtijggofelepaaaaGreatDoor

/- Contract: a mark that is set. -/
set_option maxRecDepth 100000
namespace Go.Proofs.YtijggofelepaaaaGreatDoor
open Go.RowKit

theorem wrap_small (n : Nat) (h : n < 100000) : IntKind.i64.wrap (n : Int) = (n : Int) := IntWalk.i64_in _ (by omega)
theorem wrap64_small (n : Nat) (h : n < 100000) : wrap64 (n : Int) = (n : Int) := IntWalk.wrap64_in _ (by omega)
theorem div1008 (q k j : Nat) (hk : k = q / 1008) (hj : j = q % 1008) : (q : Int).tdiv 1008 = (k : Int) ∧ (q : Int) / 1008 = (k : Int) ∧ (q : Int).tmod 1008 = (j : Int) ∧ (q : Int) % 1008 = (j : Int) :=
  ⟨by rw [Int.tdiv_eq_ediv_of_nonneg (by omega)]; omega, by omega, by rw [Int.tmod_eq_emod_of_nonneg (by omega)]; omega, by omega⟩
def chk0 : Bool := (List.range 256).all fun v => (List.range 16).all fun m => decide (bits BinOp.or IntKind.u8 (bits BinOp.andNot IntKind.u8 (v : Int) (IntKind.u8.wrap 15)) (IntKind.u8.wrap (IntKind.i64.wrap (m : Int))) = ((v / 16 * 16 + m : Nat) : Int))
theorem chk0_true : chk0 = true := by kernel_rfl
theorem nib_even (v m : Nat) (hv : v < 256) (hm : m < 16) : bits BinOp.or IntKind.u8 (bits BinOp.andNot IntKind.u8 (v : Int) (IntKind.u8.wrap 15)) (IntKind.u8.wrap (IntKind.i64.wrap (m : Int))) = ((v / 16 * 16 + m : Nat) : Int) := by
  have h := List.all_eq_true.1 chk0_true v (List.mem_range.2 hv)
  exact of_decide_eq_true (List.all_eq_true.1 h m (List.mem_range.2 hm))
def chk4 : Bool := (List.range 256).all fun v => (List.range 16).all fun m => decide (bits BinOp.or IntKind.u8 (bits BinOp.andNot IntKind.u8 (v : Int) (IntKind.u8.wrap 240)) (IntKind.u8.wrap (IntKind.i64.wrap ((m : Int) * 16))) = ((v % 16 + m * 16 : Nat) : Int))
theorem chk4_true : chk4 = true := by kernel_rfl
theorem nib_odd (v m : Nat) (hv : v < 256) (hm : m < 16) : bits BinOp.or IntKind.u8 (bits BinOp.andNot IntKind.u8 (v : Int) (IntKind.u8.wrap 240)) (IntKind.u8.wrap (IntKind.i64.wrap ((m : Int) * 16))) = ((v % 16 + m * 16 : Nat) : Int) := by
  have h := List.all_eq_true.1 chk4_true v (List.mem_range.2 hv)
  exact of_decide_eq_true (List.all_eq_true.1 h m (List.mem_range.2 hm))
section
variable {J : List RawOp → Prop} {B : Nat} {S : Nat → Prop} {c : Ac} {h : Hd} {G : Nat → List UInt8} {w : World} {hb r : Nat}
/-- What a call leaves that answers nothing. -/
def MutPost (J : List RawOp → Prop) (B : Nat) (S : Nat → Prop) (c : Ac) (h : Hd) (G : Nat → List UInt8) (w : World) (e : Ending) (w' : World) : Prop := e = .returned (.tuple #[]) ∧ ActPost J B S c h G w w'

set_option maxHeartbeats 3200000 in
theorem setMark_new (x : ActV J B S c h G w) (ht : HeapAt w hb c.a r) (hS : ¬ S hb) (hr : r < 16) (q m : Nat) (h4 : q < 4096) (hm : m < 16) (hL : ∀ q, h.has q → (G q).length = 512) (hp : chQ h G r (q / 1008) ≠ 0) (hne : markB (G (chQ h G r (q / 1008))) (q % 1008) ≠ m) :
    Calls Tryz.prog 151 #[.pointer (some ⟨hb, 0, none⟩), .int .i64 q, .int .i64 m] w (MutPost J B S c h (upd G (chQ h G r (q / 1008)) (setB (G (chQ h G r (q / 1008))) (q % 1008) m)) w) := by
  obtain ⟨k, hk⟩ : ∃ k, k = q / 1008 := ⟨_, rfl⟩
  obtain ⟨j, hj⟩ : ∃ m, m = q % 1008 := ⟨_, rfl⟩
  rw [← hk, ← hj] at hne ⊢
  rw [← hk] at hp
  have HNE := Lib.hid hne
  have HP := Lib.hid hp
  clear hne hp
  have hk4 : k ≤ 4 := by omega
  have hj8 : j < 1008 := by omega
  obtain ⟨e1, e2, e5, e6⟩ := div1008 q k j hk hj
  have hk1 : k < 100000 := Nat.lt_of_le_of_lt hk4 (by decide)
  have hj1 : j < 100000 := Nat.lt_trans hj8 (by decide)
  have e3 := wrap_small k hk1
  have e4 := wrap64_small k hk1
  have e7 := wrap64_small j hj1
  have e8 := wrap_small j hj1
  have hp := HP.out
  clear HP
  have hhp := chQ_has hp
  have HC : Hid (Calls Tryz.prog 114 #[.pointer (some ⟨hb, 0, none⟩), .int .i64 k] w fun e w' => e = .returned (.tuple #[.int .i64 (chQ h G r k), .string ⟨(G (chQ h G r k)).toArray⟩]) ∧ ActPost J B S c h G w w' ∧ HeapAt w' hb c.a r) := Lib.hid ((chart_any x ht hS hr k hk4 (hL _)).mono fun e w' ⟨he, S', hT, hA⟩ => ⟨by rw [he, if_neg hp], ⟨S', hT, hA⟩, ht.kept hT.1 hS⟩)
  have hlen := hL _ hhp
  obtain ⟨p, hpe⟩ : ∃ p, p = chQ h G r k := ⟨_, rfl⟩
  rw [← hpe] at HC HNE hp hhp hlen ⊢
  clear hpe
  have HM : Hid (∀ W, Calls Tryz.prog 155 #[.string ⟨(G p).toArray⟩, .int .i64 j] W fun e w' => e = .returned (.int .i64 (markB (G p) j)) ∧ w' = W) := Lib.hid fun W => markIn_any (G p) j W hj8 hlen
  have HS : Hid (∀ W, Calls Tryz.prog 188 #[.int .i64 j] W fun e w' => e = .returned (.tuple #[.int .i64 ((8 + j / 2 : Nat) : Int), .int .i64 ((j % 2 * 4 : Nat) : Int)]) ∧ w' = W) := Lib.hid fun W => spot_any j W hj8
  obtain ⟨s, hs⟩ : ∃ s : ByteArray, s = ⟨(G p).toArray⟩ := ⟨_, rfl⟩
  obtain ⟨mk, hmk⟩ : ∃ mk, mk = markB (G p) j := ⟨_, rfl⟩
  rw [← hmk] at HM HNE
  clear hmk
  have hsz : s.size = 512 := by rw [hs, ← hlen]; rfl
  have EE := Lib.hid (And.intro e1 (And.intro e2 (And.intro e3 (And.intro e4 (And.intro e5 (And.intro e6 (And.intro e7 e8)))))))
  clear e1 e2 e3 e4 e5 e6 e7 e8
  obtain ⟨i, hi⟩ : ∃ i, i = 8 + j / 2 := ⟨_, rfl⟩
  obtain ⟨b, hbit⟩ : ∃ b : Int, b = ((j % 2 * 4 : Nat) : Int) := ⟨_, rfl⟩
  rw [← hs] at HC HM
  rw [← hi, ← hbit] at HS
  have HW : Hid (∀ W0 W, ActPost J B S c h G w W0 → HeapAt W0 hb c.a r → Below W0.heap.size W0 W → ∀ t : ByteArray, t.size = 1 → Calls Tryz.prog 13 #[.pointer (some ⟨c.a, 0, none⟩), .int .i64 p, .int .i64 i, .string t] W fun e w' => e = .returned (.int .i64 0) ∧ ActPost J B S c h (upd G p (splice (G p) i t.data.toList)) w w' ∧ (w'.cell? ⟨hb, 1, none⟩ = some (.pointer (some ⟨c.a, 0, none⟩)) ∧ hb < w'.heap.size)) := Lib.hid fun W0 W ⟨S1, hT1, hA1⟩ ht0 hb1 t htz => (write_at_v (hA1.below hb1) p hhp i t (by omega) (by omega) hlen).mono fun e w' ⟨he, S', hT, hA⟩ => ⟨he, ⟨S', hT1.trans ((Turn.ofBelow hb1).trans hT), hA⟩, ((ht0.below hb1).kept hT.1 (fun hs1 => hS (hT1.2 hb ht.lt hs1))).c1, ((ht0.below hb1).kept hT.1 (fun hs1 => hS (hT1.2 hb ht.lt hs1))).lt⟩
  have HLEN := Lib.hid hlen
  clear hlen
  have hp0 : ¬ (p : Int) = 0 := by omega
  have hne := HNE.out
  have hne2 : ¬ (mk : Int) = (m : Int) := by omega
  have hp1 : ((p : Int) == 0) = false := beq_eq_false_iff_ne.2 hp0
  have hne3 : ((mk : Int) == (m : Int)) = false := beq_eq_false_iff_ne.2 hne2
  have hi5 : i < 512 := by omega
  obtain ⟨v, hv⟩ : ∃ v, v = (s[i]'(by omega)).toNat := ⟨_, rfl⟩
  have hv5 : v < 256 := by rw [hv]; exact UInt8.toNat_lt _
  have hr1 : ∀ W, (Instr.index 9 (.string s) (.int .i64 (i : Int))).run Tryz.prog W = .ok (.int .u8 (v : Int)) W := fun W => by
    rw [run_index_string W _ _ _ _ (by kernel_rfl), dif_pos ⟨by omega, by omega⟩, hv]; rfl
  have KEEP : Hid (∀ W1 W2 : World, (W1.cell? ⟨hb, 1, none⟩ = some (.pointer (some ⟨c.a, 0, none⟩)) ∧ hb < W1.heap.size) → Below W1.heap.size W1 W2 → (W2.cell? ⟨hb, 1, none⟩ = some (.pointer (some ⟨c.a, 0, none⟩)) ∧ hb < W2.heap.size)) := Lib.hid fun W1 W2 h hb2 =>
    ⟨(hb2.cell (p := ⟨hb, _, none⟩) h.2).trans h.1, Nat.lt_of_lt_of_le h.2 hb2.size⟩
  have HSET : Hid ((b = 0 → upd G p (splice (G p) i [UInt8.ofNat (v / 16 * 16 + m)]) = upd G p (setB (G p) j m)) ∧ (b = 4 → upd G p (splice (G p) i [UInt8.ofNat (v % 16 + m * 16)]) = upd G p (setB (G p) j m))) := Lib.hid (by
    have hvv : v = ((G p).getD (8 + j / 2) 0).toNat := by
      rw [hv, List.getD_eq_getElem?_getD, List.getElem?_eq_getElem (by rw [HLEN.out]; omega)]
      subst hs hi
      rfl
    constructor
    · intro hb0
      have h2 : j % 2 = 0 := by omega
      unfold setB nib
      rw [if_pos h2, ← hvv, hi]
    · intro hb4
      have h2 : ¬ j % 2 = 0 := by omega
      unfold setB nib
      rw [if_neg h2, ← hvv, hi])
  have hb04 : b = 0 ∨ b = 4 := by omega
  have HBIT := Lib.hid hbit
  clear hbit
  have CV : Hid (∀ x : Nat, x < 256 → ∀ (b : Nat) (W : World), W.cell? ⟨b, 0, none⟩ = some (.int .u8 (x : Int)) → (convert 94 9 (.slice (some ⟨b, 0, none⟩) 1 1)).run Tryz.prog W = .ok (.string ⟨#[UInt8.ofNat x]⟩) W) := Lib.hid fun x hx b W hc => by
    refine run_convert_bytes_back (P := Tryz.prog) _ 94 9 5 ⟨b, 0, none⟩ 1 [UInt8.ofNat x] (by kernel_rfl) (by kernel_rfl) (by kernel_rfl) ?_
    intro j hj
    have hj' : j < 1 := hj
    obtain rfl : j = 0 := by omega
    rw [show (⟨b, 0, none⟩ : Addr).add 0 = ⟨b, 0, none⟩ by rw [Addr.add_lit, Nat.zero_add], hc]
    simp
    omega
  obtain ⟨e1, e2, e3, e4, e5, e6, e7, e8⟩ := EE.out
  clear EE
  unfold MutPost
  clear x ht hS hk hj hp hs hi hv hL
  go_enter Tryz.func151, Tryz.ntmps151
  go_wp2_with fail
  refine HC.out.mono ?_
  rintro e w1 ⟨rfl, hA, hH⟩
  have HA := Lib.hid hA
  have d1 := hH.c1
  have dl := hH.lt
  have HH1 := Lib.hid hH
  clear hA hH
  go_wp2_with fail
  refine (HM.out _).mono ?_
  rintro e w2 ⟨rfl, hw⟩
  subst w2
  go_wp2_with fail
  refine (HS.out _).mono ?_
  rintro e w2 ⟨rfl, hw⟩
  subst w2
  go_wp2_with fail
  rcases hb04 with rfl | rfl
  · have hby := nib_even v m hv5 hm
    obtain ⟨x, hx⟩ : ∃ x, x = v / 16 * 16 + m := ⟨_, rfl⟩
    have HQ : Hid (upd G p (splice (G p) i [UInt8.ofNat x]) = upd G p (setB (G p) j m)) := Lib.hid (by rw [hx]; exact HSET.out.1 rfl)
    rw [← hx] at hby
    have hx5 : x < 256 := by omega
    have hcv : ∀ W : World, (convert 94 9 (.slice (some ⟨W.heap.size, 0, none⟩) 1 1)).run Tryz.prog (W.alloc (.cells #[.int .u8 (x : Int)] 5)) = .ok (.string ⟨#[UInt8.ofNat x]⟩) (W.alloc (.cells #[.int .u8 (x : Int)] 5)) := fun W => CV.out x hx5 _ _ (by rw [Lib.cell_of_heap (heap_alloc_new W _)]; rfl)
    have hcv2 : ∀ W : World, (convert 94 9 (.slice (some ⟨W.heap.size, 0, none⟩) 1 1)).run Tryz.prog (W.alloc (.cells #[.int .u8 (x : Int)] 5)).drew = .ok (.string ⟨#[UInt8.ofNat x]⟩) (W.alloc (.cells #[.int .u8 (x : Int)] 5)).drew := fun W => CV.out x hx5 _ _ (by show (W.alloc _).cell? _ = _; rw [Lib.cell_of_heap (heap_alloc_new W _)]; rfl)
    clear hx5 hx HSET
    go_region_with (first | (go_at_call 13; refine (HW.out w1 _ HA.out HH1.out ((Below.refl _ _).alloc (Nat.le_refl _) _).drew ⟨#[UInt8.ofNat x]⟩ rfl).mono ?_; rintro e w9 ⟨rfl, hA9, hs9⟩; rw [show ((⟨#[UInt8.ofNat x]⟩ : ByteArray).data.toList) = [UInt8.ofNat x] from rfl, HQ.out] at hA9))
    all_goals exact bodyPost_end (v := .tuple #[]) (by simp [results, Tryz.results151, go_sem]) rfl ⟨rfl, hA9⟩
  · have hby := nib_odd v m hv5 hm
    obtain ⟨x, hx⟩ : ∃ x, x = v % 16 + m * 16 := ⟨_, rfl⟩
    have HQ : Hid (upd G p (splice (G p) i [UInt8.ofNat x]) = upd G p (setB (G p) j m)) := Lib.hid (by rw [hx]; exact HSET.out.2 rfl)
    rw [← hx] at hby
    have hx5 : x < 256 := by omega
    have hcv : ∀ W : World, (convert 94 9 (.slice (some ⟨W.heap.size, 0, none⟩) 1 1)).run Tryz.prog (W.alloc (.cells #[.int .u8 (x : Int)] 5)) = .ok (.string ⟨#[UInt8.ofNat x]⟩) (W.alloc (.cells #[.int .u8 (x : Int)] 5)) := fun W => CV.out x hx5 _ _ (by rw [Lib.cell_of_heap (heap_alloc_new W _)]; rfl)
    have hcv2 : ∀ W : World, (convert 94 9 (.slice (some ⟨W.heap.size, 0, none⟩) 1 1)).run Tryz.prog (W.alloc (.cells #[.int .u8 (x : Int)] 5)).drew = .ok (.string ⟨#[UInt8.ofNat x]⟩) (W.alloc (.cells #[.int .u8 (x : Int)] 5)).drew := fun W => CV.out x hx5 _ _ (by show (W.alloc _).cell? _ = _; rw [Lib.cell_of_heap (heap_alloc_new W _)]; rfl)
    clear hx5 hx HSET
    go_region_with (first | (go_at_call 13; refine (HW.out w1 _ HA.out HH1.out ((Below.refl _ _).alloc (Nat.le_refl _) _).drew ⟨#[UInt8.ofNat x]⟩ rfl).mono ?_; rintro e w9 ⟨rfl, hA9, hs9⟩; rw [show ((⟨#[UInt8.ofNat x]⟩ : ByteArray).data.toList) = [UInt8.ofNat x] from rfl, HQ.out] at hA9))
    all_goals exact bodyPost_end (v := .tuple #[]) (by simp [results, Tryz.results151, go_sem]) rfl ⟨rfl, hA9⟩
end
end Go.Proofs.YtijggofelepaaaaGreatDoor

/- Contract: a mark is set, whatever it was. -/
set_option maxRecDepth 100000
namespace Go.Proofs.YtijggofelepaaaaGreatDoor
open Go.RowKit

theorem nib_id (x : UInt8) (at_ : Nat) : nib x at_ (x.toNat / (if at_ % 2 = 0 then 1 else 16) % 16) = x := by
  have hx := x.toNat_lt
  unfold nib
  apply UInt8.toNat_inj.1
  by_cases h : at_ % 2 = 0
  · rw [if_pos h, if_pos h, UInt8.toNat_ofNat']; omega
  · rw [if_neg h, if_neg h, UInt8.toNat_ofNat']; omega
theorem setB_id (b : List UInt8) (hb : b.length = 512) (at_ : Nat) (h : at_ < 1008) : setB b at_ (markB b at_) = b := by
  have hl := setB_len b at_ (markB b at_) hb h
  apply List.ext_getElem?
  intro i
  rcases Nat.lt_or_ge i 512 with hi | hi
  · have e : (setB b at_ (markB b at_)).getD i 0 = b.getD i 0 := by
      unfold setB markB
      rw [nib_id, getD_splice1 _ _ _ (by omega)]
      by_cases he : i = 8 + at_ / 2
      · rw [if_pos he, he]
      · rw [if_neg he]
    rw [List.getD_eq_getElem?_getD, List.getD_eq_getElem?_getD, List.getElem?_eq_getElem (by omega), List.getElem?_eq_getElem (by omega)] at e
    rw [List.getElem?_eq_getElem (by omega), List.getElem?_eq_getElem (by omega)]
    exact congrArg some e
  · rw [List.getElem?_eq_none (by omega), List.getElem?_eq_none (by omega)]

section
variable {J : List RawOp → Prop} {B : Nat} {S : Nat → Prop} {c : Ac} {h : Hd} {G : Nat → List UInt8} {w : World} {hb r : Nat}
set_option maxHeartbeats 1600000 in
theorem setMark_same (x : ActV J B S c h G w) (ht : HeapAt w hb c.a r) (hS : ¬ S hb) (hr : r < 16) (q m : Nat) (h4 : q < 4096) (hL : ∀ q, h.has q → (G q).length = 512) (hmk : chQ h G r (q / 1008) = 0 ∨ markB (G (chQ h G r (q / 1008))) (q % 1008) = m) :
    Calls Tryz.prog 151 #[.pointer (some ⟨hb, 0, none⟩), .int .i64 q, .int .i64 m] w (MutPost J B S c h G w) := by
  have HMK := Lib.hid hmk
  clear hmk
  obtain ⟨k, hk⟩ : ∃ k, k = q / 1008 := ⟨_, rfl⟩
  obtain ⟨j, hj⟩ : ∃ m, m = q % 1008 := ⟨_, rfl⟩
  rw [← hk, ← hj] at HMK
  have hk4 : k ≤ 4 := by omega
  have hj8 : j < 1008 := by omega
  have HC := Lib.hid (chart_any x ht hS hr k hk4 (hL _))
  obtain ⟨e1, e2, e5, e6⟩ := div1008 q k j hk hj
  have hk1 : k < 100000 := Nat.lt_of_le_of_lt hk4 (by decide)
  have hj1 : j < 100000 := Nat.lt_trans hj8 (by decide)
  have e3 := wrap_small k hk1
  have e4 := wrap64_small k hk1
  have e7 := wrap64_small j hj1
  have e8 := wrap_small j hj1
  by_cases h0 : chQ h G r k = 0
  · unfold ChPost at HC
    rw [h0] at HC
    rw [if_pos rfl] at HC
    unfold MutPost
    clear x ht hS hk hj HMK h0 hL
    go_enter Tryz.func151, Tryz.ntmps151
    go_wp2_with fail
    refine HC.out.mono ?_
    rintro e w1 ⟨rfl, hA⟩
    have HA := Lib.hid hA
    clear hA
    go_wp2
    exact bodyPost_ret (v := .tuple #[]) (by simp [results, Tryz.results151, go_sem]) rfl ⟨rfl, HA.out⟩
  · have hm : markB (G (chQ h G r k)) j = m := HMK.out.resolve_left h0
    have hhp := chQ_has h0
    have HM : Hid (∀ W, Calls Tryz.prog 155 #[.string ⟨(G (chQ h G r k)).toArray⟩, .int .i64 j] W fun e w' => e = .returned (.int .i64 (m : Int)) ∧ w' = W) := Lib.hid fun W => by
      have := markIn_any (G (chQ h G r k)) j W hj8 (hL _ hhp)
      rw [hm] at this; exact this
    unfold ChPost at HC
    rw [if_neg h0] at HC
    obtain ⟨s, hs⟩ : ∃ s : ByteArray, s = ⟨(G (chQ h G r k)).toArray⟩ := ⟨_, rfl⟩
    rw [← hs] at HC HM
    obtain ⟨p, hp⟩ : ∃ p, p = chQ h G r k := ⟨_, rfl⟩
    rw [← hp] at HC h0
    clear hp hm hhp hs HMK
    have hp0 : ¬ (p : Int) = 0 := fun e => h0 (Int.ofNat.inj e)
    have hp1 : ((p : Int) == 0) = false := beq_eq_false_iff_ne.2 hp0
    unfold MutPost
    clear x ht hS hk hj hL h0
    go_enter Tryz.func151, Tryz.ntmps151
    go_wp2_with fail
    refine HC.out.mono ?_
    rintro e w1 ⟨rfl, hA⟩
    have HA := Lib.hid hA
    clear hA
    go_wp2_with fail
    refine (HM.out _).mono ?_
    rintro e w2 ⟨rfl, hw⟩
    subst w2
    go_wp2
    exact bodyPost_ret (v := .tuple #[]) (by simp [results, Tryz.results151, go_sem]) rfl ⟨rfl, HA.out⟩

/-- A mark is set, where the page has a chart. -/
theorem setMark_any (x : ActV J B S c h G w) (ht : HeapAt w hb c.a r) (hS : ¬ S hb) (hr : r < 16) (q m : Nat) (h4 : q < 4096) (hm : m < 16) (hL : ∀ q, h.has q → (G q).length = 512) :
    Calls Tryz.prog 151 #[.pointer (some ⟨hb, 0, none⟩), .int .i64 q, .int .i64 m] w (MutPost J B S c h (if chQ h G r (q / 1008) = 0 then G else upd G (chQ h G r (q / 1008)) (setB (G (chQ h G r (q / 1008))) (q % 1008) m)) w) := by
  by_cases h0 : chQ h G r (q / 1008) = 0
  · rw [if_pos h0]; exact setMark_same x ht hS hr q m h4 hL (.inl h0)
  · rw [if_neg h0]
    by_cases he : markB (G (chQ h G r (q / 1008))) (q % 1008) = m
    · refine (setMark_same x ht hS hr q m h4 hL (.inr he)).mono ?_
      rintro e w' ⟨h1, S', hT, hA⟩
      refine ⟨h1, S', hT, hA.congr fun j hj => ?_⟩
      by_cases hjp : j = chQ h G r (q / 1008)
      · rw [hjp, upd_same, ← he, setB_id _ (hL _ (chQ_has h0)) _ (Nat.mod_lt _ (by decide))]
      · rw [upd_other _ _ hjp]
    · exact setMark_new x ht hS hr q m h4 hm hL h0 he
end
end Go.Proofs.YtijggofelepaaaaGreatDoor

/- A heap's rows in plain words, as the document's list has them. -/
set_option maxRecDepth 100000
namespace Go.Proofs.YtijggofelepaaaaGreatDoor
open Go.RowKit

/-- A row of the document's list. -/
structure Rw where
  tid : Nat
  row : List UInt8
  lives : Bool
/-- What stands at an address. -/
def plAt (L : Nat → List Pl) (t : Nat) : Pl := ((L (t / 64))[t % 64]?).getD Pl.no
/-- The list of all rows, by their addresses. -/
structure RowsOf (L : Nat → List Pl) (l : List Rw) : Prop where
  srt : l.Pairwise (fun a b => a.tid < b.tid)
  is : ∀ r : Rw, r ∈ l ↔ r.row ≠ [] ∧ plAt L r.tid = ⟨r.row, !r.lives⟩
/-- The document's With and Without. -/
def withR : List Rw → Rw → List Rw
  | [], r => [r]
  | a :: l, r => if r.tid < a.tid then r :: a :: l else a :: withR l r
def withoutR (l : List Rw) (t : Nat) : List Rw := l.filter fun r => decide (r.tid ≠ t)
theorem withR_mem (r x : Rw) : ∀ l : List Rw, x ∈ withR l r ↔ x = r ∨ x ∈ l
  | [] => by simp [withR]
  | a :: l => by
    unfold withR
    split
    · simp
    · rw [List.mem_cons, withR_mem r x l, List.mem_cons]
      constructor
      · rintro (h | h | h); exact .inr (.inl h); exact .inl h; exact .inr (.inr h)
      · rintro (h | h | h); exact .inr (.inl h); exact .inl h; exact .inr (.inr h)
theorem withR_srt (r : Rw) : ∀ l : List Rw, l.Pairwise (fun a b => a.tid < b.tid) → (∀ x ∈ l, x.tid ≠ r.tid) → (withR l r).Pairwise (fun a b => a.tid < b.tid)
  | [], _, _ => by simp [withR]
  | a :: l, h, hn => by
    obtain ⟨h1, h2⟩ := List.pairwise_cons.1 h
    unfold withR
    split
    · rename_i hlt
      refine List.pairwise_cons.2 ⟨fun x hx => ?_, h⟩
      rcases List.mem_cons.1 hx with rfl | hx
      · exact hlt
      · have := h1 x hx; omega
    · rename_i hge
      have hne := hn a (by simp)
      refine List.pairwise_cons.2 ⟨fun x hx => ?_, withR_srt r l h2 (fun x hx => hn x (by simp [hx]))⟩
      rcases (withR_mem r x l).1 hx with rfl | hx
      · omega
      · exact h1 x hx
theorem withR_len (r : Rw) : ∀ l : List Rw, (withR l r).length = l.length + 1
  | [] => rfl
  | a :: l => by
    unfold withR
    split
    · rfl
    · rw [List.length_cons, withR_len r l, List.length_cons]
theorem withoutR_mem (l : List Rw) (t : Nat) (x : Rw) : x ∈ withoutR l t ↔ x ∈ l ∧ x.tid ≠ t := by unfold withoutR; rw [List.mem_filter]; simp
theorem withoutR_len (l : List Rw) (t : Nat) : (withoutR l t).length ≤ l.length := List.length_filter_le _ _

section
variable {L L' : Nat → List Pl} {l : List Rw} {t : Nat} {p : Pl}
theorem RowsOf.nil_ : RowsOf (fun _ => []) [] := ⟨List.Pairwise.nil, fun r => by
  refine ⟨(fun h => by cases h), (fun ⟨h1, h2⟩ => ?_)⟩
  have : r.row = [] := by
    have := congrArg Pl.row h2
    exact this.symm
  exact absurd this h1⟩
/-- The place at one address turns: it has a row now. -/
theorem RowsOf.turn (x : RowsOf L l) (h : ∀ s, plAt L' s = if s = t then p else plAt L s) (hp : p.row ≠ []) : RowsOf L' (withR (withoutR l t) ⟨t, p.row, !p.dead⟩) := by
  refine ⟨withR_srt _ _ (x.srt.filter _) (fun y hy => ((withoutR_mem l t y).1 hy).2), fun r => ?_⟩
  rw [withR_mem, withoutR_mem, x.is, h]
  by_cases ht : r.tid = t
  · rw [if_pos ht]
    constructor
    · rintro (rfl | ⟨_, h2⟩)
      · exact ⟨hp, by simp⟩
      · exact absurd ht h2
    · rintro ⟨h1, h2⟩
      left
      obtain ⟨a, b, c⟩ := r
      simp only at ht h2
      subst ht
      rw [h2]; simp
  · rw [if_neg ht]
    constructor
    · rintro (rfl | ⟨h1, _⟩)
      · exact absurd rfl ht
      · exact h1
    · intro h1; exact .inr ⟨h1, ht⟩
/-- It has none any more. -/
theorem RowsOf.gone (x : RowsOf L l) (h : ∀ s, plAt L' s = if s = t then Pl.no else plAt L s) : RowsOf L' (withoutR l t) := by
  refine ⟨x.srt.filter _, fun r => ?_⟩
  rw [withoutR_mem, x.is, h]
  by_cases ht : r.tid = t
  · rw [if_pos ht]
    refine ⟨fun h => absurd ht h.2, fun ⟨h1, h2⟩ => ?_⟩
    exact absurd (congrArg Pl.row h2).symm h1
  · rw [if_neg ht]
    exact ⟨fun h => h.1, fun h => ⟨h, ht⟩⟩
theorem RowsOf.without (x : RowsOf L l) (h : plAt L t = Pl.no) : withoutR l t = l := by
  refine List.filter_eq_self.2 fun r hr => decide_eq_true fun e => ?_
  obtain ⟨h1, h2⟩ := (x.is r).1 hr
  rw [e, h] at h2
  exact h1 (congrArg Pl.row h2).symm
/-- A place of a sheet is set. -/
theorem plAt_set {q k : Nat} {s0 : List Pl} (hl : s0.length = 64) (hk : k < 64) (h0 : ∀ j, j < 64 → (s0[j]?).getD Pl.no = plAt L (q * 64 + j)) (s : Nat) :
    plAt (upd L q (s0.set k p)) s = if s = q * 64 + k then p else plAt L s := by
  unfold plAt
  by_cases hq : s / 64 = q
  · rw [hq, upd_same]
    by_cases hs : s = q * 64 + k
    · rw [if_pos hs, show s % 64 = k by omega, List.getElem?_set_self (by omega)]; rfl
    · rw [if_neg hs, List.getElem?_set_ne (by omega)]
      have := h0 (s % 64) (by omega)
      rw [this]
      unfold plAt
      rw [show (q * 64 + s % 64) / 64 = q by omega, show (q * 64 + s % 64) % 64 = s % 64 by omega]
  · rw [upd_other _ _ hq, if_neg (by omega)]
/-- A sheet that holds no row goes. -/
theorem cnt_none : ∀ (s0 : List Pl), cntP s0 = 0 → ∀ p ∈ s0, p.row = []
  | [], _, p, hp => by cases hp
  | a :: r, h, p, hp => by
    unfold cntP Pl.cnt at h
    by_cases ha : a.row = []
    · rcases List.mem_cons.1 hp with rfl | hp
      · exact ha
      · exact cnt_none r (by omega) p hp
    · rw [if_neg ha] at h; omega
theorem plAt_gone {q : Nat} {s0 : List Pl} (h : cntP s0 = 0) (hn : ∀ p ∈ s0, p.row = [] → p.dead = false) (s : Nat) : plAt (upd L q []) s = plAt (upd L q s0) s := by
  unfold plAt
  by_cases hq : s / 64 = q
  · rw [hq, upd_same, upd_same]
    cases hg : s0[s % 64]? with
    | none => rfl
    | some p =>
      have hm := List.mem_of_getElem? hg
      have h1 := cnt_none s0 h p hm
      have h2 := hn p hm h1
      obtain ⟨a, b⟩ := p
      simp only at h1 h2
      subst h1 h2; rfl
  · rw [upd_other _ _ hq, upd_other _ _ hq]
end
end Go.Proofs.YtijggofelepaaaaGreatDoor

/- A heap that stands alone on an action's pages, in plain words: how it turns. -/
set_option maxRecDepth 100000
namespace Go.Proofs.YtijggofelepaaaaGreatDoor
open Go.RowKit

/-- The one chart. -/
def ch0 (top k : Nat) : Nat := if k = 0 then top else 0
theorem ch0_zero (top : Nat) : ch0 top 0 = top := rfl
/-- A heap alone: m: how many pages were taken at most; e: a page that is taken and holds no sheet yet (0: none). -/
structure HpS (h : Hd) (G : Nat → List UInt8) (top : Nat) (L : Nat → List Pl) (m e : Nat) : Prop where
  on : HpOn h G top L (ch0 top)
  len : ∀ q, h.has q → (G q).length = 512
  own : ∀ q, h.has q → L q ≠ [] ∨ q = top ∨ q = e
  cnt : h.count ≤ m + (if top = 0 then 0 else 1)
  few : m ≤ 1000

section
variable {h h' : Hd} {G : Nat → List UInt8} {top m e q p r : Nat} {L : Nat → List Pl} {l : List Pl}
theorem HpS.le (x : HpS h G top L m e) (hq : h.has q) : q ≤ 1001 := by
  have := x.cnt
  have := x.few
  have := hq.2.1
  split at * <;> omega
theorem HpS.top_ne (x : HpS h G top L m e) (hq : L q ≠ []) : top ≠ 0 := fun ht => by
  subst ht
  exact hq (x.on.bare q)
theorem HpS.root (x : HpS h G top L m e) (ht : top ≠ 0) : h.has top := (x.on.chas 0 (by rw [ch0_zero]; exact ht)).2.1
theorem HpS.div (x : HpS h G top L m e) (hq : h.has q) : q / 1008 = 0 ∧ q % 1008 = q := by have := x.le hq; omega
theorem next_count (hn : h.NextIs q h') : h'.count ≤ h.count + 1 := by
  rcases hn with ⟨h1, _, rfl⟩ | ⟨h1, h2, rfl, rfl⟩
  · exact Nat.le_succ _
  · exact Nat.le_refl _
theorem HpS.spare (x : HpS h G top L m e) : ¬ ((∀ j, h.isFree j = false) ∧ h.count = 4095) := fun ⟨_, hc⟩ => by
  have := x.cnt
  have := x.few
  split at * <;> omega
/-- A page is taken. -/
theorem HpS.take (x : HpS h G top L m 0) (k : h.Ok) (hn : h.NextIs q h') (hm : m + 1 ≤ 1000) : HpS h' (upd G q noughts) top L (m + 1) q := by
  obtain ⟨s1, s2, s3, s4, s5, s6⟩ := hn.spec k
  refine ⟨x.on.alloc _ (fun j hj => (s5 j).2 (.inl hj)) s4, fun j hj => ?_, fun j hj => ?_, ?_, hm⟩
  · by_cases hjq : j = q
    · rw [hjq, upd_same]; exact noughts_length
    · rw [upd_other _ _ hjq]; exact x.len j (((s5 j).1 hj).resolve_right hjq)
  · rcases (s5 j).1 hj with hj | rfl
    · rcases x.own j hj with h1 | h1 | h1
      · exact .inl h1
      · exact .inr (.inl h1)
      · subst h1; exact absurd hj.1 (by omega)
    · exact .inr (.inr rfl)
  · have := x.cnt
    have := next_count hn
    omega
/-- The chart is laid. -/
theorem HpS.first (x : HpS h G 0 L m e) (k : h.Ok) (hn : h.NextIs p h') (r : Nat) : HpS (h'.setRoot r p) (upd G p noughts) p L m e := by
  obtain ⟨s1, s2, s3, s4, s5, s6⟩ := hn.spec k
  have has : ∀ j, (h'.setRoot r p).has j ↔ h.has j ∨ j = p := s5
  have hp0 : p ≠ 0 := by omega
  refine ⟨x.on.first ((has p).2 (.inr rfl)) hp0, fun j hj => ?_, fun j hj => ?_, ?_, x.few⟩
  · by_cases hjq : j = p
    · rw [hjq, upd_same]; exact noughts_length
    · rw [upd_other _ _ hjq]; exact x.len j (((has j).1 hj).resolve_right hjq)
  · rcases (has j).1 hj with hj | rfl
    · rcases x.own j hj with h1 | h1 | h1
      · exact .inl h1
      · subst h1; exact absurd hj.1 (by omega)
      · exact .inr (.inr h1)
    · exact .inr (.inl rfl)
  · have h1 := x.cnt
    rw [if_pos rfl] at h1
    have h2 := next_count hn
    have h3 : (h'.setRoot r p).count = h'.count := rfl
    rw [if_neg hp0, h3]
    omega
/-- A sheet is written, its mark set. -/
theorem HpS.put (x : HpS h G top L m e) (ht : top ≠ 0) (he : q = e ∨ e = 0) (hq : h.has q) (hqt : q ≠ top) (hl : ShOk l) (hn : 0 < cntP l) :
    HpS h (upd (upd G q (shP l)) top (setB (G top) q (mkP l))) top (upd L q l) m 0 := by
  obtain ⟨d1, d2⟩ := x.div hq
  have h4 := x.le hq
  have hk : ∀ k, ch0 top k ≠ q := fun k => by
    unfold ch0
    split
    · exact fun e => hqt e.symm
    · have := hq.1; omega
  have hp := x.on.put hq (by omega) (by rw [d1, ch0_zero]; exact ht) hk hl hn
  rw [d1, d2, ch0_zero] at hp
  have htl := x.len top (x.root ht)
  refine ⟨hp, fun j hj => ?_, fun j hj => ?_, x.cnt, x.few⟩
  · by_cases hjt : j = top
    · subst hjt; rw [upd_same]; exact setB_len _ _ _ htl (by omega)
    · rw [upd_other _ _ hjt]
      by_cases hjq : j = q
      · subst hjq; rw [upd_same]; exact shP_len hl.fit
      · rw [upd_other _ _ hjq]; exact x.len j hj
  · by_cases hjq : j = q
    · subst hjq; rw [upd_same]
      exact .inl (fun e => by rw [e] at hn; exact absurd hn (Nat.lt_irrefl 0))
    · rw [upd_other _ _ hjq]
      rcases x.own j hj with h1 | h1 | h1
      · exact .inl h1
      · exact .inr (.inl h1)
      · rcases he with he | he
        · exact absurd (h1.trans he.symm) hjq
        · rw [h1, he] at hj; exact absurd hj.1 (by omega)
/-- A page that holds no row any more is let go. -/
theorem HpS.gone (x : HpS h G top L m 0) (k : h.Ok) (hl : L q ≠ []) : HpS (h.turn q) (upd G top (setB (G top) q 0)) top (upd L q []) m 0 := by
  obtain ⟨hq, h4, hc, hG, hok, hcn, hk⟩ := x.on.sheet q hl
  obtain ⟨d1, d2⟩ := x.div hq
  have ht := x.top_ne hl
  have hqt : q ≠ top := fun e => hk 0 e.symm
  have htl := x.len top (x.root ht)
  have hle := x.le hq
  have hp := x.on.gone (h' := h.turn q) (q := q) (fun j hj hjq => (has_turn k hq j).2 ⟨hj, hjq⟩) hc hk
  rw [d1, d2, ch0_zero] at hp
  refine ⟨hp, fun j hj => ?_, fun j hj => ?_, x.cnt, x.few⟩
  · by_cases hjt : j = top
    · subst hjt; rw [upd_same]; exact setB_len _ _ _ htl (by omega)
    · rw [upd_other _ _ hjt]; exact x.len j ((has_turn k hq j).1 hj).1
  · obtain ⟨h1, h2⟩ := (has_turn k hq j).1 hj
    rw [upd_other _ _ h2]
    exact x.own j h1
/-- A heap of no root, on an action that has taken no page. -/
theorem HpS.empty (h : Hd) (G : Nat → List UInt8) (hn : h.count = 0) : HpS h G 0 (fun _ => []) 0 0 :=
  ⟨by
    have : (ch0 0) = (fun _ => 0) := by funext k; unfold ch0; split <;> rfl
    rw [this]; exact HpOn.empty h G, fun q hq => absurd (Nat.le_trans hq.1 hq.2.1) (by omega), fun q hq => absurd (Nat.le_trans hq.1 hq.2.1) (by omega), by rw [hn]; exact Nat.zero_le _, by omega⟩
theorem HpS.more (x : HpS h G top L m e) {m' : Nat} (hm : m ≤ m') (h1 : m' ≤ 1000) : HpS h G top L m' e := ⟨x.on, x.len, x.own, Nat.le_trans x.cnt (by omega), h1⟩

/-! ### The pages with at least a mark -/
/-- The mark of a page, whatever its number. -/
def mk0 (h : Hd) (G : Nat → List UInt8) (r q : Nat) : Nat := if chQ h G r (q / 1008) = 0 then 0 else markB (G (chQ h G r (q / 1008))) (q % 1008)
/-- Those of the first n pages with at least the mark a. -/
def upQ (h : Hd) (G : Nat → List UInt8) (r a n : Nat) : List Nat := (List.range n).filter fun q => decide (a ≤ mk0 h G r q)
theorem upQ_succ (h : Hd) (G : Nat → List UInt8) (r a n : Nat) : upQ h G r a (n + 1) = upQ h G r a n ++ (if a ≤ mk0 h G r n then [n] else []) := by
  unfold upQ
  rw [List.range_succ, List.filter_append]
  congr 1
  by_cases hh : a ≤ mk0 h G r n
  · simp [hh]
  · simp [hh]
theorem upQ_skip (h : Hd) (G : Nat → List UInt8) (r a k : Nat) (ha : 0 < a) (h0 : chQ h G r k = 0) : ∀ j, j ≤ 1008 → upQ h G r a (k * 1008 + j) = upQ h G r a (k * 1008)
  | 0, _ => rfl
  | j + 1, hj => by
    rw [show k * 1008 + (j + 1) = (k * 1008 + j) + 1 by omega, upQ_succ, upQ_skip h G r a k ha h0 j (by omega), if_neg, List.append_nil]
    unfold mk0
    rw [show (k * 1008 + j) / 1008 = k by omega, if_pos h0]
    omega
theorem upQ_le (h : Hd) (G : Nat → List UInt8) (r a : Nat) {n n' : Nat} (hn : n ≤ n') : upQ h G r a n <+: upQ h G r a n' := by
  induction n' with
  | zero => obtain rfl : n = 0 := by omega
            exact List.prefix_rfl
  | succ j ih =>
    by_cases hj : n = j + 1
    · subst hj; exact List.prefix_rfl
    · rw [upQ_succ]
      exact (ih (by omega)).trans (List.prefix_append _ _)
/-- The pages with a sheet of at least a mark, of a heap that stands. -/
def pgs (L : Nat → List Pl) (a n : Nat) : List Nat := (List.range n).filter fun q => decide (a ≤ mkP (L q))
theorem HpOn.upq {ch : Nat → Nat} (x : HpOn h G (h.root r) L ch) (a : Nat) : upQ h G r a 5040 = pgs L a 5040 := by
  unfold upQ pgs
  refine List.filter_congr fun q hq => ?_
  have hq5 : q < 5040 := List.mem_range.1 hq
  have : mk0 h G r q = mkP (L q) := by
    unfold mk0
    rw [x.chart (by omega)]
    by_cases h0 : ch (q / 1008) = 0
    · rw [if_pos h0]
      by_cases hl : L q = []
      · rw [(mkP_zero _).2 hl]
      · exact absurd h0 (x.sheet q hl).2.2.1
    · rw [if_neg h0]; exact x.mark q hq5 h0
  rw [this]
theorem pgs_mem {a n : Nat} (ha : 0 < a) (hq : q ∈ pgs L a n) : L q ≠ [] ∧ q < n ∧ a ≤ mkP (L q) := by
  obtain ⟨h1, h2⟩ := List.mem_filter.1 hq
  have h3 : a ≤ mkP (L q) := of_decide_eq_true h2
  refine ⟨fun e => ?_, List.mem_range.1 h1, h3⟩
  rw [e, (mkP_zero []).2 rfl] at h3
  omega
end
end Go.Proofs.YtijggofelepaaaaGreatDoor

/- Contract: the pages with at least a mark, handed over one by one. -/
set_option maxRecDepth 100000
namespace Go.Proofs.YtijggofelepaaaaGreatDoor
open Go Go.RowKit Go.Shelf
attribute [local go_sem] Oper.semAt_some

set_option maxHeartbeats 400000 in
theorem marked_any (hb a : Nat) (w : World) : Calls Tryz.prog 113 #[.pointer (some ⟨hb, 0, none⟩), .int .i64 a] w fun e w' => e = .returned (.func (.func 158) #[] #[.pointer (some ⟨w.heap.size, 0, none⟩), .pointer (some ⟨w.heap.size + 1, 0, none⟩)]) ∧
    w' = (w.alloc (.cells #[.pointer (some ⟨hb, 0, none⟩)] 70)).alloc (.cells #[.int .i64 a] 3) := by
  go_enter Tryz.func113, Tryz.ntmps113
  go_wp2
  go_ret
  exact ⟨rfl, rfl⟩

/-- What a round leaves: beside the action's own memory just the blocks of C are written. -/
def TurnC (C S : Nat → Prop) (w : World) (S' : Nat → Prop) (w' : World) : Prop := Kept (fun k => S k ∨ C k) w w' ∧ ∀ k, k < w.heap.size → S' k → S k
theorem Turn.toC {S S' : Nat → Prop} {w w' : World} (h : Turn S w S' w') (C : Nat → Prop) : TurnC C S w S' w' := ⟨h.1.mono (fun _ h => .inl h), h.2⟩
theorem TurnC.trans {C S S' S'' : Nat → Prop} {w w' w'' : World} (h : TurnC C S w S' w') (k : TurnC C S' w' S'' w'') : TurnC C S w S'' w'' :=
  ⟨h.1.trans k.1 (fun i hi => by
    by_cases hl : i < w.heap.size
    · exact .inl (hi.imp (fun h1 => h.2 i hl h1) id)
    · exact .inr (by omega)), fun i hl hs => h.2 i hl (k.2 i (Nat.lt_of_lt_of_le hl h.1.size) hs)⟩
/-- What an iterator is told by one call of yield. -/
def YPost {α : Type} (J : List RawOp → Prop) (B : Nat) (c : Ac) (h : Hd) (G : Nat → List UInt8) (C : Nat → Prop) (Js Jx : (Nat → Prop) → List α → World → Prop) (S : Nat → Prop) (s : List α) (w : World) (e : Ending) (w' : World) : Prop :=
  ∃ bb S', e = .returned (.bool bb) ∧ TurnC C S w S' w' ∧ (bb = true → ActV J B S' c h G w' ∧ Js S' s w') ∧ (bb = false → Jx S' s w')
/-- How an iterator over an action ends: all were handed over, or it was left. -/
def SeqEnd {α : Type} (J : List RawOp → Prop) (B : Nat) (c : Ac) (h : Hd) (G : Nat → List UInt8) (Js Jx : (Nat → Prop) → List α → World → Prop) (all : List α) (e : Ending) (w' : World) : Prop :=
  (∃ v, e = .returned v) ∧ ((∃ S', ActV J B S' c h G w' ∧ Js S' all w') ∨ ∃ S' pre, pre <+: all ∧ Jx S' pre w')

set_option maxHeartbeats 3200000 in
theorem marked1_in {J : List RawOp → Prop} {B : Nat} {c : Ac} {h : Hd} {G : Nat → List UInt8} {hb r a hx lx l n : Nat} (hn : 1 ≤ n) (hn2 : 1 ≤ n - 1) (hr : r < 16) (ha : 0 < a) (hL : ∀ q, h.has q → (G q).length = 512)
    (C : Nat → Prop) (Js Jx : (Nat → Prop) → List Nat → World → Prop)
    (hI : ∀ S s W, Js S s W → HeapAt W hb c.a r ∧ ¬ S hb ∧ W.cell? ⟨hx, 0, none⟩ = some (.pointer (some ⟨hb, 0, none⟩)) ∧ W.cell? ⟨lx, 0, none⟩ = some (.int .i64 a))
    (hJ : ∀ S A S' B' s, ActV J B S c h G A → Js S s A → Turn S A S' B' → ActV J B S' c h G B' → Js S' s B')
    (hY : ∀ S pre (q : Nat) W1, ActV J B S c h G W1 → Js S pre W1 → q < 5040 → pre ++ [q] <+: upQ h G r a 5040 → YieldAt Fence.wide (n - 1) Tryz.prog l #[.int .i64 q] W1 (YPost J B c h G C Js Jx S (pre ++ [q]) W1))
    (S : Nat → Prop) (W : World) (x : ActV J B S c h G W) (h0 : Js S [] W) :
    CallsIn Fence.wide n Tryz.prog 158 #[.func (.yield l) #[] #[], .pointer (some ⟨hx, 0, none⟩), .pointer (some ⟨lx, 0, none⟩)] W (SeqEnd J B c h G Js Jx (upQ h G r a 5040)) := by
  have HC : Hid (∀ S W, ActV J B S c h G W → HeapAt W hb c.a r → ¬ S hb → ∀ k : Nat, k ≤ 4 → CallsIn Fence.wide (n - 1) Tryz.prog 114 #[.pointer (some ⟨hb, 0, none⟩), .int .i64 k] W (ChPost J B S c h G (chQ h G r k) W)) :=
    Lib.hid fun S W x ht hS k hk => callsIn_wide.2 (chart_any x ht hS hr k hk (hL _))
  have HM : Hid (∀ k j : Nat, k ≤ 4 → j < 1008 → chQ h G r k ≠ 0 → ∀ W, CallsIn Fence.wide (n - 1) Tryz.prog 155 #[.string ⟨(G (chQ h G r k)).toArray⟩, .int .i64 j] W fun e w' => e = .returned (.int .i64 (mk0 h G r (k * 1008 + j))) ∧ w' = W) :=
    Lib.hid fun k j hk hj h0 W => callsIn_wide.2 (by
      have e : mk0 h G r (k * 1008 + j) = markB (G (chQ h G r k)) j := by
        unfold mk0
        rw [show (k * 1008 + j) / 1008 = k by omega, show (k * 1008 + j) % 1008 = j by omega, if_neg h0]
      rw [e]
      exact markIn_any (G (chQ h G r k)) j W hj (hL _ (chQ_has h0)))
  have HI := Lib.hid hI
  have HJ := Lib.hid hJ
  have HY := Lib.hid hY
  have HST : Hid (∃ S', ActV J B S' c h G W ∧ Js S' (upQ h G r a (0 * 1008)) W) := Lib.hid ⟨S, x, by rw [Nat.zero_mul]; exact h0⟩
  clear hI hJ hY x h0 hL
  refine callsIn_of_wp Tryz.func158 rfl trivial ?_ rfl
  simp only [Tryz.ntmps158, List.size_toArray, List.length_cons, List.length_nil, Nat.reduceAdd, Nat.reduceSub, Array.replicate_succ, Array.replicate_zero, List.push_toArray, List.append_toArray, List.nil_append, List.cons_append]
  have hF1 : Fence.wide.fn 114 := trivial
  have hF2 : Fence.wide.fn 155 := trivial
  gi_wp2
  gi_loopw [8] (fun vk wr => ∃ k : Nat, vk = .int .i64 k ∧ k ≤ 5 ∧ Hid (∃ S', ActV J B S' c h G wr ∧ Js S' (upQ h G r a (k * 1008)) wr)) (fun vk _ => 5 - (intOf vk).toNat)
  case atStart => exact ⟨0, rfl, by omega, HST⟩
  case round =>
    clear HST
    obtain ⟨k, rfl, hk5, HS⟩ := hrel
    obtain ⟨S1, hA, hJs⟩ := HS.out
    by_cases hk : k < 5
    · have hkc : (k : Int) < 5 := by omega
      obtain ⟨i1, i2, i3, i4⟩ := HI.out S1 _ wr hJs
      have HC1 := Lib.hid (HC.out S1 wr hA i1 i2 k (by omega))
      have HAJ := Lib.hid (And.intro hA hJs)
      clear hA hJs i1 i2 i4 HS
      unfold ChPost at HC1
      by_cases h0 : chQ h G r k = 0
      · rw [h0, if_pos rfl] at HC1
        have HSK : Hid (upQ h G r a ((k + 1) * 1008) = upQ h G r a (k * 1008)) := Lib.hid (by rw [show (k + 1) * 1008 = k * 1008 + 1008 by omega]; exact upQ_skip h G r a k ha h0 1008 (Nat.le_refl _))
        clear h0
        gi_wp2_with (gi_at_call 114; refine (HC1.out).mono ?_; rintro e w1 ⟨rfl, hp1⟩)
        go_roundw
        case rel => exact ⟨k + 1, by go_num, by omega, Lib.hid (by
          obtain ⟨S2, hT, hA2⟩ := hp1
          exact ⟨S2, hA2, by rw [HSK.out]; exact HJ.out _ _ _ _ _ HAJ.out.1 HAJ.out.2 hT hA2⟩)⟩
        case measure => simp [intOf]; omega
      · rw [if_neg h0] at HC1
        have HM1 := Lib.hid (fun j hj => HM.out k j (by omega) hj h0)
        obtain ⟨qc, hqc⟩ : ∃ qc, qc = chQ h G r k := ⟨_, rfl⟩
        rw [← hqc] at HC1 HM1 h0
        obtain ⟨s, hs⟩ : ∃ s : ByteArray, s = ⟨(G qc).toArray⟩ := ⟨_, rfl⟩
        rw [← hs] at HC1 HM1
        have hqc0 : ¬ (qc : Int) = 0 := by omega
        have hqc1 : ((qc : Int) == 0) = false := beq_eq_false_iff_ne.2 hqc0
        clear hs hqc h0
        gi_wp2_with (gi_at_call 114; refine (HC1.out).mono ?_; rintro e w1 ⟨rfl, hp1⟩)
        have HP1 : Hid (∃ S', ActV J B S' c h G w1 ∧ Js S' (upQ h G r a (k * 1008 + 0)) w1) := Lib.hid (by
          obtain ⟨S2, hT, hA2⟩ := hp1
          exact ⟨S2, hA2, HJ.out _ _ _ _ _ HAJ.out.1 HAJ.out.2 hT hA2⟩)
        clear hp1 HC1 HAJ
        gi_wp2
        gi_loopw [19] (fun vj wq => ∃ j : Nat, vj = .int .i64 j ∧ j ≤ 1008 ∧ Hid (∃ S', ActV J B S' c h G wq ∧ Js S' (upQ h G r a (k * 1008 + j)) wq)) (fun vj _ => 1008 - (intOf vj).toNat)
        case atStart => exact ⟨0, rfl, by omega, HP1⟩
        case round =>
          clear HP1
          obtain ⟨j, rfl, hj8, HS2⟩ := hrel
          by_cases hj : j < 1008
          · have hjc : (j : Int) < 1008 := by omega
            have hmx : Tryz.prog.follows .mixedOrders = true := by kernel_rfl
            have hd : 1 ≤ n - 1 := hn2
            obtain ⟨S2, hA2, hJ2⟩ := HS2.out
            have hA3 := hA2.below (below_drewN wr 1)
            have hJ3 := HJ.out _ _ _ _ _ hA2 hJ2 (Turn.ofBelow (below_drewN wr 1)) hA3
            obtain ⟨_, _, _, f4⟩ := HI.out _ _ _ hJ3
            have g4 : wr.drew.cell? ⟨lx, 0, none⟩ = some (.int .i64 a) := f4
            have HMj := Lib.hid (HM1.out j hj)
            have hup := upQ_succ h G r a (k * 1008 + j)
            have hpf : upQ h G r a (k * 1008 + j + 1) <+: upQ h G r a 5040 := upQ_le h G r a (by omega)
            obtain ⟨m, hm⟩ : ∃ m, m = mk0 h G r (k * 1008 + j) := ⟨_, rfl⟩
            rw [← hm] at HMj hup
            clear hm f4
            by_cases ham : a ≤ m
            · rw [if_pos ham] at hup
              have hY1 := HY.out S2 (upQ h G r a (k * 1008 + j)) (k * 1008 + j) wr.drew hA3 hJ3 (by omega) (by rw [← hup]; exact hpf)
              obtain ⟨fn, tmps, assign, body, hyy, hRr⟩ := hY1
              have HRr := Lib.hid hRr
              have HUP := Lib.hid hup
              have HPF := Lib.hid hpf
              have e1 : IntKind.i64.wrap ((k : Int) * 1008) = (k : Int) * 1008 := IntWalk.i64_in _ (by omega)
              have e2 : IntKind.i64.wrap ((k : Int) * 1008 + (j : Int)) = (k : Int) * 1008 + (j : Int) := IntWalk.i64_in _ (by omega)
              rw [show ((k * 1008 + j : Nat) : Int) = (k : Int) * 1008 + (j : Int) by omega] at hyy
              have hamc : (a : Int) ≤ (m : Int) := by omega
              clear hA2 hJ2 hA3 hJ3 hRr hup hpf HS2
              gi_wp2
              gi_region_with_o (first | (gi_at_call 155; refine (HMj.out _).mono ?_; rintro e w2 ⟨rfl, hw⟩; subst w2) | (refine HRr.out.mono ?_; rintro e W3 ⟨bb, S3, rfl, hT3, hp1, hp2⟩))
              all_goals cases bb with
                | false =>
                  have HQ := Lib.hid (hp2 rfl)
                  clear hp1 hp2 hT3
                  gi_wp2
                  refine bodyPost_ret (results_none rfl _ _ _) rfl ?_
                  exact ⟨⟨_, rfl⟩, .inr ⟨S3, _, by rw [← HUP.out]; exact HPF.out, HQ.out⟩⟩
                | true =>
                  have HS3 : Hid (∃ S', ActV J B S' c h G W3 ∧ Js S' (upQ h G r a (k * 1008 + (j + 1))) W3) := Lib.hid ⟨S3, (hp1 rfl).1, by rw [← Nat.add_assoc, HUP.out]; exact (hp1 rfl).2⟩
                  clear hp1 hp2 hT3
                  gi_wp2
                  go_roundw
                  case rel => exact ⟨j + 1, by go_num, by omega, HS3⟩
                  case measure => simp [intOf]; omega
            · rw [if_neg ham, List.append_nil] at hup
              have HUP := Lib.hid hup
              have HS3 : Hid (∀ nq, ∃ S', ActV J B S' c h G (wr.drewN nq) ∧ Js S' (upQ h G r a (k * 1008 + (j + 1))) (wr.drewN nq)) := Lib.hid fun nq => ⟨S2, hA2.below (below_drewN wr nq), by rw [← Nat.add_assoc, HUP.out]; exact HJ.out _ _ _ _ _ hA2 hJ2 (Turn.ofBelow (below_drewN wr nq)) (hA2.below (below_drewN wr nq))⟩
              have hma : m < a := by omega
              obtain ⟨_, _, _, g5⟩ := HI.out _ _ _ hJ2
              clear hA2 hJ2 hA3 hJ3 hup hpf HS2 HUP ham
              gi_wp2
              have hdec : decide ((a : Int) ≤ (m : Int)) = false := decide_eq_false (by omega)
              have hdecN : decide (a ≤ m) = false := decide_eq_false (by omega)
              refine wpIn_wide.2 ?_
              go_quiet ((go_at_call 155; exact Calls.quiet_of_same (callsIn_wide.1 (HMj.out _))))
              gi_wp2
              go_roundw
              case rel => exact ⟨j + 1, by go_num, by omega, Lib.hid (HS3.out _)⟩
              case measure => simp [intOf]; omega
          · obtain rfl : j = 1008 := by omega
            have HS3 : Hid (∃ S', ActV J B S' c h G wr ∧ Js S' (upQ h G r a ((k + 1) * 1008)) wr) := Lib.hid (by rw [show (k + 1) * 1008 = k * 1008 + 1008 by omega]; exact HS2.out)
            clear HS2
            gi_wp2
            go_roundw
            case rel => exact ⟨k + 1, by go_num, by omega, HS3⟩
            case measure => simp [intOf]; omega
    · obtain rfl : k = 5 := by omega
      have HA := HS
      clear HS hA hJs
      gi_wp2
      go_end0
      exact ⟨⟨_, rfl⟩, .inl HA.out⟩
end Go.Proofs.YtijggofelepaaaaGreatDoor

/- Contract: a sheet is loaded; what stands beside an iterator. -/
set_option maxRecDepth 100000
namespace Go.Proofs.YtijggofelepaaaaGreatDoor
open Go Go.RowKit

section
variable {J : List RawOp → Prop} {B : Nat} {S : Nat → Prop} {c : Ac} {h : Hd} {G : Nat → List UInt8} {w : World} {hb r : Nat}
/-- What load leaves: a sheet in new memory. -/
def LoadPost (J : List RawOp → Prop) (B : Nat) (S : Nat → Prop) (c : Ac) (h : Hd) (G : Nat → List UInt8) (q : Nat) (l : List Pl) (w : World) (e : Ending) (w' : World) : Prop :=
  ∃ sb S', e = .returned (.pointer (some ⟨sb, 0, none⟩)) ∧ Turn S w S' w' ∧ ActV J B S' c h G w' ∧ w.heap.size ≤ sb ∧ SheetAt w' sb q l ∧ ¬ S' sb
set_option maxHeartbeats 800000 in
theorem hload_any (x : ActV J B S c h G w) (ht : HeapAt w hb c.a r) (q : Nat) (hq : h.has q) (hL : (G q).length = 512) :
    Calls Tryz.prog 111 #[.pointer (some ⟨hb, 0, none⟩), .int .i64 q] w (LoadPost J B S c h G q (rdSh (G q)) w) := by
  have HR := Lib.hid (read_v x q hq)
  have HS : Hid (∀ W, ActPost J B S c h G w W → Calls Tryz.prog 156 #[.int .i64 q, .string ⟨(G q).toArray⟩] W (LoadPost J B S c h G q (rdSh (G q)) w)) := Lib.hid fun W ⟨S1, hT, hA⟩ => (sheetOf_any q (G q) hL W).mono fun e w' ⟨sb, he, hsb, hs, hbw⟩ =>
    ⟨sb, S1, he, hT.trans (Turn.ofBelow hbw), hA.below hbw, Nat.le_trans hT.1.size hsb, hs, fun h1 => by have := (hA.low _ h1).2; omega⟩
  have c1 := ht.c1
  obtain ⟨s, hs⟩ : ∃ s : ByteArray, s = ⟨(G q).toArray⟩ := ⟨_, rfl⟩
  rw [← hs] at HR HS
  clear x ht hs hL hq
  go_enter Tryz.func111, Tryz.ntmps111
  go_wp2_with fail
  refine HR.out.mono ?_
  rintro e w1 ⟨rfl, hA⟩
  have HA := Lib.hid hA
  clear hA
  go_wp2_with fail
  refine (HS.out _ HA.out).mono ?_
  rintro e w2 ⟨sb, S', rfl, hp⟩
  have HP := Lib.hid hp
  clear hp
  go_wp2
  go_ret
  exact ⟨sb, S', rfl, HP.out⟩
end

theorem kept_putObj (w : World) (r : Nat) (o : Obj) : Kept (fun k => k = r) w (w.putObj r o) := ⟨rfl, rfl, rfl, by simp, fun _ _ hk => World.putObj_heap_other hk⟩
/-- What stands beside: the blocks of X are as they were in w0, and none of the action's. -/
def Fix (X : Nat → Prop) (w0 : World) (S : Nat → Prop) (w : World) : Prop := ∀ k, X k → w.heap[k]? = w0.heap[k]? ∧ ¬ S k
section
variable {X C S S' : Nat → Prop} {w0 w w' : World}
theorem Fix.turn (h : Fix X w0 S w) (hX : ∀ k, X k → k < w0.heap.size) (hT : TurnC C S w S' w') (hC : ∀ k, X k → ¬ C k) : Fix X w0 S' w' := fun k hk => by
  obtain ⟨h1, h2⟩ := h k hk
  have hl : k < w.heap.size := by
    rcases Nat.lt_or_ge k w.heap.size with hl | hl
    · exact hl
    · rw [Array.getElem?_eq_none hl, Array.getElem?_eq_getElem (hX k hk)] at h1; cases h1
  exact ⟨(hT.1.block k hl (fun e => e.elim h2 (hC k hk))).trans h1, fun hs => h2 (hT.2 k hl hs)⟩
theorem Fix.below (h : Fix X w0 S w) (hX : ∀ k, X k → k < w0.heap.size) (hb : Below w.heap.size w w') : Fix X w0 S w' := h.turn hX ((Turn.ofBelow hb).toC (fun _ => False)) (fun _ _ e => e)
theorem Fix.mono {Y : Nat → Prop} (h : Fix X w0 S w) (hY : ∀ k, Y k → X k) : Fix Y w0 S w := fun k hk => h k (hY k hk)
theorem Fix.put (h : Fix X w0 S w) {r : Nat} (hr : ¬ X r) (o : Obj) : Fix X w0 S (w.putObj r o) := fun k hk => ⟨(World.putObj_heap_other (fun e => hr (by rw [← e]; exact hk))).trans (h k hk).1, (h k hk).2⟩
end
/-- What is said of the caller's state does not mind that a block is turned that is none of the caller's: no cells, laid since. -/
def Cl {α : Type} (base : Nat) (K : (Nat → Prop) → List α → World → Prop) : Prop :=
  ∀ (S : Nat → Prop) (s : List α) (A : World) (r : Nat) (o o' : Obj), K S s A → base ≤ r → ¬ S r → A.heap[r]? = some o → o.isCells = false → K S s (A.putObj r o')
section
variable {J : List RawOp → Prop} {B : Nat} {S : Nat → Prop} {c : Ac} {h : Hd} {G : Nat → List UInt8} {w : World}
theorem ActV.put (x : ActV J B S c h G w) {r : Nat} (hr : ¬ S r) (h1 : 1 ≤ r) (o : Obj) : ActV J B S c h G (w.putObj r o) := x.kept (kept_putObj w r o) (fun _ e _ => by subst e; exact ⟨hr, h1⟩)
theorem put_turnC (C : Nat → Prop) {r : Nat} (hr : C r) (o : Obj) : TurnC C S w S (w.putObj r o) := ⟨(kept_putObj w r o).mono (fun _ e => .inr (by subst e; exact hr)), fun _ _ hs => hs⟩
end
theorem TurnC.mono {C D S S' : Nat → Prop} {w w' : World} (h : TurnC C S w S' w') (hC : ∀ k, C k → D k) : TurnC D S w S' w' := ⟨h.1.mono (fun k hk => hk.imp id (hC k)), h.2⟩
theorem YieldAt.mono' {F : Fence} {m : Nat} {P : Program} {l : Nat} {args : Array Value} {W : World} {R R' : Ending → World → Prop} (h : YieldAt F m P l args W R) (hr : ∀ e w', R e w' → R' e w') : YieldAt F m P l args W R' := by
  obtain ⟨fn, tmps, assign, body, hy, hR⟩ := h
  exact ⟨fn, tmps, assign, body, hy, hR.mono hr⟩
end Go.Proofs.YtijggofelepaaaaGreatDoor
