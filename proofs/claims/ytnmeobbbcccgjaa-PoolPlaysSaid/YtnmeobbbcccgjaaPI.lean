/- The contract of a pool's Pin, in its three ways. -/
import Derived.Test.YtnmeobbbcccgjaaPH
set_option maxRecDepth 100000
namespace Go.Proofs.Ytnmeobbbcccgjaa
open Go.RowKit

section
variable {p d fb mb n hand m : Nat} {fr : Nat → Option Fr} {w : World}
/-- A frame that is pinned once more, and was asked for lately. -/
theorem PoolG.pinFr (h : PoolG p d fb mb n hand m fr w) {i : Nat} {f : Fr} (hi : fr i = some f) :
    PoolG p d fb mb n hand m (upd fr i (some { f with pins := f.pins + 1, lately := true })) ((w.setCell ⟨fb, i * 516 + 1, none⟩ (.int .i64 (f.pins + 1 : Nat))).setCell ⟨fb, i * 516 + 2, none⟩ (.bool true)) ∧
    Kept (fun k => k = fb) w ((w.setCell ⟨fb, i * 516 + 1, none⟩ (.int .i64 (f.pins + 1 : Nat))).setCell ⟨fb, i * 516 + 2, none⟩ (.bool true)) := by
  obtain ⟨_, hf, hb, _⟩ := h.at_ i f hi
  obtain ⟨w1, hw1⟩ : ∃ w1, w1 = w.setCell ⟨fb, i * 516 + 1, none⟩ (.int .i64 (f.pins + 1 : Nat)) := ⟨_, rfl⟩
  have hfar1 : ∀ j, j ≠ 1 → w1.cell? ⟨fb, i * 516 + j, none⟩ = w.cell? ⟨fb, i * 516 + j, none⟩ := fun j hj => by
    rw [hw1]; exact World.cell?_setCell_other _ _ _ _ (fun e => by injection e with _ e _; omega)
  have hfar2 : ∀ j, j ≠ 2 → (w1.setCell ⟨fb, i * 516 + 2, none⟩ (.bool true)).cell? ⟨fb, i * 516 + j, none⟩ = w1.cell? ⟨fb, i * 516 + j, none⟩ := fun j hj => World.cell?_setCell_other _ _ _ _ (fun e => by injection e with _ e _; omega)
  have hk : Kept (fun k => k = fb) w (w1.setCell ⟨fb, i * 516 + 2, none⟩ (.bool true)) := by
    rw [hw1]; exact (Kept.setCell (fun k => k = fb) w (b := fb) rfl _).trans (Kept.setCell (fun k => k = fb) _ (b := fb) rfl _) (fun _ h => .inl h)
  rw [← hw1]
  refine ⟨h.turnFr hi ?_ hk (FrAt.mk (((hfar2 0 (by omega)).trans (hfar1 0 (by omega))).trans hf.page) ?_ ?_ (((hfar2 3 (by omega)).trans (hfar1 3 (by omega))).trans hf.changed) (fun j v hv => ?_)) hb rfl, hk⟩
  · rw [hw1]; exact (Touch.setCell w _ (by omega) (by omega)).trans (Touch.setCell _ _ (by omega) (by omega))
  · rw [hfar2 1 (by omega), hw1]; exact World.cell?_setCell_same _ _ _ hf.pins
  · exact World.cell?_setCell_same _ _ _ ((hfar1 2 (by omega)).trans hf.lately)
  · rw [show i * 516 + 4 + j = i * 516 + (4 + j) by omega, hfar2 (4 + j) (by omega), hfar1 (4 + j) (by omega), ← Nat.add_assoc]
    exact hf.bytes j v hv
end

set_option maxHeartbeats 800000 in
theorem pin_bad (p d fb mb n hand m : Nat) (fr : Nat → Option Fr) (q : Int) (w : World) (h : PoolG p d fb mb n hand m fr w) (hq : ¬ (0 ≤ q ∧ q < 4096)) :
    Calls Try.prog 14 #[.pointer (some ⟨p, 0, none⟩), .int .i64 q] w fun e w' => e = .returned (.int .i64 1) ∧ w' = w := by
  have HG := Lib.hid (pgiven_self p w h.c0)
  clear h
  by_cases h0 : q < 0
  · clear hq
    go_enter Try.func14, Try.ntmps14
    go_wp2_with fail
    refine HG.out.mono ?_
    rintro e w' ⟨rfl, hw⟩
    subst w'
    go_wp2
    go_ret
    exact ⟨rfl, rfl⟩
  · have h1 : (4096 : Int) ≤ q := by omega
    clear hq
    go_enter Try.func14, Try.ntmps14
    go_wp2_with fail
    refine HG.out.mono ?_
    rintro e w' ⟨rfl, hw⟩
    subst w'
    go_wp2
    go_ret
    exact ⟨rfl, rfl⟩

set_option maxHeartbeats 400000 in
theorem pin_nobody (v : Value) (q : Int) (w : World) (hp : NoPool v w) :
    Calls Try.prog 14 #[v, .int .i64 q] w fun e w' => e = .returned (.int .i64 1) ∧ w' = w := by
  have HP : Hid (Calls Try.prog 29 #[v] w fun e w' => e = .returned (.bool false) ∧ w' = w) := Lib.hid hp; clear hp
  go_enter Try.func14, Try.ntmps14
  go_wp2_with fail
  refine HP.out.mono ?_
  rintro e w' ⟨rfl, hw⟩
  subst w'
  go_wp2
  go_ret
  exact ⟨rfl, rfl⟩

set_option maxHeartbeats 800000 in
theorem pin_held (p d fb mb n hand m i : Nat) (fr : Nat → Option Fr) (f : Fr) (w : World) (h : PoolG p d fb mb n hand m fr w) (hi : fr i = some f) (hp2 : f.pins ≤ 4611686018427387904) :
    Calls Try.prog 14 #[.pointer (some ⟨p, 0, none⟩), .int .i64 f.page] w fun e w' => e = .returned (.int .i64 0) ∧ PoolG p d fb mb n hand m (upd fr i (some { f with pins := f.pins + 1, lately := true })) w' ∧ Kept (fun k => k = fb) w w' := by
  have HG := Lib.hid (pgiven_self p w h.c0)
  have hc := h.c3
  have hl := h.look hi
  obtain ⟨_, hf, _, hq⟩ := h.at_ i f hi
  have p1 := hf.pins
  have p2 := hf.lately
  have z1 := h.froz (i * 516 + 1)
  have z2 := h.froz (i * 516 + 2)
  have HE := Lib.hid (h.pinFr hi)
  obtain ⟨X, hX⟩ : ∃ X, X = PoolG p d fb mb n hand m (upd fr i (some { f with pins := f.pins + 1, lately := true })) := ⟨_, rfl⟩
  rw [← hX] at HE ⊢
  obtain ⟨o, ho⟩ : ∃ o, o = i * 516 := ⟨_, rfl⟩
  unfold ptrFr at hl
  rw [← ho] at hl p1 p2 z1 z2 HE
  obtain ⟨k, hk⟩ : ∃ k, k = f.pins := ⟨_, rfl⟩
  rw [← hk] at p1 hp2 HE
  obtain ⟨q, hq'⟩ : ∃ q, q = f.page := ⟨_, rfl⟩
  rw [← hq'] at hl hq ⊢
  have hq0 : (0 : Int) ≤ q := by omega
  have hq1 : (q : Int) < 4096 := by omega
  have hk2 : (k : Int) ≤ 4611686018427387904 := by omega
  have hk1 : ((k + 1 : Nat) : Int) = (k : Int) + 1 := by omega
  rw [hk1] at HE
  clear hX ho hk hq' h hf hi hp2 hk1
  go_enter Try.func14, Try.ntmps14
  go_wp2_with fail
  refine HG.out.mono ?_
  rintro e w' ⟨rfl, hw⟩
  subst w'
  go_wp2
  go_ret
  exact ⟨rfl, HE.out⟩

set_option maxHeartbeats 800000 in
theorem pin_nil (p d fb mb n hand m : Nat) (fr : Nat → Option Fr) (q : Nat) (X : World → Prop) (w : World) (h : PoolG p d fb mb n hand m fr w) (hq : q < 4096) (hno : ∀ j f, fr j = some f → f.page ≠ q)
    (hs : Calls Try.prog 31 #[.pointer (some ⟨p, 0, none⟩)] w fun e w' => e = .returned (.pointer none) ∧ X w') :
    Calls Try.prog 14 #[.pointer (some ⟨p, 0, none⟩), .int .i64 q] w fun e w' => e = .returned (.int .i64 40) ∧ X w' := by
  have HG := Lib.hid (pgiven_self p w h.c0)
  have hc := h.c3
  have hl := h.look_none q (WalkArith.wf_i64 (by omega)) (fun i f hi e => hno i f hi (by omega))
  have HS := Lib.hid hs; clear hs
  have hq0 : (0 : Int) ≤ q := by omega
  have hq1 : (q : Int) < 4096 := by omega
  clear h hno
  go_enter Try.func14, Try.ntmps14
  go_wp2_with fail
  refine HG.out.mono ?_
  rintro e w' ⟨rfl, hw⟩
  subst w'
  go_wp2_with fail
  refine HS.out.mono ?_
  rintro e w1 ⟨rfl, hx⟩
  have HX := Lib.hid hx; clear hx
  go_wp2
  go_ret
  exact ⟨rfl, HX.out⟩

/-- A frame is at hand for page q. -/
structure Spared (S : Nat → Prop) (p d fb mb n q hand m : Nat) (fr : Nat → Option Fr) (ops : List RawOp) (i : Nat) (w : World) : Prop where
  g : PoolG p d fb mb n hand m fr w
  none_ : fr i = none
  lt : i < n
  mn : m ≤ n
  no : ∀ j f, fr j = some f → f.page ≠ q
  disk : DiskAt S d ops w
  oP : ¬ S p
  oF : ¬ S fb
  oM : ¬ S mb

/-- What Pin leaves where a page has come into a frame. -/
def PinNew (p d fb mb n q : Nat) (X : Nat → Nat → (Nat → Option Fr) → (Nat → Prop) → List RawOp → World → Prop) (w' : World) : Prop :=
  ∃ i hand' m' fr' S ops w1, Spared S p d fb mb n q hand' m' fr' ops i w1 ∧ X i m' fr' S ops w1 ∧
      PoolG p d fb mb n hand' (m' + 1) (upd fr' i (some ⟨q, 1, true, false, pageOf (play ops 1) q⟩)) w' ∧ DiskAt S d ops w' ∧ Kept (fun k => k = fb ∨ k = mb) w1 w'

set_option maxHeartbeats 1600000 in
theorem pin_new (p d fb mb n hand m : Nat) (fr : Nat → Option Fr) (q : Nat) (X : Nat → Nat → (Nat → Option Fr) → (Nat → Prop) → List RawOp → World → Prop) (w : World) (h : PoolG p d fb mb n hand m fr w) (hq : q < 4096) (hno : ∀ j f, fr j = some f → f.page ≠ q)
    (hs : Calls Try.prog 31 #[.pointer (some ⟨p, 0, none⟩)] w fun e w' => ∃ i hand' m' fr' S ops, e = .returned (ptrFr fb i) ∧ Spared S p d fb mb n q hand' m' fr' ops i w' ∧ X i m' fr' S ops w') :
    Calls Try.prog 14 #[.pointer (some ⟨p, 0, none⟩), .int .i64 q] w fun e w' => e = .returned (.int .i64 0) ∧ PinNew p d fb mb n q X w' := by
  have HG := Lib.hid (pgiven_self p w h.c0)
  have hc := h.c3
  have hl := h.look_none q (WalkArith.wf_i64 (by omega)) (fun i f hi e => hno i f hi (by omega))
  have HS := Lib.hid hs; clear hs
  have hq0 : (0 : Int) ≤ q := by omega
  have hq1 : (q : Int) < 4096 := by omega
  clear h hno
  go_enter Try.func14, Try.ntmps14
  go_wp2_with fail
  refine HG.out.mono ?_
  rintro e w' ⟨rfl, hw⟩
  subst w'
  go_wp2_with fail
  refine HS.out.mono ?_
  rintro e w1 ⟨i, hand', m', fr', S, ops, rfl, hSp, hx⟩
  unfold ptrFr
  have HX := Lib.hid hx; clear hx
  have c1 := hSp.g.c1
  have ht : w1.there fb (i * 516) 516 := there_part hSp.g.room (by omega) (by have := Nat.mul_le_mul_right 516 (show i + 1 ≤ n from hSp.lt); omega)
  have HLD := Lib.hid (load_any fb (i * 516) d q S ops w1 hSp.disk hq ht hSp.oF)
  have HSP := Lib.hid hSp; clear hSp ht
  go_wp2_with fail
  refine HLD.out.mono ?_
  rintro e w2 ⟨rfl, hFr, hT, hK⟩
  have hG2 : PoolG p d fb mb n hand' m' fr' w2 := by
    have hg := HSP.out.g
    obtain ⟨F, hF, h4, h5⟩ := hg.map
    refine ⟨(hK.block p hg.lt hg.pf).trans hg.blk, hg.n1, hg.n2, hg.hand_, there_touch hg.room hT, fun j => (hT.froz j).trans (hg.froz j), fun j f hj => ?_, hg.one, ⟨F, hF.block (hK.block mb hg.ltM (fun e => hg.fm e.symm)), h4, h5⟩, hg.pf, hg.pm, hg.fm⟩
    obtain ⟨a, b, c, d'⟩ := hg.at_ j f hj
    refine ⟨a, rangeAt_touch b hT ?_, c, d'⟩
    rw [Fr.cells_length, c]
    have hji : j ≠ i := fun e => by subst e; rw [HSP.out.none_] at hj; cases hj
    have : j < i ∨ i < j := by omega
    rcases this with hlt | hlt
    · left; have := Nat.mul_le_mul_right 516 (show j + 1 ≤ i from hlt); omega
    · right; have := Nat.mul_le_mul_right 516 (show i + 1 ≤ j from hlt); omega
  obtain ⟨w3, hr, hG3, hK3⟩ := hG2.insert (g := ⟨q, 0, false, false, pageOf (play ops 1) q⟩) HSP.out.lt HSP.out.none_ HSP.out.mn hq HSP.out.no hFr (pageOf_length _ _)
  have c3 := hG2.c3
  have hi3 : upd fr' i (some (⟨q, 0, false, false, pageOf (play ops 1) q⟩ : Fr)) i = some ⟨q, 0, false, false, pageOf (play ops 1) q⟩ := upd_same _ _ _
  obtain ⟨_, hF3, _, _⟩ := hG3.at_ i _ hi3
  have p1 := hF3.pins
  have p2 := hF3.lately
  have z1 := hG3.froz (i * 516 + 1)
  have z2 := hG3.froz (i * 516 + 2)
  have hE := hG3.pinFr hi3
  have hend : PinNew p d fb mb n q X ((w3.setCell ⟨fb, i * 516 + 1, none⟩ (.int .i64 1)).setCell ⟨fb, i * 516 + 2, none⟩ (.bool true)) := by
    have hk13 : Kept (fun k => k = fb ∨ k = mb) w1 ((w3.setCell ⟨fb, i * 516 + 1, none⟩ (.int .i64 1)).setCell ⟨fb, i * 516 + 2, none⟩ (.bool true)) :=
      ((hK.mono (fun k h => .inl h)).trans (hK3.mono (T := fun k => k = fb ∨ k = mb) (fun k h => .inr h)) (fun _ h => .inl h)).trans (hE.2.mono (T := fun k => k = fb ∨ k = mb) (fun k h => .inl h)) (fun _ h => .inl h)
    refine ⟨i, hand', m', fr', S, ops, w1, HSP.out, HX.out, ?_, HSP.out.disk.kept hk13 (fun k _ hs e => by rcases e with rfl | rfl; exact HSP.out.oF hs; exact HSP.out.oM hs), hk13⟩
    have := hE.1
    have e1 : upd (upd fr' i (some (⟨q, 0, false, false, pageOf (play ops 1) q⟩ : Fr))) i (some ⟨q, 1, true, false, pageOf (play ops 1) q⟩) = upd fr' i (some ⟨q, 1, true, false, pageOf (play ops 1) q⟩) := by
      funext j
      by_cases hj : j = i
      · subst hj; rw [upd_same, upd_same]
      · rw [upd_other _ _ hj, upd_other _ _ hj, upd_other _ _ hj]
    rw [← e1]
    exact this
  have HE := Lib.hid hend
  unfold ptrFr at hr
  clear hend hE hF3 hi3 hG3 hK3 hFr hT hK hG2
  go_wp2_with (refine wpList_mapUpdate_run rfl _ _ _ 46 rfl _ _ _ (by rfl) (by rfl) (by rfl) hr ?_)
  go_ret
  exact ⟨rfl, HE.out⟩
end Go.Proofs.Ytnmeobbbcccgjaa
