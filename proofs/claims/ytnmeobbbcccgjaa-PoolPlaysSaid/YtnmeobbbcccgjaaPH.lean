/- The contract of a pool's spare: a frame that no page needs. -/
import Derived.Test.YtnmeobbbcccgjaaPG
set_option maxRecDepth 100000
namespace Go.Proofs.Ytnmeobbbcccgjaa
open Go.RowKit

section
variable {P : Program} {w w' : World} {ops : Array Oper} {rest : List Oper} {o : Oper} {a : Act} {Q : Exit → Act → World → Prop}
theorem wpList_delete_run (hg : o.guard = none) (m x : Operand) (t k : TypeId) (hop : o.op = Op.call { callee := Callee.builtin Builtin.delete, args := #[m, x], argTypes := #[t, k] })
    (mv xv : Value) (hm : a.eval m = mv) (hx : a.eval x = xv) (hr : (Builtin.delete_ #[t, k] o.type #[mv, xv]).run P w = .ok (.tuple #[]) w') (h : wpList P ops Q rest (a.put o.dst (.tuple #[])) w') :
    wpList P ops Q (o :: rest) a w := by
  refine wpList_plain hg fun K' hK' => ?_
  unfold Oper.wp
  simp [execOp, hop, resolve, invoke, builtin, hm, hx, hr, Result.andThen]
  exact hK' _ _ h
theorem wpList_len_run (hg : o.guard = none) (m : Operand) (t : TypeId) (hop : o.op = Op.call { callee := Callee.builtin Builtin.len, args := #[m], argTypes := #[t] })
    (mv v : Value) (hm : a.eval m = mv) (hr : (Builtin.len_ #[t] o.type #[mv]).run P w = .ok v w) (h : wpList P ops Q rest (a.put o.dst v) w) :
    wpList P ops Q (o :: rest) a w := by
  refine wpList_plain hg fun K' hK' => ?_
  unfold Oper.wp
  simp [execOp, hop, resolve, invoke, builtin, hm, hr, Result.andThen]
  exact hK' _ _ h
theorem wpList_mapUpdate_run (hg : o.guard = none) (m x v : Operand) (t : TypeId) (hop : o.op = Op.mapUpdate t m x v)
    (mv xv vv : Value) (hm : a.eval m = mv) (hx : a.eval x = xv) (hv : a.eval v = vv) (hr : (Instr.mapUpdate t mv xv vv).run P w = .ok () w') (h : wpList P ops Q rest (a.put o.dst undef) w') :
    wpList P ops Q (o :: rest) a w := by
  refine wpList_plain hg fun K' hK' => ?_
  unfold Oper.wp
  simp [execOp, hop, hm, hx, hv, hr, Result.andThen]
  exact hK' _ _ h
end

/-- The first m frames hold pages, the others none. -/
def Filled (n m : Nat) (fr : Nat → Option Fr) : Prop := m ≤ n ∧ ∀ i, i < m ↔ ∃ f, fr i = some f

section
variable {p d fb mb n hand m : Nat} {fr : Nat → Option Fr} {w : World}
theorem PoolG.remove (h : PoolG p d fb mb n hand (m + 1) fr w) {i : Nat} {f : Fr} (hi : fr i = some f) (ty : TypeId) :
    ∃ w', (Builtin.delete_ #[46, 3] ty #[.map (some mb), .int .i64 f.page]).run Try.prog w = .ok (.tuple #[]) w' ∧ PoolG p d fb mb n hand m (upd fr i none) w' ∧ Kept (fun k => k = mb) w w' := by
  obtain ⟨F, hF, h4, h5⟩ := h.map
  obtain ⟨w', hr, hF', ht⟩ := hF.del Try.underlying46 f.page (WalkArith.wf_i64 (by have := (h.at_ i f hi).2.2.2; omega)) (h4 i f hi) ty
  have hk := Kept.ofTurned (S := fun k => k = mb) ht rfl
  have e1 := hk.block p h.lt h.pm
  have e2 := hk.block fb h.ltF h.fm
  have hup : ∀ j g, upd fr i none j = some g → j ≠ i ∧ fr j = some g := fun j g hg => by
    by_cases hj : j = i
    · subst hj; rw [upd_same] at hg; cases hg
    · rw [upd_other _ _ hj] at hg; exact ⟨hj, hg⟩
  refine ⟨w', hr, ⟨e1.trans h.blk, h.n1, h.n2, h.hand_, there_touch h.room (Touch.ofBlock (o := 0) (n := 0) e2), fun j => (World.frozen?_of_block e2).trans (h.froz j), fun j g hg => ?_, fun a b x y hx hy => h.one a b x y (hup a x hx).2 (hup b y hy).2, ⟨_, hF', fun j g hg => ?_, fun q v hv => ?_⟩, h.pf, h.pm, h.fm⟩, hk⟩
  · obtain ⟨a, b, c⟩ := h.at_ j g (hup j g hg).2
    exact ⟨a, fun j v hv => (World.cell?_of_block e2).trans (b j v hv), c⟩
  · obtain ⟨hj, hg'⟩ := hup j g hg
    rw [updI_other _ _ (fun e => hj (h.one j i g f hg' hi (by omega)))]
    exact h4 j g hg'
  · by_cases hq : q = f.page
    · subst hq; rw [updI_same] at hv; cases hv
    · rw [updI_other _ _ hq] at hv
      obtain ⟨j, g, hg, e3, e4⟩ := h5 q v hv
      refine ⟨j, g, ?_, e3, e4⟩
      rw [upd_other _ _ (fun e => ?_)]
      · exact hg
      · subst e; rw [hi] at hg; cases hg; exact hq e3.symm

theorem PoolG.insert (h : PoolG p d fb mb n hand m fr w) {i : Nat} {g : Fr} (hin : i < n) (hi : fr i = none) (hm : m ≤ n) (hq : g.page < 4096) (hno : ∀ j f, fr j = some f → f.page ≠ g.page) (hg : FrAt w fb (i * 516) g) (hb : g.bytes.length = 512) :
    ∃ w', (Instr.mapUpdate 46 (.map (some mb)) (.int .i64 g.page) (ptrFr fb i)).run Try.prog w = .ok () w' ∧ PoolG p d fb mb n hand (m + 1) (upd fr i (some g)) w' ∧ Kept (fun k => k = mb) w w' := by
  obtain ⟨F, hF, h4, h5⟩ := h.map
  have hnone : F g.page = none := by
    cases hv : F g.page with
    | none => rfl
    | some v =>
      obtain ⟨j, f, hj, e, _⟩ := h5 _ v hv
      exact absurd (by omega) (hno j f hj)
  obtain ⟨w', hr, hF', ht⟩ := hF.put Try.underlying46 (by have := h.n2; unfold maxLen; omega) g.page (WalkArith.wf_i64 (by omega)) hnone (ptrFr fb i)
  have hk := Kept.ofTurned (S := fun k => k = mb) ht rfl
  have e1 := hk.block p h.lt h.pm
  have e2 := hk.block fb h.ltF h.fm
  refine ⟨w', hr, ⟨e1.trans h.blk, h.n1, h.n2, h.hand_, there_touch h.room (Touch.ofBlock (o := 0) (n := 0) e2), fun j => (World.frozen?_of_block e2).trans (h.froz j), fun j x hx => ?_, fun a b x y hx hy hxy => ?_, ⟨_, hF', fun j x hx => ?_, fun q v hv => ?_⟩, h.pf, h.pm, h.fm⟩, hk⟩
  · by_cases hj : j = i
    · subst hj; rw [upd_same] at hx; cases hx
      exact ⟨hin, fun j v hv => (World.cell?_of_block e2).trans (hg j v hv), hb, hq⟩
    · rw [upd_other _ _ hj] at hx
      obtain ⟨a, b, c⟩ := h.at_ j x hx
      exact ⟨a, fun j v hv => (World.cell?_of_block e2).trans (b j v hv), c⟩
  · by_cases ha : a = i
    · by_cases hb' : b = i
      · rw [ha, hb']
      · subst ha; rw [upd_same] at hx; cases hx
        rw [upd_other _ _ hb'] at hy
        exact absurd hxy.symm (hno b y hy)
    · by_cases hb' : b = i
      · subst hb'; rw [upd_same] at hy; cases hy
        rw [upd_other _ _ ha] at hx
        exact absurd hxy (hno a x hx)
      · rw [upd_other _ _ ha] at hx
        rw [upd_other _ _ hb'] at hy
        exact h.one a b x y hx hy hxy
  · by_cases hj : j = i
    · subst hj; rw [upd_same] at hx; cases hx
      exact updI_same _ _ _
    · rw [upd_other _ _ hj] at hx
      rw [updI_other _ _ (fun e => hno j x hx (by omega))]
      exact h4 j x hx
  · by_cases hq' : q = g.page
    · subst hq'; rw [updI_same] at hv; cases hv
      exact ⟨i, g, upd_same _ _ _, rfl, rfl⟩
    · rw [updI_other _ _ hq'] at hv
      obtain ⟨j, x, hx, e3, e4⟩ := h5 q v hv
      refine ⟨j, x, ?_, e3, e4⟩
      rw [upd_other _ _ (fun e => ?_)]
      · exact hx
      · subst e; rw [hi] at hx; cases hx

theorem PoolG.len (h : PoolG p d fb mb n hand m fr w) (ty : TypeId) : (Builtin.len_ #[46] ty #[.map (some mb)]).run Try.prog w = .ok (.int .i64 m) w := by
  obtain ⟨F, hF, _⟩ := h.map
  exact hF.len Try.underlying46 ty
end

set_option maxHeartbeats 800000 in
theorem spare_free (p d fb mb n hand m : Nat) (fr : Nat → Option Fr) (w : World) (h : PoolG p d fb mb n hand m fr w) (hm : m < n) :
    Calls Try.prog 31 #[.pointer (some ⟨p, 0, none⟩)] w fun e w' => e = .returned (ptrFr fb m) ∧ w' = w := by
  have hc2 := h.c2
  have hc3 := h.c3
  have hl := h.len 3
  have hn2 := h.n2
  have hmn : (m : Int) < n := by omega
  have hm0 : (0 : Int) ≤ m := by omega
  clear h
  unfold ptrFr
  go_enter Try.func31, Try.ntmps31
  go_wp2_with (refine wpList_len_run rfl _ 46 rfl (.map (some mb)) _ (by rfl) hl ?_)
  go_ret
  exact ⟨rfl, rfl⟩

/-- What has been written to the disk, where a changed frame was saved. -/
def saved (f : Fr) (ops : List RawOp) : List RawOp := if f.changed then ops ++ [.put 1 (f.page * 512) ⟨f.bytes.toArray⟩] else ops

def SparePost (S : Nat → Prop) (p d fb mb n m : Nat) (fr : Nat → Option Fr) (ops : List RawOp) (w : World) (e : Ending) (w' : World) : Prop :=
  ∃ hand' fr', Late fr fr' ∧ (e = .returned (.pointer none) ∧ PoolG p d fb mb n hand' m fr' w' ∧ (∀ i f, i < n → fr' i = some f → 0 < f.pins) ∧ Kept (fun k => k = p ∨ k = fb) w w' ∨
    ∃ i f S', i < n ∧ fr' i = some f ∧ f.pins = 0 ∧ e = .returned (ptrFr fb i) ∧ PoolG p d fb mb n hand' (m - 1) (upd fr' i none) w' ∧ DiskAt S' d (saved f ops) w' ∧ Kept (fun k => S k ∨ k = p ∨ k = fb ∨ k = mb) w w' ∧ ∀ k, S' k → S k ∨ w.heap.size ≤ k)

set_option maxHeartbeats 1600000 in
theorem spare_full (p d fb mb n hand m : Nat) (fr : Nat → Option Fr) (S : Nat → Prop) (ops : List RawOp) (w : World) (h : PoolG p d fb mb n hand m fr w) (hF : Filled n m fr) (hm : m = n) (hd : DiskAt S d ops w) (hlen : ops.length ≤ 4398046511104)
    (h1 : ¬ S p) (h2 : ¬ S fb) (h3 : ¬ S mb) :
    Calls Try.prog 31 #[.pointer (some ⟨p, 0, none⟩)] w (SparePost S p d fb mb n m fr ops w) := by
  have hc2 := h.c2
  have hc3 := h.c3
  have hl := h.len 3
  have hn1 := h.n1
  have hmn : ¬ ((m : Int) < n) := by omega
  have HT := Lib.hid (turn_any p d fb mb n hand m fr w h (fun i hi => (hF.2 i).1 (by omega)))
  have HF := Lib.hid hF; clear hF
  have HD := Lib.hid hd; clear hd
  have HS := Lib.hid (show ¬ S p ∧ ¬ S fb ∧ ¬ S mb from ⟨h1, h2, h3⟩); clear h1 h2 h3
  have HM := Lib.hid hm; clear hm
  have HML := Lib.hid h.ltM
  clear h
  go_enter Try.func31, Try.ntmps31
  go_wp2_with (refine wpList_len_run rfl _ 46 rfl (.map (some mb)) _ (by rfl) hl ?_)
  refine HT.out.mono ?_
  rintro e w1 ⟨hand', fr', hG, hL, hK, he⟩
  have HL := Lib.hid hL; clear hL
  have HG := Lib.hid hG; clear hG
  have HK := Lib.hid hK; clear hK
  rcases he with ⟨rfl, ha⟩ | ⟨i, f, hi, hf, hp, rfl⟩
  · have HA := Lib.hid ha; clear ha
    go_wp2
    go_ret
    exact ⟨hand', fr', HL.out, .inl ⟨rfl, HG.out, HA.out, HK.out⟩⟩
  · unfold ptrFr
    have c1 := HG.out.c1
    obtain ⟨_, hFr, hfb, hfq⟩ := HG.out.at_ i f hf
    have hd1 : DiskAt S d ops w1 := HD.out.kept HK.out (fun k _ hs e => by rcases e with rfl | rfl; exact HS.out.1 hs; exact HS.out.2.1 hs)
    have HSV := Lib.hid (save_any fb (i * 516) d f S ops w1 hd1 hlen hFr hfq hfb HG.out.froz HS.out.2.1)
    clear hFr hfb hfq hd1
    have HFF := Lib.hid hf; clear hf
    have HP := Lib.hid hp; clear hp
    go_wp2_with fail
    refine HSV.out.mono ?_
    rintro e w2 ⟨rfl, hs⟩
    have h2 : ∃ f', f'.page = f.page ∧ PoolG p d fb mb n hand' m (upd fr' i (some f')) w2 ∧ Kept (fun k => S k ∨ k = p ∨ k = fb ∨ k = mb) w w2 ∧ ∃ S', DiskAt S' d (saved f ops) w2 ∧ ∀ k, S' k → S k ∨ w.heap.size ≤ k := by
      have hK1 : Kept (fun k => S k ∨ k = p ∨ k = fb ∨ k = mb) w w1 := HK.out.mono (fun k hk => hk.elim (fun h => .inr (.inl h)) (fun h => .inr (.inr (.inl h))))
      rcases hs with ⟨hc, rfl⟩ | ⟨hc, w3, g1, g2, rfl⟩
      · refine ⟨f, rfl, ?_, hK1, S, ?_, fun k hk => .inl hk⟩
        · have : upd fr' i (some f) = fr' := by
            funext j
            by_cases hj : j = i
            · subst hj; rw [upd_same]; exact HFF.out.symm
            · rw [upd_other _ _ hj]
          rw [this]; exact HG.out
        · rw [saved, hc]
          exact HD.out.kept HK.out (fun k _ hs e => by rcases e with rfl | rfl; exact HS.out.1 hs; exact HS.out.2.1 hs)
      · have hG3 := HG.out.kept g2 HS.out.1 HS.out.2.1 HS.out.2.2
        obtain ⟨_, hFr, hfb, _⟩ := hG3.at_ i f HFF.out
        have hfar : ∀ j, j ≠ 3 → (w3.setCell ⟨fb, i * 516 + 3, none⟩ (.bool false)).cell? ⟨fb, i * 516 + j, none⟩ = w3.cell? ⟨fb, i * 516 + j, none⟩ := fun j hj => World.cell?_setCell_other _ _ _ _ (fun e => by injection e with _ e _; omega)
        refine ⟨{ f with changed := false }, rfl, ?_, ?_, More S w1.heap.size, ?_, ?_⟩
        · refine hG3.turnFr HFF.out (Touch.setCell w3 _ (by omega) (by omega)) (Kept.setCell (fun k => k = fb) w3 (b := fb) rfl _) (FrAt.mk ((hfar 0 (by omega)).trans hFr.page) ((hfar 1 (by omega)).trans hFr.pins) ((hfar 2 (by omega)).trans hFr.lately) ?_ (fun j v hv => ?_)) hfb rfl
          · exact World.cell?_setCell_same _ _ _ hFr.changed
          · rw [show i * 516 + 4 + j = i * 516 + (4 + j) by omega, hfar (4 + j) (by omega), ← Nat.add_assoc]
            exact hFr.bytes j v hv
        · exact (hK1.trans g2 (fun k hk => .inl (.inl hk))).trans (Kept.setCell (fun k => k = fb) w3 (b := fb) rfl _) (fun k hk => .inl (.inr (.inr (.inl hk))))
        · rw [saved, if_pos hc]
          refine g1.kept (Kept.setCell (fun k => k = fb) w3 (b := fb) rfl _) (fun k _ hs e => ?_)
          subst e
          rcases hs with hs | hs
          · exact HS.out.2.1 hs
          · have := HG.out.ltF; omega
        · rintro k (hk | hk)
          · exact .inl hk
          · have := HK.out.size; exact .inr (by omega)
    clear hs
    obtain ⟨f', hpg, hG2, hK2, S', hD2, hS2⟩ := h2
    have hu : upd fr' i (some f') i = some f' := upd_same _ _ _
    obtain ⟨_, hFr, _, hfq⟩ := hG2.at_ i f' hu
    have d3 := hG2.c3
    have p0 := hFr.page
    obtain ⟨m0, hm0⟩ : ∃ m0, m = m0 + 1 := ⟨m - 1, by have := HM.out; omega⟩
    have hG3 : PoolG p d fb mb n hand' (m0 + 1) (upd fr' i (some f')) w2.drew := by rw [← hm0]; exact hG2.block rfl rfl rfl
    obtain ⟨w4, hr, hG4, hK4⟩ := hG3.remove hu 0
    rw [hpg] at hr p0
    obtain ⟨q, hq⟩ : ∃ q, q = f.page := ⟨_, rfl⟩
    rw [← hq] at p0 hr
    have hend : SparePost S p d fb mb n m fr ops w (.returned (ptrFr fb i)) w4 := by
      refine ⟨hand', fr', HL.out, .inr ⟨i, f, S', hi, HFF.out, HP.out, rfl, ?_, ?_, ?_, hS2⟩⟩
      · have : upd (upd fr' i (some f')) i none = upd fr' i none := by
          funext j
          by_cases hj : j = i
          · subst hj; rw [upd_same, upd_same]
          · rw [upd_other _ _ hj, upd_other _ _ hj, upd_other _ _ hj]
        rw [this] at hG4
        rw [hm0]; exact hG4
      · refine (hD2.below (w' := w2.drew) ⟨rfl, rfl, rfl, Nat.le_refl _, fun _ _ => rfl⟩).kept hK4 (fun k _ hs e => ?_)
        subst e
        rcases hS2 _ hs with h | h
        · exact HS.out.2.2 h
        · have := HML.out
          omega
      · exact (hK2.trans (Kept.ofBelow (S := fun _ => False) (b := w2.drew) ⟨rfl, rfl, rfl, Nat.le_refl _, fun _ _ => rfl⟩) (fun _ h => h.elim)).trans hK4 (fun k hk => .inl (.inr (.inr (.inr hk))))
    have HE := Lib.hid hend
    unfold ptrFr at HE
    clear hend hG2 hK2 hD2 hS2 hu hFr hfq hG3 hG4 hK4 hpg hm0 hq
    go_wp2
    go_still_tail 8, (by kernel_rfl)
    go_wp2_with (refine wpList_delete_run rfl _ _ 46 3 rfl _ _ (by rfl) (by rfl) hr ?_)
    go_ret
    exact HE.out
end Go.Proofs.Ytnmeobbbcccgjaa
