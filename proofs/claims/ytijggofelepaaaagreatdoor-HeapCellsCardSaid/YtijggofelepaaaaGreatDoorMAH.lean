/- Texts of the same proof, one behind the other: SF, SG, SH, SI, SK, SN. -/
import Derived.Test.YtijggofelepaaaaGreatDoorMAG
import Derived.Lib.Builder
/- The calls on an action that nobody began, or that is over; what ends one; roots. -/
set_option maxRecDepth 100000
namespace Go.Proofs.YtijggofelepaaaaGreatDoor
open Go.RowKit

section
variable {P : Program} {w w' : World} {ops : Array Oper} {rest : List Oper} {o : Oper} {a : Act} {Q : Exit → Act → World → Prop}
/-- An operation whose run is known. -/
theorem wpList_val (hg : o.guard = none) (v : Value) (hr : (execOp a.eval o).run P w = .ok (.value v) w') (h : wpList P ops Q rest (a.put o.dst v) w') : wpList P ops Q (o :: rest) a w :=
  wpList_plain hg fun K hK => by unfold Oper.wp; rw [hr]; exact hK _ _ h
end

set_option maxHeartbeats 400000 in
theorem arefuses_live (a s : Nat) (w : World) (h0 : w.cell? ⟨a, 0, none⟩ = some (.pointer (some ⟨a, 0, none⟩))) (h1 : w.cell? ⟨a, 1, none⟩ = some (.pointer (some ⟨s, 1, none⟩))) (h2 : w.cell? ⟨s, 85, none⟩ = some (.pointer (some ⟨a, 0, none⟩))) :
    Calls Tryz.prog 39 #[.pointer (some ⟨a, 0, none⟩)] w fun e w' => e = .returned (.int .i64 0) ∧ w' = w := by
  obtain ⟨j, hj, _⟩ := Option.map_eq_some_iff.1 sizeAc
  have hq := Lib.run_neq_ptr_same (P := Tryz.prog) w (tp := 28) (te := 40) ⟨a, 0, none⟩ Tryz.underlying28 hj
  go_enter Tryz.func39, Tryz.ntmps39
  go_wp2
  go_ret
  exact ⟨rfl, rfl⟩

/-- What refuses all calls, with a code. -/
def Refused (v : Value) (c : Int) (w : World) : Prop := Calls Tryz.prog 39 #[v] w fun e w' => e = .returned (.int .i64 c) ∧ w' = w

section
variable (v : Value) (c : Int) (w : World) (hc : c = 1 ∨ c = 5) (hp : Refused v c w)
include hc hp

set_option maxHeartbeats 400000 in
theorem aroot_code (q : Int) : Calls Tryz.prog 12 #[v, .int .i64 q] w fun e w' => e = .returned (.tuple #[.int .i64 0, .int .i64 c]) ∧ w' = w := by
  have HP : Hid (Calls Tryz.prog 39 #[v] w fun e w' => e = .returned (.int .i64 c) ∧ w' = w) := Lib.hid hp; clear hp
  rcases hc with rfl | rfl
  all_goals
    go_enter Tryz.func12, Tryz.ntmps12
    go_wp2_with fail
    refine HP.out.mono ?_
    rintro e w' ⟨rfl, hw⟩
    subst w'
    go_wp2
    go_ret2
    exact ⟨rfl, rfl⟩
end

/-! ### What ends an action -/
set_option maxHeartbeats 400000 in
theorem end_any (a s d l p : Nat) (h last : Hd) (dv : Value) (cur : Option Nat) (w : World) (x : ActAt w a s h dv) (y : SpaceAt w s d l p last cur) (k : h.Ok) (kl : last.Ok) (hne : a ≠ s) :
    Calls Tryz.prog 40 #[.pointer (some ⟨a, 0, none⟩)] w fun e w' => e = .returned (.tuple #[]) ∧ ActAt w' a s h (.map none) ∧ SpaceAt w' s d l p last none ∧ Kept (fun k => k = s ∨ k = a) w w' := by
  have HE : Hid (ActAt ((w.setCell ⟨s, 85, none⟩ (.pointer none)).setCell ⟨a, 83, none⟩ (.map none)) a s h (.map none) ∧ SpaceAt ((w.setCell ⟨s, 85, none⟩ (.pointer none)).setCell ⟨a, 83, none⟩ (.map none)) s d l p last none ∧ Kept (fun k => k = s ∨ k = a) w ((w.setCell ⟨s, 85, none⟩ (.pointer none)).setCell ⟨a, 83, none⟩ (.map none))) := Lib.hid (by
    have h1 : ActAt (w.setCell ⟨s, 85, none⟩ (.pointer none)) a s h dv := x.block (Below.heap_setCell _ _ _ _ hne)
    have h2 : SpaceAt (w.setCell ⟨s, 85, none⟩ (.pointer none)) s d l p last none := y.setCur kl none
    exact ⟨h1.setDr k _, h2.block (Below.heap_setCell _ _ _ _ (fun e => hne e.symm)), (Kept.setCell (fun k => k = s ∨ k = a) w (b := s) (.inl rfl) _).trans (Kept.setCell (fun k => k = s ∨ k = a) _ (b := a) (.inr rfl) _) (fun _ hi => .inl hi)⟩)
  have c1 := x.st
  have c2 := y.cur_
  have f1 := y.froz 85
  have c3 := x.dr
  have f2 := x.froz 83
  have hne2 : ¬ s = a := fun e => hne e.symm
  clear x y k kl
  go_enter Tryz.func40, Tryz.ntmps40
  go_wp2
  go_end0
  exact ⟨rfl, HE.out⟩

/-! ### Roots -/
set_option maxHeartbeats 400000 in
theorem aroot_good (a : Nat) (h : Hd) (q : Nat) (w : World) (hr : Refused (.pointer (some ⟨a, 0, none⟩)) 0 w) (x : HdAt w a 2 h) (k : h.Ok) (hq : q < 16) :
    Calls Tryz.prog 12 #[.pointer (some ⟨a, 0, none⟩), .int .i64 q] w fun e w' => e = .returned (.tuple #[.int .i64 (h.root q), .int .i64 0]) ∧ w' = w := by
  have HR : Hid (Calls Tryz.prog 39 #[.pointer (some ⟨a, 0, none⟩)] w fun e w' => e = .returned (.int .i64 0) ∧ w' = w) := Lib.hid hr; clear hr
  have h1 := isRoot_any q w
  rw [decide_eq_true (by omega)] at h1
  have HI := Lib.hid h1; clear h1
  have hc := x.root k hq
  rw [show 2 + 65 + q = 67 + q by omega] at hc
  obtain ⟨r, hr⟩ : ∃ r, r = h.root q := ⟨_, rfl⟩
  rw [← hr] at hc ⊢
  have hq16 : (q : Int) < 16 := by omega
  clear x k hr
  go_enter Tryz.func12, Tryz.ntmps12
  go_wp2_with fail
  refine HR.out.mono ?_
  rintro e w' ⟨rfl, hw⟩
  subst w'
  go_wp2_with fail
  refine HI.out.mono ?_
  rintro e w' ⟨rfl, hw⟩
  subst w'
  go_wp2
  go_ret2
  exact ⟨rfl, rfl⟩
end Go.Proofs.YtijggofelepaaaaGreatDoor

/- Drafts of pages in a map; an action that goes on: SetRoot, Alloc, Free. -/
set_option maxRecDepth 100000
namespace Go.Proofs.YtijggofelepaaaaGreatDoor
open Go.RowKit Go.Maps

theorem PMap.del_none {w : World} {b m : Nat} {F : Int → Option Value} (h : PMap w b m F) {t e : TypeId} (ht : Tryz.prog.underlying t = some (.map 3 e)) (q : Int) (hq : (Lit.int .i64 q).wf = true) (hF : F q = none) (ty : TypeId) :
    ∃ w', (Builtin.delete_ #[t, 3] ty #[.map (some b), .int .i64 q]).run Tryz.prog w = .ok (.tuple #[]) w' ∧ PMap w' b m F ∧ w.mapTurned w' b := by
  obtain ⟨D, h1, h2, h3⟩ := h
  obtain ⟨w', hr, ho, ht'⟩ := h1.drop keyI ht (keyOf_int_mk (P := Tryz.prog) Tryz.underlying3 hq) ty
  have hn : Maps.has D (.int .i64 q) = false := by
    rcases h3 q hq with ⟨_, hn⟩ | ⟨u, hu, _⟩
    · exact hn
    · rw [hF] at hu; cases hu
  have hsz : Maps.size (D.del (.int .i64 q)) = m := by
    have := Maps.size_del (k := .int .i64 q) (h1.tidy keyI)
    rw [hn, h2] at this
    simpa using this
  refine ⟨w', hr, ⟨_, by rw [← hsz]; exact own_size ho, hsz, fun i hi => ?_⟩, ht'⟩
  by_cases hiq : i = q
  · subst hiq
    exact .inl ⟨hF, Maps.has_del_same⟩
  · have hne : (Lit.int .i64 i) ≠ .int .i64 q := fun e => hiq (by injection e)
    rw [Maps.has_del_other hne]
    exact (h3 i hi).imp id (fun ⟨u, hu, h4, h5⟩ => ⟨u, hu, h4, fun z => by rw [Maps.atKey_del_other hne]; exact h5 z⟩)

/-- A draft. -/
structure Dr where
  blk : Nat
  fresh : Bool
  was : List UInt8
  now : List UInt8
def Dr.cells (x : Dr) : List Value := .bool x.fresh :: (Lib.byteCells x.was ++ Lib.byteCells x.now)
theorem Dr.cells_length (x : Dr) (h1 : x.was.length = 512) (h2 : x.now.length = 512) : x.cells.length = 1025 := by simp [Dr.cells, Lib.byteCells_length, h1, h2]
def noughts : List UInt8 := List.replicate 512 0
theorem noughts_length : noughts.length = 512 := by simp [noughts]
def Dr.ptr (x : Dr) : Value := .pointer (some ⟨x.blk, 0, none⟩)

/-- Drafts by their pages: m of them, in the map at block db. -/
structure DraftsAt (w : World) (db m : Nat) (D : Nat → Option Dr) : Prop where
  map : ∃ F, PMap w db m F ∧ (∀ q x, D q = some x → F q = some x.ptr) ∧ ∀ q v, F q = some v → ∃ (n : Nat) (x : Dr), (n : Int) = q ∧ D n = some x ∧ v = x.ptr
  at_ : ∀ q x, D q = some x → q < 4096 ∧ w.rangeAt x.blk 0 x.cells ∧ (∀ j, w.frozen? ⟨x.blk, j, none⟩ = false) ∧ x.was.length = 512 ∧ x.now.length = 512 ∧ x.blk ≠ db ∧ x.blk < w.heap.size
  one : ∀ q q' x y, D q = some x → D q' = some y → x.blk = y.blk → q = q'

section
variable {w w' : World} {db m : Nat} {D : Nat → Option Dr}
theorem DraftsAt.ltM (h : DraftsAt w db m D) : db < w.heap.size := by
  obtain ⟨F, hF, _⟩ := h.map
  exact hF.lt
theorem DraftsAt.keep (h : DraftsAt w db m D) (h1 : w'.heap[db]? = w.heap[db]?) (h2 : ∀ q x, D q = some x → w'.heap[x.blk]? = w.heap[x.blk]?) : DraftsAt w' db m D := by
  obtain ⟨F, hF, h4, h5⟩ := h.map
  refine ⟨⟨F, hF.block h1, h4, h5⟩, fun q x hq => ?_, h.one⟩
  obtain ⟨a, b, c, d, e, f, g⟩ := h.at_ q x hq
  have hb := h2 q x hq
  exact ⟨a, fun j v hv => (World.cell?_of_block hb).trans (b j v hv), fun j => (World.frozen?_of_block hb).trans (c j), d, e, f, by
    have : x.blk < w'.heap.size := by
      rw [Array.getElem?_eq_getElem g] at hb
      exact (Array.getElem?_eq_some_iff.1 hb).1
    exact this⟩
theorem DraftsAt.kept {S : Nat → Prop} (h : DraftsAt w db m D) (hk : Kept S w w') (h1 : ¬ S db) (h2 : ∀ q x, D q = some x → ¬ S x.blk) : DraftsAt w' db m D :=
  h.keep (hk.block db h.ltM h1) (fun q x hq => hk.block x.blk (h.at_ q x hq).2.2.2.2.2.2 (h2 q x hq))
theorem DraftsAt.below (h : DraftsAt w db m D) (hk : Below w.heap.size w w') : DraftsAt w' db m D :=
  h.keep (hk.block db h.ltM) (fun q x hq => hk.block x.blk (h.at_ q x hq).2.2.2.2.2.2)

theorem DraftsAt.look (h : DraftsAt w db m D) {q : Nat} {x : Dr} (hq : D q = some x) : (Instr.lookup 38 (.map (some db)) (.int .i64 q) false).run Tryz.prog w = .ok x.ptr w := by
  obtain ⟨F, hF, h4, _⟩ := h.map
  have := hF.look Tryz.underlying38 (by kernel_rfl) q (WalkArith.wf_i64 (by have := (h.at_ q x hq).1; omega))
  rw [this, h4 q x hq]; rfl
theorem DraftsAt.look_none (h : DraftsAt w db m D) {q : Nat} (hq4 : q < 4096) (hq : D q = none) : (Instr.lookup 38 (.map (some db)) (.int .i64 q) false).run Tryz.prog w = .ok (.pointer none) w := by
  obtain ⟨F, hF, _, h5⟩ := h.map
  have := hF.look Tryz.underlying38 (by kernel_rfl) q (WalkArith.wf_i64 (by omega))
  rw [this]
  cases hv : F q with
  | none => rfl
  | some v =>
    obtain ⟨n, x, e, hx, _⟩ := h5 q v hv
    have : n = q := by omega
    subst this
    rw [hq] at hx; cases hx

/-- A draft comes in. -/
theorem DraftsAt.put (h : DraftsAt w db m D) (hm : m < 4611686018427387904) {q : Nat} (hq4 : q < 4096) (hq : D q = none) (x : Dr) (hr : w.rangeAt x.blk 0 x.cells) (hf : ∀ j, w.frozen? ⟨x.blk, j, none⟩ = false) (h1 : x.was.length = 512) (h2 : x.now.length = 512) (hdb : x.blk ≠ db) (hlt : x.blk < w.heap.size) (hno : ∀ q y, D q = some y → y.blk ≠ x.blk) :
    ∃ w', (Instr.mapUpdate 38 (.map (some db)) (.int .i64 q) x.ptr).run Tryz.prog w = .ok () w' ∧ DraftsAt w' db (m + 1) (upd D q (some x)) ∧ Kept (fun k => k = db) w w' := by
  obtain ⟨F, hF, h4, h5⟩ := h.map
  have hFq : F q = none := by
    cases hv : F q with
    | none => rfl
    | some v =>
      obtain ⟨n, y, e, hy, _⟩ := h5 q v hv
      have : n = q := by omega
      subst this
      rw [hq] at hy; cases hy
  obtain ⟨w', hr', hF', ht⟩ := hF.put Tryz.underlying38 (by unfold maxLen; omega) q (WalkArith.wf_i64 (by omega)) hFq x.ptr
  have hk : Kept (fun k => k = db) w w' := Kept.ofTurned ht rfl
  refine ⟨w', hr', ⟨⟨_, hF', fun j y hj => ?_, fun j v hj => ?_⟩, fun j y hj => ?_, fun j j' y y' hj hj' e => ?_⟩, hk⟩
  · by_cases hjq : j = q
    · subst hjq; rw [upd_same] at hj; cases hj; exact updI_same _ _ _
    · rw [upd_other _ _ hjq] at hj; rw [updI_other _ _ (by omega)]; exact h4 j y hj
  · by_cases hjq : j = q
    · subst hjq; rw [updI_same] at hj; cases hj; exact ⟨q, x, rfl, upd_same _ _ _, rfl⟩
    · rw [updI_other _ _ hjq] at hj
      obtain ⟨n, y, e1, e2, e3⟩ := h5 j v hj
      exact ⟨n, y, e1, by rw [upd_other _ _ (by omega)]; exact e2, e3⟩
  · have hh : ∀ y : Dr, w.rangeAt y.blk 0 y.cells → (∀ j, w.frozen? ⟨y.blk, j, none⟩ = false) → y.blk ≠ db → y.blk < w.heap.size → w'.rangeAt y.blk 0 y.cells ∧ (∀ j, w'.frozen? ⟨y.blk, j, none⟩ = false) ∧ y.blk < w'.heap.size := fun y a b c d => by
      have hb := hk.block y.blk d c
      exact ⟨fun j v hv => (World.cell?_of_block hb).trans (a j v hv), fun j => (World.frozen?_of_block hb).trans (b j), Nat.lt_of_lt_of_le d hk.size⟩
    by_cases hjq : j = q
    · subst hjq; rw [upd_same] at hj; cases hj
      obtain ⟨a, b, c⟩ := hh x hr hf hdb hlt
      exact ⟨hq4, a, b, h1, h2, hdb, c⟩
    · rw [upd_other _ _ hjq] at hj
      obtain ⟨a, b, c, d, e, f, g⟩ := h.at_ j y hj
      obtain ⟨a', b', c'⟩ := hh y b c f g
      exact ⟨a, a', b', d, e, f, c'⟩
  · by_cases hjq : j = q <;> by_cases hjq' : j' = q
    · omega
    · subst hjq; rw [upd_same] at hj; rw [upd_other _ _ hjq'] at hj'; cases hj; exact absurd e.symm (hno j' y' hj')
    · subst hjq'; rw [upd_same] at hj'; rw [upd_other _ _ hjq] at hj; cases hj'; exact absurd e (hno j y hj)
    · rw [upd_other _ _ hjq] at hj; rw [upd_other _ _ hjq'] at hj'; exact h.one j j' y y' hj hj' e

/-- A draft goes, if there is one. -/
theorem DraftsAt.del (h : DraftsAt w db m D) {q : Nat} (hq4 : q < 4096) (ty : TypeId) :
    ∃ w' m', (Builtin.delete_ #[38, 3] ty #[.map (some db), .int .i64 q]).run Tryz.prog w = .ok (.tuple #[]) w' ∧ DraftsAt w' db m' (upd D q none) ∧ m' ≤ m ∧ Kept (fun k => k = db) w w' := by
  obtain ⟨F, hF, h4, h5⟩ := h.map
  have hrest : ∀ (w' : World) (m' : Nat) (F' : Int → Option Value), PMap w' db m' F' → F' q = none → (∀ j, j ≠ (q : Int) → F' j = F j) → Kept (fun k => k = db) w w' → DraftsAt w' db m' (upd D q none) := fun w' m' F' hF' g1 g2 hk => by
    refine ⟨⟨F', hF', fun j y hj => ?_, fun j v hj => ?_⟩, fun j y hj => ?_, fun j j' y y' hj hj' e => ?_⟩
    · by_cases hjq : j = q
      · subst hjq; rw [upd_same] at hj; cases hj
      · rw [upd_other _ _ hjq] at hj; rw [g2 _ (by omega)]; exact h4 j y hj
    · by_cases hjq : j = q
      · rw [hjq, g1] at hj; cases hj
      · rw [g2 _ hjq] at hj
        obtain ⟨n, y, e1, e2, e3⟩ := h5 j v hj
        exact ⟨n, y, e1, by rw [upd_other _ _ (by omega)]; exact e2, e3⟩
    · by_cases hjq : j = q
      · subst hjq; rw [upd_same] at hj; cases hj
      · rw [upd_other _ _ hjq] at hj
        obtain ⟨a, b, c, d, e, f, g⟩ := h.at_ j y hj
        have hb := hk.block y.blk g f
        exact ⟨a, fun j v hv => (World.cell?_of_block hb).trans (b j v hv), fun j => (World.frozen?_of_block hb).trans (c j), d, e, f, Nat.lt_of_lt_of_le g hk.size⟩
    · by_cases hjq : j = q
      · subst hjq; rw [upd_same] at hj; cases hj
      · by_cases hjq' : j' = q
        · subst hjq'; rw [upd_same] at hj'; cases hj'
        · rw [upd_other _ _ hjq] at hj; rw [upd_other _ _ hjq'] at hj'; exact h.one j j' y y' hj hj' e
  cases hv : F q with
  | none =>
    obtain ⟨w', hr', hF', ht⟩ := hF.del_none Tryz.underlying38 q (WalkArith.wf_i64 (by omega)) hv ty
    have hk : Kept (fun k => k = db) w w' := Kept.ofTurned ht rfl
    exact ⟨w', m, hr', hrest w' m F hF' hv (fun _ _ => rfl) hk, Nat.le_refl _, hk⟩
  | some v =>
    have hm0 : ∃ m0, m = m0 + 1 := by
      obtain ⟨Dd, g1, g2, g3⟩ := hF
      cases m with
      | succ n => exact ⟨n, rfl⟩
      | zero =>
        exfalso
        rcases g3 q (WalkArith.wf_i64 (by omega)) with ⟨e, _⟩ | ⟨u, _, e, _⟩
        · rw [hv] at e; cases e
        · have := Maps.size_del (k := .int .i64 (q : Int)) (g1.tidy keyI)
          rw [e, g2] at this
          simp at this
    obtain ⟨m0, rfl⟩ := hm0
    obtain ⟨w', hr', hF', ht⟩ := hF.del Tryz.underlying38 q (WalkArith.wf_i64 (by omega)) hv ty
    have hk : Kept (fun k => k = db) w w' := Kept.ofTurned ht rfl
    exact ⟨w', m0, hr', hrest w' m0 _ hF' (updI_same _ _ _) (fun j hj => updI_other _ _ hj) hk, by omega, hk⟩
end
end Go.Proofs.YtijggofelepaaaaGreatDoor

/- An action that goes on: SetRoot, Alloc, Free. -/
set_option maxRecDepth 100000
namespace Go.Proofs.YtijggofelepaaaaGreatDoor
open Go.RowKit

/-- An action that goes on, at block a, of the space at block s; last is the space's head, h its own; D its drafts. -/
structure ActSt (w : World) (a s d l p db m : Nat) (last h : Hd) (D : Nat → Option Dr) : Prop where
  sp : SpaceAt w s d l p last (some a)
  ac : ActAt w a s h (.map (some db))
  dr : DraftsAt w db m D
  okl : last.Ok
  ok : h.Ok
  has : ∀ q x, D q = some x → h.has q
  ne : a ≠ s ∧ a ≠ db ∧ s ≠ db
  blk : ∀ q x, D q = some x → x.blk ≠ a ∧ x.blk ≠ s

section
variable {w w' : World} {a s d l p db m : Nat} {last h : Hd} {D : Nat → Option Dr}
theorem ActSt.live (x : ActSt w a s d l p db m last h D) : Refused (.pointer (some ⟨a, 0, none⟩)) 0 w := arefuses_live a s w x.ac.self x.ac.st x.sp.cur_
theorem ActSt.below (x : ActSt w a s d l p db m last h D) (hb : Below w.heap.size w w') : ActSt w' a s d l p db m last h D :=
  ⟨x.sp.below hb, x.ac.below hb, x.dr.below hb, x.okl, x.ok, x.has, x.ne, x.blk⟩
/-- Whatever is no action's may turn. -/
theorem ActSt.kept {S : Nat → Prop} (x : ActSt w a s d l p db m last h D) (hk : Kept S w w') (h1 : ¬ S a) (h2 : ¬ S s) (h3 : ¬ S db) (h4 : ∀ q x, D q = some x → ¬ S x.blk) : ActSt w' a s d l p db m last h D :=
  ⟨x.sp.kept hk h2, x.ac.kept hk h1, x.dr.kept hk h3 h4, x.okl, x.ok, x.has, x.ne, x.blk⟩
/-- The head has turned, and nothing besides. -/
theorem ActSt.turnHd (x : ActSt w a s d l p db m last h D) {h' : Hd} (hd : HdAt w' a 2 h') (ht : Touch a 2 81 w w') (hk : Kept (fun k => k = a) w w') (k : h'.Ok) (hh : ∀ q x, D q = some x → h'.has q) : ActSt w' a s d l p db m last h' D :=
  ⟨x.sp.kept hk (fun e => x.ne.1 e.symm), x.ac.turnHd hd ht, x.dr.kept hk (fun e => x.ne.2.1 e.symm) (fun q y hq => (x.blk q y hq).1), x.okl, k, hh, x.ne, x.blk⟩

/-! ### SetRoot -/
theorem Hd.Ok.setRoot {h : Hd} (k : h.Ok) {i x : Nat} (hi : i < 16) (hx : x < 2147483648) : (h.setRoot i x).Ok :=
  ⟨k.nf, by simp [Hd.setRoot, k.nr], k.cnt, k.lt, fun j => by
    rw [Hd.root_setRoot h k i x j hi]
    split
    · exact hx
    · exact k.rt j, k.in_⟩

set_option maxHeartbeats 800000 in
theorem asetRoot_good (q n : Nat) (x : ActSt w a s d l p db m last h D) (hq : q < 16) (hn : n < 2147483648) :
    Calls Tryz.prog 15 #[.pointer (some ⟨a, 0, none⟩), .int .i64 q, .int .i64 n] w fun e w' => e = .returned (.int .i64 0) ∧ ActSt w' a s d l p db m last (h.setRoot q n) D ∧ Kept (fun k => k = a) w w' := by
  have HR : Hid (Calls Tryz.prog 39 #[.pointer (some ⟨a, 0, none⟩)] w fun e w' => e = .returned (.int .i64 0) ∧ w' = w) := Lib.hid x.live
  have h1 := isRoot_any q w
  rw [decide_eq_true (by omega)] at h1
  have HI := Lib.hid h1; clear h1
  have hc := x.ac.hd.root x.ok hq
  have hf := x.ac.froz (2 + 65 + q)
  have HE : Hid (ActSt (w.setCell ⟨a, 2 + 65 + q, none⟩ (.int .i64 n)) a s d l p db m last (h.setRoot q n) D ∧ Kept (fun k => k = a) w (w.setCell ⟨a, 2 + 65 + q, none⟩ (.int .i64 n))) := Lib.hid (by
    have hk : Kept (fun k => k = a) w (w.setCell ⟨a, 2 + 65 + q, none⟩ (.int .i64 n)) := Kept.setCell (fun k => k = a) w (b := a) rfl _
    refine ⟨x.turnHd ?_ (Touch.setCell (fb := a) (o := 2) (n := 81) (i := 2 + 65 + q) w _ (by omega) (by omega)) hk (x.ok.setRoot hq hn) (fun j y hj => x.has j y hj), hk⟩
    have := x.ac.hd.set (h' := h.setRoot q n) (i := 65 + q) (v := .int .i64 n) (by rw [Hd.cells_length x.ok]; omega) (Hd.cells_setRoot x.ok n)
    rwa [← Nat.add_assoc] at this)
  rw [show 2 + 65 + q = 67 + q by omega] at hc hf HE
  have hq16 : (q : Int) < 16 := by omega
  have hn31 : (n : Int) ≤ 2147483647 := by omega
  obtain ⟨r, hr⟩ : ∃ r, r = h.root q := ⟨_, rfl⟩
  rw [← hr] at hc
  clear x hr
  go_enter Tryz.func15, Tryz.ntmps15
  go_wp2_with fail
  refine HR.out.mono ?_
  rintro e w' ⟨rfl, hw⟩
  subst w'
  go_wp2_with fail
  refine HI.out.mono ?_
  rintro e w' ⟨rfl, hw⟩
  subst w'
  go_wp2
  go_ret
  exact ⟨rfl, HE.out⟩

/-! ### Alloc -/
theorem built_fresh : Tryz.prog.built 103 [(0, .bool true)] = some (Dr.cells ⟨0, true, noughts, noughts⟩).toArray := by kernel_rfl

/-- What Alloc leaves. -/
def AllocPost (a s d l p db m : Nat) (last h : Hd) (D : Nat → Option Dr) (w : World) (e : Ending) (w' : World) : Prop :=
  (∃ q h' b, h.NextIs q h' ∧ e = .returned (.tuple #[.int .i64 q, .int .i64 0]) ∧ w.heap.size ≤ b ∧ ActSt w' a s d l p db (m + 1) last h' (upd D q (some ⟨b, true, noughts, noughts⟩)) ∧ Kept (fun k => k = a ∨ k = db) w w') ∨
  ((∀ j, h.isFree j = false) ∧ h.count = 4095 ∧ e = .returned (.tuple #[.int .i64 0, .int .i64 2]) ∧ w' = w)

set_option maxHeartbeats 1600000 in
theorem aalloc_live (x : ActSt w a s d l p db m last h D) (hT : Tab w) (hm : m < 4611686018427387904) :
    Calls Tryz.prog 11 #[.pointer (some ⟨a, 0, none⟩)] w (AllocPost a s d l p db m last h D w) := by
  have HR : Hid (Calls Tryz.prog 39 #[.pointer (some ⟨a, 0, none⟩)] w fun e w' => e = .returned (.int .i64 0) ∧ w' = w) := Lib.hid x.live
  have HT := Lib.hid (take_any a 2 h w x.ac.hd x.ok hT x.ac.froz)
  have HX := Lib.hid x
  have c83 : ∀ W, Touch a 2 81 w W → W.cell? ⟨a, 83, none⟩ = some (.map (some db)) := fun W ht => (ht.out 83 (by omega)).trans HX.out.ac.dr
  have HC := Lib.hid c83
  obtain ⟨Y, hY⟩ : ∃ Y : Array Value, Y = (Dr.cells ⟨0, true, noughts, noughts⟩).toArray := ⟨_, rfl⟩
  have HB := Lib.hid built_fresh
  rw [← hY] at HB
  have HY := Lib.hid hY
  clear x hT c83 hY
  go_enter Tryz.func11, Tryz.ntmps11
  go_wp2_with fail
  refine HR.out.mono ?_
  rintro e w' ⟨rfl, hw⟩
  subst w'
  go_wp2_with fail
  refine HT.out.mono ?_
  rintro e w1 (⟨q, h', hn, rfl, hd, ht, hk⟩ | ⟨h1, h2, rfl, hw⟩)
  · obtain ⟨k', hq1, hq4, hno, hhas, _⟩ := hn.spec HX.out.ok
    have hq0 : ((q : Int) == 0) = false := by simp; omega
    have c83 := HC.out w1 ht
    have hX1 : ActSt w1 a s d l p db m last h' D := HX.out.turnHd hd ht hk k' (fun j y hj => (hhas j).2 (.inl (HX.out.has j y hj)))
    have hDq : D q = none := by
      cases hv : D q with
      | none => rfl
      | some y => exact absurd (HX.out.has q y hv) hno
    obtain ⟨w2, hw2⟩ : ∃ w2, w2 = w1.alloc (.cells Y 103) := ⟨_, rfl⟩
    have hb2 : Below w1.heap.size w1 w2 := by rw [hw2]; exact (Below.refl _ _).alloc (Nat.le_refl _) _
    have hX2 := hX1.below hb2
    have hnew : w2.heap[w1.heap.size]? = some (.cells Y 103 (0, 0)) := by rw [hw2]; exact heap_alloc_new w1 _
    have hrg : w2.rangeAt w1.heap.size 0 (Dr.cells ⟨w1.heap.size, true, noughts, noughts⟩) := fun j v hv => by
      rw [Nat.zero_add, Lib.cell_of_heap hnew, HY.out, List.getElem?_toArray]; exact hv
    have hsz := hk.size
    have hdl := hX1.dr.ltM
    obtain ⟨w3, hr, hD3, hk3⟩ := hX2.dr.put hm hq4 hDq ⟨w1.heap.size, true, noughts, noughts⟩ hrg (fun j => Lib.frozen_of_heap hnew _) noughts_length noughts_length (by show w1.heap.size ≠ db; omega) (by show w1.heap.size < w2.heap.size; rw [hw2]; simp) (fun j y hj => by
      have := (hX1.dr.at_ j y hj).2.2.2.2.2.2
      show y.blk ≠ w1.heap.size
      omega)
    have hend : AllocPost a s d l p db m last h D w (.returned (.tuple #[.int .i64 q, .int .i64 0])) w3 := by
      refine .inl ⟨q, h', w1.heap.size, hn, rfl, hsz, ⟨hX2.sp.kept hk3 hX2.ne.2.2, hX2.ac.kept hk3 hX2.ne.2.1, hD3, hX2.okl, k', fun j y hj => ?_, hX2.ne, fun j y hj => ?_⟩, ?_⟩
      · by_cases hjq : j = q
        · exact (hhas j).2 (.inr hjq)
        · rw [upd_other _ _ hjq] at hj; exact hX2.has j y hj
      · by_cases hjq : j = q
        · subst hjq; rw [upd_same] at hj; cases hj
          have h1 := hX1.ac.lt; have h2 := hX1.sp.lt
          show w1.heap.size ≠ a ∧ w1.heap.size ≠ s
          omega
        · rw [upd_other _ _ hjq] at hj; exact hX2.blk j y hj
      · exact ((hk.mono (T := fun k => k = a ∨ k = db) (fun k e => .inl e)).trans (Kept.ofBelow (S := fun k => k = a ∨ k = db) hb2) (fun _ hi => .inl hi)).trans (hk3.mono (T := fun k => k = a ∨ k = db) (fun k e => .inr e)) (fun _ hi => .inl hi)
    have HE := Lib.hid hend
    rw [hw2] at hr
    have hr' : (Instr.mapUpdate 38 (.map (some db)) (.int .i64 q) (.pointer (some ⟨w1.heap.size, 0, none⟩))).run Tryz.prog (w1.alloc (.cells Y 103)) = .ok () w3 := hr
    have HRR := Lib.hid hr'
    clear hd ht hk hn k' hq1 hq4 hno hhas hX1 hDq hw2 hb2 hX2 hnew hrg hr hD3 hk3 hend hr' hsz hdl
    go_wp2_with (first
      | (refine wpList_val rfl (.agg Y) (exec_build rfl _ (by simp [go_sem]) Y HB.out w1) ?_)
      | (refine wpList_mapUpdate_run rfl _ _ _ 38 rfl _ _ _ (by rfl) (by rfl) (by rfl) HRR.out ?_))
    go_ret2
    exact HE.out
  · subst w1
    have HE := Lib.hid (show AllocPost a s d l p db m last h D w (.returned (.tuple #[.int .i64 0, .int .i64 2])) w from .inr ⟨h1, h2, rfl, rfl⟩)
    clear h1 h2
    go_wp2
    go_ret2
    exact HE.out

/-! ### Free -/
set_option maxHeartbeats 800000 in
theorem refusesPage_live (q : Int) (x : ActSt w a s d l p db m last h D) :
    Calls Tryz.prog 41 #[.pointer (some ⟨a, 0, none⟩), .int .i64 q] w fun e w' => e = .returned (.int .i64 (if 1 ≤ q ∧ h.has q.toNat then 0 else 3)) ∧ w' = w := by
  have HR : Hid (Calls Tryz.prog 39 #[.pointer (some ⟨a, 0, none⟩)] w fun e w' => e = .returned (.int .i64 0) ∧ w' = w) := Lib.hid x.live
  have h1 := has_any a 2 h q w x.ac.hd x.ok
  by_cases hq : 1 ≤ q ∧ h.has q.toNat
  · rw [decide_eq_true hq] at h1
    rw [if_pos hq]
    have HI := Lib.hid h1; clear h1 hq x
    go_enter Tryz.func41, Tryz.ntmps41
    go_wp2_with fail
    refine HR.out.mono ?_
    rintro e w' ⟨rfl, hw⟩
    subst w'
    go_wp2_with fail
    refine HI.out.mono ?_
    rintro e w' ⟨rfl, hw⟩
    subst w'
    go_wp2
    go_ret
    exact ⟨rfl, rfl⟩
  · rw [decide_eq_false hq] at h1
    rw [if_neg hq]
    have HI := Lib.hid h1; clear h1 hq x
    go_enter Tryz.func41, Tryz.ntmps41
    go_wp2_with fail
    refine HR.out.mono ?_
    rintro e w' ⟨rfl, hw⟩
    subst w'
    go_wp2_with fail
    refine HI.out.mono ?_
    rintro e w' ⟨rfl, hw⟩
    subst w'
    go_wp2
    go_ret
    exact ⟨rfl, rfl⟩

set_option maxHeartbeats 1600000 in
theorem afree_live (q : Nat) (x : ActSt w a s d l p db m last h D) (hq : h.has q) :
    Calls Tryz.prog 14 #[.pointer (some ⟨a, 0, none⟩), .int .i64 q] w fun e w' => e = .returned (.int .i64 0) ∧ (∃ m', m' ≤ m ∧ ActSt w' a s d l p db m' last (h.turn q) (upd D q none)) ∧ Kept (fun k => k = a ∨ k = db) w w' := by
  have h1 := refusesPage_live q x
  have hq1 := hq.1
  have hq4 : q < 4096 := by have := hq.2.1; have := x.ok.cnt; omega
  rw [if_pos (by rw [Int.toNat_natCast]; exact ⟨by omega, hq⟩)] at h1
  have HP := Lib.hid h1
  have HT := Lib.hid (hturn_any a 2 h q w x.ac.hd x.ok hq4 x.ac.froz)
  have HX := Lib.hid x
  have HQ := Lib.hid hq
  have hq0 : (0 : Int) ≤ q := by omega
  have hq5 : (q : Int) < 4096 := by omega
  clear h1 x hq
  go_enter Tryz.func14, Tryz.ntmps14
  go_wp2_with fail
  refine HP.out.mono ?_
  rintro e w' ⟨rfl, hw⟩
  subst w'
  go_wp2_with fail
  refine HT.out.mono ?_
  rintro e w1 ⟨rfl, hd, ht, hk⟩
  have c83 : w1.cell? ⟨a, 83, none⟩ = some (.map (some db)) := (ht.out 83 (by omega)).trans HX.out.ac.dr
  have hdr := HX.out.dr.kept hk (fun e => HX.out.ne.2.1 e.symm) (fun j y hj => (HX.out.blk j y hj).1)
  obtain ⟨w2, m', hr, hD2, hm, hk2⟩ := hdr.del hq4 0
  have hend : (∃ m', m' ≤ m ∧ ActSt w2 a s d l p db m' last (h.turn q) (upd D q none)) ∧ Kept (fun k => k = a ∨ k = db) w w2 := by
    have hok := HX.out.ok.turn hq4 ⟨hq1, HQ.out.2.1⟩
    refine ⟨⟨m', hm, (HX.out.sp.kept hk (fun e => HX.out.ne.1 e.symm)).kept hk2 HX.out.ne.2.2, (HX.out.ac.turnHd hd ht).kept hk2 HX.out.ne.2.1, hD2, HX.out.okl, hok, fun j y hj => ?_, HX.out.ne, fun j y hj => ?_⟩, (hk.mono (T := fun k => k = a ∨ k = db) (fun k e => .inl e)).trans (hk2.mono (T := fun k => k = a ∨ k = db) (fun k e => .inr e)) (fun _ hi => .inl hi)⟩
    · by_cases hjq : j = q
      · subst hjq; rw [upd_same] at hj; cases hj
      · rw [upd_other _ _ hjq] at hj
        have := HX.out.has j y hj
        refine ⟨this.1, this.2.1, ?_⟩
        rw [Hd.isFree_turn HX.out.ok hq4, if_neg hjq]
        exact this.2.2
    · by_cases hjq : j = q
      · subst hjq; rw [upd_same] at hj; cases hj
      · rw [upd_other _ _ hjq] at hj; exact HX.out.blk j y hj
  have HE := Lib.hid hend
  have HRR := Lib.hid hr
  clear hd ht hk hdr hr hD2 hm hk2 hend
  go_wp2_with (refine wpList_delete_run rfl _ _ 38 3 rfl _ _ (by rfl) (by rfl) HRR.out ?_)
  go_ret
  exact ⟨rfl, HE.out⟩
end
end Go.Proofs.YtijggofelepaaaaGreatDoor

/- Pages of a space without pages; Pinned. -/
set_option maxRecDepth 100000
namespace Go.Proofs.YtijggofelepaaaaGreatDoor
open Go.RowKit

end Go.Proofs.YtijggofelepaaaaGreatDoor

/- Numbers as bytes: what a record is written with. -/
set_option maxRecDepth 100000
namespace Go.Proofs.YtijggofelepaaaaGreatDoor
open Go.RowKit

/-- A number in so many bytes, the highest first. -/
def numB (k n : Nat) : List UInt8 := (List.range k).map fun j => UInt8.ofNat (n / 256 ^ (k - 1 - j))
theorem numB_length (k n : Nat) : (numB k n).length = k := by simp [numB]
theorem numB_get (k n j : Nat) (hj : j < k) : (numB k n)[j]? = some (UInt8.ofNat (n / 256 ^ (k - 1 - j))) := by simp [numB, hj]

/-- Bytes in a row of their own, from block B on. -/
def OwnB (B : Nat) (w : World) (v : Value) (l : List UInt8) : Prop := w.ownsRow B 5 1 v l.length (Lib.byteCells l)
theorem OwnB.below {B : Nat} {w w' : World} {v : Value} {l : List UInt8} (h : OwnB B w v l) (hb : Below w.heap.size w w') : OwnB B w' v l := ownsRow_below h hb
theorem OwnB.shape {B : Nat} {w : World} {v : Value} {l : List UInt8} (h : OwnB B w v l) : ∃ a c, v = .slice a l.length c := by
  rcases h.2 with ⟨h1, h0⟩ | ⟨g, cap, cur, hv, _⟩
  · exact ⟨none, 0, by rw [h1, h0]⟩
  · exact ⟨_, cap, hv⟩
theorem OwnB.nil (B : Nat) (w : World) : OwnB B w (.slice none 0 0) [] := ⟨rfl, .inl ⟨rfl, rfl⟩⟩

theorem byte_of (n r : Nat) : (n : Int) / 2 ^ (8 * r) % 256 = ((UInt8.ofNat (n / 256 ^ r)).toNat : Int) := by
  have e : (256 : Nat) ^ r = 2 ^ (8 * r) := by rw [show (256 : Nat) = 2 ^ 8 from rfl, ← Nat.pow_mul]
  rw [UInt8.toNat_ofNat', e]
  have : ((2 : Int) ^ (8 * r)) = ((2 ^ (8 * r) : Nat) : Int) := by simp
  rw [this]
  omega

theorem Grew.refl (w : World) (v : Value) : Grew w w v v := ⟨⟨rfl, rfl, rfl, Nat.le_refl _, fun _ _ _ => rfl⟩, fun _ hk => .inl hk⟩
theorem Grew.trans {a b c : World} {u v x : Value} (h : Grew a b u v) (k : Grew b c v x) : Grew a c u x := by
  refine ⟨⟨k.1.os.trans h.1.os, k.1.tape.trans h.1.tape, k.1.output.trans h.1.output, Nat.le_trans h.1.size k.1.size, fun i hi hne => ?_⟩, fun i hi => ?_⟩
  · refine (k.1.block i (Nat.lt_of_lt_of_le hi h.1.size) (fun e => ?_)).trans (h.1.block i hi hne)
    rcases h.2 i e.symm with h1 | h1
    · exact hne h1.symm
    · omega
  · rcases k.2 i hi with h1 | h1
    · exact h.2 i h1
    · exact .inr (Nat.le_trans h.1.size h1)
theorem Grew.ofBelow {a b : World} (h : Below a.heap.size a b) (v : Value) : Grew a b v v := ⟨⟨h.os, h.tape, h.output, h.size, fun i hi _ => h.block i hi⟩, fun _ hk => .inl hk⟩
theorem Grew.below {a b : World} {u v : Value} {B : Nat} (h : Grew a b u v) (hB : B ≤ a.heap.size) (hu : ∀ k, u.ownBlock = some k → B ≤ k) : Below B a b :=
  ⟨h.1.os, h.1.tape, h.1.output, h.1.size, fun i hi => h.1.block i (Nat.lt_of_lt_of_le hi hB) (fun e => by have := hu i e.symm; omega)⟩
theorem ownsRow_base {w : World} {e : TypeId} {sz n B : Nat} {v : Value} {xs : List Value} (h : w.ownsRow 0 e sz v n xs) (hB : ∀ k, v.ownBlock = some k → B ≤ k) : w.ownsRow B e sz v n xs :=
  ⟨h.1, h.2.imp id (fun ⟨g, cap, cur, hv, _, r⟩ => ⟨g, cap, cur, hv, hB g (by rw [hv]; rfl), r⟩)⟩
theorem ownsRow_zero {w : World} {e : TypeId} {sz n B : Nat} {v : Value} {xs : List Value} (h : w.ownsRow B e sz v n xs) : w.ownsRow 0 e sz v n xs :=
  ⟨h.1, h.2.imp id (fun ⟨g, cap, cur, hv, _, r⟩ => ⟨g, cap, cur, hv, Nat.zero_le _, r⟩)⟩
theorem OwnB.lt {B : Nat} {w : World} {v : Value} {l : List UInt8} (h : OwnB B w v l) : ∀ k, v.ownBlock = some k → B ≤ k := fun k hk => (World.ownsRow.lt h k hk).1
theorem Grew.own {B : Nat} {a b : World} {u v : Value} (h : Grew a b u v) (hB : B ≤ a.heap.size) (hu : ∀ k, u.ownBlock = some k → B ≤ k) : ∀ k, v.ownBlock = some k → B ≤ k := fun k hk => (h.2 k hk).elim (hu k) (fun e => Nat.le_trans hB e)

set_option maxHeartbeats 3200000 in
theorem number_grew (v : Value) (l : List UInt8) (k n : Nat) (w : World) (h : OwnB 0 w v l) (hk : k ≤ 8) (hl : l.length ≤ 33554432) :
    Calls Tryz.prog 136 #[v, .int .i64 k, .int .u64 n] w fun e w' => ∃ v', e = .returned v' ∧ OwnB 0 w' v' (l ++ numB k n) ∧ Grew w w' v v' := by
  obtain ⟨i0, hi, q0, q1, q2⟩ := info_parts infoByte
  have HO := Lib.hid h
  obtain ⟨a0, c0, rfl⟩ := h.shape
  obtain ⟨L, hL⟩ : ∃ L, L = l.length := ⟨_, rfl⟩
  rw [← hL] at HO hl ⊢
  have HL := Lib.hid hL
  clear h hL
  go_enter Tryz.func136, Tryz.ntmps136
  go_wp2
  go_loopw [0, 7] (fun v i wr => ∃ (j m : Nat) (a : Option Addr) (c : Nat), j ≤ k ∧ m = L + j ∧ v = .slice a m c ∧ (j < k ∧ i = .int .i64 ((k - 1 - j : Nat) : Int) ∨ j = k ∧ i = .int .i64 (-1)) ∧ Hid (OwnB 0 wr (.slice a m c) (l ++ (numB k n).take j)) ∧ Hid (Grew w wr (.slice a0 L c0) (.slice a m c))) (fun _ i _ => (intOf i + 1).toNat)
  case atStart =>
    refine ⟨0, L, a0, c0, by omega, rfl, rfl, ?_, Lib.hid (by rw [List.take_zero, List.append_nil]; exact HO.out), Lib.hid (Grew.refl _ _)⟩
    by_cases hk0 : k = 0
    · subst hk0; exact .inr ⟨rfl, rfl⟩
    · exact .inl ⟨by omega, by rw [show ((k - 1 - 0 : Nat) : Int) = (k : Int) - 1 by omega]⟩
  case round =>
    obtain ⟨j, m, a, c, hj, rfl, rfl, (⟨hlt, rfl⟩ | ⟨rfl, rfl⟩), ho, hb⟩ := hrel
    · obtain ⟨r, hr⟩ : ∃ r, r = k - 1 - j := ⟨_, rfl⟩
      rw [← hr]
      have hr8 : r < 8 := by omega
      have hr0 : (0 : Int) ≤ (r : Int) := by omega
      have HRR := Lib.hid hr
      have HV := Lib.hid (byte_of n r)
      have hrk : r + j + 1 = k := by omega
      have hlen : (l ++ (numB k n).take j).length = L + j := by rw [List.length_append, List.length_take, numB_length, HL.out]; omega
      have HO1 : Hid (wr.ownsRow 0 5 1 (.slice a (L + j) c) (L + j) (Lib.byteCells (l ++ (numB k n).take j))) := Lib.hid (by have := ho.out; unfold OwnB at this; rwa [hlen] at this)
      have HRK := Lib.hid hrk
      obtain ⟨v', w2, hrun, hown', hgrow⟩ := append_own2 (wr.alloc (.cells #[.int .u8 ((n : Int) / 2 ^ (8 * r) % 256)] 5)) 94 94 5 i0 (.int .u8 0) 1 1 Tryz.underlying94 hi q0 q1 q2 rfl (by decide) _ _ _ (HO1.out.alloc _) ⟨wr.heap.size, 0, none⟩ 1 1 [.int .u8 ((n : Int) / 2 ^ (8 * r) % 256)] rfl (by
        intro q u hu
        have hq : q = 0 := by
          have := (List.getElem?_eq_some_iff.1 hu).1
          simp at this
          omega
        subst hq
        simp at hu
        subst hu
        exact Lib.cell_of_heap (w := wr.alloc (.cells #[.int .u8 ((n : Int) / 2 ^ (8 * r) % 256)] 5)) (b := wr.heap.size) (heap_alloc_new wr _) 0) (by intro u hu; simp at hu; subst hu; rfl) (by unfold maxLen; omega) (by omega) (by omega)
      obtain ⟨av', cv', rfl⟩ : ∃ a c, v' = .slice a (L + j + 1) c := by
        rcases hown'.2 with ⟨_, h0⟩ | ⟨g', cap', cur, hv, _⟩
        · omega
        · exact ⟨_, cap', hv⟩
      have HB2 : Hid (Grew w w2 (.slice a0 L c0) (.slice av' (L + j + 1) cv')) := Lib.hid ((hb.out.trans (Grew.ofBelow ((Below.refl _ wr).alloc (Nat.le_refl _) _) _)).trans hgrow)
      have HO2 : Hid (OwnB 0 w2 (.slice av' (L + j + 1) cv') (l ++ (numB k n).take (j + 1))) := Lib.hid (by
        have hg := numB_get k n j (by omega)
        have hjl : j < (numB k n).length := by rw [numB_length]; omega
        rw [List.getElem?_eq_getElem hjl] at hg
        have hg' := Option.some.inj hg
        rw [List.take_succ_eq_append_getElem hjl, hg', ← List.append_assoc]
        unfold OwnB
        have e1 : (l ++ (numB k n).take j ++ [UInt8.ofNat (n / 256 ^ (k - 1 - j))]).length = L + j + 1 := by
          rw [List.length_append, List.length_append, List.length_take, numB_length, HL.out]; simp; omega
        have e2 : Lib.byteCells (l ++ (numB k n).take j ++ [UInt8.ofNat (n / 256 ^ (k - 1 - j))]) = Lib.byteCells (l ++ (numB k n).take j) ++ [.int .u8 ((n : Int) / 2 ^ (8 * r) % 256)] := by
          rw [HV.out, HRR.out]; simp [Lib.byteCells]
        rw [e1, e2]
        exact hown')
      have HRUN := Lib.hid hrun
      clear hr hlen hrk hown' hgrow hrun
      go_wp2_with (at_builtin; refine Lib.wpList_append_run _ rfl _ _ 94 94 rfl _ _ rfl rfl _ _ HRUN.out ?_)
      by_cases hr1 : r = 0
      · subst hr1
        have := HRK.out
        go_wp2
        go_roundw
        case rel => exact ⟨j + 1, L + j + 1, av', cv', by omega, by omega, rfl, .inr ⟨by omega, rfl⟩, HO2, HB2⟩
        case measure => simp [intOf]
      · obtain ⟨r', rfl⟩ : ∃ r', r = r' + 1 := ⟨r - 1, by omega⟩
        have := HRK.out
        go_wp2
        go_roundw
        case rel => exact ⟨j + 1, L + j + 1, av', cv', by omega, by omega, rfl, .inl ⟨by omega, by rw [show k - 1 - (j + 1) = r' by omega] <;> go_num⟩, HO2, HB2⟩
        case measure => simp [intOf]; omega
    · go_wp2
      go_ret
      refine ⟨_, rfl, ?_, hb.out⟩
      have := ho.out
      rwa [List.take_of_length_le (by rw [numB_length]; exact Nat.le_refl _)] at this

theorem number_any (B : Nat) (v : Value) (l : List UInt8) (k n : Nat) (w : World) (h : OwnB B w v l) (hB : B ≤ w.heap.size) (hk : k ≤ 8) (hl : l.length ≤ 33554432) :
    Calls Tryz.prog 136 #[v, .int .i64 k, .int .u64 n] w fun e w' => ∃ v', e = .returned v' ∧ OwnB B w' v' (l ++ numB k n) ∧ Below B w w' := by
  refine (number_grew v l k n w (ownsRow_zero h) hk hl).mono ?_
  rintro e w' ⟨v', he, h1, h2⟩
  exact ⟨v', he, ownsRow_base h1 (h2.own hB h.lt), h2.below hB h.lt⟩
end Go.Proofs.YtijggofelepaaaaGreatDoor

/- A head as bytes. -/
set_option maxRecDepth 100000
namespace Go.Proofs.YtijggofelepaaaaGreatDoor
open Go.RowKit

/-- A head's bytes. -/
def hdB (h : Hd) : List UInt8 := numB 2 h.count ++ ((List.range 16).flatMap fun i => numB 4 (h.root i)) ++ ((List.range (h.count / 64 + 1)).flatMap fun i => numB 8 (h.word i))

theorem flat_succ (f : Nat → List UInt8) (k : Nat) : (List.range (k + 1)).flatMap f = (List.range k).flatMap f ++ f k := by
  rw [List.range_succ, List.flatMap_append]; simp
theorem flat_length (f : Nat → List UInt8) (c : Nat) (hf : ∀ i, (f i).length = c) (k : Nat) : ((List.range k).flatMap f).length = c * k := by
  induction k with
  | zero => simp
  | succ k ih => rw [flat_succ, List.length_append, ih, hf, Nat.mul_succ]

theorem run_sliceWords (W : World) (b o n : Nat) (hn : n ≤ 64) : (Instr.sliceAt 34 (.pointer (some ⟨b, o, none⟩)) none (some (.int .i64 n)) none).run Tryz.prog W = .ok (.slice (some ⟨b, o, none⟩) n 64) W := by
  obtain ⟨i, hi, _⟩ := Option.map_eq_some_iff.1 (show (Tryz.prog.info? 33).map (·.size) = some 1 by kernel_rfl)
  simp [Instr.sliceAt, run_underlying Tryz.underlying34, Instr.sureAddr, Instr.sliceBounds, Instr.sliceBound, asIntOf, sizeOf, typeInfo, hi, Result.andThen]
  rw [if_pos hn]
  simp [add_lit']

set_option maxHeartbeats 3200000 in
theorem hbytes_any (b o : Nat) (h : Hd) (w : World) (a : HdAt w b o h) (k : h.Ok) (hb : b < w.heap.size) :
    Calls Tryz.prog 94 #[.pointer (some ⟨b, o, none⟩)] w fun e w' => ∃ v', e = .returned v' ∧ OwnB w.heap.size w' v' (hdB h) ∧ Below w.heap.size w w' := by
  have HA := Lib.hid a
  have HK := Lib.hid k
  have hc := a.count
  have hcnt := k.cnt
  -- the roots, as they are read at one time
  obtain ⟨rs, hrs⟩ : ∃ rs : List Value, rs = h.roots.map (fun x : Nat => Value.int .i64 (x : Int)) := ⟨_, rfl⟩
  have hrl : rs.length = 16 := by rw [hrs]; simp [k.nr]
  have hrv : ∀ i, i < 16 → rs.toArray[i]? = some (.int .i64 (h.root i : Int)) := fun i hi => by
    have h1 : i < h.roots.length := by rw [k.nr]; exact hi
    rw [hrs, List.getElem?_toArray, List.getElem?_map, List.getElem?_eq_getElem h1, Hd.root, List.getD_eq_getElem?_getD, List.getElem?_eq_getElem h1]
    rfl
  have HRG : Hid (∀ W : World, Below w.heap.size w W → W.rangeAt b (o + 65) rs) := Lib.hid (fun W hW j v hv => by
    have hj := (List.getElem?_eq_some_iff.1 hv).1
    rw [hrl] at hj
    have h2 := hrv j hj
    rw [List.getElem?_toArray] at h2
    rw [h2] at hv
    cases hv
    exact (HA.out.block (hW.block b hb)).root HK.out hj)
  have HRI : Hid ((Tryz.prog.info? 35).map (·.size) = some rs.length) := Lib.hid (by rw [hrl]; kernel_rfl)
  obtain ⟨X, hX⟩ : ∃ X, X = rs.toArray := ⟨_, rfl⟩
  have HIX : Hid (∀ i : Nat, i < 16 → ∀ W, (Instr.index 35 (.agg X) (.int .i64 i)).run Tryz.prog W = .ok (.int .i64 (h.root i : Int)) W) := Lib.hid (fun i hi W => run_index_row 35 3 16 _ _ i W (by kernel_rfl) (by kernel_rfl) (by kernel_rfl) hi (by rw [hX]; exact hrv i hi))
  have HX := Lib.hid hX
  obtain ⟨c, hce⟩ : ∃ c, c = h.count := ⟨_, rfl⟩
  rw [← hce] at hc hcnt
  obtain ⟨n, hn⟩ : ∃ n, n = c / 64 + 1 := ⟨_, rfl⟩
  have hn64 : n ≤ 64 := by omega
  have HW : Hid (∀ (W : World), Below w.heap.size w W → Calls Tryz.prog 143 #[.pointer (some ⟨b, o, none⟩)] W fun e w' => e = .returned (.int .i64 n) ∧ w' = W) := Lib.hid (fun W hW => by
    have := words_any b o h W (HA.out.block (hW.block b hb)) HK.out
    rwa [← hce, ← hn] at this)
  have hsl := fun W => run_sliceWords W b (o + 1) n hn64
  have hu64 : IntKind.u64.wrap (c : Int) = (c : Int) := by rw [IntKind.wrap_u64]; omega
  have HC := Lib.hid hc
  have HCE := Lib.hid hce
  have HN := Lib.hid hn
  have HS : Hid (h.root = h.root) := Lib.hid rfl
  have hB0 : w.heap.size ≤ w.heap.size := Nat.le_refl _
  have hnum := number_any w.heap.size (.slice none 0 0) [] 2 c w (OwnB.nil _ _) hB0 (by omega) (by simp)
  have HNUM := Lib.hid hnum
  clear a k hrs hrl hrv hX hce hn HS hnum
  go_enter Tryz.func94, Tryz.ntmps94
  go_wp2_with fail
  refine HNUM.out.mono ?_
  rintro e w1 ⟨v1, rfl, ho1, hb1⟩
  rw [List.nil_append] at ho1
  obtain ⟨a1, c1, rfl⟩ := ho1.shape
  rw [numB_length] at ho1 ⊢
  have HO1 := Lib.hid ho1
  have HB1 := Lib.hid hb1
  clear ho1 hb1
  go_wp2_with (refine wpList_load_mid rfl 35 _ rfl b (o + 65) (by rfl) rs _ (HRG.out _ HB1.out) Tryz.underlying35 rfl HRI.out ?_)
  rw [← HX.out]
  go_wp2
  go_loopw [3, 18] (fun v i wr => ∃ (q m : Nat) (a : Option Addr) (cc : Nat), q ≤ 16 ∧ m = 2 + 4 * q ∧ i = .int .i64 q ∧ v = .slice a m cc ∧ Hid (OwnB w.heap.size wr (.slice a m cc) (numB 2 c ++ (List.range q).flatMap fun i => numB 4 (h.root i))) ∧ Hid (Below w.heap.size w wr)) (fun _ i _ => 16 - (intOf i).toNat)
  case atStart => exact ⟨0, 2, a1, c1, by omega, rfl, rfl, rfl, Lib.hid (by simpa using HO1.out), HB1⟩
  case round =>
    obtain ⟨q, m, a, cc, hq, rfl, rfl, rfl, ho, hbw⟩ := hrel
    by_cases hlt : q < 16
    · have hix := HIX.out q hlt wr
      have hr31 := HK.out.rt q
      obtain ⟨r, hr⟩ : ∃ r, r = h.root q := ⟨_, rfl⟩
      rw [← hr] at hix hr31
      have hur : IntKind.u64.wrap (r : Int) = (r : Int) := by rw [IntKind.wrap_u64]; omega
      have hq16 : (q : Int) < 16 := by omega
      have hnum := number_any w.heap.size _ _ 4 r wr ho.out hbw.out.size (by omega) (by
        rw [List.length_append, numB_length, flat_length _ 4 (fun i => numB_length 4 _)]; omega)
      rw [List.append_assoc, hr, ← flat_succ (fun i => numB 4 (h.root i)) q, ← hr] at hnum
      have HNM := Lib.hid hnum
      clear hnum hr31 hr
      go_wp2_with fail
      refine HNM.out.mono ?_
      rintro e w2 ⟨v2, rfl, ho2, hb2⟩
      obtain ⟨a2, c2, rfl⟩ := ho2.shape
      have hl2 : (numB 2 c ++ (List.range (q + 1)).flatMap fun i => numB 4 (h.root i)).length = 2 + 4 * (q + 1) := by rw [List.length_append, numB_length, flat_length _ 4 (fun i => numB_length 4 _)]
      rw [hl2] at ho2 ⊢
      have HO2 := Lib.hid ho2
      have HB2 := Lib.hid (hbw.out.trans hb2)
      clear ho2 hb2 hl2
      go_wp2
      go_roundw
      case rel => exact ⟨q + 1, 2 + 4 * (q + 1), a2, c2, by omega, rfl, by go_num, rfl, HO2, HB2⟩
      case measure => simp [intOf]; omega
    · have hge : ¬ ((q : Int) < 16) := by omega
      have HQ : Hid (q = 16) := Lib.hid (by omega)
      have hw16 := HW.out
      have HW2 : Hid (∀ n', Calls Tryz.prog 143 #[.pointer (some ⟨b, o, none⟩)] (wr.drewN n') fun e w' => e = .returned (.int .i64 n) ∧ w' = wr.drewN n') := Lib.hid (fun n' => HW.out _ (hbw.out.trans ((below_drewN wr n').mono hbw.out.size)))
      clear hw16
      go_wp2_with fail
      go_quiet ((go_at_call 143; exact Calls.quiet_of_same (HW2.out _)))
      have HST : Hid (∀ n', OwnB w.heap.size (wr.drewN n') (.slice a (2 + 4 * q) cc) (numB 2 c ++ (List.range 16).flatMap fun i => numB 4 (h.root i)) ∧ Below w.heap.size w (wr.drewN n')) := Lib.hid (fun n' => ⟨by have := ho.out.below (below_drewN wr n'); rwa [show List.range q = List.range 16 by rw [HQ.out]] at this, hbw.out.trans ((below_drewN wr n').mono hbw.out.size)⟩)
      have hm66 : 66 + 8 * 0 = 2 + 4 * q := by have := HQ.out; omega
      have HM66 := Lib.hid hm66
      clear ho hbw hlt hm66
      go_wp2
      go_loopw [3, 33] (fun v i wr => ∃ (q m : Nat) (a : Option Addr) (cc : Nat), q ≤ n ∧ m = 66 + 8 * q ∧ i = .int .i64 q ∧ v = .slice a m cc ∧ Hid (OwnB w.heap.size wr (.slice a m cc) ((numB 2 c ++ (List.range 16).flatMap fun i => numB 4 (h.root i)) ++ (List.range q).flatMap fun i => numB 8 (h.word i))) ∧ Hid (Below w.heap.size w wr)) (fun _ i _ => n - (intOf i).toNat)
      case atStart => exact ⟨0, 2 + 4 * q, a, cc, by omega, HM66.out.symm, rfl, rfl, Lib.hid (by simpa using (HST.out _).1), Lib.hid (HST.out _).2⟩
      case round =>
        obtain ⟨q, m, a, cc, hq, rfl, rfl, rfl, ho, hbw⟩ := hrel
        by_cases hlt : q < n
        · have hcw := (HA.out.block (hbw.out.block b hb)).word HK.out (show q < 64 by omega)
          obtain ⟨r, hr⟩ : ∃ r, r = h.word q := ⟨_, rfl⟩
          rw [← hr] at hcw
          have hqn : (q : Int) < n := by omega
          have hnum := number_any w.heap.size _ _ 8 r wr ho.out hbw.out.size (by omega) (by
            rw [List.length_append, List.length_append, numB_length, flat_length _ 4 (fun i => numB_length 4 _), flat_length _ 8 (fun i => numB_length 8 _)]; omega)
          rw [List.append_assoc, hr, ← flat_succ (fun i => numB 8 (h.word i)) q, ← hr] at hnum
          have HNM := Lib.hid hnum
          clear hnum hr
          go_wp2_with fail
          refine HNM.out.mono ?_
          rintro e w2 ⟨v2, rfl, ho2, hb2⟩
          obtain ⟨a2, c2, rfl⟩ := ho2.shape
          have hl2 : ((numB 2 c ++ (List.range 16).flatMap fun i => numB 4 (h.root i)) ++ (List.range (q + 1)).flatMap fun i => numB 8 (h.word i)).length = 66 + 8 * (q + 1) := by rw [List.length_append, List.length_append, numB_length, flat_length _ 4 (fun i => numB_length 4 _), flat_length _ 8 (fun i => numB_length 8 _)]
          rw [hl2] at ho2 ⊢
          have HO2 := Lib.hid ho2
          have HB2 := Lib.hid (hbw.out.trans hb2)
          clear ho2 hb2 hl2
          go_wp2
          go_roundw
          case rel => exact ⟨q + 1, 66 + 8 * (q + 1), a2, c2, by omega, rfl, by go_num, rfl, HO2, HB2⟩
          case measure => simp [intOf]; omega
        · obtain rfl : q = n := by omega
          go_wp2
          go_ret
          refine ⟨_, rfl, ?_, hbw.out⟩
          unfold hdB
          rw [← HCE.out, ← HN.out]
          exact ho.out
end Go.Proofs.YtijggofelepaaaaGreatDoor
