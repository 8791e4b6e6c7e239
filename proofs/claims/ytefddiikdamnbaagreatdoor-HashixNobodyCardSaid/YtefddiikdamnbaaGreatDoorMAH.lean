/- Texts of the same proof, one behind the other: SF, SG, SH, SI, SK, SN. -/
import Derived.Test.YtefddiikdamnbaaGreatDoorMAG
import Derived.Lib.Builder
/- The calls on an action that nobody began, or that is over; what ends one; roots. -/
set_option maxRecDepth 100000
namespace Go.Proofs.YtefddiikdamnbaaGreatDoor
open Go.RowKit

section
variable {P : Program} {w w' : World} {ops : Array Oper} {rest : List Oper} {o : Oper} {a : Act} {Q : Exit → Act → World → Prop}
/-- An operation whose run is known. -/
theorem wpList_val (hg : o.guard = none) (v : Value) (hr : (execOp a.eval o).run P w = .ok (.value v) w') (h : wpList P ops Q rest (a.put o.dst v) w') : wpList P ops Q (o :: rest) a w :=
  wpList_plain hg fun K hK => by unfold Oper.wp; rw [hr]; exact hK _ _ h
end

set_option maxHeartbeats 400000 in
theorem arefuses_live (a s : Nat) (w : World) (h0 : w.cell? ⟨a, 0, none⟩ = some (.pointer (some ⟨a, 0, none⟩))) (h1 : w.cell? ⟨a, 1, none⟩ = some (.pointer (some ⟨s, 1, none⟩))) (h2 : w.cell? ⟨s, 85, none⟩ = some (.pointer (some ⟨a, 0, none⟩))) :
    Calls Tryz.prog 52 #[.pointer (some ⟨a, 0, none⟩)] w fun e w' => e = .returned (.int .i64 0) ∧ w' = w := by
  obtain ⟨j, hj, _⟩ := Option.map_eq_some_iff.1 sizeAc
  have hq := Lib.run_neq_ptr_same (P := Tryz.prog) w (tp := 28) (te := 40) ⟨a, 0, none⟩ Tryz.underlying28 hj
  go_enter Tryz.func52, Tryz.ntmps52
  go_wp2
  go_ret
  exact ⟨rfl, rfl⟩

/-- What refuses all calls, with a code. -/
def Refused (v : Value) (c : Int) (w : World) : Prop := Calls Tryz.prog 52 #[v] w fun e w' => e = .returned (.int .i64 c) ∧ w' = w

section
variable (v : Value) (c : Int) (w : World) (hc : c = 1 ∨ c = 5) (hp : Refused v c w)
include hc hp

end

/-! ### What ends an action -/
/-! ### Roots -/
set_option maxHeartbeats 400000 in
theorem aroot_good (a : Nat) (h : Hd) (q : Nat) (w : World) (hr : Refused (.pointer (some ⟨a, 0, none⟩)) 0 w) (x : HdAt w a 2 h) (k : h.Ok) (hq : q < 16) :
    Calls Tryz.prog 16 #[.pointer (some ⟨a, 0, none⟩), .int .i64 q] w fun e w' => e = .returned (.tuple #[.int .i64 (h.root q), .int .i64 0]) ∧ w' = w := by
  have HR : Hid (Calls Tryz.prog 52 #[.pointer (some ⟨a, 0, none⟩)] w fun e w' => e = .returned (.int .i64 0) ∧ w' = w) := Lib.hid hr; clear hr
  have h1 := isRoot_any q w
  rw [decide_eq_true (by omega)] at h1
  have HI := Lib.hid h1; clear h1
  have hc := x.root k hq
  rw [show 2 + 65 + q = 67 + q by omega] at hc
  obtain ⟨r, hr⟩ : ∃ r, r = h.root q := ⟨_, rfl⟩
  rw [← hr] at hc ⊢
  have hq16 : (q : Int) < 16 := by omega
  clear x k hr
  go_enter Tryz.func16, Tryz.ntmps16
  go_wp2_with fail
  refine HR.out.mono ?_
  rintro e w' ⟨rfl, hw⟩
  subst w'
  go_wp2_with fail
  refine HI.out.mono ?_
  rintro e w' ⟨rfl, hw⟩
  subst w'
  go_wp2
  go_ret2
  exact ⟨rfl, rfl⟩
end Go.Proofs.YtefddiikdamnbaaGreatDoor

/- Drafts of pages in a map; an action that goes on: SetRoot, Alloc, Free. -/
set_option maxRecDepth 100000
namespace Go.Proofs.YtefddiikdamnbaaGreatDoor
open Go.RowKit Go.Maps

/-- A draft. -/
structure Dr where
  blk : Nat
  fresh : Bool
  was : List UInt8
  now : List UInt8
def Dr.cells (x : Dr) : List Value := .bool x.fresh :: (Lib.byteCells x.was ++ Lib.byteCells x.now)
theorem Dr.cells_length (x : Dr) (h1 : x.was.length = 512) (h2 : x.now.length = 512) : x.cells.length = 1025 := by simp [Dr.cells, Lib.byteCells_length, h1, h2]
def noughts : List UInt8 := List.replicate 512 0
theorem noughts_length : noughts.length = 512 := by simp [noughts]
def Dr.ptr (x : Dr) : Value := .pointer (some ⟨x.blk, 0, none⟩)

/-- Drafts by their pages: m of them, in the map at block db. -/
structure DraftsAt (w : World) (db m : Nat) (D : Nat → Option Dr) : Prop where
  map : ∃ F, PMap w db m F ∧ (∀ q x, D q = some x → F q = some x.ptr) ∧ ∀ q v, F q = some v → ∃ (n : Nat) (x : Dr), (n : Int) = q ∧ D n = some x ∧ v = x.ptr
  at_ : ∀ q x, D q = some x → q < 4096 ∧ w.rangeAt x.blk 0 x.cells ∧ (∀ j, w.frozen? ⟨x.blk, j, none⟩ = false) ∧ x.was.length = 512 ∧ x.now.length = 512 ∧ x.blk ≠ db ∧ x.blk < w.heap.size
  one : ∀ q q' x y, D q = some x → D q' = some y → x.blk = y.blk → q = q'

section
variable {w w' : World} {db m : Nat} {D : Nat → Option Dr}
theorem DraftsAt.ltM (h : DraftsAt w db m D) : db < w.heap.size := by
  obtain ⟨F, hF, _⟩ := h.map
  exact hF.lt
theorem DraftsAt.keep (h : DraftsAt w db m D) (h1 : w'.heap[db]? = w.heap[db]?) (h2 : ∀ q x, D q = some x → w'.heap[x.blk]? = w.heap[x.blk]?) : DraftsAt w' db m D := by
  obtain ⟨F, hF, h4, h5⟩ := h.map
  refine ⟨⟨F, hF.block h1, h4, h5⟩, fun q x hq => ?_, h.one⟩
  obtain ⟨a, b, c, d, e, f, g⟩ := h.at_ q x hq
  have hb := h2 q x hq
  exact ⟨a, fun j v hv => (World.cell?_of_block hb).trans (b j v hv), fun j => (World.frozen?_of_block hb).trans (c j), d, e, f, by
    have : x.blk < w'.heap.size := by
      rw [Array.getElem?_eq_getElem g] at hb
      exact (Array.getElem?_eq_some_iff.1 hb).1
    exact this⟩
theorem DraftsAt.kept {S : Nat → Prop} (h : DraftsAt w db m D) (hk : Kept S w w') (h1 : ¬ S db) (h2 : ∀ q x, D q = some x → ¬ S x.blk) : DraftsAt w' db m D :=
  h.keep (hk.block db h.ltM h1) (fun q x hq => hk.block x.blk (h.at_ q x hq).2.2.2.2.2.2 (h2 q x hq))
theorem DraftsAt.below (h : DraftsAt w db m D) (hk : Below w.heap.size w w') : DraftsAt w' db m D :=
  h.keep (hk.block db h.ltM) (fun q x hq => hk.block x.blk (h.at_ q x hq).2.2.2.2.2.2)

theorem DraftsAt.look (h : DraftsAt w db m D) {q : Nat} {x : Dr} (hq : D q = some x) : (Instr.lookup 38 (.map (some db)) (.int .i64 q) false).run Tryz.prog w = .ok x.ptr w := by
  obtain ⟨F, hF, h4, _⟩ := h.map
  have := hF.look Tryz.underlying38 (by kernel_rfl) q (WalkArith.wf_i64 (by have := (h.at_ q x hq).1; omega))
  rw [this, h4 q x hq]; rfl
theorem DraftsAt.look_none (h : DraftsAt w db m D) {q : Nat} (hq4 : q < 4096) (hq : D q = none) : (Instr.lookup 38 (.map (some db)) (.int .i64 q) false).run Tryz.prog w = .ok (.pointer none) w := by
  obtain ⟨F, hF, _, h5⟩ := h.map
  have := hF.look Tryz.underlying38 (by kernel_rfl) q (WalkArith.wf_i64 (by omega))
  rw [this]
  cases hv : F q with
  | none => rfl
  | some v =>
    obtain ⟨n, x, e, hx, _⟩ := h5 q v hv
    have : n = q := by omega
    subst this
    rw [hq] at hx; cases hx

/-- A draft comes in. -/
theorem DraftsAt.put (h : DraftsAt w db m D) (hm : m < 4611686018427387904) {q : Nat} (hq4 : q < 4096) (hq : D q = none) (x : Dr) (hr : w.rangeAt x.blk 0 x.cells) (hf : ∀ j, w.frozen? ⟨x.blk, j, none⟩ = false) (h1 : x.was.length = 512) (h2 : x.now.length = 512) (hdb : x.blk ≠ db) (hlt : x.blk < w.heap.size) (hno : ∀ q y, D q = some y → y.blk ≠ x.blk) :
    ∃ w', (Instr.mapUpdate 38 (.map (some db)) (.int .i64 q) x.ptr).run Tryz.prog w = .ok () w' ∧ DraftsAt w' db (m + 1) (upd D q (some x)) ∧ Kept (fun k => k = db) w w' := by
  obtain ⟨F, hF, h4, h5⟩ := h.map
  have hFq : F q = none := by
    cases hv : F q with
    | none => rfl
    | some v =>
      obtain ⟨n, y, e, hy, _⟩ := h5 q v hv
      have : n = q := by omega
      subst this
      rw [hq] at hy; cases hy
  obtain ⟨w', hr', hF', ht⟩ := hF.put Tryz.underlying38 (by unfold maxLen; omega) q (WalkArith.wf_i64 (by omega)) hFq x.ptr
  have hk : Kept (fun k => k = db) w w' := Kept.ofTurned ht rfl
  refine ⟨w', hr', ⟨⟨_, hF', fun j y hj => ?_, fun j v hj => ?_⟩, fun j y hj => ?_, fun j j' y y' hj hj' e => ?_⟩, hk⟩
  · by_cases hjq : j = q
    · subst hjq; rw [upd_same] at hj; cases hj; exact updI_same _ _ _
    · rw [upd_other _ _ hjq] at hj; rw [updI_other _ _ (by omega)]; exact h4 j y hj
  · by_cases hjq : j = q
    · subst hjq; rw [updI_same] at hj; cases hj; exact ⟨q, x, rfl, upd_same _ _ _, rfl⟩
    · rw [updI_other _ _ hjq] at hj
      obtain ⟨n, y, e1, e2, e3⟩ := h5 j v hj
      exact ⟨n, y, e1, by rw [upd_other _ _ (by omega)]; exact e2, e3⟩
  · have hh : ∀ y : Dr, w.rangeAt y.blk 0 y.cells → (∀ j, w.frozen? ⟨y.blk, j, none⟩ = false) → y.blk ≠ db → y.blk < w.heap.size → w'.rangeAt y.blk 0 y.cells ∧ (∀ j, w'.frozen? ⟨y.blk, j, none⟩ = false) ∧ y.blk < w'.heap.size := fun y a b c d => by
      have hb := hk.block y.blk d c
      exact ⟨fun j v hv => (World.cell?_of_block hb).trans (a j v hv), fun j => (World.frozen?_of_block hb).trans (b j), Nat.lt_of_lt_of_le d hk.size⟩
    by_cases hjq : j = q
    · subst hjq; rw [upd_same] at hj; cases hj
      obtain ⟨a, b, c⟩ := hh x hr hf hdb hlt
      exact ⟨hq4, a, b, h1, h2, hdb, c⟩
    · rw [upd_other _ _ hjq] at hj
      obtain ⟨a, b, c, d, e, f, g⟩ := h.at_ j y hj
      obtain ⟨a', b', c'⟩ := hh y b c f g
      exact ⟨a, a', b', d, e, f, c'⟩
  · by_cases hjq : j = q <;> by_cases hjq' : j' = q
    · omega
    · subst hjq; rw [upd_same] at hj; rw [upd_other _ _ hjq'] at hj'; cases hj; exact absurd e.symm (hno j' y' hj')
    · subst hjq'; rw [upd_same] at hj'; rw [upd_other _ _ hjq] at hj; cases hj'; exact absurd e (hno j y hj)
    · rw [upd_other _ _ hjq] at hj; rw [upd_other _ _ hjq'] at hj'; exact h.one j j' y y' hj hj' e

end
end Go.Proofs.YtefddiikdamnbaaGreatDoor

/- An action that goes on: SetRoot, Alloc, Free. -/
set_option maxRecDepth 100000
namespace Go.Proofs.YtefddiikdamnbaaGreatDoor
open Go.RowKit

/-- An action that goes on, at block a, of the space at block s; last is the space's head, h its own; D its drafts. -/
structure ActSt (w : World) (a s d l p db m : Nat) (last h : Hd) (D : Nat → Option Dr) : Prop where
  sp : SpaceAt w s d l p last (some a)
  ac : ActAt w a s h (.map (some db))
  dr : DraftsAt w db m D
  okl : last.Ok
  ok : h.Ok
  has : ∀ q x, D q = some x → h.has q
  ne : a ≠ s ∧ a ≠ db ∧ s ≠ db
  blk : ∀ q x, D q = some x → x.blk ≠ a ∧ x.blk ≠ s

section
variable {w w' : World} {a s d l p db m : Nat} {last h : Hd} {D : Nat → Option Dr}
theorem ActSt.live (x : ActSt w a s d l p db m last h D) : Refused (.pointer (some ⟨a, 0, none⟩)) 0 w := arefuses_live a s w x.ac.self x.ac.st x.sp.cur_
theorem ActSt.below (x : ActSt w a s d l p db m last h D) (hb : Below w.heap.size w w') : ActSt w' a s d l p db m last h D :=
  ⟨x.sp.below hb, x.ac.below hb, x.dr.below hb, x.okl, x.ok, x.has, x.ne, x.blk⟩
/-- Whatever is no action's may turn. -/
theorem ActSt.kept {S : Nat → Prop} (x : ActSt w a s d l p db m last h D) (hk : Kept S w w') (h1 : ¬ S a) (h2 : ¬ S s) (h3 : ¬ S db) (h4 : ∀ q x, D q = some x → ¬ S x.blk) : ActSt w' a s d l p db m last h D :=
  ⟨x.sp.kept hk h2, x.ac.kept hk h1, x.dr.kept hk h3 h4, x.okl, x.ok, x.has, x.ne, x.blk⟩
/-- The head has turned, and nothing besides. -/
theorem ActSt.turnHd (x : ActSt w a s d l p db m last h D) {h' : Hd} (hd : HdAt w' a 2 h') (ht : Touch a 2 81 w w') (hk : Kept (fun k => k = a) w w') (k : h'.Ok) (hh : ∀ q x, D q = some x → h'.has q) : ActSt w' a s d l p db m last h' D :=
  ⟨x.sp.kept hk (fun e => x.ne.1 e.symm), x.ac.turnHd hd ht, x.dr.kept hk (fun e => x.ne.2.1 e.symm) (fun q y hq => (x.blk q y hq).1), x.okl, k, hh, x.ne, x.blk⟩

/-! ### SetRoot -/
theorem Hd.Ok.setRoot {h : Hd} (k : h.Ok) {i x : Nat} (hi : i < 16) (hx : x < 2147483648) : (h.setRoot i x).Ok :=
  ⟨k.nf, by simp [Hd.setRoot, k.nr], k.cnt, k.lt, fun j => by
    rw [Hd.root_setRoot h k i x j hi]
    split
    · exact hx
    · exact k.rt j, k.in_⟩

set_option maxHeartbeats 800000 in
theorem asetRoot_good (q n : Nat) (x : ActSt w a s d l p db m last h D) (hq : q < 16) (hn : n < 2147483648) :
    Calls Tryz.prog 19 #[.pointer (some ⟨a, 0, none⟩), .int .i64 q, .int .i64 n] w fun e w' => e = .returned (.int .i64 0) ∧ ActSt w' a s d l p db m last (h.setRoot q n) D ∧ Kept (fun k => k = a) w w' := by
  have HR : Hid (Calls Tryz.prog 52 #[.pointer (some ⟨a, 0, none⟩)] w fun e w' => e = .returned (.int .i64 0) ∧ w' = w) := Lib.hid x.live
  have h1 := isRoot_any q w
  rw [decide_eq_true (by omega)] at h1
  have HI := Lib.hid h1; clear h1
  have hc := x.ac.hd.root x.ok hq
  have hf := x.ac.froz (2 + 65 + q)
  have HE : Hid (ActSt (w.setCell ⟨a, 2 + 65 + q, none⟩ (.int .i64 n)) a s d l p db m last (h.setRoot q n) D ∧ Kept (fun k => k = a) w (w.setCell ⟨a, 2 + 65 + q, none⟩ (.int .i64 n))) := Lib.hid (by
    have hk : Kept (fun k => k = a) w (w.setCell ⟨a, 2 + 65 + q, none⟩ (.int .i64 n)) := Kept.setCell (fun k => k = a) w (b := a) rfl _
    refine ⟨x.turnHd ?_ (Touch.setCell (fb := a) (o := 2) (n := 81) (i := 2 + 65 + q) w _ (by omega) (by omega)) hk (x.ok.setRoot hq hn) (fun j y hj => x.has j y hj), hk⟩
    have := x.ac.hd.set (h' := h.setRoot q n) (i := 65 + q) (v := .int .i64 n) (by rw [Hd.cells_length x.ok]; omega) (Hd.cells_setRoot x.ok n)
    rwa [← Nat.add_assoc] at this)
  rw [show 2 + 65 + q = 67 + q by omega] at hc hf HE
  have hq16 : (q : Int) < 16 := by omega
  have hn31 : (n : Int) ≤ 2147483647 := by omega
  obtain ⟨r, hr⟩ : ∃ r, r = h.root q := ⟨_, rfl⟩
  rw [← hr] at hc
  clear x hr
  go_enter Tryz.func19, Tryz.ntmps19
  go_wp2_with fail
  refine HR.out.mono ?_
  rintro e w' ⟨rfl, hw⟩
  subst w'
  go_wp2_with fail
  refine HI.out.mono ?_
  rintro e w' ⟨rfl, hw⟩
  subst w'
  go_wp2
  go_ret
  exact ⟨rfl, HE.out⟩

/-! ### Alloc -/
theorem built_fresh : Tryz.prog.built 122 [(0, .bool true)] = some (Dr.cells ⟨0, true, noughts, noughts⟩).toArray := by kernel_rfl

/-- What Alloc leaves. -/
def AllocPost (a s d l p db m : Nat) (last h : Hd) (D : Nat → Option Dr) (w : World) (e : Ending) (w' : World) : Prop :=
  (∃ q h' b, h.NextIs q h' ∧ e = .returned (.tuple #[.int .i64 q, .int .i64 0]) ∧ w.heap.size ≤ b ∧ ActSt w' a s d l p db (m + 1) last h' (upd D q (some ⟨b, true, noughts, noughts⟩)) ∧ Kept (fun k => k = a ∨ k = db) w w') ∨
  ((∀ j, h.isFree j = false) ∧ h.count = 4095 ∧ e = .returned (.tuple #[.int .i64 0, .int .i64 2]) ∧ w' = w)

set_option maxHeartbeats 1600000 in
theorem aalloc_live (x : ActSt w a s d l p db m last h D) (hT : Tab w) (hm : m < 4611686018427387904) :
    Calls Tryz.prog 15 #[.pointer (some ⟨a, 0, none⟩)] w (AllocPost a s d l p db m last h D w) := by
  have HR : Hid (Calls Tryz.prog 52 #[.pointer (some ⟨a, 0, none⟩)] w fun e w' => e = .returned (.int .i64 0) ∧ w' = w) := Lib.hid x.live
  have HT := Lib.hid (take_any a 2 h w x.ac.hd x.ok hT x.ac.froz)
  have HX := Lib.hid x
  have c83 : ∀ W, Touch a 2 81 w W → W.cell? ⟨a, 83, none⟩ = some (.map (some db)) := fun W ht => (ht.out 83 (by omega)).trans HX.out.ac.dr
  have HC := Lib.hid c83
  obtain ⟨Y, hY⟩ : ∃ Y : Array Value, Y = (Dr.cells ⟨0, true, noughts, noughts⟩).toArray := ⟨_, rfl⟩
  have HB := Lib.hid built_fresh
  rw [← hY] at HB
  have HY := Lib.hid hY
  clear x hT c83 hY
  go_enter Tryz.func15, Tryz.ntmps15
  go_wp2_with fail
  refine HR.out.mono ?_
  rintro e w' ⟨rfl, hw⟩
  subst w'
  go_wp2_with fail
  refine HT.out.mono ?_
  rintro e w1 (⟨q, h', hn, rfl, hd, ht, hk⟩ | ⟨h1, h2, rfl, hw⟩)
  · obtain ⟨k', hq1, hq4, hno, hhas, _⟩ := hn.spec HX.out.ok
    have hq0 : ((q : Int) == 0) = false := by simp; omega
    have c83 := HC.out w1 ht
    have hX1 : ActSt w1 a s d l p db m last h' D := HX.out.turnHd hd ht hk k' (fun j y hj => (hhas j).2 (.inl (HX.out.has j y hj)))
    have hDq : D q = none := by
      cases hv : D q with
      | none => rfl
      | some y => exact absurd (HX.out.has q y hv) hno
    obtain ⟨w2, hw2⟩ : ∃ w2, w2 = w1.alloc (.cells Y 122) := ⟨_, rfl⟩
    have hb2 : Below w1.heap.size w1 w2 := by rw [hw2]; exact (Below.refl _ _).alloc (Nat.le_refl _) _
    have hX2 := hX1.below hb2
    have hnew : w2.heap[w1.heap.size]? = some (.cells Y 122 (0, 0)) := by rw [hw2]; exact heap_alloc_new w1 _
    have hrg : w2.rangeAt w1.heap.size 0 (Dr.cells ⟨w1.heap.size, true, noughts, noughts⟩) := fun j v hv => by
      rw [Nat.zero_add, Lib.cell_of_heap hnew, HY.out, List.getElem?_toArray]; exact hv
    have hsz := hk.size
    have hdl := hX1.dr.ltM
    obtain ⟨w3, hr, hD3, hk3⟩ := hX2.dr.put hm hq4 hDq ⟨w1.heap.size, true, noughts, noughts⟩ hrg (fun j => Lib.frozen_of_heap hnew _) noughts_length noughts_length (by show w1.heap.size ≠ db; omega) (by show w1.heap.size < w2.heap.size; rw [hw2]; simp) (fun j y hj => by
      have := (hX1.dr.at_ j y hj).2.2.2.2.2.2
      show y.blk ≠ w1.heap.size
      omega)
    have hend : AllocPost a s d l p db m last h D w (.returned (.tuple #[.int .i64 q, .int .i64 0])) w3 := by
      refine .inl ⟨q, h', w1.heap.size, hn, rfl, hsz, ⟨hX2.sp.kept hk3 hX2.ne.2.2, hX2.ac.kept hk3 hX2.ne.2.1, hD3, hX2.okl, k', fun j y hj => ?_, hX2.ne, fun j y hj => ?_⟩, ?_⟩
      · by_cases hjq : j = q
        · exact (hhas j).2 (.inr hjq)
        · rw [upd_other _ _ hjq] at hj; exact hX2.has j y hj
      · by_cases hjq : j = q
        · subst hjq; rw [upd_same] at hj; cases hj
          have h1 := hX1.ac.lt; have h2 := hX1.sp.lt
          show w1.heap.size ≠ a ∧ w1.heap.size ≠ s
          omega
        · rw [upd_other _ _ hjq] at hj; exact hX2.blk j y hj
      · exact ((hk.mono (T := fun k => k = a ∨ k = db) (fun k e => .inl e)).trans (Kept.ofBelow (S := fun k => k = a ∨ k = db) hb2) (fun _ hi => .inl hi)).trans (hk3.mono (T := fun k => k = a ∨ k = db) (fun k e => .inr e)) (fun _ hi => .inl hi)
    have HE := Lib.hid hend
    rw [hw2] at hr
    have hr' : (Instr.mapUpdate 38 (.map (some db)) (.int .i64 q) (.pointer (some ⟨w1.heap.size, 0, none⟩))).run Tryz.prog (w1.alloc (.cells Y 122)) = .ok () w3 := hr
    have HRR := Lib.hid hr'
    clear hd ht hk hn k' hq1 hq4 hno hhas hX1 hDq hw2 hb2 hX2 hnew hrg hr hD3 hk3 hend hr' hsz hdl
    go_wp2_with (first
      | (refine wpList_val rfl (.agg Y) (exec_build rfl _ (by simp [go_sem]) Y HB.out w1) ?_)
      | (refine wpList_mapUpdate_run rfl _ _ _ 38 rfl _ _ _ (by rfl) (by rfl) (by rfl) HRR.out ?_))
    go_ret2
    exact HE.out
  · subst w1
    have HE := Lib.hid (show AllocPost a s d l p db m last h D w (.returned (.tuple #[.int .i64 0, .int .i64 2])) w from .inr ⟨h1, h2, rfl, rfl⟩)
    clear h1 h2
    go_wp2
    go_ret2
    exact HE.out

/-! ### Free -/
set_option maxHeartbeats 800000 in
theorem refusesPage_live (q : Int) (x : ActSt w a s d l p db m last h D) :
    Calls Tryz.prog 54 #[.pointer (some ⟨a, 0, none⟩), .int .i64 q] w fun e w' => e = .returned (.int .i64 (if 1 ≤ q ∧ h.has q.toNat then 0 else 3)) ∧ w' = w := by
  have HR : Hid (Calls Tryz.prog 52 #[.pointer (some ⟨a, 0, none⟩)] w fun e w' => e = .returned (.int .i64 0) ∧ w' = w) := Lib.hid x.live
  have h1 := has_any a 2 h q w x.ac.hd x.ok
  by_cases hq : 1 ≤ q ∧ h.has q.toNat
  · rw [decide_eq_true hq] at h1
    rw [if_pos hq]
    have HI := Lib.hid h1; clear h1 hq x
    go_enter Tryz.func54, Tryz.ntmps54
    go_wp2_with fail
    refine HR.out.mono ?_
    rintro e w' ⟨rfl, hw⟩
    subst w'
    go_wp2_with fail
    refine HI.out.mono ?_
    rintro e w' ⟨rfl, hw⟩
    subst w'
    go_wp2
    go_ret
    exact ⟨rfl, rfl⟩
  · rw [decide_eq_false hq] at h1
    rw [if_neg hq]
    have HI := Lib.hid h1; clear h1 hq x
    go_enter Tryz.func54, Tryz.ntmps54
    go_wp2_with fail
    refine HR.out.mono ?_
    rintro e w' ⟨rfl, hw⟩
    subst w'
    go_wp2_with fail
    refine HI.out.mono ?_
    rintro e w' ⟨rfl, hw⟩
    subst w'
    go_wp2
    go_ret
    exact ⟨rfl, rfl⟩

end
end Go.Proofs.YtefddiikdamnbaaGreatDoor

/- Pages of a space without pages; Pinned. -/
set_option maxRecDepth 100000
namespace Go.Proofs.YtefddiikdamnbaaGreatDoor
open Go.RowKit

end Go.Proofs.YtefddiikdamnbaaGreatDoor

/- Numbers as bytes: what a record is written with. -/
set_option maxRecDepth 100000
namespace Go.Proofs.YtefddiikdamnbaaGreatDoor
open Go.RowKit

/-- A number in so many bytes, the highest first. -/
def numB (k n : Nat) : List UInt8 := (List.range k).map fun j => UInt8.ofNat (n / 256 ^ (k - 1 - j))
/-- Bytes in a row of their own, from block B on. -/
def OwnB (B : Nat) (w : World) (v : Value) (l : List UInt8) : Prop := w.ownsRow B 5 1 v l.length (Lib.byteCells l)
theorem Grew.refl (w : World) (v : Value) : Grew w w v v := ⟨⟨rfl, rfl, rfl, Nat.le_refl _, fun _ _ _ => rfl⟩, fun _ hk => .inl hk⟩
theorem Grew.trans {a b c : World} {u v x : Value} (h : Grew a b u v) (k : Grew b c v x) : Grew a c u x := by
  refine ⟨⟨k.1.os.trans h.1.os, k.1.tape.trans h.1.tape, k.1.output.trans h.1.output, Nat.le_trans h.1.size k.1.size, fun i hi hne => ?_⟩, fun i hi => ?_⟩
  · refine (k.1.block i (Nat.lt_of_lt_of_le hi h.1.size) (fun e => ?_)).trans (h.1.block i hi hne)
    rcases h.2 i e.symm with h1 | h1
    · exact hne h1.symm
    · omega
  · rcases k.2 i hi with h1 | h1
    · exact h.2 i h1
    · exact .inr (Nat.le_trans h.1.size h1)
theorem Grew.own {B : Nat} {a b : World} {u v : Value} (h : Grew a b u v) (hB : B ≤ a.heap.size) (hu : ∀ k, u.ownBlock = some k → B ≤ k) : ∀ k, v.ownBlock = some k → B ≤ k := fun k hk => (h.2 k hk).elim (hu k) (fun e => Nat.le_trans hB e)

end Go.Proofs.YtefddiikdamnbaaGreatDoor

/- A head as bytes. -/
set_option maxRecDepth 100000
namespace Go.Proofs.YtefddiikdamnbaaGreatDoor
open Go.RowKit

/-- A head's bytes. -/
def hdB (h : Hd) : List UInt8 := numB 2 h.count ++ ((List.range 16).flatMap fun i => numB 4 (h.root i)) ++ ((List.range (h.count / 64 + 1)).flatMap fun i => numB 8 (h.word i))

theorem run_sliceWords (W : World) (b o n : Nat) (hn : n ≤ 64) : (Instr.sliceAt 34 (.pointer (some ⟨b, o, none⟩)) none (some (.int .i64 n)) none).run Tryz.prog W = .ok (.slice (some ⟨b, o, none⟩) n 64) W := by
  obtain ⟨i, hi, _⟩ := Option.map_eq_some_iff.1 (show (Tryz.prog.info? 33).map (·.size) = some 1 by kernel_rfl)
  simp [Instr.sliceAt, run_underlying Tryz.underlying34, Instr.sureAddr, Instr.sliceBounds, Instr.sliceBound, asIntOf, sizeOf, typeInfo, hi, Result.andThen]
  rw [if_pos hn]
  simp [add_lit']

end Go.Proofs.YtefddiikdamnbaaGreatDoor
