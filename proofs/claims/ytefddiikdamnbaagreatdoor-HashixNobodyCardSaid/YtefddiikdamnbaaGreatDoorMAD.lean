/- Texts of the same proof, one behind the other: PI, SA, SB, SC, PShelf. -/
import Derived.Test.YtefddiikdamnbaaGreatDoorMAC
import Derived.Laws.Bits64
import Derived.Laws.Bits64b
import Derived.Deep.QuietTactic
import Derived.BigQuiet
import Derived.Outline
import Derived.StillTailTactics
import Derived.Shelf.Spec.TrailingZeros
import Derived.ChangeKeysEq
import Derived.Deep.MidRow
import Derived.Shelf.Strings.Builder1
import Derived.Shelf.Strings.BuilderF
import Derived.Shelf.Strings.BuilderK
import Derived.Shelf.Sort.Plain
import Derived.Shelf.Slices.In.SortNone
import Derived.Test.YtefddiikdamnbaaGreatDoorProg
/- The contract of a pool's Pin, in its three ways. -/
set_option maxRecDepth 100000
namespace Go.Proofs.YtefddiikdamnbaaGreatDoor
open Go.RowKit

section
variable {p d fb mb n hand m : Nat} {fr : Nat → Option Fr} {w : World}
/-- A frame that is pinned once more, and was asked for lately. -/
theorem PoolG.pinFr (h : PoolG p d fb mb n hand m fr w) {i : Nat} {f : Fr} (hi : fr i = some f) :
    PoolG p d fb mb n hand m (upd fr i (some { f with pins := f.pins + 1, lately := true })) ((w.setCell ⟨fb, i * 516 + 1, none⟩ (.int .i64 (f.pins + 1 : Nat))).setCell ⟨fb, i * 516 + 2, none⟩ (.bool true)) ∧
    Kept (fun k => k = fb) w ((w.setCell ⟨fb, i * 516 + 1, none⟩ (.int .i64 (f.pins + 1 : Nat))).setCell ⟨fb, i * 516 + 2, none⟩ (.bool true)) := by
  obtain ⟨_, hf, hb, _⟩ := h.at_ i f hi
  obtain ⟨w1, hw1⟩ : ∃ w1, w1 = w.setCell ⟨fb, i * 516 + 1, none⟩ (.int .i64 (f.pins + 1 : Nat)) := ⟨_, rfl⟩
  have hfar1 : ∀ j, j ≠ 1 → w1.cell? ⟨fb, i * 516 + j, none⟩ = w.cell? ⟨fb, i * 516 + j, none⟩ := fun j hj => by
    rw [hw1]; exact World.cell?_setCell_other _ _ _ _ (fun e => by injection e with _ e _; omega)
  have hfar2 : ∀ j, j ≠ 2 → (w1.setCell ⟨fb, i * 516 + 2, none⟩ (.bool true)).cell? ⟨fb, i * 516 + j, none⟩ = w1.cell? ⟨fb, i * 516 + j, none⟩ := fun j hj => World.cell?_setCell_other _ _ _ _ (fun e => by injection e with _ e _; omega)
  have hk : Kept (fun k => k = fb) w (w1.setCell ⟨fb, i * 516 + 2, none⟩ (.bool true)) := by
    rw [hw1]; exact (Kept.setCell (fun k => k = fb) w (b := fb) rfl _).trans (Kept.setCell (fun k => k = fb) _ (b := fb) rfl _) (fun _ h => .inl h)
  rw [← hw1]
  refine ⟨h.turnFr hi ?_ hk (FrAt.mk (((hfar2 0 (by omega)).trans (hfar1 0 (by omega))).trans hf.page) ?_ ?_ (((hfar2 3 (by omega)).trans (hfar1 3 (by omega))).trans hf.changed) (fun j v hv => ?_)) hb rfl, hk⟩
  · rw [hw1]; exact (Touch.setCell w _ (by omega) (by omega)).trans (Touch.setCell _ _ (by omega) (by omega))
  · rw [hfar2 1 (by omega), hw1]; exact World.cell?_setCell_same _ _ _ hf.pins
  · exact World.cell?_setCell_same _ _ _ ((hfar1 2 (by omega)).trans hf.lately)
  · rw [show i * 516 + 4 + j = i * 516 + (4 + j) by omega, hfar2 (4 + j) (by omega), hfar1 (4 + j) (by omega), ← Nat.add_assoc]
    exact hf.bytes j v hv
end

set_option maxHeartbeats 800000 in
theorem pin_held (p d fb mb n hand m i : Nat) (fr : Nat → Option Fr) (f : Fr) (w : World) (h : PoolG p d fb mb n hand m fr w) (hi : fr i = some f) (hp2 : f.pins ≤ 4611686018427387904) :
    Calls Tryz.prog 107 #[.pointer (some ⟨p, 0, none⟩), .int .i64 f.page] w fun e w' => e = .returned (.int .i64 0) ∧ PoolG p d fb mb n hand m (upd fr i (some { f with pins := f.pins + 1, lately := true })) w' ∧ Kept (fun k => k = fb) w w' := by
  have HG := Lib.hid (pgiven_self p w h.c0)
  have hc := h.c3
  have hl := h.look hi
  obtain ⟨_, hf, _, hq⟩ := h.at_ i f hi
  have p1 := hf.pins
  have p2 := hf.lately
  have z1 := h.froz (i * 516 + 1)
  have z2 := h.froz (i * 516 + 2)
  have HE := Lib.hid (h.pinFr hi)
  obtain ⟨X, hX⟩ : ∃ X, X = PoolG p d fb mb n hand m (upd fr i (some { f with pins := f.pins + 1, lately := true })) := ⟨_, rfl⟩
  rw [← hX] at HE ⊢
  obtain ⟨o, ho⟩ : ∃ o, o = i * 516 := ⟨_, rfl⟩
  unfold ptrFr at hl
  rw [← ho] at hl p1 p2 z1 z2 HE
  obtain ⟨k, hk⟩ : ∃ k, k = f.pins := ⟨_, rfl⟩
  rw [← hk] at p1 hp2 HE
  obtain ⟨q, hq'⟩ : ∃ q, q = f.page := ⟨_, rfl⟩
  rw [← hq'] at hl hq ⊢
  have hq0 : (0 : Int) ≤ q := by omega
  have hq1 : (q : Int) < 4096 := by omega
  have hk2 : (k : Int) ≤ 4611686018427387904 := by omega
  have hk1 : ((k + 1 : Nat) : Int) = (k : Int) + 1 := by omega
  rw [hk1] at HE
  clear hX ho hk hq' h hf hi hp2 hk1
  go_enter Tryz.func107, Tryz.ntmps107
  go_wp2_with fail
  refine HG.out.mono ?_
  rintro e w' ⟨rfl, hw⟩
  subst w'
  go_wp2
  go_ret
  exact ⟨rfl, HE.out⟩

set_option maxHeartbeats 800000 in
theorem pin_nil (p d fb mb n hand m : Nat) (fr : Nat → Option Fr) (q : Nat) (X : World → Prop) (w : World) (h : PoolG p d fb mb n hand m fr w) (hq : q < 4096) (hno : ∀ j f, fr j = some f → f.page ≠ q)
    (hs : Calls Tryz.prog 163 #[.pointer (some ⟨p, 0, none⟩)] w fun e w' => e = .returned (.pointer none) ∧ X w') :
    Calls Tryz.prog 107 #[.pointer (some ⟨p, 0, none⟩), .int .i64 q] w fun e w' => e = .returned (.int .i64 40) ∧ X w' := by
  have HG := Lib.hid (pgiven_self p w h.c0)
  have hc := h.c3
  have hl := h.look_none q (WalkArith.wf_i64 (by omega)) (fun i f hi e => hno i f hi (by omega))
  have HS := Lib.hid hs; clear hs
  have hq0 : (0 : Int) ≤ q := by omega
  have hq1 : (q : Int) < 4096 := by omega
  clear h hno
  go_enter Tryz.func107, Tryz.ntmps107
  go_wp2_with fail
  refine HG.out.mono ?_
  rintro e w' ⟨rfl, hw⟩
  subst w'
  go_wp2_with fail
  refine HS.out.mono ?_
  rintro e w1 ⟨rfl, hx⟩
  have HX := Lib.hid hx; clear hx
  go_wp2
  go_ret
  exact ⟨rfl, HX.out⟩

/-- A frame is at hand for page q. -/
structure Spared (S : Nat → Prop) (p d fb mb n q hand m : Nat) (fr : Nat → Option Fr) (ops : List RawOp) (i : Nat) (w : World) : Prop where
  g : PoolG p d fb mb n hand m fr w
  none_ : fr i = none
  lt : i < n
  mn : m ≤ n
  no : ∀ j f, fr j = some f → f.page ≠ q
  disk : DiskAt S d ops w
  oP : ¬ S p
  oF : ¬ S fb
  oM : ¬ S mb

/-- What Pin leaves where a page has come into a frame. -/
def PinNew (p d fb mb n q : Nat) (X : Nat → Nat → (Nat → Option Fr) → (Nat → Prop) → List RawOp → World → Prop) (w' : World) : Prop :=
  ∃ i hand' m' fr' S ops w1, Spared S p d fb mb n q hand' m' fr' ops i w1 ∧ X i m' fr' S ops w1 ∧
      PoolG p d fb mb n hand' (m' + 1) (upd fr' i (some ⟨q, 1, true, false, pageOf (play ops 1) q⟩)) w' ∧ DiskAt S d ops w' ∧ Kept (fun k => k = fb ∨ k = mb) w1 w'

set_option maxHeartbeats 1600000 in
theorem pin_new (p d fb mb n hand m : Nat) (fr : Nat → Option Fr) (q : Nat) (X : Nat → Nat → (Nat → Option Fr) → (Nat → Prop) → List RawOp → World → Prop) (w : World) (h : PoolG p d fb mb n hand m fr w) (hq : q < 4096) (hno : ∀ j f, fr j = some f → f.page ≠ q)
    (hs : Calls Tryz.prog 163 #[.pointer (some ⟨p, 0, none⟩)] w fun e w' => ∃ i hand' m' fr' S ops, e = .returned (ptrFr fb i) ∧ Spared S p d fb mb n q hand' m' fr' ops i w' ∧ X i m' fr' S ops w') :
    Calls Tryz.prog 107 #[.pointer (some ⟨p, 0, none⟩), .int .i64 q] w fun e w' => e = .returned (.int .i64 0) ∧ PinNew p d fb mb n q X w' := by
  have HG := Lib.hid (pgiven_self p w h.c0)
  have hc := h.c3
  have hl := h.look_none q (WalkArith.wf_i64 (by omega)) (fun i f hi e => hno i f hi (by omega))
  have HS := Lib.hid hs; clear hs
  have hq0 : (0 : Int) ≤ q := by omega
  have hq1 : (q : Int) < 4096 := by omega
  clear h hno
  go_enter Tryz.func107, Tryz.ntmps107
  go_wp2_with fail
  refine HG.out.mono ?_
  rintro e w' ⟨rfl, hw⟩
  subst w'
  go_wp2_with fail
  refine HS.out.mono ?_
  rintro e w1 ⟨i, hand', m', fr', S, ops, rfl, hSp, hx⟩
  unfold ptrFr
  have HX := Lib.hid hx; clear hx
  have c1 := hSp.g.c1
  have ht : w1.there fb (i * 516) 516 := there_part hSp.g.room (by omega) (by have := Nat.mul_le_mul_right 516 (show i + 1 ≤ n from hSp.lt); omega)
  have HLD := Lib.hid (load_any fb (i * 516) d q S ops w1 hSp.disk hq ht hSp.oF)
  have HSP := Lib.hid hSp; clear hSp ht
  go_wp2_with fail
  refine HLD.out.mono ?_
  rintro e w2 ⟨rfl, hFr, hT, hK⟩
  have hG2 : PoolG p d fb mb n hand' m' fr' w2 := by
    have hg := HSP.out.g
    obtain ⟨F, hF, h4, h5⟩ := hg.map
    refine ⟨(hK.block p hg.lt hg.pf).trans hg.blk, hg.n1, hg.n2, hg.hand_, there_touch hg.room hT, fun j => (hT.froz j).trans (hg.froz j), fun j f hj => ?_, hg.one, ⟨F, hF.block (hK.block mb hg.ltM (fun e => hg.fm e.symm)), h4, h5⟩, hg.pf, hg.pm, hg.fm⟩
    obtain ⟨a, b, c, d'⟩ := hg.at_ j f hj
    refine ⟨a, rangeAt_touch b hT ?_, c, d'⟩
    rw [Fr.cells_length, c]
    have hji : j ≠ i := fun e => by subst e; rw [HSP.out.none_] at hj; cases hj
    have : j < i ∨ i < j := by omega
    rcases this with hlt | hlt
    · left; have := Nat.mul_le_mul_right 516 (show j + 1 ≤ i from hlt); omega
    · right; have := Nat.mul_le_mul_right 516 (show i + 1 ≤ j from hlt); omega
  obtain ⟨w3, hr, hG3, hK3⟩ := hG2.insert (g := ⟨q, 0, false, false, pageOf (play ops 1) q⟩) HSP.out.lt HSP.out.none_ HSP.out.mn hq HSP.out.no hFr (pageOf_length _ _)
  have c3 := hG2.c3
  have hi3 : upd fr' i (some (⟨q, 0, false, false, pageOf (play ops 1) q⟩ : Fr)) i = some ⟨q, 0, false, false, pageOf (play ops 1) q⟩ := upd_same _ _ _
  obtain ⟨_, hF3, _, _⟩ := hG3.at_ i _ hi3
  have p1 := hF3.pins
  have p2 := hF3.lately
  have z1 := hG3.froz (i * 516 + 1)
  have z2 := hG3.froz (i * 516 + 2)
  have hE := hG3.pinFr hi3
  have hend : PinNew p d fb mb n q X ((w3.setCell ⟨fb, i * 516 + 1, none⟩ (.int .i64 1)).setCell ⟨fb, i * 516 + 2, none⟩ (.bool true)) := by
    have hk13 : Kept (fun k => k = fb ∨ k = mb) w1 ((w3.setCell ⟨fb, i * 516 + 1, none⟩ (.int .i64 1)).setCell ⟨fb, i * 516 + 2, none⟩ (.bool true)) :=
      ((hK.mono (fun k h => .inl h)).trans (hK3.mono (T := fun k => k = fb ∨ k = mb) (fun k h => .inr h)) (fun _ h => .inl h)).trans (hE.2.mono (T := fun k => k = fb ∨ k = mb) (fun k h => .inl h)) (fun _ h => .inl h)
    refine ⟨i, hand', m', fr', S, ops, w1, HSP.out, HX.out, ?_, HSP.out.disk.kept hk13 (fun k _ hs e => by rcases e with rfl | rfl; exact HSP.out.oF hs; exact HSP.out.oM hs), hk13⟩
    have := hE.1
    have e1 : upd (upd fr' i (some (⟨q, 0, false, false, pageOf (play ops 1) q⟩ : Fr))) i (some ⟨q, 1, true, false, pageOf (play ops 1) q⟩) = upd fr' i (some ⟨q, 1, true, false, pageOf (play ops 1) q⟩) := by
      funext j
      by_cases hj : j = i
      · subst hj; rw [upd_same, upd_same]
      · rw [upd_other _ _ hj, upd_other _ _ hj, upd_other _ _ hj]
    rw [← e1]
    exact this
  have HE := Lib.hid hend
  unfold ptrFr at hr
  clear hend hE hF3 hi3 hG3 hK3 hFr hT hK hG2
  go_wp2_with (refine wpList_mapUpdate_run rfl _ _ _ 170 rfl _ _ _ (by rfl) (by rfl) (by rfl) hr ?_)
  go_ret
  exact ⟨rfl, HE.out⟩
end Go.Proofs.YtefddiikdamnbaaGreatDoor

/- A space's head as it lies in a block: the count, a bit a page, the roots. Plain words of it, and whether a page is free. -/
set_option maxRecDepth 100000
namespace Go.Proofs.YtefddiikdamnbaaGreatDoor
open Go.RowKit

structure Hd where
  count : Nat
  free : List Nat
  roots : List Nat

def Hd.cells (h : Hd) : List Value := .int .i64 h.count :: (h.free.map (fun x : Nat => Value.int .u64 (x : Int)) ++ h.roots.map (fun x : Nat => Value.int .i64 (x : Int)))
def Hd.word (h : Hd) (i : Nat) : Nat := h.free.getD i 0
def Hd.root (h : Hd) (i : Nat) : Nat := h.roots.getD i 0
def Hd.isFree (h : Hd) (q : Nat) : Bool := (h.word (q / 64)).testBit (q % 64)
def Hd.has (h : Hd) (q : Nat) : Prop := 1 ≤ q ∧ q ≤ h.count ∧ h.isFree q = false
instance (h : Hd) (q : Nat) : Decidable (h.has q) := by unfold Hd.has; infer_instance
def Hd.zero : Hd := ⟨0, List.replicate 64 0, List.replicate 16 0⟩

structure Hd.Ok (h : Hd) : Prop where
  nf : h.free.length = 64
  nr : h.roots.length = 16
  cnt : h.count < 4096
  lt : ∀ i, h.word i < 18446744073709551616
  rt : ∀ i, h.root i < 2147483648
  in_ : ∀ q, h.isFree q = true → 1 ≤ q ∧ q ≤ h.count

theorem Hd.cells_length {h : Hd} (k : h.Ok) : h.cells.length = 81 := by simp [Hd.cells, k.nf, k.nr]
theorem Hd.one (h : Hd) : ∀ v ∈ h.cells, v.oneCell' = true := by
  intro v hv
  simp only [Hd.cells, List.mem_cons, List.mem_append, List.mem_map] at hv
  rcases hv with rfl | ⟨x, _, rfl⟩ | ⟨x, _, rfl⟩ <;> rfl

/-- A head lies at o of a block. -/
def HdAt (w : World) (b o : Nat) (h : Hd) : Prop := w.rangeAt b o h.cells

section
variable {w w' : World} {b o : Nat} {h : Hd}
theorem HdAt.count (a : HdAt w b o h) : w.cell? ⟨b, o, none⟩ = some (.int .i64 h.count) := a 0 _ rfl
theorem Hd.cell_word (k : h.Ok) {i : Nat} (hi : i < 64) : h.cells[1 + i]? = some (.int .u64 (h.word i : Int)) := by
  have h1 : i < h.free.length := by rw [k.nf]; exact hi
  rw [Hd.cells, show 1 + i = i + 1 by omega, List.getElem?_cons_succ, List.getElem?_append_left (by simpa using h1), List.getElem?_map, List.getElem?_eq_getElem h1, Hd.word, List.getD_eq_getElem?_getD, List.getElem?_eq_getElem h1]
  rfl
theorem Hd.cell_root (k : h.Ok) {i : Nat} (hi : i < 16) : h.cells[65 + i]? = some (.int .i64 (h.root i : Int)) := by
  have h1 : i < h.roots.length := by rw [k.nr]; exact hi
  rw [Hd.cells, show 65 + i = (64 + i) + 1 by omega, List.getElem?_cons_succ, List.getElem?_append_right (by simp [k.nf]), List.getElem?_map, List.length_map, k.nf, show 64 + i - 64 = i by omega, List.getElem?_eq_getElem h1, Hd.root, List.getD_eq_getElem?_getD, List.getElem?_eq_getElem h1]
  rfl
theorem HdAt.word (a : HdAt w b o h) (k : h.Ok) {i : Nat} (hi : i < 64) : w.cell? ⟨b, o + 1 + i, none⟩ = some (.int .u64 (h.word i : Int)) := by
  have := a (1 + i) _ (Hd.cell_word k hi)
  rwa [← Nat.add_assoc] at this
theorem HdAt.root (a : HdAt w b o h) (k : h.Ok) {i : Nat} (hi : i < 16) : w.cell? ⟨b, o + 65 + i, none⟩ = some (.int .i64 (h.root i : Int)) := by
  have := a (65 + i) _ (Hd.cell_root k hi)
  rwa [← Nat.add_assoc] at this
theorem HdAt.block (a : HdAt w b o h) (hb : w'.heap[b]? = w.heap[b]?) : HdAt w' b o h := fun j v hv => (World.cell?_of_block hb).trans (a j v hv)
end

/-- Another count. -/
def Hd.setCount (h : Hd) (n : Nat) : Hd := { h with count := n }
/-- Another word. -/
def Hd.setWord (h : Hd) (i x : Nat) : Hd := { h with free := h.free.set i x }
/-- Another root. -/
def Hd.setRoot (h : Hd) (i x : Nat) : Hd := { h with roots := h.roots.set i x }

theorem Hd.cells_setCount (h : Hd) (n : Nat) : (h.setCount n).cells = h.cells.set 0 (.int .i64 n) := by simp [Hd.setCount, Hd.cells]
theorem Hd.cells_setWord {h : Hd} (k : h.Ok) {i : Nat} (hi : i < 64) (x : Nat) : (h.setWord i x).cells = h.cells.set (1 + i) (.int .u64 (x : Int)) := by
  rw [show 1 + i = i + 1 by omega]
  simp only [Hd.setWord, Hd.cells, List.set_cons_succ]
  rw [List.set_append_left _ _ (by simp [k.nf]; omega), List.map_set]
theorem Hd.cells_setRoot {h : Hd} (k : h.Ok) {i : Nat} (x : Nat) : (h.setRoot i x).cells = h.cells.set (65 + i) (.int .i64 (x : Int)) := by
  rw [show 65 + i = (64 + i) + 1 by omega]
  simp only [Hd.setRoot, Hd.cells, List.set_cons_succ]
  rw [List.set_append_right _ _ (by simp [k.nf]), List.map_set]
  simp [k.nf]

theorem rangeAt_set {w : World} {b o : Nat} {cs : List Value} (a : w.rangeAt b o cs) (i : Nat) (hi : i < cs.length) (v : Value) : (w.setCell ⟨b, o + i, none⟩ v).rangeAt b o (cs.set i v) := fun j u hu => by
  by_cases hj : j = i
  · subst hj
    rw [List.getElem?_set_self hi] at hu
    cases hu
    exact World.cell?_setCell_same _ _ _ (a j _ (List.getElem?_eq_getElem hi))
  · rw [List.getElem?_set_ne (fun e => hj e.symm)] at hu
    rw [World.cell?_setCell_other _ _ _ _ (fun e => by injection e with _ e _; omega)]
    exact a j u hu

theorem Hd.word_setWord (h : Hd) (k : h.Ok) (i x j : Nat) (hi : i < 64) : (h.setWord i x).word j = if j = i then x else h.word j := by
  unfold Hd.word Hd.setWord
  simp only [List.getD_eq_getElem?_getD]
  by_cases hj : j = i
  · subst hj
    rw [List.getElem?_set_self (by rw [k.nf]; exact hi), if_pos rfl]; rfl
  · rw [List.getElem?_set_ne (fun e => hj e.symm), if_neg hj]
theorem Hd.root_setRoot (h : Hd) (k : h.Ok) (i x j : Nat) (hi : i < 16) : (h.setRoot i x).root j = if j = i then x else h.root j := by
  unfold Hd.root Hd.setRoot
  simp only [List.getD_eq_getElem?_getD]
  by_cases hj : j = i
  · subst hj
    rw [List.getElem?_set_self (by rw [k.nr]; exact hi), if_pos rfl]; rfl
  · rw [List.getElem?_set_ne (fun e => hj e.symm), if_neg hj]

/-- A page is freed where it was not, and taken where it was free. -/
def Hd.turn (h : Hd) (q : Nat) : Hd := h.setWord (q / 64) (h.word (q / 64) ^^^ 2 ^ (q % 64))
theorem Hd.isFree_turn {h : Hd} (k : h.Ok) {q : Nat} (hq : q < 4096) (j : Nat) : (h.turn q).isFree j = if j = q then !h.isFree q else h.isFree j := by
  unfold Hd.isFree Hd.turn
  rw [Hd.word_setWord h k _ _ _ (by omega)]
  by_cases hw : j / 64 = q / 64
  · rw [if_pos hw, Nat.testBit_xor, Nat.testBit_two_pow, ← hw]
    by_cases hj : j = q
    · subst hj; simp
    · rw [if_neg hj, decide_eq_false (by omega)]; simp
  · rw [if_neg hw, if_neg (by rintro rfl; exact hw rfl)]
theorem Hd.Ok.turn {h : Hd} (k : h.Ok) {q : Nat} (hq : q < 4096) (hin : 1 ≤ q ∧ q ≤ h.count) : (h.turn q).Ok := by
  refine ⟨by simp [Hd.turn, Hd.setWord, k.nf], k.nr, k.cnt, fun i => ?_, k.rt, fun j hj => ?_⟩
  · unfold Hd.turn
    rw [Hd.word_setWord h k _ _ _ (by omega)]
    by_cases hi : i = q / 64
    · rw [if_pos hi]
      exact Nat.xor_lt_two_pow (n := 64) (k.lt _) (Nat.pow_lt_pow_right (by omega) (by omega))
    · rw [if_neg hi]; exact k.lt i
  · rw [Hd.isFree_turn k hq] at hj
    by_cases hjq : j = q
    · subst hjq; exact hin
    · rw [if_neg hjq] at hj; exact k.in_ j hj

theorem Hd.zero_ok : Hd.zero.Ok := by
  have hw : ∀ i, Hd.zero.word i = 0 := fun i => by
    unfold Hd.word Hd.zero
    simp only [List.getD_eq_getElem?_getD, List.getElem?_replicate]
    split <;> rfl
  have hr : ∀ i, Hd.zero.root i = 0 := fun i => by
    unfold Hd.root Hd.zero
    simp only [List.getD_eq_getElem?_getD, List.getElem?_replicate]
    split <;> rfl
  refine ⟨rfl, rfl, by decide, fun i => by rw [hw]; decide, fun i => by rw [hr]; decide, fun q hq => ?_⟩
  unfold Hd.isFree at hq
  rw [hw] at hq
  simp at hq
end Go.Proofs.YtefddiikdamnbaaGreatDoor

/- The contracts of a head's isFree, has, words, turn, and of isRoot. -/
set_option maxRecDepth 100000
namespace Go.Proofs.YtefddiikdamnbaaGreatDoor
open Go.RowKit

theorem bit_and (x r : Nat) (hx : x < 18446744073709551616) : (bits BinOp.and IntKind.u64 ((x : Int) / 2 ^ r) 1 == 1) = x.testBit r := by
  have e : (x : Int) / 2 ^ r = ((x / 2 ^ r : Nat) : Int) := by simp
  have hlt : x / 2 ^ r < 18446744073709551616 := Nat.lt_of_le_of_lt (Nat.div_le_self _ _) hx
  rw [e, show (1 : Int) = ((1 : Nat) : Int) from rfl, bits_and_u64_nat _ _ hlt (by decide), Nat.and_one_is_mod, Nat.testBit_eq_decide_div_mod_eq]
  have h2 : x / 2 ^ r % 2 = 0 ∨ x / 2 ^ r % 2 = 1 := by omega
  rcases h2 with h2 | h2 <;> rw [h2] <;> rfl
theorem ret_i64 {a b : Int} (h : a = b) : Ending.returned (.int .i64 a) = .returned (.int .i64 b) := by rw [h]
theorem ret_bool {a b : Bool} (h : a = b) : Ending.returned (.bool a) = .returned (.bool b) := by rw [h]

set_option maxHeartbeats 400000 in
theorem isFree_any (b o : Nat) (h : Hd) (q : Nat) (w : World) (a : HdAt w b o h) (k : h.Ok) (hq : q < 4096) :
    Calls Tryz.prog 116 #[.pointer (some ⟨b, o, none⟩), .int .i64 q] w fun e w' => e = .returned (.bool (h.isFree q)) ∧ w' = w := by
  have hc := a.word k (show q / 64 < 64 by omega)
  obtain ⟨x, hx⟩ : ∃ x, x = h.word (q / 64) := ⟨_, rfl⟩
  have hlt := k.lt (q / 64)
  rw [← hx] at hc hlt
  have hfr : h.isFree q = x.testBit (q % 64) := by rw [Hd.isFree, hx]
  rw [hfr]
  have hj64 : (q : Int) / 64 < 64 := by omega
  clear a k hfr hx
  go_enter Tryz.func116, Tryz.ntmps116
  go_wp2
  go_ret
  exact ⟨ret_bool (bit_and x _ hlt), rfl⟩

set_option maxHeartbeats 400000 in
theorem has_any (b o : Nat) (h : Hd) (q : Int) (w : World) (a : HdAt w b o h) (k : h.Ok) :
    Calls Tryz.prog 106 #[.pointer (some ⟨b, o, none⟩), .int .i64 q] w fun e w' => e = .returned (.bool (decide (1 ≤ q ∧ h.has q.toNat))) ∧ w' = w := by
  have hc := a.count
  have hcnt := k.cnt
  by_cases h1 : q < 1
  · have hp : ¬ (1 ≤ q ∧ h.has q.toNat) := by omega
    rw [decide_eq_false hp]
    have h2 : decide (1 ≤ q) = false := decide_eq_false (by omega)
    clear a k hp
    go_enter Tryz.func106, Tryz.ntmps106
    go_wp2
    go_ret
    exact ⟨rfl, rfl⟩
  · obtain ⟨n, rfl⟩ : ∃ n : Nat, q = n := ⟨q.toNat, by omega⟩
    rw [Int.toNat_natCast]
    by_cases h2 : h.count < n
    · have hp : ¬ (1 ≤ (n : Int) ∧ h.has n) := fun e => by have := e.2.2.1; omega
      rw [decide_eq_false hp]
      obtain ⟨c, hce⟩ : ∃ c, c = h.count := ⟨_, rfl⟩
      rw [← hce] at hc h2
      have h3 : decide (n ≤ c) = false := decide_eq_false (by omega)
      have h4 : decide ((n : Int) ≤ c) = false := decide_eq_false (by omega)
      have h5 : 1 ≤ n := by omega
      clear a k hp hce
      go_enter Tryz.func106, Tryz.ntmps106
      go_wp2
      go_ret
      exact ⟨rfl, rfl⟩
    · have HF := Lib.hid (isFree_any b o h n w a k (by omega))
      obtain ⟨f, hf⟩ : ∃ f, f = h.isFree n := ⟨_, rfl⟩
      have hp : decide (1 ≤ (n : Int) ∧ h.has n) = !f := by
        have ht : (1 ≤ (n : Int) ∧ h.has n) ↔ f = false := ⟨fun e => hf.trans e.2.2.2, fun e => ⟨by omega, by omega, by omega, hf.symm.trans e⟩⟩
        rw [decide_eq_decide.2 ht]
        cases f <;> rfl
      rw [hp]
      rw [← hf] at HF
      obtain ⟨c, hce⟩ : ∃ c, c = h.count := ⟨_, rfl⟩
      rw [← hce] at hc h2
      have h3 : decide (n ≤ c) = true := decide_eq_true (by omega)
      have h4 : decide ((n : Int) ≤ c) = true := decide_eq_true (by omega)
      have h5 : 1 ≤ n := by omega
      clear a k hp hce hf
      go_enter Tryz.func106, Tryz.ntmps106
      go_wp2_with fail
      refine HF.out.mono ?_
      rintro e w' ⟨rfl, hw⟩
      subst w'
      go_wp2
      go_ret
      exact ⟨rfl, rfl⟩

set_option maxHeartbeats 400000 in
theorem isRoot_any (n : Int) (w : World) : Calls Tryz.prog 57 #[.int .i64 n] w fun e w' => e = .returned (.bool (decide (0 ≤ n ∧ n < 16))) ∧ w' = w := by
  by_cases h1 : 0 ≤ n
  · by_cases h2 : n < 16
    · rw [decide_eq_true (⟨h1, h2⟩ : 0 ≤ n ∧ n < 16)]
      go_enter Tryz.func57, Tryz.ntmps57
      go_wp2
      go_ret
      exact ⟨by simp, rfl⟩
    · rw [decide_eq_false (fun e : 0 ≤ n ∧ n < 16 => h2 e.2)]
      go_enter Tryz.func57, Tryz.ntmps57
      go_wp2
      go_ret
      exact ⟨by simp, rfl⟩
  · rw [decide_eq_false (fun e : 0 ≤ n ∧ n < 16 => h1 e.1)]
    have h3 : decide (0 ≤ n) = false := decide_eq_false h1
    go_enter Tryz.func57, Tryz.ntmps57
    go_wp2
    go_ret
    exact ⟨by simp, rfl⟩

theorem bits_turn (x r : Nat) (hx : x < 18446744073709551616) (hr : r < 64) : bits BinOp.xor IntKind.u64 (x : Int) (IntKind.u64.wrap (2 ^ r)) = ((x ^^^ 2 ^ r : Nat) : Int) := by
  have h2 : 2 ^ r < 18446744073709551616 := Nat.pow_lt_pow_right (n := 64) (by omega) hr
  have e : IntKind.u64.wrap (2 ^ r) = ((2 ^ r : Nat) : Int) := by
    rw [IntKind.wrap_u64, show (2 : Int) ^ r = ((2 ^ r : Nat) : Int) by simp]
    exact Int.emod_eq_of_lt (Int.natCast_nonneg _) (Int.ofNat_lt.2 h2)
  rw [e, bits_xor_u64_nat _ _ hx h2]

theorem HdAt.set {w : World} {b o : Nat} {h h' : Hd} (a : HdAt w b o h) {i : Nat} {v : Value} (hi : i < h.cells.length) (he : h'.cells = h.cells.set i v) : HdAt (w.setCell ⟨b, o + i, none⟩ v) b o h' := by
  unfold HdAt; rw [he]; exact rangeAt_set a i hi v

set_option maxHeartbeats 800000 in
theorem hturn_any (b o : Nat) (h : Hd) (q : Nat) (w : World) (a : HdAt w b o h) (k : h.Ok) (hq : q < 4096) (hz : ∀ j, w.frozen? ⟨b, j, none⟩ = false) :
    Calls Tryz.prog 59 #[.pointer (some ⟨b, o, none⟩), .int .i64 q] w fun e w' => e = .returned (.tuple #[]) ∧ HdAt w' b o (h.turn q) ∧ Touch b o 81 w w' ∧ Kept (fun k => k = b) w w' := by
  have hc := a.word k (show q / 64 < 64 by omega)
  obtain ⟨x, hx⟩ : ∃ x, x = h.word (q / 64) := ⟨_, rfl⟩
  have hlt := k.lt (q / 64)
  rw [← hx] at hc hlt
  have hzz := hz (o + 1 + q / 64)
  have hj64 : (q : Int) / 64 < 64 := by omega
  have hbt := bits_turn x (q % 64) hlt (by omega)
  have HE : Hid (∀ W : World, HdAt W b o h → HdAt (W.setCell ⟨b, o + 1 + q / 64, none⟩ (.int .u64 ((x ^^^ 2 ^ (q % 64) : Nat) : Int))) b o (h.turn q)) := Lib.hid (fun W aW => by
    have hi : 1 + q / 64 < h.cells.length := by rw [Hd.cells_length k]; omega
    have := aW.set (h' := h.turn q) (v := .int .u64 ((x ^^^ 2 ^ (q % 64) : Nat) : Int)) hi (by rw [Hd.turn, Hd.cells_setWord k (by omega), hx])
    rwa [← Nat.add_assoc] at this)
  have HA := Lib.hid a
  have HB := Lib.hid hbt
  have hw1 : IntKind.i64.wrap ((q : Int) / 64) = (q : Int) / 64 := IntWalk.i64_in _ (by omega)
  have hj0 : 0 ≤ (q : Int) / 64 := by omega
  have hjn : ((q : Int) / 64).toNat = q / 64 := by omega
  have hsh : Op.shift .shl .u64 1 .i64 ((q : Int).tmod 64) = pure (.int .u64 (IntKind.u64.wrap (1 * 2 ^ (q % 64)))) := by
    have e : (q : Int).tmod 64 = ((q % 64 : Nat) : Int) := by rw [Int.tmod_eq_emod_of_nonneg (by omega)]; omega
    rw [e]
    have := shift_shl .u64 .i64 1 ((q % 64 : Nat) : Int) (by omega) (by show ((q % 64 : Nat) : Int) ≤ ((64 : Nat) : Int); omega)
    rwa [Int.toNat_natCast] at this
  clear a k hx hz hbt
  go_enter Tryz.func59, Tryz.ntmps59
  go_still_tail 14, (by kernel_rfl)
  rw [HB.out]
  go_wp2
  go_end0
  refine ⟨rfl, (HE.out w HA.out).block rfl, ?_, ?_⟩
  · exact (Touch.setCell (fb := b) (o := o) (n := 81) (i := o + 1 + q / 64) w _ (by omega) (by omega)).trans (Touch.ofBlock rfl)
  · exact (Kept.setCell (fun k => k = b) w (b := b) rfl _).trans (Kept.ofBelow (S := fun k => k = b) (Below.refl _ _).drew) (fun _ hi => .inl hi)
end Go.Proofs.YtefddiikdamnbaaGreatDoor

/- TrailingZeros64, and the contract of a head's take: the least page that is free, else a new one. -/
set_option maxRecDepth 100000
namespace Go.Proofs.YtefddiikdamnbaaGreatDoor
open Go.RowKit

/-- The library's table, as its initialiser lays it. -/
def Tab (w : World) : Prop := 1 ≤ w.heap.size ∧ ∀ j, j < 64 → w.cell? ⟨0, j, none⟩ = some (.int .u8 (Lib.deBruijn64tab.getD j 0))
theorem Tab.kept {S : Nat → Prop} {w w' : World} (h : Tab w) (hk : Kept S w w') (hS : ¬ S 0) : Tab w' :=
  ⟨Nat.le_trans h.1 hk.size, fun j hj => (World.cell?_of_block (hk.block 0 h.1 hS)).trans (h.2 j hj)⟩
theorem Tab.below {w w' : World} {B : Nat} (h : Tab w) (hb : Below B w w') (hB : 1 ≤ B) : Tab w' :=
  ⟨Nat.le_trans h.1 hb.size, fun j hj => (World.cell?_of_block (hb.block 0 hB)).trans (h.2 j hj)⟩

theorem ctz_bits (x : Nat) (h0 : x ≠ 0) (h : x < 18446744073709551616) : Lib.ctz 64 x < 64 ∧ x.testBit (Lib.ctz 64 x) = true ∧ ∀ j, j < Lib.ctz 64 x → x.testBit j = false := by
  obtain ⟨m, hm, hk⟩ := Lib.ctzFrom_spec 64 x (by omega) h
  have e : Lib.ctz 64 x = Lib.ctzFrom 64 x := by simp [Lib.ctz, h0]
  rw [e]
  obtain ⟨k, hk'⟩ : ∃ k, k = Lib.ctzFrom 64 x := ⟨_, rfl⟩
  rw [← hk'] at hm hk ⊢
  refine ⟨hk, ?_, fun j hj => ?_⟩
  · rw [hm, Nat.mul_comm, Nat.testBit_mul_two_pow]; simp
  · rw [hm, Nat.mul_comm, Nat.testBit_mul_two_pow]; simp; omega

set_option maxHeartbeats 800000 in
theorem tz64_any (x : Nat) (hx0 : x ≠ 0) (hx : x < 18446744073709551616) (w : World) (hT : Tab w) :
    Calls Tryz.prog 110 #[.int .u64 x] w fun e w' => e = .returned (.int .i64 (Lib.ctz 64 x)) ∧ w' = w := by
  obtain ⟨hlow, hk⟩ := Lib.lowest_bit 64 x hx0 hx
  obtain ⟨hi, htab⟩ := Lib.deBruijn64_at _ hk
  have hcell := hT.2 _ hi
  rw [htab] at hcell
  have key := tz64_key x _ hx hx0 hlow
  obtain ⟨k, hk'⟩ : ∃ k, k = Lib.ctz 64 x := ⟨_, rfl⟩
  rw [← hk'] at hcell key hi hk ⊢
  obtain ⟨idx, hidx⟩ : ∃ idx, idx = 2 ^ k * 285870213051353865 % 18446744073709551616 / 288230376151711744 := ⟨_, rfl⟩
  rw [← hidx] at hcell key hi
  have hx1 : ((x : Int) == 0) = false := by simp; omega
  clear hlow htab hT hk' hidx hx0 hx
  go_enter Tryz.func110, Tryz.ntmps110
  go_wp2_with (simp only [key])
  go_ret
  exact ⟨rfl, rfl⟩

/-- Page q is taken, and h' is left. -/
def Hd.NextIs (h : Hd) (q : Nat) (h' : Hd) : Prop :=
  h.isFree q = true ∧ (∀ j, j < q → h.isFree j = false) ∧ h' = h.turn q ∨ (∀ j, h.isFree j = false) ∧ h.count < 4095 ∧ q = h.count + 1 ∧ h' = h.setCount q

theorem Hd.Ok.isFree_lt {h : Hd} (k : h.Ok) {q : Nat} (hf : h.isFree q = true) : 1 ≤ q ∧ q ≤ h.count ∧ q < 4096 := by
  have := k.in_ q hf
  have := k.cnt
  omega
theorem Hd.isFree_setCount (h : Hd) (n j : Nat) : (h.setCount n).isFree j = h.isFree j := rfl
theorem Hd.Ok.setCount {h : Hd} (k : h.Ok) {n : Nat} (hn : h.count ≤ n) (h2 : n < 4096) : (h.setCount n).Ok :=
  ⟨k.nf, k.nr, h2, k.lt, k.rt, fun q hq => ⟨(k.in_ q hq).1, Nat.le_trans (k.in_ q hq).2 hn⟩⟩
theorem Hd.NextIs.spec {h h' : Hd} {q : Nat} (k : h.Ok) (hn : h.NextIs q h') : h'.Ok ∧ 1 ≤ q ∧ q < 4096 ∧ ¬ h.has q ∧ (∀ j, h'.has j ↔ h.has j ∨ j = q) ∧ h'.roots = h.roots := by
  rcases hn with ⟨h1, _, rfl⟩ | ⟨h1, h2, rfl, rfl⟩
  · obtain ⟨a, b, c⟩ := k.isFree_lt h1
    refine ⟨k.turn c ⟨a, b⟩, a, c, (fun e => by rw [e.2.2] at h1; cases h1), fun j => ?_, rfl⟩
    unfold Hd.has
    rw [Hd.isFree_turn k c]
    show (1 ≤ j ∧ j ≤ h.count ∧ _) ↔ _
    by_cases hj : j = q
    · subst hj; simp [h1]; omega
    · simp [hj]
  · refine ⟨k.setCount (by omega) (by omega), by omega, by omega, (fun e => by have := e.2.1; omega), fun j => ?_, rfl⟩
    unfold Hd.has
    rw [Hd.isFree_setCount, h1 j]
    show (1 ≤ j ∧ j ≤ h.count + 1 ∧ _) ↔ _
    simp; omega

def TakePost (b o : Nat) (h : Hd) (w : World) (e : Ending) (w' : World) : Prop :=
  (∃ q h', h.NextIs q h' ∧ e = .returned (.int .i64 q) ∧ HdAt w' b o h' ∧ Touch b o 81 w w' ∧ Kept (fun k => k = b) w w') ∨ ((∀ j, h.isFree j = false) ∧ h.count = 4095 ∧ e = .returned (.int .i64 0) ∧ w' = w)

theorem run_index_row (t e : TypeId) (n : Nat) (cs : Array Value) (v : Value) (i : Nat) (w : World) (h : Tryz.prog.underlying t = some (.array n e)) (he : Tryz.prog.plainKey e = true) (hs : (Tryz.prog.info? e).map (·.size) = some 1) (hi : i < n) (hv : cs[i]? = some v) :
    (Instr.index t (.agg cs) (.int .i64 i)).run Tryz.prog w = .ok v w := by
  have hin : (0 : Int) ≤ i ∧ (i : Int) < n := by omega
  cases hq : Tryz.prog.info? e with
  | none => simp [hq] at hs
  | some inf =>
    have hsz : inf.size = 1 := by simpa [hq] using hs
    have hp : (part e cs (i * 1)).run Tryz.prog w = .ok v w := run_part_plain w he (by rw [Nat.mul_one]; exact hv)
    simp only [Instr.index, asIntOf, Sem.run_bind, Sem.run_pure, Result.andThen_ok, run_underlying h, if_pos hin, sizeOf, typeInfo, Int.toNat_natCast]
    simpa [hq, hsz] using hp

set_option maxHeartbeats 1600000 in
theorem take_any (b o : Nat) (h : Hd) (w : World) (a : HdAt w b o h) (k : h.Ok) (hT : Tab w) (hz : ∀ j, w.frozen? ⟨b, j, none⟩ = false) :
    Calls Tryz.prog 56 #[.pointer (some ⟨b, o, none⟩)] w (TakePost b o h w) := by
  have hc := a.count
  have hzz := hz o
  have hcnt := k.cnt
  obtain ⟨cs, hcs⟩ : ∃ cs : List Value, cs = h.free.map (fun x : Nat => Value.int .u64 (x : Int)) := ⟨_, rfl⟩
  have hcl : cs.length = 64 := by rw [hcs]; simp [k.nf]
  have hcv : ∀ i, i < 64 → cs.toArray[i]? = some (.int .u64 (h.word i : Int)) := fun i hi => by
    have h1 : i < h.free.length := by rw [k.nf]; exact hi
    rw [hcs, List.getElem?_toArray, List.getElem?_map, List.getElem?_eq_getElem h1, Hd.word, List.getD_eq_getElem?_getD, List.getElem?_eq_getElem h1]
    rfl
  have hrg : w.rangeAt b (o + 1) cs := fun j v hv => by
    have hj := (List.getElem?_eq_some_iff.1 hv).1
    rw [hcl] at hj
    have h2 := hcv j hj
    rw [List.getElem?_toArray] at h2
    rw [h2] at hv
    cases hv
    exact a.word k hj
  have HR := Lib.hid hrg
  have HI : Hid ((Tryz.prog.info? 34).map (·.size) = some cs.length) := Lib.hid (by rw [hcl]; kernel_rfl)
  have HIX : Hid (∀ i : Nat, i < 64 → ∀ W, (Instr.index 34 (.agg cs.toArray) (.int .i64 i)).run Tryz.prog W = .ok (.int .u64 (h.word i : Int)) W) := Lib.hid (fun i hi W => run_index_row 34 33 64 _ _ i W (by kernel_rfl) (by kernel_rfl) (by kernel_rfl) hi (hcv i hi))
  obtain ⟨X, hX⟩ : ∃ X, X = cs.toArray := ⟨_, rfl⟩
  have HA := Lib.hid a; have HK := Lib.hid k; have HT := Lib.hid hT; have HZ := Lib.hid hz
  obtain ⟨c, hce⟩ : ∃ c, c = h.count := ⟨_, rfl⟩
  rw [← hce] at hc hcnt
  have HCE := Lib.hid hce
  have HX := Lib.hid hX
  clear hcs hcl hcv hrg a k hT hz hce hX
  go_enter Tryz.func56, Tryz.ntmps56
  go_wp2_with (refine wpList_load_mid rfl 34 _ rfl b (o + 1) (by rfl) cs _ HR.out Tryz.underlying34 rfl HI.out ?_)
  rw [← HX.out]
  rw [← HX.out] at HIX
  go_wp2
  go_loop [10] (fun i => ∃ k : Nat, k ≤ 64 ∧ i = .int .i64 k ∧ Hid (∀ j, j < k → h.word j = 0)) (fun i => 64 - (intOf i).toNat)
  case atStart => exact ⟨0, by omega, rfl, Lib.hid (fun j hj => by omega)⟩
  case round =>
    obtain ⟨k, hk, rfl, hz0⟩ := hrel
    by_cases hlt : k < 64
    · have hlt' : (k : Int) < 64 := by omega
      by_cases hx : h.word k = 0
      · have hix : (Instr.index 34 (.agg X) (.int .i64 k)).run Tryz.prog w = .ok (.int .u64 0) w := by rw [HIX.out k hlt w, hx]; rfl
        have hz1 : Hid (∀ j, j < k + 1 → h.word j = 0) := Lib.hid (fun j hj => by
          by_cases hjk : j = k
          · rw [hjk, hx]
          · exact hz0.out j (by omega))
        clear hx
        go_wp2
        go_round
        case rel => exact ⟨k + 1, by omega, by go_num, hz1⟩
        case measure => simp [intOf]; omega
      · have hix := HIX.out k hlt w
        obtain ⟨x, hxe⟩ : ∃ x, x = h.word k := ⟨_, rfl⟩
        have hxlt := HK.out.lt k
        rw [← hxe] at hix hx hxlt
        have hx1 : ((x : Int) != 0) = true := by simp; omega
        obtain ⟨hc64, hbit, hlow⟩ := ctz_bits x hx hxlt
        have HTZ := Lib.hid (tz64_any x hx hxlt w HT.out)
        obtain ⟨t, ht⟩ : ∃ t, t = Lib.ctz 64 x := ⟨_, rfl⟩
        rw [← ht] at hc64 hbit hlow HTZ
        have hq : k * 64 + t < 4096 := by omega
        have hdiv : (k * 64 + t) / 64 = k := by omega
        have hmod : (k * 64 + t) % 64 = t := by omega
        have hfr : h.isFree (k * 64 + t) = true := by unfold Hd.isFree; rw [hdiv, hmod, ← hxe]; exact hbit
        have hmin : ∀ j, j < k * 64 + t → h.isFree j = false := fun j hj => by
          unfold Hd.isFree
          by_cases hjk : j / 64 = k
          · rw [hjk, ← hxe]; exact hlow _ (by omega)
          · rw [hz0.out _ (by omega)]; simp
        have HTN : Hid (Calls Tryz.prog 59 #[.pointer (some ⟨b, o, none⟩), .int .i64 ((k : Int) * 64 + (t : Int))] w fun e w' => e = .returned (.tuple #[]) ∧ Hid (TakePost b o h w (.returned (.int .i64 ((k : Int) * 64 + (t : Int)))) w')) := Lib.hid (by
          have := hturn_any b o h (k * 64 + t) w HA.out HK.out hq HZ.out
          rw [show (k : Int) * 64 + (t : Int) = ((k * 64 + t : Nat) : Int) by omega]
          refine this.mono ?_
          rintro e w' ⟨h1, h2, h3, h4⟩
          exact ⟨h1, Lib.hid (.inl ⟨_, _, .inl ⟨hfr, hmin, rfl⟩, rfl, h2, h3, h4⟩)⟩)
        clear hxe hxlt hbit hlow ht hdiv hmod hfr hmin hx
        go_wp2_with fail
        refine HTZ.out.mono ?_
        rintro e w' ⟨rfl, hw⟩
        subst w'
        go_wp2_with fail
        refine HTN.out.mono ?_
        rintro e w' ⟨rfl, hp⟩
        go_wp2
        go_ret
        exact hp.out
    · obtain rfl : k = 64 := by omega
      have hnf : ∀ j, h.isFree j = false := fun j => by
        cases hf : h.isFree j with
        | false => rfl
        | true =>
          have hj := (HK.out.isFree_lt hf).2.2
          unfold Hd.isFree at hf
          rw [hz0.out _ (by omega)] at hf
          simp at hf
      have HNF := Lib.hid hnf; clear hnf
      by_cases hfull : c = 4095
      · have HE := Lib.hid (show TakePost b o h w (.returned (.int .i64 0)) w from .inr ⟨HNF.out, by rw [← HCE.out, hfull], rfl, rfl⟩)
        subst hfull
        go_wp2
        go_ret
        exact HE.out
      · have hne : ((c : Int) == 4095) = false := by simp; omega
        have HS : Hid (TakePost b o h w (.returned (.int .i64 ((c : Int) + 1))) (w.setCell ⟨b, o, none⟩ (.int .i64 ((c : Int) + 1)))) := Lib.hid (by
          refine .inl ⟨c + 1, h.setCount (c + 1), .inr ⟨HNF.out, by rw [← HCE.out]; omega, by rw [← HCE.out], rfl⟩, rfl, ?_, Touch.setCell (fb := b) (o := o) (n := 81) (i := o) w _ (by omega) (by omega), Kept.setCell (fun k => k = b) w (b := b) rfl _⟩
          exact HA.out.set (i := 0) (v := .int .i64 ((c + 1 : Nat) : Int)) (by rw [Hd.cells_length HK.out]; omega) (Hd.cells_setCount h (c + 1)))
        go_wp2
        go_ret
        exact HS.out
end Go.Proofs.YtefddiikdamnbaaGreatDoor

/- What the library's own contracts say at this program: each is one application. -/
namespace Go.Proofs
open Go.Shelf
def Tryz.lays170_ren : Go.Shelf.Ren := ⟨fun | 170 => 239 | n => n, fun | 70 => 261 | 3 => 3 | 0 => 0 | 72 => 263 | 37 => 113 | 5 => 5 | n => n, fun | n => n⟩
theorem Tryz.lays170 : Go.Proofs.Lays.n170 Tryz.prog Tryz.lays170_ren := {
  mixed := by kernel_rfl
  f170 := Tryz.func239.trans (congrArg some (by kernel_rfl))
  t0 := Tryz.underlying0
  a0 := Tryz.isAgg0
  z0 := Tryz.sizeOf0
  v0 := Tryz.zeroValue0
  t3 := Tryz.underlying3
  a3 := Tryz.isAgg3
  z3 := Tryz.sizeOf3
  v3 := Tryz.zeroValue3
  t37 := Tryz.underlying113
  a37 := Tryz.isAgg113
  z37 := Tryz.sizeOf113
  v37 := Tryz.zeroValue113
  t70 := Tryz.underlying261
  a70 := Tryz.isAgg261
  z70 := Tryz.sizeOf261
  v70 := Tryz.zeroValue261
  t72 := Tryz.underlying263
  a72 := Tryz.isAgg263
  z72 := Tryz.sizeOf263
  v72 := Tryz.zeroValue263 }
def Tryz.lays169_ren : Go.Shelf.Ren := ⟨fun | 169 => 202 | n => n, fun | 70 => 261 | 9 => 9 | 0 => 0 | 72 => 263 | 37 => 113 | 127 => 290 | 3 => 3 | 5 => 5 | n => n, fun | n => n⟩
theorem Tryz.lays169 : Go.Proofs.Lays.n169 Tryz.prog Tryz.lays169_ren := {
  mixed := by kernel_rfl
  f169 := Tryz.func202.trans (congrArg some (by kernel_rfl))
  t0 := Tryz.underlying0
  a0 := Tryz.isAgg0
  z0 := Tryz.sizeOf0
  v0 := Tryz.zeroValue0
  t3 := Tryz.underlying3
  a3 := Tryz.isAgg3
  z3 := Tryz.sizeOf3
  v3 := Tryz.zeroValue3
  t9 := Tryz.underlying9
  a9 := Tryz.isAgg9
  z9 := Tryz.sizeOf9
  v9 := Tryz.zeroValue9
  t37 := Tryz.underlying113
  a37 := Tryz.isAgg113
  z37 := Tryz.sizeOf113
  v37 := Tryz.zeroValue113
  t70 := Tryz.underlying261
  a70 := Tryz.isAgg261
  z70 := Tryz.sizeOf261
  v70 := Tryz.zeroValue261
  t72 := Tryz.underlying263
  a72 := Tryz.isAgg263
  z72 := Tryz.sizeOf263
  v72 := Tryz.zeroValue263
  t127 := Tryz.underlying290
  a127 := Tryz.isAgg290
  z127 := Tryz.sizeOf290
  v127 := Tryz.zeroValue290 }
theorem Tryz.Builder_Extra_169 : Builder.Extra Tryz.prog Tryz.lays169_ren := {
  sizeBuilder := by kernel_rfl
  liesBuilder := by kernel_rfl
  t5 := Tryz.underlying5
  a5 := Tryz.isAgg5
  z5 := Tryz.sizeOf5
  v5 := Tryz.zeroValue5
  infoByte := by kernel_rfl
  cellsByte := by kernel_rfl
  sizeByte := by kernel_rfl
  neB5 := by decide }
open Go.RowKit in
/-- (*strings.Builder).Len: "Len returns the number of accumulated bytes; b.Len() == len(b.String()).": the world is as it was. (THE FORM '_f': 'Lib.IsBuilderF'.) (LAID: no walk: one application.) -/
theorem Tryz.Builder_Len_f (B b : Nat) (bs : List Value) (w : World) (h : Lib.IsBuilderF 263 5 B b bs w) :
    Calls Tryz.prog 239 #[.pointer (some ⟨b, 0, none⟩)] w fun e w' => e = .returned (.int .i64 bs.length) ∧ w' = w := Any.Builder_Len_f Tryz.lays170 B b bs w h
open Go.RowKit in
/-- (*strings.Builder).String: "String returns the accumulated string.": WHATEVER THE BUILDER HOLDS; THE FORM '_k': OVER 'Lib.IsBuilderF' (a builder that 'String()' may have read), AND WITH THE FRAME THAT REACHES ABOVE THE BUILDER: 'Lib.OthersKept': every block that is not b and is no row of uint8's stands as it stood: the iterator of a range among them. (LAID: no walk: one application.) -/
theorem Tryz.Builder_String_any_k (B b : Nat) (l : List UInt8) (w : World) (h : Lib.IsBuilderF 263 5 B b (Lib.byteCells l) w) (hBw : B ≤ w.heap.size) :
    Calls Tryz.prog 202 #[.pointer (some ⟨b, 0, none⟩)] w fun e w' => e = .returned (.string ⟨l.toArray⟩) ∧ (Lib.IsBuilderF 263 5 B b (Lib.byteCells l) w' ∧ Below B w w' ∧ Lib.OthersKept 5 (some b) w w') := Any.Builder_String_any_k Tryz.lays169 Tryz.Builder_Extra_169 B b l w h hBw
def Tryz.lays189_ren : Go.Shelf.Ren := ⟨fun | 189 => 98 | 125 => 131 | 257 => 155 | 128 => 188 | 129 => 189 | 294 => 204 | 295 => 205 | 296 => 206 | 297 => 207 | 298 => 208 | 299 => 209 | 216 => 210 | 300 => 211 | 301 => 212 | 328 => 232 | 329 => 222 | 330 => 223 | 331 => 233 | 332 => 234 | 215 => 235 | 343 => 242 | n => n, fun | 28 => 57 | 3 => 3 | 46 => 194 | 0 => 0 | 51 => 255 | 53 => 33 | 4 => 4 | 183 => 249 | 182 => 248 | 131 => 202 | 5 => 5 | 9 => 9 | 218 => 282 | 222 => 286 | 228 => 297 | 229 => 91 | n => n, fun | n => n⟩
theorem Tryz.lays189 : Go.Proofs.Lays.n189 Tryz.prog Tryz.lays189_ren := {
  mixed := by kernel_rfl
  f125 := Tryz.func131.trans (congrArg some (by kernel_rfl))
  f128 := Tryz.func188.trans (congrArg some (by kernel_rfl))
  f129 := Tryz.func189.trans (congrArg some (by kernel_rfl))
  f189 := Tryz.func98.trans (congrArg some (by kernel_rfl))
  f215 := Tryz.func235.trans (congrArg some (by kernel_rfl))
  f216 := Tryz.func210.trans (congrArg some (by kernel_rfl))
  f257 := Tryz.func155.trans (congrArg some (by kernel_rfl))
  f294 := Tryz.func204.trans (congrArg some (by kernel_rfl))
  f295 := Tryz.func205.trans (congrArg some (by kernel_rfl))
  f296 := Tryz.func206.trans (congrArg some (by kernel_rfl))
  f297 := Tryz.func207.trans (congrArg some (by kernel_rfl))
  f298 := Tryz.func208.trans (congrArg some (by kernel_rfl))
  f299 := Tryz.func209.trans (congrArg some (by kernel_rfl))
  f300 := Tryz.func211.trans (congrArg some (by kernel_rfl))
  f301 := Tryz.func212.trans (congrArg some (by kernel_rfl))
  f328 := Tryz.func232.trans (congrArg some (by kernel_rfl))
  f329 := Tryz.func222.trans (congrArg some (by kernel_rfl))
  f330 := Tryz.func223.trans (congrArg some (by kernel_rfl))
  f331 := Tryz.func233.trans (congrArg some (by kernel_rfl))
  f332 := Tryz.func234.trans (congrArg some (by kernel_rfl))
  f343 := Tryz.func242.trans (congrArg some (by kernel_rfl))
  t0 := Tryz.underlying0
  a0 := Tryz.isAgg0
  z0 := Tryz.sizeOf0
  v0 := Tryz.zeroValue0
  t3 := Tryz.underlying3
  a3 := Tryz.isAgg3
  z3 := Tryz.sizeOf3
  v3 := Tryz.zeroValue3
  t4 := Tryz.underlying4
  a4 := Tryz.isAgg4
  z4 := Tryz.sizeOf4
  v4 := Tryz.zeroValue4
  t5 := Tryz.underlying5
  a5 := Tryz.isAgg5
  z5 := Tryz.sizeOf5
  v5 := Tryz.zeroValue5
  t9 := Tryz.underlying9
  a9 := Tryz.isAgg9
  z9 := Tryz.sizeOf9
  v9 := Tryz.zeroValue9
  t28 := Tryz.underlying57
  a28 := Tryz.isAgg57
  z28 := Tryz.sizeOf57
  v28 := Tryz.zeroValue57
  t46 := Tryz.underlying194
  a46 := Tryz.isAgg194
  z46 := Tryz.sizeOf194
  v46 := Tryz.zeroValue194
  t51 := Tryz.underlying255
  a51 := Tryz.isAgg255
  z51 := Tryz.sizeOf255
  v51 := Tryz.zeroValue255
  t53 := Tryz.underlying33
  a53 := Tryz.isAgg33
  z53 := Tryz.sizeOf33
  v53 := Tryz.zeroValue33
  t131 := Tryz.underlying202
  a131 := Tryz.isAgg202
  z131 := Tryz.sizeOf202
  v131 := Tryz.zeroValue202
  t182 := Tryz.underlying248
  a182 := Tryz.isAgg248
  z182 := Tryz.sizeOf248
  v182 := Tryz.zeroValue248
  t183 := Tryz.underlying249
  a183 := Tryz.isAgg249
  z183 := Tryz.sizeOf249
  v183 := Tryz.zeroValue249
  t218 := Tryz.underlying282
  a218 := Tryz.isAgg282
  z218 := Tryz.sizeOf282
  v218 := Tryz.zeroValue282
  t222 := Tryz.underlying286
  a222 := Tryz.isAgg286
  z222 := Tryz.sizeOf286
  v222 := Tryz.zeroValue286
  t228 := Tryz.underlying297
  a228 := Tryz.isAgg297
  z228 := Tryz.sizeOf297
  v228 := Tryz.zeroValue297
  t229 := Tryz.underlying91
  a229 := Tryz.isAgg91
  z229 := Tryz.sizeOf91
  v229 := Tryz.zeroValue91 }
open Go.Sort Go.RowKit in
theorem Tryz.slices_Sort_int (blk off cap : Nat) (zs : List Int) (w : World) (hH : Holds (Value.int .i64) w blk off zs.toArray) (hblk : blk < w.heap.size) (hsz : zs.length < 4611686018427387904) :
    Calls Tryz.prog 98 #[.slice (some ⟨blk, off, none⟩) zs.length cap] w fun e w' =>
      e = .returned (.tuple #[]) ∧ ∃ n os, w' = grow (putRow (Value.int .i64) (Sort.ahead w n) blk off (zs.mergeSort fun x y => decide (x ≤ y)).toArray) os := Any.slices_Sort_int Tryz.lays189 blk off cap zs w hH hblk hsz
open Go.RowKit Go.Sort in
/-- .. and plain. (LAID: no walk: one application.) -/
theorem Tryz.slices_Sort_int_none (p : Option Addr) (cap : Nat) (w : World) :
    Calls Tryz.prog 98 #[.slice p 0 cap] w fun e w' => e = .returned (.tuple #[]) ∧ w' = w := Any.slices_Sort_int_none Tryz.lays189 p cap w
end Go.Proofs
