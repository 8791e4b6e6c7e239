/- What a pool holds and where it lies; the contracts of its given, pinned, Pins, Read. -/
import Derived.Test.YtnmeobbbcccgjaaPC
set_option maxRecDepth 100000
namespace Go.Proofs.Ytnmeobbbcccgjaa
open Go.RowKit

theorem sizeP : (Try.prog.info? 48).map (·.size) = some 5 := by kernel_rfl

set_option maxHeartbeats 400000 in
theorem pgiven_nil (w : World) : Calls Try.prog 29 #[.pointer none] w fun e w' => e = .returned (.bool false) ∧ w' = w := by
  go_enter Try.func29, Try.ntmps29
  go_wp2
  go_ret
  exact ⟨rfl, rfl⟩

set_option maxHeartbeats 400000 in
theorem pgiven_self (l : Nat) (w : World) (h : w.cell? ⟨l, 0, none⟩ = some (.pointer (some ⟨l, 0, none⟩))) :
    Calls Try.prog 29 #[.pointer (some ⟨l, 0, none⟩)] w fun e w' => e = .returned (.bool true) ∧ w' = w := by
  obtain ⟨j, hj, _⟩ := Option.map_eq_some_iff.1 sizeP
  have hq := run_eql_ptr_same (P := Try.prog) w (tp := 23) (te := 48) ⟨l, 0, none⟩ Try.underlying23 hj
  go_enter Try.func29, Try.ntmps29
  go_wp2
  go_ret
  exact ⟨rfl, rfl⟩

theorem eql_nil_pool (w : World) (a : Addr) : (binOp .eql 23 (.pointer none) (.pointer (some a))).run Try.prog w = .ok (.bool false) w := by
  have h : ∀ d : Nat, (Op.equalIn (d + 1) 23 (.pointer none) (.pointer (some a))).run Try.prog w = .ok false w := fun d => by
    simp [Op.equalIn, run_underlying Try.underlying23, sizeOf, typeInfo]
  simp only [binOp]
  simp [Op.equal, Op.maxDepth, h 9999]

set_option maxHeartbeats 400000 in
theorem pgiven_zero (l : Nat) (w : World) (h : w.cell? ⟨l, 0, none⟩ = some (.pointer none)) :
    Calls Try.prog 29 #[.pointer (some ⟨l, 0, none⟩)] w fun e w' => e = .returned (.bool false) ∧ w' = w := by
  have hq := eql_nil_pool w ⟨l, 0, none⟩
  go_enter Try.func29, Try.ntmps29
  go_wp2
  go_ret
  exact ⟨rfl, rfl⟩

def ptrFr (fb i : Nat) : Value := .pointer (some ⟨fb, i * 516, none⟩)

/-- A pool lies at block p: n frames in block fb, of which fr tells those that hold pages; m of them are in the map at block mb. -/
structure PoolG (p d fb mb n hand m : Nat) (fr : Nat → Option Fr) (w : World) : Prop where
  blk : w.heap[p]? = some (.cells #[.pointer (some ⟨p, 0, none⟩), .pointer (some ⟨d, 0, none⟩), .slice (some ⟨fb, 0, none⟩) n n, .map (some mb), .int .i64 hand] 48 (0, 0))
  n1 : 1 ≤ n
  n2 : n ≤ 1024
  hand_ : hand < n
  room : w.there fb 0 (n * 516)
  froz : ∀ j, w.frozen? ⟨fb, j, none⟩ = false
  at_ : ∀ i f, fr i = some f → i < n ∧ FrAt w fb (i * 516) f ∧ f.bytes.length = 512 ∧ f.page < 4096
  one : ∀ i j f g, fr i = some f → fr j = some g → f.page = g.page → i = j
  map : ∃ F, PMap w mb m F ∧ (∀ i f, fr i = some f → F f.page = some (ptrFr fb i)) ∧ ∀ q v, F q = some v → ∃ i f, fr i = some f ∧ (f.page : Int) = q ∧ v = ptrFr fb i
  pf : p ≠ fb
  pm : p ≠ mb
  fm : fb ≠ mb

section
variable {p d fb mb n hand m : Nat} {fr : Nat → Option Fr} {w w' : World}
theorem PoolG.lt (h : PoolG p d fb mb n hand m fr w) : p < w.heap.size := (Array.getElem?_eq_some_iff.1 h.blk).1
theorem PoolG.ltF (h : PoolG p d fb mb n hand m fr w) : fb < w.heap.size := by
  obtain ⟨u, hu⟩ := Option.isSome_iff_exists.1 (h.room 0 (by have := h.n1; omega)).1
  exact World.block_lt_of_cell? w _ hu
theorem PoolG.ltM (h : PoolG p d fb mb n hand m fr w) : mb < w.heap.size := by
  obtain ⟨F, hF, _⟩ := h.map
  exact hF.lt
theorem PoolG.c0 (h : PoolG p d fb mb n hand m fr w) : w.cell? ⟨p, 0, none⟩ = some (.pointer (some ⟨p, 0, none⟩)) := by rw [Lib.cell_of_heap h.blk]; rfl
theorem PoolG.c1 (h : PoolG p d fb mb n hand m fr w) : w.cell? ⟨p, 1, none⟩ = some (.pointer (some ⟨d, 0, none⟩)) := by rw [Lib.cell_of_heap h.blk]; rfl
theorem PoolG.c2 (h : PoolG p d fb mb n hand m fr w) : w.cell? ⟨p, 2, none⟩ = some (.slice (some ⟨fb, 0, none⟩) n n) := by rw [Lib.cell_of_heap h.blk]; rfl
theorem PoolG.c3 (h : PoolG p d fb mb n hand m fr w) : w.cell? ⟨p, 3, none⟩ = some (.map (some mb)) := by rw [Lib.cell_of_heap h.blk]; rfl
theorem PoolG.c4 (h : PoolG p d fb mb n hand m fr w) : w.cell? ⟨p, 4, none⟩ = some (.int .i64 hand) := by rw [Lib.cell_of_heap h.blk]; rfl

/-- The pool stays what it is where none of its blocks is written. -/
theorem PoolG.block (h : PoolG p d fb mb n hand m fr w) (h1 : w'.heap[p]? = w.heap[p]?) (h2 : w'.heap[fb]? = w.heap[fb]?) (h3 : w'.heap[mb]? = w.heap[mb]?) : PoolG p d fb mb n hand m fr w' := by
  obtain ⟨F, hF, h4, h5⟩ := h.map
  refine ⟨h1.trans h.blk, h.n1, h.n2, h.hand_, there_touch h.room (Touch.ofBlock (o := 0) (n := 0) h2), fun j => (World.frozen?_of_block h2).trans (h.froz j), fun i f hf => ?_, h.one, ⟨F, hF.block h3, h4, h5⟩, h.pf, h.pm, h.fm⟩
  obtain ⟨a, b, c⟩ := h.at_ i f hf
  exact ⟨a, fun j v hv => (World.cell?_of_block h2).trans (b j v hv), c⟩
theorem PoolG.kept {S : Nat → Prop} (h : PoolG p d fb mb n hand m fr w) (hk : Kept S w w') (h1 : ¬ S p) (h2 : ¬ S fb) (h3 : ¬ S mb) : PoolG p d fb mb n hand m fr w' :=
  h.block (hk.block p h.lt h1) (hk.block fb h.ltF h2) (hk.block mb h.ltM h3)
theorem PoolG.below (h : PoolG p d fb mb n hand m fr w) (hk : Below w.heap.size w w') : PoolG p d fb mb n hand m fr w' :=
  h.block (hk.block p h.lt) (hk.block fb h.ltF) (hk.block mb h.ltM)

/-- One frame has turned; of its page and whose it is nothing. -/
theorem PoolG.turnFr (h : PoolG p d fb mb n hand m fr w) {i : Nat} {f f' : Fr} (hi : fr i = some f) (ht : Touch fb (i * 516) 516 w w') (hk : Kept (fun k => k = fb) w w') (hf : FrAt w' fb (i * 516) f') (hb : f'.bytes.length = 512) (hp : f'.page = f.page) :
    PoolG p d fb mb n hand m (upd fr i (some f')) w' := by
  obtain ⟨F, hF, h4, h5⟩ := h.map
  obtain ⟨hin, _, _, hq⟩ := h.at_ i f hi
  have hpg : ∀ j g, upd fr i (some f') j = some g → ∃ g', fr j = some g' ∧ g'.page = g.page := by
    intro j g hg
    by_cases hj : j = i
    · subst hj; rw [upd_same] at hg; cases hg; exact ⟨f, hi, hp.symm⟩
    · rw [upd_other _ _ hj] at hg; exact ⟨g, hg, rfl⟩
  refine ⟨(hk.block p h.lt h.pf).trans h.blk, h.n1, h.n2, h.hand_, there_touch h.room ht, fun j => (ht.froz j).trans (h.froz j), fun j g hg => ?_, fun a b x y hx hy hxy => ?_, ⟨F, hF.block (hk.block mb h.ltM (fun e => h.fm e.symm)), fun j g hg => ?_, fun q v hv => ?_⟩, h.pf, h.pm, h.fm⟩
  · by_cases hj : j = i
    · subst hj; rw [upd_same] at hg; cases hg; exact ⟨hin, hf, hb, hp ▸ hq⟩
    · rw [upd_other _ _ hj] at hg
      obtain ⟨a, b, c, d'⟩ := h.at_ j g hg
      refine ⟨a, rangeAt_touch b ht ?_, c, d'⟩
      rw [Fr.cells_length, c]
      have : j < i ∨ i < j := by omega
      rcases this with hlt | hlt
      · left; have := Nat.mul_le_mul_right 516 (show j + 1 ≤ i from hlt); omega
      · right; have := Nat.mul_le_mul_right 516 (show i + 1 ≤ j from hlt); omega
  · obtain ⟨x', hx', ex⟩ := hpg a x hx
    obtain ⟨y', hy', ey⟩ := hpg b y hy
    exact h.one a b x' y' hx' hy' (by rw [ex, ey, hxy])
  · obtain ⟨g', hg', eg⟩ := hpg j g hg
    rw [← eg]; exact h4 j g' hg'
  · obtain ⟨j, g, hg, e1, e2⟩ := h5 q v hv
    by_cases hj : j = i
    · subst hj
      rw [hi] at hg; cases hg
      exact ⟨j, f', upd_same _ _ _, by rw [hp]; exact e1, e2⟩
    · exact ⟨j, g, by rw [upd_other _ _ hj]; exact hg, e1, e2⟩

theorem PoolG.look (h : PoolG p d fb mb n hand m fr w) {i : Nat} {f : Fr} (hi : fr i = some f) : (Instr.lookup 46 (.map (some mb)) (.int .i64 f.page) false).run Try.prog w = .ok (ptrFr fb i) w := by
  obtain ⟨F, hF, h4, _⟩ := h.map
  have := hF.look Try.underlying46 (by kernel_rfl) f.page (WalkArith.wf_i64 (by have := (h.at_ i f hi).2.2.2; omega))
  rw [this, h4 i f hi]; rfl
theorem PoolG.look_none (h : PoolG p d fb mb n hand m fr w) (q : Int) (hq : (Lit.int .i64 q).wf = true) (hn : ∀ i f, fr i = some f → (f.page : Int) ≠ q) : (Instr.lookup 46 (.map (some mb)) (.int .i64 q) false).run Try.prog w = .ok (.pointer none) w := by
  obtain ⟨F, hF, _, h5⟩ := h.map
  have := hF.look Try.underlying46 (by kernel_rfl) q hq
  rw [this]
  cases hv : F q with
  | none => rfl
  | some v =>
    obtain ⟨i, f, hi, e, _⟩ := h5 q v hv
    exact absurd e (hn i f hi)
end

set_option maxHeartbeats 800000 in
theorem pinned_yes (p d fb mb n hand m i : Nat) (fr : Nat → Option Fr) (f : Fr) (w : World) (h : PoolG p d fb mb n hand m fr w) (hi : fr i = some f) (hp : 0 < f.pins) :
    Calls Try.prog 33 #[.pointer (some ⟨p, 0, none⟩), .int .i64 f.page] w fun e w' => e = .returned (.tuple #[ptrFr fb i, .int .i64 0]) ∧ w' = w := by
  have HG := Lib.hid (pgiven_self p w h.c0)
  have hc := h.c3
  have hl := h.look hi
  have hpc := (h.at_ i f hi).2.1.pins
  obtain ⟨o, ho⟩ : ∃ o, o = i * 516 := ⟨_, rfl⟩
  obtain ⟨q, hq⟩ : ∃ q, q = f.page := ⟨_, rfl⟩
  obtain ⟨k, hk⟩ : ∃ k, k = f.pins := ⟨_, rfl⟩
  unfold ptrFr at hl ⊢
  rw [← ho] at hl hpc ⊢
  rw [← hq] at hl ⊢
  rw [← hk] at hpc hp
  clear ho hq hk h
  have hp' : (0 : Int) < k := by omega
  go_enter Try.func33, Try.ntmps33
  go_wp2_with fail
  refine HG.out.mono ?_
  rintro e w' ⟨rfl, hw⟩
  subst w'
  go_wp2
  go_ret2
  exact ⟨rfl, rfl⟩

set_option maxHeartbeats 800000 in
theorem pinned_no (p d fb mb n hand m : Nat) (fr : Nat → Option Fr) (q : Int) (w : World) (h : PoolG p d fb mb n hand m fr w) (hq : (Lit.int .i64 q).wf = true) (hn : ∀ i f, fr i = some f → (f.page : Int) = q → f.pins = 0) :
    Calls Try.prog 33 #[.pointer (some ⟨p, 0, none⟩), .int .i64 q] w fun e w' => e = .returned (.tuple #[.pointer none, .int .i64 3]) ∧ w' = w := by
  have HG := Lib.hid (pgiven_self p w h.c0)
  have hc := h.c3
  by_cases hx : ∃ i f, fr i = some f ∧ (f.page : Int) = q
  · obtain ⟨i, f, hi, rfl⟩ := hx
    have hl := h.look hi
    have hpc := (h.at_ i f hi).2.1.pins
    rw [hn i f hi rfl] at hpc
    obtain ⟨o, ho⟩ : ∃ o, o = i * 516 := ⟨_, rfl⟩
    obtain ⟨k, hk⟩ : ∃ k, k = f.page := ⟨_, rfl⟩
    unfold ptrFr at hl
    rw [← ho] at hl hpc
    rw [← hk] at hl ⊢
    clear ho hk h hn hi hq
    go_enter Try.func33, Try.ntmps33
    go_wp2_with fail
    refine HG.out.mono ?_
    rintro e w' ⟨rfl, hw⟩
    subst w'
    go_wp2
    go_ret2
    exact ⟨rfl, rfl⟩
  · have hl := h.look_none q hq (fun i f hi e => hx ⟨i, f, hi, e⟩)
    clear h hn hq hx
    go_enter Try.func33, Try.ntmps33
    go_wp2_with fail
    refine HG.out.mono ?_
    rintro e w' ⟨rfl, hw⟩
    subst w'
    go_wp2
    go_ret2
    exact ⟨rfl, rfl⟩

set_option maxHeartbeats 400000 in
theorem pinned_nobody (v : Value) (q : Int) (w : World) (hp : Calls Try.prog 29 #[v] w fun e w' => e = .returned (.bool false) ∧ w' = w) :
    Calls Try.prog 33 #[v, .int .i64 q] w fun e w' => e = .returned (.tuple #[.pointer none, .int .i64 1]) ∧ w' = w := by
  have HP := Lib.hid hp; clear hp
  go_enter Try.func33, Try.ntmps33
  go_wp2_with fail
  refine HP.out.mono ?_
  rintro e w' ⟨rfl, hw⟩
  subst w'
  go_wp2
  go_ret2
  exact ⟨rfl, rfl⟩
end Go.Proofs.Ytnmeobbbcccgjaa
