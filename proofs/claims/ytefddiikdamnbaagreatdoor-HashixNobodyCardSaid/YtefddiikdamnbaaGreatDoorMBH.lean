/- Texts of the same proof, one behind the other: XF, XG, XH, XI, XJ, XK, XL. -/
import Derived.Test.YtefddiikdamnbaaGreatDoorMBG
import Derived.Test.YtefddiikdamnbaaGreatDoorMAD
import Derived.Lib.BitFns
import Derived.Deep.RegionHeld3
import Derived.Test.YtefddiikdamnbaaGreatDoorMBE
import Derived.Deep.RegionHeldLaw
import Derived.Deep.MidRow
/- A table in memory; its bytes; how many buckets are whole, which is split next, whether there are to be more. -/
set_option maxRecDepth 100000
namespace Go.Proofs.YtefddiikdamnbaaGreatDoor.Dm
open Go Go.RowKit

def fCells (F : Nat → Nat) : List Value := (List.range 250).map fun b => .int .i64 (F b)
def tbCells (pg n cnt : Nat) (F : Nat → Nat) : List Value := .int .i64 pg :: .int .i64 n :: .int .i64 cnt :: fCells F
theorem fCells_len (F : Nat → Nat) : (fCells F).length = 250 := by simp [fCells]
theorem fCells_at (F : Nat → Nat) {b : Nat} (hb : b < 250) : (fCells F)[b]? = some (.int .i64 (F b)) := by
  unfold fCells
  rw [List.getElem?_map, List.getElem?_range hb]
  rfl
theorem fCells_set (F : Nat → Nat) (b v : Nat) : (fCells F).set b (.int .i64 v) = fCells (upd F b v) := by
  apply List.ext_getElem?
  intro i
  by_cases hi : i < 250
  · by_cases hib : i = b
    · subst hib
      rw [List.getElem?_set_self (by rw [fCells_len]; exact hi), fCells_at _ hi, upd_same]
    · rw [List.getElem?_set_ne (fun e => hib e.symm), fCells_at _ hi, fCells_at _ hi, upd_other _ _ hib]
  · rw [List.getElem?_eq_none (by rw [List.length_set, fCells_len]; omega), List.getElem?_eq_none (by rw [fCells_len]; omega)]
/-- A table at block tb. -/
def TbAt (w : World) (tb pg n cnt : Nat) (F : Nat → Nat) : Prop := w.heap[tb]? = some (.cells (tbCells pg n cnt F).toArray 152 (0, 0))
section
variable {w w' : World} {tb pg n cnt : Nat} {F : Nat → Nat}
theorem TbAt.lt (h : TbAt w tb pg n cnt F) : tb < w.heap.size := (Array.getElem?_eq_some_iff.1 h).1
theorem TbAt.kept {T : Nat → Prop} (h : TbAt w tb pg n cnt F) (hk : Kept T w w') (hT : ¬ T tb) : TbAt w' tb pg n cnt F := by
  unfold TbAt; rw [hk.block tb h.lt hT]; exact h
theorem TbAt.below (h : TbAt w tb pg n cnt F) (hb : Below w.heap.size w w') : TbAt w' tb pg n cnt F := h.kept (Kept.ofBelow (S := fun _ => False) hb) (fun h => h)
theorem TbAt.cells (h : TbAt w tb pg n cnt F) : w.cell? ⟨tb, 0, none⟩ = some (.int .i64 pg) ∧ w.cell? ⟨tb, 1, none⟩ = some (.int .i64 n) ∧ w.cell? ⟨tb, 2, none⟩ = some (.int .i64 cnt) := by
  refine ⟨?_, ?_, ?_⟩ <;> (rw [Lib.cell_of_heap h]; rfl)
theorem TbAt.first (h : TbAt w tb pg n cnt F) {b : Nat} (hb : b < 250) : w.cell? ⟨tb, 3 + b, none⟩ = some (.int .i64 (F b)) := by
  rw [Lib.cell_of_heap h, List.getElem?_toArray, show 3 + b = b + 1 + 1 + 1 by omega]
  unfold tbCells
  rw [List.getElem?_cons_succ, List.getElem?_cons_succ, List.getElem?_cons_succ]
  exact fCells_at F hb
theorem TbAt.frozen (h : TbAt w tb pg n cnt F) (i : Nat) : w.frozen? ⟨tb, i, none⟩ = false := Lib.frozen_of_heap h i
theorem TbAt.setPage (h : TbAt w tb pg n cnt F) (v : Nat) : TbAt (w.setCell ⟨tb, 0, none⟩ (.int .i64 v)) tb v n cnt F := by
  unfold TbAt at h ⊢
  rw [heap_set_at h 0 _]
  simp [tbCells]
theorem TbAt.setCnt (h : TbAt w tb pg n cnt F) (v : Nat) : TbAt (w.setCell ⟨tb, 2, none⟩ (.int .i64 v)) tb pg n v F := by
  unfold TbAt at h ⊢
  rw [heap_set_at h 2 _]
  simp [tbCells]
theorem TbAt.setF (h : TbAt w tb pg n cnt F) (b v : Nat) : TbAt (w.setCell ⟨tb, 3 + b, none⟩ (.int .i64 v)) tb pg n cnt (upd F b v) := by
  unfold TbAt at h ⊢
  rw [heap_set_at h (3 + b) _]
  congr 2
  apply Array.ext'
  rw [Array.toList_setIfInBounds, List.toList_toArray, List.toList_toArray]
  unfold tbCells
  rw [show 3 + b = b + 1 + 1 + 1 by omega, List.set_cons_succ, List.set_cons_succ, List.set_cons_succ, fCells_set]
theorem fCells_zero : fCells (fun _ => 0) = List.replicate 250 (.int .i64 0) := by
  apply List.ext_getElem?
  intro i
  by_cases hi : i < 250
  · rw [fCells_at _ hi, List.getElem?_replicate, if_pos hi]; rfl
  · rw [List.getElem?_eq_none (by rw [fCells_len]; omega), List.getElem?_eq_none (by rw [List.length_replicate]; omega)]
/-! ### How many buckets are whole -/
theorem bitsLen_small (x : Nat) (w : World) (hx : x < 256) : Calls Tryz.prog 131 #[.int .u64 x] w fun e w' => e = .returned (.int .i64 (Lib.bitLen x)) ∧ w' = w := by
  intro cs
  obtain ⟨e, w', fr, r, s, x⟩ := (AnyS.bits_LenIn (P := Tryz.prog) (ρ := Tryz.lays189_ren) { Tryz.lays189 with } (cs.length + 2) (x : Int) w (by omega) (by omega)).2 cs (fun d hd => by cases hd; omega)
  exact ⟨e, w', fr, r, s.comes, x⟩
end
end Go.Proofs.YtefddiikdamnbaaGreatDoor.Dm

/- Contracts: how many buckets are whole, which is split next, whether there are to be more; a key's bytes and bucket; what is refused. -/
set_option maxRecDepth 100000
namespace Go.Proofs.YtefddiikdamnbaaGreatDoor.Dm
open Go Go.RowKit

theorem whole_fin : ∀ n : Fin 256, 0 < n.val → Lib.bitLen n.val = Nat.log2 n.val + 1 ∧ Nat.log2 n.val < 8 := by decide +kernel
theorem bitLen_whole {n : Nat} (h : 1 ≤ n) (h2 : n < 256) : ∃ k, Lib.bitLen n = k + 1 ∧ k < 8 ∧ whole n = 2 ^ k := by
  obtain ⟨h3, h4⟩ := whole_fin ⟨n, h2⟩ (by show 0 < n; omega)
  exact ⟨Nat.log2 n, h3, h4, rfl⟩
section
variable {w w' : World} {tb pg n cnt : Nat} {F : Nat → Nat}
theorem TbAt.drewN (h : TbAt w tb pg n cnt F) (k : Nat) : TbAt (w.drewN k) tb pg n cnt F := h.below (below_drewN _ _)
theorem whole_h (h : TbAt w tb pg n cnt F) (hn : 1 ≤ n) (hn2 : n < 256) : Calls Tryz.prog 135 #[.pointer (some ⟨tb, 0, none⟩)] w fun e w' => e = .returned (.int .i64 (whole n : Nat)) ∧ w' = w := by
  obtain ⟨_, c1, _⟩ := h.cells
  obtain ⟨k, hk, hk2, hw⟩ := bitLen_whole hn hn2
  have HB := Lib.hid (fun W => bitsLen_small n W hn2)
  rw [hk] at HB
  have hsh : Op.shift .shl .i64 1 .i64 (k : Int) = pure (.int .i64 (IntKind.i64.wrap (1 * 2 ^ k))) := by
    have := shift_shl .i64 .i64 1 (k : Int) (by omega) (by show (k : Int) ≤ ((64 : Nat) : Int); omega)
    rw [this]
    simp
  have hpw : (1 : Int) * 2 ^ k = (whole n : Nat) := by rw [hw]; simp
  have hwl := (whole_le hn).1
  obtain ⟨m, hm⟩ : ∃ m, m = whole n := ⟨_, rfl⟩
  rw [hpw] at hsh
  have hpw' := hpw
  rw [← hm] at hsh hwl hpw' ⊢
  have e3 : IntKind.i64.wrap (m : Int) = (m : Int) := IntWalk.i64_in _ (by omega)
  rw [e3] at hsh
  have HP : Hid (wrap64 (2 ^ k) = (m : Int)) := Lib.hid (by
    have e6 : (2 : Int) ^ k = (m : Int) := by rw [← hpw', Int.one_mul]
    rw [e6]; unfold wrap64; omega)
  have e4 : IntKind.i64.wrap ((k : Int) + 1 - 1) = (k : Int) := by rw [IntWalk.i64_in _ (by omega)]; omega
  have e5 : IntKind.u64.wrap (n : Int) = (n : Int) := by show (n : Int) % 18446744073709551616 = _; omega
  clear h hk hw hpw hpw' hm
  go_enter Tryz.func135, Tryz.ntmps135
  go_wp2_with fail
  refine (HB.out _).mono ?_
  rintro e w' ⟨rfl, hw⟩
  subst w'
  go_wp2
  go_ret
  exact ⟨congrArg (fun b => Ending.returned (.int .i64 b)) HP.out, rfl⟩
theorem nextSplit_h (h : TbAt w tb pg n cnt F) (hn : 1 ≤ n) (hn2 : n < 256) : Calls Tryz.prog 82 #[.pointer (some ⟨tb, 0, none⟩)] w fun e w' => e = .returned (.int .i64 ((n - whole n : Nat) : Int)) ∧ ∃ k, w' = w.drewN k := by
  have HC : Hid (∀ W, TbAt W tb pg n cnt F → W.cell? ⟨tb, 1, none⟩ = some (.int .i64 (n : Int))) := Lib.hid fun W h => h.cells.2.1
  obtain ⟨_, c1, _⟩ := h.cells
  have HWH := Lib.hid fun W (h : TbAt W tb pg n cnt F) => whole_h h hn hn2
  have HT := Lib.hid h
  have hwl := (whole_le hn).1
  obtain ⟨m, hm⟩ : ∃ m, m = whole n := ⟨_, rfl⟩
  rw [← hm] at HWH hwl ⊢
  have e3 : IntKind.i64.wrap ((n : Int) - (m : Int)) = ((n - m : Nat) : Int) := by rw [IntWalk.i64_in _ (by omega)]; omega
  clear h hm
  go_enter Tryz.func82, Tryz.ntmps82
  go_wp2
  go_quiet ((go_at_call 135; exact Calls.quiet_of_same (HWH.out _ (HT.out.drewN _))))
  go_wp2
  go_ret
  exact ⟨rfl, _, rfl⟩
theorem isDense_h (h : TbAt w tb pg n cnt F) (hn2 : n ≤ 250) : Calls Tryz.prog 91 #[.pointer (some ⟨tb, 0, none⟩)] w fun e w' => e = .returned (.bool (decide (16 * n < cnt ∧ n < 250))) ∧ ∃ k, w' = w.drewN k := by
  obtain ⟨_, c1, c2⟩ := h.cells
  have e3 : IntKind.i64.wrap (16 * (n : Int)) = 16 * (n : Int) := IntWalk.i64_in _ (by omega)
  clear h
  by_cases h1 : 16 * n < cnt
  · have f1 : 16 * (n : Int) < (cnt : Int) := by omega
    have hd : decide ((n : Int) < 250) = decide (16 * n < cnt ∧ n < 250) := by
      rw [Bool.eq_iff_iff, decide_eq_true_iff, decide_eq_true_iff]; omega
    have HD := Lib.hid hd
    clear h1 hd
    go_enter Tryz.func91, Tryz.ntmps91
    go_wp2
    go_quiet (fail)
    go_wp2
    go_ret
    exact ⟨congrArg (fun b => Ending.returned (.bool b)) HD.out, _, rfl⟩
  · have f1 : ¬ 16 * (n : Int) < (cnt : Int) := by omega
    have hd : false = decide (16 * n < cnt ∧ n < 250) := (decide_eq_false (fun h => h1 h.1 : ¬ (16 * n < cnt ∧ n < 250))).symm
    have f2 : (cnt : Int) ≤ 16 * (n : Int) := by omega
    have f3 : decide (16 * (n : Int) < (cnt : Int)) = false := decide_eq_false f1
    have HD := Lib.hid hd
    clear h1 hd
    go_enter Tryz.func91, Tryz.ntmps91
    go_wp2
    go_quiet (fail)
    go_wp2
    go_ret
    exact ⟨congrArg (fun b => Ending.returned (.bool b)) HD.out, _, rfl⟩
end

/-! ### Keys -/
theorem KeyE.dok {x : En} (h : KeyE x.d) : dOk x.k x.n x.s x.xs = true := by have := h.1; rw [En.ok_d] at this; exact this
section
variable {w : World} {x : En}
theorem bytesOf_h (hx : x.In w) (h : KeyE x.d) : Calls Tryz.prog 94 #[x.dv] w fun e w' => e = .returned (.string ⟨x.d.kb.toArray⟩) ∧ Below w.heap.size w w' := by
  have HX := Lib.hid hx
  have HF := Lib.hid (h.dok)
  rw [En.kb_d]
  obtain ⟨k, n, s, a, xs, lc, t⟩ := x
  simp only [En.dv] at HF ⊢
  obtain ⟨T, hT⟩ : ∃ T : ByteArray, T = ⟨(datB k n s xs).toArray⟩ := ⟨_, rfl⟩
  have HBY : Hid (∀ W, Sl W a xs → Calls Tryz.prog 153 #[.agg #[.int .i64 k, .int .i64 n, .string s, .slice a xs.length lc]] W fun e w' => e = .returned (.tuple #[.string T, .int .i64 0]) ∧ Below W.heap.size W w') := Lib.hid fun W hS => by
    rw [hT]; exact bytes_ok k n s a xs lc W hS HF.out
  rw [← hT]
  clear hx h hT HF
  go_enter Tryz.func94, Tryz.ntmps94
  go_wp2_with fail
  refine (HBY.out _ (HX.out.sl.below ((Below.refl _ _).alloc (Nat.le_refl _) _) (Nat.le_refl _))).mono ?_
  rintro e w1 ⟨rfl, hb1⟩
  go_wp2
  go_ret
  exact ⟨rfl, below_al _ hb1⟩
/-- What is refused of a key. -/
def refK (d : Dt) : Int := refusedE [1, 2] (d, 0)
theorem refK_or (d : Dt) : refK d = if d.ok = true then (if d.1 = 1 ∨ d.1 = 2 then 0 else 10) else 1 := by
  simp [refK, refusedE, mayE]
theorem refE_or (c : Et) : refusedE [1, 2] c = if 0 ≤ c.2 ∧ c.2 < 16777216 then refK c.1 else 1 := by
  rw [refK_or]
  unfold refusedE mayE
  by_cases h : 0 ≤ c.2 ∧ c.2 < 16777216
  · rw [decide_eq_true h, if_pos h]; simp
  · rw [decide_eq_false h, if_neg h]; simp
theorem refE_zero {c : Et} (hn : c.1.nums) : refusedE [1, 2] c = 0 ↔ InE c := by
  rw [refE_or]
  unfold InE KeyE
  by_cases h : 0 ≤ c.2 ∧ c.2 < 16777216
  · rw [if_pos h, refK_or]
    by_cases h1 : c.1.ok = true
    · rw [if_pos h1]
      by_cases h2 : c.1.1 = 1 ∨ c.1.1 = 2
      · rw [if_pos h2]; exact ⟨fun _ => ⟨⟨h1, hn, h2⟩, h⟩, fun _ => rfl⟩
      · rw [if_neg h2]; exact ⟨fun e => by omega, fun e => absurd e.1.2.2 h2⟩
    · rw [if_neg h1]; exact ⟨fun e => by omega, fun e => absurd e.1.1 h1⟩
  · rw [if_neg h]; exact ⟨fun e => by omega, fun e => absurd e.2 h⟩
theorem dok_kind {k n : Int} {s : ByteArray} {xs : List It} (h : dOk k n s xs = true) (h3 : k ≠ 3) : k = 1 ∨ k = 2 := by
  unfold dOk at h
  rw [if_neg h3] at h
  rcases (itemOk_true h).2 with e | e
  · exact .inl e.1
  · exact .inr e.1
theorem refK_no {x : En} (h : ¬ dOk x.k x.n x.s x.xs = true) : refK x.d = 1 := by
  rw [refK_or, if_neg (by rw [En.ok_d]; exact h)]
theorem refK_list {x : En} (h : dOk x.k x.n x.s x.xs = true) (h3 : x.k = 3) : refK x.d = 10 := by
  rw [refK_or, if_pos (by rw [En.ok_d]; exact h), if_neg]
  show ¬ (x.k = 1 ∨ x.k = 2)
  omega
theorem refK_yes {x : En} (h : dOk x.k x.n x.s x.xs = true) (h3 : ¬ x.k = 3) : refK x.d = 0 := by
  rw [refK_or, if_pos (by rw [En.ok_d]; exact h), if_pos]
  exact dok_kind h h3
theorem refusesKey_h (hx : x.In w) : Calls Tryz.prog 84 #[x.dv] w fun e w' => e = .returned (.int .i64 (refK x.d)) ∧ Below w.heap.size w w' := by
  have HX := Lib.hid hx
  by_cases h : dOk x.k x.n x.s x.xs = true
  · have h10 := refK_list h
    have h00 := refK_yes h
    obtain ⟨v, hv⟩ : ∃ v, v = refK x.d := ⟨_, rfl⟩
    rw [← hv] at h10 h00 ⊢
    clear hv
    obtain ⟨k, n, s, a, xs, lc, t⟩ := x
    simp only [En.dv] at h h10 h00 ⊢
    have HS : Hid (Sl w a xs) := Lib.hid HX.out.sl
    clear hx HX
    have HCK := Lib.hid fun W (hS : Sl W a xs) => check_ok k n s a xs lc W hS h
    by_cases h3 : k = 3
    · rw [h10 h3]
      clear h h10 h00
      subst h3
      go_enter Tryz.func84, Tryz.ntmps84
      go_wp2_with fail
      refine (HCK.out _ (HS.out.below ((Below.refl _ _).alloc (Nat.le_refl _) _) (Nat.le_refl _))).mono ?_
      rintro e w1 ⟨rfl, hb1⟩
      have hc := hb1.cell (p := ⟨w.heap.size, 0, none⟩) (by rw [World.size_alloc]; exact Nat.lt_succ_self _)
      go_wp2
      go_ret
      exact ⟨rfl, below_al _ hb1⟩
    · rw [h00 h3]
      clear h h10 h00
      go_enter Tryz.func84, Tryz.ntmps84
      go_wp2_with fail
      refine (HCK.out _ (HS.out.below ((Below.refl _ _).alloc (Nat.le_refl _) _) (Nat.le_refl _))).mono ?_
      rintro e w1 ⟨rfl, hb1⟩
      have hc := hb1.cell (p := ⟨w.heap.size, 0, none⟩) (by rw [World.size_alloc]; exact Nat.lt_succ_self _)
      go_wp2
      go_ret
      exact ⟨rfl, below_al _ hb1⟩
  · rw [refK_no h]
    obtain ⟨k, n, s, a, xs, lc, t⟩ := x
    simp only [En.dv] at h ⊢
    have HS : Hid (Sl w a xs) := Lib.hid HX.out.sl
    clear hx HX
    have HCK := Lib.hid fun W (hS : Sl W a xs) => check_no k n s a xs lc W hS (by simpa using h)
    clear h
    go_enter Tryz.func84, Tryz.ntmps84
    go_wp2_with fail
    refine (HCK.out _ (HS.out.below ((Below.refl _ _).alloc (Nat.le_refl _) _) (Nat.le_refl _))).mono ?_
    rintro e w1 ⟨rfl, hb1⟩
    go_wp2
    go_ret
    exact ⟨rfl, below_al _ hb1⟩
end
end Go.Proofs.YtefddiikdamnbaaGreatDoor.Dm

/- Contracts: a key's bucket; an entry as it is held, and back; what is refused of an entry. -/
set_option maxRecDepth 100000
namespace Go.Proofs.YtefddiikdamnbaaGreatDoor.Dm
open Go Go.RowKit

section
variable {w w' : World} {tb pg n cnt : Nat} {F : Nat → Nat} {x : En}
set_option maxHeartbeats 800000 in
theorem bucketOf_h (h : TbAt w tb pg n cnt F) (hn : 1 ≤ n) (hn2 : n ≤ 250) (hx : x.In w) (hk : KeyE x.d) : Calls Tryz.prog 85 #[.pointer (some ⟨tb, 0, none⟩), x.dv] w fun e w' => e = .returned (.int .i64 (bktE n x.d : Nat)) ∧ Below w.heap.size w w' := by
  have HX := Lib.hid hx
  have hf := hk.dok
  have hkb := En.kb_d x
  obtain ⟨m, hm⟩ : ∃ m, m = whole n := ⟨_, rfl⟩
  obtain ⟨v, hv⟩ : ∃ v, v = hsE x.d := ⟨_, rfl⟩
  have hvb : fnv (datB x.k x.n x.s x.xs) = (v : Int) ∧ v < 4294967296 := by
    have h1 := fnv_bounds (datB x.k x.n x.s x.xs)
    rw [hv]; unfold hsE; rw [hkb]; omega
  have hwl := whole_le hn
  have hbk : bktE n x.d = if v % (2 * m) < n then v % (2 * m) else v % m := by rw [hv, hm]; rfl
  rw [hbk]
  rw [← hm] at hwl
  obtain ⟨w1, w2, w3⟩ := hwl
  have HWH : Hid (∀ W, TbAt W tb pg n cnt F → Calls Tryz.prog 135 #[.pointer (some ⟨tb, 0, none⟩)] W fun e w' => e = .returned (.int .i64 (m : Nat)) ∧ w' = W) := Lib.hid fun W h => by rw [hm]; exact whole_h h hn (by omega)
  have HT := Lib.hid h
  obtain ⟨k, kn, s, a, xs, lc, t⟩ := x
  simp only [En.dv] at hf hvb ⊢
  have HS : Hid (Sl w a xs) := Lib.hid HX.out.sl
  have HH : Hid (∀ W, Sl W a xs → Calls Tryz.prog 137 #[.agg #[.int .i64 k, .int .i64 kn, .string s, .slice a xs.length lc]] W fun e w' => e = .returned (.tuple #[.int .i64 (v : Int), .int .i64 0]) ∧ Below W.heap.size W w') := Lib.hid fun W hS => by
    have := hash_ok k kn s a xs lc W hS hf
    rw [hvb.1] at this
    exact this
  have hv2 := hvb.2
  have hr1 : (v : Int) % (2 * (m : Int)) = ((v % (2 * m) : Nat) : Int) := by push_cast; rfl
  have hr2 : (v : Int) % (m : Int) = ((v % m : Nat) : Int) := by push_cast; rfl
  have q1 := Nat.mod_lt v (show 0 < 2 * m by omega)
  have q2 := Nat.mod_lt v (show 0 < m by omega)
  obtain ⟨r1, hr1'⟩ : ∃ r, r = v % (2 * m) := ⟨_, rfl⟩
  obtain ⟨r2, hr2'⟩ : ∃ r, r = v % m := ⟨_, rfl⟩
  rw [← hr1'] at hr1 q1 ⊢
  rw [← hr2'] at hr2 q2 ⊢
  have HQ1 := Lib.hid hr1
  have HQ2 := Lib.hid hr2
  obtain ⟨R, hR⟩ : ∃ R, R = if r1 < n then r1 else r2 := ⟨_, rfl⟩
  rw [← hR]
  have hRy : r1 < n → R = r1 := fun h => by rw [hR, if_pos h]
  have hRn : ¬ r1 < n → R = r2 := fun h => by rw [hR, if_neg h]
  have HRY := Lib.hid hRy
  have HRN := Lib.hid hRn
  clear hR hRy hRn
  have z1 : ¬ 2 * (m : Int) = 0 := by omega
  have z2 : ¬ (m : Int) = 0 := by omega
  clear h hx hk hf hkb hv hm hbk hvb HX hr1' hr2'
  go_enter Tryz.func85, Tryz.ntmps85
  go_wp2_with fail
  refine (HH.out _ (HS.out.below ((Below.refl _ _).alloc (Nat.le_refl _) _) (Nat.le_refl _))).mono ?_
  rintro e W2 ⟨rfl, hb2⟩
  have HB2 : Hid (Below w.heap.size w W2) := Lib.hid (below_al _ hb2)
  have HT2 : Hid (TbAt W2 tb pg n cnt F) := Lib.hid (HT.out.below HB2.out)
  have c1 := HT2.out.cells.2.1
  clear hb2
  go_wp2_with fail
  refine (HWH.out _ HT2.out).mono ?_
  rintro e W3 ⟨rfl, hw3⟩
  subst W3
  by_cases hlt : r1 < n
  · have hlt' : (r1 : Int) < (n : Int) := by omega
    have hR := HRY.out hlt
    subst hR
    clear hlt
    go_wp2
    go_ret
    exact ⟨congrArg (fun z => Ending.returned (.int .i64 z)) HQ1.out, HB2.out⟩
  · have hlt' : ¬ (r1 : Int) < (n : Int) := by omega
    have hR := HRN.out hlt
    subst hR
    clear hlt
    go_wp2_with fail
    refine (HWH.out _ HT2.out).mono ?_
    rintro e W4 ⟨rfl, hw4⟩
    subst W4
    go_wp2
    go_ret
    exact ⟨congrArg (fun z => Ending.returned (.int .i64 z)) HQ2.out, HB2.out⟩

set_option maxHeartbeats 800000 in
theorem refusesEntry_h (hx : x.In w) : Calls Tryz.prog 88 #[x.v] w fun e w' => e = .returned (.int .i64 (refusedE [1, 2] x.c)) ∧ Below w.heap.size w w' := by
  have HX := Lib.hid hx
  rw [refE_or]
  show Calls _ _ _ _ fun e w' => e = .returned (.int .i64 (if 0 ≤ x.t ∧ x.t < 16777216 then refK x.d else 1)) ∧ _
  have HRK : Hid (∀ W, Below w.heap.size w W → Calls Tryz.prog 84 #[x.dv] W fun e w' => e = .returned (.int .i64 (refK x.d)) ∧ Below W.heap.size W w') := Lib.hid fun W hb => refusesKey_h (HX.out.below hb)
  obtain ⟨v, hv⟩ : ∃ v, v = refK x.d := ⟨_, rfl⟩
  rw [← hv] at HRK ⊢
  clear hx hv HX
  obtain ⟨k, kn, s, a, xs, lc, t⟩ := x
  simp only [En.dv, En.v] at HRK ⊢
  by_cases h0 : t < 0
  · rw [if_neg (by omega)]
    go_enter Tryz.func88, Tryz.ntmps88
    go_wp2
    go_ret
    exact ⟨rfl, (Below.refl _ _).alloc (Nat.le_refl _) _⟩
  · by_cases h1 : 16777216 ≤ t
    · rw [if_neg (by omega)]
      go_enter Tryz.func88, Tryz.ntmps88
      go_wp2
      go_ret
      exact ⟨rfl, (Below.refl _ _).alloc (Nat.le_refl _) _⟩
    · rw [if_pos (by omega)]
      go_enter Tryz.func88, Tryz.ntmps88
      go_wp2_with fail
      refine (HRK.out _ ?_).mono ?_
      · exact (Below.refl _ _).alloc (Nat.le_refl _) _
      rintro e W2 ⟨rfl, hb2⟩
      go_wp2
      go_ret
      exact ⟨rfl, below_al _ hb2⟩
end
end Go.Proofs.YtefddiikdamnbaaGreatDoor.Dm

/- Contracts: an entry as it is held, its address, whose it is. -/
set_option maxRecDepth 100000
namespace Go.Proofs.YtefddiikdamnbaaGreatDoor.Dm
open Go Go.RowKit

theorem or_two (N b i : Nat) (hN : N * 2 ^ i < 72057594037927936) (hi : i ≤ 32) (hb : b < 2 ^ i) : bits BinOp.or IntKind.i64 ((N : Int) * 2 ^ i) (b : Int) = ((N * 2 ^ i + b : Nat) : Int) := by
  have e : (N : Int) * 2 ^ i = ((N * 2 ^ i : Nat) : Int) := by push_cast; rfl
  have hp : 2 ^ i ≤ 2 ^ 32 := Nat.pow_le_pow_right (by omega) hi
  rw [e]
  obtain ⟨M, hM⟩ : ∃ M, M = N * 2 ^ i := ⟨_, rfl⟩
  have h1 : (BitVec.ofInt 64 (M : Int)).toNat = M := by rw [BitVec.toNat_ofInt]; omega
  have h2 : (BitVec.ofInt 64 (b : Int)).toNat = b := by rw [BitVec.toNat_ofInt]; omega
  rw [← hM]
  show IntKind.i64.wrap ((BitVec.ofInt 64 (M : Int) ||| BitVec.ofInt 64 (b : Int)).toNat : Int) = _
  have h3 : M ||| b = M + b := by rw [hM, Nat.mul_comm]; exact (Nat.two_pow_add_eq_or_of_lt hb N).symm
  rw [BitVec.toNat_or, h1, h2, h3, IntKind.wrap_i64]
  omega

section
variable {w w' : World} {x : En}
set_option maxHeartbeats 1600000 in
theorem tidOf_h (c : Et) (hc : InE c) (w : World) : Calls Tryz.prog 97 #[.string ⟨(heldE c).toArray⟩] w fun e w' => e = .returned (.int .i64 c.2) ∧ ∃ k, w' = w.drewN k := by
  obtain ⟨x, y, z, hbe, hxyz, _, _, _⟩ := tid_back hc.2.1 hc.2.2
  obtain ⟨n, hn⟩ : ∃ n, n = c.1.kb.length := ⟨_, rfl⟩
  have hlen : (heldE c).length = n + 3 := by unfold heldE; rw [List.length_append, beL_len, hn]
  have hnk := (kb_len hc.1).2
  rw [← hn] at hnk
  obtain ⟨s, hs⟩ : ∃ s : ByteArray, s = ⟨(heldE c).toArray⟩ := ⟨_, rfl⟩
  have hsz : s.size = n + 3 := by rw [hs, ← hlen]; rfl
  obtain ⟨T, hT⟩ : ∃ T : ByteArray, T = ⟨[x, y, z].toArray⟩ := ⟨_, rfl⟩
  have hex : s.extract n (n + 3) = T := by
    rw [hs, hT, str_cut]
    congr 2
    unfold heldE
    rw [hn, hbe, List.drop_left]
    simp
  have hTz : T.size = 3 := by rw [hT]; rfl
  have i0 := fun W => str_byte [x, y, z] 0 (by simp) W
  have i1 := fun W => str_byte [x, y, z] 1 (by simp) W
  have i2 := fun W => str_byte [x, y, z] 2 (by simp) W
  rw [← hT] at i0 i1 i2
  have j0 : ∀ W, (Instr.index 9 (.string T) (.int .i64 0)).run Tryz.prog W = .ok (.int .u8 (x.toNat : Int)) W := i0
  have j1 : ∀ W, (Instr.index 9 (.string T) (.int .i64 1)).run Tryz.prog W = .ok (.int .u8 (y.toNat : Int)) W := i1
  have j2 : ∀ W, (Instr.index 9 (.string T) (.int .i64 2)).run Tryz.prog W = .ok (.int .u8 (z.toNat : Int)) W := i2
  have hx1 := UInt8.toNat_lt x
  have hy1 := UInt8.toNat_lt y
  have hz1 := UInt8.toNat_lt z
  obtain ⟨X, hX⟩ : ∃ X, X = x.toNat := ⟨_, rfl⟩
  obtain ⟨Y, hY⟩ : ∃ Y, Y = y.toNat := ⟨_, rfl⟩
  obtain ⟨Z, hZ⟩ : ∃ Z, Z = z.toNat := ⟨_, rfl⟩
  rw [← hX] at hx1 j0 hxyz
  rw [← hY] at hy1 j1 hxyz
  rw [← hZ] at hz1 j2 hxyz
  have o1 : bits BinOp.or IntKind.i64 ((X : Int) * 65536) ((Y : Int) * 256) = ((X * 65536 + Y * 256 : Nat) : Int) := by
    have := or_two X (Y * 256) 16 (by omega) (by omega) (by omega)
    rw [show ((Y * 256 : Nat) : Int) = (Y : Int) * 256 by omega] at this
    exact this
  have o2 : bits BinOp.or IntKind.i64 (((X * 65536 + Y * 256 : Nat) : Int)) (Z : Int) = c.2 := by
    have := or_two (X * 256 + Y) Z 8 (by omega) (by omega) (by omega)
    rw [← hxyz]
    rw [show ((X * 65536 + Y * 256 : Nat) : Int) = ((X * 256 + Y : Nat) : Int) * 2 ^ 8 by omega]
    rw [this]; omega
  obtain ⟨M, hM⟩ : ∃ M, M = X * 65536 + Y * 256 := ⟨_, rfl⟩
  rw [← hM] at o1 o2
  have HO := Lib.hid (show bits BinOp.or IntKind.i64 (bits BinOp.or IntKind.i64 ((X : Int) * 65536) ((Y : Int) * 256)) (Z : Int) = c.2 by rw [o1, o2])
  have n1 : IntKind.i64.wrap (((n + 3 : Nat) : Int) - 3) = (n : Int) := by rw [IntWalk.i64_in _ (by omega)]; omega
  have n2 : (s.size : Int) = (n : Int) + 3 := by omega
  have n3 : ((n : Int) + 3 - 3).toNat = n := by omega
  rw [← hs]
  clear hbe hxyz hn hlen hs hT i0 i1 i2 hX hY hZ o1 o2 hM hc
  go_enter Tryz.func97, Tryz.ntmps97
  go_wp2
  go_quiet (fail)
  go_wp2
  go_ret
  exact ⟨congrArg (fun z => Ending.returned (.int .i64 z)) HO.out, _, rfl⟩

/-- A key's entries. -/
theorem held_is {c : Et} {d : Dt} (hc : KeyE c.1) (hd : KeyE d) : ((heldE c).length = d.kb.length + 3 ∧ d.kb <+: heldE c) ↔ c.1 = d := by
  constructor
  · rintro ⟨h1, h2⟩
    unfold heldE at h1 h2
    rw [List.length_append, beL_len] at h1
    have h3 : d.kb = c.1.kb := by
      obtain ⟨r, hr⟩ := h2
      exact (List.append_inj hr (by omega)).1
    rcases key_order hc hd with h | h | h
    · exact absurd h3.symm h.ne
    · exact absurd h3 h.ne
    · exact h
  · intro h
    unfold heldE
    rw [← h, List.length_append, beL_len]
    exact ⟨rfl, List.prefix_append _ _⟩
theorem isOf_h (c : Et) (d : Dt) (hc : KeyE c.1) (hd : KeyE d) (w : World) : Calls Tryz.prog 96 #[.string ⟨(heldE c).toArray⟩, .string ⟨d.kb.toArray⟩] w fun e w' => e = .returned (.bool (decide (c.1 = d))) ∧ ∃ k, w' = w.drewN k := by
  have hk := (kb_len hd).2
  have hh : (heldE c).length ≤ 76 := by have := (kb_len hc).2; unfold heldE; rw [List.length_append, beL_len]; omega
  have hiff := held_is hc hd
  obtain ⟨s, hs⟩ : ∃ s : ByteArray, s = ⟨(heldE c).toArray⟩ := ⟨_, rfl⟩
  obtain ⟨p, hp⟩ : ∃ p : ByteArray, p = ⟨d.kb.toArray⟩ := ⟨_, rfl⟩
  obtain ⟨n, hn⟩ : ∃ n, n = (heldE c).length := ⟨_, rfl⟩
  obtain ⟨m, hm⟩ : ∃ m, m = d.kb.length := ⟨_, rfl⟩
  have hss : s.size = n := by rw [hs, hn]; rfl
  have hps : p.size = m := by rw [hp, hm]; rfl
  rw [← hn] at hh
  rw [← hm] at hk
  have e3 : IntKind.i64.wrap ((m : Int) + 3) = (m : Int) + 3 := IntWalk.i64_in _ (by omega)
  have HR : Hid (n = m + 3 → ((s.extract 0 m).toList == p.toList) = decide (c.1 = d)) := Lib.hid fun e => by
    rw [Bool.eq_iff_iff, decide_eq_true_iff, ← hiff, ← hn, ← hm, beq_iff_eq, ByteArray.toList_eq, ByteArray.toList_eq, hs, hp, str_cut]
    show (((heldE c).drop 0).take (m - 0) = d.kb) ↔ _
    rw [List.drop_zero, Nat.sub_zero, hm, List.prefix_iff_eq_take]
    exact ⟨fun h => ⟨by rw [e, hm], h.symm⟩, fun h => h.2.symm⟩
  have HN : Hid (n ≠ m + 3 → false = decide (c.1 = d)) := Lib.hid fun e => (decide_eq_false (fun h => e (by rw [hn, hm]; exact (hiff.2 h).1))).symm
  rw [← hs, ← hp]
  clear hs hp hn hm hiff hc hd
  by_cases h : n = m + 3
  · have h2 : (n : Int) = (m : Int) + 3 := by omega
    have HR2 := Lib.hid (HR.out h)
    clear HR HN
    subst h
    have e4 : ((m + 3 : Nat) : Int) = (m : Int) + 3 := by omega
    go_enter Tryz.func96, Tryz.ntmps96
    go_wp2
    go_ret
    exact ⟨congrArg (fun z => Ending.returned (.bool z)) HR2.out, 0, rfl⟩
  · have h2 : ¬ (n : Int) = (m : Int) + 3 := by omega
    have HR2 := Lib.hid (HN.out h)
    clear HR HN h
    go_enter Tryz.func96, Tryz.ntmps96
    go_wp2
    go_ret
    exact ⟨congrArg (fun z => Ending.returned (.bool z)) HR2.out, 0, rfl⟩
end
end Go.Proofs.YtefddiikdamnbaaGreatDoor.Dm

/- Contracts: an entry as it is held. -/
set_option maxRecDepth 100000
namespace Go.Proofs.YtefddiikdamnbaaGreatDoor.Dm
open Go Go.RowKit

theorem row3_conv (x y z : Nat) (hx : x < 256) (hy : y < 256) (hz : z < 256) (W : World) (b : Nat) (h : W.heap[b]? = some (.cells #[.int .u8 (x : Int), .int .u8 (y : Int), .int .u8 (z : Int)] 5 (0, 0))) :
    (convert 113 9 (.slice (some ⟨b, 0, none⟩) 3 3)).run Tryz.prog W = .ok (.string ⟨[UInt8.ofNat x, UInt8.ofNat y, UInt8.ofNat z].toArray⟩) W :=
  run_convert_bytes_back (P := Tryz.prog) _ 113 9 5 ⟨b, 0, none⟩ 3 [UInt8.ofNat x, UInt8.ofNat y, UInt8.ofNat z] Tryz.underlying113 Tryz.underlying5 Tryz.underlying9 (by
    intro j hj
    have hj : j < 3 := hj
    match j, hj with
    | 0, _ => exact (Lib.cell_of_heap h _).trans (by simp; omega)
    | 1, _ => exact (Lib.cell_of_heap h _).trans (by simp; omega)
    | 2, _ => exact (Lib.cell_of_heap h _).trans (by simp; omega))
section
variable {w w' : World} {x : En}
set_option maxHeartbeats 1600000 in
theorem heldOf_h (hx : x.In w) (h : InE x.c) : Calls Tryz.prog 89 #[x.v] w fun e w' => e = .returned (.string ⟨(heldE x.c).toArray⟩) ∧ Below w.heap.size w w' := by
  have HX := Lib.hid hx
  obtain ⟨w1, hw1⟩ : ∃ w1, w1 = w.alloc (.cells #[.int .i64 x.k, .int .i64 x.n, .string x.s, .slice x.a x.xs.length x.lc, .int .i64 x.t] 84) := ⟨_, rfl⟩
  obtain ⟨gb, hgb⟩ : ∃ gb, gb = w.heap.size := ⟨_, rfl⟩
  have hb1 : Below w.heap.size w w1 := by rw [hw1]; exact (Below.refl _ _).alloc (Nat.le_refl _) _
  have hlt1 : gb < w1.heap.size := by rw [hw1, hgb, World.size_alloc]; exact Nat.lt_succ_self _
  have hrow : w1.heap[gb]? = some (.cells #[.int .i64 x.k, .int .i64 x.n, .string x.s, .slice x.a x.xs.length x.lc, .int .i64 x.t] 84 (0, 0)) := by rw [hw1, hgb]; exact heap_alloc_new w _
  obtain ⟨kb, hkb⟩ : ∃ kb : ByteArray, kb = ⟨x.d.kb.toArray⟩ := ⟨_, rfl⟩
  have hkl := (kb_len h.1).2
  have hks : kb.size ≤ 73 := by rw [hkb]; exact hkl
  have HBY : Hid (∀ W, Below w1.heap.size w1 W → Calls Tryz.prog 94 #[x.dv] W fun e w' => e = .returned (.string kb) ∧ Below W.heap.size W w') := Lib.hid fun W hb => by
    rw [hkb]; exact bytesOf_h (HX.out.below (hb1.trans (hb.mono hb1.size))) h.1
  obtain ⟨X, Y, Z, hbe, _, hX, hY, hZ⟩ := tid_back h.2.1 h.2.2
  have hX1 := UInt8.toNat_lt X
  have hY1 := UInt8.toNat_lt Y
  have hZ1 := UInt8.toNat_lt Z
  obtain ⟨T, hT⟩ : ∃ T : ByteArray, T = ⟨[X, Y, Z].toArray⟩ := ⟨_, rfl⟩
  have hTs : T.size = 3 := by rw [hT]; rfl
  have HRES : Hid (kb ++ T = ⟨(heldE x.c).toArray⟩) := Lib.hid (by rw [hkb, hT, bytesA]; unfold heldE; rw [hbe]; rfl)
  have HCV : Hid (∀ W b, W.heap[b]? = some (.cells #[.int .u8 (X.toNat : Int), .int .u8 (Y.toNat : Int), .int .u8 (Z.toNat : Int)] 5 (0, 0)) → (convert 113 9 (.slice (some ⟨b, 0, none⟩) 3 3)).run Tryz.prog W = .ok (.string T) W) := Lib.hid fun W b hh => by
    have := row3_conv X.toNat Y.toNat Z.toNat hX1 hY1 hZ1 W b hh
    rw [this, hT]; simp
  have ht : x.c.2 = x.t := rfl
  have ht0 := h.2.1
  have ht1 := h.2.2
  rw [ht] at hX hY hZ ht0 ht1
  obtain ⟨x1, hx1⟩ : ∃ n, n = X.toNat := ⟨_, rfl⟩
  obtain ⟨y1, hy1⟩ : ∃ n, n = Y.toNat := ⟨_, rfl⟩
  obtain ⟨z1, hz1⟩ : ∃ n, n = Z.toNat := ⟨_, rfl⟩
  rw [← hx1] at hX hX1 HCV
  rw [← hy1] at hY hY1 HCV
  rw [← hz1] at hZ hZ1 HCV
  obtain ⟨R, hR⟩ : ∃ R, R = (⟨(heldE x.c).toArray⟩ : ByteArray) := ⟨_, rfl⟩
  rw [← hR] at HRES ⊢
  have HW1 := Lib.hid hw1
  have HGB := Lib.hid hgb
  have HB1 := Lib.hid hb1
  clear hkb hkl hbe hT ht hx1 hy1 hz1 hx h hR hw1 hgb hb1
  obtain ⟨k, n, s, a, xs, lc, t⟩ := x
  simp only [En.v, En.dv] at HBY hrow HW1 hX hY hZ ht0 ht1 ⊢
  have c0 : w1.cell? ⟨gb, 0, none⟩ = some (.int .i64 k) := (Lib.cell_of_heap hrow _).trans rfl
  have c1 : w1.cell? ⟨gb, 1, none⟩ = some (.int .i64 n) := (Lib.cell_of_heap hrow _).trans rfl
  have c2 : w1.cell? ⟨gb, 2, none⟩ = some (.string s) := (Lib.cell_of_heap hrow _).trans rfl
  have c3 : w1.cell? ⟨gb, 3, none⟩ = some (.slice a xs.length lc) := (Lib.cell_of_heap hrow _).trans rfl
  have c4 : w1.cell? ⟨gb, 4, none⟩ = some (.int .i64 t) := (Lib.cell_of_heap hrow _).trans rfl
  have u1 : IntKind.u8.wrap (t / 65536) = (x1 : Int) := by show t / 65536 % 256 = _; omega
  have u2 : IntKind.u8.wrap (t / 256) = (y1 : Int) := by rw [hY]; rfl
  have u3 : IntKind.u8.wrap t = (z1 : Int) := by rw [hZ]; rfl
  have hcv1 : ∀ W : World, (convert 113 9 (.slice (some ⟨W.heap.size, 0, none⟩) 3 3)).run Tryz.prog (W.alloc (.cells #[.int .u8 (x1 : Int), .int .u8 (y1 : Int), .int .u8 (z1 : Int)] 5)) = .ok (.string T) (W.alloc (.cells #[.int .u8 (x1 : Int), .int .u8 (y1 : Int), .int .u8 (z1 : Int)] 5)) := fun W => HCV.out _ _ (heap_alloc_new _ _)
  have HS : Hid (∀ W, Below w1.heap.size w1 W → (W.cell? ⟨gb, 0, none⟩ = some (.int .i64 k) ∧ W.cell? ⟨gb, 1, none⟩ = some (.int .i64 n) ∧ W.cell? ⟨gb, 2, none⟩ = some (.string s) ∧ W.cell? ⟨gb, 3, none⟩ = some (.slice a xs.length lc) ∧ W.cell? ⟨gb, 4, none⟩ = some (.int .i64 t) ∧ Below w1.heap.size w1 W)) := Lib.hid fun W hb =>
    ⟨(hb.cell (p := ⟨gb, 0, none⟩) hlt1).trans c0, (hb.cell (p := ⟨gb, 1, none⟩) hlt1).trans c1, (hb.cell (p := ⟨gb, 2, none⟩) hlt1).trans c2, (hb.cell (p := ⟨gb, 3, none⟩) hlt1).trans c3, (hb.cell (p := ⟨gb, 4, none⟩) hlt1).trans c4, hb⟩
  have B0 : Below w1.heap.size w1 w1 := Below.refl _ _
  have hcv3 : ∀ W : World, (convert 113 9 (.slice (some ⟨W.heap.size, 0, none⟩) 3 3)).run Tryz.prog (W.alloc (.cells #[.int .u8 (x1 : Int), .int .u8 (y1 : Int), .int .u8 (z1 : Int)] 5)).drew = .ok (.string T) (W.alloc (.cells #[.int .u8 (x1 : Int), .int .u8 (y1 : Int), .int .u8 (z1 : Int)] 5)).drew := fun W => HCV.out _ _ (heap_alloc_new _ _)
  clear hX hY hZ hrow
  go_enter Tryz.func89, Tryz.ntmps89
  go_wp2
  rw [← HW1.out, ← HGB.out]
  go_region_held (fun w' => w'.cell? ⟨gb, 0, none⟩ = some (.int .i64 k) ∧ w'.cell? ⟨gb, 1, none⟩ = some (.int .i64 n) ∧ w'.cell? ⟨gb, 2, none⟩ = some (.string s) ∧ w'.cell? ⟨gb, 3, none⟩ = some (.slice a xs.length lc) ∧ w'.cell? ⟨gb, 4, none⟩ = some (.int .i64 t) ∧ Below w1.heap.size w1 w')
    ((refine HS.out _ ?_; first
      | exact Below.refl _ _
      | exact (Below.refl _ _).drew
      | exact (Below.refl _ _).drew.alloc (Nat.le_refl _) _
      | exact ((Below.refl _ _).alloc (Nat.le_refl _) _).drew
      | exact (Below.refl _ _).drew.trans hb2
      | exact ((Below.refl _ _).drew.trans hb2).alloc hb2.size _
      | exact ((Below.refl _ _).drew.alloc (Nat.le_refl _) _).trans (hb2.mono (by show w1.heap.size ≤ (w1.drew.alloc _).heap.size; rw [World.size_alloc]; exact Nat.le_succ _))
      | exact ((Below.refl _ _).alloc (Nat.le_refl _) _).drew.trans (hb2.mono (by show w1.heap.size ≤ (w1.alloc _).heap.size; rw [World.size_alloc]; exact Nat.le_succ _))))
    (first
    | (go_at_call 94; refine (HBY.out _ (Below.refl _ _).drew).mono ?_; rintro e w2 ⟨rfl, hb2⟩)
    | (go_at_call 94; refine (HBY.out _ ((Below.refl _ _).alloc (Nat.le_refl _) _).drew).mono ?_; rintro e w2 ⟨rfl, hb2⟩; have hcv2 := HCV.out w2 w1.heap.size (((Kept.ofBelow (S := fun _ => False) hb2).block _ (by show w1.heap.size < (w1.alloc _).heap.size; rw [World.size_alloc]; exact Nat.lt_succ_self _) (fun h => h)).trans (heap_alloc_new w1 _)))
    | (go_at_call 94; refine (HBY.out _ ((Below.refl _ _).drew.alloc (Nat.le_refl _) _)).mono ?_; rintro e w2 ⟨rfl, hb2⟩; have hcv2 := HCV.out w2 w1.heap.size (((Kept.ofBelow (S := fun _ => False) hb2).block _ (by show w1.heap.size < (w1.drew.alloc _).heap.size; rw [World.size_alloc]; exact Nat.lt_succ_self _) (fun h => h)).trans (heap_alloc_new w1.drew _))))
  all_goals go_split_ands
  all_goals go_wp2
  all_goals go_ret
  all_goals exact ⟨congrArg (fun z => Ending.returned (.string z)) HRES.out, HB1.out.trans (Below.mono (by assumption) HB1.out.size)⟩
end
end Go.Proofs.YtefddiikdamnbaaGreatDoor.Dm

/- Contracts: the entry that is held; its bucket. -/
set_option maxRecDepth 100000
namespace Go.Proofs.YtefddiikdamnbaaGreatDoor.Dm
open Go Go.RowKit

theorem of_held (c : Et) (hc : InE c) (w : World) : Calls Tryz.prog 132 #[.string ⟨(heldE c).toArray⟩] w fun e w' => ∃ a lc, e = .returned (.tuple #[.agg #[.int .i64 c.1.1, .int .i64 c.1.2.1, .string c.1.2.2.1, .slice a 0 lc], .int .i64 (c.1.kb.length : Nat), .int .i64 0]) ∧ Below w.heap.size w w' := by
  have h1 := held_len hc
  refine (of_any ⟨(heldE c).toArray⟩ w (by rw [held_bytes]; omega)).mono ?_
  rintro e w' ⟨hb, h | ⟨k, n, t, a, xs, lc, m, h, rfl, _, _, _, _⟩⟩
  · have h2 := h.1
    have h3 : ofF (heldE c) = none := h2
    rw [held_of hc] at h3
    cases h3
  · have h3 : ofF (heldE c) = some ((k, n, t), xs.map cont, m) := h
    rw [held_of hc] at h3
    have h4 := Option.some.inj h3
    have h5 : xs = [] := by
      have := congrArg (fun p => p.2.1) h4
      have this : [] = xs.map cont := this
      cases xs with
      | nil => rfl
      | cons x r => cases this
    have h6 : (c.1.1, c.1.2.1, c.1.2.2.1) = (k, n, t) := congrArg (fun p => p.1) h4
    have h7 : c.1.kb.length = m := congrArg (fun p => p.2.2) h4
    subst h5
    have e1 : c.1.1 = k := congrArg (fun p => p.1) h6
    have e2 : c.1.2.1 = n := congrArg (fun p => p.2.1) h6
    have e3 : c.1.2.2.1 = t := congrArg (fun p => p.2.2) h6
    exact ⟨a, lc, by rw [e1, e2, e3, h7]; rfl, hb⟩

theorem results_entry {fn : Func} {p q : Tmp} (h : fn.results = #[.cell p 84, .tmp q]) (tmps : Array Value) (w : World) (g : Nat) (cs : List Value) (k : cs.length = 5) (v : Value) (hp : tmps.getD p undef = .pointer (some ⟨g, 0, none⟩)) (hq : tmps.getD q undef = v) (hg : w.heap[g]? = some (.cells cs.toArray 84 (0, 0))) :
    (results fn tmps).run Tryz.prog w = .ok (.tuple #[.agg cs.toArray, v]) w := by
  have hp' : tmps[p]?.getD undef = .pointer (some ⟨g, 0, none⟩) := by simpa using hp
  have hq' : tmps[q]?.getD undef = v := by simpa using hq
  have hr : w.rangeAt g 0 cs := fun j x hj => by
    rw [Nat.zero_add]
    exact (Lib.cell_of_heap hg j).trans (by simpa using hj)
  simp [results, h, hp', hq', asAddr, run_loadVar_mid (P := Tryz.prog) w g 0 84 cs _ hr Tryz.underlying84 rfl (by rw [k]; kernel_rfl)]

set_option maxHeartbeats 1600000 in
theorem entryOf_h (c : Et) (hc : InE c) (w : World) : Calls Tryz.prog 80 #[.string ⟨(heldE c).toArray⟩] w fun e w' => ∃ a lc, e = .returned (.tuple #[.agg #[.int .i64 c.1.1, .int .i64 c.1.2.1, .string c.1.2.2.1, .slice a 0 lc, .int .i64 c.2], .bool true]) ∧ Below w.heap.size w w' := by
  have HOF := Lib.hid fun W => of_held c hc W
  have HTI := Lib.hid fun W => tidOf_h c hc W
  have hlen : (heldE c).length = c.1.kb.length + 3 := by unfold heldE; rw [List.length_append, beL_len]
  have hl2 := (held_len hc).2
  obtain ⟨s, hs⟩ : ∃ s : ByteArray, s = ⟨(heldE c).toArray⟩ := ⟨_, rfl⟩
  obtain ⟨m, hm⟩ : ∃ m, m = c.1.kb.length := ⟨_, rfl⟩
  have hsz : s.size = m + 3 := by rw [hs, hm, ← hlen]; rfl
  have hk3 : ¬ c.1.1 = 3 := by rcases hc.1.2.2 with e | e <;> rw [e] <;> decide
  have hm2 : m ≤ 80 := by omega
  obtain ⟨⟨k, n, t, l⟩, d⟩ := c
  simp only at hk3 hm HOF HTI ⊢
  rw [← hm] at HOF
  rw [← hs] at HOF HTI ⊢
  have e3 : IntKind.i64.wrap ((m : Int) + 3) = (m : Int) + 3 := IntWalk.i64_in _ (by omega)
  have e4 : (s.size : Int) = (m : Int) + 3 := by omega
  clear hs hm hlen hl2 hc
  go_enter Tryz.func80, Tryz.ntmps80
  go_wp2_with fail
  refine (HOF.out _).mono ?_
  rintro e w2 ⟨a, lc, rfl, hb2⟩
  go_wp2_with fail
  obtain ⟨W, hW⟩ : ∃ W, W = w2.alloc (.cells #[.int .i64 k, .int .i64 n, .string t, .slice a 0 lc] 81) := ⟨_, rfl⟩
  obtain ⟨gb, hgb⟩ : ∃ gb, gb = w.heap.size := ⟨_, rfl⟩
  obtain ⟨kb, hkb⟩ : ∃ kb, kb = w2.heap.size := ⟨_, rfl⟩
  have hkrow : W.heap[kb]? = some (.cells #[.int .i64 k, .int .i64 n, .string t, .slice a 0 lc] 81 (0, 0)) := by rw [hW, hkb]; exact heap_alloc_new w2 _
  have hs2 := hb2.size
  rw [World.size_alloc] at hs2
  have hbW : Below w2.heap.size w2 W := by rw [hW]; exact (Below.refl _ _).alloc (Nat.le_refl _) _
  have hgrow : W.heap[gb]? = some (.cells #[.int .i64 0, .int .i64 0, .string ⟨#[]⟩, .slice none 0 0, .int .i64 0] 84 (0, 0)) := by
    rw [hgb]
    exact ((Kept.ofBelow (S := fun _ => False) hbW).block _ (by omega) (fun h => h)).trans (((Kept.ofBelow (S := fun _ => False) hb2).block _ (by rw [World.size_alloc]; exact Nat.lt_succ_self _) (fun h => h)).trans (heap_alloc_new w _))
  have hne : gb ≠ kb := by omega
  have hlt : gb < W.heap.size := by have := hbW.size; omega
  have HWB : Hid (Below w.heap.size w W) := Lib.hid (below_al _ (hb2.trans (hbW.mono hb2.size)))
  have c0 : W.cell? ⟨kb, 0, none⟩ = some (.int .i64 k) := (Lib.cell_of_heap hkrow _).trans rfl
  have c1 : W.cell? ⟨kb, 1, none⟩ = some (.int .i64 n) := (Lib.cell_of_heap hkrow _).trans rfl
  have c2 : W.cell? ⟨kb, 2, none⟩ = some (.string t) := (Lib.cell_of_heap hkrow _).trans rfl
  have c3 : W.cell? ⟨kb, 3, none⟩ = some (.slice a 0 lc) := (Lib.cell_of_heap hkrow _).trans rfl
  have g0 : W.cell? ⟨gb, 0, none⟩ = some (.int .i64 0) := (Lib.cell_of_heap hgrow _).trans rfl
  have g1 : W.cell? ⟨gb, 1, none⟩ = some (.int .i64 0) := (Lib.cell_of_heap hgrow _).trans rfl
  have g2 : W.cell? ⟨gb, 2, none⟩ = some (.string ⟨#[]⟩) := (Lib.cell_of_heap hgrow _).trans rfl
  have g3 : W.cell? ⟨gb, 3, none⟩ = some (.slice none 0 0) := (Lib.cell_of_heap hgrow _).trans rfl
  have g4 : W.cell? ⟨gb, 4, none⟩ = some (.int .i64 0) := (Lib.cell_of_heap hgrow _).trans rfl
  have f0 := Lib.frozen_of_heap hgrow 0
  have f1 := Lib.frozen_of_heap hgrow 1
  have f2 := Lib.frozen_of_heap hgrow 2
  have f3 := Lib.frozen_of_heap hgrow 3
  have f4 := Lib.frozen_of_heap hgrow 4
  rw [← hW, ← hgb, ← hkb]
  have HROW : Hid (∀ j, ((((((W.drewN j).setCell ⟨gb, 0, none⟩ (.int .i64 k)).setCell ⟨gb, 1, none⟩ (.int .i64 n)).setCell ⟨gb, 2, none⟩ (.string t)).setCell ⟨gb, 3, none⟩ (.slice a 0 lc)).setCell ⟨gb, 4, none⟩ (.int .i64 d)).heap[gb]? = some (.cells [.int .i64 k, .int .i64 n, .string t, .slice a 0 lc, .int .i64 d].toArray 84 (0, 0))) := Lib.hid fun j => by
    have h0 : (W.drewN j).heap[gb]? = some (.cells #[.int .i64 0, .int .i64 0, .string ⟨#[]⟩, .slice none 0 0, .int .i64 0] 84 (0, 0)) := hgrow
    rw [heap_set_at (heap_set_at (heap_set_at (heap_set_at (heap_set_at h0 _ _) _ _) _ _) _ _) _ _]
    rfl
  have HBEL : Hid (∀ j, Below w.heap.size w ((((((W.drewN j).setCell ⟨gb, 0, none⟩ (.int .i64 k)).setCell ⟨gb, 1, none⟩ (.int .i64 n)).setCell ⟨gb, 2, none⟩ (.string t)).setCell ⟨gb, 3, none⟩ (.slice a 0 lc)).setCell ⟨gb, 4, none⟩ (.int .i64 d))) := Lib.hid fun j => by
    have hb : Below w.heap.size w (W.drewN j) := HWB.out.trans ((below_drewN W j).mono HWB.out.size)
    have e : w.heap.size ≤ gb := by omega
    exact ((((hb.setCell e _).setCell e _).setCell e _).setCell e _).setCell e _
  clear hW hb2 hbW hkrow hgrow hs2 hkb
  have HGB := Lib.hid hgb
  clear hgb
  go_region_with (go_at_call 97; refine (HTI.out _).mono ?_; rintro e w3 ⟨rfl, j, hw⟩; subst w3)
  all_goals go_wp2
  all_goals exact bodyPost_ret (results_entry rfl _ _ gb _ rfl _ rfl rfl (HROW.out _)) rfl ⟨_, _, rfl, HBEL.out _⟩
section
variable {w : World} {tb pg n cnt : Nat} {F : Nat → Nat}
set_option maxHeartbeats 800000 in
theorem bucketOfHeld_h (h : TbAt w tb pg n cnt F) (hn : 1 ≤ n) (hn2 : n ≤ 250) (c : Et) (hc : InE c) : Calls Tryz.prog 140 #[.pointer (some ⟨tb, 0, none⟩), .string ⟨(heldE c).toArray⟩] w fun e w' => e = .returned (.tuple #[.int .i64 (bktE n c.1 : Nat), .bool true]) ∧ Below w.heap.size w w' := by
  have HEO := Lib.hid (entryOf_h c hc w)
  have hck := hc.1
  have hxl := hck.plain.1
  have h5 : I64 c.1.2.1 := hck.2.1.1
  obtain ⟨s, hs⟩ : ∃ s : ByteArray, s = ⟨(heldE c).toArray⟩ := ⟨_, rfl⟩
  obtain ⟨r, hr⟩ : ∃ r, r = bktE n c.1 := ⟨_, rfl⟩
  have HBK : Hid (∀ W a lc, Below w.heap.size w W → Calls Tryz.prog 85 #[.pointer (some ⟨tb, 0, none⟩), .agg #[.int .i64 c.1.1, .int .i64 c.1.2.1, .string c.1.2.2.1, .slice a 0 lc]] W fun e w' => e = .returned (.int .i64 (r : Nat)) ∧ Below W.heap.size W w') := Lib.hid fun W a lc hb => by
    have e : (⟨c.1.1, c.1.2.1, c.1.2.2.1, a, [], lc, 0⟩ : En).d = c.1 := by
      obtain ⟨⟨k, n, t, l⟩, d⟩ := c
      have h7 : l = [] := hxl
      subst h7
      rfl
    have := bucketOf_h (x := ⟨c.1.1, c.1.2.1, c.1.2.2.1, a, [], lc, 0⟩) (h.below hb) hn hn2 ⟨.inl rfl, h5, (fun x hx => by cases hx), by unfold I64; show _ ≤ (0 : Int) ∧ (0 : Int) ≤ _; omega⟩ (by rw [e]; exact hck)
    rw [e, ← hr] at this
    exact this
  rw [← hs] at HEO ⊢
  rw [← hr]
  obtain ⟨⟨k, m, t, l⟩, d⟩ := c
  simp only at HEO HBK
  clear h hn hn2 hc hck hxl h5 hs hr
  go_enter Tryz.func140, Tryz.ntmps140
  go_wp2_with fail
  refine HEO.out.mono ?_
  rintro e w2 ⟨a, lc, rfl, hb2⟩
  have HB2 := Lib.hid hb2
  clear hb2
  go_wp2_with fail
  refine (HBK.out _ a lc ?_).mono ?_
  · exact HB2.out.trans ((Below.refl _ _).alloc HB2.out.size _)
  rintro e w3 ⟨rfl, hb3⟩
  have HB3 : Hid (Below w.heap.size w w3) := Lib.hid ((HB2.out.trans ((Below.refl _ _).alloc HB2.out.size _)).trans (hb3.mono (by rw [World.size_alloc]; have := HB2.out.size; omega)))
  clear hb3
  go_wp2
  go_ret2
  exact ⟨rfl, HB3.out⟩
end
end Go.Proofs.YtefddiikdamnbaaGreatDoor.Dm

/- Contract: the table's bytes. -/
set_option maxRecDepth 100000
namespace Go.Proofs.YtefddiikdamnbaaGreatDoor.Dm
open Go Go.RowKit

/-- The table's bytes, as many as are written when k buckets are told of. -/
def tbK (n cnt : Nat) (F : Nat → Nat) (k : Nat) : List UInt8 := byt (n : Int) :: byt ((cnt / 65536 : Nat) : Int) :: byt ((cnt / 256 : Nat) : Int) :: byt (cnt : Int) :: (List.range k).flatMap (fun b => [byt ((F b / 256 : Nat) : Int), byt (F b : Int)])
theorem tbK_len (n cnt : Nat) (F : Nat → Nat) (k : Nat) : (tbK n cnt F k).length = 4 + 2 * k := by
  unfold tbK
  simp only [List.length_cons, two_len]
  omega
theorem tbK_succ (n cnt : Nat) (F : Nat → Nat) (k : Nat) : tbK n cnt F (k + 1) = tbK n cnt F k ++ [byt ((F k / 256 : Nat) : Int), byt (F k : Int)] := by
  unfold tbK
  rw [List.range_succ, List.flatMap_append]
  simp
theorem tbK_all (n cnt : Nat) (F : Nat → Nat) : tbK n cnt F 250 ++ List.replicate (512 - (tbK n cnt F 250).length) 0 = tbE n cnt F := by
  rw [tbK_len]
  unfold tbK tbE
  simp
theorem four_reads (w : World) (a b c d : Nat) (ha : a < 256) (hb : b < 256) (hc : c < 256) (hd : d < 256) : ReadsB (w.alloc (.cells #[.int .u8 a, .int .u8 b, .int .u8 c, .int .u8 d] 5)) (some ⟨w.heap.size, 0, none⟩) [UInt8.ofNat a, UInt8.ofNat b, UInt8.ofNat c, UInt8.ofNat d] := by
  refine .inr ⟨w.heap.size, 0, rfl, by simp, fun j hj => ?_⟩
  have hn := heap_alloc_new w (.cells #[.int .u8 a, .int .u8 b, .int .u8 c, .int .u8 d] 5)
  rw [Lib.cell_of_heap hn, Nat.zero_add]
  match j, hj with
  | 0, _ => simp; omega
  | 1, _ => simp; omega
  | 2, _ => simp; omega
  | 3, _ => simp; omega
theorem ofNat_byt (x : Nat) : UInt8.ofNat (x % 256) = byt (x : Int) := UInt8.toNat_inj.1 (by rw [byt_nat', UInt8.toNat_ofNat']; omega)

section
variable {w : World} {tb pg n cnt : Nat} {F : Nat → Nat}
set_option maxHeartbeats 3200000 in
theorem tbBytes_h (h : TbAt w tb pg n cnt F) : Calls Tryz.prog 133 #[.pointer (some ⟨tb, 0, none⟩)] w fun e w' => e = .returned (.string ⟨(tbE n cnt F).toArray⟩) ∧ Below w.heap.size w w' := by
  obtain ⟨i, hi, hz, hs, hby⟩ := info_parts infoByte
  have hmk : (Instr.makeSlice 113 (.int .i64 0) (.int .i64 512)).run Tryz.prog w = .ok (.slice (some ⟨w.heap.size, 0, none⟩) 0 512) (w.alloc (.cells (Lib.byteCells (List.replicate 512 0)).toArray 5)) := by
    have h := run_make (P := Tryz.prog) w 113 5 i _ Tryz.underlying113 hi hz .i64 .i64 0 512 (by omega) (by omega) (by rw [hby]; omega) (by omega)
    rw [hs] at h
    have e : madeCells (Value.int .u8 0).cells ((512 : Int).toNat * 1) = (Lib.byteCells (List.replicate 512 0)).toArray := made_zerosT 512
    rw [e] at h
    exact h
  obtain ⟨Z, hZ⟩ : ∃ Z, Z = (Lib.byteCells (List.replicate 512 0)).toArray := ⟨_, rfl⟩
  rw [← hZ] at hmk
  obtain ⟨w1, hw1⟩ : ∃ w1, w1 = w.alloc (.cells Z 5) := ⟨_, rfl⟩
  obtain ⟨gb, hgb⟩ : ∃ gb, gb = w.heap.size := ⟨_, rfl⟩
  have hb1 : Below w.heap.size w w1 := by rw [hw1]; exact (Below.refl _ _).alloc (Nat.le_refl _) _
  have hbu1 : BufAt w1 gb [] := ⟨by simp, by rw [hw1, hgb, hZ]; simpa using heap_alloc_new w _⟩
  have hne : ¬ tb = gb := by have := h.lt; omega
  have h1 := h.below hb1
  have hlt1 := h1.lt
  obtain ⟨_, c1, c2⟩ := h1.cells
  obtain ⟨x0, hx0⟩ : ∃ x, x = n % 256 := ⟨_, rfl⟩
  obtain ⟨x1, hx1⟩ : ∃ x, x = cnt / 65536 % 256 := ⟨_, rfl⟩
  obtain ⟨x2, hx2⟩ : ∃ x, x = cnt / 256 % 256 := ⟨_, rfl⟩
  obtain ⟨x3, hx3⟩ : ∃ x, x = cnt % 256 := ⟨_, rfl⟩
  have u0 : IntKind.u8.wrap (n : Int) = (x0 : Int) := by show (n : Int) % 256 = _; omega
  have u1 : IntKind.u8.wrap ((cnt : Int) / 65536) = (x1 : Int) := by show (cnt : Int) / 65536 % 256 = _; omega
  have u2 : IntKind.u8.wrap ((cnt : Int) / 256) = (x2 : Int) := by show (cnt : Int) / 256 % 256 = _; omega
  have u3 : IntKind.u8.wrap (cnt : Int) = (x3 : Int) := by show (cnt : Int) % 256 = _; omega
  -- the first append
  have hb2 : Below w1.heap.size w1 (w1.drew.alloc (.cells #[.int .u8 (x0 : Int), .int .u8 (x1 : Int), .int .u8 (x2 : Int), .int .u8 (x3 : Int)] 5)) := (Below.refl _ _).drew.alloc (Nat.le_refl _) _
  obtain ⟨w5, hr5, hbu5, hk5⟩ := buf_append (w1.drew.alloc (.cells #[.int .u8 (x0 : Int), .int .u8 (x1 : Int), .int .u8 (x2 : Int), .int .u8 (x3 : Int)] 5)) gb [] [UInt8.ofNat x0, UInt8.ofNat x1, UInt8.ofNat x2, UInt8.ofNat x3] (some ⟨w1.drew.heap.size, 0, none⟩) 0 4 4 113 (hbu1.kept (Kept.ofBelow (S := fun _ => False) hb2) (fun h => h)) (four_reads w1.drew x0 x1 x2 x3 (by omega) (by omega) (by omega) (by omega)) rfl rfl (by omega)
  have hK0 : [] ++ [UInt8.ofNat x0, UInt8.ofNat x1, UInt8.ofNat x2, UInt8.ofNat x3] = tbK n cnt F 0 := by
    rw [hx0, hx1, hx2, hx3, ofNat_byt, ofNat_byt, ofNat_byt, ofNat_byt]; rfl
  rw [hK0] at hbu5
  have hk15 : Kept (fun k => k = gb) w1 w5 := (Kept.ofBelow hb2).trans hk5 (fun _ e => .inl e)
  have hz1 : w1.heap.size = w.heap.size + 1 := by rw [hw1]; simp
  have hT5 : TbAt w5 tb pg n cnt F := h1.kept hk15 hne
  have HT5 := Lib.hid hT5
  have HBW5 : Hid (Below w.heap.size w w5) := Lib.hid (hb1.trans (hk15.toBelow (by omega) (fun i e => by have e' : i = gb := e; omega)))
  have HBU5 := Lib.hid hbu5
  have hrg : w5.rangeAt tb 3 (fCells F) := fun j v hv => by
    have hj : j < 250 := by have := (List.getElem?_eq_some_iff.1 hv).1; rw [fCells_len] at this; exact this
    rw [hT5.first hj, ← hv, fCells_at F hj]
  have HRG := Lib.hid hrg
  have HI : Hid ((Tryz.prog.info? 150).map (·.size) = some (fCells F).length) := Lib.hid (by rw [fCells_len]; kernel_rfl)
  have hix : ∀ i : Nat, i < 250 → ∀ W, (Instr.index 150 (.agg (fCells F).toArray) (.int .i64 i)).run Tryz.prog W = .ok (.int .i64 (F i : Int)) W := fun i hi W => run_index_row 150 3 250 _ _ i W (by kernel_rfl) (by kernel_rfl) (by kernel_rfl) hi (by rw [List.getElem?_toArray]; exact fCells_at F hi)
  obtain ⟨cs, hcs⟩ : ∃ cs, cs = fCells F := ⟨_, rfl⟩
  rw [← hcs] at hix HRG HI
  obtain ⟨X, hX⟩ : ∃ X, X = cs.toArray := ⟨_, rfl⟩
  rw [← hX] at hix
  have HIX := Lib.hid hix
  have HX := Lib.hid hX
  have HR5 := Lib.hid hr5
  have HW1 := Lib.hid hw1
  have HGB := Lib.hid hgb
  have HB1 := Lib.hid hb1
  have HS : Hid (∀ W, Kept (fun k => k = gb) w1 W → (W.cell? ⟨tb, 1, none⟩ = some (.int .i64 (n : Int)) ∧ W.cell? ⟨tb, 2, none⟩ = some (.int .i64 (cnt : Int)) ∧ Kept (fun k => k = gb) w1 W)) := Lib.hid fun W hk =>
    ⟨(h1.kept hk hne).cells.2.1, (h1.kept hk hne).cells.2.2, hk⟩
  have HK5 := Lib.hid hk15
  have HK2 : Hid (Kept (fun k => k = gb) w1 (w1.drew.alloc (.cells #[.int .u8 (x0 : Int), .int .u8 (x1 : Int), .int .u8 (x2 : Int), .int .u8 (x3 : Int)] 5))) := Lib.hid (Kept.ofBelow hb2)
  clear hz1 hX hcs hrg hT5 hK0 hbu5 hk5 hr5 hb2 hx0 hx1 hx2 hx3 hbu1 hZ hw1 hgb hb1 hk15 hix h h1 hi hz hs hby
  go_enter Tryz.func133, Tryz.ntmps133
  go_wp2
  rw [← HW1.out, ← HGB.out]
  go_region_held_law (fun w' => w'.cell? ⟨tb, 1, none⟩ = some (.int .i64 (n : Int)) ∧ w'.cell? ⟨tb, 2, none⟩ = some (.int .i64 (cnt : Int)) ∧ Kept (fun k => k = gb) w1 w')
    ((refine HS.out _ ?_; first
      | exact Kept.refl _ _
      | exact Kept.ofBelow (Below.refl _ _).drew
      | exact HK2.out
      | exact HK5.out))
    (refine step_app_run rfl _ _ 113 rfl _ _ _ (by rfl) (by rfl) HR5.out ?_)
  clear c1 c2 hmk u0 u1 u2 u3 HK2 HK5 HS HR5
  go_split_ands
  go_wp2
  refine wp_load_mid 150 _ rfl tb 3 (by rfl) cs _ HRG.out Tryz.underlying150 rfl HI.out ?_
  rw [← HX.out]
  go_wp2
  go_loopw [3, 36] (fun v i wr => ∃ k m : Nat, k ≤ 250 ∧ i = .int .i64 k ∧ v = .slice (some ⟨gb, 0, none⟩) m 512 ∧ Hid (m = 4 + 2 * k) ∧ m ≤ 504 ∧ Hid (BufAt wr gb (tbK n cnt F k)) ∧ Hid (Below w.heap.size w wr)) (fun _ i _ => 250 - (intOf i).toNat)
  case atStart => exact ⟨0, 4, by omega, rfl, rfl, Lib.hid rfl, by omega, HBU5, HBW5⟩
  case round =>
    clear HBU5 HBW5 HRG HI HX HT5 HB1 HW1
    obtain ⟨k, m, hk, rfl, rfl, HM, hm5, HB, HBW⟩ := hrel
    by_cases hlt : k < 250
    · have hlt' : (k : Int) < 250 := by omega
      have hix := HIX.out k hlt
      obtain ⟨x1, hx1⟩ : ∃ x, x = F k / 256 % 256 := ⟨_, rfl⟩
      obtain ⟨x2, hx2⟩ : ∃ x, x = F k % 256 := ⟨_, rfl⟩
      obtain ⟨v, hv⟩ : ∃ v, v = F k := ⟨_, rfl⟩
      rw [← hv] at hix hx1 hx2
      have u1 : IntKind.u8.wrap ((v : Int) / 256) = (x1 : Int) := by show (v : Int) / 256 % 256 = _; omega
      have u2 : IntKind.u8.wrap (v : Int) = (x2 : Int) := by show (v : Int) % 256 = _; omega
      have hgw : w.heap.size ≤ gb := by have := HGB.out; omega
      have hb4 : Below wr.heap.size wr (wr.alloc (.cells #[.int .u8 (x1 : Int), .int .u8 (x2 : Int)] 5)) := (Below.refl _ _).alloc (Nat.le_refl _) _
      have hm2 : m + 2 ≤ 512 := by have := HM.out; omega
      obtain ⟨w7, hr7, hbu7, hk7⟩ := buf_append (wr.alloc (.cells #[.int .u8 (x1 : Int), .int .u8 (x2 : Int)] 5)) gb _ [UInt8.ofNat x1, UInt8.ofNat x2] (some ⟨wr.heap.size, 0, none⟩) m 2 2 113 (HB.out.kept (Kept.ofBelow (S := fun _ => False) hb4) (fun h => h)) (two_reads wr x1 x2 (by omega) (by omega)) (by rw [tbK_len]; exact HM.out.symm) rfl hm2
      have HBU7 : Hid (BufAt w7 gb (tbK n cnt F (k + 1))) := Lib.hid (by rw [tbK_succ, ← ofNat_byt, ← ofNat_byt, ← hv, ← hx1, ← hx2]; exact hbu7)
      have HBW7 : Hid (Below w.heap.size w w7) := Lib.hid (HBW.out.trans ((hb4.mono HBW.out.size).trans (hk7.toBelow (by rw [World.size_alloc]; have := HBW.out.size; omega) (fun i e => by have e' : i = gb := e; omega))))
      have HR7 := Lib.hid hr7
      have HM2 : Hid (m + 2 = 4 + 2 * (k + 1)) := Lib.hid (by have := HM.out; omega)
      have hm6 : m + 2 ≤ 504 := by have := HM.out; omega
      clear hr7 hbu7 hk7 hb4 hx1 hx2 hv hgw HBW HB
      go_wp2_with (at_builtin; refine Lib.wpList_append_run _ rfl _ _ 113 113 rfl _ _ rfl rfl _ _ HR7.out ?_)
      go_roundw
      case rel => exact ⟨k + 1, m + 2, by omega, by go_num, by simp, HM2, hm6, HBU7, HBW7⟩
      case measure => simp [intOf]; omega
    · obtain rfl : k = 250 := by omega
      have hm4 : m = 504 := HM.out
      subst hm4
      have hcv := buf_string HB.out 512
      rw [tbK_all] at hcv
      obtain ⟨t, ht⟩ : ∃ t : ByteArray, t = ⟨(tbE n cnt F).toArray⟩ := ⟨_, rfl⟩
      rw [← ht] at hcv
      have HT := Lib.hid ht
      clear ht
      go_wp2
      go_ret
      exact ⟨congrArg (fun z => Ending.returned (.string z)) HT.out, HBW.out⟩
end
end Go.Proofs.YtefddiikdamnbaaGreatDoor.Dm
