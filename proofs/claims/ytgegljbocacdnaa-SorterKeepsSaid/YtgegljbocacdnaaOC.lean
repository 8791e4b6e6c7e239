/- The heads of runs in memory; what Len and Less answer of them. -/
import Derived.Test.YtgegljbocacdnaaOB
import Derived.Laws.OwnMore
import Derived.BigQuiet
import Derived.Deep.QuietTactic
import Derived.BigRegion
import Derived.RegionTactic
import Derived.ChangeAlike
set_option maxRecDepth 100000
namespace Go.Proofs.Ytgegljbocacdnaa
open Go.RowKit

theorem infoPHead : (Try.prog.info? 52).map (fun i => (i.zero, i.size, i.bytes)) = some (some (.pointer none), 1, 8) := by kernel_rfl
theorem infoHead : (Try.prog.info? 54).map (·.size) = some 2 := by kernel_rfl

def ptr (q : Nat) : Value := .pointer (some ⟨q, 0, none⟩)
def ptrs (ks : List Nat) : List Value := ks.map ptr

/-- The variable that holds the heads lies at block hb; the row of their places is its own. -/
structure Hs (B hb : Nat) (ks : List Nat) (v : Value) (w : World) : Prop where
  blk : w.heap[hb]? = some (.cells #[v] 51 (0, 0))
  row : w.ownsRow B 52 1 v ks.length (ptrs ks)
  ge : B ≤ hb
/-- Each head has its text. -/
def Keys (K : Nat → ByteArray) (ks : List Nat) (w : World) : Prop := ∀ q, q ∈ ks → ∃ v, w.heap[q]? = some (.cells #[.string (K q), v] 54 (0, 0))
/-- Nothing was written but heads' variables and rows, from block B on. -/
structure HK (B : Nat) (w w' : World) : Prop where
  below : Below B w w'
  other : ∀ (k : Nat) (cs : Array Value) (T : TypeId) (m : Nat × Nat), T ≠ 51 → T ≠ 52 → w.heap[k]? = some (Obj.cells cs T m) → w'.heap[k]? = some (Obj.cells cs T m)

/-- Is a text below another one? -/
def ltB (s t : ByteArray) : Bool := Op.bytesLess s.toList t.toList
theorem ltB_iff (s t : ByteArray) : ltB s t = true ↔ ¬ leS t s := by
  unfold ltB leS le lt
  rw [ByteArray.toList_eq, ByteArray.toList_eq]; simp
theorem ltB_yes {s t : ByteArray} (h : ¬ leS t s) : ltB s t = true := (ltB_iff s t).2 h
theorem ltB_no {s t : ByteArray} (h : leS t s) : ltB s t = false := by
  cases hh : ltB s t
  · rfl
  · exact absurd h ((ltB_iff s t).1 hh)
theorem HK.refl (B : Nat) (w : World) : HK B w w := ⟨Below.refl _ _, fun _ _ _ _ _ _ h => h⟩
theorem HK.trans {B : Nat} {w w1 w2 : World} (h : HK B w w1) (h2 : HK B w1 w2) : HK B w w2 := ⟨h.below.trans h2.below, fun k cs T m a b c => h2.other k cs T m a b (h.other k cs T m a b c)⟩
theorem HK.drewN {B : Nat} (w : World) (n : Nat) : HK B w (w.drewN n) := ⟨⟨rfl, rfl, rfl, Nat.le_refl _, fun _ _ => rfl⟩, fun _ _ _ _ _ _ h => h⟩
theorem Keys.hk {B : Nat} {K : Nat → ByteArray} {ks : List Nat} {w w' : World} (h : Keys K ks w) (hk : HK B w w') : Keys K ks w' := fun q hq => by
  obtain ⟨v, hv⟩ := h q hq
  exact ⟨v, hk.other q _ _ _ (by decide) (by decide) hv⟩
theorem Keys.perm {K : Nat → ByteArray} {ks ks' : List Nat} {w : World} (h : Keys K ks w) (hp : ks'.Perm ks) : Keys K ks' w := fun q hq => h q (hp.mem_iff.1 hq)
theorem Hs.drewN {B hb : Nat} {ks : List Nat} {v : Value} {w : World} (h : Hs B hb ks v w) (n : Nat) : Hs B hb ks v (w.drewN n) := ⟨h.blk, h.row, h.ge⟩

set_option maxHeartbeats 400000 in
theorem hdLen_any (a : Option Addr) (n c : Nat) (w : World) : Calls Try.prog 68 #[.slice a n c] w fun e w' => e = .returned (.int .i64 n) ∧ w = w' := by
  go_enter Try.func68, Try.ntmps68
  go_wp2
  go_ret
  exact ⟨rfl, rfl⟩

theorem ptrs_get (ks : List Nat) (i : Nat) (h : i < ks.length) : (ptrs ks)[i]? = some (ptr (ks.getD i 0)) := by
  unfold ptrs
  rw [List.getElem?_map, List.getElem?_eq_getElem h, getD_eq _ _ h]; rfl

set_option maxHeartbeats 800000 in
theorem hdLess_any (B g n c : Nat) (K : Nat → ByteArray) (ks : List Nat) (i j : Nat) (w : World) (hn : ks.length = n) (hr : w.ownsRow B 52 1 (.slice (some ⟨g, 0, none⟩) n c) n (ptrs ks)) (hK : Keys K ks w) (hi : i < n) (hj : j < n) :
    Calls Try.prog 69 #[.slice (some ⟨g, 0, none⟩) n c, .int .i64 i, .int .i64 j] w fun e w' => e = .returned (.bool (ltB (K (ks.getD i 0)) (K (ks.getD j 0)))) ∧ ∃ m, w' = w.drewN m := by
  have ci : w.cell? ⟨g, i, none⟩ = some (.pointer (some ⟨ks.getD i 0, 0, none⟩)) := (hr.cellAt i (by omega)).trans (ptrs_get ks i (by omega))
  have cj : w.cell? ⟨g, j, none⟩ = some (.pointer (some ⟨ks.getD j 0, 0, none⟩)) := (hr.cellAt j (by omega)).trans (ptrs_get ks j (by omega))
  obtain ⟨vi, bi⟩ := hK (ks.getD i 0) (by rw [getD_eq _ _ (by omega)]; exact List.getElem_mem _)
  obtain ⟨vj, bj⟩ := hK (ks.getD j 0) (by rw [getD_eq _ _ (by omega)]; exact List.getElem_mem _)
  have ti : w.cell? ⟨ks.getD i 0, 0, none⟩ = some (.string (K (ks.getD i 0))) := by rw [Lib.cell_of_heap bi]; rfl
  have tj : w.cell? ⟨ks.getD j 0, 0, none⟩ = some (.string (K (ks.getD j 0))) := by rw [Lib.cell_of_heap bj]; rfl
  obtain ⟨p, hp⟩ : ∃ p, p = ks.getD i 0 := ⟨_, rfl⟩
  obtain ⟨q, hq⟩ : ∃ q, q = ks.getD j 0 := ⟨_, rfl⟩
  obtain ⟨s, hs⟩ : ∃ s, s = K p := ⟨_, rfl⟩
  obtain ⟨t, ht⟩ : ∃ t, t = K q := ⟨_, rfl⟩
  rw [← hp] at ci ti ⊢
  rw [← hq] at cj tj ⊢
  rw [← hs] at ti ⊢
  rw [← ht] at tj ⊢
  have i1 : (i : Int) < n := by omega
  have j1 : (j : Int) < n := by omega
  clear hr hK hn bi bj hp hq hs ht
  go_enter Try.func69, Try.ntmps69
  go_wp2
  go_quiet (fail)
  go_wp2
  go_ret
  exact ⟨rfl, _, rfl⟩
end Go.Proofs.Ytgegljbocacdnaa
