/- Entries as they lie in memory; the document's Same and Ahead of two. -/
import Derived.Test.YtnnmigglcpkomaaDF
import Derived.Test.YtnnmigglcpkomaaDC
import Derived.BigQuiet
import Derived.Deep.RegionHeld3
set_option maxRecDepth 100000
namespace Go.Proofs.Ytnnmigglcpkomaa.Dm
open Go Go.RowKit

/-- An entry as it is handed over: its key (with where the items lie), its address. -/
structure En where
  k : Int
  n : Int
  s : ByteArray
  a : Option Addr
  xs : List It
  lc : Nat
  t : Int
/-- A key's value. -/
def En.dv (e : En) : Value := .agg #[.int .i64 e.k, .int .i64 e.n, .string e.s, .slice e.a e.xs.length e.lc]
/-- An entry's value. -/
def En.v (e : En) : Value := .agg #[.int .i64 e.k, .int .i64 e.n, .string e.s, .slice e.a e.xs.length e.lc, .int .i64 e.t]
def En.d (e : En) : Dt := (e.k, e.n, e.s, e.xs.map itC)
def En.c (e : En) : Et := (e.d, e.t)
/-- Its items lie in memory, and its numbers are ints. -/
structure En.In (w : World) (e : En) : Prop where
  sl : Sl w e.a e.xs
  n : I64 e.n
  ns : AllI e.xs
  t : I64 e.t
/-- Its key may be. -/
def En.ok (e : En) : Bool := dOk e.k e.n e.s e.xs
theorem En.ok_d (e : En) : e.d.ok = e.ok := dt_ok _ _ _ _
theorem En.kb_d (e : En) : e.d.kb = datB e.k e.n e.s e.xs := dt_kb _ _ _ _
theorem En.In.below {w w' : World} {e : En} (h : e.In w) (hb : Below w.heap.size w w') : e.In w' := ⟨h.sl.below hb (Nat.le_refl _), h.n, h.ns, h.t⟩
theorem En.In.drew {w : World} {e : En} (h : e.In w) : e.In w.drew := h.below (Below.refl _ _).drew
theorem ok_few {k n : Int} {s : ByteArray} {xs : List It} (h : dOk k n s xs = true) : xs.length ≤ 8 ∧ ∀ x, x ∈ xs → x.ll = 0 := by
  unfold dOk at h
  split at h
  · obtain ⟨-, -, h1, h2⟩ := listOk_parts h
    refine ⟨by omega, fun x hx => ?_⟩
    have := (itemOk_true (h2 x hx)).1
    omega
  · have h1 := (itemOk_true h).1
    have : xs = [] := by
      cases xs with
      | nil => rfl
      | cons x l => exact absurd h1 (by simp)
    subst this
    exact ⟨by simp, fun x hx => by cases hx⟩

theorem box5 {w wr : World} {v0 v1 v2 v3 v4 : Value} {T : TypeId} (hb : Below (w.heap.size + 1) (w.alloc (.cells #[v0, v1, v2, v3, v4] T)) wr) :
    wr.cell? ⟨w.heap.size, 0, none⟩ = some v0 ∧ wr.cell? ⟨w.heap.size, 1, none⟩ = some v1 ∧ wr.cell? ⟨w.heap.size, 2, none⟩ = some v2 ∧ wr.cell? ⟨w.heap.size, 3, none⟩ = some v3 ∧ wr.cell? ⟨w.heap.size, 4, none⟩ = some v4 := by
  refine ⟨(hb.cell (p := ⟨w.heap.size, 0, none⟩) (by simp)).trans ?_, (hb.cell (p := ⟨w.heap.size, 1, none⟩) (by simp)).trans ?_, (hb.cell (p := ⟨w.heap.size, 2, none⟩) (by simp)).trans ?_, (hb.cell (p := ⟨w.heap.size, 3, none⟩) (by simp)).trans ?_, (hb.cell (p := ⟨w.heap.size, 4, none⟩) (by simp)).trans ?_⟩ <;>
    simp

set_option maxHeartbeats 800000 in
theorem same9_raw (e f : En) (w : World) (he : e.In w) (hf : f.In w) (h8 : e.xs.length ≤ 8) (h0 : ∀ x, x ∈ e.xs → x.ll = 0) (h0' : ∀ x, x ∈ f.xs → x.ll = 0) :
    Calls Try.prog 21 #[e.v, f.v] w fun r w' => r = .returned (.bool (decide (e.c = f.c))) ∧ Below w.heap.size w w' := by
  obtain ⟨k, n, s, a, xs, lc, t⟩ := e
  obtain ⟨k', n', s', a', ys, lc', t'⟩ := f
  obtain ⟨R, hR⟩ : ∃ R, R = decide (En.c ⟨k, n, s, a, xs, lc, t⟩ = En.c ⟨k', n', s', a', ys, lc', t'⟩) := ⟨_, rfl⟩
  rw [← hR]
  have HR := Lib.hid hR
  have hcall : Hid (∀ W, Below w.heap.size w W → Calls Try.prog 37 #[.agg #[.int .i64 k, .int .i64 n, .string s, .slice a xs.length lc], .agg #[.int .i64 k', .int .i64 n', .string s', .slice a' ys.length lc']] W fun e w' => e = .returned (.bool (decide (((k, n, s, xs.map itC) : Dt) = (k', n', s', ys.map itC)))) ∧ Below W.heap.size W w') :=
    Lib.hid (fun W hW => same_any k n s a xs lc k' n' s' a' ys lc' W (he.sl.below hW (Nat.le_refl _)) (hf.sl.below hW (Nat.le_refl _)) h8 h0 h0')
  obtain ⟨Q, hQ⟩ : ∃ Q, Q = decide (((k, n, s, xs.map itC) : Dt) = (k', n', s', ys.map itC)) := ⟨_, rfl⟩
  rw [← hQ] at hcall
  have hRQ : Hid (R = (decide (t = t') && Q)) := Lib.hid (by
    rw [HR.out, hQ, Bool.eq_iff_iff, Bool.and_eq_true, decide_eq_true_eq, decide_eq_true_eq, decide_eq_true_eq]
    show ((k, n, s, xs.map itC), t) = ((k', n', s', ys.map itC), t') ↔ _
    rw [Prod.mk.injEq]
    exact ⟨fun h => ⟨h.2, h.1⟩, fun h => ⟨h.2, h.1⟩⟩)
  obtain ⟨ll, hll⟩ : ∃ ll, ll = xs.length := ⟨_, rfl⟩
  obtain ⟨ll', hll'⟩ : ∃ ll', ll' = ys.length := ⟨_, rfl⟩
  unfold En.v
  simp only []
  rw [← hll, ← hll'] at hcall ⊢
  clear hR hQ hll hll' HR he hf h8 h0 h0'
  by_cases ht : t = t'
  · subst ht
    have HT : Hid (R = Q) := Lib.hid (by rw [hRQ.out]; simp)
    clear hRQ
    go_enter Try.func21, Try.ntmps21
    go_wp2_with (go_at_call 37; refine (hcall.out _ (((Below.refl _ _).alloc (Nat.le_refl _) _).alloc (by simp) _)).mono ?_)
    rintro e w1 ⟨rfl, hb1⟩
    go_wp2
    go_ret
    exact ⟨congrArg (fun b => Ending.returned (.bool b)) HT.out.symm, below_al2 _ _ (by simpa using hb1)⟩
  · have HT : Hid (R = false) := Lib.hid (by rw [hRQ.out]; simp [ht])
    have hb : (t == t') = false := by rw [beq_eq_false_iff_ne]; exact ht
    clear hRQ hcall
    go_enter Try.func21, Try.ntmps21
    go_wp2
    go_ret
    exact ⟨congrArg (fun b => Ending.returned (.bool b)) HT.out.symm, ((Below.refl _ _).alloc (Nat.le_refl _) _).alloc (by simp) _⟩

theorem same9_any (e f : En) (w : World) (he : e.In w) (hf : f.In w) (ho : e.ok = true) (ho' : f.ok = true) :
    Calls Try.prog 21 #[e.v, f.v] w fun r w' => r = .returned (.bool (decide (e.c = f.c))) ∧ Below w.heap.size w w' :=
  same9_raw e f w he hf (ok_few ho).1 (ok_few ho).2 (ok_few ho').2

/-- Two entries' boxes. -/
theorem box55 {w wr : World} {v0 v1 v2 v3 v4 u0 u1 u2 u3 u4 : Value} {T U : TypeId} (hb : Below (w.heap.size + 1 + 1) ((w.alloc (.cells #[v0, v1, v2, v3, v4] T)).alloc (.cells #[u0, u1, u2, u3, u4] U)) wr) :
    (wr.cell? ⟨w.heap.size, 0, none⟩ = some v0 ∧ wr.cell? ⟨w.heap.size, 1, none⟩ = some v1 ∧ wr.cell? ⟨w.heap.size, 2, none⟩ = some v2 ∧ wr.cell? ⟨w.heap.size, 3, none⟩ = some v3 ∧ wr.cell? ⟨w.heap.size, 4, none⟩ = some v4) ∧
    (wr.cell? ⟨w.heap.size + 1, 0, none⟩ = some u0 ∧ wr.cell? ⟨w.heap.size + 1, 1, none⟩ = some u1 ∧ wr.cell? ⟨w.heap.size + 1, 2, none⟩ = some u2 ∧ wr.cell? ⟨w.heap.size + 1, 3, none⟩ = some u3 ∧ wr.cell? ⟨w.heap.size + 1, 4, none⟩ = some u4) := by
  refine ⟨box5 (((Below.refl _ _).alloc (by simp) _).trans (hb.mono (by omega))), ?_⟩
  have := box5 (w := w.alloc (.cells #[v0, v1, v2, v3, v4] T)) (wr := wr) (v0 := u0) (v1 := u1) (v2 := u2) (v3 := u3) (v4 := u4) (T := U) (by simpa using hb)
  simpa using this

set_option maxHeartbeats 1600000 in
theorem ahead9_any (e f : En) (w : World) (he : e.In w) (hf : f.In w) (ho : e.ok = true) (ho' : f.ok = true) :
    Calls Try.prog 57 #[e.v, f.v] w fun r w' => r = .returned (.bool (aheadE e.c f.c)) ∧ Below w.heap.size w w' := by
  obtain ⟨R, hR⟩ : ∃ R, R = aheadE e.c f.c := ⟨_, rfl⟩
  rw [← hR]
  have e1 : e.c.1.kb = datB e.k e.n e.s e.xs := e.kb_d
  have e2 : f.c.1.kb = datB f.k f.n f.s f.xs := f.kb_d
  unfold aheadE at hR
  rw [e1, e2] at hR
  obtain ⟨k, n, s, a, xs, lc, t⟩ := e
  obtain ⟨k', n', s', a', ys, lc', t'⟩ := f
  have hA : Hid (∀ W, Below w.heap.size w W → Calls Try.prog 34 #[.agg #[.int .i64 k, .int .i64 n, .string s, .slice a xs.length lc]] W fun e w' => e = .returned (.string ⟨(datB k n s xs).toArray⟩) ∧ Below W.heap.size W w') :=
    Lib.hid (fun W hW => encoded_any k n s a xs lc W (he.sl.below hW (Nat.le_refl _)) ho he.n he.ns)
  have hB : Hid (∀ W, Below w.heap.size w W → Calls Try.prog 34 #[.agg #[.int .i64 k', .int .i64 n', .string s', .slice a' ys.length lc']] W fun e w' => e = .returned (.string ⟨(datB k' n' s' ys).toArray⟩) ∧ Below W.heap.size W w') :=
    Lib.hid (fun W hW => encoded_any k' n' s' a' ys lc' W (hf.sl.below hW (Nat.le_refl _)) ho' hf.n hf.ns)
  simp only at hR
  obtain ⟨X, hX⟩ : ∃ X, X = datB k n s xs := ⟨_, rfl⟩
  obtain ⟨Y, hY⟩ : ∃ Y, Y = datB k' n' s' ys := ⟨_, rfl⟩
  rw [← hX] at hA
  rw [← hY] at hB
  rw [← hX, ← hY] at hR
  have HR := Lib.hid hR
  obtain ⟨ll, hll⟩ : ∃ ll, ll = xs.length := ⟨_, rfl⟩
  obtain ⟨ll', hll'⟩ : ∃ ll', ll' = ys.length := ⟨_, rfl⟩
  unfold En.v
  simp only []
  rw [← hll] at hA ⊢
  rw [← hll'] at hB ⊢
  obtain ⟨SX, hSX⟩ : ∃ SX : ByteArray, SX = ⟨X.toArray⟩ := ⟨_, rfl⟩
  obtain ⟨SY, hSY⟩ : ∃ SY : ByteArray, SY = ⟨Y.toArray⟩ := ⟨_, rfl⟩
  rw [← hSX] at hA
  rw [← hSY] at hB
  have lX : Hid (SX.toList = X) := Lib.hid (by rw [hSX, ByteArray.toList_eq])
  have lY : Hid (SY.toList = Y) := Lib.hid (by rw [hSY, ByteArray.toList_eq])
  have HH : Hid (R = (Op.bytesLess SX.toList SY.toList || SX.toList == SY.toList && decide (t < t'))) := Lib.hid (by rw [lX.out, lY.out]; exact HR.out)
  clear hR hX hY hSX hSY lX lY HR hll hll' e1 e2 he hf ho ho'
  go_enter Try.func57, Try.ntmps57
  go_wp2_with fail
  obtain ⟨W0, hW0⟩ : ∃ W0, W0 = (w.alloc (.cells #[.int .i64 k, .int .i64 n, .string s, .slice a ll lc, .int .i64 t] 35)).alloc (.cells #[.int .i64 k', .int .i64 n', .string s', .slice a' ll' lc', .int .i64 t'] 35) := ⟨_, rfl⟩
  have B0 : Below (w.heap.size + 1 + 1) W0 W0 := Below.refl _ _
  have HW : Hid (∀ W', Below (w.heap.size + 1 + 1) W0 W' → Below w.heap.size w W') := Lib.hid (fun W' hb => below_al2 _ _ (by rw [hW0] at hb; simpa using hb))
  have HBX : Hid (∀ W', Below (w.heap.size + 1 + 1) W0 W' → (W'.cell? ⟨w.heap.size, 0, none⟩ = some (.int .i64 k) ∧ W'.cell? ⟨w.heap.size, 1, none⟩ = some (.int .i64 n) ∧ W'.cell? ⟨w.heap.size, 2, none⟩ = some (.string s) ∧ W'.cell? ⟨w.heap.size, 3, none⟩ = some (.slice a ll lc) ∧ W'.cell? ⟨w.heap.size, 4, none⟩ = some (.int .i64 t)) ∧
    (W'.cell? ⟨w.heap.size + 1, 0, none⟩ = some (.int .i64 k') ∧ W'.cell? ⟨w.heap.size + 1, 1, none⟩ = some (.int .i64 n') ∧ W'.cell? ⟨w.heap.size + 1, 2, none⟩ = some (.string s') ∧ W'.cell? ⟨w.heap.size + 1, 3, none⟩ = some (.slice a' ll' lc') ∧ W'.cell? ⟨w.heap.size + 1, 4, none⟩ = some (.int .i64 t'))) := Lib.hid (fun W' hb => box55 (by rw [hW0] at hb; exact hb))
  have hq : w.heap.size + 1 + 1 ≤ W0.heap.size := by rw [hW0]; simp
  obtain ⟨⟨c0, c1, c2, c3, c4⟩, d0, d1, d2, d3, d4⟩ := HBX.out _ B0
  have KEEP : Hid (∀ W1 W2, (W1.cell? ⟨w.heap.size, 0, none⟩ = some (.int .i64 k) ∧ W1.cell? ⟨w.heap.size, 1, none⟩ = some (.int .i64 n) ∧ W1.cell? ⟨w.heap.size, 2, none⟩ = some (.string s) ∧ W1.cell? ⟨w.heap.size, 3, none⟩ = some (.slice a ll lc) ∧ W1.cell? ⟨w.heap.size + 1, 0, none⟩ = some (.int .i64 k') ∧ W1.cell? ⟨w.heap.size + 1, 1, none⟩ = some (.int .i64 n') ∧ W1.cell? ⟨w.heap.size + 1, 2, none⟩ = some (.string s') ∧ W1.cell? ⟨w.heap.size + 1, 3, none⟩ = some (.slice a' ll' lc') ∧ Below (w.heap.size + 1 + 1) W0 W1 ∧ w.heap.size + 1 + 1 ≤ W1.heap.size) → Below W1.heap.size W1 W2 →
    (W2.cell? ⟨w.heap.size, 0, none⟩ = some (.int .i64 k) ∧ W2.cell? ⟨w.heap.size, 1, none⟩ = some (.int .i64 n) ∧ W2.cell? ⟨w.heap.size, 2, none⟩ = some (.string s) ∧ W2.cell? ⟨w.heap.size, 3, none⟩ = some (.slice a ll lc) ∧ W2.cell? ⟨w.heap.size + 1, 0, none⟩ = some (.int .i64 k') ∧ W2.cell? ⟨w.heap.size + 1, 1, none⟩ = some (.int .i64 n') ∧ W2.cell? ⟨w.heap.size + 1, 2, none⟩ = some (.string s') ∧ W2.cell? ⟨w.heap.size + 1, 3, none⟩ = some (.slice a' ll' lc') ∧ Below (w.heap.size + 1 + 1) W0 W2 ∧ w.heap.size + 1 + 1 ≤ W2.heap.size)) := Lib.hid (fun W1 W2 h hb => by
    have hB := h.2.2.2.2.2.2.2.2.1.trans (hb.mono h.2.2.2.2.2.2.2.2.2)
    obtain ⟨⟨c0, c1, c2, c3, _⟩, d0, d1, d2, d3, _⟩ := HBX.out _ hB
    exact ⟨c0, c1, c2, c3, d0, d1, d2, d3, hB, Nat.le_trans h.2.2.2.2.2.2.2.2.2 hb.size⟩)
  rw [← hW0]
  clear hW0
  go_region_held3 (fun w' => w'.cell? ⟨w.heap.size, 0, none⟩ = some (.int .i64 k) ∧ w'.cell? ⟨w.heap.size, 1, none⟩ = some (.int .i64 n) ∧ w'.cell? ⟨w.heap.size, 2, none⟩ = some (.string s) ∧ w'.cell? ⟨w.heap.size, 3, none⟩ = some (.slice a ll lc) ∧ w'.cell? ⟨w.heap.size + 1, 0, none⟩ = some (.int .i64 k') ∧ w'.cell? ⟨w.heap.size + 1, 1, none⟩ = some (.int .i64 n') ∧ w'.cell? ⟨w.heap.size + 1, 2, none⟩ = some (.string s') ∧ w'.cell? ⟨w.heap.size + 1, 3, none⟩ = some (.slice a' ll' lc') ∧ Below (w.heap.size + 1 + 1) W0 w' ∧ w.heap.size + 1 + 1 ≤ w'.heap.size)
    (first | exact KEEP.out _ _ ⟨c0, c1, c2, c3, d0, d1, d2, d3, B0, hq⟩ (Below.refl _ _).drew | exact KEEP.out _ _ ‹_ ∧ _› ‹Below _ _ _›)
    (first | (go_at_call_of 34 s; refine (hA.out _ (HW.out _ (by go_split_ands; assumption))).mono ?_; rintro e w' ⟨rfl, hb'⟩) | (go_at_call_of 34 s'; refine (hB.out _ (HW.out _ (by go_split_ands; assumption))).mono ?_; rintro e w' ⟨rfl, hb'⟩))
  clear B0 c0 c1 c2 c3 c4 d0 d1 d2 d3 d4 KEEP hA hB
  rename World => wr
  go_split_ands
  have hbb : Below (w.heap.size + 1 + 1) W0 wr := by assumption
  obtain ⟨⟨-, -, -, -, c4⟩, -, -, -, -, d4⟩ := HBX.out _ hbb
  have HBF := Lib.hid (HW.out _ hbb)
  have hsz : w.heap.size + 1 + 1 ≤ wr.heap.size := by assumption
  clear hbb HBX HW
  cases h1 : Op.bytesLess SX.toList SY.toList
  · cases h2 : (SX.toList == SY.toList)
    · have HT : Hid (R = false) := Lib.hid (by rw [HH.out, h1, h2]; rfl)
      go_wp2
      go_ret
      exact ⟨congrArg (fun b => Ending.returned (.bool b)) HT.out.symm, HBF.out⟩
    · by_cases h3 : t < t'
      · have HT : Hid (R = true) := Lib.hid (by rw [HH.out, h1, h2]; simpa using h3)
        go_wp2
        go_ret
        exact ⟨congrArg (fun b => Ending.returned (.bool b)) HT.out.symm, HBF.out⟩
      · have HT : Hid (R = false) := Lib.hid (by rw [HH.out, h1, h2]; simpa using h3)
        go_wp2
        go_ret
        exact ⟨congrArg (fun b => Ending.returned (.bool b)) HT.out.symm, HBF.out⟩
  · have HT : Hid (R = true) := Lib.hid (by rw [HH.out, h1]; rfl)
    go_wp2
    go_ret
    exact ⟨congrArg (fun b => Ending.returned (.bool b)) HT.out.symm, HBF.out⟩
end Go.Proofs.Ytnnmigglcpkomaa.Dm
