/- What the document's method refuses; lists of entries in memory: is one there, are two lists the same. -/
import Derived.Test.YtnnmigglcpkomaaDG
import Derived.BigQuiet
import Derived.Deep.RegionHeld3
set_option maxRecDepth 100000
namespace Go.Proofs.Ytnnmigglcpkomaa.Dm
open Go Go.RowKit

/-- Numbers in a row. -/
def IntsW (w : World) (a : Option Addr) (l : List Int) : Prop :=
  l = [] ∨ ∃ b off, a = some ⟨b, off, none⟩ ∧ b < w.heap.size ∧ ∀ j (h : j < l.length), w.cell? ⟨b, off + j, none⟩ = some (.int .i64 (l[j]'h))
theorem IntsW.below {w w' : World} {a : Option Addr} {l : List Int} (h : IntsW w a l) (hb : Below w.heap.size w w') : IntsW w' a l := by
  rcases h with h | ⟨b, off, ha, hlt, hc⟩
  · exact .inl h
  · exact .inr ⟨b, off, ha, Nat.lt_of_lt_of_le hlt hb.size, fun j hj => (hb.cell (p := ⟨b, off + j, none⟩) hlt).trans (hc j hj)⟩

/-- The cells of a row of entries. -/
def Cells5 (w : World) (b off : Nat) (es : List En) : Prop :=
  ∀ j (h : j < es.length), w.cell? ⟨b, off + j * 5, none⟩ = some (.int .i64 (es[j]'h).k) ∧ w.cell? ⟨b, off + j * 5 + 1, none⟩ = some (.int .i64 (es[j]'h).n) ∧
    w.cell? ⟨b, off + j * 5 + 2, none⟩ = some (.string (es[j]'h).s) ∧ w.cell? ⟨b, off + j * 5 + 3, none⟩ = some (.slice (es[j]'h).a (es[j]'h).xs.length (es[j]'h).lc) ∧ w.cell? ⟨b, off + j * 5 + 4, none⟩ = some (.int .i64 (es[j]'h).t)
/-- Entries in a row: each may be. -/
structure EnsW (w : World) (a : Option Addr) (es : List En) : Prop where
  lies : es = [] ∨ ∃ b off, a = some ⟨b, off, none⟩ ∧ b < w.heap.size ∧ Cells5 w b off es
  all : ∀ e, e ∈ es → e.In w ∧ e.ok = true
theorem EnsW.below {w w' : World} {a : Option Addr} {es : List En} (h : EnsW w a es) (hb : Below w.heap.size w w') : EnsW w' a es := by
  refine ⟨?_, fun e he => ⟨(h.all e he).1.below hb, (h.all e he).2⟩⟩
  rcases h.lies with h | ⟨b, off, ha, hlt, hc⟩
  · exact .inl h
  · refine .inr ⟨b, off, ha, Nat.lt_of_lt_of_le hlt hb.size, fun j hj => ?_⟩
    obtain ⟨h0, h1, h2, h3, h4⟩ := hc j hj
    exact ⟨(hb.cell (p := ⟨b, _, none⟩) hlt).trans h0, (hb.cell (p := ⟨b, _, none⟩) hlt).trans h1, (hb.cell (p := ⟨b, _, none⟩) hlt).trans h2, (hb.cell (p := ⟨b, _, none⟩) hlt).trans h3, (hb.cell (p := ⟨b, _, none⟩) hlt).trans h4⟩
theorem EnsW.at {w : World} {a : Option Addr} {es : List En} (h : EnsW w a es) {j : Nat} (hj : j < es.length) :
    ∃ b off, a = some ⟨b, off, none⟩ ∧ b < w.heap.size ∧ Cells5 w b off es := by
  rcases h.lies with rfl | h
  · simp at hj
  · exact h
def consE (es : List En) : List Et := es.map En.c

set_option maxHeartbeats 800000 in
theorem may9_any (e : En) (w : World) (he : e.In w) :
    Calls Try.prog 40 #[e.v] w fun r w' => r = .returned (.bool (mayE e.c)) ∧ Below w.heap.size w w' := by
  obtain ⟨R, hR⟩ : ∃ R, R = mayE e.c := ⟨_, rfl⟩
  rw [← hR]
  unfold mayE at hR
  rw [show e.c.1.ok = e.ok from e.ok_d] at hR
  obtain ⟨k, n, s, a, xs, lc, t⟩ := e
  obtain ⟨q, hq⟩ : ∃ q, q = En.ok ⟨k, n, s, a, xs, lc, t⟩ := ⟨_, rfl⟩
  rw [← hq] at hR
  have hA : Hid (∀ W, Below w.heap.size w W → Calls Try.prog 36 #[.agg #[.int .i64 k, .int .i64 n, .string s, .slice a xs.length lc]] W fun e w' => e = .returned (.bool q) ∧ Below W.heap.size W w') :=
    Lib.hid (fun W hW => by
      cases q
      · exact may_no k n s a xs lc W (he.sl.below hW (Nat.le_refl _)) hq.symm
      · exact may_ok k n s a xs lc W (he.sl.below hW (Nat.le_refl _)) hq.symm)
  have hR' : R = (decide (0 ≤ t ∧ t < 16777216) && q) := hR
  have HR := Lib.hid hR'
  obtain ⟨ll, hll⟩ : ∃ ll, ll = xs.length := ⟨_, rfl⟩
  unfold En.v
  simp only []
  rw [← hll] at hA ⊢
  clear hR hR' hq hll he
  by_cases h1 : 0 ≤ t
  · by_cases h2 : t < 16777216
    · have HT : Hid (R = q) := Lib.hid (by rw [HR.out]; simp [h1, h2])
      clear HR
      go_enter Try.func40, Try.ntmps40
      go_wp2_with (go_at_call 36; refine (hA.out _ ((Below.refl _ _).alloc (Nat.le_refl _) _)).mono ?_)
      rintro e w1 ⟨rfl, hb1⟩
      go_wp2
      go_ret
      exact ⟨congrArg (fun b => Ending.returned (.bool b)) HT.out.symm, below_al _ hb1⟩
    · have HT : Hid (R = false) := Lib.hid (by rw [HR.out]; simp [h2])
      clear HR hA
      go_enter Try.func40, Try.ntmps40
      go_wp2
      go_ret
      exact ⟨congrArg (fun b => Ending.returned (.bool b)) HT.out.symm, (Below.refl _ _).alloc (Nat.le_refl _) _⟩
  · have HT : Hid (R = false) := Lib.hid (by rw [HR.out]; simp [h1])
    clear HR hA
    go_enter Try.func40, Try.ntmps40
    go_wp2
    go_ret
    exact ⟨congrArg (fun b => Ending.returned (.bool b)) HT.out.symm, (Below.refl _ _).alloc (Nat.le_refl _) _⟩

set_option maxHeartbeats 800000 in
theorem takes_any (a : Option Addr) (l : List Int) (c : Nat) (k : Int) (w : World) (hl : IntsW w a l) (h8 : l.length ≤ 8) :
    Calls Try.prog 41 #[.slice a l.length c, .int .i64 k] w fun r w' => r = .returned (.bool (decide (k ∈ l))) ∧ w' = w := by
  obtain ⟨R, hR⟩ : ∃ R, R = decide (k ∈ l) := ⟨_, rfl⟩
  rw [← hR]
  have HR := Lib.hid hR; have HL := Lib.hid hl
  obtain ⟨ll, hll⟩ : ∃ ll, ll = l.length := ⟨_, rfl⟩
  have HLL := Lib.hid hll
  rw [← hll] at h8 ⊢
  clear hR hl hll
  go_enter Try.func41, Try.ntmps41
  go_wp2
  go_loopw [5] (fun i wr => ∃ j : Nat, j ≤ ll ∧ i = .int .i64 j ∧ Hid (wr = w) ∧ Hid (k ∉ l.take j)) (fun i _ => ll - (intOf i).toNat)
  case atStart => exact ⟨0, Nat.zero_le _, rfl, Lib.hid rfl, Lib.hid (by simp)⟩
  case round =>
    obtain ⟨j, hj, rfl, hw, HP⟩ := hrel
    have HLW : Hid (IntsW wr a l) := Lib.hid (by rw [hw.out]; exact HL.out)
    have HWR := hw; clear hw
    by_cases hlt : j < ll
    · have hlt' : j < l.length := by rw [← HLL.out]; exact hlt
      obtain ⟨b, off, rfl, hbw, hc⟩ : ∃ b off, a = some ⟨b, off, none⟩ ∧ b < wr.heap.size ∧ ∀ j (h : j < l.length), wr.cell? ⟨b, off + j, none⟩ = some (.int .i64 (l[j]'h)) := by
        rcases HLW.out with h | h
        · rw [h] at hlt'; simp at hlt'
        · exact h
      have c0 := hc j hlt'
      clear hc
      obtain ⟨x, hx⟩ : ∃ x, x = l[j]'hlt' := ⟨_, rfl⟩
      rw [← hx] at c0
      have HX := Lib.hid hx; clear hx
      by_cases he : x = k
      · have HT : Hid (R = true) := Lib.hid (by rw [HR.out, decide_eq_true_eq, ← he, HX.out]; exact List.getElem_mem _)
        have hb : (x == k) = true := by rw [beq_iff_eq]; exact he
        clear he
        go_wp2
        go_ret
        exact ⟨congrArg (fun b => Ending.returned (.bool b)) HT.out.symm, HWR.out⟩
      · have HN : Hid (k ∉ l.take (j + 1)) := Lib.hid (by
          rw [List.take_add_one, List.getElem?_eq_getElem hlt', ← HX.out]
          intro h
          rcases List.mem_append.1 h with h | h
          · exact HP.out h
          · have h2 : k = x := by simpa using h
            exact he h2.symm)
        have hb : (x == k) = false := by rw [beq_eq_false_iff_ne]; exact he
        clear he
        go_wp2
        go_roundw
        case rel => exact ⟨j + 1, by omega, by go_num, HWR, HN⟩
        case measure => simp [intOf]; omega
    · have HT : Hid (R = false) := Lib.hid (by
        rw [HR.out, decide_eq_false_iff_not]
        have h := HP.out
        rwa [List.take_of_length_le (by have := HLL.out; omega)] at h)
      go_wp2
      go_ret
      exact ⟨congrArg (fun b => Ending.returned (.bool b)) HT.out.symm, HWR.out⟩

set_option maxHeartbeats 800000 in
theorem refused9_any (a : Option Addr) (l : List Int) (c : Nat) (e : En) (w : World) (he : e.In w) (hl : IntsW w a l) (h8 : l.length ≤ 8) :
    Calls Try.prog 25 #[.slice a l.length c, e.v] w fun r w' => r = .returned (.int .i64 (refusedE l e.c)) ∧ Below w.heap.size w w' := by
  obtain ⟨R, hR⟩ : ∃ R, R = refusedE l e.c := ⟨_, rfl⟩
  rw [← hR]
  unfold refusedE at hR
  obtain ⟨q, hq⟩ : ∃ q, q = mayE e.c := ⟨_, rfl⟩
  rw [← hq] at hR
  have hA : Hid (∀ W, Below w.heap.size w W → Calls Try.prog 40 #[e.v] W fun r w' => r = .returned (.bool q) ∧ Below W.heap.size W w') :=
    Lib.hid (fun W hW => by rw [hq]; exact may9_any e W (he.below hW))
  have hB : Hid (∀ W, Below w.heap.size w W → Calls Try.prog 41 #[.slice a l.length c, .int .i64 e.k] W fun r w' => r = .returned (.bool (decide (e.k ∈ l))) ∧ w' = W) :=
    Lib.hid (fun W hW => takes_any a l c e.k W (hl.below hW) h8)
  have hR' : R = if q = true then (if e.k ∈ l then 0 else 10) else 1 := hR
  obtain ⟨k, n, s, b, xs, lc, t⟩ := e
  simp only at hR' hB
  obtain ⟨p, hp⟩ : ∃ p, p = decide (k ∈ l) := ⟨_, rfl⟩
  rw [← hp] at hB
  have HR : Hid (R = if q = true then (if p = true then 0 else 10) else 1) := Lib.hid (by rw [hR', hp]; simp)
  unfold En.v at hA ⊢
  simp only [] at hA ⊢
  obtain ⟨ll, hll⟩ : ∃ ll, ll = xs.length := ⟨_, rfl⟩
  obtain ⟨kl, hkl⟩ : ∃ kl, kl = l.length := ⟨_, rfl⟩
  rw [← hll] at hA ⊢
  rw [← hkl] at hB ⊢
  clear hR hR' hq hp hll hkl he hl h8
  go_enter Try.func25, Try.ntmps25
  go_wp2_with (go_at_call 40; refine (hA.out _ ((Below.refl _ _).alloc (Nat.le_refl _) _)).mono ?_)
  rintro e w1 ⟨rfl, hb1⟩
  obtain ⟨c0, c1, c2, c3, c4⟩ := box5 (by simpa using hb1)
  have HB1 : Hid (Below w.heap.size w w1) := Lib.hid (below_al _ hb1)
  clear hb1
  cases q
  · have HT : Hid (R = 1) := Lib.hid (by rw [HR.out]; simp)
    go_wp2
    go_ret
    exact ⟨congrArg (fun b => Ending.returned (.int .i64 b)) HT.out.symm, HB1.out⟩
  · go_wp2_with (go_at_call 41; refine (hB.out _ HB1.out).mono ?_)
    rintro e w2 ⟨rfl, rfl⟩
    cases p
    · have HT : Hid (R = 10) := Lib.hid (by rw [HR.out]; simp)
      go_wp2
      go_ret
      exact ⟨congrArg (fun b => Ending.returned (.int .i64 b)) HT.out.symm, HB1.out⟩
    · have HT : Hid (R = 0) := Lib.hid (by rw [HR.out]; simp)
      go_wp2
      go_ret
      exact ⟨congrArg (fun b => Ending.returned (.int .i64 b)) HT.out.symm, HB1.out⟩

set_option maxHeartbeats 800000 in
theorem refusedKey_any (a : Option Addr) (l : List Int) (c : Nat) (e : En) (w : World) (he : e.In w) (hl : IntsW w a l) (h8 : l.length ≤ 8) :
    Calls Try.prog 45 #[.slice a l.length c, e.dv] w fun r w' => r = .returned (.int .i64 (refusedE l (e.d, 0))) ∧ Below w.heap.size w w' := by
  obtain ⟨R, hR⟩ : ∃ R, R = refusedE l (e.d, 0) := ⟨_, rfl⟩
  rw [← hR]
  obtain ⟨k, n, s, b, xs, lc, t⟩ := e
  have hA : Hid (∀ W, Below w.heap.size w W → Calls Try.prog 25 #[.slice a l.length c, .agg #[.int .i64 k, .int .i64 n, .string s, .slice b xs.length lc, .int .i64 0]] W fun r w' => r = .returned (.int .i64 R) ∧ Below W.heap.size W w') :=
    Lib.hid (fun W hW => by rw [hR]; exact refused9_any a l c ⟨k, n, s, b, xs, lc, 0⟩ W (En.In.below (e := ⟨k, n, s, b, xs, lc, 0⟩) ⟨he.sl, he.n, he.ns, ⟨by show (-9223372036854775808 : Int) ≤ 0; omega, by show (0 : Int) ≤ 9223372036854775807; omega⟩⟩ hW) (hl.below hW) h8)
  unfold En.dv
  simp only []
  obtain ⟨ll, hll⟩ : ∃ ll, ll = xs.length := ⟨_, rfl⟩
  obtain ⟨kl, hkl⟩ : ∃ kl, kl = l.length := ⟨_, rfl⟩
  rw [← hll, ← hkl] at hA ⊢
  clear hR hll hkl he hl h8
  go_enter Try.func45, Try.ntmps45
  go_wp2_with (go_at_call 25; refine (hA.out _ ((Below.refl _ _).alloc (Nat.le_refl _) _)).mono ?_)
  rintro e w1 ⟨rfl, hb1⟩
  go_wp2
  go_ret
  exact ⟨rfl, below_al _ hb1⟩
end Go.Proofs.Ytnnmigglcpkomaa.Dm
