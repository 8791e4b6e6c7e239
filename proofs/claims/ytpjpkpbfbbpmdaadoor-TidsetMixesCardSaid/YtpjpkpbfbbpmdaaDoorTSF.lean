/- The fullest page; how a set degrades. -/
import Derived.Test.YtpjpkpbfbbpmdaaDoorTSE
set_option maxRecDepth 100000
namespace Go.Proofs.YtpjpkpbfbbpmdaaDoor.Ts
open Go.RowKit Go.Maps

theorem sameKey_int (a c : Int) : Lit.sameKey (.int .i64 a) (.int .i64 c) = decide (a = c) := by simp [Lit.sameKey]
theorem strike_int (left : Lit → Bool) (q x : Nat) : (left (.int .i64 (q : Int)) && !Lit.sameKey (.int .i64 (q : Int)) (.int .i64 (x : Int))) = if q = x then false else left (.int .i64 (q : Int)) := by
  rw [sameKey_int]
  by_cases h : q = x
  · subst h; simp
  · have h' : ¬ (q : Int) = x := by omega
    simp [h, h']

/-- What D says where F says. -/
def Reads (D : Dv) (F : Int → Option Dv) : Prop := ∀ q : Int, (Lit.int .i64 q).wf = true →
    (F q = none ∧ Maps.has D (.int .i64 q) = false ∨ ∃ d, F q = some d ∧ Maps.has D (.int .i64 q) = true ∧ ∀ z, D.atKey (.int .i64 q) z = d)
theorem Reads.entry {D : Dv} {F : Int → Option Dv} (h : Reads D F) {x : Int} (hx : (Lit.int .i64 x).wf = true) {d : Dv} (hat : ∀ z, D.atKey (.int .i64 x) z = d) : F x = some d := by
  rcases h x hx with ⟨_, h2⟩ | ⟨d', h1, _, h3⟩
  · exfalso
    have a1 := hat .nil
    have a2 := hat (.lit (.bool true))
    rw [Maps.atKey_of_not_has h2] at a1 a2
    rw [← a1] at a2; cases a2
  · rw [h1, ← hat .nil, h3]
theorem Reads.ePl {D : Dv} {T : List Nat} (h : Reads D (exF T)) (hT : ∀ t ∈ T, t < 16777216) {x c : Int} (hx : (Lit.int .i64 x).wf = true) (hat : ∀ z, D.atKey (.int .i64 x) z = .lit (.int .u64 c)) :
    ∃ q : Nat, x = q ∧ q < 262144 ∧ pl T q ≠ 0 ∧ c = (pl T q : Nat) := by
  have h1 := h.entry hx hat
  have h2 := exF_pgs hT x (by rw [h1]; simp)
  obtain ⟨q, rfl⟩ : ∃ q : Nat, x = q := ⟨x.toNat, by omega⟩
  rw [exF_nat] at h1
  split at h1
  · rename_i h0
    injection h1 with h1; injection h1 with h1; injection h1 with _ h1
    exact ⟨q, rfl, by omega, h0, h1.symm⟩
  · cases h1
theorem Reads.eWh {D : Dv} {P : List Nat} (h : Reads D (whF P)) (hP : ∀ p ∈ P, p < 262144) {x : Int} (hx : (Lit.int .i64 x).wf = true) {d : Dv} (hat : ∀ z, D.atKey (.int .i64 x) z = d) :
    ∃ q : Nat, x = q ∧ q < 262144 ∧ q ∈ P := by
  have h1 := h.entry hx hat
  have h2 := whF_pgs hP x (by rw [h1]; simp)
  obtain ⟨q, rfl⟩ : ∃ q : Nat, x = q := ⟨x.toNat, by omega⟩
  rw [whF_nat] at h1
  split at h1
  · rename_i h0; exact ⟨q, rfl, by omega, h0⟩
  · cases h1
theorem pl_page {T : List Nat} (hT : ∀ t ∈ T, t < 16777216) {q : Nat} (h : pl T q ≠ 0) : q < 262144 := by
  have := exF_pgs hT (q : Int) (by rw [exF_nat, if_pos h]; simp)
  omega
theorem Reads.hasPl {D : Dv} {T : List Nat} (h : Reads D (exF T)) (hT : ∀ t ∈ T, t < 16777216) {q : Nat} (h0 : pl T q ≠ 0) : Maps.has D (.int .i64 (q : Int)) = true := by
  rcases h q (wfN q (pl_page hT h0)) with ⟨h1, _⟩ | ⟨d, _, h2, _⟩
  · rw [exF_nat, if_pos h0] at h1; cases h1
  · exact h2
theorem Reads.hasWh {D : Dv} {P : List Nat} (h : Reads D (whF P)) (hP : ∀ p ∈ P, p < 262144) {q : Nat} (h0 : q ∈ P) : Maps.has D (.int .i64 (q : Int)) = true := by
  rcases h q (wfN q (hP q h0)) with ⟨h1, _⟩ | ⟨d, _, h2, _⟩
  · rw [whF_nat, if_pos h0] at h1; cases h1
  · exact h2
theorem cnt_pl {T : List Nat} {q : Nat} : 0 < cnt q T ↔ pl T q ≠ 0 := by
  rw [cnt_pos]
  constructor
  · rintro ⟨t, h1, h2⟩ e; exact pl_zero.1 e t h1 h2
  · intro h
    refine Classical.byContradiction fun hn => h (pl_zero.2 fun t ht e => hn ⟨t, ht, e⟩)

/-- The fullest of the pages that have come. -/
def Best (T : List Nat) (left : Lit → Bool) (pg m : Nat) : Prop :=
  (∀ q : Nat, pl T q ≠ 0 → left (.int .i64 (q : Int)) = false → cnt q T ≤ m ∧ (cnt q T = m → pg ≤ q)) ∧
    (m = 0 ∧ pg = 0 ∧ (∀ q : Nat, pl T q ≠ 0 → left (.int .i64 (q : Int)) = true) ∨ 0 < m ∧ cnt pg T = m)
theorem Best.turn {T : List Nat} {left : Lit → Bool} {pg m x : Nat} (h : Best T left pg m) (hx : pl T x ≠ 0) (hc : m < cnt x T ∨ cnt x T = m ∧ x < pg) : Best T (fun z => left z && !z.sameKey (.int .i64 (x : Int))) x (cnt x T) := by
  refine ⟨fun q hq hl => ?_, .inr ⟨cnt_pl.2 hx, rfl⟩⟩
  simp only [strike_int] at hl
  by_cases e : q = x
  · subst e; exact ⟨Nat.le_refl _, fun _ => Nat.le_refl _⟩
  · rw [if_neg e] at hl
    have := h.1 q hq hl
    omega
theorem Best.stay {T : List Nat} {left : Lit → Bool} {pg m x : Nat} (h : Best T left pg m) (hx : pl T x ≠ 0) (hc : ¬ m < cnt x T) (hc2 : ¬ (cnt x T = m ∧ x < pg)) : Best T (fun z => left z && !z.sameKey (.int .i64 (x : Int))) pg m := by
  have hp := cnt_pl.2 hx
  refine ⟨fun q hq hl => ?_, .inr ?_⟩
  · simp only [strike_int] at hl
    by_cases e : q = x
    · subst e; omega
    · rw [if_neg e] at hl
      exact h.1 q hq hl
  · rcases h.2 with ⟨h1, _⟩ | h1
    · omega
    · exact h1
theorem Best.full {T : List Nat} {left : Lit → Bool} {pg m : Nat} (h : Best T left pg m) (hl : ∀ kl, left kl = false) (hT : T ≠ []) : IsFull T pg := by
  obtain ⟨t, r, rfl⟩ := List.exists_cons_of_ne_nil hT
  have h0 : pl (t :: r) (t / 64) ≠ 0 := fun e => pl_zero.1 e t (by simp) rfl
  rcases h.2 with ⟨_, _, h3⟩ | ⟨h2, h3⟩
  · have := h3 _ h0; rw [hl] at this; cases this
  · refine ⟨by omega, fun q => ?_⟩
    by_cases hq : pl (t :: r) q = 0
    · have : cnt q (t :: r) = 0 := by
        have := mt cnt_pl.1 (show ¬ pl (t :: r) q ≠ 0 from fun e => e hq)
        omega
      omega
    · have := h.1 q hq (hl _)
      rw [h3]; exact this

set_option maxHeartbeats 1600000 in
theorem fullest_any {w : World} {b be bw most : Nat} {T P : List Nat} (h : SetAt w b be bw most T P) (hR : Raw T P) (hT0 : T ≠ []) :
    Calls Tryd.prog 44 #[.pointer (some ⟨b, 0, none⟩)] w fun e w' => ∃ p : Nat, e = .returned (.int .i64 p) ∧ IsFull T p ∧ Below w.heap.size w w' := by
  have c3 := h.c3
  obtain ⟨D, hown, h3⟩ := h.ex
  have HR : Hid (Reads D (exF T)) := Lib.hid h3
  have HS := Lib.hid hR
  have HCN : Hid (∀ q W, Calls Tryd.prog 43 #[.int .u64 (pl T q : Nat)] W fun e w' => e = .returned (.int .i64 (cnt q T)) ∧ W = w') := Lib.hid fun q W => by
    rw [← bits_cnt hR.st]; exact tcount_any _ (pl_lt T q) W
  have HB0 : Hid (Best T (Maps.has D) 0 0) := Lib.hid ⟨(fun q hq hl => by rw [Reads.hasPl h3 hR.tl hq] at hl; cases hl), .inl ⟨rfl, rfl, fun q hq => Reads.hasPl h3 hR.tl hq⟩⟩
  have HCL : Hid (∀ q, cnt q T ≤ 64) := Lib.hid fun q => onp_le hR.st q
  clear h hR h3
  go_enter Tryd.func44, Tryd.ntmps44
  go_wp2_with (first
    | (at_range; refine wpList_range_own _ rfl _ 42 rfl 3 56 keyI Tryd.underlying42 _ be _ _ rfl hown ?_; intro w0 hrg0 hg0 hs0)
    | go_in)
  go_frame
  go_loopw [3, 4] (fun v3 v4 wr => ∃ (left : Lit → Bool) (cn pg m : Nat), wr.ranges Tryd.prog 3 rdPl be w.heap.size (Maps.size D) D left cn ∧ Below w.heap.size w wr ∧ v3 = .int .i64 pg ∧ v4 = .int .i64 m ∧ pg < 262144 ∧ m ≤ 64 ∧ Hid (Best T left pg m))
    (fun _ _ wr => wr.rangeLeft be w.heap.size)
  case atStart => exact ⟨_, _, 0, 0, hrg0, ⟨hg0.os, hg0.tape, hg0.output, hg0.size, fun k hk => hg0.block k hk (by simp)⟩, rfl, rfl, by omega, by omega, HB0⟩
  case round =>
    obtain ⟨left, cn, pg, m, hrg, hbl, rfl, rfl, hpg, hm, HB⟩ := hrel
    go_wp2_with (first
      | (at_next; refine wpList_next_ranges_ii _ rfl _ rfl 3 56 .i64 .u64 keyI Tryd.underlying3 Tryd.underlying56 be w.heap.size _ _ _ _ rfl hrg ?_ ?_)
      | go_in)
    · intro _ hl0
      have HF := Lib.hid (HB.out.full hl0 hT0)
      clear hl0
      go_wp2
      go_ret
      exact ⟨pg, rfl, HF.out, hbl⟩
    · intro x c w1 cn1 hwx hwc hlx hat hrg1 hlt hg1 hs1 hen
      obtain ⟨q, rfl, hq, hq0, rfl⟩ := HR.out.ePl HS.out.tl hwx hat
      have hbl1 : Below w.heap.size w w1 := ⟨hg1.os.trans hbl.os, hg1.tape.trans hbl.tape, hg1.output.trans hbl.output, Nat.le_trans hbl.size hg1.size, fun k hk => (hg1.block k (Nat.lt_of_lt_of_le hk hbl.size) (by simp; omega)).trans (hbl.block k hk)⟩
      have HC := Lib.hid (HCN.out q w1)
      have hn64 := HCL.out q
      have HT : Hid (m < cnt q T ∨ cnt q T = m ∧ q < pg → Best T (fun z => left z && !z.sameKey (.int .i64 (q : Int))) q (cnt q T)) := Lib.hid fun hc => HB.out.turn hq0 hc
      have HY : Hid (¬ m < cnt q T → ¬ (cnt q T = m ∧ q < pg) → Best T (fun z => left z && !z.sameKey (.int .i64 (q : Int))) pg m) := Lib.hid fun a b => HB.out.stay hq0 a b
      have HM : Hid (w1.rangeLeft be w.heap.size < wr.rangeLeft be w.heap.size) := Lib.hid (by rw [hrg1.left_eq, hrg.left_eq]; exact hlt)
      obtain ⟨n, hn⟩ : ∃ n, n = cnt q T := ⟨_, rfl⟩
      rw [← hn] at HC hn64 HT HY
      obtain ⟨y, hy⟩ : ∃ y, y = pl T q := ⟨_, rfl⟩
      rw [← hy] at HC hen
      have HRG := Lib.hid hrg1
      clear hn hy hat hlx hwx hwc hlt hq0 hg1 hs1 hrg hrg1 HB
      rcases (by omega : m < n ∨ n = m ∧ q < pg ∨ n = m ∧ ¬ q < pg ∨ n < m) with h1 | ⟨h1, h2⟩ | ⟨h1, h2⟩ | h1
      · have h1' : decide ((m : Int) < n) = true := decide_eq_true (by omega)
        have HT2 := Lib.hid (HT.out (.inl h1))
        go_wp2_with fail
        refine HC.out.mono ?_
        rintro e w2 ⟨rfl, rfl⟩
        go_wp2
        go_roundw
        case rel => exact ⟨_, _, q, n, HRG.out, hbl1, rfl, rfl, hq, hn64, HT2⟩
        case measure => exact HM.out
      · subst h1
        have h1' : decide ((n : Int) < n) = false := decide_eq_false (by omega)
        have h2' : decide ((q : Int) < pg) = true := decide_eq_true (by omega)
        have h3' : decide (q < pg) = true := decide_eq_true (by omega)
        have HT2 := Lib.hid (HT.out (.inr ⟨rfl, h2⟩))
        go_wp2_with fail
        refine HC.out.mono ?_
        rintro e w2 ⟨rfl, rfl⟩
        go_wp2
        go_roundw
        case rel => exact ⟨_, _, q, n, HRG.out, hbl1, rfl, rfl, hq, hn64, HT2⟩
        case measure => exact HM.out
      · subst h1
        have h1' : decide ((n : Int) < n) = false := decide_eq_false (by omega)
        have h2' : decide ((q : Int) < pg) = false := decide_eq_false (by omega)
        have h3' : decide (q < pg) = false := decide_eq_false (by omega)
        have HT2 := Lib.hid (HY.out (by omega) (fun e => h2 e.2))
        go_wp2_with fail
        refine HC.out.mono ?_
        rintro e w2 ⟨rfl, rfl⟩
        go_wp2
        go_roundw
        case rel => exact ⟨_, _, pg, n, HRG.out, hbl1, rfl, rfl, hpg, hm, HT2⟩
        case measure => exact HM.out
      · have h1' : decide ((m : Int) < n) = false := decide_eq_false (by omega)
        have h1'' : decide (m < n) = false := decide_eq_false (by omega)
        have h2' : ((n : Int) == m) = false := by simp; omega
        have h3' : (n == m) = false := by simp; omega
        have HT2 := Lib.hid (HY.out (by omega) (fun e => by omega))
        go_wp2_with fail
        refine HC.out.mono ?_
        rintro e w2 ⟨rfl, rfl⟩
        go_wp2
        go_roundw
        case rel => exact ⟨_, _, pg, m, HRG.out, hbl1, rfl, rfl, hpg, hm, HT2⟩
        case measure => exact HM.out
end Go.Proofs.YtpjpkpbfbbpmdaaDoor.Ts
