/- Unpin, Read, Write, Pins, Held, Flush, New, so said. -/
import Derived.Test.YtnmeobbbcccgjaaPM
import Derived.Laws.MakeOwn
set_option maxRecDepth 100000
namespace Go.Proofs.Ytnmeobbbcccgjaa
open Go.RowKit

section
variable {B p d n N : Nat} {S : Nat → Prop} {w : World} {C : Nat → List UInt8} {P : Nat → Nat}

/-- A page that is not pinned. -/
def NoPins (P : Nat → Nat) (q : Int) : Prop := ∀ j : Nat, (j : Int) = q → P j = 0

theorem pinned_st_no (h : PoolSt B S p d n C P N w) (q : Int) (hq : (Lit.int .i64 q).wf = true) (hn : NoPins P q) :
    Calls Try.prog 33 #[.pointer (some ⟨p, 0, none⟩), .int .i64 q] w fun e w' => e = .returned (.tuple #[.pointer none, .int .i64 3]) ∧ w' = w := by
  obtain ⟨fb, mb, hand, m, fr, Sd, ops, hG, _, _, hV, _⟩ := h
  exact pinned_no p d fb mb n hand m fr q w hG hq (fun i f hi e => by rw [← (hV.held i f hi).2.1]; exact hn _ e)

theorem unpin_st_no (h : PoolSt B S p d n C P N w) (q : Int) (hq : (Lit.int .i64 q).wf = true) (hn : NoPins P q) :
    Calls Try.prog 16 #[.pointer (some ⟨p, 0, none⟩), .int .i64 q] w fun e w' => e = .returned (.int .i64 3) ∧ w' = w := unpin_code _ q 3 w (.inr rfl) (pinned_st_no h q hq hn)
theorem read_st_no (h : PoolSt B S p d n C P N w) (q : Int) (hq : (Lit.int .i64 q).wf = true) (hn : NoPins P q) :
    Calls Try.prog 15 #[.pointer (some ⟨p, 0, none⟩), .int .i64 q] w fun e w' => e = .returned (.tuple #[.string ⟨#[]⟩, .int .i64 3]) ∧ w' = w := pread_code _ q 3 w (.inr rfl) (pinned_st_no h q hq hn)
theorem pins_st_no (h : PoolSt B S p d n C P N w) (q : Int) (hq : (Lit.int .i64 q).wf = true) (hn : NoPins P q) :
    Calls Try.prog 18 #[.pointer (some ⟨p, 0, none⟩), .int .i64 q] w fun e w' => e = .returned (.int .i64 0) ∧ w' = w := pins_code _ q 3 w (.inr rfl) (pinned_st_no h q hq hn)
theorem write_st_no (h : PoolSt B S p d n C P N w) (q a : Int) (s : ByteArray) (hq : (Lit.int .i64 q).wf = true) (hn : NoPins P q) :
    Calls Try.prog 17 #[.pointer (some ⟨p, 0, none⟩), .int .i64 q, .int .i64 a, .string s] w fun e w' => e = .returned (.int .i64 3) ∧ w' = w := pwrite_code _ q a 3 s w (.inr rfl) (pinned_st_no h q hq hn)

theorem read_st (h : PoolSt B S p d n C P N w) (q : Nat) (hp : 0 < P q) :
    Calls Try.prog 15 #[.pointer (some ⟨p, 0, none⟩), .int .i64 q] w fun e w' => e = .returned (.tuple #[.string ⟨(C q).toArray⟩, .int .i64 0]) ∧ w' = w := by
  obtain ⟨fb, mb, hand, m, fr, Sd, ops, hG, _, _, hV, _⟩ := h
  obtain ⟨i, f, hi, rfl, _, hfp, _⟩ := holder hG hV hp
  rw [(hV.held i f hi).1]
  exact pread_yes p d fb mb n hand m i fr f w hG hi (by omega)
theorem pins_st (h : PoolSt B S p d n C P N w) (q : Nat) (hp : 0 < P q) :
    Calls Try.prog 18 #[.pointer (some ⟨p, 0, none⟩), .int .i64 q] w fun e w' => e = .returned (.int .i64 (P q)) ∧ w' = w := by
  obtain ⟨fb, mb, hand, m, fr, Sd, ops, hG, _, _, hV, _⟩ := h
  obtain ⟨i, f, hi, rfl, _, hfp, _⟩ := holder hG hV hp
  rw [← hfp]
  exact pins_yes p d fb mb n hand m i fr f w hG hi (by omega)
theorem write_st_bad (h : PoolSt B S p d n C P N w) (q : Nat) (a : Int) (s : ByteArray) (hp : 0 < P q) (hs : s.size ≤ 9223372036854775807) (hn : ¬ (0 ≤ a ∧ a + s.size ≤ 512)) :
    Calls Try.prog 17 #[.pointer (some ⟨p, 0, none⟩), .int .i64 q, .int .i64 a, .string s] w fun e w' => e = .returned (.int .i64 1) ∧ w' = w := by
  obtain ⟨fb, mb, hand, m, fr, Sd, ops, hG, _, _, hV, _⟩ := h
  obtain ⟨i, f, hi, rfl, _, hfp, _⟩ := holder hG hV hp
  exact pwrite_no p d fb mb n hand m i fr f a s w hG hi (by omega) hs hn

theorem len_st (h : PoolSt B S p d n C P N w) (hp : ∀ q, C q = C q) (q : Nat) (hq : 0 < P q) : (C q).length = 512 := by
  obtain ⟨fb, mb, hand, m, fr, Sd, ops, hG, _, _, hV, _⟩ := h
  obtain ⟨i, f, hi, rfl, _⟩ := holder hG hV hq
  rw [(hV.held i f hi).1]
  have := hp
  exact (hG.at_ i f hi).2.2.1

/-- What a call leaves that turns one pinned page. -/
def StPost (B : Nat) (S : Nat → Prop) (p d n : Nat) (C : Nat → List UInt8) (P : Nat → Nat) (N : Nat) (w : World) (e : Ending) (w' : World) : Prop :=
  e = .returned (.int .i64 0) ∧ ∃ S', Turn S w S' w' ∧ PoolSt B S' p d n C P N w'

theorem turn_st {fb mb hand m i : Nat} {fr : Nat → Option Fr} {Sd : Nat → Prop} {ops : List RawOp} {f f' : Fr} {w' : World} (hG : PoolG p d fb mb n hand m fr w) (hF : Filled n m fr) (hD : DiskAt Sd d ops w) (hV : View n fr ops C P N) (hO : ¬ Sd p ∧ ¬ Sd fb ∧ ¬ Sd mb) (hS : ∀ k, Sd k ∨ k = p ∨ k = fb ∨ k = mb → S k) (hB : ∀ k, S k → B ≤ k ∧ k < w.heap.size)
    (hi : fr i = some f) (hFr : FrAt w' fb (i * 516) f') (hT : Touch fb (i * 516) 516 w w') (hK : Kept (fun k => k = fb) w w') (hb : f'.bytes.length = 512) (hpg : f'.page = f.page) (hc : f'.changed = false → f.changed = false ∧ f'.bytes = f.bytes) (hN : f'.pins ≤ N + 1) :
    ∃ S', Turn S w S' w' ∧ PoolSt B S' p d n (upd C f.page f'.bytes) (upd P f.page f'.pins) (N + 1) w' := by
  have hSS : S p ∧ S fb ∧ S mb := ⟨hS p (.inr (.inl rfl)), hS fb (.inr (.inr (.inl rfl))), hS mb (.inr (.inr (.inr rfl)))⟩
  exact poolSt_mk (hG.turnFr hi hT hK hFr hb hpg) ⟨hF.1, fun j => by
      rw [hF.2 j]
      by_cases hj : j = i
      · subst hj; rw [upd_same]; exact ⟨fun _ => ⟨_, rfl⟩, fun _ => ⟨f, hi⟩⟩
      · rw [upd_other _ _ hj]⟩ (hD.kept hK (fun k _ hs e => hO.2.1 (e ▸ hs))) (hV.turn hG.one hi (hG.at_ i f hi).1 hpg hc hN) hO (fun k hk => .inl (hS k (.inl hk))) hSS hB (hK.mono (fun k hk => hk ▸ hSS.2.1))

theorem unpin_st (h : PoolSt B S p d n C P N w) (q : Nat) (hp : 0 < P q) (hN : N ≤ 4398046511104) :
    Calls Try.prog 16 #[.pointer (some ⟨p, 0, none⟩), .int .i64 q] w (StPost B S p d n C (upd P q (P q - 1)) (N + 1) w) := by
  obtain ⟨fb, mb, hand, m, fr, Sd, ops, hG, hF, hD, hV, hO, hS, hB⟩ := h
  obtain ⟨i, f, hi, rfl, _, hfp, _⟩ := holder hG hV hp
  have hb := hV.bnd f.page
  refine (unpin_yes p d fb mb n hand m i fr f w hG hi (by omega) (by omega)).mono ?_
  rintro e w' ⟨rfl, g1, g2, g3⟩
  obtain ⟨S', hT, hSt⟩ := turn_st hG hF hD hV hO hS hB hi g1 g2 g3 (hG.at_ i f hi).2.2.1 rfl (fun h => ⟨h, rfl⟩) (by show f.pins - 1 ≤ N + 1; omega)
  refine ⟨rfl, S', hT, ?_⟩
  have hC := (hV.held i f hi).1
  rw [show ({ f with pins := f.pins - 1 } : Fr).bytes = C f.page from hC.symm, upd_self] at hSt
  rw [← hfp]; exact hSt

theorem write_st (h : PoolSt B S p d n C P N w) (q a : Nat) (s : ByteArray) (hp : 0 < P q) (ha : a + s.size ≤ 512) :
    Calls Try.prog 17 #[.pointer (some ⟨p, 0, none⟩), .int .i64 q, .int .i64 a, .string s] w (StPost B S p d n (upd C q (splice (C q) a s.data.toList)) P (N + 1) w) := by
  obtain ⟨fb, mb, hand, m, fr, Sd, ops, hG, hF, hD, hV, hO, hS, hB⟩ := h
  obtain ⟨i, f, hi, rfl, _, hfp, _⟩ := holder hG hV hp
  have hb := hV.bnd f.page
  have hbl := (hG.at_ i f hi).2.2.1
  refine (pwrite_yes p d fb mb n hand m i a fr f s w hG hi (by omega) ha).mono ?_
  rintro e w' ⟨rfl, g1, g2, g3⟩
  have he : s.data.toList.length = s.size := rfl
  obtain ⟨S', hT, hSt⟩ := turn_st hG hF hD hV hO hS hB hi g1 g2 g3 (by show (splice f.bytes a s.data.toList).length = 512; rw [length_splice _ _ _ (by rw [he, hbl]; exact ha)]; exact hbl) rfl (fun h => by
    simp only [Bool.or_eq_false_iff, decide_eq_false_iff_not, ne_eq, Classical.not_not] at h
    refine ⟨h.1, ?_⟩
    have : s.data.toList = [] := List.eq_nil_of_length_eq_zero (by rw [he, h.2])
    show splice f.bytes a s.data.toList = f.bytes
    rw [this, splice_nil]) (by show f.pins ≤ N + 1; omega)
  refine ⟨rfl, S', hT, ?_⟩
  have hC := (hV.held i f hi).1
  have hP := (hV.held i f hi).2.1
  rw [show ({ f with bytes := splice f.bytes a s.data.toList, changed := f.changed || decide (s.size ≠ 0) } : Fr).bytes = splice f.bytes a s.data.toList from rfl, show ({ f with bytes := splice f.bytes a s.data.toList, changed := f.changed || decide (s.size ≠ 0) } : Fr).pins = P f.page from hP.symm, upd_self] at hSt
  rw [hC]; exact hSt

theorem held_st (h : PoolSt B S p d n C P N w) :
    Calls Try.prog 19 #[.pointer (some ⟨p, 0, none⟩)] w fun e w' => ∃ v l, e = .returned v ∧ RowAt w.heap.size w' v (asInts l) ∧ l.length ≤ n ∧ l.Pairwise (· < ·) ∧ (∀ q : Nat, 0 < P q → (q : Int) ∈ l) ∧ Below w.heap.size w w' := by
  obtain ⟨fb, mb, hand, m, fr, Sd, ops, hG, hF, hD, hV, hO, hS, hB⟩ := h
  refine (held_any p d fb mb n hand m fr w hG hF.1).mono ?_
  rintro e w' ⟨v, l, he, h1, h2, h3, h4, h5⟩
  refine ⟨v, l, he, h1, h2, h3, fun q hq => (h4 q).2 ?_, h5⟩
  obtain ⟨i, f, hi, e1, _⟩ := holder hG hV hq
  exact ⟨i, f, hi, by rw [e1]⟩

/-- Behind a Flush the disk has all pages. -/
theorem flush_st (h : PoolSt B S p d n C P N w) (hN : N ≤ 4398046511104) :
    Calls Try.prog 13 #[.pointer (some ⟨p, 0, none⟩)] w fun e w' => e = .returned (.int .i64 0) ∧ ∃ S', Turn S w S' w' ∧ PoolSt B S' p d n C P N w' ∧ ∃ Sd ops, DiskAt Sd d ops w' ∧ (∀ k, Sd k → S' k) ∧ ops.length ≤ N ∧ ∀ q, C q = pageOf (play ops 1) q := by
  obtain ⟨fb, mb, hand, m, fr, Sd, ops, hG, hF, hD, hV, hO, hS, hB⟩ := h
  have hSS : S p ∧ S fb ∧ S mb := ⟨hS p (.inr (.inl rfl)), hS fb (.inr (.inr (.inl rfl))), hS mb (.inr (.inr (.inr rfl)))⟩
  refine (flush_any p d fb mb n hand m fr Sd ops C P N w hG hF.1 hD hV hN hO.1 hO.2.1 hO.2.2 (fun k hk => (hB k (hS k (.inl hk))).2)).mono ?_
  rintro e w' ⟨rfl, fr', hFl, hcl⟩
  obtain ⟨Sd', ops', hd', hv', hs'⟩ := hFl.st
  have hO' : ¬ Sd' p ∧ ¬ Sd' fb ∧ ¬ Sd' mb := ⟨fun hh => (hs' p hh).elim hO.1 (by have := hG.lt; omega), fun hh => (hs' fb hh).elim hO.2.1 (by have := hG.ltF; omega), fun hh => (hs' mb hh).elim hO.2.2 (by have := hG.ltM; omega)⟩
  have hF' : Filled n m fr' := ⟨hF.1, fun j => by
    rw [hF.2 j]
    have := hFl.same j
    cases h1 : fr j <;> cases h2 : fr' j <;> rw [h1, h2] at this <;> simp at this ⊢⟩
  have hkp : Kept S w w' := hFl.kept.mono (fun k hk => hk.elim (fun h => hS k (.inl h)) (fun h => h ▸ hSS.2.1))
  refine ⟨rfl, fun k => (S k ∨ w.heap.size ≤ k) ∧ k < w'.heap.size, ⟨hkp, fun k hk hs => hs.1.elim id (by omega)⟩, ⟨fb, mb, hand, m, fr', fun k => Sd' k ∧ k < w'.heap.size, ops', hFl.g, hF', hd'.bound, hv', ⟨fun h => hO'.1 h.1, fun h => hO'.2.1 h.1, fun h => hO'.2.2 h.1⟩, ?_, ?_⟩, fun k => Sd' k ∧ k < w'.heap.size, ops', hd'.bound, ?_, ?_, fun q => ?_⟩
  · rintro k (⟨h, hlt⟩ | rfl | rfl | rfl)
    · exact ⟨(hs' k h).imp (fun h => hS k (.inl h)) id, hlt⟩
    · exact ⟨.inl hSS.1, hFl.g.lt⟩
    · exact ⟨.inl hSS.2.1, hFl.g.ltF⟩
    · exact ⟨.inl hSS.2.2, hFl.g.ltM⟩
  · rintro k ⟨hk, hlt⟩
    refine ⟨hk.elim (fun h => (hB k h).1) (fun h => ?_), hlt⟩
    have := hB p hSS.1
    omega
  · rintro k ⟨hk, hlt⟩
    exact ⟨(hs' k hk).imp (fun h => hS k (.inl h)) id, hlt⟩
  · have := hv'.cost; omega
  · by_cases hx : ∃ i f, fr' i = some f ∧ f.page = q
    · obtain ⟨i, f, hi, rfl⟩ := hx
      obtain ⟨h1, _, h3⟩ := hv'.held i f hi
      rw [h1]; exact h3 (hcl i f hi)
    · exact (hv'.free q (fun i f hi e => hx ⟨i, f, hi, e⟩)).1
end

set_option maxHeartbeats 800000 in
theorem pnew_nodisk (v : Value) (n : Int) (w : World) (hp : NoDisk v w) :
    Calls Try.prog 8 #[v, .int .i64 n] w fun e w' => e = .returned (.tuple #[.pointer none, .int .i64 1]) ∧ w' = w := by
  have HR := Lib.hid (read_nobody v 1 0 0 w hp)
  clear hp
  go_enter Try.func8, Try.ntmps8
  go_wp2_with fail
  refine HR.out.mono ?_
  rintro e w2 ⟨rfl, rfl⟩
  go_wp2
  go_ret2
  exact ⟨rfl, rfl⟩

set_option maxHeartbeats 800000 in
theorem pnew_bad (d : Nat) (S : Nat → Prop) (ops : List RawOp) (n : Int) (w : World) (h : DiskAt S d ops w) (hn : ¬ (1 ≤ n ∧ n ≤ 1024)) :
    Calls Try.prog 8 #[.pointer (some ⟨d, 0, none⟩), .int .i64 n] w fun e w' => e = .returned (.tuple #[.pointer none, .int .i64 1]) ∧ w' = w := by
  have HR := Lib.hid (read_ok 1 0 0 S d ops w h (by omega) (by omega))
  simp only [List.take_zero] at HR
  clear h
  by_cases h0 : n < 1
  · clear hn
    go_enter Try.func8, Try.ntmps8
    go_wp2_with fail
    refine HR.out.mono ?_
    rintro e w2 ⟨rfl, hw⟩
    subst w2
    go_wp2
    go_ret2
    exact ⟨rfl, rfl⟩
  · have h1 : 1024 < n := by omega
    clear hn
    go_enter Try.func8, Try.ntmps8
    go_wp2_with fail
    refine HR.out.mono ?_
    rintro e w2 ⟨rfl, hw⟩
    subst w2
    go_wp2
    go_ret2
    exact ⟨rfl, rfl⟩

theorem infoFr : (Try.prog.info? 72).map (fun i => (i.zero, i.size, i.bytes)) = some (some (.agg (zeroFr 0).cells.toArray), 516, 536) := by kernel_rfl

set_option maxHeartbeats 1600000 in
theorem pnew_ok (d n : Nat) (S : Nat → Prop) (ops : List RawOp) (w : World) (h : DiskAt S d ops w) (h1 : 1 ≤ n) (h2 : n ≤ 1024) :
    Calls Try.prog 8 #[.pointer (some ⟨d, 0, none⟩), .int .i64 n] w fun e w' => ∃ p fb mb, e = .returned (.tuple #[.pointer (some ⟨p, 0, none⟩), .int .i64 0]) ∧ PoolG p d fb mb n 0 0 (fun _ => none) w' ∧ (w.heap.size ≤ p ∧ w.heap.size ≤ fb ∧ w.heap.size ≤ mb) ∧ Below w.heap.size w w' := by
  have HR := Lib.hid (read_ok 1 0 0 S d ops w h (by omega) (by omega))
  simp only [List.take_zero] at HR
  obtain ⟨i, hi, hz, hs, hby⟩ := info_parts infoFr
  have hmk : ∀ W : World, (Instr.makeSlice 45 (.int .i64 n) (.int .i64 n)).run Try.prog W = .ok (.slice (some ⟨W.heap.size, 0, none⟩) n n) (W.alloc (.cells (madeCells (zeroFr 0).cells.toArray (n * 516)) 72)) := fun W => by
    have h := run_make (P := Try.prog) W 45 72 i _ Try.underlying45 hi hz .i64 .i64 n n (by omega) (by omega) (by rw [hby]; omega) (by omega)
    rw [hs] at h
    rw [show (Value.agg (zeroFr 0).cells.toArray).cells = (zeroFr 0).cells.toArray from rfl] at h
    simpa using h
  obtain ⟨M, hM⟩ : ∃ M, M = madeCells (zeroFr 0).cells.toArray (n * 516) := ⟨_, rfl⟩
  have hMs : M.size = n * 516 := by rw [hM, size_madeCells]
  rw [← hM] at hmk
  have hmm := @run_makeMap Try.prog
  have hg1 : ¬ ((n : Int) < 1) := by omega
  have hg2 : ¬ ((1024 : Int) < n) := by omega
  have HH := Lib.hid h
  clear hM hi hz hs hby h
  go_enter Try.func8, Try.ntmps8
  go_wp2_with fail
  refine HR.out.mono ?_
  rintro e w2 ⟨rfl, hw⟩
  subst w2
  have hend : PoolG (w.heap.size + 1 + 1) d w.heap.size (w.heap.size + 1) n 0 0 (fun _ => none) (((w.alloc (.cells M 72)).alloc (.map #[] 0)).alloc (.cells #[.pointer (some ⟨w.heap.size + 1 + 1, 0, none⟩), .pointer (some ⟨d, 0, none⟩), .slice (some ⟨w.heap.size, 0, none⟩) n n, .map (some (w.heap.size + 1)), .int .i64 0] 48)) := by
    obtain ⟨X, hX⟩ : ∃ X : Obj, X = .cells #[.pointer (some ⟨w.heap.size + 1 + 1, 0, none⟩), .pointer (some ⟨d, 0, none⟩), .slice (some ⟨w.heap.size, 0, none⟩) n n, .map (some (w.heap.size + 1)), .int .i64 0] 48 := ⟨_, rfl⟩
    have hfb : (((w.alloc (.cells M 72)).alloc (.map #[] 0)).alloc X).heap[w.heap.size]? = some (.cells M 72 (0, 0)) := by
      rw [Below.heap_alloc _ _ _ (by simp; omega), Below.heap_alloc _ _ _ (by simp)]
      exact heap_alloc_new w _
    have hp : (((w.alloc (.cells M 72)).alloc (.map #[] 0)).alloc X).heap[w.heap.size + 1 + 1]? = some X := by
      have := heap_alloc_new ((w.alloc (.cells M 72)).alloc (.map #[] 0)) X
      simpa using this
    rw [← hX]
    refine ⟨by rw [hp, hX]; rfl, h1, h2, h1, fun j hj => ⟨?_, Lib.frozen_of_heap hfb _⟩, fun j => Lib.frozen_of_heap hfb _, (fun i f hf => by cases hf), (fun i j f g hf => by cases hf), ⟨fun _ => none, ?_, fun i f hf => by (cases hf), fun q v hv => by (cases hv)⟩, by omega, by omega, by omega⟩
    · rw [Lib.cell_of_heap hfb, Nat.zero_add, Array.getElem?_eq_getElem (by omega)]; rfl
    · have := pmap_made (w.alloc (.cells M 72))
      simp only [World.size_alloc] at this
      exact this.block (Below.heap_alloc _ _ _ (by simp))
  have HE := Lib.hid hend; clear hend
  go_wp2
  go_ret2
  exact ⟨_, _, _, rfl, HE.out, ⟨by omega, by omega, by omega⟩, (((Below.refl _ w).alloc (Nat.le_refl _) _).alloc (by simp) _).alloc (by simp; omega) _⟩
end Go.Proofs.Ytnmeobbbcccgjaa
