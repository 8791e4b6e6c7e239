/- Texts of the same proof, one behind the other: PN, PO, SM, LC, LD. -/
import Derived.Test.YtefddiikdamnbaaGreatDoorMAE
import Derived.Laws.MakeOwn
import Derived.Test.YtefddiikdamnbaaGreatDoorMAB
import Derived.Laws.OwnMore
/- Unpin, Read, Write, Pins, Held, Flush, New, so said. -/
set_option maxRecDepth 100000
namespace Go.Proofs.YtefddiikdamnbaaGreatDoor
open Go.RowKit

section
variable {B p d n N : Nat} {S : Nat → Prop} {w : World} {C : Nat → List UInt8} {P : Nat → Nat}

/-- A page that is not pinned. -/
def NoPins (P : Nat → Nat) (q : Int) : Prop := ∀ j : Nat, (j : Int) = q → P j = 0

/-- What a call leaves that turns one pinned page. -/
def StPost (B : Nat) (S : Nat → Prop) (p d n : Nat) (C : Nat → List UInt8) (P : Nat → Nat) (N : Nat) (w : World) (e : Ending) (w' : World) : Prop :=
  e = .returned (.int .i64 0) ∧ ∃ S', Turn S w S' w' ∧ PoolSt B S' p d n C P N w'

end

set_option maxHeartbeats 800000 in
theorem pnew_nodisk (v : Value) (n : Int) (w : World) (hp : NoDisk v w) :
    Calls Tryz.prog 49 #[v, .int .i64 n] w fun e w' => e = .returned (.tuple #[.pointer none, .int .i64 1]) ∧ w' = w := by
  have HR := Lib.hid (read_nobody v 1 0 0 w hp)
  clear hp
  go_enter Tryz.func49, Tryz.ntmps49
  go_wp2_with fail
  refine HR.out.mono ?_
  rintro e w2 ⟨rfl, rfl⟩
  go_wp2
  go_ret2
  exact ⟨rfl, rfl⟩

theorem infoFr : (Tryz.prog.info? 191).map (fun i => (i.zero, i.size, i.bytes)) = some (some (.agg (zeroFr 0).cells.toArray), 516, 536) := by kernel_rfl

set_option maxHeartbeats 1600000 in
theorem pnew_ok (d n : Nat) (S : Nat → Prop) (ops : List RawOp) (w : World) (h : DiskAt S d ops w) (h1 : 1 ≤ n) (h2 : n ≤ 1024) :
    Calls Tryz.prog 49 #[.pointer (some ⟨d, 0, none⟩), .int .i64 n] w fun e w' => ∃ p fb mb, e = .returned (.tuple #[.pointer (some ⟨p, 0, none⟩), .int .i64 0]) ∧ PoolG p d fb mb n 0 0 (fun _ => none) w' ∧ (w.heap.size ≤ p ∧ w.heap.size ≤ fb ∧ w.heap.size ≤ mb) ∧ Below w.heap.size w w' := by
  have HR := Lib.hid (read_ok 1 0 0 S d ops w h (by omega) (by omega))
  simp only [List.take_zero] at HR
  obtain ⟨i, hi, hz, hs, hby⟩ := info_parts infoFr
  have hmk : ∀ W : World, (Instr.makeSlice 169 (.int .i64 n) (.int .i64 n)).run Tryz.prog W = .ok (.slice (some ⟨W.heap.size, 0, none⟩) n n) (W.alloc (.cells (madeCells (zeroFr 0).cells.toArray (n * 516)) 191)) := fun W => by
    have h := run_make (P := Tryz.prog) W 169 191 i _ Tryz.underlying169 hi hz .i64 .i64 n n (by omega) (by omega) (by rw [hby]; omega) (by omega)
    rw [hs] at h
    rw [show (Value.agg (zeroFr 0).cells.toArray).cells = (zeroFr 0).cells.toArray from rfl] at h
    simpa using h
  obtain ⟨M, hM⟩ : ∃ M, M = madeCells (zeroFr 0).cells.toArray (n * 516) := ⟨_, rfl⟩
  have hMs : M.size = n * 516 := by rw [hM, size_madeCells]
  rw [← hM] at hmk
  have hmm := @run_makeMap Tryz.prog
  have hg1 : ¬ ((n : Int) < 1) := by omega
  have hg2 : ¬ ((1024 : Int) < n) := by omega
  have HH := Lib.hid h
  clear hM hi hz hs hby h
  go_enter Tryz.func49, Tryz.ntmps49
  go_wp2_with fail
  refine HR.out.mono ?_
  rintro e w2 ⟨rfl, hw⟩
  subst w2
  have hend : PoolG (w.heap.size + 1 + 1) d w.heap.size (w.heap.size + 1) n 0 0 (fun _ => none) (((w.alloc (.cells M 191)).alloc (.map #[] 0)).alloc (.cells #[.pointer (some ⟨w.heap.size + 1 + 1, 0, none⟩), .pointer (some ⟨d, 0, none⟩), .slice (some ⟨w.heap.size, 0, none⟩) n n, .map (some (w.heap.size + 1)), .int .i64 0] 172)) := by
    obtain ⟨X, hX⟩ : ∃ X : Obj, X = .cells #[.pointer (some ⟨w.heap.size + 1 + 1, 0, none⟩), .pointer (some ⟨d, 0, none⟩), .slice (some ⟨w.heap.size, 0, none⟩) n n, .map (some (w.heap.size + 1)), .int .i64 0] 172 := ⟨_, rfl⟩
    have hfb : (((w.alloc (.cells M 191)).alloc (.map #[] 0)).alloc X).heap[w.heap.size]? = some (.cells M 191 (0, 0)) := by
      rw [Below.heap_alloc _ _ _ (by simp; omega), Below.heap_alloc _ _ _ (by simp)]
      exact heap_alloc_new w _
    have hp : (((w.alloc (.cells M 191)).alloc (.map #[] 0)).alloc X).heap[w.heap.size + 1 + 1]? = some X := by
      have := heap_alloc_new ((w.alloc (.cells M 191)).alloc (.map #[] 0)) X
      simpa using this
    rw [← hX]
    refine ⟨by rw [hp, hX]; rfl, h1, h2, h1, fun j hj => ⟨?_, Lib.frozen_of_heap hfb _⟩, fun j => Lib.frozen_of_heap hfb _, (fun i f hf => by cases hf), (fun i j f g hf => by cases hf), ⟨fun _ => none, ?_, fun i f hf => by (cases hf), fun q v hv => by (cases hv)⟩, by omega, by omega, by omega⟩
    · rw [Lib.cell_of_heap hfb, Nat.zero_add, Array.getElem?_eq_getElem (by omega)]; rfl
    · have := pmap_made (w.alloc (.cells M 191))
      simp only [World.size_alloc] at this
      exact this.block (Below.heap_alloc _ _ _ (by simp))
  have HE := Lib.hid hend; clear hend
  go_wp2
  go_ret2
  exact ⟨_, _, _, rfl, HE.out, ⟨by omega, by omega, by omega⟩, (((Below.refl _ w).alloc (Nat.le_refl _) _).alloc (by simp) _).alloc (by simp; omega) _⟩
end Go.Proofs.YtefddiikdamnbaaGreatDoor

/- A new pool on a disk, so said; the calls on no pool; the law's awake is true. -/
set_option maxRecDepth 100000
namespace Go.Proofs.YtefddiikdamnbaaGreatDoor
open Go.RowKit

theorem chg_none (n : Nat) : chg n (fun _ => none) = 0 := by
  induction n with
  | zero => rfl
  | succ n ih => rw [chg, ih]; rfl

section
variable {B p d n N : Nat} {S : Nat → Prop} {w : World} {C : Nat → List UInt8} {P : Nat → Nat}
end

theorem pinnedN_zero {P : Nat → Nat} (h : ∀ q, P q = 0) : pinnedN P = 0 :=
  (pinnedN_list (l := []) List.nodup_nil (fun q => by simp [h q])).symm
def xS : ByteArray := ⟨#[120]⟩
end Go.Proofs.YtefddiikdamnbaaGreatDoor

/- A pool as whoever uses it sees it, and of its disk's raw writes what J says of them: Pin, Unpin, Read, Write, Pins, Held so said. -/
set_option maxRecDepth 100000
namespace Go.Proofs.YtefddiikdamnbaaGreatDoor
open Go.RowKit

/-- A pool that New gave, as it is seen from outside; its disk's raw writes are as J says; all its blocks, the disk's too, are of S, and lie from B on. -/
def PoolJ (J : List RawOp → Prop) (B : Nat) (S : Nat → Prop) (p d n : Nat) (C : Nat → List UInt8) (P : Nat → Nat) (N : Nat) (w : World) : Prop :=
  ∃ fb mb hand m fr Sd ops, J ops ∧ PoolG p d fb mb n hand m fr w ∧ Filled n m fr ∧ DiskAt Sd d ops w ∧ View n fr ops C P N ∧ (¬ Sd p ∧ ¬ Sd fb ∧ ¬ Sd mb) ∧ (∀ k, Sd k ∨ k = p ∨ k = fb ∨ k = mb → S k) ∧ ∀ k, S k → B ≤ k ∧ k < w.heap.size

section
variable {B p d n N : Nat} {S : Nat → Prop} {w w' : World} {C : Nat → List UInt8} {P : Nat → Nat} {J : List RawOp → Prop}
theorem PoolJ.size (h : PoolJ J B S p d n C P N w) : B ≤ w.heap.size := by
  obtain ⟨fb, mb, hand, m, fr, Sd, ops, hJ, h1, _, _, _, _, h6, h7⟩ := h
  have := h7 p (h6 p (.inr (.inl rfl)))
  omega
theorem PoolJ.low (h : PoolJ J B S p d n C P N w) : ∀ k, S k → B ≤ k ∧ k < w.heap.size := by
  obtain ⟨fb, mb, hand, m, fr, Sd, ops, hJ, h1, _, _, _, _, h6, h7⟩ := h
  exact h7
theorem PoolJ.kept {T : Nat → Prop} (h : PoolJ J B S p d n C P N w) (hk : Kept T w w') (hd : ∀ k, k < w.heap.size → S k → ¬ T k) : PoolJ J B S p d n C P N w' := by
  obtain ⟨fb, mb, hand, m, fr, Sd, ops, hJ, h1, h2, h3, h4, h5, h6, h7⟩ := h
  have hn : ∀ k, Sd k ∨ k = p ∨ k = fb ∨ k = mb → ¬ T k := fun k hk' => hd k (h7 k (h6 k hk')).2 (h6 k hk')
  refine ⟨fb, mb, hand, m, fr, Sd, ops, hJ, h1.kept hk (hn p (.inr (.inl rfl))) (hn fb (.inr (.inr (.inl rfl)))) (hn mb (.inr (.inr (.inr rfl)))), h2, h3.kept hk (fun k _ hs => hn k (.inl hs)), h4, h5, h6, fun k hs => ⟨(h7 k hs).1, Nat.lt_of_lt_of_le (h7 k hs).2 hk.size⟩⟩
theorem PoolJ.below (h : PoolJ J B S p d n C P N w) (hk : Below w.heap.size w w') : PoolJ J B S p d n C P N w' :=
  h.kept (Kept.ofBelow (S := fun _ => False) hk) (fun _ _ _ => id)
theorem PoolJ.toBelow {S' : Nat → Prop} (h : PoolJ J B S p d n C P N w) (ht : Turn S w S' w') : Below B w w' := ht.1.toBelow h.size (fun k hk => (h.low k hk).1)

/-- A pool's state out of its parts, behind a turn. -/
theorem poolJ_mk {fb mb hand m : Nat} {fr : Nat → Option Fr} {Sd : Nat → Prop} {ops : List RawOp} (hJ : J ops) (h1 : PoolG p d fb mb n hand m fr w') (h2 : Filled n m fr) (h3 : DiskAt Sd d ops w') (h4 : View n fr ops C P N) (h5 : ¬ Sd p ∧ ¬ Sd fb ∧ ¬ Sd mb)
    (h6 : ∀ k, Sd k → S k ∨ w.heap.size ≤ k) (h7 : S p ∧ S fb ∧ S mb) (h8 : ∀ k, S k → B ≤ k ∧ k < w.heap.size) (h9 : Kept S w w') : ∃ S', Turn S w S' w' ∧ PoolJ J B S' p d n C P N w' := by
  refine ⟨fun k => (S k ∨ w.heap.size ≤ k) ∧ k < w'.heap.size, ⟨h9, fun k hk hs => hs.1.elim id (by omega)⟩, fb, mb, hand, m, fr, fun k => Sd k ∧ k < w'.heap.size, ops, hJ, h1, h2, h3.bound, h4, ⟨fun h => h5.1 h.1, fun h => h5.2.1 h.1, fun h => h5.2.2 h.1⟩, ?_, ?_⟩
  · rintro k (⟨h, hlt⟩ | rfl | rfl | rfl)
    · exact ⟨h6 k h, hlt⟩
    · exact ⟨.inl h7.1, h1.lt⟩
    · exact ⟨.inl h7.2.1, h1.ltF⟩
    · exact ⟨.inl h7.2.2, h1.ltM⟩
  · rintro k ⟨hk, hlt⟩
    refine ⟨hk.elim (fun h => (h8 k h).1) (fun h => ?_), hlt⟩
    have := h8 p h7.1
    omega
end

def PinPostJ (J : List RawOp → Prop) (B : Nat) (S : Nat → Prop) (p d n : Nat) (C : Nat → List UInt8) (P : Nat → Nat) (N q : Nat) (w : World) (e : Ending) (w' : World) : Prop :=
  ∃ S', Turn S w S' w' ∧ (e = .returned (.int .i64 40) ∧ P q = 0 ∧ pinnedN P = n ∧ PoolJ J B S' p d n C P N w' ∨ e = .returned (.int .i64 0) ∧ ¬ (P q = 0 ∧ pinnedN P = n) ∧ PoolJ J B S' p d n C (upd P q (P q + 1)) (N + 1) w')

theorem pin_j (J : List RawOp → Prop) (B : Nat) (S : Nat → Prop) (p d n : Nat) (C : Nat → List UInt8) (P : Nat → Nat) (N q : Nat) (w : World) (h : PoolJ J B S p d n C P N w) (hN : N ≤ 4398046511104) (hq : q < 4096) (hcl : ∀ ops q, J ops → J (ops ++ [.put 1 (q * 512) ⟨(C q).toArray⟩])) :
    Calls Tryz.prog 107 #[.pointer (some ⟨p, 0, none⟩), .int .i64 q] w (PinPostJ J B S p d n C P N q w) := by
  obtain ⟨fb, mb, hand, m, fr, Sd, ops, hJ, hG, hF, hD, hV, hO, hS, hB⟩ := h
  have hSS : S p ∧ S fb ∧ S mb := ⟨hS p (.inr (.inl rfl)), hS fb (.inr (.inr (.inl rfl))), hS mb (.inr (.inr (.inr rfl)))⟩
  by_cases hx : ∃ i f, fr i = some f ∧ f.page = q
  · -- a frame holds it
    obtain ⟨i, f, hi, rfl⟩ := hx
    obtain ⟨hin, _, hfb, _⟩ := hG.at_ i f hi
    obtain ⟨hC, hP, _⟩ := hV.held i f hi
    have hpn : f.pins ≤ N := by rw [← hP]; exact hV.bnd _
    refine (pin_held p d fb mb n hand m i fr f w hG hi (by omega)).mono ?_
    rintro e w' ⟨rfl, g1, g2⟩
    have hV2 := hV.turn hG.one hi hin (f' := { f with pins := f.pins + 1, lately := true }) rfl (fun h => ⟨h, rfl⟩) (by show f.pins + 1 ≤ N + 1; omega)
    have hC2 : upd C f.page f.bytes = C := by rw [← hC]; exact upd_self _ _
    have hV3 : View n (upd fr i (some { f with pins := f.pins + 1, lately := true })) ops C (upd P f.page (P f.page + 1)) (N + 1) := by
      rw [hP]; rw [show ({ f with pins := f.pins + 1, lately := true } : Fr).bytes = f.bytes from rfl, hC2] at hV2; exact hV2
    obtain ⟨S', hT, hSt⟩ := poolJ_mk (S := S) (B := B) (w := w) hJ g1 ⟨hF.1, fun j => by
      rw [hF.2 j]
      by_cases hj : j = i
      · subst hj; rw [upd_same]; exact ⟨fun _ => ⟨_, rfl⟩, fun _ => ⟨f, hi⟩⟩
      · rw [upd_other _ _ hj]⟩ (hD.kept g2 (fun k _ hs e => hO.2.1 (e ▸ hs))) hV3 hO (fun k hk => .inl (hS k (.inl hk))) hSS hB (g2.mono (fun k hk => hk ▸ hSS.2.1))
    refine ⟨S', hT, .inr ⟨rfl, ?_, hSt⟩⟩
    rintro ⟨h0, h1⟩
    exact full_no hG hV hin (fun g hg => by rw [hi] at hg; cases hg; omega) h1
  · have hno : ∀ j f, fr j = some f → f.page ≠ q := fun j f hj e => hx ⟨j, f, hj, e⟩
    have hP0 := (hV.free q hno).2
    by_cases hm : m < n
    · -- a frame is free
      have hnone : fr m = none := by
        cases hf : fr m with
        | none => rfl
        | some f => have := (hF.2 m).2 ⟨f, hf⟩; omega
      have hs : Calls Tryz.prog 163 #[.pointer (some ⟨p, 0, none⟩)] w fun e w' => ∃ i hand' m' fr' S ops', e = .returned (ptrFr fb i) ∧ Spared S p d fb mb n q hand' m' fr' ops' i w' ∧ (i = m ∧ m' = m ∧ fr' = fr ∧ S = Sd ∧ ops' = ops ∧ w' = w) :=
        (spare_free p d fb mb n hand m fr w hG hm).mono fun e w' ⟨h1, h2⟩ => ⟨m, hand, m, fr, Sd, ops, h1, by subst h2; exact ⟨hG, hnone, hm, hF.1, hno, hD, hO.1, hO.2.1, hO.2.2⟩, rfl, rfl, rfl, rfl, rfl, h2⟩
      refine (pin_new p d fb mb n hand m fr q (fun i m' fr' S ops' w' => i = m ∧ m' = m ∧ fr' = fr ∧ S = Sd ∧ ops' = ops ∧ w' = w) w hG hq hno hs).mono ?_
      rintro e w' ⟨rfl, i, hand', m', fr', S2, ops', w1, _, ⟨hX1, hX2, hX3, hX4, hX5, hX6⟩, g1, g2, g3⟩
      subst hX2 hX3 hX4 hX5 hX6
      rw [hX1] at g1
      obtain ⟨S', hT, hSt⟩ := poolJ_mk (S := S) (B := B) (w := w1) hJ g1 ⟨hm, fun j => by
        by_cases hj : j = m'
        · subst hj; rw [upd_same]; exact ⟨fun _ => ⟨_, rfl⟩, fun _ => by omega⟩
        · rw [upd_other _ _ hj, ← hF.2 j]; omega⟩ g2 (hV.load hnone hm hno) hO (fun k hk => .inl (hS k (.inl hk))) hSS hB (g3.mono (fun k hk => by rcases hk with rfl | rfl; exact hSS.2.1; exact hSS.2.2))
      refine ⟨S', hT, .inr ⟨rfl, ?_, ?_⟩⟩
      · rintro ⟨_, h1⟩
        exact full_no hG hV hm (fun g hg => by rw [hnone] at hg; cases hg) h1
      · rw [hP0]; exact hSt
    · have hmn : m = n := by have := hF.1; omega
      have hsp := spare_full p d fb mb n hand m fr Sd ops w hG hF hmn hD (by have := hV.cost; omega) hO.1 hO.2.1 hO.2.2
      by_cases hall : ∀ i, i < n → ∃ f, fr i = some f ∧ 0 < f.pins
      · -- all are pinned
        have hs : Calls Tryz.prog 163 #[.pointer (some ⟨p, 0, none⟩)] w fun e w' => e = .returned (.pointer none) ∧ ∃ hand' fr', Late fr fr' ∧ PoolG p d fb mb n hand' m fr' w' ∧ Kept (fun k => k = p ∨ k = fb) w w' := by
          refine hsp.mono ?_
          rintro e w' ⟨hand', fr', hL, he | ⟨i, f, S', hin, hi, hp, _⟩⟩
          · exact ⟨he.1, hand', fr', hL, he.2.1, he.2.2.2⟩
          · exfalso
            obtain ⟨f0, hf0, _, e2, _⟩ := late_some hL hi
            obtain ⟨g, hg, hgp⟩ := hall i hin
            rw [hf0] at hg; cases hg
            omega
        refine (pin_nil p d fb mb n hand m fr q (fun w' => ∃ hand' fr', Late fr fr' ∧ PoolG p d fb mb n hand' m fr' w' ∧ Kept (fun k => k = p ∨ k = fb) w w') w hG hq hno hs).mono ?_
        rintro e w' ⟨rfl, hand', fr', hL, g1, g2⟩
        obtain ⟨S', hT, hSt⟩ := poolJ_mk (S := S) (B := B) (w := w) hJ g1 ⟨hF.1, fun j => by
          rw [hF.2 j]
          constructor
          · rintro ⟨f, hf⟩; obtain ⟨b, hb⟩ := late_back hL hf; exact ⟨_, hb⟩
          · rintro ⟨f, hf⟩; obtain ⟨f0, hf0, _⟩ := late_some hL hf; exact ⟨_, hf0⟩⟩ (hD.kept g2 (fun k _ hsd e => by rcases e with rfl | rfl; exact hO.1 hsd; exact hO.2.1 hsd)) (hV.late hL) hO (fun k hk => .inl (hS k (.inl hk))) hSS hB (g2.mono (fun k hk => by rcases hk with rfl | rfl; exact hSS.1; exact hSS.2.1))
        exact ⟨S', hT, .inl ⟨rfl, hP0, full_yes hG hV hall, hSt⟩⟩
      · -- one is taken from another page
        obtain ⟨i0, hi0, hp0⟩ : ∃ i, i < n ∧ ∀ f, fr i = some f → f.pins = 0 := by
          refine Classical.byContradiction fun hc => hall fun i hi => ?_
          obtain ⟨f, hf⟩ := (hF.2 i).1 (by omega)
          refine ⟨f, hf, ?_⟩
          refine Classical.byContradiction fun hc2 => hc ⟨i, hi, fun g hg => ?_⟩
          rw [hf] at hg; cases hg; omega
        have hs : Calls Tryz.prog 163 #[.pointer (some ⟨p, 0, none⟩)] w fun e w' => ∃ i hand' m' fr2 S2 ops', e = .returned (ptrFr fb i) ∧ Spared S2 p d fb mb n q hand' m' fr2 ops' i w' ∧
            (m' = m - 1 ∧ (∃ fr1 f, Late fr fr1 ∧ fr1 i = some f ∧ f.pins = 0 ∧ fr2 = upd fr1 i none ∧ ops' = saved f ops ∧ f.bytes.length = 512) ∧ Kept (fun k => Sd k ∨ k = p ∨ k = fb ∨ k = mb) w w' ∧ ∀ k, S2 k → Sd k ∨ w.heap.size ≤ k) := by
          refine hsp.mono ?_
          rintro e w' ⟨hand', fr', hL, ⟨_, _, ha, _⟩ | ⟨i, f, S2, hin, hi, hp, he, g1, g2, g3, g4⟩⟩
          · exfalso
            obtain ⟨f, hf⟩ := (hF.2 i0).1 (by omega)
            obtain ⟨b, hb⟩ := late_back hL hf
            have h1 := ha i0 _ hi0 hb
            have h2 := hp0 f hf
            simp only at h1
            omega
          · obtain ⟨f0, hf0, _, _, _, e4⟩ := late_some hL hi
            have hbl : f.bytes.length = 512 := by rw [e4]; exact (hG.at_ i f0 hf0).2.2.1
            refine ⟨i, hand', m - 1, upd fr' i none, S2, saved f ops, he, ⟨g1, upd_same _ _ _, hin, by omega, fun j g hg => ?_, g2, ?_, ?_, ?_⟩, rfl, ⟨fr', f, hL, hi, hp, rfl, rfl, hbl⟩, g3, g4⟩
            · by_cases hj : j = i
              · subst hj; rw [upd_same] at hg; cases hg
              · rw [upd_other _ _ hj] at hg
                obtain ⟨g0, hg0, e1, _⟩ := late_some hL hg
                rw [e1]; exact hno j g0 hg0
            · exact fun hh => (g4 p hh).elim hO.1 (by have := hG.lt; omega)
            · exact fun hh => (g4 fb hh).elim hO.2.1 (by have := hG.ltF; omega)
            · exact fun hh => (g4 mb hh).elim hO.2.2 (by have := hG.ltM; omega)
        refine (pin_new p d fb mb n hand m fr q _ w hG hq hno hs).mono ?_
        rintro e w' ⟨rfl, i, hand', m', fr2, S2, ops', w1, hSp, ⟨rfl, ⟨fr1, f, hL, hi, hp, rfl, rfl, hbl⟩, k1, k2⟩, g1, g2, g3⟩
        have one1 : ∀ a b x y, fr1 a = some x → fr1 b = some y → x.page = y.page → a = b := fun a b x y hx hy hxy => by
          obtain ⟨x0, hx0, ex, _⟩ := late_some hL hx
          obtain ⟨y0, hy0, ey, _⟩ := late_some hL hy
          exact hG.one a b x0 y0 hx0 hy0 (by omega)
        have hV1 := (hV.late hL).evict one1 hi hSp.lt hbl hp
        have hV2 := hV1.load hSp.none_ hSp.lt hSp.no
        have hn1 := hG.n1
        have hJ2 : J (saved f ops) := by
          unfold saved
          cases hc : f.changed
          · exact hJ
          · have := hcl ops f.page hJ
            rwa [((hV.late hL).held i f hi).1] at this
        obtain ⟨S', hT, hSt⟩ := poolJ_mk (S := S) (B := B) (w := w) hJ2 g1 ⟨by omega, fun j => by
          by_cases hj : j = i
          · subst hj; rw [upd_same]
            have := hSp.lt
            exact ⟨fun _ => ⟨_, rfl⟩, fun _ => by omega⟩
          · rw [upd_other _ _ hj, upd_other _ _ hj]
            rw [show j < m - 1 + 1 ↔ j < m from by omega, hF.2 j]
            constructor
            · rintro ⟨f, hf⟩; obtain ⟨b, hb⟩ := late_back hL hf; exact ⟨_, hb⟩
            · rintro ⟨f, hf⟩; obtain ⟨f0, hf0, _⟩ := late_some hL hf; exact ⟨_, hf0⟩⟩ g2 hV2 ⟨hSp.oP, hSp.oF, hSp.oM⟩ (fun k hk => (k2 k hk).imp (fun h => hS k (.inl h)) id) hSS hB
          ((k1.mono (fun k hk => hS k hk)).trans g3 (fun k hk => by rcases hk with rfl | rfl; exact .inl hSS.2.1; exact .inl hSS.2.2))
        refine ⟨S', hT, .inr ⟨rfl, ?_, ?_⟩⟩
        · rintro ⟨_, h1⟩
          exact full_no hG hV hi0 hp0 h1
        · rw [hP0]; exact hSt
section
variable {B p d n N : Nat} {S : Nat → Prop} {w : World} {C : Nat → List UInt8} {P : Nat → Nat} {J : List RawOp → Prop}

theorem read_j (h : PoolJ J B S p d n C P N w) (q : Nat) (hp : 0 < P q) :
    Calls Tryz.prog 108 #[.pointer (some ⟨p, 0, none⟩), .int .i64 q] w fun e w' => e = .returned (.tuple #[.string ⟨(C q).toArray⟩, .int .i64 0]) ∧ w' = w := by
  obtain ⟨fb, mb, hand, m, fr, Sd, ops, hJ, hG, _, _, hV, _⟩ := h
  obtain ⟨i, f, hi, rfl, _, hfp, _⟩ := holder hG hV hp
  rw [(hV.held i f hi).1]
  exact pread_yes p d fb mb n hand m i fr f w hG hi (by omega)
/-- What a call leaves that turns one pinned page. -/
def StPostJ (J : List RawOp → Prop) (B : Nat) (S : Nat → Prop) (p d n : Nat) (C : Nat → List UInt8) (P : Nat → Nat) (N : Nat) (w : World) (e : Ending) (w' : World) : Prop :=
  e = .returned (.int .i64 0) ∧ ∃ S', Turn S w S' w' ∧ PoolJ J B S' p d n C P N w'

theorem turn_j {fb mb hand m i : Nat} {fr : Nat → Option Fr} {Sd : Nat → Prop} {ops : List RawOp} {f f' : Fr} {w' : World} (hJ : J ops) (hG : PoolG p d fb mb n hand m fr w) (hF : Filled n m fr) (hD : DiskAt Sd d ops w) (hV : View n fr ops C P N) (hO : ¬ Sd p ∧ ¬ Sd fb ∧ ¬ Sd mb) (hS : ∀ k, Sd k ∨ k = p ∨ k = fb ∨ k = mb → S k) (hB : ∀ k, S k → B ≤ k ∧ k < w.heap.size)
    (hi : fr i = some f) (hFr : FrAt w' fb (i * 516) f') (hT : Touch fb (i * 516) 516 w w') (hK : Kept (fun k => k = fb) w w') (hb : f'.bytes.length = 512) (hpg : f'.page = f.page) (hc : f'.changed = false → f.changed = false ∧ f'.bytes = f.bytes) (hN : f'.pins ≤ N + 1) :
    ∃ S', Turn S w S' w' ∧ PoolJ J B S' p d n (upd C f.page f'.bytes) (upd P f.page f'.pins) (N + 1) w' := by
  have hSS : S p ∧ S fb ∧ S mb := ⟨hS p (.inr (.inl rfl)), hS fb (.inr (.inr (.inl rfl))), hS mb (.inr (.inr (.inr rfl)))⟩
  exact poolJ_mk hJ (hG.turnFr hi hT hK hFr hb hpg) ⟨hF.1, fun j => by
      rw [hF.2 j]
      by_cases hj : j = i
      · subst hj; rw [upd_same]; exact ⟨fun _ => ⟨_, rfl⟩, fun _ => ⟨f, hi⟩⟩
      · rw [upd_other _ _ hj]⟩ (hD.kept hK (fun k _ hs e => hO.2.1 (e ▸ hs))) (hV.turn hG.one hi (hG.at_ i f hi).1 hpg hc hN) hO (fun k hk => .inl (hS k (.inl hk))) hSS hB (hK.mono (fun k hk => hk ▸ hSS.2.1))

theorem unpin_j (h : PoolJ J B S p d n C P N w) (q : Nat) (hp : 0 < P q) (hN : N ≤ 4398046511104) :
    Calls Tryz.prog 109 #[.pointer (some ⟨p, 0, none⟩), .int .i64 q] w (StPostJ J B S p d n C (upd P q (P q - 1)) (N + 1) w) := by
  obtain ⟨fb, mb, hand, m, fr, Sd, ops, hJ, hG, hF, hD, hV, hO, hS, hB⟩ := h
  obtain ⟨i, f, hi, rfl, _, hfp, _⟩ := holder hG hV hp
  have hb := hV.bnd f.page
  refine (unpin_yes p d fb mb n hand m i fr f w hG hi (by omega) (by omega)).mono ?_
  rintro e w' ⟨rfl, g1, g2, g3⟩
  obtain ⟨S', hT, hSt⟩ := turn_j hJ hG hF hD hV hO hS hB hi g1 g2 g3 (hG.at_ i f hi).2.2.1 rfl (fun h => ⟨h, rfl⟩) (by show f.pins - 1 ≤ N + 1; omega)
  refine ⟨rfl, S', hT, ?_⟩
  have hC := (hV.held i f hi).1
  rw [show ({ f with pins := f.pins - 1 } : Fr).bytes = C f.page from hC.symm, upd_self] at hSt
  rw [← hfp]; exact hSt

theorem write_j (h : PoolJ J B S p d n C P N w) (q a : Nat) (s : ByteArray) (hp : 0 < P q) (ha : a + s.size ≤ 512) :
    Calls Tryz.prog 161 #[.pointer (some ⟨p, 0, none⟩), .int .i64 q, .int .i64 a, .string s] w (StPostJ J B S p d n (upd C q (splice (C q) a s.data.toList)) P (N + 1) w) := by
  obtain ⟨fb, mb, hand, m, fr, Sd, ops, hJ, hG, hF, hD, hV, hO, hS, hB⟩ := h
  obtain ⟨i, f, hi, rfl, _, hfp, _⟩ := holder hG hV hp
  have hb := hV.bnd f.page
  have hbl := (hG.at_ i f hi).2.2.1
  refine (pwrite_yes p d fb mb n hand m i a fr f s w hG hi (by omega) ha).mono ?_
  rintro e w' ⟨rfl, g1, g2, g3⟩
  have he : s.data.toList.length = s.size := rfl
  obtain ⟨S', hT, hSt⟩ := turn_j hJ hG hF hD hV hO hS hB hi g1 g2 g3 (by show (splice f.bytes a s.data.toList).length = 512; rw [length_splice _ _ _ (by rw [he, hbl]; exact ha)]; exact hbl) rfl (fun h => by
    simp only [Bool.or_eq_false_iff, decide_eq_false_iff_not, ne_eq, Classical.not_not] at h
    refine ⟨h.1, ?_⟩
    have : s.data.toList = [] := List.eq_nil_of_length_eq_zero (by rw [he, h.2])
    show splice f.bytes a s.data.toList = f.bytes
    rw [this, splice_nil]) (by show f.pins ≤ N + 1; omega)
  refine ⟨rfl, S', hT, ?_⟩
  have hC := (hV.held i f hi).1
  have hP := (hV.held i f hi).2.1
  rw [show ({ f with bytes := splice f.bytes a s.data.toList, changed := f.changed || decide (s.size ≠ 0) } : Fr).bytes = splice f.bytes a s.data.toList from rfl, show ({ f with bytes := splice f.bytes a s.data.toList, changed := f.changed || decide (s.size ≠ 0) } : Fr).pins = P f.page from hP.symm, upd_self] at hSt
  rw [hC]; exact hSt

end
end Go.Proofs.YtefddiikdamnbaaGreatDoor

/- The contract of a log's cut: for whatever bytes. -/
set_option maxRecDepth 100000
namespace Go.Proofs.YtefddiikdamnbaaGreatDoor
open Go.RowKit

theorem wordOf_at (a : Option Addr) (l : List UInt8) (n c : Nat) (w : World) (hn : l.length = n) (hl : n ≤ 6) (hR : ReadsB w a l) :
    Calls Tryz.prog 213 #[.slice a n c] w fun e w' => e = .returned (.int .i64 (v4 l)) ∧ w = w' := by
  subst hn
  exact (wordOf_any a l c w hl hR).mono fun _ _ h => ⟨h.1, h.2.symm⟩

theorem ReadsB.take {w : World} {a : Option Addr} {l : List UInt8} (h : ReadsB w a l) (n : Nat) : ReadsB w a (l.take n) := by
  rcases h with rfl | ⟨b, off, h1, h2, h3⟩
  · exact .inl (by simp)
  · refine .inr ⟨b, off, h1, h2, fun j hj => ?_⟩
    rw [List.length_take] at hj
    rw [h3 j (by omega), List.getElem_take]
theorem ReadsB.drop {w : World} {b off : Nat} {l : List UInt8} (h : ReadsB w (some ⟨b, off, none⟩) l) (n : Nat) : ReadsB w (some ⟨b, off + n, none⟩) (l.drop n) := by
  rcases h with rfl | ⟨b', off', h1, h2, h3⟩
  · exact .inl (by simp)
  · injection h1 with h1
    injection h1 with h1 h4
    subst h1; subst h4
    refine .inr ⟨b, off + n, rfl, h2, fun j hj => ?_⟩
    rw [List.length_drop] at hj
    rw [List.getElem_drop, Nat.add_assoc, h3 (n + j) (by omega)]

set_option maxHeartbeats 800000 in
theorem lcut_no (a : Option Addr) (l : List UInt8) (c : Nat) (w : World) (hc : l.length ≤ c) (hl : l.length ≤ 4194304) (hR : ReadsB w a l) (h : cutF l = none) :
    Calls Tryz.prog 158 #[.slice a l.length c] w fun e w' => e = .returned (.tuple #[.slice none 0 0, .slice none 0 0, .bool false]) ∧ w' = w := by
  by_cases h8 : l.length < 8
  · go_enter Tryz.func158, Tryz.ntmps158
    go_wp2
    go_ret3
    exact ⟨rfl, rfl⟩
  · have hv : l.length - 8 < v4 (l.take 4) := by
      unfold cutF at h
      rw [if_neg h8] at h
      split at h
      · assumption
      · cases h
    have hlt : ((l.length : Int) - 8 < (v4 (l.take 4) : Int)) := by omega
    obtain ⟨b, off, rfl, _, hcell⟩ := hR.at (by omega)
    have H4 := Lib.hid (hR.take 4); clear hR hcell h
    have h4 : (l.take 4).length = 4 := by rw [List.length_take]; omega
    have HL4 := Lib.hid h4; clear h4
    have hc4 : 4 ≤ c := by omega
    go_enter Tryz.func158, Tryz.ntmps158
    go_wp2_with fail
    refine (wordOf_at _ (l.take 4) _ _ _ HL4.out (by omega) H4.out).mono ?_
    rintro e w' ⟨rfl, rfl⟩
    go_wp2
    go_ret3
    exact ⟨rfl, rfl⟩

set_option maxHeartbeats 800000 in
theorem lcut_yes (a : Option Addr) (l r rest : List UInt8) (c : Nat) (w : World) (hc : l.length ≤ c) (hl : l.length ≤ 4194304) (hR : ReadsB w a l) (h : cutF l = some (r, rest)) (hr : r ≠ []) :
    Calls Tryz.prog 158 #[.slice a l.length c] w fun e w' => ∃ a1 c1 a2 c2, e = .returned (.tuple #[.slice a1 r.length c1, .slice a2 rest.length c2, .bool true]) ∧ (∀ W, ReadsB W a l → ReadsB W a1 r ∧ ReadsB W a2 rest) ∧ rest.length ≤ c2 ∧ ∃ n, w' = w.drewN n := by
  have hlen := cutF_length h
  have hr0 : 0 < r.length := List.length_pos_iff.2 hr
  have hlt : ¬ ((l.length : Int) - 8 < (v4 (l.take 4) : Int)) := by omega
  have h8 : ¬ l.length < 8 := by omega
  obtain ⟨b, off, rfl, _, hcell⟩ := hR.at (by omega)
  have H4 := Lib.hid (hR.take 4)
  have h4 : (l.take 4).length = 4 := by rw [List.length_take]; omega
  have HL4 := Lib.hid h4; clear h4
  have hc4 : 4 ≤ c := by omega
  obtain ⟨q, hq⟩ : ∃ q, q = v4 (l.take 4) := ⟨_, rfl⟩
  rw [← hq] at hlt hlen
  have hq0 : 0 < q := by omega
  have hql : q + 8 ≤ l.length := by omega
  have HQ := Lib.hid hq; clear hq
  have hpost : Hid ((∀ W, ReadsB W (some ⟨b, off, none⟩) l → ReadsB W (some ⟨b, off + 4, none⟩) r ∧ ReadsB W (some ⟨b, off + (q + 8), none⟩) rest) ∧ rest.length = l.length - (q + 8) ∧ r.length = q) := Lib.hid (by
    unfold cutF at h
    rw [if_neg h8, ← HQ.out, if_neg (by omega)] at h
    injection h with h
    injection h with h3 h4
    subst h3; subst h4
    exact ⟨fun W hW => ⟨(hW.drop 4).take q, hW.drop (q + 8)⟩, by rw [List.length_drop], by rw [List.length_take, List.length_drop]; omega⟩)
  clear hR hcell h hr hr0 hlen
  go_enter Tryz.func158, Tryz.ntmps158
  go_wp2_with fail
  refine (wordOf_at _ (l.take 4) _ _ _ HL4.out (by omega) H4.out).mono ?_
  rintro e w' ⟨rfl, rfl⟩
  rw [← HQ.out]
  have e1 : IntKind.i64.wrap (4 + (q : Int)) = 4 + (q : Int) := IntWalk.i64_in _ (by omega)
  have e2 : IntKind.i64.wrap (4 + (q : Int) + 4) = 4 + (q : Int) + 4 := IntWalk.i64_in _ (by omega)
  go_wp2
  go_quiet (fail)
  go_wp2
  all_goals
    go_ret3
    obtain ⟨p1, p3, p4⟩ := hpost.out
    subst p4
    have p5 : l.length - (4 + r.length + 4) = rest.length := by omega
    rw [show off + (r.length + 8) = off + (4 + r.length + 4) by omega] at p1
    refine ⟨_, _, _, _, (by rw [← p5] <;> rfl), ?_, ?_, _, by first | exact rfl | (symm; assumption) | assumption⟩
    · intro W hW
      refine ⟨(p1 W hW).1, ?_⟩
      first
        | exact (p1 W hW).2
        | (left; exact List.eq_nil_of_length_eq_zero (by omega))
    · omega
end Go.Proofs.YtefddiikdamnbaaGreatDoor

/- The contract of a log's recordsOf: for the bytes of any records. -/
set_option maxRecDepth 100000
namespace Go.Proofs.YtefddiikdamnbaaGreatDoor
open Go.RowKit

theorem convert_reads (w : World) (a : Option Addr) (s : ByteArray) (c : Nat) (h : ReadsB w a s.data.toList) (h0 : 0 < s.size) :
    (convert 113 9 (.slice a s.size c)).run Tryz.prog w = .ok (.string s) w := by
  obtain ⟨b, off, rfl, _, hc⟩ := h.at h0
  have := run_convert_bytes_back (P := Tryz.prog) w 113 9 5 ⟨b, off, none⟩ c s.data.toList Tryz.underlying113 Tryz.underlying5 Tryz.underlying9 (fun j hj => by rw [Addr.add_lit]; exact hc j hj)
  exact this

/-- What is left of the bytes behind i records. -/
def restB (rs : List ByteArray) (i : Nat) : List UInt8 := logG (i + 1) (rs.drop i)
theorem restB_end (rs : List ByteArray) : restB rs rs.length = [] := by simp [restB, logG]
theorem restB_next {rs : List ByteArray} {i : Nat} (h : i < rs.length) : restB rs i = frm rs[i] (i + 1) ++ restB rs (i + 1) := by
  unfold restB
  rw [List.drop_eq_getElem_cons h, logG]
theorem restB_le (rs : List ByteArray) : ∀ i, i ≤ rs.length → (restB rs i).length ≤ (logB rs).length := by
  intro i
  induction i with
  | zero => intro _; simp [restB, logB]
  | succ i ih =>
    intro h
    have := ih (by omega)
    rw [restB_next (by omega : i < rs.length), List.length_append] at this
    omega

theorem lcut_end (a : Option Addr) (n c : Nat) (l : List UInt8) (w : World) (hn : l.length = n) (hl : l = []) :
    Calls Tryz.prog 158 #[.slice a n c] w fun e w' => e = .returned (.tuple #[.slice none 0 0, .slice none 0 0, .bool false]) ∧ w = w' := by
  subst hl; subst hn
  exact (lcut_no a [] c w (by simp) (by simp) (.inl rfl) rfl).mono fun _ _ h => ⟨h.1, h.2.symm⟩
theorem lcut_next (a : Option Addr) (n c : Nat) (l : List UInt8) (s : ByteArray) (rest : List UInt8) (w : World) (hn : l.length = n) (hc : n ≤ c) (hl : n ≤ 4194304) (hR : ReadsB w a l) (h : cutF l = some (s.data.toList, rest)) (hs : 1 ≤ s.size) :
    Calls Tryz.prog 158 #[.slice a n c] w fun e w' => ∃ a1 c1 a2 c2 m k, e = .returned (.tuple #[.slice a1 s.size c1, .slice a2 m c2, .bool true]) ∧ w' = w.drewN k ∧ (∀ W, ReadsB W a l → ReadsB W a1 s.data.toList ∧ ReadsB W a2 rest) ∧ rest.length = m ∧ m ≤ c2 := by
  subst hn
  refine (lcut_yes a l s.data.toList rest c w hc hl hR h (by intro e; have : s.data.toList.length = s.size := rfl; rw [e] at this; simp at this; omega)).mono ?_
  rintro e w' ⟨a1, c1, a2, c2, h1, h2, h4, k, h5⟩
  exact ⟨a1, c1, a2, c2, rest.length, k, h1, h5, h2, rfl, h4⟩

/-- The measure of recordsOf's loop. -/
def sliceLen : Value → Nat
  | .slice _ n _ => n
  | _ => 0

set_option maxHeartbeats 1600000 in
theorem recordsOf_any (rs : List ByteArray) (a : Option Addr) (c n : Nat) (w : World) (hn : (logB rs).length = n) (hl : n ≤ 4194304) (hrs : Recs rs) (hc : n ≤ c) (hR : ReadsB w a (logB rs)) :
    Calls Tryz.prog 102 #[.slice a n c] w fun e w' => ∃ v, e = .returned v ∧ Strs w.heap.size w' v rs ∧ Below w.heap.size w w' := by
  obtain ⟨i0, hi, q0, q1, q2⟩ := info_parts infoStr
  have hn9 := logB_length hrs
  have HRS := Lib.hid hrs; have HR := Lib.hid hR; clear hrs hR
  obtain ⟨N, hN⟩ : ∃ N, N = rs.length := ⟨_, rfl⟩
  rw [hn, ← hN] at hn9
  have HL := Lib.hid hn; have HN := Lib.hid hN; clear hn hN
  have HLE : Hid (∀ i, i ≤ N → (restB rs i).length ≤ n) := Lib.hid (fun i hi => by rw [← HL.out]; exact restB_le rs i (by rw [← HN.out]; exact hi))
  go_enter Tryz.func102, Tryz.ntmps102
  go_wp2
  go_loopw [0, 3] (fun b v wr => ∃ (i : Nat) (a' : Option Addr) (c' m : Nat) (av : Option Addr) (cv : Nat), i ≤ N ∧ b = .slice a' m c' ∧ v = .slice av i cv ∧ m ≤ c' ∧ m ≤ 4194304 ∧ Hid ((restB rs i).length = m) ∧ Hid (ReadsB w a' (restB rs i)) ∧ Hid (Strs w.heap.size wr v (rs.take i)) ∧ Hid (Below w.heap.size w wr)) (fun b _ _ => sliceLen b)
  case atStart => exact ⟨0, a, c, n, none, 0, by omega, rfl, rfl, hc, hl, Lib.hid (by rw [← HL.out]; rfl), HR, Lib.hid (World.ownsRow_nil _ _ _ _), Lib.hid (Below.refl _ _)⟩
  case round =>
    obtain ⟨i, a', c', m, av, cv, hiN, rfl, rfl, hmc, hm4, HM, HRR, HO, HB⟩ := hrel
    by_cases hlt : i < N
    · have hlt' : i < rs.length := by rw [← HN.out]; exact hlt
      have hok := HRS.out _ (List.getElem_mem hlt')
      have HNX := Lib.hid (restB_next hlt')
      have HCF : Hid (cutF (restB rs i) = some (rs[i].data.toList, restB rs (i + 1))) := Lib.hid (by rw [HNX.out]; exact cutF_frm hok.2)
      go_wp2_with fail
      refine (lcut_next _ _ _ _ _ _ _ HM.out hmc hm4 (HRR.out.below HB.out) HCF.out hok.1).mono ?_
      rintro e w1 ⟨a1, c1, a2, c2, m2, k, rfl, rfl, hr, hm2, hc2⟩
      have hr1 := (hr wr (HRR.out.below HB.out)).1
      have HRN : Hid (ReadsB w a2 (restB rs (i + 1))) := Lib.hid (hr w HRR.out).2
      have hwd : (wr.drewN k).heap.size = wr.heap.size := rfl
      have hcv := fun o => convert_reads ((wr.drewN k).alloc o) a1 rs[i] c1 ((hr1.below (below_drewN wr k)).below ((Below.refl _ _).alloc (Nat.le_refl _) o)) hok.1
      have hcv0 := convert_reads (wr.drewN k) a1 rs[i] c1 (hr1.below (below_drewN wr k)) hok.1
      have HM2 := Lib.hid hm2
      clear hr1 hr hm2
      have HO1 : Hid ((wr.drewN k).ownsRow w.heap.size 9 1 (.slice av i cv) i ((rs.take i).map Value.string)) := Lib.hid (by
        have := HO.out.below (below_drewN wr k)
        rw [Strs, List.length_take, Nat.min_eq_left (by omega)] at this
        exact this)
      have hBw : w.heap.size ≤ wr.heap.size := HB.out.size
      go_wp2_with (at_builtin; refine wpList_append_own _ rfl _ _ 62 rfl w.heap.size 9 i0 (.string ⟨#[]⟩) 1 16 Tryz.underlying62 hi q0 q1 q2 rfl (by decide) _ _ _ rfl (HO1.out.alloc _) ⟨wr.heap.size, 0, none⟩ 1 1 [.string rs[i]] rfl rfl ?c1 ?c2 ?c3 ?c4 ?c5 ?_)
      case c1 =>
        intro q u hu
        have hq : q = 0 := by
          have := (List.getElem?_eq_some_iff.1 hu).1
          simp at this
          omega
        subst hq
        simp at hu
        subst hu
        exact Lib.cell_of_heap (w := (wr.drewN k).alloc (.cells #[.string rs[i]] 9)) (b := wr.heap.size) (heap_alloc_new (wr.drewN k) _) 0
      case c2 => intro u hu; simp at hu; subst hu; rfl
      case c3 => unfold maxLen; omega
      case c4 => omega
      case c5 => simp; omega
      intro v' w2 hown' hgrow _
      obtain ⟨av', cv', rfl⟩ : ∃ a c, v' = .slice a (i + 1) c := by
        rcases hown'.2 with ⟨_, h0⟩ | ⟨g', cap', cur, hv, _⟩
        · omega
        · exact ⟨_, cap', hv⟩
      have HB2 : Hid (Below w.heap.size w w2) := Lib.hid (((HB.out.trans ((below_drewN wr k).mono hBw)).alloc hBw _).grown hgrow (by rw [World.size_alloc]; exact Nat.le_succ_of_le hBw) (fun q hq => (HO1.out.lt q hq).1))
      have HO2 : Hid (Strs w.heap.size w2 (.slice av' (i + 1) cv') (rs.take (i + 1))) := Lib.hid (by
        rw [Strs, List.take_succ_eq_append_getElem hlt', List.length_append, List.length_take, Nat.min_eq_left (by omega), List.map_append, List.map_take]
        exact hown')
      have hlen : m2 < m := by
        have := HM.out
        rw [HNX.out, List.length_append, frm_length, HM2.out] at this
        omega
      clear hown' hgrow hcv hcv0
      go_wp2
      go_roundw
      case rel => exact ⟨i + 1, a2, c2, m2, av', cv', by omega, rfl, rfl, hc2, by omega, HM2, HRN, HO2, HB2⟩
      case measure => simp [sliceLen]; omega
    · obtain rfl : i = N := by omega
      have HE : Hid (restB rs i = []) := Lib.hid (by rw [HN.out]; exact restB_end rs)
      go_wp2_with fail
      refine (lcut_end _ _ _ _ _ HM.out HE.out).mono ?_
      rintro e w1 ⟨rfl, rfl⟩
      go_wp2
      go_ret
      refine ⟨_, rfl, ?_, HB.out⟩
      have h : Strs w.heap.size wr (.slice av i cv) rs := by
        have := HO.out
        rwa [show rs.take i = rs by rw [HN.out, List.take_length]] at this
      exact h
end Go.Proofs.YtefddiikdamnbaaGreatDoor
