/- Texts of the same proof, one behind the other: SZJ, SZK, SZL, TG, TH, TI. -/
import Derived.Test.YtefddiikdamnbaaGreatDoorMAK
import Derived.Deep.RegionHeld3
import Derived.BigQuiet
/- Commit of an action that has something to tell, where the log has room. -/
set_option maxRecDepth 100000
namespace Go.Proofs.YtefddiikdamnbaaGreatDoor
open Go.RowKit

def CommitPost (B : Nat) (S : Nat → Prop) (a s d l p n : Nat) (C : Nat → List UInt8) (P : Nat → Nat) (N : Nat) (rs : List ByteArray) (f2 : List UInt8) (h : Hd) (ps : List Pt) (w w' : World) : Prop :=
  ∃ S', Kept (fun k => S k ∨ k = s ∨ k = a) w w' ∧ (∀ k, k < w.heap.size → S' k → S k) ∧ PoolJ (JL (rs ++ [⟨(recB h ps).toArray⟩]) f2) B S' p d n (appC C ps) P (N + 1 + 3 * ps.length) w' ∧ SpaceAt w' s d l p h none ∧ ActAt w' a s h (.map none)

end Go.Proofs.YtefddiikdamnbaaGreatDoor

/- What a record's bytes tell is the head and the patches that they are of. -/
set_option maxRecDepth 100000
namespace Go.Proofs.YtefddiikdamnbaaGreatDoor
open Go.RowKit

/-- A head with roots set, one by one; with words. -/
def setRs (y : Hd) (f : Nat → Nat) : Nat → Hd
  | 0 => y
  | k + 1 => (setRs y f k).setRoot k (f k)
def setWs (y : Hd) (f : Nat → Nat) : Nat → Hd
  | 0 => y
  | k + 1 => (setWs y f k).setWord k (f k)
end Go.Proofs.YtefddiikdamnbaaGreatDoor

/- A space at rest and an action that goes on, each with all that they stand on; their calls leave all that is older than B. -/
set_option maxRecDepth 100000
namespace Go.Proofs.YtefddiikdamnbaaGreatDoor
open Go.RowKit

def P0 : Nat → Nat := fun _ => 0
theorem pinned0 {n : Nat} (h : 0 < n) : pinnedN P0 ≠ n := by rw [pinnedN_zero (P := P0) (fun _ => rfl)]; omega
/-- J is closed under saved pages. -/
def Saves (J : List RawOp → Prop) : Prop := ∀ ops q bs, J ops → J (ops ++ [.put 1 (q * 512) bs])
theorem Saves.jl (rs : List ByteArray) (f2 : List UInt8) : Saves (JL rs f2) := fun ops q bs h => JL.save ops q bs h

/-- A space at block s, on its log, pool and disk. -/
structure SpSt (J : List RawOp → Prop) (B : Nat) (S : Nat → Prop) (s d l p n : Nat) (C : Nat → List UInt8) (N : Nat) (last : Hd) (cur : Option Nat) (w : World) : Prop where
  sp : SpaceAt w s d l p last cur
  ok : last.Ok
  pool : PoolJ J B S p d n C P0 N w
  lg : LogOn l d w
  ns : ¬ S s
  nl : ¬ S l
  ne : l ≠ s
  low : B ≤ s ∧ B ≤ l
  n0 : 0 < n

/-- An action at block a of the space at block s, that goes on. -/
structure LiveSt (J : List RawOp → Prop) (B : Nat) (S : Nat → Prop) (a s d l p db m n : Nat) (C : Nat → List UInt8) (N : Nat) (last h : Hd) (D : Nat → Option Dr) (w : World) : Prop where
  act : ActSt w a s d l p db m last h D
  pool : PoolJ J B S p d n C P0 N w
  lg : LogOn l d w
  ns : ¬ S s
  na : ¬ S a
  nl : ¬ S l
  nb : ¬ S db
  nd : ∀ q x, D q = some x → ¬ S x.blk
  ne : l ≠ a ∧ l ≠ s ∧ l ≠ db ∧ ∀ q x, D q = some x → x.blk ≠ l
  low : B ≤ a ∧ B ≤ s ∧ B ≤ l ∧ B ≤ db ∧ ∀ q x, D q = some x → B ≤ x.blk
  n0 : 0 < n

section
variable {J : List RawOp → Prop} {B a s d l p db m n N : Nat} {S : Nat → Prop} {C : Nat → List UInt8} {last h : Hd} {cur : Option Nat} {D : Nat → Option Dr} {w w' : World}

theorem SpSt.size (g : SpSt J B S s d l p n C N last cur w) : B ≤ w.heap.size := g.pool.size
theorem LiveSt.size (g : LiveSt J B S a s d l p db m n C N last h D w) : B ≤ w.heap.size := g.pool.size
theorem LiveSt.below (g : LiveSt J B S a s d l p db m n C N last h D w) (hb : Below w.heap.size w w') : LiveSt J B S a s d l p db m n C N last h D w' :=
  ⟨g.act.below hb, g.pool.below hb, g.lg.below hb, g.ns, g.na, g.nl, g.nb, g.nd, g.ne, g.low, g.n0⟩
/-- What the pool's blocks turn leaves the action. -/
theorem LiveSt.turn (g : LiveSt J B S a s d l p db m n C N last h D w) {S' : Nat → Prop} {M : Nat} {J' : List RawOp → Prop} (ht : Turn S w S' w') (hp : PoolJ J' B S' p d n C P0 M w') : LiveSt J' B S' a s d l p db m n C M last h D w' := by
  have h1 := g.act.sp.lt; have h2 := g.act.ac.lt; have h3 := g.act.dr.ltM; have h4 := g.lg.lt
  refine ⟨g.act.kept ht.1 g.na g.ns g.nb g.nd, hp, g.lg.kept ht.1 g.nl, ht.not h1 g.ns, ht.not h2 g.na, ht.not h4 g.nl, ht.not h3 g.nb, fun q x hq => ht.not (g.act.dr.at_ q x hq).2.2.2.2.2.2 (g.nd q x hq), g.ne, g.low, g.n0⟩
/-! ### Open, Begin -/
theorem open_sp (ops : List RawOp) (rs : List ByteArray) (xs : List (Hd × List Pt)) (g : DiskAt S d ops w) (hS : ∀ k, S k → B ≤ k ∧ k < w.heap.size) (hp : play ops 0 = logB rs) (hrs : Recs rs) (h1 : 4 ≤ n) (h2 : n ≤ 1024) (hNo : ops.length ≤ N) (hJ : J ops)
    (hlen : rs.length = xs.length) (hx : ∀ i (h1 : i < rs.length) (h2 : i < xs.length), Tells rs[i] xs[i]) (hN : resN N xs ≤ 4398046511104) (hok : (resH Hd.zero xs).Ok)
    (hcl : Saves J) (hJ2 : ∀ ops, J ops → (rHd (play ops 2, false)).2.2 = true) (hB : B ≤ w.heap.size) :
    Calls Tryz.prog 10 #[.pointer (some ⟨d, 0, none⟩), .int .i64 n] w fun e w' => ∃ s l p S', e = .returned (.tuple #[.pointer (some ⟨s, 0, none⟩), .int .i64 0]) ∧ SpSt J B S' s d l p n (resC (fun q => pageOf (play ops 1) q) xs) (resN N xs) (resH Hd.zero xs) none w' ∧ Below B w w' := by
  refine (sopen_ok J B d n N S ops rs xs w g hS hp hrs h1 h2 hNo hJ hlen hx hN hcl hJ2).mono ?_
  rintro e w' ⟨s, l, p, S', rfl, ⟨a1, a2, a3, a4, a5⟩, hlg, hsp, hpool, hk, _⟩
  exact ⟨s, l, p, S', rfl, ⟨hsp, hok, hpool, hlg, a4, a5, a3, ⟨by omega, by omega⟩, by omega⟩, hk.toBelow hB (fun i hi => (hS i hi).1)⟩

theorem dr_none {db : Nat} (hm : PMap w db 0 (fun _ => none)) : DraftsAt w db 0 (fun _ => none) :=
  ⟨⟨_, hm, (fun q x hq => by cases hq), (fun q v hv => by cases hv)⟩, (fun q x hq => by cases hq), (fun q q' x y hq => by cases hq)⟩

theorem begin_sp (g : SpSt J B S s d l p n C N last none w) :
    Calls Tryz.prog 12 #[.pointer (some ⟨s, 0, none⟩)] w fun e w' => ∃ a db, e = .returned (.tuple #[.pointer (some ⟨a, 0, none⟩), .int .i64 0]) ∧ LiveSt J B S a s d l p db 0 n C N last last (fun _ => none) w' ∧ Below B w w' ∧ w.heap.size ≤ a ∧ Kept (fun k => k = s) w w' := by
  refine (begin_ok s d l p last w g.sp g.ok).mono ?_
  rintro e w' ⟨a, db, rfl, hac, hm, hsp, ha, hdb, hne, hk⟩
  have hsz := g.size
  have hlS : ∀ k, S k → k < w.heap.size := fun k hk => (g.pool.low k hk).2
  have hll := g.lg.lt
  have hls := g.sp.lt
  refine ⟨a, db, rfl, ⟨⟨hsp, hac, dr_none hm, g.ok, g.ok, (fun q x hq => by cases hq), ⟨by omega, hne, by omega⟩, (fun q x hq => by cases hq)⟩, g.pool.kept hk (fun k _ hS he => g.ns (he ▸ hS)), g.lg.kept hk g.ne, g.ns, fun hh => by have := hlS _ hh; omega, g.nl, fun hh => by have := hlS _ hh; omega, (fun q x hq => by cases hq), ⟨by omega, g.ne, by omega, (fun q x hq => by cases hq)⟩, ⟨by omega, g.low.1, g.low.2, by omega, (fun q x hq => by cases hq)⟩, g.n0⟩, hk.toBelow hsz (fun i hi => by have := g.low.1; omega), ha, hk⟩

/-! ### An action's calls -/
/-- The action's own blocks have turned, no others. -/
theorem LiveSt.bel (g : LiveSt J B S a s d l p db m n C N last h D w) (hk : Kept (fun k => k = a ∨ k = db) w w') : Below B w w' := hk.toBelow g.size (fun i hi => by rcases hi with rfl | rfl <;> have := g.low <;> omega)

theorem alloc_live (g : LiveSt J B S a s d l p db m n C N last h D w) (hT : Tab w) :
    Calls Tryz.prog 15 #[.pointer (some ⟨a, 0, none⟩)] w fun e w' =>
      (∃ q h' b, h.NextIs q h' ∧ e = .returned (.tuple #[.int .i64 q, .int .i64 0]) ∧ LiveSt J B S a s d l p db (m + 1) n C N last h' (upd D q (some ⟨b, true, noughts, noughts⟩)) w' ∧ Below B w w' ∧ Kept (fun k => k = a ∨ k = db) w w' ∧ w.heap.size ≤ b) ∨
      ((∀ j, h.isFree j = false) ∧ h.count = 4095 ∧ e = .returned (.tuple #[.int .i64 0, .int .i64 2]) ∧ w' = w) := by
  refine (aalloc_live g.act hT (by have := g.act.dr.few; omega)).mono ?_
  rintro e w' (⟨q, h', b, hn, rfl, hb, hx, hk⟩ | ⟨h1, h2, rfl, rfl⟩)
  · have hlS : ∀ k, S k → k < w.heap.size := fun k hk => (g.pool.low k hk).2
    have hll := g.lg.lt
    have hsz := g.size
    refine .inl ⟨q, h', b, hn, rfl, ⟨hx, g.pool.kept hk (fun k _ hS he => by rcases he with rfl | rfl; exact g.na hS; exact g.nb hS), g.lg.kept hk (by rintro (hh | hh); exact g.ne.1 hh; exact g.ne.2.2.1 hh), g.ns, g.na, g.nl, g.nb, fun j y hj => ?_, ⟨g.ne.1, g.ne.2.1, g.ne.2.2.1, fun j y hj => ?_⟩, ⟨g.low.1, g.low.2.1, g.low.2.2.1, g.low.2.2.2.1, fun j y hj => ?_⟩, g.n0⟩, g.bel hk, hk, hb⟩
    all_goals
      by_cases hjq : j = q
      · subst hjq; rw [upd_same] at hj; cases hj
        first
          | (intro hh; have := hlS _ hh; simp only at this; omega)
          | (simp only; omega)
      · rw [upd_other _ _ hjq] at hj
        first
          | exact g.nd j y hj
          | exact g.ne.2.2.2 j y hj
          | exact g.low.2.2.2.2 j y hj
  · exact .inr ⟨h1, h2, rfl, rfl⟩

theorem root_live (q : Nat) (g : LiveSt J B S a s d l p db m n C N last h D w) (hq : q < 16) :
    Calls Tryz.prog 16 #[.pointer (some ⟨a, 0, none⟩), .int .i64 q] w fun e w' => e = .returned (.tuple #[.int .i64 (h.root q), .int .i64 0]) ∧ w' = w := aroot_good a h q w g.act.live g.act.ac.hd g.act.ok hq

end
end Go.Proofs.YtefddiikdamnbaaGreatDoor

/- A pool as whoever uses it sees it, its raw writes counted apart from its pins: what is read costs nothing that was not owed. -/
set_option maxRecDepth 100000
namespace Go.Proofs.YtefddiikdamnbaaGreatDoor
open Go.RowKit

/-- As PoolJ; M bounds the pins, N the raw writes, those that are owed too. -/
def PoolK (J : List RawOp → Prop) (B : Nat) (S : Nat → Prop) (p d n : Nat) (C : Nat → List UInt8) (P : Nat → Nat) (M N : Nat) (w : World) : Prop :=
  ∃ fb mb hand m fr Sd ops, J ops ∧ PoolG p d fb mb n hand m fr w ∧ Filled n m fr ∧ DiskAt Sd d ops w ∧ View n fr ops C P M ∧ ops.length + chg n fr ≤ N ∧ (¬ Sd p ∧ ¬ Sd fb ∧ ¬ Sd mb) ∧ (∀ k, Sd k ∨ k = p ∨ k = fb ∨ k = mb → S k) ∧ ∀ k, S k → B ≤ k ∧ k < w.heap.size

theorem PoolJ.toK {J : List RawOp → Prop} {B p d n N : Nat} {S : Nat → Prop} {w : World} {C : Nat → List UInt8} {P : Nat → Nat} (h : PoolJ J B S p d n C P N w) : PoolK J B S p d n C P N N w := by
  obtain ⟨fb, mb, hand, m, fr, Sd, ops, hJ, h1, h2, h3, h4, h5⟩ := h
  exact ⟨fb, mb, hand, m, fr, Sd, ops, hJ, h1, h2, h3, h4, h4.cost, h5⟩
theorem PoolK.toJ {J : List RawOp → Prop} {B p d n M N : Nat} {S : Nat → Prop} {w : World} {C : Nat → List UInt8} {P : Nat → Nat} (h : PoolK J B S p d n C P M N w) : PoolJ J B S p d n C P (max M N) w := by
  obtain ⟨fb, mb, hand, m, fr, Sd, ops, hJ, h1, h2, h3, h4, h5, h6⟩ := h
  exact ⟨fb, mb, hand, m, fr, Sd, ops, hJ, h1, h2, h3, ⟨h4.held, h4.free, by omega, fun q => Nat.le_trans (h4.bnd q) (Nat.le_max_left _ _)⟩, h6⟩
theorem PoolK.rest {J : List RawOp → Prop} {B p d n M N : Nat} {S : Nat → Prop} {w : World} {C : Nat → List UInt8} (h : PoolK J B S p d n C P0 M N w) : PoolJ J B S p d n C P0 N w := by
  obtain ⟨fb, mb, hand, m, fr, Sd, ops, hJ, h1, h2, h3, h4, h5, h6⟩ := h
  exact ⟨fb, mb, hand, m, fr, Sd, ops, hJ, h1, h2, h3, ⟨h4.held, h4.free, h5, fun q => Nat.zero_le _⟩, h6⟩

section
variable {n : Nat} {fr fr' : Nat → Option Fr} {ops : List RawOp}
theorem late_cost (hl : Late fr fr') : chg n fr' = chg n fr := chg_same fun i => by
  obtain ⟨b, hb⟩ := hl i
  rw [hb]
  cases fr i <;> rfl
theorem upd_cost {i : Nat} {f f' : Fr} (hi : fr i = some f) (hin : i < n) (hc : f'.changed = f.changed) : chg n (upd fr i (some f')) = chg n fr := by
  have := chg_upd fr (some f') hin
  rw [hi] at this
  simp only [cb, hc] at this
  omega
theorem load_cost {i q : Nat} {bs : List UInt8} {x : Nat} {b : Bool} (hi : fr i = none) (hin : i < n) : chg n (upd fr i (some ⟨q, x, b, false, bs⟩)) = chg n fr := by
  have := chg_upd fr (some ⟨q, x, b, false, bs⟩) hin
  rw [hi] at this
  simp only [cb] at this
  simpa using this
theorem evict_cost {i : Nat} {f : Fr} (hi : fr i = some f) (hin : i < n) : (saved f ops).length + chg n (upd fr i none) ≤ ops.length + chg n fr := by
  have := chg_upd fr none hin
  rw [hi] at this
  unfold saved
  cases hc : f.changed <;> simp [cb, hc] at this ⊢ <;> omega
end

section
variable {B p d n M N : Nat} {S : Nat → Prop} {w w' : World} {C : Nat → List UInt8} {P : Nat → Nat} {J : List RawOp → Prop}
/-- A pool's state out of its parts, behind a turn. -/
theorem poolK_mk {fb mb hand m : Nat} {fr : Nat → Option Fr} {Sd : Nat → Prop} {ops : List RawOp} (hJ : J ops) (h1 : PoolG p d fb mb n hand m fr w') (h2 : Filled n m fr) (h3 : DiskAt Sd d ops w') (h4 : View n fr ops C P M) (hc4 : ops.length + chg n fr ≤ N) (h5 : ¬ Sd p ∧ ¬ Sd fb ∧ ¬ Sd mb)
    (h6 : ∀ k, Sd k → S k ∨ w.heap.size ≤ k) (h7 : S p ∧ S fb ∧ S mb) (h8 : ∀ k, S k → B ≤ k ∧ k < w.heap.size) (h9 : Kept S w w') : ∃ S', Turn S w S' w' ∧ PoolK J B S' p d n C P M N w' := by
  refine ⟨fun k => (S k ∨ w.heap.size ≤ k) ∧ k < w'.heap.size, ⟨h9, fun k hk hs => hs.1.elim id (by omega)⟩, fb, mb, hand, m, fr, fun k => Sd k ∧ k < w'.heap.size, ops, hJ, h1, h2, h3.bound, h4, hc4, ⟨fun h => h5.1 h.1, fun h => h5.2.1 h.1, fun h => h5.2.2 h.1⟩, ?_, ?_⟩
  · rintro k (⟨h, hlt⟩ | rfl | rfl | rfl)
    · exact ⟨h6 k h, hlt⟩
    · exact ⟨.inl h7.1, h1.lt⟩
    · exact ⟨.inl h7.2.1, h1.ltF⟩
    · exact ⟨.inl h7.2.2, h1.ltM⟩
  · rintro k ⟨hk, hlt⟩
    refine ⟨hk.elim (fun h => (h8 k h).1) (fun h => ?_), hlt⟩
    have := h8 p h7.1
    omega
end

def PinPostK (J : List RawOp → Prop) (B : Nat) (S : Nat → Prop) (p d n : Nat) (C : Nat → List UInt8) (P : Nat → Nat) (M N q : Nat) (w : World) (e : Ending) (w' : World) : Prop :=
  ∃ S', Turn S w S' w' ∧ (e = .returned (.int .i64 40) ∧ P q = 0 ∧ pinnedN P = n ∧ PoolK J B S' p d n C P M N w' ∨ e = .returned (.int .i64 0) ∧ ¬ (P q = 0 ∧ pinnedN P = n) ∧ PoolK J B S' p d n C (upd P q (P q + 1)) (M + 1) N w')

theorem pin_k (J : List RawOp → Prop) (B : Nat) (S : Nat → Prop) (p d n : Nat) (C : Nat → List UInt8) (P : Nat → Nat) (M N q : Nat) (w : World) (h : PoolK J B S p d n C P M N w) (hM : M ≤ 4398046511104) (hN : N ≤ 4398046511104) (hq : q < 4096) (hcl : ∀ ops q, J ops → J (ops ++ [.put 1 (q * 512) ⟨(C q).toArray⟩])) :
    Calls Tryz.prog 107 #[.pointer (some ⟨p, 0, none⟩), .int .i64 q] w (PinPostK J B S p d n C P M N q w) := by
  obtain ⟨fb, mb, hand, m, fr, Sd, ops, hJ, hG, hF, hD, hV, hcst, hO, hS, hB⟩ := h
  have hSS : S p ∧ S fb ∧ S mb := ⟨hS p (.inr (.inl rfl)), hS fb (.inr (.inr (.inl rfl))), hS mb (.inr (.inr (.inr rfl)))⟩
  by_cases hx : ∃ i f, fr i = some f ∧ f.page = q
  · -- a frame holds it
    obtain ⟨i, f, hi, rfl⟩ := hx
    obtain ⟨hin, _, hfb, _⟩ := hG.at_ i f hi
    obtain ⟨hC, hP, _⟩ := hV.held i f hi
    have hpn : f.pins ≤ M := by rw [← hP]; exact hV.bnd _
    refine (pin_held p d fb mb n hand m i fr f w hG hi (by omega)).mono ?_
    rintro e w' ⟨rfl, g1, g2⟩
    have hV2 := hV.turn hG.one hi hin (f' := { f with pins := f.pins + 1, lately := true }) rfl (fun h => ⟨h, rfl⟩) (by show f.pins + 1 ≤ M + 1; omega)
    have hC2 : upd C f.page f.bytes = C := by rw [← hC]; exact upd_self _ _
    have hV3 : View n (upd fr i (some { f with pins := f.pins + 1, lately := true })) ops C (upd P f.page (P f.page + 1)) (M + 1) := by
      rw [hP]; rw [show ({ f with pins := f.pins + 1, lately := true } : Fr).bytes = f.bytes from rfl, hC2] at hV2; exact hV2
    obtain ⟨S', hT, hSt⟩ := poolK_mk (N := N) (S := S) (B := B) (w := w) hJ g1 ⟨hF.1, fun j => by
      rw [hF.2 j]
      by_cases hj : j = i
      · subst hj; rw [upd_same]; exact ⟨fun _ => ⟨_, rfl⟩, fun _ => ⟨f, hi⟩⟩
      · rw [upd_other _ _ hj]⟩ (hD.kept g2 (fun k _ hs e => hO.2.1 (e ▸ hs))) hV3 (by rw [upd_cost (f' := { f with pins := f.pins + 1, lately := true }) hi hin rfl]; exact hcst) hO (fun k hk => .inl (hS k (.inl hk))) hSS hB (g2.mono (fun k hk => hk ▸ hSS.2.1))
    refine ⟨S', hT, .inr ⟨rfl, ?_, hSt⟩⟩
    rintro ⟨h0, h1⟩
    exact full_no hG hV hin (fun g hg => by rw [hi] at hg; cases hg; omega) h1
  · have hno : ∀ j f, fr j = some f → f.page ≠ q := fun j f hj e => hx ⟨j, f, hj, e⟩
    have hP0 := (hV.free q hno).2
    by_cases hm : m < n
    · -- a frame is free
      have hnone : fr m = none := by
        cases hf : fr m with
        | none => rfl
        | some f => have := (hF.2 m).2 ⟨f, hf⟩; omega
      have hs : Calls Tryz.prog 163 #[.pointer (some ⟨p, 0, none⟩)] w fun e w' => ∃ i hand' m' fr' S ops', e = .returned (ptrFr fb i) ∧ Spared S p d fb mb n q hand' m' fr' ops' i w' ∧ (i = m ∧ m' = m ∧ fr' = fr ∧ S = Sd ∧ ops' = ops ∧ w' = w) :=
        (spare_free p d fb mb n hand m fr w hG hm).mono fun e w' ⟨h1, h2⟩ => ⟨m, hand, m, fr, Sd, ops, h1, by subst h2; exact ⟨hG, hnone, hm, hF.1, hno, hD, hO.1, hO.2.1, hO.2.2⟩, rfl, rfl, rfl, rfl, rfl, h2⟩
      refine (pin_new p d fb mb n hand m fr q (fun i m' fr' S ops' w' => i = m ∧ m' = m ∧ fr' = fr ∧ S = Sd ∧ ops' = ops ∧ w' = w) w hG hq hno hs).mono ?_
      rintro e w' ⟨rfl, i, hand', m', fr', S2, ops', w1, _, ⟨hX1, hX2, hX3, hX4, hX5, hX6⟩, g1, g2, g3⟩
      subst hX2 hX3 hX4 hX5 hX6
      rw [hX1] at g1
      obtain ⟨S', hT, hSt⟩ := poolK_mk (N := N) (S := S) (B := B) (w := w1) hJ g1 ⟨hm, fun j => by
        by_cases hj : j = m'
        · subst hj; rw [upd_same]; exact ⟨fun _ => ⟨_, rfl⟩, fun _ => by omega⟩
        · rw [upd_other _ _ hj, ← hF.2 j]; omega⟩ g2 (hV.load hnone hm hno) (by rw [load_cost hnone hm]; exact hcst) hO (fun k hk => .inl (hS k (.inl hk))) hSS hB (g3.mono (fun k hk => by rcases hk with rfl | rfl; exact hSS.2.1; exact hSS.2.2))
      refine ⟨S', hT, .inr ⟨rfl, ?_, ?_⟩⟩
      · rintro ⟨_, h1⟩
        exact full_no hG hV hm (fun g hg => by rw [hnone] at hg; cases hg) h1
      · rw [hP0]; exact hSt
    · have hmn : m = n := by have := hF.1; omega
      have hsp := spare_full p d fb mb n hand m fr Sd ops w hG hF hmn hD (by omega) hO.1 hO.2.1 hO.2.2
      by_cases hall : ∀ i, i < n → ∃ f, fr i = some f ∧ 0 < f.pins
      · -- all are pinned
        have hs : Calls Tryz.prog 163 #[.pointer (some ⟨p, 0, none⟩)] w fun e w' => e = .returned (.pointer none) ∧ ∃ hand' fr', Late fr fr' ∧ PoolG p d fb mb n hand' m fr' w' ∧ Kept (fun k => k = p ∨ k = fb) w w' := by
          refine hsp.mono ?_
          rintro e w' ⟨hand', fr', hL, he | ⟨i, f, S', hin, hi, hp, _⟩⟩
          · exact ⟨he.1, hand', fr', hL, he.2.1, he.2.2.2⟩
          · exfalso
            obtain ⟨f0, hf0, _, e2, _⟩ := late_some hL hi
            obtain ⟨g, hg, hgp⟩ := hall i hin
            rw [hf0] at hg; cases hg
            omega
        refine (pin_nil p d fb mb n hand m fr q (fun w' => ∃ hand' fr', Late fr fr' ∧ PoolG p d fb mb n hand' m fr' w' ∧ Kept (fun k => k = p ∨ k = fb) w w') w hG hq hno hs).mono ?_
        rintro e w' ⟨rfl, hand', fr', hL, g1, g2⟩
        obtain ⟨S', hT, hSt⟩ := poolK_mk (N := N) (S := S) (B := B) (w := w) hJ g1 ⟨hF.1, fun j => by
          rw [hF.2 j]
          constructor
          · rintro ⟨f, hf⟩; obtain ⟨b, hb⟩ := late_back hL hf; exact ⟨_, hb⟩
          · rintro ⟨f, hf⟩; obtain ⟨f0, hf0, _⟩ := late_some hL hf; exact ⟨_, hf0⟩⟩ (hD.kept g2 (fun k _ hsd e => by rcases e with rfl | rfl; exact hO.1 hsd; exact hO.2.1 hsd)) (hV.late hL) (by rw [late_cost hL]; exact hcst) hO (fun k hk => .inl (hS k (.inl hk))) hSS hB (g2.mono (fun k hk => by rcases hk with rfl | rfl; exact hSS.1; exact hSS.2.1))
        exact ⟨S', hT, .inl ⟨rfl, hP0, full_yes hG hV hall, hSt⟩⟩
      · -- one is taken from another page
        obtain ⟨i0, hi0, hp0⟩ : ∃ i, i < n ∧ ∀ f, fr i = some f → f.pins = 0 := by
          refine Classical.byContradiction fun hc => hall fun i hi => ?_
          obtain ⟨f, hf⟩ := (hF.2 i).1 (by omega)
          refine ⟨f, hf, ?_⟩
          refine Classical.byContradiction fun hc2 => hc ⟨i, hi, fun g hg => ?_⟩
          rw [hf] at hg; cases hg; omega
        have hs : Calls Tryz.prog 163 #[.pointer (some ⟨p, 0, none⟩)] w fun e w' => ∃ i hand' m' fr2 S2 ops', e = .returned (ptrFr fb i) ∧ Spared S2 p d fb mb n q hand' m' fr2 ops' i w' ∧
            (m' = m - 1 ∧ (∃ fr1 f, Late fr fr1 ∧ fr1 i = some f ∧ f.pins = 0 ∧ fr2 = upd fr1 i none ∧ ops' = saved f ops ∧ f.bytes.length = 512) ∧ Kept (fun k => Sd k ∨ k = p ∨ k = fb ∨ k = mb) w w' ∧ ∀ k, S2 k → Sd k ∨ w.heap.size ≤ k) := by
          refine hsp.mono ?_
          rintro e w' ⟨hand', fr', hL, ⟨_, _, ha, _⟩ | ⟨i, f, S2, hin, hi, hp, he, g1, g2, g3, g4⟩⟩
          · exfalso
            obtain ⟨f, hf⟩ := (hF.2 i0).1 (by omega)
            obtain ⟨b, hb⟩ := late_back hL hf
            have h1 := ha i0 _ hi0 hb
            have h2 := hp0 f hf
            simp only at h1
            omega
          · obtain ⟨f0, hf0, _, _, _, e4⟩ := late_some hL hi
            have hbl : f.bytes.length = 512 := by rw [e4]; exact (hG.at_ i f0 hf0).2.2.1
            refine ⟨i, hand', m - 1, upd fr' i none, S2, saved f ops, he, ⟨g1, upd_same _ _ _, hin, by omega, fun j g hg => ?_, g2, ?_, ?_, ?_⟩, rfl, ⟨fr', f, hL, hi, hp, rfl, rfl, hbl⟩, g3, g4⟩
            · by_cases hj : j = i
              · subst hj; rw [upd_same] at hg; cases hg
              · rw [upd_other _ _ hj] at hg
                obtain ⟨g0, hg0, e1, _⟩ := late_some hL hg
                rw [e1]; exact hno j g0 hg0
            · exact fun hh => (g4 p hh).elim hO.1 (by have := hG.lt; omega)
            · exact fun hh => (g4 fb hh).elim hO.2.1 (by have := hG.ltF; omega)
            · exact fun hh => (g4 mb hh).elim hO.2.2 (by have := hG.ltM; omega)
        refine (pin_new p d fb mb n hand m fr q _ w hG hq hno hs).mono ?_
        rintro e w' ⟨rfl, i, hand', m', fr2, S2, ops', w1, hSp, ⟨rfl, ⟨fr1, f, hL, hi, hp, rfl, rfl, hbl⟩, k1, k2⟩, g1, g2, g3⟩
        have one1 : ∀ a b x y, fr1 a = some x → fr1 b = some y → x.page = y.page → a = b := fun a b x y hx hy hxy => by
          obtain ⟨x0, hx0, ex, _⟩ := late_some hL hx
          obtain ⟨y0, hy0, ey, _⟩ := late_some hL hy
          exact hG.one a b x0 y0 hx0 hy0 (by omega)
        have hV1 := (hV.late hL).evict one1 hi hSp.lt hbl hp
        have hV2 := hV1.load hSp.none_ hSp.lt hSp.no
        have hn1 := hG.n1
        have hJ2 : J (saved f ops) := by
          unfold saved
          cases hc : f.changed
          · exact hJ
          · have := hcl ops f.page hJ
            rwa [((hV.late hL).held i f hi).1] at this
        obtain ⟨S', hT, hSt⟩ := poolK_mk (N := N) (S := S) (B := B) (w := w) hJ2 g1 ⟨by omega, fun j => by
          by_cases hj : j = i
          · subst hj; rw [upd_same]
            have := hSp.lt
            exact ⟨fun _ => ⟨_, rfl⟩, fun _ => by omega⟩
          · rw [upd_other _ _ hj, upd_other _ _ hj]
            rw [show j < m - 1 + 1 ↔ j < m from by omega, hF.2 j]
            constructor
            · rintro ⟨f, hf⟩; obtain ⟨b, hb⟩ := late_back hL hf; exact ⟨_, hb⟩
            · rintro ⟨f, hf⟩; obtain ⟨f0, hf0, _⟩ := late_some hL hf; exact ⟨_, hf0⟩⟩ g2 hV2 (by rw [load_cost hSp.none_ hSp.lt]; have h1 := evict_cost (ops := ops) hi hSp.lt; rw [late_cost hL] at h1; omega) ⟨hSp.oP, hSp.oF, hSp.oM⟩ (fun k hk => (k2 k hk).imp (fun h => hS k (.inl h)) id) hSS hB
          ((k1.mono (fun k hk => hS k hk)).trans g3 (fun k hk => by rcases hk with rfl | rfl; exact .inl hSS.2.1; exact .inl hSS.2.2))
        refine ⟨S', hT, .inr ⟨rfl, ?_, ?_⟩⟩
        · rintro ⟨_, h1⟩
          exact full_no hG hV hi0 hp0 h1
        · rw [hP0]; exact hSt

/-- Unpin, the raw writes counted apart. -/
theorem unpin_k {J : List RawOp → Prop} {B p d n M N : Nat} {S : Nat → Prop} {w : World} {C : Nat → List UInt8} {P : Nat → Nat} (h : PoolK J B S p d n C P M N w) (q : Nat) (hp : 0 < P q) (hM : M ≤ 4398046511104) :
    Calls Tryz.prog 109 #[.pointer (some ⟨p, 0, none⟩), .int .i64 q] w fun e w' => e = .returned (.int .i64 0) ∧ ∃ S', Turn S w S' w' ∧ PoolK J B S' p d n C (upd P q (P q - 1)) (M + 1) N w' := by
  obtain ⟨fb, mb, hand, m, fr, Sd, ops, hJ, hG, hF, hD, hV, hcst, hO, hS, hB⟩ := h
  obtain ⟨i, f, hi, rfl, _, hfp, _⟩ := holder hG hV hp
  have hb := hV.bnd f.page
  refine (unpin_yes p d fb mb n hand m i fr f w hG hi (by omega) (by omega)).mono ?_
  rintro e w' ⟨rfl, g1, g2, g3⟩
  have hSS : S p ∧ S fb ∧ S mb := ⟨hS p (.inr (.inl rfl)), hS fb (.inr (.inr (.inl rfl))), hS mb (.inr (.inr (.inr rfl)))⟩
  have hin := (hG.at_ i f hi).1
  obtain ⟨S', hT, hSt⟩ := poolK_mk (M := M + 1) (N := N) (J := J) (C := upd C f.page f.bytes) (P := upd P f.page (f.pins - 1)) (S := S) (B := B) hJ (hG.turnFr hi g2 g3 g1 (hG.at_ i f hi).2.2.1 rfl) ⟨hF.1, fun j => by
      rw [hF.2 j]
      by_cases hj : j = i
      · subst hj; rw [upd_same]; exact ⟨fun _ => ⟨_, rfl⟩, fun _ => ⟨f, hi⟩⟩
      · rw [upd_other _ _ hj]⟩ (hD.kept g3 (fun k _ hs e => hO.2.1 (e ▸ hs))) (hV.turn hG.one hi hin rfl (fun h => ⟨h, rfl⟩) (by show f.pins - 1 ≤ M + 1; omega)) (by rw [upd_cost (f' := { f with pins := f.pins - 1 }) hi hin rfl]; exact hcst) hO (fun k hk => .inl (hS k (.inl hk))) hSS hB (g3.mono (fun k hk => hk ▸ hSS.2.1))
  refine ⟨rfl, S', hT, ?_⟩
  have hC := (hV.held i f hi).1
  rw [← hC, upd_self] at hSt
  rw [← hfp]; exact hSt
end Go.Proofs.YtefddiikdamnbaaGreatDoor

/- Action.Read of a page that has a draft; store.read and Action.Read of one that has none, the raw writes counted apart. -/
set_option maxRecDepth 100000
namespace Go.Proofs.YtefddiikdamnbaaGreatDoor
open Go.RowKit

section
variable {J : List RawOp → Prop} {B s d l p n N a db m : Nat} {S : Nat → Prop} {C : Nat → List UInt8} {last h : Hd} {cur : Option Nat} {D : Nat → Option Dr} {w : World}

set_option maxHeartbeats 1600000 in
theorem aread_draft (q : Nat) (y : Dr) (x : ActSt w a s d l p db m last h D) (hq : D q = some y) :
    Calls Tryz.prog 14 #[.pointer (some ⟨a, 0, none⟩), .int .i64 q] w fun e w' => e = .returned (.tuple #[.string ⟨y.now.toArray⟩, .int .i64 0]) ∧ w' = w := by
  have h1 := refusesPage_live q x
  have hhas := x.has q y hq
  rw [if_pos (by rw [Int.toNat_natCast]; exact ⟨by have := hhas.1; omega, hhas⟩)] at h1
  have HP := Lib.hid h1
  have hlk := x.dr.look hq
  unfold Dr.ptr at hlk
  have c83 := x.ac.dr
  obtain ⟨g1, g2, g3, g4, g5, g6, g7⟩ := x.dr.at_ q y hq
  have hcv := run_string_mid w y.blk 513 512 y.now (Dr.range_now g2 g4)
  rw [g5] at hcv
  obtain ⟨t, ht⟩ : ∃ t : ByteArray, t = ⟨y.now.toArray⟩ := ⟨_, rfl⟩
  rw [← ht] at hcv ⊢
  obtain ⟨yb, hyb⟩ : ∃ yb, yb = y.blk := ⟨_, rfl⟩
  rw [← hyb] at hlk hcv g7
  clear h1 x hq hhas g1 g2 g3 g4 g5 g6 ht hyb
  go_enter Tryz.func14, Tryz.ntmps14
  go_wp2_with fail
  refine HP.out.mono ?_
  rintro e w' ⟨rfl, hw⟩
  subst w'
  go_wp2
  go_ret2
  exact ⟨rfl, rfl⟩

/-- What reading leaves of the pool. -/
def ReadK (J : List RawOp → Prop) (B : Nat) (S : Nat → Prop) (p d n : Nat) (C : Nat → List UInt8) (N : Nat) (w w' : World) : Prop :=
  ∃ S', Turn S w S' w' ∧ PoolJ J B S' p d n C P0 N w'

set_option maxHeartbeats 1600000 in
theorem sread_k (q : Nat) (x : SpaceAt w s d l p last cur) (hs : ¬ S s) (g : PoolJ J B S p d n C P0 N w) (hq : q < 4096) (hn : 0 < n) (hN : N ≤ 4398046511000) (hcl : Saves J) :
    Calls Tryz.prog 55 #[.pointer (some ⟨s, 1, none⟩), .int .i64 q] w fun e w' => e = .returned (.string ⟨(C q).toArray⟩) ∧ ReadK J B S p d n C N w w' := by
  have hsl := x.lt
  have hpl := x.pl
  have HPI : Hid (Calls Tryz.prog 107 #[.pointer (some ⟨p, 0, none⟩), .int .i64 q] w fun e w1 => e = .returned (.int .i64 0) ∧ w1.cell? ⟨s, 3, none⟩ = some (.pointer (some ⟨p, 0, none⟩)) ∧ s < w1.heap.size ∧ Hid (∃ S1, Turn S w S1 w1 ∧ ¬ S1 s ∧ PoolK J B S1 p d n C (upd P0 q (P0 q + 1)) (N + 1) N w1)) := Lib.hid (by
    refine (pin_k J B S p d n C P0 N N q w g.toK (by omega) (by omega) hq (fun ops q => hcl ops q _)).mono ?_
    rintro e w1 ⟨S1, hT, ⟨_, _, h2, _⟩ | ⟨rfl, _, h3⟩⟩
    · exact absurd h2 (pinned0 hn)
    · exact ⟨rfl, (World.cell?_of_block (hT.1.block s hsl hs)).trans hpl, Nat.lt_of_lt_of_le hsl hT.1.size, Lib.hid ⟨S1, hT, hT.not hsl hs, h3⟩⟩)
  have HN := Lib.hid hN
  clear x hs g hq hn hcl hN
  go_enter Tryz.func55, Tryz.ntmps55
  go_wp2_with fail
  refine HPI.out.mono ?_
  rintro e w1 ⟨rfl, hp1, hs1, hr⟩
  obtain ⟨S1, hT1, hn1, hK1⟩ := hr.out
  have HRD : Hid (Calls Tryz.prog 108 #[.pointer (some ⟨p, 0, none⟩), .int .i64 q] w1 fun e w' => e = .returned (.tuple #[.string ⟨(C q).toArray⟩, .int .i64 0]) ∧ w' = w1) := Lib.hid (read_j hK1.toJ q (by rw [upd_same]; omega))
  have HUN : Hid (Calls Tryz.prog 109 #[.pointer (some ⟨p, 0, none⟩), .int .i64 q] w1 fun e w' => e = .returned (.int .i64 0) ∧ ReadK J B S p d n C N w w') := Lib.hid (by
    refine (unpin_k hK1 q (by rw [upd_same]; omega) (by have := HN.out; omega)).mono ?_
    rintro e w' ⟨rfl, S2, hT2, h2⟩
    rw [upd_back] at h2
    exact ⟨rfl, S2, hT1.trans hT2, h2.rest⟩)
  clear hr hT1 hn1 hK1
  go_wp2_with fail
  refine HRD.out.mono ?_
  rintro e w' ⟨rfl, hw⟩
  subst w'
  go_wp2_with fail
  refine HUN.out.mono ?_
  rintro e w2 ⟨rfl, hend⟩
  have HE := Lib.hid hend
  clear hend
  go_wp2
  go_ret
  exact ⟨rfl, HE.out⟩

set_option maxHeartbeats 1600000 in
theorem aread_k (q : Nat) (x : ActSt w a s d l p db m last h D) (hs : ¬ S s) (g : PoolJ J B S p d n C P0 N w) (hq : h.has q) (hD : D q = none) (hn : 0 < n) (hN : N ≤ 4398046511000) (hcl : Saves J) :
    Calls Tryz.prog 14 #[.pointer (some ⟨a, 0, none⟩), .int .i64 q] w fun e w' => e = .returned (.tuple #[.string ⟨(C q).toArray⟩, .int .i64 0]) ∧ ReadK J B S p d n C N w w' := by
  have h1 := refusesPage_live q x
  have hq4 : q < 4096 := by have := hq.2.1; have := x.ok.cnt; omega
  rw [if_pos (by rw [Int.toNat_natCast]; exact ⟨by have := hq.1; omega, hq⟩)] at h1
  have HP := Lib.hid h1
  have hlk := x.dr.look_none hq4 hD
  have HRD := Lib.hid (sread_k q x.sp hs g hq4 hn hN hcl)
  have c83 := x.ac.dr
  have c1 := x.ac.st
  clear h1 x hs g hq hD hn hN hcl
  go_enter Tryz.func14, Tryz.ntmps14
  go_wp2_with fail
  refine HP.out.mono ?_
  rintro e w' ⟨rfl, hw⟩
  subst w'
  go_wp2_with fail
  refine HRD.out.mono ?_
  rintro e w1 ⟨rfl, hend⟩
  have HE := Lib.hid hend
  clear hend
  go_wp2
  go_ret2
  exact ⟨rfl, HE.out⟩
end
end Go.Proofs.YtefddiikdamnbaaGreatDoor

/- An action that goes on, as whoever uses it sees it: which pages it has, what they hold, its roots; all its blocks are of one set. -/
set_option maxRecDepth 100000
namespace Go.Proofs.YtefddiikdamnbaaGreatDoor
open Go.RowKit

/-- What of an action does not turn. -/
structure Ac where
  a : Nat
  s : Nat
  d : Nat
  l : Nat
  p : Nat
  db : Nat
  n : Nat
  N : Nat
  C : Nat → List UInt8
  last : Hd

/-- What a page holds, by its draft, or as it was committed. -/
def pgD (C : Nat → List UInt8) (D : Nat → Option Dr) (q : Nat) : List UInt8 := match D q with
  | some x => x.now
  | none => C q
/-- Each draft knows what was; a page that was not there when the action began has a draft, one that knows that it is new. -/
def DrOk (last h : Hd) (C : Nat → List UInt8) (D : Nat → Option Dr) : Prop :=
  (∀ q x, D q = some x → x.was = if x.fresh then noughts else C q) ∧ (∀ q x, D q = some x → x.fresh = true ∨ last.has q) ∧ ∀ q, h.has q → D q = none → last.has q

structure ActV (J : List RawOp → Prop) (B : Nat) (S : Nat → Prop) (c : Ac) (h : Hd) (G : Nat → List UInt8) (w : World) : Prop where
  live : ∃ m D S0, LiveSt J B S0 c.a c.s c.d c.l c.p c.db m c.n c.C c.N c.last h D w ∧ (∀ k, S0 k → S k) ∧ (∀ q x, D q = some x → S x.blk) ∧ DrOk c.last h c.C D ∧ ∀ q, h.has q → G q = pgD c.C D q
  own : S c.a ∧ S c.s ∧ S c.l ∧ S c.db
  low : ∀ k, S k → B ≤ k ∧ k < w.heap.size
  saves : Saves J
  cost : c.N ≤ 4398046511000
  tab : Tab w ∧ 1 ≤ B

section
variable {J : List RawOp → Prop} {B : Nat} {S : Nat → Prop} {c : Ac} {h : Hd} {G : Nat → List UInt8} {w w' : World}
theorem ActV.ok (x : ActV J B S c h G w) : h.Ok := by
  obtain ⟨m, D, S0, hL, _⟩ := x.live
  exact hL.act.ok
theorem ActV.size (x : ActV J B S c h G w) : B ≤ w.heap.size := by
  obtain ⟨m, D, S0, hL, _⟩ := x.live
  exact hL.size
theorem ActV.has_lt (x : ActV J B S c h G w) {q : Nat} (hq : h.has q) : 1 ≤ q ∧ q < 4096 := by
  have := hq.2.1; have := x.ok.cnt; exact ⟨hq.1, by omega⟩
/-- Whatever is none of the action's blocks may turn. -/
theorem ActV.kept {T : Nat → Prop} (x : ActV J B S c h G w) (hk : Kept T w w') (hT : ∀ k, T k → k < w.heap.size → ¬ S k ∧ 1 ≤ k) : ActV J B S c h G w' := by
  obtain ⟨m, D, S0, hL, h1, h2, h3, h4⟩ := x.live
  have hn : ∀ k, k < w.heap.size → S k → ¬ T k := fun k hk hs ht => (hT k ht hk).1 hs
  have lt : ∀ k, S k → k < w.heap.size := fun k hs => (x.low k hs).2
  refine ⟨⟨m, D, S0, ⟨hL.act.kept hk (hn _ (lt _ x.own.1) x.own.1) (hn _ (lt _ x.own.2.1) x.own.2.1) (hn _ (lt _ x.own.2.2.2) x.own.2.2.2) (fun q y hq => hn _ (lt _ (h2 q y hq)) (h2 q y hq)), hL.pool.kept hk (fun k hlt hs => hn k hlt (h1 k hs)), hL.lg.kept hk (hn _ (lt _ x.own.2.2.1) x.own.2.2.1), hL.ns, hL.na, hL.nl, hL.nb, hL.nd, hL.ne, hL.low, hL.n0⟩, h1, h2, h3, h4⟩, x.own, fun k hs => ⟨(x.low k hs).1, Nat.lt_of_lt_of_le (lt k hs) hk.size⟩, x.saves, x.cost, x.tab.1.kept hk (fun h0 => ?_), x.tab.2⟩
  have h00 : 0 < w.heap.size := x.tab.1.1
  exact absurd (hT 0 h0 h00).2 (by omega)
theorem ActV.below (x : ActV J B S c h G w) (hb : Below w.heap.size w w') : ActV J B S c h G w' :=
  x.kept (Kept.ofBelow (S := fun _ => False) hb) (fun _ h => h.elim)

/-- What a call leaves of an action's blocks. -/
def ActPost (J : List RawOp → Prop) (B : Nat) (S : Nat → Prop) (c : Ac) (h : Hd) (G : Nat → List UInt8) (w w' : World) : Prop :=
  ∃ S', Turn S w S' w' ∧ ActV J B S' c h G w'

theorem ActPost.same (x : ActV J B S c h G w) : ActPost J B S c h G w w := ⟨S, Turn.refl S w, x⟩

/-- Blocks of the action's own have turned, drafts may be new. -/
theorem actPost_mk {h' : Hd} {G' : Nat → List UInt8} {T : Nat → Prop} {m : Nat} {D : Nat → Option Dr} {S0 : Nat → Prop} (x : ActV J B S c h G w) (hk : Kept T w w') (hT : ∀ k, T k → S k) (hL : LiveSt J B S0 c.a c.s c.d c.l c.p c.db m c.n c.C c.N c.last h' D w')
    (h1 : ∀ k, S0 k → S k) (h2 : ∀ q y, D q = some y → S y.blk ∨ w.heap.size ≤ y.blk) (h3 : DrOk c.last h' c.C D) (h4 : ∀ q, h'.has q → G' q = pgD c.C D q) : ActPost J B S c h' G' w w' := by
  have hsz := x.size
  have h00 : 0 < w.heap.size := x.tab.1.1
  refine ⟨fun k => (S k ∨ w.heap.size ≤ k) ∧ k < w'.heap.size, ⟨hk.mono hT, fun k hlt hs => hs.1.elim id (by omega)⟩, ⟨⟨m, D, S0, hL, fun k hs => ⟨.inl (h1 k hs), (hL.pool.low k hs).2⟩, fun q y hq => ⟨h2 q y hq, (hL.act.dr.at_ q y hq).2.2.2.2.2.2⟩, h3, h4⟩, ?_, ?_, x.saves, x.cost, x.tab.1.kept hk (fun h0 => ?_), x.tab.2⟩⟩
  · have hz := hk.size
    have f : ∀ k, S k → (S k ∨ w.heap.size ≤ k) ∧ k < w'.heap.size := fun k hs => ⟨.inl hs, by have := (x.low k hs).2; omega⟩
    exact ⟨f _ x.own.1, f _ x.own.2.1, f _ x.own.2.2.1, f _ x.own.2.2.2⟩
  · rintro k ⟨hs, hlt⟩
    refine ⟨hs.elim (fun h => (x.low k h).1) (fun h => by omega), hlt⟩
  · have := (x.low 0 (hT 0 h0)).1
    have := x.tab.2
    omega

theorem read_v (x : ActV J B S c h G w) (q : Nat) (hq : h.has q) :
    Calls Tryz.prog 14 #[.pointer (some ⟨c.a, 0, none⟩), .int .i64 q] w fun e w' => e = .returned (.tuple #[.string ⟨(G q).toArray⟩, .int .i64 0]) ∧ ActPost J B S c h G w w' := by
  obtain ⟨m, D, S0, hL, h1, h2, h3, h4⟩ := x.live
  rw [h4 q hq]
  unfold pgD
  cases hD : D q with
  | some y =>
    refine (aread_draft q y hL.act hD).mono ?_
    rintro e w' ⟨rfl, rfl⟩
    exact ⟨rfl, ActPost.same x⟩
  | none =>
    refine (aread_k q hL.act hL.ns hL.pool hq hD hL.n0 x.cost x.saves).mono ?_
    rintro e w' ⟨rfl, S1, hT, hp⟩
    refine ⟨rfl, fun k => (S k ∨ w.heap.size ≤ k) ∧ k < w'.heap.size, ⟨hT.1.mono h1, fun k hlt hs => hs.1.elim id (by omega)⟩, ⟨⟨m, D, S1, hL.turn hT hp, fun k hs => ⟨?_, (hp.low k hs).2⟩, fun r y hr => ⟨.inl (h2 r y hr), by have := (x.low _ (h2 r y hr)).2; have := hT.1.size; omega⟩, h3, h4⟩, ?_, ?_, x.saves, x.cost, x.tab.1.kept hT.1 (fun h0 => ?_), x.tab.2⟩⟩
    · rcases Nat.lt_or_ge k w.heap.size with hlt | hge
      · exact .inl (h1 k (hT.2 k hlt hs))
      · exact .inr hge
    · have hz := hT.1.size
      have f : ∀ k, S k → (S k ∨ w.heap.size ≤ k) ∧ k < w'.heap.size := fun k hs => ⟨.inl hs, by have := (x.low k hs).2; omega⟩
      exact ⟨f _ x.own.1, f _ x.own.2.1, f _ x.own.2.2.1, f _ x.own.2.2.2⟩
    · have hsz := x.size
      rintro k ⟨hs, hlt⟩
      refine ⟨hs.elim (fun h => (x.low k h).1) (fun h => by omega), hlt⟩
    · have := (x.low 0 (h1 0 h0)).1
      have := x.tab.2
      omega
theorem read_v_none (x : ActV J B S c h G w) (q : Int) (hq : ¬ (1 ≤ q ∧ h.has q.toNat)) :
    Calls Tryz.prog 14 #[.pointer (some ⟨c.a, 0, none⟩), .int .i64 q] w fun e w' => e = .returned (.tuple #[.string ⟨#[]⟩, .int .i64 3]) ∧ w' = w := by
  obtain ⟨m, D, S0, hL, _⟩ := x.live
  exact aread_none q hL.act hq
theorem root_v (x : ActV J B S c h G w) (q : Nat) (hq : q < 16) :
    Calls Tryz.prog 16 #[.pointer (some ⟨c.a, 0, none⟩), .int .i64 q] w fun e w' => e = .returned (.tuple #[.int .i64 (h.root q), .int .i64 0]) ∧ w' = w := by
  obtain ⟨m, D, S0, hL, _⟩ := x.live
  exact root_live q hL hq
theorem setRoot_v (x : ActV J B S c h G w) (q n : Nat) (hq : q < 16) (hn : n < 2147483648) :
    Calls Tryz.prog 19 #[.pointer (some ⟨c.a, 0, none⟩), .int .i64 q, .int .i64 n] w fun e w' => e = .returned (.int .i64 0) ∧ ActPost J B S c (h.setRoot q n) G w w' := by
  obtain ⟨m, D, S0, hL, h1, h2, h3, h4⟩ := x.live
  refine (asetRoot_good q n hL.act hq hn).mono ?_
  rintro e w' ⟨rfl, hA, hk⟩
  refine ⟨rfl, actPost_mk x hk (fun k e => e ▸ x.own.1) (D := D) (S0 := S0) ⟨hA, hL.pool.kept hk (fun k _ hS he => hL.na (he ▸ hS)), hL.lg.kept hk hL.ne.1, hL.ns, hL.na, hL.nl, hL.nb, hL.nd, hL.ne, hL.low, hL.n0⟩ h1 (fun q y hq => .inl (h2 q y hq)) ⟨h3.1, h3.2.1, fun q hq => h3.2.2 q hq⟩ (fun q hq => h4 q hq)⟩
theorem alloc_v (x : ActV J B S c h G w) :
    Calls Tryz.prog 15 #[.pointer (some ⟨c.a, 0, none⟩)] w fun e w' =>
      (∃ q h', h.NextIs q h' ∧ e = .returned (.tuple #[.int .i64 q, .int .i64 0]) ∧ ActPost J B S c h' (upd G q noughts) w w') ∨
      ((∀ j, h.isFree j = false) ∧ h.count = 4095 ∧ e = .returned (.tuple #[.int .i64 0, .int .i64 2]) ∧ w' = w) := by
  obtain ⟨m, D, S0, hL, h1, h2, h3, h4⟩ := x.live
  refine (alloc_live hL x.tab.1).mono ?_
  rintro e w' (⟨q, h', b, hn, rfl, hL', _, hk, hb⟩ | hno)
  · refine .inl ⟨q, h', hn, rfl, actPost_mk x hk (fun k e => e.elim (fun e => e ▸ x.own.1) (fun e => e ▸ x.own.2.2.2)) hL' h1 (fun r y hr => ?_) ⟨fun r y hr => ?_, fun r y hr => ?_, fun r hr hn' => ?_⟩ (fun r hr => ?_)⟩
    · by_cases hrq : r = q
      · subst hrq; rw [upd_same] at hr; cases hr; exact .inr hb
      · rw [upd_other _ _ hrq] at hr; exact .inl (h2 r y hr)
    · by_cases hrq : r = q
      · subst hrq; rw [upd_same] at hr; cases hr; rfl
      · rw [upd_other _ _ hrq] at hr; exact h3.1 r y hr
    · by_cases hrq : r = q
      · subst hrq; rw [upd_same] at hr; cases hr; exact .inl rfl
      · rw [upd_other _ _ hrq] at hr; exact h3.2.1 r y hr
    · by_cases hrq : r = q
      · subst hrq; rw [upd_same] at hn'; cases hn'
      · rw [upd_other _ _ hrq] at hn'
        exact h3.2.2 r (((hn.spec x.ok).2.2.2.2.1 r).1 hr |>.resolve_right hrq) hn'
    · by_cases hrq : r = q
      · subst hrq; rw [upd_same]; unfold pgD; rw [upd_same]
      · rw [upd_other _ _ hrq]
        have := h4 r (((hn.spec x.ok).2.2.2.2.1 r).1 hr |>.resolve_right hrq)
        rw [this]; unfold pgD; rw [upd_other _ _ hrq]
  · exact .inr hno
end
end Go.Proofs.YtefddiikdamnbaaGreatDoor
