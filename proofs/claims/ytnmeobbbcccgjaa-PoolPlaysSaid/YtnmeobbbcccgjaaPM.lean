/- A pool as whoever uses it sees it: what each page holds, how often it is pinned; New, Pin, Unpin, Read, Write, Pins, Held, Flush so said. -/
import Derived.Test.YtnmeobbbcccgjaaPL
set_option maxRecDepth 100000
namespace Go.Proofs.Ytnmeobbbcccgjaa
open Go.RowKit

/-- How many pages are pinned. -/
def pinnedN (P : Nat → Nat) : Nat := ((List.range 4096).filter fun q => decide (0 < P q)).length

theorem nodup_le {α : Type} [DecidableEq α] : ∀ (l l' : List α), l.Nodup → (∀ x ∈ l, x ∈ l') → l.length ≤ l'.length
  | [], _, _, _ => by simp
  | a :: l, l', hd, hs => by
    obtain ⟨h1, h2⟩ := List.nodup_cons.1 hd
    have ha := hs a (by simp)
    have := nodup_le l (l'.erase a) h2 (fun x hx => (List.mem_erase_of_ne (fun e => by subst e; exact h1 hx)).2 (hs x (by simp [hx])))
    rw [List.length_erase_of_mem ha] at this
    have := List.length_pos_of_mem ha
    simp only [List.length_cons]
    omega
theorem mem_pinned {P : Nat → Nat} {q : Nat} : q ∈ ((List.range 4096).filter fun q => decide (0 < P q)) ↔ q < 4096 ∧ 0 < P q := by simp
theorem pinned_nodup (P : Nat → Nat) : ((List.range 4096).filter fun q => decide (0 < P q)).Nodup := List.Pairwise.filter _ List.nodup_range

/-- A list of the pinned pages has just so many. -/
theorem pinnedN_list {P : Nat → Nat} {l : List Nat} (hd : l.Nodup) (hm : ∀ q, q ∈ l ↔ q < 4096 ∧ 0 < P q) : l.length = pinnedN P :=
  Nat.le_antisymm (nodup_le _ _ hd (fun q hq => mem_pinned.2 ((hm q).1 hq))) (nodup_le _ _ (pinned_nodup P) (fun q hq => (hm q).2 (mem_pinned.1 hq)))

section
variable {p d fb mb n hand m N : Nat} {fr : Nat → Option Fr} {w : World} {ops : List RawOp} {C : Nat → List UInt8} {P : Nat → Nat}

def pageAt (fr : Nat → Option Fr) (i : Nat) : Nat := match fr i with | some f => f.page | none => 0

theorem holder (h : PoolG p d fb mb n hand m fr w) (hv : View n fr ops C P N) {q : Nat} (hq : 0 < P q) : ∃ i f, fr i = some f ∧ f.page = q ∧ i < n ∧ f.pins = P q ∧ q < 4096 := by
  by_cases hx : ∃ i f, fr i = some f ∧ f.page = q
  · obtain ⟨i, f, hi, rfl⟩ := hx
    obtain ⟨h1, _, _, h4⟩ := h.at_ i f hi
    exact ⟨i, f, hi, rfl, h1, (hv.held i f hi).2.1.symm, h4⟩
  · have := (hv.free q (fun i f hi e => hx ⟨i, f, hi, e⟩)).2
    omega

theorem full_yes (h : PoolG p d fb mb n hand m fr w) (hv : View n fr ops C P N) (ha : ∀ i, i < n → ∃ f, fr i = some f ∧ 0 < f.pins) : pinnedN P = n := by
  have hnd : ((List.range n).map (pageAt fr)).Nodup := by
    refine List.pairwise_map.2 ((List.pairwise_lt_range (n := n)).imp_of_mem ?_)
    intro a b ha' hb' hab e
    obtain ⟨f, hf, _⟩ := ha a (List.mem_range.1 ha')
    obtain ⟨g, hg, _⟩ := ha b (List.mem_range.1 hb')
    unfold pageAt at e
    rw [hf, hg] at e
    have := h.one a b f g hf hg e
    omega
  have := pinnedN_list (P := P) hnd (fun q => by
    constructor
    · intro hq
      obtain ⟨i, hi, rfl⟩ := List.mem_map.1 hq
      obtain ⟨f, hf, hp⟩ := ha i (List.mem_range.1 hi)
      unfold pageAt
      rw [hf]
      exact ⟨(h.at_ i f hf).2.2.2, by rw [(hv.held i f hf).2.1]; exact hp⟩
    · rintro ⟨_, hp⟩
      obtain ⟨i, f, hf, e, hin, _⟩ := holder h hv hp
      exact List.mem_map.2 ⟨i, List.mem_range.2 hin, by unfold pageAt; rw [hf]; exact e⟩)
  rw [← this]; simp

theorem full_no (h : PoolG p d fb mb n hand m fr w) (hv : View n fr ops C P N) {i : Nat} (hi : i < n) (hp : ∀ f, fr i = some f → f.pins = 0) : pinnedN P ≠ n := by
  have hle : pinnedN P ≤ (((List.range n).erase i).map (pageAt fr)).length := by
    refine nodup_le _ _ (pinned_nodup P) (fun q hq => ?_)
    obtain ⟨_, hpq⟩ := mem_pinned.1 hq
    obtain ⟨j, f, hf, e, hjn, hfp, _⟩ := holder h hv hpq
    refine List.mem_map.2 ⟨j, (List.mem_erase_of_ne (fun e => ?_)).2 (List.mem_range.2 hjn), by unfold pageAt; rw [hf]; exact e⟩
    subst e
    have := hp f hf
    omega
  rw [List.length_map, List.length_erase_of_mem (List.mem_range.2 hi), List.length_range] at hle
  omega
end

/-- A pool that New gave, as it is seen from outside; all its blocks, the disk's too, are of S, and lie from B on. -/
def PoolSt (B : Nat) (S : Nat → Prop) (p d n : Nat) (C : Nat → List UInt8) (P : Nat → Nat) (N : Nat) (w : World) : Prop :=
  ∃ fb mb hand m fr Sd ops, PoolG p d fb mb n hand m fr w ∧ Filled n m fr ∧ DiskAt Sd d ops w ∧ View n fr ops C P N ∧ (¬ Sd p ∧ ¬ Sd fb ∧ ¬ Sd mb) ∧ (∀ k, Sd k ∨ k = p ∨ k = fb ∨ k = mb → S k) ∧ ∀ k, S k → B ≤ k ∧ k < w.heap.size

/-- What has turned: blocks of S alone; and S' is S, and new blocks. -/
def Turn (S : Nat → Prop) (w : World) (S' : Nat → Prop) (w' : World) : Prop := Kept S w w' ∧ ∀ k, k < w.heap.size → S' k → S k
theorem Turn.refl (S : Nat → Prop) (w : World) : Turn S w S w := ⟨Kept.refl _ _, fun _ _ h => h⟩
theorem Turn.trans {S S' S'' : Nat → Prop} {w w' w'' : World} (h : Turn S w S' w') (k : Turn S' w' S'' w'') : Turn S w S'' w'' := by
  refine ⟨h.1.trans k.1 (fun i hi => ?_), fun i hi hs => h.2 i hi (k.2 i (Nat.lt_of_lt_of_le hi h.1.size) hs)⟩
  rcases Nat.lt_or_ge i w.heap.size with hlt | hge
  · exact .inl (h.2 i hlt hi)
  · exact .inr hge

section
variable {B p d n N : Nat} {S : Nat → Prop} {w w' : World} {C : Nat → List UInt8} {P : Nat → Nat}
theorem PoolSt.size (h : PoolSt B S p d n C P N w) : B ≤ w.heap.size := by
  obtain ⟨fb, mb, hand, m, fr, Sd, ops, h1, _, _, _, _, h6, h7⟩ := h
  have := h7 p (h6 p (.inr (.inl rfl)))
  omega
theorem PoolSt.low (h : PoolSt B S p d n C P N w) : ∀ k, S k → B ≤ k ∧ k < w.heap.size := by
  obtain ⟨fb, mb, hand, m, fr, Sd, ops, h1, _, _, _, _, h6, h7⟩ := h
  exact h7
theorem PoolSt.more (h : PoolSt B S p d n C P N w) {M : Nat} (hM : N ≤ M) : PoolSt B S p d n C P M w := by
  obtain ⟨fb, mb, hand, m, fr, Sd, ops, h1, h2, h3, h4, h5⟩ := h
  exact ⟨fb, mb, hand, m, fr, Sd, ops, h1, h2, h3, h4.more hM, h5⟩
theorem PoolSt.kept {T : Nat → Prop} (h : PoolSt B S p d n C P N w) (hk : Kept T w w') (hd : ∀ k, k < w.heap.size → S k → ¬ T k) : PoolSt B S p d n C P N w' := by
  obtain ⟨fb, mb, hand, m, fr, Sd, ops, h1, h2, h3, h4, h5, h6, h7⟩ := h
  have hn : ∀ k, Sd k ∨ k = p ∨ k = fb ∨ k = mb → ¬ T k := fun k hk' => hd k (h7 k (h6 k hk')).2 (h6 k hk')
  refine ⟨fb, mb, hand, m, fr, Sd, ops, h1.kept hk (hn p (.inr (.inl rfl))) (hn fb (.inr (.inr (.inl rfl)))) (hn mb (.inr (.inr (.inr rfl)))), h2, h3.kept hk (fun k _ hs => hn k (.inl hs)), h4, h5, h6, fun k hs => ⟨(h7 k hs).1, Nat.lt_of_lt_of_le (h7 k hs).2 hk.size⟩⟩
theorem PoolSt.below (h : PoolSt B S p d n C P N w) (hk : Below w.heap.size w w') : PoolSt B S p d n C P N w' :=
  h.kept (Kept.ofBelow (S := fun _ => False) hk) (fun _ _ _ => id)
theorem PoolSt.toBelow {S' : Nat → Prop} (h : PoolSt B S p d n C P N w) (ht : Turn S w S' w') : Below B w w' := ht.1.toBelow h.size (fun k hk => (h.low k hk).1)

/-- A pool's state out of its parts, behind a turn. -/
theorem poolSt_mk {fb mb hand m : Nat} {fr : Nat → Option Fr} {Sd : Nat → Prop} {ops : List RawOp} (h1 : PoolG p d fb mb n hand m fr w') (h2 : Filled n m fr) (h3 : DiskAt Sd d ops w') (h4 : View n fr ops C P N) (h5 : ¬ Sd p ∧ ¬ Sd fb ∧ ¬ Sd mb)
    (h6 : ∀ k, Sd k → S k ∨ w.heap.size ≤ k) (h7 : S p ∧ S fb ∧ S mb) (h8 : ∀ k, S k → B ≤ k ∧ k < w.heap.size) (h9 : Kept S w w') : ∃ S', Turn S w S' w' ∧ PoolSt B S' p d n C P N w' := by
  refine ⟨fun k => (S k ∨ w.heap.size ≤ k) ∧ k < w'.heap.size, ⟨h9, fun k hk hs => hs.1.elim id (by omega)⟩, fb, mb, hand, m, fr, fun k => Sd k ∧ k < w'.heap.size, ops, h1, h2, h3.bound, h4, ⟨fun h => h5.1 h.1, fun h => h5.2.1 h.1, fun h => h5.2.2 h.1⟩, ?_, ?_⟩
  · rintro k (⟨h, hlt⟩ | rfl | rfl | rfl)
    · exact ⟨h6 k h, hlt⟩
    · exact ⟨.inl h7.1, h1.lt⟩
    · exact ⟨.inl h7.2.1, h1.ltF⟩
    · exact ⟨.inl h7.2.2, h1.ltM⟩
  · rintro k ⟨hk, hlt⟩
    refine ⟨hk.elim (fun h => (h8 k h).1) (fun h => ?_), hlt⟩
    have := h8 p h7.1
    omega
end

def PinPost (B : Nat) (S : Nat → Prop) (p d n : Nat) (C : Nat → List UInt8) (P : Nat → Nat) (N q : Nat) (w : World) (e : Ending) (w' : World) : Prop :=
  ∃ S', Turn S w S' w' ∧ (e = .returned (.int .i64 40) ∧ P q = 0 ∧ pinnedN P = n ∧ PoolSt B S' p d n C P N w' ∨ e = .returned (.int .i64 0) ∧ ¬ (P q = 0 ∧ pinnedN P = n) ∧ PoolSt B S' p d n C (upd P q (P q + 1)) (N + 1) w')

theorem upd_self {α : Type} (F : Nat → α) (f : Nat) : upd F f (F f) = F := by
  funext i
  by_cases h : i = f
  · subst h; rw [upd_same]
  · rw [upd_other _ _ h]
theorem late_some {fr fr' : Nat → Option Fr} (h : Late fr fr') {i : Nat} {f' : Fr} (hi : fr' i = some f') : ∃ f, fr i = some f ∧ f'.page = f.page ∧ f'.pins = f.pins ∧ f'.changed = f.changed ∧ f'.bytes = f.bytes := by
  obtain ⟨b, hb⟩ := h i
  rw [hi] at hb
  cases hf : fr i with
  | none => rw [hf] at hb; cases hb
  | some f => rw [hf] at hb; simp at hb; subst hb; exact ⟨f, rfl, rfl, rfl, rfl, rfl⟩
theorem late_back {fr fr' : Nat → Option Fr} (h : Late fr fr') {i : Nat} {f : Fr} (hi : fr i = some f) : ∃ b, fr' i = some { f with lately := b } := by
  obtain ⟨b, hb⟩ := h i
  rw [hi] at hb
  exact ⟨b, hb⟩

theorem pin_st (B : Nat) (S : Nat → Prop) (p d n : Nat) (C : Nat → List UInt8) (P : Nat → Nat) (N q : Nat) (w : World) (h : PoolSt B S p d n C P N w) (hN : N ≤ 4398046511104) (hq : q < 4096) :
    Calls Try.prog 14 #[.pointer (some ⟨p, 0, none⟩), .int .i64 q] w (PinPost B S p d n C P N q w) := by
  obtain ⟨fb, mb, hand, m, fr, Sd, ops, hG, hF, hD, hV, hO, hS, hB⟩ := h
  have hSS : S p ∧ S fb ∧ S mb := ⟨hS p (.inr (.inl rfl)), hS fb (.inr (.inr (.inl rfl))), hS mb (.inr (.inr (.inr rfl)))⟩
  by_cases hx : ∃ i f, fr i = some f ∧ f.page = q
  · -- a frame holds it
    obtain ⟨i, f, hi, rfl⟩ := hx
    obtain ⟨hin, _, hfb, _⟩ := hG.at_ i f hi
    obtain ⟨hC, hP, _⟩ := hV.held i f hi
    have hpn : f.pins ≤ N := by rw [← hP]; exact hV.bnd _
    refine (pin_held p d fb mb n hand m i fr f w hG hi (by omega)).mono ?_
    rintro e w' ⟨rfl, g1, g2⟩
    have hV2 := hV.turn hG.one hi hin (f' := { f with pins := f.pins + 1, lately := true }) rfl (fun h => ⟨h, rfl⟩) (by show f.pins + 1 ≤ N + 1; omega)
    have hC2 : upd C f.page f.bytes = C := by rw [← hC]; exact upd_self _ _
    have hV3 : View n (upd fr i (some { f with pins := f.pins + 1, lately := true })) ops C (upd P f.page (P f.page + 1)) (N + 1) := by
      rw [hP]; rw [show ({ f with pins := f.pins + 1, lately := true } : Fr).bytes = f.bytes from rfl, hC2] at hV2; exact hV2
    obtain ⟨S', hT, hSt⟩ := poolSt_mk (S := S) (B := B) (w := w) g1 ⟨hF.1, fun j => by
      rw [hF.2 j]
      by_cases hj : j = i
      · subst hj; rw [upd_same]; exact ⟨fun _ => ⟨_, rfl⟩, fun _ => ⟨f, hi⟩⟩
      · rw [upd_other _ _ hj]⟩ (hD.kept g2 (fun k _ hs e => hO.2.1 (e ▸ hs))) hV3 hO (fun k hk => .inl (hS k (.inl hk))) hSS hB (g2.mono (fun k hk => hk ▸ hSS.2.1))
    refine ⟨S', hT, .inr ⟨rfl, ?_, hSt⟩⟩
    rintro ⟨h0, h1⟩
    exact full_no hG hV hin (fun g hg => by rw [hi] at hg; cases hg; omega) h1
  · have hno : ∀ j f, fr j = some f → f.page ≠ q := fun j f hj e => hx ⟨j, f, hj, e⟩
    have hP0 := (hV.free q hno).2
    by_cases hm : m < n
    · -- a frame is free
      have hnone : fr m = none := by
        cases hf : fr m with
        | none => rfl
        | some f => have := (hF.2 m).2 ⟨f, hf⟩; omega
      have hs : Calls Try.prog 31 #[.pointer (some ⟨p, 0, none⟩)] w fun e w' => ∃ i hand' m' fr' S ops', e = .returned (ptrFr fb i) ∧ Spared S p d fb mb n q hand' m' fr' ops' i w' ∧ (i = m ∧ m' = m ∧ fr' = fr ∧ S = Sd ∧ ops' = ops ∧ w' = w) :=
        (spare_free p d fb mb n hand m fr w hG hm).mono fun e w' ⟨h1, h2⟩ => ⟨m, hand, m, fr, Sd, ops, h1, by subst h2; exact ⟨hG, hnone, hm, hF.1, hno, hD, hO.1, hO.2.1, hO.2.2⟩, rfl, rfl, rfl, rfl, rfl, h2⟩
      refine (pin_new p d fb mb n hand m fr q (fun i m' fr' S ops' w' => i = m ∧ m' = m ∧ fr' = fr ∧ S = Sd ∧ ops' = ops ∧ w' = w) w hG hq hno hs).mono ?_
      rintro e w' ⟨rfl, i, hand', m', fr', S2, ops', w1, _, ⟨hX1, hX2, hX3, hX4, hX5, hX6⟩, g1, g2, g3⟩
      subst hX2 hX3 hX4 hX5 hX6
      rw [hX1] at g1
      obtain ⟨S', hT, hSt⟩ := poolSt_mk (S := S) (B := B) (w := w1) g1 ⟨hm, fun j => by
        by_cases hj : j = m'
        · subst hj; rw [upd_same]; exact ⟨fun _ => ⟨_, rfl⟩, fun _ => by omega⟩
        · rw [upd_other _ _ hj, ← hF.2 j]; omega⟩ g2 (hV.load hnone hm hno) hO (fun k hk => .inl (hS k (.inl hk))) hSS hB (g3.mono (fun k hk => by rcases hk with rfl | rfl; exact hSS.2.1; exact hSS.2.2))
      refine ⟨S', hT, .inr ⟨rfl, ?_, ?_⟩⟩
      · rintro ⟨_, h1⟩
        exact full_no hG hV hm (fun g hg => by rw [hnone] at hg; cases hg) h1
      · rw [hP0]; exact hSt
    · have hmn : m = n := by have := hF.1; omega
      have hsp := spare_full p d fb mb n hand m fr Sd ops w hG hF hmn hD (by have := hV.cost; omega) hO.1 hO.2.1 hO.2.2
      by_cases hall : ∀ i, i < n → ∃ f, fr i = some f ∧ 0 < f.pins
      · -- all are pinned
        have hs : Calls Try.prog 31 #[.pointer (some ⟨p, 0, none⟩)] w fun e w' => e = .returned (.pointer none) ∧ ∃ hand' fr', Late fr fr' ∧ PoolG p d fb mb n hand' m fr' w' ∧ Kept (fun k => k = p ∨ k = fb) w w' := by
          refine hsp.mono ?_
          rintro e w' ⟨hand', fr', hL, he | ⟨i, f, S', hin, hi, hp, _⟩⟩
          · exact ⟨he.1, hand', fr', hL, he.2.1, he.2.2.2⟩
          · exfalso
            obtain ⟨f0, hf0, _, e2, _⟩ := late_some hL hi
            obtain ⟨g, hg, hgp⟩ := hall i hin
            rw [hf0] at hg; cases hg
            omega
        refine (pin_nil p d fb mb n hand m fr q (fun w' => ∃ hand' fr', Late fr fr' ∧ PoolG p d fb mb n hand' m fr' w' ∧ Kept (fun k => k = p ∨ k = fb) w w') w hG hq hno hs).mono ?_
        rintro e w' ⟨rfl, hand', fr', hL, g1, g2⟩
        obtain ⟨S', hT, hSt⟩ := poolSt_mk (S := S) (B := B) (w := w) g1 ⟨hF.1, fun j => by
          rw [hF.2 j]
          constructor
          · rintro ⟨f, hf⟩; obtain ⟨b, hb⟩ := late_back hL hf; exact ⟨_, hb⟩
          · rintro ⟨f, hf⟩; obtain ⟨f0, hf0, _⟩ := late_some hL hf; exact ⟨_, hf0⟩⟩ (hD.kept g2 (fun k _ hsd e => by rcases e with rfl | rfl; exact hO.1 hsd; exact hO.2.1 hsd)) (hV.late hL) hO (fun k hk => .inl (hS k (.inl hk))) hSS hB (g2.mono (fun k hk => by rcases hk with rfl | rfl; exact hSS.1; exact hSS.2.1))
        exact ⟨S', hT, .inl ⟨rfl, hP0, full_yes hG hV hall, hSt⟩⟩
      · -- one is taken from another page
        obtain ⟨i0, hi0, hp0⟩ : ∃ i, i < n ∧ ∀ f, fr i = some f → f.pins = 0 := by
          refine Classical.byContradiction fun hc => hall fun i hi => ?_
          obtain ⟨f, hf⟩ := (hF.2 i).1 (by omega)
          refine ⟨f, hf, ?_⟩
          refine Classical.byContradiction fun hc2 => hc ⟨i, hi, fun g hg => ?_⟩
          rw [hf] at hg; cases hg; omega
        have hs : Calls Try.prog 31 #[.pointer (some ⟨p, 0, none⟩)] w fun e w' => ∃ i hand' m' fr2 S2 ops', e = .returned (ptrFr fb i) ∧ Spared S2 p d fb mb n q hand' m' fr2 ops' i w' ∧
            (m' = m - 1 ∧ (∃ fr1 f, Late fr fr1 ∧ fr1 i = some f ∧ f.pins = 0 ∧ fr2 = upd fr1 i none ∧ ops' = saved f ops ∧ f.bytes.length = 512) ∧ Kept (fun k => Sd k ∨ k = p ∨ k = fb ∨ k = mb) w w' ∧ ∀ k, S2 k → Sd k ∨ w.heap.size ≤ k) := by
          refine hsp.mono ?_
          rintro e w' ⟨hand', fr', hL, ⟨_, _, ha, _⟩ | ⟨i, f, S2, hin, hi, hp, he, g1, g2, g3, g4⟩⟩
          · exfalso
            obtain ⟨f, hf⟩ := (hF.2 i0).1 (by omega)
            obtain ⟨b, hb⟩ := late_back hL hf
            have h1 := ha i0 _ hi0 hb
            have h2 := hp0 f hf
            simp only at h1
            omega
          · obtain ⟨f0, hf0, _, _, _, e4⟩ := late_some hL hi
            have hbl : f.bytes.length = 512 := by rw [e4]; exact (hG.at_ i f0 hf0).2.2.1
            refine ⟨i, hand', m - 1, upd fr' i none, S2, saved f ops, he, ⟨g1, upd_same _ _ _, hin, by omega, fun j g hg => ?_, g2, ?_, ?_, ?_⟩, rfl, ⟨fr', f, hL, hi, hp, rfl, rfl, hbl⟩, g3, g4⟩
            · by_cases hj : j = i
              · subst hj; rw [upd_same] at hg; cases hg
              · rw [upd_other _ _ hj] at hg
                obtain ⟨g0, hg0, e1, _⟩ := late_some hL hg
                rw [e1]; exact hno j g0 hg0
            · exact fun hh => (g4 p hh).elim hO.1 (by have := hG.lt; omega)
            · exact fun hh => (g4 fb hh).elim hO.2.1 (by have := hG.ltF; omega)
            · exact fun hh => (g4 mb hh).elim hO.2.2 (by have := hG.ltM; omega)
        refine (pin_new p d fb mb n hand m fr q _ w hG hq hno hs).mono ?_
        rintro e w' ⟨rfl, i, hand', m', fr2, S2, ops', w1, hSp, ⟨rfl, ⟨fr1, f, hL, hi, hp, rfl, rfl, hbl⟩, k1, k2⟩, g1, g2, g3⟩
        have one1 : ∀ a b x y, fr1 a = some x → fr1 b = some y → x.page = y.page → a = b := fun a b x y hx hy hxy => by
          obtain ⟨x0, hx0, ex, _⟩ := late_some hL hx
          obtain ⟨y0, hy0, ey, _⟩ := late_some hL hy
          exact hG.one a b x0 y0 hx0 hy0 (by omega)
        have hV1 := (hV.late hL).evict one1 hi hSp.lt hbl hp
        have hV2 := hV1.load hSp.none_ hSp.lt hSp.no
        have hn1 := hG.n1
        obtain ⟨S', hT, hSt⟩ := poolSt_mk (S := S) (B := B) (w := w) g1 ⟨by omega, fun j => by
          by_cases hj : j = i
          · subst hj; rw [upd_same]
            have := hSp.lt
            exact ⟨fun _ => ⟨_, rfl⟩, fun _ => by omega⟩
          · rw [upd_other _ _ hj, upd_other _ _ hj]
            rw [show j < m - 1 + 1 ↔ j < m from by omega, hF.2 j]
            constructor
            · rintro ⟨f, hf⟩; obtain ⟨b, hb⟩ := late_back hL hf; exact ⟨_, hb⟩
            · rintro ⟨f, hf⟩; obtain ⟨f0, hf0, _⟩ := late_some hL hf; exact ⟨_, hf0⟩⟩ g2 hV2 ⟨hSp.oP, hSp.oF, hSp.oM⟩ (fun k hk => (k2 k hk).imp (fun h => hS k (.inl h)) id) hSS hB
          ((k1.mono (fun k hk => hS k hk)).trans g3 (fun k hk => by rcases hk with rfl | rfl; exact .inl hSS.2.1; exact .inl hSS.2.2))
        refine ⟨S', hT, .inr ⟨rfl, ?_, ?_⟩⟩
        · rintro ⟨_, h1⟩
          exact full_no hG hV hi0 hp0 h1
        · rw [hP0]; exact hSt
end Go.Proofs.Ytnmeobbbcccgjaa
