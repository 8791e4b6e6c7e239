/- Texts of the same proof, one behind the other: PJ, PK, PL, PM. -/
import Derived.Test.YtefddiikdamnbaaGreatDoorMAD
import Derived.Sort.Grow
import Derived.Sort.OwnSorted
/- The contract of a pool's Held: the pages in frames, rising. -/
set_option maxRecDepth 100000
namespace Go.Proofs.YtefddiikdamnbaaGreatDoor
open Go.RowKit

/-- A slice's cells, in a block from B on. -/
def RowAt (B : Nat) (w : World) (v : Value) (xs : List Value) : Prop :=
  ∃ a c, v = .slice a xs.length c ∧ (xs = [] ∨ ∃ g, a = some ⟨g, 0, none⟩ ∧ B ≤ g ∧ g < w.heap.size ∧ ∀ j u, xs[j]? = some u → w.cell? ⟨g, j, none⟩ = some u)

theorem infoInt : (Tryz.prog.info? 3).map (fun i => (i.zero, i.size, i.bytes)) = some (some (.int .i64 0), 1, 8) := by kernel_rfl

def asInts (l : List Int) : List Value := l.map (Value.int .i64)

open Go.Sort in
theorem holds_ints {w : World} {g : Nat} {cur : Array Value} {l : List Int} (hb : w.heap[g]? = some (.cells cur 3 (0, 0))) (ht : cur.toList.take l.length = asInts l) : Holds (Value.int .i64) w g 0 l.toArray := by
  intro j hj
  have hj' : j < l.length := by simpa using hj
  refine ⟨?_, Lib.frozen_of_heap hb _⟩
  rw [Lib.cell_of_heap hb, Nat.zero_add, ← Array.getElem?_toList]
  have h1 := List.getElem?_take_of_lt (l := cur.toList) hj'
  rw [← h1, ht]
  simp [asInts, hj']

open Go.Sort in
theorem sorted_ints {w : World} {g n : Nat} {os : Array Obj} {cur : Array Value} {l : List Int} (hb : w.heap[g]? = some (.cells cur 3 (0, 0))) (hl : l.length ≤ cur.size) :
    (∀ j u, (asInts l)[j]? = some u → (grow (putRow (Value.int .i64) (Sort.ahead w n) g 0 l.toArray) os).cell? ⟨g, j, none⟩ = some u) ∧ w.grownBy (grow (putRow (Value.int .i64) (Sort.ahead w n) g 0 l.toArray) os) (some g) ∧
      g < (grow (putRow (Value.int .i64) (Sort.ahead w n) g 0 l.toArray) os).heap.size := by
  have hg : g < w.heap.size := (Array.getElem?_eq_some_iff.1 hb).1
  have hh : (grow (putRow (Value.int .i64) (Sort.ahead w n) g 0 l.toArray) os).heap[g]? = some (.cells (putCells (Value.int .i64) 0 l.toArray cur) 3 (0, 0)) := by
    rw [heap_grow_old _ _ (by simpa using hg)]
    simp [putRow, mapBlock, Sort.ahead, Array.getElem?_modify, hb, onCells]
  refine ⟨fun j u hu => ?_, ⟨rfl, rfl, rfl, by simp, fun k hk hne => ?_⟩, by simp; omega⟩
  · have hj : j < l.length := by have := (List.getElem?_eq_some_iff.1 hu).1; simpa [asInts] using this
    rw [Lib.cell_of_heap hh, ← hu]
    simp [putCells, asInts, hj, show j < cur.size by omega]
  · rw [heap_grow_old _ _ (by simpa using hk)]
    have : g ≠ k := fun e => hne (by rw [e])
    simp [putRow, mapBlock, Sort.ahead, Array.getElem?_modify, this]

/-- What was collected, of a map's ints, when left says which are still to come. -/
def CollI (D : DataW Value) (left : Lit → Bool) (ks : List Int) : Prop :=
  ks.Nodup ∧ (∀ x ∈ ks, (Lit.int .i64 x).wf = true) ∧ ∀ x : Int, (Lit.int .i64 x).wf = true → (x ∈ ks ↔ (Maps.has D (.int .i64 x) = true ∧ left (.int .i64 x) = false))
end Go.Proofs.YtefddiikdamnbaaGreatDoor

/- What a pool's pages hold and how often each is pinned, whichever frames they are in. No program's function is met here. -/
set_option maxRecDepth 100000
namespace Go.Proofs.YtefddiikdamnbaaGreatDoor
open Go.RowKit

theorem pageOf_get (F : List UInt8) (q j : Nat) : (pageOf F q)[j]? = if j < 512 then some ((F[q * 512 + j]?).getD 0) else none := by
  have hl : ((F.drop (q * 512)).take 512).length = min 512 (F.length - q * 512) := by simp
  unfold pageOf
  simp only
  by_cases h : j < 512
  · rw [if_pos h]
    by_cases h2 : j < F.length - q * 512
    · rw [List.getElem?_append_left (by omega), List.getElem?_take, if_pos h, List.getElem?_drop, List.getElem?_eq_getElem (by omega)]
      rfl
    · rw [List.getElem?_append_right (by omega), List.getElem?_replicate, if_pos (by omega), List.getElem?_eq_none (by omega)]
      rfl
  · rw [if_neg h, List.getElem?_eq_none]
    have := pageOf_length F q
    unfold pageOf at this
    simp only at this
    omega

theorem putL_get (F : List UInt8) (a : Nat) (cs : List UInt8) (j : Nat) : ((putL F a cs)[j]?).getD 0 = if a ≤ j ∧ j < a + cs.length then (cs[j - a]?).getD 0 else (F[j]?).getD 0 := by
  unfold putL
  rw [splice_get _ _ _ (by simp; omega)]
  by_cases h : a ≤ j ∧ j < a + cs.length
  · rw [if_pos h, if_pos h]
  · rw [if_neg h, if_neg h]
    by_cases h1 : j < F.length
    · rw [List.getElem?_append_left h1]
    · rw [List.getElem?_append_right (by omega), List.getElem?_replicate, List.getElem?_eq_none (show F.length ≤ j by omega)]
      split <;> rfl

theorem pageOf_put (F : List UInt8) (q q' : Nat) (bs : List UInt8) (hb : bs.length = 512) : pageOf (putL F (q * 512) bs) q' = if q' = q then bs else pageOf F q' := by
  apply List.ext_getElem?
  intro j
  rw [pageOf_get, putL_get, hb]
  by_cases hq : q' = q
  · subst hq
    rw [if_pos rfl]
    by_cases hj : j < 512
    · rw [if_pos hj, if_pos (by omega), show q' * 512 + j - q' * 512 = j by omega, List.getElem?_eq_getElem (by omega)]
      rfl
    · rw [if_neg hj, List.getElem?_eq_none (by omega)]
  · rw [if_neg hq, pageOf_get]
    by_cases hj : j < 512
    · rw [if_pos hj, if_pos hj, if_neg]
      rintro ⟨h1, h2⟩
      have : q' < q ∨ q < q' := by omega
      omega
    · rw [if_neg hj, if_neg hj]

def cb : Option Fr → Nat
  | some f => if f.changed then 1 else 0
  | none => 0
def chg : Nat → (Nat → Option Fr) → Nat
  | 0, _ => 0
  | n + 1, fr => chg n fr + cb (fr n)
theorem chg_ge {n i : Nat} {fr : Nat → Option Fr} (x : Option Fr) (h : n ≤ i) : chg n (upd fr i x) = chg n fr := by
  induction n with
  | zero => rfl
  | succ n ih => rw [chg, chg, ih (by omega), upd_other _ _ (by omega)]
theorem chg_upd {n i : Nat} (fr : Nat → Option Fr) (x : Option Fr) (h : i < n) : chg n (upd fr i x) + cb (fr i) = chg n fr + cb x := by
  induction n with
  | zero => omega
  | succ n ih =>
    rw [chg, chg]
    by_cases hi : i = n
    · subst hi
      rw [chg_ge x (Nat.le_refl _), upd_same]; omega
    · rw [upd_other _ _ (fun e => hi e.symm)]
      have := ih (by omega)
      omega
theorem chg_same {n : Nat} {fr fr' : Nat → Option Fr} (h : ∀ i, cb (fr' i) = cb (fr i)) : chg n fr' = chg n fr := by
  induction n with
  | zero => rfl
  | succ n ih => rw [chg, chg, ih, h]

/-- What the pages hold and how often each is pinned, said by what the frames and the disk hold. -/
structure View (n : Nat) (fr : Nat → Option Fr) (ops : List RawOp) (C : Nat → List UInt8) (P : Nat → Nat) (N : Nat) : Prop where
  held : ∀ i f, fr i = some f → C f.page = f.bytes ∧ P f.page = f.pins ∧ (f.changed = false → f.bytes = pageOf (play ops 1) f.page)
  free : ∀ q, (∀ i f, fr i = some f → f.page ≠ q) → C q = pageOf (play ops 1) q ∧ P q = 0
  cost : ops.length + chg n fr ≤ N
  bnd : ∀ q, P q ≤ N

theorem play_put (ops : List RawOp) (q : Nat) (bs : List UInt8) : play (ops ++ [.put 1 (q * 512) ⟨bs.toArray⟩]) 1 = putL (play ops 1) (q * 512) bs := by
  rw [play_snoc, RawOp.run, upd_same]

section
variable {n N : Nat} {fr fr' : Nat → Option Fr} {ops : List RawOp} {C : Nat → List UInt8} {P : Nat → Nat}
/-- A frame's marks do not matter. -/
theorem View.late (h : View n fr ops C P N) (hl : Late fr fr') : View n fr' ops C P N := by
  have hb : ∀ i f', fr' i = some f' → ∃ f, fr i = some f ∧ f'.page = f.page ∧ f'.pins = f.pins ∧ f'.changed = f.changed ∧ f'.bytes = f.bytes := fun i f' hi => by
    obtain ⟨b, hb⟩ := hl i
    rw [hi] at hb
    cases hf : fr i with
    | none => rw [hf] at hb; cases hb
    | some f => rw [hf] at hb; simp at hb; subst hb; exact ⟨f, rfl, rfl, rfl, rfl, rfl⟩
  have hb2 : ∀ i f, fr i = some f → ∃ f', fr' i = some f' ∧ f'.page = f.page := fun i f hi => by
    obtain ⟨b, hb⟩ := hl i
    rw [hi] at hb
    exact ⟨_, hb, rfl⟩
  refine ⟨fun i f' hi => ?_, fun q hq => h.free q (fun i f hi => ?_), ?_, h.bnd⟩
  · obtain ⟨f, hf, e1, e2, e3, e4⟩ := hb i f' hi
    rw [e1, e2, e3, e4]
    exact h.held i f hf
  · obtain ⟨f', hf', e⟩ := hb2 i f hi
    rw [← e]; exact hq i f' hf'
  · rw [chg_same (fr := fr)]
    · exact h.cost
    · intro i
      obtain ⟨b, hb⟩ := hl i
      rw [hb]
      cases fr i <;> rfl

/-- A changed frame is saved. -/
theorem View.save (h : View n fr ops C P N) (one : ∀ i j f g, fr i = some f → fr j = some g → f.page = g.page → i = j) {i : Nat} {f : Fr} (hi : fr i = some f) (hin : i < n) (hb : f.bytes.length = 512) (hc : f.changed = true) :
    View n (upd fr i (some { f with changed := false })) (ops ++ [.put 1 (f.page * 512) ⟨f.bytes.toArray⟩]) C P N := by
  have hpl := play_put ops f.page f.bytes
  refine ⟨fun j g hg => ?_, fun q hq => ?_, ?_, h.bnd⟩
  · by_cases hj : j = i
    · subst hj; rw [upd_same] at hg; cases hg
      obtain ⟨h1, h2, _⟩ := h.held j f hi
      exact ⟨h1, h2, fun _ => by rw [hpl, pageOf_put _ _ _ _ hb, if_pos rfl]⟩
    · rw [upd_other _ _ hj] at hg
      obtain ⟨h1, h2, h3⟩ := h.held j g hg
      refine ⟨h1, h2, fun hc' => ?_⟩
      rw [hpl, pageOf_put _ _ _ _ hb, if_neg (fun e => hj (one j i g f hg hi e))]
      exact h3 hc'
  · have hqf : q ≠ f.page := fun e => hq i _ (upd_same _ _ _) e.symm
    obtain ⟨h1, h2⟩ := h.free q (fun j g hg => by
      by_cases hj : j = i
      · subst hj; rw [hi] at hg; cases hg; exact fun e => hqf e.symm
      · exact hq j g (by rw [upd_other _ _ hj]; exact hg))
    rw [hpl, pageOf_put _ _ _ _ hb, if_neg hqf]
    exact ⟨h1, h2⟩
  · have := chg_upd fr (some { f with changed := false }) hin
    have hcb : cb (fr i) = 1 := by rw [hi]; simp [cb, hc]
    have hcb2 : cb (some { f with changed := false }) = 0 := rfl
    have := h.cost
    simp only [List.length_append, List.length_cons, List.length_nil]
    omega

/-- A frame that is not changed, and not pinned, is let go. -/
theorem View.drop (h : View n fr ops C P N) {i : Nat} {f : Fr} (hi : fr i = some f) (hin : i < n) (hc : f.changed = false) (hp : f.pins = 0) : View n (upd fr i none) ops C P N := by
  refine ⟨fun j g hg => ?_, fun q hq => ?_, ?_, h.bnd⟩
  · by_cases hj : j = i
    · subst hj; rw [upd_same] at hg; cases hg
    · rw [upd_other _ _ hj] at hg; exact h.held j g hg
  · by_cases hqf : f.page = q
    · obtain ⟨h1, h2, h3⟩ := h.held i f hi
      subst hqf
      exact ⟨by rw [h1]; exact h3 hc, by rw [h2, hp]⟩
    · refine h.free q (fun j g hg e => ?_)
      by_cases hj : j = i
      · subst hj; rw [hi] at hg; cases hg; exact hqf e
      · exact hq j g (by rw [upd_other _ _ hj]; exact hg) e
  · have := chg_upd fr none hin
    have hcb : cb (fr i) = 0 := by rw [hi]; simp [cb, hc]
    have hcb2 : cb none = 0 := rfl
    have := h.cost
    omega

/-- A frame is taken for another page: it was saved where it was changed. -/
theorem View.evict (h : View n fr ops C P N) (one : ∀ i j f g, fr i = some f → fr j = some g → f.page = g.page → i = j) {i : Nat} {f : Fr} (hi : fr i = some f) (hin : i < n) (hb : f.bytes.length = 512) (hp : f.pins = 0) : View n (upd fr i none) (saved f ops) C P N := by
  unfold saved
  cases hc : f.changed
  · exact h.drop hi hin hc hp
  · have h1 := h.save one hi hin hb hc
    have h2 := h1.drop (upd_same _ _ _) hin rfl hp
    have : upd (upd fr i (some { f with changed := false })) i none = upd fr i none := by
      funext j
      by_cases hj : j = i
      · subst hj; rw [upd_same, upd_same]
      · rw [upd_other _ _ hj, upd_other _ _ hj, upd_other _ _ hj]
    rw [this] at h2
    exact h2

/-- A page comes into a free frame, pinned once. -/
theorem View.load (h : View n fr ops C P N) {i q : Nat} (hi : fr i = none) (hin : i < n) (hno : ∀ j f, fr j = some f → f.page ≠ q) : View n (upd fr i (some ⟨q, 1, true, false, pageOf (play ops 1) q⟩)) ops C (upd P q 1) (N + 1) := by
  refine ⟨fun j g hg => ?_, fun x hx => ?_, ?_, fun x => ?_⟩
  · by_cases hj : j = i
    · subst hj; rw [upd_same] at hg; cases hg
      exact ⟨(h.free q hno).1, upd_same _ _ _, fun _ => rfl⟩
    · rw [upd_other _ _ hj] at hg
      obtain ⟨h1, h2, h3⟩ := h.held j g hg
      exact ⟨h1, by rw [upd_other _ _ (hno j g hg)]; exact h2, h3⟩
  · have hxq : x ≠ q := fun e => hx i _ (upd_same _ _ _) e.symm
    obtain ⟨h1, h2⟩ := h.free x (fun j g hg => by
      by_cases hj : j = i
      · subst hj; rw [hi] at hg; cases hg
      · exact hx j g (by rw [upd_other _ _ hj]; exact hg))
    exact ⟨h1, by rw [upd_other _ _ hxq]; exact h2⟩
  · have := chg_upd fr (some (⟨q, 1, true, false, pageOf (play ops 1) q⟩ : Fr)) hin
    have hcb2 : cb (some (⟨q, 1, true, false, pageOf (play ops 1) q⟩ : Fr)) = 0 := rfl
    have := h.cost
    omega
  · by_cases hxq : x = q
    · subst hxq; rw [upd_same]; omega
    · rw [upd_other _ _ hxq]; have := h.bnd x; omega

/-- A frame's pins and bytes turn. -/
theorem View.turn (h : View n fr ops C P N) (one : ∀ i j f g, fr i = some f → fr j = some g → f.page = g.page → i = j) {i : Nat} {f f' : Fr} (hi : fr i = some f) (hin : i < n) (hpg : f'.page = f.page) (hc : f'.changed = false → f.changed = false ∧ f'.bytes = f.bytes) (hN : f'.pins ≤ N + 1) :
    View n (upd fr i (some f')) ops (upd C f.page f'.bytes) (upd P f.page f'.pins) (N + 1) := by
  refine ⟨fun j g hg => ?_, fun x hx => ?_, ?_, fun x => ?_⟩
  · by_cases hj : j = i
    · subst hj; rw [upd_same] at hg; cases hg
      rw [hpg]
      refine ⟨upd_same _ _ _, upd_same _ _ _, fun hc' => ?_⟩
      obtain ⟨h1, h2⟩ := hc hc'
      rw [h2]; exact (h.held j f hi).2.2 h1
    · rw [upd_other _ _ hj] at hg
      have hne : g.page ≠ f.page := fun e => hj (one j i g f hg hi e)
      rw [upd_other _ _ hne, upd_other _ _ hne]
      exact h.held j g hg
  · have hxq : x ≠ f.page := fun e => hx i f' (upd_same _ _ _) (by rw [hpg, e])
    rw [upd_other _ _ hxq, upd_other _ _ hxq]
    refine h.free x (fun j g hg => ?_)
    by_cases hj : j = i
    · subst hj; rw [hi] at hg; cases hg; exact fun e => hxq e.symm
    · exact hx j g (by rw [upd_other _ _ hj]; exact hg)
  · have := chg_upd fr (some f') hin
    have hle : cb (some f') ≤ 1 := by unfold cb; simp only; split <;> omega
    have := h.cost
    omega
  · by_cases hxq : x = f.page
    · subst hxq; rw [upd_same]; exact hN
    · rw [upd_other _ _ hxq]; have := h.bnd x; omega
end
end Go.Proofs.YtefddiikdamnbaaGreatDoor

/- The contract of a pool's Flush. -/
set_option maxRecDepth 100000
namespace Go.Proofs.YtefddiikdamnbaaGreatDoor
open Go.RowKit

/-- What a save leaves of the pool and its disk. -/
structure Flushed (S : Nat → Prop) (p d fb mb n hand m : Nat) (fr fr' : Nat → Option Fr) (C : Nat → List UInt8) (P : Nat → Nat) (N B : Nat) (w0 w : World) : Prop where
  g : PoolG p d fb mb n hand m fr' w
  st : ∃ S' ops', DiskAt S' d ops' w ∧ View n fr' ops' C P N ∧ (∀ k, S' k → S k ∨ B ≤ k) 
  same : ∀ i, (fr' i).map (·.page) = (fr i).map (·.page)
  kept : Kept (fun k => S k ∨ k = fb) w0 w

end Go.Proofs.YtefddiikdamnbaaGreatDoor

/- A pool as whoever uses it sees it: what each page holds, how often it is pinned; New, Pin, Unpin, Read, Write, Pins, Held, Flush so said. -/
set_option maxRecDepth 100000
namespace Go.Proofs.YtefddiikdamnbaaGreatDoor
open Go.RowKit

/-- How many pages are pinned. -/
def pinnedN (P : Nat → Nat) : Nat := ((List.range 4096).filter fun q => decide (0 < P q)).length

theorem nodup_le {α : Type} [DecidableEq α] : ∀ (l l' : List α), l.Nodup → (∀ x ∈ l, x ∈ l') → l.length ≤ l'.length
  | [], _, _, _ => by simp
  | a :: l, l', hd, hs => by
    obtain ⟨h1, h2⟩ := List.nodup_cons.1 hd
    have ha := hs a (by simp)
    have := nodup_le l (l'.erase a) h2 (fun x hx => (List.mem_erase_of_ne (fun e => by subst e; exact h1 hx)).2 (hs x (by simp [hx])))
    rw [List.length_erase_of_mem ha] at this
    have := List.length_pos_of_mem ha
    simp only [List.length_cons]
    omega
theorem mem_pinned {P : Nat → Nat} {q : Nat} : q ∈ ((List.range 4096).filter fun q => decide (0 < P q)) ↔ q < 4096 ∧ 0 < P q := by simp
theorem pinned_nodup (P : Nat → Nat) : ((List.range 4096).filter fun q => decide (0 < P q)).Nodup := List.Pairwise.filter _ List.nodup_range

/-- A list of the pinned pages has just so many. -/
theorem pinnedN_list {P : Nat → Nat} {l : List Nat} (hd : l.Nodup) (hm : ∀ q, q ∈ l ↔ q < 4096 ∧ 0 < P q) : l.length = pinnedN P :=
  Nat.le_antisymm (nodup_le _ _ hd (fun q hq => mem_pinned.2 ((hm q).1 hq))) (nodup_le _ _ (pinned_nodup P) (fun q hq => (hm q).2 (mem_pinned.1 hq)))

section
variable {p d fb mb n hand m N : Nat} {fr : Nat → Option Fr} {w : World} {ops : List RawOp} {C : Nat → List UInt8} {P : Nat → Nat}

def pageAt (fr : Nat → Option Fr) (i : Nat) : Nat := match fr i with | some f => f.page | none => 0

theorem holder (h : PoolG p d fb mb n hand m fr w) (hv : View n fr ops C P N) {q : Nat} (hq : 0 < P q) : ∃ i f, fr i = some f ∧ f.page = q ∧ i < n ∧ f.pins = P q ∧ q < 4096 := by
  by_cases hx : ∃ i f, fr i = some f ∧ f.page = q
  · obtain ⟨i, f, hi, rfl⟩ := hx
    obtain ⟨h1, _, _, h4⟩ := h.at_ i f hi
    exact ⟨i, f, hi, rfl, h1, (hv.held i f hi).2.1.symm, h4⟩
  · have := (hv.free q (fun i f hi e => hx ⟨i, f, hi, e⟩)).2
    omega

theorem full_yes (h : PoolG p d fb mb n hand m fr w) (hv : View n fr ops C P N) (ha : ∀ i, i < n → ∃ f, fr i = some f ∧ 0 < f.pins) : pinnedN P = n := by
  have hnd : ((List.range n).map (pageAt fr)).Nodup := by
    refine List.pairwise_map.2 ((List.pairwise_lt_range (n := n)).imp_of_mem ?_)
    intro a b ha' hb' hab e
    obtain ⟨f, hf, _⟩ := ha a (List.mem_range.1 ha')
    obtain ⟨g, hg, _⟩ := ha b (List.mem_range.1 hb')
    unfold pageAt at e
    rw [hf, hg] at e
    have := h.one a b f g hf hg e
    omega
  have := pinnedN_list (P := P) hnd (fun q => by
    constructor
    · intro hq
      obtain ⟨i, hi, rfl⟩ := List.mem_map.1 hq
      obtain ⟨f, hf, hp⟩ := ha i (List.mem_range.1 hi)
      unfold pageAt
      rw [hf]
      exact ⟨(h.at_ i f hf).2.2.2, by rw [(hv.held i f hf).2.1]; exact hp⟩
    · rintro ⟨_, hp⟩
      obtain ⟨i, f, hf, e, hin, _⟩ := holder h hv hp
      exact List.mem_map.2 ⟨i, List.mem_range.2 hin, by unfold pageAt; rw [hf]; exact e⟩)
  rw [← this]; simp

theorem full_no (h : PoolG p d fb mb n hand m fr w) (hv : View n fr ops C P N) {i : Nat} (hi : i < n) (hp : ∀ f, fr i = some f → f.pins = 0) : pinnedN P ≠ n := by
  have hle : pinnedN P ≤ (((List.range n).erase i).map (pageAt fr)).length := by
    refine nodup_le _ _ (pinned_nodup P) (fun q hq => ?_)
    obtain ⟨_, hpq⟩ := mem_pinned.1 hq
    obtain ⟨j, f, hf, e, hjn, hfp, _⟩ := holder h hv hpq
    refine List.mem_map.2 ⟨j, (List.mem_erase_of_ne (fun e => ?_)).2 (List.mem_range.2 hjn), by unfold pageAt; rw [hf]; exact e⟩
    subst e
    have := hp f hf
    omega
  rw [List.length_map, List.length_erase_of_mem (List.mem_range.2 hi), List.length_range] at hle
  omega
end

/-- A pool that New gave, as it is seen from outside; all its blocks, the disk's too, are of S, and lie from B on. -/
def PoolSt (B : Nat) (S : Nat → Prop) (p d n : Nat) (C : Nat → List UInt8) (P : Nat → Nat) (N : Nat) (w : World) : Prop :=
  ∃ fb mb hand m fr Sd ops, PoolG p d fb mb n hand m fr w ∧ Filled n m fr ∧ DiskAt Sd d ops w ∧ View n fr ops C P N ∧ (¬ Sd p ∧ ¬ Sd fb ∧ ¬ Sd mb) ∧ (∀ k, Sd k ∨ k = p ∨ k = fb ∨ k = mb → S k) ∧ ∀ k, S k → B ≤ k ∧ k < w.heap.size

/-- What has turned: blocks of S alone; and S' is S, and new blocks. -/
def Turn (S : Nat → Prop) (w : World) (S' : Nat → Prop) (w' : World) : Prop := Kept S w w' ∧ ∀ k, k < w.heap.size → S' k → S k
theorem Turn.refl (S : Nat → Prop) (w : World) : Turn S w S w := ⟨Kept.refl _ _, fun _ _ h => h⟩
theorem Turn.trans {S S' S'' : Nat → Prop} {w w' w'' : World} (h : Turn S w S' w') (k : Turn S' w' S'' w'') : Turn S w S'' w'' := by
  refine ⟨h.1.trans k.1 (fun i hi => ?_), fun i hi hs => h.2 i hi (k.2 i (Nat.lt_of_lt_of_le hi h.1.size) hs)⟩
  rcases Nat.lt_or_ge i w.heap.size with hlt | hge
  · exact .inl (h.2 i hlt hi)
  · exact .inr hge

section
variable {B p d n N : Nat} {S : Nat → Prop} {w w' : World} {C : Nat → List UInt8} {P : Nat → Nat}
theorem PoolSt.size (h : PoolSt B S p d n C P N w) : B ≤ w.heap.size := by
  obtain ⟨fb, mb, hand, m, fr, Sd, ops, h1, _, _, _, _, h6, h7⟩ := h
  have := h7 p (h6 p (.inr (.inl rfl)))
  omega
end

def PinPost (B : Nat) (S : Nat → Prop) (p d n : Nat) (C : Nat → List UInt8) (P : Nat → Nat) (N q : Nat) (w : World) (e : Ending) (w' : World) : Prop :=
  ∃ S', Turn S w S' w' ∧ (e = .returned (.int .i64 40) ∧ P q = 0 ∧ pinnedN P = n ∧ PoolSt B S' p d n C P N w' ∨ e = .returned (.int .i64 0) ∧ ¬ (P q = 0 ∧ pinnedN P = n) ∧ PoolSt B S' p d n C (upd P q (P q + 1)) (N + 1) w')

theorem upd_self {α : Type} (F : Nat → α) (f : Nat) : upd F f (F f) = F := by
  funext i
  by_cases h : i = f
  · subst h; rw [upd_same]
  · rw [upd_other _ _ h]
theorem late_some {fr fr' : Nat → Option Fr} (h : Late fr fr') {i : Nat} {f' : Fr} (hi : fr' i = some f') : ∃ f, fr i = some f ∧ f'.page = f.page ∧ f'.pins = f.pins ∧ f'.changed = f.changed ∧ f'.bytes = f.bytes := by
  obtain ⟨b, hb⟩ := h i
  rw [hi] at hb
  cases hf : fr i with
  | none => rw [hf] at hb; cases hb
  | some f => rw [hf] at hb; simp at hb; subst hb; exact ⟨f, rfl, rfl, rfl, rfl, rfl⟩
theorem late_back {fr fr' : Nat → Option Fr} (h : Late fr fr') {i : Nat} {f : Fr} (hi : fr i = some f) : ∃ b, fr' i = some { f with lately := b } := by
  obtain ⟨b, hb⟩ := h i
  rw [hi] at hb
  exact ⟨b, hb⟩

end Go.Proofs.YtefddiikdamnbaaGreatDoor
