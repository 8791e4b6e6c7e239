/- A pool and the law's own pages side by side; the law's 'does' where nothing turns but the pool, or one count of pins. -/
import Derived.Test.YtnmeobbbcccgjaaPT
import Derived.Test.YtnmeobbbcccgjaaPR
import Derived.BigQuiet
import Derived.Deep.QuietTactic
set_option maxRecDepth 100000
namespace Go.Proofs.Ytnmeobbbcccgjaa
open Go Go.RowKit

/-- The law's pages hold what the pool tells. -/
structure Rel (L : List Pg) (C : Nat → List UInt8) (P : Nat → Nat) : Prop where
  nd : (L.map (·.page)).Nodup
  ent : ∀ e ∈ L, e.page < 4096 ∧ P e.page = e.pins ∧ C e.page = e.bytes ∧ e.bytes.length = 512
  oth : ∀ q, (∀ e ∈ L, e.page ≠ q) → P q = 0 ∧ C q = List.replicate 512 0

section
variable {L : List Pg} {C : Nat → List UInt8} {P : Nat → Nat}
theorem Rel.len (h : Rel L C P) : L.length ≤ 4096 := by
  have := nodup_le _ (List.range 4096) h.nd (fun q hq => by
    obtain ⟨e, he, rfl⟩ := List.mem_map.1 hq
    exact List.mem_range.2 (h.ent e he).1)
  simpa using this
theorem Rel.pin (h : Rel L C P) : pinL L = pinnedN P := by
  have hnd : ((L.filter fun e => decide (0 < e.pins)).map (·.page)).Nodup := (List.filter_sublist.map _).nodup h.nd
  rw [← pinnedN_list (P := P) hnd (fun q => ?_), List.length_map]
  · rfl
  · constructor
    · intro hq
      obtain ⟨e, he, rfl⟩ := List.mem_map.1 hq
      obtain ⟨h1, h2⟩ := List.mem_filter.1 he
      have := h.ent e h1
      exact ⟨this.1, by rw [this.2.1]; simpa using h2⟩
    · rintro ⟨_, hp⟩
      refine Classical.byContradiction fun hc => ?_
      have := (h.oth q (fun e he hq => by
        subst hq
        exact hc (List.mem_map.2 ⟨e, List.mem_filter.2 ⟨he, by rw [← (h.ent e he).2.1]; simpa using hp⟩, rfl⟩))).1
      omega
theorem Rel.uniq (h : Rel L C P) {i j : Nat} {e f : Pg} (hi : L[i]? = some e) (hj : L[j]? = some f) (hp : e.page = f.page) : i = j := by
  obtain ⟨hil, hie⟩ := List.getElem?_eq_some_iff.1 hi
  obtain ⟨hjl, hjf⟩ := List.getElem?_eq_some_iff.1 hj
  have hw := List.pairwise_iff_getElem.1 h.nd
  rcases Nat.lt_trichotomy i j with hlt | rfl | hlt
  · have := hw i j (by simpa using hil) (by simpa using hjl) hlt
    simp [hie, hjf, hp] at this
  · rfl
  · have := hw j i (by simpa using hjl) (by simpa using hil) hlt
    simp [hie, hjf, hp] at this
theorem map_page_set {i : Nat} {e e' : Pg} (hi : L[i]? = some e) (hp : e'.page = e.page) : (L.set i e').map (·.page) = L.map (·.page) := by
  apply List.ext_getElem?
  intro j
  rw [List.getElem?_map, List.getElem?_map, List.getElem?_set]
  by_cases hj : i = j
  · subst hj
    obtain ⟨hil, _⟩ := List.getElem?_eq_some_iff.1 hi
    rw [if_pos rfl, if_pos hil, hi]
    simp [hp]
  · rw [if_neg hj]
/-- One of the law's pages turns, and the pool's page with it. -/
theorem Rel.set (h : Rel L C P) {i : Nat} {e e' : Pg} (hi : L[i]? = some e) (hp : e'.page = e.page) (hb : e'.bytes.length = 512) : Rel (L.set i e') (upd C e.page e'.bytes) (upd P e.page e'.pins) := by
  refine ⟨by rw [map_page_set hi hp]; exact h.nd, fun x hx => ?_, fun q hq => ?_⟩
  · obtain ⟨j, hj, hjx⟩ := List.getElem_of_mem hx
    have hj' : (L.set i e')[j]? = some x := by rw [List.getElem?_eq_getElem hj, hjx]
    rw [List.getElem?_set] at hj'
    by_cases hij : i = j
    · subst hij
      obtain ⟨hil, _⟩ := List.getElem?_eq_some_iff.1 hi
      rw [if_pos rfl, if_pos hil] at hj'
      cases hj'
      rw [hp]
      exact ⟨(h.ent e (List.mem_of_getElem? hi)).1, upd_same _ _ _, upd_same _ _ _, hb⟩
    · rw [if_neg hij] at hj'
      have hne : x.page ≠ e.page := fun hc => hij (h.uniq hi hj' hc.symm)
      rw [upd_other _ _ hne, upd_other _ _ hne]
      exact h.ent x (List.mem_of_getElem? hj')
  · have hmem : ∀ f ∈ L, f.page ≠ q := fun f hf hc => by
      have : q ∈ (L.set i e').map (·.page) := by rw [map_page_set hi hp]; exact List.mem_map.2 ⟨f, hf, hc⟩
      obtain ⟨y, hy, hyq⟩ := List.mem_map.1 this
      exact hq y hy hyq
    have hne : q ≠ e.page := fun hc => hmem e (List.mem_of_getElem? hi) hc.symm
    rw [upd_other _ _ hne, upd_other _ _ hne]
    exact h.oth q hmem
/-- A page comes to the law's pages: it was never pinned. -/
theorem Rel.add (h : Rel L C P) {q k : Nat} (hq : q < 4096) (hno : ∀ e ∈ L, e.page ≠ q) : Rel (L ++ [⟨q, List.replicate 512 0, k⟩]) C (upd P q k) := by
  refine ⟨?_, fun x hx => ?_, fun r hr => ?_⟩
  · rw [List.map_append]
    refine List.nodup_append.2 ⟨h.nd, by simp, fun a ha b hb hab => ?_⟩
    simp at hb
    subst hb
    obtain ⟨e, he, rfl⟩ := List.mem_map.1 ha
    exact hno e he hab
  · rcases List.mem_append.1 hx with hx | hx
    · rw [upd_other _ _ (hno x hx)]; exact h.ent x hx
    · simp at hx
      subst hx
      exact ⟨hq, upd_same _ _ _, (h.oth q hno).2, by simp⟩
  · have hne : r ≠ q := fun hc => hr _ (List.mem_append.2 (.inr (List.mem_singleton.2 rfl))) hc.symm
    rw [upd_other _ _ hne]
    exact h.oth r (fun e he => hr e (List.mem_append.2 (.inl he)))
end

/-- The pool and the law's pages tell the same. -/
structure Both (B : Nat) (S T : Nat → Prop) (p d g n : Nat) (L : List Pg) (C : Nat → List UInt8) (P : Nat → Nat) (N : Nat) (w : World) : Prop where
  st : PoolSt B S p d n C P N w
  pg : PgAt T g n L w
  dis : ∀ k, S k → ¬ T k
  low : ∀ k, T k → B ≤ k ∧ k < w.heap.size
  rel : Rel L C P

section
variable {B p d g n N : Nat} {S T : Nat → Prop} {L : List Pg} {C : Nat → List UInt8} {P : Nat → Nat} {w w' : World}
theorem Both.below (h : Both B S T p d g n L C P N w) (hb : Below w.heap.size w w') : Both B S T p d g n L C P N w' :=
  ⟨h.st.below hb, h.pg.below hb, h.dis, fun k hk => ⟨(h.low k hk).1, Nat.lt_of_lt_of_le (h.low k hk).2 hb.size⟩, h.rel⟩
theorem Both.more (h : Both B S T p d g n L C P N w) {M : Nat} (hM : N ≤ M) : Both B S T p d g n L C P M w := ⟨h.st.more hM, h.pg, h.dis, h.low, h.rel⟩
/-- The pool has turned; the law's pages are where they were. -/
theorem Both.pool (h : Both B S T p d g n L C P N w) {S' : Nat → Prop} (ht : Turn S w S' w') : PgAt T g n L w' ∧ (∀ k, S' k → ¬ T k) ∧ ∀ k, T k → B ≤ k ∧ k < w'.heap.size :=
  ⟨h.pg.kept ht.1 (fun k _ ht' hs => h.dis k hs ht'), fun k hs ht' => h.dis k (ht.2 k (h.low k ht').2 hs) ht', fun k hk => ⟨(h.low k hk).1, Nat.lt_of_lt_of_le (h.low k hk).2 ht.1.size⟩⟩
theorem Both.low1 (h : Both B S T p d g n L C P N w) : B ≤ w.heap.size := h.st.size

theorem idxAt (L : List Pg) (x : Int) : (∃ (i : Nat) (e : Pg), L[i]? = some e ∧ (e.page : Int) = x) ∨ ∀ e ∈ L, (e.page : Int) ≠ x := by
  by_cases hx : ∃ e ∈ L, (e.page : Int) = x
  · obtain ⟨e, he, hx⟩ := hx
    obtain ⟨i, hi, rfl⟩ := List.getElem_of_mem he
    exact .inl ⟨i, _, List.getElem?_eq_getElem hi, hx⟩
  · exact .inr (fun e he hc => hx ⟨e, he, hc⟩)
theorem Both.noPins (h : Both B S T p d g n L C P N w) {x : Int} (hx : ∀ e ∈ L, (e.page : Int) ≠ x) : NoPins P x := fun j hj => (h.rel.oth j (fun e he hc => hx e he (by rw [hc]; exact hj))).1
theorem Both.noPins0 (h : Both B S T p d g n L C P N w) {i : Nat} {e : Pg} (hi : L[i]? = some e) (hp : e.pins = 0) : NoPins P e.page := fun j hj => by
  obtain rfl : j = e.page := by omega
  rw [(h.rel.ent e (List.mem_of_getElem? hi)).2.1, hp]

/-- What the law's find tells. -/
def findAt (L : List Pg) (x v : Int) : Prop := (∃ (i : Nat) (e : Pg), L[i]? = some e ∧ (e.page : Int) = x ∧ v = i) ∨ (∀ e ∈ L, (e.page : Int) ≠ x) ∧ v = -1
theorem Both.find (h : Both B S T p d g n L C P N w) (x : Int) : ∃ v, findAt L x v ∧ Calls Try.prog 27 #[.pointer (some ⟨g, 0, none⟩), .int .i64 x] w fun e w' => e = .returned (.int .i64 v) ∧ w' = w := by
  rcases idxAt L x with ⟨i, e, hi, rfl⟩ | hx
  · exact ⟨i, .inl ⟨i, e, hi, rfl, rfl⟩, find_yes T g n i L e w h.pg h.rel.nd (fun e he => (h.rel.ent e he).1) h.rel.len hi⟩
  · exact ⟨-1, .inr ⟨hx, rfl⟩, find_no T g n L x w h.pg (fun e he => ⟨(h.rel.ent e he).1, hx e he⟩) h.rel.len⟩
end

def opVal (x : It) : Value := .agg #[.int .i64 x.k, .int .i64 x.f, .int .i64 x.n, .string x.s]
def opObj (x : It) : Obj := .cells #[.int .i64 x.k, .int .i64 x.f, .int .i64 x.n, .string x.s] 37

/-- What 'does' leaves. -/
def DoesPost (B p d g n N : Nat) (w : World) (e : Ending) (w' : World) : Prop :=
  e = .returned (.bool true) ∧ ∃ S' T' L' C' P', Both B S' T' p d g n L' C' P' (N + 1) w' ∧ Below B w w'

theorem wf_of_i64 {x : Int} (h : I64 x) : (Lit.int .i64 x).wf = true := WalkArith.wf_i64 ⟨h.1, h.2⟩

set_option maxHeartbeats 1600000 in
theorem does_other (B : Nat) (S T : Nat → Prop) (p d g n : Nat) (L : List Pg) (C : Nat → List UInt8) (P : Nat → Nat) (N : Nat) (x : It) (w : World) (h : Both B S T p d g n L C P N w) (hk : x.k ≠ 1 ∧ x.k ≠ 2 ∧ x.k ≠ 3 ∧ x.k ≠ 4) :
    Calls Try.prog 11 #[.pointer (some ⟨g, 0, none⟩), .pointer (some ⟨p, 0, none⟩), opVal x] w (DoesPost B p d g n N w) := by
  obtain ⟨k, f, a, s⟩ := x
  simp only at hk
  have k1 : (k == 1) = false := by simpa using hk.1
  have k2 : (k == 2) = false := by simpa using hk.2.1
  have k3 : (k == 3) = false := by simpa using hk.2.2.1
  have k4 : (k == 4) = false := by simpa using hk.2.2.2
  have hb0 : Below w.heap.size w (w.alloc (opObj ⟨k, f, a, s⟩)) := (Below.refl _ _).alloc (Nat.le_refl _) _
  have h0 := h.below hb0
  obtain ⟨v, _, hfc⟩ := h0.find f
  have HF := Lib.hid hfc
  have HE := Lib.hid (show DoesPost B p d g n N w (.returned (.bool true)) (w.alloc (opObj ⟨k, f, a, s⟩)) from ⟨rfl, S, T, L, C, P, h0.more (by omega), (Below.refl _ _).alloc h.low1 _⟩)
  unfold opVal
  unfold opObj at HF HE
  simp only at HF HE ⊢
  clear hfc h0 hb0 h hk
  go_enter Try.func11, Try.ntmps11
  go_wp2_with fail
  refine HF.out.mono ?_
  rintro e w1 ⟨rfl, hw⟩
  subst w1
  go_wp2
  all_goals go_ret
  all_goals exact HE.out
end Go.Proofs.Ytnmeobbbcccgjaa
