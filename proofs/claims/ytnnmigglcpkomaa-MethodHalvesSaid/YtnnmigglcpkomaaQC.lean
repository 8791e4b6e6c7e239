/- The contract of take: an entry is taken out of its shelf; a shelf that is empty then goes. -/
import Derived.Test.YtnnmigglcpkomaaRL
import Derived.Test.YtnnmigglcpkomaaRF
import Derived.Deep.DeepCutAuto
set_option maxRecDepth 100000
namespace Go.Proofs.Ytnnmigglcpkomaa.Dm
open Go Go.RowKit

set_option maxHeartbeats 1600000 in
/-- The entry is not there. -/
theorem take_none (P : Nat) (ss : List Sh) (x : Hd) (w : World) (hS : ∀ W, Below w.heap.size w W → Calls Try.prog 48 #[.pointer (some ⟨P, 1, none⟩), hdV x] W (SeekPost (Sh.lists ss) x W)) (hx : x ∉ (Sh.lists ss).flatten) :
    Calls Try.prog 111 #[.pointer (some ⟨P, 1, none⟩), hdV x] w fun e w' => e = .returned (.bool false) ∧ Below w.heap.size w w' := by
  have HS : Hid (∀ W, Below w.heap.size w W → Calls Try.prog 48 #[.pointer (some ⟨P, 1, none⟩), hdV x] W fun e w' => ∃ i at' : Nat, e = .returned (.tuple #[.int .i64 i, .int .i64 at', .bool false]) ∧ Below W.heap.size W w') := Lib.hid (fun W hW => (hS W hW).mono (by
    rintro e w' ⟨i, at', th, rfl, hk, hb⟩
    refine ⟨i, at', ?_, hb⟩
    cases th with
    | false => rfl
    | true =>
      obtain ⟨r, hr⟩ := hk.hit rfl
      exact absurd (by rw [hk.split, hr]; simp) hx))
  clear hS hx
  obtain ⟨xk, xt⟩ := x
  unfold hdV at HS ⊢
  simp only [] at HS ⊢
  go_enter Try.func111, Try.ntmps111
  go_wp2_with (go_at_call 48; refine (HS.out _ ((Below.refl _ _).alloc (Nat.le_refl _) _)).mono ?_)
  rintro e w1 ⟨i, at', rfl, hb1⟩
  have HB : Hid (Below w.heap.size w w1) := Lib.hid (below_al _ hb1)
  clear hb1
  go_wp2
  go_ret
  exact ⟨rfl, HB.out⟩

/-- One entry less in the shelf s, which is not empty then. -/
theorem take_left {P sb c m : Nat} {A B : List Sh} {s : Sh} {X : List Hd} {w w2 : World} {row : Array Value} (hR : RackAt w P (.slice (some ⟨sb, 0, none⟩) (A ++ s :: B).length c) (A ++ s :: B)) (hX : X.length = m) (hm : 0 < m) (hmc : m ≤ s.c) (hcm : s.c ≤ maxLen)
    (hrow : w2.heap[s.g]? = some (.cells row 80 (0, 0))) (hrs : row.size = s.c * 2) (hrt : row.toList.take (m * 2) = cellsH X) (hkept : ∀ k, k < w.heap.size → k ≠ s.g → w2.heap[k]? = w.heap[k]?) (hos : w2.os = w.os) (htp : w2.tape = w.tape) (hout : w2.output = w.output) (hsz : w.heap.size ≤ w2.heap.size)
    (hfew : ∀ t, t ∈ A ++ s :: B → t.hs.length ≤ 512) (hm5 : m ≤ 512) :
    RkPost P (.slice (some ⟨sb, 0, none⟩) (A ++ s :: B).length c) (A ++ s :: B) ((Sh.lists A).flatten ++ X ++ (Sh.lists B).flatten) w (.returned (.bool true)) (w2.setCell ⟨sb, A.length, none⟩ (.slice (some ⟨s.g, 0, none⟩) m s.c)) := by
  have hPl := hR.lt
  have hsP : s ∈ A ++ s :: B := by simp
  have hsbP : sb ≠ P := fun h => hR.vP (by rw [h]; rfl)
  have hsgP : s.g ≠ P := (hR.sP s hsP).1
  have hsgs : s.g ≠ sb := fun h => (hR.sP s hsP).2 (by rw [h]; rfl)
  have hsbl : sb < w.heap.size := (World.ownsRow.lt hR.row sb rfl).2
  have hk4 : ∀ k, k ≠ sb → (w2.setCell ⟨sb, A.length, none⟩ (.slice (some ⟨s.g, 0, none⟩) m s.c)).heap[k]? = w2.heap[k]? := fun k hk => Below.heap_setCell _ _ _ _ hk
  have hbP := (hk4 P (fun h => hsbP h.symm)).trans (hkept P hPl (fun h => hsgP h.symm))
  have hrow2 : w2.ownsRow 0 102 1 (.slice (some ⟨sb, 0, none⟩) (A ++ s :: B).length c) (A ++ s :: B).length ((A ++ s :: B).map Sh.v) := ownsRow_of_block hR.row (fun k hk => by cases hk; exact hkept sb hsbl (fun h => hsgs h.symm))
  have e1 : (A ++ [(⟨s.g, s.c, X⟩ : Sh)] ++ B).length = (A ++ s :: B).length := by simp
  have e2 : (A ++ [(⟨s.g, s.c, X⟩ : Sh)] ++ B).map Sh.v = ((A ++ s :: B).map Sh.v).set A.length (.slice (some ⟨s.g, 0, none⟩) m s.c) := by
    simp only [List.map_append, List.map_cons, List.map_nil]
    rw [List.set_append_right _ _ (by rw [List.length_map]; exact Nat.le_refl _), List.length_map, Nat.sub_self, List.set_cons_zero]
    rw [show Sh.v ⟨s.g, s.c, X⟩ = .slice (some ⟨s.g, 0, none⟩) m s.c by rw [← hX]; rfl]
    simp only [List.append_assoc, List.cons_append, List.nil_append]
  have hset := ownsRow_set (u := .slice (some ⟨s.g, 0, none⟩) m s.c) hrow2 (i := A.length) (by simp)
  have hR' : RackAt (w2.setCell ⟨sb, A.length, none⟩ (.slice (some ⟨s.g, 0, none⟩) m s.c)) P (.slice (some ⟨sb, 0, none⟩) (A ++ s :: B).length c) (A ++ [⟨s.g, s.c, X⟩] ++ B) := by
    refine hR.remake ?_ ?_ ?_ ?_ ?_ (List.pairwise_singleton _ _) (.inl rfl)
    · exact (World.cell?_of_block (w := w) (a := ⟨P, 1, none⟩) hbP).trans hR.cell
    · exact (World.frozen?_of_block (w := w) (a := ⟨P, 1, none⟩) hbP).trans hR.cold
    · rw [e1, e2]
      exact hset
    · intro t ht
      have htm : t ∈ A ++ s :: B := by
        rcases List.mem_append.1 ht with h1 | h1 <;> simp [h1]
      have h1 := (hR.shelf t htm).lt
      have h2 := hR.sP t htm
      have h3 : t.g ≠ s.g := by
        obtain ⟨_, pB, pAB⟩ := List.pairwise_append.1 hR.apart
        rcases List.mem_append.1 ht with h4 | h4
        · exact pAB t h4 s (by simp)
        · exact fun h => (List.pairwise_cons.1 pB).1 t h4 h.symm
      rw [hk4 _ (fun h => h2.2 (by rw [h]; rfl)), hkept _ h1 h3]
    · intro t ht
      rw [List.mem_singleton.1 ht]
      refine ⟨?_, fun h => ?_, .inl rfl, fun h => hsgs (by cases h; rfl)⟩
      · refine ⟨by rw [cellsH_length], .inr ⟨s.g, s.c, row, rfl, Nat.zero_le _, (hk4 _ hsgs).trans hrow, by show X.length ≤ s.c; omega, hcm, hrs, ?_⟩⟩
        show row.toList.take (X.length * 2) = _
        rw [hX]
        exact hrt
      · have := congrArg List.length h
        simp only [List.length_nil] at this
        omega
  refine ⟨_, _, rfl, hR', by simp [Sh.lists], ?_, ?_, World.cell?_of_block (w := w) (a := ⟨P, 0, none⟩) hbP, fun t ht => ?_⟩
  · refine ⟨hos, htp, hout, by simp only [World.setCell, Array.size_modify]; exact hsz, fun k hk hnk => ?_⟩
    have h1 : k ≠ sb := fun h => hnk (.inr (.inl (by rw [h]; rfl)))
    have h2 : k ≠ s.g := fun h => hnk (.inr (.inr ⟨s, hsP, h.symm⟩))
    rw [hk4 k h1, hkept k hk h2]
  · rintro k (rfl | h | ⟨t, ht, rfl⟩)
    · exact .inl (.inl rfl)
    · exact .inl (.inr (.inl h))
    · simp only [List.mem_append, List.mem_singleton] at ht
      rcases ht with (h1 | rfl) | h1
      · exact .inl (.inr (.inr ⟨t, by simp [h1], rfl⟩))
      · exact .inl (.inr (.inr ⟨s, hsP, rfl⟩))
      · exact .inl (.inr (.inr ⟨t, by simp [h1], rfl⟩))
  · simp only [List.mem_append, List.mem_singleton] at ht
    rcases ht with (h1 | rfl) | h1
    · exact hfew t (by simp [h1])
    · show X.length ≤ 512
      omega
    · exact hfew t (by simp [h1])

/-- The shelf s is gone. -/
theorem take_gone {P sb c n : Nat} {A B : List Sh} {s : Sh} {w w5 : World} {row : Array Value} (hR : RackAt w P (.slice (some ⟨sb, 0, none⟩) (n + 1) c) (A ++ s :: B)) (hn : (A ++ s :: B).length = n + 1) (hnc : n + 1 ≤ c) (hcm : c ≤ maxLen)
    (hrow : w5.heap[sb]? = some (.cells row 102 (0, 0))) (hrs : row.size = c * 1) (hrt : row.toList.take n = (A ++ B).map Sh.v) (hkept : ∀ k, k < w.heap.size → k ≠ s.g → k ≠ sb → w5.heap[k]? = w.heap[k]?) (hos : w5.os = w.os) (htp : w5.tape = w.tape) (hout : w5.output = w.output) (hsz : w.heap.size ≤ w5.heap.size)
    (hfew : ∀ t, t ∈ A ++ s :: B → t.hs.length ≤ 512) :
    RkPost P (.slice (some ⟨sb, 0, none⟩) (n + 1) c) (A ++ s :: B) ((Sh.lists A).flatten ++ (Sh.lists B).flatten) w (.returned (.bool true)) (w5.setCell ⟨P, 1, none⟩ (.slice (some ⟨sb, 0, none⟩) n c)) := by
  have hPl := hR.lt
  have hsP : s ∈ A ++ s :: B := by simp
  have hsbP : sb ≠ P := fun h => hR.vP (by rw [h]; rfl)
  have hsgP : s.g ≠ P := (hR.sP s hsP).1
  have hsgs : s.g ≠ sb := fun h => (hR.sP s hsP).2 (by rw [h]; rfl)
  have hk4 : ∀ k, k ≠ P → (w5.setCell ⟨P, 1, none⟩ (.slice (some ⟨sb, 0, none⟩) n c)).heap[k]? = w5.heap[k]? := fun k hk => Below.heap_setCell _ _ _ _ hk
  have hP5 := hkept P hPl (fun h => hsgP h.symm) (fun h => hsbP h.symm)
  have hAB : (A ++ B).length = n := by
    simp only [List.length_append, List.length_cons] at hn ⊢
    omega
  have hR' : RackAt (w5.setCell ⟨P, 1, none⟩ (.slice (some ⟨sb, 0, none⟩) n c)) P (.slice (some ⟨sb, 0, none⟩) n c) (A ++ [] ++ B) := by
    refine hR.remake ?_ ?_ ?_ ?_ (fun t ht => by cases ht) List.Pairwise.nil (.inl rfl)
    · exact World.cell?_setCell_same' _ _ _ (by rw [World.cell?_of_block (w := w) (a := ⟨P, 1, none⟩) hP5, hR.cell]; rfl)
    · rw [World.frozen?_setCell, World.frozen?_of_block (w := w) (a := ⟨P, 1, none⟩) hP5]
      exact hR.cold
    · rw [List.append_nil, hAB]
      refine ⟨by rw [List.length_map, hAB, Nat.mul_one], .inr ⟨sb, c, row, rfl, Nat.zero_le _, (hk4 _ hsbP).trans hrow, by omega, hcm, hrs, by rw [Nat.mul_one]; exact hrt⟩⟩
    · intro t ht
      have htm : t ∈ A ++ s :: B := by
        rcases List.mem_append.1 ht with h1 | h1 <;> simp [h1]
      have h1 := (hR.shelf t htm).lt
      have h2 := hR.sP t htm
      have h3 : t.g ≠ s.g := by
        obtain ⟨_, pB, pAB⟩ := List.pairwise_append.1 hR.apart
        rcases List.mem_append.1 ht with h4 | h4
        · exact pAB t h4 s (by simp)
        · exact fun h => (List.pairwise_cons.1 pB).1 t h4 h.symm
      rw [hk4 _ h2.1, hkept _ h1 h3 (fun h => h2.2 (by rw [h]; rfl))]
  rw [List.append_nil] at hR'
  refine ⟨_, _, rfl, hR', by simp [Sh.lists], ?_, ?_, ?_, fun t ht => ?_⟩
  · refine ⟨hos, htp, hout, by simp only [World.setCell, Array.size_modify]; exact hsz, fun k hk hnk => ?_⟩
    have h1 : k ≠ P := fun h => hnk (.inl h)
    have h2 : k ≠ sb := fun h => hnk (.inr (.inl (by rw [h]; rfl)))
    have h3 : k ≠ s.g := fun h => hnk (.inr (.inr ⟨s, hsP, h.symm⟩))
    rw [hk4 k h1, hkept k hk h3 h2]
  · rintro k (rfl | h | ⟨t, ht, rfl⟩)
    · exact .inl (.inl rfl)
    · exact .inl (.inr (.inl h))
    · rcases List.mem_append.1 ht with h1 | h1
      · exact .inl (.inr (.inr ⟨t, by simp [h1], rfl⟩))
      · exact .inl (.inr (.inr ⟨t, by simp [h1], rfl⟩))
  · rw [World.cell?_setCell_other _ _ _ _ (by intro h; cases h)]
    exact World.cell?_of_block (w := w) (a := ⟨P, 0, none⟩) hP5
  · rcases List.mem_append.1 ht with h1 | h1
    · exact hfew t (by simp [h1])
    · exact hfew t (by simp [h1])

/-- What stands behind the entry's deletion. -/
def TkMid (g m cap : Nat) (X : List Hd) (w w2 : World) : Prop :=
  ∃ row : Array Value, w2.heap[g]? = some (.cells row 80 (0, 0)) ∧ row.size = cap * 2 ∧ row.toList.take (m * 2) = cellsH X ∧ (∀ k, k < w.heap.size → k ≠ g → w2.heap[k]? = w.heap[k]?) ∧ w2.os = w.os ∧ w2.tape = w.tape ∧ w2.output = w.output ∧ w.heap.size ≤ w2.heap.size

set_option maxHeartbeats 6400000 in
theorem take_have (P sb c : Nat) (A B : List Sh) (s : Sh) (x : Hd) (w : World) (at' : Nat) (hR : RackAt w P (.slice (some ⟨sb, 0, none⟩) (A ++ s :: B).length c) (A ++ s :: B)) (hat : at' < s.hs.length) (hfew : ∀ t, t ∈ A ++ s :: B → t.hs.length ≤ 512) (hn : (A ++ s :: B).length < 2199023255552)
    (hS : ∀ W, Below w.heap.size w W → Calls Try.prog 48 #[.pointer (some ⟨P, 1, none⟩), hdV x] W fun e w' => e = .returned (.tuple #[.int .i64 A.length, .int .i64 at', .bool true]) ∧ Below W.heap.size W w') :
    Calls Try.prog 111 #[.pointer (some ⟨P, 1, none⟩), hdV x] w (RkPost P (.slice (some ⟨sb, 0, none⟩) (A ++ s :: B).length c) (A ++ s :: B) ((Sh.lists A).flatten ++ (s.hs.take at' ++ s.hs.drop (at' + 1)) ++ (Sh.lists B).flatten) w) := by
  obtain ⟨n, hnn⟩ : ∃ n, (A ++ s :: B).length = n + 1 := ⟨A.length + B.length, by simp; omega⟩
  obtain ⟨m, hmm⟩ : ∃ m, s.hs.length = m + 1 := ⟨s.hs.length - 1, by omega⟩
  obtain ⟨i, hi⟩ : ∃ i, i = A.length := ⟨_, rfl⟩
  have hin : i < n + 1 := by rw [← hnn, hi]; simp
  have hm5 : m + 1 ≤ 512 := by rw [← hmm]; exact hfew s (by simp)
  have hc := hR.cell
  have hPl := hR.lt
  have hsP : s ∈ A ++ s :: B := by simp
  have hSA := hR.shelf s hsP
  have hsgl := hSA.lt
  have hsgs : s.g ≠ sb := fun h => (hR.sP s hsP).2 (by rw [h]; rfl)
  have hsgP : s.g ≠ P := (hR.sP s hsP).1
  have hsbP : sb ≠ P := fun h => hR.vP (by rw [h]; rfl)
  obtain ⟨b', hb', hsbl, hsc⟩ := hR.at A.length (by simp)
  cases hb'
  rw [show (A ++ s :: B)[A.length]'(by simp) = s by simp, ← hi] at hsc
  have hsv : s.v = .slice (some ⟨s.g, 0, none⟩) (m + 1) s.c := by unfold Sh.v; rw [hmm]
  rw [hsv] at hsc
  obtain ⟨cur, hcur, hcs, hqc, hcm, htk⟩ : ∃ cur : Array Value, w.heap[s.g]? = some (.cells cur 80 (0, 0)) ∧ cur.size = s.c * 2 ∧ m + 1 ≤ s.c ∧ s.c ≤ maxLen ∧ cur.toList.take ((m + 1) * 2) = cellsH s.hs := by
    rcases hSA.2 with ⟨h1, _⟩ | ⟨g, cap, cur, h1, _, hg, hnc, hcm, hcs, ht⟩
    · cases h1
    · simp only [Sh.v, Value.slice.injEq, Option.some.injEq, Addr.mk.injEq] at h1
      obtain ⟨⟨h1, -⟩, -, h2⟩ := h1
      subst h1
      subst h2
      rw [hmm] at hnc ht
      exact ⟨cur, hg, hcs, hnc, hcm, ht⟩
  obtain ⟨scur, hscur, hscs, hsqc, hscm, hstk⟩ : ∃ cur : Array Value, w.heap[sb]? = some (.cells cur 102 (0, 0)) ∧ cur.size = c * 1 ∧ n + 1 ≤ c ∧ c ≤ maxLen ∧ cur.toList.take (n + 1) = (A ++ s :: B).map Sh.v := by
    rcases hR.row.2 with ⟨h1, _⟩ | ⟨g, cap, cur, h1, _, hg, hnc, hcm, hcs, ht⟩
    · cases h1
    · cases h1
      rw [hnn] at hnc ht
      exact ⟨cur, hg, hcs, hnc, hcm, by rw [Nat.mul_one] at ht; exact ht⟩
  obtain ⟨X, hX⟩ : ∃ X, X = s.hs.take at' ++ s.hs.drop (at' + 1) := ⟨_, rfl⟩
  have hXl : X.length = m := by
    rw [hX, List.length_append, List.length_take, List.length_drop]
    omega
  rw [← hX]
  have HD : Hid (∀ W, Below w.heap.size w W → Calls Try.prog 112 #[.slice (some ⟨s.g, 0, none⟩) (m + 1) s.c, .int .i64 at', .int .i64 ((at' : Int) + 1)] W fun e w' => e = .returned (.slice (some ⟨s.g, 0, none⟩) m s.c) ∧ w'.cell? ⟨sb, i, none⟩ = some (.slice (some ⟨s.g, 0, none⟩) (m + 1) s.c) ∧ w'.frozen? ⟨sb, i, none⟩ = false ∧ w'.cell? ⟨P, 1, none⟩ = some (.slice (some ⟨sb, 0, none⟩) (n + 1) c) ∧ Hid (TkMid s.g m s.c X w w')) := Lib.hid (fun W hW => by
    refine (delHeld_any s.g m s.c at' (cellsH s.hs) W cur ((hW.block s.g hsgl).trans hcur) (by omega) hqc hcm (by omega) hcs htk (cellsH_one' _)).mono ?_
    rintro e w' ⟨rfl, row, h1, h2, h3, h4, h5⟩
    have hkept : ∀ k, k < w.heap.size → k ≠ s.g → w'.heap[k]? = w.heap[k]? := fun k hk hks => (h4.block k (by have := hW.size; omega) (fun h => hks (by cases h; rfl))).trans (hW.block k hk)
    refine ⟨rfl, ?_, ?_, ?_, Lib.hid ⟨row, h1, h2, ?_, hkept, h4.os.trans hW.os, h4.tape.trans hW.tape, h4.output.trans hW.output, by rw [h5]; exact hW.size⟩⟩
    · rw [World.cell?_of_block (w := w) (hkept sb hsbl (fun h => hsgs h.symm)), hsc]
    · rw [World.frozen?_of_block (w := w) (hkept sb hsbl (fun h => hsgs h.symm))]
      exact Lib.frozen_of_heap hscur i
    · rw [World.cell?_of_block (w := w) (hkept P hPl (fun h => hsgP h.symm)), hc, hnn]
    · rw [h3, hX, cellsH_take, cellsH_drop, cellsH_append])
  -- the shelf goes
  have HSH : Hid (∀ w2 W, TkMid s.g m s.c X w w2 → m = 0 → Below w2.heap.size (w2.setCell ⟨sb, i, none⟩ (.slice (some ⟨s.g, 0, none⟩) m s.c)) W → Calls Try.prog 113 #[.slice (some ⟨sb, 0, none⟩) (n + 1) c, .int .i64 i, .int .i64 ((i : Int) + 1)] W fun e w' => e = .returned (.slice (some ⟨sb, 0, none⟩) n c) ∧ w'.cell? ⟨P, 1, none⟩ = some (.slice (some ⟨sb, 0, none⟩) (n + 1) c) ∧ w'.frozen? ⟨P, 1, none⟩ = false ∧
      Hid (RkPost P (.slice (some ⟨sb, 0, none⟩) (n + 1) c) (A ++ s :: B) ((Sh.lists A).flatten ++ X ++ (Sh.lists B).flatten) w (.returned (.bool true)) (w'.setCell ⟨P, 1, none⟩ (.slice (some ⟨sb, 0, none⟩) n c)))) := Lib.hid (by
    rintro w2 W ⟨row, h1, h2, h3, h4, h5, h6, h7, h8⟩ hm0 hW
    have hX0 : X = [] := List.eq_nil_of_length_eq_zero (by omega)
    have hsz2 : (w2.setCell ⟨sb, i, none⟩ (.slice (some ⟨s.g, 0, none⟩) m s.c)).heap.size = w2.heap.size := by simp [World.setCell]
    have hsb2 : w2.heap[sb]? = some (.cells scur 102 (0, 0)) := (h4 sb hsbl (fun h => hsgs h.symm)).trans hscur
    obtain ⟨scur2, hscur2, hscs2, hstk2⟩ : ∃ cur2 : Array Value, (w2.setCell ⟨sb, i, none⟩ (.slice (some ⟨s.g, 0, none⟩) m s.c)).heap[sb]? = some (.cells cur2 102 (0, 0)) ∧ cur2.size = c * 1 ∧ cur2.toList.take ((n + 1) * 1) = ((A ++ s :: B).map Sh.v).set i (.slice (some ⟨s.g, 0, none⟩) m s.c) := by
      refine ⟨scur.setIfInBounds i (.slice (some ⟨s.g, 0, none⟩) m s.c), ?_, by simpa using hscs, ?_⟩
      · rw [setCell_eq_setRow w2 sb i scur 102 (0, 0) _ hsb2]
        exact setRow_heap w2 sb scur _ 102 _ hsb2
      · rw [Array.toList_setIfInBounds, List.take_set, Nat.mul_one, hstk]
    have hWsb : W.heap[sb]? = some (.cells scur2 102 (0, 0)) := (hW.block sb (by omega)).trans hscur2
    refine (delShelf_any sb n c i _ W scur2 hWsb (by omega) hsqc hscm (by omega) hscs2 hstk2 (by
      intro u hu
      rcases List.mem_or_eq_of_mem_set hu with hu | rfl
      · obtain ⟨t, _, rfl⟩ := List.mem_map.1 hu
        rfl
      · rfl)).mono ?_
    rintro e w' ⟨rfl, row', r1, r2, r3, r4, r5⟩
    have hk5 : ∀ k, k < w.heap.size → k ≠ s.g → k ≠ sb → w'.heap[k]? = w.heap[k]? := fun k hk hks hkb => by
      rw [r4.block k (by have := hW.size; omega) (fun h => hkb (by cases h; rfl)), hW.block k (by omega), Below.heap_setCell _ _ _ _ (by exact hkb), h4 k hk hks]
    have hP5 := hk5 P hPl (fun h => hsgP h.symm) (fun h => hsbP h.symm)
    refine ⟨rfl, ?_, ?_, Lib.hid ?_⟩
    · rw [World.cell?_of_block (w := w) (a := ⟨P, 1, none⟩) hP5, hc, hnn]
    · rw [World.frozen?_of_block (w := w) (a := ⟨P, 1, none⟩) hP5]
      exact hR.cold
    · rw [hX0, List.append_nil]
      refine take_gone (by rw [← hnn]; exact hR) hnn hsqc hscm r1 r2 ?_ hk5 (r4.os.trans (hW.os.trans h5)) (r4.tape.trans (hW.tape.trans h6)) (r4.output.trans (hW.output.trans h7)) (by have := hW.size; omega) hfew
      rw [r3, hi]
      have e1 : ((A ++ s :: B).map Sh.v).set A.length (.slice (some ⟨s.g, 0, none⟩) m s.c) = (A.map Sh.v ++ [.slice (some ⟨s.g, 0, none⟩) m s.c]) ++ B.map Sh.v := by
        simp only [List.map_append, List.map_cons]
        rw [List.set_append_right _ _ (by rw [List.length_map]; exact Nat.le_refl _), List.length_map, Nat.sub_self, List.set_cons_zero]
        simp
      rw [e1, List.drop_left' (by simp), List.append_assoc, List.take_left' (by simp), List.map_append])
  have HL : Hid (∀ w2, TkMid s.g m s.c X w w2 → 0 < m → RkPost P (.slice (some ⟨sb, 0, none⟩) (n + 1) c) (A ++ s :: B) ((Sh.lists A).flatten ++ X ++ (Sh.lists B).flatten) w (.returned (.bool true)) (w2.setCell ⟨sb, i, none⟩ (.slice (some ⟨s.g, 0, none⟩) m s.c))) := Lib.hid (by
    rintro w2 ⟨row, h1, h2, h3, h4, h5, h6, h7, h8⟩ hm0
    have h := take_left hR hXl hm0 (by omega) hcm h1 h2 h3 h4 h5 h6 h7 h8 hfew (by omega)
    rw [hnn, ← hi] at h
    exact h)
  rw [hnn] at hc ⊢
  obtain ⟨PP, hPP⟩ : ∃ PP, PP = RkPost P (.slice (some ⟨sb, 0, none⟩) (n + 1) c) (A ++ s :: B) ((Sh.lists A).flatten ++ X ++ (Sh.lists B).flatten) w := ⟨_, rfl⟩
  rw [← hPP] at HL HSH ⊢
  obtain ⟨sg, hsg⟩ : ∃ sg, sg = s.g := ⟨_, rfl⟩
  obtain ⟨sc, hscc⟩ : ∃ sc, sc = s.c := ⟨_, rfl⟩
  rw [← hsg, ← hscc] at HD HSH HL hsc
  obtain ⟨TM, hTM⟩ : ∃ TM, TM = TkMid sg m sc X w := ⟨_, rfl⟩
  rw [← hTM] at HD HSH HL
  rw [← hi] at hS
  have HTS : Hid (∀ w2, TM w2 → w.heap.size ≤ w2.heap.size) := Lib.hid (by
    rw [hTM]
    rintro w2 ⟨_, _, _, _, _, _, _, _, h⟩
    exact h)
  obtain ⟨xk, xt⟩ := x
  unfold hdV at hS ⊢
  simp only [] at hS ⊢
  have HS := Lib.hid hS
  have hm6 : m < 2199023255552 := by omega
  have hat2 : at' < 2199023255552 := by omega
  have hn2 : n < 2199023255552 := by omega
  clear hS hR hnn hi hSA hsgl hsgs hsgP hsP hPP hTM hX hXl hcur hcs hcm htk hscur hscs hscm hstk hqc hsv hsg hscc hfew hmm hat hn hm5
  have hw1 : IntKind.i64.wrap ((i : Int) + 1) = (i : Int) + 1 := IntWalk.i64_in _ (by omega)
  have hw2 : wrap64 ((i : Int) + 1) = (i : Int) + 1 := IntWalk.wrap64_in _ ⟨by omega, by omega⟩
  have hw3 : IntKind.i64.wrap ((at' : Int) + 1) = (at' : Int) + 1 := IntWalk.i64_in _ (by omega)
  have hw4 : wrap64 ((at' : Int) + 1) = (at' : Int) + 1 := IntWalk.wrap64_in _ ⟨by omega, by omega⟩
  have b1 : (i : Int) < (n : Int) + 1 := by omega
  go_enter Try.func111, Try.ntmps111
  go_wp2_with (go_at_call 48; refine (HS.out _ ((Below.refl _ _).alloc (Nat.le_refl _) _)).mono ?_)
  rintro e w1 ⟨rfl, hb1⟩
  have hB : Below w.heap.size w w1 := below_al _ hb1
  have c1 : w1.cell? ⟨P, 1, none⟩ = some (.slice (some ⟨sb, 0, none⟩) (n + 1) c) := (hB.cell (p := ⟨P, 1, none⟩) hPl).trans hc
  have c2 : w1.cell? ⟨sb, i, none⟩ = some (.slice (some ⟨sg, 0, none⟩) (m + 1) sc) := (hB.cell (p := ⟨sb, i, none⟩) hsbl).trans hsc
  have HB := Lib.hid hB
  clear hb1 hB hc hsc
  go_upto_region 4 with fail
  go_cut [5] (fun k wx => k = .int .i64 i ∧ ∃ w2, Hid (TM w2) ∧ wx = w2.setCell ⟨sb, i, none⟩ (.slice (some ⟨sg, 0, none⟩) m sc) ∧ w2.cell? ⟨sb, i, none⟩ = some (.slice (some ⟨sg, 0, none⟩) (m + 1) sc) ∧ w2.cell? ⟨P, 1, none⟩ = some (.slice (some ⟨sb, 0, none⟩) (n + 1) c))
  case first =>
    go_region_law (go_simp; go_at_call 112; refine (HD.out _ HB.out.drew).mono ?_; rintro e w2 ⟨rfl, d1, d2, d3, HT⟩)
    all_goals
      go_wp2_with fail
      go_meet
      exact ⟨rfl, w2, HT, rfl, d1, d3⟩
  case rest =>
    obtain ⟨rfl, w2, HT, rfl, d1, d3⟩ := hcut
    obtain ⟨W3, hW3⟩ : ∃ W3, W3 = w2.setCell ⟨sb, i, none⟩ (.slice (some ⟨sg, 0, none⟩) m sc) := ⟨_, rfl⟩
    have hz : W3.heap.size = w2.heap.size := by rw [hW3]; simp [World.setCell]
    have q1 : W3.cell? ⟨P, 1, none⟩ = some (.slice (some ⟨sb, 0, none⟩) (n + 1) c) := by
      rw [hW3, World.cell?_setCell_other _ _ _ _ (by intro h; cases h; exact hsbP rfl)]
      exact d3
    have q2 : W3.cell? ⟨sb, i, none⟩ = some (.slice (some ⟨sg, 0, none⟩) m sc) := by
      rw [hW3]
      exact World.cell?_setCell_same' _ _ _ (by rw [d1]; rfl)
    have HL3 : Hid (0 < m → PP (.returned (.bool true)) W3) := Lib.hid (fun h => by rw [hW3]; exact HL.out _ HT.out h)
    have HSH3 : Hid (∀ W, m = 0 → Below W3.heap.size W3 W → Calls Try.prog 113 #[.slice (some ⟨sb, 0, none⟩) (n + 1) c, .int .i64 i, .int .i64 ((i : Int) + 1)] W fun e w' => e = .returned (.slice (some ⟨sb, 0, none⟩) n c) ∧ w'.cell? ⟨P, 1, none⟩ = some (.slice (some ⟨sb, 0, none⟩) (n + 1) c) ∧ w'.frozen? ⟨P, 1, none⟩ = false ∧
      Hid (PP (.returned (.bool true)) (w'.setCell ⟨P, 1, none⟩ (.slice (some ⟨sb, 0, none⟩) n c)))) := Lib.hid (fun W h0 hW => HSH.out w2 W HT.out h0 (by rw [← hW3, ← hz]; exact hW))
    rw [← hW3]
    clear hW3 HL HSH HD HT d1 d3 hz c1 c2
    by_cases hm0 : m = 0
    · have z1 : ((m : Int) == 0) = true := by rw [beq_iff_eq]; omega
      subst hm0
      go_wp2_with (go_at_call 113; refine (HSH3.out _ rfl (by first | exact Below.refl _ _ | exact (Below.refl _ _).drew)).mono ?_; rintro e w5 ⟨rfl, d1, d2, HP⟩)
      all_goals exact HP.out
    · have z1 : ((m : Int) == 0) = false := by rw [beq_eq_false_iff_ne]; omega
      have z2 : ¬ (m : Int) = 0 := by omega
      go_wp2
      exact HL3.out (by omega)
end Go.Proofs.Ytnnmigglcpkomaa.Dm
