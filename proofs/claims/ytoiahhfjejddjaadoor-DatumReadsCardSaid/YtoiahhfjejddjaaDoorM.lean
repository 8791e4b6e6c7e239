/- The contract of Parse: for every string of at most 2^47 bytes: the datum whose text it is, or none. -/
import Derived.Test.YtoiahhfjejddjaaDoorL
set_option maxRecDepth 100000
namespace Go.Proofs.YtoiahhfjejddjaaDoor
open Go Go.RowKit

/-- A datum that may be, each number of it an int. -/
def Valid (k n : Int) (t : ByteArray) (xs : List It) : Prop := dOk k n t xs = true ∧ I64 n ∧ AllI xs
/-- Whatever datum has this text is this one. -/
def DClause (s : List UInt8) (k n : Int) (t : ByteArray) (xs : List It) : Prop :=
  ∀ k' n' (t' : ByteArray) ys, Valid k' n' t' ys → s = datT k' n' t' ys → k = k' ∧ n = n' ∧ t = t' ∧ xs.map cont = ys.map cont

theorem commaT_congr : ∀ {xs ys : List It}, xs.map cont = ys.map cont → commaT xs = commaT ys
  | [], [], _ => rfl
  | [], _ :: _, h => by simp at h
  | _ :: _, [], h => by simp at h
  | x :: xs, y :: ys, h => by
    simp only [List.map_cons, List.cons.injEq, cont, Prod.mk.injEq] at h
    have hr := commaT_congr (xs := xs) (ys := ys) h.2
    rw [commaT_cons, commaT_cons, h.1.1, h.1.2.1, h.1.2.2, hr]
    have : xs = [] ↔ ys = [] := by
      have := congrArg List.length h.2
      simp at this
      constructor
      · intro e
        subst e
        cases ys with
        | nil => rfl
        | cons y ys => simp at this
      · intro e
        subst e
        cases xs with
        | nil => rfl
        | cons x xs => simp at this
    by_cases hx : xs = []
    · rw [if_pos hx, if_pos (this.1 hx)]
    · rw [if_neg hx, if_neg (fun e => hx (this.2 e))]
theorem datT_congr {k n : Int} {t : ByteArray} {xs ys : List It} (h : xs.map cont = ys.map cont) : datT k n t xs = datT k n t ys := by
  unfold datT
  rw [commaT_congr h]

theorem Valid.good {n : Int} {t : ByteArray} {ys : List It} (h : Valid 3 n t ys) : n = 0 ∧ t = ⟨#[]⟩ ∧ ys.length ≤ 8 ∧ Good ys := by
  have h1 : listOk n t ys = true := by simpa [dOk] using h.1
  obtain ⟨a, b, c, d⟩ := listOk_parts h1
  refine ⟨a, ?_, by omega, fun y hy => ⟨d y hy, h.2.2 y hy⟩⟩
  rw [ByteArray.toList_eq] at b
  apply ByteArray.ext
  apply Array.toList_inj.1
  rw [List.isEmpty_iff.1 b]
theorem Valid.item {k n : Int} {t : ByteArray} {ys : List It} (h : Valid k n t ys) (hk : k ≠ 3) : itemOk k n t 0 = true ∧ ys = [] := by
  have h1 : itemOk k n t ys.length = true := by simpa [dOk, hk] using h.1
  have h2 := itemOk_true h1
  refine ⟨itemOk_of ⟨by omega, h2.2⟩, ?_⟩
  cases ys with
  | nil => rfl
  | cons y ys => exact absurd h2.1 (by simp)

theorem ok_of_cont {xs ys : List It} (h : xs.map cont = ys.map cont) (hl : ∀ x ∈ xs, x.ll = 0) (hy : ∀ y ∈ ys, y.ok = true) : ∀ x ∈ xs, x.ok = true := by
  intro x hx
  have hm : cont x ∈ ys.map cont := by rw [← h]; exact List.mem_map.2 ⟨x, hx, rfl⟩
  obtain ⟨y, hy1, e⟩ := List.mem_map.1 hm
  have h1 := itemOk_true (hy y hy1)
  simp only [cont, Prod.mk.injEq] at e
  refine itemOk_of ⟨by rw [hl x hx]; omega, ?_⟩
  rw [← e.1, ← e.2.1, ← e.2.2]
  exact h1.2

theorem dOk_of_cont {k n : Int} {t : ByteArray} {xs ys : List It} (h : xs.map cont = ys.map cont) (hl : ∀ x ∈ xs, x.ll = 0) (hv : Valid k n t ys) : dOk k n t xs = true := by
  have hlen : xs.length = ys.length := by simpa using congrArg List.length h
  by_cases hk : k = 3
  · subst hk
    have h1 : listOk n t ys = true := by simpa [dOk] using hv.1
    obtain ⟨a, b, c, d⟩ := listOk_parts h1
    have : listOk n t xs = true := by
      simp only [listOk, Bool.and_eq_true, decide_eq_true_eq, List.all_eq_true]
      exact ⟨⟨a, b, by omega⟩, ok_of_cont h hl d⟩
    simpa [dOk] using this
  · obtain ⟨h1, rfl⟩ := hv.item hk
    have : xs = [] := by cases xs with
      | nil => rfl
      | cons x xs => simp at hlen
    subst this
    exact hv.1

theorem dclause_item {s : List UInt8} {k n : Int} {t : ByteArray} {m : Nat} (hs : ∀ c s', s = c :: s' → c ≠ 91) (h : Clause (fun _ => True) s k n t m) : DClause s k n t [] := by
  intro k' n' t' ys hv e
  by_cases hk : k' = 3
  · subst hk
    exfalso
    exact hs 91 _ (by rw [e]; rfl) rfl
  · obtain ⟨h1, rfl⟩ := hv.item hk
    rw [datT, if_neg hk] at e
    obtain ⟨q1, q2, q3, _⟩ := h k' n' t' [] trivial h1 hv.2.1 (.inl rfl) (by rw [List.append_nil]; exact e)
    exact ⟨q1, q2, q3, rfl⟩
theorem dclause_list {s : List UInt8} {k n : Int} {t : ByteArray} {xs : List It} (hs : ∃ s', s = 91 :: s') (h : LClause s k n t xs) : DClause s k n t xs := by
  intro k' n' t' ys hv e
  by_cases hk : k' = 3
  · subst hk
    obtain ⟨a, b, c, d⟩ := hv.good
    rw [datT, if_pos rfl] at e
    obtain ⟨q1, q2, q3, q4⟩ := h ys [] e d c
    exact ⟨q1, by rw [q2, a], by rw [q3, b], q4⟩
  · exfalso
    obtain ⟨h1, _⟩ := hv.item hk
    obtain ⟨s', hs⟩ := hs
    rw [datT, if_neg hk] at e
    rcases (itemOk_true h1).2 with ⟨q, _⟩ | ⟨q, _⟩
    · subst q
      obtain ⟨c', r', e', _, h91⟩ := itoa_head n'
      rw [itemT, if_pos rfl, e', hs] at e
      injection e with e _
      exact h91 e.symm
    · subst q
      rw [itemT, if_neg (by decide), hs] at e
      injection e with e _
      exact absurd e (by decide)

/-- What Parse leaves. -/
def ParsePost (s : List UInt8) (w : World) (e : Ending) (w' : World) : Prop :=
  Below w.heap.size w w' ∧
  ((∃ (k n : Int) (t : ByteArray) (a : Option Addr) (xs : List It) (lc : Nat), e = .returned (.tuple #[.agg #[.int .i64 k, .int .i64 n, .string t, .slice a xs.length lc], .int .i64 0]) ∧ Valid k n t xs ∧ Fre xs ∧ Sl w' a xs ∧ datT k n t xs = s ∧ DClause s k n t xs) ∨
   (e = .returned (.tuple #[.agg #[.int .i64 0, .int .i64 0, .string ⟨#[]⟩, .slice none 0 0], .int .i64 11]) ∧ ∀ k n t xs, Valid k n t xs → s ≠ datT k n t xs))

theorem SlG.setCell {B : Nat} {w : World} {a : Option Addr} {xs : List It} (h : SlG B w a xs) {p : Addr} (hp : p.block < B) (v : Value) : SlG B (w.setCell p v) a xs := by
  rcases h with h | ⟨b, off, h1, h2, h3, h4⟩
  · exact .inl h
  · refine .inr ⟨b, off, h1, h2, by simpa [World.setCell] using h3, fun j hj => ?_⟩
    obtain ⟨e0, e1, e2, e3⟩ := h4 j hj
    have hh : ∀ i, (w.setCell p v).cell? ⟨b, i, none⟩ = w.cell? ⟨b, i, none⟩ := fun i => World.cell?_of_block (w := w) (Below.heap_setCell _ _ _ _ (by show b ≠ p.block; omega))
    exact ⟨(hh _).trans e0, (hh _).trans e1, (hh _).trans e2, (hh _).trans e3⟩


theorem SlG.setCells {B b : Nat} {w : World} {a : Option Addr} {xs : List It} (h : SlG B w a xs) (hb : b < B) (v0 v1 v2 v3 : Value) : SlG B ((((w.setCell ⟨b, 0, none⟩ v0).setCell ⟨b, 1, none⟩ v1).setCell ⟨b, 2, none⟩ v2).setCell ⟨b, 3, none⟩ v3) a xs :=
  (((h.setCell (p := ⟨b, 0, none⟩) hb v0).setCell (p := ⟨b, 1, none⟩) hb v1).setCell (p := ⟨b, 2, none⟩) hb v2).setCell (p := ⟨b, 3, none⟩) hb v3
theorem set_cells {w1 : World} {B : Nat} {u0 u1 u2 u3 : Value} (v0 v1 v2 v3 : Value) (c0 : w1.cell? ⟨B, 0, none⟩ = some u0) (c1 : w1.cell? ⟨B, 1, none⟩ = some u1) (c2 : w1.cell? ⟨B, 2, none⟩ = some u2) (c3 : w1.cell? ⟨B, 3, none⟩ = some u3) :
    ((((w1.setCell ⟨B, 0, none⟩ v0).setCell ⟨B, 1, none⟩ v1).setCell ⟨B, 2, none⟩ v2).setCell ⟨B, 3, none⟩ v3).cell? ⟨B, 0, none⟩ = some v0 ∧
    ((((w1.setCell ⟨B, 0, none⟩ v0).setCell ⟨B, 1, none⟩ v1).setCell ⟨B, 2, none⟩ v2).setCell ⟨B, 3, none⟩ v3).cell? ⟨B, 1, none⟩ = some v1 ∧
    ((((w1.setCell ⟨B, 0, none⟩ v0).setCell ⟨B, 1, none⟩ v1).setCell ⟨B, 2, none⟩ v2).setCell ⟨B, 3, none⟩ v3).cell? ⟨B, 2, none⟩ = some v2 ∧
    ((((w1.setCell ⟨B, 0, none⟩ v0).setCell ⟨B, 1, none⟩ v1).setCell ⟨B, 2, none⟩ v2).setCell ⟨B, 3, none⟩ v3).cell? ⟨B, 3, none⟩ = some v3 := by
  refine ⟨?_, ?_, ?_, ?_⟩ <;> simp [go_sem, c0, c1, c2, c3]
theorem below_set4 {B b : Nat} {w w1 : World} (h : Below B w w1) (hb : B ≤ b) (v0 v1 v2 v3 : Value) : Below B w ((((w1.setCell ⟨b, 0, none⟩ v0).setCell ⟨b, 1, none⟩ v1).setCell ⟨b, 2, none⟩ v2).setCell ⟨b, 3, none⟩ v3) :=
  (((h.setCell (p := ⟨b, 0, none⟩) hb v0).setCell (p := ⟨b, 1, none⟩) hb v1).setCell (p := ⟨b, 2, none⟩) hb v2).setCell (p := ⟨b, 3, none⟩) hb v3
theorem size_set4 (b : Nat) (w1 : World) (v0 v1 v2 v3 : Value) : ((((w1.setCell ⟨b, 0, none⟩ v0).setCell ⟨b, 1, none⟩ v1).setCell ⟨b, 2, none⟩ v2).setCell ⟨b, 3, none⟩ v3).heap.size = w1.heap.size := by
  simp [World.setCell]

/-- What is known of the world in which Parse asks for the text of what was read. -/
structure Asked (w w1 WP : World) (k n : Int) (t : ByteArray) (a : Option Addr) (xs : List It) (lc : Nat) : Prop where
  bel : Below (w.heap.size + 1) (w.alloc (.cells #[.int .i64 0, .int .i64 0, .string ⟨#[]⟩, .slice none 0 0] 24)) WP
  low : w.heap.size < w1.heap.size
  size : w1.heap.size < WP.heap.size
  sl : Sl WP a xs
  c0 : WP.cell? ⟨w1.heap.size, 0, none⟩ = some (.int .i64 k)
  c1 : WP.cell? ⟨w1.heap.size, 1, none⟩ = some (.int .i64 n)
  c2 : WP.cell? ⟨w1.heap.size, 2, none⟩ = some (.string t)
  c3 : WP.cell? ⟨w1.heap.size, 3, none⟩ = some (.slice a xs.length lc)

theorem Asked.below {w w1 WP w3 : World} {k n : Int} {t : ByteArray} {a : Option Addr} {xs : List It} {lc : Nat} (h : Asked w w1 WP k n t a xs lc) (hb : Below WP.heap.size WP w3) : Asked w w1 w3 k n t a xs lc where
  bel := h.bel.trans (hb.mono (by have := h.low; have := h.size; omega))
  low := h.low
  size := by have := hb.size; have := h.size; omega
  sl := h.sl.below hb (Nat.le_refl _)
  c0 := (hb.cell (p := ⟨w1.heap.size, 0, none⟩) h.size).trans h.c0
  c1 := (hb.cell (p := ⟨w1.heap.size, 1, none⟩) h.size).trans h.c1
  c2 := (hb.cell (p := ⟨w1.heap.size, 2, none⟩) h.size).trans h.c2
  c3 := (hb.cell (p := ⟨w1.heap.size, 3, none⟩) h.size).trans h.c3

theorem Sl.res {w w3 : World} {a : Option Addr} {xs : List It} {B : Nat} (h : SlG B w3 a xs) (hB : w.heap.size < B) (v0 v1 v2 v3 : Value) : Sl ((((w3.setCell ⟨w.heap.size, 0, none⟩ v0).setCell ⟨w.heap.size, 1, none⟩ v1).setCell ⟨w.heap.size, 2, none⟩ v2).setCell ⟨w.heap.size, 3, none⟩ v3) a xs :=
  (h.setCells hB v0 v1 v2 v3).sl
theorem SlG.below {B C : Nat} {w w' : World} {a : Option Addr} {xs : List It} (h : SlG B w a xs) (hb : Below C w w') (hC : w.heap.size ≤ C) : SlG B w' a xs := by
  rcases h with h | ⟨b, off, h1, h2, h3, h4⟩
  · exact .inl h
  · have hs : Sl w' a xs := (Sl.below (.inr ⟨b, off, h1, h3, h4⟩) hb hC)
    rcases hs with h | ⟨b', off', e1, e3, e4⟩
    · exact .inl h
    · rw [h1] at e1
      injection e1 with e1
      injection e1 with e1 e2
      subst e1; subst e2
      exact .inr ⟨b, off, h1, h2, e3, e4⟩

theorem none_of {s : List UInt8} {k n : Int} {t : ByteArray} {xs : List It} (hc : DClause s k n t xs) (hf : Fre xs) (h : dOk k n t xs = false ∨ datT k n t xs ≠ s) : ∀ k n t xs, Valid k n t xs → s ≠ datT k n t xs := by
  intro k' n' t' ys hv e
  obtain ⟨q1, q2, q3, q4⟩ := hc k' n' t' ys hv e
  rcases h with h | h
  · have := dOk_of_cont (k := k') (n := n') (t := t') q4 (fun x hx => (hf x hx).2) hv
    rw [q1, q2, q3, this] at h
    exact Bool.noConfusion h
  · apply h
    rw [q1, q2, q3, datT_congr q4, e]

theorem Fre.allI {xs : List It} (h : Fre xs) : AllI xs := fun x hx => (h x hx).1

set_option maxHeartbeats 1600000 in
theorem parse_list (s : ByteArray) (w : World) (hL : Hid (Laid w)) (hs : s.size ≤ 140737488355328) (h0 : 0 < s.size) (b91 : ((s[0].toNat : Int) == 91) = true) (h91 : Hid (∃ s', s.data.toList = 91 :: s')) : Calls Tryd.prog 23 #[.string s] w (ParsePost s.data.toList w) := by
  have HLEN := Lib.hid (toList_size s)
  go_enter Tryd.func23, Tryd.ntmps23
  go_wp2_with fail
  refine (readItem_any _ _ (Lib.hid (hL.out.below ((Below.refl _ _).alloc (Nat.le_refl _) _) hL.out.six)) hs).mono ?_
  rintro e w1 ⟨k1, n1, t1, m1, rfl, hb1, hn1, hm1, ht1, hc1⟩
  have hz1 := hb1.size
  simp at hz1
  have HB1 := Lib.hid hb1
  clear hb1 hn1 hm1 ht1 hc1
  go_wp2_with fail
  refine (readList_any _ _ (Lib.hid (hL.out.below ((below_al _ HB1.out).alloc (by omega) _) hL.out.six)) hs (by omega) h91).mono ?_
  rintro e w2 ⟨k, n, t, a, xs, lc, m, rfl, hb2, hn, hf, hsl, hcl⟩
  have hz2 := hb2.size
  simp at hz2
  obtain ⟨c0, c1, c2, c3⟩ := box_cells (by simpa using hb2)
  obtain ⟨f0, f1, f2, f3⟩ := box_frozen (by simpa using hb2)
  have HAS : Hid (Asked w w1 ((((w2.setCell ⟨w1.heap.size, 0, none⟩ (.int .i64 k)).setCell ⟨w1.heap.size, 1, none⟩ (.int .i64 n)).setCell ⟨w1.heap.size, 2, none⟩ (.string t)).setCell ⟨w1.heap.size, 3, none⟩ (.slice a xs.length lc)) k n t a xs lc) := by
    obtain ⟨e0, e1, e2, e3⟩ := set_cells (.int .i64 k) (.int .i64 n) (.string t) (.slice a xs.length lc) c0 c1 c2 c3
    exact Lib.hid ⟨below_set4 (((show Below (w.heap.size + 1) _ w1 by simpa using HB1.out).alloc (by omega) _).trans (hb2.mono (by rw [World.size_alloc]; omega))) (by omega) _ _ _ _, by omega, by rw [size_set4]; omega, (hsl.setCells (by rw [World.size_alloc]; omega) _ _ _ _).sl, e0, e1, e2, e3⟩
  have HG : Hid (SlG (w1.heap.size + 1) ((((w2.setCell ⟨w1.heap.size, 0, none⟩ (.int .i64 k)).setCell ⟨w1.heap.size, 1, none⟩ (.int .i64 n)).setCell ⟨w1.heap.size, 2, none⟩ (.string t)).setCell ⟨w1.heap.size, 3, none⟩ (.slice a xs.length lc)) a xs) := Lib.hid (by
    have := hsl.setCells (b := w1.heap.size) (by rw [World.size_alloc]; omega) (.int .i64 k) (.int .i64 n) (.string t) (.slice a xs.length lc)
    rwa [World.size_alloc] at this)
  have HN := Lib.hid hn; have HF := Lib.hid hf; have HCL := Lib.hid (dclause_list h91.out hcl)
  clear hb2 hn hf hsl hcl
  go_wp2_with fail
  clear c0 c1 c2 c3 f0 f1 f2 f3
  cases hok : dOk k n t xs
  · have HOK := Lib.hid hok; clear hok
    have HNONE := Lib.hid (none_of HCL.out HF.out (.inl HOK.out))
    refine (print_no _ _ _ _ _ _ _ HAS.out.sl HOK.out).mono ?_
    rintro e w3 ⟨rfl, hb3⟩
    have HAS3 := Lib.hid (HAS.out.below hb3)
    clear hb3
    obtain ⟨d0, d1, d2, d3⟩ := box_cells HAS3.out.bel
    obtain ⟨g0, g1, g2, g3⟩ := box_frozen HAS3.out.bel
    go_wp2
    refine bodyPost_ret (v := .tuple #[.agg #[.int .i64 0, .int .i64 0, .string ⟨#[]⟩, .slice none 0 0], .int .i64 11]) (by simp [results, Tryd.results23, go_sem, d0, d1, d2, d3]) rfl ⟨below_res (below_al _ (by simpa using HAS3.out.bel)), .inr ⟨rfl, HNONE.out⟩⟩
  · have HOK := Lib.hid hok; clear hok
    refine (print_ok _ _ _ _ _ _ _ (hL.out.below (below_al _ (by simpa using HAS.out.bel)) hL.out.six) HAS.out.sl HOK.out HN.out HF.out.allI).mono ?_
    rintro e w3 ⟨rfl, hb3⟩
    have HAS3 := Lib.hid (HAS.out.below hb3)
    have HG3 := Lib.hid (HG.out.below hb3 (Nat.le_refl _))
    clear hb3
    obtain ⟨d0, d1, d2, d3⟩ := box_cells HAS3.out.bel
    obtain ⟨g0, g1, g2, g3⟩ := box_frozen HAS3.out.bel
    by_cases heq : datT k n t xs = s.toList
    · have hb : (datT k n t xs == s.toList) = true := by rw [beq_iff_eq]; exact heq
      have HEQ := Lib.hid heq; clear heq
      have e0 := HAS3.out.c0
      have e1 := HAS3.out.c1
      have e2 := HAS3.out.c2
      have e3 := HAS3.out.c3
      have hlow := HAS3.out.low
      go_wp2
      refine bodyPost_ret (v := .tuple #[.agg #[.int .i64 k, .int .i64 n, .string t, .slice a xs.length lc], .int .i64 0]) (by simp [results, Tryd.results23, go_sem, d0, d1, d2, d3]) rfl ⟨below_res (below_al _ (by simpa using HAS3.out.bel)), .inl ⟨k, n, t, a, xs, lc, rfl, ⟨HOK.out, HN.out, HF.out.allI⟩, HF.out, Sl.res HG3.out (by omega) _ _ _ _, by rw [HEQ.out, ByteArray.toList_eq], HCL.out⟩⟩
    · have hb : (datT k n t xs == s.toList) = false := by rw [beq_eq_false_iff_ne]; exact heq
      have HNONE := Lib.hid (none_of HCL.out HF.out (.inr (by rw [← ByteArray.toList_eq]; exact heq))); clear heq
      go_wp2
      refine bodyPost_ret (v := .tuple #[.agg #[.int .i64 0, .int .i64 0, .string ⟨#[]⟩, .slice none 0 0], .int .i64 11]) (by simp [results, Tryd.results23, go_sem, d0, d1, d2, d3]) rfl ⟨below_res (below_al _ (by simpa using HAS3.out.bel)), .inr ⟨rfl, HNONE.out⟩⟩

set_option maxHeartbeats 1600000 in
theorem parse_item (s : ByteArray) (w : World) (hL : Hid (Laid w)) (hs : s.size ≤ 140737488355328) (h91 : Hid (∀ c s', s.data.toList = c :: s' → c ≠ 91)) : Calls Tryd.prog 23 #[.string s] w (ParsePost s.data.toList w) := by
  have HLEN := Lib.hid (toList_size s)
  by_cases h0 : 0 < s.size
  · have b91 : ((s[0].toNat : Int) == 91) = false := u8_not (fun h => h91.out s[0] (s.data.toList.drop 1) (by
      have e1 : s.data.toList.drop 0 = s.data.toList[0]'(by have := HLEN.out; omega) :: s.data.toList.drop 1 := List.drop_eq_getElem_cons (by have := HLEN.out; omega)
      exact e1) h)
    go_enter Tryd.func23, Tryd.ntmps23
    go_wp2_with fail
    refine (readItem_any _ _ (Lib.hid (hL.out.below ((Below.refl _ _).alloc (Nat.le_refl _) _) hL.out.six)) hs).mono ?_
    rintro e w1 ⟨k, n, t, m1, rfl, hb1, hn, hm1, ht1, hc1⟩
    have hz1 := hb1.size
    simp at hz1
    have hzw : w.heap.size < w1.heap.size := by omega
    have HAS : Hid (Asked w w1 (w1.alloc (.cells #[.int .i64 k, .int .i64 n, .string t, .slice none 0 0] 24)) k n t none [] 0) := by
      obtain ⟨e0, e1, e2, e3⟩ := box_cells (w := w1) (wr := w1.alloc (.cells #[.int .i64 k, .int .i64 n, .string t, .slice none 0 0] 24)) (Below.refl _ _)
      exact Lib.hid ⟨(show Below (w.heap.size + 1) _ w1 by simpa using hb1).alloc (by omega) _, hzw, by rw [World.size_alloc]; omega, .inl rfl, e0, e1, e2, e3⟩
    have HN := Lib.hid hn; have HF : Hid (Fre []) := Lib.hid (fun x hx => by simp at hx); have HCL := Lib.hid (dclause_item h91.out hc1)
    clear hb1 hn hm1 ht1 hc1
    go_wp2_with fail
    cases hok : dOk k n t []
    · have HOK := Lib.hid hok; clear hok
      have HNONE := Lib.hid (none_of HCL.out HF.out (.inl HOK.out))
      refine (print_no k n t none [] 0 _ HAS.out.sl HOK.out).mono ?_
      rintro e w3 ⟨rfl, hb3⟩
      have HAS3 := Lib.hid (HAS.out.below hb3)
      clear hb3
      obtain ⟨d0, d1, d2, d3⟩ := box_cells HAS3.out.bel
      obtain ⟨g0, g1, g2, g3⟩ := box_frozen HAS3.out.bel
      go_wp2
      refine bodyPost_ret (v := .tuple #[.agg #[.int .i64 0, .int .i64 0, .string ⟨#[]⟩, .slice none 0 0], .int .i64 11]) (by simp [results, Tryd.results23, go_sem, d0, d1, d2, d3]) rfl ⟨below_res (below_al _ (by simpa using HAS3.out.bel)), .inr ⟨rfl, HNONE.out⟩⟩
    · have HOK := Lib.hid hok; clear hok
      refine (print_ok k n t none [] 0 _ (hL.out.below (below_al _ (by simpa using HAS.out.bel)) hL.out.six) HAS.out.sl HOK.out HN.out HF.out.allI).mono ?_
      rintro e w3 ⟨rfl, hb3⟩
      have HAS3 := Lib.hid (HAS.out.below hb3)
      clear hb3
      obtain ⟨d0, d1, d2, d3⟩ := box_cells HAS3.out.bel
      obtain ⟨g0, g1, g2, g3⟩ := box_frozen HAS3.out.bel
      by_cases heq : datT k n t [] = s.toList
      · have hb : (datT k n t [] == s.toList) = true := by rw [beq_iff_eq]; exact heq
        have HEQ := Lib.hid heq; clear heq
        have e0 := HAS3.out.c0
        have e1 := HAS3.out.c1
        have e2 := HAS3.out.c2
        have e3 := HAS3.out.c3
        have hlow := HAS3.out.low
        go_wp2
        refine bodyPost_ret (v := .tuple #[.agg #[.int .i64 k, .int .i64 n, .string t, .slice none 0 0], .int .i64 0]) (by simp [results, Tryd.results23, go_sem, d0, d1, d2, d3]) rfl ⟨below_res (below_al _ (by simpa using HAS3.out.bel)), .inl ⟨k, n, t, none, [], 0, rfl, ⟨HOK.out, HN.out, HF.out.allI⟩, HF.out, .inl rfl, by rw [HEQ.out, ByteArray.toList_eq], HCL.out⟩⟩
      · have hb : (datT k n t [] == s.toList) = false := by rw [beq_eq_false_iff_ne]; exact heq
        have HNONE := Lib.hid (none_of HCL.out HF.out (.inr (by rw [← ByteArray.toList_eq]; exact heq))); clear heq
        go_wp2
        refine bodyPost_ret (v := .tuple #[.agg #[.int .i64 0, .int .i64 0, .string ⟨#[]⟩, .slice none 0 0], .int .i64 11]) (by simp [results, Tryd.results23, go_sem, d0, d1, d2, d3]) rfl ⟨below_res (below_al _ (by simpa using HAS3.out.bel)), .inr ⟨rfl, HNONE.out⟩⟩
  · go_enter Tryd.func23, Tryd.ntmps23
    go_wp2_with fail
    refine (readItem_any _ _ (Lib.hid (hL.out.below ((Below.refl _ _).alloc (Nat.le_refl _) _) hL.out.six)) hs).mono ?_
    rintro e w1 ⟨k, n, t, m1, rfl, hb1, hn, hm1, ht1, hc1⟩
    have hz1 := hb1.size
    simp at hz1
    have hzw : w.heap.size < w1.heap.size := by omega
    have HAS : Hid (Asked w w1 (w1.alloc (.cells #[.int .i64 k, .int .i64 n, .string t, .slice none 0 0] 24)) k n t none [] 0) := by
      obtain ⟨e0, e1, e2, e3⟩ := box_cells (w := w1) (wr := w1.alloc (.cells #[.int .i64 k, .int .i64 n, .string t, .slice none 0 0] 24)) (Below.refl _ _)
      exact Lib.hid ⟨(show Below (w.heap.size + 1) _ w1 by simpa using hb1).alloc (by omega) _, hzw, by rw [World.size_alloc]; omega, .inl rfl, e0, e1, e2, e3⟩
    have HN := Lib.hid hn; have HF : Hid (Fre []) := Lib.hid (fun x hx => by simp at hx); have HCL := Lib.hid (dclause_item h91.out hc1)
    clear hb1 hn hm1 ht1 hc1
    go_wp2_with fail
    cases hok : dOk k n t []
    · have HOK := Lib.hid hok; clear hok
      have HNONE := Lib.hid (none_of HCL.out HF.out (.inl HOK.out))
      refine (print_no k n t none [] 0 _ HAS.out.sl HOK.out).mono ?_
      rintro e w3 ⟨rfl, hb3⟩
      have HAS3 := Lib.hid (HAS.out.below hb3)
      clear hb3
      obtain ⟨d0, d1, d2, d3⟩ := box_cells HAS3.out.bel
      obtain ⟨g0, g1, g2, g3⟩ := box_frozen HAS3.out.bel
      go_wp2
      refine bodyPost_ret (v := .tuple #[.agg #[.int .i64 0, .int .i64 0, .string ⟨#[]⟩, .slice none 0 0], .int .i64 11]) (by simp [results, Tryd.results23, go_sem, d0, d1, d2, d3]) rfl ⟨below_res (below_al _ (by simpa using HAS3.out.bel)), .inr ⟨rfl, HNONE.out⟩⟩
    · have HOK := Lib.hid hok; clear hok
      refine (print_ok k n t none [] 0 _ (hL.out.below (below_al _ (by simpa using HAS.out.bel)) hL.out.six) HAS.out.sl HOK.out HN.out HF.out.allI).mono ?_
      rintro e w3 ⟨rfl, hb3⟩
      have HAS3 := Lib.hid (HAS.out.below hb3)
      clear hb3
      obtain ⟨d0, d1, d2, d3⟩ := box_cells HAS3.out.bel
      obtain ⟨g0, g1, g2, g3⟩ := box_frozen HAS3.out.bel
      by_cases heq : datT k n t [] = s.toList
      · have hb : (datT k n t [] == s.toList) = true := by rw [beq_iff_eq]; exact heq
        have HEQ := Lib.hid heq; clear heq
        have e0 := HAS3.out.c0
        have e1 := HAS3.out.c1
        have e2 := HAS3.out.c2
        have e3 := HAS3.out.c3
        have hlow := HAS3.out.low
        go_wp2
        refine bodyPost_ret (v := .tuple #[.agg #[.int .i64 k, .int .i64 n, .string t, .slice none 0 0], .int .i64 0]) (by simp [results, Tryd.results23, go_sem, d0, d1, d2, d3]) rfl ⟨below_res (below_al _ (by simpa using HAS3.out.bel)), .inl ⟨k, n, t, none, [], 0, rfl, ⟨HOK.out, HN.out, HF.out.allI⟩, HF.out, .inl rfl, by rw [HEQ.out, ByteArray.toList_eq], HCL.out⟩⟩
      · have hb : (datT k n t [] == s.toList) = false := by rw [beq_eq_false_iff_ne]; exact heq
        have HNONE := Lib.hid (none_of HCL.out HF.out (.inr (by rw [← ByteArray.toList_eq]; exact heq))); clear heq
        go_wp2
        refine bodyPost_ret (v := .tuple #[.agg #[.int .i64 0, .int .i64 0, .string ⟨#[]⟩, .slice none 0 0], .int .i64 11]) (by simp [results, Tryd.results23, go_sem, d0, d1, d2, d3]) rfl ⟨below_res (below_al _ (by simpa using HAS3.out.bel)), .inr ⟨rfl, HNONE.out⟩⟩

theorem parse_any (s : ByteArray) (w : World) (hL : Laid w) (hs : s.size ≤ 140737488355328) : Calls Tryd.prog 23 #[.string s] w (ParsePost s.data.toList w) := by
  by_cases h : ∃ s', s.data.toList = 91 :: s'
  · obtain ⟨s', h'⟩ := h
    have hl : s.data.toList.length = s.size := rfl
    have h0 : 0 < s.size := by rw [← hl, h']; simp
    have e : s[0] = 91 := by
      have e1 : s.data.toList[0]'(by rw [h']; simp) = 91 := by simp [h']
      exact e1
    exact parse_list s w (Lib.hid hL) hs h0 (u8_is e) (Lib.hid ⟨s', h'⟩)
  · exact parse_item s w (Lib.hid hL) hs (Lib.hid (fun c s' e hc => h ⟨s', by rw [e, hc]⟩))
end Go.Proofs.YtoiahhfjejddjaaDoor
