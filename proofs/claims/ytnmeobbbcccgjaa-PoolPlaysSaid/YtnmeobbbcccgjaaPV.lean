/- The law's 'does': Flush, Unpin, and Pin where no page is new. -/
import Derived.Test.YtnmeobbbcccgjaaPU
set_option maxRecDepth 100000
namespace Go.Proofs.Ytnmeobbbcccgjaa
open Go Go.RowKit

theorem box_kept {S : Nat → Prop} {w W : World} {o : Obj} (h : ∀ k, S k → k < w.heap.size) (hk : Kept S (w.alloc o) W) : W.heap[w.heap.size]? = some o := by
  rw [hk.block w.heap.size (by simp) (fun hs => by have := h _ hs; omega)]
  exact heap_alloc_new w o
theorem box_cells {W : World} {b : Nat} {x : It} (h : W.heap[b]? = some (opObj x)) : W.cell? ⟨b, 0, none⟩ = some (.int .i64 x.k) ∧ W.cell? ⟨b, 1, none⟩ = some (.int .i64 x.f) ∧ W.cell? ⟨b, 2, none⟩ = some (.int .i64 x.n) ∧ W.cell? ⟨b, 3, none⟩ = some (.string x.s) := by
  unfold opObj at h
  exact ⟨by rw [Lib.cell_of_heap h]; rfl, by rw [Lib.cell_of_heap h]; rfl, by rw [Lib.cell_of_heap h]; rfl, by rw [Lib.cell_of_heap h]; rfl⟩

section
variable {B p d g n N N' : Nat} {S S' T T' : Nat → Prop} {L L' : List Pg} {C C' : Nat → List UInt8} {P P' : Nat → Nat} {w w' w1 w2 : World}
/-- The count of a page's pins: where it lies, and what a store there leaves. -/
theorem PgAt.pinsAt (h : PgAt T g n L w) {i : Nat} {e : Pg} (hi : L[i]? = some e) : ∃ b c, w.cell? ⟨g, 3, none⟩ = some (.slice (some ⟨b, 0, none⟩) L.length c) ∧ L.length ≤ c ∧ w.cell? ⟨b, i, none⟩ = some (.int .i64 e.pins) ∧ w.frozen? ⟨b, i, none⟩ = false ∧
    ∀ k : Nat, PgAt T g n (L.set i { e with pins := k }) (w.setCell ⟨b, i, none⟩ (.int .i64 k)) ∧ Kept T w (w.setCell ⟨b, i, none⟩ (.int .i64 k)) := by
  obtain ⟨va, vb, vp, bs, h⟩ := h
  have hil : i < L.length := (List.getElem?_eq_some_iff.1 hi).1
  have c3 := h.c3
  obtain ⟨a, c, rfl, hlc, hsh⟩ := row_shape h.pins
  rcases hsh with h0 | ⟨b, rfl, hob, hbl, hc, hfr⟩
  · omega
  · refine ⟨b, c, c3, hlc, hc i _ (by simp [natVals, hi]), hfr i, fun k => ⟨?_, Kept.setCell T w (h.footP b hob) _⟩⟩
    obtain ⟨curP, hbP⟩ := row_block h.pins hob
    have hfar : ∀ j, j ≠ b → (w.setCell ⟨b, i, none⟩ (.int .i64 k)).heap[j]? = w.heap[j]? := fun j hj => Below.heap_setCell _ _ _ _ hj
    have hst := (World.ownsRow.stored h.pins i (.int .i64 k)).1
    have hln : (L.set i { e with pins := k }).length = L.length := by simp
    refine ⟨va, vb, .slice (some ⟨b, 0, none⟩) L.length c, bs, h.own, (hfar g (fun e => block_ne h.blk hbP (by decide) e)).trans h.blk, ?_, ?_, ?_, fun j b' f hj hf => ?_, h.nodup, h.footA, h.footB, h.footP, h.footR, h.ap⟩
    · rw [hln, map_page_set (e' := { e with pins := k }) hi rfl]
      exact ownsRow_of_block h.at_ (fun j hj => hfar j (fun e => h.ap j hj (e ▸ hob)))
    · rw [hln]
      refine ownsRow_of_block h.rows (fun j hj => hfar j (fun e => ?_))
      obtain ⟨cB, hB⟩ := row_block h.rows hj
      exact block_ne hB hbP (by decide) e
    · rw [hln]
      have : natVals ((L.set i { e with pins := k }).map (·.pins)) = (natVals (L.map (·.pins))).set i (.int .i64 k) := by
        simp [natVals, List.map_set]
      rw [this]
      exact hst
    · have hf' : L[j]? = some f ∨ ∃ f0, L[j]? = some f0 ∧ f.bytes = f0.bytes := by
        rw [List.getElem?_set] at hf
        by_cases hij : i = j
        · subst hij
          rw [if_pos rfl, if_pos hil] at hf
          cases hf
          exact .inr ⟨e, hi, rfl⟩
        · rw [if_neg hij] at hf; exact .inl hf
      have hrow : w.heap[b']? = some (.cells (Lib.byteCells f.bytes).toArray 5 (0, 0)) := by
        rcases hf' with h1 | ⟨f0, h1, h2⟩
        · exact h.bytes j b' f hj h1
        · rw [h2]; exact h.bytes j b' f0 hj h1
      rw [hfar b' (fun e => block_ne hrow hbP (by decide) e)]
      exact hrow

/-- Behind a turn of the pool, then of the law's pages. -/
theorem both_mk (h : Both B S T p d g n L C P N w) (ht : Turn S w S' w1) (hst : PoolSt B S' p d n C' P' N' w1) (hpg : PgAt T' g n L' w2) (hk : Kept T w1 w2) (hT : ∀ k, T' k → (T k ∨ w1.heap.size ≤ k) ∧ k < w2.heap.size) (hr : Rel L' C' P') :
    Both B S' T' p d g n L' C' P' N' w2 ∧ Below B w w2 := by
  obtain ⟨_, h1, h2⟩ := h.pool ht
  refine ⟨⟨hst.kept hk (fun k _ hs => h1 k hs), hpg, fun k hs hT' => ?_, fun k hk' => ⟨?_, (hT k hk').2⟩, hr⟩, (h.st.toBelow ht).trans (hk.toBelow hst.size (fun k hk' => (h2 k hk').1))⟩
  · have := (hst.low k hs).2
    rcases (hT k hT').1 with h3 | h3
    · exact h1 k hs h3
    · omega
  · rcases (hT k hk').1 with h3 | h3
    · exact (h2 k h3).1
    · have := hst.size; omega
theorem both_pool (h : Both B S T p d g n L C P N w) (ht : Turn S w S' w1) (hst : PoolSt B S' p d n C' P' N' w1) (hr : Rel L C' P') : Both B S' T p d g n L C' P' N' w1 ∧ Below B w w1 :=
  both_mk h ht hst (h.pool ht).1 (Kept.refl _ _) (fun k hk => ⟨.inl hk, ((h.pool ht).2.2 k hk).2⟩) hr
end

set_option maxHeartbeats 1600000 in
theorem does_flush (B : Nat) (S T : Nat → Prop) (p d g n : Nat) (L : List Pg) (C : Nat → List UInt8) (P : Nat → Nat) (N : Nat) (x : It) (w : World) (h : Both B S T p d g n L C P N w) (hk : x.k = 4) (hN : N ≤ 4398046511104) :
    Calls Try.prog 11 #[.pointer (some ⟨g, 0, none⟩), .pointer (some ⟨p, 0, none⟩), opVal x] w (DoesPost B p d g n N w) := by
  obtain ⟨k, f, a, s⟩ := x
  simp only at hk
  subst hk
  have hb0 : Below w.heap.size w (w.alloc (opObj ⟨4, f, a, s⟩)) := (Below.refl _ _).alloc (Nat.le_refl _) _
  have h0 := h.below hb0
  obtain ⟨v, _, hfc⟩ := h0.find f
  have HF := Lib.hid hfc
  have HFL := Lib.hid (flush_st h0.st hN)
  have H0 := Lib.hid h0
  have hB0 : Below B w (w.alloc (opObj ⟨4, f, a, s⟩)) := (Below.refl _ _).alloc h.low1 _
  have HB0 := Lib.hid hB0
  unfold opVal
  unfold opObj at HF HFL H0 HB0
  simp only at HF HFL H0 HB0 ⊢
  clear hfc h0 hb0 h hB0
  go_enter Try.func11, Try.ntmps11
  go_wp2_with fail
  refine HF.out.mono ?_
  rintro e w1 ⟨rfl, hw⟩
  subst w1
  go_wp2_with fail
  all_goals refine HFL.out.mono ?_
  all_goals rintro e w1 ⟨rfl, S1, t1, h1, _⟩
  all_goals
    have hb := both_pool H0.out t1 h1 H0.out.rel
    have HE := Lib.hid (show DoesPost B p d g n N w (.returned (.bool true)) w1 from ⟨rfl, S1, T, L, C, P, hb.1.more (by omega), HB0.out.trans hb.2⟩)
    clear hb t1 h1
    go_wp2
    go_ret
    exact HE.out

set_option maxHeartbeats 1600000 in
theorem does_unpin_no (B : Nat) (S T : Nat → Prop) (p d g n : Nat) (L : List Pg) (C : Nat → List UInt8) (P : Nat → Nat) (N : Nat) (x : It) (w : World) (h : Both B S T p d g n L C P N w) (hx : x.Fits) (hk : x.k = 2) (hn : ∀ e ∈ L, (e.page : Int) = x.f → e.pins = 0) :
    Calls Try.prog 11 #[.pointer (some ⟨g, 0, none⟩), .pointer (some ⟨p, 0, none⟩), opVal x] w (DoesPost B p d g n N w) := by
  obtain ⟨k, f, a, s⟩ := x
  simp only at hk hn
  subst hk
  have hb0 : Below w.heap.size w (w.alloc (opObj ⟨2, f, a, s⟩)) := (Below.refl _ _).alloc (Nat.le_refl _) _
  have h0 := h.below hb0
  obtain ⟨v, hv, hfc⟩ := h0.find f
  have hnp : NoPins P f := by
    rcases idxAt L f with ⟨i, e, hi, rfl⟩ | hx
    · exact h.noPins0 hi (hn e (List.mem_of_getElem? hi) rfl)
    · exact h.noPins hx
  have HU := Lib.hid (unpin_st_no h0.st f (wf_of_i64 hx.2.1) hnp)
  have HF := Lib.hid hfc
  have HE := Lib.hid (show DoesPost B p d g n N w (.returned (.bool true)) (w.alloc (opObj ⟨2, f, a, s⟩)) from ⟨rfl, S, T, L, C, P, h0.more (by omega), (Below.refl _ _).alloc h.low1 _⟩)
  have hlen := h.rel.len
  rcases hv with ⟨i, e, hi, hif, rfl⟩ | ⟨_, rfl⟩
  · obtain ⟨b, c, c3, hlc, cp, _, _⟩ := h0.pg.pinsAt hi
    have hil : i < L.length := (List.getElem?_eq_some_iff.1 hi).1
    rw [hn e (List.mem_of_getElem? hi) hif] at cp
    obtain ⟨ll, hll⟩ : ∃ ll, ll = L.length := ⟨_, rfl⟩
    rw [← hll] at c3 hlc hil hlen
    unfold opVal
    unfold opObj at HF HU HE c3 cp
    simp only at HF HU HE c3 cp ⊢
    clear hfc h0 hb0 h hn hnp hi hif hll hx
    go_enter Try.func11, Try.ntmps11
    go_wp2_with fail
    refine HF.out.mono ?_
    rintro e w1 ⟨rfl, hw⟩
    subst w1
    go_wp2_with fail
    all_goals refine HU.out.mono ?_
    all_goals rintro e w1 ⟨rfl, hw⟩
    all_goals subst w1
    all_goals go_wp2
    all_goals go_ret
    all_goals exact HE.out
  · unfold opVal
    unfold opObj at HF HU HE
    simp only at HF HU HE ⊢
    clear hfc h0 hb0 h hn hnp hx hlen
    go_enter Try.func11, Try.ntmps11
    go_wp2_with fail
    refine HF.out.mono ?_
    rintro e w1 ⟨rfl, hw⟩
    subst w1
    go_wp2_with fail
    all_goals refine HU.out.mono ?_
    all_goals rintro e w1 ⟨rfl, hw⟩
    all_goals subst w1
    all_goals go_wp2
    all_goals go_ret
    all_goals exact HE.out

set_option maxHeartbeats 1600000 in
theorem does_unpin_yes (B : Nat) (S T : Nat → Prop) (p d g n : Nat) (L : List Pg) (C : Nat → List UInt8) (P : Nat → Nat) (N i : Nat) (e : Pg) (a : Int) (s : ByteArray) (w : World) (h : Both B S T p d g n L C P N w) (hi : L[i]? = some e) (hp : 0 < e.pins) (hN : N ≤ 4398046511104) :
    Calls Try.prog 11 #[.pointer (some ⟨g, 0, none⟩), .pointer (some ⟨p, 0, none⟩), opVal ⟨2, e.page, a, s⟩] w (DoesPost B p d g n N w) := by
  have hmem := List.mem_of_getElem? hi
  obtain ⟨he4, heP, heC, heb⟩ := h.rel.ent e hmem
  have hb0 : Below w.heap.size w (w.alloc (opObj ⟨2, e.page, a, s⟩)) := (Below.refl _ _).alloc (Nat.le_refl _) _
  have h0 := h.below hb0
  have HF := Lib.hid (find_yes T g n i L e _ h0.pg h0.rel.nd (fun e he => (h0.rel.ent e he).1) h0.rel.len hi)
  have HU := Lib.hid (unpin_st h0.st e.page (by omega) hN)
  have hlen := h.rel.len
  have hil : i < L.length := (List.getElem?_eq_some_iff.1 hi).1
  have hB0 : Below B w (w.alloc (opObj ⟨2, e.page, a, s⟩)) := (Below.refl _ _).alloc h.low1 _
  have hpN : e.pins ≤ N := by
    obtain ⟨fb, mb, hand, m, fr, Sd, ops, _, _, _, hV, _⟩ := h.st
    rw [← heP]; exact hV.bnd _
  obtain ⟨k0, hk0⟩ : ∃ k0, e.pins = k0 + 1 := ⟨e.pins - 1, by omega⟩
  have H0 := Lib.hid h0
  have HB0 := Lib.hid hB0
  have HI := Lib.hid hi
  have HBX := Lib.hid (fun W (hk : Kept S (w.alloc (opObj ⟨2, e.page, a, s⟩)) W) => box_cells (box_kept (fun k hs => (h.st.low k hs).2) hk))
  have HREL : Hid (Rel (L.set i { e with pins := k0 }) C (upd P e.page (P e.page - 1))) := Lib.hid (by
    have h1 : Rel (L.set i { e with pins := k0 }) (upd C e.page e.bytes) (upd P e.page k0) := h.rel.set (e' := { e with pins := k0 }) hi rfl heb
    rw [show upd C e.page e.bytes = C by rw [← heC]; exact upd_self _ _] at h1
    rw [heP, hk0, Nat.add_sub_cancel]
    exact h1)
  have hz1 : (((k0 + 1 : Nat) : Int) == 0) = false := by simp; omega
  have hz2 : ((k0 : Int) + 1 == 0) = false := by simp; omega
  have hkk : (((k0 + 1 : Nat) : Int) - 1) = k0 := by omega
  have hk63 : (k0 : Int) ≤ 4398046511104 := by omega
  have HK0 := Lib.hid hk0
  unfold opVal
  unfold opObj at HF HU H0 HB0 HBX
  simp only at HF HU H0 HB0 HBX ⊢
  clear h0 hb0 h hi hp heP heC heb hB0 hpN hk0 hmem
  go_enter Try.func11, Try.ntmps11
  go_wp2_with fail
  refine HF.out.mono ?_
  rintro e' w1 ⟨rfl, hw⟩
  subst w1
  go_wp2_with fail
  refine HU.out.mono ?_
  rintro e' w1 ⟨rfl, S1, t1, h1⟩
  obtain ⟨x0, x1, x2, x3⟩ := HBX.out w1 t1.1
  obtain ⟨b, c, c3, hlc, cp, fz, hset⟩ := (H0.out.pool t1).1.pinsAt HI.out
  obtain ⟨hs1, hs2⟩ := hset k0
  have hfin := both_mk H0.out t1 h1 hs1 hs2 (fun k hk => ⟨.inl hk, by simp [World.setCell]; exact ((H0.out.pool t1).2.2 k hk).2⟩) HREL.out
  have HE := Lib.hid (show DoesPost B p d g n N w (.returned (.bool true)) (w1.setCell ⟨b, i, none⟩ (.int .i64 k0)) from ⟨rfl, S1, T, _, _, _, hfin.1, HB0.out.trans hfin.2⟩)
  rw [HK0.out] at cp
  obtain ⟨ll, hll⟩ : ∃ ll, ll = L.length := ⟨_, rfl⟩
  rw [← hll] at c3 hlc hil hlen
  clear hfin hs1 hs2 hset t1 h1 hll
  go_wp2
  all_goals go_ret
  all_goals exact HE.out
end Go.Proofs.Ytnmeobbbcccgjaa
