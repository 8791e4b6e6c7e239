/- The law's 'does': Pin of a page that was never pinned. -/
import Derived.Test.YtnmeobbbcccgjaaPZ
import Derived.Deep.RegionLaw
import Derived.Deep.DrawnRows
import Derived.Deep.DeepCutAuto
set_option maxRecDepth 100000
namespace Go.Proofs.Ytnmeobbbcccgjaa
open Go Go.RowKit

theorem made_zeros (m : Nat) : madeCells #[Value.int .u8 0] m = (Lib.byteCells (List.replicate m 0)).toArray := by
  apply Array.ext
  · rw [size_madeCells]; simp [Lib.byteCells]
  · intro j h1 h2
    simp [madeCells, Lib.byteCells, Nat.mod_one]

/-- 'make([]byte, size)'. -/
theorem makeRow (W : World) : (Instr.makeSlice 44 (.int .i64 512) (.int .i64 512)).run Try.prog W = .ok (rowVal W.heap.size) (W.alloc (.cells (Lib.byteCells (List.replicate 512 0)).toArray 5)) := by
  obtain ⟨i, hi, hz, hs, hby⟩ := info_parts infoByte
  have h := run_make (P := Try.prog) W 44 5 i _ Try.underlying44 hi hz .i64 .i64 512 512 (by omega) (by omega) (by rw [hby]; omega) (by omega)
  rw [hs] at h
  have e : madeCells (Value.int .u8 0).cells ((512 : Int).toNat * 1) = (Lib.byteCells (List.replicate 512 0)).toArray := made_zeros 512
  rw [e] at h
  exact h

theorem PgF.bound {T : Nat → Prop} {g n : Nat} {L : List Pg} {va vb vp : Value} {bs : List Nat} {w : World} (h : PgF T g n L va vb vp bs w) : PgF (fun k => T k ∧ k < w.heap.size) g n L va vb vp bs w :=
  ⟨⟨h.own, h.lt⟩, h.blk, h.at_, h.rows, h.pins, h.bytes, h.nodup, fun _ hk => h.blocks (.inr (.inl hk)), fun _ hk => h.blocks (.inr (.inr (.inl hk))), fun _ hk => h.blocks (.inr (.inr (.inr (.inl hk)))), fun _ hb => h.blocks (.inr (.inr (.inr (.inr hb)))), h.ap⟩

/-- An append, as a step of a region that draws its order, out of its run. -/
theorem step_append_run {ops : Array Oper} {o : Oper} {a : Act} {K : Act → World → Prop} {Q : Exit → Act → World → Prop} {E : Prop} {w w' : World} (hgd : o.guard = none) (s x : Operand) (t : TypeId)
    (ho : o.op = .call { callee := .builtin .append, args := #[s, x], argTypes := #[t, t] }) (sv xv v : Value) (hs : a.eval s = sv) (hx : a.eval x = xv) (hr : (Builtin.append_ #[t, t] o.type #[sv, xv]).run Try.prog w = .ok v w') (h : K (a.put o.dst v) w') :
    if Region.wanted o (yielded ops a.tmps) = true then Oper.wp Try.prog o a w K Q else E := by
  have hw : Region.wanted o (yielded ops a.tmps) = true := by simp [Region.wanted, hgd]
  rw [if_pos hw]
  unfold Oper.wp
  simp [execOp, ho, resolve, invoke, builtin, hs, hx, hr, Result.andThen]
  rw [Oper.upon_value]
  exact h

set_option maxHeartbeats 800000 in
theorem does_pin_new (B : Nat) (S T : Nat → Prop) (p d g n : Nat) (L : List Pg) (C : Nat → List UInt8) (P : Nat → Nat) (N q : Nat) (a : Int) (s : ByteArray) (w : World) (h : Both B S T p d g n L C P N w) (hq : q < 4096) (hno : ∀ e ∈ L, e.page ≠ q) (hf : pinnedN P ≠ n) (hN : N ≤ 4398046511104) :
    Calls Try.prog 11 #[.pointer (some ⟨g, 0, none⟩), .pointer (some ⟨p, 0, none⟩), opVal ⟨1, q, a, s⟩] w (DoesPost B p d g n N w) := by
  have hP0 := (h.rel.oth q hno).1
  have hb0 : Below w.heap.size w (w.alloc (opObj ⟨1, q, a, s⟩)) := (Below.refl _ _).alloc (Nat.le_refl _) _
  have h0 := h.below hb0
  have HF := Lib.hid (find_no T g n L q _ h0.pg (fun e he => ⟨(h0.rel.ent e he).1, fun hc => hno e he (by omega)⟩) h0.rel.len)
  have HP := Lib.hid (pin_ok h0.st hN q hq (fun hc => hf hc.2))
  have hlen := h.rel.len
  have HPN := Lib.hid (fun (W : World) (hW : PgAt T g n L W) => lawPinned_any T g n L W hW hlen)
  have hB0 : Below B w (w.alloc (opObj ⟨1, q, a, s⟩)) := (Below.refl _ _).alloc h.low1 _
  have H0 := Lib.hid h0
  have HB0 := Lib.hid hB0
  have HBX := Lib.hid (fun W (hk : Kept S (w.alloc (opObj ⟨1, q, a, s⟩)) W) => box_kept (fun k hs => (h.st.low k hs).2) hk)
  have HLT := Lib.hid (fun k (hk : T k) => (h.low k hk).2)
  have HREL : Hid (Rel (L ++ [⟨q, List.replicate 512 0, 1⟩]) C (upd P q (P q + 1))) := Lib.hid (by rw [hP0]; exact h.rel.add hq hno)
  obtain ⟨pl, hpl⟩ : ∃ pl, pl = pinL L := ⟨_, rfl⟩
  have hplf : ((pl : Int) == (n : Int)) = false := by
    have := h.rel.pin
    simp; omega
  rw [← hpl] at HPN
  have hq0 : (0 : Int) ≤ q := by omega
  have hq1 : (q : Int) < 4096 := by omega
  obtain ⟨ll, hll⟩ : ∃ ll, ll = L.length := ⟨_, rfl⟩
  rw [← hll] at hlen
  have HLL := Lib.hid hll
  unfold opVal
  unfold opObj at HF HP H0 HB0 HBX
  simp only at HF HP H0 HB0 HBX ⊢
  clear h0 hb0 h hB0 hf hpl hP0 hno hll
  go_enter Try.func11, Try.ntmps11
  go_wp2_with fail
  refine HF.out.mono ?_
  rintro e' w1 ⟨rfl, hw⟩
  subst w1
  go_wp2_with fail
  refine HP.out.mono ?_
  rintro e' w1 ⟨rfl, S1, t1, h1⟩
  have hbx := HBX.out w1 t1.1
  obtain ⟨x0, x1, x2, x3⟩ := box_cells (x := ⟨1, q, a, s⟩) hbx
  have hpg1 := (H0.out.pool t1).1
  have HPG := Lib.hid hpg1
  obtain ⟨va, vb, vp, bs, hpf⟩ := hpg1
  have c0 := hpf.c0
  have HT1 := Lib.hid t1; have H1 := Lib.hid h1
  have HX1 := Lib.hid hpf.toX
  have HBB := Lib.hid hbx
  clear hpf t1 h1 hbx
  go_wp2
  go_quiet ((go_at_call 28; exact Calls.quiet_of_same (HPN.out _ (HPG.out.drewN _))))
  obtain ⟨W, hW⟩ : ∃ W, W = w1.drewN nq := ⟨_, rfl⟩
  rw [← hW]
  have hWb : Below w1.heap.size w1 W := by rw [hW]; exact ⟨rfl, rfl, rfl, Nat.le_refl _, fun _ _ => rfl⟩
  have hWz : W.heap.size = w1.heap.size := by rw [hW]; rfl
  have HWB := Lib.hid hWb
  have HWZ := Lib.hid hWz
  have hX2 : PgX (More T w1.heap.size) g n (L.map (·.page)) (L.map (·.bytes)) (L.map (·.pins)) va vb vp bs W := (HX1.out.below hWb).mono (fun k hk => .inl hk)
  have hbW : W.heap[w.heap.size]? = some (opObj ⟨1, q, a, s⟩) := by rw [hWb.block _ (Array.getElem?_eq_some_iff.1 HBB.out).1]; exact HBB.out
  clear hW x0 x1 x2 x3 c0 hWb hWz
  obtain ⟨y0, y1, y2, y3⟩ := box_cells (x := ⟨1, q, a, s⟩) hbW
  have HBW := Lib.hid hbW; clear hbW
  -- the number of pages
  obtain ⟨aA, cA, hva, hlA, _⟩ := row_shape hX2.at_
  rw [List.length_map, ← HLL.out] at hva hlA
  have d1 : W.cell? ⟨g, 1, none⟩ = some (.slice aA ll cA) := by rw [Lib.cell_of_heap hX2.blk, ← hva]; rfl
  -- the first append
  have hXa : PgX (More T w1.heap.size) g n (L.map (·.page)) (L.map (·.bytes)) (L.map (·.pins)) va vb vp bs (W.drew.alloc (.cells #[.int .i64 q] 3)) := hX2.below (((Below.refl _ W).drew).alloc (Nat.le_refl _) _)
  have hcx : (W.drew.alloc (.cells #[.int .i64 q] 3)).cell? ⟨W.heap.size, 0, none⟩ = some (.int .i64 q) := by
    have := heap_alloc_new W.drew (.cells #[.int .i64 q] 3)
    rw [show W.drew.heap.size = W.heap.size from rfl] at this
    rw [Lib.cell_of_heap this]; rfl
  obtain ⟨va', w2, hr2, ho2, hG2⟩ := append_nat (W.drew.alloc (.cells #[.int .i64 q] 3)) va (L.map (·.page)) q hXa.at_ (by rw [List.length_map, ← HLL.out]; omega) ⟨W.heap.size, 0, none⟩ 1 hcx 31
  rw [hva] at hr2
  have ho2' := ho2
  rw [List.length_map, ← HLL.out] at ho2'
  obtain ⟨aA', cA', hva', hlA', _⟩ := row_shape ho2'
  subst hva'
  clear ho2'
  obtain ⟨hX3, hK3⟩ := hXa.pushA (fun k hk => .inr (by simp at hk; have := HWZ.out; omega)) hG2 ho2
  have e1 : w2.cell? ⟨g, 1, none⟩ = some (.slice aA ll cA) := by
    have hgA : va.ownBlock ≠ some g := fun e => by obtain ⟨c, hc⟩ := row_block hXa.at_ e; exact block_ne hXa.blk hc (by decide) rfl
    rw [Lib.cell_of_heap ((hG2.1.block g hXa.lt (fun e => hgA e.symm)).trans hXa.blk), ← hva]; rfl
  have f1 : w2.frozen? ⟨g, 1, none⟩ = false := by
    have hgA : va.ownBlock ≠ some g := fun e => by obtain ⟨c, hc⟩ := row_block hXa.at_ e; exact block_ne hXa.blk hc (by decide) rfl
    exact Lib.frozen_of_heap ((hG2.1.block g hXa.lt (fun e => hgA e.symm)).trans hXa.blk) 1
  have hbox2 : w2.heap[w.heap.size]? = some (opObj ⟨1, q, a, s⟩) := by
    have hbl := (Array.getElem?_eq_some_iff.1 HBW.out).1
    rw [hG2.1.block w.heap.size (by simp; omega) (fun e => by obtain ⟨c, hc⟩ := row_block hX2.at_ e.symm; exact block_ne HBW.out hc (by decide) rfl), Below.heap_alloc W.drew _ _ hbl]
    exact HBW.out
  have g1 := (box_cells (x := ⟨1, q, a, s⟩) hbox2).2.1
  have HX3 := Lib.hid hX3; have HK3 := Lib.hid hK3; have HBOX2 := Lib.hid hbox2; have HXa := Lib.hid hXa; have HG2 := Lib.hid hG2; have HO2 := Lib.hid ho2; have HX2 := Lib.hid hX2; have HVA := Lib.hid hva
  clear hX3 hK3 hbox2 hXa hG2 ho2 hX2 hva hcx
  simp only at g1 y0 y1 y2 y3
  have hgl : g < W.heap.size := HX2.out.lt
  have hbl : w.heap.size < W.heap.size := (Array.getElem?_eq_some_iff.1 HBW.out).1
  have hr2' : (Builtin.append_ #[31, 31] 31 #[.slice aA ll cA, .slice (some ⟨W.heap.size, 0, none⟩) 1 1]).run Try.prog ((W.alloc (.cells #[.int .i64 q] 3)).drew) = .ok (.slice aA' (ll + 1) cA') w2 := hr2
  clear hr2
  have HR2 := Lib.hid hr2'; clear hr2'
  go_upto_region 12 with fail
  go_cut [7] (fun k wx => k = .int .i64 ll ∧ wx = w2.setCell ⟨g, 1, none⟩ (.slice aA' (ll + 1) cA'))
  case first =>
    go_region_law (refine step_append_run rfl _ _ 31 rfl _ _ _ (by rfl) (by rfl) HR2.out ?_)
    all_goals go_wp2_with fail
    all_goals go_meet
    all_goals exact ⟨rfl, rfl⟩
  case rest =>
    obtain ⟨rfl, hw3⟩ := hcut
    obtain ⟨w3, rfl⟩ : ∃ w3 : World, w3 = wc := ⟨_, rfl⟩
    rw [← hw3] at HX3 HK3
    have hx3 := HX3.out
    have hbox3 : w3.heap[w.heap.size]? = some (opObj ⟨1, q, a, s⟩) := by
      rw [hw3, Below.heap_setCell _ _ _ _ (block_ne (show W.heap[w.heap.size]? = some (.cells _ 37 (0, 0)) from HBW.out) HX2.out.blk (by decide))]
      exact HBOX2.out
    have HW3 := Lib.hid hw3; clear hw3
    obtain ⟨aB, cB, hvb, hlB, _⟩ := row_shape hx3.rows
    rw [List.length_map, ← HLL.out] at hvb hlB
    have d2 : w3.cell? ⟨g, 2, none⟩ = some (.slice aB ll cB) := by rw [Lib.cell_of_heap hx3.blk, ← hvb]; rfl
    have hgl3 : g < w3.heap.size := hx3.lt
    obtain ⟨Z, hZ⟩ : ∃ Z, Z = (Lib.byteCells (List.replicate 512 0)).toArray := ⟨_, rfl⟩
    have hmk := makeRow
    unfold rowVal at hmk
    rw [← hZ] at hmk
    have hXb : PgX (More T w1.heap.size) g n (L.map (·.page) ++ [q]) (L.map (·.bytes)) (L.map (·.pins)) (.slice aA' (ll + 1) cA') vb vp bs (((w3.alloc (.cells Z 5)).alloc (.cells #[rowVal w3.heap.size] 44)).drew) :=
      hx3.below ((((Below.refl _ w3).alloc (Nat.le_refl _) _).alloc (by simp) _).drew)
    have hcr : (((w3.alloc (.cells Z 5)).alloc (.cells #[rowVal w3.heap.size] 44)).drew).cell? ⟨w3.heap.size + 1, 0, none⟩ = some (rowVal w3.heap.size) := by
      have := heap_alloc_new (w3.alloc (.cells Z 5)) (.cells #[rowVal w3.heap.size] 44)
      rw [World.size_alloc] at this
      have h2 := Lib.cell_of_heap (w := ((w3.alloc (.cells Z 5)).alloc (.cells #[rowVal w3.heap.size] 44)).drew) this 0
      rw [h2]; rfl
    obtain ⟨vb', w4, hr4, ho4, hG4⟩ := append_row _ vb bs (L.map (·.bytes)).length w3.heap.size hXb.rows (by rw [List.length_map, ← HLL.out]; omega) ⟨w3.heap.size + 1, 0, none⟩ 1 hcr 32
    rw [hvb] at hr4
    have ho4' := ho4
    rw [List.length_map, ← HLL.out] at ho4'
    obtain ⟨aB', cB', hvb', hlB', _⟩ := row_shape ho4'
    subst hvb'
    clear ho4'
    have hbrow : (((w3.alloc (.cells Z 5)).alloc (.cells #[rowVal w3.heap.size] 44)).drew).heap[w3.heap.size]? = some (.cells (Lib.byteCells (List.replicate 512 0)).toArray 5 (0, 0)) := by
      rw [← hZ]
      exact (Below.heap_alloc _ _ _ (by simp)).trans (heap_alloc_new w3 _)
    have hbnew : w3.heap.size ∉ bs := fun hb => by
      obtain ⟨r, hr⟩ := hx3.rowAt hb
      exact Nat.lt_irrefl _ (Array.getElem?_eq_some_iff.1 hr).1
    have hwz : w1.heap.size ≤ w3.heap.size := by
      have h1 := HK3.out.size
      have h2 := HWZ.out
      simp at h1
      omega
    obtain ⟨hX5, hK5⟩ := hXb.pushB (fun k hk => .inr (by simp at hk; omega)) hbrow hbnew (.inr hwz) hG4 ho4
    have hgB : vb.ownBlock ≠ some g := fun e => by obtain ⟨c, hc⟩ := row_block hXb.rows e; exact block_ne hXb.blk hc (by decide) rfl
    have hg4 := (hG4.1.block g hXb.lt (fun e => hgB e.symm)).trans hXb.blk
    have e2 : w4.frozen? ⟨g, 2, none⟩ = false := Lib.frozen_of_heap hg4 2
    have e3 : w4.cell? ⟨g, 2, none⟩ = some (.slice aB ll cB) := by rw [Lib.cell_of_heap hg4, ← hvb]; rfl
    have hbox4 : w4.heap[w.heap.size]? = some (opObj ⟨1, q, a, s⟩) := by
      have hbl3 := (Array.getElem?_eq_some_iff.1 hbox3).1
      rw [hG4.1.block w.heap.size (by simp; omega) (fun e => by obtain ⟨c, hc⟩ := row_block hx3.rows e.symm; exact block_ne hbox3 hc (by decide) rfl)]
      refine ((Below.heap_alloc _ _ _ (by simp; omega)).trans (Below.heap_alloc _ _ _ hbl3)).trans hbox3
    have HX5 := Lib.hid hX5; have HK5 := Lib.hid hK5; have HBOX4 := Lib.hid hbox4; have HBOX3 := Lib.hid hbox3; have HG4 := Lib.hid hG4
    have HR4 := Lib.hid hr4; have HVB := Lib.hid hvb; have HZ := Lib.hid hZ; have HWZ3 := Lib.hid hwz
    have HX3' := Lib.hid hx3
    clear hX5 hK5 hbox4 hbox3 hr4 hvb hZ hG4 ho4 hbrow hbnew hwz hcr hXb hg4 hx3 hgB
    go_upto_region 13 with fail
    go_cut [7] (fun k wx => k = .int .i64 ll ∧ wx = w4.setCell ⟨g, 2, none⟩ (.slice aB' (ll + 1) cB'))
    case first =>
      go_region_law (refine step_append_run rfl _ _ 32 rfl _ _ _ (by rfl) (by rfl) HR4.out ?_)
      all_goals go_wp2_with fail
      all_goals go_meet
      all_goals exact ⟨rfl, rfl⟩
    case rest =>
      obtain ⟨rfl, hw5⟩ := hcut
      obtain ⟨w5, rfl⟩ : ∃ w5 : World, w5 = wc := ⟨_, rfl⟩
      rw [← hw5] at HX5 HK5
      have hx5 := HX5.out
      have hbox5 : w5.heap[w.heap.size]? = some (opObj ⟨1, q, a, s⟩) := by
        rw [hw5, Below.heap_setCell _ _ _ _ (block_ne (show w3.heap[w.heap.size]? = some (.cells _ 37 (0, 0)) from HBOX3.out) HX3'.out.blk (by decide))]
        exact HBOX4.out
      clear hw5
      obtain ⟨aP, cP, hvp, hlP, _⟩ := row_shape hx5.pins
      rw [List.length_map, ← HLL.out] at hvp hlP
      have d3 : w5.cell? ⟨g, 3, none⟩ = some (.slice aP ll cP) := by rw [Lib.cell_of_heap hx5.blk, ← hvp]; rfl
      have hgl5 : g < w5.heap.size := hx5.lt
      have hXp : PgX (More T w1.heap.size) g n (L.map (·.page) ++ [q]) (L.map (·.bytes) ++ [List.replicate 512 0]) (L.map (·.pins)) (.slice aA' (ll + 1) cA') (.slice aB' (ll + 1) cB') vp (bs ++ [w3.heap.size]) (w5.alloc (.cells #[.int .i64 0] 3)) :=
        hx5.below ((Below.refl _ w5).alloc (Nat.le_refl _) _)
      have hcz : (w5.alloc (.cells #[.int .i64 0] 3)).cell? ⟨w5.heap.size, 0, none⟩ = some (.int .i64 (0 : Nat)) := by rw [Lib.cell_of_heap (heap_alloc_new w5 _)]; rfl
      obtain ⟨vp', w6, hr6, ho6, hG6⟩ := append_nat _ vp (L.map (·.pins)) 0 hXp.pins (by rw [List.length_map, ← HLL.out]; omega) ⟨w5.heap.size, 0, none⟩ 1 hcz 31
      rw [hvp] at hr6
      have ho6' := ho6
      rw [List.length_map, ← HLL.out] at ho6'
      obtain ⟨aP', cP', hvp', hlP', hsh6⟩ := row_shape ho6'
      subst hvp'
      have hwz5 : w1.heap.size ≤ w5.heap.size := by
        have h1 := HK5.out.size
        have h2 := HWZ3.out
        simp at h1
        omega
      obtain ⟨hX7, hK7⟩ := hXp.pushP (fun k hk => .inr (by simp at hk; omega)) hG6 ho6
      have hgP : vp.ownBlock ≠ some g := fun e => by obtain ⟨c, hc⟩ := row_block hXp.pins e; exact block_ne hXp.blk hc (by decide) rfl
      have hg6 := (hG6.1.block g hXp.lt (fun e => hgP e.symm)).trans hXp.blk
      have e4 : w6.frozen? ⟨g, 3, none⟩ = false := Lib.frozen_of_heap hg6 3
      have e5 : w6.cell? ⟨g, 3, none⟩ = some (.slice aP ll cP) := by rw [Lib.cell_of_heap hg6, ← hvp]; rfl
      -- the new page, pinned once
      have hF7 : PgF (More T w1.heap.size) g n (L ++ [⟨q, List.replicate 512 0, 0⟩]) (.slice aA' (ll + 1) cA') (.slice aB' (ll + 1) cB') (.slice aP' (ll + 1) cP') (bs ++ [w3.heap.size]) (w6.setCell ⟨g, 3, none⟩ (.slice aP' (ll + 1) cP')) := by
        refine PgX.toF ?_
        simp only [List.map_append, List.map_cons, List.map_nil]
        exact hX7
      obtain ⟨W7, hW7⟩ : ∃ W7, W7 = w6.setCell ⟨g, 3, none⟩ (.slice aP' (ll + 1) cP') := ⟨_, rfl⟩
      rw [← hW7] at hF7 hK7
      have hlast : (L ++ [(⟨q, List.replicate 512 0, 0⟩ : Pg)])[ll]? = some ⟨q, List.replicate 512 0, 0⟩ := by
        rw [List.getElem?_append_right (by rw [HLL.out]; exact Nat.le_refl _), HLL.out]; simp
      obtain ⟨bP, cP7, k3, hlc7, cp7, fz7, hset⟩ := (show PgAt (fun k => More T w1.heap.size k ∧ k < W7.heap.size) g n _ W7 from ⟨_, _, _, _, hF7.bound⟩).pinsAt hlast
      obtain ⟨hs1, hs2⟩ := hset 1
      have hLset : (L ++ [(⟨q, List.replicate 512 0, 0⟩ : Pg)]).set ll { (⟨q, List.replicate 512 0, 0⟩ : Pg) with pins := 1 } = L ++ [⟨q, List.replicate 512 0, 1⟩] := by
        rw [HLL.out, List.set_append_right _ _ (Nat.le_refl _)]; simp
      rw [hLset] at hs1
      have hkall : Kept (More T w1.heap.size) w1 (W7.setCell ⟨bP, ll, none⟩ (.int .i64 (1 : Nat))) := by
        have k1 : Kept (More T w1.heap.size) w1 W := Kept.ofBelow HWB.out
        have k2 : Kept (More T w1.heap.size) W (W.drew.alloc (.cells #[.int .i64 q] 3)) := Kept.ofBelow (((Below.refl _ W).drew).alloc (Nat.le_refl _) _)
        have k4 : Kept (More T w1.heap.size) w3 (((w3.alloc (.cells Z 5)).alloc (.cells #[rowVal w3.heap.size] 44)).drew) := Kept.ofBelow ((((Below.refl _ w3).alloc (Nat.le_refl _) _).alloc (by simp) _).drew)
        have k6 : Kept (More T w1.heap.size) w5 (w5.alloc (.cells #[.int .i64 0] 3)) := Kept.ofBelow ((Below.refl _ w5).alloc (Nat.le_refl _) _)
        have one : ∀ i, More T w1.heap.size i → More T w1.heap.size i ∨ w1.heap.size ≤ i := fun _ h => .inl h
        exact (((((((k1.trans k2 one).trans HK3.out one).trans k4 one).trans HK5.out one).trans k6 one).trans hK7 one).trans (hs2.mono (fun k hk => hk.1)) one)
      have hkT : Kept T w1 (W7.setCell ⟨bP, ll, none⟩ (.int .i64 (1 : Nat))) := ⟨hkall.os, hkall.tape, hkall.output, hkall.size, fun k hk hnt => hkall.block k hk (fun hm => hm.elim hnt (by omega))⟩
      have hfin := both_mk H0.out HT1.out H1.out hs1 hkT (fun k hk => ⟨hk.1, by simp [World.setCell]; exact hk.2⟩) HREL.out
      have HE := Lib.hid (show DoesPost B p d g n N w (.returned (.bool true)) (W7.setCell ⟨bP, ll, none⟩ (.int .i64 (1 : Nat))) from ⟨rfl, _, _, _, _, _, hfin.1, HB0.out.trans hfin.2⟩)
      have k3' : W7.cell? ⟨g, 3, none⟩ = some (.slice aP' (ll + 1) cP') := hF7.c3
      have hsame : (Value.slice (some ⟨bP, 0, none⟩) (L ++ [(⟨q, List.replicate 512 0, 0⟩ : Pg)]).length cP7) = .slice aP' (ll + 1) cP' := by
        rw [k3'] at k3
        exact (Option.some.inj k3).symm
      injection hsame with q1 q2 q3
      subst q1 q3
      have hl1 : ((ll + 1 : Nat) : Int) = (ll : Int) + 1 := by omega
      have HR6 := Lib.hid hr6
      have HW7 := Lib.hid hW7.symm
      clear hfin hkT hkall hs1 hs2 hset hF7 hX7 hK7 hr6 hXp hG6 ho6 ho6' hsh6 hcz hx5 hg6 hgP hbox5 hLset hlast k3 hlc7 hW7 q2 hwz5
      have HK3' := Lib.hid k3'; have HCP := Lib.hid cp7; have HFZ := Lib.hid fz7; clear k3' cp7 fz7
      go_upto_region 15 with (at_builtin; refine Lib.wpList_append_run _ rfl _ _ 31 31 rfl _ _ rfl rfl _ _ HR6.out ?_)
      rw [HW7.out]
      have k3' := HK3'.out; have cp7 := HCP.out; have fz7 := HFZ.out
      clear d1 d2 d3 e1 e2 e3 e4 e5 f1 g1 y0 y1 y2 y3
      simp only at cp7
      go_wp2
      go_ret
      exact HE.out
end Go.Proofs.Ytnmeobbbcccgjaa
