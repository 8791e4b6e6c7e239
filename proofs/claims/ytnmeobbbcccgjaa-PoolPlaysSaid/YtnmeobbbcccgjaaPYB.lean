/- The law's 'does': Write of bytes. -/
import Derived.Test.YtnmeobbbcccgjaaPZ
set_option maxRecDepth 100000
namespace Go.Proofs.Ytnmeobbbcccgjaa
open Go Go.RowKit

section
variable {T : Nat → Prop} {g n : Nat} {L : List Pg} {w : World}
/-- A page's bytes: where they lie, and what a store there leaves. -/
theorem PgAt.bytesAt (h : PgAt T g n L w) {i : Nat} {e : Pg} (hi : L[i]? = some e) : ∃ gB c b, w.cell? ⟨g, 2, none⟩ = some (.slice (some ⟨gB, 0, none⟩) L.length c) ∧ L.length ≤ c ∧ w.cell? ⟨gB, i, none⟩ = some (rowVal b) ∧
    w.rangeAt b 0 (Lib.byteCells e.bytes) ∧ (∀ m, w.frozen? ⟨b, m, none⟩ = false) ∧
    ∀ (m : Nat) (x : UInt8), PgAt T g n (L.set i { e with bytes := e.bytes.set m x }) (w.setCell ⟨b, m, none⟩ (.int .u8 (x.toNat : Int))) ∧ Kept T w (w.setCell ⟨b, m, none⟩ (.int .u8 (x.toNat : Int))) := by
  obtain ⟨va, vb, vp, bs, h⟩ := h
  have hil : i < L.length := (List.getElem?_eq_some_iff.1 hi).1
  have c2 := h.c2
  have hlB := h.lenB
  obtain ⟨a, c, rfl, hlc, hsh⟩ := row_shape h.rows
  rcases hsh with h0 | ⟨gB, rfl, hob, hbl, hc, hfr⟩
  · omega
  · obtain ⟨b, hbi⟩ : ∃ b, bs[i]? = some b := ⟨_, List.getElem?_eq_getElem (by omega)⟩
    have hrow := h.bytes i b e hbi hi
    refine ⟨gB, c, b, c2, hlc, hc i _ (by rw [List.getElem?_map, hbi]; rfl), fun j v hv => ?_, fun m => Lib.frozen_of_heap hrow m, fun m x => ⟨?_, Kept.setCell T w (h.footR b (List.mem_of_getElem? hbi)) _⟩⟩
    · rw [Nat.zero_add, Lib.cell_of_heap hrow, ← hv]; simp
    · have hfar : ∀ j, j ≠ b → (w.setCell ⟨b, m, none⟩ (.int .u8 (x.toNat : Int))).heap[j]? = w.heap[j]? := fun j hj => Below.heap_setCell _ _ _ _ hj
      have hln : (L.set i { e with bytes := e.bytes.set m x }).length = L.length := by simp
      have hpins : (L.set i { e with bytes := e.bytes.set m x }).map (·.pins) = L.map (·.pins) := by
        apply List.ext_getElem?
        intro j
        rw [List.getElem?_map, List.getElem?_map, List.getElem?_set]
        by_cases hj : i = j
        · subst hj; rw [if_pos rfl, if_pos hil, hi]; rfl
        · rw [if_neg hj]
      refine ⟨va, .slice (some ⟨gB, 0, none⟩) L.length c, vp, bs, h.own, (hfar g (block_ne h.blk hrow (by decide))).trans h.blk, ?_, ?_, ?_, fun j b' f hj hf => ?_, h.nodup, h.footA, h.footB, h.footP, h.footR, h.ap⟩
      · rw [hln, map_page_set (e' := { e with bytes := e.bytes.set m x }) hi rfl]
        exact ownsRow_of_block h.at_ (fun j hj => hfar j (fun e => by obtain ⟨c', hc'⟩ := row_block h.at_ hj; exact block_ne hc' hrow (by decide) e))
      · rw [hln]
        exact ownsRow_of_block h.rows (fun j hj => hfar j (fun e => by obtain ⟨c', hc'⟩ := row_block h.rows hj; exact block_ne hc' hrow (by decide) e))
      · rw [hln, hpins]
        exact ownsRow_of_block h.pins (fun j hj => hfar j (fun e => by obtain ⟨c', hc'⟩ := row_block h.pins hj; exact block_ne hc' hrow (by decide) e))
      · by_cases hij : i = j
        · subst hij
          rw [hbi] at hj; cases hj
          rw [List.getElem?_set, if_pos rfl, if_pos hil] at hf
          cases hf
          simp only [World.setCell, Array.getElem?_modify, if_true, hrow, Option.map_some]
          congr 2
          apply Array.toList_inj.1
          simp [Lib.byteCells, List.map_set]
        · have hbb : b' ≠ b := fun hc' => by
            subst hc'
            obtain ⟨h1, e1⟩ := List.getElem?_eq_some_iff.1 hbi
            obtain ⟨h2, e2⟩ := List.getElem?_eq_some_iff.1 hj
            have hw := List.pairwise_iff_getElem.1 h.nodup
            rcases Nat.lt_or_gt_of_ne hij with hlt | hlt
            · exact hw i j h1 h2 hlt (by rw [e1, e2])
            · exact hw j i h2 h1 hlt (by rw [e1, e2])
          rw [List.getElem?_set, if_neg hij] at hf
          rw [hfar b' hbb]
          exact h.bytes j b' f hj hf
end

theorem splice_succ (l : List UInt8) (a : Nat) (cs : List UInt8) (j : Nat) (hj : j < cs.length) (hf : a + cs.length ≤ l.length) : (splice l a (cs.take j)).set (a + j) cs[j] = splice l a (cs.take (j + 1)) := by
  have h1 : (cs.take j).length = j := by rw [List.length_take]; omega
  have h2 : (cs.take (j + 1)).length = j + 1 := by rw [List.length_take]; omega
  have hl : (splice l a (cs.take j)).length = l.length := length_splice _ _ _ (by rw [h1]; omega)
  apply List.ext_getElem?
  intro m
  rw [List.getElem?_set, splice_get l a (cs.take j) (by rw [h1]; omega), splice_get l a (cs.take (j + 1)) (by rw [h2]; omega), h1, h2, hl]
  by_cases hm : a + j = m
  · subst hm
    rw [if_pos rfl, if_pos (by omega), if_pos (by omega), Nat.add_sub_cancel_left, List.getElem?_take, if_pos (by omega), List.getElem?_eq_getElem hj]
  · rw [if_neg hm]
    by_cases hin : a ≤ m ∧ m < a + j
    · rw [if_pos hin, if_pos (by omega), List.getElem?_take, List.getElem?_take, if_pos (by omega), if_pos (by omega)]
    · rw [if_neg hin, if_neg (by omega)]

set_option maxHeartbeats 800000 in
theorem does_write_yes (B : Nat) (S T : Nat → Prop) (p d g n : Nat) (L : List Pg) (C : Nat → List UInt8) (P : Nat → Nat) (N i : Nat) (e : Pg) (a : Nat) (s : ByteArray) (w : World) (h : Both B S T p d g n L C P N w) (hi : L[i]? = some e) (hp : 0 < e.pins) (ha : a + s.size ≤ 512) :
    Calls Try.prog 11 #[.pointer (some ⟨g, 0, none⟩), .pointer (some ⟨p, 0, none⟩), opVal ⟨3, e.page, a, s⟩] w (DoesPost B p d g n N w) := by
  have hmem := List.mem_of_getElem? hi
  obtain ⟨he4, heP, heC, heb⟩ := h.rel.ent e hmem
  have hb0 : Below w.heap.size w (w.alloc (opObj ⟨3, e.page, a, s⟩)) := (Below.refl _ _).alloc (Nat.le_refl _) _
  have h0 := h.below hb0
  have HF := Lib.hid (find_yes T g n i L e _ h0.pg h0.rel.nd (fun e he => (h0.rel.ent e he).1) h0.rel.len hi)
  have HU := Lib.hid (write_st h0.st e.page a s (by omega) ha)
  have hlen := h.rel.len
  have hil : i < L.length := (List.getElem?_eq_some_iff.1 hi).1
  have hB0 : Below B w (w.alloc (opObj ⟨3, e.page, a, s⟩)) := (Below.refl _ _).alloc h.low1 _
  have H0 := Lib.hid h0
  have HB0 := Lib.hid hB0
  have HI := Lib.hid hi
  have HBX := Lib.hid (fun W (hk : Kept S (w.alloc (opObj ⟨3, e.page, a, s⟩)) W) => box_kept (fun k hs => (h.st.low k hs).2) hk)
  have HLT := Lib.hid (fun k (hk : T k) => (h.low k hk).2)
  have hse : s.data.toList.length = s.size := rfl
  have HREL : Hid (Rel (L.set i { e with bytes := splice e.bytes a s.data.toList }) (upd C e.page (splice (C e.page) a s.data.toList)) P) := Lib.hid (by
    have h1 : Rel (L.set i { e with bytes := splice e.bytes a s.data.toList }) (upd C e.page (splice e.bytes a s.data.toList)) (upd P e.page e.pins) := h.rel.set (e' := { e with bytes := splice e.bytes a s.data.toList }) hi rfl (by
      show (splice e.bytes a s.data.toList).length = 512
      rw [length_splice _ _ _ (by rw [hse, heb]; exact ha)]; exact heb)
    rw [show upd P e.page e.pins = P by rw [← heP]; exact upd_self _ _] at h1
    rw [heC]
    exact h1)
  obtain ⟨k0, hk0⟩ : ∃ k0, k0 = e.pins := ⟨_, rfl⟩
  have hz1 : ((k0 : Int) == 0) = false := by simp; omega
  have HK0 := Lib.hid hk0
  have HEB := Lib.hid heb
  obtain ⟨ll, hll⟩ : ∃ ll, ll = L.length := ⟨_, rfl⟩
  have HLL := Lib.hid hll
  rw [← hll] at hil hlen
  have hli : (i : Int) < ll := by omega
  have hid0 : decide ((i : Int) < 0) = false := by simp
  have ha1 : ¬ ((a : Int) < 0) := by omega
  have ha2 : ¬ ((512 : Int) < a) := by omega
  have ha3 : ¬ ((512 : Int) - a < s.size) := by omega
  have ha4 : (a : Int) ≤ 512 := by omega
  have hs5 : (s.size : Int) ≤ 512 := by omega
  unfold opVal
  unfold opObj at HF HU H0 HB0 HBX
  simp only at HF HU H0 HB0 HBX ⊢
  clear h0 hb0 h hi heP heC heb hB0 hmem hk0 hll hp
  go_enter Try.func11, Try.ntmps11
  go_wp2_with fail
  refine HF.out.mono ?_
  rintro e' w1 ⟨rfl, hw⟩
  subst w1
  go_wp2_with fail
  refine HU.out.mono ?_
  rintro e' w1 ⟨rfl, S1, t1, h1⟩
  have hbx := HBX.out w1 t1.1
  obtain ⟨x0, x1, x2, x3⟩ := box_cells (x := ⟨3, e.page, a, s⟩) hbx
  simp only at x0 x1 x2 x3
  have hpg1 := (H0.out.pool t1).1
  obtain ⟨b, c, c3, hlc, cp, _, _⟩ := hpg1.pinsAt HI.out
  rw [← HK0.out] at cp
  rw [← HLL.out] at c3 hlc
  have HT1 := Lib.hid t1; have H1 := Lib.hid h1; have HPG := Lib.hid hpg1; have HBB := Lib.hid hbx
  have HPG0 : Hid (PgAt T g n (L.set i { e with bytes := splice e.bytes a (s.data.toList.take 0) }) w1) := Lib.hid (by
    rw [List.take_zero, splice_nil, show (L.set i { e with bytes := e.bytes }) = L from by
      apply List.ext_getElem?
      intro j
      rw [List.getElem?_set]
      by_cases hj : i = j
      · subst hj; rw [if_pos rfl, if_pos (by have := HLL.out; omega), HI.out]
      · rw [if_neg hj]]
    exact HPG.out)
  clear t1 h1 hpg1 hbx
  go_wp2
  go_loopw [12] (fun x wr => ∃ j : Nat, j ≤ s.size ∧ x = .int .i64 j ∧ Hid (PgAt T g n (L.set i { e with bytes := splice e.bytes a (s.data.toList.take j) }) wr) ∧ Hid (Kept T w1 wr)) (fun x _ => s.size - (intOf x).toNat)
  case atStart => exact ⟨0, by omega, rfl, HPG0, Lib.hid (Kept.refl _ _)⟩
  case round =>
    obtain ⟨j, hj, rfl, HP, HK⟩ := hrel
    have hbr : wr.heap[w.heap.size]? = some (opObj ⟨3, e.page, a, s⟩) := by
      rw [HK.out.block w.heap.size (Array.getElem?_eq_some_iff.1 HBB.out).1 (fun ht => by have := HLT.out _ ht; omega)]
      exact HBB.out
    obtain ⟨y0, y1, y2, y3⟩ := box_cells (x := ⟨3, e.page, a, s⟩) hbr
    simp only at y0 y1 y2 y3
    clear hbr
    by_cases hlt : j < s.size
    · have hLi : (L.set i { e with bytes := splice e.bytes a (s.data.toList.take j) })[i]? = some { e with bytes := splice e.bytes a (s.data.toList.take j) } := by
        rw [List.getElem?_set, if_pos rfl, if_pos (by have := HLL.out; omega)]
      have hjl : j < s.data.toList.length := hlt
      have hbl : (splice e.bytes a (s.data.toList.take j)).length = 512 := by
        rw [length_splice _ _ _ (by rw [List.length_take, HEB.out]; omega)]; exact HEB.out
      obtain ⟨gB, cB, b2, d2, hlB, dr, hrg, hfz, hset⟩ := HP.out.bytesAt hLi
      obtain ⟨hs1, hs2⟩ := hset (a + j) (s.data.toList[j])
      have hq : { ({ e with bytes := splice e.bytes a (s.data.toList.take j) } : Pg) with bytes := (splice e.bytes a (s.data.toList.take j)).set (a + j) s.data.toList[j] } = { e with bytes := splice e.bytes a (s.data.toList.take (j + 1)) } := by
        rw [splice_succ e.bytes a s.data.toList j hjl (by rw [HEB.out]; exact ha)]
      rw [List.set_set] at hs1
      simp only at hs1
      rw [splice_succ e.bytes a s.data.toList j hjl (by rw [HEB.out]; exact ha)] at hs1
      clear hq
      have hcell : ∃ u, wr.cell? ⟨b2, a + j, none⟩ = some u := by
        have := hrg (a + j) (.int .u8 ((splice e.bytes a (s.data.toList.take j))[a + j]'(by omega)).toNat) (by simp [Lib.byteCells, show a + j < (splice e.bytes a (s.data.toList.take j)).length from by omega])
        rw [Nat.zero_add] at this
        exact ⟨_, this⟩
      obtain ⟨u, hcell⟩ := hcell
      have hfz2 := hfz (a + j)
      rw [List.length_set, ← HLL.out] at d2 hlB
      unfold rowVal at dr
      have hw1 : IntKind.i64.wrap ((a : Int) + j) = (a : Int) + j := IntWalk.i64_in _ (by omega)
      have hw2 : ((a : Int) + j) < 512 := by omega
      have hw0 : (0 : Int) ≤ (a : Int) + j := by omega
      have hw3 : ((a : Int) + j).toNat = a + j := by omega
      have hsj : s.data.toList[j] = s[j]'hlt := rfl
      rw [hsj] at hs1 hs2
      have HS1 := Lib.hid hs1; have HS2 := Lib.hid hs2
      clear hs1 hs2 hset hrg hfz hLi hsj hbl
      go_wp2
      go_still_tail 16, (by kernel_rfl)
      go_wp2
      go_roundw
      case rel => exact ⟨j + 1, by omega, by go_num, Lib.hid (HS1.out.below ⟨rfl, rfl, rfl, Nat.le_refl _, fun _ _ => rfl⟩), Lib.hid ((HK.out.trans HS2.out (fun _ h => .inl h)).trans (Kept.ofBelow (S := fun _ => False) ⟨rfl, rfl, rfl, Nat.le_refl _, fun _ _ => rfl⟩) (fun _ h => h.elim))⟩
      case measure => simp [intOf]; omega
    · have hjs : j = s.size := by omega
      have hpg : PgAt T g n (L.set i { e with bytes := splice e.bytes a s.data.toList }) wr := by
        have := HP.out
        rw [hjs, List.take_of_length_le (by rw [hse]; exact Nat.le_refl _)] at this
        exact this
      have hfin := both_mk H0.out HT1.out H1.out hpg HK.out (fun k hk => ⟨.inl hk, Nat.lt_of_lt_of_le ((H0.out.pool HT1.out).2.2 k hk).2 HK.out.size⟩) HREL.out
      have HE := Lib.hid (show DoesPost B p d g n N w (.returned (.bool true)) wr from ⟨rfl, _, _, _, _, _, hfin.1, HB0.out.trans hfin.2⟩)
      clear hfin hpg hjs
      go_wp2
      go_ret
      exact HE.out
end Go.Proofs.Ytnmeobbbcccgjaa
