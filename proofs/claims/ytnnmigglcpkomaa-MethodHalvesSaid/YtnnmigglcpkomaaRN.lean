/- What goes along a rack (from): a range over it hands on each entry that does not stand ahead of one, in order. -/
import Derived.RangeFuncNested
import Derived.RangeFuncBound
import Derived.RangeFuncCalls
import Derived.RangeFuncLeaves
import Derived.Shelf.Abstract
import Derived.OwnWalkIn
import Derived.TacticsInMore
import Derived.LoopNIn
import Derived.LoopIn
import Derived.Test.YtnnmigglcpkomaaRK
set_option maxRecDepth 100000
namespace Go.Proofs.Ytnnmigglcpkomaa.Dm
open Go Go.RowKit Go.Shelf
attribute [local go_sem] Oper.semAt_some

/-- The blocks of K stand. -/
def KpB (K : Nat → Prop) (W W' : World) : Prop := ∀ k, K k → W'.heap[k]? = W.heap[k]?
theorem KpB.trans {K : Nat → Prop} {A B C : World} (h : KpB K A B) (k : KpB K B C) : KpB K A C := fun i hi => (k i hi).trans (h i hi)
theorem KpB.refl (K : Nat → Prop) (W : World) : KpB K W W := fun _ _ => rfl
theorem KpB.below {K : Nat → Prop} {W W' : World} {B : Nat} (h : Below B W W') (hK : ∀ k, K k → k < B) : KpB K W W' := fun k hk => h.block k (hK k hk)

theorem wrap64_succ {i N : Nat} (h : i < N) (hb : Hid (N < 2199023255552)) : wrap64 ((i : Int) + 1) = (i : Int) + 1 := by
  have := hb.out
  exact IntWalk.wrap64_in _ (by omega)
theorem KpB.lt {K : Nat → Prop} {W W' : World} (h : KpB K W W') {k : Nat} (hk : K k) (hl : k < W.heap.size) : k < W'.heap.size := by
  have h1 := h k hk
  rcases Nat.lt_or_ge k W'.heap.size with h2 | h2
  · exact h2
  · rw [Array.getElem?_eq_none h2, Array.getElem?_eq_getElem hl] at h1
    cases h1

theorem RackAt.of_blocks {w w' : World} {P : Nat} {v : Value} {ss : List Sh} (h : RackAt w P v ss) (hb : ∀ k, bl P v ss k → w'.heap[k]? = w.heap[k]?) : RackAt w' P v ss :=
  ⟨(World.cell?_of_block (w := w) (a := ⟨P, 1, none⟩) (hb P (.inl rfl))).trans h.cell, (World.frozen?_of_block (w := w) (a := ⟨P, 1, none⟩) (hb P (.inl rfl))).trans h.cold, ownsRow_of_block h.row (fun k hk => hb k (.inr (.inl hk))),
    fun s hs => (h.shelf s hs).of_block (hb _ (.inr (.inr ⟨s, hs, rfl⟩))), h.ne, h.vP, h.sP, h.apart⟩

theorem few_shelves {ss : List Sh} (h : ∀ s, s ∈ ss → s.hs ≠ []) (hl : (Sh.lists ss).flatten.length < 2199023255552) : ss.length < 2199023255552 := by
  have h1 := flat_many (Sh.lists ss) (fun l hl => by obtain ⟨s, hss, rfl⟩ := List.mem_map.1 hl; exact h s hss)
  have h2 : (Sh.lists ss).length = ss.length := List.length_map _
  exact Nat.lt_of_le_of_lt (h2 ▸ h1) hl
theorem few_held {ss : List Sh} (hl : (Sh.lists ss).flatten.length < 2199023255552) (s : Sh) (hs : s ∈ ss) : s.hs.length < 2199023255552 :=
  Nat.lt_of_le_of_lt (flat_get_le (Sh.lists ss) s.hs (List.mem_map.2 ⟨_, hs, rfl⟩)) hl
theorem grown_below {W W' : World} (h : Below W.heap.size W W') : W.grownBy W' none := ⟨h.os, h.tape, h.output, h.size, fun k hk _ => h.block k hk⟩

set_option maxHeartbeats 3200000 in
theorem from1_in (n : Nat) (hn : 1 ≤ n) (l P rb hb : Nat) (v : Value) (ss : List Sh) (x : Hd) (w : World) (all : List Hd) (hR : RackAt w P v ss) (hs : SrtH (Sh.lists ss).flatten) (hlen : (Sh.lists ss).flatten.length < 2199023255552)
    (hall : ∀ i at' th, Seek (Sh.lists ss) x i at' th → ((Sh.lists ss).getD i []).drop at' ++ ((Sh.lists ss).drop (i + 1)).flatten = all)
    (K : Nat → Prop) (hK : ∀ k, bl P v ss k → K k) (hKr : K rb) (hKh : K hb) (hKw : ∀ k, K k → k < w.heap.size)
    (hr0 : w.cell? ⟨rb, 0, none⟩ = some (.pointer (some ⟨P, 1, none⟩))) (hh0 : w.cell? ⟨hb, 0, none⟩ = some (.string x.1)) (hh1 : w.cell? ⟨hb, 1, none⟩ = some (.int .i64 x.2))
    (J Jx : List Hd → World → Prop) (W : World) (hW : Below w.heap.size w W) (hJ : AbidesFrom W.heap.size J)
    (hY : ∀ pre y W1, J pre W1 → pre.length < all.length → YieldAt Fence.wide (n - 1) Try.prog l #[hdV y] W1 fun e W' => (e = .returned (.bool true) ∧ J (pre ++ [y]) W' ∧ KpB K W1 W') ∨ (e = .returned (.bool false) ∧ Jx (pre ++ [y]) W'))
    (h0 : J [] W) :
    CallsIn Fence.wide n Try.prog 47 #[.func (.yield l) #[] #[], .pointer (some ⟨rb, 0, none⟩), .pointer (some ⟨hb, 0, none⟩)] W fun e W' => (∃ v, e = .returned v) ∧ ((∃ ys, ys = all ∧ J ys W') ∨ (∃ pre, pre <+: all ∧ Jx pre W')) := by
  have hRW := hR.below hW
  have c0 : W.cell? ⟨rb, 0, none⟩ = some (.pointer (some ⟨P, 1, none⟩)) := (hW.cell (p := ⟨rb, 0, none⟩) (hKw rb hKr)).trans hr0
  have c1 : W.cell? ⟨hb, 0, none⟩ = some (.string x.1) := (hW.cell (p := ⟨hb, 0, none⟩) (hKw hb hKh)).trans hh0
  have c2 : W.cell? ⟨hb, 1, none⟩ = some (.int .i64 x.2) := (hW.cell (p := ⟨hb, 1, none⟩) (hKw hb hKh)).trans hh1
  have HS := Lib.hid (callsIn_wide (n := n - 1).2 (seek_any P v ss x W hRW hs hlen))
  obtain ⟨xk, xt⟩ := x
  obtain ⟨a, c, rfl⟩ := hR.form
  obtain ⟨N, hN⟩ : ∃ N, N = ss.length := ⟨_, rfl⟩
  have HALL := Lib.hid hall
  have HR := Lib.hid hRW
  have HY := Lib.hid hY
  have HJ := Lib.hid hJ
  have HKW : Hid (∀ k, K k → k < W.heap.size) := Lib.hid (fun k hk => Nat.lt_of_lt_of_le (hKw k hk) hW.size)
  have HK := Lib.hid hK
  have HN := Lib.hid hN
  have hNb : Hid (N < 2199023255552) := Lib.hid (by rw [hN]; exact few_shelves hRW.ne hlen)
  have HQB : Hid (∀ s, s ∈ ss → s.hs.length < 2199023255552) := Lib.hid (few_held hlen)
  unfold hdV at HS
  simp only [] at HS
  clear hall hRW hR hY hJ hK hKw hN hs hlen hr0 hh0 hh1 hW
  refine callsIn_of_wp Try.func47 rfl trivial ?_ rfl
  simp only [Try.ntmps47, List.size_toArray, List.length_cons, List.length_nil, Nat.reduceAdd, Nat.reduceSub, Array.replicate_succ, Array.replicate_zero, List.push_toArray, List.append_toArray, List.nil_append, List.cons_append]
  have hF48 : Fence.wide.fn 48 := trivial
  gi_wp2_with fail
  refine (HS.out).mono ?_
  rintro e w1 ⟨i, at', th, rfl, hsk, hb1⟩
  have hlow : (Sh.lists ss).length = N := by rw [HN.out]; simp [Sh.lists]
  have HST : Hid (i ≤ N ∧ (i < N → at' ≤ ((Sh.lists ss).getD i []).length) ∧ (N ≤ i → all = []) ∧ all = [] ++ (((Sh.lists ss).getD i []).drop at' ++ ((Sh.lists ss).drop (i + 1)).flatten)) := Lib.hid (by
    have h1 := HALL.out i at' th hsk
    refine ⟨?_, fun _ => hsk.fits, fun hNi => ?_, by rw [List.nil_append, h1]⟩
    · rcases hsk.shape with ⟨h2, h3, _⟩ | h2
      · omega
      · omega
    · rw [← h1]
      rcases hsk.shape with ⟨h2, h3, h4⟩ | h2
      · rw [h2]; simp
      · omega)
  have HJ1 : Hid (J [] w1) := Lib.hid (HJ.out _ _ _ none h0 (grown_below hb1) (fun r h => by cases h))
  have HK1 : Hid (KpB K W w1) := Lib.hid (KpB.below hb1 HKW.out)
  have hNlow := Lib.hid hlow
  clear hsk hb1 h0 HALL HS hlow c1 c2
  gi_wp2
  gi_loopw [4, 5] (fun vi va wr => ∃ (i at' : Nat) (pre : List Hd), vi = .int .i64 i ∧ va = .int .i64 at' ∧ i ≤ N ∧ (i < N → at' ≤ ((Sh.lists ss).getD i []).length) ∧ (i < N → all = pre ++ (((Sh.lists ss).getD i []).drop at' ++ ((Sh.lists ss).drop (i + 1)).flatten)) ∧ (N ≤ i → all = pre) ∧ Hid (J pre wr) ∧ Hid (KpB K W wr)) (fun vi _ _ => N - (intOf vi).toNat)
  case atStart => exact ⟨i, at', [], rfl, rfl, HST.out.1, HST.out.2.1, fun _ => HST.out.2.2.2, HST.out.2.2.1, HJ1, HK1⟩
  case round =>
    clear HST HJ1 HK1
    obtain ⟨i, at', pre, rfl, rfl, hiN, hat, hall, hend, HJp, HKp⟩ := hrel
    have hRr : RackAt wr P (.slice a ss.length c) ss := HR.out.of_blocks (fun k hk => HKp.out k (HK.out k hk))
    have d0 : wr.cell? ⟨rb, 0, none⟩ = some (.pointer (some ⟨P, 1, none⟩)) := (World.cell?_of_block (w := W) (a := ⟨rb, 0, none⟩) (HKp.out rb hKr)).trans c0
    have d1 : wr.cell? ⟨P, 1, none⟩ = some (.slice a N c) := by rw [HN.out]; exact hRr.cell
    by_cases hlt : i < N
    · obtain ⟨b, hab, hbl, hcb⟩ := hRr.at i (by rw [← HN.out]; exact hlt)
      cases hab
      obtain ⟨s, hss⟩ : ∃ s, s = ss[i]'(by rw [← HN.out]; exact hlt) := ⟨_, rfl⟩
      rw [← hss] at hcb
      have hLi : (Sh.lists ss).getD i [] = s.hs := by rw [hss]; simp [Sh.lists, show i < ss.length by rw [← HN.out]; exact hlt]
      have hsm : s ∈ ss := by rw [hss]; exact List.getElem_mem _
      have hSA := hRr.shelf s hsm
      have hqb : Hid (s.hs.length < 2199023255552) := Lib.hid (HQB.out s hsm)
      have hrow := hSA.row
      have hgK : K s.g := HK.out _ (.inr (.inr ⟨s, hsm, rfl⟩))
      have hat' := hat hlt
      have hall' := hall hlt
      rw [hLi] at hat' hall'
      obtain ⟨g, cc, hs'⟩ := s
      simp only at hat' hall' hSA hrow hgK hqb
      obtain ⟨q, hq⟩ : ∃ q, q = hs'.length := ⟨_, rfl⟩
      obtain ⟨R2, hR2⟩ : ∃ R2, R2 = ((Sh.lists ss).drop (i + 1)).flatten := ⟨_, rfl⟩
      have hqc : q ≤ cc := by
        rcases hSA.2 with ⟨h1, _⟩ | ⟨g', cap, cur, h1, _, _, h2, _⟩
        · cases h1
        · simp only [Sh.v, Value.slice.injEq] at h1
          obtain ⟨_, _, rfl⟩ := h1
          rw [hq]; exact h2
      rw [← hR2] at hall'
      unfold Sh.v at hcb
      simp only [] at hcb
      rw [← hq] at hcb hat' hqb
      have HQ := Lib.hid hq
      have HALL' := Lib.hid hall'
      have HR2 := Lib.hid hR2
      have HROW : Hid (∀ W', KpB K W W' → RowH W' g hs') := Lib.hid (fun W' hW' j hj => by
        have e1 : W'.heap[g]? = wr.heap[g]? := (hW' g hgK).trans (HKp.out g hgK).symm
        exact ⟨(World.cell?_of_block (w := wr) (a := ⟨g, j * 2, none⟩) e1).trans (hrow j hj).1, (World.cell?_of_block (w := wr) (a := ⟨g, j * 2 + 1, none⟩) e1).trans (hrow j hj).2⟩)
      have HATE := Lib.hid hat'
      clear hRr hss hLi hsm hSA hrow hall hall' hat hend hq hR2
      have hic : (i : Int) < (N : Int) := by omega
      obtain ⟨AD, hAD, hAD2⟩ : ∃ AD : Option Addr, (if cc = at' then some (⟨g, 0, none⟩ : Addr) else some ⟨g, at' * 2, none⟩) = AD ∧ (at' < q → AD = some ⟨g, at' * 2, none⟩) := ⟨_, rfl, fun h => by rw [if_neg (by omega)]⟩
      have HRA : Hid (∀ pre2 : List Hd, all = pre2 ++ (hs'.drop (at' + (q - at')) ++ R2) → (i + 1 < N → all = pre2 ++ (((Sh.lists ss).getD (i + 1) []).drop 0 ++ ((Sh.lists ss).drop (i + 1 + 1)).flatten)) ∧ (N ≤ i + 1 → all = pre2)) := Lib.hid (fun pre2 h => by
        rw [List.drop_eq_nil_of_le (by have := HQ.out; have := HATE.out; omega), List.nil_append, HR2.out] at h
        have hl := hNlow.out
        constructor
        · intro h1
          rw [List.drop_eq_getElem_cons (by omega), List.flatten_cons] at h
          rw [show (Sh.lists ss).getD (i + 1) [] = (Sh.lists ss)[i + 1]'(by omega) by simp [show i + 1 < (Sh.lists ss).length by omega], List.drop_zero]
          exact h
        · intro h1
          rw [List.drop_eq_nil_of_le (by omega)] at h
          simpa using h)
      clear HR2
      gi_wp2_with fail
      gi_loopw [35] (fun vj wq => ∃ (j : Nat) (pre2 : List Hd), vj = .int .i64 j ∧ j ≤ q - at' ∧ Hid (all = pre2 ++ (hs'.drop (at' + j) ++ R2)) ∧ Hid (J pre2 wq) ∧ Hid (KpB K W wq)) (fun vj _ => (q - at') - (intOf vj).toNat)
      case atStart => exact ⟨0, pre, rfl, Nat.zero_le _, Lib.hid HALL'.out, HJp, HKp⟩
      case round =>
        obtain ⟨j, pre2, rfl, hj, HAL, HJ2, HK2⟩ := hrel
        by_cases hjl : j < q - at'
        · have hjq : at' + j < hs'.length := by rw [← HQ.out]; omega
          obtain ⟨y, hy, f0, f1⟩ : ∃ y : Hd, y = hs'[at' + j]'hjq ∧ wr.cell? ⟨g, at' * 2 + j * 2, none⟩ = some (.string y.1) ∧ wr.cell? ⟨g, at' * 2 + j * 2 + 1, none⟩ = some (.int .i64 y.2) := ⟨_, rfl, by
            have := HROW.out wr HK2.out (at' + j) hjq
            rw [Nat.add_mul] at this
            exact this⟩
          have hADe := hAD2 (by omega)
          have hqb1 := hqb.out
          subst hADe
          have HSTEP : Hid (all = (pre2 ++ [y]) ++ (hs'.drop (at' + (j + 1)) ++ R2)) := Lib.hid (by
            have h := HAL.out
            rw [List.drop_eq_getElem_cons hjq, ← hy] at h
            rw [h]
            simp [Nat.add_assoc])
          have hpl : pre2.length < all.length := by
            rw [HSTEP.out]
            simp only [List.length_append, List.length_singleton]
            omega
          have HJy : J pre2 (wr.alloc (.cells #[.string y.1, .int .i64 y.2] 80)) := HJ.out _ _ _ none HJ2.out (grown_below ((Below.refl _ _).alloc (Nat.le_refl _) _)) (fun r h => by cases h)
          obtain ⟨fn, tmps, assign, body, hyy, hRr⟩ := HY.out pre2 y _ HJy hpl
          unfold hdV at hyy
          have HKy : Hid (KpB K W (wr.alloc (.cells #[.string y.1, .int .i64 y.2] 80))) := Lib.hid (HK2.out.trans (KpB.below ((Below.refl _ _).alloc (Nat.le_refl _) _) (fun k hk => HK2.out.lt hk (HKW.out k hk))))
          clear HJy hy HAL hpl
          gi_wp2_with fail
          refine hRr.mono ?_
          rintro e W3 (⟨rfl, hJ3, hk3⟩ | ⟨rfl, hJx3⟩)
          · have HJ3 := Lib.hid hJ3
            have HK3 : Hid (KpB K W W3) := Lib.hid (HKy.out.trans hk3)
            clear hJ3 hk3 hRr
            gi_wp2
            go_roundw
            case rel => exact ⟨j + 1, pre2 ++ [y], by go_num, by omega, HSTEP, HJ3, HK3⟩
            case measure => simp [intOf]; omega
          · have HJX := Lib.hid hJx3
            clear hJx3 hRr
            gi_wp2
            refine bodyPost_ret (results_none rfl _ _ _) rfl ?_
            exact ⟨⟨_, rfl⟩, .inr ⟨pre2 ++ [y], ⟨_, HSTEP.out.symm⟩, HJX.out⟩⟩
        · obtain rfl : j = q - at' := by omega
          obtain ⟨r1, r2⟩ := HRA.out pre2 HAL.out
          have R1 := Lib.hid r1
          have R3 := Lib.hid r2
          clear r1 r2 HRA HAL
          have hNb1 := hNb.out
          gi_wp2
          go_roundw
          case rel => exact ⟨i + 1, 0, pre2, by go_num, rfl, by omega, fun _ => Nat.zero_le _, R1.out, R3.out, HJ2, HK2⟩
          case measure => simp [intOf]; omega
    · have e := hend (by omega)
      have HE := Lib.hid e
      clear e hend hall hat hRr
      gi_wp2
      go_end0
      exact ⟨⟨_, rfl⟩, .inl ⟨pre, HE.out.symm, HJp.out⟩⟩
end Go.Proofs.Ytnnmigglcpkomaa.Dm
