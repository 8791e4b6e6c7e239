/- Texts of the same proof, one behind the other: XQ, XR, XS, XQN. -/
import Derived.RangeFuncBound
import Derived.RangeFuncLeaves
import Derived.Shelf.Abstract
import Derived.Shelf.RegionOpen
import Derived.OwnWalkIn
import Derived.TacticsInMore
import Derived.LoopNIn
import Derived.LoopIn
import Derived.BigQuiet
import Derived.Scope
import Derived.Test.YtefddiikdamnbaaGreatDoorMBI
/- Contract: the sheets of chains, handed over one by one. -/
set_option maxRecDepth 100000
namespace Go.Proofs.YtefddiikdamnbaaGreatDoor.Dm
open Go Go.RowKit Go.Shelf
attribute [local go_sem] Oper.semAt_some

/-- How far behind a page of a chain is from its end. -/
def leftC (ch : Chn) (q : Nat) : Nat := (pgsC ch).length - (pgsC ch).idxOf q
theorem fst_drop {ch : Chn} {j : Nat} (hj : j < ch.length) : fstP (ch.drop j) = (ch[j]'hj).1 := by
  rw [List.drop_eq_getElem_cons hj]; rfl
theorem leftC_at {ch : Chn} {j : Nat} (hn : (pgsC ch).Nodup) (hj : j < ch.length) : leftC ch (fstP (ch.drop j)) = ch.length - j := by
  have hl : (pgsC ch).length = ch.length := by simp [pgsC]
  have e : (ch[j]'hj).1 = (pgsC ch)[j]'(by omega) := by simp [pgsC]
  unfold leftC
  rw [fst_drop hj, e, hn.idxOf_getElem, hl]
theorem leftC_zero {ch : Chn} (h0 : ∀ q ∈ pgsC ch, q ≠ 0) : leftC ch 0 = 0 := by
  unfold leftC
  rw [List.idxOf_eq_length (fun h => h0 0 h rfl)]
  omega

theorem exec_alloc_seen {a : Act} {o : Oper} (ho : o.op = .alloc 245) (W : World) : (execOp a.eval o).run Tryz.prog W = .ok (.value (.pointer (some ⟨W.heap.size, 0, none⟩))) (W.alloc (.cells Tryz.zeroCells245 245)) := by
  have hz : (zeroValue 245).run Tryz.prog W = .ok (.agg Tryz.zeroCells245) W := Tryz.zeroValue245 W
  unfold execOp
  simp only [ho, Instr.alloc, Sem.run_bind, hz, Result.andThen_ok]
  simp [go_sem]

end Go.Proofs.YtefddiikdamnbaaGreatDoor.Dm

/- Contract: the entries of a sheet, handed over one by one. -/
set_option maxRecDepth 100000
namespace Go.Proofs.YtefddiikdamnbaaGreatDoor.Dm
open Go Go.RowKit Go.Shelf
attribute [local go_sem] Oper.semAt_some

/-- Where an entry stands. -/
def offE (l : List Et) (k : Nat) : Nat := (bodyE (l.take k)).length
theorem entries_any (sb : Nat) (w : World) : Calls Tryz.prog 78 #[.pointer (some ⟨sb, 0, none⟩)] w fun e w' => e = .returned (.func (.func 128) #[] #[.pointer (some ⟨w.heap.size, 0, none⟩)]) ∧ w' = w.alloc (.cells #[.pointer (some ⟨sb, 0, none⟩)] 144) := by
  go_enter Tryz.func78, Tryz.ntmps78
  go_wp2
  go_ret
  exact ⟨rfl, rfl⟩
theorem bodyE_at {l : List Et} {k : Nat} {c : Et} (h : l[k]? = some c) : (bodyE l).getD (offE l k) 0 = byt ((heldE c).length : Int) := by
  unfold offE
  rw [bodyE_split h, List.getD_eq_getElem?_getD, List.getElem?_append_right (Nat.le_refl _), Nat.sub_self]
  rfl
theorem offE_succ {l : List Et} {k : Nat} {c : Et} (h : l[k]? = some c) : offE l (k + 1) = offE l k + 1 + (heldE c).length := by
  unfold offE
  rw [bodyE_take h, List.length_append, List.length_cons]
  omega
theorem offE_le (l : List Et) (k : Nat) : offE l k ≤ (bodyE l).length := bodyE_pre l k
theorem bodyE_cut {l : List Et} {k : Nat} {c : Et} (h : l[k]? = some c) : ((bodyE l).drop (offE l k + 1)).take (heldE c).length = heldE c := by
  have h1 := bodyE_split h
  rw [h1, show offE l k + 1 = (bodyE (l.take k)).length + 1 from rfl, List.drop_append, List.drop_of_length_le (by omega), show (bodyE (l.take k)).length + 1 - (bodyE (l.take k)).length = 1 by omega]
  simp

set_option maxHeartbeats 3200000 in
theorem entries1_in {sb q nx l d bx : Nat} {le : List Et} (hd1 : 1 ≤ d) (hl : (bodyE le).length ≤ 510) (ho : ∀ c ∈ le, InE c) (W : World)
    (Ji Jx : Nat → World → Prop)
    (hI : ∀ k A, Ji k A → HsAt A sb q nx le ∧ A.cell? ⟨bx, 0, none⟩ = some (.pointer (some ⟨sb, 0, none⟩)))
    (hY : ∀ k c A, le[k]? = some c → Ji k A →
      YieldAt Fence.wide (d - 1) Tryz.prog l #[.int .i64 (offE le k : Nat), .string ⟨(heldE c).toArray⟩] A (fun e w' => ∃ bb, e = .returned (.bool bb) ∧ (bb = true → Ji (k + 1) w') ∧ (bb = false → Jx (k + 1) w')))
    (h0 : Ji 0 W) :
    CallsIn Fence.wide d Tryz.prog 128 #[.func (.yield l) #[] #[], .pointer (some ⟨bx, 0, none⟩)] W (fun e w' => (∃ v, e = .returned v) ∧ (Ji le.length w' ∨ ∃ k, k ≤ le.length ∧ Jx k w')) := by
  have HI := Lib.hid hI
  have HY := Lib.hid hY
  have H0 := Lib.hid h0
  have HO := Lib.hid ho
  obtain ⟨n, hn⟩ : ∃ n, n = (bodyE le).length := ⟨_, rfl⟩
  rw [← hn] at hl
  have HN := Lib.hid hn
  obtain ⟨s, hs⟩ : ∃ s : ByteArray, s = ⟨(bodyE le).toArray⟩ := ⟨_, rfl⟩
  have hsz : s.size = n := by rw [hs, hn]; rfl
  have HSE := Lib.hid hs
  have HEE : Hid (∀ z : Nat, z < n → ∀ W, CallsIn Fence.wide (d - 1) Tryz.prog 129 #[.string s, .int .i64 z] W fun e w' => e = .returned (.int .i64 ((min (z + 1 + ((bodyE le).getD z 0).toNat) n : Nat) : Int)) ∧ w' = W) := Lib.hid fun z hz W => callsIn_wide.2 (by
    have := entryEnd_any (bodyE le) z W (by omega) (by omega)
    rw [← hn, ← hs] at this
    exact this)
  have HEX : Hid (∀ k c, le[k]? = some c → s.extract (offE le k + 1) (offE le (k + 1)) = ⟨(heldE c).toArray⟩) := Lib.hid fun k c hc => by
    rw [hs, str_cut, offE_succ hc, show offE le k + 1 + (heldE c).length - (offE le k + 1) = (heldE c).length by omega, bodyE_cut hc]
  clear hI hY h0 ho hn hs
  refine callsIn_of_wp Tryz.func128 rfl trivial ?_ rfl
  simp only [Tryz.ntmps128, List.size_toArray, List.length_cons, List.length_nil, Nat.reduceAdd, Nat.reduceSub, Array.replicate_succ, Array.replicate_zero, List.push_toArray, List.append_toArray, List.nil_append, List.cons_append]
  have hF1 : Fence.wide.fn 129 := trivial
  gi_wp2
  gi_loopw [3] (fun vz wr => ∃ k z : Nat, vz = .int .i64 z ∧ k ≤ le.length ∧ Hid (z = offE le k) ∧ z ≤ n ∧ Hid (Ji k wr)) (fun vz _ => n - (intOf vz).toNat)
  case atStart => exact ⟨0, 0, rfl, by omega, Lib.hid rfl, by omega, H0⟩
  case round =>
    clear H0
    obtain ⟨k, z, rfl, hk, HZ, hzn, HJ⟩ := hrel
    obtain ⟨i1, i2⟩ := HI.out _ _ HJ.out
    obtain ⟨_, _, c2⟩ := i1.cells
    rw [← HSE.out] at c2
    by_cases hkl : k < le.length
    · obtain ⟨ce, hce⟩ : ∃ ce, le[k]? = some ce := ⟨_, List.getElem?_eq_getElem hkl⟩
      have hh := held_len (HO.out ce (List.mem_of_getElem? hce))
      have hsuc := offE_succ hce
      have hle := offE_le le (k + 1)
      rw [← HN.out] at hle
      have hlt : z < n := by have := HZ.out; omega
      have hlt' : (z : Int) < (n : Int) := by omega
      have hEE := HEE.out z hlt
      have hat := bodyE_at hce
      rw [← HZ.out] at hat hsuc
      rw [hat, byt_nat'] at hEE
      obtain ⟨m, hm⟩ : ∃ m, m = (heldE ce).length := ⟨_, rfl⟩
      rw [← hm] at hEE hh hsuc
      obtain ⟨z2, hz2⟩ : ∃ z2, z2 = z + 1 + m := ⟨_, rfl⟩
      have hEE2 : ∀ W, CallsIn Fence.wide (d - 1) Tryz.prog 129 #[.string s, .int .i64 z] W fun e w' => e = .returned (.int .i64 z2) ∧ w' = W := fun W => by
        have h1 := hEE W
        rw [show (min (z + 1 + m % 256) n : Nat) = z2 by omega] at h1
        exact h1
      have HEC := Lib.hid hEE2
      have hex := HEX.out k ce hce
      rw [← HZ.out, hsuc, ← hz2] at hex
      have hz2n : z2 ≤ n := by omega
      have HZ2 : Hid (z2 = offE le (k + 1)) := Lib.hid (by rw [hsuc, hz2])
      have hY1 := HY.out k ce wr hce HJ.out
      rw [← HZ.out] at hY1
      obtain ⟨t, ht⟩ : ∃ t : ByteArray, t = ⟨(heldE ce).toArray⟩ := ⟨_, rfl⟩
      rw [← ht] at hex hY1
      obtain ⟨fn, tmps, assign, body, hyy, hRr⟩ := hY1
      have HRr := Lib.hid hRr
      have b1 : (0 : Int) ≤ (z : Int) + 1 := by omega
      have b2 : (z : Int) + 1 ≤ (z2 : Int) := by omega
      have b3 : (z2 : Int) ≤ (n : Int) := by omega
      have b4 : ((z : Int) + 1).toNat = z + 1 := by omega
      have b5 : (z2 : Int).toNat = z2 := by omega
      have e1 : IntKind.i64.wrap ((z : Int) + 1) = (z : Int) + 1 := IntWalk.i64_in _ (by omega)
      have hms : 0 < m := by omega
      have HZL : Hid (z < z2) := Lib.hid (by omega)
      clear hRr hEE hEE2 hat hm hz2 ht hce hsuc hle i1 HJ hh
      gi_wp2_with fail
      refine (HEC.out _).mono ?_
      rintro e w1 ⟨rfl, hw⟩
      subst w1
      gi_wp2_with fail
      refine HRr.out.mono ?_
      rintro e W3 ⟨bb, rfl, hp1, hp2⟩
      cases bb with
      | false =>
        have HQ := Lib.hid (hp2 rfl)
        clear hp1 hp2
        gi_wp2
        refine bodyPost_ret (results_none rfl _ _ _) rfl ?_
        exact ⟨⟨_, rfl⟩, .inr ⟨k + 1, hkl, HQ.out⟩⟩
      | true =>
        have HQ := Lib.hid (hp1 rfl)
        clear hp1 hp2
        gi_wp2
        go_roundw
        case rel => exact ⟨k + 1, z2, rfl, hkl, HZ2, hz2n, HQ⟩
        case measure => simp [intOf]; have := HZL.out; omega
    · obtain rfl : k = le.length := by omega
      have hz : z = n := by rw [HZ.out, HN.out]; unfold offE; rw [List.take_length]
      subst hz
      clear i1
      gi_wp2
      go_end0
      exact ⟨⟨_, rfl⟩, .inl HJ.out⟩
end Go.Proofs.YtefddiikdamnbaaGreatDoor.Dm

/- Contract: where an entry stands on a sheet. -/
set_option maxRecDepth 100000
namespace Go.Proofs.YtefddiikdamnbaaGreatDoor.Dm
open Go Go.RowKit Go.Shelf
attribute [local go_sem] Oper.semAt_some

theorem results_two {fn : Func} {p q : Tmp} (h : fn.results = #[.cell p 3, .cell q 4]) (tmps : Array Value) (w : World) (g g' : Nat) (v v' : Value) (hp : tmps.getD p undef = .pointer (some ⟨g, 0, none⟩)) (hq : tmps.getD q undef = .pointer (some ⟨g', 0, none⟩)) (hg : w.cell? ⟨g, 0, none⟩ = some v) (hg' : w.cell? ⟨g', 0, none⟩ = some v') :
    (results fn tmps).run Tryz.prog w = .ok (.tuple #[v, v']) w := by
  have hp' : tmps[p]?.getD undef = .pointer (some ⟨g, 0, none⟩) := by simpa using hp
  have hq' : tmps[q]?.getD undef = .pointer (some ⟨g', 0, none⟩) := by simpa using hq
  have l1 : (loadVar 3 ⟨g, 0, none⟩).run Tryz.prog w = .ok v w := by simp [go_sem, loadVar, Tryz.isAgg3, hg, Result.andThen]
  have l2 : (loadVar 4 ⟨g', 0, none⟩).run Tryz.prog w = .ok v' w := by simp [go_sem, loadVar, Tryz.isAgg4, hg', Result.andThen]
  simp [results, h, hp', hq', asAddr, l1, l2]

theorem below_put (w : World) {B k : Nat} (h : B ≤ k) (o : Obj) : Below B w (w.putObj k o) := ⟨rfl, rfl, rfl, by simp, fun j hj => World.putObj_heap_other (by omega)⟩
/-- A loop's record is written anew as it was. -/
theorem below_again {w w' : World} {B k : Nat} {o o' : Obj} (h : Below B w w') (hk : w.heap[k]? = some o) (hlt : k < w'.heap.size) : Below B w ((w'.putObj k o').putObj k o) :=
  ⟨h.os, h.tape, h.output, by have := h.size; simpa using this, fun j hj => by
    by_cases e : j = k
    · subst e; exact (World.putObj_heap_same (by simpa using hlt)).trans hk.symm
    · rw [World.putObj_heap_other e, World.putObj_heap_other e]; exact h.block j hj⟩
section
variable {w : World} {sb q nx : Nat} {le : List Et} {c : Et}
set_option maxHeartbeats 3200000 in
theorem find_in (h : HsAt w sb q nx le) (hl : (bodyE le).length ≤ 510) (ho : ∀ c ∈ le, InE c) (hc : InE c) : CallsIn Fence.wide 9 Tryz.prog 141 #[.pointer (some ⟨sb, 0, none⟩), .string ⟨(heldE c).toArray⟩] w fun e w' =>
    ((∃ k, le[k]? = some c ∧ e = .returned (.tuple #[.int .i64 (offE le k : Nat), .bool true])) ∨ (c ∉ le ∧ e = .returned (.tuple #[.int .i64 0, .bool false]))) ∧ Below w.heap.size w w' := by
  obtain ⟨s, hs⟩ : ∃ s : ByteArray, s = ⟨(heldE c).toArray⟩ := ⟨_, rfl⟩
  obtain ⟨b0, hb0⟩ : ∃ b0, b0 = w.heap.size := ⟨_, rfl⟩
  obtain ⟨w1, hw1⟩ : ∃ w1, w1 = ((w.alloc (.cells #[.string s] 9)).alloc (.cells #[.int .i64 0] 3)).alloc (.cells #[.bool false] 4) := ⟨_, rfl⟩
  have z1 : w1.heap.size = b0 + 3 := by rw [hw1, hb0]; simp [World.size_alloc]
  have hB1 : Below w.heap.size w w1 := by
    rw [hw1]
    exact (((Below.refl _ _).alloc (Nat.le_refl _) _).alloc (by simp) _).alloc (by simp; omega) _
  have HEN := Lib.hid ((callsIn_wide (n := 8)).2 (entries_any sb w1))
  have HW1 := Lib.hid hw1
  have HB0 := Lib.hid hb0
  have HB1 := Lib.hid hB1
  have HZ1 := Lib.hid z1
  have HH := Lib.hid h
  have HL := Lib.hid hl
  have HO := Lib.hid ho
  have HC := Lib.hid hc
  have HS := Lib.hid hs
  rw [← hs]
  clear hw1 hb0 hB1 z1 h ho hc hs hl
  refine callsIn_of_wp_marks Tryz.func141 rfl trivial ?_ rfl
  simp only [Tryz.ntmps141, List.size_toArray, List.length_cons, List.length_nil, Nat.reduceAdd, Nat.reduceSub, Array.replicate_succ, Array.replicate_zero, List.push_toArray, List.append_toArray, List.nil_append, List.cons_append]
  have hF1 : Fence.wide.fn 78 := trivial
  gi_wp2_with fail
  rw [← HW1.out, ← HB0.out]
  refine HEN.out.mono ?_
  rintro e w2 ⟨rfl, hw2⟩
  have HW2 := Lib.hid hw2
  clear hw2
  gi_wp2_with fail
  obtain ⟨bx, hbx⟩ : ∃ bx, bx = w1.heap.size := ⟨_, rfl⟩
  rw [← hbx]
  refine range_outer (m := 8) (gf := 128) (lb := #[.pointer (some ⟨bx, 0, none⟩)]) rfl (enters_of Tryz.func128 (by kernel_rfl) rfl) ?_
  intro fn rec hrec
  obtain ⟨D, hD⟩ : ∃ D, D = w2.heap.size := ⟨_, rfl⟩
  rw [← hD] at hrec ⊢
  obtain ⟨W0, hW0⟩ : ∃ W0, W0 = (w2.alloc (.deferred (some []))).alloc (.loop (rec .ready none)) := ⟨_, rfl⟩
  rw [← hW0]
  have hw2 := HW2.out
  have z1 := HZ1.out
  have z2 : D = b0 + 4 := by rw [hD, hw2, World.size_alloc, z1]
  have z3 : W0.heap.size = b0 + 6 := by rw [hW0, World.size_alloc, World.size_alloc, ← hD, z2]
  have zx : bx = b0 + 3 := by rw [hbx, z1]
  have zw : b0 = w.heap.size := HB0.out
  have hB2 : Below w.heap.size w w2 := by rw [hw2]; exact HB1.out.alloc HB1.out.size _
  have hB0 : Below w.heap.size w W0 := by
    rw [hW0]
    exact (hB2.alloc hB2.size _).alloc (by have := hB2.size; simp; omega) _
  have g5 : W0.heap[D + 1]? = some (.loop (rec .ready none)) := by
    have := World.alloc_heap_new (w2.alloc (.deferred (some []))) (.loop (rec .ready none))
    rw [World.size_alloc, ← hD] at this
    rw [hW0]; exact this
  have g4 : W0.heap[D]? = some (.deferred (some [])) := by
    rw [hW0, Below.heap_alloc _ _ _ (by simp; omega), hD]; exact World.alloc_heap_new w2 _
  have g3 : W0.heap[bx]? = some (.cells #[.pointer (some ⟨sb, 0, none⟩)] 144 (0, 0)) := by
    rw [hW0, Below.heap_alloc _ _ _ (by simp; omega), Below.heap_alloc _ _ _ (by omega), hw2, hbx]
    exact heap_alloc_new w1 _
  have hlow : ∀ j, j < b0 + 3 → W0.heap[j]? = w1.heap[j]? := fun j hj => by
    rw [hW0, Below.heap_alloc _ _ _ (by simp; omega), Below.heap_alloc _ _ _ (by omega), hw2, Below.heap_alloc _ _ _ (by omega)]
  have g0 : W0.heap[b0]? = some (.cells #[.string s] 9 (0, 0)) := by
    rw [hlow _ (by omega), HW1.out, Below.heap_alloc _ _ _ (by simp; omega), Below.heap_alloc _ _ _ (by simp; omega), zw]
    exact heap_alloc_new w _
  have g1 : W0.heap[b0 + 1]? = some (.cells #[.int .i64 0] 3 (0, 0)) := by
    have := heap_alloc_new (w.alloc (.cells #[.string s] 9)) (.cells #[.int .i64 0] 3)
    rw [World.size_alloc, ← zw] at this
    rw [hlow _ (by omega), HW1.out, Below.heap_alloc _ _ _ (by simp; omega)]
    exact this
  have g2 : W0.heap[b0 + 1 + 1]? = some (.cells #[.bool false] 4 (0, 0)) := by
    have := heap_alloc_new ((w.alloc (.cells #[.string s] 9)).alloc (.cells #[.int .i64 0] 3)) (.cells #[.bool false] 4)
    rw [World.size_alloc, World.size_alloc, ← zw] at this
    rw [hlow _ (by omega), HW1.out]
    exact this
  have hHs : HsAt W0 sb q nx le := HH.out.below hB0
  have HG := Lib.hid (And.intro g0 (And.intro g1 (And.intro g2 (And.intro g3 (And.intro g4 g5)))))
  have HZ := Lib.hid (And.intro z1 (And.intro z2 (And.intro z3 (And.intro zx zw))))
  have HREC := Lib.hid hrec
  have HHS0 := Lib.hid hHs
  have HB00 := Lib.hid hB0
  clear g0 g1 g2 g3 g4 g5 hlow z1 z2 z3 zx zw hrec hHs hB0 hB2 hw2 hW0 hbx hD
  refine CallsIn.mono (entries1_in (d := 8) (sb := sb) (q := q) (nx := nx) (le := le) (bx := bx) (l := D + 1) (by omega) HL.out HO.out W0
    (fun k A => Below W0.heap.size W0 A ∧ ∀ j, j < k → le[j]? ≠ some c)
    (fun _ A => (∃ k, le[k]? = some c ∧ A.cell? ⟨b0 + 1, 0, none⟩ = some (.int .i64 (offE le k : Nat))) ∧ A.cell? ⟨b0 + 1 + 1, 0, none⟩ = some (.bool true) ∧ A.heap[D + 1]? = some (.loop (rec .done (some .ret))) ∧ A.heap[D]? = some (.deferred (some [])) ∧ Below w.heap.size w A) ?hI ?hY ⟨Below.refl _ _, fun j hj => by omega⟩) ?fin
  case hI =>
    rintro k A ⟨hb, _⟩
    obtain ⟨q0, q1, q2, q3, q4, q5⟩ := HG.out
    obtain ⟨z1, z2, z3, z4, z5⟩ := HZ.out
    exact ⟨HHS0.out.below hb, (hb.cell (p := ⟨bx, 0, none⟩) (by show bx < _; omega)).trans ((Lib.cell_of_heap q3 _).trans rfl)⟩
  case hY =>
    rintro k ce A hce ⟨hb, hno⟩
    obtain ⟨q0, q1, q2, q3, q4, q5⟩ := HG.out
    obtain ⟨z1, z2, z3, z4, z5⟩ := HZ.out
    have hlr : A.heap[D + 1]? = some (.loop (rec .ready none)) := (hb.block _ (by omega)).trans q5
    have hsz := hb.size
    obtain ⟨z, hz⟩ : ∃ z, z = offE le k := ⟨_, rfl⟩
    obtain ⟨t, ht⟩ : ∃ t : ByteArray, t = ⟨(heldE ce).toArray⟩ := ⟨_, rfl⟩
    rw [← hz, ← ht]
    obtain ⟨W3, hW3⟩ : ∃ W3, W3 = A.putObj (D + 1) (.loop (rec .busy none)) := ⟨_, rfl⟩
    have hb3 : W3.heap.size = A.heap.size := by rw [hW3]; simp
    have o3 : ∀ j, j ≠ D + 1 → W3.heap[j]? = A.heap[j]? := fun j hj => by rw [hW3]; exact World.putObj_heap_other hj
    have r3 : W3.heap[D + 1]? = some (.loop (rec .busy none)) := by rw [hW3]; exact World.putObj_heap_same (by omega)
    have m0 : W3.heap[b0]? = some (.cells #[.string s] 9 (0, 0)) := (o3 _ (by omega)).trans ((hb.block _ (by omega)).trans q0)
    have m1 : W3.heap[b0 + 1]? = some (.cells #[.int .i64 0] 3 (0, 0)) := (o3 _ (by omega)).trans ((hb.block _ (by omega)).trans q1)
    have m2 : W3.heap[b0 + 1 + 1]? = some (.cells #[.bool false] 4 (0, 0)) := (o3 _ (by omega)).trans ((hb.block _ (by omega)).trans q2)
    have m4 : W3.heap[D]? = some (.deferred (some [])) := (o3 _ (by omega)).trans ((hb.block _ (by omega)).trans q4)
    refine YieldAt.mono (yield_round (args := #[.int .i64 z, .string t]) HREC.out hlr rfl (fun b _ W' => (b = true → Below W0.heap.size W0 W' ∧ ∀ j, j < k + 1 → le[j]? ≠ some c) ∧ (b = false → (∃ k, le[k]? = some c ∧ W'.cell? ⟨b0 + 1, 0, none⟩ = some (.int .i64 (offE le k : Nat))) ∧ W'.cell? ⟨b0 + 1 + 1, 0, none⟩ = some (.bool true) ∧ W'.heap[D + 1]? = some (.loop (rec .done (some .ret))) ∧ W'.heap[D]? = some (.deferred (some [])) ∧ Below w.heap.size w W')) ?_) ?_
    · have HLR := Lib.hid hlr
      have HW3 := Lib.hid hW3
      have c0 : W3.cell? ⟨b0, 0, none⟩ = some (.string s) := (Lib.cell_of_heap m0 _).trans rfl
      have c1 : W3.cell? ⟨b0 + 1, 0, none⟩ = some (.int .i64 0) := (Lib.cell_of_heap m1 _).trans rfl
      have c2 : W3.cell? ⟨b0 + 1 + 1, 0, none⟩ = some (.bool false) := (Lib.cell_of_heap m2 _).trans rfl
      have f1 := Lib.frozen_of_heap m1 0
      have f2 := Lib.frozen_of_heap m2 0
      have HCE := Lib.hid hce
      by_cases he : ce = c
      · have hts : t = s := by rw [ht, HS.out, he]
        have HP : Hid (((W3.setCell ⟨b0 + 1, 0, none⟩ (.int .i64 z)).setCell ⟨b0 + 1 + 1, 0, none⟩ (.bool true)).heap[D + 1]? = some (.loop (rec .busy none)) ∧ (∃ k, le[k]? = some c ∧ (((W3.setCell ⟨b0 + 1, 0, none⟩ (.int .i64 z)).setCell ⟨b0 + 1 + 1, 0, none⟩ (.bool true)).putObj (D + 1) (.loop (rec .done (some .ret)))).cell? ⟨b0 + 1, 0, none⟩ = some (.int .i64 (offE le k : Nat))) ∧
            (((W3.setCell ⟨b0 + 1, 0, none⟩ (.int .i64 z)).setCell ⟨b0 + 1 + 1, 0, none⟩ (.bool true)).putObj (D + 1) (.loop (rec .done (some .ret)))).cell? ⟨b0 + 1 + 1, 0, none⟩ = some (.bool true) ∧
            (((W3.setCell ⟨b0 + 1, 0, none⟩ (.int .i64 z)).setCell ⟨b0 + 1 + 1, 0, none⟩ (.bool true)).putObj (D + 1) (.loop (rec .done (some .ret)))).heap[D + 1]? = some (.loop (rec .done (some .ret))) ∧
            (((W3.setCell ⟨b0 + 1, 0, none⟩ (.int .i64 z)).setCell ⟨b0 + 1 + 1, 0, none⟩ (.bool true)).putObj (D + 1) (.loop (rec .done (some .ret)))).heap[D]? = some (.deferred (some [])) ∧
            Below w.heap.size w (((W3.setCell ⟨b0 + 1, 0, none⟩ (.int .i64 z)).setCell ⟨b0 + 1 + 1, 0, none⟩ (.bool true)).putObj (D + 1) (.loop (rec .done (some .ret))))) := Lib.hid (by
          have k1 : Kept (fun k => k = b0 + 1) W3 (W3.setCell ⟨b0 + 1, 0, none⟩ (.int .i64 z)) := Kept.setCell (fun k => k = b0 + 1) W3 (b := b0 + 1) (i := 0) rfl _
          have k2 : Kept (fun k => k = b0 + 1 + 1) (W3.setCell ⟨b0 + 1, 0, none⟩ (.int .i64 z)) ((W3.setCell ⟨b0 + 1, 0, none⟩ (.int .i64 z)).setCell ⟨b0 + 1 + 1, 0, none⟩ (.bool true)) := Kept.setCell (fun k => k = b0 + 1 + 1) _ (b := b0 + 1 + 1) (i := 0) rfl _
          have s1 := heap_set_at m1 0 (.int .i64 z)
          have m2' := (k1.block (b0 + 1 + 1) (by omega) (by omega)).trans m2
          have s2 := heap_set_at m2' 0 (.bool true)
          obtain ⟨W5, hW5⟩ : ∃ W5, W5 = (W3.setCell ⟨b0 + 1, 0, none⟩ (.int .i64 z)).setCell ⟨b0 + 1 + 1, 0, none⟩ (.bool true) := ⟨_, rfl⟩
          have hz1 := k1.size
          have hz2 := k2.size
          rw [← hW5] at s2 k2 hz2 ⊢
          have s1' := (k2.block (b0 + 1) (by omega) (by omega)).trans s1
          have r5 : W5.heap[D + 1]? = some (.loop (rec .busy none)) := (k2.block (D + 1) (by omega) (by omega)).trans ((k1.block (D + 1) (by omega) (by omega)).trans r3)
          have m5 : W5.heap[D]? = some (.deferred (some [])) := (k2.block D (by omega) (by omega)).trans ((k1.block D (by omega) (by omega)).trans m4)
          have p1 : (W5.putObj (D + 1) (.loop (rec .done (some .ret)))).heap[b0 + 1]? = some _ := (World.putObj_heap_other (by omega)).trans s1'
          have p2 : (W5.putObj (D + 1) (.loop (rec .done (some .ret)))).heap[b0 + 1 + 1]? = some _ := (World.putObj_heap_other (by omega)).trans s2
          refine ⟨r5, ⟨k, by rw [HCE.out, he], by rw [← hz]; exact (Lib.cell_of_heap p1 _).trans rfl⟩, (Lib.cell_of_heap p2 _).trans rfl, World.putObj_heap_same (by omega), (World.putObj_heap_other (by omega)).trans m5, ?_⟩
          have t1 : Below w.heap.size w A := HB00.out.trans (hb.mono (HB00.out.size))
          have t3 : Below w.heap.size A W3 := by rw [hW3]; exact below_put A (by omega) _
          have t4 : Below w.heap.size W3 W5 := (k1.toBelow (by omega) (fun i e => by have e' : i = b0 + 1 := e; omega)).trans (k2.toBelow (by omega) (fun i e => by have e' : i = b0 + 1 + 1 := e; omega))
          exact t1.trans (t3.trans (t4.trans (below_put W5 (by omega) _))))
        clear hb hno hlr hsz hb3 o3 r3 m0 m1 m2 m4 q0 q1 q2 q3 q4 q5 z1 z2 z3 z4 z5 hce ht hz
        subst hts
        gi_wp2_with fail
        refine ⟨HLR.out, ?_⟩
        rw [← HW3.out]
        clear hW3
        gi_wp2
        exact ⟨HP.out.1, (fun e => by cases e), fun _ => HP.out.2⟩
      · have hts : t ≠ s := fun e => he (held_inj (HO.out ce (List.mem_of_getElem? hce)) HC.out (by
          rw [ht, HS.out] at e
          have e2 := congrArg (fun x => x.data.toList) e
          simpa using e2))
        have HP : Hid (W3.heap[D + 1]? = some (.loop (rec .busy none)) ∧ Below W0.heap.size W0 (W3.putObj (D + 1) (.loop (rec .ready none))) ∧ ∀ j, j < k + 1 → le[j]? ≠ some c) := Lib.hid ⟨r3, by rw [hW3]; exact below_again hb q5 (by omega), fun j hj e => by
          by_cases hjk : j = k
          · subst hjk; rw [HCE.out] at e; exact he (Option.some.inj e)
          · exact hno j (by omega) e⟩
        have hbe : (t.toList == s.toList) = false := by
          refine beq_eq_false_iff_ne.2 (fun e => hts ?_)
          rw [ByteArray.toList_eq, ByteArray.toList_eq] at e
          exact ByteArray.ext (Array.ext' e)
        have hde : decide (t = s) = false := decide_eq_false hts
        clear hb hno hlr hsz hb3 o3 r3 m0 m1 m2 m4 q0 q1 q2 q3 q4 q5 z1 z2 z3 z4 z5 hce ht hz
        gi_wp2_with fail
        refine ⟨HLR.out, ?_⟩
        rw [← HW3.out]
        clear hW3
        gi_wp2
        exact ⟨HP.out.1, (fun _ => HP.out.2), fun e => by cases e⟩
    · rintro e w' ⟨b, j, rfl, h1, h2⟩
      exact ⟨b, rfl, h1, h2⟩
  case fin =>
    rintro e A ⟨⟨v, rfl⟩, hh⟩
    obtain ⟨q0, q1, q2, q3, q4, q5⟩ := HG.out
    obtain ⟨z1, z2, z3, z4, z5⟩ := HZ.out
    rcases hh with ⟨hb, hno⟩ | ⟨_, _, ⟨k, hk, k1⟩, k2, r1, r2, hb⟩
    · have hsz := hb.size
      refine ⟨⟨_, rfl⟩, .inl ⟨(hb.block _ (by omega)).trans q5, ?_⟩⟩
      obtain ⟨W3, hW3⟩ : ∃ W3, W3 = A.putObj (D + 1) (.loop (rec .exhausted none)) := ⟨_, rfl⟩
      rw [← hW3]
      have hb3 : W3.heap.size = A.heap.size := by rw [hW3]; simp
      have o3 : ∀ j, j ≠ D + 1 → W3.heap[j]? = A.heap[j]? := fun j hj => by rw [hW3]; exact World.putObj_heap_other hj
      have m1 : W3.heap[b0 + 1]? = some (.cells #[.int .i64 0] 3 (0, 0)) := (o3 _ (by omega)).trans ((hb.block _ (by omega)).trans q1)
      have m2 : W3.heap[b0 + 1 + 1]? = some (.cells #[.bool false] 4 (0, 0)) := (o3 _ (by omega)).trans ((hb.block _ (by omega)).trans q2)
      have m4 : W3.heap[D]? = some (.deferred (some [])) := (o3 _ (by omega)).trans ((hb.block _ (by omega)).trans q4)
      have c1 : W3.cell? ⟨b0 + 1, 0, none⟩ = some (.int .i64 0) := (Lib.cell_of_heap m1 _).trans rfl
      have c2 : W3.cell? ⟨b0 + 1 + 1, 0, none⟩ = some (.bool false) := (Lib.cell_of_heap m2 _).trans rfl
      have f1 := Lib.frozen_of_heap m1 0
      have f2 := Lib.frozen_of_heap m2 0
      have k1 : Kept (fun k => k = b0 + 1) W3 (W3.setCell ⟨b0 + 1, 0, none⟩ (.int .i64 0)) := Kept.setCell (fun k => k = b0 + 1) W3 (b := b0 + 1) (i := 0) rfl _
      have k2 : Kept (fun k => k = b0 + 1 + 1) (W3.setCell ⟨b0 + 1, 0, none⟩ (.int .i64 0)) ((W3.setCell ⟨b0 + 1, 0, none⟩ (.int .i64 0)).setCell ⟨b0 + 1 + 1, 0, none⟩ (.bool false)) := Kept.setCell (fun k => k = b0 + 1 + 1) _ (b := b0 + 1 + 1) (i := 0) rfl _
      have hz1 := k1.size
      have hz2 := k2.size
      have s1 := (k2.block (b0 + 1) (by omega) (by omega)).trans (heap_set_at m1 0 (.int .i64 0))
      have s2 := heap_set_at ((k1.block (b0 + 1 + 1) (by omega) (by omega)).trans m2) 0 (.bool false)
      have HD3 : Hid (((W3.setCell ⟨b0 + 1, 0, none⟩ (.int .i64 0)).setCell ⟨b0 + 1 + 1, 0, none⟩ (.bool false)).heap[D]? = some (.deferred (some []))) := Lib.hid ((k2.block D (by omega) (by omega)).trans ((k1.block D (by omega) (by omega)).trans m4))
      have hp1 : (((W3.setCell ⟨b0 + 1, 0, none⟩ (.int .i64 0)).setCell ⟨b0 + 1 + 1, 0, none⟩ (.bool false)).putObj D (.deferred none)).heap[b0 + 1]? = some _ := (World.putObj_heap_other (by omega)).trans s1
      have hp2 : (((W3.setCell ⟨b0 + 1, 0, none⟩ (.int .i64 0)).setCell ⟨b0 + 1 + 1, 0, none⟩ (.bool false)).putObj D (.deferred none)).heap[b0 + 1 + 1]? = some _ := (World.putObj_heap_other (by omega)).trans s2
      have HP1 := Lib.hid ((Lib.cell_of_heap hp1 0).trans rfl)
      have HP2 := Lib.hid ((Lib.cell_of_heap hp2 0).trans rfl)
      have HNM : Hid (c ∉ le) := Lib.hid fun hm => by
        obtain ⟨j, hj⟩ := List.getElem?_of_mem hm
        exact hno j (List.getElem?_eq_some_iff.1 hj).1 hj
      have HBF : Hid (Below w.heap.size w (((W3.setCell ⟨b0 + 1, 0, none⟩ (.int .i64 0)).setCell ⟨b0 + 1 + 1, 0, none⟩ (.bool false)).putObj D (.deferred none))) := Lib.hid (by
        have t1 : Below w.heap.size w A := HB00.out.trans (hb.mono (HB00.out.size))
        have t3 : Below w.heap.size A W3 := by rw [hW3]; exact below_put A (by omega) _
        have t4 := (k1.toBelow (B := w.heap.size) (by omega) (fun i e => by have e' : i = b0 + 1 := e; omega)).trans (k2.toBelow (B := w.heap.size) (by omega) (fun i e => by have e' : i = b0 + 1 + 1 := e; omega))
        exact t1.trans (t3.trans (t4.trans (below_put _ (by omega) _))))
      clear hb hno hsz hb3 o3 m1 m2 m4 k1 k2 hz1 hz2 s1 s2 hp1 hp2 q0 q1 q2 q3 q4 q5 z1 z2 z3 z4 z5 hW3
      gi_wp2
      refine ⟨by simp, .inl ⟨_, _, rfl, run_takeDeferred HD3.out, ?_⟩⟩
      exact ⟨_, results_two rfl _ _ (b0 + 1) (b0 + 1 + 1) _ _ rfl rfl HP1.out HP2.out, .inr ⟨HNM.out, rfl⟩, HBF.out⟩
    · refine ⟨⟨_, rfl⟩, .inr ⟨.ret, r1, ?_⟩⟩
      obtain ⟨W3, hW3⟩ : ∃ W3, W3 = A.putObj (D + 1) (.loop (rec .exhausted (some .ret))) := ⟨_, rfl⟩
      rw [← hW3]
      have hsz : D + 1 < A.heap.size := (Array.getElem?_eq_some_iff.1 r1).1
      have o3 : ∀ j, j ≠ D + 1 → W3.heap[j]? = A.heap[j]? := fun j hj => by rw [hW3]; exact World.putObj_heap_other hj
      have HD3 : Hid (W3.heap[D]? = some (.deferred (some []))) := Lib.hid ((o3 _ (by omega)).trans r2)
      have hp1 : (W3.putObj D (.deferred none)).cell? ⟨b0 + 1, 0, none⟩ = some (.int .i64 (offE le k : Nat)) := (World.cell?_of_block (w := A) (a := ⟨b0 + 1, 0, none⟩) ((World.putObj_heap_other (by show b0 + 1 ≠ D; omega)).trans (o3 _ (by show b0 + 1 ≠ D + 1; omega)))).trans k1
      have hp2 : (W3.putObj D (.deferred none)).cell? ⟨b0 + 1 + 1, 0, none⟩ = some (.bool true) := (World.cell?_of_block (w := A) (a := ⟨b0 + 1 + 1, 0, none⟩) ((World.putObj_heap_other (by show b0 + 1 + 1 ≠ D; omega)).trans (o3 _ (by show b0 + 1 + 1 ≠ D + 1; omega)))).trans k2
      have HP1 := Lib.hid hp1
      have HP2 := Lib.hid hp2
      have HK := Lib.hid hk
      have HBF : Hid (Below w.heap.size w (W3.putObj D (.deferred none))) := Lib.hid (by
        have t3 : Below w.heap.size A W3 := by rw [hW3]; exact below_put A (by omega) _
        exact hb.trans (t3.trans (below_put _ (by omega) _)))
      clear hb o3 hk k1 k2 r1 r2 hp1 hp2 hsz q0 q1 q2 q3 q4 q5 z1 z2 z3 z4 z5 hW3
      gi_wp2
      refine ⟨by simp, .inl ⟨_, _, rfl, run_takeDeferred HD3.out, ?_⟩⟩
      exact ⟨_, results_two rfl _ _ (b0 + 1) (b0 + 1 + 1) _ _ rfl rfl HP1.out HP2.out, .inl ⟨k, HK.out, rfl⟩, HBF.out⟩
end
end Go.Proofs.YtefddiikdamnbaaGreatDoor.Dm

/- Contract: the sheets of chains, handed over one by one; whoever takes them may write what is made since. -/
set_option maxRecDepth 100000
namespace Go.Proofs.YtefddiikdamnbaaGreatDoor.Dm
open Go Go.RowKit Go.Shelf
attribute [local go_sem] Oper.semAt_some

set_option maxHeartbeats 6400000 in
theorem along2_in {J : List RawOp → Prop} {B : Nat} {c : Ac} {h : Hd} {G : Nat → List UInt8} {hb r tb o m cp b1 b2 b3 l d pg n cnt : Nat} {F : Nat → Nat} {cs : List Chn} (hd1 : 1 ≤ d)
    (hm : cs.length = m) (hom : o + m ≤ 250) (hF : ∀ i (hi : i < cs.length), F (o + i) = fstP (cs[i]'hi)) (hon : ∀ ch ∈ cs, ChOn h G pg ch) (hnd : (pgsC cs.flatten).Nodup) (hpg : pg < 4096)
    (C : Nat → Prop) (Js Jx : (Nat → Prop) → List (Nat × List Et) → World → Prop) (S : Nat → Prop) (W : World) (hC : ∀ k, C k → k < W.heap.size)
    (hI : ∀ S s A, Js S s A → HxAt A hb c.a r ∧ ¬ S hb ∧ IterAt A hb tb o m cp b1 b2 b3 ∧ TbAt A tb pg n cnt F)
    (hJ : ∀ S A S' B' s, ActV J B S c h G A → Js S s A → Kept (fun k => S k ∨ k = W.heap.size) A B' → (∀ k, k < A.heap.size → S' k → S k) → ActV J B S' c h G B' → Js S' s B')
    (hY : ∀ S pre q (le : List Et) nx sb A, ActV J B S c h G A → Js S pre A → pre ++ [(q, le)] <+: cs.flatten → ShOn h G pg nx q le → nx < 4096 → HsAt A sb q nx le → ¬ S sb → W.heap.size < sb →
      YieldAt Fence.wide (d - 1) Tryz.prog l #[.pointer (some ⟨sb, 0, none⟩)] A (YPosX J B c h G (fun k => C k ∨ (W.heap.size < k ∧ k ≠ sb)) Js Jx S (pre ++ [(q, le)]) A))
    (x : ActV J B S c h G W) (h0 : Js S [] W) :
    CallsIn Fence.wide d Tryz.prog 177 #[.func (.yield l) #[] #[], .pointer (some ⟨b2, 0, none⟩), .pointer (some ⟨b3, 0, none⟩), .pointer (some ⟨b1, 0, none⟩)] W (SeqEndX J B c h G Js Jx cs.flatten) := by
  obtain ⟨sn, hsn⟩ : ∃ sn, sn = W.heap.size := ⟨_, rfl⟩
  rw [← hsn] at hC hJ hY
  have hSsn : ¬ S sn := fun hs => by have := (x.low _ hs).2; omega
  have h1sn : 1 ≤ sn := by have := x.tab.2; have := x.size; omega
  obtain ⟨W1, hW1⟩ : ∃ W1, W1 = W.alloc (.cells Tryz.zeroCells245 245) := ⟨_, rfl⟩
  have hbW : Below W.heap.size W W1 := by rw [hW1]; exact (Below.refl _ _).alloc (Nat.le_refl _) _
  have hsv : SeenAt W1 sn (fun _ => false) := by
    unfold SeenAt
    rw [hW1, hsn, zeroSeen]
    exact heap_alloc_new W _
  have hxW : ActV J B S c h G W1 := x.below hbW
  have hJ1 : Js S [] W1 := hJ _ _ _ _ _ x h0 ((Kept.ofBelow hbW).mono (fun _ hk => .inl hk)) (fun _ _ hs => hs) hxW
  obtain ⟨i1, i2, ⟨j1, j2, j3⟩, i4⟩ := hI _ _ _ hJ1
  have k2 : W1.cell? ⟨b2, 0, none⟩ = some (.pointer (some ⟨tb, 0, none⟩)) := (Lib.cell_of_heap j2 _).trans rfl
  have t0 := i4.cells.1
  have s0 := hsv.at_ hpg
  have sf := hsv.frozen pg
  have hks : Kept (fun k => k = sn) W1 (W1.setCell ⟨sn, pg, none⟩ (.bool true)) := Kept.setCell (fun k => k = sn) W1 (b := sn) (i := pg) rfl _
  have hx2 : ActV J B S c h G (W1.setCell ⟨sn, pg, none⟩ (.bool true)) := hxW.kept hks (fun k e _ => by have e' : k = sn := e; rw [e']; exact ⟨hSsn, h1sn⟩)
  have hJ2 : Js S [] (W1.setCell ⟨sn, pg, none⟩ (.bool true)) := hJ _ _ _ _ _ hxW hJ1 (hks.mono (fun _ e => .inr e)) (fun _ _ hs => hs) hx2
  have k3 : (W1.setCell ⟨sn, pg, none⟩ (.bool true)).cell? ⟨b3, 0, none⟩ = some (.slice (some ⟨tb, 3 + o, none⟩) m cp) := (Lib.cell_of_heap (hI _ _ _ hJ2).2.2.1.2.2 _).trans rfl
  have HST : Hid (∃ S' V, ActV J B S' c h G (W1.setCell ⟨sn, pg, none⟩ (.bool true)) ∧ Js S' (cs.take 0).flatten (W1.setCell ⟨sn, pg, none⟩ (.bool true)) ∧ SeenAt (W1.setCell ⟨sn, pg, none⟩ (.bool true)) sn V ∧ ¬ S' sn ∧ ∀ q, V q = true → q = pg ∨ q ∈ pgsC (cs.take 0).flatten) := Lib.hid
    ⟨S, _, hx2, hJ2, hsv.mark pg, hSsn, fun q hq => by
      unfold updB at hq
      split at hq
      · exact .inl ‹_›
      · cases hq⟩
  have HI := Lib.hid hI
  have HJ := Lib.hid hJ
  have HY := Lib.hid hY
  have HC := Lib.hid hC
  have HW1 := Lib.hid hW1
  have HSN := Lib.hid hsn
  have HF := Lib.hid hF
  have HON := Lib.hid hon
  have HND := Lib.hid hnd
  have HM := Lib.hid hm
  have HPG := Lib.hid hpg
  have p0 : (0 : Int) ≤ (pg : Int) := by omega
  have p1 : (pg : Int) < 4096 := by omega
  clear hsn hW1 hI hJ hY hC x h0 hxW hJ1 i1 i2 j1 j2 j3 i4 hks hx2 hJ2 hsv hbW hSsn hF hon hnd
  refine callsIn_of_wp Tryz.func177 rfl trivial ?_ rfl
  simp only [Tryz.ntmps177, List.size_toArray, List.length_cons, List.length_nil, Nat.reduceAdd, Nat.reduceSub, Array.replicate_succ, Array.replicate_zero, List.push_toArray, List.append_toArray, List.nil_append, List.cons_append]
  have hF1 : Fence.wide.fn 14 := trivial
  have hF2 : Fence.wide.fn 178 := trivial
  refine wpIn_wide.2 (wp_scope_straight ((wpIn_wide (n := d)).1 ?_))
  refine wpIn_seq ?_
  refine wpIn_wide.2 ?_
  go_wp2_with (refine wpList_val rfl _ (exec_alloc_seen rfl _) ?_)
  rw [← HW1.out, ← HSN.out]
  gi_wp2
  refine wpIn_wide.2 (wp_label ?_)
  gi_wp2
  gi_loopw [18] (fun vi wr => ∃ i : Nat, vi = .int .i64 i ∧ i ≤ m ∧ Hid (∃ S' V, ActV J B S' c h G wr ∧ Js S' (cs.take i).flatten wr ∧ SeenAt wr sn V ∧ ¬ S' sn ∧ ∀ q, V q = true → q = pg ∨ q ∈ pgsC (cs.take i).flatten)) (fun vi _ => m - (intOf vi).toNat)
  case atStart => exact ⟨0, rfl, by omega, HST⟩
  case round =>
    clear HST
    obtain ⟨i, rfl, hi, HS⟩ := hrel
    by_cases him : i < m
    · have hic : (i : Int) < (m : Int) := by omega
      obtain ⟨S1, V1, x1, J1, sv1, ns1, v1⟩ := HS.out
      obtain ⟨_, _, _, tb1⟩ := HI.out _ _ _ J1
      have hil : i < cs.length := by have := HM.out; omega
      obtain ⟨ch, hch⟩ : ∃ ch, ch = cs[i]'hil := ⟨_, rfl⟩
      have q1 := tb1.first (b := o + i) (by omega)
      rw [HF.out i hil, ← hch, show 3 + (o + i) = 3 + o + i by omega] at q1
      have hfl : cs.flatten = (cs.take i).flatten ++ (ch ++ (cs.drop (i + 1)).flatten) := by
        have e1 : cs = cs.take i ++ ch :: cs.drop (i + 1) := by rw [hch, ← List.drop_eq_getElem_cons hil, List.take_append_drop]
        have e2 := congrArg List.flatten e1
        rw [List.flatten_append, List.flatten_cons] at e2
        exact e2
      have HONC : Hid (ChOn h G pg ch) := Lib.hid (HON.out ch (by rw [hch]; exact List.getElem_mem hil))
      have hnd := HND.out
      rw [hfl, pgsC_app, pgsC_app] at hnd
      obtain ⟨n1, n2, n3⟩ := List.nodup_append.1 hnd
      obtain ⟨n4, n5, n6⟩ := List.nodup_append.1 n2
      have HNC : Hid ((pgsC ch).Nodup) := Lib.hid n4
      have HNO : Hid (∀ q ∈ pgsC ch, q ∉ pgsC (cs.take i).flatten) := Lib.hid fun q hq hq2 => n3 q hq2 q (List.mem_append_left _ hq) rfl
      have HFL := Lib.hid hfl
      have HNX : Hid ((cs.take (i + 1)).flatten = (cs.take i).flatten ++ ch) := Lib.hid (by
        rw [List.take_succ_eq_append_getElem hil, List.flatten_append, ← hch]
        simp)
      have HS2 : Hid (∃ S' V, ActV J B S' c h G wr ∧ Js S' ((cs.take i).flatten ++ ch.take 0) wr ∧ SeenAt wr sn V ∧ ¬ S' sn ∧ ∀ q, V q = true → q = pg ∨ q ∈ pgsC ((cs.take i).flatten ++ ch.take 0)) := Lib.hid (by
        rw [List.take_zero, List.append_nil]
        exact HS.out)
      obtain ⟨pre0, hpre0⟩ : ∃ p, p = (cs.take i).flatten := ⟨_, rfl⟩
      rw [← hpre0] at HS2 HNX HNO HFL
      have g0 : (0 : Int) ≤ (i : Int) := by omega
      clear hfl hnd n1 n2 n3 n4 n5 n6 x1 J1 sv1 ns1 v1 tb1 HS hch hpre0
      gi_wp2
      gi_loopw [7] (fun vq wq => ∃ j q : Nat, vq = .int .i64 q ∧ j ≤ ch.length ∧ Hid (q = fstP (ch.drop j)) ∧ Hid (∃ S' V, ActV J B S' c h G wq ∧ Js S' (pre0 ++ ch.take j) wq ∧ SeenAt wq sn V ∧ ¬ S' sn ∧ ∀ q, V q = true → q = pg ∨ q ∈ pgsC (pre0 ++ ch.take j))) (fun vq _ => leftC ch (intOf vq).toNat)
      case atStart => exact ⟨0, _, rfl, by omega, Lib.hid rfl, HS2⟩
      case round =>
        clear HS2 q1
        obtain ⟨j, q, rfl, hj, HQ, HS⟩ := hrel
        by_cases hjl : j < ch.length
        · obtain ⟨S2, V2, x2, J2, sv2, ns2, v2⟩ := HS.out
          obtain ⟨le, hle⟩ : ∃ le, le = (ch[j]'hjl).2 := ⟨_, rfl⟩
          have hq1 : q = (ch[j]'hjl).1 := by rw [HQ.out, fst_drop hjl]
          have hcj : ch[j]'hjl = (q, le) := by rw [hq1, hle]
          obtain ⟨nx, hnx⟩ : ∃ nx, nx = fstP (ch.drop (j + 1)) := ⟨_, rfl⟩
          have hsplit : ch = ch.take j ++ (q, le) :: ch.drop (j + 1) := by rw [← hcj, ← List.drop_eq_getElem_cons hjl, List.take_append_drop]
          have hsh : ShOn h G pg nx q le := by
            have h1 := HONC.out
            rw [hsplit] at h1
            rw [hnx]
            exact (ChOn.app h1).1
          have hqm : q ∈ pgsC ch := by rw [hsplit, pgsC_app, pgsC_cons]; simp
          have hqn : q ∉ pgsC (pre0 ++ ch.take j) := by
            rw [pgsC_app, List.mem_append]
            rintro (h1 | h1)
            · exact HNO.out q hqm h1
            · have h2 := HNC.out
              rw [hsplit, pgsC_app, pgsC_cons] at h2
              exact (List.nodup_append.1 h2).2.2 q h1 q (List.mem_cons_self ..) rfl
          have hqlt := x2.has_lt hsh.has
          have hVq : V2 q = false := by
            cases hv : V2 q with
            | false => rfl
            | true => rcases v2 q hv with e | e
                      · exact absurd e hsh.ne
                      · exact absurd e hqn
          have hnxl : nx < 4096 := by
            rw [hnx]
            by_cases hj1 : j + 1 < ch.length
            · rw [fst_drop hj1]
              have hm1 : (ch[j + 1]'hj1).1 ∈ pgsC ch := List.mem_map.2 ⟨_, List.getElem_mem hj1, rfl⟩
              exact (x2.has_lt (ChOn.has HONC.out _ hm1).1).2
            · rw [List.drop_of_length_le (by omega)]
              show 0 < 4096
              omega
          have htk : pre0 ++ ch.take (j + 1) = (pre0 ++ ch.take j) ++ [(q, le)] := by rw [List.take_succ_eq_append_getElem hjl, hcj, List.append_assoc]
          have hpf : (pre0 ++ ch.take j) ++ [(q, le)] <+: cs.flatten := by
            rw [← htk, HFL.out]
            refine ⟨ch.drop (j + 1) ++ (cs.drop (i + 1)).flatten, ?_⟩
            rw [← List.append_assoc, List.append_assoc pre0, List.take_append_drop, List.append_assoc]
          have hlq : leftC ch nx < leftC ch q := by
            have e1 := leftC_at HNC.out hjl
            rw [← HQ.out] at e1
            rw [e1, hnx]
            by_cases hj1 : j + 1 < ch.length
            · rw [leftC_at HNC.out hj1]; omega
            · rw [List.drop_of_length_le (by omega)]
              show leftC ch 0 < _
              rw [leftC_zero (fun p hp => ChOn.nz HONC.out p hp)]; omega
          obtain ⟨i1, i2, ⟨j1, _, _⟩, _⟩ := HI.out _ _ _ J2
          have k1 : wr.cell? ⟨b1, 0, none⟩ = some (.pointer (some ⟨hb, 0, none⟩)) := (Lib.cell_of_heap j1 _).trans rfl
          have k4 := i1.c1
          have hrd := read_v x2 q hsh.has
          rw [hsh.is] at hrd
          obtain ⟨s, hs⟩ : ∃ s : ByteArray, s = ⟨(shE nx le).toArray⟩ := ⟨_, rfl⟩
          rw [← hs] at hrd
          have HRD := Lib.hid ((callsIn_wide (n := d - 1)).2 hrd)
          have HSO : Hid (∀ W, CallsIn Fence.wide (d - 1) Tryz.prog 178 #[.int .i64 q, .string s] W (HsPost q nx le W)) := Lib.hid fun W => callsIn_wide.2 (by rw [hs]; exact sheetOf_h q nx le W hsh.fit hsh.ok hnxl)
          have hq0 : ¬ (q : Int) = 0 := by omega
          have a0 : (0 : Int) ≤ (q : Int) := by omega
          have a1 : (q : Int) < 4096 := by omega
          have HX2 := Lib.hid x2
          have HJ2 := Lib.hid J2
          have HSV := Lib.hid sv2
          have HNS := Lib.hid ns2
          have HV2 := Lib.hid v2
          have HVQ := Lib.hid hVq
          have HSH := Lib.hid hsh
          have HTK := Lib.hid htk
          have HPF := Lib.hid hpf
          have HLQ := Lib.hid hlq
          have HNXE := Lib.hid hnx
          clear x2 J2 sv2 ns2 v2 hVq hsh htk hpf hlq hnx hs hrd i1 i2 j1 hqm hqn hqlt hsplit hcj hle hq1 HS HQ
          gi_wp2_with fail
          refine HRD.out.mono ?_
          rintro e w1 ⟨rfl, S3, hT3, x3⟩
          have sv3 := HSV.out.kept hT3.1 HNS.out
          have ns3 : ¬ S3 sn := fun hs => HNS.out (hT3.2 sn HSV.out.lt hs)
          have J3 := HJ.out _ _ _ _ _ HX2.out HJ2.out (hT3.1.mono (fun _ hk => .inl hk)) hT3.2 x3
          have s1 := sv3.at_ (i := q) (by omega)
          rw [HVQ.out] at s1
          have s2 := sv3.frozen q
          have hks : Kept (fun k => k = sn) w1 (w1.setCell ⟨sn, q, none⟩ (.bool true)) := Kept.setCell (fun k => k = sn) w1 (b := sn) (i := q) rfl _
          have x4 : ActV J B S3 c h G (w1.setCell ⟨sn, q, none⟩ (.bool true)) := x3.kept hks (fun k e _ => by have e' : k = sn := e; rw [e']; exact ⟨ns3, h1sn⟩)
          have J4 := HJ.out _ _ _ _ _ x3 J3 (hks.mono (fun _ e => .inr e)) (fun _ _ hs => hs) x4
          have sv4 := sv3.mark q
          have H4 := Lib.hid (And.intro x4 (And.intro J4 (And.intro sv4 ns3)))
          clear hT3 x3 sv3 ns3 J3 hks x4 J4 sv4 HRD HX2 HJ2 HSV HNS HVQ k1 k4
          gi_wp2_with fail
          refine (HSO.out _).mono ?_
          rintro e w3 ⟨sb, rfl, hsb, hs3, hb3⟩
          obtain ⟨x4, J4, sv4, ns3⟩ := H4.out
          have x5 := x4.below hb3
          have J5 := HJ.out _ _ _ _ _ x4 J4 ((Kept.ofBelow hb3).mono (fun _ hk => .inl hk)) (fun _ _ hs => hs) x5
          have sv5 := sv4.kept (Kept.ofBelow (S := fun _ => False) hb3) (fun h => h)
          have nsb : ¬ S3 sb := fun hs => by have := (x4.low _ hs).2; omega
          have hsnb : sn < sb := Nat.lt_of_lt_of_le sv4.lt hsb
          have hY1 := HY.out S3 (pre0 ++ ch.take j) q le nx sb w3 x5 J5 HPF.out HSH.out hnxl hs3 nsb hsnb
          obtain ⟨fn, tmps, assign, body, hyy, hRr⟩ := hY1
          have HRr := Lib.hid hRr
          have HHS := Lib.hid (And.intro hs3 (And.intro nsb hsnb))
          have HSV5 := Lib.hid (And.intro sv5 ns3)
          clear x4 J4 sv4 ns3 x5 J5 sv5 nsb hsnb hRr hs3 hb3 hsb H4 HSO s1 s2
          gi_wp2_with fail
          refine HRr.out.mono ?_
          rintro e W3 ⟨bb, S4, rfl, hp1, hp2⟩
          cases bb with
          | false =>
            have HQ := Lib.hid (hp2 rfl)
            clear hp1 hp2
            gi_wp2
            (try simp only [Exit.noGoto])
            refine bodyPost_ret (results_none rfl _ _ _) rfl ?_
            exact ⟨⟨_, rfl⟩, .inr ⟨S4, _, HPF.out, HQ.out⟩⟩
          | true =>
            obtain ⟨hT4, x6, J6⟩ := hp1 rfl
            obtain ⟨hs3, nsb, hsnb⟩ := HHS.out
            obtain ⟨sv5, ns5⟩ := HSV5.out
            have hs6 := hs3.kept hT4.1 (fun h => h.elim nsb (fun h => h.elim (fun h => by have := HC.out _ h; omega) (fun h => h.2 rfl)))
            have sv6 := sv5.kept hT4.1 (fun h => h.elim ns5 (fun h => h.elim (fun h => by have := HC.out _ h; omega) (fun h => by omega)))
            have ns6 : ¬ S4 sn := fun hs => ns5 (hT4.2 sn sv5.lt hs)
            obtain ⟨_, d1, _⟩ := hs6.cells
            rw [← HTK.out] at J6
            have HNEW : Hid (∃ S' V, ActV J B S' c h G W3 ∧ Js S' (pre0 ++ ch.take (j + 1)) W3 ∧ SeenAt W3 sn V ∧ ¬ S' sn ∧ ∀ q, V q = true → q = pg ∨ q ∈ pgsC (pre0 ++ ch.take (j + 1))) := Lib.hid ⟨S4, _, x6, J6, sv6, ns6, fun p hp => by
              unfold updB at hp
              rw [HTK.out, pgsC_app, List.mem_append]
              split at hp
              · rename_i e
                exact .inr (.inr (by rw [e]; simp [pgsC]))
              · exact (HV2.out p hp).imp id .inl⟩
            clear x6 J6 hs3 nsb hsnb sv5 ns5 hs6 sv6 ns6 hp1 hp2 hT4
            gi_wp2
            go_roundw
            case rel => exact ⟨j + 1, nx, rfl, by omega, HNXE, HNEW⟩
            case measure => simp [intOf]; exact HLQ.out
        · obtain rfl : j = ch.length := by omega
          have hq0 : q = 0 := by rw [HQ.out, List.drop_of_length_le (Nat.le_refl _)]; rfl
          subst hq0
          have HS3 : Hid (∃ S' V, ActV J B S' c h G wr ∧ Js S' (cs.take (i + 1)).flatten wr ∧ SeenAt wr sn V ∧ ¬ S' sn ∧ ∀ q, V q = true → q = pg ∨ q ∈ pgsC (cs.take (i + 1)).flatten) := Lib.hid (by
            rw [HNX.out]
            have := HS.out
            rw [List.take_length] at this
            exact this)
          clear HS HQ
          gi_wp2
          go_roundw
          case rel => exact ⟨i + 1, by go_num, by omega, HS3⟩
          case measure => simp [intOf]; omega
    · obtain rfl : i = m := by omega
      have HS3 : Hid (∃ S', ActV J B S' c h G wr ∧ Js S' cs.flatten wr) := Lib.hid (by
        obtain ⟨S1, V1, x1, J1, _⟩ := HS.out
        rw [List.take_of_length_le (by have := HM.out; omega)] at J1
        exact ⟨S1, x1, J1⟩)
      clear HS
      gi_wp2
      (try simp only [Exit.noGoto])
      go_end0
      exact ⟨⟨_, rfl⟩, .inl HS3.out⟩
end Go.Proofs.YtefddiikdamnbaaGreatDoor.Dm
