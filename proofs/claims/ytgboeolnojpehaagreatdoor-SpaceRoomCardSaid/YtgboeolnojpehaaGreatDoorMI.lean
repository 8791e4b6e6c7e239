/- Texts of the same proof, one behind the other: SZM, SZN, SZO, SZP, SZQ. -/
import Derived.Test.YtgboeolnojpehaaGreatDoorMH
import Derived.Test.YtgboeolnojpehaaGreatDoorRows
import Derived.ProofKit
import Derived.LaidMore
import Derived.OpenShut
import Derived.Stop.Joined
import Derived.Carry
import Derived.Lib.LaidTab
/- The law's awake. -/
set_option maxRecDepth 100000
namespace Go.Proofs.YtgboeolnojpehaaGreatDoor
open Go.RowKit

def aS : ByteArray := ⟨#[97]⟩
def nowA : List UInt8 := splice noughts 0 aS.data.toList
def hA : Hd := (Hd.zero.setCount 1).setRoot 3 1
def psA : List Pt := [⟨1, 0, ⟨#[]⟩⟩, ⟨1, 0, aS⟩]
def yA (b : Nat) : Dr := Dr.put ⟨b, true, noughts, noughts⟩ 0 aS.data.toList
theorem nowA_eq : nowA = 97 :: List.replicate 511 0 := by decide +kernel
theorem chA : chUpto noughts nowA 512 = [(0, 1)] := by decide +kernel
theorem ptsA (b : Nat) (D : Nat → Option Dr) (h : D 1 = some (yA b)) : allPts D [1] = psA := by
  have e : drPts 1 (yA b) = psA := by
    show freshPt 1 true ++ (chUpto noughts nowA 512).map (sgPt 1 nowA) = _
    rw [chA, nowA_eq]
    rfl
  simp [allPts, h, drPtsO, e]
theorem fitsA : ∀ p ∈ psA, p.Fits := by
  intro p hp
  simp only [psA, List.mem_cons, List.not_mem_nil, or_false] at hp
  rcases hp with rfl | rfl
  · exact ⟨by decide, by decide +kernel⟩
  · exact ⟨by decide, by decide +kernel⟩
theorem recA_len : (recB hA psA).length = 87 := by decide +kernel
theorem appA : appCode [] ⟨(recB hA psA).toArray⟩ = 0 := by
  have h : (⟨(recB hA psA).toArray⟩ : ByteArray).size = 87 := by rw [← recA_len]; simp [ByteArray.size]
  unfold appCode
  rw [if_neg (by rw [h]; omega), if_neg (by rw [h]; decide)]
theorem okA : hA.Ok := (Hd.zero_ok.setCount (by decide) (by decide)).setRoot (by omega) (by omega)
theorem hasA : hA.has 1 := by decide +kernel
theorem rootA : hA.root 3 = 1 := by decide +kernel
theorem nextA {q : Nat} {h' : Hd} (h : Hd.zero.NextIs q h') : q = 1 ∧ h' = Hd.zero.setCount 1 := by
  rcases h with ⟨h1, _, _⟩ | ⟨_, _, rfl, rfl⟩
  · have := (Hd.zero_ok.isFree_lt h1).2.1
    have := (Hd.zero_ok.isFree_lt h1).1
    simp [Hd.zero] at *; omega
  · exact ⟨rfl, rfl⟩
theorem splice_len512 {l cs : List UInt8} (h : l.length = 512) (hc : cs.length ≤ 512) : (splice l 0 cs).length = 512 := by
  rw [length_splice]
  · exact h
  · omega
/-- What page 1 reads behind these patches. -/
theorem pageA (C : Nat → List UInt8) (h : (C 1).length = 512) : ∃ s : ByteArray, s = ⟨(appC C psA 1).toArray⟩ ∧ s.size = 512 ∧ s.data.toList[0]? = some 97 := by
  have e : appC C psA 1 = splice (splice (C 1) 0 noughts) 0 aS.data.toList := by
    simp only [appC, psA, List.foldl_cons, List.foldl_nil, appP]
    rw [upd_same, upd_same]
    rfl
  have h1 : (splice (C 1) 0 noughts).length = 512 := splice_len512 h (by rw [noughts_length]; omega)
  refine ⟨_, rfl, ?_, ?_⟩
  · rw [e]
    have h2 := splice_len512 (cs := aS.data.toList) h1 (by decide)
    rw [← h2]; simp [ByteArray.size]
  · rw [e, splice_get _ _ _ (by rw [h1]; decide)]
    rfl
theorem rs_one {r : ByteArray} (h1 : 1 ≤ r.size) (h2 : r.size ≤ 1048576) : Recs [r] := fun x hx => by rw [List.mem_singleton] at hx; subst hx; exact ⟨h1, h2⟩
theorem short0 (ops : List RawOp) (rs : List ByteArray) (h : JL rs [] ops) : (rHd (play ops 2, false)).2.2 = true := by rw [h.2]; decide +kernel

set_option maxHeartbeats 3200000 in
theorem slaw_awake (w : World) (hT : Tab w) : Calls Tryz.prog 20 #[] w fun e w' => e = .returned (.bool true) ∧ Below w.heap.size w w' := by
  obtain ⟨B, hBe⟩ : ∃ B, B = w.heap.size := ⟨_, rfl⟩
  have hB1 : 1 ≤ B := by rw [hBe]; exact hT.1
  have HT := Lib.hid hT
  have HBE := Lib.hid hBe
  clear hBe hT
  go_enter Tryz.func20, Tryz.ntmps20
  go_wp2_with fail
  refine (new_disk _).mono ?_
  rintro e w1 ⟨rfl, hd1, hb1⟩
  rw [← HBE.out] at hd1 hb1 ⊢
  have HB1 := Lib.hid hb1
  have HD1 := Lib.hid hd1.bound; clear hd1 hb1
  go_wp2_with fail
  refine (open_sp (J := JL [] []) (B := B) (n := 4) (N := 0) [] [] [] HD1.out (fun k hk => hk) rfl (fun r hr => by cases hr) (by omega) (by omega) (by simp) ⟨rfl, rfl⟩ rfl (fun i h1 => by simp at h1) (by decide) Hd.zero_ok (Saves.jl _ _) (fun ops h => short0 ops _ h) (by have := HB1.out.size; have := HBE.out; omega)).mono ?_
  rintro e w2 ⟨s, l, p, S2, rfl, hs2, hb2⟩
  have HB2 := Lib.hid (HB1.out.trans hb2); have HS2 := Lib.hid hs2; clear hs2 hb2
  go_wp2_with fail
  refine (begin_sp HS2.out).mono ?_
  rintro e w3 ⟨a, db, rfl, h3, hb3, _⟩
  have HB3 := Lib.hid (HB2.out.trans hb3); have H3 := Lib.hid h3; clear h3 hb3 HS2
  go_wp2_with fail
  refine (alloc_live H3.out (HT.out.below HB3.out (by omega))).mono ?_
  rintro e w4 (⟨q, h', b, hn, rfl, h4, hb4, _⟩ | ⟨_, hc, _, _⟩)
  rotate_left
  · exfalso; simp [resH, Hd.zero] at hc
  obtain ⟨rfl, rfl⟩ := nextA hn
  have HB4 := Lib.hid (HB3.out.trans hb4); have H4 := Lib.hid h4; clear h4 hb4 hn H3
  go_wp2_with fail
  refine (write_draft 1 0 _ aS H4.out (upd_same _ _ _) (by decide)).mono ?_
  rintro e w5 ⟨rfl, h5, hb5⟩
  have HB5 := Lib.hid (HB4.out.trans hb5); have H5 := Lib.hid h5; clear h5 hb5 H4
  go_wp2_with fail
  refine (setRoot_live 3 1 H5.out (by omega) (by omega)).mono ?_
  rintro e w6 ⟨rfl, h6, hb6⟩
  have HB6 := Lib.hid (HB5.out.trans hb6)
  obtain ⟨D6, hD6⟩ : ∃ D6, D6 = upd (upd (fun _ => none) 1 (some (⟨b, true, noughts, noughts⟩ : Dr))) 1 (some (Dr.put ⟨b, true, noughts, noughts⟩ 0 aS.data.toList)) := ⟨_, rfl⟩
  rw [← hD6] at h6
  have h61 : D6 1 = some (yA b) := by rw [hD6]; exact upd_same _ _ _
  have hks : KeysOf D6 [1] := ⟨by simp, fun q => by
    rw [List.mem_singleton, hD6]
    by_cases hq : q = 1
    · subst hq; rw [upd_same]; simp
    · rw [upd_other _ _ hq, upd_other _ _ hq]; simp [hq]⟩
  have hpt := ptsA b D6 h61
  have H6 := Lib.hid h6; have HKS := Lib.hid hks; have HPT := Lib.hid hpt
  clear h6 hb6 H5 hD6 h61 hks hpt
  go_wp2_with fail
  refine (commit_live [] [] [1] H6.out HKS.out (by rw [HPT.out]; simp [psA]) (by rw [HPT.out]; exact fitsA) (by rw [HPT.out]; show (recB hA psA).length ≤ _; rw [recA_len]; omega) (fun r hr => by cases hr) (by rw [HPT.out]; exact appA) (by rw [HPT.out]; decide)).mono ?_
  rintro e w7 ⟨rfl, ⟨S7, h7⟩, _, hb7⟩
  rw [HPT.out] at h7
  have HB7 := Lib.hid (HB6.out.trans hb7)
  obtain ⟨r, hr⟩ : ∃ r : ByteArray, r = ⟨(recB hA psA).toArray⟩ := ⟨_, rfl⟩
  have hrz : r.size = 87 := by rw [hr, ← recA_len]; simp [ByteArray.size]
  have htl : Tells r (hA, psA) := by rw [hr]; exact tells_rec hA okA psA (by decide) fitsA
  have hJr : ([] : List ByteArray) ++ [⟨(recB ((Hd.zero.setCount 1).setRoot 3 1) psA).toArray⟩] = [r] := by rw [hr]; rfl
  have hJr' : ([] : List ByteArray) ++ [⟨(recB ((Hd.setCount (resH Hd.zero []) 1).setRoot 3 1) psA).toArray⟩] = [r] := hJr
  have hpool := h7.pool
  first
    | rw [hJr] at hpool
    | rw [hJr'] at hpool
  obtain ⟨Sd, ops, hJ, hD, hSd, hol, _⟩ := hpool.disk
  have HD7 := Lib.hid hD
  have HSD : Hid (∀ k, Sd k → B ≤ k ∧ k < w7.heap.size) := Lib.hid (fun k hk => hpool.low k (hSd k hk))
  have HJ := Lib.hid hJ; have HOL := Lib.hid hol; have HTL := Lib.hid htl; have HRZ := Lib.hid hrz
  clear h7 hb7 H6 HKS HPT hr htl hJr hJr' hpool hJ hD hSd hol hrz
  go_wp2_with fail
  refine (open_sp (J := JL [r] []) (B := B) (n := 4) (N := ops.length) ops [r] [(hA, psA)] HD7.out HSD.out HJ.out.1 (rs_one (by rw [HRZ.out]; omega) (by rw [HRZ.out]; omega)) (by omega) (by omega) (Nat.le_refl _) HJ.out rfl (fun i h1 h2 => by
    have : i = 0 := by simp at h1; omega
    subst this; exact HTL.out) (by have := HOL.out; simp [resN, psA] at this ⊢; omega) okA (Saves.jl _ _) (fun ops h => short0 ops _ h) (by have := HB7.out.size; have := HBE.out; omega)).mono ?_
  rintro e w8 ⟨s8, l8, p8, S8, rfl, hs8, hb8⟩
  have HB8 := Lib.hid (HB7.out.trans hb8); have HS8 := Lib.hid hs8; clear hs8 hb8
  go_wp2_with fail
  refine (begin_sp HS8.out).mono ?_
  rintro e w9 ⟨a9, db9, rfl, h9, hb9, _⟩
  have HB9 := Lib.hid (HB8.out.trans hb9); have H9 := Lib.hid h9; clear h9 hb9 HS8
  obtain ⟨X, hX, hX5, hX0⟩ := pageA (fun q => pageOf (play ops 1) q) (pageOf_length _ _)
  have HX := Lib.hid hX; clear hX
  go_wp2_with fail
  refine (read_page 1 H9.out hasA rfl (by have := HOL.out; simp [resN, psA] at this ⊢; omega) (Saves.jl _ _)).mono ?_
  rintro e w10 ⟨rfl, ⟨S10, h10⟩, hb10⟩
  rw [show resC (fun q => pageOf (play ops 1) q) [(hA, psA)] 1 = appC (fun q => pageOf (play ops 1) q) psA 1 from rfl, ← HX.out]
  have HB10 := Lib.hid (HB9.out.trans hb10); have H10 := Lib.hid h10; clear h10 hb10 H9
  go_wp2_with fail
  refine (root_live 3 H10.out (by omega)).mono ?_
  rintro e w11 ⟨rfl, hw⟩
  subst w11
  rw [show (resH Hd.zero [(hA, psA)]).root 3 = 1 from rootA]
  have h0 : 0 < X.size := by omega
  have h97 : (((X[0]'h0).toNat : Int) == 97) = true := by
    have e : X[0]'h0 = 97 := by
      have h1 : 0 < X.data.toList.length := h0
      rw [List.getElem?_eq_getElem h1] at hX0
      exact Option.some.inj hX0
    rw [e]; rfl
  clear hX0
  go_wp2
  go_ret
  refine ⟨rfl, ?_⟩
  have := HB10.out
  rw [HBE.out] at this
  exact this
end Go.Proofs.YtgboeolnojpehaaGreatDoor

/- The law's seen and stands, of the state that has no page and no root. -/
set_option maxRecDepth 100000
namespace Go.Proofs.YtgboeolnojpehaaGreatDoor
open Go.RowKit

def stZ : List Value := [.slice none 0 0, .slice none 0 0] ++ List.replicate 16 (.int .i64 0)
theorem stZ_cells {W : World} {b : Nat} (h : W.heap[b]? = some (.cells stZ.toArray 64 (0, 0))) : W.cell? ⟨b, 0, none⟩ = some (.slice none 0 0) ∧ W.cell? ⟨b, 1, none⟩ = some (.slice none 0 0) ∧ ∀ j, j < 16 → W.cell? ⟨b, 2 + j, none⟩ = some (.int .i64 0) := by
  refine ⟨by rw [Lib.cell_of_heap h]; rfl, by rw [Lib.cell_of_heap h]; rfl, fun j hj => ?_⟩
  rw [Lib.cell_of_heap h, List.getElem?_toArray, stZ, List.getElem?_append_right (by simp), List.getElem?_replicate, if_pos (by simp; omega)]

section
variable {J : List RawOp → Prop} {B a s d l p db m n N : Nat} {S : Nat → Prop} {C : Nat → List UInt8} {last h : Hd} {D : Nat → Option Dr} {w w' : World}

set_option maxHeartbeats 1600000 in
theorem seen_zero (g : LiveSt J B S a s d l p db m n C N last h D w) (hr : ∀ q, q < 16 → h.root q = 0) :
    Calls Tryz.prog 41 #[.pointer (some ⟨a, 0, none⟩), .agg stZ.toArray] w fun e w' => e = .returned (.bool true) ∧ Below w.heap.size w w' := by
  obtain ⟨X, hX⟩ : ∃ X, X = stZ.toArray := ⟨_, rfl⟩
  rw [← hX]
  obtain ⟨w1, hw1⟩ : ∃ w1, w1 = w.alloc (.cells X 64) := ⟨_, rfl⟩
  obtain ⟨cb, hcb⟩ : ∃ cb, cb = w.heap.size := ⟨_, rfl⟩
  have hb1 : Below w.heap.size w w1 := by rw [hw1]; exact (Below.refl _ _).alloc (Nat.le_refl _) _
  have hg1 : w1.heap[cb]? = some (.cells stZ.toArray 64 (0, 0)) := by rw [hw1, hX, hcb]; exact heap_alloc_new w _
  have hcl : cb < w1.heap.size := (Array.getElem?_eq_some_iff.1 hg1).1
  have HCE : Hid (∀ W, Below w1.heap.size w1 W → W.cell? ⟨cb, 0, none⟩ = some (.slice none 0 0) ∧ W.cell? ⟨cb, 1, none⟩ = some (.slice none 0 0) ∧ ∀ j, j < 16 → W.cell? ⟨cb, 2 + j, none⟩ = some (.int .i64 0)) := Lib.hid (fun W hb => stZ_cells ((hb.block cb hcl).trans hg1))
  have HRO : Hid (∀ W, Below w1.heap.size w1 W → ∀ j : Nat, j < 16 → Calls Tryz.prog 11 #[.pointer (some ⟨a, 0, none⟩), .int .i64 j] W fun e w' => e = .returned (.tuple #[.int .i64 0, .int .i64 0]) ∧ w' = W) := Lib.hid (fun W hb j hj => by
    have := root_live j ((g.below hb1).below hb) hj
    rw [hr j hj] at this
    exact this)
  have HRD : Hid (∀ W, Below w1.heap.size w1 W → Calls Tryz.prog 9 #[.pointer (some ⟨a, 0, none⟩), .int .i64 0] W fun e w' => e = .returned (.tuple #[.string ⟨#[]⟩, .int .i64 3]) ∧ w' = W) := Lib.hid (fun W hb => aread_none 0 ((g.below hb1).below hb).act (by omega))
  have HRB : Hid (∀ W, Below w1.heap.size w1 W → Calls Tryz.prog 11 #[.pointer (some ⟨a, 0, none⟩), .int .i64 16] W fun e w' => e = .returned (.tuple #[.int .i64 0, .int .i64 1]) ∧ w' = W) := Lib.hid (fun W hb => aroot_bad a 16 W ((g.below hb1).below hb).act.live (by omega))
  have HB1 := Lib.hid hb1; have HW1 := Lib.hid hw1; have HCB := Lib.hid hcb
  clear g hr hX hb1 hg1 hcl hw1 hcb
  go_enter Tryz.func41, Tryz.ntmps41
  go_wp2
  rw [← HW1.out, ← HCB.out]
  obtain ⟨x0, x1, _⟩ := HCE.out w1 (Below.refl _ _)
  refine wp_loop_rounds 1 ?_
  rw [rounds_succ]
  go_wp2
  clear x0 x1
  go_loopw [8] (fun i wr => ∃ j : Nat, j ≤ 16 ∧ i = .int .i64 j ∧ Hid (Below w1.heap.size w1 wr)) (fun i _ => 16 - (intOf i).toNat)
  case atStart => exact ⟨0, by omega, rfl, Lib.hid (Below.refl _ _)⟩
  case round =>
    obtain ⟨j, hj, rfl, hb⟩ := hrel
    by_cases hlt : j < 16
    · have hj16 : (j : Int) < 16 := by omega
      have HR := Lib.hid (HRO.out wr hb.out j hlt)
      have hc := (HCE.out wr hb.out).2.2 j hlt
      go_wp2_with fail
      refine HR.out.mono ?_
      rintro e w' ⟨rfl, hw⟩
      subst w'
      go_wp2
      go_roundw
      case rel => exact ⟨j + 1, by omega, by simp, hb⟩
      case measure => simp [intOf]; omega
    · have hj16 : ¬ (j : Int) < 16 := by omega
      have HR := Lib.hid (HRD.out wr hb.out)
      have HT := Lib.hid (HRB.out wr hb.out)
      go_wp2_with fail
      refine HR.out.mono ?_
      rintro e w' ⟨rfl, hw⟩
      subst w'
      go_wp2_with fail
      refine HT.out.mono ?_
      rintro e w' ⟨rfl, hw⟩
      subst w'
      go_wp2
      go_ret
      exact ⟨rfl, HB1.out.trans (hb.out.mono HB1.out.size)⟩
end
end Go.Proofs.YtgboeolnojpehaaGreatDoor

/- The law's stands, of a space with no page and no root. -/
set_option maxRecDepth 100000
namespace Go.Proofs.YtgboeolnojpehaaGreatDoor
open Go.RowKit

theorem sizeSt : (Tryz.prog.info? 64).map (·.size) = some 18 := by kernel_rfl

section
variable {J : List RawOp → Prop} {B s d l p n N : Nat} {S : Nat → Prop} {C : Nat → List UInt8} {last : Hd} {w : World}

set_option maxHeartbeats 3200000 in
theorem stands_zero (g : SpSt J B S s d l p n C N last none w) (hc : last.count = 0) (hr : ∀ q, q < 16 → last.root q = 0) :
    Calls Tryz.prog 19 #[.pointer (some ⟨s, 0, none⟩), .agg stZ.toArray] w fun e w' => e = .returned (.bool true) ∧ SpSt J B S s d l p n C N last none w' ∧ Below B w w' := by
  obtain ⟨X, hX⟩ : ∃ X, X = stZ.toArray := ⟨_, rfl⟩
  obtain ⟨w1, hw1⟩ : ∃ w1, w1 = w.alloc (.cells X 64) := ⟨_, rfl⟩
  obtain ⟨cb, hcb⟩ : ∃ cb, cb = w.heap.size := ⟨_, rfl⟩
  have hb1 : Below w.heap.size w w1 := by rw [hw1]; exact (Below.refl _ _).alloc (Nat.le_refl _) _
  have hg1 : w1.heap[cb]? = some (.cells stZ.toArray 64 (0, 0)) := by rw [hw1, hX, hcb]; exact heap_alloc_new w _
  have hcl : cb < w1.heap.size := (Array.getElem?_eq_some_iff.1 hg1).1
  have HG1 := Lib.hid (g.below hb1)
  have HGS := Lib.hid g.size
  have HNE : Hid (s < cb) := Lib.hid (by rw [hcb]; exact g.sp.lt)
  have HCE : Hid (∀ W, Below w1.heap.size w1 W → W.cell? ⟨cb, 0, none⟩ = some (.slice none 0 0)) := Lib.hid (fun W hb => (stZ_cells ((hb.block cb hcl).trans hg1)).1)
  have HRG : Hid (∀ W : World, W.heap[cb]? = some (.cells stZ.toArray 64 (0, 0)) → W.rangeAt cb 0 X.toList) := Lib.hid (fun W hb j v hj => by
    rw [Lib.cell_of_heap hb, Nat.zero_add, ← hX, ← Array.getElem?_toList]; exact hj)
  have HSZ : Hid ((Tryz.prog.info? 64).map (·.size) = some X.toList.length) := Lib.hid (by rw [hX]; exact sizeSt)
  have HB1 := Lib.hid hb1; have HW1 := Lib.hid hw1; have HCB := Lib.hid hcb; have HGB := Lib.hid hg1; have HCL := Lib.hid hcl
  have HPG := Lib.hid (pages_zero s d l p last none w1 HG1.out.sp hc)
  have HPN : Hid (∀ W, Below w1.heap.size w1 W → Calls Tryz.prog 18 #[.pointer (some ⟨s, 0, none⟩)] W fun e w' => e = .returned (.int .i64 0) ∧ Below W.heap.size W w') := Lib.hid (fun W hb => pinned_zero J B s d l p n N S C last none W (HG1.out.below hb).sp (HG1.out.below hb).pool)
  have HSE : Hid (∀ (a db : Nat) (W : World), LiveSt J B S a s d l p db 0 n C N last last (fun _ => none) W → Calls Tryz.prog 41 #[.pointer (some ⟨a, 0, none⟩), .agg X.toList.toArray] W fun e w' => e = .returned (.bool true) ∧ Below W.heap.size W w') := Lib.hid (fun a db W hl => by
    have := seen_zero hl hr
    rw [← hX] at this
    simpa using this)
  rw [← hX]
  have HXX := Lib.hid hX
  clear g hc hr hX hb1 hg1 hcl hw1 hcb
  go_enter Tryz.func19, Tryz.ntmps19
  go_wp2_with fail
  rw [← HW1.out]
  rw [← HCB.out]
  refine HPG.out.mono ?_
  rintro e w2 ⟨rfl, q, hq⟩
  have hb2 : Below w1.heap.size w1 w2 := by rw [hq]; exact below_drewN w1 q
  have hx2 := HCE.out w2 hb2
  have HP2 := Lib.hid (HPN.out w2 hb2)
  have HB2 := Lib.hid hb2
  clear hq hb2
  go_wp2_with fail
  refine HP2.out.mono ?_
  rintro e w3 ⟨rfl, hb3⟩
  have HB3 := Lib.hid (HB2.out.trans (hb3.mono HB2.out.size))
  clear hb3 hx2
  go_wp2
  refine wp_loop_rounds 1 ?_
  rw [rounds_succ]
  have HBG := Lib.hid (begin_sp (HG1.out.below HB3.out))
  go_wp2_with fail
  refine HBG.out.mono ?_
  rintro e w4 ⟨a, db, rfl, hl4, hb4, ha4, hk4⟩
  have hgc : w4.heap[cb]? = some (.cells stZ.toArray 64 (0, 0)) := by
    have h1 : w3.heap[cb]? = some (.cells stZ.toArray 64 (0, 0)) := (HB3.out.block cb HCL.out).trans HGB.out
    exact (hk4.block cb (Nat.lt_of_lt_of_le HCL.out HB3.out.size) (by have := HNE.out; omega)).trans h1
  have HR4 := Lib.hid (HRG.out w4 hgc)
  have HL4 := Lib.hid hl4
  have HB4 := Lib.hid hb4
  have HS4 := Lib.hid (HSE.out a db w4 hl4)
  clear hl4 hb4 ha4 hk4 hgc
  go_wp2_with (refine wpList_load_mid rfl 64 _ rfl cb 0 (by rfl) X.toList _ HR4.out Tryz.underlying64 rfl HSZ.out ?_)
  refine HS4.out.mono ?_
  rintro e w5 ⟨rfl, hb5⟩
  have HA5 := Lib.hid (abort_live (HL4.out.below hb5))
  have HB5 := Lib.hid hb5
  clear hb5
  go_wp2_with fail
  refine HA5.out.mono ?_
  rintro e w6 ⟨rfl, hs6, _, hb6⟩
  have HS6 := Lib.hid hs6
  have HB6 : Hid (Below B w w6) := Lib.hid ((((HB1.out.mono HGS.out).trans (HB3.out.mono (by have := HB1.out.size; have := HGS.out; omega))).trans HB4.out |>.trans (HB5.out.mono (by have := HL4.out.size; omega))).trans hb6)
  clear hs6 hb6
  go_wp2
  go_ret
  exact ⟨rfl, HS6.out, HB6.out⟩
end
end Go.Proofs.YtgboeolnojpehaaGreatDoor

/- The walk of SpaceOver. -/
set_option maxRecDepth 100000
namespace Go.Proofs.YtgboeolnojpehaaGreatDoor
open Go.RowKit

def acZ : List Value := [.pointer none, .pointer none] ++ Hd.zero.cells ++ [.map none]
theorem built_acZ : Tryz.prog.built 40 [] = some acZ.toArray := by kernel_rfl
def spZ : List Value := [.pointer none, .pointer none, .pointer none, .pointer none] ++ Hd.zero.cells ++ [.pointer none]
theorem built_spZ : Tryz.prog.built 55 [] = some spZ.toArray := by kernel_rfl
theorem built_stZ : Tryz.prog.built 64 [] = some stZ.toArray := by kernel_rfl

set_option maxHeartbeats 6400000 in
theorem spaceOver_walk (n : Int) (str : ByteArray) (w : World) (hT : Tab w) : Calls Tryz.prog 3 #[.int .i64 n, .string str] w fun e w' => e = .returned (.bool true) ∧ Below w.heap.size w w' := by
  obtain ⟨B, hBe⟩ : ∃ B, B = w.heap.size := ⟨_, rfl⟩
  have hB1 : 1 ≤ B := by rw [hBe]; exact hT.1
  have HT := Lib.hid hT
  have HBE := Lib.hid hBe
  obtain ⟨Y, hY⟩ : ∃ Y, Y = acZ.toArray := ⟨_, rfl⟩
  obtain ⟨Z, hZ⟩ : ∃ Z, Z = spZ.toArray := ⟨_, rfl⟩
  obtain ⟨X, hX⟩ : ∃ X, X = stZ.toArray := ⟨_, rfl⟩
  have HY := Lib.hid built_acZ
  have HZ := Lib.hid built_spZ
  have HX := Lib.hid built_stZ
  rw [← hY] at HY
  rw [← hZ] at HZ
  rw [← hX] at HX
  have HYE : Hid (Y[0]? = some (.pointer none)) := Lib.hid (by rw [hY]; rfl)
  have HZE : Hid (Z[0]? = some (.pointer none)) := Lib.hid (by rw [hZ]; rfl)
  have HXE := Lib.hid hX
  clear hBe hT hY hZ hX
  go_enter Tryz.func3, Tryz.ntmps3
  go_wp2_with fail
  refine (new_disk _).mono ?_
  rintro e w1 ⟨rfl, hd1, hb1⟩
  rw [← HBE.out] at hd1 hb1 ⊢
  have HB1 := Lib.hid hb1
  have HD1 := Lib.hid hd1.bound; clear hd1 hb1
  go_wp2_with fail
  refine (open_sp (J := JL [] []) (B := B) (n := 4) (N := 0) [] [] [] HD1.out (fun k hk => hk) rfl (fun r hr => by cases hr) (by omega) (by omega) (by simp) ⟨rfl, rfl⟩ rfl (fun i h1 => by simp at h1) (by decide) Hd.zero_ok (Saves.jl _ _) (fun ops h => short0 ops _ h) (by have := HB1.out.size; have := HBE.out; omega)).mono ?_
  rintro e w2 ⟨s, l, p, S2, rfl, hs2, hb2⟩
  have HB2 := Lib.hid (HB1.out.trans hb2); have HS2 := Lib.hid hs2; clear hs2 hb2
  go_wp2_with fail
  refine (begin_sp HS2.out).mono ?_
  rintro e w3 ⟨a, db, rfl, h3, hb3, _⟩
  have HB3 := Lib.hid (HB2.out.trans hb3); have H3 := Lib.hid h3; clear h3 hb3 HS2
  go_wp2_with fail
  refine (abort_live H3.out).mono ?_
  rintro e w4 ⟨rfl, hs4, ha4, hb4⟩
  have HB4 := Lib.hid (HB3.out.trans hb4); have HS4 := Lib.hid hs4; have HA4 := Lib.hid ha4
  have hR4 : Refused (.pointer (some ⟨a, 0, none⟩)) 5 w4 := arefuses_over a s w4 ha4.self ha4.st hs4.sp.cur_
  clear hs4 ha4 hb4 H3
  obtain ⟨W, hW⟩ : ∃ W, W = (w4.alloc (.cells Y 40)).alloc (.cells #[.pointer none, .pointer (some ⟨w4.heap.size, 0, none⟩), .pointer (some ⟨a, 0, none⟩)] 28) := ⟨_, rfl⟩
  have hbW : Below w4.heap.size w4 W := by rw [hW]; exact ((Below.refl _ _).alloc (Nat.le_refl _) _).alloc (by simp) _
  have hgY : W.heap[w4.heap.size]? = some (.cells Y 40 (0, 0)) := by rw [hW]; exact (Below.heap_alloc _ _ _ (by simp)).trans (heap_alloc_new w4 _)
  have hgL : W.heap[w4.heap.size + 1]? = some (.cells #[.pointer none, .pointer (some ⟨w4.heap.size, 0, none⟩), .pointer (some ⟨a, 0, none⟩)] 28 (0, 0)) := by
    have := heap_alloc_new (w4.alloc (.cells Y 40)) (.cells #[.pointer none, .pointer (some ⟨w4.heap.size, 0, none⟩), .pointer (some ⟨a, 0, none⟩)] 28)
    rw [World.size_alloc] at this
    rw [hW]; exact this
  have HAC : Hid (∀ k : Nat, k < 3 → ∃ (ad : Option Addr) (c : Int), W.cell? ⟨w4.heap.size + 1, k, none⟩ = some (.pointer ad) ∧ (c = 1 ∨ c = 5) ∧ Hid (Refused (.pointer ad) c W) ∧ (¬ (k : Int) = 2 ∧ c = 1 ∨ k = 2 ∧ c = 5)) := Lib.hid (fun k hk => by
    have : k = 0 ∨ k = 1 ∨ k = 2 := by omega
    rcases this with rfl | rfl | rfl
    · exact ⟨none, 1, by rw [Lib.cell_of_heap hgL]; rfl, .inl rfl, Lib.hid (arefuses_nil W), .inl ⟨by omega, rfl⟩⟩
    · exact ⟨_, 1, by rw [Lib.cell_of_heap hgL]; rfl, .inl rfl, Lib.hid (arefuses_zero w4.heap.size W (by rw [Lib.cell_of_heap hgY]; exact HYE.out)), .inl ⟨by omega, rfl⟩⟩
    · have ha := HA4.out.below hbW
      have hs := HS4.out.below hbW
      exact ⟨_, 5, by rw [Lib.cell_of_heap hgL]; rfl, .inr rfl, Lib.hid (arefuses_over a s W ha.self ha.st hs.sp.cur_), .inr ⟨rfl, rfl⟩⟩)
  have HSW := Lib.hid (HS4.out.below hbW)
  have HBW : Hid (Below B w W) := Lib.hid (HB4.out.trans (hbW.mono HS4.out.size))
  have HWE := Lib.hid hW
  have HSZ : Hid (B ≤ w4.heap.size) := Lib.hid HS4.out.size
  obtain ⟨lb, hlb⟩ : ∃ lb, lb = w4.heap.size + 1 := ⟨_, rfl⟩
  rw [← hlb] at HAC
  have HLB := Lib.hid hlb
  clear hR4 hbW hgY hgL hW hlb
  go_wp2_with (refine wpList_val rfl (.agg Y) (exec_build rfl _ (by simp [go_sem]) Y HY.out _) ?_)
  rw [← HWE.out, ← HLB.out]
  go_loop [10] (fun i => ∃ k : Nat, k ≤ 3 ∧ i = .int .i64 k) (fun i => 3 - (intOf i).toNat)
  case atStart => exact ⟨0, by omega, rfl⟩
  case round =>
    obtain ⟨k, hk, rfl⟩ := hrel
    by_cases hk3 : k = 3
    · subst hk3
      obtain ⟨V, hV⟩ : ∃ V, V = (W.alloc (.cells Z 55)).alloc (.cells #[.pointer none, .pointer (some ⟨W.heap.size, 0, none⟩)] 22) := ⟨_, rfl⟩
      have hbV : Below W.heap.size W V := by rw [hV]; exact ((Below.refl _ _).alloc (Nat.le_refl _) _).alloc (by simp) _
      have hgZ : V.heap[W.heap.size]? = some (.cells Z 55 (0, 0)) := by rw [hV]; exact (Below.heap_alloc _ _ _ (by simp)).trans (heap_alloc_new W _)
      have hgL : V.heap[W.heap.size + 1]? = some (.cells #[.pointer none, .pointer (some ⟨W.heap.size, 0, none⟩)] 22 (0, 0)) := by
        have := heap_alloc_new (W.alloc (.cells Z 55)) (.cells #[.pointer none, .pointer (some ⟨W.heap.size, 0, none⟩)] 22)
        rw [World.size_alloc] at this
        rw [hV]; exact this
      have HSC : Hid (∀ k : Nat, k < 2 → ∃ ad : Option Addr, V.cell? ⟨W.heap.size + 1, k, none⟩ = some (.pointer ad) ∧ Hid (NoSpace (.pointer ad) V)) := Lib.hid (fun k hk => by
        have : k = 0 ∨ k = 1 := by omega
        rcases this with rfl | rfl
        · exact ⟨none, by rw [Lib.cell_of_heap hgL]; rfl, Lib.hid (sgiven_nil V)⟩
        · exact ⟨_, by rw [Lib.cell_of_heap hgL]; rfl, Lib.hid (sgiven_zero W.heap.size V (by rw [Lib.cell_of_heap hgZ]; exact HZE.out))⟩)
      have HSV := Lib.hid (HSW.out.below hbV)
      have HBV : Hid (Below B w V) := Lib.hid (HBW.out.trans (hbV.mono HSW.out.size))
      have HVE := Lib.hid hV
      obtain ⟨mb, hmb⟩ : ∃ mb, mb = W.heap.size + 1 := ⟨_, rfl⟩
      rw [← hmb] at HSC
      have HMB := Lib.hid hmb
      clear hbV hgZ hgL hV hmb
      go_wp2_with (refine wpList_val rfl (.agg Z) (exec_build rfl _ (by simp [go_sem]) Z HZ.out _) ?_)
      rw [← HVE.out, ← HMB.out]
      go_loop [20] (fun i => ∃ k : Nat, k ≤ 2 ∧ i = .int .i64 k) (fun i => 2 - (intOf i).toNat)
      case atStart => exact ⟨0, by omega, rfl⟩
      case round =>
        obtain ⟨k, hk, rfl⟩ := hrel
        by_cases hk2 : k = 2
        · subst hk2
          have HSD := Lib.hid (stands_zero HSV.out rfl (fun q hq => by
            show Hd.zero.root q = 0
            unfold Hd.root Hd.zero
            simp only [List.getD_eq_getElem?_getD, List.getElem?_replicate]
            split <;> rfl))
          rw [← HXE.out] at HSD
          go_wp2_with (refine wpList_val rfl (.agg X) (exec_build rfl _ (by simp [go_sem]) X HX.out _) ?_)
          refine HSD.out.mono ?_
          rintro e w6 ⟨rfl, _, hb6⟩
          have HB6 := Lib.hid (HBV.out.trans hb6)
          have HAW := Lib.hid (slaw_awake w6 (HT.out.below HB6.out hB1))
          clear hb6
          go_wp2_with fail
          refine HAW.out.mono ?_
          rintro e w7 ⟨rfl, hb7⟩
          have HB7 := Lib.hid (HB6.out.trans (hb7.mono (by have := HB6.out.size; have := HBE.out; omega)))
          clear hb7
          go_wp2
          go_ret
          refine ⟨rfl, ?_⟩
          have := HB7.out
          rw [HBE.out] at this
          exact this
        · have hk1 : k < 2 := by omega
          obtain ⟨ad, hc, hn⟩ := HSC.out k hk1
          go_wp2_with fail
          refine (begin_code _ 1 _ (.inl rfl) (srefuses_nobody _ _ hn.out)).mono ?_
          rintro e w6 ⟨rfl, hw⟩
          subst w6
          go_wp2_with fail
          refine (pages_nobody _ _ hn.out).mono ?_
          rintro e w6 ⟨rfl, hw⟩
          subst w6
          go_wp2_with fail
          refine (checkpoint_nospace _ _ hn.out).mono ?_
          rintro e w6 ⟨rfl, hw⟩
          subst w6
          go_wp2_with fail
          refine (pinned_nospace _ _ hn.out).mono ?_
          rintro e w6 ⟨rfl, hw⟩
          subst w6
          go_wp2
          go_round
          case rel => exact ⟨k + 1, by omega, by go_num⟩
          case measure => simp [intOf]; omega
    · have hk1 : k < 3 := by omega
      obtain ⟨ad, c, hcell, hc, hR, hw⟩ := HAC.out k hk1
      have HC := Lib.hid hc
      clear hc
      rcases hw with ⟨hk2, rfl⟩ | ⟨rfl, rfl⟩
      all_goals
        go_wp2_with fail
        refine (aread_code _ _ _ (by omega) hR.out n).mono ?_
        rintro e w6 ⟨rfl, hw⟩
        subst w6
        go_wp2_with fail
        refine (aalloc_code _ _ _ (by omega) hR.out).mono ?_
        rintro e w6 ⟨rfl, hw⟩
        subst w6
        go_wp2_with fail
        refine (aroot_code _ _ _ (by omega) hR.out n).mono ?_
        rintro e w6 ⟨rfl, hw⟩
        subst w6
        go_wp2_with fail
        refine (awrite_code _ _ _ (by omega) hR.out n n str).mono ?_
        rintro e w6 ⟨rfl, hw⟩
        subst w6
        go_wp2_with fail
        refine (afree_code _ _ _ (by omega) hR.out n).mono ?_
        rintro e w6 ⟨rfl, hw⟩
        subst w6
        go_wp2_with fail
        refine (asetRoot_code _ _ _ (by omega) hR.out n n).mono ?_
        rintro e w6 ⟨rfl, hw⟩
        subst w6
        go_wp2_with fail
        refine (acommit_code _ _ _ (by omega) hR.out).mono ?_
        rintro e w6 ⟨rfl, hw⟩
        subst w6
        go_wp2_with fail
        refine (aabort_code _ _ _ (by omega) hR.out).mono ?_
        rintro e w6 ⟨rfl, hw⟩
        subst w6
        go_wp2
        go_round
        case rel => first | exact ⟨k + 1, by omega, by go_num⟩ | exact ⟨3, by omega, by go_num⟩
        case measure => simp [intOf] <;> omega
end Go.Proofs.YtgboeolnojpehaaGreatDoor

/- What the listed variable gives: the table that TrailingZeros64 reads. -/
set_option maxRecDepth 100000
namespace Go.Proofs.YtgboeolnojpehaaGreatDoor
open Go Go.ChangeShapes Go.WideShapes Go.ChangeAt Go.RowKit

theorem ownS : ownKnob Tryz.prog.godebug = none := by kernel_rfl
abbrev listed : List (String × DataW Unit) := [("math/bits.deBruijn64tab", Rows.laid_math_bits_deBruijn64tab)]
theorem gTab : Tryz.prog.globalNamed "math/bits.deBruijn64tab" = some 0 := by kernel_rfl
theorem tTab : (Tryz.prog.globals[0]?).map (·.type) = some 133 := by kernel_rfl
theorem cellsTab : Tryz.prog.cellsOf 133 = 64 := by kernel_rfl
theorem cellsU8 : Tryz.prog.cellsOf 5 = 1 := by kernel_rfl
theorem debr : Lib.deBruijn64tab.length = 64 := by decide

theorem laid_of {W : World} (h : laidMetH Tryz.prog listed W) : Tab W := by
  rw [MakeChecks.laidMetH_plain _ _ _ (by kernel_rfl)] at h
  have ht : Lib.TabIs Tryz.prog W "math/bits.deBruijn64tab" .u8 (Lib.deBruijn64tab.map (fun x : Nat => (x : Int))) := Lib.tabIs_of_head gTab tTab Tryz.underlying133 Tryz.underlying5 cellsU8 cellsTab h
  have hc : ∀ j, j < 64 → W.cell? ⟨0, j, none⟩ = some (.int .u8 (Lib.deBruijn64tab.getD j 0)) := fun j hj => by
    have := World.var?_cell gTab ht j
    rw [this, List.getElem?_toArray, List.getElem?_map, List.getElem?_map, List.getD_eq_getElem?_getD, List.getElem?_eq_getElem (by rw [debr]; exact hj)]
    rfl
  exact ⟨Nat.lt_of_le_of_lt (Nat.zero_le _) (World.block_lt_of_cell? W _ (hc 0 (by omega))), hc⟩
end Go.Proofs.YtgboeolnojpehaaGreatDoor
