/- A set of addresses, made on both sides. -/
import Derived.Test.YtpjpkpbfbbpmdaaDoorTTA
import Derived.Deep.CutRange
set_option maxRecDepth 100000
namespace Go.Proofs.YtpjpkpbfbbpmdaaDoor.Ts
open Go Go.RowKit

theorem bcell {W w1 : World} (hb : Below W.heap.size W w1) : (∀ b o, b < W.heap.size → w1.cell? ⟨b, o, none⟩ = W.cell? ⟨b, o, none⟩) ∧ (∀ b o, b < W.heap.size → w1.frozen? ⟨b, o, none⟩ = W.frozen? ⟨b, o, none⟩) :=
  ⟨fun b o h => hb.cell (p := ⟨b, o, none⟩) h, fun b o h => hb.frozen (p := ⟨b, o, none⟩) h⟩
theorem RAt.more {S T : Nat → Prop} {w : World} {s : Tset} {v : Value} (h : RAt S w s v) (hT : ∀ k, T k → S k ∨ w.heap.size ≤ k) : RAt T w s v := by
  obtain ⟨a, n, c, a', n', c', h1, h2, h3, h4, h5⟩ := h
  exact ⟨a, n, c, a', n', c', h1, h2, h3, h4.more hT, h5.more hT⟩
theorem alloc_three (w : World) (t : TypeId) (x0 x1 x2 : Value) : (w.alloc (.cells #[x0, x1, x2] t)).heap[w.heap.size]? = some (.cells #[x0, x1, x2] t (0, 0)) := heap_alloc_new w _
set_option maxHeartbeats 6400000 in
theorem made_ok (most : Nat) (a : Option Addr) (xs : List Int) (n c : Nat) (w : World) (hm : most ≤ 64) (hn : n = xs.length) (hx : ZV w a xs) (hbig : n ≤ 9223372036854775807) (hT : Tab w) : Calls Tryd.prog 9 #[.int .i64 most, .slice a n c] w (MadeOk most xs w) := by
  have HT := Lib.hid hT
  have h1 := hT.1
  have HX := Lib.hid hx
  have HNN := Lib.hid hn
  have HN : Hid (∀ W, Calls Tryd.prog 20 #[.int .i64 most] W (NewPost most W)) := Lib.hid fun W => new_st most W hm
  have HR : Hid (∀ W, Calls Tryd.prog 22 #[.int .i64 most] W fun e w' => e = .returned (.tuple #[rv most none 0 0 none 0 0, .int .i64 0]) ∧ Below W.heap.size W w') := Lib.hid fun W => rnew_ok most W hm
  clear hT hx hn
  unfold rv at HR
  go_enter Tryd.func9, Tryd.ntmps9
  go_wp2_with fail
  obtain ⟨W0, hW0⟩ : ∃ W0, W0 = w.alloc (.cells #[.int .i64 0, .slice none 0 0, .slice none 0 0] 27) := ⟨_, rfl⟩
  have hk0 : W0.heap[w.heap.size]? = some (.cells #[.int .i64 0, .slice none 0 0, .slice none 0 0] 27 (0, 0)) := by rw [hW0]; exact heap_alloc_new w _
  have hb0 : Below w.heap.size w W0 := by rw [hW0]; exact (Below.refl _ _).alloc (Nat.le_refl _) _
  have hz0 : W0.heap.size = w.heap.size + 1 := by rw [hW0]; simp
  rw [← hW0]
  clear hW0
  refine (HN.out _).mono ?_
  rintro e w1 ⟨b, be, bw, rfl, hs, hb1, g1, g2, g3⟩
  have HS1 := Lib.hid hs
  have HB1 := Lib.hid hb1
  have hz1 := hb1.size
  clear hs hb1
  go_wp2_with fail
  refine (HR.out _).mono ?_
  rintro e w2 ⟨rfl, hb2⟩
  have hz2 := hb2.size
  obtain ⟨R, hR⟩ : ∃ R, R = w.heap.size := ⟨_, rfl⟩
  have HRE := Lib.hid hR
  have hlt1 := HS1.out.lts
  have hS2 := HS1.out.below hb2
  have hk2 : w2.heap[R]? = some (.cells #[.int .i64 0, .slice none 0 0, .slice none 0 0] 27 (0, 0)) := (hb2.block _ (by omega)).trans ((HB1.out.block _ (by omega)).trans (by rw [hR]; exact hk0))
  obtain ⟨W3, hW3⟩ : ∃ W3, W3 = w2.alloc (.cells #[.int .i64 (most : Int), .slice none 0 0, .slice none 0 0] 27) := ⟨_, rfl⟩
  obtain ⟨Q, hQ⟩ : ∃ Q, Q = w2.heap.size := ⟨_, rfl⟩
  have hb3 : Below w2.heap.size w2 W3 := by rw [hW3]; exact (Below.refl _ _).alloc (Nat.le_refl _) _
  have HKQ : Hid (W3.heap[Q]? = some (.cells #[.int .i64 (most : Int), .slice none 0 0, .slice none 0 0] 27 (0, 0))) := Lib.hid (by rw [hW3, hQ]; exact heap_alloc_new w2 _)
  have HKR : Hid (W3.heap[R]? = some (.cells #[.int .i64 0, .slice none 0 0, .slice none 0 0] 27 (0, 0))) := Lib.hid ((hb3.block R (by omega)).trans hk2)
  have HS3 : Hid (StAt W3 b be bw ⟨most, [], []⟩) := Lib.hid (hS2.below hb3)
  have HB3 : Hid (Below w.heap.size w W3) := Lib.hid (((hb0.trans (HB1.out.mono (by omega))).trans (hb2.mono (by omega))).trans (hb3.mono (by omega)))
  have HSS : Hid (∀ k, (Own b be bw k ∨ k = Q ∨ k = R) → k < W3.heap.size) := Lib.hid (by
    have hq : Q < W3.heap.size := by rw [hW3, hQ]; simp
    rintro k ((rfl | rfl | rfl) | rfl | rfl) <;> omega)
  have HOW : Hid (∀ k, Own b be bw k → w.heap.size + 1 ≤ k ∧ k < Q) := Lib.hid (by rintro k (rfl | rfl | rfl) <;> omega)
  have hrq : R < Q := by omega
  have HW3 := Lib.hid hW3
  have HQ := Lib.hid hQ
  have hzw : w.heap.size ≤ R ∧ w.heap.size < Q := by omega
  have HG : Hid (w.heap.size ≤ b ∧ w.heap.size ≤ be ∧ w.heap.size ≤ bw) := Lib.hid (by omega)
  clear hk0 hb0 hz0 hb2 hS2 hk2 hb3 hlt1 hz1 hz2 HS1 HB1 hR hW3 hQ g1 g2 g3 HN HR
  go_wp2
  rw [← HW3.out, ← HQ.out, ← HRE.out]
  go_loopw [11] (fun v wr => ∃ (i : Nat) (a1 : Option Addr) (n1 c1 : Nat) (a2 : Option Addr) (n2 c2 : Nat) (s : Tset), i ≤ n ∧ v = .int .i64 i ∧ Hid (wr.heap[Q]? = some (.cells #[.int .i64 (most : Int), .slice a1 n1 c1, .slice a2 n2 c2] 27 (0, 0))) ∧ Hid (wr.heap[R]? = some (.cells #[.int .i64 0, .slice none 0 0, .slice none 0 0] 27 (0, 0))) ∧
    Hid (StAt wr b be bw s) ∧ Hid (RAt (fun k => Own b be bw k ∨ k = Q ∨ k = R) wr s (rv most a1 n1 c1 a2 n2 c2)) ∧ Hid (Adds ⟨most, [], []⟩ (xs.take i) s) ∧ Hid (Below w.heap.size w wr) ∧ W3.heap.size ≤ wr.heap.size) (fun v _ => n - (intOf v).toNat)
  case atStart => exact ⟨0, none, 0, 0, none, 0, 0, _, by omega, rfl, HKQ, HKR, HS3, Lib.hid (rat_new _ _ most), Lib.hid .nil, HB3, Nat.le_refl _⟩
  case round =>
    obtain ⟨i, a1, n1, c1, a2, n2, c2, s, hi, rfl, HQ1, HR1, HS1, HRA, HAD, HB, hzr⟩ := hrel
    clear HKQ HKR HS3 HB3
    have q0 : wr.cell? ⟨Q, 0, none⟩ = some (.int .i64 (most : Int)) := Lib.cell_of_heap HQ1.out 0
    have q1 : wr.cell? ⟨Q, 1, none⟩ = some (.slice a1 n1 c1) := Lib.cell_of_heap HQ1.out 1
    have q2 : wr.cell? ⟨Q, 2, none⟩ = some (.slice a2 n2 c2) := Lib.cell_of_heap HQ1.out 2
    have hQl : Q < wr.heap.size := (Array.getElem?_eq_some_iff.1 HQ1.out).1
    have hRl : R < wr.heap.size := (Array.getElem?_eq_some_iff.1 HR1.out).1
    by_cases hlt : i < n
    · have hlt' : i < xs.length := by rw [← HNN.out]; exact hlt
      obtain ⟨xb, xo, rfl, hxl, cx⟩ := (HX.out.below HB.out).at hlt'
      obtain ⟨x, hxe⟩ : ∃ x, x = xs[i] := ⟨_, rfl⟩
      rw [← hxe] at cx
      have HXE := Lib.hid hxe
      have hii : (i : Int) < (n : Int) := by omega
      clear hxe
      have HRC2 : Hid (∀ W, Below wr.heap.size wr W → Calls Tryd.prog 23 #[.agg #[.int .i64 (most : Int), .slice a1 n1 c1, .slice a2 n2 c2], .int .i64 x] W fun e w' => ∃ s1 a5 n5 c5 a6 n6 c6, e = .returned (.tuple #[.agg #[.int .i64 (most : Int), .slice a5 n5 c5, .slice a6 n6 c6],   .int .i64 (if Adr x then 0 else 1)]) ∧ Below W.heap.size W w' ∧
          Hid (AStep s x s1 ∧ RAt (fun k => (Own b be bw k ∨ k = Q ∨ k = R) ∨ wr.heap.size ≤ k ∧ k < W.heap.size) w' s1 (rv most a5 n5 c5 a6 n6 c6) ∧ Below wr.heap.size wr w')) := Lib.hid fun W hW => by
        refine (radd_z (S := fun k => (Own b be bw k ∨ k = Q ∨ k = R) ∨ wr.heap.size ≤ k ∧ k < W.heap.size) ((HRA.out.more (fun k e => e.imp id (fun e => e.1))).below hW) HS1.out.ok x (fun k e => by
          rcases e with e | e
          · have := HSS.out k e; have := hW.size; omega
          · exact e.2)).mono ?_
        rintro e w' ⟨s1, v1, rfl, hst, hra, hb⟩
        have hra0 := hra
        obtain ⟨a5, n5, c5, a6, n6, c6, rfl, k1, k2, k3, k4⟩ := hra
        have hms : s1.most = most := by rw [hst.most, HAD.out.most]
        rw [hms] at hra0
        exact ⟨s1, a5, n5, c5, a6, n6, c6, by rw [hms]; rfl, hb, Lib.hid ⟨hst, hra0, hW.trans (hb.mono hW.size)⟩⟩
      obtain ⟨g, hg⟩ : ∃ g : Int, g = if Adr x then 0 else 1 := ⟨_, rfl⟩
      rw [← hg] at HRC2
      have HGE := Lib.hid hg
      clear hg
      obtain ⟨W, hW⟩ : ∃ W, W = wr := ⟨_, rfl⟩
      rw [← hW] at HRC2 q0 q1 q2 cx hxl HS1 HQ1 HR1 HB HRA hQl hRl hzr
      have HWE := Lib.hid hW
      have HC : Hid (∀ V, Below W.heap.size W V → V.cell? ⟨Q, 0, none⟩ = some (.int .i64 (most : Int)) ∧ V.cell? ⟨Q, 1, none⟩ = some (.slice a1 n1 c1) ∧ V.cell? ⟨Q, 2, none⟩ = some (.slice a2 n2 c2) ∧ V.cell? ⟨xb, xo + i, none⟩ = some (.int .i64 x)) := Lib.hid fun V h => ⟨(h.cell (p := ⟨Q, 0, none⟩) hQl).trans q0, (h.cell (p := ⟨Q, 1, none⟩) hQl).trans q1, (h.cell (p := ⟨Q, 2, none⟩) hQl).trans q2, (h.cell (p := ⟨xb, xo + i, none⟩) hxl).trans cx⟩
      clear hW
      go_upto_region 8 with fail
      go_cut [12, 13] from 35 to 63 (fun v12 v13 wy => ∃ (D : Nat) (s1 : Tset) (a5 : Option Addr) (n5 c5 : Nat) (a6 : Option Addr) (n6 c6 : Nat), v12 = .pointer (some ⟨D, 0, none⟩) ∧ v13 = .int .i64 g ∧ W.heap.size ≤ D ∧ Hid (wy.heap[D]? = some (.cells #[.int .i64 (most : Int), .slice a5 n5 c5, .slice a6 n6 c6] 27 (0, 0))) ∧ Hid (AStep s x s1) ∧ Hid (RAt (fun k => Own b be bw k ∨ k = Q ∨ k = R) wy s1 (rv most a5 n5 c5 a6 n6 c6)) ∧ Hid (Below W.heap.size W wy))
      case first =>
        go_wp2_with fail
        rw [← HWE.out]
        go_region_held3 (fun w' => w'.cell? ⟨Q, 0, none⟩ = some (.int .i64 (most : Int)) ∧ w'.cell? ⟨Q, 1, none⟩ = some (.slice a1 n1 c1) ∧ w'.cell? ⟨Q, 2, none⟩ = some (.slice a2 n2 c2) ∧ w'.cell? ⟨xb, xo + i, none⟩ = some (.int .i64 x)) ((refine HC.out _ ?_; repeat (first | exact hb5' | exact Below.refl _ _ | refine Below.setCell ?_ (by first | omega | simp | (simp; omega)) _ | refine Below.drew ?_ | refine Below.alloc ?_ (by first | omega | simp | (simp; omega)) _ | assumption)))
          ((go_at_call 23; refine (HRC2.out _ (by first | exact (Below.refl _ _).drew | exact ((Below.refl _ _).alloc (Nat.le_refl _) _).drew)).mono ?_; rintro e w5 ⟨s1, a5, n5, c5, a6, n6, c6, rfl, hb5, HP5⟩; have hb5' := HP5.out.2.2; have hz5 := hb5'.size; obtain ⟨hcc, hff⟩ := bcell hb5))
        all_goals
          first
          | (have hk5 : w5.heap[W.heap.size]? = some (.cells #[.int .i64 0, .slice none 0 0, .slice none 0 0] 27 (0, 0)) := (hb5.block W.heap.size (by simp)).trans (heap_alloc_new W _)
             have HKD := Lib.hid (three hk5 (.int .i64 (most : Int)) (.slice a5 n5 c5) (.slice a6 n6 c6))
             have HRD := Lib.hid ((HP5.out.2.1.kept (three_kept _ (w := w5) (b := W.heap.size) (.inr ⟨Nat.le_refl _, by simp⟩) (.int .i64 (most : Int)) (.slice a5 n5 c5) (.slice a6 n6 c6))).mono (T := fun k => Own b be bw k ∨ k = Q ∨ k = R) (fun _ e => .inl e))
             have HBD := Lib.hid (hb5'.trans ((three_kept (fun k => k = W.heap.size) (w := w5) (b := W.heap.size) rfl (.int .i64 (most : Int)) (.slice a5 n5 c5) (.slice a6 n6 c6)).toBelow hz5 (fun k e => by omega)))
             have HST := Lib.hid HP5.out.1
             clear hk5 hb5 hb5' hcc hff HP5
             go_wp2_with fail
             go_meet
             exact ⟨W.heap.size, s1, a5, n5, c5, a6, n6, c6, rfl, rfl, Nat.le_refl _, HKD, HST, HRD, HBD⟩)
          | (have HKD := Lib.hid (alloc_three w5 27 (.int .i64 (most : Int)) (.slice a5 n5 c5) (.slice a6 n6 c6))
             have HRD := Lib.hid ((HP5.out.2.1.below ((Below.refl w5.heap.size w5).alloc (Nat.le_refl _) (.cells #[.int .i64 (most : Int), .slice a5 n5 c5, .slice a6 n6 c6] 27))).mono (T := fun k => Own b be bw k ∨ k = Q ∨ k = R) (fun _ e => .inl e))
             have HBD := Lib.hid (hb5'.trans (((Below.refl w5.heap.size w5).alloc (Nat.le_refl _) (.cells #[.int .i64 (most : Int), .slice a5 n5 c5, .slice a6 n6 c6] 27)).mono hz5))
             have HST := Lib.hid HP5.out.1
             clear hb5 hb5' hcc hff HP5
             go_wp2_with fail
             go_meet
             exact ⟨w5.heap.size, s1, a5, n5, c5, a6, n6, c6, rfl, rfl, hz5, HKD, HST, HRD, HBD⟩)
      case rest =>
        obtain ⟨D, s1, a5, n5, c5, a6, n6, c6, rfl, rfl, hD, HKD, HST, HRD, HBD⟩ := hcut
        have hcx := (HBD.out.cell (p := ⟨xb, xo + i, none⟩) hxl).trans cx
        have HADD : Hid (Calls Tryd.prog 21 #[.pointer (some ⟨b, 0, none⟩), .int .i64 x] wc fun e w' => e = .returned (.int .i64 g) ∧ Hid (∃ s', AStep s x s' ∧ StAt w' b be bw s' ∧ Kept (Own b be bw) wc w')) := Lib.hid (by
          rw [HGE.out]
          exact (add_z (HS1.out.below HBD.out) x).mono fun e w' h => ⟨h.1, Lib.hid h.2⟩)
        have hgg : (g != g) = false := by simp
        have HQC : Hid (wc.heap[Q]? = some (.cells #[.int .i64 (most : Int), .slice a1 n1 c1, .slice a2 n2 c2] 27 (0, 0))) := Lib.hid ((HBD.out.block Q hQl).trans HQ1.out)
        have HRC : Hid (wc.heap[R]? = some (.cells #[.int .i64 0, .slice none 0 0, .slice none 0 0] 27 (0, 0))) := Lib.hid ((HBD.out.block R hRl).trans HR1.out)
        have hzc := HBD.out.size
        clear cx q0 q1 q2
        go_wp2_with fail
        refine HADD.out.mono ?_
        rintro e w7 ⟨rfl, HP7⟩
        obtain ⟨s2, hst2, hs7, hk7⟩ := HP7.out
        obtain rfl := hst2.unique HST.out
        have hz7 := hk7.size
        have hno : ∀ k, Q ≤ k → ¬ Own b be bw k := fun k e1 e2 => by have := (HOW.out k e2).2; omega
        have hnr : ¬ Own b be bw R := fun e2 => by have := (HOW.out R e2).1; have := HRE.out; omega
        have hkd : w7.heap[D]? = some (.cells #[.int .i64 (most : Int), .slice a5 n5 c5, .slice a6 n6 c6] 27 (0, 0)) := (hk7.block D (Array.getElem?_eq_some_iff.1 HKD.out).1 (hno D (by omega))).trans HKD.out
        have hkq : w7.heap[Q]? = some (.cells #[.int .i64 (most : Int), .slice a1 n1 c1, .slice a2 n2 c2] 27 (0, 0)) := (hk7.block Q (by omega) (hno Q (Nat.le_refl _))).trans HQC.out
        have hkr : w7.heap[R]? = some (.cells #[.int .i64 0, .slice none 0 0, .slice none 0 0] 27 (0, 0)) := (hk7.block R (by omega) hnr).trans HRC.out
        have d0 : w7.cell? ⟨D, 0, none⟩ = some (.int .i64 (most : Int)) := Lib.cell_of_heap hkd 0
        have d1 : w7.cell? ⟨D, 1, none⟩ = some (.slice a5 n5 c5) := Lib.cell_of_heap hkd 1
        have d2 : w7.cell? ⟨D, 2, none⟩ = some (.slice a6 n6 c6) := Lib.cell_of_heap hkd 2
        have e0 : w7.cell? ⟨Q, 0, none⟩ = some (.int .i64 (most : Int)) := Lib.cell_of_heap hkq 0
        have e1 : w7.cell? ⟨Q, 1, none⟩ = some (.slice a1 n1 c1) := Lib.cell_of_heap hkq 1
        have e2 : w7.cell? ⟨Q, 2, none⟩ = some (.slice a2 n2 c2) := Lib.cell_of_heap hkq 2
        have f0 := froz_of hkq 0
        have f1 := froz_of hkq 1
        have f2 := froz_of hkq 2
        have hk8 := three_kept (fun k => k = Q) (w := w7) (b := Q) rfl (.int .i64 (most : Int)) (.slice a5 n5 c5) (.slice a6 n6 c6)
        have HQ8 := Lib.hid (three hkq (.int .i64 (most : Int)) (.slice a5 n5 c5) (.slice a6 n6 c6))
        have HR8 : Hid ((((w7.setCell ⟨Q, 0, none⟩ (.int .i64 (most : Int))).setCell ⟨Q, 1, none⟩ (.slice a5 n5 c5)).setCell ⟨Q, 2, none⟩ (.slice a6 n6 c6)).heap[R]? = some (.cells #[.int .i64 0, .slice none 0 0, .slice none 0 0] 27 (0, 0))) := Lib.hid ((hk8.block R (by omega) (by omega)).trans hkr)
        have HS8 : Hid (StAt (((w7.setCell ⟨Q, 0, none⟩ (.int .i64 (most : Int))).setCell ⟨Q, 1, none⟩ (.slice a5 n5 c5)).setCell ⟨Q, 2, none⟩ (.slice a6 n6 c6)) b be bw s2) := Lib.hid (hs7.kept hk8 (fun e => hno Q (Nat.le_refl _) (.inl e.symm)) (fun e => hno Q (Nat.le_refl _) (.inr (.inl e.symm))) (fun e => hno Q (Nat.le_refl _) (.inr (.inr e.symm))))
        have HRA8 : Hid (RAt (fun k => Own b be bw k ∨ k = Q ∨ k = R) (((w7.setCell ⟨Q, 0, none⟩ (.int .i64 (most : Int))).setCell ⟨Q, 1, none⟩ (.slice a5 n5 c5)).setCell ⟨Q, 2, none⟩ (.slice a6 n6 c6)) s2 (rv most a5 n5 c5 a6 n6 c6)) := Lib.hid ((HRD.out.kept (hk7.mono (T := fun k => Own b be bw k ∨ k = Q ∨ k = R) (fun _ e => .inl e))).kept (hk8.mono (T := fun k => Own b be bw k ∨ k = Q ∨ k = R) (fun _ e => .inr (.inl e))))
        have HAD8 : Hid (Adds ⟨most, [], []⟩ (xs.take (i + 1)) s2) := Lib.hid (HAD.out.take hlt' (by rw [← HXE.out]; exact hst2))
        have HB7 : Hid (Below w.heap.size w w7) := Lib.hid ((HB.out.trans (HBD.out.mono HB.out.size)).trans (hk7.toBelow (by have := HB.out.size; omega) (fun k e => by have := (HOW.out k e).1; omega)))
        have HB8 : Hid (Below w.heap.size w (((w7.setCell ⟨Q, 0, none⟩ (.int .i64 (most : Int))).setCell ⟨Q, 1, none⟩ (.slice a5 n5 c5)).setCell ⟨Q, 2, none⟩ (.slice a6 n6 c6))) := Lib.hid (HB7.out.trans (hk8.toBelow HB7.out.size (fun k e => by omega)))
        have HZ8 : Hid (W3.heap.size ≤ (((w7.setCell ⟨Q, 0, none⟩ (.int .i64 (most : Int))).setCell ⟨Q, 1, none⟩ (.slice a5 n5 c5)).setCell ⟨Q, 2, none⟩ (.slice a6 n6 c6)).heap.size) := Lib.hid (by have := hk8.size; omega)
        clear hst2 hs7 hk7 hno hnr hkd hkq hkr hk8 HP7 HADD HQC HRC HKD HST HRD HBD HB7 HC HRC2 HRA HAD HS1 HQ1 HR1 HB hcx
        go_wp2
        go_roundw
        case rel => exact ⟨i + 1, a5, n5, c5, a6, n6, c6, s2, by omega, by go_num, HQ8, HR8, HS8, HRA8, HAD8, HB8, HZ8.out⟩
        case measure => simp [intOf]; omega
    · have hin : i = xs.length := by rw [← HNN.out]; omega
      have b0 : wr.cell? ⟨R, 0, none⟩ = some (.int .i64 0) := Lib.cell_of_heap HR1.out 0
      have b1 : wr.cell? ⟨R, 1, none⟩ = some (.slice none 0 0) := Lib.cell_of_heap HR1.out 1
      have b2 : wr.cell? ⟨R, 2, none⟩ = some (.slice none 0 0) := Lib.cell_of_heap HR1.out 2
      have f0 := froz_of HR1.out 0
      have f1 := froz_of HR1.out 1
      have f2 := froz_of HR1.out 2
      have hk8 := three_kept (fun k => Own b be bw k ∨ k = Q ∨ k = R) (w := wr) (b := R) (.inr (.inr rfl)) (.int .i64 (most : Int)) (.slice a1 n1 c1) (.slice a2 n2 c2)
      have hk9 := three_kept (fun k => k = R) (w := wr) (b := R) rfl (.int .i64 (most : Int)) (.slice a1 n1 c1) (.slice a2 n2 c2)
      have HE : Hid ((((wr.setCell ⟨R, 0, none⟩ (.int .i64 (most : Int))).setCell ⟨R, 1, none⟩ (.slice a1 n1 c1)).setCell ⟨R, 2, none⟩ (.slice a2 n2 c2)).drew.heap[R]? = some (.cells #[.int .i64 (most : Int), .slice a1 n1 c1, .slice a2 n2 c2] 27 (0, 0)) ∧
          MadeOk most xs w (.returned (.tuple #[.pointer (some ⟨b, 0, none⟩), .agg #[.int .i64 (most : Int), .slice a1 n1 c1, .slice a2 n2 c2], .bool true])) (((wr.setCell ⟨R, 0, none⟩ (.int .i64 (most : Int))).setCell ⟨R, 1, none⟩ (.slice a1 n1 c1)).setCell ⟨R, 2, none⟩ (.slice a2 n2 c2)).drew) := Lib.hid (by
        refine ⟨three (w := wr) HR1.out _ _ _, b, be, bw, s, _, rfl, ⟨by omega, by omega⟩, ?_, ?_, ?_, ?_, HG.out⟩
        · exact (HS1.out.kept hk9 (fun e => by have := (HOW.out b (.inl rfl)).1; have := HRE.out; omega) (fun e => by have := (HOW.out be (.inr (.inl rfl))).1; have := HRE.out; omega) (fun e => by have := (HOW.out bw (.inr (.inr rfl))).1; have := HRE.out; omega)).below (below_drew _)
        · exact ((HRA.out.kept hk8).mono (fun _ e => e.elim)).below (below_drew _)
        · have h9 := HAD.out
          rw [hin, List.take_length] at h9
          simpa using h9
        · exact (HB.out.trans (hk9.toBelow HB.out.size (fun k e => by omega))).drew)
      have hii : decide ((i : Int) < (n : Int)) = false := decide_eq_false (by omega)
      have hii2 : decide (i < n) = false := decide_eq_false (by omega)
      clear hk8 hk9 hin HS1 HRA HAD HB HQ1 HR1
      go_wp2_with fail
      go_region
      go_wp2
      exact bodyPost_ret (v := .tuple #[.pointer (some ⟨b, 0, none⟩), .agg #[.int .i64 (most : Int), .slice a1 n1 c1, .slice a2 n2 c2], .bool true]) (by
        have e0 := Lib.cell_of_heap HE.out.1 0
        have e1 := Lib.cell_of_heap HE.out.1 1
        have e2 := Lib.cell_of_heap HE.out.1 2
        simp [results, Tryd.results9, go_sem, e0, e1, e2]) rfl HE.out.2
end Go.Proofs.YtpjpkpbfbbpmdaaDoor.Ts
