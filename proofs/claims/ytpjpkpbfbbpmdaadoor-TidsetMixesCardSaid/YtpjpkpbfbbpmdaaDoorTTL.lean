/- Whether a set is the document's. -/
import Derived.Test.YtpjpkpbfbbpmdaaDoorTTK
import Derived.Test.YtpjpkpbfbbpmdaaDoorTTD
set_option maxRecDepth 100000
namespace Go.Proofs.YtpjpkpbfbbpmdaaDoor.Ts
open Go Go.RowKit

/-- A row that may be written: in memory from block B on. -/
def WRow (B : Nat) (w : World) (a : Option Addr) (n : Nat) : Prop := n = 0 ∨ ∃ g cur t, a = some ⟨g, 0, none⟩ ∧ B ≤ g ∧ w.heap[g]? = some (.cells cur t (0, 0)) ∧ n ≤ cur.size
theorem WRow.below {B : Nat} {w w' : World} {a : Option Addr} {n : Nat} (h : WRow B w a n) (hb : Below w.heap.size w w') : WRow B w' a n :=
  h.imp id fun ⟨g, cur, t, h1, h2, h3, h4⟩ => ⟨g, cur, t, h1, h2, (hb.block g (Array.getElem?_eq_some_iff.1 h3).1).trans h3, h4⟩
theorem NRow.w {B : Nat} {w : World} {a : Option Addr} {n c : Nat} {l : List Nat} (h : NRow B w (.slice a n c) l) : WRow B w a l.length := by
  rcases h.2 with ⟨_, h0⟩ | ⟨g, cap, cur, hv, hB, hg, hrest⟩
  · exact .inl h0
  · injection hv with hv _ _
    exact .inr ⟨g, cur, _, hv, hB, hg, by have := hrest.1; have := hrest.2.2.1; omega⟩
theorem WRow.set {B : Nat} {w : World} {a : Option Addr} {n : Nat} (h : WRow B w a n) (b i : Nat) (v : Value) : WRow B (w.setCell ⟨b, i, none⟩ v) a n := by
  refine h.imp id fun ⟨g, cur, t, h1, h2, h3, h4⟩ => ?_
  by_cases e : g = b
  · subst e
    exact ⟨g, _, t, h1, h2, heap_setCell_same w g i _ t v h3, by simpa using h4⟩
  · have := (Kept.setCell (fun k => k = b) w (b := b) (i := i) rfl v).block g (Array.getElem?_eq_some_iff.1 h3).1 e
    exact ⟨g, cur, t, h1, h2, this.trans h3, h4⟩
theorem WRow.at {B : Nat} {w : World} {a : Option Addr} {n : Nat} (h : WRow B w a n) {i : Nat} (hi : i < n) : ∃ g, a = some ⟨g, 0, none⟩ ∧ B ≤ g ∧ (∃ v, w.cell? ⟨g, i, none⟩ = some v) ∧ w.frozen? ⟨g, i, none⟩ = false := by
  rcases h with h | ⟨g, cur, t, h1, h2, h3, h4⟩
  · omega
  · refine ⟨g, h1, h2, ⟨cur[i]'(by omega), ?_⟩, froz_of h3 i⟩
    rw [Lib.cell_of_heap h3 i]
    exact Array.getElem?_eq_getElem (by omega)

set_option maxHeartbeats 6400000 in
theorem same_ok {w : World} {b be bw : Nat} {s : Tset} {v : Value} (hs : StAt w b be bw s) (hr : RAt (fun _ => False) w s v) (la : Option Addr) (zs : List Int) (zn lc : Nat) (hzn : zn = zs.length) (hz : ZV w la zs) (hnz : zn ≤ 9223372036854775807) (hT : Tab w) :
    Calls Tryd.prog 13 #[.pointer (some ⟨b, 0, none⟩), v, .slice la zn lc] w fun e w' => e = .returned (.bool true) ∧ Below w.heap.size w w' := by
  have hk := hs.ok
  have h1 := hT.1
  obtain ⟨a, n, c, a', n', c', rfl, hn, hn', hTT, hPP⟩ := hr
  obtain ⟨m, hm⟩ : ∃ m, m = s.most := ⟨_, rfl⟩
  rw [← hm]
  obtain ⟨W1, hW1⟩ : ∃ W1, W1 = w.alloc (.cells #[.int .i64 (m : Int), .slice a n c, .slice a' n' c'] 27) := ⟨_, rfl⟩
  have hb1 : Below w.heap.size w W1 := by rw [hW1]; exact (Below.refl _ _).alloc (Nat.le_refl _) _
  obtain ⟨B, hB⟩ : ∃ B, B = w.heap.size := ⟨_, rfl⟩
  have hk0 : W1.heap[B]? = some (.cells #[.int .i64 (m : Int), .slice a n c, .slice a' n' c'] 27 (0, 0)) := by
    rw [hW1, hB]; exact heap_alloc_new w _
  have hz1 : W1.heap.size = B + 1 := by rw [hW1, hB]; simp
  have HQ : Hid (∀ V, Below W1.heap.size W1 V → V.cell? ⟨B, 0, none⟩ = some (.int .i64 (m : Int)) ∧ V.cell? ⟨B, 1, none⟩ = some (.slice a n c) ∧ V.cell? ⟨B, 2, none⟩ = some (.slice a' n' c')) := Lib.hid fun V hV => by
    have hk1 := (hV.block B (by omega)).trans hk0
    exact ⟨Lib.cell_of_heap hk1 0, Lib.cell_of_heap hk1 1, Lib.cell_of_heap hk1 2⟩
  have HS1 := Lib.hid (hs.below hb1)
  have HT1 := Lib.hid (hT.below hb1 h1)
  have HTL := Lib.hid (hTT.below hb1)
  have HPL := Lib.hid (hPP.below hb1)
  have HZ1 := Lib.hid (hz.below hb1)
  have HR1 : Hid (RAt (fun _ => False) W1 s (rv m a n c a' n' c')) := Lib.hid ⟨a, n, c, a', n', c', by rw [hm], hn, hn', hTT.below hb1, hPP.below hb1⟩
  have HB1 := Lib.hid hb1; have HW1 := Lib.hid hW1; have HBE := Lib.hid hB
  have HN := Lib.hid hn; have HN' := Lib.hid hn'; have HZN := Lib.hid hzn
  have hnf : n ≤ 2199023255552 := by rw [hn]; exact hs.few.1
  have hnf' : n' ≤ 2199023255552 := by rw [hn']; exact hs.few.2
  have h11 : 1 ≤ W1.heap.size := by omega
  have HTD : Hid (∀ V, Below W1.heap.size W1 V → Calls Tryd.prog 18 #[.pointer (some ⟨b, 0, none⟩)] V fun e w' => ∃ a5 c5, e = .returned (.slice a5 n c5) ∧ Hid (NRow V.heap.size w' (.slice a5 n c5) s.T ∧ Below V.heap.size V w')) := Lib.hid fun V hV => by
    refine (tids_any (HS1.out.below hV) (HT1.out.below hV h11)).mono ?_
    rintro e w' ⟨v5, rfl, h5, h6⟩
    obtain ⟨a5, c5, rfl⟩ := h5.shape
    rw [← hn] at h5 ⊢
    exact ⟨a5, c5, rfl, Lib.hid ⟨h5, h6⟩⟩
  have HPG : Hid (∀ V, Below W1.heap.size W1 V → Calls Tryd.prog 16 #[.pointer (some ⟨b, 0, none⟩)] V fun e w' => ∃ a5 c5, e = .returned (.slice a5 n' c5) ∧ Hid (NRow V.heap.size w' (.slice a5 n' c5) s.P ∧ Below V.heap.size V w')) := Lib.hid fun V hV => by
    refine (pages_any (HS1.out.below hV)).mono ?_
    rintro e w' ⟨v5, rfl, h5, h6⟩
    obtain ⟨a5, c5, rfl⟩ := h5.shape
    rw [← hn'] at h5 ⊢
    exact ⟨a5, c5, rfl, Lib.hid ⟨h5, h6⟩⟩
  clear hs hz hT hk hn hn' hTT hPP hm hW1 hb1 hB hk0 hzn
  unfold rv
  go_enter Tryd.func13, Tryd.ntmps13
  go_wp2_with fail
  rw [← HW1.out, ← HBE.out]
  refine (HTD.out _ (Below.refl _ _)).mono ?_
  rintro e w2 ⟨a5, c5, rfl, HP2⟩
  have HB2 := Lib.hid HP2.out.2
  have HPG2 := Lib.hid (HPG.out _ HB2.out)
  go_wp2_with fail
  refine HPG2.out.mono ?_
  rintro e w3 ⟨a6, c6, rfl, HP3⟩
  have HB3 := Lib.hid (bel3 HB2.out HP3.out.2)
  obtain ⟨q0, q1, q2⟩ := HQ.out w3 HB3.out
  have HI1 := Lib.hid (ints_same (n := n) c5 c HN.out (HP2.out.1.nums.below HP3.out.2) (HTL.out.below HB3.out).v hnf)
  have HWA : Hid (WRow W1.heap.size w3 a5 n) := Lib.hid (by rw [HN.out]; exact (HP2.out.1.below HP3.out.2).w)
  have HWB : Hid (WRow W1.heap.size w3 a6 n') := Lib.hid (by rw [HN'.out]; exact (HP3.out.1.mono HB2.out.size).w)
  have HPN := Lib.hid HP3.out.1.nums
  clear HP2 HP3 HPG2
  go_wp2_with fail
  refine HI1.out.mono ?_
  rintro e w4 ⟨rfl, hb4⟩
  have HB4 := Lib.hid (bel3 HB3.out hb4)
  obtain ⟨x0, x1, x2⟩ := HQ.out w4 HB4.out
  have HI2 := Lib.hid (ints_same (n := n') c6 c' HN'.out (HPN.out.below hb4) (HPL.out.below HB4.out).v hnf')
  have HWA4 := Lib.hid (HWA.out.below hb4)
  have HWB4 := Lib.hid (HWB.out.below hb4)
  clear hb4 HI1 HPN HWA HWB q0 q1 q2
  go_wp2_with fail
  refine HI2.out.mono ?_
  rintro e w5 ⟨rfl, hb5⟩
  have HB5 := Lib.hid (bel3 HB4.out hb5)
  have HWA5 := Lib.hid (HWA4.out.below hb5)
  have HWB5 := Lib.hid (HWB4.out.below hb5)
  clear hb5 HI2 HWA4 HWB4 x0 x1 x2
  go_wp2_with fail
  go_loopw [10] (fun v wr => ∃ i : Nat, i ≤ n ∧ v = .int .i64 i ∧ Hid (Below W1.heap.size W1 wr) ∧ Hid (WRow W1.heap.size wr a5 n) ∧ Hid (WRow W1.heap.size wr a6 n')) (fun v _ => n - (intOf v).toNat)
  case atStart => exact ⟨0, by omega, rfl, HB5, HWA5, HWB5⟩
  case round =>
    rename World => wr
    obtain ⟨i, hi, rfl, HBR, HWA, HWB⟩ := hrel
    clear HB5 HWA5 HWB5
    by_cases hlt : i < n
    · obtain ⟨g, rfl, hg, ⟨u, hc⟩, hf⟩ := HWA.out.at hlt
      have hii : (i : Int) < (n : Int) := by omega
      have HBX : Hid (Below W1.heap.size W1 (wr.setCell ⟨g, i, none⟩ (.int .i64 (-7)))) := Lib.hid (HBR.out.setCell hg _)
      have HWA' := Lib.hid (HWA.out.set g i (.int .i64 (-7)))
      have HWB' := Lib.hid (HWB.out.set g i (.int .i64 (-7)))
      clear HBR HWA HWB
      go_wp2
      go_roundw
      case rel => exact ⟨i + 1, by omega, by go_num, HBX, HWA', HWB'⟩
      case measure => simp [intOf]; omega
    · have hki : ¬ (i : Int) < (n : Int) := by omega
      have HBS := HBR
      have HWS := HWB
      go_wp2_with fail
      clear HBR HWA HWB
      go_loopw [11] (fun v wr => ∃ i : Nat, i ≤ n' ∧ v = .int .i64 i ∧ Hid (Below W1.heap.size W1 wr) ∧ Hid (WRow W1.heap.size wr a6 n')) (fun v _ => n' - (intOf v).toNat)
      case atStart => exact ⟨0, by omega, rfl, HBS, HWS⟩
      case round =>
        rename World => wr
        obtain ⟨i, hi, rfl, HBR, HWB⟩ := hrel
        clear HBS HWS
        by_cases hlt : i < n'
        · obtain ⟨g, rfl, hg, ⟨u, hc⟩, hf⟩ := HWB.out.at hlt
          have hii : (i : Int) < (n' : Int) := by omega
          have HBX : Hid (Below W1.heap.size W1 (wr.setCell ⟨g, i, none⟩ (.int .i64 (-7)))) := Lib.hid (HBR.out.setCell hg _)
          have HWB' := Lib.hid (HWB.out.set g i (.int .i64 (-7)))
          clear HBR HWB
          go_wp2
          go_roundw
          case rel => exact ⟨i + 1, by omega, by go_num, HBX, HWB'⟩
          case measure => simp [intOf]; omega
        · have hki : ¬ (i : Int) < (n' : Int) := by omega
          have HBS := HBR
          go_wp2_with fail
          clear HBR HWB
          go_loopw [9, 12] (fun v9 v wr => ∃ i : Nat, i ≤ zn ∧ v9 = .bool true ∧ v = .int .i64 i ∧ Hid (Below W1.heap.size W1 wr)) (fun _ v _ => zn - (intOf v).toNat)
          case atStart => exact ⟨0, by omega, rfl, rfl, HBS⟩
          case round =>
            rename World => wr
            obtain ⟨i, hi, rfl, rfl, HBR⟩ := hrel
            clear HBS
            by_cases hlt : i < zn
            · have hlt' : i < zs.length := by rw [← HZN.out]; exact hlt
              obtain ⟨zb, zo, rfl, hzl, cz⟩ := (HZ1.out.below HBR.out).at hlt'
              obtain ⟨t, ht⟩ : ∃ t, t = zs[i] := ⟨_, rfl⟩
              rw [← ht] at cz
              have hii : (i : Int) < (zn : Int) := by omega
              have HCS : Hid (∀ V, Below wr.heap.size wr V → V.cell? ⟨B, 0, none⟩ = some (.int .i64 (m : Int)) ∧ V.cell? ⟨B, 1, none⟩ = some (.slice a n c) ∧ V.cell? ⟨B, 2, none⟩ = some (.slice a' n' c') ∧ V.cell? ⟨zb, zo + i, none⟩ = some (.int .i64 t)) := Lib.hid fun V hV => by
                obtain ⟨k0, k1, k2⟩ := HQ.out V (bel3 HBR.out hV)
                exact ⟨k0, k1, k2, (hV.cell (p := ⟨zb, zo + i, none⟩) hzl).trans cz⟩
              obtain ⟨q, hq⟩ : ∃ q, q = hasB s t := ⟨_, rfl⟩
              have HHA : Hid (∀ V, Below wr.heap.size wr V → Calls Tryd.prog 17 #[.pointer (some ⟨b, 0, none⟩), .int .i64 t] V fun e w' => e = .returned (.bool q) ∧ Below wr.heap.size wr w') := Lib.hid fun V hV => by
                rw [hq]; exact has_in (HS1.out.below HBR.out) t V hV
              have HRH : Hid (∀ V, Below wr.heap.size wr V → Calls Tryd.prog 29 #[.agg #[.int .i64 (m : Int), .slice a n c, .slice a' n' c'], .int .i64 t] V fun e w' => e = .returned (.bool q) ∧ Below wr.heap.size wr w') := Lib.hid fun V hV => by
                rw [hq]; exact (rhas_any (HR1.out.below (bel3 HBR.out hV)) HS1.out.ok t).mono fun _ _ ⟨h1, h2⟩ => ⟨h1, bel3 hV h2⟩
              have hqq : (q == q) = true := by simp
              have HFR : Hid (∀ V, Below wr.heap.size wr V → Below W1.heap.size W1 V) := Lib.hid fun V hV => bel3 HBR.out hV
              obtain ⟨VV, hVV⟩ : ∃ VV, VV = wr := ⟨_, rfl⟩
              rw [← hVV] at HCS HHA HRH HFR
              have HVV := Lib.hid hVV
              have hbr : Below VV.heap.size VV VV := Below.refl _ _
              clear ht hq hVV cz hzl HBR
              go_wp2_with fail
              rw [← HVV.out]
              go_region_held3 (fun w' => w'.cell? ⟨B, 0, none⟩ = some (.int .i64 (m : Int)) ∧ w'.cell? ⟨B, 1, none⟩ = some (.slice a n c) ∧ w'.cell? ⟨B, 2, none⟩ = some (.slice a' n' c') ∧ w'.cell? ⟨zb, zo + i, none⟩ = some (.int .i64 t)) ((refine HCS.out _ ?_; first | assumption | exact hbr.drew))
                (first
                | (go_at_call 17; refine (HHA.out _ (by first | assumption | exact hbr.drew)).mono ?_; rintro e y1 ⟨rfl, hb5⟩)
                | (go_at_call 29; refine (HRH.out _ (by first | assumption | exact hbr.drew)).mono ?_; rintro e y2 ⟨rfl, hb6⟩))
              all_goals
                have HF := Lib.hid (HFR.out _ hb6)
                go_wp2
                go_roundw
                case rel => exact ⟨i + 1, by omega, by first | rfl | simp, by go_num, HF⟩
                case measure => simp [intOf]; omega
            · have hki : ¬ (i : Int) < (zn : Int) := by omega
              have HQ1 : Hid (∀ V, Below wr.heap.size wr V → V.cell? ⟨B, 1, none⟩ = some (.slice a n c)) := Lib.hid fun V hV => (HQ.out V (bel3 HBR.out hV)).2.1
              have HTD7 : Hid (∀ V, Below wr.heap.size wr V → Calls Tryd.prog 18 #[.pointer (some ⟨b, 0, none⟩)] V fun e w' => ∃ a7 c7, e = .returned (.slice a7 n c7) ∧ Below wr.heap.size wr w' ∧ Hid (NumsV 0 w' a7 s.T)) := Lib.hid fun V hV =>
                (HTD.out V (bel3 HBR.out hV)).mono fun e w' ⟨a7, c7, k1, k2⟩ => ⟨a7, c7, k1, bel3 hV k2.out.2, Lib.hid (k2.out.1.nums.mono (Nat.zero_le _))⟩
              have HI7 : Hid (∀ V a7 c7, Below wr.heap.size wr V → Hid (NumsV 0 V a7 s.T) → Calls Tryd.prog 19 #[.slice a7 n c7, .slice a n c] V fun e w' => e = .returned (.bool true) ∧ Below wr.heap.size wr w') := Lib.hid fun V a7 c7 hV h7 =>
                (ints_same (n := n) c7 c HN.out h7.out (HTL.out.below (bel3 HBR.out hV)).v hnf).mono fun _ _ ⟨k1, k2⟩ => ⟨k1, bel3 hV k2⟩
              have HFR : Hid (∀ V, Below wr.heap.size wr V → Below w.heap.size w V) := Lib.hid fun V hV => bel3 HB1.out (bel3 HBR.out hV)
              obtain ⟨VV, hVV⟩ : ∃ VV, VV = wr := ⟨_, rfl⟩
              rw [← hVV] at HQ1 HTD7 HI7 HFR
              have HVV := Lib.hid hVV
              have hbr : Below VV.heap.size VV VV := Below.refl _ _
              clear hVV HBR
              go_wp2_with fail
              rw [← HVV.out]
              go_region_held3 (fun w' => w'.cell? ⟨B, 1, none⟩ = some (.slice a n c)) ((refine HQ1.out _ ?_; first | assumption | exact hbr.drew))
                (first
                | (go_at_call 18; refine (HTD7.out _ (by first | assumption | exact hbr.drew)).mono ?_; rintro e y1 ⟨a7, c7, rfl, hb5, HN7⟩)
                | (go_at_call 19; refine (HI7.out _ _ _ (by assumption) HN7).mono ?_; rintro e y2 ⟨rfl, hb6⟩))
              all_goals
                have HF := Lib.hid (HFR.out _ hb6)
                go_wp2
                go_ret
                exact ⟨rfl, HF.out⟩
end Go.Proofs.YtpjpkpbfbbpmdaaDoor.Ts
