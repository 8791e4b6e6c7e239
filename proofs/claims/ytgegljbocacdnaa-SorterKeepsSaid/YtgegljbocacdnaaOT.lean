/- Merge: lists that rise are put together; else it says ErrArg. -/
import Derived.Test.YtgegljbocacdnaaOR
set_option maxRecDepth 100000
namespace Go.Proofs.Ytgegljbocacdnaa
open Go.RowKit

/-- Texts that a machine's memory can hold. -/
def Szd (rs : List ByteArray) : Prop := ∀ s, s ∈ rs → s.size ≤ 281474976710656
theorem Runs.below {w w' : World} {v : Value} {rss : List (List ByteArray)} (h : Runs w v rss) (hb : Below w.heap.size w w') : Runs w' v rss := by
  obtain ⟨a, c, h1, h2⟩ := h
  refine ⟨a, c, h1, h2.imp id ?_⟩
  rintro ⟨b, off, e, hlt, h3⟩
  refine ⟨b, off, e, Nat.lt_of_lt_of_le hlt hb.size, fun j hj => ?_⟩
  obtain ⟨v', h4, h5⟩ := h3 j hj
  exact ⟨v', (hb.cell (p := ⟨b, off + j, none⟩) hlt).trans h4, h5.below hb (Nat.le_refl _)⟩
/-- What Merge answers. -/
def MergePost (rss : List (List ByteArray)) (w : World) (e : Ending) (w' : World) : Prop :=
  ((∀ l, l ∈ rss → Rise l) → ∃ v, e = .returned (.tuple #[v, .int .i64 0]) ∧ Strs w.heap.size w' v (srtS rss.flatten)) ∧
  ((¬ ∀ l, l ∈ rss → Rise l) → e = .returned (.tuple #[.slice none 0 0, .int .i64 1])) ∧ Below w.heap.size w w'
theorem set_same {α : Type} (l : List α) (k : Nat) (x : α) (h : l[k]? = some x) : l.set k x = l := by
  apply List.ext_getElem?
  intro j
  rw [List.getElem?_set]
  split
  · rename_i e
    subst e
    rw [h]; simp [(List.getElem?_eq_some_iff.1 h).1]
  · rfl

set_option maxHeartbeats 3200000 in
theorem merge_any (rss : List (List ByteArray)) (v : Value) (w : World) (hR : Runs w v rss) (hlen : rss.length ≤ 9223372036854775807) (hlens : ∀ l, l ∈ rss → l.length ≤ 9223372036854775807) (hsum : (∀ l, l ∈ rss → Rise l) → rss.flatten.length ≤ 4194304) (hsz : Szd rss.flatten) :
    Calls Try.prog 17 #[v] w (MergePost rss w) := by
  obtain ⟨a, c, rfl, -⟩ := id hR
  obtain ⟨N, hN⟩ : ∃ N, N = rss.length := ⟨_, rfl⟩
  rw [← hN] at hR hlen ⊢
  have HR := Lib.hid hR
  have HN := Lib.hid hN.symm
  have HSUM := Lib.hid hsum
  have HL := Lib.hid hlens
  have HSZ := Lib.hid hsz
  clear hR hN hsum hlens hsz
  go_enter Try.func17, Try.ntmps17
  go_wp2
  go_loopw [11] (fun i wr => ∃ k q : Nat, k ≤ N ∧ i = .int .i64 k ∧ Hid (wr = w.drewN q) ∧ Hid (∀ j, j < k → ∀ l, rss[j]? = some l → Rise l)) (fun i _ => N - (intOf i).toNat)
  case atStart => exact ⟨0, 0, by omega, rfl, Lib.hid rfl, Lib.hid (fun j h => by omega)⟩
  case round =>
    obtain ⟨k, q, hk, rfl, HW, HO⟩ := hrel
    by_cases hlt : k < N
    · have hkl : k < rss.length := by rw [HN.out]; exact hlt
      obtain ⟨b, o, v', rfl, -, hcell, hT⟩ := HR.out.at hkl
      have hcell' : wr.cell? ⟨b, o + k, none⟩ = some v' := (congrArg (fun W : World => W.cell? ⟨b, o + k, none⟩) HW.out).trans hcell
      have hkN : (k : Int) < N := by omega
      have hTx : Texts wr v' rss[k] := by
        rw [HW.out]; exact hT.texts.below (below_drewN w q)
      have HIS := Lib.hid (isSorted_any v' rss[k] wr hTx (HL.out _ (List.getElem_mem hkl)))
      obtain ⟨a1, c1, hv1, -⟩ := hT
      obtain ⟨n1, hn1⟩ : ∃ n, n = rss[k].length := ⟨_, rfl⟩
      rw [← hn1] at hv1
      subst hv1
      by_cases hri : Rise rss[k]
      · have hdec : decide (Rise rss[k]) = true := decide_eq_true hri
        rw [hdec] at HIS
        have HO1 : Hid (∀ j, j < k + 1 → ∀ l, rss[j]? = some l → Rise l) := Lib.hid (fun j hj l hl => by
          by_cases hjk : j = k
          · subst hjk
            rw [List.getElem?_eq_getElem hkl] at hl
            injection hl with hl
            rw [← hl]; exact hri
          · exact HO.out j (by omega) l hl)
        clear hcell hTx hn1 hri hdec hkl
        go_wp2_with fail
        refine HIS.out.mono ?_
        rintro e w1 ⟨rfl, q1, hw1⟩
        have HW1 : Hid (w1 = w.drewN (q + q1)) := Lib.hid (by rw [← hw1, HW.out, World.drewN_drewN])
        clear hw1
        go_wp2
        go_roundw
        case rel => exact ⟨k + 1, _, by omega, by go_num, HW1, HO1⟩
        case measure => simp [intOf]; omega
      · have hdec : decide (Rise rss[k]) = false := decide_eq_false hri
        rw [hdec] at HIS
        have HBAD : Hid (¬ ∀ l, l ∈ rss → Rise l) := Lib.hid (fun h => hri (h _ (List.getElem_mem hkl)))
        clear hcell hTx hn1 hri hdec hkl
        go_wp2_with fail
        refine HIS.out.mono ?_
        rintro e w1 ⟨rfl, q1, hw1⟩
        have HW1 : Hid (w1 = w.drewN (q + q1)) := Lib.hid (by rw [← hw1, HW.out, World.drewN_drewN])
        clear hw1
        go_wp2
        go_ret2
        exact ⟨fun h => absurd h HBAD.out, fun _ => rfl, by rw [HW1.out]; exact below_drewN w _⟩
    · obtain rfl : k = N := by omega
      have HGOOD : Hid (∀ l, l ∈ rss → Rise l) := Lib.hid (fun l hl => by
        obtain ⟨j, hj, rfl⟩ := List.getElem_of_mem hl
        exact HO.out j (by rw [← HN.out]; exact hj) _ (List.getElem?_eq_getElem hj))
      have hR2 : Runs wr (.slice a k c) rss := by rw [HW.out]; exact HR.out.below (below_drewN w q)
      have HMG := Lib.hid (merged_any rss a k c wr HN.out hR2 hlen (HSUM.out HGOOD.out) HGOOD.out)
      have hsz0 : wr.heap.size = w.heap.size := by rw [HW.out]; rfl
      have hbw : Below w.heap.size w wr := by rw [HW.out]; exact below_drewN w q
      rw [hsz0] at HMG
      obtain ⟨all, hall⟩ : ∃ all, all = srtS rss.flatten := ⟨_, rfl⟩
      have HALL := Lib.hid hall
      have hlen9 : all.length ≤ 4194304 := by rw [hall, srtS_len]; exact HSUM.out HGOOD.out
      have HSZA : Hid (∀ s, s ∈ all → s.size ≤ 281474976710656) := Lib.hid (fun s hs => HSZ.out s ((srtS_perm _).mem_iff.1 (by rw [hall] at hs; exact hs)))
      rw [← hall] at HMG
      have HBW := Lib.hid hbw
      clear hall hbw hsz0 hR2 HSZ HL HR HO HSUM
      go_wp2_with fail
      refine HMG.out.mono ?_
      rintro e w1 ⟨v1, rfl, hs1, hb1⟩
      obtain ⟨a1, c1, rfl⟩ := hs1.shape
      obtain ⟨M, hM⟩ : ∃ M, M = all.length := ⟨_, rfl⟩
      rw [← hM] at hs1 hlen9 ⊢
      have HMM := Lib.hid hM
      have HS1 := Lib.hid hs1
      have HB1 := Lib.hid (HBW.out.trans hb1)
      clear hs1 hb1 hM HMG
      go_wp2
      go_loopw [23] (fun i wy => ∃ k : Nat, k ≤ M ∧ i = .int .i64 k ∧ Hid (Strs w.heap.size wy (.slice a1 M c1) all) ∧ Hid (Below w.heap.size w wy)) (fun i _ => M - (intOf i).toNat)
      case atStart => exact ⟨0, by omega, rfl, HS1, HB1⟩
      case round =>
        obtain ⟨j, hj, rfl, HSY, HBY⟩ := hrel
        by_cases hlt2 : j < M
        · have hjl : j < all.length := by rw [← HMM.out]; exact hlt2
          obtain ⟨g, rfl⟩ : ∃ g, a1 = some ⟨g, 0, none⟩ := by
            rcases HSY.out.2 with ⟨h1, _⟩ | ⟨g, cap, cur, h1, _⟩
            · injection h1 with h1 h2 _; omega
            · injection h1 with h1 _ _; exact ⟨g, h1⟩
          have hrow : wr.ownsRow w.heap.size 9 1 (.slice (some ⟨g, 0, none⟩) M c1) M (all.map .string) := by
            have := HSY.out
            unfold Strs at this
            rwa [← HMM.out] at this
          obtain ⟨s, hs⟩ : ∃ s, s = all[j] := ⟨_, rfl⟩
          have hat : (all.map Value.string)[j]? = some (.string s) := by rw [List.getElem?_map, List.getElem?_eq_getElem hjl, hs]; rfl
          have hcj : wr.cell? ⟨g, j, none⟩ = some (.string s) := (hrow.cellAt j (by omega)).trans hat
          have hg := (row_type hrow).2
          obtain ⟨cur, hg⟩ := hg
          have hgl : g < wr.heap.size := (Array.getElem?_eq_some_iff.1 hg).1
          have HCL := Lib.hid (clone_any s wr (HSZA.out s (by rw [hs]; exact List.getElem_mem hjl)))
          have HROW := Lib.hid hrow; have HAT := Lib.hid hat
          have hjM : (j : Int) < M := by omega
          clear hrow hat hs hg hjl
          go_wp2_with fail
          refine HCL.out.mono ?_
          rintro e w2 ⟨rfl, hb2⟩
          have hrow2 := ownsRow_below HROW.out hb2
          have hc2 : w2.cell? ⟨g, j, none⟩ = some (.string s) := (hb2.cell (p := ⟨g, j, none⟩) hgl).trans hcj
          have hf2 := hrow2.frozenAt j
          have hst := hrow2.stored j (.string s)
          rw [set_same _ _ _ HAT.out] at hst
          have hge := (row_type hrow2).1
          have H2 : Hid (Strs w.heap.size (w2.setCell ⟨g, j, none⟩ (.string s)) (.slice (some ⟨g, 0, none⟩) M c1) all) := Lib.hid (by
            unfold Strs; rw [← HMM.out]; exact hst.1)
          have hBY := HBY.out.size
          have HB2 : Hid (Below w.heap.size w (w2.setCell ⟨g, j, none⟩ (.string s))) := Lib.hid ((HBY.out.trans (hb2.mono hBY)).trans ⟨hst.2.os, hst.2.tape, hst.2.output, hst.2.size, fun k hk => hst.2.block k (by have := hb2.size; omega) (fun e => by injection e with e; omega)⟩)
          clear hb2 hrow2 hst hcj HCL HROW HAT
          go_wp2
          go_roundw
          case rel => exact ⟨j + 1, by omega, by go_num, H2, HB2⟩
          case measure => simp [intOf]; omega
        · go_wp2
          go_ret2
          exact ⟨fun _ => ⟨_, rfl, by rw [← HALL.out]; exact HSY.out⟩, fun h => absurd HGOOD.out h, HBY.out⟩
end Go.Proofs.Ytgegljbocacdnaa
