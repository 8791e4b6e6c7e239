/- SorterMerges' walk. -/
import Derived.Test.YtgegljbocacdnaaOY
import Derived.Deep.DeepAppendWide
set_option maxRecDepth 100000
namespace Go.Proofs.Ytgegljbocacdnaa
open Go.RowKit

theorem append_wide (w : World) (ty : TypeId) (v : Value) (rs qs : List ByteArray) (B : Nat) (a : Option Addr) (n c : Nat) (h : Strs B w v rs) (hn : qs.length = n) (hq : TextC w (.slice a n c) qs) (hl : rs.length ≤ 2000) (hm : qs.length * 16 ≤ 140737488351232) (hB : B ≤ w.heap.size) :
    ∃ v' w', (Builtin.append_ #[22, 22] ty #[v, .slice a n c]).run Try.prog w = .ok v' w' ∧ Strs B w' v' (rs ++ qs) ∧ w.grownBy w' v.ownBlock := by
  obtain ⟨i0, hi, q0, q1, q2⟩ := info_parts infoStr
  obtain ⟨a', c', e, hc1, hc2, hq⟩ := hq
  injection e with e1 _ e2
  subst e1 e2
  cases a with
  | none =>
    have hqs : qs = [] := by
      rcases hq with h | ⟨_, _, h, _⟩
      · exact h
      · cases h
    subst hqs
    subst hn
    have hr : (Builtin.append_ #[22, 22] ty #[v, .slice none 0 c]).run Try.prog w = .ok v w := by
      have ht := Try.underlying22
      rcases h.2 with ⟨rfl, _⟩ | ⟨g, cap, cur, rfl, _, _, hnc, _⟩
      · simp [Builtin.append_, run_underlying ht, sizeOf, typeInfo, hi, Builtin.lenOf, Builtin.firstCells]
      · simp [Builtin.append_, run_underlying ht, sizeOf, typeInfo, hi, Builtin.lenOf, Builtin.firstCells, hnc, storeCells]
    exact ⟨v, w, hr, by rw [List.append_nil]; exact h, ⟨rfl, rfl, rfl, Nat.le_refl _, fun _ _ _ => rfl⟩⟩
  | some ad =>
    subst hn
    obtain ⟨v', w', hr, h2, h3, _⟩ := run_append_own_wide (P := Try.prog) w B 22 ty 9 i0 (.string ⟨#[]⟩) 1 16 Try.underlying22 hi q0 q1 q2 rfl (by decide) v rs.length (rs.map .string) h ad qs.length c (qs.map .string) (by simp) (fun j u hu => by
      rw [List.getElem?_map] at hu
      cases hj : qs[j]? with
      | none => rw [hj] at hu; cases hu
      | some x =>
        rw [hj] at hu
        injection hu with hu
        subst hu
        obtain ⟨hj1, hj2⟩ := List.getElem?_eq_some_iff.1 hj
        rcases hq with hq | ⟨b, off, e, _, hq⟩
        · subst hq; simp at hj1
        · injection e with e
          subst e
          rw [Addr.add_lit, hq j hj1, hj2]) (fun u hu => by obtain ⟨x, _, rfl⟩ := List.mem_map.1 hu; rfl) (by unfold maxLen; omega) (by omega) hB
    refine ⟨v', w', hr, ?_, h3⟩
    rw [Strs, List.map_append, List.length_append]
    exact h2
theorem flat_szd {rss : List (List ByteArray)} (h : ∀ l, l ∈ rss → Szd l) : Szd rss.flatten := fun s hs => by
  obtain ⟨l, hl, hs⟩ := List.mem_flatten.1 hs
  exact h l hl s hs

/-- Do the first k lists rise? -/
def fineB (rss : List (List ByteArray)) (k : Nat) : Bool := decide (∀ l, l ∈ rss.take k → Rise l)
theorem fineB_succ {rss : List (List ByteArray)} {k : Nat} (h : k < rss.length) : fineB rss (k + 1) = (fineB rss k && decide (Rise rss[k])) := by
  unfold fineB
  rw [← Bool.decide_and, decide_eq_decide, List.take_succ_eq_append_getElem h]
  constructor
  · intro hh
    exact ⟨fun l hl => hh l (List.mem_append_left _ hl), hh _ (List.mem_append_right _ (List.mem_singleton.2 rfl))⟩
  · rintro ⟨h1, h2⟩ l hl
    rcases List.mem_append.1 hl with hl | hl
    · exact h1 l hl
    · rw [List.mem_singleton.1 hl]; exact h2
theorem fineB_zero (rss : List (List ByteArray)) : fineB rss 0 = true := by unfold fineB; simp

set_option maxHeartbeats 3200000 in
theorem merges_walk (v : Value) (rss : List (List ByteArray)) (w : World) (hR : Runs w v rss) (hlen : rss.length ≤ 9223372036854775807) (hz : ∀ l, l ∈ rss → Szd l ∧ l.length * 16 ≤ reachBytes) :
    Calls Try.prog 4 #[v] w fun e w' => e = .returned (.bool true) ∧ Below w.heap.size w w' := by
  obtain ⟨a, c, rfl, -⟩ := id hR
  obtain ⟨N, hN⟩ : ∃ N, N = rss.length := ⟨_, rfl⟩
  rw [← hN] at hR hlen ⊢
  have HR := Lib.hid hR
  have HN := Lib.hid hN.symm
  have HZ := Lib.hid hz
  clear hR hN hz
  go_enter Try.func4, Try.ntmps4
  go_wp2
  go_loopw [3, 4, 5] (fun o f i wr => ∃ (k n : Nat) (b : Bool) (ao : Option Addr) (co : Nat), k ≤ N ∧ n ≤ 2000 ∧ i = .int .i64 k ∧ f = .bool b ∧ o = .slice ao n co ∧ Hid (fineB rss k = b) ∧ Hid (cntR rss k = n) ∧ Hid (Strs w.heap.size wr (.slice ao n co) (rss.take k).flatten) ∧ Hid (Below w.heap.size w wr)) (fun _ _ i _ => N - (intOf i).toNat)
  case atStart => exact ⟨0, 0, true, none, 0, Nat.zero_le _, Nat.zero_le _, rfl, rfl, rfl, Lib.hid (fineB_zero rss), Lib.hid rfl, Lib.hid (World.ownsRow_nil _ _ _ _), Lib.hid (Below.refl _ _)⟩
  case round =>
    obtain ⟨k, n, b, ao, co, hk, hn, rfl, rfl, rfl, HF, HC, HS, HB⟩ := hrel
    by_cases hlt : k < N
    · have hkl : k < rss.length := by rw [HN.out]; exact hlt
      obtain ⟨bo, oo, v', rfl, hbw, hcell, hT⟩ := HR.out.at hkl
      have hcell' := (HB.out.cell (p := ⟨bo, oo + k, none⟩) hbw).trans hcell
      have hkN : (k : Int) < N := by omega
      obtain ⟨l, hl⟩ : ∃ l, l = rss[k] := ⟨_, rfl⟩
      have hzl := HZ.out l (by rw [hl]; exact List.getElem_mem hkl)
      have hfs := fineB_succ hkl
      have hcs := cntR_succ hkl
      have hflat : (rss.take (k + 1)).flatten = (rss.take k).flatten ++ l := by
        rw [List.take_succ_eq_append_getElem hkl, List.flatten_append, ← hl]; simp
      rw [← hl] at hT hfs hcs
      rw [HF.out] at hfs
      rw [HC.out] at hcs
      obtain ⟨a1, c1, hv1, hc1, hc9, -⟩ := id hT
      obtain ⟨n1, hn1⟩ : ∃ n, n = l.length := ⟨_, rfl⟩
      rw [← hn1] at hv1 hcs
      subst hv1
      have hl16 : l.length * 16 ≤ 140737488351232 := hzl.2
      have hn1b : n1 ≤ 9223372036854775807 := by omega
      have hfl : (rss.take k).flatten.length = n := HC.out
      obtain ⟨v2, w2, hr2, hs2, hg2⟩ := append_wide _ 22 _ _ l w.heap.size a1 n1 c1 HS.out hn1.symm (hT.below HB.out (Nat.le_refl _)) (by rw [hfl]; exact hn) hl16 HB.out.size
      obtain ⟨a2, c2, hv2⟩ := hs2.shape
      rw [List.length_append, hfl, ← hn1] at hv2
      subst hv2
      have hb2 : Below w.heap.size w w2 := HB.out.trans ⟨hg2.os, hg2.tape, hg2.output, hg2.size, fun k hk => hg2.block k (Nat.lt_of_lt_of_le hk HB.out.size) (fun e => by have := (HS.out.lt k e.symm).1; omega)⟩
      have hc2 : w2.cell? ⟨bo, oo + k, none⟩ = some (.slice a1 n1 c1) := (hb2.cell (p := ⟨bo, oo + k, none⟩) hbw).trans hcell
      rw [← hflat] at hs2
      have HS2 := Lib.hid hs2
      have HB2 := Lib.hid hb2
      have HRI := Lib.hid (xrises_any _ l w2 (hT.below hb2 (Nat.le_refl _)).texts (by rw [← hn1]; exact hn1b))
      rw [← hn1] at hl16
      have HFS := Lib.hid hfs; have HCS := Lib.hid hcs
      clear hcell hl hzl hfs hcs hflat hT hn1 hfl hs2 hg2 hb2 hkl
      cases b with
      | false =>
        have HFS2 : Hid (fineB rss (k + 1) = false) := Lib.hid (by rw [HFS.out]; rfl)
        by_cases hbig : 2000 < n + n1
        · have HAW := Lib.hid (xawake_any w2)
          have hbi : (2000 : Int) < (n : Int) + n1 := by omega
          go_wp2_with (at_builtin; refine Lib.wpList_append_run _ rfl (.tmp 17) (.tmp 21) 22 22 rfl _ _ rfl rfl _ _ hr2 ?_)
          refine HAW.out.mono ?_
          rintro e w3 ⟨rfl, hb3⟩
          go_wp2
          go_ret
          exact ⟨rfl, HB2.out.trans (hb3.mono HB2.out.size)⟩
        · have hbi : n + n1 ≤ 2000 := by omega
          go_wp2_with (at_builtin; refine Lib.wpList_append_run _ rfl (.tmp 17) (.tmp 21) 22 22 rfl _ _ rfl rfl _ _ hr2 ?_)
          clear hr2
          go_roundw
          case rel => exact ⟨k + 1, n + n1, false, a2, c2, by omega, hbi, by go_num, rfl, rfl, HFS2, HCS, HS2, HB2⟩
          case measure => simp [intOf]; omega
      | true =>
        obtain ⟨b2, hb2e⟩ : ∃ b2, b2 = decide (Rise l) := ⟨_, rfl⟩
        rw [← hb2e] at HRI HFS
        have HFS2 : Hid (fineB rss (k + 1) = b2) := Lib.hid (by rw [HFS.out]; rfl)
        clear hb2e HFS
        by_cases hbig : 2000 < n + n1
        · have hbi : (2000 : Int) < (n : Int) + n1 := by omega
          go_wp2_with (at_builtin; refine Lib.wpList_append_run _ rfl (.tmp 17) (.tmp 21) 22 22 rfl _ _ rfl rfl _ _ hr2 ?_)
          refine HRI.out.mono ?_
          rintro e w3 ⟨rfl, q3, rfl⟩
          have HAW := Lib.hid (xawake_any (w2.drewN q3))
          go_wp2_with fail
          refine HAW.out.mono ?_
          rintro e w4 ⟨rfl, hb4⟩
          go_wp2
          go_ret
          exact ⟨rfl, HB2.out.trans (((below_drewN w2 q3).trans hb4).mono HB2.out.size)⟩
        · have hbi : n + n1 ≤ 2000 := by omega
          go_wp2_with (at_builtin; refine Lib.wpList_append_run _ rfl (.tmp 17) (.tmp 21) 22 22 rfl _ _ rfl rfl _ _ hr2 ?_)
          refine HRI.out.mono ?_
          rintro e w3 ⟨rfl, q3, rfl⟩
          have HS3 := Lib.hid (HS2.out.below (below_drewN w2 q3))
          have HB3 := Lib.hid (HB2.out.trans ((below_drewN w2 q3).mono HB2.out.size))
          clear hr2
          go_wp2
          go_roundw
          case rel => exact ⟨k + 1, n + n1, b2, a2, c2, by omega, hbi, by go_num, rfl, rfl, HFS2, HCS, HS3, HB3⟩
          case measure => simp [intOf]; omega
    · obtain rfl : k = N := by omega
      have htake : rss.take k = rss := by rw [← HN.out, List.take_length]
      have hbd : decide (∀ l, l ∈ rss → Rise l) = b := by have := HF.out; unfold fineB at this; rwa [htake] at this
      have hcn : rss.flatten.length = n := by have := HC.out; unfold cntR at this; rwa [htake] at this
      have hR1 : Runs wr (.slice a k c) rss := HR.out.below HB.out
      have hM := merge_any rss _ wr hR1 (by rw [HN.out]; exact hlen) (fun l hl => by have := (HZ.out l hl).2; unfold reachBytes at this; omega) (fun _ => by rw [hcn]; omega) (flat_szd (fun l hl => (HZ.out l hl).1))
      have hSA : Strs w.heap.size wr (.slice ao n co) rss.flatten := by have := HS.out; rwa [htake] at this
      have HSA := Lib.hid hSA
      have HCN := Lib.hid hcn
      have HBSZ := HB.out.size
      clear htake hcn hSA HF HC HS HZ
      cases b with
      | false =>
        have hbad : ¬ ∀ l, l ∈ rss → Rise l := of_decide_eq_false hbd
        have HM : Hid (Calls Try.prog 17 #[.slice a k c] wr fun e w' => e = .returned (.tuple #[.slice none 0 0, .int .i64 1]) ∧ Below wr.heap.size wr w') := Lib.hid (hM.mono fun e w' ⟨_, h2, h3⟩ => ⟨h2 hbad, h3⟩)
        clear hM hbad hbd hR1
        go_wp2_with fail
        refine HM.out.mono ?_
        rintro e w2 ⟨rfl, hb2⟩
        have HB2 := Lib.hid (HB.out.trans (hb2.mono HBSZ))
        have HAW := Lib.hid (xawake_any w2)
        clear hb2
        go_wp2_with fail
        refine HAW.out.mono ?_
        rintro e w3 ⟨rfl, hb3⟩
        go_wp2
        go_ret
        exact ⟨rfl, HB2.out.trans (hb3.mono HB2.out.size)⟩
      | true =>
        have hgood : ∀ l, l ∈ rss → Rise l := of_decide_eq_true hbd
        have HM : Hid (Calls Try.prog 17 #[.slice a k c] wr fun e w' => ∃ v, e = .returned (.tuple #[v, .int .i64 0]) ∧ Strs w.heap.size w' v (srtS rss.flatten) ∧ Below wr.heap.size wr w') := Lib.hid (hM.mono fun e w' ⟨h1, _, h3⟩ => by
          obtain ⟨v, he, hs⟩ := h1 hgood
          exact ⟨v, he, hs.mono HBSZ, h3⟩)
        have HGOOD := Lib.hid hgood
        obtain ⟨all, hall⟩ : ∃ all, all = rss.flatten := ⟨_, rfl⟩
        rw [← hall] at HSA HCN HM
        clear hM hbd hR1 hgood hall
        go_wp2_with fail
        refine HM.out.mono ?_
        rintro e w2 ⟨v2, rfl, hs2, hb2⟩
        obtain ⟨a2, c2, hv2⟩ := hs2.shape
        rw [srtS_len, HCN.out] at hv2
        subst hv2
        have HB2 := Lib.hid (HB.out.trans (hb2.mono HBSZ))
        have HS2 := Lib.hid hs2
        have HSA2 := Lib.hid (HSA.out.below hb2)
        have hz2 := HB2.out.size
        have HSO := Lib.hid (xsorted_any _ all w2 HSA2.out.texts (by rw [HCN.out]; omega))
        clear hs2 hb2 HM HSA
        go_wp2_with fail
        refine HSO.out.mono ?_
        rintro e w3 ⟨v3, rfl, hs3, hb3⟩
        have HS3 := Lib.hid (HS2.out.below hb3)
        have HB3 := Lib.hid (HB2.out.trans (hb3.mono hz2))
        have hz3 := HB3.out.size
        have HSM := Lib.hid (xsame_yes _ v3 (srtS all) w3 HS3.out.texts hs3.texts (by rw [srtS_len, HCN.out]; omega))
        clear hs3 hb3 HSO
        go_wp2_with fail
        refine HSM.out.mono ?_
        rintro e w4 ⟨rfl, q4, hw4⟩
        have HS4 : Hid (Strs w.heap.size w4 (.slice a2 n c2) (srtS all)) := Lib.hid (by rw [← hw4]; exact HS3.out.below (below_drewN w3 q4))
        have HB4 : Hid (Below w.heap.size w w4) := Lib.hid (by rw [← hw4]; exact HB3.out.trans ((below_drewN w3 q4).mono hz3))
        have HSL : Hid ((srtS all).length = n) := Lib.hid (by rw [srtS_len, HCN.out])
        clear hw4
        go_wp2
        go_loopw [9] (fun i wr => ∃ j : Nat, j ≤ n ∧ i = .int .i64 j ∧ Hid (∃ xs : List ByteArray, xs.length = n ∧ Strs w.heap.size wr (.slice a2 n c2) xs) ∧ Hid (Below w.heap.size w wr)) (fun i _ => n - (intOf i).toNat)
        case atStart => exact ⟨0, Nat.zero_le _, rfl, Lib.hid ⟨_, HSL.out, HS4.out⟩, HB4⟩
        case round =>
          obtain ⟨j, hj, rfl, HX, HBX⟩ := hrel
          by_cases hlt2 : j < n
          · obtain ⟨xs, hxl, hxs⟩ := HX.out
            obtain ⟨g, rfl⟩ : ∃ g, a2 = some ⟨g, 0, none⟩ := by
              rcases hxs.2 with ⟨h1, _⟩ | ⟨g, cap, cur, h1, _⟩
              · injection h1 with h1 h2 _; omega
              · injection h1 with h1 _ _; exact ⟨g, h1⟩
            have hrow : wr.ownsRow w.heap.size 9 1 (.slice (some ⟨g, 0, none⟩) n c2) n (xs.map .string) := by
              unfold Strs at hxs
              rwa [hxl] at hxs
            have hcj : wr.cell? ⟨g, j, none⟩ = some (.string xs[j]) := (hrow.cellAt j (by omega)).trans (by rw [List.getElem?_map, List.getElem?_eq_getElem (by omega)]; rfl)
            have hfj := hrow.frozenAt j
            have hst := hrow.stored j (.string ⟨#[115, 112, 111, 105, 108, 116]⟩)
            have hge := (row_type hrow).1
            have H2 : Hid (∃ xs : List ByteArray, xs.length = n ∧ Strs w.heap.size (wr.setCell ⟨g, j, none⟩ (.string ⟨#[115, 112, 111, 105, 108, 116]⟩)) (.slice (some ⟨g, 0, none⟩) n c2) xs) := Lib.hid ⟨xs.set j ⟨#[115, 112, 111, 105, 108, 116]⟩, by rw [List.length_set]; exact hxl, by
              unfold Strs
              rw [List.length_set, hxl, List.map_set]
              exact hst.1⟩
            have hBS := HBX.out.size
            have HB5 : Hid (Below w.heap.size w (wr.setCell ⟨g, j, none⟩ (.string ⟨#[115, 112, 111, 105, 108, 116]⟩))) := Lib.hid (HBX.out.trans ⟨hst.2.os, hst.2.tape, hst.2.output, hst.2.size, fun k hk => hst.2.block k (by omega) (fun e => by injection e with e; omega)⟩)
            have hjn : (j : Int) < n := by omega
            obtain ⟨y, hy⟩ : ∃ y, y = xs[j] := ⟨_, rfl⟩
            rw [← hy] at hcj
            clear hrow hst hxs hy
            go_wp2
            go_roundw
            case rel => exact ⟨j + 1, by omega, by go_num, H2, HB5⟩
            case measure => simp [intOf]; omega
          · obtain rfl : j = n := by omega
            clear HX
            go_wp2
            go_loopw [8, 10] (fun o i wr => ∃ m : Nat, m ≤ k ∧ o = .bool true ∧ i = .int .i64 m ∧ Hid (Below w.heap.size w wr)) (fun _ i _ => k - (intOf i).toNat)
            case atStart => exact ⟨0, Nat.zero_le _, rfl, rfl, HBX⟩
            case round =>
              obtain ⟨m, hm, rfl, rfl, HBM⟩ := hrel
              by_cases hlt3 : m < k
              · have hkl : m < rss.length := by rw [HN.out]; exact hlt3
                obtain ⟨bo, oo, v', rfl, hbw, hcell, hT⟩ := HR.out.at hkl
                have hcell' := (HBM.out.cell (p := ⟨bo, oo + m, none⟩) hbw).trans hcell
                obtain ⟨a1, c1, hv1, hc1, hc9, -⟩ := id hT
                obtain ⟨n1, hn1⟩ : ∃ n, n = rss[m].length := ⟨_, rfl⟩
                rw [← hn1] at hv1
                subst hv1
                have hri := xrises_any _ rss[m] wr (hT.below HBM.out (Nat.le_refl _)).texts (by rw [← hn1]; omega)
                rw [decide_eq_true (HGOOD.out _ (List.getElem_mem hkl))] at hri
                have HRI := Lib.hid hri
                have hmk : (m : Int) < k := by omega
                clear hri hcell hT hn1 hc1 hkl
                go_wp2_with fail
                refine HRI.out.mono ?_
                rintro e w5 ⟨rfl, q5, hw5⟩
                have HB5 : Hid (Below w.heap.size w w5) := Lib.hid (by rw [← hw5]; exact HBM.out.trans ((below_drewN wr q5).mono HBM.out.size))
                clear hw5
                go_wp2
                go_roundw
                case rel => exact ⟨m + 1, by omega, rfl, by go_num, HB5⟩
                case measure => simp [intOf]; omega
              · have HAW := Lib.hid (xawake_any wr)
                go_wp2_with fail
                refine HAW.out.mono ?_
                rintro e w6 ⟨rfl, hb6⟩
                go_wp2
                go_ret
                exact ⟨rfl, HBM.out.trans (hb6.mono HBM.out.size)⟩
end Go.Proofs.Ytgegljbocacdnaa
