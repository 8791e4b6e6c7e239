/- merged: runs that rise are put together. -/
import Derived.Test.YtgegljbocacdnaaOQ
import Derived.Deep.RegionLaw
set_option maxRecDepth 100000
namespace Go.Proofs.Ytgegljbocacdnaa
open Go.RowKit

theorem Runs.at {w : World} {a : Option Addr} {n c : Nat} {rss : List (List ByteArray)} (h : Runs w (.slice a n c) rss) {k : Nat} (hk : k < rss.length) : ∃ b off v', a = some ⟨b, off, none⟩ ∧ b < w.heap.size ∧ w.cell? ⟨b, off + k, none⟩ = some v' ∧ TextC w v' rss[k] := by
  obtain ⟨a', c', h1, h2⟩ := h
  injection h1 with h1 _ _
  subst h1
  rcases h2 with rfl | ⟨b, off, rfl, hb, h3⟩
  · simp at hk
  · obtain ⟨v', h4, h5⟩ := h3 k hk
    exact ⟨b, off, v', rfl, hb, h4, h5⟩
/-- How many texts the first k lists have. -/
def cntR (rss : List (List ByteArray)) (k : Nat) : Nat := (rss.take k).flatten.length
theorem cntR_succ {rss : List (List ByteArray)} {k : Nat} (h : k < rss.length) : cntR rss (k + 1) = cntR rss k + rss[k].length := by
  unfold cntR
  rw [List.take_succ_eq_append_getElem h, List.flatten_append, List.length_append]; simp
theorem cntR_le (rss : List (List ByteArray)) (k : Nat) : cntR rss k ≤ rss.flatten.length := by
  unfold cntR
  conv => rhs; rw [← List.take_append_drop k rss, List.flatten_append, List.length_append]
  exact Nat.le_add_right _ _
theorem flat_upd {T : Nat → List ByteArray} {ks : List Nat} {q : Nat} {l : List ByteArray} (h : ∀ p, p ∈ ks → p ≠ q) : (ks ++ [q]).flatMap (fun k => if k = q then l else T k) = ks.flatMap T ++ l := by
  rw [List.flatMap_append]
  simp only [List.flatMap_cons, List.flatMap_nil, List.append_nil, if_true]
  congr 1
  rw [List.flatMap_def, List.flatMap_def, List.map_congr_left (fun p hp => if_neg (h p hp))]
/-- What the first loop of merged leaves. -/
structure Made (W0 : World) (hb : Nat) (rss : List (List ByteArray)) (w : World) : Prop where
  st : ∃ ks T, St W0 hb ks T w ∧ ks.flatMap T = rss.flatten ∧ ∀ q, q ∈ ks → T q ∈ rss
def sliceN : Value → Nat
  | .slice _ n _ => n
  | _ => 0
theorem Made.start (w : World) : Made w w.heap.size [] (w.alloc (.cells #[.slice none 0 0] 51)) :=
  ⟨[], fun _ => [], ⟨⟨_, ⟨heap_alloc_new w _, World.ownsRow_nil _ _ _ _, Nat.le_refl _⟩⟩, (fun q hq => by cases hq), List.nodup_nil, (Below.refl _ _).alloc (Nat.le_refl _) _⟩, rfl, fun q hq => by cases hq⟩

set_option maxHeartbeats 3200000 in
theorem merged_any (rss : List (List ByteArray)) (a : Option Addr) (N c : Nat) (w : World) (hN : rss.length = N) (hR : Runs w (.slice a N c) rss) (hlen : N ≤ 9223372036854775807) (hsum : rss.flatten.length ≤ 4194304) (hrise : ∀ l, l ∈ rss → Rise l) :
    Calls Try.prog 22 #[.slice a N c] w fun e w' => ∃ v, e = .returned v ∧ Strs w.heap.size w' v (srtS rss.flatten) ∧ Below w.heap.size w w' := by
  have HR := Lib.hid hR
  have HN := Lib.hid hN
  have HRI := Lib.hid hrise
  have HALL : Hid (rss.flatten.length ≤ 4194304) := Lib.hid hsum
  have HS : Hid (∀ k, cntR rss k ≤ 4194304) := Lib.hid (fun k => Nat.le_trans (cntR_le rss k) hsum)
  clear hR hN hsum hrise
  obtain ⟨all, hall⟩ : ∃ all, all = rss.flatten := ⟨_, rfl⟩
  rw [← hall]
  have HAL := Lib.hid hall
  clear hall
  have HM := Lib.hid (Made.start w)
  obtain ⟨hb, hhb⟩ : ∃ b, b = w.heap.size := ⟨_, rfl⟩
  rw [← hhb] at HM
  have HHB := Lib.hid hhb
  go_enter Try.func22, Try.ntmps22
  go_wp2
  rw [← hhb]
  clear hhb
  go_loopw [4, 11] (fun n i wr => ∃ k m : Nat, k ≤ N ∧ m ≤ 4194304 ∧ n = .int .i64 m ∧ i = .int .i64 k ∧ Hid (cntR rss k = m) ∧ Hid (Made w hb (rss.take k) wr)) (fun _ i _ => N - (intOf i).toNat)
  case atStart => exact ⟨0, 0, by omega, by omega, rfl, rfl, Lib.hid rfl, HM⟩
  case round =>
    obtain ⟨k, m, hk, hm, rfl, rfl, HC, HMD⟩ := hrel
    by_cases hlt : k < N
    · obtain ⟨b, o, v', rfl, hbw, hcell, hT⟩ := HR.out.at (k := k) (by rw [HN.out]; exact hlt)
      obtain ⟨ks, T, hst, hfl, hin⟩ := HMD.out
      have hcell' := (hst.bel.cell (p := ⟨b, o + k, none⟩) hbw).trans hcell
      have hkN : (k : Int) < N := by omega
      have hs := cntR_succ (rss := rss) (k := k) (by rw [HN.out]; exact hlt)
      obtain ⟨l, hl⟩ : ∃ l, l = rss[k]'(by rw [HN.out]; exact hlt) := ⟨_, rfl⟩
      rw [← hl] at hT hs
      have hflat : (rss.take (k + 1)).flatten = (rss.take k).flatten ++ l := by
        rw [List.take_succ_eq_append_getElem (by rw [HN.out]; exact hlt), List.flatten_append, ← hl]; simp
      have htk : ∀ l, l ∈ rss.take k → l ∈ rss.take (k + 1) := fun l hl => by
        rw [List.take_succ_eq_append_getElem (by rw [HN.out]; exact hlt)]
        exact List.mem_append_left _ hl
      have hlk : l ∈ rss.take (k + 1) := by
        rw [List.take_succ_eq_append_getElem (by rw [HN.out]; exact hlt), hl]
        exact List.mem_append_right _ (List.mem_singleton.2 rfl)
      have h9 := HS.out (k + 1)
      rw [hs, HC.out] at h9
      cases l with
      | nil =>
        obtain ⟨a1, c1, rfl, _⟩ := hT
        have HC1 : Hid (cntR rss (k + 1) = m) := Lib.hid (by rw [hs, HC.out]; rfl)
        have HMD1 : Hid (Made w hb (rss.take (k + 1)) wr) := Lib.hid ⟨ks, T, hst, by rw [hflat, List.append_nil]; exact hfl, fun q hq => htk _ (hin q hq)⟩
        clear hcell hst hfl hin htk hlk hs hl hflat h9
        go_wp2_with fail
        go_roundw
        case rel => exact ⟨k + 1, m, by omega, hm, rfl, by go_num, HC1, HMD1⟩
        case measure => simp [intOf]; omega
      | cons x r =>
        obtain ⟨a1, c1, hv1, hc1, hc9, h1'⟩ := id hT
        rcases h1' with h1' | ⟨b1, o1, rfl, hb1, h1'⟩
        · cases h1'
        rw [List.length_cons] at hv1 hc1
        subst hv1
        obtain ⟨hT2, hx, _, _⟩ := tailV_textC hT
        have hx' := (hst.bel.cell (p := ⟨b1, o1, none⟩) hb1).trans hx
        obtain ⟨v0, hv0⟩ := hst.hs
        have hfew := heads_few ks hst.hd
        rw [hfl] at hfew
        obtain ⟨v2, w3, hr, hc3, hf3, ⟨a2, n2, c2, rfl⟩, hS, hSt⟩ := hst.more hv0 (by have := HC.out; unfold cntR at this; rw [List.length_cons] at h9; omega) x r _ hT2
        have hd0 := hv0.at.2.1
        obtain ⟨a0, c0, rfl, _⟩ := hv0.shape
        have HC1 : Hid (cntR rss (k + 1) = m + (r.length + 1)) := Lib.hid (by rw [hs, HC.out]; rfl)
        have HMD1 : Hid (Made w hb (rss.take (k + 1)) (w3.setCell ⟨hb, 0, none⟩ (.slice a2 n2 c2))) := Lib.hid ⟨_, _, hSt, by
          rw [flat_upd (fun p hp => Nat.ne_of_lt (hst.hd p hp).2.lt), hfl, hflat], fun q hq => by
          rcases List.mem_append.1 hq with hq | hq
          · rw [if_neg (Nat.ne_of_lt (hst.hd q hq).2.lt)]
            exact htk _ (hin q hq)
          · have hq' : q = wr.heap.size := by simpa using hq
            rw [if_pos hq']
            exact hlk⟩
        obtain ⟨nr, hnr⟩ : ∃ n, n = r.length := ⟨_, rfl⟩
        obtain ⟨n0, hn0⟩ : ∃ n, n = ks.length := ⟨_, rfl⟩
        rw [List.length_cons] at h9
        rw [← hnr] at HC1 hcell' hc1 h9 hr
        rw [← hn0] at hd0 hr
        have h1n : (0 : Int) < ((nr + 1 : Nat) : Int) := by omega
        have h1i : (1 : Int) ≤ (nr : Int) + 1 := by omega
        have hbl := hv0.at.1
        have h1m : m + (nr + 1) ≤ 4194304 := h9
        unfold tailV at hr
        clear hcell hst hfl hin htk hlk hs hl hflat h9 hT hT2 hx hv0 hfew hS hSt hnr hn0 h1'
        by_cases h1c : c1 = 1
        · subst h1c
          obtain rfl : nr = 0 := by omega
          rw [if_pos rfl] at hr
          have HRR := Lib.hid hr
          clear hr
          go_wp2_with fail
          go_region_law (refine step_app_run rfl _ _ 51 rfl _ _ _ (by rfl) (by rfl) HRR.out ?_)
          all_goals
            go_wp2
            go_roundw
            case rel => exact ⟨k + 1, m + (0 + 1), by omega, h1m, by go_num, by go_num, HC1, HMD1⟩
            case measure => simp [intOf]; omega
        · rw [if_neg h1c] at hr
          have h1c' : 1 < c1 := by omega
          have HRR := Lib.hid hr
          clear hr
          go_wp2_with fail
          go_region_law (refine step_app_run rfl _ _ 51 rfl _ _ _ (by rfl) (by rfl) HRR.out ?_)
          all_goals
            go_wp2
            go_roundw
            case rel => exact ⟨k + 1, m + (nr + 1), by omega, h1m, by go_num, by go_num, HC1, HMD1⟩
            case measure => simp [intOf]; omega
    · obtain rfl : k = N := by omega
      obtain ⟨ks, T, hst, hfl, hin⟩ := HMD.out
      have htake : rss.take k = rss := by rw [← HN.out, List.take_length]
      rw [htake] at hfl hin
      have hm' : rss.flatten.length = m := by have := HC.out; unfold cntR at this; rwa [htake] at this
      obtain ⟨v0, hv0⟩ := hst.hs
      have hfew := heads_few ks hst.hd
      have hini := hinit_any w.heap.size hb ks.length (keyT T) ks v0 wr hv0 rfl hst.keys (by rw [hfl] at hfew; omega)
      rw [← HAL.out] at hfl hm'
      have HINI := Lib.hid hini
      have HST := Lib.hid hst
      have HFL := Lib.hid hfl
      have HIN : Hid (∀ q, q ∈ ks → Rise (T q)) := Lib.hid (fun q hq => HRI.out _ (hin q hq))
      have HMM := Lib.hid hm'
      clear hst hfl hin htake hm' hv0 hfew hini HR HN HRI HALL HS HM HC HMD HAL
      go_wp2_with fail
      refine HINI.out.mono ?_
      rintro e w1 ⟨rfl, ⟨ks1, k1, k2, k3⟩, k4⟩
      have hst1 : St w hb ks1 T w1 := HST.out.hk k4 k1 (fun q hq => k3.mem_iff.1 hq) (k3.nodup_iff.2 HST.out.nd)
      obtain ⟨i0, hi, q0, q1, q2⟩ := info_parts infoStr
      obtain ⟨w2, hmk, ho2, hg2⟩ := run_make_own (P := Try.prog) w1 w.heap.size 22 9 i0 (.string ⟨#[]⟩) 1 Try.underlying22 hi q0 q1 .i64 .i64 m (by rw [q2]; omega) (by unfold maxLen; omega) hst1.bel.size
      have hk2 := HK.ofNone hg2 hst1.bel.size
      have hMg : Mg w hb all (.slice (some ⟨w1.heap.size, 0, none⟩) 0 m) 0 ks1 w2 := by
        obtain ⟨v1, h1⟩ := hst1.hs
        refine Mg.first (T := T) (hst1.hk hk2 ⟨(hg2.block hb h1.at.1 (fun e => by cases e)).trans h1.blk, h1.row.kept hg2 (by cases h1.row.2 with
          | inl h => exact .inl (by rw [h.1]; rfl)
          | inr h => obtain ⟨g, cap, cur, e, _⟩ := h; exact .inr (by rw [e]; simp [Value.ownBlock])), h1.ge⟩ (fun _ h => h) hst1.nd) ?_ ?_ (fun q hq => HIN.out q (k3.mem_iff.1 hq)) ho2
        · rw [k3.length_eq]; exact k2
        · rw [← HFL.out]; exact k3.flatMap_right T
      have HMG := Lib.hid hMg
      clear k1 k2 k3 k4 hst1 hk2 hMg ho2 hg2 HINI HST HFL HIN hi q0 q1 q2
      go_wp2
      clear hmk
      go_loopw [7] (fun l wy => ∃ (a : Option Addr) (n c : Nat), n ≤ m ∧ l = .slice a n c ∧ Hid (∃ ks, Mg w hb all (.slice a n c) n ks wy)) (fun l _ => m - sliceN l)
      case atStart => exact ⟨_, 0, m, by omega, rfl, Lib.hid ⟨_, HMG.out⟩⟩
      case round =>
        obtain ⟨a, n, c, hnm, rfl, HG⟩ := hrel
        obtain ⟨ks, hmg⟩ := HG.out
        obtain ⟨hbel, ⟨ah, ch, hcell⟩, hle, -⟩ := hmg.ready
        have HBE := Lib.hid hbel
        rw [HMM.out] at hle
        cases hks : ks.length with
        | zero =>
          obtain rfl : ks = [] := List.eq_nil_of_length_eq_zero hks
          have HD := Lib.hid hmg.done
          rw [hks] at hcell
          clear hmg hbel hle hks
          go_wp2
          go_ret
          exact ⟨_, rfl, HD.out⟩
        | succ N1 =>
          rw [hks] at hcell hle
          have HP := Lib.hid (hmg.pop hks (by rw [HMM.out]; exact hm))
          have HKS := Lib.hid hks
          have hpos : (0 : Int) < ((N1 + 1 : Nat) : Int) := by omega
          clear hmg hbel hks
          go_wp2_with fail
          refine HP.out.mono ?_
          rintro e w3 ⟨q, t, r, ks2, T2, out, rfl, hl2, h1⟩
          obtain ⟨v4, w4, hr4, ⟨a4, c4, rfl⟩, hs4, hst4, hd4⟩ := h1.told (by omega)
          have hta := fun W => run_head (.pointer (some ⟨q, 0, none⟩)) W
          have ht0 : w3.cell? ⟨q, 0, none⟩ = some (.string t) := by
            obtain ⟨t', r', tv, e1, e2, _⟩ := h1.hd
            injection e1 with e1 _
            rw [Lib.cell_of_heap e2, e1]; rfl
          have HLE2 : Hid (ks2.length < 4194304) := Lib.hid (by rw [hl2]; omega)
          clear hl2
          have H1 := Lib.hid h1; have HS4 := Lib.hid hs4; have HST4 := Lib.hid hst4; have HD4 := Lib.hid hd4
          clear h1 hs4 hst4 hd4 HP hcell
          go_wp2_with (at_builtin; refine Lib.wpList_append_run _ rfl _ _ 22 22 rfl _ _ rfl rfl _ _ hr4 ?_)
          clear hr4
          cases r with
          | nil =>
            have HMV := Lib.hid (move_no w q t w4 HD4.out)
            have HN4 : Hid (∃ ks, Mg w hb all (.slice a4 (n + 1) c4) (n + 1) ks w4) := Lib.hid ⟨_, H1.out.no HS4.out HST4.out⟩
            refine HMV.out.mono ?_
            rintro e w5 ⟨rfl, rfl⟩
            clear H1 HS4 HST4 HD4 HMV
            go_wp2_with fail
            go_roundw
            case rel => exact ⟨a4, n + 1, c4, by omega, rfl, HN4⟩
            case measure => simp [sliceN]; omega
          | cons x r =>
            have HMV := Lib.hid (move_yes w q t x r w4 HD4.out HST4.out.bel)
            refine HMV.out.mono ?_
            rintro e w5 ⟨rfl, hd5, hg5⟩
            have HPU := Lib.hid (H1.out.push HS4.out HST4.out HD4.out hd5 hg5 HLE2.out)
            clear hd5 hg5 H1 HS4 HST4 HD4 HMV
            go_wp2_with fail
            refine HPU.out.mono ?_
            rintro e w6 ⟨rfl, ks6, -, h6⟩
            have HN6 : Hid (∃ ks, Mg w hb all (.slice a4 (n + 1) c4) (n + 1) ks w6) := Lib.hid ⟨_, h6⟩
            clear h6 HPU
            go_wp2_with fail
            go_roundw
            case rel => exact ⟨a4, n + 1, c4, by omega, rfl, HN6⟩
            case measure => simp [sliceN]; omega
end Go.Proofs.Ytgegljbocacdnaa
