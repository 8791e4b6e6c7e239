/- Tids, Pages. -/
import Derived.Test.YtpjpkpbfbbpmdaaDoorTSI
set_option maxRecDepth 100000
namespace Go.Proofs.YtpjpkpbfbbpmdaaDoor.Ts
open Go Go.RowKit Go.Maps Go.Sort Go.Shelf

theorem ownsRow_le {w : World} {B B' : Nat} {e : TypeId} {size : Nat} {v : Value} {n : Nat} {xs : List Value} (h : w.ownsRow B e size v n xs) (hB : B' ≤ B) : w.ownsRow B' e size v n xs :=
  ⟨h.1, h.2.imp id fun ⟨g, cap, cur, h1, h2, h3⟩ => ⟨g, cap, cur, h1, Nat.le_trans hB h2, h3⟩⟩
theorem sortsA (m : Nat) : AnyZI.SortsIn Tryd.prog Tryd.sortedA_ren Fence.wide m :=
  ⟨fun blk off cap ss W hH hblk hsz => callsIn_wide.2 (Tryd.slices_Sort_int blk off cap ss W hH hblk hsz), fun p cap W => callsIn_wide.2 (Tryd.slices_Sort_int_none p cap W)⟩
theorem keysPl_call (db : Nat) (W : World) : Calls Tryd.prog 41 #[.map (some db)] W fun e w' => e = .returned (.func (.func 49) #[] #[.pointer (some ⟨W.heap.size, 0, none⟩)]) ∧ w' = W.alloc (.cells #[.map (some db)] 42) :=
  callsIn_wide.1 (AnyZI.keys_in Tryd.keysA Fence.wide 5 trivial rfl (some db) W)
theorem keysU_call (db : Nat) (W : World) : Calls Tryd.prog 36 #[.map (some db)] W fun e w' => e = .returned (.func (.func 48) #[] #[.pointer (some ⟨W.heap.size, 0, none⟩)]) ∧ w' = W.alloc (.cells #[.map (some db)] 43) :=
  callsIn_wide.1 (AnyZI.keys_in Tryd.keysB Fence.wide 5 trivial rfl (some db) W)

theorem keys_list {R : Rd} {w : World} {b n : Nat} {D0 : Dv} {F : Int → Option Dv} (h1 : w.ownsMap Tryd.prog 3 R b n D0) (h3 : Reads D0 F) (hF : Pgs F) (ss : List Int) (hp : ss.Perm (intKeys D0)) :
    ∃ ks : List Nat, Srt ks ∧ (∀ q : Nat, q ∈ ks ↔ F q ≠ none) ∧ ks.length = ss.length ∧ (ss.mergeSort (fun x y => decide (x ≤ y))).map encZ = nums ks := by
  have hb : ∀ q : Int, Maps.has D0 (.int .i64 q) = true → 0 ≤ q ∧ q < 262144 := MapIs.has_page h1 h3 hF
  obtain ⟨ks, a, m, c, d⟩ := keys_sorted h1 hb ss hp
  refine ⟨ks, a, fun q => ?_, c, d⟩
  rw [m]
  constructor
  · intro h
    rcases h3 q (has_wf h1 h) with ⟨_, e⟩ | ⟨x, e, _⟩
    · rw [h] at e; cases e
    · rw [e]; simp
  · intro h
    have := hF q h
    rcases h3 q (wfN q (by omega)) with ⟨e, _⟩ | ⟨x, _, e, _⟩
    · exact absurd e h
    · exact e

/-- What Sorted of a map's keys leaves. -/
def SortPost (F : Int → Option Dv) (w : World) (e : Ending) (w' : World) : Prop :=
  ∃ (v : Value) (ks : List Nat), e = .returned v ∧ Srt ks ∧ (∀ q : Nat, q ∈ ks ↔ F q ≠ none) ∧ NRow w.heap.size w' v ks ∧ Below w.heap.size w w'
theorem sortedPl_call {w : World} {db : Nat} {F : Int → Option Dv} (h : MapIs rdPl w db F) (hF : Pgs F) :
    Calls Tryd.prog 35 #[.func (.func 49) #[] #[.pointer (some ⟨w.heap.size, 0, none⟩)]] (w.alloc (.cells #[.map (some db)] 42)) (SortPost F w) := by
  obtain ⟨D0, hown, h3⟩ := h
  have hm := size_few hown (MapIs.has_page hown h3 hF)
  have hbl := hown.lt
  have hkeys := keys_list hown h3 hF
  have hseq : SeqGives Fence.wide 2 Tryd.prog 49 #[.pointer (some ⟨w.heap.size, 0, none⟩)] encZ (fun ss => ss.Perm (intKeys D0)) (Maps.size D0) (w.alloc (.cells #[.map (some db)] 42)) :=
    AnyZI.keys_gives (ρ := Tryd.keysA_ren) { Tryd.keysA with } Fence.wide _ trivial rfl (by omega) w.heap.size db (Maps.size D0) D0 _ (by simp) (by simp) (by
      obtain ⟨es, clock, hb, Ft, hs, hD⟩ := hown
      exact ⟨es, clock, (Below.heap_alloc _ _ db hbl).trans hb, Ft, hs, hD⟩)
  have cS := AnyZI.sorted_in Tryd.sortedA Fence.wide 5 trivial trivial trivial trivial rfl (by omega) (sortsA _) (enters_of Tryd.func47 (by kernel_rfl) rfl) 49 #[.pointer (some ⟨w.heap.size, 0, none⟩)] trivial (enters_of Tryd.func49 (by kernel_rfl) rfl) _ _ (by unfold maxLen; omega) (by omega) _ hseq
  refine (callsIn_wide.1 cS).mono fun e w' ⟨v, ss, g1, g2, g3, _, g5⟩ => ?_
  obtain ⟨ks, hk, hmem, hl, hr⟩ := hkeys ss g2
  refine ⟨v, ks, g1, hk, hmem, ?_, ((Below.refl _ w).alloc (Nat.le_refl _) _).trans (g5.mono (by simp))⟩
  rw [NRow, hl, ← hr]
  exact ownsRow_le g3 (by simp)
theorem sortedU_call {w : World} {db : Nat} {F : Int → Option Dv} (h : MapIs rdU w db F) (hF : Pgs F) :
    Calls Tryd.prog 35 #[.func (.func 48) #[] #[.pointer (some ⟨w.heap.size, 0, none⟩)]] (w.alloc (.cells #[.map (some db)] 43)) (SortPost F w) := by
  obtain ⟨D0, hown, h3⟩ := h
  have hm := size_few hown (MapIs.has_page hown h3 hF)
  have hbl := hown.lt
  have hkeys := keys_list hown h3 hF
  have hseq : SeqGives Fence.wide 2 Tryd.prog 48 #[.pointer (some ⟨w.heap.size, 0, none⟩)] encZ (fun ss => ss.Perm (intKeys D0)) (Maps.size D0) (w.alloc (.cells #[.map (some db)] 43)) :=
    AnyZI.keys_gives (ρ := Tryd.keysB_ren) { Tryd.keysB with } Fence.wide _ trivial rfl (by omega) w.heap.size db (Maps.size D0) D0 _ (by simp) (by simp) (by
      obtain ⟨es, clock, hb, Ft, hs, hD⟩ := hown
      exact ⟨es, clock, (Below.heap_alloc _ _ db hbl).trans hb, Ft, hs, hD⟩)
  have cS := AnyZI.sorted_in Tryd.sortedA Fence.wide 5 trivial trivial trivial trivial rfl (by omega) (sortsA _) (enters_of Tryd.func47 (by kernel_rfl) rfl) 48 #[.pointer (some ⟨w.heap.size, 0, none⟩)] trivial (enters_of Tryd.func48 (by kernel_rfl) rfl) _ _ (by unfold maxLen; omega) (by omega) _ hseq
  refine (callsIn_wide.1 cS).mono fun e w' ⟨v, ss, g1, g2, g3, _, g5⟩ => ?_
  obtain ⟨ks, hk, hmem, hl, hr⟩ := hkeys ss g2
  refine ⟨v, ks, g1, hk, hmem, ?_, ((Below.refl _ w).alloc (Nat.le_refl _) _).trans (g5.mono (by simp))⟩
  rw [NRow, hl, ← hr]
  exact ownsRow_le g3 (by simp)

set_option maxHeartbeats 400000 in
theorem pages_no (p : Value) (w : World) (h : NoSet p w) : Calls Tryd.prog 16 #[p] w fun e w' => e = .returned (.slice none 0 0) ∧ w = w' := by
  have HG := Lib.hid (given_no p w h); clear h
  go_enter Tryd.func16, Tryd.ntmps16
  go_wp2_with fail
  refine HG.out.mono ?_
  rintro e w1 ⟨rfl, rfl⟩
  go_wp2
  go_ret
  exact ⟨rfl, rfl⟩
set_option maxHeartbeats 400000 in
theorem tids_no (p : Value) (w : World) (h : NoSet p w) : Calls Tryd.prog 18 #[p] w fun e w' => e = .returned (.slice none 0 0) ∧ w = w' := by
  have HG := Lib.hid (given_no p w h); clear h
  go_enter Tryd.func18, Tryd.ntmps18
  go_wp2_with fail
  refine HG.out.mono ?_
  rintro e w1 ⟨rfl, rfl⟩
  go_wp2
  go_ret
  exact ⟨rfl, rfl⟩
/-- Numbers are told, in a row of their own. -/
def Told (l : List Nat) (w : World) (e : Ending) (w' : World) : Prop := ∃ v, e = .returned v ∧ NRow w.heap.size w' v l ∧ Below w.heap.size w w'
set_option maxHeartbeats 800000 in
theorem pages_any {w : World} {b be bw : Nat} {s : Tset} (h : StAt w b be bw s) : Calls Tryd.prog 16 #[.pointer (some ⟨b, 0, none⟩)] w (Told s.P w) := by
  have HG := Lib.hid (given_self b w h.at_.c0)
  have c4 := h.at_.c4
  have HK := Lib.hid (keysU_call bw w)
  have HSO := Lib.hid (sortedU_call h.at_.wh (whF_pgs h.ok.raw.pl))
  have HE : Hid (∀ ks : List Nat, Srt ks → (∀ q : Nat, q ∈ ks ↔ whF s.P q ≠ none) → ks = s.P) := Lib.hid fun ks h1 h2 => srt_ext h1 h.ok.raw.sp fun q => by
    rw [h2, whF_nat]; simp
  clear h
  go_enter Tryd.func16, Tryd.ntmps16
  go_wp2_with fail
  refine HG.out.mono ?_
  rintro e w1 ⟨rfl, rfl⟩
  go_wp2_with fail
  refine HK.out.mono ?_
  rintro e w1 ⟨rfl, rfl⟩
  go_wp2_with fail
  refine HSO.out.mono ?_
  rintro e w1 ⟨v, ks, rfl, h1, h2, h3, h4⟩
  obtain rfl := HE.out ks h1 h2
  have H3 := Lib.hid h3
  clear HE HSO h1 h2 h3
  go_wp2
  go_ret
  exact ⟨v, rfl, H3.out, h4⟩

/-- The addresses on the first pages of a rising list. -/
def upTo (T ks : List Nat) (k : Nat) : List Nat := (ks.take k).flatMap fun p => onp p T
theorem upTo_succ (T : List Nat) {ks : List Nat} {k : Nat} (h : k < ks.length) : upTo T ks (k + 1) = upTo T ks k ++ onp ks[k] T := by
  unfold upTo
  rw [List.take_succ_eq_append_getElem h, List.flatMap_append]
  simp
theorem mem_upTo {T ks : List Nat} {k t : Nat} : t ∈ upTo T ks k ↔ t ∈ T ∧ t / 64 ∈ ks.take k := by
  unfold upTo
  rw [List.mem_flatMap]
  constructor
  · rintro ⟨p, h1, h2⟩
    obtain ⟨h3, rfl⟩ := mem_onp.1 h2
    exact ⟨h3, h1⟩
  · rintro ⟨h1, h2⟩
    exact ⟨t / 64, h2, mem_onp.2 ⟨h1, rfl⟩⟩
theorem srt_upTo {T : List Nat} (hT : Srt T) : ∀ {ks : List Nat}, Srt ks → Srt (ks.flatMap fun p => onp p T)
  | [], _ => by simp [Srt]
  | p :: ks, h => by
    obtain ⟨h1, h2⟩ := List.pairwise_cons.1 h
    rw [List.flatMap_cons]
    refine List.pairwise_append.2 ⟨srt_filter _ hT, srt_upTo hT h2, fun a ha c hc => ?_⟩
    obtain ⟨q, hq, hc⟩ := List.mem_flatMap.1 hc
    have := h1 q hq
    have := (mem_onp.1 ha).2
    have := (mem_onp.1 hc).2
    omega
theorem upTo_all {T ks : List Nat} (hT : Srt T) (hk : Srt ks) (hm : ∀ t ∈ T, t / 64 ∈ ks) : upTo T ks ks.length = T := by
  refine srt_ext ?_ hT fun t => ?_
  · unfold upTo; rw [List.take_length]; exact srt_upTo hT hk
  · rw [mem_upTo, List.take_length]
    exact ⟨fun e => e.1, fun e => ⟨e, hm t e⟩⟩
theorem upTo_le {T ks : List Nat} (hT : Srt T) (hk : Srt ks) (k : Nat) : (upTo T ks k).length ≤ T.length := by
  have h1 : Srt (upTo T ks k) := srt_upTo hT (List.Pairwise.sublist (List.take_sublist _ _) hk)
  have h2 : upTo T ks k = T.filter (fun t => decide (t / 64 ∈ ks.take k)) := srt_ext h1 (srt_filter _ hT) fun t => by
    rw [mem_upTo, List.mem_filter, decide_eq_true_eq]
  rw [h2]; exact List.length_filter_le _ _

set_option maxHeartbeats 1600000 in
theorem tids_any {w : World} {b be bw : Nat} {s : Tset} (h : StAt w b be bw s) (hT : Tab w) : Calls Tryd.prog 18 #[.pointer (some ⟨b, 0, none⟩)] w (Told s.T w) := by
  have HG := Lib.hid (given_self b w h.at_.c0)
  have c3 := h.at_.c3
  have HK := Lib.hid (keysPl_call be w)
  have HSO := Lib.hid (sortedPl_call h.at_.ex (exF_pgs h.ok.raw.tl))
  have HM : Hid (∀ ks : List Nat, (∀ q : Nat, q ∈ ks ↔ exF s.T q ≠ none) → ∀ q ∈ ks, pl s.T q ≠ 0) := Lib.hid fun ks h2 q hq => by
    have := (h2 q).1 hq
    rw [exF_nat] at this
    split at this
    · assumption
    · exact absurd rfl this
  have HE : Hid (∀ ks : List Nat, Srt ks → (∀ q : Nat, q ∈ ks ↔ exF s.T q ≠ none) → upTo s.T ks ks.length = s.T) := Lib.hid fun ks h1 h2 => upTo_all h.ok.raw.st h1 fun t ht => by
    rw [h2, exF_nat]
    have : pl s.T (t / 64) ≠ 0 := fun e => pl_zero.1 e t ht rfl
    simp [this]
  have HH := Lib.hid h
  have HT := Lib.hid hT
  have hbl := h.at_.lt
  have h1 := hT.1
  clear h hT
  go_enter Tryd.func18, Tryd.ntmps18
  go_wp2_with fail
  refine HG.out.mono ?_
  rintro e w1 ⟨rfl, rfl⟩
  go_wp2_with fail
  refine HK.out.mono ?_
  rintro e w1 ⟨rfl, rfl⟩
  go_wp2_with fail
  refine HSO.out.mono ?_
  rintro e w1 ⟨v, ks, rfl, hk1, hk2, h3, h4⟩
  have HKM := Lib.hid (HM.out ks hk2)
  have HKE := Lib.hid (HE.out ks hk1 hk2)
  have HKS := Lib.hid hk1
  have HB1 := Lib.hid h4
  have hsz := h4.size
  obtain ⟨va, vc, rfl⟩ := h3.shape
  have HKV := Lib.hid h3.nums
  obtain ⟨kl, hkl⟩ : ∃ kl, kl = ks.length := ⟨_, rfl⟩
  have hkn : ks.length ≤ 262144 := by
    rcases srt_few 262144 ks 0 hk1 (fun q hq => ⟨by omega, pl_page HH.out.ok.raw.tl (HKM.out q hq)⟩) with e | e
    · rw [e]; simp
    · omega
  rw [← hkl] at hkn ⊢
  have HKL := Lib.hid hkl
  clear HM HE HSO HK HG hk1 hk2 h3 h4 hkl
  go_wp2
  go_loopw [3, 16] (fun v3 v16 wr => ∃ (k m c : Nat) (a : Option Addr), k ≤ kl ∧ v16 = .int .i64 k ∧ v3 = .slice a m c ∧ Hid (NRow w1.heap.size wr (.slice a m c) (upTo s.T ks k)) ∧ Hid (Below w1.heap.size w1 wr)) (fun _ v16 _ => kl - (intOf v16).toNat)
  case atStart => exact ⟨0, 0, 0, none, by omega, rfl, rfl, Lib.hid (World.ownsRow_nil _ _ _ _), Lib.hid (Below.refl _ _)⟩
  case round =>
    obtain ⟨k, m, c, a, hk, rfl, rfl, HN, HB⟩ := hrel
    by_cases hlt : k < kl
    · have hlt' : k < ks.length := by rw [← HKL.out]; exact hlt
      have hbw : Below w.heap.size w wr := HB1.out.trans (HB.out.mono hsz)
      obtain ⟨kb, ko, rfl, hkb, kc⟩ := (HKV.out.below HB.out).at hlt'
      have hst := HH.out.below hbw
      have c3' := hst.at_.c3
      have hpg : ks[k] < 262144 := pl_page HH.out.ok.raw.tl (HKM.out _ (List.getElem_mem hlt'))
      have hlk := hst.at_.ex.lookPl ks[k] hpg
      have hlen := upTo_le HH.out.ok.raw.st HKS.out k (T := s.T)
      have hfew : s.T.length ≤ 64 := Nat.le_trans HH.out.ok.few HH.out.ok.most
      have HC := Lib.hid (ptids_any HN.out (pl s.T ks[k]) ks[k] (pl_lt _ _) hpg (by omega) HB.out.size (HT.out.below hbw h1) (by omega))
      rw [tidsOf_pl HH.out.ok.raw.st, ← upTo_succ s.T hlt'] at HC
      obtain ⟨x, hx⟩ : ∃ x, x = pl s.T ks[k] := ⟨_, rfl⟩
      rw [← hx] at HC hlk
      obtain ⟨q, hq⟩ : ∃ q, q = ks[k] := ⟨_, rfl⟩
      rw [← hq] at HC hlk kc hpg
      have hki : (k : Int) < (kl : Int) := by omega
      clear hx hq hst hbw hlen hfew
      go_wp2_with fail
      refine HC.out.mono ?_
      rintro e w2 ⟨v', rfl, hn2, hb2⟩
      obtain ⟨a2, c2, rfl⟩ := hn2.shape
      obtain ⟨m2, hm2⟩ : ∃ m2, m2 = (upTo s.T ks (k + 1)).length := ⟨_, rfl⟩
      rw [← hm2] at hn2 ⊢
      have HN2 := Lib.hid hn2
      have HB2 := Lib.hid (HB.out.trans hb2)
      clear hn2 hb2 hm2 HC HN HB hlk kc c3'
      go_wp2
      go_roundw
      case rel => exact ⟨k + 1, m2, c2, a2, by omega, by go_num, rfl, HN2, HB2⟩
      case measure => simp [intOf]; omega
    · obtain rfl : k = kl := by omega
      have HE : Hid (NRow w.heap.size wr (.slice a m c) s.T) := Lib.hid (by
        have := HN.out
        rw [HKL.out, HKE.out] at this
        exact this.mono hsz)
      have HBE : Hid (Below w.heap.size w wr) := Lib.hid (HB1.out.trans (HB.out.mono hsz))
      clear HN HB
      go_wp2
      go_ret
      exact ⟨_, rfl, HE.out, HBE.out⟩
end Go.Proofs.YtpjpkpbfbbpmdaaDoor.Ts
