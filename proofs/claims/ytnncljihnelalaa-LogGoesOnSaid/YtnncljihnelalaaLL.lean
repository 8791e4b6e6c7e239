/- The walk of LogGoesOn. -/
import Derived.Test.YtnncljihnelalaaLJ
set_option maxRecDepth 100000
namespace Go.Proofs.Ytnncljihnelalaa
open Go.RowKit

/-- An append of cells to a row that the call owns: where the new row lies. -/
theorem append_own2 (w : World) (t ty e : TypeId) (i : TypeInfo) (z : Value) (size bytes : Nat) (ht : Try.prog.underlying t = some (.slice e)) (hi : Try.prog.info? e = some i) (hz : i.zero = some z)
    (hs : i.size = size) (hby : i.bytes = bytes) (hzs : z.cells.size = size) (hsz : 0 < size)
    (v : Value) (n : Nat) (xs : List Value) (h : w.ownsRow 0 e size v n xs) (ad : Addr) (m c : Nat) (news : List Value) (hl : news.length = m * size) (hnews : ∀ j u, news[j]? = some u → w.cell? (ad.add j) = some u)
    (h1 : ∀ u ∈ news, u.oneCell' = true) (h63 : n + m ≤ maxLen) (hbytes : (n + m) * bytes ≤ 140737488355328) (h64 : n + m ≤ 9223372036854775807) :
    ∃ v' w', (Builtin.append_ #[t, t] ty #[v, .slice (some ad) m c]).run Try.prog w = .ok v' w' ∧ w'.ownsRow 0 e size v' (n + m) (xs ++ news) ∧ Grew w w' v v' := by
  obtain ⟨v', w', hr, h2, h3, _⟩ := run_append_own (P := Try.prog) w 0 t ty e i z size bytes ht hi hz hs hby hzs hsz v n xs h ad m c news hl hnews h1 h63 hbytes (Nat.zero_le _)
  refine ⟨v', w', hr, h2, h3, ?_⟩
  intro k hk
  rcases h.2 with ⟨rfl, h0⟩ | ⟨g, cap, cur, rfl, _, hg, hnc, hcm, hcs, htk⟩
  · subst h0
    obtain rfl : xs = [] := List.eq_nil_of_length_eq_zero (by simpa using h.1)
    obtain ⟨v2, w2, hr2, ho2, _⟩ := run_append_own (P := Try.prog) w w.heap.size t ty e i z size bytes ht hi hz hs hby hzs hsz (.slice none 0 0) 0 [] (World.ownsRow_nil _ _ _ _) ad m c news hl hnews h1 h63 hbytes (Nat.le_refl _)
    rw [hr] at hr2
    cases hr2
    exact .inr (ho2.lt k hk).1
  · by_cases hroom : n + m ≤ cap
    · have hr2 := run_append_room (P := Try.prog) w t ty e i ht hi g n cap cur hg ad m c news (by rw [hs]; exact hl) hnews h1 hroom (by rw [hs, hl, hcs, ← Nat.add_mul]; exact Nat.mul_le_mul_right _ hroom)
      rw [hr] at hr2
      cases hr2
      exact .inl hk
    · have hr2 := run_append_grow (P := Try.prog) w t ty e i z ht hi hz ⟨g, 0, none⟩ n cap xs (by rw [hs]; exact h.1) (World.ownsRow.cells (w := w) h (g := g) rfl) ad m c news (by rw [hs]; exact hl) hnews (by omega) (by omega) (growslice_fits (by omega) (by rw [hby]; exact hbytes))
      rw [hr] at hr2
      cases hr2
      simp [Value.ownBlock] at hk
      right; omega

theorem append_texts (w : World) (ty : TypeId) (v : Value) (rs qs : List ByteArray) (B : Nat) (h : Strs B w v rs) (ad : Addr) (c : Nat) (hq : ∀ j (hj : j < qs.length), w.cell? (ad.add j) = some (.string qs[j])) (hl : rs.length + qs.length ≤ 4194304) :
    ∃ v' w', (Builtin.append_ #[22, 22] ty #[v, .slice (some ad) qs.length c]).run Try.prog w = .ok v' w' ∧ Strs 0 w' v' (rs ++ qs) ∧ Grew w w' v v' := by
  obtain ⟨i0, hi, q0, q1, q2⟩ := info_parts infoStr
  obtain ⟨v', w', hr, h1, h2⟩ := append_own2 w 22 ty 9 i0 (.string ⟨#[]⟩) 1 16 Try.underlying22 hi q0 q1 q2 rfl (by decide) v rs.length (rs.map .string) (h.mono (Nat.zero_le _)) ad qs.length c (qs.map .string) (by simp) (fun j u hu => by
    rw [List.getElem?_map] at hu
    cases hj : qs[j]? with
    | none => rw [hj] at hu; cases hu
    | some x =>
      rw [hj] at hu
      injection hu with hu
      subst hu
      obtain ⟨hj1, hj2⟩ := List.getElem?_eq_some_iff.1 hj
      rw [hq j hj1, hj2]) (fun u hu => by obtain ⟨x, _, rfl⟩ := List.mem_map.1 hu; rfl) (by unfold maxLen; omega) (by omega) (by omega)
  refine ⟨v', w', hr, ?_, h2⟩
  rw [Strs, List.map_append, List.length_append]
  exact h1

theorem append_first (w : World) (ty : TypeId) (v : Value) (qs : List ByteArray) (B : Nat) (h : Strs B w v qs) (hl : qs.length ≤ 4194304) :
    ∃ v' w', (Builtin.append_ #[22, 22] ty #[.slice none 0 0, v]).run Try.prog w = .ok v' w' ∧ Strs 0 w' v' qs ∧ Below w.heap.size w w' ∧ ∀ g, v'.ownBlock = some g → w.heap.size ≤ g := by
  rcases h.2 with ⟨rfl, h0⟩ | ⟨g, cap, cur, rfl, hB, hg, _⟩
  · obtain rfl : qs = [] := List.eq_nil_of_length_eq_zero h0
    obtain ⟨i0, hi, q0, q1, q2⟩ := info_parts infoStr
    have hr := run_append_owned_none (P := Try.prog) (w := w) 0 22 ty 9 i0 1 Try.underlying22 hi (.slice none 0 0) 0 [] (World.ownsRow_nil _ _ _ _)
    exact ⟨_, _, hr, World.ownsRow_nil _ _ _ _, Below.refl _ _, fun g hg => by simp [Value.ownBlock] at hg⟩
  · obtain ⟨v', w', hr, h1, h2⟩ := append_texts w ty (.slice none 0 0) [] qs 0 (World.ownsRow_nil _ _ _ _) ⟨g, 0, none⟩ cap (fun j hj => by
      have := h.cells (g := g) rfl j (.string qs[j]) (by simp [hj])
      exact this) (by simp; omega)
    refine ⟨v', w', hr, by simpa using h1, ⟨h2.1.os, h2.1.tape, h2.1.output, h2.1.size, fun k hk => h2.1.block k hk (by simp [Value.ownBlock])⟩, fun g' hg' => ?_⟩
    rcases h2.2 g' hg' with h3 | h3
    · simp [Value.ownBlock] at h3
    · exact h3

theorem Strs.rebase {B : Nat} {w : World} {v : Value} {rs : List ByteArray} (h : Strs 0 w v rs) (hB : ∀ g, v.ownBlock = some g → B ≤ g) : Strs B w v rs :=
  ⟨h.1, h.2.imp id fun ⟨g, cap, cur, h1, _, h3⟩ => ⟨g, cap, cur, h1, hB g (by rw [h1]; rfl), h3⟩⟩

/-- The list that the law keeps, apart from the disk's blocks. -/
structure Kept2 (B : Nat) (S : Nat → Prop) (v : Value) (rs : List ByteArray) (w : World) : Prop where
  texts : Strs B w v rs
  out : ∀ g, v.ownBlock = some g → ¬ S g
theorem Kept2.step {B : Nat} {S S' : Nat → Prop} {v : Value} {rs : List ByteArray} {w w' : World} (h : Kept2 B S v rs w) (hk : Kept S w w') (hS : ∀ k, k < w.heap.size → S' k → S k) : Kept2 B S' v rs w' :=
  ⟨ownsRow_of_block h.texts (fun k hk' => hk.block k (h.texts.lt k hk').2 (h.out k hk')), fun g hg hs => h.out g hg (hS g (h.texts.lt g hg).2 hs)⟩

/-- A text is put behind the list that the law keeps. -/
theorem two_append (B0 B l d : Nat) (S : Nat → Prop) (ops : List RawOp) (rs ts : List ByteArray) (s : ByteArray) (v : Value) (w : World) (ty : TypeId) (c : Nat) (h : Two B l d S ops rs w) (hk : Kept2 B0 S v ts w) (hB : B0 ≤ w.heap.size) (hl : ts.length ≤ 466033) :
    ∃ v' w', (Builtin.append_ #[22, 22] ty #[v, .slice (some ⟨w.heap.size, 0, none⟩) 1 c]).run Try.prog (w.alloc (.cells #[.string s] 9)) = .ok v' w' ∧ Two B l d S ops rs w' ∧ Kept2 B0 S v' (ts ++ [s]) w' ∧ Below B0 w w' := by
  obtain ⟨v', w', hr, h1, hG⟩ := append_texts (w.alloc (.cells #[.string s] 9)) ty v ts [s] B0 (hk.texts.below ((Below.refl _ _).alloc (Nat.le_refl _) _)) ⟨w.heap.size, 0, none⟩ c (fun j hj => by
    have : j = 0 := by simpa using hj
    subst this
    exact Lib.cell_of_heap (heap_alloc_new w _) 0) (by simp; omega)
  have hz : w.heap.size < w'.heap.size := by have := hG.1.size; simp at this; omega
  have hblk : ∀ k, k < w.heap.size → ¬ v.ownBlock = some k → w'.heap[k]? = w.heap[k]? := fun k hk1 hk2 =>
    (hG.1.block k (by simp; omega) (fun e => hk2 e.symm)).trans (Below.heap_alloc w _ k hk1)
  have hK : Kept (fun k => v.ownBlock = some k) w w' := ⟨hG.1.os, hG.1.tape, hG.1.output, by omega, hblk⟩
  have hne : ¬ v.ownBlock = some l := by
    intro e
    rcases hk.texts.2 with ⟨rfl, _⟩ | ⟨g, cap, cur, rfl, _, hg, _⟩
    · simp [Value.ownBlock] at e
    · injection e with e
      have e' : g = l := e
      subst e'
      have := h.on
      unfold LogOn at this
      rw [hg] at this
      injection this with this
      injection this with _ h9 _
      exact absurd h9 (by decide)
  refine ⟨v', w', hr, ⟨h.dl.kept hK (fun k _ hs e => hk.out k e hs), h.on.kept hK hne, h.out, h.ge⟩, ⟨h1.rebase fun g hg => ?_, fun g hg hs => ?_⟩, ⟨hK.os, hK.tape, hK.output, hK.size, fun k hk1 => hblk k (by omega) (fun e => by have := (hk.texts.lt k e).1; omega)⟩⟩
  · rcases hG.2 g hg with h3 | h3
    · exact (hk.texts.lt g h3).1
    · simp at h3; omega
  · rcases hG.2 g hg with h3 | h3
    · exact hk.out g h3 hs
    · have := (h.dl.low g hs).2
      simp at h3; omega

set_option maxHeartbeats 2000000 in
theorem goesOn_walk (a : Option Addr) (xs : List ByteArray) (c : Nat) (p : Int) (b : Option Addr) (ys : List ByteArray) (cy : Nat) (w : World) (hS : Texts w (.slice a xs.length c) xs) (hx : xs.length ≤ 9223372036854775807) (hSy : Texts w (.slice b ys.length cy) ys) (hy : ys.length ≤ 9223372036854775807) :
    Calls Try.prog 3 #[.slice a xs.length c, .int .i64 p, .slice b ys.length cy] w fun e w' => e = .returned (.bool true) ∧ Below w.heap.size w w' := by
  obtain ⟨N, hN⟩ : ∃ N, N = xs.length := ⟨_, rfl⟩
  obtain ⟨Y, hY⟩ : ∃ Y, Y = ys.length := ⟨_, rfl⟩
  rw [← hN] at hx hS ⊢
  rw [← hY] at hy hSy ⊢
  have HT : Hid (∀ k, k < N → ∃ b off s, a = some ⟨b, off, none⟩ ∧ b < w.heap.size ∧ w.cell? ⟨b, off + k, none⟩ = some (.string s)) := Lib.hid (fun k hk => by
    obtain ⟨b, off, h1, h2, h3⟩ := hS.at hN.symm hk
    exact ⟨b, off, _, h1, h2, h3⟩)
  have HY : Hid (∀ k, k < Y → ∃ b' off s, b = some ⟨b', off, none⟩ ∧ b' < w.heap.size ∧ w.cell? ⟨b', off + k, none⟩ = some (.string s)) := Lib.hid (fun k hk => by
    obtain ⟨b, off, h1, h2, h3⟩ := hSy.at hY.symm hk
    exact ⟨b, off, _, h1, h2, h3⟩)
  clear hS hN hSy hY
  go_enter Try.func3, Try.ntmps3
  go_wp2_with fail
  refine (new_log _).mono ?_
  rintro e w1 ⟨rfl, h1, hb1⟩
  have H1 := Lib.hid h1; have HB1 := Lib.hid hb1; clear h1 hb1
  go_wp2_with fail
  refine (open_log _ _ _ _ _ _ H1.out).mono ?_
  rintro e w2 ⟨v, rfl, h2, hs2, hb2⟩
  obtain ⟨a2, c2, rfl⟩ := hs2.shape
  have H2 := Lib.hid h2; have HB2 := Lib.hid (HB1.out.trans (hb2.mono HB1.out.size)); clear h2 hb2 hs2
  obtain ⟨l, hl⟩ : ∃ l, l = w1.heap.size := ⟨_, rfl⟩
  rw [← hl] at H2 ⊢
  clear hl H1 HB1
  go_wp2
  go_loopw [11] (fun i wr => ∃ k : Nat, k ≤ N ∧ i = .int .i64 k ∧ Hid (∃ S ops rs, Two w.heap.size l w.heap.size S ops rs wr) ∧ Hid (Below w.heap.size w wr)) (fun i _ => N - (intOf i).toNat)
  case atStart => exact ⟨0, by omega, rfl, Lib.hid ⟨_, _, _, H2.out⟩, HB2⟩
  case round =>
    obtain ⟨k, hk, rfl, HTW, HB⟩ := hrel
    by_cases hlt : k < N
    · obtain ⟨b', off, s, rfl, hbw, hcell⟩ := HT.out k hlt
      have hcell' := (HB.out.cell (p := ⟨b', off + k, none⟩) hbw).trans hcell
      clear hcell
      have hHB := HB.out.size
      rcases empty_case s with he | he
      · go_wp2
        go_roundw
        case rel => exact ⟨k + 1, by omega, by go_num, HTW, HB⟩
        case measure => simp [intOf]; omega
      · obtain ⟨S, ops, rs, h2⟩ := HTW.out
        have H2 := Lib.hid h2; clear h2
        go_wp2_with fail
        refine (append_log _ _ _ _ _ _ _ _ H2.out).mono ?_
        rintro e w3 ⟨he3, S3, ops3, h3, hk3, _⟩
        have H3 : Hid (∃ S ops rs, Two w.heap.size l w.heap.size S ops rs w3) := Lib.hid ⟨_, _, _, h3⟩
        have HB3 := Lib.hid (HB.out.trans (H2.out.toBelow hk3)); clear h3 hk3
        obtain ⟨ec, hec⟩ : ∃ ec, ec = appCode rs s := ⟨_, rfl⟩
        rw [← hec] at he3
        subst he3
        clear hec
        go_wp2
        go_roundw
        case rel => exact ⟨k + 1, by omega, by go_num, H3, HB3⟩
        case measure => simp [intOf]; omega
    · obtain ⟨S, ops, rs, h2⟩ := HTW.out
      have h9 := h2.dl.len.2
      obtain ⟨M, hM⟩ : ∃ M, M = rs.length := ⟨_, rfl⟩
      have hWS : Calls Try.prog 9 #[.pointer (some ⟨w.heap.size, 0, none⟩)] wr fun e w' => e = .returned (.int .i64 M) ∧ wr = w' := (writes_ok S w.heap.size ops wr h2.dl.disk).mono fun e w' ⟨h1, h2'⟩ => ⟨by rw [h1, h2.dl.hist.1, hM], h2'.symm⟩
      have HD := Lib.hid h2.dl; have HWS := Lib.hid hWS; clear h2 hWS
      rw [← hM] at h9
      have HM := Lib.hid hM; clear hM
      have hX := tmod_le p M
      obtain ⟨X, hXe⟩ : ∃ X, p.tmod ((M : Int) + 1) = X := ⟨_, rfl⟩
      rw [hXe] at hX
      have hM1 : ¬ ((M : Int) + 1 = 0) := by omega
      go_wp2_with fail
      refine HWS.out.mono ?_
      rintro e w3 ⟨rfl, rfl⟩
      go_upto_if 59 with fail
      go_cut [12] (fun x wx => (∃ m : Nat, m ≤ M ∧ x = .int .i64 m) ∧ wr = wx)
      case first =>
        go_wp2_with fail
        all_goals go_meet
        all_goals first
          | exact ⟨⟨X.toNat, by omega, by congr 1; omega⟩, rfl⟩
          | exact ⟨⟨(-X).toNat, by omega, by congr 1; omega⟩, rfl⟩
      case rest =>
        obtain ⟨⟨m, hm, rfl⟩, rfl⟩ := hcut
        have hBz := HB.out.size
        have HC := Lib.hid (cut_log m _ _ _ _ _ wr HD.out (by rw [← HM.out]; exact hm))
        clear hX hXe hM1
        go_wp2_with fail
        refine HC.out.mono ?_
        rintro e w4 ⟨rfl, h4, hb4⟩
        obtain ⟨d, hd⟩ : ∃ d, d = wr.heap.size := ⟨_, rfl⟩
        have HB4 := Lib.hid (HB.out.trans (hb4.mono hBz))
        have hz4 := HB4.out.size
        rw [← hd] at h4 ⊢
        obtain ⟨qs, hqs⟩ : ∃ qs, qs = rs.take m := ⟨_, rfl⟩
        rw [← hqs] at h4
        obtain ⟨os, hos⟩ : ∃ os, os = ops.take m := ⟨_, rfl⟩
        rw [← hos] at h4
        have hwd : w.heap.size ≤ d := by omega
        have H4 := Lib.hid h4; clear h4 hb4 hd hqs hos HC
        go_wp2_with fail
        refine (open_log _ _ _ _ _ _ H4.out).mono ?_
        rintro e w5 ⟨v5, rfl, h5, hs5, hb5⟩
        have H5 := Lib.hid h5; have HB5 := Lib.hid (HB4.out.trans (hb5.mono hz4)); have HS5 := Lib.hid hs5; clear h5 hb5 hs5
        have hz5 := HB5.out.size
        have hq9 := H5.out.dl.len.2
        obtain ⟨v6, w6, hr6, hs6, hb6, ho6⟩ := append_first w5 22 v5 qs _ HS5.out (by omega)
        have HK6 : Hid (Kept2 w.heap.size (fun k => From d k ∧ k < w4.heap.size) v6 qs w6) := Lib.hid ⟨hs6.rebase (fun g hg => by have := ho6 g hg; omega), fun g hg hs => by
          have h1 := ho6 g hg
          have h2 := H5.out.on.lt
          omega⟩
        have H6 := Lib.hid (show Two d w4.heap.size d _ os qs w6 from ⟨H5.out.dl.below hb6, H5.out.on.below hb6, H5.out.out, H5.out.ge⟩)
        have HB6 := Lib.hid (HB5.out.trans (hb6.mono hz5))
        obtain ⟨a5, c5, hv5⟩ := HS5.out.shape
        obtain ⟨a6, c6, hv6⟩ := hs6.shape
        clear hs6 hb6 ho6
        obtain ⟨Q, hQ⟩ : ∃ Q, Q = qs.length := ⟨_, rfl⟩
        rw [← hQ] at hv5 hv6 hq9
        subst hv5 hv6
        have HQ := Lib.hid hQ; clear hQ
        go_wp2_with (at_builtin; refine Lib.wpList_append_run _ rfl _ _ 22 22 rfl _ _ rfl rfl _ _ hr6 ?_)
        clear hr6
        go_loopw [18, 19] (fun v i wy => ∃ (j : Nat) (av : Option Addr) (n cv : Nat), j ≤ Y ∧ i = .int .i64 j ∧ v = .slice av n cv ∧ Hid (∃ S ops qs, qs.length = n ∧ Two d w4.heap.size d S ops qs wy ∧ Kept2 w.heap.size S (.slice av n cv) qs wy) ∧ Hid (Below w.heap.size w wy)) (fun _ i _ => Y - (intOf i).toNat)
        case atStart => exact ⟨0, _, _, _, by omega, rfl, rfl, Lib.hid ⟨_, _, _, HQ.out.symm, H6.out, HK6.out⟩, HB6⟩
        case round =>
          obtain ⟨j, av, n, cv, hj, rfl, rfl, HTK, HBY⟩ := hrel
          have hzy := HBY.out.size
          by_cases hlt : j < Y
          · obtain ⟨b', off, s, rfl, hbw, hcell⟩ := HY.out j hlt
            have hcell' := (HBY.out.cell (p := ⟨b', off + j, none⟩) hbw).trans hcell
            rcases empty_case s with he | he
            · go_wp2
              go_roundw
              case rel => exact ⟨j + 1, av, n, cv, by omega, by go_num, rfl, HTK, HBY⟩
              case measure => simp [intOf]; omega
            · obtain ⟨S, ops, qs, hn, h2, hk2⟩ := HTK.out
              have hn9 := h2.dl.len.2
              rw [hn] at hn9
              have HN := Lib.hid hn; have H2 := Lib.hid h2; have HK2 := Lib.hid hk2; clear hn h2 hk2
              go_wp2_with fail
              refine (append_log _ _ _ _ _ _ _ _ H2.out).mono ?_
              rintro e w3 ⟨he3, S3, ops3, h3, hk3, hs3⟩
              have HK3 := Lib.hid (HK2.out.step hk3 hs3)
              have HB3 := Lib.hid (HBY.out.trans ((H2.out.toBelow hk3).mono hwd)); clear hk3 hs3
              by_cases hc0 : appCode qs s = 0
              · rw [hc0] at he3
                rw [appRecs, if_pos hc0] at h3
                subst he3
                obtain ⟨v', w5', hr, h4, hk4, hb4⟩ := two_append w.heap.size _ _ _ _ _ _ qs s _ w3 22 1 h3 HK3.out HB3.out.size (by have := HN.out; omega)
                obtain ⟨av', cv', hv'⟩ := hk4.texts.shape
                rw [List.length_append, List.length_singleton, HN.out] at hv'
                subst hv'
                have HB5 := Lib.hid (HB3.out.trans hb4)
                have H5 : Hid (∃ S ops qs, qs.length = n + 1 ∧ Two d w4.heap.size d S ops qs w5' ∧ Kept2 w.heap.size S (.slice av' (n + 1) cv') qs w5') := Lib.hid ⟨_, _, _, by rw [List.length_append, List.length_singleton, HN.out], h4, hk4⟩
                clear h3 h4 hk4 hb4 hc0
                have hc3 := (HB3.out.cell (p := ⟨b', off + j, none⟩) hbw).trans hcell
                go_wp2_with (at_builtin; refine Lib.wpList_append_run _ rfl _ _ 22 22 rfl _ _ rfl rfl _ _ hr ?_)
                clear hr
                go_wp2
                go_roundw
                case rel => exact ⟨j + 1, av', n + 1, cv', by omega, by go_num, rfl, H5, HB5⟩
                case measure => simp [intOf]; omega
              · have hcb : (appCode qs s == 0) = false := by rw [beq_eq_false_iff_ne]; exact hc0
                rw [appRecs, if_neg hc0] at h3
                obtain ⟨ec, hec⟩ : ∃ ec, ec = appCode qs s := ⟨_, rfl⟩
                rw [← hec] at he3 hcb
                subst he3
                have H5 : Hid (∃ S ops qs, qs.length = n ∧ Two d w4.heap.size d S ops qs w3 ∧ Kept2 w.heap.size S (.slice av n cv) qs w3) := Lib.hid ⟨_, _, _, HN.out, h3, HK3.out⟩
                clear h3 hc0 hec
                go_wp2
                go_roundw
                case rel => exact ⟨j + 1, av, n, cv, by omega, by go_num, rfl, H5, HB3⟩
                case measure => simp [intOf]; omega
          · obtain ⟨S, ops, qs, hn, h2, hk2⟩ := HTK.out
            have hn9 := h2.dl.len.2
            rw [hn] at hn9
            have HN := Lib.hid hn; have H2 := Lib.hid h2; have HK2 := Lib.hid hk2; clear hn h2 hk2
            go_wp2_with fail
            refine (open_log _ _ _ _ _ _ H2.out.dl).mono ?_
            rintro e w7 ⟨v7, rfl, h7, hs7, hb7⟩
            have HT7 := Lib.hid hs7.texts
            have HTK7 := Lib.hid (HK2.out.texts.below hb7).texts
            have H7 := Lib.hid (H2.out.dl.below hb7); have HL7 := Lib.hid (H2.out.on.below hb7)
            have HB7 := Lib.hid (HBY.out.trans (hb7.mono hzy)); clear h7 hb7 hs7
            have hz7 := HB7.out.size
            go_wp2_with fail
            refine (same_yes _ _ qs _ HT7.out HTK7.out (by have := HN.out; omega)).mono ?_
            rintro e w8 ⟨rfl, n8, rfl⟩
            have HB8 := Lib.hid (below_drewN w7 n8)
            go_wp2_with fail
            refine (len_ok _ _ _ _ _ _ (H7.out.below HB8.out).disk (HL7.out.below HB8.out) H7.out.hist.now H7.out.recs).mono ?_
            rintro e w10 ⟨he, hb10⟩
            rw [HN.out] at he
            subst he
            have HB10 := Lib.hid (HB7.out.trans ((HB8.out.trans (hb10.mono HB8.out.size)).mono hz7)); clear hb10
            have hz10 := HB10.out.size
            have hQQ : ((n : Int) == n) = true := by simp
            go_wp2_with fail
            refine (awake_any _).mono ?_
            rintro e w11 ⟨rfl, hb11⟩
            go_wp2
            go_ret
            exact ⟨rfl, HB10.out.trans (hb11.mono hz10)⟩
end Go.Proofs.Ytnncljihnelalaa
