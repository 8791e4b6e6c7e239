/- The walk of LogTwice. -/
import Derived.Test.YtnncljihnelalaaLH
import Derived.Deep.DeepCutAuto
set_option maxRecDepth 100000
namespace Go.Proofs.Ytnncljihnelalaa
open Go.RowKit

theorem tmod_le (x : Int) (n : Nat) : x.tmod ((n : Int) + 1) ≤ n ∧ -(n : Int) ≤ x.tmod ((n : Int) + 1) := by
  have h : (x.tmod ((n : Int) + 1)).natAbs < n + 1 := by
    rw [Int.natAbs_tmod]
    exact Nat.mod_lt _ (by omega)
  omega

theorem cut_log (n : Nat) (B d : Nat) (S : Nat → Prop) (ops : List RawOp) (rs : List ByteArray) (w : World) (h : DiskLog B d S ops rs w) (hn : n ≤ rs.length) :
    Calls Try.prog 10 #[.pointer (some ⟨d, 0, none⟩), .int .i64 n] w fun e w' => e = .returned (.tuple #[.pointer (some ⟨w.heap.size, 0, none⟩), .int .i64 0]) ∧ DiskLog w.heap.size w.heap.size (fun k => From w.heap.size k ∧ k < w'.heap.size) (ops.take n) (rs.take n) w' ∧ Below w.heap.size w w' := by
  have hl := h.len
  have he := h.hist.1
  refine (cut_ok n S d ops w h.disk (by omega) (by omega)).mono ?_
  rintro e w' ⟨rfl, h1, h2⟩
  exact ⟨rfl, ⟨h1.bound, fun k hk => hk, h.hist.take hn, h.recs.take n⟩, h2⟩

theorem Texts.at {w : World} {a : Option Addr} {n c : Nat} {rs : List ByteArray} (h : Texts w (.slice a n c) rs) (hn : rs.length = n) {k : Nat} (hk : k < n) :
    ∃ b off, a = some ⟨b, off, none⟩ ∧ b < w.heap.size ∧ w.cell? ⟨b, off + k, none⟩ = some (.string (rs[k]'(by omega))) := by
  obtain ⟨a', c', hv, h⟩ := h
  injection hv with h1 h2 h3
  subst h1
  rcases h with rfl | ⟨b, off, e1, e2, e3⟩
  · simp at hn; omega
  · exact ⟨b, off, e1, e2, e3 k (by omega)⟩

theorem empty_case (s : ByteArray) : s.toList.isEmpty = true ∨ s.toList.isEmpty = false := by
  cases s.toList.isEmpty
  · exact .inr rfl
  · exact .inl rfl

set_option maxHeartbeats 3200000 in
theorem twice_walk (a : Option Addr) (xs : List ByteArray) (c : Nat) (p : Int) (w : World) (hS : Texts w (.slice a xs.length c) xs) (hx : xs.length ≤ 9223372036854775807) :
    Calls Try.prog 5 #[.slice a xs.length c, .int .i64 p] w fun e w' => e = .returned (.bool true) ∧ Below w.heap.size w w' := by
  obtain ⟨N, hN⟩ : ∃ N, N = xs.length := ⟨_, rfl⟩
  rw [← hN] at hx hS ⊢
  have HT : Hid (∀ k, k < N → ∃ b off s, a = some ⟨b, off, none⟩ ∧ b < w.heap.size ∧ w.cell? ⟨b, off + k, none⟩ = some (.string s)) := Lib.hid (fun k hk => by
    obtain ⟨b, off, h1, h2, h3⟩ := hS.at hN.symm hk
    exact ⟨b, off, _, h1, h2, h3⟩); clear hS
  have HN := Lib.hid hN; clear hN
  go_enter Try.func5, Try.ntmps5
  go_wp2_with fail
  refine (new_log _).mono ?_
  rintro e w1 ⟨rfl, h1, hb1⟩
  have H1 := Lib.hid h1; have HB1 := Lib.hid hb1; clear h1 hb1
  go_wp2_with fail
  refine (open_log _ _ _ _ _ _ H1.out).mono ?_
  rintro e w2 ⟨v, rfl, h2, hs2, hb2⟩
  obtain ⟨a2, c2, rfl⟩ := hs2.shape
  have H2 := Lib.hid h2; have HB2 := Lib.hid (HB1.out.trans (hb2.mono HB1.out.size)); clear h2 hb2 hs2
  obtain ⟨l, hl⟩ : ∃ l, l = w1.heap.size := ⟨_, rfl⟩
  rw [← hl] at H2 ⊢
  clear hl H1 HB1
  go_wp2
  go_loopw [9] (fun i wr => ∃ k : Nat, k ≤ N ∧ i = .int .i64 k ∧ Hid (∃ S ops rs, Two w.heap.size l w.heap.size S ops rs wr) ∧ Hid (Below w.heap.size w wr)) (fun i _ => N - (intOf i).toNat)
  case atStart => exact ⟨0, by omega, rfl, Lib.hid ⟨_, _, _, H2.out⟩, HB2⟩
  case round =>
    obtain ⟨k, hk, rfl, HTW, HB⟩ := hrel
    by_cases hlt : k < N
    · obtain ⟨b, off, s, rfl, hbw, hcell⟩ := HT.out k hlt
      have hcell' := (HB.out.cell (p := ⟨b, off + k, none⟩) hbw).trans hcell
      clear hcell
      have hHB := HB.out.size
      rcases empty_case s with he | he
      · go_wp2
        go_roundw
        case rel => exact ⟨k + 1, by omega, by go_num, HTW, HB⟩
        case measure => simp [intOf]; omega
      · obtain ⟨S, ops, rs, h2⟩ := HTW.out
        have H2 := Lib.hid h2; clear h2
        go_wp2_with fail
        refine (append_log _ _ _ _ _ _ _ _ H2.out).mono ?_
        rintro e w3 ⟨he3, S3, ops3, h3, hk3, _⟩
        have H3 : Hid (∃ S ops rs, Two w.heap.size l w.heap.size S ops rs w3) := Lib.hid ⟨_, _, _, h3⟩
        have HB3 := Lib.hid (HB.out.trans (H2.out.toBelow hk3)); clear h3 hk3
        obtain ⟨ec, hec⟩ : ∃ ec, ec = appCode rs s := ⟨_, rfl⟩
        rw [← hec] at he3
        subst he3
        clear hec
        go_wp2
        go_roundw
        case rel => exact ⟨k + 1, by omega, by go_num, H3, HB3⟩
        case measure => simp [intOf]; omega
    · obtain ⟨S, ops, rs, h2⟩ := HTW.out
      have h9 := h2.dl.len.2
      obtain ⟨M, hM⟩ : ∃ M, M = rs.length := ⟨_, rfl⟩
      have hWS : Calls Try.prog 9 #[.pointer (some ⟨w.heap.size, 0, none⟩)] wr fun e w' => e = .returned (.int .i64 M) ∧ wr = w' := (writes_ok S w.heap.size ops wr h2.dl.disk).mono fun e w' ⟨h1, h2'⟩ => ⟨by rw [h1, h2.dl.hist.1, hM], h2'.symm⟩
      have HD := Lib.hid h2.dl; have HWS := Lib.hid hWS; clear h2 hWS
      rw [← hM] at h9
      have HM := Lib.hid hM; clear hM
      have hX := tmod_le p M
      obtain ⟨X, hXe⟩ : ∃ X, p.tmod ((M : Int) + 1) = X := ⟨_, rfl⟩
      rw [hXe] at hX
      have hM1 : ¬ ((M : Int) + 1 = 0) := by omega
      go_wp2_with fail
      refine HWS.out.mono ?_
      rintro e w3 ⟨rfl, rfl⟩
      go_upto_if 58 with fail
      go_cut [10] (fun x wx => (∃ m : Nat, m ≤ M ∧ x = .int .i64 m) ∧ wr = wx)
      case first =>
        go_wp2_with fail
        all_goals go_meet
        all_goals first
          | exact ⟨⟨X.toNat, by omega, by congr 1; omega⟩, rfl⟩
          | exact ⟨⟨(-X).toNat, by omega, by congr 1; omega⟩, rfl⟩
      case rest =>
        obtain ⟨⟨m, hm, rfl⟩, rfl⟩ := hcut
        have hBz := HB.out.size
        have HC := Lib.hid (cut_log m _ _ _ _ _ wr HD.out (by rw [← HM.out]; exact hm))
        clear hX hXe hM1
        go_wp2_with fail
        refine HC.out.mono ?_
        rintro e w4 ⟨rfl, h4, hb4⟩
        obtain ⟨d, hd⟩ : ∃ d, d = wr.heap.size := ⟨_, rfl⟩
        have HB4 := Lib.hid (HB.out.trans (hb4.mono hBz))
        have hz4 := HB4.out.size
        rw [← hd] at h4 ⊢
        obtain ⟨qs, hqs⟩ : ∃ qs, qs = rs.take m := ⟨_, rfl⟩
        rw [← hqs] at h4
        obtain ⟨os, hos⟩ : ∃ os, os = ops.take m := ⟨_, rfl⟩
        rw [← hos] at h4
        have H4 := Lib.hid h4; clear h4 hb4 hd hqs hos HC
        go_wp2_with fail
        refine (open_log _ _ _ _ _ _ H4.out).mono ?_
        rintro e w5 ⟨v5, rfl, h5, hs5, hb5⟩
        have HT5 := Lib.hid hs5.texts
        have H5 := Lib.hid h5.dl; have HB5 := Lib.hid (HB4.out.trans (hb5.mono hz4)); clear h5 hb5 hs5
        have hz5 := HB5.out.size
        go_wp2_with fail
        refine (open_log _ _ _ _ _ _ H5.out).mono ?_
        rintro e w6 ⟨v6, rfl, h6, hs6, hb6⟩
        have HT56 := Lib.hid (HT5.out.below hb6)
        have HT6 := Lib.hid hs6.texts
        have H6 := Lib.hid h6.dl; have HB6 := Lib.hid (HB5.out.trans (hb6.mono hz5)); clear h6 hb6 hs6
        have hz6 := HB6.out.size
        go_wp2_with fail
        refine (open_log _ _ _ _ _ _ H6.out).mono ?_
        rintro e w7 ⟨v7, rfl, h7, hs7, hb7⟩
        have HT57 := Lib.hid (HT56.out.below hb7)
        have HT67 := Lib.hid (HT6.out.below hb7)
        have HT7 := Lib.hid hs7.texts
        have HB7 := Lib.hid (HB6.out.trans (hb7.mono hz6)); clear hb7 hs7
        have H7 := Lib.hid h7; clear h7
        have hz7 := HB7.out.size
        have hq9 := H7.out.dl.len.2
        obtain ⟨a5, c5, hv5, _⟩ := HT57.out
        obtain ⟨Q, hQ⟩ : ∃ Q, Q = qs.length := ⟨_, rfl⟩
        rw [← hQ] at hv5 hq9
        subst hv5
        have HQ := Lib.hid hQ; clear hQ
        go_wp2_with fail
        refine (same_yes _ _ qs _ HT57.out HT67.out (by have := HQ.out; omega)).mono ?_
        rintro e w8 ⟨rfl, n8, rfl⟩
        go_wp2_with fail
        refine (same_yes _ _ qs _ (HT57.out.below (below_drewN _ _)) (HT7.out.below (below_drewN _ _)) (by have := HQ.out; omega)).mono ?_
        rintro e w9 ⟨rfl, n9, rfl⟩
        have HB9 := Lib.hid (below_drewN w7 (n8 + n9))
        have H9 := Lib.hid (H7.out.dl.below HB9.out)
        have HO9 := Lib.hid (H7.out.on.below HB9.out)
        go_wp2_with fail
        refine (len_ok _ _ _ _ _ _ H9.out.disk HO9.out H9.out.hist.now H9.out.recs).mono ?_
        rintro e w10 ⟨he, hb10⟩
        rw [← HQ.out] at he
        subst he
        have HB10 := Lib.hid (HB7.out.trans ((HB9.out.trans (hb10.mono HB9.out.size)).mono hz7)); clear hb10
        have hz10 := HB10.out.size
        have hQQ : ((Q : Int) == Q) = true := by simp
        go_wp2_with fail
        refine (awake_any _).mono ?_
        rintro e w11 ⟨rfl, hb11⟩
        go_wp2
        go_ret
        exact ⟨rfl, HB10.out.trans (hb11.mono hz10)⟩
end Go.Proofs.Ytnncljihnelalaa
