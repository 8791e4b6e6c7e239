/- A new pool on a disk, so said; the calls on no pool; the law's awake is true. -/
import Derived.Test.YtnmeobbbcccgjaaPN
set_option maxRecDepth 100000
namespace Go.Proofs.Ytnmeobbbcccgjaa
open Go.RowKit

set_option maxHeartbeats 400000 in
theorem flush_nobody (v : Value) (w : World) (hp : NoPool v w) : Calls Try.prog 13 #[v] w fun e w' => e = .returned (.int .i64 1) ∧ w' = w := by
  have HP : Hid (Calls Try.prog 29 #[v] w fun e w' => e = .returned (.bool false) ∧ w' = w) := Lib.hid hp; clear hp
  go_enter Try.func13, Try.ntmps13
  go_wp2_with fail
  refine HP.out.mono ?_
  rintro e w' ⟨rfl, hw⟩
  subst w'
  go_wp2
  go_ret
  exact ⟨rfl, rfl⟩
set_option maxHeartbeats 400000 in
theorem held_nobody (v : Value) (w : World) (hp : NoPool v w) : Calls Try.prog 19 #[v] w fun e w' => e = .returned (.slice none 0 0) ∧ w' = w := by
  have HP : Hid (Calls Try.prog 29 #[v] w fun e w' => e = .returned (.bool false) ∧ w' = w) := Lib.hid hp; clear hp
  go_enter Try.func19, Try.ntmps19
  go_wp2_with fail
  refine HP.out.mono ?_
  rintro e w' ⟨rfl, hw⟩
  subst w'
  go_wp2
  go_ret
  exact ⟨rfl, rfl⟩

theorem chg_none (n : Nat) : chg n (fun _ => none) = 0 := by
  induction n with
  | zero => rfl
  | succ n ih => rw [chg, ih]; rfl

theorem pnew_st (B d n N : Nat) (S : Nat → Prop) (ops : List RawOp) (w : World) (h : DiskAt S d ops w) (hS : ∀ k, S k → B ≤ k ∧ k < w.heap.size) (h1 : 1 ≤ n) (h2 : n ≤ 1024) (hN : ops.length ≤ N) :
    Calls Try.prog 8 #[.pointer (some ⟨d, 0, none⟩), .int .i64 n] w fun e w' => ∃ p S', e = .returned (.tuple #[.pointer (some ⟨p, 0, none⟩), .int .i64 0]) ∧ PoolSt B S' p d n (fun q => pageOf (play ops 1) q) (fun _ => 0) N w' ∧ Below w.heap.size w w' ∧ ∀ k, k < w.heap.size → S' k → S k := by
  refine (pnew_ok d n S ops w h h1 h2).mono ?_
  rintro e w' ⟨p, fb, mb, rfl, hG, hp, hb⟩
  have hdB := hS d h.at
  refine ⟨p, fun k => (S k ∨ w.heap.size ≤ k) ∧ k < w'.heap.size, rfl, ⟨fb, mb, 0, 0, fun _ => none, S, ops, hG, ⟨by omega, fun i => ⟨fun hi => by omega, (fun ⟨f, hf⟩ => by cases hf)⟩⟩, h.below hb, ⟨(fun i f hf => by cases hf), fun q _ => ⟨rfl, rfl⟩, by rw [chg_none]; omega, fun q => by omega⟩, ⟨fun hs => ?_, fun hs => ?_, fun hs => ?_⟩, ?_, ?_⟩, hb, fun k hk hs => hs.1.elim id (by omega)⟩
  · have := hS p hs; omega
  · have := hS fb hs; omega
  · have := hS mb hs; omega
  · rintro k (hk | rfl | rfl | rfl)
    · exact ⟨.inl hk, Nat.lt_of_lt_of_le (hS k hk).2 hb.size⟩
    · exact ⟨.inr hp.1, hG.lt⟩
    · exact ⟨.inr hp.2.1, hG.ltF⟩
    · exact ⟨.inr hp.2.2, hG.ltM⟩
  · rintro k ⟨hk, hlt⟩
    exact ⟨hk.elim (fun h => (hS k h).1) (fun h => by omega), hlt⟩

section
variable {B p d n N : Nat} {S : Nat → Prop} {w : World} {C : Nat → List UInt8} {P : Nat → Nat}
theorem pin_ok (h : PoolSt B S p d n C P N w) (hN : N ≤ 4398046511104) (q : Nat) (hq : q < 4096) (hf : ¬ (P q = 0 ∧ pinnedN P = n)) :
    Calls Try.prog 14 #[.pointer (some ⟨p, 0, none⟩), .int .i64 q] w (StPost B S p d n C (upd P q (P q + 1)) (N + 1) w) := by
  refine (pin_st B S p d n C P N q w h hN hq).mono ?_
  rintro e w' ⟨S', hT, ⟨_, h1, h2, _⟩ | ⟨he, _, hs⟩⟩
  · exact absurd ⟨h1, h2⟩ hf
  · exact ⟨he, S', hT, hs⟩
theorem pin_full (h : PoolSt B S p d n C P N w) (hN : N ≤ 4398046511104) (q : Nat) (hq : q < 4096) (h1 : P q = 0) (h2 : pinnedN P = n) :
    Calls Try.prog 14 #[.pointer (some ⟨p, 0, none⟩), .int .i64 q] w fun e w' => e = .returned (.int .i64 40) ∧ ∃ S', Turn S w S' w' ∧ PoolSt B S' p d n C P N w' := by
  refine (pin_st B S p d n C P N q w h hN hq).mono ?_
  rintro e w' ⟨S', hT, ⟨he, _, _, hs⟩ | ⟨_, hn, _⟩⟩
  · exact ⟨he, S', hT, hs⟩
  · exact absurd ⟨h1, h2⟩ hn
theorem pin_st_bad (h : PoolSt B S p d n C P N w) (q : Int) (hq : ¬ (0 ≤ q ∧ q < 4096)) :
    Calls Try.prog 14 #[.pointer (some ⟨p, 0, none⟩), .int .i64 q] w fun e w' => e = .returned (.int .i64 1) ∧ w' = w := by
  obtain ⟨fb, mb, hand, m, fr, Sd, ops, hG, _⟩ := h
  exact pin_bad p d fb mb n hand m fr q w hG hq
end

theorem pinnedN_zero {P : Nat → Nat} (h : ∀ q, P q = 0) : pinnedN P = 0 :=
  (pinnedN_list (l := []) List.nodup_nil (fun q => by simp [h q])).symm
theorem pinnedN_one {P : Nat → Nat} {q : Nat} (hq : q < 4096) (h0 : 0 < P q) (h : ∀ j, j ≠ q → P j = 0) : pinnedN P = 1 :=
  (pinnedN_list (l := [q]) (by simp) (fun j => by
    by_cases hj : j = q
    · subst hj; simp [hq, h0]
    · simp [hj, h j hj])).symm

def xS : ByteArray := ⟨#[120]⟩
theorem page3 : ∃ s : ByteArray, s = ⟨(splice (pageOf (play [] 1) 3) 0 xS.data.toList).toArray⟩ ∧ s.size = 512 ∧ s.data.toList[0]? = some 120 := by
  refine ⟨_, rfl, ?_, ?_⟩
  · have h1 : (splice (pageOf (play [] 1) 3) 0 xS.data.toList).length = 512 := by
      rw [length_splice]
      · exact pageOf_length _ _
      · rw [pageOf_length]; decide
    rw [← h1]; simp [ByteArray.size]
  · rw [splice_get _ _ _ (by rw [pageOf_length]; decide)]
    rfl

set_option maxHeartbeats 1600000 in
theorem awake_any (w : World) : Calls Try.prog 10 #[] w fun e w' => e = .returned (.bool true) ∧ Below w.heap.size w w' := by
  obtain ⟨s, hs, hs5, hs0⟩ := page3
  obtain ⟨B, hBe⟩ : ∃ B, B = w.heap.size := ⟨_, rfl⟩
  have hBw : B ≤ w.heap.size := by omega
  have HBE := Lib.hid hBe; clear hBe
  have HS := Lib.hid hs; clear hs
  go_enter Try.func10, Try.ntmps10
  go_wp2_with fail
  refine (new_disk _).mono ?_
  rintro e w1 ⟨rfl, hd1, hb1⟩
  rw [← HBE.out] at hd1 hb1 ⊢
  have HB1 := Lib.hid hb1
  have HD1 := Lib.hid hd1.bound; clear hd1 hb1
  go_wp2_with fail
  refine (pnew_st B B 1 0 _ [] _ HD1.out (fun k hk => hk) (by omega) (by omega) (by simp)).mono ?_
  rintro e w2 ⟨p, S2, rfl, h2, hb2, _⟩
  have HB2 := Lib.hid (HB1.out.trans (hb2.mono (by have := HB1.out.size; omega)))
  have H2 := Lib.hid h2; clear h2 hb2
  go_wp2_with fail
  refine (pin_ok H2.out (by omega) 3 (by omega) (by rw [pinnedN_zero (fun _ => rfl)]; omega)).mono ?_
  rintro e w3 ⟨rfl, S3, t3, h3⟩
  have H3 := Lib.hid h3; have HB3 := Lib.hid (HB2.out.trans (H2.out.toBelow t3)); clear h3 t3
  go_wp2_with fail
  refine (pin_full H3.out (by omega) 4 (by omega) rfl (pinnedN_one (q := 3) (by omega) (by rw [upd_same]; omega) (fun j hj => upd_other _ _ hj))).mono ?_
  rintro e w4 ⟨rfl, S4, t4, h4⟩
  have H4 := Lib.hid h4; have HB4 := Lib.hid (HB3.out.trans (H3.out.toBelow t4)); clear h4 t4
  go_wp2_with fail
  refine (write_st H4.out 3 0 xS (by rw [upd_same]; omega) (by decide)).mono ?_
  rintro e w5 ⟨rfl, S5, t5, h5⟩
  have H5 := Lib.hid h5; have HB5 := Lib.hid (HB4.out.trans (H4.out.toBelow t5)); clear h5 t5
  go_wp2_with fail
  refine (unpin_st H5.out 3 (by rw [upd_same]; omega) (by omega)).mono ?_
  rintro e w6 ⟨rfl, S6, t6, h6⟩
  have HB6 := Lib.hid (HB5.out.trans (H5.out.toBelow t6)); clear t6
  obtain ⟨P6, HZ6, H6⟩ : ∃ P6 : Nat → Nat, Hid (∀ j, P6 j = 0) ∧ Hid (PoolSt B S6 p B 1 _ P6 _ w6) := ⟨_, Lib.hid (fun j => by
    by_cases hj : j = 3
    · subst hj; rw [upd_same, upd_same]
    · rw [upd_other _ _ hj, upd_other _ _ hj]), Lib.hid h6⟩
  clear h6
  go_wp2_with fail
  refine (pin_ok H6.out (by omega) 4 (by omega) (by rw [pinnedN_zero HZ6.out]; omega)).mono ?_
  rintro e w7 ⟨rfl, S7, t7, h7⟩
  have H7 := Lib.hid h7; have HB7 := Lib.hid (HB6.out.trans (H6.out.toBelow t7)); clear h7 t7
  go_wp2_with fail
  refine (unpin_st H7.out 4 (by rw [upd_same]; omega) (by omega)).mono ?_
  rintro e w8 ⟨rfl, S8, t8, h8⟩
  have HB8 := Lib.hid (HB7.out.trans (H7.out.toBelow t8)); clear t8
  obtain ⟨P8, HZ8, H8⟩ : ∃ P8 : Nat → Nat, Hid (∀ j, P8 j = 0) ∧ Hid (PoolSt B S8 p B 1 _ P8 _ w8) := ⟨_, Lib.hid (fun j => by
    by_cases hj : j = 4
    · subst hj; rw [upd_same, upd_same, HZ6.out]
    · rw [upd_other _ _ hj, upd_other _ _ hj, HZ6.out]), Lib.hid h8⟩
  clear h8
  go_wp2_with fail
  refine (pin_ok H8.out (by omega) 3 (by omega) (by rw [pinnedN_zero HZ8.out]; omega)).mono ?_
  rintro e w9 ⟨rfl, S9, t9, h9⟩
  have H9 := Lib.hid h9; have HB9 := Lib.hid (HB8.out.trans (H8.out.toBelow t9)); clear h9 t9
  go_wp2_with fail
  refine (read_st H9.out 3 (by rw [upd_same]; omega)).mono ?_
  rintro e w10 ⟨rfl, hw⟩
  subst w10
  rw [show (upd (fun q => pageOf (play [] 1) q) 3 (splice (pageOf (play [] 1) 3) 0 xS.data.toList)) 3 = splice (pageOf (play [] 1) 3) 0 xS.data.toList from upd_same _ _ _, ← HS.out]
  have h0 : 0 < s.size := by omega
  have h120 : (((s[0]'h0).toNat : Int) == 120) = true := by
    have e : s[0]'h0 = 120 := by
      have h1 : 0 < s.data.toList.length := h0
      rw [List.getElem?_eq_getElem h1] at hs0
      exact Option.some.inj hs0
    rw [e]; rfl
  clear hs0
  go_wp2
  go_ret
  refine ⟨rfl, ?_⟩
  have := HB9.out
  rw [HBE.out] at this
  exact this
end Go.Proofs.Ytnmeobbbcccgjaa
