/- Add; Has. -/
import Derived.Test.YtpjpkpbfbbpmdaaDoorTSG
set_option maxRecDepth 100000
namespace Go.Proofs.YtpjpkpbfbbpmdaaDoor.Ts
open Go.RowKit Go.Maps

/-- A set in memory, with what it holds. -/
structure StAt (w : World) (b be bw : Nat) (s : Tset) : Prop where
  at_ : SetAt w b be bw s.most s.T s.P
  ok : s.Ok
theorem StAt.below {w w' : World} {b be bw : Nat} {s : Tset} (h : StAt w b be bw s) (hb : Below w.heap.size w w') : StAt w' b be bw s := ⟨h.at_.below hb, h.ok⟩
theorem StAt.blocks {w w' : World} {b be bw : Nat} {s : Tset} (h : StAt w b be bw s) (h1 : w'.heap[b]? = w.heap[b]?) (h2 : w'.heap[be]? = w.heap[be]?) (h3 : w'.heap[bw]? = w.heap[bw]?) : StAt w' b be bw s := ⟨h.at_.blocks h1 h2 h3, h.ok⟩
theorem StAt.kept {S : Nat → Prop} {w w' : World} {b be bw : Nat} {s : Tset} (h : StAt w b be bw s) (hk : Kept S w w') (h1 : ¬ S b) (h2 : ¬ S be) (h3 : ¬ S bw) : StAt w' b be bw s := ⟨h.at_.kept hk h1 h2 h3, h.ok⟩

set_option maxHeartbeats 400000 in
theorem add_no (p : Value) (t : Int) (w : World) (h : NoSet p w) : Calls Tryd.prog 21 #[p, .int .i64 t] w fun e w' => e = .returned (.int .i64 1) ∧ w = w' := by
  have HG := Lib.hid (given_no p w h); clear h
  go_enter Tryd.func21, Tryd.ntmps21
  go_wp2_with fail
  refine HG.out.mono ?_
  rintro e w1 ⟨rfl, rfl⟩
  go_wp2
  go_ret
  exact ⟨rfl, rfl⟩
set_option maxHeartbeats 400000 in
theorem add_bad {w : World} {b be bw : Nat} {s : Tset} (h : StAt w b be bw s) (t : Int) (ht : ¬ (0 ≤ t ∧ t < 16777216)) :
    Calls Tryd.prog 21 #[.pointer (some ⟨b, 0, none⟩), .int .i64 t] w fun e w' => e = .returned (.int .i64 1) ∧ w = w' := by
  have HG := Lib.hid (given_self b w h.at_.c0)
  have HI := Lib.hid (isAddr_any t w)
  rw [decide_eq_false ht] at HI
  clear h ht
  go_enter Tryd.func21, Tryd.ntmps21
  go_wp2_with fail
  refine HG.out.mono ?_
  rintro e w1 ⟨rfl, rfl⟩
  go_wp2_with fail
  refine HI.out.mono ?_
  rintro e w1 ⟨rfl, rfl⟩
  go_wp2
  go_ret
  exact ⟨rfl, rfl⟩
theorem putT_one {T : List Nat} (h : Srt T) (t : Nat) : putT T (t / 64) (2 ^ (t % 64)) = ins t T := srt_ext (srt_putT h _ _) (srt_ins h) fun x => by
  rw [mem_putT, mem_ins, Nat.testBit_two_pow, decide_eq_true_eq]
  constructor
  · rintro (e | ⟨e1, e2⟩)
    · exact .inr e
    · exact .inl (by omega)
  · rintro (rfl | e)
    · exact .inr ⟨rfl, rfl⟩
    · exact .inl e
def AddPost (b be bw : Nat) (s : Tset) (t : Nat) (w w' : World) : Prop := ∃ s', AddTo s t s' ∧ StAt w' b be bw s' ∧ Kept (Own b be bw) w w'
set_option maxHeartbeats 800000 in
theorem add_ok {w : World} {b be bw : Nat} {s : Tset} (h : StAt w b be bw s) (t : Nat) (ht : t < 16777216) :
    Calls Tryd.prog 21 #[.pointer (some ⟨b, 0, none⟩), .int .i64 t] w fun e w' => e = .returned (.int .i64 0) ∧ AddPost b be bw s t w w' := by
  have HG := Lib.hid (given_self b w h.at_.c0)
  have HI := Lib.hid (isAddr_any t w)
  rw [decide_eq_true (show 0 ≤ (t : Int) ∧ (t : Int) < 16777216 by omega)] at HI
  have HP := Lib.hid (hpage_any t w ht)
  have HL := Lib.hid (placeOf_any t w ht)
  have hp2 : 2 ^ (t % 64) < 18446744073709551616 := Nat.pow_lt_pow_right (n := 64) (by omega) (by omega)
  have hp0 : 2 ^ (t % 64) ≠ 0 := Nat.ne_of_gt (Nat.pow_pos (by omega))
  have HPUT : Hid (Calls Tryd.prog 26 #[.pointer (some ⟨b, 0, none⟩), .int .i64 ((t / 64 : Nat) : Int), .int .u64 ((2 ^ (t % 64) : Nat) : Int)] w fun e w' => e = .returned (.tuple #[]) ∧
      Hid (Calls Tryd.prog 27 #[.pointer (some ⟨b, 0, none⟩)] w' fun e w2 => e = .returned (.tuple #[]) ∧ Hid (AddPost b be bw s t w w2))) := Lib.hid (by
    by_cases hP : t / 64 ∈ s.P
    · refine (put_there h.at_ (t / 64) _ (by omega) hP).mono ?_
      rintro e w1 ⟨he, hb⟩
      refine ⟨he, Lib.hid ((degrade_any (h.at_.below hb) h.ok.raw h.ok.most).mono ?_)⟩
      rintro e w2 ⟨he2, T', P', hd, ha, hk⟩
      obtain ⟨rfl, rfl⟩ := hd.unique (.done h.ok.few)
      exact ⟨he2, Lib.hid ⟨s, ⟨rfl, .inl ⟨hP, rfl⟩⟩, ⟨ha, h.ok⟩, (Kept.ofBelow (S := Own b be bw) hb).trans hk (fun _ e => .inl e)⟩⟩
    · refine (put_out h.at_ h.ok.raw (t / 64) _ (by omega) hP hp2 hp0).mono ?_
      rintro e w1 ⟨he, ha, hk⟩
      rw [putT_one h.ok.raw.st] at ha
      refine ⟨he, Lib.hid ((degrade_any ha (h.ok.raw.add ht hP) h.ok.most).mono ?_)⟩
      rintro e w2 ⟨he2, T', P', hd, ha2, hk2⟩
      have hto : AddTo s t ⟨s.most, T', P'⟩ := ⟨rfl, .inr ⟨hP, hd⟩⟩
      exact ⟨he2, Lib.hid ⟨⟨s.most, T', P'⟩, hto, ⟨ha2, hto.ok h.ok ht⟩, hk.trans hk2 (fun _ e => .inl e)⟩⟩)
  obtain ⟨y, hy⟩ : ∃ y, y = 2 ^ (t % 64) := ⟨_, rfl⟩
  rw [← hy] at HPUT HL
  obtain ⟨q, hq⟩ : ∃ q, q = t / 64 := ⟨_, rfl⟩
  rw [← hq] at HPUT HP
  clear h hy hp2 hp0 hq
  go_enter Tryd.func21, Tryd.ntmps21
  go_wp2_with fail
  refine HG.out.mono ?_
  rintro e w1 ⟨rfl, rfl⟩
  go_wp2_with fail
  refine HI.out.mono ?_
  rintro e w1 ⟨rfl, rfl⟩
  go_wp2_with fail
  refine HP.out.mono ?_
  rintro e w1 ⟨rfl, rfl⟩
  go_wp2_with fail
  refine HL.out.mono ?_
  rintro e w1 ⟨rfl, rfl⟩
  go_wp2_with fail
  refine HPUT.out.mono ?_
  rintro e w1 ⟨rfl, HDG⟩
  go_wp2_with fail
  refine HDG.out.mono ?_
  rintro e w2 ⟨rfl, HE⟩
  go_wp2
  go_ret
  exact ⟨rfl, HE.out⟩

/-- Whether a number is an address of the set. -/
def hasB (s : Tset) (t : Int) : Bool := decide ((0 ≤ t ∧ t < 16777216) ∧ (t.toNat ∈ s.T ∨ t.toNat / 64 ∈ s.P))
theorem hasB_iff {s : Tset} {t : Int} : hasB s t = true ↔ (0 ≤ t ∧ t < 16777216) ∧ s.has t.toNat := by simp [hasB, Tset.has]
theorem at_bit {s : Tset} {t : Nat} (ht : t < 16777216) : (if t / 64 ∈ s.P then 18446744073709551615 else pl s.T (t / 64)).testBit (t % 64) = hasB s t := by
  rw [Bool.eq_iff_iff, hasB_iff, Int.toNat_natCast]
  have h1 : (0 : Int) ≤ t ∧ (t : Int) < 16777216 := by omega
  unfold Tset.has
  split
  · rename_i h
    rw [show 18446744073709551615 = 2 ^ 64 - 1 from rfl, Nat.testBit_two_pow_sub_one, decide_eq_true_eq]
    exact ⟨fun _ => ⟨h1, .inr h⟩, fun _ => by omega⟩
  · rename_i h
    rw [pl_bit']
    exact ⟨fun e => ⟨h1, .inl e⟩, fun e => e.2.elim id (fun e => absurd e h)⟩
set_option maxHeartbeats 400000 in
theorem has_no (p : Value) (t : Int) (w : World) (h : NoSet p w) : Calls Tryd.prog 17 #[p, .int .i64 t] w fun e w' => e = .returned (.bool false) ∧ w = w' := by
  have HG := Lib.hid (given_no p w h); clear h
  go_enter Tryd.func17, Tryd.ntmps17
  go_wp2_with fail
  refine HG.out.mono ?_
  rintro e w1 ⟨rfl, rfl⟩
  go_wp2
  go_ret
  exact ⟨rfl, rfl⟩
set_option maxHeartbeats 800000 in
theorem has_any {w : World} {b be bw : Nat} {s : Tset} (h : StAt w b be bw s) (t : Int) :
    Calls Tryd.prog 17 #[.pointer (some ⟨b, 0, none⟩), .int .i64 t] w fun e w' => e = .returned (.bool (hasB s t)) ∧ Below w.heap.size w w' := by
  have HG := Lib.hid (given_self b w h.at_.c0)
  have HI := Lib.hid (isAddr_any t w)
  by_cases ht : 0 ≤ t ∧ t < 16777216
  · obtain ⟨n, rfl⟩ : ∃ n : Nat, t = n := ⟨t.toNat, by omega⟩
    rw [decide_eq_true ht] at HI
    have hn : n < 16777216 := by omega
    have HP := Lib.hid (hpage_any n w hn)
    have HA := Lib.hid (at_any h.at_ (n / 64) (by omega))
    have HL : Hid (∀ W, Calls Tryd.prog 40 #[.int .i64 n] W fun e w' => e = .returned (.int .u64 ((2 ^ (n % 64) : Nat) : Int)) ∧ W = w') := Lib.hid fun W => placeOf_any n W hn
    have hlt : (if n / 64 ∈ s.P then 18446744073709551615 else pl s.T (n / 64)) < 18446744073709551616 := by
      split
      · decide
      · exact pl_lt _ _
    have hbit := at_bit (s := s) hn
    obtain ⟨x, hx⟩ : ∃ x, x = if n / 64 ∈ s.P then 18446744073709551615 else pl s.T (n / 64) := ⟨_, rfl⟩
    rw [← hx] at HA hlt hbit
    have HM : Hid (∀ W, Calls Tryd.prog 39 #[.int .u64 x, .int .u64 ((2 ^ (n % 64) : Nat) : Int)] W fun e w' => e = .returned (.bool (hasB s n)) ∧ W = w') := Lib.hid fun W => by rw [← hbit]; exact meet_any x (n % 64) hlt (by omega) W
    obtain ⟨y, hy⟩ : ∃ y, y = 2 ^ (n % 64) := ⟨_, rfl⟩
    rw [← hy] at HM HL
    obtain ⟨q, hq⟩ : ∃ q, q = n / 64 := ⟨_, rfl⟩
    rw [← hq] at HA HP
    obtain ⟨r, hr⟩ : ∃ r, r = hasB s n := ⟨_, rfl⟩
    rw [← hr] at HM ⊢
    clear h ht hx hlt hbit hy hq hr
    go_enter Tryd.func17, Tryd.ntmps17
    go_wp2_with fail
    refine HG.out.mono ?_
    rintro e w1 ⟨rfl, rfl⟩
    go_wp2_with fail
    refine HI.out.mono ?_
    rintro e w1 ⟨rfl, rfl⟩
    go_wp2_with fail
    refine HP.out.mono ?_
    rintro e w1 ⟨rfl, rfl⟩
    go_wp2_with fail
    refine HA.out.mono ?_
    rintro e w1 ⟨rfl, hb⟩
    go_wp2_with fail
    refine (HL.out _).mono ?_
    rintro e w2 ⟨rfl, rfl⟩
    go_wp2_with fail
    refine (HM.out _).mono ?_
    rintro e w2 ⟨rfl, rfl⟩
    cases r
    all_goals
      go_wp2
      go_ret
      exact ⟨rfl, hb⟩
  · rw [decide_eq_false ht] at HI
    have e : hasB s t = false := by
      cases hh : hasB s t with
      | false => rfl
      | true => exact absurd (hasB_iff.1 hh).1 ht
    rw [e]
    clear h ht e
    go_enter Tryd.func17, Tryd.ntmps17
    go_wp2_with fail
    refine HG.out.mono ?_
    rintro e w1 ⟨rfl, rfl⟩
    go_wp2_with fail
    refine HI.out.mono ?_
    rintro e w1 ⟨rfl, rfl⟩
    go_wp2
    go_ret
    exact ⟨rfl, Below.refl _ _⟩
end Go.Proofs.YtpjpkpbfbbpmdaaDoor.Ts
