/- The contracts of OnesCount64, TrailingZeros64 and of a page's places. -/
import Derived.Test.YtpjpkpbfbbpmdaaDoorTSB
import Derived.Test.YtpjpkpbfbbpmdaaDoorGK
import Derived.Laws.Bits64
import Derived.Laws.Bits64b
import Derived.Deep.QuietTactic
import Derived.BigQuiet
import Derived.StillTailTactics
import Derived.Shelf.Spec.TrailingZeros
import Derived.ChangeKeysEq
import Derived.Deep.MidRow
set_option maxRecDepth 100000
namespace Go.Proofs.YtpjpkpbfbbpmdaaDoor.Ts
open Go.RowKit

theorem ret_i64 {a b : Int} (h : a = b) : Ending.returned (.int .i64 a) = .returned (.int .i64 b) := by rw [h]
theorem ret_u64 {a b : Int} (h : a = b) : Ending.returned (.int .u64 a) = .returned (.int .u64 b) := by rw [h]
theorem ret_bool {a b : Bool} (h : a = b) : Ending.returned (.bool a) = .returned (.bool b) := by rw [h]

/-- The library's table, as its initialiser lays it. -/
def Tab (w : World) : Prop := 1 ≤ w.heap.size ∧ ∀ j, j < 64 → w.cell? ⟨0, j, none⟩ = some (.int .u8 (Lib.deBruijn64tab.getD j 0))
theorem Tab.kept {S : Nat → Prop} {w w' : World} (h : Tab w) (hk : Kept S w w') (hS : ¬ S 0) : Tab w' :=
  ⟨Nat.le_trans h.1 hk.size, fun j hj => (World.cell?_of_block (hk.block 0 h.1 hS)).trans (h.2 j hj)⟩
theorem Tab.below {w w' : World} {B : Nat} (h : Tab w) (hb : Below B w w') (hB : 1 ≤ B) : Tab w' :=
  ⟨Nat.le_trans h.1 hb.size, fun j hj => (World.cell?_of_block (hb.block 0 hB)).trans (h.2 j hj)⟩

theorem ctz_bits (x : Nat) (h0 : x ≠ 0) (h : x < 18446744073709551616) : Lib.ctz 64 x < 64 ∧ x.testBit (Lib.ctz 64 x) = true ∧ ∀ j, j < Lib.ctz 64 x → x.testBit j = false := by
  obtain ⟨m, hm, hk⟩ := Lib.ctzFrom_spec 64 x (by omega) h
  have e : Lib.ctz 64 x = Lib.ctzFrom 64 x := by simp [Lib.ctz, h0]
  rw [e]
  obtain ⟨k, hk'⟩ : ∃ k, k = Lib.ctzFrom 64 x := ⟨_, rfl⟩
  rw [← hk'] at hm hk ⊢
  refine ⟨hk, ?_, fun j hj => ?_⟩
  · rw [hm, Nat.mul_comm, Nat.testBit_mul_two_pow]; simp
  · rw [hm, Nat.mul_comm, Nat.testBit_mul_two_pow]; simp; omega

set_option maxHeartbeats 800000 in
theorem tz64_any (x : Nat) (hx0 : x ≠ 0) (hx : x < 18446744073709551616) (w : World) (hT : Tab w) :
    Calls Tryd.prog 50 #[.int .u64 x] w fun e w' => e = .returned (.int .i64 (Lib.ctz 64 x)) ∧ w = w' := by
  obtain ⟨hlow, hk⟩ := Lib.lowest_bit 64 x hx0 hx
  obtain ⟨hi, htab⟩ := Lib.deBruijn64_at _ hk
  have hcell := hT.2 _ hi
  rw [htab] at hcell
  have key := tz64_key x _ hx hx0 hlow
  obtain ⟨k, hk'⟩ : ∃ k, k = Lib.ctz 64 x := ⟨_, rfl⟩
  rw [← hk'] at hcell key hi hk ⊢
  obtain ⟨idx, hidx⟩ : ∃ idx, idx = 2 ^ k * 285870213051353865 % 18446744073709551616 / 288230376151711744 := ⟨_, rfl⟩
  rw [← hidx] at hcell key hi
  have hx1 : ((x : Int) == 0) = false := by simp; omega
  clear hlow htab hT hk' hidx hx0 hx
  go_enter Tryd.func50, Tryd.ntmps50
  go_wp2_with (simp only [key])
  go_ret
  exact ⟨rfl, rfl⟩

theorem bits_andNot (a b : Nat) (ha : a < 18446744073709551616) (hb : b < 18446744073709551616) :
    bits .andNot .u64 (a : Int) (b : Int) = (((a ||| b) ^^^ b : Nat) : Int) := by
  have hx : (a ||| b) ^^^ b < 2 ^ 64 := Nat.xor_lt_two_pow (Nat.or_lt_two_pow (by omega) (by omega)) (by omega)
  have h1 : (BitVec.ofInt 64 (a : Int)).toNat = a := by
    rw [BitVec.ofInt_natCast, BitVec.toNat_ofNat]; exact Nat.mod_eq_of_lt (by omega)
  have h2 : (BitVec.ofInt 64 (b : Int)).toNat = b := by
    rw [BitVec.ofInt_natCast, BitVec.toNat_ofNat]; exact Nat.mod_eq_of_lt (by omega)
  have h3 : ∀ u v : BitVec 64, u &&& ~~~v = (u ||| v) ^^^ v := fun u v => by
    ext i hi
    simp
    cases u[i] <;> cases v[i] <;> rfl
  show IntKind.u64.wrap ((BitVec.ofInt 64 (a : Int) &&& ~~~ (BitVec.ofInt 64 (b : Int))).toNat : Int) = _
  rw [h3, BitVec.toNat_xor, BitVec.toNat_or, h1, h2, IntKind.wrap_u64]
  omega
theorem bits_and_i64 (a b : Nat) (ha : a < 9223372036854775808) (hb : b < 9223372036854775808) : bits .and .i64 (a : Int) (b : Int) = ((a &&& b : Nat) : Int) :=
  (bits_nat .i64 63 (by decide) (fun n h0 h1 => by rw [IntKind.wrap_i64]; omega) a b (by omega) (by omega)).1

theorem u64_div (a k : Nat) : (a : Int) / (k : Int) = ((a / k : Nat) : Int) := by simp
theorem mk_lt (c : Nat) (hc : c < 256) (n : Nat) : mk c n < 256 ^ n := by
  induction n with
  | zero => simp [mk]
  | succ n ih => rw [mk, Nat.pow_succ]; omega
theorem s1_lt (x : Nat) : s1 8 x < 18446744073709551616 := by
  have h1 : x / 2 &&& mk 85 8 ≤ mk 85 8 := Nat.and_le_right
  have h2 : x &&& mk 85 8 ≤ mk 85 8 := Nat.and_le_right
  rw [mk_85] at h1 h2
  unfold s1
  rw [mk_85]; omega
theorem s2_lt (x : Nat) : s2 8 x ≤ 7378697629483820646 := by
  have h1 : x / 4 &&& mk 51 8 ≤ mk 51 8 := Nat.and_le_right
  have h2 : x &&& mk 51 8 ≤ mk 51 8 := Nat.and_le_right
  rw [mk_51] at h1 h2
  unfold s2
  rw [mk_51]; omega
theorem s3_lt (x : Nat) : s3 8 x ≤ 1085102592571150095 := by
  have h1 : (x / 16 + x) &&& mk 15 8 ≤ mk 15 8 := Nat.and_le_right
  rw [mk_15] at h1
  unfold s3
  rw [mk_15]; omega

set_option maxHeartbeats 1600000 in
theorem ones_any (x : Nat) (hx : x < 18446744073709551616) (w : World) :
    Calls Tryd.prog 51 #[.int .u64 x] w fun e w' => e = .returned (.int .i64 (bitsL x).length) ∧ w = w' := by
  obtain ⟨a, ha⟩ : ∃ a, a = s1 8 x := ⟨_, rfl⟩
  obtain ⟨b, hb⟩ : ∃ b, b = s2 8 a := ⟨_, rfl⟩
  obtain ⟨c, hc⟩ : ∃ c, c = s3 8 b := ⟨_, rfl⟩
  obtain ⟨z1, hz1⟩ : ∃ z, z = c + c / 256 := ⟨_, rfl⟩
  obtain ⟨z2, hz2⟩ : ∃ z, z = z1 + z1 / 65536 := ⟨_, rfl⟩
  obtain ⟨z3, hz3⟩ : ∃ z, z = z2 + z2 / 4294967296 := ⟨_, rfl⟩
  have hct : c = tot 8 x := by rw [hc, hb, ha]; rfl
  have hend := count_end hx (by rw [hz1, hct]) hz2 hz3
  have la := s1_lt x
  have lb := s2_lt a
  have lc := s3_lt b
  rw [← ha] at la; rw [← hb] at lb; rw [← hc] at lc
  have e1 : IntKind.u64.wrap (bits BinOp.and IntKind.u64 ((x : Int) / 2) 6148914691236517205 + bits BinOp.and IntKind.u64 (x : Int) 6148914691236517205) = (a : Int) := by
    have h1 := bits_and_u64_nat (x / 2) 6148914691236517205 (by omega) (by decide)
    have h2 := bits_and_u64_nat x 6148914691236517205 (by omega) (by decide)
    have h3 : (x : Int) / 2 = ((x / 2 : Nat) : Int) := by simp
    have h4 : (6148914691236517205 : Int) = ((6148914691236517205 : Nat) : Int) := rfl
    rw [h3, h4, h1, h2, IntKind.wrap_u64]
    have h5 : a = (x / 2 &&& 6148914691236517205) + (x &&& 6148914691236517205) := by rw [ha, s1, mk_85]
    omega
  have e2 : IntKind.u64.wrap (bits BinOp.and IntKind.u64 ((a : Int) / 4) 3689348814741910323 + bits BinOp.and IntKind.u64 (a : Int) 3689348814741910323) = (b : Int) := by
    have h1 := bits_and_u64_nat (a / 4) 3689348814741910323 (by omega) (by decide)
    have h2 := bits_and_u64_nat a 3689348814741910323 (by omega) (by decide)
    have h3 : (a : Int) / 4 = ((a / 4 : Nat) : Int) := by simp
    have h4 : (3689348814741910323 : Int) = ((3689348814741910323 : Nat) : Int) := rfl
    rw [h3, h4, h1, h2, IntKind.wrap_u64]
    have h5 : b = (a / 4 &&& 3689348814741910323) + (a &&& 3689348814741910323) := by rw [hb, s2, mk_51]
    omega
  have e3 : bits BinOp.and IntKind.u64 (IntKind.u64.wrap ((b : Int) / 16 + (b : Int))) 1085102592571150095 = (c : Int) := by
    have h0 : IntKind.u64.wrap ((b : Int) / 16 + (b : Int)) = ((b / 16 + b : Nat) : Int) := by rw [IntKind.wrap_u64]; omega
    have h1 := bits_and_u64_nat (b / 16 + b) 1085102592571150095 (by omega) (by decide)
    have h4 : (1085102592571150095 : Int) = ((1085102592571150095 : Nat) : Int) := rfl
    rw [h0, h4, h1, hc, s3, mk_15]
  have e4 : IntKind.u64.wrap ((c : Int) + (c : Int) / 256) = (z1 : Int) := by rw [IntKind.wrap_u64]; omega
  have e5 : IntKind.u64.wrap ((z1 : Int) + (z1 : Int) / 65536) = (z2 : Int) := by rw [IntKind.wrap_u64]; omega
  have e6 : IntKind.u64.wrap ((z2 : Int) + (z2 : Int) / 4294967296) = (z3 : Int) := by rw [IntKind.wrap_u64]; omega
  have e7 : bits BinOp.and IntKind.i64 (z3 : Int) 127 = ((bitsL x).length : Int) := by
    have h1 := bits_and_i64 z3 127 (by omega) (by decide)
    have h4 : (127 : Int) = ((127 : Nat) : Int) := rfl
    rw [h4, h1, show 127 = 2 ^ 7 - 1 from rfl, Nat.and_two_pow_sub_one_eq_mod, ← hend.1]
  have e8 : IntKind.i64.wrap (z3 : Int) = (z3 : Int) := by rw [IntKind.wrap_i64]; omega
  clear ha hb hc hz1 hz2 hz3 hct hend la lb lc hx
  go_enter Tryd.func51, Tryd.ntmps51
  go_wp2
  go_ret
  exact ⟨rfl, rfl⟩

set_option maxHeartbeats 400000 in
theorem tcount_any (x : Nat) (hx : x < 18446744073709551616) (w : World) :
    Calls Tryd.prog 43 #[.int .u64 x] w fun e w' => e = .returned (.int .i64 (bitsL x).length) ∧ w = w' := by
  have HO := Lib.hid (ones_any x hx w); clear hx
  go_enter Tryd.func43, Tryd.ntmps43
  go_wp2_with fail
  refine HO.out.mono ?_
  rintro e w' ⟨rfl, rfl⟩
  go_wp2
  go_ret
  exact ⟨rfl, rfl⟩

theorem u64_pow (r : Nat) (hr : r < 64) : IntKind.u64.wrap (2 ^ r) = ((2 ^ r : Nat) : Int) := by
  have h2 : 2 ^ r < 18446744073709551616 := Nat.pow_lt_pow_right (n := 64) (by omega) hr
  rw [IntKind.wrap_u64, show (2 : Int) ^ r = ((2 ^ r : Nat) : Int) by simp]
  exact Int.emod_eq_of_lt (Int.natCast_nonneg _) (Int.ofNat_lt.2 h2)

set_option maxHeartbeats 400000 in
theorem placeOf_any (t : Nat) (w : World) (ht : t < 16777216) :
    Calls Tryd.prog 40 #[.int .i64 t] w fun e w' => e = .returned (.int .u64 ((2 ^ (t % 64) : Nat) : Int)) ∧ w = w' := by
  have e1 := u64_pow (t % 64) (by omega)
  go_enter Tryd.func40, Tryd.ntmps40
  go_wp2
  go_ret
  exact ⟨ret_u64 e1, rfl⟩
theorem meet_bit (p r : Nat) (hp : p < 18446744073709551616) (hr : r < 64) : (bits BinOp.and IntKind.u64 (p : Int) ((2 ^ r : Nat) : Int) != 0) = p.testBit r := by
  have h2 : 2 ^ r < 18446744073709551616 := Nat.pow_lt_pow_right (n := 64) (by omega) hr
  rw [bits_and_u64_nat _ _ hp h2]
  have hb : ∀ i, (p &&& 2 ^ r).testBit i = (p.testBit i && decide (r = i)) := fun i => by rw [Nat.testBit_and, Nat.testBit_two_pow]
  cases h : p.testBit r with
  | true =>
    have : p &&& 2 ^ r ≠ 0 := fun e => by
      have := hb r
      rw [e, h] at this
      simp at this
    simp; omega
  | false =>
    have : p &&& 2 ^ r = 0 := Nat.eq_of_testBit_eq fun i => by
      rw [hb, Nat.zero_testBit]
      by_cases e : r = i
      · subst e; simp [h]
      · simp [e]
    rw [this]; rfl
set_option maxHeartbeats 400000 in
theorem meet_any (p r : Nat) (hp : p < 18446744073709551616) (hr : r < 64) (w : World) :
    Calls Tryd.prog 39 #[.int .u64 p, .int .u64 ((2 ^ r : Nat) : Int)] w fun e w' => e = .returned (.bool (p.testBit r)) ∧ w = w' := by
  have e1 := meet_bit p r hp hr
  obtain ⟨q, hq⟩ : ∃ q, q = 2 ^ r := ⟨_, rfl⟩
  rw [← hq] at e1 ⊢
  clear hq
  go_enter Tryd.func39, Tryd.ntmps39
  go_wp2
  go_ret
  exact ⟨rfl, rfl⟩

set_option maxHeartbeats 400000 in
theorem isAddr_any (t : Int) (w : World) : Calls Tryd.prog 37 #[.int .i64 t] w fun e w' => e = .returned (.bool (decide (0 ≤ t ∧ t < 16777216))) ∧ w = w' := by
  by_cases h1 : 0 ≤ t
  · by_cases h2 : t < 16777216
    · rw [decide_eq_true (⟨h1, h2⟩ : 0 ≤ t ∧ t < 16777216)]
      go_enter Tryd.func37, Tryd.ntmps37
      go_wp2
      go_ret
      exact ⟨by simp, rfl⟩
    · rw [decide_eq_false (fun e : 0 ≤ t ∧ t < 16777216 => h2 e.2)]
      go_enter Tryd.func37, Tryd.ntmps37
      go_wp2
      go_ret
      exact ⟨by simp, rfl⟩
  · rw [decide_eq_false (fun e : 0 ≤ t ∧ t < 16777216 => h1 e.1)]
    have h3 : decide (0 ≤ t) = false := decide_eq_false h1
    go_enter Tryd.func37, Tryd.ntmps37
    go_wp2
    go_ret
    exact ⟨by simp, rfl⟩
set_option maxHeartbeats 400000 in
theorem hpage_any (t : Nat) (w : World) (ht : t < 16777216) : Calls Tryd.prog 38 #[.int .i64 t] w fun e w' => e = .returned (.int .i64 ((t / 64 : Nat) : Int)) ∧ w = w' := by
  go_enter Tryd.func38, Tryd.ntmps38
  go_wp2
  go_ret
  exact ⟨ret_i64 (by omega), rfl⟩
end Go.Proofs.YtpjpkpbfbbpmdaaDoor.Ts
