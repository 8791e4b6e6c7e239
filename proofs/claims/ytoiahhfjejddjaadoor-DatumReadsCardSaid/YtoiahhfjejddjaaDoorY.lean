/- The contract of the reference's one on integers, and on whatever bytes; other memory stands. -/
import Derived.Test.YtoiahhfjejddjaaDoorX
import Derived.Test.YtoiahhfjejddjaaDoorW
set_option maxRecDepth 100000
namespace Go.Proofs.YtoiahhfjejddjaaDoor
open Go Go.RowKit

theorem toI_wrap (u : Nat) (hu : u < 18446744073709551616) : toI u = wrap64 ((u : Int) + 9223372036854775808) := by
  have h := uOf_eq (wrap64 (u : Int)) (by unfold wrap64; omega) (by unfold wrap64; omega)
  unfold uOf at h
  rw [IntKind.wrap_u64, show wrap64 (u : Int) % 18446744073709551616 = (u : Int) by unfold wrap64; omega] at h
  unfold toI
  rw [h]
  unfold wrap64
  omega
/-- The first byte's highest bit turned. -/
def fl : List UInt8 → List UInt8
  | [] => []
  | c :: r => byt ((c.toNat : Int) + 128) :: r
theorem fl_snoc {l : List UInt8} (h : l ≠ []) (c : UInt8) : fl (l ++ [c]) = fl l ++ [c] := by
  match l with
  | [] => exact absurd rfl h
  | d :: l => rfl
theorem fl_length (l : List UInt8) : (fl l).length = l.length := by
  match l with
  | [] => rfl
  | d :: l => rfl
theorem fold_split (l : List UInt8) : ∀ u, l.foldl (fun u c => u * 256 + c.toNat) u = u * 256 ^ l.length + ivF l := by
  induction l with
  | nil => intro u; simp [ivF]
  | cons c l ih =>
    intro u
    have e : ivF (c :: l) = c.toNat * 256 ^ l.length + ivF l := by
      have := ih (0 * 256 + c.toNat)
      simpa [ivF] using this
    rw [List.foldl_cons, ih, e, List.length_cons, Nat.pow_succ, Nat.add_mul, Nat.mul_assoc, Nat.mul_comm 256]
    omega
theorem fl_toI (l : List UInt8) (h : l.length = 8) : wrap64 (ivF (fl l) : Int) = toI (ivF l) := by
  have hl := ivF_lt l
  rw [h] at hl
  rw [toI_wrap _ (by simpa using hl)]
  match l, h with
  | c :: r, h =>
    have hr : r.length = 7 := by simpa using h
    have e : ∀ d : UInt8, ivF (d :: r) = d.toNat * 72057594037927936 + ivF r := by
      intro d
      have := fold_split r (0 * 256 + d.toNat)
      rw [hr] at this
      simpa [ivF] using this
    rw [fl, e, e]
    have hb := byt_nat ((c.toNat : Int) + 128)
    have hc := c.toNat_lt
    unfold wrap64
    omega
theorem or_i64 (N : Nat) (b : Nat) (hN : N < 72057594037927936) (hb : b < 256) : bits BinOp.or IntKind.i64 (wrap64 ((N : Int) * 256)) (b : Int) = wrap64 (((N * 256 + b : Nat)) : Int) := by
  have h1 : (BitVec.ofInt 64 (wrap64 ((N : Int) * 256))).toNat = N * 256 := by rw [BitVec.toNat_ofInt]; unfold wrap64; omega
  have h2 : (BitVec.ofInt 64 (b : Int)).toNat = b := by rw [BitVec.toNat_ofInt]; omega
  show IntKind.i64.wrap ((BitVec.ofInt 64 (wrap64 ((N : Int) * 256)) ||| BitVec.ofInt 64 (b : Int)).toNat : Int) = _
  rw [BitVec.toNat_or, h1, h2, nat_join 8 (N * 256) b (by omega) hb, IntKind.wrap_i64]
  unfold wrap64
  omega

theorem wrap64_small (N : Nat) (hN : N < 9223372036854775808) : wrap64 (N : Int) = (N : Int) := by
  unfold wrap64
  omega
theorem step0 (c : UInt8) : bits BinOp.or IntKind.i64 (wrap64 (wrap64 ((ivF (fl []) : Nat) : Int) * 256)) (wrap64 (bits BinOp.xor IntKind.u8 (c.toNat : Int) 128)) = wrap64 ((ivF (fl [c]) : Nat) : Int) := by
  have hc := c.toNat_lt
  have hb := byt_nat ((c.toNat : Int) + 128)
  have hb2 := (byt ((c.toNat : Int) + 128)).toNat_lt
  have h := or_i64 0 (byt ((c.toNat : Int) + 128)).toNat (by omega) hb2
  rw [xor128 _ (by omega) (by omega), ← hb, wrap64_small (byt ((c.toNat : Int) + 128)).toNat (by omega)]
  have hw : wrap64 0 = 0 := by unfold wrap64; omega
  simpa [ivF, fl, hw] using h
theorem stepq (l : List UInt8) (hne : l ≠ []) (hl : l.length ≤ 7) (c : UInt8) : bits BinOp.or IntKind.i64 (wrap64 (wrap64 ((ivF (fl l) : Nat) : Int) * 256)) (wrap64 (c.toNat : Int)) = wrap64 ((ivF (fl (l ++ [c])) : Nat) : Int) := by
  have hc := c.toNat_lt
  have hN : ivF (fl l) < 72057594037927936 := by
    refine Nat.lt_of_lt_of_le (ivF_lt _) ?_
    refine Nat.le_trans (Nat.pow_le_pow_right (n := 256) (j := 7) (by decide) ?_) (by decide)
    rw [fl_length]
    exact hl
  rw [fl_snoc hne, ivF_snoc, wrap64_small _ (by omega), wrap64_small c.toNat (by omega), or_i64 _ _ hN hc]

set_option maxHeartbeats 3200000 in
theorem one_int (s : ByteArray) (at' : Nat) (w : World) (hs : s.size ≤ 140737488355000) (hat : at' < s.size) (h1 : s[at'] = 1) : Calls Tryd.prog 46 #[.string s, .int .i64 at'] w fun e w' => e = .returned (resO at' (itF (s.data.toList.drop at'))) ∧ Below w.heap.size w w' := by
  have HLEN := Lib.hid (toList_size s)
  obtain ⟨r, hr⟩ : ∃ r, r = s.data.toList.drop (at' + 1) := ⟨_, rfl⟩
  have hrl : r.length = s.size - (at' + 1) := by rw [hr, List.length_drop, HLEN.out]
  have hd : s.data.toList.drop at' = s[at'] :: r := by rw [hr]; exact List.drop_eq_getElem_cons (by have := HLEN.out; omega)
  have b1 : ((s[at'].toNat : Int) == 1) = true := by rw [h1]; rfl
  have hat2 : ¬ ((s.size : Int) ≤ (at' : Int)) := by omega
  have hat3 : (at' : Int) < (s.size : Int) := by omega
  by_cases hl : s.size < at' + 9
  · have HN : Hid (itF (s.data.toList.drop at') = none) := Lib.hid (by rw [hd, h1, itF, if_pos rfl, if_pos (by omega)])
    have hl2 : (s.size : Int) < (at' : Int) + 9 := by omega
    clear hd h1 hr
    go_enter Tryd.func46, Tryd.ntmps46
    go_wp2_with fail
    have HBW : Hid (Below w.heap.size w ((w.alloc (.cells #[.int .i64 0, .int .i64 0, .string ⟨#[]⟩, .slice none 0 0] 24)).alloc (.cells #[.int .i64 0, .int .i64 0, .string ⟨#[]⟩, .slice none 0 0] 24))) := Lib.hid (((Below.refl _ _).alloc (Nat.le_refl _) _).alloc (by simp) _)
    exact bodyPost_ret (v := .tuple #[.agg #[.int .i64 0, .int .i64 0, .string ⟨#[]⟩, .slice none 0 0], .int .i64 (-1)]) (by simp [results, Tryd.results46, go_sem]) rfl ⟨by rw [HN.out]; rfl, by first | exact HBW.out | exact below_res HBW.out⟩
  · have HN : Hid (itF (s.data.toList.drop at') = some ((1, toI (ivF (r.take 8)), ⟨#[]⟩), 9)) := Lib.hid (by rw [hd, h1, itF, if_pos rfl, if_neg (by omega)])
    have hl2 : ¬ (s.size : Int) < (at' : Int) + 9 := by omega
    have HR := Lib.hid hr
    clear hd h1 hr
    go_enter Tryd.func46, Tryd.ntmps46
    go_wp2_with fail
    go_loopw [7, 8, 9] (fun vn vi _ wr => ∃ q : Nat, q ≤ 8 ∧ vi = .int .i64 ((q : Int) + 1) ∧ vn = .int .i64 (wrap64 (ivF (fl (r.take q)))) ∧ wr = (w.alloc (.cells #[.int .i64 0, .int .i64 0, .string ⟨#[]⟩, .slice none 0 0] 24)).alloc (.cells #[.int .i64 0, .int .i64 0, .string ⟨#[]⟩, .slice none 0 0] 24)) (fun _ i _ _ => 9 - (intOf i).toNat)
    case atStart => exact ⟨0, by omega, rfl, by simp [ivF, fl, wrap64], rfl⟩
    case round =>
      obtain ⟨q, hq, rfl, rfl, rfl⟩ := hrel
      by_cases hlt : q < 8
      · have hqr : q < r.length := by omega
        have hT := List.take_succ_eq_append_getElem hqr
        have hsq : s[at' + (q + 1)]'(by omega) = r[q] := by
          have e : r[q] = s.data.toList[at' + (q + 1)]'(by have := HLEN.out; omega) := by simp [HR.out, Nat.add_assoc, Nat.add_comm 1 q]
          exact (show s[at' + (q + 1)]'(by omega) = s.data.toList[at' + (q + 1)]'(by have := HLEN.out; omega) from rfl).trans e.symm
        have HSQ := Lib.hid hsq; have HT := Lib.hid hT; clear hsq hT
        by_cases hq0 : q = 0
        · subst hq0
          go_wp2_with fail
          go_roundw
          case rel =>
            refine ⟨1, by omega, rfl, ?_, trivial⟩
            rw [HT.out, ← HSQ.out]
            exact congrArg _ (step0 _)
          case measure => simp [intOf]
        · have hne : r.take q ≠ [] := by
            intro h
            have := congrArg List.length h
            rw [List.length_take, List.length_nil] at this
            omega
          have hl7 : (r.take q).length ≤ 7 := by rw [List.length_take]; omega
          have HST := Lib.hid (stepq (r.take q) hne hl7 r[q])
          clear hne hl7
          go_wp2_with fail
          go_roundw
          case rel =>
            refine ⟨q + 1, by omega, by go_num, ?_, trivial⟩
            rw [HT.out, ← HST.out, ← HSQ.out]
          case measure => simp [intOf]; omega
      · obtain rfl : q = 8 := by omega
        have HF := Lib.hid (fl_toI (r.take 8) (by rw [List.length_take]; omega))
        have HBW : Hid (Below w.heap.size w ((w.alloc (.cells #[.int .i64 0, .int .i64 0, .string ⟨#[]⟩, .slice none 0 0] 24)).alloc (.cells #[.int .i64 0, .int .i64 0, .string ⟨#[]⟩, .slice none 0 0] 24))) := Lib.hid (((Below.refl _ _).alloc (Nat.le_refl _) _).alloc (by simp) _)
        go_wp2_with fail
        exact bodyPost_ret (v := .tuple #[.agg #[.int .i64 1, .int .i64 (wrap64 (ivF (fl (r.take 8)))), .string ⟨#[]⟩, .slice none 0 0], .int .i64 ((at' + 9 : Nat) : Int)]) (by simp [results, Tryd.results46, go_sem]) rfl ⟨by rw [HN.out, resO, HF.out], by first | exact HBW.out | exact below_res HBW.out | exact ((Below.refl _ _).alloc (Nat.le_refl _) _).alloc (by simp) _⟩

set_option maxHeartbeats 1600000 in
/-- What the reference's one tells, at whatever place. -/
theorem one_any (s : ByteArray) (at' : Nat) (w : World) (hs : s.size ≤ 140737488355000) : Calls Tryd.prog 46 #[.string s, .int .i64 at'] w fun e w' => e = .returned (resO at' (itF (s.data.toList.drop at'))) ∧ Below w.heap.size w w' := by
  have HLEN := Lib.hid (toList_size s)
  by_cases hat : at' < s.size
  · by_cases h1 : s[at'] = 1
    · exact one_int s at' w hs hat h1
    · by_cases h2 : s[at'] = 2
      · exact one_text s at' w hs hat h2
      · have hd : s.data.toList.drop at' = s[at'] :: s.data.toList.drop (at' + 1) := List.drop_eq_getElem_cons (by have := HLEN.out; omega)
        have HN : Hid (itF (s.data.toList.drop at') = none) := Lib.hid (by rw [hd, itF, if_neg h1, if_neg h2])
        have b1 : ((s[at'].toNat : Int) == 1) = false := u8_not (c := 1) h1
        have b2 : ((s[at'].toNat : Int) != 2) = true := by
          have := u8_not (c := 2) h2
          rw [bne, show (2 : Int) = ((2 : UInt8).toNat : Int) from rfl, this]
          rfl
        have hat2 : ¬ ((s.size : Int) ≤ (at' : Int)) := by omega
        have hat3 : (at' : Int) < (s.size : Int) := by omega
        clear hd h1 h2
        go_enter Tryd.func46, Tryd.ntmps46
        go_wp2_with fail
        have HBW : Hid (Below w.heap.size w ((w.alloc (.cells #[.int .i64 0, .int .i64 0, .string ⟨#[]⟩, .slice none 0 0] 24)).alloc (.cells #[.int .i64 0, .int .i64 0, .string ⟨#[]⟩, .slice none 0 0] 24))) := Lib.hid (((Below.refl _ _).alloc (Nat.le_refl _) _).alloc (by simp) _)
        exact bodyPost_ret (v := .tuple #[.agg #[.int .i64 0, .int .i64 0, .string ⟨#[]⟩, .slice none 0 0], .int .i64 (-1)]) (by simp [results, Tryd.results46, go_sem]) rfl ⟨by rw [HN.out]; rfl, by first | exact HBW.out | exact below_res HBW.out⟩
  · have HN : Hid (itF (s.data.toList.drop at') = none) := Lib.hid (by
      rw [List.drop_eq_nil_of_le (by have := HLEN.out; omega)]
      rfl)
    have hat2 : (s.size : Int) ≤ (at' : Int) := by omega
    go_enter Tryd.func46, Tryd.ntmps46
    go_wp2_with fail
    have HBW : Hid (Below w.heap.size w ((w.alloc (.cells #[.int .i64 0, .int .i64 0, .string ⟨#[]⟩, .slice none 0 0] 24)).alloc (.cells #[.int .i64 0, .int .i64 0, .string ⟨#[]⟩, .slice none 0 0] 24))) := Lib.hid (((Below.refl _ _).alloc (Nat.le_refl _) _).alloc (by simp) _)
    exact bodyPost_ret (v := .tuple #[.agg #[.int .i64 0, .int .i64 0, .string ⟨#[]⟩, .slice none 0 0], .int .i64 (-1)]) (by simp [results, Tryd.results46, go_sem]) rfl ⟨by rw [HN.out]; rfl, by first | exact HBW.out | exact below_res HBW.out⟩
end Go.Proofs.YtoiahhfjejddjaaDoor
