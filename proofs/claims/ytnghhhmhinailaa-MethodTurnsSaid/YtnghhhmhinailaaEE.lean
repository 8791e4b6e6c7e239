/- What bytes begin with, in plain words; the contract of the program's intOf. -/
import Derived.Test.YtnghhhmhinailaaED
set_option maxRecDepth 100000
namespace Go.Proofs.Ytnghhhmhinailaa.Dm
open Go Go.RowKit
theorem toList_size (s : ByteArray) : s.data.toList.length = s.size := rfl

theorem u8_not {u : UInt8} {c : UInt8} (h : u ≠ c) : ((u.toNat : Int) == (c.toNat : Int)) = false := by
  rw [beq_eq_false_iff_ne]
  intro h'
  exact h (UInt8.toNat_inj.1 (by omega))

theorem extract_drop (s : ByteArray) (j : Nat) : (s.extract j s.size).data.toList = s.data.toList.drop j := by
  rw [Lib.extract_data]
  exact List.take_of_length_le (by rw [List.length_drop]; exact Nat.le_refl _)
theorem extract_small (s : ByteArray) (j : Nat) (hs : s.size ≤ 140737488355328) : (s.extract j s.size).size ≤ 140737488355328 := by
  have e1 : (s.extract j s.size).size = (s.extract j s.size).data.toList.length := rfl
  have e2 : s.data.toList.length = s.size := rfl
  rw [e1, extract_drop, List.length_drop]
  omega

/-- Four stores into a result's own box. -/
theorem below_res {w w1 : World} {v0 v1 v2 v3 : Value} (h : Below w.heap.size w w1) : Below w.heap.size w ((((w1.setCell ⟨w.heap.size, 0, none⟩ v0).setCell ⟨w.heap.size, 1, none⟩ v1).setCell ⟨w.heap.size, 2, none⟩ v2).setCell ⟨w.heap.size, 3, none⟩ v3) :=
  (((h.setCell (p := ⟨w.heap.size, 0, none⟩) (Nat.le_refl _) _).setCell (p := ⟨w.heap.size, 1, none⟩) (Nat.le_refl _) _).setCell (p := ⟨w.heap.size, 2, none⟩) (Nat.le_refl _) _).setCell (p := ⟨w.heap.size, 3, none⟩) (Nat.le_refl _) _

theorem blen (B b : Nat) (acc : List UInt8) (w : World) (h : Lib.IsBuilderF 134 5 B b (Lib.byteCells acc) w) :
    Calls Try.prog 87 #[.pointer (some ⟨b, 0, none⟩)] w fun e w' => e = .returned (.int .i64 acc.length) ∧ w = w' := by
  refine (Try.Builder_Len_f B b _ w h).mono ?_
  rintro e w' ⟨rfl, rfl⟩
  rw [Lib.byteCells_length]
  exact ⟨rfl, rfl⟩

theorem fresh_above (w : World) (o : Obj) : Lib.IsBuilderF 134 5 (w.heap.size + 1) (w.heap.size + 1) (Lib.byteCells []) ((w.alloc o).alloc (.cells #[.pointer none, .slice none 0 0] 134)) := by
  have h := Lib.fresh_isBuilder 134 5 (w.alloc o)
  rw [World.size_alloc] at h
  exact Lib.IsBuilderF.of h

open Go Go.RowKit

/-- The text that bytes hold from here on, acc being read already, and where it ends. -/
def txF : List UInt8 → List UInt8 → Nat → Option (List UInt8 × Nat)
  | [], _, _ => none
  | [_], _, _ => none
  | c :: d :: r, acc, i => if 32 < acc.length then none else if c ≠ 0 then txF (d :: r) (acc ++ [c]) (i + 1) else if d = 0 then some (acc, i + 2) else if d ≠ 255 then none else txF r (acc ++ [0]) (i + 2)
/-- The number that bytes tell, the highest first. -/
def ivF (l : List UInt8) : Nat := l.foldl (fun u c => u * 256 + c.toNat) 0
/-- The integer of such a number. -/
def toI (u : Nat) : Int := wrap64 (bits BinOp.xor IntKind.u64 (u : Int) 9223372036854775808)
/-- The item that bytes begin with, and how many bytes it has. -/
def itF : List UInt8 → Option ((Int × Int × ByteArray) × Nat)
  | [] => none
  | c :: r => if c = 1 then (if r.length < 8 then none else some ((1, toI (ivF (r.take 8)), ⟨#[]⟩), 9)) else if c = 2 then (txF r [] 1).map (fun p => ((2, 0, ⟨p.1.toArray⟩), p.2)) else none
/-- How the program tells it. -/
def resF : Option ((Int × Int × ByteArray) × Nat) → Value
  | none => .tuple #[.agg #[.int .i64 0, .int .i64 0, .string ⟨#[]⟩, .slice none 0 0], .int .i64 0]
  | some ((k, n, t), m) => .tuple #[.agg #[.int .i64 k, .int .i64 n, .string t, .slice none 0 0], .int .i64 m]

theorem ivF_snoc (l : List UInt8) (c : UInt8) : ivF (l ++ [c]) = ivF l * 256 + c.toNat := by simp [ivF]
theorem fold_lt (l : List UInt8) : ∀ u k, u < 256 ^ k → l.foldl (fun u c => u * 256 + c.toNat) u < 256 ^ (k + l.length) := by
  induction l with
  | nil => intro u k h; simpa using h
  | cons c l ih =>
    intro u k h
    have hc := c.toNat_lt
    have := ih (u * 256 + c.toNat) (k + 1) (by rw [Nat.pow_succ]; omega)
    rw [List.foldl_cons, List.length_cons, show k + (l.length + 1) = k + 1 + l.length by omega]
    exact this
theorem ivF_lt (l : List UInt8) : ivF l < 256 ^ l.length := by simpa [ivF] using fold_lt l 0 0 (by decide)
theorem or_low (u c : Nat) (hu : u < 72057594037927936) (hc : c < 256) : bits BinOp.or IntKind.u64 ((u : Int) * 256) (c : Int) = ((u * 256 + c : Nat) : Int) := by
  have := u64_or_nat (u * 256) c (by omega) (by omega)
  rw [nat_join 8 (u * 256) c (by omega) hc] at this
  simpa using this

set_option maxHeartbeats 1600000 in
theorem intOf_any (s : ByteArray) (w : World) (r : List UInt8) (hs : s.data.toList = 1 :: r) : Calls Try.prog 77 #[.string s] w fun e w' => e = .returned (resF (itF s.data.toList)) ∧ Below w.heap.size w w' := by
  have hsz : s.size = 1 + r.length := by
    have : s.data.toList.length = s.size := rfl
    rw [← this, hs, List.length_cons]
    omega
  by_cases hl : s.size < 9
  · have HR : Hid (resF (itF s.data.toList) = .tuple #[.agg #[.int .i64 0, .int .i64 0, .string ⟨#[]⟩, .slice none 0 0], .int .i64 0]) := Lib.hid (by
      rw [hs, itF, if_pos rfl, if_pos (by omega)]
      rfl)
    clear hs hsz
    go_enter Try.func77, Try.ntmps77
    go_wp2
    refine bodyPost_ret (v := .tuple #[.agg #[.int .i64 0, .int .i64 0, .string ⟨#[]⟩, .slice none 0 0], .int .i64 0]) (by simp [results, Try.results77, go_sem]) rfl ⟨by rw [HR.out], by first | exact (Below.refl _ _).alloc (Nat.le_refl _) _ | exact below_res ((Below.refl _ _).alloc (Nat.le_refl _) _)⟩
  · have HR : Hid (resF (itF s.data.toList) = .tuple #[.agg #[.int .i64 1, .int .i64 (toI (ivF (r.take 8))), .string ⟨#[]⟩, .slice none 0 0], .int .i64 9]) := Lib.hid (by
      rw [hs, itF, if_pos rfl, if_neg (by omega)]
      rfl)
    have HS := Lib.hid hs; clear hs
    go_enter Try.func77, Try.ntmps77
    go_wp2
    go_loopw [4, 5, 10] (fun vu _ vi wr => ∃ j : Nat, j ≤ 8 ∧ vi = .int .i64 j ∧ vu = .int .u64 (ivF (r.take j)) ∧ wr = w.alloc (.cells #[.int .i64 0, .int .i64 0, .string ⟨#[]⟩, .slice none 0 0] 33)) (fun _ _ i _ => 8 - (intOf i).toNat)
    case atStart => exact ⟨0, by omega, rfl, rfl, rfl⟩
    case round =>
      obtain ⟨j, hj, rfl, rfl, rfl⟩ := hrel
      by_cases hlt : j < 8
      · have h1 : 1 + j < s.size := by omega
        have hjr : j < r.length := by omega
        have hsj : s[1 + j] = r[j] := by
          have e : s.data.toList[1 + j]'(by rw [HS.out, List.length_cons]; omega) = r[j] := by simp [HS.out, Nat.add_comm 1 j]
          exact (show s[1 + j] = s.data.toList[1 + j]'(by rw [HS.out, List.length_cons]; omega) from rfl).trans e
        have hu : ivF (r.take j) < 72057594037927936 := by
          refine Nat.lt_of_lt_of_le (ivF_lt _) ?_
          refine Nat.le_trans (Nat.pow_le_pow_right (n := 256) (j := 7) (by decide) ?_) (by decide)
          have := List.length_take_le j r
          omega
        have hc := s[1 + j].toNat_lt
        have hw1 : IntKind.u64.wrap ((ivF (r.take j) : Int) * 256) = (ivF (r.take j) : Int) * 256 := by simp [IntKind.wrap, IntKind.signed, IntKind.bits]; omega
        have hw2 : IntKind.u64.wrap (s[1 + j].toNat : Int) = (s[1 + j].toNat : Int) := by simp [IntKind.wrap, IntKind.signed, IntKind.bits]; omega
        have hor := or_low (ivF (r.take j)) s[1 + j].toNat hu hc
        have hst : ivF (r.take (j + 1)) = ivF (r.take j) * 256 + s[1 + j].toNat := by rw [List.take_succ_eq_append_getElem hjr, ivF_snoc, hsj]
        have HST := Lib.hid hst; have HOR := Lib.hid hor; have HW1 := Lib.hid hw1; have HW2 := Lib.hid hw2
        clear hsj hu hc hw1 hw2 hor hst
        go_wp2_with fail
        go_roundw
        case rel => exact ⟨j + 1, by omega, by go_num, by rw [HW1.out, HW2.out, HOR.out, HST.out], trivial⟩
        case measure => simp [intOf]; omega
      · obtain rfl : j = 8 := by omega
        go_wp2_with fail
        refine bodyPost_ret (v := .tuple #[.agg #[.int .i64 1, .int .i64 (toI (ivF (r.take 8))), .string ⟨#[]⟩, .slice none 0 0], .int .i64 9]) (by simp [results, Try.results77, go_sem, toI]) rfl ⟨by rw [HR.out], by first | exact (Below.refl _ _).alloc (Nat.le_refl _) _ | exact below_res ((Below.refl _ _).alloc (Nat.le_refl _) _)⟩
end Go.Proofs.Ytnghhhmhinailaa.Dm
